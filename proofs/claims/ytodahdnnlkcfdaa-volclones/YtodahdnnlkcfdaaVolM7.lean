/- Laid together: Linksm, Filesm. -/
import Derived.Test.YtodahdnnlkcfdaaVolM6
/- Which links a volume may have, by the program. -/
namespace Go.Proofs.Ytodahdnnlkcfdaa
open Go.RowKit

theorem says_is {e : Ending} {P : Prop} {b : Bool} (h : SaysB e P) (hb : b = true ↔ P) : e = .returned (.bool b) := by
  obtain ⟨b', rfl, h'⟩ := h
  have : b' = b := by rw [Bool.eq_iff_iff, h', hb]
  rw [this]
theorem mayHave_is (v : Value) (f : FileD) (n : Nat) (w : World) (b : Bool) (hv : FileVal w v f) (hb : b = true ↔ MayN f.id f.dir n) :
    Calls Try.prog 91 #[v, .int .i64 n] w fun e w' => e = .returned (.bool b) ∧ Below w.heap.size w w' :=
  (mayHave_any v f n w hv).mono fun _ _ ⟨h1, h2⟩ => ⟨says_is h1 hb, h2⟩
def CountP (fs : List FileD) : Prop := ∀ k, k < fs.length → MayN (fs.getD k f0).id (fs.getD k f0).dir (linksN fs (fs.getD k f0).id)
theorem linksIn_get {fs : List FileD} (h : ∀ k, k < fs.length → ∀ i, i < (fs.getD k f0).list.length → (atI fs ((fs.getD k f0).list.getD i lk0).2).isSome = true) : LinksIn fs := by
  intro f hf l hl
  obtain ⟨k, hk, rfl⟩ := List.getElem_of_mem hf
  have e : fs.getD k f0 = fs[k] := by simp [List.getD, hk]
  obtain ⟨i, hi, rfl⟩ := List.getElem_of_mem hl
  have h2 := h k hk i (by rw [e]; exact hi)
  rw [e] at h2
  have e2 : fs[k].list.getD i lk0 = fs[k].list[i] := by simp only [List.getD, List.getElem?_eq_getElem hi, Option.getD_some]
  rw [e2] at h2
  exact h2
theorem linksIn_at {fs : List FileD} (h : LinksIn fs) {k i : Nat} (hk : k < fs.length) (hi : i < (fs.getD k f0).list.length) : (atI fs ((fs.getD k f0).list.getD i lk0).2).isSome = true := by
  refine h _ (getD_mem hk) _ ?_
  have e2 : (fs.getD k f0).list.getD i lk0 = (fs.getD k f0).list[i] := by rw [List.getD_eq_getElem?_getD (l := (fs.getD k f0).list), List.getElem?_eq_getElem hi]; rfl
  rw [e2]; exact List.getElem_mem hi
theorem alloc_five (w : World) (c0 c1 c2 c3 c4 : Value) (t : TypeId) : (w.alloc (.cells #[c0, c1, c2, c3, c4] t)).heap[w.heap.size]? = some (.cells #[c0, c1, c2, c3, c4] t (0, 0)) := heap_alloc_new w _

set_option maxRecDepth 100000 in
set_option maxHeartbeats 4000000 in
theorem linksm_any (B : Nat) (d : VolD) (w : World) (hv : VolAt w B d) (hs : SmallV d) :
    Calls Try.prog 86 #[.pointer (some ⟨B, 0, none⟩)] w fun e w' => SaysB e (LinksIn d.files ∧ CountP d.files) ∧ Below w.heap.size w w' := by
  have HV : Hid (VolAt w B d) := hv
  have HSV : Hid (SmallV d) := hs
  obtain ⟨a, c, hB, hf, _⟩ := hv
  have HBK : Hid (w.heap[B]? = some (.cells #[.int .i64 d.id, .int .i64 d.fr, .bool d.snap, .slice a d.files.length c, .int .i64 d.next] 115 (0, 0))) := hB
  obtain ⟨x0, x1, x2, x3, x4, _⟩ := five hB
  have hlt := block_lt_of_cell x0
  simp only at hlt
  have HF : Hid (FilesAt w a d.files) := hf
  have hl := hs.1
  have HX : Hid (∀ w', VolAt w' B d → VolAt w' B d) := fun _ h => h
  clear hf hB x0 x1 x2 x4 hs
  obtain ⟨vid, fr, snap, fs, next⟩ := d
  simp only at *
  go_enter Try.func86, Try.ntmps86
  go_wp2_with fail
  clear x3
  go_loopw [15] (fun i wr => ∃ (k : Nat), k ≤ fs.length ∧ i = .int .i64 k ∧ Below w.heap.size w wr ∧ Hid (∀ j, j < k → ∀ i, i < (fs.getD j f0).list.length → (atI fs ((fs.getD j f0).list.getD i lk0).2).isSome = true))
    (fun i _ => fs.length - (intOf i).toNat)
  case atStart => exact ⟨0, by omega, rfl, nwR w, fun j hj => by omega⟩
  case round =>
    obtain ⟨k, hk, rfl, hb, HE⟩ := hrel
    by_cases hkl : k < fs.length
    · have hkli : (k : Int) < (fs.length : Int) := by omega
      obtain ⟨b1, o1, rfl, hfi⟩ := (HF.out.below hb).file hkl
      obtain ⟨ab, cb, al, cl, ⟨c0, c1, c2, c3, c4⟩, _, hil, _⟩ := hfi
      have HK : Hid ((∀ i, i < (fs.getD k f0).list.length → (atI fs ((fs.getD k f0).list.getD i lk0).2).isSome = true) → ∀ j, j < k + 1 → ∀ i, i < (fs.getD j f0).list.length → (atI fs ((fs.getD j f0).list.getD i lk0).2).isSome = true) := fun h j hj => by
        by_cases e : j = k
        · subst e; exact h
        · exact HE.out j (by omega)
      have HNO : Hid (∀ i, i < (fs.getD k f0).list.length → (atI fs ((fs.getD k f0).list.getD i lk0).2).isSome = false → ¬ (LinksIn fs ∧ CountP fs)) := fun i hi hn h => by
        have := linksIn_at h.1 hkl hi
        rw [hn] at this; cases this
      have HLI : Hid (LinksAt wr al (fs.getD k f0).list) := hil
      have hsm := (HSV.out.2 _ (getD_mem hkl)).2
      generalize fs.getD k f0 = f at c0 c1 c2 c3 c4 HLI HK HNO hsm
      obtain ⟨fid, fdir, fsize, fbl, fli⟩ := f
      simp only at c0 c1 c2 c3 c4 HLI HK HNO hsm
      clear hil
      go_wp2_with fail
      have HB1 : Hid (Below w.heap.size w (wr.alloc (.cells #[.int .i64 fid, .bool fdir, .int .i64 fsize, .slice ab fbl.length cb, .slice al fli.length cl] 84))) := nwA hb _
      have HL1 : Hid (LinksAt (wr.alloc (.cells #[.int .i64 fid, .bool fdir, .int .i64 fsize, .slice ab fbl.length cb, .slice al fli.length cl] 84)) al fli) := HLI.out.below (nwA (nwR wr) _)
      generalize wr.alloc (.cells #[.int .i64 fid, .bool fdir, .int .i64 fsize, .slice ab fbl.length cb, .slice al fli.length cl] 84) = W1 at HB1 HL1 ⊢
      clear c0 c1 c2 c3 c4 hb HLI
      go_loopw [22] (fun i wq => ∃ (j : Nat), j ≤ fli.length ∧ i = .int .i64 j ∧ Below W1.heap.size W1 wq ∧ Hid (∀ i, i < j → (atI fs (fli.getD i lk0).2).isSome = true))
        (fun i _ => fli.length - (intOf i).toNat)
      case atStart => exact ⟨0, by omega, rfl, nwR W1, fun j hj => by omega⟩
      case round =>
        obtain ⟨j, hj, rfl, hbq, HE2⟩ := hrel
        have HBQ : Hid (Below w.heap.size w wr) := nwT HB1.out hbq
        by_cases hjl : j < fli.length
        · have hjli : (j : Int) < (fli.length : Int) := by omega
          obtain ⟨b2, o2, rfl, d1, d2⟩ := (HL1.out.below hbq).cell hjl
          have HN2 : Hid ((atI fs (fli.getD j lk0).2).isSome = true → ∀ i, i < j + 1 → (atI fs (fli.getD i lk0).2).isSome = true) := fun h i hi => by
            by_cases e : i = j
            · subst e; exact h
            · exact HE2.out i (by omega)
          have HNJ : Hid ((atI fs (fli.getD j lk0).2).isSome = false → ¬ (LinksIn fs ∧ CountP fs)) := HNO.out j hjl
          generalize fli.getD j lk0 = x at d1 d2 HN2 HNJ
          obtain ⟨y1, y2⟩ := x
          simp only at d1 d2 HN2 HNJ
          go_wp2_with fail
          refine (index_any B ⟨vid, fr, snap, fs, next⟩ y2 _ (HV.out.below (nwA HBQ.out _)) hl).mono ?_
          rintro e w2 ⟨rfl, hb2⟩
          have HB2 : Hid (Below W1.heap.size W1 w2) := nwT (nwA hbq _) hb2
          simp only
          clear hb2
          cases hat : atI fs y2 with
          | none =>
            have HR : Hid (¬ (LinksIn fs ∧ CountP fs)) := HNJ.out (by rw [hat]; rfl)
            simp only [optI]
            clear HN2 HNJ
            go_wp2_with fail
            go_ret
            exact ⟨says_no HR.out, nwT HB1.out HB2.out⟩
          | some q =>
            have HR : Hid (∀ i, i < j + 1 → (atI fs (fli.getD i lk0).2).isSome = true) := HN2.out (by rw [hat]; rfl)
            have hq0 : ¬ (q : Int) < 0 := by omega
            simp only [optI]
            clear HN2 HNJ
            go_wp2_with fail
            go_roundw
            case rel => exact ⟨j + 1, by omega, by go_num, HB2.out, HR⟩
            case measure => simp [intOf]; omega
        · have hjli : ¬ (j : Int) < (fli.length : Int) := by omega
          have HR : Hid (∀ j, j < k + 1 → ∀ i, i < (fs.getD j f0).list.length → (atI fs ((fs.getD j f0).list.getD i lk0).2).isSome = true) := HK.out (fun i hi => HE2.out i (by omega))
          go_wp2_with fail
          go_roundw
          case rel => exact ⟨k + 1, by omega, by go_num, HBQ.out, HR⟩
          case measure => simp [intOf]; omega
    · have hkli : ¬ (k : Int) < (fs.length : Int) := by omega
      have HLI : Hid (LinksIn fs) := linksIn_get (fun j hj => HE.out j (by omega))
      obtain ⟨y0, y1, y2, y3, y4, _⟩ := five ((hb.block _ (Array.getElem?_eq_some_iff.1 HBK.out).1).trans HBK.out)
      clear y0 y1 y2 y4 HE
      go_wp2_with fail
      clear y3
      generalize hWr : wr = Wa at hb ⊢
      clear hWr
      go_loopw [39] (fun i wr => ∃ (k : Nat), k ≤ fs.length ∧ i = .int .i64 k ∧ Below w.heap.size w wr ∧ Hid (∀ j, j < k → MayN (fs.getD j f0).id (fs.getD j f0).dir (linksN fs (fs.getD j f0).id)))
        (fun i _ => fs.length - (intOf i).toNat)
      case atStart => exact ⟨0, by omega, rfl, hb, fun j hj => by omega⟩
      case round =>
        obtain ⟨k, hk, rfl, hb, HE⟩ := hrel
        by_cases hkl : k < fs.length
        · have hkli : (k : Int) < (fs.length : Int) := by omega
          obtain ⟨b1, o1, rfl, hfi⟩ := (HF.out.below hb).file hkl
          obtain ⟨ab, cb, al, cl, ⟨c0, c1, c2, c3, c4⟩, hib, hil⟩ := hfi
          have HK : Hid (MayN (fs.getD k f0).id (fs.getD k f0).dir (linksN fs (fs.getD k f0).id) → ∀ j, j < k + 1 → MayN (fs.getD j f0).id (fs.getD j f0).dir (linksN fs (fs.getD j f0).id)) := fun h j hj => by
            by_cases e : j = k
            · subst e; exact h
            · exact HE.out j (by omega)
          have HNO : Hid (¬ MayN (fs.getD k f0).id (fs.getD k f0).dir (linksN fs (fs.getD k f0).id) → ¬ (LinksIn fs ∧ CountP fs)) := fun hn h => hn (h.2 k hkl)
          have HVF : Hid (FileVal wr (.agg #[.int .i64 (fs.getD k f0).id, .bool (fs.getD k f0).dir, .int .i64 (fs.getD k f0).size, .slice ab (fs.getD k f0).blocks.length cb, .slice al (fs.getD k f0).list.length cl]) (fs.getD k f0)) := ⟨ab, cb, al, cl, rfl, hib, hil⟩
          generalize fs.getD k f0 = f at c0 c1 c2 c3 c4 HVF HK HNO
          obtain ⟨fid, fdir, fsize, fbl, fli⟩ := f
          simp only at c0 c1 c2 c3 c4 HVF HK HNO
          clear hib hil
          go_wp2_with fail
          have HB1 : Hid (Below w.heap.size w (wr.alloc (.cells #[.int .i64 fid, .bool fdir, .int .i64 fsize, .slice ab fbl.length cb, .slice al fli.length cl] 84))) := nwA hb _
          have HV1 := HVF.out.below (nwA (nwR wr) (.cells #[.int .i64 fid, .bool fdir, .int .i64 fsize, .slice ab fbl.length cb, .slice al fli.length cl] 84))
          obtain ⟨t0, t1, t2, t3, t4, _⟩ := five (alloc_five wr (.int .i64 fid) (.bool fdir) (.int .i64 fsize) (.slice ab fbl.length cb) (.slice al fli.length cl) 84)
          generalize wr.alloc (.cells #[.int .i64 fid, .bool fdir, .int .i64 fsize, .slice ab fbl.length cb, .slice al fli.length cl] 84) = W1 at HB1 HV1 t0 t1 t2 t3 t4 ⊢
          have HV2 : Hid (FileVal W1 (.agg #[.int .i64 fid, .bool fdir, .int .i64 fsize, .slice ab fbl.length cb, .slice al fli.length cl]) ⟨fid, fdir, fsize, fbl, fli⟩) := HV1
          have z0 : ∀ p : Kin W1, p.u.cell? ⟨wr.heap.size, 0, none⟩ = some (.int .i64 fid) := fun p => kcell t0 p
          have z1 : ∀ p : Kin W1, p.u.cell? ⟨wr.heap.size, 1, none⟩ = some (.bool fdir) := fun p => kcell t1 p
          have z2 : ∀ p : Kin W1, p.u.cell? ⟨wr.heap.size, 2, none⟩ = some (.int .i64 fsize) := fun p => kcell t2 p
          have z3 : ∀ p : Kin W1, p.u.cell? ⟨wr.heap.size, 3, none⟩ = some (.slice ab fbl.length cb) := fun p => kcell t3 p
          have z4 : ∀ p : Kin W1, p.u.cell? ⟨wr.heap.size, 4, none⟩ = some (.slice al fli.length cl) := fun p => kcell t4 p
          clear HV1 t0 t1 t2 t3 t4 c0 c1 c2 c3 c4 hb HVF
          have HCL : Hid (∀ p : Kin W1, Calls Try.prog 92 #[.pointer (some ⟨B, 0, none⟩), .int .i64 fid] p.u fun e w' => e = .returned (.int .i64 (linksN fs fid)) ∧ Below p.u.heap.size p.u w') := fun p => vlinks_any B ⟨vid, fr, snap, fs, next⟩ fid p.u (HV.out.below (nwT HB1.out p.h)) HSV.out
          generalize linksN fs fid = M at HK HNO HCL
          by_cases hm : MayN fid fdir M
          · have HCM : Hid (∀ p : Kin W1, Calls Try.prog 91 #[.agg #[.int .i64 fid, .bool fdir, .int .i64 fsize, .slice ab fbl.length cb, .slice al fli.length cl], .int .i64 M] p.u fun e w' => e = .returned (.bool true) ∧ Below p.u.heap.size p.u w') := fun p => mayHave_is _ ⟨fid, fdir, fsize, fbl, fli⟩ M p.u true (HV2.out.below p.h) (by simpa using hm)
            have HR := HK.out hm
            refine wp_region_kin (by kernel_rfl) (by kernel_rfl) ?_
            repeat (quiet_step (first | (go_at_call 92; exact Calls.kin_of (HCL.out _)) | (go_at_call 91; exact Calls.kin_of (HCM.out _)) | fail))
            refine wpQuiet_nil ?_
            intro _ hw'
            obtain ⟨pq, hw''⟩ := hw'
            subst hw''
            clear z0 z1 z2 z3 z4
            have HBQ : Hid (Below w.heap.size w pq.u) := nwT HB1.out pq.h
            generalize pq.u = Wq at HBQ ⊢
            go_wp2_with fail
            go_roundw
            case rel => exact ⟨k + 1, by omega, by go_num, HBQ.out, HR⟩
            case measure => simp [intOf]; omega
          · have HCM : Hid (∀ p : Kin W1, Calls Try.prog 91 #[.agg #[.int .i64 fid, .bool fdir, .int .i64 fsize, .slice ab fbl.length cb, .slice al fli.length cl], .int .i64 M] p.u fun e w' => e = .returned (.bool false) ∧ Below p.u.heap.size p.u w') := fun p => mayHave_is _ ⟨fid, fdir, fsize, fbl, fli⟩ M p.u false (HV2.out.below p.h) (by simpa using hm)
            have HR : Hid (¬ (LinksIn fs ∧ CountP fs)) := HNO.out hm
            clear hm
            refine wp_region_kin (by kernel_rfl) (by kernel_rfl) ?_
            repeat (quiet_step (first | (go_at_call 92; exact Calls.kin_of (HCL.out _)) | (go_at_call 91; exact Calls.kin_of (HCM.out _)) | fail))
            refine wpQuiet_nil ?_
            intro _ hw'
            obtain ⟨pq, hw''⟩ := hw'
            subst hw''
            clear z0 z1 z2 z3 z4
            have HBQ : Hid (Below w.heap.size w pq.u) := nwT HB1.out pq.h
            generalize pq.u = Wq at HBQ ⊢
            go_wp2_with fail
            go_ret
            exact ⟨says_no HR.out, HBQ.out⟩
        · have hkli : ¬ (k : Int) < (fs.length : Int) := by omega
          have HY : Hid (LinksIn fs ∧ CountP fs) := ⟨HLI.out, fun j hj => HE.out j (by omega)⟩
          go_wp2_with fail
          go_ret
          exact ⟨says_yes HY.out, hb⟩

end Go.Proofs.Ytodahdnnlkcfdaa

/- Which files a volume may have, by the program. -/
namespace Go.Proofs.Ytodahdnnlkcfdaa
open Go.RowKit

def HeadOk (fs : List FileD) : Prop := 1 ≤ fs.length ∧ fs.length ≤ 16 ∧ (fs.getD 0 f0).id = 1 ∧ (fs.getD 0 f0).dir = true
def lastI (fs : List FileD) (k : Nat) : Int := if k = 0 then 0 else (fs.getD (k - 1) f0).id
def IdOk (next : Int) (fs : List FileD) (k : Nat) : Prop := lastI fs k + 1 ≤ (fs.getD k f0).id ∧ (fs.getD k f0).id ≤ next - 1
def FilesOk (next : Int) (fs : List FileD) : Prop := HeadOk fs ∧ ∀ k, k < fs.length → IdOk next fs k ∧ NodeOk (fs.getD k f0)
theorem nmay_is (v : Value) (f : FileD) (w : World) (b : Bool) (hv : NodeVal w v f) (hs : SmallF f) (hb : b = true ↔ NodeOk f) :
    Calls Try.prog 89 #[v] w fun e w' => e = .returned (.bool b) ∧ Below w.heap.size w w' :=
  (nmay_any v f w hv hs).mono fun _ _ ⟨h1, h2⟩ => ⟨says_is h1 hb, h2⟩
theorem NodeVal.drew {w : World} {v : Value} {f : FileD} (h : NodeVal w v f) : NodeVal w.drew v f := h

set_option maxRecDepth 100000 in
set_option maxHeartbeats 4000000 in
theorem filesm_any (B : Nat) (d : VolD) (w : World) (hv : VolAt w B d) (hs : SmallV d) (hn0 : 0 ≤ d.next) (hn1 : d.next ≤ 1073741824) :
    Calls Try.prog 85 #[.pointer (some ⟨B, 0, none⟩)] w fun e w' => SaysB e (FilesOk d.next d.files) ∧ Below w.heap.size w w' := by
  obtain ⟨a, c, hB, hf, _⟩ := hv
  have HBK : Hid (w.heap[B]? = some (.cells #[.int .i64 d.id, .int .i64 d.fr, .bool d.snap, .slice a d.files.length c, .int .i64 d.next] 115 (0, 0))) := hB
  obtain ⟨x0, x1, x2, x3, x4, _⟩ := five hB
  have hlt := block_lt_of_cell x0
  simp only at hlt
  have HF : Hid (FilesAt w a d.files) := hf
  have hl := hs.1
  have HSF : Hid (∀ f ∈ d.files, SmallF f) := hs.2
  clear hf hB x0 x1 x2 x4 hs
  obtain ⟨vid, fr, snap, fs, next⟩ := d
  simp only at *
  have HIL : Hid (IntsAt (w.alloc (.cells #[.int .i64 fs.length] 3)) (some ⟨w.heap.size, 0, none⟩) [(fs.length : Int)]) := intsAt_new w _
  have HBL : Hid (Below w.heap.size w (w.alloc (.cells #[.int .i64 fs.length] 3))) := nwA (nwR w) _
  by_cases hlen : 1 ≤ fs.length ∧ fs.length ≤ 16
  case neg =>
    have HNO : Hid (¬ FilesOk next fs) := fun h => hlen ⟨h.1.1, h.1.2.1⟩
    have hw : withinB 1 16 [(fs.length : Int)] = false := by
      rw [withinB_one]
      by_cases h : (1 : Int) ≤ fs.length
      · rw [decide_eq_false (by omega : ¬ (fs.length : Int) ≤ 16)]; simp
      · rw [decide_eq_false h]; rfl
    clear hlen
    go_enter Try.func85, Try.ntmps85
    go_wp2_with (go_at_call 88; refine (within_is 1 16 _ [(fs.length : Int)] _ _ false HIL.out (by simp) hw).mono ?_; rintro e w' ⟨rfl, rfl⟩)
    go_ret
    exact ⟨says_no HNO.out, HBL.out⟩
  case pos =>
  obtain ⟨hg1, hg2⟩ := hlen
  have hw : withinB 1 16 [(fs.length : Int)] = true := by rw [withinB_one, decide_eq_true (by omega : (1 : Int) ≤ fs.length), decide_eq_true (by omega : (fs.length : Int) ≤ 16)]; rfl
  have h0l : (0 : Nat) < fs.length := by omega
  have h0li : (0 : Int) < (fs.length : Int) := by omega
  obtain ⟨b0, o0, rfl, hfz⟩ := (HF.out.below HBL.out).file h0l
  obtain ⟨ab, cb, al, cl, ⟨c0, c1, _, _, _⟩, _, _⟩ := hfz
  rw [Nat.zero_mul, Nat.add_zero] at c0 c1
  have HG : Hid (1 ≤ fs.length ∧ fs.length ≤ 16) := ⟨hg1, hg2⟩
  by_cases hid : (fs.getD 0 f0).id = 1
  case neg =>
    have HNO : Hid (¬ FilesOk next fs) := fun h => hid h.1.2.2.1
    generalize (fs.getD 0 f0).id = z at c0 hid
    go_enter Try.func85, Try.ntmps85
    go_wp2_with (go_at_call 88; refine (within_is 1 16 _ [(fs.length : Int)] _ _ true HIL.out (by simp) hw).mono ?_; rintro e w' ⟨rfl, rfl⟩)
    go_ret
    exact ⟨says_no HNO.out, HBL.out⟩
  case pos =>
  cases hdir : (fs.getD 0 f0).dir
  case false =>
    have HNO : Hid (¬ FilesOk next fs) := fun h => by have := h.1.2.2.2; rw [hdir] at this; cases this
    rw [hid] at c0
    rw [hdir] at c1
    go_enter Try.func85, Try.ntmps85
    go_wp2_with (go_at_call 88; refine (within_is 1 16 _ [(fs.length : Int)] _ _ true HIL.out (by simp) hw).mono ?_; rintro e w' ⟨rfl, rfl⟩)
    go_ret
    exact ⟨says_no HNO.out, HBL.out⟩
  case true =>
  have HHD : Hid (HeadOk fs) := ⟨hg1, hg2, hid, hdir⟩
  rw [hid] at c0
  rw [hdir] at c1
  clear hid hdir
  go_enter Try.func85, Try.ntmps85
  go_wp2_with (go_at_call 88; refine (within_is 1 16 _ [(fs.length : Int)] _ _ true HIL.out (by simp) hw).mono ?_; rintro e w' ⟨rfl, rfl⟩)
  have HBW : Hid (Below w.heap.size w (w.alloc (.cells #[.int .i64 fs.length] 3))) := HBL.out
  generalize w.alloc (.cells #[.int .i64 fs.length] 3) = Wa at HBW ⊢
  clear x3 c0 c1 hw HIL HBL
  go_loopw [3, 43] (fun l i wr => ∃ (k : Nat), k ≤ fs.length ∧ i = .int .i64 k ∧ l = .int .i64 (lastI fs k) ∧ 0 ≤ lastI fs k ∧ lastI fs k ≤ 1073741824 ∧ Below w.heap.size w wr ∧ Hid (∀ j, j < k → IdOk next fs j ∧ NodeOk (fs.getD j f0)))
    (fun _ i _ => fs.length - (intOf i).toNat)
  case atStart => exact ⟨0, by omega, rfl, rfl, by simp [lastI], by simp [lastI], HBW.out, fun j hj => by omega⟩
  case round =>
    obtain ⟨k, hk, rfl, rfl, hla, hlb, hb, HE⟩ := hrel
    by_cases hkl : k < fs.length
    · have hkli : (k : Int) < (fs.length : Int) := by omega
      have hk0 : (0 : Int) ≤ (k : Int) := by omega
      obtain ⟨b1, o1, e1, hfi⟩ := (HF.out.below hb).file hkl
      injection e1 with e1
      injection e1 with e11 e12
      subst e11; subst e12
      have HND0 : NodeVal wr (.agg #[.pointer (some ⟨b0, o0 + k * 5, none⟩)]) (fs.getD k f0) := ⟨_, _, rfl, hfi⟩
      obtain ⟨ab2, cb2, al2, cl2, ⟨d0, _, _, _, _⟩, _, _⟩ := hfi
      obtain ⟨y0, y1, y2, y3, y4, _⟩ := five ((hb.block _ (Array.getElem?_eq_some_iff.1 HBK.out).1).trans HBK.out)
      have HSM : Hid (SmallF (fs.getD k f0)) := HSF.out _ (getD_mem hkl)
      have HK : Hid (IdOk next fs k ∧ NodeOk (fs.getD k f0) → ∀ j, j < k + 1 → IdOk next fs j ∧ NodeOk (fs.getD j f0)) := fun h j hj => by
        by_cases e : j = k
        · subst e; exact h
        · exact HE.out j (by omega)
      have HNO : Hid (¬ (IdOk next fs k ∧ NodeOk (fs.getD k f0)) → ¬ FilesOk next fs) := fun hn h => hn (h.2 k hkl)
      have HID : Hid (IdOk next fs k ↔ (lastI fs k + 1 ≤ (fs.getD k f0).id ∧ (fs.getD k f0).id ≤ next - 1)) := Iff.rfl
      have HLS : Hid (lastI fs (k + 1) = (fs.getD k f0).id) := by show _ = _; simp [lastI]
      generalize IdOk next fs k = PI at HK HNO HID
      generalize hfd : fs.getD k f0 = f at d0 HSM HK HNO HID HLS HND0
      clear hfd
      generalize lastI fs k = la at HID hla hlb
      generalize hfid : f.id = fid at d0 HID HLS
      clear y0 y1 y2 hfid
      go_wp2_with fail
      obtain ⟨W1, hW1⟩ : ∃ W1, W1 = wr.alloc (.cells #[.pointer (some ⟨b0, o0 + k * 5, none⟩)] 120) := ⟨_, rfl⟩
      have HB1 : Hid (Below w.heap.size w W1) := by rw [hW1]; exact nwA hb _
      have HR1 : Hid (Below wr.heap.size wr W1) := by rw [hW1]; exact nwA (nwR wr) _
      have p0 : W1.cell? ⟨wr.heap.size, 0, none⟩ = some (.pointer (some ⟨b0, o0 + k * 5, none⟩)) := by rw [hW1]; simp
      have HND : Hid (NodeVal W1 (.agg #[.pointer (some ⟨b0, o0 + k * 5, none⟩)]) f) := HND0.below HR1.out
      have z4 : ∀ w', Below W1.heap.size W1 w' → w'.cell? ⟨B, 4, none⟩ = some (.int .i64 next) := fun w' h => ((nwT HR1.out h).cell (p := ⟨B, 4, none⟩) (block_lt_of_cell y4)).trans y4
      have zp : ∀ w', Below W1.heap.size W1 w' → w'.cell? ⟨wr.heap.size, 0, none⟩ = some (.pointer (some ⟨b0, o0 + k * 5, none⟩)) := fun w' h => (h.cell (p := ⟨wr.heap.size, 0, none⟩) (block_lt_of_cell p0)).trans p0
      have zd : ∀ w', Below W1.heap.size W1 w' → w'.cell? ⟨b0, o0 + k * 5, none⟩ = some (.int .i64 fid) := fun w' h => ((nwT HR1.out h).cell (p := ⟨b0, o0 + k * 5, none⟩) (block_lt_of_cell d0)).trans d0
      have hS := nwR W1
      have HIW : Hid (IntsAt (W1.alloc (.cells #[.int .i64 fid] 3)).drew (some ⟨W1.heap.size, 0, none⟩) [fid]) := intsAt_new W1 fid
      have HBX : Hid (Below w.heap.size w (W1.alloc (.cells #[.int .i64 fid] 3)).drew) := Below.drew (nwA HB1.out _)
      have e1 : IntKind.i64.wrap (la + 1) = la + 1 := wrap_any (by omega) (by omega)
      have e2 : IntKind.i64.wrap (next - 1) = next - 1 := wrap_any (by omega) (by omega)
      rw [← hW1]
      clear hW1 y3 y4 d0 p0 hb HND0
      cases hw : withinB (la + 1) (next - 1) [fid]
      · have HN2 : Hid (¬ FilesOk next fs) := HNO.out (fun h => by
          have h2 := HID.out.1 h.1
          rw [withinB_one, decide_eq_true h2.1, decide_eq_true h2.2] at hw; cases hw)
        refine wp_region_held_drew (S := (fun w' => Below W1.heap.size W1 w')) (by kernel_rfl) (by first | assumption | exact Below.drew (by assumption) | exact nwT (by assumption) (by assumption) | (exact nwA (by assumption) _) | (exact Below.drew (nwA (by assumption) _))) (fun hHeld => ?_)
        refine takeYes 0 (some 54) (v := ?_) rfl (by kernel_rfl) (by kernel_rfl) (by kernel_rfl) (by rfl) (fun _ _ _ h => h) (by rfl) ?_ (by assumption) ?_
        rotate_left
        · intro w hSw; (try dsimp only at hSw); go_simp; try with_reducible rfl
        try simp only [Act.put, List.setIfInBounds_toArray, List.set_cons_zero, List.set_cons_succ]
        refine takeYes 1 (some 55) (v := ?_) rfl (by kernel_rfl) (by kernel_rfl) (by kernel_rfl) (by rfl) (fun _ _ _ h => h) (by rfl) ?_ (by assumption) ?_
        rotate_left
        · intro w hSw; (try dsimp only at hSw); go_simp; try with_reducible rfl
        try simp only [Act.put, List.setIfInBounds_toArray, List.set_cons_zero, List.set_cons_succ]
        refine takeYes 2 (some 56) (v := ?_) rfl (by kernel_rfl) (by kernel_rfl) (by kernel_rfl) (by rfl) (fun _ _ _ h => h) (by rfl) ?_ (by assumption) ?_
        rotate_left
        · intro w hSw; (try dsimp only at hSw); go_simp; try with_reducible rfl
        try simp only [Act.put, List.setIfInBounds_toArray, List.set_cons_zero, List.set_cons_succ]
        refine takeYes 3 (some 57) (v := ?_) rfl (by kernel_rfl) (by kernel_rfl) (by kernel_rfl) (by rfl) (fun _ _ _ h => h) (by rfl) ?_ (by assumption) ?_
        rotate_left
        · intro w hSw; (try dsimp only at hSw); go_simp; try with_reducible rfl
        try simp only [Act.put, List.setIfInBounds_toArray, List.set_cons_zero, List.set_cons_succ]
        refine takeYes 4 (some 58) (v := ?_) rfl (by kernel_rfl) (by kernel_rfl) (by kernel_rfl) (by rfl) (fun _ _ _ h => h) (by rfl) ?_ (by assumption) ?_
        rotate_left
        · intro w hSw; (try dsimp only at hSw); go_simp; try with_reducible rfl
        try simp only [Act.put, List.setIfInBounds_toArray, List.set_cons_zero, List.set_cons_succ]
        refine takeYes 5 (some 59) (v := ?_) rfl (by kernel_rfl) (by kernel_rfl) (by kernel_rfl) (by rfl) (fun _ _ _ h => h) (by rfl) ?_ (by assumption) ?_
        rotate_left
        · intro w hSw; (try dsimp only at hSw); go_simp; try with_reducible rfl
        try simp only [Act.put, List.setIfInBounds_toArray, List.set_cons_zero, List.set_cons_succ]
        refine takeYes 6 (some 60) (v := ?_) rfl (by kernel_rfl) (by kernel_rfl) (by kernel_rfl) (by rfl) (fun _ _ _ h => h) (by rfl) ?_ (by assumption) ?_
        rotate_left
        · intro w hSw; (try dsimp only at hSw); go_simp; try with_reducible rfl
        try simp only [Act.put, List.setIfInBounds_toArray, List.set_cons_zero, List.set_cons_succ]
        refine takeYes 7 (some 61) (v := ?_) rfl (by kernel_rfl) (by kernel_rfl) (by kernel_rfl) (by rfl) (fun _ _ _ h => h) (by rfl) ?_ (by assumption) ?_
        rotate_left
        · intro w hSw; (try dsimp only at hSw); go_simp; try with_reducible rfl
        try simp only [Act.put, List.setIfInBounds_toArray, List.set_cons_zero, List.set_cons_succ]
        refine takeYes 8 (some 62) (v := ?_) rfl (by kernel_rfl) (by kernel_rfl) (by kernel_rfl) (by rfl) (fun _ _ _ h => h) (by rfl) ?_ (by assumption) ?_
        rotate_left
        · intro w hSw; (try dsimp only at hSw); go_simp; try with_reducible rfl
        try simp only [Act.put, List.setIfInBounds_toArray, List.set_cons_zero, List.set_cons_succ]
        refine takeYes 9 (some 63) (v := ?_) rfl (by kernel_rfl) (by kernel_rfl) (by kernel_rfl) (by rfl) (fun _ _ _ h => h) (by rfl) ?_ (by assumption) ?_
        rotate_left
        · intro w hSw; (try dsimp only at hSw); go_simp; try with_reducible rfl
        try simp only [Act.put, List.setIfInBounds_toArray, List.set_cons_zero, List.set_cons_succ]
        refine takeYes 10 (some 64) (v := ?_) rfl (by kernel_rfl) (by kernel_rfl) (by kernel_rfl) (by rfl) (fun _ _ _ h => h) (by rfl) ?_ (by assumption) ?_
        rotate_left
        · intro w hSw; (try dsimp only at hSw); go_simp; try with_reducible rfl
        try simp only [Act.put, List.setIfInBounds_toArray, List.set_cons_zero, List.set_cons_succ]
        refine takeYes 11 (some 65) (v := ?_) rfl (by kernel_rfl) (by kernel_rfl) (by kernel_rfl) (by rfl) (fun _ _ _ h => h) (by rfl) ?_ (by assumption) ?_
        rotate_left
        · intro w hSw; (try dsimp only at hSw); go_simp; try with_reducible rfl
        try simp only [Act.put, List.setIfInBounds_toArray, List.set_cons_zero, List.set_cons_succ]
        refine takeYes 12 (some 66) (v := ?_) rfl (by kernel_rfl) (by kernel_rfl) (by kernel_rfl) (by rfl) (fun _ _ _ h => h) (by rfl) ?_ (by assumption) ?_
        rotate_left
        · intro w hSw; (try dsimp only at hSw); go_simp; try with_reducible rfl
        try simp only [Act.put, List.setIfInBounds_toArray, List.set_cons_zero, List.set_cons_succ]
        refine wpAnyH_ready (rs := [13]) (by kernel_rfl) (by simp) ?_
        refine AllReadyH.cons rfl (fun K hK => ?_) AllReadyH.nil
        go_simp
        refine hK.out _ _ (by first | assumption | exact Below.drew (by assumption) | exact nwT (by assumption) (by assumption) | (exact nwA (by assumption) _) | (exact Below.drew (nwA (by assumption) _))) (fun hHeld => ?_)
        clear hK K
        try simp only [Act.put, List.setIfInBounds_toArray, List.set_cons_zero, List.set_cons_succ]
        refine wpAnyH_ready (rs := [14]) (by kernel_rfl) (by simp) ?_
        refine AllReadyH.cons rfl (fun K hK => ?_) AllReadyH.nil
        go_simp
        refine (within_is _ _ _ [fid] _ _ false HIW.out (by simp) hw).mono ?_; rintro e w' ⟨rfl, rfl⟩
        refine hK.out _ _ (by first | assumption | exact Below.drew (by assumption) | exact nwT (by assumption) (by assumption) | (exact nwA (by assumption) _) | (exact Below.drew (nwA (by assumption) _))) (fun hHeld => ?_)
        clear hK K
        try simp only [Act.put, List.setIfInBounds_toArray, List.set_cons_zero, List.set_cons_succ]
        refine takeYes 15 (some 69) (v := ?_) rfl (by kernel_rfl) (by kernel_rfl) (by kernel_rfl) (by rfl) (fun _ _ _ h => h) (by rfl) ?_ (by assumption) ?_
        rotate_left
        · intro w hSw; (try dsimp only at hSw); go_simp; try with_reducible rfl
        try simp only [Act.put, List.setIfInBounds_toArray, List.set_cons_zero, List.set_cons_succ]
        refine takeYes 16 (some 70) (v := ?_) rfl (by kernel_rfl) (by kernel_rfl) (by kernel_rfl) (by rfl) (fun _ _ _ h => h) (by rfl) ?_ (by assumption) ?_
        rotate_left
        · intro w hSw; (try dsimp only at hSw); go_simp; try with_reducible rfl
        try simp only [Act.put, List.setIfInBounds_toArray, List.set_cons_zero, List.set_cons_succ]
        refine takeNo 17 (some 71) rfl (by kernel_rfl) (by kernel_rfl) (by kernel_rfl) (by rfl) (fun _ _ _ h => h) (by rfl) (by assumption) ?_
        try simp only [Act.put, List.setIfInBounds_toArray, List.set_cons_zero, List.set_cons_succ]
        refine takeNo 18 (some 72) rfl (by kernel_rfl) (by kernel_rfl) (by kernel_rfl) (by rfl) (fun _ _ _ h => h) (by rfl) (by assumption) ?_
        try simp only [Act.put, List.setIfInBounds_toArray, List.set_cons_zero, List.set_cons_succ]
        refine takeNo 19 (some 73) rfl (by kernel_rfl) (by kernel_rfl) (by kernel_rfl) (by rfl) (fun _ _ _ h => h) (by rfl) (by assumption) ?_
        try simp only [Act.put, List.setIfInBounds_toArray, List.set_cons_zero, List.set_cons_succ]
        refine takeYes 20 (some 74) (v := ?_) rfl (by kernel_rfl) (by kernel_rfl) (by kernel_rfl) (by rfl) (fun _ _ _ h => h) (by rfl) ?_ (by assumption) ?_
        rotate_left
        · intro w hSw; (try dsimp only at hSw); go_simp; try with_reducible rfl
        try simp only [Act.put, List.setIfInBounds_toArray, List.set_cons_zero, List.set_cons_succ]
        refine wpAnyH_done (by kernel_rfl) ?_ _
        clear z4 zp zd
        go_wp2_with fail
        go_ret
        exact ⟨says_no HN2.out, HBX.out⟩
      · have HI2 : Hid PI := HID.out.2 (by rw [withinB_one] at hw; simpa using hw)
        by_cases hn : NodeOk f
        · have hno : Hid (true = true ↔ NodeOk f) := by show _ ↔ _; simpa using hn
          have HR2 := HK.out ⟨HI2.out, hn⟩
          have hid2 := HID.out.1 HI2.out
          clear hn
          refine wp_region_held_drew (S := (fun w' => Below W1.heap.size W1 w')) (by kernel_rfl) (by first | assumption | exact Below.drew (by assumption) | exact nwT (by assumption) (by assumption) | (exact nwA (by assumption) _) | (exact Below.drew (nwA (by assumption) _))) (fun hHeld => ?_)
          refine takeYes 0 (some 54) (v := ?_) rfl (by kernel_rfl) (by kernel_rfl) (by kernel_rfl) (by rfl) (fun _ _ _ h => h) (by rfl) ?_ (by assumption) ?_
          rotate_left
          · intro w hSw; (try dsimp only at hSw); go_simp; try with_reducible rfl
          try simp only [Act.put, List.setIfInBounds_toArray, List.set_cons_zero, List.set_cons_succ]
          refine takeYes 1 (some 55) (v := ?_) rfl (by kernel_rfl) (by kernel_rfl) (by kernel_rfl) (by rfl) (fun _ _ _ h => h) (by rfl) ?_ (by assumption) ?_
          rotate_left
          · intro w hSw; (try dsimp only at hSw); go_simp; try with_reducible rfl
          try simp only [Act.put, List.setIfInBounds_toArray, List.set_cons_zero, List.set_cons_succ]
          refine takeYes 2 (some 56) (v := ?_) rfl (by kernel_rfl) (by kernel_rfl) (by kernel_rfl) (by rfl) (fun _ _ _ h => h) (by rfl) ?_ (by assumption) ?_
          rotate_left
          · intro w hSw; (try dsimp only at hSw); go_simp; try with_reducible rfl
          try simp only [Act.put, List.setIfInBounds_toArray, List.set_cons_zero, List.set_cons_succ]
          refine takeYes 3 (some 57) (v := ?_) rfl (by kernel_rfl) (by kernel_rfl) (by kernel_rfl) (by rfl) (fun _ _ _ h => h) (by rfl) ?_ (by assumption) ?_
          rotate_left
          · intro w hSw; (try dsimp only at hSw); go_simp; try with_reducible rfl
          try simp only [Act.put, List.setIfInBounds_toArray, List.set_cons_zero, List.set_cons_succ]
          refine takeYes 4 (some 58) (v := ?_) rfl (by kernel_rfl) (by kernel_rfl) (by kernel_rfl) (by rfl) (fun _ _ _ h => h) (by rfl) ?_ (by assumption) ?_
          rotate_left
          · intro w hSw; (try dsimp only at hSw); go_simp; try with_reducible rfl
          try simp only [Act.put, List.setIfInBounds_toArray, List.set_cons_zero, List.set_cons_succ]
          refine takeYes 5 (some 59) (v := ?_) rfl (by kernel_rfl) (by kernel_rfl) (by kernel_rfl) (by rfl) (fun _ _ _ h => h) (by rfl) ?_ (by assumption) ?_
          rotate_left
          · intro w hSw; (try dsimp only at hSw); go_simp; try with_reducible rfl
          try simp only [Act.put, List.setIfInBounds_toArray, List.set_cons_zero, List.set_cons_succ]
          refine takeYes 6 (some 60) (v := ?_) rfl (by kernel_rfl) (by kernel_rfl) (by kernel_rfl) (by rfl) (fun _ _ _ h => h) (by rfl) ?_ (by assumption) ?_
          rotate_left
          · intro w hSw; (try dsimp only at hSw); go_simp; try with_reducible rfl
          try simp only [Act.put, List.setIfInBounds_toArray, List.set_cons_zero, List.set_cons_succ]
          refine takeYes 7 (some 61) (v := ?_) rfl (by kernel_rfl) (by kernel_rfl) (by kernel_rfl) (by rfl) (fun _ _ _ h => h) (by rfl) ?_ (by assumption) ?_
          rotate_left
          · intro w hSw; (try dsimp only at hSw); go_simp; try with_reducible rfl
          try simp only [Act.put, List.setIfInBounds_toArray, List.set_cons_zero, List.set_cons_succ]
          refine takeYes 8 (some 62) (v := ?_) rfl (by kernel_rfl) (by kernel_rfl) (by kernel_rfl) (by rfl) (fun _ _ _ h => h) (by rfl) ?_ (by assumption) ?_
          rotate_left
          · intro w hSw; (try dsimp only at hSw); go_simp; try with_reducible rfl
          try simp only [Act.put, List.setIfInBounds_toArray, List.set_cons_zero, List.set_cons_succ]
          refine takeYes 9 (some 63) (v := ?_) rfl (by kernel_rfl) (by kernel_rfl) (by kernel_rfl) (by rfl) (fun _ _ _ h => h) (by rfl) ?_ (by assumption) ?_
          rotate_left
          · intro w hSw; (try dsimp only at hSw); go_simp; try with_reducible rfl
          try simp only [Act.put, List.setIfInBounds_toArray, List.set_cons_zero, List.set_cons_succ]
          refine takeYes 10 (some 64) (v := ?_) rfl (by kernel_rfl) (by kernel_rfl) (by kernel_rfl) (by rfl) (fun _ _ _ h => h) (by rfl) ?_ (by assumption) ?_
          rotate_left
          · intro w hSw; (try dsimp only at hSw); go_simp; try with_reducible rfl
          try simp only [Act.put, List.setIfInBounds_toArray, List.set_cons_zero, List.set_cons_succ]
          refine takeYes 11 (some 65) (v := ?_) rfl (by kernel_rfl) (by kernel_rfl) (by kernel_rfl) (by rfl) (fun _ _ _ h => h) (by rfl) ?_ (by assumption) ?_
          rotate_left
          · intro w hSw; (try dsimp only at hSw); go_simp; try with_reducible rfl
          try simp only [Act.put, List.setIfInBounds_toArray, List.set_cons_zero, List.set_cons_succ]
          refine takeYes 12 (some 66) (v := ?_) rfl (by kernel_rfl) (by kernel_rfl) (by kernel_rfl) (by rfl) (fun _ _ _ h => h) (by rfl) ?_ (by assumption) ?_
          rotate_left
          · intro w hSw; (try dsimp only at hSw); go_simp; try with_reducible rfl
          try simp only [Act.put, List.setIfInBounds_toArray, List.set_cons_zero, List.set_cons_succ]
          refine wpAnyH_ready (rs := [13]) (by kernel_rfl) (by simp) ?_
          refine AllReadyH.cons rfl (fun K hK => ?_) AllReadyH.nil
          go_simp
          refine hK.out _ _ (by first | assumption | exact Below.drew (by assumption) | exact nwT (by assumption) (by assumption) | (exact nwA (by assumption) _) | (exact Below.drew (nwA (by assumption) _))) (fun hHeld => ?_)
          clear hK K
          try simp only [Act.put, List.setIfInBounds_toArray, List.set_cons_zero, List.set_cons_succ]
          refine wpAnyH_ready (rs := [14]) (by kernel_rfl) (by simp) ?_
          refine AllReadyH.cons rfl (fun K hK => ?_) AllReadyH.nil
          go_simp
          refine (within_is _ _ _ [fid] _ _ true HIW.out (by simp) hw).mono ?_; rintro e w' ⟨rfl, rfl⟩
          refine hK.out _ _ (by first | assumption | exact Below.drew (by assumption) | exact nwT (by assumption) (by assumption) | (exact nwA (by assumption) _) | (exact Below.drew (nwA (by assumption) _))) (fun hHeld => ?_)
          clear hK K
          try simp only [Act.put, List.setIfInBounds_toArray, List.set_cons_zero, List.set_cons_succ]
          refine takeYes 15 (some 69) (v := ?_) rfl (by kernel_rfl) (by kernel_rfl) (by kernel_rfl) (by rfl) (fun _ _ _ h => h) (by rfl) ?_ (by assumption) ?_
          rotate_left
          · intro w hSw; (try dsimp only at hSw); go_simp; try with_reducible rfl
          try simp only [Act.put, List.setIfInBounds_toArray, List.set_cons_zero, List.set_cons_succ]
          refine takeYes 16 (some 70) (v := ?_) rfl (by kernel_rfl) (by kernel_rfl) (by kernel_rfl) (by rfl) (fun _ _ _ h => h) (by rfl) ?_ (by assumption) ?_
          rotate_left
          · intro w hSw; (try dsimp only at hSw); go_simp; try with_reducible rfl
          try simp only [Act.put, List.setIfInBounds_toArray, List.set_cons_zero, List.set_cons_succ]
          refine takeYes 17 (some 71) (v := ?_) rfl (by kernel_rfl) (by kernel_rfl) (by kernel_rfl) (by rfl) (fun _ _ _ h => h) (by rfl) ?_ (by assumption) ?_
          rotate_left
          · intro w hSw; (try dsimp only at hSw); go_simp; try with_reducible rfl
          try simp only [Act.put, List.setIfInBounds_toArray, List.set_cons_zero, List.set_cons_succ]
          refine wpAnyH_ready (rs := [18]) (by kernel_rfl) (by simp) ?_
          refine AllReadyH.cons rfl (fun K hK => ?_) AllReadyH.nil
          go_simp
          refine (nmay_is _ _ _ true (HND.out.below (by assumption)) HSM.out hno.out).mono ?_; rintro e wN ⟨rfl, hbN⟩
          refine hK.out _ _ (by first | assumption | exact Below.drew (by assumption) | exact nwT (by assumption) (by assumption) | (exact nwA (by assumption) _) | (exact Below.drew (nwA (by assumption) _))) (fun hHeld => ?_)
          clear hK K
          try simp only [Act.put, List.setIfInBounds_toArray, List.set_cons_zero, List.set_cons_succ]
          refine takeYes 19 (some 73) (v := ?_) rfl (by kernel_rfl) (by kernel_rfl) (by kernel_rfl) (by rfl) (fun _ _ _ h => h) (by rfl) ?_ (by assumption) ?_
          rotate_left
          · intro w hSw; (try dsimp only at hSw); go_simp; try with_reducible rfl
          try simp only [Act.put, List.setIfInBounds_toArray, List.set_cons_zero, List.set_cons_succ]
          refine takeYes 20 (some 74) (v := ?_) rfl (by kernel_rfl) (by kernel_rfl) (by kernel_rfl) (by rfl) (fun _ _ _ h => h) (by rfl) ?_ (by assumption) ?_
          rotate_left
          · intro w hSw; (try dsimp only at hSw); go_simp; try with_reducible rfl
          try simp only [Act.put, List.setIfInBounds_toArray, List.set_cons_zero, List.set_cons_succ]
          refine wpAnyH_done (by kernel_rfl) ?_ _
          have HBN : Hid (Below w.heap.size w wN) := nwT HBX.out hbN
          have k1 := zp wN (by assumption)
          have k2 := zd wN (by assumption)
          clear z4 zp zd hbN
          go_wp2_with fail
          go_roundw
          case rel => exact ⟨k + 1, by omega, by go_num, by rw [HLS.out], by rw [HLS.out]; omega, by rw [HLS.out]; omega, HBN.out, HR2⟩
          case measure => simp [intOf]; omega
        · have hno : Hid (false = true ↔ NodeOk f) := by show _ ↔ _; simpa using hn
          have HN2 : Hid (¬ FilesOk next fs) := HNO.out (fun h => hn h.2)
          clear hn
          refine wp_region_held_drew (S := (fun w' => Below W1.heap.size W1 w')) (by kernel_rfl) (by first | assumption | exact Below.drew (by assumption) | exact nwT (by assumption) (by assumption) | (exact nwA (by assumption) _) | (exact Below.drew (nwA (by assumption) _))) (fun hHeld => ?_)
          refine takeYes 0 (some 54) (v := ?_) rfl (by kernel_rfl) (by kernel_rfl) (by kernel_rfl) (by rfl) (fun _ _ _ h => h) (by rfl) ?_ (by assumption) ?_
          rotate_left
          · intro w hSw; (try dsimp only at hSw); go_simp; try with_reducible rfl
          try simp only [Act.put, List.setIfInBounds_toArray, List.set_cons_zero, List.set_cons_succ]
          refine takeYes 1 (some 55) (v := ?_) rfl (by kernel_rfl) (by kernel_rfl) (by kernel_rfl) (by rfl) (fun _ _ _ h => h) (by rfl) ?_ (by assumption) ?_
          rotate_left
          · intro w hSw; (try dsimp only at hSw); go_simp; try with_reducible rfl
          try simp only [Act.put, List.setIfInBounds_toArray, List.set_cons_zero, List.set_cons_succ]
          refine takeYes 2 (some 56) (v := ?_) rfl (by kernel_rfl) (by kernel_rfl) (by kernel_rfl) (by rfl) (fun _ _ _ h => h) (by rfl) ?_ (by assumption) ?_
          rotate_left
          · intro w hSw; (try dsimp only at hSw); go_simp; try with_reducible rfl
          try simp only [Act.put, List.setIfInBounds_toArray, List.set_cons_zero, List.set_cons_succ]
          refine takeYes 3 (some 57) (v := ?_) rfl (by kernel_rfl) (by kernel_rfl) (by kernel_rfl) (by rfl) (fun _ _ _ h => h) (by rfl) ?_ (by assumption) ?_
          rotate_left
          · intro w hSw; (try dsimp only at hSw); go_simp; try with_reducible rfl
          try simp only [Act.put, List.setIfInBounds_toArray, List.set_cons_zero, List.set_cons_succ]
          refine takeYes 4 (some 58) (v := ?_) rfl (by kernel_rfl) (by kernel_rfl) (by kernel_rfl) (by rfl) (fun _ _ _ h => h) (by rfl) ?_ (by assumption) ?_
          rotate_left
          · intro w hSw; (try dsimp only at hSw); go_simp; try with_reducible rfl
          try simp only [Act.put, List.setIfInBounds_toArray, List.set_cons_zero, List.set_cons_succ]
          refine takeYes 5 (some 59) (v := ?_) rfl (by kernel_rfl) (by kernel_rfl) (by kernel_rfl) (by rfl) (fun _ _ _ h => h) (by rfl) ?_ (by assumption) ?_
          rotate_left
          · intro w hSw; (try dsimp only at hSw); go_simp; try with_reducible rfl
          try simp only [Act.put, List.setIfInBounds_toArray, List.set_cons_zero, List.set_cons_succ]
          refine takeYes 6 (some 60) (v := ?_) rfl (by kernel_rfl) (by kernel_rfl) (by kernel_rfl) (by rfl) (fun _ _ _ h => h) (by rfl) ?_ (by assumption) ?_
          rotate_left
          · intro w hSw; (try dsimp only at hSw); go_simp; try with_reducible rfl
          try simp only [Act.put, List.setIfInBounds_toArray, List.set_cons_zero, List.set_cons_succ]
          refine takeYes 7 (some 61) (v := ?_) rfl (by kernel_rfl) (by kernel_rfl) (by kernel_rfl) (by rfl) (fun _ _ _ h => h) (by rfl) ?_ (by assumption) ?_
          rotate_left
          · intro w hSw; (try dsimp only at hSw); go_simp; try with_reducible rfl
          try simp only [Act.put, List.setIfInBounds_toArray, List.set_cons_zero, List.set_cons_succ]
          refine takeYes 8 (some 62) (v := ?_) rfl (by kernel_rfl) (by kernel_rfl) (by kernel_rfl) (by rfl) (fun _ _ _ h => h) (by rfl) ?_ (by assumption) ?_
          rotate_left
          · intro w hSw; (try dsimp only at hSw); go_simp; try with_reducible rfl
          try simp only [Act.put, List.setIfInBounds_toArray, List.set_cons_zero, List.set_cons_succ]
          refine takeYes 9 (some 63) (v := ?_) rfl (by kernel_rfl) (by kernel_rfl) (by kernel_rfl) (by rfl) (fun _ _ _ h => h) (by rfl) ?_ (by assumption) ?_
          rotate_left
          · intro w hSw; (try dsimp only at hSw); go_simp; try with_reducible rfl
          try simp only [Act.put, List.setIfInBounds_toArray, List.set_cons_zero, List.set_cons_succ]
          refine takeYes 10 (some 64) (v := ?_) rfl (by kernel_rfl) (by kernel_rfl) (by kernel_rfl) (by rfl) (fun _ _ _ h => h) (by rfl) ?_ (by assumption) ?_
          rotate_left
          · intro w hSw; (try dsimp only at hSw); go_simp; try with_reducible rfl
          try simp only [Act.put, List.setIfInBounds_toArray, List.set_cons_zero, List.set_cons_succ]
          refine takeYes 11 (some 65) (v := ?_) rfl (by kernel_rfl) (by kernel_rfl) (by kernel_rfl) (by rfl) (fun _ _ _ h => h) (by rfl) ?_ (by assumption) ?_
          rotate_left
          · intro w hSw; (try dsimp only at hSw); go_simp; try with_reducible rfl
          try simp only [Act.put, List.setIfInBounds_toArray, List.set_cons_zero, List.set_cons_succ]
          refine takeYes 12 (some 66) (v := ?_) rfl (by kernel_rfl) (by kernel_rfl) (by kernel_rfl) (by rfl) (fun _ _ _ h => h) (by rfl) ?_ (by assumption) ?_
          rotate_left
          · intro w hSw; (try dsimp only at hSw); go_simp; try with_reducible rfl
          try simp only [Act.put, List.setIfInBounds_toArray, List.set_cons_zero, List.set_cons_succ]
          refine wpAnyH_ready (rs := [13]) (by kernel_rfl) (by simp) ?_
          refine AllReadyH.cons rfl (fun K hK => ?_) AllReadyH.nil
          go_simp
          refine hK.out _ _ (by first | assumption | exact Below.drew (by assumption) | exact nwT (by assumption) (by assumption) | (exact nwA (by assumption) _) | (exact Below.drew (nwA (by assumption) _))) (fun hHeld => ?_)
          clear hK K
          try simp only [Act.put, List.setIfInBounds_toArray, List.set_cons_zero, List.set_cons_succ]
          refine wpAnyH_ready (rs := [14]) (by kernel_rfl) (by simp) ?_
          refine AllReadyH.cons rfl (fun K hK => ?_) AllReadyH.nil
          go_simp
          refine (within_is _ _ _ [fid] _ _ true HIW.out (by simp) hw).mono ?_; rintro e w' ⟨rfl, rfl⟩
          refine hK.out _ _ (by first | assumption | exact Below.drew (by assumption) | exact nwT (by assumption) (by assumption) | (exact nwA (by assumption) _) | (exact Below.drew (nwA (by assumption) _))) (fun hHeld => ?_)
          clear hK K
          try simp only [Act.put, List.setIfInBounds_toArray, List.set_cons_zero, List.set_cons_succ]
          refine takeYes 15 (some 69) (v := ?_) rfl (by kernel_rfl) (by kernel_rfl) (by kernel_rfl) (by rfl) (fun _ _ _ h => h) (by rfl) ?_ (by assumption) ?_
          rotate_left
          · intro w hSw; (try dsimp only at hSw); go_simp; try with_reducible rfl
          try simp only [Act.put, List.setIfInBounds_toArray, List.set_cons_zero, List.set_cons_succ]
          refine takeYes 16 (some 70) (v := ?_) rfl (by kernel_rfl) (by kernel_rfl) (by kernel_rfl) (by rfl) (fun _ _ _ h => h) (by rfl) ?_ (by assumption) ?_
          rotate_left
          · intro w hSw; (try dsimp only at hSw); go_simp; try with_reducible rfl
          try simp only [Act.put, List.setIfInBounds_toArray, List.set_cons_zero, List.set_cons_succ]
          refine takeYes 17 (some 71) (v := ?_) rfl (by kernel_rfl) (by kernel_rfl) (by kernel_rfl) (by rfl) (fun _ _ _ h => h) (by rfl) ?_ (by assumption) ?_
          rotate_left
          · intro w hSw; (try dsimp only at hSw); go_simp; try with_reducible rfl
          try simp only [Act.put, List.setIfInBounds_toArray, List.set_cons_zero, List.set_cons_succ]
          refine wpAnyH_ready (rs := [18]) (by kernel_rfl) (by simp) ?_
          refine AllReadyH.cons rfl (fun K hK => ?_) AllReadyH.nil
          go_simp
          refine (nmay_is _ _ _ false (HND.out.below (by assumption)) HSM.out hno.out).mono ?_; rintro e wN ⟨rfl, hbN⟩
          refine hK.out _ _ (by first | assumption | exact Below.drew (by assumption) | exact nwT (by assumption) (by assumption) | (exact nwA (by assumption) _) | (exact Below.drew (nwA (by assumption) _))) (fun hHeld => ?_)
          clear hK K
          try simp only [Act.put, List.setIfInBounds_toArray, List.set_cons_zero, List.set_cons_succ]
          refine takeYes 19 (some 73) (v := ?_) rfl (by kernel_rfl) (by kernel_rfl) (by kernel_rfl) (by rfl) (fun _ _ _ h => h) (by rfl) ?_ (by assumption) ?_
          rotate_left
          · intro w hSw; (try dsimp only at hSw); go_simp; try with_reducible rfl
          try simp only [Act.put, List.setIfInBounds_toArray, List.set_cons_zero, List.set_cons_succ]
          refine takeYes 20 (some 74) (v := ?_) rfl (by kernel_rfl) (by kernel_rfl) (by kernel_rfl) (by rfl) (fun _ _ _ h => h) (by rfl) ?_ (by assumption) ?_
          rotate_left
          · intro w hSw; (try dsimp only at hSw); go_simp; try with_reducible rfl
          try simp only [Act.put, List.setIfInBounds_toArray, List.set_cons_zero, List.set_cons_succ]
          refine wpAnyH_done (by kernel_rfl) ?_ _
          have HBN : Hid (Below w.heap.size w wN) := nwT HBX.out hbN
          clear z4 zp zd hbN
          go_wp2_with fail
          go_ret
          exact ⟨says_no HN2.out, HBN.out⟩
    · have hkli : ¬ (k : Int) < (fs.length : Int) := by omega
      have HY : Hid (FilesOk next fs) := ⟨HHD.out, fun j hj => HE.out j (by omega)⟩
      go_wp2_with fail
      go_ret
      exact ⟨says_yes HY.out, hb⟩

end Go.Proofs.Ytodahdnnlkcfdaa
