/- Which links a volume may have, by the program. -/
import Derived.Test.YtdpighcaieajjaaGreatKin
namespace Go.Proofs.YtdpighcaieajjaaGreat
open Go.RowKit

theorem says_is {e : Ending} {P : Prop} {b : Bool} (h : SaysB e P) (hb : b = true ↔ P) : e = .returned (.bool b) := by
  obtain ⟨b', rfl, h'⟩ := h
  have : b' = b := by rw [Bool.eq_iff_iff, h', hb]
  rw [this]
theorem mayHave_is (v : Value) (f : FileD) (n : Nat) (w : World) (b : Bool) (hv : FileVal w v f) (hb : b = true ↔ MayN f.id f.dir n) :
    Calls Tryz.prog 112 #[v, .int .i64 n] w fun e w' => e = .returned (.bool b) ∧ Below w.heap.size w w' :=
  (mayHave_any v f n w hv).mono fun _ _ ⟨h1, h2⟩ => ⟨says_is h1 hb, h2⟩
def CountP (fs : List FileD) : Prop := ∀ k, k < fs.length → MayN (fs.getD k f0).id (fs.getD k f0).dir (linksN fs (fs.getD k f0).id)
theorem linksIn_get {fs : List FileD} (h : ∀ k, k < fs.length → ∀ i, i < (fs.getD k f0).list.length → (atI fs ((fs.getD k f0).list.getD i lk0).2).isSome = true) : LinksIn fs := by
  intro f hf l hl
  obtain ⟨k, hk, rfl⟩ := List.getElem_of_mem hf
  have e : fs.getD k f0 = fs[k] := by simp [List.getD, hk]
  obtain ⟨i, hi, rfl⟩ := List.getElem_of_mem hl
  have h2 := h k hk i (by rw [e]; exact hi)
  rw [e] at h2
  have e2 : fs[k].list.getD i lk0 = fs[k].list[i] := by simp only [List.getD, List.getElem?_eq_getElem hi, Option.getD_some]
  rw [e2] at h2
  exact h2
theorem linksIn_at {fs : List FileD} (h : LinksIn fs) {k i : Nat} (hk : k < fs.length) (hi : i < (fs.getD k f0).list.length) : (atI fs ((fs.getD k f0).list.getD i lk0).2).isSome = true := by
  refine h _ (getD_mem hk) _ ?_
  have e2 : (fs.getD k f0).list.getD i lk0 = (fs.getD k f0).list[i] := by rw [List.getD_eq_getElem?_getD (l := (fs.getD k f0).list), List.getElem?_eq_getElem hi]; rfl
  rw [e2]; exact List.getElem_mem hi
theorem alloc_five (w : World) (c0 c1 c2 c3 c4 : Value) (t : TypeId) : (w.alloc (.cells #[c0, c1, c2, c3, c4] t)).heap[w.heap.size]? = some (.cells #[c0, c1, c2, c3, c4] t (0, 0)) := heap_alloc_new w _

set_option maxRecDepth 100000 in
set_option maxHeartbeats 4000000 in
theorem linksm_any (B : Nat) (d : VolD) (w : World) (hv : VolAt w B d) (hs : SmallV d) :
    Calls Tryz.prog 96 #[.pointer (some ⟨B, 0, none⟩)] w fun e w' => SaysB e (LinksIn d.files ∧ CountP d.files) ∧ Below w.heap.size w w' := by
  have HV : Hid (VolAt w B d) := hv
  have HSV : Hid (SmallV d) := hs
  obtain ⟨a, c, hB, hf, _⟩ := hv
  have HBK : Hid (w.heap[B]? = some (.cells #[.int .i64 d.id, .int .i64 d.fr, .bool d.snap, .slice a d.files.length c, .int .i64 d.next] 104 (0, 0))) := hB
  obtain ⟨x0, x1, x2, x3, x4, _⟩ := five hB
  have hlt := block_lt_of_cell x0
  simp only at hlt
  have HF : Hid (FilesAt w a d.files) := hf
  have hl := hs.1
  have HX : Hid (∀ w', VolAt w' B d → VolAt w' B d) := fun _ h => h
  clear hf hB x0 x1 x2 x4 hs
  obtain ⟨vid, fr, snap, fs, next⟩ := d
  simp only at *
  go_enter Tryz.func96, Tryz.ntmps96
  go_wp2_with fail
  clear x3
  go_loopw [15] (fun i wr => ∃ (k : Nat), k ≤ fs.length ∧ i = .int .i64 k ∧ Below w.heap.size w wr ∧ Hid (∀ j, j < k → ∀ i, i < (fs.getD j f0).list.length → (atI fs ((fs.getD j f0).list.getD i lk0).2).isSome = true))
    (fun i _ => fs.length - (intOf i).toNat)
  case atStart => exact ⟨0, by omega, rfl, nwR w, fun j hj => by omega⟩
  case round =>
    obtain ⟨k, hk, rfl, hb, HE⟩ := hrel
    by_cases hkl : k < fs.length
    · have hkli : (k : Int) < (fs.length : Int) := by omega
      obtain ⟨b1, o1, rfl, hfi⟩ := (HF.out.below hb).file hkl
      obtain ⟨ab, cb, al, cl, ⟨c0, c1, c2, c3, c4⟩, _, hil, _⟩ := hfi
      have HK : Hid ((∀ i, i < (fs.getD k f0).list.length → (atI fs ((fs.getD k f0).list.getD i lk0).2).isSome = true) → ∀ j, j < k + 1 → ∀ i, i < (fs.getD j f0).list.length → (atI fs ((fs.getD j f0).list.getD i lk0).2).isSome = true) := fun h j hj => by
        by_cases e : j = k
        · subst e; exact h
        · exact HE.out j (by omega)
      have HNO : Hid (∀ i, i < (fs.getD k f0).list.length → (atI fs ((fs.getD k f0).list.getD i lk0).2).isSome = false → ¬ (LinksIn fs ∧ CountP fs)) := fun i hi hn h => by
        have := linksIn_at h.1 hkl hi
        rw [hn] at this; cases this
      have HLI : Hid (LinksAt wr al (fs.getD k f0).list) := hil
      have hsm := (HSV.out.2 _ (getD_mem hkl)).2
      generalize fs.getD k f0 = f at c0 c1 c2 c3 c4 HLI HK HNO hsm
      obtain ⟨fid, fdir, fsize, fbl, fli⟩ := f
      simp only at c0 c1 c2 c3 c4 HLI HK HNO hsm
      clear hil
      go_wp2_with fail
      have HB1 : Hid (Below w.heap.size w (wr.alloc (.cells #[.int .i64 fid, .bool fdir, .int .i64 fsize, .slice ab fbl.length cb, .slice al fli.length cl] 39))) := nwA hb _
      have HL1 : Hid (LinksAt (wr.alloc (.cells #[.int .i64 fid, .bool fdir, .int .i64 fsize, .slice ab fbl.length cb, .slice al fli.length cl] 39)) al fli) := HLI.out.below (nwA (nwR wr) _)
      generalize wr.alloc (.cells #[.int .i64 fid, .bool fdir, .int .i64 fsize, .slice ab fbl.length cb, .slice al fli.length cl] 39) = W1 at HB1 HL1 ⊢
      clear c0 c1 c2 c3 c4 hb HLI
      go_loopw [22] (fun i wq => ∃ (j : Nat), j ≤ fli.length ∧ i = .int .i64 j ∧ Below W1.heap.size W1 wq ∧ Hid (∀ i, i < j → (atI fs (fli.getD i lk0).2).isSome = true))
        (fun i _ => fli.length - (intOf i).toNat)
      case atStart => exact ⟨0, by omega, rfl, nwR W1, fun j hj => by omega⟩
      case round =>
        obtain ⟨j, hj, rfl, hbq, HE2⟩ := hrel
        have HBQ : Hid (Below w.heap.size w wr) := nwT HB1.out hbq
        by_cases hjl : j < fli.length
        · have hjli : (j : Int) < (fli.length : Int) := by omega
          obtain ⟨b2, o2, rfl, d1, d2⟩ := (HL1.out.below hbq).cell hjl
          have HN2 : Hid ((atI fs (fli.getD j lk0).2).isSome = true → ∀ i, i < j + 1 → (atI fs (fli.getD i lk0).2).isSome = true) := fun h i hi => by
            by_cases e : i = j
            · subst e; exact h
            · exact HE2.out i (by omega)
          have HNJ : Hid ((atI fs (fli.getD j lk0).2).isSome = false → ¬ (LinksIn fs ∧ CountP fs)) := HNO.out j hjl
          generalize fli.getD j lk0 = x at d1 d2 HN2 HNJ
          obtain ⟨y1, y2⟩ := x
          simp only at d1 d2 HN2 HNJ
          go_wp2_with fail
          refine (index_any B ⟨vid, fr, snap, fs, next⟩ y2 _ (HV.out.below (nwA HBQ.out _)) hl).mono ?_
          rintro e w2 ⟨rfl, hb2⟩
          have HB2 : Hid (Below W1.heap.size W1 w2) := nwT (nwA hbq _) hb2
          simp only
          clear hb2
          cases hat : atI fs y2 with
          | none =>
            have HR : Hid (¬ (LinksIn fs ∧ CountP fs)) := HNJ.out (by rw [hat]; rfl)
            simp only [optI]
            clear HN2 HNJ
            go_wp2_with fail
            go_ret
            exact ⟨says_no HR.out, nwT HB1.out HB2.out⟩
          | some q =>
            have HR : Hid (∀ i, i < j + 1 → (atI fs (fli.getD i lk0).2).isSome = true) := HN2.out (by rw [hat]; rfl)
            have hq0 : ¬ (q : Int) < 0 := by omega
            simp only [optI]
            clear HN2 HNJ
            go_wp2_with fail
            go_roundw
            case rel => exact ⟨j + 1, by omega, by go_num, HB2.out, HR⟩
            case measure => simp [intOf]; omega
        · have hjli : ¬ (j : Int) < (fli.length : Int) := by omega
          have HR : Hid (∀ j, j < k + 1 → ∀ i, i < (fs.getD j f0).list.length → (atI fs ((fs.getD j f0).list.getD i lk0).2).isSome = true) := HK.out (fun i hi => HE2.out i (by omega))
          go_wp2_with fail
          go_roundw
          case rel => exact ⟨k + 1, by omega, by go_num, HBQ.out, HR⟩
          case measure => simp [intOf]; omega
    · have hkli : ¬ (k : Int) < (fs.length : Int) := by omega
      have HLI : Hid (LinksIn fs) := linksIn_get (fun j hj => HE.out j (by omega))
      obtain ⟨y0, y1, y2, y3, y4, _⟩ := five ((hb.block _ (Array.getElem?_eq_some_iff.1 HBK.out).1).trans HBK.out)
      clear y0 y1 y2 y4 HE
      go_wp2_with fail
      clear y3
      generalize hWr : wr = Wa at hb ⊢
      clear hWr
      go_loopw [39] (fun i wr => ∃ (k : Nat), k ≤ fs.length ∧ i = .int .i64 k ∧ Below w.heap.size w wr ∧ Hid (∀ j, j < k → MayN (fs.getD j f0).id (fs.getD j f0).dir (linksN fs (fs.getD j f0).id)))
        (fun i _ => fs.length - (intOf i).toNat)
      case atStart => exact ⟨0, by omega, rfl, hb, fun j hj => by omega⟩
      case round =>
        obtain ⟨k, hk, rfl, hb, HE⟩ := hrel
        by_cases hkl : k < fs.length
        · have hkli : (k : Int) < (fs.length : Int) := by omega
          obtain ⟨b1, o1, rfl, hfi⟩ := (HF.out.below hb).file hkl
          obtain ⟨ab, cb, al, cl, ⟨c0, c1, c2, c3, c4⟩, hib, hil⟩ := hfi
          have HK : Hid (MayN (fs.getD k f0).id (fs.getD k f0).dir (linksN fs (fs.getD k f0).id) → ∀ j, j < k + 1 → MayN (fs.getD j f0).id (fs.getD j f0).dir (linksN fs (fs.getD j f0).id)) := fun h j hj => by
            by_cases e : j = k
            · subst e; exact h
            · exact HE.out j (by omega)
          have HNO : Hid (¬ MayN (fs.getD k f0).id (fs.getD k f0).dir (linksN fs (fs.getD k f0).id) → ¬ (LinksIn fs ∧ CountP fs)) := fun hn h => hn (h.2 k hkl)
          have HVF : Hid (FileVal wr (.agg #[.int .i64 (fs.getD k f0).id, .bool (fs.getD k f0).dir, .int .i64 (fs.getD k f0).size, .slice ab (fs.getD k f0).blocks.length cb, .slice al (fs.getD k f0).list.length cl]) (fs.getD k f0)) := ⟨ab, cb, al, cl, rfl, hib, hil⟩
          generalize fs.getD k f0 = f at c0 c1 c2 c3 c4 HVF HK HNO
          obtain ⟨fid, fdir, fsize, fbl, fli⟩ := f
          simp only at c0 c1 c2 c3 c4 HVF HK HNO
          clear hib hil
          go_wp2_with fail
          have HB1 : Hid (Below w.heap.size w (wr.alloc (.cells #[.int .i64 fid, .bool fdir, .int .i64 fsize, .slice ab fbl.length cb, .slice al fli.length cl] 39))) := nwA hb _
          have HV1 := HVF.out.below (nwA (nwR wr) (.cells #[.int .i64 fid, .bool fdir, .int .i64 fsize, .slice ab fbl.length cb, .slice al fli.length cl] 39))
          obtain ⟨t0, t1, t2, t3, t4, _⟩ := five (alloc_five wr (.int .i64 fid) (.bool fdir) (.int .i64 fsize) (.slice ab fbl.length cb) (.slice al fli.length cl) 39)
          generalize wr.alloc (.cells #[.int .i64 fid, .bool fdir, .int .i64 fsize, .slice ab fbl.length cb, .slice al fli.length cl] 39) = W1 at HB1 HV1 t0 t1 t2 t3 t4 ⊢
          have HV2 : Hid (FileVal W1 (.agg #[.int .i64 fid, .bool fdir, .int .i64 fsize, .slice ab fbl.length cb, .slice al fli.length cl]) ⟨fid, fdir, fsize, fbl, fli⟩) := HV1
          have z0 : ∀ p : Kin W1, p.u.cell? ⟨wr.heap.size, 0, none⟩ = some (.int .i64 fid) := fun p => kcell t0 p
          have z1 : ∀ p : Kin W1, p.u.cell? ⟨wr.heap.size, 1, none⟩ = some (.bool fdir) := fun p => kcell t1 p
          have z2 : ∀ p : Kin W1, p.u.cell? ⟨wr.heap.size, 2, none⟩ = some (.int .i64 fsize) := fun p => kcell t2 p
          have z3 : ∀ p : Kin W1, p.u.cell? ⟨wr.heap.size, 3, none⟩ = some (.slice ab fbl.length cb) := fun p => kcell t3 p
          have z4 : ∀ p : Kin W1, p.u.cell? ⟨wr.heap.size, 4, none⟩ = some (.slice al fli.length cl) := fun p => kcell t4 p
          clear HV1 t0 t1 t2 t3 t4 c0 c1 c2 c3 c4 hb HVF
          have HCL : Hid (∀ p : Kin W1, Calls Tryz.prog 54 #[.pointer (some ⟨B, 0, none⟩), .int .i64 fid] p.u fun e w' => e = .returned (.int .i64 (linksN fs fid)) ∧ Below p.u.heap.size p.u w') := fun p => vlinks_any B ⟨vid, fr, snap, fs, next⟩ fid p.u (HV.out.below (nwT HB1.out p.h)) HSV.out
          generalize linksN fs fid = M at HK HNO HCL
          by_cases hm : MayN fid fdir M
          · have HCM : Hid (∀ p : Kin W1, Calls Tryz.prog 112 #[.agg #[.int .i64 fid, .bool fdir, .int .i64 fsize, .slice ab fbl.length cb, .slice al fli.length cl], .int .i64 M] p.u fun e w' => e = .returned (.bool true) ∧ Below p.u.heap.size p.u w') := fun p => mayHave_is _ ⟨fid, fdir, fsize, fbl, fli⟩ M p.u true (HV2.out.below p.h) (by simpa using hm)
            have HR := HK.out hm
            refine wp_region_kin (by kernel_rfl) (by kernel_rfl) ?_
            repeat (quiet_step (first | (go_at_call 54; exact Calls.kin_of (HCL.out _)) | (go_at_call 112; exact Calls.kin_of (HCM.out _)) | fail))
            refine wpQuiet_nil ?_
            intro _ hw'
            obtain ⟨pq, hw''⟩ := hw'
            subst hw''
            clear z0 z1 z2 z3 z4
            have HBQ : Hid (Below w.heap.size w pq.u) := nwT HB1.out pq.h
            generalize pq.u = Wq at HBQ ⊢
            go_wp2_with fail
            go_roundw
            case rel => exact ⟨k + 1, by omega, by go_num, HBQ.out, HR⟩
            case measure => simp [intOf]; omega
          · have HCM : Hid (∀ p : Kin W1, Calls Tryz.prog 112 #[.agg #[.int .i64 fid, .bool fdir, .int .i64 fsize, .slice ab fbl.length cb, .slice al fli.length cl], .int .i64 M] p.u fun e w' => e = .returned (.bool false) ∧ Below p.u.heap.size p.u w') := fun p => mayHave_is _ ⟨fid, fdir, fsize, fbl, fli⟩ M p.u false (HV2.out.below p.h) (by simpa using hm)
            have HR : Hid (¬ (LinksIn fs ∧ CountP fs)) := HNO.out hm
            clear hm
            refine wp_region_kin (by kernel_rfl) (by kernel_rfl) ?_
            repeat (quiet_step (first | (go_at_call 54; exact Calls.kin_of (HCL.out _)) | (go_at_call 112; exact Calls.kin_of (HCM.out _)) | fail))
            refine wpQuiet_nil ?_
            intro _ hw'
            obtain ⟨pq, hw''⟩ := hw'
            subst hw''
            clear z0 z1 z2 z3 z4
            have HBQ : Hid (Below w.heap.size w pq.u) := nwT HB1.out pq.h
            generalize pq.u = Wq at HBQ ⊢
            go_wp2_with fail
            go_ret
            exact ⟨says_no HR.out, HBQ.out⟩
        · have hkli : ¬ (k : Int) < (fs.length : Int) := by omega
          have HY : Hid (LinksIn fs ∧ CountP fs) := ⟨HLI.out, fun j hj => HE.out j (by omega)⟩
          go_wp2_with fail
          go_ret
          exact ⟨says_yes HY.out, hb⟩

end Go.Proofs.YtdpighcaieajjaaGreat
