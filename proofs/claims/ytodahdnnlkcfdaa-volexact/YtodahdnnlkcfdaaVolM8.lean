/- Laid together: Meas, Pathsm, Mayb, Marks, Markw, Filed. -/
import Derived.Test.YtodahdnnlkcfdaaVolM7
/- How many directories there are below one, and how deep, by the program. -/
namespace Go.Proofs.Ytodahdnnlkcfdaa
open Go.RowKit

def mstep (fs : List FileD) (n : Nat) (a : Nat × Nat) (x : Nat) : Nat × Nat := (a.1 + (msr fs n x).1, max a.2 ((msr fs n x).2 + 1))
theorem mfold_ge (fs : List FileD) (n : Nat) (l : List Nat) : ∀ a : Nat × Nat, a.1 ≤ (l.foldl (mstep fs n) a).1 ∧ a.2 ≤ (l.foldl (mstep fs n) a).2 := by
  induction l with
  | nil => intro a; exact ⟨Nat.le_refl _, Nat.le_refl _⟩
  | cons x l ih =>
    intro a
    have h := ih (mstep fs n a x)
    simp only [List.foldl_cons]
    have h1 : a.1 ≤ (mstep fs n a x).1 := by simp [mstep]
    have h2 : a.2 ≤ (mstep fs n a x).2 := by simp [mstep]; omega
    omega
def macc (fs : List FileD) (n q j : Nat) : Nat × Nat := ((kids fs q).take j).foldl (mstep fs n) (1, 0)
theorem kids_len (fs : List FileD) (q : Nat) : (kids fs q).length = (fs.getD q f0).list.length := by unfold kids; simp
theorem kids_get (fs : List FileD) (q j : Nat) (h : j < (fs.getD q f0).list.length) : (kids fs q)[j]? = some (placeOf fs ((fs.getD q f0).list.getD j lk0).2) := by
  unfold kids
  rw [List.getElem?_map, List.getElem?_eq_getElem h, List.getD_eq_getElem?_getD (l := (fs.getD q f0).list), List.getElem?_eq_getElem h]; rfl
theorem macc_succ (fs : List FileD) (n q j : Nat) (h : j < (fs.getD q f0).list.length) : macc fs n q (j + 1) = mstep fs n (macc fs n q j) (placeOf fs ((fs.getD q f0).list.getD j lk0).2) := by
  have hk := kids_get fs q j h
  obtain ⟨h1, h2⟩ := List.getElem?_eq_some_iff.1 hk
  unfold macc
  rw [List.take_succ_eq_append_getElem h1, List.foldl_append, h2]; rfl
theorem macc_le (fs : List FileD) (n q j : Nat) (hd : dirAt fs q = true) : (macc fs n q j).1 ≤ (msr fs (n + 1) q).1 ∧ (macc fs n q j).2 ≤ (msr fs (n + 1) q).2 := by
  rw [msr, if_pos hd]
  have h := mfold_ge fs n ((kids fs q).drop j) (macc fs n q j)
  unfold macc at h ⊢
  rw [← List.foldl_append, List.take_append_drop] at h
  exact h
theorem macc_all (fs : List FileD) (n q j : Nat) (hd : dirAt fs q = true) (h : (fs.getD q f0).list.length ≤ j) : macc fs n q j = msr fs (n + 1) q := by
  rw [msr, if_pos hd]
  unfold macc
  rw [List.take_of_length_le (by rw [kids_len]; exact h)]; rfl
theorem tup2 {a b c d : Int} (h1 : a = c) (h2 : b = d) : Ending.returned (.tuple #[.int .i64 a, .int .i64 b]) = .returned (.tuple #[.int .i64 c, .int .i64 d]) := by rw [h1, h2]

set_option maxRecDepth 100000 in
set_option maxHeartbeats 4000000 in
theorem meas_step (B : Nat) (d : VolD) (hs : SmallV d) (hli : LinksIn d.files) (n0 : Nat) (ih : ∀ n, n0 = n + 1 → ∀ (q : Nat) (v : Value) (w : World), VolAt w B d → NodeOf w B d v q → Tame d.files n q → (msr d.files n q).1 ≤ 100000 → (msr d.files n q).2 ≤ 100000 →
      Calls Try.prog 93 #[.pointer (some ⟨B, 0, none⟩), v] w fun e w' => e = .returned (.tuple #[.int .i64 (msr d.files n q).1, .int .i64 (msr d.files n q).2]) ∧ Below w.heap.size w w') :
    ∀ (q : Nat) (v : Value) (w : World), VolAt w B d → NodeOf w B d v q → Tame d.files n0 q → (msr d.files n0 q).1 ≤ 100000 → (msr d.files n0 q).2 ≤ 100000 →
      Calls Try.prog 93 #[.pointer (some ⟨B, 0, none⟩), v] w fun e w' => e = .returned (.tuple #[.int .i64 (msr d.files n0 q).1, .int .i64 (msr d.files n0 q).2]) ∧ Below w.heap.size w w' := by
  intro q v w hv hn ht hm1 hm2
  have HVA : Hid (VolAt w B d) := hv
  have hnv := hn.val hv
  obtain ⟨ga, go, gc, gB, hq, rfl⟩ := hn
  obtain ⟨b, o, e0, hf⟩ := hnv
  simp only [Value.agg.injEq, Array.mk.injEq, List.cons.injEq, Value.pointer.injEq, Option.some.injEq, and_true] at e0
  injection e0 with e1 e2
  subst e1; subst e2
  clear gB
  obtain ⟨ab, cb, al, cl, ⟨c0, c1, c2, c3, c4⟩, _, hll, _⟩ := hf
  have hb : ga < w.heap.size := block_lt_of_cell c4
  have HB0 : Hid (Below w.heap.size w (w.alloc (.cells #[.pointer (some ⟨ga, go + q * 5, none⟩)] 120))) := nwA (nwR w) _
  cases hd : dirAt d.files q
  · have HZ : Hid (msr d.files n0 q = (0, 0)) := msr_leaf q n0 hd
    rw [show (d.files.getD q f0).dir = false from hd] at c1
    go_enter Try.func93, Try.ntmps93
    go_wp2_with fail
    go_ret2
    exact ⟨by rw [HZ.out]; rfl, HB0.out⟩
  · cases n0 with
    | zero => rw [show dirAt d.files q = false from ht] at hd; cases hd
    | succ n =>
      rw [show (d.files.getD q f0).dir = true from hd] at c1
      have HT : Hid (∀ x ∈ kids d.files q, Tame d.files n x) := ht hd
      have HIH := ih n rfl
      have HI : Hid (∀ (q : Nat) (v : Value) (w : World), VolAt w B d → NodeOf w B d v q → Tame d.files n q → (msr d.files n q).1 ≤ 100000 → (msr d.files n q).2 ≤ 100000 →
        Calls Try.prog 93 #[.pointer (some ⟨B, 0, none⟩), v] w fun e w' => e = .returned (.tuple #[.int .i64 (msr d.files n q).1, .int .i64 (msr d.files n q).2]) ∧ Below w.heap.size w w') := HIH
      clear HIH ih ht
      have HL : Hid (LinksAt w al (d.files.getD q f0).list) := hll
      have hsm := (hs.2 _ (getD_mem hq)).2
      have hfl := hs.1
      have HAC : Hid (∀ j, (macc d.files n q j).1 ≤ (msr d.files (n + 1) q).1 ∧ (macc d.files n q j).2 ≤ (msr d.files (n + 1) q).2) := fun j => macc_le d.files n q j hd
      have HAS : Hid (∀ j, j < (d.files.getD q f0).list.length → macc d.files n q (j + 1) = mstep d.files n (macc d.files n q j) (placeOf d.files ((d.files.getD q f0).list.getD j lk0).2)) := fun j hj => macc_succ d.files n q j hj
      have HAA : Hid (∀ j, (d.files.getD q f0).list.length ≤ j → macc d.files n q j = msr d.files (n + 1) q) := fun j hj => macc_all d.files n q j hd hj
      have HA0 : Hid (macc d.files n q 0 = (1, 0)) := by show _ = _; simp [macc]
      have HAT : Hid (∀ j, j < (d.files.getD q f0).list.length → ∃ p, atI d.files ((d.files.getD q f0).list.getD j lk0).2 = some p ∧ placeOf d.files ((d.files.getD q f0).list.getD j lk0).2 = p ∧ Tame d.files n p) := fun j hj => by
        have hm : (d.files.getD q f0).list.getD j lk0 ∈ (d.files.getD q f0).list := by
          have : (d.files.getD q f0).list.getD j lk0 = (d.files.getD q f0).list[j] := by rw [List.getD, List.getElem?_eq_getElem hj]; rfl
          rw [this]; exact List.getElem_mem hj
        obtain ⟨p, hp⟩ := Option.isSome_iff_exists.1 (hli _ (getD_mem hq) _ hm)
        have e : placeOf d.files ((d.files.getD q f0).list.getD j lk0).2 = p := by unfold placeOf; rw [hp]; rfl
        exact ⟨p, hp, e, HT.out p (by rw [← e]; unfold kids; exact List.mem_map.2 ⟨_, hm, rfl⟩)⟩
      clear HT hll
      generalize macc d.files n q = ac at HAC HAS HAA HA0
      generalize msr d.files (n + 1) q = MM at HAC HAA hm1 hm2
      generalize (d.files.getD q f0).list = li at c4 HL hsm HAS HAA HAT
      obtain ⟨M1, M2⟩ := MM
      simp only at hm1 hm2 HAC
      go_enter Try.func93, Try.ntmps93
      go_wp2_with fail
      generalize hW0 : w.alloc (.cells #[.pointer (some ⟨ga, go + q * 5, none⟩)] 120) = W0 at HB0 ⊢
      clear hW0 c0 c1 c2 c3 c4
      go_loopw [4, 5, 22] (fun x y i wr => ∃ (j : Nat), j ≤ li.length ∧ i = .int .i64 j ∧ x = .int .i64 (ac j).1 ∧ y = .int .i64 (ac j).2 ∧ Below w.heap.size w wr)
        (fun _ _ i _ => li.length - (intOf i).toNat)
      case atStart => exact ⟨0, by omega, rfl, by rw [HA0.out]; rfl, by rw [HA0.out]; rfl, HB0.out⟩
      case round =>
        obtain ⟨j, hj, rfl, rfl, rfl, hbr⟩ := hrel
        by_cases hjl : j < li.length
        · have hjli : (j : Int) < (li.length : Int) := by omega
          obtain ⟨b2, o2, rfl, d1, d2⟩ := (HL.out.below hbr).cell hjl
          obtain ⟨p, hp, hpe, htp⟩ := HAT.out j hjl
          have HS : Hid (ac (j + 1) = ((ac j).1 + (msr d.files n p).1, max (ac j).2 ((msr d.files n p).2 + 1))) := by show _ = _; rw [HAS.out j hjl, hpe]; rfl
          have hle := HAC.out (j + 1)
          have hle0 := HAC.out j
          rw [HS.out] at hle
          simp only at hle
          have hm1' : (msr d.files n p).1 ≤ 100000 := by omega
          have hm2' : (msr d.files n p).2 ≤ 100000 := by omega
          have HM : Hid ((msr d.files n p).1 ≤ 100000 ∧ (msr d.files n p).2 ≤ 100000) := ⟨hm1', hm2'⟩
          have HPA : Hid (atI d.files (li.getD j lk0).2 = some p) := hp
          have HTP : Hid (Tame d.files n p) := htp
          clear hp hpe htp
          generalize li.getD j lk0 = x at d1 d2 HPA
          obtain ⟨x1, x2⟩ := x
          simp only at d1 d2 HPA
          have ha1 : (ac j).1 ≤ 100000 := by omega
          have ha2 : (ac j).2 ≤ 100000 := by omega
          clear hle hle0
          go_wp2_with fail
          have HB2 : Hid (Below w.heap.size w (wr.alloc (.cells #[.string x1, .int .i64 x2] 87))) := nwA hbr _
          refine (file_any B d x2 p _ (HVA.out.below HB2.out) hfl HPA.out).mono ?_
          rintro e w2 ⟨⟨vv, rfl, hno⟩, hb2⟩
          have HB3 : Hid (Below w.heap.size w w2) := nwT HB2.out hb2
          have HNO : Hid (NodeOf w2 B d vv p) := hno
          obtain ⟨ga2, go2, gc2, _, _, rfl⟩ := hno
          clear hb2 HB2 d1 d2 hbr
          go_wp2_with fail
          refine (HI.out p _ w2 (HVA.out.below HB3.out) HNO.out HTP.out HM.out.1 HM.out.2).mono ?_
          rintro e w3 ⟨rfl, hb3⟩
          have HB4 : Hid (Below w.heap.size w w3) := nwT HB3.out hb3
          clear hb3
          generalize msr d.files n p = mm at HS hm1' hm2'
          generalize hacj : ac j = aa at HS ha1 ha2
          clear hacj HNO HTP HM HPA
          obtain ⟨m1, m2⟩ := mm
          obtain ⟨a1, a2⟩ := aa
          simp only at hm1' hm2' ha1 ha2
          go_wp2_with fail
          go_roundw
          case rel =>
            refine ⟨j + 1, by omega, by go_num, ?_, ?_, HB4.out⟩
            · rw [HS.out]; show Value.int .i64 _ = Value.int .i64 ((a1 + m1 : Nat) : Int); rw [Int.natCast_add]
            · rw [HS.out]; show Value.int .i64 _ = Value.int .i64 ((max a2 (m2 + 1) : Nat) : Int); congr 1; omega
          case measure => simp [intOf]; omega
        · have hjli : ¬ (j : Int) < (li.length : Int) := by omega
          have HE : Hid (ac j = (M1, M2)) := HAA.out j (by omega)
          generalize hacj : ac j = aa at HE
          clear hacj
          go_wp2_with fail
          go_ret2
          exact ⟨by rw [HE.out]; rfl, hbr⟩

theorem meas_any (B : Nat) (d : VolD) (hs : SmallV d) (hli : LinksIn d.files) : ∀ (n q : Nat) (v : Value) (w : World), VolAt w B d → NodeOf w B d v q → Tame d.files n q → (msr d.files n q).1 ≤ 100000 → (msr d.files n q).2 ≤ 100000 →
      Calls Try.prog 93 #[.pointer (some ⟨B, 0, none⟩), v] w fun e w' => e = .returned (.tuple #[.int .i64 (msr d.files n q).1, .int .i64 (msr d.files n q).2]) ∧ Below w.heap.size w w' := by
  intro n
  induction n with
  | zero => exact meas_step B d hs hli 0 (fun n h => by omega)
  | succ n ih => exact meas_step B d hs hli (n + 1) (fun m h => by cases h; exact ih)

end Go.Proofs.Ytodahdnnlkcfdaa

/- Whether all are reached, and how deep, by the program. -/
namespace Go.Proofs.Ytodahdnnlkcfdaa
open Go.RowKit

theorem dirsOf_succ {fs : List FileD} {k : Nat} (h : k < fs.length) : dirsOf (fs.take (k + 1)) = dirsOf (fs.take k) + if (fs.getD k f0).dir then 1 else 0 := by
  unfold dirsOf
  rw [List.take_succ_eq_append_getElem h, List.filter_append, List.length_append]
  have e : fs.getD k f0 = fs[k] := by simp [List.getD, h]
  rw [e]
  cases hh : fs[k].dir <;> simp [hh]
theorem dirsOf_le (fs : List FileD) : dirsOf fs ≤ fs.length := List.length_filter_le _ _
def PathP (fs : List FileD) : Prop := (msr fs fs.length 0).1 = dirsOf fs ∧ (msr fs fs.length 0).2 ≤ 5

set_option maxRecDepth 100000 in
set_option maxHeartbeats 4000000 in
theorem pathsm_any (B : Nat) (d : VolD) (w : World) (hv : VolAt w B d) (hs : SmallV d) (hli : LinksIn d.files) (h1 : atI d.files 1 = some 0) (ht : Tame d.files d.files.length 0) (hm1 : (msr d.files d.files.length 0).1 ≤ 100000) (hm2 : (msr d.files d.files.length 0).2 ≤ 100000) :
    Calls Try.prog 87 #[.pointer (some ⟨B, 0, none⟩)] w fun e w' => SaysB e (PathP d.files) ∧ Below w.heap.size w w' := by
  have HV : Hid (VolAt w B d) := hv
  have HSV : Hid (SmallV d) := hs
  have HAT : Hid (atI d.files 1 = some 0) := h1
  have HT : Hid (Tame d.files d.files.length 0) := ht
  have HLI : Hid (LinksIn d.files) := hli
  have HM : Hid ((msr d.files d.files.length 0).1 ≤ 100000 ∧ (msr d.files d.files.length 0).2 ≤ 100000) := ⟨hm1, hm2⟩
  have HPP : Hid (PathP d.files ↔ ((msr d.files d.files.length 0).1 = dirsOf d.files ∧ (msr d.files d.files.length 0).2 ≤ 5)) := Iff.rfl
  have HME : Hid (∀ (v : Value) (w : World), VolAt w B d → NodeOf w B d v 0 → Calls Try.prog 93 #[.pointer (some ⟨B, 0, none⟩), v] w fun e w' => e = .returned (.tuple #[.int .i64 (msr d.files d.files.length 0).1, .int .i64 (msr d.files d.files.length 0).2]) ∧ Below w.heap.size w w') := fun v w h1 h2 => meas_any B d HSV.out HLI.out _ 0 v w h1 h2 HT.out hm1 hm2
  generalize PathP d.files = PP at HPP
  generalize msr d.files d.files.length 0 = mm at HPP HME
  obtain ⟨m1, m2⟩ := mm
  simp only at HPP HME
  obtain ⟨a, c, hB, hf, _⟩ := hv
  obtain ⟨x0, x1, x2, x3, x4, _⟩ := five hB
  have hlt := block_lt_of_cell x0
  simp only at hlt
  have HF : Hid (FilesAt w a d.files) := hf
  have hl := hs.1
  clear hf hB x0 x1 x2 x4 hs h1 ht hli hm1 hm2 HM HT HLI
  go_enter Try.func87, Try.ntmps87
  go_wp2_with fail
  clear x3
  go_loopw [3, 14] (fun n i wr => ∃ (k : Nat), k ≤ d.files.length ∧ i = .int .i64 k ∧ n = .int .i64 (dirsOf (d.files.take k)) ∧ Below w.heap.size w wr)
    (fun _ i _ => d.files.length - (intOf i).toNat)
  case atStart => exact ⟨0, by omega, rfl, rfl, nwR w⟩
  case round =>
    obtain ⟨k, hk, rfl, rfl, hb⟩ := hrel
    by_cases hkl : k < d.files.length
    · have hkli : (k : Int) < (d.files.length : Int) := by omega
      obtain ⟨b1, o1, rfl, hfi⟩ := (HF.out.below hb).file hkl
      obtain ⟨ab, cb, al, cl, ⟨c0, c1, c2, c3, c4⟩, _, _, _⟩ := hfi
      have HS : Hid (dirsOf (d.files.take (k + 1)) = dirsOf (d.files.take k) + if (d.files.getD k f0).dir then 1 else 0) := dirsOf_succ hkl
      have hle : dirsOf (d.files.take k) ≤ 100000 := by have := dirsOf_le (d.files.take k); rw [List.length_take] at this; omega
      generalize d.files.getD k f0 = f at c0 c1 c2 c3 c4 HS
      generalize dirsOf (d.files.take k) = D at HS hle
      obtain ⟨fid, fdir, fsize, fbl, fli⟩ := f
      simp only at c0 c1 c2 c3 c4 HS
      cases fdir
      · go_wp2_with fail
        go_roundw
        case rel => exact ⟨k + 1, by omega, by go_num, by rw [HS.out]; simp, nwA hb _⟩
        case measure => simp [intOf]; omega
      · go_wp2_with fail
        go_roundw
        case rel => exact ⟨k + 1, by omega, by go_num, by rw [HS.out]; simp, nwA hb _⟩
        case measure => simp [intOf]; omega
    · have hkli : ¬ (k : Int) < (d.files.length : Int) := by omega
      have e : d.files.take k = d.files := List.take_of_length_le (by omega)
      rw [e]
      have hle : dirsOf d.files ≤ 100000 := by have := dirsOf_le d.files; omega
      go_wp2_with fail
      refine (file_any B d 1 0 _ (HV.out.below hb) hl HAT.out).mono ?_
      rintro e w2 ⟨⟨vv, rfl, hno⟩, hb2⟩
      have HB3 : Hid (Below w.heap.size w w2) := nwT hb hb2
      have HNO : Hid (NodeOf w2 B d vv 0) := hno
      obtain ⟨ga2, go2, gc2, _, _, rfl⟩ := hno
      clear hb2 hb
      go_wp2_with fail
      refine (HME.out _ w2 (HV.out.below HB3.out) HNO.out).mono ?_
      rintro e w3 ⟨rfl, hb3⟩
      have HB4 : Hid (Below w.heap.size w w3) := nwT HB3.out hb3
      clear hb3 HNO
      generalize dirsOf d.files = D at HPP hle
      by_cases h1 : m1 = D
      · subst h1
        have HR : Hid ((decide ((m2 : Int) ≤ 5) = true) ↔ PP) := by
          show _ ↔ _
          rw [decide_eq_true_iff, HPP.out]
          constructor
          · intro h; exact ⟨rfl, by omega⟩
          · intro h; have := h.2; omega
        go_wp2_with fail
        go_ret
        exact ⟨⟨_, rfl, HR.out⟩, HB4.out⟩
      · have HN : Hid (¬ PP) := fun h => h1 (HPP.out.1 h).1
        have h1i : ((m1 : Int) == (D : Int)) = false := beq_eq_false_iff_ne.2 (by omega)
        go_wp2_with fail
        go_ret
        exact ⟨says_no HN.out, HB4.out⟩

end Go.Proofs.Ytodahdnnlkcfdaa

/- Which volumes may be, by the program. -/
namespace Go.Proofs.Ytodahdnnlkcfdaa
open Go.RowKit

def PathOk (fs : List FileD) : Prop := (∀ i, i < fs.length → Reach fs i) ∧ deepF fs 5 1 ≤ 5
/-- which volumes may be -/
def VolOk (d : VolD) : Prop := NumOk d ∧ FilesOk d.next d.files ∧ (LinksIn d.files ∧ CountP d.files) ∧ PathOk d.files

theorem rising_of {next : Int} {fs : List FileD} (h : ∀ k, k < fs.length → IdOk next fs k) : Rising fs := by
  have step : ∀ k, k + 1 < fs.length → (fs.getD k f0).id < (fs.getD (k + 1) f0).id := fun k hk => by
    have := (h (k + 1) hk).1
    unfold lastI at this
    rw [if_neg (by omega)] at this
    simp only [Nat.add_sub_cancel] at this
    omega
  intro i j hij hj
  induction j with
  | zero => omega
  | succ j ih =>
    have h1 := step j hj
    by_cases e : i = j
    · subst e; exact h1
    · have := ih (by omega) (by omega)
      omega
theorem web_of {next : Int} {fs : List FileD} (hf : FilesOk next fs) (hl : LinksIn fs) (hc : CountP fs) : Web fs := by
  have hr : Rising fs := rising_of (fun k hk => (hf.2 k hk).1)
  refine ⟨hf.1.1, hf.1.2.2.2, hl, hr, ?_, ?_⟩
  · intro f hm hd
    obtain ⟨k, hk, rfl⟩ := List.getElem_of_mem hm
    have h2 := (hf.2 k hk).2
    have e : fs.getD k f0 = fs[k] := by simp [List.getD, hk]
    rw [e] at h2
    unfold NodeOk at h2
    rw [hd] at h2
    simp only [Bool.false_eq_true, if_false] at h2
    exact List.length_eq_zero_iff.1 h2.1
  · intro i hi
    have h2 := hc i hi
    have h1 := hf.1.2.2.1
    refine ⟨fun e => ?_, fun e => ?_⟩
    · subst e; exact h2.1 h1
    · have h3 := hr 0 i e hi
      exact h2.2 (by omega)
theorem msr_le (fs : List FileD) : ∀ n q, (msr fs n q).2 ≤ n := by
  intro n
  induction n with
  | zero => intro q; exact Nat.le_refl _
  | succ n ih =>
    intro q
    cases hd : dirAt fs q
    · rw [msr_leaf q (n + 1) hd]; exact Nat.zero_le _
    · rw [msr_deep q n hd]
      exact foldl_max_le _ (fun x => (msr fs n x).2 + 1) (n + 1) (fun x _ => by have := ih x; omega) 0 (by omega)
theorem msr_dirs {fs : List FileD} (W : Web fs) : (msr fs fs.length 0).1 ≤ fs.length := by
  rw [msr_dl]
  have hn := dl_nodup W fs.length 0 0 .root
  have := nodup_len (m := List.range fs.length) hn (fun x hx => by
    obtain ⟨k, hk⟩ := dl_sub _ _ _ hx
    refine List.mem_range.2 ?_
    cases hk with
    | self _ => exact W.pos
    | step _ hm _ => exact kids_lt W.lin hm)
  rw [List.length_range] at this
  exact this

set_option maxRecDepth 100000 in
set_option maxHeartbeats 2000000 in
theorem mayBe_any (B : Nat) (d : VolD) (w : World) (hv : VolAt w B d) (hs : SmallV d) :
    Calls Try.prog 83 #[.pointer (some ⟨B, 0, none⟩)] w fun e w' => SaysB e (VolOk d) ∧ Below w.heap.size w w' := by
  have HV : Hid (VolAt w B d) := hv
  have HS : Hid (SmallV d) := hs
  have HX : Hid (VolOk d ↔ (NumOk d ∧ FilesOk d.next d.files ∧ (LinksIn d.files ∧ CountP d.files) ∧ PathOk d.files)) := Iff.rfl
  clear hv hs
  generalize VolOk d = P at HX
  go_enter Try.func83, Try.ntmps83
  go_wp2_with fail
  refine (nums_any B d w HV.out).mono ?_
  rintro e w1 ⟨⟨t1, rfl, h1⟩, hb1⟩
  have HB1 : Hid (Below w.heap.size w w1) := hb1
  clear hb1
  cases t1
  · have HN : Hid (¬ P) := fun h => by have := h1.2 (HX.out.1 h).1; cases this
    clear h1
    go_wp2_with fail
    go_ret
    exact ⟨says_no HN.out, HB1.out⟩
  · have HNU : Hid (NumOk d) := h1.1 rfl
    have hnx : 0 ≤ d.next ∧ d.next ≤ 1073741824 := by have := HNU.out.2.2.1; simpa [numB] using this
    have HNX : Hid (0 ≤ d.next ∧ d.next ≤ 1073741824) := hnx
    clear h1 hnx
    go_wp2_with fail
    refine (filesm_any B d w1 (HV.out.below HB1.out) HS.out HNX.out.1 HNX.out.2).mono ?_
    rintro e w2 ⟨⟨t2, rfl, h2⟩, hb2⟩
    have HB2 : Hid (Below w.heap.size w w2) := nwT HB1.out hb2
    clear hb2
    cases t2
    · have HN : Hid (¬ P) := fun h => by have := h2.2 (HX.out.1 h).2.1; cases this
      clear h2
      go_wp2_with fail
      go_ret
      exact ⟨says_no HN.out, HB2.out⟩
    · have HFO : Hid (FilesOk d.next d.files) := h2.1 rfl
      clear h2
      go_wp2_with fail
      refine (linksm_any B d w2 (HV.out.below HB2.out) HS.out).mono ?_
      rintro e w3 ⟨⟨t3, rfl, h3⟩, hb3⟩
      have HB3 : Hid (Below w.heap.size w w3) := nwT HB2.out hb3
      clear hb3
      cases t3
      · have HN : Hid (¬ P) := fun h => by have := h3.2 (HX.out.1 h).2.2.1; cases this
        clear h3
        go_wp2_with fail
        go_ret
        exact ⟨says_no HN.out, HB3.out⟩
      · have HLC : Hid (LinksIn d.files ∧ CountP d.files) := h3.1 rfl
        have HW : Hid (Web d.files) := web_of HFO.out HLC.out.1 HLC.out.2
        have HA : Hid (atI d.files 1 = some 0) := by
          have := atI_self HW.out.ris HW.out.pos
          rw [HFO.out.1.2.2.1] at this
          exact this
        have HPB : Hid (PathP d.files ↔ PathOk d.files) := paths_both HW.out HFO.out.1.2.2.1
        have hlen : d.files.length ≤ 16 := HFO.out.1.2.1
        clear h3
        go_wp2_with fail
        refine (pathsm_any B d w3 (HV.out.below HB3.out) HS.out HLC.out.1 HA.out (tame_root HW.out) (by have := msr_dirs HW.out; omega) (by have := msr_le d.files d.files.length 0; omega)).mono ?_
        rintro e w4 ⟨⟨t4, rfl, h4⟩, hb4⟩
        have HB4 : Hid (Below w.heap.size w w4) := nwT HB3.out hb4
        have HR : Hid (t4 = true ↔ P) := by show _ ↔ _; rw [h4, HPB.out, HX.out]; exact ⟨fun h => ⟨HNU.out, HFO.out, HLC.out, h⟩, fun h => h.2.2.2⟩
        clear hb4 h4
        go_wp2_with fail
        go_ret
        exact ⟨⟨t4, rfl, HR.out⟩, HB4.out⟩

set_option maxRecDepth 100000 in
set_option maxHeartbeats 2000000 in
theorem checkv_any (v : Value) (d : VolD) (w : World) (hv : VolVal w v d) (hs : SmallV d) :
    Calls Try.prog 68 #[v] w fun e w' => (∃ b : Bool, (b = true ↔ VolOk d) ∧ e = .returned (.int .i64 (errI b))) ∧ Below w.heap.size w w' := by
  obtain ⟨a, ca, rfl, hfs, hcp⟩ := hv
  have HF : Hid (FilesAt w a d.files) := hfs
  have HS : Hid (SmallV d) := hs
  have HBW : Hid (Below w.heap.size w ((w.alloc (.cells #[.int .i64 d.id, .int .i64 d.fr, .bool d.snap, .slice a d.files.length ca, .int .i64 d.next] 32)).alloc (.cells #[.int .i64 d.id, .int .i64 d.fr, .bool d.snap, .slice a d.files.length ca, .int .i64 d.next] 115))) := nwA (nwA (nwR w) _) _
  have HVA : Hid (VolAt ((w.alloc (.cells #[.int .i64 d.id, .int .i64 d.fr, .bool d.snap, .slice a d.files.length ca, .int .i64 d.next] 32)).alloc (.cells #[.int .i64 d.id, .int .i64 d.fr, .bool d.snap, .slice a d.files.length ca, .int .i64 d.next] 115)) (w.heap.size + 1) d) := ⟨a, ca, heap_alloc_new2 w _ _, HF.out.below HBW.out, hcp⟩
  clear hfs hs hcp
  go_enter Try.func68, Try.ntmps68
  go_wp2_with fail
  refine (mayBe_any (w.heap.size + 1) d _ HVA.out HS.out).mono ?_
  rintro e w1 ⟨⟨t1, rfl, h1⟩, hb1⟩
  have HB1 : Hid (Below w.heap.size w w1) := nwT HBW.out hb1
  have HR : Hid (t1 = true ↔ VolOk d) := h1
  clear hb1 h1
  cases t1
  · go_wp2_with fail
    go_ret
    exact ⟨⟨false, HR.out, rfl⟩, HB1.out⟩
  · have HY : Hid (VolOk d) := HR.out.1 rfl
    clear HR
    go_wp2_with fail
    go_ret
    exact ⟨⟨true, ⟨fun _ => HY.out, fun _ => rfl⟩, rfl⟩, HB1.out⟩

end Go.Proofs.Ytodahdnnlkcfdaa

/- Which files are reached, by the page. -/
namespace Go.Proofs.Ytodahdnnlkcfdaa
open Go.RowKit

/-- a row of marks, in a block of its own -/
def Row (w : World) (g : Nat) (bs : List Bool) : Prop := w.heap[g]? = some (.cells (bs.map Value.bool).toArray 4 (0, 0))
inductive Desc (fs : List FileD) (q : Nat) : Nat → Prop where
  | self : Desc fs q q
  | step {p x : Nat} : Desc fs q p → x ∈ kids fs p → Desc fs q x
theorem Desc.front {fs : List FileD} {q c x : Nat} (h : Desc fs c x) (hc : c ∈ kids fs q) : Desc fs q x := by
  induction h with
  | self => exact .step .self hc
  | step _ hm ih => exact .step ih hm
theorem Desc.reach {fs : List FileD} {x : Nat} (h : Desc fs 0 x) : Reach fs x := by
  induction h with
  | self => exact .root
  | step _ hm ih => exact .step ih hm
def MarkRel (fs : List FileD) (q : Nat) (bs bs' : List Bool) : Prop :=
  bs'.length = bs.length ∧ (∀ i, bs.getD i false = true → bs'.getD i false = true) ∧ bs'.getD q false = true ∧ ∀ i, bs'.getD i false = true → bs.getD i false = false → Desc fs q i ∧ ∀ x ∈ kids fs i, bs'.getD x false = true
def LoopRel (fs : List FileD) (q k : Nat) (bs bs' : List Bool) : Prop :=
  bs'.length = bs.length ∧ (∀ i, bs.getD i false = true → bs'.getD i false = true) ∧ (∀ j, j < k → ∀ x, (kids fs q)[j]? = some x → bs'.getD x false = true) ∧ ∀ i, bs'.getD i false = true → bs.getD i false = false → Desc fs q i ∧ ∀ x ∈ kids fs i, bs'.getD x false = true
theorem LoopRel.start (fs : List FileD) (q : Nat) (bs : List Bool) : LoopRel fs q 0 bs bs := ⟨rfl, fun _ h => h, fun j hj => by omega, fun i h1 h2 => by rw [h1] at h2; cases h2⟩
theorem LoopRel.next {fs : List FileD} {q k x : Nat} {bs b1 b2 : List Bool} (h : LoopRel fs q k bs b1) (hx : (kids fs q)[k]? = some x) (m : MarkRel fs x b1 b2) : LoopRel fs q (k + 1) bs b2 := by
  obtain ⟨l1, m1, k1, n1⟩ := h
  obtain ⟨l2, m2, q2, n2⟩ := m
  refine ⟨by omega, fun i hi => m2 i (m1 i hi), fun j hj y hy => ?_, fun i h1 h2 => ?_⟩
  · by_cases e : j = k
    · subst e; rw [hx] at hy; injection hy with hy; subst hy; exact q2
    · exact m2 y (k1 j (by omega) y hy)
  · cases hb : b1.getD i false
    · obtain ⟨a, b⟩ := n2 i h1 hb
      exact ⟨a.front (List.mem_of_getElem? hx), b⟩
    · obtain ⟨a, b⟩ := n1 i hb h2
      exact ⟨a, fun y hy => m2 y (b y hy)⟩
theorem getD_set' (bs : List Bool) (q i : Nat) (hq : q < bs.length) : (bs.set q true).getD i false = if i = q then true else bs.getD i false := by
  simp only [List.getD_eq_getElem?_getD]
  by_cases e : i = q
  · subst e; rw [List.getElem?_set_self hq]; simp
  · rw [List.getElem?_set_ne (by omega), if_neg e]
theorem LoopRel.fin {fs : List FileD} {q : Nat} {bs b1 : List Bool} (hq : q < bs.length) (h : LoopRel fs q (kids fs q).length (bs.set q true) b1) : MarkRel fs q bs b1 := by
  obtain ⟨l1, m1, k1, n1⟩ := h
  refine ⟨by rw [l1, List.length_set], fun i hi => m1 i (by rw [getD_set' bs q i hq]; split <;> simp_all), m1 q (by rw [getD_set' bs q q hq, if_pos rfl]), fun i h1 h2 => ?_⟩
  by_cases e : i = q
  · subst e
    refine ⟨.self, fun x hx => ?_⟩
    obtain ⟨j, hj, rfl⟩ := List.getElem_of_mem hx
    exact k1 j hj _ (List.getElem?_eq_getElem hj)
  · exact n1 i h1 (by rw [getD_set' bs q i hq, if_neg e]; exact h2)
theorem MarkRel.same {fs : List FileD} {q : Nat} {bs : List Bool} (h : bs.getD q false = true) : MarkRel fs q bs bs :=
  ⟨rfl, fun _ h => h, h, fun i h1 h2 => by rw [h1] at h2; cases h2⟩
theorem falses_le : ∀ {bs b1 : List Bool}, b1.length = bs.length → (∀ i, bs.getD i false = true → b1.getD i false = true) → b1.count false ≤ bs.count false := by
  intro bs
  induction bs with
  | nil => intro b1 h _; rw [List.length_eq_zero_iff.1 h]; simp
  | cons x bs ih =>
    intro b1 h hm
    cases b1 with
    | nil => simp at h
    | cons y b1 =>
      have h1 := ih (b1 := b1) (by simpa using h) (fun i hi => by have := hm (i + 1) (by simpa using hi); simpa using this)
      have h0 := hm 0
      simp only [List.getD_cons_zero] at h0
      rw [List.count_cons, List.count_cons]
      cases x <;> cases y <;> simp_all <;> omega
theorem falses_set : ∀ {bs : List Bool} {q : Nat}, q < bs.length → bs.getD q false = false → (bs.set q true).count false + 1 = bs.count false := by
  intro bs
  induction bs with
  | nil => intro q h; simp at h
  | cons x bs ih =>
    intro q h hx
    cases q with
    | zero =>
      simp only [List.getD_cons_zero] at hx
      subst hx
      simp
    | succ q =>
      have := ih (q := q) (by simpa using h) (by simpa using hx)
      rw [List.set_cons_succ, List.count_cons, List.count_cons]
      omega
theorem Row.cell {w : World} {g : Nat} {bs : List Bool} (h : Row w g bs) {i : Nat} (hi : i < bs.length) : w.cell? ⟨g, i, none⟩ = some (.bool (bs.getD i false)) ∧ w.frozen? ⟨g, i, none⟩ = false := by
  refine ⟨?_, Lib.frozen_of_heap h i⟩
  rw [Lib.cell_of_heap h]
  simp [List.getD, hi]
theorem Row.set {w : World} {g : Nat} {bs : List Bool} (h : Row w g bs) (q : Nat) : Row (w.setCell ⟨g, q, none⟩ (.bool true)) g (bs.set q true) := by
  unfold Row at *
  rw [heap_setCell_same w g q _ 4 _ h]
  simp
theorem Row.grown {w w' : World} {g : Nat} {bs : List Bool} (h : Row w g bs) (hb : Below w.heap.size w w') : Row w' g bs := (hb.block _ (Array.getElem?_eq_some_iff.1 h).1).trans h
theorem gb_set {w : World} {g o : Nat} (v : Value) : w.grownBy (w.setCell ⟨g, o, none⟩ v) (some g) := by
  have h : Below g w (w.setCell ⟨g, o, none⟩ v) := (Below.refl g w).setCell (p := ⟨g, o, none⟩) (Nat.le_refl _) _
  refine ⟨h.os, h.tape, h.output, ?_, fun k hk hne => ?_⟩
  · simp
  · exact heap_setCell_other w ⟨g, o, none⟩ k v (fun e => hne (by rw [e]))
theorem gb_below {W w w' : World} {g : Nat} (h : Below W.heap.size W w) (hg : W.heap.size ≤ g) (k : w.grownBy w' (some g)) : Below W.heap.size W w' := by
  refine h.grown k (by exact h.size) (fun q e => ?_)
  injection e with e
  omega

end Go.Proofs.Ytodahdnnlkcfdaa

/- Which files are reached, by the page: the walk. -/
namespace Go.Proofs.Ytodahdnnlkcfdaa
open Go.RowKit

def BoxS (W : World) (B : Nat) (o : Obj) (w : World) : Prop := Below W.heap.size W w ∧ w.heap[B]? = some o
theorem BoxS.drew {W : World} {B : Nat} {o : Obj} {w : World} (h : BoxS W B o w) : BoxS W B o w.drew := ⟨Below.drew h.1, h.2⟩
theorem BoxS.five {W : World} {B : Nat} {c0 c1 c2 c3 c4 : Value} {t : TypeId} {w : World} (h : BoxS W B (.cells #[c0, c1, c2, c3, c4] t (0, 0)) w) : w.cell? ⟨B, 0, none⟩ = some c0 ∧ w.cell? ⟨B, 1, none⟩ = some c1 ∧ w.cell? ⟨B, 2, none⟩ = some c2 ∧ w.cell? ⟨B, 3, none⟩ = some c3 ∧ w.cell? ⟨B, 4, none⟩ = some c4 :=
  have f := Ytodahdnnlkcfdaa.five h.2
  ⟨f.1, f.2.1, f.2.2.1, f.2.2.2.1, f.2.2.2.2.1⟩
theorem BoxS.old {W : World} {B : Nat} {ob : Obj} {w : World} (h : BoxS W B ob w) {b o : Nat} {v : Value} (hc : W.cell? ⟨b, o, none⟩ = some v) : w.cell? ⟨b, o, none⟩ = some v := (h.1.cell (p := ⟨b, o, none⟩) (block_lt_of_cell hc)).trans hc
theorem BoxS.gb {W : World} {B g : Nat} {o : Obj} {w w' : World} (h : BoxS W B o w) (hg : W.heap.size ≤ g) (hne : B ≠ g) (k : w.grownBy w' (some g)) : BoxS W B o w' :=
  ⟨gb_below h.1 hg k, (k.block B (Array.getElem?_eq_some_iff.1 h.2).1 (fun e => hne (by injection e))).trans h.2⟩

set_option maxRecDepth 100000 in
set_option maxHeartbeats 4000000 in
theorem marks_step (v : Value) (d : VolD) (W : World) (hv : VolVal W v d) (hs : SmallV d) (hli : LinksIn d.files) (g cN m : Nat) (hg : W.heap.size ≤ g)
    (ih : ∀ (bs : List Bool) (id : Int) (q : Nat) (w : World), bs.count false < m → Below W.heap.size W w → Row w g bs → bs.length = d.files.length → atI d.files id = some q →
      Calls Try.prog 57 #[v, .int .i64 id, .slice (some ⟨g, 0, none⟩) bs.length cN] w fun e w' => e = .returned (.tuple #[]) ∧ (∃ bs', Row w' g bs' ∧ MarkRel d.files q bs bs') ∧ w.grownBy w' (some g))
    (bs : List Bool) (id : Int) (q : Nat) (w : World) (hm : bs.count false = m) (hW : Below W.heap.size W w) (hr : Row w g bs) (hlen : bs.length = d.files.length) (hat : atI d.files id = some q) :
    Calls Try.prog 57 #[v, .int .i64 id, .slice (some ⟨g, 0, none⟩) bs.length cN] w fun e w' => e = .returned (.tuple #[]) ∧ (∃ bs', Row w' g bs' ∧ MarkRel d.files q bs bs') ∧ w.grownBy w' (some g) := by
  have HIH : Hid (∀ (bs : List Bool) (id : Int) (q : Nat) (w : World), bs.count false < m → Below W.heap.size W w → Row w g bs → bs.length = d.files.length → atI d.files id = some q →
      Calls Try.prog 57 #[v, .int .i64 id, .slice (some ⟨g, 0, none⟩) bs.length cN] w fun e w' => e = .returned (.tuple #[]) ∧ (∃ bs', Row w' g bs' ∧ MarkRel d.files q bs bs') ∧ w.grownBy w' (some g)) := ih
  have HVV : Hid (VolVal W v d) := hv
  obtain ⟨av, ca, rfl, hfs, hcp⟩ := hv
  have HF : Hid (FilesAt W av d.files) := hfs
  have hl := hs.1
  have HSV : Hid (SmallV d) := hs
  have HLI : Hid (LinksIn d.files) := hli
  have HAT : Hid (atI d.files id = some q) := hat
  have hql := atI_lt hat
  have HW : Hid (Below W.heap.size W w) := hW
  have HR : Hid (Row w g bs) := hr
  have hgl : g < w.heap.size := (Array.getElem?_eq_some_iff.1 hr).1
  have HLEN : Hid (bs.length = d.files.length) := hlen
  have HM : Hid (bs.count false = m) := hm
  have hbl : bs.length ≤ 100000 := by omega
  have hqb : q < bs.length := by omega
  have hq0 : (0 : Int) ≤ (q : Int) := by omega
  have hqi : (q : Int) < (bs.length : Int) := by omega
  have hqf : (q : Int) < (d.files.length : Int) := by omega
  clear ih hfs hcp hli hat hW hr hlen hm hs
  go_enter Try.func57, Try.ntmps57
  go_wp2_with fail
  have HB0 : Hid (Below w.heap.size w (w.alloc (.cells #[.int .i64 d.id, .int .i64 d.fr, .bool d.snap, .slice av d.files.length ca, .int .i64 d.next] 32))) := nwA (nwR w) _
  have HBX0 : Hid ((w.alloc (.cells #[.int .i64 d.id, .int .i64 d.fr, .bool d.snap, .slice av d.files.length ca, .int .i64 d.next] 32)).heap[w.heap.size]? = some (.cells #[.int .i64 d.id, .int .i64 d.fr, .bool d.snap, .slice av d.files.length ca, .int .i64 d.next] 32 (0, 0))) := heap_alloc_new w _
  refine (at_any _ d id _ (HVV.out.below (nwT HW.out HB0.out)) hl).mono ?_
  rintro e w1 ⟨rfl, hb1⟩
  have HB1 : Hid (Below w.heap.size w w1) := nwT HB0.out hb1
  have HBX1 : Hid (w1.heap[w.heap.size]? = some (.cells #[.int .i64 d.id, .int .i64 d.fr, .bool d.snap, .slice av d.files.length ca, .int .i64 d.next] 32 (0, 0))) := (hb1.block _ (Array.getElem?_eq_some_iff.1 HBX0.out).1).trans HBX0.out
  have HR1 : Hid (Row w1 g bs) := HR.out.grown HB1.out
  clear hb1 HB0 HBX0
  simp only [HAT.out, optI]
  obtain ⟨r0, r1⟩ := HR1.out.cell hqb
  cases hbq : bs.getD q false
  · rw [hbq] at r0
    have HST : Hid (Row (w1.setCell ⟨g, q, none⟩ (.bool true)) g (bs.set q true)) := HR1.out.set q
    have HG1 : Hid (w.grownBy (w1.setCell ⟨g, q, none⟩ (.bool true)) (some g)) := (gbOf HB1.out (some g)).trans (gb_set _)
    have HBS : Hid (BoxS W w.heap.size (.cells #[.int .i64 d.id, .int .i64 d.fr, .bool d.snap, .slice av d.files.length ca, .int .i64 d.next] 32 (0, 0)) (w1.setCell ⟨g, q, none⟩ (.bool true))) := BoxS.gb (w := w1) ⟨nwT HW.out HB1.out, HBX1.out⟩ hg (by omega) (gb_set _)
    have HCT : Hid ((bs.set q true).count false < m) := by show _ < _; have := falses_set hqb hbq; have := HM.out; omega
    go_wp2_with fail
    generalize w1.setCell ⟨g, q, none⟩ (.bool true) = W1 at HST HG1 HBS ⊢
    clear r0 r1 HR1 HBX1 HB1
    go_loopw [7] (fun i wr => ∃ (k : Nat) (b2 : List Bool), k ≤ (d.files.getD q f0).list.length ∧ i = .int .i64 k ∧ Hid (Row wr g b2) ∧ Hid (LoopRel d.files q k (bs.set q true) b2) ∧ Hid (W1.grownBy wr (some g)))
      (fun i _ => (d.files.getD q f0).list.length - (intOf i).toNat)
    case atStart => exact ⟨0, _, by omega, rfl, HST.out, LoopRel.start _ _ _, World.grownBy.refl _ _⟩
    case round =>
      obtain ⟨k, b2, hk, rfl, HRK, HLR, HGK⟩ := hrel
      have HBK : Hid (BoxS W w.heap.size (.cells #[.int .i64 d.id, .int .i64 d.fr, .bool d.snap, .slice av d.files.length ca, .int .i64 d.next] 32 (0, 0)) wr) := HBS.out.gb hg (by omega) HGK.out
      obtain ⟨x0, x1, x2, x3, x4⟩ := HBK.out.five
      obtain ⟨b1, o1, rfl, hfi⟩ := HF.out.file hql
      obtain ⟨ab, cb, al, cl, ⟨_, _, _, _, c40⟩, _, hil, _⟩ := hfi
      have c4 := HBK.out.old c40
      have HLI2 : Hid (LinksAt W al (d.files.getD q f0).list) := hil
      have HKL : Hid ((kids d.files q).length = (d.files.getD q f0).list.length) := kids_len _ _
      have hsm := (HSV.out.2 _ (getD_mem hql)).2
      clear hil
      by_cases hkl : k < (d.files.getD q f0).list.length
      · have HKG : Hid ((kids d.files q)[k]? = some (placeOf d.files ((d.files.getD q f0).list.getD k lk0).2)) := kids_get _ _ _ hkl
        obtain ⟨p, hp⟩ := Option.isSome_iff_exists.1 (linksIn_at HLI.out hql hkl)
        have hpe : placeOf d.files ((d.files.getD q f0).list.getD k lk0).2 = p := by unfold placeOf; rw [hp]; rfl
        rw [hpe] at HKG
        obtain ⟨b3, o3, rfl, _, d2⟩ := HLI2.out.cell hkl
        have HD2 : Hid (W.cell? ⟨b3, o3 + k * 2 + 1, none⟩ = some (.int .i64 ((d.files.getD q f0).list.getD k lk0).2)) := d2
        have HC4 : Hid (W.cell? ⟨b1, o1 + q * 5 + 4, none⟩ = some (.slice (some ⟨b3, o3, none⟩) (d.files.getD q f0).list.length cl)) := c40
        clear d2 c40
        have HP : Hid (atI d.files ((d.files.getD q f0).list.getD k lk0).2 = some p) := hp
        clear hp hpe
        generalize ((d.files.getD q f0).list.getD k lk0).2 = y at HD2 HP
        generalize (d.files.getD q f0).list.length = LL at *
        have hkli : (k : Int) < (LL : Int) := by omega
        have hk0 : (0 : Int) ≤ (k : Int) := by omega
        have HLB : Hid (b2.length = bs.length) := by have := HLR.out.1; rw [List.length_set] at this; exact this
        have HCL : Hid (Calls Try.prog 57 #[.agg #[.int .i64 d.id, .int .i64 d.fr, .bool d.snap, .slice (some ⟨b1, o1, none⟩) d.files.length ca, .int .i64 d.next], .int .i64 y, .slice (some ⟨g, 0, none⟩) bs.length cN] wr.drew fun e w' => e = .returned (.tuple #[]) ∧ (∃ bs', Row w' g bs' ∧ MarkRel d.files p b2 bs') ∧ wr.grownBy w' (some g)) := by
          have h := HIH.out b2 y p wr.drew (by
            have h1 := falses_le HLR.out.1 HLR.out.2.1
            have h2 := HCT.out
            omega) (Below.drew HBK.out.1) HRK.out (by rw [HLB.out]; exact HLEN.out) HP.out
          rw [HLB.out] at h
          exact h.mono fun e w' ⟨h1, h2, h3⟩ => ⟨h1, h2, (gbOf (Below.drew (nwR wr)) (some g)).trans h3⟩
        have hS : BoxS W w.heap.size (.cells #[.int .i64 d.id, .int .i64 d.fr, .bool d.snap, .slice (some ⟨b1, o1, none⟩) d.files.length ca, .int .i64 d.next] 32 (0, 0)) wr := HBK.out
        have z0 : ∀ w', BoxS W w.heap.size (.cells #[.int .i64 d.id, .int .i64 d.fr, .bool d.snap, .slice (some ⟨b1, o1, none⟩) d.files.length ca, .int .i64 d.next] 32 (0, 0)) w' → w'.cell? ⟨w.heap.size, 0, none⟩ = some (.int .i64 d.id) := fun w' h => h.five.1
        have z1 : ∀ w', BoxS W w.heap.size (.cells #[.int .i64 d.id, .int .i64 d.fr, .bool d.snap, .slice (some ⟨b1, o1, none⟩) d.files.length ca, .int .i64 d.next] 32 (0, 0)) w' → w'.cell? ⟨w.heap.size, 1, none⟩ = some (.int .i64 d.fr) := fun w' h => h.five.2.1
        have z2 : ∀ w', BoxS W w.heap.size (.cells #[.int .i64 d.id, .int .i64 d.fr, .bool d.snap, .slice (some ⟨b1, o1, none⟩) d.files.length ca, .int .i64 d.next] 32 (0, 0)) w' → w'.cell? ⟨w.heap.size, 2, none⟩ = some (.bool d.snap) := fun w' h => h.five.2.2.1
        have z3 : ∀ w', BoxS W w.heap.size (.cells #[.int .i64 d.id, .int .i64 d.fr, .bool d.snap, .slice (some ⟨b1, o1, none⟩) d.files.length ca, .int .i64 d.next] 32 (0, 0)) w' → w'.cell? ⟨w.heap.size, 3, none⟩ = some (.slice (some ⟨b1, o1, none⟩) d.files.length ca) := fun w' h => h.five.2.2.2.1
        have z4 : ∀ w', BoxS W w.heap.size (.cells #[.int .i64 d.id, .int .i64 d.fr, .bool d.snap, .slice (some ⟨b1, o1, none⟩) d.files.length ca, .int .i64 d.next] 32 (0, 0)) w' → w'.cell? ⟨w.heap.size, 4, none⟩ = some (.int .i64 d.next) := fun w' h => h.five.2.2.2.2
        have z5 : ∀ w', BoxS W w.heap.size (.cells #[.int .i64 d.id, .int .i64 d.fr, .bool d.snap, .slice (some ⟨b1, o1, none⟩) d.files.length ca, .int .i64 d.next] 32 (0, 0)) w' → w'.cell? ⟨b1, o1 + q * 5 + 4, none⟩ = some (.slice (some ⟨b3, o3, none⟩) LL cl) := fun w' h => h.old HC4.out
        have z6 : ∀ w', BoxS W w.heap.size (.cells #[.int .i64 d.id, .int .i64 d.fr, .bool d.snap, .slice (some ⟨b1, o1, none⟩) d.files.length ca, .int .i64 d.next] 32 (0, 0)) w' → w'.cell? ⟨b3, o3 + k * 2 + 1, none⟩ = some (.int .i64 y) := fun w' h => h.old HD2.out
        go_wp2_with fail
        clear x0 x1 x2 x3 x4 c4
        go_region_held3 (fun w' => BoxS W w.heap.size (.cells #[.int .i64 d.id, .int .i64 d.fr, .bool d.snap, .slice (some ⟨b1, o1, none⟩) d.files.length ca, .int .i64 d.next] 32 (0, 0)) w') (first | assumption | exact BoxS.drew (by assumption) | exact BoxS.gb hS hg (by omega) (by assumption)) (first
          | (go_at_call 57; refine HCL.out.mono ?_; rintro e wT ⟨rfl, ⟨b4, hr4, hm4⟩, hg4⟩))
        have HR4 : Hid (Row wT g b4) := hr4
        have HL4 : Hid (LoopRel d.files q (k + 1) (bs.set q true) b4) := HLR.out.next HKG.out hm4
        have HG4 : Hid (W1.grownBy wT (some g)) := HGK.out.trans hg4
        clear z0 z1 z2 z3 z4 z5 z6 hr4 hm4 hg4
        go_wp2_with fail
        go_roundw
        case rel => exact ⟨k + 1, b4, by omega, by go_num, HR4, HL4, HG4⟩
        case measure => simp [intOf]; omega
      · have hkli : ¬ (k : Int) < ((d.files.getD q f0).list.length : Int) := by omega
        have HLF : Hid (LoopRel d.files q (kids d.files q).length (bs.set q true) b2) := by
          have e : k = (kids d.files q).length := by rw [HKL.out]; omega
          rw [← e]; exact HLR.out
        have HMR : Hid (MarkRel d.files q bs b2) := HLF.out.fin hqb
        generalize (d.files.getD q f0).list.length = LL at *
        go_wp2_with fail
        go_end0
        exact ⟨rfl, ⟨b2, HRK.out, HMR.out⟩, HG1.out.trans HGK.out⟩
  · rw [hbq] at r0
    have HMR : Hid (MarkRel d.files q bs bs) := MarkRel.same hbq
    go_wp2_with fail
    (try simp only [Exit.inBlock, Exit.then]); refine bodyPost_ret (results_none rfl _ _ _) rfl ?_
    exact ⟨rfl, ⟨bs, HR1.out, HMR.out⟩, gbOf HB1.out _⟩

theorem marks_any (v : Value) (d : VolD) (W : World) (hv : VolVal W v d) (hs : SmallV d) (hli : LinksIn d.files) (g cN : Nat) (hg : W.heap.size ≤ g) : ∀ (m : Nat) (bs : List Bool) (id : Int) (q : Nat) (w : World), bs.count false ≤ m → Below W.heap.size W w → Row w g bs → bs.length = d.files.length → atI d.files id = some q →
      Calls Try.prog 57 #[v, .int .i64 id, .slice (some ⟨g, 0, none⟩) bs.length cN] w fun e w' => e = .returned (.tuple #[]) ∧ (∃ bs', Row w' g bs' ∧ MarkRel d.files q bs bs') ∧ w.grownBy w' (some g) := by
  intro m
  induction m with
  | zero => intro bs id q w hm; exact marks_step v d W hv hs hli g cN (bs.count false) hg (fun b2 _ _ _ h => by omega) bs id q w rfl
  | succ m ih => intro bs id q w hm; exact marks_step v d W hv hs hli g cN (bs.count false) hg (fun b2 i2 q2 w2 h => ih b2 i2 q2 w2 (by omega)) bs id q w rfl

end Go.Proofs.Ytodahdnnlkcfdaa

/- Which files may be, by the page: directories; all files. -/
namespace Go.Proofs.Ytodahdnnlkcfdaa
open Go.RowKit

theorem name_is (s : ByteArray) (w : World) (b : Bool) (h : nm s = b) : Calls Try.prog 72 #[.string s] w fun e w' => e = .returned (.bool b) ∧ w' = w := by
  rw [← h]; exact name_any s w
theorem at_is (v : Value) (d : VolD) (id : Int) (w : World) (n : Int) (hv : VolVal w v d) (hl : d.files.length ≤ 100000) (h : optI (atI d.files id) = n) :
    Calls Try.prog 73 #[v, .int .i64 id] w fun e w' => e = .returned (.int .i64 n) ∧ Below w.heap.size w w' := by
  rw [← h]; exact at_any v d id w hv hl

set_option maxRecDepth 100000 in
set_option maxHeartbeats 4000000 in
theorem file_dir (v u : Value) (d : VolD) (f : FileD) (w : World) (hv : VolVal w v d) (hu : FileVal w u f) (hs : SmallF f) (hl : d.files.length ≤ 100000) (hd : f.dir = true) :
    Calls Try.prog 55 #[v, u] w fun e w' => SaysB e (DirOk d.files f) ∧ Below w.heap.size w w' := by
  have HVV : Hid (VolVal w v d) := hv
  obtain ⟨av, ca, rfl, _, _⟩ := hv
  obtain ⟨ab, cb, al, cl, rfl, _, ⟨hil, _⟩⟩ := hu
  obtain ⟨vid, fr, snap, fs, next⟩ := d
  obtain ⟨fid, fdir, fsize, fbl, fli⟩ := f
  simp only [SmallF, fcells] at *
  subst hd
  have hl2 := hs.2
  have HL : Hid (LinksAt w al fli) := hil
  clear hil hs
  have HB00 : Hid (Below w.heap.size w ((w.alloc (.cells #[.int .i64 vid, .int .i64 fr, .bool snap, .slice av fs.length ca, .int .i64 next] 32)).alloc (.cells #[.int .i64 fid, .bool true, .int .i64 fsize, .slice ab fbl.length cb, .slice al fli.length cl] 84))) := nwA (nwA (nwR w) _) _
  by_cases h1 : fsize = 0
  case neg =>
    have HNO : Hid (¬ DirOk fs ⟨fid, true, fsize, fbl, fli⟩) := fun h => h1 h.1
    go_enter Try.func55, Try.ntmps55
    go_wp2_with fail
    go_ret
    exact ⟨says_no HNO.out, HB00.out⟩
  case pos =>
  subst h1
  by_cases h2 : fbl.length = 0
  case neg =>
    have HNO : Hid (¬ DirOk fs ⟨fid, true, 0, fbl, fli⟩) := fun h => h2 h.2.1
    have h2i : 0 < fbl.length := by omega
    clear h2
    go_enter Try.func55, Try.ntmps55
    go_wp2_with fail
    go_ret
    exact ⟨says_no HNO.out, HB00.out⟩
  case pos =>
  have h2i : ¬ 0 < fbl.length := by omega
  have h2d : decide (0 < fbl.length) = false := decide_eq_false h2i
  by_cases h3 : fli.length ≤ 8
  case neg =>
    have HNO : Hid (¬ DirOk fs ⟨fid, true, 0, fbl, fli⟩) := fun h => h3 h.2.2.1
    have h3i : (8 : Int) < (fli.length : Int) := by omega
    clear h2 h3
    go_enter Try.func55, Try.ntmps55
    go_wp2_with fail
    go_ret
    exact ⟨says_no HNO.out, HB00.out⟩
  case pos =>
  have h3i : ¬ (8 : Int) < (fli.length : Int) := by omega
  have HX : Hid (DirOk fs ⟨fid, true, 0, fbl, fli⟩ ↔ ∀ k, k < fli.length → LinkOk fs fli k) := ⟨fun h => h.2.2.2, fun h => ⟨rfl, h2, h3, h⟩⟩
  generalize DirOk fs ⟨fid, true, 0, fbl, fli⟩ = PD at HX
  clear h2
  go_enter Try.func55, Try.ntmps55
  go_wp2_with fail
  obtain ⟨W0, hW0⟩ : ∃ W0, W0 = (w.alloc (.cells #[.int .i64 vid, .int .i64 fr, .bool snap, .slice av fs.length ca, .int .i64 next] 32)).alloc (.cells #[.int .i64 fid, .bool true, .int .i64 0, .slice ab fbl.length cb, .slice al fli.length cl] 84) := ⟨_, rfl⟩
  have HB0 : Hid (Below w.heap.size w W0) := by rw [hW0]; exact HB00.out
  have HV0 : Hid (W0.heap[w.heap.size]? = some (.cells #[.int .i64 vid, .int .i64 fr, .bool snap, .slice av fs.length ca, .int .i64 next] 32 (0, 0))) := by
    show _ = _
    rw [hW0, Lib.alloc_old _ _ _ (by simp)]; exact heap_alloc_new w _
  have HF0 : Hid (W0.heap[w.heap.size + 1]? = some (.cells #[.int .i64 fid, .bool true, .int .i64 0, .slice ab fbl.length cb, .slice al fli.length cl] 84 (0, 0))) := by rw [hW0]; exact heap_alloc_new2 w _ _
  have HL0 : Hid (LinksAt W0 al fli) := HL.out.below HB0.out
  rw [← hW0]
  clear hW0 HB00 HL
  go_loopw [5] (fun i wr => ∃ (k : Nat), k ≤ fli.length ∧ i = .int .i64 k ∧ Below W0.heap.size W0 wr ∧ Hid (∀ j, j < k → LinkOk fs fli j))
    (fun i _ => fli.length - (intOf i).toNat)
  case atStart => exact ⟨0, by omega, rfl, nwR _, fun j hj => by omega⟩
  case round =>
    obtain ⟨k, hk, rfl, hbr, HE⟩ := hrel
    obtain ⟨g0, g1, g2, g3, g4, _⟩ := five ((hbr.block _ (Array.getElem?_eq_some_iff.1 HF0.out).1).trans HF0.out)
    have hfl := block_lt_of_cell g4
    by_cases hlt : k < fli.length
    · have hlti : (k : Int) < (fli.length : Int) := by omega
      have hk0 : (0 : Int) ≤ (k : Int) := by omega
      obtain ⟨x0, x1, x2, x3, x4, _⟩ := five ((hbr.block _ (Array.getElem?_eq_some_iff.1 HV0.out).1).trans HV0.out)
      obtain ⟨b2, o2, rfl, d1, d2⟩ := (HL0.out.below hbr).cell hlt
      have HN2 : Hid (LinkOk fs fli k → ∀ j, j < k + 1 → LinkOk fs fli j) := fun h j hj => by
        by_cases e : j = k
        · subst e; exact h
        · exact HE.out j (by omega)
      have HNK : Hid (LinkOk fs fli k ↔ (nm (fli.getD k lk0).1 = true ∧ (0 < k → ltS (fli.getD (k - 1) lk0).1 (fli.getD k lk0).1 = true) ∧ (atI fs (fli.getD k lk0).2).isSome = true)) := Iff.rfl
      have HNO : Hid (¬ LinkOk fs fli k → ¬ PD) := fun hn h => hn (HX.out.1 h k hlt)
      have HLB : Hid (LinksAt wr (some ⟨b2, o2, none⟩) fli) := HL0.out.below hbr
      generalize fli.getD k lk0 = x at d1 d2 HNK
      obtain ⟨y1, y2⟩ := x
      simp only at d1 d2 HNK
      go_wp2_with fail
      have z0 : ∀ p : Kin wr, p.u.cell? ⟨w.heap.size, 0, none⟩ = some (.int .i64 vid) := fun p => kcell x0 p
      have z1 : ∀ p : Kin wr, p.u.cell? ⟨w.heap.size, 1, none⟩ = some (.int .i64 fr) := fun p => kcell x1 p
      have z2 : ∀ p : Kin wr, p.u.cell? ⟨w.heap.size, 2, none⟩ = some (.bool snap) := fun p => kcell x2 p
      have z3 : ∀ p : Kin wr, p.u.cell? ⟨w.heap.size, 3, none⟩ = some (.slice av fs.length ca) := fun p => kcell x3 p
      have z4 : ∀ p : Kin wr, p.u.cell? ⟨w.heap.size, 4, none⟩ = some (.int .i64 next) := fun p => kcell x4 p
      have zl : ∀ p : Kin wr, p.u.cell? ⟨w.heap.size + 1, 4, none⟩ = some (.slice (some ⟨b2, o2, none⟩) fli.length cl) := fun p => kcell g4 p
      have zn : ∀ p : Kin wr, p.u.cell? ⟨b2, o2 + k * 2, none⟩ = some (.string y1) := fun p => kcell d1 p
      have zi : ∀ p : Kin wr, p.u.cell? ⟨b2, o2 + k * 2 + 1, none⟩ = some (.int .i64 y2) := fun p => kcell d2 p
      clear g0 g1 g2 g3 g4 x0 x1 x2 x3 x4 d1 d2
      have HATT : Hid (∀ (n : Int), optI (atI fs y2) = n → ∀ p : Kin wr, Calls Try.prog 73 #[.agg #[.int .i64 vid, .int .i64 fr, .bool snap, .slice av fs.length ca, .int .i64 next], .int .i64 y2] p.u fun e w' => e = .returned (.int .i64 n) ∧ Below p.u.heap.size p.u w') := fun n hn p => at_is _ ⟨vid, fr, snap, fs, next⟩ y2 p.u n (HVV.out.below (nwT HB0.out (nwT hbr p.h))) hl hn
      cases hnm : nm y1
      · have HNM : Hid (∀ p : Kin wr, Calls Try.prog 72 #[.string y1] p.u fun e w' => e = .returned (.bool false) ∧ w' = p.u) := fun p => name_is y1 p.u false hnm
        have HR : Hid (¬ PD) := HNO.out (fun h => by have := (HNK.out.1 h).1; rw [hnm] at this; cases this)
        have HAC : Hid (∀ p : Kin wr, Calls Try.prog 73 #[.agg #[.int .i64 vid, .int .i64 fr, .bool snap, .slice av fs.length ca, .int .i64 next], .int .i64 y2] p.u fun e w' => e = .returned (.int .i64 (optI (atI fs y2))) ∧ Below p.u.heap.size p.u w') := fun p => HATT.out _ rfl p
        refine wp_region_kin (by kernel_rfl) (by kernel_rfl) ?_
        repeat (first | go_big_quiet_step (first | (go_at_call 72; exact Calls.kin_same (HNM.out _)) | (go_at_call 73; exact Calls.kin_of (HAC.out _)) | fail) | quiet_step (first | (go_at_call 72; exact Calls.kin_same (HNM.out _)) | (go_at_call 73; exact Calls.kin_of (HAC.out _)) | fail))
        refine wpQuiet_nil ?_
        intro _ hw'
        obtain ⟨pq, hw''⟩ := hw'
        subst hw''
        clear z0 z1 z2 z3 z4 zl zn zi
        have HBQ : Hid (Below W0.heap.size W0 pq.u) := nwT hbr pq.h
        generalize pq.u = Wq at HBQ ⊢
        go_wp2_with fail
        go_ret
        exact ⟨says_no HR.out, nwT HB0.out HBQ.out⟩
      · have HNM : Hid (∀ p : Kin wr, Calls Try.prog 72 #[.string y1] p.u fun e w' => e = .returned (.bool true) ∧ w' = p.u) := fun p => name_is y1 p.u true hnm
        by_cases hkz : 0 < k
        case neg =>
          have HKZ : Hid (¬ 0 < k) := hkz
          have HNZ : Hid (LinkOk fs fli k ↔ (atI fs y2).isSome = true) := ⟨fun h => (HNK.out.1 h).2.2, fun h => HNK.out.2 ⟨hnm, fun h => absurd h HKZ.out, h⟩⟩
          have hkd : decide (0 < k) = false := decide_eq_false hkz
          cases hat : atI fs y2 with
          | none =>
            have HR : Hid (¬ PD) := HNO.out (fun h => by have := HNZ.out.1 h; rw [hat] at this; cases this)
            have HAC : Hid (∀ p : Kin wr, Calls Try.prog 73 #[.agg #[.int .i64 vid, .int .i64 fr, .bool snap, .slice av fs.length ca, .int .i64 next], .int .i64 y2] p.u fun e w' => e = .returned (.int .i64 (-1)) ∧ Below p.u.heap.size p.u w') := fun p => HATT.out _ (by rw [hat]; rfl) p
            refine wp_region_kin (by kernel_rfl) (by kernel_rfl) ?_
            repeat (first | go_big_quiet_step (first | (go_at_call 72; exact Calls.kin_same (HNM.out _)) | (go_at_call 73; exact Calls.kin_of (HAC.out _)) | fail) | quiet_step (first | (go_at_call 72; exact Calls.kin_same (HNM.out _)) | (go_at_call 73; exact Calls.kin_of (HAC.out _)) | fail))
            refine wpQuiet_nil ?_
            intro _ hw'
            obtain ⟨pq, hw''⟩ := hw'
            subst hw''
            clear z0 z1 z2 z3 z4 zl zn zi
            have HBQ : Hid (Below W0.heap.size W0 pq.u) := nwT hbr pq.h
            generalize pq.u = Wq at HBQ ⊢
            go_wp2_with fail
            go_ret
            exact ⟨says_no HR.out, nwT HB0.out HBQ.out⟩
          | some qq =>
            have HR := HN2.out (HNZ.out.2 (by rw [hat]; rfl))
            have hqq : ¬ (qq : Int) < 0 := by omega
            have HAC : Hid (∀ p : Kin wr, Calls Try.prog 73 #[.agg #[.int .i64 vid, .int .i64 fr, .bool snap, .slice av fs.length ca, .int .i64 next], .int .i64 y2] p.u fun e w' => e = .returned (.int .i64 qq) ∧ Below p.u.heap.size p.u w') := fun p => HATT.out _ (by rw [hat]; rfl) p
            refine wp_region_kin (by kernel_rfl) (by kernel_rfl) ?_
            repeat (first | go_big_quiet_step (first | (go_at_call 72; exact Calls.kin_same (HNM.out _)) | (go_at_call 73; exact Calls.kin_of (HAC.out _)) | fail) | quiet_step (first | (go_at_call 72; exact Calls.kin_same (HNM.out _)) | (go_at_call 73; exact Calls.kin_of (HAC.out _)) | fail))
            refine wpQuiet_nil ?_
            intro _ hw'
            obtain ⟨pq, hw''⟩ := hw'
            subst hw''
            clear z0 z1 z2 z3 z4 zl zn zi
            have HBQ : Hid (Below W0.heap.size W0 pq.u) := nwT hbr pq.h
            generalize pq.u = Wq at HBQ ⊢
            go_wp2_with fail
            go_roundw
            case rel => exact ⟨_, Nat.succ_le_of_lt hlt, by go_num, HBQ.out, HR⟩
            case measure => simp [intOf]; omega
        case pos =>
          obtain ⟨m, hkm⟩ : ∃ m, k = m + 1 := ⟨k - 1, by omega⟩
          have HKM : Hid (k = m + 1) := hkm
          obtain ⟨b3, o3, e3, r1, _⟩ := HLB.out.cell (show m < fli.length by omega)
          injection e3 with e3
          injection e3 with e31 e32
          subst e31; subst e32
          have HNZ : Hid (LinkOk fs fli k ↔ (ltS (fli.getD m lk0).1 y1 = true ∧ (atI fs y2).isSome = true)) := by
            have hk1 : k - 1 = m := by omega
            have h0 := HNK.out
            rw [hk1] at h0
            exact ⟨fun h => ⟨(h0.1 h).2.1 hkz, (h0.1 h).2.2⟩, fun h => h0.2 ⟨hnm, fun _ => h.1, h.2⟩⟩
          have zm : ∀ p : Kin wr, p.u.cell? ⟨b2, o2 + m * 2, none⟩ = some (.string (fli.getD m lk0).1) := fun p => kcell r1 p
          clear r1 HLB
          generalize (fli.getD m lk0).1 = y at zm HNZ
          have e1 : IntKind.i64.wrap ((k : Int) - 1) = (m : Int) := by rw [wrap_any (by omega) (by omega)]; omega
          have hkd : decide (0 < k) = true := decide_eq_true hkz
          have m0 : (0 : Int) ≤ (m : Int) := by omega
          have m1 : (m : Int) < (fli.length : Int) := by omega
          clear hkm
          cases hlt2 : ltS y y1
          · have HR : Hid (¬ PD) := HNO.out (fun h => by have := (HNZ.out.1 h).1; rw [hlt2] at this; cases this)
            have hlt3 : Op.bytesLess y.toList y1.toList = false := hlt2
            have HAC : Hid (∀ p : Kin wr, Calls Try.prog 73 #[.agg #[.int .i64 vid, .int .i64 fr, .bool snap, .slice av fs.length ca, .int .i64 next], .int .i64 y2] p.u fun e w' => e = .returned (.int .i64 (optI (atI fs y2))) ∧ Below p.u.heap.size p.u w') := fun p => HATT.out _ rfl p
            refine wp_region_kin (by kernel_rfl) (by kernel_rfl) ?_
            repeat (first | go_big_quiet_step (first | (go_at_call 72; exact Calls.kin_same (HNM.out _)) | (go_at_call 73; exact Calls.kin_of (HAC.out _)) | fail) | quiet_step (first | (go_at_call 72; exact Calls.kin_same (HNM.out _)) | (go_at_call 73; exact Calls.kin_of (HAC.out _)) | fail))
            refine wpQuiet_nil ?_
            intro _ hw'
            obtain ⟨pq, hw''⟩ := hw'
            subst hw''
            clear z0 z1 z2 z3 z4 zl zn zi zm
            have HBQ : Hid (Below W0.heap.size W0 pq.u) := nwT hbr pq.h
            generalize pq.u = Wq at HBQ ⊢
            go_wp2_with fail
            go_ret
            exact ⟨says_no HR.out, nwT HB0.out HBQ.out⟩
          · have hlt3 : Op.bytesLess y.toList y1.toList = true := hlt2
            cases hat : atI fs y2 with
            | none =>
              have HR : Hid (¬ PD) := HNO.out (fun h => by have := (HNZ.out.1 h).2; rw [hat] at this; cases this)
              have HAC : Hid (∀ p : Kin wr, Calls Try.prog 73 #[.agg #[.int .i64 vid, .int .i64 fr, .bool snap, .slice av fs.length ca, .int .i64 next], .int .i64 y2] p.u fun e w' => e = .returned (.int .i64 (-1)) ∧ Below p.u.heap.size p.u w') := fun p => HATT.out _ (by rw [hat]; rfl) p
              refine wp_region_kin (by kernel_rfl) (by kernel_rfl) ?_
              repeat (first | go_big_quiet_step (first | (go_at_call 72; exact Calls.kin_same (HNM.out _)) | (go_at_call 73; exact Calls.kin_of (HAC.out _)) | fail) | quiet_step (first | (go_at_call 72; exact Calls.kin_same (HNM.out _)) | (go_at_call 73; exact Calls.kin_of (HAC.out _)) | fail))
              refine wpQuiet_nil ?_
              intro _ hw'
              obtain ⟨pq, hw''⟩ := hw'
              subst hw''
              clear z0 z1 z2 z3 z4 zl zn zi zm
              have HBQ : Hid (Below W0.heap.size W0 pq.u) := nwT hbr pq.h
              generalize pq.u = Wq at HBQ ⊢
              go_wp2_with fail
              go_ret
              exact ⟨says_no HR.out, nwT HB0.out HBQ.out⟩
            | some qq =>
              have HR := HN2.out (HNZ.out.2 ⟨hlt2, by rw [hat]; rfl⟩)
              have hqq : ¬ (qq : Int) < 0 := by omega
              have HAC : Hid (∀ p : Kin wr, Calls Try.prog 73 #[.agg #[.int .i64 vid, .int .i64 fr, .bool snap, .slice av fs.length ca, .int .i64 next], .int .i64 y2] p.u fun e w' => e = .returned (.int .i64 qq) ∧ Below p.u.heap.size p.u w') := fun p => HATT.out _ (by rw [hat]; rfl) p
              refine wp_region_kin (by kernel_rfl) (by kernel_rfl) ?_
              repeat (first | go_big_quiet_step (first | (go_at_call 72; exact Calls.kin_same (HNM.out _)) | (go_at_call 73; exact Calls.kin_of (HAC.out _)) | fail) | quiet_step (first | (go_at_call 72; exact Calls.kin_same (HNM.out _)) | (go_at_call 73; exact Calls.kin_of (HAC.out _)) | fail))
              refine wpQuiet_nil ?_
              intro _ hw'
              obtain ⟨pq, hw''⟩ := hw'
              subst hw''
              clear z0 z1 z2 z3 z4 zl zn zi zm
              have HBQ : Hid (Below W0.heap.size W0 pq.u) := nwT hbr pq.h
              generalize pq.u = Wq at HBQ ⊢
              go_wp2_with fail
              go_roundw
              case rel => exact ⟨_, Nat.succ_le_of_lt hlt, by go_num, HBQ.out, HR⟩
              case measure => simp [intOf]; omega
    · have hlti : ¬ (k : Int) < (fli.length : Int) := by omega
      have HY : Hid PD := HX.out.2 (fun j hj => HE.out j (by omega))
      go_wp2_with fail
      go_ret
      exact ⟨says_yes HY.out, nwT HB0.out hbr⟩

end Go.Proofs.Ytodahdnnlkcfdaa
