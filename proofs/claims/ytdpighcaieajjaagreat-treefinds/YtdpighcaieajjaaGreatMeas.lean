/- How many directories there are below one, and how deep, by the program. -/
import Derived.Test.YtdpighcaieajjaaGreatVptr
namespace Go.Proofs.YtdpighcaieajjaaGreat
open Go.RowKit

def mstep (fs : List FileD) (n : Nat) (a : Nat × Nat) (x : Nat) : Nat × Nat := (a.1 + (msr fs n x).1, max a.2 ((msr fs n x).2 + 1))
theorem mfold_ge (fs : List FileD) (n : Nat) (l : List Nat) : ∀ a : Nat × Nat, a.1 ≤ (l.foldl (mstep fs n) a).1 ∧ a.2 ≤ (l.foldl (mstep fs n) a).2 := by
  induction l with
  | nil => intro a; exact ⟨Nat.le_refl _, Nat.le_refl _⟩
  | cons x l ih =>
    intro a
    have h := ih (mstep fs n a x)
    simp only [List.foldl_cons]
    have h1 : a.1 ≤ (mstep fs n a x).1 := by simp [mstep]
    have h2 : a.2 ≤ (mstep fs n a x).2 := by simp [mstep]; omega
    omega
def macc (fs : List FileD) (n q j : Nat) : Nat × Nat := ((kids fs q).take j).foldl (mstep fs n) (1, 0)
theorem kids_len (fs : List FileD) (q : Nat) : (kids fs q).length = (fs.getD q f0).list.length := by unfold kids; simp
theorem kids_get (fs : List FileD) (q j : Nat) (h : j < (fs.getD q f0).list.length) : (kids fs q)[j]? = some (placeOf fs ((fs.getD q f0).list.getD j lk0).2) := by
  unfold kids
  rw [List.getElem?_map, List.getElem?_eq_getElem h, List.getD_eq_getElem?_getD (l := (fs.getD q f0).list), List.getElem?_eq_getElem h]; rfl
theorem macc_succ (fs : List FileD) (n q j : Nat) (h : j < (fs.getD q f0).list.length) : macc fs n q (j + 1) = mstep fs n (macc fs n q j) (placeOf fs ((fs.getD q f0).list.getD j lk0).2) := by
  have hk := kids_get fs q j h
  obtain ⟨h1, h2⟩ := List.getElem?_eq_some_iff.1 hk
  unfold macc
  rw [List.take_succ_eq_append_getElem h1, List.foldl_append, h2]; rfl
theorem macc_le (fs : List FileD) (n q j : Nat) (hd : dirAt fs q = true) : (macc fs n q j).1 ≤ (msr fs (n + 1) q).1 ∧ (macc fs n q j).2 ≤ (msr fs (n + 1) q).2 := by
  rw [msr, if_pos hd]
  have h := mfold_ge fs n ((kids fs q).drop j) (macc fs n q j)
  unfold macc at h ⊢
  rw [← List.foldl_append, List.take_append_drop] at h
  exact h
theorem macc_all (fs : List FileD) (n q j : Nat) (hd : dirAt fs q = true) (h : (fs.getD q f0).list.length ≤ j) : macc fs n q j = msr fs (n + 1) q := by
  rw [msr, if_pos hd]
  unfold macc
  rw [List.take_of_length_le (by rw [kids_len]; exact h)]; rfl
theorem tup2 {a b c d : Int} (h1 : a = c) (h2 : b = d) : Ending.returned (.tuple #[.int .i64 a, .int .i64 b]) = .returned (.tuple #[.int .i64 c, .int .i64 d]) := by rw [h1, h2]

set_option maxRecDepth 100000 in
set_option maxHeartbeats 4000000 in
theorem meas_step (B : Nat) (d : VolD) (hs : SmallV d) (hli : LinksIn d.files) (n0 : Nat) (ih : ∀ n, n0 = n + 1 → ∀ (q : Nat) (v : Value) (w : World), VolAt w B d → NodeOf w B d v q → Tame d.files n q → (msr d.files n q).1 ≤ 100000 → (msr d.files n q).2 ≤ 100000 →
      Calls Tryz.prog 109 #[.pointer (some ⟨B, 0, none⟩), v] w fun e w' => e = .returned (.tuple #[.int .i64 (msr d.files n q).1, .int .i64 (msr d.files n q).2]) ∧ Below w.heap.size w w') :
    ∀ (q : Nat) (v : Value) (w : World), VolAt w B d → NodeOf w B d v q → Tame d.files n0 q → (msr d.files n0 q).1 ≤ 100000 → (msr d.files n0 q).2 ≤ 100000 →
      Calls Tryz.prog 109 #[.pointer (some ⟨B, 0, none⟩), v] w fun e w' => e = .returned (.tuple #[.int .i64 (msr d.files n0 q).1, .int .i64 (msr d.files n0 q).2]) ∧ Below w.heap.size w w' := by
  intro q v w hv hn ht hm1 hm2
  have HVA : Hid (VolAt w B d) := hv
  have hnv := hn.val hv
  obtain ⟨ga, go, gc, gB, hq, rfl⟩ := hn
  obtain ⟨b, o, e0, hf⟩ := hnv
  simp only [Value.agg.injEq, Array.mk.injEq, List.cons.injEq, Value.pointer.injEq, Option.some.injEq, and_true] at e0
  injection e0 with e1 e2
  subst e1; subst e2
  clear gB
  obtain ⟨ab, cb, al, cl, ⟨c0, c1, c2, c3, c4⟩, _, hll, _⟩ := hf
  have hb : ga < w.heap.size := block_lt_of_cell c4
  have HB0 : Hid (Below w.heap.size w (w.alloc (.cells #[.pointer (some ⟨ga, go + q * 5, none⟩)] 81))) := nwA (nwR w) _
  cases hd : dirAt d.files q
  · have HZ : Hid (msr d.files n0 q = (0, 0)) := msr_leaf q n0 hd
    rw [show (d.files.getD q f0).dir = false from hd] at c1
    go_enter Tryz.func109, Tryz.ntmps109
    go_wp2_with fail
    go_ret2
    exact ⟨by rw [HZ.out]; rfl, HB0.out⟩
  · cases n0 with
    | zero => rw [show dirAt d.files q = false from ht] at hd; cases hd
    | succ n =>
      rw [show (d.files.getD q f0).dir = true from hd] at c1
      have HT : Hid (∀ x ∈ kids d.files q, Tame d.files n x) := ht hd
      have HIH := ih n rfl
      have HI : Hid (∀ (q : Nat) (v : Value) (w : World), VolAt w B d → NodeOf w B d v q → Tame d.files n q → (msr d.files n q).1 ≤ 100000 → (msr d.files n q).2 ≤ 100000 →
        Calls Tryz.prog 109 #[.pointer (some ⟨B, 0, none⟩), v] w fun e w' => e = .returned (.tuple #[.int .i64 (msr d.files n q).1, .int .i64 (msr d.files n q).2]) ∧ Below w.heap.size w w') := HIH
      clear HIH ih ht
      have HL : Hid (LinksAt w al (d.files.getD q f0).list) := hll
      have hsm := (hs.2 _ (getD_mem hq)).2
      have hfl := hs.1
      have HAC : Hid (∀ j, (macc d.files n q j).1 ≤ (msr d.files (n + 1) q).1 ∧ (macc d.files n q j).2 ≤ (msr d.files (n + 1) q).2) := fun j => macc_le d.files n q j hd
      have HAS : Hid (∀ j, j < (d.files.getD q f0).list.length → macc d.files n q (j + 1) = mstep d.files n (macc d.files n q j) (placeOf d.files ((d.files.getD q f0).list.getD j lk0).2)) := fun j hj => macc_succ d.files n q j hj
      have HAA : Hid (∀ j, (d.files.getD q f0).list.length ≤ j → macc d.files n q j = msr d.files (n + 1) q) := fun j hj => macc_all d.files n q j hd hj
      have HA0 : Hid (macc d.files n q 0 = (1, 0)) := by show _ = _; simp [macc]
      have HAT : Hid (∀ j, j < (d.files.getD q f0).list.length → ∃ p, atI d.files ((d.files.getD q f0).list.getD j lk0).2 = some p ∧ placeOf d.files ((d.files.getD q f0).list.getD j lk0).2 = p ∧ Tame d.files n p) := fun j hj => by
        have hm : (d.files.getD q f0).list.getD j lk0 ∈ (d.files.getD q f0).list := by
          have : (d.files.getD q f0).list.getD j lk0 = (d.files.getD q f0).list[j] := by rw [List.getD, List.getElem?_eq_getElem hj]; rfl
          rw [this]; exact List.getElem_mem hj
        obtain ⟨p, hp⟩ := Option.isSome_iff_exists.1 (hli _ (getD_mem hq) _ hm)
        have e : placeOf d.files ((d.files.getD q f0).list.getD j lk0).2 = p := by unfold placeOf; rw [hp]; rfl
        exact ⟨p, hp, e, HT.out p (by rw [← e]; unfold kids; exact List.mem_map.2 ⟨_, hm, rfl⟩)⟩
      clear HT hll
      generalize macc d.files n q = ac at HAC HAS HAA HA0
      generalize msr d.files (n + 1) q = MM at HAC HAA hm1 hm2
      generalize (d.files.getD q f0).list = li at c4 HL hsm HAS HAA HAT
      obtain ⟨M1, M2⟩ := MM
      simp only at hm1 hm2 HAC
      go_enter Tryz.func109, Tryz.ntmps109
      go_wp2_with fail
      generalize hW0 : w.alloc (.cells #[.pointer (some ⟨ga, go + q * 5, none⟩)] 81) = W0 at HB0 ⊢
      clear hW0 c0 c1 c2 c3 c4
      go_loopw [4, 5, 22] (fun x y i wr => ∃ (j : Nat), j ≤ li.length ∧ i = .int .i64 j ∧ x = .int .i64 (ac j).1 ∧ y = .int .i64 (ac j).2 ∧ Below w.heap.size w wr)
        (fun _ _ i _ => li.length - (intOf i).toNat)
      case atStart => exact ⟨0, by omega, rfl, by rw [HA0.out]; rfl, by rw [HA0.out]; rfl, HB0.out⟩
      case round =>
        obtain ⟨j, hj, rfl, rfl, rfl, hbr⟩ := hrel
        by_cases hjl : j < li.length
        · have hjli : (j : Int) < (li.length : Int) := by omega
          obtain ⟨b2, o2, rfl, d1, d2⟩ := (HL.out.below hbr).cell hjl
          obtain ⟨p, hp, hpe, htp⟩ := HAT.out j hjl
          have HS : Hid (ac (j + 1) = ((ac j).1 + (msr d.files n p).1, max (ac j).2 ((msr d.files n p).2 + 1))) := by show _ = _; rw [HAS.out j hjl, hpe]; rfl
          have hle := HAC.out (j + 1)
          have hle0 := HAC.out j
          rw [HS.out] at hle
          simp only at hle
          have hm1' : (msr d.files n p).1 ≤ 100000 := by omega
          have hm2' : (msr d.files n p).2 ≤ 100000 := by omega
          have HM : Hid ((msr d.files n p).1 ≤ 100000 ∧ (msr d.files n p).2 ≤ 100000) := ⟨hm1', hm2'⟩
          have HPA : Hid (atI d.files (li.getD j lk0).2 = some p) := hp
          have HTP : Hid (Tame d.files n p) := htp
          clear hp hpe htp
          generalize li.getD j lk0 = x at d1 d2 HPA
          obtain ⟨x1, x2⟩ := x
          simp only at d1 d2 HPA
          have ha1 : (ac j).1 ≤ 100000 := by omega
          have ha2 : (ac j).2 ≤ 100000 := by omega
          clear hle hle0
          go_wp2_with fail
          have HB2 : Hid (Below w.heap.size w (wr.alloc (.cells #[.string x1, .int .i64 x2] 87))) := nwA hbr _
          refine (file_any B d x2 p _ (HVA.out.below HB2.out) hfl HPA.out).mono ?_
          rintro e w2 ⟨⟨vv, rfl, hno⟩, hb2⟩
          have HB3 : Hid (Below w.heap.size w w2) := nwT HB2.out hb2
          have HNO : Hid (NodeOf w2 B d vv p) := hno
          obtain ⟨ga2, go2, gc2, _, _, rfl⟩ := hno
          clear hb2 HB2 d1 d2 hbr
          go_wp2_with fail
          refine (HI.out p _ w2 (HVA.out.below HB3.out) HNO.out HTP.out HM.out.1 HM.out.2).mono ?_
          rintro e w3 ⟨rfl, hb3⟩
          have HB4 : Hid (Below w.heap.size w w3) := nwT HB3.out hb3
          clear hb3
          generalize msr d.files n p = mm at HS hm1' hm2'
          generalize hacj : ac j = aa at HS ha1 ha2
          clear hacj HNO HTP HM HPA
          obtain ⟨m1, m2⟩ := mm
          obtain ⟨a1, a2⟩ := aa
          simp only at hm1' hm2' ha1 ha2
          go_wp2_with fail
          go_roundw
          case rel =>
            refine ⟨j + 1, by omega, by go_num, ?_, ?_, HB4.out⟩
            · rw [HS.out]; show Value.int .i64 _ = Value.int .i64 ((a1 + m1 : Nat) : Int); rw [Int.natCast_add]
            · rw [HS.out]; show Value.int .i64 _ = Value.int .i64 ((max a2 (m2 + 1) : Nat) : Int); congr 1; omega
          case measure => simp [intOf]; omega
        · have hjli : ¬ (j : Int) < (li.length : Int) := by omega
          have HE : Hid (ac j = (M1, M2)) := HAA.out j (by omega)
          generalize hacj : ac j = aa at HE
          clear hacj
          go_wp2_with fail
          go_ret2
          exact ⟨by rw [HE.out]; rfl, hbr⟩

theorem meas_any (B : Nat) (d : VolD) (hs : SmallV d) (hli : LinksIn d.files) : ∀ (n q : Nat) (v : Value) (w : World), VolAt w B d → NodeOf w B d v q → Tame d.files n q → (msr d.files n q).1 ≤ 100000 → (msr d.files n q).2 ≤ 100000 →
      Calls Tryz.prog 109 #[.pointer (some ⟨B, 0, none⟩), v] w fun e w' => e = .returned (.tuple #[.int .i64 (msr d.files n q).1, .int .i64 (msr d.files n q).2]) ∧ Below w.heap.size w w' := by
  intro n
  induction n with
  | zero => exact meas_step B d hs hli 0 (fun n h => by omega)
  | succ n ih => exact meas_step B d hs hli (n + 1) (fun m h => by cases h; exact ih)

end Go.Proofs.YtdpighcaieajjaaGreat
