/- The law NameUnder walked. -/
import Derived.Test.YtecfaebflmgcaaaHelp
import Derived.Test.YtecfaebflmgcaaaParent
import Derived.Test.YtecfaebflmgcaaaJoin
import Derived.Test.YtecfaebflmgcaaaOpen
namespace Go.Proofs.Ytecfaebflmgcaaa
open Go.RowKit

theorem fit_of {xs : List ByteArray} (h : ∀ x ∈ xs, nm x = true) (h5 : xs.length ≤ 5) : fitB xs = true := by
  unfold fitB
  rw [decide_eq_true h5, Bool.true_and, decide_eq_true_eq]
  cases hx : xs with
  | nil => decide
  | cons y ys =>
    rw [← hx, tx_cons (by rw [hx]; simp), bs_size]
    have := flN_len2 h; omega
theorem joinP_ok {xs : List ByteArray} (h : ∀ x ∈ xs, nm x = true) (h5 : xs.length ≤ 5) : joinP xs = (tx xs, 0) := by
  unfold joinP
  rw [show allN xs = true from List.all_eq_true.2 h, fit_of h h5]; rfl
theorem nm_take {xs : List ByteArray} (h : ∀ x ∈ xs, nm x = true) (k : Nat) : ∀ x ∈ xs.take k, nm x = true := fun x hx => h x (List.mem_of_mem_take hx)
theorem pathN_take {x : ByteArray} {xs : List ByteArray} (h : pathN x = some xs) (k : Nat) : pathN (tx (xs.take k)) = some (xs.take k) := by
  obtain ⟨_, h1, h2⟩ := pathN_some h
  rw [pathN_tx (nm_take h1 k), if_pos (by rw [List.length_take]; omega)]
theorem under_up {x : ByteArray} {xs : List ByteArray} (h : pathN x = some xs) (k : Nat) : underO (tx (xs.take k)) x = some true := by
  unfold underO
  rw [pathN_take h, h]
  simp only [un]
  rw [decide_eq_true]
  rw [List.length_take]
  rcases Nat.le_total k xs.length with hk | hk
  · rw [Nat.min_eq_left hk]
  · rw [Nat.min_eq_right hk, List.take_length, List.take_of_length_le hk]
theorem under_down {x : ByteArray} {xs : List ByteArray} (h : pathN x = some xs) {k : Nat} (hk : k ≤ xs.length) : underO x (tx (xs.take k)) = some (decide (k = xs.length)) := by
  unfold underO
  rw [pathN_take h, h]
  simp only [un]
  rw [List.take_of_length_le (by rw [List.length_take]; omega)]
  congr 1
  rw [Bool.eq_iff_iff, decide_eq_true_eq, decide_eq_true_eq]
  constructor
  · intro e
    have := congrArg List.length e
    rw [List.length_take] at this; omega
  · intro e; rw [e, List.take_length]

set_option maxRecDepth 100000 in
set_option maxHeartbeats 4000000 in
theorem unders_walk : LawOk 6 := by
  intro a xs ca w hst hl hz
  have HX : Hid (StrsAt w a xs) := hst
  have HZ : Hid (∀ x ∈ xs, x.size ≤ 140737488351232) := hz
  clear hst hz
  go_enter Try.func6, Try.ntmps6
  go_wp2_with fail
  obtain ⟨W0, hW0⟩ : ∃ W0, W0 = w.alloc (.cells #[.slice a xs.length ca] 24) := ⟨_, rfl⟩
  have HN0 : Hid (Below w.heap.size w W0) := by rw [hW0]; exact nwA (nwR w) _
  have HC0 : Hid (W0.cell? ⟨w.heap.size, 0, none⟩ = some (.slice a xs.length ca)) := by rw [hW0]; show _ = _; simp
  have HX0 : Hid (StrsAt W0 a xs) := HX.out.below HN0.out
  rw [← hW0]
  clear hW0 HX
  refine (heavy_any a xs ca _ HX0.out hl HZ.out).mono ?_
  rintro e w1 ⟨q, rfl, hb1, hq⟩
  cases q
  · have HS : Hid ((flN xs).length ≤ 3000) := hq rfl
    clear hq HZ
    go_wp2_with fail
    go_loopw [3] (fun i wr => ∃ (k : Nat), k ≤ xs.length ∧ k ≤ 8 ∧ i = .int .i64 k ∧ Below W0.heap.size W0 wr) (fun i _ => xs.length - (intOf i).toNat)
    case atStart => exact ⟨0, by omega, by omega, rfl, hb1⟩
    case round =>
      obtain ⟨i, hi, hi8, rfl, hb⟩ := hrel
      have c0 : wr.cell? ⟨w.heap.size, 0, none⟩ = some (.slice a xs.length ca) := (hb.cell (p := ⟨w.heap.size, 0, none⟩) (block_lt_of_cell HC0.out)).trans HC0.out
      by_cases hi1 : (i : Int) < (xs.length : Int) ∧ (i : Int) < 8
      · obtain ⟨hi2, hi3⟩ := hi1
        have hin : i < xs.length := by omega
        obtain ⟨b1, o1, rfl, hx1⟩ := HX0.out.cell hin
        generalize xs.getD i ByteArray.empty = x at hx1
        have HX1 : Hid (W0.cell? ⟨b1, o1 + i, none⟩ = some (.string x)) := hx1
        have x1 : wr.cell? ⟨b1, o1 + i, none⟩ = some (.string x) := (hb.cell (p := ⟨b1, o1 + i, none⟩) (block_lt_of_cell hx1)).trans hx1
        clear hx1
        go_wp2_with fail
        refine (rsplit_any x _).mono ?_
        rintro e w2 ⟨hR, hb2⟩
        have hbq := nwT hb hb2
        clear c0 x1 hb hb2 hb1
        rcases hR with ⟨L, v, hp, rfl, ho⟩ | ⟨hp, aa, nn, cc, rfl⟩
        · obtain ⟨htx, hnm, hL5⟩ := pathN_some hp
          have HP : Hid (pathN x = some L) := hp
          have HM : Hid (∀ x ∈ L, nm x = true) := hnm
          obtain ⟨aL, cL, rfl, hsL, hcL⟩ := ho.cap
          have HL : Hid (StrsAt w2 aL L) := hsL
          clear hp hnm htx ho hsL
          go_wp2_with fail
          go_loopw [6] (fun j wq => ∃ (k : Nat), k ≤ L.length + 1 ∧ j = .int .i64 k ∧ Below w2.heap.size w2 wq) (fun j _ => L.length + 1 - (intOf j).toNat)
          case atStart => exact ⟨0, by omega, rfl, nwR w2⟩
          case round =>
            obtain ⟨k, hk, rfl, hbk⟩ := hrel
            by_cases hkl : k ≤ L.length
            · have hkli : (k : Int) ≤ (L.length : Int) := by omega
              have hklc : (k : Int) ≤ (cL : Int) := by omega
              have HT : Hid (StrsAt w2 aL (L.take k)) := HL.out.take k
              have HTL : Hid ((L.take k).length = k) := by show _ = _; rw [List.length_take]; omega
              have HJ : Hid (joinP (L.take k) = (tx (L.take k), 0)) := joinP_ok (nm_take HM.out k) (by rw [List.length_take]; omega)
              have HU1 : Hid (underO (tx (L.take k)) x = some true) := under_up HP.out k
              have HU2 : Hid (underO x (tx (L.take k)) = some (decide (k = L.length))) := under_down HP.out hkl
              have HF : Hid ((flN (L.take k)).length ≤ 4000) := by have := (flN_len2 (nm_take HM.out k)).2; show _ ≤ 4000; rw [HTL.out] at this; omega
              have hj0 := joinP_any aL (L.take k) cL wr (HT.out.below hbk) (by rw [HTL.out]; omega) HF.out
              rw [HTL.out, HJ.out] at hj0
              generalize tx (L.take k) = P at HU1 HU2 hj0
              have HJO : Hid (Calls Try.prog 21 #[.slice aL k cL] wr fun e w' => e = .returned (.tuple #[.string P, .int .i64 0]) ∧ Below wr.heap.size wr w') := hj0
              clear hj0 HJ HF HT HTL
              go_wp2_with fail
              refine HJO.out.mono ?_
              rintro e w3 ⟨rfl, hb3⟩
              have hbw3 := nwT hbq (nwT hbk hb3)
              have c3 : w3.cell? ⟨w.heap.size, 0, none⟩ = some (.slice (some ⟨b1, o1, none⟩) xs.length ca) := (hbw3.cell (p := ⟨w.heap.size, 0, none⟩) (block_lt_of_cell HC0.out)).trans HC0.out
              have x3 : w3.cell? ⟨b1, o1 + i, none⟩ = some (.string x) := (hbw3.cell (p := ⟨b1, o1 + i, none⟩) (block_lt_of_cell HX1.out)).trans HX1.out
              have hbk3 := nwT hbk hb3
              clear HJO hb3 hbw3 hbk
              go_wp2_with fail
              refine (under_any P x _).mono ?_
              rintro e w4 ⟨rfl, hb4⟩
              rw [HU1.out]
              unfold underV
              have hbk4 := nwT hbk3 hb4
              have hbw4 := nwT hbq hbk4
              have c4 : w4.cell? ⟨w.heap.size, 0, none⟩ = some (.slice (some ⟨b1, o1, none⟩) xs.length ca) := (hbw4.cell (p := ⟨w.heap.size, 0, none⟩) (block_lt_of_cell HC0.out)).trans HC0.out
              have x4 : w4.cell? ⟨b1, o1 + i, none⟩ = some (.string x) := (hbw4.cell (p := ⟨b1, o1 + i, none⟩) (block_lt_of_cell HX1.out)).trans HX1.out
              clear c3 x3 hb4 hbk3 hbw4
              go_wp2_with fail
              refine (under_any x P _).mono ?_
              rintro e w5 ⟨rfl, hb5⟩
              rw [HU2.out]
              unfold underV
              have hbk5 := nwT hbk4 hb5
              clear c4 x4 hb5 hbk4
              by_cases hke : k = L.length
              · rw [decide_eq_true hke]
                subst hke
                go_wp2_with (go_at_call 12; refine (num_any _ _).mono ?_; rintro e w6 ⟨rfl, rfl⟩)
                go_roundw
                case rel => exact ⟨L.length + 1, by omega, by go_num, hbk5⟩
                case measure => simp [intOf]
              · rw [decide_eq_false hke]
                have hkb : ((k : Int) == (L.length : Int)) = false := beq_eq_false_iff_ne.2 (by omega)
                go_wp2_with (go_at_call 12; refine (num_any _ _).mono ?_; rintro e w6 ⟨rfl, rfl⟩)
                go_roundw
                case rel => exact ⟨k + 1, by omega, by go_num, hbk5⟩
                case measure => simp [intOf]; omega
            · have hkli : ¬ (k : Int) ≤ (L.length : Int) := by omega
              have hbw3 := nwT hbq hbk
              have c3 : wr.cell? ⟨w.heap.size, 0, none⟩ = some (.slice (some ⟨b1, o1, none⟩) xs.length ca) := (hbw3.cell (p := ⟨w.heap.size, 0, none⟩) (block_lt_of_cell HC0.out)).trans HC0.out
              have x3 : wr.cell? ⟨b1, o1 + i, none⟩ = some (.string x) := (hbw3.cell (p := ⟨b1, o1 + i, none⟩) (block_lt_of_cell HX1.out)).trans HX1.out
              have HL3 : Hid (StrsAt wr aL L) := HL.out.below hbk
              clear hbk
              go_wp2_with fail
              refine (parent_any x _).mono ?_
              rintro e w4 ⟨rfl, hb4⟩
              have hbw4 := nwT hbw3 hb4
              have HL4 : Hid (StrsAt w4 aL L) := HL3.out.below hb4
              have c4 : w4.cell? ⟨w.heap.size, 0, none⟩ = some (.slice (some ⟨b1, o1, none⟩) xs.length ca) := (hbw4.cell (p := ⟨w.heap.size, 0, none⟩) (block_lt_of_cell HC0.out)).trans HC0.out
              have x4 : w4.cell? ⟨b1, o1 + i, none⟩ = some (.string x) := (hbw4.cell (p := ⟨b1, o1 + i, none⟩) (block_lt_of_cell HX1.out)).trans HX1.out
              clear c3 x3 hbw3 hb4 HL3
              by_cases h0 : L.length = 0
              · have HPO : Hid (parentO x = none) := by show _ = _; unfold parentO; rw [HP.out]; simp only; rw [if_pos h0]
                rw [HPO.out]
                unfold parentV
                have h0i : ¬ (0 : Int) < (L.length : Int) := by omega
                have hL0 : L = [] := List.length_eq_zero_iff.1 h0
                subst hL0
                go_wp2_with (go_at_call 12; refine (num_any _ _).mono ?_; rintro e w6 ⟨rfl, rfl⟩)
                go_roundw
                case rel => exact ⟨i + 1, by omega, by omega, by go_num, hbw4⟩
                case measure => simp [intOf]; omega
              · obtain ⟨n, hn⟩ : ∃ n, L.length = n + 1 := ⟨L.length - 1, by omega⟩
                have HPO : Hid (parentO x = some (tx (L.take n), L.getD n ByteArray.empty)) := by
                  show _ = _
                  unfold parentO; rw [HP.out]; simp only; rw [if_neg h0, show L.length - 1 = n from by omega]
                have HU1 : Hid (underO (tx (L.take n)) x = some true) := under_up HP.out n
                rw [HPO.out]
                obtain ⟨b5, o5, rfl, hlast⟩ := HL4.out.cell (i := n) (by omega)
                generalize tx (L.take n) = P at HU1
                generalize L.getD n ByteArray.empty = last at hlast
                unfold parentV
                have HLA : Hid (w4.cell? ⟨b5, o5 + n, none⟩ = some (.string last)) := hlast
                clear hlast
                rw [hn]
                go_wp2_with (go_at_call 12; refine (num_any _ _).mono ?_; rintro e w6 ⟨rfl, rfl⟩)
                refine (under_any P x _).mono ?_
                rintro e w7 ⟨rfl, hb7⟩
                rw [HU1.out]
                unfold underV
                have c7 : w7.cell? ⟨b5, o5 + n, none⟩ = some (.string last) := (hb7.cell (p := ⟨b5, o5 + n, none⟩) (block_lt_of_cell HLA.out)).trans HLA.out
                have hbw7 := nwT hbw4 hb7
                clear hb7 hbw4 c4 x4
                go_wp2_with (go_at_call 12; refine (num_any _ _).mono ?_; rintro e w8 ⟨rfl, rfl⟩)
                go_roundw
                case rel => exact ⟨i + 1, by omega, by omega, by go_num, hbw7⟩
                case measure => simp [intOf]; omega
        · go_wp2_with fail
          go_roundw
          case rel => exact ⟨i + 1, by omega, by omega, by go_num, hbq⟩
          case measure => simp [intOf]; omega
      · have hbw := nwT HN0.out hb
        by_cases hk2 : (i : Int) < (xs.length : Int)
        · have hk5 : ¬ (i : Int) < 8 := fun h => hi1 ⟨hk2, h⟩
          clear hi1
          go_wp2_with fail
          refine (wakes_any _).mono ?_
          rintro e w2 ⟨rfl, hb2⟩
          go_wp2_with fail
          go_ret
          exact ⟨rfl, nwT hbw hb2⟩
        · clear hi1
          go_wp2_with fail
          refine (wakes_any _).mono ?_
          rintro e w2 ⟨rfl, hb2⟩
          go_wp2_with fail
          go_ret
          exact ⟨rfl, nwT hbw hb2⟩
  · go_wp2_with fail
    go_ret
    exact ⟨rfl, nwT HN0.out hb1⟩

end Go.Proofs.Ytecfaebflmgcaaa
