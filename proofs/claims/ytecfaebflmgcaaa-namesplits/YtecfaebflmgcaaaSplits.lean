/- The law NameSplits walked. -/
import Derived.Test.YtecfaebflmgcaaaUnders
namespace Go.Proofs.Ytecfaebflmgcaaa
open Go.RowKit

theorem errI_eq (b : Bool) : (errI b == 0) = b := by cases b <;> rfl
theorem under_yes {x y : ByteArray} {L M : List ByteArray} (h : pathN x = some L) (k : pathN y = some M) : underO x y = some (un L M) := by unfold underO; rw [h, k]
theorem under_no1 {x y : ByteArray} (h : pathN x = none) : underO x y = none := by unfold underO; rw [h]
theorem under_no2 {x y : ByteArray} (h : pathN y = none) : underO x y = none := by
  unfold underO; rw [h]; cases pathN x <;> rfl

set_option maxRecDepth 100000 in
set_option maxHeartbeats 8000000 in
theorem splits_walk : LawOk 3 := by
  intro a xs ca w hst hl hz
  have HX : Hid (StrsAt w a xs) := hst
  have HZ : Hid (∀ x ∈ xs, x.size ≤ 140737488351232) := hz
  clear hst hz
  go_enter Try.func3, Try.ntmps3
  go_wp2_with fail
  obtain ⟨W0, hW0⟩ : ∃ W0, W0 = w.alloc (.cells #[.slice a xs.length ca] 24) := ⟨_, rfl⟩
  have HN0 : Hid (Below w.heap.size w W0) := by rw [hW0]; exact nwA (nwR w) _
  have HC0 : Hid (W0.cell? ⟨w.heap.size, 0, none⟩ = some (.slice a xs.length ca)) := by rw [hW0]; show _ = _; simp
  have HX0 : Hid (StrsAt W0 a xs) := HX.out.below HN0.out
  rw [← hW0]
  clear hW0 HX
  refine (heavy_any a xs ca _ HX0.out hl HZ.out).mono ?_
  rintro e w1 ⟨q, rfl, hb1, hq⟩
  cases q
  · clear hq HZ
    go_wp2_with fail
    go_loopw [3] (fun i wr => ∃ (k : Nat), k ≤ xs.length ∧ k ≤ 8 ∧ i = .int .i64 k ∧ Below W0.heap.size W0 wr) (fun i _ => xs.length - (intOf i).toNat)
    case atStart => exact ⟨0, by omega, by omega, rfl, hb1⟩
    case round =>
      obtain ⟨i, hi, hi8, rfl, hb⟩ := hrel
      have c0 : wr.cell? ⟨w.heap.size, 0, none⟩ = some (.slice a xs.length ca) := (hb.cell (p := ⟨w.heap.size, 0, none⟩) (block_lt_of_cell HC0.out)).trans HC0.out
      by_cases hi1 : (i : Int) < (xs.length : Int) ∧ (i : Int) < 8
      · obtain ⟨hi2, hi3⟩ := hi1
        have hin : i < xs.length := by omega
        obtain ⟨b1, o1, rfl, hx1⟩ := HX0.out.cell hin
        generalize xs.getD i ByteArray.empty = x at hx1
        have x1 : wr.cell? ⟨b1, o1 + i, none⟩ = some (.string x) := (hb.cell (p := ⟨b1, o1 + i, none⟩) (block_lt_of_cell hx1)).trans hx1
        have hE := errI_eq (nm x)
        clear hx1
        go_wp2_with fail
        refine (rsplit_any x _).mono ?_
        rintro e w2 ⟨hR, hb2⟩
        have hbq := nwT hb hb2
        clear c0 x1 hb hb2 hb1
        rcases hR with ⟨L, v, hp, rfl, ho⟩ | ⟨hp, aa, nn, cc, rfl⟩
        · obtain ⟨htx, hnm, hL5⟩ := pathN_some hp
          have HP : Hid (pathN x = some L) := hp
          have HM : Hid (∀ x ∈ L, nm x = true) := hnm
          obtain ⟨aL, cL, rfl, hsL, hcL⟩ := ho.cap
          have HL2 : Hid (StrsAt w2 aL L) := hsL
          clear hp hnm htx ho hsL
          go_wp2_with fail
          refine (split_any x _).mono ?_
          rintro e w3 ⟨hR, hb3⟩
          have hbq3 := nwT hbq hb3
          have HL3 : Hid (StrsAt w3 aL L) := HL2.out.below hb3
          rcases hR with ⟨L', v, hp, rfl, ho⟩ | ⟨hp, rfl⟩
          · rw [HP.out] at hp
            injection hp with hp
            subst hp
            obtain ⟨aS, cS, rfl, hsS⟩ := ho.at
            have HS3 : Hid (StrsAt w3 aS L) := hsS
            clear ho hsS hb3 hbq HL2
            go_wp2_with fail
            refine (parent_any x _).mono ?_
            rintro e w4 ⟨rfl, hb4⟩
            have hbq4 := nwT hbq3 hb4
            have HL4 : Hid (StrsAt w4 aL L) := HL3.out.below hb4
            have HS4 : Hid (StrsAt w4 aS L) := HS3.out.below hb4
            clear hb4 hbq3 HL3 HS3
            by_cases h0 : L.length = 0
            · have HPO : Hid (parentO x = none) := by show _ = _; unfold parentO; rw [HP.out]; simp only; rw [if_pos h0]
              rw [HPO.out]
              unfold parentV
              have hL0 : L = [] := List.length_eq_zero_iff.1 h0
              subst hL0
              clear HPO
              generalize hnmx : nm x = bx at hE
              have HNM : Hid (nm x = bx) := hnmx
              clear hnmx
              go_wp2_with (first
                | (go_at_call 13; refine (check_any _ _).mono ?_; rintro e w' ⟨rfl, rfl⟩; rw [HNM.out])
                | (go_at_call 14; refine (name_any _ _).mono ?_; rintro e w' ⟨rfl, rfl⟩; rw [HNM.out])
                | (go_at_call 12; refine (num_any _ _).mono ?_; rintro e w' ⟨rfl, rfl⟩)
                | (go_at_call 15; refine (path_any _ _).mono ?_; rintro e w5 ⟨rfl, hb5⟩; rw [HP.out, show Option.isSome (some ([] : List ByteArray)) = true from rfl, errI_t]))
              have hbq5 := nwT hbq4 hb5
              have HL5 : Hid (StrsAt _ aL ([] : List ByteArray)) := HL4.out.below hb5
              have HS5 : Hid (StrsAt _ aS ([] : List ByteArray)) := HS4.out.below hb5
              refine (eqs_any aS aL ([] : List ByteArray) ([] : List ByteArray) cS cL _ HS5.out HL5.out (by unfold maxLen; simp only [List.length_nil]; omega)).mono ?_
              rintro e w6 ⟨rfl, q6, hq6⟩
              rw [decide_eq_true (rfl : (([] : List ByteArray) : List ByteArray) = ([] : List ByteArray))]
              have HBQ6 : Below W0.heap.size W0 w6 := by rw [hq6]; exact below_drewN hbq5 q6
              have HL6 : Hid (StrsAt w6 aL ([] : List ByteArray)) := by rw [hq6]; exact HL5.out.drewN q6
              clear hq6 hb5 hbq5 HL5 HS5
              have hbq6 := HBQ6
              go_wp2_with fail
              go_loopw [16] (fun j wq => ∃ (k : Nat), k ≤ xs.length ∧ k ≤ 8 ∧ j = .int .i64 k ∧ Below w6.heap.size w6 wq) (fun j _ => xs.length - (intOf j).toNat)
              case atStart => exact ⟨0, by omega, by omega, rfl, nwR w6⟩
              case round =>
                obtain ⟨j, hj, hj8, rfl, hbj⟩ := hrel
                have hbw := nwT hbq6 hbj
                have c6 : wr.cell? ⟨w.heap.size, 0, none⟩ = some (.slice (some ⟨b1, o1, none⟩) xs.length ca) := (hbw.cell (p := ⟨w.heap.size, 0, none⟩) (block_lt_of_cell HC0.out)).trans HC0.out
                by_cases hj1 : (j : Int) < (xs.length : Int) ∧ (j : Int) < 8
                · obtain ⟨hj2, hj3⟩ := hj1
                  have hjn : j < xs.length := by omega
                  obtain ⟨b2, o2, e2, hy1⟩ := HX0.out.cell hjn
                  injection e2 with e2
                  injection e2 with e2 e3
                  subst e2; subst e3
                  generalize xs.getD j ByteArray.empty = y at hy1
                  have HY0 : Hid (W0.cell? ⟨b1, o1 + j, none⟩ = some (.string y)) := hy1
                  have y6 : wr.cell? ⟨b1, o1 + j, none⟩ = some (.string y) := (hbw.cell (p := ⟨b1, o1 + j, none⟩) (block_lt_of_cell hy1)).trans hy1
                  clear hy1
                  go_wp2_with fail
                  refine (rsplit_any y _).mono ?_
                  rintro e w7 ⟨hR7, hb7⟩
                  have hbw7 := nwT hbw hb7
                  have hbj7 := nwT hbj hb7
                  have c7 : w7.cell? ⟨w.heap.size, 0, none⟩ = some (.slice (some ⟨b1, o1, none⟩) xs.length ca) := (hbw7.cell (p := ⟨w.heap.size, 0, none⟩) (block_lt_of_cell HC0.out)).trans HC0.out
                  have y7 : w7.cell? ⟨b1, o1 + j, none⟩ = some (.string y) := (hbw7.cell (p := ⟨b1, o1 + j, none⟩) (block_lt_of_cell HY0.out)).trans HY0.out
                  clear c6 y6 hbw hb7 hbj
                  rcases hR7 with ⟨M, vM, hpM, rfl, hoM⟩ | ⟨hpM, aM, nM, cM, rfl⟩
                  · obtain ⟨aM, cM, rfl, hsM⟩ := hoM.at
                    have HU : Hid (underO x y = some (un ([] : List ByteArray) M)) := under_yes HP.out hpM
                    have HM7 : Hid (StrsAt w7 aM M) := hsM
                    have HL7 : Hid (StrsAt w7 aL ([] : List ByteArray)) := HL6.out.below hbj7
                    clear hpM hoM hsM
                    go_wp2_with fail
                    refine (under_any x y _).mono ?_
                    rintro e w8 ⟨rfl, hb8⟩
                    rw [HU.out]
                    unfold underV
                    have hbj8 := nwT hbj7 hb8
                    have HM8 : Hid (StrsAt w8 aM M) := HM7.out.below hb8
                    have HL8 : Hid (StrsAt w8 aL ([] : List ByteArray)) := HL7.out.below hb8
                    clear c7 y7 hb8 HM7 HL7
                    go_wp2_with fail
                    refine (runder_any aL aM ([] : List ByteArray) M cL cM _ HL8.out HM8.out (by unfold maxLen; simp only [List.length_nil]; omega)).mono ?_
                    rintro e w9 ⟨rfl, q9, hq9⟩
                    have hbj9 : Below w6.heap.size w6 w9 := by rw [hq9]; exact below_drewN hbj8 q9
                    clear hq9 HU
                    generalize un ([] : List ByteArray) M = t
                    go_wp2_with (go_at_call 12; refine (num_any _ _).mono ?_; rintro e w' ⟨rfl, rfl⟩)
                    go_roundw
                    case rel => exact ⟨j + 1, by omega, by omega, by go_num, hbj9⟩
                    case measure => simp [intOf]; omega
                  · have HU : Hid (underO x y = none) := under_no2 hpM
                    clear hpM
                    go_wp2_with fail
                    refine (under_any x y _).mono ?_
                    rintro e w8 ⟨rfl, hb8⟩
                    rw [HU.out]
                    unfold underV
                    have hbj8 := nwT hbj7 hb8
                    clear c7 y7 hb8
                    go_wp2_with (go_at_call 12; refine (num_any _ _).mono ?_; rintro e w' ⟨rfl, rfl⟩)
                    go_roundw
                    case rel => exact ⟨j + 1, by omega, by omega, by go_num, hbj8⟩
                    case measure => simp [intOf]; omega
                · by_cases hk2 : (j : Int) < (xs.length : Int)
                  · have hk5 : ¬ (j : Int) < 8 := fun h => hj1 ⟨hk2, h⟩
                    clear hj1
                    go_wp2_with fail
                    go_roundw
                    case rel => exact ⟨i + 1, by omega, by omega, by go_num, hbw⟩
                    case measure => simp [intOf]; omega
                  · clear hj1
                    go_wp2_with fail
                    go_roundw
                    case rel => exact ⟨i + 1, by omega, by omega, by go_num, hbw⟩
                    case measure => simp [intOf]; omega
            · obtain ⟨n, hn⟩ : ∃ n, L.length = n + 1 := ⟨L.length - 1, by omega⟩
              have HPO : Hid (parentO x = some (tx (L.take n), L.getD n ByteArray.empty)) := by
                show _ = _
                unfold parentO; rw [HP.out]; simp only; rw [if_neg h0, show L.length - 1 = n from by omega]
              rw [HPO.out]
              obtain ⟨b5, o5, rfl, hlast⟩ := HL4.out.cell (i := n) (by omega)
              have HUP : Hid (StrsAt w4 (some ⟨b5, o5, none⟩) (L.take n)) := HL4.out.take n
              have HUL : Hid ((L.take n).length = n) := by show _ = _; rw [List.length_take]; omega
              have HUF : Hid ((flN (L.take n)).length ≤ 4000) := by
                have := (flN_len2 (nm_take HM.out n)).2
                rw [HUL.out] at this
                show _ ≤ 4000; omega
              have hjm : ∀ w' c, Below w4.heap.size w4 w' → Calls Try.prog 11 #[.slice (some ⟨b5, o5, none⟩) n c] w' fun e w2 => e = .returned (.string (tx (L.take n))) ∧ w2 = w' := fun w' c h => by
                have h2 := join_any (some ⟨b5, o5, none⟩) (L.take n) c w' (HUP.out.below h) (by rw [HUL.out]; omega) HUF.out
                rwa [HUL.out] at h2
              have HJM : Hid (∀ w' c, Below w4.heap.size w4 w' → Calls Try.prog 11 #[.slice (some ⟨b5, o5, none⟩) n c] w' fun e w2 => e = .returned (.string (tx (L.take n))) ∧ w2 = w') := hjm
              clear hjm HPO
              generalize tx (L.take n) = P at HJM
              generalize L.getD n ByteArray.empty = last at hlast
              have HLA : Hid (w4.cell? ⟨b5, o5 + n, none⟩ = some (.string last)) := hlast
              unfold parentV
              rw [hn]
              have k2 : ∀ w', Below w4.heap.size w4 w' → w'.cell? ⟨b5, o5 + n, none⟩ = some (.string last) := fun w' h => (h.cell (p := ⟨b5, o5 + n, none⟩) (block_lt_of_cell HLA.out)).trans HLA.out
              have e1 : IntKind.i64.wrap ((n : Int) + 1 - 1) = (n : Int) := by rw [wrap_any (by omega) (by omega)]; omega
              have e2 : (n : Int) < (n : Int) + 1 := by omega
              have e3 : IntKind.i64.wrap (n : Int) = (n : Int) := wrap_any (by omega) (by omega)
              have e4 : (0 : Int) ≤ (n : Int) := by omega
              have e5 : (n : Int) ≤ (cL : Int) := by omega
              have hS := nwR w4
              clear hlast
              go_wp2_with fail
              go_region_held3 (fun w' => Below w4.heap.size w4 w') (first | assumption | exact Below.drew (by assumption) | exact nwT (by assumption) (by assumption)) (first
                | (go_at_call 11; refine (HJM.out _ _ (by assumption)).mono ?_; rintro e wT ⟨rfl, rfl⟩))
              have hbqd : Below W0.heap.size W0 w4.drew := hbq4.drew
              have HLd : Hid (StrsAt w4.drew (some ⟨b5, o5, none⟩) L) := HL4.out.below (Below.drew (nwR _))
              have HSd : Hid (StrsAt w4.drew aS L) := HS4.out.below (Below.drew (nwR _))
              clear k2 hS hbq4 HL4 HS4 HUP HJM HLA e1 e2 e3 e5
              generalize w4.drew = w5 at hbqd HLd HSd
              generalize hnmx : nm x = bx at hE
              have HNM : Hid (nm x = bx) := hnmx
              clear hnmx
              go_wp2_with (first
                | (go_at_call 13; refine (check_any _ _).mono ?_; rintro e w' ⟨rfl, rfl⟩; rw [HNM.out])
                | (go_at_call 14; refine (name_any _ _).mono ?_; rintro e w' ⟨rfl, rfl⟩; rw [HNM.out])
                | (go_at_call 12; refine (num_any _ _).mono ?_; rintro e w' ⟨rfl, rfl⟩)
                | (go_at_call 15; refine (path_any _ _).mono ?_; rintro e w5 ⟨rfl, hb5⟩; rw [HP.out, show Option.isSome (some L) = true from rfl, errI_t]))
              have hbq5 := nwT hbqd hb5
              have HL5 : Hid (StrsAt _ (some ⟨b5, o5, none⟩) L) := HLd.out.below hb5
              have HS5 : Hid (StrsAt _ aS L) := HSd.out.below hb5
              have hq := eqs_any aS (some ⟨b5, o5, none⟩) L L cS cL _ HS5.out HL5.out (by unfold maxLen; omega)
              rw [hn] at hq
              refine hq.mono ?_
              clear hq
              rintro e w6 ⟨rfl, q6, hq6⟩
              rw [decide_eq_true (rfl : L = L)]
              have HBQ6 : Below W0.heap.size W0 w6 := by rw [hq6]; exact below_drewN hbq5 q6
              have HL6 : Hid (StrsAt w6 (some ⟨b5, o5, none⟩) L) := by rw [hq6]; exact HL5.out.drewN q6
              clear hq6 hb5 hbq5 HL5 HS5
              have hbq6 := HBQ6
              go_wp2_with fail
              go_loopw [16] (fun j wq => ∃ (k : Nat), k ≤ xs.length ∧ k ≤ 8 ∧ j = .int .i64 k ∧ Below w6.heap.size w6 wq) (fun j _ => xs.length - (intOf j).toNat)
              case atStart => exact ⟨0, by omega, by omega, rfl, nwR w6⟩
              case round =>
                obtain ⟨j, hj, hj8, rfl, hbj⟩ := hrel
                have hbw := nwT hbq6 hbj
                have c6 : wr.cell? ⟨w.heap.size, 0, none⟩ = some (.slice (some ⟨b1, o1, none⟩) xs.length ca) := (hbw.cell (p := ⟨w.heap.size, 0, none⟩) (block_lt_of_cell HC0.out)).trans HC0.out
                by_cases hj1 : (j : Int) < (xs.length : Int) ∧ (j : Int) < 8
                · obtain ⟨hj2, hj3⟩ := hj1
                  have hjn : j < xs.length := by omega
                  obtain ⟨b2, o2, e2, hy1⟩ := HX0.out.cell hjn
                  injection e2 with e2
                  injection e2 with e2 e3
                  subst e2; subst e3
                  generalize xs.getD j ByteArray.empty = y at hy1
                  have HY0 : Hid (W0.cell? ⟨b1, o1 + j, none⟩ = some (.string y)) := hy1
                  have y6 : wr.cell? ⟨b1, o1 + j, none⟩ = some (.string y) := (hbw.cell (p := ⟨b1, o1 + j, none⟩) (block_lt_of_cell hy1)).trans hy1
                  clear hy1
                  go_wp2_with fail
                  refine (rsplit_any y _).mono ?_
                  rintro e w7 ⟨hR7, hb7⟩
                  have hbw7 := nwT hbw hb7
                  have hbj7 := nwT hbj hb7
                  have c7 : w7.cell? ⟨w.heap.size, 0, none⟩ = some (.slice (some ⟨b1, o1, none⟩) xs.length ca) := (hbw7.cell (p := ⟨w.heap.size, 0, none⟩) (block_lt_of_cell HC0.out)).trans HC0.out
                  have y7 : w7.cell? ⟨b1, o1 + j, none⟩ = some (.string y) := (hbw7.cell (p := ⟨b1, o1 + j, none⟩) (block_lt_of_cell HY0.out)).trans HY0.out
                  clear c6 y6 hbw hb7 hbj
                  rcases hR7 with ⟨M, vM, hpM, rfl, hoM⟩ | ⟨hpM, aM, nM, cM, rfl⟩
                  · obtain ⟨aM, cM, rfl, hsM⟩ := hoM.at
                    have HU : Hid (underO x y = some (un L M)) := under_yes HP.out hpM
                    have HM7 : Hid (StrsAt w7 aM M) := hsM
                    have HL7 : Hid (StrsAt w7 (some ⟨b5, o5, none⟩) L) := HL6.out.below hbj7
                    clear hpM hoM hsM
                    go_wp2_with fail
                    refine (under_any x y _).mono ?_
                    rintro e w8 ⟨rfl, hb8⟩
                    rw [HU.out]
                    unfold underV
                    have hbj8 := nwT hbj7 hb8
                    have HM8 : Hid (StrsAt w8 aM M) := HM7.out.below hb8
                    have HL8 : Hid (StrsAt w8 (some ⟨b5, o5, none⟩) L) := HL7.out.below hb8
                    clear c7 y7 hb8 HM7 HL7
                    go_wp2_with fail
                    have hru := runder_any (some ⟨b5, o5, none⟩) aM L M cL cM _ HL8.out HM8.out (by unfold maxLen; omega)
                    rw [hn] at hru
                    refine hru.mono ?_
                    clear hru
                    rintro e w9 ⟨rfl, q9, hq9⟩
                    have hbj9 : Below w6.heap.size w6 w9 := by rw [hq9]; exact below_drewN hbj8 q9
                    clear hq9 HU
                    generalize un L M = t
                    go_wp2_with (go_at_call 12; refine (num_any _ _).mono ?_; rintro e w' ⟨rfl, rfl⟩)
                    go_roundw
                    case rel => exact ⟨j + 1, by omega, by omega, by go_num, hbj9⟩
                    case measure => simp [intOf]; omega
                  · have HU : Hid (underO x y = none) := under_no2 hpM
                    clear hpM
                    go_wp2_with fail
                    refine (under_any x y _).mono ?_
                    rintro e w8 ⟨rfl, hb8⟩
                    rw [HU.out]
                    unfold underV
                    have hbj8 := nwT hbj7 hb8
                    clear c7 y7 hb8
                    go_wp2_with (go_at_call 12; refine (num_any _ _).mono ?_; rintro e w' ⟨rfl, rfl⟩)
                    go_roundw
                    case rel => exact ⟨j + 1, by omega, by omega, by go_num, hbj8⟩
                    case measure => simp [intOf]; omega
                · by_cases hk2 : (j : Int) < (xs.length : Int)
                  · have hk5 : ¬ (j : Int) < 8 := fun h => hj1 ⟨hk2, h⟩
                    clear hj1
                    go_wp2_with fail
                    go_roundw
                    case rel => exact ⟨i + 1, by omega, by omega, by go_num, hbw⟩
                    case measure => simp [intOf]; omega
                  · clear hj1
                    go_wp2_with fail
                    go_roundw
                    case rel => exact ⟨i + 1, by omega, by omega, by go_num, hbw⟩
                    case measure => simp [intOf]; omega
          · rw [HP.out] at hp; cases hp
        · have HP : Hid (pathN x = none) := hp
          clear hp
          go_wp2_with fail
          refine (split_any x _).mono ?_
          rintro e w3 ⟨hR, hb3⟩
          have hbq3 := nwT hbq hb3
          rcases hR with ⟨L', v, hp, rfl, ho⟩ | ⟨hp, rfl⟩
          · rw [HP.out] at hp; cases hp
          · clear hp hb3 hbq
            go_wp2_with fail
            refine (parent_any x _).mono ?_
            rintro e w4 ⟨rfl, hb4⟩
            have hbq4 := nwT hbq3 hb4
            have HPO : Hid (parentO x = none) := by show _ = _; unfold parentO; rw [HP.out]
            rw [HPO.out]
            unfold parentV
            clear HPO hb4 hbq3
            generalize hnmx : nm x = bx at hE
            have HNM : Hid (nm x = bx) := hnmx
            clear hnmx
            go_wp2_with (first
              | (go_at_call 13; refine (check_any _ _).mono ?_; rintro e w' ⟨rfl, rfl⟩; rw [HNM.out])
              | (go_at_call 14; refine (name_any _ _).mono ?_; rintro e w' ⟨rfl, rfl⟩; rw [HNM.out])
              | (go_at_call 12; refine (num_any _ _).mono ?_; rintro e w' ⟨rfl, rfl⟩)
              | (go_at_call 15; refine (path_any _ _).mono ?_; rintro e w5 ⟨rfl, hb5⟩; rw [HP.out, show Option.isSome (none : Option (List ByteArray)) = false from rfl, errI_f]))
            have hbq5 := nwT hbq4 hb5
            refine (eqs_any none none [] [] 0 0 _ (.inl rfl) (.inl rfl) (by simp [maxLen])).mono ?_
            rintro e w6 ⟨rfl, q6, hq6⟩
            rw [decide_eq_true (rfl : ([] : List ByteArray) = [])]
            have HBQ6 : Below W0.heap.size W0 w6 := by rw [hq6]; exact below_drewN hbq5 q6
            clear hq6 hb5 hbq5
            have hbq6 := HBQ6
            go_wp2_with fail
            go_loopw [16] (fun j wq => ∃ (k : Nat), k ≤ xs.length ∧ k ≤ 8 ∧ j = .int .i64 k ∧ Below w6.heap.size w6 wq) (fun j _ => xs.length - (intOf j).toNat)
            case atStart => exact ⟨0, by omega, by omega, rfl, nwR w6⟩
            case round =>
              obtain ⟨j, hj, hj8, rfl, hbj⟩ := hrel
              have hbw := nwT hbq6 hbj
              have c6 : wr.cell? ⟨w.heap.size, 0, none⟩ = some (.slice (some ⟨b1, o1, none⟩) xs.length ca) := (hbw.cell (p := ⟨w.heap.size, 0, none⟩) (block_lt_of_cell HC0.out)).trans HC0.out
              by_cases hj1 : (j : Int) < (xs.length : Int) ∧ (j : Int) < 8
              · obtain ⟨hj2, hj3⟩ := hj1
                have hjn : j < xs.length := by omega
                obtain ⟨b2, o2, e2, hy1⟩ := HX0.out.cell hjn
                injection e2 with e2
                injection e2 with e2 e3
                subst e2; subst e3
                generalize xs.getD j ByteArray.empty = y at hy1
                have HY0 : Hid (W0.cell? ⟨b1, o1 + j, none⟩ = some (.string y)) := hy1
                have y6 : wr.cell? ⟨b1, o1 + j, none⟩ = some (.string y) := (hbw.cell (p := ⟨b1, o1 + j, none⟩) (block_lt_of_cell hy1)).trans hy1
                clear hy1
                go_wp2_with fail
                refine (rsplit_any y _).mono ?_
                rintro e w7 ⟨hR7, hb7⟩
                have hbw7 := nwT hbw hb7
                have hbj7 := nwT hbj hb7
                have c7 : w7.cell? ⟨w.heap.size, 0, none⟩ = some (.slice (some ⟨b1, o1, none⟩) xs.length ca) := (hbw7.cell (p := ⟨w.heap.size, 0, none⟩) (block_lt_of_cell HC0.out)).trans HC0.out
                have y7 : w7.cell? ⟨b1, o1 + j, none⟩ = some (.string y) := (hbw7.cell (p := ⟨b1, o1 + j, none⟩) (block_lt_of_cell HY0.out)).trans HY0.out
                clear c6 y6 hbw hb7 hbj
                rcases hR7 with ⟨M, vM, hpM, rfl, hoM⟩ | ⟨hpM, aM, nM, cM, rfl⟩
                · obtain ⟨aM, cM, rfl, hsM⟩ := hoM.at
                  have HU : Hid (underO x y = none) := under_no1 HP.out
                  clear hpM hoM hsM
                  go_wp2_with fail
                  refine (under_any x y _).mono ?_
                  rintro e w8 ⟨rfl, hb8⟩
                  rw [HU.out]
                  unfold underV
                  have hbj8 := nwT hbj7 hb8
                  clear c7 y7 hb8
                  go_wp2_with (go_at_call 12; refine (num_any _ _).mono ?_; rintro e w' ⟨rfl, rfl⟩)
                  go_roundw
                  case rel => exact ⟨j + 1, by omega, by omega, by go_num, hbj8⟩
                  case measure => simp [intOf]; omega
                · have HU : Hid (underO x y = none) := under_no2 hpM
                  clear hpM
                  go_wp2_with fail
                  refine (under_any x y _).mono ?_
                  rintro e w8 ⟨rfl, hb8⟩
                  rw [HU.out]
                  unfold underV
                  have hbj8 := nwT hbj7 hb8
                  clear c7 y7 hb8
                  go_wp2_with (go_at_call 12; refine (num_any _ _).mono ?_; rintro e w' ⟨rfl, rfl⟩)
                  go_roundw
                  case rel => exact ⟨j + 1, by omega, by omega, by go_num, hbj8⟩
                  case measure => simp [intOf]; omega
              · by_cases hk2 : (j : Int) < (xs.length : Int)
                · have hk5 : ¬ (j : Int) < 8 := fun h => hj1 ⟨hk2, h⟩
                  clear hj1
                  go_wp2_with fail
                  go_roundw
                  case rel => exact ⟨i + 1, by omega, by omega, by go_num, hbw⟩
                  case measure => simp [intOf]; omega
                · clear hj1
                  go_wp2_with fail
                  go_roundw
                  case rel => exact ⟨i + 1, by omega, by omega, by go_num, hbw⟩
                  case measure => simp [intOf]; omega
      · have hbw := nwT HN0.out hb
        by_cases hk2 : (i : Int) < (xs.length : Int)
        · have hk5 : ¬ (i : Int) < 8 := fun h => hi1 ⟨hk2, h⟩
          clear hi1
          go_wp2_with fail
          refine (wakes_any _).mono ?_
          rintro e w2 ⟨rfl, hb2⟩
          go_wp2_with fail
          go_ret
          exact ⟨rfl, nwT hbw hb2⟩
        · clear hi1
          go_wp2_with fail
          refine (wakes_any _).mono ?_
          rintro e w2 ⟨rfl, hb2⟩
          go_wp2_with fail
          go_ret
          exact ⟨rfl, nwT hbw hb2⟩
  · go_wp2_with fail
    go_ret
    exact ⟨rfl, nwT HN0.out hb1⟩

end Go.Proofs.Ytecfaebflmgcaaa
