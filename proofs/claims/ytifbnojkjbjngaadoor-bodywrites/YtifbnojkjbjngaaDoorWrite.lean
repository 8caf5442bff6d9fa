/- Write by the program. -/
import Derived.Test.YtifbnojkjbjngaaDoorSize
namespace Go.Proofs.YtifbnojkjbjngaaDoor
open Go.RowKit

def written (n : Int) (xs : List ByteArray) (x : Int) (t : ByteArray) : Tell :=
  if mayB n xs && numB x n then (if x + t.size ≤ 200 then (max n (x + t.size), pcs (wrt (tx n xs) x.toNat (ls t)), frs x.toNat (ls t), 0) else (0, [], [], 2)) else (0, [], [], 1)
theorem Tryd.results24 : Tryd.f24.results = #[.tmp 8, .tmp 9, .tmp 10, .tmp 11] := by kernel_rfl
theorem ne_empty {t : ByteArray} (h : ¬ t.size = 0) : (t.toList == []) = false := by
  rw [beq_eq_false_iff_ne, Lib.toList_data]; intro e; exact h (by rw [← ls_size]; unfold ls; rw [e]; rfl)
theorem size_zero {t : ByteArray} (h : t.size = 0) : t = ⟨#[]⟩ := ls_inj (List.length_eq_zero_iff.1 (by rw [ls_size]; exact h))
theorem cat_three (a b c : ByteArray) : cat [a, b, c] = ls a ++ ls b ++ ls c := by simp [cat]

set_option maxHeartbeats 2000000 in
theorem write_any (a : Option Addr) (xs : List ByteArray) (ca : Nat) (n x : Int) (t : ByteArray) (w : World) (hx : StrsAt w a xs) (hcap : xs.length ≤ ca) (hl : xs.length ≤ maxLen) (ht : t.size ≤ 1000000) :
    Calls Tryd.prog 24 #[.int .i64 n, .slice a xs.length ca, .int .i64 x, .string t] w (Told (written n xs x t) w) := by
  cases hM : mayB n xs
  · have HV : Hid (written n xs x t = (0, [], [], 1)) := by show _ = _; unfold written; rw [hM]; rfl
    have HW : Hid (opened n a xs ca = #[.agg #[.slice none 0 0, .int .i64 0], .int .i64 1]) := by show _ = _; unfold opened; rw [hM]; rfl
    go_enter Tryd.func24, Tryd.ntmps24
    go_wp2_with fail
    refine (open_any a xs ca n _ hx hcap hl).mono ?_
    rintro e w1 ⟨rfl, hb1⟩
    rw [HW.out]
    go_wp2_with fail
    exact ret_four Tryd.results24 rfl rfl rfl rfl rfl (told_no 1 HV.out (nwA hb1 _))
  · have HM : Hid (mayB n xs = true) := hM
    obtain ⟨hn0, hn1, hn2, _, _⟩ := mayB_parts hM
    have HW : Hid (opened n a xs ca = #[.agg #[.slice a xs.length ca, .int .i64 n], .int .i64 0]) := by show _ = _; unfold opened; rw [hM]; rfl
    go_enter Tryd.func24, Tryd.ntmps24
    go_wp2_with fail
    refine (open_any a xs ca n _ hx hcap hl).mono ?_
    rintro e w1 ⟨rfl, hb1⟩
    rw [HW.out]
    go_wp2_with fail
    have hb2 := nwA hb1 (.cells #[.slice a xs.length ca, .int .i64 n] 61)
    refine (reaches_any a xs.length ca n x _).mono ?_
    rintro e w2 ⟨rfl, hb3⟩
    obtain ⟨d0, d1⟩ := box_two hb3
    have hb4 := nwT hb2 hb3
    clear hb3
    cases hN : numB x n
    · have HV : Hid (written n xs x t = (0, [], [], 1)) := by show _ = _; unfold written; rw [hM, hN]; rfl
      go_wp2_with fail
      exact ret_four Tryd.results24 rfl rfl rfl rfl rfl (told_no 1 HV.out hb4)
    · have hxn : 0 ≤ x ∧ x ≤ n := by simpa [numB] using hN
      obtain ⟨hx0, hx1⟩ := hxn
      by_cases he : 200 < x + t.size
      · have HV : Hid (written n xs x t = (0, [], [], 2)) := by show _ = _; unfold written; rw [hM, hN, if_pos (by rfl), if_neg (by omega)]
        go_wp2_with fail
        exact ret_four Tryd.results24 rfl rfl rfl rfl rfl (told_no 2 HV.out hb4)
      · have HV : Hid (written n xs x t = (max n (x + t.size), pcs (wrt (tx n xs) x.toNat (ls t)), frs x.toNat (ls t), 0)) := by
          show _ = _; unfold written; rw [hM, hN, if_pos (by rfl), if_pos (by omega)]
        have HX4 : Hid (StrsAt w2 a xs) := hx.below hb4
        clear hM
        go_wp2_with fail
        refine (bytes_any a xs ca n _ HX4.out hcap HM.out).mono ?_
        rintro e w3 ⟨rfl, hb5⟩
        have hb6 := nwT hb4 hb5
        clear hb5 d0 d1
        have htl := tx_len HM.out
        have hTs : ((bs (tx n xs)).size : Int) = n := by rw [bs_size, htl]; omega
        obtain ⟨k, rfl⟩ : ∃ k : Nat, x = k := ⟨x.toNat, by omega⟩
        obtain ⟨q, rfl⟩ : ∃ q : Nat, n = q := ⟨n.toNat, by omega⟩
        rw [Int.toNat_natCast] at HV
        have HC : Hid (∀ r : Nat, r = min (k + t.size) q → cat [(bs (tx q xs)).extract 0 k, t, (bs (tx q xs)).extract r (bs (tx q xs)).size] = wrt (tx q xs) k (ls t)) := by
          intro r hr
          rw [cat_three, ext_left, ext_right, ls_bs, ls_bs, ls_bs, hr]
          have hw := wrt_min (l := tx q xs) (a := k) (t := ls t)
          rw [ls_size, htl, Int.toNat_natCast] at hw
          unfold wrt
          rw [hw, ls_size]
        have HWL : Hid ((wrt (tx q xs) k (ls t)).length ≤ 100000) := by
          show _ ≤ _
          rw [wrt_len (by rw [htl]; omega), htl, ls_size]; omega
        generalize hPP : wrt (tx q xs) k (ls t) = PP at HV HC HWL
        clear hPP htl
        have hTa : (q : Int) ≤ ((bs (tx q xs)).size : Int) := by omega
        have hTb : ((bs (tx q xs)).size : Int) ≤ (q : Int) := by omega
        clear hTs
        generalize bs (tx q xs) = T at hTa hTb HC
        by_cases h0 : t.size = 0
        · have e0 := size_zero h0
          subst e0
          have HV' : Hid (written q xs k ⟨#[]⟩ = (max (q : Int) (k : Int), pcs PP, [], 0)) := by
            have h := HV.out
            rw [show ((k : Int) + ((ByteArray.mk #[]).size : Int)) = (k : Int) from by show (k : Int) + 0 = _; omega] at h
            exact h
          clear HV
          have HC' : Hid (cat [T.extract 0 k, ⟨#[]⟩, T.extract k T.size] = PP) := HC.out k (by show k = min (k + 0) q; omega)
          have HO6 : Hid (OwnInts w3 w.heap.size (.slice none 0 0) []) := World.ownsRow_nil _ _ _ _
          go_wp2_with fail
          have g2 : min (k : Int) (q : Int) = (k : Int) := by omega
          have g1 : (k : Int) ≤ (T.size : Int) := by omega
          have HCL : Hid ((cat [T.extract 0 k, ⟨#[]⟩, T.extract k T.size]).length ≤ 100000) := by rw [HC'.out]; exact HWL.out
          clear HC
          go_region_held3 (fun _ => True) (trivial) (first
            | (go_at_call 31; refine (cut_any _ [T.extract 0 k, ⟨#[]⟩, T.extract k T.size] 3 _ ((StrsAt.of_alloc rfl).below (Below.drew (nwR _))) (Nat.le_refl _) (by simp) HCL.out).mono ?_; rintro e w4 ⟨⟨v4, rfl, ho4⟩, hb7⟩)
            | fail)
          all_goals
            rw [HC'.out] at ho4
            have hb8 := nwT (Below.drew (nwA hb6 _)) hb7
            have HO4 : Hid (OwnStrs w4 w.heap.size v4 (pcs PP)) := ho4.le (Below.drew (nwA hb6 _)).size
            have HO5 : Hid (OwnInts w4 w.heap.size (.slice none 0 0) []) := own_below (own_below (World.ownsRow.alloc HO6.out _) (Below.drew (nwR _))) hb7
            obtain ⟨a4, c4, rfl, _⟩ := HO4.out.at
            clear ho4 hb7
            go_wp2_with fail
            exact ret_four Tryd.results24 rfl rfl rfl rfl rfl (told_yes HV'.out HO4.out HO5.out hb8)
        · have hne := ne_empty h0
          obtain ⟨E, hE⟩ : ∃ E : Nat, (k : Int) + (t.size : Int) = (E : Int) := ⟨k + t.size, by omega⟩
          have HF : Hid (frs k (ls t) = numL ((k : Int) / 32).toNat (((E : Int) + 31) / 32).toNat) := by
            show _ = _
            unfold frs
            rw [if_neg (fun e => h0 (by rw [← ls_size, e]; rfl)), ls_size, show k + t.size = E from by omega]
            unfold many; congr 1 <;> omega
          have HV' : Hid (written q xs k t = (max (q : Int) (E : Int), pcs PP, frs k (ls t), 0)) := by rw [← hE]; exact HV.out
          clear HV
          go_wp2_with (go_at_call 37; refine (pieces_any _ _ (by omega) (by omega)).mono ?_; rintro e w' ⟨rfl, rfl⟩)
          refine (numbers_int _ _ _ (by omega) (by omega) (by omega) (by omega)).mono ?_
          rintro e w5 ⟨⟨v2, rfl, ho2⟩, hb9⟩
          rw [← HF.out] at ho2
          have hb10 := nwT hb6 hb9
          have HO6 : Hid (OwnInts w5 w.heap.size v2 (frs k (ls t))) := own_le ho2 hb6.size
          obtain ⟨a2, c2, rfl, _⟩ := HO6.out.at
          clear ho2 hb9 HF
          generalize frs k (ls t) = F at HV' HO6 ⊢
          have hk0 : k < E := by omega
          by_cases hEq : E ≤ q
          · have HC' : Hid (cat [T.extract 0 k, t, T.extract E T.size] = PP) := HC.out E (by omega)
            have hET : (E : Int) ≤ (T.size : Int) := by omega
            go_wp2_with fail
            have g2 : min (E : Int) (q : Int) = (E : Int) := by omega
            have g1 : (k : Int) ≤ (T.size : Int) := by omega
            have HCL : Hid ((cat [T.extract 0 k, t, T.extract E T.size]).length ≤ 100000) := by rw [HC'.out]; exact HWL.out
            clear HC
            go_region_held3 (fun _ => True) (trivial) (first
              | (go_at_call 31; refine (cut_any _ [T.extract 0 k, t, T.extract E T.size] 3 _ ((StrsAt.of_alloc rfl).below (Below.drew (nwR _))) (Nat.le_refl _) (by simp) HCL.out).mono ?_; rintro e w4 ⟨⟨v4, rfl, ho4⟩, hb7⟩)
              | fail)
            all_goals
              rw [HC'.out] at ho4
              have hb8 := nwT (Below.drew (nwA hb10 _)) hb7
              have HO4 : Hid (OwnStrs w4 w.heap.size v4 (pcs PP)) := ho4.le (Below.drew (nwA hb10 _)).size
              have HO5 : Hid (OwnInts w4 w.heap.size (.slice a2 F.length c2) F) := own_below (own_below (World.ownsRow.alloc HO6.out _) (Below.drew (nwR _))) hb7
              obtain ⟨a4, c4, rfl, _⟩ := HO4.out.at
              clear ho4 hb7
              go_wp2_with fail
              exact ret_four Tryd.results24 rfl rfl rfl rfl rfl (told_yes HV'.out HO4.out HO5.out hb8)
          · have HC' : Hid (cat [T.extract 0 k, t, T.extract q T.size] = PP) := HC.out q (by omega)
            go_wp2_with fail
            have g2 : min (E : Int) (q : Int) = (q : Int) := by omega
            have g1 : (k : Int) ≤ (T.size : Int) := by omega
            have HCL : Hid ((cat [T.extract 0 k, t, T.extract q T.size]).length ≤ 100000) := by rw [HC'.out]; exact HWL.out
            clear HC
            go_region_held3 (fun _ => True) (trivial) (first
              | (go_at_call 31; refine (cut_any _ [T.extract 0 k, t, T.extract q T.size] 3 _ ((StrsAt.of_alloc rfl).below (Below.drew (nwR _))) (Nat.le_refl _) (by simp) HCL.out).mono ?_; rintro e w4 ⟨⟨v4, rfl, ho4⟩, hb7⟩)
              | fail)
            all_goals
              rw [HC'.out] at ho4
              have hb8 := nwT (Below.drew (nwA hb10 _)) hb7
              have HO4 : Hid (OwnStrs w4 w.heap.size v4 (pcs PP)) := ho4.le (Below.drew (nwA hb10 _)).size
              have HO5 : Hid (OwnInts w4 w.heap.size (.slice a2 F.length c2) F) := own_below (own_below (World.ownsRow.alloc HO6.out _) (Below.drew (nwR _))) hb7
              obtain ⟨a4, c4, rfl, _⟩ := HO4.out.at
              clear ho4 hb7
              go_wp2_with fail
              exact ret_four Tryd.results24 rfl rfl rfl rfl rfl (told_yes HV'.out HO4.out HO5.out hb8)

end Go.Proofs.YtifbnojkjbjngaaDoor
