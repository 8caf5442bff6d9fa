/- Size by the program. -/
import Derived.Test.YtifbnojkjbjngaaDoorReadb
namespace Go.Proofs.YtifbnojkjbjngaaDoor
open Go.RowKit

theorem numbers_int (a b : Int) (w : World) (h0 : 0 ≤ a) (h1 : a ≤ 1000) (h2 : 0 ≤ b) (h3 : b ≤ 1000) :
    Calls Tryd.prog 36 #[.int .i64 a, .int .i64 b] w fun e w' => (∃ v, e = .returned v ∧ OwnInts w' w.heap.size v (numL a.toNat b.toNat)) ∧ Below w.heap.size w w' := by
  obtain ⟨k, rfl⟩ : ∃ k : Nat, a = k := ⟨a.toNat, by omega⟩
  obtain ⟨m, rfl⟩ : ∃ m : Nat, b = m := ⟨b.toNat, by omega⟩
  exact numbers_any k m w (by omega) (by omega)

abbrev Tell := Int × List ByteArray × List Int × Int
def Told (r : Tell) (w : World) (e : Ending) (w' : World) : Prop := (∃ v1 v2, e = .returned (.tuple #[.int .i64 r.1, v1, v2, .int .i64 r.2.2.2]) ∧ OwnStrs w' w.heap.size v1 r.2.1 ∧ OwnInts w' w.heap.size v2 r.2.2.1) ∧ Below w.heap.size w w'
theorem told_no {r : Tell} {w w' : World} (k : Int) (h : r = (0, [], [], k)) (hb : Below w.heap.size w w') : Told r w (.returned (.tuple #[.int .i64 0, .slice none 0 0, .slice none 0 0, .int .i64 k])) w' := by
  subst h
  exact ⟨⟨_, _, rfl, World.ownsRow_nil _ _ _ _, World.ownsRow_nil _ _ _ _⟩, hb⟩

theorem told_yes {r : Tell} {w w' : World} {k : Int} {X : List ByteArray} {F : List Int} {v1 v2 : Value} (h : r = (k, X, F, 0)) (h1 : OwnStrs w' w.heap.size v1 X) (h2 : OwnInts w' w.heap.size v2 F) (hb : Below w.heap.size w w') : Told r w (.returned (.tuple #[.int .i64 k, v1, v2, .int .i64 0])) w' := by
  subst h
  exact ⟨⟨_, _, rfl, h1, h2⟩, hb⟩

def sized (n : Int) (xs : List ByteArray) (tt : Int) : Tell :=
  if mayB n xs && decide (0 ≤ tt) then (if tt ≤ 200 then (tt, pcs (siz (tx n xs) tt.toNat), frz (tx n xs) tt.toNat, 0) else (0, [], [], 2)) else (0, [], [], 1)
theorem ret_four {P : Program} {f : Func} {Q : Ending → World → Prop} {a : Act} {w : World} {x0 x1 x2 x3 : Nat} {v0 v1 v2 v3 : Value} (hr : f.results = #[.tmp x0, .tmp x1, .tmp x2, .tmp x3]) (h0 : a.tmps.getD x0 undef = v0) (h1 : a.tmps.getD x1 undef = v1) (h2 : a.tmps.getD x2 undef = v2) (h3 : a.tmps.getD x3 undef = v3) (hd : a.defers = []) (h : Q (.returned (.tuple #[v0, v1, v2, v3])) w) : bodyPost P f Q .ret a w := by
  refine bodyPost_ret (v := .tuple #[v0, v1, v2, v3]) ?_ hd h
  subst h0 h1 h2 h3
  simp [results, hr, go_sem]
theorem Tryd.results21 : Tryd.f21.results = #[.tmp 6, .tmp 7, .tmp 8, .tmp 9] := by kernel_rfl

set_option maxHeartbeats 2000000 in
theorem size_any (a : Option Addr) (xs : List ByteArray) (ca : Nat) (n tt : Int) (w : World) (hx : StrsAt w a xs) (hcap : xs.length ≤ ca) (hl : xs.length ≤ maxLen) :
    Calls Tryd.prog 21 #[.int .i64 n, .slice a xs.length ca, .int .i64 tt] w (Told (sized n xs tt) w) := by
  cases hM : mayB n xs
  · have HV : Hid (sized n xs tt = (0, [], [], 1)) := by show _ = _; unfold sized; rw [hM]; rfl
    have HW : Hid (opened n a xs ca = #[.agg #[.slice none 0 0, .int .i64 0], .int .i64 1]) := by show _ = _; unfold opened; rw [hM]; rfl
    go_enter Tryd.func21, Tryd.ntmps21
    go_wp2_with fail
    refine (open_any a xs ca n _ hx hcap hl).mono ?_
    rintro e w1 ⟨rfl, hb1⟩
    rw [HW.out]
    go_wp2_with fail
    exact ret_four Tryd.results21 rfl rfl rfl rfl rfl (told_no 1 HV.out (nwA hb1 _))
  · have HM : Hid (mayB n xs = true) := hM
    obtain ⟨hn0, hn1, hn2, _, _⟩ := mayB_parts hM
    have HW : Hid (opened n a xs ca = #[.agg #[.slice a xs.length ca, .int .i64 n], .int .i64 0]) := by show _ = _; unfold opened; rw [hM]; rfl
    go_enter Tryd.func21, Tryd.ntmps21
    go_wp2_with fail
    refine (open_any a xs ca n _ hx hcap hl).mono ?_
    rintro e w1 ⟨rfl, hb1⟩
    rw [HW.out]
    have hb2 := nwA hb1 (.cells #[.slice a xs.length ca, .int .i64 n] 61)
    by_cases ht0 : tt < 0
    · have HV : Hid (sized n xs tt = (0, [], [], 1)) := by show _ = _; unfold sized; rw [hM, decide_eq_false (by omega)]; rfl
      go_wp2_with fail
      exact ret_four Tryd.results21 rfl rfl rfl rfl rfl (told_no 1 HV.out hb2)
    · by_cases ht1 : 200 < tt
      · have HV : Hid (sized n xs tt = (0, [], [], 2)) := by show _ = _; unfold sized; rw [hM, decide_eq_true (by omega)]; simp; omega
        go_wp2_with fail
        exact ret_four Tryd.results21 rfl rfl rfl rfl rfl (told_no 2 HV.out hb2)
      · have HV : Hid (sized n xs tt = (tt, pcs (siz (tx n xs) tt.toNat), frz (tx n xs) tt.toNat, 0)) := by
          show _ = _; unfold sized; rw [hM, decide_eq_true (by omega), if_pos (by rfl), if_pos (by omega)]
        clear hM
        by_cases htn : tt < n
        · go_wp2_with (go_at_call 37; refine (pieces_any _ _ (by omega) (by omega)).mono ?_; rintro e w' ⟨rfl, rfl⟩)
          refine (numbers_int _ _ _ (by omega) (by omega) (by omega) (by omega)).mono ?_
          rintro e w2 ⟨⟨v2, rfl, ho2⟩, hb3⟩
          obtain ⟨d0, d1⟩ := box_two hb3
          have hb4 := nwT hb2 hb3
          have HO2 : Hid (OwnInts w2 w.heap.size v2 (frz (tx n xs) tt.toNat)) := by
            have e1 : frz (tx n xs) tt.toNat = numL (tt / 32).toNat ((tt + 31) / 32).toNat := by
              unfold frz; rw [tx_len HM.out, if_neg (by omega)]; unfold many; congr 1 <;> omega
            rw [e1]; exact own_le ho2 (by have := hb2.size; omega)
          obtain ⟨a2, c2, rfl, _⟩ := HO2.out.at
          have HX4 : Hid (StrsAt w2 a xs) := hx.below hb4
          clear ho2 hb3
          go_wp2_with fail
          refine (bytes_any a xs ca n _ HX4.out hcap HM.out).mono ?_
          rintro e w3 ⟨rfl, hb5⟩
          have hb6 := nwT hb4 hb5
          have HO3 : Hid (OwnInts w3 w.heap.size (.slice a2 (frz (tx n xs) tt.toNat).length c2) (frz (tx n xs) tt.toNat)) := own_below HO2.out hb5
          obtain ⟨k, rfl⟩ : ∃ k : Nat, tt = k := ⟨tt.toNat, by omega⟩
          have hk : (k : Int) ≤ ((bs (tx n xs)).size : Int) := by rw [bs_size, tx_len HM.out]; omega
          have HC : Hid (cat [(bs (tx n xs)).extract 0 k] = siz (tx n xs) k) := by
            show _ = _
            rw [cat_one, ext_left, ls_bs, ls_bs]; unfold siz; rw [tx_len HM.out, show k - n.toNat = 0 from by omega]; simp [zs]
          have hcl : (cat [(bs (tx n xs)).extract 0 k]).length ≤ 100000 := by rw [HC.out, siz_len]; omega
          rw [Int.toNat_natCast] at HV HO3 ⊢
          generalize frz (tx n xs) k = F at HV HO3 ⊢
          generalize hPP : siz (tx n xs) k = PP at HV HC
          clear hPP
          generalize bs (tx n xs) = T at hk HC hcl
          clear hb5 d0 d1 HO2
          go_wp2_with fail
          refine (cut_any (some ⟨w3.heap.size, 0, none⟩) [T.extract 0 k] 1 _ (StrsAt.of_alloc rfl) (Nat.le_refl _) (by simp) hcl).mono ?_
          rintro e w4 ⟨⟨v4, rfl, ho4⟩, hb7⟩
          rw [HC.out] at ho4
          have hb8 := nwT (nwA hb6 _) hb7
          have HO4 : Hid (OwnStrs w4 w.heap.size v4 (pcs PP)) := ho4.le (nwA hb6 _).size
          have HO5 : Hid (OwnInts w4 w.heap.size (.slice a2 F.length c2) F) := own_below (World.ownsRow.alloc HO3.out _) hb7
          obtain ⟨a4, c4, rfl, _⟩ := HO4.out.at
          clear ho4 hb7
          go_wp2_with fail
          exact ret_four Tryd.results21 rfl rfl rfl rfl rfl (told_yes HV.out HO4.out HO5.out hb8)
        · go_wp2_with (go_at_call 37; refine (pieces_any _ _ (by omega) (by omega)).mono ?_; rintro e w' ⟨rfl, rfl⟩)
          refine (numbers_int _ _ _ (by omega) (by omega) (by omega) (by omega)).mono ?_
          rintro e w2 ⟨⟨v2, rfl, ho2⟩, hb3⟩
          obtain ⟨d0, d1⟩ := box_two hb3
          have hb4 := nwT hb2 hb3
          have HO2 : Hid (OwnInts w2 w.heap.size v2 (frz (tx n xs) tt.toNat)) := by
            have e1 : frz (tx n xs) tt.toNat = numL ((n + 31) / 32).toNat ((tt + 31) / 32).toNat := by
              unfold frz; rw [tx_len HM.out, if_pos (by omega)]; unfold many; congr 1 <;> omega
            rw [e1]; exact own_le ho2 (by have := hb2.size; omega)
          obtain ⟨a2, c2, rfl, _⟩ := HO2.out.at
          have HX4 : Hid (StrsAt w2 a xs) := hx.below hb4
          clear ho2 hb3
          go_wp2_with fail
          refine (bytes_any a xs ca n _ HX4.out hcap HM.out).mono ?_
          rintro e w3 ⟨rfl, hb5⟩
          have hb6 := nwT hb4 hb5
          have HO3 : Hid (OwnInts w3 w.heap.size (.slice a2 (frz (tx n xs) tt.toNat).length c2) (frz (tx n xs) tt.toNat)) := own_below HO2.out hb5
          clear hb5 d0 d1 HO2
          go_wp2_with fail
          refine (rep_any _ _ (by omega) (by omega)).mono ?_
          rintro e w5 ⟨rfl, hb5⟩
          have hb9 := nwT hb6 hb5
          have HO6 : Hid (OwnInts w5 w.heap.size (.slice a2 (frz (tx n xs) tt.toNat).length c2) (frz (tx n xs) tt.toNat)) := own_below HO3.out hb5
          have HC : Hid (cat [bs (tx n xs), bs (zs (tt - n).toNat)] = siz (tx n xs) tt.toNat) := by
            show _ = _
            rw [cat_cons, cat_one, ls_bs, ls_bs]; unfold siz; rw [tx_len HM.out, List.take_of_length_le (by rw [tx_len HM.out]; omega), show (tt - n).toNat = tt.toNat - n.toNat from by omega]
          have hcl : (cat [bs (tx n xs), bs (zs (tt - n).toNat)]).length ≤ 100000 := by rw [HC.out, siz_len]; omega
          generalize frz (tx n xs) tt.toNat = F at HV HO6 ⊢
          generalize siz (tx n xs) tt.toNat = PP at HV HC
          generalize bs (tx n xs) = T at HC hcl ⊢
          generalize bs (zs (tt - n).toNat) = Z at HC hcl ⊢
          clear hb5 HO3
          go_wp2_with fail
          refine (cut_any (some ⟨w5.heap.size, 0, none⟩) [T, Z] 2 _ (StrsAt.of_alloc rfl) (Nat.le_refl _) (by simp) hcl).mono ?_
          rintro e w4 ⟨⟨v4, rfl, ho4⟩, hb7⟩
          rw [HC.out] at ho4
          have hb8 := nwT (nwA hb9 _) hb7
          have HO4 : Hid (OwnStrs w4 w.heap.size v4 (pcs PP)) := ho4.le (nwA hb9 _).size
          have HO5 : Hid (OwnInts w4 w.heap.size (.slice a2 F.length c2) F) := own_below (World.ownsRow.alloc HO6.out _) hb7
          obtain ⟨a4, c4, rfl, _⟩ := HO4.out.at
          clear ho4 hb7
          go_wp2_with fail
          exact ret_four Tryd.results21 rfl rfl rfl rfl rfl (told_yes HV.out HO4.out HO5.out hb8)

end Go.Proofs.YtifbnojkjbjngaaDoor
