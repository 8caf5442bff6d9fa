/- Write by the page. -/
import Derived.Test.YtifbnojkjbjngaaDoorRpieces
import Derived.Test.YtifbnojkjbjngaaDoorBackm
namespace Go.Proofs.YtifbnojkjbjngaaDoor
open Go.RowKit

def fk (a tl k : Nat) : List Int := if tl = 0 then [] else numL (a / 32) (min k (many (a + tl)))
theorem fk_yes {a tl k : Nat} (h1 : k * 32 < a + tl) (h2 : a < (k + 1) * 32) (h3 : 0 < tl) : fk a tl (k + 1) = fk a tl k ++ [(k : Int)] := by
  unfold fk
  rw [if_neg (by omega), if_neg (by omega), show min (k + 1) (many (a + tl)) = k + 1 from by unfold many; omega, show min k (many (a + tl)) = k from by unfold many; omega, numL_succ (by omega)]
theorem fk_no1 {a tl k : Nat} (h1 : ¬ k * 32 < a + tl) : fk a tl (k + 1) = fk a tl k := by
  unfold fk
  rw [show min (k + 1) (many (a + tl)) = min k (many (a + tl)) from by unfold many; omega]
theorem fk_no2 {a tl k : Nat} (h2 : ¬ a < (k + 1) * 32) : fk a tl (k + 1) = fk a tl k := by
  unfold fk
  split
  · rfl
  · rw [numL_nil (by omega), numL_nil (by omega)]
theorem fk_no3 {a tl k : Nat} (h3 : ¬ 0 < tl) : fk a tl (k + 1) = fk a tl k := by
  unfold fk
  rw [if_pos (by omega), if_pos (by omega)]
theorem fk_zero (a tl : Nat) : fk a tl 0 = [] := by
  unfold fk
  split
  · rfl
  · rw [numL_nil (by omega)]
theorem fk_end {a n : Nat} {t : List UInt8} (h : a + t.length ≤ n) : fk a t.length (many n) = frs a t := by
  unfold fk frs
  by_cases ht : t = []
  · rw [if_pos (by rw [ht]; rfl), if_pos ht]
  · have h0 : t.length ≠ 0 := fun e => ht (List.length_eq_zero_iff.1 e)
    rw [if_neg h0, if_neg ht, Nat.min_eq_right (by unfold many; omega)]
theorem fk_len (a tl k : Nat) (h : k ≤ 1000) : (fk a tl k).length ≤ 1000 := by
  unfold fk
  split
  · simp
  · rw [numL_len]; omega

set_option maxRecDepth 100000 in
set_option maxHeartbeats 4000000 in
theorem rwrite_any (old : ByteArray) (k : Nat) (t : ByteArray) (w : World) (ho : old.size ≤ 200) (hk : k ≤ old.size) (ht : k + t.size ≤ 200) :
    Calls Tryd.prog 25 #[.string old, .int .i64 k, .string t] w (PairPost (bs (wrt (ls old) k (ls t))) (frs k (ls t)) w) := by
  obtain ⟨i0, hi, hz0, hz1, hz2⟩ := info_parts Tryd.info3
  have hki : (k : Int) ≤ (old.size : Int) := by omega
  have HY0 : Hid ((old.extract 0 k ++ t).size < old.size → (old.extract 0 k ++ t) ++ old.extract (old.extract 0 k ++ t).size old.size = bs (wrt (ls old) k (ls t))) := fun h => want_yes hk h
  have HNO0 : Hid (¬ (old.extract 0 k ++ t).size < old.size → old.extract 0 k ++ t = bs (wrt (ls old) k (ls t))) := fun h => want_no hk h
  have hP0s : (old.extract 0 k).size = k := by rw [ext_left, bs_size, List.length_take, ls_size]; omega
  have hRL := wrt_len (l := ls old) (a := k) (t := ls t) (by rw [ls_size]; exact hk)
  rw [ls_size, ls_size] at hRL
  have HFE : Hid (fk k t.size (many (bs (wrt (ls old) k (ls t))).size) = frs k (ls t)) := by
    show _ = _
    rw [bs_size, ← ls_size t]
    exact fk_end (by rw [hRL, ls_size]; omega)
  have hRs : (bs (wrt (ls old) k (ls t))).size ≤ 200 := by rw [bs_size, hRL]; omega
  clear hRL
  generalize bs (wrt (ls old) k (ls t)) = R at HY0 HNO0 HFE hRs ⊢
  generalize frs k (ls t) = F at HFE ⊢
  obtain ⟨P0, hP0⟩ : ∃ P0, old.extract 0 k = P0 := ⟨_, rfl⟩
  rw [hP0] at hP0s HY0 HNO0
  obtain ⟨P, hPe⟩ : ∃ P, P0 ++ t = P := ⟨_, rfl⟩
  have hPs : P.size = k + t.size := by rw [← hPe, bs_app, bs_size, List.length_append, ls_size, ls_size, hP0s]
  rw [hPe] at HY0 HNO0
  have hf1 : ¬ 9223372036854775807 < P0.size + t.size := by omega
  have hPsA : P.size ≤ 200 := by omega
  clear hPs hP0s
  by_cases hlt : P.size < old.size
  · have hlti : (P.size : Int) < (old.size : Int) := by omega
    have hlte : (P.size : Int) ≤ (old.size : Int) := by omega
    have hYY := HY0.out hlt
    have hQ0s : (old.extract P.size old.size).size ≤ 200 := by rw [ext_right, bs_size, List.length_drop, ls_size]; omega
    obtain ⟨Q0, hQ0⟩ : ∃ Q0, old.extract P.size old.size = Q0 := ⟨_, rfl⟩
    rw [hQ0] at hYY hQ0s
    have hf2 : ¬ 9223372036854775807 < P.size + Q0.size := by omega
    go_enter Tryd.func25, Tryd.ntmps25
    go_wp2_with fail
    clear hYY hQ0 hP0 hPe
    obtain ⟨B, hB⟩ : ∃ B : Nat, ((R.size : Int) + 31) / 32 = B := ⟨(((R.size : Int) + 31) / 32).toNat, by omega⟩
    have hBm : many R.size = B := by unfold many; omega
    rw [hBm] at HFE
    have hB7 : B ≤ 7 := by omega
    clear hBm
    go_loopw [9, 10] (fun v i wr => ∃ (j : Nat), j ≤ B ∧ i = .int .i64 j ∧ OwnInts wr w.heap.size v (fk k t.size j) ∧ Below w.heap.size w wr) (fun _ i _ => B - (intOf i).toNat)
    case atStart => exact ⟨0, by omega, rfl, by rw [fk_zero]; exact World.ownsRow_nil _ _ _ _, nwR w⟩
    case round =>
      obtain ⟨j, hj, rfl, hO, hb⟩ := hrel
      have HO : Hid (OwnInts wr w.heap.size u9 (fk k t.size j)) := hO
      clear hO
      by_cases hjB : (j : Int) < (B : Int)
      · by_cases h1 : (j : Int) * 32 < (k : Int) + (t.size : Int)
        · by_cases h2 : (k : Int) < ((j : Int) + 1) * 32
          · by_cases h3 : (0 : Int) < (t.size : Int)
            · have HS : Hid (fk k t.size (j + 1) = fk k t.size j ++ [(j : Int)]) := fk_yes (by omega) (by omega) (by omega)
              have hlt2 : (fk k t.size j).length ≤ 1000 := fk_len _ _ _ (by omega)
              generalize fk k t.size j = ys at HO HS hlt2
              have hsz : w.heap.size ≤ (wr.alloc (.cells #[.int .i64 (j : Int)] 3)).heap.size := (nwA hb _).size
              have hc3 : ys.length + 1 ≤ maxLen := by unfold maxLen; omega
              have hc4 : (ys.length + 1) * 8 ≤ 140737488355328 := by omega
              go_wp2_with (first
                | (go_at_call 29; refine (many_w _ _ (by omega) (by omega)).mono ?_; rintro e w' ⟨rfl, rfl⟩; rw [hB])
                | (at_builtin; refine wpList_append_own _ rfl (.tmp 53) (.tmp 55) 24 rfl w.heap.size 3 i0 (.int .i64 0) 1 8 Tryd.underlying24 hi hz0 hz1 hz2 rfl (by decide) u9 ys.length (ys.map (.int .i64)) rfl (World.ownsRow.alloc HO.out _) ⟨wr.heap.size, 0, none⟩ 1 1 [.int .i64 (j : Int)] rfl rfl (cells_new _ [.int .i64 (j : Int)] _) (by simp [Value.oneCell']) hc3 hc4 hsz ?_; intro v' w3 hown hgrow _; refine unstop ?_))
              unfold Stop
              have HB3 : Hid (Below w.heap.size w w3) := (nwA hb _).grown hgrow (nwA hb _).size (fun q e => (HO.out.lt q e).1)
              have HO3 : Hid (OwnInts w3 w.heap.size v' (fk k t.size (j + 1))) := by rw [HS.out]; exact OwnInts.snoc hown
              clear hown hgrow
              go_wp2_with fail
              go_roundw
              case rel => exact ⟨j + 1, by omega, by go_num, HO3.out, HB3.out⟩
              case measure => simp [intOf]; omega
            · have HO3 : Hid (OwnInts wr w.heap.size u9 (fk k t.size (j + 1))) := by rw [fk_no3 (by omega)]; exact HO.out
              go_wp2_with (go_at_call 29; refine (many_w _ _ (by omega) (by omega)).mono ?_; rintro e w' ⟨rfl, rfl⟩; rw [hB])
              go_roundw
              case rel => exact ⟨j + 1, by omega, by go_num, HO3.out, hb⟩
              case measure => simp [intOf]; omega
          · have HO3 : Hid (OwnInts wr w.heap.size u9 (fk k t.size (j + 1))) := by rw [fk_no2 (by omega)]; exact HO.out
            go_wp2_with (go_at_call 29; refine (many_w _ _ (by omega) (by omega)).mono ?_; rintro e w' ⟨rfl, rfl⟩; rw [hB])
            go_roundw
            case rel => exact ⟨j + 1, by omega, by go_num, HO3.out, hb⟩
            case measure => simp [intOf]; omega
        · have HO3 : Hid (OwnInts wr w.heap.size u9 (fk k t.size (j + 1))) := by rw [fk_no1 (by omega)]; exact HO.out
          go_wp2_with (go_at_call 29; refine (many_w _ _ (by omega) (by omega)).mono ?_; rintro e w' ⟨rfl, rfl⟩; rw [hB])
          go_roundw
          case rel => exact ⟨j + 1, by omega, by go_num, HO3.out, hb⟩
          case measure => simp [intOf]; omega
      · have HOE : Hid (OwnInts wr w.heap.size u9 F) := by
          have := HO.out
          rw [show j = B from by omega, HFE.out] at this; exact this
        clear HO
        have h := HOE.out
        obtain ⟨av, cv, rfl, hat, hcp⟩ := h.at
        have HAT : Hid (IntsAt wr av F) := hat
        have HCP : Hid (CapOk av cv F.length) := hcp
        clear h hat hcp HOE
        go_wp2_with (go_at_call 29; refine (many_w _ _ (by omega) (by omega)).mono ?_; rintro e w' ⟨rfl, rfl⟩; rw [hB])
        go_ret2
        exact ⟨⟨av, cv, rfl, HAT.out, HCP.out⟩, hb⟩
  · have hlti : ¬ (P.size : Int) < (old.size : Int) := by omega
    have hYY := HNO0.out hlt
    clear HNO0 HY0
    rw [hYY] at hlti hlt hPsA hPe
    clear hYY
    go_enter Tryd.func25, Tryd.ntmps25
    go_wp2_with fail
    clear hP0 hPe
    obtain ⟨B, hB⟩ : ∃ B : Nat, ((R.size : Int) + 31) / 32 = B := ⟨(((R.size : Int) + 31) / 32).toNat, by omega⟩
    have hBm : many R.size = B := by unfold many; omega
    rw [hBm] at HFE
    have hB7 : B ≤ 7 := by omega
    clear hBm
    go_loopw [9, 10] (fun v i wr => ∃ (j : Nat), j ≤ B ∧ i = .int .i64 j ∧ OwnInts wr w.heap.size v (fk k t.size j) ∧ Below w.heap.size w wr) (fun _ i _ => B - (intOf i).toNat)
    case atStart => exact ⟨0, by omega, rfl, by rw [fk_zero]; exact World.ownsRow_nil _ _ _ _, nwR w⟩
    case round =>
      obtain ⟨j, hj, rfl, hO, hb⟩ := hrel
      have HO : Hid (OwnInts wr w.heap.size u9 (fk k t.size j)) := hO
      clear hO
      by_cases hjB : (j : Int) < (B : Int)
      · by_cases h1 : (j : Int) * 32 < (k : Int) + (t.size : Int)
        · by_cases h2 : (k : Int) < ((j : Int) + 1) * 32
          · by_cases h3 : (0 : Int) < (t.size : Int)
            · have HS : Hid (fk k t.size (j + 1) = fk k t.size j ++ [(j : Int)]) := fk_yes (by omega) (by omega) (by omega)
              have hlt2 : (fk k t.size j).length ≤ 1000 := fk_len _ _ _ (by omega)
              generalize fk k t.size j = ys at HO HS hlt2
              have hsz : w.heap.size ≤ (wr.alloc (.cells #[.int .i64 (j : Int)] 3)).heap.size := (nwA hb _).size
              have hc3 : ys.length + 1 ≤ maxLen := by unfold maxLen; omega
              have hc4 : (ys.length + 1) * 8 ≤ 140737488355328 := by omega
              go_wp2_with (first
                | (go_at_call 29; refine (many_w _ _ (by omega) (by omega)).mono ?_; rintro e w' ⟨rfl, rfl⟩; rw [hB])
                | (at_builtin; refine wpList_append_own _ rfl (.tmp 53) (.tmp 55) 24 rfl w.heap.size 3 i0 (.int .i64 0) 1 8 Tryd.underlying24 hi hz0 hz1 hz2 rfl (by decide) u9 ys.length (ys.map (.int .i64)) rfl (World.ownsRow.alloc HO.out _) ⟨wr.heap.size, 0, none⟩ 1 1 [.int .i64 (j : Int)] rfl rfl (cells_new _ [.int .i64 (j : Int)] _) (by simp [Value.oneCell']) hc3 hc4 hsz ?_; intro v' w3 hown hgrow _; refine unstop ?_))
              unfold Stop
              have HB3 : Hid (Below w.heap.size w w3) := (nwA hb _).grown hgrow (nwA hb _).size (fun q e => (HO.out.lt q e).1)
              have HO3 : Hid (OwnInts w3 w.heap.size v' (fk k t.size (j + 1))) := by rw [HS.out]; exact OwnInts.snoc hown
              clear hown hgrow
              go_wp2_with fail
              go_roundw
              case rel => exact ⟨j + 1, by omega, by go_num, HO3.out, HB3.out⟩
              case measure => simp [intOf]; omega
            · have HO3 : Hid (OwnInts wr w.heap.size u9 (fk k t.size (j + 1))) := by rw [fk_no3 (by omega)]; exact HO.out
              go_wp2_with (go_at_call 29; refine (many_w _ _ (by omega) (by omega)).mono ?_; rintro e w' ⟨rfl, rfl⟩; rw [hB])
              go_roundw
              case rel => exact ⟨j + 1, by omega, by go_num, HO3.out, hb⟩
              case measure => simp [intOf]; omega
          · have HO3 : Hid (OwnInts wr w.heap.size u9 (fk k t.size (j + 1))) := by rw [fk_no2 (by omega)]; exact HO.out
            go_wp2_with (go_at_call 29; refine (many_w _ _ (by omega) (by omega)).mono ?_; rintro e w' ⟨rfl, rfl⟩; rw [hB])
            go_roundw
            case rel => exact ⟨j + 1, by omega, by go_num, HO3.out, hb⟩
            case measure => simp [intOf]; omega
        · have HO3 : Hid (OwnInts wr w.heap.size u9 (fk k t.size (j + 1))) := by rw [fk_no1 (by omega)]; exact HO.out
          go_wp2_with (go_at_call 29; refine (many_w _ _ (by omega) (by omega)).mono ?_; rintro e w' ⟨rfl, rfl⟩; rw [hB])
          go_roundw
          case rel => exact ⟨j + 1, by omega, by go_num, HO3.out, hb⟩
          case measure => simp [intOf]; omega
      · have HOE : Hid (OwnInts wr w.heap.size u9 F) := by
          have := HO.out
          rw [show j = B from by omega, HFE.out] at this; exact this
        clear HO
        have h := HOE.out
        obtain ⟨av, cv, rfl, hat, hcp⟩ := h.at
        have HAT : Hid (IntsAt wr av F) := hat
        have HCP : Hid (CapOk av cv F.length) := hcp
        clear h hat hcp HOE
        go_wp2_with (go_at_call 29; refine (many_w _ _ (by omega) (by omega)).mono ?_; rintro e w' ⟨rfl, rfl⟩; rw [hB])
        go_ret2
        exact ⟨⟨av, cv, rfl, HAT.out, HCP.out⟩, hb⟩

end Go.Proofs.YtifbnojkjbjngaaDoor
