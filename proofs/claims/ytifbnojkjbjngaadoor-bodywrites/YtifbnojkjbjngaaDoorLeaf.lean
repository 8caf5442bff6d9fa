/- The small functions: numbers of pieces, numbers in a row, whether pieces are whole, all of a row. -/
import Derived.Test.YtifbnojkjbjngaaDoorBase
namespace Go.Proofs.YtifbnojkjbjngaaDoor
open Go.RowKit

theorem num_any (n : Int) (w : World) : Calls Tryd.prog 11 #[.int .i64 n] w fun e w' => e = .returned (.int .i64 n) ∧ w' = w := by
  go_enter Tryd.func11, Tryd.ntmps11
  go_wp2
  go_ret
  exact ⟨rfl, rfl⟩

theorem pieces_any (n : Int) (w : World) (h0 : 0 ≤ n) (h1 : n ≤ 1000) : Calls Tryd.prog 37 #[.int .i64 n] w fun e w' => e = .returned (.int .i64 ((n + 31) / 32)) ∧ w' = w := by
  go_enter Tryd.func37, Tryd.ntmps37
  go_wp2
  go_ret
  refine ⟨ret_int ?_, rfl⟩
  omega
theorem many_any (n : Int) (w : World) (h0 : 0 ≤ n) (h1 : n ≤ 1000) : Calls Tryd.prog 29 #[.int .i64 n] w fun e w' => e = .returned (.int .i64 ((n + 31) / 32)) ∧ w' = w := by
  go_enter Tryd.func29, Tryd.ntmps29
  go_wp2
  go_ret
  refine ⟨ret_int ?_, rfl⟩
  omega

def numB (n most : Int) : Bool := decide (0 ≤ n) && decide (n ≤ most)
theorem num_no1 {n most : Int} (h : ¬ 0 ≤ n) : numB n most = false := by unfold numB; rw [decide_eq_false h]; rfl
set_option maxHeartbeats 400000 in
theorem num_in (n most : Int) (w : World) : Calls Tryd.prog 19 #[.int .i64 n, .int .i64 most] w fun e w' => e = .returned (.bool (numB n most)) ∧ w' = w := by
  by_cases h : 0 ≤ n
  · go_enter Tryd.func19, Tryd.ntmps19
    go_wp2_with fail
    go_ret
    exact ⟨ret_bool (by unfold numB; rw [decide_eq_true h]; rfl), rfl⟩
  · go_enter Tryd.func19, Tryd.ntmps19
    go_wp2_with fail
    go_ret
    exact ⟨ret_bool (num_no1 (by omega)).symm, rfl⟩

set_option maxHeartbeats 1000000 in
theorem numbers_any (a b : Nat) (w : World) (ha : a ≤ 1000) (hb1 : b ≤ 1000) :
    Calls Tryd.prog 36 #[.int .i64 a, .int .i64 b] w fun e w' => (∃ v, e = .returned v ∧ OwnInts w' w.heap.size v (numL a b)) ∧ Below w.heap.size w w' := by
  obtain ⟨i0, hi, hz0, hz1, hz2⟩ := info_parts Tryd.info3
  go_enter Tryd.func36, Tryd.ntmps36
  go_wp2_with fail
  go_loopw [5, 6] (fun v i wr => ∃ (k : Nat), a ≤ k ∧ k ≤ 1000 ∧ (k ≤ b ∨ k = a) ∧ i = .int .i64 k ∧ OwnInts wr w.heap.size v (numL a k) ∧ Below w.heap.size w wr)
    (fun _ i _ => b - (intOf i).toNat)
  case atStart => exact ⟨a, by omega, by omega, .inr rfl, rfl, by rw [numL_nil (Nat.le_refl a)]; exact World.ownsRow_nil _ _ _ _, nwR w⟩
  case round =>
    obtain ⟨k, hak, hk1, hkb, rfl, hO, hb⟩ := hrel
    have HO : Hid (OwnInts wr w.heap.size u5 (numL a k)) := hO
    clear hO
    by_cases hkl : (k : Int) < (b : Int)
    · have HS : Hid (numL a (k + 1) = numL a k ++ [(k : Int)]) := numL_succ hak
      have hlt : (numL a k).length ≤ 1000 := by rw [numL_len]; omega
      generalize numL a k = ys at HO HS hlt
      have hsz : w.heap.size ≤ (wr.alloc (.cells #[.int .i64 (k : Int)] 3)).heap.size := (nwA hb _).size
      have hc3 : ys.length + 1 ≤ maxLen := by unfold maxLen; omega
      have hc4 : (ys.length + 1) * 8 ≤ 140737488355328 := by omega
      go_wp2_with (at_builtin; refine wpList_append_own _ rfl (.tmp 13) (.tmp 15) 24 rfl w.heap.size 3 i0 (.int .i64 0) 1 8 Tryd.underlying24 hi hz0 hz1 hz2 rfl (by decide) u5 ys.length (ys.map (.int .i64)) rfl (World.ownsRow.alloc HO.out _) ⟨wr.heap.size, 0, none⟩ 1 1 [.int .i64 (k : Int)] rfl rfl (cells_new _ [.int .i64 (k : Int)] _) (by simp [Value.oneCell']) hc3 hc4 hsz ?_; intro v' w3 hown hgrow _; refine unstop ?_)
      unfold Stop
      have HB3 : Hid (Below w.heap.size w w3) := (nwA hb _).grown hgrow (nwA hb _).size (fun q e => (HO.out.lt q e).1)
      have HO3 : Hid (OwnInts w3 w.heap.size v' (numL a (k + 1))) := by rw [HS.out]; exact OwnInts.snoc hown
      clear hown hgrow
      go_wp2_with fail
      go_roundw
      case rel => exact ⟨k + 1, by omega, by omega, .inl (by omega), by go_num, HO3.out, HB3.out⟩
      case measure => simp [intOf]; omega
    · have HOE : Hid (OwnInts wr w.heap.size u5 (numL a b)) := by
        have := HO.out
        rcases hkb with h | h
        · have e : k = b := by omega
          rw [e] at this; exact this
        · rw [h, numL_nil (Nat.le_refl a)] at this
          rw [numL_nil (by omega)]; exact this
      clear HO
      have h := HOE.out
      obtain ⟨av, cv, rfl, _⟩ := h.at
      go_wp2_with fail
      go_ret
      exact ⟨⟨_, rfl, HOE.out⟩, hb⟩

def evenTo (xs : List ByteArray) (k : Nat) : Bool := evenB (xs.take k)
theorem evenTo_succ {xs : List ByteArray} {k : Nat} (h : k < xs.length) : evenTo xs (k + 1) = (evenTo xs k && decide ((xs.getD k ByteArray.empty).size = 32)) := by
  unfold evenTo evenB
  rw [List.take_succ_eq_append_getElem h, List.all_append]
  simp [List.getD, h]
theorem even_no {xs : List ByteArray} {k : Nat} (h : k < xs.length) (hn : ¬ (xs.getD k ByteArray.empty).size = 32) : evenB xs = false := by
  unfold evenB
  rw [List.all_eq_false]
  refine ⟨xs[k], List.getElem_mem h, ?_⟩
  simpa [List.getD, h] using hn
set_option maxHeartbeats 1000000 in
theorem even_any (a : Option Addr) (xs : List ByteArray) (ca : Nat) (w : World) (hx : StrsAt w a xs) (hl : xs.length ≤ maxLen) :
    Calls Tryd.prog 48 #[.slice a xs.length ca] w fun e w' => e = .returned (.bool (evenB xs)) ∧ w' = w := by
  unfold maxLen at hl
  have HX : Hid (StrsAt w a xs) := hx
  clear hx
  go_enter Tryd.func48, Tryd.ntmps48
  go_wp2_with fail
  go_loop [4, 7] (fun p i => ∃ (k : Nat), k ≤ xs.length ∧ i = .int .i64 k ∧ Hid (evenTo xs k = true)) (fun _ i => xs.length - (intOf i).toNat)
  case atStart => exact ⟨0, by omega, rfl, rfl⟩
  case round =>
    obtain ⟨k, hk, rfl, HE⟩ := hrel
    by_cases hkl : k < xs.length
    · have hkli : (k : Int) < (xs.length : Int) := by omega
      obtain ⟨b1, o1, rfl, hc⟩ := HX.out.cell hkl
      have HS := evenTo_succ hkl
      by_cases h32 : (xs.getD k ByteArray.empty).size = 32
      · have HS' : Hid (evenTo xs (k + 1) = true) := by show _ = _; rw [HS, HE.out, decide_eq_true h32]; rfl
        have h32i : (((xs.getD k ByteArray.empty).size : Int) != 32) = false := by rw [h32]; rfl
        clear HS h32
        generalize xs.getD k ByteArray.empty = x at hc h32i
        go_wp2_with fail
        go_round
        case rel => exact ⟨k + 1, by omega, by go_num, HS'⟩
        case measure => simp [intOf]; omega
      · have HN : Hid (evenB xs = false) := even_no hkl h32
        have h32i : (((xs.getD k ByteArray.empty).size : Int) != 32) = true := by rw [bne_iff_ne]; omega
        clear HS h32
        generalize xs.getD k ByteArray.empty = x at hc h32i
        go_wp2_with fail
        go_ret
        exact ⟨by rw [HN.out]; rfl, rfl⟩
    · have hkli : ¬ (k : Int) < (xs.length : Int) := by omega
      have HF : Hid (evenB xs = true) := by have := HE.out; unfold evenTo at this; rw [List.take_of_length_le (by omega)] at this; exact this
      go_wp2_with fail
      go_ret
      exact ⟨by rw [HF.out]; rfl, rfl⟩

end Go.Proofs.YtifbnojkjbjngaaDoor
