/- Join and Pieces by the page. -/
import Derived.Test.YtifbnojkjbjngaaDoorRsize
namespace Go.Proofs.YtifbnojkjbjngaaDoor
open Go.RowKit

theorem cat_take_succ {xs : List ByteArray} {k : Nat} (h : k < xs.length) : cat (xs.take (k + 1)) = cat (xs.take k) ++ ls (xs.getD k ByteArray.empty) := by
  rw [List.take_succ_eq_append_getElem h, cat_append, cat_one]; simp [List.getD, h]
theorem cat_take_le (xs : List ByteArray) (k : Nat) : (cat (xs.take k)).length ≤ (cat xs).length := by
  have : cat xs = cat (xs.take k) ++ cat (xs.drop k) := by rw [← cat_append, List.take_append_drop]
  rw [this, List.length_append]; omega

set_option maxRecDepth 100000 in
set_option maxHeartbeats 2000000 in
theorem rjoin_any (a : Option Addr) (xs : List ByteArray) (ca : Nat) (n : Int) (w : World) (hx : StrsAt w a xs) (hm : mayB n xs = true) :
    Calls Tryd.prog 17 #[.int .i64 n, .slice a xs.length ca] w fun e w' => e = .returned (.string (bs (tx n xs))) ∧ w' = w := by
  obtain ⟨h0, h1, h2, _, _⟩ := mayB_parts hm
  obtain ⟨hl1, hl2, hl3⟩ := mayB_len hm
  obtain ⟨m, rfl⟩ : ∃ m : Nat, n = m := ⟨n.toNat, by omega⟩
  have HR : Hid ((bs (cat xs)).extract 0 m = bs (tx m xs)) := by show _ = _; rw [ext_left, ls_bs]; rfl
  have HX : Hid (StrsAt w a xs) := hx
  have hl7 : xs.length ≤ 7 := by omega
  have hl4 : m ≤ (cat xs).length := by simpa using hl2
  clear hx hm h2 hl1 hl2
  go_enter Tryd.func17, Tryd.ntmps17
  go_wp2_with fail
  go_loop [5, 6] (fun t i => ∃ (k : Nat) (s : ByteArray), k ≤ xs.length ∧ i = .int .i64 k ∧ t = .string s ∧ s.size ≤ 224 ∧ Hid (s = bs (cat (xs.take k)))) (fun _ i => xs.length - (intOf i).toNat)
  case atStart => exact ⟨0, ⟨#[]⟩, by omega, rfl, rfl, by decide, rfl⟩
  case round =>
    obtain ⟨k, s, hk, rfl, rfl, hs, HS⟩ := hrel
    by_cases hkl : k < xs.length
    · have hkli : (k : Int) < (xs.length : Int) := by omega
      obtain ⟨b1, o1, rfl, hc⟩ := HX.out.cell hkl
      have HS' : Hid (s ++ xs.getD k ByteArray.empty = bs (cat (xs.take (k + 1)))) := by
        show _ = _; rw [bs_app, HS.out, ls_bs, cat_take_succ hkl]
      have hsz : (s ++ xs.getD k ByteArray.empty).size ≤ 224 := by rw [HS'.out, bs_size]; have := cat_take_le xs (k + 1); omega
      have hsz2 : (s ++ xs.getD k ByteArray.empty).size = s.size + (xs.getD k ByteArray.empty).size := by rw [bs_app, bs_size, List.length_append, ls_size, ls_size]
      generalize xs.getD k ByteArray.empty = x at hc HS' hsz hsz2
      have hfit : ¬ 9223372036854775807 < s.size + x.size := by omega
      obtain ⟨Y, hY⟩ : ∃ Y, s ++ x = Y := ⟨_, rfl⟩
      rw [hY] at HS' hsz
      clear hsz2
      go_wp2_with fail
      go_round
      case rel => exact ⟨k + 1, Y, by omega, by go_num, rfl, hsz, HS'⟩
      case measure => simp [intOf]; omega
    · have hkli : ¬ (k : Int) < (xs.length : Int) := by omega
      have hse : s = bs (cat xs) := by have := HS.out; rw [List.take_of_length_le (by omega)] at this; exact this
      have hms : (m : Int) ≤ (s.size : Int) := by rw [hse, bs_size]; omega
      rw [← hse] at HR
      clear hse
      go_wp2_with fail
      go_ret
      exact ⟨ret_str HR.out, rfl⟩

theorem zeroB_last {xs : List ByteArray} {n : Nat} (he : evenB xs = true) (h0 : 0 < xs.length) (hn : xs.length = many n) : zeroB ((cat xs).drop n) = zeroB ((ls (xs.getD (xs.length - 1) ByteArray.empty)).drop (n - (xs.length - 1) * 32)) := by
  have e : cat xs = cat (xs.take (xs.length - 1)) ++ ls (xs.getD (xs.length - 1) ByteArray.empty) := by
    rw [← cat_take_succ (by omega), show xs.length - 1 + 1 = xs.length from by omega, List.take_of_length_le (Nat.le_refl _)]
  have hl : (cat (xs.take (xs.length - 1))).length = 32 * (xs.length - 1) := by
    rw [cat_len (fun x hx => evenB_mem he x (List.mem_of_mem_take hx)), List.length_take]; omega
  rw [e, List.drop_append, List.drop_eq_nil_of_le (by rw [hl]; unfold many at hn; omega), List.nil_append, hl, Nat.mul_comm 32]
theorem zeroB_no {l : List UInt8} {r i : Nat} (h : r ≤ i) (hi : i < l.length) (hz : ¬ l[i] = 0) : zeroB (l.drop r) = false := by
  unfold zeroB
  rw [List.all_eq_false]
  refine ⟨l[i], ?_, by simpa using hz⟩
  rw [List.mem_iff_getElem]
  exact ⟨i - r, by rw [List.length_drop]; omega, by rw [List.getElem_drop]; congr 1; omega⟩
theorem zeroB_yes {l : List UInt8} {r : Nat} (h : ∀ i, r ≤ i → (hi : i < l.length) → l[i] = 0) : zeroB (l.drop r) = true := by
  unfold zeroB
  rw [List.all_eq_true]
  intro x hx
  obtain ⟨j, hj, rfl⟩ := List.mem_iff_getElem.1 hx
  rw [List.getElem_drop]
  rw [List.length_drop] at hj
  simpa using h (r + j) (by omega) (by omega)

end Go.Proofs.YtifbnojkjbjngaaDoor
