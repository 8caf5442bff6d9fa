/- Numbers brought within bounds; whether a number is among others. -/
import Derived.Test.YtifbnojkjbjngaaDoorWakes
namespace Go.Proofs.YtifbnojkjbjngaaDoor
open Go.RowKit

def win (i : Int) (n : Nat) : Nat := ((i % 18446744073709551616) % (n : Int)).toNat
theorem win_lt {i : Int} {n : Nat} (h : 0 < n) : win i n < n := by
  unfold win
  have h1 := Int.emod_lt_of_pos (i % 18446744073709551616) (show (0 : Int) < n by omega)
  have h2 := Int.emod_nonneg (i % 18446744073709551616) (show (n : Int) ≠ 0 by omega)
  omega

set_option maxHeartbeats 400000 in
theorem within_any (i : Int) (n : Nat) (w : World) (h0 : 0 < n) (h1 : n ≤ 1000000) : Calls Tryd.prog 27 #[.int .i64 i, .int .i64 n] w fun e w' => e = .returned (.int .i64 (win i n)) ∧ w' = w := by
  have hw := win_lt (i := i) h0
  have HE : Hid ((i % 18446744073709551616) % (n : Int) = (win i n : Int)) := by
    show _ = _
    unfold win
    have h2 := Int.emod_nonneg (i % 18446744073709551616) (show (n : Int) ≠ 0 by omega)
    omega
  have hn0 : ¬ (n : Int) = 0 := by omega
  go_enter Tryd.func27, Tryd.ntmps27
  go_wp2
  go_ret
  refine ⟨ret_int ?_, rfl⟩
  rw [IntKind.wrap_u64, Int.tmod_eq_emod_of_nonneg (by omega), HE.out]
  unfold wrap64
  omega

def inI (l : List Int) (j : Int) : Int := match l.findIdx? (fun x => x == j) with
  | some k => k
  | none => -1
theorem inI_yes {l : List Int} {j : Int} {k : Nat} (hk : k < l.length) (h : l.getD k 0 = j) (hn : ∀ i, i < k → ¬ l.getD i 0 = j) : inI l j = k := by
  unfold inI
  have : l.findIdx? (fun x => x == j) = some k := by
    rw [List.findIdx?_eq_some_iff_getElem]
    refine ⟨hk, ?_, fun i hi => ?_⟩
    · simpa [List.getD, hk] using h
    · have := hn i hi
      simpa [List.getD, Nat.lt_trans hi hk] using this
  rw [this]
theorem inI_no {l : List Int} {j : Int} (hn : ∀ i, i < l.length → ¬ l.getD i 0 = j) : inI l j = -1 := by
  unfold inI
  have : l.findIdx? (fun x => x == j) = none := by
    rw [List.findIdx?_eq_none_iff]
    intro x hx
    obtain ⟨i, hi, rfl⟩ := List.getElem_of_mem hx
    have := hn i hi
    simpa [List.getD, hi] using this
  rw [this]
theorem inI_mem {l : List Int} {j : Int} (h : j ∈ l) : 0 ≤ inI l j := by
  unfold inI
  cases hf : l.findIdx? (fun x => x == j) with
  | some k => simp
  | none =>
    rw [List.findIdx?_eq_none_iff] at hf
    have := hf j h
    simp at this
theorem inI_not {l : List Int} {j : Int} (h : j ∉ l) : inI l j = -1 := by
  refine inI_no (fun i hi e => h ?_)
  rw [← e]
  simp [List.getD, hi]

set_option maxHeartbeats 1000000 in
theorem in_any (a : Option Addr) (xs : List Int) (ca : Nat) (j : Int) (w : World) (hx : IntsAt w a xs) (hl : xs.length ≤ maxLen) :
    Calls Tryd.prog 28 #[.slice a xs.length ca, .int .i64 j] w fun e w' => e = .returned (.int .i64 (inI xs j)) ∧ w' = w := by
  unfold maxLen at hl
  have HX : Hid (IntsAt w a xs) := hx
  clear hx
  go_enter Tryd.func28, Tryd.ntmps28
  go_wp2_with fail
  go_loop [5] (fun i => ∃ (k : Nat), k ≤ xs.length ∧ i = .int .i64 k ∧ Hid (∀ i, i < k → ¬ xs.getD i 0 = j)) (fun i => xs.length - (intOf i).toNat)
  case atStart => exact ⟨0, by omega, rfl, fun i hi => by omega⟩
  case round =>
    obtain ⟨k, hk, rfl, HN⟩ := hrel
    by_cases hkl : k < xs.length
    · have hkli : (k : Int) < (xs.length : Int) := by omega
      obtain ⟨b1, o1, rfl, hc⟩ := HX.out.cell hkl
      by_cases he : xs.getD k 0 = j
      · have HR : Hid (inI xs j = k) := inI_yes hkl he HN.out
        rw [he] at hc
        go_wp2_with fail
        go_ret
        exact ⟨by rw [HR.out]; rfl, rfl⟩
      · have HN' : Hid (∀ i, i < k + 1 → ¬ xs.getD i 0 = j) := fun i hi => by
          by_cases e : i = k
          · subst e; exact he
          · exact HN.out i (by omega)
        generalize xs.getD k 0 = x at hc he
        have heb : (x == j) = false := beq_eq_false_iff_ne.2 he
        clear he
        go_wp2_with fail
        go_round
        case rel => exact ⟨k + 1, by omega, by go_num, HN'⟩
        case measure => simp [intOf]; omega
    · have hkli : ¬ (k : Int) < (xs.length : Int) := by omega
      have HR : Hid (inI xs j = -1) := inI_no (fun i hi => HN.out i (by omega))
      go_wp2_with fail
      go_ret
      exact ⟨by rw [HR.out]; rfl, rfl⟩

end Go.Proofs.YtifbnojkjbjngaaDoor
