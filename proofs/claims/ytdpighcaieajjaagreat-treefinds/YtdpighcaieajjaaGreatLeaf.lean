/- The leaves: which bytes may stand in a name; what a name is, by the program and by the page. -/
import Derived.Test.YtdpighcaieajjaaGreatShelf
import Derived.Test.YtdpighcaieajjaaGreatMath
import Derived.WalkKit
import Derived.WalkSpells
import Derived.WalkLawsBesides
namespace Go.Proofs.YtdpighcaieajjaaGreat
open Go.RowKit

theorem nwT {a b c : World} (h : Below a.heap.size a b) (k : Below b.heap.size b c) : Below a.heap.size a c := h.trans (k.mono h.size)
theorem nwA {a w : World} (h : Below a.heap.size a w) (o : Obj) : Below a.heap.size a (w.alloc o) := h.alloc h.size o
theorem nwR (a : World) : Below a.heap.size a a := Below.refl _ _

def Stop (p : Prop) : Prop := p
theorem unstop {p : Prop} (h : Stop p) : p := h

theorem idx3 (c : UInt8) : (0 ≤ Lib.indexByte [46, 95, 45] c) ↔ ((c.toNat : Int) = 46 ∨ (c.toNat : Int) = 95 ∨ (c.toNat : Int) = 45) := by
  have e : ∀ k : UInt8, (k == c) = decide ((c.toNat : Int) = (k.toNat : Int)) := by
    intro k; rw [Bool.eq_iff_iff]; simp [← UInt8.toNat_inj]; omega
  simp only [Lib.indexByte, e]
  have k1 : ((46 : UInt8).toNat : Int) = 46 := rfl
  have k2 : ((95 : UInt8).toNat : Int) = 95 := rfl
  have k3 : ((45 : UInt8).toNat : Int) = 45 := rfl
  rw [k1, k2, k3]
  by_cases h1 : (c.toNat : Int) = 46
  · simp [h1]
  · by_cases h2 : (c.toNat : Int) = 95
    · simp [h2]
    · by_cases h3 : (c.toNat : Int) = 45
      · simp [h3]
      · simp [h1, h2, h3]

theorem ret_bool {a b : Bool} (h : a = b) : Ending.returned (.bool a) = .returned (.bool b) := by rw [h]
theorem ret_int {k : IntKind} {a b : Int} (h : a = b) : Ending.returned (.int k a) = .returned (.int k b) := by rw [h]

set_option maxRecDepth 100000 in
set_option maxHeartbeats 400000 in
theorem mayStand_any (c : UInt8) (w : World) :
    Calls Tryz.prog 140 #[.int .u8 c.toNat] w fun e w' => e = .returned (.bool (byI c.toNat)) ∧ w' = w := by
  have H3 : Hid ((0 ≤ Lib.indexByte [46, 95, 45] c) ↔ ((c.toNat : Int) = 46 ∨ (c.toNat : Int) = 95 ∨ (c.toNat : Int) = 45)) := idx3 c
  go_enter Tryz.func140, Tryz.ntmps140
  go_wp2_with (go_at_call 127; refine (Tryz.strings_IndexByte _ _ _).mono ?_; rintro e w' ⟨rfl, rfl⟩)
  all_goals go_ret
  all_goals have h3 := H3.out
  all_goals
    refine ⟨ret_bool ?_, rfl⟩
    rw [Bool.eq_iff_iff]
    simp [byI, h3]
    try omega

def errI (b : Bool) : Int := if b then 0 else 1
theorem errI_t : errI true = 0 := rfl
theorem errI_f : errI false = 1 := rfl

def okTo (s : ByteArray) (k : Nat) : Bool := ((ls s).take k).all fun c => byI c.toNat
theorem okTo_succ (s : ByteArray) (k : Nat) (h : k < s.size) : okTo s (k + 1) = (okTo s k && byI s[k].toNat) := by
  unfold okTo
  have hl : k < (ls s).length := by rw [ls_size]; exact h
  rw [List.take_succ_eq_append_getElem hl, List.all_append]
  simp [ls]; rfl
theorem okTo_le (s : ByteArray) {k n : Nat} (hk : k ≤ n) (h : okTo s k = false) : okTo s n = false := by
  unfold okTo at *
  rw [List.all_eq_false] at *
  obtain ⟨x, hx, hb⟩ := h
  exact ⟨x, (List.take_subset_take_left (ls s) hk) hx, hb⟩
theorem nm_eq (s : ByteArray) : nm s = (decide (1 ≤ s.size) && decide (s.size ≤ 8) && !decide (s.toList = [46]) && !decide (s.toList = [46, 46]) && okTo s s.size) := by
  unfold nm nmL okTo
  rw [ls_size, List.take_of_length_le (by rw [ls_size]; exact Nat.le_refl _), Lib.toList_data]; rfl

theorem nm_no {s : ByteArray} (h : s.size < 1 ∨ 8 < s.size ∨ s.toList = [46] ∨ s.toList = [46, 46]) : nm s = false := by
  rw [nm_eq]
  rcases h with h | h | h | h
  · rw [decide_eq_false (by omega : ¬ 1 ≤ s.size)]; rfl
  · rw [decide_eq_false (by omega : ¬ s.size ≤ 8)]; simp
  · rw [h]; simp
  · rw [h]; simp
theorem nm_yes {s : ByteArray} (h1 : ¬ s.size < 1) (h2 : ¬ 8 < s.size) (h3 : ¬ s.toList = [46]) (h4 : ¬ s.toList = [46, 46]) : nm s = okTo s s.size := by
  rw [nm_eq, decide_eq_true (by omega : 1 ≤ s.size), decide_eq_true (by omega : s.size ≤ 8), decide_eq_false h3, decide_eq_false h4]; simp

set_option maxRecDepth 100000 in
set_option maxHeartbeats 400000 in
theorem check_any (s : ByteArray) (w : World) :
    Calls Tryz.prog 128 #[.string s] w fun e w' => e = .returned (.int .i64 (errI (nm s))) ∧ w' = w := by
  by_cases hh : s.size < 1 ∨ 8 < s.size ∨ s.toList = [46] ∨ s.toList = [46, 46]
  · have HN : Hid (nm s = false) := nm_no hh
    rcases hh with h | h | h | h
    · have h1 : (s.size : Int) < 1 := by omega
      go_enter Tryz.func128, Tryz.ntmps128
      go_wp2_with fail
      go_ret
      exact ⟨ret_int (by rw [HN.out]; rfl), rfl⟩
    · have h1 : (8 : Int) < s.size := by omega
      have h2 : ¬ (s.size : Int) < 1 := by omega
      go_enter Tryz.func128, Tryz.ntmps128
      go_wp2_with fail
      go_ret
      exact ⟨ret_int (by rw [HN.out]; rfl), rfl⟩
    · have h1 : s.size = 1 := by rw [← ls_size, ls, ← Lib.toList_data, h]; rfl
      have h2 : (s.size : Int) = 1 := by omega
      go_enter Tryz.func128, Tryz.ntmps128
      go_wp2_with fail
      all_goals go_ret
      all_goals exact ⟨ret_int (by rw [HN.out]; rfl), rfl⟩
    · have h1 : s.size = 2 := by rw [← ls_size, ls, ← Lib.toList_data, h]; rfl
      have h2 : (s.size : Int) = 2 := by omega
      have h3 : ¬ s.toList = [46] := by rw [h]; decide
      go_enter Tryz.func128, Tryz.ntmps128
      go_wp2_with fail
      all_goals go_ret
      all_goals exact ⟨ret_int (by rw [HN.out]; rfl), rfl⟩
  · have h1 : ¬ s.size < 1 := fun h => hh (.inl h)
    have h2 : ¬ 8 < s.size := fun h => hh (.inr (.inl h))
    have h3 : ¬ s.toList = [46] := fun h => hh (.inr (.inr (.inl h)))
    have h4 : ¬ s.toList = [46, 46] := fun h => hh (.inr (.inr (.inr h)))
    have HN : Hid (nm s = okTo s s.size) := nm_yes h1 h2 h3 h4
    have g1 : ¬ (s.size : Int) < 1 := by omega
    have g2 : ¬ (8 : Int) < s.size := by omega
    have g3 : (s.toList == [46]) = false := by simpa using h3
    have g4 : (s.toList == [46, 46]) = false := by simpa using h4
    clear hh h3 h4
    go_enter Tryz.func128, Tryz.ntmps128
    go_wp2_with fail
    go_loop [22] (fun i => ∃ k : Nat, k ≤ s.size ∧ i = .int .i64 k ∧ okTo s k = true) (fun i => s.size - (intOf i).toNat)
    case atStart => exact ⟨0, Nat.zero_le _, rfl, by simp [okTo]⟩
    case round =>
      obtain ⟨k, hk, rfl, hok⟩ := hrel
      have HO : Hid (okTo s k = true) := hok
      clear hok
      by_cases hlt : k < s.size
      · have HS : Hid (okTo s (k + 1) = (okTo s k && byI s[k].toNat)) := okTo_succ s k hlt
        cases hb : byI s[k].toNat
        all_goals
          go_wp2_with (go_at_call 140; refine (mayStand_any _ _).mono ?_; rintro e w' ⟨rfl, rfl⟩)
        · go_ret
          refine ⟨ret_int ?_, rfl⟩
          rw [HN.out, okTo_le s (k := k + 1) hlt (by rw [HS.out, hb]; simp)]; rfl
        · go_round
          case rel => exact ⟨k + 1, hlt, by go_num, by rw [HS.out, HO.out, hb]; rfl⟩
          case measure => simp [intOf]; omega
      · have hke : k = s.size := by omega
        go_wp2_with fail
        go_ret
        refine ⟨ret_int ?_, rfl⟩
        rw [HN.out, ← hke, HO.out]; rfl

end Go.Proofs.YtdpighcaieajjaaGreat
