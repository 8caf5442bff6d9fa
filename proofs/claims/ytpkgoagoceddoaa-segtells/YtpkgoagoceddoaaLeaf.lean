/- The small methods of package seg, each by its contract. -/
import Derived.Test.YtpkgoagoceddoaaProg
import Derived.WalkKit
import Derived.WalkSpells
import Derived.WalkLawsBesides
namespace Go.Proofs.Ytpkgoagoceddoaa
open Go.RowKit

theorem nwT {a b c : World} (h : Below a.heap.size a b) (k : Below b.heap.size b c) : Below a.heap.size a c := h.trans (k.mono h.size)
theorem nwA {a w : World} (h : Below a.heap.size a w) (o : Obj) : Below a.heap.size a (w.alloc o) := h.alloc h.size o
theorem nwR (a : World) : Below a.heap.size a a := Below.refl _ _

def mayB (a n : Int) : Bool := decide (0 ≤ a) && decide (a < 64) && decide (1 ≤ n) && decide (n ≤ 64 - a)

set_option maxHeartbeats 400000 in
theorem end_any (a n : Int) (w : World) (h0 : 0 ≤ a) (h1 : a ≤ 64) (h2 : 0 ≤ n) (h3 : n ≤ 64) :
    Calls Try.prog 33 #[.agg #[.int .i64 a, .int .i64 n]] w fun e w' => e = .returned (.int .i64 (a + n)) ∧ Below w.heap.size w w' := by
  go_enter Try.func33, Try.ntmps33
  go_wp2
  go_ret
  exact ⟨rfl, (Below.refl _ _).alloc (Nat.le_refl _) _⟩

set_option maxHeartbeats 400000 in
theorem mayBe_any (a n : Int) (w : World) :
    Calls Try.prog 35 #[.agg #[.int .i64 a, .int .i64 n]] w fun e w' => e = .returned (.bool (mayB a n)) ∧ Below w.heap.size w w' := by
  unfold mayB
  by_cases h0 : 0 ≤ a
  · by_cases h1 : a < 64
    · by_cases h2 : 1 ≤ n
      · by_cases h3 : n ≤ 64 - a
        all_goals
          go_enter Try.func35, Try.ntmps35
          go_wp2
          go_ret
          exact ⟨(by simp [*] <;> omega), (Below.refl _ _).alloc (Nat.le_refl _) _⟩
      · go_enter Try.func35, Try.ntmps35
        go_wp2
        go_ret
        exact ⟨(by simp [*] <;> omega), (Below.refl _ _).alloc (Nat.le_refl _) _⟩
    · go_enter Try.func35, Try.ntmps35
      go_wp2
      go_ret
      exact ⟨(by simp [*] <;> omega), (Below.refl _ _).alloc (Nat.le_refl _) _⟩
  · go_enter Try.func35, Try.ntmps35
    go_wp2
    go_ret
    exact ⟨(by simp [*] <;> omega), (Below.refl _ _).alloc (Nat.le_refl _) _⟩

end Go.Proofs.Ytpkgoagoceddoaa
