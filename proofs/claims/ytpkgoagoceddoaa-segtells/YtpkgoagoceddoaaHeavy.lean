/- Heavy and wakes, by their contracts. -/
import Derived.Test.YtpkgoagoceddoaaEq
namespace Go.Proofs.Ytpkgoagoceddoaa
open Go.RowKit

def small (ls : List RowV) (nl : Nat) : Prop := ls.length + nl ≤ 500 ∧ ∀ i, i < ls.length → (ls.getD i row0).2.2.length ≤ 500

def HvPost (ls : List RowV) (nl : Nat) (w : World) (e : Ending) (w' : World) : Prop := ∃ q : Bool, e = .returned (.bool q) ∧ Below w.heap.size w w' ∧ (q = false → small ls nl)

set_option maxRecDepth 100000 in
set_option maxHeartbeats 400000 in
theorem heavy_any (a b : Option Addr) (ls : List RowV) (ca nl cb : Nat) (w : World) (hs : RowsAt w a ls) (hl : ls.length ≤ 140737488351232) (hn : nl ≤ 140737488351232) (hr : ∀ i, i < ls.length → (ls.getD i row0).2.2.length ≤ 140737488351232) :
    Calls Try.prog 8 #[.agg #[.slice a ls.length ca, .slice b nl cb]] w (HvPost ls nl w) := by
  have HS : Hid (RowsAt w a ls) := hs
  have HR : Hid (∀ i, i < ls.length → (ls.getD i row0).2.2.length ≤ 140737488351232) := hr
  clear hs hr
  go_enter Try.func8, Try.ntmps8
  go_wp2_with fail
  go_loop [3, 4] (fun n i => ∃ (k t : Nat), k ≤ ls.length ∧ i = .int .i64 k ∧ n = .int .i64 t ∧ t ≤ 1000000000000000 ∧ ls.length + nl ≤ t ∧ Hid (∀ j, j < k → (ls.getD j row0).2.2.length ≤ t))
    (fun _ i => ls.length - (intOf i).toNat)
  case atStart => exact ⟨0, ls.length + nl, by omega, rfl, by go_num, by omega, by omega, fun j hj => by omega⟩
  case round =>
    obtain ⟨k, t, hk, rfl, rfl, ht, hlt, HT⟩ := hrel
    by_cases hkl : k < ls.length
    · by_cases ht2 : (t : Int) < 1048576
      · obtain ⟨b1, o1, rfl, h1, _, _⟩ := ((HS.out).below (nwA (nwR w) (.cells #[.slice a ls.length ca, .slice b nl cb] 25)) (Nat.le_refl _)) k hkl
        have hr := HR.out k hkl
        have HT' : Hid (∀ j, j < k + 1 → (ls.getD j row0).2.2.length ≤ t + (ls.getD k row0).2.2.length) := fun j hj => by
          by_cases e : j = k
          · subst e; omega
          · have := HT.out j (by omega); omega
        generalize (ls.getD k row0).2.2.length = q at h1 hr HT'
        go_wp2_with fail
        go_round
        case rel => exact ⟨k + 1, t + q, by omega, by go_num, by go_num, by omega, by omega, HT'⟩
        case measure => simp [intOf]; omega
      · go_wp2_with fail
        go_ret
        exact ⟨_, rfl, nwA (nwR w) _, fun h => by simp at h; omega⟩
    · have HE : Hid (t ≤ 500 → small ls nl) := fun h => ⟨by omega, fun i hi => by have := HT.out i (by omega); omega⟩
      go_wp2_with fail
      go_ret
      exact ⟨_, rfl, nwA (nwR w) _, fun h => HE.out (by simp at h; omega)⟩

end Go.Proofs.Ytpkgoagoceddoaa
