/- A text opened. -/
import Derived.Test.YtifbnojkjbjngaaDoorMayb
namespace Go.Proofs.YtifbnojkjbjngaaDoor
open Go.RowKit

theorem two {w : World} {g : Nat} {c0 c1 : Value} {t : TypeId} (h : w.heap[g]? = some (.cells #[c0, c1] t (0, 0))) :
    w.cell? ⟨g, 0, none⟩ = some c0 ∧ w.cell? ⟨g, 1, none⟩ = some c1 ∧ ∀ o, w.frozen? ⟨g, o, none⟩ = false :=
  ⟨by rw [Lib.cell_of_heap h]; rfl, by rw [Lib.cell_of_heap h]; rfl, fun o => Lib.frozen_of_heap h o⟩
theorem two_0 (w : World) (a b : Obj) : ((w.alloc a).alloc b).heap[w.heap.size]? = some a := by
  rw [Lib.alloc_old _ _ _ (by simp)]
  exact heap_alloc_new w a
theorem two_1 (w : World) (a b : Obj) : ((w.alloc a).alloc b).heap[w.heap.size + 1]? = some b := by
  have := heap_alloc_new (w.alloc a) b
  simpa using this

def opened (n : Int) (a : Option Addr) (xs : List ByteArray) (ca : Nat) : Array Value := if mayB n xs then #[.agg #[.slice a xs.length ca, .int .i64 n], .int .i64 0] else #[.agg #[.slice none 0 0, .int .i64 0], .int .i64 1]

set_option maxHeartbeats 1000000 in
theorem open_any (a : Option Addr) (xs : List ByteArray) (ca : Nat) (n : Int) (w : World) (hx : StrsAt w a xs) (hcap : xs.length ≤ ca) (hl : xs.length ≤ maxLen) :
    Calls Tryd.prog 33 #[.int .i64 n, .slice a xs.length ca] w fun e w' => e = .returned (.tuple (opened n a xs ca)) ∧ Below w.heap.size w w' := by
  go_enter Tryd.func33, Tryd.ntmps33
  go_wp2_with fail
  have HBW : Hid (Below w.heap.size w ((w.alloc (.cells #[.slice none 0 0, .int .i64 0] 61)).alloc (.cells #[.slice a xs.length ca, .int .i64 n] 61))) := nwA (nwA (nwR w) _) _
  refine (mayBe_any a xs ca n _ (hx.below HBW.out) hcap hl).mono ?_
  rintro e w1 ⟨rfl, hb1⟩
  obtain ⟨r0, r1, rf⟩ := two ((hb1.block _ (by simp; omega)).trans (two_0 w _ _))
  obtain ⟨q0, q1, qf⟩ := two ((hb1.block _ (by simp)).trans (two_1 w _ _))
  have hbw := nwT HBW.out hb1
  clear hb1 HBW
  cases hM : mayB n xs
  · have HV : Hid (opened n a xs ca = #[.agg #[.slice none 0 0, .int .i64 0], .int .i64 1]) := by show _ = _; unfold opened; rw [hM]; rfl
    go_wp2_with fail
    refine bodyPost_ret (v := .tuple #[.agg #[.slice none 0 0, .int .i64 0], .int .i64 1]) (by simp [results, go_sem, r0, r1]) rfl ⟨by rw [HV.out], ?_⟩
    exact (hbw.setCell (p := ⟨w.heap.size, 0, none⟩) (Nat.le_refl _) _).setCell (p := ⟨w.heap.size, 1, none⟩) (Nat.le_refl _) _
  · have HV : Hid (opened n a xs ca = #[.agg #[.slice a xs.length ca, .int .i64 n], .int .i64 0]) := by show _ = _; unfold opened; rw [hM]; rfl
    go_wp2_with fail
    refine bodyPost_ret (v := .tuple #[.agg #[.slice a xs.length ca, .int .i64 n], .int .i64 0]) (by simp [results, go_sem, r0, r1]) rfl ⟨by rw [HV.out], ?_⟩
    exact (hbw.setCell (p := ⟨w.heap.size, 0, none⟩) (Nat.le_refl _) _).setCell (p := ⟨w.heap.size, 1, none⟩) (Nat.le_refl _) _

end Go.Proofs.YtifbnojkjbjngaaDoor
