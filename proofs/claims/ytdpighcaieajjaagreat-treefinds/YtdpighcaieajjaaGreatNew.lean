/- A new volume, by the page. -/
import Derived.Test.YtdpighcaieajjaaGreatVols
namespace Go.Proofs.YtdpighcaieajjaaGreat
open Go.RowKit

theorem heap_alloc_new2 (w : World) (o1 o2 : Obj) : ((w.alloc o1).alloc o2).heap[w.heap.size + 1]? = some o2 := by
  have := heap_alloc_new (w.alloc o1) o2
  simpa using this

set_option maxRecDepth 100000 in
set_option maxHeartbeats 1000000 in
theorem new_any (id : Int) (w : World) :
    Calls Tryz.prog 24 #[.int .i64 id] w fun e w' => (∃ u, e = .returned u ∧ OwnVol w' w.heap.size u ⟨id, 0, false, [⟨1, true, 0, [], []⟩], 2⟩) ∧ Below w.heap.size w w' := by
  go_enter Tryz.func24, Tryz.ntmps24
  go_wp2
  refine bodyPost_ret (v := .agg #[.int .i64 id, .int .i64 0, .bool false, .slice (some ⟨w.heap.size + 1, 0, none⟩) 1 1, .int .i64 2]) (by simp [results, Tryz.results24, go_sem]) rfl ⟨⟨_, rfl, _, rfl, ?_⟩, ?_⟩
  · refine ⟨[⟨⟨1, true, 0, [], []⟩, .slice none 0 0, .slice none 0 0⟩], rfl, ⟨rfl, .inr ⟨w.heap.size + 1, 1, _, rfl, by omega, heap_alloc_new2 w _ _, Nat.le_refl 1, by decide, rfl, rfl⟩⟩, fun g hg => ?_⟩
    obtain rfl : g = ⟨⟨1, true, 0, [], []⟩, .slice none 0 0, .slice none 0 0⟩ := by simpa using hg
    exact ⟨⟨rfl, .inl ⟨rfl, rfl⟩⟩, ⟨rfl, .inl ⟨rfl, rfl⟩⟩⟩
  · exact nwA (nwA (nwR w) _) _

end Go.Proofs.YtdpighcaieajjaaGreat
