/- The face of package name, by its contracts: Split, Path. -/
import Derived.Test.YtdpighcaieajjaaGreatRead
namespace Go.Proofs.YtdpighcaieajjaaGreat
open Go.RowKit

def SplitIs (s : ByteArray) (w : World) (e : Ending) (w' : World) : Prop :=
  (∃ xs v, pathN s = some xs ∧ e = .returned (.tuple #[v, .int .i64 0]) ∧ OwnStrs w' w.heap.size v xs) ∨
  (pathN s = none ∧ e = .returned (.tuple #[.slice none 0 0, .int .i64 1]))

set_option maxRecDepth 100000 in
set_option maxHeartbeats 1000000 in
theorem split_any (s : ByteArray) (w : World) :
    Calls Tryz.prog 80 #[.string s] w fun e w' => SplitIs s w e w' ∧ Below w.heap.size w w' := by
  go_enter Tryz.func80, Tryz.ntmps80
  go_wp2_with fail
  refine (read_any s _).mono ?_
  rintro e w1 ⟨hR, hb⟩
  have HB : Hid (Below w.heap.size w w1) := hb
  rcases hR with ⟨xs, v, hp, rfl, ho⟩ | ⟨hp, rfl⟩
  · have HP : Hid (pathN s = some xs) := hp
    have HO : Hid (OwnStrs w1 w.heap.size v xs) := ho
    obtain ⟨a, cap, rfl, _⟩ := ho.at
    clear hp ho hb
    go_wp2_with fail
    go_ret2
    exact ⟨.inl ⟨xs, _, HP.out, rfl, HO.out.below (nwA (nwR _) _)⟩, nwA HB.out _⟩
  · have HP : Hid (pathN s = none) := hp
    clear hp hb
    go_wp2_with fail
    go_ret2
    exact ⟨.inr ⟨HP.out, rfl⟩, nwA HB.out _⟩

set_option maxRecDepth 100000 in
set_option maxHeartbeats 1000000 in
theorem path_any (s : ByteArray) (w : World) :
    Calls Tryz.prog 78 #[.string s] w fun e w' => e = .returned (.int .i64 (errI (pathN s).isSome)) ∧ Below w.heap.size w w' := by
  go_enter Tryz.func78, Tryz.ntmps78
  go_wp2_with fail
  refine (read_any s _).mono ?_
  rintro e w1 ⟨hR, hb⟩
  have HB : Hid (Below w.heap.size w w1) := hb
  rcases hR with ⟨xs, v, hp, rfl, ho⟩ | ⟨hp, rfl⟩
  · have HP : Hid (pathN s = some xs) := hp
    obtain ⟨a, cap, rfl, _⟩ := ho.at
    clear hp ho hb
    go_wp2_with fail
    go_ret
    exact ⟨ret_int (by rw [HP.out]; rfl), nwA HB.out _⟩
  · have HP : Hid (pathN s = none) := hp
    clear hp hb
    go_wp2_with fail
    go_ret
    exact ⟨ret_int (by rw [HP.out]; rfl), nwA HB.out _⟩

end Go.Proofs.YtdpighcaieajjaaGreat
