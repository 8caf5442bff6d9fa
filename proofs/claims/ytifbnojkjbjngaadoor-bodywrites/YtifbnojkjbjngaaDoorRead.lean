/- Cut, Join, Read by the program. -/
import Derived.Test.YtifbnojkjbjngaaDoorOpent
namespace Go.Proofs.YtifbnojkjbjngaaDoor
open Go.RowKit

theorem cat_one (s : ByteArray) : cat [s] = ls s := by simp [cat]

def CutPost (s : ByteArray) (w : World) (e : Ending) (w' : World) : Prop := (∃ v, e = .returned (.tuple #[v, .int .i64 (if s.size ≤ 200 then 0 else 2)]) ∧ OwnStrs w' w.heap.size v (if s.size ≤ 200 then pcs (ls s) else [])) ∧ Below w.heap.size w w'
set_option maxHeartbeats 1000000 in
theorem bcut_any (s : ByteArray) (w : World) : Calls Tryd.prog 9 #[.string s] w (CutPost s w) := by
  by_cases h : (200 : Int) < (s.size : Int)
  · have HN : Hid (¬ s.size ≤ 200) := by show ¬ _; omega
    go_enter Tryd.func9, Tryd.ntmps9
    go_wp2_with fail
    go_ret2
    refine ⟨⟨.slice none 0 0, by rw [if_neg HN.out]; rfl, ?_⟩, nwR _⟩
    rw [if_neg HN.out]; exact World.ownsRow_nil _ _ _ _
  · have HN : Hid (s.size ≤ 200) := by show _ ≤ _; omega
    go_enter Tryd.func9, Tryd.ntmps9
    go_wp2_with fail
    refine (cut_any (some ⟨w.heap.size, 0, none⟩) [s] 1 _ (StrsAt.of_alloc rfl) (Nat.le_refl _) (by simp) (by rw [cat_one, ls_size]; have := HN.out; omega)).mono ?_
    rintro e w1 ⟨⟨v, rfl, ho⟩, hb1⟩
    have HB : Hid (Below w.heap.size w w1) := nwT (nwA (nwR w) _) hb1
    have HO : Hid (OwnStrs w1 w.heap.size v (pcs (ls s))) := by rw [cat_one] at ho; exact ho.le (by simp)
    obtain ⟨av, cv, rfl, _⟩ := HO.out.at
    clear ho hb1
    go_wp2_with fail
    go_ret2
    refine ⟨⟨.slice av (pcs (ls s)).length cv, by rw [if_pos HN.out]; rfl, ?_⟩, HB.out⟩
    rw [if_pos HN.out]; exact HO.out

/- what Join tells -/
def joined (n : Int) (xs : List ByteArray) : Array Value := if mayB n xs then #[.string (bs (tx n xs)), .int .i64 0] else #[.string ⟨#[]⟩, .int .i64 1]
set_option maxHeartbeats 1000000 in
theorem bjoin_any (a : Option Addr) (xs : List ByteArray) (ca : Nat) (n : Int) (w : World) (hx : StrsAt w a xs) (hcap : xs.length ≤ ca) (hl : xs.length ≤ maxLen) :
    Calls Tryd.prog 16 #[.int .i64 n, .slice a xs.length ca] w fun e w' => e = .returned (.tuple (joined n xs)) ∧ Below w.heap.size w w' := by
  cases hM : mayB n xs
  · have HV : Hid (joined n xs = #[.string ⟨#[]⟩, .int .i64 1]) := by show _ = _; unfold joined; rw [hM]; rfl
    have HW : Hid (opened n a xs ca = #[.agg #[.slice none 0 0, .int .i64 0], .int .i64 1]) := by show _ = _; unfold opened; rw [hM]; rfl
    go_enter Tryd.func16, Tryd.ntmps16
    go_wp2_with fail
    refine (open_any a xs ca n _ hx hcap hl).mono ?_
    rintro e w1 ⟨rfl, hb1⟩
    rw [HW.out]
    go_wp2_with fail
    go_ret2
    exact ⟨by rw [HV.out]; rfl, nwA hb1 _⟩
  · have HV : Hid (joined n xs = #[.string (bs (tx n xs)), .int .i64 0]) := by show _ = _; unfold joined; rw [hM]; rfl
    have HW : Hid (opened n a xs ca = #[.agg #[.slice a xs.length ca, .int .i64 n], .int .i64 0]) := by show _ = _; unfold opened; rw [hM]; rfl
    go_enter Tryd.func16, Tryd.ntmps16
    go_wp2_with fail
    refine (open_any a xs ca n _ hx hcap hl).mono ?_
    rintro e w1 ⟨rfl, hb1⟩
    rw [HW.out]
    go_wp2_with fail
    have hb2 := nwA hb1 (.cells #[.slice a xs.length ca, .int .i64 n] 61)
    refine (bytes_any a xs ca n _ (hx.below hb2) hcap hM).mono ?_
    rintro e w2 ⟨rfl, hb3⟩
    go_wp2_with fail
    go_ret2
    exact ⟨by rw [HV.out]; rfl, nwT hb2 hb3⟩

end Go.Proofs.YtifbnojkjbjngaaDoor
