/- Write and Size once more, with what they tell named. -/
import Derived.Test.YtifbnojkjbjngaaDoorBackm
namespace Go.Proofs.YtifbnojkjbjngaaDoor
open Go.RowKit

def TellIs (M : Int) (X : List ByteArray) (F : List Int) (E : Int) (w : World) (e : Ending) (w' : World) : Prop :=
  (∃ a1 c1 a2 c2, e = .returned (.tuple #[.int .i64 M, .slice a1 X.length c1, .slice a2 F.length c2, .int .i64 E]) ∧ (StrsAt w' a1 X ∧ CapOk a1 c1 X.length ∧ OwnStrs w' w.heap.size (.slice a1 X.length c1) X) ∧ (IntsAt w' a2 F ∧ CapOk a2 c2 F.length)) ∧ Below w.heap.size w w'
theorem told_is {r : Tell} {M : Int} {X : List ByteArray} {F : List Int} {E : Int} {w : World} {e : Ending} {w' : World} (hr : r = (M, X, F, E)) (h : Told r w e w') : TellIs M X F E w e w' := by
  subst hr
  obtain ⟨⟨v1, v2, rfl, ho1, ho2⟩, hb⟩ := h
  obtain ⟨a1, c1, rfl, hs, hc⟩ := cap_of ho1
  obtain ⟨a2, c2, rfl, hi, hd⟩ := OwnInts.at ho2
  exact ⟨⟨a1, c1, a2, c2, rfl, ⟨hs, hc, ho1⟩, hi, hd⟩, hb⟩
theorem write_is (a : Option Addr) (xs : List ByteArray) (k ca : Nat) (n x : Int) (t : ByteArray) (w : World) (hk : xs.length = k) (hx : StrsAt w a xs) (hcap : k ≤ ca) (hl : k ≤ 1000000) (ht : t.size ≤ 1000000) (M : Int) (X : List ByteArray) (F : List Int) (E : Int) (hr : written n xs x t = (M, X, F, E)) :
    Calls Tryd.prog 24 #[.int .i64 n, .slice a k ca, .int .i64 x, .string t] w (TellIs M X F E w) := by
  subst hk
  exact (write_any a xs ca n x t w hx hcap (by unfold maxLen; omega) ht).mono fun _ _ h => told_is hr h
theorem size_is (a : Option Addr) (xs : List ByteArray) (k ca : Nat) (n x : Int) (w : World) (hk : xs.length = k) (hx : StrsAt w a xs) (hcap : k ≤ ca) (hl : k ≤ 1000000) (M : Int) (X : List ByteArray) (F : List Int) (E : Int) (hr : sized n xs x = (M, X, F, E)) :
    Calls Tryd.prog 21 #[.int .i64 n, .slice a k ca, .int .i64 x] w (TellIs M X F E w) := by
  subst hk
  exact (size_any a xs ca n x w hx hcap (by unfold maxLen; omega)).mono fun _ _ h => told_is hr h

end Go.Proofs.YtifbnojkjbjngaaDoor
