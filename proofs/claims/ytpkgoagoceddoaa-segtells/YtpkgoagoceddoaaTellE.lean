/- The argument of the law SegTells, opened. -/
import Derived.Test.YtpkgoagoceddoaaOpen
namespace Go.Proofs.Ytpkgoagoceddoaa
open Go.ChangeShapes Go.WideShapes Go.ChangeAt Go.RowKit Go.Deep Go.Joins

section
variable {H : Type} {enc : TypeId × Value → H} {W : World}

theorem open_nums2 {n : Nat} {v : Value} {y : DataW H × List MemPlace} (h : DataW.trod enc Try.prog W 0 (fun _ => true) true n 23 [v] = some y) (hw : ∀ x ∈ y.1.weights Try.prog 23, x ≤ reachBytes) :
    ∃ (a : Option Addr) (ns : List Int) (ca : Nat), v = .slice a ns.length ca ∧ IntsAt W a ns ∧ (a = none → ca = 0 ∧ ns = []) ∧ ns.length ≤ 140737488351232 := by
  rcases open_ints Try.underlying23 Try.underlying3 Try.cells3 h with ⟨hcs, _⟩ | ⟨a, len, cap, zs, hcs, _, hl, hm, hz, hx, hc, _⟩
  · refine ⟨none, [], 0, by simpa using hcs, fun i hi => by simp at hi, fun _ => ⟨rfl, rfl⟩, by simp⟩
  · simp at hz
    have hx1 : y.1 = .slice (lits .i64 (zs.take len)) (lits .i64 (zs.drop len)) := by rw [hx]
    refine ⟨some a, zs.take len, cap, ?_, ?_, fun h => (by cases h), ?_⟩
    · have : min len zs.length = len := by omega
      simpa [this] using hcs
    · intro i hi
      have hi' : i < len ∧ i < zs.length := by simpa [Nat.lt_min] using hi
      obtain ⟨b, off, rfl, hcc⟩ := ints_at hc (by omega)
      refine ⟨b, off, rfl, ?_⟩
      rw [hcc i hi'.2]
      simp [hi'.1]
    · have := hw ((len + (zs.length - len)) * Try.prog.bytesOf 3) (by rw [hx1]; simp [DataW.weights, Try.underlying23, lits, show min len zs.length = len from by omega])
      rw [Try.bytes3] at this
      simp only [reachBytes] at this
      simp
      omega
end

end Go.Proofs.Ytpkgoagoceddoaa
