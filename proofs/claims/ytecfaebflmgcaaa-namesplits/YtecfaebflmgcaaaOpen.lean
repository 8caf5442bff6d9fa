/- The argument of the laws, opened: a row of texts. -/
import Derived.Test.YtecfaebflmgcaaaRows
import Derived.Test.YtecfaebflmgcaaaStrs
import Derived.ProofKit
import Derived.SizedLaws
import Derived.SliceStrings
import Derived.Lib.SmallJoins
namespace Go.Proofs.Ytecfaebflmgcaaa
open Go.ChangeShapes Go.WideShapes Go.ChangeAt Go.RowKit Go.Deep Go.Joins

theorem Try.own : ownKnob Try.prog.godebug = none := by kernel_rfl
theorem Try.laidOut : laidOutB Try.prog = true := by kernel_rfl
theorem Try.cells9 : Try.prog.cellsOf 9 = 1 := by kernel_rfl
theorem Try.cells24 : Try.prog.cellsOf 24 = 1 := by kernel_rfl
theorem Try.bytes9 : Try.prog.bytesOf 9 = 16 := by kernel_rfl

def LawOk (F : Nat) : Prop := ∀ (a : Option Addr) (xs : List ByteArray) (ca : Nat) (w : World), StrsAt w a xs → xs.length ≤ 140737488351232 → (∀ x ∈ xs, x.size ≤ 140737488351232) →
  Calls Try.prog F #[.agg #[.slice a xs.length ca]] w fun e w' => e = .returned (.bool true) ∧ Below w.heap.size w w'

section
variable {H : Type} {enc : TypeId × Value → H} {P : Program} {w : World} {base : Nat} {spare : Nat → Bool} {held : Bool}

theorem array1 {α : Type} {cs : Array α} (h : cs.size = 1) : ∃ c0, cs = #[c0] := by
  obtain ⟨l⟩ := cs
  match l, h with
  | [c0], _ => exact ⟨c0, rfl⟩

theorem open_agg1 {r : Reach} {b0 : Nat} {t : TypeId} {f0 : Field} {v : Value} {d : DataW H} {p : List MemPlace} (hs : P.underlying t = some (.struct #[f0])) (hone : oneCellFields P #[f0] = true) (hC : P.cellsOf t = 1)
    (hv : Value.okWide P w r b0 t v) (h : DataW.Trod enc P w base spare held t v d p) :
    ∃ (v0 : Value) (y0 : DataW H × List MemPlace) (n : Nat), v = .agg #[v0] ∧ d = .agg [y0.1] ∧ p = y0.2 ∧ DataW.trod enc P w base spare held n f0.type [v0] = some y0 := by
  obtain ⟨cs, rfl, hsz⟩ := okWide_struct hs hv
  obtain ⟨c0, rfl⟩ := array1 (hsz.trans hC)
  obtain ⟨fuel, hf⟩ := h
  obtain ⟨ys, n, _, hx, hl, hlen, hg⟩ := DataW.trod_struct hs hf
  obtain ⟨o0, k0⟩ := hone_of hone 0 f0 rfl
  match ys, hlen with
  | [y0], _ =>
    have h0 := hg 0 f0 rfl
    simp only [Prod.mk.injEq] at hx
    exact ⟨c0, y0, n, rfl, by simpa using hx.1, by simpa using hx.2, by simpa [Value.cells, o0, k0] using h0⟩

theorem mem_all {P : Program} {e : TypeId} {x : Nat} (d : DataW H) : ∀ {ds : List (DataW H)}, d ∈ ds → x ∈ d.weights P e → x ∈ DataW.weightsAll P e ds
  | [], h, _ => by simp at h
  | d' :: r, h, hx => by
    simp only [DataW.weightsAll, List.mem_append]
    rcases List.mem_cons.1 h with rfl | h
    · exact Or.inl hx
    · exact Or.inr (mem_all d h hx)
end

section
variable {H : Type} {enc : TypeId × Value → H} {W : World}

theorem open_texts {n : Nat} {v : Value} {y : DataW H × List MemPlace} (h : DataW.trod enc Try.prog W 0 (fun _ => true) true n 22 [v] = some y) (hw : ∀ x ∈ y.1.weights Try.prog 22, x ≤ reachBytes) :
    ∃ (a : Option Addr) (xs : List ByteArray) (ca : Nat), v = .slice a xs.length ca ∧ StrsAt W a xs ∧ xs.length ≤ 140737488351232 ∧ (∀ x ∈ xs, x.size ≤ 140737488351232) := by
  rcases open_strings Try.underlying22 Try.underlying9 Try.cells9 h with ⟨hcs, _⟩ | ⟨a, len, cap, ss, hcs, _, hl, hm, hz, hx, hc, hwf⟩
  · exact ⟨none, [], 0, by simpa using hcs, .inl rfl, by simp, fun i hi => by simp at hi⟩
  · simp at hz
    have hx1 : y.1 = .slice (strs (ss.take len)) (strs (ss.drop len)) := by rw [hx]
    have hmin : min len ss.length = len := by omega
    refine ⟨some a, ss.take len, cap, ?_, ?_, ?_, ?_⟩
    · simpa [hmin] using hcs
    · by_cases h0 : len = 0
      · exact .inl (by rw [h0]; rfl)
      · obtain ⟨b, off, spot⟩ := a
        have hspot : spot = none := by
          have := World.cell?_spot (hc 0 (by omega))
          simpa [Addr.add] using this
        subst hspot
        refine .inr ⟨b, off, rfl, fun i hi => ?_⟩
        rw [List.length_take, hmin] at hi
        have := hc i (by omega)
        rw [Go.WideShapes.add_plain] at this
        rw [this, getD_take hi]
    · have := hw ((len + (ss.length - len)) * Try.prog.bytesOf 9) (by rw [hx1]; simp [DataW.weights, Try.underlying22, strs, hmin])
      rw [Try.bytes9] at this
      simp only [reachBytes] at this
      simp
      omega
    · intro x hxm
      have := hw x.data.toList.length (by
        rw [hx1]
        simp only [DataW.weights, Try.underlying22, List.mem_cons, List.mem_append]
        refine Or.inr (Or.inl ?_)
        exact mem_all (.lit (.string x.data.toList)) (by simp only [strs, List.mem_map]; exact ⟨x, hxm, rfl⟩) (by simp [DataW.weights]))
      simp only [reachBytes] at this
      have e : x.data.toList.length = x.size := ls_size x
      omega
end

end Go.Proofs.Ytecfaebflmgcaaa
