/- Which files are reached, by the page. -/
import Derived.Test.YtdpighcaieajjaaGreatMayb
namespace Go.Proofs.YtdpighcaieajjaaGreat
open Go.RowKit

/-- a row of marks, in a block of its own -/
def Row (w : World) (g : Nat) (bs : List Bool) : Prop := w.heap[g]? = some (.cells (bs.map Value.bool).toArray 4 (0, 0))
inductive Desc (fs : List FileD) (q : Nat) : Nat → Prop where
  | self : Desc fs q q
  | step {p x : Nat} : Desc fs q p → x ∈ kids fs p → Desc fs q x
theorem Desc.front {fs : List FileD} {q c x : Nat} (h : Desc fs c x) (hc : c ∈ kids fs q) : Desc fs q x := by
  induction h with
  | self => exact .step .self hc
  | step _ hm ih => exact .step ih hm
theorem Desc.reach {fs : List FileD} {x : Nat} (h : Desc fs 0 x) : Reach fs x := by
  induction h with
  | self => exact .root
  | step _ hm ih => exact .step ih hm
def MarkRel (fs : List FileD) (q : Nat) (bs bs' : List Bool) : Prop :=
  bs'.length = bs.length ∧ (∀ i, bs.getD i false = true → bs'.getD i false = true) ∧ bs'.getD q false = true ∧ ∀ i, bs'.getD i false = true → bs.getD i false = false → Desc fs q i ∧ ∀ x ∈ kids fs i, bs'.getD x false = true
def LoopRel (fs : List FileD) (q k : Nat) (bs bs' : List Bool) : Prop :=
  bs'.length = bs.length ∧ (∀ i, bs.getD i false = true → bs'.getD i false = true) ∧ (∀ j, j < k → ∀ x, (kids fs q)[j]? = some x → bs'.getD x false = true) ∧ ∀ i, bs'.getD i false = true → bs.getD i false = false → Desc fs q i ∧ ∀ x ∈ kids fs i, bs'.getD x false = true
theorem LoopRel.start (fs : List FileD) (q : Nat) (bs : List Bool) : LoopRel fs q 0 bs bs := ⟨rfl, fun _ h => h, fun j hj => by omega, fun i h1 h2 => by rw [h1] at h2; cases h2⟩
theorem LoopRel.next {fs : List FileD} {q k x : Nat} {bs b1 b2 : List Bool} (h : LoopRel fs q k bs b1) (hx : (kids fs q)[k]? = some x) (m : MarkRel fs x b1 b2) : LoopRel fs q (k + 1) bs b2 := by
  obtain ⟨l1, m1, k1, n1⟩ := h
  obtain ⟨l2, m2, q2, n2⟩ := m
  refine ⟨by omega, fun i hi => m2 i (m1 i hi), fun j hj y hy => ?_, fun i h1 h2 => ?_⟩
  · by_cases e : j = k
    · subst e; rw [hx] at hy; injection hy with hy; subst hy; exact q2
    · exact m2 y (k1 j (by omega) y hy)
  · cases hb : b1.getD i false
    · obtain ⟨a, b⟩ := n2 i h1 hb
      exact ⟨a.front (List.mem_of_getElem? hx), b⟩
    · obtain ⟨a, b⟩ := n1 i hb h2
      exact ⟨a, fun y hy => m2 y (b y hy)⟩
theorem getD_set' (bs : List Bool) (q i : Nat) (hq : q < bs.length) : (bs.set q true).getD i false = if i = q then true else bs.getD i false := by
  simp only [List.getD_eq_getElem?_getD]
  by_cases e : i = q
  · subst e; rw [List.getElem?_set_self hq]; simp
  · rw [List.getElem?_set_ne (by omega), if_neg e]
theorem LoopRel.fin {fs : List FileD} {q : Nat} {bs b1 : List Bool} (hq : q < bs.length) (h : LoopRel fs q (kids fs q).length (bs.set q true) b1) : MarkRel fs q bs b1 := by
  obtain ⟨l1, m1, k1, n1⟩ := h
  refine ⟨by rw [l1, List.length_set], fun i hi => m1 i (by rw [getD_set' bs q i hq]; split <;> simp_all), m1 q (by rw [getD_set' bs q q hq, if_pos rfl]), fun i h1 h2 => ?_⟩
  by_cases e : i = q
  · subst e
    refine ⟨.self, fun x hx => ?_⟩
    obtain ⟨j, hj, rfl⟩ := List.getElem_of_mem hx
    exact k1 j hj _ (List.getElem?_eq_getElem hj)
  · exact n1 i h1 (by rw [getD_set' bs q i hq, if_neg e]; exact h2)
theorem MarkRel.same {fs : List FileD} {q : Nat} {bs : List Bool} (h : bs.getD q false = true) : MarkRel fs q bs bs :=
  ⟨rfl, fun _ h => h, h, fun i h1 h2 => by rw [h1] at h2; cases h2⟩
theorem falses_le : ∀ {bs b1 : List Bool}, b1.length = bs.length → (∀ i, bs.getD i false = true → b1.getD i false = true) → b1.count false ≤ bs.count false := by
  intro bs
  induction bs with
  | nil => intro b1 h _; rw [List.length_eq_zero_iff.1 h]; simp
  | cons x bs ih =>
    intro b1 h hm
    cases b1 with
    | nil => simp at h
    | cons y b1 =>
      have h1 := ih (b1 := b1) (by simpa using h) (fun i hi => by have := hm (i + 1) (by simpa using hi); simpa using this)
      have h0 := hm 0
      simp only [List.getD_cons_zero] at h0
      rw [List.count_cons, List.count_cons]
      cases x <;> cases y <;> simp_all <;> omega
theorem falses_set : ∀ {bs : List Bool} {q : Nat}, q < bs.length → bs.getD q false = false → (bs.set q true).count false + 1 = bs.count false := by
  intro bs
  induction bs with
  | nil => intro q h; simp at h
  | cons x bs ih =>
    intro q h hx
    cases q with
    | zero =>
      simp only [List.getD_cons_zero] at hx
      subst hx
      simp
    | succ q =>
      have := ih (q := q) (by simpa using h) (by simpa using hx)
      rw [List.set_cons_succ, List.count_cons, List.count_cons]
      omega
theorem Row.cell {w : World} {g : Nat} {bs : List Bool} (h : Row w g bs) {i : Nat} (hi : i < bs.length) : w.cell? ⟨g, i, none⟩ = some (.bool (bs.getD i false)) ∧ w.frozen? ⟨g, i, none⟩ = false := by
  refine ⟨?_, Lib.frozen_of_heap h i⟩
  rw [Lib.cell_of_heap h]
  simp [List.getD, hi]
theorem Row.set {w : World} {g : Nat} {bs : List Bool} (h : Row w g bs) (q : Nat) : Row (w.setCell ⟨g, q, none⟩ (.bool true)) g (bs.set q true) := by
  unfold Row at *
  rw [heap_setCell_same w g q _ 4 _ h]
  simp
theorem Row.grown {w w' : World} {g : Nat} {bs : List Bool} (h : Row w g bs) (hb : Below w.heap.size w w') : Row w' g bs := (hb.block _ (Array.getElem?_eq_some_iff.1 h).1).trans h
theorem gb_set {w : World} {g o : Nat} (v : Value) : w.grownBy (w.setCell ⟨g, o, none⟩ v) (some g) := by
  have h : Below g w (w.setCell ⟨g, o, none⟩ v) := (Below.refl g w).setCell (p := ⟨g, o, none⟩) (Nat.le_refl _) _
  refine ⟨h.os, h.tape, h.output, ?_, fun k hk hne => ?_⟩
  · simp
  · exact heap_setCell_other w ⟨g, o, none⟩ k v (fun e => hne (by rw [e]))
theorem gb_below {W w w' : World} {g : Nat} (h : Below W.heap.size W w) (hg : W.heap.size ≤ g) (k : w.grownBy w' (some g)) : Below W.heap.size W w' := by
  refine h.grown k (by exact h.size) (fun q e => ?_)
  injection e with e
  omega

end Go.Proofs.YtdpighcaieajjaaGreat
