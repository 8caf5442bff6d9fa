/- A volume copied by the program: data. -/
import Derived.Test.YtdpighcaieajjaaGreatClone
import Derived.Test.YtdpighcaieajjaaGreatSetl
namespace Go.Proofs.YtdpighcaieajjaaGreat
open Go.RowKit

/-- a file's lists as they stand somewhere -/
def OrigFV (w : World) (g : FV) : Prop := ∃ ab cb al cl, g.bv = .slice ab g.d.blocks.length cb ∧ g.lv = .slice al g.d.list.length cl ∧ (IntsAt w ab g.d.blocks ∧ CapOk ab cb g.d.blocks.length) ∧ LinksAt w al g.d.list ∧ CapOk al cl g.d.list.length
theorem OrigFV.below {w w' : World} {g : FV} (h : OrigFV w g) (hb : Below w.heap.size w w') : OrigFV w' g := by
  obtain ⟨ab, cb, al, cl, e1, e2, ⟨h1, h2⟩, h3, h4⟩ := h
  exact ⟨ab, cb, al, cl, e1, e2, ⟨h1.below hb, h2⟩, h3.below hb, h4⟩
theorem fflat_len (gs : List FV) : (fflat gs).length = gs.length * 5 := by
  induction gs with
  | nil => rfl
  | cons x xs ih => simp only [fflat, List.flatMap_cons, List.length_append, List.length_cons, List.length_nil] at *; omega
theorem orig_of {w : World} {b : Nat} : ∀ (fs : List FileD) (o : Nat), (∀ i, i < fs.length → FileIn w b (o + i * 5) (fs.getD i f0)) → ∃ gs : List FV, gs.map FV.d = fs ∧ (∀ j u, (fflat gs)[j]? = some u → w.cell? ⟨b, o + j, none⟩ = some u) ∧ ∀ g ∈ gs, OrigFV w g := by
  intro fs
  induction fs with
  | nil => intro o _; exact ⟨[], rfl, fun j u h => by simp [fflat] at h, fun g hg => by simp at hg⟩
  | cons f fs ih =>
    intro o h
    obtain ⟨gs, h1, h2, h3⟩ := ih (o + 5) (fun i hi => by
      have := h (i + 1) (by simp; omega)
      rw [show o + (i + 1) * 5 = o + 5 + i * 5 from by omega] at this
      simpa using this)
    have h0 := h 0 (by simp)
    simp only [Nat.zero_mul, Nat.add_zero, List.getD_cons_zero] at h0
    obtain ⟨ab, cb, al, cl, ⟨c0, c1, c2, c3, c4⟩, hi, hl⟩ := h0
    refine ⟨⟨f, .slice ab f.blocks.length cb, .slice al f.list.length cl⟩ :: gs, by simp [h1], fun j u hj => ?_, fun g hg => ?_⟩
    · have e : fflat (⟨f, .slice ab f.blocks.length cb, .slice al f.list.length cl⟩ :: gs) = .int .i64 f.id :: .bool f.dir :: .int .i64 f.size :: .slice ab f.blocks.length cb :: .slice al f.list.length cl :: fflat gs := by simp [fflat]
      rw [e] at hj
      match j with
      | 0 => simp at hj; subst hj; exact c0
      | 1 => simp at hj; subst hj; exact c1
      | 2 => simp at hj; subst hj; exact c2
      | 3 => simp at hj; subst hj; exact c3
      | 4 => simp at hj; subst hj; exact c4
      | j + 5 =>
        simp only [List.getElem?_cons_succ] at hj
        have := h2 j u hj
        rw [show o + (j + 5) = o + 5 + j from by omega]
        exact this
    · rcases List.mem_cons.1 hg with rfl | hg
      · exact ⟨ab, cb, al, cl, rfl, rfl, hi, hl⟩
      · exact h3 g hg
theorem fflat_one {w : World} {gs : List FV} (h : ∀ g ∈ gs, OrigFV w g) : ∀ u ∈ fflat gs, u.oneCell' = true := by
  intro u hu
  unfold fflat at hu
  obtain ⟨g, hg, hm⟩ := List.mem_flatMap.1 hu
  obtain ⟨ab, cb, al, cl, e1, e2, _⟩ := h g hg
  rw [e1, e2] at hm
  simp at hm
  rcases hm with rfl | rfl | rfl | rfl | rfl <;> rfl
theorem fflat_setb (gs : List FV) : ∀ (i : Nat) (bv : Value) (hi : i < gs.length), fflat (gs.set i ⟨gs[i].d, bv, gs[i].lv⟩) = (fflat gs).set (i * 5 + 3) bv := by
  induction gs with
  | nil => intro i bv hi; simp at hi
  | cons x xs ih =>
    intro i bv hi
    have e : ∀ (y : FV) ys, fflat (y :: ys) = .int .i64 y.d.id :: .bool y.d.dir :: .int .i64 y.d.size :: y.bv :: y.lv :: fflat ys := fun y ys => by simp [fflat]
    cases i with
    | zero => simp [e]
    | succ i =>
      have h2 := ih i bv (by simpa using hi)
      rw [show (i + 1) * 5 + 3 = (i * 5 + 3) + 1 + 1 + 1 + 1 + 1 from by omega]
      simp only [List.set_cons_succ, e, List.getElem_cons_succ]
      rw [h2]
theorem fflat_setl (gs : List FV) : ∀ (i : Nat) (lv : Value) (hi : i < gs.length), fflat (gs.set i ⟨gs[i].d, gs[i].bv, lv⟩) = (fflat gs).set (i * 5 + 4) lv := by
  induction gs with
  | nil => intro i lv hi; simp at hi
  | cons x xs ih =>
    intro i lv hi
    have e : ∀ (y : FV) ys, fflat (y :: ys) = .int .i64 y.d.id :: .bool y.d.dir :: .int .i64 y.d.size :: y.bv :: y.lv :: fflat ys := fun y ys => by simp [fflat]
    cases i with
    | zero => simp [e]
    | succ i =>
      have h2 := ih i lv (by simpa using hi)
      rw [show (i + 1) * 5 + 4 = (i * 5 + 4) + 1 + 1 + 1 + 1 + 1 from by omega]
      simp only [List.set_cons_succ, e, List.getElem_cons_succ]
      rw [h2]
/-- lists in blocks of their own, each -/
def Apart (gs : List FV) : Prop := ∀ i j : Nat, i < j → ∀ x y : FV, gs[i]? = some x → gs[j]? = some y → x.lv.ownBlock = none ∨ x.lv.ownBlock ≠ y.lv.ownBlock
def OwnFilesX (w : World) (base : Nat) (v : Value) (fs : List FileD) : Prop := ∃ gs : List FV, gs.map FV.d = fs ∧ w.ownsRow base 39 5 v gs.length (fflat gs) ∧ (∀ g ∈ gs, OwnFV w base g) ∧ Apart gs
theorem OwnFilesX.plain {w : World} {base : Nat} {v : Value} {fs : List FileD} (h : OwnFilesX w base v fs) : OwnFiles w base v fs := by
  obtain ⟨gs, h1, h2, h3, _⟩ := h; exact ⟨gs, h1, h2, h3⟩
/-- half-way: so many files have lists of their own -/
structure Half (w : World) (base : Nat) (v : Value) (fs : List FileD) (gs0 gs : List FV) (k : Nat) : Prop where
  ds : gs.map FV.d = fs
  row : w.ownsRow base 39 5 v gs.length (fflat gs)
  own : ∀ (j : Nat) (g : FV), j < k → gs[j]? = some g → OwnFV w base g
  ap : ∀ i j : Nat, i < j → j < k → ∀ x y : FV, gs[i]? = some x → gs[j]? = some y → x.lv.ownBlock = none ∨ x.lv.ownBlock ≠ y.lv.ownBlock
  old : ∀ j : Nat, k ≤ j → gs[j]? = gs0[j]?
theorem Half.below {w w' : World} {base : Nat} {v : Value} {fs : List FileD} {gs0 gs : List FV} {k : Nat} (h : Half w base v fs gs0 gs k) (hb : Below w.heap.size w w') : Half w' base v fs gs0 gs k :=
  ⟨h.ds, own_below h.row hb, fun j g hj hg => (h.own j g hj hg).below hb, h.ap, h.old⟩
theorem Half.fin {w : World} {base : Nat} {v : Value} {fs : List FileD} {gs0 gs : List FV} {k : Nat} (h : Half w base v fs gs0 gs k) (hk : gs.length ≤ k) : OwnFilesX w base v fs := by
  refine ⟨gs, h.ds, h.row, fun g hg => ?_, ?_⟩
  · obtain ⟨j, hj, rfl⟩ := List.getElem_of_mem hg
    exact h.own j _ (by omega) (List.getElem?_eq_getElem hj)
  · intro i j hij x y hx hy
    have := (List.getElem?_eq_some_iff.1 hy).1
    exact h.ap i j hij (by omega) x y hx hy

end Go.Proofs.YtdpighcaieajjaaGreat
