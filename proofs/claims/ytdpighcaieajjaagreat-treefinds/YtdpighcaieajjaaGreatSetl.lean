/- Another list laid into a file of a row of files of one's own. -/
import Derived.Test.YtdpighcaieajjaaGreatNew
namespace Go.Proofs.YtdpighcaieajjaaGreat
open Go.RowKit

theorem rowset2 {w : World} {base e e' size n g o : Nat} {v : Value} {xs : List Value} {cur : Array Value} (h : w.ownsRow base e size v n xs) (hg : w.heap[g]? = some (.cells cur e' (0, 0))) (hne : e' ≠ e) (u : Value) : (w.setCell ⟨g, o, none⟩ u).ownsRow base e size v n xs := by
  obtain ⟨h1, h2⟩ := h
  refine ⟨h1, ?_⟩
  rcases h2 with h2 | ⟨g', cap, cs, hv, hb, hh, h3, h4, h5, h6⟩
  · exact .inl h2
  · refine .inr ⟨g', cap, cs, hv, hb, ?_, h3, h4, h5, h6⟩
    rw [heap_setCell_other w ⟨g, o, none⟩ g' u (fun e => ?_)]
    · exact hh
    · have e2 : g' = g := e
      rw [e2, hg] at hh
      simp only [Option.some.injEq, Obj.cells.injEq] at hh
      exact hne hh.2.1
theorem fflat_set (gs : List FV) : ∀ (i : Nat) (lv : Value) (li : List LinkD) (hi : i < gs.length), fflat (gs.set i ⟨⟨gs[i].d.id, gs[i].d.dir, gs[i].d.size, gs[i].d.blocks, li⟩, gs[i].bv, lv⟩) = (fflat gs).set (i * 5 + 4) lv := by
  induction gs with
  | nil => intro i lv li hi; simp at hi
  | cons x xs ih =>
    intro i lv li hi
    have e : ∀ (y : FV) ys, fflat (y :: ys) = .int .i64 y.d.id :: .bool y.d.dir :: .int .i64 y.d.size :: y.bv :: y.lv :: fflat ys := fun y ys => by simp [fflat]
    cases i with
    | zero => simp [e]
    | succ i =>
      have h2 := ih i lv li (by simpa using hi)
      rw [show (i + 1) * 5 + 4 = (i * 5 + 4) + 1 + 1 + 1 + 1 + 1 from by omega]
      simp only [List.set_cons_succ, e, List.getElem_cons_succ]
      rw [h2]
def withList (f : FileD) (li : List LinkD) : FileD := ⟨f.id, f.dir, f.size, f.blocks, li⟩
theorem OwnFiles.setList {w : World} {base g cap n : Nat} {fs : List FileD} (h : OwnFiles w base (.slice (some ⟨g, 0, none⟩) n cap) fs) {i : Nat} (hi : i < fs.length) {lv : Value} {li : List LinkD} (hl : OwnLinks w base lv li) :
    OwnFiles (w.setCell ⟨g, i * 5 + 4, none⟩ lv) base (.slice (some ⟨g, 0, none⟩) n cap) (fs.set i (withList (fs.getD i f0) li)) ∧ w.frozen? ⟨g, i * 5 + 4, none⟩ = false ∧ base ≤ g := by
  obtain ⟨gs, rfl, ho, ha⟩ := h
  have hi2 : i < gs.length := by simpa using hi
  have hn : n = gs.length := by
    rcases ho.2 with ⟨h1, _⟩ | ⟨g', cap', cur, h1, _⟩
    · simp at h1
    · simp at h1; exact h1.2.1
  subst hn
  obtain ⟨g', cap', cur, hv, hb, hh, _⟩ : ∃ g' cap' cur, Value.slice (some ⟨g, 0, none⟩) gs.length cap = .slice (some ⟨g', 0, none⟩) gs.length cap' ∧ base ≤ g' ∧ w.heap[g']? = some (.cells cur 39 (0, 0)) ∧ True := by
    rcases ho.2 with ⟨h1, _⟩ | ⟨g', cap', cur, h1, h2, h3, _⟩
    · simp at h1
    · exact ⟨g', cap', cur, h1, h2, h3, trivial⟩
  have hgg : g = g' := by simp at hv; exact hv.1
  subst hgg
  refine ⟨⟨gs.set i ⟨⟨gs[i].d.id, gs[i].d.dir, gs[i].d.size, gs[i].d.blocks, li⟩, gs[i].bv, lv⟩, ?_, ?_, ?_⟩, ho.frozenAt _, hb⟩
  · rw [List.map_set]
    congr 1
    simp [withList, List.getD, hi2]
  · rw [fflat_set gs i lv li hi2, List.length_set]
    exact (ho.stored (i * 5 + 4) lv).1
  · intro x hx
    have hk : ∀ y : FV, OwnFV w base y → OwnFV (w.setCell ⟨g, i * 5 + 4, none⟩ lv) base y := fun y hy => ⟨rowset2 hy.1 hh (by decide) _, rowset2 hy.2 hh (by decide) _⟩
    rcases List.mem_or_eq_of_mem_set hx with h1 | rfl
    · exact hk x (ha x h1)
    · exact ⟨rowset2 (ha gs[i] (List.getElem_mem hi2)).1 hh (by decide) _, rowset2 hl hh (by decide) _⟩

end Go.Proofs.YtdpighcaieajjaaGreat
