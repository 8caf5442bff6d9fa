/- A link more in a directory, by the program. -/
import Derived.Test.YtdpighcaieajjaaGreatPutm
namespace Go.Proofs.YtdpighcaieajjaaGreat
open Go.RowKit Go.Sort

theorem own_keep {w w' : World} {B e s n : Nat} {v : Value} {xs : List Value} {r : Option Nat} (h : w.ownsRow B e s v n xs) (hg : w.grownBy w' r) (hne : v.ownBlock = none ∨ v.ownBlock ≠ r) : w'.ownsRow B e s v n xs := h.kept hg hne
theorem ne_of_tags {w : World} {B B' e e' s s' n n' : Nat} {v v' : Value} {xs xs' : List Value} (h : w.ownsRow B e s v n xs) (h' : w.ownsRow B' e' s' v' n' xs') (hne : e ≠ e') : v.ownBlock = none ∨ v.ownBlock ≠ v'.ownBlock := by
  cases hv : v.ownBlock with
  | none => exact .inl rfl
  | some k =>
    refine .inr (fun eq => ?_)
    obtain ⟨c1, k1⟩ := own_tag h k hv
    obtain ⟨c2, k2⟩ := own_tag h' k eq.symm
    rw [k1] at k2
    simp only [Option.some.injEq, Obj.cells.injEq] at k2
    exact hne k2.2.1
/-- files of one's own, where the list of one has turned -/
theorem relist {w w3 w5 : World} {base g cap n q : Nat} {gs : List FV} {x : FV} {v' : Value} {l1 l2 : List LinkD}
    (hrow : w.ownsRow base 39 5 (.slice (some ⟨g, 0, none⟩) n cap) gs.length (fflat gs)) (hown : ∀ y ∈ gs, OwnFV w base y) (hap : Apart gs) (hx : gs[q]? = some x)
    (hg3 : w.grownBy w3 x.lv.ownBlock) (hv3 : w3.ownsRow base 87 2 v' l1.length (lflat l1)) (hat : v'.ownBlock = x.lv.ownBlock ∨ v'.ownBlock = some w.heap.size)
    (hg5 : (w3.setCell ⟨g, q * 5 + 4, none⟩ v').grownBy w5 v'.ownBlock) (hv5 : OwnLinks w5 base v' l2) :
    OwnFilesX w5 base (.slice (some ⟨g, 0, none⟩) n cap) ((gs.map FV.d).set q (withList x.d l2)) ∧ KeepT w w5 ∧ Below base w w5 := by
  obtain ⟨hq, rfl⟩ := List.getElem?_eq_some_iff.1 hx
  have hn : n = gs.length := by
    rcases hrow.2 with ⟨h1, _⟩ | ⟨g', cap', cur, h1, _⟩
    · simp at h1
    · simp at h1; exact h1.2.1
  subst hn
  have hqm : gs[q] ∈ gs := List.getElem_mem hq
  have hlq := (hown _ hqm).2
  have r3 := own_keep hrow hg3 (ne_of_tags hrow hlq (by decide))
  obtain ⟨cs3, hh3⟩ := own_tag r3 g rfl
  have r4 := (r3.stored (q * 5 + 4) v').1
  obtain ⟨cs4, hh4⟩ := own_tag r4 g rfl
  have v4 : (w3.setCell ⟨g, q * 5 + 4, none⟩ v').ownsRow base 87 2 v' l1.length (lflat l1) := rowset2 hv3 hh3 (by decide) _
  have r5 := own_keep r4 hg5 (ne_of_tags r4 v4 (by decide))
  have far : ∀ (j : Nat) (y : FV), j ≠ q → gs[j]? = some y → (y.lv.ownBlock = none ∨ y.lv.ownBlock ≠ gs[q].lv.ownBlock) ∧ (y.lv.ownBlock = none ∨ y.lv.ownBlock ≠ v'.ownBlock) := by
    intro j y hj hy
    have hym : y ∈ gs := List.mem_of_getElem? hy
    have a1 : y.lv.ownBlock = none ∨ y.lv.ownBlock ≠ gs[q].lv.ownBlock := by
      rcases Nat.lt_or_gt_of_ne hj with h | h
      · exact hap j q h y gs[q] hy (List.getElem?_eq_getElem hq)
      · rcases hap q j h gs[q] y (List.getElem?_eq_getElem hq) hy with e | e
        · cases hz : y.lv.ownBlock with
          | none => exact .inl rfl
          | some k => exact .inr (by rw [e]; simp)
        · exact .inr (fun e2 => e e2.symm)
    refine ⟨a1, ?_⟩
    rcases hat with e | e
    · rw [e]; exact a1
    · cases hz : y.lv.ownBlock with
      | none => exact .inl rfl
      | some k =>
        refine .inr (fun e2 => ?_)
        rw [e] at e2
        injection e2 with e2
        have := (World.ownsRow.lt (hown y hym).2 k hz).2
        omega
  have keepY : ∀ (j : Nat) (y : FV), j ≠ q → gs[j]? = some y → OwnFV w5 base y := by
    intro j y hj hy
    have hym : y ∈ gs := List.mem_of_getElem? hy
    obtain ⟨f1, f2⟩ := far j y hj hy
    have b1 := own_keep (hown y hym).1 hg3 (ne_of_tags (hown y hym).1 hlq (by decide))
    have b2 : OwnInts (w3.setCell ⟨g, q * 5 + 4, none⟩ v') base y.bv y.d.blocks := rowset2 b1 hh3 (by decide) _
    have c1 := own_keep (hown y hym).2 hg3 f1
    have c2 : OwnLinks (w3.setCell ⟨g, q * 5 + 4, none⟩ v') base y.lv y.d.list := rowset2 c1 hh3 (by decide) _
    exact ⟨own_keep b2 hg5 (ne_of_tags b2 v4 (by decide)), own_keep c2 hg5 f2⟩
  have hbq : OwnInts w5 base gs[q].bv gs[q].d.blocks := by
    have b1 := own_keep (hown _ hqm).1 hg3 (ne_of_tags (hown _ hqm).1 hlq (by decide))
    have b2 : OwnInts (w3.setCell ⟨g, q * 5 + 4, none⟩ v') base gs[q].bv gs[q].d.blocks := rowset2 b1 hh3 (by decide) _
    exact own_keep b2 hg5 (ne_of_tags b2 v4 (by decide))
  refine ⟨⟨gs.set q ⟨withList gs[q].d l2, gs[q].bv, v'⟩, ?_, ?_, ?_, ?_⟩, ?_, ?_⟩
  · rw [List.map_set]
  · have e := fflat_set gs q v' l2 hq
    have e2 : (⟨withList gs[q].d l2, gs[q].bv, v'⟩ : FV) = ⟨⟨gs[q].d.id, gs[q].d.dir, gs[q].d.size, gs[q].d.blocks, l2⟩, gs[q].bv, v'⟩ := rfl
    rw [e2, e, List.length_set]
    exact r5
  · intro y hy
    obtain ⟨j, hj, rfl⟩ := List.getElem_of_mem hy
    rw [List.length_set] at hj
    by_cases e : j = q
    · subst e
      rw [List.getElem_set_self]
      exact ⟨hbq, hv5⟩
    · rw [List.getElem_set_ne (by omega)]
      exact keepY j _ e (List.getElem?_eq_getElem hj)
  · intro i j hij a b ha hb
    by_cases e1 : i = q
    · subst e1
      rw [List.getElem?_set_self hq] at ha
      injection ha with ha
      rw [List.getElem?_set_ne (by omega)] at hb
      obtain ⟨_, f2⟩ := far j b (by omega) hb
      rw [← ha]
      rcases f2 with e | e
      · cases hz : v'.ownBlock with
        | none => exact .inl rfl
        | some k => exact .inr (by rw [e]; simp)
      · exact .inr (fun e2 => e e2.symm)
    · rw [List.getElem?_set_ne (by omega)] at ha
      by_cases e2 : j = q
      · subst e2
        rw [List.getElem?_set_self hq] at hb
        injection hb with hb
        obtain ⟨_, f2⟩ := far i a (by omega) ha
        rw [← hb]; exact f2
      · rw [List.getElem?_set_ne (by omega)] at hb
        exact hap i j hij a b ha hb
  · exact ((KeepT.of_gb hg3 hlq (.inr rfl)).trans (KeepT.of_set v' hh3 (.inl rfl))).trans (KeepT.of_gb hg5 v4 (.inr rfl))
  · have hgb : base ≤ g := (World.ownsRow.lt hrow g rfl).1
    have hbw : base ≤ w.heap.size := by have := (World.ownsRow.lt hrow g rfl).2; omega
    have h1 : Below base w w3 := (Below.refl _ _).grown hg3 hbw (fun k hk => (World.ownsRow.lt hlq k hk).1)
    have h2 : Below base w (w3.setCell ⟨g, q * 5 + 4, none⟩ v') := h1.setCell (p := ⟨g, q * 5 + 4, none⟩) hgb _
    have hsz : base ≤ (w3.setCell ⟨g, q * 5 + 4, none⟩ v').heap.size := by have := hg3.size; simp; omega
    exact h2.grown hg5 hsz (fun k hk => (World.ownsRow.lt v4 k hk).1)

end Go.Proofs.YtdpighcaieajjaaGreat
