/- Rows of rows that the call makes: what lies in them stays while it is appended to. -/
import Derived.Test.YtifbnojkjbjngaaDoorRwrite
import Derived.Test.YtifbnojkjbjngaaDoorHvy
namespace Go.Proofs.YtifbnojkjbjngaaDoor
open Go.RowKit

theorem Tryd.info22 : (Tryd.prog.info? 22).map (fun i => (i.zero, i.size, i.bytes)) = some (some (.slice none 0 0), 1, 24) := by kernel_rfl

/-- a row of texts that lies in old memory or in a block of texts -/
def StrsIn (w : World) (base : Nat) (a : Option Addr) (xs : List ByteArray) : Prop :=
  xs = [] ∨ ∃ b o, a = some ⟨b, o, none⟩ ∧ (b < base ∨ ∃ cs fz, w.heap[b]? = some (.cells cs 9 fz)) ∧ ∀ i, i < xs.length → w.cell? ⟨b, o + i, none⟩ = some (.string (xs.getD i ByteArray.empty))
theorem StrsIn.at {w : World} {base : Nat} {a : Option Addr} {xs : List ByteArray} (h : StrsIn w base a xs) : StrsAt w a xs := by
  rcases h with h | ⟨b, o, e, _, hc⟩
  · exact .inl h
  · exact .inr ⟨b, o, e, hc⟩
theorem StrsIn.below {w w' : World} {base : Nat} {a : Option Addr} {xs : List ByteArray} (h : StrsIn w base a xs) (hb : Below w.heap.size w w') : StrsIn w' base a xs := by
  by_cases h0 : xs = []
  · exact .inl h0
  · rcases h with h | ⟨b, o, e, ht, hc⟩
    · exact .inl h
    · have hlen : 0 < xs.length := Nat.pos_of_ne_zero (fun e => h0 (List.length_eq_zero_iff.1 e))
      have hlt : b < w.heap.size := block_lt_of_cell (hc 0 hlen)
      refine .inr ⟨b, o, e, ?_, fun i hi => (hb.cell (p := ⟨b, o + i, none⟩) hlt).trans (hc i hi)⟩
      rcases ht with ht | ⟨cs, fz, ht⟩
      · exact .inl ht
      · exact .inr ⟨cs, fz, (hb.block b hlt).trans ht⟩
theorem StrsIn.old {w : World} {base : Nat} {a : Option Addr} {xs : List ByteArray} (h : StrsAt w a xs) (hb : base = w.heap.size) : StrsIn w base a xs := by
  by_cases h0 : xs = []
  · exact .inl h0
  · rcases h with h | ⟨b, o, e, hc⟩
    · exact .inl h
    · have hlen : 0 < xs.length := Nat.pos_of_ne_zero (fun e => h0 (List.length_eq_zero_iff.1 e))
      exact .inr ⟨b, o, e, .inl (by rw [hb]; exact block_lt_of_cell (hc 0 hlen)), hc⟩
theorem StrsIn.own {w : World} {base base' : Nat} {v : Value} {xs : List ByteArray} (h : OwnStrs w base' v xs) : ∃ a c, v = .slice a xs.length c ∧ StrsIn w base a xs ∧ CapOk a c xs.length := by
  have hh := h
  obtain ⟨a, c, e, hs, hc⟩ := cap_of h
  refine ⟨a, c, e, ?_, hc⟩
  rcases hh.2 with ⟨hv, hn⟩ | ⟨g, cap, cur, hv, hb, hg, _⟩
  · exact .inl (List.length_eq_zero_iff.1 hn)
  · rw [hv] at e
    injection e with e1 e2 e3
    subst e1
    rcases hs with h | ⟨b, o, e, hc⟩
    · exact .inl h
    · injection e with e
      injection e with e1 e2
      subst e1; subst e2
      exact .inr ⟨g, 0, rfl, .inr ⟨_, _, hg⟩, hc⟩
/-- another row of the call's own grows -/
theorem StrsIn.grown {w w' : World} {base : Nat} {a : Option Addr} {xs : List ByteArray} {e : TypeId} {size : Nat} {v : Value} {n : Nat} {cs : List Value} (h : StrsIn w base a xs) (ho : w.ownsRow base e size v n cs) (he : e ≠ 9) (hg : w.grownBy w' v.ownBlock) : StrsIn w' base a xs := by
  by_cases h0 : xs = []
  · exact .inl h0
  · rcases h with h | ⟨b, o, ea, ht, hc⟩
    · exact .inl h
    · have hlen : 0 < xs.length := Nat.pos_of_ne_zero (fun e => h0 (List.length_eq_zero_iff.1 e))
      have hlt : b < w.heap.size := block_lt_of_cell (hc 0 hlen)
      have hne : v.ownBlock ≠ some b := by
        intro eb
        rcases ho.2 with ⟨hv, _⟩ | ⟨g, cap, cur, hv, hbg, hgg, _⟩
        · rw [hv] at eb; cases eb
        · rw [hv] at eb
          have eg : g = b := by simpa [Value.ownBlock] using eb
          subst eg
          rcases ht with ht | ⟨cs', fz, ht⟩
          · omega
          · rw [hgg] at ht
            injection ht with ht
            injection ht with _ ht _
            exact he ht
      have hblk : w'.heap[b]? = w.heap[b]? := hg.block b hlt (fun e => hne e.symm)
      have hcell : ∀ i, w'.cell? ⟨b, i, none⟩ = w.cell? ⟨b, i, none⟩ := fun i => by unfold World.cell?; rw [hblk]
      refine .inr ⟨b, o, ea, ?_, fun i hi => (hcell _).trans (hc i hi)⟩
      rcases ht with ht | ⟨cs', fz, ht⟩
      · exact .inl ht
      · exact .inr ⟨cs', fz, hblk.trans ht⟩

theorem own_apart {w : World} {base e e' size size' : Nat} {v v' : Value} {n n' : Nat} {cs cs' : List Value} (h : w.ownsRow base e size v n cs) (h' : w.ownsRow base e' size' v' n' cs') (he : e ≠ e') : v.ownBlock = none ∨ v.ownBlock ≠ v'.ownBlock := by
  rcases h.2 with ⟨hv, _⟩ | ⟨g, cap, cur, hv, _, hg, _⟩
  · left; rw [hv]; rfl
  · right
    rcases h'.2 with ⟨hv', _⟩ | ⟨g', cap', cur', hv', _, hg', _⟩
    · rw [hv, hv']; intro e; cases e
    · rw [hv, hv']
      intro eq
      have eg : g = g' := by simpa [Value.ownBlock] using eq
      subst eg
      rw [hg] at hg'
      injection hg' with hg'
      injection hg' with _ h2 _
      exact he h2
theorem own_kept {w w' : World} {base e e' size size' : Nat} {v v' : Value} {n n' : Nat} {cs cs' : List Value} (h : w.ownsRow base e size v n cs) (h' : w.ownsRow base e' size' v' n' cs') (he : e ≠ e') (hg : w.grownBy w' v'.ownBlock) : w'.ownsRow base e size v n cs :=
  h.kept hg (own_apart h h' he)

def RowVal (w : World) (base : Nat) (v : Value) (xs : List ByteArray) : Prop := ∃ a c, v = .slice a xs.length c ∧ StrsIn w base a xs ∧ CapOk a c xs.length
def OwnRows (w : World) (base : Nat) (v : Value) (l : List (List ByteArray)) : Prop := ∃ vs : List Value, w.ownsRow base 22 1 v l.length vs ∧ ∀ j, j < l.length → ∃ u, vs[j]? = some u ∧ RowVal w base u (l.getD j [])
theorem RowVal.below {w w' : World} {base : Nat} {v : Value} {xs : List ByteArray} (h : RowVal w base v xs) (hb : Below w.heap.size w w') : RowVal w' base v xs := by
  obtain ⟨a, c, e, hs, hc⟩ := h
  exact ⟨a, c, e, hs.below hb, hc⟩
theorem OwnRows.below {w w' : World} {base : Nat} {v : Value} {l : List (List ByteArray)} (h : OwnRows w base v l) (hb : Below w.heap.size w w') : OwnRows w' base v l := by
  obtain ⟨vs, ho, hr⟩ := h
  refine ⟨vs, own_below ho hb, fun j hj => ?_⟩
  obtain ⟨u, hu, hv⟩ := hr j hj
  exact ⟨u, hu, hv.below hb⟩
theorem OwnRows.nil (w : World) (base : Nat) : OwnRows w base (.slice none 0 0) [] := ⟨[], World.ownsRow_nil _ _ _ _, fun j hj => by simp at hj⟩
theorem RowVal.grown {w w' : World} {base : Nat} {u : Value} {xs : List ByteArray} {e : TypeId} {size : Nat} {v : Value} {n : Nat} {cs : List Value} (h : RowVal w base u xs) (ho : w.ownsRow base e size v n cs) (he : e ≠ 9) (hg : w.grownBy w' v.ownBlock) : RowVal w' base u xs := by
  obtain ⟨a, c, eq, hs, hc⟩ := h
  exact ⟨a, c, eq, hs.grown ho he hg, hc⟩
/-- the row of numbers grew -/
theorem OwnRows.grownN {w w' : World} {base : Nat} {v v' : Value} {l : List (List ByteArray)} {n : Nat} {cs : List Value} (h : OwnRows w base v l) (ho : w.ownsRow base 3 1 v' n cs) (hg : w.grownBy w' v'.ownBlock) : OwnRows w' base v l := by
  obtain ⟨vs, hr, hx⟩ := h
  refine ⟨vs, own_kept hr ho (by decide) hg, fun j hj => ?_⟩
  obtain ⟨u, hu, hv⟩ := hx j hj
  exact ⟨u, hu, hv.grown ho (by decide) hg⟩
/-- rows more -/
theorem OwnRows.more {w w' : World} {base : Nat} {v v' : Value} {l m : List (List ByteArray)} {vs us : List Value} (hr : w.ownsRow base 22 1 v l.length vs) (hx : ∀ j, j < l.length → ∃ u, vs[j]? = some u ∧ RowVal w base u (l.getD j [])) (hg : w.grownBy w' v.ownBlock)
    (h : w'.ownsRow base 22 1 v' (l.length + m.length) (vs ++ us)) (hm : ∀ j, j < m.length → ∃ u, us[j]? = some u ∧ RowVal w base u (m.getD j [])) : OwnRows w' base v' (l ++ m) := by
  refine ⟨vs ++ us, by rw [List.length_append]; exact h, fun j hj => ?_⟩
  have hvl : vs.length = l.length := by have := hr.1; omega
  by_cases hjl : j < l.length
  · obtain ⟨u, hu, hv⟩ := hx j hjl
    refine ⟨u, by rw [List.getElem?_append_left (by omega)]; exact hu, ?_⟩
    rw [show (l ++ m).getD j [] = l.getD j [] from by simp [List.getD, List.getElem?_append_left hjl]]
    exact hv.grown hr (by decide) hg
  · rw [List.length_append] at hj
    obtain ⟨u, hu, hv⟩ := hm (j - l.length) (by omega)
    refine ⟨u, by rw [List.getElem?_append_right (by omega), hvl]; exact hu, ?_⟩
    rw [show (l ++ m).getD j [] = m.getD (j - l.length) [] from by simp [List.getD, List.getElem?_append_right (Nat.le_of_not_lt hjl)]]
    exact hv.grown hr (by decide) hg
theorem OwnRows.rows {w : World} {base : Nat} {v : Value} {l : List (List ByteArray)} (h : OwnRows w base v l) : ∃ a c, v = .slice a l.length c ∧ RowsAt w a l := by
  obtain ⟨vs, hr, hx⟩ := h
  have hh := hr
  rcases hr.2 with ⟨hv, hn⟩ | ⟨g, cap, cur, hv, hb, hg, hnc, _⟩
  · exact ⟨none, 0, by rw [hv, hn], .inl (List.length_eq_zero_iff.1 hn)⟩
  · refine ⟨_, cap, hv, .inr ⟨g, 0, rfl, fun i hi => ?_⟩⟩
    obtain ⟨u, hu, a, c, rfl, hs, hc⟩ := hx i hi
    have := hh.cells (g := g) (by rw [hv]; rfl) i _ hu
    rw [show (⟨g, 0, none⟩ : Addr).add i = ⟨g, 0 + i, none⟩ from by unfold Addr.add; split <;> simp_all] at this
    exact ⟨a, c, this, hs.at, hc⟩

end Go.Proofs.YtifbnojkjbjngaaDoor
