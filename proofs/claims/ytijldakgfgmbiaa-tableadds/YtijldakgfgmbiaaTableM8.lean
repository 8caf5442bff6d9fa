/- Laid together: Stepj. -/
import Derived.Test.YtijldakgfgmbiaaTableM7
/- What holds behind an act, whichever it is. -/
namespace Go.Proofs.Ytijldakgfgmbiaa
open Go.RowKit

theorem EntsAt.grown {w w' : World} {a : Option Addr} {l : List EntD} {r : Option Nat} (h : EntsAt w a l) (hg : w.grownBy w' r) (hr : ∀ b, a = some b → r ≠ some b.block) : EntsAt w' a l := by
  by_cases hl : l = []
  · exact .inl hl
  · rcases h with h | ⟨b, o, rfl, hc⟩
    · exact absurd h hl
    · refine .inr ⟨b, o, rfl, fun i hi => ?_⟩
      have hlt := (hc i hi).lt
      have hne : r ≠ some b := hr _ rfl
      have hh : w'.heap[b]? = w.heap[b]? := hg.block b hlt (fun e => hne e.symm)
      obtain ⟨c0, c1, c2, c3, c4⟩ := hc i hi
      have K : ∀ j v, w.cell? ⟨b, j, none⟩ = some v → w'.cell? ⟨b, j, none⟩ = some v := fun j v e => by
        rw [← e]
        simp only [World.cell?, hh]
      exact ⟨K _ _ c0, K _ _ c1, K _ _ c2, K _ _ c3, K _ _ c4⟩
structure StJ (W2 wx : World) (B : Nat) (X : TabD) (ax : Option Addr) (cx : Nat) (aw : Option Addr) (cw : Nat) : Prop where
  hb : Below W2.heap.size W2 wx
  x9 : wx.heap[B]? = some (.cells #[.int .i64 X.dev, .int .i64 X.size, .slice ax X.list.length cx] 24 (0, 0))
  w10 : wx.heap[B + 1]? = some (.cells #[.int .i64 X.dev, .int .i64 X.size, .slice aw X.list.length cw] 24 (0, 0))
  own : OwnEnts wx (B + 2) (.slice ax X.list.length cx) X.list
  wE : ∀ w', wx.grownBy w' (Value.ownBlock (.slice ax X.list.length cx)) → EntsAt w' aw X.list
  wN : NilOk aw cw X.list.length
  sm : RngL X.list ∧ X.list.length ≤ 300
  bl : B + 2 ≤ wx.heap.size ∧ W2.heap.size ≤ B
theorem stJ_bad {W2 wx : World} {B : Nat} (hb : Below W2.heap.size W2 wx) (x9 : wx.heap[B]? = some (.cells #[.int .i64 0, .int .i64 0, .slice none 0 0] 24 (0, 0))) (w10 : wx.heap[B + 1]? = some (.cells #[.int .i64 0, .int .i64 0, .slice none 0 0] 24 (0, 0))) (hB : W2.heap.size ≤ B) : StJ W2 wx B TZ none 0 none 0 :=
  ⟨hb, x9, w10, OwnEnts.nil _ _, fun _ _ => .inl rfl, ⟨Nat.le_refl _, fun _ => rfl⟩, ⟨rngL_nil, by simp [TZ]⟩, (Array.getElem?_eq_some_iff.1 w10).1, hB⟩
/-- a row of one's own, read in a world where a row made before it has been written over -/
theorem own_safe {wx : World} {base : Nat} {u vx : Value} {l : List EntD} {aw : Option Addr} {cw : Nat} (ho : OwnEnts wx base u l) (hu : u = .slice aw l.length cw) (hlt : ∀ g, vx.ownBlock = some g → g < base) : ∀ w', wx.grownBy w' vx.ownBlock → EntsAt w' aw l := fun w' hg => by
  subst hu
  obtain ⟨_, _, e', hE, _⟩ := ho.at
  injection e' with e' _ e''
  subst e'
  refine hE.grown hg (fun b hb hr => ?_)
  have h1 := hlt _ hr
  subst hb
  have h2 := (World.ownsRow.lt ho b.block rfl).1
  omega

structure StR (w WX : World) (r : Nat) (w' : World) : Prop where
  b : Below w.heap.size w w'
  s : WX.heap.size ≤ w'.heap.size
  k : ∀ j, j < WX.heap.size → j ≠ r → w'.heap[j]? = WX.heap[j]?
theorem StR.start {w WX : World} {r : Nat} (h : Below w.heap.size w WX) : StR w WX r WX := ⟨h, Nat.le_refl _, fun _ _ _ => rfl⟩
theorem StR.drew {w WX w' : World} {r : Nat} (h : StR w WX r w') : StR w WX r w'.drew := ⟨Below.drew h.b, h.s, h.k⟩
theorem StR.below {w WX w' w'' : World} {r : Nat} (h : StR w WX r w') (hb : Below w'.heap.size w' w'') : StR w WX r w'' :=
  ⟨nwT h.b hb, Nat.le_trans h.s hb.size, fun j h1 h2 => (hb.block j (Nat.lt_of_lt_of_le h1 h.s)).trans (h.k j h1 h2)⟩
theorem StR.set {w WX w' : World} {r : Nat} (h : StR w WX r w') (hr : w.heap.size ≤ r) (o : Nat) (v : Value) : StR w WX r (w'.setCell ⟨r, o, none⟩ v) :=
  ⟨h.b.setCell (p := ⟨r, o, none⟩) hr _, by simpa using h.s, fun j h1 h2 => (heap_setCell_other w' ⟨r, o, none⟩ j v h2).trans (h.k j h1 h2)⟩
theorem StR.at {w WX w' : World} {r j : Nat} {o : Obj} (h : StR w WX r w') (hj : WX.heap[j]? = some o) (hne : j ≠ r) : w'.heap[j]? = some o := (h.k j (Array.getElem?_eq_some_iff.1 hj).1 hne).trans hj
theorem StR.ents {w WX w' : World} {r : Nat} {a : Option Addr} {l : List EntD} (h : StR w WX r w') (hE : EntsAt WX a l) (hr : l ≠ [] → ∀ b, a = some b → b.block ≠ r) : EntsAt w' a l := by
  by_cases hl : l = []
  · exact .inl hl
  · rcases hE with h2 | ⟨b, o, rfl, hc⟩
    · exact absurd h2 hl
    · refine .inr ⟨b, o, rfl, fun i hi => ?_⟩
      have hlt := (hc i hi).lt
      have hh : w'.heap[b]? = WX.heap[b]? := h.k b hlt (hr hl _ rfl)
      obtain ⟨c0, c1, c2, c3, c4⟩ := hc i hi
      have K : ∀ j v, WX.cell? ⟨b, j, none⟩ = some v → w'.cell? ⟨b, j, none⟩ = some v := fun j v e => by
        rw [← e]
        simp only [World.cell?, hh]
      exact ⟨K _ _ c0, K _ _ c1, K _ _ c2, K _ _ c3, K _ _ c4⟩
def FitT (t : TabD) : Prop := RngL t.list ∧ t.list.length ≤ 300
theorem joinA_mem {l : List EntD} {y : EntD} (P : EntD → Prop) (h : ∀ x ∈ l, P x) (hy : P y) (hg : ∀ x ∈ l, P (growE x y.len)) : ∀ x ∈ joinA l y, P x := by
  unfold joinA
  cases hl : l.getLast? with
  | none => intro x hx; simp at hx; subst hx; exact hy
  | some z =>
    have hz := List.mem_of_getLast? hl
    by_cases ho : onB z y = true
    · simp only [ho, if_true]
      intro x hx
      rcases List.mem_or_eq_of_mem_set hx with h2 | rfl
      · exact h x h2
      · exact hg z hz
    · simp only [ho, Bool.false_eq_true, if_false]
      intro x hx
      rcases List.mem_append.1 hx with h2 | h2
      · exact h x h2
      · simp at h2; subst h2; exact hy
theorem rngL_of {l : List EntD} (hl : l.length ≤ 1000) (h : ∀ x ∈ l, RngE x) : RngL l := ⟨hl, fun _ hi => h _ (getD_mem EZ hi)⟩
theorem RngL.mem {l : List EntD} (h : RngL l) : ∀ x ∈ l, RngE x := fun x hx => by
  obtain ⟨i, hi, rfl⟩ := List.getElem_of_mem hx
  have := h.rng i hi
  simpa [List.getD, hi] using this
theorem joinA_len (l : List EntD) (y : EntD) : (joinA l y).length ≤ l.length + 1 := by
  unfold joinA
  split
  · split
    · rw [List.length_set]; omega
    · simp
  · simp
theorem TokP.fitAdd {t : TabD} (h : TokP t) {n d a : Int} (hy : RngE (newE n d a)) : RngL (joinA t.list (newE n d a)) ∧ (joinA t.list (newE n d a)).length ≤ 300 := by
  have h1 := joinA_len t.list (newE n d a)
  have h2 := h.len
  refine ⟨rngL_of (by omega) (joinA_mem RngE h.rng.mem hy (fun x hx => ?_)), by omega⟩
  have hi := (okFrom_in h.ok x hx).1
  have hr := hi.rng h.s1
  have h3 := hi.l0; have h4 := hi.f0; have h5 := hi.fl; have h6 := h.s1
  exact ⟨hr.1, ⟨by simp only [growE, newE]; omega, by simp only [growE, newE]; omega⟩, hr.2.2⟩
theorem TokP.fitLose {t : TabD} (h : TokP t) {k : Nat} (hk : k < t.list.length) : RngL (t.list.set k (incE (t.list.getD k EZ))) ∧ (t.list.set k (incE (t.list.getD k EZ))).length ≤ 300 := by
  have h2 := h.len
  refine ⟨rngL_of (by rw [List.length_set]; omega) (fun x hx => ?_), by rw [List.length_set]; omega⟩
  rcases List.mem_or_eq_of_mem_set hx with h3 | rfl
  · exact h.rng.mem x h3
  · have hi := h.inE hk
    have hr := hi.rng h.s1
    have h3 := hi.s0; have h4 := hi.sl; have h5 := hi.f0; have h6 := hi.fl; have h7 := h.s1
    exact ⟨hr.1, hr.2.1, hr.2.2.1, hr.2.2.2.1, by simp only [incE]; omega, by simp only [incE]; omega⟩
theorem TokP.fitTidy {t : TabD} (h : TokP t) : RngL (restE t.list) ∧ (restE t.list).length ≤ 300 := by
  have h2 := h.len
  have h3 := restE_len t.list
  exact ⟨rngL_of (by omega) (fun x hx => h.rng.mem x (List.mem_filter.1 hx).1), by omega⟩

end Go.Proofs.Ytijldakgfgmbiaa
