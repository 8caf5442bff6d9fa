/- Laid together: Stepj, Backm, Backl, Backw. -/
import Derived.Test.YtijldakgfgmbiaaTableM7
/- What holds behind an act, whichever it is. -/
namespace Go.Proofs.Ytijldakgfgmbiaa
open Go.RowKit

theorem EntsAt.grown {w w' : World} {a : Option Addr} {l : List EntD} {r : Option Nat} (h : EntsAt w a l) (hg : w.grownBy w' r) (hr : ∀ b, a = some b → r ≠ some b.block) : EntsAt w' a l := by
  by_cases hl : l = []
  · exact .inl hl
  · rcases h with h | ⟨b, o, rfl, hc⟩
    · exact absurd h hl
    · refine .inr ⟨b, o, rfl, fun i hi => ?_⟩
      have hlt := (hc i hi).lt
      have hne : r ≠ some b := hr _ rfl
      have hh : w'.heap[b]? = w.heap[b]? := hg.block b hlt (fun e => hne e.symm)
      obtain ⟨c0, c1, c2, c3, c4⟩ := hc i hi
      have K : ∀ j v, w.cell? ⟨b, j, none⟩ = some v → w'.cell? ⟨b, j, none⟩ = some v := fun j v e => by
        rw [← e]
        simp only [World.cell?, hh]
      exact ⟨K _ _ c0, K _ _ c1, K _ _ c2, K _ _ c3, K _ _ c4⟩
structure StJ (W2 wx : World) (B : Nat) (X : TabD) (ax : Option Addr) (cx : Nat) (aw : Option Addr) (cw : Nat) : Prop where
  hb : Below W2.heap.size W2 wx
  x9 : wx.heap[B]? = some (.cells #[.int .i64 X.dev, .int .i64 X.size, .slice ax X.list.length cx] 24 (0, 0))
  w10 : wx.heap[B + 1]? = some (.cells #[.int .i64 X.dev, .int .i64 X.size, .slice aw X.list.length cw] 24 (0, 0))
  own : OwnEnts wx (B + 2) (.slice ax X.list.length cx) X.list
  wE : ∀ w', wx.grownBy w' (Value.ownBlock (.slice ax X.list.length cx)) → EntsAt w' aw X.list
  wN : NilOk aw cw X.list.length
  sm : RngL X.list ∧ X.list.length ≤ 300
  bl : B + 2 ≤ wx.heap.size ∧ W2.heap.size ≤ B
theorem stJ_bad {W2 wx : World} {B : Nat} (hb : Below W2.heap.size W2 wx) (x9 : wx.heap[B]? = some (.cells #[.int .i64 0, .int .i64 0, .slice none 0 0] 24 (0, 0))) (w10 : wx.heap[B + 1]? = some (.cells #[.int .i64 0, .int .i64 0, .slice none 0 0] 24 (0, 0))) (hB : W2.heap.size ≤ B) : StJ W2 wx B TZ none 0 none 0 :=
  ⟨hb, x9, w10, OwnEnts.nil _ _, fun _ _ => .inl rfl, ⟨Nat.le_refl _, fun _ => rfl⟩, ⟨rngL_nil, by simp [TZ]⟩, (Array.getElem?_eq_some_iff.1 w10).1, hB⟩
/-- a row of one's own, read in a world where a row made before it has been written over -/
theorem own_safe {wx : World} {base : Nat} {u vx : Value} {l : List EntD} {aw : Option Addr} {cw : Nat} (ho : OwnEnts wx base u l) (hu : u = .slice aw l.length cw) (hlt : ∀ g, vx.ownBlock = some g → g < base) : ∀ w', wx.grownBy w' vx.ownBlock → EntsAt w' aw l := fun w' hg => by
  subst hu
  obtain ⟨_, _, e', hE, _⟩ := ho.at
  injection e' with e' _ e''
  subst e'
  refine hE.grown hg (fun b hb hr => ?_)
  have h1 := hlt _ hr
  subst hb
  have h2 := (World.ownsRow.lt ho b.block rfl).1
  omega

structure StR (w WX : World) (r : Nat) (w' : World) : Prop where
  b : Below w.heap.size w w'
  s : WX.heap.size ≤ w'.heap.size
  k : ∀ j, j < WX.heap.size → j ≠ r → w'.heap[j]? = WX.heap[j]?
theorem StR.start {w WX : World} {r : Nat} (h : Below w.heap.size w WX) : StR w WX r WX := ⟨h, Nat.le_refl _, fun _ _ _ => rfl⟩
theorem StR.drew {w WX w' : World} {r : Nat} (h : StR w WX r w') : StR w WX r w'.drew := ⟨Below.drew h.b, h.s, h.k⟩
theorem StR.below {w WX w' w'' : World} {r : Nat} (h : StR w WX r w') (hb : Below w'.heap.size w' w'') : StR w WX r w'' :=
  ⟨nwT h.b hb, Nat.le_trans h.s hb.size, fun j h1 h2 => (hb.block j (Nat.lt_of_lt_of_le h1 h.s)).trans (h.k j h1 h2)⟩
theorem StR.set {w WX w' : World} {r : Nat} (h : StR w WX r w') (hr : w.heap.size ≤ r) (o : Nat) (v : Value) : StR w WX r (w'.setCell ⟨r, o, none⟩ v) :=
  ⟨h.b.setCell (p := ⟨r, o, none⟩) hr _, by simpa using h.s, fun j h1 h2 => (heap_setCell_other w' ⟨r, o, none⟩ j v h2).trans (h.k j h1 h2)⟩
theorem StR.at {w WX w' : World} {r j : Nat} {o : Obj} (h : StR w WX r w') (hj : WX.heap[j]? = some o) (hne : j ≠ r) : w'.heap[j]? = some o := (h.k j (Array.getElem?_eq_some_iff.1 hj).1 hne).trans hj
theorem StR.ents {w WX w' : World} {r : Nat} {a : Option Addr} {l : List EntD} (h : StR w WX r w') (hE : EntsAt WX a l) (hr : l ≠ [] → ∀ b, a = some b → b.block ≠ r) : EntsAt w' a l := by
  by_cases hl : l = []
  · exact .inl hl
  · rcases hE with h2 | ⟨b, o, rfl, hc⟩
    · exact absurd h2 hl
    · refine .inr ⟨b, o, rfl, fun i hi => ?_⟩
      have hlt := (hc i hi).lt
      have hh : w'.heap[b]? = WX.heap[b]? := h.k b hlt (hr hl _ rfl)
      obtain ⟨c0, c1, c2, c3, c4⟩ := hc i hi
      have K : ∀ j v, WX.cell? ⟨b, j, none⟩ = some v → w'.cell? ⟨b, j, none⟩ = some v := fun j v e => by
        rw [← e]
        simp only [World.cell?, hh]
      exact ⟨K _ _ c0, K _ _ c1, K _ _ c2, K _ _ c3, K _ _ c4⟩
def FitT (t : TabD) : Prop := RngL t.list ∧ t.list.length ≤ 300
theorem joinA_mem {l : List EntD} {y : EntD} (P : EntD → Prop) (h : ∀ x ∈ l, P x) (hy : P y) (hg : ∀ x ∈ l, P (growE x y.len)) : ∀ x ∈ joinA l y, P x := by
  unfold joinA
  cases hl : l.getLast? with
  | none => intro x hx; simp at hx; subst hx; exact hy
  | some z =>
    have hz := List.mem_of_getLast? hl
    by_cases ho : onB z y = true
    · simp only [ho, if_true]
      intro x hx
      rcases List.mem_or_eq_of_mem_set hx with h2 | rfl
      · exact h x h2
      · exact hg z hz
    · simp only [ho, Bool.false_eq_true, if_false]
      intro x hx
      rcases List.mem_append.1 hx with h2 | h2
      · exact h x h2
      · simp at h2; subst h2; exact hy
theorem rngL_of {l : List EntD} (hl : l.length ≤ 1000) (h : ∀ x ∈ l, RngE x) : RngL l := ⟨hl, fun _ hi => h _ (getD_mem EZ hi)⟩
theorem RngL.mem {l : List EntD} (h : RngL l) : ∀ x ∈ l, RngE x := fun x hx => by
  obtain ⟨i, hi, rfl⟩ := List.getElem_of_mem hx
  have := h.rng i hi
  simpa [List.getD, hi] using this
theorem joinA_len (l : List EntD) (y : EntD) : (joinA l y).length ≤ l.length + 1 := by
  unfold joinA
  split
  · split
    · rw [List.length_set]; omega
    · simp
  · simp
theorem TokP.fitAdd {t : TabD} (h : TokP t) {n d a : Int} (hy : RngE (newE n d a)) : RngL (joinA t.list (newE n d a)) ∧ (joinA t.list (newE n d a)).length ≤ 300 := by
  have h1 := joinA_len t.list (newE n d a)
  have h2 := h.len
  refine ⟨rngL_of (by omega) (joinA_mem RngE h.rng.mem hy (fun x hx => ?_)), by omega⟩
  have hi := (okFrom_in h.ok x hx).1
  have hr := hi.rng h.s1
  have h3 := hi.l0; have h4 := hi.f0; have h5 := hi.fl; have h6 := h.s1
  exact ⟨hr.1, ⟨by simp only [growE, newE]; omega, by simp only [growE, newE]; omega⟩, hr.2.2⟩
theorem TokP.fitLose {t : TabD} (h : TokP t) {k : Nat} (hk : k < t.list.length) : RngL (t.list.set k (incE (t.list.getD k EZ))) ∧ (t.list.set k (incE (t.list.getD k EZ))).length ≤ 300 := by
  have h2 := h.len
  refine ⟨rngL_of (by rw [List.length_set]; omega) (fun x hx => ?_), by rw [List.length_set]; omega⟩
  rcases List.mem_or_eq_of_mem_set hx with h3 | rfl
  · exact h.rng.mem x h3
  · have hi := h.inE hk
    have hr := hi.rng h.s1
    have h3 := hi.s0; have h4 := hi.sl; have h5 := hi.f0; have h6 := hi.fl; have h7 := h.s1
    exact ⟨hr.1, hr.2.1, hr.2.2.1, hr.2.2.2.1, by simp only [incE]; omega, by simp only [incE]; omega⟩
theorem TokP.fitTidy {t : TabD} (h : TokP t) : RngL (restE t.list) ∧ (restE t.list).length ≤ 300 := by
  have h2 := h.len
  have h3 := restE_len t.list
  exact ⟨rngL_of (by omega) (fun x hx => h.rng.mem x (List.mem_filter.1 hx).1), by omega⟩

end Go.Proofs.Ytijldakgfgmbiaa

/- What is laid, looked up and lost: the mathematics of TableBack. -/
namespace Go.Proofs.Ytijldakgfgmbiaa
open Go.RowKit

/-- where a sector lies by a row of entries -/
def atL (l : List EntD) (s : Int) : Option (Int × Int) := (l.find? (hasB · s)).map fun x => (x.dev, plc x s)
theorem inT_at {l : List EntD} {s : Int} {k : Nat} (h : inT l s = some k) : k < l.length ∧ hasB (l.getD k EZ) s = true ∧ atL l s = some ((l.getD k EZ).dev, plc (l.getD k EZ) s) := by
  unfold inT at h
  obtain ⟨hk, hp, hn⟩ := List.findIdx?_eq_some_iff_getElem.1 h
  have e : l.getD k EZ = l[k] := by simp [List.getD, hk]
  refine ⟨hk, by rw [e]; exact hp, ?_⟩
  have hf : l.find? (hasB · s) = some l[k] := by
    rw [List.find?_eq_some_iff_getElem]
    exact ⟨hp, k, hk, rfl, fun j hj => by simpa using hn j hj⟩
  unfold atL
  rw [hf, e]; rfl
theorem inT_no {l : List EntD} {s : Int} (h : inT l s = none) : atL l s = none := by
  unfold inT at h
  rw [List.findIdx?_eq_none_iff] at h
  have hf : l.find? (hasB · s) = none := by
    rw [List.find?_eq_none]
    intro x hx
    simpa using h x hx
  unfold atL
  rw [hf]; rfl
theorem okFrom_lt {d s : Int} {x : EntD} : ∀ {l : List EntD} {m : Int}, okFrom d s m (l ++ [x]) = true → ∀ y ∈ l, y.frm + y.len ≤ x.frm := by
  intro l
  induction l with
  | nil => intro m _ y hy; cases hy
  | cons z r ih =>
    intro m h y hy
    rw [List.cons_append, okFrom_cons] at h
    rcases List.mem_cons.1 hy with rfl | hy
    · exact (okFrom_in h.2.2 x (by simp)).2
    · exact ih h.2.2 y hy
theorem okFrom_pair {d s : Int} : ∀ {l : List EntD} {m : Int}, okFrom d s m l = true → ∀ i j, i < j → j < l.length → (l.getD i EZ).frm + (l.getD i EZ).len ≤ (l.getD j EZ).frm := by
  intro l
  induction l with
  | nil => intro m _ i j _ hj; simp at hj
  | cons z r ih =>
    intro m h i j hij hj
    rw [okFrom_cons] at h
    cases j with
    | zero => omega
    | succ j =>
      have hj' : j < r.length := by simpa using hj
      cases i with
      | zero => exact (okFrom_in h.2.2 _ (getD_mem EZ hj')).2
      | succ i => exact ih h.2.2 i j (by omega) hj'
theorem endT_snoc (l : List EntD) (x : EntD) : endT (l ++ [x]) = x.frm + x.len := by unfold endT; simp
theorem ends_le {d s m : Int} {l : List EntD} (h : okFrom d s m l = true) : ∀ y ∈ l, y.frm + y.len ≤ endT l := by
  rcases List.eq_nil_or_concat l with rfl | ⟨r, x, rfl⟩
  · intro y hy; cases hy
  · rw [List.concat_eq_append] at h ⊢
    intro y hy
    rw [endT_snoc]
    have hx := (okFrom_in h x (by simp)).1
    have h1 := hx.l0
    rcases List.mem_append.1 hy with hy | hy
    · have := okFrom_lt h y hy; omega
    · obtain rfl : y = x := by simpa using hy
      omega
theorem joinA_snoc (l : List EntD) (x y : EntD) : joinA (l ++ [x]) y = if onB x y then l ++ [growE x y.len] else l ++ [x] ++ [y] := by
  unfold joinA
  simp only [List.getLast?_append, List.getLast?_singleton, Option.some_or, List.length_append, List.length_singleton]
  split
  · rw [Nat.add_sub_cancel, List.set_append]
    simp
  · rfl
theorem hasB_snoc_no {l : List EntD} {n : Int} (h : ∀ y ∈ l, y.frm + y.len ≤ n) : l.find? (hasB · n) = none := by
  rw [List.find?_eq_none]
  intro x hx
  have := h x hx
  rw [hasB_iff]; omega
/-- sectors of a table with a new one behind -/
theorem atL_join {S : Int} {l : List EntD} {n d a : Int} (h : TokP ⟨1, S, l⟩) (hn : endT l ≤ n) (s : Int) : atL (joinA l (newE n d a)) s = if s = n then some (d, a) else atL l s := by
  have hn1 : ∀ y ∈ l, y.frm + y.len ≤ n := fun y hy => Int.le_trans (ends_le h.ok y hy) hn
  have app : atL (l ++ [newE n d a]) s = if s = n then some (d, a) else atL l s := by
    unfold atL
    rw [List.find?_append]
    split
    · rename_i e
      subst e
      rw [hasB_snoc_no hn1]
      simp [hasB, newE, plc]
      omega
    · rename_i e
      have : List.find? (hasB · s) [newE n d a] = none := by
        rw [List.find?_eq_none]
        intro x hx
        obtain rfl : x = newE n d a := by simpa using hx
        rw [hasB_iff]; simp only [newE]; omega
      rw [this]
      cases l.find? (hasB · s) <;> rfl
  rcases List.eq_nil_or_concat l with rfl | ⟨r, x, rfl⟩
  · exact app
  · rw [List.concat_eq_append] at h hn hn1 app ⊢
    rw [joinA_snoc]
    split
    · rename_i ho
      simp only [onB, Bool.and_eq_true, decide_eq_true_eq] at ho
      obtain ⟨⟨h1, h2⟩, h3⟩ := ho
      simp only [newE] at h1 h2 h3
      unfold plc at h3
      have hx0 := (okFrom_in h.ok x (by simp)).1.l0
      unfold atL
      rw [List.find?_append, List.find?_append]
      cases hr : r.find? (hasB · s) with
      | some z =>
        have hz := List.find?_some hr
        have hz2 := hn1 z (List.mem_append_left _ (List.mem_of_find?_eq_some hr))
        have hz3 := hasB_iff.1 hz
        rw [if_neg (by omega)]
        rfl
      | none =>
        by_cases e : s = n
        · subst e
          rw [if_pos rfl]
          have : hasB (growE x (newE s d a).len) s = true := by rw [hasB_iff]; simp only [growE, newE]; omega
          simp only [List.find?_cons, this, Option.none_or, Option.map_some]
          simp only [growE, plc]
          rw [h2]
          have : x.tgt + s - x.frm = a := by omega
          rw [this]
        · rw [if_neg e]
          have : hasB (growE x (newE n d a).len) s = hasB x s := by
            rw [Bool.eq_iff_iff, hasB_iff, hasB_iff]; simp only [growE, newE]; omega
          simp only [List.find?_cons, this, Option.none_or]
          cases hasB x s <;> rfl
    · exact app
theorem tok_join {S : Int} {l : List EntD} {n d a : Int} (h : TokP ⟨1, S, l⟩) (h2 : TokP (moreT ⟨1, S, l⟩ [newE n d a])) (ha : a ≤ 63) : TokP ⟨1, S, joinA l (newE n d a)⟩ ∧ endT (joinA l (newE n d a)) = n + 1 := by
  have app : TokP ⟨1, S, l ++ [newE n d a]⟩ ∧ endT (l ++ [newE n d a]) = n + 1 := ⟨h2, by rw [endT_snoc]; rfl⟩
  rcases List.eq_nil_or_concat l with rfl | ⟨r, x, rfl⟩
  · exact app
  · rw [List.concat_eq_append] at h h2 app ⊢
    rw [joinA_snoc]
    split
    · rename_i ho
      simp only [onB, Bool.and_eq_true, decide_eq_true_eq] at ho
      obtain ⟨⟨h3, h4⟩, h5⟩ := ho
      simp only [newE] at h3 h4 h5
      unfold plc at h5
      have hx := (okFrom_in h.ok x (by simp)).1
      have hy := (okFrom_in h2.ok (newE n d a) (by simp [moreT])).1
      have y1 := hy.fl
      simp only [newE, moreT] at y1
      have x1 := hx.l0; have x2 := hx.f0; have x3 := hx.t0; have x4 := hx.sl
      obtain ⟨o1, o2, o3⟩ := okFrom_snoc.1 h.ok
      refine ⟨⟨h.d0, h.d1, h.s0, h.s1, okFrom_snoc.2 ⟨o1, o2, ?_⟩⟩, ?_⟩
      · exact ⟨x2, by simp only [growE, newE]; omega, by simp only [growE, newE]; omega, x3, by simp only [growE, newE]; omega, hx.d0, hx.d1, hx.dn, hx.s0, by simp only [growE, newE]; omega⟩
      · rw [endT_snoc]; simp only [growE, newE]; omega
    · exact app
theorem fresh_join {l : List EntD} {n d a : Int} (h : ∀ x ∈ l, x.stale = 0) : ∀ x ∈ joinA l (newE n d a), x.stale = 0 :=
  joinA_mem (fun x => x.stale = 0) h rfl (fun x hx => h x hx)
theorem fmap_id {α : Type} {f : α → Option α} : ∀ {l : List α}, (∀ x ∈ l, f x = some x) → l.filterMap f = l := by
  intro l
  induction l with
  | nil => intro _; rfl
  | cons x r ih =>
    intro h
    rw [List.filterMap_cons, h x (List.mem_cons_self ..)]
    show x :: _ = _
    rw [ih (fun y hy => h y (List.mem_cons_of_mem _ hy))]
theorem rngL_whole {S : Int} {l : List EntD} (h : TokP ⟨1, S, l⟩) (h0 : ∀ x ∈ l, x.stale = 0) : rngL l (min 0 S) (min 0 S + S) = l := by
  have h1 : (1 : Int) ≤ S := h.s0
  rw [show min 0 S = 0 from by omega]
  refine fmap_id fun x hx => ?_
  have hi := (okFrom_in h.ok x hx).1
  have h2 := hi.f0; have h3 := hi.l0; have h4 : x.frm + x.len ≤ S := hi.fl
  have h5 := h0 x hx
  unfold cutD
  rw [show max 0 x.frm = x.frm from by omega, show min (0 + S) (x.frm + x.len) = x.frm + x.len from by omega, if_pos (by omega)]
  obtain ⟨f, l', d, t, st⟩ := x
  simp only at h5
  subst h5
  simp only [plc]
  congr 2 <;> omega
/-- the sectors below one are lost -/
def lostN (x : EntD) (s : Int) : Int := max 0 (min (s - x.frm) x.len)
def lostE (s : Int) (x : EntD) : EntD := ⟨x.frm, x.len, x.dev, x.tgt, lostN x s⟩
def lostL (l : List EntD) (s : Int) : List EntD := l.map (lostE s)
theorem lostL_len (l : List EntD) (s : Int) : (lostL l s).length = l.length := by unfold lostL; simp
theorem lostL_get {l : List EntD} {s : Int} {k : Nat} (hk : k < l.length) : (lostL l s).getD k EZ = lostE s (l.getD k EZ) := by
  unfold lostL; simp [List.getD, hk]
theorem inT_lost (l : List EntD) (s n : Int) : inT (lostL l s) n = inT l n := by
  unfold inT lostL
  rw [List.findIdx?_map]
  rfl
theorem okFrom_lost {d S s : Int} : ∀ {l : List EntD} {m : Int}, okFrom d S m l = true → okFrom d S m (lostL l s) = true := by
  intro l
  induction l with
  | nil => intro m _; rfl
  | cons x r ih =>
    intro m h
    obtain ⟨h1, h2, h3⟩ := okFrom_cons.1 h
    refine okFrom_cons.2 ⟨h1, ?_, ih h3⟩
    have h4 := h2.l0
    exact ⟨h2.f0, h2.l0, h2.fl, h2.t0, h2.tl, h2.d0, h2.d1, h2.dn, by simp only [lostE, lostN]; omega, by simp only [lostE, lostN]; omega⟩
theorem tok_lost {S s : Int} {l : List EntD} (h : TokP ⟨1, S, l⟩) : TokP ⟨1, S, lostL l s⟩ := ⟨h.d0, h.d1, h.s0, h.s1, okFrom_lost h.ok⟩
theorem lost_start {S : Int} {l : List EntD} (h : TokP ⟨1, S, l⟩) (h0 : ∀ x ∈ l, x.stale = 0) : lostL l 0 = l := by
  unfold lostL
  conv => rhs; rw [← List.map_id l]
  refine List.map_congr_left fun x hx => ?_
  have hi := (okFrom_in h.ok x hx).1
  have h2 := hi.f0; have h3 := hi.l0
  have h5 := h0 x hx
  obtain ⟨f, l', d, t, st⟩ := x
  simp only at h5 h2 h3
  subst h5
  simp only [lostE, lostN, id]
  congr 1; omega
theorem list_eqD {l r : List EntD} (h : l.length = r.length) (hg : ∀ i, i < l.length → l.getD i EZ = r.getD i EZ) : l = r := by
  refine List.ext_getElem h fun i h1 h2 => ?_
  have := hg i h1
  simpa [List.getD, h1, h2] using this
theorem lost_skip {l : List EntD} {s : Int} (h : inT l s = none) : lostL l (s + 1) = lostL l s := by
  unfold inT at h
  rw [List.findIdx?_eq_none_iff] at h
  unfold lostL
  refine List.map_congr_left fun x hx => ?_
  have := h x hx
  have h2 : ¬ (x.frm ≤ s ∧ s < x.frm + x.len) := fun h3 => by rw [hasB_iff.2 h3] at this; cases this
  simp only [lostE, lostN]
  congr 1; omega
theorem lost_step {S s : Int} {l : List EntD} {k : Nat} (h : TokP ⟨1, S, l⟩) (hk : inT l s = some k) :
    ((lostL l s).getD k EZ).stale ≠ ((lostL l s).getD k EZ).len ∧ (lostL l s).set k (incE ((lostL l s).getD k EZ)) = lostL l (s + 1) := by
  obtain ⟨h1, h2, _⟩ := inT_at hk
  have h2 := hasB_iff.1 h2
  rw [lostL_get h1]
  refine ⟨by simp only [lostE, lostN]; omega, ?_⟩
  refine list_eqD (by rw [List.length_set, lostL_len, lostL_len]) fun i hi => ?_
  rw [List.length_set, lostL_len] at hi
  rw [lostL_get hi]
  by_cases e : i = k
  · subst e
    have : ((lostL l s).set i (incE (lostE s (l.getD i EZ)))).getD i EZ = incE (lostE s (l.getD i EZ)) := by
      rw [List.getD, List.getElem?_set_self (by rw [lostL_len]; exact hi)]; rfl
    rw [this]
    simp only [incE, lostE, lostN]
    congr 1; omega
  · have : ((lostL l s).set k (incE (lostE s (l.getD k EZ)))).getD i EZ = (lostL l s).getD i EZ := by
      rw [List.getD, List.getElem?_set_ne (by omega)]; rfl
    rw [this, lostL_get hi]
    have hp : (l.getD i EZ).frm + (l.getD i EZ).len ≤ s ∨ s < (l.getD i EZ).frm := by
      rcases Nat.lt_or_gt_of_ne e with e | e
      · have := okFrom_pair h.ok i k e h1; exact .inl (by simp only at this; omega)
      · have := okFrom_pair h.ok k i e hi; exact .inr (by simp only at this; omega)
    simp only [lostE, lostN]
    congr 1; omega
theorem lost_end {S : Int} {l : List EntD} (h : TokP ⟨1, S, l⟩) : restE (lostL l S) = [] ∧ liveL (lostL l S) = 0 := by
  have hz : ∀ x ∈ lostL l S, x.stale = x.len := by
    intro y hy
    obtain ⟨x, hx, rfl⟩ := List.mem_map.1 hy
    have hi := (okFrom_in h.ok x hx).1
    have h2 := hi.f0; have h3 := hi.l0; have h4 : x.frm + x.len ≤ S := hi.fl
    simp only [lostE, lostN]; omega
  refine ⟨?_, ?_⟩
  · unfold restE
    rw [List.filter_eq_nil_iff]
    intro x hx
    have := hz x hx
    simp [stayE, gone, this]
  · generalize lostL l S = r at hz
    induction r with
    | nil => rfl
    | cons x r ih =>
      have h1 := hz x (List.mem_cons_self ..)
      have h2 := ih (fun y hy => hz y (List.mem_cons_of_mem _ hy))
      unfold liveL at h2 ⊢
      simp only [List.map_cons, List.sum_cons]
      omega

end Go.Proofs.Ytijldakgfgmbiaa

/- The program's calls, where a table may be: for TableBack. -/
namespace Go.Proofs.Ytijldakgfgmbiaa
open Go.RowKit

theorem OwnEnts.look {w : World} {base n c : Nat} {a : Option Addr} {l : List EntD} (h : OwnEnts w base (.slice a n c) l) (hl : l ≠ []) : ∃ g, a = some ⟨g, 0, none⟩ ∧ base ≤ g := by
  obtain ⟨_, hz⟩ := h.zero
  obtain ⟨g, e, h1⟩ := hz (List.length_pos_iff.2 hl)
  exact ⟨g, e, h1⟩
theorem add_ok (v : Value) (S : Int) (l : List EntD) (n d a : Int) (w : World) (hv : TabVal w v ⟨1, S, l⟩) (ht : TokP ⟨1, S, l⟩) (h1 : endT l ≤ n) (h2 : n ≤ S - 1) (h3 : 1 ≤ d) (h4 : d ≤ 40) (h5 : d ≠ 1) (h6 : 0 ≤ a) (h7 : a ≤ 63) :
    TokP (moreT ⟨1, S, l⟩ [newE n d a]) ∧ Calls Try.prog 13 #[v, .int .i64 n, .agg #[.int .i64 d, .int .i64 a]] w fun e w' => (∃ u, e = .returned (.tuple #[.agg #[.int .i64 1, .int .i64 S, u], .int .i64 0]) ∧ OwnEnts w' w.heap.size u (joinA l (newE n d a))) ∧ Below w.heap.size w w' := by
  have hm := (tok_new ht n d a).2 ⟨h1, h2, h3, h4, h5, h6, h7⟩
  have hs := ht.s1
  have hlen := ht.len
  simp only at hs hlen
  have hn0 : 0 ≤ n := by
    have := (okFrom_in (tok_iff.1 hm).ok (newE n d a) (by simp [moreT])).1.f0
    exact this
  refine ⟨tok_iff.1 hm, ?_⟩
  refine (add_any v ⟨1, S, l⟩ n d a w hv ht.rng (by simp only; omega) ⟨by omega, by omega⟩ ⟨by omega, by omega⟩ ⟨by omega, by omega⟩).mono ?_
  rintro e w' ⟨h, hb⟩
  refine ⟨?_, hb⟩
  rcases h with ⟨h | h, _⟩ | ⟨_, v, rfl, u, rfl, ho⟩
  · rw [tok_iff.2 ht] at h; cases h
  · rw [hm] at h; cases h
  · exact ⟨u, rfl, ho⟩
theorem range_ok (v : Value) (S : Int) (l : List EntD) (w : World) (hv : TabVal w v ⟨1, S, l⟩) (ht : TokP ⟨1, S, l⟩) (h0 : ∀ x ∈ l, x.stale = 0) :
    Calls Try.prog 15 #[v, .int .i64 0, .int .i64 S] w fun e w' => (∃ u, e = .returned (.tuple #[u, .int .i64 0]) ∧ OwnEnts w' w.heap.size u l) ∧ Below w.heap.size w w' := by
  have hs := ht.s1
  have hs0 := ht.s0
  simp only at hs hs0
  refine (range_any v ⟨1, S, l⟩ 0 S w hv ht.rng ⟨by omega, by omega⟩).mono ?_
  rintro e w' ⟨h, hb⟩
  refine ⟨?_, hb⟩
  rcases h with ⟨h | h | h, _⟩ | ⟨_, v, rfl, ho⟩
  · rw [tok_iff.2 ht] at h; cases h
  · omega
  · omega
  · refine ⟨v, rfl, ?_⟩
    have e := rngL_whole ht h0
    simp only at ho
    rwa [e] at ho
theorem look_ok (v : Value) (S : Int) (l : List EntD) (s : Int) (w : World) (hv : TabVal w v ⟨1, S, lostL l s⟩) (ht : TokP ⟨1, S, l⟩) :
    Calls Try.prog 16 #[v, .int .i64 s] w fun e w' => e = .returned (match inT l s with | some k => .tuple #[ptrV (l.getD k EZ).dev (plc (l.getD k EZ) s), .int .i64 0] | none => .tuple #[ptrV 0 0, .int .i64 3]) ∧ Below w.heap.size w w' := by
  refine (look_any v _ s w hv (tok_lost ht).rng).mono ?_
  rintro e w' ⟨rfl, hb⟩
  refine ⟨?_, hb⟩
  unfold lookR
  rw [tok_iff.2 (tok_lost ht)]
  simp only [inT_lost, if_true]
  cases hk : inT l s with
  | none => rfl
  | some k =>
    have := (inT_at hk).1
    simp only [lostL_get this]
    rfl
theorem lose_ok (v : Value) (S : Int) (l : List EntD) (s : Int) (k : Nat) (w : World) (hv : TabVal w v ⟨1, S, lostL l s⟩) (ht : TokP ⟨1, S, l⟩) (hk : inT l s = some k) :
    Calls Try.prog 17 #[v, .int .i64 s] w fun e w' => (∃ u, e = .returned (.tuple #[.agg #[.int .i64 1, .int .i64 S, u], .int .i64 0]) ∧ OwnEnts w' w.heap.size u (lostL l (s + 1))) ∧ Below w.heap.size w w' := by
  refine (lose_any v _ s w hv (tok_lost ht).rng).mono ?_
  rintro e w' ⟨h, hb⟩
  refine ⟨?_, hb⟩
  obtain ⟨q1, q2⟩ := lost_step ht hk
  rcases h with ⟨h, _⟩ | ⟨_, h, _⟩ | ⟨_, k', h, _, h2⟩
  · rw [tok_iff.2 (tok_lost ht)] at h; cases h
  · simp only [inT_lost, hk] at h; cases h
  · simp only [inT_lost, hk, Option.some.injEq] at h
    subst h
    rcases h2 with ⟨h3, _⟩ | ⟨_, v, rfl, u, rfl, ho⟩
    · exact absurd h3 q1
    · refine ⟨u, rfl, ?_⟩
      simp only at ho
      rwa [q2] at ho
theorem tidy_ok (v : Value) (S : Int) (l : List EntD) (w : World) (hv : TabVal w v ⟨1, S, lostL l S⟩) (ht : TokP ⟨1, S, l⟩) :
    Calls Try.prog 18 #[v] w fun e w' => (∃ u, e = .returned (.tuple #[.agg #[.int .i64 1, .int .i64 S, u], .int .i64 0]) ∧ OwnEnts w' w.heap.size u []) ∧ Below w.heap.size w w' := by
  refine (tidy_any v _ w hv (tok_lost ht).rng).mono ?_
  rintro e w' ⟨h, hb⟩
  refine ⟨?_, hb⟩
  rcases h with ⟨h, _⟩ | ⟨_, v, rfl, u, rfl, ho⟩
  · rw [tok_iff.2 (tok_lost ht)] at h; cases h
  · refine ⟨u, rfl, ?_⟩
    simp only at ho
    rwa [(lost_end ht).1] at ho
theorem live_ok (v : Value) (S : Int) (l : List EntD) (w : World) (hv : TabVal w v ⟨1, S, lostL l S⟩) (ht : TokP ⟨1, S, l⟩) :
    Calls Try.prog 19 #[v] w fun e w' => e = .returned (.tuple #[.int .i64 0, .int .i64 0]) ∧ Below w.heap.size w w' := by
  refine (live_any v _ w hv (tok_lost ht).rng).mono ?_
  rintro e w' ⟨rfl, hb⟩
  refine ⟨?_, hb⟩
  rw [tok_iff.2 (tok_lost ht)]
  simp only [if_true, (lost_end ht).2]
theorem tabp_ok (v : Value) (S : Int) (w : World) (hv : TabVal w v ⟨1, S, []⟩) (h1 : 1 ≤ S) (h2 : S ≤ 64) :
    Calls Try.prog 20 #[v] w fun e w' => e = .returned (.bool true) ∧ Below w.heap.size w w' := by
  refine (rtable_any v _ w hv rngL_nil).mono ?_
  rintro e w' ⟨rfl, hb⟩
  refine ⟨?_, hb⟩
  have : tokB (⟨1, S, []⟩ : TabD) = true := tok_iff.2 ⟨by simp, by simp, h1, h2, rfl⟩
  rw [this]
/-- places, told -/
def pcells (q : Int × Int) : List Value := [.int .i64 q.1, .int .i64 q.2]
def pflat (l : List (Int × Int)) : List Value := l.flatMap pcells
theorem withinN_lt (i : Int) (k : Nat) (hk : 0 < k) : withinN i k < k := by
  unfold withinN
  have h1 : 0 ≤ i % 18446744073709551616 % (k : Int) := Int.emod_nonneg _ (by omega)
  have h2 : i % 18446744073709551616 % (k : Int) < k := Int.emod_lt_of_pos _ (by omega)
  omega

end Go.Proofs.Ytijldakgfgmbiaa

/- TableBack: the worlds of its walk. -/
namespace Go.Proofs.Ytijldakgfgmbiaa
open Go.RowKit

theorem Try.info33 : (Try.prog.info? 33).map (fun i => (i.zero, i.size, i.bytes)) = some (some (.agg #[.int .i64 0, .int .i64 0]), 2, 16) := by kernel_rfl
theorem Try.info4 : (Try.prog.info? 4).map (fun i => (i.zero, i.size, i.bytes)) = some (some (.bool false), 1, 1) := by kernel_rfl
theorem wpList_make_n {P : Program} (w : World) {ops : Array Oper} {rest : List Oper} {o : Oper} {a : Act} {Q : Exit → Act → World → Prop}
    (hg : o.guard = none) (l c : Operand) (t : TypeId) (hop : o.op = Op.makeSlice t l c)
    (e : TypeId) (i : TypeInfo) (z : Value) (size : Nat) (ht : P.underlying t = some (.slice e)) (hi : P.info? e = some i) (hz : i.zero = some z) (hsize : i.size = size)
    (kl kc : IntKind) (n : Nat) (hl : a.eval l = .int kl (n : Int)) (hc : a.eval c = .int kc (n : Int)) (hbytes : i.bytes * n ≤ 281474976710656) (h63 : n ≤ 9223372036854775807)
    (hK : wpList P ops Q rest (a.put o.dst (.slice (some ⟨w.heap.size, 0, none⟩) n n)) (w.alloc (.cells (madeCells z.cells (n * size)) e))) :
    wpList P ops Q (o :: rest) a w := by
  refine wpList_plain hg fun K hK' => ?_
  have hb' : (i.bytes : Int) * (n : Int) ≤ 281474976710656 := by
    have h : ((i.bytes * n : Nat) : Int) ≤ 281474976710656 := by omega
    rwa [Int.natCast_mul] at h
  have hr := run_make (P := P) w t e i z ht hi hz kl kc n n (by omega) (Int.le_refl _) hb' (by omega)
  simp only [Int.toNat_natCast, hsize] at hr
  unfold Oper.wp
  simp [execOp, hop, hl, hc, hr, Result.andThen]
  exact hK' _ _ hK
theorem getD_made (z : Array Value) (n i : Nat) (hi : i < n) : (madeCells z n).toList[i]? = some (z[i % z.size]!) := by
  simp [madeCells, hi]
theorem made_ptr (n : Nat) : (madeCells (Value.agg #[.int .i64 0, .int .i64 0]).cells (n * 2)).toList = pflat (List.replicate n (0, 0)) := by
  have : ∀ n, (pflat (List.replicate n ((0, 0) : Int × Int))) = List.replicate (n * 2) (Value.int .i64 0) := by
    intro n
    induction n with
    | zero => rfl
    | succ n ih =>
      rw [List.replicate_succ]
      have : pflat ((0, 0) :: List.replicate n ((0, 0) : Int × Int)) = .int .i64 0 :: .int .i64 0 :: pflat (List.replicate n (0, 0)) := rfl
      rw [this, ih, show (n + 1) * 2 = n * 2 + 1 + 1 from by omega, List.replicate_succ, List.replicate_succ]
  rw [this]
  refine List.ext_getElem? fun i => ?_
  by_cases hi : i < n * 2
  · rw [getD_made _ _ _ hi, List.getElem?_replicate, if_pos hi]
    have : i % 2 = 0 ∨ i % 2 = 1 := by omega
    rcases this with e | e <;> simp [Value.cells, e]
  · rw [List.getElem?_eq_none (by simp [madeCells]; omega), List.getElem?_eq_none (by simp; omega)]
theorem made_bool (n : Nat) : (madeCells (Value.bool false).cells (n * 1)).toList = (List.replicate n false).map Value.bool := by
  rw [show (Value.bool false).cells = #[Value.bool false] from rfl, toList_madeCells_one]; simp
/-- the table of a script's round, its row clear of the rows told beside it -/
structure BkW (WB wr : World) (Bt S : Nat) (L : List EntD) (ps : List (Int × Int)) (bs : List Bool) : Prop where
  b : Below WB.heap.size WB wr
  lo : WB.heap.size ≤ Bt
  t : ∃ (a : Option Addr) (c : Nat), wr.heap[Bt]? = some (.cells #[.int .i64 1, .int .i64 S, .slice a L.length c] 24 (0, 0)) ∧ EntsAt wr a L ∧ NilOk a c L.length ∧ (L ≠ [] → ∃ g, a = some ⟨g, 0, none⟩ ∧ Bt + 3 ≤ g)
  p : wr.heap[Bt + 1]? = some (.cells (pflat ps).toArray 33 (0, 0))
  l : wr.heap[Bt + 2]? = some (.cells (bs.map Value.bool).toArray 4 (0, 0))
/-- what is laid: every sector's place as it is told -/
structure BkI (S n : Nat) (L : List EntD) (ps : List (Int × Int)) (bs : List Bool) : Prop where
  tok : TokP ⟨1, S, L⟩
  z : ∀ x ∈ L, x.stale = 0
  e : endT L ≤ n
  pl : ps.length = S
  bl : bs.length = S
  loc : ∀ s : Nat, s < S → bs.getD s false = (atL L s).isSome ∧ ∀ q, atL L s = some q → ps.getD s (0, 0) = q
theorem BkI.start {S : Nat} (h1 : 1 ≤ S) (h2 : S ≤ 64) : BkI S 0 [] (List.replicate S (0, 0)) (List.replicate S false) := by
  exact { tok := ⟨by simp, by simp, by simp only; omega, by simp only; omega, rfl⟩, z := fun x hx => (List.not_mem_nil hx).elim, e := by simp [endT], pl := by simp, bl := by simp, loc := fun s hs => ⟨by simp [List.getD, hs, atL], fun q hq => by simp [atL] at hq⟩ }
theorem BkW.below {WB wr w' : World} {Bt S : Nat} {L : List EntD} {ps : List (Int × Int)} {bs : List Bool} (h : BkW WB wr Bt S L ps bs) (hb : Below wr.heap.size wr w') : BkW WB w' Bt S L ps bs := by
  obtain ⟨a, c, h1, h2, h3, h4⟩ := h.t
  have K : ∀ {j : Nat} {o : Obj}, wr.heap[j]? = some o → w'.heap[j]? = some o := fun e => (hb.block _ (Array.getElem?_eq_some_iff.1 e).1).trans e
  exact ⟨nwT h.b hb, h.lo, ⟨a, c, K h1, h2.below hb, h3, h4⟩, K h.p, K h.l⟩

theorem pflat_cons (q : Int × Int) (l : List (Int × Int)) : pflat (q :: l) = .int .i64 q.1 :: .int .i64 q.2 :: pflat l := rfl
theorem pflat_len (l : List (Int × Int)) : (pflat l).length = l.length * 2 := by
  induction l with
  | nil => rfl
  | cons x r ih => rw [pflat_cons, List.length_cons, List.length_cons, ih, List.length_cons]; omega
theorem pflat_get : ∀ (l : List (Int × Int)) (k : Nat), k < l.length → (pflat l)[k * 2]? = some (.int .i64 (l.getD k (0, 0)).1) ∧ (pflat l)[k * 2 + 1]? = some (.int .i64 (l.getD k (0, 0)).2) := by
  intro l
  induction l with
  | nil => intro k hk; simp at hk
  | cons x r ih =>
    intro k hk
    rw [pflat_cons]
    cases k with
    | zero => simp
    | succ k =>
      have := ih k (by simpa using hk)
      rw [show (k + 1) * 2 = k * 2 + 1 + 1 from by omega]
      simp only [List.getElem?_cons_succ]
      simpa [List.getD] using this
theorem pflat_set : ∀ (l : List (Int × Int)) (k : Nat) (q : Int × Int), k < l.length → ((pflat l).set (k * 2) (.int .i64 q.1)).set (k * 2 + 1) (.int .i64 q.2) = pflat (l.set k q) := by
  intro l
  induction l with
  | nil => intro k q hk; simp at hk
  | cons x r ih =>
    intro k q hk
    rw [pflat_cons]
    cases k with
    | zero => simp [pflat_cons]
    | succ k =>
      have := ih k q (by simpa using hk)
      rw [show (k + 1) * 2 = k * 2 + 1 + 1 from by omega]
      simp only [List.set_cons_succ, this, pflat_cons]
theorem EntsAt.same {w w' : World} {a : Option Addr} {l : List EntD} (h : EntsAt w a l) (hb : l ≠ [] → ∀ b, a = some b → w'.heap[b.block]? = w.heap[b.block]?) : EntsAt w' a l := by
  by_cases hl : l = []
  · exact .inl hl
  · rcases h with h2 | ⟨b, o, rfl, hc⟩
    · exact absurd h2 hl
    · have hh := hb hl _ rfl
      simp only at hh
      have K : ∀ j v, w.cell? ⟨b, j, none⟩ = some v → w'.cell? ⟨b, j, none⟩ = some v := fun j v e => by
        rw [← e]
        simp only [World.cell?, hh]
      refine .inr ⟨b, o, rfl, fun i hi => ?_⟩
      obtain ⟨c0, c1, c2, c3, c4⟩ := hc i hi
      exact ⟨K _ _ c0, K _ _ c1, K _ _ c2, K _ _ c3, K _ _ c4⟩
theorem BkW.tab {WB w : World} {Bt S : Nat} {L L3 : List EntD} {ps : List (Int × Int)} {bs : List Bool} (h : BkW WB w Bt S L ps bs) {a3 : Option Addr} {c3 : Nat} (hE : EntsAt w a3 L3) (hN : NilOk a3 c3 L3.length) (hR : L3 ≠ [] → ∃ g, a3 = some ⟨g, 0, none⟩ ∧ Bt + 3 ≤ g) :
    BkW WB (((w.setCell ⟨Bt, 0, none⟩ (.int .i64 1)).setCell ⟨Bt, 1, none⟩ (.int .i64 S)).setCell ⟨Bt, 2, none⟩ (.slice a3 L3.length c3)) Bt S L3 ps bs := by
  obtain ⟨a, c, h1, h2, h3, h4⟩ := h.t
  refine ⟨three_below h.b h.lo, h.lo, ⟨a3, c3, three_set h1, ?_, hN, hR⟩, three_other h.p (by omega), three_other h.l (by omega)⟩
  refine hE.same fun hl b hb => ?_
  obtain ⟨g, e, hg⟩ := hR hl
  rw [hb] at e
  injection e with e
  subst e
  have hne : g ≠ Bt := by omega
  simp only
  rw [heap_setCell_other _ ⟨Bt, 2, none⟩ g _ hne, heap_setCell_other _ ⟨Bt, 1, none⟩ g _ hne, heap_setCell_other _ ⟨Bt, 0, none⟩ g _ hne]
theorem BkW.lay {WB w : World} {Bt S : Nat} {L : List EntD} {ps : List (Int × Int)} {bs : List Bool} (h : BkW WB w Bt S L ps bs) {k : Nat} (hk : k < ps.length) (q0 q1 : Int) :
    BkW WB (((w.setCell ⟨Bt + 1, k * 2, none⟩ (.int .i64 q0)).setCell ⟨Bt + 1, k * 2 + 1, none⟩ (.int .i64 q1)).setCell ⟨Bt + 2, k, none⟩ (.bool true)) Bt S L (ps.set k (q0, q1)) (bs.set k true) := by
  obtain ⟨a, c, h1, h2, h3, h4⟩ := h.t
  have hlo := h.lo
  have K : ∀ j, j ≠ Bt + 1 → j ≠ Bt + 2 → (((w.setCell ⟨Bt + 1, k * 2, none⟩ (.int .i64 q0)).setCell ⟨Bt + 1, k * 2 + 1, none⟩ (.int .i64 q1)).setCell ⟨Bt + 2, k, none⟩ (.bool true)).heap[j]? = w.heap[j]? := fun j j1 j2 => by
    rw [heap_setCell_other _ ⟨Bt + 2, k, none⟩ j _ j2, heap_setCell_other _ ⟨Bt + 1, k * 2 + 1, none⟩ j _ j1, heap_setCell_other _ ⟨Bt + 1, k * 2, none⟩ j _ j1]
  refine ⟨((h.b.setCell (p := ⟨Bt + 1, k * 2, none⟩) (by show WB.heap.size ≤ Bt + 1; omega) _).setCell (p := ⟨Bt + 1, k * 2 + 1, none⟩) (by show WB.heap.size ≤ Bt + 1; omega) _).setCell (p := ⟨Bt + 2, k, none⟩) (by show WB.heap.size ≤ Bt + 2; omega) _, hlo, ⟨a, c, ?_, ?_, h3, h4⟩, ?_, ?_⟩
  · rw [K Bt (by omega) (by omega)]; exact h1
  · refine h2.same fun hl b hb => ?_
    obtain ⟨g, e, hg⟩ := h4 hl
    rw [hb] at e
    injection e with e
    subst e
    exact K g (by omega) (by omega)
  · rw [heap_setCell_other _ ⟨Bt + 2, k, none⟩ (Bt + 1) _ (by show Bt + 1 ≠ Bt + 2; omega)]
    have e1 := heap_setCell_same w (Bt + 1) (k * 2) _ 33 (.int .i64 q0) h.p
    have e2 := heap_setCell_same _ (Bt + 1) (k * 2 + 1) _ 33 (.int .i64 q1) e1
    rw [e2, ← pflat_set ps k (q0, q1) hk]
    simp
  · have h5 : ((w.setCell ⟨Bt + 1, k * 2, none⟩ (.int .i64 q0)).setCell ⟨Bt + 1, k * 2 + 1, none⟩ (.int .i64 q1)).heap[Bt + 2]? = some (.cells (bs.map Value.bool).toArray 4 (0, 0)) := by
      rw [heap_setCell_other _ ⟨Bt + 1, k * 2 + 1, none⟩ (Bt + 2) _ (by show Bt + 2 ≠ Bt + 1; omega), heap_setCell_other _ ⟨Bt + 1, k * 2, none⟩ (Bt + 2) _ (by show Bt + 2 ≠ Bt + 1; omega)]
      exact h.l
    have e1 := heap_setCell_same _ (Bt + 2) k _ 4 (.bool true) h5
    rw [e1]
    simp
theorem BkI.add {S n n2 : Nat} {L : List EntD} {ps : List (Int × Int)} {bs : List Bool} (h : BkI S n L ps bs) {d a : Int} (hn : n ≤ n2) (hs : n2 < S) (hm : TokP (moreT ⟨1, S, L⟩ [newE n2 d a])) (ha : a ≤ 63) : BkI S (n2 + 1) (joinA L (newE n2 d a)) (ps.set n2 (d, a)) (bs.set n2 true) := by
  obtain ⟨t1, t2⟩ := tok_join h.tok hm ha
  have he := h.e
  have hp := h.pl
  have hb := h.bl
  refine { tok := t1, z := fresh_join h.z, e := by rw [t2]; omega, pl := by rw [List.length_set]; exact hp, bl := by rw [List.length_set]; exact hb, loc := fun s hs2 => ?_ }
  rw [atL_join h.tok (by omega) s]
  obtain ⟨l1, l2⟩ := h.loc s hs2
  by_cases e : s = n2
  · subst e
    rw [if_pos rfl]
    refine ⟨by simp [List.getD, hb, hs], fun q hq => ?_⟩
    injection hq with hq
    subst hq
    simp [List.getD, hp, hs]
  · have e2 : ¬ (s : Int) = (n2 : Int) := by omega
    rw [if_neg e2]
    refine ⟨?_, fun q hq => ?_⟩
    · rw [← l1]; simp [List.getD, List.getElem?_set_ne (Ne.symm e)]
    · rw [← l2 q hq]; simp [List.getD, List.getElem?_set_ne (Ne.symm e)]
theorem BkW.ptr {WB w : World} {Bt S : Nat} {L : List EntD} {ps : List (Int × Int)} {bs : List Bool} (h : BkW WB w Bt S L ps bs) {k : Nat} (hk : k < ps.length) : w.cell? ⟨Bt + 1, k * 2, none⟩ = some (.int .i64 (ps.getD k (0, 0)).1) ∧ w.cell? ⟨Bt + 1, k * 2 + 1, none⟩ = some (.int .i64 (ps.getD k (0, 0)).2) ∧ ∀ o, w.frozen? ⟨Bt + 1, o, none⟩ = false := by
  have hp := h.p
  obtain ⟨g1, g2⟩ := pflat_get ps k hk
  have hl := pflat_len ps
  refine ⟨?_, ?_, fun o => ?_⟩
  · simpa [World.cell?, hp] using g1
  · simpa [World.cell?, hp] using g2
  · simp [World.frozen?, hp]
theorem BkW.bool {WB w : World} {Bt S : Nat} {L : List EntD} {ps : List (Int × Int)} {bs : List Bool} (h : BkW WB w Bt S L ps bs) {k : Nat} (hk : k < bs.length) : w.cell? ⟨Bt + 2, k, none⟩ = some (.bool (bs.getD k false)) ∧ ∀ o, w.frozen? ⟨Bt + 2, o, none⟩ = false := by
  have hp := h.l
  refine ⟨?_, fun o => ?_⟩
  · simp [World.cell?, hp, List.getD, hk]
  · simp [World.frozen?, hp]

end Go.Proofs.Ytijldakgfgmbiaa
