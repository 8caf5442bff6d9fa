/- Laid together: Kit, Ent, One, Plc, Goes, Cutx, Have. -/
import Derived.Test.YtijldakgfgmbiaaProg
import Derived.WalkKit
import Derived.WalkSpells
import Derived.WalkSmall
import Derived.WalkLawsBesides
import Derived.BigQuiet
import Derived.Deep.QuietTactic
import Derived.Deep.RegionHeld3
import Derived.Lib.SliceRun
import Derived.Deep.CutRange
import Derived.Deep.CutBlock
import Derived.Deep.OwnRows
import Derived.Laws.AppendOwnNone
import Derived.Lib.AppendStr
import Derived.Lib.MinMax
/- Small helpers. -/
namespace Go.Proofs.Ytijldakgfgmbiaa
open Go.RowKit

theorem nwT {a b c : World} (h : Below a.heap.size a b) (k : Below b.heap.size b c) : Below a.heap.size a c := h.trans (k.mono h.size)
theorem nwA {a w : World} (h : Below a.heap.size a w) (o : Obj) : Below a.heap.size a (w.alloc o) := h.alloc h.size o
theorem nwR (a : World) : Below a.heap.size a a := Below.refl _ _
def Stop (p : Prop) : Prop := p
theorem unstop {p : Prop} (h : Stop p) : p := h
theorem wrap_any {x : Int} (h0 : -1000000000000000000 ≤ x) (h1 : x ≤ 1000000000000000000) : IntKind.i64.wrap x = x := by
  rw [IntKind.wrap_i64]
  omega
theorem gbOf {w w' : World} (h : Below w.heap.size w w') (r : Option Nat) : w.grownBy w' r := ⟨h.os, h.tape, h.output, h.size, fun k hk _ => h.block k hk⟩
theorem ret_bool {a b : Bool} (h : a = b) : Ending.returned (.bool a) = .returned (.bool b) := by rw [h]
theorem ext_getD' {α : Type} (z : α) {xs ys : List α} (hl : xs.length = ys.length) (h : ∀ i, i < xs.length → xs.getD i z = ys.getD i z) : xs = ys := by
  apply List.ext_getElem hl
  intro i h1 h2
  have := h i h1
  simpa [List.getD, h1, h2] using this
theorem five {w : World} {g : Nat} {c0 c1 c2 c3 c4 : Value} {t : TypeId} (h : w.heap[g]? = some (.cells #[c0, c1, c2, c3, c4] t (0, 0))) :
    w.cell? ⟨g, 0, none⟩ = some c0 ∧ w.cell? ⟨g, 1, none⟩ = some c1 ∧ w.cell? ⟨g, 2, none⟩ = some c2 ∧ w.cell? ⟨g, 3, none⟩ = some c3 ∧ w.cell? ⟨g, 4, none⟩ = some c4 ∧ ∀ o, w.frozen? ⟨g, o, none⟩ = false :=
  ⟨by rw [Lib.cell_of_heap h]; rfl, by rw [Lib.cell_of_heap h]; rfl, by rw [Lib.cell_of_heap h]; rfl, by rw [Lib.cell_of_heap h]; rfl, by rw [Lib.cell_of_heap h]; rfl, fun o => Lib.frozen_of_heap h o⟩
theorem three {w : World} {g : Nat} {c0 c1 c2 : Value} {t : TypeId} (h : w.heap[g]? = some (.cells #[c0, c1, c2] t (0, 0))) :
    w.cell? ⟨g, 0, none⟩ = some c0 ∧ w.cell? ⟨g, 1, none⟩ = some c1 ∧ w.cell? ⟨g, 2, none⟩ = some c2 ∧ ∀ o, w.frozen? ⟨g, o, none⟩ = false :=
  ⟨by rw [Lib.cell_of_heap h]; rfl, by rw [Lib.cell_of_heap h]; rfl, by rw [Lib.cell_of_heap h]; rfl, fun o => Lib.frozen_of_heap h o⟩
theorem below_drewN {a : Nat} {w w' : World} (h : Below a w w') (q : Nat) : Below a w (w'.drewN q) := ⟨h.os, h.tape, h.output, h.size, h.block⟩
theorem own_below {w w' : World} {base : Nat} {e : TypeId} {size : Nat} {v : Value} {n : Nat} {xs : List Value} (h : w.ownsRow base e size v n xs) (hb : Below w.heap.size w w') : w'.ownsRow base e size v n xs :=
  h.kept (gbOf hb none) (by cases hv : v.ownBlock <;> simp)
theorem own_le {w : World} {base base' : Nat} {e : TypeId} {size : Nat} {v : Value} {n : Nat} {xs : List Value} (h : w.ownsRow base e size v n xs) (hb : base' ≤ base) : w.ownsRow base' e size v n xs := by
  refine ⟨h.1, ?_⟩
  rcases h.2 with hn | ⟨g, cap, cur, hv, hg, rest⟩
  · exact .inl hn
  · exact .inr ⟨g, cap, cur, hv, Nat.le_trans hb hg, rest⟩
theorem own_kept {w w' : World} {base : Nat} {e : TypeId} {size : Nat} {v : Value} {n : Nat} {xs : List Value} (h : w.ownsRow base e size v n xs) (hk : ∀ k, base ≤ k → k < w.heap.size → w'.heap[k]? = w.heap[k]?) : w'.ownsRow base e size v n xs := by
  refine ⟨h.1, ?_⟩
  rcases h.2 with h | ⟨g, cap, cur, hv, hb, hh, rest⟩
  · exact .inl h
  · exact .inr ⟨g, cap, cur, hv, hb, (hk g hb (Array.getElem?_eq_some_iff.1 hh).1).trans hh, rest⟩
theorem rowset {w : World} {base : Nat} {e : TypeId} {size : Nat} {v : Value} {n : Nat} {xs : List Value} (h : w.ownsRow base e size v n xs) {g : Nat} (o : Nat) (hg : g < base) (u : Value) : (w.setCell ⟨g, o, none⟩ u).ownsRow base e size v n xs := by
  refine ⟨h.1, ?_⟩
  rcases h.2 with hn | ⟨r, cap, cur, hv, hb, hgg, rest⟩
  · exact .inl hn
  · refine .inr ⟨r, cap, cur, hv, hb, ?_, rest⟩
    rw [Below.heap_setCell _ _ _ _ (by show r ≠ g; omega)]
    exact hgg
theorem ownBlock_ne {w : World} {B : Nat} {e T : TypeId} {s : Nat} {v : Value} {n : Nat} {xs : List Value} {b : Nat} {cs : Array Value} {fr : Nat × Nat} (hown : w.ownsRow B e s v n xs) (hb : w.heap[b]? = some (.cells cs T fr)) (hTe : T ≠ e) : v.ownBlock ≠ some b := by
  rcases hown.2 with ⟨rfl, _⟩ | ⟨g, cap, cur, rfl, _, hg, _⟩
  · simp [Value.ownBlock]
  · intro h
    simp only [Value.ownBlock, Option.some.injEq] at h
    subst h
    rw [hg] at hb
    simp only [Option.some.injEq, Obj.cells.injEq] at hb
    exact hTe hb.2.1.symm
theorem own_tag {w : World} {B : Nat} {e : TypeId} {s : Nat} {v : Value} {n : Nat} {xs : List Value} (h : w.ownsRow B e s v n xs) : ∀ k, v.ownBlock = some k → ∃ cs, w.heap[k]? = some (.cells cs e (0, 0)) := by
  intro k hk
  rcases h.2 with ⟨rfl, _⟩ | ⟨g, cap, cur, rfl, _, hg, _⟩
  · simp [Value.ownBlock] at hk
  · simp only [Value.ownBlock, Option.some.injEq] at hk
    subst hk
    exact ⟨cur, hg⟩
/-- a row of one type is kept where a row of another type grows -/
theorem own_other {w w' : World} {B B' : Nat} {e T : TypeId} {s s' : Nat} {v u : Value} {n m : Nat} {xs ys : List Value} (h : w.ownsRow B e s v n xs) (hu : w.ownsRow B' T s' u m ys) (hT : T ≠ e) (hg : w.grownBy w' u.ownBlock) : w'.ownsRow B e s v n xs := by
  refine h.kept hg ?_
  cases hv : u.ownBlock with
  | none =>
    cases hvv : v.ownBlock with
    | none => exact .inl rfl
    | some k => exact .inr (by simp)
  | some k =>
    obtain ⟨cs, hk⟩ := own_tag hu k hv
    exact .inr (ownBlock_ne h hk hT)
/-- a row is kept where a cell of a block of another type is written -/
theorem own_aside {w : World} {B : Nat} {e T : TypeId} {s : Nat} {v : Value} {n : Nat} {xs : List Value} {g : Nat} {cur : Array Value} (h : w.ownsRow B e s v n xs) (hg : w.heap[g]? = some (.cells cur T (0, 0))) (hT : T ≠ e) (o : Nat) (u : Value) : (w.setCell ⟨g, o, none⟩ u).ownsRow B e s v n xs := by
  refine ⟨h.1, ?_⟩
  rcases h.2 with hn | ⟨r, cap, cu, hv, hb, hgg, rest⟩
  · exact .inl hn
  · refine .inr ⟨r, cap, cu, hv, hb, ?_, rest⟩
    have hne : r ≠ g := fun e2 => by
      rw [e2, hg] at hgg
      simp only [Option.some.injEq, Obj.cells.injEq] at hgg
      exact hT hgg.2.1
    rw [Below.heap_setCell _ _ _ _ (by show r ≠ g; exact hne)]
    exact hgg
theorem addr_add (g j : Nat) : (⟨g, 0, none⟩ : Addr).add j = ⟨g, 0 + j, none⟩ := by unfold Addr.add; split <;> simp_all
def optI (o : Option Nat) : Int := match o with
  | some k => k
  | none => -1
theorem find_yes {α : Type} (z : α) {l : List α} {p : α → Bool} {k : Nat} (hk : k < l.length) (h : p (l.getD k z) = true) (hn : ∀ j, j < k → p (l.getD j z) = false) : l.findIdx? p = some k := by
  rw [List.findIdx?_eq_some_iff_getElem]
  refine ⟨hk, ?_, fun j hj => ?_⟩
  · simpa [List.getD, hk] using h
  · have := hn j hj
    have hj2 : j < l.length := by omega
    simp [List.getD, hj2] at this
    simpa using this
theorem find_no {α : Type} (z : α) {l : List α} {p : α → Bool} (hn : ∀ j, j < l.length → p (l.getD j z) = false) : l.findIdx? p = none := by
  rw [List.findIdx?_eq_none_iff]
  intro x hx
  obtain ⟨j, hj, rfl⟩ := List.getElem_of_mem hx
  have := hn j hj
  simpa [List.getD, hj] using this
theorem two {w : World} {g : Nat} {c0 c1 : Value} {t : TypeId} (h : w.heap[g]? = some (.cells #[c0, c1] t (0, 0))) :
    w.cell? ⟨g, 0, none⟩ = some c0 ∧ w.cell? ⟨g, 1, none⟩ = some c1 ∧ ∀ o, w.frozen? ⟨g, o, none⟩ = false :=
  ⟨by rw [Lib.cell_of_heap h]; rfl, by rw [Lib.cell_of_heap h]; rfl, fun o => Lib.frozen_of_heap h o⟩
theorem one {w : World} {g : Nat} {c0 : Value} {t : TypeId} (h : w.heap[g]? = some (.cells #[c0] t (0, 0))) :
    w.cell? ⟨g, 0, none⟩ = some c0 ∧ ∀ o, w.frozen? ⟨g, o, none⟩ = false :=
  ⟨by rw [Lib.cell_of_heap h]; rfl, fun o => Lib.frozen_of_heap h o⟩
theorem four {w : World} {g : Nat} {c0 c1 c2 c3 : Value} {t : TypeId} (h : w.heap[g]? = some (.cells #[c0, c1, c2, c3] t (0, 0))) :
    w.cell? ⟨g, 0, none⟩ = some c0 ∧ w.cell? ⟨g, 1, none⟩ = some c1 ∧ w.cell? ⟨g, 2, none⟩ = some c2 ∧ w.cell? ⟨g, 3, none⟩ = some c3 ∧ ∀ o, w.frozen? ⟨g, o, none⟩ = false :=
  ⟨by rw [Lib.cell_of_heap h]; rfl, by rw [Lib.cell_of_heap h]; rfl, by rw [Lib.cell_of_heap h]; rfl, by rw [Lib.cell_of_heap h]; rfl, fun o => Lib.frozen_of_heap h o⟩
theorem ret_int {a b : Int} (h : a = b) : Ending.returned (.int .i64 a) = .returned (.int .i64 b) := by rw [h]
theorem heap_alloc_new2 (w : World) (a b : Obj) : ((w.alloc a).alloc b).heap[w.heap.size + 1]? = some b := by
  have := heap_alloc_new (w.alloc a) b
  rwa [show (w.alloc a).heap.size = w.heap.size + 1 from by simp] at this
theorem getD_mem {α : Type} (z : α) {l : List α} {i : Nat} (h : i < l.length) : l.getD i z ∈ l := by simp [List.getD, h]

/- a region step by step: the place that a step writes is named -/
theorem takeYes {P : Program} {md : Region.Mode} {ops : Array Oper} {Q : Exit → Act → World → Prop} {S : World → Prop} (i : Nat) (dst : Option Tmp) {oi : Oper} {v : Value} {fuel : Nat} {listed : Array Bool} {a : Act} {w : World} (hi : ops[i]? = some oi)
    (hs : Region.noSelect ops = true) (hf : Region.free md ops listed i = true) (hr : (Region.ready md ops listed).contains i = true) (hd : oi.dst = dst)
    (hQ : ∀ c a w, Q (.panic c) (a.put dst v) w → Q (.panic c) a w) (hw : Region.wanted oi (yielded ops a.tmps) = true) (hy : ∀ w, S w → (execOp a.eval oi).run P w = .ok (.value v) w) (hS : S w)
    (h : wpAnyH P md ops Q S fuel (listed.setIfInBounds i true) (a.put dst v) w) : wpAnyH P md ops Q S (fuel + 1) listed a w := by
  subst hd
  exact wpAnyH_take hi hs hf hr hQ (Or.inl ⟨hw, hy⟩) hS h
theorem takeNo {P : Program} {md : Region.Mode} {ops : Array Oper} {Q : Exit → Act → World → Prop} {S : World → Prop} (i : Nat) (dst : Option Tmp) {oi : Oper} {fuel : Nat} {listed : Array Bool} {a : Act} {w : World} (hi : ops[i]? = some oi)
    (hs : Region.noSelect ops = true) (hf : Region.free md ops listed i = true) (hr : (Region.ready md ops listed).contains i = true) (hd : oi.dst = dst)
    (hQ : ∀ c a w, Q (.panic c) (a.put dst undef) w → Q (.panic c) a w) (hw : Region.wanted oi (yielded ops a.tmps) = false) (hS : S w)
    (h : wpAnyH P md ops Q S fuel (listed.setIfInBounds i true) (a.put dst undef) w) : wpAnyH P md ops Q S (fuel + 1) listed a w := by
  subst hd
  exact wpAnyH_take hi hs hf hr hQ (Or.inr ⟨hw, rfl⟩) hS h


structure Kin (w : World) where
  u : World
  h : Below w.heap.size w u
instance (w : World) : Inhabited (Kin w) := ⟨⟨w, nwR w⟩⟩
theorem wp_region_kin {P : Program} {id : Nat} {Q : Exit → Act → World → Prop} {a : Act} {w : World} {l : List Oper} (hm : P.follows .mixedOrders = true) (hB : Region.lexB .any l.toArray = true)
    (h : wpQuiet P l.toArray (fun w' => ∃ p : Kin w, w' = p.u) (fun a' => ∀ w', (∃ p : Kin w, w' = p.u) → Q .normal a' w') l a) : (Code.region id l.toArray true).wp P Q a w :=
  wp_region_quiet (C := fun w' => ∃ p : Kin w, w' = p.u) hm hB ⟨⟨_, Below.drew (nwR w)⟩, rfl⟩ (by simpa using h)
theorem Calls.kin_of {P : Program} {f : FuncId} {args : Array Value} {w : World} {p : Kin w} {v : Value}
    (h : Calls P f args p.u fun e w' => e = .returned v ∧ Below p.u.heap.size p.u w') : Calls P f args p.u fun e w'' => e = .returned v ∧ ∃ p' : Kin w, w'' = p'.u :=
  h.mono fun _ _ ⟨he, hb⟩ => ⟨he, ⟨_, nwT p.h hb⟩, rfl⟩
theorem Calls.kin_same {P : Program} {f : FuncId} {args : Array Value} {w : World} {p : Kin w} {v : Value}
    (h : Calls P f args p.u fun e w' => e = .returned v ∧ w' = p.u) : Calls P f args p.u fun e w'' => e = .returned v ∧ ∃ p' : Kin w, w'' = p'.u :=
  h.mono fun _ _ ⟨he, hb⟩ => ⟨he, p, hb⟩
theorem kcell {w : World} {b o : Nat} {v : Value} (h : w.cell? ⟨b, o, none⟩ = some v) (p : Kin w) : p.u.cell? ⟨b, o, none⟩ = some v := (p.h.cell (p := ⟨b, o, none⟩) (block_lt_of_cell h)).trans h
theorem bool_of (p : Prop) : ∃ b : Bool, b = true ↔ p := by
  by_cases h : p
  · exact ⟨true, by simp [h]⟩
  · exact ⟨false, by simp [h]⟩

theorem cells_kept {X w : World} {p : Addr} {cs : List Value} (hb : Below X.heap.size X w) (h : ∀ j u, cs[j]? = some u → X.cell? (p.add j) = some u) : ∀ j u, cs[j]? = some u → w.cell? (p.add j) = some u :=
  fun j u hu => (hb.cell (p := p.add j) (block_lt_of_cell (h j u hu))).trans (h j u hu)

theorem step_append_src {P : Program} {ops : Array Oper} {o : Oper} {a : Act} {w : World} {K : Act → World → Prop} {Q : Exit → Act → World → Prop} {E : Prop}
    (hg : o.guard = none) (s x : Operand) (t : TypeId) (hop : o.op = Op.call { callee := Callee.builtin Builtin.append, args := #[s, x], argTypes := #[t, t] })
    (base : Nat) (e : TypeId) (i : TypeInfo) (z : Value) (size bytes : Nat) (h1 : P.underlying t = some (.slice e)) (h2 : P.info? e = some i) (h3 : i.zero = some z) (h4 : i.size = size) (h5 : i.bytes = bytes) (h6 : z.cells.size = size) (h7 : 0 < size)
    (v : Value) (n : Nat) (xs : List Value) (hs : a.eval s = v) (hown : w.ownsRow base e size v n xs)
    (ao : Option Addr) (m c : Nat) (news : List Value) (hx : a.eval x = .slice ao m c) (hn : news.length = m * size) (hnil : ao = none → m = 0 ∧ c = 0) (hc : ∀ p, ao = some p → ∀ j u, news[j]? = some u → w.cell? (p.add j) = some u) (h1c : ∀ u ∈ news, u.oneCell' = true)
    (b1 : n + m ≤ maxLen) (b2 : (n + m) * bytes ≤ 140737488355328) (hbase : base ≤ w.heap.size)
    (hK : ∀ v' w', w'.ownsRow base e size v' (n + m) (xs ++ news) → w.grownBy w' v.ownBlock → K (a.put o.dst v') w') :
    if Region.wanted o (yielded ops a.tmps) = true then Oper.wp P o a w K Q else E := by
  have hw : Region.wanted o (yielded ops a.tmps) = true := by simp [Region.wanted, hg]
  rw [if_pos hw]
  cases ao with
  | none =>
    obtain ⟨rfl, rfl⟩ := hnil rfl
    have hnews : news = [] := by simpa using hn
    subst hnews
    have hrun := run_append_owned_none (P := P) (w := w) base t o.type e i size h1 h2 v n xs hown
    unfold Oper.wp
    simp [execOp, hop, resolve, invoke, builtin, hs, hx, hrun, Result.andThen]
    exact hK _ _ (by simpa using hown) ⟨rfl, rfl, rfl, Nat.le_refl _, fun _ _ _ => rfl⟩
  | some ad =>
    obtain ⟨v', w', hrun, r1, r2, _⟩ := run_append_own (P := P) w base t o.type e i z size bytes h1 h2 h3 h4 h5 h6 h7 v n xs hown ad m c news hn (hc ad rfl) h1c b1 b2 hbase
    unfold Oper.wp
    simp [execOp, hop, resolve, invoke, builtin, hs, hx, hrun, Result.andThen]
    exact hK _ _ r1 r2

theorem five_below {a w : World} {g n : Nat} {c0 c1 c2 c3 c4 : Value} (h : Below n a w) (hg : n ≤ g) : Below n a (((((w.setCell ⟨g, 0, none⟩ c0).setCell ⟨g, 1, none⟩ c1).setCell ⟨g, 2, none⟩ c2).setCell ⟨g, 3, none⟩ c3).setCell ⟨g, 4, none⟩ c4) :=
  ((((h.setCell (p := ⟨g, 0, none⟩) hg _).setCell (p := ⟨g, 1, none⟩) hg _).setCell (p := ⟨g, 2, none⟩) hg _).setCell (p := ⟨g, 3, none⟩) hg _).setCell (p := ⟨g, 4, none⟩) hg _
theorem five_set {w : World} {g : Nat} {c0 c1 c2 c3 c4 d0 d1 d2 d3 d4 : Value} {t : TypeId} (h : w.heap[g]? = some (.cells #[c0, c1, c2, c3, c4] t (0, 0))) : (((((w.setCell ⟨g, 0, none⟩ d0).setCell ⟨g, 1, none⟩ d1).setCell ⟨g, 2, none⟩ d2).setCell ⟨g, 3, none⟩ d3).setCell ⟨g, 4, none⟩ d4).heap[g]? = some (.cells #[d0, d1, d2, d3, d4] t (0, 0)) := by
  have h1 := heap_setCell_same w g 0 _ t d0 h
  have h2 := heap_setCell_same _ g 1 _ t d1 h1
  have h3 := heap_setCell_same _ g 2 _ t d2 h2
  have h4 := heap_setCell_same _ g 3 _ t d3 h3
  have h5 := heap_setCell_same _ g 4 _ t d4 h4
  simpa using h5
theorem three_below {a w : World} {g n : Nat} {c0 c1 c2 : Value} (h : Below n a w) (hg : n ≤ g) : Below n a (((w.setCell ⟨g, 0, none⟩ c0).setCell ⟨g, 1, none⟩ c1).setCell ⟨g, 2, none⟩ c2) :=
  ((h.setCell (p := ⟨g, 0, none⟩) hg _).setCell (p := ⟨g, 1, none⟩) hg _).setCell (p := ⟨g, 2, none⟩) hg _
theorem three_set {w : World} {g : Nat} {c0 c1 c2 d0 d1 d2 : Value} {t : TypeId} (h : w.heap[g]? = some (.cells #[c0, c1, c2] t (0, 0))) : (((w.setCell ⟨g, 0, none⟩ d0).setCell ⟨g, 1, none⟩ d1).setCell ⟨g, 2, none⟩ d2).heap[g]? = some (.cells #[d0, d1, d2] t (0, 0)) := by
  have h1 := heap_setCell_same w g 0 _ t d0 h
  have h2 := heap_setCell_same _ g 1 _ t d1 h1
  have h3 := heap_setCell_same _ g 2 _ t d2 h2
  simpa using h3
theorem five_other {w : World} {g k : Nat} {c0 c1 c2 c3 c4 : Value} {o : Obj} (h : w.heap[k]? = some o) (hk : k ≠ g) : (((((w.setCell ⟨g, 0, none⟩ c0).setCell ⟨g, 1, none⟩ c1).setCell ⟨g, 2, none⟩ c2).setCell ⟨g, 3, none⟩ c3).setCell ⟨g, 4, none⟩ c4).heap[k]? = some o := by
  rw [heap_setCell_other _ ⟨g, 4, none⟩ k _ hk, heap_setCell_other _ ⟨g, 3, none⟩ k _ hk, heap_setCell_other _ ⟨g, 2, none⟩ k _ hk, heap_setCell_other _ ⟨g, 1, none⟩ k _ hk, heap_setCell_other _ ⟨g, 0, none⟩ k _ hk, h]
theorem three_other {w : World} {g k : Nat} {c0 c1 c2 : Value} {o : Obj} (h : w.heap[k]? = some o) (hk : k ≠ g) : (((w.setCell ⟨g, 0, none⟩ c0).setCell ⟨g, 1, none⟩ c1).setCell ⟨g, 2, none⟩ c2).heap[k]? = some o := by
  rw [heap_setCell_other _ ⟨g, 2, none⟩ k _ hk, heap_setCell_other _ ⟨g, 1, none⟩ k _ hk, heap_setCell_other _ ⟨g, 0, none⟩ k _ hk, h]
theorem wp_region_kin2 {P : Program} {id : Nat} {Q : Exit → Act → World → Prop} {a : Act} {w : World} {p : Kin w} {l : List Oper} (hm : P.follows .mixedOrders = true) (hB : Region.lexB .any l.toArray = true)
    (h : wpQuiet P l.toArray (fun w' => ∃ p : Kin w, w' = p.u) (fun a' => ∀ w', (∃ p : Kin w, w' = p.u) → Q .normal a' w') l a) : (Code.region id l.toArray true).wp P Q a p.u :=
  wp_region_quiet (C := fun w' => ∃ p : Kin w, w' = p.u) hm hB ⟨⟨_, Below.drew p.h⟩, rfl⟩ (by simpa using h)

end Go.Proofs.Ytijldakgfgmbiaa

/- Entries and tables in memory: read, and owned. -/
namespace Go.Proofs.Ytijldakgfgmbiaa
open Go.RowKit

structure EntD where
  frm : Int
  len : Int
  dev : Int
  tgt : Int
  stale : Int
deriving DecidableEq
def EZ : EntD := ⟨0, 0, 0, 0, 0⟩
def ecells (e : EntD) : List Value := [.int .i64 e.frm, .int .i64 e.len, .int .i64 e.dev, .int .i64 e.tgt, .int .i64 e.stale]
def eagg (e : EntD) : Value := .agg #[.int .i64 e.frm, .int .i64 e.len, .int .i64 e.dev, .int .i64 e.tgt, .int .i64 e.stale]
def eflat (l : List EntD) : List Value := l.flatMap ecells
theorem eflat_len (l : List EntD) : (eflat l).length = l.length * 5 := by
  induction l with
  | nil => rfl
  | cons x r ih =>
    have : eflat (x :: r) = ecells x ++ eflat r := by simp [eflat]
    rw [this, List.length_append, ih]; simp [ecells]; omega
theorem eflat_append (a b : List EntD) : eflat (a ++ b) = eflat a ++ eflat b := by simp [eflat]
theorem eflat_one (l : List EntD) : ∀ u ∈ eflat l, u.oneCell' = true := by
  intro u hu
  simp only [eflat, List.mem_flatMap, ecells] at hu
  obtain ⟨e, _, h⟩ := hu
  simp only [List.mem_cons, List.mem_nil_iff, or_false] at h
  rcases h with rfl | rfl | rfl | rfl | rfl <;> rfl
theorem eflat_get (l : List EntD) : ∀ i, i < l.length → (eflat l)[i * 5]? = some (.int .i64 (l.getD i EZ).frm) ∧ (eflat l)[i * 5 + 1]? = some (.int .i64 (l.getD i EZ).len) ∧ (eflat l)[i * 5 + 2]? = some (.int .i64 (l.getD i EZ).dev) ∧ (eflat l)[i * 5 + 3]? = some (.int .i64 (l.getD i EZ).tgt) ∧ (eflat l)[i * 5 + 4]? = some (.int .i64 (l.getD i EZ).stale) := by
  induction l with
  | nil => intro i hi; simp at hi
  | cons x xs ih =>
    intro i hi
    have e : eflat (x :: xs) = .int .i64 x.frm :: .int .i64 x.len :: .int .i64 x.dev :: .int .i64 x.tgt :: .int .i64 x.stale :: eflat xs := by simp [eflat, ecells]
    rw [e]
    cases i with
    | zero => simp
    | succ i =>
      have := ih i (by simpa using hi)
      rw [show (i + 1) * 5 = i * 5 + 1 + 1 + 1 + 1 + 1 from by omega]
      simp only [List.getElem?_cons_succ]
      simpa [List.getD] using this

def EntAt (w : World) (b o : Nat) (e : EntD) : Prop := w.cell? ⟨b, o, none⟩ = some (.int .i64 e.frm) ∧ w.cell? ⟨b, o + 1, none⟩ = some (.int .i64 e.len) ∧ w.cell? ⟨b, o + 2, none⟩ = some (.int .i64 e.dev) ∧ w.cell? ⟨b, o + 3, none⟩ = some (.int .i64 e.tgt) ∧ w.cell? ⟨b, o + 4, none⟩ = some (.int .i64 e.stale)
theorem EntAt.lt {w : World} {b o : Nat} {e : EntD} (h : EntAt w b o e) : b < w.heap.size := block_lt_of_cell h.1
theorem EntAt.below {w w' : World} {b o : Nat} {e : EntD} (h : EntAt w b o e) (hb : Below w.heap.size w w') : EntAt w' b o e := by
  have hlt := h.lt
  obtain ⟨h0, h1, h2, h3, h4⟩ := h
  exact ⟨(hb.cell (p := ⟨b, o, none⟩) hlt).trans h0, (hb.cell (p := ⟨b, o + 1, none⟩) hlt).trans h1, (hb.cell (p := ⟨b, o + 2, none⟩) hlt).trans h2, (hb.cell (p := ⟨b, o + 3, none⟩) hlt).trans h3, (hb.cell (p := ⟨b, o + 4, none⟩) hlt).trans h4⟩
def NilOk (a : Option Addr) (c n : Nat) : Prop := n ≤ c ∧ (a = none → c = 0)
def EntsAt (w : World) (a : Option Addr) (l : List EntD) : Prop := l = [] ∨ ∃ b o, a = some ⟨b, o, none⟩ ∧ ∀ i, i < l.length → EntAt w b (o + i * 5) (l.getD i EZ)
theorem EntsAt.nil (w : World) (a : Option Addr) : EntsAt w a [] := .inl rfl
theorem EntsAt.ent {w : World} {a : Option Addr} {l : List EntD} (h : EntsAt w a l) {i : Nat} (hi : i < l.length) : ∃ b o, a = some ⟨b, o, none⟩ ∧ EntAt w b (o + i * 5) (l.getD i EZ) := by
  rcases h with rfl | ⟨b, o, rfl, hc⟩
  · simp at hi
  · exact ⟨b, o, rfl, hc i hi⟩
theorem EntsAt.at {w : World} {b o : Nat} {l : List EntD} (h : EntsAt w (some ⟨b, o, none⟩) l) {i : Nat} (hi : i < l.length) : EntAt w b (o + i * 5) (l.getD i EZ) := by
  obtain ⟨b', o', e, h2⟩ := h.ent hi
  injection e with e
  injection e with e1 e2
  subst e1; subst e2
  exact h2
theorem EntsAt.below {w w' : World} {a : Option Addr} {l : List EntD} (h : EntsAt w a l) (hb : Below w.heap.size w w') : EntsAt w' a l := by
  rcases h with rfl | ⟨b, o, rfl, hc⟩
  · exact .inl rfl
  · exact .inr ⟨b, o, rfl, fun i hi => (hc i hi).below hb⟩
/-- the row's cells, as an append reads them -/
theorem EntsAt.cells {w : World} {p : Addr} {l : List EntD} (h : EntsAt w (some p) l) : ∀ j u, (eflat l)[j]? = some u → w.cell? (p.add j) = some u := by
  intro j u hu
  have hj : j < l.length * 5 := by have := (List.getElem?_eq_some_iff.1 hu).1; rwa [eflat_len] at this
  rcases h with rfl | ⟨b, o, e, hc⟩
  · simp at hj
  · injection e with e
    subst e
    have hi : j / 5 < l.length := by omega
    obtain ⟨c0, c1, c2, c3, c4⟩ := hc (j / 5) hi
    obtain ⟨g0, g1, g2, g3, g4⟩ := eflat_get l (j / 5) hi
    rw [show (⟨b, o, none⟩ : Addr).add j = ⟨b, o + j, none⟩ from by unfold Addr.add; split <;> simp_all]
    rcases (by omega : j = j / 5 * 5 ∨ j = j / 5 * 5 + 1 ∨ j = j / 5 * 5 + 2 ∨ j = j / 5 * 5 + 3 ∨ j = j / 5 * 5 + 4) with e | e | e | e | e
    · rw [← e, hu] at g0; injection g0 with g0; rw [g0, show o + j = o + j / 5 * 5 from by omega]; exact c0
    · rw [← e, hu] at g1; injection g1 with g1; rw [g1, show o + j = o + j / 5 * 5 + 1 from by omega]; exact c1
    · rw [← e, hu] at g2; injection g2 with g2; rw [g2, show o + j = o + j / 5 * 5 + 2 from by omega]; exact c2
    · rw [← e, hu] at g3; injection g3 with g3; rw [g3, show o + j = o + j / 5 * 5 + 3 from by omega]; exact c3
    · rw [← e, hu] at g4; injection g4 with g4; rw [g4, show o + j = o + j / 5 * 5 + 4 from by omega]; exact c4

def OwnEnts (w : World) (base : Nat) (v : Value) (l : List EntD) : Prop := w.ownsRow base 49 5 v l.length (eflat l)
theorem OwnEnts.at {w : World} {base : Nat} {v : Value} {l : List EntD} (h : OwnEnts w base v l) : ∃ a c, v = .slice a l.length c ∧ EntsAt w a l ∧ NilOk a c l.length := by
  rcases h.2 with ⟨hv, hn⟩ | ⟨g, cap, cur, hv, _, _, hnc, _⟩
  · have : l = [] := List.length_eq_zero_iff.1 hn
    subst this
    exact ⟨none, 0, hv, .inl rfl, Nat.le_refl _, fun _ => rfl⟩
  · refine ⟨_, cap, hv, .inr ⟨g, 0, rfl, fun i hi => ?_⟩, hnc, fun e => by cases e⟩
    have hl := eflat_get l i hi
    have K : ∀ j u, (eflat l)[j]? = some u → w.cell? ⟨g, 0 + j, none⟩ = some u := fun j u hj => by
      have := World.ownsRow.cells h (g := g) (by rw [hv]; rfl) j u hj
      rwa [addr_add] at this
    exact ⟨K _ _ hl.1, K _ _ hl.2.1, K _ _ hl.2.2.1, K _ _ hl.2.2.2.1, K _ _ hl.2.2.2.2⟩
theorem OwnEnts.nil (w : World) (base : Nat) : OwnEnts w base (.slice none 0 0) [] := World.ownsRow_nil _ _ _ _
theorem OwnEnts.below {w w' : World} {base : Nat} {v : Value} {l : List EntD} (h : OwnEnts w base v l) (hb : Below w.heap.size w w') : OwnEnts w' base v l := own_below h hb
theorem OwnEnts.le {w : World} {base base' : Nat} {v : Value} {l : List EntD} (h : OwnEnts w base v l) (hb : base' ≤ base) : OwnEnts w base' v l := own_le h hb
theorem OwnEnts.app {w : World} {base : Nat} {v : Value} {a b : List EntD} {m : Nat} (hm : b.length = m) (h : w.ownsRow base 49 5 v (a.length + m) (eflat a ++ eflat b)) : OwnEnts w base v (a ++ b) := by
  unfold OwnEnts
  rw [eflat_append, List.length_append, hm]; exact h
theorem cells_new5 (w : World) (e : EntD) (t : TypeId) : ∀ j u, (ecells e)[j]? = some u → (w.alloc (.cells #[.int .i64 e.frm, .int .i64 e.len, .int .i64 e.dev, .int .i64 e.tgt, .int .i64 e.stale] t)).cell? ((⟨w.heap.size, 0, none⟩ : Addr).add j) = some u := by
  intro j u hu
  rw [addr_add, Lib.cell_of_heap (heap_alloc_new w _)]
  match j, hu with
  | 0, hu => simpa [ecells] using hu
  | 1, hu => simpa [ecells] using hu
  | 2, hu => simpa [ecells] using hu
  | 3, hu => simpa [ecells] using hu
  | 4, hu => simpa [ecells] using hu

structure TabD where
  dev : Int
  size : Int
  list : List EntD
deriving DecidableEq
def TZ : TabD := ⟨0, 0, []⟩
def TabVal (w : World) (v : Value) (t : TabD) : Prop := ∃ a c, v = .agg #[.int .i64 t.dev, .int .i64 t.size, .slice a t.list.length c] ∧ EntsAt w a t.list ∧ NilOk a c t.list.length
theorem TabVal.below {w w' : World} {v : Value} {t : TabD} (h : TabVal w v t) (hb : Below w.heap.size w w') : TabVal w' v t := by
  obtain ⟨a, c, e, h1, h2⟩ := h
  exact ⟨a, c, e, h1.below hb, h2⟩
def OwnTab (w : World) (base : Nat) (v : Value) (t : TabD) : Prop := ∃ u, v = .agg #[.int .i64 t.dev, .int .i64 t.size, u] ∧ OwnEnts w base u t.list
theorem OwnTab.val {w : World} {base : Nat} {v : Value} {t : TabD} (h : OwnTab w base v t) : TabVal w v t := by
  obtain ⟨u, e, h1⟩ := h
  obtain ⟨a, c, rfl, h2, h3⟩ := h1.at
  exact ⟨a, c, e, h2, h3⟩
theorem Try.info49 : (Try.prog.info? 49).map (fun i => (i.zero, i.size, i.bytes)) = some (some (.agg #[.int .i64 0, .int .i64 0, .int .i64 0, .int .i64 0, .int .i64 0]), 5, 40) := by kernel_rfl

end Go.Proofs.Ytijldakgfgmbiaa

/- The program's small methods of one entry. -/
namespace Go.Proofs.Ytijldakgfgmbiaa
open Go.RowKit

theorem wrap_i {x : Int} (h0 : -9223372036854775808 ≤ x) (h1 : x ≤ 9223372036854775807) : IntKind.i64.wrap x = x := by
  rw [IntKind.wrap_i64]
  omega
def Rng (x : Int) : Prop := -9223372036854775808 ≤ x ∧ x ≤ 9223372036854775807
def RngE (e : EntD) : Prop := Rng e.frm ∧ Rng e.len ∧ Rng e.dev ∧ Rng e.tgt ∧ Rng e.stale
def idB (d : Int) : Bool := decide (1 ≤ d) && decide (d ≤ 40)
def fitsB (a m s : Int) : Bool := decide (0 ≤ a) && decide (1 ≤ m) && decide (m ≤ s - a)
/-- where it lies in the memory -/
def PV (b o : Nat) : Value := .agg #[.pointer (some ⟨b, o, none⟩)]

set_option maxRecDepth 100000 in
set_option maxHeartbeats 400000 in
theorem isID_any (d : Int) (w : World) : Calls Try.prog 56 #[.int .i64 d] w fun e w' => e = .returned (.bool (idB d)) ∧ w' = w := by
  unfold idB
  by_cases h0 : 1 ≤ d
  · by_cases h1 : d ≤ 40
    all_goals
      go_enter Try.func56, Try.ntmps56
      go_wp2
      go_ret
      exact ⟨(by simp [*] <;> omega), rfl⟩
  · go_enter Try.func56, Try.ntmps56
    go_wp2
    go_ret
    exact ⟨(by simp [*] <;> omega), rfl⟩

set_option maxRecDepth 100000 in
set_option maxHeartbeats 800000 in
theorem fits_any (a m s : Int) (w : World) (ha : Rng a) (hs0 : 0 ≤ s) (hs1 : s ≤ 64) : Calls Try.prog 62 #[.int .i64 a, .int .i64 m, .int .i64 s] w fun e w' => e = .returned (.bool (fitsB a m s)) ∧ w' = w := by
  unfold fitsB
  obtain ⟨ha0, ha1⟩ := ha
  by_cases h0 : 0 ≤ a
  · have e1 : IntKind.i64.wrap (s - a) = s - a := wrap_i (by omega) (by omega)
    by_cases h1 : 1 ≤ m
    · by_cases h2 : m ≤ s - a
      all_goals
        go_enter Try.func62, Try.ntmps62
        go_wp2
        go_ret
        exact ⟨(by simp [*] <;> omega), rfl⟩
    · go_enter Try.func62, Try.ntmps62
      go_wp2
      go_ret
      exact ⟨(by simp [*] <;> omega), rfl⟩
  · go_enter Try.func62, Try.ntmps62
    go_wp2
    go_ret
    exact ⟨(by simp [*] <;> omega), rfl⟩

set_option maxRecDepth 100000 in
set_option maxHeartbeats 400000 in
theorem end_any (b o : Nat) (x : EntD) (w : World) (hx : EntAt w b o x) (h0 : -1000 ≤ x.frm + x.len) (h1 : x.frm + x.len ≤ 1000) :
    Calls Try.prog 58 #[PV b o] w fun e w' => e = .returned (.int .i64 (x.frm + x.len)) ∧ Below w.heap.size w w' := by
  have hlt := hx.lt
  obtain ⟨c0, c1, c2, c3, c4⟩ := hx
  have e1 : IntKind.i64.wrap (x.frm + x.len) = x.frm + x.len := wrap_i (by omega) (by omega)
  unfold PV
  go_enter Try.func58, Try.ntmps58
  go_wp2_with fail
  go_quiet (fail)
  rename Nat => n1
  go_wp2_with fail
  go_ret
  exact ⟨rfl, below_drewN (nwA (nwR w) _) n1⟩

set_option maxRecDepth 100000 in
set_option maxHeartbeats 400000 in
theorem isStale_any (b o : Nat) (x : EntD) (w : World) (hx : EntAt w b o x) :
    Calls Try.prog 43 #[PV b o] w fun e w' => e = .returned (.bool (x.stale == x.len)) ∧ Below w.heap.size w w' := by
  have hlt := hx.lt
  obtain ⟨c0, c1, c2, c3, c4⟩ := hx
  unfold PV
  go_enter Try.func43, Try.ntmps43
  go_wp2_with fail
  go_quiet (fail)
  rename Nat => n1
  go_wp2_with fail
  go_ret
  exact ⟨rfl, below_drewN (nwA (nwR w) _) n1⟩

def hasB (x : EntD) (n : Int) : Bool := decide (x.frm ≤ n) && decide (n < x.frm + x.len)
set_option maxRecDepth 100000 in
set_option maxHeartbeats 400000 in
theorem has_any (b o : Nat) (x : EntD) (n : Int) (w : World) (hx : EntAt w b o x) (h0 : -1000 ≤ x.frm + x.len) (h1 : x.frm + x.len ≤ 1000) :
    Calls Try.prog 60 #[PV b o, .int .i64 n] w fun e w' => e = .returned (.bool (hasB x n)) ∧ Below w.heap.size w w' := by
  have hlt := hx.lt
  have HX : Hid (EntAt w b o x) := hx
  have HE : Hid (∀ w', Below w.heap.size w w' → Calls Try.prog 58 #[PV b o] w' fun e w'' => e = .returned (.int .i64 (x.frm + x.len)) ∧ Below w'.heap.size w' w'') := fun w' h => end_any b o x w' (hx.below h) h0 h1
  obtain ⟨c0, c1, c2, c3, c4⟩ := hx
  unfold hasB
  unfold PV at *
  by_cases h : x.frm ≤ n
  · go_enter Try.func60, Try.ntmps60
    go_wp2_with fail
    refine (HE.out _ (nwA (nwR w) _)).mono ?_
    rintro e w1 ⟨rfl, hb1⟩
    have HB : Hid (Below w.heap.size w w1) := nwT (nwA (nwR w) _) hb1
    clear hb1 HE
    go_wp2_with fail
    go_ret
    exact ⟨by simp [h], HB.out⟩
  · go_enter Try.func60, Try.ntmps60
    go_wp2_with fail
    go_ret
    exact ⟨by simp; omega, nwA (nwR w) _⟩

end Go.Proofs.Ytijldakgfgmbiaa

/- Where a sector lies by an entry; the table that a sheet is. -/
namespace Go.Proofs.Ytijldakgfgmbiaa
open Go.RowKit

def ptrV (d a : Int) : Value := .agg #[.int .i64 d, .int .i64 a]
set_option maxRecDepth 100000 in
set_option maxHeartbeats 4000000 in
theorem place_any (b o : Nat) (x : EntD) (n : Int) (w : World) (hx : EntAt w b o x) (h0 : -1000 ≤ x.frm) (h1 : x.frm ≤ 1000) (h2 : -1000 ≤ x.tgt) (h3 : x.tgt ≤ 1000) (h4 : -1000 ≤ n) (h5 : n ≤ 1000) :
    Calls Try.prog 42 #[PV b o, .int .i64 n] w fun e w' => e = .returned (ptrV x.dev (x.tgt + n - x.frm)) ∧ Below w.heap.size w w' := by
  have hlt := hx.lt
  obtain ⟨c0, c1, c2, c3, c4⟩ := hx
  have e1 : IntKind.i64.wrap (x.tgt + n) = x.tgt + n := wrap_i (by omega) (by omega)
  have e2 : IntKind.i64.wrap (x.tgt + n - x.frm) = x.tgt + n - x.frm := wrap_i (by omega) (by omega)
  unfold PV ptrV
  go_enter Try.func42, Try.ntmps42
  go_wp2_with fail
  go_region
  all_goals (try go_wp2_with fail)
  all_goals refine bodyPost_ret (v := .agg #[.int .i64 x.dev, .int .i64 (x.tgt + n - x.frm)]) (by simp [results, Try.results42, go_sem]) rfl ⟨rfl, ?_⟩
  all_goals exact Below.drew (nwA (nwA (nwR w) _) _)

def plc (x : EntD) (n : Int) : Int := x.tgt + n - x.frm
/-- goes an entry on as another one? -/
def onB (x y : EntD) : Bool := decide (x.frm + x.len = y.frm) && decide (x.dev = y.dev) && decide (plc x y.frm = y.tgt)
structure Fair (x : EntD) : Prop where
  f0 : -300 ≤ x.frm
  f1 : x.frm ≤ 300
  l0 : -300 ≤ x.len
  l1 : x.len ≤ 300
  t0 : -300 ≤ x.tgt
  t1 : x.tgt ≤ 300

end Go.Proofs.Ytijldakgfgmbiaa

/- Does an entry go on as another one? -/
namespace Go.Proofs.Ytijldakgfgmbiaa
open Go.RowKit

set_option maxRecDepth 100000 in
set_option maxHeartbeats 8000000 in
theorem goesOn_any (b o b2 o2 : Nat) (x y : EntD) (w : World) (hx : EntAt w b o x) (hy : EntAt w b2 o2 y) (fx : Fair x) (fy : Fair y) :
    Calls Try.prog 51 #[PV b o, PV b2 o2] w fun e w' => e = .returned (.bool (onB x y)) ∧ Below w.heap.size w w' := by
  obtain ⟨W0, hW0⟩ : ∃ W0, W0 = (w.alloc (.cells #[.pointer (some ⟨b, o, none⟩)] 82)).alloc (.cells #[.pointer (some ⟨b2, o2, none⟩)] 82) := ⟨_, rfl⟩
  have hb0 : Below w.heap.size w W0 := by rw [hW0]; exact nwA (nwA (nwR w) _) _
  have HB0 : Hid (Below w.heap.size w W0) := hb0
  have hx0 : W0.heap[w.heap.size]? = some (.cells #[.pointer (some ⟨b, o, none⟩)] 82 (0, 0)) := by rw [hW0]; exact (Lib.alloc_old _ _ _ (by simp)).trans (heap_alloc_new w _)
  have hy0 : W0.heap[w.heap.size + 1]? = some (.cells #[.pointer (some ⟨b2, o2, none⟩)] 82 (0, 0)) := by rw [hW0]; exact heap_alloc_new2 w _ _
  have q0 : ∀ p : Kin W0, p.u.cell? ⟨w.heap.size, 0, none⟩ = some (.pointer (some ⟨b, o, none⟩)) := kcell (one hx0).1
  have q1 : ∀ p : Kin W0, p.u.cell? ⟨w.heap.size + 1, 0, none⟩ = some (.pointer (some ⟨b2, o2, none⟩)) := kcell (one hy0).1
  have q2 : ∀ p : Kin W0, p.u.cell? ⟨b2, o2, none⟩ = some (.int .i64 y.frm) := kcell (hy.below hb0).1
  have HX : Hid (∀ p : Kin W0, EntAt p.u b o x) := fun p => hx.below (nwT hb0 p.h)
  have HY : Hid (∀ p : Kin W0, EntAt p.u b2 o2 y) := fun p => hy.below (nwT hb0 p.h)
  have HE : Hid (∀ p : Kin W0, Calls Try.prog 58 #[.agg #[.pointer (some ⟨b, o, none⟩)]] p.u fun e w' => e = .returned (.int .i64 (x.frm + x.len)) ∧ Below p.u.heap.size p.u w') := fun p => end_any b o x p.u (HX.out p) (by have := fx.f0; have := fx.l0; omega) (by have := fx.f1; have := fx.l1; omega)
  have HP1 : Hid (∀ p : Kin W0, Calls Try.prog 42 #[.agg #[.pointer (some ⟨b, o, none⟩)], .int .i64 y.frm] p.u fun e w' => e = .returned (.agg #[.int .i64 x.dev, .int .i64 (plc x y.frm)]) ∧ Below p.u.heap.size p.u w') := fun p => place_any b o x y.frm p.u (HX.out p) (by have := fx.f0; omega) (by have := fx.f1; omega) (by have := fx.t0; omega) (by have := fx.t1; omega) (by have := fy.f0; omega) (by have := fy.f1; omega)
  have HP2 : Hid (∀ p : Kin W0, Calls Try.prog 42 #[.agg #[.pointer (some ⟨b2, o2, none⟩)], .int .i64 y.frm] p.u fun e w' => e = .returned (.agg #[.int .i64 y.dev, .int .i64 y.tgt]) ∧ Below p.u.heap.size p.u w') := fun p => by
    have := place_any b2 o2 y y.frm p.u (HY.out p) (by have := fy.f0; omega) (by have := fy.f1; omega) (by have := fy.t0; omega) (by have := fy.t1; omega) (by have := fy.f0; omega) (by have := fy.f1; omega)
    rwa [show y.tgt + y.frm - y.frm = y.tgt from by omega] at this
  have HR : Hid (∀ p1 p2 p3, decide (x.frm + x.len = y.frm) = p1 → decide (x.dev = y.dev) = p2 → decide (plc x y.frm = y.tgt) = p3 → onB x y = (p1 && p2 && p3)) := fun p1 p2 p3 h1 h2 h3 => by subst h1; subst h2; subst h3; rfl
  generalize onB x y = res at HR ⊢
  clear hx hy fx fy hx0 hy0 hb0 HX HY
  generalize x.frm + x.len = xe at HE HR
  generalize plc x y.frm = xp at HP1 HR
  generalize x.dev = xd at HP1 HR
  generalize y.dev = yd at HP2 HR
  generalize y.tgt = yt at HP2 HR
  generalize y.frm = yf at HP1 HP2 HR q2
  unfold PV
  go_enter Try.func51, Try.ntmps51
  go_upto_region 1 with fail
  rw [← hW0]
  clear hW0
  by_cases h1 : xe = yf
  case neg =>
    have h1b : (xe == yf) = false := beq_eq_false_iff_ne.2 h1
    have HF : Hid (res = false) := by
      show _ = _
      rw [HR.out false _ _ (decide_eq_false h1) rfl rfl]; rfl
    clear HR h1
    refine wp_region_kin (by kernel_rfl) (by kernel_rfl) ?_
    repeat (first | go_big_quiet_step (first | (go_at_call 58; with_reducible exact Calls.kin_of (HE.out _)) | fail) | quiet_step (first | (go_at_call 58; with_reducible exact Calls.kin_of (HE.out _)) | fail))
    refine wpQuiet_nil ?_
    intro _ hw'
    obtain ⟨pq, hw''⟩ := hw'
    subst hw''
    go_wp2_with fail
    go_ret
    exact ⟨by rw [HF.out]; rfl, nwT HB0.out pq.h⟩
  case pos =>
  subst h1
  have h1b : (xe == xe) = true := beq_self_eq_true _
  by_cases h2 : xd = yd
  case neg =>
    have h2b : (xd == yd) = false := beq_eq_false_iff_ne.2 h2
    have HF : Hid (res = false) := by
      show _ = _
      rw [HR.out true false _ (decide_eq_true rfl) (decide_eq_false h2) rfl]; rfl
    clear HR h2
    refine wp_region_kin (by kernel_rfl) (by kernel_rfl) ?_
    repeat (first | go_big_quiet_step (first | (go_at_call 58; with_reducible exact Calls.kin_of (HE.out _)) | (go_at_call 42; first | with_reducible exact Calls.kin_of (HP1.out _) | with_reducible exact Calls.kin_of (HP2.out _)) | fail) | quiet_step (first | (go_at_call 58; with_reducible exact Calls.kin_of (HE.out _)) | (go_at_call 42; first | with_reducible exact Calls.kin_of (HP1.out _) | with_reducible exact Calls.kin_of (HP2.out _)) | fail))
    refine wpQuiet_nil ?_
    intro _ hw'
    obtain ⟨pq, hw''⟩ := hw'
    subst hw''
    go_wp2_with fail
    go_ret
    exact ⟨by rw [HF.out]; rfl, nwT HB0.out pq.h⟩
  case pos =>
  subst h2
  have h2b : (xd == xd) = true := beq_self_eq_true _
  by_cases h3 : xp = yt
  case neg =>
    have h3b : (xp == yt) = false := beq_eq_false_iff_ne.2 h3
    have HF : Hid (res = false) := by
      show _ = _
      rw [HR.out true true false (decide_eq_true rfl) (decide_eq_true rfl) (decide_eq_false h3)]; rfl
    clear HR h3
    refine wp_region_kin (by kernel_rfl) (by kernel_rfl) ?_
    repeat (first | go_big_quiet_step (first | (go_at_call 58; with_reducible exact Calls.kin_of (HE.out _)) | (go_at_call 42; first | with_reducible exact Calls.kin_of (HP1.out _) | with_reducible exact Calls.kin_of (HP2.out _)) | fail) | quiet_step (first | (go_at_call 58; with_reducible exact Calls.kin_of (HE.out _)) | (go_at_call 42; first | with_reducible exact Calls.kin_of (HP1.out _) | with_reducible exact Calls.kin_of (HP2.out _)) | fail))
    refine wpQuiet_nil ?_
    intro _ hw'
    obtain ⟨pq, hw''⟩ := hw'
    subst hw''
    go_wp2_with fail
    go_ret
    exact ⟨by rw [HF.out]; rfl, nwT HB0.out pq.h⟩
  case pos =>
    subst h3
    have h3b : (xp == xp) = true := beq_self_eq_true _
    have HF : Hid (res = true) := by
      show _ = _
      rw [HR.out true true true (decide_eq_true rfl) (decide_eq_true rfl) (decide_eq_true rfl)]; rfl
    clear HR
    refine wp_region_kin (by kernel_rfl) (by kernel_rfl) ?_
    repeat (first | go_big_quiet_step (first | (go_at_call 58; with_reducible exact Calls.kin_of (HE.out _)) | (go_at_call 42; first | with_reducible exact Calls.kin_of (HP1.out _) | with_reducible exact Calls.kin_of (HP2.out _)) | fail) | quiet_step (first | (go_at_call 58; with_reducible exact Calls.kin_of (HE.out _)) | (go_at_call 42; first | with_reducible exact Calls.kin_of (HP1.out _) | with_reducible exact Calls.kin_of (HP2.out _)) | fail))
    refine wpQuiet_nil ?_
    intro _ hw'
    obtain ⟨pq, hw''⟩ := hw'
    subst hw''
    go_wp2_with fail
    go_ret
    exact ⟨by rw [HF.out]; rfl, nwT HB0.out pq.h⟩

end Go.Proofs.Ytijldakgfgmbiaa

/- An entry cut to some sectors. -/
namespace Go.Proofs.Ytijldakgfgmbiaa
open Go.RowKit

def cutD (x : EntD) (f n : Int) : Option EntD :=
  if max f x.frm < min n (x.frm + x.len) then some ⟨max f x.frm, min n (x.frm + x.len) - max f x.frm, x.dev, plc x (max f x.frm), 0⟩ else none
def cutR (x : Option EntD) : Value := match x with
  | some y => .tuple #[eagg y, .bool true]
  | none => .tuple #[.agg #[.int .i64 0, .int .i64 0, .int .i64 0, .int .i64 0, .int .i64 0], .bool false]
set_option maxRecDepth 100000 in
set_option maxHeartbeats 8000000 in
theorem cutE_any (b o : Nat) (x : EntD) (f n : Int) (w : World) (hx : EntAt w b o x) (fx : Fair x) :
    Calls Try.prog 52 #[PV b o, .int .i64 f, .int .i64 n] w fun e w' => e = .returned (cutR (cutD x f n)) ∧ Below w.heap.size w w' := by
  obtain ⟨W0, hW0⟩ : ∃ W0, W0 = (w.alloc (.cells #[.pointer (some ⟨b, o, none⟩)] 82)).alloc (.cells #[.int .i64 0, .int .i64 0, .int .i64 0, .int .i64 0, .int .i64 0] 49) := ⟨_, rfl⟩
  have hb0 : Below w.heap.size w W0 := by rw [hW0]; exact nwA (nwA (nwR w) _) _
  have HB0 : Hid (Below w.heap.size w W0) := hb0
  have hx0 : W0.heap[w.heap.size]? = some (.cells #[.pointer (some ⟨b, o, none⟩)] 82 (0, 0)) := by rw [hW0]; exact (Lib.alloc_old _ _ _ (by simp)).trans (heap_alloc_new w _)
  have hz0 : W0.heap[w.heap.size + 1]? = some (.cells #[.int .i64 0, .int .i64 0, .int .i64 0, .int .i64 0, .int .i64 0] 49 (0, 0)) := by rw [hW0]; exact heap_alloc_new2 w _ _
  have HX0 : Hid (W0.heap[w.heap.size]? = some (.cells #[.pointer (some ⟨b, o, none⟩)] 82 (0, 0))) := hx0
  have HZ0 : Hid (W0.heap[w.heap.size + 1]? = some (.cells #[.int .i64 0, .int .i64 0, .int .i64 0, .int .i64 0, .int .i64 0] 49 (0, 0))) := hz0
  have q0 : ∀ p : Kin W0, p.u.cell? ⟨w.heap.size, 0, none⟩ = some (.pointer (some ⟨b, o, none⟩)) := kcell (one hx0).1
  have q1 : ∀ p : Kin W0, p.u.cell? ⟨b, o, none⟩ = some (.int .i64 x.frm) := kcell (hx.below hb0).1
  have HX : Hid (∀ p : Kin W0, EntAt p.u b o x) := fun p => hx.below (nwT hb0 p.h)
  have HE : Hid (∀ p : Kin W0, Calls Try.prog 58 #[.agg #[.pointer (some ⟨b, o, none⟩)]] p.u fun e w' => e = .returned (.int .i64 (x.frm + x.len)) ∧ Below p.u.heap.size p.u w') := fun p => end_any b o x p.u (HX.out p) (by have := fx.f0; have := fx.l0; omega) (by have := fx.f1; have := fx.l1; omega)
  have HP1 : Hid (∀ m, max f x.frm = m → m < x.frm + x.len → ∀ p : Kin W0, Calls Try.prog 42 #[.agg #[.pointer (some ⟨b, o, none⟩)], .int .i64 m] p.u fun e w' => e = .returned (.agg #[.int .i64 x.dev, .int .i64 (plc x m)]) ∧ Below p.u.heap.size p.u w') := fun m hm hl p => place_any b o x m p.u (HX.out p) (by have := fx.f0; omega) (by have := fx.f1; omega) (by have := fx.t0; omega) (by have := fx.t1; omega) (by have := fx.f0; omega) (by have := fx.f1; have := fx.l1; omega)
  have HBN : Hid (∀ m, max f x.frm = m → m < x.frm + x.len → -300 ≤ m ∧ m ≤ 600) := fun m hm hl => by have := fx.f0; have := fx.f1; have := fx.l1; omega
  have HEB : Hid (-600 ≤ x.frm + x.len ∧ x.frm + x.len ≤ 600) := by have := fx.f0; have := fx.f1; have := fx.l0; have := fx.l1; show _ ∧ _; omega
  have HCN : Hid (¬ max f x.frm < min n (x.frm + x.len) → cutD x f n = none) := fun h => if_neg h
  have HCY : Hid (max f x.frm < min n (x.frm + x.len) → cutD x f n = some ⟨max f x.frm, min n (x.frm + x.len) - max f x.frm, x.dev, plc x (max f x.frm), 0⟩) := fun h => if_pos h
  generalize cutD x f n = res at HCN HCY ⊢
  clear hx fx hx0 hz0 hb0 HX
  unfold PV
  go_enter Try.func52, Try.ntmps52
  go_upto_region 1 with fail
  rw [← hW0]
  clear hW0
  generalize x.frm + x.len = xe at HE HP1 HBN HEB HCN HCY
  refine wp_region_kin (by kernel_rfl) (by kernel_rfl) ?_
  repeat (first | go_big_quiet_step (first | (go_at_call 58; with_reducible exact Calls.kin_of (HE.out _)) | fail) | quiet_step (first | (go_at_call 58; with_reducible exact Calls.kin_of (HE.out _)) | fail))
  refine wpQuiet_nil ?_
  intro _ hw'
  obtain ⟨pq, hw''⟩ := hw'
  subst hw''
  have HBP : Hid (Below w.heap.size w pq.u) := nwT HB0.out pq.h
  have HZP : Hid (pq.u.heap[w.heap.size + 1]? = some (.cells #[.int .i64 0, .int .i64 0, .int .i64 0, .int .i64 0, .int .i64 0] 49 (0, 0))) := (pq.h.block _ (Array.getElem?_eq_some_iff.1 HZ0.out).1).trans HZ0.out
  have HXP : Hid (pq.u.heap[w.heap.size]? = some (.cells #[.pointer (some ⟨b, o, none⟩)] 82 (0, 0))) := (pq.h.block _ (Array.getElem?_eq_some_iff.1 HX0.out).1).trans HX0.out
  have HPP : Hid (∀ m, max f x.frm = m → m < xe → Calls Try.prog 42 #[.agg #[.pointer (some ⟨b, o, none⟩)], .int .i64 m] pq.u fun e w' => e = .returned (.agg #[.int .i64 x.dev, .int .i64 (plc x m)]) ∧ Below pq.u.heap.size pq.u w') := fun m h1 h2 => HP1.out m h1 h2 pq
  obtain ⟨m1, hm1⟩ : ∃ m1, m1 = max f x.frm := ⟨_, rfl⟩
  obtain ⟨m2, hm2⟩ : ∃ m2, m2 = min n xe := ⟨_, rfl⟩
  have HM2 : Hid (m2 ≤ xe) := by show m2 ≤ xe; omega
  have HB1 : Hid (m1 < xe → -300 ≤ m1 ∧ m1 ≤ 600) := fun h => HBN.out m1 hm1.symm h
  have HP2 : Hid (m1 < xe → Calls Try.prog 42 #[.agg #[.pointer (some ⟨b, o, none⟩)], .int .i64 m1] pq.u fun e w' => e = .returned (.agg #[.int .i64 x.dev, .int .i64 (plc x m1)]) ∧ Below pq.u.heap.size pq.u w') := fun h => HPP.out m1 hm1.symm h
  rw [← hm1, ← hm2] at HCN HCY ⊢
  clear HE q0 q1 HBN HX0 HZ0 HPP HP1 hm1 hm2 HB0
  generalize pq.u = wx at *
  obtain ⟨z0, z1, z2, z3, z4, zf⟩ := five HZP.out
  obtain ⟨x0, xf⟩ := one HXP.out
  by_cases h : m1 < m2
  case neg =>
    have HRR : Hid (res = none) := HCN.out h
    have hge : m2 ≤ m1 := by omega
    clear h HCN HCY HP2
    go_wp2_with fail
    refine bodyPost_ret (v := .tuple #[.agg #[.int .i64 0, .int .i64 0, .int .i64 0, .int .i64 0, .int .i64 0], .bool false]) (by simp [results, Try.results52, go_sem, z0, z1, z2, z3, z4]) rfl ⟨by rw [HRR.out]; rfl, ?_⟩
    exact five_below HBP.out (by omega)
  case pos =>
    have HRR : Hid (res = some ⟨m1, m2 - m1, x.dev, plc x m1, 0⟩) := HCY.out h
    have HPW := HP2.out (by have := HM2.out; omega)
    have hb1 := HB1.out (by have := HM2.out; omega)
    have e1 : IntKind.i64.wrap (m2 - m1) = m2 - m1 := wrap_i (by omega) (by have := HM2.out; have := HEB.out; omega)
    clear HCN HCY HP2 hb1
    go_wp2_with fail
    refine HPW.mono ?_
    rintro e w2 ⟨rfl, hb2⟩
    have HB2 : Hid (Below w.heap.size w w2) := nwT HBP.out hb2
    have HZ2 : Hid (w2.heap[w.heap.size + 1]? = some (.cells #[.int .i64 0, .int .i64 0, .int .i64 0, .int .i64 0, .int .i64 0] 49 (0, 0))) := (hb2.block _ (Array.getElem?_eq_some_iff.1 HZP.out).1).trans HZP.out
    clear hb2 HPW z0 z1 z2 z3 z4 zf x0 xf HBP HZP HXP
    have HL : Hid (w.heap.size + 1 < w2.heap.size) := (Array.getElem?_eq_some_iff.1 HZ2.out).1
    generalize plc x m1 = xp at HRR
    have HZ3 : Hid ((w2.alloc (.cells #[.int .i64 x.dev, .int .i64 xp] 33)).heap[w.heap.size + 1]? = some (.cells #[.int .i64 0, .int .i64 0, .int .i64 0, .int .i64 0, .int .i64 0] 49 (0, 0))) := (Lib.alloc_old _ _ _ HL.out).trans HZ2.out
    obtain ⟨z0, z1, z2, z3, z4, zf⟩ := five HZ3.out
    go_wp2_with fail
    refine bodyPost_ret (v := .tuple #[.agg #[.int .i64 m1, .int .i64 (m2 - m1), .int .i64 x.dev, .int .i64 xp, .int .i64 0], .bool true]) (by simp [results, Try.results52, go_sem, z0, z1, z2, z3, z4]) rfl ⟨by rw [HRR.out]; rfl, ?_⟩
    exact five_below (nwA HB2.out _) (by omega)

end Go.Proofs.Ytijldakgfgmbiaa

/- May a sheet have an entry, by the program? -/
namespace Go.Proofs.Ytijldakgfgmbiaa
open Go.RowKit

def ShAt (w : World) (g : Nat) (v : Value) (d s : Int) : Prop := w.heap[g]? = some (.cells #[v, .int .i64 d, .int .i64 s] 78 (0, 0))
theorem ShAt.below {w w' : World} {g : Nat} {v : Value} {d s : Int} (h : ShAt w g v d s) (hb : Below w.heap.size w w') : ShAt w' g v d s := (hb.block _ (Array.getElem?_eq_some_iff.1 h).1).trans h
theorem ShAt.lt {w : World} {g : Nat} {v : Value} {d s : Int} (h : ShAt w g v d s) : g < w.heap.size := (Array.getElem?_eq_some_iff.1 h).1
def mayB (d s : Int) (x : EntD) : Bool := fitsB x.frm x.len s && (fitsB x.tgt x.len 64 && (idB x.dev && ((x.dev != d) && (decide (0 ≤ x.stale) && decide (x.stale ≤ x.len)))))
theorem and_f {a b : Bool} (h : a = false) : (a && b) = false := by subst h; rfl
theorem and_t {a b : Bool} (h : a = true) : (a && b) = b := by subst h; rfl
set_option maxRecDepth 100000 in
set_option maxHeartbeats 16000000 in
theorem mayHave_any (g b o : Nat) (v : Value) (d s : Int) (x : EntD) (w : World) (hs : ShAt w g v d s) (hx : EntAt w b o x) (rx : RngE x) (hs0 : 0 ≤ s) (hs1 : s ≤ 64) :
    Calls Try.prog 57 #[.pointer (some ⟨g, 0, none⟩), PV b o] w fun e w' => e = .returned (.bool (mayB d s x)) ∧ Below w.heap.size w w' := by
  obtain ⟨W0, hW0⟩ : ∃ W0, W0 = w.alloc (.cells #[.pointer (some ⟨b, o, none⟩)] 82) := ⟨_, rfl⟩
  have hb0 : Below w.heap.size w W0 := by rw [hW0]; exact nwA (nwR w) _
  have HB0 : Hid (Below w.heap.size w W0) := hb0
  have hx0 : W0.heap[w.heap.size]? = some (.cells #[.pointer (some ⟨b, o, none⟩)] 82 (0, 0)) := by rw [hW0]; exact heap_alloc_new w _
  have q0 : ∀ p : Kin W0, p.u.cell? ⟨w.heap.size, 0, none⟩ = some (.pointer (some ⟨b, o, none⟩)) := kcell (one hx0).1
  have q1 : ∀ p : Kin W0, p.u.cell? ⟨b, o, none⟩ = some (.int .i64 x.frm) := kcell (hx.below hb0).1
  have q2 : ∀ p : Kin W0, p.u.cell? ⟨b, o + 1, none⟩ = some (.int .i64 x.len) := kcell (hx.below hb0).2.1
  have q3 : ∀ p : Kin W0, p.u.cell? ⟨b, o + 2, none⟩ = some (.int .i64 x.dev) := kcell (hx.below hb0).2.2.1
  have q4 : ∀ p : Kin W0, p.u.cell? ⟨b, o + 3, none⟩ = some (.int .i64 x.tgt) := kcell (hx.below hb0).2.2.2.1
  have q5 : ∀ p : Kin W0, p.u.cell? ⟨b, o + 4, none⟩ = some (.int .i64 x.stale) := kcell (hx.below hb0).2.2.2.2
  have q6 : ∀ p : Kin W0, p.u.cell? ⟨g, 1, none⟩ = some (.int .i64 d) := kcell (three (hs.below hb0)).2.1
  have q7 : ∀ p : Kin W0, p.u.cell? ⟨g, 2, none⟩ = some (.int .i64 s) := kcell (three (hs.below hb0)).2.2.1
  have HR : Hid (∀ p1 p2 p3 p4 p5 p6, fitsB x.frm x.len s = p1 → fitsB x.tgt x.len 64 = p2 → idB x.dev = p3 → (x.dev != d) = p4 → decide (0 ≤ x.stale) = p5 → decide (x.stale ≤ x.len) = p6 → mayB d s x = (p1 && (p2 && (p3 && (p4 && (p5 && p6)))))) := fun p1 p2 p3 p4 p5 p6 h1 h2 h3 h4 h5 h6 => by subst h1; subst h2; subst h3; subst h4; subst h5; subst h6; rfl
  have HF1 : Hid (∀ p : Kin W0, Calls Try.prog 62 #[.int .i64 x.frm, .int .i64 x.len, .int .i64 s] p.u fun e w' => e = .returned (.bool (fitsB x.frm x.len s)) ∧ w' = p.u) := fun p => fits_any _ _ _ p.u rx.1 hs0 hs1
  have HF2 : Hid (∀ p : Kin W0, Calls Try.prog 62 #[.int .i64 x.tgt, .int .i64 x.len, .int .i64 64] p.u fun e w' => e = .returned (.bool (fitsB x.tgt x.len 64)) ∧ w' = p.u) := fun p => fits_any _ _ _ p.u rx.2.2.2.1 (by omega) (by omega)
  have HI : Hid (∀ p : Kin W0, Calls Try.prog 56 #[.int .i64 x.dev] p.u fun e w' => e = .returned (.bool (idB x.dev)) ∧ w' = p.u) := fun p => isID_any _ p.u
  generalize mayB d s x = res at HR ⊢
  clear hs hx rx hx0 hb0 hs0 hs1
  generalize fitsB x.frm x.len s = p1 at HR HF1
  generalize fitsB x.tgt x.len 64 = p2 at HR HF2
  generalize idB x.dev = p3 at HR HI
  generalize x.frm = xf at HR HF1 q1
  generalize x.tgt = xt at HR HF2 q4
  generalize x.len = xl at HR HF1 HF2 q2
  generalize x.dev = xd at HR HI q3
  generalize x.stale = xs at HR q5
  unfold PV
  go_enter Try.func57, Try.ntmps57
  go_upto_region 1 with fail
  rw [← hW0]
  clear hW0
  cases p1
  case false =>
    have HQ : Hid (res = false) := by show _ = _; rw [HR.out false p2 p3 _ _ _ rfl rfl rfl rfl rfl rfl]; rfl
    clear HR
    refine wp_region_kin (by kernel_rfl) (by kernel_rfl) ?_
    repeat (first | go_big_quiet_step (first | (go_at_call 62; first | with_reducible exact Calls.kin_same (HF1.out _) | with_reducible exact Calls.kin_same (HF2.out _)) | (go_at_call 56; with_reducible exact Calls.kin_same (HI.out _)) | fail) | quiet_step (first | (go_at_call 62; first | with_reducible exact Calls.kin_same (HF1.out _) | with_reducible exact Calls.kin_same (HF2.out _)) | (go_at_call 56; with_reducible exact Calls.kin_same (HI.out _)) | fail))
    refine wpQuiet_nil ?_
    intro _ hwa
    obtain ⟨pa, hw''a⟩ := hwa
    subst hw''a
    go_wp2_with fail
    go_ret
    exact ⟨by rw [HQ.out]; rfl, nwT HB0.out pa.h⟩
  case true =>
  cases p2
  case false =>
    have HQ : Hid (res = false) := by show _ = _; rw [HR.out true false p3 _ _ _ rfl rfl rfl rfl rfl rfl]; rfl
    clear HR
    refine wp_region_kin (by kernel_rfl) (by kernel_rfl) ?_
    repeat (first | go_big_quiet_step (first | (go_at_call 62; first | with_reducible exact Calls.kin_same (HF1.out _) | with_reducible exact Calls.kin_same (HF2.out _)) | (go_at_call 56; with_reducible exact Calls.kin_same (HI.out _)) | fail) | quiet_step (first | (go_at_call 62; first | with_reducible exact Calls.kin_same (HF1.out _) | with_reducible exact Calls.kin_same (HF2.out _)) | (go_at_call 56; with_reducible exact Calls.kin_same (HI.out _)) | fail))
    refine wpQuiet_nil ?_
    intro _ hwa
    obtain ⟨pa, hw''a⟩ := hwa
    subst hw''a
    go_wp2_with fail
    go_ret
    exact ⟨by rw [HQ.out]; rfl, nwT HB0.out pa.h⟩
  case true =>
  refine wp_region_kin (by kernel_rfl) (by kernel_rfl) ?_
  repeat (first | go_big_quiet_step (first | (go_at_call 62; first | with_reducible exact Calls.kin_same (HF1.out _) | with_reducible exact Calls.kin_same (HF2.out _)) | (go_at_call 56; with_reducible exact Calls.kin_same (HI.out _)) | fail) | quiet_step (first | (go_at_call 62; first | with_reducible exact Calls.kin_same (HF1.out _) | with_reducible exact Calls.kin_same (HF2.out _)) | (go_at_call 56; with_reducible exact Calls.kin_same (HI.out _)) | fail))
  refine wpQuiet_nil ?_
  intro _ hwa
  obtain ⟨pa, hw''a⟩ := hwa
  subst hw''a
  go_upto_region 3 with fail
  cases p3
  case false =>
    have HQ : Hid (res = false) := by show _ = _; rw [HR.out true true false _ _ _ rfl rfl rfl rfl rfl rfl]; rfl
    clear HR
    refine wp_region_kin2 (p := pa) (by kernel_rfl) (by kernel_rfl) ?_
    repeat (first | go_big_quiet_step (first | (go_at_call 62; first | with_reducible exact Calls.kin_same (HF1.out _) | with_reducible exact Calls.kin_same (HF2.out _)) | (go_at_call 56; with_reducible exact Calls.kin_same (HI.out _)) | fail) | quiet_step (first | (go_at_call 62; first | with_reducible exact Calls.kin_same (HF1.out _) | with_reducible exact Calls.kin_same (HF2.out _)) | (go_at_call 56; with_reducible exact Calls.kin_same (HI.out _)) | fail))
    refine wpQuiet_nil ?_
    intro _ hwb
    obtain ⟨pb, hwb2⟩ := hwb
    subst hwb2
    go_wp2_with fail
    go_ret
    exact ⟨by rw [HQ.out]; rfl, nwT HB0.out pb.h⟩
  case true =>
  by_cases h4 : xd = d
  case pos =>
    have h4b : (xd != d) = false := by simp [h4]
    have h4c : (xd == d) = true := by simp [h4]
    clear h4
    have HQ : Hid (res = false) := by show _ = _; rw [HR.out true true true false _ _ rfl rfl rfl h4b rfl rfl]; rfl
    clear HR
    refine wp_region_kin2 (p := pa) (by kernel_rfl) (by kernel_rfl) ?_
    repeat (first | go_big_quiet_step (first | (go_at_call 62; first | with_reducible exact Calls.kin_same (HF1.out _) | with_reducible exact Calls.kin_same (HF2.out _)) | (go_at_call 56; with_reducible exact Calls.kin_same (HI.out _)) | fail) | quiet_step (first | (go_at_call 62; first | with_reducible exact Calls.kin_same (HF1.out _) | with_reducible exact Calls.kin_same (HF2.out _)) | (go_at_call 56; with_reducible exact Calls.kin_same (HI.out _)) | fail))
    refine wpQuiet_nil ?_
    intro _ hwb
    obtain ⟨pb, hwb2⟩ := hwb
    subst hwb2
    go_wp2_with fail
    go_ret
    exact ⟨by rw [HQ.out]; rfl, nwT HB0.out pb.h⟩
  case neg =>
  have h4b : (xd != d) = true := by simp [h4]
  have h4c : (xd == d) = false := by simp [h4]
  clear h4
  by_cases h5 : 0 ≤ xs
  case neg =>
    have h5b : decide (0 ≤ xs) = false := decide_eq_false h5
    clear h5
    have HQ : Hid (res = false) := by show _ = _; rw [HR.out true true true true false _ rfl rfl rfl h4b h5b rfl]; rfl
    clear HR
    refine wp_region_kin2 (p := pa) (by kernel_rfl) (by kernel_rfl) ?_
    repeat (first | go_big_quiet_step (first | (go_at_call 62; first | with_reducible exact Calls.kin_same (HF1.out _) | with_reducible exact Calls.kin_same (HF2.out _)) | (go_at_call 56; with_reducible exact Calls.kin_same (HI.out _)) | fail) | quiet_step (first | (go_at_call 62; first | with_reducible exact Calls.kin_same (HF1.out _) | with_reducible exact Calls.kin_same (HF2.out _)) | (go_at_call 56; with_reducible exact Calls.kin_same (HI.out _)) | fail))
    refine wpQuiet_nil ?_
    intro _ hwb
    obtain ⟨pb, hwb2⟩ := hwb
    subst hwb2
    go_wp2_with fail
    go_ret
    exact ⟨by rw [HQ.out]; rfl, nwT HB0.out pb.h⟩
  case pos =>
  have h5b : decide (0 ≤ xs) = true := decide_eq_true h5
  clear h5
  by_cases h6 : xs ≤ xl
  case neg =>
    have h6b : decide (xs ≤ xl) = false := decide_eq_false h6
    clear h6
    have HQ : Hid (res = false) := by show _ = _; rw [HR.out true true true true true false rfl rfl rfl h4b h5b h6b]; rfl
    clear HR
    refine wp_region_kin2 (p := pa) (by kernel_rfl) (by kernel_rfl) ?_
    repeat (first | go_big_quiet_step (first | (go_at_call 62; first | with_reducible exact Calls.kin_same (HF1.out _) | with_reducible exact Calls.kin_same (HF2.out _)) | (go_at_call 56; with_reducible exact Calls.kin_same (HI.out _)) | fail) | quiet_step (first | (go_at_call 62; first | with_reducible exact Calls.kin_same (HF1.out _) | with_reducible exact Calls.kin_same (HF2.out _)) | (go_at_call 56; with_reducible exact Calls.kin_same (HI.out _)) | fail))
    refine wpQuiet_nil ?_
    intro _ hwb
    obtain ⟨pb, hwb2⟩ := hwb
    subst hwb2
    go_wp2_with fail
    go_ret
    exact ⟨by rw [HQ.out]; rfl, nwT HB0.out pb.h⟩
  case pos =>
    have h6b : decide (xs ≤ xl) = true := decide_eq_true h6
    clear h6
    have HQ : Hid (res = true) := by show _ = _; rw [HR.out true true true true true true rfl rfl rfl h4b h5b h6b]; rfl
    clear HR
    refine wp_region_kin2 (p := pa) (by kernel_rfl) (by kernel_rfl) ?_
    repeat (first | go_big_quiet_step (first | (go_at_call 62; first | with_reducible exact Calls.kin_same (HF1.out _) | with_reducible exact Calls.kin_same (HF2.out _)) | (go_at_call 56; with_reducible exact Calls.kin_same (HI.out _)) | fail) | quiet_step (first | (go_at_call 62; first | with_reducible exact Calls.kin_same (HF1.out _) | with_reducible exact Calls.kin_same (HF2.out _)) | (go_at_call 56; with_reducible exact Calls.kin_same (HI.out _)) | fail))
    refine wpQuiet_nil ?_
    intro _ hwb
    obtain ⟨pb, hwb2⟩ := hwb
    subst hwb2
    go_wp2_with fail
    go_ret
    exact ⟨by rw [HQ.out]; rfl, nwT HB0.out pb.h⟩

end Go.Proofs.Ytijldakgfgmbiaa
