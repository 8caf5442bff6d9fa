/- Numbers and texts that came in, appended to a row of the call's own. -/
import Derived.Test.YtifbnojkjbjngaaDoorTexts
import Derived.Laws.AppendOwnNone
import Derived.Deep.CutRange
namespace Go.Proofs.YtifbnojkjbjngaaDoor
open Go.RowKit

theorem IntsAt.news {w : World} {b o : Nat} {xs : List Int} (h : IntsAt w (some ⟨b, o, none⟩) xs) : ∀ j u, (xs.map (Value.int .i64))[j]? = some u → w.cell? ((⟨b, o, none⟩ : Addr).add j) = some u := by
  intro j u hu
  rw [List.getElem?_map] at hu
  cases hx : xs[j]? with
  | none => rw [hx] at hu; cases hu
  | some x =>
    rw [hx] at hu
    injection hu with hu
    subst hu
    have hj : j < xs.length := (List.getElem?_eq_some_iff.1 hx).1
    obtain ⟨b', o', e, hc⟩ := h.cell hj
    injection e with e
    injection e with e1 e2
    subst e1; subst e2
    have e2 : xs.getD j 0 = x := by simp [List.getD, hx]
    rw [e2] at hc
    rw [show (⟨b, o, none⟩ : Addr).add j = ⟨b, o + j, none⟩ from by simp [Addr.add]]
    exact hc
theorem StrsAt.news {w : World} {b o : Nat} {xs : List ByteArray} (h : StrsAt w (some ⟨b, o, none⟩) xs) : ∀ j u, (xs.map Value.string)[j]? = some u → w.cell? ((⟨b, o, none⟩ : Addr).add j) = some u := by
  intro j u hu
  rw [List.getElem?_map] at hu
  cases hx : xs[j]? with
  | none => rw [hx] at hu; cases hu
  | some x =>
    rw [hx] at hu
    injection hu with hu
    subst hu
    have hj : j < xs.length := (List.getElem?_eq_some_iff.1 hx).1
    obtain ⟨b', o', e, hc⟩ := h.cell hj
    injection e with e
    injection e with e1 e2
    subst e1; subst e2
    have e2 : xs.getD j ByteArray.empty = x := by simp [List.getD, hx]
    rw [e2] at hc
    rw [show (⟨b, o, none⟩ : Addr).add j = ⟨b, o + j, none⟩ from by simp [Addr.add]]
    exact hc

theorem wpList_append_in {P : Program} (w : World) {ops : Array Oper} {rest : List Oper} {o : Oper} {a : Act} {Q : Exit → Act → World → Prop} (hgd : o.guard = none) (s x : Operand) (t : TypeId)
    (ho : o.op = .call { callee := .builtin .append, args := #[s, x], argTypes := #[t, t] })
    (base : Nat) (e : TypeId) (i : TypeInfo) (z : Value) (by' : Nat) (ht : P.underlying t = some (.slice e)) (hi : P.info? e = some i) (hz : i.zero = some z)
    (hsize : i.size = 1) (hby : i.bytes = by') (hzs : z.cells.size = 1)
    (v : Value) (n : Nat) (ys : List Value) (hs : a.eval s = v) (hown : w.ownsRow base e 1 v n ys)
    (ao : Option Addr) (m ca : Nat) (xs : List Value) (hxl : xs.length = m) (hx : a.eval x = .slice ao m ca) (hst : ∀ p, ao = some p → ∀ j u, xs[j]? = some u → w.cell? (p.add j) = some u) (hn : ao = none → m = 0 ∧ ca = 0)
    (one : ∀ u ∈ xs, u.oneCell' = true)
    (h63 : n + m ≤ maxLen) (hbytes : (n + m) * by' ≤ 140737488355328) (hbase : base ≤ w.heap.size)
    (h : ∀ v' w', w'.ownsRow base e 1 v' (n + m) (ys ++ xs) → w.grownBy w' v.ownBlock → wpList P ops Q rest (a.put o.dst v') w') : wpList P ops Q (o :: rest) a w := by
  cases ao with
  | none =>
    obtain ⟨rfl, rfl⟩ := hn rfl
    have hx0 : xs = [] := List.length_eq_zero_iff.1 hxl
    subst hx0
    refine wpList_append_own_none hgd s x t ho base e i 1 ht hi v n ys hs hown hx ?_
    exact h v w (by rw [List.append_nil, Nat.add_zero]; exact hown) ⟨rfl, rfl, rfl, Nat.le_refl _, fun _ _ _ => rfl⟩
  | some p =>
    exact wpList_append_own w hgd s x t ho base e i z 1 by' ht hi hz hsize hby hzs (by decide) v n ys hs hown p m ca xs hx (by omega) (hst p rfl) one h63 hbytes hbase (fun v' w' h1 h2 _ => h v' w' h1 h2)
theorem ints_one (xs : List Int) : ∀ u ∈ xs.map (Value.int .i64), u.oneCell' = true := by
  intro u hu
  obtain ⟨r, _, rfl⟩ := List.mem_map.1 hu
  rfl
theorem strs_one (xs : List ByteArray) : ∀ u ∈ xs.map Value.string, u.oneCell' = true := by
  intro u hu
  obtain ⟨r, _, rfl⟩ := List.mem_map.1 hu
  rfl
theorem IntsAt.src {w : World} {a : Option Addr} {xs : List Int} (h : IntsAt w a xs) : ∀ p, a = some p → ∀ j u, (xs.map (Value.int .i64))[j]? = some u → w.cell? (p.add j) = some u := by
  intro p e
  subst e
  rcases h with h | ⟨b, o, e, hc⟩
  · subst h; intro j u hu; simp at hu
  · injection e with e; subst e; exact IntsAt.news (.inr ⟨b, o, rfl, hc⟩)
theorem StrsAt.src {w : World} {a : Option Addr} {xs : List ByteArray} (h : StrsAt w a xs) : ∀ p, a = some p → ∀ j u, (xs.map Value.string)[j]? = some u → w.cell? (p.add j) = some u := by
  intro p e
  subst e
  rcases h with h | ⟨b, o, e, hc⟩
  · subst h; intro j u hu; simp at hu
  · injection e with e; subst e; exact StrsAt.news (.inr ⟨b, o, rfl, hc⟩)
theorem IntsAt.none_zero {w : World} {a : Option Addr} {xs : List Int} {c : Nat} (h : IntsAt w a xs) (hc : CapOk a c xs.length) : a = none → xs.length = 0 ∧ c = 0 := by
  intro e
  refine ⟨?_, hc.2.1 e⟩
  rcases h with h | ⟨b, o, e2, _⟩
  · rw [h]; rfl
  · rw [e] at e2; cases e2
theorem StrsAt.none_zero {w : World} {a : Option Addr} {xs : List ByteArray} {c : Nat} (h : StrsAt w a xs) (hc : CapOk a c xs.length) : a = none → xs.length = 0 ∧ c = 0 := by
  intro e
  refine ⟨?_, hc.2.1 e⟩
  rcases h with h | ⟨b, o, e2, _⟩
  · rw [h]; rfl
  · rw [e] at e2; cases e2
theorem own_new (w : World) (e : TypeId) (cs : List Value) (h : cs.length ≤ maxLen) : (w.alloc (.cells cs.toArray e)).ownsRow w.heap.size e 1 (.slice (some ⟨w.heap.size, 0, none⟩) cs.length cs.length) cs.length cs :=
  ⟨by simp, .inr ⟨w.heap.size, cs.length, _, rfl, Nat.le_refl _, heap_alloc_new w _, Nat.le_refl _, h, by simp, by simp⟩⟩

end Go.Proofs.YtifbnojkjbjngaaDoor
