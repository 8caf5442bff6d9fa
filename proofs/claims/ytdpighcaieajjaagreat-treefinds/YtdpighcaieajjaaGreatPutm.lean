/- A link more, in its order: plain mathematics; ownership where one list has turned. -/
import Derived.Test.YtdpighcaieajjaaGreatSortl
import Derived.Maps.AppendAt
namespace Go.Proofs.YtdpighcaieajjaaGreat
open Go.RowKit Go.Sort

def StrictL (l : List LinkD) : Prop := ∀ i j, i < j → j < l.length → ltS (l.getD i lk0).1 (l.getD j lk0).1 = true
theorem NamesOk.strict {l : List LinkD} (h : NamesOk l) : StrictL l := by
  intro i j hij hj
  induction j with
  | zero => omega
  | succ j ih =>
    have h1 := (h.2 (j + 1) hj).2 (by omega)
    simp only [Nat.add_sub_cancel] at h1
    by_cases e : i = j
    · subst e; exact h1
    · exact ltS_trans (ih (by omega) (by omega)) h1
theorem StrictL.pair {l : List LinkD} (h : StrictL l) : l.Pairwise (fun a b => ltS a.1 b.1 = true) := by
  rw [List.pairwise_iff_getElem]
  intro i j hi hj hij
  have := h i j hij hj
  simpa [List.getD, hi, hj] using this
theorem pair_uniq : ∀ {a b : List LinkD}, a.Pairwise (fun a b => ltS a.1 b.1 = true) → b.Pairwise (fun a b => ltS b.1 a.1 = false) → b.Perm a → b = a := by
  intro a
  induction a with
  | nil => intro b _ _ hp; exact List.Perm.eq_nil hp
  | cons x a ih =>
    intro b ha hb hp
    cases b with
    | nil => exact absurd hp.length_eq (by simp)
    | cons y b =>
      rw [List.pairwise_cons] at ha hb
      have hxy : x = y := by
        by_cases e : x = y
        · exact e
        · have h1 : x ∈ b := by
            have : x ∈ y :: b := hp.mem_iff.2 (by simp)
            rcases List.mem_cons.1 this with h | h
            · exact absurd h e
            · exact h
          have h2 : y ∈ a := by
            have : y ∈ x :: a := hp.mem_iff.1 (by simp)
            rcases List.mem_cons.1 this with h | h
            · exact absurd h.symm e
            · exact h
          have h3 := hb.1 x h1
          have h4 := ha.1 y h2
          rw [h3] at h4; cases h4
      subst hxy
      rw [ih ha.2 hb.2 ((List.perm_cons x).1 hp)]
theorem putL_perm (l : List LinkD) (x : LinkD) : (putL l x).Perm (l ++ [x]) := by
  unfold putL
  have h : (l.take (posL l x.1) ++ [x] ++ l.drop (posL l x.1)).Perm (l.take (posL l x.1) ++ (l.drop (posL l x.1) ++ [x])) := by
    rw [List.append_assoc]
    exact List.Perm.append_left _ List.perm_append_comm
  rw [← List.append_assoc, List.take_append_drop] at h
  exact h
theorem posL_le (l : List LinkD) (n : ByteArray) : posL l n ≤ l.length := by unfold posL; exact List.IsPrefix.length_le (List.takeWhile_prefix _)
theorem take_pos (l : List LinkD) (n : ByteArray) : l.take (posL l n) = l.takeWhile fun x => ltS x.1 n := by
  unfold posL
  induction l with
  | nil => rfl
  | cons y l ih =>
    rw [List.takeWhile_cons]
    split
    · simp [ih]
    · simp
theorem drop_pos (l : List LinkD) (n : ByteArray) : l.drop (posL l n) = l.dropWhile fun x => ltS x.1 n := by
  unfold posL
  induction l with
  | nil => rfl
  | cons y l ih =>
    rw [List.takeWhile_cons, List.dropWhile_cons]
    split
    · simpa using ih
    · simp
theorem putL_pair {l : List LinkD} {x : LinkD} (h : l.Pairwise (fun a b => ltS a.1 b.1 = true)) (hn : ∀ y ∈ l, y.1 ≠ x.1) : (putL l x).Pairwise (fun a b => ltS a.1 b.1 = true) := by
  unfold putL
  rw [take_pos, drop_pos]
  induction l with
  | nil => simp
  | cons y l ih =>
    rw [List.pairwise_cons] at h
    have h2 := ih h.2 (fun z hz => hn z (by simp [hz]))
    rw [List.takeWhile_cons, List.dropWhile_cons]
    cases hy : ltS y.1 x.1
    · simp only [Bool.false_eq_true, if_false, List.nil_append, List.singleton_append, List.pairwise_cons]
      have hxy : ltS x.1 y.1 = true := by
        cases e : ltS x.1 y.1
        · exact absurd (ltS_total hy e) (hn y (by simp))
        · rfl
      refine ⟨fun z hz => ?_, h.1, h.2⟩
      rcases List.mem_cons.1 hz with rfl | hz
      · exact hxy
      · exact ltS_trans hxy (h.1 z hz)
    · simp only [if_true, List.cons_append, List.pairwise_cons]
      refine ⟨fun z hz => ?_, h2⟩
      rcases List.mem_append.1 hz with hz | hz
      · rcases List.mem_append.1 hz with hz | hz
        · exact h.1 z ((List.takeWhile_prefix _).subset hz)
        · simp at hz; subst hz; exact hy
      · exact h.1 z ((List.dropWhile_suffix _).subset hz)
theorem sorted_put {l b : List LinkD} {x : LinkD} (h : StrictL l) (hn : ∀ y ∈ l, y.1 ≠ x.1) (hp : b.Perm (l ++ [x])) (hs : ∀ i j, i < j → j < b.length → ltS (b.getD j lk0).1 (b.getD i lk0).1 = false) : b = putL l x := by
  refine pair_uniq (putL_pair h.pair hn) ?_ (hp.trans (putL_perm l x).symm)
  rw [List.pairwise_iff_getElem]
  intro i j hi hj hij
  have := hs i j hij hj
  simpa [List.getD, hi, hj] using this

theorem step_append_at {P : Program} {ops : Array Oper} {o : Oper} {a : Act} {w : World} {K : Act → World → Prop} {Q : Exit → Act → World → Prop} {E : Prop}
    (hg : o.guard = none) (s x : Operand) (t : TypeId) (hop : o.op = Op.call { callee := Callee.builtin Builtin.append, args := #[s, x], argTypes := #[t, t] })
    (base : Nat) (e : TypeId) (i : TypeInfo) (z : Value) (size bytes : Nat) (h1 : P.underlying t = some (.slice e)) (h2 : P.info? e = some i) (h3 : i.zero = some z) (h4 : i.size = size) (h5 : i.bytes = bytes) (h6 : z.cells.size = size) (h7 : 0 < size)
    (v : Value) (n : Nat) (xs : List Value) (hs : a.eval s = v) (hown : w.ownsRow base e size v n xs)
    (ad : Addr) (m c : Nat) (news : List Value) (hx : a.eval x = .slice (some ad) m c) (hn : news.length = m * size) (hc : ∀ j u, news[j]? = some u → w.cell? (ad.add j) = some u) (h1c : ∀ u ∈ news, u.oneCell' = true)
    (b1 : n + m ≤ maxLen) (b2 : (n + m) * bytes ≤ 140737488355328) (hbase : base ≤ w.heap.size)
    (hK : ∀ v' w', w'.ownsRow base e size v' (n + m) (xs ++ news) → w.grownBy w' v.ownBlock → (v'.ownBlock = v.ownBlock ∨ v'.ownBlock = some w.heap.size) → K (a.put o.dst v') w') :
    if Region.wanted o (yielded ops a.tmps) = true then Oper.wp P o a w K Q else E := by
  have hw : Region.wanted o (yielded ops a.tmps) = true := by simp [Region.wanted, hg]
  rw [if_pos hw]
  obtain ⟨v', w', hrun, r1, r2, _, r3⟩ := run_append_own_at (P := P) w base t o.type e i z size bytes h1 h2 h3 h4 h5 h6 h7 v n xs hown ad m c news hn hc h1c b1 b2 hbase
  unfold Oper.wp
  simp [execOp, hop, resolve, invoke, builtin, hs, hx, hrun, Result.andThen]
  exact hK _ _ r1 r2 r3

/-- blocks of other kinds than files and links are as they were -/
def KeepT (w w' : World) : Prop := w.heap.size ≤ w'.heap.size ∧ ∀ (k : Nat) (cs : Array Value) (t : TypeId) (fr : Nat × Nat), w.heap[k]? = some (Obj.cells cs t fr) → t ≠ 39 → t ≠ 87 → w'.heap[k]? = some (Obj.cells cs t fr)
theorem KeepT.trans {a b c : World} (h : KeepT a b) (k : KeepT b c) : KeepT a c := ⟨Nat.le_trans h.1 k.1, fun i cs t fr e h1 h2 => k.2 i cs t fr (h.2 i cs t fr e h1 h2) h1 h2⟩
theorem KeepT.of_below {w w' : World} (h : Below w.heap.size w w') : KeepT w w' := ⟨h.size, fun i _ _ _ e _ _ => (h.block i (Array.getElem?_eq_some_iff.1 e).1).trans e⟩
theorem KeepT.of_gb {w w' : World} {base e size n : Nat} {v : Value} {xs : List Value} (h : w.grownBy w' v.ownBlock) (ho : w.ownsRow base e size v n xs) (he : e = 39 ∨ e = 87) : KeepT w w' := by
  refine ⟨h.size, fun i cs t fr hi h1 h2 => (h.block i (Array.getElem?_eq_some_iff.1 hi).1 (fun eq => ?_)).trans hi⟩
  obtain ⟨cs', hk⟩ := own_tag ho i eq.symm
  rw [hk] at hi
  simp only [Option.some.injEq, Obj.cells.injEq] at hi
  rcases he with rfl | rfl
  · exact h1 hi.2.1.symm
  · exact h2 hi.2.1.symm
theorem KeepT.of_set {w : World} {g o : Nat} {cs : Array Value} {fr : Nat × Nat} {t : Nat} (v : Value) (hg : w.heap[g]? = some (.cells cs t fr)) (ht : t = 39 ∨ t = 87) : KeepT w (w.setCell ⟨g, o, none⟩ v) := by
  refine ⟨by simp, fun i cs' t' fr' hi h1 h2 => (heap_setCell_other w ⟨g, o, none⟩ i v (fun e => ?_)).trans hi⟩
  have e2 : i = g := e
  rw [e2, hg] at hi
  simp only [Option.some.injEq, Obj.cells.injEq] at hi
  rcases ht with rfl | rfl
  · exact h1 hi.2.1.symm
  · exact h2 hi.2.1.symm

end Go.Proofs.YtdpighcaieajjaaGreat
