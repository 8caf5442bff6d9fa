/- Laid together: Put, New, Filep, Node. -/
import Derived.Test.YtdpighcaieajjabGreatTreesM5
/- A link more, one less. -/
namespace Go.Proofs.YtdpighcaieajjabGreat
open Go.RowKit

def ltS (a b : ByteArray) : Bool := Op.bytesLess a.toList b.toList
def posL (l : List LinkD) (n : ByteArray) : Nat := (l.takeWhile fun x => ltS x.1 n).length
def putL (l : List LinkD) (x : LinkD) : List LinkD := l.take (posL l x.1) ++ [x] ++ l.drop (posL l x.1)

theorem posL_eq {l : List LinkD} {n : ByteArray} {k : Nat} (hk : k ≤ l.length) (h : ∀ j, j < k → ltS (l.getD j lk0).1 n = true) (hn : k = l.length ∨ (k < l.length ∧ ltS (l.getD k lk0).1 n = false)) : posL l n = k := by
  unfold posL
  induction l generalizing k with
  | nil => simp at hk; subst hk; rfl
  | cons x xs ih =>
    cases k with
    | zero =>
      rcases hn with hn | ⟨_, hn⟩
      · simp at hn
      · have : ltS x.1 n = false := by simpa [List.getD] using hn
        rw [List.takeWhile_cons]; simp [this]
    | succ k =>
      have h0 : ltS x.1 n = true := by simpa [List.getD] using h 0 (by omega)
      rw [List.takeWhile_cons]
      simp only [h0, if_true, List.length_cons]
      rw [ih (k := k) (by simpa using hk) (fun j hj => by simpa [List.getD] using h (j + 1) (by omega)) (by
        rcases hn with hn | ⟨h1, hn⟩
        · left; simpa using hn
        · right; exact ⟨by simpa using h1, by simpa [List.getD] using hn⟩)]

theorem LinksAt.take {w : World} {a : Option Addr} {l : List LinkD} (h : LinksAt w a l) (k : Nat) : LinksAt w a (l.take k) := by
  rcases h with rfl | ⟨b, o, rfl, hc⟩
  · exact .inl (by simp)
  · refine .inr ⟨b, o, rfl, fun i hi => ?_⟩
    rw [List.length_take] at hi
    have e : (l.take k).getD i lk0 = l.getD i lk0 := by simp [List.getD, show i < k from by omega]
    rw [e]; exact hc i (by omega)
theorem lflat_append (a b : List LinkD) : lflat (a ++ b) = lflat a ++ lflat b := by simp [lflat]
theorem lflat_one (l : List LinkD) : ∀ u ∈ lflat l, u.oneCell' = true := by
  intro u hu
  obtain ⟨x, _, hx⟩ := List.mem_flatMap.1 hu
  simp at hx
  rcases hx with rfl | rfl <;> rfl
theorem lflat_drop (l : List LinkD) (k : Nat) : lflat (l.drop k) = (lflat l).drop (k * 2) := by
  induction l generalizing k with
  | nil => simp [lflat]
  | cons x xs ih =>
    cases k with
    | zero => simp
    | succ k =>
      have e : lflat (x :: xs) = .string x.1 :: .int .i64 x.2 :: lflat xs := by simp [lflat]
      rw [List.drop_succ_cons, ih k, e, show (k + 1) * 2 = k * 2 + 1 + 1 from by omega, List.drop_succ_cons, List.drop_succ_cons]
/-- the cells of links from one on -/
theorem LinksAt.cellsFrom {w : World} {b o : Nat} {l : List LinkD} (h : LinksAt w (some ⟨b, o, none⟩) l) (k : Nat) : ∀ j u, (lflat (l.drop k))[j]? = some u → w.cell? ((⟨b, o + k * 2, none⟩ : Addr).add j) = some u := by
  intro j u hu
  rw [lflat_drop, List.getElem?_drop] at hu
  have hlt : k * 2 + j < (lflat l).length := (List.getElem?_eq_some_iff.1 hu).1
  rw [lflat_len] at hlt
  have e : (⟨b, o + k * 2, none⟩ : Addr).add j = ⟨b, o + k * 2 + j, none⟩ := by unfold Addr.add; split <;> simp_all
  rw [e]
  have hi : (k * 2 + j) / 2 < l.length := by omega
  obtain ⟨b', o', e', hc0, hc1⟩ := h.cell hi
  injection e' with e'
  injection e' with e1 e2
  subst e1; subst e2
  obtain ⟨g0, g1⟩ := lflat_get l _ hi
  rcases Nat.mod_two_eq_zero_or_one (k * 2 + j) with hm | hm
  · have ee : (k * 2 + j) / 2 * 2 = k * 2 + j := by omega
    rw [ee] at g0 hc0
    rw [g0] at hu
    injection hu with hu
    subst hu
    rw [← Nat.add_assoc] at hc0; exact hc0
  · have ee : (k * 2 + j) / 2 * 2 + 1 = k * 2 + j := by omega
    rw [ee] at g1
    rw [g1] at hu
    injection hu with hu
    subst hu
    have : o + (k * 2 + j) / 2 * 2 + 1 = o + k * 2 + j := by omega
    rw [this] at hc1; exact hc1

theorem OwnLinks.app {w : World} {base : Nat} {v : Value} {a b : List LinkD} {m : Nat} (hm : b.length = m) (h : w.ownsRow base 63 2 v (a.length + m) (lflat a ++ lflat b)) : OwnLinks w base v (a ++ b) := by
  unfold OwnLinks
  rw [lflat_append, List.length_append, hm]; exact h
theorem cells_kept {X w : World} {p : Addr} {cs : List Value} (hb : Below X.heap.size X w) (h : ∀ j u, cs[j]? = some u → X.cell? (p.add j) = some u) : ∀ j u, cs[j]? = some u → w.cell? (p.add j) = some u :=
  fun j u hu => (hb.cell (p := p.add j) (block_lt_of_cell (h j u hu))).trans (h j u hu)

theorem step_append_src {P : Program} {ops : Array Oper} {o : Oper} {a : Act} {w : World} {K : Act → World → Prop} {Q : Exit → Act → World → Prop} {E : Prop}
    (hg : o.guard = none) (s x : Operand) (t : TypeId) (hop : o.op = Op.call { callee := Callee.builtin Builtin.append, args := #[s, x], argTypes := #[t, t] })
    (base : Nat) (e : TypeId) (i : TypeInfo) (z : Value) (size bytes : Nat) (h1 : P.underlying t = some (.slice e)) (h2 : P.info? e = some i) (h3 : i.zero = some z) (h4 : i.size = size) (h5 : i.bytes = bytes) (h6 : z.cells.size = size) (h7 : 0 < size)
    (v : Value) (n : Nat) (xs : List Value) (hs : a.eval s = v) (hown : w.ownsRow base e size v n xs)
    (ao : Option Addr) (m c : Nat) (news : List Value) (hx : a.eval x = .slice ao m c) (hn : news.length = m * size) (hnil : ao = none → m = 0 ∧ c = 0) (hc : ∀ p, ao = some p → ∀ j u, news[j]? = some u → w.cell? (p.add j) = some u) (h1c : ∀ u ∈ news, u.oneCell' = true)
    (b1 : n + m ≤ maxLen) (b2 : (n + m) * bytes ≤ 140737488355328) (hbase : base ≤ w.heap.size)
    (hK : ∀ v' w', w'.ownsRow base e size v' (n + m) (xs ++ news) → w.grownBy w' v.ownBlock → K (a.put o.dst v') w') :
    if Region.wanted o (yielded ops a.tmps) = true then Oper.wp P o a w K Q else E := by
  have hw : Region.wanted o (yielded ops a.tmps) = true := by simp [Region.wanted, hg]
  rw [if_pos hw]
  cases ao with
  | none =>
    obtain ⟨rfl, rfl⟩ := hnil rfl
    have hnews : news = [] := by simpa using hn
    subst hnews
    have hrun := run_append_owned_none (P := P) (w := w) base t o.type e i size h1 h2 v n xs hown
    unfold Oper.wp
    simp [execOp, hop, resolve, invoke, builtin, hs, hx, hrun, Result.andThen]
    exact hK _ _ (by simpa using hown) ⟨rfl, rfl, rfl, Nat.le_refl _, fun _ _ _ => rfl⟩
  | some ad =>
    obtain ⟨v', w', hrun, r1, r2, _⟩ := run_append_own (P := P) w base t o.type e i z size bytes h1 h2 h3 h4 h5 h6 h7 v n xs hown ad m c news hn (hc ad rfl) h1c b1 b2 hbase
    unfold Oper.wp
    simp [execOp, hop, resolve, invoke, builtin, hs, hx, hrun, Result.andThen]
    exact hK _ _ r1 r2

set_option maxRecDepth 100000 in
set_option maxHeartbeats 8000000 in
theorem put_room (b1 o1 : Nat) (l : List LinkD) (ca : Nat) (n : ByteArray) (id : Int) (w : World) (hv : LinksAt w (some ⟨b1, o1, none⟩) l) (hl : l.length ≤ 100000) (hca : l.length < ca) :
    Calls Tryz.prog 47 #[.slice (some ⟨b1, o1, none⟩) l.length ca, .agg #[.string n, .int .i64 id]] w fun e w' => (∃ v, e = .returned v ∧ OwnLinks w' w.heap.size v (putL l (n, id))) ∧ Below w.heap.size w w' := by
  have HL : Hid (LinksAt w (some ⟨b1, o1, none⟩) l) := hv
  clear hv
  go_enter Tryz.func47, Tryz.ntmps47
  go_wp2_with fail
  obtain ⟨W0, hW0⟩ : ∃ W0, W0 = w.alloc (.cells #[.string n, .int .i64 id] 63) := ⟨_, rfl⟩
  have HB0 : Hid (Below w.heap.size w W0) := by rw [hW0]; exact nwA (nwR w) _
  have HL0 : Hid (LinksAt W0 (some ⟨b1, o1, none⟩) l) := HL.out.below HB0.out
  have x0 : W0.cell? ⟨w.heap.size, 0, none⟩ = some (.string n) := by rw [hW0]; simp
  have x1 : W0.cell? ⟨w.heap.size, 1, none⟩ = some (.int .i64 id) := by rw [hW0]; simp
  rw [← hW0]
  clear hW0 HL
  go_loopw [5] (fun i wr => ∃ (k q : Nat), k ≤ l.length ∧ i = .int .i64 k ∧ wr = W0.drewN q ∧ Hid (∀ j, j < k → ltS (l.getD j lk0).1 n = true))
    (fun i _ => l.length - (intOf i).toNat)
  case atStart => exact ⟨0, 0, by omega, rfl, rfl, fun j hj => by omega⟩
  case round =>
    obtain ⟨k, q, hk, rfl, rfl, HE⟩ := hrel
    by_cases hlt : k < l.length
    · have hd : decide ((k : Int) < (l.length : Int)) = true := decide_eq_true (by omega)
      obtain ⟨b', o', e', c0, c1⟩ := HL0.out.cell hlt
      injection e' with e'
      injection e' with e1 e2
      subst e1; subst e2
      generalize hz : (l.getD k lk0).1 = z at c0
      have HZ : Hid ((l.getD k lk0).1 = z) := hz
      clear hz
      cases ht : Op.bytesLess z.toList n.toList
      · have HP : Hid (posL l n = k) := posL_eq (by omega) HE.out (.inr ⟨hlt, by rw [HZ.out]; exact ht⟩)
        go_wp2_with fail
        go_quiet (fail)
        go_wp2_with fail
        have HLW : Hid (LinksAt ((W0.drewN q).drewN nq) (some ⟨b1, o1, none⟩) l) := HL0.out
        have HBW : Hid (Below w.heap.size w ((W0.drewN q).drewN nq)) := below_drewN (below_drewN HB0.out _) _
        have v0 : ((W0.drewN q).drewN nq).cell? ⟨w.heap.size, 0, none⟩ = some (.string n) := x0
        have v1 : ((W0.drewN q).drewN nq).cell? ⟨w.heap.size, 1, none⟩ = some (.int .i64 id) := x1
        generalize (W0.drewN q).drewN nq = W at HLW HBW v0 v1 ⊢
        have hS := nwR W
        have z0 : ∀ w', Below W.heap.size W w' → w'.cell? ⟨w.heap.size, 0, none⟩ = some (.string n) := fun w' h => (h.cell (p := ⟨w.heap.size, 0, none⟩) (block_lt_of_cell v0)).trans v0
        have z1 : ∀ w', Below W.heap.size W w' → w'.cell? ⟨w.heap.size, 1, none⟩ = some (.int .i64 id) := fun w' h => (h.cell (p := ⟨w.heap.size, 1, none⟩) (block_lt_of_cell v1)).trans v1
        have HTL : Hid ((l.take k).length = k) := by show _ = _; rw [List.length_take]; omega
        have HCP : Hid (∀ w' c, Below W.heap.size W w' → Calls Tryz.prog 69 #[.slice (some ⟨b1, o1, none⟩) k c] w' fun e w2 => (∃ v, e = .returned v ∧ OwnLinks w2 w'.heap.size v (l.take k)) ∧ Below w'.heap.size w' w2) := fun w' c h => by
          have h2 := copyLinks_any (some ⟨b1, o1, none⟩) (l.take k) c w' ((HLW.out.take k).below h) (by rw [HTL.out]; omega)
          rw [HTL.out] at h2
          exact h2
        obtain ⟨i0, hi, hz0, hz1, hz2⟩ := info_parts Tryz.info63
        have hB1 : (l.take k).length + 1 ≤ maxLen := by rw [HTL.out]; unfold maxLen; omega
        have hB2 : ((l.take k).length + 1) * 24 ≤ 140737488355328 := by rw [HTL.out]; omega
        have hB0 : (l.take k ++ [(n, id)]).length = k + 1 := by rw [List.length_append, HTL.out]; rfl
        have hB3 : (l.take k ++ [(n, id)]).length + (l.length - k) ≤ maxLen := by rw [hB0]; unfold maxLen; omega
        have hB4 : ((l.take k ++ [(n, id)]).length + (l.length - k)) * 24 ≤ 140737488355328 := by rw [hB0]; omega
        clear hB0
        have hkc : ¬ ca = k := by omega
        have g1 : (k : Int) ≤ (ca : Int) := by omega
        have g2 : (k : Int) ≤ (l.length : Int) := by omega
        have g3 : (0 : Int) ≤ (k : Int) := by omega
        clear v0 v1 x0 x1
        go_region_held3 (fun w' => Below W.heap.size W w') (first | assumption | exact Below.drew (by assumption) | exact nwT (by assumption) (by assumption) | (exact nwA (by assumption) _) | (exact Below.drew (nwA (by assumption) _))) (first
          | (go_at_call 69; refine (HCP.out _ _ (by assumption)).mono ?_; rintro e wC ⟨⟨vC, rfl, hoC⟩, hbC⟩; have HOC : Hid (OwnLinks wC W.heap.size vC (l.take k)) := own_le hoC (Below.size (by assumption)); have hbC0 : Below W.heap.size W wC := (nwT (by assumption) hbC); clear hoC)
          | (refine step_append_src (by rfl) (.tmp 25) (.tmp 27) 57 (by rfl) W.heap.size 63 i0 (.agg #[.string ⟨#[]⟩, .int .i64 0]) 2 24 Tryz.underlying57 hi hz0 hz1 hz2 rfl (by decide) vC (l.take k).length (lflat (l.take k)) (by simp [Act.eval]) (by exact World.ownsRow.alloc HOC.out _) (some ⟨wC.heap.size, 0, none⟩) 1 1 [.string n, .int .i64 id] (by simp [Act.eval]) rfl (fun e => by cases e) (by intro p e; injection e with e; subst e; exact cells_new _ [.string n, .int .i64 id] _) (by simp [Value.oneCell']) hB1 hB2 (by exact (nwA hbC0 _).size) ?_; intro v1 w3 hown1 hgrow1; have hb3 : Below W.heap.size W w3 := (nwA hbC0 _).grown hgrow1 (nwA hbC0 _).size (fun q e => (HOC.out.lt q e).1); have HO3 : Hid (OwnLinks w3 W.heap.size v1 (l.take k ++ [(n, id)])) := OwnLinks.snoc hown1; clear hown1 hgrow1)
          | (refine step_append_src (by rfl) (.tmp 25) (.tmp 27) 57 (by rfl) W.heap.size 63 i0 (.agg #[.string ⟨#[]⟩, .int .i64 0]) 2 24 Tryz.underlying57 hi hz0 hz1 hz2 rfl (by decide) vC (l.take k).length (lflat (l.take k)) (by simp [Act.eval]) (by exact HOC.out) (some ⟨W.heap.size, 0, none⟩) 1 1 [.string n, .int .i64 id] (by simp [Act.eval]) rfl (fun e => by cases e) (by intro p e; injection e with e; subst e; exact cells_kept hbC (cells_new _ [.string n, .int .i64 id] _)) (by simp [Value.oneCell']) hB1 hB2 (by exact hbC0.size) ?_; intro v1 w3 hown1 hgrow1; have hb3 : Below W.heap.size W w3 := hbC0.grown hgrow1 hbC0.size (fun q e => (HOC.out.lt q e).1); have HO3 : Hid (OwnLinks w3 W.heap.size v1 (l.take k ++ [(n, id)])) := OwnLinks.snoc hown1; clear hown1 hgrow1)
          | (refine step_append_src (by rfl) (.tmp 28) (.tmp 31) 57 (by rfl) W.heap.size 63 i0 (.agg #[.string ⟨#[]⟩, .int .i64 0]) 2 24 Tryz.underlying57 hi hz0 hz1 hz2 rfl (by decide) v1 (l.take k ++ [(n, id)]).length (lflat (l.take k ++ [(n, id)])) (by simp [Act.eval]) (by exact HO3.out) (some ⟨b1, o1 + k * 2, none⟩) (l.length - k) (ca - k) (lflat (l.drop k)) (by simp [Act.eval]) (by rw [lflat_len, List.length_drop]) (fun e => by cases e) (by intro p e; injection e with e; subst e; exact (HLW.out.below hb3).cellsFrom k) (lflat_one _) hB3 hB4 (by exact hb3.size) ?_; intro v2 w4 hown2 hgrow2; have hb4 : Below W.heap.size W w4 := hb3.grown hgrow2 hb3.size (fun q e => (HO3.out.lt q e).1); have HO4 : Hid (OwnLinks w4 W.heap.size v2 (l.take k ++ [(n, id)] ++ l.drop k)) := OwnLinks.app List.length_drop hown2; clear hown2 hgrow2)
          | fail)
        all_goals
          obtain ⟨a2, c2, rfl, _⟩ := HO4.out.at
          clear z0 z1
          go_wp2_with fail
          go_ret
          exact ⟨⟨_, rfl, by unfold putL; rw [HP.out]; exact own_le HO4.out HBW.out.size⟩, nwT HBW.out hb4⟩
      · have HN : Hid (∀ j, j < k + 1 → ltS (l.getD j lk0).1 n = true) := fun j hj => by
          by_cases e : j = k
          · subst e; rw [HZ.out]; exact ht
          · exact HE.out j (by omega)
        go_wp2_with fail
        go_quiet (fail)
        go_wp2_with fail
        go_roundw
        case rel => exact ⟨k + 1, _, by omega, by go_num, rfl, HN⟩
        case measure => simp [intOf]; omega
    · have hd : decide ((k : Int) < (l.length : Int)) = false := decide_eq_false (by omega)
      have HP : Hid (posL l n = k) := posL_eq (by omega) HE.out (.inl (by omega))
      go_wp2_with fail
      go_quiet (fail)
      go_wp2_with fail
      have HLW : Hid (LinksAt ((W0.drewN q).drewN nq) (some ⟨b1, o1, none⟩) l) := HL0.out
      have HBW : Hid (Below w.heap.size w ((W0.drewN q).drewN nq)) := below_drewN (below_drewN HB0.out _) _
      have v0 : ((W0.drewN q).drewN nq).cell? ⟨w.heap.size, 0, none⟩ = some (.string n) := x0
      have v1 : ((W0.drewN q).drewN nq).cell? ⟨w.heap.size, 1, none⟩ = some (.int .i64 id) := x1
      generalize (W0.drewN q).drewN nq = W at HLW HBW v0 v1 ⊢
      have hS := nwR W
      have z0 : ∀ w', Below W.heap.size W w' → w'.cell? ⟨w.heap.size, 0, none⟩ = some (.string n) := fun w' h => (h.cell (p := ⟨w.heap.size, 0, none⟩) (block_lt_of_cell v0)).trans v0
      have z1 : ∀ w', Below W.heap.size W w' → w'.cell? ⟨w.heap.size, 1, none⟩ = some (.int .i64 id) := fun w' h => (h.cell (p := ⟨w.heap.size, 1, none⟩) (block_lt_of_cell v1)).trans v1
      have HTL : Hid ((l.take k).length = k) := by show _ = _; rw [List.length_take]; omega
      have HCP : Hid (∀ w' c, Below W.heap.size W w' → Calls Tryz.prog 69 #[.slice (some ⟨b1, o1, none⟩) k c] w' fun e w2 => (∃ v, e = .returned v ∧ OwnLinks w2 w'.heap.size v (l.take k)) ∧ Below w'.heap.size w' w2) := fun w' c h => by
        have h2 := copyLinks_any (some ⟨b1, o1, none⟩) (l.take k) c w' ((HLW.out.take k).below h) (by rw [HTL.out]; omega)
        rw [HTL.out] at h2
        exact h2
      obtain ⟨i0, hi, hz0, hz1, hz2⟩ := info_parts Tryz.info63
      have hB1 : (l.take k).length + 1 ≤ maxLen := by rw [HTL.out]; unfold maxLen; omega
      have hB2 : ((l.take k).length + 1) * 24 ≤ 140737488355328 := by rw [HTL.out]; omega
      have hB0 : (l.take k ++ [(n, id)]).length = k + 1 := by rw [List.length_append, HTL.out]; rfl
      have hB3 : (l.take k ++ [(n, id)]).length + (l.length - k) ≤ maxLen := by rw [hB0]; unfold maxLen; omega
      have hB4 : ((l.take k ++ [(n, id)]).length + (l.length - k)) * 24 ≤ 140737488355328 := by rw [hB0]; omega
      clear hB0
      have hkc : ¬ ca = k := by omega
      have g1 : (k : Int) ≤ (ca : Int) := by omega
      have g2 : (k : Int) ≤ (l.length : Int) := by omega
      have g3 : (0 : Int) ≤ (k : Int) := by omega
      clear v0 v1 x0 x1
      go_region_held3 (fun w' => Below W.heap.size W w') (first | assumption | exact Below.drew (by assumption) | exact nwT (by assumption) (by assumption) | (exact nwA (by assumption) _) | (exact Below.drew (nwA (by assumption) _))) (first
        | (go_at_call 69; refine (HCP.out _ _ (by assumption)).mono ?_; rintro e wC ⟨⟨vC, rfl, hoC⟩, hbC⟩; have HOC : Hid (OwnLinks wC W.heap.size vC (l.take k)) := own_le hoC (Below.size (by assumption)); have hbC0 : Below W.heap.size W wC := (nwT (by assumption) hbC); clear hoC)
        | (refine step_append_src (by rfl) (.tmp 25) (.tmp 27) 57 (by rfl) W.heap.size 63 i0 (.agg #[.string ⟨#[]⟩, .int .i64 0]) 2 24 Tryz.underlying57 hi hz0 hz1 hz2 rfl (by decide) vC (l.take k).length (lflat (l.take k)) (by simp [Act.eval]) (by exact World.ownsRow.alloc HOC.out _) (some ⟨wC.heap.size, 0, none⟩) 1 1 [.string n, .int .i64 id] (by simp [Act.eval]) rfl (fun e => by cases e) (by intro p e; injection e with e; subst e; exact cells_new _ [.string n, .int .i64 id] _) (by simp [Value.oneCell']) hB1 hB2 (by exact (nwA hbC0 _).size) ?_; intro v1 w3 hown1 hgrow1; have hb3 : Below W.heap.size W w3 := (nwA hbC0 _).grown hgrow1 (nwA hbC0 _).size (fun q e => (HOC.out.lt q e).1); have HO3 : Hid (OwnLinks w3 W.heap.size v1 (l.take k ++ [(n, id)])) := OwnLinks.snoc hown1; clear hown1 hgrow1)
        | (refine step_append_src (by rfl) (.tmp 25) (.tmp 27) 57 (by rfl) W.heap.size 63 i0 (.agg #[.string ⟨#[]⟩, .int .i64 0]) 2 24 Tryz.underlying57 hi hz0 hz1 hz2 rfl (by decide) vC (l.take k).length (lflat (l.take k)) (by simp [Act.eval]) (by exact HOC.out) (some ⟨W.heap.size, 0, none⟩) 1 1 [.string n, .int .i64 id] (by simp [Act.eval]) rfl (fun e => by cases e) (by intro p e; injection e with e; subst e; exact cells_kept hbC (cells_new _ [.string n, .int .i64 id] _)) (by simp [Value.oneCell']) hB1 hB2 (by exact hbC0.size) ?_; intro v1 w3 hown1 hgrow1; have hb3 : Below W.heap.size W w3 := hbC0.grown hgrow1 hbC0.size (fun q e => (HOC.out.lt q e).1); have HO3 : Hid (OwnLinks w3 W.heap.size v1 (l.take k ++ [(n, id)])) := OwnLinks.snoc hown1; clear hown1 hgrow1)
        | (refine step_append_src (by rfl) (.tmp 28) (.tmp 31) 57 (by rfl) W.heap.size 63 i0 (.agg #[.string ⟨#[]⟩, .int .i64 0]) 2 24 Tryz.underlying57 hi hz0 hz1 hz2 rfl (by decide) v1 (l.take k ++ [(n, id)]).length (lflat (l.take k ++ [(n, id)])) (by simp [Act.eval]) (by exact HO3.out) (some ⟨b1, o1 + k * 2, none⟩) (l.length - k) (ca - k) (lflat (l.drop k)) (by simp [Act.eval]) (by rw [lflat_len, List.length_drop]) (fun e => by cases e) (by intro p e; injection e with e; subst e; exact (HLW.out.below hb3).cellsFrom k) (lflat_one _) hB3 hB4 (by exact hb3.size) ?_; intro v2 w4 hown2 hgrow2; have hb4 : Below W.heap.size W w4 := hb3.grown hgrow2 hb3.size (fun q e => (HO3.out.lt q e).1); have HO4 : Hid (OwnLinks w4 W.heap.size v2 (l.take k ++ [(n, id)] ++ l.drop k)) := OwnLinks.app List.length_drop hown2; clear hown2 hgrow2)
        | fail)
      all_goals
        obtain ⟨a2, c2, rfl, _⟩ := HO4.out.at
        clear z0 z1
        go_wp2_with fail
        go_ret
        exact ⟨⟨_, rfl, by unfold putL; rw [HP.out]; exact own_le HO4.out HBW.out.size⟩, nwT HBW.out hb4⟩

set_option maxRecDepth 100000 in
set_option maxHeartbeats 8000000 in
theorem put_full (p0 : Addr) (l : List LinkD) (ca : Nat) (n : ByteArray) (id : Int) (w : World) (hv : LinksAt w (some p0) l) (hl : l.length ≤ 100000) (hca : l.length ≤ ca) (hca2 : ca ≤ l.length) :
    Calls Tryz.prog 47 #[.slice (some p0) l.length ca, .agg #[.string n, .int .i64 id]] w fun e w' => (∃ v, e = .returned v ∧ OwnLinks w' w.heap.size v (putL l (n, id))) ∧ Below w.heap.size w w' := by
  have HL : Hid (LinksAt w (some p0) l) := hv
  clear hv
  go_enter Tryz.func47, Tryz.ntmps47
  go_wp2_with fail
  obtain ⟨W0, hW0⟩ : ∃ W0, W0 = w.alloc (.cells #[.string n, .int .i64 id] 63) := ⟨_, rfl⟩
  have HB0 : Hid (Below w.heap.size w W0) := by rw [hW0]; exact nwA (nwR w) _
  have HL0 : Hid (LinksAt W0 (some p0) l) := HL.out.below HB0.out
  have x0 : W0.cell? ⟨w.heap.size, 0, none⟩ = some (.string n) := by rw [hW0]; simp
  have x1 : W0.cell? ⟨w.heap.size, 1, none⟩ = some (.int .i64 id) := by rw [hW0]; simp
  rw [← hW0]
  clear hW0 HL
  go_loopw [5] (fun i wr => ∃ (k q : Nat), k ≤ l.length ∧ i = .int .i64 k ∧ wr = W0.drewN q ∧ Hid (∀ j, j < k → ltS (l.getD j lk0).1 n = true))
    (fun i _ => l.length - (intOf i).toNat)
  case atStart => exact ⟨0, 0, by omega, rfl, rfl, fun j hj => by omega⟩
  case round =>
    obtain ⟨k, q, hk, rfl, rfl, HE⟩ := hrel
    by_cases hlt : k < l.length
    · have hd : decide ((k : Int) < (l.length : Int)) = true := decide_eq_true (by omega)
      obtain ⟨b1, o1, e', c0, c1⟩ := HL0.out.cell hlt
      injection e' with e'
      subst e'
      generalize hz : (l.getD k lk0).1 = z at c0
      have HZ : Hid ((l.getD k lk0).1 = z) := hz
      clear hz
      cases ht : Op.bytesLess z.toList n.toList
      · have HP : Hid (posL l n = k) := posL_eq (by omega) HE.out (.inr ⟨hlt, by rw [HZ.out]; exact ht⟩)
        go_wp2_with fail
        go_quiet (fail)
        go_wp2_with fail
        have HLW : Hid (LinksAt ((W0.drewN q).drewN nq) (some ⟨b1, o1, none⟩) l) := HL0.out
        have HBW : Hid (Below w.heap.size w ((W0.drewN q).drewN nq)) := below_drewN (below_drewN HB0.out _) _
        have v0 : ((W0.drewN q).drewN nq).cell? ⟨w.heap.size, 0, none⟩ = some (.string n) := x0
        have v1 : ((W0.drewN q).drewN nq).cell? ⟨w.heap.size, 1, none⟩ = some (.int .i64 id) := x1
        generalize (W0.drewN q).drewN nq = W at HLW HBW v0 v1 ⊢
        have hS := nwR W
        have z0 : ∀ w', Below W.heap.size W w' → w'.cell? ⟨w.heap.size, 0, none⟩ = some (.string n) := fun w' h => (h.cell (p := ⟨w.heap.size, 0, none⟩) (block_lt_of_cell v0)).trans v0
        have z1 : ∀ w', Below W.heap.size W w' → w'.cell? ⟨w.heap.size, 1, none⟩ = some (.int .i64 id) := fun w' h => (h.cell (p := ⟨w.heap.size, 1, none⟩) (block_lt_of_cell v1)).trans v1
        have HTL : Hid ((l.take k).length = k) := by show _ = _; rw [List.length_take]; omega
        have HCP : Hid (∀ w' c, Below W.heap.size W w' → Calls Tryz.prog 69 #[.slice (some ⟨b1, o1, none⟩) k c] w' fun e w2 => (∃ v, e = .returned v ∧ OwnLinks w2 w'.heap.size v (l.take k)) ∧ Below w'.heap.size w' w2) := fun w' c h => by
          have h2 := copyLinks_any (some ⟨b1, o1, none⟩) (l.take k) c w' ((HLW.out.take k).below h) (by rw [HTL.out]; omega)
          rw [HTL.out] at h2
          exact h2
        obtain ⟨i0, hi, hz0, hz1, hz2⟩ := info_parts Tryz.info63
        have hB1 : (l.take k).length + 1 ≤ maxLen := by rw [HTL.out]; unfold maxLen; omega
        have hB2 : ((l.take k).length + 1) * 24 ≤ 140737488355328 := by rw [HTL.out]; omega
        have hB0 : (l.take k ++ [(n, id)]).length = k + 1 := by rw [List.length_append, HTL.out]; rfl
        have hB3 : (l.take k ++ [(n, id)]).length + (l.length - k) ≤ maxLen := by rw [hB0]; unfold maxLen; omega
        have hB4 : ((l.take k ++ [(n, id)]).length + (l.length - k)) * 24 ≤ 140737488355328 := by rw [hB0]; omega
        clear hB0
        have hkc : ¬ ca = k := by omega
        have g1 : (k : Int) ≤ (ca : Int) := by omega
        have g2 : (k : Int) ≤ (l.length : Int) := by omega
        have g3 : (0 : Int) ≤ (k : Int) := by omega
        clear v0 v1 x0 x1
        go_region_held3 (fun w' => Below W.heap.size W w') (first | assumption | exact Below.drew (by assumption) | exact nwT (by assumption) (by assumption) | (exact nwA (by assumption) _) | (exact Below.drew (nwA (by assumption) _))) (first
          | (go_at_call 69; refine (HCP.out _ _ (by assumption)).mono ?_; rintro e wC ⟨⟨vC, rfl, hoC⟩, hbC⟩; have HOC : Hid (OwnLinks wC W.heap.size vC (l.take k)) := own_le hoC (Below.size (by assumption)); have hbC0 : Below W.heap.size W wC := (nwT (by assumption) hbC); clear hoC)
          | (refine step_append_src (by rfl) (.tmp 25) (.tmp 27) 57 (by rfl) W.heap.size 63 i0 (.agg #[.string ⟨#[]⟩, .int .i64 0]) 2 24 Tryz.underlying57 hi hz0 hz1 hz2 rfl (by decide) vC (l.take k).length (lflat (l.take k)) (by simp [Act.eval]) (by exact World.ownsRow.alloc HOC.out _) (some ⟨wC.heap.size, 0, none⟩) 1 1 [.string n, .int .i64 id] (by simp [Act.eval]) rfl (fun e => by cases e) (by intro p e; injection e with e; subst e; exact cells_new _ [.string n, .int .i64 id] _) (by simp [Value.oneCell']) hB1 hB2 (by exact (nwA hbC0 _).size) ?_; intro v1 w3 hown1 hgrow1; have hb3 : Below W.heap.size W w3 := (nwA hbC0 _).grown hgrow1 (nwA hbC0 _).size (fun q e => (HOC.out.lt q e).1); have HO3 : Hid (OwnLinks w3 W.heap.size v1 (l.take k ++ [(n, id)])) := OwnLinks.snoc hown1; clear hown1 hgrow1)
          | (refine step_append_src (by rfl) (.tmp 25) (.tmp 27) 57 (by rfl) W.heap.size 63 i0 (.agg #[.string ⟨#[]⟩, .int .i64 0]) 2 24 Tryz.underlying57 hi hz0 hz1 hz2 rfl (by decide) vC (l.take k).length (lflat (l.take k)) (by simp [Act.eval]) (by exact HOC.out) (some ⟨W.heap.size, 0, none⟩) 1 1 [.string n, .int .i64 id] (by simp [Act.eval]) rfl (fun e => by cases e) (by intro p e; injection e with e; subst e; exact cells_kept hbC (cells_new _ [.string n, .int .i64 id] _)) (by simp [Value.oneCell']) hB1 hB2 (by exact hbC0.size) ?_; intro v1 w3 hown1 hgrow1; have hb3 : Below W.heap.size W w3 := hbC0.grown hgrow1 hbC0.size (fun q e => (HOC.out.lt q e).1); have HO3 : Hid (OwnLinks w3 W.heap.size v1 (l.take k ++ [(n, id)])) := OwnLinks.snoc hown1; clear hown1 hgrow1)
          | (refine step_append_src (by rfl) (.tmp 28) (.tmp 31) 57 (by rfl) W.heap.size 63 i0 (.agg #[.string ⟨#[]⟩, .int .i64 0]) 2 24 Tryz.underlying57 hi hz0 hz1 hz2 rfl (by decide) v1 (l.take k ++ [(n, id)]).length (lflat (l.take k ++ [(n, id)])) (by simp [Act.eval]) (by exact HO3.out) (some ⟨b1, o1 + k * 2, none⟩) (l.length - k) (ca - k) (lflat (l.drop k)) (by simp [Act.eval]) (by rw [lflat_len, List.length_drop]) (fun e => by cases e) (by intro p e; injection e with e; subst e; exact (HLW.out.below hb3).cellsFrom k) (lflat_one _) hB3 hB4 (by exact hb3.size) ?_; intro v2 w4 hown2 hgrow2; have hb4 : Below W.heap.size W w4 := hb3.grown hgrow2 hb3.size (fun q e => (HO3.out.lt q e).1); have HO4 : Hid (OwnLinks w4 W.heap.size v2 (l.take k ++ [(n, id)] ++ l.drop k)) := OwnLinks.app List.length_drop hown2; clear hown2 hgrow2)
          | fail)
        all_goals
          obtain ⟨a2, c2, rfl, _⟩ := HO4.out.at
          clear z0 z1
          go_wp2_with fail
          go_ret
          exact ⟨⟨_, rfl, by unfold putL; rw [HP.out]; exact own_le HO4.out HBW.out.size⟩, nwT HBW.out hb4⟩
      · have HN : Hid (∀ j, j < k + 1 → ltS (l.getD j lk0).1 n = true) := fun j hj => by
          by_cases e : j = k
          · subst e; rw [HZ.out]; exact ht
          · exact HE.out j (by omega)
        go_wp2_with fail
        go_quiet (fail)
        go_wp2_with fail
        go_roundw
        case rel => exact ⟨k + 1, _, by omega, by go_num, rfl, HN⟩
        case measure => simp [intOf]; omega
    · have hd : decide ((k : Int) < (l.length : Int)) = false := decide_eq_false (by omega)
      have HP : Hid (posL l n = k) := posL_eq (by omega) HE.out (.inl (by omega))
      have hkca : ca = k := by omega
      subst hkca
      go_wp2_with fail
      go_quiet (fail)
      go_wp2_with fail
      have HLW : Hid (LinksAt ((W0.drewN q).drewN nq) (some p0) l) := HL0.out
      have HBW : Hid (Below w.heap.size w ((W0.drewN q).drewN nq)) := below_drewN (below_drewN HB0.out _) _
      have v0 : ((W0.drewN q).drewN nq).cell? ⟨w.heap.size, 0, none⟩ = some (.string n) := x0
      have v1 : ((W0.drewN q).drewN nq).cell? ⟨w.heap.size, 1, none⟩ = some (.int .i64 id) := x1
      generalize (W0.drewN q).drewN nq = W at HLW HBW v0 v1 ⊢
      have hS := nwR W
      have z0 : ∀ w', Below W.heap.size W w' → w'.cell? ⟨w.heap.size, 0, none⟩ = some (.string n) := fun w' h => (h.cell (p := ⟨w.heap.size, 0, none⟩) (block_lt_of_cell v0)).trans v0
      have z1 : ∀ w', Below W.heap.size W w' → w'.cell? ⟨w.heap.size, 1, none⟩ = some (.int .i64 id) := fun w' h => (h.cell (p := ⟨w.heap.size, 1, none⟩) (block_lt_of_cell v1)).trans v1
      have HTL : Hid ((l.take ca).length = ca) := by show _ = _; rw [List.length_take]; omega
      have HCP : Hid (∀ w' c, Below W.heap.size W w' → Calls Tryz.prog 69 #[.slice (some p0) ca c] w' fun e w2 => (∃ v, e = .returned v ∧ OwnLinks w2 w'.heap.size v (l.take ca)) ∧ Below w'.heap.size w' w2) := fun w' c h => by
        have h2 := copyLinks_any (some p0) (l.take ca) c w' ((HLW.out.take ca).below h) (by rw [HTL.out]; omega)
        rw [HTL.out] at h2
        exact h2
      obtain ⟨i0, hi, hz0, hz1, hz2⟩ := info_parts Tryz.info63
      have hB1 : (l.take ca).length + 1 ≤ maxLen := by rw [HTL.out]; unfold maxLen; omega
      have hB2 : ((l.take ca).length + 1) * 24 ≤ 140737488355328 := by rw [HTL.out]; omega
      have hB0 : (l.take ca ++ [(n, id)]).length = ca + 1 := by rw [List.length_append, HTL.out]; rfl
      have hB3 : (l.take ca ++ [(n, id)]).length + (l.length - ca) ≤ maxLen := by rw [hB0]; unfold maxLen; omega
      have hB4 : ((l.take ca ++ [(n, id)]).length + (l.length - ca)) * 24 ≤ 140737488355328 := by rw [hB0]; omega
      have hB5 : (l.take ca ++ [(n, id)]).length + 0 ≤ maxLen := by rw [hB0]; unfold maxLen; omega
      have hB6 : ((l.take ca ++ [(n, id)]).length + 0) * 24 ≤ 140737488355328 := by rw [hB0]; omega
      clear hB0
      have hdk : l.length - ca = 0 := by omega
      have g1 : (ca : Int) ≤ (ca : Int) := by omega
      have g2 : (ca : Int) ≤ (l.length : Int) := by omega
      have g3 : (0 : Int) ≤ (ca : Int) := by omega
      clear v0 v1 x0 x1
      go_region_held3 (fun w' => Below W.heap.size W w') (first | assumption | exact Below.drew (by assumption) | exact nwT (by assumption) (by assumption) | (exact nwA (by assumption) _) | (exact Below.drew (nwA (by assumption) _))) (first
        | (go_at_call 69; refine (HCP.out _ _ (by assumption)).mono ?_; rintro e wC ⟨⟨vC, rfl, hoC⟩, hbC⟩; have HOC : Hid (OwnLinks wC W.heap.size vC (l.take ca)) := own_le hoC (Below.size (by assumption)); have hbC0 : Below W.heap.size W wC := (nwT (by assumption) hbC); clear hoC)
        | (refine step_append_src (by rfl) (.tmp 25) (.tmp 27) 57 (by rfl) W.heap.size 63 i0 (.agg #[.string ⟨#[]⟩, .int .i64 0]) 2 24 Tryz.underlying57 hi hz0 hz1 hz2 rfl (by decide) vC (l.take ca).length (lflat (l.take ca)) (by simp [Act.eval]) (by exact World.ownsRow.alloc HOC.out _) (some ⟨wC.heap.size, 0, none⟩) 1 1 [.string n, .int .i64 id] (by simp [Act.eval]) rfl (fun e => by cases e) (by intro p e; injection e with e; subst e; exact cells_new _ [.string n, .int .i64 id] _) (by simp [Value.oneCell']) hB1 hB2 (by exact (nwA hbC0 _).size) ?_; intro v1 w3 hown1 hgrow1; have hb3 : Below W.heap.size W w3 := (nwA hbC0 _).grown hgrow1 (nwA hbC0 _).size (fun q e => (HOC.out.lt q e).1); have HO3 : Hid (OwnLinks w3 W.heap.size v1 (l.take ca ++ [(n, id)])) := OwnLinks.snoc hown1; clear hown1 hgrow1)
        | (refine step_append_src (by rfl) (.tmp 25) (.tmp 27) 57 (by rfl) W.heap.size 63 i0 (.agg #[.string ⟨#[]⟩, .int .i64 0]) 2 24 Tryz.underlying57 hi hz0 hz1 hz2 rfl (by decide) vC (l.take ca).length (lflat (l.take ca)) (by simp [Act.eval]) (by exact HOC.out) (some ⟨W.heap.size, 0, none⟩) 1 1 [.string n, .int .i64 id] (by simp [Act.eval]) rfl (fun e => by cases e) (by intro p e; injection e with e; subst e; exact cells_kept hbC (cells_new _ [.string n, .int .i64 id] _)) (by simp [Value.oneCell']) hB1 hB2 (by exact hbC0.size) ?_; intro v1 w3 hown1 hgrow1; have hb3 : Below W.heap.size W w3 := hbC0.grown hgrow1 hbC0.size (fun q e => (HOC.out.lt q e).1); have HO3 : Hid (OwnLinks w3 W.heap.size v1 (l.take ca ++ [(n, id)])) := OwnLinks.snoc hown1; clear hown1 hgrow1)
        | (refine step_append_src (by rfl) (.tmp 28) (.tmp 31) 57 (by rfl) W.heap.size 63 i0 (.agg #[.string ⟨#[]⟩, .int .i64 0]) 2 24 Tryz.underlying57 hi hz0 hz1 hz2 rfl (by decide) v1 (l.take ca ++ [(n, id)]).length (lflat (l.take ca ++ [(n, id)])) (by simp [Act.eval]) (by exact HO3.out) (some p0) 0 0 (lflat (l.drop ca)) (by simp [Act.eval]) (by rw [lflat_len, List.length_drop, hdk]) (fun e => by cases e) (by intro p _ j u hu; rw [List.drop_of_length_le (by omega)] at hu; simp [lflat] at hu) (lflat_one _) hB5 hB6 (by exact hb3.size) ?_; intro v2 w4 hown2 hgrow2; have hb4 : Below W.heap.size W w4 := hb3.grown hgrow2 hb3.size (fun q e => (HO3.out.lt q e).1); have HO4 : Hid (OwnLinks w4 W.heap.size v2 (l.take ca ++ [(n, id)] ++ l.drop ca)) := OwnLinks.app (by rw [List.length_drop, hdk]) hown2; clear hown2 hgrow2)
        | fail)
      all_goals
        obtain ⟨a2, c2, rfl, _⟩ := HO4.out.at
        clear z0 z1
        go_wp2_with fail
        go_ret
        exact ⟨⟨_, rfl, by unfold putL; rw [HP.out]; exact own_le HO4.out HBW.out.size⟩, nwT HBW.out hb4⟩

set_option maxRecDepth 100000 in
set_option maxHeartbeats 8000000 in
theorem put_nil (n : ByteArray) (id : Int) (w : World) :
    Calls Tryz.prog 47 #[.slice none 0 0, .agg #[.string n, .int .i64 id]] w fun e w' => (∃ v, e = .returned v ∧ OwnLinks w' w.heap.size v (putL [] (n, id))) ∧ Below w.heap.size w w' := by
  go_enter Tryz.func47, Tryz.ntmps47
  go_wp2_with fail
  obtain ⟨W0, hW0⟩ : ∃ W0, W0 = w.alloc (.cells #[.string n, .int .i64 id] 63) := ⟨_, rfl⟩
  have HB0 : Hid (Below w.heap.size w W0) := by rw [hW0]; exact nwA (nwR w) _
  have x0 : W0.cell? ⟨w.heap.size, 0, none⟩ = some (.string n) := by rw [hW0]; simp
  have x1 : W0.cell? ⟨w.heap.size, 1, none⟩ = some (.int .i64 id) := by rw [hW0]; simp
  rw [← hW0]
  clear hW0
  go_loopw [5] (fun i wr => i = .int .i64 0 ∧ wr = W0) (fun _ _ => 0)
  case atStart => exact ⟨rfl, rfl⟩
  case round =>
    obtain ⟨rfl, rfl⟩ := hrel
    go_wp2_with fail
    go_quiet (fail)
    go_wp2_with fail
    have HBW : Hid (Below w.heap.size w (wr.drewN nq)) := below_drewN HB0.out _
    have v0 : (wr.drewN nq).cell? ⟨w.heap.size, 0, none⟩ = some (.string n) := x0
    have v1 : (wr.drewN nq).cell? ⟨w.heap.size, 1, none⟩ = some (.int .i64 id) := x1
    generalize wr.drewN nq = W at HBW v0 v1 ⊢
    have hS := nwR W
    have z0 : ∀ w', Below W.heap.size W w' → w'.cell? ⟨w.heap.size, 0, none⟩ = some (.string n) := fun w' h => (h.cell (p := ⟨w.heap.size, 0, none⟩) (block_lt_of_cell v0)).trans v0
    have z1 : ∀ w', Below W.heap.size W w' → w'.cell? ⟨w.heap.size, 1, none⟩ = some (.int .i64 id) := fun w' h => (h.cell (p := ⟨w.heap.size, 1, none⟩) (block_lt_of_cell v1)).trans v1
    have HCP : Hid (∀ w' c, Calls Tryz.prog 69 #[.slice none 0 c] w' fun e w2 => (∃ v, e = .returned v ∧ OwnLinks w2 w'.heap.size v []) ∧ Below w'.heap.size w' w2) := fun w' c => copyLinks_any none [] c w' (.inl rfl) (by simp)
    obtain ⟨i0, hi, hz0, hz1, hz2⟩ := info_parts Tryz.info63
    have hB1 : ([] : List LinkD).length + 1 ≤ maxLen := by simp [maxLen]
    have hB2 : (([] : List LinkD).length + 1) * 24 ≤ 140737488355328 := by simp
    have hB5 : ([(n, id)] : List LinkD).length + 0 ≤ maxLen := by simp [maxLen]
    have hB6 : (([(n, id)] : List LinkD).length + 0) * 24 ≤ 140737488355328 := by simp
    clear v0 v1 x0 x1
    go_region_held3 (fun w' => Below W.heap.size W w') (first | assumption | exact Below.drew (by assumption) | exact nwT (by assumption) (by assumption) | (exact nwA (by assumption) _) | (exact Below.drew (nwA (by assumption) _))) (first
      | (go_at_call 69; refine (HCP.out _ _).mono ?_; rintro e wC ⟨⟨vC, rfl, hoC⟩, hbC⟩; have HOC : Hid (OwnLinks wC W.heap.size vC []) := own_le hoC (Below.size (by assumption)); have hbC0 : Below W.heap.size W wC := (nwT (by assumption) hbC); clear hoC)
      | (refine step_append_src (by rfl) (.tmp 25) (.tmp 27) 57 (by rfl) W.heap.size 63 i0 (.agg #[.string ⟨#[]⟩, .int .i64 0]) 2 24 Tryz.underlying57 hi hz0 hz1 hz2 rfl (by decide) vC ([] : List LinkD).length (lflat []) (by simp [Act.eval]) (by exact World.ownsRow.alloc HOC.out _) (some ⟨wC.heap.size, 0, none⟩) 1 1 [.string n, .int .i64 id] (by simp [Act.eval]) rfl (fun e => by cases e) (by intro p e; injection e with e; subst e; exact cells_new _ [.string n, .int .i64 id] _) (by simp [Value.oneCell']) hB1 hB2 (by exact (nwA hbC0 _).size) ?_; intro v1 w3 hown1 hgrow1; have hb3 : Below W.heap.size W w3 := (nwA hbC0 _).grown hgrow1 (nwA hbC0 _).size (fun q e => (HOC.out.lt q e).1); have HO3 : Hid (OwnLinks w3 W.heap.size v1 ([] ++ [(n, id)])) := OwnLinks.snoc hown1; clear hown1 hgrow1)
      | (refine step_append_src (by rfl) (.tmp 25) (.tmp 27) 57 (by rfl) W.heap.size 63 i0 (.agg #[.string ⟨#[]⟩, .int .i64 0]) 2 24 Tryz.underlying57 hi hz0 hz1 hz2 rfl (by decide) vC ([] : List LinkD).length (lflat []) (by simp [Act.eval]) (by exact HOC.out) (some ⟨W.heap.size, 0, none⟩) 1 1 [.string n, .int .i64 id] (by simp [Act.eval]) rfl (fun e => by cases e) (by intro p e; injection e with e; subst e; exact cells_kept hbC (cells_new _ [.string n, .int .i64 id] _)) (by simp [Value.oneCell']) hB1 hB2 (by exact hbC0.size) ?_; intro v1 w3 hown1 hgrow1; have hb3 : Below W.heap.size W w3 := hbC0.grown hgrow1 hbC0.size (fun q e => (HOC.out.lt q e).1); have HO3 : Hid (OwnLinks w3 W.heap.size v1 ([] ++ [(n, id)])) := OwnLinks.snoc hown1; clear hown1 hgrow1)
      | (refine step_append_src (by rfl) (.tmp 28) (.tmp 31) 57 (by rfl) W.heap.size 63 i0 (.agg #[.string ⟨#[]⟩, .int .i64 0]) 2 24 Tryz.underlying57 hi hz0 hz1 hz2 rfl (by decide) v1 ([(n, id)] : List LinkD).length (lflat [(n, id)]) (by simp [Act.eval]) (by exact HO3.out) none 0 0 [] (by simp [Act.eval]) rfl (fun _ => ⟨rfl, rfl⟩) (by intro p e; cases e) (by simp) hB5 hB6 (by exact hb3.size) ?_; intro v2 w4 hown2 hgrow2; have hb4 : Below W.heap.size W w4 := hb3.grown hgrow2 hb3.size (fun q e => (HO3.out.lt q e).1); have HO4 : Hid (OwnLinks w4 W.heap.size v2 (putL [] (n, id))) := hown2; clear hown2 hgrow2)
      | fail)
    all_goals
      obtain ⟨a2, c2, rfl, _⟩ := HO4.out.at
      clear z0 z1
      go_wp2_with fail
      go_ret
      exact ⟨⟨_, rfl, own_le HO4.out HBW.out.size⟩, nwT HBW.out hb4⟩

theorem put_any (a : Option Addr) (l : List LinkD) (ca : Nat) (x : LinkD) (w : World) (hv : LinksAt w a l) (hl : l.length ≤ 100000) (hca : l.length ≤ ca) (hnil : a = none → ca = 0) (hsp : ∀ p, a = some p → l.length < ca → p.spot = none) :
    Calls Tryz.prog 47 #[.slice a l.length ca, .agg #[.string x.1, .int .i64 x.2]] w fun e w' => (∃ v, e = .returned v ∧ OwnLinks w' w.heap.size v (putL l x)) ∧ Below w.heap.size w w' := by
  cases a with
  | none =>
    have hc := hnil rfl
    subst hc
    have hl0 : l = [] := List.length_eq_zero_iff.1 (by omega)
    subst hl0
    exact put_nil x.1 x.2 w
  | some p =>
    by_cases hlt : l.length < ca
    · obtain ⟨b, o, s⟩ := p
      have hs := hsp _ rfl hlt
      simp only at hs
      subst hs
      exact put_room b o l ca x.1 x.2 w hv hl hlt
    · exact put_full p l ca x.1 x.2 w hv hl hca (by omega)

end Go.Proofs.YtdpighcaieajjabGreat

/- A new volume, by the page. -/
namespace Go.Proofs.YtdpighcaieajjabGreat
open Go.RowKit

theorem heap_alloc_new2 (w : World) (o1 o2 : Obj) : ((w.alloc o1).alloc o2).heap[w.heap.size + 1]? = some o2 := by
  have := heap_alloc_new (w.alloc o1) o2
  simpa using this

end Go.Proofs.YtdpighcaieajjabGreat

/- Which files may be, by the page: plain files. -/
namespace Go.Proofs.YtdpighcaieajjabGreat
open Go.RowKit

def LinkOk (fs : List FileD) (l : List LinkD) (k : Nat) : Prop := nm (l.getD k lk0).1 = true ∧ (0 < k → ltS (l.getD (k - 1) lk0).1 (l.getD k lk0).1 = true) ∧ (atI fs (l.getD k lk0).2).isSome = true
def PlainOk (f : FileD) : Prop := f.list.length = 0 ∧ numB f.size 200 = true ∧ (f.blocks.length : Int) = (f.size + 31) / 32 ∧ ∀ k, k < f.blocks.length → numB (f.blocks.getD k 0) 1073741823 = true
def DirOk (fs : List FileD) (f : FileD) : Prop := f.size = 0 ∧ f.blocks.length = 0 ∧ f.list.length ≤ 8 ∧ ∀ k, k < f.list.length → LinkOk fs f.list k
def SaysB (e : Ending) (P : Prop) : Prop := ∃ b : Bool, e = .returned (.bool b) ∧ (b = true ↔ P)
theorem says_no {P : Prop} (h : ¬ P) : SaysB (.returned (.bool false)) P := ⟨false, rfl, by simp [h]⟩
theorem says_yes {P : Prop} (h : P) : SaysB (.returned (.bool true)) P := ⟨true, rfl, by simp [h]⟩
theorem num_is (n most : Int) (w : World) (b : Bool) (h : numB n most = b) : Calls Tryz.prog 36 #[.int .i64 n, .int .i64 most] w fun e w' => e = .returned (.bool b) ∧ w' = w := by
  rw [← h]; exact num_in n most w

set_option maxRecDepth 100000 in
set_option maxHeartbeats 2000000 in
theorem file_plain (v u : Value) (d : VolD) (f : FileD) (w : World) (hv : VolVal w v d) (hu : FileVal w u f) (hs : SmallF f) (hd : f.dir = false) :
    Calls Tryz.prog 38 #[v, u] w fun e w' => SaysB e (PlainOk f) ∧ Below w.heap.size w w' := by
  obtain ⟨av, ca, rfl, _, _⟩ := hv
  obtain ⟨ab, cb, al, cl, rfl, ⟨hib, _⟩, _, _⟩ := hu
  obtain ⟨vid, fr, snap, fs, next⟩ := d
  obtain ⟨fid, fdir, fsize, fbl, fli⟩ := f
  simp only [SmallF, fcells] at *
  subst hd
  obtain ⟨hl1, hl2⟩ := hs
  have HI : Hid (IntsAt w ab fbl) := hib
  clear hib
  go_enter Tryz.func38, Tryz.ntmps38
  go_wp2_with fail
  obtain ⟨W0, hW0⟩ : ∃ W0, W0 = (w.alloc (.cells #[.int .i64 vid, .int .i64 fr, .bool snap, .slice av fs.length ca, .int .i64 next] 24)).alloc (.cells #[.int .i64 fid, .bool false, .int .i64 fsize, .slice ab fbl.length cb, .slice al fli.length cl] 59) := ⟨_, rfl⟩
  have HB0 : Hid (Below w.heap.size w W0) := by rw [hW0]; exact nwA (nwA (nwR w) _) _
  have HI0 : Hid (IntsAt W0 ab fbl) := HI.out.below HB0.out
  have HBX : Hid (W0.heap[w.heap.size + 1]? = some (.cells #[.int .i64 fid, .bool false, .int .i64 fsize, .slice ab fbl.length cb, .slice al fli.length cl] 59 (0, 0))) := by rw [hW0]; exact heap_alloc_new2 w _ _
  rw [← hW0]
  clear hW0 HI
  obtain ⟨x0, x1, x2, x3, x4, _⟩ := five HBX.out
  by_cases h1 : fli.length = 0
  · have d1 : decide (0 < fli.length) = false := decide_eq_false (by omega)
    cases h2 : numB fsize 200
    · have HNO : Hid (¬ PlainOk ⟨fid, false, fsize, fbl, fli⟩) := fun h => by have := h.2.1; simp [h2] at this
      go_quiet (first | (go_at_call 36; exact Calls.quiet_of_same (num_is _ _ _ _ h2)) | fail)
      go_wp2_with fail
      go_ret
      exact ⟨says_no HNO.out, below_drewN HB0.out _⟩
    · have hn0 : 0 ≤ fsize ∧ fsize ≤ 200 := by simpa [numB] using h2
      by_cases h3 : (fbl.length : Int) = (fsize + 31) / 32
      · have d3 : ((fbl.length : Int) == (fsize + 31) / 32) = true := by simpa using h3
        go_quiet (first | (go_at_call 36; exact Calls.quiet_of_same (num_is _ _ _ _ h2)) | (go_at_call 71; exact Calls.quiet_of_same (many_any _ _ hn0.1 hn0.2)) | fail)
        have HOK : Hid ((∀ k, k < fbl.length → numB (fbl.getD k 0) 1073741823 = true) → PlainOk ⟨fid, false, fsize, fbl, fli⟩) := fun h => ⟨h1, h2, h3, h⟩
        have HNO : Hid (PlainOk ⟨fid, false, fsize, fbl, fli⟩ → ∀ k, k < fbl.length → numB (fbl.getD k 0) 1073741823 = true) := fun h => h.2.2.2
        have HIW : Hid (IntsAt (W0.drewN nq) ab fbl) := HI0.out
        have HBW : Hid (Below w.heap.size w (W0.drewN nq)) := below_drewN HB0.out _
        have y3 : (W0.drewN nq).cell? ⟨w.heap.size + 1, 3, none⟩ = some (.slice ab fbl.length cb) := x3
        generalize W0.drewN nq = W at HIW HBW y3 ⊢
        clear x0 x1 x2 x3 x4 HBX HI0 HB0 d1 d3 h1 h2 h3 hn0
        go_wp2_with fail
        go_loop [6] (fun i => ∃ (k : Nat), k ≤ fbl.length ∧ i = .int .i64 k ∧ Hid (∀ j, j < k → numB (fbl.getD j 0) 1073741823 = true))
          (fun i => fbl.length - (intOf i).toNat)
        case atStart => exact ⟨0, by omega, rfl, fun j hj => by omega⟩
        case round =>
          obtain ⟨k, hk, rfl, HE⟩ := hrel
          by_cases hlt : k < fbl.length
          · have hlti : (k : Int) < (fbl.length : Int) := by omega
            obtain ⟨b1, o1, rfl, c0⟩ := HIW.out.cell hlt
            cases hz : numB (fbl.getD k 0) 1073741823
            · have HN2 : Hid (¬ PlainOk ⟨fid, false, fsize, fbl, fli⟩) := fun h => by have := HNO.out h k hlt; rw [hz] at this; cases this
              generalize fbl.getD k 0 = z at c0 hz
              go_wp2_with (go_at_call 36; refine (num_is _ _ _ _ hz).mono ?_; rintro e w' ⟨rfl, rfl⟩)
              go_ret
              exact ⟨says_no HN2.out, HBW.out⟩
            · have HN2 : Hid (∀ j, j < k + 1 → numB (fbl.getD j 0) 1073741823 = true) := fun j hj => by
                by_cases e : j = k
                · subst e; exact hz
                · exact HE.out j (by omega)
              generalize fbl.getD k 0 = z at c0 hz
              go_wp2_with (go_at_call 36; refine (num_is _ _ _ _ hz).mono ?_; rintro e w' ⟨rfl, rfl⟩)
              go_round
              case rel => exact ⟨k + 1, by omega, by go_num, HN2⟩
              case measure => simp [intOf]; omega
          · have hlti : ¬ (k : Int) < (fbl.length : Int) := by omega
            go_wp2_with fail
            go_ret
            exact ⟨says_yes (HOK.out fun j hj => HE.out j (by omega)), HBW.out⟩
      · have d3 : ((fbl.length : Int) == (fsize + 31) / 32) = false := by simpa using h3
        have HNO : Hid (¬ PlainOk ⟨fid, false, fsize, fbl, fli⟩) := fun h => h3 h.2.2.1
        go_quiet (first | (go_at_call 36; exact Calls.quiet_of_same (num_is _ _ _ _ h2)) | (go_at_call 71; exact Calls.quiet_of_same (many_any _ _ hn0.1 hn0.2)) | fail)
        go_wp2_with fail
        go_ret
        exact ⟨says_no HNO.out, below_drewN HB0.out _⟩
  · have d1 : decide (0 < fli.length) = true := decide_eq_true (by omega)
    have HNO : Hid (¬ PlainOk ⟨fid, false, fsize, fbl, fli⟩) := fun h => h1 h.1
    go_quiet (fail)
    go_wp2_with fail
    go_ret
    exact ⟨says_no HNO.out, below_drewN HB0.out _⟩

end Go.Proofs.YtdpighcaieajjabGreat

/- A file of a volume, by the program: what may be of it by itself; its links. -/
namespace Go.Proofs.YtdpighcaieajjabGreat
open Go.RowKit

def withinB (lo hi : Int) (ns : List Int) : Bool := ns.all fun n => decide (lo ≤ n) && decide (n ≤ hi)
theorem withinB_no {lo hi : Int} {ns : List Int} {k : Nat} (hk : k < ns.length) (h : ¬ (lo ≤ ns.getD k 0 ∧ ns.getD k 0 ≤ hi)) : withinB lo hi ns = false := by
  unfold withinB
  rw [List.all_eq_false]
  refine ⟨ns.getD k 0, by simp [List.getD, hk], ?_⟩
  simpa using h
theorem withinB_yes {lo hi : Int} {ns : List Int} (h : ∀ k, k < ns.length → lo ≤ ns.getD k 0 ∧ ns.getD k 0 ≤ hi) : withinB lo hi ns = true := by
  unfold withinB
  rw [List.all_eq_true]
  intro x hx
  obtain ⟨k, hk, rfl⟩ := List.getElem_of_mem hx
  have := h k hk
  simp only [List.getD, List.getElem?_eq_getElem hk, Option.getD_some] at this
  simpa using this

set_option maxRecDepth 100000 in
set_option maxHeartbeats 1000000 in
theorem within_any (lo hi : Int) (a : Option Addr) (ns : List Int) (c : Nat) (w : World) (hv : IntsAt w a ns) (hl : ns.length ≤ 100000) :
    Calls Tryz.prog 65 #[.int .i64 lo, .int .i64 hi, .slice a ns.length c] w fun e w' => e = .returned (.bool (withinB lo hi ns)) ∧ w' = w := by
  have HF : Hid (IntsAt w a ns) := hv
  clear hv
  go_enter Tryz.func65, Tryz.ntmps65
  go_wp2_with fail
  go_loop [11] (fun i => ∃ (k : Nat), k ≤ ns.length ∧ i = .int .i64 k ∧ Hid (∀ j, j < k → lo ≤ ns.getD j 0 ∧ ns.getD j 0 ≤ hi))
    (fun i => ns.length - (intOf i).toNat)
  case atStart => exact ⟨0, by omega, rfl, fun j hj => by omega⟩
  case round =>
    obtain ⟨k, hk, rfl, HE⟩ := hrel
    by_cases hlt : k < ns.length
    · obtain ⟨b1, o1, rfl, c0⟩ := HF.out.cell hlt
      have hlti : (k : Int) < (ns.length : Int) := by omega
      by_cases he : lo ≤ ns.getD k 0 ∧ ns.getD k 0 ≤ hi
      · have HN : Hid (∀ j, j < k + 1 → lo ≤ ns.getD j 0 ∧ ns.getD j 0 ≤ hi) := fun j hj => by
          by_cases e : j = k
          · subst e; exact he
          · exact HE.out j (by omega)
        obtain ⟨h1, h2⟩ := he
        generalize ns.getD k 0 = z at c0 h1 h2
        have h1' : ¬ z < lo := by omega
        have h2' : ¬ hi < z := by omega
        go_wp2_with fail
        go_round
        case rel => exact ⟨k + 1, by omega, by go_num, HN⟩
        case measure => simp [intOf]; omega
      · have HN : Hid (withinB lo hi ns = false) := withinB_no hlt he
        generalize ns.getD k 0 = z at c0 he
        by_cases h1 : z < lo
        · go_wp2_with fail
          go_ret
          exact ⟨ret_bool HN.out.symm, rfl⟩
        · have h2 : hi < z := by omega
          clear he
          go_wp2_with fail
          go_ret
          exact ⟨ret_bool HN.out.symm, rfl⟩
    · have hlti : ¬ (k : Int) < (ns.length : Int) := by omega
      have HN : Hid (withinB lo hi ns = true) := withinB_yes (fun j hj => HE.out j (by omega))
      go_wp2_with fail
      go_ret
      exact ⟨ret_bool HN.out.symm, rfl⟩

/-- a file where it stands -/
def NodeVal (w : World) (v : Value) (f : FileD) : Prop := ∃ b o, v = .agg #[.pointer (some ⟨b, o, none⟩)] ∧ FileIn w b o f
theorem NodeVal.below {w w' : World} {v : Value} {f : FileD} (h : NodeVal w v f) (hb : Below w.heap.size w w') : NodeVal w' v f := by
  obtain ⟨b, o, e, hf⟩ := h
  exact ⟨b, o, e, hf.below hb⟩

set_option maxRecDepth 100000 in
set_option maxHeartbeats 1000000 in
theorem nlinks_any (v : Value) (f : FileD) (id : Int) (w : World) (hv : NodeVal w v f) (hs : SmallF f) :
    Calls Tryz.prog 111 #[v, .int .i64 id] w fun e w' => e = .returned (.int .i64 (cntL f.list id)) ∧ Below w.heap.size w w' := by
  obtain ⟨b, o, rfl, hf⟩ := hv
  obtain ⟨ab, cb, al, cl, ⟨c0, c1, c2, c3, c4⟩, _, hli, _⟩ := hf
  obtain ⟨fid, fdir, fsize, fbl, fli⟩ := f
  simp only [SmallF] at *
  have hl := hs.2
  have HL : Hid (LinksAt w al fli) := hli
  clear hli hs
  have hb : b < w.heap.size := block_lt_of_cell c4
  go_enter Tryz.func111, Tryz.ntmps111
  go_wp2_with fail
  obtain ⟨W0, hW0⟩ : ∃ W0, W0 = w.alloc (.cells #[.pointer (some ⟨b, o, none⟩)] 96) := ⟨_, rfl⟩
  have HB0 : Hid (Below w.heap.size w W0) := by rw [hW0]; exact nwA (nwR w) _
  rw [← hW0]
  clear hW0
  go_loopw [5, 14] (fun n i wr => ∃ (j : Nat), j ≤ fli.length ∧ i = .int .i64 j ∧ n = .int .i64 (cntL (fli.take j) id) ∧ Below w.heap.size w wr)
    (fun _ i _ => fli.length - (intOf i).toNat)
  case atStart => exact ⟨0, by omega, rfl, rfl, HB0.out⟩
  case round =>
    obtain ⟨j, hj, rfl, rfl, hbr⟩ := hrel
    have hcn : cntL (fli.take j) id ≤ 100000 := by have := cntL_le (fli.take j) id; rw [List.length_take] at this; omega
    by_cases hjl : j < fli.length
    · have hjli : (j : Int) < (fli.length : Int) := by omega
      obtain ⟨b2, o2, rfl, d1, d2⟩ := (HL.out.below hbr).cell hjl
      have HCS : Hid (cntL (fli.take (j + 1)) id = cntL (fli.take j) id + if (fli.getD j lk0).2 == id then 1 else 0) := cntL_succ hjl id
      generalize fli.getD j lk0 = x at d1 d2 HCS
      obtain ⟨x1, x2⟩ := x
      simp only at d1 d2 HCS
      generalize cntL (fli.take j) id = C at HCS hcn
      by_cases he : x2 = id
      · subst he
        go_wp2_with fail
        go_roundw
        case rel => exact ⟨j + 1, by omega, by go_num, by rw [HCS.out]; simp, nwA hbr _⟩
        case measure => simp [intOf]; omega
      · have heb : (x2 == id) = false := beq_eq_false_iff_ne.2 he
        clear he
        go_wp2_with fail
        go_roundw
        case rel => exact ⟨j + 1, by omega, by go_num, by rw [HCS.out, heb]; simp, nwA hbr _⟩
        case measure => simp [intOf]; omega
    · have hjli : ¬ (j : Int) < (fli.length : Int) := by omega
      have e : fli.take j = fli := List.take_of_length_le (by omega)
      rw [e]
      go_wp2_with fail
      go_ret
      exact ⟨rfl, hbr⟩

end Go.Proofs.YtdpighcaieajjabGreat
