/- The pieces of a text by the page. -/
import Derived.Test.YtifbnojkjbjngaaDoorZero
import Derived.Test.YtifbnojkjbjngaaDoorEqs
namespace Go.Proofs.YtifbnojkjbjngaaDoor
open Go.RowKit

theorem step_append_src {P : Program} {ops : Array Oper} {o : Oper} {a : Act} {w : World} {K : Act → World → Prop} {Q : Exit → Act → World → Prop} {E : Prop}
    (hg : o.guard = none) (s x : Operand) (t : TypeId) (hop : o.op = Op.call { callee := Callee.builtin Builtin.append, args := #[s, x], argTypes := #[t, t] })
    (base : Nat) (e : TypeId) (i : TypeInfo) (z : Value) (size bytes : Nat) (h1 : P.underlying t = some (.slice e)) (h2 : P.info? e = some i) (h3 : i.zero = some z) (h4 : i.size = size) (h5 : i.bytes = bytes) (h6 : z.cells.size = size) (h7 : 0 < size)
    (v : Value) (n : Nat) (xs : List Value) (hs : a.eval s = v) (hown : w.ownsRow base e size v n xs)
    (ao : Option Addr) (m c : Nat) (news : List Value) (hx : a.eval x = .slice ao m c) (hn : news.length = m * size) (hnil : ao = none → m = 0 ∧ c = 0) (hc : ∀ p, ao = some p → ∀ j u, news[j]? = some u → w.cell? (p.add j) = some u) (h1c : ∀ u ∈ news, u.oneCell' = true)
    (b1 : n + m ≤ maxLen) (b2 : (n + m) * bytes ≤ 140737488355328) (hbase : base ≤ w.heap.size)
    (hK : ∀ v' w', w'.ownsRow base e size v' (n + m) (xs ++ news) → w.grownBy w' v.ownBlock → K (a.put o.dst v') w') :
    if Region.wanted o (yielded ops a.tmps) = true then Oper.wp P o a w K Q else E := by
  have hw : Region.wanted o (yielded ops a.tmps) = true := by simp [Region.wanted, hg]
  rw [if_pos hw]
  cases ao with
  | none =>
    obtain ⟨rfl, rfl⟩ := hnil rfl
    have hnews : news = [] := by simpa using hn
    subst hnews
    have hrun := run_append_owned_none (P := P) (w := w) base t o.type e i size h1 h2 v n xs hown
    unfold Oper.wp
    simp [execOp, hop, resolve, invoke, builtin, hs, hx, hrun, Result.andThen]
    exact hK _ _ (by simpa using hown) ⟨rfl, rfl, rfl, Nat.le_refl _, fun _ _ _ => rfl⟩
  | some ad =>
    obtain ⟨v', w', hrun, r1, r2, _⟩ := run_append_own (P := P) w base t o.type e i z size bytes h1 h2 h3 h4 h5 h6 h7 v n xs hown ad m c news hn (hc ad rfl) h1c b1 b2 hbase
    unfold Oper.wp
    simp [execOp, hop, resolve, invoke, builtin, hs, hx, hrun, Result.andThen]
    exact hK _ _ r1 r2
theorem cells_kept {X w : World} {p : Addr} {cs : List Value} (hb : Below X.heap.size X w) (h : ∀ j u, cs[j]? = some u → X.cell? (p.add j) = some u) : ∀ j u, cs[j]? = some u → w.cell? (p.add j) = some u :=
  fun j u hu => (hb.cell (p := p.add j) (block_lt_of_cell (h j u hu))).trans (h j u hu)

set_option maxRecDepth 100000 in
set_option maxHeartbeats 2000000 in
theorem rcut_any (T : ByteArray) (w : World) (hT : T.size ≤ 10000) :
    Calls Tryd.prog 10 #[.string T] w fun e w' => (∃ v, e = .returned v ∧ OwnStrs w' w.heap.size v (pcs (ls T))) ∧ Below w.heap.size w w' := by
  obtain ⟨i0, hi, hz0, hz1, hz2⟩ := info_parts Tryd.info9
  go_enter Tryd.func10, Tryd.ntmps10
  go_wp2_with fail
  go_loopw [0, 3, 4] (fun t v _ wr => ∃ (ys : List ByteArray) (s : ByteArray), t = .string s ∧ s.size ≤ 10000 ∧ ys.length + s.size ≤ 10000 ∧ OwnStrs wr w.heap.size v ys ∧ Below w.heap.size w wr ∧ Hid (ys ++ pcs (ls s) = pcs (ls T)))
    (fun t _ _ _ => szOf t)
  case atStart => exact ⟨[], T, rfl, hT, by simpa using hT, World.ownsRow_nil _ _ _ _, nwR w, rfl⟩
  case round =>
    obtain ⟨ys, s, rfl, hs, hy, hO, hb, HP⟩ := hrel
    have HO : Hid (OwnStrs wr w.heap.size u3 ys) := hO
    clear hO
    by_cases hkl : (0 : Int) < (s.size : Int)
    · have hsp : 0 < s.size := by omega
      have HP' : Hid ((ys ++ [pc (ls s)]) ++ pcs (ls (s.extract (min s.size 32) s.size)) = pcs (ls T)) := by
        show _ = _
        rw [ext_right, ls_bs, ← HP.out, pcs_pos (l := ls s) (by rw [ls_size]; omega), List.append_assoc]
        have e : (ls s).drop (min s.size 32) = (ls s).drop 32 := by
          by_cases h : s.size ≤ 32
          · rw [Nat.min_eq_left h, List.drop_eq_nil_of_le (by rw [ls_size]; exact Nat.le_refl _), List.drop_eq_nil_of_le (by rw [ls_size]; exact h)]
          · rw [Nat.min_eq_right (by omega)]
        rw [e]; rfl
      have hpc : s.extract 0 (min s.size 32) ++ bs (zs (32 - min s.size 32)) = pc (ls s) := by
        rw [bs_app, ext_left, ls_bs, ls_bs]
        unfold pc
        have e1 : (ls s).take (min s.size 32) = (ls s).take 32 := by
          by_cases h : s.size ≤ 32
          · rw [Nat.min_eq_left h, List.take_of_length_le (by rw [ls_size]; exact Nat.le_refl _), List.take_of_length_le (by rw [ls_size]; exact h)]
          · rw [Nat.min_eq_right (by omega)]
        rw [e1, ls_size]
        congr 3
        omega
      obtain ⟨n, hn⟩ : ∃ n, min s.size 32 = n := ⟨_, rfl⟩
      have hmin : min (s.size : Int) 32 = (n : Int) := by omega
      have hn1 : n ≤ s.size := by omega
      have hn2 : n ≤ 32 := by omega
      have hn3 : 0 < n := by omega
      rw [hn] at hpc HP'
      have hx1 : (s.extract n s.size).size = s.size - n := by rw [ext_right, bs_size, List.length_drop, ls_size]
      have hx0 : (s.extract 0 n).size = n := by rw [ext_left, bs_size, List.length_take, ls_size]; omega
      have hni : (n : Int) ≤ (s.size : Int) := by omega
      have hc3 : ys.length + 1 ≤ maxLen := by unfold maxLen; omega
      have hc4 : (ys.length + 1) * 16 ≤ 140737488355328 := by omega
      have e1 : IntKind.i64.wrap (32 - (n : Int)) = ((32 - n : Nat) : Int) := by rw [wrap_any (by omega) (by omega)]; omega
      have HZ : Hid (∀ w' : World, Calls Tryd.prog 32 #[.int .i64 ((32 - n : Nat) : Int)] w' fun e w'' => e = .returned (.string (bs (zs (32 - n)))) ∧ Below w'.heap.size w' w'') := fun w' => by
        have := zeros_any ((32 - n : Nat) : Int) w' (by omega) (by omega)
        rw [Int.toNat_natCast] at this; exact this
      have hzs : (bs (zs (32 - n))).size = 32 - n := by rw [bs_size, zs_len]
      generalize bs (zs (32 - n)) = z at HZ hpc hzs
      obtain ⟨X0, hX0⟩ : ∃ X0, s.extract 0 n = X0 := ⟨_, rfl⟩
      rw [hX0] at hpc hx0
      have hfit : ¬ 9223372036854775807 < X0.size + z.size := by omega
      obtain ⟨Y, hY⟩ : ∃ Y, X0 ++ z = Y := ⟨_, rfl⟩
      rw [hY] at hpc
      have HPC : Hid (Y = pc (ls s)) := hpc
      obtain ⟨k32, hk32⟩ : ∃ k32 : Nat, 32 - n = k32 := ⟨_, rfl⟩
      rw [hk32] at HZ e1
      clear hx0 hpc hn hzs hk32
      go_wp2_with fail
      go_region_held3 (fun _ => True) (trivial) (first
        | (go_at_call 32; refine (HZ.out _).mono ?_; rintro e wC ⟨rfl, hbC0⟩; have hbC : Below w.heap.size w wC := nwT (Below.drew hb) hbC0; have HOC : Hid (OwnStrs wC w.heap.size u3 ys) := (OwnStrs.below HO.out (Below.drew (nwR _))).below hbC0; clear hbC0)
        | (refine step_append_src (by rfl) (.tmp 11) (.tmp 19) 22 (by rfl) w.heap.size 9 i0 (.string ⟨#[]⟩) 1 16 Tryd.underlying22 hi hz0 hz1 hz2 rfl (by decide) u3 ys.length (ys.map .string) (by simp [Act.eval]) (by exact World.ownsRow.alloc HOC.out _) (some ⟨wC.heap.size, 0, none⟩) 1 1 [.string Y] (by simp [Act.eval]) rfl (fun e => by cases e) (by intro p e; injection e with e; subst e; exact cells_new _ [.string Y] _) (by simp [Value.oneCell']) hc3 hc4 (by exact (nwA hbC _).size) ?_; intro v1 w3 hown1 hgrow1; have hb3 : Below w.heap.size w w3 := (nwA hbC _).grown hgrow1 (nwA hbC _).size (fun q e => (HOC.out.lt q e).1); have HO3 : Hid (OwnStrs w3 w.heap.size v1 (ys ++ [Y])) := OwnStrs.snoc hown1; clear hown1 hgrow1)
        | fail)
      clear e1 hX0 hY
      rw [← HPC.out] at HP'
      go_wp2_with fail
      go_roundw
      case rel => exact ⟨ys ++ [Y], s.extract n s.size, rfl, by omega, by rw [hx1, List.length_append, List.length_singleton]; omega, HO3.out, hb3, HP'⟩
      case measure => rw [szOf_s, szOf_s]; omega
    · have HOE : Hid (OwnStrs wr w.heap.size u3 (pcs (ls T))) := by
        have := HP.out
        rw [size_zero (t := s) (by omega), show ls ⟨#[]⟩ = [] from rfl, pcs_nil, List.append_nil] at this
        rw [← this]; exact HO.out
      clear HO
      have h := HOE.out
      obtain ⟨av, cv, rfl, _⟩ := h.at
      go_wp2_with fail
      go_ret
      exact ⟨⟨_, rfl, HOE.out⟩, hb⟩

end Go.Proofs.YtifbnojkjbjngaaDoor
