/- The methods of seg's builder, by their contracts. -/
import Derived.Test.YtpkgoagoceddoaaSet
import Derived.Deep.RegionLaw
namespace Go.Proofs.Ytpkgoagoceddoaa
open Go.RowKit

theorem step_append_own {P : Program} {ops : Array Oper} {o : Oper} {a : Act} {w : World} {K : Act → World → Prop} {Q : Exit → Act → World → Prop} {E : Prop}
    (hg : o.guard = none) (s x : Operand) (t : TypeId) (hop : o.op = Op.call { callee := Callee.builtin Builtin.append, args := #[s, x], argTypes := #[t, t] })
    (base : Nat) (e : TypeId) (i : TypeInfo) (z : Value) (size bytes : Nat) (h1 : P.underlying t = some (.slice e)) (h2 : P.info? e = some i) (h3 : i.zero = some z) (h4 : i.size = size) (h5 : i.bytes = bytes) (h6 : z.cells.size = size) (h7 : 0 < size)
    (v : Value) (n : Nat) (xs : List Value) (hs : a.eval s = v) (hown : w.ownsRow base e size v n xs)
    (ad : Addr) (m c : Nat) (news : List Value) (hx : a.eval x = .slice (some ad) m c) (hn : news.length = m * size) (hc : ∀ j u, news[j]? = some u → w.cell? (ad.add j) = some u) (h1c : ∀ u ∈ news, u.oneCell' = true)
    (b1 : n + m ≤ maxLen) (b2 : (n + m) * bytes ≤ 140737488355328) (hbase : base ≤ w.heap.size)
    (hK : ∀ v' w', w'.ownsRow base e size v' (n + m) (xs ++ news) → w.grownBy w' v.ownBlock → K (a.put o.dst v') w') :
    if Region.wanted o (yielded ops a.tmps) = true then Oper.wp P o a w K Q else E := by
  have hw : Region.wanted o (yielded ops a.tmps) = true := by simp [Region.wanted, hg]
  rw [if_pos hw]
  obtain ⟨v', w', hrun, r1, r2, _⟩ := run_append_own (P := P) w base t o.type e i z size bytes h1 h2 h3 h4 h5 h6 h7 v n xs hown ad m c news hn hc h1c b1 b2 hbase
  unfold Oper.wp
  simp [execOp, hop, resolve, invoke, builtin, hs, hx, hrun, Result.andThen]
  exact hK _ _ r1 r2

def flat (d : List (Int × Int)) : List Value := d.flatMap fun s => [.int .i64 s.1, .int .i64 s.2]

theorem Try.info57 : (Try.prog.info? 57).map (fun i => (i.zero, i.size, i.bytes)) = some (some (.agg #[.int .i64 0, .int .i64 0]), 2, 16) := by kernel_rfl

structure BuildIs (w : World) (g : Nat) (d : List (Int × Int)) (a n : Int) (ao : Option Addr) (cap : Nat) : Prop where
  blk : w.heap[g]? = some (.cells #[.int .i64 a, .int .i64 n, .slice ao d.length cap] 72 (0, 0))
  own : w.ownsRow (g + 1) 57 2 (.slice ao d.length cap) d.length (flat d)

theorem cell_two (w : World) (x y : Value) (t : TypeId) : ∀ j u, [x, y][j]? = some u → (w.alloc (.cells #[x, y] t)).drew.cell? ((⟨w.heap.size, 0, none⟩ : Addr).add j) = some u := by
  intro j u hu
  match j, hu with
  | 0, hu => simp at hu; subst hu; simp [Addr.add]
  | 1, hu => simp at hu; subst hu; simp [Addr.add]

theorem own_set_below {w : World} {base : Nat} {e : TypeId} {size : Nat} {v : Value} {n : Nat} {xs : List Value} (h : w.ownsRow base e size v n xs) {g o : Nat} (hg : g < base) (u : Value) :
    (w.setCell ⟨g, o, none⟩ u).ownsRow base e size v n xs := by
  refine ⟨h.1, ?_⟩
  rcases h.2 with hn | ⟨r, cap, cur, rfl, hb, hgg, rest⟩
  · exact .inl hn
  · refine .inr ⟨r, cap, cur, rfl, hb, ?_, rest⟩
    rw [Below.heap_setCell _ _ _ _ (by show r ≠ g; omega)]
    exact hgg

theorem own_not {w : World} {base : Nat} {e : TypeId} {size : Nat} {v : Value} {n : Nat} {xs : List Value} (h : w.ownsRow base e size v n xs) {g : Nat} (hg : g < base) : v.ownBlock ≠ some g := by
  intro e
  have := h.lt g e
  omega

theorem blk_cells {w : World} {g : Nat} {x y z : Value} (h : w.heap[g]? = some (.cells #[x, y, z] 72 (0, 0))) :
    w.cell? ⟨g, 0, none⟩ = some x ∧ w.cell? ⟨g, 1, none⟩ = some y ∧ w.cell? ⟨g, 2, none⟩ = some z ∧ ∀ o, w.frozen? ⟨g, o, none⟩ = false := by
  refine ⟨by simp [World.cell?, h], by simp [World.cell?, h], by simp [World.cell?, h], fun o => by simp [World.frozen?, h]⟩

theorem set3 {w : World} {g : Nat} {x y z x' y' z' : Value} (h : w.heap[g]? = some (.cells #[x, y, z] 72 (0, 0))) :
    (((w.setCell ⟨g, 2, none⟩ z').setCell ⟨g, 0, none⟩ x').setCell ⟨g, 1, none⟩ y').heap[g]? = some (.cells #[x', y', z'] 72 (0, 0)) := by
  have h1 := heap_setCell_same w g 2 _ 72 z' h
  have h2 := heap_setCell_same _ g 0 _ 72 x' h1
  have h3 := heap_setCell_same _ g 1 _ 72 y' h2
  rw [h3]
  simp

theorem flat_snoc (d : List (Int × Int)) (a n : Int) : flat (d ++ [(a, n)]) = flat d ++ [.int .i64 a, .int .i64 n] := by simp [flat]

theorem below_grown {g : Nat} {w w1 : World} {r : Option Nat} (hg : g ≤ w.heap.size) (hgrow : w.grownBy w1 r) (hr : ∀ k, r = some k → g ≤ k) : Below g w w1 := (Below.refl g w).grown hgrow hg hr

theorem below_set3 {g : Nat} {w : World} {x y z : Value} : Below g w (((w.setCell ⟨g, 2, none⟩ z).setCell ⟨g, 0, none⟩ x).setCell ⟨g, 1, none⟩ y) :=
  (((Below.refl g w).setCell (p := ⟨g, 2, none⟩) (Nat.le_refl _) _).setCell (p := ⟨g, 0, none⟩) (Nat.le_refl _) _).setCell (p := ⟨g, 1, none⟩) (Nat.le_refl _) _

/-- behind the append: the builder's block, the value's form -/
theorem app_facts {w w1 : World} {g : Nat} {d : List (Int × Int)} {a n : Int} {ao : Option Addr} {cap : Nat} {v' : Value} {o : Obj}
    (HB : Hid (w.heap[g]? = some (.cells #[.int .i64 a, .int .i64 n, .slice ao d.length cap] 72 (0, 0))))
    (hown : w.ownsRow (g + 1) 57 2 (.slice ao d.length cap) d.length (flat d))
    (hown' : w1.ownsRow (g + 1) 57 2 v' (d.length + 1) (flat d ++ [.int .i64 a, .int .i64 n])) (hgrow0 : (w.alloc o).drew.grownBy w1 (Value.slice ao d.length cap).ownBlock) :
    ∃ b cap', v' = .slice (some ⟨b, 0, none⟩) (d.length + 1) cap' ∧ w1.cell? ⟨g, 0, none⟩ = some (.int .i64 a) ∧ w1.cell? ⟨g, 1, none⟩ = some (.int .i64 n) ∧
      w1.cell? ⟨g, 2, none⟩ = some (.slice ao d.length cap) ∧ (∀ o, w1.frozen? ⟨g, o, none⟩ = false) ∧
      Hid (∀ wz, wz = ((w1.setCell ⟨g, 2, none⟩ (.slice (some ⟨b, 0, none⟩) (d.length + 1) cap')).setCell ⟨g, 0, none⟩ (.int .i64 0)).setCell ⟨g, 1, none⟩ (.int .i64 0) →
        BuildIs wz g (d ++ [(a, n)]) 0 0 (some ⟨b, 0, none⟩) cap' ∧ Below g w wz) := by
  have hblk := HB.out
  have hgrow : (w.alloc o).grownBy w1 (Value.slice ao d.length cap).ownBlock := ⟨hgrow0.os, hgrow0.tape, hgrow0.output, hgrow0.size, hgrow0.block⟩
  have hgl : g < w.heap.size := (Array.getElem?_eq_some_iff.1 hblk).1
  have hne := own_not hown (Nat.lt_succ_self g)
  have hb1 : w1.heap[g]? = some (.cells #[.int .i64 a, .int .i64 n, .slice ao d.length cap] 72 (0, 0)) := by
    rw [hgrow.block g (by simp; omega) (fun e => hne e.symm), Below.heap_alloc _ _ _ hgl]; exact hblk
  obtain ⟨q0, q1, q2, qf⟩ := blk_cells hb1
  rcases hown'.2 with ⟨_, h0⟩ | ⟨b, cap', _, hv, _⟩
  · omega
  · subst hv
    refine ⟨b, cap', rfl, q0, q1, q2, qf, ?_⟩
    intro wz hwz
    subst hwz
    refine ⟨⟨?_, ?_⟩, ?_⟩
    · rw [set3 hb1]; simp
    · have hl : (d ++ [(a, n)]).length = d.length + 1 := by simp
      rw [hl, flat_snoc]
      exact own_set_below (own_set_below (own_set_below hown' (by omega) _) (by omega) _) (by omega) _
    · refine Below.trans (below_grown (Nat.le_of_lt hgl) (gbTrans (World.grownBy_alloc w o _) hgrow) ?_) below_set3
      intro k hk
      have := hown.lt k hk
      omega

set_option maxHeartbeats 400000 in
theorem finish_yes (g : Nat) (d : List (Int × Int)) (a n : Int) (ao : Option Addr) (cap : Nat) (w : World) (hb : BuildIs w g d a n ao cap) (hn : 0 < n) (hd : d.length ≤ 64) :
    Calls Try.prog 47 #[.pointer (some ⟨g, 0, none⟩)] w fun e w' =>
      e = .returned (.tuple #[]) ∧ (∃ ao' cap', BuildIs w' g (d ++ [(a, n)]) 0 0 ao' cap') ∧ Below g w w' := by
  obtain ⟨i0, hi, hz0, hz1, hz2⟩ := info_parts Try.info57
  obtain ⟨hblk, hown⟩ := hb
  have hgl : g < w.heap.size := (Array.getElem?_eq_some_iff.1 hblk).1
  obtain ⟨c0, c1, c2, cf⟩ := blk_cells hblk
  have HB : Hid (w.heap[g]? = some (.cells #[.int .i64 a, .int .i64 n, .slice ao d.length cap] 72 (0, 0))) := hblk
  clear hblk
  have b1 : d.length + 1 ≤ maxLen := by unfold maxLen; omega
  have b2 : (d.length + 1) * 16 ≤ 140737488355328 := by omega
  go_enter Try.func47, Try.ntmps47
  go_wp2_with fail
  go_region_law (refine step_append_own rfl (.tmp 13) (.tmp 19) 27 rfl (g + 1) 57 i0 _ 2 16 Try.underlying27 hi hz0 hz1 hz2 rfl (by decide) _ d.length (flat d) (by simp [Act.eval]; rfl) (by exact hown.alloc _) ⟨w.heap.size, 0, none⟩ 1 1 [.int .i64 a, .int .i64 n] (by simp [Act.eval]) rfl (cell_two _ _ _ _) (by simp [Value.oneCell']) b1 b2 (by simp; omega) ?_; intro v' w1 hown' hgrow; obtain ⟨b, cap', rfl, q0, q1, q2, qf, Q⟩ := app_facts HB hown hown' hgrow; clear hown' hgrow)
  all_goals go_wp2
  all_goals go_end0
  all_goals exact ⟨rfl, ⟨_, _, (Q.out _ rfl).1⟩, (Q.out _ rfl).2⟩

end Go.Proofs.Ytpkgoagoceddoaa
