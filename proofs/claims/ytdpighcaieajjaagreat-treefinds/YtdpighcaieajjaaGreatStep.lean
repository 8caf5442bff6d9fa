/- The reader's steps: a name more in its row; a name read. -/
import Derived.Test.YtdpighcaieajjaaGreatText
import Derived.Deep.RegionHeld3
namespace Go.Proofs.YtdpighcaieajjaaGreat
open Go.RowKit

structure RdIs (w : World) (g : Nat) (acc : List ByteArray) (rest : ByteArray) (v : Value) : Prop where
  blk : w.heap[g]? = some (.cells #[v, .string rest] 135 (0, 0))
  own : OwnStrs w (g + 1) v acc

theorem RdIs.lt {w : World} {g : Nat} {acc : List ByteArray} {rest : ByteArray} {v : Value} (h : RdIs w g acc rest v) : g < w.heap.size := (Array.getElem?_eq_some_iff.1 h.blk).1
theorem RdIs.below {w w' : World} {g : Nat} {acc : List ByteArray} {rest : ByteArray} {v : Value} (h : RdIs w g acc rest v) (hb : Below w.heap.size w w') : RdIs w' g acc rest v :=
  ⟨(hb.block g h.lt).trans h.blk, h.own.below hb⟩
theorem RdIs.ne {w : World} {g : Nat} {acc : List ByteArray} {rest : ByteArray} {v : Value} (h : RdIs w g acc rest v) : v.ownBlock ≠ some g := by
  intro e; have := h.own.lt g e; omega

theorem own_set {w : World} {base : Nat} {v : Value} {xs : List ByteArray} (h : OwnStrs w base v xs) {g : Nat} (o : Nat) (hg : g < base) (u : Value) : OwnStrs (w.setCell ⟨g, o, none⟩ u) base v xs := by
  refine ⟨h.1, ?_⟩
  rcases h.2 with hn | ⟨r, cap, cur, hv, hb, hgg, rest⟩
  · exact .inl hn
  · refine .inr ⟨r, cap, cur, hv, hb, ?_, rest⟩
    rw [Below.heap_setCell _ _ _ _ (by show r ≠ g; omega)]
    exact hgg

set_option maxRecDepth 100000 in
set_option maxHeartbeats 1000000 in
theorem add_any (g : Nat) (acc : List ByteArray) (rest : ByteArray) (v : Value) (q c : Nat) (x : ByteArray) (w : World) (h : RdIs w g acc rest v) (hq : w.cell? ⟨q, 0, none⟩ = some (.string x)) (hl : acc.length ≤ 4000) :
    Calls Tryz.prog 129 #[.pointer (some ⟨g, 0, none⟩), .slice (some ⟨q, 0, none⟩) 1 c] w fun e w' => e = .returned (.tuple #[]) ∧ (∃ v', RdIs w' g (acc ++ [x]) rest v') ∧ Below g w w' := by
  obtain ⟨i0, hi, hz0, hz1, hz2⟩ := info_parts Tryz.info9
  have hgl := h.lt
  have hne := h.ne
  obtain ⟨hbk, hown⟩ := h
  have c0 : w.cell? ⟨g, 0, none⟩ = some v := by rw [Lib.cell_of_heap hbk]; rfl
  have HB : Hid (w.heap[g]? = some (.cells #[v, .string rest] 135 (0, 0))) := hbk
  have HO : Hid (w.ownsRow (g + 1) 9 1 v acc.length (acc.map .string)) := hown
  have HQ : Hid (∀ j u, [Value.string x][j]? = some u → w.cell? ((⟨q, 0, none⟩ : Addr).add j) = some u) := by
    intro j u hu
    match j, hu with
    | 0, hu => simp at hu; subst hu; simpa [Addr.add] using hq
  have hc3 : acc.length + 1 ≤ maxLen := by unfold maxLen; omega
  have hc4 : (acc.length + 1) * 16 ≤ 140737488355328 := by omega
  have hc5 : g + 1 ≤ w.heap.size := hgl
  clear hbk hown hq
  go_enter Tryz.func129, Tryz.ntmps129
  go_wp2_with (at_builtin; refine wpList_append_own _ rfl (.tmp 8) (.tmp 9) 43 rfl (g + 1) 9 i0 (.string ⟨#[]⟩) 1 16 Tryz.underlying43 hi hz0 hz1 hz2 rfl (by decide) v acc.length (acc.map .string) rfl HO.out ⟨q, 0, none⟩ 1 c [.string x] rfl rfl HQ.out (by simp [Value.oneCell']) hc3 hc4 hc5 ?_; intro v' w2 hown' hgrow _; refine unstop ?_)
  unfold Stop
  have hb2 : w2.heap[g]? = some (.cells #[v, .string rest] 135 (0, 0)) := by rw [hgrow.block g hgl (fun e => hne e.symm)]; exact HB.out
  have d1 : w2.cell? ⟨g, 0, none⟩ = some v := by rw [Lib.cell_of_heap hb2]; rfl
  have f1 : w2.frozen? ⟨g, 0, none⟩ = false := Lib.frozen_of_heap hb2 0
  obtain ⟨r, cap, rfl⟩ : ∃ r cap, v' = .slice (some ⟨r, 0, none⟩) (acc.length + 1) cap := by
    rcases hown'.2 with ⟨_, h0⟩ | ⟨r, cap, cur, hv, _⟩
    · omega
    · exact ⟨r, cap, hv⟩
  have HB2 : Hid (w2.heap[g]? = some (.cells #[v, .string rest] 135 (0, 0))) := hb2
  have HO2 : Hid (OwnStrs w2 (g + 1) (.slice (some ⟨r, 0, none⟩) (acc.length + 1) cap) (acc ++ [x])) := OwnStrs.snoc hown'
  have HBE : Hid (Below g w w2) := (Below.refl g w).grown hgrow (Nat.le_of_lt hgl) (fun k hk => Nat.le_of_succ_le (HO.out.lt k hk).1)
  clear hb2 hown' hgrow c0
  go_wp2
  go_end0
  refine ⟨rfl, ⟨_, ?_, own_set HO2.out 0 (Nat.lt_succ_self g) _⟩, HBE.out.setCell (p := ⟨g, 0, none⟩) (Nat.le_refl _) _⟩
  rw [heap_setCell_same w2 g 0 _ 135 _ HB2.out]; simp

set_option maxRecDepth 100000 in
set_option maxHeartbeats 1000000 in
theorem clone_any (s : ByteArray) (w : World) (hs : s.size ≤ 4000) :
    Calls Tryz.prog 130 #[.string s] w fun e w' => e = .returned (.string s) ∧ Below w.heap.size w w' := by
  go_enter Tryz.func130, Tryz.ntmps130
  go_wp2_with fail
  refine (Tryz.stringslite_Clone s _ (by omega)).mono ?_
  rintro e w1 ⟨rfl, hb⟩
  go_wp2_with fail
  go_ret
  exact ⟨rfl, hb⟩

end Go.Proofs.YtdpighcaieajjaaGreat
