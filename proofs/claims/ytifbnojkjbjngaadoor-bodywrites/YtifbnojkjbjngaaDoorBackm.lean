/- Plain mathematics of BodyBack: what was not written is as it was. -/
import Derived.Test.YtifbnojkjbjngaaDoorWithin
namespace Go.Proofs.YtifbnojkjbjngaaDoor

theorem pc_congr {a b : List UInt8} (h1 : a.take 32 = b.take 32) (h2 : 32 - a.length = 32 - b.length) : pc a = pc b := by unfold pc; rw [h1, h2]
theorem wrt_nil (l : List UInt8) (k : Nat) : wrt l k [] = l := by
  unfold wrt; rw [List.append_nil, List.length_nil, Nat.add_zero, List.take_append_drop]
theorem drop_app {a b : List UInt8} {n j : Nat} (hl : a.length = n) (h : n ≤ j) : (a ++ b.drop n).drop j = b.drop j := by
  rw [List.drop_append, List.drop_eq_nil_of_le (by omega), List.nil_append, List.drop_drop, hl]
  congr 1; omega
theorem wrt_drop {l : List UInt8} {k j : Nat} {t : List UInt8} (hk : k ≤ l.length) (h : k + t.length ≤ j) : (wrt l k t).drop j = l.drop j := by
  unfold wrt
  exact drop_app (by rw [List.length_append, List.length_take]; omega) h
theorem wrt_take {l : List UInt8} {k : Nat} {t : List UInt8} (h : k ≤ l.length) : (wrt l k t).take k = l.take k := by
  unfold wrt
  rw [List.append_assoc, List.take_append_of_le_length (by rw [List.length_take]; omega), List.take_take, Nat.min_self]
theorem part_of_take {a b : List UInt8} {k i n : Nat} (h : a.take k = b.take k) (hi : i + n ≤ k) : (a.drop i).take n = (b.drop i).take n := by
  have e : ∀ c : List UInt8, (c.drop i).take n = ((c.take k).drop i).take n := by
    intro c
    rw [List.drop_take, List.take_take, Nat.min_eq_left (by omega)]
  rw [e a, e b, h]
theorem back_piece {l t : List UInt8} {k j : Nat} (hk : k ≤ l.length) (hj : j < (pcs (wrt l k t)).length) (hn : (j : Int) ∉ frs k t) : j < (pcs l).length ∧ (pcs (wrt l k t)).getD j ByteArray.empty = (pcs l).getD j ByteArray.empty := by
  by_cases ht : t = []
  · subst ht
    rw [wrt_nil] at hj ⊢
    exact ⟨hj, rfl⟩
  · unfold frs at hn
    rw [if_neg ht, numL_mem] at hn
    have hj2 := hj
    rw [pcs_len] at hj ⊢
    have hwl := wrt_len (t := t) hk
    by_cases h1 : 32 * (j + 1) ≤ k
    · have hjl : j < many l.length := by unfold many; omega
      refine ⟨hjl, ?_⟩
      rw [pcs_get _ _ hj, pcs_get _ _ hjl]
      refine pc_congr (part_of_take (wrt_take hk) (by omega)) ?_
      rw [List.length_drop, List.length_drop, hwl]; omega
    · have h2 : k + t.length ≤ 32 * j := by
        unfold many at hn
        omega
      have hjl : j < many l.length := by
        rw [hwl] at hj
        unfold many at *; omega
      refine ⟨hjl, ?_⟩
      rw [pcs_get _ _ hj, pcs_get _ _ hjl, wrt_drop hk h2]
/-- what Write tells of a text's own pieces -/
theorem written_pcs (l : List UInt8) (k : Nat) (t : ByteArray) (hl : l.length ≤ 200) (hk : k ≤ l.length) : written l.length (pcs l) k t = if k + t.size ≤ 200 then (((max l.length (k + t.size) : Nat) : Int), pcs (wrt l k (ls t)), frs k (ls t), 0) else (0, [], [], 2) := by
  have hm : mayB (l.length : Int) (pcs l) = true := may_pcs hl
  have hn : numB (k : Int) (l.length : Int) = true := by unfold numB; simp; omega
  unfold written
  rw [hm, hn, if_pos (by rfl), tx_pcs, Int.toNat_natCast]
  by_cases h : k + t.size ≤ 200
  · rw [if_pos h, if_pos (by omega)]
    congr 1
    omega
  · rw [if_neg h, if_neg (by omega)]
/-- the law's own reckoning of the text -/
theorem want_yes {s t : ByteArray} {k : Nat} (h : k ≤ s.size) (_hw : (s.extract 0 k ++ t).size < s.size) : (s.extract 0 k ++ t) ++ s.extract (s.extract 0 k ++ t).size s.size = bs (wrt (ls s) k (ls t)) := by
  have e : (s.extract 0 k ++ t).size = k + t.size := by rw [bs_app, bs_size, List.length_append, ext_left, ls_bs, List.length_take, ls_size, ls_size]; omega
  rw [e, bs_app (s.extract 0 k ++ t), bs_app (s.extract 0 k), ext_left, ext_right, ls_bs, ls_bs, ls_bs]
  unfold wrt
  rw [ls_size]
theorem want_no {s t : ByteArray} {k : Nat} (h : k ≤ s.size) (hw : ¬ (s.extract 0 k ++ t).size < s.size) : s.extract 0 k ++ t = bs (wrt (ls s) k (ls t)) := by
  have e : (s.extract 0 k ++ t).size = k + t.size := by rw [bs_app, bs_size, List.length_append, ext_left, ls_bs, List.length_take, ls_size, ls_size]; omega
  rw [e] at hw
  rw [bs_app (s.extract 0 k), ext_left, ls_bs]
  unfold wrt
  rw [List.drop_eq_nil_of_le (by rw [ls_size, ls_size]; omega), List.append_nil]

end Go.Proofs.YtifbnojkjbjngaaDoor
