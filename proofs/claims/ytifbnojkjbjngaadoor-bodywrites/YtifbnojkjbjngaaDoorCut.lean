/- All of a row; the pieces of parts. -/
import Derived.Test.YtifbnojkjbjngaaDoorLeaf
namespace Go.Proofs.YtifbnojkjbjngaaDoor
open Go.RowKit

/-- strings.Join with nothing between, of whatever row. -/
theorem join_any (a : Option Addr) (xs : List ByteArray) (ca : Nat) (w : World) (hx : StrsAt w a xs) (hcap : xs.length ≤ ca) (hN : xs.length ≤ 1000) (hlen : (cat xs).length ≤ 100000) :
    Calls Tryd.prog 39 #[.slice a xs.length ca, .string ⟨#[]⟩] w fun e w' => e = .returned (.string (bs (cat xs))) ∧ Below w.heap.size w w' := by
  by_cases h0 : xs = []
  · subst h0
    refine (Tryd.strings_Join_none a ca ⟨#[]⟩ w).mono ?_
    rintro e w' ⟨rfl, rfl⟩
    exact ⟨rfl, nwR _⟩
  · have hpos : 0 < xs.length := by
      rcases Nat.eq_zero_or_pos xs.length with h | h
      · exact absurd (List.length_eq_zero_iff.1 h) h0
      · exact h
    have hxx := hx
    obtain ⟨b, o, rfl, hc0⟩ := hx.cell hpos
    refine (Tryd.strings_Join b o ca xs ⟨#[]⟩ w ?_ (block_lt_of_cell hc0) (by omega) hcap ?_).mono ?_
    · intro j x hj
      have hjl : j < xs.length := (List.getElem?_eq_some_iff.1 hj).1
      obtain ⟨b', o', e, hc⟩ := hxx.cell hjl
      injection e with e
      injection e with e1 e2
      subst e1; subst e2
      rw [hc]
      simp [List.getD, hj]
    · have := join_cat xs
      simp only [] at this ⊢
      rw [this]; omega
    · rintro e w' ⟨rfl, hb⟩
      refine ⟨?_, hb⟩
      have := join_cat xs
      simp only [] at this ⊢
      rw [this]; rfl

theorem all_any (a : Option Addr) (xs : List ByteArray) (ca : Nat) (w : World) (hx : StrsAt w a xs) (hcap : xs.length ≤ ca) (hN : xs.length ≤ 1000) (hlen : (cat xs).length ≤ 100000) :
    Calls Tryd.prog 41 #[.slice a xs.length ca] w fun e w' => e = .returned (.string (bs (cat xs))) ∧ Below w.heap.size w w' := by
  go_enter Tryd.func41, Tryd.ntmps41
  go_wp2_with fail
  refine (join_any a xs ca w hx hcap hN hlen).mono ?_
  rintro e w1 ⟨rfl, hb⟩
  go_wp2_with fail
  go_ret
  exact ⟨rfl, hb⟩

theorem ext_ls (s : ByteArray) (a b : Nat) : ls (s.extract a b) = ((ls s).drop a).take (b - a) := by
  show (s.extract a b).data.toList = _
  rw [← Lib.toList_data, Lib.extract_toList]; rfl
theorem ext_left (s : ByteArray) (b : Nat) : s.extract 0 b = bs ((ls s).take b) := by
  apply ls_inj; rw [ext_ls, ls_bs]; rfl
theorem ext_right (s : ByteArray) (a : Nat) : s.extract a s.size = bs ((ls s).drop a) := by
  apply ls_inj; rw [ext_ls, ls_bs, List.take_of_length_le (by rw [List.length_drop, ls_size]; exact Nat.le_refl _)]
theorem pc_full {l : List UInt8} (h : 32 ≤ l.length) : pc l = bs (l.take 32) := by
  unfold pc; rw [show 32 - l.length = 0 from by omega]; simp [zs]
theorem pc_short {l : List UInt8} (h : l.length ≤ 32) : pc l = bs (l ++ zs (32 - l.length)) := by
  unfold pc; rw [List.take_of_length_le h]
theorem pcs_last {l : List UInt8} (h0 : 0 < l.length) (h : l.length ≤ 32) : pcs l = [pc l] := by
  rw [pcs_pos h0, List.drop_eq_nil_of_le h, pcs_nil]
theorem bs_app (s t : ByteArray) : s ++ t = bs (ls s ++ ls t) := by
  apply ls_inj; rw [ls_bs]; simp [ls]

/-- so many bytes 0 -/
theorem rep_any (c : Int) (w : World) (h0 : 0 ≤ c) (h1 : c ≤ 1000) :
    Calls Tryd.prog 38 #[.string ⟨#[0]⟩, .int .i64 c] w fun e w' => e = .returned (.string (bs (zs c.toNat))) ∧ Below w.heap.size w w' := by
  obtain ⟨n, rfl⟩ : ∃ n : Nat, c = n := ⟨c.toNat, by omega⟩
  refine (Tryd.strings_Repeat ⟨#[0]⟩ n w (by omega) (by show 1 * n ≤ _; omega)).mono ?_
  rintro e w' ⟨rfl, hb⟩
  refine ⟨?_, hb⟩
  rw [Int.toNat_natCast, show (ByteArray.mk #[0]).data.toList = [0] from rfl, rep_zero]; rfl

def szOf (v : Value) : Nat := match v with
  | .string s => s.size
  | _ => 0
theorem szOf_s (s : ByteArray) : szOf (.string s) = s.size := rfl

set_option maxHeartbeats 1000000 in
theorem cut_any (a : Option Addr) (ps : List ByteArray) (ca : Nat) (w : World) (hx : StrsAt w a ps) (hcap : ps.length ≤ ca) (hN : ps.length ≤ 1000) (hlen : (cat ps).length ≤ 100000) :
    Calls Tryd.prog 31 #[.slice a ps.length ca] w fun e w' => (∃ v, e = .returned v ∧ OwnStrs w' w.heap.size v (pcs (cat ps))) ∧ Below w.heap.size w w' := by
  obtain ⟨i0, hi, hz0, hz1, hz2⟩ := info_parts Tryd.info9
  go_enter Tryd.func31, Tryd.ntmps31
  go_wp2_with fail
  refine (join_any a ps ca w hx hcap hN hlen).mono ?_
  rintro e w1 ⟨rfl, hb1⟩
  have hs0 : (bs (cat ps)).size ≤ 100000 := by rw [bs_size]; exact hlen
  generalize hS : bs (cat ps) = S at hs0
  have HS : Hid (ls S = cat ps) := by rw [← hS]; exact ls_bs _
  clear hS hlen hx
  go_wp2_with fail
  go_loopw [3, 4] (fun v t wr => ∃ (ys : List ByteArray) (s : ByteArray), t = .string s ∧ s.size ≤ 100000 ∧ ys.length + s.size ≤ 100000 ∧ OwnStrs wr w.heap.size v ys ∧ Below w.heap.size w wr ∧ Hid (ys ++ pcs (ls s) = pcs (cat ps)))
    (fun _ t _ => szOf t)
  case atStart => exact ⟨[], S, rfl, hs0, by simpa using hs0, World.ownsRow_nil _ _ _ _, hb1, by rw [HS.out]; rfl⟩
  case round =>
    obtain ⟨ys, s, rfl, hs, hy, hO, hb, HP⟩ := hrel
    have HO : Hid (OwnStrs wr w.heap.size u3 ys) := hO
    clear hO
    by_cases hkl : (32 : Int) < (s.size : Int)
    · have hkn : 32 < s.size := by omega
      have HP' : Hid ((ys ++ [s.extract 0 32]) ++ pcs (ls (s.extract 32 s.size)) = pcs (cat ps)) := by
        show _ = _
        rw [ext_left, ext_right, ls_bs, ← HP.out, pcs_pos (l := ls s) (by rw [ls_size]; omega), pc_full (by rw [ls_size]; omega), List.append_assoc]; rfl
      have hx1 : (s.extract 32 s.size).size = s.size - 32 := by rw [ext_right, bs_size, List.length_drop, ls_size]
      have hsz : w.heap.size ≤ (wr.alloc (.cells #[.string (s.extract 0 32)] 9)).heap.size := (nwA hb _).size
      have hc3 : ys.length + 1 ≤ maxLen := by unfold maxLen; omega
      have hc4 : (ys.length + 1) * 16 ≤ 140737488355328 := by omega
      go_wp2_with (at_builtin; refine wpList_append_own _ rfl (.tmp 10) (.tmp 13) 22 rfl w.heap.size 9 i0 (.string ⟨#[]⟩) 1 16 Tryd.underlying22 hi hz0 hz1 hz2 rfl (by decide) u3 ys.length (ys.map .string) rfl (World.ownsRow.alloc HO.out _) ⟨wr.heap.size, 0, none⟩ 1 1 [.string (s.extract 0 32)] rfl rfl (cell_one _ _ _) (by simp [Value.oneCell']) hc3 hc4 hsz ?_; intro v' w3 hown hgrow _; refine unstop ?_)
      unfold Stop
      have HB3 : Hid (Below w.heap.size w w3) := (nwA hb _).grown hgrow (nwA hb _).size (fun q e => (HO.out.lt q e).1)
      have HO3 : Hid (OwnStrs w3 w.heap.size v' (ys ++ [s.extract 0 32])) := OwnStrs.snoc hown
      clear hown hgrow
      go_wp2_with fail
      go_roundw
      case rel => exact ⟨_, s.extract 32 s.size, by rfl, by omega, by rw [hx1, List.length_append, List.length_singleton]; omega, HO3.out, HB3.out, HP'⟩
      case measure => rw [szOf_s, szOf_s]; omega
    · by_cases h0 : s.size = 0
      · have e0 : s = ⟨#[]⟩ := ls_inj (List.length_eq_zero_iff.1 (by rw [ls_size]; exact h0))
        subst e0
        have HOE : Hid (OwnStrs wr w.heap.size u3 (pcs (cat ps))) := by
          have := HP.out
          rw [show ls ⟨#[]⟩ = [] from rfl, pcs_nil, List.append_nil] at this
          rw [← this]; exact HO.out
        clear HO
        have h := HOE.out
        obtain ⟨av, cv, rfl, _⟩ := h.at
        go_wp2_with fail
        go_ret
        exact ⟨⟨_, rfl, HOE.out⟩, hb⟩
      · have hne : (s.toList == []) = false := by
          rw [beq_eq_false_iff_ne, Lib.toList_data]; intro e; exact h0 (by rw [← ls_size]; unfold ls; rw [e]; rfl)
        have hs32 : s.size ≤ 32 := by omega
        go_wp2_with fail
        refine (rep_any _ _ (by omega) (by omega)).mono ?_
        rintro e w2 ⟨rfl, hb2⟩
        have hb3 := nwT hb hb2
        have HO2 : Hid (OwnStrs w2 w.heap.size u3 ys) := HO.out.below hb2
        have hz : (bs (zs ((32 : Int) - (s.size : Int)).toNat)).size = 32 - s.size := by rw [bs_size, zs_len]; omega
        have HP' : Hid (ys ++ [s ++ bs (zs ((32 : Int) - (s.size : Int)).toNat)] = pcs (cat ps)) := by
          show _ = _
          rw [← HP.out, pcs_last (by rw [ls_size]; omega) (by rw [ls_size]; omega), pc_short (by rw [ls_size]; omega), bs_app, ls_bs, ls_size]
          rw [show ((32 : Int) - (s.size : Int)).toNat = 32 - s.size from by omega]
        generalize bs (zs ((32 : Int) - (s.size : Int)).toNat) = z at hz HP'
        have hfit : ¬ 9223372036854775807 < s.size + z.size := by omega
        have hsz : w.heap.size ≤ (w2.alloc (.cells #[.string (s ++ z)] 9)).heap.size := (nwA hb3 _).size
        have hc3 : ys.length + 1 ≤ maxLen := by unfold maxLen; omega
        have hc4 : (ys.length + 1) * 16 ≤ 140737488355328 := by omega
        clear hb2 HO
        go_wp2_with (at_builtin; refine wpList_append_own _ rfl (.tmp 19) (.tmp 26) 22 rfl w.heap.size 9 i0 (.string ⟨#[]⟩) 1 16 Tryd.underlying22 hi hz0 hz1 hz2 rfl (by decide) u3 ys.length (ys.map .string) rfl (World.ownsRow.alloc HO2.out _) ⟨w2.heap.size, 0, none⟩ 1 1 [.string (s ++ z)] rfl rfl (cell_one _ _ _) (by simp [Value.oneCell']) hc3 hc4 hsz ?_; intro v' w3 hown hgrow _; refine unstop ?_)
        unfold Stop
        have HB3 : Hid (Below w.heap.size w w3) := (nwA hb3 _).grown hgrow (nwA hb3 _).size (fun q e => (HO2.out.lt q e).1)
        have HO3 : Hid (OwnStrs w3 w.heap.size v' (pcs (cat ps))) := by rw [← HP'.out]; exact OwnStrs.snoc hown
        clear hown hgrow
        have h := HO3.out
        obtain ⟨av, cv, rfl, _⟩ := h.at
        go_wp2_with fail
        go_ret
        exact ⟨⟨_, rfl, HO3.out⟩, HB3.out⟩

end Go.Proofs.YtifbnojkjbjngaaDoor
