/- Size by the page. -/
import Derived.Test.YtifbnojkjbjngaaDoorRcut
namespace Go.Proofs.YtifbnojkjbjngaaDoor
open Go.RowKit

theorem many_w (n : Int) (w : World) (h0 : 0 ≤ n) (h1 : n ≤ 1000) : Calls Tryd.prog 29 #[.int .i64 n] w fun e w' => e = .returned (.int .i64 ((n + 31) / 32)) ∧ w = w' := (many_any n w h0 h1).mono fun _ _ h => ⟨h.1, h.2.symm⟩
theorem num_w (n : Int) (w : World) : Calls Tryd.prog 11 #[.int .i64 n] w fun e w' => e = .returned (.int .i64 n) ∧ w = w' := (num_any n w).mono fun _ _ h => ⟨h.1, h.2.symm⟩

def PairPost (s : ByteArray) (F : List Int) (w : World) (e : Ending) (w' : World) : Prop := (∃ a c, e = .returned (.tuple #[.string s, .slice a F.length c]) ∧ IntsAt w' a F ∧ CapOk a c F.length) ∧ Below w.heap.size w w'

set_option maxRecDepth 100000 in
set_option maxHeartbeats 2000000 in
theorem rsize_any (old : ByteArray) (m : Nat) (w : World) (ho : old.size ≤ 200) (hm : m ≤ 200) :
    Calls Tryd.prog 22 #[.string old, .int .i64 m] w (PairPost (bs (siz (ls old) m)) (frz (ls old) m) w) := by
  obtain ⟨i0, hi, hz0, hz1, hz2⟩ := info_parts Tryd.info3
  by_cases hge : (old.size : Int) ≤ (m : Int)
  · have HF : Hid (frz (ls old) m = numL (((old.size : Int) + 31) / 32).toNat (((m : Int) + 31) / 32).toNat) := by
      show _ = _; unfold frz; rw [ls_size, if_pos (by omega)]; unfold many; congr 1 <;> omega
    have HR : Hid (old ++ bs (zs (m - old.size)) = bs (siz (ls old) m)) := by
      show _ = _; rw [bs_app, ls_bs]; unfold siz; rw [ls_size, List.take_of_length_le (by rw [ls_size]; omega)]
    obtain ⟨A, hA⟩ : ∃ A : Nat, ((old.size : Int) + 31) / 32 = A := ⟨(((old.size : Int) + 31) / 32).toNat, by omega⟩
    obtain ⟨B, hB⟩ : ∃ B : Nat, ((m : Int) + 31) / 32 = B := ⟨(((m : Int) + 31) / 32).toNat, by omega⟩
    rw [hA, hB, Int.toNat_natCast, Int.toNat_natCast] at HF
    go_enter Tryd.func22, Tryd.ntmps22
    go_wp2_with (go_at_call 29; refine (many_w _ _ (by omega) (by omega)).mono ?_; rintro e w' ⟨rfl, rfl⟩)
    go_loopw [6, 7] (fun v i wr => ∃ (k : Nat), A ≤ k ∧ k ≤ 1000 ∧ (k ≤ B ∨ k = A) ∧ i = .int .i64 k ∧ OwnInts wr w.heap.size v (numL A k) ∧ Below w.heap.size w wr)
      (fun _ i _ => B - (intOf i).toNat)
    case atStart => exact ⟨A, by omega, by omega, .inr rfl, rfl, by rw [numL_nil (Nat.le_refl A)]; exact World.ownsRow_nil _ _ _ _, nwR w⟩
    case round =>
      obtain ⟨k, hak, hk1, hkb, rfl, hO, hb⟩ := hrel
      have HO : Hid (OwnInts wr w.heap.size u6 (numL A k)) := hO
      clear hO
      by_cases hkl : (k : Int) < (B : Int)
      · have HS : Hid (numL A (k + 1) = numL A k ++ [(k : Int)]) := numL_succ hak
        have hlt : (numL A k).length ≤ 1000 := by rw [numL_len]; omega
        generalize numL A k = ys at HO HS hlt
        have hsz : w.heap.size ≤ (wr.alloc (.cells #[.int .i64 (k : Int)] 3)).heap.size := (nwA hb _).size
        have hc3 : ys.length + 1 ≤ maxLen := by unfold maxLen; omega
        have hc4 : (ys.length + 1) * 8 ≤ 140737488355328 := by omega
        go_wp2_with (first
          | (go_at_call 29; refine (many_w _ _ (by omega) (by omega)).mono ?_; rintro e w' ⟨rfl, rfl⟩; rw [hB])
          | (at_builtin; refine wpList_append_own _ rfl (.tmp 21) (.tmp 23) 24 rfl w.heap.size 3 i0 (.int .i64 0) 1 8 Tryd.underlying24 hi hz0 hz1 hz2 rfl (by decide) u6 ys.length (ys.map (.int .i64)) rfl (World.ownsRow.alloc HO.out _) ⟨wr.heap.size, 0, none⟩ 1 1 [.int .i64 (k : Int)] rfl rfl (cells_new _ [.int .i64 (k : Int)] _) (by simp [Value.oneCell']) hc3 hc4 hsz ?_; intro v' w3 hown hgrow _; refine unstop ?_))
        unfold Stop
        have HB3 : Hid (Below w.heap.size w w3) := (nwA hb _).grown hgrow (nwA hb _).size (fun q e => (HO.out.lt q e).1)
        have HO3 : Hid (OwnInts w3 w.heap.size v' (numL A (k + 1))) := by rw [HS.out]; exact OwnInts.snoc hown
        clear hown hgrow
        go_wp2_with fail
        go_roundw
        case rel => exact ⟨k + 1, by omega, by omega, .inl (by omega), by go_num, HO3.out, HB3.out⟩
        case measure => simp [intOf]; omega
      · have HOE : Hid (OwnInts wr w.heap.size u6 (numL A B)) := by
          have := HO.out
          rcases hkb with h | h
          · have e : k = B := by omega
            rw [e] at this; exact this
          · rw [h, numL_nil (Nat.le_refl A)] at this
            rw [numL_nil (by omega)]; exact this
        clear HO
        have h := HOE.out
        obtain ⟨av, cv, rfl, hat, hcp⟩ := h.at
        have HAT : Hid (IntsAt wr av (numL A B)) := hat
        have HCP : Hid (CapOk av cv (numL A B).length) := hcp
        clear h hat hcp HOE
        go_wp2_with (go_at_call 29; refine (many_w _ _ (by omega) (by omega)).mono ?_; rintro e w' ⟨rfl, rfl⟩; rw [hB])
        refine (zeros_any _ _ (by omega) (by omega)).mono ?_
        rintro e w2 ⟨rfl, hb2⟩
        rw [show ((m : Int) - (old.size : Int)).toNat = m - old.size from by omega]
        have hzs : (bs (zs (m - old.size))).size = m - old.size := by rw [bs_size, zs_len]
        generalize bs (zs (m - old.size)) = z at HR hzs ⊢
        have hfit : ¬ 9223372036854775807 < old.size + z.size := by omega
        obtain ⟨Y, hY⟩ : ∃ Y, old ++ z = Y := ⟨_, rfl⟩
        rw [hY] at HR
        go_wp2_with fail
        go_ret2
        refine ⟨⟨av, cv, by rw [← HR.out, HF.out]; rfl, by rw [HF.out]; exact HAT.out.below hb2, by rw [HF.out]; exact HCP.out⟩, nwT hb hb2⟩
  · have hR : Hid (old.extract 0 m = bs (siz (ls old) m)) := by
      show _ = _; rw [ext_left]; unfold siz; rw [ls_size, show m - old.size = 0 from by omega]; simp [zs]
    have hmo : (m : Int) ≤ (old.size : Int) := by omega
    have hF0 : frz (ls old) m = if m % 32 = 0 then [] else [((m / 32 : Nat) : Int)] := by
      unfold frz; rw [ls_size, if_neg (by omega)]
      by_cases h : m % 32 = 0
      · rw [if_pos h, numL_nil (by unfold many; omega)]
      · rw [if_neg h, show many m = m / 32 + 1 from by unfold many; omega, numL_succ (Nat.le_refl _), numL_nil (Nat.le_refl _)]; rfl
    by_cases h32 : m % 32 = 0
    · have HF : Hid (frz (ls old) m = []) := by show _ = _; rw [hF0, if_pos h32]
      have h32i : ((m : Int) % 32 != 0) = false := by rw [bne_eq_false_iff_eq]; omega
      clear hF0
      go_enter Tryd.func22, Tryd.ntmps22
      go_wp2_with fail
      go_ret2
      exact ⟨⟨none, 0, by rw [← hR.out, HF.out]; rfl, by rw [HF.out]; exact .inl rfl, by rw [HF.out]; exact ⟨Nat.le_refl _, fun _ => rfl, fun p e => by cases e⟩⟩, nwR w⟩
    · have HF : Hid (frz (ls old) m = [((m / 32 : Nat) : Int)]) := by show _ = _; rw [hF0, if_neg h32]
      have h32i : ((m : Int) % 32 != 0) = true := by rw [bne_iff_ne]; omega
      have hq : (m : Int) / 32 = ((m / 32 : Nat) : Int) := by omega
      clear hF0
      generalize hqq : m / 32 = q at HF hq
      have hsz : w.heap.size ≤ (w.alloc (.cells #[.int .i64 (q : Int)] 3)).heap.size := (nwA (nwR w) _).size
      have hc3 : 0 + 1 ≤ maxLen := by unfold maxLen; omega
      go_enter Tryd.func22, Tryd.ntmps22
      go_wp2_with (at_builtin; refine wpList_append_own _ rfl (.tmp 36) (.tmp 39) 24 rfl w.heap.size 3 i0 (.int .i64 0) 1 8 Tryd.underlying24 hi hz0 hz1 hz2 rfl (by decide) (.slice none 0 0) 0 [] rfl (World.ownsRow_nil _ _ _ _) ⟨w.heap.size, 0, none⟩ 1 1 [.int .i64 (q : Int)] rfl rfl (cells_new _ [.int .i64 (q : Int)] _) (by simp [Value.oneCell']) hc3 (by omega) hsz ?_; intro v' w3 hown hgrow _; refine unstop ?_)
      unfold Stop
      have HB3 : Hid (Below w.heap.size w w3) := (nwA (nwR w) _).grown hgrow (nwA (nwR w) _).size (fun q e => by cases e)
      have HO3 : OwnInts w3 w.heap.size v' ([] ++ [(q : Int)]) := OwnInts.snoc hown
      obtain ⟨av, cv, rfl, hat, hcp⟩ := HO3.at
      have HAT : Hid (IntsAt w3 av [(q : Int)]) := hat
      have HCP : Hid (CapOk av cv 1) := hcp
      clear hown hgrow HO3 hat hcp
      go_wp2_with fail
      go_ret2
      exact ⟨⟨av, cv, by rw [← hR.out, HF.out]; rfl, by rw [HF.out]; exact HAT.out, by rw [HF.out]; exact HCP.out⟩, HB3.out⟩

end Go.Proofs.YtifbnojkjbjngaaDoor
