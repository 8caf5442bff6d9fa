/- Pieces by the page. -/
import Derived.Test.YtifbnojkjbjngaaDoorRjoin
namespace Go.Proofs.YtifbnojkjbjngaaDoor
open Go.RowKit

theorem numB_w (n most : Int) (b : Bool) (w : World) (h : numB n most = b) : Calls Tryd.prog 19 #[.int .i64 n, .int .i64 most] w fun e w' => e = .returned (.bool b) ∧ w = w' := by
  subst h
  exact (num_in n most w).mono fun _ _ h => ⟨h.1, h.2.symm⟩
theorem byte_zero {s : ByteArray} {i : Nat} (hi : i < s.size) : ((s[i].toNat : Int) != 0) = !decide ((ls s)[i]'(by rw [ls_size]; exact hi) = 0) := by
  have e : (ls s)[i]'(by rw [ls_size]; exact hi) = s[i] := rfl
  rw [e]
  by_cases h : s[i] = 0
  · rw [h]; rfl
  · have : ¬ (s[i].toNat : Int) = 0 := fun e => h (UInt8.toNat_inj.1 (by simpa using e))
    rw [decide_eq_false h, Bool.not_false, bne_iff_ne]; exact this

set_option maxRecDepth 100000 in
set_option maxHeartbeats 2000000 in
theorem rpieces_any (a : Option Addr) (xs : List ByteArray) (ca : Nat) (n : Int) (w : World) (hx : StrsAt w a xs) (hl : xs.length ≤ 1000000) :
    Calls Tryd.prog 15 #[.int .i64 n, .slice a xs.length ca] w fun e w' => e = .returned (.bool (mayB n xs)) ∧ w' = w := by
  cases hN : numB n 200
  · have HM : Hid (mayB n xs = false) := by
      by_cases h0 : 0 ≤ n
      · exact mayB_no2 (fun h => by unfold numB at hN; rw [decide_eq_true h0, decide_eq_true h] at hN; cases hN)
      · exact mayB_no1 h0
    go_enter Tryd.func15, Tryd.ntmps15
    go_wp2_with (go_at_call 19; refine (numB_w _ _ false _ hN).mono ?_; rintro e w' ⟨rfl, rfl⟩)
    go_ret
    exact ⟨ret_bool HM.out.symm, rfl⟩
  · obtain ⟨hn0, hn1⟩ : 0 ≤ n ∧ n ≤ 200 := by simpa [numB] using hN
    by_cases h2 : (xs.length : Int) = (n + 31) / 32
    case neg =>
      have HM : Hid (mayB n xs = false) := mayB_no3 h2
      have h2b : ((xs.length : Int) != (n + 31) / 32) = true := by rw [bne_iff_ne]; exact h2
      clear h2
      go_enter Tryd.func15, Tryd.ntmps15
      go_wp2_with (first
        | (go_at_call 19; refine (numB_w _ _ true _ hN).mono ?_; rintro e w' ⟨rfl, rfl⟩)
        | (go_at_call 29; refine (many_w _ _ (by omega) (by omega)).mono ?_; rintro e w' ⟨rfl, rfl⟩))
      go_ret
      exact ⟨ret_bool HM.out.symm, rfl⟩
    case pos =>
      have h2b : ((xs.length : Int) != (n + 31) / 32) = false := by rw [h2]; simp
      have H2 : Hid ((xs.length : Int) = (n + 31) / 32) := h2
      have HX : Hid (StrsAt w a xs) := hx
      have hl7 : xs.length ≤ 7 := by omega
      clear h2 hx
      go_enter Tryd.func15, Tryd.ntmps15
      go_wp2_with (first
        | (go_at_call 19; refine (numB_w _ _ true _ hN).mono ?_; rintro e w' ⟨rfl, rfl⟩)
        | (go_at_call 29; refine (many_w _ _ (by omega) (by omega)).mono ?_; rintro e w' ⟨rfl, rfl⟩))
      go_loop [5] (fun i => ∃ (k : Nat), k ≤ xs.length ∧ i = .int .i64 k ∧ Hid (evenTo xs k = true)) (fun i => xs.length - (intOf i).toNat)
      case atStart => exact ⟨0, by omega, rfl, rfl⟩
      case round =>
        obtain ⟨k, hk, rfl, HE⟩ := hrel
        by_cases hkl : k < xs.length
        · have hkli : (k : Int) < (xs.length : Int) := by omega
          obtain ⟨b1, o1, rfl, hc⟩ := HX.out.cell hkl
          have HS := evenTo_succ hkl
          by_cases h32 : (xs.getD k ByteArray.empty).size = 32
          · have HS' : Hid (evenTo xs (k + 1) = true) := by show _ = _; rw [HS, HE.out, decide_eq_true h32]; rfl
            have h32i : (((xs.getD k ByteArray.empty).size : Int) != 32) = false := by rw [h32]; rfl
            clear HS h32
            generalize xs.getD k ByteArray.empty = x at hc h32i
            go_wp2_with fail
            go_round
            case rel => exact ⟨k + 1, by omega, by go_num, HS'⟩
            case measure => simp [intOf]; omega
          · have HM : Hid (mayB n xs = false) := mayB_no4 (even_no hkl h32)
            have h32i : (((xs.getD k ByteArray.empty).size : Int) != 32) = true := by rw [bne_iff_ne]; omega
            clear HS h32
            generalize xs.getD k ByteArray.empty = x at hc h32i
            go_wp2_with fail
            go_ret
            exact ⟨ret_bool HM.out.symm, rfl⟩
        · have hkli : ¬ (k : Int) < (xs.length : Int) := by omega
          have hev : evenB xs = true := by have := HE.out; unfold evenTo at this; rw [List.take_of_length_le (by omega)] at this; exact this
          have hMY := mayB_yes hn0 hn1 H2.out hev
          by_cases hpos : 0 < xs.length
          case neg =>
            have HM : Hid (mayB n xs = true) := by
              show _ = _
              have hx0 : xs = [] := List.length_eq_zero_iff.1 (by omega)
              rw [hMY, hx0, cat_nil, List.drop_nil]; rfl
            have hposi : ¬ (0 : Int) < (xs.length : Int) := by omega
            clear hMY
            go_wp2_with fail
            go_ret
            exact ⟨ret_bool HM.out.symm, rfl⟩
          case pos =>
            have hposi : (0 : Int) < (xs.length : Int) := by omega
            have hll : xs.length - 1 < xs.length := by omega
            have hnm : xs.length = many n.toNat := by have := H2.out; unfold many; omega
            have hls32 := evenB_mem hev (xs.getD (xs.length - 1) ByteArray.empty) (by simp [List.getD, hll])
            rw [zeroB_last hev hpos hnm] at hMY
            obtain ⟨b1, o1, rfl, hc⟩ := HX.out.cell hll
            generalize xs.getD (xs.length - 1) ByteArray.empty = x at hc hls32 hMY
            have HMY : Hid (mayB n xs = zeroB ((ls x).drop (n.toNat - (xs.length - 1) * 32))) := hMY
            obtain ⟨p, hp⟩ : ∃ p : Nat, (xs.length : Int) - 1 = (p : Int) := ⟨xs.length - 1, by omega⟩
            have hp2 : xs.length - 1 = p := by omega
            rw [hp2] at hc HMY
            obtain ⟨r, hr⟩ : ∃ r : Nat, n.toNat - p * 32 = r := ⟨_, rfl⟩
            rw [hr] at HMY
            have hri : n - (p : Int) * 32 = (r : Int) := by have := H2.out; omega
            have hpx : (p : Int) < (xs.length : Int) := by omega
            have hx1 : x.size ≤ 32 := by omega
            have hx2 : 32 ≤ x.size := by omega
            have hr32 : r ≤ 32 := by have := H2.out; omega
            clear hMY hls32 hev hp2 hr hnm hll
            go_wp2_with fail
            go_loop [7] (fun i => ∃ (k : Nat), r ≤ k ∧ k ≤ 32 ∧ i = .int .i64 k ∧ Hid (∀ i, r ≤ i → i < k → (hi : i < (ls x).length) → (ls x)[i] = 0)) (fun i => 32 - (intOf i).toNat)
            case atStart => exact ⟨r, by omega, by omega, rfl, fun i h1 h2 => by omega⟩
            case round =>
              obtain ⟨j, hj1, hj2, rfl, HZ⟩ := hrel
              by_cases hj3 : (j : Int) < 32
              · have hjx : j < x.size := by omega
                have hb0 := byte_zero hjx
                by_cases hz : (ls x)[j]'(by rw [ls_size]; exact hjx) = 0
                · rw [decide_eq_true hz] at hb0
                  have HZ' : Hid (∀ i, r ≤ i → i < j + 1 → (hi : i < (ls x).length) → (ls x)[i] = 0) := fun i h1 h2 h3 => by
                    by_cases e : i = j
                    · subst e; exact hz
                    · exact HZ.out i h1 (by omega) h3
                  clear hz
                  simp only [Bool.not_true] at hb0
                  go_wp2_with fail
                  go_round
                  case rel => exact ⟨j + 1, by omega, by omega, by go_num, HZ'⟩
                  case measure => simp [intOf]; omega
                · have HM : Hid (mayB n xs = false) := by show _ = _; rw [HMY.out]; exact zeroB_no hj1 (by rw [ls_size]; exact hjx) hz
                  rw [decide_eq_false hz] at hb0
                  clear hz
                  simp only [Bool.not_false] at hb0
                  go_wp2_with fail
                  go_ret
                  exact ⟨ret_bool HM.out.symm, rfl⟩
              · have HM : Hid (mayB n xs = true) := by
                  show _ = _; rw [HMY.out]
                  exact zeroB_yes (fun i h1 h2 => HZ.out i h1 (by rw [ls_size] at h2; omega) h2)
                go_wp2_with fail
                go_ret
                exact ⟨ret_bool HM.out.symm, rfl⟩

end Go.Proofs.YtifbnojkjbjngaaDoor
