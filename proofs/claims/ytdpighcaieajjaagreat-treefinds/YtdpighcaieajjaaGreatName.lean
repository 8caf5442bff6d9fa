/- What a name is, by the page. -/
import Derived.Test.YtdpighcaieajjaaGreatLeaf
namespace Go.Proofs.YtdpighcaieajjaaGreat
open Go.RowKit

theorem byI_yes {n : Int} (h : (97 ≤ n ∧ n ≤ 122) ∨ (48 ≤ n ∧ n ≤ 57) ∨ n = 46 ∨ n = 95 ∨ n = 45) : byI n = true := by
  simp only [byI, Bool.or_eq_true, Bool.and_eq_true, decide_eq_true_eq]; omega
theorem byI_no {n : Int} (h : ¬ ((97 ≤ n ∧ n ≤ 122) ∨ (48 ≤ n ∧ n ≤ 57) ∨ n = 46 ∨ n = 95 ∨ n = 45)) : byI n = false := by
  cases e : byI n
  · rfl
  · simp only [byI, Bool.or_eq_true, Bool.and_eq_true, decide_eq_true_eq] at e; omega

set_option maxRecDepth 100000 in
set_option maxHeartbeats 1000000 in
theorem name_any (s : ByteArray) (w : World) :
    Calls Tryz.prog 49 #[.string s] w fun e w' => e = .returned (.bool (nm s)) ∧ w' = w := by
  by_cases hh : s.size < 1 ∨ 8 < s.size ∨ s.toList = [46] ∨ s.toList = [46, 46]
  · have HN : Hid (nm s = false) := nm_no hh
    rcases hh with h | h | h | h
    · have h1 : s.size = 0 := by omega
      go_enter Tryz.func49, Tryz.ntmps49
      go_wp2_with fail
      go_ret
      exact ⟨ret_bool (by rw [HN.out]), rfl⟩
    · have h1 : (8 : Int) < s.size := by omega
      have h2 : ¬ s.size = 0 := by omega
      go_enter Tryz.func49, Tryz.ntmps49
      go_wp2_with fail
      go_ret
      exact ⟨ret_bool (by rw [HN.out]), rfl⟩
    · have h1 : s.size = 1 := by rw [← ls_size, ls, ← Lib.toList_data, h]; rfl
      have h2 : (s.size : Int) = 1 := by omega
      go_enter Tryz.func49, Tryz.ntmps49
      go_wp2_with fail
      all_goals go_ret
      all_goals exact ⟨ret_bool (by rw [HN.out]), rfl⟩
    · have h1 : s.size = 2 := by rw [← ls_size, ls, ← Lib.toList_data, h]; rfl
      have h2 : (s.size : Int) = 2 := by omega
      have h3 : ¬ s.toList = [46] := by rw [h]; decide
      go_enter Tryz.func49, Tryz.ntmps49
      go_wp2_with fail
      all_goals go_ret
      all_goals exact ⟨ret_bool (by rw [HN.out]), rfl⟩
  · have h1 : ¬ s.size < 1 := fun h => hh (.inl h)
    have h2 : ¬ 8 < s.size := fun h => hh (.inr (.inl h))
    have h3 : ¬ s.toList = [46] := fun h => hh (.inr (.inr (.inl h)))
    have h4 : ¬ s.toList = [46, 46] := fun h => hh (.inr (.inr (.inr h)))
    have HN : Hid (nm s = okTo s s.size) := nm_yes h1 h2 h3 h4
    have g1 : ¬ s.size = 0 := by omega
    have g2 : ¬ (8 : Int) < s.size := by omega
    have g3 : (s.toList == [46]) = false := by simpa using h3
    have g4 : (s.toList == [46, 46]) = false := by simpa using h4
    clear hh h3 h4
    go_enter Tryz.func49, Tryz.ntmps49
    go_wp2_with fail
    go_loop [3] (fun i => ∃ k : Nat, k ≤ s.size ∧ i = .int .i64 k ∧ okTo s k = true) (fun i => s.size - (intOf i).toNat)
    case atStart => exact ⟨0, Nat.zero_le _, rfl, by simp [okTo]⟩
    case round =>
      obtain ⟨k, hk, rfl, hok⟩ := hrel
      have HO : Hid (okTo s k = true) := hok
      clear hok
      by_cases hlt : k < s.size
      · have HS : Hid (okTo s (k + 1) = (okTo s k && byI s[k].toNat)) := okTo_succ s k hlt
        have HY : Hid (byI s[k].toNat = true → okTo s (k + 1) = true) := fun hb => by rw [HS.out, HO.out, hb]; rfl
        have HX : Hid (byI s[k].toNat = false → nm s = false) := fun hb => by rw [HN.out, okTo_le s (k := k + 1) hlt (by rw [HS.out, hb]; simp)]
        by_cases a1 : 97 ≤ (s[k].toNat : Int)
        · by_cases a2 : (s[k].toNat : Int) ≤ 122
          · go_wp2_with fail
            go_round
            case rel => exact ⟨k + 1, hlt, by go_num, HY.out (byI_yes (by omega))⟩
            case measure => simp [intOf]; omega
          · have a3 : ¬ (s[k].toNat : Int) ≤ 57 := by omega
            have a4 : ¬ (s[k].toNat : Int) = 46 := by omega
            have a5 : ¬ (s[k].toNat : Int) = 95 := by omega
            have a6 : ¬ (s[k].toNat : Int) = 45 := by omega
            have a7 : 48 ≤ (s[k].toNat : Int) := by omega
            have HX2 : Hid (nm s = false) := HX.out (byI_no (by omega))
            have b2 : ((s[k].toNat : Int) == 46) = false := by simpa using a4
            have b3 : ((s[k].toNat : Int) == 95) = false := by simpa using a5
            have b4 : ((s[k].toNat : Int) == 45) = false := by simpa using a6
            go_wp2_with fail
            go_ret
            exact ⟨ret_bool HX2.out.symm, rfl⟩
        · by_cases a7 : 48 ≤ (s[k].toNat : Int)
          · by_cases a3 : (s[k].toNat : Int) ≤ 57
            · go_wp2_with fail
              go_round
              case rel => exact ⟨k + 1, hlt, by go_num, HY.out (byI_yes (by omega))⟩
              case measure => simp [intOf]; omega
            · have a8 : ¬ (s[k].toNat : Int) = 46 := by omega
              by_cases a4 : (s[k].toNat : Int) = 46
              · go_wp2_with fail
                go_round
                case rel => exact ⟨k + 1, hlt, by go_num, HY.out (byI_yes (by omega))⟩
                case measure => simp [intOf]; omega
              · by_cases a5 : (s[k].toNat : Int) = 95
                · have b2 : ((s[k].toNat : Int) == 46) = false := by simpa using a4
                  go_wp2_with fail
                  go_round
                  case rel => exact ⟨k + 1, hlt, by go_num, HY.out (byI_yes (by omega))⟩
                  case measure => simp [intOf]; omega
                · by_cases a6 : (s[k].toNat : Int) = 45
                  · have b2 : ((s[k].toNat : Int) == 46) = false := by simpa using a4
                    have b3 : ((s[k].toNat : Int) == 95) = false := by simpa using a5
                    go_wp2_with fail
                    go_round
                    case rel => exact ⟨k + 1, hlt, by go_num, HY.out (byI_yes (by omega))⟩
                    case measure => simp [intOf]; omega
                  · have HX2 : Hid (nm s = false) := HX.out (byI_no (by omega))
                    have b2 : ((s[k].toNat : Int) == 46) = false := by simpa using a4
                    have b3 : ((s[k].toNat : Int) == 95) = false := by simpa using a5
                    have b4 : ((s[k].toNat : Int) == 45) = false := by simpa using a6
                    go_wp2_with fail
                    go_ret
                    exact ⟨ret_bool HX2.out.symm, rfl⟩
          · by_cases a4 : (s[k].toNat : Int) = 46
            · go_wp2_with fail
              go_round
              case rel => exact ⟨k + 1, hlt, by go_num, HY.out (byI_yes (by omega))⟩
              case measure => simp [intOf]; omega
            · by_cases a5 : (s[k].toNat : Int) = 95
              · have b2 : ((s[k].toNat : Int) == 46) = false := by simpa using a4
                go_wp2_with fail
                go_round
                case rel => exact ⟨k + 1, hlt, by go_num, HY.out (byI_yes (by omega))⟩
                case measure => simp [intOf]; omega
              · by_cases a6 : (s[k].toNat : Int) = 45
                · have b2 : ((s[k].toNat : Int) == 46) = false := by simpa using a4
                  have b3 : ((s[k].toNat : Int) == 95) = false := by simpa using a5
                  go_wp2_with fail
                  go_round
                  case rel => exact ⟨k + 1, hlt, by go_num, HY.out (byI_yes (by omega))⟩
                  case measure => simp [intOf]; omega
                · have HX2 : Hid (nm s = false) := HX.out (byI_no (by omega))
                  have b2 : ((s[k].toNat : Int) == 46) = false := by simpa using a4
                  have b3 : ((s[k].toNat : Int) == 95) = false := by simpa using a5
                  have b4 : ((s[k].toNat : Int) == 45) = false := by simpa using a6
                  go_wp2_with fail
                  go_ret
                  exact ⟨ret_bool HX2.out.symm, rfl⟩
      · have hke : k = s.size := by omega
        go_wp2_with fail
        go_ret
        refine ⟨ret_bool ?_, rfl⟩
        rw [HN.out, ← hke, HO.out]

end Go.Proofs.YtdpighcaieajjaaGreat
