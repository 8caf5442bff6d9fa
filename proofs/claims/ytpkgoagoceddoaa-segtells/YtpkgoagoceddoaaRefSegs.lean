/- hermitageref1.Segs by its contract. -/
import Derived.Test.YtpkgoagoceddoaaParts
namespace Go.Proofs.Ytpkgoagoceddoaa
open Go.RowKit

theorem wrap_any {x : Int} (h0 : -1000000000000000000 ≤ x) (h1 : x ≤ 1000000000000000000) : IntKind.i64.wrap x = x := by
  rw [IntKind.wrap_i64]
  omega

/-- what the reference has seen ahead of round k: the lower end that the next segment must keep -/
def ahead (l : List (Int × Int)) (k : Nat) : Int := if k = 0 then 0 else (l.getD (k - 1) (0, 0)).1 + (l.getD (k - 1) (0, 0)).2 + 1

theorem vf_step {l : List (Int × Int)} {k : Nat} (hk : k < l.length) (hv : vOk l = validFrom (ahead l k) (l.drop k)) :
    vOk l = (mayB (l.getD k (0, 0)).1 (l.getD k (0, 0)).2 && !decide ((l.getD k (0, 0)).1 < ahead l k) && validFrom (ahead l (k + 1)) (l.drop (k + 1))) := by
  rw [hv, drop_getD hk]
  simp only [validFrom, ahead]
  simp

set_option maxRecDepth 100000 in
set_option maxHeartbeats 4000000 in
theorem refSegs_any (a : Option Addr) (l : List (Int × Int)) (cap : Nat) (w : World) (hs : SegsAt w a l) (hl : l.length ≤ 140737488351232) :
    Calls Try.prog 10 #[.slice a l.length cap] w fun e w' => e = .returned (.bool (vOk l)) ∧ Below w.heap.size w w' := by
  have HS : Hid (SegsAt w a l) := hs
  clear hs
  go_enter Try.func10, Try.ntmps10
  go_wp2_with fail
  go_loopw [3] (fun i wr => ∃ (k : Nat), k ≤ l.length ∧ i = .int .i64 k ∧ Below w.heap.size w wr ∧ Hid (vOk l = validFrom (ahead l k) (l.drop k)) ∧ Hid (∀ j, j < k → mayB (l.getD j (0, 0)).1 (l.getD j (0, 0)).2 = true))
    (fun i _ => l.length - (intOf i).toNat)
  case atStart => exact ⟨0, by omega, rfl, nwR w, rfl, fun j hj => by omega⟩
  case round =>
    obtain ⟨k, hk, rfl, hb, HV, HM⟩ := hrel
    by_cases hlt : k < l.length
    · have hki : (k : Int) < (l.length : Int) := by omega
      have hk0 : (0 : Int) ≤ (k : Int) := by omega
      have HST : Hid _ := vf_step hlt HV.out
      have HSS := HS.out.below hb (Nat.le_refl _)
      have HSS' : Hid (SegsAt wr a l) := HSS
      clear HSS
      obtain ⟨b, off, rfl, h1, h2⟩ := HSS'.out k hlt
      have HMK : Hid (mayB (l.getD k (0, 0)).1 (l.getD k (0, 0)).2 = true → ∀ j, j < k + 1 → mayB (l.getD j (0, 0)).1 (l.getD j (0, 0)).2 = true) := fun h j hj => by
        by_cases e : j = k
        · subst e; exact h
        · exact HM.out j (by omega)
      have HX : Hid (l.getD k (0, 0) = l.getD k (0, 0)) := rfl
      generalize hs : l.getD k (0, 0) = s at h1 h2 HST HMK
      clear hs HX
      obtain ⟨x, y⟩ := s
      simp only at h1 h2 HST HMK
      by_cases c1 : x < 0
      · have HF : Hid (vOk l = false) := by
          show _ = _
          rw [HST.out, show mayB x y = false from by simp [mayB]; omega]; rfl
        have d1 : decide (x < 0) = true := decide_eq_true c1
        go_wp2_with fail
        go_quiet (fail)
        go_wp2_with fail
        go_ret
        exact ⟨by rw [HF.out]; rfl, below_drewN hb _⟩
      · have d1 : decide (x < 0) = false := decide_eq_false c1
        by_cases c2 : y < 1
        · have HF : Hid (vOk l = false) := by
            show _ = _
            rw [HST.out, show mayB x y = false from by simp [mayB]; omega]; rfl
          have d2 : decide (y < 1) = true := decide_eq_true c2
          go_wp2_with fail
          go_quiet (fail)
          go_wp2_with fail
          go_ret
          exact ⟨by rw [HF.out]; rfl, below_drewN hb _⟩
        · have d2 : decide (y < 1) = false := decide_eq_false c2
          have hw4 : 0 ≤ x → x ≤ 64 → IntKind.i64.wrap (64 - x) = 64 - x := fun _ _ => wrap_any (by omega) (by omega)
          by_cases c3 : 64 < x
          · have HF : Hid (vOk l = false) := by
              show _ = _
              rw [HST.out, show mayB x y = false from by simp [mayB]; omega]; rfl
            have d3 : decide (64 < x) = true := decide_eq_true c3
            clear hw4
            go_wp2_with fail
            go_quiet (fail)
            go_wp2_with fail
            go_ret
            exact ⟨by rw [HF.out]; rfl, below_drewN hb _⟩
          · have d3 : decide (64 < x) = false := decide_eq_false c3
            have hw : IntKind.i64.wrap (64 - x) = 64 - x := hw4 (by omega) (by omega)
            clear hw4
            by_cases c4 : 64 - x < y
            · have HF : Hid (vOk l = false) := by
                show _ = _
                rw [HST.out, show mayB x y = false from by simp [mayB]; omega]; rfl
              have d4 : decide (64 - x < y) = true := decide_eq_true c4
              go_wp2_with fail
              go_quiet (fail)
              go_wp2_with fail
              go_ret
              exact ⟨by rw [HF.out]; rfl, below_drewN hb _⟩
            · have d4 : decide (64 - x < y) = false := decide_eq_false c4
              have HMY : Hid (mayB x y = true) := by show _ = _; simp [mayB]; omega
              by_cases c5 : k = 0
              · have d5 : decide (0 < k) = false := decide_eq_false (by omega)
                have HV2 : Hid (vOk l = validFrom (ahead l (k + 1)) (l.drop (k + 1))) := by
                  show _ = _
                  rw [HST.out, HMY.out, show ahead l k = 0 from by rw [ahead, if_pos c5], decide_eq_false c1]
                  simp
                clear HST c5
                go_wp2_with fail
                go_quiet (fail)
                go_wp2_with fail
                go_roundw
                case rel => exact ⟨k + 1, by omega, by go_num, below_drewN hb _, HV2, HMK.out HMY.out⟩
                case measure => simp [intOf]; omega
              · have d5 : decide (0 < k) = true := decide_eq_true (by omega)
                have d5' : 0 < k := by omega
                have HMP := mayB_of (HM.out (k - 1) (by omega))
                obtain ⟨b', off', hbo, h3, h4⟩ := HSS'.out (k - 1) (by omega)
                simp only [Option.some.injEq, Addr.mk.injEq, and_true] at hbo
                obtain ⟨rfl, rfl⟩ := hbo
                have HAH : Hid (ahead l k = (l.getD (k - 1) (0, 0)).1 + (l.getD (k - 1) (0, 0)).2 + 1) := by show _ = _; rw [ahead, if_neg c5]
                generalize l.getD (k - 1) (0, 0) = pq at h3 h4 HAH HMP
                obtain ⟨px, py⟩ := pq
                simp only at h3 h4 HAH HMP
                have hw1 : IntKind.i64.wrap ((k : Int) - 1) = ((k - 1 : Nat) : Int) := by rw [wrap_any (by omega) (by omega)]; omega
                have hj1 : ((k - 1 : Nat) : Int) < (l.length : Int) := by omega
                generalize k - 1 = j at h3 h4 hw1 hj1
                have hw2 : IntKind.i64.wrap (px + py) = px + py := wrap_any (by omega) (by omega)
                clear c5
                by_cases c6 : x ≤ px + py
                · have HF : Hid (vOk l = false) := by
                    show _ = _
                    rw [HST.out, HAH.out, decide_eq_true (show x < px + py + 1 by omega)]; simp
                  have d6 : decide (x ≤ px + py) = true := decide_eq_true c6
                  clear HST HAH
                  go_wp2_with fail
                  go_quiet (fail)
                  go_wp2_with fail
                  go_ret
                  exact ⟨by rw [HF.out]; rfl, below_drewN hb _⟩
                · have HV2 : Hid (vOk l = validFrom (ahead l (k + 1)) (l.drop (k + 1))) := by
                    show _ = _
                    rw [HST.out, HMY.out, HAH.out, decide_eq_false (show ¬ x < px + py + 1 by omega)]
                    simp
                  have d6 : decide (x ≤ px + py) = false := decide_eq_false c6
                  clear HST HAH
                  go_wp2_with fail
                  go_quiet (fail)
                  go_wp2_with fail
                  go_roundw
                  case rel => exact ⟨k + 1, by omega, by go_num, below_drewN hb _, HV2, HMK.out HMY.out⟩
                  case measure => simp [intOf]; omega
    · have HF : Hid (vOk l = true) := by
        show _ = _
        rw [HV.out, List.drop_of_length_le (by omega)]; rfl
      go_wp2_with fail
      go_ret
      exact ⟨by rw [HF.out]; rfl, hb⟩

end Go.Proofs.Ytpkgoagoceddoaa
