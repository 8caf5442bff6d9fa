/- EqSegs by a second contract: it draws, and does nothing else to the world. -/
import Derived.Test.YtpkgoagoceddoaaTellC
namespace Go.Proofs.Ytpkgoagoceddoaa
open Go.RowKit

theorem drewN_two (w : World) (t n : Nat) : (w.drewN t).drewN n = w.drewN (t + n) := by
  simp [World.drewN, Nat.add_assoc]

set_option maxHeartbeats 400000 in
theorem eqSegs_q (a b : Option Addr) (l m : List (Int × Int)) (ca cb : Nat) (w : World) (ha : SegsAt w a l) (hb : SegsAt w b m) (hl : l.length ≤ maxLen) :
    Calls Try.prog 18 #[.slice a l.length ca, .slice b m.length cb] w fun e w' => e = .returned (.bool (decide (l = m))) ∧ ∃ t, w' = w.drewN t := by
  unfold maxLen at hl
  have HA : Hid (SegsAt w a l) := ha
  have HB : Hid (SegsAt w b m) := hb
  clear ha hb
  by_cases hlen : l.length = m.length
  · have hlen' : ((l.length : Int) != (m.length : Int)) = false := by simp [hlen]
    have HL : Hid (l.length = m.length) := hlen
    clear hlen
    go_enter Try.func18, Try.ntmps18
    go_wp2_with fail
    go_loopw [5] (fun i wr => ∃ (k : Nat), k ≤ l.length ∧ i = .int .i64 k ∧ (∃ t, wr = w.drewN t) ∧ Hid (∀ j, j < k → l.getD j (0, 0) = m.getD j (0, 0)))
      (fun i _ => l.length - (intOf i).toNat)
    case atStart => exact ⟨0, by omega, rfl, ⟨0, rfl⟩, fun j hj => by omega⟩
    case round =>
      obtain ⟨k, hk, rfl, ⟨t, rfl⟩, HE⟩ := hrel
      by_cases hlt : k < l.length
      · have hltm : k < m.length := by have := HL.out; omega
        obtain ⟨b1, o1, rfl, x1, y1⟩ := HA.out k hlt
        obtain ⟨b2, o2, rfl, x2, y2⟩ := HB.out k hltm
        by_cases he : l.getD k (0, 0) = m.getD k (0, 0)
        · rw [← he] at x2 y2
          generalize l.getD k (0, 0) = s at x1 y1 x2 y2
          obtain ⟨x, y⟩ := s
          have HEE : Hid (l.getD k (0, 0) = m.getD k (0, 0)) := he
          clear he
          go_wp2_with fail
          go_quiet (fail)
          go_wp2_with fail
          go_roundw
          case rel => exact ⟨k + 1, by omega, by go_num, ⟨_, rfl⟩, fun j hj => by
            by_cases e : j = k
            · subst e; exact HEE.out
            · exact HE.out j (by omega)⟩
          case measure => simp [intOf]; omega
        · have HF : Hid (decide (l = m) = false) := decide_eq_false (fun e => he (by rw [e]))
          generalize l.getD k (0, 0) = s at x1 y1 he
          generalize m.getD k (0, 0) = t at x2 y2 he
          obtain ⟨x, y⟩ := s
          obtain ⟨x', y'⟩ := t
          by_cases hx : x = x'
          · subst hx
            have hy : (y == y') = false := by
              rw [beq_eq_false_iff_ne]; intro e; exact he (by rw [e])
            clear he
            go_wp2_with fail
            go_quiet (fail)
            go_wp2_with fail
            go_ret
            exact ⟨by rw [HF.out]; rfl, ⟨_, drewN_two _ _ _⟩⟩
          · have hx' : (x == x') = false := by
              rw [beq_eq_false_iff_ne]; exact hx
            clear he hx
            go_wp2_with fail
            go_quiet (fail)
            go_wp2_with fail
            go_ret
            exact ⟨by rw [HF.out]; rfl, ⟨_, drewN_two _ _ _⟩⟩
      · have HF : Hid (decide (l = m) = true) := decide_eq_true (eq_upto HL.out (fun i hi => HE.out i (by omega)))
        go_wp2_with fail
        go_ret
        exact ⟨by rw [HF.out]; rfl, ⟨_, rfl⟩⟩
  · have hlen' : ((l.length : Int) != (m.length : Int)) = true := by rw [bne_iff_ne]; omega
    have HF : Hid (decide (l = m) = false) := decide_eq_false (fun e => hlen (by rw [e]))
    clear hlen
    go_enter Try.func18, Try.ntmps18
    go_wp2_with fail
    go_ret
    exact ⟨by rw [HF.out]; rfl, ⟨0, rfl⟩⟩

theorem eqSegs_sq (a b : Option Addr) (l : List (Int × Int)) (ca cb : Nat) (w : World) (ha : SegsAt w a l) (hb : SegsAt w b l) (hl : l.length ≤ maxLen) :
    Calls Try.prog 18 #[.slice a l.length ca, .slice b l.length cb] w fun e w' => e = .returned (.bool true) ∧ ∃ t, w' = w.drewN t := by
  have h := eqSegs_q a b l l ca cb w ha hb hl
  rw [decide_eq_true (rfl : l = l)] at h
  exact h
theorem num2_is (n most : Int) (w : World) (b : Bool) (h : numB n most = b) : Calls Try.prog 21 #[.int .i64 n, .int .i64 most] w fun e w' => e = .returned (.bool b) ∧ w' = w := by
  have h2 := num2_any n most w
  rw [h] at h2
  exact h2

end Go.Proofs.Ytpkgoagoceddoaa
