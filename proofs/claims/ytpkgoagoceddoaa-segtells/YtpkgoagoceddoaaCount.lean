/- seg.Count, seg.List, seg.Of by their contracts. -/
import Derived.Test.YtpkgoagoceddoaaLess
namespace Go.Proofs.Ytpkgoagoceddoaa
open Go.RowKit

def sumLen : List (Int × Int) → Int
  | [] => 0
  | s :: r => s.2 + sumLen r

theorem sumLen_snoc (l : List (Int × Int)) (s : Int × Int) : sumLen (l ++ [s]) = sumLen l + s.2 := by
  induction l with
  | nil => simp [sumLen]
  | cons a r ih => simp [sumLen, ih]; omega

theorem sumLen_bd : ∀ (l : List (Int × Int)) (m : Int) (k : Nat), validFrom m l = true → 0 ≤ sumLen (l.take k) ∧ (sumLen (l.take k) = 0 ∨ sumLen (l.take k) ≤ 64 - m)
  | [], _, _, _ => by simp [sumLen]
  | s :: r, m, 0, _ => by simp [sumLen]
  | s :: r, m, k + 1, h => by
    simp only [validFrom, Bool.and_eq_true, Bool.not_eq_true', decide_eq_false_iff_not] at h
    obtain ⟨⟨h1, h2⟩, h3⟩ := h
    have hm := mayB_of h1
    have ih := sumLen_bd r _ k h3
    simp only [List.take_succ_cons, sumLen]
    omega

def cntOf (l : List (Int × Int)) : Int := if vOk l then sumLen l else 0

set_option maxHeartbeats 400000 in
theorem count_any (a : Option Addr) (l : List (Int × Int)) (cap : Nat) (w : World) (hs : SegsAt w a l) (hl : l.length ≤ maxLen) :
    Calls Try.prog 11 #[.slice a l.length cap] w fun e w' => e = .returned (.tuple #[.int .i64 (cntOf l), .int .i64 (errOf (vOk l))]) ∧ Below w.heap.size w w' := by
  have HS : Hid (SegsAt w a l) := hs
  clear hs
  cases hv : vOk l
  · go_enter Try.func11, Try.ntmps11
    go_wp2_with fail
    refine (check_any a l cap _ HS.out hl).mono ?_
    rintro e w1 ⟨rfl, hb1⟩
    rw [show validFrom 0 l = false from hv, show errOf false = 1 from rfl]
    go_wp2_with fail
    go_ret2
    exact ⟨by rw [cntOf, hv]; rfl, hb1⟩
  · have HB : Hid (∀ k, 0 ≤ sumLen (l.take k) ∧ sumLen (l.take k) ≤ 64) := fun k => by have := sumLen_bd l 0 k hv; omega
    have hl' := hl
    unfold maxLen at hl'
    go_enter Try.func11, Try.ntmps11
    go_wp2_with fail
    refine (check_any a l cap _ HS.out hl).mono ?_
    rintro e w1 ⟨rfl, hb1⟩
    rw [show validFrom 0 l = true from hv, show errOf true = 0 from rfl]
    go_wp2_with fail
    go_loopw [5, 15] (fun n i wr => ∃ (k : Nat), k ≤ l.length ∧ i = .int .i64 k ∧ n = .int .i64 (sumLen (l.take k)) ∧ Below w.heap.size w wr)
      (fun _ i _ => l.length - (intOf i).toNat)
    case atStart => exact ⟨0, by omega, rfl, rfl, hb1⟩
    case round =>
      obtain ⟨k, hk, rfl, rfl, hb⟩ := hrel
      by_cases hlt : k < l.length
      · obtain ⟨b, off, rfl, h1, h2⟩ := (HS.out.below hb (Nat.le_refl _)) k hlt
        have HT : Hid (sumLen (l.take (k + 1)) = sumLen (l.take k) + (l.getD k (0, 0)).2) := by
          show _ = _
          rw [take_snocD l (0, 0) k hlt, sumLen_snoc]
        have hb0 := HB.out k
        have hb2 : 0 ≤ sumLen (l.take k) + (l.getD k (0, 0)).2 ∧ sumLen (l.take k) + (l.getD k (0, 0)).2 ≤ 64 := by rw [← HT.out]; exact HB.out (k + 1)
        generalize l.getD k (0, 0) = s at h1 h2 HT hb2
        obtain ⟨x, y⟩ := s
        simp only at h1 h2 HT hb2
        generalize sumLen (l.take k) = q at HT hb0 hb2
        go_wp2_with fail
        go_roundw
        case rel => exact ⟨k + 1, by omega, by go_num, by rw [HT.out], nwA hb _⟩
        case measure => simp [intOf]; omega
      · have hk' : k = l.length := by omega
        subst hk'
        go_wp2_with fail
        go_ret2
        exact ⟨by rw [cntOf, hv, List.take_length]; rfl, hb⟩

end Go.Proofs.Ytpkgoagoceddoaa
