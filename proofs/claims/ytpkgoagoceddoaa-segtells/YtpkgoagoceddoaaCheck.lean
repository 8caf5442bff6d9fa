/- seg.Check by its contract. -/
import Derived.Test.YtpkgoagoceddoaaLeaf
namespace Go.Proofs.Ytpkgoagoceddoaa
open Go.RowKit

def validFrom (least : Int) : List (Int × Int) → Bool
  | [] => true
  | s :: r => mayB s.1 s.2 && !decide (s.1 < least) && validFrom (s.1 + s.2 + 1) r

def SegsAt (w : World) (a : Option Addr) (l : List (Int × Int)) : Prop :=
  ∀ i, i < l.length → ∃ b off, a = some ⟨b, off, none⟩ ∧ w.cell? ⟨b, off + i * 2, none⟩ = some (.int .i64 (l.getD i (0, 0)).1) ∧
    w.cell? ⟨b, off + i * 2 + 1, none⟩ = some (.int .i64 (l.getD i (0, 0)).2)

theorem SegsAt.below {w w' : World} {a : Option Addr} {l : List (Int × Int)} (h : SegsAt w a l) {B : Nat} (hb : Below B w w') (hB : w.heap.size ≤ B) : SegsAt w' a l := by
  intro i hi
  obtain ⟨b, off, ha, h1, h2⟩ := h i hi
  have hlt : b < w.heap.size := block_lt_of_cell h1
  exact ⟨b, off, ha, (hb.cell (p := ⟨b, _, none⟩) (by show b < B; omega)).trans h1, (hb.cell (p := ⟨b, _, none⟩) (by show b < B; omega)).trans h2⟩

theorem drop_getD {l : List (Int × Int)} {k : Nat} (h : k < l.length) : l.drop k = l.getD k (0, 0) :: l.drop (k + 1) := by
  rw [List.drop_eq_getElem_cons h]; simp [h]

theorem mayB_of {x y : Int} (h : mayB x y = true) : 0 ≤ x ∧ x < 64 ∧ 1 ≤ y ∧ y ≤ 64 - x := by
  simpa [mayB, and_assoc] using h

theorem bcell {W w1 : World} (hb : Below W.heap.size W w1) : (∀ b o, b < W.heap.size → w1.cell? ⟨b, o, none⟩ = W.cell? ⟨b, o, none⟩) ∧ (∀ b o, b < W.heap.size → w1.frozen? ⟨b, o, none⟩ = W.frozen? ⟨b, o, none⟩) :=
  ⟨fun b o h => hb.cell (p := ⟨b, o, none⟩) h, fun b o h => hb.frozen (p := ⟨b, o, none⟩) h⟩

def errOf (b : Bool) : Int := if b then 0 else 1

set_option maxHeartbeats 400000 in
theorem check_any (a : Option Addr) (l : List (Int × Int)) (cap : Nat) (w : World) (hs : SegsAt w a l) (hl : l.length ≤ maxLen) :
    Calls Try.prog 16 #[.slice a l.length cap] w fun e w' => e = .returned (.int .i64 (errOf (validFrom 0 l))) ∧ Below w.heap.size w w' := by
  unfold maxLen at hl
  go_enter Try.func16, Try.ntmps16
  go_wp2
  go_loopw [3, 9] (fun t i wr => ∃ (k : Nat) (m : Int), k ≤ l.length ∧ i = .int .i64 k ∧ t = .int .i64 m ∧ 0 ≤ m ∧ m ≤ 65 ∧ Hid (validFrom 0 l = validFrom m (l.drop k)) ∧ Below w.heap.size w wr)
    (fun _ i _ => l.length - (intOf i).toNat)
  case atStart => exact ⟨0, 0, Nat.zero_le _, rfl, rfl, by omega, by omega, rfl, Below.refl _ _⟩
  case round =>
    obtain ⟨k, m, hk, rfl, rfl, hm0, hm1, HV, hb⟩ := hrel
    by_cases hlt : k < l.length
    · have hs' := hs.below hb (Nat.le_refl _)
      obtain ⟨b, off, rfl, h1, h2⟩ := hs' k hlt
      have HD : Hid (l.drop k = l.getD k (0, 0) :: l.drop (k + 1)) := drop_getD hlt
      clear hs hs'
      generalize hq : l.getD k (0, 0) = s at h1 h2 HD
      clear hq
      obtain ⟨x, y⟩ := s
      cases hm : mayB x y
      · have HF : Hid (validFrom 0 l = false) := by
          show validFrom 0 l = false
          rw [HV.out, HD.out]; simp [validFrom, hm]
        go_wp2_with fail
        refine (mayBe_any _ _ _).mono ?_
        rintro e w1 ⟨rfl, hb1⟩
        rw [hm]
        obtain ⟨hc, hf⟩ := bcell hb1
        go_wp2_with fail
        go_ret
        exact ⟨by rw [HF.out]; rfl, nwT (nwA (nwA hb _) _) hb1⟩
      · obtain ⟨m0, m1, m2, m3⟩ := mayB_of hm
        by_cases hx : x < m
        · have HF : Hid (validFrom 0 l = false) := by
            show validFrom 0 l = false
            rw [HV.out, HD.out]; simp [validFrom, hx]
          go_wp2_with fail
          refine (mayBe_any _ _ _).mono ?_
          rintro e w1 ⟨rfl, hb1⟩
          rw [hm]
          obtain ⟨hc, hf⟩ := bcell hb1
          go_wp2_with fail
          go_ret
          exact ⟨by rw [HF.out]; rfl, nwT (nwA (nwA hb _) _) hb1⟩
        · have HN : Hid (validFrom 0 l = validFrom (x + y + 1) (l.drop (k + 1))) := by
            show validFrom 0 l = _
            rw [HV.out, HD.out]; simp [validFrom, hm]; omega
          go_wp2_with fail
          refine (mayBe_any _ _ _).mono ?_
          rintro e w1 ⟨rfl, hb1⟩
          rw [hm]
          obtain ⟨hc, hf⟩ := bcell hb1
          go_wp2_with fail
          refine (end_any _ _ _ (by omega) (by omega) (by omega) (by omega)).mono ?_
          rintro e w2 ⟨rfl, hb2⟩
          go_wp2_with fail
          go_roundw
          case rel => exact ⟨k + 1, x + y + 1, by omega, by go_num, by go_num, by omega, by omega, HN, nwT (nwT (nwA (nwA hb _) _) hb1) hb2⟩
          case measure => simp [intOf]; omega
    · have hkl : k = l.length := by omega
      have HF : Hid (validFrom 0 l = true) := by
        show validFrom 0 l = true
        rw [HV.out, List.drop_of_length_le (by omega)]; rfl
      go_wp2
      go_ret
      exact ⟨by rw [HF.out]; rfl, hb⟩

end Go.Proofs.Ytpkgoagoceddoaa
