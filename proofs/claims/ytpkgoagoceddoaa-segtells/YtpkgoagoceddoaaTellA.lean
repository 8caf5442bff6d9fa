/- seg.Has; the reference's Num, Ends, Has, Not, List, Count; EqNumbers: by their contracts. -/
import Derived.Test.YtpkgoagoceddoaaRefTwo
import Derived.Test.YtpkgoagoceddoaaNots
namespace Go.Proofs.Ytpkgoagoceddoaa
open Go.RowKit

def inSegI (s : Int × Int) (n : Int) : Bool := decide (s.1 ≤ n ∧ n < s.1 + s.2)
def hasI (l : List (Int × Int)) (n : Int) : Bool := l.any fun s => inSegI s n

set_option maxHeartbeats 400000 in
theorem runHas_any (x y n : Int) (w : World) (h0 : 0 ≤ x) (h1 : x ≤ 64) (h2 : 0 ≤ y) (h3 : y ≤ 64) :
    Calls Try.prog 36 #[.agg #[.int .i64 x, .int .i64 y], .int .i64 n] w fun e w' => e = .returned (.bool (inSegI (x, y) n)) ∧ Below w.heap.size w w' := by
  unfold inSegI
  by_cases c1 : x ≤ n
  · go_enter Try.func36, Try.ntmps36
    go_wp2_with fail
    refine (end_any _ _ _ h0 h1 h2 h3).mono ?_
    rintro e w1 ⟨rfl, hb1⟩
    go_wp2_with fail
    go_ret
    exact ⟨by simp [c1], nwT (nwA (nwR w) _) hb1⟩
  · go_enter Try.func36, Try.ntmps36
    go_wp2_with fail
    go_ret
    exact ⟨by simp; omega, nwA (nwR w) _⟩

set_option maxHeartbeats 400000 in
theorem has_any (a : Option Addr) (l : List (Int × Int)) (cap : Nat) (n : Int) (w : World) (hs : SegsAt w a l) (hl : l.length ≤ maxLen) :
    Calls Try.prog 19 #[.slice a l.length cap, .int .i64 n] w fun e w' => e = .returned (.tuple #[.bool (vOk l && hasI l n), .int .i64 (errOf (vOk l))]) ∧ Below w.heap.size w w' := by
  have HS : Hid (SegsAt w a l) := hs
  clear hs
  cases hv : vOk l
  · go_enter Try.func19, Try.ntmps19
    go_wp2_with fail
    refine (check_any a l cap _ HS.out hl).mono ?_
    rintro e w1 ⟨rfl, hb1⟩
    rw [show validFrom 0 l = false from hv, show errOf false = 1 from rfl]
    go_wp2_with fail
    go_ret2
    exact ⟨rfl, hb1⟩
  · have hl' := hl
    unfold maxLen at hl'
    go_enter Try.func19, Try.ntmps19
    go_wp2_with fail
    refine (check_any a l cap _ HS.out hl).mono ?_
    rintro e w1 ⟨rfl, hb1⟩
    rw [show validFrom 0 l = true from hv, show errOf true = 0 from rfl]
    go_wp2_with fail
    go_loopw [16] (fun i wr => ∃ (k : Nat), k ≤ l.length ∧ i = .int .i64 k ∧ Below w.heap.size w wr ∧ Hid (∀ j, j < k → inSegI (l.getD j (0, 0)) n = false))
      (fun i _ => l.length - (intOf i).toNat)
    case atStart => exact ⟨0, by omega, rfl, hb1, fun j hj => by omega⟩
    case round =>
      obtain ⟨k, hk, rfl, hb, HN⟩ := hrel
      by_cases hlt : k < l.length
      · obtain ⟨b, off, rfl, h1, h2⟩ := (HS.out.below hb (Nat.le_refl _)) k hlt
        have hm := mayB_of (valid_mem hv k hlt)
        have HY : Hid (inSegI (l.getD k (0, 0)) n = true → hasI l n = true) := fun h => by
          rw [hasI, List.any_eq_true]; exact ⟨l.getD k (0, 0), by simp [hlt], h⟩
        have HNN : Hid (inSegI (l.getD k (0, 0)) n = false → ∀ j, j < k + 1 → inSegI (l.getD j (0, 0)) n = false) := fun h j hj => by
          by_cases e : j = k
          · subst e; exact h
          · exact HN.out j (by omega)
        generalize l.getD k (0, 0) = s at h1 h2 hm HY HNN
        obtain ⟨x, y⟩ := s
        simp only at h1 h2 hm
        go_wp2_with fail
        refine (runHas_any x y n _ (by omega) (by omega) (by omega) (by omega)).mono ?_
        rintro e w2 ⟨rfl, hb2⟩
        have hb3 := nwT (nwA hb (.cells #[.int .i64 x, .int .i64 y] 57)) hb2
        cases hi : inSegI (x, y) n
        · have HN2 : Hid _ := HNN.out hi
          clear HNN HY
          go_wp2_with fail
          go_roundw
          case rel => exact ⟨k + 1, by omega, by go_num, hb3, HN2⟩
          case measure => simp [intOf]; omega
        · have HT : Hid (hasI l n = true) := HY.out hi
          clear HNN HY
          go_wp2_with fail
          go_ret2
          exact ⟨by rw [HT.out]; rfl, hb3⟩
      · have HT : Hid (hasI l n = false) := by
          show _ = _
          rw [hasI, List.any_eq_false]
          intro s hs
          obtain ⟨i, hi, rfl⟩ := List.getElem_of_mem hs
          have := HN.out i (by omega)
          simpa [hi] using this
        go_wp2_with fail
        go_ret2
        exact ⟨by rw [HT.out]; rfl, hb⟩

def numB (n most : Int) : Bool := decide (0 ≤ n) && decide (n ≤ most)

set_option maxHeartbeats 400000 in
theorem num2_any (n most : Int) (w : World) : Calls Try.prog 21 #[.int .i64 n, .int .i64 most] w fun e w' => e = .returned (.bool (numB n most)) ∧ w' = w := by
  unfold numB
  by_cases c1 : 0 ≤ n
  · go_enter Try.func21, Try.ntmps21
    go_wp2
    go_ret
    exact ⟨by simp [c1], rfl⟩
  · go_enter Try.func21, Try.ntmps21
    go_wp2
    go_ret
    exact ⟨by simp; omega, rfl⟩

set_option maxHeartbeats 1000000 in
theorem refEnds_any (a : Option Addr) (l : List (Int × Int)) (cap : Nat) (w : World) (hs : SegsAt w a l) (hl : l.length ≤ 500) (hv : vOk l = true) :
    Calls Try.prog 22 #[.slice a l.length cap] w fun e w' => e = .returned (.int .i64 (endL l)) ∧ Below w.heap.size w w' := by
  have HS : Hid (SegsAt w a l) := hs
  clear hs
  by_cases hz : l.length = 0
  · have hne : l = [] := List.length_eq_zero_iff.1 hz
    subst hne
    go_enter Try.func22, Try.ntmps22
    go_wp2_with fail
    go_ret
    exact ⟨rfl, nwR w⟩
  · have hz' : ((l.length : Int) == 0) = false := by simpa using hz
    obtain ⟨b, off, rfl, h1, h2⟩ := HS.out (l.length - 1) (by omega)
    have hm := mayB_of (valid_mem hv (l.length - 1) (by omega))
    have HE : Hid (endL l = (l.getD (l.length - 1) (0, 0)).1 + (l.getD (l.length - 1) (0, 0)).2) := by
      show _ = _
      rw [endL, if_neg (fun e => hz (by rw [e]; rfl))]
    generalize l.getD (l.length - 1) (0, 0) = s at h1 h2 HE hm
    obtain ⟨x, y⟩ := s
    simp only at h1 h2 HE hm
    have hw1 : IntKind.i64.wrap ((l.length : Int) - 1) = ((l.length - 1 : Nat) : Int) := by rw [wrap_any (by omega) (by omega)]; omega
    have hw2 : IntKind.i64.wrap (x + y) = x + y := wrap_any (by omega) (by omega)
    have hNl : ((l.length - 1 : Nat) : Int) < (l.length : Int) := by omega
    generalize l.length - 1 = N at h1 h2 hw1 hNl
    go_enter Try.func22, Try.ntmps22
    go_wp2_with fail
    go_quiet (fail)
    go_wp2_with fail
    go_ret
    exact ⟨by rw [HE.out]; rfl, below_drewN (nwR w) _⟩

theorem hasI_mem {l : List (Int × Int)} (hv : vOk l = true) (n : Int) : hasI l n = (numB n 63 && memS l n.toNat) := by
  rw [Bool.eq_iff_iff]
  simp only [hasI, numB, memS, List.any_eq_true, Bool.and_eq_true, decide_eq_true_eq, inSegI, inSeg]
  constructor
  · rintro ⟨s, hs, h⟩
    obtain ⟨i, hi, rfl⟩ := List.getElem_of_mem hs
    have hm := mayB_of (valid_mem hv i hi)
    simp only [List.getD_eq_getElem?_getD, List.getElem?_eq_getElem hi, Option.getD_some] at hm
    refine ⟨⟨by omega, by omega⟩, l[i], hs, by omega⟩
  · rintro ⟨⟨h0, h1⟩, s, hs, h⟩
    exact ⟨s, hs, by omega⟩

set_option maxHeartbeats 400000 in
theorem refHas_any (a : Option Addr) (l : List (Int × Int)) (cap : Nat) (n : Int) (w : World) (hs : SegsAt w a l) (hl : l.length ≤ 500) (hv : vOk l = true) :
    Calls Try.prog 24 #[.slice a l.length cap, .int .i64 n] w fun e w' => e = .returned (.bool (hasI l n)) ∧ Below w.heap.size w w' := by
  have HS : Hid (SegsAt w a l) := hs
  have HI : Hid (hasI l n = (numB n 63 && memS l n.toNat)) := hasI_mem hv n
  clear hs
  go_enter Try.func24, Try.ntmps24
  go_wp2_with fail
  refine (refSet_any a l cap _ HS.out hl hv).mono ?_
  rintro e w1 ⟨rfl, hb1⟩
  have HN : Hid (SetJ (w1.alloc (.cells (setArr fun _ => false) 50)) w1.heap.size (fun _ => false)) := SetJ.new w1 _
  go_wp2_with (first | (with_reducible refine wpList_alloc50 rfl rfl ?_) | (with_reducible refine stop_store50 rfl ?_))
  unfold Stop
  refine wpList_store50 rfl (.tmp 5) (.tmp 7) rfl w1.heap.size (memS l) _ rfl rfl HN.out ?_
  have HJ : Hid (SetJ ((w1.alloc (.cells (setArr fun _ => false) 50)).setRow w1.heap.size (setArr (memS l))) w1.heap.size (memS l)) := HN.out.setRow
  have HB : Hid (Below w.heap.size w ((w1.alloc (.cells (setArr fun _ => false) 50)).setRow w1.heap.size (setArr (memS l)))) := (nwA hb1 _).grown (gbSetRow _ _ _) (nwA hb1 _).size (fun q e => by have := Option.some.inj e; have := hb1.size; omega)
  generalize (w1.alloc (.cells (setArr fun _ => false) 50)).setRow w1.heap.size (setArr (memS l)) = w2 at HJ HB ⊢
  clear HN
  generalize w1.heap.size = g at HJ ⊢
  go_wp2_with fail
  refine (num2_any n 63 _).mono ?_
  rintro e w3 ⟨rfl, rfl⟩
  cases hn : numB n 63
  · go_wp2_with fail
    go_ret
    exact ⟨by rw [HI.out, hn]; rfl, HB.out⟩
  · have hn2 := hn
    simp only [numB, Bool.and_eq_true, decide_eq_true_eq] at hn2
    obtain ⟨k, hk⟩ := Int.eq_ofNat_of_zero_le hn2.1
    subst hk
    have hk64 : k < 64 := by omega
    have c0 := HJ.out.cell hk64
    simp only [setRow] at c0
    go_wp2_with fail
    go_ret
    exact ⟨by rw [HI.out, hn]; rfl, HB.out⟩

end Go.Proofs.Ytpkgoagoceddoaa
