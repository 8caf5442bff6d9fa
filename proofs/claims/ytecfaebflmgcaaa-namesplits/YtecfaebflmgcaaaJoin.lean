/- Join, by the program. -/
import Derived.Test.YtecfaebflmgcaaaText
namespace Go.Proofs.Ytecfaebflmgcaaa
open Go.RowKit

def allN (xs : List ByteArray) : Bool := xs.all nm
/-- the path of names: it, or the error -/
def joinP (xs : List ByteArray) : ByteArray × Int := if allN xs then (if fitB xs then (tx xs, 0) else (⟨#[]⟩, 2)) else (⟨#[]⟩, 1)
theorem allN_succ {xs : List ByteArray} {k : Nat} (h : k < xs.length) : allN (xs.take (k + 1)) = (allN (xs.take k) && nm (xs.getD k ByteArray.empty)) := by
  unfold allN; rw [List.take_succ_eq_append_getElem h, List.all_append]; simp [List.getD, h]
theorem allN_le {xs : List ByteArray} {k : Nat} (h : allN (xs.take k) = false) : allN xs = false := by
  unfold allN at *
  rw [List.all_eq_false] at *
  obtain ⟨x, hx, hb⟩ := h
  exact ⟨x, List.mem_of_mem_take hx, hb⟩

set_option maxHeartbeats 1000000 in
theorem joinP_any (a : Option Addr) (xs : List ByteArray) (cap : Nat) (w : World) (hx : StrsAt w a xs) (hl : xs.length ≤ 4000) (ht : (flN xs).length ≤ 4000) :
    Calls Try.prog 21 #[.slice a xs.length cap] w fun e w' => e = .returned (.tuple #[.string (joinP xs).1, .int .i64 (joinP xs).2]) ∧ Below w.heap.size w w' := by
  have HX : Hid (StrsAt w a xs) := hx
  clear hx
  go_enter Try.func21, Try.ntmps21
  go_wp2_with fail
  go_loop [10] (fun i => ∃ (k : Nat), k ≤ xs.length ∧ i = .int .i64 k ∧ Hid (allN (xs.take k) = true))
    (fun i => xs.length - (intOf i).toNat)
  case atStart => exact ⟨0, by omega, rfl, rfl⟩
  case round =>
    obtain ⟨k, hk, rfl, HA⟩ := hrel
    by_cases hlt : k < xs.length
    · have hlti : (k : Int) < (xs.length : Int) := by omega
      obtain ⟨b1, o1, rfl, hc⟩ := HX.out.cell hlt
      have HS : Hid (allN (xs.take (k + 1)) = (allN (xs.take k) && nm (xs.getD k ByteArray.empty))) := allN_succ hlt
      generalize xs.getD k ByteArray.empty = x at hc HS
      cases hn : nm x
      · have HJ : Hid (joinP xs = (⟨#[]⟩, 1)) := by
          show _ = _
          unfold joinP
          rw [allN_le (k := k + 1) (by rw [HS.out, hn]; simp)]; rfl
        go_wp2_with (go_at_call 13; refine (check_any _ _).mono ?_; rintro e w' ⟨rfl, rfl⟩; rw [hn, errI_f])
        go_ret2
        exact ⟨by rw [HJ.out]; rfl, nwR _⟩
      · go_wp2_with (go_at_call 13; refine (check_any _ _).mono ?_; rintro e w' ⟨rfl, rfl⟩; rw [hn, errI_t])
        go_round
        case rel => exact ⟨k + 1, by omega, by go_num, by show _ = _; rw [HS.out, HA.out, hn]; rfl⟩
        case measure => simp [intOf]; omega
    · have hlti : ¬ (k : Int) < (xs.length : Int) := by omega
      have hke : xs.take k = xs := List.take_of_length_le (by omega)
      have HAA : Hid (allN xs = true) := by have := HA.out; rw [hke] at this; exact this
      have hb1 : Below w.heap.size w (w.alloc (.cells #[.slice a xs.length cap] 47)) := nwA (nwR w) _
      go_wp2_with fail
      refine (fits_any w.heap.size a xs cap _ (by simp) (HX.out.below hb1) hl ht).mono ?_
      rintro e w1 ⟨rfl, hb2⟩
      have c1 : w1.cell? ⟨w.heap.size, 0, none⟩ = some (.slice a xs.length cap) := (hb2.cell (p := ⟨w.heap.size, 0, none⟩) (by simp)).trans (by simp)
      have HB2 : Hid (Below w.heap.size w w1) := nwT hb1 hb2
      have HX2 : Hid (StrsAt w1 a xs) := HX.out.below HB2.out
      cases hf : fitB xs
      · have HJ : Hid (joinP xs = (⟨#[]⟩, 2)) := by show _ = _; unfold joinP; rw [HAA.out, hf]; rfl
        go_wp2_with fail
        go_ret2
        exact ⟨by rw [HJ.out]; rfl, HB2.out⟩
      · have HJ : Hid (joinP xs = (tx xs, 0)) := by show _ = _; unfold joinP; rw [HAA.out, hf]; rfl
        go_wp2_with fail
        refine (text_any w.heap.size a xs cap _ c1 HX2.out hl ht).mono ?_
        rintro e w2 ⟨rfl, hb3⟩
        generalize tx xs = t at HJ
        go_wp2_with fail
        go_ret2
        exact ⟨by rw [HJ.out]; rfl, nwT HB2.out hb3⟩

end Go.Proofs.Ytecfaebflmgcaaa
