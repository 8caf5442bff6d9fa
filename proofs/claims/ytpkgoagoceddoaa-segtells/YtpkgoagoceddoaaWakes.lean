/- Literal rows; wakes by its contract. -/
import Derived.Test.YtpkgoagoceddoaaHeavy
namespace Go.Proofs.Ytpkgoagoceddoaa
open Go.RowKit

theorem segs1 (w : World) (x y : Int) (t : TypeId) : SegsAt (w.alloc (.cells #[.int .i64 x, .int .i64 y] t)) (some ⟨w.heap.size, 0, none⟩) [(x, y)] := by
  intro i hi
  have : i = 0 := by simpa using hi
  subst this
  refine ⟨w.heap.size, 0, rfl, ?_, ?_⟩ <;> simp

theorem SegsAt.alloc {w : World} {a : Option Addr} {l : List (Int × Int)} (h : SegsAt w a l) (o : Obj) : SegsAt (w.alloc o) a l := h.below (nwA (nwR w) o) (Nat.le_refl _)

theorem rows1 {w : World} {a : Option Addr} {l : List (Int × Int)} (c : Nat) (t : TypeId) (h : SegsAt w a l) (hl : l.length ≤ maxLen) :
    RowsAt (w.alloc (.cells #[.slice a l.length c] t)) (some ⟨w.heap.size, 0, none⟩) [(a, c, l)] := by
  intro i hi
  have : i = 0 := by simpa using hi
  subst this
  exact ⟨w.heap.size, 0, rfl, by simp, h.alloc _, hl⟩

theorem rows2 {w : World} {a b : Option Addr} {l m : List (Int × Int)} (c d : Nat) (t : TypeId) (h : SegsAt w a l) (hl : l.length ≤ maxLen) (h' : SegsAt w b m) (hl' : m.length ≤ maxLen) :
    RowsAt (w.alloc (.cells #[.slice a l.length c, .slice b m.length d] t)) (some ⟨w.heap.size, 0, none⟩) [(a, c, l), (b, d, m)] := by
  intro i hi
  match i, hi with
  | 0, _ => exact ⟨w.heap.size, 0, rfl, by simp, h.alloc _, hl⟩
  | 1, _ => exact ⟨w.heap.size, 0, rfl, by simp, h'.alloc _, hl'⟩

theorem jset_wakes (a b : Option Addr) (c d : Nat) : allOk [(a, c, [(0, 2)]), (b, d, [(2, 2)])] = true ∧ jset [(a, c, [(0, 2)]), (b, d, [(2, 2)])] = [(0, 4)] := by
  refine ⟨rfl, ?_⟩
  show jset [(a, c, [(0, 2)]), (b, d, [(2, 2)])] = [(0, 4)]
  rfl

set_option maxHeartbeats 400000 in
theorem wakes_any (w : World) : Calls Try.prog 28 #[] w fun e w' => e = .returned (.bool true) ∧ Below w.heap.size w w' := by
  go_enter Try.func28, Try.ntmps28
  go_wp2_with fail
  have HR : Hid (RowsAt (((w.alloc (.cells #[.int .i64 0, .int .i64 2] 57)).alloc (.cells #[.int .i64 2, .int .i64 2] 57)).alloc (.cells #[.slice (some ⟨w.heap.size, 0, none⟩) 1 1, .slice (some ⟨w.heap.size + 1, 0, none⟩) 1 1] 27))
      (some ⟨w.heap.size + 1 + 1, 0, none⟩) [(some ⟨w.heap.size, 0, none⟩, 1, [(0, 2)]), (some ⟨w.heap.size + 1, 0, none⟩, 1, [(2, 2)])]) := by
    have h1 := (segs1 w 0 2 57).alloc (.cells #[.int .i64 2, .int .i64 2] 57)
    have h2 := segs1 (w.alloc (.cells #[.int .i64 0, .int .i64 2] 57)) 2 2 57
    have e : (w.alloc (.cells #[.int .i64 0, .int .i64 2] 57)).heap.size = w.heap.size + 1 := by simp
    rw [e] at h2
    have h := rows2 1 1 27 h1 (by simp [maxLen]) h2 (by simp [maxLen])
    unfold Hid
    simpa using h
  refine (join_any _ _ 2 _ HR.out (by simp [maxLen])).mono ?_
  rintro e w1 ⟨v, rfl, hown, hb1⟩
  rw [(jset_wakes _ _ _ _).1, show errOf true = 0 from rfl]
  rw [(jset_wakes _ _ _ _).2] at hown
  obtain ⟨a, cap, rfl, hs⟩ := hown.at
  have HS : Hid (SegsAt w1 a [(0, 4)]) := hs
  clear hs hown
  go_wp2_with fail
  refine (num_any _ _).mono ?_
  rintro e w2 ⟨rfl, rfl⟩
  go_wp2_with fail
  refine (eqSegs_any a _ [(0, 4)] [(0, 4)] cap 1 _ (HS.out.alloc _) (segs1 _ 0 4 57) (by simp [maxLen])).mono ?_
  rintro e w3 ⟨rfl, hb3⟩
  rw [show decide ([((0 : Int), (4 : Int))] = [(0, 4)]) = true from rfl]
  go_wp2_with fail
  go_ret
  exact ⟨rfl, nwT (nwA (nwT (nwA (nwA (nwA (nwR w) _) _) _) hb1) _) hb3⟩

end Go.Proofs.Ytpkgoagoceddoaa
