/- The methods of seg's set, by their contracts. -/
import Derived.Test.YtpkgoagoceddoaaCheck
import Derived.Deep.OwnRows
namespace Go.Proofs.Ytpkgoagoceddoaa
open Go.RowKit

def setRow (s : Nat → Bool) : Nat → Value := fun k => .bool (s k)
def SetIs (w : World) (g : Nat) (s : Nat → Bool) : Prop := w.rowIs g 64 64 (setRow s)

theorem gbRefl (w : World) (r : Option Nat) : w.grownBy w r := ⟨rfl, rfl, rfl, Nat.le_refl _, fun _ _ _ => rfl⟩
theorem gbTrans {a b c : World} {r : Option Nat} (h : a.grownBy b r) (k : b.grownBy c r) : a.grownBy c r :=
  ⟨k.os.trans h.os, k.tape.trans h.tape, k.output.trans h.output, Nat.le_trans h.size k.size, fun i hi hn => (k.block i (Nat.lt_of_lt_of_le hi h.size) hn).trans (h.block i hi hn)⟩
theorem gbOf {a b : World} (h : Below a.heap.size a b) (r : Option Nat) : a.grownBy b r := ⟨h.os, h.tape, h.output, h.size, fun i hi _ => h.block i hi⟩
theorem gbSet (w : World) (g o : Nat) (v : Value) : w.grownBy (w.setCell ⟨g, o, none⟩ v) (some g) :=
  ⟨rfl, rfl, rfl, by simp [World.setCell], fun i _ hn => Below.heap_setCell _ _ _ _ (fun e => hn (by rw [e]))⟩
theorem gbCell {w w' : World} {g b o : Nat} (h : w.grownBy w' (some g)) (hb : b < w.heap.size) (hn : b ≠ g) : w'.cell? ⟨b, o, none⟩ = w.cell? ⟨b, o, none⟩ :=
  World.cell?_of_block (w := w) (h.block b hb (fun e => hn (Option.some.inj e)))

theorem SetIs.below {w w' : World} {g : Nat} {s : Nat → Bool} (h : SetIs w g s) (hb : Below w.heap.size w w') : SetIs w' g s := h.of_block (hb.block g h.lt)

set_option maxHeartbeats 400000 in
theorem setHas_any (g : Nat) (s : Nat → Bool) (n : Nat) (w : World) (hs : SetIs w g s) (hn : n < 64) :
    Calls Try.prog 41 #[.pointer (some ⟨g, 0, none⟩), .int .i64 n] w fun e w' => e = .returned (.bool (s n)) ∧ w' = w := by
  have hc := hs.cell hn
  simp only [setRow] at hc
  go_enter Try.func41, Try.ntmps41
  go_wp2
  go_ret
  exact ⟨rfl, rfl⟩

theorem SetIs.step {w : World} {g : Nat} {s : Nat → Bool} {x : Int} {k : Nat} (h : SetIs w g fun j => s j || decide (x ≤ j ∧ (j : Int) < k)) (hx : x ≤ k) :
    SetIs (w.setCell ⟨g, k, none⟩ (.bool true)) g fun j => s j || decide (x ≤ j ∧ (j : Int) < (k + 1 : Nat)) := by
  refine (World.rowIs.set h k (.bool true)).congr fun j _ => ?_
  simp only [setRow]
  by_cases e : j = k
  · subst e; simp [hx]; omega
  · rw [if_neg e]
    congr 2
    simp only [decide_eq_decide]
    omega

set_option maxHeartbeats 400000 in
theorem setAdd_any (g : Nat) (s : Nat → Bool) (x y : Int) (w : World) (hs : SetIs w g s) (h0 : 0 ≤ x) (h1 : 1 ≤ y) (h2 : x + y ≤ 64) :
    Calls Try.prog 42 #[.pointer (some ⟨g, 0, none⟩), .agg #[.int .i64 x, .int .i64 y]] w fun e w' =>
      e = .returned (.tuple #[]) ∧ SetIs w' g (fun k => s k || decide (x ≤ k ∧ (k : Int) < x + y)) ∧ w.grownBy w' (some g) := by
  have hgl := hs.lt
  go_enter Try.func42, Try.ntmps42
  go_wp2
  go_loopw [4] (fun i wr => ∃ (k : Nat), x ≤ k ∧ k ≤ x + y ∧ i = .int .i64 k ∧ SetIs wr g (fun j => s j || decide (x ≤ j ∧ (j : Int) < k)) ∧ (w.alloc (.cells #[.int .i64 x, .int .i64 y] 59)).grownBy wr (some g))
    (fun i _ => (x + y - intOf i).toNat)
  case atStart =>
    obtain ⟨k, rfl⟩ := Int.eq_ofNat_of_zero_le h0
    exact ⟨k, by omega, by omega, rfl, (hs.alloc _).congr fun j _ => (by simp [setRow]; omega), gbRefl _ _⟩
  case round =>
    obtain ⟨k, hk0, hk1, rfl, hset, hgb⟩ := hrel
    have c0 : wr.cell? ⟨w.heap.size, 0, none⟩ = some (.int .i64 x) := (gbCell hgb (by simp) (by omega)).trans (by simp)
    have c1 : wr.cell? ⟨w.heap.size, 1, none⟩ = some (.int .i64 y) := (gbCell hgb (by simp) (by omega)).trans (by simp)
    by_cases hlt : (k : Int) < x + y
    · go_wp2_with fail
      refine (end_any _ _ _ (by omega) (by omega) (by omega) (by omega)).mono ?_
      rintro e w1 ⟨rfl, hb1⟩
      have hset1 := hset.below hb1
      have hold := hset1.cell (i := k) (by omega)
      have hfr := hset1.frozen k
      have hk64 : k < 64 := by omega
      simp only [setRow] at hold
      go_wp2_with fail
      go_roundw
      case rel => exact ⟨k + 1, by omega, by omega, by go_num, hset1.step hk0, gbTrans (gbTrans hgb (gbOf hb1 _)) (gbSet _ _ _ _)⟩
      case measure => simp [intOf]; omega
    · go_wp2_with fail
      refine (end_any _ _ _ (by omega) (by omega) (by omega) (by omega)).mono ?_
      rintro e w1 ⟨rfl, hb1⟩
      go_wp2_with fail
      go_end0
      exact ⟨rfl, (hset.below hb1).congr fun j _ => (by
        have : (k : Int) = x + y := by omega
        rw [this]), gbTrans (World.grownBy_alloc _ _ _) (gbTrans hgb (gbOf hb1 _))⟩

end Go.Proofs.Ytpkgoagoceddoaa
