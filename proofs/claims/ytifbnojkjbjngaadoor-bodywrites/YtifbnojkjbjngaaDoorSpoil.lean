/- Answers written over; how long answers are. -/
import Derived.Test.YtifbnojkjbjngaaDoorNs
import Derived.Test.YtifbnojkjbjngaaDoorEdges
namespace Go.Proofs.YtifbnojkjbjngaaDoor
open Go.RowKit

theorem set_strs (xs : List ByteArray) (i : Nat) (u : ByteArray) : (xs.map Value.string).set i (.string u) = (xs.set i u).map .string := by rw [List.map_set]
set_option maxHeartbeats 1000000 in
theorem spoil_any (a : Option Addr) (xs : List ByteArray) (ca base : Nat) (w : World) (ho : OwnStrs w base (.slice a xs.length ca) xs) (hl : xs.length ≤ 1000000) :
    Calls Tryd.prog 26 #[.slice a xs.length ca] w fun e w' => e = .returned (.tuple #[]) ∧ Below base w w' := by
  have HO : Hid (OwnStrs w base (.slice a xs.length ca) xs) := ho
  obtain ⟨n, hn⟩ : ∃ n, xs.length = n := ⟨_, rfl⟩
  rw [hn] at HO hl ⊢
  have HN : Hid (xs.length = n) := hn
  clear ho hn
  go_enter Tryd.func26, Tryd.ntmps26
  go_wp2_with fail
  go_loopw [2] (fun ii wr => ∃ (i : Nat) (ys : List ByteArray), i ≤ n ∧ ys.length = n ∧ ii = .int .i64 i ∧ OwnStrs wr base (.slice a n ca) ys ∧ Below base w wr) (fun ii _ => n - (intOf ii).toNat)
  case atStart => exact ⟨0, xs, by omega, HN.out, rfl, HO.out, Below.refl _ _⟩
  case round =>
    obtain ⟨i, ys, hi, hyl, rfl, hO, hb⟩ := hrel
    have HO2 : Hid (OwnStrs wr base (.slice a n ca) ys) := hO
    have HYL : Hid (ys.length = n) := hyl
    clear hO
    by_cases hin : (i : Int) < (n : Int)
    · obtain ⟨av, cv, e, hs⟩ := HO2.out.at
      rcases HO2.out.2 with ⟨hv, hn0⟩ | ⟨g, cap, cur, hv, hbg, hg, _⟩
      · omega
      · injection hv with hv1 hv2 hv3
        subst hv1; subst hv3
        injection e with e1 e2 e3
        subst e1
        obtain ⟨b', o', e', c1⟩ := hs.cell (i := i) (by omega)
        injection e' with e'
        injection e' with e1' e2'
        subst e1'; subst e2'
        rw [Nat.zero_add] at c1
        have HO3 : Hid (OwnStrs (wr.setCell ⟨g, i, none⟩ (.string ⟨#[115, 112, 111, 105, 108, 116]⟩)) base (.slice (some ⟨g, 0, none⟩) n ca) (ys.set i ⟨#[115, 112, 111, 105, 108, 116]⟩)) := by
          have hh : wr.ownsRow base 9 1 (.slice (some ⟨g, 0, none⟩) n ca) n (ys.map .string) := by have := HO2.out; unfold OwnStrs at this; rw [HYL.out] at this; exact this
          have := (World.ownsRow.stored hh i (.string ⟨#[115, 112, 111, 105, 108, 116]⟩)).1
          rw [set_strs] at this
          unfold OwnStrs
          rw [List.length_set, HYL.out]; exact this
        have f1 : wr.frozen? ⟨g, i, none⟩ = false := Lib.frozen_of_heap hg i
        clear hyl hs hg
        generalize ys.getD i ByteArray.empty = y at c1
        go_wp2_with fail
        first
          | exact ⟨⟨i + 1, _, by omega, by rw [List.length_set]; exact HYL.out, by go_num, HO3.out, hb.setCell (p := ⟨g, i, none⟩) hbg _⟩, by simp [intOf]; omega⟩
          | (go_roundw
             case rel => exact ⟨i + 1, _, by omega, by rw [List.length_set]; exact HYL.out, by go_num, HO3.out, hb.setCell (p := ⟨g, i, none⟩) hbg _⟩
             case measure => simp [intOf]; omega)
    · go_wp2_with fail
      go_end0
      exact ⟨rfl, hb⟩

theorem sized_len {n : Int} {X : List ByteArray} {x : Int} {M : Int} {Xs : List ByteArray} {F : List Int} {E : Int} (h : sized n X x = (M, Xs, F, E)) : Xs.length ≤ 100 ∧ F.length ≤ 100 := by
  unfold sized at h
  split at h
  · split at h
    · rename_i h1 h2
      have hx : 0 ≤ x := by simp at h1; exact h1.2
      have e1 := congrArg (·.2.1) h
      have e2 := congrArg (·.2.2.1) h
      simp only at e1 e2
      rw [← e1, ← e2]
      exact ⟨by rw [pcs_len, siz_len]; unfold many; omega, frz_len _ _ (by omega)⟩
    · have e1 := congrArg (·.2.1) h
      have e2 := congrArg (·.2.2.1) h
      simp only at e1 e2
      rw [← e1, ← e2]; simp
  · have e1 := congrArg (·.2.1) h
    have e2 := congrArg (·.2.2.1) h
    simp only at e1 e2
    rw [← e1, ← e2]; simp
theorem frs_len (k : Nat) (t : List UInt8) (h : k + t.length ≤ 200) : (frs k t).length ≤ 100 := by
  unfold frs; split
  · simp
  · rw [numL_len]; unfold many; omega
theorem written_len {n : Int} {X : List ByteArray} {x : Int} {t : ByteArray} {M : Int} {Xs : List ByteArray} {F : List Int} {E : Int} (h : written n X x t = (M, Xs, F, E)) : Xs.length ≤ 100 ∧ F.length ≤ 100 := by
  unfold written at h
  split at h
  · split at h
    · rename_i h1 h2
      have hm : mayB n X = true := by simp at h1; exact h1.1
      have hx : 0 ≤ x ∧ x ≤ n := by simp [numB] at h1; exact h1.2
      have hn := (mayB_parts hm).2.1
      have e1 := congrArg (·.2.1) h
      have e2 := congrArg (·.2.2.1) h
      simp only at e1 e2
      rw [← e1, ← e2]
      refine ⟨?_, frs_len _ _ (by rw [ls_size]; omega)⟩
      rw [pcs_len, wrt_len (by rw [tx_len hm]; omega), tx_len hm, ls_size]; unfold many; omega
    · have e1 := congrArg (·.2.1) h
      have e2 := congrArg (·.2.2.1) h
      simp only at e1 e2
      rw [← e1, ← e2]; simp
  · have e1 := congrArg (·.2.1) h
    have e2 := congrArg (·.2.2.1) h
    simp only at e1 e2
    rw [← e1, ← e2]; simp

end Go.Proofs.YtifbnojkjbjngaaDoor
