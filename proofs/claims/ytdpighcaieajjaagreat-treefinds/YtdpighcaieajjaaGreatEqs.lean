/- Rows of texts held against each other: by the page, by the library. -/
import Derived.Test.YtdpighcaieajjaaGreatStrs
import Derived.Deep.QuietTactic
import Derived.BigQuiet
namespace Go.Proofs.YtdpighcaieajjaaGreat
open Go.RowKit

theorem ext_getD {xs ys : List ByteArray} (hl : xs.length = ys.length) (h : ∀ i, i < xs.length → xs.getD i ByteArray.empty = ys.getD i ByteArray.empty) : xs = ys := by
  apply List.ext_getElem hl
  intro i h1 h2
  have := h i h1
  simpa [List.getD, h1, h2] using this
theorem drewN_drewN (w : World) (a b : Nat) : ∃ q, (w.drewN a).drewN b = w.drewN q := ⟨_, World.drewN_drewN w a b⟩

set_option maxRecDepth 100000 in
set_option maxHeartbeats 1000000 in
theorem eqs_any (a b : Option Addr) (xs ys : List ByteArray) (ca cb : Nat) (w : World) (hx : StrsAt w a xs) (hy : StrsAt w b ys) (hl : xs.length ≤ maxLen) :
    Calls Tryz.prog 73 #[.slice a xs.length ca, .slice b ys.length cb] w fun e w' => e = .returned (.bool (decide (xs = ys))) ∧ ∃ q, w' = w.drewN q := by
  unfold maxLen at hl
  have HX : Hid (StrsAt w a xs) := hx
  have HY : Hid (StrsAt w b ys) := hy
  clear hx hy
  by_cases hlen : xs.length = ys.length
  · have hlen' : ((xs.length : Int) != (ys.length : Int)) = false := by simp [hlen]
    have HL : Hid (xs.length = ys.length) := hlen
    clear hlen
    go_enter Tryz.func73, Tryz.ntmps73
    go_wp2_with fail
    go_loopw [5] (fun i wr => ∃ (k q : Nat), k ≤ xs.length ∧ i = .int .i64 k ∧ wr = w.drewN q ∧ Hid (∀ j, j < k → xs.getD j ByteArray.empty = ys.getD j ByteArray.empty))
      (fun i _ => xs.length - (intOf i).toNat)
    case atStart => exact ⟨0, 0, by omega, rfl, rfl, fun j hj => by omega⟩
    case round =>
      obtain ⟨k, q, hk, rfl, rfl, HE⟩ := hrel
      by_cases hlt : k < xs.length
      · have hlty : k < ys.length := by have := HL.out; omega
        obtain ⟨b1, o1, rfl, x1⟩ := HX.out.cell hlt
        obtain ⟨b2, o2, rfl, y1⟩ := HY.out.cell hlty
        by_cases he : xs.getD k ByteArray.empty = ys.getD k ByteArray.empty
        · have HEE : Hid (xs.getD k ByteArray.empty = ys.getD k ByteArray.empty) := he
          rw [← he] at y1
          generalize xs.getD k ByteArray.empty = s at x1 y1
          clear he
          go_wp2_with fail
          go_quiet (fail)
          go_wp2_with fail
          go_roundw
          case rel => exact ⟨k + 1, _, by omega, by go_num, rfl, fun j hj => by
            by_cases e : j = k
            · subst e; exact HEE.out
            · exact HE.out j (by omega)⟩
          case measure => simp [intOf]; omega
        · have HF : Hid (decide (xs = ys) = false) := decide_eq_false (fun e => he (by rw [e]))
          generalize xs.getD k ByteArray.empty = s at x1 he
          generalize ys.getD k ByteArray.empty = t at y1 he
          have he2 : (s.toList == t.toList) = false := by
            rw [beq_eq_false_iff_ne, Lib.toList_data, Lib.toList_data]; intro e; exact he (ls_inj e)
          clear he
          go_wp2_with fail
          go_quiet (fail)
          go_wp2_with fail
          go_ret
          exact ⟨by rw [HF.out]; rfl, drewN_drewN _ _ _⟩
      · have HF : Hid (decide (xs = ys) = true) := decide_eq_true (ext_getD HL.out (fun i hi => HE.out i (by omega)))
        go_wp2_with fail
        go_ret
        exact ⟨by rw [HF.out]; rfl, _, rfl⟩
  · have hlen' : ((xs.length : Int) != (ys.length : Int)) = true := by rw [bne_iff_ne]; omega
    have HF : Hid (decide (xs = ys) = false) := decide_eq_false (fun e => hlen (by rw [e]))
    clear hlen
    go_enter Tryz.func73, Tryz.ntmps73
    go_wp2_with fail
    go_ret
    exact ⟨by rw [HF.out]; rfl, 0, rfl⟩

theorem un_no_len {xs ys : List ByteArray} (h : ys.length < xs.length) : un xs ys = false := by
  unfold un; rw [decide_eq_false]
  intro e
  have := congrArg List.length e
  rw [List.length_take] at this; omega
theorem un_no_at {xs ys : List ByteArray} {k : Nat} (h1 : k < xs.length) (he : ¬ xs.getD k ByteArray.empty = ys.getD k ByteArray.empty) : un xs ys = false := by
  unfold un; rw [decide_eq_false]
  intro e
  apply he
  have h2 := getD_take (xs := ys) (k := xs.length) h1
  rw [e] at h2; exact h2
theorem un_yes {xs ys : List ByteArray} (h : ∀ j, j < xs.length → j < ys.length ∧ xs.getD j ByteArray.empty = ys.getD j ByteArray.empty) : un xs ys = true := by
  unfold un; rw [decide_eq_true]
  have hl : xs.length ≤ ys.length := by
    rcases Nat.eq_zero_or_pos xs.length with h0 | h0
    · omega
    · have := (h (xs.length - 1) (by omega)).1; omega
  refine ext_getD (by rw [List.length_take]; omega) (fun i hi => ?_)
  rw [List.length_take] at hi
  rw [getD_take (by omega), (h i (by omega)).2]

set_option maxRecDepth 100000 in
set_option maxHeartbeats 1000000 in
theorem runder_any (a b : Option Addr) (xs ys : List ByteArray) (ca cb : Nat) (w : World) (hx : StrsAt w a xs) (hy : StrsAt w b ys) (hl : xs.length ≤ maxLen) :
    Calls Tryz.prog 74 #[.slice a xs.length ca, .slice b ys.length cb] w fun e w' => e = .returned (.bool (un xs ys)) ∧ ∃ q, w' = w.drewN q := by
  unfold maxLen at hl
  have HX : Hid (StrsAt w a xs) := hx
  have HY : Hid (StrsAt w b ys) := hy
  clear hx hy
  go_enter Tryz.func74, Tryz.ntmps74
  go_wp2_with fail
  go_loopw [5] (fun i wr => ∃ (k q : Nat), k ≤ xs.length ∧ i = .int .i64 k ∧ wr = w.drewN q ∧ Hid (∀ j, j < k → j < ys.length ∧ xs.getD j ByteArray.empty = ys.getD j ByteArray.empty))
    (fun i _ => xs.length - (intOf i).toNat)
  case atStart => exact ⟨0, 0, by omega, rfl, rfl, fun j hj => by omega⟩
  case round =>
    obtain ⟨k, q, hk, rfl, rfl, HE⟩ := hrel
    by_cases hlt : k < xs.length
    · by_cases hlty : k < ys.length
      · have hd : decide ((ys.length : Int) ≤ (k : Int)) = false := decide_eq_false (by omega)
        obtain ⟨b1, o1, rfl, x1⟩ := HX.out.cell hlt
        obtain ⟨b2, o2, rfl, y1⟩ := HY.out.cell hlty
        by_cases he : xs.getD k ByteArray.empty = ys.getD k ByteArray.empty
        · have HEE : Hid (xs.getD k ByteArray.empty = ys.getD k ByteArray.empty) := he
          rw [← he] at y1
          generalize xs.getD k ByteArray.empty = s at x1 y1
          clear he
          go_wp2_with fail
          go_quiet (fail)
          go_wp2_with fail
          go_roundw
          case rel => exact ⟨k + 1, _, by omega, by go_num, rfl, fun j hj => by
            by_cases e : j = k
            · subst e; exact ⟨hlty, HEE.out⟩
            · exact HE.out j (by omega)⟩
          case measure => simp [intOf]; omega
        · have HF : Hid (un xs ys = false) := un_no_at hlt he
          generalize xs.getD k ByteArray.empty = s at x1 he
          generalize ys.getD k ByteArray.empty = t at y1 he
          have he2 : (s.toList == t.toList) = false := by
            rw [beq_eq_false_iff_ne, Lib.toList_data, Lib.toList_data]; intro e; exact he (ls_inj e)
          clear he
          go_wp2_with fail
          go_quiet (fail)
          go_wp2_with fail
          go_ret
          exact ⟨by rw [HF.out]; rfl, drewN_drewN _ _ _⟩
      · have hd : decide ((ys.length : Int) ≤ (k : Int)) = true := decide_eq_true (by omega)
        have HF : Hid (un xs ys = false) := un_no_len (by omega)
        go_wp2_with fail
        go_quiet (fail)
        go_wp2_with fail
        go_ret
        exact ⟨by rw [HF.out]; rfl, _, rfl⟩
    · have HF : Hid (un xs ys = true) := un_yes (fun i hi => HE.out i (by omega))
      go_wp2_with fail
      go_ret
      exact ⟨by rw [HF.out]; rfl, _, rfl⟩

end Go.Proofs.YtdpighcaieajjaaGreat
