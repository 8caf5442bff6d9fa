/- Rows of texts and of numbers held against each other and copied, by the page's own helpers. -/
import Derived.Test.YtifbnojkjbjngaaDoorLeaf
namespace Go.Proofs.YtifbnojkjbjngaaDoor
open Go.RowKit

theorem ext_getD {xs ys : List ByteArray} (hl : xs.length = ys.length) (h : ∀ i, i < xs.length → xs.getD i ByteArray.empty = ys.getD i ByteArray.empty) : xs = ys := by
  apply List.ext_getElem hl
  intro i h1 h2
  have := h i h1
  simpa [List.getD, h1, h2] using this
set_option maxHeartbeats 1000000 in
theorem eqs_any (a b : Option Addr) (xs ys : List ByteArray) (ca cb : Nat) (w : World) (hx : StrsAt w a xs) (hy : StrsAt w b ys) (hl : xs.length ≤ maxLen) :
    Calls Tryd.prog 12 #[.slice a xs.length ca, .slice b ys.length cb] w fun e w' => e = .returned (.bool (decide (xs = ys))) ∧ ∃ q, w' = w.drewN q := by
  unfold maxLen at hl
  have HX : Hid (StrsAt w a xs) := hx
  have HY : Hid (StrsAt w b ys) := hy
  clear hx hy
  by_cases hlen : xs.length = ys.length
  · have hlen' : ((xs.length : Int) != (ys.length : Int)) = false := by simp [hlen]
    have HL : Hid (xs.length = ys.length) := hlen
    clear hlen
    go_enter Tryd.func12, Tryd.ntmps12
    go_wp2_with fail
    go_loopw [5] (fun i wr => ∃ (k q : Nat), k ≤ xs.length ∧ i = .int .i64 k ∧ wr = w.drewN q ∧ Hid (∀ j, j < k → xs.getD j ByteArray.empty = ys.getD j ByteArray.empty))
      (fun i _ => xs.length - (intOf i).toNat)
    case atStart => exact ⟨0, 0, by omega, rfl, rfl, fun j hj => by omega⟩
    case round =>
      obtain ⟨k, q, hk, rfl, rfl, HE⟩ := hrel
      by_cases hlt : k < xs.length
      · have hlty : k < ys.length := by have := HL.out; omega
        obtain ⟨b1, o1, rfl, x1⟩ := HX.out.cell hlt
        obtain ⟨b2, o2, rfl, y1⟩ := HY.out.cell hlty
        by_cases he : xs.getD k ByteArray.empty = ys.getD k ByteArray.empty
        · have HEE : Hid (xs.getD k ByteArray.empty = ys.getD k ByteArray.empty) := he
          rw [← he] at y1
          generalize xs.getD k ByteArray.empty = s at x1 y1
          clear he
          go_wp2_with fail
          go_quiet (fail)
          go_wp2_with fail
          go_roundw
          case rel => exact ⟨k + 1, _, by omega, by go_num, rfl, fun j hj => by
            by_cases e : j = k
            · subst e; exact HEE.out
            · exact HE.out j (by omega)⟩
          case measure => simp [intOf]; omega
        · have HF : Hid (decide (xs = ys) = false) := decide_eq_false (fun e => he (by rw [e]))
          generalize xs.getD k ByteArray.empty = s at x1 he
          generalize ys.getD k ByteArray.empty = t at y1 he
          have he2 : (s.toList == t.toList) = false := by
            rw [beq_eq_false_iff_ne, Lib.toList_data, Lib.toList_data]; intro e; exact he (ls_inj e)
          clear he
          go_wp2_with fail
          go_quiet (fail)
          go_wp2_with fail
          go_ret
          exact ⟨by rw [HF.out]; rfl, drewN_drewN _ _ _⟩
      · have HF : Hid (decide (xs = ys) = true) := decide_eq_true (ext_getD HL.out (fun i hi => HE.out i (by omega)))
        go_wp2_with fail
        go_ret
        exact ⟨by rw [HF.out]; rfl, _, rfl⟩
  · have hlen' : ((xs.length : Int) != (ys.length : Int)) = true := by rw [bne_iff_ne]; omega
    have HF : Hid (decide (xs = ys) = false) := decide_eq_false (fun e => hlen (by rw [e]))
    clear hlen
    go_enter Tryd.func12, Tryd.ntmps12
    go_wp2_with fail
    go_ret
    exact ⟨by rw [HF.out]; rfl, 0, rfl⟩

set_option maxRecDepth 100000 in
set_option maxHeartbeats 1000000 in
theorem eqNums_any (a b : Option Addr) (xs ys : List Int) (ca cb : Nat) (w : World) (hx : IntsAt w a xs) (hy : IntsAt w b ys) (hl : xs.length ≤ maxLen) :
    Calls Tryd.prog 23 #[.slice a xs.length ca, .slice b ys.length cb] w fun e w' => e = .returned (.bool (decide (xs = ys))) ∧ ∃ q, w' = w.drewN q := by
  unfold maxLen at hl
  have HX : Hid (IntsAt w a xs) := hx
  have HY : Hid (IntsAt w b ys) := hy
  clear hx hy
  by_cases hlen : xs.length = ys.length
  · have hlen' : ((xs.length : Int) != (ys.length : Int)) = false := by simp [hlen]
    have HL : Hid (xs.length = ys.length) := hlen
    clear hlen
    go_enter Tryd.func23, Tryd.ntmps23
    go_wp2_with fail
    go_loopw [5] (fun i wr => ∃ (k q : Nat), k ≤ xs.length ∧ i = .int .i64 k ∧ wr = w.drewN q ∧ Hid (∀ j, j < k → xs.getD j 0 = ys.getD j 0))
      (fun i _ => xs.length - (intOf i).toNat)
    case atStart => exact ⟨0, 0, by omega, rfl, rfl, fun j hj => by omega⟩
    case round =>
      obtain ⟨k, q, hk, rfl, rfl, HE⟩ := hrel
      by_cases hlt : k < xs.length
      · have hlty : k < ys.length := by have := HL.out; omega
        obtain ⟨b1, o1, rfl, x1⟩ := HX.out.cell hlt
        obtain ⟨b2, o2, rfl, y1⟩ := HY.out.cell hlty
        by_cases he : xs.getD k 0 = ys.getD k 0
        · have HEE : Hid (xs.getD k 0 = ys.getD k 0) := he
          rw [← he] at y1
          generalize xs.getD k 0 = s at x1 y1
          clear he
          go_wp2_with fail
          go_quiet (fail)
          go_wp2_with fail
          go_roundw
          case rel => exact ⟨k + 1, _, by omega, by go_num, rfl, fun j hj => by
            by_cases e : j = k
            · subst e; exact HEE.out
            · exact HE.out j (by omega)⟩
          case measure => simp [intOf]; omega
        · have HF : Hid (decide (xs = ys) = false) := decide_eq_false (fun e => he (by rw [e]))
          generalize xs.getD k 0 = s at x1 he
          generalize ys.getD k 0 = t at y1 he
          have he2 : (s == t) = false := beq_eq_false_iff_ne.2 he
          clear he
          go_wp2_with fail
          go_quiet (fail)
          go_wp2_with fail
          go_ret
          exact ⟨by rw [HF.out]; rfl, drewN_drewN _ _ _⟩
      · have HF : Hid (decide (xs = ys) = true) := decide_eq_true (ext_getD' 0 HL.out (fun i hi => HE.out i (by omega)))
        go_wp2_with fail
        go_ret
        exact ⟨by rw [HF.out]; rfl, _, rfl⟩
  · have hlen' : ((xs.length : Int) != (ys.length : Int)) = true := by rw [bne_iff_ne]; omega
    have HF : Hid (decide (xs = ys) = false) := decide_eq_false (fun e => hlen (by rw [e]))
    clear hlen
    go_enter Tryd.func23, Tryd.ntmps23
    go_wp2_with fail
    go_ret
    exact ⟨by rw [HF.out]; rfl, 0, rfl⟩

set_option maxHeartbeats 1000000 in
theorem copy_strs (a : Option Addr) (xs : List ByteArray) (ca : Nat) (w : World) (hx : StrsAt w a xs) (hl : xs.length ≤ 4000) :
    Calls Tryd.prog 14 #[.slice a xs.length ca] w fun e w' => (∃ v, e = .returned v ∧ OwnStrs w' w.heap.size v xs) ∧ Below w.heap.size w w' := by
  have HX : Hid (StrsAt w a xs) := hx
  clear hx
  obtain ⟨i0, hi, hz0, hz1, hz2⟩ := info_parts Tryd.info9
  go_enter Tryd.func14, Tryd.ntmps14
  go_wp2_with fail
  go_loopw [3, 4] (fun v i wr => ∃ (k : Nat), k ≤ xs.length ∧ i = .int .i64 k ∧ OwnStrs wr w.heap.size v (xs.take k) ∧ Below w.heap.size w wr)
    (fun _ i _ => xs.length - (intOf i).toNat)
  case atStart => exact ⟨0, by omega, rfl, World.ownsRow_nil _ _ _ _, nwR w⟩
  case round =>
    obtain ⟨k, hk, rfl, hO, hb⟩ := hrel
    have HO : Hid (OwnStrs wr w.heap.size u3 (xs.take k)) := hO
    clear hO
    by_cases hkl : k < xs.length
    · have hkli : (k : Int) < (xs.length : Int) := by omega
      obtain ⟨b1, o1, rfl, hc0⟩ := HX.out.cell hkl
      have hc : wr.cell? ⟨b1, o1 + k, none⟩ = some (.string (xs.getD k ByteArray.empty)) := (hb.cell (p := ⟨b1, o1 + k, none⟩) (block_lt_of_cell hc0)).trans hc0
      have HS : Hid (xs.take (k + 1) = xs.take k ++ [xs.getD k ByteArray.empty]) := by
        show _ = _
        rw [List.take_succ_eq_append_getElem hkl]; simp [List.getD, hkl]
      have hlt : (xs.take k).length ≤ 4000 := by rw [List.length_take]; omega
      generalize xs.getD k ByteArray.empty = x at hc HS
      generalize xs.take k = ys at HO HS hlt
      clear hc0
      have hsz : w.heap.size ≤ (wr.alloc (.cells #[.string x] 9)).heap.size := (nwA hb _).size
      have hc3 : ys.length + 1 ≤ maxLen := by unfold maxLen; omega
      have hc4 : (ys.length + 1) * 16 ≤ 140737488355328 := by omega
      go_wp2_with (at_builtin; refine wpList_append_own _ rfl (.tmp 11) (.tmp 16) 22 rfl w.heap.size 9 i0 (.string ⟨#[]⟩) 1 16 Tryd.underlying22 hi hz0 hz1 hz2 rfl (by decide) u3 ys.length (ys.map .string) rfl (World.ownsRow.alloc HO.out _) ⟨wr.heap.size, 0, none⟩ 1 1 [.string x] rfl rfl (cell_one _ _ _) (by simp [Value.oneCell']) hc3 hc4 hsz ?_; intro v' w3 hown hgrow _; refine unstop ?_)
      unfold Stop
      have HB3 : Hid (Below w.heap.size w w3) := (nwA hb _).grown hgrow (nwA hb _).size (fun q e => (HO.out.lt q e).1)
      have HO3 : Hid (OwnStrs w3 w.heap.size v' (xs.take (k + 1))) := by rw [HS.out]; exact OwnStrs.snoc hown
      clear hown hgrow
      go_wp2_with fail
      go_roundw
      case rel => exact ⟨k + 1, by omega, by go_num, HO3.out, HB3.out⟩
      case measure => simp [intOf]; omega
    · have hkli : ¬ (k : Int) < (xs.length : Int) := by omega
      have HOE : Hid (OwnStrs wr w.heap.size u3 xs) := by have := HO.out; rw [List.take_of_length_le (by omega)] at this; exact this
      clear HO
      have h := HOE.out
      obtain ⟨av, cv, rfl, _⟩ := h.at
      go_wp2_with fail
      go_ret
      exact ⟨⟨_, rfl, HOE.out⟩, hb⟩

end Go.Proofs.YtifbnojkjbjngaaDoor
