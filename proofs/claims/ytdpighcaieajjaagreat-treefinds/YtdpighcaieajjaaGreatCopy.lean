/- Copies, by the page's own helpers. -/
import Derived.Test.YtdpighcaieajjaaGreatData
namespace Go.Proofs.YtdpighcaieajjaaGreat
open Go.RowKit

set_option maxRecDepth 100000 in
set_option maxHeartbeats 1000000 in
theorem copyNums_any (a : Option Addr) (xs : List Int) (ca : Nat) (w : World) (hx : IntsAt w a xs) (hl : xs.length ≤ 100000) :
    Calls Tryz.prog 92 #[.slice a xs.length ca] w fun e w' => (∃ v, e = .returned v ∧ OwnInts w' w.heap.size v xs) ∧ Below w.heap.size w w' := by
  have HX : Hid (IntsAt w a xs) := hx
  clear hx
  obtain ⟨i0, hi, hz0, hz1, hz2⟩ := info_parts Tryz.info3
  go_enter Tryz.func92, Tryz.ntmps92
  go_wp2_with fail
  go_loopw [3, 4] (fun v i wr => ∃ (k : Nat), k ≤ xs.length ∧ i = .int .i64 k ∧ OwnInts wr w.heap.size v (xs.take k) ∧ Below w.heap.size w wr)
    (fun _ i _ => xs.length - (intOf i).toNat)
  case atStart => exact ⟨0, by omega, rfl, World.ownsRow_nil _ _ _ _, nwR w⟩
  case round =>
    obtain ⟨k, hk, rfl, hO, hb⟩ := hrel
    have HO : Hid (OwnInts wr w.heap.size u3 (xs.take k)) := hO
    clear hO
    by_cases hkl : k < xs.length
    · have hkli : (k : Int) < (xs.length : Int) := by omega
      obtain ⟨b1, o1, rfl, hc0⟩ := HX.out.cell hkl
      have hc : wr.cell? ⟨b1, o1 + k, none⟩ = some (.int .i64 (xs.getD k 0)) := (hb.cell (p := ⟨b1, o1 + k, none⟩) (block_lt_of_cell hc0)).trans hc0
      have HS : Hid (xs.take (k + 1) = xs.take k ++ [xs.getD k 0]) := by
        show _ = _
        rw [List.take_succ_eq_append_getElem hkl]; simp [List.getD, hkl]
      have hlt : (xs.take k).length ≤ 100000 := by rw [List.length_take]; omega
      generalize xs.getD k 0 = x at hc HS
      generalize xs.take k = ys at HO HS hlt
      clear hc0
      have hsz : w.heap.size ≤ (wr.alloc (.cells #[.int .i64 x] 3)).heap.size := (nwA hb _).size
      have hc3 : ys.length + 1 ≤ maxLen := by unfold maxLen; omega
      have hc4 : (ys.length + 1) * 8 ≤ 140737488355328 := by omega
      go_wp2_with (at_builtin; refine wpList_append_own _ rfl (.tmp 11) (.tmp 16) 36 rfl w.heap.size 3 i0 (.int .i64 0) 1 8 Tryz.underlying36 hi hz0 hz1 hz2 rfl (by decide) u3 ys.length (ys.map (.int .i64)) rfl (World.ownsRow.alloc HO.out _) ⟨wr.heap.size, 0, none⟩ 1 1 [.int .i64 x] rfl rfl (cells_new _ [.int .i64 x] _) (by simp [Value.oneCell']) hc3 hc4 hsz ?_; intro v' w3 hown hgrow _; refine unstop ?_)
      unfold Stop
      have HB3 : Hid (Below w.heap.size w w3) := (nwA hb _).grown hgrow (nwA hb _).size (fun q e => (HO.out.lt q e).1)
      have HO3 : Hid (OwnInts w3 w.heap.size v' (xs.take (k + 1))) := by rw [HS.out]; exact OwnInts.snoc hown
      clear hown hgrow
      go_wp2_with fail
      go_roundw
      case rel => exact ⟨k + 1, by omega, by go_num, HO3.out, HB3.out⟩
      case measure => simp [intOf]; omega
    · have hkli : ¬ (k : Int) < (xs.length : Int) := by omega
      have HOE : Hid (OwnInts wr w.heap.size u3 xs) := by have := HO.out; rw [List.take_of_length_le (by omega)] at this; exact this
      clear HO
      have h := HOE.out
      obtain ⟨av, cv, rfl, _⟩ := h.at
      go_wp2_with fail
      go_ret
      exact ⟨⟨_, rfl, HOE.out⟩, hb⟩

set_option maxRecDepth 100000 in
set_option maxHeartbeats 1000000 in
theorem copyLinks_any (a : Option Addr) (xs : List LinkD) (ca : Nat) (w : World) (hx : LinksAt w a xs) (hl : xs.length ≤ 100000) :
    Calls Tryz.prog 93 #[.slice a xs.length ca] w fun e w' => (∃ v, e = .returned v ∧ OwnLinks w' w.heap.size v xs) ∧ Below w.heap.size w w' := by
  have HX : Hid (LinksAt w a xs) := hx
  clear hx
  obtain ⟨i0, hi, hz0, hz1, hz2⟩ := info_parts Tryz.info87
  go_enter Tryz.func93, Tryz.ntmps93
  go_wp2_with fail
  go_loopw [3, 4] (fun v i wr => ∃ (k : Nat), k ≤ xs.length ∧ i = .int .i64 k ∧ OwnLinks wr w.heap.size v (xs.take k) ∧ Below w.heap.size w wr)
    (fun _ i _ => xs.length - (intOf i).toNat)
  case atStart => exact ⟨0, by omega, rfl, World.ownsRow_nil _ _ _ _, nwR w⟩
  case round =>
    obtain ⟨k, hk, rfl, hO, hb⟩ := hrel
    have HO : Hid (OwnLinks wr w.heap.size u3 (xs.take k)) := hO
    clear hO
    by_cases hkl : k < xs.length
    · have hkli : (k : Int) < (xs.length : Int) := by omega
      obtain ⟨b1, o1, rfl, hc0, hd0⟩ := HX.out.cell hkl
      have hc : wr.cell? ⟨b1, o1 + k * 2, none⟩ = some (.string (xs.getD k lk0).1) := (hb.cell (p := ⟨b1, o1 + k * 2, none⟩) (block_lt_of_cell hc0)).trans hc0
      have hd : wr.cell? ⟨b1, o1 + k * 2 + 1, none⟩ = some (.int .i64 (xs.getD k lk0).2) := (hb.cell (p := ⟨b1, o1 + k * 2 + 1, none⟩) (block_lt_of_cell hd0)).trans hd0
      have HS : Hid (xs.take (k + 1) = xs.take k ++ [xs.getD k lk0]) := by
        show _ = _
        rw [List.take_succ_eq_append_getElem hkl]; simp [List.getD, hkl]
      have hlt : (xs.take k).length ≤ 100000 := by rw [List.length_take]; omega
      generalize xs.getD k lk0 = x at hc hd HS
      generalize xs.take k = ys at HO HS hlt
      clear hc0 hd0
      obtain ⟨x1, x2⟩ := x
      simp only at hc hd
      have hsz : w.heap.size ≤ (wr.alloc (.cells #[.string x1, .int .i64 x2] 87)).heap.size := (nwA hb _).size
      have hc3 : ys.length + 1 ≤ maxLen := by unfold maxLen; omega
      have hc4 : (ys.length + 1) * 24 ≤ 140737488355328 := by omega
      go_wp2_with (at_builtin; refine wpList_append_own _ rfl (.tmp 11) (.tmp 16) 37 rfl w.heap.size 87 i0 (.agg #[.string ⟨#[]⟩, .int .i64 0]) 2 24 Tryz.underlying37 hi hz0 hz1 hz2 rfl (by decide) u3 ys.length (lflat ys) rfl (World.ownsRow.alloc HO.out _) ⟨wr.heap.size, 0, none⟩ 1 1 [.string x1, .int .i64 x2] rfl rfl (cells_new _ [.string x1, .int .i64 x2] _) (by simp [Value.oneCell']) hc3 hc4 hsz ?_; intro v' w3 hown hgrow _; refine unstop ?_)
      unfold Stop
      have HB3 : Hid (Below w.heap.size w w3) := (nwA hb _).grown hgrow (nwA hb _).size (fun q e => (HO.out.lt q e).1)
      have HO3 : Hid (OwnLinks w3 w.heap.size v' (xs.take (k + 1))) := by rw [HS.out]; exact OwnLinks.snoc hown
      clear hown hgrow
      go_wp2_with fail
      go_roundw
      case rel => exact ⟨k + 1, by omega, by go_num, HO3.out, HB3.out⟩
      case measure => simp [intOf]; omega
    · have hkli : ¬ (k : Int) < (xs.length : Int) := by omega
      have HOE : Hid (OwnLinks wr w.heap.size u3 xs) := by have := HO.out; rw [List.take_of_length_le (by omega)] at this; exact this
      clear HO
      have h := HOE.out
      obtain ⟨av, cv, rfl, _⟩ := h.at
      go_wp2_with fail
      go_ret
      exact ⟨⟨_, rfl, HOE.out⟩, hb⟩

end Go.Proofs.YtdpighcaieajjaaGreat
