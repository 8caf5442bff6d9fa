/- What the statements use beside: how much there is, copies, what wakes. -/
import Derived.Test.YtecfaebflmgcaaaSplit
import Derived.Test.YtecfaebflmgcaaaEqs
import Derived.Test.YtecfaebflmgcaaaUnder
namespace Go.Proofs.Ytecfaebflmgcaaa
open Go.RowKit

theorem num_any (n : Int) (w : World) : Calls Try.prog 12 #[.int .i64 n] w fun e w' => e = .returned (.int .i64 n) ∧ w' = w := by
  go_enter Try.func12, Try.ntmps12
  go_wp2
  go_ret
  exact ⟨rfl, rfl⟩

theorem flN_len (xs : List ByteArray) : xs.length ≤ (flN xs).length := by
  induction xs with
  | nil => simp
  | cons x xs ih =>
    have e : flN (x :: xs) = 47 :: ls x ++ flN xs := by simp [flN, fl_cons]
    rw [e]; simp only [List.length_append, List.length_cons]; omega

def TxPost (xs : List ByteArray) (w : World) (e : Ending) (w' : World) : Prop := ∃ t : Nat, e = .returned (.int .i64 t) ∧ w' = w ∧ (t ≤ 3000 → (flN xs).length ≤ 3000)

set_option maxHeartbeats 1000000 in
theorem texts_any (a : Option Addr) (xs : List ByteArray) (ca : Nat) (w : World) (hx : StrsAt w a xs) (hl : xs.length ≤ 140737488351232) (hz : ∀ x ∈ xs, x.size ≤ 140737488351232) :
    Calls Try.prog 22 #[.slice a xs.length ca] w (TxPost xs w) := by
  have HX : Hid (StrsAt w a xs) := hx
  have HZ : Hid (∀ x ∈ xs, x.size ≤ 140737488351232) := hz
  clear hx hz
  go_enter Try.func22, Try.ntmps22
  go_wp2_with fail
  go_loop [3, 4] (fun n i => ∃ (k t : Nat), k ≤ xs.length ∧ i = .int .i64 k ∧ n = .int .i64 t ∧ t ≤ 1000000000000000 ∧ Hid (t = (flN (xs.take k)).length + (xs.length - k)))
    (fun _ i => xs.length - (intOf i).toNat)
  case atStart => exact ⟨0, xs.length, by omega, rfl, rfl, by omega, by show _ = _; simp [flN, fl]⟩
  case round =>
    obtain ⟨k, t, hk, rfl, rfl, ht, HT⟩ := hrel
    by_cases hkl : k < xs.length
    · have hkli : (k : Int) < (xs.length : Int) := by omega
      by_cases ht2 : (t : Int) < 1048576
      · obtain ⟨b1, o1, rfl, hc⟩ := HX.out.cell hkl
        have hq := HZ.out (xs.getD k ByteArray.empty) (by simp [List.getD, hkl])
        have HT' : Hid (t + (xs.getD k ByteArray.empty).size = (flN (xs.take (k + 1))).length + (xs.length - (k + 1))) := by
          show _ = _
          rw [flN_succ hkl, List.length_append, List.length_cons, ls_size, HT.out]; omega
        generalize xs.getD k ByteArray.empty = x at hc hq HT'
        go_wp2_with fail
        go_round
        case rel => exact ⟨k + 1, t + x.size, by omega, by go_num, by go_num, by omega, HT'⟩
        case measure => simp [intOf]; omega
      · go_wp2_with fail
        go_ret
        exact ⟨t, rfl, rfl, fun h => by omega⟩
    · have hkli : ¬ (k : Int) < (xs.length : Int) := by omega
      have HE : Hid (t ≤ 3000 → (flN xs).length ≤ 3000) := by
        intro h
        have e := HT.out
        rw [List.take_of_length_le (by omega)] at e
        omega
      go_wp2_with fail
      go_ret
      exact ⟨t, rfl, rfl, HE.out⟩

def HvPost (xs : List ByteArray) (w : World) (e : Ending) (w' : World) : Prop := ∃ q : Bool, e = .returned (.bool q) ∧ Below w.heap.size w w' ∧ (q = false → (flN xs).length ≤ 3000)

set_option maxHeartbeats 1000000 in
theorem heavy_any (a : Option Addr) (xs : List ByteArray) (ca : Nat) (w : World) (hx : StrsAt w a xs) (hl : xs.length ≤ 140737488351232) (hz : ∀ x ∈ xs, x.size ≤ 140737488351232) :
    Calls Try.prog 7 #[.agg #[.slice a xs.length ca]] w (HvPost xs w) := by
  go_enter Try.func7, Try.ntmps7
  go_wp2_with fail
  refine (texts_any a xs ca _ (hx.below (nwA (nwR w) _)) hl hz).mono ?_
  rintro e w1 ⟨t, rfl, rfl, ht⟩
  go_wp2_with fail
  go_ret
  exact ⟨_, rfl, nwA (nwR w) _, fun h => ht (by simp at h; omega)⟩

set_option maxHeartbeats 1000000 in
theorem copy_strs (a : Option Addr) (xs : List ByteArray) (ca : Nat) (w : World) (hx : StrsAt w a xs) (hl : xs.length ≤ 4000) :
    Calls Try.prog 20 #[.slice a xs.length ca] w fun e w' => (∃ v, e = .returned v ∧ OwnStrs w' w.heap.size v xs) ∧ Below w.heap.size w w' := by
  have HX : Hid (StrsAt w a xs) := hx
  clear hx
  obtain ⟨i0, hi, hz0, hz1, hz2⟩ := info_parts Try.info9
  go_enter Try.func20, Try.ntmps20
  go_wp2_with fail
  go_loopw [3, 4] (fun v i wr => ∃ (k : Nat), k ≤ xs.length ∧ i = .int .i64 k ∧ OwnStrs wr w.heap.size v (xs.take k) ∧ Below w.heap.size w wr)
    (fun _ i _ => xs.length - (intOf i).toNat)
  case atStart => exact ⟨0, by omega, rfl, World.ownsRow_nil _ _ _ _, nwR w⟩
  case round =>
    obtain ⟨k, hk, rfl, hO, hb⟩ := hrel
    have HO : Hid (OwnStrs wr w.heap.size u3 (xs.take k)) := hO
    clear hO
    by_cases hkl : k < xs.length
    · have hkli : (k : Int) < (xs.length : Int) := by omega
      obtain ⟨b1, o1, rfl, hc0⟩ := HX.out.cell hkl
      have hc : wr.cell? ⟨b1, o1 + k, none⟩ = some (.string (xs.getD k ByteArray.empty)) := (hb.cell (p := ⟨b1, o1 + k, none⟩) (block_lt_of_cell hc0)).trans hc0
      have HS : Hid (xs.take (k + 1) = xs.take k ++ [xs.getD k ByteArray.empty]) := by
        show _ = _
        rw [List.take_succ_eq_append_getElem hkl]; simp [List.getD, hkl]
      have hlt : (xs.take k).length ≤ 4000 := by rw [List.length_take]; omega
      generalize xs.getD k ByteArray.empty = x at hc HS
      generalize xs.take k = ys at HO HS hlt
      clear hc0
      have hsz : w.heap.size ≤ (wr.alloc (.cells #[.string x] 9)).heap.size := (nwA hb _).size
      have hc3 : ys.length + 1 ≤ maxLen := by unfold maxLen; omega
      have hc4 : (ys.length + 1) * 16 ≤ 140737488355328 := by omega
      go_wp2_with (at_builtin; refine wpList_append_own _ rfl (.tmp 11) (.tmp 16) 22 rfl w.heap.size 9 i0 (.string ⟨#[]⟩) 1 16 Try.underlying22 hi hz0 hz1 hz2 rfl (by decide) u3 ys.length (ys.map .string) rfl (World.ownsRow.alloc HO.out _) ⟨wr.heap.size, 0, none⟩ 1 1 [.string x] rfl rfl (cell_one _ _ _) (by simp [Value.oneCell']) hc3 hc4 hsz ?_; intro v' w3 hown hgrow _; refine unstop ?_)
      unfold Stop
      have HB3 : Hid (Below w.heap.size w w3) := (nwA hb _).grown hgrow (nwA hb _).size (fun q e => (HO.out.lt q e).1)
      have HO3 : Hid (OwnStrs w3 w.heap.size v' (xs.take (k + 1))) := by rw [HS.out]; exact OwnStrs.snoc hown
      clear hown hgrow
      go_wp2_with fail
      go_roundw
      case rel => exact ⟨k + 1, by omega, by go_num, HO3.out, HB3.out⟩
      case measure => simp [intOf]; omega
    · have hkli : ¬ (k : Int) < (xs.length : Int) := by omega
      have HOE : Hid (OwnStrs wr w.heap.size u3 xs) := by have := HO.out; rw [List.take_of_length_le (by omega)] at this; exact this
      clear HO
      have h := HOE.out
      obtain ⟨av, cv, rfl, _⟩ := h.at
      go_wp2_with fail
      go_ret
      exact ⟨⟨_, rfl, HOE.out⟩, hb⟩

theorem path_ab : pathN ⟨#[47, 97, 47, 98]⟩ = some [⟨#[97]⟩, ⟨#[98]⟩] := by decide +kernel

set_option maxHeartbeats 1000000 in
theorem wakes_any (w : World) : Calls Try.prog 19 #[] w fun e w' => e = .returned (.bool true) ∧ Below w.heap.size w w' := by
  go_enter Try.func19, Try.ntmps19
  go_wp2_with fail
  refine (split_any _ _).mono ?_
  rintro e w1 ⟨hR, hb1⟩
  rcases hR with ⟨xs, v, hp, rfl, ho⟩ | ⟨hp, rfl⟩
  · rw [path_ab] at hp
    injection hp with hp
    subst hp
    obtain ⟨a, ca, rfl, hs⟩ := ho.at
    have HS : Hid (StrsAt w1 a [⟨#[97]⟩, ⟨#[98]⟩]) := hs
    have HB : Hid (Below w.heap.size w w1) := hb1
    clear ho hs hb1
    go_wp2_with (go_at_call 12; refine (num_any _ _).mono ?_; rintro e w' ⟨rfl, rfl⟩)
    refine (eqs_any a (some ⟨w'.heap.size, 0, none⟩) [⟨#[97]⟩, ⟨#[98]⟩] [⟨#[97]⟩, ⟨#[98]⟩] ca 2 _ (HS.out.below (nwA (nwR _) _)) (StrsAt.of_alloc rfl) (by simp [maxLen])).mono ?_
    rintro e w2 ⟨rfl, q, rfl⟩
    rw [decide_eq_true (rfl : ([⟨#[97]⟩, ⟨#[98]⟩] : List ByteArray) = [⟨#[97]⟩, ⟨#[98]⟩])]
    go_wp2_with fail
    go_ret
    exact ⟨rfl, below_drewN (nwA HB.out _) _⟩
  · rw [path_ab] at hp; cases hp

end Go.Proofs.Ytecfaebflmgcaaa
