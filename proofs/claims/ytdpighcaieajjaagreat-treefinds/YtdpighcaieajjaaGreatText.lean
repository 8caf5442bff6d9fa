/- The text of names: by the program (a builder) and by the page. -/
import Derived.Test.YtdpighcaieajjaaGreatStrs
namespace Go.Proofs.YtdpighcaieajjaaGreat
open Go.RowKit

def flN (xs : List ByteArray) : List UInt8 := fl (xs.map ls)
theorem flN_snoc (xs : List ByteArray) (x : ByteArray) : flN (xs ++ [x]) = flN xs ++ 47 :: ls x := by simp [flN, fl_snoc]
theorem flN_succ {xs : List ByteArray} {k : Nat} (h : k < xs.length) : flN (xs.take (k + 1)) = flN (xs.take k) ++ 47 :: ls (xs.getD k ByteArray.empty) := by
  rw [List.take_succ_eq_append_getElem h, flN_snoc]; simp [List.getD, h]
theorem flN_le {xs : List ByteArray} (k : Nat) : (flN (xs.take k)).length ≤ (flN xs).length := by
  have e : flN xs = flN (xs.take k) ++ flN (xs.drop k) := by
    unfold flN; rw [← fl_append, ← List.map_append, List.take_append_drop]
  rw [e, List.length_append]; omega
theorem tx_cons {xs : List ByteArray} (h : xs ≠ []) : tx xs = bs (flN xs) := by
  unfold tx txL flN
  rw [if_neg (by simpa using h)]
theorem bcells (l : List UInt8) (s : ByteArray) : Lib.byteCells l ++ [.int .u8 47] ++ Lib.strCells s = Lib.byteCells (l ++ 47 :: ls s) := by
  simp [Lib.byteCells, Lib.strCells, ls]
theorem bcells_len (l : List UInt8) : (Lib.byteCells l).length = l.length := by simp [Lib.byteCells]

set_option maxRecDepth 100000 in
set_option maxHeartbeats 1000000 in
theorem text_any (g : Nat) (a : Option Addr) (xs : List ByteArray) (cap : Nat) (w : World) (hg : w.cell? ⟨g, 0, none⟩ = some (.slice a xs.length cap)) (hx : StrsAt w a xs) (hl : xs.length ≤ 4000) (ht : (flN xs).length ≤ 4000) :
    Calls Tryz.prog 121 #[.pointer (some ⟨g, 0, none⟩)] w fun e w' => e = .returned (.string (tx xs)) ∧ Below w.heap.size w w' := by
  have HX : Hid (StrsAt w a xs) := hx
  clear hx
  by_cases h0 : xs.length = 0
  · have e0 : xs = [] := List.length_eq_zero_iff.1 h0
    subst e0
    simp only [List.length_nil] at hg
    go_enter Tryz.func121, Tryz.ntmps121
    go_wp2_with fail
    go_ret
    exact ⟨rfl, nwR w⟩
  · have HT : Hid (tx xs = bs (flN xs)) := tx_cons (by intro e; exact h0 (by simp [e]))
    have hh0 : ((xs.length : Int) == 0) = false := beq_eq_false_iff_ne.2 (by omega)
    have hgl : g < w.heap.size := block_lt_of_cell hg
    go_enter Tryz.func121, Tryz.ntmps121
    go_wp2_with fail
    obtain ⟨W0, hW0⟩ : ∃ W0, W0 = w.alloc (.cells #[.pointer none, .slice none 0 0] 155) := ⟨_, rfl⟩
    have hb0 : Below w.heap.size w W0 := by rw [hW0]; exact nwA (nwR w) _
    have HB0 : Hid (Bd w.heap.size w.heap.size [] W0) := by rw [hW0]; exact Lib.fresh_isBuilder 155 5 w
    rw [← hW0]
    clear hW0
    go_loopw [17] (fun i wr => ∃ (k : Nat), k ≤ xs.length ∧ i = .int .i64 k ∧ Bd w.heap.size w.heap.size (Lib.byteCells (flN (xs.take k))) wr ∧ Below w.heap.size w wr)
      (fun i _ => xs.length - (intOf i).toNat)
    case atStart => exact ⟨0, by omega, rfl, HB0.out, hb0⟩
    case round =>
      obtain ⟨k, hk, rfl, hbd, hb⟩ := hrel
      have HBD : Hid (Bd w.heap.size w.heap.size (Lib.byteCells (flN (xs.take k))) wr) := hbd
      clear hbd
      by_cases hlt : k < xs.length
      · have hlti : (k : Int) < (xs.length : Int) := by omega
        obtain ⟨b1, o1, rfl, hc⟩ := HX.out.cell hlt
        have hc1 : wr.cell? ⟨b1, o1 + k, none⟩ = some (.string (xs.getD k ByteArray.empty)) := (hb.cell (p := ⟨b1, o1 + k, none⟩) (block_lt_of_cell hc)).trans hc
        have HS : Hid (flN (xs.take (k + 1)) = flN (xs.take k) ++ 47 :: ls (xs.getD k ByteArray.empty)) := flN_succ hlt
        have hle : (flN (xs.take k)).length + 1 + (xs.getD k ByteArray.empty).size ≤ 4000 := by
          have h1 := flN_le (xs := xs) (k + 1)
          rw [HS.out, List.length_append, List.length_cons, ls_size] at h1
          omega
        clear hc
        generalize xs.getD k ByteArray.empty = x at hc1 HS hle
        generalize flN (xs.take k) = L at HBD HS hle
        go_wp2_with fail
        refine (wbyte_any _ _ _ _ _ HBD.out (by rw [bcells_len]; omega) hb.size).mono ?_
        rintro e w1 ⟨rfl, hbd1, hb1⟩
        have hb1' := hb.trans hb1
        have HB1 : Hid (Bd w.heap.size w.heap.size (Lib.byteCells L ++ [.int .u8 47]) w1) := hbd1
        clear hbd1 hb1 HBD hc1
        go_wp2_with fail
        refine (wstr_any _ _ _ _ _ HB1.out (by rw [List.length_append, bcells_len, List.length_singleton]; omega) hb1'.size).mono ?_
        rintro e w2 ⟨rfl, hbd2, hb2⟩
        have hb2' := hb1'.trans hb2
        have HB2 : Hid (Bd w.heap.size w.heap.size (Lib.byteCells (flN (xs.take (k + 1)))) w2) := by
          rw [HS.out, ← bcells]; exact hbd2
        clear hbd2 hb2 HB1
        go_wp2_with fail
        go_roundw
        case rel => exact ⟨k + 1, by omega, by go_num, HB2.out, hb2'⟩
        case measure => simp [intOf]; omega
      · have hke : xs.take k = xs := List.take_of_length_le (by omega)
        have hlti : ¬ (k : Int) < (xs.length : Int) := by omega
        rw [hke] at HBD
        go_wp2_with fail
        refine (Tryz.Builder_String_any _ _ _ _ HBD.out hb.size).mono ?_
        rintro e w1 ⟨rfl, hb1⟩
        go_wp2_with fail
        go_ret
        exact ⟨by rw [HT.out]; rfl, hb.trans hb1⟩

/-- does it fit? -/
def fitB (xs : List ByteArray) : Bool := decide (xs.length ≤ 5) && decide ((tx xs).size ≤ 45)

set_option maxRecDepth 100000 in
set_option maxHeartbeats 1000000 in
theorem fits_any (g : Nat) (a : Option Addr) (xs : List ByteArray) (cap : Nat) (w : World) (hg : w.cell? ⟨g, 0, none⟩ = some (.slice a xs.length cap)) (hx : StrsAt w a xs) (hl : xs.length ≤ 4000) (ht : (flN xs).length ≤ 4000) :
    Calls Tryz.prog 114 #[.pointer (some ⟨g, 0, none⟩)] w fun e w' => e = .returned (.bool (fitB xs)) ∧ Below w.heap.size w w' := by
  have HX : Hid (StrsAt w a xs) := hx
  have HG : Hid (w.cell? ⟨g, 0, none⟩ = some (.slice a xs.length cap)) := hg
  clear hx
  by_cases h5 : xs.length ≤ 5
  · have h5i : (xs.length : Int) ≤ 5 := by omega
    go_enter Tryz.func114, Tryz.ntmps114
    go_wp2_with fail
    refine (text_any g a xs cap _ HG.out HX.out hl ht).mono ?_
    rintro e w1 ⟨rfl, hb1⟩
    have HF : Hid (fitB xs = decide (((tx xs).size : Int) ≤ 45)) := by
      show _ = _
      unfold fitB; rw [decide_eq_true h5, Bool.true_and, Bool.eq_iff_iff]; simp; omega
    generalize tx xs = t at HF
    go_wp2_with fail
    go_ret
    exact ⟨ret_bool HF.out.symm, hb1⟩
  · have h5i : ¬ (xs.length : Int) ≤ 5 := by omega
    have HF : Hid (fitB xs = false) := by show _ = _; unfold fitB; rw [decide_eq_false h5]; rfl
    go_enter Tryz.func114, Tryz.ntmps114
    go_wp2_with fail
    go_ret
    exact ⟨ret_bool HF.out.symm, nwR w⟩

theorem bs_app (l : List UInt8) (x : ByteArray) : bs l ++ bs [47] ++ x = bs (l ++ 47 :: ls x) := by
  apply ls_inj
  have h : ∀ a b : ByteArray, ls (a ++ b) = ls a ++ ls b := fun a b => by simp [ls]
  rw [h, h, ls_bs, ls_bs, ls_bs]; simp

end Go.Proofs.YtdpighcaieajjaaGreat
