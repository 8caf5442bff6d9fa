/- Which sizes a file may have; which files may be by themselves, by the program. -/
import Derived.Test.YtdpighcaieajjaaGreatNames
namespace Go.Proofs.YtdpighcaieajjaaGreat
open Go.RowKit

def SizeOk (f : FileD) : Prop := numB f.size 200 = true ∧ (f.blocks.length : Int) = (f.size + 31) / 32 ∧ ∀ k, k < f.blocks.length → numB (f.blocks.getD k 0) 1073741823 = true
theorem withinB_one (lo hi n : Int) : withinB lo hi [n] = (decide (lo ≤ n) && decide (n ≤ hi)) := by simp [withinB]
theorem within_is (lo hi : Int) (a : Option Addr) (ns : List Int) (c : Nat) (w : World) (b : Bool) (hv : IntsAt w a ns) (hl : ns.length ≤ 100000) (h : withinB lo hi ns = b) :
    Calls Tryz.prog 55 #[.int .i64 lo, .int .i64 hi, .slice a ns.length c] w fun e w' => e = .returned (.bool b) ∧ w' = w := by
  rw [← h]; exact within_any lo hi a ns c w hv hl
theorem withinB_all {lo hi : Int} {ns : List Int} : withinB lo hi ns = true ↔ ∀ k, k < ns.length → lo ≤ ns.getD k 0 ∧ ns.getD k 0 ≤ hi := by
  refine ⟨fun h k hk => ?_, withinB_yes⟩
  by_cases hn : lo ≤ ns.getD k 0 ∧ ns.getD k 0 ≤ hi
  · exact hn
  · rw [withinB_no hk hn] at h; cases h
theorem intsAt_new (w : World) (n : Int) : IntsAt (w.alloc (.cells #[.int .i64 n] 3)) (some ⟨w.heap.size, 0, none⟩) [n] :=
  .inr ⟨w.heap.size, 0, rfl, fun i hi => by
    have : i = 0 := by simpa using hi
    subst this
    simp⟩

set_option maxRecDepth 100000 in
set_option maxHeartbeats 2000000 in
theorem size_any (v : Value) (f : FileD) (w : World) (hv : NodeVal w v f) (hs : SmallF f) :
    Calls Tryz.prog 125 #[v] w fun e w' => SaysB e (SizeOk f) ∧ Below w.heap.size w w' := by
  obtain ⟨b, o, rfl, hf⟩ := hv
  obtain ⟨ab, cb, al, cl, ⟨c0, c1, c2, c3, c4⟩, ⟨hib, _⟩, _, _⟩ := hf
  obtain ⟨fid, fdir, fsize, fbl, fli⟩ := f
  simp only [SmallF] at *
  have hl := hs.1
  have HI : Hid (IntsAt w ab fbl) := hib
  clear hib hs c0 c1 c4
  have hb : b < w.heap.size := block_lt_of_cell c3
  obtain ⟨W1, hW1⟩ : ∃ W1, W1 = (w.alloc (.cells #[.pointer (some ⟨b, o, none⟩)] 81)).alloc (.cells #[.int .i64 fsize] 3) := ⟨_, rfl⟩
  have HB1 : Hid (Below w.heap.size w W1) := by rw [hW1]; exact nwA (nwA (nwR w) _) _
  have HN1 : Hid (IntsAt W1 (some ⟨w.heap.size + 1, 0, none⟩) [fsize]) := by
    have := intsAt_new (w.alloc (.cells #[.pointer (some ⟨b, o, none⟩)] 81)) fsize
    show IntsAt _ _ _; rw [← hW1] at this; simpa using this
  have HP : Hid (W1.cell? ⟨w.heap.size, 0, none⟩ = some (.pointer (some ⟨b, o, none⟩))) := by rw [hW1]; show _ = _; simp
  cases hn : numB fsize 200
  · have HNO : Hid (¬ SizeOk ⟨fid, fdir, fsize, fbl, fli⟩) := fun h => by have := h.1; simp only at this; rw [hn] at this; cases this
    have HW : Hid (withinB 0 200 [fsize] = false) := by rw [withinB_one]; exact hn
    go_enter Tryz.func125, Tryz.ntmps125
    go_wp2_with fail
    rw [← hW1]
    refine (within_is 0 200 (some ⟨w.heap.size + 1, 0, none⟩) [fsize] 1 W1 false HN1.out (by simp) HW.out).mono ?_
    rintro e w' ⟨rfl, rfl⟩
    clear hW1
    go_wp2_with fail
    go_ret
    exact ⟨says_no HNO.out, HB1.out⟩
  · have HW : Hid (withinB 0 200 [fsize] = true) := by rw [withinB_one]; exact hn
    have hn0 : 0 ≤ fsize ∧ fsize ≤ 200 := by simpa [numB] using hn
    obtain ⟨n0, n1⟩ := hn0
    have HNUM : Hid (numB fsize 200 = true) := hn
    have q2 : W1.cell? ⟨b, o + 2, none⟩ = some (.int .i64 fsize) := (HB1.out.cell (p := ⟨b, o + 2, none⟩) hb).trans c2
    have q3 : W1.cell? ⟨b, o + 3, none⟩ = some (.slice ab fbl.length cb) := (HB1.out.cell (p := ⟨b, o + 3, none⟩) hb).trans c3
    have HI1 : Hid (IntsAt W1 ab fbl) := HI.out.below HB1.out
    clear HI hn
    go_enter Tryz.func125, Tryz.ntmps125
    go_wp2_with fail
    rw [← hW1]
    refine (within_is 0 200 (some ⟨w.heap.size + 1, 0, none⟩) [fsize] 1 W1 true HN1.out (by simp) HW.out).mono ?_
    rintro e w' ⟨rfl, rfl⟩
    have p0 := HP.out
    have e1 : IntKind.i64.wrap (fsize + 32) = fsize + 32 := wrap_any (by omega) (by omega)
    have e2 : IntKind.i64.wrap (fsize + 32 - 1) = fsize + 32 - 1 := wrap_any (by omega) (by omega)
    have e3 : IntKind.i64.wrap ((fsize + 32 - 1).tdiv 32) = (fsize + 31) / 32 := by
      rw [show fsize + 32 - 1 = fsize + 31 from by omega, Int.tdiv_eq_ediv_of_nonneg (by omega)]
      exact wrap_any (by omega) (by omega)
    clear hW1 c2 c3
    by_cases h3 : (fbl.length : Int) = (fsize + 31) / 32
    · have d3 : ((fbl.length : Int) == (fsize + 31) / 32) = true := by simpa using h3
      have HH3 : Hid ((fbl.length : Int) = (fsize + 31) / 32) := h3
      clear h3
      cases hw : withinB 0 1073741823 fbl
      · have HNO : Hid (¬ SizeOk ⟨fid, fdir, fsize, fbl, fli⟩) := fun h => by
          have h2 : withinB 0 1073741823 fbl = true := withinB_yes (fun k hk => by have := h.2.2 k hk; simpa [numB] using this)
          rw [hw] at h2; cases h2
        go_wp2_with fail
        go_quiet (first | (go_at_call 55; exact Calls.quiet_of_same (within_is _ _ _ _ _ _ false HI1.out hl hw)) | fail)
        go_wp2_with fail
        go_ret
        exact ⟨says_no HNO.out, below_drewN HB1.out _⟩
      · have HYES : Hid (SizeOk ⟨fid, fdir, fsize, fbl, fli⟩) := ⟨HNUM.out, HH3.out, fun k hk => by have := withinB_all.1 hw k hk; simpa [numB] using this⟩
        go_wp2_with fail
        go_quiet (first | (go_at_call 55; exact Calls.quiet_of_same (within_is _ _ _ _ _ _ true HI1.out hl hw)) | fail)
        go_wp2_with fail
        go_ret
        exact ⟨says_yes HYES.out, below_drewN HB1.out _⟩
    · have HNO : Hid (¬ SizeOk ⟨fid, fdir, fsize, fbl, fli⟩) := fun h => h3 h.2.1
      have d3 : ((fbl.length : Int) == (fsize + 31) / 32) = false := by simpa using h3
      clear h3
      go_wp2_with fail
      go_quiet (fail)
      go_wp2_with fail
      go_ret
      exact ⟨says_no HNO.out, below_drewN HB1.out _⟩

def NodeOk (f : FileD) : Prop := if f.dir then f.size = 0 ∧ f.blocks.length = 0 ∧ NamesOk f.list else f.list.length = 0 ∧ SizeOk f

set_option maxRecDepth 100000 in
set_option maxHeartbeats 2000000 in
theorem nmay_any (v : Value) (f : FileD) (w : World) (hv : NodeVal w v f) (hs : SmallF f) :
    Calls Tryz.prog 111 #[v] w fun e w' => SaysB e (NodeOk f) ∧ Below w.heap.size w w' := by
  have HV : Hid (NodeVal w v f) := hv
  have HS : Hid (SmallF f) := hs
  obtain ⟨b, o, rfl, hf⟩ := hv
  obtain ⟨ab, cb, al, cl, ⟨c0, c1, c2, c3, c4⟩, _, _, _⟩ := hf
  have hb : b < w.heap.size := block_lt_of_cell c4
  have HB1 : Hid (Below w.heap.size w (w.alloc (.cells #[.pointer (some ⟨b, o, none⟩)] 81))) := nwA (nwR w) _
  have HNM : Hid (Calls Tryz.prog 124 #[.agg #[.pointer (some ⟨b, o, none⟩)]] (w.alloc (.cells #[.pointer (some ⟨b, o, none⟩)] 81)) fun e w' => SaysB e (NamesOk f.list) ∧ Below (w.alloc (.cells #[.pointer (some ⟨b, o, none⟩)] 81)).heap.size (w.alloc (.cells #[.pointer (some ⟨b, o, none⟩)] 81)) w') := names_any _ f _ (HV.out.below HB1.out) HS.out
  have HSZ : Hid (Calls Tryz.prog 125 #[.agg #[.pointer (some ⟨b, o, none⟩)]] (w.alloc (.cells #[.pointer (some ⟨b, o, none⟩)] 81)) fun e w' => SaysB e (SizeOk f) ∧ Below (w.alloc (.cells #[.pointer (some ⟨b, o, none⟩)] 81)).heap.size (w.alloc (.cells #[.pointer (some ⟨b, o, none⟩)] 81)) w') := size_any _ f _ (HV.out.below HB1.out) HS.out
  have HOK : Hid (NodeOk f ↔ if f.dir then f.size = 0 ∧ f.blocks.length = 0 ∧ NamesOk f.list else f.list.length = 0 ∧ SizeOk f) := Iff.rfl
  generalize NamesOk f.list = PN at HOK HNM
  generalize SizeOk f = PS at HOK HSZ
  generalize NodeOk f = PO at HOK
  clear HV HS
  obtain ⟨fid, fdir, fsize, fbl, fli⟩ := f
  simp only at *
  cases fdir
  · by_cases h1 : fli.length = 0
    · have d1 : ((fli.length : Int) == 0) = true := beq_iff_eq.2 (by omega)
      go_enter Tryz.func111, Tryz.ntmps111
      go_wp2_with fail
      refine HSZ.out.mono ?_
      rintro e w' ⟨⟨bb, rfl, hbb⟩, hb2⟩
      have HR : Hid (bb = true ↔ PO) := by show _ ↔ _; rw [hbb]; have := HOK.out; simp [h1] at this; exact this.symm
      have HBB : Hid (Below w.heap.size w w') := nwT HB1.out hb2
      clear hbb hb2
      go_wp2_with fail
      go_ret
      exact ⟨⟨bb, rfl, HR.out⟩, HBB.out⟩
    · have d1 : ((fli.length : Int) == 0) = false := beq_eq_false_iff_ne.2 (by omega)
      have HNO : Hid (¬ PO) := fun h => by have := HOK.out.1 h; simp at this; exact h1 (by simp [this.1])
      clear h1
      go_enter Tryz.func111, Tryz.ntmps111
      go_wp2_with fail
      go_ret
      exact ⟨says_no HNO.out, HB1.out⟩
  · by_cases h1 : fsize = 0
    · subst h1
      by_cases h2 : fbl.length = 0
      · have d1 : ((fbl.length : Int) == 0) = true := beq_iff_eq.2 (by omega)
        go_enter Tryz.func111, Tryz.ntmps111
        go_wp2_with fail
        refine HNM.out.mono ?_
        rintro e w' ⟨⟨bb, rfl, hbb⟩, hb2⟩
        have HR : Hid (bb = true ↔ PO) := by show _ ↔ _; rw [hbb]; have := HOK.out; simp [h2] at this; exact this.symm
        have HBB : Hid (Below w.heap.size w w') := nwT HB1.out hb2
        clear hbb hb2
        go_wp2_with fail
        go_ret
        exact ⟨⟨bb, rfl, HR.out⟩, HBB.out⟩
      · have d1 : ((fbl.length : Int) == 0) = false := beq_eq_false_iff_ne.2 (by omega)
        have HNO : Hid (¬ PO) := fun h => by have := HOK.out.1 h; simp at this; exact h2 (by simp [this.1])
        clear h2
        go_enter Tryz.func111, Tryz.ntmps111
        go_wp2_with fail
        go_ret
        exact ⟨says_no HNO.out, HB1.out⟩
    · have d1 : (fsize == 0) = false := beq_eq_false_iff_ne.2 h1
      have HNO : Hid (¬ PO) := fun h => by have := HOK.out.1 h; simp at this; exact h1 this.1
      clear h1
      go_enter Tryz.func111, Tryz.ntmps111
      go_wp2_with fail
      go_ret
      exact ⟨says_no HNO.out, HB1.out⟩

end Go.Proofs.YtdpighcaieajjaaGreat
