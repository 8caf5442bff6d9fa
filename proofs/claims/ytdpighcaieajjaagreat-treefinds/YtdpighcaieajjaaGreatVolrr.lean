/- Which volumes may be, by the page: behind the head. -/
import Derived.Test.YtdpighcaieajjaaGreatVolrh
namespace Go.Proofs.YtdpighcaieajjaaGreat
open Go.RowKit

theorem made_row (w : World) (n : Nat) : Row (w.alloc (.cells (madeCells #[Value.bool false] n) 4)) w.heap.size (List.replicate n false) := by
  unfold Row
  rw [heap_alloc_new]
  congr 2
  apply Array.ext
  · simp [madeCells]
  · intro i h1 h2
    simp [madeCells, Nat.mod_one]

set_option maxRecDepth 100000 in
set_option maxHeartbeats 8000000 in
theorem vol_rest (v : Value) (d : VolD) (w : World) (hv : VolVal w v d) (hs : SmallV d) (hh : HeadR d) :
    Calls Tryz.prog 13 #[v] w fun e w' => SaysB e (VolOk d) ∧ Below w.heap.size w w' := by
  have HVV : Hid (VolVal w v d) := hv
  have HSV : Hid (SmallV d) := hs
  obtain ⟨av, ca, rfl, hfs, _⟩ := hv
  have HX : Hid (VolOk d ↔ (NumOk d ∧ FilesOk d.next d.files ∧ (LinksIn d.files ∧ CountP d.files) ∧ PathOk d.files)) := Iff.rfl
  have HHD : Hid (HeadR d) := hh
  have HNN : Hid (∀ k, k < d.files.length → ¬ RowR d.next d.files k → ¬ VolOk d) := fun k hk hn h => hn ((rows_iff h.2.1.1).2 ⟨h.2.1.2, h.2.2.1.1⟩ k hk)
  have HNC : Hid (∀ k, k < d.files.length → ¬ CntR d.files k → ¬ VolOk d) := fun k hk hn h => hn ((counts_iff (rising_of (fun k hk => (h.2.1.2 k hk).1)) h.2.1.1).2 h.2.2.1.2 k hk)
  obtain ⟨⟨hn1, hn2, hn3, h4⟩, hb1, hb2, h5, h6⟩ := hh
  obtain ⟨vid, fr, snap, fs, next⟩ := d
  simp only at *
  generalize hP : VolOk ⟨vid, fr, snap, fs, next⟩ = P at HX HNN HNC
  clear hP
  have hl := hs.1
  have HF : Hid (FilesAt w av fs) := hfs
  have HSF : Hid (∀ f ∈ fs, SmallF f) := hs.2
  have hbt : betB (fs.length : Int) 1 16 = true := by simp only [betB, Bool.and_eq_true, decide_eq_true_eq]; omega
  have hx0 : 0 ≤ next ∧ next ≤ 1073741824 := by simpa [numB] using hn3
  have HB0 : Hid (Below w.heap.size w (w.alloc (.cells #[.int .i64 vid, .int .i64 fr, .bool snap, .slice av fs.length ca, .int .i64 next] 24))) := nwA (nwR w) _
  have HBX0 : Hid ((w.alloc (.cells #[.int .i64 vid, .int .i64 fr, .bool snap, .slice av fs.length ca, .int .i64 next] 24)).heap[w.heap.size]? = some (.cells #[.int .i64 vid, .int .i64 fr, .bool snap, .slice av fs.length ca, .int .i64 next] 24 (0, 0))) := heap_alloc_new w _
  have h0l : (0 : Nat) < fs.length := by omega
  have h0li : (0 : Int) < (fs.length : Int) := by omega
  obtain ⟨b0, o0, rfl, hfz⟩ := (HF.out.below HB0.out).file h0l
  obtain ⟨ab, cb, al, cl, ⟨c0, c1, _, _, _⟩, _, _⟩ := hfz
  rw [Nat.zero_mul, Nat.add_zero] at c0 c1
  rw [h5] at c0
  rw [h6] at c1
  clear hfs hs h5 h6
  go_enter Tryz.func13, Tryz.ntmps13
  go_upto_region 1 with fail
  go_cut [56] from 8 to 55 (fun q wx => q = .bool false ∧ wx = w.alloc (.cells #[.int .i64 vid, .int .i64 fr, .bool snap, .slice (some ⟨b0, o0, none⟩) fs.length ca, .int .i64 next] 24))
  case first =>
    by_cases h4a : fr = 0
    · subst h4a
      clear h4
      go_wp2_with (first | (go_at_call 43; refine (num_in _ _ _).mono ?_; rintro e w' ⟨rfl, rfl⟩) | (go_at_call 23; refine (between_any _ _ _ _).mono ?_; rintro e w' ⟨rfl, rfl⟩))
      go_meet
      exact ⟨rfl, rfl⟩
    · have h4b : snap = true := h4 h4a
      subst h4b
      clear h4
      go_wp2_with (first | (go_at_call 43; refine (num_in _ _ _).mono ?_; rintro e w' ⟨rfl, rfl⟩) | (go_at_call 23; refine (between_any _ _ _ _).mono ?_; rintro e w' ⟨rfl, rfl⟩))
      go_meet
      exact ⟨rfl, rfl⟩
  case rest =>
    clear c0 c1
    obtain ⟨rfl, rfl⟩ := hcut
    obtain ⟨W0, hW0⟩ : ∃ W0, W0 = w.alloc (.cells #[.int .i64 vid, .int .i64 fr, .bool snap, .slice (some ⟨b0, o0, none⟩) fs.length ca, .int .i64 next] 24) := ⟨_, rfl⟩
    rw [← hW0] at HB0 HBX0 ⊢
    clear hW0
    go_wp2_with fail
    go_loopw [3] (fun i wr => ∃ (k : Nat), k ≤ fs.length ∧ i = .int .i64 k ∧ Below W0.heap.size W0 wr ∧ Hid (∀ j, j < k → RowR next fs j))
      (fun i _ => fs.length - (intOf i).toNat)
    case atStart => exact ⟨0, by omega, rfl, nwR _, fun j hj => by omega⟩
    case round =>
      obtain ⟨k, hk, rfl, hbr, HE⟩ := hrel
      obtain ⟨x0, x1, x2, x3, x4, _⟩ := five ((hbr.block _ (Array.getElem?_eq_some_iff.1 HBX0.out).1).trans HBX0.out)
      have hxl := block_lt_of_cell x0
      by_cases hkl : k < fs.length
      · have hkli : (k : Int) < (fs.length : Int) := by omega
        have hk0 : (0 : Int) ≤ (k : Int) := by omega
        obtain ⟨b1, o1, e1, hfi⟩ := (HF.out.below (nwT HB0.out hbr)).file hkl
        injection e1 with e1
        injection e1 with e11 e12
        subst e11; subst e12
        obtain ⟨ab2, cb2, al2, cl2, ⟨d0, d1, d2, d3, d4⟩, hib, hil⟩ := hfi
        have HNK : Hid (¬ RowR next fs k → ¬ P) := HNN.out k hkl
        have HN2 : Hid (RowR next fs k → ∀ j, j < k + 1 → RowR next fs j) := fun h j hj => by
          by_cases e : j = k
          · subst e; exact h
          · exact HE.out j (by omega)
        have HRW : Hid (RowR next fs k ↔ ((fs.getD k f0).id < next ∧ (0 < k → (fs.getD (k - 1) f0).id < (fs.getD k f0).id) ∧ FileR fs (fs.getD k f0))) := Iff.rfl
        have HSM : Hid (SmallF (fs.getD k f0)) := HSF.out _ (getD_mem hkl)
        have HVF : Hid (FileVal wr (.agg #[.int .i64 (fs.getD k f0).id, .bool (fs.getD k f0).dir, .int .i64 (fs.getD k f0).size, .slice ab2 (fs.getD k f0).blocks.length cb2, .slice al2 (fs.getD k f0).list.length cl2]) (fs.getD k f0)) := ⟨ab2, cb2, al2, cl2, rfl, hib, hil⟩
        generalize RowR next fs k = PR at HNK HN2 HRW
        generalize fs.getD k f0 = f at d0 d1 d2 d3 d4 HRW HSM HVF
        obtain ⟨fid, fdir, fsize, fbl, fli⟩ := f
        simp only at d0 d1 d2 d3 d4 HRW HVF
        clear hib hil
        go_wp2_with fail
        have HFC0 : Hid (∀ (b : Bool), (b = true ↔ FileR fs ⟨fid, fdir, fsize, fbl, fli⟩) → ∀ p : Kin wr, Calls Tryz.prog 44 #[.agg #[.int .i64 vid, .int .i64 fr, .bool snap, .slice (some ⟨b0, o0, none⟩) fs.length ca, .int .i64 next], .agg #[.int .i64 fid, .bool fdir, .int .i64 fsize, .slice ab2 fbl.length cb2, .slice al2 fli.length cl2]] p.u fun e w' => e = .returned (.bool b) ∧ Below p.u.heap.size p.u w') := fun b hb p => file_is _ _ ⟨vid, fr, snap, fs, next⟩ ⟨fid, fdir, fsize, fbl, fli⟩ p.u b (HVV.out.below (nwT HB0.out (nwT hbr p.h))) (HVF.out.below p.h) HSM.out hl hb
        have z0 : ∀ p : Kin wr, p.u.cell? ⟨w.heap.size, 0, none⟩ = some (.int .i64 vid) := fun p => kcell x0 p
        have z1 : ∀ p : Kin wr, p.u.cell? ⟨w.heap.size, 1, none⟩ = some (.int .i64 fr) := fun p => kcell x1 p
        have z2 : ∀ p : Kin wr, p.u.cell? ⟨w.heap.size, 2, none⟩ = some (.bool snap) := fun p => kcell x2 p
        have z3 : ∀ p : Kin wr, p.u.cell? ⟨w.heap.size, 3, none⟩ = some (.slice (some ⟨b0, o0, none⟩) fs.length ca) := fun p => kcell x3 p
        have z4 : ∀ p : Kin wr, p.u.cell? ⟨w.heap.size, 4, none⟩ = some (.int .i64 next) := fun p => kcell x4 p
        have y0 : ∀ p : Kin wr, p.u.cell? ⟨b0, o0 + k * 5, none⟩ = some (.int .i64 fid) := fun p => kcell d0 p
        have y1 : ∀ p : Kin wr, p.u.cell? ⟨b0, o0 + k * 5 + 1, none⟩ = some (.bool fdir) := fun p => kcell d1 p
        have y2 : ∀ p : Kin wr, p.u.cell? ⟨b0, o0 + k * 5 + 2, none⟩ = some (.int .i64 fsize) := fun p => kcell d2 p
        have y3 : ∀ p : Kin wr, p.u.cell? ⟨b0, o0 + k * 5 + 3, none⟩ = some (.slice ab2 fbl.length cb2) := fun p => kcell d3 p
        have y4 : ∀ p : Kin wr, p.u.cell? ⟨b0, o0 + k * 5 + 4, none⟩ = some (.slice al2 fli.length cl2) := fun p => kcell d4 p
        clear x0 x1 x2 x3 x4 d0 d1 d2 d3 d4 HVF HSM
        by_cases hid : fid < next
        case neg =>
          have HR : Hid (¬ P) := HNK.out (fun h => hid (HRW.out.1 h).1)
          have hid2 : decide (next ≤ fid) = true := decide_eq_true (by omega)
          refine wp_region_kin (by kernel_rfl) (by kernel_rfl) ?_
          repeat (first | go_big_quiet_step (fail) | quiet_step (fail))
          refine wpQuiet_nil ?_
          intro _ hw'
          obtain ⟨pq, hw''⟩ := hw'
          subst hw''
          clear z0 z1 z2 z3 z4 y0 y1 y2 y3 y4
          have HBQ : Hid (Below W0.heap.size W0 pq.u) := nwT hbr pq.h
          generalize pq.u = Wq at HBQ ⊢
          go_wp2_with fail
          go_ret
          exact ⟨says_no HR.out, nwT HB0.out HBQ.out⟩
        case pos =>
        have hid2 : decide (next ≤ fid) = false := decide_eq_false (by omega)
        by_cases hkz : 0 < k
        case neg =>
          have HKZ : Hid (¬ 0 < k) := hkz
          have hkd : decide (0 < k) = false := decide_eq_false hkz
          have HR3 : Hid (PR ↔ FileR fs ⟨fid, fdir, fsize, fbl, fli⟩) := ⟨fun h => (HRW.out.1 h).2.2, fun h => HRW.out.2 ⟨hid, fun e => absurd e HKZ.out, h⟩⟩
          by_cases hfr : FileR fs ⟨fid, fdir, fsize, fbl, fli⟩
          · have HFC : Hid (∀ p : Kin wr, Calls Tryz.prog 44 #[.agg #[.int .i64 vid, .int .i64 fr, .bool snap, .slice (some ⟨b0, o0, none⟩) fs.length ca, .int .i64 next], .agg #[.int .i64 fid, .bool fdir, .int .i64 fsize, .slice ab2 fbl.length cb2, .slice al2 fli.length cl2]] p.u fun e w' => e = .returned (.bool true) ∧ Below p.u.heap.size p.u w') := fun p => HFC0.out true (by simpa using hfr) p
            have HR := HN2.out (HR3.out.2 hfr)
            clear hfr
            refine wp_region_kin (by kernel_rfl) (by kernel_rfl) ?_
            repeat (first | go_big_quiet_step (first | (go_at_call 44; exact Calls.kin_of (HFC.out _)) | fail) | quiet_step (first | (go_at_call 44; exact Calls.kin_of (HFC.out _)) | fail))
            refine wpQuiet_nil ?_
            intro _ hw'
            obtain ⟨pq, hw''⟩ := hw'
            subst hw''
            clear z0 z1 z2 z3 z4 y0 y1 y2 y3 y4
            have HBQ : Hid (Below W0.heap.size W0 pq.u) := nwT hbr pq.h
            generalize pq.u = Wq at HBQ ⊢
            go_wp2_with fail
            go_roundw
            case rel => exact ⟨k + 1, by omega, by go_num, HBQ.out, HR⟩
            case measure => simp [intOf]; omega
          · have HFC : Hid (∀ p : Kin wr, Calls Tryz.prog 44 #[.agg #[.int .i64 vid, .int .i64 fr, .bool snap, .slice (some ⟨b0, o0, none⟩) fs.length ca, .int .i64 next], .agg #[.int .i64 fid, .bool fdir, .int .i64 fsize, .slice ab2 fbl.length cb2, .slice al2 fli.length cl2]] p.u fun e w' => e = .returned (.bool false) ∧ Below p.u.heap.size p.u w') := fun p => HFC0.out false (by simpa using hfr) p
            have HR : Hid (¬ P) := HNK.out (fun h => hfr (HR3.out.1 h))
            clear hfr
            refine wp_region_kin (by kernel_rfl) (by kernel_rfl) ?_
            repeat (first | go_big_quiet_step (first | (go_at_call 44; exact Calls.kin_of (HFC.out _)) | fail) | quiet_step (first | (go_at_call 44; exact Calls.kin_of (HFC.out _)) | fail))
            refine wpQuiet_nil ?_
            intro _ hw'
            obtain ⟨pq, hw''⟩ := hw'
            subst hw''
            clear z0 z1 z2 z3 z4 y0 y1 y2 y3 y4
            have HBQ : Hid (Below W0.heap.size W0 pq.u) := nwT hbr pq.h
            generalize pq.u = Wq at HBQ ⊢
            go_wp2_with fail
            go_ret
            exact ⟨says_no HR.out, nwT HB0.out HBQ.out⟩
        case pos =>
        obtain ⟨m, hkm⟩ : ∃ m, k = m + 1 := ⟨k - 1, by omega⟩
        have HKM : Hid (k = m + 1) := hkm
        obtain ⟨b3, o3, e3, hfm⟩ := (HF.out.below (nwT HB0.out hbr)).file (show m < fs.length by omega)
        injection e3 with e3
        injection e3 with e31 e32
        subst e31; subst e32
        obtain ⟨_, _, _, _, ⟨r0, _, _, _, _⟩, _, _⟩ := hfm
        have HR3 : Hid (PR ↔ ((fs.getD m f0).id < fid ∧ FileR fs ⟨fid, fdir, fsize, fbl, fli⟩)) := by
          have hk1 : k - 1 = m := by omega
          have h0 := HRW.out
          rw [hk1] at h0
          exact ⟨fun h => ⟨(h0.1 h).2.1 hkz, (h0.1 h).2.2⟩, fun h => h0.2 ⟨hid, fun _ => h.1, h.2⟩⟩
        have yp : ∀ p : Kin wr, p.u.cell? ⟨b0, o0 + m * 5, none⟩ = some (.int .i64 (fs.getD m f0).id) := fun p => kcell r0 p
        generalize (fs.getD m f0).id = pid at yp HR3
        have hkd : decide (0 < k) = true := decide_eq_true hkz
        have e1 : IntKind.i64.wrap ((k : Int) - 1) = (m : Int) := by rw [wrap_any (by omega) (by omega)]; omega
        have m0 : (0 : Int) ≤ (m : Int) := by omega
        have m1 : (m : Int) < (fs.length : Int) := by omega
        clear hkm r0 HRW
        by_cases hpd : pid < fid
        case neg =>
          have HR : Hid (¬ P) := HNK.out (fun h => hpd (HR3.out.1 h).1)
          have hpd2 : decide (fid ≤ pid) = true := decide_eq_true (by omega)
          refine wp_region_kin (by kernel_rfl) (by kernel_rfl) ?_
          repeat (first | go_big_quiet_step (fail) | quiet_step (fail))
          refine wpQuiet_nil ?_
          intro _ hw'
          obtain ⟨pq, hw''⟩ := hw'
          subst hw''
          clear z0 z1 z2 z3 z4 y0 y1 y2 y3 y4 yp
          have HBQ : Hid (Below W0.heap.size W0 pq.u) := nwT hbr pq.h
          generalize pq.u = Wq at HBQ ⊢
          go_wp2_with fail
          go_ret
          exact ⟨says_no HR.out, nwT HB0.out HBQ.out⟩
        case pos =>
        have hpd2 : decide (fid ≤ pid) = false := decide_eq_false (by omega)
        by_cases hfr : FileR fs ⟨fid, fdir, fsize, fbl, fli⟩
        · have HFC : Hid (∀ p : Kin wr, Calls Tryz.prog 44 #[.agg #[.int .i64 vid, .int .i64 fr, .bool snap, .slice (some ⟨b0, o0, none⟩) fs.length ca, .int .i64 next], .agg #[.int .i64 fid, .bool fdir, .int .i64 fsize, .slice ab2 fbl.length cb2, .slice al2 fli.length cl2]] p.u fun e w' => e = .returned (.bool true) ∧ Below p.u.heap.size p.u w') := fun p => HFC0.out true (by simpa using hfr) p
          have HR := HN2.out (HR3.out.2 ⟨hpd, hfr⟩)
          clear hfr
          refine wp_region_kin (by kernel_rfl) (by kernel_rfl) ?_
          repeat (first | go_big_quiet_step (first | (go_at_call 44; exact Calls.kin_of (HFC.out _)) | fail) | quiet_step (first | (go_at_call 44; exact Calls.kin_of (HFC.out _)) | fail))
          refine wpQuiet_nil ?_
          intro _ hw'
          obtain ⟨pq, hw''⟩ := hw'
          subst hw''
          clear z0 z1 z2 z3 z4 y0 y1 y2 y3 y4 yp
          have HBQ : Hid (Below W0.heap.size W0 pq.u) := nwT hbr pq.h
          generalize pq.u = Wq at HBQ ⊢
          go_wp2_with fail
          go_roundw
          case rel => exact ⟨k + 1, by omega, by go_num, HBQ.out, HR⟩
          case measure => simp [intOf]; omega
        · have HFC : Hid (∀ p : Kin wr, Calls Tryz.prog 44 #[.agg #[.int .i64 vid, .int .i64 fr, .bool snap, .slice (some ⟨b0, o0, none⟩) fs.length ca, .int .i64 next], .agg #[.int .i64 fid, .bool fdir, .int .i64 fsize, .slice ab2 fbl.length cb2, .slice al2 fli.length cl2]] p.u fun e w' => e = .returned (.bool false) ∧ Below p.u.heap.size p.u w') := fun p => HFC0.out false (by simpa using hfr) p
          have HR : Hid (¬ P) := HNK.out (fun h => hfr (HR3.out.1 h).2)
          clear hfr
          refine wp_region_kin (by kernel_rfl) (by kernel_rfl) ?_
          repeat (first | go_big_quiet_step (first | (go_at_call 44; exact Calls.kin_of (HFC.out _)) | fail) | quiet_step (first | (go_at_call 44; exact Calls.kin_of (HFC.out _)) | fail))
          refine wpQuiet_nil ?_
          intro _ hw'
          obtain ⟨pq, hw''⟩ := hw'
          subst hw''
          clear z0 z1 z2 z3 z4 y0 y1 y2 y3 y4 yp
          have HBQ : Hid (Below W0.heap.size W0 pq.u) := nwT hbr pq.h
          generalize pq.u = Wq at HBQ ⊢
          go_wp2_with fail
          go_ret
          exact ⟨says_no HR.out, nwT HB0.out HBQ.out⟩
      · have hkli : ¬ (k : Int) < (fs.length : Int) := by omega
        have HROWS : Hid (∀ j, j < fs.length → RowR next fs j) := fun j hj => HE.out j (by omega)
        clear HE HNN
        go_wp2_with fail
        clear x0 x1 x2 x3 x4
        generalize hWa : wr = Wa at hbr ⊢
        clear hWa
        go_loopw [4] (fun i wr => ∃ (k : Nat), k ≤ fs.length ∧ i = .int .i64 k ∧ Below W0.heap.size W0 wr ∧ Hid (∀ j, j < k → CntR fs j))
          (fun i _ => fs.length - (intOf i).toNat)
        case atStart => exact ⟨0, by omega, rfl, hbr, fun j hj => by omega⟩
        case round =>
          obtain ⟨k, hk, rfl, hbr, HE⟩ := hrel
          obtain ⟨x0, x1, x2, x3, x4, _⟩ := five ((hbr.block _ (Array.getElem?_eq_some_iff.1 HBX0.out).1).trans HBX0.out)
          have hxl := block_lt_of_cell x0
          by_cases hkl : k < fs.length
          · have hkli : (k : Int) < (fs.length : Int) := by omega
            have hk0 : (0 : Int) ≤ (k : Int) := by omega
            obtain ⟨b1, o1, e1, hfi⟩ := (HF.out.below (nwT HB0.out hbr)).file hkl
            injection e1 with e1
            injection e1 with e11 e12
            subst e11; subst e12
            obtain ⟨ab2, cb2, al2, cl2, ⟨d0, d1, _, _, _⟩, _, _⟩ := hfi
            have HNK : Hid (¬ CntR fs k → ¬ P) := HNC.out k hkl
            have HN2 : Hid (CntR fs k → ∀ j, j < k + 1 → CntR fs j) := fun h j hj => by
              by_cases e : j = k
              · subst e; exact h
              · exact HE.out j (by omega)
            have HRW : Hid (CntR fs k ↔ ((k = 0 → linksN fs (fs.getD k f0).id = 0) ∧ (0 < k → linksN fs (fs.getD k f0).id ≠ 0 ∧ ((fs.getD k f0).dir = true → linksN fs (fs.getD k f0).id = 1)))) := Iff.rfl
            generalize CntR fs k = PR at HNK HN2 HRW
            generalize fs.getD k f0 = f at d0 d1 HRW
            obtain ⟨fid, fdir, fsize, fbl, fli⟩ := f
            simp only at d0 d1 HRW
            go_wp2_with fail
            have HLC : Hid (∀ p : Kin wr, Calls Tryz.prog 21 #[.agg #[.int .i64 vid, .int .i64 fr, .bool snap, .slice (some ⟨b0, o0, none⟩) fs.length ca, .int .i64 next], .int .i64 fid] p.u fun e w' => e = .returned (.int .i64 (linksN fs fid)) ∧ Below p.u.heap.size p.u w') := fun p => links_any _ ⟨vid, fr, snap, fs, next⟩ fid p.u (HVV.out.below (nwT HB0.out (nwT hbr p.h))) HSV.out
            generalize linksN fs fid = M at HRW HLC
            have z0 : ∀ p : Kin wr, p.u.cell? ⟨w.heap.size, 0, none⟩ = some (.int .i64 vid) := fun p => kcell x0 p
            have z1 : ∀ p : Kin wr, p.u.cell? ⟨w.heap.size, 1, none⟩ = some (.int .i64 fr) := fun p => kcell x1 p
            have z2 : ∀ p : Kin wr, p.u.cell? ⟨w.heap.size, 2, none⟩ = some (.bool snap) := fun p => kcell x2 p
            have z3 : ∀ p : Kin wr, p.u.cell? ⟨w.heap.size, 3, none⟩ = some (.slice (some ⟨b0, o0, none⟩) fs.length ca) := fun p => kcell x3 p
            have z4 : ∀ p : Kin wr, p.u.cell? ⟨w.heap.size, 4, none⟩ = some (.int .i64 next) := fun p => kcell x4 p
            have y0 : ∀ p : Kin wr, p.u.cell? ⟨b0, o0 + k * 5, none⟩ = some (.int .i64 fid) := fun p => kcell d0 p
            have HD1 : Hid (∀ p : Kin wr, p.u.cell? ⟨b0, o0 + k * 5 + 1, none⟩ = some (.bool fdir)) := fun p => kcell d1 p
            clear x0 x1 x2 x3 x4 d0 d1
            refine wp_region_kin (by kernel_rfl) (by kernel_rfl) ?_
            repeat (first | go_big_quiet_step (first | (go_at_call 21; exact Calls.kin_of (HLC.out _)) | fail) | quiet_step (first | (go_at_call 21; exact Calls.kin_of (HLC.out _)) | fail))
            refine wpQuiet_nil ?_
            intro _ hw'
            obtain ⟨pq, hw''⟩ := hw'
            subst hw''
            have q3 := z3 pq
            have q1 := HD1.out pq
            have HBQ : Hid (Below W0.heap.size W0 pq.u) := nwT hbr pq.h
            clear z0 z1 z2 z3 z4 y0 HD1
            generalize pq.u = Wq at HBQ q3 q1 ⊢
            have hq3 := block_lt_of_cell q3
            by_cases hkz : 0 < k
            · have HKZ : Hid (0 < k) := hkz
              have hke : ((k : Int) == 0) = false := beq_eq_false_iff_ne.2 (by omega)
              have hkn : ¬ k = 0 := by omega
              have HR3 : Hid (PR ↔ (M ≠ 0 ∧ (fdir = true → M = 1))) := ⟨fun h => (HRW.out.1 h).2 HKZ.out, fun h => HRW.out.2 ⟨fun e => by have := HKZ.out; omega, fun _ => h⟩⟩
              by_cases hM0 : M = 0
              · subst hM0
                have HR : Hid (¬ P) := HNK.out (fun h => (HR3.out.1 h).1 rfl)
                go_wp2_with fail
                go_ret
                exact ⟨says_no HR.out, nwT HB0.out HBQ.out⟩
              · have hMe : ((M : Int) == 0) = false := beq_eq_false_iff_ne.2 (by omega)
                cases fdir
                · have HR := HN2.out (HR3.out.2 ⟨hM0, fun e => by cases e⟩)
                  go_wp2_with fail
                  go_roundw
                  case rel => exact ⟨k + 1, by omega, by go_num, HBQ.out, HR⟩
                  case measure => simp [intOf]; omega
                · by_cases hM1 : M = 1
                  · subst hM1
                    have HR := HN2.out (HR3.out.2 ⟨by omega, fun _ => rfl⟩)
                    go_wp2_with fail
                    go_roundw
                    case rel => exact ⟨k + 1, by omega, by go_num, HBQ.out, HR⟩
                    case measure => simp [intOf]; omega
                  · have HR : Hid (¬ P) := HNK.out (fun h => hM1 ((HR3.out.1 h).2 rfl))
                    have hMi : ¬ (M : Int) = 1 := by omega
                    go_wp2_with fail
                    go_ret
                    exact ⟨says_no HR.out, nwT HB0.out HBQ.out⟩
            · have HKZ : Hid (¬ 0 < k) := hkz
              have hke : ((k : Int) == 0) = true := beq_iff_eq.2 (by omega)
              have HR3 : Hid (PR ↔ M = 0) := ⟨fun h => (HRW.out.1 h).1 (by have := HKZ.out; omega), fun h => HRW.out.2 ⟨fun _ => h, fun e => absurd e HKZ.out⟩⟩
              by_cases hM0 : M = 0
              · subst hM0
                have HR := HN2.out (HR3.out.2 rfl)
                go_wp2_with fail
                go_roundw
                case rel => exact ⟨k + 1, by omega, by go_num, HBQ.out, HR⟩
                case measure => simp [intOf]; omega
              · have HR : Hid (¬ P) := HNK.out (fun h => hM0 (HR3.out.1 h))
                go_wp2_with fail
                go_ret
                exact ⟨says_no HR.out, nwT HB0.out HBQ.out⟩
          · have hkli : ¬ (k : Int) < (fs.length : Int) := by omega
            have HCNT : Hid (∀ j, j < fs.length → CntR fs j) := fun j hj => HE.out j (by omega)
            have HRI := (rows_iff HHD.out.2).1 HROWS.out
            have HFO : Hid (FilesOk next fs) := ⟨HHD.out.2, HRI.1⟩
            have HLI : Hid (LinksIn fs) := HRI.2
            have HRS : Hid (Rising fs) := rising_of (fun k hk => (HRI.1 k hk).1)
            have HCP : Hid (CountP fs) := (counts_iff HRS.out HHD.out.2).1 HCNT.out
            have HA1 : Hid (atI fs 1 = some 0) := by
              have := atI_self HRS.out h0l
              have h5 : (fs.getD 0 f0).id = 1 := HHD.out.2.2.2.1
              rw [h5] at this
              exact this
            have hmk := run_make_row' (P := Tryz.prog) 73 4 (.bool false) 1 Tryz.underlying73 Tryz.info4b rfl .i64 .i64 fs.length (by omega) (by omega)
            have HMK : Hid (Calls Tryz.prog 45 #[.agg #[.int .i64 vid, .int .i64 fr, .bool snap, .slice (some ⟨b0, o0, none⟩) fs.length ca, .int .i64 next], .int .i64 1, .slice (some ⟨wr.heap.size, 0, none⟩) fs.length fs.length] (wr.alloc (.cells (madeCells #[Value.bool false] fs.length) 4)) fun e w' => e = .returned (.tuple #[]) ∧ (∃ bs', Row w' wr.heap.size bs' ∧ MarkRel fs 0 (List.replicate fs.length false) bs') ∧ (wr.alloc (.cells (madeCells #[Value.bool false] fs.length) 4)).grownBy w' (some wr.heap.size)) := by
              have h := marks_any _ ⟨vid, fr, snap, fs, next⟩ wr (HVV.out.below (nwT HB0.out hbr)) HSV.out HLI.out wr.heap.size fs.length (Nat.le_refl _) fs.length (List.replicate fs.length false) 1 0 (wr.alloc (.cells (madeCells #[Value.bool false] fs.length) 4)) (by have := List.count_le_length (a := false) (l := List.replicate fs.length false); rw [List.length_replicate] at this; exact this) (nwA (nwR wr) _) (made_row wr fs.length) (by simp) HA1.out
              rw [List.length_replicate] at h
              exact h
            clear HRI HE HNC
            go_wp2_with fail
            refine HMK.out.mono ?_
            rintro e wT ⟨rfl, ⟨bs, hrow, hmr⟩, hgb⟩
            have HROW : Hid (Row wT wr.heap.size bs) := hrow
            have HBT : Hid (Below wr.heap.size wr wT) := gb_below (nwA (nwR wr) _) (Nat.le_refl _) hgb
            have HBX : Hid (wT.heap[w.heap.size]? = some (.cells #[.int .i64 vid, .int .i64 fr, .bool snap, .slice (some ⟨b0, o0, none⟩) fs.length ca, .int .i64 next] 24 (0, 0))) := (HBT.out.block _ hxl).trans ((hbr.block _ (Array.getElem?_eq_some_iff.1 HBX0.out).1).trans HBX0.out)
            have HBWT : Hid (Below w.heap.size w wT) := nwT (nwT HB0.out hbr) HBT.out
            have hblen : bs.length = fs.length := by have := hmr.1; rw [List.length_replicate] at this; exact this
            have HREA : Hid ((∀ i, i < bs.length → bs.getD i false = true) ↔ ∀ i, i < fs.length → Reach fs i) := reached_iff hblen hmr
            have HBL : Hid (bs.length = fs.length) := hblen
            generalize wr.heap.size = g at HROW ⊢
            clear hmk hrow hmr hgb x0 x1 x2 x3 x4 hblen
            go_wp2_with fail
            go_loop [7] (fun i => ∃ (k : Nat), k ≤ fs.length ∧ i = .int .i64 k ∧ Hid (∀ j, j < k → bs.getD j false = true))
              (fun i => fs.length - (intOf i).toNat)
            case atStart => exact ⟨0, by omega, rfl, fun j hj => by omega⟩
            case round =>
              obtain ⟨k2, hk2, rfl, HE⟩ := hrel
              by_cases hkl2 : k2 < fs.length
              · have hkli2 : (k2 : Int) < (fs.length : Int) := by omega
                have hk02 : (0 : Int) ≤ (k2 : Int) := by omega
                obtain ⟨r0, _⟩ := HROW.out.cell (i := k2) (by rw [HBL.out]; exact hkl2)
                cases hb : bs.getD k2 false
                · rw [hb] at r0
                  have HR : Hid (¬ P) := fun h => by
                    have h1 := HREA.out.2 (HX.out.1 h).2.2.2.1 k2 (by rw [HBL.out]; exact hkl2)
                    rw [hb] at h1; cases h1
                  go_wp2_with fail
                  go_ret
                  exact ⟨says_no HR.out, HBWT.out⟩
                · rw [hb] at r0
                  have HR : Hid (∀ j, j < k2 + 1 → bs.getD j false = true) := fun j hj => by
                    by_cases e : j = k2
                    · subst e; exact hb
                    · exact HE.out j (by omega)
                  go_wp2_with fail
                  go_round
                  case rel => exact ⟨k2 + 1, by omega, by go_num, HR⟩
                  case measure => simp [intOf]; omega
              · have hkli2 : ¬ (k2 : Int) < (fs.length : Int) := by omega
                have HALL : Hid (∀ i, i < fs.length → Reach fs i) := HREA.out.1 (fun i hi => HE.out i (by have := HBL.out; omega))
                have HDP : Hid (Calls Tryz.prog 46 #[.agg #[.int .i64 vid, .int .i64 fr, .bool snap, .slice (some ⟨b0, o0, none⟩) fs.length ca, .int .i64 next], .int .i64 1, .int .i64 5] wT fun e w' => e = .returned (.int .i64 (deepF fs 5 1)) ∧ Below wT.heap.size wT w') := deep_any _ ⟨vid, fr, snap, fs, next⟩ HSV.out ⟨h0l, HLI.out⟩ 5 (by omega) 1 wT (HVV.out.below HBWT.out) (by rw [HA1.out]; rfl)
                have HFIN : Hid (P ↔ deepF fs 5 1 ≤ 5) := by
                  show _ ↔ _
                  rw [HX.out]
                  exact ⟨fun h => h.2.2.2.2, fun h => ⟨HHD.out.1, HFO.out, ⟨HLI.out, HCP.out⟩, HALL.out, h⟩⟩
                have hdl : deepF fs 5 1 ≤ 11 := deepF_le fs 5 1
                generalize deepF fs 5 1 = D at HDP HFIN hdl
                obtain ⟨x0, x1, x2, x3, x4, _⟩ := five HBX.out
                have HR : Hid ((decide ((D : Int) ≤ 5) = true) ↔ P) := by
                  show _ ↔ _
                  rw [decide_eq_true_iff, HFIN.out]; omega
                go_wp2_with (go_at_call 46; refine HDP.out.mono ?_; rintro e wD ⟨rfl, hbD⟩; have HBD : Hid (Below w.heap.size w wD) := nwT HBWT.out hbD; clear hbD)
                go_ret
                exact ⟨⟨_, rfl, HR.out⟩, HBD.out⟩

end Go.Proofs.YtdpighcaieajjaaGreat
