/- Which files may be, by the page: directories; all files. -/
import Derived.Test.YtdpighcaieajjaaGreatMarkw
namespace Go.Proofs.YtdpighcaieajjaaGreat
open Go.RowKit

theorem name_is (s : ByteArray) (w : World) (b : Bool) (h : nm s = b) : Calls Tryz.prog 49 #[.string s] w fun e w' => e = .returned (.bool b) ∧ w' = w := by
  rw [← h]; exact name_any s w
theorem at_is (v : Value) (d : VolD) (id : Int) (w : World) (n : Int) (hv : VolVal w v d) (hl : d.files.length ≤ 100000) (h : optI (atI d.files id) = n) :
    Calls Tryz.prog 51 #[v, .int .i64 id] w fun e w' => e = .returned (.int .i64 n) ∧ Below w.heap.size w w' := by
  rw [← h]; exact at_any v d id w hv hl

set_option maxRecDepth 100000 in
set_option maxHeartbeats 4000000 in
theorem file_dir (v u : Value) (d : VolD) (f : FileD) (w : World) (hv : VolVal w v d) (hu : FileVal w u f) (hs : SmallF f) (hl : d.files.length ≤ 100000) (hd : f.dir = true) :
    Calls Tryz.prog 44 #[v, u] w fun e w' => SaysB e (DirOk d.files f) ∧ Below w.heap.size w w' := by
  have HVV : Hid (VolVal w v d) := hv
  obtain ⟨av, ca, rfl, _, _⟩ := hv
  obtain ⟨ab, cb, al, cl, rfl, _, ⟨hil, _⟩⟩ := hu
  obtain ⟨vid, fr, snap, fs, next⟩ := d
  obtain ⟨fid, fdir, fsize, fbl, fli⟩ := f
  simp only [SmallF, fcells] at *
  subst hd
  have hl2 := hs.2
  have HL : Hid (LinksAt w al fli) := hil
  clear hil hs
  have HB00 : Hid (Below w.heap.size w ((w.alloc (.cells #[.int .i64 vid, .int .i64 fr, .bool snap, .slice av fs.length ca, .int .i64 next] 24)).alloc (.cells #[.int .i64 fid, .bool true, .int .i64 fsize, .slice ab fbl.length cb, .slice al fli.length cl] 39))) := nwA (nwA (nwR w) _) _
  by_cases h1 : fsize = 0
  case neg =>
    have HNO : Hid (¬ DirOk fs ⟨fid, true, fsize, fbl, fli⟩) := fun h => h1 h.1
    go_enter Tryz.func44, Tryz.ntmps44
    go_wp2_with fail
    go_ret
    exact ⟨says_no HNO.out, HB00.out⟩
  case pos =>
  subst h1
  by_cases h2 : fbl.length = 0
  case neg =>
    have HNO : Hid (¬ DirOk fs ⟨fid, true, 0, fbl, fli⟩) := fun h => h2 h.2.1
    have h2i : 0 < fbl.length := by omega
    clear h2
    go_enter Tryz.func44, Tryz.ntmps44
    go_wp2_with fail
    go_ret
    exact ⟨says_no HNO.out, HB00.out⟩
  case pos =>
  have h2i : ¬ 0 < fbl.length := by omega
  have h2d : decide (0 < fbl.length) = false := decide_eq_false h2i
  by_cases h3 : fli.length ≤ 8
  case neg =>
    have HNO : Hid (¬ DirOk fs ⟨fid, true, 0, fbl, fli⟩) := fun h => h3 h.2.2.1
    have h3i : (8 : Int) < (fli.length : Int) := by omega
    clear h2 h3
    go_enter Tryz.func44, Tryz.ntmps44
    go_wp2_with fail
    go_ret
    exact ⟨says_no HNO.out, HB00.out⟩
  case pos =>
  have h3i : ¬ (8 : Int) < (fli.length : Int) := by omega
  have HX : Hid (DirOk fs ⟨fid, true, 0, fbl, fli⟩ ↔ ∀ k, k < fli.length → LinkOk fs fli k) := ⟨fun h => h.2.2.2, fun h => ⟨rfl, h2, h3, h⟩⟩
  generalize DirOk fs ⟨fid, true, 0, fbl, fli⟩ = PD at HX
  clear h2
  go_enter Tryz.func44, Tryz.ntmps44
  go_wp2_with fail
  obtain ⟨W0, hW0⟩ : ∃ W0, W0 = (w.alloc (.cells #[.int .i64 vid, .int .i64 fr, .bool snap, .slice av fs.length ca, .int .i64 next] 24)).alloc (.cells #[.int .i64 fid, .bool true, .int .i64 0, .slice ab fbl.length cb, .slice al fli.length cl] 39) := ⟨_, rfl⟩
  have HB0 : Hid (Below w.heap.size w W0) := by rw [hW0]; exact HB00.out
  have HV0 : Hid (W0.heap[w.heap.size]? = some (.cells #[.int .i64 vid, .int .i64 fr, .bool snap, .slice av fs.length ca, .int .i64 next] 24 (0, 0))) := by
    show _ = _
    rw [hW0, Lib.alloc_old _ _ _ (by simp)]; exact heap_alloc_new w _
  have HF0 : Hid (W0.heap[w.heap.size + 1]? = some (.cells #[.int .i64 fid, .bool true, .int .i64 0, .slice ab fbl.length cb, .slice al fli.length cl] 39 (0, 0))) := by rw [hW0]; exact heap_alloc_new2 w _ _
  have HL0 : Hid (LinksAt W0 al fli) := HL.out.below HB0.out
  rw [← hW0]
  clear hW0 HB00 HL
  go_loopw [5] (fun i wr => ∃ (k : Nat), k ≤ fli.length ∧ i = .int .i64 k ∧ Below W0.heap.size W0 wr ∧ Hid (∀ j, j < k → LinkOk fs fli j))
    (fun i _ => fli.length - (intOf i).toNat)
  case atStart => exact ⟨0, by omega, rfl, nwR _, fun j hj => by omega⟩
  case round =>
    obtain ⟨k, hk, rfl, hbr, HE⟩ := hrel
    obtain ⟨g0, g1, g2, g3, g4, _⟩ := five ((hbr.block _ (Array.getElem?_eq_some_iff.1 HF0.out).1).trans HF0.out)
    have hfl := block_lt_of_cell g4
    by_cases hlt : k < fli.length
    · have hlti : (k : Int) < (fli.length : Int) := by omega
      have hk0 : (0 : Int) ≤ (k : Int) := by omega
      obtain ⟨x0, x1, x2, x3, x4, _⟩ := five ((hbr.block _ (Array.getElem?_eq_some_iff.1 HV0.out).1).trans HV0.out)
      obtain ⟨b2, o2, rfl, d1, d2⟩ := (HL0.out.below hbr).cell hlt
      have HN2 : Hid (LinkOk fs fli k → ∀ j, j < k + 1 → LinkOk fs fli j) := fun h j hj => by
        by_cases e : j = k
        · subst e; exact h
        · exact HE.out j (by omega)
      have HNK : Hid (LinkOk fs fli k ↔ (nm (fli.getD k lk0).1 = true ∧ (0 < k → ltS (fli.getD (k - 1) lk0).1 (fli.getD k lk0).1 = true) ∧ (atI fs (fli.getD k lk0).2).isSome = true)) := Iff.rfl
      have HNO : Hid (¬ LinkOk fs fli k → ¬ PD) := fun hn h => hn (HX.out.1 h k hlt)
      have HLB : Hid (LinksAt wr (some ⟨b2, o2, none⟩) fli) := HL0.out.below hbr
      generalize fli.getD k lk0 = x at d1 d2 HNK
      obtain ⟨y1, y2⟩ := x
      simp only at d1 d2 HNK
      go_wp2_with fail
      have z0 : ∀ p : Kin wr, p.u.cell? ⟨w.heap.size, 0, none⟩ = some (.int .i64 vid) := fun p => kcell x0 p
      have z1 : ∀ p : Kin wr, p.u.cell? ⟨w.heap.size, 1, none⟩ = some (.int .i64 fr) := fun p => kcell x1 p
      have z2 : ∀ p : Kin wr, p.u.cell? ⟨w.heap.size, 2, none⟩ = some (.bool snap) := fun p => kcell x2 p
      have z3 : ∀ p : Kin wr, p.u.cell? ⟨w.heap.size, 3, none⟩ = some (.slice av fs.length ca) := fun p => kcell x3 p
      have z4 : ∀ p : Kin wr, p.u.cell? ⟨w.heap.size, 4, none⟩ = some (.int .i64 next) := fun p => kcell x4 p
      have zl : ∀ p : Kin wr, p.u.cell? ⟨w.heap.size + 1, 4, none⟩ = some (.slice (some ⟨b2, o2, none⟩) fli.length cl) := fun p => kcell g4 p
      have zn : ∀ p : Kin wr, p.u.cell? ⟨b2, o2 + k * 2, none⟩ = some (.string y1) := fun p => kcell d1 p
      have zi : ∀ p : Kin wr, p.u.cell? ⟨b2, o2 + k * 2 + 1, none⟩ = some (.int .i64 y2) := fun p => kcell d2 p
      clear g0 g1 g2 g3 g4 x0 x1 x2 x3 x4 d1 d2
      have HATT : Hid (∀ (n : Int), optI (atI fs y2) = n → ∀ p : Kin wr, Calls Tryz.prog 51 #[.agg #[.int .i64 vid, .int .i64 fr, .bool snap, .slice av fs.length ca, .int .i64 next], .int .i64 y2] p.u fun e w' => e = .returned (.int .i64 n) ∧ Below p.u.heap.size p.u w') := fun n hn p => at_is _ ⟨vid, fr, snap, fs, next⟩ y2 p.u n (HVV.out.below (nwT HB0.out (nwT hbr p.h))) hl hn
      cases hnm : nm y1
      · have HNM : Hid (∀ p : Kin wr, Calls Tryz.prog 49 #[.string y1] p.u fun e w' => e = .returned (.bool false) ∧ w' = p.u) := fun p => name_is y1 p.u false hnm
        have HR : Hid (¬ PD) := HNO.out (fun h => by have := (HNK.out.1 h).1; rw [hnm] at this; cases this)
        have HAC : Hid (∀ p : Kin wr, Calls Tryz.prog 51 #[.agg #[.int .i64 vid, .int .i64 fr, .bool snap, .slice av fs.length ca, .int .i64 next], .int .i64 y2] p.u fun e w' => e = .returned (.int .i64 (optI (atI fs y2))) ∧ Below p.u.heap.size p.u w') := fun p => HATT.out _ rfl p
        refine wp_region_kin (by kernel_rfl) (by kernel_rfl) ?_
        repeat (first | go_big_quiet_step (first | (go_at_call 49; exact Calls.kin_same (HNM.out _)) | (go_at_call 51; exact Calls.kin_of (HAC.out _)) | fail) | quiet_step (first | (go_at_call 49; exact Calls.kin_same (HNM.out _)) | (go_at_call 51; exact Calls.kin_of (HAC.out _)) | fail))
        refine wpQuiet_nil ?_
        intro _ hw'
        obtain ⟨pq, hw''⟩ := hw'
        subst hw''
        clear z0 z1 z2 z3 z4 zl zn zi
        have HBQ : Hid (Below W0.heap.size W0 pq.u) := nwT hbr pq.h
        generalize pq.u = Wq at HBQ ⊢
        go_wp2_with fail
        go_ret
        exact ⟨says_no HR.out, nwT HB0.out HBQ.out⟩
      · have HNM : Hid (∀ p : Kin wr, Calls Tryz.prog 49 #[.string y1] p.u fun e w' => e = .returned (.bool true) ∧ w' = p.u) := fun p => name_is y1 p.u true hnm
        by_cases hkz : 0 < k
        case neg =>
          have HKZ : Hid (¬ 0 < k) := hkz
          have HNZ : Hid (LinkOk fs fli k ↔ (atI fs y2).isSome = true) := ⟨fun h => (HNK.out.1 h).2.2, fun h => HNK.out.2 ⟨hnm, fun h => absurd h HKZ.out, h⟩⟩
          have hkd : decide (0 < k) = false := decide_eq_false hkz
          cases hat : atI fs y2 with
          | none =>
            have HR : Hid (¬ PD) := HNO.out (fun h => by have := HNZ.out.1 h; rw [hat] at this; cases this)
            have HAC : Hid (∀ p : Kin wr, Calls Tryz.prog 51 #[.agg #[.int .i64 vid, .int .i64 fr, .bool snap, .slice av fs.length ca, .int .i64 next], .int .i64 y2] p.u fun e w' => e = .returned (.int .i64 (-1)) ∧ Below p.u.heap.size p.u w') := fun p => HATT.out _ (by rw [hat]; rfl) p
            refine wp_region_kin (by kernel_rfl) (by kernel_rfl) ?_
            repeat (first | go_big_quiet_step (first | (go_at_call 49; exact Calls.kin_same (HNM.out _)) | (go_at_call 51; exact Calls.kin_of (HAC.out _)) | fail) | quiet_step (first | (go_at_call 49; exact Calls.kin_same (HNM.out _)) | (go_at_call 51; exact Calls.kin_of (HAC.out _)) | fail))
            refine wpQuiet_nil ?_
            intro _ hw'
            obtain ⟨pq, hw''⟩ := hw'
            subst hw''
            clear z0 z1 z2 z3 z4 zl zn zi
            have HBQ : Hid (Below W0.heap.size W0 pq.u) := nwT hbr pq.h
            generalize pq.u = Wq at HBQ ⊢
            go_wp2_with fail
            go_ret
            exact ⟨says_no HR.out, nwT HB0.out HBQ.out⟩
          | some qq =>
            have HR := HN2.out (HNZ.out.2 (by rw [hat]; rfl))
            have hqq : ¬ (qq : Int) < 0 := by omega
            have HAC : Hid (∀ p : Kin wr, Calls Tryz.prog 51 #[.agg #[.int .i64 vid, .int .i64 fr, .bool snap, .slice av fs.length ca, .int .i64 next], .int .i64 y2] p.u fun e w' => e = .returned (.int .i64 qq) ∧ Below p.u.heap.size p.u w') := fun p => HATT.out _ (by rw [hat]; rfl) p
            refine wp_region_kin (by kernel_rfl) (by kernel_rfl) ?_
            repeat (first | go_big_quiet_step (first | (go_at_call 49; exact Calls.kin_same (HNM.out _)) | (go_at_call 51; exact Calls.kin_of (HAC.out _)) | fail) | quiet_step (first | (go_at_call 49; exact Calls.kin_same (HNM.out _)) | (go_at_call 51; exact Calls.kin_of (HAC.out _)) | fail))
            refine wpQuiet_nil ?_
            intro _ hw'
            obtain ⟨pq, hw''⟩ := hw'
            subst hw''
            clear z0 z1 z2 z3 z4 zl zn zi
            have HBQ : Hid (Below W0.heap.size W0 pq.u) := nwT hbr pq.h
            generalize pq.u = Wq at HBQ ⊢
            go_wp2_with fail
            go_roundw
            case rel => exact ⟨_, Nat.succ_le_of_lt hlt, by go_num, HBQ.out, HR⟩
            case measure => simp [intOf]; omega
        case pos =>
          obtain ⟨m, hkm⟩ : ∃ m, k = m + 1 := ⟨k - 1, by omega⟩
          have HKM : Hid (k = m + 1) := hkm
          obtain ⟨b3, o3, e3, r1, _⟩ := HLB.out.cell (show m < fli.length by omega)
          injection e3 with e3
          injection e3 with e31 e32
          subst e31; subst e32
          have HNZ : Hid (LinkOk fs fli k ↔ (ltS (fli.getD m lk0).1 y1 = true ∧ (atI fs y2).isSome = true)) := by
            have hk1 : k - 1 = m := by omega
            have h0 := HNK.out
            rw [hk1] at h0
            exact ⟨fun h => ⟨(h0.1 h).2.1 hkz, (h0.1 h).2.2⟩, fun h => h0.2 ⟨hnm, fun _ => h.1, h.2⟩⟩
          have zm : ∀ p : Kin wr, p.u.cell? ⟨b2, o2 + m * 2, none⟩ = some (.string (fli.getD m lk0).1) := fun p => kcell r1 p
          clear r1 HLB
          generalize (fli.getD m lk0).1 = y at zm HNZ
          have e1 : IntKind.i64.wrap ((k : Int) - 1) = (m : Int) := by rw [wrap_any (by omega) (by omega)]; omega
          have hkd : decide (0 < k) = true := decide_eq_true hkz
          have m0 : (0 : Int) ≤ (m : Int) := by omega
          have m1 : (m : Int) < (fli.length : Int) := by omega
          clear hkm
          cases hlt2 : ltS y y1
          · have HR : Hid (¬ PD) := HNO.out (fun h => by have := (HNZ.out.1 h).1; rw [hlt2] at this; cases this)
            have hlt3 : Op.bytesLess y.toList y1.toList = false := hlt2
            have HAC : Hid (∀ p : Kin wr, Calls Tryz.prog 51 #[.agg #[.int .i64 vid, .int .i64 fr, .bool snap, .slice av fs.length ca, .int .i64 next], .int .i64 y2] p.u fun e w' => e = .returned (.int .i64 (optI (atI fs y2))) ∧ Below p.u.heap.size p.u w') := fun p => HATT.out _ rfl p
            refine wp_region_kin (by kernel_rfl) (by kernel_rfl) ?_
            repeat (first | go_big_quiet_step (first | (go_at_call 49; exact Calls.kin_same (HNM.out _)) | (go_at_call 51; exact Calls.kin_of (HAC.out _)) | fail) | quiet_step (first | (go_at_call 49; exact Calls.kin_same (HNM.out _)) | (go_at_call 51; exact Calls.kin_of (HAC.out _)) | fail))
            refine wpQuiet_nil ?_
            intro _ hw'
            obtain ⟨pq, hw''⟩ := hw'
            subst hw''
            clear z0 z1 z2 z3 z4 zl zn zi zm
            have HBQ : Hid (Below W0.heap.size W0 pq.u) := nwT hbr pq.h
            generalize pq.u = Wq at HBQ ⊢
            go_wp2_with fail
            go_ret
            exact ⟨says_no HR.out, nwT HB0.out HBQ.out⟩
          · have hlt3 : Op.bytesLess y.toList y1.toList = true := hlt2
            cases hat : atI fs y2 with
            | none =>
              have HR : Hid (¬ PD) := HNO.out (fun h => by have := (HNZ.out.1 h).2; rw [hat] at this; cases this)
              have HAC : Hid (∀ p : Kin wr, Calls Tryz.prog 51 #[.agg #[.int .i64 vid, .int .i64 fr, .bool snap, .slice av fs.length ca, .int .i64 next], .int .i64 y2] p.u fun e w' => e = .returned (.int .i64 (-1)) ∧ Below p.u.heap.size p.u w') := fun p => HATT.out _ (by rw [hat]; rfl) p
              refine wp_region_kin (by kernel_rfl) (by kernel_rfl) ?_
              repeat (first | go_big_quiet_step (first | (go_at_call 49; exact Calls.kin_same (HNM.out _)) | (go_at_call 51; exact Calls.kin_of (HAC.out _)) | fail) | quiet_step (first | (go_at_call 49; exact Calls.kin_same (HNM.out _)) | (go_at_call 51; exact Calls.kin_of (HAC.out _)) | fail))
              refine wpQuiet_nil ?_
              intro _ hw'
              obtain ⟨pq, hw''⟩ := hw'
              subst hw''
              clear z0 z1 z2 z3 z4 zl zn zi zm
              have HBQ : Hid (Below W0.heap.size W0 pq.u) := nwT hbr pq.h
              generalize pq.u = Wq at HBQ ⊢
              go_wp2_with fail
              go_ret
              exact ⟨says_no HR.out, nwT HB0.out HBQ.out⟩
            | some qq =>
              have HR := HN2.out (HNZ.out.2 ⟨hlt2, by rw [hat]; rfl⟩)
              have hqq : ¬ (qq : Int) < 0 := by omega
              have HAC : Hid (∀ p : Kin wr, Calls Tryz.prog 51 #[.agg #[.int .i64 vid, .int .i64 fr, .bool snap, .slice av fs.length ca, .int .i64 next], .int .i64 y2] p.u fun e w' => e = .returned (.int .i64 qq) ∧ Below p.u.heap.size p.u w') := fun p => HATT.out _ (by rw [hat]; rfl) p
              refine wp_region_kin (by kernel_rfl) (by kernel_rfl) ?_
              repeat (first | go_big_quiet_step (first | (go_at_call 49; exact Calls.kin_same (HNM.out _)) | (go_at_call 51; exact Calls.kin_of (HAC.out _)) | fail) | quiet_step (first | (go_at_call 49; exact Calls.kin_same (HNM.out _)) | (go_at_call 51; exact Calls.kin_of (HAC.out _)) | fail))
              refine wpQuiet_nil ?_
              intro _ hw'
              obtain ⟨pq, hw''⟩ := hw'
              subst hw''
              clear z0 z1 z2 z3 z4 zl zn zi zm
              have HBQ : Hid (Below W0.heap.size W0 pq.u) := nwT hbr pq.h
              generalize pq.u = Wq at HBQ ⊢
              go_wp2_with fail
              go_roundw
              case rel => exact ⟨_, Nat.succ_le_of_lt hlt, by go_num, HBQ.out, HR⟩
              case measure => simp [intOf]; omega
    · have hlti : ¬ (k : Int) < (fli.length : Int) := by omega
      have HY : Hid PD := HX.out.2 (fun j hj => HE.out j (by omega))
      go_wp2_with fail
      go_ret
      exact ⟨says_yes HY.out, nwT HB0.out hbr⟩

end Go.Proofs.YtdpighcaieajjaaGreat
