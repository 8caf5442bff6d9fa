/- Laid together: Vbackl. -/
import Derived.Test.YtodahdnnlkcfdaaVolBackM14
import Derived.Deep.RegionHeld3
/- The law VolBack walked. -/
namespace Go.Proofs.Ytodahdnnlkcfdaa
open Go.RowKit

set_option maxRecDepth 100000 in
set_option maxHeartbeats 16000000 in
theorem back_walk : LawOk 4 := by
  intro v ds next l w hv hd hl
  have HVA : Hid (ScrVal w v ds next l) := hv
  obtain ⟨av, ca, aL, cL, rfl, hV, _, _⟩ := id hv
  have HHV : Hid (∀ w', Below w.heap.size w w' → Calls Try.prog 9 #[.agg #[.slice av ds.length ca, .int .i64 next, .slice aL l.length cL]] w' (HvPost ds l w')) := fun w' hb => heavy_any _ ds next l w' (ScrVal.below HVA.out hb) hd hl
  have HV : Hid (VolsAt w av ds) := hV.1
  have HB0 : Hid (Below w.heap.size w (w.alloc (.cells #[.slice av ds.length ca, .int .i64 next, .slice aL l.length cL] 25))) := nwA (nwR w) _
  have HX0 : Hid ((w.alloc (.cells #[.slice av ds.length ca, .int .i64 next, .slice aL l.length cL] 25)).heap[w.heap.size]? = some (.cells #[.slice av ds.length ca, .int .i64 next, .slice aL l.length cL] 25 (0, 0))) := heap_alloc_new w _
  have HWK : Hid (∀ w', Calls Try.prog 12 #[] w' fun e w'' => e = .returned (.bool true) ∧ Below w'.heap.size w' w'') := wakes_any
  clear hv hd hl hV HVA
  obtain ⟨x0, x1, x2⟩ := tri HX0.out
  go_enter Try.func4, Try.ntmps4
  go_wp2_with fail
  generalize w.alloc (.cells #[.slice av ds.length ca, .int .i64 next, .slice aL l.length cL] 25) = WB at HB0 HX0 x0 x1 x2 ⊢
  refine (HHV.out WB HB0.out).mono ?_
  rintro e w1 ⟨q, rfl, hb1, h1⟩
  have HB1 : Hid (Below w.heap.size w w1) := nwT HB0.out hb1
  have HX1 : Hid (w1.heap[w.heap.size]? = some (.cells #[.slice av ds.length ca, .int .i64 next, .slice aL l.length cL] 25 (0, 0))) := (hb1.block _ (Array.getElem?_eq_some_iff.1 HX0.out).1).trans HX0.out
  clear x0 x1 x2 hb1 HHV HX0 HB0
  cases q
  case true =>
    clear h1
    go_wp2_with fail
    go_ret
    exact ⟨rfl, HB1.out⟩
  case false =>
  obtain ⟨hsw, _⟩ := h1 rfl
  have HSW : Hid (SmallW ds) := hsw
  have HV1 : Hid (VolsAt w1 av ds) := HV.out.below HB1.out
  have HXX : Hid (∀ w', Below w1.heap.size w1 w' → w'.cell? ⟨w.heap.size, 0, none⟩ = some (.slice av ds.length ca) ∧ w'.cell? ⟨w.heap.size, 1, none⟩ = some (.int .i64 next)) := fun w' h => by
    have h := tri ((h.block _ (Array.getElem?_eq_some_iff.1 HX1.out).1).trans HX1.out)
    exact ⟨h.1, h.2.1⟩
  have HVS : Hid (Calls Try.prog 13 #[.slice av ds.length ca, .int .i64 next] w1 fun e w' => SaysB e (VolsOk ds next) ∧ Below w1.heap.size w1 w') := rvols_any av ds ca next w1 HV1.out hsw
  clear h1 hsw HX1
  obtain ⟨x0, x1⟩ := HXX.out w1 (nwR w1)
  go_wp2_with fail
  refine HVS.out.mono ?_
  rintro e w2 ⟨⟨b, rfl, hb⟩, hb2⟩
  have HB2 : Hid (Below w1.heap.size w1 w2) := hb2
  clear x0 x1 hb2 HVS
  cases b
  case false =>
    have HBE : Hid (Below w.heap.size w w2) := nwT HB1.out HB2.out
    clear hb
    go_wp2_with fail
    go_ret
    exact ⟨rfl, HBE.out⟩
  case true =>
  have HOK : Hid (VolsOk ds next) := hb.1 rfl
  clear hb
  go_wp2_with fail
  rename World => w2
  go_loopw [3] (fun s3 wr => ∃ (i : Nat), i ≤ ds.length ∧ s3 = .int .i64 i ∧ Hid (Below w2.heap.size w2 wr))
    (fun s3 _ => ds.length - (intOf s3).toNat)
  case atStart => exact ⟨0, by omega, rfl, nwR w2⟩
  case round =>
    obtain ⟨i, hi, rfl, HBR⟩ := hrel
    obtain ⟨x0, x1⟩ := HXX.out wr (nwT HB2.out HBR.out)
    by_cases hil : i < ds.length
    case neg =>
      have hili : ¬ (i : Int) < (ds.length : Int) := by omega
      have HBE : Hid (Below w.heap.size w wr) := nwT (nwT HB1.out HB2.out) HBR.out
      go_wp2_with fail
      refine (HWK.out wr).mono ?_
      rintro e wF ⟨rfl, hbF⟩
      have HBF : Hid (Below w.heap.size w wF) := nwT HBE.out hbF
      clear hbF
      go_wp2_with fail
      go_ret
      exact ⟨rfl, HBF.out⟩
    case pos =>
    have hili : (i : Int) < (ds.length : Int) := by omega
    have hd4 : ds.length ≤ 4 := HOK.out.1.1
    have HBQ : Hid (∀ w', Below wr.heap.size wr w' → Below w1.heap.size w1 w') := fun w' h => nwT (nwT HB2.out HBR.out) h
    obtain ⟨b1, o1, rfl, hvi⟩ := (HV1.out).vol hil
    have HDS : Hid (SmallV (ds.getD i VZ)) := HSW.out.2 _ (by simp [List.getD, hil])
    have HSF : Hid (∀ id : Int, id = (ds.getD i VZ).id → ∀ dd, (0, dd) = snpF ds next id false → atV ds id = some i ∧ (ds.getD i VZ).snap = false ∧ ds.length < 4 ∧ next < 1073741824 ∧ dd = ds ++ [⟨next, id, true, (ds.getD i VZ).files, (ds.getD i VZ).next⟩]) := fun id e dd h => by
      obtain ⟨k, hat, h1, h2, h3, h4⟩ := snp_get h
      have := at_self HOK.out hil (by rw [← e]; exact hat)
      subst this
      exact ⟨hat, h1, h2, h3, h4⟩
    obtain ⟨d, hdd⟩ : ∃ d, d = ds.getD i VZ := ⟨_, rfl⟩
    have HDI : Hid (ds.getD i VZ = d) := hdd.symm
    rw [← hdd] at hvi HSF HDS
    clear hdd
    obtain ⟨af, cf, ⟨c0, c1, c2, c3, c4⟩, hfi, hci⟩ := hvi
    have HC0 : Hid (∀ w', Below wr.heap.size wr w' → w'.cell? ⟨b1, o1 + i * 5, none⟩ = some (.int .i64 d.id)) := fun w' h => ((HBQ.out w' h).cell (p := ⟨b1, o1 + i * 5, none⟩) (block_lt_of_cell c0)).trans c0
    have HC1 : Hid (∀ w', Below wr.heap.size wr w' → w'.cell? ⟨b1, o1 + i * 5 + 1, none⟩ = some (.int .i64 d.fr)) := fun w' h => ((HBQ.out w' h).cell (p := ⟨b1, o1 + i * 5 + 1, none⟩) (block_lt_of_cell c1)).trans c1
    have HC2 : Hid (∀ w', Below wr.heap.size wr w' → w'.cell? ⟨b1, o1 + i * 5 + 2, none⟩ = some (.bool d.snap)) := fun w' h => ((HBQ.out w' h).cell (p := ⟨b1, o1 + i * 5 + 2, none⟩) (block_lt_of_cell c2)).trans c2
    have HC3 : Hid (∀ w', Below wr.heap.size wr w' → w'.cell? ⟨b1, o1 + i * 5 + 3, none⟩ = some (.slice af d.files.length cf)) := fun w' h => ((HBQ.out w' h).cell (p := ⟨b1, o1 + i * 5 + 3, none⟩) (block_lt_of_cell c3)).trans c3
    have HC4 : Hid (∀ w', Below wr.heap.size wr w' → w'.cell? ⟨b1, o1 + i * 5 + 4, none⟩ = some (.int .i64 d.next)) := fun w' h => ((HBQ.out w' h).cell (p := ⟨b1, o1 + i * 5 + 4, none⟩) (block_lt_of_cell c4)).trans c4
    have HLI : Hid (∀ w', Below wr.heap.size wr w' → VolVal w' (.agg #[.int .i64 d.id, .int .i64 d.fr, .bool d.snap, .slice af d.files.length cf, .int .i64 d.next]) d) := fun w' h => VolVal.below (w := w1) ⟨af, cf, rfl, hfi, hci⟩ (HBQ.out w' h)
    have HFI : Hid (∀ w', Below wr.heap.size wr w' → FilesAt w' af d.files) := fun w' h => hfi.below (HBQ.out w' h)
    have HVW : Hid (∀ w', Below wr.heap.size wr w' → VolsAt w' (some ⟨b1, o1, none⟩) ds) := fun w' h => HV1.out.below (HBQ.out w' h)
    have HSN : Hid (∀ w', Below wr.heap.size wr w' → Calls Try.prog 14 #[.slice (some ⟨b1, o1, none⟩) ds.length ca, .int .i64 next, .int .i64 d.id] w' fun e w'' => SnapPost ds next d.id false w'.heap.size e w'' ∧ Below w'.heap.size w' w'') := fun w' hb => snapp_any (some ⟨b1, o1, none⟩) ds ca next d.id w' (HVW.out w' hb) HSW.out
    have HXY : Hid (∀ w', Below wr.heap.size wr w' → w'.cell? ⟨w.heap.size, 0, none⟩ = some (.slice (some ⟨b1, o1, none⟩) ds.length ca) ∧ w'.cell? ⟨w.heap.size, 1, none⟩ = some (.int .i64 next)) := fun w' h => HXX.out _ (HBQ.out w' h)
    clear c0 c1 c2 c3 c4 hfi hci x0 x1
    have hi0 : (0 : Int) ≤ (i : Int) := by omega
    obtain ⟨x0, x1⟩ := HXY.out wr (nwR wr)
    have q0 : ∀ w', Below wr.heap.size wr w' → w'.cell? ⟨w.heap.size, 0, none⟩ = some (.slice (some ⟨b1, o1, none⟩) ds.length ca) := fun w' h => (HXY.out w' h).1
    have q1 : ∀ w', Below wr.heap.size wr w' → w'.cell? ⟨w.heap.size, 1, none⟩ = some (.int .i64 next) := fun w' h => (HXY.out w' h).2
    have qi : ∀ w', Below wr.heap.size wr w' → w'.cell? ⟨b1, o1 + i * 5, none⟩ = some (.int .i64 d.id) := fun w' h => HC0.out w' h
    have hS : Below wr.heap.size wr wr := nwR wr
    go_wp2_with fail
    go_region_held3 (fun w' => Below wr.heap.size wr w') (first | assumption | exact Below.drew (by assumption) | exact nwT (by assumption) (by assumption)) (first
      | (go_at_call 14; refine (HSN.out _ (by assumption)).mono ?_; rintro e wS ⟨⟨uS, nS, erS, dd, rfl, hoS, hpS, hnS⟩, hbS⟩; have HNS : Hid (nS = if erS = 0 then next + 1 else 0) := hnS; have HPS : Hid (ProgR (VolsOk ds next) (snpF ds next d.id false) erS dd) := hpS; clear hnS hpS)
      | fail)
    have hbS2 : Below wr.heap.size wr wS := by assumption
    have HBS : Hid (Below wr.heap.size wr wS) := hbS2
    have HOS : Hid (OwnVols wS wr.heap.size uS dd) := hoS.le (by first | exact Nat.le_refl _ | exact (Below.drew (nwR wr)).size)
    clear q0 q1 qi hS hbS hbS2 hoS x0 x1
    obtain ⟨aS, cS, rfl, haS, _⟩ := HOS.out.at
    by_cases her : erS = 0
    case neg =>
      have her2 : ¬ erS = 0 := her
      have HBT : Hid (Below w2.heap.size w2 wS) := nwT HBR.out HBS.out
      clear haS
      go_wp2_with (go_at_call 15; refine (errnum_any _ _).mono ?_; rintro e w' ⟨rfl, rfl⟩)
      go_roundw
      case rel => exact ⟨i + 1, by omega, by go_num, HBT⟩
      case measure => simp [intOf]; omega
    case pos =>
    subst her
    obtain ⟨hat, hsn, h4, hn, hdd⟩ : atV ds d.id = some i ∧ d.snap = false ∧ ds.length < 4 ∧ next < 1073741824 ∧ dd = ds ++ [⟨next, d.id, true, d.files, d.next⟩] := by
      rcases HPS.out with ⟨_, h⟩ | ⟨h, _⟩
      · exact HSF.out d.id rfl dd h
      · exact absurd HOK.out h
    have hnS : nS = next + 1 := by rw [HNS.out, if_pos rfl]
    subst hnS
    have hk : VolOk d := by rw [← HDI.out]; exact (HOK.out.2 i hil).1
    have hids : 0 < d.id ∧ d.id < next := by have := ids_lt HOK.out i hil; rw [HDI.out] at this; exact ⟨this.2, this.1⟩
    have HOK2 : Hid (VolsOk dd (next + 1)) := by
      show VolsOk dd (next + 1)
      rw [hdd]
      exact add_ok HOK.out rfl (like_ok (next := next) hk rfl rfl rfl (by omega) (by omega) (by simp; omega) (fun _ => rfl)) (fun _ => ⟨i, atV_append hat, by rw [getD_left hil, HDI.out]; exact hsn⟩) h4 hn
    have HSW2 : Hid (SmallW dd) := by show SmallW dd; rw [hdd]; exact snap_small HSW.out h4 hil (by rw [HDI.out])
    have HAT1 : Hid (atV dd next = some ds.length ∧ dd.getD ds.length VZ = ⟨next, d.id, true, d.files, d.next⟩) := by
      show _ ∧ _
      rw [hdd]; exact ⟨atV_last HOK.out rfl, getD_last _ _⟩
    have HAT2 : Hid (atV dd d.id = some i ∧ dd.getD i VZ = d) := by
      show _ ∧ _
      rw [hdd]; exact ⟨atV_append hat, by rw [getD_left hil, HDI.out]⟩
    have HBK : Hid (bakF dd next = (0, dd)) := by
      show _ = _
      rw [hdd]; exact bak_last HOK.out hil rfl rfl (by rw [HDI.out]) (by rw [HDI.out]) (by rw [HDI.out])
    have HDU : Hid (drpF dd d.id = (8, [])) := by show _ = _; rw [hdd]; exact drp_used hat rfl rfl
    have HDL : Hid (drpF dd next = (0, ds)) := by show _ = _; rw [hdd]; exact drp_last HOK.out rfl (fun h => by have := h.2; simp at this; omega)
    have HG1 : Hid (∀ w', Below wS.heap.size wS w' → Calls Try.prog 16 #[.slice aS dd.length cS, .int .i64 (next + 1), .int .i64 next] w' fun e w'' => (∃ fa fc, e = .returned (.tuple #[.agg #[.int .i64 next, .int .i64 d.id, .bool true, .slice fa d.files.length fc, .int .i64 d.next], .int .i64 0]) ∧ VolVal w'' (.agg #[.int .i64 next, .int .i64 d.id, .bool true, .slice fa d.files.length fc, .int .i64 d.next]) ⟨next, d.id, true, d.files, d.next⟩) ∧ Below w'.heap.size w' w'') := fun w' hb => get_is aS dd cS (next + 1) next w' (haS.below hb) HSW2.out HOK2.out HAT1.out.1 _ HAT1.out.2
    have HG2 : Hid (∀ w', Below wS.heap.size wS w' → Calls Try.prog 17 #[.slice aS dd.length cS, .int .i64 (next + 1), .int .i64 next] w' fun e w'' => (∃ u, e = .returned (.tuple #[u, .int .i64 0]) ∧ OwnVols w'' w'.heap.size u dd) ∧ Below w'.heap.size w' w'') := fun w' hb => back_is aS dd cS (next + 1) next w' (haS.below hb) HSW2.out HOK2.out HBK.out
    have HG3 : Hid (∀ w' ab cb, VolsAt w' ab dd → Calls Try.prog 16 #[.slice ab dd.length cb, .int .i64 (next + 1), .int .i64 d.id] w' fun e w'' => (∃ fa fc, e = .returned (.tuple #[.agg #[.int .i64 d.id, .int .i64 d.fr, .bool d.snap, .slice fa d.files.length fc, .int .i64 d.next], .int .i64 0]) ∧ VolVal w'' (.agg #[.int .i64 d.id, .int .i64 d.fr, .bool d.snap, .slice fa d.files.length fc, .int .i64 d.next]) d) ∧ Below w'.heap.size w' w'') := fun w' ab cb hb => get_is ab dd cb (next + 1) d.id w' hb HSW2.out HOK2.out HAT2.out.1 _ HAT2.out.2
    have HG4 : Hid (∀ w', Below wS.heap.size wS w' → Calls Try.prog 21 #[.slice aS dd.length cS, .int .i64 (next + 1), .int .i64 next] w' fun e w'' => SnapPost dd (next + 1) next true w'.heap.size e w'' ∧ Below w'.heap.size w' w'') := fun w' hb => clonep_any aS dd cS (next + 1) next w' (haS.below hb) HSW2.out
    have HG5 : Hid (∀ w', Below wS.heap.size wS w' → Calls Try.prog 22 #[.slice aS dd.length cS, .int .i64 (next + 1), .int .i64 d.id] w' fun e w'' => (∃ u, e = .returned (.tuple #[u, .int .i64 8]) ∧ OwnVols w'' w'.heap.size u []) ∧ Below w'.heap.size w' w'') := fun w' hb => drop_is aS dd cS (next + 1) d.id w' (haS.below hb) HSW2.out HOK2.out HDU.out
    have HG6 : Hid (∀ w', Below wS.heap.size wS w' → Calls Try.prog 22 #[.slice aS dd.length cS, .int .i64 (next + 1), .int .i64 next] w' fun e w'' => (∃ u, e = .returned (.tuple #[u, .int .i64 0]) ∧ OwnVols w'' w'.heap.size u ds) ∧ Below w'.heap.size w' w'') := fun w' hb => drop_is aS dd cS (next + 1) next w' (haS.below hb) HSW2.out HOK2.out HDL.out
    have HAS : Hid (∀ w', Below wS.heap.size wS w' → VolsAt w' aS dd) := fun w' hb => haS.below hb
    have HLD : Hid (dd.length ≤ 100000) := HSW2.out.1
    clear hat hsn h4 hdd haS HPS HNS HOS HSN HSF HBK HDU HDL hk hids hn
    have x1 := (HXY.out wS HBS.out).2
    go_wp2_with (go_at_call 15; refine (errnum_any _ _).mono ?_; rintro e w' ⟨rfl, rfl⟩)
    rename World => wS
    refine (HG1.out wS (nwR wS)).mono ?_
    rintro e w3 ⟨⟨fa, fc, rfl, hvs⟩, hb3⟩
    have HB3 : Hid (Below wS.heap.size wS w3) := hb3
    have HFS : Hid (FilesAt w3 fa d.files) := hvs.files
    obtain ⟨W4, hW4⟩ : ∃ W4, W4 = w3.alloc (.cells #[.int .i64 next, .int .i64 d.id, .bool true, .slice fa d.files.length fc, .int .i64 d.next] 32) := ⟨_, rfl⟩
    have HB4 : Hid (Below wS.heap.size wS W4) := by rw [hW4]; exact nwA HB3.out _
    have HR4 : Hid (W4.heap[w3.heap.size]? = some (.cells #[.int .i64 next, .int .i64 d.id, .bool true, .slice fa d.files.length fc, .int .i64 d.next] 32 (0, 0))) := by rw [hW4]; exact heap_alloc_new w3 _
    have HF4 : Hid (FilesAt W4 fa d.files) := by rw [hW4]; exact HFS.out.below (nwA (nwR w3) _)
    have x1 := (HXY.out W4 (nwT HBS.out HB4.out)).2
    rw [hW4] at x1
    clear hvs hb3 HFS
    go_wp2_with fail
    rw [← hW4]
    clear hW4 x1
    generalize w3.heap.size = g7 at HR4 ⊢
    refine (HG2.out W4 HB4.out).mono ?_
    rintro e w5 ⟨⟨u5, rfl, ho5⟩, hb5⟩
    obtain ⟨a5, c5, rfl, ha5, _⟩ := ho5.at
    have HB5 : Hid (Below wS.heap.size wS w5) := nwT HB4.out hb5
    have HB45 : Hid (Below W4.heap.size W4 w5) := hb5
    have HA5 : Hid (VolsAt w5 a5 dd) := ha5
    obtain ⟨x0, x1⟩ := HXY.out w5 (nwT HBS.out HB5.out)
    have xi := HC0.out w5 (nwT HBS.out HB5.out)
    clear ho5 hb5 ha5
    go_wp2_with fail
    refine (HG3.out w5 a5 c5 HA5.out).mono ?_
    rintro e w6 ⟨⟨fb, fd, rfl, hvs⟩, hb6⟩
    obtain ⟨W7, hW7⟩ : ∃ W7, W7 = w6.alloc (.cells #[.int .i64 d.id, .int .i64 d.fr, .bool d.snap, .slice fb d.files.length fd, .int .i64 d.next] 32) := ⟨_, rfl⟩
    have HB57 : Hid (Below w5.heap.size w5 W7) := by rw [hW7]; exact nwA hb6 _
    have HB7 : Hid (Below wS.heap.size wS W7) := nwT HB5.out HB57.out
    have HBR7 : Hid (Below wr.heap.size wr W7) := nwT HBS.out HB7.out
    have HR7 : Hid (W7.heap[w6.heap.size]? = some (.cells #[.int .i64 d.id, .int .i64 d.fr, .bool d.snap, .slice fb d.files.length fd, .int .i64 d.next] 32 (0, 0))) := by rw [hW7]; exact heap_alloc_new w6 _
    have HR47 : Hid (W7.heap[g7]? = some (.cells #[.int .i64 next, .int .i64 d.id, .bool true, .slice fa d.files.length fc, .int .i64 d.next] 32 (0, 0))) := ((nwT HB45.out HB57.out).block _ (Array.getElem?_eq_some_iff.1 HR4.out).1).trans HR4.out
    have HF7 : Hid (FilesAt W7 fa d.files) := HF4.out.below (nwT HB45.out HB57.out)
    have HV7 : Hid (VolVal W7 (.agg #[.int .i64 d.id, .int .i64 d.fr, .bool d.snap, .slice fb d.files.length fd, .int .i64 d.next]) d) := by rw [hW7]; exact hvs.below (nwA (nwR w6) _)
    have HA7 : Hid (VolsAt W7 a5 dd) := HA5.out.below HB57.out
    clear hvs hb6 x0 x1 xi
    obtain ⟨x0, x1⟩ := HXY.out W7 HBR7.out
    rw [hW7] at x0 x1
    go_wp2_with fail
    rw [← hW7]
    clear hW7 x0 x1
    generalize w6.heap.size = g11 at HR7 ⊢
    have HE1 : Hid (∀ w', Below W7.heap.size W7 w' → Calls Try.prog 18 #[.slice fa d.files.length fc, .slice af d.files.length cf] w' fun e w'' => e = .returned (.bool true) ∧ Below w'.heap.size w' w'') := fun w' h => by
      refine (eqFiles_any fa af d.files d.files fc cf w' (HF7.out.below h) (HFI.out w' (nwT HBR7.out h)) HDS.out.1 HDS.out.2).mono ?_
      rintro e w'' ⟨rfl, hb⟩
      exact ⟨by simp, hb⟩
    have HE2 : Hid (∀ w', Below W7.heap.size W7 w' → Calls Try.prog 19 #[.agg #[.int .i64 d.id, .int .i64 d.fr, .bool d.snap, .slice fb d.files.length fd, .int .i64 d.next], .agg #[.int .i64 d.id, .int .i64 d.fr, .bool d.snap, .slice af d.files.length cf, .int .i64 d.next]] w' fun e w'' => e = .returned (.bool true) ∧ Below w'.heap.size w' w'') := fun w' h => by
      refine (eqVol_any _ _ d d w' (HV7.out.below h) (HLI.out w' (nwT HBR7.out h)) HDS.out).mono ?_
      rintro e w'' ⟨rfl, hb⟩
      exact ⟨by simp, hb⟩
    have HE3 : Hid (∀ w', Below W7.heap.size W7 w' → Calls Try.prog 20 #[.slice a5 dd.length c5, .slice aS dd.length cS] w' fun e w'' => e = .returned (.bool true) ∧ Below w'.heap.size w' w'') := fun w' h => by
      refine (eqVols_any a5 aS dd dd c5 cS w' (HA7.out.below h) (HAS.out w' (nwT HB7.out h)) HSW2.out).mono ?_
      rintro e w'' ⟨rfl, hb⟩
      exact ⟨by simp, hb⟩
    have q0 : ∀ w', Below W7.heap.size W7 w' → w'.cell? ⟨w.heap.size, 0, none⟩ = some (.slice (some ⟨b1, o1, none⟩) ds.length ca) := fun w' h => (HXY.out w' (nwT HBR7.out h)).1
    have p0 : ∀ w', Below W7.heap.size W7 w' → w'.cell? ⟨b1, o1 + i * 5, none⟩ = some (.int .i64 d.id) := fun w' h => HC0.out w' (nwT HBR7.out h)
    have p1 : ∀ w', Below W7.heap.size W7 w' → w'.cell? ⟨b1, o1 + i * 5 + 1, none⟩ = some (.int .i64 d.fr) := fun w' h => HC1.out w' (nwT HBR7.out h)
    have p2 : ∀ w', Below W7.heap.size W7 w' → w'.cell? ⟨b1, o1 + i * 5 + 2, none⟩ = some (.bool d.snap) := fun w' h => HC2.out w' (nwT HBR7.out h)
    have p3 : ∀ w', Below W7.heap.size W7 w' → w'.cell? ⟨b1, o1 + i * 5 + 3, none⟩ = some (.slice af d.files.length cf) := fun w' h => HC3.out w' (nwT HBR7.out h)
    have p4 : ∀ w', Below W7.heap.size W7 w' → w'.cell? ⟨b1, o1 + i * 5 + 4, none⟩ = some (.int .i64 d.next) := fun w' h => HC4.out w' (nwT HBR7.out h)
    have s1 : ∀ w', Below W7.heap.size W7 w' → w'.cell? ⟨g7, 1, none⟩ = some (.int .i64 d.id) := fun w' h => by
      have e := (h.block _ (Array.getElem?_eq_some_iff.1 HR47.out).1).trans HR47.out
      rw [Lib.cell_of_heap e]; rfl
    have s2 : ∀ w', Below W7.heap.size W7 w' → w'.cell? ⟨g7, 2, none⟩ = some (.bool true) := fun w' h => by
      have e := (h.block _ (Array.getElem?_eq_some_iff.1 HR47.out).1).trans HR47.out
      rw [Lib.cell_of_heap e]; rfl
    have s3 : ∀ w', Below W7.heap.size W7 w' → w'.cell? ⟨g7, 3, none⟩ = some (.slice fa d.files.length fc) := fun w' h => by
      have e := (h.block _ (Array.getElem?_eq_some_iff.1 HR47.out).1).trans HR47.out
      rw [Lib.cell_of_heap e]; rfl
    have HS3 : Hid (∀ w', Below W7.heap.size W7 w' → w'.cell? ⟨g7, 3, none⟩ = some (.slice fa d.files.length fc)) := s3
    have t0 : ∀ w', Below W7.heap.size W7 w' → w'.cell? ⟨g11, 0, none⟩ = some (.int .i64 d.id) := fun w' h => by
      have e := (h.block _ (Array.getElem?_eq_some_iff.1 HR7.out).1).trans HR7.out
      rw [Lib.cell_of_heap e]; rfl
    have t1 : ∀ w', Below W7.heap.size W7 w' → w'.cell? ⟨g11, 1, none⟩ = some (.int .i64 d.fr) := fun w' h => by
      have e := (h.block _ (Array.getElem?_eq_some_iff.1 HR7.out).1).trans HR7.out
      rw [Lib.cell_of_heap e]; rfl
    have t2 : ∀ w', Below W7.heap.size W7 w' → w'.cell? ⟨g11, 2, none⟩ = some (.bool d.snap) := fun w' h => by
      have e := (h.block _ (Array.getElem?_eq_some_iff.1 HR7.out).1).trans HR7.out
      rw [Lib.cell_of_heap e]; rfl
    have t3 : ∀ w', Below W7.heap.size W7 w' → w'.cell? ⟨g11, 3, none⟩ = some (.slice fb d.files.length fd) := fun w' h => by
      have e := (h.block _ (Array.getElem?_eq_some_iff.1 HR7.out).1).trans HR7.out
      rw [Lib.cell_of_heap e]; rfl
    have t4 : ∀ w', Below W7.heap.size W7 w' → w'.cell? ⟨g11, 4, none⟩ = some (.int .i64 d.next) := fun w' h => by
      have e := (h.block _ (Array.getElem?_eq_some_iff.1 HR7.out).1).trans HR7.out
      rw [Lib.cell_of_heap e]; rfl
    clear HR4 HR47 HR7 HF4 HV7 HA7 HA5 HG1 HG2 HG3 HB3 HB4 HB45 HB5 HB57
    have hS : Below W7.heap.size W7 W7 := nwR W7
    go_region_held3 (fun w' => Below W7.heap.size W7 w') (first | assumption | exact Below.drew (by assumption) | exact nwT (by assumption) (by assumption)) (first
      | (go_at_call 15; refine (errnum_any _ _).mono ?_; rintro e w' ⟨rfl, rfl⟩)
      | (go_at_call 18; refine (HE1.out _ (by first | assumption | exact Below.drew (by assumption) | exact nwT (by assumption) (by assumption))).mono ?_; rintro e wA ⟨rfl, hbA⟩)
      | (go_at_call 19; refine (HE2.out _ (by first | assumption | exact Below.drew (by assumption) | exact nwT (by assumption) (by assumption))).mono ?_; rintro e wB ⟨rfl, hbB⟩)
      | (go_at_call 20; refine (HE3.out _ (by first | assumption | exact Below.drew (by assumption) | exact nwT (by assumption) (by assumption))).mono ?_; rintro e wC ⟨rfl, hbC⟩)
      | fail)
    have HBC : Hid (Below W7.heap.size W7 wC) := by assumption
    have HBSC : Hid (Below wS.heap.size wS wC) := nwT HB7.out HBC.out
    clear q0 p0 p1 p2 p3 p4 s1 s2 s3 t0 t1 t2 t3 t4 hS hbA hbB hbC HE1 HE2 HE3
    have x1 := (HXY.out wC (nwT HBS.out HBSC.out)).2
    go_wp2_with fail
    refine (HG4.out wC HBSC.out).mono ?_
    rintro e wD ⟨⟨uD, nD, erD, d2, rfl, hoD, hpD, hnD⟩, hbD⟩
    have HND : Hid (nD = if erD = 0 then next + 1 + 1 else 0) := hnD
    have HPD : Hid (ProgR (VolsOk dd (next + 1)) (snpF dd (next + 1) next true) erD d2) := hpD
    have HBD : Hid (Below W7.heap.size W7 wD) := nwT HBC.out hbD
    have HBSD : Hid (Below wS.heap.size wS wD) := nwT HB7.out HBD.out
    obtain ⟨aD, cD, rfl, haD, _⟩ := hoD.at
    have HAD : Hid (VolsAt wD aD d2) := haD
    clear x1 hoD hpD hnD hbD haD HG4
    by_cases her : erD = 0
    case neg =>
      have her2 : ¬ erD = 0 := her
      have x0 := (HXY.out wD (nwT HBS.out HBSD.out)).1
      have xi := HC0.out wD (nwT HBS.out HBSD.out)
      clear HPD HND HAD
      go_wp2_with (go_at_call 15; refine (errnum_any _ _).mono ?_; rintro e w' ⟨rfl, rfl⟩)
      rename World => wT
      have HBT : Hid (Below wS.heap.size wS wT) := HBSD.out
      refine (HG5.out wT HBT.out).mono ?_
      rintro e wU ⟨⟨uU, rfl, hoU⟩, hbU⟩
      obtain ⟨aU, cU, rfl, _, _⟩ := hoU.at
      have HBU : Hid (Below wS.heap.size wS wU) := nwT HBT.out hbU
      clear hoU hbU x0 xi
      have x1 := (HXY.out wU (nwT HBS.out HBU.out)).2
      go_wp2_with fail
      refine (HG6.out wU HBU.out).mono ?_
      rintro e wX ⟨⟨uX, rfl, hoX⟩, hbX⟩
      obtain ⟨aX, cX, rfl, haX, _⟩ := hoX.at
      have HBX : Hid (Below wS.heap.size wS wX) := nwT HBU.out hbX
      have HE9 : Hid (Calls Try.prog 20 #[.slice aX ds.length cX, .slice (some ⟨b1, o1, none⟩) ds.length ca] wX fun e w'' => e = .returned (.bool true) ∧ Below wX.heap.size wX w'') := by
        refine (eqVols_any aX (some ⟨b1, o1, none⟩) ds ds cX ca wX haX (HVW.out wX (nwT HBS.out HBX.out)) HSW.out).mono ?_
        rintro e w'' ⟨rfl, hb⟩
        exact ⟨by simp, hb⟩
      clear hoX hbX haX x1
      have x0 := (HXY.out wX (nwT HBS.out HBX.out)).1
      go_wp2_with (go_at_call 15; refine (errnum_any _ _).mono ?_; rintro e w' ⟨rfl, rfl⟩)
      rename World => wX
      refine HE9.out.mono ?_
      rintro e wZ ⟨rfl, hbZ⟩
      have HBZ : Hid (Below w2.heap.size w2 wZ) := nwT (nwT HBR.out HBS.out) (nwT HBX.out hbZ)
      clear hbZ HE9 x0
      go_wp2_with fail
      go_roundw
      case rel => exact ⟨i + 1, by omega, by go_num, HBZ⟩
      case measure => simp [intOf]; omega
    case pos =>
    subst her
    have hn1 := HOK.out.1.2.1
    obtain ⟨k2, hat2, hsn2, h42, hn2, hd2⟩ : ∃ k, atV dd next = some k ∧ (dd.getD k VZ).snap = true ∧ dd.length < 4 ∧ next + 1 < 1073741824 ∧ d2 = dd ++ [⟨next + 1, 0, false, (dd.getD k VZ).files, (dd.getD k VZ).next⟩] := by
      rcases HPD.out with ⟨_, h⟩ | ⟨h, _⟩
      · exact snp_get h
      · exact absurd HOK2.out h
    have ek : k2 = ds.length := by have := hat2.symm.trans HAT1.out.1; injection this
    subst ek
    rw [HAT1.out.2] at hd2
    have HD2 : Hid (d2 = dd ++ [⟨next + 1, 0, false, d.files, d.next⟩]) := hd2
    have hnD : nD = next + 1 + 1 := by rw [HND.out, if_pos rfl]
    subst hnD
    have hs : VolOk (⟨next, d.id, true, d.files, d.next⟩ : VolD) := by
      have := (HOK2.out.2 ds.length (atV_lt HAT1.out.1)).1
      rw [HAT1.out.2] at this
      exact this
    have HOK3 : Hid (VolsOk d2 (next + 1 + 1)) := by
      show VolsOk d2 (next + 1 + 1)
      rw [hd2]
      exact add_ok HOK2.out rfl (like_ok (next := next + 1) hs rfl rfl rfl (by omega) (by omega) (by simp) (fun h => absurd rfl h)) (fun h => absurd h (by simp)) h42 hn2
    have HSW3 : Hid (SmallW d2) := by show SmallW d2; rw [hd2]; exact snap_small HSW2.out h42 (atV_lt HAT1.out.1) (by rw [HAT1.out.2])
    have HAT3 : Hid (atV d2 (next + 1) = some dd.length ∧ d2.getD dd.length VZ = ⟨next + 1, 0, false, d.files, d.next⟩) := by
      show _ ∧ _
      rw [hd2]; exact ⟨atV_last HOK2.out rfl, getD_last _ _⟩
    have HDL3 : Hid (drpF d2 (next + 1) = (0, dd)) := by show _ = _; rw [hd2]; exact drp_last HOK2.out rfl (by simp)
    have HG7 : Hid (∀ w', Below wD.heap.size wD w' → Calls Try.prog 16 #[.slice aD d2.length cD, .int .i64 (next + 1 + 1), .int .i64 (next + 1)] w' fun e w'' => (∃ fa fc, e = .returned (.tuple #[.agg #[.int .i64 (next + 1), .int .i64 0, .bool false, .slice fa d.files.length fc, .int .i64 d.next], .int .i64 0]) ∧ VolVal w'' (.agg #[.int .i64 (next + 1), .int .i64 0, .bool false, .slice fa d.files.length fc, .int .i64 d.next]) ⟨next + 1, 0, false, d.files, d.next⟩) ∧ Below w'.heap.size w' w'') := fun w' hb => get_is aD d2 cD (next + 1 + 1) (next + 1) w' (HAD.out.below hb) HSW3.out HOK3.out HAT3.out.1 _ HAT3.out.2
    have HG8 : Hid (∀ w', Below wD.heap.size wD w' → Calls Try.prog 22 #[.slice aD d2.length cD, .int .i64 (next + 1 + 1), .int .i64 (next + 1)] w' fun e w'' => (∃ u, e = .returned (.tuple #[u, .int .i64 0]) ∧ OwnVols w'' w'.heap.size u dd) ∧ Below w'.heap.size w' w'') := fun w' hb => drop_is aD d2 cD (next + 1 + 1) (next + 1) w' (HAD.out.below hb) HSW3.out HOK3.out HDL3.out
    have HLD2 : Hid (d2.length ≤ 100000) := HSW3.out.1
    clear hat2 hsn2 h42 hn2 hd2 hs HND HPD HAT3 HDL3 hn1
    go_wp2_with (go_at_call 15; refine (errnum_any _ _).mono ?_; rintro e w' ⟨rfl, rfl⟩)
    rename World => wD
    refine (HG7.out wD (nwR wD)).mono ?_
    rintro e w9 ⟨⟨fe, ff, rfl, hvs⟩, hb9⟩
    obtain ⟨W10, hW10⟩ : ∃ W10, W10 = w9.alloc (.cells #[.int .i64 (next + 1), .int .i64 0, .bool false, .slice fe d.files.length ff, .int .i64 d.next] 32) := ⟨_, rfl⟩
    have HB10 : Hid (Below wD.heap.size wD W10) := by rw [hW10]; exact nwA hb9 _
    have HR10 : Hid (W10.heap[w9.heap.size]? = some (.cells #[.int .i64 (next + 1), .int .i64 0, .bool false, .slice fe d.files.length ff, .int .i64 d.next] 32 (0, 0))) := by rw [hW10]; exact heap_alloc_new w9 _
    have HF10 : Hid (FilesAt W10 fe d.files) := by rw [hW10]; exact hvs.files.below (nwA (nwR w9) _)
    clear hvs hb9
    go_wp2_with fail
    rw [← hW10]
    clear hW10
    generalize w9.heap.size = g16 at HR10 ⊢
    refine (HG8.out W10 HB10.out).mono ?_
    rintro e wE ⟨⟨uE, rfl, hoE⟩, hbE⟩
    obtain ⟨aE, cE, rfl, haE, _⟩ := hoE.at
    have HBE : Hid (Below W7.heap.size W7 wE) := nwT HBD.out (nwT HB10.out hbE)
    have HBSE : Hid (Below wS.heap.size wS wE) := nwT HB7.out HBE.out
    have HE4 : Hid (Calls Try.prog 18 #[.slice fe d.files.length ff, .slice fa d.files.length fc] wE fun e w'' => e = .returned (.bool true) ∧ Below wE.heap.size wE w'') := by
      refine (eqFiles_any fe fa d.files d.files ff fc wE (HF10.out.below hbE) (HF7.out.below HBE.out) HDS.out.1 HDS.out.2).mono ?_
      rintro e w'' ⟨rfl, hb⟩
      exact ⟨by simp, hb⟩
    have HE5 : Hid (∀ w', Below wE.heap.size wE w' → Calls Try.prog 20 #[.slice aE dd.length cE, .slice aS dd.length cS] w' fun e w'' => e = .returned (.bool true) ∧ Below w'.heap.size w' w'') := fun w' h => by
      refine (eqVols_any aE aS dd dd cE cS w' (haE.below h) (HAS.out w' (nwT HBSE.out h)) HSW2.out).mono ?_
      rintro e w'' ⟨rfl, hb⟩
      exact ⟨by simp, hb⟩
    have hr := (hbE.block _ (Array.getElem?_eq_some_iff.1 HR10.out).1).trans HR10.out
    have y1 : wE.cell? ⟨g16, 1, none⟩ = some (.int .i64 0) := by rw [Lib.cell_of_heap hr]; rfl
    have y2 : wE.cell? ⟨g16, 2, none⟩ = some (.bool false) := by rw [Lib.cell_of_heap hr]; rfl
    have y3 : wE.cell? ⟨g16, 3, none⟩ = some (.slice fe d.files.length ff) := by rw [Lib.cell_of_heap hr]; rfl
    have z3 := HS3.out wE HBE.out
    clear hr hoE hbE haE HR10 HF10
    go_wp2_with (go_at_call 15; refine (errnum_any _ _).mono ?_; rintro e w' ⟨rfl, rfl⟩)
    rename World => wE
    refine HE4.out.mono ?_
    rintro e wF ⟨rfl, hbF⟩
    have HBF : Hid (Below wE.heap.size wE wF) := hbF
    clear hbF y1 y2 y3 z3 HE4
    go_wp2_with fail
    refine (HE5.out wF HBF.out).mono ?_
    rintro e wT ⟨rfl, hbT⟩
    have HBT : Hid (Below wS.heap.size wS wT) := nwT HBSE.out (nwT HBF.out hbT)
    clear hbT HE5
    have x0 := (HXY.out wT (nwT HBS.out HBT.out)).1
    have xi := HC0.out wT (nwT HBS.out HBT.out)
    go_wp2_with fail
    refine (HG5.out wT HBT.out).mono ?_
    rintro e wU ⟨⟨uU, rfl, hoU⟩, hbU⟩
    obtain ⟨aU, cU, rfl, _, _⟩ := hoU.at
    have HBU : Hid (Below wS.heap.size wS wU) := nwT HBT.out hbU
    clear hoU hbU x0 xi
    have x1 := (HXY.out wU (nwT HBS.out HBU.out)).2
    go_wp2_with fail
    refine (HG6.out wU HBU.out).mono ?_
    rintro e wX ⟨⟨uX, rfl, hoX⟩, hbX⟩
    obtain ⟨aX, cX, rfl, haX, _⟩ := hoX.at
    have HBX : Hid (Below wS.heap.size wS wX) := nwT HBU.out hbX
    have HE9 : Hid (Calls Try.prog 20 #[.slice aX ds.length cX, .slice (some ⟨b1, o1, none⟩) ds.length ca] wX fun e w'' => e = .returned (.bool true) ∧ Below wX.heap.size wX w'') := by
      refine (eqVols_any aX (some ⟨b1, o1, none⟩) ds ds cX ca wX haX (HVW.out wX (nwT HBS.out HBX.out)) HSW.out).mono ?_
      rintro e w'' ⟨rfl, hb⟩
      exact ⟨by simp, hb⟩
    clear hoX hbX haX x1
    have x0 := (HXY.out wX (nwT HBS.out HBX.out)).1
    go_wp2_with (go_at_call 15; refine (errnum_any _ _).mono ?_; rintro e w' ⟨rfl, rfl⟩)
    rename World => wX
    refine HE9.out.mono ?_
    rintro e wZ ⟨rfl, hbZ⟩
    have HBZ : Hid (Below w2.heap.size w2 wZ) := nwT (nwT HBR.out HBS.out) (nwT HBX.out hbZ)
    clear hbZ HE9 x0
    go_wp2_with fail
    go_roundw
    case rel => exact ⟨i + 1, by omega, by go_num, HBZ⟩
    case measure => simp [intOf]; omega

end Go.Proofs.Ytodahdnnlkcfdaa
