/- Laid together: Stepw. -/
import Derived.Test.YtodahdnnlkcfdaaVolM18
import Derived.Deep.CutRange
import Derived.Deep.CutBlock
/- The law's step. -/
namespace Go.Proofs.Ytodahdnnlkcfdaa
open Go.RowKit

theorem sevenS {w : World} {g : Nat} {c0 c1 c2 c3 c4 c5 c6 : Value} {t : TypeId} (h : w.heap[g]? = some (.cells #[c0, c1, c2, c3, c4, c5, c6] t (0, 0))) :
    w.cell? ⟨g, 0, none⟩ = some c0 ∧ w.cell? ⟨g, 1, none⟩ = some c1 ∧ w.cell? ⟨g, 2, none⟩ = some c2 ∧ w.cell? ⟨g, 3, none⟩ = some c3 ∧ w.cell? ⟨g, 4, none⟩ = some c4 ∧ w.cell? ⟨g, 5, none⟩ = some c5 ∧ w.cell? ⟨g, 6, none⟩ = some c6 :=
  ⟨by rw [Lib.cell_of_heap h]; rfl, by rw [Lib.cell_of_heap h]; rfl, by rw [Lib.cell_of_heap h]; rfl, by rw [Lib.cell_of_heap h]; rfl, by rw [Lib.cell_of_heap h]; rfl, by rw [Lib.cell_of_heap h]; rfl, by rw [Lib.cell_of_heap h]; rfl⟩
theorem errnum_w (er : Int) (w : World) : Calls Try.prog 15 #[.int .i64 er] w fun e w' => e = .returned (.int .i64 er) ∧ w = w' := (errnum_any er w).mono fun _ _ h => ⟨h.1, h.2.symm⟩
theorem five_other {w : World} {g k : Nat} {c0 c1 c2 c3 c4 : Value} {o : Obj} (h : w.heap[k]? = some o) (hk : k ≠ g) : (((((w.setCell ⟨g, 0, none⟩ c0).setCell ⟨g, 1, none⟩ c1).setCell ⟨g, 2, none⟩ c2).setCell ⟨g, 3, none⟩ c3).setCell ⟨g, 4, none⟩ c4).heap[k]? = some o := by
  rw [heap_setCell_other _ ⟨g, 4, none⟩ k _ hk, heap_setCell_other _ ⟨g, 3, none⟩ k _ hk, heap_setCell_other _ ⟨g, 2, none⟩ k _ hk, heap_setCell_other _ ⟨g, 1, none⟩ k _ hk, heap_setCell_other _ ⟨g, 0, none⟩ k _ hk, h]
theorem small_vz : SmallV VZ := ⟨by simp [VZ, v0], fun f hf => by simp [VZ, v0] at hf⟩
theorem dropr_all (a : Option Addr) (ds : List VolD) (ca : Nat) (next vid : Int) (W w : World) (hvW : VolsAt W a ds) (hbW : Below W.heap.size W w) (hc : CapOk a ca ds.length) (hs : SmallW ds) (hok : VolsOk ds next) :
    Calls Try.prog 29 #[.slice a ds.length ca, .int .i64 vid] w fun e w' => PgM W (drpF ds vid) w.heap.size e w' ∧ Below w.heap.size w w' := by
  rw [← drq_drp hok]
  cases hat : atV ds vid with
  | none => exact dropr_none a ds ca vid W w (hvW.below hbW) hs.1 hat
  | some k => exact dropr_any a ds ca vid W w hvW hbW hc hs k hat

set_option maxRecDepth 100000 in
set_option maxHeartbeats 16000000 in
theorem step_go (a : Option Addr) (ds : List VolD) (ca : Nat) (next act vid : Int) (d : VolD) (af : Option Addr) (cf : Nat) (w : World) (hv : VolsAt w a ds) (hc : CapOk a ca ds.length) (hs : SmallW ds) (hf : FilesAt w af d.files) (hcf : CapOk af cf d.files.length) (hsv : SmallV d) :
    Calls Try.prog 11 #[.slice a ds.length ca, .int .i64 next, .agg #[.int .i64 act, .int .i64 vid, .int .i64 d.id, .int .i64 d.fr, .bool d.snap, .slice af d.files.length cf, .int .i64 d.next]] w fun e w' => (∃ a' ds' c' next', e = .returned (.tuple #[.slice a' (ds' : List VolD).length c', .int .i64 next', .bool true]) ∧ VolsAt w' a' ds' ∧ CapOk a' c' ds'.length ∧ SmallW ds') ∧ Below w.heap.size w w' := by
  have HS : Hid (SmallW ds) := hs
  have HSV : Hid (SmallV d) := hsv
  have HCA : Hid (CapOk a ca ds.length) := hc
  have HCF : Hid (CapOk af cf d.files.length) := hcf
  obtain ⟨W0, hW0⟩ : ∃ W0, W0 = w.alloc (.cells #[.int .i64 act, .int .i64 vid, .int .i64 d.id, .int .i64 d.fr, .bool d.snap, .slice af d.files.length cf, .int .i64 d.next] 34) := ⟨_, rfl⟩
  have hb0 : Below w.heap.size w W0 := by rw [hW0]; exact nwA (nwR w) _
  have hx0 : W0.heap[w.heap.size]? = some (.cells #[.int .i64 act, .int .i64 vid, .int .i64 d.id, .int .i64 d.fr, .bool d.snap, .slice af d.files.length cf, .int .i64 d.next] 34 (0, 0)) := by rw [hW0]; exact heap_alloc_new w _
  have HV0 : Hid (VolsAt w a ds ∧ FilesAt w af d.files) := ⟨hv, hf⟩
  clear hs hsv hc hcf hv hf
  go_enter Try.func11, Try.ntmps11
  go_wp2_with fail
  rw [← hW0]
  clear hW0
  refine (copyVols_any a ds ca W0 (HV0.out.1.below hb0) HS.out).mono ?_
  rintro e w1 ⟨⟨u, rfl, hu⟩, hb1⟩
  obtain ⟨fa, fc, rfl, hva, _⟩ := hu.at
  go_wp2_with fail
  refine (rvols_any a ds ca next w1 (HV0.out.1.below (nwT hb0 hb1)) HS.out).mono ?_
  rintro e w2 ⟨⟨may, rfl, hmay⟩, hb2⟩
  have hb02 := nwT hb0 (nwT hb1 hb2)
  have hx2 := (nwT hb1 hb2).block _ (Array.getElem?_eq_some_iff.1 hx0).1 |>.trans hx0
  have HMAY : Hid (may = true ↔ VolsOk ds next) := hmay
  have HBOX : Hid (∀ w', Below w2.heap.size w2 w' → w'.heap[w.heap.size]? = some (.cells #[.int .i64 act, .int .i64 vid, .int .i64 d.id, .int .i64 d.fr, .bool d.snap, .slice af d.files.length cf, .int .i64 d.next] 34 (0, 0))) := fun w' h => (h.block _ (Array.getElem?_eq_some_iff.1 hx2).1).trans hx2
  have HIN : Hid (∀ w', Below w2.heap.size w2 w' → VolsAt w' fa ds) := fun w' h => (hva.below hb2).below h
  have HL : Hid (∀ w', Below w2.heap.size w2 w' → VolsAt w' a ds) := fun w' h => (HV0.out.1.below hb02).below h
  have HFD : Hid (∀ w', Below w2.heap.size w2 w' → FilesAt w' af d.files) := fun w' h => (HV0.out.2.below hb02).below h
  have HB2 : Hid (Below w.heap.size w w2) := hb02
  clear hmay hu hva hb0 hb1 hb2 hb02 hx0 hx2 HV0
  obtain ⟨a0, _, _, _, _, _, _⟩ := sevenS (HBOX.out _ (nwR w2))
  go_wp2_with fail
  refine ((law8_any act w2).mono fun _ _ h => (⟨h.1, h.2.symm⟩ : _ ∧ w2 = _)).mono ?_
  rintro e w' ⟨rfl, rfl⟩
  obtain ⟨m, hm⟩ : ∃ m, withinN act 8 = m := ⟨_, rfl⟩
  have HM8 : Hid (m < 8) := by show m < 8; rw [← hm]; unfold withinN; omega
  rw [hm]
  clear hm a0
  go_upto_block 0 with fail
  go_cut [10, 11, 12, 13, 14, 15, 16] from 17 to 179 (fun s10 s11 s12 s13 s14 s15 s16 wx => s10 = .bool may ∧ ∃ (er n tn : Int) (dd : List VolD) (ax : Option Addr) (cx : Nat) (aw : Option Addr) (lw cw : Nat), s11 = .int .i64 er ∧ s12 = .slice ax dd.length cx ∧ s13 = .slice aw lw cw ∧ s14 = .int .i64 n ∧ s15 = .int .i64 tn ∧ s16 = .int .i64 er ∧ Hid (StepV w2 er n tn dd ax cx aw lw cw wx))
  case first =>
    have hm8 := HM8.out
    obtain ⟨a0, a1, a2, a3, a4, a5, a6⟩ := sevenS (HBOX.out _ (nwR w2))
    rcases (by omega : m = 0 ∨ m = 1 ∨ m = 2 ∨ m = 3 ∨ m = 4 ∨ m = 5 ∨ m = 6 ∨ m = 7) with rfl | rfl | rfl | rfl | rfl | rfl | rfl | rfl
    · -- kind 0
      have HPG : Hid (∀ w', Below w2.heap.size w2 w' → Calls Try.prog 28 #[.slice a ds.length ca, .int .i64 next, .int .i64 vid, .bool false] w' fun e w'' => PgR (snpF ds next vid false) w'.heap.size e w'' ∧ Below w'.heap.size w' w'') := fun w' h => snapr_any a ds ca next vid w' (HL.out _ h) HS.out
      have HPO : Hid (Calls Try.prog 14 #[.slice fa ds.length fc, .int .i64 next, .int .i64 vid] w2 fun e w' => SnapPost ds next vid false w2.heap.size e w' ∧ Below w2.heap.size w2 w') := snapp_any fa ds fc next vid w2 (HIN.out _ (nwR w2)) HS.out
      have HGR : Hid (GoodR (snpF ds next vid false)) := snpF_good HS.out next vid false
      obtain ⟨r, hr⟩ : ∃ r, snpF ds next vid false = r := ⟨_, rfl⟩
      rw [hr] at HPG HGR
      go_wp2_with fail
      refine HPO.out.mono ?_
      rintro e wA ⟨⟨u, n, er, dd, rfl, hu, hpr, hn⟩, hbA⟩
      rw [hr] at hpr
      clear hr HPO
      obtain ⟨ax, cx, rfl, _, _⟩ := hu.at
      have HU : Hid (OwnVols wA w2.heap.size (.slice ax dd.length cx) dd) := hu
      have HPR : Hid (ProgR (VolsOk ds next) r er dd) := hpr
      have HN : Hid (n = if er = 0 then next + 1 else 0) := hn
      have HBA : Hid (Below w2.heap.size w2 wA) := hbA
      clear hu hpr hn hbA
      cases may
      case false =>
        have hbad := progR_bad HPR.out (fun h => by have := HMAY.out.2 h; cases this)
        have HQ : Hid (er = 1 ∧ StepV w2 er n 0 dd ax cx none 0 0 wA) := ⟨hbad.1, by
          have hn0 : n = 0 := by rw [HN.out, if_neg (by rw [hbad.1]; decide)]
          rw [hbad.2]; exact stepV_bad HBA.out (by rw [hbad.1]; decide) hn0⟩
        clear hbad
        go_wp2_with fail
        go_meet
        exact ⟨rfl, er, n, 0, dd, ax, cx, none, 0, 0, by rw [HQ.out.1], rfl, rfl, rfl, rfl, rfl, HQ.out.2⟩
      case true =>
        have hok : VolsOk ds next := HMAY.out.1 rfl
        have hN1 := hok.next30.1
        have hN2 := hok.next30.2
        obtain ⟨he, hd⟩ := progR_ok HPR.out hok
        subst he; subst hd
        have e1 : IntKind.i64.wrap (next + 1) = next + 1 := wrap_any (by omega) (by omega)
        obtain ⟨b0, b1, b2, b3, b4, b5, b6⟩ := sevenS (HBOX.out _ HBA.out)
        clear hok
        go_wp2_with fail
        refine (HPG.out _ HBA.out).mono ?_
        rintro e wB ⟨⟨u2, rfl, hu2⟩, hbB⟩
        obtain ⟨aw, cw, rfl, _, _⟩ := hu2.at
        have HQ : Hid (StepV w2 r.1 n (next + 1) r.2 ax cx aw r.2.length cw wB) := stepV_like HU.out HBA.out hbB HGR.out.1 (fun h => ⟨HGR.out.2 h, by rw [HN.out, if_neg h]⟩) (fun h => ⟨by rw [HN.out, if_pos h], by omega⟩) (safe_own hu2)
        clear hu2 hbB b0 b1 b2 b3 b4 b5 b6
        go_wp2_with fail
        go_meet
        exact ⟨rfl, r.1, n, next + 1, r.2, ax, cx, aw, r.2.length, cw, rfl, rfl, rfl, rfl, by first | rfl | rw [e1], rfl, HQ.out⟩
    · -- kind 1
      have HPG : Hid (∀ w', Below w2.heap.size w2 w' → Calls Try.prog 28 #[.slice a ds.length ca, .int .i64 next, .int .i64 vid, .bool false] w' fun e w'' => PgR (snpF ds next vid false) w'.heap.size e w'' ∧ Below w'.heap.size w' w'') := fun w' h => snapr_any a ds ca next vid w' (HL.out _ h) HS.out
      have HPO : Hid (Calls Try.prog 14 #[.slice fa ds.length fc, .int .i64 next, .int .i64 vid] w2 fun e w' => SnapPost ds next vid false w2.heap.size e w' ∧ Below w2.heap.size w2 w') := snapp_any fa ds fc next vid w2 (HIN.out _ (nwR w2)) HS.out
      have HGR : Hid (GoodR (snpF ds next vid false)) := snpF_good HS.out next vid false
      obtain ⟨r, hr⟩ : ∃ r, snpF ds next vid false = r := ⟨_, rfl⟩
      rw [hr] at HPG HGR
      go_wp2_with fail
      refine HPO.out.mono ?_
      rintro e wA ⟨⟨u, n, er, dd, rfl, hu, hpr, hn⟩, hbA⟩
      rw [hr] at hpr
      clear hr HPO
      obtain ⟨ax, cx, rfl, _, _⟩ := hu.at
      have HU : Hid (OwnVols wA w2.heap.size (.slice ax dd.length cx) dd) := hu
      have HPR : Hid (ProgR (VolsOk ds next) r er dd) := hpr
      have HN : Hid (n = if er = 0 then next + 1 else 0) := hn
      have HBA : Hid (Below w2.heap.size w2 wA) := hbA
      clear hu hpr hn hbA
      cases may
      case false =>
        have hbad := progR_bad HPR.out (fun h => by have := HMAY.out.2 h; cases this)
        have HQ : Hid (er = 1 ∧ StepV w2 er n 0 dd ax cx none 0 0 wA) := ⟨hbad.1, by
          have hn0 : n = 0 := by rw [HN.out, if_neg (by rw [hbad.1]; decide)]
          rw [hbad.2]; exact stepV_bad HBA.out (by rw [hbad.1]; decide) hn0⟩
        clear hbad
        go_wp2_with fail
        go_meet
        exact ⟨rfl, er, n, 0, dd, ax, cx, none, 0, 0, by rw [HQ.out.1], rfl, rfl, rfl, rfl, rfl, HQ.out.2⟩
      case true =>
        have hok : VolsOk ds next := HMAY.out.1 rfl
        have hN1 := hok.next30.1
        have hN2 := hok.next30.2
        obtain ⟨he, hd⟩ := progR_ok HPR.out hok
        subst he; subst hd
        have e1 : IntKind.i64.wrap (next + 1) = next + 1 := wrap_any (by omega) (by omega)
        obtain ⟨b0, b1, b2, b3, b4, b5, b6⟩ := sevenS (HBOX.out _ HBA.out)
        clear hok
        go_wp2_with fail
        refine (HPG.out _ HBA.out).mono ?_
        rintro e wB ⟨⟨u2, rfl, hu2⟩, hbB⟩
        obtain ⟨aw, cw, rfl, _, _⟩ := hu2.at
        have HQ : Hid (StepV w2 r.1 n (next + 1) r.2 ax cx aw r.2.length cw wB) := stepV_like HU.out HBA.out hbB HGR.out.1 (fun h => ⟨HGR.out.2 h, by rw [HN.out, if_neg h]⟩) (fun h => ⟨by rw [HN.out, if_pos h], by omega⟩) (safe_own hu2)
        clear hu2 hbB b0 b1 b2 b3 b4 b5 b6
        go_wp2_with fail
        go_meet
        exact ⟨rfl, r.1, n, next + 1, r.2, ax, cx, aw, r.2.length, cw, rfl, rfl, rfl, rfl, by first | rfl | rw [e1], rfl, HQ.out⟩
    · -- kind 2
      have HPG : Hid (∀ w', Below w2.heap.size w2 w' → Calls Try.prog 28 #[.slice a ds.length ca, .int .i64 next, .int .i64 vid, .bool true] w' fun e w'' => PgR (snpF ds next vid true) w'.heap.size e w'' ∧ Below w'.heap.size w' w'') := fun w' h => cloner_any a ds ca next vid w' (HL.out _ h) HS.out
      have HPO : Hid (Calls Try.prog 21 #[.slice fa ds.length fc, .int .i64 next, .int .i64 vid] w2 fun e w' => SnapPost ds next vid true w2.heap.size e w' ∧ Below w2.heap.size w2 w') := clonep_any fa ds fc next vid w2 (HIN.out _ (nwR w2)) HS.out
      have HGR : Hid (GoodR (snpF ds next vid true)) := snpF_good HS.out next vid true
      obtain ⟨r, hr⟩ : ∃ r, snpF ds next vid true = r := ⟨_, rfl⟩
      rw [hr] at HPG HGR
      go_wp2_with fail
      refine HPO.out.mono ?_
      rintro e wA ⟨⟨u, n, er, dd, rfl, hu, hpr, hn⟩, hbA⟩
      rw [hr] at hpr
      clear hr HPO
      obtain ⟨ax, cx, rfl, _, _⟩ := hu.at
      have HU : Hid (OwnVols wA w2.heap.size (.slice ax dd.length cx) dd) := hu
      have HPR : Hid (ProgR (VolsOk ds next) r er dd) := hpr
      have HN : Hid (n = if er = 0 then next + 1 else 0) := hn
      have HBA : Hid (Below w2.heap.size w2 wA) := hbA
      clear hu hpr hn hbA
      cases may
      case false =>
        have hbad := progR_bad HPR.out (fun h => by have := HMAY.out.2 h; cases this)
        have HQ : Hid (er = 1 ∧ StepV w2 er n 0 dd ax cx none 0 0 wA) := ⟨hbad.1, by
          have hn0 : n = 0 := by rw [HN.out, if_neg (by rw [hbad.1]; decide)]
          rw [hbad.2]; exact stepV_bad HBA.out (by rw [hbad.1]; decide) hn0⟩
        clear hbad
        go_wp2_with fail
        go_meet
        exact ⟨rfl, er, n, 0, dd, ax, cx, none, 0, 0, by rw [HQ.out.1], rfl, rfl, rfl, rfl, rfl, HQ.out.2⟩
      case true =>
        have hok : VolsOk ds next := HMAY.out.1 rfl
        have hN1 := hok.next30.1
        have hN2 := hok.next30.2
        obtain ⟨he, hd⟩ := progR_ok HPR.out hok
        subst he; subst hd
        have e1 : IntKind.i64.wrap (next + 1) = next + 1 := wrap_any (by omega) (by omega)
        obtain ⟨b0, b1, b2, b3, b4, b5, b6⟩ := sevenS (HBOX.out _ HBA.out)
        clear hok
        go_wp2_with fail
        refine (HPG.out _ HBA.out).mono ?_
        rintro e wB ⟨⟨u2, rfl, hu2⟩, hbB⟩
        obtain ⟨aw, cw, rfl, _, _⟩ := hu2.at
        have HQ : Hid (StepV w2 r.1 n (next + 1) r.2 ax cx aw r.2.length cw wB) := stepV_like HU.out HBA.out hbB HGR.out.1 (fun h => ⟨HGR.out.2 h, by rw [HN.out, if_neg h]⟩) (fun h => ⟨by rw [HN.out, if_pos h], by omega⟩) (safe_own hu2)
        clear hu2 hbB b0 b1 b2 b3 b4 b5 b6
        go_wp2_with fail
        go_meet
        exact ⟨rfl, r.1, n, next + 1, r.2, ax, cx, aw, r.2.length, cw, rfl, rfl, rfl, rfl, by first | rfl | rw [e1], rfl, HQ.out⟩
    · -- kind 3
      have HPG : Hid (∀ w', Below w2.heap.size w2 w' → Calls Try.prog 28 #[.slice a ds.length ca, .int .i64 next, .int .i64 vid, .bool true] w' fun e w'' => PgR (snpF ds next vid true) w'.heap.size e w'' ∧ Below w'.heap.size w' w'') := fun w' h => cloner_any a ds ca next vid w' (HL.out _ h) HS.out
      have HPO : Hid (Calls Try.prog 21 #[.slice fa ds.length fc, .int .i64 next, .int .i64 vid] w2 fun e w' => SnapPost ds next vid true w2.heap.size e w' ∧ Below w2.heap.size w2 w') := clonep_any fa ds fc next vid w2 (HIN.out _ (nwR w2)) HS.out
      have HGR : Hid (GoodR (snpF ds next vid true)) := snpF_good HS.out next vid true
      obtain ⟨r, hr⟩ : ∃ r, snpF ds next vid true = r := ⟨_, rfl⟩
      rw [hr] at HPG HGR
      go_wp2_with fail
      refine HPO.out.mono ?_
      rintro e wA ⟨⟨u, n, er, dd, rfl, hu, hpr, hn⟩, hbA⟩
      rw [hr] at hpr
      clear hr HPO
      obtain ⟨ax, cx, rfl, _, _⟩ := hu.at
      have HU : Hid (OwnVols wA w2.heap.size (.slice ax dd.length cx) dd) := hu
      have HPR : Hid (ProgR (VolsOk ds next) r er dd) := hpr
      have HN : Hid (n = if er = 0 then next + 1 else 0) := hn
      have HBA : Hid (Below w2.heap.size w2 wA) := hbA
      clear hu hpr hn hbA
      cases may
      case false =>
        have hbad := progR_bad HPR.out (fun h => by have := HMAY.out.2 h; cases this)
        have HQ : Hid (er = 1 ∧ StepV w2 er n 0 dd ax cx none 0 0 wA) := ⟨hbad.1, by
          have hn0 : n = 0 := by rw [HN.out, if_neg (by rw [hbad.1]; decide)]
          rw [hbad.2]; exact stepV_bad HBA.out (by rw [hbad.1]; decide) hn0⟩
        clear hbad
        go_wp2_with fail
        go_meet
        exact ⟨rfl, er, n, 0, dd, ax, cx, none, 0, 0, by rw [HQ.out.1], rfl, rfl, rfl, rfl, rfl, HQ.out.2⟩
      case true =>
        have hok : VolsOk ds next := HMAY.out.1 rfl
        have hN1 := hok.next30.1
        have hN2 := hok.next30.2
        obtain ⟨he, hd⟩ := progR_ok HPR.out hok
        subst he; subst hd
        have e1 : IntKind.i64.wrap (next + 1) = next + 1 := wrap_any (by omega) (by omega)
        obtain ⟨b0, b1, b2, b3, b4, b5, b6⟩ := sevenS (HBOX.out _ HBA.out)
        clear hok
        go_wp2_with fail
        refine (HPG.out _ HBA.out).mono ?_
        rintro e wB ⟨⟨u2, rfl, hu2⟩, hbB⟩
        obtain ⟨aw, cw, rfl, _, _⟩ := hu2.at
        have HQ : Hid (StepV w2 r.1 n (next + 1) r.2 ax cx aw r.2.length cw wB) := stepV_like HU.out HBA.out hbB HGR.out.1 (fun h => ⟨HGR.out.2 h, by rw [HN.out, if_neg h]⟩) (fun h => ⟨by rw [HN.out, if_pos h], by omega⟩) (safe_own hu2)
        clear hu2 hbB b0 b1 b2 b3 b4 b5 b6
        go_wp2_with fail
        go_meet
        exact ⟨rfl, r.1, n, next + 1, r.2, ax, cx, aw, r.2.length, cw, rfl, rfl, rfl, rfl, by first | rfl | rw [e1], rfl, HQ.out⟩
    · -- kind 4
      have HPO : Hid (Calls Try.prog 22 #[.slice fa ds.length fc, .int .i64 next, .int .i64 vid] w2 fun e w' => TwoPost (drpF ds vid) (VolsOk ds next) w2.heap.size e w' ∧ Below w2.heap.size w2 w') := dropp_any fa ds fc next vid w2 (HIN.out _ (nwR w2)) HS.out
      have HPG : Hid (VolsOk ds next → ∀ w', Below w2.heap.size w2 w' → Calls Try.prog 29 #[.slice a ds.length ca, .int .i64 vid] w' fun e w'' => PgM w2 (drpF ds vid) w'.heap.size e w'' ∧ Below w'.heap.size w' w'') := fun hok w' h => dropr_all a ds ca next vid w2 w' (HL.out _ (nwR w2)) h HCA.out HS.out hok
      have HGR : Hid (GoodR (drpF ds vid)) := drpF_good HS.out vid
      obtain ⟨r, hr⟩ : ∃ r, drpF ds vid = r := ⟨_, rfl⟩
      rw [hr] at HPG HGR
      go_wp2_with fail
      refine HPO.out.mono ?_
      rintro e wA ⟨⟨u, er, dd, rfl, hu, hpr⟩, hbA⟩
      rw [hr] at hpr
      clear hr HPO
      obtain ⟨ax, cx, rfl, _, _⟩ := hu.at
      have HU : Hid (OwnVols wA w2.heap.size (.slice ax dd.length cx) dd) := hu
      have HPR : Hid (ProgR (VolsOk ds next) r er dd) := hpr
      have HBA : Hid (Below w2.heap.size w2 wA) := hbA
      clear hu hpr hbA
      cases may
      case false =>
        have hbad := progR_bad HPR.out (fun h => by have := HMAY.out.2 h; cases this)
        have HQ : Hid (er = 1 ∧ StepV w2 er 0 0 dd ax cx none 0 0 wA) := ⟨hbad.1, by
          rw [hbad.2]; exact stepV_bad HBA.out (by rw [hbad.1]; decide) rfl⟩
        clear hbad
        go_wp2_with fail
        go_meet
        exact ⟨rfl, er, 0, 0, dd, ax, cx, none, 0, 0, by rw [HQ.out.1], rfl, rfl, rfl, rfl, rfl, HQ.out.2⟩
      case true =>
        have hok : VolsOk ds next := HMAY.out.1 rfl
        have HPG2 := HPG.out hok wA HBA.out
        obtain ⟨he, hd⟩ := progR_ok HPR.out hok
        subst he; subst hd
        obtain ⟨b0, b1, b2, b3, b4, b5, b6⟩ := sevenS (HBOX.out _ HBA.out)
        have HPH : Hid (Calls Try.prog 29 #[.slice a ds.length ca, .int .i64 vid] wA fun e w'' => PgM w2 r wA.heap.size e w'' ∧ Below wA.heap.size wA w'') := HPG2
        clear hok HPG2
        go_wp2_with fail
        refine HPH.out.mono ?_
        rintro e wB ⟨⟨u2, rfl, hu2⟩, hbB⟩
        obtain ⟨aw, cw, rfl, _⟩ := hu2.at
        have HQ : Hid (StepV w2 r.1 0 0 r.2 ax cx aw r.2.length cw wB) := stepV_like HU.out HBA.out hbB HGR.out.1 (fun h => ⟨HGR.out.2 h, rfl⟩) (fun _ => ⟨rfl, by omega⟩) (safe_mix (nwR w2) hu2 rfl)
        clear hu2 hbB b0 b1 b2 b3 b4 b5 b6
        go_wp2_with fail
        go_meet
        exact ⟨rfl, r.1, 0, 0, r.2, ax, cx, aw, r.2.length, cw, rfl, rfl, rfl, rfl, rfl, rfl, HQ.out⟩
    · -- kind 5
      have HPO : Hid (Calls Try.prog 17 #[.slice fa ds.length fc, .int .i64 next, .int .i64 vid] w2 fun e w' => TwoPost (bakF ds vid) (VolsOk ds next) w2.heap.size e w' ∧ Below w2.heap.size w2 w') := backp_any fa ds fc next vid w2 (HIN.out _ (nwR w2)) HS.out
      have HPG : Hid (VolsOk ds next → ∀ w', Below w2.heap.size w2 w' → Calls Try.prog 30 #[.slice a ds.length ca, .int .i64 vid] w' fun e w'' => PgO (bakF ds vid) w'.heap.size e w'' ∧ Below w'.heap.size w' w'') := fun hok w' h => backr_any a ds ca vid w' (HL.out _ h) HS.out
      have HGR : Hid (GoodR (bakF ds vid)) := bakF_good HS.out vid
      obtain ⟨r, hr⟩ : ∃ r, bakF ds vid = r := ⟨_, rfl⟩
      rw [hr] at HPG HGR
      go_wp2_with fail
      refine HPO.out.mono ?_
      rintro e wA ⟨⟨u, er, dd, rfl, hu, hpr⟩, hbA⟩
      rw [hr] at hpr
      clear hr HPO
      obtain ⟨ax, cx, rfl, _, _⟩ := hu.at
      have HU : Hid (OwnVols wA w2.heap.size (.slice ax dd.length cx) dd) := hu
      have HPR : Hid (ProgR (VolsOk ds next) r er dd) := hpr
      have HBA : Hid (Below w2.heap.size w2 wA) := hbA
      clear hu hpr hbA
      cases may
      case false =>
        have hbad := progR_bad HPR.out (fun h => by have := HMAY.out.2 h; cases this)
        have HQ : Hid (er = 1 ∧ StepV w2 er 0 0 dd ax cx none 0 0 wA) := ⟨hbad.1, by
          rw [hbad.2]; exact stepV_bad HBA.out (by rw [hbad.1]; decide) rfl⟩
        clear hbad
        go_wp2_with fail
        go_meet
        exact ⟨rfl, er, 0, 0, dd, ax, cx, none, 0, 0, by rw [HQ.out.1], rfl, rfl, rfl, rfl, rfl, HQ.out.2⟩
      case true =>
        have hok : VolsOk ds next := HMAY.out.1 rfl
        have HPG2 := HPG.out hok wA HBA.out
        obtain ⟨he, hd⟩ := progR_ok HPR.out hok
        subst he; subst hd
        obtain ⟨b0, b1, b2, b3, b4, b5, b6⟩ := sevenS (HBOX.out _ HBA.out)
        have HPH : Hid (Calls Try.prog 30 #[.slice a ds.length ca, .int .i64 vid] wA fun e w'' => PgO r wA.heap.size e w'' ∧ Below wA.heap.size wA w'') := HPG2
        clear hok HPG2
        go_wp2_with fail
        refine HPH.out.mono ?_
        rintro e wB ⟨⟨u2, rfl, hu2⟩, hbB⟩
        obtain ⟨aw, cw, rfl, _⟩ := hu2.at
        have HQ : Hid (StepV w2 r.1 0 0 r.2 ax cx aw r.2.length cw wB) := stepV_like HU.out HBA.out hbB HGR.out.1 (fun h => ⟨HGR.out.2 h, rfl⟩) (fun _ => ⟨rfl, by omega⟩) (safe_own hu2)
        clear hu2 hbB b0 b1 b2 b3 b4 b5 b6
        go_wp2_with fail
        go_meet
        exact ⟨rfl, r.1, 0, 0, r.2, ax, cx, aw, r.2.length, cw, rfl, rfl, rfl, rfl, rfl, rfl, HQ.out⟩
    · -- kind 6
      go_wp2_with fail
      refine (copyVol_any (.agg #[.int .i64 d.id, .int .i64 d.fr, .bool d.snap, .slice af d.files.length cf, .int .i64 d.next]) d w2 ⟨af, cf, rfl, HFD.out _ (nwR w2), HCF.out⟩ HSV.out).mono ?_
      rintro e wC ⟨⟨u, rfl, hu⟩, hbC⟩
      obtain ⟨fv, cv, rfl, hvv⟩ := hu.lit
      obtain ⟨WD, hWD⟩ : ∃ WD, WD = (wC.alloc (.cells #[.int .i64 d.id, .int .i64 d.fr, .bool d.snap, .slice fv d.files.length cv, .int .i64 d.next] 32)) := ⟨_, rfl⟩
      have hbCD : Below wC.heap.size wC WD := by rw [hWD]; exact nwA (nwR wC) _
      have HBD : Hid (Below w2.heap.size w2 WD) := nwT hbC hbCD
      have HVB : Hid (∀ w', Below WD.heap.size WD w' → w'.heap[wC.heap.size]? = some (.cells #[.int .i64 d.id, .int .i64 d.fr, .bool d.snap, .slice fv d.files.length cv, .int .i64 d.next] 32 (0, 0))) := fun w' h => (h.block _ (by rw [hWD]; simp)).trans (by rw [hWD]; exact heap_alloc_new wC _)
      have HVV : Hid (∀ w', Below WD.heap.size WD w' → VolVal w' (.agg #[.int .i64 d.id, .int .i64 d.fr, .bool d.snap, .slice fv d.files.length cv, .int .i64 d.next]) d) := fun w' h => (hvv.below hbCD).below h
      have HEV : Hid (∀ w', Below WD.heap.size WD w' → Calls Try.prog 19 #[.agg #[.int .i64 d.id, .int .i64 d.fr, .bool d.snap, .slice fv d.files.length cv, .int .i64 d.next], .agg #[.int .i64 d.id, .int .i64 d.fr, .bool d.snap, .slice af d.files.length cf, .int .i64 d.next]] w' fun e w'' => e = .returned (.bool true) ∧ Below w'.heap.size w' w'') := fun w' h => by
        have h2 := eqVol_any _ _ d d w' (HVV.out _ h) (show VolVal w' (.agg #[.int .i64 d.id, .int .i64 d.fr, .bool d.snap, .slice af d.files.length cf, .int .i64 d.next]) d from ⟨af, cf, rfl, HFD.out _ (nwT HBD.out h), HCF.out⟩) HSV.out
        rw [decide_eq_true rfl] at h2; exact h2
      have HPO : Hid (Calls Try.prog 31 #[.slice fa ds.length fc, .int .i64 next, .agg #[.int .i64 d.id, .int .i64 d.fr, .bool d.snap, .slice fv d.files.length cv, .int .i64 d.next]] WD fun e w' => PutPost ds next d WD.heap.size e w' ∧ Below WD.heap.size WD w') := putp_any fa ds fc next _ d WD (HIN.out _ HBD.out) HS.out (HVV.out _ (nwR WD)) HSV.out
      obtain ⟨v0, v1, v2, v3, v4, _⟩ := five (HVB.out _ (nwR WD))
      rw [hWD] at v0 v1 v2 v3 v4
      clear hu hvv hbC hbCD
      go_wp2_with fail
      rw [← hWD]
      clear hWD v0 v1 v2 v3 v4
      obtain ⟨gv, hgv⟩ : ∃ gv, wC.heap.size = gv := ⟨_, rfl⟩
      rw [hgv] at HVB ⊢
      clear hgv
      refine HPO.out.mono ?_
      rintro e wA ⟨⟨u, er, dd, rfl, hu, hpr⟩, hbA⟩
      obtain ⟨ax, cx, rfl, _, _⟩ := hu.at
      have HU : Hid (OwnVols wA w2.heap.size (.slice ax dd.length cx) dd) := hu.le HBD.out.size
      have HPR : Hid (PutR ds next d er dd) := hpr
      have HBA : Hid (Below WD.heap.size WD wA) := hbA
      have HBA2 : Hid (Below w2.heap.size w2 wA) := nwT HBD.out hbA
      clear hu hpr hbA HPO
      cases may
      case false =>
        have hbad : er = 1 ∧ dd = [] := by
          have hno : ¬ VolsOk ds next := fun h => by have := HMAY.out.2 h; cases this
          rcases HPR.out with ⟨_, h⟩ | ⟨h, _⟩ | ⟨_, h, _⟩
          · exact h
          · exact absurd h hno
          · exact absurd h hno
        have HQ : Hid (∀ w', Below wA.heap.size wA w' → StepV w2 1 0 0 dd ax cx none 0 0 w') := fun w' h => by
          rw [hbad.2]; exact stepV_bad (nwT HBA2.out h) (by decide) rfl
        have HER := hbad.1
        subst HER
        clear hbad
        obtain ⟨v0, v1, v2, v3, v4, _⟩ := five (HVB.out _ HBA.out)
        obtain ⟨b0, b1, b2, b3, b4, b5, b6⟩ := sevenS (HBOX.out _ (nwT HBD.out HBA.out))
        go_wp2_with fail
        refine (HEV.out _ HBA.out).mono ?_
        rintro e wE ⟨rfl, hbE⟩
        have HR : Hid (StepV w2 1 0 0 dd ax cx none 0 0 wE) := HQ.out _ hbE
        clear v0 v1 v2 v3 v4 b0 b1 b2 b3 b4 b5 b6 hbE
        go_wp2_with fail
        go_meet
        exact ⟨rfl, 1, 0, 0, dd, ax, cx, none, 0, 0, rfl, rfl, rfl, rfl, rfl, rfl, HR.out⟩
      case true =>
        have hok : VolsOk ds next := HMAY.out.1 rfl
        obtain ⟨b0, b1, b2, b3, b4, b5, b6⟩ := sevenS (HBOX.out _ HBA2.out)
        have HAT : Hid (Calls Try.prog 32 #[.slice a ds.length ca, .int .i64 d.id] wA fun e w' => e = .returned (.int .i64 (optI (atV ds d.id))) ∧ wA = w') := (atv_any a ds ca d.id wA (HL.out _ HBA2.out) HS.out.1).mono fun e w' h => ⟨h.1, h.2.symm⟩
        cases hat : atV ds d.id
        case none =>
          have hbad : er = 3 ∧ dd = [] := by
            rcases HPR.out with ⟨h, _⟩ | ⟨_, _, h⟩ | ⟨k, _, h, _⟩
            · exact absurd hok h
            · exact h
            · rw [hat] at h; cases h
          have HQ : Hid (∀ w', Below wA.heap.size wA w' → StepV w2 3 0 0 dd ax cx none 0 0 w') := fun w' h => by
            rw [hbad.2]; exact stepV_bad (nwT HBA2.out h) (by decide) rfl
          have HER := hbad.1
          subst HER
          rw [hat] at HAT
          have HAT2 : Hid (Calls Try.prog 32 #[.slice a ds.length ca, .int .i64 d.id] wA fun e w' => e = .returned (.int .i64 (-1)) ∧ wA = w') := HAT.out
          clear hbad hok hat HAT HPR
          go_wp2_with fail
          refine HAT2.out.mono ?_
          rintro e w' ⟨rfl, rfl⟩
          clear b0 b1 b2 b3 b4 b5 b6
          obtain ⟨v0, v1, v2, v3, v4, _⟩ := five (HVB.out _ HBA.out)
          obtain ⟨b0, b1, b2, b3, b4, b5, b6⟩ := sevenS (HBOX.out _ (nwT HBD.out HBA.out))
          go_wp2_with fail
          refine (HEV.out _ HBA.out).mono ?_
          rintro e wE ⟨rfl, hbE⟩
          have HR : Hid (StepV w2 3 0 0 dd ax cx none 0 0 wE) := HQ.out _ hbE
          clear v0 v1 v2 v3 v4 b0 b1 b2 b3 b4 b5 b6 hbE
          go_wp2_with fail
          go_meet
          exact ⟨rfl, 3, 0, 0, dd, ax, cx, none, 0, 0, rfl, rfl, rfl, rfl, rfl, rfl, HR.out⟩
        case some k =>
          have HAT2 : Hid (Calls Try.prog 32 #[.slice a ds.length ca, .int .i64 d.id] wA fun e w' => e = .returned (.int .i64 (k : Int)) ∧ wA = w') := by rw [hat] at HAT; exact HAT.out
          have HPG : Hid (Calls Try.prog 33 #[.slice a ds.length ca, .agg #[.int .i64 d.id, .int .i64 d.fr, .bool d.snap, .slice af d.files.length cf, .int .i64 d.next]] wA fun e w' => (∃ u, e = .returned u ∧ OwnVols w' wA.heap.size u (ds.set k d)) ∧ Below wA.heap.size wA w') := putr_any a ds ca _ d wA (HL.out _ HBA2.out) HS.out ⟨af, cf, rfl, HFD.out _ HBA2.out, HCF.out⟩ HSV.out k hat
          have HR2 : Hid ((VolsOk (ds.set k d) next ∧ er = 0 ∧ dd = ds.set k d) ∨ (¬ VolsOk (ds.set k d) next ∧ er = 1 ∧ dd = [])) := by
            rcases HPR.out with ⟨h, _⟩ | ⟨_, h, _⟩ | ⟨j, _, h, h2⟩
            · exact absurd hok h
            · rw [hat] at h; cases h
            · rw [hat] at h; injection h with h; subst h; exact h2
          have HSD : Hid (SmallW (ds.set k d)) := put_small HS.out HSV.out k
          generalize ds.set k d = ys at HPG HR2 HSD
          clear hok hat HAT HPR
          go_wp2_with fail
          refine HAT2.out.mono ?_
          rintro e w' ⟨rfl, rfl⟩
          clear HAT2
          go_wp2_with fail
          refine HPG.out.mono ?_
          rintro e wB ⟨⟨u2, rfl, hu2⟩, hbB⟩
          obtain ⟨aw, cw, rfl, hvw, _⟩ := hu2.at
          have HUB : Hid (OwnVols wB wA.heap.size (.slice aw ys.length cw) ys) := hu2
          have HBB : Hid (Below wA.heap.size wA wB) := hbB
          have HRV : Hid (Calls Try.prog 13 #[.slice aw ys.length cw, .int .i64 next] wB fun e w' => SaysB e (VolsOk ys next) ∧ Below wB.heap.size wB w') := rvols_any aw ys cw next wB hvw HSD.out
          clear hu2 hbB hvw HPG b0 b1 b2 b3 b4 b5 b6
          go_wp2_with fail
          refine HRV.out.mono ?_
          rintro e wF ⟨⟨good, rfl, hgood⟩, hbF⟩
          have HGD : Hid (good = true ↔ VolsOk ys next) := hgood
          have HBF : Hid (Below wA.heap.size wA wF) := nwT HBB.out hbF
          have HUF : Hid (OwnVols wF wA.heap.size (.slice aw ys.length cw) ys) := HUB.out.below hbF
          have HDF : Hid (Below WD.heap.size WD wF) := nwT HBA.out HBF.out
          clear hgood hbF HRV HUB HBB
          cases good
          case false =>
            have hbad : er = 1 ∧ dd = [] := by
              rcases HR2.out with ⟨h, _⟩ | ⟨_, h⟩
              · have := HGD.out.2 h; cases this
              · exact h
            have HQ : Hid (∀ w', Below wF.heap.size wF w' → StepV w2 1 0 0 dd ax cx none 0 0 w') := fun w' h => by
              rw [hbad.2]; exact stepV_bad (nwT HBA2.out (nwT HBF.out h)) (by decide) rfl
            have HER := hbad.1
            subst HER
            clear hbad HR2
            obtain ⟨v0, v1, v2, v3, v4, _⟩ := five (HVB.out _ HDF.out)
            obtain ⟨b0, b1, b2, b3, b4, b5, b6⟩ := sevenS (HBOX.out _ (nwT HBD.out HDF.out))
            go_wp2_with fail
            refine (HEV.out _ HDF.out).mono ?_
            rintro e wE ⟨rfl, hbE⟩
            have HR : Hid (StepV w2 1 0 0 dd ax cx none 0 0 wE) := HQ.out _ hbE
            clear v0 v1 v2 v3 v4 b0 b1 b2 b3 b4 b5 b6 hbE
            go_wp2_with fail
            go_meet
            exact ⟨rfl, 1, 0, 0, dd, ax, cx, none, 0, 0, rfl, rfl, rfl, rfl, rfl, rfl, HR.out⟩
          case true =>
            have hgd : er = 0 ∧ dd = ys := by
              rcases HR2.out with ⟨_, h⟩ | ⟨h, _⟩
              · exact h
              · exact absurd (HGD.out.1 rfl) h
            obtain ⟨rfl, rfl⟩ := hgd
            have HQ : Hid (∀ w', Below wF.heap.size wF w' → StepV w2 0 0 0 dd ax cx aw dd.length cw w') := fun w' h =>
              stepV_like HU.out HBA2.out (nwT HBF.out h) HSD.out (fun h => absurd rfl h) (fun _ => ⟨rfl, by omega⟩) (safe_own (HUF.out.below h))
            clear HR2
            obtain ⟨v0, v1, v2, v3, v4, _⟩ := five (HVB.out _ HDF.out)
            obtain ⟨b0, b1, b2, b3, b4, b5, b6⟩ := sevenS (HBOX.out _ (nwT HBD.out HDF.out))
            go_wp2_with fail
            refine (HEV.out _ HDF.out).mono ?_
            rintro e wE ⟨rfl, hbE⟩
            have HR : Hid (StepV w2 0 0 0 dd ax cx aw dd.length cw wE) := HQ.out _ hbE
            clear v0 v1 v2 v3 v4 b0 b1 b2 b3 b4 b5 b6 hbE
            go_wp2_with fail
            go_meet
            exact ⟨rfl, 0, 0, 0, dd, ax, cx, aw, dd.length, cw, rfl, rfl, rfl, rfl, rfl, rfl, HR.out⟩
    · -- kind 7
      go_wp2_with fail
      refine (getp_any fa ds fc next vid w2 (HIN.out _ (nwR w2)) HS.out).mono ?_
      rintro e wA ⟨⟨u, er, dv, rfl, hu, hr⟩, hbA⟩
      obtain ⟨fv, cv, rfl, hvv⟩ := hu.lit
      obtain ⟨WD, hWD⟩ : ∃ WD, WD = (wA.alloc (.cells #[.int .i64 dv.id, .int .i64 dv.fr, .bool dv.snap, .slice fv dv.files.length cv, .int .i64 dv.next] 32)).alloc (.cells #[.int .i64 0, .int .i64 0, .bool false, .slice none 0 0, .int .i64 0] 32) := ⟨_, rfl⟩
      have hbAD : Below wA.heap.size wA WD := by rw [hWD]; exact nwA (nwA (nwR wA) _) _
      have HBD : Hid (Below w2.heap.size w2 WD) := nwT hbA hbAD
      have HV1 : Hid (∀ w', Below WD.heap.size WD w' → w'.heap[wA.heap.size]? = some (.cells #[.int .i64 dv.id, .int .i64 dv.fr, .bool dv.snap, .slice fv dv.files.length cv, .int .i64 dv.next] 32 (0, 0))) := fun w' h => (h.block _ (by rw [hWD]; simp; omega)).trans (by rw [hWD]; exact (Lib.alloc_old _ _ _ (by simp)).trans (heap_alloc_new wA _))
      have HV2 : Hid (WD.heap[wA.heap.size + 1]? = some (.cells #[.int .i64 0, .int .i64 0, .bool false, .slice none 0 0, .int .i64 0] 32 (0, 0))) := by rw [hWD]; exact heap_alloc_new2 wA _ _
      have HVV : Hid (∀ w', Below WD.heap.size WD w' → VolVal w' (.agg #[.int .i64 dv.id, .int .i64 dv.fr, .bool dv.snap, .slice fv dv.files.length cv, .int .i64 dv.next]) dv) := fun w' h => (hvv.below hbAD).below h
      have HGR : Hid (GetR ds next vid er dv) := hr
      have HVA : Hid (∀ w', Below wA.heap.size wA w' → VolVal w' (.agg #[.int .i64 dv.id, .int .i64 dv.fr, .bool dv.snap, .slice fv dv.files.length cv, .int .i64 dv.next]) dv) := fun w' h => hvv.below h
      have HAD : Hid (Below wA.heap.size wA WD ∧ Below w2.heap.size w2 wA) := ⟨hbAD, hbA⟩
      have HEQ : Hid (∀ w', Below w2.heap.size w2 w' → Calls Try.prog 20 #[.slice fa ds.length fc, .slice a ds.length ca] w' fun e w'' => e = .returned (.bool true) ∧ Below w'.heap.size w' w'') := fun w' hb => by
        have h := eqVols_any fa a ds ds fc ca w' (HIN.out _ hb) (HL.out _ hb) HS.out
        rw [decide_eq_true rfl] at h; exact h
      clear hu hvv hr hbA hbAD
      go_upto_if 39 with fail
      rw [← hWD]
      clear hWD
      obtain ⟨gv, hgv⟩ : ∃ gv, wA.heap.size = gv := ⟨_, rfl⟩
      try rw [hgv] at HV1 HV2
      try rw [hgv]
      have HGV : Hid (wA.heap.size = gv) := hgv
      clear hgv
      obtain ⟨v0, v1, v2, v3, v4, _⟩ := five (HV1.out _ (nwR WD))
      obtain ⟨z0, z1, z2, z3, z4, _⟩ := five HV2.out
      cases may
      case false =>
        have hbad : er = 1 ∧ dv = VZ := by
          have hno : ¬ VolsOk ds next := fun h => by have := HMAY.out.2 h; cases this
          rcases HGR.out with ⟨_, h⟩ | ⟨h, _⟩ | ⟨_, h, _⟩
          · exact h
          · exact absurd h hno
          · exact absurd h hno
        have HDV : Hid (dv = VZ) := hbad.2
        have HER := hbad.1
        subst HER
        clear hbad HGR
        have HEV : Hid (Calls Try.prog 19 #[.agg #[.int .i64 dv.id, .int .i64 dv.fr, .bool dv.snap, .slice fv dv.files.length cv, .int .i64 dv.next], .agg #[.int .i64 0, .int .i64 0, .bool false, .slice none 0 0, .int .i64 0]] WD fun e w'' => e = .returned (.bool true) ∧ Below WD.heap.size WD w'') := by
          have h2 := eqVol_any _ _ dv VZ WD (HVV.out _ (nwR WD)) (ownV_zero WD 0).val (by rw [HDV.out]; exact small_vz)
          rw [decide_eq_true HDV.out] at h2; exact h2
        go_wp2_with (first | (go_at_call 15; refine (errnum_w _ _).mono ?_; rintro e w' ⟨rfl, rfl⟩) | fail)
        refine HEV.out.mono ?_
        rintro e wE ⟨rfl, hbE⟩
        have H2E : Hid (Below w2.heap.size w2 wE) := nwT HBD.out hbE
        clear v0 v1 v2 v3 v4 z0 z1 z2 z3 z4 hbE HEV
        go_wp2_with fail
        refine (HEQ.out _ H2E.out).mono ?_
        rintro e wF ⟨rfl, hbF⟩
        have H2F : Hid (Below w2.heap.size w2 wF) := nwT H2E.out hbF
        clear hbF
        go_wp2_with fail
        go_ret3
        exact ⟨⟨a, ds, ca, next, rfl, HL.out _ H2F.out, HCA.out, HS.out⟩, nwT HB2.out H2F.out⟩
      case true =>
        have hok : VolsOk ds next := HMAY.out.1 rfl
        obtain ⟨b0, b1, b2, b3, b4, b5, b6⟩ := sevenS (HBOX.out _ HBD.out)
        have HAT : Hid (Calls Try.prog 32 #[.slice a ds.length ca, .int .i64 vid] WD fun e w' => e = .returned (.int .i64 (optI (atV ds vid))) ∧ WD = w') := (atv_any a ds ca vid WD (HL.out _ HBD.out) HS.out.1).mono fun e w' h => ⟨h.1, h.2.symm⟩
        cases hat : atV ds vid
        case none =>
          have hbad : er = 3 ∧ dv = VZ := by
            rcases HGR.out with ⟨h, _⟩ | ⟨_, _, h⟩ | ⟨k, _, h, _⟩
            · exact absurd hok h
            · exact h
            · rw [hat] at h; cases h
          have HAT2 : Hid (Calls Try.prog 32 #[.slice a ds.length ca, .int .i64 vid] WD fun e w' => e = .returned (.int .i64 (-1)) ∧ WD = w') := by rw [hat] at HAT; exact HAT.out
          have HDV : Hid (dv = VZ) := hbad.2
          have HER := hbad.1
          subst HER
          clear hbad hok hat HAT HGR
          go_wp2_with fail
          refine HAT2.out.mono ?_
          rintro e w' ⟨rfl, rfl⟩
          clear b0 b1 b2 b3 b4 b5 b6 HAT2
          have HEV : Hid (Calls Try.prog 19 #[.agg #[.int .i64 dv.id, .int .i64 dv.fr, .bool dv.snap, .slice fv dv.files.length cv, .int .i64 dv.next], .agg #[.int .i64 0, .int .i64 0, .bool false, .slice none 0 0, .int .i64 0]] WD fun e w'' => e = .returned (.bool true) ∧ Below WD.heap.size WD w'') := by
            have h2 := eqVol_any _ _ dv VZ WD (HVV.out _ (nwR WD)) (ownV_zero WD 0).val (by rw [HDV.out]; exact small_vz)
            rw [decide_eq_true HDV.out] at h2; exact h2
          go_wp2_with (first | (go_at_call 15; refine (errnum_w _ _).mono ?_; rintro e w' ⟨rfl, rfl⟩) | fail)
          refine HEV.out.mono ?_
          rintro e wE ⟨rfl, hbE⟩
          have H2E : Hid (Below w2.heap.size w2 wE) := nwT HBD.out hbE
          clear v0 v1 v2 v3 v4 z0 z1 z2 z3 z4 hbE HEV
          go_wp2_with fail
          refine (HEQ.out _ H2E.out).mono ?_
          rintro e wF ⟨rfl, hbF⟩
          have H2F : Hid (Below w2.heap.size w2 wF) := nwT H2E.out hbF
          clear hbF
          go_wp2_with fail
          go_ret3
          exact ⟨⟨a, ds, ca, next, rfl, HL.out _ H2F.out, HCA.out, HS.out⟩, nwT HB2.out H2F.out⟩
        case some k =>
          have HAT2 : Hid (Calls Try.prog 32 #[.slice a ds.length ca, .int .i64 vid] WD fun e w' => e = .returned (.int .i64 (k : Int)) ∧ WD = w') := by rw [hat] at HAT; exact HAT.out
          have hgd : er = 0 ∧ dv = ds.getD k VZ := by
            rcases HGR.out with ⟨h, _⟩ | ⟨_, h, _⟩ | ⟨j, _, h, h2⟩
            · exact absurd hok h
            · rw [hat] at h; cases h
            · rw [hat] at h; injection h with h; subst h; exact h2
          have hkl := atV_lt hat
          have HER := hgd.1
          subst HER
          obtain ⟨b1', o1, rfl, af2, cf2, ⟨c0, c1, c2, c3, c4⟩, hf2, hcf2⟩ := (HL.out _ (nwR w2)).vol hkl
          rw [← hgd.2] at c0 c1 c2 c3 c4 hf2 hcf2
          have HD2 : Hid (∀ w', Below w2.heap.size w2 w' → VolVal w' (.agg #[.int .i64 dv.id, .int .i64 dv.fr, .bool dv.snap, .slice af2 dv.files.length cf2, .int .i64 dv.next]) dv) := fun w' h => ⟨af2, cf2, rfl, hf2.below h, hcf2⟩
          have HSD : Hid (SmallV dv) := by show SmallV dv; rw [hgd.2]; exact getD_small HS.out hkl
          replace c0 := (HBD.out.cell (block_lt_of_cell c0)).trans c0
          replace c1 := (HBD.out.cell (block_lt_of_cell c1)).trans c1
          replace c2 := (HBD.out.cell (block_lt_of_cell c2)).trans c2
          replace c3 := (HBD.out.cell (block_lt_of_cell c3)).trans c3
          replace c4 := (HBD.out.cell (block_lt_of_cell c4)).trans c4
          have hki : (k : Int) < (ds.length : Int) := by omega
          have hk0 : (0 : Int) ≤ (k : Int) := by omega
          clear hgd hok hat HAT HGR hf2 hcf2
          go_wp2_with fail
          refine HAT2.out.mono ?_
          rintro e w' ⟨rfl, rfl⟩
          clear HAT2
          have hzf : ∀ o, WD.frozen? ⟨gv + 1, o, none⟩ = false := fun o => Lib.frozen_of_heap HV2.out o
          go_wp2_with fail
          go_region
          obtain ⟨WX, hWX⟩ : ∃ WX, WX = (((((WD.setCell ⟨gv + 1, 0, none⟩ (.int .i64 dv.id)).setCell ⟨gv + 1, 1, none⟩ (.int .i64 dv.fr)).setCell ⟨gv + 1, 2, none⟩ (.bool dv.snap)).setCell ⟨gv + 1, 3, none⟩ (.slice af2 dv.files.length cf2)).setCell ⟨gv + 1, 4, none⟩ (.int .i64 dv.next)).drew := ⟨_, rfl⟩
          have hbAX : Below wA.heap.size wA WX := by rw [hWX]; exact Below.drew (five_below HAD.out.1 (by have := HGV.out; omega))
          have HBX : Hid (Below w2.heap.size w2 WX) := nwT HAD.out.2 hbAX
          have hv1 : WX.heap[gv]? = some (.cells #[.int .i64 dv.id, .int .i64 dv.fr, .bool dv.snap, .slice fv dv.files.length cv, .int .i64 dv.next] 32 (0, 0)) := by rw [hWX]; exact five_other (HV1.out _ (nwR WD)) (by omega)
          have hv2 : WX.heap[gv + 1]? = some (.cells #[.int .i64 dv.id, .int .i64 dv.fr, .bool dv.snap, .slice af2 dv.files.length cf2, .int .i64 dv.next] 32 (0, 0)) := by rw [hWX]; exact five_set HV2.out
          have HEV : Hid (Calls Try.prog 19 #[.agg #[.int .i64 dv.id, .int .i64 dv.fr, .bool dv.snap, .slice fv dv.files.length cv, .int .i64 dv.next], .agg #[.int .i64 dv.id, .int .i64 dv.fr, .bool dv.snap, .slice af2 dv.files.length cf2, .int .i64 dv.next]] WX fun e w'' => e = .returned (.bool true) ∧ Below WX.heap.size WX w'') := by
            have h2 := eqVol_any _ _ dv dv WX (HVA.out _ hbAX) (HD2.out _ HBX.out) HSD.out
            rw [decide_eq_true rfl] at h2; exact h2
          rw [← hWX]
          clear hWX z0 z1 z2 z3 z4 v0 v1 v2 v3 v4 c0 c1 c2 c3 c4 b0 b1 b2 b3 b4 b5 b6 a0 a1 a2 a3 a4 a5 a6 hzf hbAX
          obtain ⟨v0, v1, v2, v3, v4, _⟩ := five hv1
          obtain ⟨z0, z1, z2, z3, z4, _⟩ := five hv2
          go_wp2_with (first | (go_at_call 15; refine (errnum_w _ _).mono ?_; rintro e w' ⟨rfl, rfl⟩) | fail)
          refine HEV.out.mono ?_
          rintro e wE ⟨rfl, hbE⟩
          have H2E : Hid (Below w2.heap.size w2 wE) := nwT HBX.out hbE
          clear v0 v1 v2 v3 v4 z0 z1 z2 z3 z4 hbE HEV
          go_wp2_with fail
          refine (HEQ.out _ H2E.out).mono ?_
          rintro e wF ⟨rfl, hbF⟩
          have H2F : Hid (Below w2.heap.size w2 wF) := nwT H2E.out hbF
          clear hbF
          go_wp2_with fail
          go_ret3
          exact ⟨⟨some ⟨b1', o1, none⟩, ds, ca, next, rfl, HL.out _ H2F.out, HCA.out, HS.out⟩, nwT HB2.out H2F.out⟩
  case rest =>
  obtain ⟨rfl, er, n, tn, dd, ax, cx, aw, lw, cw, rfl, rfl, rfl, rfl, rfl, rfl, HJ⟩ := hcut
  clear HM8 HBOX HFD HCF HSV
  rename World => wj
  obtain ⟨top, ht1, ht2, hvx, hsp, hwn⟩ := HJ.out.own
  have HTOP : Hid (w2.heap.size ≤ top ∧ top ≤ wj.heap.size) := ⟨ht1, ht2⟩
  have HVX : Hid (VolsAt wj ax dd) := hvx
  have HSP : Hid (SpW wj w2.heap.size top ax dd.length) := hsp
  have HWN : Hid (er = 0 → lw = dd.length ∧ SafeW w2 wj top aw dd) := hwn
  clear ht1 ht2 hvx hsp hwn
  go_upto_if 181 with fail
  go_cut [11, 13, 15] from 180 to 181 (fun s11 s13 s15 wx => s11 = .int .i64 er ∧ wj = wx ∧ ∃ (aw' : Option Addr) (cw' : Nat), s13 = .slice aw' dd.length cw' ∧ s15 = .int .i64 n ∧ Hid (SafeW w2 wj top aw' dd))
  case first =>
    by_cases her : er = 0
    case pos =>
      obtain ⟨hlw, hsf⟩ := HWN.out her
      have hnt := (HJ.out.zero her).1
      have HQ : Hid (SafeW w2 wj top aw dd) := hsf
      subst hlw
      subst hnt
      subst her
      clear hsf
      go_wp2_with fail
      go_meet
      exact ⟨rfl, rfl, aw, cw, rfl, rfl, HQ.out⟩
    case neg =>
      obtain ⟨hdd, hn0⟩ := HJ.out.bad her
      have HQ : Hid (SafeW w2 wj top none dd ∧ dd.length = 0 ∧ n = 0) := ⟨by rw [hdd]; exact fun w' _ _ => .inl rfl, by rw [hdd]; rfl, hn0⟩
      have h1 : (er == 0) = false := beq_eq_false_iff_ne.2 her
      have h2 : (er != 0) = true := bne_iff_ne.2 her
      have h3 : decide (er = 0) = false := decide_eq_false her
      clear hdd hn0
      go_wp2_with fail
      go_meet
      exact ⟨rfl, rfl, none, 0, by rw [HQ.out.2.1], by rw [HQ.out.2.2], HQ.out.1⟩
  case rest =>
  obtain ⟨rfl, rfl, aw', cw', rfl, rfl, HSF⟩ := hcut
  rename World => wj
  clear HWN
  have HEQ1 : Hid (Calls Try.prog 20 #[.slice ax dd.length cx, .slice aw' dd.length cw'] wj fun e w' => e = .returned (.bool true) ∧ Below wj.heap.size wj w') := by
    have h := eqVols_any ax aw' dd dd cx cw' wj HVX.out (HSF.out wj HJ.out.below (fun _ _ _ => rfl)) HJ.out.small
    rw [decide_eq_true rfl] at h; exact h
  have HEQ2 : Hid (∀ w', Below w2.heap.size w2 w' → Calls Try.prog 20 #[.slice fa ds.length fc, .slice a ds.length ca] w' fun e w'' => e = .returned (.bool true) ∧ Below w'.heap.size w' w'') := fun w' hb => by
    have h := eqVols_any fa a ds ds fc ca w' (HIN.out _ hb) (HL.out _ hb) HS.out
    rw [decide_eq_true rfl] at h; exact h
  obtain ⟨c, hc⟩ : ∃ c, errI may = c := ⟨_, rfl⟩
  have HC : Hid (errI may = c) := hc
  have hc1 : (c == 0) = may := by rw [← hc]; cases may <;> simp [errI]
  have hc2 : decide (c = 0) = may := by rw [← hc]; cases may <;> simp [errI]
  clear hc
  have HCK : Hid (∀ w', Below w2.heap.size w2 w' → Calls Try.prog 34 #[.slice fa ds.length fc, .int .i64 next] w' fun e w'' => e = .returned (.int .i64 c) ∧ Below w'.heap.size w' w'') := fun w' hb =>
    (vcheck_any fa ds fc next w' (HIN.out _ hb) HS.out).mono fun e w'' ⟨⟨b, h1, h2⟩, h3⟩ => ⟨by
      rw [h2, ← HC.out, show b = may from by rw [Bool.eq_iff_iff, h1, HMAY.out]], h3⟩
  clear HC HMAY
  go_wp2_with (first | (go_at_call 15; refine (errnum_w _ _).mono ?_; rintro e w' ⟨rfl, rfl⟩) | fail)
  refine HEQ1.out.mono ?_
  rintro e wk ⟨rfl, hbk⟩
  have HBK : Hid (Below wj.heap.size wj wk) := hbk
  have h2k := nwT HJ.out.below hbk
  clear HEQ1 hbk
  go_wp2_with fail
  refine (HEQ2.out _ h2k).mono ?_
  rintro e wl ⟨rfl, hbl⟩
  have HBL : Hid (Below wj.heap.size wj wl) := nwT HBK.out hbl
  have h2l := nwT h2k hbl
  clear hbl h2k HBK
  go_wp2_with fail
  refine (HCK.out _ h2l).mono ?_
  rintro e wm ⟨rfl, hbm⟩
  have HBM : Hid (Below wj.heap.size wj wm) := nwT HBL.out hbm
  have H2M : Hid (Below w2.heap.size w2 wm) := nwT h2l hbm
  clear hbm h2l HBL HCK
  have HSPO : Hid (Calls Try.prog 35 #[.slice ax dd.length cx] wm fun e w' => e = .returned (.tuple #[]) ∧ Below w2.heap.size w2 w' ∧ VolsAt w' aw' dd) := by
    have hz := HBM.out.size
    have ht := HTOP.out
    refine (vols_spoil ax dd.length cx w2.heap.size top wm (HSP.out.below HBM.out) HJ.out.small.1 (by omega) (by omega)).mono ?_
    rintro e w' ⟨he, hb, hk⟩
    have h2 := H2M.out.trans hb
    exact ⟨he, h2, HSF.out w' h2 (fun k h1 h3 => (hk k h1 (by omega)).trans (HBM.out.block k h3))⟩
  go_wp2_with (first | (go_at_call 15; refine (errnum_w _ _).mono ?_; rintro e w' ⟨rfl, rfl⟩) | fail)
  refine HSPO.out.mono ?_
  rintro e ws ⟨rfl, h2s, hvw⟩
  have HVW : Hid (VolsAt ws aw' dd) := hvw
  clear HSPO hvw hc1 hc2 HSF HSP HVX
  go_wp2_with fail
  refine (HEQ2.out _ h2s).mono ?_
  rintro e wt ⟨rfl, hbt⟩
  have HVT : Hid (VolsAt wt aw' dd) := HVW.out.below hbt
  have H2T : Hid (Below w2.heap.size w2 wt) := nwT h2s hbt
  have HBE : Hid (Below w.heap.size w wt) := nwT HB2.out H2T.out
  clear hbt h2s HVW HEQ2
  by_cases her : er = 0
  case neg =>
    have h1 : (er == 0) = false := beq_eq_false_iff_ne.2 her
    have h2 : (er != 0) = true := bne_iff_ne.2 her
    have h3 : decide (er = 0) = false := decide_eq_false her
    go_wp2_with fail
    go_ret3
    exact ⟨⟨a, ds, ca, next, rfl, HL.out _ H2T.out, HCA.out, HS.out⟩, HBE.out⟩
  case pos =>
  have HSD : Hid (SmallW dd) := HJ.out.small
  have HCP : Hid (Calls Try.prog 10 #[.slice aw' dd.length cw'] wt fun e w' => (∃ v, e = .returned v ∧ OwnVols w' wt.heap.size v dd) ∧ Below wt.heap.size wt w') := copyVols_any aw' dd cw' wt HVT.out HSD.out
  clear HJ
  subst her
  go_wp2_with fail
  refine HCP.out.mono ?_
  rintro e wz ⟨⟨u, rfl, hu⟩, hbz⟩
  obtain ⟨az, cz, rfl, hvz, hcz⟩ := hu.at
  have HZ : Hid (VolsAt wz az dd ∧ CapOk az cz dd.length ∧ Below w.heap.size w wz) := ⟨hvz, hcz, nwT HBE.out hbz⟩
  clear hu hbz hvz hcz
  go_wp2_with fail
  go_ret3
  exact ⟨⟨az, dd, cz, _, rfl, HZ.out.1, HZ.out.2.1, HSD.out⟩, HZ.out.2.2⟩

theorem step_any : StepOk := fun a ds ca next A af cf w hv hc hs hf hcf hsv => step_go a ds ca next A.act A.id A.v af cf w hv hc hs hf hcf hsv

end Go.Proofs.Ytodahdnnlkcfdaa
