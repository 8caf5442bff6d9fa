/- Laid together: Lawstep. -/
import Derived.Test.YtdpighcaieajjabGreatTreesM23
import Derived.Deep.CutRange
import Derived.Deep.CutBlock
/- The law's step. -/
namespace Go.Proofs.YtdpighcaieajjabGreat
open Go.RowKit Go.Sort

theorem SplU.of {s : ByteArray} {w : World} {a : Option Addr} {n c : Nat} {ok : Bool} (h : SplU s w a n c ok) {L : List ByteArray} (hL : pathN s = Option.some L) : n = L.length ∧ StrsAt w a L ∧ L.length ≤ c ∧ L.length ≤ 5 := by
  rcases h with ⟨_, L', h1, h2, h3, h4, h5⟩ | ⟨_, h1⟩
  · rw [hL] at h1
    injection h1 with h1
    subst h1
    exact ⟨h2, h3, h4, h5⟩
  · rw [hL] at h1; cases h1
theorem SplU.ok {s : ByteArray} {w : World} {a : Option Addr} {n c : Nat} {ok : Bool} (h : SplU s w a n c ok) : ok = true ↔ (pathN s).isSome = true := by
  rcases h with ⟨rfl, L', h1, _⟩ | ⟨rfl, h1⟩
  · rw [h1]; simp
  · rw [h1]; simp

set_option maxRecDepth 100000 in
set_option maxHeartbeats 16000000 in
theorem step_any (av : Option Addr) (ca : Nat) (d : VolD) (act : Int) (p q : ByteArray) (w : World) (hv : VolVal w (.agg #[.int .i64 d.id, .int .i64 d.fr, .bool d.snap, .slice av d.files.length ca, .int .i64 d.next]) d) (hs : SmallV d) :
    Calls Tryz.prog 10 #[.agg #[.int .i64 d.id, .int .i64 d.fr, .bool d.snap, .slice av d.files.length ca, .int .i64 d.next], .agg #[.int .i64 act, .string p, .string q]] w fun e w' => (∃ fu cu dd, e = .returned (.tuple #[.agg #[.int .i64 dd.id, .int .i64 dd.fr, .bool dd.snap, .slice fu dd.files.length cu, .int .i64 dd.next], .bool true]) ∧ ((fu = av ∧ cu = ca ∧ dd = d) ∨ OwnVol w' w.heap.size (.agg #[.int .i64 dd.id, .int .i64 dd.fr, .bool dd.snap, .slice fu dd.files.length cu, .int .i64 dd.next]) dd) ∧ SmallV dd) ∧ Below w.heap.size w w' := by
  have HS : Hid (SmallV d) := hs
  have HVV : Hid (VolVal w (.agg #[.int .i64 d.id, .int .i64 d.fr, .bool d.snap, .slice av d.files.length ca, .int .i64 d.next]) d) := hv
  clear hv hs
  obtain ⟨W0, hW0⟩ : ∃ W0, W0 = ((w.alloc (.cells #[.int .i64 d.id, .int .i64 d.fr, .bool d.snap, .slice av d.files.length ca, .int .i64 d.next] 24)).alloc (.cells #[.int .i64 act, .string p, .string q] 31)).alloc (.cells #[.int .i64 0, .int .i64 0, .bool false, .slice none 0 0, .int .i64 0] 24) := ⟨_, rfl⟩
  have HB0 : Hid (Below w.heap.size w W0) := by rw [hW0]; exact nwA (nwA (nwA (nwR w) _) _) _
  have HV0 : Hid (W0.heap[w.heap.size]? = some (.cells #[.int .i64 d.id, .int .i64 d.fr, .bool d.snap, .slice av d.files.length ca, .int .i64 d.next] 24 (0, 0))) := by rw [hW0]; exact (Lib.alloc_old _ _ _ (by simp; omega)).trans ((Lib.alloc_old _ _ _ (by simp)).trans (heap_alloc_new w _))
  have HA0 : Hid (W0.heap[w.heap.size + 1]? = some (.cells #[.int .i64 act, .string p, .string q] 31 (0, 0))) := by rw [hW0]; exact (Lib.alloc_old _ _ _ (by simp)).trans (heap_alloc_new2 w _ _)
  have HR0 : Hid (W0.heap[w.heap.size + 2]? = some (.cells #[.int .i64 0, .int .i64 0, .bool false, .slice none 0 0, .int .i64 0] 24 (0, 0))) := by
    rw [hW0]
    have := heap_alloc_new ((w.alloc (.cells #[.int .i64 d.id, .int .i64 d.fr, .bool d.snap, .slice av d.files.length ca, .int .i64 d.next] 24)).alloc (.cells #[.int .i64 act, .string p, .string q] 31)) (.cells #[.int .i64 0, .int .i64 0, .bool false, .slice none 0 0, .int .i64 0] 24)
    rw [alloc2_size] at this
    exact this
  go_enter Tryz.func10, Tryz.ntmps10
  go_wp2_with fail
  rw [← hW0]
  clear hW0
  refine (copyVol_any _ d _ (HVV.out.below HB0.out) HS.out).mono ?_
  rintro e w1 ⟨⟨u, rfl, hu⟩, hb1⟩
  obtain ⟨fa, fc, rfl, hin⟩ := hu.lit
  obtain ⟨W2, hW2⟩ : ∃ W2, W2 = w1.alloc (.cells #[.int .i64 d.id, .int .i64 d.fr, .bool d.snap, .slice fa d.files.length fc, .int .i64 d.next] 24) := ⟨_, rfl⟩
  have hb12 : Below w1.heap.size w1 W2 := by rw [hW2]; exact nwA (nwR w1) _
  have HBW : Hid (Below w.heap.size w W2) := nwT HB0.out (nwT hb1 hb12)
  have hz0 := (Array.getElem?_eq_some_iff.1 HR0.out).1
  have hbx : BoxQ w.heap.size w1.heap.size (.cells #[.int .i64 d.id, .int .i64 d.fr, .bool d.snap, .slice av d.files.length ca, .int .i64 d.next] 24 (0, 0)) (.cells #[.int .i64 act, .string p, .string q] 31 (0, 0)) (.cells #[.int .i64 0, .int .i64 0, .bool false, .slice none 0 0, .int .i64 0] 24 (0, 0)) (.cells #[.int .i64 d.id, .int .i64 d.fr, .bool d.snap, .slice fa d.files.length fc, .int .i64 d.next] 24 (0, 0)) W2 := by
    have h02 := nwT hb1 hb12
    exact ⟨(h02.block _ (by omega)).trans HV0.out, (h02.block _ (by omega)).trans HA0.out, (h02.block _ hz0).trans HR0.out, by rw [hW2]; exact heap_alloc_new w1 _⟩
  have HBOX : Hid (∀ w', Below W2.heap.size W2 w' → BoxQ w.heap.size w1.heap.size (.cells #[.int .i64 d.id, .int .i64 d.fr, .bool d.snap, .slice av d.files.length ca, .int .i64 d.next] 24 (0, 0)) (.cells #[.int .i64 act, .string p, .string q] 31 (0, 0)) (.cells #[.int .i64 0, .int .i64 0, .bool false, .slice none 0 0, .int .i64 0] 24 (0, 0)) (.cells #[.int .i64 d.id, .int .i64 d.fr, .bool d.snap, .slice fa d.files.length fc, .int .i64 d.next] 24 (0, 0)) w') := fun w' h => hbx.below hbx.lt h
  have HIN2 : Hid (∀ w', Below W2.heap.size W2 w' → VolVal w' (.agg #[.int .i64 d.id, .int .i64 d.fr, .bool d.snap, .slice fa d.files.length fc, .int .i64 d.next]) d) := fun w' h => (hin.below hb12).below h
  have HVO2 : Hid (∀ w', Below W2.heap.size W2 w' → VolVal w' (.agg #[.int .i64 d.id, .int .i64 d.fr, .bool d.snap, .slice av d.files.length ca, .int .i64 d.next]) d) := fun w' h => (HVV.out.below HBW.out).below h
  have HLT : Hid (w.heap.size + 2 < W2.heap.size) := hbx.lt.1
  clear hu hin hb1 hb12 hbx HB0 HV0 HA0 HR0 hz0 HVV
  obtain ⟨a0, a1, a2⟩ := three (HBOX.out _ (nwR W2)).a
  rw [hW2] at a0 a1 a2
  go_wp2_with fail
  rw [← hW2]
  clear hW2 a0 a1 a2
  obtain ⟨gi, hgi⟩ : ∃ gi, w1.heap.size = gi := ⟨_, rfl⟩
  rw [hgi] at HBOX ⊢
  clear hgi
  refine (rsplit_u p _).mono ?_
  rintro e w3 ⟨⟨pa, pn, pc, ok, rfl, hp3⟩, hb3⟩
  have HP3 : Hid (SplU p w3 pa pn pc ok) := hp3
  clear hp3
  obtain ⟨a0, a1, a2⟩ := three (HBOX.out _ hb3).a
  go_wp2_with fail
  refine (rsplit_u q _).mono ?_
  rintro e w4 ⟨⟨qa, qn, qc, fine, rfl, hq4⟩, hb4⟩
  have HP4 : Hid (SplU p w4 pa pn pc ok) := HP3.out.below hb4
  have HQ4 : Hid (SplU q w4 qa qn qc fine) := hq4
  have hb24 : Below W2.heap.size W2 w4 := nwT hb3 hb4
  clear hq4 a0 a1 a2 HP3 hb3 hb4
  obtain ⟨a0, a1, a2⟩ := three (HBOX.out _ hb24).a
  go_wp2_with fail
  refine ((lawWithin_any act w4).mono fun _ _ h => (⟨h.1, h.2.symm⟩ : _ ∧ w4 = _)).mono ?_
  rintro e w' ⟨rfl, rfl⟩
  obtain ⟨m, hm⟩ : ∃ m, withinN act 7 = m := ⟨_, rfl⟩
  have HM7 : Hid (m < 7) := by show m < 7; rw [← hm]; unfold withinN; omega
  rw [hm]
  clear hm a0 a1 a2
  obtain ⟨x0, x1, x2, x3, x4, _⟩ := five (HBOX.out _ hb24).v
  go_wp2_with fail
  refine (vol_any _ d _ (HVO2.out _ hb24) HS.out).mono ?_
  rintro e w5 ⟨⟨may, rfl, hmay⟩, hb5⟩
  have HMAY : Hid (may = true ↔ VolOk d) := hmay
  have HB5 : Hid (Below W2.heap.size W2 w5) := nwT hb24 hb5
  have HP : Hid (SplU p w5 pa pn pc ok) := HP4.out.below hb5
  have HQ : Hid (SplU q w5 qa qn qc fine) := HQ4.out.below hb5
  clear x0 x1 x2 x3 x4 hmay hb24 hb5 HP4 HQ4
  obtain ⟨n2, hn2⟩ : ∃ n2, decide (m ≠ 2) = n2 := ⟨_, rfl⟩
  obtain ⟨l5, hl5⟩ : ∃ l5, decide (m < 5) = l5 := ⟨_, rfl⟩
  obtain ⟨good, hgood⟩ : ∃ good, good = (may && ok && (fine || (n2 && l5))) := ⟨_, rfl⟩
  have HG : Hid (good = (may && ok && (fine || (n2 && l5)))) := hgood
  have HN2 : Hid (decide (m ≠ 2) = n2) := hn2
  have HL5 : Hid (decide (m < 5) = l5) := hl5
  clear hgood hn2 hl5
  go_upto_region 6 with fail
  go_cut [8, 10, 11, 12, 13] from 37 to 51 (fun s8 s10 s11 s12 s13 wx => s8 = .bool ok ∧ s10 = .bool fine ∧ s11 = .int .i64 m ∧ s12 = .bool may ∧ s13 = .bool good ∧ w5 = wx)
  case first =>
    cases may
    · go_wp2_with fail
      go_meet
      exact ⟨rfl, rfl, rfl, rfl, by rw [HG.out]; rfl, rfl⟩
    cases ok
    · go_wp2_with fail
      go_meet
      exact ⟨rfl, rfl, rfl, rfl, by rw [HG.out]; rfl, rfl⟩
    cases fine
    case true =>
      go_wp2_with fail
      go_meet
      exact ⟨rfl, rfl, rfl, rfl, by rw [HG.out]; rfl, rfl⟩
    by_cases h2 : m = 2
    · subst h2
      have hn : n2 = false := by rw [← HN2.out]; rfl
      go_wp2_with fail
      go_meet
      exact ⟨rfl, rfl, rfl, rfl, by rw [HG.out, hn]; rfl, rfl⟩
    · have hn : n2 = true := by rw [← HN2.out]; exact decide_eq_true h2
      have h2i : ¬ (m : Int) = 2 := by omega
      have h2b : ((m : Int) == 2) = false := beq_eq_false_iff_ne.2 h2i
      have h2c : ((m : Int) != 2) = true := bne_iff_ne.2 h2i
      have h2d : (m == 2) = false := beq_eq_false_iff_ne.2 h2
      have h2e : (m != 2) = true := bne_iff_ne.2 h2
      by_cases h5 : m < 5
      · have hl : l5 = true := by rw [← HL5.out]; exact decide_eq_true h5
        have h5i : (m : Int) < 5 := by omega
        have h5d : decide ((m : Int) < 5) = true := decide_eq_true h5i
        have h5n : decide (m < 5) = true := decide_eq_true h5
        go_wp2_with fail
        go_meet
        exact ⟨rfl, rfl, rfl, rfl, by rw [HG.out, hn, hl]; rfl, rfl⟩
      · have hl : l5 = false := by rw [← HL5.out]; exact decide_eq_false h5
        have h5i : ¬ (m : Int) < 5 := by omega
        have h5d : decide ((m : Int) < 5) = false := decide_eq_false h5i
        have h5n : decide (m < 5) = false := decide_eq_false h5
        go_wp2_with fail
        go_meet
        exact ⟨rfl, rfl, rfl, rfl, by rw [HG.out, hn, hl]; rfl, rfl⟩
  case rest =>
  obtain ⟨rfl, rfl, rfl, rfl, rfl, rfl⟩ := hcut
  have HGG : Hid (good = true ↔ (VolOk d ∧ (pathN p).isSome = true ∧ ((pathN q).isSome = true ∨ (m ≠ 2 ∧ m < 5)))) := by
    show _ ↔ _
    rw [HG.out, ← HMAY.out, ← HP.out.ok, ← HQ.out.ok, ← HN2.out, ← HL5.out]
    simp [and_assoc]
  clear HG HN2 HL5
  have HINV : Hid (∀ w', Below w5.heap.size w5 w' → VolVal w' (.agg #[.int .i64 d.id, .int .i64 d.fr, .bool d.snap, .slice fa d.files.length fc, .int .i64 d.next]) d) := fun w' h => HIN2.out w' (nwT HB5.out h)
  have HVOL : Hid (∀ w', Below w5.heap.size w5 w' → VolVal w' (.agg #[.int .i64 d.id, .int .i64 d.fr, .bool d.snap, .slice av d.files.length ca, .int .i64 d.next]) d) := fun w' h => HVO2.out w' (nwT HB5.out h)
  have HBX5 : Hid (∀ w', Below w5.heap.size w5 w' → BoxQ w.heap.size gi (.cells #[.int .i64 d.id, .int .i64 d.fr, .bool d.snap, .slice av d.files.length ca, .int .i64 d.next] 24 (0, 0)) (.cells #[.int .i64 act, .string p, .string q] 31 (0, 0)) (.cells #[.int .i64 0, .int .i64 0, .bool false, .slice none 0 0, .int .i64 0] 24 (0, 0)) (.cells #[.int .i64 d.id, .int .i64 d.fr, .bool d.snap, .slice fa d.files.length fc, .int .i64 d.next] 24 (0, 0)) w') := fun w' h => HBOX.out w' (nwT HB5.out h)
  have HBWW : Hid (Below w.heap.size w w5 ∧ w.heap.size + 2 < w5.heap.size) := ⟨nwT HBW.out HB5.out, by have := HB5.out.size; have := HLT.out; omega⟩
  clear HIN2 HVO2 HBOX HBW HLT HB5
  obtain ⟨W9, hW9⟩ : ∃ W9, W9 = (w5.alloc (.cells #[.int .i64 0, .int .i64 0, .bool false, .slice none 0 0, .int .i64 0] 24)).alloc (.cells #[.int .i64 0, .int .i64 0, .bool false, .slice none 0 0, .int .i64 0] 24) := ⟨_, rfl⟩
  have H9 : Hid (W9 = (w5.alloc (.cells #[.int .i64 0, .int .i64 0, .bool false, .slice none 0 0, .int .i64 0] 24)).alloc (.cells #[.int .i64 0, .int .i64 0, .bool false, .slice none 0 0, .int .i64 0] 24)) := hW9
  have HB9 : Hid (Below w5.heap.size w5 W9) := by rw [hW9]; exact nwA (nwA (nwR w5) _) _
  have HX9 : Hid (W9.heap[w5.heap.size]? = some (.cells #[.int .i64 0, .int .i64 0, .bool false, .slice none 0 0, .int .i64 0] 24 (0, 0)) ∧ w5.heap.size < W9.heap.size) := by rw [hW9]; exact ⟨(Lib.alloc_old _ _ _ (by simp)).trans (heap_alloc_new w5 _), by rw [alloc2_size]; omega⟩
  go_upto_block 0 with fail
  rw [← hW9]
  clear hW9
  go_cut [12, 14, 15, 16, 17] from 7 to 152 (fun s12 s14 s15 s16 s17 wx => s12 = .bool may ∧ s15 = .pointer (some ⟨w5.heap.size, 0, none⟩) ∧ s16 = .pointer (some ⟨w5.heap.size + 1, 0, none⟩) ∧ ∃ er dd fx cx fw cw, s14 = .int .i64 er ∧ s17 = .int .i64 er ∧ Hid (StepJ w5 dd fx cx fw cw wx))
  case first =>
    have hx5 := HBX5.out _ HB9.out
    obtain ⟨i0, i1, i2, i3, i4, _⟩ := five hx5.i
    obtain ⟨a0, a1, a2⟩ := three hx5.a
    clear hx5 HMAY
    have hm7 := HM7.out
    rcases (by omega : m = 0 ∨ m = 1 ∨ m = 2 ∨ m = 3 ∨ m = 4 ∨ m = 5 ∨ m = 6) with rfl | rfl | rfl | rfl | rfl | rfl | rfl
    · -- kind 0
      have HGK : Hid (good = true ↔ (VolOk d ∧ (pathN p).isSome = true)) := by show _ ↔ _; rw [HGG.out]; simp
      have HGD : Hid (good = true ↔ (VolOk d ∧ (pathN p).isSome = true)) := HGK.out
      have HCP : Hid (Calls Tryz.prog 17 #[.agg #[.int .i64 d.id, .int .i64 d.fr, .bool d.snap, .slice fa d.files.length fc, .int .i64 d.next], .string p] W9 fun e w' => (∃ u er dd, e = .returned (.tuple #[u, .int .i64 er]) ∧ OwnVol w' W9.heap.size u dd ∧ ChangeR (MakeG d p false) d [p] er dd) ∧ Below W9.heap.size W9 w') := make_any _ d p W9 (HINV.out _ HB9.out) HS.out
      clear HGK
      go_wp2_with fail
      refine HCP.out.mono ?_
      rintro e wA ⟨⟨u, er, dd, rfl, hu, hch⟩, hbA⟩
      have HCH : Hid (ChangeR (MakeG d p false) d [p] er dd) := hch
      obtain ⟨fv, rfl, hfv⟩ := hu
      obtain ⟨fx, cx, rfl, _, _⟩ := id hfv.at
      have HFV : Hid (OwnFiles wA W9.heap.size (.slice fx dd.files.length cx) dd.files) := hfv
      have HBA : Hid (Below W9.heap.size W9 wA) := hbA
      obtain ⟨q0, q1, q2, q3, q4, qf⟩ := five ((hbA.block _ HX9.out.2).trans HX9.out.1)
      clear hfv hch HCP HX9
      cases hgd : good
      case false =>
        have hbad := change_bad HCH.out (fun h => by have := HGD.out.2 ⟨h.1, pathsOk_one.1 h.2⟩; rw [hgd] at this; cases this)
        have HSD : Hid (er = 1 ∧ SmallV dd ∧ dd = Go.Proofs.YtdpighcaieajjabGreat.v0) := ⟨hbad.1, by rw [hbad.2]; exact small_v0, hbad.2⟩
        clear hbad hgd hbA
        go_wp2_with fail
        go_meet
        exact ⟨rfl, rfl, rfl, er, dd, fx, cx, none, 0, by rw [HSD.out.1], rfl, (stepA H9.out HBA.out HFV.out HSD.out.2.1).bad HSD.out.2.2⟩
      case true =>
        obtain ⟨hok, hpL⟩ := HGD.out.1 hgd
        have HOK : Hid (VolOk d) := hok
        obtain ⟨L, hL⟩ := Option.isSome_iff_exists.1 hpL
        have HPL : Hid (pathN p = some L) := hL
        obtain ⟨hLn, hLs0, hLc, hL5⟩ := HP.out.of hL
        subst hLn
        have HCH2 : Hid (ChangeR (UG (fun d L => mkR d L false) d p) d [p] er dd) := HCH.out.imp fun _ _ h => UG.of_make h
        have HSA : Hid (SmallV dd) := by
          rcases HCH2.out with ⟨_, _, _, L', _, hr⟩ | ⟨_, _, _, _, hr⟩ | ⟨_, _, hr⟩
          · have h2 := small_mkR HOK.out HS.out L' false
            have h3 : dd = (mkR d L' false).2 := congrArg (·.2) hr
            rw [h3]; exact h2
          · rw [hr]; exact small_v0
          · rw [hr]; exact small_v0
        have HJA : Hid (StepA w5 dd fx cx wA.heap.size (((((wA.setCell ⟨w5.heap.size, 0, none⟩ (.int .i64 dd.id)).setCell ⟨w5.heap.size, 1, none⟩ (.int .i64 dd.fr)).setCell ⟨w5.heap.size, 2, none⟩ (.bool dd.snap)).setCell ⟨w5.heap.size, 3, none⟩ (.slice fx dd.files.length cx)).setCell ⟨w5.heap.size, 4, none⟩ (.int .i64 dd.next))) := stepA H9.out HBA.out HFV.out HSA.out
        have HL : Hid (StrsAt w5 pa L) := hLs0
        skip
        clear hok hpL hL hLs0 hgd hbA HFV HBA
        have hW2A := HJA.out.below
        obtain ⟨x0, x1, x2, x3, x4, _⟩ := five (HBX5.out _ hW2A).v
        go_wp2_with fail
        generalize (((((wA.setCell ⟨w5.heap.size, 0, none⟩ (.int .i64 dd.id)).setCell ⟨w5.heap.size, 1, none⟩ (.int .i64 dd.fr)).setCell ⟨w5.heap.size, 2, none⟩ (.bool dd.snap)).setCell ⟨w5.heap.size, 3, none⟩ (.slice fx dd.files.length cx)).setCell ⟨w5.heap.size, 4, none⟩ (.int .i64 dd.next)) = WA at HJA hW2A ⊢
        have hLs : StrsAt WA pa L := HL.out.below hW2A
        skip
        have HCR : Hid (Calls Tryz.prog 18 #[.agg #[.int .i64 d.id, .int .i64 d.fr, .bool d.snap, .slice av d.files.length ca, .int .i64 d.next], .slice pa L.length pc, .bool false] WA (RPost d (mkR d L false) WA)) := rmake_any _ d pa L pc false WA (HVOL.out _ hW2A) HS.out HOK.out hLs hLc hL5
        clear hLs x0 x1 x2 x3 x4
        refine HCR.out.mono ?_
        rintro e wB ⟨⟨u, er2, dd2, rfl, hu, hsn⟩, hbB⟩
        obtain ⟨rfl, rfl⟩ := agree1 (R := (fun d L => mkR d L false)) HOK.out HPL.out HCH2.out hsn
        obtain ⟨fv, rfl, hfv⟩ := hu
        obtain ⟨fw, cw, rfl, _, _⟩ := id hfv.at
        have HFW : Hid (OwnFiles wB WA.heap.size (.slice fw dd2.files.length cw) dd2.files) := hfv
        have HBB : Hid (Below WA.heap.size WA wB) := hbB
        obtain ⟨q0, q1, q2, q3, q4, qf⟩ := five ((hbB.block _ (by have := HJA.out.size; omega)).trans HJA.out.wnt)
        clear hfv hsn hbB HCR hW2A
        go_wp2_with fail
        go_meet
        exact ⟨rfl, rfl, rfl, er2, dd2, fx, cx, fw, cw, rfl, rfl, HJA.out.good HBB.out HFW.out HSA.out⟩
    · -- kind 1
      have HGK : Hid (good = true ↔ (VolOk d ∧ (pathN p).isSome = true)) := by show _ ↔ _; rw [HGG.out]; simp
      have HGD : Hid (good = true ↔ (VolOk d ∧ (pathN p).isSome = true)) := HGK.out
      have HCP : Hid (Calls Tryz.prog 19 #[.agg #[.int .i64 d.id, .int .i64 d.fr, .bool d.snap, .slice fa d.files.length fc, .int .i64 d.next], .string p] W9 fun e w' => (∃ u er dd, e = .returned (.tuple #[u, .int .i64 er]) ∧ OwnVol w' W9.heap.size u dd ∧ ChangeR (MakeG d p true) d [p] er dd) ∧ Below W9.heap.size W9 w') := dir_any _ d p W9 (HINV.out _ HB9.out) HS.out
      clear HGK
      go_wp2_with fail
      refine HCP.out.mono ?_
      rintro e wA ⟨⟨u, er, dd, rfl, hu, hch⟩, hbA⟩
      have HCH : Hid (ChangeR (MakeG d p true) d [p] er dd) := hch
      obtain ⟨fv, rfl, hfv⟩ := hu
      obtain ⟨fx, cx, rfl, _, _⟩ := id hfv.at
      have HFV : Hid (OwnFiles wA W9.heap.size (.slice fx dd.files.length cx) dd.files) := hfv
      have HBA : Hid (Below W9.heap.size W9 wA) := hbA
      obtain ⟨q0, q1, q2, q3, q4, qf⟩ := five ((hbA.block _ HX9.out.2).trans HX9.out.1)
      clear hfv hch HCP HX9
      cases hgd : good
      case false =>
        have hbad := change_bad HCH.out (fun h => by have := HGD.out.2 ⟨h.1, pathsOk_one.1 h.2⟩; rw [hgd] at this; cases this)
        have HSD : Hid (er = 1 ∧ SmallV dd ∧ dd = Go.Proofs.YtdpighcaieajjabGreat.v0) := ⟨hbad.1, by rw [hbad.2]; exact small_v0, hbad.2⟩
        clear hbad hgd hbA
        go_wp2_with fail
        go_meet
        exact ⟨rfl, rfl, rfl, er, dd, fx, cx, none, 0, by rw [HSD.out.1], rfl, (stepA H9.out HBA.out HFV.out HSD.out.2.1).bad HSD.out.2.2⟩
      case true =>
        obtain ⟨hok, hpL⟩ := HGD.out.1 hgd
        have HOK : Hid (VolOk d) := hok
        obtain ⟨L, hL⟩ := Option.isSome_iff_exists.1 hpL
        have HPL : Hid (pathN p = some L) := hL
        obtain ⟨hLn, hLs0, hLc, hL5⟩ := HP.out.of hL
        subst hLn
        have HCH2 : Hid (ChangeR (UG (fun d L => mkR d L true) d p) d [p] er dd) := HCH.out.imp fun _ _ h => UG.of_make h
        have HSA : Hid (SmallV dd) := by
          rcases HCH2.out with ⟨_, _, _, L', _, hr⟩ | ⟨_, _, _, _, hr⟩ | ⟨_, _, hr⟩
          · have h2 := small_mkR HOK.out HS.out L' true
            have h3 : dd = (mkR d L' true).2 := congrArg (·.2) hr
            rw [h3]; exact h2
          · rw [hr]; exact small_v0
          · rw [hr]; exact small_v0
        have HJA : Hid (StepA w5 dd fx cx wA.heap.size (((((wA.setCell ⟨w5.heap.size, 0, none⟩ (.int .i64 dd.id)).setCell ⟨w5.heap.size, 1, none⟩ (.int .i64 dd.fr)).setCell ⟨w5.heap.size, 2, none⟩ (.bool dd.snap)).setCell ⟨w5.heap.size, 3, none⟩ (.slice fx dd.files.length cx)).setCell ⟨w5.heap.size, 4, none⟩ (.int .i64 dd.next))) := stepA H9.out HBA.out HFV.out HSA.out
        have HL : Hid (StrsAt w5 pa L) := hLs0
        skip
        clear hok hpL hL hLs0 hgd hbA HFV HBA
        have hW2A := HJA.out.below
        obtain ⟨x0, x1, x2, x3, x4, _⟩ := five (HBX5.out _ hW2A).v
        go_wp2_with fail
        generalize (((((wA.setCell ⟨w5.heap.size, 0, none⟩ (.int .i64 dd.id)).setCell ⟨w5.heap.size, 1, none⟩ (.int .i64 dd.fr)).setCell ⟨w5.heap.size, 2, none⟩ (.bool dd.snap)).setCell ⟨w5.heap.size, 3, none⟩ (.slice fx dd.files.length cx)).setCell ⟨w5.heap.size, 4, none⟩ (.int .i64 dd.next)) = WA at HJA hW2A ⊢
        have hLs : StrsAt WA pa L := HL.out.below hW2A
        skip
        have HCR : Hid (Calls Tryz.prog 18 #[.agg #[.int .i64 d.id, .int .i64 d.fr, .bool d.snap, .slice av d.files.length ca, .int .i64 d.next], .slice pa L.length pc, .bool true] WA (RPost d (mkR d L true) WA)) := rmake_any _ d pa L pc true WA (HVOL.out _ hW2A) HS.out HOK.out hLs hLc hL5
        clear hLs x0 x1 x2 x3 x4
        refine HCR.out.mono ?_
        rintro e wB ⟨⟨u, er2, dd2, rfl, hu, hsn⟩, hbB⟩
        obtain ⟨rfl, rfl⟩ := agree1 (R := (fun d L => mkR d L true)) HOK.out HPL.out HCH2.out hsn
        obtain ⟨fv, rfl, hfv⟩ := hu
        obtain ⟨fw, cw, rfl, _, _⟩ := id hfv.at
        have HFW : Hid (OwnFiles wB WA.heap.size (.slice fw dd2.files.length cw) dd2.files) := hfv
        have HBB : Hid (Below WA.heap.size WA wB) := hbB
        obtain ⟨q0, q1, q2, q3, q4, qf⟩ := five ((hbB.block _ (by have := HJA.out.size; omega)).trans HJA.out.wnt)
        clear hfv hsn hbB HCR hW2A
        go_wp2_with fail
        go_meet
        exact ⟨rfl, rfl, rfl, er2, dd2, fx, cx, fw, cw, rfl, rfl, HJA.out.good HBB.out HFW.out HSA.out⟩
    · -- kind 2
      have HGK : Hid (good = true ↔ (VolOk d ∧ (pathN p).isSome = true ∧ (pathN q).isSome = true)) := by show _ ↔ _; rw [HGG.out]; simp
      have HGD : Hid (good = true ↔ (VolOk d ∧ (pathN p).isSome = true ∧ (pathN q).isSome = true)) := HGK.out
      have HCP : Hid (Calls Tryz.prog 20 #[.agg #[.int .i64 d.id, .int .i64 d.fr, .bool d.snap, .slice fa d.files.length fc, .int .i64 d.next], .string p, .string q] W9 fun e w' => (∃ u er dd, e = .returned (.tuple #[u, .int .i64 er]) ∧ OwnVol w' W9.heap.size u dd ∧ ChangeR (U2G linkR d p q) d [p, q] er dd) ∧ Below W9.heap.size W9 w') := tlink_any _ d p q W9 (HINV.out _ HB9.out) HS.out
      clear HGK
      go_wp2_with fail
      refine HCP.out.mono ?_
      rintro e wA ⟨⟨u, er, dd, rfl, hu, hch⟩, hbA⟩
      have HCH : Hid (ChangeR (U2G linkR d p q) d [p, q] er dd) := hch
      obtain ⟨fv, rfl, hfv⟩ := hu
      obtain ⟨fx, cx, rfl, _, _⟩ := id hfv.at
      have HFV : Hid (OwnFiles wA W9.heap.size (.slice fx dd.files.length cx) dd.files) := hfv
      have HBA : Hid (Below W9.heap.size W9 wA) := hbA
      obtain ⟨q0, q1, q2, q3, q4, qf⟩ := five ((hbA.block _ HX9.out.2).trans HX9.out.1)
      clear hfv hch HCP HX9
      cases hgd : good
      case false =>
        have hbad := change_bad HCH.out (fun h => by have := HGD.out.2 ⟨h.1, pathsOk_two.1 h.2⟩; rw [hgd] at this; cases this)
        have HSD : Hid (er = 1 ∧ SmallV dd ∧ dd = Go.Proofs.YtdpighcaieajjabGreat.v0) := ⟨hbad.1, by rw [hbad.2]; exact small_v0, hbad.2⟩
        clear hbad hgd hbA
        go_wp2_with fail
        go_meet
        exact ⟨rfl, rfl, rfl, er, dd, fx, cx, none, 0, by rw [HSD.out.1], rfl, (stepA H9.out HBA.out HFV.out HSD.out.2.1).bad HSD.out.2.2⟩
      case true =>
        obtain ⟨hok, hpL, hqM⟩ := HGD.out.1 hgd
        have HOK : Hid (VolOk d) := hok
        obtain ⟨L, hL⟩ := Option.isSome_iff_exists.1 hpL
        have HPL : Hid (pathN p = some L) := hL
        obtain ⟨hLn, hLs0, hLc, hL5⟩ := HP.out.of hL
        subst hLn
        obtain ⟨M, hM⟩ := Option.isSome_iff_exists.1 hqM
        have HQM : Hid (pathN q = some M) := hM
        obtain ⟨hMn, hMs0, hMc, hM5⟩ := HQ.out.of hM
        subst hMn
        have HCH2 : Hid (ChangeR (U2G linkR d p q) d [p, q] er dd) := HCH.out
        have HSA : Hid (SmallV dd) := by
          rcases HCH2.out with ⟨_, _, _, L', M', _, _, hr⟩ | ⟨_, _, _, _, hr⟩ | ⟨_, _, hr⟩
          · have h2 := small_linkR HOK.out HS.out L' M'
            have h3 : dd = (linkR d L' M').2 := congrArg (·.2) hr
            rw [h3]; exact h2
          · rw [hr]; exact small_v0
          · rw [hr]; exact small_v0
        have HJA : Hid (StepA w5 dd fx cx wA.heap.size (((((wA.setCell ⟨w5.heap.size, 0, none⟩ (.int .i64 dd.id)).setCell ⟨w5.heap.size, 1, none⟩ (.int .i64 dd.fr)).setCell ⟨w5.heap.size, 2, none⟩ (.bool dd.snap)).setCell ⟨w5.heap.size, 3, none⟩ (.slice fx dd.files.length cx)).setCell ⟨w5.heap.size, 4, none⟩ (.int .i64 dd.next))) := stepA H9.out HBA.out HFV.out HSA.out
        have HL : Hid (StrsAt w5 pa L) := hLs0
        have HM : Hid (StrsAt w5 qa M) := hMs0
        clear hok hpL hL hLs0 hgd hbA HFV HBA hqM hM hMs0
        have hW2A := HJA.out.below
        obtain ⟨x0, x1, x2, x3, x4, _⟩ := five (HBX5.out _ hW2A).v
        go_wp2_with fail
        generalize (((((wA.setCell ⟨w5.heap.size, 0, none⟩ (.int .i64 dd.id)).setCell ⟨w5.heap.size, 1, none⟩ (.int .i64 dd.fr)).setCell ⟨w5.heap.size, 2, none⟩ (.bool dd.snap)).setCell ⟨w5.heap.size, 3, none⟩ (.slice fx dd.files.length cx)).setCell ⟨w5.heap.size, 4, none⟩ (.int .i64 dd.next)) = WA at HJA hW2A ⊢
        have hLs : StrsAt WA pa L := HL.out.below hW2A
        have hMs : StrsAt WA qa M := HM.out.below hW2A
        have HCR : Hid (Calls Tryz.prog 21 #[.agg #[.int .i64 d.id, .int .i64 d.fr, .bool d.snap, .slice av d.files.length ca, .int .i64 d.next], .slice pa L.length pc, .slice qa M.length qc] WA (RPost d (linkR d L M) WA)) := rlink_any _ d pa L pc qa M qc WA (HVOL.out _ hW2A) HS.out HOK.out hLs hMs hMc hL5 hM5
        clear hLs hMs x0 x1 x2 x3 x4
        refine HCR.out.mono ?_
        rintro e wB ⟨⟨u, er2, dd2, rfl, hu, hsn⟩, hbB⟩
        obtain ⟨rfl, rfl⟩ := agree2 (R := linkR) HOK.out HPL.out HQM.out HCH2.out hsn
        obtain ⟨fv, rfl, hfv⟩ := hu
        obtain ⟨fw, cw, rfl, _, _⟩ := id hfv.at
        have HFW : Hid (OwnFiles wB WA.heap.size (.slice fw dd2.files.length cw) dd2.files) := hfv
        have HBB : Hid (Below WA.heap.size WA wB) := hbB
        obtain ⟨q0, q1, q2, q3, q4, qf⟩ := five ((hbB.block _ (by have := HJA.out.size; omega)).trans HJA.out.wnt)
        clear hfv hsn hbB HCR hW2A
        go_wp2_with fail
        go_meet
        exact ⟨rfl, rfl, rfl, er2, dd2, fx, cx, fw, cw, rfl, rfl, HJA.out.good HBB.out HFW.out HSA.out⟩
    · -- kind 3
      have HGK : Hid (good = true ↔ (VolOk d ∧ (pathN p).isSome = true)) := by show _ ↔ _; rw [HGG.out]; simp
      have HGD : Hid (good = true ↔ (VolOk d ∧ (pathN p).isSome = true)) := HGK.out
      have HCP : Hid (Calls Tryz.prog 22 #[.agg #[.int .i64 d.id, .int .i64 d.fr, .bool d.snap, .slice fa d.files.length fc, .int .i64 d.next], .string p] W9 fun e w' => (∃ u er dd, e = .returned (.tuple #[u, .int .i64 er]) ∧ OwnVol w' W9.heap.size u dd ∧ ChangeR (UG unlR d p) d [p] er dd) ∧ Below W9.heap.size W9 w') := tunlink_any _ d p W9 (HINV.out _ HB9.out) HS.out
      clear HGK
      go_wp2_with fail
      refine HCP.out.mono ?_
      rintro e wA ⟨⟨u, er, dd, rfl, hu, hch⟩, hbA⟩
      have HCH : Hid (ChangeR (UG unlR d p) d [p] er dd) := hch
      obtain ⟨fv, rfl, hfv⟩ := hu
      obtain ⟨fx, cx, rfl, _, _⟩ := id hfv.at
      have HFV : Hid (OwnFiles wA W9.heap.size (.slice fx dd.files.length cx) dd.files) := hfv
      have HBA : Hid (Below W9.heap.size W9 wA) := hbA
      obtain ⟨q0, q1, q2, q3, q4, qf⟩ := five ((hbA.block _ HX9.out.2).trans HX9.out.1)
      clear hfv hch HCP HX9
      cases hgd : good
      case false =>
        have hbad := change_bad HCH.out (fun h => by have := HGD.out.2 ⟨h.1, pathsOk_one.1 h.2⟩; rw [hgd] at this; cases this)
        have HSD : Hid (er = 1 ∧ SmallV dd ∧ dd = Go.Proofs.YtdpighcaieajjabGreat.v0) := ⟨hbad.1, by rw [hbad.2]; exact small_v0, hbad.2⟩
        clear hbad hgd hbA
        go_wp2_with fail
        go_meet
        exact ⟨rfl, rfl, rfl, er, dd, fx, cx, none, 0, by rw [HSD.out.1], rfl, (stepA H9.out HBA.out HFV.out HSD.out.2.1).bad HSD.out.2.2⟩
      case true =>
        obtain ⟨hok, hpL⟩ := HGD.out.1 hgd
        have HOK : Hid (VolOk d) := hok
        obtain ⟨L, hL⟩ := Option.isSome_iff_exists.1 hpL
        have HPL : Hid (pathN p = some L) := hL
        obtain ⟨hLn, hLs0, hLc, hL5⟩ := HP.out.of hL
        subst hLn
        have HCH2 : Hid (ChangeR (UG unlR d p) d [p] er dd) := HCH.out
        have HSA : Hid (SmallV dd) := by
          rcases HCH2.out with ⟨_, _, _, L', _, hr⟩ | ⟨_, _, _, _, hr⟩ | ⟨_, _, hr⟩
          · have h2 := small_unlR HOK.out HS.out L'
            have h3 : dd = (unlR d L').2 := congrArg (·.2) hr
            rw [h3]; exact h2
          · rw [hr]; exact small_v0
          · rw [hr]; exact small_v0
        have HJA : Hid (StepA w5 dd fx cx wA.heap.size (((((wA.setCell ⟨w5.heap.size, 0, none⟩ (.int .i64 dd.id)).setCell ⟨w5.heap.size, 1, none⟩ (.int .i64 dd.fr)).setCell ⟨w5.heap.size, 2, none⟩ (.bool dd.snap)).setCell ⟨w5.heap.size, 3, none⟩ (.slice fx dd.files.length cx)).setCell ⟨w5.heap.size, 4, none⟩ (.int .i64 dd.next))) := stepA H9.out HBA.out HFV.out HSA.out
        have HL : Hid (StrsAt w5 pa L) := hLs0
        skip
        clear hok hpL hL hLs0 hgd hbA HFV HBA
        have hW2A := HJA.out.below
        obtain ⟨x0, x1, x2, x3, x4, _⟩ := five (HBX5.out _ hW2A).v
        go_wp2_with fail
        generalize (((((wA.setCell ⟨w5.heap.size, 0, none⟩ (.int .i64 dd.id)).setCell ⟨w5.heap.size, 1, none⟩ (.int .i64 dd.fr)).setCell ⟨w5.heap.size, 2, none⟩ (.bool dd.snap)).setCell ⟨w5.heap.size, 3, none⟩ (.slice fx dd.files.length cx)).setCell ⟨w5.heap.size, 4, none⟩ (.int .i64 dd.next)) = WA at HJA hW2A ⊢
        have hLs : StrsAt WA pa L := HL.out.below hW2A
        skip
        have HCR : Hid (Calls Tryz.prog 23 #[.agg #[.int .i64 d.id, .int .i64 d.fr, .bool d.snap, .slice av d.files.length ca, .int .i64 d.next], .slice pa L.length pc] WA (RPost d (unlR d L) WA)) := runlink_any _ d pa L pc WA (HVOL.out _ hW2A) HS.out HOK.out hLs hLc hL5
        clear hLs x0 x1 x2 x3 x4
        refine HCR.out.mono ?_
        rintro e wB ⟨⟨u, er2, dd2, rfl, hu, hsn⟩, hbB⟩
        obtain ⟨rfl, rfl⟩ := agree1 (R := unlR) HOK.out HPL.out HCH2.out hsn
        obtain ⟨fv, rfl, hfv⟩ := hu
        obtain ⟨fw, cw, rfl, _, _⟩ := id hfv.at
        have HFW : Hid (OwnFiles wB WA.heap.size (.slice fw dd2.files.length cw) dd2.files) := hfv
        have HBB : Hid (Below WA.heap.size WA wB) := hbB
        obtain ⟨q0, q1, q2, q3, q4, qf⟩ := five ((hbB.block _ (by have := HJA.out.size; omega)).trans HJA.out.wnt)
        clear hfv hsn hbB HCR hW2A
        go_wp2_with fail
        go_meet
        exact ⟨rfl, rfl, rfl, er2, dd2, fx, cx, fw, cw, rfl, rfl, HJA.out.good HBB.out HFW.out HSA.out⟩
    · -- kind 4
      have HGK : Hid (good = true ↔ (VolOk d ∧ (pathN p).isSome = true)) := by show _ ↔ _; rw [HGG.out]; simp
      have HGD : Hid (good = true ↔ (VolOk d ∧ (pathN p).isSome = true)) := HGK.out
      have HCP : Hid (Calls Tryz.prog 24 #[.agg #[.int .i64 d.id, .int .i64 d.fr, .bool d.snap, .slice fa d.files.length fc, .int .i64 d.next], .string p] W9 fun e w' => (∃ u er dd, e = .returned (.tuple #[u, .int .i64 er]) ∧ OwnVol w' W9.heap.size u dd ∧ ChangeR (UG rmdR d p) d [p] er dd) ∧ Below W9.heap.size W9 w') := trmdir_any _ d p W9 (HINV.out _ HB9.out) HS.out
      clear HGK
      go_wp2_with fail
      refine HCP.out.mono ?_
      rintro e wA ⟨⟨u, er, dd, rfl, hu, hch⟩, hbA⟩
      have HCH : Hid (ChangeR (UG rmdR d p) d [p] er dd) := hch
      obtain ⟨fv, rfl, hfv⟩ := hu
      obtain ⟨fx, cx, rfl, _, _⟩ := id hfv.at
      have HFV : Hid (OwnFiles wA W9.heap.size (.slice fx dd.files.length cx) dd.files) := hfv
      have HBA : Hid (Below W9.heap.size W9 wA) := hbA
      obtain ⟨q0, q1, q2, q3, q4, qf⟩ := five ((hbA.block _ HX9.out.2).trans HX9.out.1)
      clear hfv hch HCP HX9
      cases hgd : good
      case false =>
        have hbad := change_bad HCH.out (fun h => by have := HGD.out.2 ⟨h.1, pathsOk_one.1 h.2⟩; rw [hgd] at this; cases this)
        have HSD : Hid (er = 1 ∧ SmallV dd ∧ dd = Go.Proofs.YtdpighcaieajjabGreat.v0) := ⟨hbad.1, by rw [hbad.2]; exact small_v0, hbad.2⟩
        clear hbad hgd hbA
        go_wp2_with fail
        go_meet
        exact ⟨rfl, rfl, rfl, er, dd, fx, cx, none, 0, by rw [HSD.out.1], rfl, (stepA H9.out HBA.out HFV.out HSD.out.2.1).bad HSD.out.2.2⟩
      case true =>
        obtain ⟨hok, hpL⟩ := HGD.out.1 hgd
        have HOK : Hid (VolOk d) := hok
        obtain ⟨L, hL⟩ := Option.isSome_iff_exists.1 hpL
        have HPL : Hid (pathN p = some L) := hL
        obtain ⟨hLn, hLs0, hLc, hL5⟩ := HP.out.of hL
        subst hLn
        have HCH2 : Hid (ChangeR (UG rmdR d p) d [p] er dd) := HCH.out
        have HSA : Hid (SmallV dd) := by
          rcases HCH2.out with ⟨_, _, _, L', _, hr⟩ | ⟨_, _, _, _, hr⟩ | ⟨_, _, hr⟩
          · have h2 := small_rmdR HOK.out HS.out L'
            have h3 : dd = (rmdR d L').2 := congrArg (·.2) hr
            rw [h3]; exact h2
          · rw [hr]; exact small_v0
          · rw [hr]; exact small_v0
        have HJA : Hid (StepA w5 dd fx cx wA.heap.size (((((wA.setCell ⟨w5.heap.size, 0, none⟩ (.int .i64 dd.id)).setCell ⟨w5.heap.size, 1, none⟩ (.int .i64 dd.fr)).setCell ⟨w5.heap.size, 2, none⟩ (.bool dd.snap)).setCell ⟨w5.heap.size, 3, none⟩ (.slice fx dd.files.length cx)).setCell ⟨w5.heap.size, 4, none⟩ (.int .i64 dd.next))) := stepA H9.out HBA.out HFV.out HSA.out
        have HL : Hid (StrsAt w5 pa L) := hLs0
        skip
        clear hok hpL hL hLs0 hgd hbA HFV HBA
        have hW2A := HJA.out.below
        obtain ⟨x0, x1, x2, x3, x4, _⟩ := five (HBX5.out _ hW2A).v
        go_wp2_with fail
        generalize (((((wA.setCell ⟨w5.heap.size, 0, none⟩ (.int .i64 dd.id)).setCell ⟨w5.heap.size, 1, none⟩ (.int .i64 dd.fr)).setCell ⟨w5.heap.size, 2, none⟩ (.bool dd.snap)).setCell ⟨w5.heap.size, 3, none⟩ (.slice fx dd.files.length cx)).setCell ⟨w5.heap.size, 4, none⟩ (.int .i64 dd.next)) = WA at HJA hW2A ⊢
        have hLs : StrsAt WA pa L := HL.out.below hW2A
        skip
        have HCR : Hid (Calls Tryz.prog 25 #[.agg #[.int .i64 d.id, .int .i64 d.fr, .bool d.snap, .slice av d.files.length ca, .int .i64 d.next], .slice pa L.length pc] WA (RPost d (rmdR d L) WA)) := rrmdir_any _ d pa L pc WA (HVOL.out _ hW2A) HS.out HOK.out hLs hLc hL5
        clear hLs x0 x1 x2 x3 x4
        refine HCR.out.mono ?_
        rintro e wB ⟨⟨u, er2, dd2, rfl, hu, hsn⟩, hbB⟩
        obtain ⟨rfl, rfl⟩ := agree1 (R := rmdR) HOK.out HPL.out HCH2.out hsn
        obtain ⟨fv, rfl, hfv⟩ := hu
        obtain ⟨fw, cw, rfl, _, _⟩ := id hfv.at
        have HFW : Hid (OwnFiles wB WA.heap.size (.slice fw dd2.files.length cw) dd2.files) := hfv
        have HBB : Hid (Below WA.heap.size WA wB) := hbB
        obtain ⟨q0, q1, q2, q3, q4, qf⟩ := five ((hbB.block _ (by have := HJA.out.size; omega)).trans HJA.out.wnt)
        clear hfv hsn hbB HCR hW2A
        go_wp2_with fail
        go_meet
        exact ⟨rfl, rfl, rfl, er2, dd2, fx, cx, fw, cw, rfl, rfl, HJA.out.good HBB.out HFW.out HSA.out⟩
    · -- kind 5
      have HGK : Hid (good = true ↔ (VolOk d ∧ (pathN p).isSome = true ∧ (pathN q).isSome = true)) := by show _ ↔ _; rw [HGG.out]; simp
      have HGD : Hid (good = true ↔ (VolOk d ∧ (pathN p).isSome = true ∧ (pathN q).isSome = true)) := HGK.out
      have HCP : Hid (Calls Tryz.prog 26 #[.agg #[.int .i64 d.id, .int .i64 d.fr, .bool d.snap, .slice fa d.files.length fc, .int .i64 d.next], .string p, .string q] W9 fun e w' => (∃ u er dd, e = .returned (.tuple #[u, .int .i64 er]) ∧ OwnVol w' W9.heap.size u dd ∧ ChangeR (U2G renR d p q) d [p, q] er dd) ∧ Below W9.heap.size W9 w') := trename_any _ d p q W9 (HINV.out _ HB9.out) HS.out
      clear HGK
      go_wp2_with fail
      refine HCP.out.mono ?_
      rintro e wA ⟨⟨u, er, dd, rfl, hu, hch⟩, hbA⟩
      have HCH : Hid (ChangeR (U2G renR d p q) d [p, q] er dd) := hch
      obtain ⟨fv, rfl, hfv⟩ := hu
      obtain ⟨fx, cx, rfl, _, _⟩ := id hfv.at
      have HFV : Hid (OwnFiles wA W9.heap.size (.slice fx dd.files.length cx) dd.files) := hfv
      have HBA : Hid (Below W9.heap.size W9 wA) := hbA
      obtain ⟨q0, q1, q2, q3, q4, qf⟩ := five ((hbA.block _ HX9.out.2).trans HX9.out.1)
      clear hfv hch HCP HX9
      cases hgd : good
      case false =>
        have hbad := change_bad HCH.out (fun h => by have := HGD.out.2 ⟨h.1, pathsOk_two.1 h.2⟩; rw [hgd] at this; cases this)
        have HSD : Hid (er = 1 ∧ SmallV dd ∧ dd = Go.Proofs.YtdpighcaieajjabGreat.v0) := ⟨hbad.1, by rw [hbad.2]; exact small_v0, hbad.2⟩
        clear hbad hgd hbA
        go_wp2_with fail
        go_meet
        exact ⟨rfl, rfl, rfl, er, dd, fx, cx, none, 0, by rw [HSD.out.1], rfl, (stepA H9.out HBA.out HFV.out HSD.out.2.1).bad HSD.out.2.2⟩
      case true =>
        obtain ⟨hok, hpL, hqM⟩ := HGD.out.1 hgd
        have HOK : Hid (VolOk d) := hok
        obtain ⟨L, hL⟩ := Option.isSome_iff_exists.1 hpL
        have HPL : Hid (pathN p = some L) := hL
        obtain ⟨hLn, hLs0, hLc, hL5⟩ := HP.out.of hL
        subst hLn
        obtain ⟨M, hM⟩ := Option.isSome_iff_exists.1 hqM
        have HQM : Hid (pathN q = some M) := hM
        obtain ⟨hMn, hMs0, hMc, hM5⟩ := HQ.out.of hM
        subst hMn
        have HCH2 : Hid (ChangeR (U2G renR d p q) d [p, q] er dd) := HCH.out
        have HSA : Hid (SmallV dd) := by
          rcases HCH2.out with ⟨_, _, _, L', M', _, _, hr⟩ | ⟨_, _, _, _, hr⟩ | ⟨_, _, hr⟩
          · have h2 := small_renR HOK.out HS.out L' M'
            have h3 : dd = (renR d L' M').2 := congrArg (·.2) hr
            rw [h3]; exact h2
          · rw [hr]; exact small_v0
          · rw [hr]; exact small_v0
        have HJA : Hid (StepA w5 dd fx cx wA.heap.size (((((wA.setCell ⟨w5.heap.size, 0, none⟩ (.int .i64 dd.id)).setCell ⟨w5.heap.size, 1, none⟩ (.int .i64 dd.fr)).setCell ⟨w5.heap.size, 2, none⟩ (.bool dd.snap)).setCell ⟨w5.heap.size, 3, none⟩ (.slice fx dd.files.length cx)).setCell ⟨w5.heap.size, 4, none⟩ (.int .i64 dd.next))) := stepA H9.out HBA.out HFV.out HSA.out
        have HL : Hid (StrsAt w5 pa L) := hLs0
        have HM : Hid (StrsAt w5 qa M) := hMs0
        clear hok hpL hL hLs0 hgd hbA HFV HBA hqM hM hMs0
        have hW2A := HJA.out.below
        obtain ⟨x0, x1, x2, x3, x4, _⟩ := five (HBX5.out _ hW2A).v
        go_wp2_with fail
        generalize (((((wA.setCell ⟨w5.heap.size, 0, none⟩ (.int .i64 dd.id)).setCell ⟨w5.heap.size, 1, none⟩ (.int .i64 dd.fr)).setCell ⟨w5.heap.size, 2, none⟩ (.bool dd.snap)).setCell ⟨w5.heap.size, 3, none⟩ (.slice fx dd.files.length cx)).setCell ⟨w5.heap.size, 4, none⟩ (.int .i64 dd.next)) = WA at HJA hW2A ⊢
        have hLs : StrsAt WA pa L := HL.out.below hW2A
        have hMs : StrsAt WA qa M := HM.out.below hW2A
        have HCR : Hid (Calls Tryz.prog 27 #[.agg #[.int .i64 d.id, .int .i64 d.fr, .bool d.snap, .slice av d.files.length ca, .int .i64 d.next], .slice pa L.length pc, .slice qa M.length qc] WA (RPost d (renR d L M) WA)) := rren_any _ d pa L pc qa M qc WA (HVOL.out _ hW2A) HS.out HOK.out hLs hMs hLc hMc hL5 hM5
        clear hLs hMs x0 x1 x2 x3 x4
        refine HCR.out.mono ?_
        rintro e wB ⟨⟨u, er2, dd2, rfl, hu, hsn⟩, hbB⟩
        obtain ⟨rfl, rfl⟩ := agree2 (R := renR) HOK.out HPL.out HQM.out HCH2.out hsn
        obtain ⟨fv, rfl, hfv⟩ := hu
        obtain ⟨fw, cw, rfl, _, _⟩ := id hfv.at
        have HFW : Hid (OwnFiles wB WA.heap.size (.slice fw dd2.files.length cw) dd2.files) := hfv
        have HBB : Hid (Below WA.heap.size WA wB) := hbB
        obtain ⟨q0, q1, q2, q3, q4, qf⟩ := five ((hbB.block _ (by have := HJA.out.size; omega)).trans HJA.out.wnt)
        clear hfv hsn hbB HCR hW2A
        go_wp2_with fail
        go_meet
        exact ⟨rfl, rfl, rfl, er2, dd2, fx, cx, fw, cw, rfl, rfl, HJA.out.good HBB.out HFW.out HSA.out⟩
    · -- kind 6
      have HGK : Hid (good = true ↔ (VolOk d ∧ (pathN p).isSome = true ∧ (pathN q).isSome = true)) := by show _ ↔ _; rw [HGG.out]; simp
      have HGD : Hid (good = true ↔ (VolOk d ∧ (pathN p).isSome = true ∧ (pathN q).isSome = true)) := HGK.out
      have HCP : Hid (Calls Tryz.prog 26 #[.agg #[.int .i64 d.id, .int .i64 d.fr, .bool d.snap, .slice fa d.files.length fc, .int .i64 d.next], .string p, .string q] W9 fun e w' => (∃ u er dd, e = .returned (.tuple #[u, .int .i64 er]) ∧ OwnVol w' W9.heap.size u dd ∧ ChangeR (U2G renR d p q) d [p, q] er dd) ∧ Below W9.heap.size W9 w') := trename_any _ d p q W9 (HINV.out _ HB9.out) HS.out
      clear HGK
      go_wp2_with fail
      refine HCP.out.mono ?_
      rintro e wA ⟨⟨u, er, dd, rfl, hu, hch⟩, hbA⟩
      have HCH : Hid (ChangeR (U2G renR d p q) d [p, q] er dd) := hch
      obtain ⟨fv, rfl, hfv⟩ := hu
      obtain ⟨fx, cx, rfl, _, _⟩ := id hfv.at
      have HFV : Hid (OwnFiles wA W9.heap.size (.slice fx dd.files.length cx) dd.files) := hfv
      have HBA : Hid (Below W9.heap.size W9 wA) := hbA
      obtain ⟨q0, q1, q2, q3, q4, qf⟩ := five ((hbA.block _ HX9.out.2).trans HX9.out.1)
      clear hfv hch HCP HX9
      cases hgd : good
      case false =>
        have hbad := change_bad HCH.out (fun h => by have := HGD.out.2 ⟨h.1, pathsOk_two.1 h.2⟩; rw [hgd] at this; cases this)
        have HSD : Hid (er = 1 ∧ SmallV dd ∧ dd = Go.Proofs.YtdpighcaieajjabGreat.v0) := ⟨hbad.1, by rw [hbad.2]; exact small_v0, hbad.2⟩
        clear hbad hgd hbA
        go_wp2_with fail
        go_meet
        exact ⟨rfl, rfl, rfl, er, dd, fx, cx, none, 0, by rw [HSD.out.1], rfl, (stepA H9.out HBA.out HFV.out HSD.out.2.1).bad HSD.out.2.2⟩
      case true =>
        obtain ⟨hok, hpL, hqM⟩ := HGD.out.1 hgd
        have HOK : Hid (VolOk d) := hok
        obtain ⟨L, hL⟩ := Option.isSome_iff_exists.1 hpL
        have HPL : Hid (pathN p = some L) := hL
        obtain ⟨hLn, hLs0, hLc, hL5⟩ := HP.out.of hL
        subst hLn
        obtain ⟨M, hM⟩ := Option.isSome_iff_exists.1 hqM
        have HQM : Hid (pathN q = some M) := hM
        obtain ⟨hMn, hMs0, hMc, hM5⟩ := HQ.out.of hM
        subst hMn
        have HCH2 : Hid (ChangeR (U2G renR d p q) d [p, q] er dd) := HCH.out
        have HSA : Hid (SmallV dd) := by
          rcases HCH2.out with ⟨_, _, _, L', M', _, _, hr⟩ | ⟨_, _, _, _, hr⟩ | ⟨_, _, hr⟩
          · have h2 := small_renR HOK.out HS.out L' M'
            have h3 : dd = (renR d L' M').2 := congrArg (·.2) hr
            rw [h3]; exact h2
          · rw [hr]; exact small_v0
          · rw [hr]; exact small_v0
        have HJA : Hid (StepA w5 dd fx cx wA.heap.size (((((wA.setCell ⟨w5.heap.size, 0, none⟩ (.int .i64 dd.id)).setCell ⟨w5.heap.size, 1, none⟩ (.int .i64 dd.fr)).setCell ⟨w5.heap.size, 2, none⟩ (.bool dd.snap)).setCell ⟨w5.heap.size, 3, none⟩ (.slice fx dd.files.length cx)).setCell ⟨w5.heap.size, 4, none⟩ (.int .i64 dd.next))) := stepA H9.out HBA.out HFV.out HSA.out
        have HL : Hid (StrsAt w5 pa L) := hLs0
        have HM : Hid (StrsAt w5 qa M) := hMs0
        clear hok hpL hL hLs0 hgd hbA HFV HBA hqM hM hMs0
        have hW2A := HJA.out.below
        obtain ⟨x0, x1, x2, x3, x4, _⟩ := five (HBX5.out _ hW2A).v
        go_wp2_with fail
        generalize (((((wA.setCell ⟨w5.heap.size, 0, none⟩ (.int .i64 dd.id)).setCell ⟨w5.heap.size, 1, none⟩ (.int .i64 dd.fr)).setCell ⟨w5.heap.size, 2, none⟩ (.bool dd.snap)).setCell ⟨w5.heap.size, 3, none⟩ (.slice fx dd.files.length cx)).setCell ⟨w5.heap.size, 4, none⟩ (.int .i64 dd.next)) = WA at HJA hW2A ⊢
        have hLs : StrsAt WA pa L := HL.out.below hW2A
        have hMs : StrsAt WA qa M := HM.out.below hW2A
        have HCR : Hid (Calls Tryz.prog 27 #[.agg #[.int .i64 d.id, .int .i64 d.fr, .bool d.snap, .slice av d.files.length ca, .int .i64 d.next], .slice pa L.length pc, .slice qa M.length qc] WA (RPost d (renR d L M) WA)) := rren_any _ d pa L pc qa M qc WA (HVOL.out _ hW2A) HS.out HOK.out hLs hMs hLc hMc hL5 hM5
        clear hLs hMs x0 x1 x2 x3 x4
        refine HCR.out.mono ?_
        rintro e wB ⟨⟨u, er2, dd2, rfl, hu, hsn⟩, hbB⟩
        obtain ⟨rfl, rfl⟩ := agree2 (R := renR) HOK.out HPL.out HQM.out HCH2.out hsn
        obtain ⟨fv, rfl, hfv⟩ := hu
        obtain ⟨fw, cw, rfl, _, _⟩ := id hfv.at
        have HFW : Hid (OwnFiles wB WA.heap.size (.slice fw dd2.files.length cw) dd2.files) := hfv
        have HBB : Hid (Below WA.heap.size WA wB) := hbB
        obtain ⟨q0, q1, q2, q3, q4, qf⟩ := five ((hbB.block _ (by have := HJA.out.size; omega)).trans HJA.out.wnt)
        clear hfv hsn hbB HCR hW2A
        go_wp2_with fail
        go_meet
        exact ⟨rfl, rfl, rfl, er2, dd2, fx, cx, fw, cw, rfl, rfl, HJA.out.good HBB.out HFW.out HSA.out⟩
  case rest =>
  obtain ⟨rfl, rfl, rfl, er, dd, fx, cx, fw, cw, rfl, rfl, HJ⟩ := hcut
  clear HP HQ HGG H9 HB9 HX9 HM7
  rename World => wj
  have HEQ1 : Hid (Calls Tryz.prog 29 #[.agg #[.int .i64 dd.id, .int .i64 dd.fr, .bool dd.snap, .slice fx dd.files.length cx, .int .i64 dd.next], .agg #[.int .i64 dd.id, .int .i64 dd.fr, .bool dd.snap, .slice fw dd.files.length cw, .int .i64 dd.next]] wj fun e w' => e = .returned (.bool true) ∧ Below wj.heap.size wj w') := by
    obtain ⟨top, h1, h2, h3, h4⟩ := HJ.out.top
    have h := eqVol_any _ _ dd dd wj (show VolVal wj (.agg #[.int .i64 dd.id, .int .i64 dd.fr, .bool dd.snap, .slice fx dd.files.length cx, .int .i64 dd.next]) dd from OwnVol.val ⟨_, rfl, HJ.out.vx⟩) (show VolVal wj (.agg #[.int .i64 dd.id, .int .i64 dd.fr, .bool dd.snap, .slice fw dd.files.length cw, .int .i64 dd.next]) dd from OwnVol.val ⟨_, rfl, h4⟩) HJ.out.small
    rw [decide_eq_true rfl] at h; exact h
  have HEQ2 : Hid (∀ w', Below w5.heap.size w5 w' → Calls Tryz.prog 29 #[.agg #[.int .i64 d.id, .int .i64 d.fr, .bool d.snap, .slice fa d.files.length fc, .int .i64 d.next], .agg #[.int .i64 d.id, .int .i64 d.fr, .bool d.snap, .slice av d.files.length ca, .int .i64 d.next]] w' fun e w'' => e = .returned (.bool true) ∧ Below w'.heap.size w' w'') := fun w' hb => by
    have h := eqVol_any _ _ d d w' (HINV.out _ hb) (HVOL.out _ hb) HS.out
    rw [decide_eq_true rfl] at h; exact h
  obtain ⟨c, hc⟩ : ∃ c, errI may = c := ⟨_, rfl⟩
  have HC : Hid (errI may = c) := hc
  obtain ⟨hc1, hc2⟩ := errI_zero may
  rw [hc] at hc1 hc2
  clear hc
  have HCK : Hid (∀ w', Below w5.heap.size w5 w' → Calls Tryz.prog 30 #[.agg #[.int .i64 d.id, .int .i64 d.fr, .bool d.snap, .slice fa d.files.length fc, .int .i64 d.next]] w' fun e w'' => e = .returned (.int .i64 c) ∧ Below w'.heap.size w' w'') := fun w' hb =>
    (checkv_any _ d w' (HINV.out _ hb) HS.out).mono fun e w'' ⟨⟨b, h1, h2⟩, h3⟩ => ⟨by
      rw [h2, ← HC.out, show b = may from by rw [Bool.eq_iff_iff, h1, HMAY.out]], h3⟩
  obtain ⟨y0, y1, y2, y3, y4, _⟩ := five HJ.out.x
  obtain ⟨z0, z1, z2, z3, z4, _⟩ := five HJ.out.wnt
  clear HC HMAY
  go_wp2_with (first | (go_at_call 28; refine (errnum_w _ _).mono ?_; rintro e w' ⟨rfl, rfl⟩) | fail)
  refine HEQ1.out.mono ?_
  rintro e wk ⟨rfl, hbk⟩
  have HBK : Hid (Below wj.heap.size wj wk) := hbk
  have h5k := nwT HJ.out.below hbk
  clear HEQ1 y0 y1 y2 y3 y4 z0 z1 z2 z3 z4 hbk
  obtain ⟨x0, x1, x2, x3, x4, _⟩ := five (HBX5.out _ h5k).v
  obtain ⟨i0, i1, i2, i3, i4, _⟩ := five (HBX5.out _ h5k).i
  go_wp2_with fail
  refine (HEQ2.out _ h5k).mono ?_
  rintro e wl ⟨rfl, hbl⟩
  have HBL : Hid (Below wj.heap.size wj wl) := nwT HBK.out hbl
  have h5l := nwT h5k hbl
  clear x0 x1 x2 x3 x4 i0 i1 i2 i3 i4 hbl h5k HBK
  obtain ⟨i0, i1, i2, i3, i4, _⟩ := five (HBX5.out _ h5l).i
  go_wp2_with fail
  refine (HCK.out _ h5l).mono ?_
  rintro e wm ⟨rfl, hbm⟩
  have HBM : Hid (Below wj.heap.size wj wm) := nwT HBL.out hbm
  have H5M : Hid (Below w5.heap.size w5 wm) := nwT h5l hbm
  have hjl := (Array.getElem?_eq_some_iff.1 HJ.out.wnt).1
  obtain ⟨y0, y1, y2, y3, y4, _⟩ := five ((HBM.out.block _ (by omega)).trans HJ.out.x)
  clear i0 i1 i2 i3 i4 hbm h5l HBL HCK
  have HSPO : Hid (Calls Tryz.prog 31 #[.agg #[.int .i64 dd.id, .int .i64 dd.fr, .bool dd.snap, .slice fx dd.files.length cx, .int .i64 dd.next]] wm fun e w' => e = .returned (.tuple #[]) ∧ Below (w5.heap.size + 2) wm w' ∧ VolVal w' (.agg #[.int .i64 dd.id, .int .i64 dd.fr, .bool dd.snap, .slice fw dd.files.length cw, .int .i64 dd.next]) dd) := by
    obtain ⟨top, h1, h2, h3, h4⟩ := HJ.out.top
    have hz := HBM.out.size
    refine (vol_spoil dd fx cx (w5.heap.size + 2) top wm (h3.below HBM.out) (by omega) (by omega)).mono ?_
    rintro e w' ⟨he, hb, hk⟩
    refine ⟨he, hb, OwnVol.val ⟨_, rfl, (h4.below HBM.out).kept hk⟩⟩
  go_wp2_with (first | (go_at_call 28; refine (errnum_w _ _).mono ?_; rintro e w' ⟨rfl, rfl⟩) | fail)
  refine HSPO.out.mono ?_
  rintro e ws ⟨rfl, hbs, hwv⟩
  have HWV : Hid (VolVal ws (.agg #[.int .i64 dd.id, .int .i64 dd.fr, .bool dd.snap, .slice fw dd.files.length cw, .int .i64 dd.next]) dd) := hwv
  have h5s : Below w5.heap.size w5 ws := H5M.out.trans (hbs.mono (by omega))
  have HWS : Hid (ws.heap[w5.heap.size + 1]? = some (.cells #[.int .i64 dd.id, .int .i64 dd.fr, .bool dd.snap, .slice fw dd.files.length cw, .int .i64 dd.next] 24 (0, 0))) := (hbs.block _ (by omega)).trans ((HBM.out.block _ hjl).trans HJ.out.wnt)
  have HSD : Hid (SmallV dd) := HJ.out.small
  clear y0 y1 y2 y3 y4 hbs hwv hjl HBM H5M HSPO HJ hc1 hc2
  obtain ⟨x0, x1, x2, x3, x4, _⟩ := five (HBX5.out _ h5s).v
  obtain ⟨i0, i1, i2, i3, i4, _⟩ := five (HBX5.out _ h5s).i
  go_wp2_with fail
  refine (HEQ2.out _ h5s).mono ?_
  rintro e wt ⟨rfl, hbt⟩
  have h5t := nwT h5s hbt
  have HWT : Hid (wt.heap[w5.heap.size + 1]? = some (.cells #[.int .i64 dd.id, .int .i64 dd.fr, .bool dd.snap, .slice fw dd.files.length cw, .int .i64 dd.next] 24 (0, 0))) := (hbt.block _ (Array.getElem?_eq_some_iff.1 HWS.out).1).trans HWS.out
  have HWV2 : Hid (VolVal wt (.agg #[.int .i64 dd.id, .int .i64 dd.fr, .bool dd.snap, .slice fw dd.files.length cw, .int .i64 dd.next]) dd) := HWV.out.below hbt
  have H5T : Hid (Below w5.heap.size w5 wt) := h5t
  clear x0 x1 x2 x3 x4 i0 i1 i2 i3 i4 hbt h5s HEQ2 HWS HWV
  have hbx := HBX5.out _ h5t
  have HRT : Hid (wt.heap[w.heap.size + 2]? = some (.cells #[.int .i64 0, .int .i64 0, .bool false, .slice none 0 0, .int .i64 0] 24 (0, 0))) := hbx.r
  clear h5t
  by_cases her : er = 0
  case neg =>
    have hd1 : decide (er = 0) = false := decide_eq_false her
    have hd2 : (er == 0) = false := beq_eq_false_iff_ne.2 her
    obtain ⟨x0, x1, x2, x3, x4, _⟩ := five hbx.v
    obtain ⟨r0, r1, r2, r3, r4, rf⟩ := five HRT.out
    clear hbx
    have HFB : Hid (Below w.heap.size w (((((wt.setCell ⟨(w.heap.size + 2), 0, none⟩ (.int .i64 d.id)).setCell ⟨(w.heap.size + 2), 1, none⟩ (.int .i64 d.fr)).setCell ⟨(w.heap.size + 2), 2, none⟩ (.bool d.snap)).setCell ⟨(w.heap.size + 2), 3, none⟩ (.slice av d.files.length ca)).setCell ⟨(w.heap.size + 2), 4, none⟩ (.int .i64 d.next))) := five_below (nwT HBWW.out.1 H5T.out) (by omega)
    go_wp2_with fail
    obtain ⟨s0, s1, s2, s3, s4, _⟩ := five (five_set (d0 := .int .i64 d.id) (d1 := .int .i64 d.fr) (d2 := .bool d.snap) (d3 := .slice av d.files.length ca) (d4 := .int .i64 d.next) HRT.out)
    exact bodyPost_ret (v := .tuple #[.agg #[.int .i64 d.id, .int .i64 d.fr, .bool d.snap, .slice av d.files.length ca, .int .i64 d.next], .bool true]) (by simp [results, Tryz.results10, go_sem, s0, s1, s2, s3, s4]) rfl ⟨⟨_, _, d, rfl, .inl ⟨rfl, rfl, rfl⟩, HS.out⟩, HFB.out⟩
  case pos =>
  subst her
  obtain ⟨z0, z1, z2, z3, z4, _⟩ := five HWT.out
  clear hbx
  go_wp2_with fail
  refine (copyVol_any _ dd _ HWV2.out HSD.out).mono ?_
  rintro e wz ⟨⟨u, rfl, hu⟩, hbz⟩
  obtain ⟨fv, rfl, hfv⟩ := hu
  obtain ⟨fu, cu, rfl, _, _⟩ := id hfv.at
  have hlt := (Array.getElem?_eq_some_iff.1 HRT.out).1
  have HFU : Hid (OwnFiles (((((wz.setCell ⟨(w.heap.size + 2), 0, none⟩ (.int .i64 dd.id)).setCell ⟨(w.heap.size + 2), 1, none⟩ (.int .i64 dd.fr)).setCell ⟨(w.heap.size + 2), 2, none⟩ (.bool dd.snap)).setCell ⟨(w.heap.size + 2), 3, none⟩ (.slice fu dd.files.length cu)).setCell ⟨(w.heap.size + 2), 4, none⟩ (.int .i64 dd.next)) wt.heap.size (.slice fu dd.files.length cu) dd.files) := ownF_set5 hfv hlt _ _ _ _ _
  have HRZ : Hid (wz.heap[w.heap.size + 2]? = some (.cells #[.int .i64 0, .int .i64 0, .bool false, .slice none 0 0, .int .i64 0] 24 (0, 0))) := (hbz.block _ hlt).trans HRT.out
  have HFB : Hid (Below w.heap.size w (((((wz.setCell ⟨(w.heap.size + 2), 0, none⟩ (.int .i64 dd.id)).setCell ⟨(w.heap.size + 2), 1, none⟩ (.int .i64 dd.fr)).setCell ⟨(w.heap.size + 2), 2, none⟩ (.bool dd.snap)).setCell ⟨(w.heap.size + 2), 3, none⟩ (.slice fu dd.files.length cu)).setCell ⟨(w.heap.size + 2), 4, none⟩ (.int .i64 dd.next))) := five_below (nwT HBWW.out.1 (nwT H5T.out hbz)) (by omega)
  obtain ⟨r0, r1, r2, r3, r4, rf⟩ := five HRZ.out
  clear hfv hbz hlt z0 z1 z2 z3 z4
  go_wp2_with fail
  obtain ⟨s0, s1, s2, s3, s4, _⟩ := five (five_set (d0 := .int .i64 dd.id) (d1 := .int .i64 dd.fr) (d2 := .bool dd.snap) (d3 := .slice fu dd.files.length cu) (d4 := .int .i64 dd.next) HRZ.out)
  exact bodyPost_ret (v := .tuple #[.agg #[.int .i64 dd.id, .int .i64 dd.fr, .bool dd.snap, .slice fu dd.files.length cu, .int .i64 dd.next], .bool true]) (by simp [results, Tryz.results10, go_sem, s0, s1, s2, s3, s4]) rfl ⟨⟨_, _, dd, rfl, .inr ⟨_, rfl, HFU.out.le (by have h1 := HBWW.out.1.size; have h2 := H5T.out.size; omega)⟩, HSD.out⟩, HFB.out⟩

end Go.Proofs.YtdpighcaieajjabGreat
