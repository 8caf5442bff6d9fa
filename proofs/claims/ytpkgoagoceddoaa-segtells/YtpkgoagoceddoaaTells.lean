/- The law SegTells walked. -/
import Derived.Test.YtpkgoagoceddoaaTellD
import Derived.Deep.RegionHeld
namespace Go.Proofs.Ytpkgoagoceddoaa
open Go.RowKit

theorem unstop3 {p : Prop} (h : Stop p) : p := h

set_option maxRecDepth 100000 in
set_option maxHeartbeats 40000000 in
theorem tells_walk : LawOk2 3 := by
  intro a ls ca b ns cb w hrows hints hbn hl hn hr
  have HR : Hid (RowsAt w a ls) := hrows
  have HI : Hid (IntsAt w b ns) := hints
  have HBN : Hid (b = none → cb = 0 ∧ ns = []) := hbn
  have HRL : Hid (∀ i, i < ls.length → (ls.getD i row0).2.2.length ≤ 140737488351232) := hr
  clear hrows hr hints hbn
  obtain ⟨i0, hi, hz0, hz1, hz2⟩ := info_parts Try.info3
  go_enter Try.func3, Try.ntmps3
  go_wp2_with fail
  obtain ⟨W0, hW0⟩ : ∃ W0, W0 = w.alloc (.cells #[.slice a ls.length ca, .slice b ns.length cb] 25) := ⟨_, rfl⟩
  have HN0 : Hid (Below w.heap.size w W0) := by rw [hW0]; exact nwA (nwR w) _
  have HR0 : Hid (RowsAt W0 a ls) := HR.out.below HN0.out (Nat.le_refl _)
  have HI0 : Hid (IntsAt W0 b ns) := HI.out.below HN0.out (Nat.le_refl _)
  have HC0 : Hid (W0.cell? ⟨w.heap.size, 0, none⟩ = some (.slice a ls.length ca)) := by rw [hW0]; show _ = _; simp
  have HC1 : Hid (W0.cell? ⟨w.heap.size, 1, none⟩ = some (.slice b ns.length cb)) := by rw [hW0]; show _ = _; simp
  have HZ0 : Hid (w.heap.size < W0.heap.size) := by rw [hW0]; show _ < _; simp
  rw [← hW0]
  clear hW0 HR HI
  refine (heavy_any a b ls ca ns.length cb _ HR0.out hl hn HRL.out).mono ?_
  rintro e w1 ⟨q, rfl, hb1, hq⟩
  cases q
  · have HSM : Hid (small ls ns.length) := hq rfl
    clear hq
    have hl5 : ls.length ≤ 500 ∧ ns.length ≤ 500 := by have := HSM.out.1; omega
    clear hl hn HRL
    have c1 : w1.cell? ⟨w.heap.size, 1, none⟩ = some (.slice b ns.length cb) := (hb1.cell (p := ⟨w.heap.size, 1, none⟩) HZ0.out).trans HC1.out
    have hzz : w.heap.size < w1.heap.size := Nat.lt_of_lt_of_le HZ0.out hb1.size
    have HOL : Hid ((w1.alloc (.cells #[.int .i64 0, .int .i64 1, .int .i64 63, .int .i64 64, .int .i64 65, .int .i64 (-1)] 3)).ownsRow w1.heap.size 3 1 (.slice (some ⟨w1.heap.size, 0, none⟩) 6 6) 6 (six.map (Value.int .i64))) :=
      World.ownsRow_lit w1 #[.int .i64 0, .int .i64 1, .int .i64 63, .int .i64 64, .int .i64 65, .int .i64 (-1)] 6 (Nat.le_refl _) (by unfold maxLen; omega) rfl
    have HIA : Hid (IntsAt (w1.alloc (.cells #[.int .i64 0, .int .i64 1, .int .i64 63, .int .i64 64, .int .i64 65, .int .i64 (-1)] 3)) b ns) := HI0.out.below (nwA hb1 _) (Nat.le_refl _)
    have hc3 : 6 + ns.length ≤ maxLen := by unfold maxLen; omega
    have hc4 : (6 + ns.length) * 8 ≤ 140737488355328 := by omega
    have hc5 : w1.heap.size ≤ (w1.alloc (.cells #[.int .i64 0, .int .i64 1, .int .i64 63, .int .i64 64, .int .i64 65, .int .i64 (-1)] 3)).heap.size := by simp
    go_wp2_with (at_builtin; refine wpList_append_args _ rfl (.tmp 30) (.tmp 32) 23 rfl w1.heap.size 3 i0 (.int .i64 0) 8 Try.underlying23 hi hz0 hz1 hz2 rfl (.slice (some ⟨w1.heap.size, 0, none⟩) 6 6) 6 (six.map (Value.int .i64)) rfl HOL.out b cb ns rfl HIA.out HBN.out hc3 hc4 hc5 ?_; intro vN W1 hownN hgrowN; refine unstop3 ?_)
    unfold Stop
    have HONS : Hid (OwnInts W1 w1.heap.size vN (six ++ ns)) := OwnInts.join hownN
    have HB1 : Hid (Below W0.heap.size W0 W1) := (nwA hb1 _).grown hgrowN (nwA hb1 _).size (fun k e => by simp [Value.ownBlock] at e; have := hb1.size; omega)
    have hlN : (six ++ ns).length = 6 + ns.length := by simp [six]; omega
    have HLT : Hid ((six ++ ns).length ≤ 506 ∧ 0 < (six ++ ns).length) := by show _ ≤ 506 ∧ _; omega
    clear hzz hownN hgrowN HOL HIA hc3 hc4 hc5 c1 hb1 HBN HI0 HC1 hlN hi hz0 hz1 hz2
    generalize six ++ ns = NS at HONS HLT
    obtain ⟨gN, cN, rfl, hsN, hcN, hcM⟩ := HONS.out.atPos HLT.out.2
    have HIN : Hid (IntsAt W1 (some ⟨gN, 0, none⟩) NS) := hsN
    have HCM : Hid (cN ≤ maxLen) := hcM
    clear hsN HONS hcM
    have HN1 : Hid (Below w.heap.size w W1) := nwT HN0.out HB1.out
    have HR1 : Hid (RowsAt W1 a ls) := HR0.out.below HB1.out (Nat.le_refl _)
    have HCC : Hid (W1.cell? ⟨w.heap.size, 0, none⟩ = some (.slice a ls.length ca)) := (HB1.out.cell (p := ⟨w.heap.size, 0, none⟩) HZ0.out).trans HC0.out
    have HZ1 : Hid (w.heap.size < W1.heap.size) := Nat.lt_of_lt_of_le HZ0.out HB1.out.size
    have hnl : NS.length ≤ 506 := HLT.out.1
    clear HN0 HR0 HC0 HZ0 HB1 HLT
    go_wp2_with fail
    go_loopw [4] (fun i wr => ∃ (k : Nat), k ≤ ls.length ∧ i = .int .i64 k ∧ Below W1.heap.size W1 wr)
      (fun i _ => ls.length - (intOf i).toNat)
    case atStart => exact ⟨0, by omega, rfl, nwR W1⟩
    case round =>
      obtain ⟨k, hk, rfl, hb⟩ := hrel
      have c0 : wr.cell? ⟨w.heap.size, 0, none⟩ = some (.slice a ls.length ca) := (hb.cell (p := ⟨w.heap.size, 0, none⟩) HZ1.out).trans HCC.out
      by_cases hk1 : (k : Int) < (ls.length : Int) ∧ (k : Int) < 5
      · obtain ⟨hk1, hk5⟩ := hk1
        have hkn : k < ls.length := by omega
        have hl1 : (ls.getD k row0).2.2.length ≤ 500 := HSM.out.2 k hkn
        have HA : Hid (SegsAt W1 (ls.getD k row0).1 (ls.getD k row0).2.2) := HR1.out.segs hkn
        obtain ⟨b1, o1, rfl, x1, _, _⟩ := HR1.out k hkn
        have HX1 : Hid (W1.cell? ⟨b1, o1 + k, none⟩ = some (.slice (ls.getD k row0).1 (ls.getD k row0).2.2.length (ls.getD k row0).2.1)) := x1
        clear x1
        generalize ls.getD k row0 = r1 at HX1 HA hl1
        obtain ⟨ra, rca, l⟩ := r1
        simp only at HX1 HA hl1
        have hm1 : l.length ≤ maxLen := by unfold maxLen; omega
        have k0 : ∀ w', Below W1.heap.size W1 w' → w'.cell? ⟨w.heap.size, 0, none⟩ = some (.slice (some ⟨b1, o1, none⟩) ls.length ca) := fun w' h => (h.cell (p := ⟨w.heap.size, 0, none⟩) HZ1.out).trans HCC.out
        have k1 : ∀ w', Below W1.heap.size W1 w' → w'.cell? ⟨b1, o1 + k, none⟩ = some (.slice ra l.length rca) := fun w' h => (h.cell (p := ⟨b1, o1 + k, none⟩) (block_lt_of_cell HX1.out)).trans HX1.out
        clear c0
        go_wp2_with fail
        refine (copySegs_any ra l rca _ (HA.out.below hb (Nat.le_refl _)) hl1).mono ?_
        rintro e WI ⟨vi, rfl, hoi, hbi⟩
        have HSI : Hid (Below W1.heap.size W1 WI) := nwT hb hbi
        obtain ⟨aI, cI, rfl, hsI⟩ := hoi.at
        have HII : Hid (SegsAt WI aI l) := hsI
        have hSI : Below W1.heap.size W1 WI := HSI.out
        clear hoi hbi hsI hb
        go_wp2_with fail
        refine (refSegs_any ra l rca _ (HA.out.below hSI (Nat.le_refl _)) (by omega)).mono ?_
        rintro e w3 ⟨rfl, hb3⟩
        go_wp2_with fail
        refine (count_any aI l cI _ (HII.out.below hb3 (Nat.le_refl _)) hm1).mono ?_
        rintro e w4 ⟨rfl, hb4⟩
        have C4 := nwT hb3 hb4
        clear hb3 hb4
        go_wp2_with fail
        refine (list_any aI l cI _ (HII.out.below C4 (Nat.le_refl _)) hm1).mono ?_
        rintro e w5 ⟨vs, rfl, hos, hb5⟩
        have C5 := nwT C4 hb5
        have hS5 := nwT hSI C5
        obtain ⟨aL, cL, rfl, hsL⟩ := hos.at
        have hlL := len_of_ints hos
        have HL5 : Hid (IntsAt w5 aL (numsOf l)) := hsL
        clear hos hsL hb5 C4 hSI
        cases hv : vOk l
        · have HNU : Hid (numsOf l = []) := by show _ = _; rw [numsOf, hv]; rfl
          rw [HNU.out] at HL5 hlL ⊢
          rw [show cntOf l = 0 from by rw [cntOf, hv]; rfl, show errOf false = 1 from rfl]
          go_wp2_with fail
          refine (check_any aI l cI _ (HII.out.below C5 (Nat.le_refl _)) hm1).mono ?_
          rintro e w6 ⟨rfl, hb6⟩
          rw [show validFrom 0 l = false from hv, show errOf false = 1 from rfl]
          have C6 := nwT C5 hb6
          clear hS5
          go_wp2_with (go_at_call 15; refine (num_any _ _).mono ?_; rintro e wn ⟨rfl, rfl⟩)
          refine (eqInts_any aL none [] [] cL 0 _ (HL5.out.below hb6 (Nat.le_refl _)) (fun i hi => by simp at hi) hlL).mono ?_
          rintro e w7 ⟨rfl, hb7⟩
          rw [decide_eq_true (rfl : ([] : List Int) = [])]
          have C7 := nwT C6 hb7
          have hS7 := nwT HSI.out C7
          clear C5 C6 hb6 hb7 HL5
          go_wp2_with fail
          refine (eqSegs_any aI ra l l cI rca _ (HII.out.below C7 (Nat.le_refl _)) (HA.out.below hS7 (Nat.le_refl _)) hm1).mono ?_
          rintro e w8 ⟨rfl, hb8⟩
          rw [decide_eq_true (rfl : l = l)]
          have C8 := nwT C7 hb8
          clear C7 hb8 hS7
          go_wp2_with fail
          as_aux_lemma =>
            have K0 : Hid (∀ w', Below W1.heap.size W1 w' → w'.cell? ⟨w.heap.size, 0, none⟩ = some (.slice (some ⟨b1, o1, none⟩) ls.length ca)) := k0
            have K1 : Hid (∀ w', Below W1.heap.size W1 w' → w'.cell? ⟨b1, o1 + k, none⟩ = some (.slice ra l.length rca)) := k1
            clear k0 k1
            go_loopw [14] (fun j wq => ∃ (q : Nat), q ≤ 11 ∧ q ≤ NS.length ∧ j = .int .i64 q ∧ Below WI.heap.size WI wq)
              (fun j _ => 12 - (intOf j).toNat)
            case atStart => exact ⟨0, by omega, by omega, rfl, C8⟩
            case round =>
              obtain ⟨q, hq11, hqN, rfl, hbq⟩ := hrel
              clear C8
              by_cases hq1 : (q : Int) < (NS.length : Int) ∧ (q : Int) < 11
              · obtain ⟨hq1, hq2⟩ := hq1
                have hqn : q < NS.length := by omega
                have KZ0 : ∃ z, ∀ w', Below W1.heap.size W1 w' → w'.cell? ⟨gN, q, none⟩ = some (.int .i64 z) := ⟨NS.getD q 0, fun w' h => by
                  obtain ⟨b9, o9, he9, x9⟩ := (HIN.out.below h (Nat.le_refl _)) q hqn
                  simp only [Option.some.injEq, Addr.mk.injEq, and_true] at he9
                  obtain ⟨rfl, rfl⟩ := he9
                  simpa using x9⟩
                obtain ⟨z, kz⟩ := KZ0
                have KZ : Hid (∀ w', Below W1.heap.size W1 w' → w'.cell? ⟨gN, q, none⟩ = some (.int .i64 z)) := kz
                clear kz
                have hSq := nwT HSI.out hbq
                have z1 := KZ.out _ hSq
                go_wp2_with fail
                refine (has_any aI l cI z _ (HII.out.below hbq (Nat.le_refl _)) hm1).mono ?_
                rintro e w2 ⟨rfl, hb2⟩
                rw [hv, show errOf false = 1 from rfl]
                have C2 := nwT hbq hb2
                have hS2 := nwT HSI.out C2
                clear z1 hSq hb2 hbq
                have z1 := KZ.out _ hS2
                go_wp2_with fail
                refine (not_any aI l cI z _ (HII.out.below C2 (Nat.le_refl _)) hm1).mono ?_
                rintro e w3 ⟨vn, rfl, hon, hb3⟩
                have C3 := nwT C2 hb3
                have hgb : WI.heap.size ≤ w2.heap.size := C2.size
                have HON : Hid (OwnSegs w3 w2.heap.size vn (notOf l z)) := hon
                clear z1 hS2 hb3 hon C2
                have hnf : notOk l z = false := by rw [notOk, hv]; rfl
                rw [show notOf l z = [] from by rw [notOf, hnf]; rfl] at HON
                rw [hnf, show errOf false = 1 from rfl]
                clear hnf
                obtain ⟨aX, cX, rfl, hsX⟩ := HON.out.at
                have hlX := len_of_own HON.out
                go_wp2_with fail
                go_quiet (fail)
                have CS : Below WI.heap.size WI (w3.drewN nq) := below_drewN C3 nq
                have HNS : Hid (OwnSegs (w3.drewN nq) w2.heap.size (.slice aX ([] : List (Int × Int)).length cX) []) := HON.out
                have HXS : Hid (SegsAt (w3.drewN nq) aX []) := hsX
                generalize w3.drewN nq = wS at CS HNS HXS ⊢
                generalize w2.heap.size = gb at HNS hgb
                clear HON hsX C3
                as_aux_lemma =>
                  have hSS : Below W1.heap.size W1 wS := nwT HSI.out CS
                  have x0 := K0.out _ hSS
                  have x1 := K1.out _ hSS
                  have HIS : Hid (SegsAt wS aI l) := HII.out.below CS (Nat.le_refl _)
                  have HAS : Hid (SegsAt wS ra l) := HA.out.below hSS (Nat.le_refl _)
                  go_wp2_with fail
                  go_quiet ((first | (go_at_call 15; exact Calls.quiet_of_same (num_any _ _)) | (go_at_call_of 18 aX; exact Calls.quiet_of (eqSegs_sq aX none [] cX 0 _ (by exact HXS.out) (fun i hi => by simp at hi) hlX)) | (go_at_call_of 18 aI; exact Calls.quiet_of (eqSegs_sq aI ra l cI rca _ (by exact HIS.out) (by exact HAS.out) hm1))))
                  have hE : Below wS.heap.size wS (wS.drewN nq) := below_drewN (nwR wS) nq
                  generalize wS.drewN nq = wq at hE ⊢
                  clear x0 x1 HIS HAS
                  go_wp2_with fail
                  refine (spoil_any gb _ [] _ (HNS.out.below hE) hlX).mono ?_
                  rintro e wF ⟨rfl, gF⟩
                  have CF : Below WI.heap.size WI wF := (nwT CS hE).grown gF (nwT CS hE).size (fun t e => Nat.le_trans hgb ((HNS.out.below hE).lt t e).1)
                  have hSF := nwT HSI.out CF
                  have x0 := K0.out _ hSF
                  have x1 := K1.out _ hSF
                  clear gF hE
                  go_wp2_with fail
                  refine (eqSegs_any aI ra l l cI rca _ (HII.out.below CF (Nat.le_refl _)) (HA.out.below hSF (Nat.le_refl _)) hm1).mono ?_
                  rintro e wG ⟨rfl, hbG⟩
                  rw [decide_eq_true (rfl : l = l)]
                  have CG := nwT CF hbG
                  clear x0 x1 hSF CF hbG
                  go_wp2_with fail
                  go_roundw
                  case rel => exact ⟨q + 1, by omega, by omega, by go_num, CG⟩
                  case measure => simp [intOf]; omega
              · have hq3 : ¬ ((q : Int) < (NS.length : Int)) ∨ ((q : Int) < (NS.length : Int) ∧ ¬ (q : Int) < 11) := by omega
                clear hq1
                rcases hq3 with hq3 | ⟨hq3, hq4⟩
                all_goals
                  go_wp2_with fail
                  go_roundw
                  case rel => exact ⟨k + 1, by omega, by go_num, nwT HSI.out hbq⟩
                  case measure => simp [intOf]; omega
        · have HNU : Hid (numsOf l = listOf l) := by show _ = _; rw [numsOf, hv]; rfl
          rw [HNU.out] at HL5 hlL ⊢
          rw [show cntOf l = sumLen l from by rw [cntOf, hv]; rfl, show errOf true = 0 from rfl]
          go_wp2_with fail
          go_region_held (fun w' => Below W1.heap.size W1 w') (first | assumption | exact Below.drew (by assumption) | exact nwT (by assumption) (by assumption)) (first | (go_at_call 13; refine (refCount_any ra l rca _ (HA.out.below (by assumption) (Nat.le_refl _)) hl1 hv).mono ?_; rintro e wA ⟨rfl, hbA⟩) | (go_at_call 14; refine (refList_any ra l rca _ (HA.out.below (by assumption) (Nat.le_refl _)) hl1 hv).mono ?_; rintro e wB ⟨vB, rfl, hoB, hbB⟩))
          have hSB : Below W1.heap.size W1 wB := by assumption
          have C5B : Below w5.heap.size w5 wB := nwT (nwd hbA) hbB
          obtain ⟨aB, cB, rfl, hsB⟩ := hoB.at
          have HLB : Hid (IntsAt wB aB (listOf l)) := hsB
          have HLL : Hid (IntsAt wB aL (listOf l)) := HL5.out.below C5B (Nat.le_refl _)
          have CB := nwT C5 C5B
          clear hsB hoB hbA hbB C5B C5 HL5 hS5 HNU
          generalize listOf l = LL at HLB HLL hlL ⊢
          generalize sumLen l = SL at *
          go_wp2_with fail
          refine (check_any aI l cI _ (HII.out.below CB (Nat.le_refl _)) hm1).mono ?_
          rintro e w6 ⟨rfl, hb6⟩
          rw [show validFrom 0 l = true from hv, show errOf true = 0 from rfl]
          have C6 := nwT CB hb6
          clear hSB
          go_wp2_with (go_at_call 15; refine (num_any _ _).mono ?_; rintro e wn ⟨rfl, rfl⟩)
          refine (eqInts_any aL aB LL LL cL cB _ (HLL.out.below hb6 (Nat.le_refl _)) (HLB.out.below hb6 (Nat.le_refl _)) hlL).mono ?_
          rintro e w7 ⟨rfl, hb7⟩
          rw [decide_eq_true (rfl : LL = LL)]
          have C7 := nwT C6 hb7
          have hS7 := nwT HSI.out C7
          clear CB C6 hb6 hb7 HLL HLB
          go_wp2_with fail
          refine (eqSegs_any aI ra l l cI rca _ (HII.out.below C7 (Nat.le_refl _)) (HA.out.below hS7 (Nat.le_refl _)) hm1).mono ?_
          rintro e w8 ⟨rfl, hb8⟩
          rw [decide_eq_true (rfl : l = l)]
          have C8 := nwT C7 hb8
          clear C7 hb8 hS7
          go_wp2_with fail
          as_aux_lemma =>
            have K0 : Hid (∀ w', Below W1.heap.size W1 w' → w'.cell? ⟨w.heap.size, 0, none⟩ = some (.slice (some ⟨b1, o1, none⟩) ls.length ca)) := k0
            have K1 : Hid (∀ w', Below W1.heap.size W1 w' → w'.cell? ⟨b1, o1 + k, none⟩ = some (.slice ra l.length rca)) := k1
            clear k0 k1
            go_loopw [14] (fun j wq => ∃ (q : Nat), q ≤ 11 ∧ q ≤ NS.length ∧ j = .int .i64 q ∧ Below WI.heap.size WI wq)
              (fun j _ => 12 - (intOf j).toNat)
            case atStart => exact ⟨0, by omega, by omega, rfl, C8⟩
            case round =>
              obtain ⟨q, hq11, hqN, rfl, hbq⟩ := hrel
              clear C8
              by_cases hq1 : (q : Int) < (NS.length : Int) ∧ (q : Int) < 11
              · obtain ⟨hq1, hq2⟩ := hq1
                have hqn : q < NS.length := by omega
                have KZ0 : ∃ z, ∀ w', Below W1.heap.size W1 w' → w'.cell? ⟨gN, q, none⟩ = some (.int .i64 z) := ⟨NS.getD q 0, fun w' h => by
                  obtain ⟨b9, o9, he9, x9⟩ := (HIN.out.below h (Nat.le_refl _)) q hqn
                  simp only [Option.some.injEq, Addr.mk.injEq, and_true] at he9
                  obtain ⟨rfl, rfl⟩ := he9
                  simpa using x9⟩
                obtain ⟨z, kz⟩ := KZ0
                have KZ : Hid (∀ w', Below W1.heap.size W1 w' → w'.cell? ⟨gN, q, none⟩ = some (.int .i64 z)) := kz
                clear kz
                have hSq := nwT HSI.out hbq
                have z1 := KZ.out _ hSq
                go_wp2_with fail
                refine (has_any aI l cI z _ (HII.out.below hbq (Nat.le_refl _)) hm1).mono ?_
                rintro e w2 ⟨rfl, hb2⟩
                rw [hv, show errOf true = 0 from rfl]
                have C2 := nwT hbq hb2
                have hS2 := nwT HSI.out C2
                clear z1 hSq hb2 hbq
                have z1 := KZ.out _ hS2
                go_wp2_with fail
                refine (not_any aI l cI z _ (HII.out.below C2 (Nat.le_refl _)) hm1).mono ?_
                rintro e w3 ⟨vn, rfl, hon, hb3⟩
                have C3 := nwT C2 hb3
                have hgb : WI.heap.size ≤ w2.heap.size := C2.size
                have HON : Hid (OwnSegs w3 w2.heap.size vn (notOf l z)) := hon
                clear z1 hS2 hb3 hon C2
                obtain ⟨aX, cX, rfl, hsX⟩ := HON.out.at
                have hlX := len_of_own HON.out
                have HX3 : Hid (SegsAt w3 aX (notOf l z)) := hsX
                clear hsX
                have HHB0 : ∃ hb : Bool, hasI l z = hb := ⟨_, rfl⟩
                obtain ⟨hB, hBe⟩ := HHB0
                have HHB : Hid (hasI l z = hB) := hBe
                rw [hBe]
                clear hBe
                have hbb : (hB != hB) = false := by simp
                have hS3 : Below W1.heap.size W1 w3 := nwT HSI.out C3
                have hS33 : Below w3.heap.size w3 w3 := nwR w3
                have i0 : ∀ w', Below w3.heap.size w3 w' → w'.cell? ⟨w.heap.size, 0, none⟩ = some (.slice (some ⟨b1, o1, none⟩) ls.length ca) := fun w' h => K0.out w' (nwT hS3 h)
                have i1 : ∀ w', Below w3.heap.size w3 w' → w'.cell? ⟨b1, o1 + k, none⟩ = some (.slice ra l.length rca) := fun w' h => K1.out w' (nwT hS3 h)
                have iz : ∀ w', Below w3.heap.size w3 w' → w'.cell? ⟨gN, q, none⟩ = some (.int .i64 z) := fun w' h => KZ.out w' (nwT hS3 h)
                by_cases hok : notOk l z = true
                · as_aux_lemma =>
                    have HOK : Hid (notOk l z = true) := hok
                    have h4 := hok
                    simp only [notOk, Bool.and_eq_true, decide_eq_true_eq] at h4
                    have hnb : numB z 64 = true := by simp [numB]; omega
                    have dle : decide (endL l ≤ z) = true := decide_eq_true h4.2.2.2
                    rw [hok, show errOf true = 0 from rfl]
                    clear hok h4
                    go_wp2_with fail
                    go_region_held (fun w' => Below w3.heap.size w3 w') (first | assumption | exact Below.drew (by assumption) | exact nwT (by assumption) (by assumption)) (first | (go_at_call 21; refine (num2_any z 64 _).mono ?_; rintro e wm ⟨rfl, rfl⟩; rw [hnb]) | (go_at_call 22; refine (refEnds_any ra l rca _ (HA.out.below (nwT hS3 (by assumption)) (Nat.le_refl _)) hl1 hv).mono ?_; rintro e we ⟨rfl, hbe⟩))
                    have C34 : Below w3.heap.size w3 we := by assumption
                    have hS4 : Below W1.heap.size W1 we := nwT hS3 C34
                    have hS44 : Below we.heap.size we we := nwR we
                    have m0 : ∀ w', Below we.heap.size we w' → w'.cell? ⟨w.heap.size, 0, none⟩ = some (.slice (some ⟨b1, o1, none⟩) ls.length ca) := fun w' h => K0.out w' (nwT hS4 h)
                    have m1 : ∀ w', Below we.heap.size we w' → w'.cell? ⟨b1, o1 + k, none⟩ = some (.slice ra l.length rca) := fun w' h => K1.out w' (nwT hS4 h)
                    have mz : ∀ w', Below we.heap.size we w' → w'.cell? ⟨gN, q, none⟩ = some (.int .i64 z) := fun w' h => KZ.out w' (nwT hS4 h)
                    clear i0 i1 iz hS33
                    go_wp2_with fail
                    go_region_held (fun w' => Below we.heap.size we w') (first | assumption | exact Below.drew (by assumption) | exact nwT (by assumption) (by assumption)) (first | (go_at_call 23; refine (refNot_any ra l rca z _ (HA.out.below (nwT hS4 (by assumption)) (Nat.le_refl _)) hl1 hv HOK.out).mono ?_; rintro e wS ⟨vd, rfl, hod, hbd⟩))
                    have C4S : Below we.heap.size we wS := by assumption
                    obtain ⟨aD, cD, rfl, hsD⟩ := hod.at
                    have HDS : Hid (SegsAt wS aD (notOf l z)) := hsD
                    have CS : Below WI.heap.size WI wS := nwT (nwT C3 C34) C4S
                    have HNS : Hid (OwnSegs wS w2.heap.size (.slice aX (notOf l z).length cX) (notOf l z)) := HON.out.below (nwT C34 C4S)
                    have HXS : Hid (SegsAt wS aX (notOf l z)) := HX3.out.below (nwT C34 C4S) (Nat.le_refl _)
                    generalize w2.heap.size = gb at HNS hgb
                    clear m0 m1 mz hS44 hsD hod hbd C4S C34 C3 HON HX3 hS3 hS4 HOK
                    generalize notOf l z = DL at HNS HXS HDS hlX
                    as_aux_lemma =>
                      have hSS : Below W1.heap.size W1 wS := nwT HSI.out CS
                      have j0 : ∀ w', Below wS.heap.size wS w' → w'.cell? ⟨w.heap.size, 0, none⟩ = some (.slice (some ⟨b1, o1, none⟩) ls.length ca) := fun w' h => K0.out w' (nwT hSS h)
                      have j1 : ∀ w', Below wS.heap.size wS w' → w'.cell? ⟨b1, o1 + k, none⟩ = some (.slice ra l.length rca) := fun w' h => K1.out w' (nwT hSS h)
                      have jz : ∀ w', Below wS.heap.size wS w' → w'.cell? ⟨gN, q, none⟩ = some (.int .i64 z) := fun w' h => KZ.out w' (nwT hSS h)
                      have hSB : Below wS.heap.size wS wS := nwR wS
                      go_wp2_with fail
                      go_region_held (fun w' => Below wS.heap.size wS w') (first | assumption | exact Below.drew (by assumption) | exact nwT (by assumption) (by assumption)) (first | (go_at_call 15; refine (num_any _ _).mono ?_; rintro e wn ⟨rfl, rfl⟩) | (go_at_call 24; refine (refHas_any ra l rca z _ (HA.out.below (nwT hSS (by assumption)) (Nat.le_refl _)) hl1 hv).mono ?_; rintro e wh ⟨rfl, hbh⟩; rw [HHB.out]) | (go_at_call_of 18 aX; refine (eqSegs_any aX aD DL DL cX cD _ (HXS.out.below (by assumption) (Nat.le_refl _)) (HDS.out.below (by assumption) (Nat.le_refl _)) hlX).mono ?_; rintro e wp ⟨rfl, hbp⟩; rw [decide_eq_true (rfl : (DL : List (Int × Int)) = DL)]) | (go_at_call_of 18 aI; refine (eqSegs_any aI ra l l cI rca _ (HII.out.below (nwT CS (by assumption)) (Nat.le_refl _)) (HA.out.below (nwT hSS (by assumption)) (Nat.le_refl _)) hm1).mono ?_; rintro e wq ⟨rfl, hbq2⟩; rw [decide_eq_true (rfl : l = l)]))
                      have hE : Below wS.heap.size wS wq := by assumption
                      clear j0 j1 jz hSB
                      go_wp2_with fail
                      refine (spoil_any gb _ DL _ (HNS.out.below hE) hlX).mono ?_
                      rintro e wF ⟨rfl, gF⟩
                      have CF : Below WI.heap.size WI wF := (nwT CS hE).grown gF (nwT CS hE).size (fun t e => Nat.le_trans hgb ((HNS.out.below hE).lt t e).1)
                      have hSF := nwT HSI.out CF
                      have x0 := K0.out _ hSF
                      have x1 := K1.out _ hSF
                      clear gF hE
                      go_wp2_with fail
                      refine (eqSegs_any aI ra l l cI rca _ (HII.out.below CF (Nat.le_refl _)) (HA.out.below hSF (Nat.le_refl _)) hm1).mono ?_
                      rintro e wG ⟨rfl, hbG⟩
                      rw [decide_eq_true (rfl : l = l)]
                      have CG := nwT CF hbG
                      clear x0 x1 hSF CF hbG
                      go_wp2_with fail
                      go_roundw
                      case rel => exact ⟨q + 1, by omega, by omega, by go_num, CG⟩
                      case measure => simp [intOf]; omega
                · have hnf : notOk l z = false := by cases h : notOk l z; rfl; exact absurd h hok
                  clear hok
                  have HNE : Hid (notOf l z = []) := by show _ = _; rw [notOf, hnf]; rfl
                  rw [HNE.out] at HON HX3 hlX ⊢
                  rw [show errOf (notOk l z) = 1 from by rw [hnf]; rfl]
                  have HNK : Hid (notOk l z = false) := hnf
                  clear hnf
                  cases hnb : numB z 64
                  · as_aux_lemma =>
                      skip
                      have y1 := KZ.out _ hS3
                      go_wp2_with fail
                      go_quiet ((go_at_call 21; exact Calls.quiet_of_same (num2_is z 64 _ _ hnb)))
                      have C34' : Below w3.heap.size w3 (w3.drewN nq) := below_drewN (nwR w3) nq
                      generalize w3.drewN nq = wm at C34' ⊢
                      clear y1
                      have C34 : Below w3.heap.size w3 wm := by assumption
                      have CS : Below WI.heap.size WI wm := nwT C3 C34
                      have HNS : Hid (OwnSegs wm w2.heap.size (.slice aX ([] : List (Int × Int)).length cX) []) := HON.out.below C34
                      have HXS : Hid (SegsAt wm aX []) := HX3.out.below C34 (Nat.le_refl _)
                      generalize wm = wS at CS HNS HXS ⊢
                      generalize w2.heap.size = gb at HNS hgb
                      clear i0 i1 iz hS33 C34 C3 HON HX3 hS3 HNE HNK
                      as_aux_lemma =>
                        have hSS : Below W1.heap.size W1 wS := nwT HSI.out CS
                        have j0 : ∀ w', Below wS.heap.size wS w' → w'.cell? ⟨w.heap.size, 0, none⟩ = some (.slice (some ⟨b1, o1, none⟩) ls.length ca) := fun w' h => K0.out w' (nwT hSS h)
                        have j1 : ∀ w', Below wS.heap.size wS w' → w'.cell? ⟨b1, o1 + k, none⟩ = some (.slice ra l.length rca) := fun w' h => K1.out w' (nwT hSS h)
                        have jz : ∀ w', Below wS.heap.size wS w' → w'.cell? ⟨gN, q, none⟩ = some (.int .i64 z) := fun w' h => KZ.out w' (nwT hSS h)
                        have hSB : Below wS.heap.size wS wS := nwR wS
                        go_wp2_with fail
                        go_region_held (fun w' => Below wS.heap.size wS w') (first | assumption | exact Below.drew (by assumption) | exact nwT (by assumption) (by assumption)) (first | (go_at_call 15; refine (num_any _ _).mono ?_; rintro e wn ⟨rfl, rfl⟩) | (go_at_call 24; refine (refHas_any ra l rca z _ (HA.out.below (nwT hSS (by assumption)) (Nat.le_refl _)) hl1 hv).mono ?_; rintro e wh ⟨rfl, hbh⟩; rw [HHB.out]) | (go_at_call_of 18 aX; refine (eqSegs_any aX none [] [] cX 0 _ (HXS.out.below (by assumption) (Nat.le_refl _)) (fun i hi => by simp at hi) hlX).mono ?_; rintro e wp ⟨rfl, hbp⟩; rw [decide_eq_true (rfl : ([] : List (Int × Int)) = [])]) | (go_at_call_of 18 aI; refine (eqSegs_any aI ra l l cI rca _ (HII.out.below (nwT CS (by assumption)) (Nat.le_refl _)) (HA.out.below (nwT hSS (by assumption)) (Nat.le_refl _)) hm1).mono ?_; rintro e wq ⟨rfl, hbq2⟩; rw [decide_eq_true (rfl : l = l)]))
                        have hE : Below wS.heap.size wS wq := by assumption
                        clear j0 j1 jz hSB
                        go_wp2_with fail
                        refine (spoil_any gb _ [] _ (HNS.out.below hE) hlX).mono ?_
                        rintro e wF ⟨rfl, gF⟩
                        have CF : Below WI.heap.size WI wF := (nwT CS hE).grown gF (nwT CS hE).size (fun t e => Nat.le_trans hgb ((HNS.out.below hE).lt t e).1)
                        have hSF := nwT HSI.out CF
                        have x0 := K0.out _ hSF
                        have x1 := K1.out _ hSF
                        clear gF hE
                        go_wp2_with fail
                        refine (eqSegs_any aI ra l l cI rca _ (HII.out.below CF (Nat.le_refl _)) (HA.out.below hSF (Nat.le_refl _)) hm1).mono ?_
                        rintro e wG ⟨rfl, hbG⟩
                        rw [decide_eq_true (rfl : l = l)]
                        have CG := nwT CF hbG
                        clear x0 x1 hSF CF hbG
                        go_wp2_with fail
                        go_roundw
                        case rel => exact ⟨q + 1, by omega, by omega, by go_num, CG⟩
                        case measure => simp [intOf]; omega
                  · as_aux_lemma =>
                      have dle : decide (endL l ≤ z) = false := decide_eq_false (fun hle => by
                          have h5 := HNK.out
                          simp only [numB, Bool.and_eq_true, decide_eq_true_eq] at hnb
                          rw [notOk, hv, decide_eq_true hnb.1, decide_eq_true hnb.2, decide_eq_true hle] at h5
                          exact absurd h5 (by decide))
                      go_wp2_with fail
                      go_region_held (fun w' => Below w3.heap.size w3 w') (first | assumption | exact Below.drew (by assumption) | exact nwT (by assumption) (by assumption)) (first | (go_at_call 21; refine (num2_any z 64 _).mono ?_; rintro e wm ⟨rfl, rfl⟩; rw [hnb]) | (go_at_call 22; refine (refEnds_any ra l rca _ (HA.out.below (nwT hS3 (by assumption)) (Nat.le_refl _)) hl1 hv).mono ?_; rintro e we ⟨rfl, hbe⟩))
                      have C34 : Below w3.heap.size w3 we := by assumption
                      have CS : Below WI.heap.size WI we := nwT C3 C34
                      have HNS : Hid (OwnSegs we w2.heap.size (.slice aX ([] : List (Int × Int)).length cX) []) := HON.out.below C34
                      have HXS : Hid (SegsAt we aX []) := HX3.out.below C34 (Nat.le_refl _)
                      generalize we = wS at CS HNS HXS ⊢
                      generalize w2.heap.size = gb at HNS hgb
                      clear i0 i1 iz hS33 C34 C3 HON HX3 hS3 HNE HNK
                      as_aux_lemma =>
                        have hSS : Below W1.heap.size W1 wS := nwT HSI.out CS
                        have j0 : ∀ w', Below wS.heap.size wS w' → w'.cell? ⟨w.heap.size, 0, none⟩ = some (.slice (some ⟨b1, o1, none⟩) ls.length ca) := fun w' h => K0.out w' (nwT hSS h)
                        have j1 : ∀ w', Below wS.heap.size wS w' → w'.cell? ⟨b1, o1 + k, none⟩ = some (.slice ra l.length rca) := fun w' h => K1.out w' (nwT hSS h)
                        have jz : ∀ w', Below wS.heap.size wS w' → w'.cell? ⟨gN, q, none⟩ = some (.int .i64 z) := fun w' h => KZ.out w' (nwT hSS h)
                        have hSB : Below wS.heap.size wS wS := nwR wS
                        go_wp2_with fail
                        go_region_held (fun w' => Below wS.heap.size wS w') (first | assumption | exact Below.drew (by assumption) | exact nwT (by assumption) (by assumption)) (first | (go_at_call 15; refine (num_any _ _).mono ?_; rintro e wn ⟨rfl, rfl⟩) | (go_at_call 24; refine (refHas_any ra l rca z _ (HA.out.below (nwT hSS (by assumption)) (Nat.le_refl _)) hl1 hv).mono ?_; rintro e wh ⟨rfl, hbh⟩; rw [HHB.out]) | (go_at_call_of 18 aX; refine (eqSegs_any aX none [] [] cX 0 _ (HXS.out.below (by assumption) (Nat.le_refl _)) (fun i hi => by simp at hi) hlX).mono ?_; rintro e wp ⟨rfl, hbp⟩; rw [decide_eq_true (rfl : ([] : List (Int × Int)) = [])]) | (go_at_call_of 18 aI; refine (eqSegs_any aI ra l l cI rca _ (HII.out.below (nwT CS (by assumption)) (Nat.le_refl _)) (HA.out.below (nwT hSS (by assumption)) (Nat.le_refl _)) hm1).mono ?_; rintro e wq ⟨rfl, hbq2⟩; rw [decide_eq_true (rfl : l = l)]))
                        have hE : Below wS.heap.size wS wq := by assumption
                        clear j0 j1 jz hSB
                        go_wp2_with fail
                        refine (spoil_any gb _ [] _ (HNS.out.below hE) hlX).mono ?_
                        rintro e wF ⟨rfl, gF⟩
                        have CF : Below WI.heap.size WI wF := (nwT CS hE).grown gF (nwT CS hE).size (fun t e => Nat.le_trans hgb ((HNS.out.below hE).lt t e).1)
                        have hSF := nwT HSI.out CF
                        have x0 := K0.out _ hSF
                        have x1 := K1.out _ hSF
                        clear gF hE
                        go_wp2_with fail
                        refine (eqSegs_any aI ra l l cI rca _ (HII.out.below CF (Nat.le_refl _)) (HA.out.below hSF (Nat.le_refl _)) hm1).mono ?_
                        rintro e wG ⟨rfl, hbG⟩
                        rw [decide_eq_true (rfl : l = l)]
                        have CG := nwT CF hbG
                        clear x0 x1 hSF CF hbG
                        go_wp2_with fail
                        go_roundw
                        case rel => exact ⟨q + 1, by omega, by omega, by go_num, CG⟩
                        case measure => simp [intOf]; omega
              · have hq3 : ¬ ((q : Int) < (NS.length : Int)) ∨ ((q : Int) < (NS.length : Int) ∧ ¬ (q : Int) < 11) := by omega
                clear hq1
                rcases hq3 with hq3 | ⟨hq3, hq4⟩
                all_goals
                  go_wp2_with fail
                  go_roundw
                  case rel => exact ⟨k + 1, by omega, by go_num, nwT HSI.out hbq⟩
                  case measure => simp [intOf]; omega
      · have hk2 : ¬ ((k : Int) < (ls.length : Int)) ∨ ((k : Int) < (ls.length : Int) ∧ ¬ (k : Int) < 5) := by omega
        clear hk1
        rcases hk2 with hk2 | ⟨hk2, hk3⟩
        all_goals
          go_wp2_with fail
          clear c0
          go_loopw [21] (fun j wq => ∃ (n : Nat), n ≤ 11 ∧ n ≤ NS.length + 1 ∧ j = .int .i64 n ∧ Below W1.heap.size W1 wq)
            (fun j _ => 12 - (intOf j).toNat)
          case atStart => exact ⟨0, by omega, by omega, rfl, hb⟩
          case round =>
            obtain ⟨n, hn11, hnN, rfl, hbq⟩ := hrel
            clear hb
            by_cases hn1 : (n : Int) ≤ (NS.length : Int) ∧ (n : Int) < 11
            · obtain ⟨hn1, hn2⟩ := hn1
              have hnn : n ≤ NS.length := by omega
              as_aux_lemma =>
                have hnc : (n : Int) ≤ (cN : Int) := by omega
                have hnc' : n ≤ cN := by omega
                go_wp2_with fail
                refine (of_take (some ⟨gN, 0, none⟩) NS n cN _ (HIN.out.below hbq (Nat.le_refl _)) hnn (by unfold maxLen; omega)).mono ?_
                rintro e w2 ⟨vo, rfl, hoo, hb2⟩
                have hS2 := nwT hbq hb2
                have HOO : Hid (OwnSegs w2 wr.heap.size vo (ofSet (NS.take n))) := hoo
                clear hoo hb2 hbq
                have HJ0 : Hid (SetJ (w2.alloc (.cells (setArr fun _ => false) 50)) w2.heap.size (memI (NS.take 0))) := SetJ.same (SetJ.new w2 _) (fun j _ => by simp [memI])
                go_wp2_with (with_reducible refine wpList_alloc50 rfl rfl ?_)
                go_loopw [24, 26] (fun bd j wq => ∃ (m : Nat), m ≤ n ∧ j = .int .i64 m ∧ bd = .int .i64 (errOf (allIn (NS.take m))) ∧ SetJ wq w2.heap.size (memI (NS.take m)) ∧ Below w2.heap.size w2 wq)
                  (fun _ j _ => n - (intOf j).toNat)
                case atStart => exact ⟨0, by omega, rfl, rfl, HJ0.out, nwA (nwR w2) _⟩
                case round =>
                  obtain ⟨m, hmn, rfl, rfl, hJ, hbr⟩ := hrel
                  have HJ : Hid (SetJ wr w2.heap.size (memI (NS.take m))) := hJ
                  clear hJ
                  by_cases hm : m < n
                  · have hmi : (m : Int) < (n : Int) := by omega
                    have hmN : m < NS.length := by omega
                    have hmNi : (m : Int) < (NS.length : Int) := by omega
                    obtain ⟨b9, o9, he9, x9⟩ := (HIN.out.below (nwT hS2 hbr) (Nat.le_refl _)) m hmN
                    simp only [Option.some.injEq, Addr.mk.injEq, and_true] at he9
                    obtain ⟨rfl, rfl⟩ := he9
                    simp only [Nat.zero_add] at x9
                    have HT1 : Hid (∀ q, memI (NS.take (m + 1)) q = (memI (NS.take m) q || decide (NS.getD m 0 = q))) := fun q => memI_take NS m q hmN
                    have HT2 : Hid (allIn (NS.take (m + 1)) = (allIn (NS.take m) && mayB (NS.getD m 0) 1)) := allIn_take NS m hmN
                    generalize NS.getD m 0 = z at x9 HT1 HT2
                    go_wp2_with fail
                    refine (num2_any z 63 _).mono ?_
                    rintro e w5 ⟨rfl, rfl⟩
                    cases hnb : numB z 63
                    · have HA2 : Hid (allIn (NS.take (m + 1)) = false) := by show _ = _; rw [HT2.out, mayB_num, hnb, Bool.and_false]
                      have HJ2 : Hid (SetJ w5 w2.heap.size (memI (NS.take (m + 1)))) := SetJ.same HJ.out (fun q hq => by
                        rw [HT1.out q]
                        have : decide (z = (q : Int)) = false := by
                          rw [decide_eq_false_iff_not]
                          intro e
                          rw [numB] at hnb
                          simp only [Bool.and_eq_false_iff, decide_eq_false_iff_not] at hnb
                          omega
                        rw [this, Bool.or_false])
                      clear HT1 HT2
                      go_wp2_with fail
                      go_roundw
                      case rel => exact ⟨m + 1, by omega, by go_num, by rw [HA2.out]; rfl, HJ2.out, hbr⟩
                      case measure => simp [intOf]; omega
                    · have hn2' := hnb
                      simp only [numB, Bool.and_eq_true, decide_eq_true_eq] at hn2'
                      have HA2 : Hid (allIn (NS.take (m + 1)) = allIn (NS.take m)) := by show _ = _; rw [HT2.out, mayB_num, hnb, Bool.and_true]
                      obtain ⟨y, hy⟩ := Int.eq_ofNat_of_zero_le hn2'.1
                      subst hy
                      have hy64 : y < 64 := by omega
                      have q3 := HJ.out.cell hy64
                      have f3 := HJ.out.frozen y
                      have l3 := HJ.out.lt
                      simp only [setRow] at q3
                      have HJ2 : Hid (SetJ (w5.setCell ⟨w2.heap.size, y, none⟩ (.bool true)) w2.heap.size (memI (NS.take (m + 1)))) := SetJ.hit HJ.out (fun q _ => by
                        rw [HT1.out q]
                        congr 1
                        rw [decide_eq_decide]
                        omega)
                      have HB2 : Hid (Below w2.heap.size w2 (w5.setCell ⟨w2.heap.size, y, none⟩ (.bool true))) := hbr.setCell (p := ⟨w2.heap.size, y, none⟩) (Nat.le_refl _) _
                      clear HT1 HT2
                      go_wp2_with fail
                      go_roundw
                      case rel => exact ⟨m + 1, by omega, by go_num, by rw [HA2.out], HJ2.out, HB2.out⟩
                      case measure => simp [intOf]; omega
                  · have hmn' : m = n := by omega
                    subst hmn'
                    obtain ⟨aO, cO, rfl, hsO⟩ := HOO.out.at
                    have hlO := len_of_own HOO.out
                    have HSO : Hid (SegsAt w2 aO (ofSet (NS.take m))) := hsO
                    have HOF : Hid (allIn (NS.take m) = false → ofSet (NS.take m) = []) := fun h => by rw [ofSet, h]; rfl
                    have HOT : Hid (allIn (NS.take m) = true → segsOf (memI (NS.take m)) = ofSet (NS.take m)) := fun h => by rw [ofSet, h]; rfl
                    clear hsO HOO
                    generalize ofSet (NS.take m) = OS at HSO HOF HOT hlO
                    cases hA : allIn (NS.take m)
                    · obtain rfl : OS = [] := HOF.out hA
                      rw [show errOf false = 1 from rfl]
                      clear HOF HOT
                      go_wp2_with (go_at_call 15; refine (num_any _ _).mono ?_; rintro e wn ⟨rfl, rfl⟩)
                      refine (eqSegs_any aO none [] [] cO 0 _ (HSO.out.below hbr (Nat.le_refl _)) (fun i hi => by simp at hi) hlO).mono ?_
                      rintro e w6 ⟨rfl, hb6⟩
                      rw [decide_eq_true (rfl : ([] : List (Int × Int)) = [])]
                      go_wp2_with fail
                      go_roundw
                      case rel => exact ⟨m + 1, by omega, by omega, by go_num, nwT (nwT hS2 hbr) hb6⟩
                      case measure => simp [intOf]; omega
                    · have HE : Hid _ := HOT.out hA
                      rw [show errOf true = 0 from rfl]
                      clear HOF HOT
                      go_wp2_with (with_reducible refine stop_load50 rfl ?_)
                      unfold Stop
                      refine wpList_load50 rfl (.tmp 25) rfl w2.heap.size _ rfl HJ.out ?_
                      go_wp2_with fail
                      refine (refOf_any _ _).mono ?_
                      rintro e w6 ⟨vz, rfl, hoz, hb6⟩
                      rw [HE.out] at hoz
                      obtain ⟨aZ, cZ, rfl, hsZ⟩ := hoz.at
                      have HSZ : Hid (SegsAt w6 aZ OS) := hsZ
                      have hbr6 := nwT hbr hb6
                      clear hsZ hoz HE HJ
                      go_wp2_with (go_at_call 15; refine (num_any _ _).mono ?_; rintro e wn ⟨rfl, rfl⟩)
                      refine (eqSegs_any aO aZ OS OS cO cZ _ (HSO.out.below hbr6 (Nat.le_refl _)) HSZ.out hlO).mono ?_
                      rintro e w7 ⟨rfl, hb7⟩
                      rw [decide_eq_true (rfl : OS = OS)]
                      go_wp2_with fail
                      go_roundw
                      case rel => exact ⟨m + 1, by omega, by omega, by go_num, nwT (nwT hS2 hbr6) hb7⟩
                      case measure => simp [intOf]; omega
            · have hn3 : ¬ ((n : Int) ≤ (NS.length : Int)) ∨ ((n : Int) ≤ (NS.length : Int) ∧ ¬ (n : Int) < 11) := by omega
              clear hn1
              rcases hn3 with hn3 | ⟨hn3, hn4⟩
              all_goals
                go_wp2_with fail
                refine (wakes_any _).mono ?_
                rintro e w3 ⟨rfl, hb3⟩
                go_wp2_with fail
                go_ret
                exact ⟨rfl, nwT HN1.out (nwT hbq hb3)⟩
  · go_wp2_with fail
    go_ret
    exact ⟨rfl, nwT HN0.out hb1⟩

end Go.Proofs.Ytpkgoagoceddoaa
