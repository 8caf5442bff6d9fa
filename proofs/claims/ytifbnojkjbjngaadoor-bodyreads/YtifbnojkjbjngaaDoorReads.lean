/- The law BodyReads walked. -/
import Derived.Test.YtifbnojkjbjngaaDoorNs
import Derived.Test.YtifbnojkjbjngaaDoorEdges
namespace Go.Proofs.YtifbnojkjbjngaaDoor
open Go.RowKit

set_option maxRecDepth 100000 in
set_option maxHeartbeats 16000000 in
theorem reads_walk : LawOk 3 := by
  intro v d w hv
  have HV : Hid (AskVal w v d) := hv
  obtain ⟨aS, cS, aL, cL, aN, cN, rfl, ⟨hS, hcS, hzS⟩, _, ⟨hN, hcN, hlN, hrN⟩⟩ := hv
  have HS : Hid (StrsAt w aS d.s) := hS
  have HN : Hid (IntsAt w aN d.n) := hN
  have HCN : Hid (CapOk aN cN d.n.length) := hcN
  clear hS hcS hzS hN hcN hlN hrN
  obtain ⟨S, L, N⟩ := d
  simp only at *
  obtain ⟨i3, hi3, hz30, hz31, hz32⟩ := info_parts Tryd.info3
  go_enter Tryd.func3, Tryd.ntmps3
  go_wp2_with fail
  have hb0 := nwA (nwR w) (.cells #[.slice aS S.length cS, .slice aL L.length cL, .slice aN N.length cN] 26)
  refine (heavy_any _ ⟨S, L, N⟩ _ (HV.out.below hb0)).mono ?_
  rintro e w1 ⟨q, rfl, hb1, hq⟩
  have c0 : w1.cell? ⟨w.heap.size, 0, none⟩ = some (.slice aS S.length cS) := (hb1.cell (p := ⟨w.heap.size, 0, none⟩) (by simp)).trans (by simp)
  have c1 : w1.cell? ⟨w.heap.size, 1, none⟩ = some (.slice aL L.length cL) := (hb1.cell (p := ⟨w.heap.size, 1, none⟩) (by simp)).trans (by simp)
  have c2 : w1.cell? ⟨w.heap.size, 2, none⟩ = some (.slice aN N.length cN) := (hb1.cell (p := ⟨w.heap.size, 2, none⟩) (by simp)).trans (by simp)
  have HB1 : Hid (Below w.heap.size w w1) := nwT hb0 hb1
  clear hb0 hb1
  cases q
  case true =>
    go_wp2_with fail
    go_ret
    exact ⟨rfl, HB1.out⟩
  case false =>
    have HLT : Hid (∀ x ∈ S, x.size ≤ 4000) := light_s (hq rfl)
    have HLI : Hid (Light ⟨S, L, N⟩) := hq rfl
    have hlS : S.length ≤ 4000 := by have := hq rfl; unfold Light wgt at this; simp only at this; omega
    have hlN : N.length ≤ 4000 := by have := hq rfl; unfold Light wgt at this; simp only at this; omega
    have HS1 : Hid (StrsAt w1 aS S) := HS.out.below HB1.out
    have HN1 : Hid (IntsAt w1 aN N) := HN.out.below HB1.out
    have HV1 : Hid (AskVal w1 (.agg #[.slice aS S.length cS, .slice aL L.length cL, .slice aN N.length cN]) ⟨S, L, N⟩) := HV.out.below HB1.out
    clear hq HS HN HV
    generalize hgB : w.heap.size = gB at c0 c1 c2 ⊢
    have HC0 : Hid (∀ w', Below w1.heap.size w1 w' → w'.cell? ⟨gB, 0, none⟩ = some (.slice aS S.length cS)) := fun w' h => (h.cell (p := ⟨gB, 0, none⟩) (block_lt_of_cell c0)).trans c0
    have HC1 : Hid (∀ w', Below w1.heap.size w1 w' → w'.cell? ⟨gB, 1, none⟩ = some (.slice aL L.length cL)) := fun w' h => (h.cell (p := ⟨gB, 1, none⟩) (block_lt_of_cell c1)).trans c1
    have HC2 : Hid (∀ w', Below w1.heap.size w1 w' → w'.cell? ⟨gB, 2, none⟩ = some (.slice aN N.length cN)) := fun w' h => (h.cell (p := ⟨gB, 2, none⟩) (block_lt_of_cell c2)).trans c2
    clear c0 c1 c2
    go_wp2_with fail
    rename_i KK KH
    have HKH : Hid _ := KH
    clear KH
    have key : ∀ (u2 u3 u4 u5 u6 u7 u26 u27 u28 u29 u30 u31 u32 u33 u34 u35 u36 u37 u38 u39 u40 u41 u42 u43 u44 u45 u46 u47 u48 u49 u50 u51 u52 u53 u54 u55 u56 u57 u58 u59 u60 u61 u62 u63 u64 u65 u66 u67 u68 : Value) (wr : World), Below w1.heap.size w1 wr → KK ⟨#[.agg #[.slice aS S.length cS, .slice aL L.length cL, .slice aN N.length cN], .pointer (some ⟨gB, 0, none⟩), u2, u3, u4, u5, u6, u7, undef, undef, undef, undef, undef, undef, undef, undef, undef, undef, undef, undef, undef, undef, undef, undef, .agg #[.slice aS S.length cS, .slice aL L.length cL, .slice aN N.length cN], .bool false, u26, u27, u28, u29, u30, u31, u32, u33, u34, u35, u36, u37, u38, u39, u40, u41, u42, u43, u44, u45, u46, u47, u48, u49, u50, u51, u52, u53, u54, u55, u56, u57, u58, u59, u60, u61, u62, u63, u64, u65, u66, u67, u68, undef, undef, undef, undef, undef, undef, undef, undef, undef, undef, undef, undef, undef, undef, undef, undef, undef, undef, undef, undef, undef, undef, undef, undef, undef, undef, undef, undef, undef, undef, undef, undef, undef, undef, undef, undef, undef, undef, undef, undef, undef, undef, undef, undef, undef, undef, undef, undef, undef, undef, undef, undef, undef, undef, undef, undef, undef, undef, undef, undef, undef, undef, undef, undef, undef, undef, undef, undef, undef, undef, undef, undef, undef, undef, undef, undef, undef, undef, undef, undef, undef, undef, undef, undef, undef, undef, undef, undef, undef, undef, undef, undef, undef, undef, undef, undef, undef, undef, undef, undef, undef, undef, undef, undef, undef, undef, undef, undef, undef, undef, undef, undef, undef, undef, undef, undef, undef, undef, undef, undef, undef, undef, undef, undef, undef, undef, undef, undef, undef, undef, undef, undef, undef, undef, undef, undef, undef, undef, undef, undef, undef, undef, undef, undef, undef, undef, undef, undef, undef, undef, undef, undef, undef, undef, undef, undef, undef], []⟩ wr := by
      clear HS1
      intro u2 u3 u4 u5 u6 u7 u26 u27 u28 u29 u30 u31 u32 u33 u34 u35 u36 u37 u38 u39 u40 u41 u42 u43 u44 u45 u46 u47 u48 u49 u50 u51 u52 u53 u54 u55 u56 u57 u58 u59 u60 u61 u62 u63 u64 u65 u66 u67 u68 wr hb
      refine HKH.out _ _ ?_
      have c2 := HC2.out _ hb
      have c0 := HC0.out _ hb
      have c1 := HC1.out _ hb
      have hNb := HN1.out.below hb
      have hbb : wr.heap.size ≤ (wr.alloc (.cells #[.int .i64 0, .int .i64 1, .int .i64 31, .int .i64 32, .int .i64 33, .int .i64 200, .int .i64 (-1)] 3)).heap.size := (nwA (nwR wr) _).size
      have hN8 : 7 + N.length ≤ maxLen := by unfold maxLen; omega
      have hal := nwA (nwR wr) (.cells #[.int .i64 0, .int .i64 1, .int .i64 31, .int .i64 32, .int .i64 33, .int .i64 200, .int .i64 (-1)] 3)
      have c2' : (wr.alloc (.cells #[.int .i64 0, .int .i64 1, .int .i64 31, .int .i64 32, .int .i64 33, .int .i64 200, .int .i64 (-1)] 3)).cell? ⟨gB, 2, none⟩ = some (.slice aN N.length cN) := HC2.out _ (nwA hb _)
      have HSRC : Hid (∀ p, aN = some p → ∀ j u, (N.map (Value.int .i64))[j]? = some u → (wr.alloc (.cells #[.int .i64 0, .int .i64 1, .int .i64 31, .int .i64 32, .int .i64 33, .int .i64 200, .int .i64 (-1)] 3)).cell? (p.add j) = some u) := (hNb.below hal).src
      have HNZ : Hid (aN = none → N.length = 0 ∧ cN = 0) := hNb.none_zero HCN.out
      go_wp2_with (at_builtin; go_loud (refine wpList_append_in _ rfl (.tmp 69) (.tmp 71) 24 rfl wr.heap.size 3 i3 (.int .i64 0) 8 Tryd.underlying24 hi3 hz30 hz31 hz32 rfl (.slice (some ⟨wr.heap.size, 0, none⟩) 7 7) 7 [.int .i64 0, .int .i64 1, .int .i64 31, .int .i64 32, .int .i64 33, .int .i64 200, .int .i64 (-1)] rfl (own_new wr 3 [.int .i64 0, .int .i64 1, .int .i64 31, .int .i64 32, .int .i64 33, .int .i64 200, .int .i64 (-1)] (by decide)) aN N.length cN (N.map (.int .i64)) (by simp) rfl HSRC.out HNZ.out (ints_one N) hN8 (by omega) hbb ?_); intro v8 w2 hown hgrow; refine unstop ?_)
      unfold Stop
      have hb2 : Below wr.heap.size wr w2 := hal.grown hgrow hal.size (fun q e => by have : q = wr.heap.size := by simpa [Value.ownBlock] using e.symm
                                                                                     omega)
      have HO8 : Hid (OwnInts w2 wr.heap.size v8 ([0, 1, 31, 32, 33, 200, -1] ++ N)) := by unfold OwnInts; rw [List.length_append, List.map_append]; exact hown
      have hb21 := nwT hb hb2
      clear hown hgrow hal HSRC hNb c2 c2' hbb
      obtain ⟨a8, c8, rfl, hat8, hcp8⟩ := HO8.out.at
      have HA8 : Hid (IntsAt w2 a8 ([0, 1, 31, 32, 33, 200, -1] ++ N)) := hat8
      have hln : ([0, 1, 31, 32, 33, 200, -1] ++ N : List Int).length ≤ 4007 := by rw [List.length_append]; simp; omega
      generalize ([0, 1, 31, 32, 33, 200, -1] ++ N : List Int) = NS at HA8 hln
      clear hat8 hcp8 HO8
      have c0 := HC0.out _ hb21
      have c1 := HC1.out _ hb21
      have c2 := HC2.out _ hb21
      go_wp2_with fail
      refine (texts_law _ ⟨S, L, N⟩ _ (HV1.out.below hb21) HLI.out).mono ?_
      rintro e w3 ⟨NN, LL, aN3, cN3, aL3, cL3, rfl, hNLl, hN15, hatN, hatL, hLL, hb3⟩
      have hb31 := nwT hb21 hb3
      have HA8' : Hid (IntsAt w3 a8 NS) := HA8.out.below hb3
      have HNN : Hid (IntsAt w3 aN3 NN) := hatN
      have HLR : Hid (RowsAt w3 aL3 LL) := hatL
      have HLLn : Hid (∀ x ∈ LL, x.length ≤ 4000) := hLL
      have HNLl : Hid (NN.length = LL.length) := hNLl
      have hNL1 : NN.length ≤ LL.length := by omega
      clear hatN hatL hLL hNLl hb3 HA8 c0 c1 c2 HV1
      go_wp2_with fail
      go_loopw [11] (fun i wr2 => ∃ (p : Nat), p ≤ NN.length ∧ i = .int .i64 p ∧ Below w3.heap.size w3 wr2) (fun i _ => NN.length - (intOf i).toNat)
      case atStart => exact ⟨0, by omega, rfl, nwR w3⟩
      case round =>
        obtain ⟨p, hp, rfl, hbp⟩ := hrel
        by_cases hp1 : (p : Int) < (NN.length : Int)
        · have hpN : p < NN.length := by omega
          have hpL : p < LL.length := by omega
          have hpLi : (p : Int) < (LL.length : Int) := by omega
          obtain ⟨bN, oN, rfl, hcN⟩ := HNN.out.cell hpN
          obtain ⟨bL, oL, rfl, aR, cR, hcR, hsR, hcapR⟩ := HLR.out.row hpL
          have HCn : Hid (∀ w', Below w3.heap.size w3 w' → w'.cell? ⟨bN, oN + p, none⟩ = some (.int .i64 (NN.getD p 0))) := fun w' h => (h.cell (p := ⟨bN, oN + p, none⟩) (block_lt_of_cell hcN)).trans hcN
          have HCX : Hid (∀ w', Below w3.heap.size w3 w' → w'.cell? ⟨bL, oL + p, none⟩ = some (.slice aR (LL.getD p []).length cR)) := fun w' h => (h.cell (p := ⟨bL, oL + p, none⟩) (block_lt_of_cell hcR)).trans hcR
          have HSX : Hid (StrsAt w3 aR (LL.getD p [])) := hsR
          have hlX := HLLn.out (LL.getD p []) (by simp [List.getD, hpL])
          generalize LL.getD p [] = X at HCX HSX hlX
          generalize NN.getD p 0 = n at HCn
          clear hcN hcR hsR hcapR
          have cX := HCX.out _ hbp
          go_wp2_with fail
          refine (copy_strs aR X cR _ (HSX.out.below hbp) hlX).mono ?_
          rintro e w4 ⟨⟨vI, rfl, hoI⟩, hb4⟩
          obtain ⟨aI, cI, rfl, hsI, hcI⟩ := cap_of hoI
          have HI4 : Hid (StrsAt w4 aI X) := hsI
          have hcpI := hcI.1
          have hb4p := nwT hbp hb4
          clear hoI hsI hcI hb4 cX
          go_wp2_with fail
          have HPC : Hid (∀ p' : Kin w4, Calls Tryd.prog 15 #[.int .i64 n, .slice aR X.length cR] p'.u fun e w' => e = .returned (.bool (mayB n X)) ∧ w' = p'.u) := fun p' => rpieces_any aR X cR n p'.u (HSX.out.below (nwT hb4p p'.h)) (by omega)
          have z1 : ∀ p1 : Kin w4, p1.u.cell? ⟨bN, oN + p, none⟩ = some (.int .i64 n) := fun p1 => HCn.out _ (nwT hb4p p1.h)
          have z2 : ∀ p1 : Kin w4, p1.u.cell? ⟨bL, oL + p, none⟩ = some (.slice aR X.length cR) := fun p1 => HCX.out _ (nwT hb4p p1.h)
          refine wp_region_kin (by kernel_rfl) (by kernel_rfl) ?_
          repeat (first | go_big_quiet_step (first | (go_at_call 15; exact Calls.kin_same (HPC.out _)) | fail) | quiet_step (first | (go_at_call 15; exact Calls.kin_same (HPC.out _)) | fail))
          refine wpQuiet_nil ?_
          intro _ hw'
          obtain ⟨pq, hw''⟩ := hw'
          subst hw''
          clear z1 z2
          have hb5 := nwT hb4p pq.h
          have HI5 : Hid (StrsAt pq.u aI X) := HI4.out.below pq.h
          generalize pq.u = w5 at hb5 HI5 ⊢
          have cn := HCn.out _ hb5
          clear HPC HI4
          go_wp2_with fail
          refine (bjoin_any aI X cI n _ HI5.out hcpI (by unfold maxLen; omega)).mono ?_
          rintro e w6' ⟨rfl, hb6'⟩
          have hb6a := nwT hb5 hb6'
          have HI6a : Hid (StrsAt w6' aI X) := HI5.out.below hb6'
          clear cn HI5 hb6'
          cases hM : mayB n X
          · have hJ : joined n X = #[.string ⟨#[]⟩, .int .i64 1] := by unfold joined; rw [hM]; rfl
            rw [hJ]
            clear hJ
            have cX := HCX.out _ hb6a
            go_wp2_with (go_at_call 11; refine (num_w _ _).mono ?_; rintro e w' ⟨rfl, rfl⟩)
            refine (eqs_same aI aR X _ cI cR _ rfl HI6a.out (HSX.out.below hb6a) hlX).mono ?_
            rintro e w6 ⟨rfl, hb6'⟩
            have hb6 := nwT hb6a hb6'
            have HI6 : Hid (StrsAt w6 aI X) := HI6a.out.below hb6'
            clear cX hb6' HI6a
            go_wp2_with fail
            go_loopw [18] (fun aa wr3 => ∃ (a : Nat), a ≤ NS.length ∧ a ≤ 12 ∧ aa = .int .i64 a ∧ Below w6.heap.size w6 wr3) (fun aa _ => NS.length - (intOf aa).toNat)
            case atStart => exact ⟨0, by omega, by omega, rfl, nwR w6⟩
            case round =>
              obtain ⟨a, ha, ha12, rfl, hba⟩ := hrel
              by_cases ha1 : (a : Int) < (NS.length : Int) ∧ (a : Int) < 12
              · obtain ⟨ha2, ha3⟩ := ha1
                have haN : a < NS.length := by omega
                obtain ⟨b8, o8, rfl, hca⟩ := HA8'.out.cell haN
                have HCA : Hid (∀ w', Below w3.heap.size w3 w' → w'.cell? ⟨b8, o8 + a, none⟩ = some (.int .i64 (NS.getD a 0))) := fun w' h => (h.cell (p := ⟨b8, o8 + a, none⟩) (block_lt_of_cell hca)).trans hca
                generalize NS.getD a 0 = x at HCA
                clear hca
                go_wp2_with fail
                go_loopw [19] (fun bb wr4 => ∃ (b : Nat), b ≤ NS.length ∧ b ≤ 12 ∧ bb = .int .i64 b ∧ Below w6.heap.size w6 wr4) (fun bb _ => NS.length - (intOf bb).toNat)
                case atStart => exact ⟨0, by omega, by omega, rfl, hba⟩
                case round =>
                  obtain ⟨b, hb', hb12, rfl, hbb⟩ := hrel
                  by_cases hb1' : (b : Int) < (NS.length : Int) ∧ (b : Int) < 12
                  · obtain ⟨hb2', hb3'⟩ := hb1'
                    have hbN : b < NS.length := by omega
                    obtain ⟨b8', o8', e8, hcb⟩ := HA8'.out.cell hbN
                    injection e8 with e8
                    injection e8 with e81 e82
                    subst e81; subst e82
                    have HCB : Hid (∀ w', Below w3.heap.size w3 w' → w'.cell? ⟨b8, o8 + b, none⟩ = some (.int .i64 (NS.getD b 0))) := fun w' h => (h.cell (p := ⟨b8, o8 + b, none⟩) (block_lt_of_cell hcb)).trans hcb
                    generalize NS.getD b 0 = m at HCB
                    clear hcb
                    have hb3r := nwT hb6 hbb
                    have HRD : Hid (∀ p : Kin wr, Calls Tryd.prog 18 #[.int .i64 n, .slice aI X.length cI, .int .i64 x, .int .i64 m] p.u fun e w' => e = .returned (.tuple (readed n X x m)) ∧ Below p.u.heap.size p.u w') := fun p => bread_any aI X cI n x m p.u (HI6.out.below (nwT hbb p.h)) hcpI (by unfold maxLen; omega)
                    have hRD : readed n X x m = #[.string ⟨#[]⟩, .int .i64 1] := readed_no (by unfold readOk; rw [hM]; rfl)
                    rw [hRD] at HRD
                    clear hRD
                    go_wp2_with fail
                    have z9 : ∀ p1 : Kin wr, p1.u.cell? ⟨bN, oN + p, none⟩ = some (.int .i64 n) := fun p1 => HCn.out _ (nwT hb3r p1.h)
                    have za : ∀ p1 : Kin wr, p1.u.cell? ⟨b8, o8 + a, none⟩ = some (.int .i64 x) := fun p1 => HCA.out _ (nwT hb3r p1.h)
                    have zb : ∀ p1 : Kin wr, p1.u.cell? ⟨b8, o8 + b, none⟩ = some (.int .i64 m) := fun p1 => HCB.out _ (nwT hb3r p1.h)
                    refine wp_region_kin (by kernel_rfl) (by kernel_rfl) ?_
                    repeat (first | go_big_quiet_step (first | (go_at_call 18; exact Calls.kin_of (HRD.out _)) | fail) | quiet_step (first | (go_at_call 18; exact Calls.kin_of (HRD.out _)) | fail))
                    refine wpQuiet_nil ?_
                    intro _ hw'
                    obtain ⟨pq, hw''⟩ := hw'
                    subst hw''
                    clear z9 za zb
                    have hbq := nwT hbb pq.h
                    generalize pq.u = Wq at hbq ⊢
                    have hb3q := nwT hb6 hbq
                    go_wp2_with fail
                    refine wp_region_kin (by kernel_rfl) (by kernel_rfl) ?_
                    repeat (first | go_big_quiet_step (fail) | quiet_step (fail))
                    refine wpQuiet_nil ?_
                    intro _ hw'
                    obtain ⟨pq, hw''⟩ := hw'
                    subst hw''
                    have hbz := nwT hbq pq.h
                    generalize pq.u = Wz at hbz ⊢
                    go_wp2_with (go_at_call 11; refine (num_w _ _).mono ?_; rintro e w' ⟨rfl, rfl⟩)
                    go_roundw
                    case rel => exact ⟨b + 1, by omega, by omega, by go_num, hbz⟩
                    case measure => simp [intOf]; omega
                  · by_cases hk2 : (b : Int) < (NS.length : Int)
                    · have hk5 : ¬ (b : Int) < 12 := fun h => hb1' ⟨hk2, h⟩
                      clear hb1'
                      go_wp2_with fail
                      go_roundw
                      case rel => exact ⟨a + 1, by omega, by omega, by go_num, hbb⟩
                      case measure => simp [intOf]; omega
                    · clear hb1'
                      go_wp2_with fail
                      go_roundw
                      case rel => exact ⟨a + 1, by omega, by omega, by go_num, hbb⟩
                      case measure => simp [intOf]; omega
              · by_cases hk2 : (a : Int) < (NS.length : Int)
                · have hk5 : ¬ (a : Int) < 12 := fun h => ha1 ⟨hk2, h⟩
                  clear ha1
                  go_wp2_with fail
                  go_roundw
                  case rel => exact ⟨p + 1, by omega, by go_num, nwT hb6 hba⟩
                  case measure => simp [intOf]; omega
                · clear ha1
                  go_wp2_with fail
                  go_roundw
                  case rel => exact ⟨p + 1, by omega, by go_num, nwT hb6 hba⟩
                  case measure => simp [intOf]; omega
          · have hJ : joined n X = #[.string (bs (tx n X)), .int .i64 0] := by unfold joined; rw [hM]; rfl
            rw [hJ]
            clear hJ
            go_wp2_with fail
            have HJN : Hid (∀ p' : Kin w6', Calls Tryd.prog 17 #[.int .i64 n, .slice aR X.length cR] p'.u fun e w' => e = .returned (.string (bs (tx n X))) ∧ w' = p'.u) := fun p' => rjoin_any aR X cR n p'.u (HSX.out.below (nwT hb6a p'.h)) hM
            have z1 : ∀ p1 : Kin w6', p1.u.cell? ⟨bN, oN + p, none⟩ = some (.int .i64 n) := fun p1 => HCn.out _ (nwT hb6a p1.h)
            have z2 : ∀ p1 : Kin w6', p1.u.cell? ⟨bL, oL + p, none⟩ = some (.slice aR X.length cR) := fun p1 => HCX.out _ (nwT hb6a p1.h)
            refine wp_region_kin (by kernel_rfl) (by kernel_rfl) ?_
            repeat (first | go_big_quiet_step (first | (go_at_call 17; exact Calls.kin_same (HJN.out _)) | fail) | quiet_step (first | (go_at_call 17; exact Calls.kin_same (HJN.out _)) | fail))
            refine wpQuiet_nil ?_
            intro _ hw'
            obtain ⟨pq, hw''⟩ := hw'
            subst hw''
            clear z1 z2
            have hb7 := nwT hb6a pq.h
            have HI7 : Hid (StrsAt pq.u aI X) := HI6a.out.below pq.h
            generalize pq.u = w7 at hb7 HI7 ⊢
            have cX := HCX.out _ hb7
            clear HJN
            go_wp2_with (go_at_call 11; refine (num_w _ _).mono ?_; rintro e w' ⟨rfl, rfl⟩)
            refine (eqs_same aI aR X _ cI cR _ rfl HI7.out (HSX.out.below hb7) hlX).mono ?_
            rintro e w6 ⟨rfl, hb6'⟩
            have hb6 := nwT hb7 hb6'
            have HI6 : Hid (StrsAt w6 aI X) := HI7.out.below hb6'
            have hnope : True := trivial
            clear cX hb6' HI6a HI7
            go_wp2_with fail
            go_loopw [18] (fun aa wr3 => ∃ (a : Nat), a ≤ NS.length ∧ a ≤ 12 ∧ aa = .int .i64 a ∧ Below w6.heap.size w6 wr3) (fun aa _ => NS.length - (intOf aa).toNat)
            case atStart => exact ⟨0, by omega, by omega, rfl, nwR w6⟩
            case round =>
              obtain ⟨a, ha, ha12, rfl, hba⟩ := hrel
              by_cases ha1 : (a : Int) < (NS.length : Int) ∧ (a : Int) < 12
              · obtain ⟨ha2, ha3⟩ := ha1
                have haN : a < NS.length := by omega
                obtain ⟨b8, o8, rfl, hca⟩ := HA8'.out.cell haN
                have HCA : Hid (∀ w', Below w3.heap.size w3 w' → w'.cell? ⟨b8, o8 + a, none⟩ = some (.int .i64 (NS.getD a 0))) := fun w' h => (h.cell (p := ⟨b8, o8 + a, none⟩) (block_lt_of_cell hca)).trans hca
                generalize NS.getD a 0 = x at HCA
                clear hca
                go_wp2_with fail
                go_loopw [19] (fun bb wr4 => ∃ (b : Nat), b ≤ NS.length ∧ b ≤ 12 ∧ bb = .int .i64 b ∧ Below w6.heap.size w6 wr4) (fun bb _ => NS.length - (intOf bb).toNat)
                case atStart => exact ⟨0, by omega, by omega, rfl, hba⟩
                case round =>
                  obtain ⟨b, hb', hb12, rfl, hbb⟩ := hrel
                  by_cases hb1' : (b : Int) < (NS.length : Int) ∧ (b : Int) < 12
                  · obtain ⟨hb2', hb3'⟩ := hb1'
                    have hbN : b < NS.length := by omega
                    obtain ⟨b8', o8', e8, hcb⟩ := HA8'.out.cell hbN
                    injection e8 with e8
                    injection e8 with e81 e82
                    subst e81; subst e82
                    have HCB : Hid (∀ w', Below w3.heap.size w3 w' → w'.cell? ⟨b8, o8 + b, none⟩ = some (.int .i64 (NS.getD b 0))) := fun w' h => (h.cell (p := ⟨b8, o8 + b, none⟩) (block_lt_of_cell hcb)).trans hcb
                    generalize NS.getD b 0 = m at HCB
                    clear hcb
                    have hb3r := nwT hb6 hbb
                    have HRD : Hid (∀ p : Kin wr, Calls Tryd.prog 18 #[.int .i64 n, .slice aI X.length cI, .int .i64 x, .int .i64 m] p.u fun e w' => e = .returned (.tuple (readed n X x m)) ∧ Below p.u.heap.size p.u w') := fun p => bread_any aI X cI n x m p.u (HI6.out.below (nwT hbb p.h)) hcpI (by unfold maxLen; omega)
                    cases hNu : numB x n
                    · clear hnope
                      have hRD : readed n X x m = #[.string ⟨#[]⟩, .int .i64 1] := readed_no (by unfold readOk; rw [hM, hNu]; rfl)
                      rw [hRD] at HRD
                      clear hRD
                      go_wp2_with fail
                      have z9 : ∀ p1 : Kin wr, p1.u.cell? ⟨bN, oN + p, none⟩ = some (.int .i64 n) := fun p1 => HCn.out _ (nwT hb3r p1.h)
                      have za : ∀ p1 : Kin wr, p1.u.cell? ⟨b8, o8 + a, none⟩ = some (.int .i64 x) := fun p1 => HCA.out _ (nwT hb3r p1.h)
                      have zb : ∀ p1 : Kin wr, p1.u.cell? ⟨b8, o8 + b, none⟩ = some (.int .i64 m) := fun p1 => HCB.out _ (nwT hb3r p1.h)
                      refine wp_region_kin (by kernel_rfl) (by kernel_rfl) ?_
                      repeat (first | go_big_quiet_step (first | (go_at_call 18; exact Calls.kin_of (HRD.out _)) | fail) | quiet_step (first | (go_at_call 18; exact Calls.kin_of (HRD.out _)) | fail))
                      refine wpQuiet_nil ?_
                      intro _ hw'
                      obtain ⟨pq, hw''⟩ := hw'
                      subst hw''
                      clear z9 za zb
                      have hbq := nwT hbb pq.h
                      generalize pq.u = Wq at hbq ⊢
                      have hb3q := nwT hb6 hbq
                      go_wp2_with fail
                      have HNU : Hid (∀ p : Kin Wq, Calls Tryd.prog 19 #[.int .i64 x, .int .i64 n] p.u fun e w' => e = .returned (.bool false) ∧ w' = p.u) := fun p => by have := num_in x n p.u; rw [hNu] at this; exact this
                      have y9 : ∀ p1 : Kin Wq, p1.u.cell? ⟨bN, oN + p, none⟩ = some (.int .i64 n) := fun p1 => HCn.out _ (nwT hb3q p1.h)
                      have ya : ∀ p1 : Kin Wq, p1.u.cell? ⟨b8, o8 + a, none⟩ = some (.int .i64 x) := fun p1 => HCA.out _ (nwT hb3q p1.h)
                      have yb : ∀ p1 : Kin Wq, p1.u.cell? ⟨b8, o8 + b, none⟩ = some (.int .i64 m) := fun p1 => HCB.out _ (nwT hb3q p1.h)
                      refine wp_region_kin (by kernel_rfl) (by kernel_rfl) ?_
                      repeat (first | go_big_quiet_step (first | (go_at_call 19; exact Calls.kin_same (HNU.out _)) | fail) | quiet_step (first | (go_at_call 19; exact Calls.kin_same (HNU.out _)) | fail))
                      refine wpQuiet_nil ?_
                      intro _ hw'
                      obtain ⟨pq, hw''⟩ := hw'
                      subst hw''
                      clear y9 ya yb
                      have hbz := nwT hbq pq.h
                      generalize pq.u = Wz at hbz ⊢
                      go_wp2_with (go_at_call 11; refine (num_w _ _).mono ?_; rintro e w' ⟨rfl, rfl⟩)
                      go_roundw
                      case rel => exact ⟨b + 1, by omega, by omega, by go_num, hbz⟩
                      case measure => simp [intOf]; omega
                    · by_cases hm0 : 0 ≤ m
                      case neg =>
                        have hRD : readed n X x m = #[.string ⟨#[]⟩, .int .i64 1] := readed_no (by unfold readOk; rw [hM, hNu, decide_eq_false hm0]; rfl)
                        rw [hRD] at HRD
                        clear hRD
                        go_wp2_with fail
                        have z9 : ∀ p1 : Kin wr, p1.u.cell? ⟨bN, oN + p, none⟩ = some (.int .i64 n) := fun p1 => HCn.out _ (nwT hb3r p1.h)
                        have za : ∀ p1 : Kin wr, p1.u.cell? ⟨b8, o8 + a, none⟩ = some (.int .i64 x) := fun p1 => HCA.out _ (nwT hb3r p1.h)
                        have zb : ∀ p1 : Kin wr, p1.u.cell? ⟨b8, o8 + b, none⟩ = some (.int .i64 m) := fun p1 => HCB.out _ (nwT hb3r p1.h)
                        refine wp_region_kin (by kernel_rfl) (by kernel_rfl) ?_
                        repeat (first | go_big_quiet_step (first | (go_at_call 18; exact Calls.kin_of (HRD.out _)) | fail) | quiet_step (first | (go_at_call 18; exact Calls.kin_of (HRD.out _)) | fail))
                        refine wpQuiet_nil ?_
                        intro _ hw'
                        obtain ⟨pq, hw''⟩ := hw'
                        subst hw''
                        clear z9 za zb
                        have hbq := nwT hbb pq.h
                        generalize pq.u = Wq at hbq ⊢
                        have hb3q := nwT hb6 hbq
                        go_wp2_with fail
                        have HNU : Hid (∀ p : Kin Wq, Calls Tryd.prog 19 #[.int .i64 x, .int .i64 n] p.u fun e w' => e = .returned (.bool true) ∧ w' = p.u) := fun p => by have := num_in x n p.u; rw [hNu] at this; exact this
                        have hm0d : decide (0 ≤ m) = false := decide_eq_false (by omega)
                        have y9 : ∀ p1 : Kin Wq, p1.u.cell? ⟨bN, oN + p, none⟩ = some (.int .i64 n) := fun p1 => HCn.out _ (nwT hb3q p1.h)
                        have ya : ∀ p1 : Kin Wq, p1.u.cell? ⟨b8, o8 + a, none⟩ = some (.int .i64 x) := fun p1 => HCA.out _ (nwT hb3q p1.h)
                        have yb : ∀ p1 : Kin Wq, p1.u.cell? ⟨b8, o8 + b, none⟩ = some (.int .i64 m) := fun p1 => HCB.out _ (nwT hb3q p1.h)
                        refine wp_region_kin (by kernel_rfl) (by kernel_rfl) ?_
                        repeat (first | go_big_quiet_step (first | (go_at_call 19; exact Calls.kin_same (HNU.out _)) | fail) | quiet_step (first | (go_at_call 19; exact Calls.kin_same (HNU.out _)) | fail))
                        refine wpQuiet_nil ?_
                        intro _ hw'
                        obtain ⟨pq, hw''⟩ := hw'
                        subst hw''
                        clear y9 ya yb
                        have hbz := nwT hbq pq.h
                        generalize pq.u = Wz at hbz ⊢
                        go_wp2_with (go_at_call 11; refine (num_w _ _).mono ?_; rintro e w' ⟨rfl, rfl⟩)
                        go_roundw
                        case rel => exact ⟨b + 1, by omega, by omega, by go_num, hbz⟩
                        case measure => simp [intOf]; omega
                      case pos =>
                        have hRD : readed n X x m = #[.string (bs (((tx n X).drop x.toNat).take m.toNat)), .int .i64 0] := by unfold readed readOk; rw [hM, hNu, decide_eq_true hm0]; rfl
                        rw [hRD] at HRD
                        clear hRD
                        obtain ⟨hx0, hxn⟩ : 0 ≤ x ∧ x ≤ n := by simpa [numB] using hNu
                        obtain ⟨hn0, hn1, _, _, _⟩ := mayB_parts hM
                        have hTXs : ((bs (tx n X)).size : Int) = n := by rw [bs_size, tx_len hM]; omega
                        have HEX : Hid (∀ hh : Nat, hh = x.toNat + min m.toNat (n.toNat - x.toNat) → (bs (tx n X)).extract x.toNat hh = bs (((tx n X).drop x.toNat).take m.toNat)) := by
                          intro hh hhe
                          apply ls_inj
                          rw [ext_ls, ls_bs, ls_bs, List.take_eq_take_iff, List.length_drop, tx_len hM]
                          omega
                        obtain ⟨k, rfl⟩ : ∃ k : Nat, x = k := ⟨x.toNat, by omega⟩
                        obtain ⟨mm, rfl⟩ : ∃ mm : Nat, m = mm := ⟨m.toNat, by omega⟩
                        obtain ⟨q, rfl⟩ : ∃ q : Nat, n = q := ⟨n.toNat, by omega⟩
                        rw [Int.toNat_natCast, Int.toNat_natCast, Int.toNat_natCast] at HEX
                        rw [Int.toNat_natCast, Int.toNat_natCast] at HRD
                        have hHE := HEX.out _ rfl
                        generalize bs (((tx q X).drop k).take mm) = T at HRD hHE
                        have hTA : (q : Int) ≤ ((bs (tx q X)).size : Int) := by omega
                        have hTB : ((bs (tx q X)).size : Int) ≤ (q : Int) := by omega
                        clear HEX hTXs
                        generalize bs (tx q X) = TX at hHE hTA hTB ⊢
                        obtain ⟨hh, hhe⟩ : ∃ hh, k + min mm (q - k) = hh := ⟨_, rfl⟩
                        rw [hhe] at hHE
                        obtain ⟨r1, hr1⟩ : ∃ r1, q - k = r1 := ⟨_, rfl⟩
                        obtain ⟨r2, hr2⟩ : ∃ r2, min mm r1 = r2 := ⟨_, rfl⟩
                        have e1 : IntKind.i64.wrap ((q : Int) - (k : Int)) = (r1 : Int) := by rw [wrap_any (by omega) (by omega)]; omega
                        have e2 : min (mm : Int) (r1 : Int) = (r2 : Int) := by omega
                        have e3 : IntKind.i64.wrap ((k : Int) + (r2 : Int)) = (hh : Int) := by rw [wrap_any (by omega) (by omega)]; omega
                        have g1 : (k : Int) ≤ (hh : Int) := by omega
                        have g2 : (hh : Int) ≤ (TX.size : Int) := by omega
                        have hmI : (0 : Int) ≤ (mm : Int) := by omega
                        clear hr1 hr2 hhe
                        go_wp2_with fail
                        have z9 : ∀ p1 : Kin wr, p1.u.cell? ⟨bN, oN + p, none⟩ = some (.int .i64 (q : Int)) := fun p1 => HCn.out _ (nwT hb3r p1.h)
                        have za : ∀ p1 : Kin wr, p1.u.cell? ⟨b8, o8 + a, none⟩ = some (.int .i64 (k : Int)) := fun p1 => HCA.out _ (nwT hb3r p1.h)
                        have zb : ∀ p1 : Kin wr, p1.u.cell? ⟨b8, o8 + b, none⟩ = some (.int .i64 (mm : Int)) := fun p1 => HCB.out _ (nwT hb3r p1.h)
                        refine wp_region_kin (by kernel_rfl) (by kernel_rfl) ?_
                        repeat (first | go_big_quiet_step (first | (go_at_call 18; exact Calls.kin_of (HRD.out _)) | fail) | quiet_step (first | (go_at_call 18; exact Calls.kin_of (HRD.out _)) | fail))
                        refine wpQuiet_nil ?_
                        intro _ hw'
                        obtain ⟨pq, hw''⟩ := hw'
                        subst hw''
                        clear z9 za zb
                        have hbq := nwT hbb pq.h
                        generalize pq.u = Wq at hbq ⊢
                        have hb3q := nwT hb6 hbq
                        go_wp2_with fail
                        have HNU : Hid (∀ p : Kin Wq, Calls Tryd.prog 19 #[.int .i64 (k : Int), .int .i64 (q : Int)] p.u fun e w' => e = .returned (.bool true) ∧ w' = p.u) := fun p => by have := num_in (k : Int) (q : Int) p.u; rw [hNu] at this; exact this
                        have hm0d : decide ((0 : Int) ≤ (mm : Int)) = true := decide_eq_true hmI
                        have y9 : ∀ p1 : Kin Wq, p1.u.cell? ⟨bN, oN + p, none⟩ = some (.int .i64 (q : Int)) := fun p1 => HCn.out _ (nwT hb3q p1.h)
                        have ya : ∀ p1 : Kin Wq, p1.u.cell? ⟨b8, o8 + a, none⟩ = some (.int .i64 (k : Int)) := fun p1 => HCA.out _ (nwT hb3q p1.h)
                        have yb : ∀ p1 : Kin Wq, p1.u.cell? ⟨b8, o8 + b, none⟩ = some (.int .i64 (mm : Int)) := fun p1 => HCB.out _ (nwT hb3q p1.h)
                        refine wp_region_kin (by kernel_rfl) (by kernel_rfl) ?_
                        repeat (first | go_big_quiet_step (first | (go_at_call 19; exact Calls.kin_same (HNU.out _)) | fail) | quiet_step (first | (go_at_call 19; exact Calls.kin_same (HNU.out _)) | fail))
                        refine wpQuiet_nil ?_
                        intro _ hw'
                        obtain ⟨pq, hw''⟩ := hw'
                        subst hw''
                        clear y9 ya yb
                        have hbz := nwT hbq pq.h
                        generalize pq.u = Wz at hbz ⊢
                        have hb3z := nwT hb6 hbz
                        go_wp2_with fail
                        have x9 : ∀ p1 : Kin Wz, p1.u.cell? ⟨bN, oN + p, none⟩ = some (.int .i64 (q : Int)) := fun p1 => HCn.out _ (nwT hb3z p1.h)
                        have xa : ∀ p1 : Kin Wz, p1.u.cell? ⟨b8, o8 + a, none⟩ = some (.int .i64 (k : Int)) := fun p1 => HCA.out _ (nwT hb3z p1.h)
                        have xb : ∀ p1 : Kin Wz, p1.u.cell? ⟨b8, o8 + b, none⟩ = some (.int .i64 (mm : Int)) := fun p1 => HCB.out _ (nwT hb3z p1.h)
                        refine wp_region_kin (by kernel_rfl) (by kernel_rfl) ?_
                        repeat (first | go_big_quiet_step (fail) | quiet_step (fail))
                        refine wpQuiet_nil ?_
                        intro _ hw'
                        obtain ⟨pq, hw''⟩ := hw'
                        subst hw''
                        clear x9 xa xb
                        have hby := nwT hbz pq.h
                        generalize pq.u = Wy at hby ⊢
                        clear e1 e2 e3 hHE
                        go_wp2_with (go_at_call 11; refine (num_w _ _).mono ?_; rintro e w' ⟨rfl, rfl⟩)
                        go_roundw
                        case rel => exact ⟨b + 1, by omega, by omega, by go_num, hby⟩
                        case measure => simp [intOf]; omega
                  · by_cases hk2 : (b : Int) < (NS.length : Int)
                    · have hk5 : ¬ (b : Int) < 12 := fun h => hb1' ⟨hk2, h⟩
                      clear hb1'
                      go_wp2_with fail
                      go_roundw
                      case rel => exact ⟨a + 1, by omega, by omega, by go_num, hbb⟩
                      case measure => simp [intOf]; omega
                    · clear hb1'
                      go_wp2_with fail
                      go_roundw
                      case rel => exact ⟨a + 1, by omega, by omega, by go_num, hbb⟩
                      case measure => simp [intOf]; omega
              · by_cases hk2 : (a : Int) < (NS.length : Int)
                · have hk5 : ¬ (a : Int) < 12 := fun h => ha1 ⟨hk2, h⟩
                  clear ha1
                  go_wp2_with fail
                  go_roundw
                  case rel => exact ⟨p + 1, by omega, by go_num, nwT hb6 hba⟩
                  case measure => simp [intOf]; omega
                · clear ha1
                  go_wp2_with fail
                  go_roundw
                  case rel => exact ⟨p + 1, by omega, by go_num, nwT hb6 hba⟩
                  case measure => simp [intOf]; omega
        · go_wp2_with fail
          refine (wakes_any _).mono ?_
          rintro e w9 ⟨rfl, hb9⟩
          go_wp2_with fail
          go_ret
          exact ⟨rfl, nwT HB1.out (nwT hb31 (nwT hbp hb9))⟩
    go_loopw [3] (fun i wr => ∃ (k : Nat), k ≤ S.length ∧ k ≤ 5 ∧ i = .int .i64 k ∧ Below w1.heap.size w1 wr) (fun i _ => S.length - (intOf i).toNat)
    case atStart => exact ⟨0, by omega, by omega, rfl, nwR w1⟩
    case round =>
      obtain ⟨i, hi, hi5, rfl, hb⟩ := hrel
      have c0 := HC0.out _ hb
      by_cases hi1 : (i : Int) < (S.length : Int) ∧ (i : Int) < 5
      · obtain ⟨hi2, hi3'⟩ := hi1
        have hiS : i < S.length := by omega
        obtain ⟨b1, o1, rfl, hc1⟩ := HS1.out.cell hiS
        have hs4 := HLT.out _ (mem_getD hiS)
        have HCS : Hid (∀ w', Below w1.heap.size w1 w' → w'.cell? ⟨b1, o1 + i, none⟩ = some (.string (S.getD i ByteArray.empty))) := fun w' h => (h.cell (p := ⟨b1, o1 + i, none⟩) (block_lt_of_cell hc1)).trans hc1
        clear hc1
        generalize S.getD i ByteArray.empty = s at HCS hs4
        have hcs := HCS.out _ hb
        go_wp2_with fail
        refine (bcut_any s wr).mono ?_
        rintro e w2 ⟨⟨v4, rfl, ho4⟩, hb2⟩
        have hbw2 := nwT hb hb2
        have c0' := HC0.out _ hbw2
        have hcs' := HCS.out _ hbw2
        clear hb2 hcs c0
        by_cases hs2 : (s.size : Int) ≤ 200
        case neg =>
          rw [if_neg (by omega)] at ho4 ⊢
          obtain ⟨a4, c4, rfl, hst4⟩ := ho4.at
          have HST4 : Hid (StrsAt w2 a4 []) := hst4
          clear ho4 hst4
          go_wp2_with (go_at_call 11; refine (num_w _ _).mono ?_; rintro e w' ⟨rfl, rfl⟩)
          refine (eqs_same a4 none [] 0 c4 0 _ rfl HST4.out (.inl rfl) (by omega)).mono ?_
          rintro e w3 ⟨rfl, hb3⟩
          have hbw3 := nwT hbw2 hb3
          go_wp2_with fail
          go_roundw
          case rel => exact ⟨i + 1, by omega, by omega, by go_num, hbw3⟩
          case measure => simp [intOf]; omega
        case pos =>
          rw [if_pos (by omega)] at ho4 ⊢
          obtain ⟨a4, c4, rfl, hst4⟩ := ho4.at
          have HP : Hid (StrsAt w2 a4 (pcs (ls s))) := hst4
          have hpl : (pcs (ls s)).length ≤ 7 := by rw [pcs_len, ls_size]; unfold many; omega
          clear ho4 hst4
          go_wp2_with fail
          refine (rcut_any s _ (by omega)).mono ?_
          rintro e w3 ⟨⟨v8, rfl, ho8⟩, hb3⟩
          obtain ⟨a8, c8, rfl, hs8⟩ := ho8.at
          have HP3 : Hid (StrsAt w3 a4 (pcs (ls s))) := HP.out.below hb3
          have HP8 : Hid (StrsAt w3 a8 (pcs (ls s))) := hs8
          have hbw3 := nwT hbw2 hb3
          clear ho8 hs8 hb3 c0' hcs'
          generalize pcs (ls s) = X at HP3 HP8 hpl ⊢
          go_wp2_with (go_at_call 11; refine (num_w _ _).mono ?_; rintro e w' ⟨rfl, rfl⟩)
          refine (eqs_same a4 a8 X _ c4 c8 _ rfl HP3.out HP8.out (by omega)).mono ?_
          rintro e w5 ⟨rfl, hb5⟩
          have hbw5 := nwT hbw3 hb5
          go_wp2_with fail
          go_roundw
          case rel => exact ⟨i + 1, by omega, by omega, by go_num, hbw5⟩
          case measure => simp [intOf]; omega
      · by_cases hk2 : (i : Int) < (S.length : Int)
        · have hk5 : ¬ (i : Int) < 5 := fun h => hi1 ⟨hk2, h⟩
          clear hi1
          go_wp2_with fail
          all_goals exact key _ _ _ _ _ _ _ _ _ _ _ _ _ _ _ _ _ _ _ _ _ _ _ _ _ _ _ _ _ _ _ _ _ _ _ _ _ _ _ _ _ _ _ _ _ _ _ _ _ _ hb
        · clear hi1
          go_wp2_with fail
          all_goals exact key _ _ _ _ _ _ _ _ _ _ _ _ _ _ _ _ _ _ _ _ _ _ _ _ _ _ _ _ _ _ _ _ _ _ _ _ _ _ _ _ _ _ _ _ _ _ _ _ _ _ hb

end Go.Proofs.YtifbnojkjbjngaaDoor
