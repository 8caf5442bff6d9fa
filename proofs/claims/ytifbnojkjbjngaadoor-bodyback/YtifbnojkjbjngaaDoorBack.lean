/- The law BodyBack walked. -/
import Derived.Test.YtifbnojkjbjngaaDoorIs
import Derived.Test.YtifbnojkjbjngaaDoorGrows
namespace Go.Proofs.YtifbnojkjbjngaaDoor
open Go.RowKit

theorem light_len {d : AskD} (h : Light d) : d.s.length ≤ 4000 ∧ d.n.length ≤ 4000 := by unfold Light wgt at h; omega

theorem num_w (n : Int) (w : World) : Calls Tryd.prog 11 #[.int .i64 n] w fun e w' => e = .returned (.int .i64 n) ∧ w = w' := (num_any n w).mono fun _ _ h => ⟨h.1, h.2.symm⟩

set_option maxRecDepth 100000 in
set_option maxHeartbeats 8000000 in
theorem back_walk : LawOk 5 := by
  intro v d w hv
  have HV : Hid (AskVal w v d) := hv
  obtain ⟨aS, cS, aL, cL, aN, cN, rfl, ⟨hS, hcS, hzS⟩, _, ⟨hN, hcN, hlN, hrN⟩⟩ := hv
  have HS : Hid (StrsAt w aS d.s) := hS
  have HN : Hid (IntsAt w aN d.n) := hN
  clear hS hcS hzS hN hcN hlN hrN
  obtain ⟨S, L, N⟩ := d
  simp only at *
  go_enter Tryd.func5, Tryd.ntmps5
  go_wp2_with fail
  have hb0 := nwA (nwR w) (.cells #[.slice aS S.length cS, .slice aL L.length cL, .slice aN N.length cN] 26)
  refine (heavy_any _ ⟨S, L, N⟩ _ (HV.out.below hb0)).mono ?_
  rintro e w1 ⟨q, rfl, hb1, hq⟩
  have c0 : w1.cell? ⟨w.heap.size, 0, none⟩ = some (.slice aS S.length cS) := (hb1.cell (p := ⟨w.heap.size, 0, none⟩) (by simp)).trans (by simp)
  have c2 : w1.cell? ⟨w.heap.size, 2, none⟩ = some (.slice aN N.length cN) := (hb1.cell (p := ⟨w.heap.size, 2, none⟩) (by simp)).trans (by simp)
  have HB1 : Hid (Below w.heap.size w w1) := nwT hb0 hb1
  clear hb0 hb1 HV
  cases q
  case true =>
    go_wp2_with fail
    go_ret
    exact ⟨rfl, HB1.out⟩
  case false =>
    have HLT : Hid (∀ x ∈ S, x.size ≤ 4000) := light_s (hq rfl)
    obtain ⟨hlS, hlN⟩ := light_len (hq rfl)
    simp only at hlS hlN
    have HS1 : Hid (StrsAt w1 aS S) := HS.out.below HB1.out
    have HN1 : Hid (IntsAt w1 aN N) := HN.out.below HB1.out
    clear hq HS HN
    generalize hgB : w.heap.size = gB at c0 c2 ⊢
    have HC0 : Hid (∀ w', Below w1.heap.size w1 w' → w'.cell? ⟨gB, 0, none⟩ = some (.slice aS S.length cS)) := fun w' h => (h.cell (p := ⟨gB, 0, none⟩) (block_lt_of_cell c0)).trans c0
    have HC2 : Hid (∀ w', Below w1.heap.size w1 w' → w'.cell? ⟨gB, 2, none⟩ = some (.slice aN N.length cN)) := fun w' h => (h.cell (p := ⟨gB, 2, none⟩) (block_lt_of_cell c2)).trans c2
    clear c0 c2
    go_wp2_with fail
    go_loopw [3] (fun i wr => ∃ (k : Nat), k ≤ S.length ∧ k ≤ 5 ∧ i = .int .i64 k ∧ Below w1.heap.size w1 wr) (fun i _ => S.length - (intOf i).toNat)
    case atStart => exact ⟨0, by omega, by omega, rfl, nwR w1⟩
    case round =>
      obtain ⟨i, hi, hi5, rfl, hb⟩ := hrel
      have c0 := HC0.out _ hb
      by_cases hi1 : (i : Int) + 1 < (S.length : Int) ∧ (i : Int) < 5
      · obtain ⟨hi2, hi3⟩ := hi1
        have hiS : i < S.length := by omega
        have hiS2 : i + 1 < S.length := by omega
        obtain ⟨b1, o1, rfl, hc1⟩ := HS1.out.cell hiS
        obtain ⟨b1', o1', e1, hc2⟩ := HS1.out.cell hiS2
        injection e1 with e1
        injection e1 with e1 e2
        subst e1; subst e2
        have hs4 := HLT.out _ (mem_getD hiS)
        have ht4 := HLT.out _ (mem_getD hiS2)
        have HCS : Hid (∀ w', Below w1.heap.size w1 w' → w'.cell? ⟨b1, o1 + i, none⟩ = some (.string (S.getD i ByteArray.empty))) := fun w' h => (h.cell (p := ⟨b1, o1 + i, none⟩) (block_lt_of_cell hc1)).trans hc1
        have HCT : Hid (∀ w', Below w1.heap.size w1 w' → w'.cell? ⟨b1, o1 + (i + 1), none⟩ = some (.string (S.getD (i + 1) ByteArray.empty))) := fun w' h => (h.cell (p := ⟨b1, o1 + (i + 1), none⟩) (block_lt_of_cell hc2)).trans hc2
        clear hc1 hc2
        generalize S.getD i ByteArray.empty = s at HCS hs4
        generalize S.getD (i + 1) ByteArray.empty = t at HCT ht4
        have hcs := HCS.out _ hb
        have hil : (i : Int) < (S.length : Int) := by omega
        go_wp2_with fail
        refine (bcut_any s wr).mono ?_
        rintro e w2 ⟨⟨v4, rfl, ho4⟩, hb2⟩
        have hbw2 := nwT hb hb2
        clear hb2 hcs c0
        by_cases hs2 : s.size ≤ 200
        case neg =>
          rw [if_neg hs2]
          obtain ⟨a4, c4, rfl, _, _⟩ := cap_of ho4
          clear ho4
          go_wp2_with (go_at_call 11; refine (num_w _ _).mono ?_; rintro e w' ⟨rfl, rfl⟩)
          go_roundw
          case rel => exact ⟨i + 1, by omega, by omega, by go_num, hbw2⟩
          case measure => simp [intOf]; omega
        case pos =>
          rw [if_pos hs2] at ho4 ⊢
          obtain ⟨a4, c4, rfl, hst4, hcap4⟩ := cap_of ho4
          have HP : Hid (StrsAt w2 a4 (pcs (ls s))) := hst4
          have hcp := hcap4.1
          have hpl : (pcs (ls s)).length ≤ 7 := by rw [pcs_len, ls_size]; unfold many; omega
          clear ho4 hst4 hcap4
          go_wp2_with (go_at_call 11; refine (num_w _ _).mono ?_; rintro e w' ⟨rfl, rfl⟩)
          go_loopw [6] (fun k wr2 => ∃ (m : Nat), m ≤ N.length ∧ m ≤ 5 ∧ k = .int .i64 m ∧ Below w2.heap.size w2 wr2) (fun k _ => N.length - (intOf k).toNat)
          case atStart => exact ⟨0, by omega, by omega, rfl, nwR w2⟩
          case round =>
            obtain ⟨m, hm, hm5, rfl, hbm⟩ := hrel
            have hb1m := nwT hbw2 hbm
            have c2 := HC2.out _ hb1m
            by_cases hm1 : (m : Int) < (N.length : Int) ∧ (m : Int) < 5
            · obtain ⟨hm2, hm3⟩ := hm1
              have hmN : m < N.length := by omega
              obtain ⟨b2, o2, rfl, hcn⟩ := HN1.out.cell hmN
              have hcn2 : wr.cell? ⟨b2, o2 + m, none⟩ = some (.int .i64 (N.getD m 0)) := (hb1m.cell (p := ⟨b2, o2 + m, none⟩) (block_lt_of_cell hcn)).trans hcn
              generalize N.getD m 0 = x at hcn2
              clear hcn
              go_wp2_with fail
              have z2 : ∀ p : Kin wr, p.u.cell? ⟨gB, 2, none⟩ = some (.slice (some ⟨b2, o2, none⟩) N.length cN) := fun p => kcell c2 p
              have zn : ∀ p : Kin wr, p.u.cell? ⟨b2, o2 + m, none⟩ = some (.int .i64 x) := fun p => kcell hcn2 p
              have z0 : ∀ p : Kin wr, p.u.cell? ⟨gB, 0, none⟩ = some (.slice (some ⟨b1, o1, none⟩) S.length cS) := fun p => HC0.out _ (nwT hb1m p.h)
              have zs : ∀ p : Kin wr, p.u.cell? ⟨b1, o1 + i, none⟩ = some (.string s) := fun p => HCS.out _ (nwT hb1m p.h)
              have e1 : IntKind.i64.wrap ((s.size : Int) + 1) = ((s.size + 1 : Nat) : Int) := by rw [wrap_any (by omega) (by omega)]; omega
              have HWI : Hid (∀ p : Kin wr, Calls Tryd.prog 27 #[.int .i64 x, .int .i64 ((s.size + 1 : Nat) : Int)] p.u fun e w' => e = .returned (.int .i64 (win x (s.size + 1))) ∧ w' = p.u) := fun p => within_any x (s.size + 1) p.u (by omega) (by omega)
              have hwin := win_lt (i := x) (n := s.size + 1) (by omega)
              generalize win x (s.size + 1) = k at HWI hwin
              generalize hs1 : s.size + 1 = s1 at e1 HWI
              clear c2 hcn2
              refine wp_region_kin (by kernel_rfl) (by kernel_rfl) ?_
              repeat (first | go_big_quiet_step (first | (go_at_call 27; exact Calls.kin_same (HWI.out _)) | fail) | quiet_step (first | (go_at_call 27; exact Calls.kin_same (HWI.out _)) | fail))
              refine wpQuiet_nil ?_
              intro _ hw'
              obtain ⟨pq, hw''⟩ := hw'
              subst hw''
              clear z0 z2 zn zs e1
              have hbq := nwT hbm pq.h
              generalize pq.u = Wq at hbq ⊢
              clear HWI hs1
              have hks : k ≤ s.size := by omega
              have hbq1 := nwT hbw2 hbq
              have e2 : IntKind.i64.wrap ((i : Int) + 1) = ((i + 1 : Nat) : Int) := by rw [wrap_any (by omega) (by omega)]; omega
              have hi1l : ((i + 1 : Nat) : Int) < (S.length : Int) := by omega
              have hWP := written_pcs (ls s) k t (by rw [ls_size]; exact hs2) (by rw [ls_size]; exact hks)
              rw [ls_size] at hWP
              go_wp2_with fail
              have y0 : ∀ w', Below Wq.heap.size Wq w' → w'.cell? ⟨gB, 0, none⟩ = some (.slice (some ⟨b1, o1, none⟩) S.length cS) := fun w' h => HC0.out _ (nwT hbq1 h)
              have y1 : ∀ w', Below Wq.heap.size Wq w' → w'.cell? ⟨b1, o1 + i, none⟩ = some (.string s) := fun w' h => HCS.out _ (nwT hbq1 h)
              have y2 : ∀ w', Below Wq.heap.size Wq w' → w'.cell? ⟨b1, o1 + (i + 1), none⟩ = some (.string t) := fun w' h => HCT.out _ (nwT hbq1 h)
              have HP2 : Hid (∀ w', Below Wq.heap.size Wq w' → StrsAt w' a4 (pcs (ls s))) := fun w' h => HP.out.below (nwT hbq h)
              obtain ⟨i2, hi2e⟩ : ∃ i2, i + 1 = i2 := ⟨_, rfl⟩
              rw [hi2e] at y2 e2 hi1l
              by_cases hfit : k + t.size ≤ 200
              case neg =>
                rw [if_neg hfit] at hWP
                have HWP : Hid (written s.size (pcs (ls s)) k t = (0, [], [], 2)) := hWP
                clear hWP
                go_region_held3 (fun w' => Below Wq.heap.size Wq w') (first | assumption | exact Below.drew (nwR _) | exact Below.drew (by assumption) | exact nwT (by assumption) (by assumption)) (first
                  | (go_at_call 24; refine (write_is a4 (pcs (ls s)) _ c4 s.size k t _ rfl (HP2.out _ (by assumption)) hcp (by omega) (by omega) _ _ _ _ HWP.out).mono ?_; rintro e w4 ⟨⟨a5, c5, a6, c6, rfl, _, _⟩, hb4⟩)
                  | fail)
                rename_i hw4
                clear y0 y1 y2 e2
                go_wp2_with (go_at_call 11; refine (num_w _ _).mono ?_; rintro e w' ⟨rfl, rfl⟩)
                go_roundw
                case rel => exact ⟨m + 1, by omega, by omega, by go_num, nwT hbq hw4⟩
                case measure => simp [intOf]; omega
              case pos =>
                rw [if_pos hfit] at hWP
                have HBP0 := fun j => back_piece (l := ls s) (t := ls t) (k := k) (j := j) (by rw [ls_size]; exact hks)
                have hRL := wrt_len (l := ls s) (a := k) (t := ls t) (by rw [ls_size]; exact hks)
                rw [ls_size, ls_size] at hRL
                have HY0 : Hid ((s.extract 0 k ++ t).size < s.size → (s.extract 0 k ++ t) ++ s.extract (s.extract 0 k ++ t).size s.size = bs (wrt (ls s) k (ls t))) := fun h => want_yes hks h
                have HNO0 : Hid (¬ (s.extract 0 k ++ t).size < s.size → s.extract 0 k ++ t = bs (wrt (ls s) k (ls t))) := fun h => want_no hks h
                have hFl : (frs k (ls t)).length ≤ 100 := by unfold frs; split; · simp
                                                             · rw [numL_len]; unfold many; rw [ls_size]; omega
                have hXl : (pcs (wrt (ls s) k (ls t))).length ≤ 100 := by rw [pcs_len, hRL]; unfold many; omega
                rw [← hRL] at hWP
                generalize hRR : wrt (ls s) k (ls t) = R at hWP HBP0 hRL HY0 HNO0 hXl
                clear hRR
                have hRs : (bs R).size = R.length := bs_size R
                have HR2 : Hid (R.length ≤ 200) := by show _ ≤ _; rw [hRL]; omega
                rw [← hRs] at hWP
                obtain ⟨RB, hRB⟩ : ∃ RB, bs R = RB := ⟨_, rfl⟩
                rw [hRB] at hWP HY0 HNO0 hRs
                have HRB : Hid (bs R = RB) := hRB
                have HRs : Hid (RB.size = R.length) := hRs
                generalize hXX : pcs R = X at hWP HBP0 hXl
                have HXX : Hid (pcs R = X) := hXX
                have HBP : Hid (∀ j, j < X.length → (j : Int) ∉ frs k (ls t) → j < (pcs (ls s)).length ∧ X.getD j ByteArray.empty = (pcs (ls s)).getD j ByteArray.empty) := fun j h1 h2 => HBP0 j h1 h2
                generalize frs k (ls t) = F at hWP HBP hFl
                have HWP : Hid (written s.size (pcs (ls s)) k t = ((RB.size : Int), X, F, 0)) := hWP
                clear hWP HBP0 hRL hRs hRB hXX
                go_region_held3 (fun w' => Below Wq.heap.size Wq w') (first | assumption | exact Below.drew (nwR _) | exact Below.drew (by assumption) | exact nwT (by assumption) (by assumption)) (first
                  | (go_at_call 24; refine (write_is a4 (pcs (ls s)) _ c4 s.size k t _ rfl (HP2.out _ (by assumption)) hcp (by omega) (by omega) _ _ _ _ HWP.out).mono ?_; rintro e w4 ⟨⟨a5, c5, a6, c6, rfl, ⟨hx5, hcx5, _⟩, ⟨hi6, hci6⟩⟩, hb4⟩)
                  | fail)
                rename_i hw4
                clear y0 y1 y2 e2 hb4
                have HX5 : Hid (StrsAt w4 a5 X) := hx5
                have HI5 : Hid (IntsAt w4 a6 F) := hi6
                have hcx := hcx5.1
                clear hx5 hi6 hcx5 hci6
                go_wp2_with (go_at_call 11; refine (num_w _ _).mono ?_; rintro e w' ⟨rfl, rfl⟩)
                refine (bjoin_pcs a5 R c5 _ _ _ (by rw [HXX.out]; exact HX5.out) (by rw [HXX.out]) hcx HR2.out (by rw [HRs.out])).mono ?_
                rintro e w5 ⟨rfl, hb5⟩
                rw [HRB.out]
                have hb51 := nwT hbq1 (nwT hw4 hb5)
                have HX6' : Hid (StrsAt w5 a5 X) := HX5.out.below hb5
                have HI6' : Hid (IntsAt w5 a6 F) := HI5.out.below hb5
                have hb62 : Below w2.heap.size w2 w5 := nwT hbq (nwT hw4 hb5)
                clear hb5 HX5 HI5
                have d0 := HC0.out _ hb51
                have d1 := HCS.out _ hb51
                have d2 := HCT.out _ hb51
                rw [hi2e] at d2
                have e2 : IntKind.i64.wrap ((i : Int) + 1) = (i2 : Int) := by rw [wrap_any (by omega) (by omega)]; omega
                have hksi : (k : Int) ≤ (s.size : Int) := by omega
                have hP0s : (s.extract 0 k).size = k := by rw [ext_left, bs_size, List.length_take, ls_size]; omega
                obtain ⟨P0, hP0⟩ : ∃ P0, s.extract 0 k = P0 := ⟨_, rfl⟩
                rw [hP0] at hP0s HY0 HNO0
                obtain ⟨P, hPe⟩ : ∃ P, P0 ++ t = P := ⟨_, rfl⟩
                have hPs : P.size = k + t.size := by rw [← hPe, gbsize, hP0s]
                rw [hPe] at HY0 HNO0
                have hf1 : ¬ 9223372036854775807 < P0.size + t.size := by omega
                have hPsA : P.size ≤ 200 := by omega
                clear hPs hP0s
                go_wp2_with fail
                have z0 : ∀ p : Kin w5, p.u.cell? ⟨gB, 0, none⟩ = some (.slice (some ⟨b1, o1, none⟩) S.length cS) := fun p => kcell d0 p
                have z1 : ∀ p : Kin w5, p.u.cell? ⟨b1, o1 + i, none⟩ = some (.string s) := fun p => kcell d1 p
                have z2 : ∀ p : Kin w5, p.u.cell? ⟨b1, o1 + i2, none⟩ = some (.string t) := fun p => kcell d2 p
                refine wp_region_kin (by kernel_rfl) (by kernel_rfl) ?_
                repeat (first | go_big_quiet_step (fail) | quiet_step (fail))
                refine wpQuiet_nil ?_
                intro _ hw'
                obtain ⟨p6, hw''⟩ := hw'
                subst hw''
                clear z0 z1 z2 e2
                have hb6 : Below w2.heap.size w2 p6.u := nwT hb62 p6.h
                have HX6 : Hid (StrsAt p6.u a5 X) := HX6'.out.below p6.h
                have HI6 : Hid (IntsAt p6.u a6 F) := HI6'.out.below p6.h
                have HP6 : Hid (StrsAt p6.u a4 (pcs (ls s))) := HP.out.below hb6
                have f0 := kcell d0 p6
                have f1 := kcell d1 p6
                clear d0 d1 d2 hb51 hb62 HX6' HI6'
                generalize p6.u = w6 at hb6 HX6 HI6 HP6 f0 f1 ⊢
                clear hP0 hPe
                by_cases hlt : P.size < s.size
                · have hlti : (P.size : Int) < (s.size : Int) := by omega
                  have hlte : (P.size : Int) ≤ (s.size : Int) := by omega
                  have hYY := HY0.out hlt
                  have hQ0s : (s.extract P.size s.size).size ≤ 200 := by rw [ext_right, bs_size, List.length_drop, ls_size]; omega
                  obtain ⟨Q0, hQ0⟩ : ∃ Q0, s.extract P.size s.size = Q0 := ⟨_, rfl⟩
                  rw [hQ0] at hYY hQ0s
                  have hf2 : ¬ 9223372036854775807 < P.size + Q0.size := by omega
                  go_wp2_with (go_at_call 11; refine (num_w _ _).mono ?_; rintro e w' ⟨rfl, rfl⟩)
                  clear hYY hQ0 f0 f1
                  go_loopw [15] (fun jj wr3 => ∃ (j : Nat), j ≤ X.length ∧ jj = .int .i64 j ∧ Below w6.heap.size w6 wr3) (fun jj _ => X.length - (intOf jj).toNat)
                  case atStart => exact ⟨0, by omega, rfl, nwR w6⟩
                  case round =>
                    obtain ⟨j, hj, rfl, hbj⟩ := hrel
                    by_cases hj1 : (j : Int) < (X.length : Int)
                    · have hjx : j < X.length := by omega
                      have HX7 : Hid (StrsAt wr a5 X) := HX6.out.below hbj
                      have HI7 : Hid (IntsAt wr a6 F) := HI6.out.below hbj
                      have HP7 : Hid (StrsAt wr a4 (pcs (ls s))) := HP6.out.below hbj
                      have HIN : Hid (∀ p : Kin wr, Calls Tryd.prog 28 #[.slice a6 F.length c6, .int .i64 j] p.u fun e w' => e = .returned (.int .i64 (inI F j)) ∧ w' = p.u) := fun p => in_any a6 F c6 j p.u (HI7.out.below p.h) (by unfold maxLen; omega)
                      by_cases hjF : (j : Int) ∈ F
                      · have hin := inI_mem hjF
                        generalize inI F j = rI at HIN hin
                        have hin0 : decide (rI < 0) = false := decide_eq_false (by omega)
                        clear hjF
                        go_wp2_with fail
                        refine wp_region_kin (by kernel_rfl) (by kernel_rfl) ?_
                        repeat (first | go_big_quiet_step (first | (go_at_call 28; exact Calls.kin_same (HIN.out _)) | fail) | quiet_step (first | (go_at_call 28; exact Calls.kin_same (HIN.out _)) | fail))
                        refine wpQuiet_nil ?_
                        intro _ hw'
                        obtain ⟨pj, hw''⟩ := hw'
                        subst hw''
                        have hbz := nwT hbj pj.h
                        generalize pj.u = Wz at hbz ⊢
                        go_wp2_with fail
                        go_roundw
                        case rel => exact ⟨j + 1, by omega, by go_num, hbz⟩
                        case measure => simp [intOf]; omega
                      · rw [inI_not hjF] at HIN
                        obtain ⟨hjl, hjeq⟩ := HBP.out j hjx hjF
                        have hjli : (j : Int) < ((pcs (ls s)).length : Int) := by omega
                        have hjge : decide (((pcs (ls s)).length : Int) ≤ (j : Int)) = false := decide_eq_false (by omega)
                        obtain ⟨b7, o7, h7, g7⟩ := HX7.out.cell hjx
                        obtain ⟨b8, o8, h8, g8⟩ := HP7.out.cell hjl
                        subst h7; subst h8
                        rw [← hjeq] at g8
                        generalize X.getD j ByteArray.empty = xj at g7 g8
                        clear hjF hjeq
                        go_wp2_with fail
                        have z7 : ∀ p : Kin wr, p.u.cell? ⟨b7, o7 + j, none⟩ = some (.string xj) := fun p => kcell g7 p
                        have z8 : ∀ p : Kin wr, p.u.cell? ⟨b8, o8 + j, none⟩ = some (.string xj) := fun p => kcell g8 p
                        clear g7 g8
                        refine wp_region_kin (by kernel_rfl) (by kernel_rfl) ?_
                        repeat (first | go_big_quiet_step (first | (go_at_call 28; exact Calls.kin_same (HIN.out _)) | fail) | quiet_step (first | (go_at_call 28; exact Calls.kin_same (HIN.out _)) | fail))
                        refine wpQuiet_nil ?_
                        intro _ hw'
                        obtain ⟨pj, hw''⟩ := hw'
                        subst hw''
                        have hbz := nwT hbj pj.h
                        clear z7 z8
                        generalize pj.u = Wz at hbz ⊢
                        go_wp2_with fail
                        go_roundw
                        case rel => exact ⟨j + 1, by omega, by go_num, hbz⟩
                        case measure => simp [intOf]; omega
                    · go_wp2_with fail
                      go_roundw
                      case rel => exact ⟨m + 1, by omega, by omega, by go_num, nwT hb6 hbj⟩
                      case measure => simp [intOf]; omega
                · have hlti : ¬ (P.size : Int) < (s.size : Int) := by omega
                  have hYY := HNO0.out hlt
                  clear HNO0 HY0
                  rw [hYY] at hlti hlt hPsA ⊢
                  clear hYY
                  go_wp2_with (go_at_call 11; refine (num_w _ _).mono ?_; rintro e w' ⟨rfl, rfl⟩)
                  clear f0 f1
                  go_loopw [15] (fun jj wr3 => ∃ (j : Nat), j ≤ X.length ∧ jj = .int .i64 j ∧ Below w6.heap.size w6 wr3) (fun jj _ => X.length - (intOf jj).toNat)
                  case atStart => exact ⟨0, by omega, rfl, nwR w6⟩
                  case round =>
                    obtain ⟨j, hj, rfl, hbj⟩ := hrel
                    by_cases hj1 : (j : Int) < (X.length : Int)
                    · have hjx : j < X.length := by omega
                      have HX7 : Hid (StrsAt wr a5 X) := HX6.out.below hbj
                      have HI7 : Hid (IntsAt wr a6 F) := HI6.out.below hbj
                      have HP7 : Hid (StrsAt wr a4 (pcs (ls s))) := HP6.out.below hbj
                      have HIN : Hid (∀ p : Kin wr, Calls Tryd.prog 28 #[.slice a6 F.length c6, .int .i64 j] p.u fun e w' => e = .returned (.int .i64 (inI F j)) ∧ w' = p.u) := fun p => in_any a6 F c6 j p.u (HI7.out.below p.h) (by unfold maxLen; omega)
                      by_cases hjF : (j : Int) ∈ F
                      · have hin := inI_mem hjF
                        generalize inI F j = rI at HIN hin
                        have hin0 : decide (rI < 0) = false := decide_eq_false (by omega)
                        clear hjF
                        go_wp2_with fail
                        refine wp_region_kin (by kernel_rfl) (by kernel_rfl) ?_
                        repeat (first | go_big_quiet_step (first | (go_at_call 28; exact Calls.kin_same (HIN.out _)) | fail) | quiet_step (first | (go_at_call 28; exact Calls.kin_same (HIN.out _)) | fail))
                        refine wpQuiet_nil ?_
                        intro _ hw'
                        obtain ⟨pj, hw''⟩ := hw'
                        subst hw''
                        have hbz := nwT hbj pj.h
                        generalize pj.u = Wz at hbz ⊢
                        go_wp2_with fail
                        go_roundw
                        case rel => exact ⟨j + 1, by omega, by go_num, hbz⟩
                        case measure => simp [intOf]; omega
                      · rw [inI_not hjF] at HIN
                        obtain ⟨hjl, hjeq⟩ := HBP.out j hjx hjF
                        have hjli : (j : Int) < ((pcs (ls s)).length : Int) := by omega
                        have hjge : decide (((pcs (ls s)).length : Int) ≤ (j : Int)) = false := decide_eq_false (by omega)
                        obtain ⟨b7, o7, h7, g7⟩ := HX7.out.cell hjx
                        obtain ⟨b8, o8, h8, g8⟩ := HP7.out.cell hjl
                        subst h7; subst h8
                        rw [← hjeq] at g8
                        generalize X.getD j ByteArray.empty = xj at g7 g8
                        clear hjF hjeq
                        go_wp2_with fail
                        have z7 : ∀ p : Kin wr, p.u.cell? ⟨b7, o7 + j, none⟩ = some (.string xj) := fun p => kcell g7 p
                        have z8 : ∀ p : Kin wr, p.u.cell? ⟨b8, o8 + j, none⟩ = some (.string xj) := fun p => kcell g8 p
                        clear g7 g8
                        refine wp_region_kin (by kernel_rfl) (by kernel_rfl) ?_
                        repeat (first | go_big_quiet_step (first | (go_at_call 28; exact Calls.kin_same (HIN.out _)) | fail) | quiet_step (first | (go_at_call 28; exact Calls.kin_same (HIN.out _)) | fail))
                        refine wpQuiet_nil ?_
                        intro _ hw'
                        obtain ⟨pj, hw''⟩ := hw'
                        subst hw''
                        have hbz := nwT hbj pj.h
                        clear z7 z8
                        generalize pj.u = Wz at hbz ⊢
                        go_wp2_with fail
                        go_roundw
                        case rel => exact ⟨j + 1, by omega, by go_num, hbz⟩
                        case measure => simp [intOf]; omega
                    · go_wp2_with fail
                      go_roundw
                      case rel => exact ⟨m + 1, by omega, by omega, by go_num, nwT hb6 hbj⟩
                      case measure => simp [intOf]; omega
            · by_cases hk2 : (m : Int) < (N.length : Int)
              · have hk5 : ¬ (m : Int) < 5 := fun h => hm1 ⟨hk2, h⟩
                clear hm1
                go_wp2_with fail
                go_roundw
                case rel => exact ⟨i + 1, by omega, by omega, by go_num, hb1m⟩
                case measure => simp [intOf]; omega
              · clear hm1
                go_wp2_with fail
                go_roundw
                case rel => exact ⟨i + 1, by omega, by omega, by go_num, hb1m⟩
                case measure => simp [intOf]; omega
      · have hbw := nwT HB1.out hb
        by_cases hk2 : (i : Int) + 1 < (S.length : Int)
        · have hk5 : ¬ (i : Int) < 5 := fun h => hi1 ⟨hk2, h⟩
          clear hi1
          go_wp2_with fail
          refine (wakes_any _).mono ?_
          rintro e w2 ⟨rfl, hb2⟩
          go_wp2_with fail
          go_ret
          exact ⟨rfl, nwT hbw hb2⟩
        · clear hi1
          go_wp2_with fail
          refine (wakes_any _).mono ?_
          rintro e w2 ⟨rfl, hb2⟩
          go_wp2_with fail
          go_ret
          exact ⟨rfl, nwT hbw hb2⟩

end Go.Proofs.YtifbnojkjbjngaaDoor
