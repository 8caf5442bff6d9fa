/- The law BodyWrites walked. -/
import Derived.Test.YtifbnojkjbjngaaDoorWb
namespace Go.Proofs.YtifbnojkjbjngaaDoor
open Go.RowKit

set_option maxRecDepth 100000 in
set_option maxHeartbeats 16000000 in
theorem writes_walk : LawOk 4 := by
  intro v d w hv
  have HV : Hid (AskVal w v d) := hv
  obtain ⟨aS, cS, aL, cL, aN, cN, rfl, ⟨hS, hcS, hzS⟩, _, ⟨hN, hcN, hlN, hrN⟩⟩ := hv
  have HS : Hid (StrsAt w aS d.s) := hS
  have HN : Hid (IntsAt w aN d.n) := hN
  have HCN : Hid (CapOk aN cN d.n.length) := hcN
  have HCS : Hid (CapOk aS cS d.s.length) := hcS
  clear hS hcS hzS hN hcN hlN hrN
  obtain ⟨S, L, N⟩ := d
  simp only at *
  obtain ⟨i3, hi3, hz30, hz31, hz32⟩ := info_parts Tryd.info3
  obtain ⟨i9, hi9, hz90, hz91, hz92⟩ := info_parts Tryd.info9
  go_enter Tryd.func4, Tryd.ntmps4
  go_wp2_with fail
  have hb0 := nwA (nwR w) (.cells #[.slice aS S.length cS, .slice aL L.length cL, .slice aN N.length cN] 26)
  refine (heavy_any _ ⟨S, L, N⟩ _ (HV.out.below hb0)).mono ?_
  rintro e w1 ⟨q, rfl, hb1, hq⟩
  have c0 : w1.cell? ⟨w.heap.size, 0, none⟩ = some (.slice aS S.length cS) := (hb1.cell (p := ⟨w.heap.size, 0, none⟩) (by simp)).trans (by simp)
  have c1 : w1.cell? ⟨w.heap.size, 1, none⟩ = some (.slice aL L.length cL) := (hb1.cell (p := ⟨w.heap.size, 1, none⟩) (by simp)).trans (by simp)
  have c2 : w1.cell? ⟨w.heap.size, 2, none⟩ = some (.slice aN N.length cN) := (hb1.cell (p := ⟨w.heap.size, 2, none⟩) (by simp)).trans (by simp)
  have HB1 : Hid (Below w.heap.size w w1) := nwT hb0 hb1
  clear hb0 hb1
  cases q
  case true =>
    go_wp2_with fail
    go_ret
    exact ⟨rfl, HB1.out⟩
  case false =>
    have HLT : Hid (∀ x ∈ S, x.size ≤ 4000) := light_s (hq rfl)
    have HLI : Hid (Light ⟨S, L, N⟩) := hq rfl
    have hlS : S.length ≤ 4000 := by have := hq rfl; unfold Light wgt at this; simp only at this; omega
    have hlN : N.length ≤ 4000 := by have := hq rfl; unfold Light wgt at this; simp only at this; omega
    have HS1 : Hid (StrsAt w1 aS S) := HS.out.below HB1.out
    have HN1 : Hid (IntsAt w1 aN N) := HN.out.below HB1.out
    have HV1 : Hid (AskVal w1 (.agg #[.slice aS S.length cS, .slice aL L.length cL, .slice aN N.length cN]) ⟨S, L, N⟩) := HV.out.below HB1.out
    clear hq HS HN HV
    generalize hgB : w.heap.size = gB at c0 c1 c2 ⊢
    have HC0 : Hid (∀ w', Below w1.heap.size w1 w' → w'.cell? ⟨gB, 0, none⟩ = some (.slice aS S.length cS)) := fun w' h => (h.cell (p := ⟨gB, 0, none⟩) (block_lt_of_cell c0)).trans c0
    have HC1 : Hid (∀ w', Below w1.heap.size w1 w' → w'.cell? ⟨gB, 1, none⟩ = some (.slice aL L.length cL)) := fun w' h => (h.cell (p := ⟨gB, 1, none⟩) (block_lt_of_cell c1)).trans c1
    have HC2 : Hid (∀ w', Below w1.heap.size w1 w' → w'.cell? ⟨gB, 2, none⟩ = some (.slice aN N.length cN)) := fun w' h => (h.cell (p := ⟨gB, 2, none⟩) (block_lt_of_cell c2)).trans c2
    clear c0 c1 c2
    have c0 := HC0.out _ (nwR w1)
    have c1 := HC1.out _ (nwR w1)
    have c2 := HC2.out _ (nwR w1)
    have hbb : w1.heap.size ≤ (w1.alloc (.cells #[.int .i64 0, .int .i64 1, .int .i64 31, .int .i64 32, .int .i64 33, .int .i64 64, .int .i64 200, .int .i64 201, .int .i64 (-1)] 3)).heap.size := (nwA (nwR w1) _).size
    have hN8 : 9 + N.length ≤ maxLen := by unfold maxLen; omega
    have hal := nwA (nwR w1) (.cells #[.int .i64 0, .int .i64 1, .int .i64 31, .int .i64 32, .int .i64 33, .int .i64 64, .int .i64 200, .int .i64 201, .int .i64 (-1)] 3)
    have c2' : (w1.alloc (.cells #[.int .i64 0, .int .i64 1, .int .i64 31, .int .i64 32, .int .i64 33, .int .i64 64, .int .i64 200, .int .i64 201, .int .i64 (-1)] 3)).cell? ⟨gB, 2, none⟩ = some (.slice aN N.length cN) := HC2.out _ hal
    have HSRC : Hid (∀ p, aN = some p → ∀ j u, (N.map (Value.int .i64))[j]? = some u → (w1.alloc (.cells #[.int .i64 0, .int .i64 1, .int .i64 31, .int .i64 32, .int .i64 33, .int .i64 64, .int .i64 200, .int .i64 201, .int .i64 (-1)] 3)).cell? (p.add j) = some u) := (HN1.out.below hal).src
    have HNZ : Hid (aN = none → N.length = 0 ∧ cN = 0) := HN1.out.none_zero HCN.out
    go_wp2_with (at_builtin; refine wpList_append_in _ rfl (.tmp 35) (.tmp 37) 24 rfl w1.heap.size 3 i3 (.int .i64 0) 8 Tryd.underlying24 hi3 hz30 hz31 hz32 rfl (.slice (some ⟨w1.heap.size, 0, none⟩) 9 9) 9 [.int .i64 0, .int .i64 1, .int .i64 31, .int .i64 32, .int .i64 33, .int .i64 64, .int .i64 200, .int .i64 201, .int .i64 (-1)] rfl (own_new w1 3 [.int .i64 0, .int .i64 1, .int .i64 31, .int .i64 32, .int .i64 33, .int .i64 64, .int .i64 200, .int .i64 201, .int .i64 (-1)] (by decide)) aN N.length cN (N.map (.int .i64)) (by simp) rfl HSRC.out HNZ.out (ints_one N) hN8 (by omega) hbb ?_; intro v3 w2 hown hgrow; refine unstop ?_)
    unfold Stop
    have hb2 : Below w1.heap.size w1 w2 := hal.grown hgrow hal.size (fun q e => by have : q = w1.heap.size := by simpa [Value.ownBlock] using e.symm
                                                                                   omega)
    have HO3 : Hid (OwnInts w2 w1.heap.size v3 ([0, 1, 31, 32, 33, 64, 200, 201, -1] ++ N)) := by unfold OwnInts; rw [List.length_append, List.map_append]; exact hown
    clear hown hgrow hal HSRC c2' hbb c0 c1 c2
    obtain ⟨a3, c3, rfl, hat3, _⟩ := HO3.out.at
    have HA3 : Hid (IntsAt w2 a3 ([0, 1, 31, 32, 33, 64, 200, 201, -1] ++ N)) := hat3
    have hln : ([0, 1, 31, 32, 33, 64, 200, 201, -1] ++ N : List Int).length ≤ 4009 := by rw [List.length_append]; simp; omega
    generalize ([0, 1, 31, 32, 33, 64, 200, 201, -1] ++ N : List Int) = NS at HA3 hln
    clear hat3 HO3
    have c0 := HC0.out _ hb2
    have c1 := HC1.out _ hb2
    have c2 := HC2.out _ hb2
    have hbb : w2.heap.size ≤ (w2.alloc (.cells #[.string ⟨#[]⟩, .string ⟨#[120]⟩] 9)).heap.size := (nwA (nwR w2) _).size
    have hS8 : 2 + S.length ≤ maxLen := by unfold maxLen; omega
    have hal := nwA (nwR w2) (.cells #[.string ⟨#[]⟩, .string ⟨#[120]⟩] 9)
    have c0' : (w2.alloc (.cells #[.string ⟨#[]⟩, .string ⟨#[120]⟩] 9)).cell? ⟨gB, 0, none⟩ = some (.slice aS S.length cS) := HC0.out _ (nwT hb2 hal)
    have hS2 := HS1.out.below hb2
    have HSRC : Hid (∀ p, aS = some p → ∀ j u, (S.map Value.string)[j]? = some u → (w2.alloc (.cells #[.string ⟨#[]⟩, .string ⟨#[120]⟩] 9)).cell? (p.add j) = some u) := (hS2.below hal).src
    have HSZ : Hid (aS = none → S.length = 0 ∧ cS = 0) := HS1.out.none_zero HCS.out
    go_wp2_with (at_builtin; refine wpList_append_in _ rfl (.tmp 39) (.tmp 41) 22 rfl w2.heap.size 9 i9 (.string ⟨#[]⟩) 16 Tryd.underlying22 hi9 hz90 hz91 hz92 rfl (.slice (some ⟨w2.heap.size, 0, none⟩) 2 2) 2 [.string ⟨#[]⟩, .string ⟨#[120]⟩] rfl (own_new w2 9 [.string ⟨#[]⟩, .string ⟨#[120]⟩] (by decide)) aS S.length cS (S.map .string) (by simp) rfl HSRC.out HSZ.out (strs_one S) hS8 (by omega) hbb ?_; intro v4 w3' hown hgrow; refine unstop ?_)
    unfold Stop
    have hb3' : Below w2.heap.size w2 w3' := hal.grown hgrow hal.size (fun q e => by have : q = w2.heap.size := by simpa [Value.ownBlock] using e.symm
                                                                                     omega)
    have HO4 : Hid (OwnStrs w3' w2.heap.size v4 ([⟨#[]⟩, ⟨#[120]⟩] ++ S)) := by unfold OwnStrs; rw [List.length_append, List.map_append]; exact hown
    have hb23 := nwT hb2 hb3'
    clear hown hgrow hal HSRC c0' hbb c0 c1 c2 hS2
    obtain ⟨a4, c4, rfl, hat4⟩ := HO4.out.at
    have HA4 : Hid (StrsAt w3' a4 ([⟨#[]⟩, ⟨#[120]⟩] ++ S)) := hat4
    have hla : ([⟨#[]⟩, ⟨#[120]⟩] ++ S : List ByteArray).length ≤ 4002 := by rw [List.length_append]; simp; omega
    have HADS : Hid (∀ x ∈ ([⟨#[]⟩, ⟨#[120]⟩] ++ S : List ByteArray), x.size ≤ 4000) := fun x hx => by
      rcases List.mem_append.1 hx with h | h
      · have : x = ⟨#[]⟩ ∨ x = ⟨#[120]⟩ := by simpa using h
        rcases this with rfl | rfl <;> decide
      · exact HLT.out x h
    generalize ([⟨#[]⟩, ⟨#[120]⟩] ++ S : List ByteArray) = AD at HA4 hla HADS
    have HA3' : Hid (IntsAt w3' a3 NS) := HA3.out.below hb3'
    clear hat4 HO4 HA3 hb3'
    have c0 := HC0.out _ hb23
    have c1 := HC1.out _ hb23
    have c2 := HC2.out _ hb23
    go_wp2_with fail
    refine (texts_law _ ⟨S, L, N⟩ _ (HV1.out.below hb23) HLI.out).mono ?_
    rintro e w3 ⟨NN, LL, aN3, cN3, aL3, cL3, rfl, hNLl, hN15, hatN, hatL, hLL, hb3⟩
    have hb31 := nwT hb23 hb3
    have HNS : Hid (IntsAt w3 a3 NS) := HA3'.out.below hb3
    have HAD : Hid (StrsAt w3 a4 AD) := HA4.out.below hb3
    have HNN : Hid (IntsAt w3 aN3 NN) := hatN
    have HLR : Hid (RowsAt w3 aL3 LL) := hatL
    have HLLn : Hid (∀ x ∈ LL, x.length ≤ 4000) := hLL
    have hNL1 : NN.length ≤ LL.length := by omega
    clear hatN hatL hLL hNLl hb3 HA3' HA4 c0 c1 c2 HV1 HS1 HN1 HLT HC0 HC1 HC2
    go_wp2_with fail
    go_loopw [7] (fun i wr2 => ∃ (p : Nat), p ≤ NN.length ∧ i = .int .i64 p ∧ Below w3.heap.size w3 wr2) (fun i _ => NN.length - (intOf i).toNat)
    case atStart => exact ⟨0, by omega, rfl, nwR w3⟩
    case round =>
      obtain ⟨p, hp, rfl, hbp⟩ := hrel
      by_cases hp1 : (p : Int) < (NN.length : Int)
      · have hpN : p < NN.length := by omega
        have hpL : p < LL.length := by omega
        have hpLi : (p : Int) < (LL.length : Int) := by omega
        obtain ⟨bN, oN, rfl, hcN⟩ := HNN.out.cell hpN
        obtain ⟨bL, oL, rfl, aR, cR, hcR, hsR, hcapR⟩ := HLR.out.row hpL
        have HCn : Hid (∀ w', Below w3.heap.size w3 w' → w'.cell? ⟨bN, oN + p, none⟩ = some (.int .i64 (NN.getD p 0))) := fun w' h => (h.cell (p := ⟨bN, oN + p, none⟩) (block_lt_of_cell hcN)).trans hcN
        have HCX : Hid (∀ w', Below w3.heap.size w3 w' → w'.cell? ⟨bL, oL + p, none⟩ = some (.slice aR (LL.getD p []).length cR)) := fun w' h => (h.cell (p := ⟨bL, oL + p, none⟩) (block_lt_of_cell hcR)).trans hcR
        have HSX : Hid (StrsAt w3 aR (LL.getD p [])) := hsR
        have hlX := HLLn.out (LL.getD p []) (by simp [List.getD, hpL])
        generalize LL.getD p [] = X at HCX HSX hlX
        generalize NN.getD p 0 = n at HCn
        clear hcN hcR hsR hcapR
        have cX := HCX.out _ hbp
        go_wp2_with fail
        refine (copy_strs aR X cR _ (HSX.out.below hbp) hlX).mono ?_
        rintro e w4 ⟨⟨vI, rfl, hoI⟩, hb4⟩
        obtain ⟨aI, cI, rfl, hsI, hcI⟩ := cap_of hoI
        have HI4 : Hid (StrsAt w4 aI X) := hsI
        have hcpI := hcI.1
        have hb4p := nwT hbp hb4
        clear hoI hsI hcI hb4 cX
        go_wp2_with fail
        have HPC : Hid (∀ p' : Kin w4, Calls Tryd.prog 15 #[.int .i64 n, .slice aR X.length cR] p'.u fun e w' => e = .returned (.bool (mayB n X)) ∧ w' = p'.u) := fun p' => rpieces_any aR X cR n p'.u (HSX.out.below (nwT hb4p p'.h)) (by omega)
        have z1 : ∀ p1 : Kin w4, p1.u.cell? ⟨bN, oN + p, none⟩ = some (.int .i64 n) := fun p1 => HCn.out _ (nwT hb4p p1.h)
        have z2 : ∀ p1 : Kin w4, p1.u.cell? ⟨bL, oL + p, none⟩ = some (.slice aR X.length cR) := fun p1 => HCX.out _ (nwT hb4p p1.h)
        refine wp_region_kin (by kernel_rfl) (by kernel_rfl) ?_
        repeat (first | go_big_quiet_step (first | (go_at_call 15; exact Calls.kin_same (HPC.out _)) | fail) | quiet_step (first | (go_at_call 15; exact Calls.kin_same (HPC.out _)) | fail))
        refine wpQuiet_nil ?_
        intro _ hw'
        obtain ⟨pq, hw''⟩ := hw'
        subst hw''
        clear z1 z2
        have hb5 := nwT hb4p pq.h
        have HI5 : Hid (StrsAt pq.u aI X) := HI4.out.below pq.h
        generalize pq.u = w5 at hb5 HI5 ⊢
        clear HPC HI4
        obtain ⟨M0, hM0⟩ : ∃ M0, mayB n X = M0 := ⟨_, rfl⟩
        have HM0 : Hid (mayB n X = M0) := hM0
        rw [hM0]
        clear hM0
        go_upto_if 68 with fail
        go_cut [10] from 69 to 77 (fun s10 wx => ∃ old : ByteArray, s10 = .string old ∧ Hid (M0 = true → old = bs (tx n X)) ∧ Below w5.heap.size w5 wx)
        case first =>
          cases M0
          · go_wp2_with fail
            go_meet
            exact ⟨_, rfl, (fun h => by cases h), nwR w5⟩
          · have hM := HM0.out
            go_wp2_with fail
            have HJN : Hid (∀ p' : Kin w5, Calls Tryd.prog 17 #[.int .i64 n, .slice aR X.length cR] p'.u fun e w' => e = .returned (.string (bs (tx n X))) ∧ w' = p'.u) := fun p' => rjoin_any aR X cR n p'.u (HSX.out.below (nwT hb5 p'.h)) hM
            have z1 : ∀ p1 : Kin w5, p1.u.cell? ⟨bN, oN + p, none⟩ = some (.int .i64 n) := fun p1 => HCn.out _ (nwT hb5 p1.h)
            have z2 : ∀ p1 : Kin w5, p1.u.cell? ⟨bL, oL + p, none⟩ = some (.slice aR X.length cR) := fun p1 => HCX.out _ (nwT hb5 p1.h)
            refine wp_region_kin (by kernel_rfl) (by kernel_rfl) ?_
            repeat (first | go_big_quiet_step (first | (go_at_call 17; exact Calls.kin_same (HJN.out _)) | fail) | quiet_step (first | (go_at_call 17; exact Calls.kin_same (HJN.out _)) | fail))
            refine wpQuiet_nil ?_
            intro _ hw'
            obtain ⟨pq, hw''⟩ := hw'
            subst hw''
            clear z1 z2
            have hb7 := nwT (nwR w5) pq.h
            generalize pq.u = w7 at hb7 ⊢
            go_wp2_with fail
            go_meet
            exact ⟨_, rfl, (fun _ => rfl), hb7⟩
        case rest =>
          obtain ⟨old, rfl, HOLD, hb6'⟩ := hcut
          obtain ⟨w6, rfl⟩ : ∃ w6, w6 = wc := ⟨wc, rfl⟩
          have hb6 := nwT hb5 hb6'
          have HI6 : Hid (StrsAt w6 aI X) := HI5.out.below hb6'
          clear HI5 hb6'
          go_wp2_with fail
          refine wloop2 (w3 := w3) hb6 hp1 hpLi hln hla HCn HCX HNS HAD HADS HSX HI6 hcpI hlX HM0 HOLD ?_
          unfold Hid
          intro v2 v11 v12 v13 v14 v15 v16 v17 v18 v19 v20 v21 v22 v23 v24 v25 v26 v27 v28 v29 v30 v31 v32 v78 v79 v80 v81 v82 v83 v84 v85 v86 v87 v88 v89 v90 v91 v92 v93 v94 v95 v96 v97 v98 v99 v100 v101 v102 v103 v104 v105 v106 v107 v108 v109 v110 v111 v112 v113 v114 v115 v116 v117 v118 v119 v120 v121 v122 v123 v124 v125 v126 v127 v128 v129 v130 v131 v132 v133 v134 v135 v136 v137 v138 v139 v140 v141 v142 v143 v144 v145 v146 v147 v148 v149 v150 v151 v152 v153 v154 v155 v156 v157 v158 v159 v160 v161 v162 v163 v164 v165 v166 v167 v168 v169 v170 v171 v172 v173 v174 v175 v176 v177 v178 v179 v180 v181 v182 v183 v184 v185 v186 v187 v188 v189 v190 v191 v192 v193 v194 v195 v196 v197 v198 v199 v200 v201 v202 v203 v204 v205 v206 v207 v208 v209 v210 v211 v212 v213 v214 v215 v216 v217 v218 v219 v220 v221 v222 v223 v224 v225 v226 v227 v228 v229 v230 v231 v232 v233 v234 v235 v236 v237 v238 v239 v240 v241 v242 v243 v244 v245 v246 v247 v248 v249 v250 v251 v252 v253 v254 v255 v256 v257 v258 v259 v260 v261 v262 v263 v264 v265 v266 v267 v268 w11 hb11
          have hb113 := nwT hb6 hb11
          go_wp2_with fail
          go_roundw
          case rel => exact ⟨p + 1, by omega, by go_num, hb113⟩
          case measure => simp [intOf]; omega
      · go_wp2_with fail
        refine (wakes_any _).mono ?_
        rintro e w9 ⟨rfl, hb9⟩
        go_wp2_with fail
        go_ret
        exact ⟨rfl, nwT HB1.out (nwT hb31 (nwT hbp hb9))⟩

end Go.Proofs.YtifbnojkjbjngaaDoor
