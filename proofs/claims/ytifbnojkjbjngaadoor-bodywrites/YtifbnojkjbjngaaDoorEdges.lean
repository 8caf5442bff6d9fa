/- The law BodyEdges walked. -/
import Derived.Test.YtifbnojkjbjngaaDoorRsize
import Derived.Test.YtifbnojkjbjngaaDoorGrows
namespace Go.Proofs.YtifbnojkjbjngaaDoor
open Go.RowKit

theorem eqs_same (a b : Option Addr) (D : List ByteArray) (m ca cb : Nat) (w : World) (hm : D.length = m) (hx : StrsAt w a D) (hy : StrsAt w b D) (hl : m ≤ 4000) :
    Calls Tryd.prog 12 #[.slice a m ca, .slice b m cb] w fun e w' => e = .returned (.bool true) ∧ Below w.heap.size w w' := by
  subst hm
  refine (eqs_any a b D D ca cb w hx hy (by unfold maxLen; omega)).mono ?_
  rintro e w' ⟨rfl, q, rfl⟩
  exact ⟨by rw [decide_eq_true rfl], below_drewN (nwR w) q⟩
theorem eqn_same (a b : Option Addr) (D : List Int) (m ca cb : Nat) (w : World) (hm : D.length = m) (hx : IntsAt w a D) (hy : IntsAt w b D) (hl : m ≤ 4000) :
    Calls Tryd.prog 23 #[.slice a m ca, .slice b m cb] w fun e w' => e = .returned (.bool true) ∧ Below w.heap.size w w' := by
  subst hm
  refine (eqNums_any a b D D ca cb w hx hy (by unfold maxLen; omega)).mono ?_
  rintro e w' ⟨rfl, q, rfl⟩
  exact ⟨by rw [decide_eq_true rfl], below_drewN (nwR w) q⟩

theorem OwnBytes.below {w w' : World} {base : Nat} {v : Value} {n : Nat} {xs : List Int} (h : OwnBytes w base v n xs) (hb : Below w.heap.size w w') : OwnBytes w' base v n xs := own_below h hb
theorem OwnBytes.cell {w : World} {base g n cap : Nat} {xs : List Int} (h : OwnBytes w base (.slice (some ⟨g, 0, none⟩) n cap) n xs) {i : Nat} (hi : i < xs.length) : w.cell? ⟨g, i, none⟩ = some (.int .u8 (xs.getD i 0)) := by
  have := h.cells (g := g) rfl i (.int .u8 (xs.getD i 0)) (by simp [List.getD, hi])
  rw [show (⟨g, 0, none⟩ : Addr).add i = ⟨g, i, none⟩ from by unfold Addr.add; split <;> simp_all] at this
  exact this
theorem OwnBytes.set {w : World} {base g n cap : Nat} {xs : List Int} (h : OwnBytes w base (.slice (some ⟨g, 0, none⟩) n cap) n xs) (i : Nat) (u : Int) : OwnBytes (w.setCell ⟨g, i, none⟩ (.int .u8 u)) base (.slice (some ⟨g, 0, none⟩) n cap) n (xs.set i u) := by
  have := (World.ownsRow.stored h i (.int .u8 u)).1
  rw [List.map_set.symm] at this
  exact this
theorem nums_size (xs : List Int) : (strOfNums xs).size = xs.length := strOfNums_size xs

theorem sized_pcs (l : List UInt8) (j : Nat) (hl : l.length ≤ 200) (hj : j ≤ 200) : sized l.length (pcs l) j = ((j : Int), pcs (siz l j), frz l j, 0) := by
  have h1 : mayB (l.length : Int) (pcs l) = true := may_pcs hl
  unfold sized
  rw [h1, decide_eq_true (by omega), if_pos (by rfl), if_pos (by omega), tx_pcs, Int.toNat_natCast]
theorem frz_len (l : List UInt8) (j : Nat) (hj : j ≤ 200) : (frz l j).length ≤ 100 := by
  unfold frz; split
  · rw [numL_len]; unfold many; omega
  · rw [numL_len]; unfold many; omega

set_option maxRecDepth 100000 in
set_option maxHeartbeats 8000000 in
theorem edges_walk : LawOk 6 := by
  intro v d w hv
  have HV : Hid (AskVal w v d) := hv
  obtain ⟨aS, cS, aL, cL, aN, cN, rfl, _, _, _⟩ := hv
  obtain ⟨S, L, N⟩ := d
  simp only at *
  obtain ⟨i0, hi, hz0, hz1, hz2⟩ := info_parts Tryd.info5
  go_enter Tryd.func6, Tryd.ntmps6
  go_wp2_with fail
  have hb0 := nwA (nwR w) (.cells #[.slice aS S.length cS, .slice aL L.length cL, .slice aN N.length cN] 26)
  refine (heavy_any _ ⟨S, L, N⟩ _ (HV.out.below hb0)).mono ?_
  rintro e w1 ⟨q, rfl, hb1, _⟩
  have HB1 : Hid (Below w.heap.size w w1) := nwT hb0 hb1
  clear hb0 hb1 HV
  cases q
  case true =>
    go_wp2_with fail
    go_ret
    exact ⟨rfl, HB1.out⟩
  case false =>
    generalize hgB : w.heap.size = gB
    clear hgB
    go_wp2_with fail
    go_loopw [3] (fun nn wr => ∃ (n : Nat), n ≤ 201 ∧ nn = .int .i64 n ∧ Below w1.heap.size w1 wr) (fun nn _ => 201 - (intOf nn).toNat)
    case atStart => exact ⟨0, by omega, rfl, nwR w1⟩
    case round =>
      obtain ⟨n, hn, rfl, hb⟩ := hrel
      by_cases hn200 : (n : Int) ≤ 200
      case neg =>
        go_wp2_with fail
        refine (wakes_any _).mono ?_
        rintro e w2 ⟨rfl, hb2⟩
        go_wp2_with fail
        go_ret
        exact ⟨rfl, nwT (nwT HB1.out hb) hb2⟩
      case pos =>
        have hbb : i0.bytes * n ≤ 281474976710656 := by rw [hz2]; omega
        have hm : n ≤ maxLen := by unfold maxLen; omega
        go_wp2_with (at_make; refine wpList_make_full wr rfl (.tmp 23) (.tmp 23) 54 rfl wr.heap.size 5 i0 (.int .u8 0) 1 Tryd.underlying54 hi hz0 hz1 .i64 .i64 n n n rfl rfl rfl rfl hbb hm (Nat.le_refl _) ?_; intro w2 hown hgr; refine unstop ?_)
        unfold Stop
        have hO : OwnBytes w2 wr.heap.size (.slice (some ⟨wr.heap.size, 0, none⟩) n n) n (List.replicate n 0) := by unfold OwnBytes; rw [← made_zero]; exact hown
        have hbw : Below wr.heap.size wr w2 := (nwR wr).grown hgr (Nat.le_refl _) (fun q e => by cases e)
        have HO : Hid (OwnBytes w2 wr.heap.size (.slice (some ⟨wr.heap.size, 0, none⟩) n n) n (List.replicate n 0)) := hO
        have HB2 : Hid (Below wr.heap.size wr w2) := hbw
        clear hown hgr hO hbw
        obtain ⟨g, hg⟩ : ∃ g, wr.heap.size = g := ⟨_, rfl⟩
        rw [hg] at HO HB2 ⊢
        have hgw : w1.heap.size ≤ g := by rw [← hg]; exact hb.size
        have HB2' : Hid (Below w1.heap.size w1 w2) := hb.trans (HB2.out.mono hgw)
        clear hg HB2
        go_wp2_with fail
        go_loopw [5] (fun ii wr2 => ∃ (i : Nat) (xs : List Int), i ≤ n ∧ xs.length = n ∧ ii = .int .i64 i ∧ OwnBytes wr2 g (.slice (some ⟨g, 0, none⟩) n n) n xs ∧ Below w1.heap.size w1 wr2) (fun ii _ => n - (intOf ii).toNat)
        case atStart => exact ⟨0, List.replicate n 0, by omega, by simp, rfl, HO.out, HB2'.out⟩
        case round =>
          obtain ⟨i, xs, hi2, hxl, rfl, hO2, hb2⟩ := hrel
          have HO2 : Hid (OwnBytes wr g (.slice (some ⟨g, 0, none⟩) n n) n xs) := hO2
          have HXL : Hid (xs.length = n) := hxl
          clear hO2 HO HB2'
          by_cases hin : (i : Int) < (n : Int)
          · have c1 := HO2.out.cell (i := i) (by omega)
            have f1 : wr.frozen? ⟨g, i, none⟩ = false := World.ownsRow.frozenAt HO2.out i
            clear hxl
            go_wp2_with fail
            exact ⟨⟨i + 1, _, by omega, by rw [List.length_set]; exact HXL.out, by go_num, HO2.out.set i _, hb2.setCell (p := ⟨g, i, none⟩) hgw _⟩, by simp [intOf]; omega⟩
          · have hcv := HO2.out.conv HXL.out
            have hsz := nums_size xs
            rw [HXL.out] at hsz
            have HCV : Hid (∀ w', Below wr.heap.size wr w' → (convert 54 9 (.slice (some ⟨g, 0, none⟩) n n)).run Tryd.prog w' = .ok (.string (strOfNums xs)) w') := fun w' h => (HO2.out.below h).conv HXL.out
            generalize strOfNums xs = s at hcv hsz HCV
            clear hxl
            go_wp2_with fail
            refine (bcut_any s wr).mono ?_
            rintro e w3 ⟨⟨v3, rfl, ho3⟩, hb3⟩
            rw [if_pos (by omega)] at ho3 ⊢
            obtain ⟨a3, c3, rfl, hst3, hcap3⟩ := cap_of ho3
            have HP : Hid (StrsAt w3 a3 (pcs (ls s))) := hst3
            have hcp := hcap3.1
            have HPL : Hid ((pcs (ls s)).length = many n) := by show _ = _; rw [pcs_len, ls_size, hsz]
            have hb31 := nwT hb2 hb3
            have HCV3 : Hid (∀ w', Below w3.heap.size w3 w' → (convert 54 9 (.slice (some ⟨g, 0, none⟩) n n)).run Tryd.prog w' = .ok (.string s) w') := fun w' h => HCV.out w' (nwT hb3 h)
            clear ho3 hst3 hcap3 hcv HCV hb3
            go_wp2_with fail
            refine (bjoin_pcs a3 (ls s) c3 _ _ _ HP.out rfl hcp (by rw [ls_size]; omega) (by rw [ls_size, hsz])).mono ?_
            rintro e w4 ⟨rfl, hb4⟩
            rw [bs_ls]
            have hb41 := nwT hb31 hb4
            have HP4 : Hid (StrsAt w4 a3 (pcs (ls s))) := HP.out.below hb4
            have HCV4 : Hid (∀ w', Below w4.heap.size w4 w' → (convert 54 9 (.slice (some ⟨g, 0, none⟩) n n)).run Tryd.prog w' = .ok (.string s) w') := fun w' h => HCV3.out w' (nwT hb4 h)
            have hcv := HCV4.out w4 (nwR w4)
            have hmn : (((pcs (ls s)).length : Int) != ((n : Int) + 31) / 32) = false := by rw [HPL.out, bne_eq_false_iff_eq]; unfold many; omega
            have hplb : (pcs (ls s)).length ≤ 7 := by rw [HPL.out]; unfold many; omega
            clear HP HCV3 HPL hb4
            go_wp2_with (first
              | (go_at_call 11; refine (num_w _ _).mono ?_; rintro e w' ⟨rfl, rfl⟩)
              | (go_at_call 29; refine (many_w _ _ (by omega) (by omega)).mono ?_; rintro e w' ⟨rfl, rfl⟩))
            clear hmn hcv
            go_loopw [10] (fun mm wr3 => ∃ (m : Int), (n : Int) - 1 ≤ m ∧ m ≤ (n : Int) + 2 ∧ mm = .int .i64 m ∧ Below w4.heap.size w4 wr3) (fun mm _ => ((n : Int) + 2 - intOf mm).toNat)
            case atStart => exact ⟨(n : Int) - 1, by omega, by omega, rfl, nwR w4⟩
            case round =>
              obtain ⟨m, hm1, hm2, rfl, hbm⟩ := hrel
              by_cases hmn : m ≤ (n : Int) + 1
              case neg =>
                go_wp2_with fail
                go_roundw
                case rel => exact ⟨n + 1, by omega, by go_num, nwT hb41 hbm⟩
                case measure => simp [intOf]; omega
              case pos =>
                by_cases hm0 : m < 0
                · go_wp2_with fail
                  go_roundw
                  case rel => exact ⟨m + 1, by omega, by omega, by go_num, hbm⟩
                  case measure => simp [intOf]; omega
                · by_cases hm200 : 200 < m
                  · go_wp2_with fail
                    go_roundw
                    case rel => exact ⟨m + 1, by omega, by omega, by go_num, hbm⟩
                    case measure => simp [intOf]; omega
                  · obtain ⟨j, rfl⟩ : ∃ j : Nat, m = j := ⟨m.toNat, by omega⟩
                    have HSZ : Hid (sized n (pcs (ls s)) j = ((j : Int), pcs (siz (ls s) j), frz (ls s) j, 0)) := by
                      have := sized_pcs (ls s) j (by rw [ls_size]; omega) (by omega)
                      rw [ls_size, hsz] at this; exact this
                    have HRS : Hid (∀ w', Calls Tryd.prog 22 #[.string s, .int .i64 j] w' (PairPost (bs (siz (ls s) j)) (frz (ls s) j) w')) := fun w' => rsize_any s j w' (by omega) (by omega)
                    have hFl := frz_len (ls s) j (by omega)
                    have hSl : (bs (siz (ls s) j)).size ≤ 10000 := by rw [bs_size, siz_len]; omega
                    have HLS : Hid (pcs (ls (bs (siz (ls s) j))) = pcs (siz (ls s) j)) := by show _ = _; rw [ls_bs]
                    have hXl : (pcs (siz (ls s) j)).length ≤ 100 := by rw [pcs_len, siz_len]; unfold many; omega
                    generalize pcs (siz (ls s) j) = X at HSZ HLS hXl
                    generalize bs (siz (ls s) j) = sz at HRS hSl HLS
                    generalize frz (ls s) j = F at HSZ HRS hFl
                    have HPm : Hid (StrsAt wr a3 (pcs (ls s))) := HP4.out.below hbm
                    go_wp2_with fail
                    refine (size_is a3 (pcs (ls s)) _ c3 n j _ rfl HPm.out hcp (by omega) _ _ _ _ HSZ.out).mono ?_
                    rintro e w5 ⟨⟨a5, c5, a6, c6, rfl, ⟨hx5, hcx5, _⟩, ⟨hi6, hci6⟩⟩, hb5⟩
                    have HX5 : Hid (StrsAt w5 a5 X) := hx5
                    have HI5 : Hid (IntsAt w5 a6 F) := hi6
                    have hbm5 := nwT hbm hb5
                    have hcv := HCV4.out w5 hbm5
                    clear hx5 hi6 hcx5 hci6 hb5
                    go_wp2_with fail
                    refine (HRS.out _).mono ?_
                    rintro e w6 ⟨⟨a7, c7, rfl, hi7, hc7⟩, hb6⟩
                    have HX6 : Hid (StrsAt w6 a5 X) := HX5.out.below hb6
                    have HI6 : Hid (IntsAt w6 a6 F) := HI5.out.below hb6
                    have HI7 : Hid (IntsAt w6 a7 F) := hi7
                    have hbm6 := nwT hbm5 hb6
                    clear hcv hi7 hc7 hb6 HX5 HI5
                    go_wp2_with (go_at_call 11; refine (num_w _ _).mono ?_; rintro e w' ⟨rfl, rfl⟩)
                    refine (rcut_any sz _ hSl).mono ?_
                    rintro e w7 ⟨⟨v8, rfl, ho8⟩, hb7⟩
                    rw [HLS.out] at ho8
                    obtain ⟨a8, c8, rfl, hs8⟩ := ho8.at
                    have HX7 : Hid (StrsAt w7 a5 X) := HX6.out.below hb7
                    have HX8 : Hid (StrsAt w7 a8 X) := hs8
                    have HI7a : Hid (IntsAt w7 a6 F) := HI6.out.below hb7
                    have HI7b : Hid (IntsAt w7 a7 F) := HI7.out.below hb7
                    have hbm7 := nwT hbm6 hb7
                    clear ho8 hs8 hb7 HX6 HI6 HI7
                    go_wp2_with fail
                    refine (eqs_same a5 a8 X _ c5 c8 _ rfl HX7.out HX8.out (by omega)).mono ?_
                    rintro e w8 ⟨rfl, hb8⟩
                    have HI8a : Hid (IntsAt w8 a6 F) := HI7a.out.below hb8
                    have HI8b : Hid (IntsAt w8 a7 F) := HI7b.out.below hb8
                    have hbm8 := nwT hbm7 hb8
                    clear hb8 HX7 HX8 HI7a HI7b
                    go_wp2_with fail
                    refine (eqn_same a6 a7 F _ c6 c7 _ rfl HI8a.out HI8b.out (by omega)).mono ?_
                    rintro e w9 ⟨rfl, hb9⟩
                    have hbm9 := nwT hbm8 hb9
                    clear hb9 HI8a HI8b
                    go_wp2_with fail
                    go_roundw
                    case rel => exact ⟨(j : Int) + 1, by omega, by omega, by go_num, hbm9⟩
                    case measure => simp [intOf]; omega

end Go.Proofs.YtifbnojkjbjngaaDoor
