/- Laid together: Back. -/
import Derived.Test.YtijldakgfgmbiaaTableM8
/- The law TableBack walked. -/
namespace Go.Proofs.Ytijldakgfgmbiaa
open Go.RowKit

theorem two_set {w : World} {g : Nat} {c0 c1 d0 d1 : Value} {t : TypeId} (h : w.heap[g]? = some (.cells #[c0, c1] t (0, 0))) : ((w.setCell ⟨g, 0, none⟩ d0).setCell ⟨g, 1, none⟩ d1).heap[g]? = some (.cells #[d0, d1] t (0, 0)) := by
  have h1 := heap_setCell_same w g 0 _ t d0 h
  have h2 := heap_setCell_same _ g 1 _ t d1 h1
  simpa using h2
set_option maxRecDepth 100000 in
set_option maxHeartbeats 32000000 in
theorem back_any : LawOk 4 := by
  intro v t l w hv hl
  have HVA : Hid (ScrVal w v t l) := hv
  obtain ⟨av, ca, aL, cL, rfl, hV, hL⟩ := id hv
  have HHV : Hid (∀ w', Below w.heap.size w w' → Calls Try.prog 8 #[.agg #[.int .i64 t.dev, .int .i64 t.size, .slice av t.list.length ca, .slice aL l.length cL]] w' fun e w'' => e = .returned (.bool (hvB t l)) ∧ Below w'.heap.size w' w'') := fun w' hb => heavy_any _ t l w' (ScrVal.below HVA.out hb) hl
  have HL : Hid (∀ w', Below w.heap.size w w' → ActsAt w' aL l) := fun w' h => hL.below h
  obtain ⟨WB, hWB⟩ : ∃ WB, WB = w.alloc (.cells #[.int .i64 t.dev, .int .i64 t.size, .slice av t.list.length ca, .slice aL l.length cL] 27) := ⟨_, rfl⟩
  have HB0 : Hid (Below w.heap.size w WB) := by rw [hWB]; exact nwA (nwR w) _
  have hX0 : WB.heap[w.heap.size]? = some (.cells #[.int .i64 t.dev, .int .i64 t.size, .slice av t.list.length ca, .slice aL l.length cL] 27 (0, 0)) := by rw [hWB]; exact heap_alloc_new w _
  have HX0 : Hid (∀ w', Below WB.heap.size WB w' → w'.heap[w.heap.size]? = some (.cells #[.int .i64 t.dev, .int .i64 t.size, .slice av t.list.length ca, .slice aL l.length cL] 27 (0, 0))) := fun w' h => (h.block _ (Array.getElem?_eq_some_iff.1 hX0).1).trans hX0
  have HWK : Hid (∀ w', Calls Try.prog 11 #[] w' fun e w'' => e = .returned (.bool true) ∧ Below w'.heap.size w' w'') := wakes_any
  clear hv hV hL HVA hX0
  go_enter Try.func4, Try.ntmps4
  go_wp2_with fail
  rw [← hWB]
  clear hWB
  refine (HHV.out WB HB0.out).mono ?_
  rintro e w1 ⟨rfl, hb1⟩
  have HB1 : Hid (Below WB.heap.size WB w1) := hb1
  clear hb1 HHV
  have HQ : Hid (hvB t l = false → t.list.length ≤ 300 ∧ l.length ≤ 200) := fun h => by
    unfold hvB at h
    simp only [Bool.or_eq_false_iff, decide_eq_false_iff_not] at h
    omega
  have HRA : Hid (∀ i, i < l.length → RngA (l.getD i act0)) := fun i hi => hl.a _ (getD_mem act0 hi)
  clear hl
  generalize hvB t l = q at HQ ⊢
  cases q
  case true =>
    go_wp2_with fail
    go_ret
    exact ⟨rfl, nwT HB0.out HB1.out⟩
  case false =>
  obtain ⟨_, hl2⟩ := HQ.out rfl
  clear HQ
  obtain ⟨x0, x1, x2, x3, _⟩ := four (HX0.out w1 HB1.out)
  obtain ⟨S, hS⟩ : ∃ S : Nat, 1 + withinN t.size 64 = S := ⟨_, rfl⟩
  have hSi : 1 + (withinN t.size 64 : Int) = (S : Int) := by omega
  have hS1 : 1 ≤ S := by omega
  have hS2 : S ≤ 64 := by have := withinN_lt t.size 64 (by omega); omega
  have hz0 : withinN t.size 64 < 64 := withinN_lt t.size 64 (by omega)
  obtain ⟨Bt, hBt⟩ : ∃ Bt, Bt = w1.heap.size := ⟨_, rfl⟩
  go_upto_region 4 with (go_at_call 12; refine ((within_any _ 64 (by omega) (by omega) _).mono fun _ _ h => (⟨h.1, h.2.symm⟩ : _ ∧ _ = _)).mono ?_; rintro e w' ⟨rfl, rfl⟩)
  clear x0 x1 x2 x3
  obtain ⟨i1, hi1, hy0, hy1, hy2⟩ := info_parts Try.info33
  obtain ⟨i2, hi2, hz0', hz1, hz2⟩ := info_parts Try.info4
  have hm1 : i1.bytes * S ≤ 281474976710656 := by rw [hy2]; omega
  have hm2 : i2.bytes * S ≤ 281474976710656 := by rw [hz2]; omega
  have hmS : S ≤ maxLen := by unfold maxLen; omega
  obtain ⟨w4, hw4⟩ : ∃ Y, Y = w1.alloc (.cells #[.int .i64 1, .int .i64 S, .slice none 0 0] 24) := ⟨_, rfl⟩
  obtain ⟨w5, hw5⟩ : ∃ Y, Y = w4.alloc (.cells (madeCells (Value.agg #[.int .i64 0, .int .i64 0]).cells (S * 2)) 33) := ⟨_, rfl⟩
  obtain ⟨w6, hw6⟩ : ∃ Y, Y = w5.alloc (.cells (madeCells (Value.bool false).cells (S * 1)) 4) := ⟨_, rfl⟩
  have hz4 : w4.heap.size = Bt + 1 := by rw [hw4, hBt]; simp
  have hz5 : w5.heap.size = Bt + 2 := by rw [hw5]; simp [hz4]
  have hq1 : w4.heap[Bt]? = some (.cells #[.int .i64 1, .int .i64 S, .slice none 0 0] 24 (0, 0)) := by rw [hw4, hBt]; exact heap_alloc_new w1 _
  have hq2 : w5.heap[Bt + 1]? = some (.cells (madeCells (Value.agg #[.int .i64 0, .int .i64 0]).cells (S * 2)) 33 (0, 0)) := by rw [hw5, ← hz4]; exact heap_alloc_new w4 _
  have hq3 : w6.heap[Bt + 2]? = some (.cells (madeCells (Value.bool false).cells (S * 1)) 4 (0, 0)) := by rw [hw6, ← hz5]; exact heap_alloc_new w5 _
  have hc4 : Below w1.heap.size w1 w4 := by rw [hw4]; exact nwA (nwR w1) _
  have hc5 : Below w4.heap.size w4 w5 := by rw [hw5]; exact nwA (nwR w4) _
  have hc6 : Below w5.heap.size w5 w6 := by rw [hw6]; exact nwA (nwR w5) _
  have HW6 : Hid (BkW WB w6 Bt S [] (List.replicate S (0, 0)) (List.replicate S false)) := by
    refine ⟨nwT HB1.out (nwT hc4 (nwT hc5 hc6)), ?_, ⟨none, 0, ?_, .inl rfl, ⟨Nat.le_refl _, fun _ => rfl⟩, fun h => absurd rfl h⟩, ?_, ?_⟩
    · rw [hBt]; exact HB1.out.size
    · exact (hc6.block _ (by omega)).trans ((hc5.block _ (by omega)).trans hq1)
    · rw [← made_ptr]
      exact (hc6.block _ (by omega)).trans hq2
    · rw [← made_bool]
      exact hq3
  clear hq1 hq2 hq3 hc4 hc5 hc6
  have HE4 : Hid (w4 = w1.alloc (.cells #[.int .i64 1, .int .i64 S, .slice none 0 0] 24)) := hw4
  have HE5 : Hid (w5 = w4.alloc (.cells (madeCells (Value.agg #[.int .i64 0, .int .i64 0]).cells (S * 2)) 33)) := hw5
  have HE6 : Hid (w6 = w5.alloc (.cells (madeCells (Value.bool false).cells (S * 1)) 4)) := hw6
  have HZB : Hid (Bt = w1.heap.size ∧ w4.heap.size = Bt + 1 ∧ w5.heap.size = Bt + 2) := ⟨hBt, hz4, hz5⟩
  clear hw4 hw5 hw6 hBt hz4 hz5
  go_upto_region 5 with fail
  rw [← HE4.out, ← HZB.out.1]
  go_upto_region 6 with (at_make; refine wpList_make_n w4 rfl (.tmp 33) (.tmp 33) 38 rfl 33 i1 (.agg #[.int .i64 0, .int .i64 0]) 2 Try.underlying38 hi1 hy0 hy1 .i64 .i64 S rfl rfl hm1 hmS ?_; rw [← HE5.out, HZB.out.2.1]; refine unstop ?_)
  unfold Stop
  go_upto_region 7 with (at_make; refine wpList_make_n w5 rfl (.tmp 35) (.tmp 35) 39 rfl 4 i2 (.bool false) 1 Try.underlying39 hi2 hz0' hz1 .i64 .i64 S rfl rfl hm2 hmS ?_; rw [← HE6.out, HZB.out.2.2]; refine unstop ?_)
  unfold Stop
  clear hi1 hy0 hy1 hy2 hi2 hz0' hz1 hz2 hm1 hm2 hmS HE4 HE5 HE6 HZB hSi hS hz0
  go_upto_region 8 with fail
  go_upto_block 0 with fail
  go_cut [7, 8, 9, 10, 11] from 37 to 99 (fun s7 s8 s9 s10 s11 wx => ∃ (n : Nat) (L : List EntD) (ps : List (Int × Int)) (bs : List Bool), Hid (BkW WB wx Bt S L ps bs) ∧ Hid (BkI S n L ps bs))
  case first =>
    have HI0 : Hid (BkI S 0 [] (List.replicate S (0, 0)) (List.replicate S false)) := BkI.start hS1 hS2
    go_wp2_with fail
    go_loopw [7, 8, 9, 10, 11] (fun v7 v8 v9 v10 v11 wr => ∃ (n i : Nat) (L : List EntD) (ps : List (Int × Int)) (bs : List Bool), i ≤ l.length ∧ n ≤ S ∧ v7 = .int .i64 n ∧ v8 = .int .i64 i ∧ Hid (BkW WB wr Bt S L ps bs) ∧ Hid (BkI S n L ps bs))
      (fun _ v8 _ _ _ _ => l.length - (intOf v8).toNat)
    case atStart => exact ⟨0, 0, [], _, _, by omega, by omega, rfl, rfl, HW6, HI0⟩
    case round =>
      obtain ⟨n, i, L, ps, bs, hi, hn, rfl, rfl, HWr, HI⟩ := hrel
      obtain ⟨x0, x1, x2, x3, _⟩ := four (HX0.out wr HWr.out.b)
      by_cases hil : i < l.length
      case neg =>
        have hili : ¬ (i : Int) < (l.length : Int) := by omega
        go_wp2_with fail
        go_meet
        exact ⟨n, L, ps, bs, HWr, HI⟩
      case pos =>
      have hili : (i : Int) < (l.length : Int) := by omega
      by_cases hnS : n < S
      case neg =>
        have hnSi : ¬ (n : Int) < (S : Int) := by omega
        go_wp2_with fail
        go_meet
        exact ⟨n, L, ps, bs, HWr, HI⟩
      case pos =>
      have hnSi : (n : Int) < (S : Int) := by omega
      have hi0 : (0 : Int) ≤ (i : Int) := by omega
      obtain ⟨b1, o1, rfl, hact⟩ := (HL.out wr (nwT HB0.out HWr.out.b)).act hil
      have HAC : Hid (∀ w', Below wr.heap.size wr w' → ActIn w' b1 (o1 + i * 5) (l.getD i act0)) := fun w' h => hact.below h
      generalize l.getD i act0 = A at hact HAC
      obtain ⟨act, nn, m, pd, pa⟩ := A
      obtain ⟨y0, y1, y2, _⟩ := hact
      obtain ⟨n2, hn2⟩ : ∃ n2 : Nat, n + withinN m 3 = n2 := ⟨_, rfl⟩
      have hw3 : withinN m 3 < 3 := withinN_lt m 3 (by omega)
      have hn2i : (n : Int) + (withinN m 3 : Int) = (n2 : Int) := by omega
      by_cases hge : S ≤ n2
      case pos =>
        have hgei : (n2 : Int) ≥ (S : Int) := by omega
        go_wp2_with (go_at_call 12; refine ((within_any _ 3 (by omega) (by omega) _).mono fun _ _ h => (⟨h.1, h.2.symm⟩ : _ ∧ _ = _)).mono ?_; rintro e w' ⟨rfl, rfl⟩)
        go_meet
        exact ⟨n, L, ps, bs, HWr, HI⟩
      case neg =>
      have hgei : ¬ (n2 : Int) ≥ (S : Int) := by omega
      go_upto_region 13 with (go_at_call 12; refine ((within_any _ 3 (by omega) (by omega) _).mono fun _ _ h => (⟨h.1, h.2.symm⟩ : _ ∧ _ = _)).mono ?_; rintro e w' ⟨rfl, rfl⟩)
      go_cut [9] from 61 to 79 (fun s9 wx => ∃ (B dd : Nat) (aa : Nat), s9 = .pointer (some ⟨B, 0, none⟩) ∧ Hid (Below wr.heap.size wr wx ∧ wr.heap.size ≤ B ∧ wx.heap[B]? = some (.cells #[.int .i64 (2 + (dd : Int)), .int .i64 aa] 33 (0, 0)) ∧ dd < 2 ∧ aa < 64))
      case first =>
        have ka : ∀ w', Below wr.heap.size wr w' → w'.heap[w.heap.size]? = some (.cells #[.int .i64 t.dev, .int .i64 t.size, .slice av t.list.length ca, .slice (some ⟨b1, o1, none⟩) l.length cL] 27 (0, 0)) := fun w' h => HX0.out w' (nwT HWr.out.b h)
        have k3 : ∀ w', Below wr.heap.size wr w' → w'.cell? ⟨w.heap.size, 3, none⟩ = some (.slice (some ⟨b1, o1, none⟩) l.length cL) := fun w' h => (four (ka w' h)).2.2.2.1
        have e0 : ∀ w', Below wr.heap.size wr w' → w'.cell? ⟨b1, o1 + i * 5, none⟩ = some (.int .i64 act) := fun w' h => (HAC.out w' h).1
        have e1 : ∀ w', Below wr.heap.size wr w' → w'.cell? ⟨b1, o1 + i * 5 + 1, none⟩ = some (.int .i64 nn) := fun w' h => (HAC.out w' h).2.1
        have hw2 : withinN nn 2 < 2 := withinN_lt nn 2 (by omega)
        have HWV : Hid (IntKind.i64.wrap (2 + (withinN nn 2 : Int)) = 2 + (withinN nn 2 : Int)) := by show _ = _; rw [IntKind.wrap_i64]; omega
        clear ka x0 x1 x2 x3 y0 y1 y2
        refine wp_region_held_drew (S := fun w' => Below wr.heap.size wr w') (by kernel_rfl) (by exact Below.drew (nwR wr)) (fun hHeld => ?_)
        refine takeYes 0 (some 61) (v := ?_) rfl (by kernel_rfl) (by kernel_rfl) (by kernel_rfl) (by rfl) (fun _ _ _ h => h) (by rfl) ?_ (by assumption) ?_
        rotate_left
        · intro w hSw; (try dsimp only at hSw); go_simp; try with_reducible rfl
        try simp only [Act.put, List.setIfInBounds_toArray, List.set_cons_zero, List.set_cons_succ]
        refine takeYes 1 (some 62) (v := ?_) rfl (by kernel_rfl) (by kernel_rfl) (by kernel_rfl) (by rfl) (fun _ _ _ h => h) (by rfl) ?_ (by assumption) ?_
        rotate_left
        · intro w hSw; (try dsimp only at hSw); go_simp; try with_reducible rfl
        try simp only [Act.put, List.setIfInBounds_toArray, List.set_cons_zero, List.set_cons_succ]
        refine takeYes 2 (some 63) (v := ?_) rfl (by kernel_rfl) (by kernel_rfl) (by kernel_rfl) (by rfl) (fun _ _ _ h => h) (by rfl) ?_ (by assumption) ?_
        rotate_left
        · intro w hSw; (try dsimp only at hSw); go_simp; try with_reducible rfl
        try simp only [Act.put, List.setIfInBounds_toArray, List.set_cons_zero, List.set_cons_succ]
        refine takeYes 3 (some 64) (v := ?_) rfl (by kernel_rfl) (by kernel_rfl) (by kernel_rfl) (by rfl) (fun _ _ _ h => h) (by rfl) ?_ (by assumption) ?_
        rotate_left
        · intro w hSw; (try dsimp only at hSw); go_simp; try with_reducible rfl
        try simp only [Act.put, List.setIfInBounds_toArray, List.set_cons_zero, List.set_cons_succ]
        refine takeYes 4 (some 65) (v := ?_) rfl (by kernel_rfl) (by kernel_rfl) (by kernel_rfl) (by rfl) (fun _ _ _ h => h) (by rfl) ?_ (by assumption) ?_
        rotate_left
        · intro w hSw; (try dsimp only at hSw); go_simp; try with_reducible rfl
        try simp only [Act.put, List.setIfInBounds_toArray, List.set_cons_zero, List.set_cons_succ]
        refine takeYes 5 (some 66) (v := ?_) rfl (by kernel_rfl) (by kernel_rfl) (by kernel_rfl) (by rfl) (fun _ _ _ h => h) (by rfl) ?_ (by assumption) ?_
        rotate_left
        · intro w hSw; (try dsimp only at hSw); go_simp; try with_reducible rfl
        try simp only [Act.put, List.setIfInBounds_toArray, List.set_cons_zero, List.set_cons_succ]
        refine takeYes 8 (some 69) (v := ?_) rfl (by kernel_rfl) (by kernel_rfl) (by kernel_rfl) (by rfl) (fun _ _ _ h => h) (by rfl) ?_ (by assumption) ?_
        rotate_left
        · intro w hSw; (try dsimp only at hSw); go_simp; try with_reducible rfl
        try simp only [Act.put, List.setIfInBounds_toArray, List.set_cons_zero, List.set_cons_succ]
        refine takeYes 9 (some 70) (v := ?_) rfl (by kernel_rfl) (by kernel_rfl) (by kernel_rfl) (by rfl) (fun _ _ _ h => h) (by rfl) ?_ (by assumption) ?_
        rotate_left
        · intro w hSw; (try dsimp only at hSw); go_simp; try with_reducible rfl
        try simp only [Act.put, List.setIfInBounds_toArray, List.set_cons_zero, List.set_cons_succ]
        refine takeYes 10 (some 71) (v := ?_) rfl (by kernel_rfl) (by kernel_rfl) (by kernel_rfl) (by rfl) (fun _ _ _ h => h) (by rfl) ?_ (by assumption) ?_
        rotate_left
        · intro w hSw; (try dsimp only at hSw); go_simp; try with_reducible rfl
        try simp only [Act.put, List.setIfInBounds_toArray, List.set_cons_zero, List.set_cons_succ]
        refine takeYes 11 (some 72) (v := ?_) rfl (by kernel_rfl) (by kernel_rfl) (by kernel_rfl) (by rfl) (fun _ _ _ h => h) (by rfl) ?_ (by assumption) ?_
        rotate_left
        · intro w hSw; (try dsimp only at hSw); go_simp; try with_reducible rfl
        try simp only [Act.put, List.setIfInBounds_toArray, List.set_cons_zero, List.set_cons_succ]
        refine takeYes 12 (some 73) (v := ?_) rfl (by kernel_rfl) (by kernel_rfl) (by kernel_rfl) (by rfl) (fun _ _ _ h => h) (by rfl) ?_ (by assumption) ?_
        rotate_left
        · intro w hSw; (try dsimp only at hSw); go_simp; try with_reducible rfl
        try simp only [Act.put, List.setIfInBounds_toArray, List.set_cons_zero, List.set_cons_succ]
        refine takeYes 13 (some 74) (v := ?_) rfl (by kernel_rfl) (by kernel_rfl) (by kernel_rfl) (by rfl) (fun _ _ _ h => h) (by rfl) ?_ (by assumption) ?_
        rotate_left
        · intro w hSw; (try dsimp only at hSw); go_simp; try with_reducible rfl
        try simp only [Act.put, List.setIfInBounds_toArray, List.set_cons_zero, List.set_cons_succ]
        refine takeYes 14 (some 75) (v := ?_) rfl (by kernel_rfl) (by kernel_rfl) (by kernel_rfl) (by rfl) (fun _ _ _ h => h) (by rfl) ?_ (by assumption) ?_
        rotate_left
        · intro w hSw; (try dsimp only at hSw); go_simp; try with_reducible rfl
        try simp only [Act.put, List.setIfInBounds_toArray, List.set_cons_zero, List.set_cons_succ]
        refine takeYes 15 (some 76) (v := ?_) rfl (by kernel_rfl) (by kernel_rfl) (by kernel_rfl) (by rfl) (fun _ _ _ h => h) (by rfl) ?_ (by assumption) ?_
        rotate_left
        · intro w hSw; (try dsimp only at hSw); go_simp; try with_reducible rfl
        try simp only [Act.put, List.setIfInBounds_toArray, List.set_cons_zero, List.set_cons_succ]
        refine takeYes 16 (some 77) (v := ?_) rfl (by kernel_rfl) (by kernel_rfl) (by kernel_rfl) (by rfl) (fun _ _ _ h => h) (by rfl) ?_ (by assumption) ?_
        rotate_left
        · intro w hSw; (try dsimp only at hSw); go_simp; try with_reducible rfl
        try simp only [Act.put, List.setIfInBounds_toArray, List.set_cons_zero, List.set_cons_succ]
        have hF : Below wr.heap.size wr wr.drew := Below.drew (nwR wr)
        clear hHeld
        generalize wr.drew = wd at hF ⊢
        refine wpAnyH_ready (rs := [6, 19]) (by kernel_rfl) (by simp) ?_
        refine AllReadyH.cons rfl (fun K hK => ?_) (AllReadyH.cons rfl (fun K hK => ?_) AllReadyH.nil)
        ·
          go_simp
          go_at_call 12
          refine ((within_any _ 2 (by omega) (by omega) _).mono fun _ _ h => (⟨h.1, h.2.symm⟩ : _ ∧ _ = _)).mono ?_
          rintro e w' ⟨rfl, rfl⟩
          refine hK.out _ _ hF (fun hHeld => ?_)
          clear hK K
          try simp only [Act.put, List.setIfInBounds_toArray, List.set_cons_zero, List.set_cons_succ]
          refine takeYes 7 (some 68) (v := ?_) rfl (by kernel_rfl) (by kernel_rfl) (by kernel_rfl) (by rfl) (fun _ _ _ h => h) (by rfl) ?_ (by assumption) ?_
          rotate_left
          · intro w hSw; (try dsimp only at hSw); go_simp; try with_reducible rfl
          try simp only [Act.put, List.setIfInBounds_toArray, List.set_cons_zero, List.set_cons_succ]
          refine wpAnyH_ready (rs := [17, 19]) (by kernel_rfl) (by simp) ?_
          refine AllReadyH.cons rfl (fun K hK => ?_) (AllReadyH.cons rfl (fun K hK => ?_) AllReadyH.nil)
          ·
            go_simp
            go_at_call 12
            refine ((within_any _ 64 (by omega) (by omega) _).mono fun _ _ h => (⟨h.1, h.2.symm⟩ : _ ∧ _ = _)).mono ?_
            rintro e w' ⟨rfl, rfl⟩
            refine hK.out _ _ hF (fun hHeld => ?_)
            clear hK K
            try simp only [Act.put, List.setIfInBounds_toArray, List.set_cons_zero, List.set_cons_succ]
            refine takeYes 18 (some 79) (v := ?_) rfl (by kernel_rfl) (by kernel_rfl) (by kernel_rfl) (by rfl) (fun _ _ _ h => h) (by rfl) ?_ (by assumption) ?_
            rotate_left
            · intro w hSw; (try dsimp only at hSw); go_simp; try with_reducible rfl
            try simp only [Act.put, List.setIfInBounds_toArray, List.set_cons_zero, List.set_cons_succ]
            refine wpAnyH_ready (rs := [19]) (by kernel_rfl) (by simp) ?_
            refine AllReadyH.cons rfl (fun K hK => ?_) AllReadyH.nil
            obtain ⟨wA, hWA⟩ : ∃ Y, Y = wd.alloc (.cells #[.int .i64 0, .int .i64 0] 33) := ⟨_, rfl⟩
            have hbA : Below wd.heap.size wd wA := by rw [hWA]; exact nwA (nwR wd) _
            have hFA : Below wr.heap.size wr wA := nwT hF hbA
            have hZZ : wA.heap[wd.heap.size]? = some (.cells #[.int .i64 0, .int .i64 0] 33 (0, 0)) := by rw [hWA]; exact heap_alloc_new wd _
            have hBL : wr.heap.size ≤ wd.heap.size := hF.size
            go_simp
            rw [← hWA]
            refine hK.out _ _ hFA (fun hHeld => ?_)
            clear hK K
            try simp only [Act.put, List.setIfInBounds_toArray, List.set_cons_zero, List.set_cons_succ]
            clear hWA
            refine wpAnyH_ready (rs := [20]) (by kernel_rfl) (by simp) ?_
            refine AllReadyH.cons rfl (fun K hK => ?_) AllReadyH.nil
            obtain ⟨z0, z1, zf⟩ := two hZZ
            obtain ⟨wF, hWF⟩ : ∃ Y, Y = (World.setCell wA ⟨wd.heap.size, 0, none⟩ (.int .i64 (2 + (withinN nn 2 : Int)))).setCell ⟨wd.heap.size, 1, none⟩ (.int .i64 (withinN (IntKind.i64.wrap ((n2 : Int) + IntKind.i64.wrap (act.tdiv 3))) 64)) := ⟨_, rfl⟩
            have hFF : Below wr.heap.size wr wF := by rw [hWF]; exact (hFA.setCell (p := ⟨wd.heap.size, 0, none⟩) hBL _).setCell (p := ⟨wd.heap.size, 1, none⟩) hBL _
            have hXF : wF.heap[wd.heap.size]? = some (.cells #[.int .i64 (2 + (withinN nn 2 : Int)), .int .i64 (withinN (IntKind.i64.wrap ((n2 : Int) + IntKind.i64.wrap (act.tdiv 3))) 64)] 33 (0, 0)) := by rw [hWF]; exact two_set hZZ
            go_simp
            rw [HWV.out]
            rw [← hWF]
            refine hK.out _ _ hFF (fun hHeld => ?_)
            clear hK K
            try simp only [Act.put, List.setIfInBounds_toArray, List.set_cons_zero, List.set_cons_succ]
            clear hWF z0 z1 zf
            refine wpAnyH_done (by kernel_rfl) ?_ _
            go_wp2_with fail
            go_meet
            exact ⟨wd.heap.size, withinN nn 2, _, rfl, hFF, hBL, hXF, withinN_lt _ _ (by omega), withinN_lt _ _ (by omega)⟩
          ·
            obtain ⟨wA, hWA⟩ : ∃ Y, Y = wd.alloc (.cells #[.int .i64 0, .int .i64 0] 33) := ⟨_, rfl⟩
            have hbA : Below wd.heap.size wd wA := by rw [hWA]; exact nwA (nwR wd) _
            have hFA : Below wr.heap.size wr wA := nwT hF hbA
            have hZZ : wA.heap[wd.heap.size]? = some (.cells #[.int .i64 0, .int .i64 0] 33 (0, 0)) := by rw [hWA]; exact heap_alloc_new wd _
            have hBL : wr.heap.size ≤ wd.heap.size := hF.size
            go_simp
            rw [← hWA]
            refine hK.out _ _ hFA (fun hHeld => ?_)
            clear hK K
            try simp only [Act.put, List.setIfInBounds_toArray, List.set_cons_zero, List.set_cons_succ]
            clear hWA
            refine wpAnyH_ready (rs := [17]) (by kernel_rfl) (by simp) ?_
            refine AllReadyH.cons rfl (fun K hK => ?_) AllReadyH.nil
            go_simp
            go_at_call 12
            refine ((within_any _ 64 (by omega) (by omega) _).mono fun _ _ h => (⟨h.1, h.2.symm⟩ : _ ∧ _ = _)).mono ?_
            rintro e w' ⟨rfl, rfl⟩
            refine hK.out _ _ hFA (fun hHeld => ?_)
            clear hK K
            try simp only [Act.put, List.setIfInBounds_toArray, List.set_cons_zero, List.set_cons_succ]
            refine takeYes 18 (some 79) (v := ?_) rfl (by kernel_rfl) (by kernel_rfl) (by kernel_rfl) (by rfl) (fun _ _ _ h => h) (by rfl) ?_ (by assumption) ?_
            rotate_left
            · intro w hSw; (try dsimp only at hSw); go_simp; try with_reducible rfl
            try simp only [Act.put, List.setIfInBounds_toArray, List.set_cons_zero, List.set_cons_succ]
            refine wpAnyH_ready (rs := [20]) (by kernel_rfl) (by simp) ?_
            refine AllReadyH.cons rfl (fun K hK => ?_) AllReadyH.nil
            obtain ⟨z0, z1, zf⟩ := two hZZ
            obtain ⟨wF, hWF⟩ : ∃ Y, Y = (World.setCell wA ⟨wd.heap.size, 0, none⟩ (.int .i64 (2 + (withinN nn 2 : Int)))).setCell ⟨wd.heap.size, 1, none⟩ (.int .i64 (withinN (IntKind.i64.wrap ((n2 : Int) + IntKind.i64.wrap (act.tdiv 3))) 64)) := ⟨_, rfl⟩
            have hFF : Below wr.heap.size wr wF := by rw [hWF]; exact (hFA.setCell (p := ⟨wd.heap.size, 0, none⟩) hBL _).setCell (p := ⟨wd.heap.size, 1, none⟩) hBL _
            have hXF : wF.heap[wd.heap.size]? = some (.cells #[.int .i64 (2 + (withinN nn 2 : Int)), .int .i64 (withinN (IntKind.i64.wrap ((n2 : Int) + IntKind.i64.wrap (act.tdiv 3))) 64)] 33 (0, 0)) := by rw [hWF]; exact two_set hZZ
            go_simp
            rw [HWV.out]
            rw [← hWF]
            refine hK.out _ _ hFF (fun hHeld => ?_)
            clear hK K
            try simp only [Act.put, List.setIfInBounds_toArray, List.set_cons_zero, List.set_cons_succ]
            clear hWF z0 z1 zf
            refine wpAnyH_done (by kernel_rfl) ?_ _
            go_wp2_with fail
            go_meet
            exact ⟨wd.heap.size, withinN nn 2, _, rfl, hFF, hBL, hXF, withinN_lt _ _ (by omega), withinN_lt _ _ (by omega)⟩
        ·
          obtain ⟨wA, hWA⟩ : ∃ Y, Y = wd.alloc (.cells #[.int .i64 0, .int .i64 0] 33) := ⟨_, rfl⟩
          have hbA : Below wd.heap.size wd wA := by rw [hWA]; exact nwA (nwR wd) _
          have hFA : Below wr.heap.size wr wA := nwT hF hbA
          have hZZ : wA.heap[wd.heap.size]? = some (.cells #[.int .i64 0, .int .i64 0] 33 (0, 0)) := by rw [hWA]; exact heap_alloc_new wd _
          have hBL : wr.heap.size ≤ wd.heap.size := hF.size
          go_simp
          rw [← hWA]
          refine hK.out _ _ hFA (fun hHeld => ?_)
          clear hK K
          try simp only [Act.put, List.setIfInBounds_toArray, List.set_cons_zero, List.set_cons_succ]
          clear hWA
          refine wpAnyH_ready (rs := [6]) (by kernel_rfl) (by simp) ?_
          refine AllReadyH.cons rfl (fun K hK => ?_) AllReadyH.nil
          go_simp
          go_at_call 12
          refine ((within_any _ 2 (by omega) (by omega) _).mono fun _ _ h => (⟨h.1, h.2.symm⟩ : _ ∧ _ = _)).mono ?_
          rintro e w' ⟨rfl, rfl⟩
          refine hK.out _ _ hFA (fun hHeld => ?_)
          clear hK K
          try simp only [Act.put, List.setIfInBounds_toArray, List.set_cons_zero, List.set_cons_succ]
          refine takeYes 7 (some 68) (v := ?_) rfl (by kernel_rfl) (by kernel_rfl) (by kernel_rfl) (by rfl) (fun _ _ _ h => h) (by rfl) ?_ (by assumption) ?_
          rotate_left
          · intro w hSw; (try dsimp only at hSw); go_simp; try with_reducible rfl
          try simp only [Act.put, List.setIfInBounds_toArray, List.set_cons_zero, List.set_cons_succ]
          refine wpAnyH_ready (rs := [17]) (by kernel_rfl) (by simp) ?_
          refine AllReadyH.cons rfl (fun K hK => ?_) AllReadyH.nil
          go_simp
          go_at_call 12
          refine ((within_any _ 64 (by omega) (by omega) _).mono fun _ _ h => (⟨h.1, h.2.symm⟩ : _ ∧ _ = _)).mono ?_
          rintro e w' ⟨rfl, rfl⟩
          refine hK.out _ _ hFA (fun hHeld => ?_)
          clear hK K
          try simp only [Act.put, List.setIfInBounds_toArray, List.set_cons_zero, List.set_cons_succ]
          refine takeYes 18 (some 79) (v := ?_) rfl (by kernel_rfl) (by kernel_rfl) (by kernel_rfl) (by rfl) (fun _ _ _ h => h) (by rfl) ?_ (by assumption) ?_
          rotate_left
          · intro w hSw; (try dsimp only at hSw); go_simp; try with_reducible rfl
          try simp only [Act.put, List.setIfInBounds_toArray, List.set_cons_zero, List.set_cons_succ]
          refine wpAnyH_ready (rs := [20]) (by kernel_rfl) (by simp) ?_
          refine AllReadyH.cons rfl (fun K hK => ?_) AllReadyH.nil
          obtain ⟨z0, z1, zf⟩ := two hZZ
          obtain ⟨wF, hWF⟩ : ∃ Y, Y = (World.setCell wA ⟨wd.heap.size, 0, none⟩ (.int .i64 (2 + (withinN nn 2 : Int)))).setCell ⟨wd.heap.size, 1, none⟩ (.int .i64 (withinN (IntKind.i64.wrap ((n2 : Int) + IntKind.i64.wrap (act.tdiv 3))) 64)) := ⟨_, rfl⟩
          have hFF : Below wr.heap.size wr wF := by rw [hWF]; exact (hFA.setCell (p := ⟨wd.heap.size, 0, none⟩) hBL _).setCell (p := ⟨wd.heap.size, 1, none⟩) hBL _
          have hXF : wF.heap[wd.heap.size]? = some (.cells #[.int .i64 (2 + (withinN nn 2 : Int)), .int .i64 (withinN (IntKind.i64.wrap ((n2 : Int) + IntKind.i64.wrap (act.tdiv 3))) 64)] 33 (0, 0)) := by rw [hWF]; exact two_set hZZ
          go_simp
          rw [HWV.out]
          rw [← hWF]
          refine hK.out _ _ hFF (fun hHeld => ?_)
          clear hK K
          try simp only [Act.put, List.setIfInBounds_toArray, List.set_cons_zero, List.set_cons_succ]
          clear hWF z0 z1 zf
          refine wpAnyH_done (by kernel_rfl) ?_ _
          go_wp2_with fail
          go_meet
          exact ⟨wd.heap.size, withinN nn 2, _, rfl, hFF, hBL, hXF, withinN_lt _ _ (by omega), withinN_lt _ _ (by omega)⟩
      case rest =>
      obtain ⟨B, dd, aa, rfl, HC⟩ := hcut
      rename World => wx
      have HWx : Hid (BkW WB wx Bt S L ps bs) := HWr.out.below HC.out.1
      obtain ⟨a, c, hT, hE, hN, hR⟩ := HWx.out.t
      have HTE : Hid (EntsAt wx a L ∧ NilOk a c L.length) := ⟨hE, hN⟩
      have hHI := HI.out
      have hHC := HC.out.2.2.2
      have HA : Hid (TokP (moreT ⟨1, S, L⟩ [newE n2 (2 + (dd : Int)) aa]) ∧ Calls Try.prog 13 #[.agg #[.int .i64 1, .int .i64 S, .slice a L.length c], .int .i64 n2, .agg #[.int .i64 (2 + (dd : Int)), .int .i64 aa]] wx fun e w' => (∃ u, e = .returned (.tuple #[.agg #[.int .i64 1, .int .i64 S, u], .int .i64 0]) ∧ OwnEnts w' wx.heap.size u (joinA L (newE n2 (2 + (dd : Int)) aa))) ∧ Below wx.heap.size wx w') :=
        add_ok _ S L n2 (2 + (dd : Int)) aa wx ⟨a, c, rfl, hE, hN⟩ hHI.tok (Int.le_trans hHI.e (by omega)) (by omega) (by omega) (by omega) (by omega) (by omega) (by omega)
      have HI3 : Hid (BkI S (n2 + 1) (joinA L (newE n2 (2 + (dd : Int)) aa)) (ps.set n2 (2 + (dd : Int), (aa : Int))) (bs.set n2 true)) := hHI.add (by omega) (by omega) HA.out.1 (by omega)
      obtain ⟨L3, hL3⟩ : ∃ L3, L3 = joinA L (newE n2 (2 + (dd : Int)) aa) := ⟨_, rfl⟩
      rw [← hL3] at HA HI3
      clear hL3
      obtain ⟨t0, t1, t2, tf⟩ := three hT
      obtain ⟨p0, p1, pf⟩ := two HC.out.2.2.1
      have hpl := hHI.pl
      have hbl := hHI.bl
      clear hT hE hN hR hHI HI
      go_upto_region 14 with fail
      go_wp2_with fail
      refine HA.out.2.mono ?_
      rintro e w3 ⟨⟨u, rfl, ho⟩, hb3⟩
      obtain ⟨a3, c3, rfl, hE3, hN3⟩ := OwnEnts.at ho
      have HR3 : Hid (L3 ≠ [] → ∃ g, a3 = some ⟨g, 0, none⟩ ∧ wx.heap.size ≤ g) := fun h => ho.look h
      have HE3 : Hid (EntsAt w3 a3 L3 ∧ NilOk a3 c3 L3.length) := ⟨hE3, hN3⟩
      have HB3 : Hid (Below wx.heap.size wx w3) := hb3
      clear t0 t1 t2 tf p0 p1 pf ho hE3 hN3 hb3 HA HTE
      obtain ⟨g4, hg4⟩ : ∃ g4, g4 = w3.heap.size := ⟨_, rfl⟩
      obtain ⟨W4, hW4⟩ : ∃ W4, W4 = w3.alloc (.cells #[.int .i64 1, .int .i64 S, .slice a3 L3.length c3] 24) := ⟨_, rfl⟩
      have HQ4 : Hid (g4 = w3.heap.size ∧ W4 = w3.alloc (.cells #[.int .i64 1, .int .i64 S, .slice a3 L3.length c3] 24)) := ⟨hg4, hW4⟩
      have hB34 : Below w3.heap.size w3 W4 := by rw [hW4]; exact nwA (nwR w3) _
      have HB4 : Hid (Below wx.heap.size wx W4) := nwT HB3.out hB34
      have HX4 : Hid (W4.heap[g4]? = some (.cells #[.int .i64 1, .int .i64 S, .slice a3 L3.length c3] 24 (0, 0))) := by show _ = _; rw [hW4, hg4]; exact heap_alloc_new w3 _
      have HE4 : Hid (EntsAt W4 a3 L3) := HE3.out.1.below hB34
      have HGL : Hid (wx.heap.size ≤ g4) := by show _ ≤ _; rw [hg4]; exact HB3.out.size
      clear hW4 hg4 hB34
      go_upto_region 15 with fail
      rw [← HQ4.out.2, ← HQ4.out.1]
      clear HQ4
      have HW4 : Hid (BkW WB W4 Bt S L ps bs) := HWx.out.below HB4.out
      obtain ⟨a', c', hT4, _⟩ := HW4.out.t
      have HSZ : Hid (Bt + 3 ≤ wx.heap.size) := by
        have := (Array.getElem?_eq_some_iff.1 HWx.out.l).1
        show _ ≤ _; omega
      have HBt4 : Hid (W4.heap[Bt]? = some (.cells #[.int .i64 1, .int .i64 S, .slice a' L.length c'] 24 (0, 0))) := hT4
      clear hT4
      obtain ⟨q0, q1, q2, qf⟩ := three HX4.out
      obtain ⟨t0, t1, t2, tf⟩ := three HBt4.out
      go_upto_region 17 with (go_at_call 14; refine (errnum_w _ _).mono ?_; rintro e w' ⟨rfl, rfl⟩)
      obtain ⟨W5, hW5⟩ : ∃ W5, W5 = ((W4.setCell ⟨Bt, 0, none⟩ (.int .i64 1)).setCell ⟨Bt, 1, none⟩ (.int .i64 S)).setCell ⟨Bt, 2, none⟩ (.slice a3 L3.length c3) := ⟨_, rfl⟩
      have HQ5 : Hid (W5 = ((W4.setCell ⟨Bt, 0, none⟩ (.int .i64 1)).setCell ⟨Bt, 1, none⟩ (.int .i64 S)).setCell ⟨Bt, 2, none⟩ (.slice a3 L3.length c3)) := hW5
      have HW5 : Hid (BkW WB W5 Bt S L3 ps bs) := by
        show BkW _ _ _ _ _ _ _
        rw [hW5]
        refine HW4.out.tab HE4.out HE3.out.2 fun h => ?_
        obtain ⟨g, e, hg⟩ := HR3.out h
        exact ⟨g, e, Nat.le_trans HSZ.out hg⟩
      have hPB : W5.heap[B]? = some (.cells #[.int .i64 (2 + (dd : Int)), .int .i64 aa] 33 (0, 0)) := by
        rw [hW5]
        refine three_other ((HB4.out.block _ (Array.getElem?_eq_some_iff.1 HC.out.2.2.1).1).trans HC.out.2.2.1) ?_
        have h1 := (Array.getElem?_eq_some_iff.1 HWr.out.l).1
        have h2 := HC.out.2.1
        omega
      have HPB : Hid (W5.heap[B]? = some (.cells #[.int .i64 (2 + (dd : Int)), .int .i64 aa] 33 (0, 0))) := hPB
      clear hW5 hPB
      go_upto_region 18 with fail
      rw [← HQ5.out]
      clear q0 q1 q2 qf t0 t1 t2 tf HQ5
      obtain ⟨p0, p1, pf⟩ := two HPB.out
      obtain ⟨r0, r1, rf⟩ := HW5.out.ptr (k := n2) (by omega)
      obtain ⟨s0, sf⟩ := HW5.out.bool (k := n2) (by omega)
      obtain ⟨W6, hW6⟩ : ∃ W6, W6 = ((W5.setCell ⟨Bt + 1, n2 * 2, none⟩ (.int .i64 (2 + (dd : Int)))).setCell ⟨Bt + 1, n2 * 2 + 1, none⟩ (.int .i64 aa)).setCell ⟨Bt + 2, n2, none⟩ (.bool true) := ⟨_, rfl⟩
      have HQ6 : Hid (W6 = ((W5.setCell ⟨Bt + 1, n2 * 2, none⟩ (.int .i64 (2 + (dd : Int)))).setCell ⟨Bt + 1, n2 * 2 + 1, none⟩ (.int .i64 aa)).setCell ⟨Bt + 2, n2, none⟩ (.bool true)) := hW6
      have HW6' : Hid (BkW WB W6 Bt S L3 (ps.set n2 (2 + (dd : Int), (aa : Int))) (bs.set n2 true)) := by
        show BkW _ _ _ _ _ _ _
        rw [hW6]
        exact HW5.out.lay (by omega) _ _
      clear hW6
      have hn20 : (0 : Int) ≤ (n2 : Int) := by omega
      go_upto_region 19 with fail
      rw [← HQ6.out]
      clear p0 p1 pf r0 r1 rf s0 sf HQ6
      go_wp2_with fail
      go_roundw
      case rel => exact ⟨n2 + 1, i + 1, L3, _, _, by omega, by omega, by go_num, by go_num, HW6', HI3⟩
      case measure => simp [intOf]; omega
  case rest =>
  obtain ⟨n, L, ps, bs, HWX, HI⟩ := hcut
  rename World => wx
  have hHI := HI.out
  have HTK : Hid (TokP ⟨1, S, L⟩) := hHI.tok
  have HZ : Hid (∀ x ∈ L, x.stale = 0) := hHI.z
  have HLO : Hid (∀ s : Nat, s < S → bs.getD s false = (atL L s).isSome ∧ ∀ q, atL L s = some q → ps.getD s (0, 0) = q) := hHI.loc
  have hpl := hHI.pl
  have hbl := hHI.bl
  have hll : L.length ≤ 64 := hHI.tok.len
  clear hHI HI HX0 HRA HL HW6
  obtain ⟨a, c, hT, hE, hN, hR⟩ := HWX.out.t
  have HRG : Hid (Calls Try.prog 15 #[.agg #[.int .i64 1, .int .i64 S, .slice a L.length c], .int .i64 0, .int .i64 S] wx fun e w' => (∃ u, e = .returned (.tuple #[u, .int .i64 0]) ∧ OwnEnts w' wx.heap.size u L) ∧ Below wx.heap.size wx w') :=
    range_ok _ S L wx ⟨a, c, rfl, hE, hN⟩ HTK.out HZ.out
  obtain ⟨t0, t1, t2, tf⟩ := three hT
  clear hT hE hN hR
  go_wp2_with fail
  refine HRG.out.mono ?_
  rintro e w2 ⟨⟨u, rfl, ho⟩, hb2⟩
  obtain ⟨aR, cR, rfl, hER, hNR⟩ := OwnEnts.at ho
  have HRR : Hid (L ≠ [] → ∃ g, aR = some ⟨g, 0, none⟩ ∧ Bt + 3 ≤ g) := fun h => by
    obtain ⟨g, e, hg⟩ := ho.look h
    have := (Array.getElem?_eq_some_iff.1 HWX.out.l).1
    exact ⟨g, e, by omega⟩
  have HER : Hid (EntsAt w2 aR L) := hER
  have HW2 : Hid (BkW WB w2 Bt S (lostL L 0) ps bs) := by
    show BkW _ _ _ _ _ _ _
    rw [lost_start HTK.out HZ.out]
    exact HWX.out.below hb2
  clear t0 t1 t2 tf ho hER hNR hb2 HRG HWX
  go_upto_block 2 with (go_at_call 14; refine (errnum_w _ _).mono ?_; rintro e w' ⟨rfl, rfl⟩)
  go_wp2_with fail
  go_loopw [14, 15, 16, 17, 18, 19] (fun v14 v15 v16 v17 v18 v19 wr => ∃ (k0 s : Nat), k0 ≤ L.length ∧ s ≤ S ∧ v14 = .int .i64 k0 ∧ v15 = .int .i64 s ∧ Hid (∀ i, i < k0 → (L.getD i EZ).frm + (L.getD i EZ).len ≤ s) ∧ Hid (BkW WB wr Bt S (lostL L s) ps bs) ∧ Hid (EntsAt wr aR L))
    (fun _ v15 _ _ _ _ _ => S - (intOf v15).toNat)
  case atStart => exact ⟨0, 0, by omega, by omega, rfl, rfl, fun i hi => by omega, HW2, HER⟩
  case round =>
    obtain ⟨k0, s, hk0, hs, rfl, rfl, HK0, HWr, HEr⟩ := hrel
    by_cases hsS : s < S
    case neg =>
      obtain rfl : s = S := by omega
      have hsi : ¬ (s : Int) < (s : Int) := by omega
      obtain ⟨a, c, hT, hE, hN, hR⟩ := HWr.out.t
      have HTV : Hid (∀ w', Below wr.heap.size wr w' → TabVal w' (.agg #[.int .i64 1, .int .i64 s, .slice a (lostL L s).length c]) ⟨1, s, lostL L s⟩) := fun w' h => ⟨a, c, rfl, hE.below h, hN⟩
      have HTI : Hid (Calls Try.prog 18 #[.agg #[.int .i64 1, .int .i64 s, .slice a (lostL L s).length c]] wr fun e w' => (∃ u, e = .returned (.tuple #[.agg #[.int .i64 1, .int .i64 s, u], .int .i64 0]) ∧ OwnEnts w' wr.heap.size u []) ∧ Below wr.heap.size wr w') := tidy_ok _ s L wr (HTV.out wr (nwR wr)) HTK.out
      have HTT : Hid (∀ w', Below wr.heap.size wr w' → w'.heap[Bt]? = some (.cells #[.int .i64 1, .int .i64 s, .slice a (lostL L s).length c] 24 (0, 0))) := fun w' h => (h.block _ (Array.getElem?_eq_some_iff.1 hT).1).trans hT
      obtain ⟨t0, t1, t2, tf⟩ := three hT
      clear hT hE hN hR
      go_wp2_with fail
      refine HTI.out.mono ?_
      rintro e w3 ⟨⟨u, rfl, ho⟩, hb3⟩
      obtain ⟨a3, c3, rfl, hE3, hN3⟩ := OwnEnts.at ho
      have HB3 : Hid (Below wr.heap.size wr w3) := hb3
      have HN3 : Hid (NilOk a3 c3 0) := hN3
      clear ho hE3 hb3 hN3 HTI t0 t1 t2 tf
      obtain ⟨g4, hg4⟩ : ∃ g4, g4 = w3.heap.size := ⟨_, rfl⟩
      obtain ⟨W4, hW4⟩ : ∃ W4, W4 = w3.alloc (.cells #[.int .i64 1, .int .i64 s, .slice a3 0 c3] 24) := ⟨_, rfl⟩
      have HQ4 : Hid (g4 = w3.heap.size ∧ W4 = w3.alloc (.cells #[.int .i64 1, .int .i64 s, .slice a3 0 c3] 24)) := ⟨hg4, hW4⟩
      have HB4 : Hid (Below wr.heap.size wr W4) := by
        show Below _ _ _
        rw [hW4]; exact nwT HB3.out (nwA (nwR w3) _)
      have HX4 : Hid (W4.heap[g4]? = some (.cells #[.int .i64 1, .int .i64 s, .slice a3 0 c3] 24 (0, 0))) := by show _ = _; rw [hW4, hg4]; exact heap_alloc_new w3 _
      clear hW4 hg4
      simp only [List.length_nil]
      go_upto_region 40 with fail
      rw [← HQ4.out.2, ← HQ4.out.1]
      clear HQ4
      obtain ⟨t0, t1, t2, tf⟩ := three (HTT.out W4 HB4.out)
      go_wp2_with fail
      refine (live_ok _ s L W4 (HTV.out W4 HB4.out) HTK.out).mono ?_
      rintro e w5 ⟨rfl, hb5⟩
      have HB5 : Hid (Below wr.heap.size wr w5) := nwT HB4.out hb5
      have HX5 : Hid (w5.heap[g4]? = some (.cells #[.int .i64 1, .int .i64 s, .slice a3 0 c3] 24 (0, 0))) := (hb5.block _ (Array.getElem?_eq_some_iff.1 HX4.out).1).trans HX4.out
      clear t0 t1 t2 tf hb5
      obtain ⟨q0, q1, q2, qf⟩ := three HX5.out
      go_wp2_with (go_at_call 14; refine (errnum_w _ _).mono ?_; rintro e w' ⟨rfl, rfl⟩)
      refine (tabp_ok _ s w5 ⟨a3, c3, rfl, .inl rfl, HN3.out⟩ (by omega) (by omega)).mono ?_
      rintro e w6 ⟨rfl, hb6⟩
      have HB6 : Hid (Below wr.heap.size wr w6) := nwT HB5.out hb6
      clear q0 q1 q2 qf hb6
      go_wp2_with fail
      refine (HWK.out w6).mono ?_
      rintro e w7 ⟨rfl, hb7⟩
      have HB7 : Hid (Below w.heap.size w w7) := nwT (nwT HB0.out HWr.out.b) (nwT HB6.out hb7)
      clear hb7
      go_wp2_with fail
      go_ret
      exact ⟨rfl, HB7.out⟩
    case pos =>
    have hsi : (s : Int) < (S : Int) := by omega
    have hs0 : (0 : Int) ≤ (s : Int) := by omega
    have hsc : ((s + 1 : Nat) : Int) = (s : Int) + 1 := by omega
    obtain ⟨a, c, hT, hE, hN, hR⟩ := HWr.out.t
    have HLK : Hid (Calls Try.prog 16 #[.agg #[.int .i64 1, .int .i64 S, .slice a (lostL L s).length c], .int .i64 s] wr fun e w' => e = .returned (match inT L s with | some k => .tuple #[ptrV (L.getD k EZ).dev (plc (L.getD k EZ) s), .int .i64 0] | none => .tuple #[ptrV 0 0, .int .i64 3]) ∧ Below wr.heap.size wr w') := look_ok _ S L s wr ⟨a, c, rfl, hE, hN⟩ HTK.out
    have HTV : Hid (∀ w', Below wr.heap.size wr w' → TabVal w' (.agg #[.int .i64 1, .int .i64 S, .slice a (lostL L s).length c]) ⟨1, S, lostL L s⟩) := fun w' h => ⟨a, c, rfl, hE.below h, hN⟩
    have HTT : Hid (∀ w', Below wr.heap.size wr w' → w'.heap[Bt]? = some (.cells #[.int .i64 1, .int .i64 S, .slice a (lostL L s).length c] 24 (0, 0))) := fun w' h => (h.block _ (Array.getElem?_eq_some_iff.1 hT).1).trans hT
    obtain ⟨t0, t1, t2, tf⟩ := three hT
    obtain ⟨lo1, lo2⟩ := HLO.out s hsS
    clear hT hE hN hR
    obtain ⟨ok, hok⟩ : ∃ ok, inT L s = ok := ⟨_, rfl⟩
    rw [hok] at HLK
    cases ok with
    | none =>
      have hno := inT_no hok
      rw [hno] at lo1
      simp only [Option.isSome_none] at lo1
      have HSK : Hid (lostL L ((s : Int) + 1) = lostL L s) := lost_skip hok
      clear lo2 hok hno
      go_wp2_with fail
      refine HLK.out.mono ?_
      rintro e w3 ⟨rfl, hb3⟩
      simp only [ptrV]
      have HB3 : Hid (Below wr.heap.size wr w3) := hb3
      clear hb3 HLK t0 t1 t2 tf
      obtain ⟨g4, hg4⟩ : ∃ g4, g4 = w3.heap.size := ⟨_, rfl⟩
      obtain ⟨W4, hW4⟩ : ∃ W4, W4 = w3.alloc (.cells #[.int .i64 0, .int .i64 0] 33) := ⟨_, rfl⟩
      have HQ4 : Hid (g4 = w3.heap.size ∧ W4 = w3.alloc (.cells #[.int .i64 0, .int .i64 0] 33)) := ⟨hg4, hW4⟩
      have HB4 : Hid (Below wr.heap.size wr W4) := by
        show Below _ _ _
        rw [hW4]; exact nwT HB3.out (nwA (nwR w3) _)
      have HX4 : Hid (W4.heap[g4]? = some (.cells #[.int .i64 0, .int .i64 0] 33 (0, 0))) := by show _ = _; rw [hW4, hg4]; exact heap_alloc_new w3 _
      clear hW4 hg4
      go_upto_region 28 with fail
      rw [← HQ4.out.2, ← HQ4.out.1]
      clear HQ4
      have HW4 : Hid (BkW WB W4 Bt S (lostL L s) ps bs) := HWr.out.below HB4.out
      obtain ⟨q0, q1, qf⟩ := two HX4.out
      obtain ⟨s0, sf⟩ := HW4.out.bool (k := s) (by omega)
      rw [lo1] at s0
      go_quiet (first | (go_at_call 14; exact Calls.quiet_of_same (errnum_any _ _)) | fail)
      have HBB : Hid (Below W4.heap.size W4 (W4.drewN nq)) := below_drewN (nwR W4) _
      generalize W4.drewN nq = wB at HBB ⊢
      clear q0 q1 qf s0 sf
      have HWB : Hid (BkW WB wB Bt S (lostL L s) ps bs) := HW4.out.below HBB.out
      obtain ⟨s0, sf⟩ := HWB.out.bool (k := s) (by omega)
      rw [lo1] at s0
      have HWN : Hid (BkW WB wB Bt S (lostL L ((s + 1 : Nat) : Int)) ps bs) := by
        show BkW _ _ _ _ _ _ _
        rw [hsc, HSK.out]; exact HWB.out
      have HEN : Hid (EntsAt wB aR L) := HEr.out.below (nwT HB4.out HBB.out)
      have HKN : Hid (∀ i, i < k0 → (L.getD i EZ).frm + (L.getD i EZ).len ≤ ((s + 1 : Nat) : Int)) := fun i hi => by
        have := HK0.out i hi
        omega
      clear hsc
      go_wp2_with fail
      go_roundw
      case rel => exact ⟨k0, s + 1, hk0, by omega, rfl, by go_num, HKN, HWN, HEN⟩
      case measure => simp [intOf]; omega
    | some k =>
      obtain ⟨hkl, hkb, hka⟩ := inT_at hok
      have hkb := hasB_iff.1 hkb
      rw [hka] at lo1 lo2
      simp only [Option.isSome_some] at lo1
      have lo2 := lo2 _ rfl
      have HLS : Hid (∀ v w, TabVal w v ⟨1, S, lostL L s⟩ → Calls Try.prog 17 #[v, .int .i64 s] w fun e w' => (∃ u, e = .returned (.tuple #[.agg #[.int .i64 1, .int .i64 S, u], .int .i64 0]) ∧ OwnEnts w' w.heap.size u (lostL L ((s : Int) + 1))) ∧ Below w.heap.size w w') := fun v w h => lose_ok v S L s k w h HTK.out hok
      have hin : InE 1 S (L.getD k EZ) := HTK.out.inE hkl
      have hk0k : k0 ≤ k := by
        rcases Nat.lt_or_ge k k0 with h | h
        · have := HK0.out k h; omega
        · exact h
      have HLE : Hid (∀ i, i < k → (L.getD i EZ).frm + (L.getD i EZ).len ≤ (s : Int)) := fun i hi => by
        have h1 : (L.getD i EZ).frm + (L.getD i EZ).len ≤ (L.getD k EZ).frm := okFrom_pair HTK.out.ok i k hi hkl
        omega
      obtain ⟨bR, oR, rfl, _⟩ := HEr.out.ent hkl
      have hf0 := hin.f0
      have hl0 := hin.l0
      have hfl := hin.fl
      have ht0 := hin.t0
      have htl := hin.tl
      have HKE : Hid (∀ wz, Below wr.heap.size wr wz → EntAt wz bR (oR + k * 5) (L.getD k EZ)) := fun wz h => (HEr.out.below h).at hkl
      have HVK : Hid (L.getD k EZ = L.getD k EZ) := rfl
      have HLK : Hid (Calls Try.prog 16 #[.agg #[.int .i64 1, .int .i64 S, .slice a (lostL L s).length c], .int .i64 s] wr fun e w' => e = .returned (.tuple #[ptrV (L.getD k EZ).dev (plc (L.getD k EZ) s), .int .i64 0]) ∧ Below wr.heap.size wr w') := HLK
      unfold plc at lo2 HLK
      obtain ⟨xk, hxk⟩ : ∃ xk, xk = L.getD k EZ := ⟨_, rfl⟩
      have HXK : Hid (xk = L.getD k EZ) := hxk
      rw [← hxk] at hkb lo2 HLK hf0 hl0 hfl ht0 htl HKE
      clear hxk hin hok hka HVK
      obtain ⟨xf, xl, xd, xt, xs⟩ := xk
      simp only at hkb lo2 HLK hf0 hl0 hfl ht0 htl
      obtain ⟨hkb1, hkb2⟩ := hkb
      go_wp2_with fail
      refine HLK.out.mono ?_
      rintro e w3 ⟨rfl, hb3⟩
      simp only [ptrV]
      have HB3 : Hid (Below wr.heap.size wr w3) := hb3
      clear hb3 HLK t0 t1 t2 tf
      obtain ⟨g4, hg4⟩ : ∃ g4, g4 = w3.heap.size := ⟨_, rfl⟩
      obtain ⟨W4, hW4⟩ : ∃ W4, W4 = w3.alloc (.cells #[.int .i64 xd, .int .i64 (xt + s - xf)] 33) := ⟨_, rfl⟩
      have HQ4 : Hid (g4 = w3.heap.size ∧ W4 = w3.alloc (.cells #[.int .i64 xd, .int .i64 (xt + s - xf)] 33)) := ⟨hg4, hW4⟩
      have HB4 : Hid (Below wr.heap.size wr W4) := by
        show Below _ _ _
        rw [hW4]; exact nwT HB3.out (nwA (nwR w3) _)
      have HX4 : Hid (W4.heap[g4]? = some (.cells #[.int .i64 xd, .int .i64 (xt + s - xf)] 33 (0, 0))) := by show _ = _; rw [hW4, hg4]; exact heap_alloc_new w3 _
      clear hW4 hg4
      go_upto_region 28 with fail
      rw [← HQ4.out.2, ← HQ4.out.1]
      clear HQ4
      have HW4 : Hid (BkW WB W4 Bt S (lostL L s) ps bs) := HWr.out.below HB4.out
      obtain ⟨q0, q1, qf⟩ := two HX4.out
      obtain ⟨s0, sf⟩ := HW4.out.bool (k := s) (by omega)
      obtain ⟨r0, r1, rf⟩ := HW4.out.ptr (k := s) (by omega)
      rw [lo1] at s0
      rw [lo2] at r0 r1
      simp only at r0 r1
      go_quiet (first | (go_at_call 14; exact Calls.quiet_of_same (errnum_any _ _)) | fail)
      have HBB : Hid (Below W4.heap.size W4 (W4.drewN nq)) := below_drewN (nwR W4) _
      generalize W4.drewN nq = wB at HBB ⊢
      clear q0 q1 qf s0 sf r0 r1 rf
      have HWB : Hid (BkW WB wB Bt S (lostL L s) ps bs) := HW4.out.below HBB.out
      have HRB : Hid (Below wr.heap.size wr wB) := nwT HB4.out HBB.out
      have HXB : Hid (∀ wz, Below wB.heap.size wB wz → wz.heap[g4]? = some (.cells #[.int .i64 xd, .int .i64 (xt + s - xf)] 33 (0, 0))) := fun wz h =>
        have h1 := (HBB.out.block _ (Array.getElem?_eq_some_iff.1 HX4.out).1).trans HX4.out
        (h.block _ (Array.getElem?_eq_some_iff.1 h1).1).trans h1
      obtain ⟨s0, sf⟩ := HWB.out.bool (k := s) (by omega)
      rw [lo1] at s0
      clear HX4
      go_upto_block 4 with fail
      go_cut [14] from 147 to 167 (fun s14 wy => s14 = .int .i64 k ∧ Hid (Below wB.heap.size wB wy))
      case first =>
        go_wp2_with fail
        go_loopw [14] (fun v14 wl => ∃ (j : Nat), j ≤ k ∧ v14 = .int .i64 j ∧ Hid (Below wB.heap.size wB wl))
          (fun v14 _ => k - (intOf v14).toNat)
        case atStart => exact ⟨k0, hk0k, rfl, nwR wB⟩
        case round =>
          obtain ⟨j, hj, rfl, HBl⟩ := hrel
          have hjl : j < L.length := by omega
          have hjli : (j : Int) < (L.length : Int) := by omega
          have hj0 : (0 : Int) ≤ (j : Int) := by omega
          have hij : InE 1 S (L.getD j EZ) := HTK.out.inE hjl
          have hjf := hij.f0
          have hjm := hij.l0
          have hjs := hij.fl
          obtain ⟨c0, c1, _, _, _⟩ := (HEr.out.below (nwT HRB.out HBl.out)).at hjl
          by_cases hjk : j < k
          case pos =>
            have hle := HLE.out j hjk
            generalize L.getD j EZ = y at hij hjf hjm hjs c0 c1 hle
            obtain ⟨yf, yl, yd, yt, ys⟩ := y
            simp only at hjf hjm hjs c0 c1 hle
            clear hij
            go_wp2_with fail
            go_quiet (fail)
            have HBN : Hid (Below wB.heap.size wB (wr.drewN nq)) := below_drewN HBl.out _
            generalize wr.drewN nq = wn at HBN ⊢
            clear c0 c1
            go_wp2_with fail
            go_roundw
            case rel => exact ⟨j + 1, by omega, by go_num, HBN⟩
            case measure => simp [intOf]; omega
          case neg =>
            obtain rfl : j = k := by omega
            rw [← HXK.out] at c0 c1 hjf hjm hjs
            simp only at c0 c1 hjf hjm hjs
            have hle : ¬ xf + xl ≤ (s : Int) := by omega
            clear hij
            go_wp2_with fail
            go_quiet (fail)
            have HBN : Hid (Below wB.heap.size wB (wr.drewN nq)) := below_drewN HBl.out _
            generalize wr.drewN nq = wn at HBN ⊢
            clear c0 c1
            go_wp2_with fail
            go_meet
            exact ⟨rfl, HBN⟩
      case rest =>
      obtain ⟨rfl, HBy⟩ := hcut
      rename World => wy
      have HRY : Hid (Below wr.heap.size wr wy) := nwT HRB.out HBy.out
      have hkli : (k : Int) < (L.length : Int) := by omega
      have hkne : ¬ (k : Int) = (L.length : Int) := by omega
      have hk00 : (0 : Int) ≤ (k : Int) := by omega
      have hxfs : ¬ xf > (s : Int) := by omega
      obtain ⟨c0, c1, c2, c3, _⟩ := HKE.out wy HRY.out
      simp only at c0 c1 c2 c3
      obtain ⟨q0, q1, qf⟩ := two (HXB.out wy HBy.out)
      clear s0 sf
      go_upto_region 33 with fail
      have HWV1 : IntKind.i64.wrap (xt + (s : Int)) = xt + (s : Int) := by rw [IntKind.wrap_i64]; omega
      have HWV2 : IntKind.i64.wrap (xt + (s : Int) - xf) = xt + (s : Int) - xf := by rw [IntKind.wrap_i64]; omega
      go_quiet (fail)
      clear HWV1 HWV2
      have HBz : Hid (Below wr.heap.size wr (wy.drewN nq)) := below_drewN HRY.out _
      generalize wy.drewN nq = wz at HBz ⊢
      clear c0 c1 c2 c3 q0 q1 qf
      have HWz : Hid (BkW WB wz Bt S (lostL L s) ps bs) := HWr.out.below HBz.out
      obtain ⟨t0, t1, t2, tf⟩ := three (HTT.out wz HBz.out)
      go_wp2_with fail
      refine (HLS.out _ wz (HTV.out wz HBz.out)).mono ?_
      rintro e w5 ⟨⟨u, rfl, ho⟩, hb5⟩
      obtain ⟨L3, hL3⟩ : ∃ L3, L3 = lostL L ((s : Int) + 1) := ⟨_, rfl⟩
      have HL3 : Hid (L3 = lostL L ((s + 1 : Nat) : Int)) := by show _ = _; rw [hL3, hsc]
      rw [← hL3] at ho
      clear hL3
      obtain ⟨a3, c3, rfl, hE3, hN3⟩ := OwnEnts.at ho
      have HR3 : Hid (L3 ≠ [] → ∃ g, a3 = some ⟨g, 0, none⟩ ∧ wz.heap.size ≤ g) := fun h => ho.look h
      have HE3 : Hid (EntsAt w5 a3 L3 ∧ NilOk a3 c3 L3.length) := ⟨hE3, hN3⟩
      have HB5 : Hid (Below wz.heap.size wz w5) := hb5
      clear t0 t1 t2 tf ho hE3 hN3 hb5 HLS
      obtain ⟨g5, hg5⟩ : ∃ g5, g5 = w5.heap.size := ⟨_, rfl⟩
      obtain ⟨W5, hW5⟩ : ∃ W5, W5 = w5.alloc (.cells #[.int .i64 1, .int .i64 S, .slice a3 L3.length c3] 24) := ⟨_, rfl⟩
      have HQ5 : Hid (g5 = w5.heap.size ∧ W5 = w5.alloc (.cells #[.int .i64 1, .int .i64 S, .slice a3 L3.length c3] 24)) := ⟨hg5, hW5⟩
      have hB5 : Below w5.heap.size w5 W5 := by rw [hW5]; exact nwA (nwR w5) _
      have HBW : Hid (Below wz.heap.size wz W5) := nwT HB5.out hB5
      have HX5 : Hid (W5.heap[g5]? = some (.cells #[.int .i64 1, .int .i64 S, .slice a3 L3.length c3] 24 (0, 0))) := by show _ = _; rw [hW5, hg5]; exact heap_alloc_new w5 _
      have HE5 : Hid (EntsAt W5 a3 L3) := HE3.out.1.below hB5
      clear hW5 hg5 hB5
      go_upto_region 36 with fail
      rw [← HQ5.out.2, ← HQ5.out.1]
      clear HQ5
      have HW5 : Hid (BkW WB W5 Bt S (lostL L s) ps bs) := HWz.out.below HBW.out
      have HT5 := HTT.out W5 (nwT HBz.out HBW.out)
      have HSZ : Hid (Bt + 3 ≤ wz.heap.size) := by
        have := (Array.getElem?_eq_some_iff.1 HWz.out.l).1
        show _ ≤ _; omega
      obtain ⟨q0, q1, q2, qf⟩ := three HX5.out
      obtain ⟨t0, t1, t2, tf⟩ := three HT5
      clear HT5
      go_upto_region 38 with (go_at_call 14; refine (errnum_w _ _).mono ?_; rintro e w' ⟨rfl, rfl⟩)
      obtain ⟨W6, hW6⟩ : ∃ W6, W6 = ((W5.setCell ⟨Bt, 0, none⟩ (.int .i64 1)).setCell ⟨Bt, 1, none⟩ (.int .i64 S)).setCell ⟨Bt, 2, none⟩ (.slice a3 L3.length c3) := ⟨_, rfl⟩
      have HQ6 : Hid (W6 = ((W5.setCell ⟨Bt, 0, none⟩ (.int .i64 1)).setCell ⟨Bt, 1, none⟩ (.int .i64 S)).setCell ⟨Bt, 2, none⟩ (.slice a3 L3.length c3)) := hW6
      have HW6 : Hid (BkW WB W6 Bt S (lostL L ((s + 1 : Nat) : Int)) ps bs) := by
        show BkW _ _ _ _ _ _ _
        rw [← HL3.out, hW6]
        refine HW5.out.tab HE5.out HE3.out.2 fun h => ?_
        obtain ⟨g, e, hg⟩ := HR3.out h
        exact ⟨g, e, Nat.le_trans HSZ.out hg⟩
      have HE6 : Hid (EntsAt W6 (some ⟨bR, oR, none⟩) L) := by
        show EntsAt _ _ _
        rw [hW6]
        refine (HEr.out.below (nwT HBz.out HBW.out)).same fun hl b hb => ?_
        obtain ⟨g, e, hg⟩ := HRR.out hl
        rw [hb] at e
        injection e with e
        subst e
        have hne : g ≠ Bt := by omega
        simp only
        rw [heap_setCell_other _ ⟨Bt, 2, none⟩ g _ hne, heap_setCell_other _ ⟨Bt, 1, none⟩ g _ hne, heap_setCell_other _ ⟨Bt, 0, none⟩ g _ hne]
      have HKN : Hid (∀ i, i < k → (L.getD i EZ).frm + (L.getD i EZ).len ≤ ((s + 1 : Nat) : Int)) := fun i hi => by
        have := HLE.out i hi
        omega
      clear hW6 hsc
      go_upto_region 26 with fail
      rw [← HQ6.out]
      clear q0 q1 q2 qf t0 t1 t2 tf HQ6
      go_wp2_with fail
      go_roundw
      case rel => exact ⟨k, s + 1, by omega, by omega, rfl, by go_num, HKN, HW6, HE6⟩
      case measure => simp [intOf]; omega

end Go.Proofs.Ytijldakgfgmbiaa
