/- Laid together: Exact, Only, Kinds. -/
import Derived.Test.YtijldakgfgmbiaaTableM9
/- The law TableExact, where each step is what it should be. -/
namespace Go.Proofs.Ytijldakgfgmbiaa
open Go.RowKit

theorem EntsAt.not3 {w : World} {a : Option Addr} {l : List EntD} (h : EntsAt w a l) {B : Nat} {c0 c1 c2 : Value} {t : TypeId} {fz : Nat × Nat} (hB : w.heap[B]? = some (.cells #[c0, c1, c2] t fz)) : l ≠ [] → ∀ b, a = some b → b.block ≠ B := by
  intro hl b hb e
  obtain ⟨b', o', e', hc⟩ := h.ent (i := 0) (List.length_pos_iff.2 hl)
  rw [hb] at e'
  injection e' with e'
  subst e'
  simp only at e
  subst e
  obtain ⟨_, _, _, _, c4⟩ := hc
  simp [World.cell?, hB] at c4
theorem EntsAt.aside {w : World} {a : Option Addr} {l : List EntD} (h : EntsAt w a l) {B : Nat} (hn : l ≠ [] → ∀ b, a = some b → b.block ≠ B) {d0 d1 d2 : Value} : EntsAt (((w.setCell ⟨B, 0, none⟩ d0).setCell ⟨B, 1, none⟩ d1).setCell ⟨B, 2, none⟩ d2) a l := by
  by_cases hl : l = []
  · exact .inl hl
  · rcases h with h2 | ⟨b, o, rfl, hc⟩
    · exact absurd h2 hl
    · refine .inr ⟨b, o, rfl, fun i hi => ?_⟩
      have hlt := (hc i hi).lt
      obtain ⟨ob, hob⟩ : ∃ ob, w.heap[b]? = some ob := ⟨_, Array.getElem?_eq_getElem hlt⟩
      have hh : (((w.setCell ⟨B, 0, none⟩ d0).setCell ⟨B, 1, none⟩ d1).setCell ⟨B, 2, none⟩ d2).heap[b]? = w.heap[b]? := (three_other hob (hn hl _ rfl)).trans hob.symm
      obtain ⟨c0, c1, c2, c3, c4⟩ := hc i hi
      have K : ∀ j v, w.cell? ⟨b, j, none⟩ = some v → (((w.setCell ⟨B, 0, none⟩ d0).setCell ⟨B, 1, none⟩ d1).setCell ⟨B, 2, none⟩ d2).cell? ⟨b, j, none⟩ = some v := fun j v e => by
        rw [← e]
        simp only [World.cell?, hh]
      exact ⟨K _ _ c0, K _ _ c1, K _ _ c2, K _ _ c3, K _ _ c4⟩
structure HeldT (w : World) (B : Nat) (t : TabD) : Prop where
  x : ∃ (a : Option Addr) (c : Nat), w.heap[B]? = some (.cells #[.int .i64 t.dev, .int .i64 t.size, .slice a t.list.length c] 24 (0, 0)) ∧ EntsAt w a t.list ∧ NilOk a c t.list.length
  f : FitT t

set_option maxRecDepth 100000 in
set_option maxHeartbeats 16000000 in
theorem exact_of (HS : StepOk) : LawOk 3 := by
  intro v t l w hv hl
  have HST : Hid StepOk := HS
  have HVA : Hid (ScrVal w v t l) := hv
  have HLL : Hid (LooseS t l) := hl
  obtain ⟨av, ca, aL, cL, rfl, hV, hL⟩ := id hv
  have HHV : Hid (∀ w', Below w.heap.size w w' → Calls Try.prog 8 #[.agg #[.int .i64 t.dev, .int .i64 t.size, .slice av t.list.length ca, .slice aL l.length cL]] w' fun e w'' => e = .returned (.bool (hvB t l)) ∧ Below w'.heap.size w' w'') := fun w' hb => heavy_any _ t l w' (ScrVal.below HVA.out hb) hl
  have HV : Hid (∀ w', Below w.heap.size w w' → EntsAt w' av t.list) := fun w' h => hV.1.below h
  have HVN : Hid (NilOk av ca t.list.length) := hV.2
  have HL : Hid (∀ w', Below w.heap.size w w' → ActsAt w' aL l) := fun w' h => hL.below h
  obtain ⟨WB, hWB⟩ : ∃ WB, WB = w.alloc (.cells #[.int .i64 t.dev, .int .i64 t.size, .slice av t.list.length ca, .slice aL l.length cL] 27) := ⟨_, rfl⟩
  have HB0 : Hid (Below w.heap.size w WB) := by rw [hWB]; exact nwA (nwR w) _
  have hX0 : WB.heap[w.heap.size]? = some (.cells #[.int .i64 t.dev, .int .i64 t.size, .slice av t.list.length ca, .slice aL l.length cL] 27 (0, 0)) := by rw [hWB]; exact heap_alloc_new w _
  have HX0 : Hid (∀ w', Below WB.heap.size WB w' → w'.heap[w.heap.size]? = some (.cells #[.int .i64 t.dev, .int .i64 t.size, .slice av t.list.length ca, .slice aL l.length cL] 27 (0, 0))) := fun w' h => (h.block _ (Array.getElem?_eq_some_iff.1 hX0).1).trans hX0
  have HWK : Hid (∀ w', Calls Try.prog 11 #[] w' fun e w'' => e = .returned (.bool true) ∧ Below w'.heap.size w' w'') := wakes_any
  clear hv hl hV hL HVA HS hX0
  go_enter Try.func3, Try.ntmps3
  go_wp2_with fail
  rw [← hWB]
  clear hWB
  refine (HHV.out WB HB0.out).mono ?_
  rintro e w1 ⟨rfl, hb1⟩
  have HB1 : Hid (Below WB.heap.size WB w1) := hb1
  clear hb1 HHV
  have HQ : Hid (hvB t l = false → t.list.length ≤ 300 ∧ l.length ≤ 200) := fun h => by
    unfold hvB at h
    simp only [Bool.or_eq_false_iff, decide_eq_false_iff_not] at h
    omega
  generalize hvB t l = q at HQ ⊢
  cases q
  case true =>
    go_wp2_with fail
    go_ret
    exact ⟨rfl, nwT HB0.out HB1.out⟩
  case false =>
  obtain ⟨ht3, hl2⟩ := HQ.out rfl
  have HFT : Hid (FitT t) := ⟨rngL_of (by omega) HLL.out.e, ht3⟩
  have HRA : Hid (∀ i, i < l.length → RngA (l.getD i act0)) := fun i hi => HLL.out.a _ (getD_mem act0 hi)
  have HBW1 : Hid (Below w.heap.size w w1) := nwT HB0.out HB1.out
  have HCT : Hid (Calls Try.prog 9 #[.agg #[.int .i64 t.dev, .int .i64 t.size, .slice av t.list.length ca]] w1 fun e w' => (∃ u, e = .returned u ∧ OwnTab w' w1.heap.size u t) ∧ Below w1.heap.size w1 w') := copyTab_any _ t w1 ⟨av, ca, rfl, HV.out w1 HBW1.out, HVN.out⟩ (by omega)
  obtain ⟨x0, x1, x2, x3, _⟩ := four (HX0.out w1 HB1.out)
  clear HQ
  go_wp2_with fail
  refine HCT.out.mono ?_
  rintro e w2 ⟨⟨u, rfl, uu, rfl, ho⟩, hb2⟩
  obtain ⟨a0, c0, rfl, hE0, hN0⟩ := ho.at
  have HB2 : Hid (Below WB.heap.size WB w2) := nwT HB1.out hb2
  clear x0 x1 x2 x3 hb2 ho HCT
  obtain ⟨B3, hB3⟩ : ∃ B3, B3 = w2.heap.size := ⟨_, rfl⟩
  obtain ⟨W3, hW3⟩ : ∃ W3, W3 = w2.alloc (.cells #[.int .i64 t.dev, .int .i64 t.size, .slice a0 t.list.length c0] 24) := ⟨_, rfl⟩
  have HB23 : Hid (Below w2.heap.size w2 W3) := by rw [hW3]; exact nwA (nwR w2) _
  have HH3 : Hid (HeldT W3 B3 t) := ⟨⟨a0, c0, by rw [hW3, hB3]; exact heap_alloc_new w2 _, hE0.below HB23.out, hN0⟩, HFT.out⟩
  have HL3 : Hid (WB.heap.size ≤ B3) := by rw [hB3]; exact HB2.out.size
  have HB3' : Hid (Below WB.heap.size WB W3) := nwT HB2.out HB23.out
  clear hE0 hN0
  go_upto_region 4 with fail
  rw [← hW3, ← hB3]
  clear hW3 hB3
  go_wp2_with fail
  go_loopw [4] (fun v4 wr => ∃ (i : Nat), i ≤ l.length ∧ v4 = .int .i64 i ∧ Hid (∃ t', HeldT wr B3 t') ∧ Hid (Below WB.heap.size WB wr))
    (fun v4 _ => l.length - (intOf v4).toNat)
  case atStart => exact ⟨0, by omega, rfl, ⟨t, HH3.out⟩, HB3'⟩
  case round =>
    obtain ⟨i, hi, rfl, HHr, HBR⟩ := hrel
    obtain ⟨t', hht⟩ := HHr.out
    obtain ⟨⟨a', c', hx9, hE9, hN9⟩, hf9⟩ := hht
    obtain ⟨x0, x1, x2, x3, _⟩ := four (HX0.out wr HBR.out)
    have fin : ∀ wz, Below w.heap.size w wz → True := fun _ _ => trivial
    clear fin
    by_cases hil : i < l.length
    case neg =>
      have hili : ¬ (i : Int) < (l.length : Int) := by omega
      clear hx9 hE9 hN9 hf9
      go_wp2_with fail
      refine (HWK.out wr).mono ?_
      rintro e wF ⟨rfl, hbF⟩
      have HBF : Hid (Below w.heap.size w wF) := nwT HB0.out (nwT HBR.out hbF)
      clear hbF
      go_wp2_with fail
      go_ret
      exact ⟨rfl, HBF.out⟩
    case pos =>
    have hili : (i : Int) < (l.length : Int) := by omega
    by_cases h10 : i < 14
    case neg =>
      have h10i : ¬ (i : Int) < 14 := by omega
      clear hx9 hE9 hN9 hf9
      go_wp2_with fail
      refine (HWK.out wr).mono ?_
      rintro e wF ⟨rfl, hbF⟩
      have HBF : Hid (Below w.heap.size w wF) := nwT HB0.out (nwT HBR.out hbF)
      clear hbF
      go_wp2_with fail
      go_ret
      exact ⟨rfl, HBF.out⟩
    case pos =>
    have h10i : (i : Int) < 14 := by omega
    have hi0 : (0 : Int) ≤ (i : Int) := by omega
    obtain ⟨b1, o1, rfl, hact⟩ := (HL.out wr (nwT HB0.out HBR.out)).act hil
    have HAC : Hid (∀ w', Below wr.heap.size wr w' → ActIn w' b1 (o1 + i * 5) (l.getD i act0)) := fun w' h => hact.below h
    have hra := HRA.out i hil
    generalize l.getD i act0 = A at hact HAC hra
    obtain ⟨act, n, m, pd, pa⟩ := A
    have HX9 : Hid (∀ w', Below wr.heap.size wr w' → w'.heap[B3]? = some (.cells #[.int .i64 t'.dev, .int .i64 t'.size, .slice a' t'.list.length c'] 24 (0, 0))) := fun w' h => (h.block _ (Array.getElem?_eq_some_iff.1 hx9).1).trans hx9
    have HSC : Hid (∀ w', Below wr.heap.size wr w' → Calls Try.prog 10 #[.agg #[.int .i64 t'.dev, .int .i64 t'.size, .slice a' t'.list.length c'], .agg #[.int .i64 act, .int .i64 n, .int .i64 m, .int .i64 pd, .int .i64 pa]] w' fun e w'' => (∃ (t2 : TabD) (a2 : Option Addr) (c2 : Nat), e = .returned (.tuple #[.agg #[.int .i64 t2.dev, .int .i64 t2.size, .slice a2 t2.list.length c2], .bool true]) ∧ EntsAt w'' a2 t2.list ∧ NilOk a2 c2 t2.list.length ∧ FitT t2) ∧ Below w'.heap.size w' w'') := fun w' h => HST.out t' a' c' ⟨act, n, m, pd, pa⟩ w' (hE9.below h) hN9 hf9 hra
    obtain ⟨y0, y1, y2, _⟩ := three hx9
    clear hx9 hE9 hN9 hf9 hra
    go_upto_region 7 with fail
    go_cut [5, 6] from 12 to 35 (fun s5 s6 wx => ∃ (t2 : TabD) (a2 : Option Addr) (c2 B : Nat), s5 = .pointer (some ⟨B, 0, none⟩) ∧ s6 = .bool true ∧ Hid (Below wr.heap.size wr wx ∧ wx.heap[B]? = some (.cells #[.int .i64 t2.dev, .int .i64 t2.size, .slice a2 t2.list.length c2] 24 (0, 0)) ∧ wr.heap.size ≤ B ∧ EntsAt wx a2 t2.list ∧ NilOk a2 c2 t2.list.length ∧ FitT t2))
    case first =>
      have ka : ∀ w', Below wr.heap.size wr w' → w'.heap[w.heap.size]? = some (.cells #[.int .i64 t.dev, .int .i64 t.size, .slice av t.list.length ca, .slice (some ⟨b1, o1, none⟩) l.length cL] 27 (0, 0)) := fun w' h => HX0.out w' (nwT HBR.out h)
      have k3 : ∀ w', Below wr.heap.size wr w' → w'.cell? ⟨w.heap.size, 3, none⟩ = some (.slice (some ⟨b1, o1, none⟩) l.length cL) := fun w' h => (four (ka w' h)).2.2.2.1
      have m0 : ∀ w', Below wr.heap.size wr w' → w'.cell? ⟨B3, 0, none⟩ = some (.int .i64 t'.dev) := fun w' h => (three (HX9.out w' h)).1
      have m1 : ∀ w', Below wr.heap.size wr w' → w'.cell? ⟨B3, 1, none⟩ = some (.int .i64 t'.size) := fun w' h => (three (HX9.out w' h)).2.1
      have m2 : ∀ w', Below wr.heap.size wr w' → w'.cell? ⟨B3, 2, none⟩ = some (.slice a' t'.list.length c') := fun w' h => (three (HX9.out w' h)).2.2.1
      have e0 : ∀ w', Below wr.heap.size wr w' → w'.cell? ⟨b1, o1 + i * 5, none⟩ = some (.int .i64 act) := fun w' h => (HAC.out w' h).1
      have e1 : ∀ w', Below wr.heap.size wr w' → w'.cell? ⟨b1, o1 + i * 5 + 1, none⟩ = some (.int .i64 n) := fun w' h => (HAC.out w' h).2.1
      have e2 : ∀ w', Below wr.heap.size wr w' → w'.cell? ⟨b1, o1 + i * 5 + 2, none⟩ = some (.int .i64 m) := fun w' h => (HAC.out w' h).2.2.1
      have e3 : ∀ w', Below wr.heap.size wr w' → w'.cell? ⟨b1, o1 + i * 5 + 3, none⟩ = some (.int .i64 pd) := fun w' h => (HAC.out w' h).2.2.2.1
      have e4 : ∀ w', Below wr.heap.size wr w' → w'.cell? ⟨b1, o1 + i * 5 + 4, none⟩ = some (.int .i64 pa) := fun w' h => (HAC.out w' h).2.2.2.2
      clear ka
      refine wp_region_held_drew (S := fun w' => Below wr.heap.size wr w') (by kernel_rfl) (by exact Below.drew (nwR wr)) (fun hHeld => ?_)
      refine takeYes 0 (some 24) (v := ?_) rfl (by kernel_rfl) (by kernel_rfl) (by kernel_rfl) (by rfl) (fun _ _ _ h => h) (by rfl) ?_ (by assumption) ?_
      rotate_left
      · intro w hSw; (try dsimp only at hSw); go_simp; try with_reducible rfl
      try simp only [Act.put, List.setIfInBounds_toArray, List.set_cons_zero, List.set_cons_succ]
      refine takeYes 1 (some 25) (v := ?_) rfl (by kernel_rfl) (by kernel_rfl) (by kernel_rfl) (by rfl) (fun _ _ _ h => h) (by rfl) ?_ (by assumption) ?_
      rotate_left
      · intro w hSw; (try dsimp only at hSw); go_simp; try with_reducible rfl
      try simp only [Act.put, List.setIfInBounds_toArray, List.set_cons_zero, List.set_cons_succ]
      refine takeYes 2 (some 26) (v := ?_) rfl (by kernel_rfl) (by kernel_rfl) (by kernel_rfl) (by rfl) (fun _ _ _ h => h) (by rfl) ?_ (by assumption) ?_
      rotate_left
      · intro w hSw; (try dsimp only at hSw); go_simp; try with_reducible rfl
      try simp only [Act.put, List.setIfInBounds_toArray, List.set_cons_zero, List.set_cons_succ]
      refine takeYes 3 (some 27) (v := ?_) rfl (by kernel_rfl) (by kernel_rfl) (by kernel_rfl) (by rfl) (fun _ _ _ h => h) (by rfl) ?_ (by assumption) ?_
      rotate_left
      · intro w hSw; (try dsimp only at hSw); go_simp; try with_reducible rfl
      try simp only [Act.put, List.setIfInBounds_toArray, List.set_cons_zero, List.set_cons_succ]
      refine takeYes 4 (some 28) (v := ?_) rfl (by kernel_rfl) (by kernel_rfl) (by kernel_rfl) (by rfl) (fun _ _ _ h => h) (by rfl) ?_ (by assumption) ?_
      rotate_left
      · intro w hSw; (try dsimp only at hSw); go_simp; try with_reducible rfl
      try simp only [Act.put, List.setIfInBounds_toArray, List.set_cons_zero, List.set_cons_succ]
      refine takeYes 5 (some 29) (v := ?_) rfl (by kernel_rfl) (by kernel_rfl) (by kernel_rfl) (by rfl) (fun _ _ _ h => h) (by rfl) ?_ (by assumption) ?_
      rotate_left
      · intro w hSw; (try dsimp only at hSw); go_simp; try with_reducible rfl
      try simp only [Act.put, List.setIfInBounds_toArray, List.set_cons_zero, List.set_cons_succ]
      have hF0 : Below wr.heap.size wr wr.drew := Below.drew (nwR wr)
      clear hHeld
      generalize wr.drew = wd at hF0 ⊢
      refine wpAnyH_ready (rs := [6, 10]) (by kernel_rfl) (by simp) ?_
      refine AllReadyH.cons rfl (fun K hK => ?_) (AllReadyH.cons rfl (fun K hK => ?_) AllReadyH.nil)
      ·
        go_simp
        go_at_call 10
        refine (HSC.out _ hF0).mono ?_
        rintro e wC ⟨⟨t2, a2, c2, rfl, hE2, hN2, hf2⟩, hbC⟩
        have hFC : Below wr.heap.size wr wC := nwT hF0 hbC
        refine hK.out _ _ hFC (fun hHeld => ?_)
        clear hK K
        try simp only [Act.put, List.setIfInBounds_toArray, List.set_cons_zero, List.set_cons_succ]
        refine takeYes 7 (some 23) (v := ?_) rfl (by kernel_rfl) (by kernel_rfl) (by kernel_rfl) (by rfl) (fun _ _ _ h => h) (by rfl) ?_ (by assumption) ?_
        rotate_left
        · intro w hSw; (try dsimp only at hSw); go_simp; try with_reducible rfl
        try simp only [Act.put, List.setIfInBounds_toArray, List.set_cons_zero, List.set_cons_succ]
        refine takeYes 8 (some 31) (v := ?_) rfl (by kernel_rfl) (by kernel_rfl) (by kernel_rfl) (by rfl) (fun _ _ _ h => h) (by rfl) ?_ (by assumption) ?_
        rotate_left
        · intro w hSw; (try dsimp only at hSw); go_simp; try with_reducible rfl
        try simp only [Act.put, List.setIfInBounds_toArray, List.set_cons_zero, List.set_cons_succ]
        refine takeYes 9 (some 32) (v := ?_) rfl (by kernel_rfl) (by kernel_rfl) (by kernel_rfl) (by rfl) (fun _ _ _ h => h) (by rfl) ?_ (by assumption) ?_
        rotate_left
        · intro w hSw; (try dsimp only at hSw); go_simp; try with_reducible rfl
        try simp only [Act.put, List.setIfInBounds_toArray, List.set_cons_zero, List.set_cons_succ]
        refine wpAnyH_ready (rs := [10]) (by kernel_rfl) (by simp) ?_
        refine AllReadyH.cons rfl (fun K hK => ?_) AllReadyH.nil
        obtain ⟨wA, hWA⟩ : ∃ Y, Y = wC.alloc (.cells #[.int .i64 0, .int .i64 0, .slice none 0 0] 24) := ⟨_, rfl⟩
        have hbA : Below wC.heap.size wC wA := by rw [hWA]; exact nwA (nwR wC) _
        have hFW : Below wr.heap.size wr wA := nwT hFC hbA
        have hZZ : wA.heap[wC.heap.size]? = some (.cells #[.int .i64 0, .int .i64 0, .slice none 0 0] 24 (0, 0)) := by rw [hWA]; exact heap_alloc_new wC _
        have hBL : wr.heap.size ≤ wC.heap.size := hFC.size
        go_simp
        rw [← hWA]
        refine hK.out _ _ hFW (fun hHeld => ?_)
        clear hK K
        try simp only [Act.put, List.setIfInBounds_toArray, List.set_cons_zero, List.set_cons_succ]
        clear hWA
        have hSafe : EntsAt (((World.setCell wA ⟨wC.heap.size, 0, none⟩ (.int .i64 t2.dev)).setCell ⟨wC.heap.size, 1, none⟩ (.int .i64 t2.size)).setCell ⟨wC.heap.size, 2, none⟩ (.slice a2 t2.list.length c2)) a2 t2.list := by
          have h1 : Below wC.heap.size wC (((World.setCell wA ⟨wC.heap.size, 0, none⟩ (.int .i64 t2.dev)).setCell ⟨wC.heap.size, 1, none⟩ (.int .i64 t2.size)).setCell ⟨wC.heap.size, 2, none⟩ (.slice a2 t2.list.length c2)) := three_below hbA (Nat.le_refl _)
          exact hE2.below h1
        refine wpAnyH_ready (rs := [11]) (by kernel_rfl) (by simp) ?_
        refine AllReadyH.cons rfl (fun K hK => ?_) AllReadyH.nil
        obtain ⟨z0, z1, z2, zf⟩ := three hZZ
        obtain ⟨wF, hWF⟩ : ∃ Y, Y = ((World.setCell wA ⟨wC.heap.size, 0, none⟩ (.int .i64 t2.dev)).setCell ⟨wC.heap.size, 1, none⟩ (.int .i64 t2.size)).setCell ⟨wC.heap.size, 2, none⟩ (.slice a2 t2.list.length c2) := ⟨_, rfl⟩
        have hFF : Below wr.heap.size wr wF := by rw [hWF]; exact three_below hFW hBL
        have hXF : wF.heap[wC.heap.size]? = some (.cells #[.int .i64 t2.dev, .int .i64 t2.size, .slice a2 t2.list.length c2] 24 (0, 0)) := by rw [hWF]; exact three_set hZZ
        have hEF : EntsAt wF a2 t2.list := by rw [hWF]; exact hSafe
        go_simp
        rw [← hWF]
        refine hK.out _ _ hFF (fun hHeld => ?_)
        clear hK K
        try simp only [Act.put, List.setIfInBounds_toArray, List.set_cons_zero, List.set_cons_succ]
        clear hWF z0 z1 z2 zf
        refine takeYes 12 (some 6) (v := ?_) rfl (by kernel_rfl) (by kernel_rfl) (by kernel_rfl) (by rfl) (fun _ _ _ h => h) (by rfl) ?_ (by assumption) ?_
        rotate_left
        · intro w hSw; (try dsimp only at hSw); go_simp; try with_reducible rfl
        try simp only [Act.put, List.setIfInBounds_toArray, List.set_cons_zero, List.set_cons_succ]
        refine wpAnyH_done (by kernel_rfl) ?_ _
        go_wp2_with fail
        go_meet
        exact ⟨t2, a2, c2, wC.heap.size, rfl, rfl, hFF, hXF, hBL, hEF, hN2, hf2⟩
      ·
        obtain ⟨wA, hWA⟩ : ∃ Y, Y = wd.alloc (.cells #[.int .i64 0, .int .i64 0, .slice none 0 0] 24) := ⟨_, rfl⟩
        have hbA : Below wd.heap.size wd wA := by rw [hWA]; exact nwA (nwR wd) _
        have hFA : Below wr.heap.size wr wA := nwT hF0 hbA
        have hZA : wA.heap[wd.heap.size]? = some (.cells #[.int .i64 0, .int .i64 0, .slice none 0 0] 24 (0, 0)) := by rw [hWA]; exact heap_alloc_new wd _
        have hBL : wr.heap.size ≤ wd.heap.size := hF0.size
        go_simp
        rw [← hWA]
        refine hK.out _ _ hFA (fun hHeld => ?_)
        clear hK K
        try simp only [Act.put, List.setIfInBounds_toArray, List.set_cons_zero, List.set_cons_succ]
        clear hWA
        refine wpAnyH_ready (rs := [6]) (by kernel_rfl) (by simp) ?_
        refine AllReadyH.cons rfl (fun K hK => ?_) AllReadyH.nil
        go_simp
        go_at_call 10
        refine (HSC.out _ hFA).mono ?_
        rintro e wC ⟨⟨t2, a2, c2, rfl, hE2, hN2, hf2⟩, hbC⟩
        have hFC : Below wr.heap.size wr wC := nwT hFA hbC
        refine hK.out _ _ hFC (fun hHeld => ?_)
        clear hK K
        try simp only [Act.put, List.setIfInBounds_toArray, List.set_cons_zero, List.set_cons_succ]
        refine takeYes 7 (some 23) (v := ?_) rfl (by kernel_rfl) (by kernel_rfl) (by kernel_rfl) (by rfl) (fun _ _ _ h => h) (by rfl) ?_ (by assumption) ?_
        rotate_left
        · intro w hSw; (try dsimp only at hSw); go_simp; try with_reducible rfl
        try simp only [Act.put, List.setIfInBounds_toArray, List.set_cons_zero, List.set_cons_succ]
        refine takeYes 8 (some 31) (v := ?_) rfl (by kernel_rfl) (by kernel_rfl) (by kernel_rfl) (by rfl) (fun _ _ _ h => h) (by rfl) ?_ (by assumption) ?_
        rotate_left
        · intro w hSw; (try dsimp only at hSw); go_simp; try with_reducible rfl
        try simp only [Act.put, List.setIfInBounds_toArray, List.set_cons_zero, List.set_cons_succ]
        refine takeYes 9 (some 32) (v := ?_) rfl (by kernel_rfl) (by kernel_rfl) (by kernel_rfl) (by rfl) (fun _ _ _ h => h) (by rfl) ?_ (by assumption) ?_
        rotate_left
        · intro w hSw; (try dsimp only at hSw); go_simp; try with_reducible rfl
        try simp only [Act.put, List.setIfInBounds_toArray, List.set_cons_zero, List.set_cons_succ]
        have hZZ := (hbC.block _ (Array.getElem?_eq_some_iff.1 hZA).1).trans hZA
        have hFW : Below wr.heap.size wr wC := hFC
        have hSafe : EntsAt (((World.setCell wC ⟨wd.heap.size, 0, none⟩ (.int .i64 t2.dev)).setCell ⟨wd.heap.size, 1, none⟩ (.int .i64 t2.size)).setCell ⟨wd.heap.size, 2, none⟩ (.slice a2 t2.list.length c2)) a2 t2.list := by
          exact hE2.aside (hE2.not3 hZZ)
        refine wpAnyH_ready (rs := [11]) (by kernel_rfl) (by simp) ?_
        refine AllReadyH.cons rfl (fun K hK => ?_) AllReadyH.nil
        obtain ⟨z0, z1, z2, zf⟩ := three hZZ
        obtain ⟨wF, hWF⟩ : ∃ Y, Y = ((World.setCell wC ⟨wd.heap.size, 0, none⟩ (.int .i64 t2.dev)).setCell ⟨wd.heap.size, 1, none⟩ (.int .i64 t2.size)).setCell ⟨wd.heap.size, 2, none⟩ (.slice a2 t2.list.length c2) := ⟨_, rfl⟩
        have hFF : Below wr.heap.size wr wF := by rw [hWF]; exact three_below hFW hBL
        have hXF : wF.heap[wd.heap.size]? = some (.cells #[.int .i64 t2.dev, .int .i64 t2.size, .slice a2 t2.list.length c2] 24 (0, 0)) := by rw [hWF]; exact three_set hZZ
        have hEF : EntsAt wF a2 t2.list := by rw [hWF]; exact hSafe
        go_simp
        rw [← hWF]
        refine hK.out _ _ hFF (fun hHeld => ?_)
        clear hK K
        try simp only [Act.put, List.setIfInBounds_toArray, List.set_cons_zero, List.set_cons_succ]
        clear hWF z0 z1 z2 zf
        refine takeYes 12 (some 6) (v := ?_) rfl (by kernel_rfl) (by kernel_rfl) (by kernel_rfl) (by rfl) (fun _ _ _ h => h) (by rfl) ?_ (by assumption) ?_
        rotate_left
        · intro w hSw; (try dsimp only at hSw); go_simp; try with_reducible rfl
        try simp only [Act.put, List.setIfInBounds_toArray, List.set_cons_zero, List.set_cons_succ]
        refine wpAnyH_done (by kernel_rfl) ?_ _
        go_wp2_with fail
        go_meet
        exact ⟨t2, a2, c2, wd.heap.size, rfl, rfl, hFF, hXF, hBL, hEF, hN2, hf2⟩
    case rest =>
    obtain ⟨t2, a2, c2, B, rfl, rfl, HC⟩ := hcut
    rename World => wx
    have HBX : Hid (Below WB.heap.size WB wx) := nwT HBR.out HC.out.1
    have hxx := HX9.out wx HC.out.1
    obtain ⟨y0, y1, y2, yf⟩ := three hxx
    obtain ⟨r0, r1, r2, _⟩ := three HC.out.2.1
    obtain ⟨w9, hW9⟩ : ∃ Y, Y = ((wx.setCell ⟨B3, 0, none⟩ (.int .i64 t2.dev)).setCell ⟨B3, 1, none⟩ (.int .i64 t2.size)).setCell ⟨B3, 2, none⟩ (.slice a2 t2.list.length c2) := ⟨_, rfl⟩
    have HB9 : Hid (Below WB.heap.size WB w9) := by show Below _ _ _; rw [hW9]; exact three_below HBX.out HL3.out
    have HH9 : Hid (HeldT w9 B3 t2) := by
      refine ⟨⟨a2, c2, ?_, ?_, HC.out.2.2.2.2.1⟩, HC.out.2.2.2.2.2⟩
      · rw [hW9]; exact three_set hxx
      · rw [hW9]; exact HC.out.2.2.2.1.aside (HC.out.2.2.2.1.not3 hxx)
    clear hxx HC HSC HAC HX9
    go_wp2_with fail
    rw [← hW9]
    clear hW9
    go_roundw
    case rel => exact ⟨i + 1, by omega, by go_num, ⟨t2, HH9.out⟩, HB9⟩
    case measure => simp [intOf]; omega

end Go.Proofs.Ytijldakgfgmbiaa

/- The laws of some kinds: the same acts, of these kinds in turn. -/
namespace Go.Proofs.Ytijldakgfgmbiaa
open Go.RowKit

def kindA (ks : List Int) (k : Nat) (x : ActD) : ActD := ⟨ks.getD (k % ks.length) 0, x.n, x.m, x.pd, x.pa⟩
def onlyL (ks : List Int) (l : List ActD) : List ActD := (List.range l.length).map fun k => kindA ks k (l.getD k act0)
theorem onlyL_len (ks : List Int) (l : List ActD) : (onlyL ks l).length = l.length := by simp [onlyL]
theorem onlyL_get (ks : List Int) (l : List ActD) {k : Nat} (hk : k < l.length) : (onlyL ks l).take (k + 1) = (onlyL ks l).take k ++ [kindA ks k (l.getD k act0)] := by
  have hl : k < (onlyL ks l).length := by rw [onlyL_len]; exact hk
  rw [List.take_succ_eq_append_getElem hl]
  congr 2
  simp [onlyL]
theorem onlyL_loose {ks : List Int} {t : TabD} {l : List ActD} (h : LooseS t l) : LooseS t (onlyL ks l) := by
  refine ⟨h.e, fun x hx => ?_, by rw [onlyL_len]; exact h.la, h.le⟩
  simp only [onlyL, List.mem_map, List.mem_range] at hx
  obtain ⟨k, hk, rfl⟩ := hx
  have := h.a (l.getD k act0) (getD_mem act0 hk)
  exact this
def IntsAt (w : World) (a : Option Addr) (ks : List Int) : Prop := ∀ i, i < ks.length → ∃ b o, a = some ⟨b, o, none⟩ ∧ w.cell? ⟨b, o + i, none⟩ = some (.int .i64 (ks.getD i 0))
theorem IntsAt.below {w w' : World} {a : Option Addr} {ks : List Int} (h : IntsAt w a ks) (hb : Below w.heap.size w w') : IntsAt w' a ks := fun i hi => by
  obtain ⟨b, o, e, hc⟩ := h i hi
  exact ⟨b, o, e, (hb.cell (p := ⟨b, o + i, none⟩) (block_lt_of_cell hc)).trans hc⟩
theorem aflat_append (a b : List ActD) : aflat (a ++ b) = aflat a ++ aflat b := by simp [aflat]
theorem aflat_len (l : List ActD) : (aflat l).length = l.length * 5 := by
  induction l with
  | nil => rfl
  | cons x r ih =>
    have : aflat (x :: r) = acells x ++ aflat r := by simp [aflat]
    rw [this, List.length_append, ih]; simp [acells]; omega
theorem aflat_get (l : List ActD) : ∀ i, i < l.length → (aflat l)[i * 5]? = some (.int .i64 (l.getD i act0).act) ∧ (aflat l)[i * 5 + 1]? = some (.int .i64 (l.getD i act0).n) ∧ (aflat l)[i * 5 + 2]? = some (.int .i64 (l.getD i act0).m) ∧ (aflat l)[i * 5 + 3]? = some (.int .i64 (l.getD i act0).pd) ∧ (aflat l)[i * 5 + 4]? = some (.int .i64 (l.getD i act0).pa) := by
  induction l with
  | nil => intro i hi; simp at hi
  | cons x xs ih =>
    intro i hi
    have e : aflat (x :: xs) = .int .i64 x.act :: .int .i64 x.n :: .int .i64 x.m :: .int .i64 x.pd :: .int .i64 x.pa :: aflat xs := by simp [aflat, acells]
    rw [e]
    cases i with
    | zero => simp
    | succ i =>
      have := ih i (by simpa using hi)
      rw [show (i + 1) * 5 = i * 5 + 1 + 1 + 1 + 1 + 1 from by omega]
      simp only [List.getElem?_cons_succ]
      simpa [List.getD] using this
def OwnActs (w : World) (base : Nat) (v : Value) (l : List ActD) : Prop := w.ownsRow base 35 5 v l.length (aflat l)
theorem OwnActs.at {w : World} {base : Nat} {v : Value} {l : List ActD} (h : OwnActs w base v l) : ∃ a c, v = .slice a l.length c ∧ ActsAt w a l := by
  rcases h.2 with ⟨hv, hn⟩ | ⟨g, cap, cur, hv, _, _, hnc, _⟩
  · have : l = [] := List.length_eq_zero_iff.1 hn
    subst this
    exact ⟨none, 0, hv, .inl rfl⟩
  · refine ⟨_, cap, hv, .inr ⟨g, 0, rfl, fun i hi => ?_⟩⟩
    have hl := aflat_get l i hi
    have K : ∀ j u, (aflat l)[j]? = some u → w.cell? ⟨g, 0 + j, none⟩ = some u := fun j u hj => by
      have := World.ownsRow.cells h (g := g) (by rw [hv]; rfl) j u hj
      rwa [addr_add] at this
    exact ⟨K _ _ hl.1, K _ _ hl.2.1, K _ _ hl.2.2.1, K _ _ hl.2.2.2.1, K _ _ hl.2.2.2.2⟩
theorem Try.info35 : (Try.prog.info? 35).map (fun i => (i.zero, i.size, i.bytes)) = some (some (.agg #[.int .i64 0, .int .i64 0, .int .i64 0, .int .i64 0, .int .i64 0]), 5, 40) := by kernel_rfl
theorem tmodL (k n : Nat) : Int.tmod (k : Int) (n : Int) = ((k % n : Nat) : Int) := by rw [Int.tmod_eq_emod_of_nonneg (by omega)]; omega
theorem four_set3 {w : World} {g : Nat} {c0 c1 c2 c3 u : Value} {t : TypeId} (h : w.heap[g]? = some (.cells #[c0, c1, c2, c3] t (0, 0))) : (w.setCell ⟨g, 3, none⟩ u).heap[g]? = some (.cells #[c0, c1, c2, u] t (0, 0)) := by
  have := heap_setCell_same w g 3 _ t u h
  simpa using this
theorem cells_at {w : World} {g : Nat} {cs : List Value} {t : TypeId} {fz : Nat × Nat} (h : w.heap[g]? = some (.cells cs.toArray t fz)) : ∀ j u, cs[j]? = some u → w.cell? ((⟨g, 0, none⟩ : Addr).add j) = some u := fun j u hu => by
  rw [addr_add, Nat.zero_add]
  simp [World.cell?, h, hu]

set_option maxRecDepth 100000 in
set_option maxHeartbeats 8000000 in
theorem onlyk_any (H : LawOk 3) (v : Value) (t : TabD) (l : List ActD) (ak : Option Addr) (ks : List Int) (ck : Nat) (w : World) (hv : ScrVal w v t l) (hl : LooseS t l) (hks : IntsAt w ak ks) (hk0 : 0 < ks.length) (hk9 : ks.length ≤ 9) :
    Calls Try.prog 21 #[v, .slice ak ks.length ck] w fun e w' => e = .returned (.bool true) ∧ Below w.heap.size w w' := by
  have HH : Hid (LawOk 3) := H
  have HLA : Hid (LooseS t l) := hl
  have hll := hl.la
  obtain ⟨av, ca, aL, cL, rfl, hV, hL⟩ := hv
  obtain ⟨W0, hW0⟩ : ∃ W0, W0 = (w.alloc (.cells #[.int .i64 t.dev, .int .i64 t.size, .slice av t.list.length ca, .slice aL l.length cL] 27)).alloc (.cells #[.int .i64 t.dev, .int .i64 t.size, .slice av t.list.length ca, .slice none 0 0] 27) := ⟨_, rfl⟩
  have HB0 : Hid (Below w.heap.size w W0) := by rw [hW0]; exact nwA (nwA (nwR w) _) _
  have HS0 : Hid (W0.heap[w.heap.size]? = some (.cells #[.int .i64 t.dev, .int .i64 t.size, .slice av t.list.length ca, .slice aL l.length cL] 27 (0, 0))) := by rw [hW0]; exact (Lib.alloc_old _ _ _ (by simp)).trans (heap_alloc_new w _)
  have HQ0 : Hid (W0.heap[w.heap.size + 1]? = some (.cells #[.int .i64 t.dev, .int .i64 t.size, .slice av t.list.length ca, .slice none 0 0] 27 (0, 0))) := by rw [hW0]; exact heap_alloc_new2 w _ _
  obtain ⟨i0, hi, hz0, hz1, hz2⟩ := info_parts Try.info35
  have HVE : Hid (∀ w', Below w.heap.size w w' → EntsAt w' av t.list ∧ NilOk av ca t.list.length) := fun w' h => ⟨hV.1.below h, hV.2⟩
  have HLZ : Hid (∀ wz, Below w.heap.size w wz → ActsAt wz aL l) := fun wz h => hL.below h
  have HKZ : Hid (∀ wz, Below w.heap.size w wz → IntsAt wz ak ks) := fun wz h => hks.below h
  clear hV hL hl hks H
  go_enter Try.func21, Try.ntmps21
  go_wp2_with fail
  rw [← hW0]
  clear hW0
  go_loopw [6] (fun i wr => ∃ (k : Nat), k ≤ l.length ∧ i = .int .i64 k ∧ Hid (Below w.heap.size w wr ∧ wr.heap[w.heap.size]? = some (.cells #[.int .i64 t.dev, .int .i64 t.size, .slice av t.list.length ca, .slice aL l.length cL] 27 (0, 0)) ∧ ∃ qv, wr.heap[w.heap.size + 1]? = some (.cells #[.int .i64 t.dev, .int .i64 t.size, .slice av t.list.length ca, qv] 27 (0, 0)) ∧ OwnActs wr (w.heap.size + 2) qv ((onlyL ks l).take k))) (fun i _ => l.length - (intOf i).toNat)
  case atStart => exact ⟨0, by omega, rfl, HB0.out, HS0.out, _, HQ0.out, World.ownsRow_nil _ _ _ _⟩
  case round =>
    obtain ⟨k, hk, rfl, HH2⟩ := hrel
    obtain ⟨qv, hqr, hoq⟩ := HH2.out.2.2
    have HBr : Hid (Below w.heap.size w wr) := HH2.out.1
    obtain ⟨x0, x1, x2, x3, _⟩ := four HH2.out.2.1
    obtain ⟨aq, cq, rfl, hqE⟩ := hoq.at
    have HQr : Hid (wr.heap[w.heap.size + 1]? = some (.cells #[.int .i64 t.dev, .int .i64 t.size, .slice av t.list.length ca, .slice aq ((onlyL ks l).take k).length cq] 27 (0, 0))) := hqr
    have HOr : Hid (OwnActs wr (w.heap.size + 2) (.slice aq ((onlyL ks l).take k).length cq) ((onlyL ks l).take k)) := hoq
    by_cases hkl : k < l.length
    case neg =>
      have hkli : ¬ (k : Int) < (l.length : Int) := by omega
      have htk : (onlyL ks l).take k = onlyL ks l := List.take_of_length_le (by rw [onlyL_len]; omega)
      rw [htk] at hqr hqE
      have HEX : Hid (Calls Try.prog 3 #[.agg #[.int .i64 t.dev, .int .i64 t.size, .slice av t.list.length ca, .slice aq (onlyL ks l).length cq]] wr fun e w' => e = .returned (.bool true) ∧ Below wr.heap.size wr w') :=
        HH.out _ t (onlyL ks l) wr ⟨_, _, _, _, rfl, HVE.out _ HBr.out, hqE⟩ (onlyL_loose HLA.out)
      obtain ⟨y0, y1, y2, y3, _⟩ := four hqr
      clear hqr hoq hqE HOr HQr htk
      go_wp2_with fail
      refine HEX.out.mono ?_
      rintro e wz ⟨rfl, hbz⟩
      go_wp2_with fail
      go_ret
      exact ⟨rfl, nwT HBr.out hbz⟩
    case pos =>
    have hkli : (k : Int) < (l.length : Int) := by omega
    have hk0i : (0 : Int) ≤ (k : Int) := by omega
    obtain ⟨b1, o1, rfl, hce⟩ := (HLZ.out wr HBr.out).act hkl
    have HTK : Hid ((onlyL ks l).take (k + 1) = (onlyL ks l).take k ++ [kindA ks k (l.getD k act0)]) := onlyL_get ks l hkl
    obtain ⟨m, hmd⟩ : ∃ m, m = k % ks.length := ⟨_, rfl⟩
    have hm : m < ks.length := by rw [hmd]; exact Nat.mod_lt _ hk0
    have em : Int.tmod (k : Int) (ks.length : Int) = (m : Int) := by rw [hmd]; exact tmodL k ks.length
    obtain ⟨bk, ok, rfl, hkc⟩ := (HKZ.out wr HBr.out) m hm
    obtain ⟨kd, hkd⟩ : ∃ kd, kd = ks.getD m 0 := ⟨_, rfl⟩
    have HKA : Hid (∀ A : ActD, kindA ks k A = ⟨kd, A.n, A.m, A.pd, A.pa⟩) := fun A => by unfold kindA; rw [hkd, hmd]
    clear hmd
    rw [← hkd] at hkc
    clear hkd
    generalize l.getD k act0 = A at hce HTK
    obtain ⟨aact, an, am, apd, apa⟩ := A
    rw [HKA.out] at HTK
    obtain ⟨a0, a1, a2, a3, a4⟩ := hce
    simp only at a0 a1 a2 a3 a4 HTK
    clear HKA
    have hgl0 : ((onlyL ks l).take k).length = k := by rw [List.length_take, onlyL_len]; omega
    rw [hgl0] at HQr HOr
    have hmi : (m : Int) < (ks.length : Int) := by omega
    have hmi0 : (0 : Int) ≤ (m : Int) := by omega
    have hnz : ¬ (ks.length : Int) = 0 := by omega
    have hnz2 : ¬ ks.length = 0 := by omega
    have hnil : ¬ ks = [] := fun h => by rw [h] at hnz2; exact hnz2 rfl
    have hbk : bk < wr.heap.size := block_lt_of_cell hkc
    clear hqr hoq hqE
    go_upto_region 7 with fail
    obtain ⟨W1, hW1⟩ : ∃ W1, W1 = wr.alloc (.cells #[.int .i64 kd, .int .i64 an, .int .i64 am, .int .i64 apd, .int .i64 apa] 35) := ⟨_, rfl⟩
    have HBA : Hid (Below wr.heap.size wr W1) := by rw [hW1]; exact nwA (nwR wr) _
    have HC : W1.heap[wr.heap.size]? = some (.cells #[.int .i64 kd, .int .i64 an, .int .i64 am, .int .i64 apd, .int .i64 apa] 35 (0, 0)) := by rw [hW1]; exact heap_alloc_new wr _
    rw [← hW1]
    clear hW1
    have HB1 : Hid (Below w.heap.size w W1) := nwT HBr.out HBA.out
    have HQA : Hid (W1.heap[w.heap.size + 1]? = some (.cells #[.int .i64 t.dev, .int .i64 t.size, .slice av t.list.length ca, .slice aq k cq] 27 (0, 0))) := (HBA.out.block _ (Array.getElem?_eq_some_iff.1 HQr.out).1).trans HQr.out
    have HSA : Hid (W1.heap[w.heap.size]? = some (.cells #[.int .i64 t.dev, .int .i64 t.size, .slice av t.list.length ca, .slice (some ⟨b1, o1, none⟩) l.length cL] 27 (0, 0))) := (HBA.out.block _ (Array.getElem?_eq_some_iff.1 HH2.out.2.1).1).trans HH2.out.2.1
    have HOA : Hid (W1.ownsRow (w.heap.size + 2) 35 5 (.slice aq k cq) k (aflat ((onlyL ks l).take k))) := by
      have := own_below HOr.out HBA.out
      rwa [hgl0] at this
    obtain ⟨c0, c1, c2, c3, c4, _⟩ := five HC
    obtain ⟨y0, y1, y2, y3, _⟩ := four HQA.out
    clear x0 x1 x2 x3 a0 a1 a2 a3 a4 hkc em hmi hmi0 hnz hnz2 hnil HBA HC
    have hc3 : k + 1 ≤ maxLen := by unfold maxLen; omega
    have hc4 : (k + 1) * 40 ≤ 140737488355328 := by omega
    have hsz : w.heap.size + 2 ≤ (W1.alloc (.cells #[.int .i64 kd, .int .i64 an, .int .i64 am, .int .i64 apd, .int .i64 apa] 35)).heap.size := by
      have h1 := (Array.getElem?_eq_some_iff.1 HQA.out).1
      have h2 := (nwA (nwR W1) (.cells #[.int .i64 kd, .int .i64 an, .int .i64 am, .int .i64 apd, .int .i64 apa] 35)).size
      omega
    go_wp2_with (at_builtin; refine wpList_append_own _ rfl (.tmp 32) (.tmp 34) 25 rfl (w.heap.size + 2) 35 i0 (.agg #[.int .i64 0, .int .i64 0, .int .i64 0, .int .i64 0, .int .i64 0]) 5 40 Try.underlying25 hi hz0 hz1 hz2 rfl (by decide) (.slice aq k cq) k (aflat ((onlyL ks l).take k)) rfl (World.ownsRow.alloc HOA.out _) ⟨W1.heap.size, 0, none⟩ 1 1 [.int .i64 kd, .int .i64 an, .int .i64 am, .int .i64 apd, .int .i64 apa] rfl rfl (cells_at (heap_alloc_new W1 _)) (by simp [Value.oneCell']) hc3 hc4 hsz ?_; intro v' w3 hown hgrow _; refine unstop ?_)
    unfold Stop
    have hw1 : w.heap.size + 2 ≤ W1.heap.size := (Array.getElem?_eq_some_iff.1 HQA.out).1
    have hb13 : Below (w.heap.size + 2) W1 w3 := ((Below.refl (w.heap.size + 2) W1).alloc hw1 _).grown hgrow hsz (fun q e => (World.ownsRow.lt HOA.out q e).1)
    have HB3 : Hid (Below w.heap.size w w3) := HB1.out.trans (hb13.mono (by omega))
    have HG3 : Hid (OwnActs w3 (w.heap.size + 2) v' ((onlyL ks l).take (k + 1))) := by
      show OwnActs _ _ _ _
      rw [HTK.out]
      unfold OwnActs
      rw [aflat_append, List.length_append, hgl0]
      exact hown
    obtain ⟨a9, c9, rfl, _⟩ := HG3.out.at
    obtain ⟨M, hM⟩ : ∃ M, M = ((onlyL ks l).take (k + 1)).length := ⟨_, rfl⟩
    rw [← hM] at HG3 ⊢
    have HS3 : Hid (w3.heap[w.heap.size]? = some (.cells #[.int .i64 t.dev, .int .i64 t.size, .slice av t.list.length ca, .slice (some ⟨b1, o1, none⟩) l.length cL] 27 (0, 0))) := (hb13.block _ (by omega)).trans HSA.out
    have HQ3 : Hid (w3.heap[w.heap.size + 1]? = some (.cells #[.int .i64 t.dev, .int .i64 t.size, .slice av t.list.length ca, .slice aq k cq] 27 (0, 0))) := (hb13.block _ (by omega)).trans HQA.out
    clear hown hgrow hb13 y0 y1 y2 y3 c0 c1 c2 c3 c4 hsz HOA HQA HSA hM
    obtain ⟨y0, y1, y2, y3, yf⟩ := four HQ3.out
    go_wp2_with fail
    go_roundw
    case rel =>
      refine ⟨k + 1, by omega, by go_num, HB3.out.setCell (p := ⟨w.heap.size + 1, 3, none⟩) (by show w.heap.size ≤ w.heap.size + 1; omega) _, ?_, _, four_set3 HQ3.out, ?_⟩
      · rw [heap_setCell_other _ ⟨w.heap.size + 1, 3, none⟩ _ _ (by show w.heap.size ≠ w.heap.size + 1; omega)]; exact HS3.out
      · exact rowset HG3.out 3 (by omega) _
    case measure => simp [intOf]; omega

end Go.Proofs.Ytijldakgfgmbiaa

/- The laws of some kinds, where the law stands for any. -/
namespace Go.Proofs.Ytijldakgfgmbiaa
open Go.RowKit

theorem ints_lit (w : World) (ks : List Int) : IntsAt (w.alloc (.cells (ks.map (fun k => Value.int .i64 k)).toArray 3)) (some ⟨w.heap.size, 0, none⟩) ks := by
  refine fun i hi => ⟨w.heap.size, 0, rfl, ?_⟩
  rw [Lib.cell_of_heap (heap_alloc_new w _)]
  simp [List.getD, hi]

set_option maxRecDepth 100000 in
set_option maxHeartbeats 1000000 in
theorem adds_of (H : LawOk 3) : LawOk 5 := by
  intro v t l w hv hl
  have HV : Hid (ScrVal w v t l) := hv
  have HLA : Hid (LooseS t l) := hl
  have HH : Hid (LawOk 3) := H
  obtain ⟨av, ca, aL, cL, rfl, _, _⟩ := hv
  clear hl H
  obtain ⟨W1, hW1⟩ : ∃ W1, W1 = w.alloc (.cells #[.int .i64 t.dev, .int .i64 t.size, .slice av t.list.length ca, .slice aL l.length cL] 27) := ⟨_, rfl⟩
  obtain ⟨W2, hW2⟩ : ∃ W2, W2 = W1.alloc (.cells #[.int .i64 0, .int .i64 0, .int .i64 7] 3) := ⟨_, rfl⟩
  have HB2 : Hid (Below w.heap.size w W2) := by rw [hW2]; exact nwA (by rw [hW1]; exact nwA (nwR w) _) _
  have hsz : W1.heap.size = w.heap.size + 1 := by rw [hW1]; simp
  have hi : IntsAt W2 (some ⟨w.heap.size + 1, 0, none⟩) [0, 0, 7] := by rw [hW2, ← hsz]; exact ints_lit W1 [0, 0, 7]
  have HC : Hid (Calls Try.prog 21 #[.agg #[.int .i64 t.dev, .int .i64 t.size, .slice av t.list.length ca, .slice aL l.length cL], .slice (some ⟨w.heap.size + 1, 0, none⟩) 3 3] W2 fun e w' => e = .returned (.bool true) ∧ Below W2.heap.size W2 w') :=
    onlyk_any HH.out _ t l (some ⟨w.heap.size + 1, 0, none⟩) [0, 0, 7] 3 W2 (HV.out.below HB2.out) HLA.out hi (by simp) (by simp)
  clear hi hsz
  go_enter Try.func5, Try.ntmps5
  go_wp2_with fail
  rw [← hW1, ← hW2]
  clear hW1 hW2
  refine HC.out.mono ?_
  rintro e w1 ⟨rfl, hb1⟩
  have HB3 : Hid (Below w.heap.size w w1) := nwT HB2.out hb1
  clear hb1 HC
  go_wp2_with fail
  go_ret
  exact ⟨rfl, HB3.out⟩

set_option maxRecDepth 100000 in
set_option maxHeartbeats 1000000 in
theorem loses_of (H : LawOk 3) : LawOk 6 := by
  intro v t l w hv hl
  have HV : Hid (ScrVal w v t l) := hv
  have HLA : Hid (LooseS t l) := hl
  have HH : Hid (LawOk 3) := H
  obtain ⟨av, ca, aL, cL, rfl, _, _⟩ := hv
  clear hl H
  obtain ⟨W1, hW1⟩ : ∃ W1, W1 = w.alloc (.cells #[.int .i64 t.dev, .int .i64 t.size, .slice av t.list.length ca, .slice aL l.length cL] 27) := ⟨_, rfl⟩
  obtain ⟨W2, hW2⟩ : ∃ W2, W2 = W1.alloc (.cells #[.int .i64 0, .int .i64 4, .int .i64 4, .int .i64 6] 3) := ⟨_, rfl⟩
  have HB2 : Hid (Below w.heap.size w W2) := by rw [hW2]; exact nwA (by rw [hW1]; exact nwA (nwR w) _) _
  have hsz : W1.heap.size = w.heap.size + 1 := by rw [hW1]; simp
  have hi : IntsAt W2 (some ⟨w.heap.size + 1, 0, none⟩) [0, 4, 4, 6] := by rw [hW2, ← hsz]; exact ints_lit W1 [0, 4, 4, 6]
  have HC : Hid (Calls Try.prog 21 #[.agg #[.int .i64 t.dev, .int .i64 t.size, .slice av t.list.length ca, .slice aL l.length cL], .slice (some ⟨w.heap.size + 1, 0, none⟩) 4 4] W2 fun e w' => e = .returned (.bool true) ∧ Below W2.heap.size W2 w') :=
    onlyk_any HH.out _ t l (some ⟨w.heap.size + 1, 0, none⟩) [0, 4, 4, 6] 4 W2 (HV.out.below HB2.out) HLA.out hi (by simp) (by simp)
  clear hi hsz
  go_enter Try.func6, Try.ntmps6
  go_wp2_with fail
  rw [← hW1, ← hW2]
  clear hW1 hW2
  refine HC.out.mono ?_
  rintro e w1 ⟨rfl, hb1⟩
  have HB3 : Hid (Below w.heap.size w w1) := nwT HB2.out hb1
  clear hb1 HC
  go_wp2_with fail
  go_ret
  exact ⟨rfl, HB3.out⟩

set_option maxRecDepth 100000 in
set_option maxHeartbeats 1000000 in
theorem ranges_of (H : LawOk 3) : LawOk 7 := by
  intro v t l w hv hl
  have HV : Hid (ScrVal w v t l) := hv
  have HLA : Hid (LooseS t l) := hl
  have HH : Hid (LawOk 3) := H
  obtain ⟨av, ca, aL, cL, rfl, _, _⟩ := hv
  clear hl H
  obtain ⟨W1, hW1⟩ : ∃ W1, W1 = w.alloc (.cells #[.int .i64 t.dev, .int .i64 t.size, .slice av t.list.length ca, .slice aL l.length cL] 27) := ⟨_, rfl⟩
  obtain ⟨W2, hW2⟩ : ∃ W2, W2 = W1.alloc (.cells #[.int .i64 0, .int .i64 9, .int .i64 8, .int .i64 9] 3) := ⟨_, rfl⟩
  have HB2 : Hid (Below w.heap.size w W2) := by rw [hW2]; exact nwA (by rw [hW1]; exact nwA (nwR w) _) _
  have hsz : W1.heap.size = w.heap.size + 1 := by rw [hW1]; simp
  have hi : IntsAt W2 (some ⟨w.heap.size + 1, 0, none⟩) [0, 9, 8, 9] := by rw [hW2, ← hsz]; exact ints_lit W1 [0, 9, 8, 9]
  have HC : Hid (Calls Try.prog 21 #[.agg #[.int .i64 t.dev, .int .i64 t.size, .slice av t.list.length ca, .slice aL l.length cL], .slice (some ⟨w.heap.size + 1, 0, none⟩) 4 4] W2 fun e w' => e = .returned (.bool true) ∧ Below W2.heap.size W2 w') :=
    onlyk_any HH.out _ t l (some ⟨w.heap.size + 1, 0, none⟩) [0, 9, 8, 9] 4 W2 (HV.out.below HB2.out) HLA.out hi (by simp) (by simp)
  clear hi hsz
  go_enter Try.func7, Try.ntmps7
  go_wp2_with fail
  rw [← hW1, ← hW2]
  clear hW1 hW2
  refine HC.out.mono ?_
  rintro e w1 ⟨rfl, hb1⟩
  have HB3 : Hid (Below w.heap.size w w1) := nwT HB2.out hb1
  clear hb1 HC
  go_wp2_with fail
  go_ret
  exact ⟨rfl, HB3.out⟩

end Go.Proofs.Ytijldakgfgmbiaa
