/- Laid together: Stepd. -/
import Derived.Test.YtijldakgfgmbiaaTableM8
/- The law's step. -/
namespace Go.Proofs.Ytijldakgfgmbiaa
open Go.RowKit

def StepOk : Prop := ∀ (t : TabD) (a : Option Addr) (c : Nat) (A : ActD) (w : World), EntsAt w a t.list → NilOk a c t.list.length → FitT t → RngA A →
  Calls Try.prog 10 #[.agg #[.int .i64 t.dev, .int .i64 t.size, .slice a t.list.length c], actV A] w fun e w' => (∃ (t' : TabD) (a' : Option Addr) (c' : Nat), e = .returned (.tuple #[.agg #[.int .i64 t'.dev, .int .i64 t'.size, .slice a' t'.list.length c'], .bool true]) ∧ EntsAt w' a' t'.list ∧ NilOk a' c' t'.list.length ∧ FitT t') ∧ Below w.heap.size w w'

set_option maxRecDepth 100000 in
set_option maxHeartbeats 32000000 in
theorem step_any : StepOk := by
  intro t a c A w hE hN hF hA
  obtain ⟨act, n, m, pd, pa⟩ := A
  have HA : Hid (Rng n ∧ Rng m ∧ Rng pd ∧ Rng pa) := hA
  have HF : Hid (FitT t) := hF
  have HTN : Hid (NilOk a c t.list.length) := hN
  unfold actV
  simp only
  obtain ⟨W0, hW0⟩ : ∃ W0, W0 = ((w.alloc (.cells #[.int .i64 t.dev, .int .i64 t.size, .slice a t.list.length c] 24)).alloc (.cells #[.int .i64 act, .int .i64 n, .int .i64 m, .int .i64 pd, .int .i64 pa] 35)).alloc (.cells #[.int .i64 0, .int .i64 0, .slice none 0 0] 24) := ⟨_, rfl⟩
  have hb0 : Below w.heap.size w W0 := by rw [hW0]; exact nwA (nwA (nwA (nwR w) _) _) _
  have HB0 : Hid (Below w.heap.size w W0) := hb0
  have HSZ : Hid (W0.heap.size = w.heap.size + 3) := by show _ = _; rw [hW0]; simp
  have H3 : Hid (W0.heap[w.heap.size]? = some (.cells #[.int .i64 t.dev, .int .i64 t.size, .slice a t.list.length c] 24 (0, 0)) ∧ W0.heap[w.heap.size + 1]? = some (.cells #[.int .i64 act, .int .i64 n, .int .i64 m, .int .i64 pd, .int .i64 pa] 35 (0, 0)) ∧ W0.heap[w.heap.size + 1 + 1]? = some (.cells #[.int .i64 0, .int .i64 0, .slice none 0 0] 24 (0, 0))) := by
    show _ ∧ _ ∧ _
    rw [hW0]; exact three_at w _ _ _
  have HTE : Hid (∀ w', Below w.heap.size w w' → EntsAt w' a t.list) := fun w' h => hE.below h
  have HCP : Hid (Calls Try.prog 9 #[.agg #[.int .i64 t.dev, .int .i64 t.size, .slice a t.list.length c]] W0 fun e w' => (∃ u, e = .returned u ∧ OwnTab w' W0.heap.size u t) ∧ Below W0.heap.size W0 w') := copyTab_any _ t W0 ⟨a, c, rfl, hE.below hb0, hN⟩ hF.1.len
  have HTB : Hid (t.list ≠ [] → ∀ b, a = some b → b.block < w.heap.size) := fun hn b hb => by
    obtain ⟨b', o', e, h⟩ := hE.ent (i := 0) (List.length_pos_iff.2 hn)
    rw [hb] at e
    injection e with e
    subst e
    exact h.lt
  clear hE hN hF hA hb0
  go_enter Try.func10, Try.ntmps10
  go_wp2_with fail
  rw [← hW0]
  clear hW0
  refine HCP.out.mono ?_
  rintro e w1 ⟨⟨u, rfl, u1, rfl, ho1⟩, hb1⟩
  obtain ⟨ai, ci, rfl, hiE, hiN⟩ := ho1.at
  have HIN : Hid (NilOk ai ci t.list.length) := hiN
  have HIB : Hid (t.list ≠ [] → ∀ b, ai = some b → W0.heap.size ≤ b.block) := fun hn b hb => by
    obtain ⟨b', e, h⟩ := ho1.zero.2 (List.length_pos_iff.2 hn)
    rw [hb] at e
    injection e with e
    subst e
    exact h
  have HB1 : Hid (Below w.heap.size w w1) := nwT HB0.out hb1
  obtain ⟨W2, hW2⟩ : ∃ W2, W2 = w1.alloc (.cells #[.int .i64 t.dev, .int .i64 t.size, .slice ai t.list.length ci] 24) := ⟨_, rfl⟩
  have HB12 : Hid (Below w1.heap.size w1 W2) := by rw [hW2]; exact nwA (nwR w1) _
  have HB2 : Hid (Below w.heap.size w W2) := nwT HB1.out HB12.out
  obtain ⟨B6, hB6⟩ : ∃ B6, B6 = w1.heap.size := ⟨_, rfl⟩
  have h6 : W2.heap[B6]? = some (.cells #[.int .i64 t.dev, .int .i64 t.size, .slice ai t.list.length ci] 24 (0, 0)) := by rw [hW2, hB6]; exact heap_alloc_new w1 _
  have HK2 : Hid (∀ w', Below W2.heap.size W2 w' → Below w.heap.size w w' ∧ w'.heap[w.heap.size]? = some (.cells #[.int .i64 t.dev, .int .i64 t.size, .slice a t.list.length c] 24 (0, 0)) ∧ w'.heap[w.heap.size + 1]? = some (.cells #[.int .i64 act, .int .i64 n, .int .i64 m, .int .i64 pd, .int .i64 pa] 35 (0, 0)) ∧ w'.heap[w.heap.size + 1 + 1]? = some (.cells #[.int .i64 0, .int .i64 0, .slice none 0 0] 24 (0, 0)) ∧ w'.heap[B6]? = some (.cells #[.int .i64 t.dev, .int .i64 t.size, .slice ai t.list.length ci] 24 (0, 0)) ∧ EntsAt w' a t.list ∧ EntsAt w' ai t.list) := fun w' h => by
    have hb02 := nwT hb1 (nwT HB12.out h)
    have hw := nwT HB2.out h
    exact ⟨hw, (hb02.block _ (Array.getElem?_eq_some_iff.1 H3.out.1).1).trans H3.out.1, (hb02.block _ (Array.getElem?_eq_some_iff.1 H3.out.2.1).1).trans H3.out.2.1, (hb02.block _ (Array.getElem?_eq_some_iff.1 H3.out.2.2).1).trans H3.out.2.2, (h.block _ (Array.getElem?_eq_some_iff.1 h6).1).trans h6, HTE.out w' hw, hiE.below (nwT HB12.out h)⟩
  have HLT : Hid (w.heap.size + 3 ≤ B6 ∧ B6 + 1 ≤ W2.heap.size) := ⟨by have := hb1.size; have := HSZ.out; omega, (Array.getElem?_eq_some_iff.1 h6).1⟩
  have HRT : Hid (Calls Try.prog 20 #[.agg #[.int .i64 t.dev, .int .i64 t.size, .slice a t.list.length c]] W2 fun e w' => e = .returned (.bool (tokB t)) ∧ Below W2.heap.size W2 w') := rtable_any _ t W2 ⟨a, c, rfl, HTE.out W2 HB2.out, HTN.out⟩ HF.out.1
  obtain ⟨r0, r1, r2, _⟩ := three (HK2.out W2 (nwR W2)).2.1
  obtain ⟨may, hmay⟩ : ∃ may, may = tokB t := ⟨_, rfl⟩
  have HMAY : Hid (tokB t = may) := hmay.symm
  rw [← hmay] at HRT
  clear hmay h6 ho1 hb1 hiE hiN HCP H3 HB12 HTE
  go_upto_region 2 with fail
  rw [← hW2, ← hB6]
  clear hW2 hB6
  go_wp2_with fail
  refine HRT.out.mono ?_
  rintro e w3 ⟨rfl, hb3⟩
  have HB3 : Hid (Below W2.heap.size W2 w3) := hb3
  obtain ⟨B9, hB9⟩ : ∃ B9, B9 = w3.heap.size := ⟨_, rfl⟩
  obtain ⟨W4, hW4⟩ : ∃ W4, W4 = (w3.alloc (.cells #[.int .i64 0, .int .i64 0, .slice none 0 0] 24)).alloc (.cells #[.int .i64 0, .int .i64 0, .slice none 0 0] 24) := ⟨_, rfl⟩
  have HB4 : Hid (Below W2.heap.size W2 W4) := by rw [hW4]; exact nwA (nwA hb3 _) _
  have HS4 : Hid (W4.heap.size = B9 + 2 ∧ W2.heap.size ≤ B9) := by
    have := hb3.size
    show _ ∧ _
    rw [hW4, hB9]; simp; exact this
  have HZ4 : Hid (W4.heap[B9]? = some (.cells #[.int .i64 0, .int .i64 0, .slice none 0 0] 24 (0, 0)) ∧ W4.heap[B9 + 1]? = some (.cells #[.int .i64 0, .int .i64 0, .slice none 0 0] 24 (0, 0))) := by
    show _ ∧ _
    rw [hW4, hB9]; exact ⟨(Lib.alloc_old _ _ _ (by simp)).trans (heap_alloc_new w3 _), heap_alloc_new2 w3 _ _⟩
  clear r0 r1 r2 hb3 HRT
  have hz4 : W4.heap.size = B9 + 2 := HS4.out.1
  obtain ⟨q0, q1, q2, q3, q4, _⟩ := five (HK2.out W4 HB4.out).2.2.1
  go_upto_region 6 with fail
  rw [← hW4, ← hB9]
  clear hW4 hB9 hz4
  go_wp2_with fail
  refine ((within_any act 10 (by omega) (by omega) W4).mono fun _ _ h => (⟨h.1, h.2.symm⟩ : _ ∧ W4 = _)).mono ?_
  rintro e w' ⟨rfl, rfl⟩
  obtain ⟨kd, hkd⟩ : ∃ kd, withinN act 10 = kd := ⟨_, rfl⟩
  have HKD : Hid (kd < 10) := by show kd < 10; rw [← hkd]; unfold withinN; omega
  rw [hkd]
  clear hkd q0 q1 q2 q3 q4
  go_upto_block 0 with fail
  go_cut [8, 11] from 12 to 185 (fun s8 s11 wx => ∃ (bad : Int) (X : TabD) (ax : Option Addr) (cx : Nat) (aw : Option Addr) (cw : Nat), s8 = .int .i64 bad ∧ s11 = .int .i64 bad ∧ Hid (StJ W2 wx B9 X ax cx aw cw))
  case first =>
    have hkd := HKD.out
    rcases (by omega : kd = 0 ∨ kd = 1 ∨ kd = 2 ∨ kd = 3 ∨ kd = 4 ∨ kd = 5 ∨ kd = 6 ∨ kd = 7 ∨ kd = 8 ∨ kd = 9) with rfl | rfl | rfl | rfl | rfl | rfl | rfl | rfl | rfl | rfl
    clear hkd
    iterate 4
      · as_aux_lemma =>
          have HAD : Hid (Calls Try.prog 13 #[.agg #[.int .i64 t.dev, .int .i64 t.size, .slice ai t.list.length ci], .int .i64 n, .agg #[.int .i64 pd, .int .i64 pa]] W4 fun e w' => AddR t n pd pa W4.heap.size e w' ∧ Below W4.heap.size W4 w') := add_any _ t n pd pa W4 ⟨ai, ci, rfl, (HK2.out W4 HB4.out).2.2.2.2.2.2, HIN.out⟩ HF.out.1 (by have := HF.out.2; omega) HA.out.1 HA.out.2.2.1 HA.out.2.2.2
          obtain ⟨q0, q1, q2, q3, q4, _⟩ := five (HK2.out W4 HB4.out).2.2.1
          obtain ⟨i0, i1, i2, _⟩ := three (HK2.out W4 HB4.out).2.2.2.2.1
          go_wp2_with fail
          refine HAD.out.mono ?_
          rintro e w5 ⟨hR, hb5⟩
          clear q0 q1 q2 q3 q4 i0 i1 i2 HAD
          have HG : Hid (tokB t = true → (tokB (moreT t [newE n pd pa]) = true ↔ (betB n (endT t.list) (t.size - 1) = true ∧ placeB t.dev pd pa 1 = true))) := fun h => by
            rw [tok_new (tok_iff.1 h)]
            unfold betB placeB betB
            simp only [Bool.and_eq_true, decide_eq_true_eq, bne_iff_ne]
            constructor
            · rintro ⟨h1, h2, h3, h4, h5, h6, h7⟩; exact ⟨⟨h1, h2⟩, ⟨h3, h4⟩, h5, h6, by omega, by omega, by omega⟩
            · rintro ⟨⟨h1, h2⟩, ⟨h3, h4⟩, h5, h6, _, _, h9⟩; exact ⟨h1, h2, h3, h4, h5, h6, by omega⟩
          rcases hR with ⟨hno, rfl⟩ | ⟨⟨hok, hok2⟩, v, rfl, u, rfl, ho⟩
          · have HNO : Hid (tokB t = false ∨ tokB (moreT t [newE n pd pa]) = false) := hno
            have h9_5 := (hb5.block B9 (by have := HS4.out.1; omega)).trans HZ4.out.1
            have h10_5 := (hb5.block (B9 + 1) (by have := HS4.out.1; omega)).trans HZ4.out.2
            obtain ⟨W6, hW6⟩ : ∃ Y, Y = ((World.setCell w5 ⟨B9, 0, none⟩ (.int .i64 0)).setCell ⟨B9, 1, none⟩ (.int .i64 0)).setCell ⟨B9, 2, none⟩ (.slice none 0 0) := ⟨_, rfl⟩
            have HB6 : Hid (Below W2.heap.size W2 W6) := by show Below _ _ _; rw [hW6]; exact three_below (nwT HB4.out hb5) HS4.out.2
            have H9 : Hid (W6.heap[B9]? = some (.cells #[.int .i64 0, .int .i64 0, .slice none 0 0] 24 (0, 0))) := by show _ = _; rw [hW6]; exact three_set h9_5
            have H10 : Hid (W6.heap[B9 + 1]? = some (.cells #[.int .i64 0, .int .i64 0, .slice none 0 0] 24 (0, 0))) := by show _ = _; rw [hW6]; exact three_other h10_5 (by omega)
            obtain ⟨z0, z1, z2, zf⟩ := three h9_5
            clear hno h9_5 h10_5 hb5
            unfold tabZ
            go_upto_region 17 with fail
            rw [← hW6]
            clear hW6 z0 z1 z2 zf
            have k2 : ∀ p : Kin W6, p.u.heap[w.heap.size]? = some (.cells #[.int .i64 t.dev, .int .i64 t.size, .slice a t.list.length c] 24 (0, 0)) := fun p => (HK2.out p.u (nwT HB6.out p.h)).2.1
            have k3 : ∀ p : Kin W6, p.u.heap[w.heap.size + 1]? = some (.cells #[.int .i64 act, .int .i64 n, .int .i64 m, .int .i64 pd, .int .i64 pa] 35 (0, 0)) := fun p => (HK2.out p.u (nwT HB6.out p.h)).2.2.1
            have t0 : ∀ p : Kin W6, p.u.cell? ⟨w.heap.size, 0, none⟩ = some (.int .i64 t.dev) := fun p => (three (k2 p)).1
            have t1 : ∀ p : Kin W6, p.u.cell? ⟨w.heap.size, 1, none⟩ = some (.int .i64 t.size) := fun p => (three (k2 p)).2.1
            have t2 : ∀ p : Kin W6, p.u.cell? ⟨w.heap.size, 2, none⟩ = some (.slice a t.list.length c) := fun p => (three (k2 p)).2.2.1
            have n1 : ∀ p : Kin W6, p.u.cell? ⟨w.heap.size + 1, 1, none⟩ = some (.int .i64 n) := fun p => (five (k3 p)).2.1
            have n3 : ∀ p : Kin W6, p.u.cell? ⟨w.heap.size + 1, 3, none⟩ = some (.int .i64 pd) := fun p => (five (k3 p)).2.2.2.1
            have n4 : ∀ p : Kin W6, p.u.cell? ⟨w.heap.size + 1, 4, none⟩ = some (.int .i64 pa) := fun p => (five (k3 p)).2.2.2.2.1
            have HEN : Hid (tokB t = true → ∀ p : Kin W6, Calls Try.prog 24 #[.agg #[.int .i64 t.dev, .int .i64 t.size, .slice a t.list.length c]] p.u fun e w' => e = .returned (.int .i64 (endT t.list)) ∧ Below p.u.heap.size p.u w') := fun h p => rend_any _ t p.u ⟨a, c, rfl, (HK2.out p.u (nwT HB6.out p.h)).2.2.2.2.2.1, HTN.out⟩ (by have := HF.out.2; omega) (fun i hi => (tok_iff.1 h).fair hi)
            have HBE : Hid (∀ p : Kin W6, Calls Try.prog 23 #[.int .i64 n, .int .i64 (endT t.list), .int .i64 (t.size - 1)] p.u fun e w' => e = .returned (.bool (betB n (endT t.list) (t.size - 1))) ∧ w' = p.u) := fun p => between_any _ _ _ p.u
            have HPL : Hid (∀ p : Kin W6, Calls Try.prog 25 #[.int .i64 t.dev, .agg #[.int .i64 pd, .int .i64 pa], .int .i64 1] p.u fun e w' => e = .returned (.bool (placeB t.dev pd pa 1)) ∧ Below p.u.heap.size p.u w') := fun p => rplace_any _ _ _ _ p.u
            have HSB : Hid (tokB t = true → 1 ≤ t.size ∧ t.size ≤ 64) := fun h => ⟨(tok_iff.1 h).s0, (tok_iff.1 h).s1⟩
            clear k2 k3
            generalize betB n (endT t.list) (t.size - 1) = p1 at HG HBE
            generalize placeB t.dev pd pa 1 = p2 at HG HPL
            generalize endT t.list = en at HEN HBE
            cases may
            case false =>
              clear HEN
              refine wp_region_kin (by kernel_rfl) (by kernel_rfl) ?_
              repeat (first | go_big_quiet_step (first | (go_at_call 23; with_reducible exact Calls.kin_same (HBE.out _)) | (go_at_call 25; with_reducible exact Calls.kin_of (HPL.out _)) | fail) | quiet_step (first | (go_at_call 23; with_reducible exact Calls.kin_same (HBE.out _)) | (go_at_call 25; with_reducible exact Calls.kin_of (HPL.out _)) | fail))
              refine wpQuiet_nil ?_
              intro _ hwq
              obtain ⟨pq, hwq2⟩ := hwq
              subst hwq2
              have HJ : Hid (StJ W2 pq.u B9 TZ none 0 none 0) := stJ_bad (nwT HB6.out pq.h) ((pq.h.block _ (Array.getElem?_eq_some_iff.1 H9.out).1).trans H9.out) ((pq.h.block _ (Array.getElem?_eq_some_iff.1 H10.out).1).trans H10.out) HS4.out.2
              go_wp2_with fail
              go_meet
              exact ⟨1, TZ, none, 0, none, 0, rfl, rfl, HJ.out⟩
            case true =>
            have HEY := HEN.out HMAY.out
            have hsb := HSB.out HMAY.out
            have es : IntKind.i64.wrap (t.size - 1) = t.size - 1 := wrap_i (by omega) (by omega)
            clear HEN
            cases p1
            case false =>
              refine wp_region_kin (by kernel_rfl) (by kernel_rfl) ?_
              repeat (first | go_big_quiet_step (first | (go_at_call 24; with_reducible exact Calls.kin_of (HEY _)) | (go_at_call 23; with_reducible exact Calls.kin_same (HBE.out _)) | (go_at_call 25; with_reducible exact Calls.kin_of (HPL.out _)) | fail) | quiet_step (first | (go_at_call 24; with_reducible exact Calls.kin_of (HEY _)) | (go_at_call 23; with_reducible exact Calls.kin_same (HBE.out _)) | (go_at_call 25; with_reducible exact Calls.kin_of (HPL.out _)) | fail))
              refine wpQuiet_nil ?_
              intro _ hwq
              obtain ⟨pq, hwq2⟩ := hwq
              subst hwq2
              have HJ : Hid (StJ W2 pq.u B9 TZ none 0 none 0) := stJ_bad (nwT HB6.out pq.h) ((pq.h.block _ (Array.getElem?_eq_some_iff.1 H9.out).1).trans H9.out) ((pq.h.block _ (Array.getElem?_eq_some_iff.1 H10.out).1).trans H10.out) HS4.out.2
              go_wp2_with fail
              go_meet
              exact ⟨1, TZ, none, 0, none, 0, rfl, rfl, HJ.out⟩
            case true =>
            have hp2 : p2 = false := by
              rcases HNO.out with h | h
              · rw [HMAY.out] at h; cases h
              · cases p2
                · rfl
                · have := (HG.out HMAY.out).2 ⟨rfl, rfl⟩; rw [this] at h; cases h
            subst hp2
            refine wp_region_kin (by kernel_rfl) (by kernel_rfl) ?_
            repeat (first | go_big_quiet_step (first | (go_at_call 24; with_reducible exact Calls.kin_of (HEY _)) | (go_at_call 23; with_reducible exact Calls.kin_same (HBE.out _)) | (go_at_call 25; with_reducible exact Calls.kin_of (HPL.out _)) | fail) | quiet_step (first | (go_at_call 24; with_reducible exact Calls.kin_of (HEY _)) | (go_at_call 23; with_reducible exact Calls.kin_same (HBE.out _)) | (go_at_call 25; with_reducible exact Calls.kin_of (HPL.out _)) | fail))
            refine wpQuiet_nil ?_
            intro _ hwq
            obtain ⟨pq, hwq2⟩ := hwq
            subst hwq2
            have HJ : Hid (StJ W2 pq.u B9 TZ none 0 none 0) := stJ_bad (nwT HB6.out pq.h) ((pq.h.block _ (Array.getElem?_eq_some_iff.1 H9.out).1).trans H9.out) ((pq.h.block _ (Array.getElem?_eq_some_iff.1 H10.out).1).trans H10.out) HS4.out.2
            go_wp2_with fail
            go_meet
            exact ⟨1, TZ, none, 0, none, 0, rfl, rfl, HJ.out⟩
          · have HOK : Hid (tokB t = true ∧ tokB (moreT t [newE n pd pa]) = true) := ⟨hok, hok2⟩
            have hmt : may = true := by rw [← HMAY.out]; exact hok
            subst hmt
            have hT := tok_iff.1 hok
            have HFT : Hid (RngL (joinA t.list (newE n pd pa)) ∧ (joinA t.list (newE n pd pa)).length ≤ 300) := hT.fitAdd ⟨HA.out.1, ⟨by simp [newE], by simp [newE]⟩, HA.out.2.2.1, HA.out.2.2.2, by simp [newE], by simp [newE]⟩
            have HRA : Hid (∀ w', Below W2.heap.size W2 w' → Calls Try.prog 26 #[.agg #[.int .i64 t.dev, .int .i64 t.size, .slice a t.list.length c], .int .i64 n, .agg #[.int .i64 pd, .int .i64 pa]] w' fun e w'' => (∃ u, e = .returned u ∧ OwnTab w'' w'.heap.size u ⟨t.dev, t.size, joinA t.list (newE n pd pa)⟩) ∧ Below w'.heap.size w' w'') := fun w' h => radd_any _ t n pd pa w' ⟨a, c, rfl, (HK2.out w' h).2.2.2.2.2.1, HTN.out⟩ (by have := HF.out.2; omega) (fun i hi => hT.fair hi)
            obtain ⟨X, hX⟩ : ∃ X : TabD, X = ⟨t.dev, t.size, joinA t.list (newE n pd pa)⟩ := ⟨_, rfl⟩
            have HX : Hid (X = ⟨t.dev, t.size, joinA t.list (newE n pd pa)⟩) := hX
            obtain ⟨ax, cx, rfl, _⟩ := ho.at
            have hoX : OwnEnts w5 W4.heap.size (.slice ax X.list.length cx) X.list := by rw [hX]; exact ho
            have hxl : X.list.length = (joinA t.list (newE n pd pa)).length := by rw [hX]
            obtain ⟨N, hN⟩ : ∃ N, N = (joinA t.list (newE n pd pa)).length := ⟨_, rfl⟩
            have HNX : Hid (N = X.list.length) := by show _ = _; rw [hN, hxl]
            simp only [← hN]
            have h9_5 := (hb5.block B9 (by have := HS4.out.1; omega)).trans HZ4.out.1
            have h10_5 := (hb5.block (B9 + 1) (by have := HS4.out.1; omega)).trans HZ4.out.2
            obtain ⟨W6, hW6⟩ : ∃ Y, Y = ((World.setCell w5 ⟨B9, 0, none⟩ (.int .i64 t.dev)).setCell ⟨B9, 1, none⟩ (.int .i64 t.size)).setCell ⟨B9, 2, none⟩ (.slice ax N cx) := ⟨_, rfl⟩
            have HB6 : Hid (Below W2.heap.size W2 W6) := by show Below _ _ _; rw [hW6]; exact three_below (nwT HB4.out hb5) HS4.out.2
            have H9 : Hid (W6.heap[B9]? = some (.cells #[.int .i64 t.dev, .int .i64 t.size, .slice ax N cx] 24 (0, 0))) := by show _ = _; rw [hW6]; exact three_set h9_5
            have H10 : Hid (W6.heap[B9 + 1]? = some (.cells #[.int .i64 0, .int .i64 0, .slice none 0 0] 24 (0, 0))) := by show _ = _; rw [hW6]; exact three_other h10_5 (by omega)
            obtain ⟨z0, z1, z2, zf⟩ := three h9_5
            have HOX : Hid (OwnEnts W6 (B9 + 2) (.slice ax N cx) X.list) := by
              have h4 := HS4.out.1
              show OwnEnts _ _ _ _
              rw [hW6, HNX.out]
              exact own_le (rowset (rowset (rowset hoX 0 (g := B9) (by omega) _) 1 (g := B9) (by omega) _) 2 (g := B9) (by omega) _) (by omega)
            clear hok hok2 hT ho hoX hxl hN hX h9_5 h10_5 hb5
            go_upto_region 17 with fail
            rw [← hW6]
            clear hW6 z0 z1 z2 zf
            have k2 : ∀ p : Kin W6, p.u.heap[w.heap.size]? = some (.cells #[.int .i64 t.dev, .int .i64 t.size, .slice a t.list.length c] 24 (0, 0)) := fun p => (HK2.out p.u (nwT HB6.out p.h)).2.1
            have k3 : ∀ p : Kin W6, p.u.heap[w.heap.size + 1]? = some (.cells #[.int .i64 act, .int .i64 n, .int .i64 m, .int .i64 pd, .int .i64 pa] 35 (0, 0)) := fun p => (HK2.out p.u (nwT HB6.out p.h)).2.2.1
            have t0 : ∀ p : Kin W6, p.u.cell? ⟨w.heap.size, 0, none⟩ = some (.int .i64 t.dev) := fun p => (three (k2 p)).1
            have t1 : ∀ p : Kin W6, p.u.cell? ⟨w.heap.size, 1, none⟩ = some (.int .i64 t.size) := fun p => (three (k2 p)).2.1
            have t2 : ∀ p : Kin W6, p.u.cell? ⟨w.heap.size, 2, none⟩ = some (.slice a t.list.length c) := fun p => (three (k2 p)).2.2.1
            have n1 : ∀ p : Kin W6, p.u.cell? ⟨w.heap.size + 1, 1, none⟩ = some (.int .i64 n) := fun p => (five (k3 p)).2.1
            have n3 : ∀ p : Kin W6, p.u.cell? ⟨w.heap.size + 1, 3, none⟩ = some (.int .i64 pd) := fun p => (five (k3 p)).2.2.2.1
            have n4 : ∀ p : Kin W6, p.u.cell? ⟨w.heap.size + 1, 4, none⟩ = some (.int .i64 pa) := fun p => (five (k3 p)).2.2.2.2.1
            have HEN : Hid (tokB t = true → ∀ p : Kin W6, Calls Try.prog 24 #[.agg #[.int .i64 t.dev, .int .i64 t.size, .slice a t.list.length c]] p.u fun e w' => e = .returned (.int .i64 (endT t.list)) ∧ Below p.u.heap.size p.u w') := fun h p => rend_any _ t p.u ⟨a, c, rfl, (HK2.out p.u (nwT HB6.out p.h)).2.2.2.2.2.1, HTN.out⟩ (by have := HF.out.2; omega) (fun i hi => (tok_iff.1 h).fair hi)
            have HBE : Hid (∀ p : Kin W6, Calls Try.prog 23 #[.int .i64 n, .int .i64 (endT t.list), .int .i64 (t.size - 1)] p.u fun e w' => e = .returned (.bool (betB n (endT t.list) (t.size - 1))) ∧ w' = p.u) := fun p => between_any _ _ _ p.u
            have HPL : Hid (∀ p : Kin W6, Calls Try.prog 25 #[.int .i64 t.dev, .agg #[.int .i64 pd, .int .i64 pa], .int .i64 1] p.u fun e w' => e = .returned (.bool (placeB t.dev pd pa 1)) ∧ Below p.u.heap.size p.u w') := fun p => rplace_any _ _ _ _ p.u
            have HSB : Hid (tokB t = true → 1 ≤ t.size ∧ t.size ≤ 64) := fun h => ⟨(tok_iff.1 h).s0, (tok_iff.1 h).s1⟩
            clear k2 k3
            generalize betB n (endT t.list) (t.size - 1) = p1 at HG HBE
            generalize placeB t.dev pd pa 1 = p2 at HG HPL
            generalize endT t.list = en at HEN HBE
            have HEY := HEN.out HMAY.out
            have hsb := HSB.out HMAY.out
            have es : IntKind.i64.wrap (t.size - 1) = t.size - 1 := wrap_i (by omega) (by omega)
            clear HEN
            obtain ⟨hp1, hp2⟩ := (HG.out HMAY.out).1 HOK.out.2
            subst hp1
            subst hp2
            refine wp_region_kin (by kernel_rfl) (by kernel_rfl) ?_
            repeat (first | go_big_quiet_step (first | (go_at_call 24; with_reducible exact Calls.kin_of (HEY _)) | (go_at_call 23; with_reducible exact Calls.kin_same (HBE.out _)) | (go_at_call 25; with_reducible exact Calls.kin_of (HPL.out _)) | fail) | quiet_step (first | (go_at_call 24; with_reducible exact Calls.kin_of (HEY _)) | (go_at_call 23; with_reducible exact Calls.kin_same (HBE.out _)) | (go_at_call 25; with_reducible exact Calls.kin_of (HPL.out _)) | fail))
            refine wpQuiet_nil ?_
            intro _ hwq
            obtain ⟨pq, hwq2⟩ := hwq
            subst hwq2
            have HBQ : Hid (Below W2.heap.size W2 pq.u) := nwT HB6.out pq.h
            have H9Q : Hid (pq.u.heap[B9]? = some (.cells #[.int .i64 t.dev, .int .i64 t.size, .slice ax N cx] 24 (0, 0))) := (pq.h.block _ (Array.getElem?_eq_some_iff.1 H9.out).1).trans H9.out
            have H10Q : Hid (pq.u.heap[B9 + 1]? = some (.cells #[.int .i64 0, .int .i64 0, .slice none 0 0] 24 (0, 0))) := (pq.h.block _ (Array.getElem?_eq_some_iff.1 H10.out).1).trans H10.out
            have HOXQ : Hid (OwnEnts pq.u (B9 + 2) (.slice ax N cx) X.list) := HOX.out.below pq.h
            obtain ⟨s0, s1, s2, _⟩ := three (HK2.out pq.u HBQ.out).2.1
            obtain ⟨q0, q1, q2, q3, q4, _⟩ := five (HK2.out pq.u HBQ.out).2.2.1
            have HRW := HRA.out pq.u HBQ.out
            clear t0 t1 t2 n1 n3 n4 HEY hsb es HBE HPL HSB HG
            generalize pq.u = w7 at *
            go_wp2_with fail
            refine HRW.mono ?_
            rintro e w8 ⟨⟨u8, rfl, uu, rfl, ho8⟩, hb8⟩
            obtain ⟨aw, cw, rfl, hwE, hwN⟩ := ho8.at
            clear s0 s1 s2 q0 q1 q2 q3 q4 HRW HRA
            have h10 := (hb8.block _ (Array.getElem?_eq_some_iff.1 H10Q.out).1).trans H10Q.out
            have h9 := (hb8.block _ (Array.getElem?_eq_some_iff.1 H9Q.out).1).trans H9Q.out
            have hlx : X.list = joinA t.list (newE n pd pa) := by rw [HX.out]
            have hox8 := HOXQ.out.below hb8
            obtain ⟨M, hM⟩ : ∃ M, M = (joinA t.list (newE n pd pa)).length := ⟨_, rfl⟩
            have HMX : Hid (M = X.list.length) := by show _ = _; rw [hM, hlx]
            simp only [← hM]
            obtain ⟨W9, hW9⟩ : ∃ Y, Y = ((w8.setCell ⟨B9 + 1, 0, none⟩ (.int .i64 t.dev)).setCell ⟨B9 + 1, 1, none⟩ (.int .i64 t.size)).setCell ⟨B9 + 1, 2, none⟩ (.slice aw M cw) := ⟨_, rfl⟩
            have HJ : Hid (StJ W2 W9 B9 X ax cx aw cw) := by
              have h4 := HS4.out
              have hB8 := (Array.getElem?_eq_some_iff.1 h10).1
              refine ⟨?_, ?_, ?_, ?_, ?_, ?_, ?_, ?_, h4.2⟩
              · rw [hW9]; exact three_below (nwT HBQ.out hb8) (by omega)
              · rw [hW9, ← HNX.out, show X.dev = t.dev from by rw [HX.out], show X.size = t.size from by rw [HX.out]]; exact three_other h9 (by omega)
              · rw [hW9, ← HMX.out, show X.dev = t.dev from by rw [HX.out], show X.size = t.size from by rw [HX.out]]; exact three_set h10
              · rw [hW9, ← HNX.out]; exact rowset (rowset (rowset hox8 0 (g := B9 + 1) (by omega) _) 1 (g := B9 + 1) (by omega) _) 2 (g := B9 + 1) (by omega) _
              · have how : OwnEnts W9 w7.heap.size (.slice aw X.list.length cw) X.list := by
                  rw [hW9, hlx]
                  have hw7 := (Array.getElem?_eq_some_iff.1 H10Q.out).1
                  exact rowset (rowset (rowset ho8 0 (g := B9 + 1) (by omega) _) 1 (g := B9 + 1) (by omega) _) 2 (g := B9 + 1) (by omega) _
                refine own_safe how rfl (fun g hg => ?_)
                have := HOXQ.out
                unfold OwnEnts at this
                rw [← HNX.out] at this hg
                exact (World.ownsRow.lt this g hg).2
              · rw [hlx]; exact hwN
              · rw [hlx]; exact HFT.out
              · rw [hW9]; simp; omega
            obtain ⟨y0, y1, y2, yf⟩ := three h10
            clear ho8 hb8 hwE hwN h10 h9 hlx hox8 hM
            go_wp2_with fail
            rw [← hW9]
            go_meet
            exact ⟨0, X, ax, cx, aw, cw, rfl, rfl, HJ.out⟩
    iterate 2
      · as_aux_lemma =>
          have HAD : Hid (Calls Try.prog 17 #[.agg #[.int .i64 t.dev, .int .i64 t.size, .slice ai t.list.length ci], .int .i64 n] W4 fun e w' => LoseR t n W4.heap.size e w' ∧ Below W4.heap.size W4 w') := lose_any _ t n W4 ⟨ai, ci, rfl, (HK2.out W4 HB4.out).2.2.2.2.2.2, HIN.out⟩ HF.out.1
          obtain ⟨q0, q1, q2, q3, q4, _⟩ := five (HK2.out W4 HB4.out).2.2.1
          obtain ⟨i0, i1, i2, _⟩ := three (HK2.out W4 HB4.out).2.2.2.2.1
          have HRL : Hid (tokB t = true → ∀ w', Below W2.heap.size W2 w' → Calls Try.prog 27 #[.agg #[.int .i64 t.dev, .int .i64 t.size, .slice a t.list.length c], .int .i64 n] w' fun e w'' => RLoseR t n w'.heap.size e w'' ∧ Below w'.heap.size w' w'') := fun h w' hb => rlose_any _ t n w' ⟨a, c, rfl, (HK2.out w' hb).2.2.2.2.2.1, HTN.out⟩ (by have := HF.out.2; omega) (fun i hi => by have hT := tok_iff.1 h; have h1 := hT.inE hi; have h2 := hT.s1; have h3 := h1.fl; exact ⟨h1.f0, h1.l0, by omega, h1.t0, h1.tl, h1.d0, h1.d1, h1.dn, h1.s0, h1.sl⟩)
          go_wp2_with fail
          refine HAD.out.mono ?_
          rintro e w5 ⟨hR, hb5⟩
          clear q0 q1 q2 q3 q4 i0 i1 i2 HAD
          rcases hR with ⟨hno, rfl⟩ | ⟨hok, hin, rfl⟩ | ⟨hok, k, hin, hkl, hR⟩
          · have hmf : may = false := by rw [← HMAY.out]; exact hno
            subst hmf
            have h9_5 := (hb5.block B9 (by have := HS4.out.1; omega)).trans HZ4.out.1
            have h10_5 := (hb5.block (B9 + 1) (by have := HS4.out.1; omega)).trans HZ4.out.2
            obtain ⟨W6, hW6⟩ : ∃ Y, Y = ((World.setCell w5 ⟨B9, 0, none⟩ (.int .i64 0)).setCell ⟨B9, 1, none⟩ (.int .i64 0)).setCell ⟨B9, 2, none⟩ (.slice none 0 0) := ⟨_, rfl⟩
            have HB6 : Hid (Below W2.heap.size W2 W6) := by show Below _ _ _; rw [hW6]; exact three_below (nwT HB4.out hb5) HS4.out.2
            have H9 : Hid (W6.heap[B9]? = some (.cells #[.int .i64 0, .int .i64 0, .slice none 0 0] 24 (0, 0))) := by show _ = _; rw [hW6]; exact three_set h9_5
            have H10 : Hid (W6.heap[B9 + 1]? = some (.cells #[.int .i64 0, .int .i64 0, .slice none 0 0] 24 (0, 0))) := by show _ = _; rw [hW6]; exact three_other h10_5 (by omega)
            obtain ⟨z0, z1, z2, zf⟩ := three h9_5
            clear hno h9_5 h10_5 hb5 HRL
            unfold tabZ
            have HJ : Hid (StJ W2 W6 B9 TZ none 0 none 0) := stJ_bad HB6.out H9.out H10.out HS4.out.2
            go_wp2_with fail
            rw [← hW6]
            go_meet
            exact ⟨1, TZ, none, 0, none, 0, rfl, rfl, HJ.out⟩
          · have hmt : may = true := by rw [← HMAY.out]; exact hok
            subst hmt
            have HI : Hid (inT t.list n = none) := hin
            have h9_5 := (hb5.block B9 (by have := HS4.out.1; omega)).trans HZ4.out.1
            have h10_5 := (hb5.block (B9 + 1) (by have := HS4.out.1; omega)).trans HZ4.out.2
            obtain ⟨W6, hW6⟩ : ∃ Y, Y = ((World.setCell w5 ⟨B9, 0, none⟩ (.int .i64 0)).setCell ⟨B9, 1, none⟩ (.int .i64 0)).setCell ⟨B9, 2, none⟩ (.slice none 0 0) := ⟨_, rfl⟩
            have HB6 : Hid (Below W2.heap.size W2 W6) := by show Below _ _ _; rw [hW6]; exact three_below (nwT HB4.out hb5) HS4.out.2
            have H9 : Hid (W6.heap[B9]? = some (.cells #[.int .i64 0, .int .i64 0, .slice none 0 0] 24 (0, 0))) := by show _ = _; rw [hW6]; exact three_set h9_5
            have H10 : Hid (W6.heap[B9 + 1]? = some (.cells #[.int .i64 0, .int .i64 0, .slice none 0 0] 24 (0, 0))) := by show _ = _; rw [hW6]; exact three_other h10_5 (by omega)
            obtain ⟨z0, z1, z2, zf⟩ := three h9_5
            clear hok hin h9_5 h10_5 hb5
            unfold tabZ
            go_upto_region 23 with fail
            rw [← hW6]
            clear hW6 z0 z1 z2 zf
            have HBQ : Hid (Below W2.heap.size W2 W6) := HB6.out
            have H9Q : Hid _ := H9.out
            have H10Q : Hid _ := H10.out
            clear HB6 H9 H10
            obtain ⟨s0, s1, s2, _⟩ := three (HK2.out W6 HBQ.out).2.1
            obtain ⟨q0, q1, q2, q3, q4, _⟩ := five (HK2.out W6 HBQ.out).2.2.1
            have HRW := HRL.out HMAY.out W6 HBQ.out
            clear HRL
            generalize W6 = w7 at *
            go_wp2_with fail
            refine HRW.mono ?_
            rintro e w8 ⟨hR2, hb8⟩
            clear s0 s1 s2 q0 q1 q2 q3 q4 HRW
            have he : e = .returned (.tuple #[tabZ, .int .i64 3]) := by
              rcases hR2 with ⟨_, h⟩ | ⟨k, h, _⟩
              · exact h
              · rw [HI.out] at h; cases h
            subst he
            clear hR2
            unfold tabZ
            have h10 := (hb8.block _ (Array.getElem?_eq_some_iff.1 H10Q.out).1).trans H10Q.out
            have h9 := (hb8.block _ (Array.getElem?_eq_some_iff.1 H9Q.out).1).trans H9Q.out
            obtain ⟨W9, hW9⟩ : ∃ Y, Y = ((w8.setCell ⟨B9 + 1, 0, none⟩ (.int .i64 0)).setCell ⟨B9 + 1, 1, none⟩ (.int .i64 0)).setCell ⟨B9 + 1, 2, none⟩ (.slice none 0 0) := ⟨_, rfl⟩
            have HJ : Hid (StJ W2 W9 B9 TZ none 0 none 0) := by
              have h4 := HS4.out
              rw [hW9]
              exact stJ_bad (three_below (nwT HBQ.out hb8) (by omega)) (three_other h9 (by omega)) (three_set h10) h4.2
            obtain ⟨y0, y1, y2, yf⟩ := three h10
            clear hb8 h10 h9
            go_wp2_with fail
            rw [← hW9]
            go_meet
            exact ⟨3, TZ, none, 0, none, 0, rfl, rfl, HJ.out⟩
          · have hmt : may = true := by rw [← HMAY.out]; exact hok
            subst hmt
            have HI : Hid (inT t.list n = some k) := hin
            rcases hR with ⟨hst, rfl⟩ | ⟨hst, v, rfl, u, rfl, ho⟩
            · have HST : Hid ((t.list.getD k EZ).stale = (t.list.getD k EZ).len) := hst
              have h9_5 := (hb5.block B9 (by have := HS4.out.1; omega)).trans HZ4.out.1
              have h10_5 := (hb5.block (B9 + 1) (by have := HS4.out.1; omega)).trans HZ4.out.2
              obtain ⟨W6, hW6⟩ : ∃ Y, Y = ((World.setCell w5 ⟨B9, 0, none⟩ (.int .i64 0)).setCell ⟨B9, 1, none⟩ (.int .i64 0)).setCell ⟨B9, 2, none⟩ (.slice none 0 0) := ⟨_, rfl⟩
              have HB6 : Hid (Below W2.heap.size W2 W6) := by show Below _ _ _; rw [hW6]; exact three_below (nwT HB4.out hb5) HS4.out.2
              have H9 : Hid (W6.heap[B9]? = some (.cells #[.int .i64 0, .int .i64 0, .slice none 0 0] 24 (0, 0))) := by show _ = _; rw [hW6]; exact three_set h9_5
              have H10 : Hid (W6.heap[B9 + 1]? = some (.cells #[.int .i64 0, .int .i64 0, .slice none 0 0] 24 (0, 0))) := by show _ = _; rw [hW6]; exact three_other h10_5 (by omega)
              obtain ⟨z0, z1, z2, zf⟩ := three h9_5
              clear hok hin hst hkl h9_5 h10_5 hb5
              unfold tabZ
              go_upto_region 23 with fail
              rw [← hW6]
              clear hW6 z0 z1 z2 zf
              have HBQ : Hid (Below W2.heap.size W2 W6) := HB6.out
              have H9Q : Hid _ := H9.out
              have H10Q : Hid _ := H10.out
              clear HB6 H9 H10
              obtain ⟨s0, s1, s2, _⟩ := three (HK2.out W6 HBQ.out).2.1
              obtain ⟨q0, q1, q2, q3, q4, _⟩ := five (HK2.out W6 HBQ.out).2.2.1
              have HRW := HRL.out HMAY.out W6 HBQ.out
              clear HRL
              generalize W6 = w7 at *
              go_wp2_with fail
              refine HRW.mono ?_
              rintro e w8 ⟨hR2, hb8⟩
              clear s0 s1 s2 q0 q1 q2 q3 q4 HRW
              have he : e = .returned (.tuple #[tabZ, .int .i64 9]) := by
                rcases hR2 with ⟨h, _⟩ | ⟨k2, h, _, h2⟩
                · rw [HI.out] at h; cases h
                · rw [HI.out] at h; injection h with h; subst h
                  rcases h2 with ⟨_, h3⟩ | ⟨h3, _⟩
                  · exact h3
                  · exact absurd HST.out h3
              subst he
              clear hR2
              unfold tabZ
              have h10 := (hb8.block _ (Array.getElem?_eq_some_iff.1 H10Q.out).1).trans H10Q.out
              have h9 := (hb8.block _ (Array.getElem?_eq_some_iff.1 H9Q.out).1).trans H9Q.out
              obtain ⟨W9, hW9⟩ : ∃ Y, Y = ((w8.setCell ⟨B9 + 1, 0, none⟩ (.int .i64 0)).setCell ⟨B9 + 1, 1, none⟩ (.int .i64 0)).setCell ⟨B9 + 1, 2, none⟩ (.slice none 0 0) := ⟨_, rfl⟩
              have HJ : Hid (StJ W2 W9 B9 TZ none 0 none 0) := by
                have h4 := HS4.out
                rw [hW9]
                exact stJ_bad (three_below (nwT HBQ.out hb8) (by omega)) (three_other h9 (by omega)) (three_set h10) h4.2
              obtain ⟨y0, y1, y2, yf⟩ := three h10
              clear hb8 h10 h9
              go_wp2_with fail
              rw [← hW9]
              go_meet
              exact ⟨9, TZ, none, 0, none, 0, rfl, rfl, HJ.out⟩
            · have HST : Hid ((t.list.getD k EZ).stale ≠ (t.list.getD k EZ).len) := hst
              have hT := tok_iff.1 hok
              have HFT : Hid (RngL (t.list.set k (incE (t.list.getD k EZ))) ∧ (t.list.set k (incE (t.list.getD k EZ))).length ≤ 300) := hT.fitLose hkl
              obtain ⟨X, hX⟩ : ∃ X : TabD, X = ⟨t.dev, t.size, t.list.set k (incE (t.list.getD k EZ))⟩ := ⟨_, rfl⟩
              have HX : Hid (X = ⟨t.dev, t.size, t.list.set k (incE (t.list.getD k EZ))⟩) := hX
              obtain ⟨ax, cx, rfl, _⟩ := ho.at
              have hoX : OwnEnts w5 W4.heap.size (.slice ax X.list.length cx) X.list := by rw [hX]; exact ho
              have hxl : X.list.length = (t.list.set k (incE (t.list.getD k EZ))).length := by rw [hX]
              obtain ⟨N, hN⟩ : ∃ N, N = (t.list.set k (incE (t.list.getD k EZ))).length := ⟨_, rfl⟩
              have HNX : Hid (N = X.list.length) := by show _ = _; rw [hN, hxl]
              simp only [← hN]
              have h9_5 := (hb5.block B9 (by have := HS4.out.1; omega)).trans HZ4.out.1
              have h10_5 := (hb5.block (B9 + 1) (by have := HS4.out.1; omega)).trans HZ4.out.2
              obtain ⟨W6, hW6⟩ : ∃ Y, Y = ((World.setCell w5 ⟨B9, 0, none⟩ (.int .i64 t.dev)).setCell ⟨B9, 1, none⟩ (.int .i64 t.size)).setCell ⟨B9, 2, none⟩ (.slice ax N cx) := ⟨_, rfl⟩
              have HB6 : Hid (Below W2.heap.size W2 W6) := by show Below _ _ _; rw [hW6]; exact three_below (nwT HB4.out hb5) HS4.out.2
              have H9 : Hid (W6.heap[B9]? = some (.cells #[.int .i64 t.dev, .int .i64 t.size, .slice ax N cx] 24 (0, 0))) := by show _ = _; rw [hW6]; exact three_set h9_5
              have H10 : Hid (W6.heap[B9 + 1]? = some (.cells #[.int .i64 0, .int .i64 0, .slice none 0 0] 24 (0, 0))) := by show _ = _; rw [hW6]; exact three_other h10_5 (by omega)
              obtain ⟨z0, z1, z2, zf⟩ := three h9_5
              have HOX : Hid (OwnEnts W6 (B9 + 2) (.slice ax N cx) X.list) := by
                have h4 := HS4.out.1
                show OwnEnts _ _ _ _
                rw [hW6, HNX.out]
                exact own_le (rowset (rowset (rowset hoX 0 (g := B9) (by omega) _) 1 (g := B9) (by omega) _) 2 (g := B9) (by omega) _) (by omega)
              clear hok hin hst hkl hT ho hoX hxl hN hX h9_5 h10_5 hb5
              go_upto_region 23 with fail
              rw [← hW6]
              clear hW6 z0 z1 z2 zf
              have HBQ : Hid (Below W2.heap.size W2 W6) := HB6.out
              have H9Q : Hid _ := H9.out
              have H10Q : Hid _ := H10.out
              have HOXQ : Hid (OwnEnts W6 (B9 + 2) (.slice ax N cx) X.list) := HOX.out
              clear HB6 H9 H10 HOX
              obtain ⟨s0, s1, s2, _⟩ := three (HK2.out W6 HBQ.out).2.1
              obtain ⟨q0, q1, q2, q3, q4, _⟩ := five (HK2.out W6 HBQ.out).2.2.1
              have HRW := HRL.out HMAY.out W6 HBQ.out
              clear HRL
              generalize W6 = w7 at *
              go_wp2_with fail
              refine HRW.mono ?_
              rintro e w8 ⟨hR2, hb8⟩
              clear s0 s1 s2 q0 q1 q2 q3 q4 HRW
              have he : ∃ v, e = .returned (.tuple #[v, .int .i64 0]) ∧ OwnTab w8 w7.heap.size v ⟨t.dev, t.size, t.list.set k (incE (t.list.getD k EZ))⟩ := by
                rcases hR2 with ⟨h, _⟩ | ⟨k2, h, _, h2⟩
                · rw [HI.out] at h; cases h
                · rw [HI.out] at h; injection h with h; subst h
                  rcases h2 with ⟨h3, _⟩ | ⟨_, h3⟩
                  · exact absurd h3 HST.out
                  · exact h3
              obtain ⟨v8, rfl, u8, rfl, ho8⟩ := he
              clear hR2
              obtain ⟨aw, cw, rfl, hwE, hwN⟩ := ho8.at
              have h10 := (hb8.block _ (Array.getElem?_eq_some_iff.1 H10Q.out).1).trans H10Q.out
              have h9 := (hb8.block _ (Array.getElem?_eq_some_iff.1 H9Q.out).1).trans H9Q.out
              have hlx : X.list = t.list.set k (incE (t.list.getD k EZ)) := by rw [HX.out]
              have hox8 := HOXQ.out.below hb8
              obtain ⟨M, hM⟩ : ∃ M, M = (t.list.set k (incE (t.list.getD k EZ))).length := ⟨_, rfl⟩
              have HMX : Hid (M = X.list.length) := by show _ = _; rw [hM, hlx]
              simp only [← hM]
              obtain ⟨W9, hW9⟩ : ∃ Y, Y = ((w8.setCell ⟨B9 + 1, 0, none⟩ (.int .i64 t.dev)).setCell ⟨B9 + 1, 1, none⟩ (.int .i64 t.size)).setCell ⟨B9 + 1, 2, none⟩ (.slice aw M cw) := ⟨_, rfl⟩
              have HJ : Hid (StJ W2 W9 B9 X ax cx aw cw) := by
                have h4 := HS4.out
                have hB8 := (Array.getElem?_eq_some_iff.1 h10).1
                refine ⟨?_, ?_, ?_, ?_, ?_, ?_, ?_, ?_, h4.2⟩
                · rw [hW9]; exact three_below (nwT HBQ.out hb8) (by omega)
                · rw [hW9, ← HNX.out, show X.dev = t.dev from by rw [HX.out], show X.size = t.size from by rw [HX.out]]; exact three_other h9 (by omega)
                · rw [hW9, ← HMX.out, show X.dev = t.dev from by rw [HX.out], show X.size = t.size from by rw [HX.out]]; exact three_set h10
                · rw [hW9, ← HNX.out]; exact rowset (rowset (rowset hox8 0 (g := B9 + 1) (by omega) _) 1 (g := B9 + 1) (by omega) _) 2 (g := B9 + 1) (by omega) _
                · have how : OwnEnts W9 w7.heap.size (.slice aw X.list.length cw) X.list := by
                    rw [hW9, hlx]
                    have hw7 := (Array.getElem?_eq_some_iff.1 H10Q.out).1
                    exact rowset (rowset (rowset ho8 0 (g := B9 + 1) (by omega) _) 1 (g := B9 + 1) (by omega) _) 2 (g := B9 + 1) (by omega) _
                  refine own_safe how rfl (fun g hg => ?_)
                  have := HOXQ.out
                  unfold OwnEnts at this
                  rw [← HNX.out] at this hg
                  exact (World.ownsRow.lt this g hg).2
                · rw [hlx]; exact hwN
                · rw [hlx]; exact HFT.out
                · rw [hW9]; simp; omega
              obtain ⟨y0, y1, y2, yf⟩ := three h10
              clear ho8 hb8 hwE hwN h10 h9 hlx hox8 hM
              go_wp2_with fail
              rw [← hW9]
              go_meet
              exact ⟨0, X, ax, cx, aw, cw, rfl, rfl, HJ.out⟩
    iterate 1
      · as_aux_lemma =>
          have HAD : Hid (Calls Try.prog 18 #[.agg #[.int .i64 t.dev, .int .i64 t.size, .slice ai t.list.length ci]] W4 fun e w' => TidyR t W4.heap.size e w' ∧ Below W4.heap.size W4 w') := tidy_any _ t W4 ⟨ai, ci, rfl, (HK2.out W4 HB4.out).2.2.2.2.2.2, HIN.out⟩ HF.out.1
          obtain ⟨q0, q1, q2, q3, q4, _⟩ := five (HK2.out W4 HB4.out).2.2.1
          obtain ⟨i0, i1, i2, _⟩ := three (HK2.out W4 HB4.out).2.2.2.2.1
          have HRL : Hid (tokB t = true → ∀ w', Below W2.heap.size W2 w' → Calls Try.prog 28 #[.agg #[.int .i64 t.dev, .int .i64 t.size, .slice a t.list.length c]] w' fun e w'' => (∃ u, e = .returned u ∧ OwnTab w'' w'.heap.size u ⟨t.dev, t.size, restE t.list⟩) ∧ Below w'.heap.size w' w'') := fun h w' hb => rtidy_any _ t w' ⟨a, c, rfl, (HK2.out w' hb).2.2.2.2.2.1, HTN.out⟩ (by have := HF.out.2; omega) (fun i hi => by have hT := tok_iff.1 h; have h1 := hT.inE hi; have h2 := hT.s1; have h3 := h1.fl; exact ⟨h1.f0, h1.l0, by omega, h1.t0, h1.tl, h1.d0, h1.d1, h1.dn, h1.s0, h1.sl⟩)
          go_wp2_with fail
          refine HAD.out.mono ?_
          rintro e w5 ⟨hR, hb5⟩
          clear q0 q1 q2 q3 q4 i0 i1 i2 HAD
          rcases hR with ⟨hno, rfl⟩ | ⟨hok, v, rfl, u, rfl, ho⟩
          · have hmf : may = false := by rw [← HMAY.out]; exact hno
            subst hmf
            have h9_5 := (hb5.block B9 (by have := HS4.out.1; omega)).trans HZ4.out.1
            have h10_5 := (hb5.block (B9 + 1) (by have := HS4.out.1; omega)).trans HZ4.out.2
            obtain ⟨W6, hW6⟩ : ∃ Y, Y = ((World.setCell w5 ⟨B9, 0, none⟩ (.int .i64 0)).setCell ⟨B9, 1, none⟩ (.int .i64 0)).setCell ⟨B9, 2, none⟩ (.slice none 0 0) := ⟨_, rfl⟩
            have HB6 : Hid (Below W2.heap.size W2 W6) := by show Below _ _ _; rw [hW6]; exact three_below (nwT HB4.out hb5) HS4.out.2
            have H9 : Hid (W6.heap[B9]? = some (.cells #[.int .i64 0, .int .i64 0, .slice none 0 0] 24 (0, 0))) := by show _ = _; rw [hW6]; exact three_set h9_5
            have H10 : Hid (W6.heap[B9 + 1]? = some (.cells #[.int .i64 0, .int .i64 0, .slice none 0 0] 24 (0, 0))) := by show _ = _; rw [hW6]; exact three_other h10_5 (by omega)
            obtain ⟨z0, z1, z2, zf⟩ := three h9_5
            clear hno h9_5 h10_5 hb5 HRL
            unfold tabZ
            have HJ : Hid (StJ W2 W6 B9 TZ none 0 none 0) := stJ_bad HB6.out H9.out H10.out HS4.out.2
            go_wp2_with fail
            rw [← hW6]
            go_meet
            exact ⟨1, TZ, none, 0, none, 0, rfl, rfl, HJ.out⟩
          · have hmt : may = true := by rw [← HMAY.out]; exact hok
            subst hmt
            have hT := tok_iff.1 hok
            have HFT : Hid (RngL (restE t.list) ∧ (restE t.list).length ≤ 300) := hT.fitTidy
            obtain ⟨X, hX⟩ : ∃ X : TabD, X = ⟨t.dev, t.size, restE t.list⟩ := ⟨_, rfl⟩
            have HX : Hid (X = ⟨t.dev, t.size, restE t.list⟩) := hX
            obtain ⟨ax, cx, rfl, _⟩ := ho.at
            have hoX : OwnEnts w5 W4.heap.size (.slice ax X.list.length cx) X.list := by rw [hX]; exact ho
            have hxl : X.list.length = (restE t.list).length := by rw [hX]
            obtain ⟨N, hN⟩ : ∃ N, N = (restE t.list).length := ⟨_, rfl⟩
            have HNX : Hid (N = X.list.length) := by show _ = _; rw [hN, hxl]
            simp only [← hN]
            have h9_5 := (hb5.block B9 (by have := HS4.out.1; omega)).trans HZ4.out.1
            have h10_5 := (hb5.block (B9 + 1) (by have := HS4.out.1; omega)).trans HZ4.out.2
            obtain ⟨W6, hW6⟩ : ∃ Y, Y = ((World.setCell w5 ⟨B9, 0, none⟩ (.int .i64 t.dev)).setCell ⟨B9, 1, none⟩ (.int .i64 t.size)).setCell ⟨B9, 2, none⟩ (.slice ax N cx) := ⟨_, rfl⟩
            have HB6 : Hid (Below W2.heap.size W2 W6) := by show Below _ _ _; rw [hW6]; exact three_below (nwT HB4.out hb5) HS4.out.2
            have H9 : Hid (W6.heap[B9]? = some (.cells #[.int .i64 t.dev, .int .i64 t.size, .slice ax N cx] 24 (0, 0))) := by show _ = _; rw [hW6]; exact three_set h9_5
            have H10 : Hid (W6.heap[B9 + 1]? = some (.cells #[.int .i64 0, .int .i64 0, .slice none 0 0] 24 (0, 0))) := by show _ = _; rw [hW6]; exact three_other h10_5 (by omega)
            obtain ⟨z0, z1, z2, zf⟩ := three h9_5
            have HOX : Hid (OwnEnts W6 (B9 + 2) (.slice ax N cx) X.list) := by
              have h4 := HS4.out.1
              show OwnEnts _ _ _ _
              rw [hW6, HNX.out]
              exact own_le (rowset (rowset (rowset hoX 0 (g := B9) (by omega) _) 1 (g := B9) (by omega) _) 2 (g := B9) (by omega) _) (by omega)
            clear hok hT ho hoX hxl hN hX h9_5 h10_5 hb5
            go_upto_region 27 with fail
            rw [← hW6]
            clear hW6 z0 z1 z2 zf
            have HBQ : Hid (Below W2.heap.size W2 W6) := HB6.out
            have H9Q : Hid _ := H9.out
            have H10Q : Hid _ := H10.out
            have HOXQ : Hid (OwnEnts W6 (B9 + 2) (.slice ax N cx) X.list) := HOX.out
            clear HB6 H9 H10 HOX
            obtain ⟨s0, s1, s2, _⟩ := three (HK2.out W6 HBQ.out).2.1
            obtain ⟨q0, q1, q2, q3, q4, _⟩ := five (HK2.out W6 HBQ.out).2.2.1
            have HRW := HRL.out HMAY.out W6 HBQ.out
            clear HRL
            generalize W6 = w7 at *
            go_wp2_with fail
            refine HRW.mono ?_
            rintro e w8 ⟨⟨u8, rfl, uu, rfl, ho8⟩, hb8⟩
            clear s0 s1 s2 q0 q1 q2 q3 q4 HRW
            obtain ⟨aw, cw, rfl, hwE, hwN⟩ := ho8.at
            have h10 := (hb8.block _ (Array.getElem?_eq_some_iff.1 H10Q.out).1).trans H10Q.out
            have h9 := (hb8.block _ (Array.getElem?_eq_some_iff.1 H9Q.out).1).trans H9Q.out
            have hlx : X.list = restE t.list := by rw [HX.out]
            have hox8 := HOXQ.out.below hb8
            obtain ⟨M, hM⟩ : ∃ M, M = (restE t.list).length := ⟨_, rfl⟩
            have HMX : Hid (M = X.list.length) := by show _ = _; rw [hM, hlx]
            simp only [← hM]
            obtain ⟨W9, hW9⟩ : ∃ Y, Y = ((w8.setCell ⟨B9 + 1, 0, none⟩ (.int .i64 t.dev)).setCell ⟨B9 + 1, 1, none⟩ (.int .i64 t.size)).setCell ⟨B9 + 1, 2, none⟩ (.slice aw M cw) := ⟨_, rfl⟩
            have HJ : Hid (StJ W2 W9 B9 X ax cx aw cw) := by
              have h4 := HS4.out
              have hB8 := (Array.getElem?_eq_some_iff.1 h10).1
              refine ⟨?_, ?_, ?_, ?_, ?_, ?_, ?_, ?_, h4.2⟩
              · rw [hW9]; exact three_below (nwT HBQ.out hb8) (by omega)
              · rw [hW9, ← HNX.out, show X.dev = t.dev from by rw [HX.out], show X.size = t.size from by rw [HX.out]]; exact three_other h9 (by omega)
              · rw [hW9, ← HMX.out, show X.dev = t.dev from by rw [HX.out], show X.size = t.size from by rw [HX.out]]; exact three_set h10
              · rw [hW9, ← HNX.out]; exact rowset (rowset (rowset hox8 0 (g := B9 + 1) (by omega) _) 1 (g := B9 + 1) (by omega) _) 2 (g := B9 + 1) (by omega) _
              · have how : OwnEnts W9 w7.heap.size (.slice aw X.list.length cw) X.list := by
                  rw [hW9, hlx]
                  have hw7 := (Array.getElem?_eq_some_iff.1 H10Q.out).1
                  exact rowset (rowset (rowset ho8 0 (g := B9 + 1) (by omega) _) 1 (g := B9 + 1) (by omega) _) 2 (g := B9 + 1) (by omega) _
                refine own_safe how rfl (fun g hg => ?_)
                have := HOXQ.out
                unfold OwnEnts at this
                rw [← HNX.out] at this hg
                exact (World.ownsRow.lt this g hg).2
              · rw [hlx]; exact hwN
              · rw [hlx]; exact HFT.out
              · rw [hW9]; simp; omega
            obtain ⟨y0, y1, y2, yf⟩ := three h10
            clear ho8 hb8 hwE hwN h10 h9 hlx hox8 hM
            go_wp2_with fail
            rw [← hW9]
            go_meet
            exact ⟨0, X, ax, cx, aw, cw, rfl, rfl, HJ.out⟩
    iterate 2
      · as_aux_lemma =>
          have HLK : Hid (Calls Try.prog 16 #[.agg #[.int .i64 t.dev, .int .i64 t.size, .slice ai t.list.length ci], .int .i64 n] W4 fun e w' => e = .returned (lookR t n) ∧ Below W4.heap.size W4 w') := look_any _ t n W4 ⟨ai, ci, rfl, (HK2.out W4 HB4.out).2.2.2.2.2.2, HIN.out⟩ HF.out.1
          have HLV : Hid (∀ w', Below W2.heap.size W2 w' → Calls Try.prog 19 #[.agg #[.int .i64 t.dev, .int .i64 t.size, .slice ai t.list.length ci]] w' fun e w'' => e = .returned (if tokB t then .tuple #[.int .i64 (liveL t.list), .int .i64 0] else .tuple #[.int .i64 0, .int .i64 1]) ∧ Below w'.heap.size w' w'') := fun w' h => live_any _ t w' ⟨ai, ci, rfl, (HK2.out w' h).2.2.2.2.2.2, HIN.out⟩ HF.out.1
          have HRV : Hid (tokB t = true → ∀ w', Below W2.heap.size W2 w' → Calls Try.prog 29 #[.agg #[.int .i64 t.dev, .int .i64 t.size, .slice a t.list.length c]] w' fun e w'' => e = .returned (.int .i64 (liveL t.list)) ∧ Below w'.heap.size w' w'') := fun h w' hb => rlive_any _ t w' ⟨a, c, rfl, (HK2.out w' hb).2.2.2.2.2.1, HTN.out⟩ HF.out.1.len (fun i hi => by have hT := tok_iff.1 h; have h1 := hT.inE hi; have h2 := hT.s1; have h3 := h1.fl; exact ⟨h1.f0, h1.l0, by omega, h1.t0, h1.tl, h1.d0, h1.d1, h1.dn, h1.s0, h1.sl⟩)
          have HRK : Hid (tokB t = true → ∀ w', Below W2.heap.size W2 w' → Calls Try.prog 30 #[.agg #[.int .i64 t.dev, .int .i64 t.size, .slice a t.list.length c], .int .i64 n] w' fun e w'' => e = .returned (rlookR t.list n) ∧ Below w'.heap.size w' w'') := fun h w' hb => rlook_any _ t n w' ⟨a, c, rfl, (HK2.out w' hb).2.2.2.2.2.1, HTN.out⟩ HF.out.1.len (fun i hi => (tok_iff.1 h).fair hi)
          obtain ⟨q0, q1, q2, q3, q4, _⟩ := five (HK2.out W4 HB4.out).2.2.1
          obtain ⟨i0, i1, i2, _⟩ := three (HK2.out W4 HB4.out).2.2.2.2.1
          obtain ⟨lv, hlv⟩ : ∃ lv, liveL t.list = lv := ⟨_, rfl⟩
          rw [hlv] at HLV HRV
          clear hlv
          have hLR : lookR t n = if may then (match inT t.list n with | some k => .tuple #[ptrV (t.list.getD k EZ).dev (plc (t.list.getD k EZ) n), .int .i64 0] | none => .tuple #[ptrV 0 0, .int .i64 3]) else .tuple #[ptrV 0 0, .int .i64 1] := by unfold lookR; rw [HMAY.out]; rfl
          have hRR : rlookR t.list n = (match inT t.list n with | some k => .tuple #[ptrV (t.list.getD k EZ).dev (plc (t.list.getD k EZ) n), .bool true] | none => .tuple #[ptrV 0 0, .bool false]) := rfl
          rw [hLR] at HLK
          rw [hRR] at HRK
          rw [HMAY.out] at HLV
          clear hLR hRR
          cases may
          case false =>
            simp only [Bool.false_eq_true, if_false, ptrV] at HLK HLV
            go_wp2_with fail
            refine HLK.out.mono ?_
            rintro e w5 ⟨rfl, hb5⟩
            obtain ⟨w6, hW6⟩ : ∃ Y, Y = w5.alloc (.cells #[.int .i64 0, .int .i64 0] 33) := ⟨_, rfl⟩
            have HB6 : Hid (Below W2.heap.size W2 w6) := by show Below _ _ _; rw [hW6]; exact nwA (nwT HB4.out hb5) _
            obtain ⟨B12, hB12⟩ : ∃ B, B = w5.heap.size := ⟨_, rfl⟩
            have h12 : w6.heap[B12]? = some (.cells #[.int .i64 0, .int .i64 0] 33 (0, 0)) := by rw [hW6, hB12]; exact heap_alloc_new w5 _
            have HL12 : Hid (w.heap.size + 1 + 1 < B12) := by have h1 := hb5.size; have h2 := HS4.out; have h3 := HLT.out; show _ < _; omega
            have HLB : Hid (W2.heap.size ≤ B12) := by have h1 := hb5.size; have h2 := HS4.out; show _ ≤ _; omega
            obtain ⟨i0, i1, i2, _⟩ := three (HK2.out w6 HB6.out).2.2.2.2.1
            have HLVW := HLV.out w6 HB6.out
            clear q0 q1 q2 q3 q4 hb5 HLK HLV
            go_upto_region 31 with fail
            rw [← hW6, ← hB12]
            clear hW6 hB12
            go_wp2_with fail
            refine HLVW.mono ?_
            rintro e w7 ⟨rfl, hb7⟩
            have HB7 : Hid (Below W2.heap.size W2 w7) := nwT HB6.out hb7
            have H12a : Hid (w7.heap[B12]? = some (.cells #[.int .i64 0, .int .i64 0] 33 (0, 0))) := (hb7.block _ (Array.getElem?_eq_some_iff.1 h12).1).trans h12
            clear i0 i1 i2 HLVW h12
            obtain ⟨w8, hW8⟩ : ∃ Y, Y = w7.alloc (.cells #[.int .i64 0, .int .i64 0] 33) := ⟨_, rfl⟩
            have HB78 : Hid (Below w7.heap.size w7 w8) := by rw [hW8]; exact nwA (nwR w7) _
            have HB8 : Hid (Below W2.heap.size W2 w8) := nwT HB7.out HB78.out
            obtain ⟨B18, hB18⟩ : ∃ B, B = w7.heap.size := ⟨_, rfl⟩
            have h18 : w8.heap[B18]? = some (.cells #[.int .i64 0, .int .i64 0] 33 (0, 0)) := by rw [hW8, hB18]; exact heap_alloc_new w7 _
            have HL18 : Hid (B12 < B18) := by rw [hB18]; exact (Array.getElem?_eq_some_iff.1 H12a.out).1
            have h12 : w8.heap[B12]? = some (.cells #[.int .i64 0, .int .i64 0] 33 (0, 0)) := (HB78.out.block _ (Array.getElem?_eq_some_iff.1 H12a.out).1).trans H12a.out
            have HBX : Hid (Below W2.heap.size W2 w8) := HB8.out
            have H12 : Hid _ := h12
            have H18 : Hid _ := h18
            have HNE : Hid (B12 ≠ (w.heap.size + 1 + 1) ∧ B18 ≠ (w.heap.size + 1 + 1)) := by have h1 := HL12.out; have h2 := HL18.out; show _ ∧ _; omega
            clear HRV HRK h12 h18
            go_upto_region 39 with fail
            rw [← hW8, ← hB18]
            clear hW8 hB18
            have hSX : StR w w8 (w.heap.size + 1 + 1) w8 := StR.start (HK2.out w8 HBX.out).1
            have kt : ∀ w', StR w w8 (w.heap.size + 1 + 1) w' → w'.heap[w.heap.size]? = some (.cells #[.int .i64 t.dev, .int .i64 t.size, .slice a t.list.length c] 24 (0, 0)) := fun w' h => h.at (HK2.out w8 HBX.out).2.1 (by omega)
            have ki : ∀ w', StR w w8 (w.heap.size + 1 + 1) w' → w'.heap[B6]? = some (.cells #[.int .i64 t.dev, .int .i64 t.size, .slice ai t.list.length ci] 24 (0, 0)) := fun w' h => h.at (HK2.out w8 HBX.out).2.2.2.2.1 (by have := HLT.out.1; omega)
            have kt0 : ∀ w', StR w w8 (w.heap.size + 1 + 1) w' → w'.cell? ⟨w.heap.size, 0, none⟩ = some (.int .i64 t.dev) := fun w' h => (three (kt w' h)).1
            have kt1 : ∀ w', StR w w8 (w.heap.size + 1 + 1) w' → w'.cell? ⟨w.heap.size, 1, none⟩ = some (.int .i64 t.size) := fun w' h => (three (kt w' h)).2.1
            have kt2 : ∀ w', StR w w8 (w.heap.size + 1 + 1) w' → w'.cell? ⟨w.heap.size, 2, none⟩ = some (.slice a t.list.length c) := fun w' h => (three (kt w' h)).2.2.1
            have ki0 : ∀ w', StR w w8 (w.heap.size + 1 + 1) w' → w'.cell? ⟨B6, 0, none⟩ = some (.int .i64 t.dev) := fun w' h => (three (ki w' h)).1
            have ki1 : ∀ w', StR w w8 (w.heap.size + 1 + 1) w' → w'.cell? ⟨B6, 1, none⟩ = some (.int .i64 t.size) := fun w' h => (three (ki w' h)).2.1
            have ki2 : ∀ w', StR w w8 (w.heap.size + 1 + 1) w' → w'.cell? ⟨B6, 2, none⟩ = some (.slice ai t.list.length ci) := fun w' h => (three (ki w' h)).2.2.1
            have HSE : Hid (∀ w', StR w w8 (w.heap.size + 1 + 1) w' → EntsAt w' a t.list ∧ EntsAt w' ai t.list) := fun w' h => ⟨h.ents (HK2.out w8 HBX.out).2.2.2.2.2.1 (fun hn b hb => by have := HTB.out hn b hb; omega), h.ents (HK2.out w8 HBX.out).2.2.2.2.2.2 (fun hn b hb => by have := HIB.out hn b hb; have := HSZ.out; omega)⟩
            have HEQ : Hid (∀ w', StR w w8 (w.heap.size + 1 + 1) w' → Calls Try.prog 31 #[.agg #[.int .i64 t.dev, .int .i64 t.size, .slice ai t.list.length ci], .agg #[.int .i64 t.dev, .int .i64 t.size, .slice a t.list.length c]] w' fun e w'' => e = .returned (.bool true) ∧ Below w'.heap.size w' w'') := fun w' h => by
              have := eqTab_any _ _ t t w' ⟨ai, ci, rfl, (HSE.out w' h).2, HIN.out⟩ ⟨a, c, rfl, (HSE.out w' h).1, HTN.out⟩ HF.out.1.len
              rwa [decide_eq_true rfl] at this
            have hrz := (HK2.out w8 HBX.out).2.2.2.1
            clear kt ki
            have k12a : ∀ w', StR w w8 (w.heap.size + 1 + 1) w' → w'.cell? ⟨B12, 0, none⟩ = some (.int .i64 0) := fun w' h => (two (h.at H12.out HNE.out.1)).1
            have k12b : ∀ w', StR w w8 (w.heap.size + 1 + 1) w' → w'.cell? ⟨B12, 1, none⟩ = some (.int .i64 0) := fun w' h => (two (h.at H12.out HNE.out.1)).2.1
            have k18a : ∀ w', StR w w8 (w.heap.size + 1 + 1) w' → w'.cell? ⟨B18, 0, none⟩ = some (.int .i64 0) := fun w' h => (two (h.at H18.out HNE.out.2)).1
            have k18b : ∀ w', StR w w8 (w.heap.size + 1 + 1) w' → w'.cell? ⟨B18, 1, none⟩ = some (.int .i64 0) := fun w' h => (two (h.at H18.out HNE.out.2)).2.1
            have hb1 : ((0 : Int) == 0) = true := beq_self_eq_true _
            have hb2 : ((0 : Int) == 0) = true := beq_self_eq_true _
            refine wp_region_held_drew (S := fun w' => StR w w8 (w.heap.size + 1 + 1) w') (by kernel_rfl) (by exact StR.drew hSX) (fun hHeld => ?_)
            have hrzd : (World.drew w8).heap[w.heap.size + 1 + 1]? = some (.cells #[.int .i64 0, .int .i64 0, .slice none 0 0] 24 (0, 0)) := hrz
            generalize World.drew w8 = wd at hHeld hrzd ⊢
            refine takeYes 0 (some 160) (v := ?_) rfl (by kernel_rfl) (by kernel_rfl) (by kernel_rfl) (by rfl) (fun _ _ _ h => h) (by rfl) ?_ (by assumption) ?_
            rotate_left
            · intro w hSw; (try dsimp only at hSw); go_simp; try with_reducible rfl
            try simp only [Act.put, List.setIfInBounds_toArray, List.set_cons_zero, List.set_cons_succ]
            refine takeYes 1 (some 161) (v := ?_) rfl (by kernel_rfl) (by kernel_rfl) (by kernel_rfl) (by rfl) (fun _ _ _ h => h) (by rfl) ?_ (by assumption) ?_
            rotate_left
            · intro w hSw; (try dsimp only at hSw); go_simp; try with_reducible rfl
            try simp only [Act.put, List.setIfInBounds_toArray, List.set_cons_zero, List.set_cons_succ]
            refine takeYes 3 (some 163) (v := ?_) rfl (by kernel_rfl) (by kernel_rfl) (by kernel_rfl) (by rfl) (fun _ _ _ h => h) (by rfl) ?_ (by assumption) ?_
            rotate_left
            · intro w hSw; (try dsimp only at hSw); go_simp; try with_reducible rfl
            try simp only [Act.put, List.setIfInBounds_toArray, List.set_cons_zero, List.set_cons_succ]
            refine wpAnyH_ready (rs := [2]) (by kernel_rfl) (by simp) ?_
            refine AllReadyH.cons rfl (fun K hK => ?_) AllReadyH.nil
            go_simp
            (go_at_call 14; refine (errnum_w _ _).mono ?_; rintro e wN ⟨rfl, rfl⟩)
            refine hK.out _ _ (by first | assumption) (fun hHeld => ?_)
            clear hK K
            try simp only [Act.put, List.setIfInBounds_toArray, List.set_cons_zero, List.set_cons_succ]
            refine takeYes 4 (some 164) (v := ?_) rfl (by kernel_rfl) (by kernel_rfl) (by kernel_rfl) (by rfl) (fun _ _ _ h => h) (by rfl) ?_ (by assumption) ?_
            rotate_left
            · intro w hSw; (try dsimp only at hSw); go_simp; try with_reducible rfl
            try simp only [Act.put, List.setIfInBounds_toArray, List.set_cons_zero, List.set_cons_succ]
            refine takeYes 5 (some 165) (v := ?_) rfl (by kernel_rfl) (by kernel_rfl) (by kernel_rfl) (by rfl) (fun _ _ _ h => h) (by rfl) ?_ (by assumption) ?_
            rotate_left
            · intro w hSw; (try dsimp only at hSw); go_simp; try with_reducible rfl
            try simp only [Act.put, List.setIfInBounds_toArray, List.set_cons_zero, List.set_cons_succ]
            refine takeYes 6 (some 166) (v := ?_) rfl (by kernel_rfl) (by kernel_rfl) (by kernel_rfl) (by rfl) (fun _ _ _ h => h) (by rfl) ?_ (by assumption) ?_
            rotate_left
            · intro w hSw; (try dsimp only at hSw); go_simp; try with_reducible rfl
            try simp only [Act.put, List.setIfInBounds_toArray, List.set_cons_zero, List.set_cons_succ]
            refine takeYes 7 (some 167) (v := ?_) rfl (by kernel_rfl) (by kernel_rfl) (by kernel_rfl) (by rfl) (fun _ _ _ h => h) (by rfl) ?_ (by assumption) ?_
            rotate_left
            · intro w hSw; (try dsimp only at hSw); go_simp; try with_reducible rfl
            try simp only [Act.put, List.setIfInBounds_toArray, List.set_cons_zero, List.set_cons_succ]
            refine takeYes 8 (some 168) (v := ?_) rfl (by kernel_rfl) (by kernel_rfl) (by kernel_rfl) (by rfl) (fun _ _ _ h => h) (by rfl) ?_ (by assumption) ?_
            rotate_left
            · intro w hSw; (try dsimp only at hSw); go_simp; try with_reducible rfl
            try simp only [Act.put, List.setIfInBounds_toArray, List.set_cons_zero, List.set_cons_succ]
            refine takeYes 9 (some 169) (v := ?_) rfl (by kernel_rfl) (by kernel_rfl) (by kernel_rfl) (by rfl) (fun _ _ _ h => h) (by rfl) ?_ (by assumption) ?_
            rotate_left
            · intro w hSw; (try dsimp only at hSw); go_simp; try with_reducible rfl
            try simp only [Act.put, List.setIfInBounds_toArray, List.set_cons_zero, List.set_cons_succ]
            refine takeYes 10 (some 170) (v := ?_) rfl (by kernel_rfl) (by kernel_rfl) (by kernel_rfl) (by rfl) (fun _ _ _ h => h) (by rfl) ?_ (by assumption) ?_
            rotate_left
            · intro w hSw; (try dsimp only at hSw); go_simp; try with_reducible rfl
            try simp only [Act.put, List.setIfInBounds_toArray, List.set_cons_zero, List.set_cons_succ]
            refine takeYes 11 (some 171) (v := ?_) rfl (by kernel_rfl) (by kernel_rfl) (by kernel_rfl) (by rfl) (fun _ _ _ h => h) (by rfl) ?_ (by assumption) ?_
            rotate_left
            · intro w hSw; (try dsimp only at hSw); go_simp; try with_reducible rfl
            try simp only [Act.put, List.setIfInBounds_toArray, List.set_cons_zero, List.set_cons_succ]
            refine takeYes 13 (some 173) (v := ?_) rfl (by kernel_rfl) (by kernel_rfl) (by kernel_rfl) (by rfl) (fun _ _ _ h => h) (by rfl) ?_ (by assumption) ?_
            rotate_left
            · intro w hSw; (try dsimp only at hSw); go_simp; try with_reducible rfl
            try simp only [Act.put, List.setIfInBounds_toArray, List.set_cons_zero, List.set_cons_succ]
            refine wpAnyH_ready (rs := [12]) (by kernel_rfl) (by simp) ?_
            refine AllReadyH.cons rfl (fun K hK => ?_) AllReadyH.nil
            go_simp
            (go_at_call 14; refine (errnum_w _ _).mono ?_; rintro e wN ⟨rfl, rfl⟩)
            refine hK.out _ _ (by first | assumption) (fun hHeld => ?_)
            clear hK K
            try simp only [Act.put, List.setIfInBounds_toArray, List.set_cons_zero, List.set_cons_succ]
            refine takeYes 14 (some 174) (v := ?_) rfl (by kernel_rfl) (by kernel_rfl) (by kernel_rfl) (by rfl) (fun _ _ _ h => h) (by rfl) ?_ (by assumption) ?_
            rotate_left
            · intro w hSw; (try dsimp only at hSw); go_simp; try with_reducible rfl
            try simp only [Act.put, List.setIfInBounds_toArray, List.set_cons_zero, List.set_cons_succ]
            refine takeYes 15 (some 175) (v := ?_) rfl (by kernel_rfl) (by kernel_rfl) (by kernel_rfl) (by rfl) (fun _ _ _ h => h) (by rfl) ?_ (by assumption) ?_
            rotate_left
            · intro w hSw; (try dsimp only at hSw); go_simp; try with_reducible rfl
            try simp only [Act.put, List.setIfInBounds_toArray, List.set_cons_zero, List.set_cons_succ]
            refine takeYes 16 (some 176) (v := ?_) rfl (by kernel_rfl) (by kernel_rfl) (by kernel_rfl) (by rfl) (fun _ _ _ h => h) (by rfl) ?_ (by assumption) ?_
            rotate_left
            · intro w hSw; (try dsimp only at hSw); go_simp; try with_reducible rfl
            try simp only [Act.put, List.setIfInBounds_toArray, List.set_cons_zero, List.set_cons_succ]
            refine takeYes 17 (some 177) (v := ?_) rfl (by kernel_rfl) (by kernel_rfl) (by kernel_rfl) (by rfl) (fun _ _ _ h => h) (by rfl) ?_ (by assumption) ?_
            rotate_left
            · intro w hSw; (try dsimp only at hSw); go_simp; try with_reducible rfl
            try simp only [Act.put, List.setIfInBounds_toArray, List.set_cons_zero, List.set_cons_succ]
            refine takeYes 18 (some 178) (v := ?_) rfl (by kernel_rfl) (by kernel_rfl) (by kernel_rfl) (by rfl) (fun _ _ _ h => h) (by rfl) ?_ (by assumption) ?_
            rotate_left
            · intro w hSw; (try dsimp only at hSw); go_simp; try with_reducible rfl
            try simp only [Act.put, List.setIfInBounds_toArray, List.set_cons_zero, List.set_cons_succ]
            refine takeYes 19 (some 179) (v := ?_) rfl (by kernel_rfl) (by kernel_rfl) (by kernel_rfl) (by rfl) (fun _ _ _ h => h) (by rfl) ?_ (by assumption) ?_
            rotate_left
            · intro w hSw; (try dsimp only at hSw); go_simp; try with_reducible rfl
            try simp only [Act.put, List.setIfInBounds_toArray, List.set_cons_zero, List.set_cons_succ]
            refine takeYes 20 (some 180) (v := ?_) rfl (by kernel_rfl) (by kernel_rfl) (by kernel_rfl) (by rfl) (fun _ _ _ h => h) (by rfl) ?_ (by assumption) ?_
            rotate_left
            · intro w hSw; (try dsimp only at hSw); go_simp; try with_reducible rfl
            try simp only [Act.put, List.setIfInBounds_toArray, List.set_cons_zero, List.set_cons_succ]
            refine takeYes 21 (some 181) (v := ?_) rfl (by kernel_rfl) (by kernel_rfl) (by kernel_rfl) (by rfl) (fun _ _ _ h => h) (by rfl) ?_ (by assumption) ?_
            rotate_left
            · intro w hSw; (try dsimp only at hSw); go_simp; try with_reducible rfl
            try simp only [Act.put, List.setIfInBounds_toArray, List.set_cons_zero, List.set_cons_succ]
            refine takeYes 22 (some 182) (v := ?_) rfl (by kernel_rfl) (by kernel_rfl) (by kernel_rfl) (by rfl) (fun _ _ _ h => h) (by rfl) ?_ (by assumption) ?_
            rotate_left
            · intro w hSw; (try dsimp only at hSw); go_simp; try with_reducible rfl
            try simp only [Act.put, List.setIfInBounds_toArray, List.set_cons_zero, List.set_cons_succ]
            refine takeYes 23 (some 183) (v := ?_) rfl (by kernel_rfl) (by kernel_rfl) (by kernel_rfl) (by rfl) (fun _ _ _ h => h) (by rfl) ?_ (by assumption) ?_
            rotate_left
            · intro w hSw; (try dsimp only at hSw); go_simp; try with_reducible rfl
            try simp only [Act.put, List.setIfInBounds_toArray, List.set_cons_zero, List.set_cons_succ]
            refine wpAnyH_ready (rs := [24]) (by kernel_rfl) (by simp) ?_
            refine AllReadyH.cons rfl (fun K hK => ?_) AllReadyH.nil
            go_simp
            (go_at_call 31; refine (HEQ.out _ (by assumption)).mono ?_; rintro e wE ⟨rfl, hbE⟩; have hSE : StR w w8 (w.heap.size + 1 + 1) wE := StR.below (by assumption) hbE; have hrzE := (hbE.block _ (Array.getElem?_eq_some_iff.1 hrzd).1).trans hrzd)
            refine hK.out _ _ (by first | assumption) (fun hHeld => ?_)
            clear hK K
            try simp only [Act.put, List.setIfInBounds_toArray, List.set_cons_zero, List.set_cons_succ]
            refine takeYes 25 (some 185) (v := ?_) rfl (by kernel_rfl) (by kernel_rfl) (by kernel_rfl) (by rfl) (fun _ _ _ h => h) (by rfl) ?_ (by assumption) ?_
            rotate_left
            · intro w hSw; (try dsimp only at hSw); go_simp; try with_reducible rfl
            try simp only [Act.put, List.setIfInBounds_toArray, List.set_cons_zero, List.set_cons_succ]
            refine wpAnyH_ready (rs := [26]) (by kernel_rfl) (by simp) ?_
            refine AllReadyH.cons rfl (fun K hK => ?_) AllReadyH.nil
            obtain ⟨z0, z1, z2, zf⟩ := three hrzE
            obtain ⟨wF, hWF⟩ : ∃ Y, Y = ((wE.setCell ⟨w.heap.size + 1 + 1, 0, none⟩ (.int .i64 t.dev)).setCell ⟨w.heap.size + 1 + 1, 1, none⟩ (.int .i64 t.size)).setCell ⟨w.heap.size + 1 + 1, 2, none⟩ (.slice a t.list.length c) := ⟨_, rfl⟩
            have hSF : StR w w8 (w.heap.size + 1 + 1) wF := by rw [hWF]; exact ((hSE.set (by omega) 0 _).set (by omega) 1 _).set (by omega) 2 _
            have hrF : wF.heap[w.heap.size + 1 + 1]? = some (.cells #[.int .i64 t.dev, .int .i64 t.size, .slice a t.list.length c] 24 (0, 0)) := by rw [hWF]; exact three_set hrzE
            go_simp
            rw [← hWF]
            refine hK.out _ _ hSF (fun hHeld => ?_)
            clear hK K
            try simp only [Act.put, List.setIfInBounds_toArray, List.set_cons_zero, List.set_cons_succ]
            clear hWF z0 z1 z2 zf
            refine takeYes 27 (some 5) (v := ?_) rfl (by kernel_rfl) (by kernel_rfl) (by kernel_rfl) (by rfl) (fun _ _ _ h => h) (by rfl) ?_ (by assumption) ?_
            rotate_left
            · intro w hSw; (try dsimp only at hSw); go_simp; try with_reducible rfl
            try simp only [Act.put, List.setIfInBounds_toArray, List.set_cons_zero, List.set_cons_succ]
            refine wpAnyH_done (by kernel_rfl) ?_ _
            obtain ⟨z0, z1, z2, zf⟩ := three hrF
            go_wp2_with fail
            refine bodyPost_ret (v := .tuple #[.agg #[.int .i64 t.dev, .int .i64 t.size, .slice a t.list.length c], .bool true]) (by simp [results, Try.results10, go_sem, z0, z1, z2]) rfl ⟨⟨t, a, c, rfl, (HSE.out wF hSF).1, HTN.out, HF.out⟩, hSF.b⟩
          case true =>
          simp only [if_true] at HLK HLV
          have HRV2 := HRV.out HMAY.out
          have HRK2 := HRK.out HMAY.out
          clear HRV HRK
          cases hin : inT t.list n with
          | none =>
            simp only [hin, ptrV] at HLK HRK2
            go_wp2_with fail
            refine HLK.out.mono ?_
            rintro e w5 ⟨rfl, hb5⟩
            obtain ⟨w6, hW6⟩ : ∃ Y, Y = w5.alloc (.cells #[.int .i64 0, .int .i64 0] 33) := ⟨_, rfl⟩
            have HB6 : Hid (Below W2.heap.size W2 w6) := by show Below _ _ _; rw [hW6]; exact nwA (nwT HB4.out hb5) _
            obtain ⟨B12, hB12⟩ : ∃ B, B = w5.heap.size := ⟨_, rfl⟩
            have h12 : w6.heap[B12]? = some (.cells #[.int .i64 0, .int .i64 0] 33 (0, 0)) := by rw [hW6, hB12]; exact heap_alloc_new w5 _
            have HL12 : Hid (w.heap.size + 1 + 1 < B12) := by have h1 := hb5.size; have h2 := HS4.out; have h3 := HLT.out; show _ < _; omega
            have HLB : Hid (W2.heap.size ≤ B12) := by have h1 := hb5.size; have h2 := HS4.out; show _ ≤ _; omega
            obtain ⟨i0, i1, i2, _⟩ := three (HK2.out w6 HB6.out).2.2.2.2.1
            have HLVW := HLV.out w6 HB6.out
            clear q0 q1 q2 q3 q4 hb5 HLK HLV
            go_upto_region 31 with fail
            rw [← hW6, ← hB12]
            clear hW6 hB12
            go_wp2_with fail
            refine HLVW.mono ?_
            rintro e w7 ⟨rfl, hb7⟩
            have HB7 : Hid (Below W2.heap.size W2 w7) := nwT HB6.out hb7
            have H12a : Hid (w7.heap[B12]? = some (.cells #[.int .i64 0, .int .i64 0] 33 (0, 0))) := (hb7.block _ (Array.getElem?_eq_some_iff.1 h12).1).trans h12
            clear i0 i1 i2 HLVW h12
            obtain ⟨w8, hW8⟩ : ∃ Y, Y = w7.alloc (.cells #[.int .i64 0, .int .i64 0] 33) := ⟨_, rfl⟩
            have HB78 : Hid (Below w7.heap.size w7 w8) := by rw [hW8]; exact nwA (nwR w7) _
            have HB8 : Hid (Below W2.heap.size W2 w8) := nwT HB7.out HB78.out
            obtain ⟨B18, hB18⟩ : ∃ B, B = w7.heap.size := ⟨_, rfl⟩
            have h18 : w8.heap[B18]? = some (.cells #[.int .i64 0, .int .i64 0] 33 (0, 0)) := by rw [hW8, hB18]; exact heap_alloc_new w7 _
            have HL18 : Hid (B12 < B18) := by rw [hB18]; exact (Array.getElem?_eq_some_iff.1 H12a.out).1
            have h12 : w8.heap[B12]? = some (.cells #[.int .i64 0, .int .i64 0] 33 (0, 0)) := (HB78.out.block _ (Array.getElem?_eq_some_iff.1 H12a.out).1).trans H12a.out
            obtain ⟨s0, s1, s2, _⟩ := three (HK2.out w8 HB8.out).2.1
            have HV8 := HRV2 w8 HB8.out
            clear HRV2
            go_upto_region 35 with fail
            rw [← hW8, ← hB18]
            clear hW8 hB18
            go_wp2_with fail
            refine HV8.mono ?_
            rintro e w9 ⟨rfl, hb9⟩
            have HB9 : Hid (Below W2.heap.size W2 w9) := nwT HB8.out hb9
            have h12b := (hb9.block _ (Array.getElem?_eq_some_iff.1 h12).1).trans h12
            have h18b := (hb9.block _ (Array.getElem?_eq_some_iff.1 h18).1).trans h18
            clear s0 s1 s2 HV8 hb9 h12 h18
            obtain ⟨s0, s1, s2, _⟩ := three (HK2.out w9 HB9.out).2.1
            obtain ⟨q0, q1, q2, q3, q4, _⟩ := five (HK2.out w9 HB9.out).2.2.1
            have HK9 := HRK2 w9 HB9.out
            clear HRK2
            go_wp2_with fail
            refine HK9.mono ?_
            rintro e w10 ⟨rfl, hb10⟩
            obtain ⟨w11, hW11⟩ : ∃ Y, Y = w10.alloc (.cells #[.int .i64 0, .int .i64 0] 33) := ⟨_, rfl⟩
            have HB10 : Hid (Below w9.heap.size w9 w11) := by rw [hW11]; exact nwA hb10 _
            have HB11 : Hid (Below W2.heap.size W2 w11) := nwT HB9.out HB10.out
            have h19 : w11.heap[w10.heap.size]? = some (.cells #[.int .i64 0, .int .i64 0] 33 (0, 0)) := by rw [hW11]; exact heap_alloc_new w10 _
            have HL12b : Hid (W2.heap.size ≤ B12) := HLB.out
            have h12 := (HB10.out.block _ (Array.getElem?_eq_some_iff.1 h12b).1).trans h12b
            have h18 := (HB10.out.block _ (Array.getElem?_eq_some_iff.1 h18b).1).trans h18b
            have H19L : Hid (B18 < w10.heap.size) := by have h1 := hb10.size; have h2 := (Array.getElem?_eq_some_iff.1 h18b).1; show _ < _; omega
            clear s0 s1 s2 q0 q1 q2 q3 q4 HK9 hb10 h12b h18b
            have HBX : Hid (Below W2.heap.size W2 w11) := HB11.out
            have H12 : Hid _ := h12
            have H18 : Hid _ := h18
            have HNE : Hid (B12 ≠ (w.heap.size + 1 + 1) ∧ B18 ≠ (w.heap.size + 1 + 1)) := by have h1 := HL12.out; have h2 := HL18.out; show _ ∧ _; omega
            clear h12 h18 h19 hin
            go_upto_region 39 with fail
            rw [← hW11]
            clear hW11
            have hSX : StR w w11 (w.heap.size + 1 + 1) w11 := StR.start (HK2.out w11 HBX.out).1
            have kt : ∀ w', StR w w11 (w.heap.size + 1 + 1) w' → w'.heap[w.heap.size]? = some (.cells #[.int .i64 t.dev, .int .i64 t.size, .slice a t.list.length c] 24 (0, 0)) := fun w' h => h.at (HK2.out w11 HBX.out).2.1 (by omega)
            have ki : ∀ w', StR w w11 (w.heap.size + 1 + 1) w' → w'.heap[B6]? = some (.cells #[.int .i64 t.dev, .int .i64 t.size, .slice ai t.list.length ci] 24 (0, 0)) := fun w' h => h.at (HK2.out w11 HBX.out).2.2.2.2.1 (by have := HLT.out.1; omega)
            have kt0 : ∀ w', StR w w11 (w.heap.size + 1 + 1) w' → w'.cell? ⟨w.heap.size, 0, none⟩ = some (.int .i64 t.dev) := fun w' h => (three (kt w' h)).1
            have kt1 : ∀ w', StR w w11 (w.heap.size + 1 + 1) w' → w'.cell? ⟨w.heap.size, 1, none⟩ = some (.int .i64 t.size) := fun w' h => (three (kt w' h)).2.1
            have kt2 : ∀ w', StR w w11 (w.heap.size + 1 + 1) w' → w'.cell? ⟨w.heap.size, 2, none⟩ = some (.slice a t.list.length c) := fun w' h => (three (kt w' h)).2.2.1
            have ki0 : ∀ w', StR w w11 (w.heap.size + 1 + 1) w' → w'.cell? ⟨B6, 0, none⟩ = some (.int .i64 t.dev) := fun w' h => (three (ki w' h)).1
            have ki1 : ∀ w', StR w w11 (w.heap.size + 1 + 1) w' → w'.cell? ⟨B6, 1, none⟩ = some (.int .i64 t.size) := fun w' h => (three (ki w' h)).2.1
            have ki2 : ∀ w', StR w w11 (w.heap.size + 1 + 1) w' → w'.cell? ⟨B6, 2, none⟩ = some (.slice ai t.list.length ci) := fun w' h => (three (ki w' h)).2.2.1
            have HSE : Hid (∀ w', StR w w11 (w.heap.size + 1 + 1) w' → EntsAt w' a t.list ∧ EntsAt w' ai t.list) := fun w' h => ⟨h.ents (HK2.out w11 HBX.out).2.2.2.2.2.1 (fun hn b hb => by have := HTB.out hn b hb; omega), h.ents (HK2.out w11 HBX.out).2.2.2.2.2.2 (fun hn b hb => by have := HIB.out hn b hb; have := HSZ.out; omega)⟩
            have HEQ : Hid (∀ w', StR w w11 (w.heap.size + 1 + 1) w' → Calls Try.prog 31 #[.agg #[.int .i64 t.dev, .int .i64 t.size, .slice ai t.list.length ci], .agg #[.int .i64 t.dev, .int .i64 t.size, .slice a t.list.length c]] w' fun e w'' => e = .returned (.bool true) ∧ Below w'.heap.size w' w'') := fun w' h => by
              have := eqTab_any _ _ t t w' ⟨ai, ci, rfl, (HSE.out w' h).2, HIN.out⟩ ⟨a, c, rfl, (HSE.out w' h).1, HTN.out⟩ HF.out.1.len
              rwa [decide_eq_true rfl] at this
            have hrz := (HK2.out w11 HBX.out).2.2.2.1
            clear kt ki
            have k12a : ∀ w', StR w w11 (w.heap.size + 1 + 1) w' → w'.cell? ⟨B12, 0, none⟩ = some (.int .i64 0) := fun w' h => (two (h.at H12.out HNE.out.1)).1
            have k12b : ∀ w', StR w w11 (w.heap.size + 1 + 1) w' → w'.cell? ⟨B12, 1, none⟩ = some (.int .i64 0) := fun w' h => (two (h.at H12.out HNE.out.1)).2.1
            have k18a : ∀ w', StR w w11 (w.heap.size + 1 + 1) w' → w'.cell? ⟨B18, 0, none⟩ = some (.int .i64 0) := fun w' h => (two (h.at H18.out HNE.out.2)).1
            have k18b : ∀ w', StR w w11 (w.heap.size + 1 + 1) w' → w'.cell? ⟨B18, 1, none⟩ = some (.int .i64 0) := fun w' h => (two (h.at H18.out HNE.out.2)).2.1
            have hb1 : ((0 : Int) == 0) = true := beq_self_eq_true _
            have hb2 : ((0 : Int) == 0) = true := beq_self_eq_true _
            refine wp_region_held_drew (S := fun w' => StR w w11 (w.heap.size + 1 + 1) w') (by kernel_rfl) (by exact StR.drew hSX) (fun hHeld => ?_)
            have hrzd : (World.drew w11).heap[w.heap.size + 1 + 1]? = some (.cells #[.int .i64 0, .int .i64 0, .slice none 0 0] 24 (0, 0)) := hrz
            generalize World.drew w11 = wd at hHeld hrzd ⊢
            refine takeYes 0 (some 160) (v := ?_) rfl (by kernel_rfl) (by kernel_rfl) (by kernel_rfl) (by rfl) (fun _ _ _ h => h) (by rfl) ?_ (by assumption) ?_
            rotate_left
            · intro w hSw; (try dsimp only at hSw); go_simp; try with_reducible rfl
            try simp only [Act.put, List.setIfInBounds_toArray, List.set_cons_zero, List.set_cons_succ]
            refine takeYes 1 (some 161) (v := ?_) rfl (by kernel_rfl) (by kernel_rfl) (by kernel_rfl) (by rfl) (fun _ _ _ h => h) (by rfl) ?_ (by assumption) ?_
            rotate_left
            · intro w hSw; (try dsimp only at hSw); go_simp; try with_reducible rfl
            try simp only [Act.put, List.setIfInBounds_toArray, List.set_cons_zero, List.set_cons_succ]
            refine takeYes 3 (some 163) (v := ?_) rfl (by kernel_rfl) (by kernel_rfl) (by kernel_rfl) (by rfl) (fun _ _ _ h => h) (by rfl) ?_ (by assumption) ?_
            rotate_left
            · intro w hSw; (try dsimp only at hSw); go_simp; try with_reducible rfl
            try simp only [Act.put, List.setIfInBounds_toArray, List.set_cons_zero, List.set_cons_succ]
            refine wpAnyH_ready (rs := [2]) (by kernel_rfl) (by simp) ?_
            refine AllReadyH.cons rfl (fun K hK => ?_) AllReadyH.nil
            go_simp
            (go_at_call 14; refine (errnum_w _ _).mono ?_; rintro e wN ⟨rfl, rfl⟩)
            refine hK.out _ _ (by first | assumption) (fun hHeld => ?_)
            clear hK K
            try simp only [Act.put, List.setIfInBounds_toArray, List.set_cons_zero, List.set_cons_succ]
            refine takeYes 4 (some 164) (v := ?_) rfl (by kernel_rfl) (by kernel_rfl) (by kernel_rfl) (by rfl) (fun _ _ _ h => h) (by rfl) ?_ (by assumption) ?_
            rotate_left
            · intro w hSw; (try dsimp only at hSw); go_simp; try with_reducible rfl
            try simp only [Act.put, List.setIfInBounds_toArray, List.set_cons_zero, List.set_cons_succ]
            refine takeYes 5 (some 165) (v := ?_) rfl (by kernel_rfl) (by kernel_rfl) (by kernel_rfl) (by rfl) (fun _ _ _ h => h) (by rfl) ?_ (by assumption) ?_
            rotate_left
            · intro w hSw; (try dsimp only at hSw); go_simp; try with_reducible rfl
            try simp only [Act.put, List.setIfInBounds_toArray, List.set_cons_zero, List.set_cons_succ]
            refine takeYes 6 (some 166) (v := ?_) rfl (by kernel_rfl) (by kernel_rfl) (by kernel_rfl) (by rfl) (fun _ _ _ h => h) (by rfl) ?_ (by assumption) ?_
            rotate_left
            · intro w hSw; (try dsimp only at hSw); go_simp; try with_reducible rfl
            try simp only [Act.put, List.setIfInBounds_toArray, List.set_cons_zero, List.set_cons_succ]
            refine takeYes 7 (some 167) (v := ?_) rfl (by kernel_rfl) (by kernel_rfl) (by kernel_rfl) (by rfl) (fun _ _ _ h => h) (by rfl) ?_ (by assumption) ?_
            rotate_left
            · intro w hSw; (try dsimp only at hSw); go_simp; try with_reducible rfl
            try simp only [Act.put, List.setIfInBounds_toArray, List.set_cons_zero, List.set_cons_succ]
            refine takeYes 8 (some 168) (v := ?_) rfl (by kernel_rfl) (by kernel_rfl) (by kernel_rfl) (by rfl) (fun _ _ _ h => h) (by rfl) ?_ (by assumption) ?_
            rotate_left
            · intro w hSw; (try dsimp only at hSw); go_simp; try with_reducible rfl
            try simp only [Act.put, List.setIfInBounds_toArray, List.set_cons_zero, List.set_cons_succ]
            refine takeYes 9 (some 169) (v := ?_) rfl (by kernel_rfl) (by kernel_rfl) (by kernel_rfl) (by rfl) (fun _ _ _ h => h) (by rfl) ?_ (by assumption) ?_
            rotate_left
            · intro w hSw; (try dsimp only at hSw); go_simp; try with_reducible rfl
            try simp only [Act.put, List.setIfInBounds_toArray, List.set_cons_zero, List.set_cons_succ]
            refine takeYes 10 (some 170) (v := ?_) rfl (by kernel_rfl) (by kernel_rfl) (by kernel_rfl) (by rfl) (fun _ _ _ h => h) (by rfl) ?_ (by assumption) ?_
            rotate_left
            · intro w hSw; (try dsimp only at hSw); go_simp; try with_reducible rfl
            try simp only [Act.put, List.setIfInBounds_toArray, List.set_cons_zero, List.set_cons_succ]
            refine takeYes 11 (some 171) (v := ?_) rfl (by kernel_rfl) (by kernel_rfl) (by kernel_rfl) (by rfl) (fun _ _ _ h => h) (by rfl) ?_ (by assumption) ?_
            rotate_left
            · intro w hSw; (try dsimp only at hSw); go_simp; try with_reducible rfl
            try simp only [Act.put, List.setIfInBounds_toArray, List.set_cons_zero, List.set_cons_succ]
            refine takeYes 13 (some 173) (v := ?_) rfl (by kernel_rfl) (by kernel_rfl) (by kernel_rfl) (by rfl) (fun _ _ _ h => h) (by rfl) ?_ (by assumption) ?_
            rotate_left
            · intro w hSw; (try dsimp only at hSw); go_simp; try with_reducible rfl
            try simp only [Act.put, List.setIfInBounds_toArray, List.set_cons_zero, List.set_cons_succ]
            refine wpAnyH_ready (rs := [12]) (by kernel_rfl) (by simp) ?_
            refine AllReadyH.cons rfl (fun K hK => ?_) AllReadyH.nil
            go_simp
            (go_at_call 14; refine (errnum_w _ _).mono ?_; rintro e wN ⟨rfl, rfl⟩)
            refine hK.out _ _ (by first | assumption) (fun hHeld => ?_)
            clear hK K
            try simp only [Act.put, List.setIfInBounds_toArray, List.set_cons_zero, List.set_cons_succ]
            refine takeYes 14 (some 174) (v := ?_) rfl (by kernel_rfl) (by kernel_rfl) (by kernel_rfl) (by rfl) (fun _ _ _ h => h) (by rfl) ?_ (by assumption) ?_
            rotate_left
            · intro w hSw; (try dsimp only at hSw); go_simp; try with_reducible rfl
            try simp only [Act.put, List.setIfInBounds_toArray, List.set_cons_zero, List.set_cons_succ]
            refine takeYes 15 (some 175) (v := ?_) rfl (by kernel_rfl) (by kernel_rfl) (by kernel_rfl) (by rfl) (fun _ _ _ h => h) (by rfl) ?_ (by assumption) ?_
            rotate_left
            · intro w hSw; (try dsimp only at hSw); go_simp; try with_reducible rfl
            try simp only [Act.put, List.setIfInBounds_toArray, List.set_cons_zero, List.set_cons_succ]
            refine takeYes 16 (some 176) (v := ?_) rfl (by kernel_rfl) (by kernel_rfl) (by kernel_rfl) (by rfl) (fun _ _ _ h => h) (by rfl) ?_ (by assumption) ?_
            rotate_left
            · intro w hSw; (try dsimp only at hSw); go_simp; try with_reducible rfl
            try simp only [Act.put, List.setIfInBounds_toArray, List.set_cons_zero, List.set_cons_succ]
            refine takeYes 17 (some 177) (v := ?_) rfl (by kernel_rfl) (by kernel_rfl) (by kernel_rfl) (by rfl) (fun _ _ _ h => h) (by rfl) ?_ (by assumption) ?_
            rotate_left
            · intro w hSw; (try dsimp only at hSw); go_simp; try with_reducible rfl
            try simp only [Act.put, List.setIfInBounds_toArray, List.set_cons_zero, List.set_cons_succ]
            refine takeYes 18 (some 178) (v := ?_) rfl (by kernel_rfl) (by kernel_rfl) (by kernel_rfl) (by rfl) (fun _ _ _ h => h) (by rfl) ?_ (by assumption) ?_
            rotate_left
            · intro w hSw; (try dsimp only at hSw); go_simp; try with_reducible rfl
            try simp only [Act.put, List.setIfInBounds_toArray, List.set_cons_zero, List.set_cons_succ]
            refine takeYes 19 (some 179) (v := ?_) rfl (by kernel_rfl) (by kernel_rfl) (by kernel_rfl) (by rfl) (fun _ _ _ h => h) (by rfl) ?_ (by assumption) ?_
            rotate_left
            · intro w hSw; (try dsimp only at hSw); go_simp; try with_reducible rfl
            try simp only [Act.put, List.setIfInBounds_toArray, List.set_cons_zero, List.set_cons_succ]
            refine takeYes 20 (some 180) (v := ?_) rfl (by kernel_rfl) (by kernel_rfl) (by kernel_rfl) (by rfl) (fun _ _ _ h => h) (by rfl) ?_ (by assumption) ?_
            rotate_left
            · intro w hSw; (try dsimp only at hSw); go_simp; try with_reducible rfl
            try simp only [Act.put, List.setIfInBounds_toArray, List.set_cons_zero, List.set_cons_succ]
            refine takeYes 21 (some 181) (v := ?_) rfl (by kernel_rfl) (by kernel_rfl) (by kernel_rfl) (by rfl) (fun _ _ _ h => h) (by rfl) ?_ (by assumption) ?_
            rotate_left
            · intro w hSw; (try dsimp only at hSw); go_simp; try with_reducible rfl
            try simp only [Act.put, List.setIfInBounds_toArray, List.set_cons_zero, List.set_cons_succ]
            refine takeYes 22 (some 182) (v := ?_) rfl (by kernel_rfl) (by kernel_rfl) (by kernel_rfl) (by rfl) (fun _ _ _ h => h) (by rfl) ?_ (by assumption) ?_
            rotate_left
            · intro w hSw; (try dsimp only at hSw); go_simp; try with_reducible rfl
            try simp only [Act.put, List.setIfInBounds_toArray, List.set_cons_zero, List.set_cons_succ]
            refine takeYes 23 (some 183) (v := ?_) rfl (by kernel_rfl) (by kernel_rfl) (by kernel_rfl) (by rfl) (fun _ _ _ h => h) (by rfl) ?_ (by assumption) ?_
            rotate_left
            · intro w hSw; (try dsimp only at hSw); go_simp; try with_reducible rfl
            try simp only [Act.put, List.setIfInBounds_toArray, List.set_cons_zero, List.set_cons_succ]
            refine wpAnyH_ready (rs := [24]) (by kernel_rfl) (by simp) ?_
            refine AllReadyH.cons rfl (fun K hK => ?_) AllReadyH.nil
            go_simp
            (go_at_call 31; refine (HEQ.out _ (by assumption)).mono ?_; rintro e wE ⟨rfl, hbE⟩; have hSE : StR w w11 (w.heap.size + 1 + 1) wE := StR.below (by assumption) hbE; have hrzE := (hbE.block _ (Array.getElem?_eq_some_iff.1 hrzd).1).trans hrzd)
            refine hK.out _ _ (by first | assumption) (fun hHeld => ?_)
            clear hK K
            try simp only [Act.put, List.setIfInBounds_toArray, List.set_cons_zero, List.set_cons_succ]
            refine takeYes 25 (some 185) (v := ?_) rfl (by kernel_rfl) (by kernel_rfl) (by kernel_rfl) (by rfl) (fun _ _ _ h => h) (by rfl) ?_ (by assumption) ?_
            rotate_left
            · intro w hSw; (try dsimp only at hSw); go_simp; try with_reducible rfl
            try simp only [Act.put, List.setIfInBounds_toArray, List.set_cons_zero, List.set_cons_succ]
            refine wpAnyH_ready (rs := [26]) (by kernel_rfl) (by simp) ?_
            refine AllReadyH.cons rfl (fun K hK => ?_) AllReadyH.nil
            obtain ⟨z0, z1, z2, zf⟩ := three hrzE
            obtain ⟨wF, hWF⟩ : ∃ Y, Y = ((wE.setCell ⟨w.heap.size + 1 + 1, 0, none⟩ (.int .i64 t.dev)).setCell ⟨w.heap.size + 1 + 1, 1, none⟩ (.int .i64 t.size)).setCell ⟨w.heap.size + 1 + 1, 2, none⟩ (.slice a t.list.length c) := ⟨_, rfl⟩
            have hSF : StR w w11 (w.heap.size + 1 + 1) wF := by rw [hWF]; exact ((hSE.set (by omega) 0 _).set (by omega) 1 _).set (by omega) 2 _
            have hrF : wF.heap[w.heap.size + 1 + 1]? = some (.cells #[.int .i64 t.dev, .int .i64 t.size, .slice a t.list.length c] 24 (0, 0)) := by rw [hWF]; exact three_set hrzE
            go_simp
            rw [← hWF]
            refine hK.out _ _ hSF (fun hHeld => ?_)
            clear hK K
            try simp only [Act.put, List.setIfInBounds_toArray, List.set_cons_zero, List.set_cons_succ]
            clear hWF z0 z1 z2 zf
            refine takeYes 27 (some 5) (v := ?_) rfl (by kernel_rfl) (by kernel_rfl) (by kernel_rfl) (by rfl) (fun _ _ _ h => h) (by rfl) ?_ (by assumption) ?_
            rotate_left
            · intro w hSw; (try dsimp only at hSw); go_simp; try with_reducible rfl
            try simp only [Act.put, List.setIfInBounds_toArray, List.set_cons_zero, List.set_cons_succ]
            refine wpAnyH_done (by kernel_rfl) ?_ _
            obtain ⟨z0, z1, z2, zf⟩ := three hrF
            go_wp2_with fail
            refine bodyPost_ret (v := .tuple #[.agg #[.int .i64 t.dev, .int .i64 t.size, .slice a t.list.length c], .bool true]) (by simp [results, Try.results10, go_sem, z0, z1, z2]) rfl ⟨⟨t, a, c, rfl, (HSE.out wF hSF).1, HTN.out, HF.out⟩, hSF.b⟩
          | some k =>
            simp only [hin, ptrV] at HLK HRK2
            generalize (t.list.getD k EZ).dev = rd at HLK HRK2
            generalize plc (t.list.getD k EZ) n = ra at HLK HRK2
            go_wp2_with fail
            refine HLK.out.mono ?_
            rintro e w5 ⟨rfl, hb5⟩
            obtain ⟨w6, hW6⟩ : ∃ Y, Y = w5.alloc (.cells #[.int .i64 rd, .int .i64 ra] 33) := ⟨_, rfl⟩
            have HB6 : Hid (Below W2.heap.size W2 w6) := by show Below _ _ _; rw [hW6]; exact nwA (nwT HB4.out hb5) _
            obtain ⟨B12, hB12⟩ : ∃ B, B = w5.heap.size := ⟨_, rfl⟩
            have h12 : w6.heap[B12]? = some (.cells #[.int .i64 rd, .int .i64 ra] 33 (0, 0)) := by rw [hW6, hB12]; exact heap_alloc_new w5 _
            have HL12 : Hid (w.heap.size + 1 + 1 < B12) := by have h1 := hb5.size; have h2 := HS4.out; have h3 := HLT.out; show _ < _; omega
            have HLB : Hid (W2.heap.size ≤ B12) := by have h1 := hb5.size; have h2 := HS4.out; show _ ≤ _; omega
            obtain ⟨i0, i1, i2, _⟩ := three (HK2.out w6 HB6.out).2.2.2.2.1
            have HLVW := HLV.out w6 HB6.out
            clear q0 q1 q2 q3 q4 hb5 HLK HLV
            go_upto_region 31 with fail
            rw [← hW6, ← hB12]
            clear hW6 hB12
            go_wp2_with fail
            refine HLVW.mono ?_
            rintro e w7 ⟨rfl, hb7⟩
            have HB7 : Hid (Below W2.heap.size W2 w7) := nwT HB6.out hb7
            have H12a : Hid (w7.heap[B12]? = some (.cells #[.int .i64 rd, .int .i64 ra] 33 (0, 0))) := (hb7.block _ (Array.getElem?_eq_some_iff.1 h12).1).trans h12
            clear i0 i1 i2 HLVW h12
            obtain ⟨w8, hW8⟩ : ∃ Y, Y = w7.alloc (.cells #[.int .i64 0, .int .i64 0] 33) := ⟨_, rfl⟩
            have HB78 : Hid (Below w7.heap.size w7 w8) := by rw [hW8]; exact nwA (nwR w7) _
            have HB8 : Hid (Below W2.heap.size W2 w8) := nwT HB7.out HB78.out
            obtain ⟨B18, hB18⟩ : ∃ B, B = w7.heap.size := ⟨_, rfl⟩
            have h18 : w8.heap[B18]? = some (.cells #[.int .i64 0, .int .i64 0] 33 (0, 0)) := by rw [hW8, hB18]; exact heap_alloc_new w7 _
            have HL18 : Hid (B12 < B18) := by rw [hB18]; exact (Array.getElem?_eq_some_iff.1 H12a.out).1
            have h12 : w8.heap[B12]? = some (.cells #[.int .i64 rd, .int .i64 ra] 33 (0, 0)) := (HB78.out.block _ (Array.getElem?_eq_some_iff.1 H12a.out).1).trans H12a.out
            obtain ⟨s0, s1, s2, _⟩ := three (HK2.out w8 HB8.out).2.1
            have HV8 := HRV2 w8 HB8.out
            clear HRV2
            go_upto_region 35 with fail
            rw [← hW8, ← hB18]
            clear hW8 hB18
            go_wp2_with fail
            refine HV8.mono ?_
            rintro e w9 ⟨rfl, hb9⟩
            have HB9 : Hid (Below W2.heap.size W2 w9) := nwT HB8.out hb9
            have h12b := (hb9.block _ (Array.getElem?_eq_some_iff.1 h12).1).trans h12
            have h18b := (hb9.block _ (Array.getElem?_eq_some_iff.1 h18).1).trans h18
            clear s0 s1 s2 HV8 hb9 h12 h18
            obtain ⟨s0, s1, s2, _⟩ := three (HK2.out w9 HB9.out).2.1
            obtain ⟨q0, q1, q2, q3, q4, _⟩ := five (HK2.out w9 HB9.out).2.2.1
            have HK9 := HRK2 w9 HB9.out
            clear HRK2
            go_wp2_with fail
            refine HK9.mono ?_
            rintro e w10 ⟨rfl, hb10⟩
            obtain ⟨w11, hW11⟩ : ∃ Y, Y = w10.alloc (.cells #[.int .i64 rd, .int .i64 ra] 33) := ⟨_, rfl⟩
            have HB10 : Hid (Below w9.heap.size w9 w11) := by rw [hW11]; exact nwA hb10 _
            have HB11 : Hid (Below W2.heap.size W2 w11) := nwT HB9.out HB10.out
            have h19 : w11.heap[w10.heap.size]? = some (.cells #[.int .i64 rd, .int .i64 ra] 33 (0, 0)) := by rw [hW11]; exact heap_alloc_new w10 _
            have HL12b : Hid (W2.heap.size ≤ B12) := HLB.out
            have h12 := (HB10.out.block _ (Array.getElem?_eq_some_iff.1 h12b).1).trans h12b
            have h18 := (HB10.out.block _ (Array.getElem?_eq_some_iff.1 h18b).1).trans h18b
            have H19L : Hid (B18 < w10.heap.size) := by have h1 := hb10.size; have h2 := (Array.getElem?_eq_some_iff.1 h18b).1; show _ < _; omega
            clear s0 s1 s2 q0 q1 q2 q3 q4 HK9 hb10 h12b h18b
            obtain ⟨y0, y1, _⟩ := two h19
            obtain ⟨u0, u1, uf⟩ := two h18
            go_upto_region 38 with fail
            rw [← hW11]
            clear hW11
            obtain ⟨w12, hW12⟩ : ∃ Y, Y = ((w11.setCell ⟨B18, 0, none⟩ (.int .i64 rd)).setCell ⟨B18, 1, none⟩ (.int .i64 ra)).drew := ⟨_, rfl⟩
            have HBX : Hid (Below W2.heap.size W2 w12) := by
              have hs := HS4.out.2
              have h1 := HL18.out
              have h2 := HL12.out
              have h3 := HL12b.out
              show Below _ _ _
              rw [hW12]; exact Below.drew ((HB11.out.setCell (p := ⟨B18, 0, none⟩) (by show W2.heap.size ≤ B18; omega) _).setCell (p := ⟨B18, 1, none⟩) (by show W2.heap.size ≤ B18; omega) _)
            have H12 : Hid (w12.heap[B12]? = some (.cells #[.int .i64 rd, .int .i64 ra] 33 (0, 0))) := by
              have h1 := HL18.out
              show _ = _
              rw [hW12]; exact (heap_setCell_other _ ⟨B18, 1, none⟩ _ _ (by show B12 ≠ B18; omega)).trans ((heap_setCell_other _ ⟨B18, 0, none⟩ _ _ (by show B12 ≠ B18; omega)).trans h12)
            have H18 : Hid (w12.heap[B18]? = some (.cells #[.int .i64 rd, .int .i64 ra] 33 (0, 0))) := by
              show _ = _
              rw [hW12]
              have h1 := heap_setCell_same w11 B18 0 _ 33 (.int .i64 rd) h18
              have h2 := heap_setCell_same _ B18 1 _ 33 (.int .i64 ra) h1
              simp at h2
              exact h2
            have HNE : Hid (B12 ≠ (w.heap.size + 1 + 1) ∧ B18 ≠ (w.heap.size + 1 + 1)) := by have h1 := HL12.out; have h2 := HL18.out; show _ ∧ _; omega
            clear h12 h18 h19 hin
            go_region
            all_goals
              go_upto_region 39 with fail
              rw [← hW12]
              clear hW12 y0 y1 u0 u1 uf
              have hSX : StR w w12 (w.heap.size + 1 + 1) w12 := StR.start (HK2.out w12 HBX.out).1
              have kt : ∀ w', StR w w12 (w.heap.size + 1 + 1) w' → w'.heap[w.heap.size]? = some (.cells #[.int .i64 t.dev, .int .i64 t.size, .slice a t.list.length c] 24 (0, 0)) := fun w' h => h.at (HK2.out w12 HBX.out).2.1 (by omega)
              have ki : ∀ w', StR w w12 (w.heap.size + 1 + 1) w' → w'.heap[B6]? = some (.cells #[.int .i64 t.dev, .int .i64 t.size, .slice ai t.list.length ci] 24 (0, 0)) := fun w' h => h.at (HK2.out w12 HBX.out).2.2.2.2.1 (by have := HLT.out.1; omega)
              have kt0 : ∀ w', StR w w12 (w.heap.size + 1 + 1) w' → w'.cell? ⟨w.heap.size, 0, none⟩ = some (.int .i64 t.dev) := fun w' h => (three (kt w' h)).1
              have kt1 : ∀ w', StR w w12 (w.heap.size + 1 + 1) w' → w'.cell? ⟨w.heap.size, 1, none⟩ = some (.int .i64 t.size) := fun w' h => (three (kt w' h)).2.1
              have kt2 : ∀ w', StR w w12 (w.heap.size + 1 + 1) w' → w'.cell? ⟨w.heap.size, 2, none⟩ = some (.slice a t.list.length c) := fun w' h => (three (kt w' h)).2.2.1
              have ki0 : ∀ w', StR w w12 (w.heap.size + 1 + 1) w' → w'.cell? ⟨B6, 0, none⟩ = some (.int .i64 t.dev) := fun w' h => (three (ki w' h)).1
              have ki1 : ∀ w', StR w w12 (w.heap.size + 1 + 1) w' → w'.cell? ⟨B6, 1, none⟩ = some (.int .i64 t.size) := fun w' h => (three (ki w' h)).2.1
              have ki2 : ∀ w', StR w w12 (w.heap.size + 1 + 1) w' → w'.cell? ⟨B6, 2, none⟩ = some (.slice ai t.list.length ci) := fun w' h => (three (ki w' h)).2.2.1
              have HSE : Hid (∀ w', StR w w12 (w.heap.size + 1 + 1) w' → EntsAt w' a t.list ∧ EntsAt w' ai t.list) := fun w' h => ⟨h.ents (HK2.out w12 HBX.out).2.2.2.2.2.1 (fun hn b hb => by have := HTB.out hn b hb; omega), h.ents (HK2.out w12 HBX.out).2.2.2.2.2.2 (fun hn b hb => by have := HIB.out hn b hb; have := HSZ.out; omega)⟩
              have HEQ : Hid (∀ w', StR w w12 (w.heap.size + 1 + 1) w' → Calls Try.prog 31 #[.agg #[.int .i64 t.dev, .int .i64 t.size, .slice ai t.list.length ci], .agg #[.int .i64 t.dev, .int .i64 t.size, .slice a t.list.length c]] w' fun e w'' => e = .returned (.bool true) ∧ Below w'.heap.size w' w'') := fun w' h => by
                have := eqTab_any _ _ t t w' ⟨ai, ci, rfl, (HSE.out w' h).2, HIN.out⟩ ⟨a, c, rfl, (HSE.out w' h).1, HTN.out⟩ HF.out.1.len
                rwa [decide_eq_true rfl] at this
              have hrz := (HK2.out w12 HBX.out).2.2.2.1
              clear kt ki
              have k12a : ∀ w', StR w w12 (w.heap.size + 1 + 1) w' → w'.cell? ⟨B12, 0, none⟩ = some (.int .i64 rd) := fun w' h => (two (h.at H12.out HNE.out.1)).1
              have k12b : ∀ w', StR w w12 (w.heap.size + 1 + 1) w' → w'.cell? ⟨B12, 1, none⟩ = some (.int .i64 ra) := fun w' h => (two (h.at H12.out HNE.out.1)).2.1
              have k18a : ∀ w', StR w w12 (w.heap.size + 1 + 1) w' → w'.cell? ⟨B18, 0, none⟩ = some (.int .i64 rd) := fun w' h => (two (h.at H18.out HNE.out.2)).1
              have k18b : ∀ w', StR w w12 (w.heap.size + 1 + 1) w' → w'.cell? ⟨B18, 1, none⟩ = some (.int .i64 ra) := fun w' h => (two (h.at H18.out HNE.out.2)).2.1
              have hb1 : (rd == rd) = true := beq_self_eq_true _
              have hb2 : (ra == ra) = true := beq_self_eq_true _
              refine wp_region_held_drew (S := fun w' => StR w w12 (w.heap.size + 1 + 1) w') (by kernel_rfl) (by exact StR.drew hSX) (fun hHeld => ?_)
              have hrzd : (World.drew w12).heap[w.heap.size + 1 + 1]? = some (.cells #[.int .i64 0, .int .i64 0, .slice none 0 0] 24 (0, 0)) := hrz
              generalize World.drew w12 = wd at hHeld hrzd ⊢
              refine takeYes 0 (some 160) (v := ?_) rfl (by kernel_rfl) (by kernel_rfl) (by kernel_rfl) (by rfl) (fun _ _ _ h => h) (by rfl) ?_ (by assumption) ?_
              rotate_left
              · intro w hSw; (try dsimp only at hSw); go_simp; try with_reducible rfl
              try simp only [Act.put, List.setIfInBounds_toArray, List.set_cons_zero, List.set_cons_succ]
              refine takeYes 1 (some 161) (v := ?_) rfl (by kernel_rfl) (by kernel_rfl) (by kernel_rfl) (by rfl) (fun _ _ _ h => h) (by rfl) ?_ (by assumption) ?_
              rotate_left
              · intro w hSw; (try dsimp only at hSw); go_simp; try with_reducible rfl
              try simp only [Act.put, List.setIfInBounds_toArray, List.set_cons_zero, List.set_cons_succ]
              refine takeYes 3 (some 163) (v := ?_) rfl (by kernel_rfl) (by kernel_rfl) (by kernel_rfl) (by rfl) (fun _ _ _ h => h) (by rfl) ?_ (by assumption) ?_
              rotate_left
              · intro w hSw; (try dsimp only at hSw); go_simp; try with_reducible rfl
              try simp only [Act.put, List.setIfInBounds_toArray, List.set_cons_zero, List.set_cons_succ]
              refine wpAnyH_ready (rs := [2]) (by kernel_rfl) (by simp) ?_
              refine AllReadyH.cons rfl (fun K hK => ?_) AllReadyH.nil
              go_simp
              (go_at_call 14; refine (errnum_w _ _).mono ?_; rintro e wN ⟨rfl, rfl⟩)
              refine hK.out _ _ (by first | assumption) (fun hHeld => ?_)
              clear hK K
              try simp only [Act.put, List.setIfInBounds_toArray, List.set_cons_zero, List.set_cons_succ]
              refine takeYes 4 (some 164) (v := ?_) rfl (by kernel_rfl) (by kernel_rfl) (by kernel_rfl) (by rfl) (fun _ _ _ h => h) (by rfl) ?_ (by assumption) ?_
              rotate_left
              · intro w hSw; (try dsimp only at hSw); go_simp; try with_reducible rfl
              try simp only [Act.put, List.setIfInBounds_toArray, List.set_cons_zero, List.set_cons_succ]
              refine takeYes 5 (some 165) (v := ?_) rfl (by kernel_rfl) (by kernel_rfl) (by kernel_rfl) (by rfl) (fun _ _ _ h => h) (by rfl) ?_ (by assumption) ?_
              rotate_left
              · intro w hSw; (try dsimp only at hSw); go_simp; try with_reducible rfl
              try simp only [Act.put, List.setIfInBounds_toArray, List.set_cons_zero, List.set_cons_succ]
              refine takeYes 6 (some 166) (v := ?_) rfl (by kernel_rfl) (by kernel_rfl) (by kernel_rfl) (by rfl) (fun _ _ _ h => h) (by rfl) ?_ (by assumption) ?_
              rotate_left
              · intro w hSw; (try dsimp only at hSw); go_simp; try with_reducible rfl
              try simp only [Act.put, List.setIfInBounds_toArray, List.set_cons_zero, List.set_cons_succ]
              refine takeYes 7 (some 167) (v := ?_) rfl (by kernel_rfl) (by kernel_rfl) (by kernel_rfl) (by rfl) (fun _ _ _ h => h) (by rfl) ?_ (by assumption) ?_
              rotate_left
              · intro w hSw; (try dsimp only at hSw); go_simp; try with_reducible rfl
              try simp only [Act.put, List.setIfInBounds_toArray, List.set_cons_zero, List.set_cons_succ]
              refine takeYes 8 (some 168) (v := ?_) rfl (by kernel_rfl) (by kernel_rfl) (by kernel_rfl) (by rfl) (fun _ _ _ h => h) (by rfl) ?_ (by assumption) ?_
              rotate_left
              · intro w hSw; (try dsimp only at hSw); go_simp; try with_reducible rfl
              try simp only [Act.put, List.setIfInBounds_toArray, List.set_cons_zero, List.set_cons_succ]
              refine takeYes 9 (some 169) (v := ?_) rfl (by kernel_rfl) (by kernel_rfl) (by kernel_rfl) (by rfl) (fun _ _ _ h => h) (by rfl) ?_ (by assumption) ?_
              rotate_left
              · intro w hSw; (try dsimp only at hSw); go_simp; try with_reducible rfl
              try simp only [Act.put, List.setIfInBounds_toArray, List.set_cons_zero, List.set_cons_succ]
              refine takeYes 10 (some 170) (v := ?_) rfl (by kernel_rfl) (by kernel_rfl) (by kernel_rfl) (by rfl) (fun _ _ _ h => h) (by rfl) ?_ (by assumption) ?_
              rotate_left
              · intro w hSw; (try dsimp only at hSw); go_simp; try with_reducible rfl
              try simp only [Act.put, List.setIfInBounds_toArray, List.set_cons_zero, List.set_cons_succ]
              refine takeYes 11 (some 171) (v := ?_) rfl (by kernel_rfl) (by kernel_rfl) (by kernel_rfl) (by rfl) (fun _ _ _ h => h) (by rfl) ?_ (by assumption) ?_
              rotate_left
              · intro w hSw; (try dsimp only at hSw); go_simp; try with_reducible rfl
              try simp only [Act.put, List.setIfInBounds_toArray, List.set_cons_zero, List.set_cons_succ]
              refine takeYes 13 (some 173) (v := ?_) rfl (by kernel_rfl) (by kernel_rfl) (by kernel_rfl) (by rfl) (fun _ _ _ h => h) (by rfl) ?_ (by assumption) ?_
              rotate_left
              · intro w hSw; (try dsimp only at hSw); go_simp; try with_reducible rfl
              try simp only [Act.put, List.setIfInBounds_toArray, List.set_cons_zero, List.set_cons_succ]
              refine wpAnyH_ready (rs := [12]) (by kernel_rfl) (by simp) ?_
              refine AllReadyH.cons rfl (fun K hK => ?_) AllReadyH.nil
              go_simp
              (go_at_call 14; refine (errnum_w _ _).mono ?_; rintro e wN ⟨rfl, rfl⟩)
              refine hK.out _ _ (by first | assumption) (fun hHeld => ?_)
              clear hK K
              try simp only [Act.put, List.setIfInBounds_toArray, List.set_cons_zero, List.set_cons_succ]
              refine takeYes 14 (some 174) (v := ?_) rfl (by kernel_rfl) (by kernel_rfl) (by kernel_rfl) (by rfl) (fun _ _ _ h => h) (by rfl) ?_ (by assumption) ?_
              rotate_left
              · intro w hSw; (try dsimp only at hSw); go_simp; try with_reducible rfl
              try simp only [Act.put, List.setIfInBounds_toArray, List.set_cons_zero, List.set_cons_succ]
              refine takeYes 15 (some 175) (v := ?_) rfl (by kernel_rfl) (by kernel_rfl) (by kernel_rfl) (by rfl) (fun _ _ _ h => h) (by rfl) ?_ (by assumption) ?_
              rotate_left
              · intro w hSw; (try dsimp only at hSw); go_simp; try with_reducible rfl
              try simp only [Act.put, List.setIfInBounds_toArray, List.set_cons_zero, List.set_cons_succ]
              refine takeYes 16 (some 176) (v := ?_) rfl (by kernel_rfl) (by kernel_rfl) (by kernel_rfl) (by rfl) (fun _ _ _ h => h) (by rfl) ?_ (by assumption) ?_
              rotate_left
              · intro w hSw; (try dsimp only at hSw); go_simp; try with_reducible rfl
              try simp only [Act.put, List.setIfInBounds_toArray, List.set_cons_zero, List.set_cons_succ]
              refine takeYes 17 (some 177) (v := ?_) rfl (by kernel_rfl) (by kernel_rfl) (by kernel_rfl) (by rfl) (fun _ _ _ h => h) (by rfl) ?_ (by assumption) ?_
              rotate_left
              · intro w hSw; (try dsimp only at hSw); go_simp; try with_reducible rfl
              try simp only [Act.put, List.setIfInBounds_toArray, List.set_cons_zero, List.set_cons_succ]
              refine takeYes 18 (some 178) (v := ?_) rfl (by kernel_rfl) (by kernel_rfl) (by kernel_rfl) (by rfl) (fun _ _ _ h => h) (by rfl) ?_ (by assumption) ?_
              rotate_left
              · intro w hSw; (try dsimp only at hSw); go_simp; try with_reducible rfl
              try simp only [Act.put, List.setIfInBounds_toArray, List.set_cons_zero, List.set_cons_succ]
              refine takeYes 19 (some 179) (v := ?_) rfl (by kernel_rfl) (by kernel_rfl) (by kernel_rfl) (by rfl) (fun _ _ _ h => h) (by rfl) ?_ (by assumption) ?_
              rotate_left
              · intro w hSw; (try dsimp only at hSw); go_simp; try with_reducible rfl
              try simp only [Act.put, List.setIfInBounds_toArray, List.set_cons_zero, List.set_cons_succ]
              refine takeYes 20 (some 180) (v := ?_) rfl (by kernel_rfl) (by kernel_rfl) (by kernel_rfl) (by rfl) (fun _ _ _ h => h) (by rfl) ?_ (by assumption) ?_
              rotate_left
              · intro w hSw; (try dsimp only at hSw); go_simp; try with_reducible rfl
              try simp only [Act.put, List.setIfInBounds_toArray, List.set_cons_zero, List.set_cons_succ]
              refine takeYes 21 (some 181) (v := ?_) rfl (by kernel_rfl) (by kernel_rfl) (by kernel_rfl) (by rfl) (fun _ _ _ h => h) (by rfl) ?_ (by assumption) ?_
              rotate_left
              · intro w hSw; (try dsimp only at hSw); go_simp; try with_reducible rfl
              try simp only [Act.put, List.setIfInBounds_toArray, List.set_cons_zero, List.set_cons_succ]
              refine takeYes 22 (some 182) (v := ?_) rfl (by kernel_rfl) (by kernel_rfl) (by kernel_rfl) (by rfl) (fun _ _ _ h => h) (by rfl) ?_ (by assumption) ?_
              rotate_left
              · intro w hSw; (try dsimp only at hSw); go_simp; try with_reducible rfl
              try simp only [Act.put, List.setIfInBounds_toArray, List.set_cons_zero, List.set_cons_succ]
              refine takeYes 23 (some 183) (v := ?_) rfl (by kernel_rfl) (by kernel_rfl) (by kernel_rfl) (by rfl) (fun _ _ _ h => h) (by rfl) ?_ (by assumption) ?_
              rotate_left
              · intro w hSw; (try dsimp only at hSw); go_simp; try with_reducible rfl
              try simp only [Act.put, List.setIfInBounds_toArray, List.set_cons_zero, List.set_cons_succ]
              refine wpAnyH_ready (rs := [24]) (by kernel_rfl) (by simp) ?_
              refine AllReadyH.cons rfl (fun K hK => ?_) AllReadyH.nil
              go_simp
              (go_at_call 31; refine (HEQ.out _ (by assumption)).mono ?_; rintro e wE ⟨rfl, hbE⟩; have hSE : StR w w12 (w.heap.size + 1 + 1) wE := StR.below (by assumption) hbE; have hrzE := (hbE.block _ (Array.getElem?_eq_some_iff.1 hrzd).1).trans hrzd)
              refine hK.out _ _ (by first | assumption) (fun hHeld => ?_)
              clear hK K
              try simp only [Act.put, List.setIfInBounds_toArray, List.set_cons_zero, List.set_cons_succ]
              refine takeYes 25 (some 185) (v := ?_) rfl (by kernel_rfl) (by kernel_rfl) (by kernel_rfl) (by rfl) (fun _ _ _ h => h) (by rfl) ?_ (by assumption) ?_
              rotate_left
              · intro w hSw; (try dsimp only at hSw); go_simp; try with_reducible rfl
              try simp only [Act.put, List.setIfInBounds_toArray, List.set_cons_zero, List.set_cons_succ]
              refine wpAnyH_ready (rs := [26]) (by kernel_rfl) (by simp) ?_
              refine AllReadyH.cons rfl (fun K hK => ?_) AllReadyH.nil
              obtain ⟨z0, z1, z2, zf⟩ := three hrzE
              obtain ⟨wF, hWF⟩ : ∃ Y, Y = ((wE.setCell ⟨w.heap.size + 1 + 1, 0, none⟩ (.int .i64 t.dev)).setCell ⟨w.heap.size + 1 + 1, 1, none⟩ (.int .i64 t.size)).setCell ⟨w.heap.size + 1 + 1, 2, none⟩ (.slice a t.list.length c) := ⟨_, rfl⟩
              have hSF : StR w w12 (w.heap.size + 1 + 1) wF := by rw [hWF]; exact ((hSE.set (by omega) 0 _).set (by omega) 1 _).set (by omega) 2 _
              have hrF : wF.heap[w.heap.size + 1 + 1]? = some (.cells #[.int .i64 t.dev, .int .i64 t.size, .slice a t.list.length c] 24 (0, 0)) := by rw [hWF]; exact three_set hrzE
              go_simp
              rw [← hWF]
              refine hK.out _ _ hSF (fun hHeld => ?_)
              clear hK K
              try simp only [Act.put, List.setIfInBounds_toArray, List.set_cons_zero, List.set_cons_succ]
              clear hWF z0 z1 z2 zf
              refine takeYes 27 (some 5) (v := ?_) rfl (by kernel_rfl) (by kernel_rfl) (by kernel_rfl) (by rfl) (fun _ _ _ h => h) (by rfl) ?_ (by assumption) ?_
              rotate_left
              · intro w hSw; (try dsimp only at hSw); go_simp; try with_reducible rfl
              try simp only [Act.put, List.setIfInBounds_toArray, List.set_cons_zero, List.set_cons_succ]
              refine wpAnyH_done (by kernel_rfl) ?_ _
              obtain ⟨z0, z1, z2, zf⟩ := three hrF
              go_wp2_with fail
              refine bodyPost_ret (v := .tuple #[.agg #[.int .i64 t.dev, .int .i64 t.size, .slice a t.list.length c], .bool true]) (by simp [results, Try.results10, go_sem, z0, z1, z2]) rfl ⟨⟨t, a, c, rfl, (HSE.out wF hSF).1, HTN.out, HF.out⟩, hSF.b⟩
    iterate 1
      · as_aux_lemma =>
          have HRG : Hid (Calls Try.prog 15 #[.agg #[.int .i64 t.dev, .int .i64 t.size, .slice ai t.list.length ci], .int .i64 n, .int .i64 m] W4 fun e w' => RangeR t n m W4.heap.size e w' ∧ Below W4.heap.size W4 w') := range_any _ t n m W4 ⟨ai, ci, rfl, (HK2.out W4 HB4.out).2.2.2.2.2.2, HIN.out⟩ HF.out.1 HA.out.1
          have HRQ : Hid (tokB t = true → 0 ≤ m → m ≤ 64 → ∀ w', Below W2.heap.size W2 w' → Calls Try.prog 33 #[.agg #[.int .i64 t.dev, .int .i64 t.size, .slice a t.list.length c], .int .i64 n, .int .i64 m] w' fun e w'' => (∃ u, e = .returned u ∧ OwnEnts w'' w'.heap.size u (rngQ t.list n m)) ∧ Below w'.heap.size w' w'') := fun h hm0 hm1 w' hb => rrange_any _ t n m w' ⟨a, c, rfl, (HK2.out w' hb).2.2.2.2.2.1, HTN.out⟩ HF.out.1.len (fun i hi => by have hT := tok_iff.1 h; have h1 := hT.inE hi; have h2 := hT.s1; have h3 := h1.fl; exact ⟨h1.f0, h1.l0, by omega, h1.t0, h1.tl, h1.d0, h1.d1, h1.dn, h1.s0, h1.sl⟩) HA.out.1 hm0 hm1
          obtain ⟨q0, q1, q2, q3, q4, _⟩ := five (HK2.out W4 HB4.out).2.2.1
          obtain ⟨i0, i1, i2, _⟩ := three (HK2.out W4 HB4.out).2.2.2.2.1
          go_wp2_with fail
          refine HRG.out.mono ?_
          rintro e w5 ⟨hR, hb5⟩
          have HB5 : Hid (Below W2.heap.size W2 w5) := nwT HB4.out hb5
          clear q0 q1 q2 q3 q4 i0 i1 i2 HRG
          rcases hR with ⟨hno, rfl⟩ | ⟨⟨hok, hm0, hm1⟩, v, rfl, ho⟩
          · have HNO : Hid (tokB t = false ∨ m < 0 ∨ 64 < m) := hno
            clear hno HRQ
            cases may
            case false =>
              have HBX : Hid (Below W2.heap.size W2 w5) := HB5.out
              go_upto_region 11 with fail
              have HES : Hid (∀ w', StR w w5 (w.heap.size + 1 + 1) w' → Calls Try.prog 34 #[.slice none 0 0, .slice none 0 0] w' fun e w'' => e = .returned (.bool true) ∧ Below w'.heap.size w' w'') := fun w' h => by
                have := eqEnts_any none none [] [] 0 0 w' (.inl rfl) (.inl rfl) (by simp)
                rwa [decide_eq_true rfl] at this
              have hSX : StR w w5 (w.heap.size + 1 + 1) w5 := StR.start (HK2.out w5 HBX.out).1
              have kt : ∀ w', StR w w5 (w.heap.size + 1 + 1) w' → w'.heap[w.heap.size]? = some (.cells #[.int .i64 t.dev, .int .i64 t.size, .slice a t.list.length c] 24 (0, 0)) := fun w' h => h.at (HK2.out w5 HBX.out).2.1 (by omega)
              have ki : ∀ w', StR w w5 (w.heap.size + 1 + 1) w' → w'.heap[B6]? = some (.cells #[.int .i64 t.dev, .int .i64 t.size, .slice ai t.list.length ci] 24 (0, 0)) := fun w' h => h.at (HK2.out w5 HBX.out).2.2.2.2.1 (by have := HLT.out.1; omega)
              have kt0 : ∀ w', StR w w5 (w.heap.size + 1 + 1) w' → w'.cell? ⟨w.heap.size, 0, none⟩ = some (.int .i64 t.dev) := fun w' h => (three (kt w' h)).1
              have kt1 : ∀ w', StR w w5 (w.heap.size + 1 + 1) w' → w'.cell? ⟨w.heap.size, 1, none⟩ = some (.int .i64 t.size) := fun w' h => (three (kt w' h)).2.1
              have kt2 : ∀ w', StR w w5 (w.heap.size + 1 + 1) w' → w'.cell? ⟨w.heap.size, 2, none⟩ = some (.slice a t.list.length c) := fun w' h => (three (kt w' h)).2.2.1
              have ki0 : ∀ w', StR w w5 (w.heap.size + 1 + 1) w' → w'.cell? ⟨B6, 0, none⟩ = some (.int .i64 t.dev) := fun w' h => (three (ki w' h)).1
              have ki1 : ∀ w', StR w w5 (w.heap.size + 1 + 1) w' → w'.cell? ⟨B6, 1, none⟩ = some (.int .i64 t.size) := fun w' h => (three (ki w' h)).2.1
              have ki2 : ∀ w', StR w w5 (w.heap.size + 1 + 1) w' → w'.cell? ⟨B6, 2, none⟩ = some (.slice ai t.list.length ci) := fun w' h => (three (ki w' h)).2.2.1
              have HSE : Hid (∀ w', StR w w5 (w.heap.size + 1 + 1) w' → EntsAt w' a t.list ∧ EntsAt w' ai t.list) := fun w' h => ⟨h.ents (HK2.out w5 HBX.out).2.2.2.2.2.1 (fun hn b hb => by have := HTB.out hn b hb; omega), h.ents (HK2.out w5 HBX.out).2.2.2.2.2.2 (fun hn b hb => by have := HIB.out hn b hb; have := HSZ.out; omega)⟩
              have HEQ : Hid (∀ w', StR w w5 (w.heap.size + 1 + 1) w' → Calls Try.prog 31 #[.agg #[.int .i64 t.dev, .int .i64 t.size, .slice ai t.list.length ci], .agg #[.int .i64 t.dev, .int .i64 t.size, .slice a t.list.length c]] w' fun e w'' => e = .returned (.bool true) ∧ Below w'.heap.size w' w'') := fun w' h => by
                have := eqTab_any _ _ t t w' ⟨ai, ci, rfl, (HSE.out w' h).2, HIN.out⟩ ⟨a, c, rfl, (HSE.out w' h).1, HTN.out⟩ HF.out.1.len
                rwa [decide_eq_true rfl] at this
              have hrz := (HK2.out w5 HBX.out).2.2.2.1
              clear kt ki
              refine wp_region_held_drew (S := fun w' => StR w w5 (w.heap.size + 1 + 1) w') (by kernel_rfl) (by exact StR.drew hSX) (fun hHeld => ?_)
              have hrzd : (World.drew w5).heap[w.heap.size + 1 + 1]? = some (.cells #[.int .i64 0, .int .i64 0, .slice none 0 0] 24 (0, 0)) := hrz
              generalize World.drew w5 = wd at hHeld hrzd ⊢
              refine takeYes 0 (some 52) (v := ?_) rfl (by kernel_rfl) (by kernel_rfl) (by kernel_rfl) (by rfl) (fun _ _ _ h => h) (by rfl) ?_ (by assumption) ?_
              rotate_left
              · intro w hSw; (try dsimp only at hSw); go_simp; try with_reducible rfl
              try simp only [Act.put, List.setIfInBounds_toArray, List.set_cons_zero, List.set_cons_succ]
              refine takeYes 1 (some 53) (v := ?_) rfl (by kernel_rfl) (by kernel_rfl) (by kernel_rfl) (by rfl) (fun _ _ _ h => h) (by rfl) ?_ (by assumption) ?_
              rotate_left
              · intro w hSw; (try dsimp only at hSw); go_simp; try with_reducible rfl
              try simp only [Act.put, List.setIfInBounds_toArray, List.set_cons_zero, List.set_cons_succ]
              refine takeYes 3 (some 55) (v := ?_) rfl (by kernel_rfl) (by kernel_rfl) (by kernel_rfl) (by rfl) (fun _ _ _ h => h) (by rfl) ?_ (by assumption) ?_
              rotate_left
              · intro w hSw; (try dsimp only at hSw); go_simp; try with_reducible rfl
              try simp only [Act.put, List.setIfInBounds_toArray, List.set_cons_zero, List.set_cons_succ]
              refine wpAnyH_ready (rs := [2]) (by kernel_rfl) (by simp) ?_
              refine AllReadyH.cons rfl (fun K hK => ?_) AllReadyH.nil
              go_simp
              (go_at_call 14; refine (errnum_w _ _).mono ?_; rintro e wN ⟨rfl, rfl⟩)
              refine hK.out _ _ (by first | assumption) (fun hHeld => ?_)
              clear hK K
              try simp only [Act.put, List.setIfInBounds_toArray, List.set_cons_zero, List.set_cons_succ]
              refine takeYes 4 (some 56) (v := ?_) rfl (by kernel_rfl) (by kernel_rfl) (by kernel_rfl) (by rfl) (fun _ _ _ h => h) (by rfl) ?_ (by assumption) ?_
              rotate_left
              · intro w hSw; (try dsimp only at hSw); go_simp; try with_reducible rfl
              try simp only [Act.put, List.setIfInBounds_toArray, List.set_cons_zero, List.set_cons_succ]
              refine takeYes 5 (some 57) (v := ?_) rfl (by kernel_rfl) (by kernel_rfl) (by kernel_rfl) (by rfl) (fun _ _ _ h => h) (by rfl) ?_ (by assumption) ?_
              rotate_left
              · intro w hSw; (try dsimp only at hSw); go_simp; try with_reducible rfl
              try simp only [Act.put, List.setIfInBounds_toArray, List.set_cons_zero, List.set_cons_succ]
              refine takeYes 6 (some 58) (v := ?_) rfl (by kernel_rfl) (by kernel_rfl) (by kernel_rfl) (by rfl) (fun _ _ _ h => h) (by rfl) ?_ (by assumption) ?_
              rotate_left
              · intro w hSw; (try dsimp only at hSw); go_simp; try with_reducible rfl
              try simp only [Act.put, List.setIfInBounds_toArray, List.set_cons_zero, List.set_cons_succ]
              refine takeYes 7 (some 59) (v := ?_) rfl (by kernel_rfl) (by kernel_rfl) (by kernel_rfl) (by rfl) (fun _ _ _ h => h) (by rfl) ?_ (by assumption) ?_
              rotate_left
              · intro w hSw; (try dsimp only at hSw); go_simp; try with_reducible rfl
              try simp only [Act.put, List.setIfInBounds_toArray, List.set_cons_zero, List.set_cons_succ]
              refine wpAnyH_ready (rs := [8]) (by kernel_rfl) (by simp) ?_
              refine AllReadyH.cons rfl (fun K hK => ?_) AllReadyH.nil
              go_simp
              (go_at_call 34; refine (HES.out _ (by assumption)).mono ?_; rintro e wL ⟨rfl, hbL⟩; have hSL : StR w w5 (w.heap.size + 1 + 1) wL := StR.below (by assumption) hbL; have hrzL := (hbL.block _ (Array.getElem?_eq_some_iff.1 hrzd).1).trans hrzd)
              refine hK.out _ _ (by first | assumption) (fun hHeld => ?_)
              clear hK K
              try simp only [Act.put, List.setIfInBounds_toArray, List.set_cons_zero, List.set_cons_succ]
              refine takeYes 9 (some 61) (v := ?_) rfl (by kernel_rfl) (by kernel_rfl) (by kernel_rfl) (by rfl) (fun _ _ _ h => h) (by rfl) ?_ (by assumption) ?_
              rotate_left
              · intro w hSw; (try dsimp only at hSw); go_simp; try with_reducible rfl
              try simp only [Act.put, List.setIfInBounds_toArray, List.set_cons_zero, List.set_cons_succ]
              refine takeYes 10 (some 62) (v := ?_) rfl (by kernel_rfl) (by kernel_rfl) (by kernel_rfl) (by rfl) (fun _ _ _ h => h) (by rfl) ?_ (by assumption) ?_
              rotate_left
              · intro w hSw; (try dsimp only at hSw); go_simp; try with_reducible rfl
              try simp only [Act.put, List.setIfInBounds_toArray, List.set_cons_zero, List.set_cons_succ]
              refine takeYes 11 (some 63) (v := ?_) rfl (by kernel_rfl) (by kernel_rfl) (by kernel_rfl) (by rfl) (fun _ _ _ h => h) (by rfl) ?_ (by assumption) ?_
              rotate_left
              · intro w hSw; (try dsimp only at hSw); go_simp; try with_reducible rfl
              try simp only [Act.put, List.setIfInBounds_toArray, List.set_cons_zero, List.set_cons_succ]
              refine takeYes 12 (some 64) (v := ?_) rfl (by kernel_rfl) (by kernel_rfl) (by kernel_rfl) (by rfl) (fun _ _ _ h => h) (by rfl) ?_ (by assumption) ?_
              rotate_left
              · intro w hSw; (try dsimp only at hSw); go_simp; try with_reducible rfl
              try simp only [Act.put, List.setIfInBounds_toArray, List.set_cons_zero, List.set_cons_succ]
              refine wpAnyH_ready (rs := [13]) (by kernel_rfl) (by simp) ?_
              refine AllReadyH.cons rfl (fun K hK => ?_) AllReadyH.nil
              go_simp
              (go_at_call 31; refine (HEQ.out _ (by assumption)).mono ?_; rintro e wE ⟨rfl, hbE⟩; have hSE : StR w w5 (w.heap.size + 1 + 1) wE := StR.below (by assumption) hbE; have hrzE := (hbE.block _ (Array.getElem?_eq_some_iff.1 hrzL).1).trans hrzL)
              refine hK.out _ _ (by first | assumption) (fun hHeld => ?_)
              clear hK K
              try simp only [Act.put, List.setIfInBounds_toArray, List.set_cons_zero, List.set_cons_succ]
              refine takeYes 14 (some 66) (v := ?_) rfl (by kernel_rfl) (by kernel_rfl) (by kernel_rfl) (by rfl) (fun _ _ _ h => h) (by rfl) ?_ (by assumption) ?_
              rotate_left
              · intro w hSw; (try dsimp only at hSw); go_simp; try with_reducible rfl
              try simp only [Act.put, List.setIfInBounds_toArray, List.set_cons_zero, List.set_cons_succ]
              refine wpAnyH_ready (rs := [15]) (by kernel_rfl) (by simp) ?_
              refine AllReadyH.cons rfl (fun K hK => ?_) AllReadyH.nil
              obtain ⟨z0, z1, z2, zf⟩ := three hrzE
              obtain ⟨wF, hWF⟩ : ∃ Y, Y = ((wE.setCell ⟨w.heap.size + 1 + 1, 0, none⟩ (.int .i64 t.dev)).setCell ⟨w.heap.size + 1 + 1, 1, none⟩ (.int .i64 t.size)).setCell ⟨w.heap.size + 1 + 1, 2, none⟩ (.slice a t.list.length c) := ⟨_, rfl⟩
              have hSF : StR w w5 (w.heap.size + 1 + 1) wF := by rw [hWF]; exact ((hSE.set (by omega) 0 _).set (by omega) 1 _).set (by omega) 2 _
              have hrF : wF.heap[w.heap.size + 1 + 1]? = some (.cells #[.int .i64 t.dev, .int .i64 t.size, .slice a t.list.length c] 24 (0, 0)) := by rw [hWF]; exact three_set hrzE
              go_simp
              rw [← hWF]
              refine hK.out _ _ hSF (fun hHeld => ?_)
              clear hK K
              try simp only [Act.put, List.setIfInBounds_toArray, List.set_cons_zero, List.set_cons_succ]
              clear hWF z0 z1 z2 zf
              refine takeYes 16 (some 5) (v := ?_) rfl (by kernel_rfl) (by kernel_rfl) (by kernel_rfl) (by rfl) (fun _ _ _ h => h) (by rfl) ?_ (by assumption) ?_
              rotate_left
              · intro w hSw; (try dsimp only at hSw); go_simp; try with_reducible rfl
              try simp only [Act.put, List.setIfInBounds_toArray, List.set_cons_zero, List.set_cons_succ]
              refine wpAnyH_done (by kernel_rfl) ?_ _
              obtain ⟨z0, z1, z2, zf⟩ := three hrF
              go_wp2_with fail
              refine bodyPost_ret (v := .tuple #[.agg #[.int .i64 t.dev, .int .i64 t.size, .slice a t.list.length c], .bool true]) (by simp [results, Try.results10, go_sem, z0, z1, z2]) rfl ⟨⟨t, a, c, rfl, (HSE.out wF hSF).1, HTN.out, HF.out⟩, hSF.b⟩
            case true =>
            have hnum : numB m 64 = false := by
              have hm : m < 0 ∨ 64 < m := by
                rcases HNO.out with h | h
                · rw [HMAY.out] at h; cases h
                · exact h
              unfold numB
              rcases hm with h | h
              · rw [decide_eq_false (by omega)]; rfl
              · rw [show decide (m ≤ 64) = false from decide_eq_false (by omega)]; simp
            have HNM : Hid (Calls Try.prog 32 #[.int .i64 m, .int .i64 64] w5 fun e w' => e = .returned (.bool false) ∧ w' = w5) := by have := num2_any m 64 w5; rwa [hnum] at this
            obtain ⟨q0, q1, q2, q3, q4, _⟩ := five (HK2.out w5 HB5.out).2.2.1
            clear hnum
            go_upto_region 9 with fail
            go_wp2_with fail
            refine (HNM.out.mono fun _ _ h => (⟨h.1, h.2.symm⟩ : _ ∧ w5 = _)).mono ?_
            rintro e wN ⟨rfl, rfl⟩
            clear q0 q1 q2 q3 q4 HNM
            have HBX : Hid (Below W2.heap.size W2 w5) := HB5.out
            go_upto_region 11 with fail
            have HES : Hid (∀ w', StR w w5 (w.heap.size + 1 + 1) w' → Calls Try.prog 34 #[.slice none 0 0, .slice none 0 0] w' fun e w'' => e = .returned (.bool true) ∧ Below w'.heap.size w' w'') := fun w' h => by
              have := eqEnts_any none none [] [] 0 0 w' (.inl rfl) (.inl rfl) (by simp)
              rwa [decide_eq_true rfl] at this
            have hSX : StR w w5 (w.heap.size + 1 + 1) w5 := StR.start (HK2.out w5 HBX.out).1
            have kt : ∀ w', StR w w5 (w.heap.size + 1 + 1) w' → w'.heap[w.heap.size]? = some (.cells #[.int .i64 t.dev, .int .i64 t.size, .slice a t.list.length c] 24 (0, 0)) := fun w' h => h.at (HK2.out w5 HBX.out).2.1 (by omega)
            have ki : ∀ w', StR w w5 (w.heap.size + 1 + 1) w' → w'.heap[B6]? = some (.cells #[.int .i64 t.dev, .int .i64 t.size, .slice ai t.list.length ci] 24 (0, 0)) := fun w' h => h.at (HK2.out w5 HBX.out).2.2.2.2.1 (by have := HLT.out.1; omega)
            have kt0 : ∀ w', StR w w5 (w.heap.size + 1 + 1) w' → w'.cell? ⟨w.heap.size, 0, none⟩ = some (.int .i64 t.dev) := fun w' h => (three (kt w' h)).1
            have kt1 : ∀ w', StR w w5 (w.heap.size + 1 + 1) w' → w'.cell? ⟨w.heap.size, 1, none⟩ = some (.int .i64 t.size) := fun w' h => (three (kt w' h)).2.1
            have kt2 : ∀ w', StR w w5 (w.heap.size + 1 + 1) w' → w'.cell? ⟨w.heap.size, 2, none⟩ = some (.slice a t.list.length c) := fun w' h => (three (kt w' h)).2.2.1
            have ki0 : ∀ w', StR w w5 (w.heap.size + 1 + 1) w' → w'.cell? ⟨B6, 0, none⟩ = some (.int .i64 t.dev) := fun w' h => (three (ki w' h)).1
            have ki1 : ∀ w', StR w w5 (w.heap.size + 1 + 1) w' → w'.cell? ⟨B6, 1, none⟩ = some (.int .i64 t.size) := fun w' h => (three (ki w' h)).2.1
            have ki2 : ∀ w', StR w w5 (w.heap.size + 1 + 1) w' → w'.cell? ⟨B6, 2, none⟩ = some (.slice ai t.list.length ci) := fun w' h => (three (ki w' h)).2.2.1
            have HSE : Hid (∀ w', StR w w5 (w.heap.size + 1 + 1) w' → EntsAt w' a t.list ∧ EntsAt w' ai t.list) := fun w' h => ⟨h.ents (HK2.out w5 HBX.out).2.2.2.2.2.1 (fun hn b hb => by have := HTB.out hn b hb; omega), h.ents (HK2.out w5 HBX.out).2.2.2.2.2.2 (fun hn b hb => by have := HIB.out hn b hb; have := HSZ.out; omega)⟩
            have HEQ : Hid (∀ w', StR w w5 (w.heap.size + 1 + 1) w' → Calls Try.prog 31 #[.agg #[.int .i64 t.dev, .int .i64 t.size, .slice ai t.list.length ci], .agg #[.int .i64 t.dev, .int .i64 t.size, .slice a t.list.length c]] w' fun e w'' => e = .returned (.bool true) ∧ Below w'.heap.size w' w'') := fun w' h => by
              have := eqTab_any _ _ t t w' ⟨ai, ci, rfl, (HSE.out w' h).2, HIN.out⟩ ⟨a, c, rfl, (HSE.out w' h).1, HTN.out⟩ HF.out.1.len
              rwa [decide_eq_true rfl] at this
            have hrz := (HK2.out w5 HBX.out).2.2.2.1
            clear kt ki
            refine wp_region_held_drew (S := fun w' => StR w w5 (w.heap.size + 1 + 1) w') (by kernel_rfl) (by exact StR.drew hSX) (fun hHeld => ?_)
            have hrzd : (World.drew w5).heap[w.heap.size + 1 + 1]? = some (.cells #[.int .i64 0, .int .i64 0, .slice none 0 0] 24 (0, 0)) := hrz
            generalize World.drew w5 = wd at hHeld hrzd ⊢
            refine takeYes 0 (some 52) (v := ?_) rfl (by kernel_rfl) (by kernel_rfl) (by kernel_rfl) (by rfl) (fun _ _ _ h => h) (by rfl) ?_ (by assumption) ?_
            rotate_left
            · intro w hSw; (try dsimp only at hSw); go_simp; try with_reducible rfl
            try simp only [Act.put, List.setIfInBounds_toArray, List.set_cons_zero, List.set_cons_succ]
            refine takeYes 1 (some 53) (v := ?_) rfl (by kernel_rfl) (by kernel_rfl) (by kernel_rfl) (by rfl) (fun _ _ _ h => h) (by rfl) ?_ (by assumption) ?_
            rotate_left
            · intro w hSw; (try dsimp only at hSw); go_simp; try with_reducible rfl
            try simp only [Act.put, List.setIfInBounds_toArray, List.set_cons_zero, List.set_cons_succ]
            refine takeYes 3 (some 55) (v := ?_) rfl (by kernel_rfl) (by kernel_rfl) (by kernel_rfl) (by rfl) (fun _ _ _ h => h) (by rfl) ?_ (by assumption) ?_
            rotate_left
            · intro w hSw; (try dsimp only at hSw); go_simp; try with_reducible rfl
            try simp only [Act.put, List.setIfInBounds_toArray, List.set_cons_zero, List.set_cons_succ]
            refine wpAnyH_ready (rs := [2]) (by kernel_rfl) (by simp) ?_
            refine AllReadyH.cons rfl (fun K hK => ?_) AllReadyH.nil
            go_simp
            (go_at_call 14; refine (errnum_w _ _).mono ?_; rintro e wN ⟨rfl, rfl⟩)
            refine hK.out _ _ (by first | assumption) (fun hHeld => ?_)
            clear hK K
            try simp only [Act.put, List.setIfInBounds_toArray, List.set_cons_zero, List.set_cons_succ]
            refine takeYes 4 (some 56) (v := ?_) rfl (by kernel_rfl) (by kernel_rfl) (by kernel_rfl) (by rfl) (fun _ _ _ h => h) (by rfl) ?_ (by assumption) ?_
            rotate_left
            · intro w hSw; (try dsimp only at hSw); go_simp; try with_reducible rfl
            try simp only [Act.put, List.setIfInBounds_toArray, List.set_cons_zero, List.set_cons_succ]
            refine takeYes 5 (some 57) (v := ?_) rfl (by kernel_rfl) (by kernel_rfl) (by kernel_rfl) (by rfl) (fun _ _ _ h => h) (by rfl) ?_ (by assumption) ?_
            rotate_left
            · intro w hSw; (try dsimp only at hSw); go_simp; try with_reducible rfl
            try simp only [Act.put, List.setIfInBounds_toArray, List.set_cons_zero, List.set_cons_succ]
            refine takeYes 6 (some 58) (v := ?_) rfl (by kernel_rfl) (by kernel_rfl) (by kernel_rfl) (by rfl) (fun _ _ _ h => h) (by rfl) ?_ (by assumption) ?_
            rotate_left
            · intro w hSw; (try dsimp only at hSw); go_simp; try with_reducible rfl
            try simp only [Act.put, List.setIfInBounds_toArray, List.set_cons_zero, List.set_cons_succ]
            refine takeYes 7 (some 59) (v := ?_) rfl (by kernel_rfl) (by kernel_rfl) (by kernel_rfl) (by rfl) (fun _ _ _ h => h) (by rfl) ?_ (by assumption) ?_
            rotate_left
            · intro w hSw; (try dsimp only at hSw); go_simp; try with_reducible rfl
            try simp only [Act.put, List.setIfInBounds_toArray, List.set_cons_zero, List.set_cons_succ]
            refine wpAnyH_ready (rs := [8]) (by kernel_rfl) (by simp) ?_
            refine AllReadyH.cons rfl (fun K hK => ?_) AllReadyH.nil
            go_simp
            (go_at_call 34; refine (HES.out _ (by assumption)).mono ?_; rintro e wL ⟨rfl, hbL⟩; have hSL : StR w w5 (w.heap.size + 1 + 1) wL := StR.below (by assumption) hbL; have hrzL := (hbL.block _ (Array.getElem?_eq_some_iff.1 hrzd).1).trans hrzd)
            refine hK.out _ _ (by first | assumption) (fun hHeld => ?_)
            clear hK K
            try simp only [Act.put, List.setIfInBounds_toArray, List.set_cons_zero, List.set_cons_succ]
            refine takeYes 9 (some 61) (v := ?_) rfl (by kernel_rfl) (by kernel_rfl) (by kernel_rfl) (by rfl) (fun _ _ _ h => h) (by rfl) ?_ (by assumption) ?_
            rotate_left
            · intro w hSw; (try dsimp only at hSw); go_simp; try with_reducible rfl
            try simp only [Act.put, List.setIfInBounds_toArray, List.set_cons_zero, List.set_cons_succ]
            refine takeYes 10 (some 62) (v := ?_) rfl (by kernel_rfl) (by kernel_rfl) (by kernel_rfl) (by rfl) (fun _ _ _ h => h) (by rfl) ?_ (by assumption) ?_
            rotate_left
            · intro w hSw; (try dsimp only at hSw); go_simp; try with_reducible rfl
            try simp only [Act.put, List.setIfInBounds_toArray, List.set_cons_zero, List.set_cons_succ]
            refine takeYes 11 (some 63) (v := ?_) rfl (by kernel_rfl) (by kernel_rfl) (by kernel_rfl) (by rfl) (fun _ _ _ h => h) (by rfl) ?_ (by assumption) ?_
            rotate_left
            · intro w hSw; (try dsimp only at hSw); go_simp; try with_reducible rfl
            try simp only [Act.put, List.setIfInBounds_toArray, List.set_cons_zero, List.set_cons_succ]
            refine takeYes 12 (some 64) (v := ?_) rfl (by kernel_rfl) (by kernel_rfl) (by kernel_rfl) (by rfl) (fun _ _ _ h => h) (by rfl) ?_ (by assumption) ?_
            rotate_left
            · intro w hSw; (try dsimp only at hSw); go_simp; try with_reducible rfl
            try simp only [Act.put, List.setIfInBounds_toArray, List.set_cons_zero, List.set_cons_succ]
            refine wpAnyH_ready (rs := [13]) (by kernel_rfl) (by simp) ?_
            refine AllReadyH.cons rfl (fun K hK => ?_) AllReadyH.nil
            go_simp
            (go_at_call 31; refine (HEQ.out _ (by assumption)).mono ?_; rintro e wE ⟨rfl, hbE⟩; have hSE : StR w w5 (w.heap.size + 1 + 1) wE := StR.below (by assumption) hbE; have hrzE := (hbE.block _ (Array.getElem?_eq_some_iff.1 hrzL).1).trans hrzL)
            refine hK.out _ _ (by first | assumption) (fun hHeld => ?_)
            clear hK K
            try simp only [Act.put, List.setIfInBounds_toArray, List.set_cons_zero, List.set_cons_succ]
            refine takeYes 14 (some 66) (v := ?_) rfl (by kernel_rfl) (by kernel_rfl) (by kernel_rfl) (by rfl) (fun _ _ _ h => h) (by rfl) ?_ (by assumption) ?_
            rotate_left
            · intro w hSw; (try dsimp only at hSw); go_simp; try with_reducible rfl
            try simp only [Act.put, List.setIfInBounds_toArray, List.set_cons_zero, List.set_cons_succ]
            refine wpAnyH_ready (rs := [15]) (by kernel_rfl) (by simp) ?_
            refine AllReadyH.cons rfl (fun K hK => ?_) AllReadyH.nil
            obtain ⟨z0, z1, z2, zf⟩ := three hrzE
            obtain ⟨wF, hWF⟩ : ∃ Y, Y = ((wE.setCell ⟨w.heap.size + 1 + 1, 0, none⟩ (.int .i64 t.dev)).setCell ⟨w.heap.size + 1 + 1, 1, none⟩ (.int .i64 t.size)).setCell ⟨w.heap.size + 1 + 1, 2, none⟩ (.slice a t.list.length c) := ⟨_, rfl⟩
            have hSF : StR w w5 (w.heap.size + 1 + 1) wF := by rw [hWF]; exact ((hSE.set (by omega) 0 _).set (by omega) 1 _).set (by omega) 2 _
            have hrF : wF.heap[w.heap.size + 1 + 1]? = some (.cells #[.int .i64 t.dev, .int .i64 t.size, .slice a t.list.length c] 24 (0, 0)) := by rw [hWF]; exact three_set hrzE
            go_simp
            rw [← hWF]
            refine hK.out _ _ hSF (fun hHeld => ?_)
            clear hK K
            try simp only [Act.put, List.setIfInBounds_toArray, List.set_cons_zero, List.set_cons_succ]
            clear hWF z0 z1 z2 zf
            refine takeYes 16 (some 5) (v := ?_) rfl (by kernel_rfl) (by kernel_rfl) (by kernel_rfl) (by rfl) (fun _ _ _ h => h) (by rfl) ?_ (by assumption) ?_
            rotate_left
            · intro w hSw; (try dsimp only at hSw); go_simp; try with_reducible rfl
            try simp only [Act.put, List.setIfInBounds_toArray, List.set_cons_zero, List.set_cons_succ]
            refine wpAnyH_done (by kernel_rfl) ?_ _
            obtain ⟨z0, z1, z2, zf⟩ := three hrF
            go_wp2_with fail
            refine bodyPost_ret (v := .tuple #[.agg #[.int .i64 t.dev, .int .i64 t.size, .slice a t.list.length c], .bool true]) (by simp [results, Try.results10, go_sem, z0, z1, z2]) rfl ⟨⟨t, a, c, rfl, (HSE.out wF hSF).1, HTN.out, HF.out⟩, hSF.b⟩
          · have hmt : may = true := by rw [← HMAY.out]; exact hok
            subst hmt
            have hT := tok_iff.1 hok
            have HRE : Hid (rngL t.list (min n t.size) (min n t.size + m) = rngQ t.list n m) := rngQ_rngL hT n m hm0
            rw [HRE.out] at ho
            have HLEN : Hid ((rngQ t.list n m).length ≤ 1000) := by have h1 := rngQ_len t.list n m; have h2 := hT.len; show _ ≤ _; omega
            have hnum : numB m 64 = true := by unfold numB; rw [decide_eq_true hm0, decide_eq_true hm1]; rfl
            have HNM : Hid (Calls Try.prog 32 #[.int .i64 m, .int .i64 64] w5 fun e w' => e = .returned (.bool true) ∧ w' = w5) := by have := num2_any m 64 w5; rwa [hnum] at this
            have HRW := HRQ.out hok hm0 hm1 w5 HB5.out
            obtain ⟨ax, cx, rfl, hxE, _⟩ := ho.at
            have HXB : Hid (rngQ t.list n m ≠ [] → ∀ b, ax = some b → W4.heap.size ≤ b.block) := fun hn b hb => by
              obtain ⟨b2, e2, h2⟩ := ho.zero.2 (List.length_pos_iff.2 hn)
              rw [hb] at e2
              injection e2 with e2
              subst e2
              exact h2
            have HXE : Hid (EntsAt w5 ax (rngQ t.list n m)) := hxE
            obtain ⟨q0, q1, q2, q3, q4, _⟩ := five (HK2.out w5 HB5.out).2.2.1
            obtain ⟨s0, s1, s2, _⟩ := three (HK2.out w5 HB5.out).2.1
            clear hok hm0 hm1 hT hnum ho hxE HRQ HRE
            generalize rngQ t.list n m = LL at *
            obtain ⟨NN, hNN⟩ : ∃ NN, NN = LL.length := ⟨_, rfl⟩
            have HNN : Hid (NN = LL.length) := hNN
            rw [← hNN]
            clear hNN
            go_upto_region 9 with fail
            go_wp2_with fail
            refine (HNM.out.mono fun _ _ h => (⟨h.1, h.2.symm⟩ : _ ∧ w5 = _)).mono ?_
            rintro e wN ⟨rfl, rfl⟩
            clear HNM
            go_wp2_with fail
            refine HRW.mono ?_
            rintro e w6 ⟨⟨v6, rfl, ho6⟩, hb6⟩
            obtain ⟨aw, cw, rfl, hwE, _⟩ := ho6.at
            have HBX : Hid (Below W2.heap.size W2 w6) := nwT HB5.out hb6
            have HXE6 : Hid (EntsAt w6 ax LL ∧ EntsAt w6 aw LL) := ⟨HXE.out.below hb6, hwE⟩
            have HWB : Hid (LL ≠ [] → ∀ b, aw = some b → W4.heap.size ≤ b.block) := fun hn b hb => by
              obtain ⟨b2, e2, h2⟩ := ho6.zero.2 (List.length_pos_iff.2 hn)
              rw [hb] at e2
              injection e2 with e2
              subst e2
              exact Nat.le_trans hb5.size h2
            clear q0 q1 q2 q3 q4 s0 s1 s2 HRW hb6 ho6 hwE hb5
            rw [← HNN.out]
            go_upto_region 11 with fail
            have HES : Hid (∀ w', StR w w6 (w.heap.size + 1 + 1) w' → Calls Try.prog 34 #[.slice ax NN cx, .slice aw NN cw] w' fun e w'' => e = .returned (.bool true) ∧ Below w'.heap.size w' w'') := fun w' h => by
              have h1 := HS4.out
              have h2 := HLT.out
              have := eqEnts_any ax aw LL LL cx cw w' (h.ents HXE6.out.1 (fun hn b hb => by have := HXB.out hn b hb; omega)) (h.ents HXE6.out.2 (fun hn b hb => by have := HWB.out hn b hb; omega)) HLEN.out
              rwa [decide_eq_true rfl, ← HNN.out] at this
            have hSX : StR w w6 (w.heap.size + 1 + 1) w6 := StR.start (HK2.out w6 HBX.out).1
            have kt : ∀ w', StR w w6 (w.heap.size + 1 + 1) w' → w'.heap[w.heap.size]? = some (.cells #[.int .i64 t.dev, .int .i64 t.size, .slice a t.list.length c] 24 (0, 0)) := fun w' h => h.at (HK2.out w6 HBX.out).2.1 (by omega)
            have ki : ∀ w', StR w w6 (w.heap.size + 1 + 1) w' → w'.heap[B6]? = some (.cells #[.int .i64 t.dev, .int .i64 t.size, .slice ai t.list.length ci] 24 (0, 0)) := fun w' h => h.at (HK2.out w6 HBX.out).2.2.2.2.1 (by have := HLT.out.1; omega)
            have kt0 : ∀ w', StR w w6 (w.heap.size + 1 + 1) w' → w'.cell? ⟨w.heap.size, 0, none⟩ = some (.int .i64 t.dev) := fun w' h => (three (kt w' h)).1
            have kt1 : ∀ w', StR w w6 (w.heap.size + 1 + 1) w' → w'.cell? ⟨w.heap.size, 1, none⟩ = some (.int .i64 t.size) := fun w' h => (three (kt w' h)).2.1
            have kt2 : ∀ w', StR w w6 (w.heap.size + 1 + 1) w' → w'.cell? ⟨w.heap.size, 2, none⟩ = some (.slice a t.list.length c) := fun w' h => (three (kt w' h)).2.2.1
            have ki0 : ∀ w', StR w w6 (w.heap.size + 1 + 1) w' → w'.cell? ⟨B6, 0, none⟩ = some (.int .i64 t.dev) := fun w' h => (three (ki w' h)).1
            have ki1 : ∀ w', StR w w6 (w.heap.size + 1 + 1) w' → w'.cell? ⟨B6, 1, none⟩ = some (.int .i64 t.size) := fun w' h => (three (ki w' h)).2.1
            have ki2 : ∀ w', StR w w6 (w.heap.size + 1 + 1) w' → w'.cell? ⟨B6, 2, none⟩ = some (.slice ai t.list.length ci) := fun w' h => (three (ki w' h)).2.2.1
            have HSE : Hid (∀ w', StR w w6 (w.heap.size + 1 + 1) w' → EntsAt w' a t.list ∧ EntsAt w' ai t.list) := fun w' h => ⟨h.ents (HK2.out w6 HBX.out).2.2.2.2.2.1 (fun hn b hb => by have := HTB.out hn b hb; omega), h.ents (HK2.out w6 HBX.out).2.2.2.2.2.2 (fun hn b hb => by have := HIB.out hn b hb; have := HSZ.out; omega)⟩
            have HEQ : Hid (∀ w', StR w w6 (w.heap.size + 1 + 1) w' → Calls Try.prog 31 #[.agg #[.int .i64 t.dev, .int .i64 t.size, .slice ai t.list.length ci], .agg #[.int .i64 t.dev, .int .i64 t.size, .slice a t.list.length c]] w' fun e w'' => e = .returned (.bool true) ∧ Below w'.heap.size w' w'') := fun w' h => by
              have := eqTab_any _ _ t t w' ⟨ai, ci, rfl, (HSE.out w' h).2, HIN.out⟩ ⟨a, c, rfl, (HSE.out w' h).1, HTN.out⟩ HF.out.1.len
              rwa [decide_eq_true rfl] at this
            have hrz := (HK2.out w6 HBX.out).2.2.2.1
            clear kt ki
            refine wp_region_held_drew (S := fun w' => StR w w6 (w.heap.size + 1 + 1) w') (by kernel_rfl) (by exact StR.drew hSX) (fun hHeld => ?_)
            have hrzd : (World.drew w6).heap[w.heap.size + 1 + 1]? = some (.cells #[.int .i64 0, .int .i64 0, .slice none 0 0] 24 (0, 0)) := hrz
            generalize World.drew w6 = wd at hHeld hrzd ⊢
            refine takeYes 0 (some 52) (v := ?_) rfl (by kernel_rfl) (by kernel_rfl) (by kernel_rfl) (by rfl) (fun _ _ _ h => h) (by rfl) ?_ (by assumption) ?_
            rotate_left
            · intro w hSw; (try dsimp only at hSw); go_simp; try with_reducible rfl
            try simp only [Act.put, List.setIfInBounds_toArray, List.set_cons_zero, List.set_cons_succ]
            refine takeYes 1 (some 53) (v := ?_) rfl (by kernel_rfl) (by kernel_rfl) (by kernel_rfl) (by rfl) (fun _ _ _ h => h) (by rfl) ?_ (by assumption) ?_
            rotate_left
            · intro w hSw; (try dsimp only at hSw); go_simp; try with_reducible rfl
            try simp only [Act.put, List.setIfInBounds_toArray, List.set_cons_zero, List.set_cons_succ]
            refine takeYes 3 (some 55) (v := ?_) rfl (by kernel_rfl) (by kernel_rfl) (by kernel_rfl) (by rfl) (fun _ _ _ h => h) (by rfl) ?_ (by assumption) ?_
            rotate_left
            · intro w hSw; (try dsimp only at hSw); go_simp; try with_reducible rfl
            try simp only [Act.put, List.setIfInBounds_toArray, List.set_cons_zero, List.set_cons_succ]
            refine wpAnyH_ready (rs := [2]) (by kernel_rfl) (by simp) ?_
            refine AllReadyH.cons rfl (fun K hK => ?_) AllReadyH.nil
            go_simp
            (go_at_call 14; refine (errnum_w _ _).mono ?_; rintro e wN ⟨rfl, rfl⟩)
            refine hK.out _ _ (by first | assumption) (fun hHeld => ?_)
            clear hK K
            try simp only [Act.put, List.setIfInBounds_toArray, List.set_cons_zero, List.set_cons_succ]
            refine takeYes 4 (some 56) (v := ?_) rfl (by kernel_rfl) (by kernel_rfl) (by kernel_rfl) (by rfl) (fun _ _ _ h => h) (by rfl) ?_ (by assumption) ?_
            rotate_left
            · intro w hSw; (try dsimp only at hSw); go_simp; try with_reducible rfl
            try simp only [Act.put, List.setIfInBounds_toArray, List.set_cons_zero, List.set_cons_succ]
            refine takeYes 5 (some 57) (v := ?_) rfl (by kernel_rfl) (by kernel_rfl) (by kernel_rfl) (by rfl) (fun _ _ _ h => h) (by rfl) ?_ (by assumption) ?_
            rotate_left
            · intro w hSw; (try dsimp only at hSw); go_simp; try with_reducible rfl
            try simp only [Act.put, List.setIfInBounds_toArray, List.set_cons_zero, List.set_cons_succ]
            refine takeYes 6 (some 58) (v := ?_) rfl (by kernel_rfl) (by kernel_rfl) (by kernel_rfl) (by rfl) (fun _ _ _ h => h) (by rfl) ?_ (by assumption) ?_
            rotate_left
            · intro w hSw; (try dsimp only at hSw); go_simp; try with_reducible rfl
            try simp only [Act.put, List.setIfInBounds_toArray, List.set_cons_zero, List.set_cons_succ]
            refine takeYes 7 (some 59) (v := ?_) rfl (by kernel_rfl) (by kernel_rfl) (by kernel_rfl) (by rfl) (fun _ _ _ h => h) (by rfl) ?_ (by assumption) ?_
            rotate_left
            · intro w hSw; (try dsimp only at hSw); go_simp; try with_reducible rfl
            try simp only [Act.put, List.setIfInBounds_toArray, List.set_cons_zero, List.set_cons_succ]
            refine wpAnyH_ready (rs := [8]) (by kernel_rfl) (by simp) ?_
            refine AllReadyH.cons rfl (fun K hK => ?_) AllReadyH.nil
            go_simp
            (go_at_call 34; refine (HES.out _ (by assumption)).mono ?_; rintro e wL ⟨rfl, hbL⟩; have hSL : StR w w6 (w.heap.size + 1 + 1) wL := StR.below (by assumption) hbL; have hrzL := (hbL.block _ (Array.getElem?_eq_some_iff.1 hrzd).1).trans hrzd)
            refine hK.out _ _ (by first | assumption) (fun hHeld => ?_)
            clear hK K
            try simp only [Act.put, List.setIfInBounds_toArray, List.set_cons_zero, List.set_cons_succ]
            refine takeYes 9 (some 61) (v := ?_) rfl (by kernel_rfl) (by kernel_rfl) (by kernel_rfl) (by rfl) (fun _ _ _ h => h) (by rfl) ?_ (by assumption) ?_
            rotate_left
            · intro w hSw; (try dsimp only at hSw); go_simp; try with_reducible rfl
            try simp only [Act.put, List.setIfInBounds_toArray, List.set_cons_zero, List.set_cons_succ]
            refine takeYes 10 (some 62) (v := ?_) rfl (by kernel_rfl) (by kernel_rfl) (by kernel_rfl) (by rfl) (fun _ _ _ h => h) (by rfl) ?_ (by assumption) ?_
            rotate_left
            · intro w hSw; (try dsimp only at hSw); go_simp; try with_reducible rfl
            try simp only [Act.put, List.setIfInBounds_toArray, List.set_cons_zero, List.set_cons_succ]
            refine takeYes 11 (some 63) (v := ?_) rfl (by kernel_rfl) (by kernel_rfl) (by kernel_rfl) (by rfl) (fun _ _ _ h => h) (by rfl) ?_ (by assumption) ?_
            rotate_left
            · intro w hSw; (try dsimp only at hSw); go_simp; try with_reducible rfl
            try simp only [Act.put, List.setIfInBounds_toArray, List.set_cons_zero, List.set_cons_succ]
            refine takeYes 12 (some 64) (v := ?_) rfl (by kernel_rfl) (by kernel_rfl) (by kernel_rfl) (by rfl) (fun _ _ _ h => h) (by rfl) ?_ (by assumption) ?_
            rotate_left
            · intro w hSw; (try dsimp only at hSw); go_simp; try with_reducible rfl
            try simp only [Act.put, List.setIfInBounds_toArray, List.set_cons_zero, List.set_cons_succ]
            refine wpAnyH_ready (rs := [13]) (by kernel_rfl) (by simp) ?_
            refine AllReadyH.cons rfl (fun K hK => ?_) AllReadyH.nil
            go_simp
            (go_at_call 31; refine (HEQ.out _ (by assumption)).mono ?_; rintro e wE ⟨rfl, hbE⟩; have hSE : StR w w6 (w.heap.size + 1 + 1) wE := StR.below (by assumption) hbE; have hrzE := (hbE.block _ (Array.getElem?_eq_some_iff.1 hrzL).1).trans hrzL)
            refine hK.out _ _ (by first | assumption) (fun hHeld => ?_)
            clear hK K
            try simp only [Act.put, List.setIfInBounds_toArray, List.set_cons_zero, List.set_cons_succ]
            refine takeYes 14 (some 66) (v := ?_) rfl (by kernel_rfl) (by kernel_rfl) (by kernel_rfl) (by rfl) (fun _ _ _ h => h) (by rfl) ?_ (by assumption) ?_
            rotate_left
            · intro w hSw; (try dsimp only at hSw); go_simp; try with_reducible rfl
            try simp only [Act.put, List.setIfInBounds_toArray, List.set_cons_zero, List.set_cons_succ]
            refine wpAnyH_ready (rs := [15]) (by kernel_rfl) (by simp) ?_
            refine AllReadyH.cons rfl (fun K hK => ?_) AllReadyH.nil
            obtain ⟨z0, z1, z2, zf⟩ := three hrzE
            obtain ⟨wF, hWF⟩ : ∃ Y, Y = ((wE.setCell ⟨w.heap.size + 1 + 1, 0, none⟩ (.int .i64 t.dev)).setCell ⟨w.heap.size + 1 + 1, 1, none⟩ (.int .i64 t.size)).setCell ⟨w.heap.size + 1 + 1, 2, none⟩ (.slice a t.list.length c) := ⟨_, rfl⟩
            have hSF : StR w w6 (w.heap.size + 1 + 1) wF := by rw [hWF]; exact ((hSE.set (by omega) 0 _).set (by omega) 1 _).set (by omega) 2 _
            have hrF : wF.heap[w.heap.size + 1 + 1]? = some (.cells #[.int .i64 t.dev, .int .i64 t.size, .slice a t.list.length c] 24 (0, 0)) := by rw [hWF]; exact three_set hrzE
            go_simp
            rw [← hWF]
            refine hK.out _ _ hSF (fun hHeld => ?_)
            clear hK K
            try simp only [Act.put, List.setIfInBounds_toArray, List.set_cons_zero, List.set_cons_succ]
            clear hWF z0 z1 z2 zf
            refine takeYes 16 (some 5) (v := ?_) rfl (by kernel_rfl) (by kernel_rfl) (by kernel_rfl) (by rfl) (fun _ _ _ h => h) (by rfl) ?_ (by assumption) ?_
            rotate_left
            · intro w hSw; (try dsimp only at hSw); go_simp; try with_reducible rfl
            try simp only [Act.put, List.setIfInBounds_toArray, List.set_cons_zero, List.set_cons_succ]
            refine wpAnyH_done (by kernel_rfl) ?_ _
            obtain ⟨z0, z1, z2, zf⟩ := three hrF
            go_wp2_with fail
            refine bodyPost_ret (v := .tuple #[.agg #[.int .i64 t.dev, .int .i64 t.size, .slice a t.list.length c], .bool true]) (by simp [results, Try.results10, go_sem, z0, z1, z2]) rfl ⟨⟨t, a, c, rfl, (HSE.out wF hSF).1, HTN.out, HF.out⟩, hSF.b⟩
  case rest =>
  as_aux_lemma =>
    obtain ⟨bad, X, ax, cx, aw, cw, rfl, rfl, HJ⟩ := hcut
    rename World => wx
    have HG : Hid (∀ w', wx.grownBy w' (Value.ownBlock (.slice ax X.list.length cx)) → Below W2.heap.size W2 w' ∧ w'.heap[B9]? = some (.cells #[.int .i64 X.dev, .int .i64 X.size, .slice ax X.list.length cx] 24 (0, 0)) ∧ w'.heap[B9 + 1]? = some (.cells #[.int .i64 X.dev, .int .i64 X.size, .slice aw X.list.length cw] 24 (0, 0)) ∧ EntsAt w' aw X.list) := fun w' h => by
      have ho := HJ.out.own
      unfold OwnEnts at ho
      have hlt : ∀ g, (Value.ownBlock (.slice ax X.list.length cx)) = some g → B9 + 2 ≤ g := fun g e => (World.ownsRow.lt ho g e).1
      have hbl := HJ.out.bl
      refine ⟨HJ.out.hb.grown h HJ.out.hb.size (fun g e => by have := hlt g e; omega), (h.block B9 (by omega) (fun e => by have := hlt B9 e.symm; omega)).trans HJ.out.x9, (h.block (B9 + 1) (by omega) (fun e => by have := hlt (B9 + 1) e.symm; omega)).trans HJ.out.w10, HJ.out.wE w' h⟩
    have HX : Hid (∀ w', Below wx.heap.size wx w' → EntsAt w' ax X.list ∧ NilOk ax cx X.list.length) := fun w' h => by
      obtain ⟨_, _, e', hE, hN⟩ := HJ.out.own.at
      injection e' with e' _ e''
      subst e'; subst e''
      exact ⟨hE.below h, hN⟩
    have HE1 : Hid (Calls Try.prog 31 #[.agg #[.int .i64 X.dev, .int .i64 X.size, .slice ax X.list.length cx], .agg #[.int .i64 X.dev, .int .i64 X.size, .slice aw X.list.length cw]] wx fun e w' => e = .returned (.bool true) ∧ Below wx.heap.size wx w') := by
      have := eqTab_any _ _ X X wx ⟨ax, cx, rfl, (HX.out wx (nwR wx)).1, (HX.out wx (nwR wx)).2⟩ ⟨aw, cw, rfl, (HG.out wx (gbOf (nwR wx) _)).2.2.2, HJ.out.wN⟩ HJ.out.sm.1.len
      rwa [decide_eq_true rfl] at this
    have HE2 : Hid (∀ w', Below W2.heap.size W2 w' → Calls Try.prog 31 #[.agg #[.int .i64 t.dev, .int .i64 t.size, .slice ai t.list.length ci], .agg #[.int .i64 t.dev, .int .i64 t.size, .slice a t.list.length c]] w' fun e w'' => e = .returned (.bool true) ∧ Below w'.heap.size w' w'') := fun w' h => by
      have := eqTab_any _ _ t t w' ⟨ai, ci, rfl, (HK2.out w' h).2.2.2.2.2.2, HIN.out⟩ ⟨a, c, rfl, (HK2.out w' h).2.2.2.2.2.1, HTN.out⟩ HF.out.1.len
      rwa [decide_eq_true rfl] at this
    have HCK : Hid (∀ w', Below W2.heap.size W2 w' → Calls Try.prog 35 #[.agg #[.int .i64 t.dev, .int .i64 t.size, .slice ai t.list.length ci]] w' fun e w'' => e = .returned (.int .i64 (if may then 0 else 1)) ∧ Below w'.heap.size w' w'') := fun w' h => by
      have := check_any _ t w' ⟨ai, ci, rfl, (HK2.out w' h).2.2.2.2.2.2, HIN.out⟩ HF.out.1
      rwa [HMAY.out] at this
    have HSP : Hid (∀ w', Below wx.heap.size wx w' → Calls Try.prog 36 #[.agg #[.int .i64 X.dev, .int .i64 X.size, .slice ax X.list.length cx]] w' fun e w'' => e = .returned (.tuple #[]) ∧ w'.grownBy w'' (Value.ownBlock (.slice ax X.list.length cx))) := fun w' h => spoil_any (B9 + 2) _ X.dev X.size X.list w' (HJ.out.own.below h) HJ.out.sm.1.len
    have HCW : Hid (∀ w', EntsAt w' aw X.list → Calls Try.prog 9 #[.agg #[.int .i64 X.dev, .int .i64 X.size, .slice aw X.list.length cw]] w' fun e w'' => (∃ u, e = .returned u ∧ OwnTab w'' w'.heap.size u X) ∧ Below w'.heap.size w' w'') := fun w' h => copyTab_any _ X w' ⟨aw, cw, rfl, h, HJ.out.wN⟩ HJ.out.sm.1.len
    have HFX : Hid (FitT X) := HJ.out.sm
    have HBX : Hid (Below W2.heap.size W2 wx) := HJ.out.hb
    obtain ⟨_, hx9, hw10, _⟩ := HG.out wx (gbOf (nwR wx) _)
    obtain ⟨x0, x1, x2, _⟩ := three hx9
    obtain ⟨y0, y1, y2, _⟩ := three hw10
    clear HX HJ hx9 hw10
    go_wp2_with fail
    refine (errnum_w bad wx).mono ?_
    rintro e w' ⟨rfl, rfl⟩
    have hbb : (bad != bad) = false := by simp
    go_wp2_with fail
    refine HE1.out.mono ?_
    rintro e v1 ⟨rfl, hv1⟩
    have HV1 : Hid (Below wx.heap.size wx v1) := hv1
    have HW1 : Hid (Below W2.heap.size W2 v1) := nwT HBX.out hv1
    clear x0 x1 x2 y0 y1 y2 hv1 HE1
    obtain ⟨i0, i1, i2, _⟩ := three (HK2.out v1 HW1.out).2.2.2.2.1
    obtain ⟨s0, s1, s2, _⟩ := three (HK2.out v1 HW1.out).2.1
    go_wp2_with fail
    refine (HE2.out v1 HW1.out).mono ?_
    rintro e v2 ⟨rfl, hv2⟩
    have HV2 : Hid (Below wx.heap.size wx v2) := nwT HV1.out hv2
    have HW2 : Hid (Below W2.heap.size W2 v2) := nwT HBX.out HV2.out
    clear i0 i1 i2 s0 s1 s2 hv2
    obtain ⟨i0, i1, i2, _⟩ := three (HK2.out v2 HW2.out).2.2.2.2.1
    go_wp2_with fail
    refine (HCK.out v2 HW2.out).mono ?_
    rintro e v3 ⟨rfl, hv3⟩
    have HV3 : Hid (Below wx.heap.size wx v3) := nwT HV2.out hv3
    clear i0 i1 i2 hv3 HCK
    have hmm : ((if may then (0 : Int) else 1) == 0) = may := by cases may <;> rfl
    generalize (if may then (0 : Int) else 1) = ck at hmm ⊢
    go_wp2_with fail
    refine (errnum_w ck v3).mono ?_
    rintro e w' ⟨rfl, rfl⟩
    obtain ⟨_, hx9, hw10, _⟩ := HG.out v3 (gbOf HV3.out _)
    obtain ⟨x0, x1, x2, _⟩ := three hx9
    have hm2 : (may != may) = false := by cases may <;> rfl
    clear hx9 hw10
    go_wp2_with fail
    refine (HSP.out v3 HV3.out).mono ?_
    rintro e v4 ⟨rfl, hg4⟩
    have HG4 : Hid (wx.grownBy v4 (Value.ownBlock (.slice ax X.list.length cx))) := (gbOf HV3.out _).trans hg4
    have HW4 : Hid (Below W2.heap.size W2 v4) := (HG.out v4 HG4.out).1
    clear x0 x1 x2 hg4 HSP
    obtain ⟨i0, i1, i2, _⟩ := three (HK2.out v4 HW4.out).2.2.2.2.1
    obtain ⟨s0, s1, s2, _⟩ := three (HK2.out v4 HW4.out).2.1
    go_wp2_with fail
    refine (HE2.out v4 HW4.out).mono ?_
    rintro e v5 ⟨rfl, hv5⟩
    have HG5 : Hid (wx.grownBy v5 (Value.ownBlock (.slice ax X.list.length cx))) := HG4.out.trans (gbOf hv5 _)
    have HW5 : Hid (Below W2.heap.size W2 v5) := nwT HW4.out hv5
    clear i0 i1 i2 s0 s1 s2 hv5 HE2 hbb hmm hm2
    obtain ⟨s0, s1, s2, _⟩ := three (HK2.out v5 HW5.out).2.1
    obtain ⟨z0, z1, z2, zf⟩ := three (HK2.out v5 HW5.out).2.2.2.1
    obtain ⟨_, _, hw10, hwE⟩ := HG.out v5 HG5.out
    obtain ⟨y0, y1, y2, _⟩ := three hw10
    have HWE : Hid (EntsAt v5 aw X.list) := hwE
    clear hwE hw10
    by_cases hbad : bad = 0
    case neg =>
      have hb1 : (bad != 0) = true := by simp [hbad]
      clear hbad
      obtain ⟨v6, hv6⟩ : ∃ Y, Y = ((v5.setCell ⟨w.heap.size + 1 + 1, 0, none⟩ (.int .i64 t.dev)).setCell ⟨w.heap.size + 1 + 1, 1, none⟩ (.int .i64 t.size)).setCell ⟨w.heap.size + 1 + 1, 2, none⟩ (.slice a t.list.length c) := ⟨_, rfl⟩
      have HB6 : Hid (Below w.heap.size w v6) := by show Below _ _ _; rw [hv6]; exact three_below (HK2.out v5 HW5.out).1 (by omega)
      have h6 : v6.heap[w.heap.size + 1 + 1]? = some (.cells #[.int .i64 t.dev, .int .i64 t.size, .slice a t.list.length c] 24 (0, 0)) := by rw [hv6]; exact three_set (HK2.out v5 HW5.out).2.2.2.1
      have HS6 : Hid (StR w v5 (w.heap.size + 1 + 1) v6) := by show StR _ _ _ _; rw [hv6]; exact (((StR.start (HK2.out v5 HW5.out).1).set (by omega) 0 _).set (by omega) 1 _).set (by omega) 2 _
      have HE6 : Hid (EntsAt v6 a t.list) := HS6.out.ents (HK2.out v5 HW5.out).2.2.2.2.2.1 (fun hn b hb => by have := HTB.out hn b hb; omega)
      obtain ⟨r0, r1, r2, rf⟩ := three h6
      go_wp2_with fail
      rw [← hv6]
      refine bodyPost_ret (v := .tuple #[.agg #[.int .i64 t.dev, .int .i64 t.size, .slice a t.list.length c], .bool true]) (by simp [results, Try.results10, go_sem, r0, r1, r2]) rfl ⟨⟨t, a, c, rfl, HE6.out, HTN.out, HF.out⟩, HB6.out⟩
    case pos =>
      subst hbad
      have hb1 : ((0 : Int) != 0) = false := rfl
      have HCV := HCW.out v5 HWE.out
      clear HCW
      go_wp2_with fail
      refine HCV.mono ?_
      rintro e v6 ⟨⟨u6, rfl, uu, rfl, ho6⟩, hb6⟩
      obtain ⟨af, cf, rfl, hfE, hfN⟩ := ho6.at
      have HW6 : Hid (Below W2.heap.size W2 v6) := nwT HW5.out hb6
      have HB6 : Hid (v5.heap.size ≤ v6.heap.size) := hb6.size
      have HFB : Hid (X.list ≠ [] → ∀ b, af = some b → v5.heap.size ≤ b.block) := fun hn b hb => by
        obtain ⟨b2, e2, h2⟩ := ho6.zero.2 (List.length_pos_iff.2 hn)
        rw [hb] at e2
        injection e2 with e2
        subst e2
        exact h2
      have HFE : Hid (EntsAt v6 af X.list ∧ NilOk af cf X.list.length) := ⟨hfE, hfN⟩
      obtain ⟨z0, z1, z2, zf⟩ := three (HK2.out v6 HW6.out).2.2.2.1
      clear s0 s1 s2 y0 y1 y2 HCV hb6 ho6 hfE hfN
      obtain ⟨v7, hv7⟩ : ∃ Y, Y = ((v6.setCell ⟨w.heap.size + 1 + 1, 0, none⟩ (.int .i64 X.dev)).setCell ⟨w.heap.size + 1 + 1, 1, none⟩ (.int .i64 X.size)).setCell ⟨w.heap.size + 1 + 1, 2, none⟩ (.slice af X.list.length cf) := ⟨_, rfl⟩
      have HB7 : Hid (Below w.heap.size w v7) := by show Below _ _ _; rw [hv7]; exact three_below (HK2.out v6 HW6.out).1 (by omega)
      have h7 : v7.heap[w.heap.size + 1 + 1]? = some (.cells #[.int .i64 X.dev, .int .i64 X.size, .slice af X.list.length cf] 24 (0, 0)) := by rw [hv7]; exact three_set (HK2.out v6 HW6.out).2.2.2.1
      have HS7 : Hid (StR w v6 (w.heap.size + 1 + 1) v7) := by show StR _ _ _ _; rw [hv7]; exact (((StR.start (HK2.out v6 HW6.out).1).set (by omega) 0 _).set (by omega) 1 _).set (by omega) 2 _
      have HE7 : Hid (EntsAt v7 af X.list) := HS7.out.ents HFE.out.1 (fun hn b hb => by have h1 := HFB.out hn b hb; have h2 := (Array.getElem?_eq_some_iff.1 (HK2.out v5 HW5.out).2.2.2.1).1; omega)
      obtain ⟨r0, r1, r2, rf⟩ := three h7
      go_wp2_with fail
      rw [← hv7]
      refine bodyPost_ret (v := .tuple #[.agg #[.int .i64 X.dev, .int .i64 X.size, .slice af X.list.length cf], .bool true]) (by simp [results, Try.results10, go_sem, r0, r1, r2]) rfl ⟨⟨X, af, cf, rfl, HE7.out, HFE.out.2, HFX.out⟩, HB7.out⟩

end Go.Proofs.Ytijldakgfgmbiaa
