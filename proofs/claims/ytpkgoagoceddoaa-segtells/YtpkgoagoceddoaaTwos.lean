/- The law SegTwos walked. -/
import Derived.Test.YtpkgoagoceddoaaRefTwo
import Derived.Deep.RegionHeld
namespace Go.Proofs.Ytpkgoagoceddoaa
open Go.RowKit

theorem nwd {a b : World} (h : Below a.drew.heap.size a.drew b) : Below a.heap.size a b := ⟨h.os, h.tape, h.output, h.size, h.block⟩
theorem jset_nil : jset [] = [] := by
  rw [jset, show allOk [] = true from rfl]
  exact segsOf_none (fun k _ => by simp [memAny])

set_option maxRecDepth 100000 in
set_option maxHeartbeats 16000000 in
theorem twos_walk : LawOk 4 := by
  intro a ls ca b ns cb w hrows _ hl hn hr _
  have HR : Hid (RowsAt w a ls) := hrows
  have HRL : Hid (∀ i, i < ls.length → (ls.getD i row0).2.2.length ≤ 140737488351232) := hr
  clear hrows hr
  go_enter Try.func4, Try.ntmps4
  go_wp2_with fail
  obtain ⟨W0, hW0⟩ : ∃ W0, W0 = w.alloc (.cells #[.slice a ls.length ca, .slice b ns.length cb] 25) := ⟨_, rfl⟩
  have HN0 : Hid (Below w.heap.size w W0) := by rw [hW0]; exact nwA (nwR w) _
  have HR0 : Hid (RowsAt W0 a ls) := HR.out.below HN0.out (Nat.le_refl _)
  have HC0 : Hid (W0.cell? ⟨w.heap.size, 0, none⟩ = some (.slice a ls.length ca)) := by rw [hW0]; show _ = _; simp
  have HZ0 : Hid (w.heap.size < W0.heap.size) := by rw [hW0]; show _ < _; simp
  rw [← hW0]
  clear hW0 HR
  refine (heavy_any a b ls ca ns.length cb _ HR0.out hl hn HRL.out).mono ?_
  rintro e w1 ⟨q, rfl, hb1, hq⟩
  cases q
  · have HSM : Hid (small ls ns.length) := hq rfl
    clear hq
    have hl5 : ls.length ≤ 500 := by have := HSM.out.1; omega
    clear hl hn HRL
    go_wp2_with fail
    go_loopw [3] (fun i wr => ∃ (k : Nat), k ≤ ls.length ∧ i = .int .i64 k ∧ Below W0.heap.size W0 wr)
      (fun i _ => ls.length - (intOf i).toNat)
    case atStart => exact ⟨0, by omega, rfl, hb1⟩
    case round =>
      obtain ⟨k, hk, rfl, hb⟩ := hrel
      have c0 : wr.cell? ⟨w.heap.size, 0, none⟩ = some (.slice a ls.length ca) := (hb.cell (p := ⟨w.heap.size, 0, none⟩) HZ0.out).trans HC0.out
      by_cases hk1 : (k : Int) < (ls.length : Int) ∧ (k : Int) < 5
      · obtain ⟨hk1, hk5⟩ := hk1
        have hkn : k < ls.length := by omega
        have hl1 : (ls.getD k row0).2.2.length ≤ 500 := HSM.out.2 k hkn
        have HA : Hid (SegsAt W0 (ls.getD k row0).1 (ls.getD k row0).2.2) := HR0.out.segs hkn
        obtain ⟨b1, o1, rfl, x1, _, _⟩ := HR0.out k hkn
        have HX1 : Hid (W0.cell? ⟨b1, o1 + k, none⟩ = some (.slice (ls.getD k row0).1 (ls.getD k row0).2.2.length (ls.getD k row0).2.1)) := x1
        clear x1
        generalize ls.getD k row0 = r1 at HX1 HA hl1
        obtain ⟨ra, rca, l⟩ := r1
        simp only at HX1 HA hl1
        go_wp2_with fail
        go_loopw [4] (fun j wq => ∃ (n : Nat), n ≤ ls.length ∧ j = .int .i64 n ∧ Below W0.heap.size W0 wq)
          (fun j _ => ls.length - (intOf j).toNat)
        case atStart => exact ⟨0, by omega, rfl, hb⟩
        case round =>
          obtain ⟨n, hn', rfl, hbq⟩ := hrel
          clear c0 hb
          have c0 : wr.cell? ⟨w.heap.size, 0, none⟩ = some (.slice (some ⟨b1, o1, none⟩) ls.length ca) := (hbq.cell (p := ⟨w.heap.size, 0, none⟩) HZ0.out).trans HC0.out
          by_cases hn1 : (n : Int) < (ls.length : Int) ∧ (n : Int) < 5
          · obtain ⟨hn1, hn5⟩ := hn1
            have hnn : n < ls.length := by omega
            have hl2 : (ls.getD n row0).2.2.length ≤ 500 := HSM.out.2 n hnn
            have HB : Hid (SegsAt W0 (ls.getD n row0).1 (ls.getD n row0).2.2) := HR0.out.segs hnn
            obtain ⟨b2, o2, hbo, x2, _, _⟩ := HR0.out n hnn
            simp only [Option.some.injEq, Addr.mk.injEq, and_true] at hbo
            obtain ⟨rfl, rfl⟩ := hbo
            have HX2 : Hid (W0.cell? ⟨b1, o1 + n, none⟩ = some (.slice (ls.getD n row0).1 (ls.getD n row0).2.2.length (ls.getD n row0).2.1)) := x2
            clear x2
            generalize ls.getD n row0 = r2 at HX2 HB hl2
            obtain ⟨rb, rcb, m⟩ := r2
            simp only at HX2 HB hl2
            have k0 : ∀ w', Below W0.heap.size W0 w' → w'.cell? ⟨w.heap.size, 0, none⟩ = some (.slice (some ⟨b1, o1, none⟩) ls.length ca) := fun w' h => (h.cell (p := ⟨w.heap.size, 0, none⟩) HZ0.out).trans HC0.out
            have k1 : ∀ w', Below W0.heap.size W0 w' → w'.cell? ⟨b1, o1 + k, none⟩ = some (.slice ra l.length rca) := fun w' h => (h.cell (p := ⟨b1, o1 + k, none⟩) (block_lt_of_cell HX1.out)).trans HX1.out
            have k2 : ∀ w', Below W0.heap.size W0 w' → w'.cell? ⟨b1, o1 + n, none⟩ = some (.slice rb m.length rcb) := fun w' h => (h.cell (p := ⟨b1, o1 + n, none⟩) (block_lt_of_cell HX2.out)).trans HX2.out
            go_wp2_with fail
            go_region_held (fun w' => Below W0.heap.size W0 w') (first | assumption | exact Below.drew (by assumption) | exact nwT (by assumption) (by assumption)) (first | (go_at_call_of 9 ra; refine (copySegs_any ra l rca _ (HA.out.below (by assumption) (Nat.le_refl _)) hl1).mono ?_; rintro e w2 ⟨va, rfl, hoa, hb2⟩) | (go_at_call_of 9 rb; refine (copySegs_any rb m rcb _ (HB.out.below (by assumption) (Nat.le_refl _)) hl2).mono ?_; rintro e w3 ⟨vb, rfl, hob, hb3⟩))
            have hS3 : Below W0.heap.size W0 w3 := by assumption
            have HOA3 : Hid (OwnSegs w3 wr.heap.size va l) := OwnSegs.below hoa hb3
            have HOB3 : Hid (OwnSegs w3 w2.heap.size vb m) := hob
            have hsz23 : W0.heap.size ≤ wr.heap.size ∧ wr.heap.size ≤ w2.heap.size ∧ w2.heap.size ≤ w3.heap.size := ⟨hbq.size, hb2.size, hb3.size⟩
            clear hoa hob hb2 hb3 c0 hbq
            obtain ⟨aa, cca, rfl, hsa⟩ := HOA3.out.at
            obtain ⟨ab, ccb, rfl, hsb⟩ := HOB3.out.at
            have HS3 : Hid (Below W0.heap.size W0 w3) := hS3
            have HA3 : Hid (SegsAt w3 aa l) := hsa
            have HB3 : Hid (SegsAt w3 ab m) := hsb
            clear hsa hsb HOA3 HOB3
            have hm1 : l.length ≤ maxLen := by unfold maxLen; omega
            have hm2 : m.length ≤ maxLen := by unfold maxLen; omega
            go_wp2_with fail
            refine (less_any aa ab l m cca ccb _ HA3.out HB3.out hm1 hm2).mono ?_
            rintro e w4 ⟨vx, rfl, hox, hb4⟩
            have hS4 : Below W0.heap.size W0 w4 := nwT hS3 hb4
            have HOX4 : Hid (OwnSegs w4 w3.heap.size vx (lessOf l m)) := hox
            clear hox hS3
            go_wp2_with fail
            refine (both_any aa ab l m cca ccb _ (HA3.out.below hb4 (Nat.le_refl _)) (HB3.out.below hb4 (Nat.le_refl _)) hm1 hm2).mono ?_
            rintro e w5 ⟨vy, rfl, hoy, hb5⟩
            have hS5 : Below W0.heap.size W0 w5 := nwT hS4 hb5
            have H35 : Hid (Below w3.heap.size w3 w5) := nwT hb4 hb5
            have HOX5 : Hid (OwnSegs w5 w3.heap.size vx (lessOf l m)) := HOX4.out.below hb5
            have HOY5 : Hid (OwnSegs w5 w4.heap.size vy (bothOf l m)) := hoy
            have hz34 : w3.heap.size ≤ w4.heap.size := hb4.size
            have hz45 : w4.heap.size ≤ w5.heap.size := hb5.size
            have HXL : Hid (∀ k, vx.ownBlock = some k → k < w4.heap.size) := fun k e => (HOX4.out.lt k e).2
            clear hoy hS4 HOX4 hb4 hb5
            go_wp2_with fail
            refine (join_any _ [(aa, cca, l), (ab, ccb, m)] 2 _ (rows2 cca ccb 27 (HA3.out.below H35.out (Nat.le_refl _)) hm1 (HB3.out.below H35.out (Nat.le_refl _)) hm2) (by simp [maxLen])).mono ?_
            rintro e w6 ⟨vw, rfl, how, hb6⟩
            rw [allOk_two, show (vOk (aa, cca, l).2.2 && vOk (ab, ccb, m).2.2) = twoOk l m from rfl]
            have hb6' := nwT (nwA (nwR w5) _) hb6
            have hS6 : Below W0.heap.size W0 w6 := nwT hS5 hb6'
            have H36 : Hid (Below w3.heap.size w3 w6) := nwT H35.out hb6'
            have HOX6 : Hid (OwnSegs w6 w3.heap.size vx (lessOf l m)) := HOX5.out.below hb6'
            have HOY6 : Hid (OwnSegs w6 w4.heap.size vy (bothOf l m)) := HOY5.out.below hb6'
            have HOW6 : Hid (OwnSegs w6 w5.heap.size vw (jset [(aa, cca, l), (ab, ccb, m)])) := ownsRow_base how (by simp)
            have HYL : Hid (∀ k, vy.ownBlock = some k → k < w5.heap.size) := fun k e => (HOY5.out.lt k e).2
            have HXL5 : Hid (∀ k, vx.ownBlock = some k → k < w5.heap.size) := fun k e => (HOX5.out.lt k e).2
            have hz56 : w5.heap.size ≤ w6.heap.size := hb6'.size
            clear how hS5 H35 HOX5 HOY5 hb6 hb6'
            have HEJ : Hid (twoOk l m = true → jset [(aa, cca, l), (ab, ccb, m)] = segsOf (fun k => memS l k || memS m k)) := fun h => by
              rw [jset, allOk_two, show (vOk (aa, cca, l).2.2 && vOk (ab, ccb, m).2.2) = twoOk l m from rfl, h]
              simp only [if_true]
              exact segsOf_congr (fun q _ => memAny_two _ _ q)
            have HNJ : Hid (twoOk l m = false → jset [(aa, cca, l), (ab, ccb, m)] = []) := fun h => by
              rw [jset, allOk_two, show (vOk (aa, cca, l).2.2 && vOk (ab, ccb, m).2.2) = twoOk l m from rfl, h]
              rfl
            have HEX : Hid (twoOk l m = true → lessOf l m = segsOf (fun k => memS l k && !memS m k)) := fun h => by rw [lessOf, h]; rfl
            have HNX : Hid (twoOk l m = false → lessOf l m = []) := fun h => by rw [lessOf, h]; rfl
            have HEY : Hid (twoOk l m = true → bothOf l m = segsOf (fun k => memS l k && memS m k)) := fun h => by rw [bothOf, h]; rfl
            have HNY : Hid (twoOk l m = false → bothOf l m = []) := fun h => by rw [bothOf, h]; rfl
            have HTE : Hid (twoOk l m = (vOk l && vOk m)) := rfl
            generalize jset [(aa, cca, l), (ab, ccb, m)] = J at HOW6 HEJ HNJ
            generalize lessOf l m = X at HOX6 HEX HNX
            generalize bothOf l m = Y at HOY6 HEY HNY
            generalize twoOk l m = ok at HEJ HNJ HEX HNX HEY HNY HTE ⊢
            obtain ⟨ax, cx, rfl, hsx⟩ := HOX6.out.at
            obtain ⟨ay, cy, rfl, hsy⟩ := HOY6.out.at
            obtain ⟨aw, cw, rfl, hsw⟩ := HOW6.out.at
            have hlx := len_of_own HOX6.out
            have hly := len_of_own HOY6.out
            have hlw := len_of_own HOW6.out
            have HX6 : Hid (SegsAt w6 ax X) := hsx
            have HY6 : Hid (SegsAt w6 ay Y) := hsy
            have HW6 : Hid (SegsAt w6 aw J) := hsw
            clear hsx hsy hsw
            go_wp2_with fail
            refine (refSegs_any ra l rca _ (HA.out.below hS6 (Nat.le_refl _)) (by omega)).mono ?_
            rintro e w7 ⟨rfl, hb7⟩
            cases hv1 : vOk l
            · have hok : ok = false := by rw [HTE.out, hv1]; rfl
              subst hok
              rw [show errOf false = 1 from rfl]
              obtain rfl : X = [] := HNX.out rfl
              obtain rfl : Y = [] := HNY.out rfl
              obtain rfl : J = [] := HNJ.out rfl
              have hS7 : Below W0.heap.size W0 w7 := nwT hS6 hb7
              have hSB : Hid (Below W0.heap.size W0 w7) := hS7
              have H3B : Hid (Below w3.heap.size w3 w7) := nwT H36.out hb7
              have HXB : Hid (SegsAt w7 ax []) := HX6.out.below hb7 (Nat.le_refl _)
              have HYB : Hid (SegsAt w7 ay []) := HY6.out.below hb7 (Nat.le_refl _)
              have HJB : Hid (SegsAt w7 aw []) := HW6.out.below hb7 (Nat.le_refl _)
              have HOXB : Hid (OwnSegs w7 w3.heap.size (.slice ax ([] : List (Int × Int)).length cx) []) := HOX6.out.below hb7
              have HOYB : Hid (OwnSegs w7 w4.heap.size (.slice ay ([] : List (Int × Int)).length cy) []) := HOY6.out.below hb7
              have HOWB : Hid (OwnSegs w7 w5.heap.size (.slice aw ([] : List (Int × Int)).length cw) []) := HOW6.out.below hb7
              have nilAt : ∀ w', SegsAt w' none [] := fun w' i hi => by simp at hi
              have NA : Hid (∀ w', SegsAt w' none []) := nilAt
              clear nilAt hS6 hb7 HX6 HY6 HW6 HOX6 HOY6 HOW6 H36 HEJ HNJ HEX HNX HEY HNY HTE
              go_wp2_with (go_at_call 15; refine (num_any _ _).mono ?_; rintro e wn ⟨rfl, rfl⟩)
              refine (eqSegs_any ax none [] [] cx 0 _ HXB.out (NA.out _) hlx).mono ?_
              rintro e c1 ⟨rfl, h1⟩
              rw [decide_eq_true (rfl : ([] : List (Int × Int)) = [])]
              have C1 := h1
              go_wp2_with fail
              refine (eqSegs_any ay none [] [] cy 0 _ (HYB.out.below C1 (Nat.le_refl _)) (SegsAt.below (NA.out _) C1 (Nat.le_refl _)) hly).mono ?_
              rintro e c2 ⟨rfl, h2⟩
              rw [decide_eq_true (rfl : ([] : List (Int × Int)) = [])]
              have C2 := nwT C1 h2
              clear C1 h1 h2
              go_wp2_with fail
              refine (eqSegs_any aw none [] [] cw 0 _ (HJB.out.below C2 (Nat.le_refl _)) (SegsAt.below (NA.out _) C2 (Nat.le_refl _)) hlw).mono ?_
              rintro e c3 ⟨rfl, h3⟩
              rw [decide_eq_true (rfl : ([] : List (Int × Int)) = [])]
              have C3 := nwT C2 h3
              have hSc3 := nwT hSB.out C3
              clear C2 h3
              go_wp2_with fail
              refine (eqSegs_any aa ra l l cca rca _ (HA3.out.below (nwT H3B.out C3) (Nat.le_refl _)) (HA.out.below hSc3 (Nat.le_refl _)) hm1).mono ?_
              rintro e c4 ⟨rfl, h4⟩
              rw [decide_eq_true (rfl : l = l)]
              have C4 := nwT C3 h4
              have hSc4 := nwT hSB.out C4
              clear C3 h4 hSc3
              go_wp2_with fail
              refine (eqSegs_any ab rb m m ccb rcb _ (HB3.out.below (nwT H3B.out C4) (Nat.le_refl _)) (HB.out.below hSc4 (Nat.le_refl _)) hm2).mono ?_
              rintro e c5 ⟨rfl, h5⟩
              rw [decide_eq_true (rfl : m = m)]
              have C5 : Below wn.heap.size wn c5 := nwT C4 h5
              clear C4 h5 hSc4
              go_wp2_with fail
              refine (spoil_any w3.heap.size _ [] _ (HOXB.out.below C5) hlx).mono ?_
              rintro e s1 ⟨rfl, g1⟩
              have H31 : Hid (Below w3.heap.size w3 s1) := (nwT H3B.out C5).grown g1 (nwT H3B.out C5).size (fun q e => ((HOXB.out.below C5).lt q e).1)
              have HOY1 : Hid (OwnSegs s1 w4.heap.size (.slice ay [].length cy) []) := (HOYB.out.below C5).grown g1 HXL.out
              have HOW1 : Hid (OwnSegs s1 w5.heap.size (.slice aw [].length cw) []) := (HOWB.out.below C5).grown g1 HXL5.out
              clear g1 C5
              go_wp2_with fail
              refine (spoil_any w4.heap.size _ [] _ HOY1.out hly).mono ?_
              rintro e s2 ⟨rfl, g2⟩
              have H32 : Hid (Below w3.heap.size w3 s2) := H31.out.grown g2 H31.out.size (fun q e => Nat.le_trans hz34 (HOY1.out.lt q e).1)
              have HOW2 : Hid (OwnSegs s2 w5.heap.size (.slice aw [].length cw) []) := HOW1.out.grown g2 HYL.out
              clear g2 H31 HOY1 HOW1
              go_wp2_with fail
              refine (spoil_any w5.heap.size _ [] _ HOW2.out hlw).mono ?_
              rintro e s3 ⟨rfl, g3⟩
              have H33 : Hid (Below w3.heap.size w3 s3) := H32.out.grown g3 H32.out.size (fun q e => Nat.le_trans (Nat.le_trans hz34 hz45) (HOW2.out.lt q e).1)
              have hSs : Below W0.heap.size W0 s3 := nwT HS3.out H33.out
              clear g3 H32 HOW2
              go_wp2_with fail
              refine (eqSegs_any aa ra l l cca rca _ (HA3.out.below H33.out (Nat.le_refl _)) (HA.out.below hSs (Nat.le_refl _)) hm1).mono ?_
              rintro e t1 ⟨rfl, j1⟩
              rw [decide_eq_true (rfl : l = l)]
              have hSt := nwT hSs j1
              clear hSs
              go_wp2_with fail
              refine (eqSegs_any ab rb m m ccb rcb _ (HB3.out.below (nwT H33.out j1) (Nat.le_refl _)) (HB.out.below hSt (Nat.le_refl _)) hm2).mono ?_
              rintro e t2 ⟨rfl, j2⟩
              rw [decide_eq_true (rfl : m = m)]
              have hSt2 := nwT hSt j2
              clear hSt j1 j2 k0 k1 k2
              go_wp2_with fail
              go_roundw
              case rel => exact ⟨n + 1, by omega, by go_num, hSt2⟩
              case measure => simp [intOf]; omega
            · have hS7 : Below W0.heap.size W0 w7 := nwT hS6 hb7
              go_wp2_with fail
              refine (refSegs_any rb m rcb _ (HB.out.below hS7 (Nat.le_refl _)) (by omega)).mono ?_
              rintro e w8 ⟨rfl, hb8'⟩
              have hb8 := nwT hb7 hb8'
              clear hb8' hS7 hb7
              cases hv2 : vOk m
              · have hok : ok = false := by rw [HTE.out, hv1, hv2]; rfl
                subst hok
                rw [show errOf false = 1 from rfl]
                obtain rfl : X = [] := HNX.out rfl
                obtain rfl : Y = [] := HNY.out rfl
                obtain rfl : J = [] := HNJ.out rfl
                have hS8 : Below W0.heap.size W0 w8 := nwT hS6 hb8
                have hSB : Hid (Below W0.heap.size W0 w8) := hS8
                have H3B : Hid (Below w3.heap.size w3 w8) := nwT H36.out hb8
                have HXB : Hid (SegsAt w8 ax []) := HX6.out.below hb8 (Nat.le_refl _)
                have HYB : Hid (SegsAt w8 ay []) := HY6.out.below hb8 (Nat.le_refl _)
                have HJB : Hid (SegsAt w8 aw []) := HW6.out.below hb8 (Nat.le_refl _)
                have HOXB : Hid (OwnSegs w8 w3.heap.size (.slice ax ([] : List (Int × Int)).length cx) []) := HOX6.out.below hb8
                have HOYB : Hid (OwnSegs w8 w4.heap.size (.slice ay ([] : List (Int × Int)).length cy) []) := HOY6.out.below hb8
                have HOWB : Hid (OwnSegs w8 w5.heap.size (.slice aw ([] : List (Int × Int)).length cw) []) := HOW6.out.below hb8
                have nilAt : ∀ w', SegsAt w' none [] := fun w' i hi => by simp at hi
                have NA : Hid (∀ w', SegsAt w' none []) := nilAt
                clear nilAt hS6 hb8 HX6 HY6 HW6 HOX6 HOY6 HOW6 H36 HEJ HNJ HEX HNX HEY HNY HTE
                go_wp2_with (go_at_call 15; refine (num_any _ _).mono ?_; rintro e wn ⟨rfl, rfl⟩)
                refine (eqSegs_any ax none [] [] cx 0 _ HXB.out (NA.out _) hlx).mono ?_
                rintro e c1 ⟨rfl, h1⟩
                rw [decide_eq_true (rfl : ([] : List (Int × Int)) = [])]
                have C1 := h1
                go_wp2_with fail
                refine (eqSegs_any ay none [] [] cy 0 _ (HYB.out.below C1 (Nat.le_refl _)) (SegsAt.below (NA.out _) C1 (Nat.le_refl _)) hly).mono ?_
                rintro e c2 ⟨rfl, h2⟩
                rw [decide_eq_true (rfl : ([] : List (Int × Int)) = [])]
                have C2 := nwT C1 h2
                clear C1 h1 h2
                go_wp2_with fail
                refine (eqSegs_any aw none [] [] cw 0 _ (HJB.out.below C2 (Nat.le_refl _)) (SegsAt.below (NA.out _) C2 (Nat.le_refl _)) hlw).mono ?_
                rintro e c3 ⟨rfl, h3⟩
                rw [decide_eq_true (rfl : ([] : List (Int × Int)) = [])]
                have C3 := nwT C2 h3
                have hSc3 := nwT hSB.out C3
                clear C2 h3
                go_wp2_with fail
                refine (eqSegs_any aa ra l l cca rca _ (HA3.out.below (nwT H3B.out C3) (Nat.le_refl _)) (HA.out.below hSc3 (Nat.le_refl _)) hm1).mono ?_
                rintro e c4 ⟨rfl, h4⟩
                rw [decide_eq_true (rfl : l = l)]
                have C4 := nwT C3 h4
                have hSc4 := nwT hSB.out C4
                clear C3 h4 hSc3
                go_wp2_with fail
                refine (eqSegs_any ab rb m m ccb rcb _ (HB3.out.below (nwT H3B.out C4) (Nat.le_refl _)) (HB.out.below hSc4 (Nat.le_refl _)) hm2).mono ?_
                rintro e c5 ⟨rfl, h5⟩
                rw [decide_eq_true (rfl : m = m)]
                have C5 : Below wn.heap.size wn c5 := nwT C4 h5
                clear C4 h5 hSc4
                go_wp2_with fail
                refine (spoil_any w3.heap.size _ [] _ (HOXB.out.below C5) hlx).mono ?_
                rintro e s1 ⟨rfl, g1⟩
                have H31 : Hid (Below w3.heap.size w3 s1) := (nwT H3B.out C5).grown g1 (nwT H3B.out C5).size (fun q e => ((HOXB.out.below C5).lt q e).1)
                have HOY1 : Hid (OwnSegs s1 w4.heap.size (.slice ay [].length cy) []) := (HOYB.out.below C5).grown g1 HXL.out
                have HOW1 : Hid (OwnSegs s1 w5.heap.size (.slice aw [].length cw) []) := (HOWB.out.below C5).grown g1 HXL5.out
                clear g1 C5
                go_wp2_with fail
                refine (spoil_any w4.heap.size _ [] _ HOY1.out hly).mono ?_
                rintro e s2 ⟨rfl, g2⟩
                have H32 : Hid (Below w3.heap.size w3 s2) := H31.out.grown g2 H31.out.size (fun q e => Nat.le_trans hz34 (HOY1.out.lt q e).1)
                have HOW2 : Hid (OwnSegs s2 w5.heap.size (.slice aw [].length cw) []) := HOW1.out.grown g2 HYL.out
                clear g2 H31 HOY1 HOW1
                go_wp2_with fail
                refine (spoil_any w5.heap.size _ [] _ HOW2.out hlw).mono ?_
                rintro e s3 ⟨rfl, g3⟩
                have H33 : Hid (Below w3.heap.size w3 s3) := H32.out.grown g3 H32.out.size (fun q e => Nat.le_trans (Nat.le_trans hz34 hz45) (HOW2.out.lt q e).1)
                have hSs : Below W0.heap.size W0 s3 := nwT HS3.out H33.out
                clear g3 H32 HOW2
                go_wp2_with fail
                refine (eqSegs_any aa ra l l cca rca _ (HA3.out.below H33.out (Nat.le_refl _)) (HA.out.below hSs (Nat.le_refl _)) hm1).mono ?_
                rintro e t1 ⟨rfl, j1⟩
                rw [decide_eq_true (rfl : l = l)]
                have hSt := nwT hSs j1
                clear hSs
                go_wp2_with fail
                refine (eqSegs_any ab rb m m ccb rcb _ (HB3.out.below (nwT H33.out j1) (Nat.le_refl _)) (HB.out.below hSt (Nat.le_refl _)) hm2).mono ?_
                rintro e t2 ⟨rfl, j2⟩
                rw [decide_eq_true (rfl : m = m)]
                have hSt2 := nwT hSt j2
                clear hSt j1 j2 k0 k1 k2
                go_wp2_with fail
                go_roundw
                case rel => exact ⟨n + 1, by omega, by go_num, hSt2⟩
                case measure => simp [intOf]; omega
              · have hok : ok = true := by rw [HTE.out, hv1, hv2]; rfl
                subst hok
                rw [show errOf true = 0 from rfl]
                have hS8 : Below W0.heap.size W0 w8 := nwT hS6 hb8
                have EJ : Hid (J = segsOf (fun k => memS l k || memS m k)) := HEJ.out rfl
                have EX : Hid (X = segsOf (fun k => memS l k && !memS m k)) := HEX.out rfl
                have EY : Hid (Y = segsOf (fun k => memS l k && memS m k)) := HEY.out rfl
                clear hS6
                go_wp2_with fail
                go_region_held (fun w' => Below W0.heap.size W0 w') (first | assumption | exact Below.drew (by assumption) | exact nwT (by assumption) (by assumption)) (first | (go_at_call_of 32 (Value.int IntKind.i64 0); refine (refTwo0_any ra rb l m rca rcb _ (HA.out.below (by assumption) (Nat.le_refl _)) (HB.out.below (by assumption) (Nat.le_refl _)) hl1 hl2 hv1 hv2).mono ?_; rintro e wA ⟨vt0, rfl, hot0, hbA⟩) | (go_at_call_of 32 (Value.int IntKind.i64 1); refine (refTwo1_any ra rb l m rca rcb _ (HA.out.below (by assumption) (Nat.le_refl _)) (HB.out.below (by assumption) (Nat.le_refl _)) hl1 hl2 hv1 hv2).mono ?_; rintro e wB ⟨vt1, rfl, hot1, hbB⟩) | (go_at_call_of 32 (Value.int IntKind.i64 2); refine (refTwo2_any ra rb l m rca rcb _ (HA.out.below (by assumption) (Nat.le_refl _)) (HB.out.below (by assumption) (Nat.le_refl _)) hl1 hl2 hv1 hv2).mono ?_; rintro e wC ⟨vt2, rfl, hot2, hbC⟩))
                have hSC : Below W0.heap.size W0 wC := by assumption
                rw [← EJ.out] at hot0
                rw [← EX.out] at hot1
                rw [← EY.out] at hot2
                have hb6C : Below w6.heap.size w6 wC := nwT hb8 (nwT (nwT (nwd hbA) hbB) hbC)
                have HT0 : Hid (OwnSegs wC w8.drew.heap.size vt0 J) := (OwnSegs.below hot0 hbB).below hbC
                have HT1 : Hid (OwnSegs wC wA.heap.size vt1 X) := OwnSegs.below hot1 hbC
                have HT2 : Hid (OwnSegs wC wB.heap.size vt2 Y) := hot2
                obtain ⟨j0, cj0, rfl, hj0⟩ := HT0.out.at
                obtain ⟨j1, cj1, rfl, hj1⟩ := HT1.out.at
                obtain ⟨j2, cj2, rfl, hj2⟩ := HT2.out.at
                have RJ : Hid (SegsAt wC j0 J) := hj0
                have RX : Hid (SegsAt wC j1 X) := hj1
                have RY : Hid (SegsAt wC j2 Y) := hj2
                have hSB : Hid (Below W0.heap.size W0 wC) := hSC
                have H3B : Hid (Below w3.heap.size w3 wC) := nwT H36.out hb6C
                have HXB : Hid (SegsAt wC ax X) := HX6.out.below hb6C (Nat.le_refl _)
                have HYB : Hid (SegsAt wC ay Y) := HY6.out.below hb6C (Nat.le_refl _)
                have HJB : Hid (SegsAt wC aw J) := HW6.out.below hb6C (Nat.le_refl _)
                have HOXB : Hid (OwnSegs wC w3.heap.size (.slice ax X.length cx) X) := HOX6.out.below hb6C
                have HOYB : Hid (OwnSegs wC w4.heap.size (.slice ay Y.length cy) Y) := HOY6.out.below hb6C
                have HOWB : Hid (OwnSegs wC w5.heap.size (.slice aw J.length cw) J) := HOW6.out.below hb6C
                clear hj0 hj1 hj2 hot0 hot1 hot2 hbA hbB hbC hb8 hb6C HT0 HT1 HT2 HX6 HY6 HW6 HOX6 HOY6 HOW6 H36 HEJ HNJ HEX HNX HEY HNY HTE
                go_wp2_with (go_at_call 15; refine (num_any _ _).mono ?_; rintro e wn ⟨rfl, rfl⟩)
                refine (eqSegs_any ax j1 X X cx cj1 _ HXB.out RX.out hlx).mono ?_
                rintro e c1 ⟨rfl, h1⟩
                rw [decide_eq_true (rfl : (X : List (Int × Int)) = X)]
                have C1 := h1
                go_wp2_with fail
                refine (eqSegs_any ay j2 Y Y cy cj2 _ (HYB.out.below C1 (Nat.le_refl _)) (SegsAt.below RY.out C1 (Nat.le_refl _)) hly).mono ?_
                rintro e c2 ⟨rfl, h2⟩
                rw [decide_eq_true (rfl : (Y : List (Int × Int)) = Y)]
                have C2 := nwT C1 h2
                clear C1 h1 h2
                go_wp2_with fail
                refine (eqSegs_any aw j0 J J cw cj0 _ (HJB.out.below C2 (Nat.le_refl _)) (SegsAt.below RJ.out C2 (Nat.le_refl _)) hlw).mono ?_
                rintro e c3 ⟨rfl, h3⟩
                rw [decide_eq_true (rfl : (J : List (Int × Int)) = J)]
                have C3 := nwT C2 h3
                have hSc3 := nwT hSB.out C3
                clear C2 h3
                go_wp2_with fail
                refine (eqSegs_any aa ra l l cca rca _ (HA3.out.below (nwT H3B.out C3) (Nat.le_refl _)) (HA.out.below hSc3 (Nat.le_refl _)) hm1).mono ?_
                rintro e c4 ⟨rfl, h4⟩
                rw [decide_eq_true (rfl : l = l)]
                have C4 := nwT C3 h4
                have hSc4 := nwT hSB.out C4
                clear C3 h4 hSc3
                go_wp2_with fail
                refine (eqSegs_any ab rb m m ccb rcb _ (HB3.out.below (nwT H3B.out C4) (Nat.le_refl _)) (HB.out.below hSc4 (Nat.le_refl _)) hm2).mono ?_
                rintro e c5 ⟨rfl, h5⟩
                rw [decide_eq_true (rfl : m = m)]
                have C5 : Below wn.heap.size wn c5 := nwT C4 h5
                clear C4 h5 hSc4
                go_wp2_with fail
                refine (spoil_any w3.heap.size _ X _ (HOXB.out.below C5) hlx).mono ?_
                rintro e s1 ⟨rfl, g1⟩
                have H31 : Hid (Below w3.heap.size w3 s1) := (nwT H3B.out C5).grown g1 (nwT H3B.out C5).size (fun q e => ((HOXB.out.below C5).lt q e).1)
                have HOY1 : Hid (OwnSegs s1 w4.heap.size (.slice ay Y.length cy) Y) := (HOYB.out.below C5).grown g1 HXL.out
                have HOW1 : Hid (OwnSegs s1 w5.heap.size (.slice aw J.length cw) J) := (HOWB.out.below C5).grown g1 HXL5.out
                clear g1 C5
                go_wp2_with fail
                refine (spoil_any w4.heap.size _ Y _ HOY1.out hly).mono ?_
                rintro e s2 ⟨rfl, g2⟩
                have H32 : Hid (Below w3.heap.size w3 s2) := H31.out.grown g2 H31.out.size (fun q e => Nat.le_trans hz34 (HOY1.out.lt q e).1)
                have HOW2 : Hid (OwnSegs s2 w5.heap.size (.slice aw J.length cw) J) := HOW1.out.grown g2 HYL.out
                clear g2 H31 HOY1 HOW1
                go_wp2_with fail
                refine (spoil_any w5.heap.size _ J _ HOW2.out hlw).mono ?_
                rintro e s3 ⟨rfl, g3⟩
                have H33 : Hid (Below w3.heap.size w3 s3) := H32.out.grown g3 H32.out.size (fun q e => Nat.le_trans (Nat.le_trans hz34 hz45) (HOW2.out.lt q e).1)
                have hSs : Below W0.heap.size W0 s3 := nwT HS3.out H33.out
                clear g3 H32 HOW2
                go_wp2_with fail
                refine (eqSegs_any aa ra l l cca rca _ (HA3.out.below H33.out (Nat.le_refl _)) (HA.out.below hSs (Nat.le_refl _)) hm1).mono ?_
                rintro e t1 ⟨rfl, j1⟩
                rw [decide_eq_true (rfl : l = l)]
                have hSt := nwT hSs j1
                clear hSs
                go_wp2_with fail
                refine (eqSegs_any ab rb m m ccb rcb _ (HB3.out.below (nwT H33.out j1) (Nat.le_refl _)) (HB.out.below hSt (Nat.le_refl _)) hm2).mono ?_
                rintro e t2 ⟨rfl, j2⟩
                rw [decide_eq_true (rfl : m = m)]
                have hSt2 := nwT hSt j2
                clear hSt j1 j2 k0 k1 k2
                go_wp2_with fail
                go_roundw
                case rel => exact ⟨n + 1, by omega, by go_num, hSt2⟩
                case measure => simp [intOf]; omega
          · have hn2 : ¬ ((n : Int) < (ls.length : Int)) ∨ ((n : Int) < (ls.length : Int) ∧ ¬ (n : Int) < 5) := by omega
            clear hn1
            rcases hn2 with hn2 | ⟨hn2, hn3⟩
            all_goals
              go_wp2_with fail
              go_roundw
              case rel => exact ⟨k + 1, by omega, by go_num, hbq⟩
              case measure => simp [intOf]; omega
      · have hk2 : ¬ ((k : Int) < (ls.length : Int)) ∨ ((k : Int) < (ls.length : Int) ∧ ¬ (k : Int) < 5) := by omega
        clear hk1
        rcases hk2 with hk2 | ⟨hk2, hk3⟩
        all_goals
          go_wp2_with fail
          refine (join_any none [] 0 _ (fun i hi => by simp at hi) (by simp [maxLen])).mono ?_
          rintro e w2 ⟨v, rfl, ho, hb2⟩
          rw [show jset [] = [] from jset_nil] at ho
          obtain ⟨az, cz, rfl, _⟩ := ho.at
          clear ho
          rw [show allOk [] = true from rfl, show errOf true = 0 from rfl]
          go_wp2_with (go_at_call 15; refine (num_any _ _).mono ?_; rintro e wn ⟨rfl, rfl⟩)
          refine (wakes_any _).mono ?_
          rintro e w3 ⟨rfl, hb3⟩
          go_wp2_with fail
          go_ret
          exact ⟨rfl, nwT HN0.out (nwT (nwT hb hb2) hb3)⟩
  · go_wp2_with fail
    go_ret
    exact ⟨rfl, nwT HN0.out hb1⟩

end Go.Proofs.Ytpkgoagoceddoaa
