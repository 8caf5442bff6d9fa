/- Laid together: Gone, Risep, Gonep, Blocks, Named. -/
import Derived.Test.YtbaphgdlbeaenaaGreatReachNamedM12
import Derived.BigQuiet
import Derived.Deep.QuietTactic
/- What is in none of some lists, by the program. -/
namespace Go.Proofs.YtbaphgdlbeaenaaGreat
open Go.RowKit

theorem rowsAt_one (w : World) (a : Option Addr) (l : List Int) (ca : Nat) (h : IntsAt w a l) (hc : a = none → ca = 0) : RowsAt (w.alloc (.cells #[.slice a l.length ca] 32)) (some ⟨w.heap.size, 0, none⟩) [(a, ca, l)] :=
  .inr ⟨w.heap.size, 0, rfl, fun i hi => by
    have : i = 0 := by simpa using hi
    subst this
    refine ⟨?_, h.below (nwA (nwR w) _), hc⟩
    simp [rowV]⟩

set_option maxRecDepth 100000 in
set_option maxHeartbeats 4000000 in
theorem gone_any (a : Option Addr) (l : List Int) (ca : Nat) (ar : Option Addr) (rs : List RowD) (car : Nat) (w : World) (hi : IntsAt w a l) (hc : a = none → ca = 0) (hll : l.length ≤ 1000000) (hr : RowsAt w ar rs) (hl : rs.length ≤ 1000000) (hn : (allN rs).length ≤ 1000000) :
    Calls Tryz.prog 33 #[.slice a l.length ca, .slice ar rs.length car] w fun e w' => (∃ u, e = .returned u ∧ OwnInts w' w.heap.size u (goneN l (rs.map fun r => r.2.2))) ∧ Below w.heap.size w w' := by
  have HR : Hid (RowsAt w ar rs) := hr
  have HN : Hid ((allN rs).length ≤ 1000000) := hn
  have HG : Hid (zerosN (risN l) (cntN (risN l) (allN rs)) (risN l).length = goneN l (rs.map fun r => r.2.2)) := by
    show _ = _
    rw [zerosN_cnt, ← goneN_eq]; rfl
  have hsl : (risN l).length ≤ 1000000 := Nat.le_trans (risN_len _) hll
  have HLT : Hid ((risN l).Pairwise (· < ·)) := risN_lt l
  have HAL : Hid (risN (allN [((a, ca, l) : RowD)]) = risN l) := by show _ = _; simp [allN]
  rw [← HG.out]
  have HB1 : Hid (Below w.heap.size w (w.alloc (.cells #[.slice a l.length ca] 32))) := nwA (nwR w) _
  have HTO : Hid (Calls Tryz.prog 26 #[.slice (some ⟨w.heap.size, 0, none⟩) 1 1] (w.alloc (.cells #[.slice a l.length ca] 32)) fun e w' => (∃ v T, e = .returned (.agg #[v, .slice (some ⟨T, 0, none⟩) (risN l).length (risN l).length]) ∧ OwnInts w' w.heap.size v (risN l) ∧ RowN w' w.heap.size T (List.replicate (risN l).length 0) ∧ v.ownBlock ≠ some T) ∧ Below w.heap.size w w') := by
    have h := tallyOf_any _ _ 1 _ (rowsAt_one w a l ca hi hc) (by simp) (by simpa [allN] using hll)
    rw [HAL.out] at h
    refine h.mono ?_
    rintro e w' ⟨⟨v, T, h1, h2, h3, h4⟩, h5⟩
    exact ⟨⟨v, T, h1, own_le h2 HB1.out.size, own_le h3 HB1.out.size, h4⟩, nwT HB1.out h5⟩
  clear hr hn hi hc HAL HB1 HG
  generalize risN l = s at hsl HLT HTO ⊢
  go_enter Tryz.func33, Tryz.ntmps33
  go_wp2_with fail
  refine HTO.out.mono ?_
  rintro e w2 ⟨⟨v, T, rfl, hO2, hR2, hne⟩, hb2⟩
  obtain ⟨av, cv, rfl, _⟩ := id hO2.at
  have HO3 : Hid (OwnInts (w2.alloc (.cells #[.slice av s.length cv, .slice (some ⟨T, 0, none⟩) s.length s.length] 57)) w.heap.size (.slice av s.length cv) s) := own_below hO2 (nwA (nwR w2) _)
  have HR3 : Hid (RowN (w2.alloc (.cells #[.slice av s.length cv, .slice (some ⟨T, 0, none⟩) s.length s.length] 57)) w.heap.size T (cntN s [])) := by rw [cntN_nil]; exact hR2.below (nwA (nwR w2) _)
  have HB3 : Hid (Below w.heap.size w (w2.alloc (.cells #[.slice av s.length cv, .slice (some ⟨T, 0, none⟩) s.length s.length] 57))) := nwA hb2 _
  have HX3 : Hid ((w2.alloc (.cells #[.slice av s.length cv, .slice (some ⟨T, 0, none⟩) s.length s.length] 57)).heap[w2.heap.size]? = some (.cells #[.slice av s.length cv, .slice (some ⟨T, 0, none⟩) s.length s.length] 57 (0, 0))) := heap_alloc_new w2 _
  have HT : Hid (w.heap.size ≤ T ∧ T < w2.heap.size) := hR2.lt
  have HNE : Hid ((Value.slice av s.length cv).ownBlock ≠ some T) := hne
  clear HTO hO2 hR2 hb2 hne
  obtain ⟨x0, x1, _⟩ := two_cells HX3.out
  go_wp2_with fail
  have HME : Hid (Calls Tryz.prog 27 #[.agg #[.slice av s.length cv, .slice (some ⟨T, 0, none⟩) s.length s.length], .slice ar rs.length car] (w2.alloc (.cells #[.slice av s.length cv, .slice (some ⟨T, 0, none⟩) s.length s.length] 57)) fun e w' => e = .returned (.tuple #[]) ∧ OwnInts w' w.heap.size (.slice av s.length cv) s ∧ RowN w' w.heap.size T (cntN s (allN rs)) ∧ (w2.alloc (.cells #[.slice av s.length cv, .slice (some ⟨T, 0, none⟩) s.length s.length] 57)).grownBy w' (some T)) :=
    meet_any w.heap.size T (.slice av s.length cv) s ar rs car w _ HB3.out HT.out.1 HR.out hl HN.out HO3.out HLT.out (by omega) HR3.out HNE.out
  generalize w2.alloc (.cells #[.slice av s.length cv, .slice (some ⟨T, 0, none⟩) s.length s.length] 57) = W3 at HB3 HX3 HME ⊢
  refine HME.out.mono ?_
  rintro e w4 ⟨rfl, hO4, hR4, hg4⟩
  have HX4 : Hid (w4.heap[w2.heap.size]? = some (.cells #[.slice av s.length cv, .slice (some ⟨T, 0, none⟩) s.length s.length] 57 (0, 0))) := (hg4.block _ (Array.getElem?_eq_some_iff.1 HX3.out).1 (by have := HT.out.2; simp; omega)).trans HX3.out
  have HB4 : Hid (Below w.heap.size w w4) := HB3.out.grown hg4 HB3.out.size (fun k e => by injection e with e; have := HT.out.1; omega)
  have HUN : Hid (Calls Tryz.prog 51 #[.agg #[.slice av s.length cv, .slice (some ⟨T, 0, none⟩) s.length s.length]] w4 fun e w' => (∃ u, e = .returned u ∧ OwnInts w' w4.heap.size u (zerosN s (cntN s (allN rs)) s.length)) ∧ Below w4.heap.size w4 w') :=
    unmet_any w.heap.size T (.slice av s.length cv) s _ w4 hO4 hsl hR4 (cntN_len _ _)
  clear x0 x1 HME HX3 HB3 hO4 hR4 hg4 HO3 HR3
  obtain ⟨x0, x1, _⟩ := two_cells HX4.out
  go_wp2_with fail
  refine HUN.out.mono ?_
  rintro e w5 ⟨⟨u, rfl, hO5⟩, hb5⟩
  have HO5 : Hid (OwnInts w5 w.heap.size u (zerosN s (cntN s (allN rs)) s.length)) := own_le hO5 HB4.out.size
  have HB5 : Hid (Below w.heap.size w w5) := nwT HB4.out hb5
  clear hO5 hb5 HUN
  go_wp2_with fail
  go_ret
  exact ⟨⟨_, rfl, HO5.out⟩, HB5.out⟩

end Go.Proofs.YtbaphgdlbeaenaaGreat

/- Numbers rising, each once, and what is in none of some lists, by the page. -/
namespace Go.Proofs.YtbaphgdlbeaenaaGreat
open Go.RowKit

/-- a row with one number put in, half way -/
def holeN (ys : List Int) (j : Nat) (z : Int) : List Int := ys.take j ++ z :: ys.drop j
theorem holeN_len (ys : List Int) (j : Nat) (z : Int) (h : j ≤ ys.length) : (holeN ys j z).length = ys.length + 1 := by simp [holeN]; omega
theorem holeN_step {ys : List Int} {j : Nat} (h : j + 1 ≤ ys.length) (z : Int) : (holeN ys (j + 1) z).set (j + 1) (ys.getD j 0) = holeN ys j (ys.getD j 0) := by
  unfold holeN
  have hj : j < ys.length := by omega
  have e1 : ys.take (j + 1) = ys.take j ++ [ys[j]] := List.take_succ_eq_append_getElem hj
  have e2 : ys.drop j = ys[j] :: ys.drop (j + 1) := List.drop_eq_getElem_cons hj
  have e3 : ys.getD j 0 = ys[j] := by simp [List.getD, hj]
  have hl : (ys.take (j + 1)).length = j + 1 := by simp; omega
  rw [e3, List.set_append, if_neg (by omega), hl, Nat.sub_self, e1, e2, List.set_cons_zero, List.append_assoc]; rfl
theorem holeN_get {ys : List Int} {j : Nat} (h : j + 1 ≤ ys.length) (z : Int) : (holeN ys (j + 1) z)[j]? = some (ys.getD j 0) := by
  unfold holeN
  rw [List.getElem?_append_left (by simp; omega), List.getElem?_take_of_lt (by omega)]
  simp [List.getD, show j < ys.length by omega]
theorem holeN_set {ys : List Int} {j : Nat} (h : j ≤ ys.length) (z x : Int) : (holeN ys j z).set j x = holeN ys j x := by
  unfold holeN
  rw [List.set_append, if_neg (by simp; omega)]
  simp [Nat.min_eq_left h]
theorem holeN_end (ys : List Int) : holeN ys ys.length 0 = ys ++ [0] := by simp [holeN]

set_option maxRecDepth 100000 in
set_option maxHeartbeats 4000000 in
theorem rising_any (a : Option Addr) (l : List Int) (ca : Nat) (w : World) (hi : IntsAt w a l) (hl : l.length ≤ 1000000) :
    Calls Tryz.prog 29 #[.slice a l.length ca] w fun e w' => (∃ v, e = .returned v ∧ OwnInts w' w.heap.size v (risN l)) ∧ Below w.heap.size w w' := by
  have HI : Hid (IntsAt w a l) := hi
  clear hi
  obtain ⟨i0, hi, hz0, hz1, hz2⟩ := info_parts Tryz.info3
  go_enter Tryz.func29, Tryz.ntmps29
  go_wp2_with fail
  go_loopw [3, 4] (fun v i wr => ∃ (k : Nat), k ≤ l.length ∧ i = .int .i64 k ∧ OwnInts wr w.heap.size v (risN (l.take k)) ∧ Below w.heap.size w wr)
    (fun _ i _ => l.length - (intOf i).toNat)
  case atStart => exact ⟨0, by omega, rfl, World.ownsRow_nil _ _ _ _, nwR w⟩
  case round =>
    obtain ⟨k, hk, rfl, hO, hb⟩ := hrel
    have HO : Hid (OwnInts wr w.heap.size u3 (risN (l.take k))) := hO
    have HB : Hid (Below w.heap.size w wr) := hb
    clear hO
    by_cases hkl : k < l.length
    · have hkli : (k : Int) < (l.length : Int) := by omega
      obtain ⟨b1, o1, rfl, hc⟩ := HI.out.cell hkl
      have HC : Hid (w.cell? ⟨b1, o1 + k, none⟩ = some (.int .i64 (l.getD k 0))) := hc
      have HX : Hid (risN (l.take (k + 1)) = insN (l.getD k 0) (risN (l.take k))) := by
        show _ = _
        rw [List.take_succ_eq_append_getElem hkl, risN_snoc]; simp [List.getD, hkl]
      have hyl : (risN (l.take k)).length ≤ 1000000 := Nat.le_trans (risN_len _) (by rw [List.length_take]; omega)
      generalize l.getD k 0 = x at hc HC HX
      generalize risN (l.take k) = ys at HO HX hyl
      obtain ⟨av, cv, rfl, hav, _⟩ := id HO.out.at
      have HAV : Hid (IntsAt wr av ys) := hav
      clear hc hb hav
      rename World => wA
      go_wp2_with fail
      go_loopw [5] (fun i w2 => ∃ (m : Nat), m ≤ ys.length ∧ i = .int .i64 m ∧ Hid (∀ j, j < m → ys.getD j 0 < x) ∧ Hid (Below wA.heap.size wA w2))
        (fun i _ => ys.length - (intOf i).toNat)
      case atStart => exact ⟨0, by omega, rfl, fun j hj => by omega, nwR wA⟩
      case round =>
        obtain ⟨m, hm, rfl, HL, HW⟩ := hrel
        have HCW : Hid (wr.cell? ⟨b1, o1 + k, none⟩ = some (.int .i64 x)) := ((nwT HB.out HW.out).cell (p := ⟨b1, o1 + k, none⟩) (block_lt_of_cell HC.out)).trans HC.out
        by_cases hml : m < ys.length
        · have hmi : (m : Int) < (ys.length : Int) := by omega
          obtain ⟨b2, o2, rfl, hy⟩ := (HAV.out.below HW.out).cell hml
          have HLE : Hid (ys.getD m 0 < x → ∀ j, j < m + 1 → ys.getD j 0 < x) := fun h j hj => by
            by_cases e : j = m
            · subst e; exact h
            · exact HL.out j (by omega)
          have HGE : Hid (ys.getD m 0 = ys.getD m 0) := rfl
          generalize hyy : ys.getD m 0 = y at hy HLE
          have HY : Hid (ys.getD m 0 = y) := hyy
          clear hyy HGE
          have hx := HCW.out
          by_cases hyx : y < x
          · have HLN := HLE.out hyx
            have HLM : Hid (∀ j, j < m + 1 → ys.getD j 0 < x) := HLN
            clear HLN HLE
            go_wp2_with fail
            go_quiet (fail)
            have HWB : Hid (Below wA.heap.size wA (wr.drewN nq)) := below_drewN HW.out _
            generalize wr.drewN nq = wB at HWB ⊢
            go_wp2_with fail
            go_roundw
            case rel => exact ⟨m + 1, by omega, by go_num, HLM, HWB⟩
            case measure => simp [intOf]; omega
          · have hd0 : decide (y < x) = false := decide_eq_false hyx
            go_wp2_with fail
            go_quiet (fail)
            have HWB : Hid (Below wA.heap.size wA (wr.drewN nq)) := below_drewN HW.out _
            generalize wr.drewN nq = wB at HWB ⊢
            have HCB : Hid (wB.cell? ⟨b1, o1 + k, none⟩ = some (.int .i64 x)) := ((nwT HB.out HWB.out).cell (p := ⟨b1, o1 + k, none⟩) (block_lt_of_cell HC.out)).trans HC.out
            obtain ⟨_, _, e, hyb⟩ := (HAV.out.below HWB.out).cell hml
            injection e with e
            injection e with e1 e2
            subst e1; subst e2
            rw [HY.out] at hyb
            clear hy hx HCW HW
            have hx := HCB.out
            by_cases hye : y = x
            · have hyq : (y == x) = true := by rw [hye]; simp
              have HN : Hid (risN (l.take (k + 1)) = ys) := by
                show _ = _
                rw [HX.out, insN_at x ys m hm HL.out (fun _ => by rw [HY.out]; omega), if_pos ⟨hml, by rw [HY.out]; exact hye⟩]
              clear hye
              go_wp2_with fail
              go_quiet (fail)
              have HOW : Hid (OwnInts (wB.drewN nq) w.heap.size (.slice (some ⟨b2, o2, none⟩) ys.length cv) ys) := own_below HO.out (below_drewN HWB.out _)
              have HBW : Hid (Below w.heap.size w (wB.drewN nq)) := nwT HB.out (below_drewN HWB.out _)
              generalize wB.drewN nq = wC at HOW HBW ⊢
              go_wp2_with fail
              go_roundw
              case rel => exact ⟨k + 1, by omega, by go_num, by rw [HN.out]; exact HOW.out, HBW.out⟩
              case measure => simp [intOf]; omega
            · have hyq : (y == x) = false := beq_eq_false_iff_ne.2 hye
              have HN : Hid (risN (l.take (k + 1)) = holeN ys m x) := by
                show _ = _
                rw [HX.out, insN_at x ys m hm HL.out (fun _ => by rw [HY.out]; omega), if_neg (fun h => hye (by rw [← HY.out]; exact h.2))]; rfl
              clear hye
              go_wp2_with fail
              go_quiet (fail)
              have HWC : Hid (Below wA.heap.size wA (wB.drewN nq)) := below_drewN HWB.out _
              generalize wB.drewN nq = wC at HWC ⊢
              clear HWB hx hyb HCB
              have HOW : Hid (OwnInts wC w.heap.size (.slice (some ⟨b2, o2, none⟩) ys.length cv) ys) := own_below HO.out HWC.out
              have HBW : Hid (Below w.heap.size w wC) := nwT HB.out HWC.out
              have hsz : w.heap.size ≤ (wC.alloc (.cells #[.int .i64 0] 3)).heap.size := (nwA HBW.out _).size
              have hc3 : ys.length + 1 ≤ maxLen := by unfold maxLen; omega
              have hc4 : (ys.length + 1) * 8 ≤ 140737488355328 := by omega
              go_wp2_with (at_builtin; refine wpList_append_own _ rfl (.tmp 45) (.tmp 46) 32 rfl w.heap.size 3 i0 (.int .i64 0) 1 8 Tryz.underlying32 hi hz0 hz1 hz2 rfl (by decide) (.slice (some ⟨b2, o2, none⟩) ys.length cv) ys.length (ys.map (.int .i64)) rfl (World.ownsRow.alloc HOW.out _) ⟨wC.heap.size, 0, none⟩ 1 1 [.int .i64 0] rfl rfl (cells_new _ [.int .i64 0] _) (by simp [Value.oneCell']) hc3 hc4 hsz ?_; intro v' w3 hown hgrow _; refine unstop ?_)
              unfold Stop
              obtain ⟨g, cap, rfl, hg1, hg2⟩ := slice_cells hown (by omega)
              have HB3 : Hid (Below w.heap.size w w3) := (nwA HBW.out _).grown hgrow (nwA HBW.out _).size (fun q e => (World.ownsRow.lt HOW.out q e).1)
              have HR3 : Hid (w3.ownsRow w.heap.size 3 1 (.slice (some ⟨g, 0, none⟩) (ys.length + 1) cap) (ys.length + 1) ((holeN ys ys.length 0).map (.int .i64))) := by
                show World.ownsRow _ _ _ _ _ _ _
                rw [holeN_end, List.map_append]; exact hown
              have HYL : Hid (∃ n1, n1 = ys.length + 1) := ⟨_, rfl⟩
              obtain ⟨n1, hn1⟩ := HYL.out
              have HN1 : Hid (n1 = ys.length + 1) := hn1
              have hn1a : n1 ≤ ys.length + 1 := by omega
              have hn1b : ys.length + 1 ≤ n1 := by omega
              have hn1c : (n1 : Int) - 1 = (ys.length : Int) := by omega
              rw [← hn1] at HR3 ⊢
              clear hn1 HYL hown hgrow HOW HBW hc3 hc4 hsz
              go_wp2_with fail
              go_loopw [6] (fun i w4 => ∃ (j : Nat) (z : Int), m ≤ j ∧ j ≤ ys.length ∧ i = .int .i64 j ∧ Hid (w4.ownsRow w.heap.size 3 1 (.slice (some ⟨g, 0, none⟩) n1 cap) n1 ((holeN ys j z).map (.int .i64))) ∧ Hid (Below w.heap.size w w4))
                (fun i _ => (intOf i).toNat)
              case atStart => exact ⟨ys.length, 0, hm, by omega, by go_num, HR3, HB3⟩
              case round =>
                obtain ⟨j, z, hmj, hjy, rfl, HRW, HBW⟩ := hrel
                clear HR3 HB3
                have tf : ∀ o, wr.frozen? ⟨g, o, none⟩ = false := fun o => World.ownsRow.frozenAt HRW.out o
                have hjn : (j : Int) < (n1 : Int) := by omega
                have hjn0 : (0 : Int) ≤ (j : Int) := by omega
                by_cases hjm : m < j
                · have hjmi : (j : Int) > (m : Int) := by omega
                  obtain ⟨i, hi1⟩ : ∃ i, j = i + 1 := ⟨j - 1, by omega⟩
                  have hji : (j : Int) - 1 = (i : Int) := by omega
                  have hin : (i : Int) < (n1 : Int) := by omega
                  have hin0 : (0 : Int) ≤ (i : Int) := by omega
                  have him : m ≤ i := by omega
                  have hiy : i ≤ ys.length := by omega
                  have hij : i < j := by omega
                  have c0 : wr.cell? ⟨g, i, none⟩ = some (.int .i64 (ys.getD i 0)) := by
                    rw [World.ownsRow.cellAt HRW.out i (by omega), List.getElem?_map, hi1, holeN_get (by omega)]; rfl
                  have c1 : (wr.cell? ⟨g, j, none⟩).isSome = true := by
                    rw [World.ownsRow.cellAt HRW.out j (by omega), List.getElem?_map, List.getElem?_eq_getElem (by rw [holeN_len _ _ _ hjy]; omega)]; rfl
                  obtain ⟨c1v, c1⟩ := Option.isSome_iff_exists.1 c1
                  have HN2 : Hid ((wr.setCell ⟨g, j, none⟩ (.int .i64 (ys.getD i 0))).ownsRow w.heap.size 3 1 (.slice (some ⟨g, 0, none⟩) n1 cap) n1 ((holeN ys i (ys.getD i 0)).map (.int .i64))) := by
                    have h := (World.ownsRow.stored HRW.out j (.int .i64 (ys.getD i 0))).1
                    rw [← List.map_set, hi1, holeN_step (by omega), ← hi1] at h
                    exact h
                  have HB2 : Hid (Below w.heap.size w (wr.setCell ⟨g, j, none⟩ (.int .i64 (ys.getD i 0)))) := HBW.out.setCell (p := ⟨g, j, none⟩) hg1 _
                  generalize ys.getD i 0 = q at c0 HN2 HB2
                  clear HRW HBW hi1
                  go_wp2_with fail
                  go_roundw
                  case rel => exact ⟨i, q, by omega, by omega, by go_num, HN2, HB2⟩
                  case measure => simp [intOf]; omega
                · have hjmi : ¬ (j : Int) > (m : Int) := by omega
                  obtain rfl : j = m := by omega
                  have hx : wr.cell? ⟨b1, o1 + k, none⟩ = some (.int .i64 x) := (HBW.out.cell (p := ⟨b1, o1 + k, none⟩) (block_lt_of_cell HC.out)).trans HC.out
                  have c1 : (wr.cell? ⟨g, j, none⟩).isSome = true := by
                    rw [World.ownsRow.cellAt HRW.out j (by omega), List.getElem?_map, List.getElem?_eq_getElem (by rw [holeN_len _ _ _ hjy]; omega)]; rfl
                  obtain ⟨c1v, c1⟩ := Option.isSome_iff_exists.1 c1
                  have HN2 : Hid (OwnInts (wr.setCell ⟨g, j, none⟩ (.int .i64 x)) w.heap.size (.slice (some ⟨g, 0, none⟩) n1 cap) (risN (l.take (k + 1)))) := by
                    have h := (World.ownsRow.stored HRW.out j (.int .i64 x)).1
                    rw [← List.map_set, holeN_set hjy] at h
                    show OwnInts _ _ _ _
                    rw [HN.out]
                    unfold OwnInts
                    rw [holeN_len _ _ _ hjy, ← HN1.out]
                    exact h
                  have HB2 : Hid (Below w.heap.size w (wr.setCell ⟨g, j, none⟩ (.int .i64 x))) := HBW.out.setCell (p := ⟨g, j, none⟩) hg1 _
                  clear HRW HBW
                  go_wp2_with fail
                  go_roundw
                  case rel => exact ⟨k + 1, by omega, by go_num, HN2.out, HB2.out⟩
                  case measure => simp [intOf]; omega
        · have hmi : ¬ (m : Int) < (ys.length : Int) := by omega
          have hd1 : decide ((m : Int) < (ys.length : Int)) = false := decide_eq_false hmi
          have HN : Hid (risN (l.take (k + 1)) = holeN ys m x) := by
            show _ = _
            rw [HX.out, insN_at x ys m hm HL.out (fun h => absurd h hml), if_neg (fun h => hml h.1)]; rfl
          go_wp2_with fail
          go_quiet (fail)
          have HWB : Hid (Below wA.heap.size wA (wr.drewN nq)) := below_drewN HW.out _
          generalize wr.drewN nq = wB at HWB ⊢
          clear HW HCW
          go_wp2_with fail
          go_quiet (fail)
          have HWC : Hid (Below wA.heap.size wA (wB.drewN nq)) := below_drewN HWB.out _
          generalize wB.drewN nq = wC at HWC ⊢
          clear HWB
          have HOW : Hid (OwnInts wC w.heap.size (.slice av ys.length cv) ys) := own_below HO.out HWC.out
          have HBW : Hid (Below w.heap.size w wC) := nwT HB.out HWC.out
          have hsz : w.heap.size ≤ (wC.alloc (.cells #[.int .i64 0] 3)).heap.size := (nwA HBW.out _).size
          have hc3 : ys.length + 1 ≤ maxLen := by unfold maxLen; omega
          have hc4 : (ys.length + 1) * 8 ≤ 140737488355328 := by omega
          go_wp2_with (at_builtin; refine wpList_append_own _ rfl (.tmp 45) (.tmp 46) 32 rfl w.heap.size 3 i0 (.int .i64 0) 1 8 Tryz.underlying32 hi hz0 hz1 hz2 rfl (by decide) (.slice av ys.length cv) ys.length (ys.map (.int .i64)) rfl (World.ownsRow.alloc HOW.out _) ⟨wC.heap.size, 0, none⟩ 1 1 [.int .i64 0] rfl rfl (cells_new _ [.int .i64 0] _) (by simp [Value.oneCell']) hc3 hc4 hsz ?_; intro v' w3 hown hgrow _; refine unstop ?_)
          unfold Stop
          obtain ⟨g, cap, rfl, hg1, hg2⟩ := slice_cells hown (by omega)
          have HB3 : Hid (Below w.heap.size w w3) := (nwA HBW.out _).grown hgrow (nwA HBW.out _).size (fun q e => (World.ownsRow.lt HOW.out q e).1)
          have HR3 : Hid (w3.ownsRow w.heap.size 3 1 (.slice (some ⟨g, 0, none⟩) (ys.length + 1) cap) (ys.length + 1) ((holeN ys ys.length 0).map (.int .i64))) := by
            show World.ownsRow _ _ _ _ _ _ _
            rw [holeN_end, List.map_append]; exact hown
          have HYL : Hid (∃ n1, n1 = ys.length + 1) := ⟨_, rfl⟩
          obtain ⟨n1, hn1⟩ := HYL.out
          have HN1 : Hid (n1 = ys.length + 1) := hn1
          have hn1a : n1 ≤ ys.length + 1 := by omega
          have hn1b : ys.length + 1 ≤ n1 := by omega
          have hn1c : (n1 : Int) - 1 = (ys.length : Int) := by omega
          rw [← hn1] at HR3 ⊢
          clear hn1 HYL hown hgrow HOW HBW hc3 hc4 hsz
          go_wp2_with fail
          go_loopw [6] (fun i w4 => ∃ (j : Nat) (z : Int), m ≤ j ∧ j ≤ ys.length ∧ i = .int .i64 j ∧ Hid (w4.ownsRow w.heap.size 3 1 (.slice (some ⟨g, 0, none⟩) n1 cap) n1 ((holeN ys j z).map (.int .i64))) ∧ Hid (Below w.heap.size w w4))
            (fun i _ => (intOf i).toNat)
          case atStart => exact ⟨ys.length, 0, hm, by omega, by go_num, HR3, HB3⟩
          case round =>
            obtain ⟨j, z, hmj, hjy, rfl, HRW, HBW⟩ := hrel
            clear HR3 HB3
            have tf : ∀ o, wr.frozen? ⟨g, o, none⟩ = false := fun o => World.ownsRow.frozenAt HRW.out o
            have hjn : (j : Int) < (n1 : Int) := by omega
            have hjn0 : (0 : Int) ≤ (j : Int) := by omega
            by_cases hjm : m < j
            · omega
            · have hjmi : ¬ (j : Int) > (m : Int) := by omega
              obtain rfl : j = m := by omega
              have hx : wr.cell? ⟨b1, o1 + k, none⟩ = some (.int .i64 x) := (HBW.out.cell (p := ⟨b1, o1 + k, none⟩) (block_lt_of_cell HC.out)).trans HC.out
              have c1 : (wr.cell? ⟨g, j, none⟩).isSome = true := by
                rw [World.ownsRow.cellAt HRW.out j (by omega), List.getElem?_map, List.getElem?_eq_getElem (by rw [holeN_len _ _ _ hjy]; omega)]; rfl
              obtain ⟨c1v, c1⟩ := Option.isSome_iff_exists.1 c1
              have HN2 : Hid (OwnInts (wr.setCell ⟨g, j, none⟩ (.int .i64 x)) w.heap.size (.slice (some ⟨g, 0, none⟩) n1 cap) (risN (l.take (k + 1)))) := by
                have h := (World.ownsRow.stored HRW.out j (.int .i64 x)).1
                rw [← List.map_set, holeN_set hjy] at h
                show OwnInts _ _ _ _
                rw [HN.out]
                unfold OwnInts
                rw [holeN_len _ _ _ hjy, ← HN1.out]
                exact h
              have HB2 : Hid (Below w.heap.size w (wr.setCell ⟨g, j, none⟩ (.int .i64 x))) := HBW.out.setCell (p := ⟨g, j, none⟩) hg1 _
              clear HRW HBW
              go_wp2_with fail
              go_roundw
              case rel => exact ⟨k + 1, by omega, by go_num, HN2.out, HB2.out⟩
              case measure => simp [intOf]; omega
    · have hkli : ¬ (k : Int) < (l.length : Int) := by omega
      have HOE : Hid (OwnInts wr w.heap.size u3 (risN l)) := by have := HO.out; rw [List.take_of_length_le (by omega)] at this; exact this
      clear HO
      have h := HOE.out
      obtain ⟨av, cv, rfl, _⟩ := h.at
      go_wp2_with fail
      go_ret
      exact ⟨⟨_, rfl, HOE.out⟩, hb⟩

end Go.Proofs.YtbaphgdlbeaenaaGreat

/- What is in none of some lists, by the page. -/
namespace Go.Proofs.YtbaphgdlbeaenaaGreat
open Go.RowKit

set_option maxRecDepth 100000 in
set_option maxHeartbeats 1000000 in
theorem in_any (a : Option Addr) (xs : List Int) (ca : Nat) (n : Int) (w : World) (hx : IntsAt w a xs) (hl : xs.length ≤ 1000000) :
    Calls Tryz.prog 30 #[.slice a xs.length ca, .int .i64 n] w fun e w' => e = .returned (.int .i64 (optI (xs.findIdx? (· == n)))) ∧ w' = w := by
  have HX : Hid (IntsAt w a xs) := hx
  clear hx
  go_enter Tryz.func30, Tryz.ntmps30
  go_wp2_with fail
  go_loopw [5] (fun i wr => ∃ (k : Nat), k ≤ xs.length ∧ i = .int .i64 k ∧ wr = w ∧ Hid (∀ j, j < k → (xs.getD j 0 == n) = false))
    (fun i _ => xs.length - (intOf i).toNat)
  case atStart => exact ⟨0, by omega, rfl, rfl, fun j hj => by omega⟩
  case round =>
    obtain ⟨k, hk, rfl, hw, HE⟩ := hrel
    obtain rfl := hw.symm
    by_cases hlt : k < xs.length
    · obtain ⟨b1, o1, rfl, hf⟩ := HX.out.cell hlt
      have hlti : (k : Int) < (xs.length : Int) := by omega
      have HK : Hid ((xs.getD k 0 == n) = false → ∀ j, j < k + 1 → (xs.getD j 0 == n) = false) := fun h j hj => by
        by_cases e : j = k
        · subst e; exact h
        · exact HE.out j (by omega)
      have HY : Hid ((xs.getD k 0 == n) = true → xs.findIdx? (· == n) = some k) := fun h => find_yes 0 hlt h (fun j hj => HE.out j hj)
      generalize xs.getD k 0 = x at hf HK HY
      by_cases he : x = n
      · have HR : Hid (xs.findIdx? (· == n) = some k) := HY.out (by rw [he]; simp)
        have he2 : (x == n) = true := by rw [he]; simp
        clear he
        go_wp2_with fail
        go_ret
        exact ⟨ret_int (by rw [HR.out]; rfl), rfl⟩
      · have he2 : (x == n) = false := beq_eq_false_iff_ne.2 he
        have HN := HK.out he2
        have HN2 : Hid (∀ j, j < k + 1 → (xs.getD j 0 == n) = false) := HN
        clear HN he HK
        go_wp2_with fail
        go_roundw
        case rel => exact ⟨k + 1, by omega, by go_num, by first | rfl | trivial, HN2⟩
        case measure => simp [intOf]; omega
    · have hlti : ¬ (k : Int) < (xs.length : Int) := by omega
      have HY : Hid (xs.findIdx? (· == n) = none) := find_no 0 (fun j hj => HE.out j (by omega))
      go_wp2_with fail
      go_ret
      exact ⟨ret_int (by rw [HY.out]; rfl), rfl⟩
theorem in_has (a : Option Addr) (xs : List Int) (ca : Nat) (n : Int) (w : World) (hx : IntsAt w a xs) (hl : xs.length ≤ 1000000) (r : Int) (hr : optI (xs.findIdx? (· == n)) = r) :
    Calls Tryz.prog 30 #[.slice a xs.length ca, .int .i64 n] w fun e w' => e = .returned (.int .i64 r) ∧ w' = w := by
  rw [← hr]; exact in_any a xs ca n w hx hl

theorem optI_find (xs : List Int) (id : Int) : decide (optI (xs.findIdx? (· == id)) ≥ 0) = xs.contains id := by
  cases h : xs.findIdx? (· == id) with
  | none =>
    rw [List.findIdx?_eq_none_iff] at h
    have : ¬ id ∈ xs := fun hm => by simpa using h id hm
    simp [optI, this]
  | some k =>
    rw [List.findIdx?_eq_some_iff_getElem] at h
    obtain ⟨hk, h2, _⟩ := h
    have : id ∈ xs := by
      have e : xs[k] = id := by simpa using h2
      rw [← e]; exact List.getElem_mem hk
    simp [optI, this]

/-- in none of the rows -/
def outN (rs : List RowD) (x : Int) : Bool := !(rs.any fun r => r.2.2.contains x)
theorem goneN_rows (l : List Int) (rs : List RowD) : goneN l (rs.map fun r => r.2.2) = risN (l.filter (outN rs)) := by
  unfold goneN
  congr 2
  funext x
  rw [List.any_map]; rfl

set_option maxRecDepth 100000 in
set_option maxHeartbeats 4000000 in
theorem goneP_any (a : Option Addr) (l : List Int) (ca : Nat) (ar : Option Addr) (rs : List RowD) (car : Nat) (w : World) (hi : IntsAt w a l) (hll : l.length ≤ 1000000) (hr : RowsAt w ar rs) (hl : rs.length ≤ 1000000) (hn : ∀ r ∈ rs, r.2.2.length ≤ 1000000) :
    Calls Tryz.prog 36 #[.slice a l.length ca, .slice ar rs.length car] w fun e w' => (∃ u, e = .returned u ∧ OwnInts w' w.heap.size u (goneN l (rs.map fun r => r.2.2))) ∧ Below w.heap.size w w' := by
  rw [goneN_rows]
  have HI : Hid (IntsAt w a l) := hi
  have HR : Hid (RowsAt w ar rs) := hr
  have HN : Hid (∀ r ∈ rs, r.2.2.length ≤ 1000000) := hn
  clear hi hr hn
  obtain ⟨i0, hi, hz0, hz1, hz2⟩ := info_parts Tryz.info3
  go_enter Tryz.func36, Tryz.ntmps36
  go_wp2_with fail
  go_loopw [5, 6] (fun v i wr => ∃ (k : Nat), k ≤ l.length ∧ i = .int .i64 k ∧ OwnInts wr w.heap.size v ((l.take k).filter (outN rs)) ∧ Below w.heap.size w wr)
    (fun _ i _ => l.length - (intOf i).toNat)
  case atStart => exact ⟨0, by omega, rfl, World.ownsRow_nil _ _ _ _, nwR w⟩
  case round =>
    obtain ⟨k, hk, rfl, hO, hb⟩ := hrel
    have HO : Hid (OwnInts wr w.heap.size u5 ((l.take k).filter (outN rs))) := hO
    have HB : Hid (Below w.heap.size w wr) := hb
    clear hO hb
    have hyl : ((l.take k).filter (outN rs)).length ≤ 1000000 := Nat.le_trans (List.length_filter_le _ _) (by rw [List.length_take]; omega)
    by_cases hkl : k < l.length
    · have hkli : (k : Int) < (l.length : Int) := by omega
      have hki0 : (0 : Int) ≤ (k : Int) := by omega
      obtain ⟨b1, o1, rfl, hc⟩ := HI.out.cell hkl
      have HC : Hid (w.cell? ⟨b1, o1 + k, none⟩ = some (.int .i64 (l.getD k 0))) := hc
      have HX : Hid ((l.take (k + 1)).filter (outN rs) = (l.take k).filter (outN rs) ++ (if outN rs (l.getD k 0) = true then [l.getD k 0] else [])) := by
        show _ = _
        have e : l.getD k 0 = l[k] := by simp [List.getD, hkl]
        rw [List.take_succ_eq_append_getElem hkl, List.filter_append, e]
        congr 1
        rw [List.filter_cons]; rfl
      generalize l.getD k 0 = x at hc HC HX
      generalize (l.take k).filter (outN rs) = ys at HO HX hyl
      clear hc
      rename World => wA
      go_wp2_with fail
      go_loopw [7, 8] (fun b i w2 => ∃ (m : Nat) (t : Bool), m ≤ rs.length ∧ i = .int .i64 m ∧ b = .bool t ∧ Hid (t = (rs.take m).any fun r => r.2.2.contains x) ∧ Hid (Below wA.heap.size wA w2))
        (fun _ i _ => rs.length - (intOf i).toNat)
      case atStart => exact ⟨0, false, by omega, rfl, rfl, by show _ = _; simp, nwR wA⟩
      case round =>
        obtain ⟨m, t, hm, rfl, rfl, HT, HW⟩ := hrel
        by_cases hml : m < rs.length
        · have hmi : (m : Int) < (rs.length : Int) := by omega
          have HT2 : Hid ((rs.take (m + 1)).any (fun r => r.2.2.contains x) = (t || (rs.getD m rw0).2.2.contains x)) := by
            show _ = _
            have e : rs.getD m rw0 = rs[m] := by simp [List.getD, hml]
            rw [List.take_succ_eq_append_getElem hml, List.any_append, ← HT.out, e]; simp
          cases t
          case true =>
            have HT3 : Hid (true = (rs.take (m + 1)).any fun r => r.2.2.contains x) := by show _ = _; rw [HT2.out]; rfl
            clear HT HT2
            go_wp2_with fail
            go_quiet (fail)
            have HWB : Hid (Below wA.heap.size wA (wr.drewN nq)) := below_drewN HW.out _
            generalize wr.drewN nq = wB at HWB ⊢
            go_wp2_with fail
            go_roundw
            case rel => exact ⟨m + 1, true, by omega, by go_num, by first | rfl | trivial, HT3, HWB⟩
            case measure => simp [intOf]; omega
          case false =>
            obtain ⟨b2, o2, rfl, hrow, hok⟩ := ((HR.out.below HB.out).below HW.out).row hml
            have hx : wr.cell? ⟨b1, o1 + k, none⟩ = some (.int .i64 x) := ((nwT HB.out HW.out).cell (p := ⟨b1, o1 + k, none⟩) (block_lt_of_cell HC.out)).trans HC.out
            have hrl : (rs.getD m rw0).2.2.length ≤ 1000000 := HN.out _ (by simp [List.getD, hml])
            generalize rs.getD m rw0 = r at hrow hok hrl HT2
            obtain ⟨ar2, cr2, xs⟩ := r
            simp only [rowV] at hrow hrl HT2
            have HIX : Hid (IntsAt wr ar2 xs) := hok.1
            have HOF := optI_find xs x
            have HT3 : Hid (xs.contains x = (rs.take (m + 1)).any fun r => r.2.2.contains x) := by show _ = _; rw [HT2.out]; rfl
            rw [← HOF] at HT3
            clear hok HOF HT HT2
            have HIN : Hid (∀ w', IntsAt w' ar2 xs → Calls Tryz.prog 30 #[.slice ar2 xs.length cr2, .int .i64 x] w' fun e w'' => e = .returned (.int .i64 (optI (xs.findIdx? (· == x)))) ∧ w'' = w') := fun w' h => in_any ar2 xs cr2 x w' h hrl
            generalize optI (xs.findIdx? (· == x)) = q at HT3 HIN
            go_wp2_with fail
            go_quiet (first | (go_at_call 30; exact Calls.quiet_of_same (HIN.out _ HIX.out)) | fail)
            have HWB : Hid (Below wA.heap.size wA (wr.drewN nq)) := below_drewN HW.out _
            have HT4 : Hid (decide (0 ≤ q) = (rs.take (m + 1)).any fun r => r.2.2.contains x) := HT3.out
            generalize wr.drewN nq = wB at HWB ⊢
            generalize decide (0 ≤ q) = t at HT4 ⊢
            clear HT3 HW HIX hrow hx
            go_wp2_with fail
            go_roundw
            case rel => exact ⟨m + 1, t, by omega, by go_num, by first | rfl | trivial, HT4, HWB⟩
            case measure => simp [intOf]; omega
        · have hmi : ¬ (m : Int) < (rs.length : Int) := by omega
          have HT3 : Hid (t = rs.any fun r => r.2.2.contains x) := by have := HT.out; rw [List.take_of_length_le (by omega)] at this; exact this
          have HBW : Hid (Below w.heap.size w wr) := nwT HB.out HW.out
          have HOW : Hid (OwnInts wr w.heap.size u5 ys) := own_below HO.out HW.out
          have hx : wr.cell? ⟨b1, o1 + k, none⟩ = some (.int .i64 x) := (HBW.out.cell (p := ⟨b1, o1 + k, none⟩) (block_lt_of_cell HC.out)).trans HC.out
          clear HT HW HO HB
          cases t
          case true =>
            have HX2 : Hid ((l.take (k + 1)).filter (outN rs) = ys) := by
              show _ = _
              rw [HX.out, if_neg (by unfold outN; rw [← HT3.out]; decide), List.append_nil]
            clear HT3 HX
            go_wp2_with fail
            go_roundw
            case rel => exact ⟨k + 1, by omega, by go_num, by rw [HX2.out]; exact HOW.out, HBW.out⟩
            case measure => simp [intOf]; omega
          case false =>
            have HX2 : Hid ((l.take (k + 1)).filter (outN rs) = ys ++ [x]) := by
              show _ = _
              rw [HX.out, if_pos (by unfold outN; rw [← HT3.out]; decide)]
            clear HT3 HX
            have hsz : w.heap.size ≤ (wr.alloc (.cells #[.int .i64 x] 3)).heap.size := (nwA HBW.out _).size
            have hc3 : ys.length + 1 ≤ maxLen := by unfold maxLen; omega
            have hc4 : (ys.length + 1) * 8 ≤ 140737488355328 := by omega
            go_wp2_with (at_builtin; refine wpList_append_own _ rfl (.tmp 36) (.tmp 41) 32 rfl w.heap.size 3 i0 (.int .i64 0) 1 8 Tryz.underlying32 hi hz0 hz1 hz2 rfl (by decide) u5 ys.length (ys.map (.int .i64)) rfl (World.ownsRow.alloc HOW.out _) ⟨wr.heap.size, 0, none⟩ 1 1 [.int .i64 x] rfl rfl (cells_new _ [.int .i64 x] _) (by simp [Value.oneCell']) hc3 hc4 hsz ?_; intro v' w3 hown hgrow _; refine unstop ?_)
            unfold Stop
            have HB3 : Hid (Below w.heap.size w w3) := (nwA HBW.out _).grown hgrow (nwA HBW.out _).size (fun q e => (World.ownsRow.lt HOW.out q e).1)
            have HO3 : Hid (OwnInts w3 w.heap.size v' ((l.take (k + 1)).filter (outN rs))) := by rw [HX2.out]; exact OwnInts.snoc hown
            clear hown hgrow
            go_wp2_with fail
            go_roundw
            case rel => exact ⟨k + 1, by omega, by go_num, HO3.out, HB3.out⟩
            case measure => simp [intOf]; omega
    · have hkli : ¬ (k : Int) < (l.length : Int) := by omega
      have HOE : Hid (OwnInts wr w.heap.size u5 (l.filter (outN rs))) := by have := HO.out; rw [List.take_of_length_le (by omega)] at this; exact this
      have hfl : (l.filter (outN rs)).length ≤ 1000000 := Nat.le_trans (List.length_filter_le _ _) hll
      clear HO
      obtain ⟨av, cv, rfl, hav, _⟩ := id HOE.out.at
      have HRI : Hid (Calls Tryz.prog 29 #[.slice av (l.filter (outN rs)).length cv] wr fun e w' => (∃ v, e = .returned v ∧ OwnInts w' wr.heap.size v (risN (l.filter (outN rs)))) ∧ Below wr.heap.size wr w') := rising_any av _ cv wr hav hfl
      clear hav
      go_wp2_with fail
      refine HRI.out.mono ?_
      rintro e w2 ⟨⟨v2, rfl, hO2⟩, hb2⟩
      have HO2 : Hid (OwnInts w2 w.heap.size v2 (risN (l.filter (outN rs)))) := own_le hO2 HB.out.size
      have HB2 : Hid (Below w.heap.size w w2) := nwT HB.out hb2
      clear hO2 hb2 HRI
      go_wp2_with fail
      go_ret
      exact ⟨⟨_, rfl, HO2.out⟩, HB2.out⟩

end Go.Proofs.YtbaphgdlbeaenaaGreat

/- The rows of blocks that volumes' files have, by the program. -/
namespace Go.Proofs.YtbaphgdlbeaenaaGreat
open Go.RowKit

def OwnRows (w : World) (base : Nat) (v : Value) (rs : List RowD) : Prop := w.ownsRow base 32 1 v rs.length (rs.map rowV)
/-- the files' rows of blocks -/
def rowsV (d : VolD) : List (List Int) := d.files.map FileD.blocks
def rowsW (ds : List VolD) : List (List Int) := ds.flatMap rowsV
theorem rowsW_take {ds : List VolD} {k : Nat} (hk : k < ds.length) : rowsW (ds.take (k + 1)) = rowsW (ds.take k) ++ rowsV (ds.getD k VZ) := by
  unfold rowsW
  rw [List.take_succ_eq_append_getElem hk, List.flatMap_append]; simp [List.getD, hk]
theorem rowsW_take_le (ds : List VolD) (k : Nat) : (rowsW (ds.take k)).length ≤ (rowsW ds).length := by
  have e : rowsW ds = rowsW (ds.take k) ++ rowsW (ds.drop k) := by
    unfold rowsW
    rw [← List.flatMap_append, List.take_append_drop]
  rw [e, List.length_append]; omega
theorem Tryz.info32 : (Tryz.prog.info? 32).map (fun i => (i.zero, i.size, i.bytes)) = some (some (.slice none 0 0), 1, 24) := by kernel_rfl
theorem OwnRows.at {w : World} {base : Nat} {v : Value} {rs : List RowD} (h : OwnRows w base v rs) (hg : ∀ r ∈ rs, RowOk w r) : ∃ a cap, v = .slice a rs.length cap ∧ RowsAt w a rs ∧ CapOk a cap rs.length := by
  have hh := h
  rcases h.2 with ⟨hv, hn⟩ | ⟨g, cap, cur, hv, hb, _, hnc, _⟩
  · exact ⟨none, 0, by rw [hv, hn], .inl (List.length_eq_zero_iff.1 hn), by omega, (fun _ => rfl), (fun p e => by cases e)⟩
  · refine ⟨_, cap, hv, .inr ⟨g, 0, rfl, fun i hi => ⟨?_, ?_⟩⟩, hnc, (fun e => by cases e), (fun p e _ => by injection e with e; rw [← e])⟩
    · have := World.ownsRow.cells hh (g := g) (by rw [hv]; rfl) i (rowV (rs.getD i rw0)) (by simp [hi])
      rwa [addr_add] at this
    · exact hg _ (by simp [List.getD, hi])
theorem OwnRows.snoc {w : World} {base : Nat} {v : Value} {rs : List RowD} {r : RowD} (h : w.ownsRow base 32 1 v (rs.length + 1) (rs.map rowV ++ [rowV r])) : OwnRows w base v (rs ++ [r]) := by
  unfold OwnRows
  rw [List.map_append, List.length_append]; exact h
/-- rows made by the call, that lead to memory that is there -/
structure RowsR (w w' : World) (v : Value) (rs : List RowD) (ls : List (List Int)) : Prop where
  own : OwnRows w' w.heap.size v rs
  ok : ∀ r ∈ rs, RowOk w r
  is : rs.map (fun r => r.2.2) = ls
  bel : Below w.heap.size w w'
theorem RowsR.len {w w' : World} {v : Value} {rs : List RowD} {ls : List (List Int)} (h : RowsR w w' v rs ls) : rs.length = ls.length := by rw [← h.is, List.length_map]
theorem RowsR.below {w w' w2 : World} {v : Value} {rs : List RowD} {ls : List (List Int)} (h : RowsR w w' v rs ls) (hb : Below w'.heap.size w' w2) : RowsR w w2 v rs ls :=
  ⟨own_below h.own hb, h.ok, h.is, nwT h.bel hb⟩
theorem RowsR.at {w w' : World} {v : Value} {rs : List RowD} {ls : List (List Int)} (h : RowsR w w' v rs ls) : ∃ a cap, v = .slice a rs.length cap ∧ RowsAt w' a rs ∧ CapOk a cap rs.length := h.own.at fun r hr => (h.ok r hr).below h.bel

set_option maxRecDepth 100000 in
set_option maxHeartbeats 4000000 in
theorem blocks_any (a : Option Addr) (ds : List VolD) (ca : Nat) (w : World) (hv : VolsAt w a ds) (hl : ds.length ≤ 100000) (hn : (rowsW ds).length ≤ 1000000) (hs : ∀ d ∈ ds, d.files.length ≤ 100000) :
    Calls Tryz.prog 25 #[.slice a ds.length ca] w fun e w' => ∃ v rs, e = .returned v ∧ RowsR w w' v rs (rowsW ds) := by
  have HF : Hid (VolsAt w a ds) := hv
  have HN : Hid ((rowsW ds).length ≤ 1000000) := hn
  have HS : Hid (∀ d ∈ ds, d.files.length ≤ 100000) := hs
  clear hv hn hs
  obtain ⟨i0, hi, hz0, hz1, hz2⟩ := info_parts Tryz.info32
  go_enter Tryz.func25, Tryz.ntmps25
  go_wp2_with fail
  go_loopw [3, 10] (fun v i wr => ∃ (k : Nat) (rs : List RowD), k ≤ ds.length ∧ i = .int .i64 k ∧ Hid (RowsR w wr v rs (rowsW (ds.take k))))
    (fun _ i _ => ds.length - (intOf i).toNat)
  case atStart => exact ⟨0, [], by omega, rfl, World.ownsRow_nil _ _ _ _, by simp, by simp [rowsW], nwR w⟩
  case round =>
    obtain ⟨k, rs, hk, rfl, HR⟩ := hrel
    by_cases hkl : k < ds.length
    · have hkli : (k : Int) < (ds.length : Int) := by omega
      obtain ⟨b1, o1, rfl, hf⟩ := HF.out.vol hkl
      obtain ⟨af, cf, ⟨e0, e1, e2, e3, e4⟩, hfs, _⟩ := hf
      have c0 := (HR.out.bel.cell (p := ⟨b1, o1 + k * 5, none⟩) (block_lt_of_cell e0)).trans e0
      have c1 := (HR.out.bel.cell (p := ⟨b1, o1 + k * 5 + 1, none⟩) (block_lt_of_cell e1)).trans e1
      have c2 := (HR.out.bel.cell (p := ⟨b1, o1 + k * 5 + 2, none⟩) (block_lt_of_cell e2)).trans e2
      have c3 := (HR.out.bel.cell (p := ⟨b1, o1 + k * 5 + 3, none⟩) (block_lt_of_cell e3)).trans e3
      have c4 := (HR.out.bel.cell (p := ⟨b1, o1 + k * 5 + 4, none⟩) (block_lt_of_cell e4)).trans e4
      have HFS : Hid (FilesAt w af (ds.getD k VZ).files) := hfs
      clear e0 e1 e2 e3 e4
      have HT : Hid (rowsW (ds.take (k + 1)) = rowsW (ds.take k) ++ rowsV (ds.getD k VZ)) := rowsW_take hkl
      have hle : (rowsW (ds.take k)).length + (rowsV (ds.getD k VZ)).length ≤ 1000000 := by
        rw [← List.length_append, ← HT.out]; exact Nat.le_trans (rowsW_take_le ds _) HN.out
      have hfl : (ds.getD k VZ).files.length ≤ 100000 := HS.out _ (by simp [List.getD, hkl])
      generalize ds.getD k VZ = d at c0 c1 c2 c3 c4 HFS HT hle hfl
      generalize rowsW (ds.take k) = pre at HR HT hle
      obtain ⟨vid, fr, sn, fs, nx⟩ := d
      simp only [rowsV] at *
      clear hfs
      have HRA : Hid (RowsR w (wr.alloc (.cells #[.int .i64 vid, .int .i64 fr, .bool sn, .slice af fs.length cf, .int .i64 nx] 48)) u3 rs (pre ++ (fs.take 0).map FileD.blocks)) := by
        show RowsR _ _ _ _ _
        rw [List.take_zero, List.map_nil, List.append_nil]
        exact HR.out.below (nwA (nwR wr) _)
      clear HR
      go_wp2_with fail
      go_loopw [3, 17] (fun v i wr => ∃ (j : Nat) (rs : List RowD), j ≤ fs.length ∧ i = .int .i64 j ∧ Hid (RowsR w wr v rs (pre ++ (fs.take j).map FileD.blocks)))
        (fun _ i _ => fs.length - (intOf i).toNat)
      case atStart => exact ⟨0, rs, by omega, rfl, HRA⟩
      case round =>
        obtain ⟨j, rs, hj, rfl, HI⟩ := hrel
        clear HRA c0 c1 c2 c3 c4
        by_cases hjl : j < fs.length
        · have hjli : (j : Int) < (fs.length : Int) := by omega
          obtain ⟨b2, o2, rfl, ab, cb, al, cl, ⟨e0, e1, e2, e3, e4⟩, ⟨hib, hcb⟩, _⟩ := HFS.out.file hjl
          have d0 := (HI.out.bel.cell (p := ⟨b2, o2 + j * 5, none⟩) (block_lt_of_cell e0)).trans e0
          have d1 := (HI.out.bel.cell (p := ⟨b2, o2 + j * 5 + 1, none⟩) (block_lt_of_cell e1)).trans e1
          have d2 := (HI.out.bel.cell (p := ⟨b2, o2 + j * 5 + 2, none⟩) (block_lt_of_cell e2)).trans e2
          have d3 := (HI.out.bel.cell (p := ⟨b2, o2 + j * 5 + 3, none⟩) (block_lt_of_cell e3)).trans e3
          have d4 := (HI.out.bel.cell (p := ⟨b2, o2 + j * 5 + 4, none⟩) (block_lt_of_cell e4)).trans e4
          clear e0 e1 e2 e3 e4
          have HT2 : Hid (pre ++ (fs.take (j + 1)).map FileD.blocks = (pre ++ (fs.take j).map FileD.blocks) ++ [(fs.getD j f0).blocks]) := by
            show _ = _
            rw [List.take_succ_eq_append_getElem hjl, List.map_append, List.append_assoc]; simp [List.getD, hjl]
          have hrl : rs.length ≤ 1000000 := by
            rw [HI.out.len, List.length_append, List.length_map, List.length_take]
            simp at hle
            omega
          generalize fs.getD j f0 = f at d0 d1 d2 d3 d4 hib hcb HT2
          obtain ⟨fid, dir, size, bl, li⟩ := f
          simp only at *
          have HIB : Hid (IntsAt w ab bl) := hib
          have HCB : Hid (ab = none → cb = 0) := hcb.2.1
          clear hib hcb
          have hsz : w.heap.size ≤ ((wr.alloc (.cells #[.int .i64 fid, .bool dir, .int .i64 size, .slice ab bl.length cb, .slice al li.length cl] 74)).alloc (.cells #[.slice ab bl.length cb] 32)).heap.size := (nwA (nwA HI.out.bel _) _).size
          have HC : Hid (∀ j u, [Value.slice ab bl.length cb][j]? = some u → ((wr.alloc (.cells #[.int .i64 fid, .bool dir, .int .i64 size, .slice ab bl.length cb, .slice al li.length cl] 74)).alloc (.cells #[.slice ab bl.length cb] 32)).cell? ((⟨wr.heap.size + 1, 0, none⟩ : Addr).add j) = some u) := by
            have h := cells_new (wr.alloc (.cells #[.int .i64 fid, .bool dir, .int .i64 size, .slice ab bl.length cb, .slice al li.length cl] 74)) [.slice ab bl.length cb] 32
            rw [show (wr.alloc (.cells #[.int .i64 fid, .bool dir, .int .i64 size, .slice ab bl.length cb, .slice al li.length cl] 74)).heap.size = wr.heap.size + 1 from by simp] at h
            exact h
          have hc3 : rs.length + 1 ≤ maxLen := by unfold maxLen; omega
          have hc4 : (rs.length + 1) * 24 ≤ 140737488355328 := by omega
          have HA2 : Hid (RowsR w ((wr.alloc (.cells #[.int .i64 fid, .bool dir, .int .i64 size, .slice ab bl.length cb, .slice al li.length cl] 74)).alloc (.cells #[.slice ab bl.length cb] 32)) u3 rs (pre ++ (fs.take j).map FileD.blocks)) := HI.out.below (nwA (nwA (nwR wr) _) _)
          go_wp2_with (at_builtin; refine wpList_append_own _ rfl (.tmp 21) (.tmp 24) 26 rfl w.heap.size 32 i0 (.slice none 0 0) 1 24 Tryz.underlying26 hi hz0 hz1 hz2 rfl (by decide) u3 rs.length (rs.map rowV) rfl HA2.out.own ⟨wr.heap.size + 1, 0, none⟩ 1 1 [.slice ab bl.length cb] rfl rfl HC.out (by simp [Value.oneCell']) hc3 hc4 hsz ?_; intro v' w3 hown hgrow _; refine unstop ?_)
          unfold Stop
          have HR3 : Hid (RowsR w w3 v' (rs ++ [(ab, cb, bl)]) (pre ++ (fs.take (j + 1)).map FileD.blocks)) := by
            refine ⟨OwnRows.snoc hown, fun r hr => ?_, ?_, HA2.out.bel.grown hgrow hsz (fun q e => (World.ownsRow.lt HA2.out.own q e).1)⟩
            · rcases List.mem_append.1 hr with h | h
              · exact HA2.out.ok r h
              · simp only [List.mem_singleton] at h
                subst h
                exact ⟨HIB.out, HCB.out⟩
            · rw [HT2.out, ← HA2.out.is, List.map_append]; rfl
          clear hown hgrow HA2
          go_wp2_with fail
          go_roundw
          case rel => exact ⟨j + 1, _, by omega, by go_num, HR3⟩
          case measure => simp [intOf]; omega
        · have hjli : ¬ (j : Int) < (fs.length : Int) := by omega
          have HE : Hid (RowsR w wr u3 rs (rowsW (ds.take (k + 1)))) := by
            have := HI.out
            rw [List.take_of_length_le (by omega), ← HT.out] at this
            exact this
          clear HI
          go_wp2_with fail
          go_roundw
          case rel => exact ⟨k + 1, _, by omega, by go_num, HE⟩
          case measure => simp [intOf]; omega
    · have hkli : ¬ (k : Int) < (ds.length : Int) := by omega
      have HE : Hid (RowsR w wr u3 rs (rowsW ds)) := by have := HR.out; rw [List.take_of_length_le (by omega)] at this; exact this
      clear HR
      obtain ⟨av, cv, rfl, _⟩ := id HE.out.at
      go_wp2_with fail
      go_ret
      exact ⟨_, rfl, _, HE.out⟩

end Go.Proofs.YtbaphgdlbeaenaaGreat

/- Which blocks volumes name, by the program. -/
namespace Go.Proofs.YtbaphgdlbeaenaaGreat
open Go.RowKit

/-- all blocks' IDs, in order, as often as they stand -/
def placesW (ds : List VolD) : List Int := (rowsW ds).flatten
theorem RowsR.all {w w' : World} {v : Value} {rs : List RowD} {ls : List (List Int)} (h : RowsR w w' v rs ls) : allN rs = ls.flatten := by unfold allN; rw [h.is]
theorem nodeOk_blocks {f : FileD} (h : NodeOk f) : f.blocks.length ≤ 7 := by
  unfold NodeOk at h
  split at h
  · have := h.2.1; omega
  · obtain ⟨_, h1, h2, _⟩ := h
    unfold numB at h1
    simp at h1
    omega
theorem flat_le : ∀ (ls : List (List Int)) (n : Nat), (∀ l ∈ ls, l.length ≤ n) → ls.flatten.length ≤ ls.length * n
  | [], n, _ => by simp
  | l :: ls, n, h => by
    have h1 := h l (by simp)
    have h2 := flat_le ls n (fun x hx => h x (by simp [hx]))
    rw [List.flatten_cons, List.length_append, List.length_cons, Nat.succ_mul]
    omega
theorem flatMap_le {α : Type} {β : Type} (f : α → List β) : ∀ (ls : List α) (n : Nat), (∀ l ∈ ls, (f l).length ≤ n) → (ls.flatMap f).length ≤ ls.length * n
  | [], n, _ => by simp
  | l :: ls, n, h => by
    have h1 := h l (by simp)
    have h2 := flatMap_le f ls n (fun x hx => h x (by simp [hx]))
    rw [List.flatMap_cons, List.length_append, List.length_cons, Nat.succ_mul]
    omega
theorem VolOk.files {d : VolD} (h : VolOk d) : d.files.length ≤ 16 ∧ ∀ f ∈ d.files, f.blocks.length ≤ 7 := by
  obtain ⟨_, ⟨⟨_, h1, _⟩, h2⟩, _⟩ := h
  refine ⟨h1, fun f hf => ?_⟩
  obtain ⟨i, hi, rfl⟩ := List.getElem_of_mem hf
  have := nodeOk_blocks (h2 i hi).2
  simpa [List.getD, hi] using this
theorem VolsOk.vol {ds : List VolD} {next : Int} (h : VolsOk ds next) : ∀ d ∈ ds, VolOk d := fun d hd => by
  obtain ⟨i, hi, rfl⟩ := List.getElem_of_mem hd
  have := (h.2 i hi).1
  simpa [List.getD, hi] using this
/-- few enough -/
structure FewW (ds : List VolD) : Prop where
  vols : ds.length ≤ 100000
  files : ∀ d ∈ ds, d.files.length ≤ 100000
  rows : (rowsW ds).length ≤ 1000
  all : (placesW ds).length ≤ 10000
theorem few_of {ds : List VolD} (h4 : ds.length ≤ 5) (h : ∀ d ∈ ds, VolOk d) : FewW ds := by
  have h1 : (rowsW ds).length ≤ ds.length * 16 := flatMap_le rowsV ds 16 (fun d hd => by unfold rowsV; rw [List.length_map]; exact (h d hd).files.1)
  have h2 : (placesW ds).length ≤ (rowsW ds).length * 7 := flat_le _ 7 (fun l hl => by
    unfold rowsW at hl
    obtain ⟨d, hd, hl⟩ := List.mem_flatMap.1 hl
    unfold rowsV at hl
    obtain ⟨f, hf, rfl⟩ := List.mem_map.1 hl
    exact (h d hd).files.2 f hf)
  exact ⟨by omega, fun d hd => by have := (h d hd).files.1; omega, by omega, by omega⟩
theorem VolsOk.few {ds : List VolD} {next : Int} (h : VolsOk ds next) : FewW ds := few_of (by have := h.1.1; omega) h.vol

/-- what a call that takes volumes tells: the error, and numbers -/
def TellR (ok : Prop) (xs : List Int) (base : Nat) (e : Ending) (w' : World) : Prop := ∃ u er ys, e = .returned (.tuple #[u, .int .i64 er]) ∧ OwnInts w' base u ys ∧ ((ok ∧ er = 0 ∧ ys = xs) ∨ (¬ ok ∧ er = 1 ∧ ys = []))

set_option maxRecDepth 100000 in
set_option maxHeartbeats 4000000 in
theorem named_any (a : Option Addr) (ds : List VolD) (ca : Nat) (next : Int) (w : World) (hv : VolsAt w a ds) (hs : SmallW ds) :
    Calls Tryz.prog 7 #[.slice a ds.length ca, .int .i64 next] w fun e w' => TellR (VolsOk ds next) (risN (placesW ds)) w.heap.size e w' ∧ Below w.heap.size w w' := by
  have HV : Hid (VolsAt w a ds) := hv
  have HS : Hid (SmallW ds) := hs
  clear hv hs
  go_enter Tryz.func7, Tryz.ntmps7
  go_wp2_with fail
  refine (vcheck_any a ds ca next w HV.out HS.out).mono ?_
  rintro e w1 ⟨⟨b, hb, rfl⟩, hb1⟩
  have HB1 : Hid (Below w.heap.size w w1) := hb1
  cases b
  case false =>
    have HQ : Hid (TellR (VolsOk ds next) (risN (placesW ds)) w.heap.size (.returned (.tuple #[.slice none 0 0, .int .i64 1])) w1) := ⟨_, _, [], rfl, World.ownsRow_nil _ _ _ _, .inr ⟨fun h => by simpa using hb.2 h, rfl, rfl⟩⟩
    simp only [errI_f]
    clear hb hb1
    go_wp2_with fail
    go_ret2
    exact ⟨HQ.out, HB1.out⟩
  case true =>
    have hok := hb.1 rfl
    have HOK : Hid (VolsOk ds next) := hok
    have hf := hok.few
    have HBL : Hid (Calls Tryz.prog 25 #[.slice a ds.length ca] w1 fun e w' => ∃ v rs, e = .returned v ∧ RowsR w1 w' v rs (rowsW ds)) := blocks_any a ds ca w1 (HV.out.below hb1) hf.vols (by have := hf.rows; omega) hf.files
    have HF : Hid (FewW ds) := hf
    simp only [errI_t]
    clear hb hb1 hok hf
    go_wp2_with fail
    refine HBL.out.mono ?_
    rintro e w2 ⟨v, rs, rfl, hr⟩
    have HR : Hid (RowsR w1 w2 v rs (rowsW ds)) := hr
    obtain ⟨av, cv, rfl, hat, _⟩ := hr.at
    have HSO : Hid (Calls Tryz.prog 24 #[.slice av rs.length cv] w2 fun e w' => (∃ v, e = .returned v ∧ OwnInts w' w2.heap.size v (risN (allN rs))) ∧ Below w2.heap.size w2 w') := setOf_any av rs cv w2 hat (by rw [HR.out.len]; have := HF.out.rows; omega) (by rw [HR.out.all]; exact Nat.le_trans HF.out.all (by omega))
    clear hat HBL
    go_wp2_with fail
    refine HSO.out.mono ?_
    rintro e w3 ⟨⟨u, rfl, hO⟩, hb3⟩
    have hb13 : Below w.heap.size w w3 := nwT (nwT HB1.out HR.out.bel) hb3
    have HB3 : Hid (Below w.heap.size w w3) := hb13
    have HO3 : Hid (OwnInts w3 w.heap.size u (risN (placesW ds))) := by
      rw [HR.out.all] at hO
      exact own_le hO (nwT HB1.out HR.out.bel).size
    have HQ : Hid (TellR (VolsOk ds next) (risN (placesW ds)) w.heap.size (.returned (.tuple #[u, .int .i64 0])) w3) := ⟨_, _, _, rfl, HO3.out, .inl ⟨HOK.out, rfl, rfl⟩⟩
    obtain ⟨au, cu, rfl, _⟩ := id HO3.out.at
    clear hO hb3 hb13 HSO
    go_wp2_with fail
    go_ret2
    exact ⟨HQ.out, HB3.out⟩

end Go.Proofs.YtbaphgdlbeaenaaGreat
