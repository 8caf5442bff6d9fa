/- Laid together: Tally, Gone, Risep, Gonep. -/
import Derived.Test.YtbaphgdlbeaenaaReachSnapsM11
import Derived.BigQuiet
import Derived.Deep.QuietTactic
/- A tally: numbers rising, each once, and how often each was met; made, met, and what was not met, by the program. -/
namespace Go.Proofs.Ytbaphgdlbeaenaa
open Go.RowKit

/-- a row of numbers that fills its block -/
def RowN (w : World) (base T : Nat) (ts : List Int) : Prop := w.ownsRow base 3 1 (.slice (some ⟨T, 0, none⟩) ts.length ts.length) ts.length (ts.map (.int .i64))
theorem RowN.own {w : World} {base T : Nat} {ts : List Int} (h : RowN w base T ts) : OwnInts w base (.slice (some ⟨T, 0, none⟩) ts.length ts.length) ts := h
theorem RowN.cell {w : World} {base T : Nat} {ts : List Int} (h : RowN w base T ts) {k : Nat} (hk : k < ts.length) : w.cell? ⟨T, k, none⟩ = some (.int .i64 (ts.getD k 0)) := by
  have := World.ownsRow.cellAt h k (by omega)
  rw [this]
  simp [List.getD, hk]
theorem RowN.set {w : World} {base T : Nat} {ts : List Int} (h : RowN w base T ts) (k : Nat) (x : Int) : RowN (w.setCell ⟨T, k, none⟩ (.int .i64 x)) base T (ts.set k x) := by
  have := (World.ownsRow.stored h k (.int .i64 x)).1
  unfold RowN
  rw [List.length_set, List.map_set]
  exact this
theorem RowN.below {w w' : World} {base T : Nat} {ts : List Int} (h : RowN w base T ts) (hb : Below w.heap.size w w') : RowN w' base T ts := own_below h hb
theorem RowN.lt {w : World} {base T : Nat} {ts : List Int} (h : RowN w base T ts) : base ≤ T ∧ T < w.heap.size := World.ownsRow.lt h T rfl
theorem RowN.new (w : World) (n : Nat) (hn : n ≤ 10000000) {base : Nat} (hb : base ≤ w.heap.size) : RowN (w.alloc (.cells (madeCells #[Value.int .i64 0] n) 3)) base w.heap.size (List.replicate n 0) := by
  unfold RowN
  rw [List.length_replicate]
  refine ⟨by simp, .inr ⟨w.heap.size, n, _, rfl, hb, heap_alloc_new _ _, Nat.le_refl _, by unfold maxLen; omega, by simp [madeCells], ?_⟩⟩
  apply List.ext_getElem
  · simp [madeCells]
  · intro i h1 h2
    simp [madeCells, Nat.mod_one]

theorem two_set {w : World} {g : Nat} {c0 c1 d0 d1 : Value} {t : TypeId} (h : w.heap[g]? = some (.cells #[c0, c1] t (0, 0))) : ((w.setCell ⟨g, 0, none⟩ d0).setCell ⟨g, 1, none⟩ d1).heap[g]? = some (.cells #[d0, d1] t (0, 0)) := by
  have h1 := heap_setCell_same w g 0 _ t d0 h
  have h2 := heap_setCell_same _ g 1 _ t d1 h1
  simpa using h2
theorem OwnInts.two {w : World} {base : Nat} {v : Value} {s : List Int} (h : OwnInts w base v s) {g : Nat} (hg : v.ownBlock ≠ some g) (d0 d1 : Value) : OwnInts ((w.setCell ⟨g, 0, none⟩ d0).setCell ⟨g, 1, none⟩ d1) base v s :=
  World.ownsRow.kept h (gb_setg (gb_set d0) d1) (.inr hg)

set_option maxRecDepth 100000 in
set_option maxHeartbeats 2000000 in
theorem tallyOf_any (a : Option Addr) (rs : List RowD) (ca : Nat) (w : World) (hr : RowsAt w a rs) (hl : rs.length ≤ 1000000) (hn : (allN rs).length ≤ 1000000) :
    Calls Try.prog 19 #[.slice a rs.length ca] w fun e w' => (∃ v T, e = .returned (.agg #[v, .slice (some ⟨T, 0, none⟩) (risN (allN rs)).length (risN (allN rs)).length]) ∧ OwnInts w' w.heap.size v (risN (allN rs)) ∧ RowN w' w.heap.size T (List.replicate (risN (allN rs)).length 0) ∧ v.ownBlock ≠ some T) ∧ Below w.heap.size w w' := by
  have HR : Hid (RowsAt w a rs) := hr
  have HN : Hid ((allN rs).length ≤ 1000000) := hn
  clear hr hn
  have hsl : (risN (allN rs)).length ≤ 1000000 := Nat.le_trans (risN_len _) HN.out
  obtain ⟨s, hs⟩ : ∃ s, s = risN (allN rs) := ⟨_, rfl⟩
  have HSE : Hid (risN (allN rs) = s) := hs.symm
  rw [← hs] at hsl ⊢
  clear hs
  go_enter Try.func19, Try.ntmps19
  have HB0 : Hid (Below w.heap.size w (w.alloc (.cells #[.slice none 0 0, .slice none 0 0] 52))) := nwA (nwR w) _
  have HX0 : Hid ((w.alloc (.cells #[.slice none 0 0, .slice none 0 0] 52)).heap[w.heap.size]? = some (.cells #[.slice none 0 0, .slice none 0 0] 52 (0, 0))) := heap_alloc_new w _
  go_wp2_with fail
  generalize w.alloc (.cells #[.slice none 0 0, .slice none 0 0] 52) = W0 at HB0 HX0 ⊢
  refine (setOf_any a rs ca W0 (HR.out.below HB0.out) hl HN.out).mono ?_
  rintro e w1 ⟨⟨v1, rfl, hO1⟩, hb1⟩
  rw [HSE.out] at hO1
  have HO1 : Hid (OwnInts w1 w.heap.size v1 s) := own_le hO1 HB0.out.size
  have HB1 : Hid (Below w.heap.size w w1) := nwT HB0.out hb1
  have HX1 : Hid (w1.heap[w.heap.size]? = some (.cells #[.slice none 0 0, .slice none 0 0] 52 (0, 0))) := (hb1.block _ (Array.getElem?_eq_some_iff.1 HX0.out).1).trans HX0.out
  have HV : Hid (∀ k, v1.ownBlock = some k → w.heap.size < k ∧ k < w1.heap.size) := fun k h => ⟨by
    have h1 := (World.ownsRow.lt hO1 k h).1
    have h2 : w.heap.size < W0.heap.size := (Array.getElem?_eq_some_iff.1 HX0.out).1
    omega, (World.ownsRow.lt hO1 k h).2⟩
  clear hO1 hb1 HB0 HX0 HR HN
  obtain ⟨av, cv, rfl, _⟩ := id HO1.out.at
  have hmk := run_make_row' (P := Try.prog) 30 3 (.int .i64 0) 8 Try.underlying30 Try.info3 rfl .i64 .i64 s.length (by omega) (by omega)
  have HRN : Hid (RowN (w1.alloc (.cells (madeCells #[Value.int .i64 0] s.length) 3)) w.heap.size w1.heap.size (List.replicate s.length 0)) := RowN.new w1 _ (by omega) HB1.out.size
  have HO2 : Hid (OwnInts (w1.alloc (.cells (madeCells #[Value.int .i64 0] s.length) 3)) w.heap.size (.slice av s.length cv) s) := own_below HO1.out (nwA (nwR w1) _)
  have HB2 : Hid (Below w.heap.size w (w1.alloc (.cells (madeCells #[Value.int .i64 0] s.length) 3))) := nwA HB1.out _
  have HX2 : Hid ((w1.alloc (.cells (madeCells #[Value.int .i64 0] s.length) 3)).heap[w.heap.size]? = some (.cells #[.slice none 0 0, .slice none 0 0] 52 (0, 0))) := ((nwA (nwR w1) _).block _ (Array.getElem?_eq_some_iff.1 HX1.out).1).trans HX1.out
  obtain ⟨c0, c1, cf⟩ := two_cells HX2.out
  have HXX : Hid (w1.heap[w.heap.size]? = some (.cells #[.slice none 0 0, .slice none 0 0] 52 (0, 0))) := HX1.out
  clear HO1 HX1
  go_wp2_with fail
  have HT1 : w.heap.size < w1.heap.size := (Array.getElem?_eq_some_iff.1 (show w1.heap[w.heap.size]? = _ from HXX.out)).1
  have HO3 := HO2.out.two (g := w.heap.size) (fun e => by have := (HV.out _ e).1; omega) (.slice av s.length cv) (.slice (some ⟨w1.heap.size, 0, none⟩) s.length s.length)
  have HR3 := OwnInts.two HRN.out.own (g := w.heap.size) (fun e => by
    simp only [Value.ownBlock, Option.some.injEq] at e
    omega) (.slice av s.length cv) (.slice (some ⟨w1.heap.size, 0, none⟩) s.length s.length)
  have HB3 : Below w.heap.size w _ := (HB2.out.setCell (p := ⟨w.heap.size, 0, none⟩) (Nat.le_refl _) (.slice av s.length cv)).setCell (p := ⟨w.heap.size, 1, none⟩) (Nat.le_refl _) (.slice (some ⟨w1.heap.size, 0, none⟩) s.length s.length)
  obtain ⟨e0, e1, _⟩ := two_cells (two_set (d0 := .slice av s.length cv) (d1 := .slice (some ⟨w1.heap.size, 0, none⟩) s.length s.length) HX2.out)
  generalize (((w1.alloc (.cells (madeCells #[Value.int .i64 0] s.length) 3)).setCell ⟨w.heap.size, 0, none⟩ (.slice av s.length cv)).setCell ⟨w.heap.size, 1, none⟩ (.slice (some ⟨w1.heap.size, 0, none⟩) s.length s.length)) = W3 at HO3 HR3 HB3 e0 e1 ⊢
  refine bodyPost_ret (v := .agg #[.slice av s.length cv, .slice (some ⟨w1.heap.size, 0, none⟩) s.length s.length]) (by simp [results, Try.results19, go_sem, e0, e1]) rfl ⟨⟨_, _, rfl, HO3, HR3, fun e => ?_⟩, HB3⟩
  have := (HV.out _ e).2
  omega

structure Met (w : World) (base T : Nat) (v : Value) (n : Nat) (ts : List Int) (wr : World) : Prop where
  g : w.grownBy wr (some T)
  x : wr.heap[w.heap.size]? = some (.cells #[v, .slice (some ⟨T, 0, none⟩) n n] 52 (0, 0))
  r : RowN wr base T ts
theorem Met.below {w : World} {base T : Nat} {v : Value} {n : Nat} {ts : List Int} {wr w' : World} (h : Met w base T v n ts wr) (hb : Below wr.heap.size wr w') : Met w base T v n ts w' :=
  ⟨h.g.trans (gbOf hb _), (hb.block _ (Array.getElem?_eq_some_iff.1 h.x).1).trans h.x, h.r.below hb⟩
theorem Met.set {w : World} {base T : Nat} {v : Value} {n : Nat} {ts : List Int} {wr : World} (h : Met w base T v n ts wr) (hT : T < w.heap.size) (k : Nat) (x : Int) : Met w base T v n (ts.set k x) (wr.setCell ⟨T, k, none⟩ (.int .i64 x)) :=
  ⟨gb_setg h.g _, (Below.heap_setCell _ _ _ _ (by show w.heap.size ≠ T; omega)).trans h.x, h.r.set k x⟩

set_option maxRecDepth 100000 in
set_option maxHeartbeats 4000000 in
theorem meet_any (base T : Nat) (v : Value) (s : List Int) (a : Option Addr) (rs : List RowD) (ca : Nat) (w0 w : World) (hb0 : Below w0.heap.size w0 w) (hT : w0.heap.size ≤ T) (hr : RowsAt w0 a rs) (hl : rs.length ≤ 1000000) (hn : (allN rs).length ≤ 1000000)
    (hv : OwnInts w base v s) (hs : s.Pairwise (· < ·)) (hsl : s.length ≤ 10000000) (ht : RowN w base T (cntN s [])) (hne : v.ownBlock ≠ some T) :
    Calls Try.prog 20 #[.agg #[v, .slice (some ⟨T, 0, none⟩) s.length s.length], .slice a rs.length ca] w fun e w' => e = .returned (.tuple #[]) ∧ OwnInts w' base v s ∧ RowN w' base T (cntN s (allN rs)) ∧ w.grownBy w' (some T) := by
  have HR : Hid (RowsAt w0 a rs) := hr
  have HN : Hid ((allN rs).length ≤ 1000000) := hn
  have HS : Hid (s.Pairwise (· < ·)) := hs
  have HV : Hid (∀ w', w.grownBy w' (some T) → OwnInts w' base v s) := fun w' hg => World.ownsRow.kept hv hg (.inr hne)
  have HTL : Hid (T < w.heap.size) := ht.lt.2
  have HB : Hid (∀ w', w.grownBy w' (some T) → Below w0.heap.size w0 w') := fun w' hg => hb0.grown hg hb0.size (fun k e => by injection e with e; omega)
  have HM0 : Hid (Met w base T v s.length (cntN s []) (w.alloc (.cells #[v, .slice (some ⟨T, 0, none⟩) s.length s.length] 52))) :=
    ⟨gbOf (nwA (nwR w) _) _, heap_alloc_new w _, ht.below (nwA (nwR w) _)⟩
  clear hr hn hs hv hb0 ht
  go_enter Try.func20, Try.ntmps20
  go_wp2_with fail
  go_loopw [12] (fun i wr => ∃ (k : Nat), k ≤ rs.length ∧ i = .int .i64 k ∧ Hid (Met w base T v s.length (cntN s (allN (rs.take k))) wr))
    (fun i _ => rs.length - (intOf i).toNat)
  case atStart => exact ⟨0, by omega, rfl, HM0⟩
  case round =>
    obtain ⟨k, hk, rfl, HM⟩ := hrel
    clear HM0
    by_cases hkl : k < rs.length
    · have hkli : (k : Int) < (rs.length : Int) := by omega
      obtain ⟨b1, o1, rfl, hc, hok, _⟩ := (HR.out.below (HB.out _ HM.out.g)).row hkl
      have HS2 : Hid (allN (rs.take (k + 1)) = allN (rs.take k) ++ (rs.getD k rw0).2.2) := allN_take hkl
      have hle : (allN (rs.take k)).length + (rs.getD k rw0).2.2.length ≤ 1000000 := by
        rw [← List.length_append, ← HS2.out]; exact Nat.le_trans (allN_take_le rs _) HN.out
      have HROW : Hid (IntsAt w0 (rs.getD k rw0).1 (rs.getD k rw0).2.2) := by
        obtain ⟨_, _, _, _, h, _⟩ := HR.out.row hkl
        exact h
      generalize rs.getD k rw0 = r at hc HS2 hle HROW
      obtain ⟨ar, cr, xs⟩ := r
      simp only [rowV] at hc hle
      simp only at HS2 HROW
      generalize allN (rs.take k) = m at HM HS2 hle
      clear hok
      go_wp2_with fail
      go_loopw [18] (fun i wr => ∃ (j : Nat), j ≤ xs.length ∧ i = .int .i64 j ∧ Hid (Met w base T v s.length (cntN s (m ++ xs.take j)) wr))
        (fun i _ => xs.length - (intOf i).toNat)
      case atStart => exact ⟨0, by omega, rfl, by show Met _ _ _ _ _ _ _; rw [List.take_zero, List.append_nil]; exact HM.out⟩
      case round =>
        obtain ⟨j, hj, rfl, HI⟩ := hrel
        clear HM hc
        by_cases hjl : j < xs.length
        · have hjli : (j : Int) < (xs.length : Int) := by omega
          obtain ⟨b2, o2, rfl, hx⟩ := (HROW.out.below (HB.out _ HI.out.g)).cell hjl
          have HX : Hid (m ++ xs.take (j + 1) = (m ++ xs.take j) ++ [xs.getD j 0]) := by
            show _ = _
            rw [List.take_succ_eq_append_getElem hjl, List.append_assoc]; simp [List.getD, hjl]
          have hml : (m ++ xs.take j).length ≤ 1000000 := by rw [List.length_append, List.length_take]; omega
          generalize xs.getD j 0 = x at hx HX
          generalize m ++ xs.take j = mm at HI HX hml
          obtain ⟨x0, x1, xf⟩ := two_cells HI.out.x
          have HAT : Hid (Calls Try.prog 39 #[v, .int .i64 x] wr fun e w' => e = .returned (.tuple #[.int .i64 (s.countP (· < x) : Nat), .bool (s.contains x)]) ∧ ∃ q, w' = wr.drewN q) := sat_any base v s x wr (HV.out _ HI.out.g) HS.out hsl
          by_cases hxs : x ∈ s
          · have hcx : s.contains x = true := by simpa using hxs
            obtain ⟨hcl, hce⟩ := lt_find HS.out hxs
            have HST : Hid (cntN s (m ++ xs.take (j + 1)) = (cntN s mm).set (s.countP (· < x)) ((cntN s mm).getD (s.countP (· < x)) 0 + 1)) := by
              show _ = _
              rw [HX.out]
              have := cntN_step HS.out mm hcl
              rw [hce] at this
              exact this
            have hbd := cntN_bound s mm (s.countP (· < x))
            rw [hcx] at HAT
            generalize s.countP (· < x) = p at HAT HST hcl hbd
            have t0 := HI.out.r.cell (k := p) (by rw [cntN_len]; exact hcl)
            have tf : ∀ o, wr.frozen? ⟨T, o, none⟩ = false := fun o => World.ownsRow.frozenAt HI.out.r o
            have hpi : (p : Int) < (s.length : Int) := by omega
            have hp0 : (0 : Int) ≤ (p : Int) := by omega
            generalize (cntN s mm).getD p 0 = c at t0 HST hbd
            have HMM : Hid (∀ q, Met w base T v s.length (cntN s (m ++ xs.take (j + 1))) ((wr.drewN q).setCell ⟨T, p, none⟩ (.int .i64 (c + 1)))) := fun q => by
              rw [HST.out]
              exact (HI.out.below (below_drewN (nwR wr) q)).set HTL.out p (c + 1)
            have hc1 : c ≤ 1000000 := by omega
            have hc0 : 0 ≤ c := hbd.1
            clear hcx hce hxs HX HST HI hbd
            go_wp2_with fail
            refine HAT.out.mono ?_
            rintro e w2 ⟨rfl, q, rfl⟩
            clear HAT
            go_wp2_with fail
            go_roundw
            case rel => exact ⟨j + 1, by omega, by go_num, HMM.out q⟩
            case measure => simp [intOf]; omega
          · have hcx : s.contains x = false := by simpa using hxs
            have HMM : Hid (∀ q, Met w base T v s.length (cntN s (m ++ xs.take (j + 1))) (wr.drewN q)) := fun q => by
              rw [HX.out, cntN_skip mm hxs]
              exact HI.out.below (below_drewN (nwR wr) q)
            rw [hcx] at HAT
            clear hcx hxs HX HI
            go_wp2_with fail
            refine HAT.out.mono ?_
            rintro e w2 ⟨rfl, q, rfl⟩
            clear HAT
            go_wp2_with fail
            go_roundw
            case rel => exact ⟨j + 1, by omega, by go_num, HMM.out q⟩
            case measure => simp [intOf]; omega
        · have hjli : ¬ (j : Int) < (xs.length : Int) := by omega
          have HMM : Hid (Met w base T v s.length (cntN s (allN (rs.take (k + 1)))) wr) := by
            have := HI.out
            rw [List.take_of_length_le (by omega), ← HS2.out] at this
            exact this
          clear HI
          go_wp2_with fail
          go_roundw
          case rel => exact ⟨k + 1, by omega, by go_num, HMM⟩
          case measure => simp [intOf]; omega
    · have hkli : ¬ (k : Int) < (rs.length : Int) := by omega
      have h := HM.out
      rw [List.take_of_length_le (by omega)] at h
      go_wp2_with fail
      go_end0
      exact ⟨rfl, HV.out _ h.g, h.r, h.g⟩

/-- those of a list beside which 0 stands -/
def zerosN (s ts : List Int) (k : Nat) : List Int := ((List.range k).filter fun i => decide (ts.getD i 0 = 0)).map fun i => s.getD i 0
theorem zerosN_succ (s ts : List Int) (k : Nat) : zerosN s ts (k + 1) = zerosN s ts k ++ (if ts.getD k 0 = 0 then [s.getD k 0] else []) := by
  unfold zerosN
  rw [List.range_succ, List.filter_append, List.map_append]
  congr 1
  by_cases h : ts.getD k 0 = 0
  · rw [if_pos h, List.filter_cons, if_pos (decide_eq_true h)]; rfl
  · rw [if_neg h, List.filter_cons, if_neg (by rw [decide_eq_false h]; decide)]; rfl
theorem zerosN_len (s ts : List Int) (k : Nat) : (zerosN s ts k).length ≤ k := by
  unfold zerosN
  rw [List.length_map]
  exact Nat.le_trans (List.length_filter_le _ _) (by simp)
theorem zerosN_cnt (s m : List Int) : zerosN s (cntN s m) s.length = s.filter fun x => decide (m.count x = 0) := by
  have h : ∀ k, k ≤ s.length → zerosN s (cntN s m) k = (s.take k).filter fun x => decide (m.count x = 0) := by
    intro k
    induction k with
    | zero => intro _; simp [zerosN]
    | succ k ih =>
      intro hk
      have hkl : k < s.length := by omega
      rw [zerosN_succ, ih (by omega), List.take_succ_eq_append_getElem hkl, List.filter_append]
      congr 1
      rw [cntN_get m hkl]
      have e : s.getD k 0 = s[k] := by simp [List.getD, hkl]
      rw [e]
      by_cases hc : m.count s[k] = 0
      · simp [hc]
      · have : ¬ ((m.count s[k] : Nat) : Int) = 0 := by omega
        simp [hc]
  rw [h _ (Nat.le_refl _), List.take_length]

set_option maxRecDepth 100000 in
set_option maxHeartbeats 4000000 in
theorem unmet_any (base T : Nat) (v : Value) (s ts : List Int) (w : World) (hv : OwnInts w base v s) (hsl : s.length ≤ 1000000) (ht : RowN w base T ts) (htl : ts.length = s.length) :
    Calls Try.prog 21 #[.agg #[v, .slice (some ⟨T, 0, none⟩) s.length s.length]] w fun e w' => (∃ u, e = .returned u ∧ OwnInts w' w.heap.size u (zerosN s ts s.length)) ∧ Below w.heap.size w w' := by
  obtain ⟨av, cv, rfl, hat, _⟩ := id hv.at
  have HAT : Hid (IntsAt w av s) := hat
  have HB0 : Hid (Below w.heap.size w (w.alloc (.cells #[.slice av s.length cv, .slice (some ⟨T, 0, none⟩) s.length s.length] 52))) := nwA (nwR w) _
  have HX0 : Hid ((w.alloc (.cells #[.slice av s.length cv, .slice (some ⟨T, 0, none⟩) s.length s.length] 52)).heap[w.heap.size]? = some (.cells #[.slice av s.length cv, .slice (some ⟨T, 0, none⟩) s.length s.length] 52 (0, 0))) := heap_alloc_new w _
  have HTT : Hid (∀ k, k < s.length → w.cell? ⟨T, k, none⟩ = some (.int .i64 (ts.getD k 0))) := fun k hk => ht.cell (by omega)
  clear hv hat ht
  obtain ⟨i0, hi, hz0, hz1, hz2⟩ := info_parts Try.info3
  go_enter Try.func21, Try.ntmps21
  go_wp2_with fail
  go_loopw [3, 9] (fun v i wr => ∃ (k : Nat), k ≤ s.length ∧ i = .int .i64 k ∧ OwnInts wr (w.heap.size + 1) v (zerosN s ts k) ∧ Hid (Below w.heap.size w wr ∧ wr.heap[w.heap.size]? = some (.cells #[.slice av s.length cv, .slice (some ⟨T, 0, none⟩) s.length s.length] 52 (0, 0))))
    (fun _ i _ => s.length - (intOf i).toNat)
  case atStart => exact ⟨0, by omega, rfl, World.ownsRow_nil _ _ _ _, HB0.out, HX0.out⟩
  case round =>
    obtain ⟨k, hk, rfl, hO, HW⟩ := hrel
    have HO : Hid (OwnInts wr (w.heap.size + 1) u3 (zerosN s ts k)) := hO
    clear hO HX0 HB0
    by_cases hkl : k < s.length
    · have hkli : (k : Int) < (s.length : Int) := by omega
      have hk0 : (0 : Int) ≤ (k : Int) := by omega
      obtain ⟨b1, o1, rfl, hc⟩ := (HAT.out.below HW.out.1).cell hkl
      have ht0 := (HW.out.1.cell (p := ⟨T, k, none⟩) (block_lt_of_cell (HTT.out k hkl))).trans (HTT.out k hkl)
      obtain ⟨x0, x1, _⟩ := two_cells HW.out.2
      have HS : Hid (zerosN s ts (k + 1) = zerosN s ts k ++ (if ts.getD k 0 = 0 then [s.getD k 0] else [])) := zerosN_succ s ts k
      have hlt : (zerosN s ts k).length ≤ 1000000 := Nat.le_trans (zerosN_len s ts k) (by omega)
      generalize s.getD k 0 = x at hc HS
      generalize ts.getD k 0 = y at ht0 HS
      generalize zerosN s ts k = ys at HO HS hlt
      by_cases hy : y = 0
      · have HS2 : Hid (zerosN s ts (k + 1) = ys ++ [x]) := by show _ = _; rw [HS.out, if_pos hy]
        subst hy
        clear HS
        have hx1 : w.heap.size < wr.heap.size := (Array.getElem?_eq_some_iff.1 HW.out.2).1
        have hsz : w.heap.size + 1 ≤ (wr.alloc (.cells #[.int .i64 x] 3)).heap.size := by simp; omega
        have hc3 : ys.length + 1 ≤ maxLen := by unfold maxLen; omega
        have hc4 : (ys.length + 1) * 8 ≤ 140737488355328 := by omega
        go_wp2_with (at_builtin; refine wpList_append_own _ rfl (.tmp 20) (.tmp 22) 30 rfl (w.heap.size + 1) 3 i0 (.int .i64 0) 1 8 Try.underlying30 hi hz0 hz1 hz2 rfl (by decide) u3 ys.length (ys.map (.int .i64)) rfl (World.ownsRow.alloc HO.out _) ⟨wr.heap.size, 0, none⟩ 1 1 [.int .i64 x] rfl rfl (cells_new _ [.int .i64 x] _) (by simp [Value.oneCell']) hc3 hc4 hsz ?_; intro v' w3 hown hgrow _; refine unstop ?_)
        unfold Stop
        have hbA : Below (w.heap.size + 1) (wr.alloc (.cells #[.int .i64 x] 3)) w3 := (Below.refl _ _).grown hgrow hsz (fun q e => (World.ownsRow.lt HO.out q e).1)
        have HB3 : Hid (Below w.heap.size w w3 ∧ w3.heap[w.heap.size]? = some (.cells #[.slice (some ⟨b1, o1, none⟩) s.length cv, .slice (some ⟨T, 0, none⟩) s.length s.length] 52 (0, 0))) :=
          ⟨(nwA HW.out.1 _).trans (hbA.mono (by omega)), (hbA.block _ (by omega)).trans (((nwA (nwR wr) _).block _ hx1).trans HW.out.2)⟩
        have HO3 : Hid (OwnInts w3 (w.heap.size + 1) v' (zerosN s ts (k + 1))) := by rw [HS2.out]; exact OwnInts.snoc hown
        clear hown hgrow hbA
        go_wp2_with fail
        go_roundw
        case rel => exact ⟨k + 1, by omega, by go_num, HO3.out, HB3⟩
        case measure => simp [intOf]; omega
      · have hy2 : (y == 0) = false := beq_eq_false_iff_ne.2 hy
        have HS2 : Hid (zerosN s ts (k + 1) = ys) := by show _ = _; rw [HS.out, if_neg hy, List.append_nil]
        clear hy HS
        go_wp2_with fail
        go_roundw
        case rel => exact ⟨k + 1, by omega, by go_num, by rw [HS2.out]; exact HO.out, HW⟩
        case measure => simp [intOf]; omega
    · have hkli : ¬ (k : Int) < (s.length : Int) := by omega
      have hke : s.length = k := by omega
      have HOE : Hid (OwnInts wr (w.heap.size + 1) u3 (zerosN s ts s.length)) := by rw [hke]; exact HO.out
      clear hke
      clear HO
      have h := HOE.out
      obtain ⟨au, cu, rfl, _⟩ := h.at
      go_wp2_with fail
      go_ret
      exact ⟨⟨_, rfl, own_le HOE.out (by omega)⟩, HW.out.1⟩

end Go.Proofs.Ytbaphgdlbeaenaa

/- What is in none of some lists, by the program. -/
namespace Go.Proofs.Ytbaphgdlbeaenaa
open Go.RowKit

theorem rowsAt_one (w : World) (a : Option Addr) (l : List Int) (ca : Nat) (h : IntsAt w a l) (hc : a = none → ca = 0) : RowsAt (w.alloc (.cells #[.slice a l.length ca] 30)) (some ⟨w.heap.size, 0, none⟩) [(a, ca, l)] :=
  .inr ⟨w.heap.size, 0, rfl, fun i hi => by
    have : i = 0 := by simpa using hi
    subst this
    refine ⟨?_, h.below (nwA (nwR w) _), hc⟩
    simp [rowV]⟩

set_option maxRecDepth 100000 in
set_option maxHeartbeats 4000000 in
theorem gone_any (a : Option Addr) (l : List Int) (ca : Nat) (ar : Option Addr) (rs : List RowD) (car : Nat) (w : World) (hi : IntsAt w a l) (hc : a = none → ca = 0) (hll : l.length ≤ 1000000) (hr : RowsAt w ar rs) (hl : rs.length ≤ 1000000) (hn : (allN rs).length ≤ 1000000) :
    Calls Try.prog 7 #[.slice a l.length ca, .slice ar rs.length car] w fun e w' => (∃ u, e = .returned u ∧ OwnInts w' w.heap.size u (goneN l (rs.map fun r => r.2.2))) ∧ Below w.heap.size w w' := by
  have HR : Hid (RowsAt w ar rs) := hr
  have HN : Hid ((allN rs).length ≤ 1000000) := hn
  have HG : Hid (zerosN (risN l) (cntN (risN l) (allN rs)) (risN l).length = goneN l (rs.map fun r => r.2.2)) := by
    show _ = _
    rw [zerosN_cnt, ← goneN_eq]; rfl
  have hsl : (risN l).length ≤ 1000000 := Nat.le_trans (risN_len _) hll
  have HLT : Hid ((risN l).Pairwise (· < ·)) := risN_lt l
  have HAL : Hid (risN (allN [((a, ca, l) : RowD)]) = risN l) := by show _ = _; simp [allN]
  rw [← HG.out]
  have HB1 : Hid (Below w.heap.size w (w.alloc (.cells #[.slice a l.length ca] 30))) := nwA (nwR w) _
  have HTO : Hid (Calls Try.prog 19 #[.slice (some ⟨w.heap.size, 0, none⟩) 1 1] (w.alloc (.cells #[.slice a l.length ca] 30)) fun e w' => (∃ v T, e = .returned (.agg #[v, .slice (some ⟨T, 0, none⟩) (risN l).length (risN l).length]) ∧ OwnInts w' w.heap.size v (risN l) ∧ RowN w' w.heap.size T (List.replicate (risN l).length 0) ∧ v.ownBlock ≠ some T) ∧ Below w.heap.size w w') := by
    have h := tallyOf_any _ _ 1 _ (rowsAt_one w a l ca hi hc) (by simp) (by simpa [allN] using hll)
    rw [HAL.out] at h
    refine h.mono ?_
    rintro e w' ⟨⟨v, T, h1, h2, h3, h4⟩, h5⟩
    exact ⟨⟨v, T, h1, own_le h2 HB1.out.size, own_le h3 HB1.out.size, h4⟩, nwT HB1.out h5⟩
  clear hr hn hi hc HAL HB1 HG
  generalize risN l = s at hsl HLT HTO ⊢
  go_enter Try.func7, Try.ntmps7
  go_wp2_with fail
  refine HTO.out.mono ?_
  rintro e w2 ⟨⟨v, T, rfl, hO2, hR2, hne⟩, hb2⟩
  obtain ⟨av, cv, rfl, _⟩ := id hO2.at
  have HO3 : Hid (OwnInts (w2.alloc (.cells #[.slice av s.length cv, .slice (some ⟨T, 0, none⟩) s.length s.length] 52)) w.heap.size (.slice av s.length cv) s) := own_below hO2 (nwA (nwR w2) _)
  have HR3 : Hid (RowN (w2.alloc (.cells #[.slice av s.length cv, .slice (some ⟨T, 0, none⟩) s.length s.length] 52)) w.heap.size T (cntN s [])) := by rw [cntN_nil]; exact hR2.below (nwA (nwR w2) _)
  have HB3 : Hid (Below w.heap.size w (w2.alloc (.cells #[.slice av s.length cv, .slice (some ⟨T, 0, none⟩) s.length s.length] 52))) := nwA hb2 _
  have HX3 : Hid ((w2.alloc (.cells #[.slice av s.length cv, .slice (some ⟨T, 0, none⟩) s.length s.length] 52)).heap[w2.heap.size]? = some (.cells #[.slice av s.length cv, .slice (some ⟨T, 0, none⟩) s.length s.length] 52 (0, 0))) := heap_alloc_new w2 _
  have HT : Hid (w.heap.size ≤ T ∧ T < w2.heap.size) := hR2.lt
  have HNE : Hid ((Value.slice av s.length cv).ownBlock ≠ some T) := hne
  clear HTO hO2 hR2 hb2 hne
  obtain ⟨x0, x1, _⟩ := two_cells HX3.out
  go_wp2_with fail
  have HME : Hid (Calls Try.prog 20 #[.agg #[.slice av s.length cv, .slice (some ⟨T, 0, none⟩) s.length s.length], .slice ar rs.length car] (w2.alloc (.cells #[.slice av s.length cv, .slice (some ⟨T, 0, none⟩) s.length s.length] 52)) fun e w' => e = .returned (.tuple #[]) ∧ OwnInts w' w.heap.size (.slice av s.length cv) s ∧ RowN w' w.heap.size T (cntN s (allN rs)) ∧ (w2.alloc (.cells #[.slice av s.length cv, .slice (some ⟨T, 0, none⟩) s.length s.length] 52)).grownBy w' (some T)) :=
    meet_any w.heap.size T (.slice av s.length cv) s ar rs car w _ HB3.out HT.out.1 HR.out hl HN.out HO3.out HLT.out (by omega) HR3.out HNE.out
  generalize w2.alloc (.cells #[.slice av s.length cv, .slice (some ⟨T, 0, none⟩) s.length s.length] 52) = W3 at HB3 HX3 HME ⊢
  refine HME.out.mono ?_
  rintro e w4 ⟨rfl, hO4, hR4, hg4⟩
  have HX4 : Hid (w4.heap[w2.heap.size]? = some (.cells #[.slice av s.length cv, .slice (some ⟨T, 0, none⟩) s.length s.length] 52 (0, 0))) := (hg4.block _ (Array.getElem?_eq_some_iff.1 HX3.out).1 (by have := HT.out.2; simp; omega)).trans HX3.out
  have HB4 : Hid (Below w.heap.size w w4) := HB3.out.grown hg4 HB3.out.size (fun k e => by injection e with e; have := HT.out.1; omega)
  have HUN : Hid (Calls Try.prog 21 #[.agg #[.slice av s.length cv, .slice (some ⟨T, 0, none⟩) s.length s.length]] w4 fun e w' => (∃ u, e = .returned u ∧ OwnInts w' w4.heap.size u (zerosN s (cntN s (allN rs)) s.length)) ∧ Below w4.heap.size w4 w') :=
    unmet_any w.heap.size T (.slice av s.length cv) s _ w4 hO4 hsl hR4 (cntN_len _ _)
  clear x0 x1 HME HX3 HB3 hO4 hR4 hg4 HO3 HR3
  obtain ⟨x0, x1, _⟩ := two_cells HX4.out
  go_wp2_with fail
  refine HUN.out.mono ?_
  rintro e w5 ⟨⟨u, rfl, hO5⟩, hb5⟩
  have HO5 : Hid (OwnInts w5 w.heap.size u (zerosN s (cntN s (allN rs)) s.length)) := own_le hO5 HB4.out.size
  have HB5 : Hid (Below w.heap.size w w5) := nwT HB4.out hb5
  clear hO5 hb5 HUN
  go_wp2_with fail
  go_ret
  exact ⟨⟨_, rfl, HO5.out⟩, HB5.out⟩

end Go.Proofs.Ytbaphgdlbeaenaa

/- Numbers rising, each once, and what is in none of some lists, by the page. -/
namespace Go.Proofs.Ytbaphgdlbeaenaa
open Go.RowKit

/-- a row with one number put in, half way -/
def holeN (ys : List Int) (j : Nat) (z : Int) : List Int := ys.take j ++ z :: ys.drop j
theorem holeN_len (ys : List Int) (j : Nat) (z : Int) (h : j ≤ ys.length) : (holeN ys j z).length = ys.length + 1 := by simp [holeN]; omega
theorem holeN_step {ys : List Int} {j : Nat} (h : j + 1 ≤ ys.length) (z : Int) : (holeN ys (j + 1) z).set (j + 1) (ys.getD j 0) = holeN ys j (ys.getD j 0) := by
  unfold holeN
  have hj : j < ys.length := by omega
  have e1 : ys.take (j + 1) = ys.take j ++ [ys[j]] := List.take_succ_eq_append_getElem hj
  have e2 : ys.drop j = ys[j] :: ys.drop (j + 1) := List.drop_eq_getElem_cons hj
  have e3 : ys.getD j 0 = ys[j] := by simp [List.getD, hj]
  have hl : (ys.take (j + 1)).length = j + 1 := by simp; omega
  rw [e3, List.set_append, if_neg (by omega), hl, Nat.sub_self, e1, e2, List.set_cons_zero, List.append_assoc]; rfl
theorem holeN_get {ys : List Int} {j : Nat} (h : j + 1 ≤ ys.length) (z : Int) : (holeN ys (j + 1) z)[j]? = some (ys.getD j 0) := by
  unfold holeN
  rw [List.getElem?_append_left (by simp; omega), List.getElem?_take_of_lt (by omega)]
  simp [List.getD, show j < ys.length by omega]
theorem holeN_set {ys : List Int} {j : Nat} (h : j ≤ ys.length) (z x : Int) : (holeN ys j z).set j x = holeN ys j x := by
  unfold holeN
  rw [List.set_append, if_neg (by simp; omega)]
  simp [Nat.min_eq_left h]
theorem holeN_end (ys : List Int) : holeN ys ys.length 0 = ys ++ [0] := by simp [holeN]

set_option maxRecDepth 100000 in
set_option maxHeartbeats 4000000 in
theorem rising_any (a : Option Addr) (l : List Int) (ca : Nat) (w : World) (hi : IntsAt w a l) (hl : l.length ≤ 1000000) :
    Calls Try.prog 23 #[.slice a l.length ca] w fun e w' => (∃ v, e = .returned v ∧ OwnInts w' w.heap.size v (risN l)) ∧ Below w.heap.size w w' := by
  have HI : Hid (IntsAt w a l) := hi
  clear hi
  obtain ⟨i0, hi, hz0, hz1, hz2⟩ := info_parts Try.info3
  go_enter Try.func23, Try.ntmps23
  go_wp2_with fail
  go_loopw [3, 4] (fun v i wr => ∃ (k : Nat), k ≤ l.length ∧ i = .int .i64 k ∧ OwnInts wr w.heap.size v (risN (l.take k)) ∧ Below w.heap.size w wr)
    (fun _ i _ => l.length - (intOf i).toNat)
  case atStart => exact ⟨0, by omega, rfl, World.ownsRow_nil _ _ _ _, nwR w⟩
  case round =>
    obtain ⟨k, hk, rfl, hO, hb⟩ := hrel
    have HO : Hid (OwnInts wr w.heap.size u3 (risN (l.take k))) := hO
    have HB : Hid (Below w.heap.size w wr) := hb
    clear hO
    by_cases hkl : k < l.length
    · have hkli : (k : Int) < (l.length : Int) := by omega
      obtain ⟨b1, o1, rfl, hc⟩ := HI.out.cell hkl
      have HC : Hid (w.cell? ⟨b1, o1 + k, none⟩ = some (.int .i64 (l.getD k 0))) := hc
      have HX : Hid (risN (l.take (k + 1)) = insN (l.getD k 0) (risN (l.take k))) := by
        show _ = _
        rw [List.take_succ_eq_append_getElem hkl, risN_snoc]; simp [List.getD, hkl]
      have hyl : (risN (l.take k)).length ≤ 1000000 := Nat.le_trans (risN_len _) (by rw [List.length_take]; omega)
      generalize l.getD k 0 = x at hc HC HX
      generalize risN (l.take k) = ys at HO HX hyl
      obtain ⟨av, cv, rfl, hav, _⟩ := id HO.out.at
      have HAV : Hid (IntsAt wr av ys) := hav
      clear hc hb hav
      rename World => wA
      go_wp2_with fail
      go_loopw [5] (fun i w2 => ∃ (m : Nat), m ≤ ys.length ∧ i = .int .i64 m ∧ Hid (∀ j, j < m → ys.getD j 0 < x) ∧ Hid (Below wA.heap.size wA w2))
        (fun i _ => ys.length - (intOf i).toNat)
      case atStart => exact ⟨0, by omega, rfl, fun j hj => by omega, nwR wA⟩
      case round =>
        obtain ⟨m, hm, rfl, HL, HW⟩ := hrel
        have HCW : Hid (wr.cell? ⟨b1, o1 + k, none⟩ = some (.int .i64 x)) := ((nwT HB.out HW.out).cell (p := ⟨b1, o1 + k, none⟩) (block_lt_of_cell HC.out)).trans HC.out
        by_cases hml : m < ys.length
        · have hmi : (m : Int) < (ys.length : Int) := by omega
          obtain ⟨b2, o2, rfl, hy⟩ := (HAV.out.below HW.out).cell hml
          have HLE : Hid (ys.getD m 0 < x → ∀ j, j < m + 1 → ys.getD j 0 < x) := fun h j hj => by
            by_cases e : j = m
            · subst e; exact h
            · exact HL.out j (by omega)
          have HGE : Hid (ys.getD m 0 = ys.getD m 0) := rfl
          generalize hyy : ys.getD m 0 = y at hy HLE
          have HY : Hid (ys.getD m 0 = y) := hyy
          clear hyy HGE
          have hx := HCW.out
          by_cases hyx : y < x
          · have HLN := HLE.out hyx
            have HLM : Hid (∀ j, j < m + 1 → ys.getD j 0 < x) := HLN
            clear HLN HLE
            go_wp2_with fail
            go_quiet (fail)
            have HWB : Hid (Below wA.heap.size wA (wr.drewN nq)) := below_drewN HW.out _
            generalize wr.drewN nq = wB at HWB ⊢
            go_wp2_with fail
            go_roundw
            case rel => exact ⟨m + 1, by omega, by go_num, HLM, HWB⟩
            case measure => simp [intOf]; omega
          · have hd0 : decide (y < x) = false := decide_eq_false hyx
            go_wp2_with fail
            go_quiet (fail)
            have HWB : Hid (Below wA.heap.size wA (wr.drewN nq)) := below_drewN HW.out _
            generalize wr.drewN nq = wB at HWB ⊢
            have HCB : Hid (wB.cell? ⟨b1, o1 + k, none⟩ = some (.int .i64 x)) := ((nwT HB.out HWB.out).cell (p := ⟨b1, o1 + k, none⟩) (block_lt_of_cell HC.out)).trans HC.out
            obtain ⟨_, _, e, hyb⟩ := (HAV.out.below HWB.out).cell hml
            injection e with e
            injection e with e1 e2
            subst e1; subst e2
            rw [HY.out] at hyb
            clear hy hx HCW HW
            have hx := HCB.out
            by_cases hye : y = x
            · have hyq : (y == x) = true := by rw [hye]; simp
              have HN : Hid (risN (l.take (k + 1)) = ys) := by
                show _ = _
                rw [HX.out, insN_at x ys m hm HL.out (fun _ => by rw [HY.out]; omega), if_pos ⟨hml, by rw [HY.out]; exact hye⟩]
              clear hye
              go_wp2_with fail
              go_quiet (fail)
              have HOW : Hid (OwnInts (wB.drewN nq) w.heap.size (.slice (some ⟨b2, o2, none⟩) ys.length cv) ys) := own_below HO.out (below_drewN HWB.out _)
              have HBW : Hid (Below w.heap.size w (wB.drewN nq)) := nwT HB.out (below_drewN HWB.out _)
              generalize wB.drewN nq = wC at HOW HBW ⊢
              go_wp2_with fail
              go_roundw
              case rel => exact ⟨k + 1, by omega, by go_num, by rw [HN.out]; exact HOW.out, HBW.out⟩
              case measure => simp [intOf]; omega
            · have hyq : (y == x) = false := beq_eq_false_iff_ne.2 hye
              have HN : Hid (risN (l.take (k + 1)) = holeN ys m x) := by
                show _ = _
                rw [HX.out, insN_at x ys m hm HL.out (fun _ => by rw [HY.out]; omega), if_neg (fun h => hye (by rw [← HY.out]; exact h.2))]; rfl
              clear hye
              go_wp2_with fail
              go_quiet (fail)
              have HWC : Hid (Below wA.heap.size wA (wB.drewN nq)) := below_drewN HWB.out _
              generalize wB.drewN nq = wC at HWC ⊢
              clear HWB hx hyb HCB
              have HOW : Hid (OwnInts wC w.heap.size (.slice (some ⟨b2, o2, none⟩) ys.length cv) ys) := own_below HO.out HWC.out
              have HBW : Hid (Below w.heap.size w wC) := nwT HB.out HWC.out
              have hsz : w.heap.size ≤ (wC.alloc (.cells #[.int .i64 0] 3)).heap.size := (nwA HBW.out _).size
              have hc3 : ys.length + 1 ≤ maxLen := by unfold maxLen; omega
              have hc4 : (ys.length + 1) * 8 ≤ 140737488355328 := by omega
              go_wp2_with (at_builtin; refine wpList_append_own _ rfl (.tmp 45) (.tmp 46) 30 rfl w.heap.size 3 i0 (.int .i64 0) 1 8 Try.underlying30 hi hz0 hz1 hz2 rfl (by decide) (.slice (some ⟨b2, o2, none⟩) ys.length cv) ys.length (ys.map (.int .i64)) rfl (World.ownsRow.alloc HOW.out _) ⟨wC.heap.size, 0, none⟩ 1 1 [.int .i64 0] rfl rfl (cells_new _ [.int .i64 0] _) (by simp [Value.oneCell']) hc3 hc4 hsz ?_; intro v' w3 hown hgrow _; refine unstop ?_)
              unfold Stop
              obtain ⟨g, cap, rfl, hg1, hg2⟩ := slice_cells hown (by omega)
              have HB3 : Hid (Below w.heap.size w w3) := (nwA HBW.out _).grown hgrow (nwA HBW.out _).size (fun q e => (World.ownsRow.lt HOW.out q e).1)
              have HR3 : Hid (w3.ownsRow w.heap.size 3 1 (.slice (some ⟨g, 0, none⟩) (ys.length + 1) cap) (ys.length + 1) ((holeN ys ys.length 0).map (.int .i64))) := by
                show World.ownsRow _ _ _ _ _ _ _
                rw [holeN_end, List.map_append]; exact hown
              have HYL : Hid (∃ n1, n1 = ys.length + 1) := ⟨_, rfl⟩
              obtain ⟨n1, hn1⟩ := HYL.out
              have HN1 : Hid (n1 = ys.length + 1) := hn1
              have hn1a : n1 ≤ ys.length + 1 := by omega
              have hn1b : ys.length + 1 ≤ n1 := by omega
              have hn1c : (n1 : Int) - 1 = (ys.length : Int) := by omega
              rw [← hn1] at HR3 ⊢
              clear hn1 HYL hown hgrow HOW HBW hc3 hc4 hsz
              go_wp2_with fail
              go_loopw [6] (fun i w4 => ∃ (j : Nat) (z : Int), m ≤ j ∧ j ≤ ys.length ∧ i = .int .i64 j ∧ Hid (w4.ownsRow w.heap.size 3 1 (.slice (some ⟨g, 0, none⟩) n1 cap) n1 ((holeN ys j z).map (.int .i64))) ∧ Hid (Below w.heap.size w w4))
                (fun i _ => (intOf i).toNat)
              case atStart => exact ⟨ys.length, 0, hm, by omega, by go_num, HR3, HB3⟩
              case round =>
                obtain ⟨j, z, hmj, hjy, rfl, HRW, HBW⟩ := hrel
                clear HR3 HB3
                have tf : ∀ o, wr.frozen? ⟨g, o, none⟩ = false := fun o => World.ownsRow.frozenAt HRW.out o
                have hjn : (j : Int) < (n1 : Int) := by omega
                have hjn0 : (0 : Int) ≤ (j : Int) := by omega
                by_cases hjm : m < j
                · have hjmi : (j : Int) > (m : Int) := by omega
                  obtain ⟨i, hi1⟩ : ∃ i, j = i + 1 := ⟨j - 1, by omega⟩
                  have hji : (j : Int) - 1 = (i : Int) := by omega
                  have hin : (i : Int) < (n1 : Int) := by omega
                  have hin0 : (0 : Int) ≤ (i : Int) := by omega
                  have him : m ≤ i := by omega
                  have hiy : i ≤ ys.length := by omega
                  have hij : i < j := by omega
                  have c0 : wr.cell? ⟨g, i, none⟩ = some (.int .i64 (ys.getD i 0)) := by
                    rw [World.ownsRow.cellAt HRW.out i (by omega), List.getElem?_map, hi1, holeN_get (by omega)]; rfl
                  have c1 : (wr.cell? ⟨g, j, none⟩).isSome = true := by
                    rw [World.ownsRow.cellAt HRW.out j (by omega), List.getElem?_map, List.getElem?_eq_getElem (by rw [holeN_len _ _ _ hjy]; omega)]; rfl
                  obtain ⟨c1v, c1⟩ := Option.isSome_iff_exists.1 c1
                  have HN2 : Hid ((wr.setCell ⟨g, j, none⟩ (.int .i64 (ys.getD i 0))).ownsRow w.heap.size 3 1 (.slice (some ⟨g, 0, none⟩) n1 cap) n1 ((holeN ys i (ys.getD i 0)).map (.int .i64))) := by
                    have h := (World.ownsRow.stored HRW.out j (.int .i64 (ys.getD i 0))).1
                    rw [← List.map_set, hi1, holeN_step (by omega), ← hi1] at h
                    exact h
                  have HB2 : Hid (Below w.heap.size w (wr.setCell ⟨g, j, none⟩ (.int .i64 (ys.getD i 0)))) := HBW.out.setCell (p := ⟨g, j, none⟩) hg1 _
                  generalize ys.getD i 0 = q at c0 HN2 HB2
                  clear HRW HBW hi1
                  go_wp2_with fail
                  go_roundw
                  case rel => exact ⟨i, q, by omega, by omega, by go_num, HN2, HB2⟩
                  case measure => simp [intOf]; omega
                · have hjmi : ¬ (j : Int) > (m : Int) := by omega
                  obtain rfl : j = m := by omega
                  have hx : wr.cell? ⟨b1, o1 + k, none⟩ = some (.int .i64 x) := (HBW.out.cell (p := ⟨b1, o1 + k, none⟩) (block_lt_of_cell HC.out)).trans HC.out
                  have c1 : (wr.cell? ⟨g, j, none⟩).isSome = true := by
                    rw [World.ownsRow.cellAt HRW.out j (by omega), List.getElem?_map, List.getElem?_eq_getElem (by rw [holeN_len _ _ _ hjy]; omega)]; rfl
                  obtain ⟨c1v, c1⟩ := Option.isSome_iff_exists.1 c1
                  have HN2 : Hid (OwnInts (wr.setCell ⟨g, j, none⟩ (.int .i64 x)) w.heap.size (.slice (some ⟨g, 0, none⟩) n1 cap) (risN (l.take (k + 1)))) := by
                    have h := (World.ownsRow.stored HRW.out j (.int .i64 x)).1
                    rw [← List.map_set, holeN_set hjy] at h
                    show OwnInts _ _ _ _
                    rw [HN.out]
                    unfold OwnInts
                    rw [holeN_len _ _ _ hjy, ← HN1.out]
                    exact h
                  have HB2 : Hid (Below w.heap.size w (wr.setCell ⟨g, j, none⟩ (.int .i64 x))) := HBW.out.setCell (p := ⟨g, j, none⟩) hg1 _
                  clear HRW HBW
                  go_wp2_with fail
                  go_roundw
                  case rel => exact ⟨k + 1, by omega, by go_num, HN2.out, HB2.out⟩
                  case measure => simp [intOf]; omega
        · have hmi : ¬ (m : Int) < (ys.length : Int) := by omega
          have hd1 : decide ((m : Int) < (ys.length : Int)) = false := decide_eq_false hmi
          have HN : Hid (risN (l.take (k + 1)) = holeN ys m x) := by
            show _ = _
            rw [HX.out, insN_at x ys m hm HL.out (fun h => absurd h hml), if_neg (fun h => hml h.1)]; rfl
          go_wp2_with fail
          go_quiet (fail)
          have HWB : Hid (Below wA.heap.size wA (wr.drewN nq)) := below_drewN HW.out _
          generalize wr.drewN nq = wB at HWB ⊢
          clear HW HCW
          go_wp2_with fail
          go_quiet (fail)
          have HWC : Hid (Below wA.heap.size wA (wB.drewN nq)) := below_drewN HWB.out _
          generalize wB.drewN nq = wC at HWC ⊢
          clear HWB
          have HOW : Hid (OwnInts wC w.heap.size (.slice av ys.length cv) ys) := own_below HO.out HWC.out
          have HBW : Hid (Below w.heap.size w wC) := nwT HB.out HWC.out
          have hsz : w.heap.size ≤ (wC.alloc (.cells #[.int .i64 0] 3)).heap.size := (nwA HBW.out _).size
          have hc3 : ys.length + 1 ≤ maxLen := by unfold maxLen; omega
          have hc4 : (ys.length + 1) * 8 ≤ 140737488355328 := by omega
          go_wp2_with (at_builtin; refine wpList_append_own _ rfl (.tmp 45) (.tmp 46) 30 rfl w.heap.size 3 i0 (.int .i64 0) 1 8 Try.underlying30 hi hz0 hz1 hz2 rfl (by decide) (.slice av ys.length cv) ys.length (ys.map (.int .i64)) rfl (World.ownsRow.alloc HOW.out _) ⟨wC.heap.size, 0, none⟩ 1 1 [.int .i64 0] rfl rfl (cells_new _ [.int .i64 0] _) (by simp [Value.oneCell']) hc3 hc4 hsz ?_; intro v' w3 hown hgrow _; refine unstop ?_)
          unfold Stop
          obtain ⟨g, cap, rfl, hg1, hg2⟩ := slice_cells hown (by omega)
          have HB3 : Hid (Below w.heap.size w w3) := (nwA HBW.out _).grown hgrow (nwA HBW.out _).size (fun q e => (World.ownsRow.lt HOW.out q e).1)
          have HR3 : Hid (w3.ownsRow w.heap.size 3 1 (.slice (some ⟨g, 0, none⟩) (ys.length + 1) cap) (ys.length + 1) ((holeN ys ys.length 0).map (.int .i64))) := by
            show World.ownsRow _ _ _ _ _ _ _
            rw [holeN_end, List.map_append]; exact hown
          have HYL : Hid (∃ n1, n1 = ys.length + 1) := ⟨_, rfl⟩
          obtain ⟨n1, hn1⟩ := HYL.out
          have HN1 : Hid (n1 = ys.length + 1) := hn1
          have hn1a : n1 ≤ ys.length + 1 := by omega
          have hn1b : ys.length + 1 ≤ n1 := by omega
          have hn1c : (n1 : Int) - 1 = (ys.length : Int) := by omega
          rw [← hn1] at HR3 ⊢
          clear hn1 HYL hown hgrow HOW HBW hc3 hc4 hsz
          go_wp2_with fail
          go_loopw [6] (fun i w4 => ∃ (j : Nat) (z : Int), m ≤ j ∧ j ≤ ys.length ∧ i = .int .i64 j ∧ Hid (w4.ownsRow w.heap.size 3 1 (.slice (some ⟨g, 0, none⟩) n1 cap) n1 ((holeN ys j z).map (.int .i64))) ∧ Hid (Below w.heap.size w w4))
            (fun i _ => (intOf i).toNat)
          case atStart => exact ⟨ys.length, 0, hm, by omega, by go_num, HR3, HB3⟩
          case round =>
            obtain ⟨j, z, hmj, hjy, rfl, HRW, HBW⟩ := hrel
            clear HR3 HB3
            have tf : ∀ o, wr.frozen? ⟨g, o, none⟩ = false := fun o => World.ownsRow.frozenAt HRW.out o
            have hjn : (j : Int) < (n1 : Int) := by omega
            have hjn0 : (0 : Int) ≤ (j : Int) := by omega
            by_cases hjm : m < j
            · omega
            · have hjmi : ¬ (j : Int) > (m : Int) := by omega
              obtain rfl : j = m := by omega
              have hx : wr.cell? ⟨b1, o1 + k, none⟩ = some (.int .i64 x) := (HBW.out.cell (p := ⟨b1, o1 + k, none⟩) (block_lt_of_cell HC.out)).trans HC.out
              have c1 : (wr.cell? ⟨g, j, none⟩).isSome = true := by
                rw [World.ownsRow.cellAt HRW.out j (by omega), List.getElem?_map, List.getElem?_eq_getElem (by rw [holeN_len _ _ _ hjy]; omega)]; rfl
              obtain ⟨c1v, c1⟩ := Option.isSome_iff_exists.1 c1
              have HN2 : Hid (OwnInts (wr.setCell ⟨g, j, none⟩ (.int .i64 x)) w.heap.size (.slice (some ⟨g, 0, none⟩) n1 cap) (risN (l.take (k + 1)))) := by
                have h := (World.ownsRow.stored HRW.out j (.int .i64 x)).1
                rw [← List.map_set, holeN_set hjy] at h
                show OwnInts _ _ _ _
                rw [HN.out]
                unfold OwnInts
                rw [holeN_len _ _ _ hjy, ← HN1.out]
                exact h
              have HB2 : Hid (Below w.heap.size w (wr.setCell ⟨g, j, none⟩ (.int .i64 x))) := HBW.out.setCell (p := ⟨g, j, none⟩) hg1 _
              clear HRW HBW
              go_wp2_with fail
              go_roundw
              case rel => exact ⟨k + 1, by omega, by go_num, HN2.out, HB2.out⟩
              case measure => simp [intOf]; omega
    · have hkli : ¬ (k : Int) < (l.length : Int) := by omega
      have HOE : Hid (OwnInts wr w.heap.size u3 (risN l)) := by have := HO.out; rw [List.take_of_length_le (by omega)] at this; exact this
      clear HO
      have h := HOE.out
      obtain ⟨av, cv, rfl, _⟩ := h.at
      go_wp2_with fail
      go_ret
      exact ⟨⟨_, rfl, HOE.out⟩, hb⟩

end Go.Proofs.Ytbaphgdlbeaenaa

/- What is in none of some lists, by the page. -/
namespace Go.Proofs.Ytbaphgdlbeaenaa
open Go.RowKit

set_option maxRecDepth 100000 in
set_option maxHeartbeats 1000000 in
theorem in_any (a : Option Addr) (xs : List Int) (ca : Nat) (n : Int) (w : World) (hx : IntsAt w a xs) (hl : xs.length ≤ 1000000) :
    Calls Try.prog 22 #[.slice a xs.length ca, .int .i64 n] w fun e w' => e = .returned (.int .i64 (optI (xs.findIdx? (· == n)))) ∧ w' = w := by
  have HX : Hid (IntsAt w a xs) := hx
  clear hx
  go_enter Try.func22, Try.ntmps22
  go_wp2_with fail
  go_loopw [5] (fun i wr => ∃ (k : Nat), k ≤ xs.length ∧ i = .int .i64 k ∧ wr = w ∧ Hid (∀ j, j < k → (xs.getD j 0 == n) = false))
    (fun i _ => xs.length - (intOf i).toNat)
  case atStart => exact ⟨0, by omega, rfl, rfl, fun j hj => by omega⟩
  case round =>
    obtain ⟨k, hk, rfl, hw, HE⟩ := hrel
    obtain rfl := hw.symm
    by_cases hlt : k < xs.length
    · obtain ⟨b1, o1, rfl, hf⟩ := HX.out.cell hlt
      have hlti : (k : Int) < (xs.length : Int) := by omega
      have HK : Hid ((xs.getD k 0 == n) = false → ∀ j, j < k + 1 → (xs.getD j 0 == n) = false) := fun h j hj => by
        by_cases e : j = k
        · subst e; exact h
        · exact HE.out j (by omega)
      have HY : Hid ((xs.getD k 0 == n) = true → xs.findIdx? (· == n) = some k) := fun h => find_yes 0 hlt h (fun j hj => HE.out j hj)
      generalize xs.getD k 0 = x at hf HK HY
      by_cases he : x = n
      · have HR : Hid (xs.findIdx? (· == n) = some k) := HY.out (by rw [he]; simp)
        have he2 : (x == n) = true := by rw [he]; simp
        clear he
        go_wp2_with fail
        go_ret
        exact ⟨ret_int (by rw [HR.out]; rfl), rfl⟩
      · have he2 : (x == n) = false := beq_eq_false_iff_ne.2 he
        have HN := HK.out he2
        have HN2 : Hid (∀ j, j < k + 1 → (xs.getD j 0 == n) = false) := HN
        clear HN he HK
        go_wp2_with fail
        go_roundw
        case rel => exact ⟨k + 1, by omega, by go_num, by first | rfl | trivial, HN2⟩
        case measure => simp [intOf]; omega
    · have hlti : ¬ (k : Int) < (xs.length : Int) := by omega
      have HY : Hid (xs.findIdx? (· == n) = none) := find_no 0 (fun j hj => HE.out j (by omega))
      go_wp2_with fail
      go_ret
      exact ⟨ret_int (by rw [HY.out]; rfl), rfl⟩
theorem in_has (a : Option Addr) (xs : List Int) (ca : Nat) (n : Int) (w : World) (hx : IntsAt w a xs) (hl : xs.length ≤ 1000000) (r : Int) (hr : optI (xs.findIdx? (· == n)) = r) :
    Calls Try.prog 22 #[.slice a xs.length ca, .int .i64 n] w fun e w' => e = .returned (.int .i64 r) ∧ w' = w := by
  rw [← hr]; exact in_any a xs ca n w hx hl

theorem optI_find (xs : List Int) (id : Int) : decide (optI (xs.findIdx? (· == id)) ≥ 0) = xs.contains id := by
  cases h : xs.findIdx? (· == id) with
  | none =>
    rw [List.findIdx?_eq_none_iff] at h
    have : ¬ id ∈ xs := fun hm => by simpa using h id hm
    simp [optI, this]
  | some k =>
    rw [List.findIdx?_eq_some_iff_getElem] at h
    obtain ⟨hk, h2, _⟩ := h
    have : id ∈ xs := by
      have e : xs[k] = id := by simpa using h2
      rw [← e]; exact List.getElem_mem hk
    simp [optI, this]

/-- in none of the rows -/
def outN (rs : List RowD) (x : Int) : Bool := !(rs.any fun r => r.2.2.contains x)
theorem goneN_rows (l : List Int) (rs : List RowD) : goneN l (rs.map fun r => r.2.2) = risN (l.filter (outN rs)) := by
  unfold goneN
  congr 2
  funext x
  rw [List.any_map]; rfl

set_option maxRecDepth 100000 in
set_option maxHeartbeats 4000000 in
theorem goneP_any (a : Option Addr) (l : List Int) (ca : Nat) (ar : Option Addr) (rs : List RowD) (car : Nat) (w : World) (hi : IntsAt w a l) (hll : l.length ≤ 1000000) (hr : RowsAt w ar rs) (hl : rs.length ≤ 1000000) (hn : ∀ r ∈ rs, r.2.2.length ≤ 1000000) :
    Calls Try.prog 9 #[.slice a l.length ca, .slice ar rs.length car] w fun e w' => (∃ u, e = .returned u ∧ OwnInts w' w.heap.size u (goneN l (rs.map fun r => r.2.2))) ∧ Below w.heap.size w w' := by
  rw [goneN_rows]
  have HI : Hid (IntsAt w a l) := hi
  have HR : Hid (RowsAt w ar rs) := hr
  have HN : Hid (∀ r ∈ rs, r.2.2.length ≤ 1000000) := hn
  clear hi hr hn
  obtain ⟨i0, hi, hz0, hz1, hz2⟩ := info_parts Try.info3
  go_enter Try.func9, Try.ntmps9
  go_wp2_with fail
  go_loopw [5, 6] (fun v i wr => ∃ (k : Nat), k ≤ l.length ∧ i = .int .i64 k ∧ OwnInts wr w.heap.size v ((l.take k).filter (outN rs)) ∧ Below w.heap.size w wr)
    (fun _ i _ => l.length - (intOf i).toNat)
  case atStart => exact ⟨0, by omega, rfl, World.ownsRow_nil _ _ _ _, nwR w⟩
  case round =>
    obtain ⟨k, hk, rfl, hO, hb⟩ := hrel
    have HO : Hid (OwnInts wr w.heap.size u5 ((l.take k).filter (outN rs))) := hO
    have HB : Hid (Below w.heap.size w wr) := hb
    clear hO hb
    have hyl : ((l.take k).filter (outN rs)).length ≤ 1000000 := Nat.le_trans (List.length_filter_le _ _) (by rw [List.length_take]; omega)
    by_cases hkl : k < l.length
    · have hkli : (k : Int) < (l.length : Int) := by omega
      have hki0 : (0 : Int) ≤ (k : Int) := by omega
      obtain ⟨b1, o1, rfl, hc⟩ := HI.out.cell hkl
      have HC : Hid (w.cell? ⟨b1, o1 + k, none⟩ = some (.int .i64 (l.getD k 0))) := hc
      have HX : Hid ((l.take (k + 1)).filter (outN rs) = (l.take k).filter (outN rs) ++ (if outN rs (l.getD k 0) = true then [l.getD k 0] else [])) := by
        show _ = _
        have e : l.getD k 0 = l[k] := by simp [List.getD, hkl]
        rw [List.take_succ_eq_append_getElem hkl, List.filter_append, e]
        congr 1
        rw [List.filter_cons]; rfl
      generalize l.getD k 0 = x at hc HC HX
      generalize (l.take k).filter (outN rs) = ys at HO HX hyl
      clear hc
      rename World => wA
      go_wp2_with fail
      go_loopw [7, 8] (fun b i w2 => ∃ (m : Nat) (t : Bool), m ≤ rs.length ∧ i = .int .i64 m ∧ b = .bool t ∧ Hid (t = (rs.take m).any fun r => r.2.2.contains x) ∧ Hid (Below wA.heap.size wA w2))
        (fun _ i _ => rs.length - (intOf i).toNat)
      case atStart => exact ⟨0, false, by omega, rfl, rfl, by show _ = _; simp, nwR wA⟩
      case round =>
        obtain ⟨m, t, hm, rfl, rfl, HT, HW⟩ := hrel
        by_cases hml : m < rs.length
        · have hmi : (m : Int) < (rs.length : Int) := by omega
          have HT2 : Hid ((rs.take (m + 1)).any (fun r => r.2.2.contains x) = (t || (rs.getD m rw0).2.2.contains x)) := by
            show _ = _
            have e : rs.getD m rw0 = rs[m] := by simp [List.getD, hml]
            rw [List.take_succ_eq_append_getElem hml, List.any_append, ← HT.out, e]; simp
          cases t
          case true =>
            have HT3 : Hid (true = (rs.take (m + 1)).any fun r => r.2.2.contains x) := by show _ = _; rw [HT2.out]; rfl
            clear HT HT2
            go_wp2_with fail
            go_quiet (fail)
            have HWB : Hid (Below wA.heap.size wA (wr.drewN nq)) := below_drewN HW.out _
            generalize wr.drewN nq = wB at HWB ⊢
            go_wp2_with fail
            go_roundw
            case rel => exact ⟨m + 1, true, by omega, by go_num, by first | rfl | trivial, HT3, HWB⟩
            case measure => simp [intOf]; omega
          case false =>
            obtain ⟨b2, o2, rfl, hrow, hok⟩ := ((HR.out.below HB.out).below HW.out).row hml
            have hx : wr.cell? ⟨b1, o1 + k, none⟩ = some (.int .i64 x) := ((nwT HB.out HW.out).cell (p := ⟨b1, o1 + k, none⟩) (block_lt_of_cell HC.out)).trans HC.out
            have hrl : (rs.getD m rw0).2.2.length ≤ 1000000 := HN.out _ (by simp [List.getD, hml])
            generalize rs.getD m rw0 = r at hrow hok hrl HT2
            obtain ⟨ar2, cr2, xs⟩ := r
            simp only [rowV] at hrow hrl HT2
            have HIX : Hid (IntsAt wr ar2 xs) := hok.1
            have HOF := optI_find xs x
            have HT3 : Hid (xs.contains x = (rs.take (m + 1)).any fun r => r.2.2.contains x) := by show _ = _; rw [HT2.out]; rfl
            rw [← HOF] at HT3
            clear hok HOF HT HT2
            have HIN : Hid (∀ w', IntsAt w' ar2 xs → Calls Try.prog 22 #[.slice ar2 xs.length cr2, .int .i64 x] w' fun e w'' => e = .returned (.int .i64 (optI (xs.findIdx? (· == x)))) ∧ w'' = w') := fun w' h => in_any ar2 xs cr2 x w' h hrl
            generalize optI (xs.findIdx? (· == x)) = q at HT3 HIN
            go_wp2_with fail
            go_quiet (first | (go_at_call 22; exact Calls.quiet_of_same (HIN.out _ HIX.out)) | fail)
            have HWB : Hid (Below wA.heap.size wA (wr.drewN nq)) := below_drewN HW.out _
            have HT4 : Hid (decide (0 ≤ q) = (rs.take (m + 1)).any fun r => r.2.2.contains x) := HT3.out
            generalize wr.drewN nq = wB at HWB ⊢
            generalize decide (0 ≤ q) = t at HT4 ⊢
            clear HT3 HW HIX hrow hx
            go_wp2_with fail
            go_roundw
            case rel => exact ⟨m + 1, t, by omega, by go_num, by first | rfl | trivial, HT4, HWB⟩
            case measure => simp [intOf]; omega
        · have hmi : ¬ (m : Int) < (rs.length : Int) := by omega
          have HT3 : Hid (t = rs.any fun r => r.2.2.contains x) := by have := HT.out; rw [List.take_of_length_le (by omega)] at this; exact this
          have HBW : Hid (Below w.heap.size w wr) := nwT HB.out HW.out
          have HOW : Hid (OwnInts wr w.heap.size u5 ys) := own_below HO.out HW.out
          have hx : wr.cell? ⟨b1, o1 + k, none⟩ = some (.int .i64 x) := (HBW.out.cell (p := ⟨b1, o1 + k, none⟩) (block_lt_of_cell HC.out)).trans HC.out
          clear HT HW HO HB
          cases t
          case true =>
            have HX2 : Hid ((l.take (k + 1)).filter (outN rs) = ys) := by
              show _ = _
              rw [HX.out, if_neg (by unfold outN; rw [← HT3.out]; decide), List.append_nil]
            clear HT3 HX
            go_wp2_with fail
            go_roundw
            case rel => exact ⟨k + 1, by omega, by go_num, by rw [HX2.out]; exact HOW.out, HBW.out⟩
            case measure => simp [intOf]; omega
          case false =>
            have HX2 : Hid ((l.take (k + 1)).filter (outN rs) = ys ++ [x]) := by
              show _ = _
              rw [HX.out, if_pos (by unfold outN; rw [← HT3.out]; decide)]
            clear HT3 HX
            have hsz : w.heap.size ≤ (wr.alloc (.cells #[.int .i64 x] 3)).heap.size := (nwA HBW.out _).size
            have hc3 : ys.length + 1 ≤ maxLen := by unfold maxLen; omega
            have hc4 : (ys.length + 1) * 8 ≤ 140737488355328 := by omega
            go_wp2_with (at_builtin; refine wpList_append_own _ rfl (.tmp 36) (.tmp 41) 30 rfl w.heap.size 3 i0 (.int .i64 0) 1 8 Try.underlying30 hi hz0 hz1 hz2 rfl (by decide) u5 ys.length (ys.map (.int .i64)) rfl (World.ownsRow.alloc HOW.out _) ⟨wr.heap.size, 0, none⟩ 1 1 [.int .i64 x] rfl rfl (cells_new _ [.int .i64 x] _) (by simp [Value.oneCell']) hc3 hc4 hsz ?_; intro v' w3 hown hgrow _; refine unstop ?_)
            unfold Stop
            have HB3 : Hid (Below w.heap.size w w3) := (nwA HBW.out _).grown hgrow (nwA HBW.out _).size (fun q e => (World.ownsRow.lt HOW.out q e).1)
            have HO3 : Hid (OwnInts w3 w.heap.size v' ((l.take (k + 1)).filter (outN rs))) := by rw [HX2.out]; exact OwnInts.snoc hown
            clear hown hgrow
            go_wp2_with fail
            go_roundw
            case rel => exact ⟨k + 1, by omega, by go_num, HO3.out, HB3.out⟩
            case measure => simp [intOf]; omega
    · have hkli : ¬ (k : Int) < (l.length : Int) := by omega
      have HOE : Hid (OwnInts wr w.heap.size u5 (l.filter (outN rs))) := by have := HO.out; rw [List.take_of_length_le (by omega)] at this; exact this
      have hfl : (l.filter (outN rs)).length ≤ 1000000 := Nat.le_trans (List.length_filter_le _ _) hll
      clear HO
      obtain ⟨av, cv, rfl, hav, _⟩ := id HOE.out.at
      have HRI : Hid (Calls Try.prog 23 #[.slice av (l.filter (outN rs)).length cv] wr fun e w' => (∃ v, e = .returned v ∧ OwnInts w' wr.heap.size v (risN (l.filter (outN rs)))) ∧ Below wr.heap.size wr w') := rising_any av _ cv wr hav hfl
      clear hav
      go_wp2_with fail
      refine HRI.out.mono ?_
      rintro e w2 ⟨⟨v2, rfl, hO2⟩, hb2⟩
      have HO2 : Hid (OwnInts w2 w.heap.size v2 (risN (l.filter (outN rs)))) := own_le hO2 HB.out.size
      have HB2 : Hid (Below w.heap.size w w2) := nwT HB.out hb2
      clear hO2 hb2 HRI
      go_wp2_with fail
      go_ret
      exact ⟨⟨_, rfl, HO2.out⟩, HB2.out⟩

end Go.Proofs.Ytbaphgdlbeaenaa
