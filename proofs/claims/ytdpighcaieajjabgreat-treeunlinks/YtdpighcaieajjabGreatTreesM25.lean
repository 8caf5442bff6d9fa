/- Laid together: Exact, Each, Kinds. -/
import Derived.Test.YtdpighcaieajjabGreatTreesM24
/- The law TreeExact walked. -/
namespace Go.Proofs.YtdpighcaieajjabGreat
open Go.RowKit Go.Sort

theorem ownF_setType {w : World} {base : Nat} {v : Value} {fs : List FileD} (h : OwnFiles w base v fs) {g : Nat} {cur : Array Value} (hg : w.heap[g]? = some (.cells cur 24 (0, 0))) (o : Nat) (u : Value) : OwnFiles (w.setCell ⟨g, o, none⟩ u) base v fs := by
  obtain ⟨gs, e, ho, ha⟩ := h
  exact ⟨gs, e, rowset2 ho hg (by decide) u, fun x hx => ⟨rowset2 (ha x hx).1 hg (by decide) u, rowset2 (ha x hx).2 hg (by decide) u⟩⟩
theorem ownF_five {w : World} {base : Nat} {v : Value} {fs : List FileD} (h : OwnFiles w base v fs) {g : Nat} {cur : Array Value} (hg : w.heap[g]? = some (.cells cur 24 (0, 0))) (a b c d e : Value) : OwnFiles (((((w.setCell ⟨g, 0, none⟩ a).setCell ⟨g, 1, none⟩ b).setCell ⟨g, 2, none⟩ c).setCell ⟨g, 3, none⟩ d).setCell ⟨g, 4, none⟩ e) base v fs := by
  have h1 := heap_setCell_same w g 0 _ 24 a hg
  have h2 := heap_setCell_same _ g 1 _ 24 b h1
  have h3 := heap_setCell_same _ g 2 _ 24 c h2
  have h4 := heap_setCell_same _ g 3 _ 24 d h3
  exact ownF_setType (ownF_setType (ownF_setType (ownF_setType (ownF_setType h hg 0 a) h1 1 b) h2 2 c) h3 3 d) h4 4 e
theorem ownV_five {w : World} {base : Nat} {v : Value} {x : VolD} (h : OwnVol w base v x) {g : Nat} {cur : Array Value} (hg : w.heap[g]? = some (.cells cur 24 (0, 0))) (a b c d e : Value) : OwnVol (((((w.setCell ⟨g, 0, none⟩ a).setCell ⟨g, 1, none⟩ b).setCell ⟨g, 2, none⟩ c).setCell ⟨g, 3, none⟩ d).setCell ⟨g, 4, none⟩ e) base v x := by
  obtain ⟨fv, rfl, hf⟩ := h
  exact ⟨fv, rfl, ownF_five hf hg _ _ _ _ _⟩

set_option maxRecDepth 100000 in
set_option maxHeartbeats 8000000 in
theorem exact_walk : LawOk 7 := by
  intro v d l w hv hd hl
  have HV : Hid (ScrVal w v d l) := hv
  have HD : Hid (LooseV d) := hd
  have HLA : Hid (LooseA l) := hl
  obtain ⟨av, ca, aL, cL, rfl, hu, hL, _⟩ := hv
  have HU : Hid (VolVal w (.agg #[.int .i64 d.id, .int .i64 d.fr, .bool d.snap, .slice av d.files.length ca, .int .i64 d.next]) d) := hu
  have HL : Hid (ActsAt w aL l) := hL
  have HB0 : Hid (Below w.heap.size w (w.alloc (.cells #[.int .i64 d.id, .int .i64 d.fr, .bool d.snap, .slice av d.files.length ca, .int .i64 d.next, .slice aL l.length cL] 27))) := nwA (nwR w) _
  have HR0 : Hid ((w.alloc (.cells #[.int .i64 d.id, .int .i64 d.fr, .bool d.snap, .slice av d.files.length ca, .int .i64 d.next, .slice aL l.length cL] 27)).heap[w.heap.size]? = some (.cells #[.int .i64 d.id, .int .i64 d.fr, .bool d.snap, .slice av d.files.length ca, .int .i64 d.next, .slice aL l.length cL] 27 (0, 0))) := heap_alloc_new w _
  clear hu hL hd hl
  go_enter Tryz.func7, Tryz.ntmps7
  go_wp2_with fail
  refine (heavy_any _ d l _ (HV.out.below HB0.out) HD.out HLA.out).mono ?_
  rintro e w1 ⟨q, rfl, hb1, hq⟩
  have HB1 : Hid (Below w.heap.size w w1) := nwT HB0.out hb1
  have HR1 : Hid (w1.heap[w.heap.size]? = some (.cells #[.int .i64 d.id, .int .i64 d.fr, .bool d.snap, .slice av d.files.length ca, .int .i64 d.next, .slice aL l.length cL] 27 (0, 0))) := (hb1.block _ (Array.getElem?_eq_some_iff.1 HR0.out).1).trans HR0.out
  clear hb1 HB0 HR0 HV
  cases q
  case true =>
    clear hq
    go_wp2_with fail
    go_ret
    exact ⟨rfl, HB1.out⟩
  case false =>
  obtain ⟨hsv, hla⟩ := hq rfl
  have HS : Hid (SmallV d) := hsv
  have hll := hla.1
  clear hq hsv hla HD HLA
  obtain ⟨x0, x1, x2, x3, x4, x5⟩ := six HR1.out
  go_wp2_with fail
  refine (copyVol_any _ d _ (HU.out.below HB1.out) HS.out).mono ?_
  rintro e w3 ⟨⟨u, rfl, hu3⟩, hb3⟩
  have HB3 : Hid (Below w.heap.size w w3) := nwT HB1.out hb3
  have HR3 : Hid (w3.heap[w.heap.size]? = some (.cells #[.int .i64 d.id, .int .i64 d.fr, .bool d.snap, .slice av d.files.length ca, .int .i64 d.next, .slice aL l.length cL] 27 (0, 0))) := (hb3.block _ (Array.getElem?_eq_some_iff.1 HR1.out).1).trans HR1.out
  have hwl := (Array.getElem?_eq_some_iff.1 HR3.out).1
  obtain ⟨fa, fc, rfl, _⟩ := id hu3.lit
  have HOV : Hid (OwnVol w3 w.heap.size (.agg #[.int .i64 d.id, .int .i64 d.fr, .bool d.snap, .slice fa d.files.length fc, .int .i64 d.next]) d) := hu3.le HB1.out.size
  obtain ⟨W, hW⟩ : ∃ W, W = w3.alloc (.cells #[.int .i64 d.id, .int .i64 d.fr, .bool d.snap, .slice fa d.files.length fc, .int .i64 d.next] 24) := ⟨_, rfl⟩
  have hBW : Below w3.heap.size w3 W := by rw [hW]; exact nwA (nwR w3) _
  have HI : Hid (W.heap[w3.heap.size]? = some (.cells #[.int .i64 d.id, .int .i64 d.fr, .bool d.snap, .slice fa d.files.length fc, .int .i64 d.next] 24 (0, 0))) := by rw [hW]; exact heap_alloc_new w3 _
  have HO : Hid (OwnVol W w.heap.size (.agg #[.int .i64 d.id, .int .i64 d.fr, .bool d.snap, .slice fa d.files.length fc, .int .i64 d.next]) d) := HOV.out.below hBW
  have HRW : Hid (W.heap[w.heap.size]? = some (.cells #[.int .i64 d.id, .int .i64 d.fr, .bool d.snap, .slice av d.files.length ca, .int .i64 d.next, .slice aL l.length cL] 27 (0, 0))) := (hBW.block _ hwl).trans HR3.out
  have HLW : Hid (∀ wz, Below w.heap.size w wz → ActsAt wz aL l) := fun wz h => HL.out.below h
  have HBW : Hid (Below w.heap.size w W) := nwT HB3.out hBW
  have HSD : Hid (SmallV d) := HS.out
  clear hBW hu3 hb3 HB1 HR1 HB3 HR3 HOV HU HL x0 x1 x2 x3 x4 x5
  go_wp2_with fail
  rw [← hW]
  clear hW
  obtain ⟨gI, hgI⟩ : ∃ gI, w3.heap.size = gI := ⟨_, rfl⟩
  rw [hgI] at HI hwl ⊢
  clear hgI
  obtain ⟨n0, hn0⟩ : ∃ n0, n0 = w.heap.size := ⟨_, rfl⟩
  rw [← hn0] at HO HRW hwl HBW ⊢
  have HFIN : Hid (∀ wz, Below n0 W wz → Below w.heap.size w wz) := fun wz h => by rw [hn0] at h; have h2 := HBW.out; rw [hn0] at h2; exact h2.trans h
  have HLZ : Hid (∀ wz, Below n0 W wz → ActsAt wz aL l) := fun wz h => HLW.out wz (HFIN.out wz h)
  clear hn0 HLW HBW
  have HNG : Hid (n0 < gI) := hwl
  clear hwl
  go_loopw [4] (fun i wr => ∃ (k : Nat), k ≤ l.length ∧ k ≤ 14 ∧ i = .int .i64 k ∧ Hid (Below n0 W wr) ∧ Hid (wr.heap[n0]? = some (.cells #[.int .i64 d.id, .int .i64 d.fr, .bool d.snap, .slice av d.files.length ca, .int .i64 d.next, .slice aL l.length cL] 27 (0, 0))) ∧ ∃ dd fu cu, wr.heap[gI]? = some (.cells #[.int .i64 dd.id, .int .i64 dd.fr, .bool dd.snap, .slice fu dd.files.length cu, .int .i64 dd.next] 24 (0, 0)) ∧ Hid (OwnVol wr n0 (.agg #[.int .i64 dd.id, .int .i64 dd.fr, .bool dd.snap, .slice fu dd.files.length cu, .int .i64 dd.next]) dd ∧ SmallV dd)) (fun i _ => l.length - (intOf i).toNat)
  case atStart => exact ⟨0, by omega, by omega, rfl, Below.refl _ _, HRW, d, fa, fc, HI.out, ⟨HO.out, HSD.out⟩⟩
  case round =>
    obtain ⟨k, hk, hk14, rfl, HBr, HRr, dd, fu, cu, hI, HOr⟩ := hrel
    have HIr : Hid (wr.heap[gI]? = some (.cells #[.int .i64 dd.id, .int .i64 dd.fr, .bool dd.snap, .slice fu dd.files.length cu, .int .i64 dd.next] 24 (0, 0))) := hI
    clear hI
    obtain ⟨x0, x1, x2, x3, x4, x5⟩ := six HRr.out
    by_cases hk1 : (k : Int) < (l.length : Int) ∧ (k : Int) < 14
    case neg =>
      by_cases hk2 : (k : Int) < (l.length : Int)
      · have hk3 : ¬ (k : Int) < 14 := fun h => hk1 ⟨hk2, h⟩
        go_wp2_with (go_at_call 11; refine (wakes_any _).mono ?_; rintro e wz ⟨rfl, hbz⟩)
        go_ret
        exact ⟨rfl, HFIN.out _ (HBr.out.trans (hbz.mono (Nat.le_of_lt (Array.getElem?_eq_some_iff.1 HRr.out).1)))⟩
      · go_wp2_with (go_at_call 11; refine (wakes_any _).mono ?_; rintro e wz ⟨rfl, hbz⟩)
        go_ret
        exact ⟨rfl, HFIN.out _ (HBr.out.trans (hbz.mono (Nat.le_of_lt (Array.getElem?_eq_some_iff.1 HRr.out).1)))⟩
    case pos =>
    obtain ⟨hk2, hk3⟩ := hk1
    have hkl : k < l.length := by omega
    obtain ⟨b1, o1, rfl, a0, a1, a2⟩ := (HLZ.out _ HBr.out).cell hkl
    generalize (l.getD k act0).act = act at a0
    generalize (l.getD k act0).p = p at a1
    generalize (l.getD k act0).q = q at a2
    obtain ⟨i0, i1, i2, i3, i4, _⟩ := five HIr.out
    have hS := nwR wr
    have HSTP : Hid (∀ w', Below wr.heap.size wr w' → Calls Tryz.prog 10 #[.agg #[.int .i64 dd.id, .int .i64 dd.fr, .bool dd.snap, .slice fu dd.files.length cu, .int .i64 dd.next], .agg #[.int .i64 act, .string p, .string q]] w' fun e w'' => (∃ f2 c2 d2, e = .returned (.tuple #[.agg #[.int .i64 d2.id, .int .i64 d2.fr, .bool d2.snap, .slice f2 d2.files.length c2, .int .i64 d2.next], .bool true]) ∧ OwnVol w'' n0 (.agg #[.int .i64 d2.id, .int .i64 d2.fr, .bool d2.snap, .slice f2 d2.files.length c2, .int .i64 d2.next]) d2 ∧ SmallV d2) ∧ Below w'.heap.size w' w'') := fun w' h => by
      have hov := HOr.out.1.below h
      refine (step_any fu cu dd act p q w' hov.val HOr.out.2).mono ?_
      rintro e w'' ⟨⟨f2, c2, d2, he, ho, hs⟩, hb⟩
      refine ⟨⟨f2, c2, d2, he, ?_, hs⟩, hb⟩
      rcases ho with ⟨rfl, rfl, rfl⟩ | ho
      · exact hov.below hb
      · exact ho.le (by have h1 := h.size; have h2 := (Array.getElem?_eq_some_iff.1 HRr.out).1; omega)
    have z0 : ∀ w', Below wr.heap.size wr w' → w'.cell? ⟨gI, 0, none⟩ = some (.int .i64 dd.id) := fun w' h => (h.cell (p := ⟨gI, 0, none⟩) (block_lt_of_cell i0)).trans i0
    have z1 : ∀ w', Below wr.heap.size wr w' → w'.cell? ⟨gI, 1, none⟩ = some (.int .i64 dd.fr) := fun w' h => (h.cell (p := ⟨gI, 1, none⟩) (block_lt_of_cell i1)).trans i1
    have z2 : ∀ w', Below wr.heap.size wr w' → w'.cell? ⟨gI, 2, none⟩ = some (.bool dd.snap) := fun w' h => (h.cell (p := ⟨gI, 2, none⟩) (block_lt_of_cell i2)).trans i2
    have z3 : ∀ w', Below wr.heap.size wr w' → w'.cell? ⟨gI, 3, none⟩ = some (.slice fu dd.files.length cu) := fun w' h => (h.cell (p := ⟨gI, 3, none⟩) (block_lt_of_cell i3)).trans i3
    have z4 : ∀ w', Below wr.heap.size wr w' → w'.cell? ⟨gI, 4, none⟩ = some (.int .i64 dd.next) := fun w' h => (h.cell (p := ⟨gI, 4, none⟩) (block_lt_of_cell i4)).trans i4
    have z5 : ∀ w', Below wr.heap.size wr w' → w'.cell? ⟨n0, 5, none⟩ = some (.slice (some ⟨b1, o1, none⟩) l.length cL) := fun w' h => (h.cell (p := ⟨n0, 5, none⟩) (block_lt_of_cell x5)).trans x5
    have z6 : ∀ w', Below wr.heap.size wr w' → w'.cell? ⟨b1, o1 + k * 3, none⟩ = some (.int .i64 act) := fun w' h => (h.cell (p := ⟨b1, o1 + k * 3, none⟩) (block_lt_of_cell a0)).trans a0
    have z7 : ∀ w', Below wr.heap.size wr w' → w'.cell? ⟨b1, o1 + k * 3 + 1, none⟩ = some (.string p) := fun w' h => (h.cell (p := ⟨b1, o1 + k * 3 + 1, none⟩) (block_lt_of_cell a1)).trans a1
    have z8 : ∀ w', Below wr.heap.size wr w' → w'.cell? ⟨b1, o1 + k * 3 + 2, none⟩ = some (.string q) := fun w' h => (h.cell (p := ⟨b1, o1 + k * 3 + 2, none⟩) (block_lt_of_cell a2)).trans a2
    have l1 : gI < wr.heap.size := block_lt_of_cell i0
    have l2 : n0 < wr.heap.size := block_lt_of_cell x5
    have l3 : b1 < wr.heap.size := block_lt_of_cell a1
    go_upto_region 7 with fail
    go_cut [5, 6] from 12 to 35 (fun s5 s6 wx => ∃ B d2 f2 c2, s5 = .pointer (some ⟨B, 0, none⟩) ∧ s6 = .bool true ∧ Below wr.heap.size wr wx ∧ wx.heap[B]? = some (.cells #[.int .i64 d2.id, .int .i64 d2.fr, .bool d2.snap, .slice f2 d2.files.length c2, .int .i64 d2.next] 24 (0, 0)) ∧ Hid (OwnVol wx n0 (.agg #[.int .i64 d2.id, .int .i64 d2.fr, .bool d2.snap, .slice f2 d2.files.length c2, .int .i64 d2.next]) d2 ∧ SmallV d2))
    case first =>
      go_region_with (first
        | (go_at_call 10; refine (HSTP.out _ (Below.drew hS)).mono ?_; rintro e wU ⟨⟨f2, c2, d2, rfl, hov, hsm⟩, hbU⟩; have hbu : Below wr.heap.size wr wU := nwT (Below.drew hS) hbU; have HFR : Hid (OwnVol wU n0 (.agg #[.int .i64 d2.id, .int .i64 d2.fr, .bool d2.snap, .slice f2 d2.files.length c2, .int .i64 d2.next]) d2 ∧ SmallV d2) := ⟨hov, hsm⟩; have HF1 : Hid (∀ ob, Hid (OwnVol (wU.alloc ob) n0 (.agg #[.int .i64 d2.id, .int .i64 d2.fr, .bool d2.snap, .slice f2 d2.files.length c2, .int .i64 d2.next]) d2 ∧ SmallV d2)) := (fun ob => ⟨HFR.out.1.below (nwA (nwR wU) ob), HFR.out.2⟩); clear hov hsm HFR)
        | (go_at_call 10; refine (HSTP.out _ (Below.drew (nwA hS _))).mono ?_; rintro e wU ⟨⟨f2, c2, d2, rfl, hov, hsm⟩, hbU⟩; have hbu : Below wr.heap.size wr wU := nwT (Below.drew (nwA hS _)) hbU; have tH := (hbU.block wr.heap.size (by simp)).trans (heap_alloc_new wr _); obtain ⟨t0, t1, t2, t3, t4, tf⟩ := five (w := wU) tH; have HFR : Hid (OwnVol wU n0 (.agg #[.int .i64 d2.id, .int .i64 d2.fr, .bool d2.snap, .slice f2 d2.files.length c2, .int .i64 d2.next]) d2 ∧ SmallV d2) := ⟨hov, hsm⟩; have HF2 : Hid (∀ v0 v1 v2 v3 v4 : Value, Hid (OwnVol (((((wU.setCell ⟨wr.heap.size, 0, none⟩ v0).setCell ⟨wr.heap.size, 1, none⟩ v1).setCell ⟨wr.heap.size, 2, none⟩ v2).setCell ⟨wr.heap.size, 3, none⟩ v3).setCell ⟨wr.heap.size, 4, none⟩ v4) n0 (.agg #[.int .i64 d2.id, .int .i64 d2.fr, .bool d2.snap, .slice f2 d2.files.length c2, .int .i64 d2.next]) d2 ∧ SmallV d2)) := (fun v0 v1 v2 v3 v4 => ⟨ownV_five HFR.out.1 tH v0 v1 v2 v3 v4, HFR.out.2⟩); clear hov hsm HFR)
        | fail)
      all_goals
        go_wp2_with fail
        go_meet
        refine ⟨_, d2, f2, c2, by with_reducible rfl, rfl, ?_, ?_, ?_⟩
        · first | with_reducible exact nwA hbu _ | with_reducible exact five_below hbu (Nat.le_refl _)
        · first | with_reducible exact heap_alloc_new _ _ | with_reducible exact five_set tH
        · first | with_reducible exact HF1.out _ | with_reducible exact HF2.out _ _ _ _ _
    case rest =>
      obtain ⟨B, d2, f2, c2, rfl, rfl, hbc, hB, HF⟩ := hcut
      rename World => wA
      have HIA : Hid (wA.heap[gI]? = some (.cells #[.int .i64 dd.id, .int .i64 dd.fr, .bool dd.snap, .slice fu dd.files.length cu, .int .i64 dd.next] 24 (0, 0))) := (hbc.block _ l1).trans HIr.out
      have HRA : Hid (wA.heap[n0]? = some (.cells #[.int .i64 d.id, .int .i64 d.fr, .bool d.snap, .slice av d.files.length ca, .int .i64 d.next, .slice (some ⟨b1, o1, none⟩) l.length cL] 27 (0, 0))) := (hbc.block _ l2).trans HRr.out
      have HBA : Hid (Below n0 W wA) := HBr.out.trans (hbc.mono (Nat.le_of_lt l2))
      clear z0 z1 z2 z3 z4 z5 z6 z7 z8 x0 x1 x2 x3 x4 x5 a0 a1 a2 i0 i1 i2 i3 i4 l1 l2 l3 hS HSTP HIr HRr HBr hbc
      obtain ⟨y0, y1, y2, y3, y4, _⟩ := five hB
      obtain ⟨q0, q1, q2, q3, q4, qf⟩ := five HIA.out
      clear hB
      go_wp2_with fail
      go_roundw
      case rel =>
        refine ⟨k + 1, by omega, by omega, by go_num, five_below HBA.out (Nat.le_of_lt HNG.out), five_other HRA.out (Nat.ne_of_lt HNG.out), d2, f2, c2, five_set HIA.out, ⟨ownV_five HF.out.1 HIA.out _ _ _ _ _, HF.out.2⟩⟩
      case measure => simp [intOf]; omega

end Go.Proofs.YtdpighcaieajjabGreat

/- Acts of one kind, and of others every third time. -/
namespace Go.Proofs.YtdpighcaieajjabGreat
open Go.RowKit Go.Sort

def kindA (z : Int) (i : Nat) (a : ActD) : ActD := if i % 3 < 2 then ⟨z, a.p, a.q⟩ else a
def eachL (z : Int) (l : List ActD) : List ActD := l.mapIdx (kindA z)
theorem eachL_len (z : Int) (l : List ActD) : (eachL z l).length = l.length := by simp [eachL]
theorem eachL_get (z : Int) (l : List ActD) {k : Nat} (hk : k < l.length) : (eachL z l).take (k + 1) = (eachL z l).take k ++ [kindA z k (l.getD k act0)] := by
  rw [List.take_succ_eq_append_getElem (by rw [eachL_len]; exact hk)]
  simp [eachL, List.getD, hk]
theorem eachL_loose {z : Int} {l : List ActD} (h : LooseA l) : LooseA (eachL z l) := by
  refine ⟨by rw [eachL_len]; exact h.1, fun x hx => ?_⟩
  obtain ⟨i, hi, rfl⟩ := List.getElem_of_mem hx
  rw [eachL_len] at hi
  have hm := h.2 l[i] (List.getElem_mem hi)
  simp only [eachL, List.getElem_mapIdx, kindA]
  split
  · exact hm
  · exact hm
def aflat (ls : List ActD) : List Value := ls.flatMap fun l => [.int .i64 l.act, .string l.p, .string l.q]
def OwnActs (w : World) (base : Nat) (v : Value) (ls : List ActD) : Prop := w.ownsRow base 31 3 v ls.length (aflat ls)
theorem aflat_get (ls : List ActD) : ∀ i, i < ls.length → (aflat ls)[i * 3]? = some (.int .i64 (ls.getD i act0).act) ∧ (aflat ls)[i * 3 + 1]? = some (.string (ls.getD i act0).p) ∧ (aflat ls)[i * 3 + 2]? = some (.string (ls.getD i act0).q) := by
  induction ls with
  | nil => intro i hi; simp at hi
  | cons x xs ih =>
    intro i hi
    have e : aflat (x :: xs) = .int .i64 x.act :: .string x.p :: .string x.q :: aflat xs := by simp [aflat]
    rw [e]
    cases i with
    | zero => simp [List.getD]
    | succ i =>
      have hi' : i < xs.length := by simpa using hi
      have h := ih i hi'
      rw [show (i + 1) * 3 = i * 3 + 1 + 1 + 1 from by omega]
      simp only [List.getElem?_cons_succ]
      have e2 : (x :: xs).getD (i + 1) act0 = xs.getD i act0 := by simp [List.getD]
      rw [e2]; exact h
theorem OwnActs.at {w : World} {base : Nat} {v : Value} {ls : List ActD} (h : OwnActs w base v ls) : ∃ a cap, v = .slice a ls.length cap ∧ ActsAt w a ls ∧ CapOk a cap ls.length := by
  have hh := h
  rcases h.2 with ⟨hv, hn⟩ | ⟨g, cap, cur, hv, hb, _, hnc, _⟩
  · exact ⟨none, 0, by rw [hv, hn], .inl (List.length_eq_zero_iff.1 hn), by omega, (fun _ => rfl), (fun p e => by cases e)⟩
  · refine ⟨_, cap, hv, .inr ⟨g, 0, rfl, fun i hi => ?_⟩, hnc, (fun e => by cases e), (fun p e _ => by injection e with e; rw [← e])⟩
    have hg := aflat_get ls i hi
    have e : ∀ j, (⟨g, 0, none⟩ : Addr).add j = ⟨g, 0 + j, none⟩ := fun j => by unfold Addr.add; split <;> simp_all
    have K : ∀ j u, (aflat ls)[j]? = some u → w.cell? ⟨g, 0 + j, none⟩ = some u := fun j u hj => by
      have := hh.cells (g := g) (by rw [hv]; rfl) j u hj
      rwa [e] at this
    exact ⟨K _ _ hg.1, by have := K _ _ hg.2.1; rwa [← Nat.add_assoc] at this, by have := K _ _ hg.2.2; rwa [← Nat.add_assoc] at this⟩
theorem OwnActs.snoc {w : World} {base : Nat} {v : Value} {ls : List ActD} {x : ActD} (h : w.ownsRow base 31 3 v (ls.length + 1) (aflat ls ++ [.int .i64 x.act, .string x.p, .string x.q])) : OwnActs w base v (ls ++ [x]) := by
  unfold OwnActs
  have e : aflat (ls ++ [x]) = aflat ls ++ [.int .i64 x.act, .string x.p, .string x.q] := by simp [aflat]
  rw [e, List.length_append]; exact h
theorem Tryz.info31 : (Tryz.prog.info? 31).map (fun i => (i.zero, i.size, i.bytes)) = some (some (.agg #[.int .i64 0, .string ⟨#[]⟩, .string ⟨#[]⟩]), 3, 40) := by kernel_rfl
theorem tmod3 (k : Nat) : Int.tmod (k : Int) 3 = ((k % 3 : Nat) : Int) := by rw [Int.tmod_eq_emod_of_nonneg (by omega)]; omega
theorem six_set {w : World} {g : Nat} {c0 c1 c2 c3 c4 c5 u : Value} {t : TypeId} (h : w.heap[g]? = some (.cells #[c0, c1, c2, c3, c4, c5] t (0, 0))) : (w.setCell ⟨g, 5, none⟩ u).heap[g]? = some (.cells #[c0, c1, c2, c3, c4, u] t (0, 0)) :=
  heap_setCell_same w g 5 _ t u h

set_option maxRecDepth 100000 in
set_option maxHeartbeats 8000000 in
theorem each_any (v : Value) (d : VolD) (l : List ActD) (z : Int) (w : World) (hv : ScrVal w v d l) (hd : LooseV d) (hl : LooseA l) :
    Calls Tryz.prog 6 #[v, .int .i64 z] w fun e w' => e = .returned (.bool true) ∧ Below w.heap.size w w' := by
  have HD : Hid (LooseV d) := hd
  have HLA : Hid (LooseA l) := hl
  have hll := hl.1
  obtain ⟨av, ca, aL, cL, rfl, hu, hL, _⟩ := hv
  have HU : Hid (VolVal w (.agg #[.int .i64 d.id, .int .i64 d.fr, .bool d.snap, .slice av d.files.length ca, .int .i64 d.next]) d) := hu
  have HL : Hid (ActsAt w aL l) := hL
  obtain ⟨W0, hW0⟩ : ∃ W0, W0 = (w.alloc (.cells #[.int .i64 d.id, .int .i64 d.fr, .bool d.snap, .slice av d.files.length ca, .int .i64 d.next, .slice aL l.length cL] 27)).alloc (.cells #[.int .i64 d.id, .int .i64 d.fr, .bool d.snap, .slice av d.files.length ca, .int .i64 d.next, .slice none 0 0] 27) := ⟨_, rfl⟩
  have HB0 : Hid (Below w.heap.size w W0) := by rw [hW0]; exact nwA (nwA (nwR w) _) _
  have HS0 : Hid (W0.heap[w.heap.size]? = some (.cells #[.int .i64 d.id, .int .i64 d.fr, .bool d.snap, .slice av d.files.length ca, .int .i64 d.next, .slice aL l.length cL] 27 (0, 0))) := by rw [hW0]; exact (Lib.alloc_old _ _ _ (by simp)).trans (heap_alloc_new w _)
  have HQ0 : Hid (W0.heap[w.heap.size + 1]? = some (.cells #[.int .i64 d.id, .int .i64 d.fr, .bool d.snap, .slice av d.files.length ca, .int .i64 d.next, .slice none 0 0] 27 (0, 0))) := by rw [hW0]; exact heap_alloc_new2 w _ _
  obtain ⟨i0, hi, hz0, hz1, hz2⟩ := info_parts Tryz.info31
  clear hu hL hd hl
  go_enter Tryz.func6, Tryz.ntmps6
  go_wp2_with fail
  rw [← hW0]
  clear hW0
  obtain ⟨n0, hn0⟩ : ∃ n0, n0 = w.heap.size := ⟨_, rfl⟩
  have HLZ : Hid (∀ wz, Below n0 w wz → ActsAt wz aL l) := fun wz h => HL.out.below (by rw [hn0] at h; exact h)
  have HUZ : Hid (∀ wz, Below n0 w wz → VolVal wz (.agg #[.int .i64 d.id, .int .i64 d.fr, .bool d.snap, .slice av d.files.length ca, .int .i64 d.next]) d) := fun wz h => HU.out.below (by rw [hn0] at h; exact h)
  have HFIN : Hid (∀ wz, Below n0 w wz → Below w.heap.size w wz) := fun wz h => by rw [hn0] at h; exact h
  rw [← hn0] at HB0 HS0 HQ0 ⊢
  clear hn0 HL HU
  go_loopw [6] (fun i wr => ∃ (k : Nat), k ≤ l.length ∧ i = .int .i64 k ∧ Hid (Below n0 w wr) ∧ wr.heap[n0]? = some (.cells #[.int .i64 d.id, .int .i64 d.fr, .bool d.snap, .slice av d.files.length ca, .int .i64 d.next, .slice aL l.length cL] 27 (0, 0)) ∧ ∃ qv, wr.heap[n0 + 1]? = some (.cells #[.int .i64 d.id, .int .i64 d.fr, .bool d.snap, .slice av d.files.length ca, .int .i64 d.next, qv] 27 (0, 0)) ∧ Hid (OwnActs wr (n0 + 2) qv ((eachL z l).take k))) (fun i _ => l.length - (intOf i).toNat)
  case atStart => exact ⟨0, by omega, rfl, HB0, HS0.out, _, HQ0.out, World.ownsRow_nil _ _ _ _⟩
  case round =>
    obtain ⟨k, hk, rfl, HBr, hSr, qv, hQr, HOr⟩ := hrel
    have HSr : Hid (wr.heap[n0]? = some (.cells #[.int .i64 d.id, .int .i64 d.fr, .bool d.snap, .slice av d.files.length ca, .int .i64 d.next, .slice aL l.length cL] 27 (0, 0))) := hSr
    have HQr : Hid (wr.heap[n0 + 1]? = some (.cells #[.int .i64 d.id, .int .i64 d.fr, .bool d.snap, .slice av d.files.length ca, .int .i64 d.next, qv] 27 (0, 0))) := hQr
    clear hSr hQr
    obtain ⟨x0, x1, x2, x3, x4, x5⟩ := six HSr.out
    by_cases hkl : k < l.length
    case neg =>
      have hkli : ¬ (k : Int) < (l.length : Int) := by omega
      have HOE : Hid (OwnActs wr (n0 + 2) qv (eachL z l)) := by have h := HOr.out; rw [List.take_of_length_le (by rw [eachL_len]; omega)] at h; exact h
      obtain ⟨aq, cq, rfl, hq1, hq2⟩ := HOE.out.at
      have HEX : Hid (Calls Tryz.prog 7 #[.agg #[.int .i64 d.id, .int .i64 d.fr, .bool d.snap, .slice av d.files.length ca, .int .i64 d.next, .slice aq (eachL z l).length cq]] wr fun e w' => e = .returned (.bool true) ∧ Below wr.heap.size wr w') :=
        exact_walk _ d (eachL z l) wr ⟨_, _, _, _, rfl, HUZ.out _ HBr.out, hq1, hq2⟩ HD.out (eachL_loose HLA.out)
      obtain ⟨y0, y1, y2, y3, y4, y5⟩ := six HQr.out
      have hn0l := (Array.getElem?_eq_some_iff.1 HSr.out).1
      clear hq1 hq2 HOr
      go_wp2_with fail
      refine HEX.out.mono ?_
      rintro e wz ⟨rfl, hbz⟩
      go_wp2_with fail
      go_ret
      exact ⟨rfl, HFIN.out _ (HBr.out.trans (hbz.mono (Nat.le_of_lt hn0l)))⟩
    case pos =>
    have hkli : (k : Int) < (l.length : Int) := by omega
    have hk0 : (0 : Int) ≤ (k : Int) := by omega
    obtain ⟨b1, o1, rfl, a0, a1, a2⟩ := (HLZ.out _ HBr.out).cell hkl
    have HTK : Hid ((eachL z l).take (k + 1) = (eachL z l).take k ++ [kindA z k (l.getD k act0)]) := eachL_get z l hkl
    obtain ⟨x, hx⟩ : ∃ x, (kindA z k (l.getD k act0)).act = x := ⟨_, rfl⟩
    have HKA : Hid (kindA z k (l.getD k act0) = ⟨x, (l.getD k act0).p, (l.getD k act0).q⟩ ∧ (k % 3 < 2 → x = z) ∧ (¬ k % 3 < 2 → x = (l.getD k act0).act)) := by
      rw [← hx]
      unfold kindA
      by_cases h : k % 3 < 2
      · rw [if_pos h]; exact ⟨rfl, fun _ => rfl, fun h2 => absurd h h2⟩
      · rw [if_neg h]; exact ⟨rfl, fun h2 => absurd h2 h, fun _ => rfl⟩
    clear hx
    generalize l.getD k act0 = A at a0 a1 a2 HTK HKA
    obtain ⟨act, p, q⟩ := A
    simp only at a0 a1 a2 HKA
    have em : Int.tmod (k : Int) 3 = ((k % 3 : Nat) : Int) := tmod3 k
    go_upto_if 25 with fail
    go_cut [7] from 11 to 33 (fun s7 wx => s7 = .pointer (some ⟨wr.heap.size, 0, none⟩) ∧ wx = wr.alloc (.cells #[.int .i64 x, .string p, .string q] 31))
    case first =>
      by_cases h3 : k % 3 < 2
      · have hx := HKA.out.2.1 h3
        have h3i : ((k % 3 : Nat) : Int) < 2 := by omega
        have h3j : (k : Int) % 3 < 2 := by omega
        subst hx
        go_wp2_with fail
        go_meet
        exact ⟨rfl, rfl⟩
      · have hx := HKA.out.2.2 h3
        have h3i : ¬ ((k % 3 : Nat) : Int) < 2 := by omega
        have h3j : ¬ (k : Int) % 3 < 2 := by omega
        subst hx
        go_wp2_with fail
        go_meet
        exact ⟨rfl, rfl⟩
    case rest =>
    obtain ⟨rfl, rfl⟩ := hcut
    have HBA : Hid (Below wr.heap.size wr (wr.alloc (.cells #[.int .i64 x, .string p, .string q] 31))) := nwA (nwR wr) _
    have HQA : Hid ((wr.alloc (.cells #[.int .i64 x, .string p, .string q] 31)).heap[n0 + 1]? = some (.cells #[.int .i64 d.id, .int .i64 d.fr, .bool d.snap, .slice av d.files.length ca, .int .i64 d.next, qv] 27 (0, 0))) := (HBA.out.block _ (Array.getElem?_eq_some_iff.1 HQr.out).1).trans HQr.out
    have HSA : Hid ((wr.alloc (.cells #[.int .i64 x, .string p, .string q] 31)).heap[n0]? = some (.cells #[.int .i64 d.id, .int .i64 d.fr, .bool d.snap, .slice av d.files.length ca, .int .i64 d.next, .slice (some ⟨b1, o1, none⟩) l.length cL] 27 (0, 0))) := (HBA.out.block _ (Array.getElem?_eq_some_iff.1 HSr.out).1).trans HSr.out
    have HOA : Hid (OwnActs (wr.alloc (.cells #[.int .i64 x, .string p, .string q] 31)) (n0 + 2) qv ((eachL z l).take k)) := own_below HOr.out HBA.out
    have HLT : Hid (n0 + 1 < wr.heap.size) := (Array.getElem?_eq_some_iff.1 HQr.out).1
    have HC : Hid ((wr.alloc (.cells #[.int .i64 x, .string p, .string q] 31)).heap[wr.heap.size]? = some (.cells #[.int .i64 x, .string p, .string q] 31 (0, 0))) := heap_alloc_new wr _
    have HBA2 : Hid (Below n0 w (wr.alloc (.cells #[.int .i64 x, .string p, .string q] 31))) := HBr.out.trans (HBA.out.mono (by have := HLT.out; omega))
    have hsz : (wr.alloc (.cells #[.int .i64 x, .string p, .string q] 31)).heap.size = wr.heap.size + 1 := by simp
    have HSZ : Hid ((wr.alloc (.cells #[.int .i64 x, .string p, .string q] 31)).heap.size = wr.heap.size + 1) := hsz
    clear x0 x1 x2 x3 x4 x5 a0 a1 a2 HBA HOr HSr HQr HBr hsz em
    generalize wr.alloc (.cells #[.int .i64 x, .string p, .string q] 31) = W1 at HQA HSA HOA HC HBA2 HSZ ⊢
    generalize hgw : wr.heap.size = gA at HC HLT HSZ ⊢
    clear hgw
    obtain ⟨c0, c1, c2⟩ := three HC.out
    obtain ⟨y0, y1, y2, y3, y4, y5⟩ := six HQA.out
    have hgl : ((eachL z l).take k).length = k := by rw [List.length_take, eachL_len]; omega
    have HOW : Hid (W1.ownsRow (n0 + 2) 31 3 qv k (aflat ((eachL z l).take k))) := by have h := HOA.out; unfold OwnActs at h; rw [hgl] at h; exact h
    obtain ⟨aq, cq, rfl, _, _⟩ := id HOA.out.at
    rw [hgl] at HOW HQA HOA y5
    have hc3 : k + 1 ≤ maxLen := by unfold maxLen; omega
    have hc4 : (k + 1) * 40 ≤ 140737488355328 := by omega
    have hsz : n0 + 2 ≤ (W1.alloc (.cells #[.int .i64 x, .string p, .string q] 31)).heap.size := by have h1 := (nwA (nwR W1) (.cells #[.int .i64 x, .string p, .string q] 31)).size; have h2 := HSZ.out; have h3 := HLT.out; omega
    go_wp2_with (at_builtin; refine wpList_append_own _ rfl (.tmp 29) (.tmp 31) 25 rfl (n0 + 2) 31 i0 (.agg #[.int .i64 0, .string ⟨#[]⟩, .string ⟨#[]⟩]) 3 40 Tryz.underlying25 hi hz0 hz1 hz2 rfl (by decide) (.slice aq k cq) k (aflat ((eachL z l).take k)) rfl (World.ownsRow.alloc HOW.out _) ⟨W1.heap.size, 0, none⟩ 1 1 [.int .i64 x, .string p, .string q] rfl rfl (cells_new W1 [.int .i64 x, .string p, .string q] 31) (by simp [Value.oneCell']) hc3 hc4 hsz ?_; intro v' w3 hown hgrow _; refine unstop ?_)
    unfold Stop
    have HG3 : Hid (OwnActs w3 (n0 + 2) v' ((eachL z l).take (k + 1))) := by
      rw [HTK.out, HKA.out.1]
      refine OwnActs.snoc ?_
      rw [hgl]
      exact hown
    obtain ⟨a9, c9, rfl, _, _⟩ := id HG3.out.at
    have hgl2 : ((eachL z l).take (k + 1)).length = k + 1 := by rw [List.length_take, eachL_len]; omega
    rw [hgl2] at HG3
    have hw1 : n0 + 2 ≤ W1.heap.size := by have h2 := HSZ.out; have h3 := HLT.out; omega
    have hbx : Below (n0 + 2) W1 (W1.alloc (.cells #[.int .i64 x, .string p, .string q] 31)) := (Below.refl (n0 + 2) W1).alloc hw1 _
    have hb13 : Below (n0 + 2) W1 w3 := hbx.grown hgrow hsz (fun q e => (HOW.out.lt q e).1)
    have HB3 : Hid (Below n0 w w3) := HBA2.out.trans (hb13.mono (by omega))
    have HS3 : Hid (w3.heap[n0]? = some (.cells #[.int .i64 d.id, .int .i64 d.fr, .bool d.snap, .slice av d.files.length ca, .int .i64 d.next, .slice (some ⟨b1, o1, none⟩) l.length cL] 27 (0, 0))) := (hb13.block _ (by omega)).trans HSA.out
    have HQ3 : Hid (w3.heap[n0 + 1]? = some (.cells #[.int .i64 d.id, .int .i64 d.fr, .bool d.snap, .slice av d.files.length ca, .int .i64 d.next, .slice aq k cq] 27 (0, 0))) := (hb13.block _ (by omega)).trans HQA.out
    clear hown hgrow hb13 y0 y1 y2 y3 y4 y5 c0 c1 c2 hsz HOW HOA HQA HSA
    obtain ⟨y0, y1, y2, y3, y4, y5⟩ := six HQ3.out
    have yf : ∀ o, w3.frozen? ⟨n0 + 1, o, none⟩ = false := fun o => Lib.frozen_of_heap HQ3.out o
    go_wp2_with fail
    go_roundw
    case rel =>
      refine ⟨k + 1, by omega, by go_num, HB3.out.setCell (p := ⟨n0 + 1, 5, none⟩) (by show n0 ≤ n0 + 1; omega) _, ?_, _, six_set HQ3.out, ?_⟩
      · rw [heap_setCell_other _ ⟨n0 + 1, 5, none⟩ _ _ (by show n0 ≠ n0 + 1; omega)]; exact HS3.out
      · exact rowset (g := n0 + 1) HG3.out 5 (by omega) _
    case measure => simp [intOf]; omega

end Go.Proofs.YtdpighcaieajjabGreat

/- The laws of one kind. -/
namespace Go.Proofs.YtdpighcaieajjabGreat
open Go.RowKit Go.Sort

set_option maxRecDepth 100000 in
set_option maxHeartbeats 1000000 in
theorem unlinks_walk : LawOk 3 := by
  intro v d l w hv hd hl
  have HV : Hid (ScrVal w v d l) := hv
  have HD : Hid (LooseV d) := hd
  have HLA : Hid (LooseA l) := hl
  obtain ⟨av, ca, aL, cL, rfl, _, _, _⟩ := hv
  have HB0 : Hid (Below w.heap.size w (w.alloc (.cells #[.int .i64 d.id, .int .i64 d.fr, .bool d.snap, .slice av d.files.length ca, .int .i64 d.next, .slice aL l.length cL] 27))) := nwA (nwR w) _
  clear hd hl
  go_enter Tryz.func3, Tryz.ntmps3
  go_wp2_with fail
  refine (each_any _ d l 3 _ (HV.out.below HB0.out) HD.out HLA.out).mono ?_
  rintro e w1 ⟨rfl, hb1⟩
  have HB1 : Hid (Below w.heap.size w w1) := nwT HB0.out hb1
  clear hb1 HB0
  go_wp2_with fail
  go_ret
  exact ⟨rfl, HB1.out⟩

set_option maxRecDepth 100000 in
set_option maxHeartbeats 1000000 in
theorem rmdirs_walk : LawOk 4 := by
  intro v d l w hv hd hl
  have HV : Hid (ScrVal w v d l) := hv
  have HD : Hid (LooseV d) := hd
  have HLA : Hid (LooseA l) := hl
  obtain ⟨av, ca, aL, cL, rfl, _, _, _⟩ := hv
  have HB0 : Hid (Below w.heap.size w (w.alloc (.cells #[.int .i64 d.id, .int .i64 d.fr, .bool d.snap, .slice av d.files.length ca, .int .i64 d.next, .slice aL l.length cL] 27))) := nwA (nwR w) _
  clear hd hl
  go_enter Tryz.func4, Tryz.ntmps4
  go_wp2_with fail
  refine (each_any _ d l 4 _ (HV.out.below HB0.out) HD.out HLA.out).mono ?_
  rintro e w1 ⟨rfl, hb1⟩
  have HB1 : Hid (Below w.heap.size w w1) := nwT HB0.out hb1
  clear hb1 HB0
  go_wp2_with fail
  go_ret
  exact ⟨rfl, HB1.out⟩

set_option maxRecDepth 100000 in
set_option maxHeartbeats 1000000 in
theorem renames_walk : LawOk 5 := by
  intro v d l w hv hd hl
  have HV : Hid (ScrVal w v d l) := hv
  have HD : Hid (LooseV d) := hd
  have HLA : Hid (LooseA l) := hl
  obtain ⟨av, ca, aL, cL, rfl, _, _, _⟩ := hv
  have HB0 : Hid (Below w.heap.size w (w.alloc (.cells #[.int .i64 d.id, .int .i64 d.fr, .bool d.snap, .slice av d.files.length ca, .int .i64 d.next, .slice aL l.length cL] 27))) := nwA (nwR w) _
  clear hd hl
  go_enter Tryz.func5, Tryz.ntmps5
  go_wp2_with fail
  refine (each_any _ d l 5 _ (HV.out.below HB0.out) HD.out HLA.out).mono ?_
  rintro e w1 ⟨rfl, hb1⟩
  have HB1 : Hid (Below w.heap.size w w1) := nwT HB0.out hb1
  clear hb1 HB0
  go_wp2_with fail
  go_ret
  exact ⟨rfl, HB1.out⟩

end Go.Proofs.YtdpighcaieajjabGreat
