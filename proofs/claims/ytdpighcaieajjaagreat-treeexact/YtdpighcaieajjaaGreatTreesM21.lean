/- Laid together: Finds, Stepj. -/
import Derived.Test.YtdpighcaieajjaaGreatTreesM20
import Derived.Deep.CutRange
/- The law TreeFinds walked. -/
namespace Go.Proofs.YtdpighcaieajjaaGreat
open Go.RowKit

def LawOk (F : Nat) : Prop := ∀ (v : Value) (d : VolD) (l : List ActD) (w : World), ScrVal w v d l → LooseV d → LooseA l → Calls Tryz.prog F #[v] w fun e w' => e = .returned (.bool true) ∧ Below w.heap.size w w'
theorem FileVal.lit {w : World} {v : Value} {f : FileD} (h : FileVal w v f) : ∃ ab cb al cl, v = .agg #[.int .i64 f.id, .bool f.dir, .int .i64 f.size, .slice ab f.blocks.length cb, .slice al f.list.length cl] ∧ FileVal w (.agg #[.int .i64 f.id, .bool f.dir, .int .i64 f.size, .slice ab f.blocks.length cb, .slice al f.list.length cl]) f := by
  obtain ⟨ab, cb, al, cl, rfl, h2⟩ := h
  exact ⟨ab, cb, al, cl, rfl, ab, cb, al, cl, rfl, h2⟩
theorem FileOwn.lit {w : World} {base : Nat} {v : Value} {f : FileD} (h : FileOwn w base v f) : ∃ ab cb al cl, v = .agg #[.int .i64 f.id, .bool f.dir, .int .i64 f.size, .slice ab f.blocks.length cb, .slice al f.list.length cl] ∧ OwnFV w base ⟨f, .slice ab f.blocks.length cb, .slice al f.list.length cl⟩ := by
  obtain ⟨bv, lv, rfl, h⟩ := h
  have h2 := h
  obtain ⟨ab, cb, e1, _, _⟩ := h.1.at
  obtain ⟨al, cl, e2, _, _⟩ := h.2.at
  simp only at e1 e2
  subst e1; subst e2
  exact ⟨ab, cb, al, cl, rfl, h2⟩
theorem volval_files {w : World} {d : VolD} {av : Option Addr} {ca : Nat} (h : VolVal w (.agg #[.int .i64 d.id, .int .i64 d.fr, .bool d.snap, .slice av d.files.length ca, .int .i64 d.next]) d) : FilesAt w av d.files := by
  obtain ⟨a, c, e, h, _⟩ := h
  simp only [Value.agg.injEq, Array.mk.injEq, List.cons.injEq, Value.slice.injEq, true_and, and_true] at e
  rw [e.1]; exact h
theorem findR_small {d : VolD} {p : ByteArray} {er : Int} {f : FileD} (h : FindR d p er f) (hs : SmallV d) : SmallF f := by
  have h0 : SmallF f0 := ⟨by simp [f0], by simp [f0]⟩
  have hg : ∀ q, SmallF (d.files.getD q f0) := fun q => by
    by_cases hq : q < d.files.length
    · exact hs.2 _ (getD_mem hq)
    · rw [show d.files.getD q f0 = f0 from by simp [List.getD, List.getElem?_eq_none (show d.files.length ≤ q by omega)]]; exact h0
  rcases h with ⟨_, L, _, ⟨_, _, h⟩ | ⟨_, _, h⟩⟩ | ⟨_, _, h⟩
  · rw [h]; exact hg _
  · rw [h]; exact h0
  · rw [h]; exact h0
theorem intsAt_three (w : World) (a b c : Int) : IntsAt (w.alloc (.cells #[.int .i64 a, .int .i64 b, .int .i64 c] 3)) (some ⟨w.heap.size, 0, none⟩) [a, b, c] :=
  .inr ⟨w.heap.size, 0, rfl, fun i hi => by
    have : i = 0 ∨ i = 1 ∨ i = 2 := by simp at hi; omega
    rcases this with rfl | rfl | rfl <;> simp⟩
theorem newR_small {id er : Int} {dd : VolD} (h : NewR id er dd) : SmallV dd := by
  rcases h with ⟨_, _, rfl⟩ | ⟨_, _, rfl⟩
  · exact small_new id
  · exact ⟨by simp [v0], fun f hf => by simp [v0] at hf⟩
theorem five_other {w : World} {g k : Nat} {c0 c1 c2 c3 c4 : Value} {o : Obj} (h : w.heap[k]? = some o) (hk : k ≠ g) : (((((w.setCell ⟨g, 0, none⟩ c0).setCell ⟨g, 1, none⟩ c1).setCell ⟨g, 2, none⟩ c2).setCell ⟨g, 3, none⟩ c3).setCell ⟨g, 4, none⟩ c4).heap[k]? = some o := by
  rw [heap_setCell_other _ ⟨g, 4, none⟩ k _ hk, heap_setCell_other _ ⟨g, 3, none⟩ k _ hk, heap_setCell_other _ ⟨g, 2, none⟩ k _ hk, heap_setCell_other _ ⟨g, 1, none⟩ k _ hk, heap_setCell_other _ ⟨g, 0, none⟩ k _ hk, h]
theorem OwnVol.lit {w : World} {base : Nat} {v : Value} {d : VolD} (h : OwnVol w base v d) : ∃ fa fc, v = .agg #[.int .i64 d.id, .int .i64 d.fr, .bool d.snap, .slice fa d.files.length fc, .int .i64 d.next] ∧ VolVal w (.agg #[.int .i64 d.id, .int .i64 d.fr, .bool d.snap, .slice fa d.files.length fc, .int .i64 d.next]) d := by
  have hv := h.val
  obtain ⟨fv, rfl, hfv⟩ := h
  obtain ⟨fa, fc, rfl, _, _⟩ := hfv.at
  exact ⟨fa, fc, rfl, hv⟩

set_option maxRecDepth 100000 in
set_option maxHeartbeats 8000000 in
theorem finds_walk : LawOk 4 := by
  intro v d l w hv hd hl
  have HV : Hid (ScrVal w v d l) := hv
  have HD : Hid (LooseV d) := hd
  have HLA : Hid (LooseA l) := hl
  obtain ⟨av, ca, aL, cL, rfl, hu, hL, _⟩ := hv
  have HU : Hid (VolVal w (.agg #[.int .i64 d.id, .int .i64 d.fr, .bool d.snap, .slice av d.files.length ca, .int .i64 d.next]) d) := hu
  have HL : Hid (ActsAt w aL l) := hL
  have HB0 : Hid (Below w.heap.size w (w.alloc (.cells #[.int .i64 d.id, .int .i64 d.fr, .bool d.snap, .slice av d.files.length ca, .int .i64 d.next, .slice aL l.length cL] 27))) := nwA (nwR w) _
  have HR0 : Hid ((w.alloc (.cells #[.int .i64 d.id, .int .i64 d.fr, .bool d.snap, .slice av d.files.length ca, .int .i64 d.next, .slice aL l.length cL] 27)).heap[w.heap.size]? = some (.cells #[.int .i64 d.id, .int .i64 d.fr, .bool d.snap, .slice av d.files.length ca, .int .i64 d.next, .slice aL l.length cL] 27 (0, 0))) := heap_alloc_new w _
  clear hu hL hd hl
  go_enter Tryz.func4, Tryz.ntmps4
  go_wp2_with fail
  refine (heavy_any _ d l _ (HV.out.below HB0.out) HD.out HLA.out).mono ?_
  rintro e w1 ⟨q, rfl, hb1, hq⟩
  have HB1 : Hid (Below w.heap.size w w1) := nwT HB0.out hb1
  have HR1 : Hid (w1.heap[w.heap.size]? = some (.cells #[.int .i64 d.id, .int .i64 d.fr, .bool d.snap, .slice av d.files.length ca, .int .i64 d.next, .slice aL l.length cL] 27 (0, 0))) := (hb1.block _ (Array.getElem?_eq_some_iff.1 HR0.out).1).trans HR0.out
  clear hb1 HB0 HR0 HV
  cases q
  case true =>
    clear hq
    go_wp2_with fail
    go_ret
    exact ⟨rfl, HB1.out⟩
  case false =>
  obtain ⟨hsv, hla⟩ := hq rfl
  have HS : Hid (SmallV d) := hsv
  have hll := hla.1
  clear hq hsv hla HD HLA
  obtain ⟨x0, x1, x2, x3, x4, x5⟩ := six HR1.out
  go_wp2_with fail
  refine (vol_any _ d _ (HU.out.below HB1.out) HS.out).mono ?_
  rintro e w2 ⟨⟨may, rfl, hmay⟩, hb2⟩
  have HM : Hid (may = true ↔ VolOk d) := hmay
  have HB2 : Hid (Below w.heap.size w w2) := nwT HB1.out hb2
  have HR2 : Hid (w2.heap[w.heap.size]? = some (.cells #[.int .i64 d.id, .int .i64 d.fr, .bool d.snap, .slice av d.files.length ca, .int .i64 d.next, .slice aL l.length cL] 27 (0, 0))) := (hb2.block _ (Array.getElem?_eq_some_iff.1 HR1.out).1).trans HR1.out
  clear hb2 HB1 HR1 hmay x0 x1 x2 x3 x4 x5
  obtain ⟨x0, x1, x2, x3, x4, x5⟩ := six HR2.out
  go_wp2_with fail
  refine (copyVol_any _ d _ (HU.out.below HB2.out) HS.out).mono ?_
  rintro e w3 ⟨⟨u, rfl, hu3⟩, hb3⟩
  have HB3 : Hid (Below w.heap.size w w3) := nwT HB2.out hb3
  have HR3 : Hid (w3.heap[w.heap.size]? = some (.cells #[.int .i64 d.id, .int .i64 d.fr, .bool d.snap, .slice av d.files.length ca, .int .i64 d.next, .slice aL l.length cL] 27 (0, 0))) := (hb3.block _ (Array.getElem?_eq_some_iff.1 HR2.out).1).trans HR2.out
  obtain ⟨fa, fc, rfl, hin⟩ := hu3.lit
  have HIN : Hid (VolVal w3 (.agg #[.int .i64 d.id, .int .i64 d.fr, .bool d.snap, .slice fa d.files.length fc, .int .i64 d.next]) d) := hin
  clear hb3 HB2 HR2 hu3 hin x0 x1 x2 x3 x4 x5
  have HBW : Hid (Below w3.heap.size w3 (w3.alloc (.cells #[.int .i64 d.id, .int .i64 d.fr, .bool d.snap, .slice fa d.files.length fc, .int .i64 d.next] 24))) := nwA (nwR w3) _
  have HRI : Hid ((w3.alloc (.cells #[.int .i64 d.id, .int .i64 d.fr, .bool d.snap, .slice fa d.files.length fc, .int .i64 d.next] 24)).heap[w3.heap.size]? = some (.cells #[.int .i64 d.id, .int .i64 d.fr, .bool d.snap, .slice fa d.files.length fc, .int .i64 d.next] 24 (0, 0))) := heap_alloc_new w3 _
  have HBB : Hid (Below w.heap.size w (w3.alloc (.cells #[.int .i64 d.id, .int .i64 d.fr, .bool d.snap, .slice fa d.files.length fc, .int .i64 d.next] 24))) := nwT HB3.out HBW.out
  have HRB : Hid ((w3.alloc (.cells #[.int .i64 d.id, .int .i64 d.fr, .bool d.snap, .slice fa d.files.length fc, .int .i64 d.next] 24)).heap[w.heap.size]? = some (.cells #[.int .i64 d.id, .int .i64 d.fr, .bool d.snap, .slice av d.files.length ca, .int .i64 d.next, .slice aL l.length cL] 27 (0, 0))) := (HBW.out.block _ (Array.getElem?_eq_some_iff.1 HR3.out).1).trans HR3.out
  have HINW : Hid (VolVal (w3.alloc (.cells #[.int .i64 d.id, .int .i64 d.fr, .bool d.snap, .slice fa d.files.length fc, .int .i64 d.next] 24)) (.agg #[.int .i64 d.id, .int .i64 d.fr, .bool d.snap, .slice fa d.files.length fc, .int .i64 d.next]) d) := HIN.out.below HBW.out
  have HUW : Hid (VolVal (w3.alloc (.cells #[.int .i64 d.id, .int .i64 d.fr, .bool d.snap, .slice fa d.files.length fc, .int .i64 d.next] 24)) (.agg #[.int .i64 d.id, .int .i64 d.fr, .bool d.snap, .slice av d.files.length ca, .int .i64 d.next]) d) := HU.out.below HBB.out
  have HLW : Hid (ActsAt (w3.alloc (.cells #[.int .i64 d.id, .int .i64 d.fr, .bool d.snap, .slice fa d.files.length fc, .int .i64 d.next] 24)) aL l) := HL.out.below HBB.out
  clear HBW HR3 HIN HU HL HB3
  go_wp2_with fail
  generalize w3.alloc (.cells #[.int .i64 d.id, .int .i64 d.fr, .bool d.snap, .slice fa d.files.length fc, .int .i64 d.next] 24) = W at HRI HBB HRB HINW HUW HLW ⊢
  generalize w3.heap.size = gI at HRI ⊢
  obtain ⟨n0, hn0⟩ : ∃ n0, n0 = w.heap.size := ⟨_, rfl⟩
  have HFIN : Hid (∀ wz, Below W.heap.size W wz → Below w.heap.size w wz) := fun wz h => nwT HBB.out h
  rw [← hn0] at HRB ⊢
  clear hn0
  go_loopw [5] (fun i wr => ∃ (k : Nat), k ≤ l.length ∧ k ≤ 14 ∧ i = .int .i64 k ∧ Below W.heap.size W wr) (fun i _ => l.length - (intOf i).toNat)
  case atStart => exact ⟨0, by omega, by omega, rfl, nwR W⟩
  case round =>
    obtain ⟨k, hk, hk14, rfl, hb⟩ := hrel
    have HRBr : Hid (wr.heap[n0]? = some (.cells #[.int .i64 d.id, .int .i64 d.fr, .bool d.snap, .slice av d.files.length ca, .int .i64 d.next, .slice aL l.length cL] 27 (0, 0))) := (hb.block _ (Array.getElem?_eq_some_iff.1 HRB.out).1).trans HRB.out
    have HRIr : Hid (wr.heap[gI]? = some (.cells #[.int .i64 d.id, .int .i64 d.fr, .bool d.snap, .slice fa d.files.length fc, .int .i64 d.next] 24 (0, 0))) := (hb.block _ (Array.getElem?_eq_some_iff.1 HRI.out).1).trans HRI.out
    obtain ⟨x0, x1, x2, x3, x4, x5⟩ := six HRBr.out
    by_cases hk1 : (k : Int) < (l.length : Int) ∧ (k : Int) < 14
    case neg =>
      by_cases hk2 : (k : Int) < (l.length : Int)
      · have hk3 : ¬ (k : Int) < 14 := fun h => hk1 ⟨hk2, h⟩
        go_wp2_with (go_at_call 12; refine (wakes_any _).mono ?_; rintro e wz ⟨rfl, hbz⟩)
        go_ret
        exact ⟨rfl, HFIN.out _ (nwT hb hbz)⟩
      · go_wp2_with (go_at_call 12; refine (wakes_any _).mono ?_; rintro e wz ⟨rfl, hbz⟩)
        go_ret
        exact ⟨rfl, HFIN.out _ (nwT hb hbz)⟩
    case pos =>
    obtain ⟨hk2, hk3⟩ := hk1
    have hkl : k < l.length := by omega
    obtain ⟨b1, o1, rfl, a0, a1, _⟩ := (HLW.out.below hb).cell hkl
    generalize (l.getD k act0).act = act at a0
    generalize (l.getD k act0).p = p at a1
    obtain ⟨i0, i1, i2, i3, i4, _⟩ := five HRIr.out
    have hS := nwR wr
    have HFND : Hid (∀ w', Below wr.heap.size wr w' → Calls Tryz.prog 14 #[.agg #[.int .i64 d.id, .int .i64 d.fr, .bool d.snap, .slice fa d.files.length fc, .int .i64 d.next], .string p] w' fun e w'' => (∃ u er f, e = .returned (.tuple #[u, .int .i64 er]) ∧ FileOwn w'' w'.heap.size u f ∧ FindR d p er f) ∧ Below w'.heap.size w' w'') := fun w' h => tfind_own _ d p w' (HINW.out.below (nwT hb h)) HS.out (fun L hL => by have := (pathN_some hL).2.2; omega)
    have z0 : ∀ w', Below wr.heap.size wr w' → w'.cell? ⟨gI, 0, none⟩ = some (.int .i64 d.id) := fun w' h => (h.cell (p := ⟨gI, 0, none⟩) (block_lt_of_cell i0)).trans i0
    have z1 : ∀ w', Below wr.heap.size wr w' → w'.cell? ⟨gI, 1, none⟩ = some (.int .i64 d.fr) := fun w' h => (h.cell (p := ⟨gI, 1, none⟩) (block_lt_of_cell i1)).trans i1
    have z2 : ∀ w', Below wr.heap.size wr w' → w'.cell? ⟨gI, 2, none⟩ = some (.bool d.snap) := fun w' h => (h.cell (p := ⟨gI, 2, none⟩) (block_lt_of_cell i2)).trans i2
    have z3 : ∀ w', Below wr.heap.size wr w' → w'.cell? ⟨gI, 3, none⟩ = some (.slice fa d.files.length fc) := fun w' h => (h.cell (p := ⟨gI, 3, none⟩) (block_lt_of_cell i3)).trans i3
    have z4 : ∀ w', Below wr.heap.size wr w' → w'.cell? ⟨gI, 4, none⟩ = some (.int .i64 d.next) := fun w' h => (h.cell (p := ⟨gI, 4, none⟩) (block_lt_of_cell i4)).trans i4
    have z5 : ∀ w', Below wr.heap.size wr w' → w'.cell? ⟨n0, 5, none⟩ = some (.slice (some ⟨b1, o1, none⟩) l.length cL) := fun w' h => (h.cell (p := ⟨n0, 5, none⟩) (block_lt_of_cell x5)).trans x5
    have z6 : ∀ w', Below wr.heap.size wr w' → w'.cell? ⟨b1, o1 + k * 3 + 1, none⟩ = some (.string p) := fun w' h => (h.cell (p := ⟨b1, o1 + k * 3 + 1, none⟩) (block_lt_of_cell a1)).trans a1
    have l1 : gI < wr.heap.size := block_lt_of_cell i0
    have l2 : n0 < wr.heap.size := block_lt_of_cell x5
    have l3 : b1 < wr.heap.size := block_lt_of_cell a1
    go_upto_region 8 with fail
    go_cut [6, 7] from 42 to 52 (fun s6 s7 wx => ∃ B er f ab cb al cl, s6 = .pointer (some ⟨B, 0, none⟩) ∧ s7 = .int .i64 er ∧ Below wr.heap.size wr wx ∧ wx.heap[B]? = some (.cells #[.int .i64 f.id, .bool f.dir, .int .i64 f.size, .slice ab f.blocks.length cb, .slice al f.list.length cl] 39 (0, 0)) ∧ Hid (FileVal wx (.agg #[.int .i64 f.id, .bool f.dir, .int .i64 f.size, .slice ab f.blocks.length cb, .slice al f.list.length cl]) f ∧ FindR d p er f))
    case first =>
      go_region_with (first
        | (go_at_call 14; refine (HFND.out _ (Below.drew hS)).mono ?_; rintro e wU ⟨⟨uu, er, f, rfl, hfv, hfr⟩, hbU⟩; obtain ⟨ab, cb, al, cl, rfl, hfx⟩ := hfv.lit; have hbu : Below wr.heap.size wr wU := nwT (Below.drew hS) hbU; have HFR : Hid (FindR d p er f) := hfr; have HOF : Hid (OwnFV wU wr.heap.size ⟨f, .slice ab f.blocks.length cb, .slice al f.list.length cl⟩) := hfx; have HF1 : Hid (∀ ob, Hid (FileVal (wU.alloc ob) (.agg #[.int .i64 f.id, .bool f.dir, .int .i64 f.size, .slice ab f.blocks.length cb, .slice al f.list.length cl]) f ∧ FindR d p er f)) := (fun ob => ⟨OwnFV.file (HOF.out.below (nwA (nwR wU) ob)), HFR.out⟩); clear hfv hfr hfx HOF HFR)
        | (go_at_call 14; refine (HFND.out _ (Below.drew (nwA hS _))).mono ?_; rintro e wU ⟨⟨uu, er, f, rfl, hfv, hfr⟩, hbU⟩; obtain ⟨ab, cb, al, cl, rfl, hfx⟩ := hfv.lit; have hbu : Below wr.heap.size wr wU := nwT (Below.drew (nwA hS _)) hbU; have tH := (hbU.block wr.heap.size (by simp)).trans (heap_alloc_new wr _); obtain ⟨t0, t1, t2, t3, t4, tf⟩ := five (w := wU) tH; have HFR : Hid (FindR d p er f) := hfr; have HOF : Hid (OwnFV wU (wr.heap.size + 1) ⟨f, .slice ab f.blocks.length cb, .slice al f.list.length cl⟩) := (by have h := hfx; rw [show (wr.alloc (.cells #[.int .i64 0, .bool false, .int .i64 0, .slice none 0 0, .slice none 0 0] 39)).drew.heap.size = wr.heap.size + 1 from by simp] at h; exact h); have HF2 : Hid (∀ v0 v1 v2 v3 v4 : Value, Hid (FileVal (((((wU.setCell ⟨wr.heap.size, 0, none⟩ v0).setCell ⟨wr.heap.size, 1, none⟩ v1).setCell ⟨wr.heap.size, 2, none⟩ v2).setCell ⟨wr.heap.size, 3, none⟩ v3).setCell ⟨wr.heap.size, 4, none⟩ v4) (.agg #[.int .i64 f.id, .bool f.dir, .int .i64 f.size, .slice ab f.blocks.length cb, .slice al f.list.length cl]) f ∧ FindR d p er f)) := (fun v0 v1 v2 v3 v4 => ⟨OwnFV.file (((((HOF.out.set 0 (Nat.lt_succ_self _) v0).set 1 (Nat.lt_succ_self _) v1).set 2 (Nat.lt_succ_self _) v2).set 3 (Nat.lt_succ_self _) v3).set 4 (Nat.lt_succ_self _) v4), HFR.out⟩); clear hfv hfr hfx HOF HFR)
        | fail)
      all_goals
        go_wp2_with fail
        go_meet
        refine ⟨_, er, f, ab, cb, al, cl, by with_reducible rfl, rfl, ?_, ?_, ?_⟩
        · first | with_reducible exact nwA hbu _ | with_reducible exact five_below hbu (Nat.le_refl _)
        · first | with_reducible exact heap_alloc_new _ _ | with_reducible exact five_set tH
        · first | with_reducible exact HF1.out _ | with_reducible exact HF2.out _ _ _ _ _
    case rest =>
      obtain ⟨B, er, f, ab, cb, al, cl, rfl, rfl, hbc, hB, HF⟩ := hcut
      rename World => wA
      have HBF : Hid (wA.heap[B]? = some (.cells #[.int .i64 f.id, .bool f.dir, .int .i64 f.size, .slice ab f.blocks.length cb, .slice al f.list.length cl] 39 (0, 0))) := hB
      have hbW := nwT hb hbc
      have HRBc : Hid (wA.heap[n0]? = some (.cells #[.int .i64 d.id, .int .i64 d.fr, .bool d.snap, .slice av d.files.length ca, .int .i64 d.next, .slice (some ⟨b1, o1, none⟩) l.length cL] 27 (0, 0))) := (hbc.block _ (Array.getElem?_eq_some_iff.1 HRBr.out).1).trans HRBr.out
      have x5c := z5 wA hbc
      have a1c := z6 wA hbc
      have HA0 : Hid (wA.cell? ⟨b1, o1 + k * 3, none⟩ = some (.int .i64 act)) := (hbc.cell (p := ⟨b1, o1 + k * 3, none⟩) (block_lt_of_cell a0)).trans a0
      clear z0 z1 z2 z3 z4 z5 z6 x0 x1 x2 x3 x4 x5 a0 a1 i0 i1 i2 i3 i4 l1 l2 l3 hS HFND hB HRBr HRIr
      go_wp2_with fail
      refine (rsplit_any p _).mono ?_
      rintro e w4 ⟨hsp, hb4⟩
      have HSP0 : ∃ sv ok, e = .returned (.tuple #[sv, .bool ok]) ∧ Hid ((ok = true ∧ ∃ L sa sc, sv = .slice sa L.length sc ∧ pathN p = some L ∧ StrsAt w4 sa L) ∨ (ok = false ∧ pathN p = none)) := by
        rcases hsp with ⟨xs, v, h1, h2, h3⟩ | ⟨h1, a, n, c, h2⟩
        · obtain ⟨sa, sc, h4, h5⟩ := h3.at
          exact ⟨v, true, h2, .inl ⟨rfl, xs, sa, sc, h4, h1, h5⟩⟩
        · exact ⟨_, false, h2, .inr ⟨rfl, h1⟩⟩
      obtain ⟨sv, ok, rfl, HSP⟩ := HSP0
      have hbW4 := nwT hbW hb4
      have HB4 : Hid (Below wA.heap.size wA w4) := hb4
      clear hsp hb4 x5c a1c
      go_upto_region 12 with fail
      obtain ⟨w5, hw5⟩ : ∃ w5, w5 = w4.alloc (.cells #[.int .i64 0, .bool false, .int .i64 0, .slice none 0 0, .slice none 0 0] 39) := ⟨_, rfl⟩
      have HZ5 : Hid (w5.heap[w4.heap.size]? = some (.cells #[.int .i64 0, .bool false, .int .i64 0, .slice none 0 0, .slice none 0 0] 39 (0, 0))) := by rw [hw5]; exact heap_alloc_new w4 _
      have HB5 : Hid (Below w4.heap.size w4 w5) := by rw [hw5]; exact nwA (nwR w4) _
      rw [← hw5]
      clear hw5
      go_cut [66] from 63 to 65 (fun s66 wx => s66 = .bool (may && ok) ∧ wx = w5)
      case first =>
        cases may
        · go_wp2_with fail
          go_meet
          exact ⟨rfl, rfl⟩
        · go_wp2_with fail
          go_meet
          exact ⟨by simp, rfl⟩
      case rest =>
      obtain ⟨rfl, rfl⟩ := hcut
      obtain ⟨G, hG⟩ : ∃ G, (may && ok) = G := ⟨_, rfl⟩
      rw [hG]
      have HG : Hid ((may && ok) = G) := hG
      clear hG
      go_upto_if 66 with fail
      go_cut [10, 12, 13] from 67 to 82 (fun s10 _ _ wx => s10 = .int .i64 er ∧ Below w4.heap.size w4 wx ∧ ∃ ab cb al cl, wx.heap[w4.heap.size]? = some (.cells #[.int .i64 f.id, .bool f.dir, .int .i64 f.size, .slice ab f.blocks.length cb, .slice al f.list.length cl] 39 (0, 0)) ∧ Hid (FileVal wx (.agg #[.int .i64 f.id, .bool f.dir, .int .i64 f.size, .slice ab f.blocks.length cb, .slice al f.list.length cl]) f))
      case first =>
        rcases HSP.out with ⟨rfl, L, sa, sc, rfl, hL, hst⟩ | ⟨rfl, hN⟩
        · cases may
          · have hg : G = false := HG.out.symm
            subst hg
            have her : er = 1 ∧ f = f0 := by
              rcases HF.out.2 with ⟨h, _⟩ | ⟨_, h2⟩
              · have := HM.out.2 h; cases this
              · exact h2
            obtain ⟨rfl, rfl⟩ := her
            go_wp2_with fail
            go_meet
            exact ⟨rfl, HB5.out, none, 0, none, 0, HZ5.out, file_zero _⟩
          · have hg : G = true := HG.out.symm
            subst hg
            have hok := HM.out.1 rfl
            have HFF : Hid (((findF d.files 0 L).2 = 0 ∧ er = 0 ∧ f = d.files.getD (findF d.files 0 L).1 f0) ∨ ((findF d.files 0 L).2 ≠ 0 ∧ er = (findF d.files 0 L).2 ∧ f = f0)) := by
              rcases HF.out.2 with ⟨_, L', hL', h⟩ | ⟨h, _⟩
              · rw [hL] at hL'; injection hL' with hL'; subst hL'; exact h
              · exact absurd ⟨hok, by rw [hL]; rfl⟩ h
            have hql := findF_lt hok.sound L 0 hok.sound.1
            have HSA : Hid (StrsAt wc sa L) := hst.below HB5.out
            have HSO : Hid (Sound d.files) := hok.sound
            have hL5 := (pathN_some hL).2.2
            have hbW5 := nwT hbW4 HB5.out
            have HRB5 : Hid (wc.heap[n0]? = some (.cells #[.int .i64 d.id, .int .i64 d.fr, .bool d.snap, .slice av d.files.length ca, .int .i64 d.next, .slice (some ⟨b1, o1, none⟩) l.length cL] 27 (0, 0))) := (nwT HB4.out HB5.out).block _ (Array.getElem?_eq_some_iff.1 HRBc.out).1 |>.trans HRBc.out
            obtain ⟨x0, x1, x2, x3, x4, _⟩ := six HRB5.out
            clear hok hL hst
            go_wp2_with fail
            refine (find_any _ d sa L sc _ (HUW.out.below hbW5) HS.out HSO.out HSA.out (by omega)).mono ?_
            rintro e w6 ⟨rfl, hb6⟩
            generalize (findF d.files 0 L) = r at HFF hql
            obtain ⟨q, er'⟩ := r
            simp only at HFF hql ⊢
            have HZ6 : Hid (w6.heap[w4.heap.size]? = some (.cells #[.int .i64 0, .bool false, .int .i64 0, .slice none 0 0, .slice none 0 0] 39 (0, 0))) := (hb6.block _ (Array.getElem?_eq_some_iff.1 HZ5.out).1).trans HZ5.out
            have HB6 : Hid (Below w4.heap.size w4 w6) := nwT HB5.out hb6
            obtain ⟨_, _, _, x3, _, _⟩ := six ((hb6.block _ (Array.getElem?_eq_some_iff.1 HRB5.out).1).trans HRB5.out)
            rcases HFF.out with ⟨rfl, rfl, hf⟩ | ⟨hne, rfl, rfl⟩
            · obtain ⟨b0, o0, e0, hfi⟩ := (volval_files HUW.out).file hql
              subst e0
              rw [← hf] at hfi
              obtain ⟨ab2, cb2, al2, cl2, ⟨e0, e1, e2, e3, e4⟩, hrest⟩ := hfi
              have HFW : Hid (FileVal W (.agg #[.int .i64 f.id, .bool f.dir, .int .i64 f.size, .slice ab2 f.blocks.length cb2, .slice al2 f.list.length cl2]) f) := ⟨ab2, cb2, al2, cl2, rfl, hrest⟩
              have hb6W := nwT hbW5 hb6
              have c0 := (hb6W.cell (p := ⟨b0, o0 + q * 5, none⟩) (block_lt_of_cell e0)).trans e0
              have c1 := (hb6W.cell (p := ⟨b0, o0 + q * 5 + 1, none⟩) (block_lt_of_cell e1)).trans e1
              have c2 := (hb6W.cell (p := ⟨b0, o0 + q * 5 + 2, none⟩) (block_lt_of_cell e2)).trans e2
              have c3 := (hb6W.cell (p := ⟨b0, o0 + q * 5 + 3, none⟩) (block_lt_of_cell e3)).trans e3
              have c4 := (hb6W.cell (p := ⟨b0, o0 + q * 5 + 4, none⟩) (block_lt_of_cell e4)).trans e4
              have hle4 : W.heap.size ≤ w4.heap.size := hbW4.size
              have hbl : b0 < w4.heap.size := Nat.lt_of_lt_of_le (block_lt_of_cell e0) hle4
              have hq0 : (0 : Int) ≤ (q : Int) := by omega
              have hqi : (q : Int) < (d.files.length : Int) := by omega
              have HTG : Hid (∀ v0 v1 v2 v3 v4 : Value, FileVal (((((w6.setCell ⟨w4.heap.size, 0, none⟩ v0).setCell ⟨w4.heap.size, 1, none⟩ v1).setCell ⟨w4.heap.size, 2, none⟩ v2).setCell ⟨w4.heap.size, 3, none⟩ v3).setCell ⟨w4.heap.size, 4, none⟩ v4) (.agg #[.int .i64 f.id, .bool f.dir, .int .i64 f.size, .slice ab2 f.blocks.length cb2, .slice al2 f.list.length cl2]) f) := fun _ _ _ _ _ => HFW.out.below (five_below hb6W hle4)
              clear e0 e1 e2 e3 e4
              obtain ⟨t0, t1, t2, t3, t4, tf⟩ := five HZ6.out
              clear hrest hf
              go_wp2_with fail
              go_meet
              exact ⟨rfl, five_below HB6.out (Nat.le_refl _), ab2, cb2, al2, cl2, five_set HZ6.out, HTG.out _ _ _ _ _⟩
            · have hne2 : decide (er = 0) = false := decide_eq_false hne
              have hne3 : (er == 0) = false := beq_eq_false_iff_ne.2 hne
              go_wp2_with fail
              go_meet
              exact ⟨rfl, HB6.out, none, 0, none, 0, HZ6.out, file_zero _⟩
        · have her : er = 1 ∧ f = f0 := by
            rcases HF.out.2 with ⟨_, L, h, _⟩ | ⟨_, h2⟩
            · rw [hN] at h; cases h
            · exact h2
          obtain ⟨rfl, rfl⟩ := her
          have hg : G = false := by rw [← HG.out, Bool.and_false]
          subst hg
          go_wp2_with fail
          go_meet
          exact ⟨rfl, HB5.out, none, 0, none, 0, HZ5.out, file_zero _⟩
      case rest =>
      obtain ⟨rfl, hbx, ab3, cb3, al3, cl3, hB3, HF3⟩ := hcut
      have hbX := nwT hbW4 hbx
      have hAX := nwT HB4.out hbx
      have HBFx : Hid (wc.heap[B]? = some (.cells #[.int .i64 f.id, .bool f.dir, .int .i64 f.size, .slice ab f.blocks.length cb, .slice al f.list.length cl] 39 (0, 0))) := (hAX.block _ (Array.getElem?_eq_some_iff.1 HBF.out).1).trans HBF.out
      have HBWx : Hid (wc.heap[w4.heap.size]? = some (.cells #[.int .i64 f.id, .bool f.dir, .int .i64 f.size, .slice ab3 f.blocks.length cb3, .slice al3 f.list.length cl3] 39 (0, 0))) := hB3
      have HSF : Hid (SmallF f) := findR_small HF.out.2 HS.out
      have HEQF : Hid (Calls Tryz.prog 18 #[.agg #[.int .i64 f.id, .bool f.dir, .int .i64 f.size, .slice ab f.blocks.length cb, .slice al f.list.length cl], .agg #[.int .i64 f.id, .bool f.dir, .int .i64 f.size, .slice ab3 f.blocks.length cb3, .slice al3 f.list.length cl3]] wc fun e w' => e = .returned (.bool true) ∧ Below wc.heap.size wc w') := by
        have h := eqFile_any _ _ f f wc (HF.out.1.below hAX) HF3.out HSF.out
        rw [decide_eq_true rfl] at h; exact h
      have HEQV : Hid (∀ w', Below W.heap.size W w' → Calls Tryz.prog 19 #[.agg #[.int .i64 d.id, .int .i64 d.fr, .bool d.snap, .slice fa d.files.length fc, .int .i64 d.next], .agg #[.int .i64 d.id, .int .i64 d.fr, .bool d.snap, .slice av d.files.length ca, .int .i64 d.next]] w' fun e w'' => e = .returned (.bool true) ∧ Below w'.heap.size w' w'') := fun w' h => by
        have h := eqVol_any _ _ d d w' (HINW.out.below h) (HUW.out.below h) HS.out
        rw [decide_eq_true rfl] at h; exact h
      have HRBW : Hid (∀ w', Below W.heap.size W w' → w'.heap[n0]? = some (.cells #[.int .i64 d.id, .int .i64 d.fr, .bool d.snap, .slice av d.files.length ca, .int .i64 d.next, .slice (some ⟨b1, o1, none⟩) l.length cL] 27 (0, 0))) := fun w' h => (h.block _ (Array.getElem?_eq_some_iff.1 HRB.out).1).trans HRB.out
      have HRIW : Hid (∀ w', Below W.heap.size W w' → w'.heap[gI]? = some (.cells #[.int .i64 d.id, .int .i64 d.fr, .bool d.snap, .slice fa d.files.length fc, .int .i64 d.next] 24 (0, 0))) := fun w' h => (h.block _ (Array.getElem?_eq_some_iff.1 HRI.out).1).trans HRI.out
      have HAW : Hid (∀ w', Below wA.heap.size wA w' → w'.cell? ⟨b1, o1 + k * 3, none⟩ = some (.int .i64 act)) := fun w' h => (h.cell (p := ⟨b1, o1 + k * 3, none⟩) (block_lt_of_cell HA0.out)).trans HA0.out
      clear hB3 hbx HB4 HBF HRBc HA0 HSP HG HZ5 HB5 HF HF3 HSF
      obtain ⟨f0', f1', f2', f3', f4', _⟩ := five HBFx.out
      obtain ⟨g0', g1', g2', g3', g4', _⟩ := five HBWx.out
      obtain ⟨j0, j1, j2, j3, j4, _⟩ := five (HRIW.out _ hbX)
      obtain ⟨y0, y1, y2, y3, y4, y5⟩ := six (HRBW.out _ hbX)
      go_wp2_with (first
        | (go_at_call 17; refine (errnum_w _ _).mono ?_; rintro e w' ⟨rfl, rfl⟩)
        | (go_at_call 18; refine HEQF.out.mono ?_; rintro e w7 ⟨rfl, hb7⟩; clear f0' f1' f2' f3' f4' g0' g1' g2' g3' g4' j0 j1 j2 j3 j4 y0 y1 y2 y3 y4 y5; have hb7W := nwT hbX hb7; obtain ⟨j0, j1, j2, j3, j4, _⟩ := five (HRIW.out _ hb7W); obtain ⟨y0, y1, y2, y3, y4, y5⟩ := six (HRBW.out _ hb7W))
        | (go_at_call 19; refine (HEQV.out _ (by assumption)).mono ?_; rintro e w8 ⟨rfl, hb8⟩; clear j0 j1 j2 j3 j4 y0 y1 y2 y3 y4 y5; have hb8W := nwT hb7W hb8; have y5 := (six (HRBW.out _ hb8W)).2.2.2.2.2; have a8 := HAW.out _ (nwT hAX (nwT hb7 hb8)))
        | fail)
      have hb9 : Below W.heap.size W (w8.alloc (.cells #[.int .i64 act, .int .i64 k, .int .i64 1] 3)) := nwA hb8W _
      have HK9 : Hid (IntsAt (w8.alloc (.cells #[.int .i64 act, .int .i64 k, .int .i64 1] 3)) (some ⟨w8.heap.size, 0, none⟩) [act, k, 1]) := intsAt_three w8 act k 1
      generalize w8.alloc (.cells #[.int .i64 act, .int .i64 k, .int .i64 1] 3) = W9 at hb9 HK9 ⊢
      generalize w8.heap.size = gK at HK9 ⊢
      clear y5 a8 hb7 hb8 hb7W hb8W HEQF HEQV HBFx HBWx hAX HAW
      go_loopw [15] (fun i wr2 => ∃ (m : Nat), m ≤ 3 ∧ i = .int .i64 m ∧ Below W9.heap.size W9 wr2) (fun i _ => 3 - (intOf i).toNat)
      case atStart => exact ⟨0, by omega, rfl, nwR W9⟩
      case round =>
        obtain ⟨m, hm, rfl, hbm⟩ := hrel
        by_cases hm3 : (m : Int) < 3
        case neg =>
          have hbe := nwT hb9 hbm
          go_wp2_with fail
          go_roundw
          case rel => exact ⟨k + 1, by omega, by omega, by go_num, hbe⟩
          case measure => simp [intOf]; omega
        case pos =>
        have hmN : m < 3 := by omega
        have hm0 : (0 : Int) ≤ (m : Int) := by omega
        obtain ⟨bk, ok', hk', hcx⟩ := (HK9.out.below hbm).cell (show m < [act, (k : Int), 1].length from hmN)
        injection hk' with hk'
        injection hk' with hk1 hk2
        subst hk1; subst hk2
        generalize [act, (k : Int), 1].getD m 0 = x at hcx
        rw [Nat.zero_add] at hcx
        have hbmW := nwT hb9 hbm
        obtain ⟨j0, j1, j2, j3, j4, _⟩ := five (HRIW.out _ hbmW)
        obtain ⟨nl, hnl⟩ : ∃ nl : Int, nl = if may then ((linksN d.files x : Nat) : Int) else 0 := ⟨_, rfl⟩
        obtain ⟨ge, hge⟩ : ∃ ge : Int, ge = if may then 0 else 1 := ⟨_, rfl⟩
        have HNL : Hid (nl = if may then ((linksN d.files x : Nat) : Int) else 0) := hnl
        have HGE : Hid (ge = if may then 0 else 1) := hge
        clear hnl hge
        have HLK : Hid (∀ p : Kin wr, Calls Tryz.prog 20 #[.agg #[.int .i64 d.id, .int .i64 d.fr, .bool d.snap, .slice fa d.files.length fc, .int .i64 d.next], .int .i64 x] p.u fun e w' => e = .returned (.tuple #[.int .i64 nl, .int .i64 ge]) ∧ Below p.u.heap.size p.u w') := fun p => (tlinks_any _ d x p.u (HINW.out.below (nwT hbmW p.h)) HS.out).mono fun e w' ⟨⟨n, g, h1, h2⟩, h3⟩ => by
          refine ⟨?_, h3⟩
          rw [HNL.out, HGE.out, h1]
          rcases h2 with ⟨ho, rfl, rfl⟩ | ⟨ho, rfl, rfl⟩
          · rw [HM.out.2 ho]; rfl
          · rw [show may = false from by cases may; rfl; exact absurd (HM.out.1 rfl) ho]; rfl
        go_wp2_with fail
        have z0 : ∀ p : Kin wr, p.u.cell? ⟨gI, 0, none⟩ = some (.int .i64 d.id) := fun p => kcell j0 p
        have z1 : ∀ p : Kin wr, p.u.cell? ⟨gI, 1, none⟩ = some (.int .i64 d.fr) := fun p => kcell j1 p
        have z2 : ∀ p : Kin wr, p.u.cell? ⟨gI, 2, none⟩ = some (.bool d.snap) := fun p => kcell j2 p
        have z3 : ∀ p : Kin wr, p.u.cell? ⟨gI, 3, none⟩ = some (.slice fa d.files.length fc) := fun p => kcell j3 p
        have z4 : ∀ p : Kin wr, p.u.cell? ⟨gI, 4, none⟩ = some (.int .i64 d.next) := fun p => kcell j4 p
        have z5 : ∀ p : Kin wr, p.u.cell? ⟨gK, m, none⟩ = some (.int .i64 x) := fun p => kcell hcx p
        refine wp_region_kin (by kernel_rfl) (by kernel_rfl) ?_
        repeat (first | go_big_quiet_step (first | (go_at_call 20; exact Calls.kin_of (HLK.out _)) | fail) | quiet_step (first | (go_at_call 20; exact Calls.kin_of (HLK.out _)) | fail))
        refine wpQuiet_nil ?_
        intro _ hw'
        obtain ⟨pq, hw''⟩ := hw'
        subst hw''
        clear z0 z1 z2 z3 z4 z5 j0 j1 j2 j3 j4
        have hbq := nwT hbm pq.h
        have hxq := kcell hcx pq
        generalize pq.u = Wq at hbq hxq ⊢
        clear HLK
        have hbqW := nwT hb9 hbq
        go_upto_if 121 with fail
        go_cut [18, 19] from 122 to 128 (fun s18 s19 wx => s18 = .int .i64 ge ∧ s19 = .int .i64 nl ∧ Below Wq.heap.size Wq wx)
        case first =>
          cases may
          · go_wp2_with fail
            go_meet
            exact ⟨by rw [HGE.out]; rfl, by rw [HNL.out]; rfl, nwR _⟩
          · obtain ⟨y0, y1, y2, y3, y4, y5⟩ := six (HRBW.out _ hbqW)
            have HL2 : Hid (∀ p : Kin Wq, Calls Tryz.prog 21 #[.agg #[.int .i64 d.id, .int .i64 d.fr, .bool d.snap, .slice av d.files.length ca, .int .i64 d.next], .int .i64 x] p.u fun e w' => e = .returned (.int .i64 nl) ∧ Below p.u.heap.size p.u w') := fun p => (links_any _ d x p.u (HUW.out.below (nwT hbqW p.h)) HS.out).mono fun e w' ⟨h1, h2⟩ => ⟨by rw [h1, HNL.out]; rfl, h2⟩
            go_wp2_with fail
            have z0 : ∀ p : Kin Wq, p.u.cell? ⟨n0, 0, none⟩ = some (.int .i64 d.id) := fun p => kcell y0 p
            have z1 : ∀ p : Kin Wq, p.u.cell? ⟨n0, 1, none⟩ = some (.int .i64 d.fr) := fun p => kcell y1 p
            have z2 : ∀ p : Kin Wq, p.u.cell? ⟨n0, 2, none⟩ = some (.bool d.snap) := fun p => kcell y2 p
            have z3 : ∀ p : Kin Wq, p.u.cell? ⟨n0, 3, none⟩ = some (.slice av d.files.length ca) := fun p => kcell y3 p
            have z4 : ∀ p : Kin Wq, p.u.cell? ⟨n0, 4, none⟩ = some (.int .i64 d.next) := fun p => kcell y4 p
            have z5 : ∀ p : Kin Wq, p.u.cell? ⟨gK, m, none⟩ = some (.int .i64 x) := fun p => kcell hxq p
            refine wp_region_kin (by kernel_rfl) (by kernel_rfl) ?_
            repeat (first | go_big_quiet_step (first | (go_at_call 21; exact Calls.kin_of (HL2.out _)) | fail) | quiet_step (first | (go_at_call 21; exact Calls.kin_of (HL2.out _)) | fail))
            refine wpQuiet_nil ?_
            intro _ hw'
            obtain ⟨pq2, hw''⟩ := hw'
            subst hw''
            clear z0 z1 z2 z3 z4 z5 y0 y1 y2 y3 y4 y5
            go_wp2_with fail
            go_meet
            exact ⟨by rw [HGE.out]; rfl, rfl, pq2.h⟩
        case rest =>
        obtain ⟨rfl, rfl, hbc2⟩ := hcut
        rename World => wY
        have hxy := (hbc2.cell (p := ⟨gK, m, none⟩) (block_lt_of_cell hxq)).trans hxq
        have hbY := nwT hbq hbc2
        clear hxq HNL HGE
        go_wp2_with (first | (go_at_call 17; refine (errnum_w _ _).mono ?_; rintro e w' ⟨rfl, rfl⟩) | fail)
        refine (newv_any x _).mono ?_
        rintro e wN ⟨⟨u, er2, dd, rfl, hu, hnr⟩, hbN⟩
        have HNR : Hid (NewR x er2 dd) := hnr
        obtain ⟨fa2, fc2, rfl, hval⟩ := hu.lit
        have hbYN := nwT hbY hbN
        have hxn := (hbN.cell (p := ⟨gK, m, none⟩) (block_lt_of_cell hxy)).trans hxy
        have hgn : gK < wN.heap.size := block_lt_of_cell hxn
        have HBN : Hid (Below wN.heap.size wN ((wN.alloc (.cells #[.int .i64 dd.id, .int .i64 dd.fr, .bool dd.snap, .slice fa2 dd.files.length fc2, .int .i64 dd.next] 24)).alloc (.cells #[.int .i64 0, .int .i64 0, .bool false, .slice none 0 0, .int .i64 0] 24))) := nwA (nwA (nwR wN) _) _
        have HN0 : Hid (((wN.alloc (.cells #[.int .i64 dd.id, .int .i64 dd.fr, .bool dd.snap, .slice fa2 dd.files.length fc2, .int .i64 dd.next] 24)).alloc (.cells #[.int .i64 0, .int .i64 0, .bool false, .slice none 0 0, .int .i64 0] 24)).heap[wN.heap.size]? = some (.cells #[.int .i64 dd.id, .int .i64 dd.fr, .bool dd.snap, .slice fa2 dd.files.length fc2, .int .i64 dd.next] 24 (0, 0))) := (Lib.alloc_old _ _ _ (by simp)).trans (heap_alloc_new wN _)
        have HN1 : Hid (((wN.alloc (.cells #[.int .i64 dd.id, .int .i64 dd.fr, .bool dd.snap, .slice fa2 dd.files.length fc2, .int .i64 dd.next] 24)).alloc (.cells #[.int .i64 0, .int .i64 0, .bool false, .slice none 0 0, .int .i64 0] 24)).heap[wN.heap.size + 1]? = some (.cells #[.int .i64 0, .int .i64 0, .bool false, .slice none 0 0, .int .i64 0] 24 (0, 0))) := heap_alloc_new2 wN _ _
        have HNV : Hid (VolVal ((wN.alloc (.cells #[.int .i64 dd.id, .int .i64 dd.fr, .bool dd.snap, .slice fa2 dd.files.length fc2, .int .i64 dd.next] 24)).alloc (.cells #[.int .i64 0, .int .i64 0, .bool false, .slice none 0 0, .int .i64 0] 24)) (.agg #[.int .i64 dd.id, .int .i64 dd.fr, .bool dd.snap, .slice fa2 dd.files.length fc2, .int .i64 dd.next]) dd) := hval.below HBN.out
        have HVN : Hid (VolVal wN (.agg #[.int .i64 dd.id, .int .i64 dd.fr, .bool dd.snap, .slice fa2 dd.files.length fc2, .int .i64 dd.next]) dd) := hval
        clear hu hnr hval hxy hbN
        obtain ⟨bt, hbt⟩ : ∃ bt, betB x 1 1073741824 = bt := ⟨_, rfl⟩
        have HBT : Hid (betB x 1 1073741824 = bt) := hbt
        have HBC : Hid (∀ w', Calls Tryz.prog 23 #[.int .i64 x, .int .i64 1, .int .i64 1073741824] w' fun e w'' => e = .returned (.bool bt) ∧ w' = w'') := fun w' => (between_any x 1 1073741824 w').mono fun e w'' ⟨h1, h2⟩ => ⟨by rw [h1, HBT.out], h2.symm⟩
        clear hbt
        go_upto_if 150 with (first | (go_at_call 23; refine (HBC.out _).mono ?_; rintro e w' ⟨rfl, rfl⟩) | fail)
        have hxm : ((wN.alloc (.cells #[.int .i64 dd.id, .int .i64 dd.fr, .bool dd.snap, .slice fa2 dd.files.length fc2, .int .i64 dd.next] 24)).alloc (.cells #[.int .i64 0, .int .i64 0, .bool false, .slice none 0 0, .int .i64 0] 24)).cell? ⟨gK, m, none⟩ = some (.int .i64 x) := (HBN.out.cell (p := ⟨gK, m, none⟩) hgn).trans hxn
        generalize (wN.alloc (.cells #[.int .i64 dd.id, .int .i64 dd.fr, .bool dd.snap, .slice fa2 dd.files.length fc2, .int .i64 dd.next] 24)).alloc (.cells #[.int .i64 0, .int .i64 0, .bool false, .slice none 0 0, .int .i64 0] 24) = WM at HBN HN0 HN1 HNV hxm ⊢
        go_cut [18] from 151 to 155 (fun s18 wx => s18 = .int .i64 er2 ∧ Below wN.heap.size wN wx ∧ wx.heap[wN.heap.size]? = some (.cells #[.int .i64 dd.id, .int .i64 dd.fr, .bool dd.snap, .slice fa2 dd.files.length fc2, .int .i64 dd.next] 24 (0, 0)) ∧ ∃ fa3 fc3, wx.heap[wN.heap.size + 1]? = some (.cells #[.int .i64 dd.id, .int .i64 dd.fr, .bool dd.snap, .slice fa3 dd.files.length fc3, .int .i64 dd.next] 24 (0, 0)) ∧ Hid (VolVal wx (.agg #[.int .i64 dd.id, .int .i64 dd.fr, .bool dd.snap, .slice fa2 dd.files.length fc2, .int .i64 dd.next]) dd ∧ VolVal wx (.agg #[.int .i64 dd.id, .int .i64 dd.fr, .bool dd.snap, .slice fa3 dd.files.length fc3, .int .i64 dd.next]) dd))
        case first =>
          cases bt
          · have hr : er2 = 1 ∧ dd = Go.Proofs.YtdpighcaieajjaaGreat.v0 := by
              rcases HNR.out with ⟨h, _⟩ | ⟨_, h⟩
              · have h2 := HBT.out; unfold betB at h2; rw [withinB_one] at h; rw [h2] at h; cases h
              · exact h
            obtain ⟨rfl, rfl⟩ := hr
            go_wp2_with fail
            go_meet
            exact ⟨rfl, HBN.out, HN0.out, none, 0, HN1.out, HNV.out, (ownVol_zero WM 0).val⟩
          · have hr : er2 = 0 ∧ dd = newD x := by
              rcases HNR.out with ⟨_, h⟩ | ⟨h, _⟩
              · exact h
              · have h2 := HBT.out; unfold betB at h2; rw [withinB_one] at h; rw [h2] at h; cases h
            obtain ⟨rfl, rfl⟩ := hr
            go_wp2_with fail
            refine (new_any x _).mono ?_
            rintro e wO ⟨⟨u, rfl, hu⟩, hbO⟩
            obtain ⟨fv3, rfl, hfv3⟩ := (show OwnVol wO WM.heap.size u (newD x) from hu)
            have HFV3 : Hid (OwnFiles wO WM.heap.size fv3 (newD x).files) := hfv3
            obtain ⟨fa3, fc3, rfl, _, _⟩ := hfv3.at
            have h1s := (Array.getElem?_eq_some_iff.1 HN1.out).1
            have HO1 : Hid (wO.heap[wN.heap.size + 1]? = some (.cells #[.int .i64 0, .int .i64 0, .bool false, .slice none 0 0, .int .i64 0] 24 (0, 0))) := (hbO.block _ h1s).trans HN1.out
            have HO0 := (hbO.block _ (Array.getElem?_eq_some_iff.1 HN0.out).1).trans HN0.out
            have HBO : Hid (Below wN.heap.size wN wO) := nwT HBN.out hbO
            obtain ⟨t0, t1, t2, t3, t4, tf⟩ := five HO1.out
            clear hu hfv3 hbO
            go_wp2_with fail
            go_meet
            refine ⟨rfl, five_below HBO.out (Nat.le_succ _), five_other HO0 (Nat.ne_of_lt (Nat.lt_succ_self _)), fa3, fc3, five_set HO1.out, HVN.out.below (five_below HBO.out (Nat.le_succ _)), OwnVol.val (base := WM.heap.size) ⟨_, rfl, ?_⟩⟩
            exact ((((HFV3.out.set 0 h1s _).set 1 h1s _).set 2 h1s _).set 3 h1s _).set 4 h1s _
        case rest =>
        obtain ⟨rfl, hbZ, hD2, fa3, fc3, hE2, HVV⟩ := hcut
        have HSD : Hid (SmallV dd) := newR_small HNR.out
        have HEQ : Hid (Calls Tryz.prog 19 #[.agg #[.int .i64 dd.id, .int .i64 dd.fr, .bool dd.snap, .slice fa2 dd.files.length fc2, .int .i64 dd.next], .agg #[.int .i64 dd.id, .int .i64 dd.fr, .bool dd.snap, .slice fa3 dd.files.length fc3, .int .i64 dd.next]] wc fun e w' => e = .returned (.bool true) ∧ Below wc.heap.size wc w') := by
          have h := eqVol_any _ _ dd dd wc HVV.out.1 HVV.out.2 HSD.out
          rw [decide_eq_true rfl] at h; exact h
        obtain ⟨p0, p1, p2, p3, p4, _⟩ := five hD2
        obtain ⟨q0, q1, q2, q3, q4, _⟩ := five hE2
        have hbZZ := nwT hbYN hbZ
        clear hD2 hE2
        go_wp2_with (first | (go_at_call 17; refine (errnum_w _ _).mono ?_; rintro e w' ⟨rfl, rfl⟩) | (go_at_call 19; refine HEQ.out.mono ?_; rintro e w9 ⟨rfl, hb9'⟩) | fail)
        go_roundw
        case rel => exact ⟨m + 1, by omega, by go_num, nwT hbZZ hb9'⟩
        case measure => simp [intOf]; omega

end Go.Proofs.YtdpighcaieajjaaGreat

/- What stands behind the switch of the law's step. -/
namespace Go.Proofs.YtdpighcaieajjaaGreat
open Go.RowKit Go.Sort

theorem three {w : World} {g : Nat} {c0 c1 c2 : Value} {t : TypeId} (h : w.heap[g]? = some (.cells #[c0, c1, c2] t (0, 0))) :
    w.cell? ⟨g, 0, none⟩ = some c0 ∧ w.cell? ⟨g, 1, none⟩ = some c1 ∧ w.cell? ⟨g, 2, none⟩ = some c2 :=
  ⟨by rw [Lib.cell_of_heap h]; rfl, by rw [Lib.cell_of_heap h]; rfl, by rw [Lib.cell_of_heap h]; rfl⟩
structure BoxQ (n0 gi : Nat) (oV oA oR oI : Obj) (w : World) : Prop where
  v : w.heap[n0]? = some oV
  a : w.heap[n0 + 1]? = some oA
  r : w.heap[n0 + 2]? = some oR
  i : w.heap[gi]? = some oI
theorem BoxQ.below {n0 gi : Nat} {oV oA oR oI : Obj} {w w' : World} {n : Nat} (h : BoxQ n0 gi oV oA oR oI w) (hn : n0 + 2 < n ∧ gi < n) (hb : Below n w w') : BoxQ n0 gi oV oA oR oI w' :=
  ⟨(hb.block _ (by omega)).trans h.v, (hb.block _ (by omega)).trans h.a, (hb.block _ (by omega)).trans h.r, (hb.block _ (by omega)).trans h.i⟩
theorem BoxQ.lt {n0 gi : Nat} {oV oA oR oI : Obj} {w : World} (h : BoxQ n0 gi oV oA oR oI w) : n0 + 2 < w.heap.size ∧ gi < w.heap.size := ⟨(Array.getElem?_eq_some_iff.1 h.r).1, (Array.getElem?_eq_some_iff.1 h.i).1⟩

structure StepJ (W5 : World) (dd : VolD) (fx : Option Addr) (cx : Nat) (fw : Option Addr) (cw : Nat) (wx : World) : Prop where
  below : Below W5.heap.size W5 wx
  x : wx.heap[W5.heap.size]? = some (.cells #[.int .i64 dd.id, .int .i64 dd.fr, .bool dd.snap, .slice fx dd.files.length cx, .int .i64 dd.next] 24 (0, 0))
  wnt : wx.heap[W5.heap.size + 1]? = some (.cells #[.int .i64 dd.id, .int .i64 dd.fr, .bool dd.snap, .slice fw dd.files.length cw, .int .i64 dd.next] 24 (0, 0))
  vx : OwnFiles wx (W5.heap.size + 2) (.slice fx dd.files.length cx) dd.files
  top : ∃ top, W5.heap.size + 2 ≤ top ∧ top ≤ wx.heap.size ∧ SpoilX wx (W5.heap.size + 2) top fx dd.files.length ∧ OwnFiles wx top (.slice fw dd.files.length cw) dd.files
  small : SmallV dd
theorem alloc2_size (w : World) (a b : Obj) : ((w.alloc a).alloc b).heap.size = w.heap.size + 2 := by simp
theorem ownF_set5 {w : World} {base : Nat} {v : Value} {fs : List FileD} (h : OwnFiles w base v fs) {g : Nat} (hg : g < base) (a b c d e : Value) : OwnFiles (((((w.setCell ⟨g, 0, none⟩ a).setCell ⟨g, 1, none⟩ b).setCell ⟨g, 2, none⟩ c).setCell ⟨g, 3, none⟩ d).setCell ⟨g, 4, none⟩ e) base v fs :=
  ((((h.set 0 hg _).set 1 hg _).set 2 hg _).set 3 hg _).set 4 hg _
theorem spX_set5 {w : World} {base top n : Nat} {fa : Option Addr} (h : SpoilX w base top fa n) {g : Nat} (hg : g < base) (a b c d e : Value) : SpoilX (((((w.setCell ⟨g, 0, none⟩ a).setCell ⟨g, 1, none⟩ b).setCell ⟨g, 2, none⟩ c).setCell ⟨g, 3, none⟩ d).setCell ⟨g, 4, none⟩ e) base top fa n :=
  ((((h.set 0 hg _).set 1 hg _).set 2 hg _).set 3 hg _).set 4 hg _
theorem size_set5 (w : World) (g : Nat) (a b c d e : Value) : (((((w.setCell ⟨g, 0, none⟩ a).setCell ⟨g, 1, none⟩ b).setCell ⟨g, 2, none⟩ c).setCell ⟨g, 3, none⟩ d).setCell ⟨g, 4, none⟩ e).heap.size = w.heap.size := by simp
/-- behind the program's call and its answer stored -/
structure StepA (W5 : World) (dd : VolD) (fx : Option Addr) (cx : Nat) (top : Nat) (wx : World) : Prop where
  below : Below W5.heap.size W5 wx
  x : wx.heap[W5.heap.size]? = some (.cells #[.int .i64 dd.id, .int .i64 dd.fr, .bool dd.snap, .slice fx dd.files.length cx, .int .i64 dd.next] 24 (0, 0))
  wnt : wx.heap[W5.heap.size + 1]? = some (.cells #[.int .i64 0, .int .i64 0, .bool false, .slice none 0 0, .int .i64 0] 24 (0, 0))
  vx : OwnFiles wx (W5.heap.size + 2) (.slice fx dd.files.length cx) dd.files
  size : wx.heap.size = top ∧ W5.heap.size + 2 ≤ top
  sp : SpoilX wx (W5.heap.size + 2) top fx dd.files.length
theorem stepA {W5 W9 wA : World} {dd : VolD} {fx : Option Addr} {cx : Nat} (h9 : W9 = (W5.alloc (.cells #[.int .i64 0, .int .i64 0, .bool false, .slice none 0 0, .int .i64 0] 24)).alloc (.cells #[.int .i64 0, .int .i64 0, .bool false, .slice none 0 0, .int .i64 0] 24)) (hbA : Below W9.heap.size W9 wA) (hfv : OwnFiles wA W9.heap.size (.slice fx dd.files.length cx) dd.files) (hs : SmallV dd) :
    StepA W5 dd fx cx wA.heap.size (((((wA.setCell ⟨W5.heap.size, 0, none⟩ (.int .i64 dd.id)).setCell ⟨W5.heap.size, 1, none⟩ (.int .i64 dd.fr)).setCell ⟨W5.heap.size, 2, none⟩ (.bool dd.snap)).setCell ⟨W5.heap.size, 3, none⟩ (.slice fx dd.files.length cx)).setCell ⟨W5.heap.size, 4, none⟩ (.int .i64 dd.next)) := by
  have hsz : W9.heap.size = W5.heap.size + 2 := by rw [h9]; exact alloc2_size _ _ _
  have hX : W9.heap[W5.heap.size]? = some (.cells #[.int .i64 0, .int .i64 0, .bool false, .slice none 0 0, .int .i64 0] 24 (0, 0)) := by rw [h9]; exact (Lib.alloc_old _ _ _ (by simp)).trans (heap_alloc_new W5 _)
  have hW : W9.heap[W5.heap.size + 1]? = some (.cells #[.int .i64 0, .int .i64 0, .bool false, .slice none 0 0, .int .i64 0] 24 (0, 0)) := by rw [h9]; exact heap_alloc_new2 W5 _ _
  have hb9 : Below W5.heap.size W5 W9 := by rw [h9]; exact nwA (nwA (nwR W5) _) _
  rw [hsz] at hfv
  have hz := hbA.size
  refine ⟨five_below (nwT hb9 hbA) (Nat.le_refl _), five_set ((hbA.block _ (by omega)).trans hX), five_aside ((hbA.block _ (by omega)).trans hW) (Nat.succ_ne_self _), ownF_set5 hfv (by omega) _ _ _ _ _, ⟨size_set5 _ _ _ _ _ _ _, by omega⟩, spX_set5 (SpoilX.of_own hfv hs.1 hs.2) (by omega) _ _ _ _ _⟩
theorem StepA.bad {W5 wx : World} {dd : VolD} {fx : Option Addr} {cx top : Nat} (h : StepA W5 dd fx cx top wx) (hdd : dd = Go.Proofs.YtdpighcaieajjaaGreat.v0) : StepJ W5 dd fx cx none 0 wx := by
  subst hdd
  refine ⟨h.below, h.x, h.wnt, h.vx, ⟨top, h.size.2, by rw [h.size.1]; exact Nat.le_refl _, h.sp, ?_⟩, small_v0⟩
  exact ⟨[], rfl, World.ownsRow_nil _ _ _ _, fun g hg => by simp at hg⟩
theorem StepA.good {W5 wx wB : World} {dd : VolD} {fx : Option Addr} {cx top : Nat} {fw : Option Addr} {cw : Nat} (h : StepA W5 dd fx cx top wx) (hbB : Below wx.heap.size wx wB) (hfw : OwnFiles wB wx.heap.size (.slice fw dd.files.length cw) dd.files) (hs : SmallV dd) :
    StepJ W5 dd fx cx fw cw (((((wB.setCell ⟨(W5.heap.size + 1), 0, none⟩ (.int .i64 dd.id)).setCell ⟨(W5.heap.size + 1), 1, none⟩ (.int .i64 dd.fr)).setCell ⟨(W5.heap.size + 1), 2, none⟩ (.bool dd.snap)).setCell ⟨(W5.heap.size + 1), 3, none⟩ (.slice fw dd.files.length cw)).setCell ⟨(W5.heap.size + 1), 4, none⟩ (.int .i64 dd.next)) := by
  have hz := h.size
  have hz2 := hbB.size
  refine ⟨five_below (nwT h.below hbB) (Nat.le_succ _), five_other ((hbB.block _ (by omega)).trans h.x) (Nat.ne_of_lt (Nat.lt_succ_self _)), five_set ((hbB.block _ (by omega)).trans h.wnt), ownF_set5 (h.vx.below hbB) (by omega) _ _ _ _ _, ⟨top, hz.2, by rw [size_set5]; omega, spX_set5 (h.sp.below hbB) (by omega) _ _ _ _ _, ?_⟩, hs⟩
  rw [← hz.1]
  exact ownF_set5 hfw (by omega) _ _ _ _ _
theorem errI_zero (b : Bool) : (errI b == 0) = b ∧ decide (errI b = 0) = b := by cases b <;> simp [errI]

end Go.Proofs.YtdpighcaieajjaaGreat
