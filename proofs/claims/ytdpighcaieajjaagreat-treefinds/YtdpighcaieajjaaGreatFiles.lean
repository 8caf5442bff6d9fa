/- Files and volumes copied; files owned. -/
import Derived.Test.YtdpighcaieajjaaGreatCopy
namespace Go.Proofs.YtdpighcaieajjaaGreat
open Go.RowKit

def SmallF (f : FileD) : Prop := f.blocks.length ≤ 100000 ∧ f.list.length ≤ 100000
def SmallV (d : VolD) : Prop := d.files.length ≤ 100000 ∧ ∀ f ∈ d.files, SmallF f

structure FV where
  d : FileD
  bv : Value
  lv : Value
def fflat (gs : List FV) : List Value := gs.flatMap fun g => [.int .i64 g.d.id, .bool g.d.dir, .int .i64 g.d.size, g.bv, g.lv]
def OwnFV (w : World) (base : Nat) (g : FV) : Prop := OwnInts w base g.bv g.d.blocks ∧ OwnLinks w base g.lv g.d.list
/-- files in memory of one's own -/
def OwnFiles (w : World) (base : Nat) (v : Value) (fs : List FileD) : Prop := ∃ gs : List FV, gs.map FV.d = fs ∧ w.ownsRow base 39 5 v gs.length (fflat gs) ∧ ∀ g ∈ gs, OwnFV w base g
def OwnFile (w : World) (base : Nat) (v : Value) (f : FileD) : Prop := ∃ bv lv, v = .agg #[.int .i64 f.id, .bool f.dir, .int .i64 f.size, bv, lv] ∧ OwnFV w base ⟨f, bv, lv⟩
def OwnVol (w : World) (base : Nat) (v : Value) (d : VolD) : Prop := ∃ fv, v = .agg #[.int .i64 d.id, .int .i64 d.fr, .bool d.snap, fv, .int .i64 d.next] ∧ OwnFiles w base fv d.files

theorem fflat_get (gs : List FV) : ∀ i g, gs[i]? = some g → (fflat gs)[i * 5]? = some (.int .i64 g.d.id) ∧ (fflat gs)[i * 5 + 1]? = some (.bool g.d.dir) ∧ (fflat gs)[i * 5 + 2]? = some (.int .i64 g.d.size) ∧ (fflat gs)[i * 5 + 3]? = some g.bv ∧ (fflat gs)[i * 5 + 4]? = some g.lv := by
  induction gs with
  | nil => intro i g h; simp at h
  | cons x xs ih =>
    intro i g h
    have e : fflat (x :: xs) = .int .i64 x.d.id :: .bool x.d.dir :: .int .i64 x.d.size :: x.bv :: x.lv :: fflat xs := by simp [fflat]
    rw [e]
    cases i with
    | zero => simp at h; subst h; simp
    | succ i =>
      have h' : xs[i]? = some g := by simpa using h
      have h2 := ih i g h'
      rw [show (i + 1) * 5 = i * 5 + 1 + 1 + 1 + 1 + 1 from by omega]
      simp only [List.getElem?_cons_succ]
      exact h2
theorem fflat_snoc (gs : List FV) (g : FV) : fflat (gs ++ [g]) = fflat gs ++ [.int .i64 g.d.id, .bool g.d.dir, .int .i64 g.d.size, g.bv, g.lv] := by simp [fflat]

theorem OwnFV.below {w w' : World} {base : Nat} {g : FV} (h : OwnFV w base g) (hb : Below w.heap.size w w') : OwnFV w' base g := ⟨own_below h.1 hb, own_below h.2 hb⟩
theorem OwnFV.le {w : World} {base base' : Nat} {g : FV} (h : OwnFV w base g) (hb : base' ≤ base) : OwnFV w base' g := ⟨own_le h.1 hb, own_le h.2 hb⟩
theorem OwnFiles.below {w w' : World} {base : Nat} {v : Value} {fs : List FileD} (h : OwnFiles w base v fs) (hb : Below w.heap.size w w') : OwnFiles w' base v fs := by
  obtain ⟨gs, e, ho, hg⟩ := h
  exact ⟨gs, e, own_below ho hb, fun g hm => (hg g hm).below hb⟩
theorem OwnFiles.le {w : World} {base base' : Nat} {v : Value} {fs : List FileD} (h : OwnFiles w base v fs) (hb : base' ≤ base) : OwnFiles w base' v fs := by
  obtain ⟨gs, e, ho, hg⟩ := h
  exact ⟨gs, e, own_le ho hb, fun g hm => (hg g hm).le hb⟩
theorem OwnVol.below {w w' : World} {base : Nat} {v : Value} {d : VolD} (h : OwnVol w base v d) (hb : Below w.heap.size w w') : OwnVol w' base v d := by
  obtain ⟨fv, e, ho⟩ := h
  exact ⟨fv, e, ho.below hb⟩
theorem OwnVol.le {w : World} {base base' : Nat} {v : Value} {d : VolD} (h : OwnVol w base v d) (hb : base' ≤ base) : OwnVol w base' v d := by
  obtain ⟨fv, e, ho⟩ := h
  exact ⟨fv, e, ho.le hb⟩
/-- owned files read -/
theorem OwnFiles.at {w : World} {base : Nat} {v : Value} {fs : List FileD} (h : OwnFiles w base v fs) : ∃ a cap, v = .slice a fs.length cap ∧ FilesAt w a fs ∧ CapOk a cap fs.length := by
  obtain ⟨gs, rfl, ho, hg⟩ := h
  have hh := ho
  rw [List.length_map]
  rcases ho.2 with ⟨hv, hn⟩ | ⟨g, cap, cur, hv, hb, _, hnc, _⟩
  · exact ⟨none, 0, by rw [hv, hn], .inl (by rw [List.length_eq_zero_iff.1 hn]; rfl), by omega, (fun _ => rfl), (fun p e => by cases e)⟩
  · refine ⟨_, cap, hv, .inr ⟨g, 0, rfl, fun i hi => ?_⟩, hnc, (fun e => by cases e), (fun p e _ => by injection e with e; rw [← e])⟩
    rw [List.length_map] at hi
    have hgi : gs[i]? = some gs[i] := List.getElem?_eq_getElem hi
    obtain ⟨c0, c1, c2, c3, c4⟩ := fflat_get gs i _ hgi
    have hm := hg gs[i] (List.getElem_mem hi)
    obtain ⟨ab, cb, eb, hib, kib⟩ := hm.1.at
    obtain ⟨al, cl, el, hil, kil⟩ := hm.2.at
    have e : ∀ j, (⟨g, 0, none⟩ : Addr).add j = ⟨g, 0 + j, none⟩ := fun j => by unfold Addr.add; split <;> simp_all
    have hgd : (gs.map FV.d).getD i f0 = gs[i].d := by simp [List.getD, hi]
    rw [hgd]
    have K : ∀ j u, (fflat gs)[j]? = some u → w.cell? ⟨g, 0 + j, none⟩ = some u := fun j u hj => by
      have := hh.cells (g := g) (by rw [hv]; rfl) j u hj
      rwa [e] at this
    rw [eb] at c3
    rw [el] at c4
    exact ⟨ab, cb, al, cl, ⟨K _ _ c0, by have := K _ _ c1; rwa [← Nat.add_assoc] at this, by have := K _ _ c2; rwa [← Nat.add_assoc] at this, by have := K _ _ c3; rwa [← Nat.add_assoc] at this, by have := K _ _ c4; rwa [← Nat.add_assoc] at this⟩, ⟨hib, kib⟩, hil, kil⟩
theorem OwnVol.val {w : World} {base : Nat} {v : Value} {d : VolD} (h : OwnVol w base v d) : VolVal w v d := by
  obtain ⟨fv, e, ho⟩ := h
  obtain ⟨a, c, rfl, hf, hc⟩ := ho.at
  exact ⟨a, c, e, hf, hc⟩
theorem OwnFiles.snoc {w : World} {base : Nat} {v : Value} {gs : List FV} {g : FV} (hg : ∀ x ∈ gs, OwnFV w base x) (h1 : OwnFV w base g)
    (h : w.ownsRow base 39 5 v (gs.length + 1) (fflat gs ++ [.int .i64 g.d.id, .bool g.d.dir, .int .i64 g.d.size, g.bv, g.lv])) : OwnFiles w base v (gs.map FV.d ++ [g.d]) := by
  refine ⟨gs ++ [g], by simp, ?_, ?_⟩
  · rw [fflat_snoc, List.length_append]; exact h
  · intro x hx
    rcases List.mem_append.1 hx with hx | hx
    · exact hg x hx
    · simp at hx; subst hx; exact h1

theorem bcell {W w1 : World} (hb : Below W.heap.size W w1) : (∀ b o, b < W.heap.size → w1.cell? ⟨b, o, none⟩ = W.cell? ⟨b, o, none⟩) ∧ (∀ b o, b < W.heap.size → w1.frozen? ⟨b, o, none⟩ = W.frozen? ⟨b, o, none⟩) :=
  ⟨fun b o h => hb.cell (p := ⟨b, o, none⟩) h, fun b o h => hb.frozen (p := ⟨b, o, none⟩) h⟩
theorem rowset {w : World} {base : Nat} {e : TypeId} {size : Nat} {v : Value} {n : Nat} {xs : List Value} (h : w.ownsRow base e size v n xs) {g : Nat} (o : Nat) (hg : g < base) (u : Value) : (w.setCell ⟨g, o, none⟩ u).ownsRow base e size v n xs := by
  refine ⟨h.1, ?_⟩
  rcases h.2 with hn | ⟨r, cap, cur, hv, hb, hgg, rest⟩
  · exact .inl hn
  · refine .inr ⟨r, cap, cur, hv, hb, ?_, rest⟩
    rw [Below.heap_setCell _ _ _ _ (by show r ≠ g; omega)]
    exact hgg

theorem OwnFV.set {w : World} {base : Nat} {x : FV} (h : OwnFV w base x) {g : Nat} (o : Nat) (hg : g < base) (u : Value) : OwnFV (w.setCell ⟨g, o, none⟩ u) base x := ⟨rowset h.1 o hg u, rowset h.2 o hg u⟩

theorem size3 (w : World) (a b c : Obj) : (((w.alloc a).alloc b).alloc c).heap.size = w.heap.size + 3 := by simp
theorem three_0 (w : World) (a b c : Obj) : (((w.alloc a).alloc b).alloc c).heap[w.heap.size]? = some a := by
  rw [Lib.alloc_old _ _ _ (by simp; omega), Lib.alloc_old _ _ _ (by simp)]
  exact heap_alloc_new w a
theorem three_1 (w : World) (a b c : Obj) : (((w.alloc a).alloc b).alloc c).heap[w.heap.size + 1]? = some b := by
  rw [Lib.alloc_old _ _ _ (by simp)]
  have := heap_alloc_new (w.alloc a) b
  simpa using this
theorem three_2 (w : World) (a b c : Obj) : (((w.alloc a).alloc b).alloc c).heap[w.heap.size + 1 + 1]? = some c := by
  have := heap_alloc_new ((w.alloc a).alloc b) c
  simpa using this
theorem five {w : World} {g : Nat} {c0 c1 c2 c3 c4 : Value} {t : TypeId} (h : w.heap[g]? = some (.cells #[c0, c1, c2, c3, c4] t (0, 0))) :
    w.cell? ⟨g, 0, none⟩ = some c0 ∧ w.cell? ⟨g, 1, none⟩ = some c1 ∧ w.cell? ⟨g, 2, none⟩ = some c2 ∧ w.cell? ⟨g, 3, none⟩ = some c3 ∧ w.cell? ⟨g, 4, none⟩ = some c4 ∧ ∀ o, w.frozen? ⟨g, o, none⟩ = false :=
  ⟨by rw [Lib.cell_of_heap h]; rfl, by rw [Lib.cell_of_heap h]; rfl, by rw [Lib.cell_of_heap h]; rfl, by rw [Lib.cell_of_heap h]; rfl, by rw [Lib.cell_of_heap h]; rfl, fun o => Lib.frozen_of_heap h o⟩

set_option maxRecDepth 100000 in
set_option maxHeartbeats 1000000 in
theorem copyFile_any (v : Value) (f : FileD) (w : World) (hv : FileVal w v f) (hs : SmallF f) :
    Calls Tryz.prog 65 #[v] w fun e w' => (∃ u, e = .returned u ∧ OwnFile w' w.heap.size u f) ∧ Below w.heap.size w w' := by
  obtain ⟨ab, cb, al, cl, rfl, ⟨hib, _⟩, hil, _⟩ := hv
  have HB : Hid (IntsAt w ab f.blocks) := hib
  have HL : Hid (LinksAt w al f.list) := hil
  clear hib hil
  obtain ⟨id, dir, size, bl, li⟩ := f
  simp only [fcells] at *
  simp only [SmallF] at hs
  obtain ⟨hs1, hs2⟩ := hs
  go_enter Tryz.func65, Tryz.ntmps65
  go_wp2_with fail
  have hbW := nwA (nwA (nwA (nwR w) (.cells #[.int .i64 id, .bool dir, .int .i64 size, .slice ab bl.length cb, .slice al li.length cl] 39)) (.cells #[.int .i64 0, .bool false, .int .i64 0, .slice none 0 0, .slice none 0 0] 39)) (.cells #[.int .i64 id, .bool dir, .int .i64 size, .slice ab bl.length cb, .slice al li.length cl] 39)
  have HBW : Hid (Below w.heap.size w (((w.alloc (.cells #[.int .i64 id, .bool dir, .int .i64 size, .slice ab bl.length cb, .slice al li.length cl] 39)).alloc (.cells #[.int .i64 0, .bool false, .int .i64 0, .slice none 0 0, .slice none 0 0] 39)).alloc (.cells #[.int .i64 id, .bool dir, .int .i64 size, .slice ab bl.length cb, .slice al li.length cl] 39))) := hbW
  clear hbW
  refine (copyNums_any ab bl cb _ (HB.out.below HBW.out) hs1).mono ?_
  rintro e w1 ⟨⟨bv, rfl, hob⟩, hb1⟩
  have HG1 : Hid (w1.heap[w.heap.size + 1]? = some (.cells #[.int .i64 0, .bool false, .int .i64 0, .slice none 0 0, .slice none 0 0] 39 (0, 0))) := (hb1.block _ (by simp)).trans (three_1 w _ _ _)
  have HG2 : Hid (w1.heap[w.heap.size + 1 + 1]? = some (.cells #[.int .i64 id, .bool dir, .int .i64 size, .slice ab bl.length cb, .slice al li.length cl] 39 (0, 0))) := (hb1.block _ (by simp)).trans (three_2 w _ _ _)
  have hl0 : w1.cell? ⟨w.heap.size, 4, none⟩ = some (.slice al li.length cl) := (hb1.cell (p := ⟨w.heap.size, 4, none⟩) (by show w.heap.size < _; rw [size3]; omega)).trans (by rw [Lib.cell_of_heap (three_0 w _ _ _)]; rfl)
  have HO1 : Hid (OwnInts w1 (w.heap.size + 3) bv bl) := by have := hob; rw [size3] at this; exact this
  have HB1 : Hid (Below w.heap.size w w1) := nwT HBW.out hb1
  clear hob hb1 HBW
  obtain ⟨abv, cbv, rfl, _⟩ := HO1.out.at
  have HB2 : Hid (Below w.heap.size w (w1.setCell ⟨w.heap.size + 1 + 1, 3, none⟩ (.slice abv bl.length cbv))) := HB1.out.setCell (p := ⟨w.heap.size + 1 + 1, 3, none⟩) (by show w.heap.size ≤ w.heap.size + 1 + 1; omega) _
  have HO2 : Hid (OwnInts (w1.setCell ⟨w.heap.size + 1 + 1, 3, none⟩ (.slice abv bl.length cbv)) (w.heap.size + 3) (.slice abv bl.length cbv) bl) := rowset HO1.out 3 (by omega) _
  have HH1 : Hid ((w1.setCell ⟨w.heap.size + 1 + 1, 3, none⟩ (.slice abv bl.length cbv)).heap[w.heap.size + 1]? = some (.cells #[.int .i64 0, .bool false, .int .i64 0, .slice none 0 0, .slice none 0 0] 39 (0, 0))) := (Below.heap_setCell _ _ _ _ (by show w.heap.size + 1 ≠ w.heap.size + 1 + 1; omega)).trans HG1.out
  have HH2 : Hid ((w1.setCell ⟨w.heap.size + 1 + 1, 3, none⟩ (.slice abv bl.length cbv)).heap[w.heap.size + 1 + 1]? = some (.cells #[.int .i64 id, .bool dir, .int .i64 size, .slice abv bl.length cbv, .slice al li.length cl] 39 (0, 0))) := by
    rw [heap_setCell_same w1 _ 3 _ 39 _ HG2.out]; show _ = _; simp
  obtain ⟨p0, p1, p2, p3, p4, pf⟩ := five HG2.out
  clear HB1 HO1 HG1 HG2
  go_wp2_with fail
  refine (copyLinks_any al li cl _ (HL.out.below HB2.out) hs2).mono ?_
  rintro e w2 ⟨⟨lv, rfl, hol⟩, hb2⟩
  have HO3 : Hid (OwnInts w2 (w.heap.size + 3) (.slice abv bl.length cbv) bl) := own_below HO2.out hb2
  have l2 : w.heap.size + 1 + 1 < (w1.setCell ⟨w.heap.size + 1 + 1, 3, none⟩ (.slice abv bl.length cbv)).heap.size := (Array.getElem?_eq_some_iff.1 HH2.out).1
  have HL3 : Hid (OwnLinks w2 (w.heap.size + 3) lv li) := own_le hol l2
  have HB3 : Hid (Below w.heap.size w w2) := nwT HB2.out hb2
  obtain ⟨r0, r1, r2, r3, r4, rf⟩ := five ((hb2.block _ (by omega)).trans HH1.out)
  obtain ⟨q0, q1, q2, q3, q4, qf⟩ := five ((hb2.block _ l2).trans HH2.out)
  clear HB2 HO2 hol hb2 HH1 HH2 p0 p1 p2 p3 p4 pf hl0 l2
  obtain ⟨alv, clv, rfl, _⟩ := HL3.out.at
  go_wp2_with fail
  refine bodyPost_ret (v := .agg #[.int .i64 id, .bool dir, .int .i64 size, .slice abv bl.length cbv, .slice alv li.length clv]) (by simp [results, Tryz.results65, go_sem, r0, r1, r2, r3, r4]) rfl ⟨⟨_, rfl, _, _, rfl, ?_⟩, ?_⟩
  · have k1 : OwnFV w2 (w.heap.size + 3) ⟨⟨id, dir, size, bl, li⟩, .slice abv bl.length cbv, .slice alv li.length clv⟩ := ⟨HO3.out, HL3.out⟩
    exact ((((((k1.set 4 (g := w.heap.size + 1 + 1) (by omega) _).set 0 (g := w.heap.size + 1) (by omega) _).set 1 (by omega) _).set 2 (by omega) _).set 3 (by omega) _).set 4 (by omega) _).le (by omega)
  · exact (((((HB3.out.setCell (p := ⟨w.heap.size + 1 + 1, 4, none⟩) (by show w.heap.size ≤ w.heap.size + 1 + 1; omega) _).setCell (p := ⟨w.heap.size + 1, 0, none⟩) (Nat.le_succ _) _).setCell (p := ⟨w.heap.size + 1, 1, none⟩) (Nat.le_succ _) _).setCell (p := ⟨w.heap.size + 1, 2, none⟩) (Nat.le_succ _) _).setCell (p := ⟨w.heap.size + 1, 3, none⟩) (Nat.le_succ _) _).setCell (p := ⟨w.heap.size + 1, 4, none⟩) (Nat.le_succ _) _

end Go.Proofs.YtdpighcaieajjaaGreat
