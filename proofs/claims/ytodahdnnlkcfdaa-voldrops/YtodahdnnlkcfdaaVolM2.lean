/- Laid together: Files, Vols, Eqv, Eqw, Small, Links. -/
import Derived.Test.YtodahdnnlkcfdaaVolM1
import Derived.Deep.RegionHeld3
/- Files and volumes copied; files owned. -/
namespace Go.Proofs.Ytodahdnnlkcfdaa
open Go.RowKit

def SmallF (f : FileD) : Prop := f.blocks.length ≤ 100000 ∧ f.list.length ≤ 100000
def SmallV (d : VolD) : Prop := d.files.length ≤ 100000 ∧ ∀ f ∈ d.files, SmallF f

structure FV where
  d : FileD
  bv : Value
  lv : Value
def fflat (gs : List FV) : List Value := gs.flatMap fun g => [.int .i64 g.d.id, .bool g.d.dir, .int .i64 g.d.size, g.bv, g.lv]
def OwnFV (w : World) (base : Nat) (g : FV) : Prop := OwnInts w base g.bv g.d.blocks ∧ OwnLinks w base g.lv g.d.list
/-- files in memory of one's own -/
def OwnFiles (w : World) (base : Nat) (v : Value) (fs : List FileD) : Prop := ∃ gs : List FV, gs.map FV.d = fs ∧ w.ownsRow base 84 5 v gs.length (fflat gs) ∧ ∀ g ∈ gs, OwnFV w base g
def OwnFile (w : World) (base : Nat) (v : Value) (f : FileD) : Prop := ∃ bv lv, v = .agg #[.int .i64 f.id, .bool f.dir, .int .i64 f.size, bv, lv] ∧ OwnFV w base ⟨f, bv, lv⟩
def OwnVol (w : World) (base : Nat) (v : Value) (d : VolD) : Prop := ∃ fv, v = .agg #[.int .i64 d.id, .int .i64 d.fr, .bool d.snap, fv, .int .i64 d.next] ∧ OwnFiles w base fv d.files

theorem fflat_get (gs : List FV) : ∀ i g, gs[i]? = some g → (fflat gs)[i * 5]? = some (.int .i64 g.d.id) ∧ (fflat gs)[i * 5 + 1]? = some (.bool g.d.dir) ∧ (fflat gs)[i * 5 + 2]? = some (.int .i64 g.d.size) ∧ (fflat gs)[i * 5 + 3]? = some g.bv ∧ (fflat gs)[i * 5 + 4]? = some g.lv := by
  induction gs with
  | nil => intro i g h; simp at h
  | cons x xs ih =>
    intro i g h
    have e : fflat (x :: xs) = .int .i64 x.d.id :: .bool x.d.dir :: .int .i64 x.d.size :: x.bv :: x.lv :: fflat xs := by simp [fflat]
    rw [e]
    cases i with
    | zero => simp at h; subst h; simp
    | succ i =>
      have h' : xs[i]? = some g := by simpa using h
      have h2 := ih i g h'
      rw [show (i + 1) * 5 = i * 5 + 1 + 1 + 1 + 1 + 1 from by omega]
      simp only [List.getElem?_cons_succ]
      exact h2
theorem fflat_snoc (gs : List FV) (g : FV) : fflat (gs ++ [g]) = fflat gs ++ [.int .i64 g.d.id, .bool g.d.dir, .int .i64 g.d.size, g.bv, g.lv] := by simp [fflat]

theorem OwnFV.below {w w' : World} {base : Nat} {g : FV} (h : OwnFV w base g) (hb : Below w.heap.size w w') : OwnFV w' base g := ⟨own_below h.1 hb, own_below h.2 hb⟩
theorem OwnFV.le {w : World} {base base' : Nat} {g : FV} (h : OwnFV w base g) (hb : base' ≤ base) : OwnFV w base' g := ⟨own_le h.1 hb, own_le h.2 hb⟩
theorem OwnFiles.below {w w' : World} {base : Nat} {v : Value} {fs : List FileD} (h : OwnFiles w base v fs) (hb : Below w.heap.size w w') : OwnFiles w' base v fs := by
  obtain ⟨gs, e, ho, hg⟩ := h
  exact ⟨gs, e, own_below ho hb, fun g hm => (hg g hm).below hb⟩
theorem OwnFiles.le {w : World} {base base' : Nat} {v : Value} {fs : List FileD} (h : OwnFiles w base v fs) (hb : base' ≤ base) : OwnFiles w base' v fs := by
  obtain ⟨gs, e, ho, hg⟩ := h
  exact ⟨gs, e, own_le ho hb, fun g hm => (hg g hm).le hb⟩
theorem OwnVol.below {w w' : World} {base : Nat} {v : Value} {d : VolD} (h : OwnVol w base v d) (hb : Below w.heap.size w w') : OwnVol w' base v d := by
  obtain ⟨fv, e, ho⟩ := h
  exact ⟨fv, e, ho.below hb⟩
theorem OwnVol.le {w : World} {base base' : Nat} {v : Value} {d : VolD} (h : OwnVol w base v d) (hb : base' ≤ base) : OwnVol w base' v d := by
  obtain ⟨fv, e, ho⟩ := h
  exact ⟨fv, e, ho.le hb⟩
/-- owned files read -/
theorem OwnFiles.at {w : World} {base : Nat} {v : Value} {fs : List FileD} (h : OwnFiles w base v fs) : ∃ a cap, v = .slice a fs.length cap ∧ FilesAt w a fs ∧ CapOk a cap fs.length := by
  obtain ⟨gs, rfl, ho, hg⟩ := h
  have hh := ho
  rw [List.length_map]
  rcases ho.2 with ⟨hv, hn⟩ | ⟨g, cap, cur, hv, hb, _, hnc, _⟩
  · exact ⟨none, 0, by rw [hv, hn], .inl (by rw [List.length_eq_zero_iff.1 hn]; rfl), by omega, (fun _ => rfl), (fun p e => by cases e)⟩
  · refine ⟨_, cap, hv, .inr ⟨g, 0, rfl, fun i hi => ?_⟩, hnc, (fun e => by cases e), (fun p e _ => by injection e with e; rw [← e])⟩
    rw [List.length_map] at hi
    have hgi : gs[i]? = some gs[i] := List.getElem?_eq_getElem hi
    obtain ⟨c0, c1, c2, c3, c4⟩ := fflat_get gs i _ hgi
    have hm := hg gs[i] (List.getElem_mem hi)
    obtain ⟨ab, cb, eb, hib, kib⟩ := hm.1.at
    obtain ⟨al, cl, el, hil, kil⟩ := hm.2.at
    have e : ∀ j, (⟨g, 0, none⟩ : Addr).add j = ⟨g, 0 + j, none⟩ := fun j => by unfold Addr.add; split <;> simp_all
    have hgd : (gs.map FV.d).getD i f0 = gs[i].d := by simp [List.getD, hi]
    rw [hgd]
    have K : ∀ j u, (fflat gs)[j]? = some u → w.cell? ⟨g, 0 + j, none⟩ = some u := fun j u hj => by
      have := hh.cells (g := g) (by rw [hv]; rfl) j u hj
      rwa [e] at this
    rw [eb] at c3
    rw [el] at c4
    exact ⟨ab, cb, al, cl, ⟨K _ _ c0, by have := K _ _ c1; rwa [← Nat.add_assoc] at this, by have := K _ _ c2; rwa [← Nat.add_assoc] at this, by have := K _ _ c3; rwa [← Nat.add_assoc] at this, by have := K _ _ c4; rwa [← Nat.add_assoc] at this⟩, ⟨hib, kib⟩, hil, kil⟩
theorem OwnVol.val {w : World} {base : Nat} {v : Value} {d : VolD} (h : OwnVol w base v d) : VolVal w v d := by
  obtain ⟨fv, e, ho⟩ := h
  obtain ⟨a, c, rfl, hf, hc⟩ := ho.at
  exact ⟨a, c, e, hf, hc⟩
theorem OwnFiles.snoc {w : World} {base : Nat} {v : Value} {gs : List FV} {g : FV} (hg : ∀ x ∈ gs, OwnFV w base x) (h1 : OwnFV w base g)
    (h : w.ownsRow base 84 5 v (gs.length + 1) (fflat gs ++ [.int .i64 g.d.id, .bool g.d.dir, .int .i64 g.d.size, g.bv, g.lv])) : OwnFiles w base v (gs.map FV.d ++ [g.d]) := by
  refine ⟨gs ++ [g], by simp, ?_, ?_⟩
  · rw [fflat_snoc, List.length_append]; exact h
  · intro x hx
    rcases List.mem_append.1 hx with hx | hx
    · exact hg x hx
    · simp at hx; subst hx; exact h1

theorem bcell {W w1 : World} (hb : Below W.heap.size W w1) : (∀ b o, b < W.heap.size → w1.cell? ⟨b, o, none⟩ = W.cell? ⟨b, o, none⟩) ∧ (∀ b o, b < W.heap.size → w1.frozen? ⟨b, o, none⟩ = W.frozen? ⟨b, o, none⟩) :=
  ⟨fun b o h => hb.cell (p := ⟨b, o, none⟩) h, fun b o h => hb.frozen (p := ⟨b, o, none⟩) h⟩
theorem rowset {w : World} {base : Nat} {e : TypeId} {size : Nat} {v : Value} {n : Nat} {xs : List Value} (h : w.ownsRow base e size v n xs) {g : Nat} (o : Nat) (hg : g < base) (u : Value) : (w.setCell ⟨g, o, none⟩ u).ownsRow base e size v n xs := by
  refine ⟨h.1, ?_⟩
  rcases h.2 with hn | ⟨r, cap, cur, hv, hb, hgg, rest⟩
  · exact .inl hn
  · refine .inr ⟨r, cap, cur, hv, hb, ?_, rest⟩
    rw [Below.heap_setCell _ _ _ _ (by show r ≠ g; omega)]
    exact hgg

theorem OwnFV.set {w : World} {base : Nat} {x : FV} (h : OwnFV w base x) {g : Nat} (o : Nat) (hg : g < base) (u : Value) : OwnFV (w.setCell ⟨g, o, none⟩ u) base x := ⟨rowset h.1 o hg u, rowset h.2 o hg u⟩

theorem size3 (w : World) (a b c : Obj) : (((w.alloc a).alloc b).alloc c).heap.size = w.heap.size + 3 := by simp
theorem three_0 (w : World) (a b c : Obj) : (((w.alloc a).alloc b).alloc c).heap[w.heap.size]? = some a := by
  rw [Lib.alloc_old _ _ _ (by simp; omega), Lib.alloc_old _ _ _ (by simp)]
  exact heap_alloc_new w a
theorem three_1 (w : World) (a b c : Obj) : (((w.alloc a).alloc b).alloc c).heap[w.heap.size + 1]? = some b := by
  rw [Lib.alloc_old _ _ _ (by simp)]
  have := heap_alloc_new (w.alloc a) b
  simpa using this
theorem three_2 (w : World) (a b c : Obj) : (((w.alloc a).alloc b).alloc c).heap[w.heap.size + 1 + 1]? = some c := by
  have := heap_alloc_new ((w.alloc a).alloc b) c
  simpa using this
theorem five {w : World} {g : Nat} {c0 c1 c2 c3 c4 : Value} {t : TypeId} (h : w.heap[g]? = some (.cells #[c0, c1, c2, c3, c4] t (0, 0))) :
    w.cell? ⟨g, 0, none⟩ = some c0 ∧ w.cell? ⟨g, 1, none⟩ = some c1 ∧ w.cell? ⟨g, 2, none⟩ = some c2 ∧ w.cell? ⟨g, 3, none⟩ = some c3 ∧ w.cell? ⟨g, 4, none⟩ = some c4 ∧ ∀ o, w.frozen? ⟨g, o, none⟩ = false :=
  ⟨by rw [Lib.cell_of_heap h]; rfl, by rw [Lib.cell_of_heap h]; rfl, by rw [Lib.cell_of_heap h]; rfl, by rw [Lib.cell_of_heap h]; rfl, by rw [Lib.cell_of_heap h]; rfl, fun o => Lib.frozen_of_heap h o⟩

set_option maxRecDepth 100000 in
set_option maxHeartbeats 1000000 in
theorem copyFile_any (v : Value) (f : FileD) (w : World) (hv : FileVal w v f) (hs : SmallF f) :
    Calls Try.prog 67 #[v] w fun e w' => (∃ u, e = .returned u ∧ OwnFile w' w.heap.size u f) ∧ Below w.heap.size w w' := by
  obtain ⟨ab, cb, al, cl, rfl, ⟨hib, _⟩, hil, _⟩ := hv
  have HB : Hid (IntsAt w ab f.blocks) := hib
  have HL : Hid (LinksAt w al f.list) := hil
  clear hib hil
  obtain ⟨id, dir, size, bl, li⟩ := f
  simp only [fcells] at *
  simp only [SmallF] at hs
  obtain ⟨hs1, hs2⟩ := hs
  go_enter Try.func67, Try.ntmps67
  go_wp2_with fail
  have hbW := nwA (nwA (nwA (nwR w) (.cells #[.int .i64 id, .bool dir, .int .i64 size, .slice ab bl.length cb, .slice al li.length cl] 84)) (.cells #[.int .i64 0, .bool false, .int .i64 0, .slice none 0 0, .slice none 0 0] 84)) (.cells #[.int .i64 id, .bool dir, .int .i64 size, .slice ab bl.length cb, .slice al li.length cl] 84)
  have HBW : Hid (Below w.heap.size w (((w.alloc (.cells #[.int .i64 id, .bool dir, .int .i64 size, .slice ab bl.length cb, .slice al li.length cl] 84)).alloc (.cells #[.int .i64 0, .bool false, .int .i64 0, .slice none 0 0, .slice none 0 0] 84)).alloc (.cells #[.int .i64 id, .bool dir, .int .i64 size, .slice ab bl.length cb, .slice al li.length cl] 84))) := hbW
  clear hbW
  refine (copyNums_any ab bl cb _ (HB.out.below HBW.out) hs1).mono ?_
  rintro e w1 ⟨⟨bv, rfl, hob⟩, hb1⟩
  have HG1 : Hid (w1.heap[w.heap.size + 1]? = some (.cells #[.int .i64 0, .bool false, .int .i64 0, .slice none 0 0, .slice none 0 0] 84 (0, 0))) := (hb1.block _ (by simp)).trans (three_1 w _ _ _)
  have HG2 : Hid (w1.heap[w.heap.size + 1 + 1]? = some (.cells #[.int .i64 id, .bool dir, .int .i64 size, .slice ab bl.length cb, .slice al li.length cl] 84 (0, 0))) := (hb1.block _ (by simp)).trans (three_2 w _ _ _)
  have hl0 : w1.cell? ⟨w.heap.size, 4, none⟩ = some (.slice al li.length cl) := (hb1.cell (p := ⟨w.heap.size, 4, none⟩) (by show w.heap.size < _; rw [size3]; omega)).trans (by rw [Lib.cell_of_heap (three_0 w _ _ _)]; rfl)
  have HO1 : Hid (OwnInts w1 (w.heap.size + 3) bv bl) := by have := hob; rw [size3] at this; exact this
  have HB1 : Hid (Below w.heap.size w w1) := nwT HBW.out hb1
  clear hob hb1 HBW
  obtain ⟨abv, cbv, rfl, _⟩ := HO1.out.at
  have HB2 : Hid (Below w.heap.size w (w1.setCell ⟨w.heap.size + 1 + 1, 3, none⟩ (.slice abv bl.length cbv))) := HB1.out.setCell (p := ⟨w.heap.size + 1 + 1, 3, none⟩) (by show w.heap.size ≤ w.heap.size + 1 + 1; omega) _
  have HO2 : Hid (OwnInts (w1.setCell ⟨w.heap.size + 1 + 1, 3, none⟩ (.slice abv bl.length cbv)) (w.heap.size + 3) (.slice abv bl.length cbv) bl) := rowset HO1.out 3 (by omega) _
  have HH1 : Hid ((w1.setCell ⟨w.heap.size + 1 + 1, 3, none⟩ (.slice abv bl.length cbv)).heap[w.heap.size + 1]? = some (.cells #[.int .i64 0, .bool false, .int .i64 0, .slice none 0 0, .slice none 0 0] 84 (0, 0))) := (Below.heap_setCell _ _ _ _ (by show w.heap.size + 1 ≠ w.heap.size + 1 + 1; omega)).trans HG1.out
  have HH2 : Hid ((w1.setCell ⟨w.heap.size + 1 + 1, 3, none⟩ (.slice abv bl.length cbv)).heap[w.heap.size + 1 + 1]? = some (.cells #[.int .i64 id, .bool dir, .int .i64 size, .slice abv bl.length cbv, .slice al li.length cl] 84 (0, 0))) := by
    rw [heap_setCell_same w1 _ 3 _ 84 _ HG2.out]; show _ = _; simp
  obtain ⟨p0, p1, p2, p3, p4, pf⟩ := five HG2.out
  clear HB1 HO1 HG1 HG2
  go_wp2_with fail
  refine (copyLinks_any al li cl _ (HL.out.below HB2.out) hs2).mono ?_
  rintro e w2 ⟨⟨lv, rfl, hol⟩, hb2⟩
  have HO3 : Hid (OwnInts w2 (w.heap.size + 3) (.slice abv bl.length cbv) bl) := own_below HO2.out hb2
  have l2 : w.heap.size + 1 + 1 < (w1.setCell ⟨w.heap.size + 1 + 1, 3, none⟩ (.slice abv bl.length cbv)).heap.size := (Array.getElem?_eq_some_iff.1 HH2.out).1
  have HL3 : Hid (OwnLinks w2 (w.heap.size + 3) lv li) := own_le hol l2
  have HB3 : Hid (Below w.heap.size w w2) := nwT HB2.out hb2
  obtain ⟨r0, r1, r2, r3, r4, rf⟩ := five ((hb2.block _ (by omega)).trans HH1.out)
  obtain ⟨q0, q1, q2, q3, q4, qf⟩ := five ((hb2.block _ l2).trans HH2.out)
  clear HB2 HO2 hol hb2 HH1 HH2 p0 p1 p2 p3 p4 pf hl0 l2
  obtain ⟨alv, clv, rfl, _⟩ := HL3.out.at
  go_wp2_with fail
  refine bodyPost_ret (v := .agg #[.int .i64 id, .bool dir, .int .i64 size, .slice abv bl.length cbv, .slice alv li.length clv]) (by simp [results, Try.results67, go_sem, r0, r1, r2, r3, r4]) rfl ⟨⟨_, rfl, _, _, rfl, ?_⟩, ?_⟩
  · have k1 : OwnFV w2 (w.heap.size + 3) ⟨⟨id, dir, size, bl, li⟩, .slice abv bl.length cbv, .slice alv li.length clv⟩ := ⟨HO3.out, HL3.out⟩
    exact ((((((k1.set 4 (g := w.heap.size + 1 + 1) (by omega) _).set 0 (g := w.heap.size + 1) (by omega) _).set 1 (by omega) _).set 2 (by omega) _).set 3 (by omega) _).set 4 (by omega) _).le (by omega)
  · exact (((((HB3.out.setCell (p := ⟨w.heap.size + 1 + 1, 4, none⟩) (by show w.heap.size ≤ w.heap.size + 1 + 1; omega) _).setCell (p := ⟨w.heap.size + 1, 0, none⟩) (Nat.le_succ _) _).setCell (p := ⟨w.heap.size + 1, 1, none⟩) (Nat.le_succ _) _).setCell (p := ⟨w.heap.size + 1, 2, none⟩) (Nat.le_succ _) _).setCell (p := ⟨w.heap.size + 1, 3, none⟩) (Nat.le_succ _) _).setCell (p := ⟨w.heap.size + 1, 4, none⟩) (Nat.le_succ _) _

end Go.Proofs.Ytodahdnnlkcfdaa

/- Rows of files copied; volumes copied. -/
namespace Go.Proofs.Ytodahdnnlkcfdaa
open Go.RowKit

theorem ownBlock_ne {w : World} {B : Nat} {e T : TypeId} {s : Nat} {v : Value} {n : Nat} {xs : List Value} {b : Nat} {cs : Array Value} {fr : Nat × Nat} (hown : w.ownsRow B e s v n xs) (hb : w.heap[b]? = some (.cells cs T fr)) (hTe : T ≠ e) : v.ownBlock ≠ some b := by
  rcases hown.2 with ⟨rfl, _⟩ | ⟨g, cap, cur, rfl, _, hg, _⟩
  · simp [Value.ownBlock]
  · intro h
    simp only [Value.ownBlock, Option.some.injEq] at h
    subst h
    rw [hg] at hb
    simp only [Option.some.injEq, Obj.cells.injEq] at hb
    exact hTe hb.2.1.symm
theorem own_tag {w : World} {B : Nat} {e : TypeId} {s : Nat} {v : Value} {n : Nat} {xs : List Value} (h : w.ownsRow B e s v n xs) : ∀ k, v.ownBlock = some k → ∃ cs, w.heap[k]? = some (.cells cs e (0, 0)) := by
  intro k hk
  rcases h.2 with ⟨rfl, _⟩ | ⟨g, cap, cur, rfl, _, hg, _⟩
  · simp [Value.ownBlock] at hk
  · simp only [Value.ownBlock, Option.some.injEq] at hk
    subst hk
    exact ⟨cur, hg⟩
/-- a row of one type is kept where a row of another type grows -/
theorem own_other {w w' : World} {B B' : Nat} {e T : TypeId} {s s' : Nat} {v u : Value} {n m : Nat} {xs ys : List Value} (h : w.ownsRow B e s v n xs) (hu : w.ownsRow B' T s' u m ys) (hT : T ≠ e) (hg : w.grownBy w' u.ownBlock) : w'.ownsRow B e s v n xs := by
  refine h.kept hg ?_
  cases hv : u.ownBlock with
  | none =>
    cases hvv : v.ownBlock with
    | none => exact .inl rfl
    | some k => exact .inr (by simp)
  | some k =>
    obtain ⟨cs, hk⟩ := own_tag hu k hv
    exact .inr (ownBlock_ne h hk hT)
theorem OwnFV.grown {w w' : World} {base B' : Nat} {g : FV} {u : Value} {m : Nat} {ys : List Value} (h : OwnFV w base g) (hu : w.ownsRow B' 84 5 u m ys) (hg : w.grownBy w' u.ownBlock) : OwnFV w' base g :=
  ⟨own_other h.1 hu (by decide) hg, own_other h.2 hu (by decide) hg⟩

theorem cells5 (w : World) (c0 c1 c2 c3 c4 : Value) (t : TypeId) : ∀ j u, [c0, c1, c2, c3, c4][j]? = some u → (w.alloc (.cells #[c0, c1, c2, c3, c4] t)).cell? ((⟨w.heap.size, 0, none⟩ : Addr).add j) = some u := cells_new w [c0, c1, c2, c3, c4] t

set_option maxRecDepth 100000 in
set_option maxHeartbeats 1000000 in
theorem copyFiles_any (a : Option Addr) (fs : List FileD) (ca : Nat) (w : World) (hx : FilesAt w a fs) (hl : fs.length ≤ 100000) (hs : ∀ f ∈ fs, SmallF f) :
    Calls Try.prog 50 #[.slice a fs.length ca] w fun e w' => (∃ v, e = .returned v ∧ OwnFiles w' w.heap.size v fs) ∧ Below w.heap.size w w' := by
  have HX : Hid (FilesAt w a fs) := hx
  have HS : Hid (∀ f ∈ fs, SmallF f) := hs
  clear hx hs
  obtain ⟨i0, hi, hz0, hz1, hz2⟩ := info_parts Try.info84
  go_enter Try.func50, Try.ntmps50
  go_wp2_with fail
  go_loopw [3, 4] (fun v i wr => ∃ (k : Nat), k ≤ fs.length ∧ i = .int .i64 k ∧ OwnFiles wr w.heap.size v (fs.take k) ∧ Below w.heap.size w wr)
    (fun _ i _ => fs.length - (intOf i).toNat)
  case atStart => exact ⟨0, by omega, rfl, ⟨[], rfl, World.ownsRow_nil _ _ _ _, by simp⟩, nwR w⟩
  case round =>
    obtain ⟨k, hk, rfl, hO, hb⟩ := hrel
    have HO : Hid (OwnFiles wr w.heap.size u3 (fs.take k)) := hO
    clear hO
    by_cases hkl : k < fs.length
    · have hkli : (k : Int) < (fs.length : Int) := by omega
      obtain ⟨b1, o1, rfl, hf⟩ := HX.out.file hkl
      have HSM : Hid (SmallF (fs.getD k f0)) := HS.out _ (by simp [List.getD, hkl])
      have HT : Hid (fs.take (k + 1) = fs.take k ++ [fs.getD k f0]) := by
        show _ = _
        rw [List.take_succ_eq_append_getElem hkl]; simp [List.getD, hkl]
      have hlt : (fs.take k).length ≤ 100000 := by rw [List.length_take]; omega
      obtain ⟨ab, cb, al, cl, ⟨h0, h1, h2, h3, h4⟩, hib, hil⟩ := hf.below hb
      generalize fs.getD k f0 = f at HSM HT h0 h1 h2 h3 h4 hib hil
      have HV : Hid (FileVal wr (.agg #[.int .i64 f.id, .bool f.dir, .int .i64 f.size, .slice ab f.blocks.length cb, .slice al f.list.length cl]) f) := ⟨ab, cb, al, cl, rfl, hib, hil⟩
      clear hf hib hil
      go_wp2_with fail
      refine (copyFile_any _ f _ HV.out HSM.out).mono ?_
      rintro e w2 ⟨⟨u, rfl, bv, lv, rfl, hfv⟩, hb2⟩
      have hbq := nwT hb hb2
      have HFV : Hid (OwnFV w2 w.heap.size ⟨f, bv, lv⟩) := hfv.le hb.size
      have HO2 : Hid (OwnFiles w2 w.heap.size u3 (fs.take k)) := HO.out.below hb2
      clear hfv hb2 HO h0 h1 h2 h3 h4 HV
      obtain ⟨gs, hgs, hown, hall⟩ := HO2.out
      have HOW : Hid (w2.ownsRow w.heap.size 84 5 u3 gs.length (fflat gs)) := hown
      have HALL : Hid (∀ g ∈ gs, OwnFV w2 w.heap.size g) := hall
      have HGS : Hid (gs.map FV.d = fs.take k) := hgs
      have hgl : gs.length ≤ 100000 := by have := congrArg List.length hgs; rw [List.length_map] at this; omega
      obtain ⟨abv, cbv, eb, _⟩ := HFV.out.1.at
      obtain ⟨alv, clv, el, _⟩ := HFV.out.2.at
      simp only at eb el
      subst eb; subst el
      clear hown hall hgs HO2
      have hsz : w.heap.size ≤ (w2.alloc (.cells #[.int .i64 f.id, .bool f.dir, .int .i64 f.size, .slice abv f.blocks.length cbv, .slice alv f.list.length clv] 84)).heap.size := (nwA hbq _).size
      have hc3 : gs.length + 1 ≤ maxLen := by unfold maxLen; omega
      have hc4 : (gs.length + 1) * 72 ≤ 140737488355328 := by omega
      go_wp2_with (at_builtin; refine wpList_append_own _ rfl (.tmp 11) (.tmp 17) 30 rfl w.heap.size 84 i0 (.agg #[.int .i64 0, .bool false, .int .i64 0, .slice none 0 0, .slice none 0 0]) 5 72 Try.underlying30 hi hz0 hz1 hz2 rfl (by decide) u3 gs.length (fflat gs) rfl (World.ownsRow.alloc HOW.out _) ⟨w2.heap.size, 0, none⟩ 1 1 [.int .i64 f.id, .bool f.dir, .int .i64 f.size, .slice abv f.blocks.length cbv, .slice alv f.list.length clv] rfl rfl (cells5 _ _ _ _ _ _ _) (by simp [Value.oneCell']) hc3 hc4 hsz ?_; intro v' w3 hown hgrow _; refine unstop ?_)
      unfold Stop
      have HB3 : Hid (Below w.heap.size w w3) := (nwA hbq _).grown hgrow (nwA hbq _).size (fun q e => (HOW.out.lt q e).1)
      have HO3 : Hid (OwnFiles w3 w.heap.size v' (fs.take (k + 1))) := by
        rw [HT.out, ← HGS.out]
        have hrow := World.ownsRow.alloc HOW.out (.cells #[.int .i64 f.id, .bool f.dir, .int .i64 f.size, .slice abv f.blocks.length cbv, .slice alv f.list.length clv] 84)
        exact OwnFiles.snoc (g := ⟨f, .slice abv f.blocks.length cbv, .slice alv f.list.length clv⟩) (fun x hx => ((HALL.out x hx).below (nwA (nwR _) _)).grown hrow hgrow) ((HFV.out.below (nwA (nwR _) _)).grown hrow hgrow) hown
      clear hown hgrow
      go_wp2_with fail
      go_roundw
      case rel => exact ⟨k + 1, by omega, by go_num, HO3.out, HB3.out⟩
      case measure => simp [intOf]; omega
    · have hkli : ¬ (k : Int) < (fs.length : Int) := by omega
      have HOE : Hid (OwnFiles wr w.heap.size u3 fs) := by have := HO.out; rw [List.take_of_length_le (by omega)] at this; exact this
      clear HO
      have h := HOE.out
      obtain ⟨av, cv, rfl, _⟩ := h.at
      go_wp2_with fail
      go_ret
      exact ⟨⟨_, rfl, HOE.out⟩, hb⟩

theorem OwnFiles.set {w : World} {base : Nat} {v : Value} {fs : List FileD} (h : OwnFiles w base v fs) {g : Nat} (o : Nat) (hg : g < base) (u : Value) : OwnFiles (w.setCell ⟨g, o, none⟩ u) base v fs := by
  obtain ⟨gs, e, ho, ha⟩ := h
  exact ⟨gs, e, rowset ho o hg u, fun x hx => (ha x hx).set o hg u⟩

set_option maxRecDepth 100000 in
set_option maxHeartbeats 1000000 in
theorem copyVol_any (v : Value) (d : VolD) (w : World) (hv : VolVal w v d) (hs : SmallV d) :
    Calls Try.prog 26 #[v] w fun e w' => (∃ u, e = .returned u ∧ OwnVol w' w.heap.size u d) ∧ Below w.heap.size w w' := by
  obtain ⟨a, ca, rfl, hfs, _⟩ := hv
  have HF : Hid (FilesAt w a d.files) := hfs
  clear hfs
  obtain ⟨id, fr, snap, fs, next⟩ := d
  simp only at *
  simp only [SmallV] at hs
  obtain ⟨hs1, hs2⟩ := hs
  have HS : Hid (∀ f ∈ fs, SmallF f) := hs2
  clear hs2
  go_enter Try.func26, Try.ntmps26
  go_wp2_with fail
  have HBW : Hid (Below w.heap.size w (((w.alloc (.cells #[.int .i64 id, .int .i64 fr, .bool snap, .slice a fs.length ca, .int .i64 next] 32)).alloc (.cells #[.int .i64 0, .int .i64 0, .bool false, .slice none 0 0, .int .i64 0] 32)).alloc (.cells #[.int .i64 id, .int .i64 fr, .bool snap, .slice a fs.length ca, .int .i64 next] 32))) := nwA (nwA (nwA (nwR w) _) _) _
  refine (copyFiles_any a fs ca _ (HF.out.below HBW.out) hs1 HS.out).mono ?_
  rintro e w1 ⟨⟨fv, rfl, hob⟩, hb1⟩
  have HO1 : Hid (OwnFiles w1 (w.heap.size + 3) fv fs) := by have := hob; rw [size3] at this; exact this
  have HB1 : Hid (Below w.heap.size w w1) := nwT HBW.out hb1
  obtain ⟨r0, r1, r2, r3, r4, rf⟩ := five ((hb1.block _ (by simp)).trans (three_1 w _ _ _))
  obtain ⟨q0, q1, q2, q3, q4, qf⟩ := five ((hb1.block _ (by simp)).trans (three_2 w _ _ _))
  clear hob hb1 HBW
  obtain ⟨av, cv, rfl, _⟩ := HO1.out.at
  go_wp2_with fail
  refine bodyPost_ret (v := .agg #[.int .i64 id, .int .i64 fr, .bool snap, .slice av fs.length cv, .int .i64 next]) (by simp [results, Try.results26, go_sem, r0, r1, r2, r3, r4]) rfl ⟨⟨_, rfl, _, rfl, ?_⟩, ?_⟩
  · exact ((((((HO1.out.set 3 (g := w.heap.size + 1 + 1) (by omega) _).set 0 (g := w.heap.size + 1) (by omega) _).set 1 (by omega) _).set 2 (by omega) _).set 3 (by omega) _).set 4 (by omega) _).le (by omega)
  · exact (((((HB1.out.setCell (p := ⟨w.heap.size + 1 + 1, 3, none⟩) (by show w.heap.size ≤ w.heap.size + 1 + 1; omega) _).setCell (p := ⟨w.heap.size + 1, 0, none⟩) (Nat.le_succ _) _).setCell (p := ⟨w.heap.size + 1, 1, none⟩) (Nat.le_succ _) _).setCell (p := ⟨w.heap.size + 1, 2, none⟩) (Nat.le_succ _) _).setCell (p := ⟨w.heap.size + 1, 3, none⟩) (Nat.le_succ _) _).setCell (p := ⟨w.heap.size + 1, 4, none⟩) (Nat.le_succ _) _

end Go.Proofs.Ytodahdnnlkcfdaa

/- Volumes held against each other, by the page's own helpers. -/
namespace Go.Proofs.Ytodahdnnlkcfdaa
open Go.RowKit

theorem ext_getD' {α : Type} (z : α) {xs ys : List α} (hl : xs.length = ys.length) (h : ∀ i, i < xs.length → xs.getD i z = ys.getD i z) : xs = ys := by
  apply List.ext_getElem hl
  intro i h1 h2
  have := h i h1
  simpa [List.getD, h1, h2] using this

set_option maxRecDepth 100000 in
set_option maxHeartbeats 1000000 in
theorem eqNums_any (a b : Option Addr) (xs ys : List Int) (ca cb : Nat) (w : World) (hx : IntsAt w a xs) (hy : IntsAt w b ys) (hl : xs.length ≤ maxLen) :
    Calls Try.prog 65 #[.slice a xs.length ca, .slice b ys.length cb] w fun e w' => e = .returned (.bool (decide (xs = ys))) ∧ ∃ q, w' = w.drewN q := by
  unfold maxLen at hl
  have HX : Hid (IntsAt w a xs) := hx
  have HY : Hid (IntsAt w b ys) := hy
  clear hx hy
  by_cases hlen : xs.length = ys.length
  · have hlen' : ((xs.length : Int) != (ys.length : Int)) = false := by simp [hlen]
    have HL : Hid (xs.length = ys.length) := hlen
    clear hlen
    go_enter Try.func65, Try.ntmps65
    go_wp2_with fail
    go_loopw [5] (fun i wr => ∃ (k q : Nat), k ≤ xs.length ∧ i = .int .i64 k ∧ wr = w.drewN q ∧ Hid (∀ j, j < k → xs.getD j 0 = ys.getD j 0))
      (fun i _ => xs.length - (intOf i).toNat)
    case atStart => exact ⟨0, 0, by omega, rfl, rfl, fun j hj => by omega⟩
    case round =>
      obtain ⟨k, q, hk, rfl, rfl, HE⟩ := hrel
      by_cases hlt : k < xs.length
      · have hlty : k < ys.length := by have := HL.out; omega
        obtain ⟨b1, o1, rfl, x1⟩ := HX.out.cell hlt
        obtain ⟨b2, o2, rfl, y1⟩ := HY.out.cell hlty
        by_cases he : xs.getD k 0 = ys.getD k 0
        · have HEE : Hid (xs.getD k 0 = ys.getD k 0) := he
          rw [← he] at y1
          generalize xs.getD k 0 = s at x1 y1
          clear he
          go_wp2_with fail
          go_quiet (fail)
          go_wp2_with fail
          go_roundw
          case rel => exact ⟨k + 1, _, by omega, by go_num, rfl, fun j hj => by
            by_cases e : j = k
            · subst e; exact HEE.out
            · exact HE.out j (by omega)⟩
          case measure => simp [intOf]; omega
        · have HF : Hid (decide (xs = ys) = false) := decide_eq_false (fun e => he (by rw [e]))
          generalize xs.getD k 0 = s at x1 he
          generalize ys.getD k 0 = t at y1 he
          have he2 : (s == t) = false := beq_eq_false_iff_ne.2 he
          clear he
          go_wp2_with fail
          go_quiet (fail)
          go_wp2_with fail
          go_ret
          exact ⟨by rw [HF.out]; rfl, drewN_drewN _ _ _⟩
      · have HF : Hid (decide (xs = ys) = true) := decide_eq_true (ext_getD' 0 HL.out (fun i hi => HE.out i (by omega)))
        go_wp2_with fail
        go_ret
        exact ⟨by rw [HF.out]; rfl, _, rfl⟩
  · have hlen' : ((xs.length : Int) != (ys.length : Int)) = true := by rw [bne_iff_ne]; omega
    have HF : Hid (decide (xs = ys) = false) := decide_eq_false (fun e => hlen (by rw [e]))
    clear hlen
    go_enter Try.func65, Try.ntmps65
    go_wp2_with fail
    go_ret
    exact ⟨by rw [HF.out]; rfl, 0, rfl⟩

set_option maxRecDepth 100000 in
set_option maxHeartbeats 1000000 in
theorem eqLinks_any (a b : Option Addr) (xs ys : List LinkD) (ca cb : Nat) (w : World) (hx : LinksAt w a xs) (hy : LinksAt w b ys) (hl : xs.length ≤ maxLen) :
    Calls Try.prog 66 #[.slice a xs.length ca, .slice b ys.length cb] w fun e w' => e = .returned (.bool (decide (xs = ys))) ∧ ∃ q, w' = w.drewN q := by
  unfold maxLen at hl
  have HX : Hid (LinksAt w a xs) := hx
  have HY : Hid (LinksAt w b ys) := hy
  clear hx hy
  by_cases hlen : xs.length = ys.length
  · have hlen' : ((xs.length : Int) != (ys.length : Int)) = false := by simp [hlen]
    have HL : Hid (xs.length = ys.length) := hlen
    clear hlen
    go_enter Try.func66, Try.ntmps66
    go_wp2_with fail
    go_loopw [5] (fun i wr => ∃ (k q : Nat), k ≤ xs.length ∧ i = .int .i64 k ∧ wr = w.drewN q ∧ Hid (∀ j, j < k → xs.getD j lk0 = ys.getD j lk0))
      (fun i _ => xs.length - (intOf i).toNat)
    case atStart => exact ⟨0, 0, by omega, rfl, rfl, fun j hj => by omega⟩
    case round =>
      obtain ⟨k, q, hk, rfl, rfl, HE⟩ := hrel
      by_cases hlt : k < xs.length
      · have hlty : k < ys.length := by have := HL.out; omega
        obtain ⟨b1, o1, rfl, x1, x2⟩ := HX.out.cell hlt
        obtain ⟨b2, o2, rfl, y1, y2⟩ := HY.out.cell hlty
        by_cases he : xs.getD k lk0 = ys.getD k lk0
        · have HEE : Hid (xs.getD k lk0 = ys.getD k lk0) := he
          rw [← he] at y1 y2
          generalize xs.getD k lk0 = s at x1 y1 x2 y2
          obtain ⟨s1, s2⟩ := s
          clear he
          go_wp2_with fail
          go_quiet (fail)
          go_wp2_with fail
          go_roundw
          case rel => exact ⟨k + 1, _, by omega, by go_num, rfl, fun j hj => by
            by_cases e : j = k
            · subst e; exact HEE.out
            · exact HE.out j (by omega)⟩
          case measure => simp [intOf]; omega
        · have HF : Hid (decide (xs = ys) = false) := decide_eq_false (fun e => he (by rw [e]))
          generalize xs.getD k lk0 = s at x1 x2 he
          generalize ys.getD k lk0 = t at y1 y2 he
          obtain ⟨s1, s2⟩ := s
          obtain ⟨t1, t2⟩ := t
          by_cases h1 : s1 = t1
          · subst h1
            have he2 : (s2 == t2) = false := beq_eq_false_iff_ne.2 (fun e => he (by rw [e]))
            clear he
            go_wp2_with fail
            go_quiet (fail)
            go_wp2_with fail
            go_ret
            exact ⟨by rw [HF.out]; rfl, drewN_drewN _ _ _⟩
          · have he2 : (s1.toList == t1.toList) = false := by
              rw [beq_eq_false_iff_ne, Lib.toList_data, Lib.toList_data]; intro e; exact h1 (ls_inj e)
            clear he h1
            go_wp2_with fail
            go_quiet (fail)
            go_wp2_with fail
            go_ret
            exact ⟨by rw [HF.out]; rfl, drewN_drewN _ _ _⟩
      · have HF : Hid (decide (xs = ys) = true) := decide_eq_true (ext_getD' lk0 HL.out (fun i hi => HE.out i (by omega)))
        go_wp2_with fail
        go_ret
        exact ⟨by rw [HF.out]; rfl, _, rfl⟩
  · have hlen' : ((xs.length : Int) != (ys.length : Int)) = true := by rw [bne_iff_ne]; omega
    have HF : Hid (decide (xs = ys) = false) := decide_eq_false (fun e => hlen (by rw [e]))
    clear hlen
    go_enter Try.func66, Try.ntmps66
    go_wp2_with fail
    go_ret
    exact ⟨by rw [HF.out]; rfl, 0, rfl⟩

end Go.Proofs.Ytodahdnnlkcfdaa

/- Files and volumes held against each other. -/
namespace Go.Proofs.Ytodahdnnlkcfdaa
open Go.RowKit

set_option maxRecDepth 100000 in
set_option maxHeartbeats 1000000 in
theorem eqFile_any (u v : Value) (f g : FileD) (w : World) (hf : FileVal w u f) (hg : FileVal w v g) (hs : SmallF f) :
    Calls Try.prog 47 #[u, v] w fun e w' => e = .returned (.bool (decide (f = g))) ∧ Below w.heap.size w w' := by
  obtain ⟨ab, cb, al, cl, rfl, ⟨hib, _⟩, hil, _⟩ := hf
  obtain ⟨ab2, cb2, al2, cl2, rfl, ⟨hib2, _⟩, hil2, _⟩ := hg
  have HB : Hid (IntsAt w ab f.blocks) := hib
  have HL : Hid (LinksAt w al f.list) := hil
  have HB2 : Hid (IntsAt w ab2 g.blocks) := hib2
  have HL2 : Hid (LinksAt w al2 g.list) := hil2
  clear hib hil hib2 hil2
  obtain ⟨id, dir, size, bl, li⟩ := f
  obtain ⟨id2, dir2, size2, bl2, li2⟩ := g
  simp only [fcells] at *
  simp only [SmallF] at hs
  obtain ⟨hs1, hs2⟩ := hs
  have HBW : Hid (∀ o1 o2, Below w.heap.size w ((w.alloc o1).alloc o2)) := fun o1 o2 => nwA (nwA (nwR w) _) _
  by_cases h1 : id = id2
  · subst h1
    by_cases h2 : dir = dir2
    · subst h2
      by_cases h3 : size = size2
      · subst h3
        have HD : Hid (decide ((⟨id, dir, size, bl, li⟩ : FileD) = ⟨id, dir, size, bl2, li2⟩) = (decide (bl = bl2) && decide (li = li2))) := by
          show _ = _; rw [Bool.eq_iff_iff]; simp
        go_enter Try.func47, Try.ntmps47
        go_wp2_with fail
        refine (eqNums_any ab ab2 bl bl2 cb cb2 _ (HB.out.below (HBW.out _ _)) (HB2.out.below (HBW.out _ _)) (by unfold maxLen; omega)).mono ?_
        rintro e w1 ⟨rfl, q, rfl⟩
        generalize decide (bl = bl2) = t at HD
        cases t
        · go_wp2_with fail
          go_ret
          exact ⟨by rw [HD.out]; rfl, below_drewN (HBW.out _ _) _⟩
        · go_wp2_with fail
          refine (eqLinks_any al al2 li li2 cl cl2 _ ((HL.out.below (HBW.out _ _)).drewN _) ((HL2.out.below (HBW.out _ _)).drewN _) (by unfold maxLen; omega)).mono ?_
          rintro e w2 ⟨rfl, q2, rfl⟩
          generalize decide (li = li2) = t2 at HD
          go_wp2_with fail
          go_ret
          exact ⟨by rw [HD.out]; rfl, below_drewN (HBW.out _ _) _⟩
      · have HF : Hid (decide ((⟨id, dir, size, bl, li⟩ : FileD) = ⟨id, dir, size2, bl2, li2⟩) = false) := decide_eq_false (fun e => by injection e with e1 e2 e3; exact h3 e3)
        have hb3 : (size == size2) = false := beq_eq_false_iff_ne.2 h3
        go_enter Try.func47, Try.ntmps47
        go_wp2_with fail
        go_ret
        exact ⟨by rw [HF.out]; rfl, HBW.out _ _⟩
    · have HF : Hid (decide ((⟨id, dir, size, bl, li⟩ : FileD) = ⟨id, dir2, size2, bl2, li2⟩) = false) := decide_eq_false (fun e => by injection e with e1 e2 e3; exact h2 e2)
      have hb3 : (dir == dir2) = false := beq_eq_false_iff_ne.2 h2
      go_enter Try.func47, Try.ntmps47
      go_wp2_with fail
      go_ret
      exact ⟨by rw [HF.out]; rfl, HBW.out _ _⟩
  · have HF : Hid (decide ((⟨id, dir, size, bl, li⟩ : FileD) = ⟨id2, dir2, size2, bl2, li2⟩) = false) := decide_eq_false (fun e => by injection e with e1 e2 e3; exact h1 e1)
    have hb3 : (id == id2) = false := beq_eq_false_iff_ne.2 h1
    go_enter Try.func47, Try.ntmps47
    go_wp2_with fail
    go_ret
    exact ⟨by rw [HF.out]; rfl, HBW.out _ _⟩

theorem FileIn.val {w : World} {b o : Nat} {f : FileD} (h : FileIn w b o f) : ∃ ab cb al cl, (w.cell? ⟨b, o, none⟩ = some (.int .i64 f.id) ∧ w.cell? ⟨b, o + 1, none⟩ = some (.bool f.dir) ∧ w.cell? ⟨b, o + 2, none⟩ = some (.int .i64 f.size) ∧ w.cell? ⟨b, o + 3, none⟩ = some (.slice ab f.blocks.length cb) ∧ w.cell? ⟨b, o + 4, none⟩ = some (.slice al f.list.length cl)) ∧ FileVal w (.agg #[.int .i64 f.id, .bool f.dir, .int .i64 f.size, .slice ab f.blocks.length cb, .slice al f.list.length cl]) f := by
  obtain ⟨ab, cb, al, cl, hc, hi, hl⟩ := h
  exact ⟨ab, cb, al, cl, hc, ab, cb, al, cl, rfl, hi, hl⟩

set_option maxRecDepth 100000 in
set_option maxHeartbeats 2000000 in
theorem eqFiles_any (a b : Option Addr) (xs ys : List FileD) (ca cb : Nat) (w : World) (hx : FilesAt w a xs) (hy : FilesAt w b ys) (hl : xs.length ≤ 100000) (hs : ∀ f ∈ xs, SmallF f) :
    Calls Try.prog 18 #[.slice a xs.length ca, .slice b ys.length cb] w fun e w' => e = .returned (.bool (decide (xs = ys))) ∧ Below w.heap.size w w' := by
  have HX : Hid (FilesAt w a xs) := hx
  have HY : Hid (FilesAt w b ys) := hy
  have HS : Hid (∀ f ∈ xs, SmallF f) := hs
  clear hx hy hs
  by_cases hlen : xs.length = ys.length
  · have hlen' : ((xs.length : Int) != (ys.length : Int)) = false := by simp [hlen]
    have HL : Hid (xs.length = ys.length) := hlen
    clear hlen
    go_enter Try.func18, Try.ntmps18
    go_wp2_with fail
    go_loopw [5] (fun i wr => ∃ (k : Nat), k ≤ xs.length ∧ i = .int .i64 k ∧ Below w.heap.size w wr ∧ Hid (∀ j, j < k → xs.getD j f0 = ys.getD j f0))
      (fun i _ => xs.length - (intOf i).toNat)
    case atStart => exact ⟨0, by omega, rfl, nwR w, fun j hj => by omega⟩
    case round =>
      obtain ⟨k, hk, rfl, hb, HE⟩ := hrel
      by_cases hlt : k < xs.length
      · have hlty : k < ys.length := by have := HL.out; omega
        obtain ⟨b1, o1, rfl, x1⟩ := HX.out.file hlt
        obtain ⟨b2, o2, rfl, y1⟩ := HY.out.file hlty
        have HSM : Hid (SmallF (xs.getD k f0)) := HS.out _ (by simp [List.getD, hlt])
        obtain ⟨ab, cb', al, cl, ⟨c0, c1, c2, c3, c4⟩, hv1⟩ := (x1.below hb).val
        obtain ⟨ab2, cb2, al2, cl2, ⟨d0, d1, d2, d3, d4⟩, hv2⟩ := (y1.below hb).val
        generalize hxf : xs.getD k f0 = f at HSM c0 c1 c2 c3 c4 hv1
        generalize hyg : ys.getD k f0 = g at d0 d1 d2 d3 d4 hv2
        have HXF : Hid (xs.getD k f0 = f) := hxf
        have HYG : Hid (ys.getD k f0 = g) := hyg
        clear hxf hyg x1 y1
        have HV1 : Hid (FileVal wr (.agg #[.int .i64 f.id, .bool f.dir, .int .i64 f.size, .slice ab f.blocks.length cb', .slice al f.list.length cl]) f) := hv1
        have HV2 : Hid (FileVal wr (.agg #[.int .i64 g.id, .bool g.dir, .int .i64 g.size, .slice ab2 g.blocks.length cb2, .slice al2 g.list.length cl2]) g) := hv2
        have kc0 : ∀ w', Below wr.heap.size wr w' → w'.cell? ⟨b1, o1 + k * 5, none⟩ = some (.int .i64 f.id) := fun w' h => (h.cell (p := ⟨b1, o1 + k * 5, none⟩) (block_lt_of_cell c0)).trans c0
        have kc1 : ∀ w', Below wr.heap.size wr w' → w'.cell? ⟨b1, o1 + k * 5 + 1, none⟩ = some (.bool f.dir) := fun w' h => (h.cell (p := ⟨b1, o1 + k * 5 + 1, none⟩) (block_lt_of_cell c1)).trans c1
        have kc2 : ∀ w', Below wr.heap.size wr w' → w'.cell? ⟨b1, o1 + k * 5 + 2, none⟩ = some (.int .i64 f.size) := fun w' h => (h.cell (p := ⟨b1, o1 + k * 5 + 2, none⟩) (block_lt_of_cell c2)).trans c2
        have kc3 : ∀ w', Below wr.heap.size wr w' → w'.cell? ⟨b1, o1 + k * 5 + 3, none⟩ = some (.slice ab f.blocks.length cb') := fun w' h => (h.cell (p := ⟨b1, o1 + k * 5 + 3, none⟩) (block_lt_of_cell c3)).trans c3
        have kc4 : ∀ w', Below wr.heap.size wr w' → w'.cell? ⟨b1, o1 + k * 5 + 4, none⟩ = some (.slice al f.list.length cl) := fun w' h => (h.cell (p := ⟨b1, o1 + k * 5 + 4, none⟩) (block_lt_of_cell c4)).trans c4
        have kd0 : ∀ w', Below wr.heap.size wr w' → w'.cell? ⟨b2, o2 + k * 5, none⟩ = some (.int .i64 g.id) := fun w' h => (h.cell (p := ⟨b2, o2 + k * 5, none⟩) (block_lt_of_cell d0)).trans d0
        have kd1 : ∀ w', Below wr.heap.size wr w' → w'.cell? ⟨b2, o2 + k * 5 + 1, none⟩ = some (.bool g.dir) := fun w' h => (h.cell (p := ⟨b2, o2 + k * 5 + 1, none⟩) (block_lt_of_cell d1)).trans d1
        have kd2 : ∀ w', Below wr.heap.size wr w' → w'.cell? ⟨b2, o2 + k * 5 + 2, none⟩ = some (.int .i64 g.size) := fun w' h => (h.cell (p := ⟨b2, o2 + k * 5 + 2, none⟩) (block_lt_of_cell d2)).trans d2
        have kd3 : ∀ w', Below wr.heap.size wr w' → w'.cell? ⟨b2, o2 + k * 5 + 3, none⟩ = some (.slice ab2 g.blocks.length cb2) := fun w' h => (h.cell (p := ⟨b2, o2 + k * 5 + 3, none⟩) (block_lt_of_cell d3)).trans d3
        have kd4 : ∀ w', Below wr.heap.size wr w' → w'.cell? ⟨b2, o2 + k * 5 + 4, none⟩ = some (.slice al2 g.list.length cl2) := fun w' h => (h.cell (p := ⟨b2, o2 + k * 5 + 4, none⟩) (block_lt_of_cell d4)).trans d4
        have hS := nwR wr
        have hk1 : (k : Int) < (xs.length : Int) := by omega
        have hk2 : (k : Int) < (ys.length : Int) := by omega
        have hk0 : (0 : Int) ≤ (k : Int) := by omega
        clear c0 c1 c2 c3 c4 d0 d1 d2 d3 d4 hv1 hv2
        go_wp2_with fail
        go_region_held3 (fun w' => Below wr.heap.size wr w') (first | assumption | exact Below.drew (by assumption) | exact nwT (by assumption) (by assumption)) (first
          | (go_at_call 47; refine (eqFile_any _ _ f g _ (HV1.out.below (by assumption)) (HV2.out.below (by assumption)) HSM.out).mono ?_; rintro e wT ⟨rfl, hbT⟩))
        all_goals
          have hbt : Below wr.heap.size wr wT := by assumption
          have hbq := nwT hb hbt
          clear kc0 kc1 kc2 kc3 kc4 kd0 kd1 kd2 kd3 kd4
        by_cases he : f = g
        · rw [decide_eq_true he]
          go_wp2_with fail
          go_roundw
          case rel => exact ⟨k + 1, by omega, by go_num, hbq, fun j hj => by
            by_cases e : j = k
            · subst e; rw [HXF.out, HYG.out, he]
            · exact HE.out j (by omega)⟩
          case measure => simp [intOf]; omega
        · rw [decide_eq_false he]
          have HF : Hid (decide (xs = ys) = false) := decide_eq_false (fun e => he (by rw [← HXF.out, ← HYG.out, e]))
          go_wp2_with fail
          go_ret
          exact ⟨by rw [HF.out]; rfl, hbq⟩
      · have HF : Hid (decide (xs = ys) = true) := decide_eq_true (ext_getD' f0 HL.out (fun i hi => HE.out i (by omega)))
        go_wp2_with fail
        go_ret
        exact ⟨by rw [HF.out]; rfl, hb⟩
  · have hlen' : ((xs.length : Int) != (ys.length : Int)) = true := by rw [bne_iff_ne]; omega
    have HF : Hid (decide (xs = ys) = false) := decide_eq_false (fun e => hlen (by rw [e]))
    clear hlen
    go_enter Try.func18, Try.ntmps18
    go_wp2_with fail
    go_ret
    exact ⟨by rw [HF.out]; rfl, nwR w⟩

end Go.Proofs.Ytodahdnnlkcfdaa

/- Volumes held against each other; places of files and of links; how many links. -/
namespace Go.Proofs.Ytodahdnnlkcfdaa
open Go.RowKit

set_option maxRecDepth 100000 in
set_option maxHeartbeats 1000000 in
theorem eqVol_any (u v : Value) (d e : VolD) (w : World) (hu : VolVal w u d) (hv : VolVal w v e) (hs : SmallV d) :
    Calls Try.prog 19 #[u, v] w fun r w' => r = .returned (.bool (decide (d = e))) ∧ Below w.heap.size w w' := by
  obtain ⟨a, ca, rfl, hfs, _⟩ := hu
  obtain ⟨b, cb, rfl, hgs, _⟩ := hv
  have HF : Hid (FilesAt w a d.files) := hfs
  have HG : Hid (FilesAt w b e.files) := hgs
  clear hfs hgs
  obtain ⟨id, fr, snap, fs, next⟩ := d
  obtain ⟨id2, fr2, snap2, gs, next2⟩ := e
  simp only at *
  simp only [SmallV] at hs
  obtain ⟨hs1, hs2⟩ := hs
  have HS : Hid (∀ f ∈ fs, SmallF f) := hs2
  clear hs2
  have HBW : Hid (∀ o1 o2, Below w.heap.size w ((w.alloc o1).alloc o2)) := fun o1 o2 => nwA (nwA (nwR w) _) _
  by_cases h1 : id = id2
  · subst h1
    by_cases h2 : fr = fr2
    · subst h2
      by_cases h3 : snap = snap2
      · subst h3
        have HD : Hid (decide ((⟨id, fr, snap, fs, next⟩ : VolD) = ⟨id, fr, snap, gs, next2⟩) = (decide (fs = gs) && (next == next2))) := by
          show _ = _; rw [Bool.eq_iff_iff]; simp
        go_enter Try.func19, Try.ntmps19
        go_wp2_with fail
        refine (eqFiles_any a b fs gs ca cb _ (HF.out.below (HBW.out _ _)) (HG.out.below (HBW.out _ _)) hs1 HS.out).mono ?_
        rintro r w1 ⟨rfl, hb1⟩
        have c1 : w1.cell? ⟨w.heap.size, 4, none⟩ = some (.int .i64 next) := (hb1.cell (p := ⟨w.heap.size, 4, none⟩) (by simp; omega)).trans (by simp)
        have c2 : w1.cell? ⟨w.heap.size + 1, 4, none⟩ = some (.int .i64 next2) := (hb1.cell (p := ⟨w.heap.size + 1, 4, none⟩) (by simp)).trans (by simp)
        have HB1 : Hid (Below w.heap.size w w1) := nwT (HBW.out _ _) hb1
        clear hb1
        generalize decide (fs = gs) = t at HD
        cases t
        · go_wp2_with fail
          go_ret
          exact ⟨by rw [HD.out]; rfl, HB1.out⟩
        · by_cases h4 : next = next2
          · subst h4
            go_wp2_with fail
            go_ret
            exact ⟨by rw [HD.out]; simp, HB1.out⟩
          · have h5 : (next == next2) = false := beq_eq_false_iff_ne.2 h4
            go_wp2_with fail
            go_ret
            exact ⟨by rw [HD.out, h5]; rfl, HB1.out⟩
      · have HF2 : Hid (decide ((⟨id, fr, snap, fs, next⟩ : VolD) = ⟨id, fr, snap2, gs, next2⟩) = false) := decide_eq_false (fun e => by injection e with e1 e2 e3; exact h3 e3)
        have hb3 : (snap == snap2) = false := beq_eq_false_iff_ne.2 h3
        go_enter Try.func19, Try.ntmps19
        go_wp2_with fail
        go_ret
        exact ⟨by rw [HF2.out]; rfl, HBW.out _ _⟩
    · have HF2 : Hid (decide ((⟨id, fr, snap, fs, next⟩ : VolD) = ⟨id, fr2, snap2, gs, next2⟩) = false) := decide_eq_false (fun e => by injection e with e1 e2 e3; exact h2 e2)
      have hb3 : (fr == fr2) = false := beq_eq_false_iff_ne.2 h2
      go_enter Try.func19, Try.ntmps19
      go_wp2_with fail
      go_ret
      exact ⟨by rw [HF2.out]; rfl, HBW.out _ _⟩
  · have HF2 : Hid (decide ((⟨id, fr, snap, fs, next⟩ : VolD) = ⟨id2, fr2, snap2, gs, next2⟩) = false) := decide_eq_false (fun e => by injection e with e1 e2 e3; exact h1 e1)
    have hb3 : (id == id2) = false := beq_eq_false_iff_ne.2 h1
    go_enter Try.func19, Try.ntmps19
    go_wp2_with fail
    go_ret
    exact ⟨by rw [HF2.out]; rfl, HBW.out _ _⟩

def numB (n most : Int) : Bool := decide (0 ≤ n) && decide (n ≤ most)
theorem num_no1 {n most : Int} (h : ¬ 0 ≤ n) : numB n most = false := by unfold numB; rw [decide_eq_false h]; rfl

set_option maxRecDepth 100000 in
set_option maxHeartbeats 400000 in
theorem num_in (n most : Int) (w : World) : Calls Try.prog 54 #[.int .i64 n, .int .i64 most] w fun e w' => e = .returned (.bool (numB n most)) ∧ w' = w := by
  by_cases h : 0 ≤ n
  · go_enter Try.func54, Try.ntmps54
    go_wp2_with fail
    go_ret
    exact ⟨ret_bool (by unfold numB; rw [decide_eq_true h]; rfl), rfl⟩
  · go_enter Try.func54, Try.ntmps54
    go_wp2_with fail
    go_ret
    exact ⟨ret_bool (num_no1 (by omega)).symm, rfl⟩

def betB (n low high : Int) : Bool := decide (low ≤ n) && decide (n ≤ high)
set_option maxRecDepth 100000 in
set_option maxHeartbeats 400000 in
theorem between_any (n low high : Int) (w : World) : Calls Try.prog 37 #[.int .i64 n, .int .i64 low, .int .i64 high] w fun e w' => e = .returned (.bool (betB n low high)) ∧ w' = w := by
  by_cases h : low ≤ n
  · go_enter Try.func37, Try.ntmps37
    go_wp2_with fail
    go_ret
    exact ⟨ret_bool (by unfold betB; rw [decide_eq_true h]; rfl), rfl⟩
  · go_enter Try.func37, Try.ntmps37
    go_wp2_with fail
    go_ret
    exact ⟨ret_bool (by unfold betB; rw [decide_eq_false (by omega : ¬ low ≤ n)]; rfl), rfl⟩

set_option maxRecDepth 100000 in
set_option maxHeartbeats 400000 in
theorem many_any (n : Int) (w : World) (h0 : 0 ≤ n) (h1 : n ≤ 200) : Calls Try.prog 74 #[.int .i64 n] w fun e w' => e = .returned (.int .i64 ((n + 31) / 32)) ∧ w' = w := by
  go_enter Try.func74, Try.ntmps74
  go_wp2
  go_ret
  refine ⟨ret_int ?_, rfl⟩
  omega

/- places -/
def optI (o : Option Nat) : Int := match o with
  | some k => k
  | none => -1
def atI (fs : List FileD) (id : Int) : Option Nat := fs.findIdx? fun f => f.id == id
def namedI (l : List LinkD) (n : ByteArray) : Option Nat := l.findIdx? fun x => decide (x.1 = n)

theorem find_yes {α : Type} (z : α) {l : List α} {p : α → Bool} {k : Nat} (hk : k < l.length) (h : p (l.getD k z) = true) (hn : ∀ j, j < k → p (l.getD j z) = false) : l.findIdx? p = some k := by
  rw [List.findIdx?_eq_some_iff_getElem]
  refine ⟨hk, ?_, fun j hj => ?_⟩
  · simpa [List.getD, hk] using h
  · have := hn j hj
    have hj2 : j < l.length := by omega
    simp [List.getD, hj2] at this
    simpa using this
theorem find_no {α : Type} (z : α) {l : List α} {p : α → Bool} (hn : ∀ j, j < l.length → p (l.getD j z) = false) : l.findIdx? p = none := by
  rw [List.findIdx?_eq_none_iff]
  intro x hx
  obtain ⟨j, hj, rfl⟩ := List.getElem_of_mem hx
  have := hn j hj
  simpa [List.getD, hj] using this

set_option maxRecDepth 100000 in
set_option maxHeartbeats 1000000 in
theorem at_any (v : Value) (d : VolD) (id : Int) (w : World) (hv : VolVal w v d) (hl : d.files.length ≤ 100000) :
    Calls Try.prog 73 #[v, .int .i64 id] w fun e w' => e = .returned (.int .i64 (optI (atI d.files id))) ∧ Below w.heap.size w w' := by
  obtain ⟨a, ca, rfl, hfs, _⟩ := hv
  have HF : Hid (FilesAt w a d.files) := hfs
  clear hfs
  obtain ⟨vid, fr, snap, fs, next⟩ := d
  simp only at *
  have HB : Hid (Below w.heap.size w (w.alloc (.cells #[.int .i64 vid, .int .i64 fr, .bool snap, .slice a fs.length ca, .int .i64 next] 32))) := nwA (nwR w) _
  go_enter Try.func73, Try.ntmps73
  go_wp2_with fail
  go_loop [5] (fun i => ∃ (k : Nat), k ≤ fs.length ∧ i = .int .i64 k ∧ Hid (∀ j, j < k → ((fs.getD j f0).id == id) = false))
    (fun i => fs.length - (intOf i).toNat)
  case atStart => exact ⟨0, by omega, rfl, fun j hj => by omega⟩
  case round =>
    obtain ⟨k, hk, rfl, HE⟩ := hrel
    by_cases hlt : k < fs.length
    · obtain ⟨b1, o1, rfl, hf⟩ := (HF.out.below HB.out).file hlt
      obtain ⟨ab, cb, al, cl, ⟨c0, _, _, _, _⟩, _, _⟩ := hf
      have hlti : (k : Int) < (fs.length : Int) := by omega
      by_cases he : (fs.getD k f0).id = id
      · have HY : Hid (atI fs id = some k) := find_yes f0 hlt (by simpa using he) (fun j hj => HE.out j hj)
        rw [he] at c0
        go_wp2_with fail
        go_ret
        exact ⟨ret_int (by rw [HY.out]; rfl), HB.out⟩
      · have heb : ((fs.getD k f0).id == id) = false := beq_eq_false_iff_ne.2 he
        have HN : Hid (∀ j, j < k + 1 → ((fs.getD j f0).id == id) = false) := fun j hj => by
          by_cases e : j = k
          · subst e; exact heb
          · exact HE.out j (by omega)
        generalize (fs.getD k f0).id = z at c0 heb
        clear he
        go_wp2_with fail
        go_round
        case rel => exact ⟨k + 1, by omega, by go_num, HN⟩
        case measure => simp [intOf]; omega
    · have hlti : ¬ (k : Int) < (fs.length : Int) := by omega
      have HY : Hid (atI fs id = none) := find_no f0 (fun j hj => HE.out j (by omega))
      go_wp2_with fail
      go_ret
      exact ⟨ret_int (by rw [HY.out]; rfl), HB.out⟩

end Go.Proofs.Ytodahdnnlkcfdaa

/- How many links there are; what a path finds. -/
namespace Go.Proofs.Ytodahdnnlkcfdaa
open Go.RowKit

def cntL (l : List LinkD) (id : Int) : Nat := (l.filter fun x => x.2 == id).length
def linksN (fs : List FileD) (id : Int) : Nat := (fs.map fun f => cntL f.list id).sum
theorem cntL_le (l : List LinkD) (id : Int) : cntL l id ≤ l.length := List.length_filter_le _ _
theorem cntL_succ {l : List LinkD} {k : Nat} (h : k < l.length) (id : Int) : cntL (l.take (k + 1)) id = cntL (l.take k) id + if (l.getD k lk0).2 == id then 1 else 0 := by
  unfold cntL
  rw [List.take_succ_eq_append_getElem h, List.filter_append, List.length_append]
  have e : l.getD k lk0 = l[k] := by simp [List.getD, h]
  rw [e]
  by_cases hh : l[k].2 == id <;> simp [hh]
theorem linksN_succ {fs : List FileD} {k : Nat} (h : k < fs.length) (id : Int) : linksN (fs.take (k + 1)) id = linksN (fs.take k) id + cntL (fs.getD k f0).list id := by
  unfold linksN
  rw [List.take_succ_eq_append_getElem h, List.map_append, List.sum_append]
  simp [List.getD, h]
theorem linksN_le {fs : List FileD} (id : Int) (hs : ∀ f ∈ fs, SmallF f) : linksN fs id ≤ fs.length * 100000 := by
  induction fs with
  | nil => simp [linksN]
  | cons f fs ih =>
    have h1 := ih (fun g hg => hs g (by simp [hg]))
    have h2 := cntL_le f.list id
    have h3 := (hs f (by simp)).2
    unfold linksN at *
    simp only [List.map_cons, List.sum_cons, List.length_cons]
    omega

set_option maxRecDepth 100000 in
set_option maxHeartbeats 2000000 in
theorem links_any (v : Value) (d : VolD) (id : Int) (w : World) (hv : VolVal w v d) (hs : SmallV d) :
    Calls Try.prog 56 #[v, .int .i64 id] w fun e w' => e = .returned (.int .i64 (linksN d.files id)) ∧ Below w.heap.size w w' := by
  obtain ⟨a, ca, rfl, hfs, _⟩ := hv
  have HF : Hid (FilesAt w a d.files) := hfs
  clear hfs
  obtain ⟨vid, fr, snap, fs, next⟩ := d
  simp only [SmallV] at *
  obtain ⟨hl, hs2⟩ := hs
  have HS : Hid (∀ f ∈ fs, SmallF f) := hs2
  clear hs2
  have HB : Hid (Below w.heap.size w (w.alloc (.cells #[.int .i64 vid, .int .i64 fr, .bool snap, .slice a fs.length ca, .int .i64 next] 32))) := nwA (nwR w) _
  go_enter Try.func56, Try.ntmps56
  go_wp2_with fail
  go_loop [5, 6] (fun n i => ∃ (k : Nat), k ≤ fs.length ∧ i = .int .i64 k ∧ n = .int .i64 (linksN (fs.take k) id))
    (fun _ i => fs.length - (intOf i).toNat)
  case atStart => exact ⟨0, by omega, rfl, rfl⟩
  case round =>
    obtain ⟨k, hk, rfl, rfl⟩ := hrel
    by_cases hlt : k < fs.length
    · have hlti : (k : Int) < (fs.length : Int) := by omega
      obtain ⟨b1, o1, rfl, hf⟩ := (HF.out.below HB.out).file hlt
      obtain ⟨ab, cb, al, cl, ⟨_, _, _, _, c4⟩, _, hli, _⟩ := hf
      have HSU : Hid (linksN (fs.take (k + 1)) id = linksN (fs.take k) id + cntL (fs.getD k f0).list id) := linksN_succ hlt id
      have hbd : linksN (fs.take k) id ≤ 10000000000 := by
        have h1 := linksN_le (fs := fs.take k) id (fun g hg => HS.out g (List.mem_of_mem_take hg))
        have h2 : (fs.take k).length ≤ 100000 := by rw [List.length_take]; omega
        have h3 : (fs.take k).length * 100000 ≤ 100000 * 100000 := Nat.mul_le_mul_right _ h2
        omega
      have hsm := (HS.out (fs.getD k f0) (by simp [List.getD, hlt])).2
      have HLI : Hid (LinksAt (w.alloc (.cells #[.int .i64 vid, .int .i64 fr, .bool snap, .slice (some ⟨b1, o1, none⟩) fs.length ca, .int .i64 next] 32)) al (fs.getD k f0).list) := hli
      generalize linksN (fs.take k) id = N at HSU hbd
      generalize (fs.getD k f0).list = li at HSU hsm HLI c4
      clear hli
      go_wp2_with fail
      go_loop [5, 7] (fun n i => ∃ (j : Nat), j ≤ li.length ∧ i = .int .i64 j ∧ n = .int .i64 ((N + cntL (li.take j) id : Nat) : Int))
        (fun _ i => li.length - (intOf i).toNat)
      case atStart => exact ⟨0, by omega, rfl, rfl⟩
      case round =>
        obtain ⟨j, hj, rfl, rfl⟩ := hrel
        have hcn : cntL (li.take j) id ≤ 100000 := by have := cntL_le (li.take j) id; rw [List.length_take] at this; omega
        by_cases hjl : j < li.length
        · have hjli : (j : Int) < (li.length : Int) := by omega
          obtain ⟨b2, o2, rfl, _, d2⟩ := HLI.out.cell hjl
          have HCS : Hid (cntL (li.take (j + 1)) id = cntL (li.take j) id + if (li.getD j lk0).2 == id then 1 else 0) := cntL_succ hjl id
          generalize (li.getD j lk0).2 = z at d2 HCS
          generalize cntL (li.take j) id = C at HCS hcn
          by_cases he : z = id
          · subst he
            go_wp2_with fail
            go_round
            case rel => exact ⟨j + 1, by omega, by go_num, by rw [HCS.out]; simp; omega⟩
            case measure => simp [intOf]; omega
          · have heb : (z == id) = false := beq_eq_false_iff_ne.2 he
            clear he
            go_wp2_with fail
            go_round
            case rel => exact ⟨j + 1, by omega, by go_num, by rw [HCS.out, heb]; simp⟩
            case measure => simp [intOf]; omega
        · have hjli : ¬ (j : Int) < (li.length : Int) := by omega
          have e : li.take j = li := List.take_of_length_le (by omega)
          rw [e]
          go_wp2_with fail
          go_round
          case rel => exact ⟨k + 1, by omega, by go_num, by rw [HSU.out]⟩
          case measure => simp [intOf]; omega
    · have hlti : ¬ (k : Int) < (fs.length : Int) := by omega
      have e : fs.take k = fs := List.take_of_length_le (by omega)
      rw [e]
      go_wp2_with fail
      go_ret
      exact ⟨rfl, HB.out⟩

end Go.Proofs.Ytodahdnnlkcfdaa
