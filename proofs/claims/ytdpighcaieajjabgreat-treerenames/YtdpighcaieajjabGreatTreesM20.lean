/- Laid together: Spoil, Newv, Wakem, Wakes, Finds, Stepj. -/
import Derived.Test.YtdpighcaieajjabGreatTreesM19
import Derived.Deep.CutRange
/- An answer written over. -/
namespace Go.Proofs.YtdpighcaieajjabGreat
open Go.RowKit

/-- a row of one's own, of any content -/
def RowX (w : World) (base top : Nat) (e : TypeId) (size : Nat) (v : Value) (n : Nat) : Prop :=
  (v = .slice none 0 0 ∧ n = 0) ∨ ∃ g cap cur, v = .slice (some ⟨g, 0, none⟩) n cap ∧ (base ≤ g ∧ g < top) ∧ w.heap[g]? = some (.cells cur e (0, 0)) ∧ n * size ≤ cur.size
theorem RowX.of_own {w : World} {base : Nat} {e : TypeId} {size : Nat} {v : Value} {n : Nat} {xs : List Value} (h : w.ownsRow base e size v n xs) : RowX w base w.heap.size e size v n := by
  rcases h.2 with h1 | ⟨g, cap, cur, hv, hb, hh, hnc, _, hcs, _⟩
  · exact .inl h1
  · exact .inr ⟨g, cap, cur, hv, ⟨hb, (Array.getElem?_eq_some_iff.1 hh).1⟩, hh, by rw [hcs]; exact Nat.mul_le_mul_right _ hnc⟩
theorem RowX.setCell {w : World} {base top : Nat} {e : TypeId} {size : Nat} {v : Value} {n : Nat} (h : RowX w base top e size v n) (g j : Nat) (u : Value) : RowX (w.setCell ⟨g, j, none⟩ u) base top e size v n := by
  rcases h with h | ⟨g', cap, cur, hv, hb, hh, hc⟩
  · exact .inl h
  · by_cases hg : g' = g
    · subst hg
      exact .inr ⟨g', cap, cur.setIfInBounds j u, hv, hb, heap_setCell_same w g' j cur e u hh, by simpa using hc⟩
    · exact .inr ⟨g', cap, cur, hv, hb, by rw [heap_setCell_other w ⟨g, j, none⟩ g' u hg]; exact hh, hc⟩
theorem RowX.below {w w' : World} {base top : Nat} {e : TypeId} {size : Nat} {v : Value} {n : Nat} (h : RowX w base top e size v n) (hb : Below w.heap.size w w') : RowX w' base top e size v n := by
  rcases h with h | ⟨g', cap, cur, hv, hb', hh, hc⟩
  · exact .inl h
  · exact .inr ⟨g', cap, cur, hv, hb', (hb.block _ (Array.getElem?_eq_some_iff.1 hh).1).trans hh, hc⟩
theorem RowX.lit {w : World} {base top : Nat} {e : TypeId} {size : Nat} {v : Value} {n : Nat} (h : RowX w base top e size v n) : ∃ a cap, v = .slice a n cap ∧ RowX w base top e size (.slice a n cap) n := by
  rcases id h with ⟨rfl, rfl⟩ | ⟨g', cap, cur, rfl, _⟩
  · exact ⟨none, 0, rfl, h⟩
  · exact ⟨_, _, rfl, h⟩
theorem RowX.cell {w : World} {base top : Nat} {e : TypeId} {size : Nat} {a : Option Addr} {n cap : Nat} (h : RowX w base top e size (.slice a n cap) n) (hn : 0 < n) :
    ∃ g cur, a = some ⟨g, 0, none⟩ ∧ (base ≤ g ∧ g < top) ∧ w.heap[g]? = some (.cells cur e (0, 0)) ∧ (∀ i, i < n * size → ∃ u, w.cell? ⟨g, i, none⟩ = some u) ∧ ∀ i, w.frozen? ⟨g, i, none⟩ = false := by
  rcases h with ⟨_, h⟩ | ⟨g', cap', cur, hv, hb', hh, hc⟩
  · omega
  · injection hv with h1 h2 h3
    refine ⟨g', cur, h1, hb', hh, fun i hi => ?_, fun i => Lib.frozen_of_heap hh i⟩
    exact ⟨cur[i]'(by omega), by rw [Lib.cell_of_heap hh]; exact Array.getElem?_eq_getElem (by omega)⟩
/-- what writing into rows of one type leaves -/
structure Wk (T : TypeId) (base top : Nat) (w w' : World) : Prop where
  below : Below base w w'
  rows : ∀ (e : TypeId) (size : Nat) (v : Value) (n : Nat), RowX w base top e size v n → RowX w' base top e size v n
  other : ∀ (k : Nat) (cur : Array Value) (t : TypeId) (fz : Nat × Nat), w.heap[k]? = some (Obj.cells cur t fz) → t ≠ T → w'.heap[k]? = some (Obj.cells cur t fz)
  out : ∀ k : Nat, top ≤ k → k < w.heap.size → w'.heap[k]? = w.heap[k]?
theorem Wk.refl (T : TypeId) (base top : Nat) (w : World) : Wk T base top w w := ⟨Below.refl _ _, fun _ _ _ _ h => h, fun _ _ _ _ h _ => h, fun _ _ _ => rfl⟩
theorem Wk.store {T : TypeId} {base top : Nat} {w w' : World} (h : Wk T base top w w') {g : Nat} {cur : Array Value} (hg : w'.heap[g]? = some (.cells cur T (0, 0))) (hb : base ≤ g ∧ g < top) (j : Nat) (u : Value) : Wk T base top w (w'.setCell ⟨g, j, none⟩ u) := by
  refine ⟨h.below.setCell (p := ⟨g, j, none⟩) hb.1 u, fun e size v n hr => (h.rows e size v n hr).setCell g j u, fun k cur' t fz hk ht => ?_, fun k h1 h2 => ?_⟩
  · have h1 := h.other k cur' t fz hk ht
    rw [heap_setCell_other w' ⟨g, j, none⟩ k u (fun e => ?_)]
    · exact h1
    · have e2 : k = g := e
      rw [e2, hg] at h1
      simp only [Option.some.injEq, Obj.cells.injEq] at h1
      exact ht h1.2.1.symm
  · rw [heap_setCell_other w' ⟨g, j, none⟩ k u (fun e => by have e2 : k = g := e; omega)]
    exact h.out k h1 h2
/-- what of the files is not yet written over -/
def RestX (w : World) (base top g n i : Nat) : Prop := ∀ j, i ≤ j → j < n → ∃ ab nb cb al nl cl, w.cell? ⟨g, j * 5 + 3, none⟩ = some (.slice ab nb cb) ∧ w.cell? ⟨g, j * 5 + 4, none⟩ = some (.slice al nl cl) ∧ RowX w base top 3 1 (.slice ab nb cb) nb ∧ RowX w base top 63 2 (.slice al nl cl) nl ∧ nb ≤ 100000 ∧ nl ≤ 100000
/-- files that may be written over -/
def SpoilX (w : World) (base top : Nat) (fa : Option Addr) (n : Nat) : Prop := n ≤ 100000 ∧ (n = 0 ∨ ∃ g cur, fa = some ⟨g, 0, none⟩ ∧ (base ≤ g ∧ g < top) ∧ w.heap[g]? = some (.cells cur 59 (0, 0)) ∧ n * 5 ≤ cur.size ∧ RestX w base top g n 0)
theorem SpoilX.below {w w' : World} {base top : Nat} {fa : Option Addr} {n : Nat} (h : SpoilX w base top fa n) (hb : Below w.heap.size w w') : SpoilX w' base top fa n := by
  obtain ⟨h0, h⟩ := h
  refine ⟨h0, ?_⟩
  rcases h with h | ⟨g, cur, h1, h2, h3, h4, h5⟩
  · exact .inl h
  · refine .inr ⟨g, cur, h1, h2, (hb.block _ (Array.getElem?_eq_some_iff.1 h3).1).trans h3, h4, fun j hj1 hj2 => ?_⟩
    obtain ⟨ab, nb, cb, al, nl, cl, c3, c4, r3, r4, hn⟩ := h5 j hj1 hj2
    exact ⟨ab, nb, cb, al, nl, cl, (hb.cell (p := ⟨g, j * 5 + 3, none⟩) (block_lt_of_cell c3)).trans c3, (hb.cell (p := ⟨g, j * 5 + 4, none⟩) (block_lt_of_cell c4)).trans c4, r3.below hb, r4.below hb, hn⟩
theorem SpoilX.set {w : World} {base top : Nat} {fa : Option Addr} {n : Nat} (h : SpoilX w base top fa n) {k : Nat} (o : Nat) (hk : k < base) (u : Value) : SpoilX (w.setCell ⟨k, o, none⟩ u) base top fa n := by
  obtain ⟨h0, h⟩ := h
  refine ⟨h0, ?_⟩
  rcases h with h | ⟨g, cur, h1, h2, h3, h4, h5⟩
  · exact .inl h
  · have hne : g ≠ k := by omega
    have h3' : (w.setCell ⟨k, o, none⟩ u).heap[g]? = some (.cells cur 59 (0, 0)) := (heap_setCell_other w ⟨k, o, none⟩ g u hne).trans h3
    refine .inr ⟨g, cur, h1, h2, h3', h4, fun j hj1 hj2 => ?_⟩
    obtain ⟨ab, nb, cb, al, nl, cl, c3, c4, r3, r4, hn⟩ := h5 j hj1 hj2
    refine ⟨ab, nb, cb, al, nl, cl, ?_, ?_, r3.setCell _ _ _, r4.setCell _ _ _, hn⟩
    · rw [Lib.cell_of_heap h3']; rw [Lib.cell_of_heap h3] at c3; exact c3
    · rw [Lib.cell_of_heap h3']; rw [Lib.cell_of_heap h3] at c4; exact c4
theorem OwnFiles.kept {w w' : World} {base : Nat} {v : Value} {fs : List FileD} (h : OwnFiles w base v fs) (hk : ∀ k, base ≤ k → k < w.heap.size → w'.heap[k]? = w.heap[k]?) : OwnFiles w' base v fs := by
  have hr : ∀ {e : TypeId} {size : Nat} {v : Value} {n : Nat} {xs : List Value}, w.ownsRow base e size v n xs → w'.ownsRow base e size v n xs := by
    intro e size v n xs h
    refine ⟨h.1, ?_⟩
    rcases h.2 with h | ⟨g, cap, cur, hv, hb, hh, rest⟩
    · exact .inl h
    · exact .inr ⟨g, cap, cur, hv, hb, (hk g hb (Array.getElem?_eq_some_iff.1 hh).1).trans hh, rest⟩
  obtain ⟨gs, e, ho, ha⟩ := h
  exact ⟨gs, e, hr ho, fun g hg => ⟨hr (ha g hg).1, hr (ha g hg).2⟩⟩

set_option maxRecDepth 100000 in
set_option maxHeartbeats 1000000 in
theorem nums_spoil (a : Option Addr) (n ca base top : Nat) (w : World) (hr : RowX w base top 3 1 (.slice a n ca) n) (hn : n ≤ 100000) :
    Calls Tryz.prog 64 #[.slice a n ca] w fun e w' => e = .returned (.tuple #[]) ∧ Wk 3 base top w w' := by
  have HR : Hid (RowX w base top 3 1 (.slice a n ca) n) := hr
  clear hr
  go_enter Tryz.func64, Tryz.ntmps64
  go_wp2_with fail
  go_loopw [2] (fun ii wr => ∃ (i : Nat), i ≤ n ∧ ii = .int .i64 i ∧ Wk 3 base top w wr) (fun ii _ => n - (intOf ii).toNat)
  case atStart => exact ⟨0, by omega, rfl, Wk.refl _ _ _ _⟩
  case round =>
    obtain ⟨i, hi, rfl, hk⟩ := hrel
    have HK : Hid (Wk 3 base top w wr) := hk
    clear hk
    by_cases hin : (i : Int) < (n : Int)
    · obtain ⟨g, cur, rfl, hbg, hg, hc, hf⟩ := (HK.out.rows _ _ _ _ HR.out).cell (by omega)
      obtain ⟨u, c1⟩ := hc i (by omega)
      have f1 := hf i
      have HK3 : Hid (Wk 3 base top w (wr.setCell ⟨g, i, none⟩ (.int .i64 (-99)))) := HK.out.store hg hbg i _
      clear hc hf hg
      go_wp2_with fail
      first
        | exact ⟨⟨i + 1, by omega, by go_num, HK3.out⟩, by simp [intOf]; omega⟩
        | (go_roundw
           case rel => exact ⟨i + 1, by omega, by go_num, HK3.out⟩
           case measure => simp [intOf]; omega)
    · go_wp2_with fail
      go_end0
      exact ⟨rfl, HK.out⟩

theorem RestX.wk {T : TypeId} {w w' : World} {base top g n i : Nat} {cur : Array Value} (h : RestX w base top g n i) (hk : Wk T base top w w') (hg : w.heap[g]? = some (.cells cur 59 (0, 0))) (ht : (59 : TypeId) ≠ T) : RestX w' base top g n i := by
  intro j h1 h2
  obtain ⟨ab, nb, cb, al, nl, cl, c3, c4, r3, r4, hn⟩ := h j h1 h2
  have hg' := hk.other _ _ _ _ hg ht
  refine ⟨ab, nb, cb, al, nl, cl, ?_, ?_, hk.rows _ _ _ _ r3, hk.rows _ _ _ _ r4, hn⟩
  · rw [Lib.cell_of_heap hg']; rw [Lib.cell_of_heap hg] at c3; exact c3
  · rw [Lib.cell_of_heap hg']; rw [Lib.cell_of_heap hg] at c4; exact c4
theorem five_ne {cur : Array Value} {a b c d e j : Nat} {v0 v1 v2 v3 v4 : Value} (h0 : a ≠ j) (h1 : b ≠ j) (h2 : c ≠ j) (h3 : d ≠ j) (h4 : e ≠ j) : (((((cur.setIfInBounds a v0).setIfInBounds b v1).setIfInBounds c v2).setIfInBounds d v3).setIfInBounds e v4)[j]? = cur[j]? := by
  rw [Array.getElem?_setIfInBounds_ne h4, Array.getElem?_setIfInBounds_ne h3, Array.getElem?_setIfInBounds_ne h2, Array.getElem?_setIfInBounds_ne h1, Array.getElem?_setIfInBounds_ne h0]
theorem RestX.file {w : World} {base top g n i : Nat} {v0 v1 v2 v3 v4 : Value} {cur : Array Value} (h : RestX w base top g n i) (hg : w.heap[g]? = some (.cells cur 59 (0, 0))) :
    RestX (((((w.setCell ⟨g, i * 5, none⟩ v0).setCell ⟨g, i * 5 + 1, none⟩ v1).setCell ⟨g, i * 5 + 2, none⟩ v2).setCell ⟨g, i * 5 + 3, none⟩ v3).setCell ⟨g, i * 5 + 4, none⟩ v4) base top g n (i + 1) := by
  intro j h1 h2
  obtain ⟨ab, nb, cb, al, nl, cl, c3, c4, r3, r4, hn⟩ := h j (by omega) h2
  have e1 := heap_setCell_same w g (i * 5) _ 59 v0 hg
  have e2 := heap_setCell_same _ g (i * 5 + 1) _ 59 v1 e1
  have e3 := heap_setCell_same _ g (i * 5 + 2) _ 59 v2 e2
  have e4 := heap_setCell_same _ g (i * 5 + 3) _ 59 v3 e3
  have e5 := heap_setCell_same _ g (i * 5 + 4) _ 59 v4 e4
  refine ⟨ab, nb, cb, al, nl, cl, ?_, ?_, ((((r3.setCell _ _ _).setCell _ _ _).setCell _ _ _).setCell _ _ _).setCell _ _ _, ((((r4.setCell _ _ _).setCell _ _ _).setCell _ _ _).setCell _ _ _).setCell _ _ _, hn⟩
  · rw [Lib.cell_of_heap e5]
    rw [Lib.cell_of_heap hg] at c3
    rw [five_ne (by omega) (by omega) (by omega) (by omega) (by omega)]
    exact c3
  · rw [Lib.cell_of_heap e5]
    rw [Lib.cell_of_heap hg] at c4
    rw [five_ne (by omega) (by omega) (by omega) (by omega) (by omega)]
    exact c4
theorem SpoilX.of_own {w : World} {base n cap : Nat} {fa : Option Addr} {fs : List FileD} (h : OwnFiles w base (.slice fa n cap) fs) (hl : fs.length ≤ 100000) (hs : ∀ f ∈ fs, SmallF f) : SpoilX w base w.heap.size fa n := by
  obtain ⟨gs, rfl, ho, ha⟩ := h
  rw [List.length_map] at hl
  have ho2 := ho
  rcases ho2.2 with ⟨h1, h2⟩ | ⟨g, cap', cur, h1, h2, h3, h4, h5, h6, _⟩
  · injection h1 with _ h1 _
    exact ⟨by omega, .inl h1⟩
  · injection h1 with h1 hn _
    subst h1
    subst hn
    refine ⟨hl, .inr ⟨g, cur, rfl, ⟨h2, (Array.getElem?_eq_some_iff.1 h3).1⟩, h3, by rw [h6]; exact Nat.mul_le_mul_right _ h4, fun j _ hj => ?_⟩⟩
    have hm := ha gs[j] (List.getElem_mem hj)
    obtain ⟨_, _, _, c3, c4⟩ := fflat_get gs j _ (List.getElem?_eq_getElem hj)
    obtain ⟨ab, cb, eb, _, _⟩ := hm.1.at
    obtain ⟨al, cl, el, _, _⟩ := hm.2.at
    have h3 := RowX.of_own hm.1
    have h4 := RowX.of_own hm.2
    have hsf := hs gs[j].d (List.mem_map.2 ⟨_, List.getElem_mem hj, rfl⟩)
    rw [eb] at c3 h3
    rw [el] at c4 h4
    have e : ∀ j, (⟨g, 0, none⟩ : Addr).add j = ⟨g, 0 + j, none⟩ := fun j => by unfold Addr.add; split <;> simp_all
    have K : ∀ j u, (fflat gs)[j]? = some u → w.cell? ⟨g, j, none⟩ = some u := fun j u hj => by
      have := ho.cells (g := g) rfl j u hj
      rwa [e, Nat.zero_add] at this
    exact ⟨ab, _, cb, al, _, cl, K _ _ c3, K _ _ c4, h3, h4, hsf.1, hsf.2⟩

set_option maxRecDepth 100000 in
set_option maxHeartbeats 4000000 in
theorem vol_spoil (d : VolD) (fa : Option Addr) (fc base top : Nat) (w : World) (ho : SpoilX w base top fa d.files.length) (hb : base ≤ w.heap.size) (ht : top ≤ w.heap.size) :
    Calls Tryz.prog 31 #[.agg #[.int .i64 d.id, .int .i64 d.fr, .bool d.snap, .slice fa d.files.length fc, .int .i64 d.next]] w fun e w' => e = .returned (.tuple #[]) ∧ Below base w w' ∧ ∀ k, top ≤ k → k < w.heap.size → w'.heap[k]? = w.heap[k]? := by
  have HO : Hid (SpoilX w base top fa d.files.length) := ho
  have hnl := ho.1
  clear ho
  obtain ⟨W0, hW0⟩ : ∃ W0, W0 = w.alloc (.cells #[.int .i64 d.id, .int .i64 d.fr, .bool d.snap, .slice fa d.files.length fc, .int .i64 d.next] 24) := ⟨_, rfl⟩
  have HB0 : Hid (Below w.heap.size w W0) := by rw [hW0]; exact nwA (nwR w) _
  have HX0 : Hid (W0.heap[w.heap.size]? = some (.cells #[.int .i64 d.id, .int .i64 d.fr, .bool d.snap, .slice fa d.files.length fc, .int .i64 d.next] 24 (0, 0))) := by rw [hW0]; exact heap_alloc_new w _
  have HBB : Hid (Below base w W0 ∧ ∀ k, top ≤ k → k < w.heap.size → W0.heap[k]? = w.heap[k]?) := ⟨HB0.out.mono hb, fun k _ hk => HB0.out.block k hk⟩
  go_enter Tryz.func31, Tryz.ntmps31
  go_wp2_with fail
  rw [← hW0]
  clear hW0
  by_cases h0 : d.files.length = 0
  case pos =>
    rw [h0] at HX0 ⊢
    obtain ⟨x0, x1, x2, x3, x4, _⟩ := five HX0.out
    go_loopw [2] (fun ii wr => ii = .int .i64 0 ∧ wr = W0) (fun ii _ => 0)
    case atStart => exact ⟨rfl, rfl⟩
    case round =>
      obtain ⟨rfl, rfl⟩ := hrel
      go_wp2_with fail
      go_end0
      exact ⟨rfl, HBB.out⟩
  case neg =>
  generalize hn : d.files.length = n at HX0 hnl h0 HO ⊢
  clear hn
  obtain ⟨g, cur0, rfl, hgb, hg0, hgc, hre⟩ : ∃ g cur, fa = some ⟨g, 0, none⟩ ∧ (base ≤ g ∧ g < top) ∧ W0.heap[g]? = some (.cells cur 59 (0, 0)) ∧ n * 5 ≤ cur.size ∧ RestX W0 base top g n 0 := by
    rcases (HO.out.below HB0.out).2 with h | h
    · exact absurd h h0
    · exact h
  have HRE : Hid (RestX W0 base top g n 0) := hre
  have HG0 : Hid (∃ cur, W0.heap[g]? = some (.cells cur 59 (0, 0)) ∧ n * 5 ≤ cur.size) := ⟨cur0, hg0, hgc⟩
  have HGN : Hid (g ≠ w.heap.size ∧ base ≤ g ∧ g < top) := ⟨by omega, hgb⟩
  clear hre hg0 hgb hgc HO
  go_loopw [2] (fun ii wr => ∃ (i : Nat), i ≤ n ∧ ii = .int .i64 i ∧ Hid (Below base w wr ∧ ∀ k, top ≤ k → k < w.heap.size → wr.heap[k]? = w.heap[k]?) ∧ Hid (RestX wr base top g n i) ∧ Hid (∃ cur, wr.heap[g]? = some (.cells cur 59 (0, 0)) ∧ n * 5 ≤ cur.size) ∧ Hid (wr.heap[w.heap.size]? = some (.cells #[.int .i64 d.id, .int .i64 d.fr, .bool d.snap, .slice (some ⟨g, 0, none⟩) n fc, .int .i64 d.next] 24 (0, 0)))) (fun ii _ => n - (intOf ii).toNat)
  case atStart => exact ⟨0, by omega, rfl, HBB, HRE, HG0, HX0⟩
  case round =>
    obtain ⟨i, hi, rfl, HBr, HRr, HGr, HXr⟩ := hrel
    obtain ⟨x0, x1, x2, x3, x4, _⟩ := five HXr.out
    by_cases hin : (i : Int) < (n : Int)
    case neg =>
      go_wp2_with fail
      go_end0
      exact ⟨rfl, HBr.out⟩
    case pos =>
    have hi0 : (0 : Int) ≤ (i : Int) := by omega
    obtain ⟨ab, nb, cb, al, nl, cl, c3, c4, r3, r4, hnb, hnl2⟩ := HRr.out i (by omega) (by omega)
    have HR4 : Hid (RowX wr base top 63 2 (.slice al nl cl) nl) := r4
    have HC4 : Hid (wr.cell? ⟨g, i * 5 + 4, none⟩ = some (.slice al nl cl)) := c4
    have HNS : Hid (Calls Tryz.prog 64 #[.slice ab nb cb] wr fun e w' => e = .returned (.tuple #[]) ∧ Wk 3 base top wr w') := nums_spoil ab nb cb base top wr r3 hnb
    clear r3 r4 c4
    go_wp2_with fail
    refine HNS.out.mono ?_
    rintro e w2 ⟨rfl, hk2⟩
    obtain ⟨cur, hg, hgc⟩ := HGr.out
    have HRE2 : Hid (RestX w2 base top g n i) := HRr.out.wk hk2 hg (by decide)
    have HG2 : Hid (∃ cur, w2.heap[g]? = some (.cells cur 59 (0, 0)) ∧ n * 5 ≤ cur.size) := ⟨cur, hk2.other _ _ _ _ hg (by decide), hgc⟩
    have HX2 : Hid (w2.heap[w.heap.size]? = some (.cells #[.int .i64 d.id, .int .i64 d.fr, .bool d.snap, .slice (some ⟨g, 0, none⟩) n fc, .int .i64 d.next] 24 (0, 0))) := hk2.other _ _ _ _ HXr.out (by decide)
    have HB2 : Hid (Below base w w2 ∧ ∀ k, top ≤ k → k < w.heap.size → w2.heap[k]? = w.heap[k]?) := ⟨HBr.out.1.trans hk2.below, fun k h1 h2 => (hk2.out k h1 (by have := HBr.out.1.size; omega)).trans (HBr.out.2 k h1 h2)⟩
    have HR42 : Hid (RowX w2 base top 63 2 (.slice al nl cl) nl) := hk2.rows _ _ _ _ HR4.out
    have HC42 : Hid (w2.cell? ⟨g, i * 5 + 4, none⟩ = some (.slice al nl cl)) := by
      show _ = _
      rw [Lib.cell_of_heap (hk2.other _ _ _ _ hg (by decide))]
      have := HC4.out
      rw [Lib.cell_of_heap hg] at this; exact this
    clear hk2 hg hgc HNS HRr HGr HXr HBr HR4 HC4 x0 x1 x2 x3 x4 c3 cur
    go_wp2_with fail
    go_loopw [3] (fun kk wr2 => ∃ (k : Nat), k ≤ nl ∧ kk = .int .i64 k ∧ Wk 63 base top w2 wr2) (fun kk _ => nl - (intOf kk).toNat)
    case atStart => exact ⟨0, by omega, rfl, Wk.refl _ _ _ _⟩
    case round =>
      obtain ⟨k, hk, rfl, hw⟩ := hrel
      have HW : Hid (Wk 63 base top w2 wr) := hw
      obtain ⟨cur, hg, hgc⟩ := HG2.out
      have hg2 := hw.other _ _ _ _ hg (by decide)
      obtain ⟨x0, x1, x2, x3, x4, _⟩ := five (hw.other _ _ _ _ HX2.out (by decide))
      have c4 : wr.cell? ⟨g, i * 5 + 4, none⟩ = some (.slice al nl cl) := by
        rw [Lib.cell_of_heap hg2]
        have := HC42.out
        rw [Lib.cell_of_heap hg] at this; exact this
      by_cases hkn : (k : Int) < (nl : Int)
      case pos =>
        have hk0 : (0 : Int) ≤ (k : Int) := by omega
        obtain ⟨gl, curl, rfl, hbl, hgl, hcl, hfl⟩ := (hw.rows _ _ _ _ HR42.out).cell (by omega)
        obtain ⟨u0, y0⟩ := hcl (k * 2) (by omega)
        obtain ⟨u1, y1⟩ := hcl (k * 2 + 1) (by omega)
        have f0' := hfl (k * 2)
        have f1' := hfl (k * 2 + 1)
        have HW3 : Hid (∀ a b, Wk 63 base top w2 ((wr.setCell ⟨gl, k * 2, none⟩ a).setCell ⟨gl, k * 2 + 1, none⟩ b)) := fun a b => (HW.out.store hgl hbl _ a).store (heap_setCell_same wr gl (k * 2) _ 63 a hgl) hbl _ b
        clear hw hg hgc hg2 hcl hfl hgl
        go_wp2_with fail
        go_roundw
        case rel => exact ⟨k + 1, by omega, by go_num, HW3.out _ _⟩
        case measure => simp [intOf]; omega
      case neg =>
        have HB3 : Hid (Below base w wr ∧ ∀ k, top ≤ k → k < w.heap.size → wr.heap[k]? = w.heap[k]?) := ⟨HB2.out.1.trans hw.below, fun k h1 h2 => (hw.out k h1 (by have := HB2.out.1.size; omega)).trans (HB2.out.2 k h1 h2)⟩
        have HRE3 : Hid (RestX wr base top g n i) := HRE2.out.wk hw hg (by decide)
        have HX3 : Hid (wr.heap[w.heap.size]? = some (.cells #[.int .i64 d.id, .int .i64 d.fr, .bool d.snap, .slice (some ⟨g, 0, none⟩) n fc, .int .i64 d.next] 24 (0, 0))) := hw.other _ _ _ _ HX2.out (by decide)
        have HG3 : Hid (wr.heap[g]? = some (.cells cur 59 (0, 0)) ∧ n * 5 ≤ cur.size) := ⟨hg2, hgc⟩
        have hcell : ∀ j, j < n * 5 → ∃ u, wr.cell? ⟨g, j, none⟩ = some u := fun j hj => ⟨cur[j]'(by omega), by rw [Lib.cell_of_heap hg2]; exact Array.getElem?_eq_getElem (by omega)⟩
        obtain ⟨u0, y0⟩ := hcell (i * 5) (by omega)
        obtain ⟨u1, y1⟩ := hcell (i * 5 + 1) (by omega)
        obtain ⟨u2, y2⟩ := hcell (i * 5 + 2) (by omega)
        obtain ⟨u3', y3⟩ := hcell (i * 5 + 3) (by omega)
        have y4 := c4
        have hff : ∀ j, wr.frozen? ⟨g, j, none⟩ = false := fun j => Lib.frozen_of_heap hg2 j
        have f0' := hff (i * 5)
        have f1' := hff (i * 5 + 1)
        have f2' := hff (i * 5 + 2)
        have f3' := hff (i * 5 + 3)
        have f4' := hff (i * 5 + 4)
        clear hw hg hgc hg2 hcell hff c4 HW
        go_wp2_with fail
        go_roundw
        case rel =>
          refine ⟨i + 1, by omega, by go_num, ?_, HRE3.out.file HG3.out.1, ?_, ?_⟩
          · refine ⟨((((HB3.out.1.setCell (p := ⟨g, i * 5, none⟩) HGN.out.2.1 _).setCell (p := ⟨g, i * 5 + 1, none⟩) HGN.out.2.1 _).setCell (p := ⟨g, i * 5 + 2, none⟩) HGN.out.2.1 _).setCell (p := ⟨g, i * 5 + 3, none⟩) HGN.out.2.1 _).setCell (p := ⟨g, i * 5 + 4, none⟩) HGN.out.2.1 _, fun k h1 h2 => ?_⟩
            have hne : k ≠ g := by have := HGN.out.2.2; omega
            rw [heap_setCell_other _ ⟨g, i * 5 + 4, none⟩ _ _ hne, heap_setCell_other _ ⟨g, i * 5 + 3, none⟩ _ _ hne, heap_setCell_other _ ⟨g, i * 5 + 2, none⟩ _ _ hne, heap_setCell_other _ ⟨g, i * 5 + 1, none⟩ _ _ hne, heap_setCell_other _ ⟨g, i * 5, none⟩ _ _ hne]
            exact HB3.out.2 k h1 h2
          · exact ⟨_, heap_setCell_same _ g (i * 5 + 4) _ 59 _ (heap_setCell_same _ g (i * 5 + 3) _ 59 _ (heap_setCell_same _ g (i * 5 + 2) _ 59 _ (heap_setCell_same _ g (i * 5 + 1) _ 59 _ (heap_setCell_same _ g (i * 5) _ 59 _ HG3.out.1)))), by simpa using HG3.out.2⟩
          · show _ = _
            have hne : w.heap.size ≠ g := fun e => HGN.out.1 e.symm
            rw [heap_setCell_other _ ⟨g, i * 5 + 4, none⟩ _ _ hne, heap_setCell_other _ ⟨g, i * 5 + 3, none⟩ _ _ hne, heap_setCell_other _ ⟨g, i * 5 + 2, none⟩ _ _ hne, heap_setCell_other _ ⟨g, i * 5 + 1, none⟩ _ _ hne, heap_setCell_other _ ⟨g, i * 5, none⟩ _ _ hne]
            exact HX3.out
        case measure => simp [intOf]; omega

end Go.Proofs.YtdpighcaieajjabGreat

/- A new volume, by the program; what the laws share. -/
namespace Go.Proofs.YtdpighcaieajjabGreat
open Go.RowKit

def newD (id : Int) : VolD := ⟨id, 0, false, [⟨1, true, 0, [], []⟩], 2⟩
def NewR (id er : Int) (dd : VolD) : Prop := (withinB 1 1073741824 [id] = true ∧ er = 0 ∧ dd = newD id) ∨ (withinB 1 1073741824 [id] = false ∧ er = 1 ∧ dd = Go.Proofs.YtdpighcaieajjabGreat.v0)

theorem own_one (X : World) (n base : Nat) (hn : X.heap.size = n) (hb : base ≤ n) : OwnFiles (X.alloc (.cells #[.int .i64 1, .bool true, .int .i64 0, .slice none 0 0, .slice none 0 0] 59)) base (.slice (some ⟨n, 0, none⟩) 1 1) [⟨1, true, 0, [], []⟩] := by
  subst hn
  refine ⟨[⟨⟨1, true, 0, [], []⟩, .slice none 0 0, .slice none 0 0⟩], rfl, ⟨rfl, .inr ⟨X.heap.size, 1, _, rfl, hb, heap_alloc_new X _, Nat.le_refl 1, by decide, rfl, rfl⟩⟩, fun g hg => ?_⟩
  obtain rfl : g = ⟨⟨1, true, 0, [], []⟩, .slice none 0 0, .slice none 0 0⟩ := by simpa using hg
  exact ⟨⟨rfl, .inl ⟨rfl, rfl⟩⟩, ⟨rfl, .inl ⟨rfl, rfl⟩⟩⟩
set_option maxRecDepth 100000 in
set_option maxHeartbeats 1000000 in
theorem newv_any (id : Int) (w : World) :
    Calls Tryz.prog 32 #[.int .i64 id] w fun e w' => (∃ u er dd, e = .returned (.tuple #[u, .int .i64 er]) ∧ OwnVol w' w.heap.size u dd ∧ NewR id er dd) ∧ Below w.heap.size w w' := by
  obtain ⟨W1, hW1⟩ : ∃ W1, W1 = (w.alloc (.cells #[.int .i64 0, .int .i64 0, .bool false, .slice none 0 0, .int .i64 0] 24)).alloc (.cells #[.int .i64 id] 3) := ⟨_, rfl⟩
  have HB1 : Hid (Below w.heap.size w W1) := by rw [hW1]; exact nwA (nwA (nwR w) _) _
  have HN1 : Hid (IntsAt W1 (some ⟨w.heap.size + 1, 0, none⟩) [id]) := by
    have := intsAt_new (w.alloc (.cells #[.int .i64 0, .int .i64 0, .bool false, .slice none 0 0, .int .i64 0] 24)) id
    show IntsAt _ _ _; rw [← hW1] at this; simpa using this
  have HR1 : Hid (W1.heap[w.heap.size]? = some (.cells #[.int .i64 0, .int .i64 0, .bool false, .slice none 0 0, .int .i64 0] 24 (0, 0))) := by
    rw [hW1]; exact (Lib.alloc_old _ _ _ (by simp)).trans (heap_alloc_new w _)
  cases hn : withinB 1 1073741824 [id]
  · have HW : Hid (withinB 1 1073741824 [id] = false) := hn
    clear hn
    go_enter Tryz.func32, Tryz.ntmps32
    go_wp2_with fail
    rw [← hW1]
    refine (within_is 1 1073741824 (some ⟨w.heap.size + 1, 0, none⟩) [id] 1 W1 false HN1.out (by simp) HW.out).mono ?_
    rintro e w' ⟨rfl, rfl⟩
    obtain ⟨r0, r1, r2, r3, r4, rf⟩ := five HR1.out
    clear hW1
    go_wp2_with fail
    refine bodyPost_ret (v := .tuple #[.agg #[.int .i64 0, .int .i64 0, .bool false, .slice none 0 0, .int .i64 0], .int .i64 1]) (by simp [results, Tryz.results32, go_sem, r0, r1, r2, r3, r4]) rfl ⟨⟨_, 1, _, rfl, ownVol_zero _ _, .inr ⟨HW.out, rfl, rfl⟩⟩, ?_⟩
    exact five_below HB1.out (Nat.le_refl _)
  · have HW : Hid (withinB 1 1073741824 [id] = true) := hn
    clear hn
    go_enter Tryz.func32, Tryz.ntmps32
    go_wp2_with fail
    rw [← hW1]
    refine (within_is 1 1073741824 (some ⟨w.heap.size + 1, 0, none⟩) [id] 1 W1 true HN1.out (by simp) HW.out).mono ?_
    rintro e w' ⟨rfl, rfl⟩
    have hlt := (Array.getElem?_eq_some_iff.1 HR1.out).1
    obtain ⟨r0, r1, r2, r3, r4, rf⟩ := five HR1.out
    clear hW1
    go_wp2_with fail
    obtain ⟨s0, s1, s2, s3, s4⟩ := five_read (d0 := .int .i64 id) (d1 := .int .i64 0) (d2 := .bool false) (d3 := .slice (some ⟨w'.heap.size, 0, none⟩) 1 1) (d4 := .int .i64 2) HR1.out (.cells #[.int .i64 1, .bool true, .int .i64 0, .slice none 0 0, .slice none 0 0] 59)
    refine bodyPost_ret (v := .tuple #[.agg #[.int .i64 id, .int .i64 0, .bool false, .slice (some ⟨w'.heap.size, 0, none⟩) 1 1, .int .i64 2], .int .i64 0]) (by simp [results, Tryz.results32, go_sem, s0, s1, s2, s3, s4]) rfl ⟨⟨_, 0, newD id, rfl, ⟨_, rfl, ?_⟩, .inl ⟨HW.out, rfl, rfl⟩⟩, ?_⟩
    · exact own_one _ w'.heap.size w.heap.size (by simp) (by omega)
    · exact nwA (five_below HB1.out (Nat.le_refl _)) _

set_option maxRecDepth 100000 in
set_option maxHeartbeats 400000 in
theorem errnum_any (n : Int) (w : World) : Calls Tryz.prog 28 #[.int .i64 n] w fun e w' => e = .returned (.int .i64 n) ∧ w' = w := by
  go_enter Tryz.func28, Tryz.ntmps28
  go_wp2_with fail
  go_ret
  exact ⟨rfl, rfl⟩
theorem errnum_w (n : Int) (w : World) : Calls Tryz.prog 28 #[.int .i64 n] w fun e w' => e = .returned (.int .i64 n) ∧ w = w' := (errnum_any n w).mono fun _ _ h => ⟨h.1, h.2.symm⟩

theorem vol_any (v : Value) (d : VolD) (w : World) (hv : VolVal w v d) (hs : SmallV d) :
    Calls Tryz.prog 16 #[v] w fun e w' => SaysB e (VolOk d) ∧ Below w.heap.size w w' := by
  by_cases h : HeadR d
  · exact vol_rest v d w hv hs h
  · exact vol_head v d w hv h

end Go.Proofs.YtdpighcaieajjabGreat

/- A file in a new volume: what making and finding it gives. -/
namespace Go.Proofs.YtdpighcaieajjabGreat
open Go.RowKit

def pa : ByteArray := ⟨#[47, 97]⟩
def na : ByteArray := ⟨#[97]⟩
def wkD : VolD := ⟨5, 0, false, [⟨1, true, 0, [], [(na, 2)]⟩, ⟨2, false, 0, [], []⟩], 3⟩

theorem pa_path : pathN pa = some [na] := by decide +kernel
theorem new_ok : VolOk (newD 5) := by
  refine ⟨by unfold NumOk; decide +kernel, ⟨by unfold HeadOk; decide +kernel, fun k hk => ?_⟩, ⟨fun f hf l hl => ?_, fun k hk => ?_⟩, fun i hi => ?_, by decide +kernel⟩
  · have : k = 0 := by simp [newD] at hk; omega
    subst this
    refine ⟨by unfold IdOk; decide +kernel, ?_⟩
    unfold NodeOk
    exact ⟨by decide +kernel, by decide +kernel, by decide +kernel, fun k hk => by simp [newD, List.getD] at hk⟩
  · simp [newD] at hf; subst hf; simp at hl
  · have : k = 0 := by simp [newD] at hk; omega
    subst this
    exact ⟨fun _ => by decide +kernel, fun h => absurd (by decide +kernel) h⟩
  · have : i = 0 := by simp [newD] at hi; omega
    subst this; exact .root
theorem wk_ok : VolOk wkD := by
  refine ⟨by unfold NumOk; decide +kernel, ⟨by unfold HeadOk; decide +kernel, fun k hk => ?_⟩, ⟨fun f hf l hl => ?_, fun k hk => ?_⟩, fun i hi => ?_, by decide +kernel⟩
  · have : k = 0 ∨ k = 1 := by simp [wkD] at hk; omega
    rcases this with rfl | rfl
    · refine ⟨by unfold IdOk; decide +kernel, ?_⟩
      unfold NodeOk
      refine ⟨by decide +kernel, by decide +kernel, by decide +kernel, fun k hk => ?_⟩
      have : k = 0 := by simp [wkD, List.getD] at hk; omega
      subst this
      exact ⟨by decide +kernel, fun h => absurd h (by omega)⟩
    · refine ⟨by unfold IdOk; decide +kernel, ?_⟩
      unfold NodeOk
      exact ⟨by decide +kernel, by decide +kernel, by decide +kernel, fun k hk => by simp [wkD, List.getD] at hk⟩
  · have h : f = ⟨1, true, 0, [], [(na, 2)]⟩ ∨ f = ⟨2, false, 0, [], []⟩ := by simpa [wkD] using hf
    rcases h with rfl | rfl
    · simp at hl; subst hl; decide +kernel
    · simp at hl
  · have : k = 0 ∨ k = 1 := by simp [wkD] at hk; omega
    rcases this with rfl | rfl
    · exact ⟨fun _ => by decide +kernel, fun h => absurd (by decide +kernel) h⟩
    · exact ⟨fun h => absurd h (by decide +kernel), fun _ => ⟨by decide +kernel, fun h => absurd h (by decide +kernel)⟩⟩
  · have : i = 0 ∨ i = 1 := by simp [wkD] at hi; omega
    rcases this with rfl | rfl
    · exact .root
    · exact .step .root (by decide +kernel)
theorem wake1 {er : Int} {dd : VolD} (h : ChangeR (MakeG (newD 5) pa false) (newD 5) [pa] er dd) : er = 0 ∧ dd = wkD := by
  rcases h with ⟨_, _, _, L, hL, h⟩ | ⟨_, _, h, _⟩ | ⟨h, _⟩
  · rw [pa_path] at hL
    injection hL with hL
    subst hL
    have e : makF (newD 5) [na] = (0, 0) := by decide +kernel
    rw [e] at h
    rcases h with ⟨_, h1, h2⟩ | ⟨h1, _⟩
    · exact ⟨h1, by rw [h2]; decide +kernel⟩
    · exact absurd rfl h1
  · exact absurd h (by decide)
  · exact absurd ⟨new_ok, fun p hp => by simp at hp; subst hp; rw [pa_path]; rfl⟩ h
theorem wake2 {er : Int} {f : FileD} (h : FindR wkD pa er f) : er = 0 ∧ f.id = 2 := by
  rcases h with ⟨_, L, hL, h⟩ | ⟨h, _⟩
  · rw [pa_path] at hL
    injection hL with hL
    subst hL
    have e : findF wkD.files 0 [na] = (1, 0) := by decide +kernel
    rw [e] at h
    rcases h with ⟨_, h1, h2⟩ | ⟨h1, _⟩
    · exact ⟨h1, by rw [h2]; decide +kernel⟩
    · exact absurd rfl h1
  · exact absurd ⟨wk_ok, by rw [pa_path]; rfl⟩ h
theorem wake0 {er : Int} {dd : VolD} (h : NewR 5 er dd) : er = 0 ∧ dd = newD 5 := by
  rcases h with ⟨_, h1, h2⟩ | ⟨h, _⟩
  · exact ⟨h1, h2⟩
  · exact absurd h (by decide +kernel)
theorem small_new (id : Int) : SmallV (newD id) := ⟨by simp [newD], fun f hf => by simp [newD] at hf; subst hf; exact ⟨by simp, by simp⟩⟩
theorem small_wk : SmallV wkD := ⟨by simp [wkD], fun f hf => by
  have h : f = ⟨1, true, 0, [], [(na, 2)]⟩ ∨ f = ⟨2, false, 0, [], []⟩ := by simpa [wkD] using hf
  rcases h with rfl | rfl <;> exact ⟨by simp, by simp⟩⟩

end Go.Proofs.YtdpighcaieajjabGreat

/- What wakes. -/
namespace Go.Proofs.YtdpighcaieajjabGreat
open Go.RowKit

set_option maxRecDepth 100000 in
set_option maxHeartbeats 2000000 in
theorem wakes_any (w : World) : Calls Tryz.prog 11 #[] w fun e w' => e = .returned (.bool true) ∧ Below w.heap.size w w' := by
  go_enter Tryz.func11, Tryz.ntmps11
  go_wp2_with fail
  refine (newv_any 5 _).mono ?_
  rintro e w1 ⟨⟨u, er, dd, rfl, hu, hr⟩, hb1⟩
  obtain ⟨rfl, rfl⟩ := wake0 hr
  have HU : Hid (OwnVol w1 w.heap.size u (newD 5)) := hu
  obtain ⟨fv, rfl, hfv⟩ := hu
  obtain ⟨fa, fc, rfl, _, _⟩ := hfv.at
  have HB1 : Hid (Below w.heap.size w w1) := hb1
  clear hr hfv hb1
  have HB2 : Hid (Below w1.heap.size w1 (w1.alloc (.cells #[.int .i64 5, .int .i64 0, .bool false, .slice fa 1 fc, .int .i64 2] 24))) := nwA (nwR w1) _
  go_wp2_with fail
  refine (make_any _ (newD 5) pa _ (HU.out.val.below HB2.out) (small_new 5)).mono ?_
  rintro e w2 ⟨⟨u2, er2, dd2, rfl, hu2, hr2⟩, hb2⟩
  obtain ⟨rfl, rfl⟩ := wake1 hr2
  have HU2 : Hid (OwnVol w2 (w1.alloc (.cells #[.int .i64 5, .int .i64 0, .bool false, .slice fa 1 fc, .int .i64 2] 24)).heap.size u2 wkD) := hu2
  obtain ⟨fv2, rfl, hfv2⟩ := hu2
  obtain ⟨fa2, fc2, rfl, _, _⟩ := hfv2.at
  have HBX : Hid (Below w.heap.size w w2) := nwT HB1.out (nwT HB2.out hb2)
  clear hr2 hfv2 hb2
  have HB3 : Hid (Below w2.heap.size w2 (w2.alloc (.cells #[.int .i64 5, .int .i64 0, .bool false, .slice fa2 2 fc2, .int .i64 3] 24))) := nwA (nwR w2) _
  have HR3 : Hid ((w2.alloc (.cells #[.int .i64 5, .int .i64 0, .bool false, .slice fa2 2 fc2, .int .i64 3] 24)).heap[w2.heap.size]? = some (.cells #[.int .i64 5, .int .i64 0, .bool false, .slice fa2 2 fc2, .int .i64 3] 24 (0, 0))) := heap_alloc_new w2 _
  go_wp2_with fail
  refine (tfind_any _ wkD pa _ (HU2.out.val.below HB3.out) small_wk (fun L hL => by have := (pathN_some hL).2.2; omega)).mono ?_
  rintro e w3 ⟨⟨u3, er3, f, rfl, hu3, hr3⟩, hb3⟩
  obtain ⟨rfl, hid⟩ := wake2 hr3
  obtain ⟨ab, cb, al, cl, rfl, _⟩ := hu3
  have HBY : Hid (Below w.heap.size w w3) := nwT HBX.out (nwT HB3.out hb3)
  obtain ⟨_, _, _, _, x4, _⟩ := five ((hb3.block _ (Array.getElem?_eq_some_iff.1 HR3.out).1).trans HR3.out)
  have hlt := block_lt_of_cell x4
  simp only at hlt
  clear hr3 hb3
  obtain ⟨fid, fdir, fsize, fbl, fli⟩ := f
  simp only at hid
  subst hid
  simp only [fcells]
  go_wp2_with (go_at_call 28; refine (errnum_w _ _).mono ?_; rintro e w' ⟨rfl, rfl⟩)
  go_ret
  exact ⟨rfl, nwA HBY.out _⟩

end Go.Proofs.YtdpighcaieajjabGreat

/- The law TreeFinds walked. -/
namespace Go.Proofs.YtdpighcaieajjabGreat
open Go.RowKit

def LawOk (F : Nat) : Prop := ∀ (v : Value) (d : VolD) (l : List ActD) (w : World), ScrVal w v d l → LooseV d → LooseA l → Calls Tryz.prog F #[v] w fun e w' => e = .returned (.bool true) ∧ Below w.heap.size w w'
theorem FileVal.lit {w : World} {v : Value} {f : FileD} (h : FileVal w v f) : ∃ ab cb al cl, v = .agg #[.int .i64 f.id, .bool f.dir, .int .i64 f.size, .slice ab f.blocks.length cb, .slice al f.list.length cl] ∧ FileVal w (.agg #[.int .i64 f.id, .bool f.dir, .int .i64 f.size, .slice ab f.blocks.length cb, .slice al f.list.length cl]) f := by
  obtain ⟨ab, cb, al, cl, rfl, h2⟩ := h
  exact ⟨ab, cb, al, cl, rfl, ab, cb, al, cl, rfl, h2⟩
theorem FileOwn.lit {w : World} {base : Nat} {v : Value} {f : FileD} (h : FileOwn w base v f) : ∃ ab cb al cl, v = .agg #[.int .i64 f.id, .bool f.dir, .int .i64 f.size, .slice ab f.blocks.length cb, .slice al f.list.length cl] ∧ OwnFV w base ⟨f, .slice ab f.blocks.length cb, .slice al f.list.length cl⟩ := by
  obtain ⟨bv, lv, rfl, h⟩ := h
  have h2 := h
  obtain ⟨ab, cb, e1, _, _⟩ := h.1.at
  obtain ⟨al, cl, e2, _, _⟩ := h.2.at
  simp only at e1 e2
  subst e1; subst e2
  exact ⟨ab, cb, al, cl, rfl, h2⟩
theorem volval_files {w : World} {d : VolD} {av : Option Addr} {ca : Nat} (h : VolVal w (.agg #[.int .i64 d.id, .int .i64 d.fr, .bool d.snap, .slice av d.files.length ca, .int .i64 d.next]) d) : FilesAt w av d.files := by
  obtain ⟨a, c, e, h, _⟩ := h
  simp only [Value.agg.injEq, Array.mk.injEq, List.cons.injEq, Value.slice.injEq, true_and, and_true] at e
  rw [e.1]; exact h
theorem findR_small {d : VolD} {p : ByteArray} {er : Int} {f : FileD} (h : FindR d p er f) (hs : SmallV d) : SmallF f := by
  have h0 : SmallF f0 := ⟨by simp [f0], by simp [f0]⟩
  have hg : ∀ q, SmallF (d.files.getD q f0) := fun q => by
    by_cases hq : q < d.files.length
    · exact hs.2 _ (getD_mem hq)
    · rw [show d.files.getD q f0 = f0 from by simp [List.getD, List.getElem?_eq_none (show d.files.length ≤ q by omega)]]; exact h0
  rcases h with ⟨_, L, _, ⟨_, _, h⟩ | ⟨_, _, h⟩⟩ | ⟨_, _, h⟩
  · rw [h]; exact hg _
  · rw [h]; exact h0
  · rw [h]; exact h0
theorem intsAt_three (w : World) (a b c : Int) : IntsAt (w.alloc (.cells #[.int .i64 a, .int .i64 b, .int .i64 c] 3)) (some ⟨w.heap.size, 0, none⟩) [a, b, c] :=
  .inr ⟨w.heap.size, 0, rfl, fun i hi => by
    have : i = 0 ∨ i = 1 ∨ i = 2 := by simp at hi; omega
    rcases this with rfl | rfl | rfl <;> simp⟩
theorem newR_small {id er : Int} {dd : VolD} (h : NewR id er dd) : SmallV dd := by
  rcases h with ⟨_, _, rfl⟩ | ⟨_, _, rfl⟩
  · exact small_new id
  · exact ⟨by simp [v0], fun f hf => by simp [v0] at hf⟩
theorem five_other {w : World} {g k : Nat} {c0 c1 c2 c3 c4 : Value} {o : Obj} (h : w.heap[k]? = some o) (hk : k ≠ g) : (((((w.setCell ⟨g, 0, none⟩ c0).setCell ⟨g, 1, none⟩ c1).setCell ⟨g, 2, none⟩ c2).setCell ⟨g, 3, none⟩ c3).setCell ⟨g, 4, none⟩ c4).heap[k]? = some o := by
  rw [heap_setCell_other _ ⟨g, 4, none⟩ k _ hk, heap_setCell_other _ ⟨g, 3, none⟩ k _ hk, heap_setCell_other _ ⟨g, 2, none⟩ k _ hk, heap_setCell_other _ ⟨g, 1, none⟩ k _ hk, heap_setCell_other _ ⟨g, 0, none⟩ k _ hk, h]
theorem OwnVol.lit {w : World} {base : Nat} {v : Value} {d : VolD} (h : OwnVol w base v d) : ∃ fa fc, v = .agg #[.int .i64 d.id, .int .i64 d.fr, .bool d.snap, .slice fa d.files.length fc, .int .i64 d.next] ∧ VolVal w (.agg #[.int .i64 d.id, .int .i64 d.fr, .bool d.snap, .slice fa d.files.length fc, .int .i64 d.next]) d := by
  have hv := h.val
  obtain ⟨fv, rfl, hfv⟩ := h
  obtain ⟨fa, fc, rfl, _, _⟩ := hfv.at
  exact ⟨fa, fc, rfl, hv⟩

end Go.Proofs.YtdpighcaieajjabGreat

/- What stands behind the switch of the law's step. -/
namespace Go.Proofs.YtdpighcaieajjabGreat
open Go.RowKit Go.Sort

theorem three {w : World} {g : Nat} {c0 c1 c2 : Value} {t : TypeId} (h : w.heap[g]? = some (.cells #[c0, c1, c2] t (0, 0))) :
    w.cell? ⟨g, 0, none⟩ = some c0 ∧ w.cell? ⟨g, 1, none⟩ = some c1 ∧ w.cell? ⟨g, 2, none⟩ = some c2 :=
  ⟨by rw [Lib.cell_of_heap h]; rfl, by rw [Lib.cell_of_heap h]; rfl, by rw [Lib.cell_of_heap h]; rfl⟩
structure BoxQ (n0 gi : Nat) (oV oA oR oI : Obj) (w : World) : Prop where
  v : w.heap[n0]? = some oV
  a : w.heap[n0 + 1]? = some oA
  r : w.heap[n0 + 2]? = some oR
  i : w.heap[gi]? = some oI
theorem BoxQ.below {n0 gi : Nat} {oV oA oR oI : Obj} {w w' : World} {n : Nat} (h : BoxQ n0 gi oV oA oR oI w) (hn : n0 + 2 < n ∧ gi < n) (hb : Below n w w') : BoxQ n0 gi oV oA oR oI w' :=
  ⟨(hb.block _ (by omega)).trans h.v, (hb.block _ (by omega)).trans h.a, (hb.block _ (by omega)).trans h.r, (hb.block _ (by omega)).trans h.i⟩
theorem BoxQ.lt {n0 gi : Nat} {oV oA oR oI : Obj} {w : World} (h : BoxQ n0 gi oV oA oR oI w) : n0 + 2 < w.heap.size ∧ gi < w.heap.size := ⟨(Array.getElem?_eq_some_iff.1 h.r).1, (Array.getElem?_eq_some_iff.1 h.i).1⟩

structure StepJ (W5 : World) (dd : VolD) (fx : Option Addr) (cx : Nat) (fw : Option Addr) (cw : Nat) (wx : World) : Prop where
  below : Below W5.heap.size W5 wx
  x : wx.heap[W5.heap.size]? = some (.cells #[.int .i64 dd.id, .int .i64 dd.fr, .bool dd.snap, .slice fx dd.files.length cx, .int .i64 dd.next] 24 (0, 0))
  wnt : wx.heap[W5.heap.size + 1]? = some (.cells #[.int .i64 dd.id, .int .i64 dd.fr, .bool dd.snap, .slice fw dd.files.length cw, .int .i64 dd.next] 24 (0, 0))
  vx : OwnFiles wx (W5.heap.size + 2) (.slice fx dd.files.length cx) dd.files
  top : ∃ top, W5.heap.size + 2 ≤ top ∧ top ≤ wx.heap.size ∧ SpoilX wx (W5.heap.size + 2) top fx dd.files.length ∧ OwnFiles wx top (.slice fw dd.files.length cw) dd.files
  small : SmallV dd
theorem alloc2_size (w : World) (a b : Obj) : ((w.alloc a).alloc b).heap.size = w.heap.size + 2 := by simp
theorem ownF_set5 {w : World} {base : Nat} {v : Value} {fs : List FileD} (h : OwnFiles w base v fs) {g : Nat} (hg : g < base) (a b c d e : Value) : OwnFiles (((((w.setCell ⟨g, 0, none⟩ a).setCell ⟨g, 1, none⟩ b).setCell ⟨g, 2, none⟩ c).setCell ⟨g, 3, none⟩ d).setCell ⟨g, 4, none⟩ e) base v fs :=
  ((((h.set 0 hg _).set 1 hg _).set 2 hg _).set 3 hg _).set 4 hg _
theorem spX_set5 {w : World} {base top n : Nat} {fa : Option Addr} (h : SpoilX w base top fa n) {g : Nat} (hg : g < base) (a b c d e : Value) : SpoilX (((((w.setCell ⟨g, 0, none⟩ a).setCell ⟨g, 1, none⟩ b).setCell ⟨g, 2, none⟩ c).setCell ⟨g, 3, none⟩ d).setCell ⟨g, 4, none⟩ e) base top fa n :=
  ((((h.set 0 hg _).set 1 hg _).set 2 hg _).set 3 hg _).set 4 hg _
theorem size_set5 (w : World) (g : Nat) (a b c d e : Value) : (((((w.setCell ⟨g, 0, none⟩ a).setCell ⟨g, 1, none⟩ b).setCell ⟨g, 2, none⟩ c).setCell ⟨g, 3, none⟩ d).setCell ⟨g, 4, none⟩ e).heap.size = w.heap.size := by simp
/-- behind the program's call and its answer stored -/
structure StepA (W5 : World) (dd : VolD) (fx : Option Addr) (cx : Nat) (top : Nat) (wx : World) : Prop where
  below : Below W5.heap.size W5 wx
  x : wx.heap[W5.heap.size]? = some (.cells #[.int .i64 dd.id, .int .i64 dd.fr, .bool dd.snap, .slice fx dd.files.length cx, .int .i64 dd.next] 24 (0, 0))
  wnt : wx.heap[W5.heap.size + 1]? = some (.cells #[.int .i64 0, .int .i64 0, .bool false, .slice none 0 0, .int .i64 0] 24 (0, 0))
  vx : OwnFiles wx (W5.heap.size + 2) (.slice fx dd.files.length cx) dd.files
  size : wx.heap.size = top ∧ W5.heap.size + 2 ≤ top
  sp : SpoilX wx (W5.heap.size + 2) top fx dd.files.length
theorem stepA {W5 W9 wA : World} {dd : VolD} {fx : Option Addr} {cx : Nat} (h9 : W9 = (W5.alloc (.cells #[.int .i64 0, .int .i64 0, .bool false, .slice none 0 0, .int .i64 0] 24)).alloc (.cells #[.int .i64 0, .int .i64 0, .bool false, .slice none 0 0, .int .i64 0] 24)) (hbA : Below W9.heap.size W9 wA) (hfv : OwnFiles wA W9.heap.size (.slice fx dd.files.length cx) dd.files) (hs : SmallV dd) :
    StepA W5 dd fx cx wA.heap.size (((((wA.setCell ⟨W5.heap.size, 0, none⟩ (.int .i64 dd.id)).setCell ⟨W5.heap.size, 1, none⟩ (.int .i64 dd.fr)).setCell ⟨W5.heap.size, 2, none⟩ (.bool dd.snap)).setCell ⟨W5.heap.size, 3, none⟩ (.slice fx dd.files.length cx)).setCell ⟨W5.heap.size, 4, none⟩ (.int .i64 dd.next)) := by
  have hsz : W9.heap.size = W5.heap.size + 2 := by rw [h9]; exact alloc2_size _ _ _
  have hX : W9.heap[W5.heap.size]? = some (.cells #[.int .i64 0, .int .i64 0, .bool false, .slice none 0 0, .int .i64 0] 24 (0, 0)) := by rw [h9]; exact (Lib.alloc_old _ _ _ (by simp)).trans (heap_alloc_new W5 _)
  have hW : W9.heap[W5.heap.size + 1]? = some (.cells #[.int .i64 0, .int .i64 0, .bool false, .slice none 0 0, .int .i64 0] 24 (0, 0)) := by rw [h9]; exact heap_alloc_new2 W5 _ _
  have hb9 : Below W5.heap.size W5 W9 := by rw [h9]; exact nwA (nwA (nwR W5) _) _
  rw [hsz] at hfv
  have hz := hbA.size
  refine ⟨five_below (nwT hb9 hbA) (Nat.le_refl _), five_set ((hbA.block _ (by omega)).trans hX), five_aside ((hbA.block _ (by omega)).trans hW) (Nat.succ_ne_self _), ownF_set5 hfv (by omega) _ _ _ _ _, ⟨size_set5 _ _ _ _ _ _ _, by omega⟩, spX_set5 (SpoilX.of_own hfv hs.1 hs.2) (by omega) _ _ _ _ _⟩
theorem StepA.bad {W5 wx : World} {dd : VolD} {fx : Option Addr} {cx top : Nat} (h : StepA W5 dd fx cx top wx) (hdd : dd = Go.Proofs.YtdpighcaieajjabGreat.v0) : StepJ W5 dd fx cx none 0 wx := by
  subst hdd
  refine ⟨h.below, h.x, h.wnt, h.vx, ⟨top, h.size.2, by rw [h.size.1]; exact Nat.le_refl _, h.sp, ?_⟩, small_v0⟩
  exact ⟨[], rfl, World.ownsRow_nil _ _ _ _, fun g hg => by simp at hg⟩
theorem StepA.good {W5 wx wB : World} {dd : VolD} {fx : Option Addr} {cx top : Nat} {fw : Option Addr} {cw : Nat} (h : StepA W5 dd fx cx top wx) (hbB : Below wx.heap.size wx wB) (hfw : OwnFiles wB wx.heap.size (.slice fw dd.files.length cw) dd.files) (hs : SmallV dd) :
    StepJ W5 dd fx cx fw cw (((((wB.setCell ⟨(W5.heap.size + 1), 0, none⟩ (.int .i64 dd.id)).setCell ⟨(W5.heap.size + 1), 1, none⟩ (.int .i64 dd.fr)).setCell ⟨(W5.heap.size + 1), 2, none⟩ (.bool dd.snap)).setCell ⟨(W5.heap.size + 1), 3, none⟩ (.slice fw dd.files.length cw)).setCell ⟨(W5.heap.size + 1), 4, none⟩ (.int .i64 dd.next)) := by
  have hz := h.size
  have hz2 := hbB.size
  refine ⟨five_below (nwT h.below hbB) (Nat.le_succ _), five_other ((hbB.block _ (by omega)).trans h.x) (Nat.ne_of_lt (Nat.lt_succ_self _)), five_set ((hbB.block _ (by omega)).trans h.wnt), ownF_set5 (h.vx.below hbB) (by omega) _ _ _ _ _, ⟨top, hz.2, by rw [size_set5]; omega, spX_set5 (h.sp.below hbB) (by omega) _ _ _ _ _, ?_⟩, hs⟩
  rw [← hz.1]
  exact ownF_set5 hfw (by omega) _ _ _ _ _
theorem errI_zero (b : Bool) : (errI b == 0) = b ∧ decide (errI b = 0) = b := by cases b <;> simp [errI]

end Go.Proofs.YtdpighcaieajjabGreat
