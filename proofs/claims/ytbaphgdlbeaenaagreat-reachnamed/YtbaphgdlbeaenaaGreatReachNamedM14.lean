/- Laid together: Wakes, Spoil, Gonelaw, Placesp, Countsp, Countsq, Delv, Delw. -/
import Derived.Test.YtbaphgdlbeaenaaGreatReachNamedM13
/- A volume of one file with one block names that block: what each law asks at its end. -/
namespace Go.Proofs.YtbaphgdlbeaenaaGreat
open Go.RowKit

def na : ByteArray := ⟨#[97]⟩
def wkD : VolD := ⟨1, 0, false, [⟨1, true, 0, [], [(na, 2)]⟩, ⟨2, false, 1, [7], []⟩], 3⟩
theorem wk_ok : VolOk wkD := by
  refine ⟨by unfold NumOk; decide +kernel, ⟨by unfold HeadOk; decide +kernel, fun k hk => ?_⟩, ⟨fun f hf l hl => ?_, fun k hk => ?_⟩, fun i hi => ?_, by decide +kernel⟩
  · have : k = 0 ∨ k = 1 := by simp [wkD] at hk; omega
    rcases this with rfl | rfl
    · refine ⟨by unfold IdOk; decide +kernel, ?_⟩
      unfold NodeOk
      refine ⟨by decide +kernel, by decide +kernel, by decide +kernel, fun k hk => ?_⟩
      have : k = 0 := by simp [wkD, List.getD] at hk; omega
      subst this
      exact ⟨by decide +kernel, fun h => absurd h (by omega)⟩
    · refine ⟨by unfold IdOk; decide +kernel, ?_⟩
      unfold NodeOk
      refine ⟨by decide +kernel, by decide +kernel, by decide +kernel, fun k hk => ?_⟩
      have : k = 0 := by simp [wkD, List.getD] at hk; omega
      subst this
      decide +kernel
  · have h : f = ⟨1, true, 0, [], [(na, 2)]⟩ ∨ f = ⟨2, false, 1, [7], []⟩ := by simpa [wkD] using hf
    rcases h with rfl | rfl
    · simp at hl; subst hl; decide +kernel
    · simp at hl
  · have : k = 0 ∨ k = 1 := by simp [wkD] at hk; omega
    rcases this with rfl | rfl
    · exact ⟨fun _ => by decide +kernel, fun h => absurd (by decide +kernel) h⟩
    · exact ⟨fun h => absurd h (by decide +kernel), fun _ => ⟨by decide +kernel, fun h => absurd h (by decide +kernel)⟩⟩
  · have : i = 0 ∨ i = 1 := by simp [wkD] at hi; omega
    rcases this with rfl | rfl
    · exact .root
    · exact .step .root (by decide +kernel)
theorem wks_ok : VolsOk [wkD] 2 := by
  refine ⟨⟨by simp, by omega, by omega⟩, fun k hk => ?_⟩
  have : k = 0 := by simpa using hk
  subst this
  exact ⟨wk_ok, ⟨by decide +kernel, by decide +kernel⟩, fun h => absurd h (by decide +kernel)⟩
theorem wks_small : SmallW [wkD] := ⟨by simp, fun d hd => by
  simp at hd; subst hd
  exact ⟨by simp [wkD], fun f hf => by
    have h : f = ⟨1, true, 0, [], [(na, 2)]⟩ ∨ f = ⟨2, false, 1, [7], []⟩ := by simpa [wkD] using hf
    rcases h with rfl | rfl <;> exact ⟨by simp, by simp⟩⟩⟩
theorem wks_named : risN (placesW [wkD]) = [7] := by decide +kernel

theorem errnum_any (er : Int) (w : World) : Calls Tryz.prog 11 #[.int .i64 er] w fun e w' => e = .returned (.int .i64 er) ∧ w' = w := by
  go_enter Tryz.func11, Tryz.ntmps11
  go_wp2_with fail
  go_ret
  exact ⟨rfl, rfl⟩
theorem errnum_is (er r : Int) (h : er = r) (w : World) : Calls Tryz.prog 11 #[.int .i64 er] w fun e w' => e = .returned (.int .i64 r) ∧ w' = w := by
  subst h; exact errnum_any er w
theorem eqNums_is (a b : Option Addr) (xs ys : List Int) (ca cb : Nat) (r : Bool) (w : World) (hx : IntsAt w a xs) (hy : IntsAt w b ys) (hl : xs.length ≤ maxLen) (hr : decide (xs = ys) = r) :
    Calls Tryz.prog 12 #[.slice a xs.length ca, .slice b ys.length cb] w fun e w' => e = .returned (.bool r) ∧ ∃ q, w' = w.drewN q := by
  rw [← hr]; exact eqNums_any a b xs ys ca cb w hx hy hl

/-- where the builds of the walk lay it -/
def wkW (w : World) : World := (((w.alloc (.cells #[.string ⟨#[97]⟩, .int .i64 2] 71)).alloc (.cells #[.int .i64 7] 3)).alloc (.cells #[.int .i64 1, .bool true, .int .i64 0, .slice none 0 0, .slice (some ⟨w.heap.size, 0, none⟩) 1 1, .int .i64 2, .bool false, .int .i64 1, .slice (some ⟨w.heap.size + 1, 0, none⟩) 1 1, .slice none 0 0] 74)).alloc (.cells #[.int .i64 1, .int .i64 0, .bool false, .slice (some ⟨w.heap.size + 1 + 1, 0, none⟩) 2 2, .int .i64 3] 48)
theorem wkW_blocks (w : World) : (wkW w).heap[w.heap.size]? = some (.cells #[.string ⟨#[97]⟩, .int .i64 2] 71 (0, 0)) ∧ (wkW w).heap[w.heap.size + 1]? = some (.cells #[.int .i64 7] 3 (0, 0)) ∧ (wkW w).heap[w.heap.size + 1 + 1]? = some (.cells #[.int .i64 1, .bool true, .int .i64 0, .slice none 0 0, .slice (some ⟨w.heap.size, 0, none⟩) 1 1, .int .i64 2, .bool false, .int .i64 1, .slice (some ⟨w.heap.size + 1, 0, none⟩) 1 1, .slice none 0 0] 74 (0, 0)) ∧ (wkW w).heap[w.heap.size + 1 + 1 + 1]? = some (.cells #[.int .i64 1, .int .i64 0, .bool false, .slice (some ⟨w.heap.size + 1 + 1, 0, none⟩) 2 2, .int .i64 3] 48 (0, 0)) := by
  unfold wkW
  have hA := heap_alloc_new w (.cells #[.string ⟨#[97]⟩, .int .i64 2] 71)
  have sA : (w.alloc (.cells #[.string ⟨#[97]⟩, .int .i64 2] 71)).heap.size = w.heap.size + 1 := by simp
  generalize w.alloc (.cells #[.string ⟨#[97]⟩, .int .i64 2] 71) = A at hA sA ⊢
  have hB := heap_alloc_new A (.cells #[.int .i64 7] 3)
  have bB : Below A.heap.size A (A.alloc (.cells #[.int .i64 7] 3)) := nwA (nwR A) _
  have sB : (A.alloc (.cells #[.int .i64 7] 3)).heap.size = w.heap.size + 1 + 1 := by simp [sA]
  rw [sA] at hB
  generalize A.alloc (.cells #[.int .i64 7] 3) = B at hB bB sB ⊢
  have hC := heap_alloc_new B (.cells #[.int .i64 1, .bool true, .int .i64 0, .slice none 0 0, .slice (some ⟨w.heap.size, 0, none⟩) 1 1, .int .i64 2, .bool false, .int .i64 1, .slice (some ⟨w.heap.size + 1, 0, none⟩) 1 1, .slice none 0 0] 74)
  have bC : Below B.heap.size B (B.alloc (.cells #[.int .i64 1, .bool true, .int .i64 0, .slice none 0 0, .slice (some ⟨w.heap.size, 0, none⟩) 1 1, .int .i64 2, .bool false, .int .i64 1, .slice (some ⟨w.heap.size + 1, 0, none⟩) 1 1, .slice none 0 0] 74)) := nwA (nwR B) _
  have sC : (B.alloc (.cells #[.int .i64 1, .bool true, .int .i64 0, .slice none 0 0, .slice (some ⟨w.heap.size, 0, none⟩) 1 1, .int .i64 2, .bool false, .int .i64 1, .slice (some ⟨w.heap.size + 1, 0, none⟩) 1 1, .slice none 0 0] 74)).heap.size = w.heap.size + 1 + 1 + 1 := by simp [sB]
  rw [sB] at hC
  generalize B.alloc (.cells #[.int .i64 1, .bool true, .int .i64 0, .slice none 0 0, .slice (some ⟨w.heap.size, 0, none⟩) 1 1, .int .i64 2, .bool false, .int .i64 1, .slice (some ⟨w.heap.size + 1, 0, none⟩) 1 1, .slice none 0 0] 74) = C at hC bC sC ⊢
  have hD := heap_alloc_new C (.cells #[.int .i64 1, .int .i64 0, .bool false, .slice (some ⟨w.heap.size + 1 + 1, 0, none⟩) 2 2, .int .i64 3] 48)
  have bD : Below C.heap.size C (C.alloc (.cells #[.int .i64 1, .int .i64 0, .bool false, .slice (some ⟨w.heap.size + 1 + 1, 0, none⟩) 2 2, .int .i64 3] 48)) := nwA (nwR C) _
  rw [sC] at hD
  refine ⟨?_, ?_, ?_, hD⟩
  · exact (bD.block _ (by omega)).trans ((bC.block _ (by omega)).trans ((bB.block _ (by omega)).trans hA))
  · exact (bD.block _ (by omega)).trans ((bC.block _ (by omega)).trans hB)
  · exact (bD.block _ (by omega)).trans hC
theorem wkW_at (w : World) : VolsAt (wkW w) (some ⟨w.heap.size + 1 + 1 + 1, 0, none⟩) [wkD] := by
  obtain ⟨hA, hB, hC, hD⟩ := wkW_blocks w
  generalize wkW w = W at hA hB hC hD ⊢
  refine .inr ⟨w.heap.size + 1 + 1 + 1, 0, rfl, fun i hi => ?_⟩
  have : i = 0 := by simpa using hi
  subst this
  refine ⟨some ⟨w.heap.size + 1 + 1, 0, none⟩, 2, ⟨by rw [Lib.cell_of_heap hD]; rfl, by rw [Lib.cell_of_heap hD]; rfl, by rw [Lib.cell_of_heap hD]; rfl, by rw [Lib.cell_of_heap hD]; rfl, by rw [Lib.cell_of_heap hD]; rfl⟩, ?_, ?_⟩
  · refine .inr ⟨w.heap.size + 1 + 1, 0, rfl, fun i hi => ?_⟩
    have : i = 0 ∨ i = 1 := by simp [wkD] at hi; omega
    rcases this with rfl | rfl
    · refine ⟨none, 0, some ⟨w.heap.size, 0, none⟩, 1, ⟨by rw [Lib.cell_of_heap hC]; rfl, by rw [Lib.cell_of_heap hC]; rfl, by rw [Lib.cell_of_heap hC]; rfl, by rw [Lib.cell_of_heap hC]; rfl, by rw [Lib.cell_of_heap hC]; rfl⟩, ⟨.inl rfl, ?_⟩, ?_, ?_⟩
      · exact ⟨by simp [wkD], fun _ => rfl, fun p e => (by cases e)⟩
      · refine .inr ⟨w.heap.size, 0, rfl, fun i hi => ?_⟩
        have : i = 0 := by simpa [wkD] using hi
        subst this
        exact ⟨by rw [Lib.cell_of_heap hA]; rfl, by rw [Lib.cell_of_heap hA]; rfl⟩
      · exact ⟨by simp [wkD], fun e => (by cases e), fun p e h => (by injection e with e; rw [← e])⟩
    · refine ⟨some ⟨w.heap.size + 1, 0, none⟩, 1, none, 0, ⟨by rw [Lib.cell_of_heap hC]; rfl, by rw [Lib.cell_of_heap hC]; rfl, by rw [Lib.cell_of_heap hC]; rfl, by rw [Lib.cell_of_heap hC]; rfl, by rw [Lib.cell_of_heap hC]; rfl⟩, ⟨?_, ?_⟩, .inl rfl, ?_⟩
      · refine .inr ⟨w.heap.size + 1, 0, rfl, fun i hi => ?_⟩
        have : i = 0 := by simpa [wkD] using hi
        subst this
        rw [Lib.cell_of_heap hB]; rfl
      · exact ⟨by simp [wkD], fun e => (by cases e), fun p e h => (by injection e with e; rw [← e])⟩
      · exact ⟨by simp [wkD], fun _ => rfl, fun p e => (by cases e)⟩
  · exact ⟨by simp [wkD], fun e => (by cases e), fun p e h => (by injection e with e; rw [← e])⟩

set_option maxRecDepth 100000 in
set_option maxHeartbeats 4000000 in
theorem wakes_any (w : World) : Calls Tryz.prog 18 #[] w fun e w' => e = .returned (.bool true) ∧ Below w.heap.size w w' := by
  have HNA : Hid (Calls Tryz.prog 7 #[.slice (some ⟨w.heap.size + 1 + 1 + 1, 0, none⟩) 1 1, .int .i64 2] (wkW w) fun e w' => (∃ u, e = .returned (.tuple #[u, .int .i64 0]) ∧ OwnInts w' (wkW w).heap.size u [7]) ∧ Below (wkW w).heap.size (wkW w) w') := by
    refine (named_any _ [wkD] 1 2 (wkW w) (wkW_at w) wks_small).mono ?_
    rintro e w' ⟨⟨u, er, ys, rfl, h1, ⟨_, rfl, rfl⟩ | ⟨h, _⟩⟩, hb⟩
    · rw [wks_named] at h1
      exact ⟨⟨u, rfl, h1⟩, hb⟩
    · exact absurd wks_ok h
  have HB0 : Hid (Below w.heap.size w (wkW w)) := nwA (nwA (nwA (nwA (nwR w) _) _) _) _
  unfold wkW at HNA HB0
  go_enter Tryz.func18, Tryz.ntmps18
  go_wp2_with fail
  generalize (((w.alloc (.cells #[.string ⟨#[97]⟩, .int .i64 2] 71)).alloc (.cells #[.int .i64 7] 3)).alloc (.cells #[.int .i64 1, .bool true, .int .i64 0, .slice none 0 0, .slice (some ⟨w.heap.size, 0, none⟩) 1 1, .int .i64 2, .bool false, .int .i64 1, .slice (some ⟨w.heap.size + 1, 0, none⟩) 1 1, .slice none 0 0] 74)).alloc (.cells #[.int .i64 1, .int .i64 0, .bool false, .slice (some ⟨w.heap.size + 1 + 1, 0, none⟩) 2 2, .int .i64 3] 48) = W0 at HNA HB0 ⊢
  refine HNA.out.mono ?_
  rintro e w1 ⟨⟨u, rfl, ho⟩, hb⟩
  obtain ⟨au, cu, rfl, hau, _⟩ := id ho.at
  have HB1 : Hid (Below w.heap.size w w1) := nwT HB0.out hb
  have HAU : Hid (IntsAt w1 au [7]) := hau
  clear HNA hau ho hb
  go_wp2_with (go_at_call 11; refine (errnum_any _ _).mono ?_; rintro e w' ⟨rfl, rfl⟩)
  rename World => w2
  have HEQ : Hid (Calls Tryz.prog 12 #[.slice au 1 cu, .slice (some ⟨w2.heap.size, 0, none⟩) 1 1] (w2.alloc (.cells #[.int .i64 7] 3)) fun e w' => e = .returned (.bool true) ∧ ∃ q, w' = (w2.alloc (.cells #[.int .i64 7] 3)).drewN q) :=
    eqNums_is au _ [7] [7] cu 1 true _ (HAU.out.below (nwA (nwR w2) _)) (.inr ⟨w2.heap.size, 0, rfl, fun i hi => by
      have : i = 0 := by simpa using hi
      subst this; simp⟩) (by decide) (by decide)
  have HB2 : Hid (Below w.heap.size w (w2.alloc (.cells #[.int .i64 7] 3))) := nwA HB1.out _
  refine HEQ.out.mono ?_
  rintro e w3 ⟨rfl, q, rfl⟩
  clear HEQ
  go_wp2_with fail
  go_ret
  exact ⟨rfl, below_drewN HB2.out q⟩

end Go.Proofs.YtbaphgdlbeaenaaGreat

/- An answer written over. -/
namespace Go.Proofs.YtbaphgdlbeaenaaGreat
open Go.RowKit

/-- a row of one's own, of any content -/
def RowX (w : World) (base top : Nat) (e : TypeId) (size : Nat) (v : Value) (n : Nat) : Prop :=
  (v = .slice none 0 0 ∧ n = 0) ∨ ∃ g cap cur, v = .slice (some ⟨g, 0, none⟩) n cap ∧ (base ≤ g ∧ g < top) ∧ w.heap[g]? = some (.cells cur e (0, 0)) ∧ n * size ≤ cur.size
theorem RowX.of_own {w : World} {base : Nat} {e : TypeId} {size : Nat} {v : Value} {n : Nat} {xs : List Value} (h : w.ownsRow base e size v n xs) : RowX w base w.heap.size e size v n := by
  rcases h.2 with h1 | ⟨g, cap, cur, hv, hb, hh, hnc, _, hcs, _⟩
  · exact .inl h1
  · exact .inr ⟨g, cap, cur, hv, ⟨hb, (Array.getElem?_eq_some_iff.1 hh).1⟩, hh, by rw [hcs]; exact Nat.mul_le_mul_right _ hnc⟩
theorem RowX.setCell {w : World} {base top : Nat} {e : TypeId} {size : Nat} {v : Value} {n : Nat} (h : RowX w base top e size v n) (g j : Nat) (u : Value) : RowX (w.setCell ⟨g, j, none⟩ u) base top e size v n := by
  rcases h with h | ⟨g', cap, cur, hv, hb, hh, hc⟩
  · exact .inl h
  · by_cases hg : g' = g
    · subst hg
      exact .inr ⟨g', cap, cur.setIfInBounds j u, hv, hb, heap_setCell_same w g' j cur e u hh, by simpa using hc⟩
    · exact .inr ⟨g', cap, cur, hv, hb, by rw [heap_setCell_other w ⟨g, j, none⟩ g' u hg]; exact hh, hc⟩
theorem RowX.below {w w' : World} {base top : Nat} {e : TypeId} {size : Nat} {v : Value} {n : Nat} (h : RowX w base top e size v n) (hb : Below w.heap.size w w') : RowX w' base top e size v n := by
  rcases h with h | ⟨g', cap, cur, hv, hb', hh, hc⟩
  · exact .inl h
  · exact .inr ⟨g', cap, cur, hv, hb', (hb.block _ (Array.getElem?_eq_some_iff.1 hh).1).trans hh, hc⟩
theorem RowX.lit {w : World} {base top : Nat} {e : TypeId} {size : Nat} {v : Value} {n : Nat} (h : RowX w base top e size v n) : ∃ a cap, v = .slice a n cap ∧ RowX w base top e size (.slice a n cap) n := by
  rcases id h with ⟨rfl, rfl⟩ | ⟨g', cap, cur, rfl, _⟩
  · exact ⟨none, 0, rfl, h⟩
  · exact ⟨_, _, rfl, h⟩
theorem RowX.cell {w : World} {base top : Nat} {e : TypeId} {size : Nat} {a : Option Addr} {n cap : Nat} (h : RowX w base top e size (.slice a n cap) n) (hn : 0 < n) :
    ∃ g cur, a = some ⟨g, 0, none⟩ ∧ (base ≤ g ∧ g < top) ∧ w.heap[g]? = some (.cells cur e (0, 0)) ∧ (∀ i, i < n * size → ∃ u, w.cell? ⟨g, i, none⟩ = some u) ∧ ∀ i, w.frozen? ⟨g, i, none⟩ = false := by
  rcases h with ⟨_, h⟩ | ⟨g', cap', cur, hv, hb', hh, hc⟩
  · omega
  · injection hv with h1 h2 h3
    refine ⟨g', cur, h1, hb', hh, fun i hi => ?_, fun i => Lib.frozen_of_heap hh i⟩
    exact ⟨cur[i]'(by omega), by rw [Lib.cell_of_heap hh]; exact Array.getElem?_eq_getElem (by omega)⟩
/-- what writing into rows of one type leaves -/
structure Wk (T : TypeId) (base top : Nat) (w w' : World) : Prop where
  below : Below base w w'
  rows : ∀ (e : TypeId) (size : Nat) (v : Value) (n : Nat), RowX w base top e size v n → RowX w' base top e size v n
  other : ∀ (k : Nat) (cur : Array Value) (t : TypeId) (fz : Nat × Nat), w.heap[k]? = some (Obj.cells cur t fz) → t ≠ T → w'.heap[k]? = some (Obj.cells cur t fz)
  out : ∀ k : Nat, top ≤ k → k < w.heap.size → w'.heap[k]? = w.heap[k]?
theorem Wk.refl (T : TypeId) (base top : Nat) (w : World) : Wk T base top w w := ⟨Below.refl _ _, fun _ _ _ _ h => h, fun _ _ _ _ h _ => h, fun _ _ _ => rfl⟩
theorem Wk.store {T : TypeId} {base top : Nat} {w w' : World} (h : Wk T base top w w') {g : Nat} {cur : Array Value} (hg : w'.heap[g]? = some (.cells cur T (0, 0))) (hb : base ≤ g ∧ g < top) (j : Nat) (u : Value) : Wk T base top w (w'.setCell ⟨g, j, none⟩ u) := by
  refine ⟨h.below.setCell (p := ⟨g, j, none⟩) hb.1 u, fun e size v n hr => (h.rows e size v n hr).setCell g j u, fun k cur' t fz hk ht => ?_, fun k h1 h2 => ?_⟩
  · have h1 := h.other k cur' t fz hk ht
    rw [heap_setCell_other w' ⟨g, j, none⟩ k u (fun e => ?_)]
    · exact h1
    · have e2 : k = g := e
      rw [e2, hg] at h1
      simp only [Option.some.injEq, Obj.cells.injEq] at h1
      exact ht h1.2.1.symm
  · rw [heap_setCell_other w' ⟨g, j, none⟩ k u (fun e => by have e2 : k = g := e; omega)]
    exact h.out k h1 h2
/-- what of the files is not yet written over -/
def RestX (w : World) (base top g n i : Nat) : Prop := ∀ j, i ≤ j → j < n → ∃ ab nb cb al nl cl, w.cell? ⟨g, j * 5 + 3, none⟩ = some (.slice ab nb cb) ∧ w.cell? ⟨g, j * 5 + 4, none⟩ = some (.slice al nl cl) ∧ RowX w base top 3 1 (.slice ab nb cb) nb ∧ RowX w base top 71 2 (.slice al nl cl) nl ∧ nb ≤ 100000 ∧ nl ≤ 100000
/-- files that may be written over -/
def SpoilX (w : World) (base top : Nat) (fa : Option Addr) (n : Nat) : Prop := n ≤ 100000 ∧ (n = 0 ∨ ∃ g cur, fa = some ⟨g, 0, none⟩ ∧ (base ≤ g ∧ g < top) ∧ w.heap[g]? = some (.cells cur 74 (0, 0)) ∧ n * 5 ≤ cur.size ∧ RestX w base top g n 0)
theorem SpoilX.below {w w' : World} {base top : Nat} {fa : Option Addr} {n : Nat} (h : SpoilX w base top fa n) (hb : Below w.heap.size w w') : SpoilX w' base top fa n := by
  obtain ⟨h0, h⟩ := h
  refine ⟨h0, ?_⟩
  rcases h with h | ⟨g, cur, h1, h2, h3, h4, h5⟩
  · exact .inl h
  · refine .inr ⟨g, cur, h1, h2, (hb.block _ (Array.getElem?_eq_some_iff.1 h3).1).trans h3, h4, fun j hj1 hj2 => ?_⟩
    obtain ⟨ab, nb, cb, al, nl, cl, c3, c4, r3, r4, hn⟩ := h5 j hj1 hj2
    exact ⟨ab, nb, cb, al, nl, cl, (hb.cell (p := ⟨g, j * 5 + 3, none⟩) (block_lt_of_cell c3)).trans c3, (hb.cell (p := ⟨g, j * 5 + 4, none⟩) (block_lt_of_cell c4)).trans c4, r3.below hb, r4.below hb, hn⟩
theorem SpoilX.set {w : World} {base top : Nat} {fa : Option Addr} {n : Nat} (h : SpoilX w base top fa n) {k : Nat} (o : Nat) (hk : k < base) (u : Value) : SpoilX (w.setCell ⟨k, o, none⟩ u) base top fa n := by
  obtain ⟨h0, h⟩ := h
  refine ⟨h0, ?_⟩
  rcases h with h | ⟨g, cur, h1, h2, h3, h4, h5⟩
  · exact .inl h
  · have hne : g ≠ k := by omega
    have h3' : (w.setCell ⟨k, o, none⟩ u).heap[g]? = some (.cells cur 74 (0, 0)) := (heap_setCell_other w ⟨k, o, none⟩ g u hne).trans h3
    refine .inr ⟨g, cur, h1, h2, h3', h4, fun j hj1 hj2 => ?_⟩
    obtain ⟨ab, nb, cb, al, nl, cl, c3, c4, r3, r4, hn⟩ := h5 j hj1 hj2
    refine ⟨ab, nb, cb, al, nl, cl, ?_, ?_, r3.setCell _ _ _, r4.setCell _ _ _, hn⟩
    · rw [Lib.cell_of_heap h3']; rw [Lib.cell_of_heap h3] at c3; exact c3
    · rw [Lib.cell_of_heap h3']; rw [Lib.cell_of_heap h3] at c4; exact c4
theorem OwnFiles.kept {w w' : World} {base : Nat} {v : Value} {fs : List FileD} (h : OwnFiles w base v fs) (hk : ∀ k, base ≤ k → k < w.heap.size → w'.heap[k]? = w.heap[k]?) : OwnFiles w' base v fs := by
  have hr : ∀ {e : TypeId} {size : Nat} {v : Value} {n : Nat} {xs : List Value}, w.ownsRow base e size v n xs → w'.ownsRow base e size v n xs := by
    intro e size v n xs h
    refine ⟨h.1, ?_⟩
    rcases h.2 with h | ⟨g, cap, cur, hv, hb, hh, rest⟩
    · exact .inl h
    · exact .inr ⟨g, cap, cur, hv, hb, (hk g hb (Array.getElem?_eq_some_iff.1 hh).1).trans hh, rest⟩
  obtain ⟨gs, e, ho, ha⟩ := h
  exact ⟨gs, e, hr ho, fun g hg => ⟨hr (ha g hg).1, hr (ha g hg).2⟩⟩

set_option maxRecDepth 100000 in
set_option maxHeartbeats 1000000 in
theorem nums_spoil (a : Option Addr) (n ca base top : Nat) (w : World) (hr : RowX w base top 3 1 (.slice a n ca) n) (hn : n ≤ 100000) :
    Calls Tryz.prog 17 #[.slice a n ca] w fun e w' => e = .returned (.tuple #[]) ∧ Wk 3 base top w w' := by
  have HR : Hid (RowX w base top 3 1 (.slice a n ca) n) := hr
  clear hr
  go_enter Tryz.func17, Tryz.ntmps17
  go_wp2_with fail
  go_loopw [2] (fun ii wr => ∃ (i : Nat), i ≤ n ∧ ii = .int .i64 i ∧ Wk 3 base top w wr) (fun ii _ => n - (intOf ii).toNat)
  case atStart => exact ⟨0, by omega, rfl, Wk.refl _ _ _ _⟩
  case round =>
    obtain ⟨i, hi, rfl, hk⟩ := hrel
    have HK : Hid (Wk 3 base top w wr) := hk
    clear hk
    by_cases hin : (i : Int) < (n : Int)
    · obtain ⟨g, cur, rfl, hbg, hg, hc, hf⟩ := (HK.out.rows _ _ _ _ HR.out).cell (by omega)
      obtain ⟨u, c1⟩ := hc i (by omega)
      have f1 := hf i
      have HK3 : Hid (Wk 3 base top w (wr.setCell ⟨g, i, none⟩ (.int .i64 (-99)))) := HK.out.store hg hbg i _
      clear hc hf hg
      go_wp2_with fail
      first
        | exact ⟨⟨i + 1, by omega, by go_num, HK3.out⟩, by simp [intOf]; omega⟩
        | (go_roundw
           case rel => exact ⟨i + 1, by omega, by go_num, HK3.out⟩
           case measure => simp [intOf]; omega)
    · go_wp2_with fail
      go_end0
      exact ⟨rfl, HK.out⟩

theorem RestX.wk {T : TypeId} {w w' : World} {base top g n i : Nat} {cur : Array Value} (h : RestX w base top g n i) (hk : Wk T base top w w') (hg : w.heap[g]? = some (.cells cur 74 (0, 0))) (ht : (74 : TypeId) ≠ T) : RestX w' base top g n i := by
  intro j h1 h2
  obtain ⟨ab, nb, cb, al, nl, cl, c3, c4, r3, r4, hn⟩ := h j h1 h2
  have hg' := hk.other _ _ _ _ hg ht
  refine ⟨ab, nb, cb, al, nl, cl, ?_, ?_, hk.rows _ _ _ _ r3, hk.rows _ _ _ _ r4, hn⟩
  · rw [Lib.cell_of_heap hg']; rw [Lib.cell_of_heap hg] at c3; exact c3
  · rw [Lib.cell_of_heap hg']; rw [Lib.cell_of_heap hg] at c4; exact c4
theorem five_ne {cur : Array Value} {a b c d e j : Nat} {v0 v1 v2 v3 v4 : Value} (h0 : a ≠ j) (h1 : b ≠ j) (h2 : c ≠ j) (h3 : d ≠ j) (h4 : e ≠ j) : (((((cur.setIfInBounds a v0).setIfInBounds b v1).setIfInBounds c v2).setIfInBounds d v3).setIfInBounds e v4)[j]? = cur[j]? := by
  rw [Array.getElem?_setIfInBounds_ne h4, Array.getElem?_setIfInBounds_ne h3, Array.getElem?_setIfInBounds_ne h2, Array.getElem?_setIfInBounds_ne h1, Array.getElem?_setIfInBounds_ne h0]
theorem RestX.file {w : World} {base top g n i : Nat} {v0 v1 v2 v3 v4 : Value} {cur : Array Value} (h : RestX w base top g n i) (hg : w.heap[g]? = some (.cells cur 74 (0, 0))) :
    RestX (((((w.setCell ⟨g, i * 5, none⟩ v0).setCell ⟨g, i * 5 + 1, none⟩ v1).setCell ⟨g, i * 5 + 2, none⟩ v2).setCell ⟨g, i * 5 + 3, none⟩ v3).setCell ⟨g, i * 5 + 4, none⟩ v4) base top g n (i + 1) := by
  intro j h1 h2
  obtain ⟨ab, nb, cb, al, nl, cl, c3, c4, r3, r4, hn⟩ := h j (by omega) h2
  have e1 := heap_setCell_same w g (i * 5) _ 74 v0 hg
  have e2 := heap_setCell_same _ g (i * 5 + 1) _ 74 v1 e1
  have e3 := heap_setCell_same _ g (i * 5 + 2) _ 74 v2 e2
  have e4 := heap_setCell_same _ g (i * 5 + 3) _ 74 v3 e3
  have e5 := heap_setCell_same _ g (i * 5 + 4) _ 74 v4 e4
  refine ⟨ab, nb, cb, al, nl, cl, ?_, ?_, ((((r3.setCell _ _ _).setCell _ _ _).setCell _ _ _).setCell _ _ _).setCell _ _ _, ((((r4.setCell _ _ _).setCell _ _ _).setCell _ _ _).setCell _ _ _).setCell _ _ _, hn⟩
  · rw [Lib.cell_of_heap e5]
    rw [Lib.cell_of_heap hg] at c3
    rw [five_ne (by omega) (by omega) (by omega) (by omega) (by omega)]
    exact c3
  · rw [Lib.cell_of_heap e5]
    rw [Lib.cell_of_heap hg] at c4
    rw [five_ne (by omega) (by omega) (by omega) (by omega) (by omega)]
    exact c4
theorem SpoilX.of_own {w : World} {base n cap : Nat} {fa : Option Addr} {fs : List FileD} (h : OwnFiles w base (.slice fa n cap) fs) (hl : fs.length ≤ 100000) (hs : ∀ f ∈ fs, SmallF f) : SpoilX w base w.heap.size fa n := by
  obtain ⟨gs, rfl, ho, ha⟩ := h
  rw [List.length_map] at hl
  have ho2 := ho
  rcases ho2.2 with ⟨h1, h2⟩ | ⟨g, cap', cur, h1, h2, h3, h4, h5, h6, _⟩
  · injection h1 with _ h1 _
    exact ⟨by omega, .inl h1⟩
  · injection h1 with h1 hn _
    subst h1
    subst hn
    refine ⟨hl, .inr ⟨g, cur, rfl, ⟨h2, (Array.getElem?_eq_some_iff.1 h3).1⟩, h3, by rw [h6]; exact Nat.mul_le_mul_right _ h4, fun j _ hj => ?_⟩⟩
    have hm := ha gs[j] (List.getElem_mem hj)
    obtain ⟨_, _, _, c3, c4⟩ := fflat_get gs j _ (List.getElem?_eq_getElem hj)
    obtain ⟨ab, cb, eb, _, _⟩ := hm.1.at
    obtain ⟨al, cl, el, _, _⟩ := hm.2.at
    have h3 := RowX.of_own hm.1
    have h4 := RowX.of_own hm.2
    have hsf := hs gs[j].d (List.mem_map.2 ⟨_, List.getElem_mem hj, rfl⟩)
    rw [eb] at c3 h3
    rw [el] at c4 h4
    have e : ∀ j, (⟨g, 0, none⟩ : Addr).add j = ⟨g, 0 + j, none⟩ := fun j => by unfold Addr.add; split <;> simp_all
    have K : ∀ j u, (fflat gs)[j]? = some u → w.cell? ⟨g, j, none⟩ = some u := fun j u hj => by
      have := ho.cells (g := g) rfl j u hj
      rwa [e, Nat.zero_add] at this
    exact ⟨ab, _, cb, al, _, cl, K _ _ c3, K _ _ c4, h3, h4, hsf.1, hsf.2⟩

end Go.Proofs.YtbaphgdlbeaenaaGreat

/- The law ReachGone walked. -/
namespace Go.Proofs.YtbaphgdlbeaenaaGreat
open Go.RowKit

def LawOk (F : Nat) : Prop := ∀ (v : Value) (ds : List VolD) (next : Int) (l : List ActD) (rs : List RowD) (w : World), AskVal w v ds next l rs → LooseW ds → LooseA l → LooseR rs → Calls Tryz.prog F #[v] w fun e w' => e = .returned (.bool true) ∧ Below w.heap.size w w'
theorem RowsAt.take {w : World} {a : Option Addr} {rs : List RowD} (h : RowsAt w a rs) (k : Nat) : RowsAt w a (rs.take k) := by
  rcases h with rfl | ⟨b, o, rfl, hc⟩
  · exact .inl (by simp)
  · refine .inr ⟨b, o, rfl, fun i hi => ?_⟩
    rw [List.length_take] at hi
    have e : (rs.take k).getD i rw0 = rs.getD i rw0 := by simp only [List.getD]; rw [List.getElem?_take_of_lt (by omega)]
    rw [e]; exact hc i (by omega)
theorem row_le_all {rs : List RowD} {r : RowD} (h : r ∈ rs) : r.2.2.length ≤ (allN rs).length := by
  obtain ⟨i, hi, rfl⟩ := List.getElem_of_mem h
  have h1 := allN_take hi
  have h2 := allN_take_le rs (i + 1)
  rw [h1, List.length_append] at h2
  have e : rs.getD i rw0 = rs[i] := by simp [List.getD, hi]
  rw [e] at h2
  omega

end Go.Proofs.YtbaphgdlbeaenaaGreat

/- All blocks of a volume, and which blocks volumes name, by the page. -/
namespace Go.Proofs.YtbaphgdlbeaenaaGreat
open Go.RowKit

def plF (fs : List FileD) : List Int := (fs.map FileD.blocks).flatten
theorem plF_take {fs : List FileD} {k : Nat} (hk : k < fs.length) : plF (fs.take (k + 1)) = plF (fs.take k) ++ (fs.getD k f0).blocks := by
  unfold plF
  rw [List.take_succ_eq_append_getElem hk, List.map_append, List.flatten_append]; simp [List.getD, hk]
theorem plF_take_le (fs : List FileD) (k : Nat) : (plF (fs.take k)).length ≤ (plF fs).length := by
  have e : plF fs = plF (fs.take k) ++ plF (fs.drop k) := by
    unfold plF
    rw [← List.flatten_append, ← List.map_append, List.take_append_drop]
  rw [e, List.length_append]; omega
theorem plF_one (d : VolD) : placesW [d] = plF d.files := by unfold placesW rowsW rowsV plF; simp
theorem placesW_take {ds : List VolD} {k : Nat} (hk : k < ds.length) : placesW (ds.take (k + 1)) = placesW (ds.take k) ++ plF (ds.getD k VZ).files := by
  unfold placesW
  rw [rowsW_take hk, List.flatten_append]; rfl
theorem placesW_take_le (ds : List VolD) (k : Nat) : (placesW (ds.take k)).length ≤ (placesW ds).length := by
  have e : placesW ds = placesW (ds.take k) ++ placesW (ds.drop k) := by
    unfold placesW rowsW
    rw [← List.flatten_append, ← List.flatMap_append, List.take_append_drop]
  rw [e, List.length_append]; omega

set_option maxRecDepth 100000 in
set_option maxHeartbeats 2000000 in
theorem placesP_any (v : Value) (d : VolD) (w : World) (hv : VolVal w v d) (hl : d.files.length ≤ 100000) (hn : (plF d.files).length ≤ 1000000) :
    Calls Tryz.prog 28 #[v] w fun e w' => (∃ u, e = .returned u ∧ OwnInts w' w.heap.size u (plF d.files)) ∧ Below w.heap.size w w' := by
  obtain ⟨a, ca, rfl, hfs, _⟩ := hv
  obtain ⟨vid, fr, sn, fs, nx⟩ := d
  simp only at hfs hl hn ⊢
  have HF : Hid (FilesAt w a fs) := hfs
  have HN : Hid ((plF fs).length ≤ 1000000) := hn
  have HB0 : Hid (Below w.heap.size w (w.alloc (.cells #[.int .i64 vid, .int .i64 fr, .bool sn, .slice a fs.length ca, .int .i64 nx] 48))) := nwA (nwR w) _
  have HX0 : Hid ((w.alloc (.cells #[.int .i64 vid, .int .i64 fr, .bool sn, .slice a fs.length ca, .int .i64 nx] 48)).heap[w.heap.size]? = some (.cells #[.int .i64 vid, .int .i64 fr, .bool sn, .slice a fs.length ca, .int .i64 nx] 48 (0, 0))) := heap_alloc_new w _
  clear hfs hn
  obtain ⟨i0, hi, hz0, hz1, hz2⟩ := info_parts Tryz.info3
  go_enter Tryz.func28, Tryz.ntmps28
  go_wp2_with fail
  go_loopw [3, 4] (fun u i wr => ∃ (k : Nat), k ≤ fs.length ∧ i = .int .i64 k ∧ OwnInts wr (w.heap.size + 1) u (plF (fs.take k)) ∧ Hid (Below w.heap.size w wr ∧ wr.heap[w.heap.size]? = some (.cells #[.int .i64 vid, .int .i64 fr, .bool sn, .slice a fs.length ca, .int .i64 nx] 48 (0, 0))))
    (fun _ i _ => fs.length - (intOf i).toNat)
  case atStart => exact ⟨0, by omega, rfl, World.ownsRow_nil _ _ _ _, HB0.out, HX0.out⟩
  case round =>
    obtain ⟨k, hk, rfl, hO, HW⟩ := hrel
    have HO : Hid (OwnInts wr (w.heap.size + 1) u3 (plF (fs.take k))) := hO
    clear hO HB0 HX0
    obtain ⟨_, _, _, x3, _⟩ := five HW.out.2
    by_cases hkl : k < fs.length
    · have hkli : (k : Int) < (fs.length : Int) := by omega
      have hk0 : (0 : Int) ≤ (k : Int) := by omega
      obtain ⟨b1, o1, rfl, ab, cb, al, cl, ⟨_, _, _, e3, _⟩, ⟨hib, hcb⟩, _⟩ := HF.out.file hkl
      have d3 := (HW.out.1.cell (p := ⟨b1, o1 + k * 5 + 3, none⟩) (block_lt_of_cell e3)).trans e3
      have HS : Hid (plF (fs.take k) ++ (fs.getD k f0).blocks = plF (fs.take (k + 1))) := (plF_take hkl).symm
      have hle : (plF (fs.take k)).length + (fs.getD k f0).blocks.length ≤ 1000000 := by
        rw [← List.length_append, HS.out]; exact Nat.le_trans (plF_take_le fs _) HN.out
      have HIB : Hid (IntsAt wr ab (fs.getD k f0).blocks) := hib.below HW.out.1
      have hcn := hcb.2.1
      clear e3 hib hcb
      generalize (fs.getD k f0).blocks = bl at d3 HS hle HIB
      have hsz : w.heap.size + 1 ≤ wr.heap.size := (Array.getElem?_eq_some_iff.1 HW.out.2).1
      go_wp2_with (at_builtin; refine wpList_append_ints _ rfl (.tmp 12) (.tmp 18) 32 rfl (w.heap.size + 1) i0 (.int .i64 0) Tryz.underlying32 hi hz0 hz1 hz2 rfl u3 (plF (fs.take k)) rfl HO.out ab cb bl rfl HIB.out hcn (by omega) hsz ?_; intro v' w3 hown hgrow; refine unstop ?_)
      unfold Stop
      have hbA : Below (w.heap.size + 1) wr w3 := (Below.refl _ _).grown hgrow hsz (fun q e => (World.ownsRow.lt HO.out q e).1)
      have HB3 : Hid (Below w.heap.size w w3 ∧ w3.heap[w.heap.size]? = some (.cells #[.int .i64 vid, .int .i64 fr, .bool sn, .slice (some ⟨b1, o1, none⟩) fs.length ca, .int .i64 nx] 48 (0, 0))) :=
        ⟨HW.out.1.trans (hbA.mono (by omega)), (hbA.block _ (by omega)).trans HW.out.2⟩
      have HO3 : Hid (OwnInts w3 (w.heap.size + 1) v' (plF (fs.take (k + 1)))) := by rw [← HS.out]; exact hown
      clear hown hgrow hbA x3 d3
      go_wp2_with fail
      go_roundw
      case rel => exact ⟨k + 1, by omega, by go_num, HO3.out, HB3⟩
      case measure => simp [intOf]; omega
    · have hkli : ¬ (k : Int) < (fs.length : Int) := by omega
      have HOE : Hid (OwnInts wr (w.heap.size + 1) u3 (plF fs)) := by have := HO.out; rw [List.take_of_length_le (by omega)] at this; exact this
      clear HO
      obtain ⟨au, cu, rfl, _⟩ := id HOE.out.at
      go_wp2_with fail
      go_ret
      exact ⟨⟨_, rfl, own_le HOE.out (by omega)⟩, HW.out.1⟩

set_option maxRecDepth 100000 in
set_option maxHeartbeats 4000000 in
theorem namedP_any (a : Option Addr) (ds : List VolD) (ca : Nat) (w : World) (hv : VolsAt w a ds) (hf : FewW ds) :
    Calls Tryz.prog 9 #[.slice a ds.length ca] w fun e w' => (∃ u, e = .returned u ∧ OwnInts w' w.heap.size u (risN (placesW ds))) ∧ Below w.heap.size w w' := by
  have HV : Hid (VolsAt w a ds) := hv
  have HF : Hid (FewW ds) := hf
  have hl := hf.vols
  clear hv hf
  obtain ⟨i0, hi, hz0, hz1, hz2⟩ := info_parts Tryz.info3
  go_enter Tryz.func9, Tryz.ntmps9
  go_wp2_with fail
  go_loopw [3, 4] (fun u i wr => ∃ (k : Nat), k ≤ ds.length ∧ i = .int .i64 k ∧ OwnInts wr w.heap.size u (placesW (ds.take k)) ∧ Hid (Below w.heap.size w wr))
    (fun _ i _ => ds.length - (intOf i).toNat)
  case atStart => exact ⟨0, by omega, rfl, World.ownsRow_nil _ _ _ _, nwR w⟩
  case round =>
    obtain ⟨k, hk, rfl, hO, HB⟩ := hrel
    have HO : Hid (OwnInts wr w.heap.size u3 (placesW (ds.take k))) := hO
    clear hO
    by_cases hkl : k < ds.length
    · have hkli : (k : Int) < (ds.length : Int) := by omega
      have hk0 : (0 : Int) ≤ (k : Int) := by omega
      obtain ⟨b1, o1, rfl, hvi⟩ := (HV.out.below HB.out).vol hkl
      obtain ⟨af, cf, ⟨c0, c1, c2, c3, c4⟩, hvl⟩ := hvi.val
      have HS : Hid (placesW (ds.take k) ++ plF (ds.getD k VZ).files = placesW (ds.take (k + 1))) := (placesW_take hkl).symm
      have hle : (placesW (ds.take k)).length + (plF (ds.getD k VZ).files).length ≤ 10000 := by
        rw [← List.length_append, HS.out]; exact Nat.le_trans (placesW_take_le ds _) HF.out.all
      have hfl : (ds.getD k VZ).files.length ≤ 100000 := HF.out.files _ (by simp [List.getD, hkl])
      have HPL : Hid (Calls Tryz.prog 28 #[.agg #[.int .i64 (ds.getD k VZ).id, .int .i64 (ds.getD k VZ).fr, .bool (ds.getD k VZ).snap, .slice af (ds.getD k VZ).files.length cf, .int .i64 (ds.getD k VZ).next]] wr fun e w' => (∃ u, e = .returned u ∧ OwnInts w' wr.heap.size u (plF (ds.getD k VZ).files)) ∧ Below wr.heap.size wr w') := placesP_any _ _ wr hvl hfl (by omega)
      clear hvi hvl
      generalize ds.getD k VZ = d at c0 c1 c2 c3 c4 HS hle HPL
      go_wp2_with fail
      refine HPL.out.mono ?_
      rintro e w2 ⟨⟨v2, rfl, ho2⟩, hb2⟩
      obtain ⟨a2, c2', rfl, ha2, hcap2⟩ := ho2.at
      have HA2 : Hid (IntsAt w2 a2 (plF d.files)) := ha2
      have HO2 : Hid (OwnInts w2 w.heap.size u3 (placesW (ds.take k))) := own_below HO.out hb2
      have HB2 : Hid (Below w.heap.size w w2) := nwT HB.out hb2
      have hcn := hcap2.2.1
      clear c0 c1 c2 c3 c4 ha2 ho2 hb2 hcap2 HPL HO
      go_wp2_with (at_builtin; refine wpList_append_ints _ rfl (.tmp 11) (.tmp 16) 32 rfl w.heap.size i0 (.int .i64 0) Tryz.underlying32 hi hz0 hz1 hz2 rfl u3 (placesW (ds.take k)) rfl HO2.out a2 c2' (plF d.files) rfl HA2.out hcn (by omega) HB2.out.size ?_; intro v' w3 hown hgrow; refine unstop ?_)
      unfold Stop
      have HB3 : Hid (Below w.heap.size w w3) := HB2.out.grown hgrow HB2.out.size (fun q e => (World.ownsRow.lt HO2.out q e).1)
      have HO3 : Hid (OwnInts w3 w.heap.size v' (placesW (ds.take (k + 1)))) := by rw [← HS.out]; exact hown
      clear hown hgrow
      go_wp2_with fail
      go_roundw
      case rel => exact ⟨k + 1, by omega, by go_num, HO3.out, HB3⟩
      case measure => simp [intOf]; omega
    · have hkli : ¬ (k : Int) < (ds.length : Int) := by omega
      have HOE : Hid (OwnInts wr w.heap.size u3 (placesW ds)) := by have := HO.out; rw [List.take_of_length_le (by omega)] at this; exact this
      clear HO
      obtain ⟨av, cv, rfl, hav, _⟩ := id HOE.out.at
      have HRI : Hid (Calls Tryz.prog 29 #[.slice av (placesW ds).length cv] wr fun e w' => (∃ v, e = .returned v ∧ OwnInts w' wr.heap.size v (risN (placesW ds))) ∧ Below wr.heap.size wr w') := rising_any av _ cv wr hav (Nat.le_trans HF.out.all (by omega))
      clear hav
      go_wp2_with fail
      refine HRI.out.mono ?_
      rintro e w2 ⟨⟨v2, rfl, hO2⟩, hb2⟩
      have HO2 : Hid (OwnInts w2 w.heap.size v2 (risN (placesW ds))) := own_le hO2 HB.out.size
      have HB2 : Hid (Below w.heap.size w w2) := nwT HB.out hb2
      clear hO2 hb2 HRI
      go_wp2_with fail
      go_ret
      exact ⟨⟨_, rfl, HO2.out⟩, HB2.out⟩

end Go.Proofs.YtbaphgdlbeaenaaGreat

/- How often each block stands, by the program and by the page. -/
namespace Go.Proofs.YtbaphgdlbeaenaaGreat
open Go.RowKit

/-- how often each block that is named stands -/
def countsN (ds : List VolD) : List Int := cntN (risN (placesW ds)) (placesW ds)

set_option maxRecDepth 100000 in
set_option maxHeartbeats 4000000 in
theorem counts_any (a : Option Addr) (ds : List VolD) (ca : Nat) (next : Int) (w : World) (hv : VolsAt w a ds) (hs : SmallW ds) :
    Calls Tryz.prog 8 #[.slice a ds.length ca, .int .i64 next] w fun e w' => TellR (VolsOk ds next) (countsN ds) w.heap.size e w' ∧ Below w.heap.size w w' := by
  have HV : Hid (VolsAt w a ds) := hv
  have HS : Hid (SmallW ds) := hs
  clear hv hs
  go_enter Tryz.func8, Tryz.ntmps8
  go_wp2_with fail
  refine (vcheck_any a ds ca next w HV.out HS.out).mono ?_
  rintro e w1 ⟨⟨b, hb, rfl⟩, hb1⟩
  have HB1 : Hid (Below w.heap.size w w1) := hb1
  cases b
  case false =>
    have HQ : Hid (TellR (VolsOk ds next) (countsN ds) w.heap.size (.returned (.tuple #[.slice none 0 0, .int .i64 1])) w1) := ⟨_, _, [], rfl, World.ownsRow_nil _ _ _ _, .inr ⟨fun h => by simpa using hb.2 h, rfl, rfl⟩⟩
    simp only [errI_f]
    clear hb hb1
    go_wp2_with fail
    go_ret2
    exact ⟨HQ.out, HB1.out⟩
  case true =>
    have hok := hb.1 rfl
    have HOK : Hid (VolsOk ds next) := hok
    have hf := hok.few
    have HBL : Hid (Calls Tryz.prog 25 #[.slice a ds.length ca] w1 fun e w' => ∃ v rs, e = .returned v ∧ RowsR w1 w' v rs (rowsW ds)) := blocks_any a ds ca w1 (HV.out.below hb1) hf.vols (by have := hf.rows; omega) hf.files
    have HF : Hid (FewW ds) := hf
    simp only [errI_t]
    clear hb hb1 hok hf
    go_wp2_with fail
    refine HBL.out.mono ?_
    rintro e w2 ⟨v, rs, rfl, hr⟩
    have HR : Hid (RowsR w1 w2 v rs (rowsW ds)) := hr
    obtain ⟨av, cv, rfl, hat, _⟩ := hr.at
    have HAT : Hid (RowsAt w2 av rs) := hat
    have hrl : rs.length ≤ 1000 := by rw [HR.out.len]; exact HF.out.rows
    have hal : (allN rs).length ≤ 10000 := by rw [HR.out.all]; exact HF.out.all
    have HSE : Hid (countsN ds = cntN (risN (allN rs)) (allN rs)) := by show _ = _; rw [HR.out.all]; rfl
    have HTA : Hid (Calls Tryz.prog 26 #[.slice av rs.length cv] w2 fun e w' => (∃ v T, e = .returned (.agg #[v, .slice (some ⟨T, 0, none⟩) (risN (allN rs)).length (risN (allN rs)).length]) ∧ OwnInts w' w2.heap.size v (risN (allN rs)) ∧ RowN w' w2.heap.size T (List.replicate (risN (allN rs)).length 0) ∧ v.ownBlock ≠ some T) ∧ Below w2.heap.size w2 w') := tallyOf_any av rs cv w2 hat (by omega) (by omega)
    have HB2 : Hid (Below w.heap.size w w2) := nwT HB1.out hr.bel
    have hsl : (risN (allN rs)).length ≤ 10000 := Nat.le_trans (risN_len _) hal
    have HLT : Hid ((risN (allN rs)).Pairwise (· < ·)) := risN_lt _
    clear hat HBL hr
    generalize risN (allN rs) = s at HTA HSE hsl HLT
    go_wp2_with fail
    refine HTA.out.mono ?_
    rintro e w3 ⟨⟨v3, T, rfl, hO3, hR3, hne⟩, hb3⟩
    obtain ⟨a3, c3, rfl, _⟩ := id hO3.at
    have HO4 : Hid (OwnInts (w3.alloc (.cells #[.slice a3 s.length c3, .slice (some ⟨T, 0, none⟩) s.length s.length] 57)) w2.heap.size (.slice a3 s.length c3) s) := own_below hO3 (nwA (nwR w3) _)
    have HR4 : Hid (RowN (w3.alloc (.cells #[.slice a3 s.length c3, .slice (some ⟨T, 0, none⟩) s.length s.length] 57)) w2.heap.size T (cntN s [])) := by rw [cntN_nil]; exact hR3.below (nwA (nwR w3) _)
    have HB4 : Hid (Below w2.heap.size w2 (w3.alloc (.cells #[.slice a3 s.length c3, .slice (some ⟨T, 0, none⟩) s.length s.length] 57))) := nwA hb3 _
    have HX4 : Hid ((w3.alloc (.cells #[.slice a3 s.length c3, .slice (some ⟨T, 0, none⟩) s.length s.length] 57)).heap[w3.heap.size]? = some (.cells #[.slice a3 s.length c3, .slice (some ⟨T, 0, none⟩) s.length s.length] 57 (0, 0))) := heap_alloc_new w3 _
    have HT : Hid (w2.heap.size ≤ T ∧ T < w3.heap.size) := hR3.lt
    have HNE : Hid ((Value.slice a3 s.length c3).ownBlock ≠ some T) := hne
    have HME : Hid (Calls Tryz.prog 27 #[.agg #[.slice a3 s.length c3, .slice (some ⟨T, 0, none⟩) s.length s.length], .slice av rs.length cv] (w3.alloc (.cells #[.slice a3 s.length c3, .slice (some ⟨T, 0, none⟩) s.length s.length] 57)) fun e w' => e = .returned (.tuple #[]) ∧ OwnInts w' w2.heap.size (.slice a3 s.length c3) s ∧ RowN w' w2.heap.size T (cntN s (allN rs)) ∧ (w3.alloc (.cells #[.slice a3 s.length c3, .slice (some ⟨T, 0, none⟩) s.length s.length] 57)).grownBy w' (some T)) :=
      meet_any w2.heap.size T (.slice a3 s.length c3) s av rs cv w2 _ HB4.out HT.out.1 HAT.out (by omega) (by omega) HO4.out HLT.out (by omega) HR4.out HNE.out
    clear HTA hO3 hR3 hb3 hne
    obtain ⟨x0, x1, _⟩ := two_cells HX4.out
    go_wp2_with fail
    generalize w3.alloc (.cells #[.slice a3 s.length c3, .slice (some ⟨T, 0, none⟩) s.length s.length] 57) = W4 at HB4 HX4 HME ⊢
    refine HME.out.mono ?_
    rintro e w5 ⟨rfl, hO5, hR5, hg5⟩
    have HX5 : Hid (w5.heap[w3.heap.size]? = some (.cells #[.slice a3 s.length c3, .slice (some ⟨T, 0, none⟩) s.length s.length] 57 (0, 0))) := (hg5.block _ (Array.getElem?_eq_some_iff.1 HX4.out).1 (by have := HT.out.2; simp; omega)).trans HX4.out
    have HB5 : Hid (Below w.heap.size w w5) := nwT HB2.out (HB4.out.grown hg5 HB4.out.size (fun k e => by injection e with e; have := HT.out.1; omega))
    have HR5 : Hid (OwnInts w5 w.heap.size (.slice (some ⟨T, 0, none⟩) s.length s.length) (countsN ds)) := by
      rw [HSE.out]
      have h : OwnInts w5 w.heap.size (.slice (some ⟨T, 0, none⟩) (cntN s (allN rs)).length (cntN s (allN rs)).length) (cntN s (allN rs)) := own_le hR5.own HB2.out.size
      rw [cntN_len] at h
      exact h
    have HQ : Hid (TellR (VolsOk ds next) (countsN ds) w.heap.size (.returned (.tuple #[.slice (some ⟨T, 0, none⟩) s.length s.length, .int .i64 0])) w5) := ⟨_, _, _, rfl, HR5.out, .inl ⟨HOK.out, rfl, rfl⟩⟩
    clear x0 x1 HME HX4 HB4 hO5 hR5 hg5 HO4 HR4
    obtain ⟨x0, x1, _⟩ := two_cells HX5.out
    go_wp2_with fail
    go_ret2
    exact ⟨HQ.out, HB5.out⟩

end Go.Proofs.YtbaphgdlbeaenaaGreat

/- How often each block stands, by the page. -/
namespace Go.Proofs.YtbaphgdlbeaenaaGreat
open Go.RowKit

theorem find_count {s : List Int} (hs : s.Pairwise (· < ·)) {n : Int} (hn : n ∈ s) : s.findIdx? (· == n) = some (s.countP (· < n)) := by
  obtain ⟨hk, he⟩ := lt_find hs hn
  rw [List.findIdx?_eq_some_iff_getElem]
  refine ⟨hk, by simpa using he, fun j hj => ?_⟩
  have h1 := lt_count hs (show j < s.length by omega)
  have : s[j]'(by omega) ≠ n := fun e => by rw [e] at h1; omega
  simpa using this

set_option maxRecDepth 100000 in
set_option maxHeartbeats 8000000 in
theorem countsP_any (a : Option Addr) (ds : List VolD) (ca : Nat) (w : World) (hv : VolsAt w a ds) (hf : FewW ds) :
    Calls Tryz.prog 10 #[.slice a ds.length ca] w fun e w' => (∃ u, e = .returned u ∧ OwnInts w' w.heap.size u (countsN ds)) ∧ Below w.heap.size w w' := by
  have HV : Hid (VolsAt w a ds) := hv
  have HF : Hid (FewW ds) := hf
  have hl := hf.vols
  have HNA : Hid (Calls Tryz.prog 9 #[.slice a ds.length ca] w fun e w' => (∃ u, e = .returned u ∧ OwnInts w' w.heap.size u (risN (placesW ds))) ∧ Below w.heap.size w w') := namedP_any a ds ca w hv hf
  have HCN : Hid (countsN ds = cntN (risN (placesW ds)) (placesW ds)) := rfl
  have HMEM : Hid (∀ x, x ∈ placesW ds → x ∈ risN (placesW ds)) := fun x hx => (risN_mem _ _).2 hx
  have hsl : (risN (placesW ds)).length ≤ 10000 := Nat.le_trans (risN_len _) hf.all
  have HLT : Hid ((risN (placesW ds)).Pairwise (· < ·)) := risN_lt _
  clear hv hf
  generalize risN (placesW ds) = s at HNA HCN HMEM hsl HLT
  go_enter Tryz.func10, Tryz.ntmps10
  go_wp2_with fail
  refine HNA.out.mono ?_
  rintro e w1 ⟨⟨u1, rfl, ho1⟩, hb1⟩
  obtain ⟨a1, c1, rfl, _⟩ := id ho1.at
  have hmk := run_make_row' (P := Tryz.prog) 32 3 (.int .i64 0) 8 Tryz.underlying32 Tryz.info3 rfl .i64 .i64 s.length (by omega) (by omega)
  have HRN : Hid (RowN (w1.alloc (.cells (madeCells #[Value.int .i64 0] s.length) 3)) w.heap.size w1.heap.size (cntN s [])) := by
    rw [cntN_nil]; exact RowN.new w1 _ (by omega) hb1.size
  have HO2 : Hid (OwnInts (w1.alloc (.cells (madeCells #[Value.int .i64 0] s.length) 3)) w.heap.size (.slice a1 s.length c1) s) := own_below ho1 (nwA (nwR w1) _)
  have HB2 : Hid (Below w.heap.size w (w1.alloc (.cells (madeCells #[Value.int .i64 0] s.length) 3))) := nwA hb1 _
  have HNE : Hid ((Value.slice a1 s.length c1).ownBlock ≠ some w1.heap.size) := fun e => by have := (World.ownsRow.lt ho1 _ e).2; omega
  have HT1 : Hid (w.heap.size ≤ w1.heap.size) := hb1.size
  have HSZ : Hid (w1.heap.size < (w1.alloc (.cells (madeCells #[Value.int .i64 0] s.length) 3)).heap.size) := by show _ < _; simp
  clear ho1 hb1 HNA
  go_wp2_with fail
  generalize w1.alloc (.cells (madeCells #[Value.int .i64 0] s.length) 3) = W2 at HRN HO2 HB2 HSZ ⊢
  generalize w1.heap.size = T at HRN HNE HT1 HSZ ⊢
  have HVB : Hid (∀ w', W2.grownBy w' (some T) → Below w.heap.size w w') := fun w' h => HB2.out.grown h HB2.out.size (fun k e => by injection e with e; have := HT1.out; omega)
  go_loopw [5] (fun s5 wr => ∃ (i : Nat), i ≤ ds.length ∧ s5 = .int .i64 i ∧ Hid (W2.grownBy wr (some T) ∧ RowN wr w.heap.size T (cntN s (placesW (ds.take i)))))
    (fun s5 _ => ds.length - (intOf s5).toNat)
  case atStart => exact ⟨0, by omega, rfl, gbOf (nwR W2) _, HRN.out⟩
  case round =>
    obtain ⟨i, hi, rfl, HR⟩ := hrel
    clear HRN
    by_cases hil : i < ds.length
    · have hili : (i : Int) < (ds.length : Int) := by omega
      have hi0 : (0 : Int) ≤ (i : Int) := by omega
      obtain ⟨b1, o1, rfl, hvi⟩ := (HV.out.below (HVB.out _ HR.out.1)).vol hil
      obtain ⟨af, cf, ⟨c0, c1', c2, c3, c4⟩, hvl⟩ := hvi.val
      have HS : Hid (placesW (ds.take (i + 1)) = placesW (ds.take i) ++ plF (ds.getD i VZ).files) := placesW_take hil
      have hle : (placesW (ds.take i)).length + (plF (ds.getD i VZ).files).length ≤ 10000 := by
        rw [← List.length_append, ← HS.out]; exact Nat.le_trans (placesW_take_le ds _) HF.out.all
      have hfl : (ds.getD i VZ).files.length ≤ 100000 := HF.out.files _ (by simp [List.getD, hil])
      have HME : Hid (∀ x, x ∈ plF (ds.getD i VZ).files → x ∈ s) := fun x hx => HMEM.out x (by
        have h1 : x ∈ placesW (ds.take (i + 1)) := by rw [HS.out]; exact List.mem_append_right _ hx
        have e : placesW ds = placesW (ds.take (i + 1)) ++ placesW (ds.drop (i + 1)) := by
          unfold placesW rowsW
          rw [← List.flatten_append, ← List.flatMap_append, List.take_append_drop]
        rw [e]; exact List.mem_append_left _ h1)
      have HPL : Hid (Calls Tryz.prog 28 #[.agg #[.int .i64 (ds.getD i VZ).id, .int .i64 (ds.getD i VZ).fr, .bool (ds.getD i VZ).snap, .slice af (ds.getD i VZ).files.length cf, .int .i64 (ds.getD i VZ).next]] wr fun e w' => (∃ u, e = .returned u ∧ OwnInts w' wr.heap.size u (plF (ds.getD i VZ).files)) ∧ Below wr.heap.size wr w') := placesP_any _ _ wr hvl hfl (by omega)
      clear hvi hvl
      generalize ds.getD i VZ = d at c0 c1' c2 c3 c4 HS hle HPL HME
      generalize placesW (ds.take i) = pre at HR HS hle
      generalize plF d.files = pl at HS hle HPL HME
      rename World => wA
      go_wp2_with fail
      refine HPL.out.mono ?_
      rintro e w4 ⟨⟨u4, rfl, ho4⟩, hb4⟩
      obtain ⟨a4, c4', rfl, _⟩ := id ho4.at
      have HO4 : Hid (OwnInts w4 wA.heap.size (.slice a4 pl.length c4') pl) := ho4
      have HNE4 : Hid ((Value.slice a4 pl.length c4').ownBlock ≠ some T) := fun e => by
        have h1 := (World.ownsRow.lt ho4 _ e).1
        have h2 := HR.out.1.size
        have h3 := HSZ.out
        omega
      have HG4 : Hid (W2.grownBy w4 (some T)) := HR.out.1.trans (gbOf hb4 _)
      have HR4 : Hid (RowN w4 w.heap.size T (cntN s pre)) := HR.out.2.below hb4
      clear c0 c1' c2 c3 c4 ho4 hb4 HPL HR
      go_wp2_with fail
      go_loopw [7] (fun s7 wr => ∃ (j : Nat), j ≤ pl.length ∧ s7 = .int .i64 j ∧ Hid (w4.grownBy wr (some T) ∧ RowN wr w.heap.size T (cntN s (pre ++ pl.take j))))
        (fun s7 _ => pl.length - (intOf s7).toNat)
      case atStart => exact ⟨0, by omega, rfl, gbOf (nwR w4) _, by rw [List.take_zero, List.append_nil]; exact HR4.out⟩
      case round =>
        obtain ⟨j, hj, rfl, HI⟩ := hrel
        clear HR4
        by_cases hjl : j < pl.length
        · have hjli : (j : Int) < (pl.length : Int) := by omega
          have hj0 : (0 : Int) ≤ (j : Int) := by omega
          have hop : OwnInts wr wA.heap.size (.slice a4 pl.length c4') pl := World.ownsRow.kept HO4.out HI.out.1 (.inr HNE4.out)
          have hon : OwnInts wr w.heap.size (.slice a1 s.length c1) s := World.ownsRow.kept HO2.out (HG4.out.trans HI.out.1) (.inr HNE.out)
          obtain ⟨a5, c5, e5, hia5, _⟩ := hop.at
          injection e5 with e51 _ e52
          subst e51; subst e52
          obtain ⟨b2, o2, rfl, hx⟩ := hia5.cell hjl
          obtain ⟨a6, c6, e6, hia6, _⟩ := hon.at
          injection e6 with e61 _ e62
          subst e61; subst e62
          have HX : Hid (pre ++ pl.take (j + 1) = (pre ++ pl.take j) ++ [pl.getD j 0]) := by
            show _ = _
            rw [List.take_succ_eq_append_getElem hjl, List.append_assoc]; simp [List.getD, hjl]
          have hxs : pl.getD j 0 ∈ s := HME.out _ (by simp [List.getD, hjl])
          have hml : (pre ++ pl.take j).length ≤ 10000 := by rw [List.length_append, List.length_take]; omega
          generalize pl.getD j 0 = x at hx HX hxs
          generalize pre ++ pl.take j = mm at HI HX hml
          obtain ⟨hcl, hce⟩ := lt_find HLT.out hxs
          have HST : Hid (cntN s (pre ++ pl.take (j + 1)) = (cntN s mm).set (s.countP (· < x)) ((cntN s mm).getD (s.countP (· < x)) 0 + 1)) := by
            show _ = _
            rw [HX.out]
            have := cntN_step HLT.out mm hcl
            rw [hce] at this
            exact this
          have HIN : Hid (Calls Tryz.prog 30 #[.slice a1 s.length c1, .int .i64 x] wr fun e w' => e = .returned (.int .i64 (s.countP (· < x) : Nat)) ∧ wr = w') := by
            refine (in_has a1 s c1 x wr hia6 (by omega) _ (by rw [find_count HLT.out hxs, optI])).mono ?_
            rintro e w' ⟨h1, h2⟩
            exact ⟨h1, h2.symm⟩
          have hbd := cntN_bound s mm (s.countP (· < x))
          generalize s.countP (· < x) = p at HIN HST hcl hbd
          have t0 := HI.out.2.cell (k := p) (by rw [cntN_len]; exact hcl)
          have tf : ∀ o, wr.frozen? ⟨T, o, none⟩ = false := fun o => World.ownsRow.frozenAt HI.out.2 o
          have hpi : (p : Int) < (s.length : Int) := by omega
          have hp0 : (0 : Int) ≤ (p : Int) := by omega
          generalize (cntN s mm).getD p 0 = c at t0 HST hbd
          have HMM : Hid (w4.grownBy (wr.setCell ⟨T, p, none⟩ (.int .i64 (c + 1))) (some T) ∧ RowN (wr.setCell ⟨T, p, none⟩ (.int .i64 (c + 1))) w.heap.size T (cntN s (pre ++ pl.take (j + 1)))) := by
            rw [HST.out]
            exact ⟨gb_setg HI.out.1 _, HI.out.2.set p (c + 1)⟩
          have hc1 : c ≤ 1000000 := by omega
          have hc0 : 0 ≤ c := hbd.1
          clear hce hxs HX HST HI hbd hop hon hia5 hia6
          go_wp2_with fail
          refine HIN.out.mono ?_
          rintro e w5 ⟨rfl, rfl⟩
          clear HIN
          go_wp2_with fail
          go_roundw
          case rel => exact ⟨j + 1, by omega, by go_num, HMM⟩
          case measure => simp [intOf]; omega
        · have hjli : ¬ (j : Int) < (pl.length : Int) := by omega
          have HRR : Hid (W2.grownBy wr (some T) ∧ RowN wr w.heap.size T (cntN s (placesW (ds.take (i + 1))))) := by
            have := HI.out.2
            rw [List.take_of_length_le (by omega), ← HS.out] at this
            exact ⟨HG4.out.trans HI.out.1, this⟩
          clear HI
          go_wp2_with fail
          go_roundw
          case rel => exact ⟨i + 1, by omega, by go_num, HRR⟩
          case measure => simp [intOf]; omega
    · have hili : ¬ (i : Int) < (ds.length : Int) := by omega
      have HE : Hid (OwnInts wr w.heap.size (.slice (some ⟨T, 0, none⟩) s.length s.length) (countsN ds)) := by
        have := HR.out.2.own
        rw [List.take_of_length_le (by omega), cntN_len] at this
        rw [HCN.out]
        exact this
      have HBE : Hid (Below w.heap.size w wr) := HVB.out _ HR.out.1
      clear HR
      go_wp2_with fail
      go_ret
      exact ⟨⟨_, rfl, HE.out⟩, HBE.out⟩

end Go.Proofs.YtbaphgdlbeaenaaGreat

/- Volumes taken from a row, by the program. -/
namespace Go.Proofs.YtbaphgdlbeaenaaGreat
open Go.RowKit

end Go.Proofs.YtbaphgdlbeaenaaGreat

/- Volumes taken from a row: those that stay. -/
namespace Go.Proofs.YtbaphgdlbeaenaaGreat
open Go.RowKit

/-- those of a row that bear none of these IDs -/
def restW (ids : List Int) (ds : List VolD) : List VolD := ds.filter fun d => !decide (d.id ∈ ids)
def stayV (ids : List Int) (x : VV) : Bool := !decide (x.d.id ∈ ids)
theorem restW_map (ids : List Int) (gs : List VV) : (gs.filter (stayV ids)).map VV.d = restW ids (gs.map VV.d) := by
  unfold restW
  rw [List.filter_map]
  rfl
theorem restW_le (ids : List Int) (ds : List VolD) : (restW ids ds).length ≤ ds.length := List.length_filter_le _ _
theorem restW_all {ids : List Int} {ds : List VolD} (h : (ds.findIdx? fun d => decide (d.id ∈ ids)) = none) : restW ids ds = ds := by
  unfold restW
  rw [List.filter_eq_self]
  intro d hd
  rw [List.findIdx?_eq_none_iff] at h
  rw [h d hd]; rfl
theorem OwnVols.sifted {w : World} {base g n cap m : Nat} {gs gs' : List VV} {ids : List Int} {vs : List Value} (hs : Sift (stayV ids) gs gs' m n) (hn : gs.length = n) (h : RowW w base g n cap gs') (hO : ∀ x ∈ gs, OwnFiles (w.setCells g (m * 5) vs) base x.fv x.d.files) :
    OwnVols (w.setCells g (m * 5) vs) base (.slice (some ⟨g, 0, none⟩) m cap) (restW ids (gs.map VV.d)) := by
  obtain ⟨ys, h1, h2⟩ := own_setCells vs (m * 5) w (vflat gs') h
  have h3 := own_shrink h1 hs.ij
  have hf := hs.fin (by omega)
  have hle := hs.le hn
  refine ⟨gs.filter (stayV ids), restW_map ids gs, ?_, fun x hx => hO x (List.mem_filter.1 hx).1⟩
  rw [hle, ← hf, vflat_take, ← h2]
  exact h3

end Go.Proofs.YtbaphgdlbeaenaaGreat
