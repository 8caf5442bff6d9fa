/- Laid together: Copyw, Filesof, Copiesv, Copyvs, Findv. -/
import Derived.Test.YtodahdnnlkcfdaaVolM9
import Derived.Deep.RegionHeld3
/- A volume copied by the program. -/
namespace Go.Proofs.Ytodahdnnlkcfdaa
open Go.RowKit

def OwnVolX (w : World) (base : Nat) (v : Value) (d : VolD) : Prop := ∃ fv, v = .agg #[.int .i64 d.id, .int .i64 d.fr, .bool d.snap, fv, .int .i64 d.next] ∧ OwnFilesX w base fv d.files
theorem own_size {w : World} {base : Nat} {e : TypeId} {size : Nat} {v : Value} {n : Nat} {xs : List Value} (h : w.ownsRow base e size v n xs) : ∀ g, v.ownBlock = some g → base ≤ g ∧ g < w.heap.size := fun g hg => h.lt g hg
/-- the state of the copying round: the boxed volume, the result's block, the row -/
structure CpS (w : World) (fvb : Nat) (box res : Obj) (wr : World) : Prop where
  bel : Below w.heap.size w wr
  bx : wr.heap[w.heap.size]? = some box
  rs : wr.heap[w.heap.size + 1]? = some res
  lt : w.heap.size + 1 < fvb
theorem CpS.below {w : World} {fvb : Nat} {box res : Obj} {wr w' : World} (h : CpS w fvb box res wr) (hb : Below wr.heap.size wr w') : CpS w fvb box res w' :=
  ⟨nwT h.bel hb, (hb.block _ (Array.getElem?_eq_some_iff.1 h.bx).1).trans h.bx, (hb.block _ (Array.getElem?_eq_some_iff.1 h.rs).1).trans h.rs, h.lt⟩
theorem CpS.set {w : World} {fvb : Nat} {box res : Obj} {wr : World} (h : CpS w fvb box res wr) (o : Nat) (v : Value) : CpS w fvb box res (wr.setCell ⟨fvb, o, none⟩ v) :=
  have := h.lt
  ⟨h.bel.setCell (p := ⟨fvb, o, none⟩) (by show w.heap.size ≤ fvb; omega) _, (Below.heap_setCell _ _ _ _ (by show w.heap.size ≠ fvb; omega)).trans h.bx, (Below.heap_setCell _ _ _ _ (by show w.heap.size + 1 ≠ fvb; omega)).trans h.rs, h.lt⟩
theorem Half.setb {w : World} {base g cap n : Nat} {fs : List FileD} {gs0 gs : List FV} {k : Nat} (h : Half w base (.slice (some ⟨g, 0, none⟩) n cap) fs gs0 gs k) (x : FV) (hx : gs[k]? = some x) {bv : Value} (hb : OwnInts w base bv x.d.blocks) :
    Half (w.setCell ⟨g, k * 5 + 3, none⟩ bv) base (.slice (some ⟨g, 0, none⟩) n cap) fs (gs0.set k ⟨x.d, bv, x.lv⟩) (gs.set k ⟨x.d, bv, x.lv⟩) k ∧ OwnInts (w.setCell ⟨g, k * 5 + 3, none⟩ bv) base bv x.d.blocks := by
  obtain ⟨hk, rfl⟩ := List.getElem?_eq_some_iff.1 hx
  obtain ⟨cs, hh⟩ := own_tag h.row g rfl
  have hn : n = gs.length := by
    rcases h.row.2 with ⟨h1, _⟩ | ⟨g', cap', cur, h1, _⟩
    · simp at h1
    · simp at h1; exact h1.2.1
  subst hn
  refine ⟨⟨?_, ?_, ?_, ?_, ?_⟩, rowset2 hb hh (by decide) _⟩
  · rw [List.map_set, ← h.ds]
    apply List.ext_getElem?
    intro i
    by_cases e : k = i
    · subst e; rw [List.getElem?_set_self (by simpa using hk)]; simp [hk]
    · rw [List.getElem?_set_ne e]
  · rw [fflat_setb gs k bv hk, List.length_set]
    exact (h.row.stored (k * 5 + 3) bv).1
  · intro j y hj hy
    rw [List.getElem?_set_ne (by omega)] at hy
    have := h.own j y hj hy
    exact ⟨rowset2 this.1 hh (by decide) _, rowset2 this.2 hh (by decide) _⟩
  · intro i j hij hjk a b ha hb2
    rw [List.getElem?_set_ne (by omega)] at ha hb2
    exact h.ap i j hij hjk a b ha hb2
  · intro j hj
    have hlen : gs0[k]? = some gs[k] := by rw [← h.old k (Nat.le_refl _)]; exact hx
    have h0 := (List.getElem?_eq_some_iff.1 hlen).1
    by_cases e : k = j
    · subst e; rw [List.getElem?_set_self hk, List.getElem?_set_self h0]
    · rw [List.getElem?_set_ne e, List.getElem?_set_ne e]; exact h.old j hj
theorem Half.setl {w : World} {base g cap n : Nat} {fs : List FileD} {gs0 gs : List FV} {k : Nat} (h : Half w base (.slice (some ⟨g, 0, none⟩) n cap) fs gs0 gs k) (x : FV) (hx : gs[k]? = some x) (hb : OwnInts w base x.bv x.d.blocks) {lv : Value} (hl : OwnLinks w base lv x.d.list) (hf : ∀ j y, j < k → gs[j]? = some y → y.lv.ownBlock = none ∨ y.lv.ownBlock ≠ lv.ownBlock) :
    Half (w.setCell ⟨g, k * 5 + 4, none⟩ lv) base (.slice (some ⟨g, 0, none⟩) n cap) fs gs0 (gs.set k ⟨x.d, x.bv, lv⟩) (k + 1) := by
  obtain ⟨hk, rfl⟩ := List.getElem?_eq_some_iff.1 hx
  obtain ⟨cs, hh⟩ := own_tag h.row g rfl
  have hn : n = gs.length := by
    rcases h.row.2 with ⟨h1, _⟩ | ⟨g', cap', cur, h1, _⟩
    · simp at h1
    · simp at h1; exact h1.2.1
  subst hn
  refine ⟨?_, ?_, ?_, ?_, ?_⟩
  · rw [List.map_set, ← h.ds]
    apply List.ext_getElem?
    intro i
    by_cases e : k = i
    · subst e; rw [List.getElem?_set_self (by simpa using hk)]; simp [hk]
    · rw [List.getElem?_set_ne e]
  · rw [fflat_setl gs k lv hk, List.length_set]
    exact (h.row.stored (k * 5 + 4) lv).1
  · intro j y hj hy
    by_cases e : k = j
    · subst e
      rw [List.getElem?_set_self hk] at hy
      injection hy with hy; subst hy
      exact ⟨rowset2 hb hh (by decide) _, rowset2 hl hh (by decide) _⟩
    · rw [List.getElem?_set_ne e] at hy
      have := h.own j y (by omega) hy
      exact ⟨rowset2 this.1 hh (by decide) _, rowset2 this.2 hh (by decide) _⟩
  · intro i j hij hjk a b ha hb2
    rw [List.getElem?_set_ne (by omega)] at ha
    by_cases e : k = j
    · subst e
      rw [List.getElem?_set_self hk] at hb2
      injection hb2 with hb2; subst hb2
      exact hf i a hij ha
    · rw [List.getElem?_set_ne e] at hb2
      exact h.ap i j hij (by omega) a b ha hb2
  · intro j hj
    rw [List.getElem?_set_ne (by omega)]
    exact h.old j (by omega)

theorem OwnInts.lt {w : World} {base : Nat} {v : Value} {ns : List Int} (h : OwnInts w base v ns) : ∀ g, v.ownBlock = some g → base ≤ g := fun g hg => (World.ownsRow.lt h g hg).1
theorem slice_cells {w : World} {base : Nat} {e : TypeId} {size n : Nat} {v : Value} {xs : List Value} (h : w.ownsRow base e size v n xs) (hn : 0 < n) : ∃ g cap, v = .slice (some ⟨g, 0, none⟩) n cap ∧ base ≤ g ∧ g < w.heap.size := by
  have h2 := h.2
  rcases h2 with ⟨_, h1⟩ | ⟨g, cap, cur, hv, hg, hh, _⟩
  · omega
  · exact ⟨g, cap, hv, hg, (Array.getElem?_eq_some_iff.1 hh).1⟩

theorem Half.base {w : World} {base : Nat} {v : Value} {fs : List FileD} {gs0 gs : List FV} {k : Nat} {z : FV} (h : Half w base v fs (gs0.set k z) gs (k + 1)) : Half w base v fs gs0 gs (k + 1) :=
  ⟨h.ds, h.row, h.own, h.ap, fun j hj => by rw [h.old j hj, List.getElem?_set_ne (by omega)]⟩
structure CpT (w : World) (fvb : Nat) (box res : Obj) (F : Nat) (ob : Obj) (wr : World) : Prop where
  s : CpS w fvb box res wr
  f : wr.heap[F]? = some ob
  ne : fvb ≠ F
theorem CpT.below {w : World} {fvb F : Nat} {box res ob : Obj} {wr w' : World} (h : CpT w fvb box res F ob wr) (hb : Below wr.heap.size wr w') : CpT w fvb box res F ob w' :=
  ⟨h.s.below hb, (hb.block _ (Array.getElem?_eq_some_iff.1 h.f).1).trans h.f, h.ne⟩
theorem CpT.drew {w : World} {fvb F : Nat} {box res ob : Obj} {wr : World} (h : CpT w fvb box res F ob wr) : CpT w fvb box res F ob wr.drew := h.below (Below.drew (nwR wr))
theorem CpT.set {w : World} {fvb F : Nat} {box res ob : Obj} {wr : World} (h : CpT w fvb box res F ob wr) (o : Nat) (v : Value) : CpT w fvb box res F ob (wr.setCell ⟨fvb, o, none⟩ v) :=
  ⟨h.s.set o v, (Below.heap_setCell _ _ _ _ (by show F ≠ fvb; exact fun e => h.ne e.symm)).trans h.f, h.ne⟩
theorem Half.cells {w : World} {base g cap n : Nat} {fs : List FileD} {gs0 gs : List FV} {k : Nat} (h : Half w base (.slice (some ⟨g, 0, none⟩) n cap) fs gs0 gs k) {i : Nat} {x : FV} (hx : gs[i]? = some x) :
    (w.cell? ⟨g, i * 5, none⟩ = some (.int .i64 x.d.id) ∧ w.cell? ⟨g, i * 5 + 1, none⟩ = some (.bool x.d.dir) ∧ w.cell? ⟨g, i * 5 + 2, none⟩ = some (.int .i64 x.d.size) ∧ w.cell? ⟨g, i * 5 + 3, none⟩ = some x.bv ∧ w.cell? ⟨g, i * 5 + 4, none⟩ = some x.lv) ∧ ∀ o, w.frozen? ⟨g, o, none⟩ = false := by
  have hn : n = gs.length := by
    rcases h.row.2 with ⟨h1, _⟩ | ⟨g', cap', cur, h1, _⟩
    · simp at h1
    · simp at h1; exact h1.2.1
  subst hn
  obtain ⟨c0, c1, c2, c3, c4⟩ := fflat_get gs i x hx
  have K : ∀ j u, (fflat gs)[j]? = some u → w.cell? ⟨g, j, none⟩ = some u := fun j u hj => by
    have := h.row.cells (g := g) rfl j u hj
    rw [Addr.add_lit, Nat.zero_add] at this
    exact this
  exact ⟨⟨K _ _ c0, K _ _ c1, K _ _ c2, K _ _ c3, K _ _ c4⟩, fun o => h.row.frozenAt o⟩
theorem Half.lift {w : World} {base : Nat} {v : Value} {fs : List FileD} {gs0 gs : List FV} {k : Nat} (h : Half w base v fs gs0 gs k) {B o : Nat} (hB : B < base) (u : Value) : Half (w.setCell ⟨B, o, none⟩ u) base v fs gs0 gs k :=
  ⟨h.ds, rowset h.row o hB u, fun j g hj hg => (h.own j g hj hg).set o hB u, h.ap, h.old⟩

theorem OwnFilesX.set {w : World} {base : Nat} {v : Value} {fs : List FileD} (h : OwnFilesX w base v fs) {B : Nat} (o : Nat) (hB : B < base) (u : Value) : OwnFilesX (w.setCell ⟨B, o, none⟩ u) base v fs := by
  obtain ⟨gs, h1, h2, h3, h4⟩ := h
  exact ⟨gs, h1, rowset h2 o hB u, fun g hg => (h3 g hg).set o hB u, h4⟩
theorem OwnFilesX.le {w : World} {base base' : Nat} {v : Value} {fs : List FileD} (h : OwnFilesX w base v fs) (hb : base' ≤ base) : OwnFilesX w base' v fs := by
  obtain ⟨gs, h1, h2, h3, h4⟩ := h
  exact ⟨gs, h1, own_le h2 hb, fun g hg => (h3 g hg).le hb, h4⟩
theorem OwnFilesX.below {w w' : World} {base : Nat} {v : Value} {fs : List FileD} (h : OwnFilesX w base v fs) (hb : Below w.heap.size w w') : OwnFilesX w' base v fs := by
  obtain ⟨gs, h1, h2, h3, h4⟩ := h
  exact ⟨gs, h1, own_below h2 hb, fun g hg => (h3 g hg).below hb, h4⟩

end Go.Proofs.Ytodahdnnlkcfdaa

/- A volume's files copied by the program. -/
namespace Go.Proofs.Ytodahdnnlkcfdaa
open Go.RowKit

structure CpV (w : World) (fvb : Nat) (box : Obj) (wr : World) : Prop where
  bel : Below w.heap.size w wr
  bx : wr.heap[w.heap.size]? = some box
  lt : w.heap.size < fvb
theorem CpV.below {w : World} {fvb : Nat} {box : Obj} {wr w' : World} (h : CpV w fvb box wr) (hb : Below wr.heap.size wr w') : CpV w fvb box w' :=
  ⟨nwT h.bel hb, (hb.block _ (Array.getElem?_eq_some_iff.1 h.bx).1).trans h.bx, h.lt⟩
theorem CpV.set {w : World} {fvb : Nat} {box : Obj} {wr : World} (h : CpV w fvb box wr) (o : Nat) (v : Value) : CpV w fvb box (wr.setCell ⟨fvb, o, none⟩ v) :=
  have := h.lt
  ⟨h.bel.setCell (p := ⟨fvb, o, none⟩) (by show w.heap.size ≤ fvb; omega) _, (Below.heap_setCell _ _ _ _ (by show w.heap.size ≠ fvb; omega)).trans h.bx, h.lt⟩
structure CpU (w : World) (fvb : Nat) (box : Obj) (F : Nat) (ob : Obj) (wr : World) : Prop where
  s : CpV w fvb box wr
  f : wr.heap[F]? = some ob
  ne : fvb ≠ F
theorem CpU.below {w : World} {fvb F : Nat} {box ob : Obj} {wr w' : World} (h : CpU w fvb box F ob wr) (hb : Below wr.heap.size wr w') : CpU w fvb box F ob w' :=
  ⟨h.s.below hb, (hb.block _ (Array.getElem?_eq_some_iff.1 h.f).1).trans h.f, h.ne⟩
theorem CpU.drew {w : World} {fvb F : Nat} {box ob : Obj} {wr : World} (h : CpU w fvb box F ob wr) : CpU w fvb box F ob wr.drew := h.below (Below.drew (nwR wr))
theorem CpU.set {w : World} {fvb F : Nat} {box ob : Obj} {wr : World} (h : CpU w fvb box F ob wr) (o : Nat) (v : Value) : CpU w fvb box F ob (wr.setCell ⟨fvb, o, none⟩ v) :=
  ⟨h.s.set o v, (Below.heap_setCell _ _ _ _ (by show F ≠ fvb; exact fun e => h.ne e.symm)).trans h.f, h.ne⟩

set_option maxRecDepth 100000 in
set_option maxHeartbeats 4000000 in
theorem filesOf_any (v : Value) (d : VolD) (w : World) (hv : VolVal w v d) (hs : SmallV d) (hp : 0 < d.files.length) :
    Calls Try.prog 59 #[v] w fun e w' => (∃ u, e = .returned u ∧ OwnFiles w' w.heap.size u d.files) ∧ Below w.heap.size w w' := by
  obtain ⟨a, ca, rfl, hfs, hcp⟩ := hv
  obtain ⟨b1, o1, rfl, _⟩ := hfs.file hp
  obtain ⟨vid, fr, snap, fs, next⟩ := d
  simp only [SmallV] at *
  obtain ⟨hl, hs2⟩ := hs
  have HS : Hid (∀ f ∈ fs, SmallF f) := hs2
  obtain ⟨gs0, hd0, hcells, horig⟩ : ∃ gs : List FV, gs.map FV.d = fs ∧ (∀ j u, (fflat gs)[j]? = some u → w.cell? ⟨b1, o1 + j, none⟩ = some u) ∧ ∀ g ∈ gs, OrigFV w g := by
    rcases hfs with h0 | ⟨b, o, e, h⟩
    · rw [h0] at hp; simp at hp
    · injection e with e; injection e with e1 e2; subst e1; subst e2
      exact orig_of fs _ h
  have hlen0 : gs0.length = fs.length := by rw [← hd0, List.length_map]
  have HD0 : Hid (gs0.map FV.d = fs) := hd0
  have HCE : Hid (∀ j u, (fflat gs0)[j]? = some u → w.cell? ⟨b1, o1 + j, none⟩ = some u) := hcells
  have HOR : Hid (∀ g ∈ gs0, OrigFV w g) := horig
  have HL0 : Hid (gs0.length = fs.length) := hlen0
  clear hfs hcp hd0 hcells horig hs2 hlen0
  go_enter Try.func59, Try.ntmps59
  go_wp2_with fail
  have HB0 : Hid (Below w.heap.size w (w.alloc (.cells #[.int .i64 vid, .int .i64 fr, .bool snap, .slice (some ⟨b1, o1, none⟩) fs.length ca, .int .i64 next] 32))) := nwA (nwR w) _
  refine (clof_row ⟨b1, o1, none⟩ fs.length ca (fflat gs0) _ (by rw [fflat_len, HL0.out]) (by omega) (fun j u hj => by
    rw [Addr.add_lit]
    have := HCE.out j u hj
    exact (HB0.out.cell (p := ⟨b1, o1 + j, none⟩) (block_lt_of_cell this)).trans this) (fflat_one HOR.out)).mono ?_
  rintro e w1 ⟨⟨fv, rfl, hrow⟩, hb1⟩
  have hsz2 : (w.alloc (.cells #[.int .i64 vid, .int .i64 fr, .bool snap, .slice (some ⟨b1, o1, none⟩) fs.length ca, .int .i64 next] 32)).heap.size = w.heap.size + 1 := by simp
  rw [hsz2] at hrow
  obtain ⟨g, cap, rfl, hg1, hg2⟩ := slice_cells hrow hp
  have HB1 : Hid (Below w.heap.size w w1) := nwT HB0.out hb1
  have HX1 : Hid (w1.heap[w.heap.size]? = some (.cells #[.int .i64 vid, .int .i64 fr, .bool snap, .slice (some ⟨b1, o1, none⟩) fs.length ca, .int .i64 next] 32 (0, 0))) := (hb1.block _ (by rw [hsz2]; omega)).trans (heap_alloc_new w _)
  have HROW : Hid (w1.ownsRow (w.heap.size + 1) 84 5 (.slice (some ⟨g, 0, none⟩) fs.length cap) fs.length (fflat gs0)) := hrow
  have HCP : Hid (CpV w g (.cells #[.int .i64 vid, .int .i64 fr, .bool snap, .slice (some ⟨b1, o1, none⟩) fs.length ca, .int .i64 next] 32 (0, 0)) w1) := ⟨HB1.out, HX1.out, by omega⟩
  have HHF : Hid (Half w1 (w.heap.size + 1) (.slice (some ⟨g, 0, none⟩) fs.length cap) fs gs0 gs0 0) :=
    ⟨HD0.out, by rw [HL0.out]; exact HROW.out, fun j g h => by omega, fun i j _ h => by omega, fun j _ => rfl⟩
  clear hrow hb1 hsz2 HB0 HX1 HROW hg2 HB1
  go_wp2_with fail
  go_loopw [11] (fun i wr => ∃ (k : Nat) (gs : List FV), k ≤ fs.length ∧ i = .int .i64 k ∧ Hid (CpV w g (.cells #[.int .i64 vid, .int .i64 fr, .bool snap, .slice (some ⟨b1, o1, none⟩) fs.length ca, .int .i64 next] 32 (0, 0)) wr) ∧ Hid (Half wr (w.heap.size + 1) (.slice (some ⟨g, 0, none⟩) fs.length cap) fs gs0 gs k))
    (fun i _ => fs.length - (intOf i).toNat)
  case atStart => exact ⟨0, gs0, by omega, rfl, HCP, HHF⟩
  case round =>
    obtain ⟨k, gs, hk, rfl, HC, HH⟩ := hrel
    by_cases hkl : k < fs.length
    · have hkli : (k : Int) < (fs.length : Int) := by omega
      have hk0 : (0 : Int) ≤ (k : Int) := by omega
      have hgl : gs.length = fs.length := by rw [← HH.out.ds, List.length_map]
      obtain ⟨x, hx⟩ : ∃ x, gs[k]? = some x := ⟨gs[k], List.getElem?_eq_getElem (by omega)⟩
      have hx0 : gs0[k]? = some x := by rw [← HH.out.old k (Nat.le_refl _)]; exact hx
      have horg := HOR.out x (List.mem_of_getElem? hx0)
      have hxm : x.d ∈ fs := by rw [← HD0.out]; exact List.mem_map.2 ⟨x, List.mem_of_getElem? hx0, rfl⟩
      have hsm := HS.out x.d hxm
      obtain ⟨⟨e0, e1, e2, e3, e4⟩, ef⟩ := HH.out.cells hx
      obtain ⟨⟨fid, fdir, fsize, fbl, fli⟩, xbv, xlv⟩ := x
      obtain ⟨ab, cb, al, cl, e5, e6, ⟨hib, hcb⟩, hil, hcl⟩ := horg
      simp only at e5 e6
      subst e5; subst e6
      simp only [SmallF] at e0 e1 e2 e3 e4 hib hcb hil hcl hsm
      have HIB : Hid (IntsAt w ab fbl ∧ CapOk ab cb fbl.length) := ⟨hib, hcb⟩
      have HIL : Hid (LinksAt w al fli ∧ CapOk al cl fli.length) := ⟨hil, hcl⟩
      have HX : Hid (gs[k]? = some ⟨⟨fid, fdir, fsize, fbl, fli⟩, .slice ab fbl.length cb, .slice al fli.length cl⟩) := hx
      have HSM : Hid (fbl.length ≤ 100000 ∧ fli.length ≤ 100000) := hsm
      clear hib hcb hil hcl hx hx0 hxm hsm hgl
      go_wp2_with fail
      clear e0 e1 e2 e3 e4 ef
      have HT : Hid (CpU w g (.cells #[.int .i64 vid, .int .i64 fr, .bool snap, .slice (some ⟨b1, o1, none⟩) fs.length ca, .int .i64 next] 32 (0, 0)) wr.heap.size (.cells #[.int .i64 fid, .bool fdir, .int .i64 fsize, .slice ab fbl.length cb, .slice al fli.length cl] 84 (0, 0)) (wr.alloc (.cells #[.int .i64 fid, .bool fdir, .int .i64 fsize, .slice ab fbl.length cb, .slice al fli.length cl] 84))) := ⟨HC.out.below (nwA (nwR wr) _), heap_alloc_new wr _, by have := (World.ownsRow.lt HH.out.row g rfl).2; omega⟩
      have HH1 : Hid (Half (wr.alloc (.cells #[.int .i64 fid, .bool fdir, .int .i64 fsize, .slice ab fbl.length cb, .slice al fli.length cl] 84)) (w.heap.size + 1) (.slice (some ⟨g, 0, none⟩) fs.length cap) fs gs0 gs k) := HH.out.below (nwA (nwR wr) _)
      generalize hWf : wr.alloc (.cells #[.int .i64 fid, .bool fdir, .int .i64 fsize, .slice ab fbl.length cb, .slice al fli.length cl] 84) = Wf at HT HH1 ⊢
      generalize wr.heap.size = F at HT ⊢
      clear hWf HC HH
      have hS : CpU w g (.cells #[.int .i64 vid, .int .i64 fr, .bool snap, .slice (some ⟨b1, o1, none⟩) fs.length ca, .int .i64 next] 32 (0, 0)) F (.cells #[.int .i64 fid, .bool fdir, .int .i64 fsize, .slice ab fbl.length cb, .slice al fli.length cl] 84 (0, 0)) Wf := HT.out
      have zf3 : ∀ w', CpU w g (.cells #[.int .i64 vid, .int .i64 fr, .bool snap, .slice (some ⟨b1, o1, none⟩) fs.length ca, .int .i64 next] 32 (0, 0)) F (.cells #[.int .i64 fid, .bool fdir, .int .i64 fsize, .slice ab fbl.length cb, .slice al fli.length cl] 84 (0, 0)) w' → w'.cell? ⟨F, 3, none⟩ = some (.slice ab fbl.length cb) := fun w' h => by rw [Lib.cell_of_heap h.f]; rfl
      have zf4 : ∀ w', CpU w g (.cells #[.int .i64 vid, .int .i64 fr, .bool snap, .slice (some ⟨b1, o1, none⟩) fs.length ca, .int .i64 next] 32 (0, 0)) F (.cells #[.int .i64 fid, .bool fdir, .int .i64 fsize, .slice ab fbl.length cb, .slice al fli.length cl] 84 (0, 0)) w' → w'.cell? ⟨F, 4, none⟩ = some (.slice al fli.length cl) := fun w' h => by rw [Lib.cell_of_heap h.f]; rfl
      refine (cloi_any ab fbl cb _ (HIB.out.1.below hS.s.bel) HIB.out.2 HSM.out.1).mono ?_
      rintro e wU ⟨⟨nv, rfl, hob⟩, hbU⟩
      have HHU := HH1.out.below hbU
      have kc := (HHU.cells HX.out).1.2.2.2.1
      have kf := (HHU.cells HX.out).2 (k * 5 + 3)
      obtain ⟨abv, cbv, rfl, _⟩ := hob.at
      have hbu : Below Wf.heap.size Wf wU := hbU
      have HOB : Hid (OwnInts wU (w.heap.size + 1) (.slice abv fbl.length cbv) fbl) := own_le hob (by have := hS.s.lt; have := HH1.out.row.lt g rfl; have := hbU.size; show w.heap.size + 1 ≤ Wf.heap.size; omega)
      have HH2 : Hid (Half (wU.setCell ⟨g, k * 5 + 3, none⟩ (.slice abv fbl.length cbv)) (w.heap.size + 1) (.slice (some ⟨g, 0, none⟩) fs.length cap) fs (gs0.set k ⟨⟨fid, fdir, fsize, fbl, fli⟩, .slice abv fbl.length cbv, .slice al fli.length cl⟩) (gs.set k ⟨⟨fid, fdir, fsize, fbl, fli⟩, .slice abv fbl.length cbv, .slice al fli.length cl⟩) k ∧ OwnInts (wU.setCell ⟨g, k * 5 + 3, none⟩ (.slice abv fbl.length cbv)) (w.heap.size + 1) (.slice abv fbl.length cbv) fbl) := Half.setb (HH1.out.below hbu) _ HX.out HOB.out
      have HX2 : Hid ((gs.set k ⟨⟨fid, fdir, fsize, fbl, fli⟩, .slice abv fbl.length cbv, .slice al fli.length cl⟩)[k]? = some ⟨⟨fid, fdir, fsize, fbl, fli⟩, .slice abv fbl.length cbv, .slice al fli.length cl⟩) := List.getElem?_set_self (List.getElem?_eq_some_iff.1 HX.out).1
      have HS5 : CpU w g (.cells #[.int .i64 vid, .int .i64 fr, .bool snap, .slice (some ⟨b1, o1, none⟩) fs.length ca, .int .i64 next] 32 (0, 0)) F (.cells #[.int .i64 fid, .bool fdir, .int .i64 fsize, .slice ab fbl.length cb, .slice al fli.length cl] 84 (0, 0)) (wU.setCell ⟨g, k * 5 + 3, none⟩ (.slice abv fbl.length cbv)) := (hS.below hbu).set _ _
      have f4 := zf4 _ HS5
      clear hob hbU HHU hbu HOB
      go_wp2_with fail
      clear kc kf f4
      generalize wU.setCell ⟨g, k * 5 + 3, none⟩ (.slice abv fbl.length cbv) = W5 at HH2 HS5 ⊢
      generalize gs.set k ⟨⟨fid, fdir, fsize, fbl, fli⟩, .slice abv fbl.length cbv, .slice al fli.length cl⟩ = gs2 at HH2 HX2
      refine (clol_any al fli cl _ (HIL.out.1.below HS5.s.bel) HIL.out.2 HSM.out.2).mono ?_
      rintro e wV ⟨⟨nv, rfl, hob⟩, hbV⟩
      have HHV := HH2.out.1.below hbV
      have kc := (HHV.cells HX2.out).1.2.2.2.2
      have kf := (HHV.cells HX2.out).2 (k * 5 + 4)
      obtain ⟨alv, clv, rfl, _⟩ := hob.at
      have hbv : Below W5.heap.size W5 wV := hbV
      have HOL : Hid (OwnLinks wV W5.heap.size (.slice alv fli.length clv) fli) := hob
      have hwl : w.heap.size + 1 ≤ W5.heap.size := by have := HH2.out.1.row.lt g rfl; omega
      have HH3 : Hid (Half (wV.setCell ⟨g, k * 5 + 4, none⟩ (.slice alv fli.length clv)) (w.heap.size + 1) (.slice (some ⟨g, 0, none⟩) fs.length cap) fs gs0 (gs2.set k ⟨⟨fid, fdir, fsize, fbl, fli⟩, .slice abv fbl.length cbv, .slice alv fli.length clv⟩) (k + 1)) := by
        refine (Half.setl (HH2.out.1.below hbv) _ HX2.out (own_below HH2.out.2 hbv) (own_le HOL.out hwl) (fun j y hj hy => ?_)).base
        cases h1 : y.lv.ownBlock with
        | none => exact .inl rfl
        | some q =>
          refine .inr (fun e => ?_)
          have a1 := (World.ownsRow.lt (HH2.out.1.own j y hj hy).2 q h1).2
          have a2 := (World.ownsRow.lt HOL.out q e.symm).1
          omega
      have HC3 : Hid (CpV w g (.cells #[.int .i64 vid, .int .i64 fr, .bool snap, .slice (some ⟨b1, o1, none⟩) fs.length ca, .int .i64 next] 32 (0, 0)) (wV.setCell ⟨g, k * 5 + 4, none⟩ (.slice alv fli.length clv))) := ((HS5.below hbv).set _ _).s
      clear hob hbV HHV hbv HOL zf3 zf4 hS HS5 HH2 HX2 HT HH1
      go_wp2_with fail
      clear kc kf
      generalize wV.setCell ⟨g, k * 5 + 4, none⟩ (.slice alv fli.length clv) = W6 at HH3 HC3 ⊢
      go_roundw
      case rel => exact ⟨k + 1, _, by omega, by go_num, HC3, HH3⟩
      case measure => simp [intOf]; omega
    · have hkli : ¬ (k : Int) < (fs.length : Int) := by omega
      have HOX : Hid (OwnFilesX wr (w.heap.size + 1) (.slice (some ⟨g, 0, none⟩) fs.length cap) fs) := HH.out.fin (by rw [← List.length_map (f := FV.d), HH.out.ds]; omega)
      have HBR : Hid (Below w.heap.size w wr) := HC.out.bel
      clear HC HH
      go_wp2_with fail
      go_ret
      exact ⟨⟨_, rfl, (HOX.out.plain).le (Nat.le_succ _)⟩, HBR.out⟩

end Go.Proofs.Ytodahdnnlkcfdaa

/- Volumes copied by the program. -/
namespace Go.Proofs.Ytodahdnnlkcfdaa
open Go.RowKit

set_option maxRecDepth 100000 in
set_option maxHeartbeats 2000000 in
theorem clov_row (p : Addr) (n c : Nat) (xs : List Value) (w : World) (hx : xs.length = n * 5) (hbig : n * 56 ≤ 140737488355328) (hc : ∀ j u, xs[j]? = some u → w.cell? (p.add j) = some u) (h1 : ∀ u ∈ xs, u.oneCell' = true) :
    Calls Try.prog 70 #[.slice (some p) n c] w fun e w' => (∃ v', e = .returned v' ∧ w'.ownsRow w.heap.size 32 5 v' n xs) ∧ Below w.heap.size w w' := by
  obtain ⟨i0, hi, hz0, hz1, hz2⟩ := info_parts Try.info32
  have q22 : ∀ (w : World) (a : Option Addr) (n c n' c' : Nat), (binOp .eql 22 (.slice a n c) (.slice none n' c')).run Try.prog w = .ok (.bool a.isNone) w := fun w a n c n' c' => Lib.run_eql_slice_nil w _ _ a n c n' c' Try.underlying22
  have HC : Hid (∀ j u, xs[j]? = some u → w.cell? (p.add j) = some u) := hc
  have H1 : Hid (∀ u ∈ xs, u.oneCell' = true) := h1
  have HX : Hid (xs.length = n * 5) := hx
  clear hc h1 hx
  go_enter Try.func70, Try.ntmps70
  go_wp2_with (at_builtin; refine wpList_append_own _ rfl _ _ 22 rfl w.heap.size 32 i0 (.agg #[.int .i64 0, .int .i64 0, .bool false, .slice none 0 0, .int .i64 0]) 5 56 Try.underlying22 hi hz0 hz1 hz2 rfl (by decide) _ _ _ rfl (World.ownsRow_made w #[] 0 (Nat.le_refl _) (Nat.zero_le _) rfl) p n c xs rfl ?qc1 ?qc2 ?qc3 ?qc4 ?qc5 ?qc6 ?_)
  case qc1 => have := HX.out; omega
  case qc2 => intro j u hj; exact Lib.cell?_alloc_some _ (HC.out j u hj)
  case qc3 => exact H1.out
  case qc4 => unfold maxLen; omega
  case qc5 => omega
  case qc6 => simp
  intro v' w1 hown hgrow hnil
  have HOW : Hid (w1.ownsRow w.heap.size 32 5 v' n xs) := by show World.ownsRow _ _ _ _ _ _ _; have := hown; simpa using this
  have HB : Hid (Below w.heap.size w w1) := ((Below.refl _ w).alloc (Nat.le_refl _) _).grown hgrow (by simp) (by intro k hk; simp [Value.ownBlock] at hk; omega)
  clear hown hgrow
  go_wp2_with fail
  go_ret
  exact ⟨⟨v', rfl, HOW.out⟩, HB.out⟩

set_option maxRecDepth 100000 in
set_option maxHeartbeats 1000000 in
theorem clov_nil (n c : Nat) (w : World) : Calls Try.prog 70 #[.slice none n c] w fun e w' => e = .returned (.slice none 0 0) ∧ w' = w := by
  have q22 : ∀ (w : World) (a : Option Addr) (n c n' c' : Nat), (binOp .eql 22 (.slice a n c) (.slice none n' c')).run Try.prog w = .ok (.bool a.isNone) w := fun w a n c n' c' => Lib.run_eql_slice_nil w _ _ a n c n' c' Try.underlying22
  go_enter Try.func70, Try.ntmps70
  go_wp2_with fail
  go_ret
  exact ⟨rfl, rfl⟩

def OrigVV (w : World) (g : VV) : Prop := ∃ a c, g.fv = .slice a g.d.files.length c ∧ FilesAt w a g.d.files ∧ CapOk a c g.d.files.length
theorem vorig_of {w : World} {b : Nat} : ∀ (ds : List VolD) (o : Nat), (∀ i, i < ds.length → VolIn w b (o + i * 5) (ds.getD i VZ)) → ∃ gs : List VV, gs.map VV.d = ds ∧ (∀ j u, (vflat gs)[j]? = some u → w.cell? ⟨b, o + j, none⟩ = some u) ∧ ∀ g ∈ gs, OrigVV w g := by
  intro ds
  induction ds with
  | nil => intro o _; exact ⟨[], rfl, fun j u h => by simp [vflat] at h, fun g hg => by simp at hg⟩
  | cons f ds ih =>
    intro o h
    obtain ⟨gs, h1, h2, h3⟩ := ih (o + 5) (fun i hi => by
      have := h (i + 1) (by simp; omega)
      rw [show o + (i + 1) * 5 = o + 5 + i * 5 from by omega] at this
      simpa using this)
    have h0 := h 0 (by simp)
    simp only [Nat.zero_mul, Nat.add_zero, List.getD_cons_zero] at h0
    obtain ⟨a, c, ⟨c0, c1, c2, c3, c4⟩, hi, hl⟩ := h0
    refine ⟨⟨f, .slice a f.files.length c⟩ :: gs, by simp [h1], fun j u hj => ?_, fun g hg => ?_⟩
    · have e : vflat (⟨f, .slice a f.files.length c⟩ :: gs) = .int .i64 f.id :: .int .i64 f.fr :: .bool f.snap :: .slice a f.files.length c :: .int .i64 f.next :: vflat gs := by simp [vflat]
      rw [e] at hj
      match j with
      | 0 => simp at hj; subst hj; exact c0
      | 1 => simp at hj; subst hj; exact c1
      | 2 => simp at hj; subst hj; exact c2
      | 3 => simp at hj; subst hj; exact c3
      | 4 => simp at hj; subst hj; exact c4
      | j + 5 =>
        simp only [List.getElem?_cons_succ] at hj
        have := h2 j u hj
        rw [show o + (j + 5) = o + 5 + j from by omega]
        exact this
    · rcases List.mem_cons.1 hg with rfl | hg
      · exact ⟨a, c, rfl, hi, hl⟩
      · exact h3 g hg
theorem vflat_one {w : World} {gs : List VV} (h : ∀ g ∈ gs, OrigVV w g) : ∀ u ∈ vflat gs, u.oneCell' = true := by
  intro u hu
  unfold vflat at hu
  obtain ⟨g, hg, hm⟩ := List.mem_flatMap.1 hu
  obtain ⟨a, c, e1, _⟩ := h g hg
  rw [e1] at hm
  simp at hm
  rcases hm with rfl | rfl | rfl | rfl | rfl <;> rfl
theorem vflat_setf (gs : List VV) : ∀ (i : Nat) (fv : Value) (hi : i < gs.length), vflat (gs.set i ⟨gs[i].d, fv⟩) = (vflat gs).set (i * 5 + 3) fv := by
  induction gs with
  | nil => intro i bv hi; simp at hi
  | cons x xs ih =>
    intro i bv hi
    have e : ∀ (y : VV) ys, vflat (y :: ys) = .int .i64 y.d.id :: .int .i64 y.d.fr :: .bool y.d.snap :: y.fv :: .int .i64 y.d.next :: vflat ys := fun y ys => by simp [vflat]
    cases i with
    | zero => simp [e]
    | succ i =>
      have h2 := ih i bv (by simpa using hi)
      rw [show (i + 1) * 5 + 3 = (i * 5 + 3) + 1 + 1 + 1 + 1 + 1 from by omega]
      simp only [List.set_cons_succ, e, List.getElem_cons_succ]
      rw [h2]
theorem ownF_tag {w : World} {base : Nat} {v : Value} {fs : List FileD} (h : OwnFiles w base v fs) {g : Nat} {cur : Array Value} (hg : w.heap[g]? = some (.cells cur 32 (0, 0))) (o : Nat) (u : Value) : OwnFiles (w.setCell ⟨g, o, none⟩ u) base v fs := by
  obtain ⟨gs, e, ho, ha⟩ := h
  exact ⟨gs, e, rowset2 ho hg (by decide) u, fun x hx => ⟨rowset2 (ha x hx).1 hg (by decide) u, rowset2 (ha x hx).2 hg (by decide) u⟩⟩
/-- half-way: so many volumes have files of their own -/
structure HalfV (w : World) (base : Nat) (v : Value) (ds : List VolD) (gs0 gs : List VV) (k : Nat) : Prop where
  ds : gs.map VV.d = ds
  row : w.ownsRow base 32 5 v gs.length (vflat gs)
  own : ∀ (j : Nat) (g : VV), j < k → gs[j]? = some g → OwnFiles w base g.fv g.d.files
  old : ∀ j : Nat, k ≤ j → gs[j]? = gs0[j]?
theorem HalfV.below {w w' : World} {base : Nat} {v : Value} {ds : List VolD} {gs0 gs : List VV} {k : Nat} (h : HalfV w base v ds gs0 gs k) (hb : Below w.heap.size w w') : HalfV w' base v ds gs0 gs k :=
  ⟨h.ds, own_below h.row hb, fun j g hj hg => (h.own j g hj hg).below hb, h.old⟩
theorem HalfV.fin {w : World} {base : Nat} {v : Value} {ds : List VolD} {gs0 gs : List VV} {k : Nat} (h : HalfV w base v ds gs0 gs k) (hk : gs.length ≤ k) : OwnVols w base v ds := by
  refine ⟨gs, h.ds, h.row, fun g hg => ?_⟩
  obtain ⟨j, hj, rfl⟩ := List.getElem_of_mem hg
  exact h.own j _ (by omega) (List.getElem?_eq_getElem hj)
theorem HalfV.step {w : World} {base g cap n : Nat} {ds : List VolD} {gs0 gs : List VV} {k : Nat} (h : HalfV w base (.slice (some ⟨g, 0, none⟩) n cap) ds gs0 gs k) (x : VV) (hx : gs[k]? = some x) {fv : Value} (hb : OwnFiles w base fv x.d.files) :
    HalfV (w.setCell ⟨g, k * 5 + 3, none⟩ fv) base (.slice (some ⟨g, 0, none⟩) n cap) ds gs0 (gs.set k ⟨x.d, fv⟩) (k + 1) := by
  obtain ⟨hk, rfl⟩ := List.getElem?_eq_some_iff.1 hx
  obtain ⟨cs, hh⟩ := own_tag h.row g rfl
  have hn : n = gs.length := by
    rcases h.row.2 with ⟨h1, _⟩ | ⟨g', cap', cur, h1, _⟩
    · simp at h1
    · simp at h1; exact h1.2.1
  subst hn
  refine ⟨?_, ?_, ?_, ?_⟩
  · rw [List.map_set, ← h.ds]
    apply List.ext_getElem?
    intro i
    by_cases e : k = i
    · subst e; rw [List.getElem?_set_self (by simpa using hk)]; simp [hk]
    · rw [List.getElem?_set_ne e]
  · rw [vflat_setf gs k fv hk, List.length_set]
    exact (h.row.stored (k * 5 + 3) fv).1
  · intro j y hj hy
    by_cases e : k = j
    · subst e
      rw [List.getElem?_set_self hk] at hy
      injection hy with hy; subst hy
      exact ownF_tag hb hh _ _
    · rw [List.getElem?_set_ne e] at hy
      exact ownF_tag (h.own j y (by omega) hy) hh _ _
  · intro j hj
    rw [List.getElem?_set_ne (by omega)]
    exact h.old j (by omega)
theorem HalfV.cells {w : World} {base g cap n : Nat} {ds : List VolD} {gs0 gs : List VV} {k : Nat} (h : HalfV w base (.slice (some ⟨g, 0, none⟩) n cap) ds gs0 gs k) {i : Nat} {x : VV} (hx : gs[i]? = some x) :
    (w.cell? ⟨g, i * 5, none⟩ = some (.int .i64 x.d.id) ∧ w.cell? ⟨g, i * 5 + 1, none⟩ = some (.int .i64 x.d.fr) ∧ w.cell? ⟨g, i * 5 + 2, none⟩ = some (.bool x.d.snap) ∧ w.cell? ⟨g, i * 5 + 3, none⟩ = some x.fv ∧ w.cell? ⟨g, i * 5 + 4, none⟩ = some (.int .i64 x.d.next)) ∧ ∀ o, w.frozen? ⟨g, o, none⟩ = false := by
  have hn : n = gs.length := by
    rcases h.row.2 with ⟨h1, _⟩ | ⟨g', cap', cur, h1, _⟩
    · simp at h1
    · simp at h1; exact h1.2.1
  subst hn
  obtain ⟨c0, c1, c2, c3, c4⟩ := vflat_get gs i x hx
  have K : ∀ j u, (vflat gs)[j]? = some u → w.cell? ⟨g, j, none⟩ = some u := fun j u hj => by
    have := h.row.cells (g := g) rfl j u hj
    rw [Addr.add_lit, Nat.zero_add] at this
    exact this
  exact ⟨⟨K _ _ c0, K _ _ c1, K _ _ c2, K _ _ c3, K _ _ c4⟩, fun o => h.row.frozenAt o⟩

set_option maxRecDepth 100000 in
set_option maxHeartbeats 4000000 in
theorem copies_some (b1 o1 : Nat) (ds : List VolD) (ca : Nat) (w : World) (hv : VolsAt w (some ⟨b1, o1, none⟩) ds) (hs : SmallW ds) (hp : ∀ d ∈ ds, 0 < d.files.length) (hd : 0 < ds.length) :
    Calls Try.prog 52 #[.slice (some ⟨b1, o1, none⟩) ds.length ca] w fun e w' => (∃ u, e = .returned u ∧ OwnVols w' w.heap.size u ds) ∧ Below w.heap.size w w' := by
  have hl := hs.1
  have HS : Hid (SmallW ds) := hs
  have HPF : Hid (∀ d ∈ ds, 0 < d.files.length) := hp
  obtain ⟨gs0, hd0, hcells, horig⟩ : ∃ gs : List VV, gs.map VV.d = ds ∧ (∀ j u, (vflat gs)[j]? = some u → w.cell? ⟨b1, o1 + j, none⟩ = some u) ∧ ∀ g ∈ gs, OrigVV w g := by
    rcases hv with h0 | ⟨b, o, e, h⟩
    · rw [h0] at hd; simp at hd
    · injection e with e; injection e with e1 e2; subst e1; subst e2
      exact vorig_of ds _ h
  have hlen0 : gs0.length = ds.length := by rw [← hd0, List.length_map]
  have HD0 : Hid (gs0.map VV.d = ds) := hd0
  have HCE : Hid (∀ j u, (vflat gs0)[j]? = some u → w.cell? ⟨b1, o1 + j, none⟩ = some u) := hcells
  have HOR : Hid (∀ g ∈ gs0, OrigVV w g) := horig
  have HL0 : Hid (gs0.length = ds.length) := hlen0
  clear hv hd0 hcells horig hlen0 hs hp
  go_enter Try.func52, Try.ntmps52
  go_wp2_with fail
  refine (clov_row ⟨b1, o1, none⟩ ds.length ca (vflat gs0) _ (by rw [vflat_len, HL0.out]) (by omega) (fun j u hj => by
    rw [Addr.add_lit]
    exact HCE.out j u hj) (vflat_one HOR.out)).mono ?_
  rintro e w1 ⟨⟨fv, rfl, hrow⟩, hb1⟩
  obtain ⟨g, cap, rfl, hg1, hg2⟩ := slice_cells hrow hd
  have HB1 : Hid (Below w.heap.size w w1) := hb1
  have HHF : Hid (HalfV w1 w.heap.size (.slice (some ⟨g, 0, none⟩) ds.length cap) ds gs0 gs0 0) :=
    ⟨HD0.out, by rw [HL0.out]; exact hrow, fun j g h => by omega, fun j _ => rfl⟩
  clear hrow hb1 hg2
  go_wp2_with fail
  go_loopw [9] (fun i wr => ∃ (k : Nat) (gs : List VV), k ≤ ds.length ∧ i = .int .i64 k ∧ Hid (Below w.heap.size w wr) ∧ Hid (HalfV wr w.heap.size (.slice (some ⟨g, 0, none⟩) ds.length cap) ds gs0 gs k))
    (fun i _ => ds.length - (intOf i).toNat)
  case atStart => exact ⟨0, gs0, by omega, rfl, HB1, HHF⟩
  case round =>
    obtain ⟨k, gs, hk, rfl, HC, HH⟩ := hrel
    by_cases hkl : k < ds.length
    · have hkli : (k : Int) < (ds.length : Int) := by omega
      have hk0 : (0 : Int) ≤ (k : Int) := by omega
      have hgl : gs.length = ds.length := by rw [← HH.out.ds, List.length_map]
      obtain ⟨x, hx⟩ : ∃ x, gs[k]? = some x := ⟨gs[k], List.getElem?_eq_getElem (by omega)⟩
      have hx0 : gs0[k]? = some x := by rw [← HH.out.old k (Nat.le_refl _)]; exact hx
      have horg := HOR.out x (List.mem_of_getElem? hx0)
      have hxm : x.d ∈ ds := by rw [← HD0.out]; exact List.mem_map.2 ⟨x, List.mem_of_getElem? hx0, rfl⟩
      have hsm := HS.out.2 x.d hxm
      have hpx := HPF.out x.d hxm
      obtain ⟨⟨e0, e1, e2, e3, e4⟩, _⟩ := HH.out.cells hx
      obtain ⟨d, xfv⟩ := x
      obtain ⟨af, cf, e5, hfi, hfc⟩ := horg
      simp only at e5
      subst e5
      simp only at e0 e1 e2 e3 e4 hfi hfc hsm hpx
      have HVV : Hid (VolVal wr (.agg #[.int .i64 d.id, .int .i64 d.fr, .bool d.snap, .slice af d.files.length cf, .int .i64 d.next]) d) := ⟨af, cf, rfl, hfi.below HC.out, hfc⟩
      have HX : Hid (gs[k]? = some ⟨d, .slice af d.files.length cf⟩) := hx
      have HSM : Hid (SmallV d) := hsm
      clear hfi hfc hx hx0 hxm hsm hgl
      go_wp2_with fail
      refine (filesOf_any _ d _ HVV.out HSM.out hpx).mono ?_
      rintro e wU ⟨⟨nv, rfl, hob⟩, hbU⟩
      have HHU := HH.out.below hbU
      have kc := (HHU.cells HX.out).1.2.2.2.1
      have kf := (HHU.cells HX.out).2 (k * 5 + 3)
      obtain ⟨abv, cbv, rfl, _⟩ := hob.at
      have hgt := (World.ownsRow.lt HH.out.row g rfl).1
      have hwr := HC.out.size
      have HH2 : Hid (HalfV (wU.setCell ⟨g, k * 5 + 3, none⟩ (.slice abv d.files.length cbv)) w.heap.size (.slice (some ⟨g, 0, none⟩) ds.length cap) ds gs0 (gs.set k ⟨d, .slice abv d.files.length cbv⟩) (k + 1)) := HHU.step _ HX.out (hob.le hwr)
      have HC2 : Hid (Below w.heap.size w (wU.setCell ⟨g, k * 5 + 3, none⟩ (.slice abv d.files.length cbv))) := (nwT HC.out hbU).setCell (p := ⟨g, k * 5 + 3, none⟩) hgt _
      clear hob hbU HHU e0 e1 e2 e3 e4 hwr
      go_wp2_with fail
      go_roundw
      case rel => exact ⟨k + 1, _, by omega, by go_num, HC2, HH2⟩
      case measure => simp [intOf]; omega
    · have hkli : ¬ (k : Int) < (ds.length : Int) := by omega
      have HOX : Hid (OwnVols wr w.heap.size (.slice (some ⟨g, 0, none⟩) ds.length cap) ds) := HH.out.fin (by rw [← List.length_map (f := VV.d), HH.out.ds]; omega)
      clear HH
      go_wp2_with fail
      go_ret
      exact ⟨⟨_, rfl, HOX.out⟩, HC.out⟩

end Go.Proofs.Ytodahdnnlkcfdaa

/- Rows of volumes copied, compared, looked through, by the page. -/
namespace Go.Proofs.Ytodahdnnlkcfdaa
open Go.RowKit

set_option maxRecDepth 100000 in
set_option maxHeartbeats 1000000 in
theorem copyVols_any (a : Option Addr) (ds : List VolD) (ca : Nat) (w : World) (hx : VolsAt w a ds) (hs : SmallW ds) :
    Calls Try.prog 10 #[.slice a ds.length ca] w fun e w' => (∃ v, e = .returned v ∧ OwnVols w' w.heap.size v ds) ∧ Below w.heap.size w w' := by
  have HX : Hid (VolsAt w a ds) := hx
  have HS : Hid (SmallW ds) := hs
  have hl := hs.1
  clear hx hs
  obtain ⟨i0, hi, hz0, hz1, hz2⟩ := info_parts Try.info32
  go_enter Try.func10, Try.ntmps10
  go_wp2_with fail
  go_loopw [3, 4] (fun v i wr => ∃ (k : Nat), k ≤ ds.length ∧ i = .int .i64 k ∧ OwnVols wr w.heap.size v (ds.take k) ∧ Below w.heap.size w wr)
    (fun _ i _ => ds.length - (intOf i).toNat)
  case atStart => exact ⟨0, by omega, rfl, ⟨[], rfl, World.ownsRow_nil _ _ _ _, by simp⟩, nwR w⟩
  case round =>
    obtain ⟨k, hk, rfl, hO, hb⟩ := hrel
    have HO : Hid (OwnVols wr w.heap.size u3 (ds.take k)) := hO
    clear hO
    by_cases hkl : k < ds.length
    · have hkli : (k : Int) < (ds.length : Int) := by omega
      obtain ⟨b1, o1, rfl, hf⟩ := HX.out.vol hkl
      have HSM : Hid (SmallV (ds.getD k VZ)) := HS.out.2 _ (by simp [List.getD, hkl])
      have HT : Hid (ds.take (k + 1) = ds.take k ++ [ds.getD k VZ]) := by
        show _ = _
        rw [List.take_succ_eq_append_getElem hkl]; simp [List.getD, hkl]
      have hlt : (ds.take k).length ≤ 100000 := by rw [List.length_take]; omega
      obtain ⟨af, cf, ⟨h0, h1, h2, h3, h4⟩, hv⟩ := (hf.below hb).val
      generalize ds.getD k VZ = d at HSM HT h0 h1 h2 h3 h4 hv
      have HV : Hid (VolVal wr (.agg #[.int .i64 d.id, .int .i64 d.fr, .bool d.snap, .slice af d.files.length cf, .int .i64 d.next]) d) := hv
      clear hf hv
      go_wp2_with fail
      refine (copyVol_any _ d _ HV.out HSM.out).mono ?_
      rintro e w2 ⟨⟨u, rfl, fv, rfl, hfv⟩, hb2⟩
      have hbq := nwT hb hb2
      have HFV : Hid (OwnFiles w2 w.heap.size fv d.files) := hfv.le hb.size
      have HO2 : Hid (OwnVols w2 w.heap.size u3 (ds.take k)) := HO.out.below hb2
      clear hfv hb2 HO h0 h1 h2 h3 h4 HV
      obtain ⟨gs, hgs, hown, hall⟩ := HO2.out
      have HOW : Hid (w2.ownsRow w.heap.size 32 5 u3 gs.length (vflat gs)) := hown
      have HALL : Hid (∀ g ∈ gs, OwnFiles w2 w.heap.size g.fv g.d.files) := hall
      have HGS : Hid (gs.map VV.d = ds.take k) := hgs
      have hgl : gs.length ≤ 100000 := by have := congrArg List.length hgs; rw [List.length_map] at this; omega
      obtain ⟨abv, cbv, eb, _⟩ := HFV.out.at
      subst eb
      clear hown hall hgs HO2
      have hsz : w.heap.size ≤ (w2.alloc (.cells #[.int .i64 d.id, .int .i64 d.fr, .bool d.snap, .slice abv d.files.length cbv, .int .i64 d.next] 32)).heap.size := (nwA hbq _).size
      have hc3 : gs.length + 1 ≤ maxLen := by unfold maxLen; omega
      have hc4 : (gs.length + 1) * 56 ≤ 140737488355328 := by omega
      go_wp2_with (at_builtin; refine wpList_append_own _ rfl (.tmp 11) (.tmp 17) 22 rfl w.heap.size 32 i0 (.agg #[.int .i64 0, .int .i64 0, .bool false, .slice none 0 0, .int .i64 0]) 5 56 Try.underlying22 hi hz0 hz1 hz2 rfl (by decide) u3 gs.length (vflat gs) rfl (World.ownsRow.alloc HOW.out _) ⟨w2.heap.size, 0, none⟩ 1 1 [.int .i64 d.id, .int .i64 d.fr, .bool d.snap, .slice abv d.files.length cbv, .int .i64 d.next] rfl rfl (cells5 _ _ _ _ _ _ _) (by simp [Value.oneCell']) hc3 hc4 hsz ?_; intro v' w3 hown hgrow _; refine unstop ?_)
      unfold Stop
      have HB3 : Hid (Below w.heap.size w w3) := (nwA hbq _).grown hgrow (nwA hbq _).size (fun q e => (HOW.out.lt q e).1)
      have HO3 : Hid (OwnVols w3 w.heap.size v' (ds.take (k + 1))) := by
        rw [HT.out, ← HGS.out]
        have hrow := World.ownsRow.alloc HOW.out (.cells #[.int .i64 d.id, .int .i64 d.fr, .bool d.snap, .slice abv d.files.length cbv, .int .i64 d.next] 32)
        exact OwnVols.snoc (g := ⟨d, .slice abv d.files.length cbv⟩) (fun x hx => ((HALL.out x hx).below (nwA (nwR _) _)).grown hrow hgrow) ((HFV.out.below (nwA (nwR _) _)).grown hrow hgrow) hown
      clear hown hgrow
      go_wp2_with fail
      go_roundw
      case rel => exact ⟨k + 1, by omega, by go_num, HO3.out, HB3.out⟩
      case measure => simp [intOf]; omega
    · have hkli : ¬ (k : Int) < (ds.length : Int) := by omega
      have HOE : Hid (OwnVols wr w.heap.size u3 ds) := by have := HO.out; rw [List.take_of_length_le (by omega)] at this; exact this
      clear HO
      have h := HOE.out
      obtain ⟨av, cv, rfl, _⟩ := h.at
      go_wp2_with fail
      go_ret
      exact ⟨⟨_, rfl, HOE.out⟩, hb⟩

set_option maxRecDepth 100000 in
set_option maxHeartbeats 2000000 in
theorem eqVols_any (a b : Option Addr) (xs ys : List VolD) (ca cb : Nat) (w : World) (hx : VolsAt w a xs) (hy : VolsAt w b ys) (hs : SmallW xs) :
    Calls Try.prog 20 #[.slice a xs.length ca, .slice b ys.length cb] w fun e w' => e = .returned (.bool (decide (xs = ys))) ∧ Below w.heap.size w w' := by
  have HX : Hid (VolsAt w a xs) := hx
  have HY : Hid (VolsAt w b ys) := hy
  have HS : Hid (SmallW xs) := hs
  have hl := hs.1
  clear hx hy hs
  by_cases hlen : xs.length = ys.length
  · have hlen' : ((xs.length : Int) != (ys.length : Int)) = false := by simp [hlen]
    have HL : Hid (xs.length = ys.length) := hlen
    clear hlen
    go_enter Try.func20, Try.ntmps20
    go_wp2_with fail
    go_loopw [5] (fun i wr => ∃ (k : Nat), k ≤ xs.length ∧ i = .int .i64 k ∧ Below w.heap.size w wr ∧ Hid (∀ j, j < k → xs.getD j VZ = ys.getD j VZ))
      (fun i _ => xs.length - (intOf i).toNat)
    case atStart => exact ⟨0, by omega, rfl, nwR w, fun j hj => by omega⟩
    case round =>
      obtain ⟨k, hk, rfl, hb, HE⟩ := hrel
      by_cases hlt : k < xs.length
      · have hlty : k < ys.length := by have := HL.out; omega
        obtain ⟨b1, o1, rfl, x1⟩ := HX.out.vol hlt
        obtain ⟨b2, o2, rfl, y1⟩ := HY.out.vol hlty
        have HSM : Hid (SmallV (xs.getD k VZ)) := HS.out.2 _ (by simp [List.getD, hlt])
        obtain ⟨ab, cb', ⟨c0, c1, c2, c3, c4⟩, hv1⟩ := (x1.below hb).val
        obtain ⟨ab2, cb2, ⟨d0, d1, d2, d3, d4⟩, hv2⟩ := (y1.below hb).val
        generalize hxf : xs.getD k VZ = f at HSM c0 c1 c2 c3 c4 hv1
        generalize hyg : ys.getD k VZ = g at d0 d1 d2 d3 d4 hv2
        have HXF : Hid (xs.getD k VZ = f) := hxf
        have HYG : Hid (ys.getD k VZ = g) := hyg
        clear hxf hyg x1 y1
        have HV1 : Hid (VolVal wr (.agg #[.int .i64 f.id, .int .i64 f.fr, .bool f.snap, .slice ab f.files.length cb', .int .i64 f.next]) f) := hv1
        have HV2 : Hid (VolVal wr (.agg #[.int .i64 g.id, .int .i64 g.fr, .bool g.snap, .slice ab2 g.files.length cb2, .int .i64 g.next]) g) := hv2
        have kc0 : ∀ w', Below wr.heap.size wr w' → w'.cell? ⟨b1, o1 + k * 5, none⟩ = some (.int .i64 f.id) := fun w' h => (h.cell (p := ⟨b1, o1 + k * 5, none⟩) (block_lt_of_cell c0)).trans c0
        have kc1 : ∀ w', Below wr.heap.size wr w' → w'.cell? ⟨b1, o1 + k * 5 + 1, none⟩ = some (.int .i64 f.fr) := fun w' h => (h.cell (p := ⟨b1, o1 + k * 5 + 1, none⟩) (block_lt_of_cell c1)).trans c1
        have kc2 : ∀ w', Below wr.heap.size wr w' → w'.cell? ⟨b1, o1 + k * 5 + 2, none⟩ = some (.bool f.snap) := fun w' h => (h.cell (p := ⟨b1, o1 + k * 5 + 2, none⟩) (block_lt_of_cell c2)).trans c2
        have kc3 : ∀ w', Below wr.heap.size wr w' → w'.cell? ⟨b1, o1 + k * 5 + 3, none⟩ = some (.slice ab f.files.length cb') := fun w' h => (h.cell (p := ⟨b1, o1 + k * 5 + 3, none⟩) (block_lt_of_cell c3)).trans c3
        have kc4 : ∀ w', Below wr.heap.size wr w' → w'.cell? ⟨b1, o1 + k * 5 + 4, none⟩ = some (.int .i64 f.next) := fun w' h => (h.cell (p := ⟨b1, o1 + k * 5 + 4, none⟩) (block_lt_of_cell c4)).trans c4
        have kd0 : ∀ w', Below wr.heap.size wr w' → w'.cell? ⟨b2, o2 + k * 5, none⟩ = some (.int .i64 g.id) := fun w' h => (h.cell (p := ⟨b2, o2 + k * 5, none⟩) (block_lt_of_cell d0)).trans d0
        have kd1 : ∀ w', Below wr.heap.size wr w' → w'.cell? ⟨b2, o2 + k * 5 + 1, none⟩ = some (.int .i64 g.fr) := fun w' h => (h.cell (p := ⟨b2, o2 + k * 5 + 1, none⟩) (block_lt_of_cell d1)).trans d1
        have kd2 : ∀ w', Below wr.heap.size wr w' → w'.cell? ⟨b2, o2 + k * 5 + 2, none⟩ = some (.bool g.snap) := fun w' h => (h.cell (p := ⟨b2, o2 + k * 5 + 2, none⟩) (block_lt_of_cell d2)).trans d2
        have kd3 : ∀ w', Below wr.heap.size wr w' → w'.cell? ⟨b2, o2 + k * 5 + 3, none⟩ = some (.slice ab2 g.files.length cb2) := fun w' h => (h.cell (p := ⟨b2, o2 + k * 5 + 3, none⟩) (block_lt_of_cell d3)).trans d3
        have kd4 : ∀ w', Below wr.heap.size wr w' → w'.cell? ⟨b2, o2 + k * 5 + 4, none⟩ = some (.int .i64 g.next) := fun w' h => (h.cell (p := ⟨b2, o2 + k * 5 + 4, none⟩) (block_lt_of_cell d4)).trans d4
        have hS := nwR wr
        have hk1 : (k : Int) < (xs.length : Int) := by omega
        have hk2 : (k : Int) < (ys.length : Int) := by omega
        have hk0 : (0 : Int) ≤ (k : Int) := by omega
        clear c0 c1 c2 c3 c4 d0 d1 d2 d3 d4 hv1 hv2
        go_wp2_with fail
        go_region_held3 (fun w' => Below wr.heap.size wr w') (first | assumption | exact Below.drew (by assumption) | exact nwT (by assumption) (by assumption)) (first
          | (go_at_call 19; refine (eqVol_any _ _ f g _ (HV1.out.below (by assumption)) (HV2.out.below (by assumption)) HSM.out).mono ?_; rintro e wT ⟨rfl, hbT⟩))
        all_goals
          have hbt : Below wr.heap.size wr wT := by assumption
          have hbq := nwT hb hbt
          clear kc0 kc1 kc2 kc3 kc4 kd0 kd1 kd2 kd3 kd4
        by_cases he : f = g
        · rw [decide_eq_true he]
          go_wp2_with fail
          go_roundw
          case rel => exact ⟨k + 1, by omega, by go_num, hbq, fun j hj => by
            by_cases e : j = k
            · subst e; rw [HXF.out, HYG.out, he]
            · exact HE.out j (by omega)⟩
          case measure => simp [intOf]; omega
        · rw [decide_eq_false he]
          have HF : Hid (decide (xs = ys) = false) := decide_eq_false (fun e => he (by rw [← HXF.out, ← HYG.out, e]))
          go_wp2_with fail
          go_ret
          exact ⟨by rw [HF.out]; rfl, hbq⟩
      · have hlti : ¬ (k : Int) < (xs.length : Int) := by omega
        have HF : Hid (decide (xs = ys) = true) := decide_eq_true (ext_getD' VZ HL.out (fun i hi => HE.out i (by omega)))
        go_wp2_with fail
        go_ret
        exact ⟨by rw [HF.out]; rfl, hb⟩
  · have hlen' : ((xs.length : Int) != (ys.length : Int)) = true := by rw [bne_iff_ne]; omega
    have HF : Hid (decide (xs = ys) = false) := decide_eq_false (fun e => hlen (by rw [e]))
    clear hlen
    go_enter Try.func20, Try.ntmps20
    go_wp2_with fail
    go_ret
    exact ⟨by rw [HF.out]; rfl, nwR w⟩

/-- where a volume stands -/
def atV (ds : List VolD) (id : Int) : Option Nat := ds.findIdx? fun d => d.id == id
set_option maxRecDepth 100000 in
set_option maxHeartbeats 1000000 in
theorem atv_any (a : Option Addr) (ds : List VolD) (ca : Nat) (id : Int) (w : World) (hv : VolsAt w a ds) (hl : ds.length ≤ 100000) :
    Calls Try.prog 32 #[.slice a ds.length ca, .int .i64 id] w fun e w' => e = .returned (.int .i64 (optI (atV ds id))) ∧ w' = w := by
  have HF : Hid (VolsAt w a ds) := hv
  clear hv
  go_enter Try.func32, Try.ntmps32
  go_wp2_with fail
  go_loopw [5] (fun i wr => ∃ (k : Nat), k ≤ ds.length ∧ i = .int .i64 k ∧ wr = w ∧ Hid (∀ j, j < k → ((ds.getD j VZ).id == id) = false))
    (fun i _ => ds.length - (intOf i).toNat)
  case atStart => exact ⟨0, by omega, rfl, rfl, fun j hj => by omega⟩
  case round =>
    obtain ⟨k, hk, rfl, rfl, HE⟩ := hrel
    by_cases hlt : k < ds.length
    · obtain ⟨b1, o1, rfl, af, cf, ⟨c0, c1, c2, c3, c4⟩, _⟩ := HF.out.vol hlt
      have hlti : (k : Int) < (ds.length : Int) := by omega
      have hk0 : (0 : Int) ≤ (k : Int) := by omega
      have HK : Hid (((ds.getD k VZ).id == id) = false → ∀ j, j < k + 1 → ((ds.getD j VZ).id == id) = false) := fun h j hj => by
        by_cases e : j = k
        · subst e; exact h
        · exact HE.out j (by omega)
      have HY : Hid (((ds.getD k VZ).id == id) = true → atV ds id = some k) := fun h => find_yes VZ hlt h (fun j hj => HE.out j hj)
      generalize (ds.getD k VZ).id = x at c0 HK HY
      clear c1 c2 c3 c4
      by_cases he : x = id
      · have HR : Hid (atV ds id = some k) := HY.out (by rw [he]; simp)
        subst he
        go_wp2_with fail
        go_ret
        exact ⟨ret_int (by rw [HR.out]; rfl), rfl⟩
      · have he2 : (x == id) = false := beq_eq_false_iff_ne.2 he
        have HN := HK.out he2
        go_wp2_with fail
        go_roundw
        case rel => exact ⟨k + 1, by omega, by go_num, by first | rfl | trivial, HN⟩
        case measure => simp [intOf]; omega
    · have hlti : ¬ (k : Int) < (ds.length : Int) := by omega
      have HY : Hid (atV ds id = none) := find_no VZ (fun j hj => HE.out j (by omega))
      go_wp2_with fail
      go_ret
      exact ⟨ret_int (by rw [HY.out]; rfl), rfl⟩

end Go.Proofs.Ytodahdnnlkcfdaa

/- A volume found by its ID, and whether a snapshot's is there, by the program. -/
namespace Go.Proofs.Ytodahdnnlkcfdaa
open Go.RowKit

def ptrV (a : Option Addr) (o : Option Nat) : Value := match a, o with
  | some p, some k => .pointer (some ⟨p.block, p.off + k * 5, none⟩)
  | _, _ => .pointer none
theorem ptrV_none (a : Option Addr) : ptrV a none = .pointer none := by cases a <;> rfl

set_option maxRecDepth 100000 in
set_option maxHeartbeats 1000000 in
theorem vfind_any (a : Option Addr) (ds : List VolD) (ca : Nat) (id : Int) (w : World) (hv : VolsAt w a ds) (hl : ds.length ≤ 100000) :
    Calls Try.prog 43 #[.slice a ds.length ca, .int .i64 id] w fun e w' => e = .returned (.tuple #[.agg #[ptrV a (atV ds id)], .bool (atV ds id).isSome]) ∧ Below w.heap.size w w' := by
  have HF : Hid (VolsAt w a ds) := hv
  clear hv
  go_enter Try.func43, Try.ntmps43
  go_wp2_with fail
  go_loopw [9] (fun i wr => ∃ (k : Nat), k ≤ ds.length ∧ i = .int .i64 k ∧ wr = w.alloc (.cells #[.pointer none] 67) ∧ Hid (∀ j, j < k → ((ds.getD j VZ).id == id) = false))
    (fun i _ => ds.length - (intOf i).toNat)
  case atStart => exact ⟨0, by omega, rfl, rfl, fun j hj => by omega⟩
  case round =>
    obtain ⟨k, hk, rfl, rfl, HE⟩ := hrel
    by_cases hlt : k < ds.length
    · obtain ⟨b1, o1, rfl, af, cf, ⟨c0, c1, c2, c3, c4⟩, _⟩ := (HF.out.below (nwA (nwR w) (.cells #[.pointer none] 67))).vol hlt
      have hlti : (k : Int) < (ds.length : Int) := by omega
      have hk0 : (0 : Int) ≤ (k : Int) := by omega
      have HK : Hid (((ds.getD k VZ).id == id) = false → ∀ j, j < k + 1 → ((ds.getD j VZ).id == id) = false) := fun h j hj => by
        by_cases e : j = k
        · subst e; exact h
        · exact HE.out j (by omega)
      have HY : Hid (((ds.getD k VZ).id == id) = true → atV ds id = some k) := fun h => find_yes VZ hlt h (fun j hj => HE.out j hj)
      generalize (ds.getD k VZ).id = x at c0 HK HY
      clear c1 c2 c3 c4
      by_cases he : x = id
      · have HR : Hid (atV ds id = some k) := HY.out (by rw [he]; simp)
        subst he
        go_wp2_with fail
        refine bodyPost_ret (v := .tuple #[.agg #[.pointer (some ⟨b1, o1 + k * 5, none⟩)], .bool true]) (by simp [results, Try.results43, go_sem]) rfl ⟨by rw [HR.out]; rfl, nwA (nwR w) _⟩
      · have he2 : (x == id) = false := beq_eq_false_iff_ne.2 he
        have HN := HK.out he2
        go_wp2_with fail
        go_roundw
        case rel => exact ⟨k + 1, by omega, by go_num, by first | rfl | trivial, HN⟩
        case measure => simp [intOf]; omega
    · have hlti : ¬ (k : Int) < (ds.length : Int) := by omega
      have HY : Hid (atV ds id = none) := find_no VZ (fun j hj => HE.out j (by omega))
      go_wp2_with fail
      refine bodyPost_ret (v := .tuple #[.agg #[.pointer none], .bool false]) (by simp [results, Try.results43, go_sem]) rfl ⟨by rw [HY.out]; cases a <;> rfl, nwA (nwR w) _⟩

/-- a snapshot is one of a volume that is there -/
def RootW (ds : List VolD) (d : VolD) : Prop := d.snap = true → ∃ k, atV ds d.fr = some k ∧ (ds.getD k VZ).snap = false
theorem atV_lt {ds : List VolD} {id : Int} {k : Nat} (h : atV ds id = some k) : k < ds.length := by
  unfold atV at h
  rw [List.findIdx?_eq_some_iff_getElem] at h
  exact h.1
set_option maxRecDepth 100000 in
set_option maxHeartbeats 1000000 in
theorem rooted_any (a : Option Addr) (ds : List VolD) (ca : Nat) (v : Value) (d : VolD) (w : World) (hv : VolsAt w a ds) (hd : VolVal w v d) (hl : ds.length ≤ 100000) :
    Calls Try.prog 69 #[.slice a ds.length ca, v] w fun e w' => SaysB e (RootW ds d) ∧ Below w.heap.size w w' := by
  have HF : Hid (VolsAt w a ds) := hv
  obtain ⟨av, cv, rfl, _, _⟩ := hd
  obtain ⟨id, fr, snap, fs, next⟩ := d
  simp only
  obtain ⟨W0, hW0⟩ : ∃ W0, W0 = w.alloc (.cells #[.int .i64 id, .int .i64 fr, .bool snap, .slice av fs.length cv, .int .i64 next] 32) := ⟨_, rfl⟩
  have HB0 : Hid (Below w.heap.size w W0) := by rw [hW0]; exact nwA (nwR w) _
  have HX0 : Hid (W0.heap[w.heap.size]? = some (.cells #[.int .i64 id, .int .i64 fr, .bool snap, .slice av fs.length cv, .int .i64 next] 32 (0, 0))) := by rw [hW0]; exact heap_alloc_new w _
  clear hv
  cases snap
  case false =>
    have HR : Hid (RootW ds ⟨id, fr, false, fs, next⟩) := fun h => by cases h
    clear hW0 HB0 HX0
    go_enter Try.func69, Try.ntmps69
    go_wp2_with fail
    go_ret
    exact ⟨⟨true, rfl, by simp; exact HR.out⟩, nwA (nwR w) _⟩
  case true =>
  go_enter Try.func69, Try.ntmps69
  go_wp2_with fail
  rw [← hW0]
  clear hW0
  refine (vfind_any a ds ca fr W0 (HF.out.below HB0.out) hl).mono ?_
  rintro e w1 ⟨rfl, hb1⟩
  have HB1 : Hid (Below w.heap.size w w1) := nwT HB0.out hb1
  cases hat : atV ds fr with
  | none =>
    have HR : Hid (¬ RootW ds ⟨id, fr, true, fs, next⟩) := fun h => by
      obtain ⟨k, h1, _⟩ := h rfl
      rw [hat] at h1; cases h1
    simp only [Option.isSome, ptrV_none]
    clear hat hb1
    go_wp2_with fail
    go_ret
    exact ⟨says_no HR.out, nwA HB1.out _⟩
  | some k =>
    have hkl := atV_lt hat
    obtain ⟨b1, o1, rfl, af, cf, ⟨c0, c1, c2, c3, c4⟩, _⟩ := (HF.out.below HB1.out).vol hkl
    have c2' := ((nwA (nwR w1) (.cells #[.pointer (some ⟨b1, o1 + k * 5, none⟩)] 67)).cell (p := ⟨b1, o1 + k * 5 + 2, none⟩) (block_lt_of_cell c2)).trans c2
    have HR : Hid ((!(ds.getD k VZ).snap) = true ↔ RootW ds ⟨id, fr, true, fs, next⟩) := by
      constructor
      · intro h _; exact ⟨k, hat, by simpa using h⟩
      · intro h
        obtain ⟨k', h1, h2⟩ := h rfl
        rw [hat] at h1
        injection h1 with h1
        subst h1
        rw [h2]; rfl
    generalize (ds.getD k VZ).snap = s at c2 c2' HR
    simp only [Option.isSome, ptrV]
    clear hat hb1 c0 c1 c3 c4
    cases s
    · go_wp2_with fail
      go_ret
      exact ⟨⟨_, rfl, by simpa using HR.out⟩, nwA HB1.out _⟩
    · go_wp2_with fail
      go_ret
      exact ⟨⟨_, rfl, by simpa using HR.out⟩, nwA HB1.out _⟩

end Go.Proofs.Ytodahdnnlkcfdaa
