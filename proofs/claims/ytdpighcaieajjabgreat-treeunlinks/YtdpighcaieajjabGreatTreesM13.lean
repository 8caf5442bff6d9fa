/- Laid together: Copyw, Linked, Findw, Openv, Facet. -/
import Derived.Test.YtdpighcaieajjabGreatTreesM12
/- A volume copied by the program. -/
namespace Go.Proofs.YtdpighcaieajjabGreat
open Go.RowKit

def OwnVolX (w : World) (base : Nat) (v : Value) (d : VolD) : Prop := ∃ fv, v = .agg #[.int .i64 d.id, .int .i64 d.fr, .bool d.snap, fv, .int .i64 d.next] ∧ OwnFilesX w base fv d.files
theorem own_size {w : World} {base : Nat} {e : TypeId} {size : Nat} {v : Value} {n : Nat} {xs : List Value} (h : w.ownsRow base e size v n xs) : ∀ g, v.ownBlock = some g → base ≤ g ∧ g < w.heap.size := fun g hg => h.lt g hg
/-- the state of the copying round: the boxed volume, the result's block, the row -/
structure CpS (w : World) (fvb : Nat) (box res : Obj) (wr : World) : Prop where
  bel : Below w.heap.size w wr
  bx : wr.heap[w.heap.size]? = some box
  rs : wr.heap[w.heap.size + 1]? = some res
  lt : w.heap.size + 1 < fvb
theorem CpS.below {w : World} {fvb : Nat} {box res : Obj} {wr w' : World} (h : CpS w fvb box res wr) (hb : Below wr.heap.size wr w') : CpS w fvb box res w' :=
  ⟨nwT h.bel hb, (hb.block _ (Array.getElem?_eq_some_iff.1 h.bx).1).trans h.bx, (hb.block _ (Array.getElem?_eq_some_iff.1 h.rs).1).trans h.rs, h.lt⟩
theorem CpS.set {w : World} {fvb : Nat} {box res : Obj} {wr : World} (h : CpS w fvb box res wr) (o : Nat) (v : Value) : CpS w fvb box res (wr.setCell ⟨fvb, o, none⟩ v) :=
  have := h.lt
  ⟨h.bel.setCell (p := ⟨fvb, o, none⟩) (by show w.heap.size ≤ fvb; omega) _, (Below.heap_setCell _ _ _ _ (by show w.heap.size ≠ fvb; omega)).trans h.bx, (Below.heap_setCell _ _ _ _ (by show w.heap.size + 1 ≠ fvb; omega)).trans h.rs, h.lt⟩
theorem Half.setb {w : World} {base g cap n : Nat} {fs : List FileD} {gs0 gs : List FV} {k : Nat} (h : Half w base (.slice (some ⟨g, 0, none⟩) n cap) fs gs0 gs k) (x : FV) (hx : gs[k]? = some x) {bv : Value} (hb : OwnInts w base bv x.d.blocks) :
    Half (w.setCell ⟨g, k * 5 + 3, none⟩ bv) base (.slice (some ⟨g, 0, none⟩) n cap) fs (gs0.set k ⟨x.d, bv, x.lv⟩) (gs.set k ⟨x.d, bv, x.lv⟩) k ∧ OwnInts (w.setCell ⟨g, k * 5 + 3, none⟩ bv) base bv x.d.blocks := by
  obtain ⟨hk, rfl⟩ := List.getElem?_eq_some_iff.1 hx
  obtain ⟨cs, hh⟩ := own_tag h.row g rfl
  have hn : n = gs.length := by
    rcases h.row.2 with ⟨h1, _⟩ | ⟨g', cap', cur, h1, _⟩
    · simp at h1
    · simp at h1; exact h1.2.1
  subst hn
  refine ⟨⟨?_, ?_, ?_, ?_, ?_⟩, rowset2 hb hh (by decide) _⟩
  · rw [List.map_set, ← h.ds]
    apply List.ext_getElem?
    intro i
    by_cases e : k = i
    · subst e; rw [List.getElem?_set_self (by simpa using hk)]; simp [hk]
    · rw [List.getElem?_set_ne e]
  · rw [fflat_setb gs k bv hk, List.length_set]
    exact (h.row.stored (k * 5 + 3) bv).1
  · intro j y hj hy
    rw [List.getElem?_set_ne (by omega)] at hy
    have := h.own j y hj hy
    exact ⟨rowset2 this.1 hh (by decide) _, rowset2 this.2 hh (by decide) _⟩
  · intro i j hij hjk a b ha hb2
    rw [List.getElem?_set_ne (by omega)] at ha hb2
    exact h.ap i j hij hjk a b ha hb2
  · intro j hj
    have hlen : gs0[k]? = some gs[k] := by rw [← h.old k (Nat.le_refl _)]; exact hx
    have h0 := (List.getElem?_eq_some_iff.1 hlen).1
    by_cases e : k = j
    · subst e; rw [List.getElem?_set_self hk, List.getElem?_set_self h0]
    · rw [List.getElem?_set_ne e, List.getElem?_set_ne e]; exact h.old j hj
theorem Half.setl {w : World} {base g cap n : Nat} {fs : List FileD} {gs0 gs : List FV} {k : Nat} (h : Half w base (.slice (some ⟨g, 0, none⟩) n cap) fs gs0 gs k) (x : FV) (hx : gs[k]? = some x) (hb : OwnInts w base x.bv x.d.blocks) {lv : Value} (hl : OwnLinks w base lv x.d.list) (hf : ∀ j y, j < k → gs[j]? = some y → y.lv.ownBlock = none ∨ y.lv.ownBlock ≠ lv.ownBlock) :
    Half (w.setCell ⟨g, k * 5 + 4, none⟩ lv) base (.slice (some ⟨g, 0, none⟩) n cap) fs gs0 (gs.set k ⟨x.d, x.bv, lv⟩) (k + 1) := by
  obtain ⟨hk, rfl⟩ := List.getElem?_eq_some_iff.1 hx
  obtain ⟨cs, hh⟩ := own_tag h.row g rfl
  have hn : n = gs.length := by
    rcases h.row.2 with ⟨h1, _⟩ | ⟨g', cap', cur, h1, _⟩
    · simp at h1
    · simp at h1; exact h1.2.1
  subst hn
  refine ⟨?_, ?_, ?_, ?_, ?_⟩
  · rw [List.map_set, ← h.ds]
    apply List.ext_getElem?
    intro i
    by_cases e : k = i
    · subst e; rw [List.getElem?_set_self (by simpa using hk)]; simp [hk]
    · rw [List.getElem?_set_ne e]
  · rw [fflat_setl gs k lv hk, List.length_set]
    exact (h.row.stored (k * 5 + 4) lv).1
  · intro j y hj hy
    by_cases e : k = j
    · subst e
      rw [List.getElem?_set_self hk] at hy
      injection hy with hy; subst hy
      exact ⟨rowset2 hb hh (by decide) _, rowset2 hl hh (by decide) _⟩
    · rw [List.getElem?_set_ne e] at hy
      have := h.own j y (by omega) hy
      exact ⟨rowset2 this.1 hh (by decide) _, rowset2 this.2 hh (by decide) _⟩
  · intro i j hij hjk a b ha hb2
    rw [List.getElem?_set_ne (by omega)] at ha
    by_cases e : k = j
    · subst e
      rw [List.getElem?_set_self hk] at hb2
      injection hb2 with hb2; subst hb2
      exact hf i a hij ha
    · rw [List.getElem?_set_ne e] at hb2
      exact h.ap i j hij (by omega) a b ha hb2
  · intro j hj
    rw [List.getElem?_set_ne (by omega)]
    exact h.old j (by omega)

theorem OwnInts.lt {w : World} {base : Nat} {v : Value} {ns : List Int} (h : OwnInts w base v ns) : ∀ g, v.ownBlock = some g → base ≤ g := fun g hg => (World.ownsRow.lt h g hg).1
theorem slice_cells {w : World} {base : Nat} {e : TypeId} {size n : Nat} {v : Value} {xs : List Value} (h : w.ownsRow base e size v n xs) (hn : 0 < n) : ∃ g cap, v = .slice (some ⟨g, 0, none⟩) n cap ∧ base ≤ g ∧ g < w.heap.size := by
  have h2 := h.2
  rcases h2 with ⟨_, h1⟩ | ⟨g, cap, cur, hv, hg, hh, _⟩
  · omega
  · exact ⟨g, cap, hv, hg, (Array.getElem?_eq_some_iff.1 hh).1⟩

theorem Half.base {w : World} {base : Nat} {v : Value} {fs : List FileD} {gs0 gs : List FV} {k : Nat} {z : FV} (h : Half w base v fs (gs0.set k z) gs (k + 1)) : Half w base v fs gs0 gs (k + 1) :=
  ⟨h.ds, h.row, h.own, h.ap, fun j hj => by rw [h.old j hj, List.getElem?_set_ne (by omega)]⟩
structure CpT (w : World) (fvb : Nat) (box res : Obj) (F : Nat) (ob : Obj) (wr : World) : Prop where
  s : CpS w fvb box res wr
  f : wr.heap[F]? = some ob
  ne : fvb ≠ F
theorem CpT.below {w : World} {fvb F : Nat} {box res ob : Obj} {wr w' : World} (h : CpT w fvb box res F ob wr) (hb : Below wr.heap.size wr w') : CpT w fvb box res F ob w' :=
  ⟨h.s.below hb, (hb.block _ (Array.getElem?_eq_some_iff.1 h.f).1).trans h.f, h.ne⟩
theorem CpT.drew {w : World} {fvb F : Nat} {box res ob : Obj} {wr : World} (h : CpT w fvb box res F ob wr) : CpT w fvb box res F ob wr.drew := h.below (Below.drew (nwR wr))
theorem CpT.set {w : World} {fvb F : Nat} {box res ob : Obj} {wr : World} (h : CpT w fvb box res F ob wr) (o : Nat) (v : Value) : CpT w fvb box res F ob (wr.setCell ⟨fvb, o, none⟩ v) :=
  ⟨h.s.set o v, (Below.heap_setCell _ _ _ _ (by show F ≠ fvb; exact fun e => h.ne e.symm)).trans h.f, h.ne⟩
theorem Half.cells {w : World} {base g cap n : Nat} {fs : List FileD} {gs0 gs : List FV} {k : Nat} (h : Half w base (.slice (some ⟨g, 0, none⟩) n cap) fs gs0 gs k) {i : Nat} {x : FV} (hx : gs[i]? = some x) :
    (w.cell? ⟨g, i * 5, none⟩ = some (.int .i64 x.d.id) ∧ w.cell? ⟨g, i * 5 + 1, none⟩ = some (.bool x.d.dir) ∧ w.cell? ⟨g, i * 5 + 2, none⟩ = some (.int .i64 x.d.size) ∧ w.cell? ⟨g, i * 5 + 3, none⟩ = some x.bv ∧ w.cell? ⟨g, i * 5 + 4, none⟩ = some x.lv) ∧ ∀ o, w.frozen? ⟨g, o, none⟩ = false := by
  have hn : n = gs.length := by
    rcases h.row.2 with ⟨h1, _⟩ | ⟨g', cap', cur, h1, _⟩
    · simp at h1
    · simp at h1; exact h1.2.1
  subst hn
  obtain ⟨c0, c1, c2, c3, c4⟩ := fflat_get gs i x hx
  have K : ∀ j u, (fflat gs)[j]? = some u → w.cell? ⟨g, j, none⟩ = some u := fun j u hj => by
    have := h.row.cells (g := g) rfl j u hj
    rw [Addr.add_lit, Nat.zero_add] at this
    exact this
  exact ⟨⟨K _ _ c0, K _ _ c1, K _ _ c2, K _ _ c3, K _ _ c4⟩, fun o => h.row.frozenAt o⟩
theorem Half.lift {w : World} {base : Nat} {v : Value} {fs : List FileD} {gs0 gs : List FV} {k : Nat} (h : Half w base v fs gs0 gs k) {B o : Nat} (hB : B < base) (u : Value) : Half (w.setCell ⟨B, o, none⟩ u) base v fs gs0 gs k :=
  ⟨h.ds, rowset h.row o hB u, fun j g hj hg => (h.own j g hj hg).set o hB u, h.ap, h.old⟩

theorem OwnFilesX.set {w : World} {base : Nat} {v : Value} {fs : List FileD} (h : OwnFilesX w base v fs) {B : Nat} (o : Nat) (hB : B < base) (u : Value) : OwnFilesX (w.setCell ⟨B, o, none⟩ u) base v fs := by
  obtain ⟨gs, h1, h2, h3, h4⟩ := h
  exact ⟨gs, h1, rowset h2 o hB u, fun g hg => (h3 g hg).set o hB u, h4⟩
theorem OwnFilesX.le {w : World} {base base' : Nat} {v : Value} {fs : List FileD} (h : OwnFilesX w base v fs) (hb : base' ≤ base) : OwnFilesX w base' v fs := by
  obtain ⟨gs, h1, h2, h3, h4⟩ := h
  exact ⟨gs, h1, own_le h2 hb, fun g hg => (h3 g hg).le hb, h4⟩
theorem OwnFilesX.below {w w' : World} {base : Nat} {v : Value} {fs : List FileD} (h : OwnFilesX w base v fs) (hb : Below w.heap.size w w') : OwnFilesX w' base v fs := by
  obtain ⟨gs, h1, h2, h3, h4⟩ := h
  exact ⟨gs, h1, own_below h2 hb, fun g hg => (h3 g hg).below hb, h4⟩

set_option maxRecDepth 100000 in
set_option maxHeartbeats 4000000 in
theorem copyOf_any (v : Value) (d : VolD) (w : World) (hv : VolVal w v d) (hs : SmallV d) (hp : 0 < d.files.length) :
    Calls Tryz.prog 86 #[v] w fun e w' => (∃ u, e = .returned u ∧ OwnVolX w' w.heap.size u d) ∧ Below w.heap.size w w' := by
  obtain ⟨a, ca, rfl, hfs, hcp⟩ := hv
  obtain ⟨b1, o1, rfl, _⟩ := hfs.file hp
  obtain ⟨vid, fr, snap, fs, next⟩ := d
  simp only [SmallV] at *
  obtain ⟨hl, hs2⟩ := hs
  have HS : Hid (∀ f ∈ fs, SmallF f) := hs2
  obtain ⟨gs0, hd0, hcells, horig⟩ : ∃ gs : List FV, gs.map FV.d = fs ∧ (∀ j u, (fflat gs)[j]? = some u → w.cell? ⟨b1, o1 + j, none⟩ = some u) ∧ ∀ g ∈ gs, OrigFV w g := by
    rcases hfs with h0 | ⟨b, o, e, h⟩
    · rw [h0] at hp; simp at hp
    · injection e with e; injection e with e1 e2; subst e1; subst e2
      exact orig_of fs _ h
  have hlen0 : gs0.length = fs.length := by rw [← hd0, List.length_map]
  have HD0 : Hid (gs0.map FV.d = fs) := hd0
  have HCE : Hid (∀ j u, (fflat gs0)[j]? = some u → w.cell? ⟨b1, o1 + j, none⟩ = some u) := hcells
  have HOR : Hid (∀ g ∈ gs0, OrigFV w g) := horig
  have HL0 : Hid (gs0.length = fs.length) := hlen0
  clear hfs hcp hd0 hcells horig hs2 hlen0
  go_enter Tryz.func86, Tryz.ntmps86
  go_wp2_with fail
  have HB0 : Hid (Below w.heap.size w ((w.alloc (.cells #[.int .i64 vid, .int .i64 fr, .bool snap, .slice (some ⟨b1, o1, none⟩) fs.length ca, .int .i64 next] 24)).alloc (.cells #[.int .i64 0, .int .i64 0, .bool false, .slice none 0 0, .int .i64 0] 24))) := nwA (nwA (nwR w) _) _
  refine (clof_row ⟨b1, o1, none⟩ fs.length ca (fflat gs0) _ (by rw [fflat_len, HL0.out]) (by omega) (fun j u hj => by
    rw [Addr.add_lit]
    have := HCE.out j u hj
    exact (HB0.out.cell (p := ⟨b1, o1 + j, none⟩) (block_lt_of_cell this)).trans this) (fflat_one HOR.out)).mono ?_
  rintro e w1 ⟨⟨fv, rfl, hrow⟩, hb1⟩
  have hsz2 : ((w.alloc (.cells #[.int .i64 vid, .int .i64 fr, .bool snap, .slice (some ⟨b1, o1, none⟩) fs.length ca, .int .i64 next] 24)).alloc (.cells #[.int .i64 0, .int .i64 0, .bool false, .slice none 0 0, .int .i64 0] 24)).heap.size = w.heap.size + 2 := by simp
  rw [hsz2] at hrow
  obtain ⟨g, cap, rfl, hg1, hg2⟩ := slice_cells hrow hp
  have HB1 : Hid (Below w.heap.size w w1) := nwT HB0.out hb1
  have HX1 : Hid (w1.heap[w.heap.size]? = some (.cells #[.int .i64 vid, .int .i64 fr, .bool snap, .slice (some ⟨b1, o1, none⟩) fs.length ca, .int .i64 next] 24 (0, 0))) := (hb1.block _ (by rw [hsz2]; omega)).trans (by rw [Lib.alloc_old _ _ _ (by simp)]; exact heap_alloc_new w _)
  have HR1 : Hid (w1.heap[w.heap.size + 1]? = some (.cells #[.int .i64 0, .int .i64 0, .bool false, .slice none 0 0, .int .i64 0] 24 (0, 0))) := (hb1.block _ (by rw [hsz2]; omega)).trans (heap_alloc_new2 w _ _)
  have HROW : Hid (w1.ownsRow (w.heap.size + 2) 59 5 (.slice (some ⟨g, 0, none⟩) fs.length cap) fs.length (fflat gs0)) := hrow
  obtain ⟨t0, t1, t2, t3, t4, tf⟩ := five HX1.out
  have HX2 : Hid ((w1.setCell ⟨w.heap.size, 3, none⟩ (.slice (some ⟨g, 0, none⟩) fs.length cap)).heap[w.heap.size]? = some (.cells #[.int .i64 vid, .int .i64 fr, .bool snap, .slice (some ⟨g, 0, none⟩) fs.length cap, .int .i64 next] 24 (0, 0))) := by
    show _ = _
    rw [heap_setCell_same w1 _ 3 _ 24 _ HX1.out]; simp
  have HCP : Hid (CpS w g (.cells #[.int .i64 vid, .int .i64 fr, .bool snap, .slice (some ⟨g, 0, none⟩) fs.length cap, .int .i64 next] 24 (0, 0)) (.cells #[.int .i64 0, .int .i64 0, .bool false, .slice none 0 0, .int .i64 0] 24 (0, 0)) (w1.setCell ⟨w.heap.size, 3, none⟩ (.slice (some ⟨g, 0, none⟩) fs.length cap))) :=
    ⟨HB1.out.setCell (p := ⟨w.heap.size, 3, none⟩) (Nat.le_refl _) _, HX2.out, (Below.heap_setCell _ _ _ _ (by show w.heap.size + 1 ≠ w.heap.size; omega)).trans HR1.out, by omega⟩
  have HHF : Hid (Half (w1.setCell ⟨w.heap.size, 3, none⟩ (.slice (some ⟨g, 0, none⟩) fs.length cap)) (w.heap.size + 2) (.slice (some ⟨g, 0, none⟩) fs.length cap) fs gs0 gs0 0) :=
    Half.lift (w := w1) ⟨HD0.out, by rw [HL0.out]; exact HROW.out, fun j g h => by omega, fun i j _ h => by omega, fun j _ => rfl⟩ (by omega) _
  clear hrow hb1 hsz2 HB0 HX1 HR1 HROW HX2 hg2
  go_wp2_with fail
  generalize w1.setCell ⟨w.heap.size, 3, none⟩ (.slice (some ⟨g, 0, none⟩) fs.length cap) = W2 at HCP HHF ⊢
  clear t0 t1 t2 t3 t4 tf HB1
  go_loopw [12] (fun i wr => ∃ (k : Nat) (gs : List FV), k ≤ fs.length ∧ i = .int .i64 k ∧ Hid (CpS w g (.cells #[.int .i64 vid, .int .i64 fr, .bool snap, .slice (some ⟨g, 0, none⟩) fs.length cap, .int .i64 next] 24 (0, 0)) (.cells #[.int .i64 0, .int .i64 0, .bool false, .slice none 0 0, .int .i64 0] 24 (0, 0)) wr) ∧ Hid (Half wr (w.heap.size + 2) (.slice (some ⟨g, 0, none⟩) fs.length cap) fs gs0 gs k))
    (fun i _ => fs.length - (intOf i).toNat)
  case atStart => exact ⟨0, gs0, by omega, rfl, HCP, HHF⟩
  case round =>
    obtain ⟨k, gs, hk, rfl, HC, HH⟩ := hrel
    by_cases hkl : k < fs.length
    · have hkli : (k : Int) < (fs.length : Int) := by omega
      have hk0 : (0 : Int) ≤ (k : Int) := by omega
      have hgl : gs.length = fs.length := by rw [← HH.out.ds, List.length_map]
      obtain ⟨x, hx⟩ : ∃ x, gs[k]? = some x := ⟨gs[k], List.getElem?_eq_getElem (by omega)⟩
      have hx0 : gs0[k]? = some x := by rw [← HH.out.old k (Nat.le_refl _)]; exact hx
      have horg := HOR.out x (List.mem_of_getElem? hx0)
      have hxm : x.d ∈ fs := by rw [← HD0.out]; exact List.mem_map.2 ⟨x, List.mem_of_getElem? hx0, rfl⟩
      have hsm := HS.out x.d hxm
      obtain ⟨⟨e0, e1, e2, e3, e4⟩, ef⟩ := HH.out.cells hx
      obtain ⟨⟨fid, fdir, fsize, fbl, fli⟩, xbv, xlv⟩ := x
      obtain ⟨ab, cb, al, cl, e5, e6, ⟨hib, hcb⟩, hil, hcl⟩ := horg
      simp only at e5 e6
      subst e5; subst e6
      simp only [SmallF] at e0 e1 e2 e3 e4 hib hcb hil hcl hsm
      have HIB : Hid (IntsAt w ab fbl ∧ CapOk ab cb fbl.length) := ⟨hib, hcb⟩
      have HIL : Hid (LinksAt w al fli ∧ CapOk al cl fli.length) := ⟨hil, hcl⟩
      have HX : Hid (gs[k]? = some ⟨⟨fid, fdir, fsize, fbl, fli⟩, .slice ab fbl.length cb, .slice al fli.length cl⟩) := hx
      have HSM : Hid (fbl.length ≤ 100000 ∧ fli.length ≤ 100000) := hsm
      clear hib hcb hil hcl hx hx0 hxm hsm hgl
      go_wp2_with fail
      clear e0 e1 e2 e3 e4 ef
      have HT : Hid (CpT w g (.cells #[.int .i64 vid, .int .i64 fr, .bool snap, .slice (some ⟨g, 0, none⟩) fs.length cap, .int .i64 next] 24 (0, 0)) (.cells #[.int .i64 0, .int .i64 0, .bool false, .slice none 0 0, .int .i64 0] 24 (0, 0)) wr.heap.size (.cells #[.int .i64 fid, .bool fdir, .int .i64 fsize, .slice ab fbl.length cb, .slice al fli.length cl] 59 (0, 0)) (wr.alloc (.cells #[.int .i64 fid, .bool fdir, .int .i64 fsize, .slice ab fbl.length cb, .slice al fli.length cl] 59))) := ⟨HC.out.below (nwA (nwR wr) _), heap_alloc_new wr _, by have := (World.ownsRow.lt HH.out.row g rfl).2; omega⟩
      have HH1 : Hid (Half (wr.alloc (.cells #[.int .i64 fid, .bool fdir, .int .i64 fsize, .slice ab fbl.length cb, .slice al fli.length cl] 59)) (w.heap.size + 2) (.slice (some ⟨g, 0, none⟩) fs.length cap) fs gs0 gs k) := HH.out.below (nwA (nwR wr) _)
      generalize hWf : wr.alloc (.cells #[.int .i64 fid, .bool fdir, .int .i64 fsize, .slice ab fbl.length cb, .slice al fli.length cl] 59) = Wf at HT HH1 ⊢
      generalize wr.heap.size = F at HT ⊢
      clear hWf HC HH
      have hS : CpT w g (.cells #[.int .i64 vid, .int .i64 fr, .bool snap, .slice (some ⟨g, 0, none⟩) fs.length cap, .int .i64 next] 24 (0, 0)) (.cells #[.int .i64 0, .int .i64 0, .bool false, .slice none 0 0, .int .i64 0] 24 (0, 0)) F (.cells #[.int .i64 fid, .bool fdir, .int .i64 fsize, .slice ab fbl.length cb, .slice al fli.length cl] 59 (0, 0)) Wf := HT.out
      have z3 : ∀ w', CpT w g (.cells #[.int .i64 vid, .int .i64 fr, .bool snap, .slice (some ⟨g, 0, none⟩) fs.length cap, .int .i64 next] 24 (0, 0)) (.cells #[.int .i64 0, .int .i64 0, .bool false, .slice none 0 0, .int .i64 0] 24 (0, 0)) F (.cells #[.int .i64 fid, .bool fdir, .int .i64 fsize, .slice ab fbl.length cb, .slice al fli.length cl] 59 (0, 0)) w' → w'.cell? ⟨w.heap.size, 3, none⟩ = some (.slice (some ⟨g, 0, none⟩) fs.length cap) := fun w' h => by rw [Lib.cell_of_heap h.s.bx]; rfl
      have zf3 : ∀ w', CpT w g (.cells #[.int .i64 vid, .int .i64 fr, .bool snap, .slice (some ⟨g, 0, none⟩) fs.length cap, .int .i64 next] 24 (0, 0)) (.cells #[.int .i64 0, .int .i64 0, .bool false, .slice none 0 0, .int .i64 0] 24 (0, 0)) F (.cells #[.int .i64 fid, .bool fdir, .int .i64 fsize, .slice ab fbl.length cb, .slice al fli.length cl] 59 (0, 0)) w' → w'.cell? ⟨F, 3, none⟩ = some (.slice ab fbl.length cb) := fun w' h => by rw [Lib.cell_of_heap h.f]; rfl
      have zf4 : ∀ w', CpT w g (.cells #[.int .i64 vid, .int .i64 fr, .bool snap, .slice (some ⟨g, 0, none⟩) fs.length cap, .int .i64 next] 24 (0, 0)) (.cells #[.int .i64 0, .int .i64 0, .bool false, .slice none 0 0, .int .i64 0] 24 (0, 0)) F (.cells #[.int .i64 fid, .bool fdir, .int .i64 fsize, .slice ab fbl.length cb, .slice al fli.length cl] 59 (0, 0)) w' → w'.cell? ⟨F, 4, none⟩ = some (.slice al fli.length cl) := fun w' h => by rw [Lib.cell_of_heap h.f]; rfl
      go_region_held3 (fun w' => CpT w g (.cells #[.int .i64 vid, .int .i64 fr, .bool snap, .slice (some ⟨g, 0, none⟩) fs.length cap, .int .i64 next] 24 (0, 0)) (.cells #[.int .i64 0, .int .i64 0, .bool false, .slice none 0 0, .int .i64 0] 24 (0, 0)) F (.cells #[.int .i64 fid, .bool fdir, .int .i64 fsize, .slice ab fbl.length cb, .slice al fli.length cl] 59 (0, 0)) w') (first | assumption | exact CpT.drew (by assumption) | exact CpT.below (CpT.drew hS) (by assumption) | exact CpT.set (by assumption) _ _) (first
        | (go_at_call 106; refine (cloi_any ab fbl cb _ (HIB.out.1.below (nwT hS.s.bel (Below.drew (nwR Wf)))) HIB.out.2 HSM.out.1).mono ?_; rintro e wU ⟨⟨nv, rfl, hob⟩, hbU⟩; have HHU := HH1.out.below (nwT (Below.drew (nwR Wf)) hbU); have kc := (HHU.cells HX.out).1.2.2.2.1; have kf := (HHU.cells HX.out).2 (k * 5 + 3); obtain ⟨abv, cbv, rfl, _⟩ := hob.at))
      have hbu : Below Wf.heap.size Wf wU := nwT (Below.drew (nwR Wf)) hbU
      have HOB : Hid (OwnInts wU (w.heap.size + 2) (.slice abv fbl.length cbv) fbl) := own_le hob (by have := hS.s.lt; have := HH1.out.row.lt g rfl; have := hbU.size; show w.heap.size + 2 ≤ Wf.heap.size; omega)
      have HH2 : Hid (Half (wU.setCell ⟨g, k * 5 + 3, none⟩ (.slice abv fbl.length cbv)) (w.heap.size + 2) (.slice (some ⟨g, 0, none⟩) fs.length cap) fs (gs0.set k ⟨⟨fid, fdir, fsize, fbl, fli⟩, .slice abv fbl.length cbv, .slice al fli.length cl⟩) (gs.set k ⟨⟨fid, fdir, fsize, fbl, fli⟩, .slice abv fbl.length cbv, .slice al fli.length cl⟩) k ∧ OwnInts (wU.setCell ⟨g, k * 5 + 3, none⟩ (.slice abv fbl.length cbv)) (w.heap.size + 2) (.slice abv fbl.length cbv) fbl) := Half.setb (HH1.out.below hbu) _ HX.out HOB.out
      have HX2 : Hid ((gs.set k ⟨⟨fid, fdir, fsize, fbl, fli⟩, .slice abv fbl.length cbv, .slice al fli.length cl⟩)[k]? = some ⟨⟨fid, fdir, fsize, fbl, fli⟩, .slice abv fbl.length cbv, .slice al fli.length cl⟩) := List.getElem?_set_self (List.getElem?_eq_some_iff.1 HX.out).1
      have HS5 : CpT w g (.cells #[.int .i64 vid, .int .i64 fr, .bool snap, .slice (some ⟨g, 0, none⟩) fs.length cap, .int .i64 next] 24 (0, 0)) (.cells #[.int .i64 0, .int .i64 0, .bool false, .slice none 0 0, .int .i64 0] 24 (0, 0)) F (.cells #[.int .i64 fid, .bool fdir, .int .i64 fsize, .slice ab fbl.length cb, .slice al fli.length cl] 59 (0, 0)) (wU.setCell ⟨g, k * 5 + 3, none⟩ (.slice abv fbl.length cbv)) := (hS.below hbu).set _ _
      clear hob hbU HHU kc kf hbu HOB
      generalize wU.setCell ⟨g, k * 5 + 3, none⟩ (.slice abv fbl.length cbv) = W5 at HH2 HS5 ⊢
      generalize gs.set k ⟨⟨fid, fdir, fsize, fbl, fli⟩, .slice abv fbl.length cbv, .slice al fli.length cl⟩ = gs2 at HH2 HX2
      go_wp2_with fail
      go_region_held3 (fun w' => CpT w g (.cells #[.int .i64 vid, .int .i64 fr, .bool snap, .slice (some ⟨g, 0, none⟩) fs.length cap, .int .i64 next] 24 (0, 0)) (.cells #[.int .i64 0, .int .i64 0, .bool false, .slice none 0 0, .int .i64 0] 24 (0, 0)) F (.cells #[.int .i64 fid, .bool fdir, .int .i64 fsize, .slice ab fbl.length cb, .slice al fli.length cl] 59 (0, 0)) w') (first | assumption | exact CpT.drew (by assumption) | exact CpT.below (CpT.drew HS5) (by assumption) | exact CpT.set (by assumption) _ _) (first
        | (go_at_call 107; refine (clol_any al fli cl _ (HIL.out.1.below (nwT HS5.s.bel (Below.drew (nwR W5)))) HIL.out.2 HSM.out.2).mono ?_; rintro e wV ⟨⟨nv, rfl, hob⟩, hbV⟩; have HHV := HH2.out.1.below (nwT (Below.drew (nwR W5)) hbV); have kc := (HHV.cells HX2.out).1.2.2.2.2; have kf := (HHV.cells HX2.out).2 (k * 5 + 4); obtain ⟨alv, clv, rfl, _⟩ := hob.at))
      have hbv : Below W5.heap.size W5 wV := nwT (Below.drew (nwR W5)) hbV
      have HOL : Hid (OwnLinks wV W5.heap.size (.slice alv fli.length clv) fli) := hob
      have hwl : w.heap.size + 2 ≤ W5.heap.size := by have := HH2.out.1.row.lt g rfl; omega
      have HH3 : Hid (Half (wV.setCell ⟨g, k * 5 + 4, none⟩ (.slice alv fli.length clv)) (w.heap.size + 2) (.slice (some ⟨g, 0, none⟩) fs.length cap) fs gs0 (gs2.set k ⟨⟨fid, fdir, fsize, fbl, fli⟩, .slice abv fbl.length cbv, .slice alv fli.length clv⟩) (k + 1)) := by
        refine (Half.setl (HH2.out.1.below hbv) _ HX2.out (own_below HH2.out.2 hbv) (own_le HOL.out hwl) (fun j y hj hy => ?_)).base
        cases h1 : y.lv.ownBlock with
        | none => exact .inl rfl
        | some q =>
          refine .inr (fun e => ?_)
          have a1 := (World.ownsRow.lt (HH2.out.1.own j y hj hy).2 q h1).2
          have a2 := (World.ownsRow.lt HOL.out q e.symm).1
          omega
      have HC3 : Hid (CpS w g (.cells #[.int .i64 vid, .int .i64 fr, .bool snap, .slice (some ⟨g, 0, none⟩) fs.length cap, .int .i64 next] 24 (0, 0)) (.cells #[.int .i64 0, .int .i64 0, .bool false, .slice none 0 0, .int .i64 0] 24 (0, 0)) (wV.setCell ⟨g, k * 5 + 4, none⟩ (.slice alv fli.length clv))) := ((HS5.below hbv).set _ _).s
      clear hob hbV HHV kc kf hbv HOL z3 zf3 zf4 hS HS5 HH2 HX2 HT HH1
      generalize wV.setCell ⟨g, k * 5 + 4, none⟩ (.slice alv fli.length clv) = W6 at HH3 HC3 ⊢
      go_wp2_with fail
      go_roundw
      case rel => exact ⟨k + 1, _, by omega, by go_num, HC3, HH3⟩
      case measure => simp [intOf]; omega
    · have hkli : ¬ (k : Int) < (fs.length : Int) := by omega
      have HOX : Hid (OwnFilesX wr (w.heap.size + 2) (.slice (some ⟨g, 0, none⟩) fs.length cap) fs) := HH.out.fin (by rw [← List.length_map (f := FV.d), HH.out.ds]; omega)
      obtain ⟨q0, q1, q2, q3, q4, _⟩ := five HC.out.bx
      obtain ⟨r0, r1, r2, r3, r4, rf⟩ := five HC.out.rs
      have HBR : Hid (Below w.heap.size w wr) := HC.out.bel
      clear HC HH
      go_wp2_with fail
      refine bodyPost_ret (v := .agg #[.int .i64 vid, .int .i64 fr, .bool snap, .slice (some ⟨g, 0, none⟩) fs.length cap, .int .i64 next]) (by simp [results, Tryz.results86, go_sem, r0, r1, r2, r3, r4]) rfl ⟨⟨_, rfl, _, rfl, ?_⟩, ?_⟩
      · exact (((((HOX.out.set 0 (B := w.heap.size + 1) (by omega) _).set 1 (by omega) _).set 2 (by omega) _).set 3 (by omega) _).set 4 (by omega) _).le (by omega)
      · exact five_below HBR.out (Nat.le_succ _)

end Go.Proofs.YtdpighcaieajjabGreat

/- What a path finds, by the program. -/
namespace Go.Proofs.YtdpighcaieajjabGreat
open Go.RowKit

def linkedI (l : List LinkD) (s : ByteArray) : Int × Bool := match namedI l s with
  | none => (0, false)
  | some k => ((l.getD k lk0).2, true)

set_option maxRecDepth 100000 in
set_option maxHeartbeats 1000000 in
theorem linked_any (v : Value) (f : FileD) (s : ByteArray) (w : World) (hv : NodeVal w v f) (hs : SmallF f) :
    Calls Tryz.prog 89 #[v, .string s] w fun e w' => e = .returned (.tuple #[.int .i64 (linkedI f.list s).1, .bool (linkedI f.list s).2]) ∧ Below w.heap.size w w' := by
  obtain ⟨b, o, rfl, hf⟩ := hv
  obtain ⟨ab, cb, al, cl, ⟨c0, c1, c2, c3, c4⟩, _, hli, _⟩ := hf
  obtain ⟨fid, fdir, fsize, fbl, fli⟩ := f
  simp only [SmallF] at *
  have hl := hs.2
  have HL : Hid (LinksAt w al fli) := hli
  clear hli hs
  have hb : b < w.heap.size := block_lt_of_cell c4
  go_enter Tryz.func89, Tryz.ntmps89
  go_wp2_with fail
  obtain ⟨W0, hW0⟩ : ∃ W0, W0 = w.alloc (.cells #[.pointer (some ⟨b, o, none⟩)] 96) := ⟨_, rfl⟩
  have HB0 : Hid (Below w.heap.size w W0) := by rw [hW0]; exact nwA (nwR w) _
  rw [← hW0]
  clear hW0 c0 c1 c2 c3 c4
  go_loopw [14] (fun i wr => ∃ (j : Nat), j ≤ fli.length ∧ i = .int .i64 j ∧ Below w.heap.size w wr ∧ Hid (∀ i, i < j → decide ((fli.getD i lk0).1 = s) = false))
    (fun i _ => fli.length - (intOf i).toNat)
  case atStart => exact ⟨0, by omega, rfl, HB0.out, fun j hj => by omega⟩
  case round =>
    obtain ⟨j, hj, rfl, hbr, HE⟩ := hrel
    by_cases hjl : j < fli.length
    · have hjli : (j : Int) < (fli.length : Int) := by omega
      obtain ⟨b2, o2, rfl, d1, d2⟩ := (HL.out.below hbr).cell hjl
      have HY : Hid ((fli.getD j lk0).1 = s → linkedI fli s = ((fli.getD j lk0).2, true)) := fun h => by
        have h2 : namedI fli s = some j := find_yes lk0 hjl (decide_eq_true h) (fun i hi => HE.out i hi)
        unfold linkedI; rw [h2]
      have HN : Hid (¬ (fli.getD j lk0).1 = s → ∀ i, i < j + 1 → decide ((fli.getD i lk0).1 = s) = false) := fun h i hi => by
        by_cases e : i = j
        · subst e; exact decide_eq_false h
        · exact HE.out i (by omega)
      generalize fli.getD j lk0 = x at d1 d2 HY HN
      obtain ⟨x1, x2⟩ := x
      simp only at d1 d2 HY HN
      by_cases he : x1 = s
      · have HR : Hid (linkedI fli s = (x2, true)) := HY.out he
        subst he
        go_wp2_with fail
        go_ret2
        exact ⟨by rw [HR.out]; rfl, nwA hbr _⟩
      · have HR := HN.out he
        have hel : (x1.toList == s.toList) = false := beq_eq_false_iff_ne.2 (fun h => he (by
          have h1 := Lib.toList_data x1; have h2 := Lib.toList_data s
          rw [h1, h2] at h
          cases x1; cases s; simp at h; rw [h]))
        clear he
        go_wp2_with fail
        go_roundw
        case rel => exact ⟨j + 1, by omega, by go_num, nwA hbr _, HR⟩
        case measure => simp [intOf]; omega
    · have hjli : ¬ (j : Int) < (fli.length : Int) := by omega
      have HR : Hid (linkedI fli s = (0, false)) := by
        have h2 : namedI fli s = none := find_no lk0 (fun i hi => HE.out i (by omega))
        show _ = _
        unfold linkedI; rw [h2]
      go_wp2_with fail
      go_ret2
      exact ⟨by rw [HR.out]; rfl, hbr⟩

end Go.Proofs.YtdpighcaieajjabGreat

/- What a path finds, by the program: the walk. -/
namespace Go.Proofs.YtdpighcaieajjabGreat
open Go.RowKit

def FindIs (d : VolD) (r : Nat × Int) (B : Nat) (e : Ending) (w' : World) : Prop := ∃ v, e = .returned (.tuple #[v, .int .i64 r.2]) ∧ (r.2 = 0 → NodeOf w' B d v r.1) ∧ (r.2 ≠ 0 → v = .agg #[.pointer none])
theorem findIs_no {d : VolD} {r : Nat × Int} {B : Nat} {w' : World} {er : Int} (h : r = (0, er)) (he : er ≠ 0) : FindIs d r B (.returned (.tuple #[.agg #[.pointer none], .int .i64 er])) w' := by
  subst h; exact ⟨_, rfl, fun h => absurd h he, fun _ => rfl⟩
theorem findIs_yes {d : VolD} {r : Nat × Int} {B q : Nat} {w' : World} {v : Value} (h : r = (q, 0)) (hn : NodeOf w' B d v q) : FindIs d r B (.returned (.tuple #[v, .int .i64 0])) w' := by
  subst h; exact ⟨_, rfl, fun _ => hn, fun h => absurd rfl h⟩
theorem NodeOf.eq {w : World} {B q a o c : Nat} {d : VolD} {v : Value} (h : NodeOf w B d v q) (hB : w.heap[B]? = some (.cells #[.int .i64 d.id, .int .i64 d.fr, .bool d.snap, .slice (some ⟨a, o, none⟩) d.files.length c, .int .i64 d.next] 89 (0, 0))) : v = .agg #[.pointer (some ⟨a, o + q * 5, none⟩)] := by
  obtain ⟨a', o', c', h1, _, h3⟩ := h
  rw [hB] at h1
  simp only [Option.some.injEq, Obj.cells.injEq, Array.mk.injEq, List.cons.injEq, Value.slice.injEq, true_and, and_true, Addr.mk.injEq] at h1
  rw [h3, h1.1.1, h1.1.2]
theorem one_cell {w : World} {g : Nat} {c0 : Value} {t : TypeId} (h : w.heap[g]? = some (.cells #[c0] t (0, 0))) : w.cell? ⟨g, 0, none⟩ = some c0 ∧ w.frozen? ⟨g, 0, none⟩ = false :=
  ⟨by rw [Lib.cell_of_heap h]; rfl, Lib.frozen_of_heap h 0⟩
theorem one_set {w : World} {g : Nat} {c0 c1 : Value} {t : TypeId} (h : w.heap[g]? = some (.cells #[c0] t (0, 0))) : (w.setCell ⟨g, 0, none⟩ c1).heap[g]? = some (.cells #[c1] t (0, 0)) := by
  rw [heap_setCell_same w g 0 _ t _ h]; simp

set_option maxRecDepth 100000 in
set_option maxHeartbeats 4000000 in
theorem findp_any (B : Nat) (d : VolD) (p : ByteArray) (L : List ByteArray) (w : World) (hv : VolAt w B d) (hs : SmallV d) (hsd : Sound d.files) (h1 : atI d.files 1 = some 0) (hp : pathN p = some L) (hL : L.length ≤ 100000) :
    Calls Tryz.prog 67 #[.pointer (some ⟨B, 0, none⟩), .string p] w fun e w' => FindIs d (findF d.files 0 L) B e w' ∧ Below w.heap.size w w' := by
  have HV : Hid (VolAt w B d) := hv
  obtain ⟨av, cv, hB, hfs, _⟩ := hv
  obtain ⟨a, o, rfl, _⟩ := hfs.file hsd.1
  have HBK : Hid (w.heap[B]? = some (.cells #[.int .i64 d.id, .int .i64 d.fr, .bool d.snap, .slice (some ⟨a, o, none⟩) d.files.length cv, .int .i64 d.next] 89 (0, 0))) := hB
  have hBl := (Array.getElem?_eq_some_iff.1 hB).1
  have HF : Hid (FilesAt w (some ⟨a, o, none⟩) d.files) := hfs
  have HS : Hid (SmallV d) := hs
  have HSD : Hid (Sound d.files) := hsd
  have HA1 : Hid (atI d.files 1 = some 0) := h1
  have HP : Hid (pathN p = some L) := hp
  have hfl := hs.1
  clear hB hfs hs hsd h1 hp
  go_enter Tryz.func67, Tryz.ntmps67
  go_wp2_with fail
  have HB0 : Hid (Below w.heap.size w (w.alloc (.cells #[.pointer none] 96))) := nwA (nwR w) _
  have HR0 : Hid ((w.alloc (.cells #[.pointer none] 96)).heap[w.heap.size]? = some (.cells #[.pointer none] 96 (0, 0))) := heap_alloc_new w _
  refine (split_any p _).mono ?_
  rintro e w1 ⟨hsp, hb1⟩
  have HB1 : Hid (Below w.heap.size w w1) := nwT HB0.out hb1
  have HR1 : Hid (w1.heap[w.heap.size]? = some (.cells #[.pointer none] 96 (0, 0))) := (hb1.block _ (Array.getElem?_eq_some_iff.1 HR0.out).1).trans HR0.out
  rcases hsp with ⟨xs, sv, hpx, rfl, hos⟩ | ⟨hpx, _⟩
  case inr => rw [HP.out] at hpx; cases hpx
  rw [HP.out] at hpx
  injection hpx with hpx
  subst hpx
  obtain ⟨sa, sc, rfl, hsa⟩ := hos.at
  have HSA : Hid (StrsAt w1 sa L) := hsa
  clear hos hsa hb1 HB0 HR0
  go_wp2_with fail
  refine (file_any B d 1 0 _ (HV.out.below HB1.out) hfl HA1.out).mono ?_
  rintro e w2 ⟨⟨vv, rfl, hno⟩, hb2⟩
  have HB2 : Hid (Below w.heap.size w w2) := nwT HB1.out hb2
  have hve := hno.eq ((HB2.out.block _ hBl).trans HBK.out)
  subst hve
  have HR2 : Hid (w2.heap[w.heap.size]? = some (.cells #[.pointer none] 96 (0, 0))) := (hb2.block _ (Array.getElem?_eq_some_iff.1 HR1.out).1).trans HR1.out
  have HSA2 : Hid (StrsAt w2 sa L) := HSA.out.below hb2
  have hw2 : w.heap.size < w2.heap.size := (Array.getElem?_eq_some_iff.1 HR2.out).1
  clear hno hb2 HB1 HR1 HSA
  go_wp2_with fail
  have HN3 : Hid ((w2.alloc (.cells #[.pointer (some ⟨a, o + 0 * 5, none⟩)] 96)).heap[w2.heap.size]? = some (.cells #[.pointer (some ⟨a, o + 0 * 5, none⟩)] 96 (0, 0))) := heap_alloc_new w2 _
  have HB3 : Hid (Below w2.heap.size w2 (w2.alloc (.cells #[.pointer (some ⟨a, o + 0 * 5, none⟩)] 96))) := nwA (nwR w2) _
  have HZ : Hid (o + 0 * 5 = o) := by show _ = _; omega
  rw [HZ.out] at HN3 HB3
  generalize hW3 : w2.alloc (.cells #[.pointer (some ⟨a, o, none⟩)] 96) = W3 at HB3 HN3 ⊢
  clear hW3
  go_loopw [26] (fun i wr => ∃ (k q : Nat), k ≤ L.length ∧ i = .int .i64 k ∧ q < d.files.length ∧ Hid (findF d.files 0 L = findF d.files q (L.drop k)) ∧ Below w2.heap.size w2 wr ∧ Hid (wr.heap[w2.heap.size]? = some (.cells #[.pointer (some ⟨a, o + q * 5, none⟩)] 96 (0, 0))))
    (fun i _ => L.length - (intOf i).toNat)
  case atStart => exact ⟨0, 0, by omega, rfl, HSD.out.1, rfl, HB3.out, by rw [HZ.out]; exact HN3.out⟩
  case round =>
    obtain ⟨k, q, hk, rfl, hq, HE, hb, HN⟩ := hrel
    have HBW : Hid (Below w.heap.size w wr) := nwT HB2.out hb
    have HRW : Hid (wr.heap[w.heap.size]? = some (.cells #[.pointer none] 96 (0, 0))) := (hb.block _ hw2).trans HR2.out
    obtain ⟨r0, rf⟩ := one_cell HRW.out
    obtain ⟨n0, nf⟩ := one_cell HN.out
    have hne : ¬ w.heap.size = w2.heap.size := by omega
    have hn1 := block_lt_of_cell n0
    have hr1 := block_lt_of_cell r0
    by_cases hkl : k < L.length
    · have hkli : (k : Int) < (L.length : Int) := by omega
      obtain ⟨b2, o2, rfl, y1⟩ := (HSA2.out.below hb).cell hkl
      have HST : Hid (L.drop k = L.getD k ByteArray.empty :: L.drop (k + 1)) := by
        show _ = _
        rw [List.drop_eq_getElem_cons hkl]; simp [List.getD, hkl]
      have HSTEP : Hid (findF d.files q (L.drop k) = if (d.files.getD q f0).dir then (match namedI (d.files.getD q f0).list (L.getD k ByteArray.empty) with
          | none => (0, 3)
          | some j => findF d.files (placeOf d.files ((d.files.getD q f0).list.getD j lk0).2) (L.drop (k + 1))) else (0, 7)) := by
        show _ = _
        rw [HST.out]; rfl
      obtain ⟨b3, o3, e3, hfi⟩ := (HF.out.below HBW.out).file hq
      injection e3 with e3
      injection e3 with e31 e32
      subst e31; subst e32
      have HNV : Hid (NodeVal wr (.agg #[.pointer (some ⟨a, o + q * 5, none⟩)]) (d.files.getD q f0)) := ⟨_, _, rfl, hfi⟩
      obtain ⟨ab, cb, al, cl, ⟨_, c1, _, _, _⟩, _, _⟩ := hfi
      have HSM : Hid (SmallF (d.files.getD q f0)) := HS.out.2 _ (getD_mem hq)
      have HAT : Hid (∀ j, j < (d.files.getD q f0).list.length → ∃ p, atI d.files ((d.files.getD q f0).list.getD j lk0).2 = some p ∧ p < d.files.length) := fun j hj => HSD.out.at hq hj
      generalize L.getD k ByteArray.empty = nme at y1 HSTEP
      generalize d.files.getD q f0 = f at c1 HNV HSM HAT HSTEP
      clear HST
      cases hd : f.dir
      · have HR : Hid (findF d.files 0 L = (0, 7)) := by show _ = _; rw [HE.out, HSTEP.out, hd]; rfl
        rw [hd] at c1
        go_wp2_with fail
        refine bodyPost_ret (v := .tuple #[.agg #[.pointer none], .int .i64 7]) (by simp [results, Tryz.results67, go_sem, r0]) rfl ⟨findIs_no HR.out (by decide), ?_⟩
        exact HBW.out.setCell (p := ⟨w.heap.size, 0, none⟩) (Nat.le_refl _) _
      · rw [hd] at c1
        have HLK := linked_any _ f nme wr HNV.out HSM.out
        have HLC : Hid (Calls Tryz.prog 89 #[.agg #[.pointer (some ⟨a, o + q * 5, none⟩)], .string nme] wr fun e w' => e = .returned (.tuple #[.int .i64 (linkedI f.list nme).1, .bool (linkedI f.list nme).2]) ∧ Below wr.heap.size wr w') := HLK
        clear HLK
        cases hnm : namedI f.list nme with
        | none =>
          have HR : Hid (findF d.files 0 L = (0, 3)) := by show _ = _; rw [HE.out, HSTEP.out, hd, hnm]; rfl
          have hlk : linkedI f.list nme = (0, false) := by unfold linkedI; rw [hnm]
          rw [hlk] at HLC
          go_wp2_with fail
          refine HLC.out.mono ?_
          rintro e w4 ⟨rfl, hb4⟩
          have HB4 : Hid (Below w.heap.size w w4) := nwT HBW.out hb4
          obtain ⟨s0, sf⟩ := one_cell ((hb4.block _ (Array.getElem?_eq_some_iff.1 HRW.out).1).trans HRW.out)
          clear hb4 hlk
          go_wp2_with fail
          refine bodyPost_ret (v := .tuple #[.agg #[.pointer none], .int .i64 3]) (by simp [results, Tryz.results67, go_sem, s0]) rfl ⟨findIs_no HR.out (by decide), ?_⟩
          exact HB4.out.setCell (p := ⟨w.heap.size, 0, none⟩) (Nat.le_refl _) _
        | some j =>
          have hj := namedI_lt hnm
          obtain ⟨pp, hpp, hppl⟩ := HAT.out j hj
          have hlk : linkedI f.list nme = ((f.list.getD j lk0).2, true) := by unfold linkedI; rw [hnm]
          rw [hlk] at HLC
          have HR : Hid (findF d.files 0 L = findF d.files pp (L.drop (k + 1))) := by
            show _ = _
            rw [HE.out, HSTEP.out, hd, hnm]
            simp only [if_true, placeOf]
            rw [hpp]; rfl
          have HPP : Hid (atI d.files (f.list.getD j lk0).2 = some pp) := hpp
          generalize (f.list.getD j lk0).2 = y at HLC HPP
          clear hlk hpp HSTEP HAT
          go_wp2_with fail
          refine HLC.out.mono ?_
          rintro e w4 ⟨rfl, hb4⟩
          have HB4 : Hid (Below w2.heap.size w2 w4) := nwT hb hb4
          have HN4 : Hid (w4.heap[w2.heap.size]? = some (.cells #[.pointer (some ⟨a, o + q * 5, none⟩)] 96 (0, 0))) := (hb4.block _ (Array.getElem?_eq_some_iff.1 HN.out).1).trans HN.out
          clear hb4 r0 rf n0 nf y1 c1 HRW hn1 hr1
          go_wp2_with fail
          refine (file_any B d y pp _ (HV.out.below (nwT HB2.out HB4.out)) hfl HPP.out).mono ?_
          rintro e w5 ⟨⟨vv, rfl, hno⟩, hb5⟩
          have HB5 : Hid (Below w2.heap.size w2 w5) := nwT HB4.out hb5
          have hve := hno.eq (((nwT HB2.out HB5.out).block _ hBl).trans HBK.out)
          subst hve
          have HN5 : Hid (w5.heap[w2.heap.size]? = some (.cells #[.pointer (some ⟨a, o + q * 5, none⟩)] 96 (0, 0))) := (hb5.block _ (Array.getElem?_eq_some_iff.1 HN4.out).1).trans HN4.out
          obtain ⟨s0, sf⟩ := one_cell HN5.out
          have HN6 : Hid ((w5.setCell ⟨w2.heap.size, 0, none⟩ (.pointer (some ⟨a, o + pp * 5, none⟩))).heap[w2.heap.size]? = some (.cells #[.pointer (some ⟨a, o + pp * 5, none⟩)] 96 (0, 0))) := one_set HN5.out
          have HB6 : Hid (Below w2.heap.size w2 (w5.setCell ⟨w2.heap.size, 0, none⟩ (.pointer (some ⟨a, o + pp * 5, none⟩)))) := HB5.out.setCell (p := ⟨w2.heap.size, 0, none⟩) (Nat.le_refl _) _
          clear hno hb5
          go_wp2_with fail
          go_roundw
          case rel => exact ⟨k + 1, pp, by omega, by go_num, hppl, HR, HB6.out, HN6⟩
          case measure => simp [intOf]; omega
    · have hkli : ¬ (k : Int) < (L.length : Int) := by omega
      have HR : Hid (findF d.files 0 L = (q, 0)) := by show _ = _; rw [HE.out, List.drop_of_length_le (by omega)]; rfl
      go_wp2_with fail
      refine bodyPost_ret (v := .tuple #[.agg #[.pointer (some ⟨a, o + q * 5, none⟩)], .int .i64 0]) (by simp [results, Tryz.results67, go_sem, r0]) rfl ⟨findIs_yes HR.out ⟨a, o, cv, ?_, hq, rfl⟩, ?_⟩
      · exact (Below.heap_setCell _ _ _ _ (by show B ≠ w.heap.size; omega)).trans ((HBW.out.block B hBl).trans HBK.out)
      · exact HBW.out.setCell (p := ⟨w.heap.size, 0, none⟩) (Nat.le_refl _) _

end Go.Proofs.YtdpighcaieajjabGreat

/- A volume opened by the program: checked, and copied. -/
namespace Go.Proofs.YtdpighcaieajjabGreat
open Go.RowKit

/-- a volume of one's own, at a block -/
def OwnPtr (w : World) (base B : Nat) (d : VolD) : Prop := base ≤ B ∧ ∃ fv, w.heap[B]? = some (.cells #[.int .i64 d.id, .int .i64 d.fr, .bool d.snap, fv, .int .i64 d.next] 89 (0, 0)) ∧ OwnFilesX w base fv d.files
theorem OwnPtr.at {w : World} {base B : Nat} {d : VolD} (h : OwnPtr w base B d) : VolAt w B d := by
  obtain ⟨_, fv, h1, h2⟩ := h
  obtain ⟨a, c, rfl, hf, hc⟩ := h2.plain.at
  exact ⟨a, c, h1, hf, hc⟩
theorem OwnPtr.below {w w' : World} {base B : Nat} {d : VolD} (h : OwnPtr w base B d) (hb : Below w.heap.size w w') : OwnPtr w' base B d := by
  obtain ⟨h0, fv, h1, h2⟩ := h
  exact ⟨h0, fv, (hb.block _ (Array.getElem?_eq_some_iff.1 h1).1).trans h1, h2.below hb⟩
theorem OwnPtr.le {w : World} {base base' B : Nat} {d : VolD} (h : OwnPtr w base B d) (hb : base' ≤ base) : OwnPtr w base' B d := by
  obtain ⟨h0, fv, h1, h2⟩ := h
  exact ⟨by omega, fv, h1, h2.le hb⟩
def PathsOk (ps : List ByteArray) : Prop := ∀ p ∈ ps, (pathN p).isSome = true
def OpenIs (d : VolD) (ps : List ByteArray) (base : Nat) (e : Ending) (w' : World) : Prop :=
  (VolOk d ∧ PathsOk ps ∧ ∃ B, e = .returned (.tuple #[.pointer (some ⟨B, 0, none⟩), .int .i64 0]) ∧ OwnPtr w' base B d) ∨ (¬ (VolOk d ∧ PathsOk ps) ∧ e = .returned (.tuple #[.pointer none, .int .i64 1]))

set_option maxRecDepth 100000 in
set_option maxHeartbeats 4000000 in
theorem open_any (v : Value) (d : VolD) (sa : Option Addr) (ps : List ByteArray) (sc : Nat) (w : World) (hv : VolVal w v d) (hs : SmallV d) (hp : StrsAt w sa ps) (hpl : ps.length ≤ 100000) :
    Calls Tryz.prog 66 #[v, .slice sa ps.length sc] w fun e w' => OpenIs d ps w.heap.size e w' ∧ Below w.heap.size w w' := by
  have HVV : Hid (VolVal w v d) := hv
  have HS : Hid (SmallV d) := hs
  have HPS : Hid (StrsAt w sa ps) := hp
  obtain ⟨a, ca, rfl, hfs, hcp⟩ := hv
  have HBX : Hid ((w.alloc (.cells #[.int .i64 d.id, .int .i64 d.fr, .bool d.snap, .slice a d.files.length ca, .int .i64 d.next] 24)).heap[w.heap.size]? = some (.cells #[.int .i64 d.id, .int .i64 d.fr, .bool d.snap, .slice a d.files.length ca, .int .i64 d.next] 24 (0, 0))) := heap_alloc_new w _
  have HB0 : Hid (Below w.heap.size w (w.alloc (.cells #[.int .i64 d.id, .int .i64 d.fr, .bool d.snap, .slice a d.files.length ca, .int .i64 d.next] 24))) := nwA (nwR w) _
  clear hfs hcp hs hp
  go_enter Tryz.func66, Tryz.ntmps66
  go_wp2_with fail
  refine (checkv_any _ d _ (HVV.out.below HB0.out) HS.out).mono ?_
  rintro e w1 ⟨⟨t, ht, rfl⟩, hb1⟩
  have HB1 : Hid (Below w.heap.size w w1) := nwT HB0.out hb1
  have HBX1 : Hid (w1.heap[w.heap.size]? = some (.cells #[.int .i64 d.id, .int .i64 d.fr, .bool d.snap, .slice a d.files.length ca, .int .i64 d.next] 24 (0, 0))) := (hb1.block _ (Array.getElem?_eq_some_iff.1 HBX.out).1).trans HBX.out
  clear hb1 HB0 HBX
  cases t
  · have HN : Hid (¬ (VolOk d ∧ PathsOk ps)) := fun h => by have := ht.2 h.1; cases this
    rw [errI_f]
    clear ht
    go_wp2_with fail
    go_ret2
    exact ⟨.inr ⟨HN.out, rfl⟩, HB1.out⟩
  · have HOK : Hid (VolOk d) := ht.1 rfl
    rw [errI_t]
    clear ht
    go_wp2_with fail
    go_loopw [17] (fun i wr => ∃ (k : Nat), k ≤ ps.length ∧ i = .int .i64 k ∧ Below w1.heap.size w1 wr ∧ Hid (∀ j, j < k → (pathN (ps.getD j ByteArray.empty)).isSome = true))
      (fun i _ => ps.length - (intOf i).toNat)
    case atStart => exact ⟨0, by omega, rfl, nwR w1, fun j hj => by omega⟩
    case round =>
      obtain ⟨k, hk, rfl, hb, HE⟩ := hrel
      have HBR : Hid (Below w.heap.size w wr) := nwT HB1.out hb
      by_cases hkl : k < ps.length
      · have hkli : (k : Int) < (ps.length : Int) := by omega
        obtain ⟨b2, o2, rfl, y1⟩ := (HPS.out.below HBR.out).cell hkl
        have HNO : Hid ((pathN (ps.getD k ByteArray.empty)).isSome = false → ¬ (VolOk d ∧ PathsOk ps)) := fun h hh => by
          have := hh.2 _ (by simp [List.getD, hkl] : ps.getD k ByteArray.empty ∈ ps)
          rw [h] at this; cases this
        have HK : Hid ((pathN (ps.getD k ByteArray.empty)).isSome = true → ∀ j, j < k + 1 → (pathN (ps.getD j ByteArray.empty)).isSome = true) := fun h j hj => by
          by_cases e : j = k
          · subst e; exact h
          · exact HE.out j (by omega)
        generalize ps.getD k ByteArray.empty = p at y1 HNO HK
        go_wp2_with fail
        refine (path_any p _).mono ?_
        rintro e w2 ⟨rfl, hb2⟩
        have HB2 : Hid (Below w1.heap.size w1 w2) := nwT hb hb2
        clear hb2 y1
        cases hpp : (pathN p).isSome
        · have HN := HNO.out hpp
          rw [errI_f]
          have HN2 : Hid (¬ (VolOk d ∧ PathsOk ps)) := HN
          clear HN HNO HK
          go_wp2_with fail
          go_ret2
          exact ⟨.inr ⟨HN2.out, rfl⟩, nwT HB1.out HB2.out⟩
        · have HR := HK.out hpp
          have HR2 : Hid (∀ j, j < k + 1 → (pathN (ps.getD j ByteArray.empty)).isSome = true) := HR
          rw [errI_t]
          clear HR HNO HK
          go_wp2_with fail
          go_roundw
          case rel => exact ⟨k + 1, by omega, by go_num, HB2.out, HR2⟩
          case measure => simp [intOf]; omega
      · have hkli : ¬ (k : Int) < (ps.length : Int) := by omega
        have HPK : Hid (PathsOk ps) := fun p hp => by
          obtain ⟨j, hj, rfl⟩ := List.getElem_of_mem hp
          have := HE.out j (by omega)
          simpa [List.getD, hj] using this
        obtain ⟨x0, x1, x2, x3, x4, _⟩ := five ((hb.block _ (Array.getElem?_eq_some_iff.1 HBX1.out).1).trans HBX1.out)
        have HPOS : Hid (0 < d.files.length) := HOK.out.2.1.1.1
        clear HE
        go_wp2_with fail
        refine (copyOf_any _ d _ (HVV.out.below HBR.out) HS.out HPOS.out).mono ?_
        rintro e w2 ⟨⟨u, rfl, fv, rfl, hof⟩, hb2⟩
        have HB2 : Hid (Below w.heap.size w w2) := nwT HBR.out hb2
        have HOF : Hid (OwnFilesX w2 w.heap.size fv d.files) := hof.le HBR.out.size
        have hwl : w.heap.size ≤ w2.heap.size := HB2.out.size
        obtain ⟨fa, fc, rfl, _, _⟩ := hof.plain.at
        clear hof hb2 x0 x1 x2 x3 x4
        go_wp2_with fail
        go_ret2
        exact ⟨.inl ⟨HOK.out, HPK.out, _, rfl, hwl, _, heap_alloc_new w2 _, HOF.out.below (nwA (nwR w2) _)⟩, nwA HB2.out _⟩

end Go.Proofs.YtdpighcaieajjabGreat

/- The face of package tree: Find, Links, New. -/
namespace Go.Proofs.YtdpighcaieajjabGreat
open Go.RowKit

def FindR (d : VolD) (p : ByteArray) (er : Int) (f : FileD) : Prop :=
  (VolOk d ∧ ∃ L, pathN p = some L ∧ (((findF d.files 0 L).2 = 0 ∧ er = 0 ∧ f = d.files.getD (findF d.files 0 L).1 f0) ∨ ((findF d.files 0 L).2 ≠ 0 ∧ er = (findF d.files 0 L).2 ∧ f = f0))) ∨ (¬ (VolOk d ∧ (pathN p).isSome = true) ∧ er = 1 ∧ f = f0)
theorem file_zero (w : World) : FileVal w (.agg #[.int .i64 0, .bool false, .int .i64 0, .slice none 0 0, .slice none 0 0]) f0 :=
  ⟨none, 0, none, 0, rfl, ⟨.inl rfl, by simp [CapOk, f0]⟩, .inl rfl, by simp [CapOk, f0]⟩
theorem VolOk.sound {d : VolD} (h : VolOk d) : Sound d.files := ⟨h.2.1.1.1, h.2.2.1.1⟩
theorem VolOk.web {d : VolD} (h : VolOk d) : Web d.files := web_of h.2.1 h.2.2.1.1 h.2.2.1.2
theorem VolOk.one {d : VolD} (h : VolOk d) : atI d.files 1 = some 0 := by
  have := atI_self h.web.ris h.web.pos
  rw [h.2.1.1.2.2.1] at this
  exact this

theorem five_read {w : World} {g : Nat} {c0 c1 c2 c3 c4 d0 d1 d2 d3 d4 : Value} {t : TypeId} (h : w.heap[g]? = some (.cells #[c0, c1, c2, c3, c4] t (0, 0))) (ob : Obj) :
    let W := (((((w.setCell ⟨g, 0, none⟩ d0).setCell ⟨g, 1, none⟩ d1).setCell ⟨g, 2, none⟩ d2).setCell ⟨g, 3, none⟩ d3).setCell ⟨g, 4, none⟩ d4).alloc ob
    W.cell? ⟨g, 0, none⟩ = some d0 ∧ W.cell? ⟨g, 1, none⟩ = some d1 ∧ W.cell? ⟨g, 2, none⟩ = some d2 ∧ W.cell? ⟨g, 3, none⟩ = some d3 ∧ W.cell? ⟨g, 4, none⟩ = some d4 := by
  intro W
  have h5 := five_set (d0 := d0) (d1 := d1) (d2 := d2) (d3 := d3) (d4 := d4) h
  have h6 : W.heap[g]? = some (.cells #[d0, d1, d2, d3, d4] t (0, 0)) := (Lib.alloc_old _ _ _ (Array.getElem?_eq_some_iff.1 h5).1).trans h5
  obtain ⟨a0, a1, a2, a3, a4, _⟩ := five h6
  exact ⟨a0, a1, a2, a3, a4⟩
theorem OwnPtr.node {w : World} {base B q : Nat} {d : VolD} {v : Value} (h : OwnPtr w base B d) (hn : NodeOf w B d v q) : ∃ b o bv lv, v = .agg #[.pointer (some ⟨b, o, none⟩)] ∧ (w.cell? ⟨b, o, none⟩ = some (.int .i64 (d.files.getD q f0).id) ∧ w.cell? ⟨b, o + 1, none⟩ = some (.bool (d.files.getD q f0).dir) ∧ w.cell? ⟨b, o + 2, none⟩ = some (.int .i64 (d.files.getD q f0).size) ∧ w.cell? ⟨b, o + 3, none⟩ = some bv ∧ w.cell? ⟨b, o + 4, none⟩ = some lv) ∧ OwnFV w base ⟨d.files.getD q f0, bv, lv⟩ := by
  obtain ⟨_, fv, h1, gs, h2, h3, h4, _⟩ := h
  obtain ⟨a, o, c, g1, g2, rfl⟩ := hn
  rw [h1] at g1
  simp only [Option.some.injEq, Obj.cells.injEq, Array.mk.injEq, List.cons.injEq, true_and, and_true] at g1
  have hlen : gs.length = d.files.length := by rw [← h2, List.length_map]
  obtain ⟨g0, cap, hv, hb, hl⟩ := slice_cells h3 (by omega)
  rw [g1] at hv
  simp only [Value.slice.injEq, Option.some.injEq, Addr.mk.injEq] at hv
  obtain ⟨⟨rfl, rfl, _⟩, _, _⟩ := hv
  have hq : q < gs.length := by omega
  have hgq : gs[q]? = some gs[q] := List.getElem?_eq_getElem hq
  obtain ⟨c0, c1, c2, c3, c4⟩ := fflat_get gs q _ hgq
  have K : ∀ j u, (fflat gs)[j]? = some u → w.cell? ⟨a, 0 + j, none⟩ = some u := fun j u hj => by
    have := h3.cells (g := a) (by rw [g1]; rfl) j u hj
    rwa [Addr.add_lit] at this
  have e : d.files.getD q f0 = gs[q].d := by rw [← h2]; simp [List.getD, hq]
  rw [e]
  exact ⟨a, _, gs[q].bv, gs[q].lv, rfl, ⟨K _ _ c0, by have := K _ _ c1; rwa [← Nat.add_assoc] at this, by have := K _ _ c2; rwa [← Nat.add_assoc] at this, by have := K _ _ c3; rwa [← Nat.add_assoc] at this, by have := K _ _ c4; rwa [← Nat.add_assoc] at this⟩, h4 _ (List.getElem_mem hq)⟩
theorem OwnFV.file {w : World} {base : Nat} {f : FileD} {bv lv : Value} (h : OwnFV w base ⟨f, bv, lv⟩) : FileVal w (.agg #[.int .i64 f.id, .bool f.dir, .int .i64 f.size, bv, lv]) f := by
  obtain ⟨ab, cb, e1, h1, h2⟩ := h.1.at
  obtain ⟨al, cl, e2, h3, h4⟩ := h.2.at
  simp only at e1 e2
  subst e1; subst e2
  exact ⟨ab, cb, al, cl, rfl, ⟨h1, h2⟩, h3, h4⟩

/-- a file of one's own -/
def FileOwn (w : World) (base : Nat) (u : Value) (f : FileD) : Prop := ∃ bv lv, u = .agg #[.int .i64 f.id, .bool f.dir, .int .i64 f.size, bv, lv] ∧ OwnFV w base ⟨f, bv, lv⟩
theorem FileOwn.val {w : World} {base : Nat} {u : Value} {f : FileD} (h : FileOwn w base u f) : FileVal w u f := by
  obtain ⟨bv, lv, rfl, h⟩ := h
  exact h.file
theorem fileOwn_zero (w : World) (base : Nat) : FileOwn w base (.agg #[.int .i64 0, .bool false, .int .i64 0, .slice none 0 0, .slice none 0 0]) f0 :=
  ⟨_, _, rfl, World.ownsRow_nil _ _ _ _, World.ownsRow_nil _ _ _ _⟩
set_option maxRecDepth 100000 in
set_option maxHeartbeats 4000000 in
theorem tfind_own (v : Value) (d : VolD) (p : ByteArray) (w : World) (hv : VolVal w v d) (hs : SmallV d) (hpl : ∀ L, pathN p = some L → L.length ≤ 100000) :
    Calls Tryz.prog 33 #[v, .string p] w fun e w' => (∃ u er f, e = .returned (.tuple #[u, .int .i64 er]) ∧ FileOwn w' w.heap.size u f ∧ FindR d p er f) ∧ Below w.heap.size w w' := by
  have HVV : Hid (VolVal w v d) := hv
  have HS : Hid (SmallV d) := hs
  have HPL : Hid (∀ L, pathN p = some L → L.length ≤ 100000) := hpl
  obtain ⟨a, ca, rfl, _, _⟩ := hv
  have HB0 : Hid (Below w.heap.size w (((w.alloc (.cells #[.int .i64 d.id, .int .i64 d.fr, .bool d.snap, .slice a d.files.length ca, .int .i64 d.next] 24)).alloc (.cells #[.int .i64 0, .bool false, .int .i64 0, .slice none 0 0, .slice none 0 0] 59)).alloc (.cells #[.string p] 9))) := nwA (nwA (nwA (nwR w) _) _) _
  have HR0 : Hid ((((w.alloc (.cells #[.int .i64 d.id, .int .i64 d.fr, .bool d.snap, .slice a d.files.length ca, .int .i64 d.next] 24)).alloc (.cells #[.int .i64 0, .bool false, .int .i64 0, .slice none 0 0, .slice none 0 0] 59)).alloc (.cells #[.string p] 9)).heap[w.heap.size + 1]? = some (.cells #[.int .i64 0, .bool false, .int .i64 0, .slice none 0 0, .slice none 0 0] 59 (0, 0))) := three_1 w _ _ _
  have HST : Hid (StrsAt (((w.alloc (.cells #[.int .i64 d.id, .int .i64 d.fr, .bool d.snap, .slice a d.files.length ca, .int .i64 d.next] 24)).alloc (.cells #[.int .i64 0, .bool false, .int .i64 0, .slice none 0 0, .slice none 0 0] 59)).alloc (.cells #[.string p] 9)) (some ⟨w.heap.size + 2, 0, none⟩) [p]) := by
    have := StrsAt.of_alloc (w := (w.alloc (.cells #[.int .i64 d.id, .int .i64 d.fr, .bool d.snap, .slice a d.files.length ca, .int .i64 d.next] 24)).alloc (.cells #[.int .i64 0, .bool false, .int .i64 0, .slice none 0 0, .slice none 0 0] 59)) (xs := [p]) (cs := #[.string p]) (t := 9) rfl
    show StrsAt _ _ _
    simpa using this
  clear hs hpl
  go_enter Tryz.func33, Tryz.ntmps33
  go_wp2_with fail
  refine (open_any _ d _ [p] 1 _ (HVV.out.below HB0.out) HS.out HST.out (by simp)).mono ?_
  rintro e w1 ⟨hop, hb1⟩
  have HB1 : Hid (Below w.heap.size w w1) := nwT HB0.out hb1
  have HR1 : Hid (w1.heap[w.heap.size + 1]? = some (.cells #[.int .i64 0, .bool false, .int .i64 0, .slice none 0 0, .slice none 0 0] 59 (0, 0))) := (hb1.block _ (Array.getElem?_eq_some_iff.1 HR0.out).1).trans HR0.out
  clear hb1 HB0 HR0 HST
  rcases hop with ⟨hok, hpo, B, rfl, hown⟩ | ⟨hno, rfl⟩
  · have hps : (pathN p).isSome = true := hpo p (by simp)
    obtain ⟨L, hL⟩ := Option.isSome_iff_exists.1 hps
    have HL : Hid (pathN p = some L) := hL
    have HOK : Hid (VolOk d) := hok
    have HVA : Hid (VolAt w1 B d) := hown.at
    have HOW : Hid (OwnPtr w1 (w.heap.size + 3) B d) := by have := hown; rw [size3] at this; exact this
    clear hpo hown hps hL hok
    go_wp2_with fail
    refine (findp_any B d p L _ HVA.out HS.out HOK.out.sound HOK.out.one HL.out (HPL.out L HL.out)).mono ?_
    rintro e w2 ⟨⟨u, rfl, hyes, hnone⟩, hb2⟩
    have HB2 : Hid (Below w.heap.size w w2) := nwT HB1.out hb2
    have HR2 : Hid (w2.heap[w.heap.size + 1]? = some (.cells #[.int .i64 0, .bool false, .int .i64 0, .slice none 0 0, .slice none 0 0] 59 (0, 0))) := (hb2.block _ (Array.getElem?_eq_some_iff.1 HR1.out).1).trans HR1.out
    have HOW2 : Hid (OwnPtr w2 (w.heap.size + 3) B d) := HOW.out.below hb2
    clear hb2
    have hrl := (Array.getElem?_eq_some_iff.1 HR2.out).1
    obtain ⟨r0, r1, r2, r3, r4, rf⟩ := five HR2.out
    generalize hr : findF d.files 0 L = r at hyes hnone
    obtain ⟨q, er⟩ := r
    simp only at hyes hnone
    by_cases her : er = 0
    · subst her
      obtain ⟨b, o, bv, lv, rfl, ⟨c0, c1, c2, c3, c4⟩, hof⟩ := HOW2.out.node (hyes rfl)
      have HFR : Hid (FindR d p 0 (d.files.getD q f0)) := .inl ⟨HOK.out, L, HL.out, .inl (by rw [hr]; exact ⟨rfl, rfl, rfl⟩)⟩
      have HFV : Hid (OwnFV w2 (w.heap.size + 3) ⟨d.files.getD q f0, bv, lv⟩) := hof
      obtain ⟨ab, cb, e1, _, _⟩ := hof.1.at
      obtain ⟨al, cl, e2, _, _⟩ := hof.2.at
      simp only at e1 e2
      subst e1; subst e2
      have hbl := block_lt_of_cell c0
      clear hyes hnone hof hr
      generalize hfg : d.files.getD q f0 = f at c0 c1 c2 c3 c4 HFR HFV
      clear hfg
      obtain ⟨fid, fdir, fsize, fbl, fli⟩ := f
      simp only at c0 c1 c2 c3 c4
      go_wp2_with fail
      obtain ⟨k0, k1, k2, k3, k4⟩ := five_read (d0 := .int .i64 fid) (d1 := .bool fdir) (d2 := .int .i64 fsize) (d3 := .slice ab fbl.length cb) (d4 := .slice al fli.length cl) HR2.out (.cells #[.pointer (some ⟨b, o, none⟩)] 96)
      refine bodyPost_ret (v := .tuple #[.agg #[.int .i64 fid, .bool fdir, .int .i64 fsize, .slice ab fbl.length cb, .slice al fli.length cl], .int .i64 0]) (by simp [results, Tryz.results33, go_sem, k0, k1, k2, k3, k4]) rfl ⟨⟨_, 0, ⟨fid, fdir, fsize, fbl, fli⟩, rfl, ⟨_, _, rfl, ?_⟩, HFR.out⟩, ?_⟩
      · refine OwnFV.le (base := w.heap.size + 3) ?_ (Nat.le_add_right _ _)
        exact OwnFV.below (((((HFV.out.set 0 (g := w.heap.size + 1) (by omega) _).set 1 (by omega) _).set 2 (by omega) _).set 3 (by omega) _).set 4 (by omega) _) (nwA (nwR _) _)
      · exact nwA (five_below HB2.out (Nat.le_succ _)) _
    · have HFR : Hid (FindR d p er f0) := .inl ⟨HOK.out, L, HL.out, .inr (by rw [hr]; exact ⟨her, rfl, rfl⟩)⟩
      have hu := hnone her
      subst hu
      clear hyes hnone hr
      go_wp2_with fail
      obtain ⟨k0, k1, k2, k3, k4⟩ := five_read (d0 := .int .i64 0) (d1 := .bool false) (d2 := .int .i64 0) (d3 := .slice none 0 0) (d4 := .slice none 0 0) HR2.out (.cells #[.pointer none] 96)
      refine bodyPost_ret (v := .tuple #[.agg #[.int .i64 0, .bool false, .int .i64 0, .slice none 0 0, .slice none 0 0], .int .i64 er]) (by simp [results, Tryz.results33, go_sem, k0, k1, k2, k3, k4]) rfl ⟨⟨_, er, f0, rfl, fileOwn_zero _ _, HFR.out⟩, ?_⟩
      exact nwA (five_below HB2.out (Nat.le_succ _)) _
  · have HNO : Hid (¬ (VolOk d ∧ PathsOk [p])) := hno
    have HFR : Hid (FindR d p 1 f0) := .inr ⟨fun h => HNO.out ⟨h.1, fun x hx => by simp at hx; subst hx; exact h.2⟩, rfl, rfl⟩
    obtain ⟨r0, r1, r2, r3, r4, rf⟩ := five HR1.out
    clear hno
    go_wp2_with fail
    refine bodyPost_ret (v := .tuple #[.agg #[.int .i64 0, .bool false, .int .i64 0, .slice none 0 0, .slice none 0 0], .int .i64 1]) (by simp [results, Tryz.results33, go_sem, r0, r1, r2, r3, r4]) rfl ⟨⟨_, 1, f0, rfl, fileOwn_zero _ _, HFR.out⟩, ?_⟩
    exact five_below HB1.out (Nat.le_succ _)

theorem tfind_any (v : Value) (d : VolD) (p : ByteArray) (w : World) (hv : VolVal w v d) (hs : SmallV d) (hpl : ∀ L, pathN p = some L → L.length ≤ 100000) :
    Calls Tryz.prog 33 #[v, .string p] w fun e w' => (∃ u er f, e = .returned (.tuple #[u, .int .i64 er]) ∧ FileVal w' u f ∧ FindR d p er f) ∧ Below w.heap.size w w' :=
  (tfind_own v d p w hv hs hpl).mono fun _ _ ⟨⟨u, er, f, h1, h2, h3⟩, h4⟩ => ⟨⟨u, er, f, h1, h2.val, h3⟩, h4⟩

end Go.Proofs.YtdpighcaieajjabGreat
