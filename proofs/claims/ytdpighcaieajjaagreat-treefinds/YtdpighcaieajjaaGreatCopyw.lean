/- A volume copied by the program. -/
import Derived.Test.YtdpighcaieajjaaGreatCopyo
namespace Go.Proofs.YtdpighcaieajjaaGreat
open Go.RowKit

def OwnVolX (w : World) (base : Nat) (v : Value) (d : VolD) : Prop := ∃ fv, v = .agg #[.int .i64 d.id, .int .i64 d.fr, .bool d.snap, fv, .int .i64 d.next] ∧ OwnFilesX w base fv d.files
theorem own_size {w : World} {base : Nat} {e : TypeId} {size : Nat} {v : Value} {n : Nat} {xs : List Value} (h : w.ownsRow base e size v n xs) : ∀ g, v.ownBlock = some g → base ≤ g ∧ g < w.heap.size := fun g hg => h.lt g hg
/-- the state of the copying round: the boxed volume, the result's block, the row -/
structure CpS (w : World) (fvb : Nat) (box res : Obj) (wr : World) : Prop where
  bel : Below w.heap.size w wr
  bx : wr.heap[w.heap.size]? = some box
  rs : wr.heap[w.heap.size + 1]? = some res
  lt : w.heap.size + 1 < fvb
theorem CpS.below {w : World} {fvb : Nat} {box res : Obj} {wr w' : World} (h : CpS w fvb box res wr) (hb : Below wr.heap.size wr w') : CpS w fvb box res w' :=
  ⟨nwT h.bel hb, (hb.block _ (Array.getElem?_eq_some_iff.1 h.bx).1).trans h.bx, (hb.block _ (Array.getElem?_eq_some_iff.1 h.rs).1).trans h.rs, h.lt⟩
theorem CpS.set {w : World} {fvb : Nat} {box res : Obj} {wr : World} (h : CpS w fvb box res wr) (o : Nat) (v : Value) : CpS w fvb box res (wr.setCell ⟨fvb, o, none⟩ v) :=
  have := h.lt
  ⟨h.bel.setCell (p := ⟨fvb, o, none⟩) (by show w.heap.size ≤ fvb; omega) _, (Below.heap_setCell _ _ _ _ (by show w.heap.size ≠ fvb; omega)).trans h.bx, (Below.heap_setCell _ _ _ _ (by show w.heap.size + 1 ≠ fvb; omega)).trans h.rs, h.lt⟩
theorem Half.setb {w : World} {base g cap n : Nat} {fs : List FileD} {gs0 gs : List FV} {k : Nat} (h : Half w base (.slice (some ⟨g, 0, none⟩) n cap) fs gs0 gs k) (x : FV) (hx : gs[k]? = some x) {bv : Value} (hb : OwnInts w base bv x.d.blocks) :
    Half (w.setCell ⟨g, k * 5 + 3, none⟩ bv) base (.slice (some ⟨g, 0, none⟩) n cap) fs (gs0.set k ⟨x.d, bv, x.lv⟩) (gs.set k ⟨x.d, bv, x.lv⟩) k ∧ OwnInts (w.setCell ⟨g, k * 5 + 3, none⟩ bv) base bv x.d.blocks := by
  obtain ⟨hk, rfl⟩ := List.getElem?_eq_some_iff.1 hx
  obtain ⟨cs, hh⟩ := own_tag h.row g rfl
  have hn : n = gs.length := by
    rcases h.row.2 with ⟨h1, _⟩ | ⟨g', cap', cur, h1, _⟩
    · simp at h1
    · simp at h1; exact h1.2.1
  subst hn
  refine ⟨⟨?_, ?_, ?_, ?_, ?_⟩, rowset2 hb hh (by decide) _⟩
  · rw [List.map_set, ← h.ds]
    apply List.ext_getElem?
    intro i
    by_cases e : k = i
    · subst e; rw [List.getElem?_set_self (by simpa using hk)]; simp [hk]
    · rw [List.getElem?_set_ne e]
  · rw [fflat_setb gs k bv hk, List.length_set]
    exact (h.row.stored (k * 5 + 3) bv).1
  · intro j y hj hy
    rw [List.getElem?_set_ne (by omega)] at hy
    have := h.own j y hj hy
    exact ⟨rowset2 this.1 hh (by decide) _, rowset2 this.2 hh (by decide) _⟩
  · intro i j hij hjk a b ha hb2
    rw [List.getElem?_set_ne (by omega)] at ha hb2
    exact h.ap i j hij hjk a b ha hb2
  · intro j hj
    have hlen : gs0[k]? = some gs[k] := by rw [← h.old k (Nat.le_refl _)]; exact hx
    have h0 := (List.getElem?_eq_some_iff.1 hlen).1
    by_cases e : k = j
    · subst e; rw [List.getElem?_set_self hk, List.getElem?_set_self h0]
    · rw [List.getElem?_set_ne e, List.getElem?_set_ne e]; exact h.old j hj
theorem Half.setl {w : World} {base g cap n : Nat} {fs : List FileD} {gs0 gs : List FV} {k : Nat} (h : Half w base (.slice (some ⟨g, 0, none⟩) n cap) fs gs0 gs k) (x : FV) (hx : gs[k]? = some x) (hb : OwnInts w base x.bv x.d.blocks) {lv : Value} (hl : OwnLinks w base lv x.d.list) (hf : ∀ j y, j < k → gs[j]? = some y → y.lv.ownBlock = none ∨ y.lv.ownBlock ≠ lv.ownBlock) :
    Half (w.setCell ⟨g, k * 5 + 4, none⟩ lv) base (.slice (some ⟨g, 0, none⟩) n cap) fs gs0 (gs.set k ⟨x.d, x.bv, lv⟩) (k + 1) := by
  obtain ⟨hk, rfl⟩ := List.getElem?_eq_some_iff.1 hx
  obtain ⟨cs, hh⟩ := own_tag h.row g rfl
  have hn : n = gs.length := by
    rcases h.row.2 with ⟨h1, _⟩ | ⟨g', cap', cur, h1, _⟩
    · simp at h1
    · simp at h1; exact h1.2.1
  subst hn
  refine ⟨?_, ?_, ?_, ?_, ?_⟩
  · rw [List.map_set, ← h.ds]
    apply List.ext_getElem?
    intro i
    by_cases e : k = i
    · subst e; rw [List.getElem?_set_self (by simpa using hk)]; simp [hk]
    · rw [List.getElem?_set_ne e]
  · rw [fflat_setl gs k lv hk, List.length_set]
    exact (h.row.stored (k * 5 + 4) lv).1
  · intro j y hj hy
    by_cases e : k = j
    · subst e
      rw [List.getElem?_set_self hk] at hy
      injection hy with hy; subst hy
      exact ⟨rowset2 hb hh (by decide) _, rowset2 hl hh (by decide) _⟩
    · rw [List.getElem?_set_ne e] at hy
      have := h.own j y (by omega) hy
      exact ⟨rowset2 this.1 hh (by decide) _, rowset2 this.2 hh (by decide) _⟩
  · intro i j hij hjk a b ha hb2
    rw [List.getElem?_set_ne (by omega)] at ha
    by_cases e : k = j
    · subst e
      rw [List.getElem?_set_self hk] at hb2
      injection hb2 with hb2; subst hb2
      exact hf i a hij ha
    · rw [List.getElem?_set_ne e] at hb2
      exact h.ap i j hij (by omega) a b ha hb2
  · intro j hj
    rw [List.getElem?_set_ne (by omega)]
    exact h.old j (by omega)

theorem OwnInts.lt {w : World} {base : Nat} {v : Value} {ns : List Int} (h : OwnInts w base v ns) : ∀ g, v.ownBlock = some g → base ≤ g := fun g hg => (World.ownsRow.lt h g hg).1
theorem slice_cells {w : World} {base : Nat} {e : TypeId} {size n : Nat} {v : Value} {xs : List Value} (h : w.ownsRow base e size v n xs) (hn : 0 < n) : ∃ g cap, v = .slice (some ⟨g, 0, none⟩) n cap ∧ base ≤ g ∧ g < w.heap.size := by
  have h2 := h.2
  rcases h2 with ⟨_, h1⟩ | ⟨g, cap, cur, hv, hg, hh, _⟩
  · omega
  · exact ⟨g, cap, hv, hg, (Array.getElem?_eq_some_iff.1 hh).1⟩

theorem Half.base {w : World} {base : Nat} {v : Value} {fs : List FileD} {gs0 gs : List FV} {k : Nat} {z : FV} (h : Half w base v fs (gs0.set k z) gs (k + 1)) : Half w base v fs gs0 gs (k + 1) :=
  ⟨h.ds, h.row, h.own, h.ap, fun j hj => by rw [h.old j hj, List.getElem?_set_ne (by omega)]⟩
structure CpT (w : World) (fvb : Nat) (box res : Obj) (F : Nat) (ob : Obj) (wr : World) : Prop where
  s : CpS w fvb box res wr
  f : wr.heap[F]? = some ob
  ne : fvb ≠ F
theorem CpT.below {w : World} {fvb F : Nat} {box res ob : Obj} {wr w' : World} (h : CpT w fvb box res F ob wr) (hb : Below wr.heap.size wr w') : CpT w fvb box res F ob w' :=
  ⟨h.s.below hb, (hb.block _ (Array.getElem?_eq_some_iff.1 h.f).1).trans h.f, h.ne⟩
theorem CpT.drew {w : World} {fvb F : Nat} {box res ob : Obj} {wr : World} (h : CpT w fvb box res F ob wr) : CpT w fvb box res F ob wr.drew := h.below (Below.drew (nwR wr))
theorem CpT.set {w : World} {fvb F : Nat} {box res ob : Obj} {wr : World} (h : CpT w fvb box res F ob wr) (o : Nat) (v : Value) : CpT w fvb box res F ob (wr.setCell ⟨fvb, o, none⟩ v) :=
  ⟨h.s.set o v, (Below.heap_setCell _ _ _ _ (by show F ≠ fvb; exact fun e => h.ne e.symm)).trans h.f, h.ne⟩
theorem Half.cells {w : World} {base g cap n : Nat} {fs : List FileD} {gs0 gs : List FV} {k : Nat} (h : Half w base (.slice (some ⟨g, 0, none⟩) n cap) fs gs0 gs k) {i : Nat} {x : FV} (hx : gs[i]? = some x) :
    (w.cell? ⟨g, i * 5, none⟩ = some (.int .i64 x.d.id) ∧ w.cell? ⟨g, i * 5 + 1, none⟩ = some (.bool x.d.dir) ∧ w.cell? ⟨g, i * 5 + 2, none⟩ = some (.int .i64 x.d.size) ∧ w.cell? ⟨g, i * 5 + 3, none⟩ = some x.bv ∧ w.cell? ⟨g, i * 5 + 4, none⟩ = some x.lv) ∧ ∀ o, w.frozen? ⟨g, o, none⟩ = false := by
  have hn : n = gs.length := by
    rcases h.row.2 with ⟨h1, _⟩ | ⟨g', cap', cur, h1, _⟩
    · simp at h1
    · simp at h1; exact h1.2.1
  subst hn
  obtain ⟨c0, c1, c2, c3, c4⟩ := fflat_get gs i x hx
  have K : ∀ j u, (fflat gs)[j]? = some u → w.cell? ⟨g, j, none⟩ = some u := fun j u hj => by
    have := h.row.cells (g := g) rfl j u hj
    rw [Addr.add_lit, Nat.zero_add] at this
    exact this
  exact ⟨⟨K _ _ c0, K _ _ c1, K _ _ c2, K _ _ c3, K _ _ c4⟩, fun o => h.row.frozenAt o⟩
theorem Half.lift {w : World} {base : Nat} {v : Value} {fs : List FileD} {gs0 gs : List FV} {k : Nat} (h : Half w base v fs gs0 gs k) {B o : Nat} (hB : B < base) (u : Value) : Half (w.setCell ⟨B, o, none⟩ u) base v fs gs0 gs k :=
  ⟨h.ds, rowset h.row o hB u, fun j g hj hg => (h.own j g hj hg).set o hB u, h.ap, h.old⟩

theorem OwnFilesX.set {w : World} {base : Nat} {v : Value} {fs : List FileD} (h : OwnFilesX w base v fs) {B : Nat} (o : Nat) (hB : B < base) (u : Value) : OwnFilesX (w.setCell ⟨B, o, none⟩ u) base v fs := by
  obtain ⟨gs, h1, h2, h3, h4⟩ := h
  exact ⟨gs, h1, rowset h2 o hB u, fun g hg => (h3 g hg).set o hB u, h4⟩
theorem OwnFilesX.le {w : World} {base base' : Nat} {v : Value} {fs : List FileD} (h : OwnFilesX w base v fs) (hb : base' ≤ base) : OwnFilesX w base' v fs := by
  obtain ⟨gs, h1, h2, h3, h4⟩ := h
  exact ⟨gs, h1, own_le h2 hb, fun g hg => (h3 g hg).le hb, h4⟩
theorem OwnFilesX.below {w w' : World} {base : Nat} {v : Value} {fs : List FileD} (h : OwnFilesX w base v fs) (hb : Below w.heap.size w w') : OwnFilesX w' base v fs := by
  obtain ⟨gs, h1, h2, h3, h4⟩ := h
  exact ⟨gs, h1, own_below h2 hb, fun g hg => (h3 g hg).below hb, h4⟩

set_option maxRecDepth 100000 in
set_option maxHeartbeats 4000000 in
theorem copyOf_any (v : Value) (d : VolD) (w : World) (hv : VolVal w v d) (hs : SmallV d) (hp : 0 < d.files.length) :
    Calls Tryz.prog 79 #[v] w fun e w' => (∃ u, e = .returned u ∧ OwnVolX w' w.heap.size u d) ∧ Below w.heap.size w w' := by
  obtain ⟨a, ca, rfl, hfs, hcp⟩ := hv
  obtain ⟨b1, o1, rfl, _⟩ := hfs.file hp
  obtain ⟨vid, fr, snap, fs, next⟩ := d
  simp only [SmallV] at *
  obtain ⟨hl, hs2⟩ := hs
  have HS : Hid (∀ f ∈ fs, SmallF f) := hs2
  obtain ⟨gs0, hd0, hcells, horig⟩ : ∃ gs : List FV, gs.map FV.d = fs ∧ (∀ j u, (fflat gs)[j]? = some u → w.cell? ⟨b1, o1 + j, none⟩ = some u) ∧ ∀ g ∈ gs, OrigFV w g := by
    rcases hfs with h0 | ⟨b, o, e, h⟩
    · rw [h0] at hp; simp at hp
    · injection e with e; injection e with e1 e2; subst e1; subst e2
      exact orig_of fs _ h
  have hlen0 : gs0.length = fs.length := by rw [← hd0, List.length_map]
  have HD0 : Hid (gs0.map FV.d = fs) := hd0
  have HCE : Hid (∀ j u, (fflat gs0)[j]? = some u → w.cell? ⟨b1, o1 + j, none⟩ = some u) := hcells
  have HOR : Hid (∀ g ∈ gs0, OrigFV w g) := horig
  have HL0 : Hid (gs0.length = fs.length) := hlen0
  clear hfs hcp hd0 hcells horig hs2 hlen0
  go_enter Tryz.func79, Tryz.ntmps79
  go_wp2_with fail
  have HB0 : Hid (Below w.heap.size w ((w.alloc (.cells #[.int .i64 vid, .int .i64 fr, .bool snap, .slice (some ⟨b1, o1, none⟩) fs.length ca, .int .i64 next] 24)).alloc (.cells #[.int .i64 0, .int .i64 0, .bool false, .slice none 0 0, .int .i64 0] 24))) := nwA (nwA (nwR w) _) _
  refine (clof_row ⟨b1, o1, none⟩ fs.length ca (fflat gs0) _ (by rw [fflat_len, HL0.out]) (by omega) (fun j u hj => by
    rw [Addr.add_lit]
    have := HCE.out j u hj
    exact (HB0.out.cell (p := ⟨b1, o1 + j, none⟩) (block_lt_of_cell this)).trans this) (fflat_one HOR.out)).mono ?_
  rintro e w1 ⟨⟨fv, rfl, hrow⟩, hb1⟩
  have hsz2 : ((w.alloc (.cells #[.int .i64 vid, .int .i64 fr, .bool snap, .slice (some ⟨b1, o1, none⟩) fs.length ca, .int .i64 next] 24)).alloc (.cells #[.int .i64 0, .int .i64 0, .bool false, .slice none 0 0, .int .i64 0] 24)).heap.size = w.heap.size + 2 := by simp
  rw [hsz2] at hrow
  obtain ⟨g, cap, rfl, hg1, hg2⟩ := slice_cells hrow hp
  have HB1 : Hid (Below w.heap.size w w1) := nwT HB0.out hb1
  have HX1 : Hid (w1.heap[w.heap.size]? = some (.cells #[.int .i64 vid, .int .i64 fr, .bool snap, .slice (some ⟨b1, o1, none⟩) fs.length ca, .int .i64 next] 24 (0, 0))) := (hb1.block _ (by rw [hsz2]; omega)).trans (by rw [Lib.alloc_old _ _ _ (by simp)]; exact heap_alloc_new w _)
  have HR1 : Hid (w1.heap[w.heap.size + 1]? = some (.cells #[.int .i64 0, .int .i64 0, .bool false, .slice none 0 0, .int .i64 0] 24 (0, 0))) := (hb1.block _ (by rw [hsz2]; omega)).trans (heap_alloc_new2 w _ _)
  have HROW : Hid (w1.ownsRow (w.heap.size + 2) 39 5 (.slice (some ⟨g, 0, none⟩) fs.length cap) fs.length (fflat gs0)) := hrow
  obtain ⟨t0, t1, t2, t3, t4, tf⟩ := five HX1.out
  have HX2 : Hid ((w1.setCell ⟨w.heap.size, 3, none⟩ (.slice (some ⟨g, 0, none⟩) fs.length cap)).heap[w.heap.size]? = some (.cells #[.int .i64 vid, .int .i64 fr, .bool snap, .slice (some ⟨g, 0, none⟩) fs.length cap, .int .i64 next] 24 (0, 0))) := by
    show _ = _
    rw [heap_setCell_same w1 _ 3 _ 24 _ HX1.out]; simp
  have HCP : Hid (CpS w g (.cells #[.int .i64 vid, .int .i64 fr, .bool snap, .slice (some ⟨g, 0, none⟩) fs.length cap, .int .i64 next] 24 (0, 0)) (.cells #[.int .i64 0, .int .i64 0, .bool false, .slice none 0 0, .int .i64 0] 24 (0, 0)) (w1.setCell ⟨w.heap.size, 3, none⟩ (.slice (some ⟨g, 0, none⟩) fs.length cap))) :=
    ⟨HB1.out.setCell (p := ⟨w.heap.size, 3, none⟩) (Nat.le_refl _) _, HX2.out, (Below.heap_setCell _ _ _ _ (by show w.heap.size + 1 ≠ w.heap.size; omega)).trans HR1.out, by omega⟩
  have HHF : Hid (Half (w1.setCell ⟨w.heap.size, 3, none⟩ (.slice (some ⟨g, 0, none⟩) fs.length cap)) (w.heap.size + 2) (.slice (some ⟨g, 0, none⟩) fs.length cap) fs gs0 gs0 0) :=
    Half.lift (w := w1) ⟨HD0.out, by rw [HL0.out]; exact HROW.out, fun j g h => by omega, fun i j _ h => by omega, fun j _ => rfl⟩ (by omega) _
  clear hrow hb1 hsz2 HB0 HX1 HR1 HROW HX2 hg2
  go_wp2_with fail
  generalize w1.setCell ⟨w.heap.size, 3, none⟩ (.slice (some ⟨g, 0, none⟩) fs.length cap) = W2 at HCP HHF ⊢
  clear t0 t1 t2 t3 t4 tf HB1
  go_loopw [12] (fun i wr => ∃ (k : Nat) (gs : List FV), k ≤ fs.length ∧ i = .int .i64 k ∧ Hid (CpS w g (.cells #[.int .i64 vid, .int .i64 fr, .bool snap, .slice (some ⟨g, 0, none⟩) fs.length cap, .int .i64 next] 24 (0, 0)) (.cells #[.int .i64 0, .int .i64 0, .bool false, .slice none 0 0, .int .i64 0] 24 (0, 0)) wr) ∧ Hid (Half wr (w.heap.size + 2) (.slice (some ⟨g, 0, none⟩) fs.length cap) fs gs0 gs k))
    (fun i _ => fs.length - (intOf i).toNat)
  case atStart => exact ⟨0, gs0, by omega, rfl, HCP, HHF⟩
  case round =>
    obtain ⟨k, gs, hk, rfl, HC, HH⟩ := hrel
    by_cases hkl : k < fs.length
    · have hkli : (k : Int) < (fs.length : Int) := by omega
      have hk0 : (0 : Int) ≤ (k : Int) := by omega
      have hgl : gs.length = fs.length := by rw [← HH.out.ds, List.length_map]
      obtain ⟨x, hx⟩ : ∃ x, gs[k]? = some x := ⟨gs[k], List.getElem?_eq_getElem (by omega)⟩
      have hx0 : gs0[k]? = some x := by rw [← HH.out.old k (Nat.le_refl _)]; exact hx
      have horg := HOR.out x (List.mem_of_getElem? hx0)
      have hxm : x.d ∈ fs := by rw [← HD0.out]; exact List.mem_map.2 ⟨x, List.mem_of_getElem? hx0, rfl⟩
      have hsm := HS.out x.d hxm
      obtain ⟨⟨e0, e1, e2, e3, e4⟩, ef⟩ := HH.out.cells hx
      obtain ⟨⟨fid, fdir, fsize, fbl, fli⟩, xbv, xlv⟩ := x
      obtain ⟨ab, cb, al, cl, e5, e6, ⟨hib, hcb⟩, hil, hcl⟩ := horg
      simp only at e5 e6
      subst e5; subst e6
      simp only [SmallF] at e0 e1 e2 e3 e4 hib hcb hil hcl hsm
      have HIB : Hid (IntsAt w ab fbl ∧ CapOk ab cb fbl.length) := ⟨hib, hcb⟩
      have HIL : Hid (LinksAt w al fli ∧ CapOk al cl fli.length) := ⟨hil, hcl⟩
      have HX : Hid (gs[k]? = some ⟨⟨fid, fdir, fsize, fbl, fli⟩, .slice ab fbl.length cb, .slice al fli.length cl⟩) := hx
      have HSM : Hid (fbl.length ≤ 100000 ∧ fli.length ≤ 100000) := hsm
      clear hib hcb hil hcl hx hx0 hxm hsm hgl
      go_wp2_with fail
      clear e0 e1 e2 e3 e4 ef
      have HT : Hid (CpT w g (.cells #[.int .i64 vid, .int .i64 fr, .bool snap, .slice (some ⟨g, 0, none⟩) fs.length cap, .int .i64 next] 24 (0, 0)) (.cells #[.int .i64 0, .int .i64 0, .bool false, .slice none 0 0, .int .i64 0] 24 (0, 0)) wr.heap.size (.cells #[.int .i64 fid, .bool fdir, .int .i64 fsize, .slice ab fbl.length cb, .slice al fli.length cl] 39 (0, 0)) (wr.alloc (.cells #[.int .i64 fid, .bool fdir, .int .i64 fsize, .slice ab fbl.length cb, .slice al fli.length cl] 39))) := ⟨HC.out.below (nwA (nwR wr) _), heap_alloc_new wr _, by have := (World.ownsRow.lt HH.out.row g rfl).2; omega⟩
      have HH1 : Hid (Half (wr.alloc (.cells #[.int .i64 fid, .bool fdir, .int .i64 fsize, .slice ab fbl.length cb, .slice al fli.length cl] 39)) (w.heap.size + 2) (.slice (some ⟨g, 0, none⟩) fs.length cap) fs gs0 gs k) := HH.out.below (nwA (nwR wr) _)
      generalize hWf : wr.alloc (.cells #[.int .i64 fid, .bool fdir, .int .i64 fsize, .slice ab fbl.length cb, .slice al fli.length cl] 39) = Wf at HT HH1 ⊢
      generalize wr.heap.size = F at HT ⊢
      clear hWf HC HH
      have hS : CpT w g (.cells #[.int .i64 vid, .int .i64 fr, .bool snap, .slice (some ⟨g, 0, none⟩) fs.length cap, .int .i64 next] 24 (0, 0)) (.cells #[.int .i64 0, .int .i64 0, .bool false, .slice none 0 0, .int .i64 0] 24 (0, 0)) F (.cells #[.int .i64 fid, .bool fdir, .int .i64 fsize, .slice ab fbl.length cb, .slice al fli.length cl] 39 (0, 0)) Wf := HT.out
      have z3 : ∀ w', CpT w g (.cells #[.int .i64 vid, .int .i64 fr, .bool snap, .slice (some ⟨g, 0, none⟩) fs.length cap, .int .i64 next] 24 (0, 0)) (.cells #[.int .i64 0, .int .i64 0, .bool false, .slice none 0 0, .int .i64 0] 24 (0, 0)) F (.cells #[.int .i64 fid, .bool fdir, .int .i64 fsize, .slice ab fbl.length cb, .slice al fli.length cl] 39 (0, 0)) w' → w'.cell? ⟨w.heap.size, 3, none⟩ = some (.slice (some ⟨g, 0, none⟩) fs.length cap) := fun w' h => by rw [Lib.cell_of_heap h.s.bx]; rfl
      have zf3 : ∀ w', CpT w g (.cells #[.int .i64 vid, .int .i64 fr, .bool snap, .slice (some ⟨g, 0, none⟩) fs.length cap, .int .i64 next] 24 (0, 0)) (.cells #[.int .i64 0, .int .i64 0, .bool false, .slice none 0 0, .int .i64 0] 24 (0, 0)) F (.cells #[.int .i64 fid, .bool fdir, .int .i64 fsize, .slice ab fbl.length cb, .slice al fli.length cl] 39 (0, 0)) w' → w'.cell? ⟨F, 3, none⟩ = some (.slice ab fbl.length cb) := fun w' h => by rw [Lib.cell_of_heap h.f]; rfl
      have zf4 : ∀ w', CpT w g (.cells #[.int .i64 vid, .int .i64 fr, .bool snap, .slice (some ⟨g, 0, none⟩) fs.length cap, .int .i64 next] 24 (0, 0)) (.cells #[.int .i64 0, .int .i64 0, .bool false, .slice none 0 0, .int .i64 0] 24 (0, 0)) F (.cells #[.int .i64 fid, .bool fdir, .int .i64 fsize, .slice ab fbl.length cb, .slice al fli.length cl] 39 (0, 0)) w' → w'.cell? ⟨F, 4, none⟩ = some (.slice al fli.length cl) := fun w' h => by rw [Lib.cell_of_heap h.f]; rfl
      go_region_held3 (fun w' => CpT w g (.cells #[.int .i64 vid, .int .i64 fr, .bool snap, .slice (some ⟨g, 0, none⟩) fs.length cap, .int .i64 next] 24 (0, 0)) (.cells #[.int .i64 0, .int .i64 0, .bool false, .slice none 0 0, .int .i64 0] 24 (0, 0)) F (.cells #[.int .i64 fid, .bool fdir, .int .i64 fsize, .slice ab fbl.length cb, .slice al fli.length cl] 39 (0, 0)) w') (first | assumption | exact CpT.drew (by assumption) | exact CpT.below (CpT.drew hS) (by assumption) | exact CpT.set (by assumption) _ _) (first
        | (go_at_call 100; refine (cloi_any ab fbl cb _ (HIB.out.1.below (nwT hS.s.bel (Below.drew (nwR Wf)))) HIB.out.2 HSM.out.1).mono ?_; rintro e wU ⟨⟨nv, rfl, hob⟩, hbU⟩; have HHU := HH1.out.below (nwT (Below.drew (nwR Wf)) hbU); have kc := (HHU.cells HX.out).1.2.2.2.1; have kf := (HHU.cells HX.out).2 (k * 5 + 3); obtain ⟨abv, cbv, rfl, _⟩ := hob.at))
      have hbu : Below Wf.heap.size Wf wU := nwT (Below.drew (nwR Wf)) hbU
      have HOB : Hid (OwnInts wU (w.heap.size + 2) (.slice abv fbl.length cbv) fbl) := own_le hob (by have := hS.s.lt; have := HH1.out.row.lt g rfl; have := hbU.size; show w.heap.size + 2 ≤ Wf.heap.size; omega)
      have HH2 : Hid (Half (wU.setCell ⟨g, k * 5 + 3, none⟩ (.slice abv fbl.length cbv)) (w.heap.size + 2) (.slice (some ⟨g, 0, none⟩) fs.length cap) fs (gs0.set k ⟨⟨fid, fdir, fsize, fbl, fli⟩, .slice abv fbl.length cbv, .slice al fli.length cl⟩) (gs.set k ⟨⟨fid, fdir, fsize, fbl, fli⟩, .slice abv fbl.length cbv, .slice al fli.length cl⟩) k ∧ OwnInts (wU.setCell ⟨g, k * 5 + 3, none⟩ (.slice abv fbl.length cbv)) (w.heap.size + 2) (.slice abv fbl.length cbv) fbl) := Half.setb (HH1.out.below hbu) _ HX.out HOB.out
      have HX2 : Hid ((gs.set k ⟨⟨fid, fdir, fsize, fbl, fli⟩, .slice abv fbl.length cbv, .slice al fli.length cl⟩)[k]? = some ⟨⟨fid, fdir, fsize, fbl, fli⟩, .slice abv fbl.length cbv, .slice al fli.length cl⟩) := List.getElem?_set_self (List.getElem?_eq_some_iff.1 HX.out).1
      have HS5 : CpT w g (.cells #[.int .i64 vid, .int .i64 fr, .bool snap, .slice (some ⟨g, 0, none⟩) fs.length cap, .int .i64 next] 24 (0, 0)) (.cells #[.int .i64 0, .int .i64 0, .bool false, .slice none 0 0, .int .i64 0] 24 (0, 0)) F (.cells #[.int .i64 fid, .bool fdir, .int .i64 fsize, .slice ab fbl.length cb, .slice al fli.length cl] 39 (0, 0)) (wU.setCell ⟨g, k * 5 + 3, none⟩ (.slice abv fbl.length cbv)) := (hS.below hbu).set _ _
      clear hob hbU HHU kc kf hbu HOB
      generalize wU.setCell ⟨g, k * 5 + 3, none⟩ (.slice abv fbl.length cbv) = W5 at HH2 HS5 ⊢
      generalize gs.set k ⟨⟨fid, fdir, fsize, fbl, fli⟩, .slice abv fbl.length cbv, .slice al fli.length cl⟩ = gs2 at HH2 HX2
      go_wp2_with fail
      go_region_held3 (fun w' => CpT w g (.cells #[.int .i64 vid, .int .i64 fr, .bool snap, .slice (some ⟨g, 0, none⟩) fs.length cap, .int .i64 next] 24 (0, 0)) (.cells #[.int .i64 0, .int .i64 0, .bool false, .slice none 0 0, .int .i64 0] 24 (0, 0)) F (.cells #[.int .i64 fid, .bool fdir, .int .i64 fsize, .slice ab fbl.length cb, .slice al fli.length cl] 39 (0, 0)) w') (first | assumption | exact CpT.drew (by assumption) | exact CpT.below (CpT.drew HS5) (by assumption) | exact CpT.set (by assumption) _ _) (first
        | (go_at_call 101; refine (clol_any al fli cl _ (HIL.out.1.below (nwT HS5.s.bel (Below.drew (nwR W5)))) HIL.out.2 HSM.out.2).mono ?_; rintro e wV ⟨⟨nv, rfl, hob⟩, hbV⟩; have HHV := HH2.out.1.below (nwT (Below.drew (nwR W5)) hbV); have kc := (HHV.cells HX2.out).1.2.2.2.2; have kf := (HHV.cells HX2.out).2 (k * 5 + 4); obtain ⟨alv, clv, rfl, _⟩ := hob.at))
      have hbv : Below W5.heap.size W5 wV := nwT (Below.drew (nwR W5)) hbV
      have HOL : Hid (OwnLinks wV W5.heap.size (.slice alv fli.length clv) fli) := hob
      have hwl : w.heap.size + 2 ≤ W5.heap.size := by have := HH2.out.1.row.lt g rfl; omega
      have HH3 : Hid (Half (wV.setCell ⟨g, k * 5 + 4, none⟩ (.slice alv fli.length clv)) (w.heap.size + 2) (.slice (some ⟨g, 0, none⟩) fs.length cap) fs gs0 (gs2.set k ⟨⟨fid, fdir, fsize, fbl, fli⟩, .slice abv fbl.length cbv, .slice alv fli.length clv⟩) (k + 1)) := by
        refine (Half.setl (HH2.out.1.below hbv) _ HX2.out (own_below HH2.out.2 hbv) (own_le HOL.out hwl) (fun j y hj hy => ?_)).base
        cases h1 : y.lv.ownBlock with
        | none => exact .inl rfl
        | some q =>
          refine .inr (fun e => ?_)
          have a1 := (World.ownsRow.lt (HH2.out.1.own j y hj hy).2 q h1).2
          have a2 := (World.ownsRow.lt HOL.out q e.symm).1
          omega
      have HC3 : Hid (CpS w g (.cells #[.int .i64 vid, .int .i64 fr, .bool snap, .slice (some ⟨g, 0, none⟩) fs.length cap, .int .i64 next] 24 (0, 0)) (.cells #[.int .i64 0, .int .i64 0, .bool false, .slice none 0 0, .int .i64 0] 24 (0, 0)) (wV.setCell ⟨g, k * 5 + 4, none⟩ (.slice alv fli.length clv))) := ((HS5.below hbv).set _ _).s
      clear hob hbV HHV kc kf hbv HOL z3 zf3 zf4 hS HS5 HH2 HX2 HT HH1
      generalize wV.setCell ⟨g, k * 5 + 4, none⟩ (.slice alv fli.length clv) = W6 at HH3 HC3 ⊢
      go_wp2_with fail
      go_roundw
      case rel => exact ⟨k + 1, _, by omega, by go_num, HC3, HH3⟩
      case measure => simp [intOf]; omega
    · have hkli : ¬ (k : Int) < (fs.length : Int) := by omega
      have HOX : Hid (OwnFilesX wr (w.heap.size + 2) (.slice (some ⟨g, 0, none⟩) fs.length cap) fs) := HH.out.fin (by rw [← List.length_map (f := FV.d), HH.out.ds]; omega)
      obtain ⟨q0, q1, q2, q3, q4, _⟩ := five HC.out.bx
      obtain ⟨r0, r1, r2, r3, r4, rf⟩ := five HC.out.rs
      have HBR : Hid (Below w.heap.size w wr) := HC.out.bel
      clear HC HH
      go_wp2_with fail
      refine bodyPost_ret (v := .agg #[.int .i64 vid, .int .i64 fr, .bool snap, .slice (some ⟨g, 0, none⟩) fs.length cap, .int .i64 next]) (by simp [results, Tryz.results79, go_sem, r0, r1, r2, r3, r4]) rfl ⟨⟨_, rfl, _, rfl, ?_⟩, ?_⟩
      · exact (((((HOX.out.set 0 (B := w.heap.size + 1) (by omega) _).set 1 (by omega) _).set 2 (by omega) _).set 3 (by omega) _).set 4 (by omega) _).le (by omega)
      · exact five_below HBR.out (Nat.le_succ _)

end Go.Proofs.YtdpighcaieajjaaGreat
