/- Laid together: Setd, Actd. -/
import Derived.Test.YtheomnafmjmpdaaRoomN6
/- One device of a list written to. -/
namespace Go.Proofs.Ytheomnafmjmpdaa
open Go.RowKit

theorem dflat_setF (gs : List DV) : ∀ (k : Nat) (x : DV) (fv : Value) (f : List (Int × Int)), gs[k]? = some x → dflat (gs.set k ⟨⟨x.d.id, x.d.size, f, x.d.late⟩, fv, x.lv⟩) = (dflat gs).set (k * 4 + 2) fv := by
  induction gs with
  | nil => intro k x fv f h; simp at h
  | cons y ys ih =>
    intro k x fv f h
    cases k with
    | zero => simp at h; subst h; simp [dflat_cons]
    | succ k =>
      have h' : ys[k]? = some x := by simpa using h
      rw [List.set_cons_succ, dflat_cons, ih k x fv f h', dflat_cons, show (k + 1) * 4 + 2 = k * 4 + 2 + 1 + 1 + 1 + 1 from by omega]
      simp
theorem dflat_setL (gs : List DV) : ∀ (k : Nat) (x : DV) (lv : Value) (l : List (Int × Int)), gs[k]? = some x → dflat (gs.set k ⟨⟨x.d.id, x.d.size, x.d.free, l⟩, x.fv, lv⟩) = (dflat gs).set (k * 4 + 3) lv := by
  induction gs with
  | nil => intro k x lv l h; simp at h
  | cons y ys ih =>
    intro k x lv l h
    cases k with
    | zero => simp at h; subst h; simp [dflat_cons]
    | succ k =>
      have h' : ys[k]? = some x := by simpa using h
      rw [List.set_cons_succ, dflat_cons, ih k x lv l h', dflat_cons, show (k + 1) * 4 + 3 = k * 4 + 3 + 1 + 1 + 1 + 1 from by omega]
      simp
def setF (d : DevD) (f : List (Int × Int)) : DevD := ⟨d.id, d.size, f, d.late⟩
def setL' (d : DevD) (l : List (Int × Int)) : DevD := ⟨d.id, d.size, d.free, l⟩
theorem OwnDevs.setF {w : World} {base g n cap k : Nat} {ds : List DevD} {v : Value} {f : List (Int × Int)} (h : OwnDevs w base (.slice (some ⟨g, 0, none⟩) n cap) ds) (hn : n = ds.length) (hk : k < n) (hv : OwnSegs w base v f) :
    OwnDevs (w.setCell ⟨g, k * 4 + 2, none⟩ v) base (.slice (some ⟨g, 0, none⟩) n cap) (ds.set k (setF (ds.getD k DZ) f)) := by
  obtain ⟨gs, e, ho, hg⟩ := h
  have hlen : gs.length = ds.length := by rw [← e, List.length_map]
  have hgb : w.grownBy (w.setCell ⟨g, k * 4 + 2, none⟩ v) (some g) := gb_setg (gbOf (nwR w) _) _
  obtain ⟨x, hx⟩ : ∃ x, gs[k]? = some x := ⟨_, List.getElem?_eq_getElem (by omega)⟩
  have hxd : ds.getD k DZ = x.d := by rw [← e]; simp [List.getD, hx]
  refine ⟨gs.set k ⟨⟨x.d.id, x.d.size, f, x.d.late⟩, v, x.lv⟩, ?_, ?_, ?_⟩
  · rw [List.map_set, e, hxd]; rfl
  · rw [dflat_setF gs k x v f hx, List.length_set, hlen, ← hn]
    rw [hlen, ← hn] at ho
    exact (World.ownsRow.stored ho (k * 4 + 2) v).1
  · intro y hy
    rcases List.mem_or_eq_of_mem_set hy with h1 | h1
    · exact (hg y h1).grown ho hgb
    · subst h1
      exact ⟨own_other hv ho (by decide) hgb, own_other (hg x (List.mem_of_getElem? hx)).2 ho (by decide) hgb⟩
theorem OwnDevs.setL {w : World} {base g n cap k : Nat} {ds : List DevD} {v : Value} {l : List (Int × Int)} (h : OwnDevs w base (.slice (some ⟨g, 0, none⟩) n cap) ds) (hn : n = ds.length) (hk : k < n) (hv : OwnSegs w base v l) :
    OwnDevs (w.setCell ⟨g, k * 4 + 3, none⟩ v) base (.slice (some ⟨g, 0, none⟩) n cap) (ds.set k (setL' (ds.getD k DZ) l)) := by
  obtain ⟨gs, e, ho, hg⟩ := h
  have hlen : gs.length = ds.length := by rw [← e, List.length_map]
  have hgb : w.grownBy (w.setCell ⟨g, k * 4 + 3, none⟩ v) (some g) := gb_setg (gbOf (nwR w) _) _
  obtain ⟨x, hx⟩ : ∃ x, gs[k]? = some x := ⟨_, List.getElem?_eq_getElem (by omega)⟩
  have hxd : ds.getD k DZ = x.d := by rw [← e]; simp [List.getD, hx]
  refine ⟨gs.set k ⟨⟨x.d.id, x.d.size, x.d.free, l⟩, x.fv, v⟩, ?_, ?_, ?_⟩
  · rw [List.map_set, e, hxd]; rfl
  · rw [dflat_setL gs k x v l hx, List.length_set, hlen, ← hn]
    rw [hlen, ← hn] at ho
    exact (World.ownsRow.stored ho (k * 4 + 3) v).1
  · intro y hy
    rcases List.mem_or_eq_of_mem_set hy with h1 | h1
    · exact (hg y h1).grown ho hgb
    · subst h1
      exact ⟨own_other (hg x (List.mem_of_getElem? hx)).1 ho (by decide) hgb, own_other hv ho (by decide) hgb⟩

/- the state while a device is written to -/
structure StG (w : World) (g : Nat) (I : Nat → Prop) (m : Nat) (ob : Obj) (wr : World) : Prop where
  gr : w.grownBy wr (some g)
  ne : m ≠ g
  b0 : wr.heap[m]? = some ob
  bg : ∃ cs cs', w.heap[g]? = some (.cells cs 51 (0, 0)) ∧ wr.heap[g]? = some (.cells cs' 51 (0, 0)) ∧ cs'.size = cs.size ∧ ∀ o, ¬ I o → cs'[o]? = cs[o]?
theorem StG.below {w : World} {g : Nat} {I : Nat → Prop} {m : Nat} {ob : Obj} {wr w' : World} (h : StG w g I m ob wr) (hb : Below wr.heap.size wr w') : StG w g I m ob w' := by
  obtain ⟨cs, cs', h1, h2, h3, h4⟩ := h.bg
  exact ⟨h.gr.trans (gbOf hb _), h.ne, (hb.block _ (Array.getElem?_eq_some_iff.1 h.b0).1).trans h.b0, cs, cs', h1, (hb.block _ (Array.getElem?_eq_some_iff.1 h2).1).trans h2, h3, h4⟩
theorem StG.drew {w : World} {g : Nat} {I : Nat → Prop} {m : Nat} {ob : Obj} {wr : World} (h : StG w g I m ob wr) : StG w g I m ob wr.drew := h.below (Below.drew (nwR wr))
theorem StG.alloc {w : World} {g : Nat} {I : Nat → Prop} {m : Nat} {ob : Obj} {wr : World} (h : StG w g I m ob wr) (x : Obj) : StG w g I m ob (wr.alloc x) := h.below (nwA (nwR wr) _)
theorem StG.set {w : World} {g : Nat} {I : Nat → Prop} {m : Nat} {ob : Obj} {wr : World} (h : StG w g I m ob wr) (i : Nat) (hi : I i) (v : Value) : StG w g I m ob (wr.setCell ⟨g, i, none⟩ v) := by
  obtain ⟨cs, cs', h1, h2, h3, h4⟩ := h.bg
  refine ⟨gb_setg h.gr _, h.ne, (Below.heap_setCell _ _ _ _ (by show m ≠ g; exact h.ne)).trans h.b0, cs, cs'.setIfInBounds i v, h1, heap_setCell_same wr g i cs' 51 v h2, by simp [h3], fun o ho => ?_⟩
  rw [← h4 o ho]
  have : i ≠ o := fun e => ho (e ▸ hi)
  simp [this]
theorem StG.cell {w : World} {g : Nat} {I : Nat → Prop} {m : Nat} {ob : Obj} {wr : World} (h : StG w g I m ob wr) {o : Nat} (ho : ¬ I o) : wr.cell? ⟨g, o, none⟩ = w.cell? ⟨g, o, none⟩ := by
  obtain ⟨cs, cs', h1, h2, h3, h4⟩ := h.bg
  rw [cell_heap h1, cell_heap h2, h4 o ho]
theorem StG.some {w : World} {g : Nat} {I : Nat → Prop} {m : Nat} {ob : Obj} {wr : World} (h : StG w g I m ob wr) {i : Nat} {u : Value} (hu : w.cell? ⟨g, i, none⟩ = Option.some u) : ∃ u', wr.cell? ⟨g, i, none⟩ = Option.some u' := by
  obtain ⟨cs, cs', h1, h2, h3, h4⟩ := h.bg
  rw [cell_heap h1] at hu
  have := (Array.getElem?_eq_some_iff.1 hu).1
  exact ⟨cs'[i]'(by omega), by rw [cell_heap h2]; exact Array.getElem?_eq_getElem _⟩
theorem StG.frz {w : World} {g : Nat} {I : Nat → Prop} {m : Nat} {ob : Obj} {wr : World} (h : StG w g I m ob wr) (o : Nat) : wr.frozen? ⟨g, o, none⟩ = false := by
  obtain ⟨cs, cs', h1, h2, h3, h4⟩ := h.bg
  exact Lib.frozen_of_heap h2 o
theorem stG_start {w : World} {g : Nat} {I : Nat → Prop} {m : Nat} {ob : Obj} {cs : Array Value} (hm : m ≠ g) (hb : w.heap[m]? = some ob) (hc : w.heap[g]? = some (.cells cs 51 (0, 0))) : StG w g I m ob w := ⟨gbOf (nwR w) _, hm, hb, cs, cs, hc, hc, rfl, fun _ _ => rfl⟩
/-- a device of a list of one's own: its cells, and its segments -/
theorem OwnDevs.dev {w : World} {base g n cap k : Nat} {ds : List DevD} (h : OwnDevs w base (.slice (some ⟨g, 0, none⟩) n cap) ds) (hn : n = ds.length) (hk : k < n) :
    ∃ af cf al cl cs, w.heap[g]? = some (.cells cs 51 (0, 0)) ∧ base ≤ g ∧ w.cell? ⟨g, k * 4, none⟩ = some (.int .i64 (ds.getD k DZ).id) ∧ w.cell? ⟨g, k * 4 + 1, none⟩ = some (.int .i64 (ds.getD k DZ).size) ∧ w.cell? ⟨g, k * 4 + 2, none⟩ = some (.slice af (ds.getD k DZ).free.length cf) ∧ w.cell? ⟨g, k * 4 + 3, none⟩ = some (.slice al (ds.getD k DZ).late.length cl) ∧ ∀ w', w.grownBy w' (some g) → OwnSegs w' base (.slice af (ds.getD k DZ).free.length cf) (ds.getD k DZ).free ∧ OwnSegs w' base (.slice al (ds.getD k DZ).late.length cl) (ds.getD k DZ).late := by
  obtain ⟨gs, e, ho, hg⟩ := h
  have hlen : gs.length = ds.length := by rw [← e, List.length_map]
  obtain ⟨x, hx⟩ : ∃ x, gs[k]? = some x := ⟨_, List.getElem?_eq_getElem (by omega)⟩
  have hxd : ds.getD k DZ = x.d := by rw [← e]; simp [List.getD, hx]
  rw [hxd]
  obtain ⟨f0, f1, f2, f3⟩ := dflat_get gs k x hx
  have K : ∀ j u, (dflat gs)[j]? = some u → w.cell? ⟨g, j, none⟩ = some u := fun j u hj => by
    have := World.ownsRow.cells ho (g := g) rfl j u hj
    rwa [addr_add, Nat.zero_add] at this
  have hm := hg x (List.mem_of_getElem? hx)
  obtain ⟨af, cf, ef, _⟩ := hm.1.segV
  obtain ⟨al, cl, el, _⟩ := hm.2.segV
  obtain ⟨cs, hcs⟩ := own_tag ho g rfl
  have c2 := K _ _ f2
  have c3 := K _ _ f3
  rw [ef] at c2
  rw [el] at c3
  refine ⟨af, cf, al, cl, cs, hcs, (World.ownsRow.lt ho g rfl).1, K _ _ f0, K _ _ f1, c2, c3, fun w' hgr => ?_⟩
  rw [← ef, ← el]
  exact ⟨own_other hm.1 ho (by decide) hgr, own_other hm.2 ho (by decide) hgr⟩

end Go.Proofs.Ytheomnafmjmpdaa

/- A device that takes, gives, commits, by the program. -/
namespace Go.Proofs.Ytheomnafmjmpdaa
open Go.RowKit

def comD (d : DevD) : DevD := ⟨d.id, d.size, segsOf (fun k => memS d.free k || memS d.late k), []⟩
theorem jset_two {l m : List (Int × Int)} {a b : Option Addr} {c d : Nat} (hl : vOk l = true) (hm : vOk m = true) : jset [(a, c, l), (b, d, m)] = segsOf (fun k => memS l k || memS m k) ∧ allOk [(a, c, l), (b, d, m)] = true := by
  have h : allOk [(a, c, l), (b, d, m)] = true := by rw [allOk_two]; simp [hl, hm]
  refine ⟨?_, h⟩
  unfold jset
  rw [if_pos h]
  congr 1
  funext k
  rw [memAny_two]
/-- two lists joined, laid side by side -/
theorem join_two (af al : Option Addr) (cf cl : Nat) (l m : List (Int × Int)) (w : World) (hl : SegsAt w af l) (hm : SegsAt w al m) (h1 : l.length ≤ maxLen) (h2 : m.length ≤ maxLen) (hv : vOk l = true) (hx : vOk m = true) :
    Calls Try.prog 69 #[.slice (some ⟨w.heap.size, 0, none⟩) 2 2] (w.alloc (.cells #[.slice af l.length cf, .slice al m.length cl] 49)) fun e w' => (∃ v, e = .returned (.tuple #[v, .int .i64 0]) ∧ OwnSegs w' w.heap.size v (segsOf (fun k => memS l k || memS m k))) ∧ Below w.heap.size w w' := by
  refine (join_any (some ⟨w.heap.size, 0, none⟩) [(af, cf, l), (al, cl, m)] 2 _ (rows2 cf cl 49 hl h1 hm h2) (by simp [maxLen])).mono ?_
  rintro e w' ⟨v, rfl, ho, hb⟩
  obtain ⟨hj, ha⟩ := jset_two (a := af) (b := al) (c := cf) (d := cl) hv hx
  rw [hj] at ho
  refine ⟨⟨v, by rw [ha]; rfl, own_le ho (by simp)⟩, nwT (nwA (nwR w) _) hb⟩

set_option maxRecDepth 100000 in
set_option maxHeartbeats 4000000 in
theorem dcommit_any (base g n cap k : Nat) (ds : List DevD) (w : World) (hX : OwnDevs w base (.slice (some ⟨g, 0, none⟩) n cap) ds) (hn : n = ds.length) (hk : k < n) (hs : SmallD (ds.getD k DZ)) (hok : DevOk (ds.getD k DZ)) :
    Calls Try.prog 58 #[.agg #[.pointer (some ⟨g, k * 4, none⟩)]] w fun e w' => e = .returned (.tuple #[]) ∧ OwnDevs w' base (.slice (some ⟨g, 0, none⟩) n cap) (ds.set k (comD (ds.getD k DZ))) ∧ w.grownBy w' (some g) := by
  obtain ⟨W0, hW0⟩ : ∃ W0, W0 = w.alloc (.cells #[.pointer (some ⟨g, k * 4, none⟩)] 78) := ⟨_, rfl⟩
  have hb0 : Below w.heap.size w W0 := by rw [hW0]; exact nwA (nwR w) _
  have hx0 : W0.heap[w.heap.size]? = some (.cells #[.pointer (some ⟨g, k * 4, none⟩)] 78 (0, 0)) := by rw [hW0]; exact heap_alloc_new w _
  have HX0 : Hid (OwnDevs W0 base (.slice (some ⟨g, 0, none⟩) n cap) ds) := hX.below hb0
  have HB0 : Hid (Below w.heap.size w W0) := hb0
  obtain ⟨_, _, _, _, cs1, htag1, hbg, _, _, _, _, _⟩ := hX.dev hn hk
  have hgl : g < w.heap.size := (Array.getElem?_eq_some_iff.1 htag1).1
  obtain ⟨af, cf, al, cl, cs, htag, _, c0, c1, c2, c3, hseg⟩ := HX0.out.dev hn hk
  obtain ⟨d, hd⟩ : ∃ d, ds.getD k DZ = d := ⟨_, rfl⟩
  rw [hd] at c0 c1 c2 c3 hseg hs hok
  have HD : Hid (ds.getD k DZ = d) := hd
  have HSM : Hid (SmallD d) := hs
  have HOK : Hid (DevOk d) := hok
  have HSG : Hid (∀ w', W0.grownBy w' (some g) → OwnSegs w' base (.slice af d.free.length cf) d.free ∧ OwnSegs w' base (.slice al d.late.length cl) d.late) := hseg
  have hbw : base ≤ W0.heap.size := by have := hb0.size; omega
  have HN : Hid (n = ds.length ∧ k < n) := ⟨hn, hk⟩
  have hw0 : w.heap.size < W0.heap.size := (Array.getElem?_eq_some_iff.1 hx0).1
  clear hX hseg hs hok hd htag1 hb0
  obtain ⟨ob, hob⟩ : ∃ ob : Obj, ob = (.cells #[.pointer (some ⟨g, k * 4, none⟩)] 78 (0, 0)) := ⟨_, rfl⟩
  have hS : StG W0 g (fun o => o = k * 4 + 2) w.heap.size ob W0 := stG_start (by omega) (by rw [hob]; exact hx0) htag
  have x0 : ∀ w', StG W0 g (fun o => o = k * 4 + 2) w.heap.size ob w' → w'.cell? ⟨w.heap.size, 0, none⟩ = some (.pointer (some ⟨g, k * 4, none⟩)) := by rw [hob]; exact fun w' h => (one h.b0).1
  have z3 : ∀ w', StG W0 g (fun o => o = k * 4 + 2) w.heap.size ob w' → w'.cell? ⟨g, k * 4 + 3, none⟩ = some (.slice al d.late.length cl) := fun w' h => (h.cell (o := k * 4 + 3) (by omega)).trans c3
  have y2 : ∀ w', StG W0 g (fun o => o = k * 4 + 2) w.heap.size ob w' → ∃ u', w'.cell? ⟨g, k * 4 + 2, none⟩ = some u' := fun w' h => h.some c2
  have yf : ∀ w', StG W0 g (fun o => o = k * 4 + 2) w.heap.size ob w' → ∀ o, w'.frozen? ⟨g, o, none⟩ = false := fun w' h o => h.frz o
  have HJ : Hid (∀ w', W0.grownBy w' (some g) → Calls Try.prog 69 #[.slice (some ⟨w'.heap.size, 0, none⟩) 2 2] (w'.alloc (.cells #[.slice af d.free.length cf, .slice al d.late.length cl] 49)) fun e w'' => (∃ v, e = .returned (.tuple #[v, .int .i64 0]) ∧ OwnSegs w'' w'.heap.size v (segsOf (fun k => memS d.free k || memS d.late k))) ∧ Below w'.heap.size w' w'') := fun w' h => by
    obtain ⟨h1, h2⟩ := HSG.out w' h
    obtain ⟨_, _, e1, v1⟩ := h1.segV
    obtain ⟨_, _, e2, v2⟩ := h2.segV
    injection e1 with e1 _ _
    injection e2 with e2 _ _
    subst e1; subst e2
    exact join_two af al cf cl d.free d.late w' v1.1 v2.1 (len_max HSM.out.1) (len_max HSM.out.2) HOK.out.free HOK.out.late
  clear hx0 htag
  go_enter Try.func58, Try.ntmps58
  go_wp2_with fail
  rw [← hW0]
  clear hW0
  have c2d : W0.drew.cell? ⟨g, k * 4 + 2, none⟩ = some (.slice af d.free.length cf) := c2
  have HJ2 : Hid (Calls Try.prog 69 #[.slice (some ⟨W0.heap.size, 0, none⟩) 2 2] (W0.drew.alloc (.cells #[.slice af d.free.length cf, .slice al d.late.length cl] 49)) fun e w'' => (∃ v, e = .returned (.tuple #[v, .int .i64 0]) ∧ OwnSegs w'' W0.heap.size v (segsOf (fun k => memS d.free k || memS d.late k))) ∧ Below W0.heap.size W0 w'') := (HJ.out W0.drew (gbOf (Below.drew (nwR W0)) _)).mono fun e w'' h => ⟨h.1, nwT (Below.drew (nwR W0)) h.2⟩
  clear hob HJ
  have HSET : Hid (∀ w' v, StG W0 g (fun o => o = k * 4 + 2) w.heap.size ob w' → StG W0 g (fun o => o = k * 4 + 2) w.heap.size ob (w'.setCell ⟨g, k * 4 + 2, none⟩ v)) := fun w' v h => h.set _ rfl v
  refine wp_region_held_drew (S := fun w' => StG W0 g (fun o => o = k * 4 + 2) w.heap.size ob w') (by kernel_rfl) (by first | assumption | exact StG.drew (by assumption) | exact StG.below (by assumption) (by assumption) | exact StG.alloc (by assumption) _ | exact HSET.out _ _ (by assumption)) (fun hHeld => ?_)
  refine takeYes 0 (some 3) (v := ?_) rfl (by kernel_rfl) (by kernel_rfl) (by kernel_rfl) (by rfl) (fun _ _ _ h => h) (by rfl) ?_ (by assumption) ?_
  rotate_left
  · intro w hSw; (try dsimp only at hSw); go_simp; try with_reducible rfl
  try simp only [Act.put, List.setIfInBounds_toArray, List.set_cons_zero, List.set_cons_succ]
  refine takeYes 1 (some 4) (v := ?_) rfl (by kernel_rfl) (by kernel_rfl) (by kernel_rfl) (by rfl) (fun _ _ _ h => h) (by rfl) ?_ (by assumption) ?_
  rotate_left
  · intro w hSw; (try dsimp only at hSw); go_simp; try with_reducible rfl
  try simp only [Act.put, List.setIfInBounds_toArray, List.set_cons_zero, List.set_cons_succ]
  refine takeYes 2 (some 5) (v := ?_) rfl (by kernel_rfl) (by kernel_rfl) (by kernel_rfl) (by rfl) (fun _ _ _ h => h) (by rfl) ?_ (by assumption) ?_
  rotate_left
  · intro w hSw; (try dsimp only at hSw); go_simp; try with_reducible rfl
  try simp only [Act.put, List.setIfInBounds_toArray, List.set_cons_zero, List.set_cons_succ]
  refine takeYes 3 (some 6) (v := ?_) rfl (by kernel_rfl) (by kernel_rfl) (by kernel_rfl) (by rfl) (fun _ _ _ h => h) (by rfl) ?_ (by assumption) ?_
  rotate_left
  · intro w hSw; (try dsimp only at hSw); go_simp; try with_reducible rfl
  try simp only [Act.put, List.setIfInBounds_toArray, List.set_cons_zero, List.set_cons_succ]
  refine takeYes 4 (some 7) (v := ?_) rfl (by kernel_rfl) (by kernel_rfl) (by kernel_rfl) (by rfl) (fun _ _ _ h => h) (by rfl) ?_ (by assumption) ?_
  rotate_left
  · intro w hSw; (try dsimp only at hSw); go_simp; try with_reducible rfl
  try simp only [Act.put, List.setIfInBounds_toArray, List.set_cons_zero, List.set_cons_succ]
  refine takeYes 5 (some 8) (v := ?_) rfl (by kernel_rfl) (by kernel_rfl) (by kernel_rfl) (by rfl) (fun _ _ _ h => h) (by rfl) ?_ (by assumption) ?_
  rotate_left
  · intro w hSw; (try dsimp only at hSw); go_simp; try with_reducible rfl
  try simp only [Act.put, List.setIfInBounds_toArray, List.set_cons_zero, List.set_cons_succ]
  refine takeYes 7 (some 10) (v := ?_) rfl (by kernel_rfl) (by kernel_rfl) (by kernel_rfl) (by rfl) (fun _ _ _ h => h) (by rfl) ?_ (by assumption) ?_
  rotate_left
  · intro w hSw; (try dsimp only at hSw); go_simp; try with_reducible rfl
  try simp only [Act.put, List.setIfInBounds_toArray, List.set_cons_zero, List.set_cons_succ]
  refine takeYes 8 (some 11) (v := ?_) rfl (by kernel_rfl) (by kernel_rfl) (by kernel_rfl) (by rfl) (fun _ _ _ h => h) (by rfl) ?_ (by assumption) ?_
  rotate_left
  · intro w hSw; (try dsimp only at hSw); go_simp; try with_reducible rfl
  try simp only [Act.put, List.setIfInBounds_toArray, List.set_cons_zero, List.set_cons_succ]
  refine takeYes 9 (some 12) (v := ?_) rfl (by kernel_rfl) (by kernel_rfl) (by kernel_rfl) (by rfl) (fun _ _ _ h => h) (by rfl) ?_ (by assumption) ?_
  rotate_left
  · intro w hSw; (try dsimp only at hSw); go_simp; try with_reducible rfl
  try simp only [Act.put, List.setIfInBounds_toArray, List.set_cons_zero, List.set_cons_succ]
  refine takeYes 10 (some 13) (v := ?_) rfl (by kernel_rfl) (by kernel_rfl) (by kernel_rfl) (by rfl) (fun _ _ _ h => h) (by rfl) ?_ (by assumption) ?_
  rotate_left
  · intro w hSw; (try dsimp only at hSw); go_simp; try with_reducible rfl
  try simp only [Act.put, List.setIfInBounds_toArray, List.set_cons_zero, List.set_cons_succ]
  refine takeYes 11 (some 14) (v := ?_) rfl (by kernel_rfl) (by kernel_rfl) (by kernel_rfl) (by rfl) (fun _ _ _ h => h) (by rfl) ?_ (by assumption) ?_
  rotate_left
  · intro w hSw; (try dsimp only at hSw); go_simp; try with_reducible rfl
  try simp only [Act.put, List.setIfInBounds_toArray, List.set_cons_zero, List.set_cons_succ]
  refine wpAnyH_ready (rs := [6]) (by kernel_rfl) (by simp) ?_
  refine AllReadyH.cons rfl (fun K hK => ?_) AllReadyH.nil
  go_simp
  refine hK.out _ _ (by first | assumption | exact StG.drew (by assumption) | exact StG.below (by assumption) (by assumption) | exact StG.alloc (by assumption) _ | exact HSET.out _ _ (by assumption)) (fun hHeld => ?_)
  clear hK K
  try simp only [Act.put, List.setIfInBounds_toArray, List.set_cons_zero, List.set_cons_succ]
  refine wpAnyH_ready (rs := [12]) (by kernel_rfl) (by simp) ?_
  refine AllReadyH.cons rfl (fun K hK => ?_) AllReadyH.nil
  go_simp
  refine hK.out _ _ (by first | assumption | exact StG.drew (by assumption) | exact StG.below (by assumption) (by assumption) | exact StG.alloc (by assumption) _ | exact HSET.out _ _ (by assumption)) (fun hHeld => ?_)
  clear hK K
  try simp only [Act.put, List.setIfInBounds_toArray, List.set_cons_zero, List.set_cons_succ]
  refine wpAnyH_ready (rs := [13]) (by kernel_rfl) (by simp) ?_
  refine AllReadyH.cons rfl (fun K hK => ?_) AllReadyH.nil
  go_simp
  (go_at_call 69; refine HJ2.out.mono ?_; rintro e wC ⟨⟨v1, rfl, ho1⟩, hbC⟩; obtain ⟨a1, c1', rfl, _⟩ := ho1.segV; have hSD : StG W0 g (fun o => o = k * 4 + 2) w.heap.size ob wC := StG.below hS hbC; obtain ⟨yu2, yk2⟩ := y2 wC hSD; have ykf := yf wC hSD)
  refine hK.out _ _ (by first | assumption | exact StG.drew (by assumption) | exact StG.below (by assumption) (by assumption) | exact StG.alloc (by assumption) _ | exact HSET.out _ _ (by assumption)) (fun hHeld => ?_)
  clear hK K
  try simp only [Act.put, List.setIfInBounds_toArray, List.set_cons_zero, List.set_cons_succ]
  refine takeYes 14 (some 2) (v := ?_) rfl (by kernel_rfl) (by kernel_rfl) (by kernel_rfl) (by rfl) (fun _ _ _ h => h) (by rfl) ?_ (by assumption) ?_
  rotate_left
  · intro w hSw; (try dsimp only at hSw); go_simp; try with_reducible rfl
  try simp only [Act.put, List.setIfInBounds_toArray, List.set_cons_zero, List.set_cons_succ]
  refine takeYes 15 (some 17) (v := ?_) rfl (by kernel_rfl) (by kernel_rfl) (by kernel_rfl) (by rfl) (fun _ _ _ h => h) (by rfl) ?_ (by assumption) ?_
  rotate_left
  · intro w hSw; (try dsimp only at hSw); go_simp; try with_reducible rfl
  try simp only [Act.put, List.setIfInBounds_toArray, List.set_cons_zero, List.set_cons_succ]
  refine takeYes 16 (some 18) (v := ?_) rfl (by kernel_rfl) (by kernel_rfl) (by kernel_rfl) (by rfl) (fun _ _ _ h => h) (by rfl) ?_ (by assumption) ?_
  rotate_left
  · intro w hSw; (try dsimp only at hSw); go_simp; try with_reducible rfl
  try simp only [Act.put, List.setIfInBounds_toArray, List.set_cons_zero, List.set_cons_succ]
  refine takeYes 17 (some 19) (v := ?_) rfl (by kernel_rfl) (by kernel_rfl) (by kernel_rfl) (by rfl) (fun _ _ _ h => h) (by rfl) ?_ (by assumption) ?_
  rotate_left
  · intro w hSw; (try dsimp only at hSw); go_simp; try with_reducible rfl
  try simp only [Act.put, List.setIfInBounds_toArray, List.set_cons_zero, List.set_cons_succ]
  refine takeYes 18 (some 20) (v := ?_) rfl (by kernel_rfl) (by kernel_rfl) (by kernel_rfl) (by rfl) (fun _ _ _ h => h) (by rfl) ?_ (by assumption) ?_
  rotate_left
  · intro w hSw; (try dsimp only at hSw); go_simp; try with_reducible rfl
  try simp only [Act.put, List.setIfInBounds_toArray, List.set_cons_zero, List.set_cons_succ]
  refine wpAnyH_ready (rs := [19]) (by kernel_rfl) (by simp) ?_
  refine AllReadyH.cons rfl (fun K hK => ?_) AllReadyH.nil
  go_simp
  refine hK.out _ _ (by first | assumption | exact StG.drew (by assumption) | exact StG.below (by assumption) (by assumption) | exact StG.alloc (by assumption) _ | exact HSET.out _ _ (by assumption)) (fun hHeld => ?_)
  clear hK K
  try simp only [Act.put, List.setIfInBounds_toArray, List.set_cons_zero, List.set_cons_succ]
  refine wpAnyH_done (by kernel_rfl) ?_ _
  have HOC : Hid (OwnDevs wC base (.slice (some ⟨g, 0, none⟩) n cap) ds ∧ Below W0.heap.size W0 wC) := ⟨HX0.out.below hbC, hbC⟩
  have HOV : Hid (OwnSegs wC base (.slice a1 (segsOf fun k => memS d.free k || memS d.late k).length c1') (segsOf fun k => memS d.free k || memS d.late k)) := own_le ho1 hbw
  have HFIN : Hid (∀ v1, OwnSegs wC base v1 (segsOf fun k => memS d.free k || memS d.late k) → OwnDevs ((wC.setCell ⟨g, k * 4 + 2, none⟩ v1).setCell ⟨g, k * 4 + 3, none⟩ (.slice none 0 0)) base (.slice (some ⟨g, 0, none⟩) n cap) (ds.set k (comD (ds.getD k DZ)))) := fun v1 hv => by
    have h1 := HOC.out.1.setF HN.out.1 HN.out.2 hv
    have h2 := h1.setL (l := []) (v := .slice none 0 0) (by rw [List.length_set]; exact HN.out.1) HN.out.2 (World.ownsRow_nil _ _ _ _)
    have hk2 : k < ds.length := by have := HN.out; omega
    have e : (ds.set k (setF (ds.getD k DZ) (segsOf fun k => memS d.free k || memS d.late k))).set k (setL' ((ds.set k (setF (ds.getD k DZ) (segsOf fun k => memS d.free k || memS d.late k))).getD k DZ) []) = ds.set k (comD (ds.getD k DZ)) := by
      rw [List.set_set]
      congr 1
      have e2 : (ds.set k (setF (ds.getD k DZ) (segsOf fun k => memS d.free k || memS d.late k))).getD k DZ = setF (ds.getD k DZ) (segsOf fun k => memS d.free k || memS d.late k) := by simp [List.getD, hk2]
      rw [e2, HD.out]; rfl
    rw [e] at h2
    exact h2
  generalize (segsOf fun k => memS d.free k || memS d.late k) = nl at *
  obtain ⟨WE, hWE⟩ : ∃ WE, WE = wC.setCell ⟨g, k * 4 + 2, none⟩ (.slice a1 nl.length c1') := ⟨_, rfl⟩
  have hSE : StG W0 g (fun o => o = k * 4 + 2) w.heap.size ob WE := by rw [hWE]; exact HSET.out _ _ hSD
  have x0E := x0 _ hSE
  have z3E := z3 _ hSE
  have yfE := yf _ hSE
  have HF2 : Hid (OwnDevs (WE.setCell ⟨g, k * 4 + 3, none⟩ (.slice none 0 0)) base (.slice (some ⟨g, 0, none⟩) n cap) (ds.set k (comD (ds.getD k DZ))) ∧ w.grownBy (WE.setCell ⟨g, k * 4 + 3, none⟩ (.slice none 0 0)) (some g)) := by
    rw [hWE]
    exact ⟨HFIN.out _ HOV.out, (gbOf (nwT HB0.out HOC.out.2) _).trans (gb2 wC g _ _ _ _)⟩
  rw [← hWE]
  clear hWE x0 z3 y2 yf yk2 ykf c2d HSET HFIN HOV ho1 hbC
  go_wp2_with fail
  go_end0
  exact ⟨rfl, HF2.out.1, HF2.out.2⟩

end Go.Proofs.Ytheomnafmjmpdaa
