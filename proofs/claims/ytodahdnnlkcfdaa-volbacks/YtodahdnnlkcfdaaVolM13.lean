/- Laid together: Putv, Spoil, Dropm, Acts. -/
import Derived.Test.YtodahdnnlkcfdaaVolM12
/- A volume put in another's place, by the program. -/
namespace Go.Proofs.Ytodahdnnlkcfdaa
open Go.RowKit

/-- a row where one volume's files are someone else's -/
def MixedW (w : World) (base g n cap : Nat) (ds : List VolD) : Prop := ∃ gs : List VV, gs.map VV.d = ds ∧ RowW w base g n cap gs ∧ ∀ x ∈ gs, ∃ a c, x.fv = .slice a x.d.files.length c ∧ FilesAt w a x.d.files ∧ CapOk a c x.d.files.length
theorem MixedW.at {w : World} {base g cap : Nat} {ds : List VolD} (h : MixedW w base g ds.length cap ds) : VolsAt w (some ⟨g, 0, none⟩) ds := by
  obtain ⟨gs, rfl, hr, ha⟩ := h
  refine .inr ⟨g, 0, rfl, fun i hi => ?_⟩
  rw [List.length_map] at hi
  obtain ⟨c0, c1, c2, c3, c4⟩ := hr.cellAt (List.getElem?_eq_getElem hi)
  obtain ⟨a, c, e, hf, hc⟩ := ha gs[i] (List.getElem_mem hi)
  have hgd : (gs.map VV.d).getD i VZ = gs[i].d := by simp [List.getD, hi]
  rw [hgd, Nat.zero_add]
  rw [e] at c3
  exact ⟨a, c, ⟨c0, c1, c2, c3, c4⟩, hf, hc⟩
theorem OwnVols.put {w w0 wU : World} {base g cap k : Nat} {ds : List VolD} {d : VolD} {af : Option Addr} {cf : Nat} (hX : OwnVols w base (.slice (some ⟨g, 0, none⟩) ds.length cap) ds) (hk : k < ds.length) (hb : Below w.heap.size w wU) (hw0 : base = w0.heap.size) (hb0 : Below base w0 wU) (hf : FilesAt w0 af d.files) (hc : CapOk af cf d.files.length) :
    MixedW (((((wU.setCell ⟨g, k * 5, none⟩ (.int .i64 d.id)).setCell ⟨g, k * 5 + 1, none⟩ (.int .i64 d.fr)).setCell ⟨g, k * 5 + 2, none⟩ (.bool d.snap)).setCell ⟨g, k * 5 + 3, none⟩ (.slice af d.files.length cf)).setCell ⟨g, k * 5 + 4, none⟩ (.int .i64 d.next)) base g ds.length cap (ds.set k d) ∧
    Below base w0 (((((wU.setCell ⟨g, k * 5, none⟩ (.int .i64 d.id)).setCell ⟨g, k * 5 + 1, none⟩ (.int .i64 d.fr)).setCell ⟨g, k * 5 + 2, none⟩ (.bool d.snap)).setCell ⟨g, k * 5 + 3, none⟩ (.slice af d.files.length cf)).setCell ⟨g, k * 5 + 4, none⟩ (.int .i64 d.next)) ∧
    wU.grownBy (((((wU.setCell ⟨g, k * 5, none⟩ (.int .i64 d.id)).setCell ⟨g, k * 5 + 1, none⟩ (.int .i64 d.fr)).setCell ⟨g, k * 5 + 2, none⟩ (.bool d.snap)).setCell ⟨g, k * 5 + 3, none⟩ (.slice af d.files.length cf)).setCell ⟨g, k * 5 + 4, none⟩ (.int .i64 d.next)) (some g) := by
  obtain ⟨gs, hd, hrow, hall⟩ := hX
  have hlen : gs.length = ds.length := by rw [← hd, List.length_map]
  rw [hlen] at hrow
  have hrU := own_below hrow hb
  have hbg := (World.ownsRow.lt hrow g rfl).1
  have hg1 : wU.grownBy (((((wU.setCell ⟨g, k * 5, none⟩ (.int .i64 d.id)).setCell ⟨g, k * 5 + 1, none⟩ (.int .i64 d.fr)).setCell ⟨g, k * 5 + 2, none⟩ (.bool d.snap)).setCell ⟨g, k * 5 + 3, none⟩ (.slice af d.files.length cf)).setCell ⟨g, k * 5 + 4, none⟩ (.int .i64 d.next)) (some g) := gb_setg (gb_setg (gb_setg (gb_setg (gb_setg (gbOf (nwR wU) _) _) _) _) _) _
  have hbl : Below base w0 (((((wU.setCell ⟨g, k * 5, none⟩ (.int .i64 d.id)).setCell ⟨g, k * 5 + 1, none⟩ (.int .i64 d.fr)).setCell ⟨g, k * 5 + 2, none⟩ (.bool d.snap)).setCell ⟨g, k * 5 + 3, none⟩ (.slice af d.files.length cf)).setCell ⟨g, k * 5 + 4, none⟩ (.int .i64 d.next)) := ((((hb0.setCell (p := ⟨g, k * 5, none⟩) hbg _).setCell (p := ⟨g, k * 5 + 1, none⟩) hbg _).setCell (p := ⟨g, k * 5 + 2, none⟩) hbg _).setCell (p := ⟨g, k * 5 + 3, none⟩) hbg _).setCell (p := ⟨g, k * 5 + 4, none⟩) hbg _
  have hset := RowW.setAt (w := wU) (base := base) (g := g) (n := ds.length) (cap := cap) (gs := gs) (i := k) hrU ⟨d, .slice af d.files.length cf⟩ (by omega)
  refine ⟨⟨gs.set k ⟨d, .slice af d.files.length cf⟩, by rw [List.map_set, hd], hset, fun x hx => ?_⟩, hbl, hg1⟩
  rcases List.mem_or_eq_of_mem_set hx with h | h
  · obtain ⟨a, c, e, h1, h2⟩ := ((hall x h).grown hrow ((gbOf hb _).trans hg1)).at
    exact ⟨a, c, e, h1, h2⟩
  · subst h
    exact ⟨af, cf, rfl, hf.below (by rw [← hw0]; exact hbl), hc⟩

def PutR (ds : List VolD) (next : Int) (d : VolD) (er : Int) (dd : List VolD) : Prop :=
  (¬ VolsOk ds next ∧ er = 1 ∧ dd = []) ∨ (VolsOk ds next ∧ atV ds d.id = none ∧ er = 3 ∧ dd = []) ∨
  ∃ k, VolsOk ds next ∧ atV ds d.id = some k ∧ ((VolsOk (ds.set k d) next ∧ er = 0 ∧ dd = ds.set k d) ∨ (¬ VolsOk (ds.set k d) next ∧ er = 1 ∧ dd = []))
def PutPost (ds : List VolD) (next : Int) (d : VolD) (base : Nat) (e : Ending) (w' : World) : Prop :=
  ∃ u er dd, e = .returned (.tuple #[u, .int .i64 er]) ∧ OwnVols w' base u dd ∧ PutR ds next d er dd

set_option maxRecDepth 100000 in
set_option maxHeartbeats 4000000 in
theorem putp_any (a : Option Addr) (ds : List VolD) (ca : Nat) (next : Int) (v : Value) (d : VolD) (w : World) (hv : VolsAt w a ds) (hs : SmallW ds) (hd : VolVal w v d) (hsd : SmallV d) :
    Calls Try.prog 31 #[.slice a ds.length ca, .int .i64 next, v] w fun e w' => PutPost ds next d w.heap.size e w' ∧ Below w.heap.size w w' := by
  obtain ⟨af, cf, rfl, hfa, hck⟩ := hd
  obtain ⟨id, fr, snap, fs, nx⟩ := d
  simp only at hfa hck ⊢
  have HS : Hid (SmallW ds) := hs
  have HSD : Hid (SmallV ⟨id, fr, snap, fs, nx⟩) := hsd
  have HFA : Hid (FilesAt w af fs) := hfa
  have HCK : Hid (CapOk af cf fs.length) := hck
  obtain ⟨W0, hW0⟩ : ∃ W0, W0 = w.alloc (.cells #[.int .i64 id, .int .i64 fr, .bool snap, .slice af fs.length cf, .int .i64 nx] 32) := ⟨_, rfl⟩
  have HB0 : Hid (Below w.heap.size w W0) := by rw [hW0]; exact nwA (nwR w) _
  have HX0 : Hid (W0.heap[w.heap.size]? = some (.cells #[.int .i64 id, .int .i64 fr, .bool snap, .slice af fs.length cf, .int .i64 nx] 32 (0, 0))) := by rw [hW0]; exact heap_alloc_new w _
  have HV : Hid (VolsAt W0 a ds) := hv.below HB0.out
  clear hs hv hfa hck hsd
  go_enter Try.func31, Try.ntmps31
  go_wp2_with fail
  rw [← hW0]
  clear hW0
  refine (open_any a ds ca next id W0 HV.out HS.out).mono ?_
  rintro e w1 ⟨ho, hb1⟩
  have HB1 : Hid (Below w.heap.size w w1) := nwT HB0.out hb1
  rcases ho with ⟨hno, rfl⟩ | ⟨hok, hat, rfl⟩ | ⟨k, S, g, cap, hok, hat, rfl, hsh⟩
  · have HQ : Hid (PutPost ds next ⟨id, fr, snap, fs, nx⟩ w.heap.size (.returned (.tuple #[.slice none 0 0, .int .i64 1])) (w1.alloc (.cells #[.pointer none] 67))) := ⟨_, 1, [], rfl, ownVs_nil _ _, .inl ⟨hno, rfl, rfl⟩⟩
    clear hno
    go_wp2_with fail
    go_ret2
    exact ⟨HQ.out, nwA HB1.out _⟩
  · have HQ : Hid (PutPost ds next ⟨id, fr, snap, fs, nx⟩ w.heap.size (.returned (.tuple #[.slice none 0 0, .int .i64 3])) (w1.alloc (.cells #[.pointer none] 67))) := ⟨_, 3, [], rfl, ownVs_nil _ _, .inr (.inl ⟨hok, hat, rfl, rfl⟩)⟩
    clear hok hat
    go_wp2_with fail
    go_ret2
    exact ⟨HQ.out, nwA HB1.out _⟩
  · have hkl := atV_lt hat
    have hl4 := hok.1.1
    have HQ1 : Hid (∀ w', ¬ VolsOk (ds.set k ⟨id, fr, snap, fs, nx⟩) next → PutPost ds next ⟨id, fr, snap, fs, nx⟩ w.heap.size (.returned (.tuple #[.slice none 0 0, .int .i64 1])) w') := fun w' h => ⟨_, 1, [], rfl, ownVs_nil _ _, .inr (.inr ⟨k, hok, hat, .inr ⟨h, rfl, rfl⟩⟩)⟩
    have HQ2 : Hid (∀ w' u, OwnVols w' w.heap.size u (ds.set k ⟨id, fr, snap, fs, nx⟩) → VolsOk (ds.set k ⟨id, fr, snap, fs, nx⟩) next → PutPost ds next ⟨id, fr, snap, fs, nx⟩ w.heap.size (.returned (.tuple #[u, .int .i64 0])) w') := fun w' u h h2 => ⟨_, 0, _, rfl, h, .inr (.inr ⟨k, hok, hat, .inl ⟨h2, rfl, rfl⟩⟩)⟩
    obtain ⟨W2, hW2⟩ : ∃ W2, W2 = w1.alloc (.cells #[.pointer (some ⟨g, k * 5, none⟩)] 67) := ⟨_, rfl⟩
    have HBA : Hid (Below w1.heap.size w1 W2) := by rw [hW2]; exact nwA (nwR w1) _
    have HB2 : Hid (Below w.heap.size w W2) := nwT HB1.out HBA.out
    have HB02 : Hid (Below W0.heap.size W0 W2) := nwT hb1 HBA.out
    have hle := HB0.out.size
    have HSA : Hid (ShelfAt W2 w.heap.size S g cap ds next) := by
      have h := hsh.below HBA.out
      exact ⟨Nat.le_trans hle h.le, h.hp, h.own.le hle⟩
    have HXA : Hid (W2.heap[w1.heap.size]? = some (.cells #[.pointer (some ⟨g, k * 5, none⟩)] 67 (0, 0))) := by rw [hW2]; exact heap_alloc_new w1 _
    have HXB : Hid (W2.heap[w.heap.size]? = some (.cells #[.int .i64 id, .int .i64 fr, .bool snap, .slice af fs.length cf, .int .i64 nx] 32 (0, 0))) := (HB02.out.block _ (Array.getElem?_eq_some_iff.1 HX0.out).1).trans HX0.out
    have HSG : Hid (S ≠ g) := by
      obtain ⟨gs, _, hrow, _⟩ := HSA.out.own
      obtain ⟨cs, h1⟩ := own_tag hrow g rfl
      have h2 := HSA.out.hp
      exact fun e => by rw [e, h1] at h2; simp at h2
    have HPU := OwnVols.put (w := W2) (w0 := w) (wU := W2) (d := ⟨id, fr, snap, fs, nx⟩) (af := af) (cf := cf) (k := k) HSA.out.own hkl (nwR W2) rfl HB2.out HFA.out HCK.out
    obtain ⟨hmx, hbm, hgm⟩ := HPU
    simp only at hmx hbm hgm
    have HMX : Hid (MixedW (((((W2.setCell ⟨g, k * 5, none⟩ (.int .i64 id)).setCell ⟨g, k * 5 + 1, none⟩ (.int .i64 fr)).setCell ⟨g, k * 5 + 2, none⟩ (.bool snap)).setCell ⟨g, k * 5 + 3, none⟩ (.slice af fs.length cf)).setCell ⟨g, k * 5 + 4, none⟩ (.int .i64 nx)) w.heap.size g ds.length cap (ds.set k ⟨id, fr, snap, fs, nx⟩)) := hmx
    have HBM : Hid (Below w.heap.size w (((((W2.setCell ⟨g, k * 5, none⟩ (.int .i64 id)).setCell ⟨g, k * 5 + 1, none⟩ (.int .i64 fr)).setCell ⟨g, k * 5 + 2, none⟩ (.bool snap)).setCell ⟨g, k * 5 + 3, none⟩ (.slice af fs.length cf)).setCell ⟨g, k * 5 + 4, none⟩ (.int .i64 nx))) := hbm
    have HSP : Hid ((((((W2.setCell ⟨g, k * 5, none⟩ (.int .i64 id)).setCell ⟨g, k * 5 + 1, none⟩ (.int .i64 fr)).setCell ⟨g, k * 5 + 2, none⟩ (.bool snap)).setCell ⟨g, k * 5 + 3, none⟩ (.slice af fs.length cf)).setCell ⟨g, k * 5 + 4, none⟩ (.int .i64 nx)).heap[S]? = some (.cells #[.slice (some ⟨g, 0, none⟩) ds.length cap, .int .i64 next] 74 (0, 0))) := (hgm.block _ (Array.getElem?_eq_some_iff.1 HSA.out.hp).1 (by simpa using HSG.out)).trans HSA.out.hp
    have HSS : Hid (SmallW (ds.set k ⟨id, fr, snap, fs, nx⟩)) := ⟨by rw [List.length_set]; exact HS.out.1, fun x hx => by
      rcases List.mem_or_eq_of_mem_set hx with h | h
      · exact HS.out.2 x h
      · subst h; exact HSD.out⟩
    have HLN : Hid ((ds.set k ⟨id, fr, snap, fs, nx⟩).length = ds.length) := List.length_set
    have hva : VolsAt W2 (some ⟨g, 0, none⟩) ds := by
      obtain ⟨a', c', e, h, _⟩ := HSA.out.own.at; injection e with e1 _ _; rw [e1]; exact h
    obtain ⟨_, _, e, hvi⟩ := hva.vol hkl
    injection e with e
    injection e with e1 e2
    subst e1; subst e2
    rw [Nat.zero_add] at hvi
    obtain ⟨_, _, ⟨c0, c1, c2, c3, c4⟩, _⟩ := hvi
    have hgf : ∀ o, W2.frozen? ⟨g, o, none⟩ = false := by
      obtain ⟨gs, _, hrow, _⟩ := HSA.out.own
      obtain ⟨cs, h1⟩ := own_tag hrow g rfl
      exact fun o => Lib.frozen_of_heap h1 o
    obtain ⟨v0, v1, v2, v3, v4, _⟩ := five HXB.out
    have hx0 := cell_of_blk HXA.out
    clear hok hat hsh hva hmx hbm hgm hb1 hle
    go_upto_region 4 with fail
    rw [← hW2]
    generalize w1.heap.size = P at *
    clear hW2 HBA
    go_wp2_with fail
    have hvm := vmayBe_any S (some ⟨g, 0, none⟩) (ds.set k ⟨id, fr, snap, fs, nx⟩) cap next (((((W2.setCell ⟨g, k * 5, none⟩ (.int .i64 id)).setCell ⟨g, k * 5 + 1, none⟩ (.int .i64 fr)).setCell ⟨g, k * 5 + 2, none⟩ (.bool snap)).setCell ⟨g, k * 5 + 3, none⟩ (.slice af fs.length cf)).setCell ⟨g, k * 5 + 4, none⟩ (.int .i64 nx)) (by rw [HLN.out]; exact HSP.out) (MixedW.at (by rw [HLN.out]; exact HMX.out)) HSS.out
    refine hvm.mono ?_
    rintro e w3 ⟨⟨b, rfl, hbok⟩, hb3⟩
    have HB3 : Hid (Below w.heap.size w w3) := nwT HBM.out hb3
    have HS3 : Hid (w3.heap[S]? = some (.cells #[.slice (some ⟨g, 0, none⟩) ds.length cap, .int .i64 next] 74 (0, 0))) := (hb3.block _ (Array.getElem?_eq_some_iff.1 HSP.out).1).trans HSP.out
    have hva : VolsAt (((((W2.setCell ⟨g, k * 5, none⟩ (.int .i64 id)).setCell ⟨g, k * 5 + 1, none⟩ (.int .i64 fr)).setCell ⟨g, k * 5 + 2, none⟩ (.bool snap)).setCell ⟨g, k * 5 + 3, none⟩ (.slice af fs.length cf)).setCell ⟨g, k * 5 + 4, none⟩ (.int .i64 nx)) (some ⟨g, 0, none⟩) (ds.set k ⟨id, fr, snap, fs, nx⟩) := MixedW.at (by rw [HLN.out]; exact HMX.out)
    have HV3 : Hid (VolsAt w3 (some ⟨g, 0, none⟩) (ds.set k ⟨id, fr, snap, fs, nx⟩)) := hva.below hb3
    have HBO : Hid (b = true ↔ VolsOk (ds.set k ⟨id, fr, snap, fs, nx⟩) next) := hbok
    clear hvm hva hb3 hbok HMX HBM HSP HXA HXB HSA c0 c1 c2 c3 c4 v0 v1 v2 v3 v4 hx0 hgf
    cases b
    case false =>
      have HQ := HQ1.out w3 (fun h => by have := HBO.out.2 h; cases this)
      have HQH : Hid (PutPost ds next ⟨id, fr, snap, fs, nx⟩ w.heap.size (.returned (.tuple #[.slice none 0 0, .int .i64 1])) w3) := HQ
      clear HQ HQ1 HQ2
      go_wp2_with fail
      go_ret2
      exact ⟨HQH.out, HB3.out⟩
    case true =>
      have hok2 : VolsOk (ds.set k ⟨id, fr, snap, fs, nx⟩) next := HBO.out.1 rfl
      have HCO : Hid (Calls Try.prog 52 #[.slice (some ⟨g, 0, none⟩) ds.length cap] w3 fun e w' => (∃ v, e = .returned v ∧ OwnVols w' w3.heap.size v (ds.set k ⟨id, fr, snap, fs, nx⟩)) ∧ Below w3.heap.size w3 w') := by
        have h := copies_any (some ⟨g, 0, none⟩) (ds.set k ⟨id, fr, snap, fs, nx⟩) cap w3 HV3.out HSS.out hok2.pos
        rw [HLN.out] at h
        exact h
      obtain ⟨s0, s1, _⟩ := two_cells HS3.out
      have HQ3 : Hid (∀ w' u, OwnVols w' w.heap.size u (ds.set k ⟨id, fr, snap, fs, nx⟩) → PutPost ds next ⟨id, fr, snap, fs, nx⟩ w.heap.size (.returned (.tuple #[u, .int .i64 0])) w') := fun w' u h => HQ2.out w' u h hok2
      clear hok2 HQ1 HQ2
      go_wp2_with fail
      refine HCO.out.mono ?_
      rintro e w4 ⟨⟨u, rfl, hu⟩, hb4⟩
      have HQ := HQ3.out w4 u (hu.le HB3.out.size)
      have HQH : Hid (PutPost ds next ⟨id, fr, snap, fs, nx⟩ w.heap.size (.returned (.tuple #[u, .int .i64 0])) w4) := HQ
      have HB4 : Hid (Below w.heap.size w w4) := nwT HB3.out hb4
      clear HQ hu hb4
      go_wp2_with fail
      go_ret2
      exact ⟨HQH.out, HB4.out⟩

end Go.Proofs.Ytodahdnnlkcfdaa

/- An answer written over. -/
namespace Go.Proofs.Ytodahdnnlkcfdaa
open Go.RowKit

/-- a row of one's own, of any content -/
def RowX (w : World) (base top : Nat) (e : TypeId) (size : Nat) (v : Value) (n : Nat) : Prop :=
  (v = .slice none 0 0 ∧ n = 0) ∨ ∃ g cap cur, v = .slice (some ⟨g, 0, none⟩) n cap ∧ (base ≤ g ∧ g < top) ∧ w.heap[g]? = some (.cells cur e (0, 0)) ∧ n * size ≤ cur.size
theorem RowX.of_own {w : World} {base : Nat} {e : TypeId} {size : Nat} {v : Value} {n : Nat} {xs : List Value} (h : w.ownsRow base e size v n xs) : RowX w base w.heap.size e size v n := by
  rcases h.2 with h1 | ⟨g, cap, cur, hv, hb, hh, hnc, _, hcs, _⟩
  · exact .inl h1
  · exact .inr ⟨g, cap, cur, hv, ⟨hb, (Array.getElem?_eq_some_iff.1 hh).1⟩, hh, by rw [hcs]; exact Nat.mul_le_mul_right _ hnc⟩
theorem RowX.setCell {w : World} {base top : Nat} {e : TypeId} {size : Nat} {v : Value} {n : Nat} (h : RowX w base top e size v n) (g j : Nat) (u : Value) : RowX (w.setCell ⟨g, j, none⟩ u) base top e size v n := by
  rcases h with h | ⟨g', cap, cur, hv, hb, hh, hc⟩
  · exact .inl h
  · by_cases hg : g' = g
    · subst hg
      exact .inr ⟨g', cap, cur.setIfInBounds j u, hv, hb, heap_setCell_same w g' j cur e u hh, by simpa using hc⟩
    · exact .inr ⟨g', cap, cur, hv, hb, by rw [heap_setCell_other w ⟨g, j, none⟩ g' u hg]; exact hh, hc⟩
theorem RowX.below {w w' : World} {base top : Nat} {e : TypeId} {size : Nat} {v : Value} {n : Nat} (h : RowX w base top e size v n) (hb : Below w.heap.size w w') : RowX w' base top e size v n := by
  rcases h with h | ⟨g', cap, cur, hv, hb', hh, hc⟩
  · exact .inl h
  · exact .inr ⟨g', cap, cur, hv, hb', (hb.block _ (Array.getElem?_eq_some_iff.1 hh).1).trans hh, hc⟩
theorem RowX.lit {w : World} {base top : Nat} {e : TypeId} {size : Nat} {v : Value} {n : Nat} (h : RowX w base top e size v n) : ∃ a cap, v = .slice a n cap ∧ RowX w base top e size (.slice a n cap) n := by
  rcases id h with ⟨rfl, rfl⟩ | ⟨g', cap, cur, rfl, _⟩
  · exact ⟨none, 0, rfl, h⟩
  · exact ⟨_, _, rfl, h⟩
theorem RowX.cell {w : World} {base top : Nat} {e : TypeId} {size : Nat} {a : Option Addr} {n cap : Nat} (h : RowX w base top e size (.slice a n cap) n) (hn : 0 < n) :
    ∃ g cur, a = some ⟨g, 0, none⟩ ∧ (base ≤ g ∧ g < top) ∧ w.heap[g]? = some (.cells cur e (0, 0)) ∧ (∀ i, i < n * size → ∃ u, w.cell? ⟨g, i, none⟩ = some u) ∧ ∀ i, w.frozen? ⟨g, i, none⟩ = false := by
  rcases h with ⟨_, h⟩ | ⟨g', cap', cur, hv, hb', hh, hc⟩
  · omega
  · injection hv with h1 h2 h3
    refine ⟨g', cur, h1, hb', hh, fun i hi => ?_, fun i => Lib.frozen_of_heap hh i⟩
    exact ⟨cur[i]'(by omega), by rw [Lib.cell_of_heap hh]; exact Array.getElem?_eq_getElem (by omega)⟩
/-- what writing into rows of one type leaves -/
structure Wk (T : TypeId) (base top : Nat) (w w' : World) : Prop where
  below : Below base w w'
  rows : ∀ (e : TypeId) (size : Nat) (v : Value) (n : Nat), RowX w base top e size v n → RowX w' base top e size v n
  other : ∀ (k : Nat) (cur : Array Value) (t : TypeId) (fz : Nat × Nat), w.heap[k]? = some (Obj.cells cur t fz) → t ≠ T → w'.heap[k]? = some (Obj.cells cur t fz)
  out : ∀ k : Nat, top ≤ k → k < w.heap.size → w'.heap[k]? = w.heap[k]?
theorem Wk.refl (T : TypeId) (base top : Nat) (w : World) : Wk T base top w w := ⟨Below.refl _ _, fun _ _ _ _ h => h, fun _ _ _ _ h _ => h, fun _ _ _ => rfl⟩
theorem Wk.store {T : TypeId} {base top : Nat} {w w' : World} (h : Wk T base top w w') {g : Nat} {cur : Array Value} (hg : w'.heap[g]? = some (.cells cur T (0, 0))) (hb : base ≤ g ∧ g < top) (j : Nat) (u : Value) : Wk T base top w (w'.setCell ⟨g, j, none⟩ u) := by
  refine ⟨h.below.setCell (p := ⟨g, j, none⟩) hb.1 u, fun e size v n hr => (h.rows e size v n hr).setCell g j u, fun k cur' t fz hk ht => ?_, fun k h1 h2 => ?_⟩
  · have h1 := h.other k cur' t fz hk ht
    rw [heap_setCell_other w' ⟨g, j, none⟩ k u (fun e => ?_)]
    · exact h1
    · have e2 : k = g := e
      rw [e2, hg] at h1
      simp only [Option.some.injEq, Obj.cells.injEq] at h1
      exact ht h1.2.1.symm
  · rw [heap_setCell_other w' ⟨g, j, none⟩ k u (fun e => by have e2 : k = g := e; omega)]
    exact h.out k h1 h2
/-- what of the files is not yet written over -/
def RestX (w : World) (base top g n i : Nat) : Prop := ∀ j, i ≤ j → j < n → ∃ ab nb cb al nl cl, w.cell? ⟨g, j * 5 + 3, none⟩ = some (.slice ab nb cb) ∧ w.cell? ⟨g, j * 5 + 4, none⟩ = some (.slice al nl cl) ∧ RowX w base top 3 1 (.slice ab nb cb) nb ∧ RowX w base top 87 2 (.slice al nl cl) nl ∧ nb ≤ 100000 ∧ nl ≤ 100000
/-- files that may be written over -/
def SpoilX (w : World) (base top : Nat) (fa : Option Addr) (n : Nat) : Prop := n ≤ 100000 ∧ (n = 0 ∨ ∃ g cur, fa = some ⟨g, 0, none⟩ ∧ (base ≤ g ∧ g < top) ∧ w.heap[g]? = some (.cells cur 84 (0, 0)) ∧ n * 5 ≤ cur.size ∧ RestX w base top g n 0)
theorem SpoilX.below {w w' : World} {base top : Nat} {fa : Option Addr} {n : Nat} (h : SpoilX w base top fa n) (hb : Below w.heap.size w w') : SpoilX w' base top fa n := by
  obtain ⟨h0, h⟩ := h
  refine ⟨h0, ?_⟩
  rcases h with h | ⟨g, cur, h1, h2, h3, h4, h5⟩
  · exact .inl h
  · refine .inr ⟨g, cur, h1, h2, (hb.block _ (Array.getElem?_eq_some_iff.1 h3).1).trans h3, h4, fun j hj1 hj2 => ?_⟩
    obtain ⟨ab, nb, cb, al, nl, cl, c3, c4, r3, r4, hn⟩ := h5 j hj1 hj2
    exact ⟨ab, nb, cb, al, nl, cl, (hb.cell (p := ⟨g, j * 5 + 3, none⟩) (block_lt_of_cell c3)).trans c3, (hb.cell (p := ⟨g, j * 5 + 4, none⟩) (block_lt_of_cell c4)).trans c4, r3.below hb, r4.below hb, hn⟩
theorem SpoilX.set {w : World} {base top : Nat} {fa : Option Addr} {n : Nat} (h : SpoilX w base top fa n) {k : Nat} (o : Nat) (hk : k < base) (u : Value) : SpoilX (w.setCell ⟨k, o, none⟩ u) base top fa n := by
  obtain ⟨h0, h⟩ := h
  refine ⟨h0, ?_⟩
  rcases h with h | ⟨g, cur, h1, h2, h3, h4, h5⟩
  · exact .inl h
  · have hne : g ≠ k := by omega
    have h3' : (w.setCell ⟨k, o, none⟩ u).heap[g]? = some (.cells cur 84 (0, 0)) := (heap_setCell_other w ⟨k, o, none⟩ g u hne).trans h3
    refine .inr ⟨g, cur, h1, h2, h3', h4, fun j hj1 hj2 => ?_⟩
    obtain ⟨ab, nb, cb, al, nl, cl, c3, c4, r3, r4, hn⟩ := h5 j hj1 hj2
    refine ⟨ab, nb, cb, al, nl, cl, ?_, ?_, r3.setCell _ _ _, r4.setCell _ _ _, hn⟩
    · rw [Lib.cell_of_heap h3']; rw [Lib.cell_of_heap h3] at c3; exact c3
    · rw [Lib.cell_of_heap h3']; rw [Lib.cell_of_heap h3] at c4; exact c4
theorem OwnFiles.kept {w w' : World} {base : Nat} {v : Value} {fs : List FileD} (h : OwnFiles w base v fs) (hk : ∀ k, base ≤ k → k < w.heap.size → w'.heap[k]? = w.heap[k]?) : OwnFiles w' base v fs := by
  have hr : ∀ {e : TypeId} {size : Nat} {v : Value} {n : Nat} {xs : List Value}, w.ownsRow base e size v n xs → w'.ownsRow base e size v n xs := by
    intro e size v n xs h
    refine ⟨h.1, ?_⟩
    rcases h.2 with h | ⟨g, cap, cur, hv, hb, hh, rest⟩
    · exact .inl h
    · exact .inr ⟨g, cap, cur, hv, hb, (hk g hb (Array.getElem?_eq_some_iff.1 hh).1).trans hh, rest⟩
  obtain ⟨gs, e, ho, ha⟩ := h
  exact ⟨gs, e, hr ho, fun g hg => ⟨hr (ha g hg).1, hr (ha g hg).2⟩⟩

set_option maxRecDepth 100000 in
set_option maxHeartbeats 1000000 in
theorem nums_spoil (a : Option Addr) (n ca base top : Nat) (w : World) (hr : RowX w base top 3 1 (.slice a n ca) n) (hn : n ≤ 100000) :
    Calls Try.prog 71 #[.slice a n ca] w fun e w' => e = .returned (.tuple #[]) ∧ Wk 3 base top w w' := by
  have HR : Hid (RowX w base top 3 1 (.slice a n ca) n) := hr
  clear hr
  go_enter Try.func71, Try.ntmps71
  go_wp2_with fail
  go_loopw [2] (fun ii wr => ∃ (i : Nat), i ≤ n ∧ ii = .int .i64 i ∧ Wk 3 base top w wr) (fun ii _ => n - (intOf ii).toNat)
  case atStart => exact ⟨0, by omega, rfl, Wk.refl _ _ _ _⟩
  case round =>
    obtain ⟨i, hi, rfl, hk⟩ := hrel
    have HK : Hid (Wk 3 base top w wr) := hk
    clear hk
    by_cases hin : (i : Int) < (n : Int)
    · obtain ⟨g, cur, rfl, hbg, hg, hc, hf⟩ := (HK.out.rows _ _ _ _ HR.out).cell (by omega)
      obtain ⟨u, c1⟩ := hc i (by omega)
      have f1 := hf i
      have HK3 : Hid (Wk 3 base top w (wr.setCell ⟨g, i, none⟩ (.int .i64 (-99)))) := HK.out.store hg hbg i _
      clear hc hf hg
      go_wp2_with fail
      first
        | exact ⟨⟨i + 1, by omega, by go_num, HK3.out⟩, by simp [intOf]; omega⟩
        | (go_roundw
           case rel => exact ⟨i + 1, by omega, by go_num, HK3.out⟩
           case measure => simp [intOf]; omega)
    · go_wp2_with fail
      go_end0
      exact ⟨rfl, HK.out⟩

theorem RestX.wk {T : TypeId} {w w' : World} {base top g n i : Nat} {cur : Array Value} (h : RestX w base top g n i) (hk : Wk T base top w w') (hg : w.heap[g]? = some (.cells cur 84 (0, 0))) (ht : (84 : TypeId) ≠ T) : RestX w' base top g n i := by
  intro j h1 h2
  obtain ⟨ab, nb, cb, al, nl, cl, c3, c4, r3, r4, hn⟩ := h j h1 h2
  have hg' := hk.other _ _ _ _ hg ht
  refine ⟨ab, nb, cb, al, nl, cl, ?_, ?_, hk.rows _ _ _ _ r3, hk.rows _ _ _ _ r4, hn⟩
  · rw [Lib.cell_of_heap hg']; rw [Lib.cell_of_heap hg] at c3; exact c3
  · rw [Lib.cell_of_heap hg']; rw [Lib.cell_of_heap hg] at c4; exact c4
theorem five_ne {cur : Array Value} {a b c d e j : Nat} {v0 v1 v2 v3 v4 : Value} (h0 : a ≠ j) (h1 : b ≠ j) (h2 : c ≠ j) (h3 : d ≠ j) (h4 : e ≠ j) : (((((cur.setIfInBounds a v0).setIfInBounds b v1).setIfInBounds c v2).setIfInBounds d v3).setIfInBounds e v4)[j]? = cur[j]? := by
  rw [Array.getElem?_setIfInBounds_ne h4, Array.getElem?_setIfInBounds_ne h3, Array.getElem?_setIfInBounds_ne h2, Array.getElem?_setIfInBounds_ne h1, Array.getElem?_setIfInBounds_ne h0]
theorem RestX.file {w : World} {base top g n i : Nat} {v0 v1 v2 v3 v4 : Value} {cur : Array Value} (h : RestX w base top g n i) (hg : w.heap[g]? = some (.cells cur 84 (0, 0))) :
    RestX (((((w.setCell ⟨g, i * 5, none⟩ v0).setCell ⟨g, i * 5 + 1, none⟩ v1).setCell ⟨g, i * 5 + 2, none⟩ v2).setCell ⟨g, i * 5 + 3, none⟩ v3).setCell ⟨g, i * 5 + 4, none⟩ v4) base top g n (i + 1) := by
  intro j h1 h2
  obtain ⟨ab, nb, cb, al, nl, cl, c3, c4, r3, r4, hn⟩ := h j (by omega) h2
  have e1 := heap_setCell_same w g (i * 5) _ 84 v0 hg
  have e2 := heap_setCell_same _ g (i * 5 + 1) _ 84 v1 e1
  have e3 := heap_setCell_same _ g (i * 5 + 2) _ 84 v2 e2
  have e4 := heap_setCell_same _ g (i * 5 + 3) _ 84 v3 e3
  have e5 := heap_setCell_same _ g (i * 5 + 4) _ 84 v4 e4
  refine ⟨ab, nb, cb, al, nl, cl, ?_, ?_, ((((r3.setCell _ _ _).setCell _ _ _).setCell _ _ _).setCell _ _ _).setCell _ _ _, ((((r4.setCell _ _ _).setCell _ _ _).setCell _ _ _).setCell _ _ _).setCell _ _ _, hn⟩
  · rw [Lib.cell_of_heap e5]
    rw [Lib.cell_of_heap hg] at c3
    rw [five_ne (by omega) (by omega) (by omega) (by omega) (by omega)]
    exact c3
  · rw [Lib.cell_of_heap e5]
    rw [Lib.cell_of_heap hg] at c4
    rw [five_ne (by omega) (by omega) (by omega) (by omega) (by omega)]
    exact c4
theorem SpoilX.of_own {w : World} {base n cap : Nat} {fa : Option Addr} {fs : List FileD} (h : OwnFiles w base (.slice fa n cap) fs) (hl : fs.length ≤ 100000) (hs : ∀ f ∈ fs, SmallF f) : SpoilX w base w.heap.size fa n := by
  obtain ⟨gs, rfl, ho, ha⟩ := h
  rw [List.length_map] at hl
  have ho2 := ho
  rcases ho2.2 with ⟨h1, h2⟩ | ⟨g, cap', cur, h1, h2, h3, h4, h5, h6, _⟩
  · injection h1 with _ h1 _
    exact ⟨by omega, .inl h1⟩
  · injection h1 with h1 hn _
    subst h1
    subst hn
    refine ⟨hl, .inr ⟨g, cur, rfl, ⟨h2, (Array.getElem?_eq_some_iff.1 h3).1⟩, h3, by rw [h6]; exact Nat.mul_le_mul_right _ h4, fun j _ hj => ?_⟩⟩
    have hm := ha gs[j] (List.getElem_mem hj)
    obtain ⟨_, _, _, c3, c4⟩ := fflat_get gs j _ (List.getElem?_eq_getElem hj)
    obtain ⟨ab, cb, eb, _, _⟩ := hm.1.at
    obtain ⟨al, cl, el, _, _⟩ := hm.2.at
    have h3 := RowX.of_own hm.1
    have h4 := RowX.of_own hm.2
    have hsf := hs gs[j].d (List.mem_map.2 ⟨_, List.getElem_mem hj, rfl⟩)
    rw [eb] at c3 h3
    rw [el] at c4 h4
    have e : ∀ j, (⟨g, 0, none⟩ : Addr).add j = ⟨g, 0 + j, none⟩ := fun j => by unfold Addr.add; split <;> simp_all
    have K : ∀ j u, (fflat gs)[j]? = some u → w.cell? ⟨g, j, none⟩ = some u := fun j u hj => by
      have := ho.cells (g := g) rfl j u hj
      rwa [e, Nat.zero_add] at this
    exact ⟨ab, _, cb, al, _, cl, K _ _ c3, K _ _ c4, h3, h4, hsf.1, hsf.2⟩

set_option maxRecDepth 100000 in
set_option maxHeartbeats 4000000 in
theorem vol_spoil (d : VolD) (fa : Option Addr) (fc base top : Nat) (w : World) (ho : SpoilX w base top fa d.files.length) (hb : base ≤ w.heap.size) (ht : top ≤ w.heap.size) :
    Calls Try.prog 53 #[.agg #[.int .i64 d.id, .int .i64 d.fr, .bool d.snap, .slice fa d.files.length fc, .int .i64 d.next]] w fun e w' => e = .returned (.tuple #[]) ∧ Below base w w' ∧ ∀ k, top ≤ k → k < w.heap.size → w'.heap[k]? = w.heap[k]? := by
  have HO : Hid (SpoilX w base top fa d.files.length) := ho
  have hnl := ho.1
  clear ho
  obtain ⟨W0, hW0⟩ : ∃ W0, W0 = w.alloc (.cells #[.int .i64 d.id, .int .i64 d.fr, .bool d.snap, .slice fa d.files.length fc, .int .i64 d.next] 32) := ⟨_, rfl⟩
  have HB0 : Hid (Below w.heap.size w W0) := by rw [hW0]; exact nwA (nwR w) _
  have HX0 : Hid (W0.heap[w.heap.size]? = some (.cells #[.int .i64 d.id, .int .i64 d.fr, .bool d.snap, .slice fa d.files.length fc, .int .i64 d.next] 32 (0, 0))) := by rw [hW0]; exact heap_alloc_new w _
  have HBB : Hid (Below base w W0 ∧ ∀ k, top ≤ k → k < w.heap.size → W0.heap[k]? = w.heap[k]?) := ⟨HB0.out.mono hb, fun k _ hk => HB0.out.block k hk⟩
  go_enter Try.func53, Try.ntmps53
  go_wp2_with fail
  rw [← hW0]
  clear hW0
  by_cases h0 : d.files.length = 0
  case pos =>
    rw [h0] at HX0 ⊢
    obtain ⟨x0, x1, x2, x3, x4, _⟩ := five HX0.out
    go_loopw [2] (fun ii wr => ii = .int .i64 0 ∧ wr = W0) (fun ii _ => 0)
    case atStart => exact ⟨rfl, rfl⟩
    case round =>
      obtain ⟨rfl, rfl⟩ := hrel
      go_wp2_with fail
      go_end0
      exact ⟨rfl, HBB.out⟩
  case neg =>
  generalize hn : d.files.length = n at HX0 hnl h0 HO ⊢
  clear hn
  obtain ⟨g, cur0, rfl, hgb, hg0, hgc, hre⟩ : ∃ g cur, fa = some ⟨g, 0, none⟩ ∧ (base ≤ g ∧ g < top) ∧ W0.heap[g]? = some (.cells cur 84 (0, 0)) ∧ n * 5 ≤ cur.size ∧ RestX W0 base top g n 0 := by
    rcases (HO.out.below HB0.out).2 with h | h
    · exact absurd h h0
    · exact h
  have HRE : Hid (RestX W0 base top g n 0) := hre
  have HG0 : Hid (∃ cur, W0.heap[g]? = some (.cells cur 84 (0, 0)) ∧ n * 5 ≤ cur.size) := ⟨cur0, hg0, hgc⟩
  have HGN : Hid (g ≠ w.heap.size ∧ base ≤ g ∧ g < top) := ⟨by omega, hgb⟩
  clear hre hg0 hgb hgc HO
  go_loopw [2] (fun ii wr => ∃ (i : Nat), i ≤ n ∧ ii = .int .i64 i ∧ Hid (Below base w wr ∧ ∀ k, top ≤ k → k < w.heap.size → wr.heap[k]? = w.heap[k]?) ∧ Hid (RestX wr base top g n i) ∧ Hid (∃ cur, wr.heap[g]? = some (.cells cur 84 (0, 0)) ∧ n * 5 ≤ cur.size) ∧ Hid (wr.heap[w.heap.size]? = some (.cells #[.int .i64 d.id, .int .i64 d.fr, .bool d.snap, .slice (some ⟨g, 0, none⟩) n fc, .int .i64 d.next] 32 (0, 0)))) (fun ii _ => n - (intOf ii).toNat)
  case atStart => exact ⟨0, by omega, rfl, HBB, HRE, HG0, HX0⟩
  case round =>
    obtain ⟨i, hi, rfl, HBr, HRr, HGr, HXr⟩ := hrel
    obtain ⟨x0, x1, x2, x3, x4, _⟩ := five HXr.out
    by_cases hin : (i : Int) < (n : Int)
    case neg =>
      go_wp2_with fail
      go_end0
      exact ⟨rfl, HBr.out⟩
    case pos =>
    have hi0 : (0 : Int) ≤ (i : Int) := by omega
    obtain ⟨ab, nb, cb, al, nl, cl, c3, c4, r3, r4, hnb, hnl2⟩ := HRr.out i (by omega) (by omega)
    have HR4 : Hid (RowX wr base top 87 2 (.slice al nl cl) nl) := r4
    have HC4 : Hid (wr.cell? ⟨g, i * 5 + 4, none⟩ = some (.slice al nl cl)) := c4
    have HNS : Hid (Calls Try.prog 71 #[.slice ab nb cb] wr fun e w' => e = .returned (.tuple #[]) ∧ Wk 3 base top wr w') := nums_spoil ab nb cb base top wr r3 hnb
    clear r3 r4 c4
    go_wp2_with fail
    refine HNS.out.mono ?_
    rintro e w2 ⟨rfl, hk2⟩
    obtain ⟨cur, hg, hgc⟩ := HGr.out
    have HRE2 : Hid (RestX w2 base top g n i) := HRr.out.wk hk2 hg (by decide)
    have HG2 : Hid (∃ cur, w2.heap[g]? = some (.cells cur 84 (0, 0)) ∧ n * 5 ≤ cur.size) := ⟨cur, hk2.other _ _ _ _ hg (by decide), hgc⟩
    have HX2 : Hid (w2.heap[w.heap.size]? = some (.cells #[.int .i64 d.id, .int .i64 d.fr, .bool d.snap, .slice (some ⟨g, 0, none⟩) n fc, .int .i64 d.next] 32 (0, 0))) := hk2.other _ _ _ _ HXr.out (by decide)
    have HB2 : Hid (Below base w w2 ∧ ∀ k, top ≤ k → k < w.heap.size → w2.heap[k]? = w.heap[k]?) := ⟨HBr.out.1.trans hk2.below, fun k h1 h2 => (hk2.out k h1 (by have := HBr.out.1.size; omega)).trans (HBr.out.2 k h1 h2)⟩
    have HR42 : Hid (RowX w2 base top 87 2 (.slice al nl cl) nl) := hk2.rows _ _ _ _ HR4.out
    have HC42 : Hid (w2.cell? ⟨g, i * 5 + 4, none⟩ = some (.slice al nl cl)) := by
      show _ = _
      rw [Lib.cell_of_heap (hk2.other _ _ _ _ hg (by decide))]
      have := HC4.out
      rw [Lib.cell_of_heap hg] at this; exact this
    clear hk2 hg hgc HNS HRr HGr HXr HBr HR4 HC4 x0 x1 x2 x3 x4 c3 cur
    go_wp2_with fail
    go_loopw [3] (fun kk wr2 => ∃ (k : Nat), k ≤ nl ∧ kk = .int .i64 k ∧ Wk 87 base top w2 wr2) (fun kk _ => nl - (intOf kk).toNat)
    case atStart => exact ⟨0, by omega, rfl, Wk.refl _ _ _ _⟩
    case round =>
      obtain ⟨k, hk, rfl, hw⟩ := hrel
      have HW : Hid (Wk 87 base top w2 wr) := hw
      obtain ⟨cur, hg, hgc⟩ := HG2.out
      have hg2 := hw.other _ _ _ _ hg (by decide)
      obtain ⟨x0, x1, x2, x3, x4, _⟩ := five (hw.other _ _ _ _ HX2.out (by decide))
      have c4 : wr.cell? ⟨g, i * 5 + 4, none⟩ = some (.slice al nl cl) := by
        rw [Lib.cell_of_heap hg2]
        have := HC42.out
        rw [Lib.cell_of_heap hg] at this; exact this
      by_cases hkn : (k : Int) < (nl : Int)
      case pos =>
        have hk0 : (0 : Int) ≤ (k : Int) := by omega
        obtain ⟨gl, curl, rfl, hbl, hgl, hcl, hfl⟩ := (hw.rows _ _ _ _ HR42.out).cell (by omega)
        obtain ⟨u0, y0⟩ := hcl (k * 2) (by omega)
        obtain ⟨u1, y1⟩ := hcl (k * 2 + 1) (by omega)
        have f0' := hfl (k * 2)
        have f1' := hfl (k * 2 + 1)
        have HW3 : Hid (∀ a b, Wk 87 base top w2 ((wr.setCell ⟨gl, k * 2, none⟩ a).setCell ⟨gl, k * 2 + 1, none⟩ b)) := fun a b => (HW.out.store hgl hbl _ a).store (heap_setCell_same wr gl (k * 2) _ 87 a hgl) hbl _ b
        clear hw hg hgc hg2 hcl hfl hgl
        go_wp2_with fail
        go_roundw
        case rel => exact ⟨k + 1, by omega, by go_num, HW3.out _ _⟩
        case measure => simp [intOf]; omega
      case neg =>
        have HB3 : Hid (Below base w wr ∧ ∀ k, top ≤ k → k < w.heap.size → wr.heap[k]? = w.heap[k]?) := ⟨HB2.out.1.trans hw.below, fun k h1 h2 => (hw.out k h1 (by have := HB2.out.1.size; omega)).trans (HB2.out.2 k h1 h2)⟩
        have HRE3 : Hid (RestX wr base top g n i) := HRE2.out.wk hw hg (by decide)
        have HX3 : Hid (wr.heap[w.heap.size]? = some (.cells #[.int .i64 d.id, .int .i64 d.fr, .bool d.snap, .slice (some ⟨g, 0, none⟩) n fc, .int .i64 d.next] 32 (0, 0))) := hw.other _ _ _ _ HX2.out (by decide)
        have HG3 : Hid (wr.heap[g]? = some (.cells cur 84 (0, 0)) ∧ n * 5 ≤ cur.size) := ⟨hg2, hgc⟩
        have hcell : ∀ j, j < n * 5 → ∃ u, wr.cell? ⟨g, j, none⟩ = some u := fun j hj => ⟨cur[j]'(by omega), by rw [Lib.cell_of_heap hg2]; exact Array.getElem?_eq_getElem (by omega)⟩
        obtain ⟨u0, y0⟩ := hcell (i * 5) (by omega)
        obtain ⟨u1, y1⟩ := hcell (i * 5 + 1) (by omega)
        obtain ⟨u2, y2⟩ := hcell (i * 5 + 2) (by omega)
        obtain ⟨u3', y3⟩ := hcell (i * 5 + 3) (by omega)
        have y4 := c4
        have hff : ∀ j, wr.frozen? ⟨g, j, none⟩ = false := fun j => Lib.frozen_of_heap hg2 j
        have f0' := hff (i * 5)
        have f1' := hff (i * 5 + 1)
        have f2' := hff (i * 5 + 2)
        have f3' := hff (i * 5 + 3)
        have f4' := hff (i * 5 + 4)
        clear hw hg hgc hg2 hcell hff c4 HW
        go_wp2_with fail
        go_roundw
        case rel =>
          refine ⟨i + 1, by omega, by go_num, ?_, HRE3.out.file HG3.out.1, ?_, ?_⟩
          · refine ⟨((((HB3.out.1.setCell (p := ⟨g, i * 5, none⟩) HGN.out.2.1 _).setCell (p := ⟨g, i * 5 + 1, none⟩) HGN.out.2.1 _).setCell (p := ⟨g, i * 5 + 2, none⟩) HGN.out.2.1 _).setCell (p := ⟨g, i * 5 + 3, none⟩) HGN.out.2.1 _).setCell (p := ⟨g, i * 5 + 4, none⟩) HGN.out.2.1 _, fun k h1 h2 => ?_⟩
            have hne : k ≠ g := by have := HGN.out.2.2; omega
            rw [heap_setCell_other _ ⟨g, i * 5 + 4, none⟩ _ _ hne, heap_setCell_other _ ⟨g, i * 5 + 3, none⟩ _ _ hne, heap_setCell_other _ ⟨g, i * 5 + 2, none⟩ _ _ hne, heap_setCell_other _ ⟨g, i * 5 + 1, none⟩ _ _ hne, heap_setCell_other _ ⟨g, i * 5, none⟩ _ _ hne]
            exact HB3.out.2 k h1 h2
          · exact ⟨_, heap_setCell_same _ g (i * 5 + 4) _ 84 _ (heap_setCell_same _ g (i * 5 + 3) _ 84 _ (heap_setCell_same _ g (i * 5 + 2) _ 84 _ (heap_setCell_same _ g (i * 5 + 1) _ 84 _ (heap_setCell_same _ g (i * 5) _ 84 _ HG3.out.1)))), by simpa using HG3.out.2⟩
          · show _ = _
            have hne : w.heap.size ≠ g := fun e => HGN.out.1 e.symm
            rw [heap_setCell_other _ ⟨g, i * 5 + 4, none⟩ _ _ hne, heap_setCell_other _ ⟨g, i * 5 + 3, none⟩ _ _ hne, heap_setCell_other _ ⟨g, i * 5 + 2, none⟩ _ _ hne, heap_setCell_other _ ⟨g, i * 5 + 1, none⟩ _ _ hne, heap_setCell_other _ ⟨g, i * 5, none⟩ _ _ hne]
            exact HX3.out
        case measure => simp [intOf]; omega

end Go.Proofs.Ytodahdnnlkcfdaa

/- A row of volumes with borrowed ones, and one less, by the page. -/
namespace Go.Proofs.Ytodahdnnlkcfdaa
open Go.RowKit

def ReadFV (w : World) (x : VV) : Prop := ∃ a c, x.fv = .slice a x.d.files.length c ∧ FilesAt w a x.d.files ∧ CapOk a c x.d.files.length
/-- a row of one's own of volumes whose files may be someone else's -/
def MixV (W w : World) (base : Nat) (v : Value) (ds : List VolD) : Prop := ∃ gs : List VV, gs.map VV.d = ds ∧ w.ownsRow base 32 5 v ds.length (vflat gs) ∧ ∀ x ∈ gs, OwnFiles w base x.fv x.d.files ∨ ReadFV W x
theorem VolsAt.gs {w : World} {b o : Nat} {ds : List VolD} (h : VolsAt w (some ⟨b, o, none⟩) ds) : ∃ gs : List VV, gs.map VV.d = ds ∧ (∀ i x, gs[i]? = some x → w.cell? ⟨b, o + i * 5, none⟩ = some (.int .i64 x.d.id) ∧ w.cell? ⟨b, o + i * 5 + 1, none⟩ = some (.int .i64 x.d.fr) ∧ w.cell? ⟨b, o + i * 5 + 2, none⟩ = some (.bool x.d.snap) ∧ w.cell? ⟨b, o + i * 5 + 3, none⟩ = some x.fv ∧ w.cell? ⟨b, o + i * 5 + 4, none⟩ = some (.int .i64 x.d.next)) ∧ ∀ x ∈ gs, ReadFV w x := by
  induction ds generalizing o with
  | nil => exact ⟨[], rfl, by simp, by simp⟩
  | cons d ds ih =>
    obtain ⟨_, _, e, a, c, ⟨c0, c1, c2, c3, c4⟩, hf, hc⟩ := h.vol (i := 0) (by simp)
    injection e with e
    injection e with e1 e2
    subst e1; subst e2
    have h2 := h.drop 1
    simp only [Nat.one_mul, List.drop_succ_cons, List.drop_zero] at h2
    obtain ⟨gs, h3, h4, h5⟩ := ih h2
    simp only [Nat.zero_mul, Nat.add_zero, List.getD_cons_zero] at c0 c1 c2 c3 c4 hf hc
    refine ⟨⟨d, .slice a d.files.length c⟩ :: gs, by rw [List.map_cons, h3], ?_, ?_⟩
    · intro i x hx
      cases i with
      | zero =>
        simp at hx; subst hx
        simp only [Nat.zero_mul, Nat.add_zero]
        exact ⟨c0, c1, c2, c3, c4⟩
      | succ i =>
        have := h4 i x (by simpa using hx)
        rw [show o + (i + 1) * 5 = o + 5 + i * 5 from by omega]
        exact this
    · intro x hx
      rcases List.mem_cons.1 hx with rfl | hx
      · exact ⟨a, c, rfl, hf, hc⟩
      · exact h5 x hx
theorem vflat_div {gs : List VV} {j : Nat} {u : Value} (h : (vflat gs)[j]? = some u) : ∃ i r x, j = i * 5 + r ∧ r < 5 ∧ gs[i]? = some x ∧ u = (#[Value.int .i64 x.d.id, .int .i64 x.d.fr, .bool x.d.snap, x.fv, .int .i64 x.d.next][r]!) := by
  have hl := (List.getElem?_eq_some_iff.1 h).1
  rw [vflat_len] at hl
  have hi : j / 5 < gs.length := by omega
  obtain ⟨c0, c1, c2, c3, c4⟩ := vflat_get gs (j / 5) _ (List.getElem?_eq_getElem hi)
  refine ⟨j / 5, j % 5, gs[j / 5], by omega, Nat.mod_lt _ (by omega), List.getElem?_eq_getElem hi, ?_⟩
  have : j % 5 = 0 ∨ j % 5 = 1 ∨ j % 5 = 2 ∨ j % 5 = 3 ∨ j % 5 = 4 := by omega
  rcases this with e | e | e | e | e
  · rw [e]; rw [show j = j / 5 * 5 from by omega, c0] at h; injection h with h; exact h.symm
  · rw [e]; rw [show j = j / 5 * 5 + 1 from by omega, c1] at h; injection h with h; exact h.symm
  · rw [e]; rw [show j = j / 5 * 5 + 2 from by omega, c2] at h; injection h with h; exact h.symm
  · rw [e]; rw [show j = j / 5 * 5 + 3 from by omega, c3] at h; injection h with h; exact h.symm
  · rw [e]; rw [show j = j / 5 * 5 + 4 from by omega, c4] at h; injection h with h; exact h.symm
/-- the cells of a row that is read, one after the other -/
theorem VolsAt.cells {w : World} {b o : Nat} {ds : List VolD} (h : VolsAt w (some ⟨b, o, none⟩) ds) : ∃ gs : List VV, gs.map VV.d = ds ∧ (∀ j u, (vflat gs)[j]? = some u → w.cell? ((⟨b, o, none⟩ : Addr).add j) = some u) ∧ ∀ x ∈ gs, ReadFV w x := by
  obtain ⟨gs, h1, h2, h3⟩ := h.gs
  refine ⟨gs, h1, fun j u hu => ?_, h3⟩
  obtain ⟨i, r, x, rfl, hr, hx, rfl⟩ := vflat_div hu
  obtain ⟨c0, c1, c2, c3, c4⟩ := h2 i x hx
  have e : (⟨b, o, none⟩ : Addr).add (i * 5 + r) = ⟨b, o + i * 5 + r, none⟩ := by unfold Addr.add; split <;> simp_all [Nat.add_assoc]
  rw [e]
  have : r = 0 ∨ r = 1 ∨ r = 2 ∨ r = 3 ∨ r = 4 := by omega
  rcases this with rfl | rfl | rfl | rfl | rfl
  · exact c0
  · exact c1
  · exact c2
  · exact c3
  · exact c4
theorem vflat_oneR {w : World} {gs : List VV} (h : ∀ x ∈ gs, ReadFV w x) : ∀ v ∈ vflat gs, v.oneCell' = true := by
  intro v hv
  unfold vflat at hv
  rw [List.mem_flatMap] at hv
  obtain ⟨x, hx, hv⟩ := hv
  obtain ⟨a, c, e, _⟩ := h x hx
  simp only [List.mem_cons, List.not_mem_nil, or_false] at hv
  rcases hv with rfl | rfl | rfl | rfl | rfl
  · rfl
  · rfl
  · rfl
  · rw [e]; rfl
  · rfl
theorem ReadFV.below {w w' : World} {x : VV} (h : ReadFV w x) (hb : Below w.heap.size w w') : ReadFV w' x := by
  obtain ⟨a, c, e, hf, hc⟩ := h
  exact ⟨a, c, e, hf.below hb, hc⟩
theorem OwnFiles.readFV {w : World} {base : Nat} {x : VV} (h : OwnFiles w base x.fv x.d.files) : ReadFV w x := by
  obtain ⟨a, c, e, h1, h2⟩ := h.at
  exact ⟨a, c, e, h1, h2⟩
/-- the own memory stands, and all that was there in W -/
theorem MixV.at {W w : World} {base : Nat} {v : Value} {ds : List VolD} (h : MixV W w base v ds) : ∃ a c, v = .slice a ds.length c ∧ CapOk a c ds.length ∧ ∀ w', Below W.heap.size W w' → (∀ k, base ≤ k → k < w.heap.size → w'.heap[k]? = w.heap[k]?) → VolsAt w' a ds := by
  obtain ⟨gs, rfl, ho, ha⟩ := h
  have hh := ho
  rw [List.length_map] at ho hh ⊢
  rcases ho.2 with ⟨hv, hn⟩ | ⟨g, cap, cur, hv, hb, hlt, hnc, _⟩
  · exact ⟨none, 0, by rw [hv, hn], ⟨by omega, (fun _ => rfl), (fun p e => by cases e)⟩, fun w' _ _ => .inl (by rw [List.length_eq_zero_iff.1 hn]; rfl)⟩
  · subst hv
    have hrw : RowW w base g gs.length cap gs := hh
    refine ⟨_, cap, rfl, ⟨hnc, (fun e => by cases e), (fun p e _ => by injection e with e; rw [← e])⟩, fun w' hW hk => .inr ⟨g, 0, rfl, fun i hi => ?_⟩⟩
    rw [List.length_map] at hi
    obtain ⟨c0, c1, c2, c3, c4⟩ := hrw.cellAt (List.getElem?_eq_getElem hi)
    have hg : w'.heap[g]? = w.heap[g]? := hk g hb (Array.getElem?_eq_some_iff.1 hlt).1
    have hce : ∀ o, w'.cell? ⟨g, o, none⟩ = w.cell? ⟨g, o, none⟩ := fun o => by unfold World.cell?; simp only [hg]
    have hrf : ReadFV w' gs[i] := by
      rcases ha gs[i] (List.getElem_mem hi) with h | h
      · exact (h.kept hk).readFV
      · exact h.below hW
    obtain ⟨a, c, e, hf, hc⟩ := hrf
    have hgd : (gs.map VV.d).getD i VZ = gs[i].d := by simp [List.getD, hi]
    rw [hgd, Nat.zero_add]
    rw [e] at c3
    exact ⟨a, c, ⟨(hce _).trans c0, (hce _).trans c1, (hce _).trans c2, (hce _).trans c3, (hce _).trans c4⟩, hf, hc⟩

end Go.Proofs.Ytodahdnnlkcfdaa

/- Acts of given kinds: a row of one's own of acts whose files are someone else's. -/
namespace Go.Proofs.Ytodahdnnlkcfdaa
open Go.RowKit

def kindA (ks : List Int) (i : Nat) (a : ActD) : ActD := ⟨ks.getD (i % ks.length) 0, a.id, a.v⟩
def onlyL (ks : List Int) (l : List ActD) : List ActD := l.mapIdx (kindA ks)
theorem onlyL_len (ks : List Int) (l : List ActD) : (onlyL ks l).length = l.length := by simp [onlyL]
theorem onlyL_get (ks : List Int) (l : List ActD) {k : Nat} (hk : k < l.length) : (onlyL ks l).take (k + 1) = (onlyL ks l).take k ++ [kindA ks k (l.getD k act0)] := by
  rw [List.take_succ_eq_append_getElem (by rw [onlyL_len]; exact hk)]
  simp [onlyL, List.getD, hk]
theorem onlyL_loose {ks : List Int} {l : List ActD} (h : LooseA l) : LooseA (onlyL ks l) := by
  refine ⟨by rw [onlyL_len]; exact h.1, fun x hx => ?_⟩
  obtain ⟨i, hi, rfl⟩ := List.getElem_of_mem hx
  rw [onlyL_len] at hi
  have hm := h.2 l[i] (List.getElem_mem hi)
  simp only [onlyL, List.getElem_mapIdx, kindA]
  exact hm
structure AV where
  d : ActD
  fv : Value
def aflat (gs : List AV) : List Value := gs.flatMap fun g => [.int .i64 g.d.act, .int .i64 g.d.id, .int .i64 g.d.v.id, .int .i64 g.d.v.fr, .bool g.d.v.snap, g.fv, .int .i64 g.d.v.next]
def ReadA (w : World) (x : AV) : Prop := ∃ a c, x.fv = .slice a x.d.v.files.length c ∧ FilesAt w a x.d.v.files ∧ CapOk a c x.d.v.files.length
def MixA (w : World) (base : Nat) (v : Value) (ls : List ActD) : Prop := ∃ gs : List AV, gs.map AV.d = ls ∧ w.ownsRow base 34 7 v gs.length (aflat gs) ∧ ∀ x ∈ gs, ReadA w x
theorem ReadA.below {w w' : World} {x : AV} (h : ReadA w x) (hb : Below w.heap.size w w') : ReadA w' x := by
  obtain ⟨a, c, e, hf, hc⟩ := h; exact ⟨a, c, e, hf.below hb, hc⟩
theorem aflat_get (gs : List AV) : ∀ i g, gs[i]? = some g → (aflat gs)[i * 7]? = some (.int .i64 g.d.act) ∧ (aflat gs)[i * 7 + 1]? = some (.int .i64 g.d.id) ∧ (aflat gs)[i * 7 + 2]? = some (.int .i64 g.d.v.id) ∧ (aflat gs)[i * 7 + 3]? = some (.int .i64 g.d.v.fr) ∧ (aflat gs)[i * 7 + 4]? = some (.bool g.d.v.snap) ∧ (aflat gs)[i * 7 + 5]? = some g.fv ∧ (aflat gs)[i * 7 + 6]? = some (.int .i64 g.d.v.next) := by
  induction gs with
  | nil => intro i g h; simp at h
  | cons x xs ih =>
    intro i g h
    have e : aflat (x :: xs) = .int .i64 x.d.act :: .int .i64 x.d.id :: .int .i64 x.d.v.id :: .int .i64 x.d.v.fr :: .bool x.d.v.snap :: x.fv :: .int .i64 x.d.v.next :: aflat xs := by simp [aflat]
    rw [e]
    cases i with
    | zero => simp at h; subst h; simp
    | succ i =>
      have h' : xs[i]? = some g := by simpa using h
      have h2 := ih i g h'
      rw [show (i + 1) * 7 = i * 7 + 1 + 1 + 1 + 1 + 1 + 1 + 1 from by omega]
      simp only [List.getElem?_cons_succ]
      exact h2
theorem aflat_snoc (gs : List AV) (g : AV) : aflat (gs ++ [g]) = aflat gs ++ [.int .i64 g.d.act, .int .i64 g.d.id, .int .i64 g.d.v.id, .int .i64 g.d.v.fr, .bool g.d.v.snap, g.fv, .int .i64 g.d.v.next] := by simp [aflat]
theorem mixA_nil (w : World) (base : Nat) : MixA w base (.slice none 0 0) [] := ⟨[], rfl, World.ownsRow_nil _ _ _ _, fun x hx => by simp at hx⟩
theorem MixA.at {w : World} {base : Nat} {v : Value} {ls : List ActD} (h : MixA w base v ls) : ∃ a cap, v = .slice a ls.length cap ∧ ActsAt w a ls ∧ CapOk a cap ls.length := by
  obtain ⟨gs, rfl, ho, hg⟩ := h
  have hh := ho
  rw [List.length_map]
  rcases ho.2 with ⟨hv, hn⟩ | ⟨g, cap, cur, hv, hb, _, hnc, _⟩
  · exact ⟨none, 0, by rw [hv, hn], .inl (by rw [List.length_eq_zero_iff.1 hn]; rfl), by omega, (fun _ => rfl), (fun p e => by cases e)⟩
  · refine ⟨_, cap, hv, .inr ⟨g, 0, rfl, fun i hi => ?_⟩, hnc, (fun e => by cases e), (fun p e _ => by injection e with e; rw [← e])⟩
    rw [List.length_map] at hi
    obtain ⟨c0, c1, c2, c3, c4, c5, c6⟩ := aflat_get gs i _ (List.getElem?_eq_getElem hi)
    obtain ⟨ab, cb, eb, hib, kib⟩ := hg gs[i] (List.getElem_mem hi)
    have hgd : (gs.map AV.d).getD i act0 = gs[i].d := by simp [List.getD, hi]
    rw [hgd, Nat.zero_add]
    have K : ∀ j u, (aflat gs)[j]? = some u → w.cell? ⟨g, j, none⟩ = some u := fun j u hj => by
      have := hh.cells (g := g) (by rw [hv]; rfl) j u hj
      rwa [addr_add, Nat.zero_add] at this
    rw [eb] at c5
    exact ⟨K _ _ c0, K _ _ c1, ab, cb, ⟨K _ _ c2, K _ _ c3, K _ _ c4, K _ _ c5, K _ _ c6⟩, hib, kib⟩
theorem MixA.snoc {w : World} {base : Nat} {v : Value} {gs : List AV} {g : AV} (hg : ∀ x ∈ gs, ReadA w x) (h1 : ReadA w g)
    (h : w.ownsRow base 34 7 v (gs.length + 1) (aflat gs ++ [.int .i64 g.d.act, .int .i64 g.d.id, .int .i64 g.d.v.id, .int .i64 g.d.v.fr, .bool g.d.v.snap, g.fv, .int .i64 g.d.v.next])) : MixA w base v (gs.map AV.d ++ [g.d]) := by
  refine ⟨gs ++ [g], by simp, ?_, ?_⟩
  · rw [aflat_snoc, List.length_append]; exact h
  · intro x hx
    rcases List.mem_append.1 hx with h2 | h2
    · exact hg x h2
    · simp at h2; subst h2; exact h1
theorem Try.info34 : (Try.prog.info? 34).map (fun i => (i.zero, i.size, i.bytes)) = some (some (.agg #[.int .i64 0, .int .i64 0, .int .i64 0, .int .i64 0, .bool false, .slice none 0 0, .int .i64 0]), 7, 72) := by kernel_rfl

end Go.Proofs.Ytodahdnnlkcfdaa
