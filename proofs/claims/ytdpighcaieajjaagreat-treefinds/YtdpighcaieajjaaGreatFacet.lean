/- The face of package tree: Find, Links, New. -/
import Derived.Test.YtdpighcaieajjaaGreatOpenv
namespace Go.Proofs.YtdpighcaieajjaaGreat
open Go.RowKit

def FindR (d : VolD) (p : ByteArray) (er : Int) (f : FileD) : Prop :=
  (VolOk d ∧ ∃ L, pathN p = some L ∧ (((findF d.files 0 L).2 = 0 ∧ er = 0 ∧ f = d.files.getD (findF d.files 0 L).1 f0) ∨ ((findF d.files 0 L).2 ≠ 0 ∧ er = (findF d.files 0 L).2 ∧ f = f0))) ∨ (¬ (VolOk d ∧ (pathN p).isSome = true) ∧ er = 1 ∧ f = f0)
theorem file_zero (w : World) : FileVal w (.agg #[.int .i64 0, .bool false, .int .i64 0, .slice none 0 0, .slice none 0 0]) f0 :=
  ⟨none, 0, none, 0, rfl, ⟨.inl rfl, by simp [CapOk, f0]⟩, .inl rfl, by simp [CapOk, f0]⟩
theorem VolOk.sound {d : VolD} (h : VolOk d) : Sound d.files := ⟨h.2.1.1.1, h.2.2.1.1⟩
theorem VolOk.web {d : VolD} (h : VolOk d) : Web d.files := web_of h.2.1 h.2.2.1.1 h.2.2.1.2
theorem VolOk.one {d : VolD} (h : VolOk d) : atI d.files 1 = some 0 := by
  have := atI_self h.web.ris h.web.pos
  rw [h.2.1.1.2.2.1] at this
  exact this

theorem five_read {w : World} {g : Nat} {c0 c1 c2 c3 c4 d0 d1 d2 d3 d4 : Value} {t : TypeId} (h : w.heap[g]? = some (.cells #[c0, c1, c2, c3, c4] t (0, 0))) (ob : Obj) :
    let W := (((((w.setCell ⟨g, 0, none⟩ d0).setCell ⟨g, 1, none⟩ d1).setCell ⟨g, 2, none⟩ d2).setCell ⟨g, 3, none⟩ d3).setCell ⟨g, 4, none⟩ d4).alloc ob
    W.cell? ⟨g, 0, none⟩ = some d0 ∧ W.cell? ⟨g, 1, none⟩ = some d1 ∧ W.cell? ⟨g, 2, none⟩ = some d2 ∧ W.cell? ⟨g, 3, none⟩ = some d3 ∧ W.cell? ⟨g, 4, none⟩ = some d4 := by
  intro W
  have h5 := five_set (d0 := d0) (d1 := d1) (d2 := d2) (d3 := d3) (d4 := d4) h
  have h6 : W.heap[g]? = some (.cells #[d0, d1, d2, d3, d4] t (0, 0)) := (Lib.alloc_old _ _ _ (Array.getElem?_eq_some_iff.1 h5).1).trans h5
  obtain ⟨a0, a1, a2, a3, a4, _⟩ := five h6
  exact ⟨a0, a1, a2, a3, a4⟩
theorem OwnPtr.node {w : World} {base B q : Nat} {d : VolD} {v : Value} (h : OwnPtr w base B d) (hn : NodeOf w B d v q) : ∃ b o bv lv, v = .agg #[.pointer (some ⟨b, o, none⟩)] ∧ (w.cell? ⟨b, o, none⟩ = some (.int .i64 (d.files.getD q f0).id) ∧ w.cell? ⟨b, o + 1, none⟩ = some (.bool (d.files.getD q f0).dir) ∧ w.cell? ⟨b, o + 2, none⟩ = some (.int .i64 (d.files.getD q f0).size) ∧ w.cell? ⟨b, o + 3, none⟩ = some bv ∧ w.cell? ⟨b, o + 4, none⟩ = some lv) ∧ OwnFV w base ⟨d.files.getD q f0, bv, lv⟩ := by
  obtain ⟨_, fv, h1, gs, h2, h3, h4, _⟩ := h
  obtain ⟨a, o, c, g1, g2, rfl⟩ := hn
  rw [h1] at g1
  simp only [Option.some.injEq, Obj.cells.injEq, Array.mk.injEq, List.cons.injEq, true_and, and_true] at g1
  have hlen : gs.length = d.files.length := by rw [← h2, List.length_map]
  obtain ⟨g0, cap, hv, hb, hl⟩ := slice_cells h3 (by omega)
  rw [g1] at hv
  simp only [Value.slice.injEq, Option.some.injEq, Addr.mk.injEq] at hv
  obtain ⟨⟨rfl, rfl, _⟩, _, _⟩ := hv
  have hq : q < gs.length := by omega
  have hgq : gs[q]? = some gs[q] := List.getElem?_eq_getElem hq
  obtain ⟨c0, c1, c2, c3, c4⟩ := fflat_get gs q _ hgq
  have K : ∀ j u, (fflat gs)[j]? = some u → w.cell? ⟨a, 0 + j, none⟩ = some u := fun j u hj => by
    have := h3.cells (g := a) (by rw [g1]; rfl) j u hj
    rwa [Addr.add_lit] at this
  have e : d.files.getD q f0 = gs[q].d := by rw [← h2]; simp [List.getD, hq]
  rw [e]
  exact ⟨a, _, gs[q].bv, gs[q].lv, rfl, ⟨K _ _ c0, by have := K _ _ c1; rwa [← Nat.add_assoc] at this, by have := K _ _ c2; rwa [← Nat.add_assoc] at this, by have := K _ _ c3; rwa [← Nat.add_assoc] at this, by have := K _ _ c4; rwa [← Nat.add_assoc] at this⟩, h4 _ (List.getElem_mem hq)⟩
theorem OwnFV.file {w : World} {base : Nat} {f : FileD} {bv lv : Value} (h : OwnFV w base ⟨f, bv, lv⟩) : FileVal w (.agg #[.int .i64 f.id, .bool f.dir, .int .i64 f.size, bv, lv]) f := by
  obtain ⟨ab, cb, e1, h1, h2⟩ := h.1.at
  obtain ⟨al, cl, e2, h3, h4⟩ := h.2.at
  simp only at e1 e2
  subst e1; subst e2
  exact ⟨ab, cb, al, cl, rfl, ⟨h1, h2⟩, h3, h4⟩

/-- a file of one's own -/
def FileOwn (w : World) (base : Nat) (u : Value) (f : FileD) : Prop := ∃ bv lv, u = .agg #[.int .i64 f.id, .bool f.dir, .int .i64 f.size, bv, lv] ∧ OwnFV w base ⟨f, bv, lv⟩
theorem FileOwn.val {w : World} {base : Nat} {u : Value} {f : FileD} (h : FileOwn w base u f) : FileVal w u f := by
  obtain ⟨bv, lv, rfl, h⟩ := h
  exact h.file
theorem fileOwn_zero (w : World) (base : Nat) : FileOwn w base (.agg #[.int .i64 0, .bool false, .int .i64 0, .slice none 0 0, .slice none 0 0]) f0 :=
  ⟨_, _, rfl, World.ownsRow_nil _ _ _ _, World.ownsRow_nil _ _ _ _⟩
set_option maxRecDepth 100000 in
set_option maxHeartbeats 4000000 in
theorem tfind_own (v : Value) (d : VolD) (p : ByteArray) (w : World) (hv : VolVal w v d) (hs : SmallV d) (hpl : ∀ L, pathN p = some L → L.length ≤ 100000) :
    Calls Tryz.prog 14 #[v, .string p] w fun e w' => (∃ u er f, e = .returned (.tuple #[u, .int .i64 er]) ∧ FileOwn w' w.heap.size u f ∧ FindR d p er f) ∧ Below w.heap.size w w' := by
  have HVV : Hid (VolVal w v d) := hv
  have HS : Hid (SmallV d) := hs
  have HPL : Hid (∀ L, pathN p = some L → L.length ≤ 100000) := hpl
  obtain ⟨a, ca, rfl, _, _⟩ := hv
  have HB0 : Hid (Below w.heap.size w (((w.alloc (.cells #[.int .i64 d.id, .int .i64 d.fr, .bool d.snap, .slice a d.files.length ca, .int .i64 d.next] 24)).alloc (.cells #[.int .i64 0, .bool false, .int .i64 0, .slice none 0 0, .slice none 0 0] 39)).alloc (.cells #[.string p] 9))) := nwA (nwA (nwA (nwR w) _) _) _
  have HR0 : Hid ((((w.alloc (.cells #[.int .i64 d.id, .int .i64 d.fr, .bool d.snap, .slice a d.files.length ca, .int .i64 d.next] 24)).alloc (.cells #[.int .i64 0, .bool false, .int .i64 0, .slice none 0 0, .slice none 0 0] 39)).alloc (.cells #[.string p] 9)).heap[w.heap.size + 1]? = some (.cells #[.int .i64 0, .bool false, .int .i64 0, .slice none 0 0, .slice none 0 0] 39 (0, 0))) := three_1 w _ _ _
  have HST : Hid (StrsAt (((w.alloc (.cells #[.int .i64 d.id, .int .i64 d.fr, .bool d.snap, .slice a d.files.length ca, .int .i64 d.next] 24)).alloc (.cells #[.int .i64 0, .bool false, .int .i64 0, .slice none 0 0, .slice none 0 0] 39)).alloc (.cells #[.string p] 9)) (some ⟨w.heap.size + 2, 0, none⟩) [p]) := by
    have := StrsAt.of_alloc (w := (w.alloc (.cells #[.int .i64 d.id, .int .i64 d.fr, .bool d.snap, .slice a d.files.length ca, .int .i64 d.next] 24)).alloc (.cells #[.int .i64 0, .bool false, .int .i64 0, .slice none 0 0, .slice none 0 0] 39)) (xs := [p]) (cs := #[.string p]) (t := 9) rfl
    show StrsAt _ _ _
    simpa using this
  clear hs hpl
  go_enter Tryz.func14, Tryz.ntmps14
  go_wp2_with fail
  refine (open_any _ d _ [p] 1 _ (HVV.out.below HB0.out) HS.out HST.out (by simp)).mono ?_
  rintro e w1 ⟨hop, hb1⟩
  have HB1 : Hid (Below w.heap.size w w1) := nwT HB0.out hb1
  have HR1 : Hid (w1.heap[w.heap.size + 1]? = some (.cells #[.int .i64 0, .bool false, .int .i64 0, .slice none 0 0, .slice none 0 0] 39 (0, 0))) := (hb1.block _ (Array.getElem?_eq_some_iff.1 HR0.out).1).trans HR0.out
  clear hb1 HB0 HR0 HST
  rcases hop with ⟨hok, hpo, B, rfl, hown⟩ | ⟨hno, rfl⟩
  · have hps : (pathN p).isSome = true := hpo p (by simp)
    obtain ⟨L, hL⟩ := Option.isSome_iff_exists.1 hps
    have HL : Hid (pathN p = some L) := hL
    have HOK : Hid (VolOk d) := hok
    have HVA : Hid (VolAt w1 B d) := hown.at
    have HOW : Hid (OwnPtr w1 (w.heap.size + 3) B d) := by have := hown; rw [size3] at this; exact this
    clear hpo hown hps hL hok
    go_wp2_with fail
    refine (findp_any B d p L _ HVA.out HS.out HOK.out.sound HOK.out.one HL.out (HPL.out L HL.out)).mono ?_
    rintro e w2 ⟨⟨u, rfl, hyes, hnone⟩, hb2⟩
    have HB2 : Hid (Below w.heap.size w w2) := nwT HB1.out hb2
    have HR2 : Hid (w2.heap[w.heap.size + 1]? = some (.cells #[.int .i64 0, .bool false, .int .i64 0, .slice none 0 0, .slice none 0 0] 39 (0, 0))) := (hb2.block _ (Array.getElem?_eq_some_iff.1 HR1.out).1).trans HR1.out
    have HOW2 : Hid (OwnPtr w2 (w.heap.size + 3) B d) := HOW.out.below hb2
    clear hb2
    have hrl := (Array.getElem?_eq_some_iff.1 HR2.out).1
    obtain ⟨r0, r1, r2, r3, r4, rf⟩ := five HR2.out
    generalize hr : findF d.files 0 L = r at hyes hnone
    obtain ⟨q, er⟩ := r
    simp only at hyes hnone
    by_cases her : er = 0
    · subst her
      obtain ⟨b, o, bv, lv, rfl, ⟨c0, c1, c2, c3, c4⟩, hof⟩ := HOW2.out.node (hyes rfl)
      have HFR : Hid (FindR d p 0 (d.files.getD q f0)) := .inl ⟨HOK.out, L, HL.out, .inl (by rw [hr]; exact ⟨rfl, rfl, rfl⟩)⟩
      have HFV : Hid (OwnFV w2 (w.heap.size + 3) ⟨d.files.getD q f0, bv, lv⟩) := hof
      obtain ⟨ab, cb, e1, _, _⟩ := hof.1.at
      obtain ⟨al, cl, e2, _, _⟩ := hof.2.at
      simp only at e1 e2
      subst e1; subst e2
      have hbl := block_lt_of_cell c0
      clear hyes hnone hof hr
      generalize hfg : d.files.getD q f0 = f at c0 c1 c2 c3 c4 HFR HFV
      clear hfg
      obtain ⟨fid, fdir, fsize, fbl, fli⟩ := f
      simp only at c0 c1 c2 c3 c4
      go_wp2_with fail
      obtain ⟨k0, k1, k2, k3, k4⟩ := five_read (d0 := .int .i64 fid) (d1 := .bool fdir) (d2 := .int .i64 fsize) (d3 := .slice ab fbl.length cb) (d4 := .slice al fli.length cl) HR2.out (.cells #[.pointer (some ⟨b, o, none⟩)] 81)
      refine bodyPost_ret (v := .tuple #[.agg #[.int .i64 fid, .bool fdir, .int .i64 fsize, .slice ab fbl.length cb, .slice al fli.length cl], .int .i64 0]) (by simp [results, Tryz.results14, go_sem, k0, k1, k2, k3, k4]) rfl ⟨⟨_, 0, ⟨fid, fdir, fsize, fbl, fli⟩, rfl, ⟨_, _, rfl, ?_⟩, HFR.out⟩, ?_⟩
      · refine OwnFV.le (base := w.heap.size + 3) ?_ (Nat.le_add_right _ _)
        exact OwnFV.below (((((HFV.out.set 0 (g := w.heap.size + 1) (by omega) _).set 1 (by omega) _).set 2 (by omega) _).set 3 (by omega) _).set 4 (by omega) _) (nwA (nwR _) _)
      · exact nwA (five_below HB2.out (Nat.le_succ _)) _
    · have HFR : Hid (FindR d p er f0) := .inl ⟨HOK.out, L, HL.out, .inr (by rw [hr]; exact ⟨her, rfl, rfl⟩)⟩
      have hu := hnone her
      subst hu
      clear hyes hnone hr
      go_wp2_with fail
      obtain ⟨k0, k1, k2, k3, k4⟩ := five_read (d0 := .int .i64 0) (d1 := .bool false) (d2 := .int .i64 0) (d3 := .slice none 0 0) (d4 := .slice none 0 0) HR2.out (.cells #[.pointer none] 81)
      refine bodyPost_ret (v := .tuple #[.agg #[.int .i64 0, .bool false, .int .i64 0, .slice none 0 0, .slice none 0 0], .int .i64 er]) (by simp [results, Tryz.results14, go_sem, k0, k1, k2, k3, k4]) rfl ⟨⟨_, er, f0, rfl, fileOwn_zero _ _, HFR.out⟩, ?_⟩
      exact nwA (five_below HB2.out (Nat.le_succ _)) _
  · have HNO : Hid (¬ (VolOk d ∧ PathsOk [p])) := hno
    have HFR : Hid (FindR d p 1 f0) := .inr ⟨fun h => HNO.out ⟨h.1, fun x hx => by simp at hx; subst hx; exact h.2⟩, rfl, rfl⟩
    obtain ⟨r0, r1, r2, r3, r4, rf⟩ := five HR1.out
    clear hno
    go_wp2_with fail
    refine bodyPost_ret (v := .tuple #[.agg #[.int .i64 0, .bool false, .int .i64 0, .slice none 0 0, .slice none 0 0], .int .i64 1]) (by simp [results, Tryz.results14, go_sem, r0, r1, r2, r3, r4]) rfl ⟨⟨_, 1, f0, rfl, fileOwn_zero _ _, HFR.out⟩, ?_⟩
    exact five_below HB1.out (Nat.le_succ _)

theorem tfind_any (v : Value) (d : VolD) (p : ByteArray) (w : World) (hv : VolVal w v d) (hs : SmallV d) (hpl : ∀ L, pathN p = some L → L.length ≤ 100000) :
    Calls Tryz.prog 14 #[v, .string p] w fun e w' => (∃ u er f, e = .returned (.tuple #[u, .int .i64 er]) ∧ FileVal w' u f ∧ FindR d p er f) ∧ Below w.heap.size w w' :=
  (tfind_own v d p w hv hs hpl).mono fun _ _ ⟨⟨u, er, f, h1, h2, h3⟩, h4⟩ => ⟨⟨u, er, f, h1, h2.val, h3⟩, h4⟩
set_option maxRecDepth 100000 in
set_option maxHeartbeats 4000000 in
theorem tlinks_any (v : Value) (d : VolD) (id : Int) (w : World) (hv : VolVal w v d) (hs : SmallV d) :
    Calls Tryz.prog 20 #[v, .int .i64 id] w fun e w' => (∃ n er : Int, e = .returned (.tuple #[.int .i64 n, .int .i64 er]) ∧ ((VolOk d ∧ er = 0 ∧ n = (linksN d.files id : Nat)) ∨ (¬ VolOk d ∧ er = 1 ∧ n = 0))) ∧ Below w.heap.size w w' := by
  have HVV : Hid (VolVal w v d) := hv
  have HS : Hid (SmallV d) := hs
  obtain ⟨a, ca, rfl, _, _⟩ := hv
  have HB0 : Hid (Below w.heap.size w (w.alloc (.cells #[.int .i64 d.id, .int .i64 d.fr, .bool d.snap, .slice a d.files.length ca, .int .i64 d.next] 24))) := nwA (nwR w) _
  clear hs
  go_enter Tryz.func20, Tryz.ntmps20
  go_wp2_with fail
  refine (open_any _ d none [] 0 _ (HVV.out.below HB0.out) HS.out (.inl rfl) (by simp)).mono ?_
  rintro e w1 ⟨hop, hb1⟩
  have HB1 : Hid (Below w.heap.size w w1) := nwT HB0.out hb1
  clear hb1 HB0
  rcases hop with ⟨hok, _, B, rfl, hown⟩ | ⟨hno, rfl⟩
  · have HOK : Hid (VolOk d) := hok
    have HVA : Hid (VolAt w1 B d) := hown.at
    clear hown hok
    go_wp2_with fail
    refine (vlinks_any B d id _ HVA.out HS.out).mono ?_
    rintro e w2 ⟨rfl, hb2⟩
    have HB2 : Hid (Below w.heap.size w w2) := nwT HB1.out hb2
    clear hb2
    go_wp2_with fail
    go_ret2
    exact ⟨⟨_, _, rfl, .inl ⟨HOK.out, rfl, rfl⟩⟩, HB2.out⟩
  · have HNO : Hid (¬ VolOk d) := fun h => hno ⟨h, fun p hp => by simp at hp⟩
    clear hno
    go_wp2_with fail
    go_ret2
    exact ⟨⟨_, _, rfl, .inr ⟨HNO.out, rfl, rfl⟩⟩, HB1.out⟩

end Go.Proofs.YtdpighcaieajjaaGreat
