/- Laid together: Snapr. -/
import Derived.Test.YtodahdnnlkcfdaaVolM16
/- A snapshot and a clone, by the page. -/
namespace Go.Proofs.Ytodahdnnlkcfdaa
open Go.RowKit

/-- what the page tells: the volumes, and the error -/
def PgR (r : Int × List VolD) (base : Nat) (e : Ending) (w' : World) : Prop := ∃ u, e = .returned (.tuple #[u, .int .i64 r.1]) ∧ OwnVols w' base u r.2
theorem pgR_err (r : Int × List VolD) (base : Nat) (w' : World) (n : Int) (h : r = (n, [])) : PgR r base (.returned (.tuple #[.slice none 0 0, .int .i64 n])) w' := by
  subst h; exact ⟨_, rfl, ownVs_nil _ _⟩
theorem OwnVols.rows {w : World} {base : Nat} {v : Value} {ds : List VolD} (h : OwnVols w base v ds) : ∃ gs : List VV, gs.map VV.d = ds ∧ gs.length = ds.length ∧ w.ownsRow base 32 5 v ds.length (vflat gs) ∧ ∀ g ∈ gs, OwnFiles w base g.fv g.d.files := by
  obtain ⟨gs, e, hr, ha⟩ := h
  have hl : gs.length = ds.length := by rw [← e, List.length_map]
  exact ⟨gs, e, hl, by rw [← hl]; exact hr, ha⟩
theorem ownBlk {w : World} {base : Nat} {v : Value} {ds : List VolD} (h : OwnVols w base v ds) (q : Nat) (e : v.ownBlock = some q) : base ≤ q := by
  obtain ⟨gs, _, hr, _⟩ := h
  exact (World.ownsRow.lt hr q e).1
theorem cells5b {w : World} {g : Nat} {c0 c1 c2 c3 c4 : Value} {t : TypeId} (h : w.heap[g]? = some (.cells #[c0, c1, c2, c3, c4] t (0, 0))) : ∀ j u, [c0, c1, c2, c3, c4][j]? = some u → w.cell? ((⟨g, 0, none⟩ : Addr).add j) = some u := by
  intro j u hj
  rw [addr_add, Nat.zero_add, cell_heap h, ← hj]
  simp
/-- one more volume behind a row -/
theorem OwnVols.more {w w5 : World} {base : Nat} {v v' : Value} {ds : List VolD} {gs : List VV} {d : VolD} {fv : Value} (hgs : gs.map VV.d = ds) (hl : gs.length = ds.length) (hall : ∀ g ∈ gs, OwnFiles w base g.fv g.d.files) (hrow : w.ownsRow base 32 5 v ds.length (vflat gs)) (hf : OwnFiles w base fv d.files) (hg : w.grownBy w5 v.ownBlock)
    (hown : w5.ownsRow base 32 5 v' (ds.length + 1) (vflat gs ++ [.int .i64 d.id, .int .i64 d.fr, .bool d.snap, fv, .int .i64 d.next])) : OwnVols w5 base v' (ds ++ [d]) := by
  have h2 := OwnVols.snoc (w := w5) (base := base) (v := v') (gs := gs) (g := ⟨d, fv⟩) (fun y hy => (hall y hy).grown hrow hg) (hf.grown hrow hg) (by rw [hl]; exact hown)
  rw [hgs] at h2; exact h2

set_option maxRecDepth 100000 in
set_option maxHeartbeats 4000000 in
theorem snapr_any (a : Option Addr) (ds : List VolD) (ca : Nat) (next id : Int) (w : World) (hv : VolsAt w a ds) (hs : SmallW ds) :
    Calls Try.prog 28 #[.slice a ds.length ca, .int .i64 next, .int .i64 id, .bool false] w fun e w' => PgR (snpF ds next id false) w.heap.size e w' ∧ Below w.heap.size w w' := by
  have HS : Hid (SmallW ds) := hs
  have HV : Hid (VolsAt w a ds) := hv
  have hl := hs.1
  have HAT : Hid (Calls Try.prog 32 #[.slice a ds.length ca, .int .i64 id] w fun e w' => e = .returned (.int .i64 (optI (atV ds id))) ∧ w' = w) := atv_any a ds ca id w hv hl
  clear hs hv
  obtain ⟨i0, hi, hz0, hz1, hz2⟩ := info_parts Try.info32
  cases hat : atV ds id with
  | none =>
    have HA2 : Hid (Calls Try.prog 32 #[.slice a ds.length ca, .int .i64 id] w fun e w' => e = .returned (.int .i64 (-1)) ∧ w = w') := HAT.out.mono fun e w' h => ⟨by rw [h.1, hat]; rfl, h.2.symm⟩
    have HQ : Hid (∀ w', PgR (snpF ds next id false) w.heap.size (.returned (.tuple #[.slice none 0 0, .int .i64 3])) w') := fun w' => pgR_err _ _ _ _ (by unfold snpF; rw [hat])
    clear HAT hat
    go_enter Try.func28, Try.ntmps28
    go_wp2_with fail
    refine HA2.out.mono ?_
    rintro e w' ⟨rfl, rfl⟩
    go_wp2_with fail
    go_ret2
    exact ⟨HQ.out _, nwR w⟩
  | some k =>
    have hkl := atV_lt hat
    have hki : (k : Int) < (ds.length : Int) := by omega
    have hk0 : (0 : Int) ≤ (k : Int) := by omega
    have HA2 : Hid (Calls Try.prog 32 #[.slice a ds.length ca, .int .i64 id] w fun e w' => e = .returned (.int .i64 (k : Int)) ∧ w = w') := HAT.out.mono fun e w' h => ⟨by rw [h.1, hat]; rfl, h.2.symm⟩
    have HUF : Hid (snpF ds next id false = if (ds.getD k VZ).snap ≠ false then (9, []) else if 4 ≤ ds.length ∨ 1073741824 ≤ next then (2, []) else (0, ds ++ [⟨next, id, true, (ds.getD k VZ).files, (ds.getD k VZ).next⟩])) := by show _ = _; unfold snpF; simp only [hat]; first | rfl | simp
    have HSM : Hid (SmallV (ds.getD k VZ)) := HS.out.2 _ (by simp [List.getD, hkl])
    obtain ⟨b1, o1, rfl, hvi⟩ := HV.out.vol hkl
    obtain ⟨af, cf, ⟨c0, c1, c2, c3, c4⟩, hvl⟩ := hvi.val
    clear HAT hat hvi
    generalize ds.getD k VZ = d at HUF HSM c0 c1 c2 c3 c4 hvl
    have HVL : Hid (VolVal w (.agg #[.int .i64 d.id, .int .i64 d.fr, .bool d.snap, .slice af d.files.length cf, .int .i64 d.next]) d) := hvl
    clear hvl
    cases hsn : d.snap
    case true =>
      have HQ : Hid (∀ w', PgR (snpF ds next id false) w.heap.size (.returned (.tuple #[.slice none 0 0, .int .i64 9])) w') := fun w' => pgR_err _ _ _ _ (by rw [HUF.out, if_pos (by rw [hsn]; decide)])
      rw [hsn] at c2
      clear hsn HUF HVL
      go_enter Try.func28, Try.ntmps28
      go_wp2_with fail
      refine HA2.out.mono ?_
      rintro e w' ⟨rfl, rfl⟩
      go_wp2_with fail
      go_ret2
      exact ⟨HQ.out _, nwR w⟩
    case false =>
    have HUF2 : Hid (snpF ds next id false = if 4 ≤ ds.length ∨ 1073741824 ≤ next then (2, []) else (0, ds ++ [⟨next, id, true, d.files, d.next⟩])) := by show _ = _; rw [HUF.out, if_neg (by rw [hsn]; decide)]
    have HV2 : Hid (VolVal w (.agg #[.int .i64 d.id, .int .i64 d.fr, .bool false, .slice af d.files.length cf, .int .i64 d.next]) d) := by have h := HVL.out; rw [hsn] at h; exact h
    rw [hsn] at c2
    clear hsn HUF HVL
    by_cases hfull : 4 ≤ ds.length ∨ 1073741824 ≤ next
    case pos =>
      have HQ : Hid (∀ w', PgR (snpF ds next id false) w.heap.size (.returned (.tuple #[.slice none 0 0, .int .i64 2])) w') := fun w' => pgR_err _ _ _ _ (by rw [HUF2.out, if_pos hfull])
      clear HUF2 HV2
      by_cases h4 : 4 ≤ ds.length
      · have h4i : (4 : Int) ≤ (ds.length : Int) := by omega
        clear hfull h4
        go_enter Try.func28, Try.ntmps28
        go_wp2_with fail
        refine HA2.out.mono ?_
        rintro e w' ⟨rfl, rfl⟩
        go_wp2_with fail
        go_ret2
        exact ⟨HQ.out _, nwR w⟩
      · have h4i : ¬ (4 : Int) ≤ (ds.length : Int) := by omega
        have hnx : (1073741824 : Int) ≤ next := by omega
        clear hfull h4
        go_enter Try.func28, Try.ntmps28
        go_wp2_with fail
        refine HA2.out.mono ?_
        rintro e w' ⟨rfl, rfl⟩
        go_wp2_with fail
        go_ret2
        exact ⟨HQ.out _, nwR w⟩
    case neg =>
    have h4i : ¬ (4 : Int) ≤ (ds.length : Int) := by omega
    have hnx : ¬ (1073741824 : Int) ≤ next := by omega
    have HUF3 : Hid (snpF ds next id false = (0, ds ++ [⟨next, id, true, d.files, d.next⟩])) := by show _ = _; rw [HUF2.out, if_neg hfull]
    clear hfull HUF2
    go_enter Try.func28, Try.ntmps28
    go_wp2_with fail
    refine HA2.out.mono ?_
    rintro e w' ⟨rfl, rfl⟩
    clear HA2
    go_wp2_with fail
    refine (copyVol_any _ d w HV2.out HSM.out).mono ?_
    rintro e w1 ⟨⟨u, rfl, fv, rfl, hfv⟩, hb1⟩
    obtain ⟨afv, cfv, rfl, _, _⟩ := OwnFiles.at hfv
    have HFV : Hid (OwnFiles w1 w.heap.size (.slice afv d.files.length cfv) d.files) := hfv
    have HB1 : Hid (Below w.heap.size w w1) := hb1
    clear hfv hb1 HV2 c0 c1 c2 c3 c4
    go_upto_region 12 with fail
    obtain ⟨W0, hW0⟩ : ∃ W0, W0 = w1.alloc (.cells #[.int .i64 next, .int .i64 id, .bool true, .slice afv d.files.length cfv, .int .i64 d.next] 32) := ⟨_, rfl⟩
    have HTX : Hid (W0.heap[w1.heap.size]? = some (.cells #[.int .i64 next, .int .i64 id, .bool true, .slice afv d.files.length cfv, .int .i64 d.next] 32 (0, 0))) := by rw [hW0]; exact heap_alloc_new w1 _
    have HBW : Hid (Below w.heap.size w W0) := by rw [hW0]; exact nwA HB1.out _
    have HVW : Hid (VolsAt W0 (some ⟨b1, o1, none⟩) ds) := HV.out.below HBW.out
    have HFW : Hid (OwnFiles W0 w.heap.size (.slice afv d.files.length cfv) d.files) := by
      have h : Below w1.heap.size w1 W0 := by rw [hW0]; exact nwA (nwR w1) _
      exact HFV.out.below h
    have hTl := (Array.getElem?_eq_some_iff.1 HTX.out).1
    have hsW := HBW.out.size
    rw [← hW0]
    generalize w1.heap.size = T at hTl HTX ⊢
    have hS := nwR W0
    have z0 : ∀ w', Below W0.heap.size W0 w' → w'.heap[T]? = some (.cells #[.int .i64 next, .int .i64 id, .bool true, .slice afv d.files.length cfv, .int .i64 d.next] 32 (0, 0)) := fun w' h => (h.block _ hTl).trans HTX.out
    have hB1 : ds.length + 1 ≤ maxLen := by unfold maxLen; omega
    have hB2 : (ds.length + 1) * 56 ≤ 140737488355328 := by omega
    clear hW0 HFV HB1
    have q0 : ∀ w', Below W0.heap.size W0 w' → w'.cell? ⟨T, 0, none⟩ = some (.int .i64 next) := fun w' h => (five (z0 w' h)).1
    have q1 : ∀ w', Below W0.heap.size W0 w' → w'.cell? ⟨T, 1, none⟩ = some (.int .i64 id) := fun w' h => (five (z0 w' h)).2.1
    have q2 : ∀ w', Below W0.heap.size W0 w' → w'.cell? ⟨T, 2, none⟩ = some (.bool true) := fun w' h => (five (z0 w' h)).2.2.1
    have q3 : ∀ w', Below W0.heap.size W0 w' → w'.cell? ⟨T, 3, none⟩ = some (.slice afv d.files.length cfv) := fun w' h => (five (z0 w' h)).2.2.2.1
    have q4 : ∀ w', Below W0.heap.size W0 w' → w'.cell? ⟨T, 4, none⟩ = some (.int .i64 d.next) := fun w' h => (five (z0 w' h)).2.2.2.2.1
    go_region_held3 (fun w' => Below W0.heap.size W0 w') (first | assumption | exact Below.drew (by assumption) | exact nwA (by assumption) _ | exact nwT (by assumption) (by assumption)) (first
      | (go_at_call 10; refine (copyVols_any _ ds ca _ (HVW.out.below (by assumption)) HS.out).mono ?_; rintro e wU ⟨⟨nv, rfl, hnv0⟩, hbU⟩; have hBU : Below W0.heap.size W0 wU := nwT (by assumption) hbU; have hsU : w.heap.size ≤ wU.heap.size := Nat.le_trans hsW hBU.size; have hnv1 : OwnVols wU W0.heap.size nv ds := hnv0.le (Below.size (by assumption)); have hnv : OwnVols wU w.heap.size nv ds := hnv1.le hsW; obtain ⟨gs, hgs, hgl, hrow, hall⟩ := OwnVols.rows hnv; obtain ⟨y0, y1, y2, y3, y4, _⟩ := five (z0 wU hBU))
      | (refine step_append_src (by rfl) (.tmp 46) (.tmp 48) 22 (by rfl) w.heap.size 32 i0 (.agg #[.int .i64 0, .int .i64 0, .bool false, .slice none 0 0, .int .i64 0]) 5 56 Try.underlying22 hi hz0 hz1 hz2 rfl (by decide) nv ds.length (vflat gs) (by simp [Act.eval]) (by exact World.ownsRow.alloc hrow _) (some ⟨wU.heap.size, 0, none⟩) 1 1 [.int .i64 next, .int .i64 id, .bool true, .slice afv d.files.length cfv, .int .i64 d.next] (by simp [Act.eval]) rfl (by intro h; cases h) (fun p e j u hj => by injection e with e; subst e; exact cells5 wU _ _ _ _ _ _ j u hj) (by simp [Value.oneCell']) hB1 hB2 (by simp; omega) ?_; intro nv2 w5 hown1 hgrow1; have hGR : wU.grownBy w5 nv.ownBlock := (gbOf (nwA (nwR wU) (.cells #[.int .i64 next, .int .i64 id, .bool true, .slice afv d.files.length cfv, .int .i64 d.next] 32)) _).trans hgrow1; have hb5 : Below W0.heap.size W0 w5 := hBU.grown hGR hBU.size (fun q e => by exact ownBlk hnv1 q e))
      | (have hh : wU.heap[W0.heap.size]? = some (.cells #[.int .i64 next, .int .i64 id, .bool true, .slice afv d.files.length cfv, .int .i64 d.next] 32 (0, 0)) := (hbU.block _ (by simp)).trans (heap_alloc_new _ _); refine step_append_src (by rfl) (.tmp 46) (.tmp 48) 22 (by rfl) w.heap.size 32 i0 (.agg #[.int .i64 0, .int .i64 0, .bool false, .slice none 0 0, .int .i64 0]) 5 56 Try.underlying22 hi hz0 hz1 hz2 rfl (by decide) nv ds.length (vflat gs) (by simp [Act.eval]) (by exact hrow) (some ⟨W0.heap.size, 0, none⟩) 1 1 [.int .i64 next, .int .i64 id, .bool true, .slice afv d.files.length cfv, .int .i64 d.next] (by simp [Act.eval]) rfl (by intro h; cases h) (fun p e j u hj => by injection e with e; subst e; exact cells5b hh j u hj) (by simp [Value.oneCell']) hB1 hB2 hsU ?_; intro nv2 w5 hown1 hgrow1; have hGR : wU.grownBy w5 nv.ownBlock := hgrow1; have hb5 : Below W0.heap.size W0 w5 := hBU.grown hGR hBU.size (fun q e => by exact ownBlk hnv1 q e))
      | fail)
    all_goals
      have HO5 : Hid (OwnVols w5 w.heap.size nv2 (ds ++ [⟨next, id, true, d.files, d.next⟩])) := OwnVols.more hgs hgl hall hrow (d := ⟨next, id, true, d.files, d.next⟩) (HFW.out.below hBU) hGR hown1
      have HB5 : Hid (Below w.heap.size w w5) := (nwT HBW.out hBU).grown hGR hsU (fun q e => (World.ownsRow.lt hrow q e).1)
      have HQ : Hid (PgR (snpF ds next id false) w.heap.size (.returned (.tuple #[nv2, .int .i64 0])) w5) := ⟨nv2, by rw [HUF3.out], by rw [HUF3.out]; exact HO5.out⟩
      clear hown1 hgrow1 hGR hrow hall hnv hnv0 hnv1
      go_wp2_with fail
      go_ret2
      exact ⟨HQ.out, HB5.out⟩

set_option maxRecDepth 100000 in
set_option maxHeartbeats 4000000 in
theorem cloner_any (a : Option Addr) (ds : List VolD) (ca : Nat) (next id : Int) (w : World) (hv : VolsAt w a ds) (hs : SmallW ds) :
    Calls Try.prog 28 #[.slice a ds.length ca, .int .i64 next, .int .i64 id, .bool true] w fun e w' => PgR (snpF ds next id true) w.heap.size e w' ∧ Below w.heap.size w w' := by
  have HS : Hid (SmallW ds) := hs
  have HV : Hid (VolsAt w a ds) := hv
  have hl := hs.1
  have HAT : Hid (Calls Try.prog 32 #[.slice a ds.length ca, .int .i64 id] w fun e w' => e = .returned (.int .i64 (optI (atV ds id))) ∧ w' = w) := atv_any a ds ca id w hv hl
  clear hs hv
  obtain ⟨i0, hi, hz0, hz1, hz2⟩ := info_parts Try.info32
  cases hat : atV ds id with
  | none =>
    have HA2 : Hid (Calls Try.prog 32 #[.slice a ds.length ca, .int .i64 id] w fun e w' => e = .returned (.int .i64 (-1)) ∧ w = w') := HAT.out.mono fun e w' h => ⟨by rw [h.1, hat]; rfl, h.2.symm⟩
    have HQ : Hid (∀ w', PgR (snpF ds next id true) w.heap.size (.returned (.tuple #[.slice none 0 0, .int .i64 3])) w') := fun w' => pgR_err _ _ _ _ (by unfold snpF; rw [hat])
    clear HAT hat
    go_enter Try.func28, Try.ntmps28
    go_wp2_with fail
    refine HA2.out.mono ?_
    rintro e w' ⟨rfl, rfl⟩
    go_wp2_with fail
    go_ret2
    exact ⟨HQ.out _, nwR w⟩
  | some k =>
    have hkl := atV_lt hat
    have hki : (k : Int) < (ds.length : Int) := by omega
    have hk0 : (0 : Int) ≤ (k : Int) := by omega
    have HA2 : Hid (Calls Try.prog 32 #[.slice a ds.length ca, .int .i64 id] w fun e w' => e = .returned (.int .i64 (k : Int)) ∧ w = w') := HAT.out.mono fun e w' h => ⟨by rw [h.1, hat]; rfl, h.2.symm⟩
    have HUF : Hid (snpF ds next id true = if (ds.getD k VZ).snap ≠ true then (9, []) else if 4 ≤ ds.length ∨ 1073741824 ≤ next then (2, []) else (0, ds ++ [⟨next, 0, false, (ds.getD k VZ).files, (ds.getD k VZ).next⟩])) := by show _ = _; unfold snpF; simp only [hat]; first | rfl | simp
    have HSM : Hid (SmallV (ds.getD k VZ)) := HS.out.2 _ (by simp [List.getD, hkl])
    obtain ⟨b1, o1, rfl, hvi⟩ := HV.out.vol hkl
    obtain ⟨af, cf, ⟨c0, c1, c2, c3, c4⟩, hvl⟩ := hvi.val
    clear HAT hat hvi
    generalize ds.getD k VZ = d at HUF HSM c0 c1 c2 c3 c4 hvl
    have HVL : Hid (VolVal w (.agg #[.int .i64 d.id, .int .i64 d.fr, .bool d.snap, .slice af d.files.length cf, .int .i64 d.next]) d) := hvl
    clear hvl
    cases hsn : d.snap
    case false =>
      have HQ : Hid (∀ w', PgR (snpF ds next id true) w.heap.size (.returned (.tuple #[.slice none 0 0, .int .i64 9])) w') := fun w' => pgR_err _ _ _ _ (by rw [HUF.out, if_pos (by rw [hsn]; decide)])
      rw [hsn] at c2
      clear hsn HUF HVL
      go_enter Try.func28, Try.ntmps28
      go_wp2_with fail
      refine HA2.out.mono ?_
      rintro e w' ⟨rfl, rfl⟩
      go_wp2_with fail
      go_ret2
      exact ⟨HQ.out _, nwR w⟩
    case true =>
    have HUF2 : Hid (snpF ds next id true = if 4 ≤ ds.length ∨ 1073741824 ≤ next then (2, []) else (0, ds ++ [⟨next, 0, false, d.files, d.next⟩])) := by show _ = _; rw [HUF.out, if_neg (by rw [hsn]; decide)]
    have HV2 : Hid (VolVal w (.agg #[.int .i64 d.id, .int .i64 d.fr, .bool true, .slice af d.files.length cf, .int .i64 d.next]) d) := by have h := HVL.out; rw [hsn] at h; exact h
    rw [hsn] at c2
    clear hsn HUF HVL
    by_cases hfull : 4 ≤ ds.length ∨ 1073741824 ≤ next
    case pos =>
      have HQ : Hid (∀ w', PgR (snpF ds next id true) w.heap.size (.returned (.tuple #[.slice none 0 0, .int .i64 2])) w') := fun w' => pgR_err _ _ _ _ (by rw [HUF2.out, if_pos hfull])
      clear HUF2 HV2
      by_cases h4 : 4 ≤ ds.length
      · have h4i : (4 : Int) ≤ (ds.length : Int) := by omega
        clear hfull h4
        go_enter Try.func28, Try.ntmps28
        go_wp2_with fail
        refine HA2.out.mono ?_
        rintro e w' ⟨rfl, rfl⟩
        go_wp2_with fail
        go_ret2
        exact ⟨HQ.out _, nwR w⟩
      · have h4i : ¬ (4 : Int) ≤ (ds.length : Int) := by omega
        have hnx : (1073741824 : Int) ≤ next := by omega
        clear hfull h4
        go_enter Try.func28, Try.ntmps28
        go_wp2_with fail
        refine HA2.out.mono ?_
        rintro e w' ⟨rfl, rfl⟩
        go_wp2_with fail
        go_ret2
        exact ⟨HQ.out _, nwR w⟩
    case neg =>
    have h4i : ¬ (4 : Int) ≤ (ds.length : Int) := by omega
    have hnx : ¬ (1073741824 : Int) ≤ next := by omega
    have HUF3 : Hid (snpF ds next id true = (0, ds ++ [⟨next, 0, false, d.files, d.next⟩])) := by show _ = _; rw [HUF2.out, if_neg hfull]
    clear hfull HUF2
    go_enter Try.func28, Try.ntmps28
    go_wp2_with fail
    refine HA2.out.mono ?_
    rintro e w' ⟨rfl, rfl⟩
    clear HA2
    go_wp2_with fail
    refine (copyVol_any _ d w HV2.out HSM.out).mono ?_
    rintro e w1 ⟨⟨u, rfl, fv, rfl, hfv⟩, hb1⟩
    obtain ⟨afv, cfv, rfl, _, _⟩ := OwnFiles.at hfv
    have HFV : Hid (OwnFiles w1 w.heap.size (.slice afv d.files.length cfv) d.files) := hfv
    have HB1 : Hid (Below w.heap.size w w1) := hb1
    clear hfv hb1 HV2 c0 c1 c2 c3 c4
    go_upto_region 12 with fail
    obtain ⟨W0, hW0⟩ : ∃ W0, W0 = w1.alloc (.cells #[.int .i64 next, .int .i64 0, .bool false, .slice afv d.files.length cfv, .int .i64 d.next] 32) := ⟨_, rfl⟩
    have HTX : Hid (W0.heap[w1.heap.size]? = some (.cells #[.int .i64 next, .int .i64 0, .bool false, .slice afv d.files.length cfv, .int .i64 d.next] 32 (0, 0))) := by rw [hW0]; exact heap_alloc_new w1 _
    have HBW : Hid (Below w.heap.size w W0) := by rw [hW0]; exact nwA HB1.out _
    have HVW : Hid (VolsAt W0 (some ⟨b1, o1, none⟩) ds) := HV.out.below HBW.out
    have HFW : Hid (OwnFiles W0 w.heap.size (.slice afv d.files.length cfv) d.files) := by
      have h : Below w1.heap.size w1 W0 := by rw [hW0]; exact nwA (nwR w1) _
      exact HFV.out.below h
    have hTl := (Array.getElem?_eq_some_iff.1 HTX.out).1
    have hsW := HBW.out.size
    rw [← hW0]
    generalize w1.heap.size = T at hTl HTX ⊢
    have hS := nwR W0
    have z0 : ∀ w', Below W0.heap.size W0 w' → w'.heap[T]? = some (.cells #[.int .i64 next, .int .i64 0, .bool false, .slice afv d.files.length cfv, .int .i64 d.next] 32 (0, 0)) := fun w' h => (h.block _ hTl).trans HTX.out
    have hB1 : ds.length + 1 ≤ maxLen := by unfold maxLen; omega
    have hB2 : (ds.length + 1) * 56 ≤ 140737488355328 := by omega
    clear hW0 HFV HB1
    have q0 : ∀ w', Below W0.heap.size W0 w' → w'.cell? ⟨T, 0, none⟩ = some (.int .i64 next) := fun w' h => (five (z0 w' h)).1
    have q1 : ∀ w', Below W0.heap.size W0 w' → w'.cell? ⟨T, 1, none⟩ = some (.int .i64 0) := fun w' h => (five (z0 w' h)).2.1
    have q2 : ∀ w', Below W0.heap.size W0 w' → w'.cell? ⟨T, 2, none⟩ = some (.bool false) := fun w' h => (five (z0 w' h)).2.2.1
    have q3 : ∀ w', Below W0.heap.size W0 w' → w'.cell? ⟨T, 3, none⟩ = some (.slice afv d.files.length cfv) := fun w' h => (five (z0 w' h)).2.2.2.1
    have q4 : ∀ w', Below W0.heap.size W0 w' → w'.cell? ⟨T, 4, none⟩ = some (.int .i64 d.next) := fun w' h => (five (z0 w' h)).2.2.2.2.1
    go_region_held3 (fun w' => Below W0.heap.size W0 w') (first | assumption | exact Below.drew (by assumption) | exact nwA (by assumption) _ | exact nwT (by assumption) (by assumption)) (first
      | (go_at_call 10; refine (copyVols_any _ ds ca _ (HVW.out.below (by assumption)) HS.out).mono ?_; rintro e wU ⟨⟨nv, rfl, hnv0⟩, hbU⟩; have hBU : Below W0.heap.size W0 wU := nwT (by assumption) hbU; have hsU : w.heap.size ≤ wU.heap.size := Nat.le_trans hsW hBU.size; have hnv1 : OwnVols wU W0.heap.size nv ds := hnv0.le (Below.size (by assumption)); have hnv : OwnVols wU w.heap.size nv ds := hnv1.le hsW; obtain ⟨gs, hgs, hgl, hrow, hall⟩ := OwnVols.rows hnv; obtain ⟨y0, y1, y2, y3, y4, _⟩ := five (z0 wU hBU))
      | (refine step_append_src (by rfl) (.tmp 46) (.tmp 48) 22 (by rfl) w.heap.size 32 i0 (.agg #[.int .i64 0, .int .i64 0, .bool false, .slice none 0 0, .int .i64 0]) 5 56 Try.underlying22 hi hz0 hz1 hz2 rfl (by decide) nv ds.length (vflat gs) (by simp [Act.eval]) (by exact World.ownsRow.alloc hrow _) (some ⟨wU.heap.size, 0, none⟩) 1 1 [.int .i64 next, .int .i64 0, .bool false, .slice afv d.files.length cfv, .int .i64 d.next] (by simp [Act.eval]) rfl (by intro h; cases h) (fun p e j u hj => by injection e with e; subst e; exact cells5 wU _ _ _ _ _ _ j u hj) (by simp [Value.oneCell']) hB1 hB2 (by simp; omega) ?_; intro nv2 w5 hown1 hgrow1; have hGR : wU.grownBy w5 nv.ownBlock := (gbOf (nwA (nwR wU) (.cells #[.int .i64 next, .int .i64 0, .bool false, .slice afv d.files.length cfv, .int .i64 d.next] 32)) _).trans hgrow1; have hb5 : Below W0.heap.size W0 w5 := hBU.grown hGR hBU.size (fun q e => by exact ownBlk hnv1 q e))
      | (have hh : wU.heap[W0.heap.size]? = some (.cells #[.int .i64 next, .int .i64 0, .bool false, .slice afv d.files.length cfv, .int .i64 d.next] 32 (0, 0)) := (hbU.block _ (by simp)).trans (heap_alloc_new _ _); refine step_append_src (by rfl) (.tmp 46) (.tmp 48) 22 (by rfl) w.heap.size 32 i0 (.agg #[.int .i64 0, .int .i64 0, .bool false, .slice none 0 0, .int .i64 0]) 5 56 Try.underlying22 hi hz0 hz1 hz2 rfl (by decide) nv ds.length (vflat gs) (by simp [Act.eval]) (by exact hrow) (some ⟨W0.heap.size, 0, none⟩) 1 1 [.int .i64 next, .int .i64 0, .bool false, .slice afv d.files.length cfv, .int .i64 d.next] (by simp [Act.eval]) rfl (by intro h; cases h) (fun p e j u hj => by injection e with e; subst e; exact cells5b hh j u hj) (by simp [Value.oneCell']) hB1 hB2 hsU ?_; intro nv2 w5 hown1 hgrow1; have hGR : wU.grownBy w5 nv.ownBlock := hgrow1; have hb5 : Below W0.heap.size W0 w5 := hBU.grown hGR hBU.size (fun q e => by exact ownBlk hnv1 q e))
      | fail)
    all_goals
      have HO5 : Hid (OwnVols w5 w.heap.size nv2 (ds ++ [⟨next, 0, false, d.files, d.next⟩])) := OwnVols.more hgs hgl hall hrow (d := ⟨next, 0, false, d.files, d.next⟩) (HFW.out.below hBU) hGR hown1
      have HB5 : Hid (Below w.heap.size w w5) := (nwT HBW.out hBU).grown hGR hsU (fun q e => (World.ownsRow.lt hrow q e).1)
      have HQ : Hid (PgR (snpF ds next id true) w.heap.size (.returned (.tuple #[nv2, .int .i64 0])) w5) := ⟨nv2, by rw [HUF3.out], by rw [HUF3.out]; exact HO5.out⟩
      clear hown1 hgrow1 hGR hrow hall hnv hnv0 hnv1
      go_wp2_with fail
      go_ret2
      exact ⟨HQ.out, HB5.out⟩

end Go.Proofs.Ytodahdnnlkcfdaa
