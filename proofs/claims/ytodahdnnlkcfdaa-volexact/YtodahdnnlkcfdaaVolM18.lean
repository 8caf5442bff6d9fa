/- Laid together: Backr, Putr, Stepv. -/
import Derived.Test.YtodahdnnlkcfdaaVolM17
import Derived.Deep.RegionHeld3
/- Gone back to a snapshot, by the page. -/
namespace Go.Proofs.Ytodahdnnlkcfdaa
open Go.RowKit

/-- what the page tells: volumes of one's own, and the error -/
def PgO (r : Int × List VolD) (base : Nat) (e : Ending) (w' : World) : Prop := ∃ u, e = .returned (.tuple #[u, .int .i64 r.1]) ∧ OwnVols w' base u r.2
theorem pgO_err (r : Int × List VolD) (base : Nat) (w' : World) (n : Int) (h : r = (n, [])) : PgO r base (.returned (.tuple #[.slice none 0 0, .int .i64 n])) w' := by
  subst h; exact ⟨_, rfl, ownVs_nil _ _⟩
theorem bakL_late {ds : List VolD} {x d : VolD} (h : lateV x.fr x.id d = true) : bakL (ds ++ [d]) x = bakL ds x := by
  unfold bakL; rw [List.filter_append]; simp [h]
theorem bakL_stay {ds : List VolD} {x d : VolD} (h : lateV x.fr x.id d = false) : bakL (ds ++ [d]) x = bakL ds x ++ [updV x.fr x d] := by
  unfold bakL; rw [List.filter_append]; simp [h]
theorem bakL_len (ds : List VolD) (x : VolD) : (bakL ds x).length ≤ ds.length := by
  unfold bakL; rw [List.length_map]; exact List.length_filter_le _ _
theorem updV_is {fr : Int} {x d : VolD} (h : d.id = fr) : updV fr x d = ⟨d.id, d.fr, d.snap, x.files, max d.next x.next⟩ := if_pos h
theorem updV_no {fr : Int} {x d : VolD} (h : ¬ d.id = fr) : updV fr x d = d := if_neg h

set_option maxRecDepth 100000 in
set_option maxHeartbeats 8000000 in
theorem backr_some (a : Option Addr) (ds : List VolD) (ca : Nat) (id : Int) (w : World) (hv : VolsAt w a ds) (hs : SmallW ds) (k : Nat) (hat : atV ds id = some k) :
    Calls Try.prog 30 #[.slice a ds.length ca, .int .i64 id] w fun e w' => PgO (bakF ds id) w.heap.size e w' ∧ Below w.heap.size w w' := by
  have hkl := atV_lt hat
  have hl := hs.1
  have HS : Hid (SmallW ds) := hs
  have HAT : Hid (Calls Try.prog 32 #[.slice a ds.length ca, .int .i64 id] w fun e w' => e = .returned (.int .i64 (k : Int)) ∧ w = w') := (atv_any a ds ca id w hv hl).mono fun e w' h => ⟨by rw [h.1, hat]; rfl, h.2.symm⟩
  obtain ⟨b1, o1, rfl, hvk⟩ := hv.vol hkl
  have HV : Hid (VolsAt w (some ⟨b1, o1, none⟩) ds) := hv
  have hid := atV_id hat
  obtain ⟨x, hx⟩ : ∃ x, x = ds.getD k VZ := ⟨_, rfl⟩
  have HUF : Hid (bakF ds id = if x.snap = false then (9, []) else (0, bakL ds x)) := by show _ = _; unfold bakF; simp only [hat]; rw [hx]
  have HSX : Hid (SmallV x) := by rw [hx]; exact hs.2 _ (by simp [List.getD, hkl])
  rw [← hx] at hvk hid
  have HVK : Hid (∀ w', Below w.heap.size w w' → VolIn w' b1 (o1 + k * 5) x) := fun w' h => hvk.below h
  obtain ⟨xa, xc, ⟨c0, c1, c2, c3, c4⟩, hfx, _⟩ := hvk
  have HFX : Hid (∀ w', Below w.heap.size w w' → FilesAt w' xa x.files) := fun w' h => hfx.below h
  have HXR : Hid (∀ w', Below w.heap.size w w' → w'.cell? ⟨b1, o1 + k * 5 + 1, none⟩ = some (.int .i64 x.fr) ∧ w'.cell? ⟨b1, o1 + k * 5 + 3, none⟩ = some (.slice xa x.files.length xc) ∧ w'.cell? ⟨b1, o1 + k * 5 + 4, none⟩ = some (.int .i64 x.next)) := fun w' h => ⟨(h.cell (p := ⟨b1, o1 + k * 5 + 1, none⟩) (block_lt_of_cell c1)).trans c1, (h.cell (p := ⟨b1, o1 + k * 5 + 3, none⟩) (block_lt_of_cell c3)).trans c3, (h.cell (p := ⟨b1, o1 + k * 5 + 4, none⟩) (block_lt_of_cell c4)).trans c4⟩
  have hk0 : (0 : Int) ≤ (k : Int) := by omega
  have hki : (k : Int) < (ds.length : Int) := by omega
  obtain ⟨i0, hi, hz0, hz1, hz2⟩ := info_parts Try.info32
  clear hv hs hat hx hfx
  subst hid
  go_enter Try.func30, Try.ntmps30
  go_wp2_with fail
  refine HAT.out.mono ?_
  rintro e w' ⟨rfl, rfl⟩
  clear HAT
  cases hsn : x.snap
  case false =>
    have HQ : Hid (PgO (bakF ds x.id) w.heap.size (.returned (.tuple #[.slice none 0 0, .int .i64 9])) w) := pgO_err _ _ _ _ (by rw [HUF.out, if_pos hsn])
    rw [hsn] at c2
    clear HUF
    go_wp2_with fail
    go_ret2
    exact ⟨HQ.out, nwR _⟩
  case true =>
  have HUF2 : Hid (bakF ds x.id = (0, bakL ds x)) := by show _ = _; rw [HUF.out, if_neg (by rw [hsn]; simp)]
  rw [hsn] at c2
  clear HUF hsn
  go_wp2_with fail
  clear c0 c1 c2 c3 c4
  go_loopw [7, 8] (fun v i wr => ∃ (j : Nat), j ≤ ds.length ∧ i = .int .i64 j ∧ OwnVols wr w.heap.size v (bakL (ds.take j) x) ∧ Below w.heap.size w wr)
    (fun _ i _ => ds.length - (intOf i).toNat)
  case atStart => exact ⟨0, by omega, rfl, (by rw [List.take_zero]; exact ownVs_nil _ _), nwR w⟩
  case round =>
    obtain ⟨j, hj, rfl, hO, hb⟩ := hrel
    have HO : Hid (OwnVols wr w.heap.size u7 (bakL (ds.take j) x)) := hO
    clear hO
    by_cases hlt : j < ds.length
    case neg =>
      have hlti : ¬ (j : Int) < (ds.length : Int) := by omega
      have HOE : Hid (OwnVols wr w.heap.size u7 (bakL ds x)) := by have := HO.out; rw [List.take_of_length_le (by omega)] at this; exact this
      have HQ : Hid (PgO (bakF ds x.id) w.heap.size (.returned (.tuple #[u7, .int .i64 0])) wr) := ⟨u7, by rw [HUF2.out], by rw [HUF2.out]; exact HOE.out⟩
      clear HO
      obtain ⟨av, cv, rfl, _⟩ := HOE.out.at
      go_wp2_with fail
      go_ret2
      exact ⟨HQ.out, hb⟩
    case pos =>
    have hlti : (j : Int) < (ds.length : Int) := by omega
    obtain ⟨_, _, e, hf⟩ := HV.out.vol hlt
    injection e with e
    injection e with e1 e2
    subst e1; subst e2
    have HSM : Hid (SmallV (ds.getD j VZ)) := HS.out.2 _ (by simp [List.getD, hlt])
    have HT : Hid (ds.take (j + 1) = ds.take j ++ [ds.getD j VZ]) := by
      show _ = _
      rw [List.take_succ_eq_append_getElem hlt]; simp [List.getD, hlt]
    obtain ⟨af, cf, ⟨h0, h1, h2, h3, h4⟩, hv⟩ := (hf.below hb).val
    generalize ds.getD j VZ = d at HSM HT h0 h1 h2 h3 h4 hv
    have HVD : Hid (VolVal wr (.agg #[.int .i64 d.id, .int .i64 d.fr, .bool d.snap, .slice af d.files.length cf, .int .i64 d.next]) d) := hv
    clear hf hv
    go_wp2_with fail
    refine (copyVol_any _ d _ HVD.out HSM.out).mono ?_
    rintro e w2 ⟨⟨u, rfl, fv, rfl, hfv⟩, hb2⟩
    obtain ⟨fa, fc, rfl, _⟩ := hfv.at
    have HBW2 : Hid (Below w.heap.size w w2) := nwT hb hb2
    obtain ⟨W4, hW4⟩ : ∃ W4, W4 = w2.alloc (.cells #[.int .i64 d.id, .int .i64 d.fr, .bool d.snap, .slice fa d.files.length fc, .int .i64 d.next] 32) := ⟨_, rfl⟩
    have HB4 : Hid (Below w.heap.size w W4) := by rw [hW4]; exact nwA HBW2.out _
    have HR4 : Hid (W4.heap[w2.heap.size]? = some (.cells #[.int .i64 d.id, .int .i64 d.fr, .bool d.snap, .slice fa d.files.length fc, .int .i64 d.next] 32 (0, 0))) := by rw [hW4]; exact heap_alloc_new w2 _
    have HFV : Hid (OwnFiles W4 w.heap.size (.slice fa d.files.length fc) d.files) := by rw [hW4]; exact (hfv.le hb.size).below (nwA (nwR w2) _)
    have HBR4 : Hid (Below wr.heap.size wr W4) := by rw [hW4]; exact nwA hb2 _
    have hr9 : wr.heap.size ≤ w2.heap.size := hb2.size
    have hg9 : w.heap.size ≤ w2.heap.size := HBW2.out.size
    clear hfv hb2 h0 h1 h2 h3 h4 HVD
    go_wp2_with fail
    rw [← hW4]
    clear hW4
    generalize w2.heap.size = g9 at HR4 hg9 hr9 ⊢
    have P : ∀ w', Below W4.heap.size W4 w' → w'.heap[g9]? = some (.cells #[.int .i64 d.id, .int .i64 d.fr, .bool d.snap, .slice fa d.files.length fc, .int .i64 d.next] 32 (0, 0)) := fun w' h => (h.block _ (Array.getElem?_eq_some_iff.1 HR4.out).1).trans HR4.out
    have t0 : ∀ w', Below W4.heap.size W4 w' → w'.cell? ⟨g9, 0, none⟩ = some (.int .i64 d.id) := fun w' h => by rw [Lib.cell_of_heap (P w' h)]; rfl
    have t1 : ∀ w', Below W4.heap.size W4 w' → w'.cell? ⟨g9, 1, none⟩ = some (.int .i64 d.fr) := fun w' h => by rw [Lib.cell_of_heap (P w' h)]; rfl
    have t2 : ∀ w', Below W4.heap.size W4 w' → w'.cell? ⟨g9, 2, none⟩ = some (.bool d.snap) := fun w' h => by rw [Lib.cell_of_heap (P w' h)]; rfl
    have q1 : ∀ w', Below W4.heap.size W4 w' → w'.cell? ⟨b1, o1 + k * 5 + 1, none⟩ = some (.int .i64 x.fr) := fun w' h => (HXR.out w' (nwT HB4.out h)).1
    have hS : Below W4.heap.size W4 W4 := nwR W4
    have HLT : Hid (lateV x.fr x.id d = (d.snap && (d.fr == x.fr) && decide (x.id < d.id))) := rfl
    have y0 := t0 W4 hS
    have y1 := t1 W4 hS
    have y2 := t2 W4 hS
    have y5 := q1 W4 hS
    clear t0 t1 t2 q1
    cases hsn : d.snap
    case false =>
      rw [hsn] at y2
      have HLF : Hid (lateV x.fr x.id d = false) := by show _ = _; rw [HLT.out, hsn]; rfl
      go_quiet (fail)
      rename Nat => n1
      have HT1 : Hid (bakL (ds.take (j + 1)) x = bakL (ds.take j) x ++ [updV x.fr x d]) := by show _ = _; rw [HT.out, bakL_stay HLF.out]
      by_cases hup : d.id = x.fr
      case neg =>
        have hup2 : (d.id == x.fr) = false := beq_eq_false_iff_ne.2 hup
        have HT2 : Hid (bakL (ds.take (j + 1)) x = bakL (ds.take j) x ++ [⟨d.id, d.fr, false, d.files, d.next⟩]) := by show _ = _; rw [HT1.out, updV_no hup, ← hsn]
        clear hup
        go_wp2_with fail
        go_quiet (fail)
        rename Nat => n2
        obtain ⟨W5, hW5⟩ : ∃ W5, W5 = (W4.drewN n1).drewN n2 := ⟨_, rfl⟩
        have HB45 : Hid (Below W4.heap.size W4 W5) := by rw [hW5]; exact below_drewN (below_drewN (nwR W4) _) _
        rw [← hW5]
        clear hW5 y0 y1 y2 y5
        have HB5 : Hid (Below w.heap.size w W5) := nwT HB4.out HB45.out
        have HR5 : Hid (W5.heap[g9]? = some (.cells #[.int .i64 d.id, .int .i64 d.fr, .bool false, .slice fa d.files.length fc, .int .i64 d.next] 32 (0, 0))) := by rw [← hsn]; exact P W5 HB45.out
        have HO5 : Hid (OwnVols W5 w.heap.size u7 (bakL (ds.take j) x)) := HO.out.below (nwT HBR4.out HB45.out)
        have HFW : Hid (OwnFiles W5 w.heap.size (.slice fa d.files.length fc) d.files) := HFV.out.below HB45.out
        clear HFV hS P
        obtain ⟨gs, hgs, hown, hall⟩ := HO5.out
        have HOW : Hid (W5.ownsRow w.heap.size 32 5 u7 gs.length (vflat gs)) := hown
        have HALL : Hid (∀ g ∈ gs, OwnFiles W5 w.heap.size g.fv g.d.files) := hall
        have HGS : Hid (gs.map VV.d = bakL (ds.take j) x) := hgs
        have hgl : gs.length ≤ 100000 := by
          have h1 := congrArg List.length hgs
          have h2 := bakL_len (ds.take j) x
          rw [List.length_map] at h1
          rw [List.length_take] at h2
          omega
        have hsz : w.heap.size ≤ (W5.alloc (.cells #[.int .i64 d.id, .int .i64 d.fr, .bool false, .slice fa d.files.length fc, .int .i64 d.next] 32)).heap.size := (nwA HB5.out _).size
        have hc3 : gs.length + 1 ≤ maxLen := by unfold maxLen; omega
        have hc4 : (gs.length + 1) * 56 ≤ 140737488355328 := by omega
        obtain ⟨z0, z1, z2, z3, z4, _⟩ := five HR5.out
        clear hown hall hgs HO5
        go_wp2_with (at_builtin; refine wpList_append_own _ rfl (.tmp 74) (.tmp 76) 22 rfl w.heap.size 32 i0 (.agg #[.int .i64 0, .int .i64 0, .bool false, .slice none 0 0, .int .i64 0]) 5 56 Try.underlying22 hi hz0 hz1 hz2 rfl (by decide) u7 gs.length (vflat gs) rfl (World.ownsRow.alloc HOW.out _) ⟨W5.heap.size, 0, none⟩ 1 1 [.int .i64 d.id, .int .i64 d.fr, .bool false, .slice fa d.files.length fc, .int .i64 d.next] rfl rfl (cells5 _ _ _ _ _ _ _) (by simp [Value.oneCell']) hc3 hc4 hsz ?_; intro v' w9 hown hgrow _; refine unstop ?_)
        unfold Stop
        have HB9 : Hid (Below w.heap.size w w9) := (nwA HB5.out _).grown hgrow (nwA HB5.out _).size (fun q e => (HOW.out.lt q e).1)
        have HO9 : Hid (OwnVols w9 w.heap.size v' (bakL (ds.take (j + 1)) x)) := by
          rw [HT2.out, ← HGS.out]
          have hrow := World.ownsRow.alloc HOW.out (.cells #[.int .i64 d.id, .int .i64 d.fr, .bool false, .slice fa d.files.length fc, .int .i64 d.next] 32)
          exact OwnVols.snoc (g := ⟨⟨d.id, d.fr, false, d.files, d.next⟩, .slice fa d.files.length fc⟩) (fun y hy => ((HALL.out y hy).below (nwA (nwR _) _)).grown hrow hgrow) ((HFW.out.below (nwA (nwR _) _)).grown hrow hgrow) hown
        clear hown hgrow z0 z1 z2 z3 z4
        go_wp2_with fail
        go_roundw
        case rel => exact ⟨j + 1, by omega, by go_num, HO9.out, HB9.out⟩
        case measure => simp [intOf]; omega
      case pos =>
        have hup2 : (d.id == x.fr) = true := by rw [hup]; simp
        have HT2 : Hid (bakL (ds.take (j + 1)) x = bakL (ds.take j) x ++ [⟨d.id, d.fr, false, x.files, max d.next x.next⟩]) := by show _ = _; rw [HT1.out, updV_is hup, ← hsn]
        clear hup
        go_wp2_with fail
        go_quiet (fail)
        rename Nat => n2
        obtain ⟨W5, hW5⟩ : ∃ W5, W5 = (W4.drewN n1).drewN n2 := ⟨_, rfl⟩
        have HB45 : Hid (Below W4.heap.size W4 W5) := by rw [hW5]; exact below_drewN (below_drewN (nwR W4) _) _
        rw [← hW5]
        clear hW5 y0 y1 y2 y5
        have HBW5 : Hid (Below w.heap.size w W5) := nwT HB4.out HB45.out
        have HR6 : Hid (∀ w', Below W5.heap.size W5 w' → w'.heap[g9]? = some (.cells #[.int .i64 d.id, .int .i64 d.fr, .bool false, .slice fa d.files.length fc, .int .i64 d.next] 32 (0, 0))) := fun w' h => by rw [← hsn]; exact P w' (nwT HB45.out h)
        have hl5 : g9 < W5.heap.size := (Array.getElem?_eq_some_iff.1 (HR6.out W5 (nwR W5))).1
        have HBR5 : Hid (Below wr.heap.size wr W5) := nwT HBR4.out HB45.out
        obtain ⟨_, x3, _⟩ := HXR.out W5 HBW5.out
        clear HFV hS P HR4 HB45
        go_wp2_with fail
        refine (copyFiles_any xa x.files xc W5 (HFX.out W5 HBW5.out) HSX.out.1 HSX.out.2).mono ?_
        rintro e w6 ⟨⟨vf, rfl, hvf⟩, hb6⟩
        obtain ⟨fa2, fc2, rfl, _⟩ := hvf.at
        have HB56 : Hid (Below W5.heap.size W5 w6) := hb6
        have HVF : Hid (OwnFiles w6 W5.heap.size (.slice fa2 x.files.length fc2) x.files) := hvf
        obtain ⟨z0, z1, z2, z3, z4, zf⟩ := five (HR6.out w6 HB56.out)
        clear hvf hb6 x3
        obtain ⟨W7, hW7⟩ : ∃ W7, W7 = w6.setCell ⟨g9, 3, none⟩ (.slice fa2 x.files.length fc2) := ⟨_, rfl⟩
        have HR7 : Hid (W7.heap[g9]? = some (.cells #[.int .i64 d.id, .int .i64 d.fr, .bool false, .slice fa2 x.files.length fc2, .int .i64 d.next] 32 (0, 0))) := by rw [hW7]; exact (heap_setCell_same w6 g9 3 _ 32 _ (HR6.out w6 HB56.out)).trans rfl
        have HBR7 : Hid (Below wr.heap.size wr W7) := by rw [hW7]; exact Below.setCell (p := ⟨g9, 3, none⟩) (nwT HBR5.out HB56.out) hr9 _
        have HVF7 : Hid (OwnFiles W7 W5.heap.size (.slice fa2 x.files.length fc2) x.files) := by rw [hW7]; exact HVF.out.set 3 hl5 _
        go_wp2_with fail
        rw [← hW7]
        clear hW7 z0 z1 z2 z3 z4 zf HVF
        obtain ⟨z0, z1, z2, z3, z4, zf⟩ := five HR7.out
        have HB7 : Hid (Below w.heap.size w W7) := nwT hb HBR7.out
        obtain ⟨_, _, x4⟩ := HXR.out W7 HB7.out
        go_region
        obtain ⟨W8, hW8⟩ : ∃ W8, W8 = (W7.setCell ⟨g9, 4, none⟩ (.int .i64 (max d.next x.next))).drew := ⟨_, rfl⟩
        have HR8 : Hid (W8.heap[g9]? = some (.cells #[.int .i64 d.id, .int .i64 d.fr, .bool false, .slice fa2 x.files.length fc2, .int .i64 (max d.next x.next)] 32 (0, 0))) := by rw [hW8]; exact (heap_setCell_same W7 g9 4 _ 32 _ HR7.out).trans rfl
        have HBR8 : Hid (Below wr.heap.size wr W8) := by rw [hW8]; exact Below.drew (Below.setCell (p := ⟨g9, 4, none⟩) HBR7.out hr9 _)
        have HFW8 : Hid (OwnFiles W8 W5.heap.size (.slice fa2 x.files.length fc2) x.files) := by rw [hW8]; exact (HVF7.out.set 4 hl5 _).below (Below.drew (nwR _))
        have HFW : Hid (OwnFiles W8 w.heap.size (.slice fa2 x.files.length fc2) x.files) := HFW8.out.le HBW5.out.size
        have HB8 : Hid (Below w.heap.size w W8) := nwT hb HBR8.out
        have HO8 : Hid (OwnVols W8 w.heap.size u7 (bakL (ds.take j) x)) := HO.out.below HBR8.out
        rw [← hW8]
        clear hW8 z0 z1 z2 z3 z4 zf x4 HFW8
        obtain ⟨gs, hgs, hown, hall⟩ := HO8.out
        have HOW : Hid (W8.ownsRow w.heap.size 32 5 u7 gs.length (vflat gs)) := hown
        have HALL : Hid (∀ g ∈ gs, OwnFiles W8 w.heap.size g.fv g.d.files) := hall
        have HGS : Hid (gs.map VV.d = bakL (ds.take j) x) := hgs
        have hgl : gs.length ≤ 100000 := by
          have h1 := congrArg List.length hgs
          have h2 := bakL_len (ds.take j) x
          rw [List.length_map] at h1
          rw [List.length_take] at h2
          omega
        have hsz : w.heap.size ≤ (W8.alloc (.cells #[.int .i64 d.id, .int .i64 d.fr, .bool false, .slice fa2 x.files.length fc2, .int .i64 (max d.next x.next)] 32)).heap.size := (nwA HB8.out _).size
        have hc3 : gs.length + 1 ≤ maxLen := by unfold maxLen; omega
        have hc4 : (gs.length + 1) * 56 ≤ 140737488355328 := by omega
        obtain ⟨z0, z1, z2, z3, z4, _⟩ := five HR8.out
        clear hown hall hgs HO8
        go_wp2_with (at_builtin; refine wpList_append_own _ rfl (.tmp 74) (.tmp 76) 22 rfl w.heap.size 32 i0 (.agg #[.int .i64 0, .int .i64 0, .bool false, .slice none 0 0, .int .i64 0]) 5 56 Try.underlying22 hi hz0 hz1 hz2 rfl (by decide) u7 gs.length (vflat gs) rfl (World.ownsRow.alloc HOW.out _) ⟨W8.heap.size, 0, none⟩ 1 1 [.int .i64 d.id, .int .i64 d.fr, .bool false, .slice fa2 x.files.length fc2, .int .i64 (max d.next x.next)] rfl rfl (cells5 _ _ _ _ _ _ _) (by simp [Value.oneCell']) hc3 hc4 hsz ?_; intro v' w9 hown hgrow _; refine unstop ?_)
        unfold Stop
        have HB9 : Hid (Below w.heap.size w w9) := (nwA HB8.out _).grown hgrow (nwA HB8.out _).size (fun q e => (HOW.out.lt q e).1)
        have HO9 : Hid (OwnVols w9 w.heap.size v' (bakL (ds.take (j + 1)) x)) := by
          rw [HT2.out, ← HGS.out]
          have hrow := World.ownsRow.alloc HOW.out (.cells #[.int .i64 d.id, .int .i64 d.fr, .bool false, .slice fa2 x.files.length fc2, .int .i64 (max d.next x.next)] 32)
          exact OwnVols.snoc (g := ⟨⟨d.id, d.fr, false, x.files, max d.next x.next⟩, .slice fa2 x.files.length fc2⟩) (fun y hy => ((HALL.out y hy).below (nwA (nwR _) _)).grown hrow hgrow) ((HFW.out.below (nwA (nwR _) _)).grown hrow hgrow) hown
        clear hown hgrow z0 z1 z2 z3 z4
        go_wp2_with fail
        go_roundw
        case rel => exact ⟨j + 1, by omega, by go_num, HO9.out, HB9.out⟩
        case measure => simp [intOf]; omega
    case true =>
    rw [hsn] at y2
    by_cases hfr : d.fr = x.fr
    case neg =>
      have hfr2 : (d.fr == x.fr) = false := beq_eq_false_iff_ne.2 hfr
      have HLF : Hid (lateV x.fr x.id d = false) := by show _ = _; rw [HLT.out, hfr2]; simp
      clear hfr
      go_quiet (fail)
      rename Nat => n1
      have HT1 : Hid (bakL (ds.take (j + 1)) x = bakL (ds.take j) x ++ [updV x.fr x d]) := by show _ = _; rw [HT.out, bakL_stay HLF.out]
      by_cases hup : d.id = x.fr
      case neg =>
        have hup2 : (d.id == x.fr) = false := beq_eq_false_iff_ne.2 hup
        have HT2 : Hid (bakL (ds.take (j + 1)) x = bakL (ds.take j) x ++ [⟨d.id, d.fr, true, d.files, d.next⟩]) := by show _ = _; rw [HT1.out, updV_no hup, ← hsn]
        clear hup
        go_wp2_with fail
        go_quiet (fail)
        rename Nat => n2
        obtain ⟨W5, hW5⟩ : ∃ W5, W5 = (W4.drewN n1).drewN n2 := ⟨_, rfl⟩
        have HB45 : Hid (Below W4.heap.size W4 W5) := by rw [hW5]; exact below_drewN (below_drewN (nwR W4) _) _
        rw [← hW5]
        clear hW5 y0 y1 y2 y5
        have HB5 : Hid (Below w.heap.size w W5) := nwT HB4.out HB45.out
        have HR5 : Hid (W5.heap[g9]? = some (.cells #[.int .i64 d.id, .int .i64 d.fr, .bool true, .slice fa d.files.length fc, .int .i64 d.next] 32 (0, 0))) := by rw [← hsn]; exact P W5 HB45.out
        have HO5 : Hid (OwnVols W5 w.heap.size u7 (bakL (ds.take j) x)) := HO.out.below (nwT HBR4.out HB45.out)
        have HFW : Hid (OwnFiles W5 w.heap.size (.slice fa d.files.length fc) d.files) := HFV.out.below HB45.out
        clear HFV hS P
        obtain ⟨gs, hgs, hown, hall⟩ := HO5.out
        have HOW : Hid (W5.ownsRow w.heap.size 32 5 u7 gs.length (vflat gs)) := hown
        have HALL : Hid (∀ g ∈ gs, OwnFiles W5 w.heap.size g.fv g.d.files) := hall
        have HGS : Hid (gs.map VV.d = bakL (ds.take j) x) := hgs
        have hgl : gs.length ≤ 100000 := by
          have h1 := congrArg List.length hgs
          have h2 := bakL_len (ds.take j) x
          rw [List.length_map] at h1
          rw [List.length_take] at h2
          omega
        have hsz : w.heap.size ≤ (W5.alloc (.cells #[.int .i64 d.id, .int .i64 d.fr, .bool true, .slice fa d.files.length fc, .int .i64 d.next] 32)).heap.size := (nwA HB5.out _).size
        have hc3 : gs.length + 1 ≤ maxLen := by unfold maxLen; omega
        have hc4 : (gs.length + 1) * 56 ≤ 140737488355328 := by omega
        obtain ⟨z0, z1, z2, z3, z4, _⟩ := five HR5.out
        clear hown hall hgs HO5
        go_wp2_with (at_builtin; refine wpList_append_own _ rfl (.tmp 74) (.tmp 76) 22 rfl w.heap.size 32 i0 (.agg #[.int .i64 0, .int .i64 0, .bool false, .slice none 0 0, .int .i64 0]) 5 56 Try.underlying22 hi hz0 hz1 hz2 rfl (by decide) u7 gs.length (vflat gs) rfl (World.ownsRow.alloc HOW.out _) ⟨W5.heap.size, 0, none⟩ 1 1 [.int .i64 d.id, .int .i64 d.fr, .bool true, .slice fa d.files.length fc, .int .i64 d.next] rfl rfl (cells5 _ _ _ _ _ _ _) (by simp [Value.oneCell']) hc3 hc4 hsz ?_; intro v' w9 hown hgrow _; refine unstop ?_)
        unfold Stop
        have HB9 : Hid (Below w.heap.size w w9) := (nwA HB5.out _).grown hgrow (nwA HB5.out _).size (fun q e => (HOW.out.lt q e).1)
        have HO9 : Hid (OwnVols w9 w.heap.size v' (bakL (ds.take (j + 1)) x)) := by
          rw [HT2.out, ← HGS.out]
          have hrow := World.ownsRow.alloc HOW.out (.cells #[.int .i64 d.id, .int .i64 d.fr, .bool true, .slice fa d.files.length fc, .int .i64 d.next] 32)
          exact OwnVols.snoc (g := ⟨⟨d.id, d.fr, true, d.files, d.next⟩, .slice fa d.files.length fc⟩) (fun y hy => ((HALL.out y hy).below (nwA (nwR _) _)).grown hrow hgrow) ((HFW.out.below (nwA (nwR _) _)).grown hrow hgrow) hown
        clear hown hgrow z0 z1 z2 z3 z4
        go_wp2_with fail
        go_roundw
        case rel => exact ⟨j + 1, by omega, by go_num, HO9.out, HB9.out⟩
        case measure => simp [intOf]; omega
      case pos =>
        have hup2 : (d.id == x.fr) = true := by rw [hup]; simp
        have HT2 : Hid (bakL (ds.take (j + 1)) x = bakL (ds.take j) x ++ [⟨d.id, d.fr, true, x.files, max d.next x.next⟩]) := by show _ = _; rw [HT1.out, updV_is hup, ← hsn]
        clear hup
        go_wp2_with fail
        go_quiet (fail)
        rename Nat => n2
        obtain ⟨W5, hW5⟩ : ∃ W5, W5 = (W4.drewN n1).drewN n2 := ⟨_, rfl⟩
        have HB45 : Hid (Below W4.heap.size W4 W5) := by rw [hW5]; exact below_drewN (below_drewN (nwR W4) _) _
        rw [← hW5]
        clear hW5 y0 y1 y2 y5
        have HBW5 : Hid (Below w.heap.size w W5) := nwT HB4.out HB45.out
        have HR6 : Hid (∀ w', Below W5.heap.size W5 w' → w'.heap[g9]? = some (.cells #[.int .i64 d.id, .int .i64 d.fr, .bool true, .slice fa d.files.length fc, .int .i64 d.next] 32 (0, 0))) := fun w' h => by rw [← hsn]; exact P w' (nwT HB45.out h)
        have hl5 : g9 < W5.heap.size := (Array.getElem?_eq_some_iff.1 (HR6.out W5 (nwR W5))).1
        have HBR5 : Hid (Below wr.heap.size wr W5) := nwT HBR4.out HB45.out
        obtain ⟨_, x3, _⟩ := HXR.out W5 HBW5.out
        clear HFV hS P HR4 HB45
        go_wp2_with fail
        refine (copyFiles_any xa x.files xc W5 (HFX.out W5 HBW5.out) HSX.out.1 HSX.out.2).mono ?_
        rintro e w6 ⟨⟨vf, rfl, hvf⟩, hb6⟩
        obtain ⟨fa2, fc2, rfl, _⟩ := hvf.at
        have HB56 : Hid (Below W5.heap.size W5 w6) := hb6
        have HVF : Hid (OwnFiles w6 W5.heap.size (.slice fa2 x.files.length fc2) x.files) := hvf
        obtain ⟨z0, z1, z2, z3, z4, zf⟩ := five (HR6.out w6 HB56.out)
        clear hvf hb6 x3
        obtain ⟨W7, hW7⟩ : ∃ W7, W7 = w6.setCell ⟨g9, 3, none⟩ (.slice fa2 x.files.length fc2) := ⟨_, rfl⟩
        have HR7 : Hid (W7.heap[g9]? = some (.cells #[.int .i64 d.id, .int .i64 d.fr, .bool true, .slice fa2 x.files.length fc2, .int .i64 d.next] 32 (0, 0))) := by rw [hW7]; exact (heap_setCell_same w6 g9 3 _ 32 _ (HR6.out w6 HB56.out)).trans rfl
        have HBR7 : Hid (Below wr.heap.size wr W7) := by rw [hW7]; exact Below.setCell (p := ⟨g9, 3, none⟩) (nwT HBR5.out HB56.out) hr9 _
        have HVF7 : Hid (OwnFiles W7 W5.heap.size (.slice fa2 x.files.length fc2) x.files) := by rw [hW7]; exact HVF.out.set 3 hl5 _
        go_wp2_with fail
        rw [← hW7]
        clear hW7 z0 z1 z2 z3 z4 zf HVF
        obtain ⟨z0, z1, z2, z3, z4, zf⟩ := five HR7.out
        have HB7 : Hid (Below w.heap.size w W7) := nwT hb HBR7.out
        obtain ⟨_, _, x4⟩ := HXR.out W7 HB7.out
        go_region
        obtain ⟨W8, hW8⟩ : ∃ W8, W8 = (W7.setCell ⟨g9, 4, none⟩ (.int .i64 (max d.next x.next))).drew := ⟨_, rfl⟩
        have HR8 : Hid (W8.heap[g9]? = some (.cells #[.int .i64 d.id, .int .i64 d.fr, .bool true, .slice fa2 x.files.length fc2, .int .i64 (max d.next x.next)] 32 (0, 0))) := by rw [hW8]; exact (heap_setCell_same W7 g9 4 _ 32 _ HR7.out).trans rfl
        have HBR8 : Hid (Below wr.heap.size wr W8) := by rw [hW8]; exact Below.drew (Below.setCell (p := ⟨g9, 4, none⟩) HBR7.out hr9 _)
        have HFW8 : Hid (OwnFiles W8 W5.heap.size (.slice fa2 x.files.length fc2) x.files) := by rw [hW8]; exact (HVF7.out.set 4 hl5 _).below (Below.drew (nwR _))
        have HFW : Hid (OwnFiles W8 w.heap.size (.slice fa2 x.files.length fc2) x.files) := HFW8.out.le HBW5.out.size
        have HB8 : Hid (Below w.heap.size w W8) := nwT hb HBR8.out
        have HO8 : Hid (OwnVols W8 w.heap.size u7 (bakL (ds.take j) x)) := HO.out.below HBR8.out
        rw [← hW8]
        clear hW8 z0 z1 z2 z3 z4 zf x4 HFW8
        obtain ⟨gs, hgs, hown, hall⟩ := HO8.out
        have HOW : Hid (W8.ownsRow w.heap.size 32 5 u7 gs.length (vflat gs)) := hown
        have HALL : Hid (∀ g ∈ gs, OwnFiles W8 w.heap.size g.fv g.d.files) := hall
        have HGS : Hid (gs.map VV.d = bakL (ds.take j) x) := hgs
        have hgl : gs.length ≤ 100000 := by
          have h1 := congrArg List.length hgs
          have h2 := bakL_len (ds.take j) x
          rw [List.length_map] at h1
          rw [List.length_take] at h2
          omega
        have hsz : w.heap.size ≤ (W8.alloc (.cells #[.int .i64 d.id, .int .i64 d.fr, .bool true, .slice fa2 x.files.length fc2, .int .i64 (max d.next x.next)] 32)).heap.size := (nwA HB8.out _).size
        have hc3 : gs.length + 1 ≤ maxLen := by unfold maxLen; omega
        have hc4 : (gs.length + 1) * 56 ≤ 140737488355328 := by omega
        obtain ⟨z0, z1, z2, z3, z4, _⟩ := five HR8.out
        clear hown hall hgs HO8
        go_wp2_with (at_builtin; refine wpList_append_own _ rfl (.tmp 74) (.tmp 76) 22 rfl w.heap.size 32 i0 (.agg #[.int .i64 0, .int .i64 0, .bool false, .slice none 0 0, .int .i64 0]) 5 56 Try.underlying22 hi hz0 hz1 hz2 rfl (by decide) u7 gs.length (vflat gs) rfl (World.ownsRow.alloc HOW.out _) ⟨W8.heap.size, 0, none⟩ 1 1 [.int .i64 d.id, .int .i64 d.fr, .bool true, .slice fa2 x.files.length fc2, .int .i64 (max d.next x.next)] rfl rfl (cells5 _ _ _ _ _ _ _) (by simp [Value.oneCell']) hc3 hc4 hsz ?_; intro v' w9 hown hgrow _; refine unstop ?_)
        unfold Stop
        have HB9 : Hid (Below w.heap.size w w9) := (nwA HB8.out _).grown hgrow (nwA HB8.out _).size (fun q e => (HOW.out.lt q e).1)
        have HO9 : Hid (OwnVols w9 w.heap.size v' (bakL (ds.take (j + 1)) x)) := by
          rw [HT2.out, ← HGS.out]
          have hrow := World.ownsRow.alloc HOW.out (.cells #[.int .i64 d.id, .int .i64 d.fr, .bool true, .slice fa2 x.files.length fc2, .int .i64 (max d.next x.next)] 32)
          exact OwnVols.snoc (g := ⟨⟨d.id, d.fr, true, x.files, max d.next x.next⟩, .slice fa2 x.files.length fc2⟩) (fun y hy => ((HALL.out y hy).below (nwA (nwR _) _)).grown hrow hgrow) ((HFW.out.below (nwA (nwR _) _)).grown hrow hgrow) hown
        clear hown hgrow z0 z1 z2 z3 z4
        go_wp2_with fail
        go_roundw
        case rel => exact ⟨j + 1, by omega, by go_num, HO9.out, HB9.out⟩
        case measure => simp [intOf]; omega
    case pos =>
    have hfr2 : (d.fr == x.fr) = true := by rw [hfr]; simp
    by_cases hgt : x.id < d.id
    case neg =>
      have hgt2 : decide (x.id < d.id) = false := decide_eq_false hgt
      have HLF : Hid (lateV x.fr x.id d = false) := by show _ = _; rw [HLT.out, hgt2]; simp
      clear hfr
      go_quiet (fail)
      rename Nat => n1
      have HT1 : Hid (bakL (ds.take (j + 1)) x = bakL (ds.take j) x ++ [updV x.fr x d]) := by show _ = _; rw [HT.out, bakL_stay HLF.out]
      by_cases hup : d.id = x.fr
      case neg =>
        have hup2 : (d.id == x.fr) = false := beq_eq_false_iff_ne.2 hup
        have HT2 : Hid (bakL (ds.take (j + 1)) x = bakL (ds.take j) x ++ [⟨d.id, d.fr, true, d.files, d.next⟩]) := by show _ = _; rw [HT1.out, updV_no hup, ← hsn]
        clear hup
        go_wp2_with fail
        go_quiet (fail)
        rename Nat => n2
        obtain ⟨W5, hW5⟩ : ∃ W5, W5 = (W4.drewN n1).drewN n2 := ⟨_, rfl⟩
        have HB45 : Hid (Below W4.heap.size W4 W5) := by rw [hW5]; exact below_drewN (below_drewN (nwR W4) _) _
        rw [← hW5]
        clear hW5 y0 y1 y2 y5
        have HB5 : Hid (Below w.heap.size w W5) := nwT HB4.out HB45.out
        have HR5 : Hid (W5.heap[g9]? = some (.cells #[.int .i64 d.id, .int .i64 d.fr, .bool true, .slice fa d.files.length fc, .int .i64 d.next] 32 (0, 0))) := by rw [← hsn]; exact P W5 HB45.out
        have HO5 : Hid (OwnVols W5 w.heap.size u7 (bakL (ds.take j) x)) := HO.out.below (nwT HBR4.out HB45.out)
        have HFW : Hid (OwnFiles W5 w.heap.size (.slice fa d.files.length fc) d.files) := HFV.out.below HB45.out
        clear HFV hS P
        obtain ⟨gs, hgs, hown, hall⟩ := HO5.out
        have HOW : Hid (W5.ownsRow w.heap.size 32 5 u7 gs.length (vflat gs)) := hown
        have HALL : Hid (∀ g ∈ gs, OwnFiles W5 w.heap.size g.fv g.d.files) := hall
        have HGS : Hid (gs.map VV.d = bakL (ds.take j) x) := hgs
        have hgl : gs.length ≤ 100000 := by
          have h1 := congrArg List.length hgs
          have h2 := bakL_len (ds.take j) x
          rw [List.length_map] at h1
          rw [List.length_take] at h2
          omega
        have hsz : w.heap.size ≤ (W5.alloc (.cells #[.int .i64 d.id, .int .i64 d.fr, .bool true, .slice fa d.files.length fc, .int .i64 d.next] 32)).heap.size := (nwA HB5.out _).size
        have hc3 : gs.length + 1 ≤ maxLen := by unfold maxLen; omega
        have hc4 : (gs.length + 1) * 56 ≤ 140737488355328 := by omega
        obtain ⟨z0, z1, z2, z3, z4, _⟩ := five HR5.out
        clear hown hall hgs HO5
        go_wp2_with (at_builtin; refine wpList_append_own _ rfl (.tmp 74) (.tmp 76) 22 rfl w.heap.size 32 i0 (.agg #[.int .i64 0, .int .i64 0, .bool false, .slice none 0 0, .int .i64 0]) 5 56 Try.underlying22 hi hz0 hz1 hz2 rfl (by decide) u7 gs.length (vflat gs) rfl (World.ownsRow.alloc HOW.out _) ⟨W5.heap.size, 0, none⟩ 1 1 [.int .i64 d.id, .int .i64 d.fr, .bool true, .slice fa d.files.length fc, .int .i64 d.next] rfl rfl (cells5 _ _ _ _ _ _ _) (by simp [Value.oneCell']) hc3 hc4 hsz ?_; intro v' w9 hown hgrow _; refine unstop ?_)
        unfold Stop
        have HB9 : Hid (Below w.heap.size w w9) := (nwA HB5.out _).grown hgrow (nwA HB5.out _).size (fun q e => (HOW.out.lt q e).1)
        have HO9 : Hid (OwnVols w9 w.heap.size v' (bakL (ds.take (j + 1)) x)) := by
          rw [HT2.out, ← HGS.out]
          have hrow := World.ownsRow.alloc HOW.out (.cells #[.int .i64 d.id, .int .i64 d.fr, .bool true, .slice fa d.files.length fc, .int .i64 d.next] 32)
          exact OwnVols.snoc (g := ⟨⟨d.id, d.fr, true, d.files, d.next⟩, .slice fa d.files.length fc⟩) (fun y hy => ((HALL.out y hy).below (nwA (nwR _) _)).grown hrow hgrow) ((HFW.out.below (nwA (nwR _) _)).grown hrow hgrow) hown
        clear hown hgrow z0 z1 z2 z3 z4
        go_wp2_with fail
        go_roundw
        case rel => exact ⟨j + 1, by omega, by go_num, HO9.out, HB9.out⟩
        case measure => simp [intOf]; omega
      case pos =>
        have hup2 : (d.id == x.fr) = true := by rw [hup]; simp
        have HT2 : Hid (bakL (ds.take (j + 1)) x = bakL (ds.take j) x ++ [⟨d.id, d.fr, true, x.files, max d.next x.next⟩]) := by show _ = _; rw [HT1.out, updV_is hup, ← hsn]
        clear hup
        go_wp2_with fail
        go_quiet (fail)
        rename Nat => n2
        obtain ⟨W5, hW5⟩ : ∃ W5, W5 = (W4.drewN n1).drewN n2 := ⟨_, rfl⟩
        have HB45 : Hid (Below W4.heap.size W4 W5) := by rw [hW5]; exact below_drewN (below_drewN (nwR W4) _) _
        rw [← hW5]
        clear hW5 y0 y1 y2 y5
        have HBW5 : Hid (Below w.heap.size w W5) := nwT HB4.out HB45.out
        have HR6 : Hid (∀ w', Below W5.heap.size W5 w' → w'.heap[g9]? = some (.cells #[.int .i64 d.id, .int .i64 d.fr, .bool true, .slice fa d.files.length fc, .int .i64 d.next] 32 (0, 0))) := fun w' h => by rw [← hsn]; exact P w' (nwT HB45.out h)
        have hl5 : g9 < W5.heap.size := (Array.getElem?_eq_some_iff.1 (HR6.out W5 (nwR W5))).1
        have HBR5 : Hid (Below wr.heap.size wr W5) := nwT HBR4.out HB45.out
        obtain ⟨_, x3, _⟩ := HXR.out W5 HBW5.out
        clear HFV hS P HR4 HB45
        go_wp2_with fail
        refine (copyFiles_any xa x.files xc W5 (HFX.out W5 HBW5.out) HSX.out.1 HSX.out.2).mono ?_
        rintro e w6 ⟨⟨vf, rfl, hvf⟩, hb6⟩
        obtain ⟨fa2, fc2, rfl, _⟩ := hvf.at
        have HB56 : Hid (Below W5.heap.size W5 w6) := hb6
        have HVF : Hid (OwnFiles w6 W5.heap.size (.slice fa2 x.files.length fc2) x.files) := hvf
        obtain ⟨z0, z1, z2, z3, z4, zf⟩ := five (HR6.out w6 HB56.out)
        clear hvf hb6 x3
        obtain ⟨W7, hW7⟩ : ∃ W7, W7 = w6.setCell ⟨g9, 3, none⟩ (.slice fa2 x.files.length fc2) := ⟨_, rfl⟩
        have HR7 : Hid (W7.heap[g9]? = some (.cells #[.int .i64 d.id, .int .i64 d.fr, .bool true, .slice fa2 x.files.length fc2, .int .i64 d.next] 32 (0, 0))) := by rw [hW7]; exact (heap_setCell_same w6 g9 3 _ 32 _ (HR6.out w6 HB56.out)).trans rfl
        have HBR7 : Hid (Below wr.heap.size wr W7) := by rw [hW7]; exact Below.setCell (p := ⟨g9, 3, none⟩) (nwT HBR5.out HB56.out) hr9 _
        have HVF7 : Hid (OwnFiles W7 W5.heap.size (.slice fa2 x.files.length fc2) x.files) := by rw [hW7]; exact HVF.out.set 3 hl5 _
        go_wp2_with fail
        rw [← hW7]
        clear hW7 z0 z1 z2 z3 z4 zf HVF
        obtain ⟨z0, z1, z2, z3, z4, zf⟩ := five HR7.out
        have HB7 : Hid (Below w.heap.size w W7) := nwT hb HBR7.out
        obtain ⟨_, _, x4⟩ := HXR.out W7 HB7.out
        go_region
        obtain ⟨W8, hW8⟩ : ∃ W8, W8 = (W7.setCell ⟨g9, 4, none⟩ (.int .i64 (max d.next x.next))).drew := ⟨_, rfl⟩
        have HR8 : Hid (W8.heap[g9]? = some (.cells #[.int .i64 d.id, .int .i64 d.fr, .bool true, .slice fa2 x.files.length fc2, .int .i64 (max d.next x.next)] 32 (0, 0))) := by rw [hW8]; exact (heap_setCell_same W7 g9 4 _ 32 _ HR7.out).trans rfl
        have HBR8 : Hid (Below wr.heap.size wr W8) := by rw [hW8]; exact Below.drew (Below.setCell (p := ⟨g9, 4, none⟩) HBR7.out hr9 _)
        have HFW8 : Hid (OwnFiles W8 W5.heap.size (.slice fa2 x.files.length fc2) x.files) := by rw [hW8]; exact (HVF7.out.set 4 hl5 _).below (Below.drew (nwR _))
        have HFW : Hid (OwnFiles W8 w.heap.size (.slice fa2 x.files.length fc2) x.files) := HFW8.out.le HBW5.out.size
        have HB8 : Hid (Below w.heap.size w W8) := nwT hb HBR8.out
        have HO8 : Hid (OwnVols W8 w.heap.size u7 (bakL (ds.take j) x)) := HO.out.below HBR8.out
        rw [← hW8]
        clear hW8 z0 z1 z2 z3 z4 zf x4 HFW8
        obtain ⟨gs, hgs, hown, hall⟩ := HO8.out
        have HOW : Hid (W8.ownsRow w.heap.size 32 5 u7 gs.length (vflat gs)) := hown
        have HALL : Hid (∀ g ∈ gs, OwnFiles W8 w.heap.size g.fv g.d.files) := hall
        have HGS : Hid (gs.map VV.d = bakL (ds.take j) x) := hgs
        have hgl : gs.length ≤ 100000 := by
          have h1 := congrArg List.length hgs
          have h2 := bakL_len (ds.take j) x
          rw [List.length_map] at h1
          rw [List.length_take] at h2
          omega
        have hsz : w.heap.size ≤ (W8.alloc (.cells #[.int .i64 d.id, .int .i64 d.fr, .bool true, .slice fa2 x.files.length fc2, .int .i64 (max d.next x.next)] 32)).heap.size := (nwA HB8.out _).size
        have hc3 : gs.length + 1 ≤ maxLen := by unfold maxLen; omega
        have hc4 : (gs.length + 1) * 56 ≤ 140737488355328 := by omega
        obtain ⟨z0, z1, z2, z3, z4, _⟩ := five HR8.out
        clear hown hall hgs HO8
        go_wp2_with (at_builtin; refine wpList_append_own _ rfl (.tmp 74) (.tmp 76) 22 rfl w.heap.size 32 i0 (.agg #[.int .i64 0, .int .i64 0, .bool false, .slice none 0 0, .int .i64 0]) 5 56 Try.underlying22 hi hz0 hz1 hz2 rfl (by decide) u7 gs.length (vflat gs) rfl (World.ownsRow.alloc HOW.out _) ⟨W8.heap.size, 0, none⟩ 1 1 [.int .i64 d.id, .int .i64 d.fr, .bool true, .slice fa2 x.files.length fc2, .int .i64 (max d.next x.next)] rfl rfl (cells5 _ _ _ _ _ _ _) (by simp [Value.oneCell']) hc3 hc4 hsz ?_; intro v' w9 hown hgrow _; refine unstop ?_)
        unfold Stop
        have HB9 : Hid (Below w.heap.size w w9) := (nwA HB8.out _).grown hgrow (nwA HB8.out _).size (fun q e => (HOW.out.lt q e).1)
        have HO9 : Hid (OwnVols w9 w.heap.size v' (bakL (ds.take (j + 1)) x)) := by
          rw [HT2.out, ← HGS.out]
          have hrow := World.ownsRow.alloc HOW.out (.cells #[.int .i64 d.id, .int .i64 d.fr, .bool true, .slice fa2 x.files.length fc2, .int .i64 (max d.next x.next)] 32)
          exact OwnVols.snoc (g := ⟨⟨d.id, d.fr, true, x.files, max d.next x.next⟩, .slice fa2 x.files.length fc2⟩) (fun y hy => ((HALL.out y hy).below (nwA (nwR _) _)).grown hrow hgrow) ((HFW.out.below (nwA (nwR _) _)).grown hrow hgrow) hown
        clear hown hgrow z0 z1 z2 z3 z4
        go_wp2_with fail
        go_roundw
        case rel => exact ⟨j + 1, by omega, by go_num, HO9.out, HB9.out⟩
        case measure => simp [intOf]; omega
    case pos =>
      have hgt2 : decide (x.id < d.id) = true := decide_eq_true hgt
      have HT3 : Hid (bakL (ds.take (j + 1)) x = bakL (ds.take j) x) := by show _ = _; rw [HT.out, bakL_late (by rw [HLT.out, hsn, hfr2, hgt2]; rfl)]
      clear hfr
      go_quiet (fail)
      rename Nat => n1
      have HO9 : Hid (OwnVols (W4.drewN n1) w.heap.size u7 (bakL (ds.take (j + 1)) x)) := by rw [HT3.out]; exact HO.out.below (below_drewN HBR4.out _)
      have HB9 : Hid (Below w.heap.size w (W4.drewN n1)) := below_drewN HB4.out _
      go_wp2_with fail
      go_roundw
      case rel => exact ⟨j + 1, by omega, by go_num, HO9.out, HB9.out⟩
      case measure => simp [intOf]; omega

set_option maxRecDepth 100000 in
set_option maxHeartbeats 4000000 in
theorem backr_any (a : Option Addr) (ds : List VolD) (ca : Nat) (id : Int) (w : World) (hv : VolsAt w a ds) (hs : SmallW ds) :
    Calls Try.prog 30 #[.slice a ds.length ca, .int .i64 id] w fun e w' => PgO (bakF ds id) w.heap.size e w' ∧ Below w.heap.size w w' := by
  cases hat : atV ds id with
  | some k => exact backr_some a ds ca id w hv hs k hat
  | none =>
    have HAT : Hid (Calls Try.prog 32 #[.slice a ds.length ca, .int .i64 id] w fun e w' => e = .returned (.int .i64 (-1)) ∧ w = w') := (atv_any a ds ca id w hv hs.1).mono fun e w' h => ⟨by rw [h.1, hat]; rfl, h.2.symm⟩
    have HQ : Hid (∀ w', PgO (bakF ds id) w.heap.size (.returned (.tuple #[.slice none 0 0, .int .i64 3])) w') := fun w' => pgO_err _ _ _ _ (by unfold bakF; rw [hat])
    clear hv hs hat
    go_enter Try.func30, Try.ntmps30
    go_wp2_with fail
    refine HAT.out.mono ?_
    rintro e w' ⟨rfl, rfl⟩
    go_wp2_with fail
    go_ret2
    exact ⟨HQ.out _, nwR w⟩

end Go.Proofs.Ytodahdnnlkcfdaa

/- A volume put in another's place, by the page. -/
namespace Go.Proofs.Ytodahdnnlkcfdaa
open Go.RowKit

theorem set5_below {base g o0 o1 o2 o3 o4 : Nat} {w0 wU : World} (hb : Below base w0 wU) (hbg : base ≤ g) (v0 v1 v2 v3 v4 : Value) : Below base w0 (((((wU.setCell ⟨g, o0, none⟩ v0).setCell ⟨g, o1, none⟩ v1).setCell ⟨g, o2, none⟩ v2).setCell ⟨g, o3, none⟩ v3).setCell ⟨g, o4, none⟩ v4) :=
  ((((hb.setCell (p := ⟨g, o0, none⟩) hbg _).setCell (p := ⟨g, o1, none⟩) hbg _).setCell (p := ⟨g, o2, none⟩) hbg _).setCell (p := ⟨g, o3, none⟩) hbg _).setCell (p := ⟨g, o4, none⟩) hbg _
theorem OwnVols.puto {w wU : World} {base g cap k : Nat} {ds : List VolD} {d : VolD} {fv : Value} (hX : OwnVols w base (.slice (some ⟨g, 0, none⟩) ds.length cap) ds) (hk : k < ds.length) (hb : Below w.heap.size w wU) (hfv : OwnFiles wU base fv d.files) :
    OwnVols (((((wU.setCell ⟨g, k * 5, none⟩ (.int .i64 d.id)).setCell ⟨g, k * 5 + 1, none⟩ (.int .i64 d.fr)).setCell ⟨g, k * 5 + 2, none⟩ (.bool d.snap)).setCell ⟨g, k * 5 + 3, none⟩ fv).setCell ⟨g, k * 5 + 4, none⟩ (.int .i64 d.next)) base (.slice (some ⟨g, 0, none⟩) ds.length cap) (ds.set k d) := by
  obtain ⟨gs, hd, hrow, hall⟩ := hX
  have hlen : gs.length = ds.length := by rw [← hd, List.length_map]
  have hrU := own_below hrow hb
  have hg1 : wU.grownBy (((((wU.setCell ⟨g, k * 5, none⟩ (.int .i64 d.id)).setCell ⟨g, k * 5 + 1, none⟩ (.int .i64 d.fr)).setCell ⟨g, k * 5 + 2, none⟩ (.bool d.snap)).setCell ⟨g, k * 5 + 3, none⟩ fv).setCell ⟨g, k * 5 + 4, none⟩ (.int .i64 d.next)) (some g) := gb_setg (gb_setg (gb_setg (gb_setg (gb_setg (gbOf (nwR wU) _) _) _) _) _) _
  have hg := (gbOf hb (some g)).trans hg1
  have hrow2 := hrU
  rw [hlen] at hrow2
  have hset := RowW.setAt (w := wU) (base := base) (g := g) (n := ds.length) (cap := cap) (gs := gs) (i := k) hrow2 ⟨d, fv⟩ (by omega)
  refine ⟨gs.set k ⟨d, fv⟩, by rw [List.map_set, hd], ?_, fun y hy => ?_⟩
  · rw [List.length_set, hlen]; exact hset
  · rcases List.mem_or_eq_of_mem_set hy with h | h
    · exact (hall y h).grown hrow hg
    · subst h
      exact hfv.grown hrU hg1

set_option maxRecDepth 100000 in
set_option maxHeartbeats 4000000 in
theorem putr_any (a : Option Addr) (ds : List VolD) (ca : Nat) (v : Value) (d : VolD) (w : World) (hv : VolsAt w a ds) (hs : SmallW ds) (hd : VolVal w v d) (hsd : SmallV d) (k : Nat) (hat : atV ds d.id = some k) :
    Calls Try.prog 33 #[.slice a ds.length ca, v] w fun e w' => (∃ u, e = .returned u ∧ OwnVols w' w.heap.size u (ds.set k d)) ∧ Below w.heap.size w w' := by
  obtain ⟨af, cf, rfl, hfa, hck⟩ := hd
  have hkl := atV_lt hat
  have hl := hs.1
  obtain ⟨W0, hW0⟩ : ∃ W0, W0 = w.alloc (.cells #[.int .i64 d.id, .int .i64 d.fr, .bool d.snap, .slice af d.files.length cf, .int .i64 d.next] 32) := ⟨_, rfl⟩
  have HB0 : Hid (Below w.heap.size w W0) := by rw [hW0]; exact nwA (nwR w) _
  have HX0 : Hid (W0.heap[w.heap.size]? = some (.cells #[.int .i64 d.id, .int .i64 d.fr, .bool d.snap, .slice af d.files.length cf, .int .i64 d.next] 32 (0, 0))) := by rw [hW0]; exact heap_alloc_new w _
  have HV : Hid (VolsAt W0 a ds) := hv.below HB0.out
  have HVD : Hid (VolVal W0 (.agg #[.int .i64 d.id, .int .i64 d.fr, .bool d.snap, .slice af d.files.length cf, .int .i64 d.next]) d) := VolVal.below (w := w) ⟨af, cf, rfl, hfa, hck⟩ HB0.out
  have HAT : Hid (∀ w', Below W0.heap.size W0 w' → Calls Try.prog 32 #[.slice a ds.length ca, .int .i64 d.id] w' fun e w'' => e = .returned (.int .i64 (k : Int)) ∧ w'' = w') := fun w' hb => (atv_any a ds ca d.id w' (HV.out.below hb) hl).mono fun e w'' h => ⟨by rw [h.1, hat]; rfl, h.2⟩
  have HCV : Hid (∀ w', Below W0.heap.size W0 w' → Calls Try.prog 26 #[.agg #[.int .i64 d.id, .int .i64 d.fr, .bool d.snap, .slice af d.files.length cf, .int .i64 d.next]] w' fun e w'' => (∃ u, e = .returned u ∧ OwnVol w'' w'.heap.size u d) ∧ Below w'.heap.size w' w'') := fun w' hb => copyVol_any _ d w' (HVD.out.below hb) hsd
  have HCS : Hid (Calls Try.prog 10 #[.slice a ds.length ca] W0 fun e w' => (∃ v, e = .returned v ∧ OwnVols w' W0.heap.size v ds) ∧ Below W0.heap.size W0 w') := copyVols_any a ds ca W0 HV.out hs
  clear hv hs hfa hck hsd hat
  go_enter Try.func33, Try.ntmps33
  go_wp2_with fail
  rw [← hW0]
  clear hW0
  refine HCS.out.mono ?_
  rintro e w1 ⟨⟨u1, rfl, ho1⟩, hb1⟩
  obtain ⟨a1, c1, rfl, hva, _⟩ := ho1.at
  obtain ⟨g, o, rfl, hvi⟩ := hva.vol hkl
  have ho : o = 0 := by
    obtain ⟨gs, hgs, hrow, _⟩ := ho1
    rcases hrow.2 with ⟨h, _⟩ | ⟨g', cap, cur, h, _⟩
    · injection h with h; cases h
    · injection h with h; injection h with h; injection h
  subst ho
  rw [Nat.zero_add] at hvi
  have HO1 : Hid (OwnVols w1 W0.heap.size (.slice (some ⟨g, 0, none⟩) ds.length c1) ds) := ho1
  have HB1 : Hid (Below W0.heap.size W0 w1) := hb1
  have hbg : W0.heap.size ≤ g := by
    obtain ⟨gs, _, hrow, _⟩ := ho1
    exact (World.ownsRow.lt hrow g rfl).1
  have HGF : Hid (∀ w', Below w1.heap.size w1 w' → ∀ o, w'.frozen? ⟨g, o, none⟩ = false) := by
    obtain ⟨gs, _, hrow, _⟩ := ho1
    obtain ⟨cs, h1⟩ := own_tag hrow g rfl
    exact fun w' h o => Lib.frozen_of_heap ((h.block _ (Array.getElem?_eq_some_iff.1 h1).1).trans h1) o
  have HVI : Hid (∀ w', Below w1.heap.size w1 w' → VolIn w' g (k * 5) (ds.getD k VZ)) := fun w' h => hvi.below h
  have P : ∀ w', Below W0.heap.size W0 w' → w'.heap[w.heap.size]? = some (.cells #[.int .i64 d.id, .int .i64 d.fr, .bool d.snap, .slice af d.files.length cf, .int .i64 d.next] 32 (0, 0)) := fun w' h => (h.block _ (Array.getElem?_eq_some_iff.1 HX0.out).1).trans HX0.out
  have t0 : ∀ w', Below W0.heap.size W0 w' → w'.cell? ⟨w.heap.size, 0, none⟩ = some (.int .i64 d.id) := fun w' h => by rw [Lib.cell_of_heap (P w' h)]; rfl
  have t1 : ∀ w', Below W0.heap.size W0 w' → w'.cell? ⟨w.heap.size, 1, none⟩ = some (.int .i64 d.fr) := fun w' h => by rw [Lib.cell_of_heap (P w' h)]; rfl
  have t2 : ∀ w', Below W0.heap.size W0 w' → w'.cell? ⟨w.heap.size, 2, none⟩ = some (.bool d.snap) := fun w' h => by rw [Lib.cell_of_heap (P w' h)]; rfl
  have t3 : ∀ w', Below W0.heap.size W0 w' → w'.cell? ⟨w.heap.size, 3, none⟩ = some (.slice af d.files.length cf) := fun w' h => by rw [Lib.cell_of_heap (P w' h)]; rfl
  have t4 : ∀ w', Below W0.heap.size W0 w' → w'.cell? ⟨w.heap.size, 4, none⟩ = some (.int .i64 d.next) := fun w' h => by rw [Lib.cell_of_heap (P w' h)]; rfl
  clear P ho1 hva hvi
  have hk0 : (0 : Int) ≤ (k : Int) := by omega
  have hki : (k : Int) < (ds.length : Int) := by omega
  go_wp2_with fail
  go_region_held3 (fun w' => Below W0.heap.size W0 w') (first | assumption | exact Below.drew (by assumption) | exact nwT (by assumption) (by assumption) | exact set5_below (by assumption) hbg _ _ _ _ _) (first
    | (go_at_call 32; refine (HAT.out _ (by first | assumption | exact Below.drew (by assumption))).mono ?_; rintro e w' ⟨rfl, rfl⟩)
    | (go_at_call 26; refine (HCV.out _ (by first | assumption | exact Below.drew (by assumption))).mono ?_; rintro e wU ⟨⟨uU, rfl, hoU⟩, hbU⟩; obtain ⟨fv, rfl, hfv⟩ := hoU; have HU1 : Hid (Below w1.heap.size w1 wU) := (by first | exact hbU | exact nwT (Below.drew (nwR w1)) hbU); have HFV : Hid (OwnFiles wU w.heap.size fv d.files) := (hfv.le (by first | exact Nat.le_trans HB0.out.size HB1.out.size)); have yf := HGF.out wU HU1.out; obtain ⟨_, _, ⟨y0, y1, y2, y3, y4⟩, _⟩ := HVI.out wU HU1.out; obtain ⟨avv, cvv, rfl, _, _⟩ := hfv.at; clear hfv)
    | fail)
  have hbF : Below W0.heap.size W0 (((((wU.setCell ⟨g, k * 5, none⟩ (.int .i64 d.id)).setCell ⟨g, k * 5 + 1, none⟩ (.int .i64 d.fr)).setCell ⟨g, k * 5 + 2, none⟩ (.bool d.snap)).setCell ⟨g, k * 5 + 3, none⟩ (.slice avv d.files.length cvv)).setCell ⟨g, k * 5 + 4, none⟩ (.int .i64 d.next)) := by assumption
  have hfin := OwnVols.puto (d := d) (HO1.out.le HB0.out.size) hkl HU1.out HFV.out
  have hbE := nwT HB0.out hbF
  generalize (((((wU.setCell ⟨g, k * 5, none⟩ (.int .i64 d.id)).setCell ⟨g, k * 5 + 1, none⟩ (.int .i64 d.fr)).setCell ⟨g, k * 5 + 2, none⟩ (.bool d.snap)).setCell ⟨g, k * 5 + 3, none⟩ (.slice avv d.files.length cvv)).setCell ⟨g, k * 5 + 4, none⟩ (.int .i64 d.next)) = wF at *
  clear t0 t1 t2 t3 t4 yf y0 y1 y2 y3 y4 hbF
  go_wp2_with fail
  go_ret
  exact ⟨⟨_, rfl, hfin⟩, hbE⟩

end Go.Proofs.Ytodahdnnlkcfdaa

/- What stands behind the switch of the law's step. -/
namespace Go.Proofs.Ytodahdnnlkcfdaa
open Go.RowKit

/- what comes is small -/
theorem smallW_nil : SmallW [] := ⟨by simp, fun d hd => by simp at hd⟩
theorem rest_small {ds : List VolD} (h : SmallW ds) (ids : List Int) : SmallW (restW ids ds) :=
  ⟨Nat.le_trans (List.length_filter_le _ _) h.1, fun d hd => h.2 d (List.mem_filter.1 hd).1⟩
theorem getD_small {ds : List VolD} (h : SmallW ds) {k : Nat} (hk : k < ds.length) : SmallV (ds.getD k VZ) :=
  h.2 _ (by simp [List.getD, hk])
theorem bak_small {ds : List VolD} (h : SmallW ds) {x : VolD} (hx : SmallV x) : SmallW (bakL ds x) := by
  unfold bakL
  refine ⟨by rw [List.length_map]; exact Nat.le_trans (List.length_filter_le _ _) h.1, fun d hd => ?_⟩
  obtain ⟨y, hy, rfl⟩ := List.mem_map.1 hd
  have h2 := h.2 y (List.mem_filter.1 hy).1
  unfold updV
  split
  · exact hx
  · exact h2
theorem put_small {ds : List VolD} (h : SmallW ds) {d : VolD} (hd : SmallV d) (k : Nat) : SmallW (ds.set k d) := by
  refine ⟨by rw [List.length_set]; exact h.1, fun x hx => ?_⟩
  rcases List.mem_or_eq_of_mem_set hx with h1 | h1
  · exact h.2 x h1
  · rw [h1]; exact hd
def GoodR (r : Int × List VolD) : Prop := SmallW r.2 ∧ (r.1 ≠ 0 → r.2 = [])
theorem goodR_err (n : Int) : GoodR (n, []) := ⟨smallW_nil, fun _ => rfl⟩
theorem goodR_ok {dd : List VolD} (h : SmallW dd) : GoodR (0, dd) := ⟨h, fun h => absurd rfl h⟩
theorem snpF_good {ds : List VolD} (h : SmallW ds) (next id : Int) (cl : Bool) : GoodR (snpF ds next id cl) := by
  unfold snpF
  cases hat : atV ds id with
  | none => exact goodR_err 3
  | some k =>
    simp only
    split
    · exact goodR_err 9
    · split
      · exact goodR_err 2
      · exact goodR_ok (snap_small h (by omega) (atV_lt hat) rfl)
theorem drpF_good {ds : List VolD} (h : SmallW ds) (id : Int) : GoodR (drpF ds id) := by
  unfold drpF
  cases hat : atV ds id with
  | none => exact goodR_err 3
  | some k =>
    simp only
    split
    · exact goodR_err 8
    · exact goodR_ok (rest_small h _)
theorem bakF_good {ds : List VolD} (h : SmallW ds) (id : Int) : GoodR (bakF ds id) := by
  unfold bakF
  cases hat : atV ds id with
  | none => exact goodR_err 3
  | some k =>
    simp only
    split
    · exact goodR_err 9
    · exact goodR_ok (bak_small h (getD_small h (atV_lt hat)))
theorem progR_bad {ok : Prop} {r : Int × List VolD} {er : Int} {dd : List VolD} (h : ProgR ok r er dd) (hn : ¬ ok) : er = 1 ∧ dd = [] := by
  rcases h with ⟨h, _⟩ | ⟨_, h⟩
  · exact absurd h hn
  · exact h
theorem progR_ok {ok : Prop} {r : Int × List VolD} {er : Int} {dd : List VolD} (h : ProgR ok r er dd) (hk : ok) : er = r.1 ∧ dd = r.2 := by
  rcases h with ⟨_, h⟩ | ⟨h, _⟩
  · rw [← h]; exact ⟨rfl, rfl⟩
  · exact absurd hk h

/- memory of one's own that stands -/
theorem OwnVols.kept {w w' : World} {base : Nat} {v : Value} {ds : List VolD} (h : OwnVols w base v ds) (hk : ∀ k, base ≤ k → k < w.heap.size → w'.heap[k]? = w.heap[k]?) : OwnVols w' base v ds := by
  obtain ⟨gs, e, ho, ha⟩ := h
  refine ⟨gs, e, ⟨ho.1, ?_⟩, fun g hg => (ha g hg).kept hk⟩
  rcases ho.2 with h | ⟨g, cap, cur, hv, hb, hh, rest⟩
  · exact .inl h
  · exact .inr ⟨g, cap, cur, hv, hb, (hk g hb (Array.getElem?_eq_some_iff.1 hh).1).trans hh, rest⟩
theorem keepX_below {base top : Nat} {w w' : World} (hb : Below w.heap.size w w') : KeepX base top w w' :=
  ⟨fun _ _ h => h.below hb, fun k _ _ _ h _ _ _ => (hb.block k (Array.getElem?_eq_some_iff.1 h).1).trans h⟩
def SpW (w : World) (base top : Nat) (a : Option Addr) (n : Nat) : Prop := n = 0 ∨ ∃ G, a = some ⟨G, 0, none⟩ ∧ base ≤ G ∧ G < top ∧ VolsX w base top G n 0
theorem SpW.below {w w' : World} {base top : Nat} {a : Option Addr} {n : Nat} (h : SpW w base top a n) (hb : Below w.heap.size w w') : SpW w' base top a n := by
  rcases h with h | ⟨G, h1, h2, h3, h4⟩
  · exact .inl h
  · exact .inr ⟨G, h1, h2, h3, h4.keep (keepX_below hb)⟩
theorem ownVs_sp {w : World} {base : Nat} {ax : Option Addr} {cx : Nat} {dd : List VolD} (h : OwnVols w base (.slice ax dd.length cx) dd) (hs : SmallW dd) : SpW w base w.heap.size ax dd.length := by
  obtain ⟨gs, e, ho, hg⟩ := id h
  rcases ho.2 with ⟨_, hn⟩ | ⟨g, cap, cur, hv, _, _, _⟩
  · exact .inl (by rw [← e, List.length_map]; exact hn)
  · injection hv with h1 _ _
    subst h1
    obtain ⟨h2, h3, h4⟩ := VolsX.of_own h hs
    exact .inr ⟨g, rfl, h3, h4, h2⟩
/-- what is read so even when one's own memory from base to top is written over -/
def SafeW (wS wx : World) (top : Nat) (aw : Option Addr) (dd : List VolD) : Prop := ∀ w', Below wS.heap.size wS w' → (∀ k, top ≤ k → k < wx.heap.size → w'.heap[k]? = wx.heap[k]?) → VolsAt w' aw dd
structure StepV (wS : World) (er n tn : Int) (dd : List VolD) (ax : Option Addr) (cx : Nat) (aw : Option Addr) (lw cw : Nat) (wx : World) : Prop where
  below : Below wS.heap.size wS wx
  own : ∃ top, wS.heap.size ≤ top ∧ top ≤ wx.heap.size ∧ VolsAt wx ax dd ∧ SpW wx wS.heap.size top ax dd.length ∧ (er = 0 → lw = dd.length ∧ SafeW wS wx top aw dd)
  zero : er = 0 → n = tn ∧ tn ≤ 1073741825
  bad : er ≠ 0 → dd = [] ∧ n = 0
  small : SmallW dd
theorem stepV_bad {wS wx : World} {er n tn : Int} {ax : Option Addr} {cx : Nat} {aw : Option Addr} {lw cw : Nat} (hb : Below wS.heap.size wS wx) (he : er ≠ 0) (hn : n = 0) : StepV wS er n tn [] ax cx aw lw cw wx :=
  ⟨hb, ⟨wx.heap.size, hb.size, Nat.le_refl _, .inl rfl, .inl rfl, fun h => absurd h he⟩, fun h => absurd h he, fun _ => ⟨rfl, hn⟩, smallW_nil⟩
theorem safe_own {wS wA wx : World} {aw : Option Addr} {cw : Nat} {dd : List VolD} (h : OwnVols wx wA.heap.size (.slice aw dd.length cw) dd) : SafeW wS wx wA.heap.size aw dd := fun w' _ hk => by
  obtain ⟨a, c, e, h1, _⟩ := (h.kept hk).at
  injection e with e1 e2 e3
  subst e1
  exact h1
theorem safe_mix {W wS wA wx : World} {v : Value} {aw : Option Addr} {cw : Nat} {dd : List VolD} (hW : Below W.heap.size W wS) (h : MixV W wx wA.heap.size v dd) (hv : v = .slice aw dd.length cw) : SafeW wS wx wA.heap.size aw dd := fun w' hb hk => by
  obtain ⟨a, c, e, _, h1⟩ := h.at
  rw [hv] at e
  injection e with e1 e2 e3
  subst e1
  exact h1 w' (nwT hW hb) hk
/-- both tell the same -/
theorem stepV_like {wS wA wx : World} {er n tn : Int} {dd : List VolD} {ax : Option Addr} {cx : Nat} {aw : Option Addr} {cw : Nat} (hA : OwnVols wA wS.heap.size (.slice ax dd.length cx) dd) (hbA : Below wS.heap.size wS wA) (hbx : Below wA.heap.size wA wx) (hs : SmallW dd) (he : er ≠ 0 → dd = [] ∧ n = 0) (hn : er = 0 → n = tn ∧ tn ≤ 1073741825) (hsafe : SafeW wS wx wA.heap.size aw dd) :
    StepV wS er n tn dd ax cx aw dd.length cw wx := by
  refine ⟨nwT hbA hbx, ⟨wA.heap.size, hbA.size, hbx.size, ?_, (ownVs_sp hA hs).below hbx, fun _ => ⟨rfl, hsafe⟩⟩, hn, he, hs⟩
  obtain ⟨a, c, e, h1, _⟩ := (hA.below hbx).at
  injection e with e1 e2 e3
  subst e1
  exact h1
theorem law8_any (i : Int) (w : World) :
    Calls Try.prog 27 #[.int .i64 i, .int .i64 8] w fun e w' => e = .returned (.int .i64 (withinN i 8)) ∧ w' = w := by
  go_enter Try.func27, Try.ntmps27
  go_wp2
  go_ret
  refine ⟨ret_int ?_, rfl⟩
  unfold withinN
  rw [IntKind.wrap_u64, Int.tmod_eq_emod_of_nonneg (by omega)]
  unfold wrap64
  omega
theorem VolsOk.next30 {ds : List VolD} {next : Int} (h : VolsOk ds next) : 1 ≤ next ∧ next ≤ 1073741824 := h.1.2

end Go.Proofs.Ytodahdnnlkcfdaa
