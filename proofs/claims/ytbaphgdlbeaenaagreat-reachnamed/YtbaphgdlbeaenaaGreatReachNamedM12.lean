/- Laid together: Maybv, Openvv, Filt, Tally. -/
import Derived.Test.YtbaphgdlbeaenaaGreatReachNamedM11
import Derived.Deep.CutRange
import Derived.Lib.SliceRun
/- Whether volumes may be, by the program. -/
namespace Go.Proofs.YtbaphgdlbeaenaaGreat
open Go.RowKit

def lastV (ds : List VolD) (k : Nat) : Int := if k = 0 then 0 else (ds.getD (k - 1) VZ).id
/-- what is asked of each volume of a row -/
def EachW (ds : List VolD) (next : Int) (k : Nat) : Prop := VolOk (ds.getD k VZ) ∧ (lastV ds k < (ds.getD k VZ).id ∧ (ds.getD k VZ).id < next) ∧ RootW ds (ds.getD k VZ)
/-- which volumes may be -/
def VolsOk (ds : List VolD) (next : Int) : Prop := (ds.length ≤ 4 ∧ 1 ≤ next ∧ next ≤ 1073741824) ∧ ∀ k, k < ds.length → EachW ds next k
theorem two_cells {w : World} {g : Nat} {c0 c1 : Value} {t : TypeId} (h : w.heap[g]? = some (.cells #[c0, c1] t (0, 0))) : w.cell? ⟨g, 0, none⟩ = some c0 ∧ w.cell? ⟨g, 1, none⟩ = some c1 ∧ ∀ o, w.frozen? ⟨g, o, none⟩ = false :=
  ⟨by rw [Lib.cell_of_heap h]; rfl, by rw [Lib.cell_of_heap h]; rfl, fun o => Lib.frozen_of_heap h o⟩
theorem bool_of (P : Prop) : ∃ b : Bool, b = true ↔ P := by classical exact ⟨decide P, by simp⟩

set_option maxRecDepth 100000 in
set_option maxHeartbeats 4000000 in
theorem vmayBe_any (S : Nat) (a : Option Addr) (ds : List VolD) (ca : Nat) (next : Int) (w : World) (hS : w.heap[S]? = some (.cells #[.slice a ds.length ca, .int .i64 next] 88 (0, 0))) (hv : VolsAt w a ds) (hs : SmallW ds) :
    Calls Tryz.prog 45 #[.pointer (some ⟨S, 0, none⟩)] w fun e w' => SaysB e (VolsOk ds next) ∧ Below w.heap.size w w' := by
  have HV : Hid (VolsAt w a ds) := hv
  have HS : Hid (SmallW ds) := hs
  have HSB : Hid (w.heap[S]? = some (.cells #[.slice a ds.length ca, .int .i64 next] 88 (0, 0))) := hS
  have hl := hs.1
  obtain ⟨s0, s1, _⟩ := two_cells hS
  clear hv hs hS
  by_cases hh : ds.length ≤ 4 ∧ 1 ≤ next ∧ next ≤ 1073741824
  case neg =>
    have HN : Hid (¬ VolsOk ds next) := fun h => hh h.1
    by_cases h1 : (4 : Int) < (ds.length : Int)
    · clear hh
      go_enter Tryz.func45, Tryz.ntmps45
      go_wp2_with fail
      go_ret
      exact ⟨says_no HN.out, nwR w⟩
    · by_cases h2 : next < 1
      · clear hh
        go_enter Tryz.func45, Tryz.ntmps45
        go_wp2_with fail
        go_ret
        exact ⟨says_no HN.out, nwR w⟩
      · have h3 : 1073741824 < next := by omega
        clear hh
        go_enter Tryz.func45, Tryz.ntmps45
        go_wp2_with fail
        go_ret
        exact ⟨says_no HN.out, nwR w⟩
  case pos =>
  have HH : Hid (ds.length ≤ 4 ∧ 1 ≤ next ∧ next ≤ 1073741824) := hh
  have h1 : ¬ (4 : Int) < (ds.length : Int) := by omega
  have h2 : ¬ next < 1 := by omega
  have h3 : ¬ 1073741824 < next := by omega
  clear hh
  go_enter Tryz.func45, Tryz.ntmps45
  go_wp2_with fail
  clear s0 s1
  go_loopw [3, 31] (fun la i wr => ∃ (k : Nat), k ≤ ds.length ∧ i = .int .i64 k ∧ la = .int .i64 (lastV ds k) ∧ Below w.heap.size w wr ∧ Hid (∀ j, j < k → EachW ds next j))
    (fun _ i _ => ds.length - (intOf i).toNat)
  case atStart => exact ⟨0, by omega, rfl, rfl, nwR w, fun j hj => by omega⟩
  case round =>
    obtain ⟨k, hk, rfl, rfl, hb, HE⟩ := hrel
    by_cases hlt : k < ds.length
    case neg =>
      have hlti : ¬ (k : Int) < (ds.length : Int) := by omega
      have HY : Hid (VolsOk ds next) := ⟨HH.out, fun j hj => HE.out j (by omega)⟩
      go_wp2_with fail
      go_ret
      exact ⟨⟨true, rfl, by simp; exact HY.out⟩, hb⟩
    case pos =>
    have hlti : (k : Int) < (ds.length : Int) := by omega
    have hk0 : (0 : Int) ≤ (k : Int) := by omega
    obtain ⟨b1, o1, rfl, hvi⟩ := HV.out.vol hlt
    obtain ⟨af, cf, ⟨c0, c1, c2, c3, c4⟩, hval⟩ := (hvi.below hb).val
    have HSM : Hid (SmallV (ds.getD k VZ)) := HS.out.2 _ (by simp [List.getD, hlt])
    have HEK : Hid (EachW ds next k ↔ (VolOk (ds.getD k VZ) ∧ (lastV ds k < (ds.getD k VZ).id ∧ (ds.getD k VZ).id < next) ∧ RootW ds (ds.getD k VZ))) := Iff.rfl
    have HLA : Hid (lastV ds (k + 1) = (ds.getD k VZ).id) := by show _ = _; unfold lastV; rw [if_neg (by omega)]; rfl
    generalize ds.getD k VZ = d at c0 c1 c2 c3 c4 hval HSM HEK HLA
    generalize lastV ds k = la at HEK ⊢
    obtain ⟨wa, hwa⟩ : ∃ wa, wa = wr.alloc (.cells #[.int .i64 d.id, .int .i64 d.fr, .bool d.snap, .slice af d.files.length cf, .int .i64 d.next] 48) := ⟨_, rfl⟩
    have HBA : Hid (Below wr.heap.size wr wa) := by rw [hwa]; exact nwA (nwR wr) _
    have HXA : Hid (wa.heap[wr.heap.size]? = some (.cells #[.int .i64 d.id, .int .i64 d.fr, .bool d.snap, .slice af d.files.length cf, .int .i64 d.next] 48 (0, 0))) := by rw [hwa]; exact heap_alloc_new wr _
    have HVA : Hid (VolVal wa (.agg #[.int .i64 d.id, .int .i64 d.fr, .bool d.snap, .slice af d.files.length cf, .int .i64 d.next]) d) := hval.below HBA.out
    have HRA : Hid (VolsAt wa (some ⟨b1, o1, none⟩) ds) := HV.out.below (nwT hb HBA.out)
    have HBB : Hid (Below w.heap.size w wa) := nwT hb HBA.out
    go_upto_region 7 with fail
    rw [← hwa]
    clear hwa hval hvi c0 c1 c2 c3 c4
    obtain ⟨x0, x1, x2, x3, x4, _⟩ := five HXA.out
    obtain ⟨s0, s1, _⟩ := two_cells ((HBB.out.block _ (Array.getElem?_eq_some_iff.1 HSB.out).1).trans HSB.out)
    obtain ⟨b3, hb3⟩ := bool_of (VolOk d)
    obtain ⟨b4, hb4⟩ := bool_of (RootW ds d)
    have HCK : Hid (∀ p : Kin wa, Calls Tryz.prog 60 #[.agg #[.int .i64 d.id, .int .i64 d.fr, .bool d.snap, .slice af d.files.length cf, .int .i64 d.next]] p.u fun e w' => e = .returned (.int .i64 (errI b3)) ∧ Below p.u.heap.size p.u w') := fun p =>
      (checkv_any _ d p.u (HVA.out.below p.h) HSM.out).mono fun e w' ⟨⟨b, h1, h2⟩, h3⟩ => ⟨by rw [h2, show b = b3 from by rw [Bool.eq_iff_iff, h1, hb3]], h3⟩
    have HRT : Hid (∀ p : Kin wa, Calls Tryz.prog 61 #[.slice (some ⟨b1, o1, none⟩) ds.length ca, .agg #[.int .i64 d.id, .int .i64 d.fr, .bool d.snap, .slice af d.files.length cf, .int .i64 d.next]] p.u fun e w' => e = .returned (.bool b4) ∧ Below p.u.heap.size p.u w') := fun p =>
      (rooted_any _ ds ca _ d p.u (HRA.out.below p.h) (HVA.out.below p.h) hl).mono fun e w' ⟨⟨b, h1, h2⟩, h3⟩ => ⟨by rw [h1, show b = b4 from by rw [Bool.eq_iff_iff, h2, hb4]], h3⟩
    obtain ⟨bad, hbad⟩ : ∃ b : Bool, b = (decide (d.id ≤ la) || decide (next ≤ d.id) || !b3 || !b4) := ⟨_, rfl⟩
    have HBAD : Hid (bad = (decide (d.id ≤ la) || decide (next ≤ d.id) || !b3 || !b4)) := hbad
    have HEB : Hid (bad = false ↔ EachW ds next k) := by
      show _ ↔ _
      rw [HEK.out, ← hb3, ← hb4, hbad]
      cases b3 <;> cases b4 <;> simp <;> omega
    clear hbad hb3 hb4
    go_cut [61] from 35 to 61 (fun s61 wx => s61 = .bool bad ∧ Below wa.heap.size wa wx)
    case first =>
      have z0 : ∀ p : Kin wa, p.u.cell? ⟨wr.heap.size, 0, none⟩ = some (.int .i64 d.id) := fun p => kcell x0 p
      have z1 : ∀ p : Kin wa, p.u.cell? ⟨wr.heap.size, 1, none⟩ = some (.int .i64 d.fr) := fun p => kcell x1 p
      have z2 : ∀ p : Kin wa, p.u.cell? ⟨wr.heap.size, 2, none⟩ = some (.bool d.snap) := fun p => kcell x2 p
      have z3 : ∀ p : Kin wa, p.u.cell? ⟨wr.heap.size, 3, none⟩ = some (.slice af d.files.length cf) := fun p => kcell x3 p
      have z4 : ∀ p : Kin wa, p.u.cell? ⟨wr.heap.size, 4, none⟩ = some (.int .i64 d.next) := fun p => kcell x4 p
      have z5 : ∀ p : Kin wa, p.u.cell? ⟨S, 0, none⟩ = some (.slice (some ⟨b1, o1, none⟩) ds.length ca) := fun p => kcell s0 p
      have z6 : ∀ p : Kin wa, p.u.cell? ⟨S, 1, none⟩ = some (.int .i64 next) := fun p => kcell s1 p
      clear x0 x1 x2 x3 x4 s0 s1 h2 h3
      by_cases ha : d.id ≤ la
      · have ha1 : decide (d.id ≤ la) = true := decide_eq_true ha
        have HBD : Hid (bad = true) := by show _ = _; rw [HBAD.out, ha1]; rfl
        refine wp_region_kin (by kernel_rfl) (by kernel_rfl) ?_
        repeat (first | go_big_quiet_step (first | (go_at_call 60; exact Calls.kin_of (HCK.out _)) | (go_at_call 61; exact Calls.kin_of (HRT.out _)) | fail) | quiet_step (first | (go_at_call 60; exact Calls.kin_of (HCK.out _)) | (go_at_call 61; exact Calls.kin_of (HRT.out _)) | fail))
        refine wpQuiet_nil ?_
        intro _ hw'
        obtain ⟨pq, hw''⟩ := hw'
        subst hw''
        go_wp2_with fail
        go_meet
        exact ⟨by rw [HBD.out], pq.h⟩
      · have ha1 : decide (d.id ≤ la) = false := decide_eq_false ha
        by_cases hc : next ≤ d.id
        · have hc1 : decide (next ≤ d.id) = true := decide_eq_true hc
          have HBD : Hid (bad = true) := by show _ = _; rw [HBAD.out, ha1, hc1]; rfl
          refine wp_region_kin (by kernel_rfl) (by kernel_rfl) ?_
          repeat (first | go_big_quiet_step (first | (go_at_call 60; exact Calls.kin_of (HCK.out _)) | (go_at_call 61; exact Calls.kin_of (HRT.out _)) | fail) | quiet_step (first | (go_at_call 60; exact Calls.kin_of (HCK.out _)) | (go_at_call 61; exact Calls.kin_of (HRT.out _)) | fail))
          refine wpQuiet_nil ?_
          intro _ hw'
          obtain ⟨pq, hw''⟩ := hw'
          subst hw''
          go_wp2_with fail
          go_meet
          exact ⟨by rw [HBD.out], pq.h⟩
        · have hc1 : decide (next ≤ d.id) = false := decide_eq_false hc
          have HBA2 : Hid (bad = (!b3 || !b4)) := by show _ = _; rw [HBAD.out, ha1, hc1]; rfl
          cases b3
          · have HBD : Hid (bad = true) := by show _ = _; rw [HBA2.out]; rfl
            rw [errI_f] at HCK
            refine wp_region_kin (by kernel_rfl) (by kernel_rfl) ?_
            repeat (first | go_big_quiet_step (first | (go_at_call 60; exact Calls.kin_of (HCK.out _)) | (go_at_call 61; exact Calls.kin_of (HRT.out _)) | fail) | quiet_step (first | (go_at_call 60; exact Calls.kin_of (HCK.out _)) | (go_at_call 61; exact Calls.kin_of (HRT.out _)) | fail))
            refine wpQuiet_nil ?_
            intro _ hw'
            obtain ⟨pq, hw''⟩ := hw'
            subst hw''
            go_wp2_with fail
            go_meet
            exact ⟨by rw [HBD.out], pq.h⟩
          · rw [errI_t] at HCK
            cases b4
            · have HBD : Hid (bad = true) := by show _ = _; rw [HBA2.out]; rfl
              refine wp_region_kin (by kernel_rfl) (by kernel_rfl) ?_
              repeat (first | go_big_quiet_step (first | (go_at_call 60; exact Calls.kin_of (HCK.out _)) | (go_at_call 61; exact Calls.kin_of (HRT.out _)) | fail) | quiet_step (first | (go_at_call 60; exact Calls.kin_of (HCK.out _)) | (go_at_call 61; exact Calls.kin_of (HRT.out _)) | fail))
              refine wpQuiet_nil ?_
              intro _ hw'
              obtain ⟨pq, hw''⟩ := hw'
              subst hw''
              go_wp2_with fail
              go_meet
              exact ⟨by rw [HBD.out], pq.h⟩
            · have HBD : Hid (bad = false) := by show _ = _; rw [HBA2.out]; rfl
              refine wp_region_kin (by kernel_rfl) (by kernel_rfl) ?_
              repeat (first | go_big_quiet_step (first | (go_at_call 60; exact Calls.kin_of (HCK.out _)) | (go_at_call 61; exact Calls.kin_of (HRT.out _)) | fail) | quiet_step (first | (go_at_call 60; exact Calls.kin_of (HCK.out _)) | (go_at_call 61; exact Calls.kin_of (HRT.out _)) | fail))
              refine wpQuiet_nil ?_
              intro _ hw'
              obtain ⟨pq, hw''⟩ := hw'
              subst hw''
              go_wp2_with fail
              go_meet
              exact ⟨by rw [HBD.out], pq.h⟩
    case rest =>
    obtain ⟨rfl, hbc⟩ := hcut
    have hbW := nwT HBB.out hbc
    have xx0 := (hbc.cell (p := ⟨wr.heap.size, 0, none⟩) (block_lt_of_cell x0)).trans x0
    clear x0 x1 x2 x3 x4 s0 s1 hbc HCK HRT
    cases bad
    case true =>
      have HN : Hid (¬ VolsOk ds next) := fun h => by have := HEB.out.2 (h.2 k hlt); cases this
      go_wp2_with fail
      go_ret
      exact ⟨says_no HN.out, hbW⟩
    case false =>
      have HY : Hid (EachW ds next k) := HEB.out.1 rfl
      go_wp2_with fail
      go_roundw
      case rel => exact ⟨k + 1, by omega, by go_num, by rw [HLA.out], hbW, fun j hj => by
        by_cases e : j = k
        · subst e; exact HY.out
        · exact HE.out j (by omega)⟩
      case measure => simp [intOf]; omega

set_option maxRecDepth 100000 in
set_option maxHeartbeats 1000000 in
theorem vcheck_any (a : Option Addr) (ds : List VolD) (ca : Nat) (next : Int) (w : World) (hv : VolsAt w a ds) (hs : SmallW ds) :
    Calls Tryz.prog 23 #[.slice a ds.length ca, .int .i64 next] w fun e w' => (∃ b : Bool, (b = true ↔ VolsOk ds next) ∧ e = .returned (.int .i64 (errI b))) ∧ Below w.heap.size w w' := by
  have HV : Hid (VolsAt w a ds) := hv
  have HS : Hid (SmallW ds) := hs
  have HB0 : Hid (Below w.heap.size w (w.alloc (.cells #[.slice a ds.length ca, .int .i64 next] 88))) := nwA (nwR w) _
  have HX0 : Hid ((w.alloc (.cells #[.slice a ds.length ca, .int .i64 next] 88)).heap[w.heap.size]? = some (.cells #[.slice a ds.length ca, .int .i64 next] 88 (0, 0))) := heap_alloc_new w _
  clear hv hs
  go_enter Tryz.func23, Tryz.ntmps23
  go_wp2_with fail
  refine (vmayBe_any w.heap.size a ds ca next _ HX0.out (HV.out.below HB0.out) HS.out).mono ?_
  rintro e w1 ⟨⟨b, rfl, hb⟩, hb1⟩
  have HB1 : Hid (Below w.heap.size w w1) := nwT HB0.out hb1
  have HBB : Hid (b = true ↔ VolsOk ds next) := hb
  clear hb hb1 HB0 HX0
  cases b
  · go_wp2_with fail
    go_ret
    exact ⟨⟨false, by simpa using HBB.out, rfl⟩, HB1.out⟩
  · go_wp2_with fail
    go_ret
    exact ⟨⟨true, by simpa using HBB.out, rfl⟩, HB1.out⟩

end Go.Proofs.YtbaphgdlbeaenaaGreat

/- The shelf opened: a copy of the volumes, and the one that is asked for. -/
namespace Go.Proofs.YtbaphgdlbeaenaaGreat
open Go.RowKit

set_option maxRecDepth 100000 in
set_option maxHeartbeats 1000000 in
theorem copies_nil (a : Option Addr) (ca : Nat) (w : World) :
    Calls Tryz.prog 66 #[.slice a 0 ca] w fun e w' => (∃ u, e = .returned u ∧ OwnVols w' w.heap.size u []) ∧ Below w.heap.size w w' := by
  have HC : Hid (Calls Tryz.prog 54 #[.slice a 0 ca] w fun e w' => (∃ v', e = .returned v' ∧ w'.ownsRow w.heap.size 48 5 v' 0 []) ∧ Below w.heap.size w w') := by
    cases a with
    | none => exact (clov_nil 0 ca w).mono fun e w' ⟨h1, h2⟩ => ⟨⟨_, h1, World.ownsRow_nil _ _ _ _⟩, by rw [h2]; exact nwR w⟩
    | some p => exact clov_row p 0 ca [] w rfl (by omega) (fun j u h => by simp at h) (fun u h => by simp at h)
  go_enter Tryz.func66, Tryz.ntmps66
  go_wp2_with fail
  refine HC.out.mono ?_
  rintro e w1 ⟨⟨fv, rfl, hrow⟩, hb1⟩
  have HB1 : Hid (Below w.heap.size w w1) := hb1
  have HO : Hid (OwnVols w1 w.heap.size fv []) := ⟨[], rfl, hrow, fun g hg => by simp at hg⟩
  obtain ⟨av, cv, rfl, _⟩ := HO.out.at
  clear hrow hb1 HC
  go_wp2_with fail
  go_loopw [9] (fun i wr => i = .int .i64 0 ∧ wr = w1) (fun i _ => 0)
  case atStart => exact ⟨rfl, rfl⟩
  case round =>
    obtain ⟨rfl, rfl⟩ := hrel
    go_wp2_with fail
    go_ret
    exact ⟨⟨_, rfl, HO.out⟩, HB1.out⟩
theorem copies_any (a : Option Addr) (ds : List VolD) (ca : Nat) (w : World) (hv : VolsAt w a ds) (hs : SmallW ds) (hp : ∀ d ∈ ds, 0 < d.files.length) :
    Calls Tryz.prog 66 #[.slice a ds.length ca] w fun e w' => (∃ u, e = .returned u ∧ OwnVols w' w.heap.size u ds) ∧ Below w.heap.size w w' := by
  by_cases h : 0 < ds.length
  · obtain ⟨b, o, rfl, _⟩ := hv.vol h
    exact copies_some b o ds ca w hv hs hp h
  · have e : ds = [] := List.length_eq_zero_iff.1 (by omega)
    subst e
    exact copies_nil a ca w

theorem cell_of_blk {w : World} {k : Nat} {v : Value} {t : TypeId} (h : w.heap[k]? = some (.cells #[v] t (0, 0))) : w.cell? ⟨k, 0, none⟩ = some v := by
  simp [World.cell?, h]
theorem ownVs_tag {w : World} {base : Nat} {v : Value} {ds : List VolD} {g : Nat} {cur : Array Value} {t : TypeId} (h : OwnVols w base v ds) (hg : w.heap[g]? = some (.cells cur t (0, 0))) (h1 : t ≠ 48) (h2 : t ≠ 74) (h3 : t ≠ 3) (h4 : t ≠ 71) (o : Nat) (u : Value) : OwnVols (w.setCell ⟨g, o, none⟩ u) base v ds := by
  obtain ⟨gs, e, ho, ha⟩ := h
  refine ⟨gs, e, rowset2 ho hg h1 u, fun x hx => ?_⟩
  obtain ⟨fs, e2, ho2, ha2⟩ := ha x hx
  exact ⟨fs, e2, rowset2 ho2 hg h2 u, fun y hy => ⟨rowset2 (ha2 y hy).1 hg h3 u, rowset2 (ha2 y hy).2 hg h4 u⟩⟩
/-- a shelf of one's own -/
structure ShelfAt (w : World) (base S g cap : Nat) (ds : List VolD) (next : Int) : Prop where
  le : base ≤ S
  hp : w.heap[S]? = some (.cells #[.slice (some ⟨g, 0, none⟩) ds.length cap, .int .i64 next] 88 (0, 0))
  own : OwnVols w base (.slice (some ⟨g, 0, none⟩) ds.length cap) ds
theorem ShelfAt.below {w w' : World} {base S g cap : Nat} {ds : List VolD} {next : Int} (h : ShelfAt w base S g cap ds next) (hb : Below w.heap.size w w') : ShelfAt w' base S g cap ds next :=
  ⟨h.le, (hb.block _ (Array.getElem?_eq_some_iff.1 h.hp).1).trans h.hp, h.own.below hb⟩
def OpenR (ds : List VolD) (next id : Int) (base : Nat) (e : Ending) (w' : World) : Prop :=
  (¬ VolsOk ds next ∧ e = .returned (.tuple #[.pointer none, .agg #[.pointer none], .int .i64 1])) ∨
  (VolsOk ds next ∧ atV ds id = none ∧ e = .returned (.tuple #[.pointer none, .agg #[.pointer none], .int .i64 3])) ∨
  ∃ k S g cap, VolsOk ds next ∧ atV ds id = some k ∧ e = .returned (.tuple #[.pointer (some ⟨S, 0, none⟩), .agg #[.pointer (some ⟨g, k * 5, none⟩)], .int .i64 0]) ∧ ShelfAt w' base S g cap ds next
theorem VolsOk.pos {ds : List VolD} {next : Int} (h : VolsOk ds next) : ∀ d ∈ ds, 0 < d.files.length := by
  intro d hd
  obtain ⟨i, hi, rfl⟩ := List.getElem_of_mem hd
  have := (h.2 i hi).1
  rw [show ds.getD i VZ = ds[i] from by simp [List.getD, hi]] at this
  exact this.2.1.1.1

set_option maxRecDepth 100000 in
set_option maxHeartbeats 2000000 in
theorem open_any (a : Option Addr) (ds : List VolD) (ca : Nat) (next id : Int) (w : World) (hv : VolsAt w a ds) (hs : SmallW ds) :
    Calls Tryz.prog 50 #[.slice a ds.length ca, .int .i64 next, .int .i64 id] w fun e w' => OpenR ds next id w.heap.size e w' ∧ Below w.heap.size w w' := by
  have HV : Hid (VolsAt w a ds) := hv
  have HS : Hid (SmallW ds) := hs
  have hl := hs.1
  have HB0 : Hid (Below w.heap.size w (w.alloc (.cells #[.pointer none] 95))) := nwA (nwR w) _
  have HR0 : Hid ((w.alloc (.cells #[.pointer none] 95)).heap[w.heap.size]? = some (.cells #[.pointer none] 95 (0, 0))) := heap_alloc_new w _
  clear hv hs
  go_enter Tryz.func50, Tryz.ntmps50
  go_wp2_with fail
  refine (vcheck_any a ds ca next _ (HV.out.below HB0.out) HS.out).mono ?_
  rintro e w1 ⟨⟨b, hb, rfl⟩, hb1⟩
  have HB1 : Hid (Below w.heap.size w w1) := nwT HB0.out hb1
  have HR1 : Hid (w1.heap[w.heap.size]? = some (.cells #[.pointer none] 95 (0, 0))) := (hb1.block _ (by simp)).trans HR0.out
  have HBV : Hid (b = true ↔ VolsOk ds next) := hb
  clear hb hb1 HB0 HR0
  cases b
  case false =>
    rw [errI_f]
    have HQ : Hid (OpenR ds next id w.heap.size (.returned (.tuple #[.pointer none, .agg #[.pointer none], .int .i64 1])) (w1.setCell ⟨w.heap.size, 0, none⟩ (.pointer none))) := .inl ⟨(fun h => by have := HBV.out.2 h; cases this), rfl⟩
    have r0 := cell_of_blk HR1.out
    have rf : ∀ o, w1.frozen? ⟨w.heap.size, o, none⟩ = false := fun o => Lib.frozen_of_heap HR1.out o
    go_wp2_with fail
    refine bodyPost_ret (v := .tuple #[.pointer none, .agg #[.pointer none], .int .i64 1]) (by simp [results, Tryz.results50, go_sem, r0]) rfl ⟨HQ.out, HB1.out.setCell (p := ⟨w.heap.size, 0, none⟩) (Nat.le_refl _) _⟩
  case true =>
  rw [errI_t]
  have HOK : Hid (VolsOk ds next) := by have := HBV.out.1 rfl; exact this
  clear HBV
  go_wp2_with fail
  refine (copies_any a ds ca w1 (HV.out.below HB1.out) HS.out HOK.out.pos).mono ?_
  rintro e w2 ⟨⟨u, rfl, hu⟩, hb2⟩
  obtain ⟨au, cu, rfl, hua, _⟩ := hu.at
  have hsz1 := HB1.out.size
  have HU : Hid (OwnVols w2 w.heap.size (.slice au ds.length cu) ds) := hu.le hsz1
  have HUA : Hid (VolsAt w2 au ds) := hua
  have HB2 : Hid (Below w.heap.size w w2) := nwT HB1.out hb2
  have HR2 : Hid (w2.heap[w.heap.size]? = some (.cells #[.pointer none] 95 (0, 0))) := (hb2.block _ (Array.getElem?_eq_some_iff.1 HR1.out).1).trans HR1.out
  have hsz2 := HB2.out.size
  have HSZ : Hid (w.heap.size ≤ w2.heap.size) := hsz2
  clear hu hua hb2 HB1 HR1 hsz1 hsz2
  have HBA : Hid (Below w2.heap.size w2 (w2.alloc (.cells #[.slice au ds.length cu, .int .i64 next] 88))) := nwA (nwR w2) _
  have HSA : Hid ((w2.alloc (.cells #[.slice au ds.length cu, .int .i64 next] 88)).heap[w2.heap.size]? = some (.cells #[.slice au ds.length cu, .int .i64 next] 88 (0, 0))) := heap_alloc_new w2 _
  go_wp2_with fail
  refine (vfind_any au ds cu id _ (HUA.out.below HBA.out) hl).mono ?_
  rintro e w3 ⟨rfl, hb3⟩
  have HB3 : Hid (Below w.heap.size w w3) := nwT HB2.out (nwT HBA.out hb3)
  have HS3 : Hid (w3.heap[w2.heap.size]? = some (.cells #[.slice au ds.length cu, .int .i64 next] 88 (0, 0))) := (hb3.block _ (by simp)).trans HSA.out
  have HU3 : Hid (OwnVols w3 w.heap.size (.slice au ds.length cu) ds) := (HU.out.below HBA.out).below hb3
  have HR3 : Hid (w3.heap[w.heap.size]? = some (.cells #[.pointer none] 95 (0, 0))) := (nwT HBA.out hb3).block _ (Array.getElem?_eq_some_iff.1 HR2.out).1 |>.trans HR2.out
  clear hb3 HBA HSA HU HUA HB2 HR2
  generalize w2.heap.size = S at HS3 HSZ ⊢
  have HBA : Hid (∀ p, Below w3.heap.size w3 (w3.alloc (.cells #[p] 95))) := fun p => nwA (nwR w3) _
  cases hat : atV ds id with
  | none =>
    have HQ : Hid (∀ w', OpenR ds next id w.heap.size (.returned (.tuple #[.pointer none, .agg #[.pointer none], .int .i64 3])) w') := fun w' => .inr (.inl ⟨HOK.out, hat, rfl⟩)
    simp only [Option.isSome, ptrV_none]
    have r0 := cell_of_blk ((((HBA.out (.pointer none)).block _ (Array.getElem?_eq_some_iff.1 HR3.out).1)).trans HR3.out)
    have rf : ∀ o, (w3.alloc (.cells #[.pointer none] 95)).frozen? ⟨w.heap.size, o, none⟩ = false := fun o => Lib.frozen_of_heap ((((HBA.out (.pointer none)).block _ (Array.getElem?_eq_some_iff.1 HR3.out).1)).trans HR3.out) o
    clear hat
    go_wp2_with fail
    refine bodyPost_ret (v := .tuple #[.pointer none, .agg #[.pointer none], .int .i64 3]) (by simp [results, Tryz.results50, go_sem, r0]) rfl ⟨HQ.out _, (nwA HB3.out _).setCell (p := ⟨w.heap.size, 0, none⟩) (Nat.le_refl _) _⟩
  | some k =>
    have hkl := atV_lt hat
    obtain ⟨g, hg⟩ : ∃ g, au = some ⟨g, 0, none⟩ := by
      obtain ⟨gs, e1, ho, _⟩ := HU3.out
      rcases ho.2 with ⟨hv, hn⟩ | ⟨g', cap', cur, hv, _⟩
      · have : gs.length = ds.length := by rw [← e1, List.length_map]
        omega
      · injection hv with h1 _ _; exact ⟨g', h1⟩
    subst hg
    simp only [Option.isSome, ptrV, Nat.zero_add]
    have HQ : Hid (∀ w', ShelfAt w' w.heap.size S g cu ds next → OpenR ds next id w.heap.size (.returned (.tuple #[.pointer (some ⟨S, 0, none⟩), .agg #[.pointer (some ⟨g, k * 5, none⟩)], .int .i64 0])) w') := fun w' h => .inr (.inr ⟨k, S, g, cu, HOK.out, hat, rfl, h⟩)
    have HRA : Hid ((w3.alloc (.cells #[.pointer (some ⟨g, k * 5, none⟩)] 95)).heap[w.heap.size]? = some (.cells #[.pointer none] 95 (0, 0))) := ((HBA.out (.pointer (some ⟨g, k * 5, none⟩))).block _ (Array.getElem?_eq_some_iff.1 HR3.out).1).trans HR3.out
    have HSN : Hid (S ≠ w.heap.size) := fun e => by have h := HS3.out; rw [e, HR3.out] at h; simp at h
    have r0 := cell_of_blk HRA.out
    have rf : ∀ o, (w3.alloc (.cells #[.pointer (some ⟨g, k * 5, none⟩)] 95)).frozen? ⟨w.heap.size, o, none⟩ = false := fun o => Lib.frozen_of_heap HRA.out o
    have n0 : (w3.alloc (.cells #[.pointer (some ⟨g, k * 5, none⟩)] 95)).cell? ⟨w3.heap.size, 0, none⟩ = some (.pointer (some ⟨g, k * 5, none⟩)) := cell_of_blk (heap_alloc_new w3 _)
    have HBF : Hid (Below w.heap.size w (w3.alloc (.cells #[.pointer (some ⟨g, k * 5, none⟩)] 95))) := nwA HB3.out _
    have HUF : Hid (OwnVols (w3.alloc (.cells #[.pointer (some ⟨g, k * 5, none⟩)] 95)) w.heap.size (.slice (some ⟨g, 0, none⟩) ds.length cu) ds) := HU3.out.below (HBA.out _)
    have HSF : Hid ((w3.alloc (.cells #[.pointer (some ⟨g, k * 5, none⟩)] 95)).heap[S]? = some (.cells #[.slice (some ⟨g, 0, none⟩) ds.length cu, .int .i64 next] 88 (0, 0))) := ((HBA.out _).block _ (Array.getElem?_eq_some_iff.1 HS3.out).1).trans HS3.out
    clear hat
    go_wp2_with fail
    generalize w3.alloc (.cells #[.pointer (some ⟨g, k * 5, none⟩)] 95) = W4 at r0 rf n0 HBF HUF HSF HRA ⊢
    go_region
    all_goals
      go_wp2_with fail
      refine bodyPost_ret (v := .tuple #[.pointer (some ⟨S, 0, none⟩), .agg #[.pointer (some ⟨g, k * 5, none⟩)], .int .i64 0]) (by simp [results, Tryz.results50, go_sem, r0]) rfl ⟨HQ.out _ ⟨HSZ.out, ?_, ?_⟩, ?_⟩
      · refine (Below.heap_setCell _ _ _ _ (by show S ≠ w.heap.size; exact HSN.out)).trans ?_
        exact HSF.out
      · exact ownVs_tag (cur := #[.pointer none]) (t := 95) HUF.out HRA.out (by decide) (by decide) (by decide) (by decide) 0 _
      · first | exact HBF.out.setCell (p := ⟨w.heap.size, 0, none⟩) (Nat.le_refl _) _ | exact Below.drew (HBF.out.setCell (p := ⟨w.heap.size, 0, none⟩) (Nat.le_refl _) _)

end Go.Proofs.YtbaphgdlbeaenaaGreat

/- A row sifted in its place: step by step. -/
namespace Go.Proofs.YtbaphgdlbeaenaaGreat
open Go.RowKit

/-- j of the row are looked at, those that stay stand at its first i places -/
structure Sift {α : Type} (p : α → Bool) (l l' : List α) (i j : Nat) : Prop where
  len : l'.length = l.length
  ij : i ≤ j
  done : l'.take i = (l.take j).filter p
  rest : l'.drop j = l.drop j
theorem sift_start {α : Type} {p : α → Bool} {l : List α} {k : Nat} (hk : k < l.length) (h : ∀ t, t < k → ∀ x, l[t]? = some x → p x = true) (hn : ∀ x, l[k]? = some x → p x = false) : Sift p l l k (k + 1) := by
  refine ⟨rfl, by omega, ?_, rfl⟩
  rw [List.take_succ_eq_append_getElem hk, List.filter_append]
  have h1 : (l.take k).filter p = l.take k := by
    rw [List.filter_eq_self]
    intro x hx
    obtain ⟨t, ht, rfl⟩ := List.getElem_of_mem hx
    rw [List.length_take] at ht
    exact h t (by omega) _ (by rw [List.getElem_take]; exact List.getElem?_eq_getElem (by omega))
  have h2 : p l[k] = false := hn _ (List.getElem?_eq_getElem hk)
  rw [h1]; simp [h2]
theorem Sift.get {α : Type} {p : α → Bool} {l l' : List α} {i j : Nat} (h : Sift p l l' i j) {t : Nat} (ht : j ≤ t) : l'[t]? = l[t]? := by
  have := congrArg (fun x => x[t - j]?) h.rest
  simp only [List.getElem?_drop] at this
  rwa [show j + (t - j) = t from by omega] at this
theorem Sift.keep {α : Type} {p : α → Bool} {l l' : List α} {i j : Nat} (h : Sift p l l' i j) {x : α} (hx : l[j]? = some x) (hp : p x = true) : Sift p l (l'.set i x) (i + 1) (j + 1) := by
  have hj := (List.getElem?_eq_some_iff.1 hx).1
  have hjx := (List.getElem?_eq_some_iff.1 hx).2
  have hl := h.len
  have hij := h.ij
  refine ⟨by rw [List.length_set]; exact hl, by omega, ?_, ?_⟩
  · rw [List.take_succ_eq_append_getElem (by rw [List.length_set]; omega), List.take_set_of_le (Nat.le_refl _), h.done, List.take_succ_eq_append_getElem hj, List.filter_append, hjx]
    simp [hp]
  · apply List.ext_getElem?
    intro t
    rw [List.getElem?_drop, List.getElem?_drop, List.getElem?_set, if_neg (by omega), h.get (by omega)]
theorem Sift.skip {α : Type} {p : α → Bool} {l l' : List α} {i j : Nat} (h : Sift p l l' i j) {x : α} (hx : l[j]? = some x) (hp : p x = false) : Sift p l l' i (j + 1) := by
  have hj := (List.getElem?_eq_some_iff.1 hx).1
  have hjx := (List.getElem?_eq_some_iff.1 hx).2
  have hij := h.ij
  refine ⟨h.len, by omega, ?_, ?_⟩
  · rw [h.done, List.take_succ_eq_append_getElem hj, List.filter_append, hjx]
    simp [hp]
  · apply List.ext_getElem?
    intro t
    rw [List.getElem?_drop, List.getElem?_drop, h.get (by omega)]
theorem Sift.fin {α : Type} {p : α → Bool} {l l' : List α} {i j : Nat} (h : Sift p l l' i j) (hj : l.length ≤ j) : l'.take i = l.filter p := by
  rw [h.done, List.take_of_length_le hj]
theorem Sift.le {α : Type} {p : α → Bool} {l l' : List α} {i j : Nat} (h : Sift p l l' i j) (hj : l.length = j) : (l.filter p).length = i := by
  rw [← h.fin (by omega), List.length_take, h.len]
  have := h.ij
  omega

theorem gb_setg {w w' : World} {g i : Nat} (h : w.grownBy w' (some g)) (v : Value) : w.grownBy (w'.setCell ⟨g, i, none⟩ v) (some g) :=
  h.trans ⟨rfl, rfl, rfl, by simp, fun k _ hk => heap_setCell_other w' ⟨g, i, none⟩ k v (fun e => hk (by simp [e]))⟩
theorem own_shrink {w : World} {base e size g n cap m : Nat} {xs : List Value} (h : w.ownsRow base e size (.slice (some ⟨g, 0, none⟩) n cap) n xs) (hm : m ≤ n) : w.ownsRow base e size (.slice (some ⟨g, 0, none⟩) m cap) m (xs.take (m * size)) := by
  have hms : m * size ≤ n * size := Nat.mul_le_mul_right _ hm
  refine ⟨by rw [List.length_take, h.1]; omega, .inr ?_⟩
  rcases h.2 with ⟨h1, _⟩ | ⟨g', cap', cur, h1, h2, h3, h4, h5, h6, h7⟩
  · simp at h1
  · simp only [Value.slice.injEq, Option.some.injEq, Addr.mk.injEq, and_true, true_and] at h1
    obtain ⟨rfl, rfl⟩ := h1
    exact ⟨g, cap, cur, rfl, h2, h3, by omega, h5, h6, by rw [← h7, List.take_take, Nat.min_eq_left hms]⟩
theorem own_setCells {base e size g n cap : Nat} : ∀ (vs : List Value) (o : Nat) (w : World) (xs : List Value), w.ownsRow base e size (.slice (some ⟨g, 0, none⟩) n cap) n xs →
    ∃ ys, (w.setCells g o vs).ownsRow base e size (.slice (some ⟨g, 0, none⟩) n cap) n ys ∧ ys.take o = xs.take o := by
  intro vs
  induction vs with
  | nil => intro o w xs h; exact ⟨xs, h, rfl⟩
  | cons v r ih =>
    intro o w xs h
    obtain ⟨ys, h1, h2⟩ := ih (o + 1) _ _ (World.ownsRow.stored h o v).1
    refine ⟨ys, h1, ?_⟩
    have := congrArg (List.take o) h2
    rw [List.take_take, List.take_take, Nat.min_eq_left (by omega), List.take_set_of_le (Nat.le_refl _)] at this
    exact this
theorem gb_setCells {w0 : World} {g : Nat} : ∀ (vs : List Value) (o : Nat) (w : World), w0.grownBy w (some g) → w0.grownBy (w.setCells g o vs) (some g) := by
  intro vs
  induction vs with
  | nil => intro o w h; exact h
  | cons v r ih => intro o w h; exact ih (o + 1) _ (gb_setg h _)
theorem vflat_cons (y : VV) (ys : List VV) : vflat (y :: ys) = .int .i64 y.d.id :: .int .i64 y.d.fr :: .bool y.d.snap :: y.fv :: .int .i64 y.d.next :: vflat ys := by simp [vflat]
theorem vflat_set5 (gs : List VV) : ∀ (i : Nat) (x : VV), i < gs.length → vflat (gs.set i x) = (((((vflat gs).set (i * 5) (.int .i64 x.d.id)).set (i * 5 + 1) (.int .i64 x.d.fr)).set (i * 5 + 2) (.bool x.d.snap)).set (i * 5 + 3) x.fv).set (i * 5 + 4) (.int .i64 x.d.next) := by
  induction gs with
  | nil => intro i x h; simp at h
  | cons y l ih =>
    intro i x h
    cases i with
    | zero => simp [vflat_cons]
    | succ i =>
      have := ih i x (by simpa using h)
      rw [show (i + 1) * 5 = i * 5 + 1 + 1 + 1 + 1 + 1 from by omega, show i * 5 + 1 + 1 + 1 + 1 + 1 + 1 = (i * 5 + 1) + 1 + 1 + 1 + 1 + 1 from rfl, show i * 5 + 1 + 1 + 1 + 1 + 1 + 2 = (i * 5 + 2) + 1 + 1 + 1 + 1 + 1 from rfl, show i * 5 + 1 + 1 + 1 + 1 + 1 + 3 = (i * 5 + 3) + 1 + 1 + 1 + 1 + 1 from rfl, show i * 5 + 1 + 1 + 1 + 1 + 1 + 4 = (i * 5 + 4) + 1 + 1 + 1 + 1 + 1 from rfl]
      simp only [List.set_cons_succ, vflat_cons]
      rw [this]
theorem vflat_take (gs : List VV) (k : Nat) : vflat (gs.take k) = (vflat gs).take (k * 5) := by
  induction gs generalizing k with
  | nil => simp [vflat]
  | cons y l ih =>
    cases k with
    | zero => simp [vflat]
    | succ k =>
      rw [List.take_succ_cons, vflat_cons, vflat_cons, ih k, show (k + 1) * 5 = k * 5 + 1 + 1 + 1 + 1 + 1 from by omega]
      simp
def RowW (w : World) (base g n cap : Nat) (gs : List VV) : Prop := w.ownsRow base 48 5 (.slice (some ⟨g, 0, none⟩) n cap) n (vflat gs)
theorem RowW.cellAt {w : World} {base g n cap : Nat} {gs : List VV} (h : RowW w base g n cap gs) {i : Nat} {x : VV} (hx : gs[i]? = some x) : w.cell? ⟨g, i * 5, none⟩ = some (.int .i64 x.d.id) ∧ w.cell? ⟨g, i * 5 + 1, none⟩ = some (.int .i64 x.d.fr) ∧ w.cell? ⟨g, i * 5 + 2, none⟩ = some (.bool x.d.snap) ∧ w.cell? ⟨g, i * 5 + 3, none⟩ = some x.fv ∧ w.cell? ⟨g, i * 5 + 4, none⟩ = some (.int .i64 x.d.next) := by
  obtain ⟨c0, c1, c2, c3, c4⟩ := vflat_get gs i x hx
  have K : ∀ j u, (vflat gs)[j]? = some u → w.cell? ⟨g, j, none⟩ = some u := fun j u hj => by
    have := World.ownsRow.cells h (g := g) rfl j u hj
    rwa [addr_add, Nat.zero_add] at this
  exact ⟨K _ _ c0, K _ _ c1, K _ _ c2, K _ _ c3, K _ _ c4⟩
theorem RowW.setAt {w : World} {base g n cap : Nat} {gs : List VV} (h : RowW w base g n cap gs) {i : Nat} (x : VV) (hi : i < gs.length) : RowW (((((w.setCell ⟨g, i * 5, none⟩ (.int .i64 x.d.id)).setCell ⟨g, i * 5 + 1, none⟩ (.int .i64 x.d.fr)).setCell ⟨g, i * 5 + 2, none⟩ (.bool x.d.snap)).setCell ⟨g, i * 5 + 3, none⟩ x.fv).setCell ⟨g, i * 5 + 4, none⟩ (.int .i64 x.d.next)) base g n cap (gs.set i x) := by
  have h1 := (World.ownsRow.stored h (i * 5) (.int .i64 x.d.id)).1
  have h2 := (h1.stored (i * 5 + 1) (.int .i64 x.d.fr)).1
  have h3 := (h2.stored (i * 5 + 2) (.bool x.d.snap)).1
  have h4 := (h3.stored (i * 5 + 3) x.fv).1
  have h5 := (h4.stored (i * 5 + 4) (.int .i64 x.d.next)).1
  unfold RowW
  rw [vflat_set5 gs i x hi]
  exact h5
theorem zero5 {z0 z1 z2 z3 z4 : Value} (h : z0.oneCell' = true ∧ z1.oneCell' = true ∧ z2.oneCell' = true ∧ z3.oneCell' = true ∧ z4.oneCell' = true) (n : Nat) : ∀ v ∈ (Builtin.zeroCells #[z0, z1, z2, z3, z4] n).toList, v.oneCell' = true := by
  intro v hv
  simp only [Builtin.zeroCells, Array.toList_map, List.mem_map] at hv
  obtain ⟨i, _, rfl⟩ := hv
  have hi : i % 5 < 5 := Nat.mod_lt _ (by omega)
  show (#[z0, z1, z2, z3, z4][i % 5]!).oneCell' = true
  generalize i % 5 = m at hi
  have : m = 0 ∨ m = 1 ∨ m = 2 ∨ m = 3 ∨ m = 4 := by omega
  rcases this with rfl | rfl | rfl | rfl | rfl
  · exact h.1
  · exact h.2.1
  · exact h.2.2.1
  · exact h.2.2.2.1
  · exact h.2.2.2.2
theorem clear_vols (w : World) (b o n c : Nat) (hc : ∀ j, j < n * 5 → (w.cell? ⟨b, o + j, none⟩).isSome = true) (hf : ∀ j, w.frozen? ⟨b, j, none⟩ = false) :
    ∃ vs : List Value, ∀ ty, (Builtin.clear_ #[86] ty #[.slice (some ⟨b, o, none⟩) n c]).run Tryz.prog w = .ok (.tuple #[]) (w.setCells b o vs) := by
  cases n with
  | zero => exact ⟨[], fun ty => by simp [Builtin.clear_, run_underlying Tryz.underlying86, World.setCells]⟩
  | succ m =>
    have hv : (zeroValue 48).run Tryz.prog w = .ok (.agg #[.int .i64 0, .int .i64 0, .bool false, .slice none 0 0, .int .i64 0]) w := by kernel_rfl
    have hst := run_storeCells_cells (P := Tryz.prog) b o (Builtin.zeroCells #[.int .i64 0, .int .i64 0, .bool false, .slice none 0 0, .int .i64 0] (m + 1)).toList 0 w (fun j hj => by
      rw [Nat.add_zero]; exact hc j (by simpa [Builtin.zeroCells] using hj)) (fun j _ => hf _) (zero5 ⟨rfl, rfl, rfl, rfl, rfl⟩ _)
    simp only [Nat.add_zero] at hst
    refine ⟨(Builtin.zeroCells #[.int .i64 0, .int .i64 0, .bool false, .slice none 0 0, .int .i64 0] (m + 1)).toList, fun ty => ?_⟩
    have hz : (Value.agg #[.int .i64 0, .int .i64 0, .bool false, .slice none 0 0, .int .i64 0]).cells = #[.int .i64 0, .int .i64 0, .bool false, .slice none 0 0, .int .i64 0] := by kernel_rfl
    simp [Builtin.clear_, run_underlying Tryz.underlying86, hv, hz, hst]
theorem clear_ints (w : World) (b o n c : Nat) (hc : ∀ j, j < n → (w.cell? ⟨b, o + j, none⟩).isSome = true) (hf : ∀ j, w.frozen? ⟨b, j, none⟩ = false) :
    ∃ vs : List Value, ∀ ty, (Builtin.clear_ #[32] ty #[.slice (some ⟨b, o, none⟩) n c]).run Tryz.prog w = .ok (.tuple #[]) (w.setCells b o vs) := by
  cases n with
  | zero => exact ⟨[], fun ty => by simp [Builtin.clear_, run_underlying Tryz.underlying32, World.setCells]⟩
  | succ m =>
    exact ⟨_, fun ty => Lib.run_clear_slice (P := Tryz.prog) w 32 3 ty (.int .i64 0) Tryz.underlying32 (fun w => by kernel_rfl) (by kernel_rfl) rfl b o (m + 1) c (by omega) hc (fun j _ => hf _)⟩

end Go.Proofs.YtbaphgdlbeaenaaGreat

/- A tally: numbers rising, each once, and how often each was met; made, met, and what was not met, by the program. -/
namespace Go.Proofs.YtbaphgdlbeaenaaGreat
open Go.RowKit

/-- a row of numbers that fills its block -/
def RowN (w : World) (base T : Nat) (ts : List Int) : Prop := w.ownsRow base 3 1 (.slice (some ⟨T, 0, none⟩) ts.length ts.length) ts.length (ts.map (.int .i64))
theorem RowN.own {w : World} {base T : Nat} {ts : List Int} (h : RowN w base T ts) : OwnInts w base (.slice (some ⟨T, 0, none⟩) ts.length ts.length) ts := h
theorem RowN.cell {w : World} {base T : Nat} {ts : List Int} (h : RowN w base T ts) {k : Nat} (hk : k < ts.length) : w.cell? ⟨T, k, none⟩ = some (.int .i64 (ts.getD k 0)) := by
  have := World.ownsRow.cellAt h k (by omega)
  rw [this]
  simp [List.getD, hk]
theorem RowN.set {w : World} {base T : Nat} {ts : List Int} (h : RowN w base T ts) (k : Nat) (x : Int) : RowN (w.setCell ⟨T, k, none⟩ (.int .i64 x)) base T (ts.set k x) := by
  have := (World.ownsRow.stored h k (.int .i64 x)).1
  unfold RowN
  rw [List.length_set, List.map_set]
  exact this
theorem RowN.below {w w' : World} {base T : Nat} {ts : List Int} (h : RowN w base T ts) (hb : Below w.heap.size w w') : RowN w' base T ts := own_below h hb
theorem RowN.lt {w : World} {base T : Nat} {ts : List Int} (h : RowN w base T ts) : base ≤ T ∧ T < w.heap.size := World.ownsRow.lt h T rfl
theorem RowN.new (w : World) (n : Nat) (hn : n ≤ 10000000) {base : Nat} (hb : base ≤ w.heap.size) : RowN (w.alloc (.cells (madeCells #[Value.int .i64 0] n) 3)) base w.heap.size (List.replicate n 0) := by
  unfold RowN
  rw [List.length_replicate]
  refine ⟨by simp, .inr ⟨w.heap.size, n, _, rfl, hb, heap_alloc_new _ _, Nat.le_refl _, by unfold maxLen; omega, by simp [madeCells], ?_⟩⟩
  apply List.ext_getElem
  · simp [madeCells]
  · intro i h1 h2
    simp [madeCells, Nat.mod_one]

theorem two_set {w : World} {g : Nat} {c0 c1 d0 d1 : Value} {t : TypeId} (h : w.heap[g]? = some (.cells #[c0, c1] t (0, 0))) : ((w.setCell ⟨g, 0, none⟩ d0).setCell ⟨g, 1, none⟩ d1).heap[g]? = some (.cells #[d0, d1] t (0, 0)) := by
  have h1 := heap_setCell_same w g 0 _ t d0 h
  have h2 := heap_setCell_same _ g 1 _ t d1 h1
  simpa using h2
theorem OwnInts.two {w : World} {base : Nat} {v : Value} {s : List Int} (h : OwnInts w base v s) {g : Nat} (hg : v.ownBlock ≠ some g) (d0 d1 : Value) : OwnInts ((w.setCell ⟨g, 0, none⟩ d0).setCell ⟨g, 1, none⟩ d1) base v s :=
  World.ownsRow.kept h (gb_setg (gb_set d0) d1) (.inr hg)

set_option maxRecDepth 100000 in
set_option maxHeartbeats 2000000 in
theorem tallyOf_any (a : Option Addr) (rs : List RowD) (ca : Nat) (w : World) (hr : RowsAt w a rs) (hl : rs.length ≤ 1000000) (hn : (allN rs).length ≤ 1000000) :
    Calls Tryz.prog 26 #[.slice a rs.length ca] w fun e w' => (∃ v T, e = .returned (.agg #[v, .slice (some ⟨T, 0, none⟩) (risN (allN rs)).length (risN (allN rs)).length]) ∧ OwnInts w' w.heap.size v (risN (allN rs)) ∧ RowN w' w.heap.size T (List.replicate (risN (allN rs)).length 0) ∧ v.ownBlock ≠ some T) ∧ Below w.heap.size w w' := by
  have HR : Hid (RowsAt w a rs) := hr
  have HN : Hid ((allN rs).length ≤ 1000000) := hn
  clear hr hn
  have hsl : (risN (allN rs)).length ≤ 1000000 := Nat.le_trans (risN_len _) HN.out
  obtain ⟨s, hs⟩ : ∃ s, s = risN (allN rs) := ⟨_, rfl⟩
  have HSE : Hid (risN (allN rs) = s) := hs.symm
  rw [← hs] at hsl ⊢
  clear hs
  go_enter Tryz.func26, Tryz.ntmps26
  have HB0 : Hid (Below w.heap.size w (w.alloc (.cells #[.slice none 0 0, .slice none 0 0] 57))) := nwA (nwR w) _
  have HX0 : Hid ((w.alloc (.cells #[.slice none 0 0, .slice none 0 0] 57)).heap[w.heap.size]? = some (.cells #[.slice none 0 0, .slice none 0 0] 57 (0, 0))) := heap_alloc_new w _
  go_wp2_with fail
  generalize w.alloc (.cells #[.slice none 0 0, .slice none 0 0] 57) = W0 at HB0 HX0 ⊢
  refine (setOf_any a rs ca W0 (HR.out.below HB0.out) hl HN.out).mono ?_
  rintro e w1 ⟨⟨v1, rfl, hO1⟩, hb1⟩
  rw [HSE.out] at hO1
  have HO1 : Hid (OwnInts w1 w.heap.size v1 s) := own_le hO1 HB0.out.size
  have HB1 : Hid (Below w.heap.size w w1) := nwT HB0.out hb1
  have HX1 : Hid (w1.heap[w.heap.size]? = some (.cells #[.slice none 0 0, .slice none 0 0] 57 (0, 0))) := (hb1.block _ (Array.getElem?_eq_some_iff.1 HX0.out).1).trans HX0.out
  have HV : Hid (∀ k, v1.ownBlock = some k → w.heap.size < k ∧ k < w1.heap.size) := fun k h => ⟨by
    have h1 := (World.ownsRow.lt hO1 k h).1
    have h2 : w.heap.size < W0.heap.size := (Array.getElem?_eq_some_iff.1 HX0.out).1
    omega, (World.ownsRow.lt hO1 k h).2⟩
  clear hO1 hb1 HB0 HX0 HR HN
  obtain ⟨av, cv, rfl, _⟩ := id HO1.out.at
  have hmk := run_make_row' (P := Tryz.prog) 32 3 (.int .i64 0) 8 Tryz.underlying32 Tryz.info3 rfl .i64 .i64 s.length (by omega) (by omega)
  have HRN : Hid (RowN (w1.alloc (.cells (madeCells #[Value.int .i64 0] s.length) 3)) w.heap.size w1.heap.size (List.replicate s.length 0)) := RowN.new w1 _ (by omega) HB1.out.size
  have HO2 : Hid (OwnInts (w1.alloc (.cells (madeCells #[Value.int .i64 0] s.length) 3)) w.heap.size (.slice av s.length cv) s) := own_below HO1.out (nwA (nwR w1) _)
  have HB2 : Hid (Below w.heap.size w (w1.alloc (.cells (madeCells #[Value.int .i64 0] s.length) 3))) := nwA HB1.out _
  have HX2 : Hid ((w1.alloc (.cells (madeCells #[Value.int .i64 0] s.length) 3)).heap[w.heap.size]? = some (.cells #[.slice none 0 0, .slice none 0 0] 57 (0, 0))) := ((nwA (nwR w1) _).block _ (Array.getElem?_eq_some_iff.1 HX1.out).1).trans HX1.out
  obtain ⟨c0, c1, cf⟩ := two_cells HX2.out
  have HXX : Hid (w1.heap[w.heap.size]? = some (.cells #[.slice none 0 0, .slice none 0 0] 57 (0, 0))) := HX1.out
  clear HO1 HX1
  go_wp2_with fail
  have HT1 : w.heap.size < w1.heap.size := (Array.getElem?_eq_some_iff.1 (show w1.heap[w.heap.size]? = _ from HXX.out)).1
  have HO3 := HO2.out.two (g := w.heap.size) (fun e => by have := (HV.out _ e).1; omega) (.slice av s.length cv) (.slice (some ⟨w1.heap.size, 0, none⟩) s.length s.length)
  have HR3 := OwnInts.two HRN.out.own (g := w.heap.size) (fun e => by
    simp only [Value.ownBlock, Option.some.injEq] at e
    omega) (.slice av s.length cv) (.slice (some ⟨w1.heap.size, 0, none⟩) s.length s.length)
  have HB3 : Below w.heap.size w _ := (HB2.out.setCell (p := ⟨w.heap.size, 0, none⟩) (Nat.le_refl _) (.slice av s.length cv)).setCell (p := ⟨w.heap.size, 1, none⟩) (Nat.le_refl _) (.slice (some ⟨w1.heap.size, 0, none⟩) s.length s.length)
  obtain ⟨e0, e1, _⟩ := two_cells (two_set (d0 := .slice av s.length cv) (d1 := .slice (some ⟨w1.heap.size, 0, none⟩) s.length s.length) HX2.out)
  generalize (((w1.alloc (.cells (madeCells #[Value.int .i64 0] s.length) 3)).setCell ⟨w.heap.size, 0, none⟩ (.slice av s.length cv)).setCell ⟨w.heap.size, 1, none⟩ (.slice (some ⟨w1.heap.size, 0, none⟩) s.length s.length)) = W3 at HO3 HR3 HB3 e0 e1 ⊢
  refine bodyPost_ret (v := .agg #[.slice av s.length cv, .slice (some ⟨w1.heap.size, 0, none⟩) s.length s.length]) (by simp [results, Tryz.results26, go_sem, e0, e1]) rfl ⟨⟨_, _, rfl, HO3, HR3, fun e => ?_⟩, HB3⟩
  have := (HV.out _ e).2
  omega

structure Met (w : World) (base T : Nat) (v : Value) (n : Nat) (ts : List Int) (wr : World) : Prop where
  g : w.grownBy wr (some T)
  x : wr.heap[w.heap.size]? = some (.cells #[v, .slice (some ⟨T, 0, none⟩) n n] 57 (0, 0))
  r : RowN wr base T ts
theorem Met.below {w : World} {base T : Nat} {v : Value} {n : Nat} {ts : List Int} {wr w' : World} (h : Met w base T v n ts wr) (hb : Below wr.heap.size wr w') : Met w base T v n ts w' :=
  ⟨h.g.trans (gbOf hb _), (hb.block _ (Array.getElem?_eq_some_iff.1 h.x).1).trans h.x, h.r.below hb⟩
theorem Met.set {w : World} {base T : Nat} {v : Value} {n : Nat} {ts : List Int} {wr : World} (h : Met w base T v n ts wr) (hT : T < w.heap.size) (k : Nat) (x : Int) : Met w base T v n (ts.set k x) (wr.setCell ⟨T, k, none⟩ (.int .i64 x)) :=
  ⟨gb_setg h.g _, (Below.heap_setCell _ _ _ _ (by show w.heap.size ≠ T; omega)).trans h.x, h.r.set k x⟩

set_option maxRecDepth 100000 in
set_option maxHeartbeats 4000000 in
theorem meet_any (base T : Nat) (v : Value) (s : List Int) (a : Option Addr) (rs : List RowD) (ca : Nat) (w0 w : World) (hb0 : Below w0.heap.size w0 w) (hT : w0.heap.size ≤ T) (hr : RowsAt w0 a rs) (hl : rs.length ≤ 1000000) (hn : (allN rs).length ≤ 1000000)
    (hv : OwnInts w base v s) (hs : s.Pairwise (· < ·)) (hsl : s.length ≤ 10000000) (ht : RowN w base T (cntN s [])) (hne : v.ownBlock ≠ some T) :
    Calls Tryz.prog 27 #[.agg #[v, .slice (some ⟨T, 0, none⟩) s.length s.length], .slice a rs.length ca] w fun e w' => e = .returned (.tuple #[]) ∧ OwnInts w' base v s ∧ RowN w' base T (cntN s (allN rs)) ∧ w.grownBy w' (some T) := by
  have HR : Hid (RowsAt w0 a rs) := hr
  have HN : Hid ((allN rs).length ≤ 1000000) := hn
  have HS : Hid (s.Pairwise (· < ·)) := hs
  have HV : Hid (∀ w', w.grownBy w' (some T) → OwnInts w' base v s) := fun w' hg => World.ownsRow.kept hv hg (.inr hne)
  have HTL : Hid (T < w.heap.size) := ht.lt.2
  have HB : Hid (∀ w', w.grownBy w' (some T) → Below w0.heap.size w0 w') := fun w' hg => hb0.grown hg hb0.size (fun k e => by injection e with e; omega)
  have HM0 : Hid (Met w base T v s.length (cntN s []) (w.alloc (.cells #[v, .slice (some ⟨T, 0, none⟩) s.length s.length] 57))) :=
    ⟨gbOf (nwA (nwR w) _) _, heap_alloc_new w _, ht.below (nwA (nwR w) _)⟩
  clear hr hn hs hv hb0 ht
  go_enter Tryz.func27, Tryz.ntmps27
  go_wp2_with fail
  go_loopw [12] (fun i wr => ∃ (k : Nat), k ≤ rs.length ∧ i = .int .i64 k ∧ Hid (Met w base T v s.length (cntN s (allN (rs.take k))) wr))
    (fun i _ => rs.length - (intOf i).toNat)
  case atStart => exact ⟨0, by omega, rfl, HM0⟩
  case round =>
    obtain ⟨k, hk, rfl, HM⟩ := hrel
    clear HM0
    by_cases hkl : k < rs.length
    · have hkli : (k : Int) < (rs.length : Int) := by omega
      obtain ⟨b1, o1, rfl, hc, hok, _⟩ := (HR.out.below (HB.out _ HM.out.g)).row hkl
      have HS2 : Hid (allN (rs.take (k + 1)) = allN (rs.take k) ++ (rs.getD k rw0).2.2) := allN_take hkl
      have hle : (allN (rs.take k)).length + (rs.getD k rw0).2.2.length ≤ 1000000 := by
        rw [← List.length_append, ← HS2.out]; exact Nat.le_trans (allN_take_le rs _) HN.out
      have HROW : Hid (IntsAt w0 (rs.getD k rw0).1 (rs.getD k rw0).2.2) := by
        obtain ⟨_, _, _, _, h, _⟩ := HR.out.row hkl
        exact h
      generalize rs.getD k rw0 = r at hc HS2 hle HROW
      obtain ⟨ar, cr, xs⟩ := r
      simp only [rowV] at hc hle
      simp only at HS2 HROW
      generalize allN (rs.take k) = m at HM HS2 hle
      clear hok
      go_wp2_with fail
      go_loopw [18] (fun i wr => ∃ (j : Nat), j ≤ xs.length ∧ i = .int .i64 j ∧ Hid (Met w base T v s.length (cntN s (m ++ xs.take j)) wr))
        (fun i _ => xs.length - (intOf i).toNat)
      case atStart => exact ⟨0, by omega, rfl, by show Met _ _ _ _ _ _ _; rw [List.take_zero, List.append_nil]; exact HM.out⟩
      case round =>
        obtain ⟨j, hj, rfl, HI⟩ := hrel
        clear HM hc
        by_cases hjl : j < xs.length
        · have hjli : (j : Int) < (xs.length : Int) := by omega
          obtain ⟨b2, o2, rfl, hx⟩ := (HROW.out.below (HB.out _ HI.out.g)).cell hjl
          have HX : Hid (m ++ xs.take (j + 1) = (m ++ xs.take j) ++ [xs.getD j 0]) := by
            show _ = _
            rw [List.take_succ_eq_append_getElem hjl, List.append_assoc]; simp [List.getD, hjl]
          have hml : (m ++ xs.take j).length ≤ 1000000 := by rw [List.length_append, List.length_take]; omega
          generalize xs.getD j 0 = x at hx HX
          generalize m ++ xs.take j = mm at HI HX hml
          obtain ⟨x0, x1, xf⟩ := two_cells HI.out.x
          have HAT : Hid (Calls Tryz.prog 48 #[v, .int .i64 x] wr fun e w' => e = .returned (.tuple #[.int .i64 (s.countP (· < x) : Nat), .bool (s.contains x)]) ∧ ∃ q, w' = wr.drewN q) := sat_any base v s x wr (HV.out _ HI.out.g) HS.out hsl
          by_cases hxs : x ∈ s
          · have hcx : s.contains x = true := by simpa using hxs
            obtain ⟨hcl, hce⟩ := lt_find HS.out hxs
            have HST : Hid (cntN s (m ++ xs.take (j + 1)) = (cntN s mm).set (s.countP (· < x)) ((cntN s mm).getD (s.countP (· < x)) 0 + 1)) := by
              show _ = _
              rw [HX.out]
              have := cntN_step HS.out mm hcl
              rw [hce] at this
              exact this
            have hbd := cntN_bound s mm (s.countP (· < x))
            rw [hcx] at HAT
            generalize s.countP (· < x) = p at HAT HST hcl hbd
            have t0 := HI.out.r.cell (k := p) (by rw [cntN_len]; exact hcl)
            have tf : ∀ o, wr.frozen? ⟨T, o, none⟩ = false := fun o => World.ownsRow.frozenAt HI.out.r o
            have hpi : (p : Int) < (s.length : Int) := by omega
            have hp0 : (0 : Int) ≤ (p : Int) := by omega
            generalize (cntN s mm).getD p 0 = c at t0 HST hbd
            have HMM : Hid (∀ q, Met w base T v s.length (cntN s (m ++ xs.take (j + 1))) ((wr.drewN q).setCell ⟨T, p, none⟩ (.int .i64 (c + 1)))) := fun q => by
              rw [HST.out]
              exact (HI.out.below (below_drewN (nwR wr) q)).set HTL.out p (c + 1)
            have hc1 : c ≤ 1000000 := by omega
            have hc0 : 0 ≤ c := hbd.1
            clear hcx hce hxs HX HST HI hbd
            go_wp2_with fail
            refine HAT.out.mono ?_
            rintro e w2 ⟨rfl, q, rfl⟩
            clear HAT
            go_wp2_with fail
            go_roundw
            case rel => exact ⟨j + 1, by omega, by go_num, HMM.out q⟩
            case measure => simp [intOf]; omega
          · have hcx : s.contains x = false := by simpa using hxs
            have HMM : Hid (∀ q, Met w base T v s.length (cntN s (m ++ xs.take (j + 1))) (wr.drewN q)) := fun q => by
              rw [HX.out, cntN_skip mm hxs]
              exact HI.out.below (below_drewN (nwR wr) q)
            rw [hcx] at HAT
            clear hcx hxs HX HI
            go_wp2_with fail
            refine HAT.out.mono ?_
            rintro e w2 ⟨rfl, q, rfl⟩
            clear HAT
            go_wp2_with fail
            go_roundw
            case rel => exact ⟨j + 1, by omega, by go_num, HMM.out q⟩
            case measure => simp [intOf]; omega
        · have hjli : ¬ (j : Int) < (xs.length : Int) := by omega
          have HMM : Hid (Met w base T v s.length (cntN s (allN (rs.take (k + 1)))) wr) := by
            have := HI.out
            rw [List.take_of_length_le (by omega), ← HS2.out] at this
            exact this
          clear HI
          go_wp2_with fail
          go_roundw
          case rel => exact ⟨k + 1, by omega, by go_num, HMM⟩
          case measure => simp [intOf]; omega
    · have hkli : ¬ (k : Int) < (rs.length : Int) := by omega
      have h := HM.out
      rw [List.take_of_length_le (by omega)] at h
      go_wp2_with fail
      go_end0
      exact ⟨rfl, HV.out _ h.g, h.r, h.g⟩

/-- those of a list beside which 0 stands -/
def zerosN (s ts : List Int) (k : Nat) : List Int := ((List.range k).filter fun i => decide (ts.getD i 0 = 0)).map fun i => s.getD i 0
theorem zerosN_succ (s ts : List Int) (k : Nat) : zerosN s ts (k + 1) = zerosN s ts k ++ (if ts.getD k 0 = 0 then [s.getD k 0] else []) := by
  unfold zerosN
  rw [List.range_succ, List.filter_append, List.map_append]
  congr 1
  by_cases h : ts.getD k 0 = 0
  · rw [if_pos h, List.filter_cons, if_pos (decide_eq_true h)]; rfl
  · rw [if_neg h, List.filter_cons, if_neg (by rw [decide_eq_false h]; decide)]; rfl
theorem zerosN_len (s ts : List Int) (k : Nat) : (zerosN s ts k).length ≤ k := by
  unfold zerosN
  rw [List.length_map]
  exact Nat.le_trans (List.length_filter_le _ _) (by simp)
theorem zerosN_cnt (s m : List Int) : zerosN s (cntN s m) s.length = s.filter fun x => decide (m.count x = 0) := by
  have h : ∀ k, k ≤ s.length → zerosN s (cntN s m) k = (s.take k).filter fun x => decide (m.count x = 0) := by
    intro k
    induction k with
    | zero => intro _; simp [zerosN]
    | succ k ih =>
      intro hk
      have hkl : k < s.length := by omega
      rw [zerosN_succ, ih (by omega), List.take_succ_eq_append_getElem hkl, List.filter_append]
      congr 1
      rw [cntN_get m hkl]
      have e : s.getD k 0 = s[k] := by simp [List.getD, hkl]
      rw [e]
      by_cases hc : m.count s[k] = 0
      · simp [hc]
      · have : ¬ ((m.count s[k] : Nat) : Int) = 0 := by omega
        simp [hc]
  rw [h _ (Nat.le_refl _), List.take_length]

set_option maxRecDepth 100000 in
set_option maxHeartbeats 4000000 in
theorem unmet_any (base T : Nat) (v : Value) (s ts : List Int) (w : World) (hv : OwnInts w base v s) (hsl : s.length ≤ 1000000) (ht : RowN w base T ts) (htl : ts.length = s.length) :
    Calls Tryz.prog 51 #[.agg #[v, .slice (some ⟨T, 0, none⟩) s.length s.length]] w fun e w' => (∃ u, e = .returned u ∧ OwnInts w' w.heap.size u (zerosN s ts s.length)) ∧ Below w.heap.size w w' := by
  obtain ⟨av, cv, rfl, hat, _⟩ := id hv.at
  have HAT : Hid (IntsAt w av s) := hat
  have HB0 : Hid (Below w.heap.size w (w.alloc (.cells #[.slice av s.length cv, .slice (some ⟨T, 0, none⟩) s.length s.length] 57))) := nwA (nwR w) _
  have HX0 : Hid ((w.alloc (.cells #[.slice av s.length cv, .slice (some ⟨T, 0, none⟩) s.length s.length] 57)).heap[w.heap.size]? = some (.cells #[.slice av s.length cv, .slice (some ⟨T, 0, none⟩) s.length s.length] 57 (0, 0))) := heap_alloc_new w _
  have HTT : Hid (∀ k, k < s.length → w.cell? ⟨T, k, none⟩ = some (.int .i64 (ts.getD k 0))) := fun k hk => ht.cell (by omega)
  clear hv hat ht
  obtain ⟨i0, hi, hz0, hz1, hz2⟩ := info_parts Tryz.info3
  go_enter Tryz.func51, Tryz.ntmps51
  go_wp2_with fail
  go_loopw [3, 9] (fun v i wr => ∃ (k : Nat), k ≤ s.length ∧ i = .int .i64 k ∧ OwnInts wr (w.heap.size + 1) v (zerosN s ts k) ∧ Hid (Below w.heap.size w wr ∧ wr.heap[w.heap.size]? = some (.cells #[.slice av s.length cv, .slice (some ⟨T, 0, none⟩) s.length s.length] 57 (0, 0))))
    (fun _ i _ => s.length - (intOf i).toNat)
  case atStart => exact ⟨0, by omega, rfl, World.ownsRow_nil _ _ _ _, HB0.out, HX0.out⟩
  case round =>
    obtain ⟨k, hk, rfl, hO, HW⟩ := hrel
    have HO : Hid (OwnInts wr (w.heap.size + 1) u3 (zerosN s ts k)) := hO
    clear hO HX0 HB0
    by_cases hkl : k < s.length
    · have hkli : (k : Int) < (s.length : Int) := by omega
      have hk0 : (0 : Int) ≤ (k : Int) := by omega
      obtain ⟨b1, o1, rfl, hc⟩ := (HAT.out.below HW.out.1).cell hkl
      have ht0 := (HW.out.1.cell (p := ⟨T, k, none⟩) (block_lt_of_cell (HTT.out k hkl))).trans (HTT.out k hkl)
      obtain ⟨x0, x1, _⟩ := two_cells HW.out.2
      have HS : Hid (zerosN s ts (k + 1) = zerosN s ts k ++ (if ts.getD k 0 = 0 then [s.getD k 0] else [])) := zerosN_succ s ts k
      have hlt : (zerosN s ts k).length ≤ 1000000 := Nat.le_trans (zerosN_len s ts k) (by omega)
      generalize s.getD k 0 = x at hc HS
      generalize ts.getD k 0 = y at ht0 HS
      generalize zerosN s ts k = ys at HO HS hlt
      by_cases hy : y = 0
      · have HS2 : Hid (zerosN s ts (k + 1) = ys ++ [x]) := by show _ = _; rw [HS.out, if_pos hy]
        subst hy
        clear HS
        have hx1 : w.heap.size < wr.heap.size := (Array.getElem?_eq_some_iff.1 HW.out.2).1
        have hsz : w.heap.size + 1 ≤ (wr.alloc (.cells #[.int .i64 x] 3)).heap.size := by simp; omega
        have hc3 : ys.length + 1 ≤ maxLen := by unfold maxLen; omega
        have hc4 : (ys.length + 1) * 8 ≤ 140737488355328 := by omega
        go_wp2_with (at_builtin; refine wpList_append_own _ rfl (.tmp 20) (.tmp 22) 32 rfl (w.heap.size + 1) 3 i0 (.int .i64 0) 1 8 Tryz.underlying32 hi hz0 hz1 hz2 rfl (by decide) u3 ys.length (ys.map (.int .i64)) rfl (World.ownsRow.alloc HO.out _) ⟨wr.heap.size, 0, none⟩ 1 1 [.int .i64 x] rfl rfl (cells_new _ [.int .i64 x] _) (by simp [Value.oneCell']) hc3 hc4 hsz ?_; intro v' w3 hown hgrow _; refine unstop ?_)
        unfold Stop
        have hbA : Below (w.heap.size + 1) (wr.alloc (.cells #[.int .i64 x] 3)) w3 := (Below.refl _ _).grown hgrow hsz (fun q e => (World.ownsRow.lt HO.out q e).1)
        have HB3 : Hid (Below w.heap.size w w3 ∧ w3.heap[w.heap.size]? = some (.cells #[.slice (some ⟨b1, o1, none⟩) s.length cv, .slice (some ⟨T, 0, none⟩) s.length s.length] 57 (0, 0))) :=
          ⟨(nwA HW.out.1 _).trans (hbA.mono (by omega)), (hbA.block _ (by omega)).trans (((nwA (nwR wr) _).block _ hx1).trans HW.out.2)⟩
        have HO3 : Hid (OwnInts w3 (w.heap.size + 1) v' (zerosN s ts (k + 1))) := by rw [HS2.out]; exact OwnInts.snoc hown
        clear hown hgrow hbA
        go_wp2_with fail
        go_roundw
        case rel => exact ⟨k + 1, by omega, by go_num, HO3.out, HB3⟩
        case measure => simp [intOf]; omega
      · have hy2 : (y == 0) = false := beq_eq_false_iff_ne.2 hy
        have HS2 : Hid (zerosN s ts (k + 1) = ys) := by show _ = _; rw [HS.out, if_neg hy, List.append_nil]
        clear hy HS
        go_wp2_with fail
        go_roundw
        case rel => exact ⟨k + 1, by omega, by go_num, by rw [HS2.out]; exact HO.out, HW⟩
        case measure => simp [intOf]; omega
    · have hkli : ¬ (k : Int) < (s.length : Int) := by omega
      have hke : s.length = k := by omega
      have HOE : Hid (OwnInts wr (w.heap.size + 1) u3 (zerosN s ts s.length)) := by rw [hke]; exact HO.out
      clear hke
      clear HO
      have h := HOE.out
      obtain ⟨au, cu, rfl, _⟩ := h.at
      go_wp2_with fail
      go_ret
      exact ⟨⟨_, rfl, own_le HOE.out (by omega)⟩, HW.out.1⟩

end Go.Proofs.YtbaphgdlbeaenaaGreat
