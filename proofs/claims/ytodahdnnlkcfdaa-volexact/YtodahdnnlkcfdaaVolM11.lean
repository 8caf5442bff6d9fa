/- Laid together: Maybv, Openvv, Snapv, Addv, Snapp. -/
import Derived.Test.YtodahdnnlkcfdaaVolM10
import Derived.Deep.CutRange
/- Whether volumes may be, by the program. -/
namespace Go.Proofs.Ytodahdnnlkcfdaa
open Go.RowKit

def lastV (ds : List VolD) (k : Nat) : Int := if k = 0 then 0 else (ds.getD (k - 1) VZ).id
/-- what is asked of each volume of a row -/
def EachW (ds : List VolD) (next : Int) (k : Nat) : Prop := VolOk (ds.getD k VZ) ∧ (lastV ds k < (ds.getD k VZ).id ∧ (ds.getD k VZ).id < next) ∧ RootW ds (ds.getD k VZ)
/-- which volumes may be -/
def VolsOk (ds : List VolD) (next : Int) : Prop := (ds.length ≤ 4 ∧ 1 ≤ next ∧ next ≤ 1073741824) ∧ ∀ k, k < ds.length → EachW ds next k
theorem two_cells {w : World} {g : Nat} {c0 c1 : Value} {t : TypeId} (h : w.heap[g]? = some (.cells #[c0, c1] t (0, 0))) : w.cell? ⟨g, 0, none⟩ = some c0 ∧ w.cell? ⟨g, 1, none⟩ = some c1 ∧ ∀ o, w.frozen? ⟨g, o, none⟩ = false :=
  ⟨by rw [Lib.cell_of_heap h]; rfl, by rw [Lib.cell_of_heap h]; rfl, fun o => Lib.frozen_of_heap h o⟩
theorem bool_of (P : Prop) : ∃ b : Bool, b = true ↔ P := by classical exact ⟨decide P, by simp⟩

set_option maxRecDepth 100000 in
set_option maxHeartbeats 4000000 in
theorem vmayBe_any (S : Nat) (a : Option Addr) (ds : List VolD) (ca : Nat) (next : Int) (w : World) (hS : w.heap[S]? = some (.cells #[.slice a ds.length ca, .int .i64 next] 74 (0, 0))) (hv : VolsAt w a ds) (hs : SmallW ds) :
    Calls Try.prog 51 #[.pointer (some ⟨S, 0, none⟩)] w fun e w' => SaysB e (VolsOk ds next) ∧ Below w.heap.size w w' := by
  have HV : Hid (VolsAt w a ds) := hv
  have HS : Hid (SmallW ds) := hs
  have HSB : Hid (w.heap[S]? = some (.cells #[.slice a ds.length ca, .int .i64 next] 74 (0, 0))) := hS
  have hl := hs.1
  obtain ⟨s0, s1, _⟩ := two_cells hS
  clear hv hs hS
  by_cases hh : ds.length ≤ 4 ∧ 1 ≤ next ∧ next ≤ 1073741824
  case neg =>
    have HN : Hid (¬ VolsOk ds next) := fun h => hh h.1
    by_cases h1 : (4 : Int) < (ds.length : Int)
    · clear hh
      go_enter Try.func51, Try.ntmps51
      go_wp2_with fail
      go_ret
      exact ⟨says_no HN.out, nwR w⟩
    · by_cases h2 : next < 1
      · clear hh
        go_enter Try.func51, Try.ntmps51
        go_wp2_with fail
        go_ret
        exact ⟨says_no HN.out, nwR w⟩
      · have h3 : 1073741824 < next := by omega
        clear hh
        go_enter Try.func51, Try.ntmps51
        go_wp2_with fail
        go_ret
        exact ⟨says_no HN.out, nwR w⟩
  case pos =>
  have HH : Hid (ds.length ≤ 4 ∧ 1 ≤ next ∧ next ≤ 1073741824) := hh
  have h1 : ¬ (4 : Int) < (ds.length : Int) := by omega
  have h2 : ¬ next < 1 := by omega
  have h3 : ¬ 1073741824 < next := by omega
  clear hh
  go_enter Try.func51, Try.ntmps51
  go_wp2_with fail
  clear s0 s1
  go_loopw [3, 31] (fun la i wr => ∃ (k : Nat), k ≤ ds.length ∧ i = .int .i64 k ∧ la = .int .i64 (lastV ds k) ∧ Below w.heap.size w wr ∧ Hid (∀ j, j < k → EachW ds next j))
    (fun _ i _ => ds.length - (intOf i).toNat)
  case atStart => exact ⟨0, by omega, rfl, rfl, nwR w, fun j hj => by omega⟩
  case round =>
    obtain ⟨k, hk, rfl, rfl, hb, HE⟩ := hrel
    by_cases hlt : k < ds.length
    case neg =>
      have hlti : ¬ (k : Int) < (ds.length : Int) := by omega
      have HY : Hid (VolsOk ds next) := ⟨HH.out, fun j hj => HE.out j (by omega)⟩
      go_wp2_with fail
      go_ret
      exact ⟨⟨true, rfl, by simp; exact HY.out⟩, hb⟩
    case pos =>
    have hlti : (k : Int) < (ds.length : Int) := by omega
    have hk0 : (0 : Int) ≤ (k : Int) := by omega
    obtain ⟨b1, o1, rfl, hvi⟩ := HV.out.vol hlt
    obtain ⟨af, cf, ⟨c0, c1, c2, c3, c4⟩, hval⟩ := (hvi.below hb).val
    have HSM : Hid (SmallV (ds.getD k VZ)) := HS.out.2 _ (by simp [List.getD, hlt])
    have HEK : Hid (EachW ds next k ↔ (VolOk (ds.getD k VZ) ∧ (lastV ds k < (ds.getD k VZ).id ∧ (ds.getD k VZ).id < next) ∧ RootW ds (ds.getD k VZ))) := Iff.rfl
    have HLA : Hid (lastV ds (k + 1) = (ds.getD k VZ).id) := by show _ = _; unfold lastV; rw [if_neg (by omega)]; rfl
    generalize ds.getD k VZ = d at c0 c1 c2 c3 c4 hval HSM HEK HLA
    generalize lastV ds k = la at HEK ⊢
    obtain ⟨wa, hwa⟩ : ∃ wa, wa = wr.alloc (.cells #[.int .i64 d.id, .int .i64 d.fr, .bool d.snap, .slice af d.files.length cf, .int .i64 d.next] 32) := ⟨_, rfl⟩
    have HBA : Hid (Below wr.heap.size wr wa) := by rw [hwa]; exact nwA (nwR wr) _
    have HXA : Hid (wa.heap[wr.heap.size]? = some (.cells #[.int .i64 d.id, .int .i64 d.fr, .bool d.snap, .slice af d.files.length cf, .int .i64 d.next] 32 (0, 0))) := by rw [hwa]; exact heap_alloc_new wr _
    have HVA : Hid (VolVal wa (.agg #[.int .i64 d.id, .int .i64 d.fr, .bool d.snap, .slice af d.files.length cf, .int .i64 d.next]) d) := hval.below HBA.out
    have HRA : Hid (VolsAt wa (some ⟨b1, o1, none⟩) ds) := HV.out.below (nwT hb HBA.out)
    have HBB : Hid (Below w.heap.size w wa) := nwT hb HBA.out
    go_upto_region 7 with fail
    rw [← hwa]
    clear hwa hval hvi c0 c1 c2 c3 c4
    obtain ⟨x0, x1, x2, x3, x4, _⟩ := five HXA.out
    obtain ⟨s0, s1, _⟩ := two_cells ((HBB.out.block _ (Array.getElem?_eq_some_iff.1 HSB.out).1).trans HSB.out)
    obtain ⟨b3, hb3⟩ := bool_of (VolOk d)
    obtain ⟨b4, hb4⟩ := bool_of (RootW ds d)
    have HCK : Hid (∀ p : Kin wa, Calls Try.prog 68 #[.agg #[.int .i64 d.id, .int .i64 d.fr, .bool d.snap, .slice af d.files.length cf, .int .i64 d.next]] p.u fun e w' => e = .returned (.int .i64 (errI b3)) ∧ Below p.u.heap.size p.u w') := fun p =>
      (checkv_any _ d p.u (HVA.out.below p.h) HSM.out).mono fun e w' ⟨⟨b, h1, h2⟩, h3⟩ => ⟨by rw [h2, show b = b3 from by rw [Bool.eq_iff_iff, h1, hb3]], h3⟩
    have HRT : Hid (∀ p : Kin wa, Calls Try.prog 69 #[.slice (some ⟨b1, o1, none⟩) ds.length ca, .agg #[.int .i64 d.id, .int .i64 d.fr, .bool d.snap, .slice af d.files.length cf, .int .i64 d.next]] p.u fun e w' => e = .returned (.bool b4) ∧ Below p.u.heap.size p.u w') := fun p =>
      (rooted_any _ ds ca _ d p.u (HRA.out.below p.h) (HVA.out.below p.h) hl).mono fun e w' ⟨⟨b, h1, h2⟩, h3⟩ => ⟨by rw [h1, show b = b4 from by rw [Bool.eq_iff_iff, h2, hb4]], h3⟩
    obtain ⟨bad, hbad⟩ : ∃ b : Bool, b = (decide (d.id ≤ la) || decide (next ≤ d.id) || !b3 || !b4) := ⟨_, rfl⟩
    have HBAD : Hid (bad = (decide (d.id ≤ la) || decide (next ≤ d.id) || !b3 || !b4)) := hbad
    have HEB : Hid (bad = false ↔ EachW ds next k) := by
      show _ ↔ _
      rw [HEK.out, ← hb3, ← hb4, hbad]
      cases b3 <;> cases b4 <;> simp <;> omega
    clear hbad hb3 hb4
    go_cut [61] from 35 to 61 (fun s61 wx => s61 = .bool bad ∧ Below wa.heap.size wa wx)
    case first =>
      have z0 : ∀ p : Kin wa, p.u.cell? ⟨wr.heap.size, 0, none⟩ = some (.int .i64 d.id) := fun p => kcell x0 p
      have z1 : ∀ p : Kin wa, p.u.cell? ⟨wr.heap.size, 1, none⟩ = some (.int .i64 d.fr) := fun p => kcell x1 p
      have z2 : ∀ p : Kin wa, p.u.cell? ⟨wr.heap.size, 2, none⟩ = some (.bool d.snap) := fun p => kcell x2 p
      have z3 : ∀ p : Kin wa, p.u.cell? ⟨wr.heap.size, 3, none⟩ = some (.slice af d.files.length cf) := fun p => kcell x3 p
      have z4 : ∀ p : Kin wa, p.u.cell? ⟨wr.heap.size, 4, none⟩ = some (.int .i64 d.next) := fun p => kcell x4 p
      have z5 : ∀ p : Kin wa, p.u.cell? ⟨S, 0, none⟩ = some (.slice (some ⟨b1, o1, none⟩) ds.length ca) := fun p => kcell s0 p
      have z6 : ∀ p : Kin wa, p.u.cell? ⟨S, 1, none⟩ = some (.int .i64 next) := fun p => kcell s1 p
      clear x0 x1 x2 x3 x4 s0 s1 h2 h3
      by_cases ha : d.id ≤ la
      · have ha1 : decide (d.id ≤ la) = true := decide_eq_true ha
        have HBD : Hid (bad = true) := by show _ = _; rw [HBAD.out, ha1]; rfl
        refine wp_region_kin (by kernel_rfl) (by kernel_rfl) ?_
        repeat (first | go_big_quiet_step (first | (go_at_call 68; exact Calls.kin_of (HCK.out _)) | (go_at_call 69; exact Calls.kin_of (HRT.out _)) | fail) | quiet_step (first | (go_at_call 68; exact Calls.kin_of (HCK.out _)) | (go_at_call 69; exact Calls.kin_of (HRT.out _)) | fail))
        refine wpQuiet_nil ?_
        intro _ hw'
        obtain ⟨pq, hw''⟩ := hw'
        subst hw''
        go_wp2_with fail
        go_meet
        exact ⟨by rw [HBD.out], pq.h⟩
      · have ha1 : decide (d.id ≤ la) = false := decide_eq_false ha
        by_cases hc : next ≤ d.id
        · have hc1 : decide (next ≤ d.id) = true := decide_eq_true hc
          have HBD : Hid (bad = true) := by show _ = _; rw [HBAD.out, ha1, hc1]; rfl
          refine wp_region_kin (by kernel_rfl) (by kernel_rfl) ?_
          repeat (first | go_big_quiet_step (first | (go_at_call 68; exact Calls.kin_of (HCK.out _)) | (go_at_call 69; exact Calls.kin_of (HRT.out _)) | fail) | quiet_step (first | (go_at_call 68; exact Calls.kin_of (HCK.out _)) | (go_at_call 69; exact Calls.kin_of (HRT.out _)) | fail))
          refine wpQuiet_nil ?_
          intro _ hw'
          obtain ⟨pq, hw''⟩ := hw'
          subst hw''
          go_wp2_with fail
          go_meet
          exact ⟨by rw [HBD.out], pq.h⟩
        · have hc1 : decide (next ≤ d.id) = false := decide_eq_false hc
          have HBA2 : Hid (bad = (!b3 || !b4)) := by show _ = _; rw [HBAD.out, ha1, hc1]; rfl
          cases b3
          · have HBD : Hid (bad = true) := by show _ = _; rw [HBA2.out]; rfl
            rw [errI_f] at HCK
            refine wp_region_kin (by kernel_rfl) (by kernel_rfl) ?_
            repeat (first | go_big_quiet_step (first | (go_at_call 68; exact Calls.kin_of (HCK.out _)) | (go_at_call 69; exact Calls.kin_of (HRT.out _)) | fail) | quiet_step (first | (go_at_call 68; exact Calls.kin_of (HCK.out _)) | (go_at_call 69; exact Calls.kin_of (HRT.out _)) | fail))
            refine wpQuiet_nil ?_
            intro _ hw'
            obtain ⟨pq, hw''⟩ := hw'
            subst hw''
            go_wp2_with fail
            go_meet
            exact ⟨by rw [HBD.out], pq.h⟩
          · rw [errI_t] at HCK
            cases b4
            · have HBD : Hid (bad = true) := by show _ = _; rw [HBA2.out]; rfl
              refine wp_region_kin (by kernel_rfl) (by kernel_rfl) ?_
              repeat (first | go_big_quiet_step (first | (go_at_call 68; exact Calls.kin_of (HCK.out _)) | (go_at_call 69; exact Calls.kin_of (HRT.out _)) | fail) | quiet_step (first | (go_at_call 68; exact Calls.kin_of (HCK.out _)) | (go_at_call 69; exact Calls.kin_of (HRT.out _)) | fail))
              refine wpQuiet_nil ?_
              intro _ hw'
              obtain ⟨pq, hw''⟩ := hw'
              subst hw''
              go_wp2_with fail
              go_meet
              exact ⟨by rw [HBD.out], pq.h⟩
            · have HBD : Hid (bad = false) := by show _ = _; rw [HBA2.out]; rfl
              refine wp_region_kin (by kernel_rfl) (by kernel_rfl) ?_
              repeat (first | go_big_quiet_step (first | (go_at_call 68; exact Calls.kin_of (HCK.out _)) | (go_at_call 69; exact Calls.kin_of (HRT.out _)) | fail) | quiet_step (first | (go_at_call 68; exact Calls.kin_of (HCK.out _)) | (go_at_call 69; exact Calls.kin_of (HRT.out _)) | fail))
              refine wpQuiet_nil ?_
              intro _ hw'
              obtain ⟨pq, hw''⟩ := hw'
              subst hw''
              go_wp2_with fail
              go_meet
              exact ⟨by rw [HBD.out], pq.h⟩
    case rest =>
    obtain ⟨rfl, hbc⟩ := hcut
    have hbW := nwT HBB.out hbc
    have xx0 := (hbc.cell (p := ⟨wr.heap.size, 0, none⟩) (block_lt_of_cell x0)).trans x0
    clear x0 x1 x2 x3 x4 s0 s1 hbc HCK HRT
    cases bad
    case true =>
      have HN : Hid (¬ VolsOk ds next) := fun h => by have := HEB.out.2 (h.2 k hlt); cases this
      go_wp2_with fail
      go_ret
      exact ⟨says_no HN.out, hbW⟩
    case false =>
      have HY : Hid (EachW ds next k) := HEB.out.1 rfl
      go_wp2_with fail
      go_roundw
      case rel => exact ⟨k + 1, by omega, by go_num, by rw [HLA.out], hbW, fun j hj => by
        by_cases e : j = k
        · subst e; exact HY.out
        · exact HE.out j (by omega)⟩
      case measure => simp [intOf]; omega

set_option maxRecDepth 100000 in
set_option maxHeartbeats 1000000 in
theorem vcheck_any (a : Option Addr) (ds : List VolD) (ca : Nat) (next : Int) (w : World) (hv : VolsAt w a ds) (hs : SmallW ds) :
    Calls Try.prog 34 #[.slice a ds.length ca, .int .i64 next] w fun e w' => (∃ b : Bool, (b = true ↔ VolsOk ds next) ∧ e = .returned (.int .i64 (errI b))) ∧ Below w.heap.size w w' := by
  have HV : Hid (VolsAt w a ds) := hv
  have HS : Hid (SmallW ds) := hs
  have HB0 : Hid (Below w.heap.size w (w.alloc (.cells #[.slice a ds.length ca, .int .i64 next] 74))) := nwA (nwR w) _
  have HX0 : Hid ((w.alloc (.cells #[.slice a ds.length ca, .int .i64 next] 74)).heap[w.heap.size]? = some (.cells #[.slice a ds.length ca, .int .i64 next] 74 (0, 0))) := heap_alloc_new w _
  clear hv hs
  go_enter Try.func34, Try.ntmps34
  go_wp2_with fail
  refine (vmayBe_any w.heap.size a ds ca next _ HX0.out (HV.out.below HB0.out) HS.out).mono ?_
  rintro e w1 ⟨⟨b, rfl, hb⟩, hb1⟩
  have HB1 : Hid (Below w.heap.size w w1) := nwT HB0.out hb1
  have HBB : Hid (b = true ↔ VolsOk ds next) := hb
  clear hb hb1 HB0 HX0
  cases b
  · go_wp2_with fail
    go_ret
    exact ⟨⟨false, by simpa using HBB.out, rfl⟩, HB1.out⟩
  · go_wp2_with fail
    go_ret
    exact ⟨⟨true, by simpa using HBB.out, rfl⟩, HB1.out⟩

end Go.Proofs.Ytodahdnnlkcfdaa

/- The shelf opened: a copy of the volumes, and the one that is asked for. -/
namespace Go.Proofs.Ytodahdnnlkcfdaa
open Go.RowKit

set_option maxRecDepth 100000 in
set_option maxHeartbeats 1000000 in
theorem copies_nil (a : Option Addr) (ca : Nat) (w : World) :
    Calls Try.prog 52 #[.slice a 0 ca] w fun e w' => (∃ u, e = .returned u ∧ OwnVols w' w.heap.size u []) ∧ Below w.heap.size w w' := by
  have HC : Hid (Calls Try.prog 70 #[.slice a 0 ca] w fun e w' => (∃ v', e = .returned v' ∧ w'.ownsRow w.heap.size 32 5 v' 0 []) ∧ Below w.heap.size w w') := by
    cases a with
    | none => exact (clov_nil 0 ca w).mono fun e w' ⟨h1, h2⟩ => ⟨⟨_, h1, World.ownsRow_nil _ _ _ _⟩, by rw [h2]; exact nwR w⟩
    | some p => exact clov_row p 0 ca [] w rfl (by omega) (fun j u h => by simp at h) (fun u h => by simp at h)
  go_enter Try.func52, Try.ntmps52
  go_wp2_with fail
  refine HC.out.mono ?_
  rintro e w1 ⟨⟨fv, rfl, hrow⟩, hb1⟩
  have HB1 : Hid (Below w.heap.size w w1) := hb1
  have HO : Hid (OwnVols w1 w.heap.size fv []) := ⟨[], rfl, hrow, fun g hg => by simp at hg⟩
  obtain ⟨av, cv, rfl, _⟩ := HO.out.at
  clear hrow hb1 HC
  go_wp2_with fail
  go_loopw [9] (fun i wr => i = .int .i64 0 ∧ wr = w1) (fun i _ => 0)
  case atStart => exact ⟨rfl, rfl⟩
  case round =>
    obtain ⟨rfl, rfl⟩ := hrel
    go_wp2_with fail
    go_ret
    exact ⟨⟨_, rfl, HO.out⟩, HB1.out⟩
theorem copies_any (a : Option Addr) (ds : List VolD) (ca : Nat) (w : World) (hv : VolsAt w a ds) (hs : SmallW ds) (hp : ∀ d ∈ ds, 0 < d.files.length) :
    Calls Try.prog 52 #[.slice a ds.length ca] w fun e w' => (∃ u, e = .returned u ∧ OwnVols w' w.heap.size u ds) ∧ Below w.heap.size w w' := by
  by_cases h : 0 < ds.length
  · obtain ⟨b, o, rfl, _⟩ := hv.vol h
    exact copies_some b o ds ca w hv hs hp h
  · have e : ds = [] := List.length_eq_zero_iff.1 (by omega)
    subst e
    exact copies_nil a ca w

theorem cell_of_blk {w : World} {k : Nat} {v : Value} {t : TypeId} (h : w.heap[k]? = some (.cells #[v] t (0, 0))) : w.cell? ⟨k, 0, none⟩ = some v := by
  simp [World.cell?, h]
theorem ownVs_tag {w : World} {base : Nat} {v : Value} {ds : List VolD} {g : Nat} {cur : Array Value} {t : TypeId} (h : OwnVols w base v ds) (hg : w.heap[g]? = some (.cells cur t (0, 0))) (h1 : t ≠ 32) (h2 : t ≠ 84) (h3 : t ≠ 3) (h4 : t ≠ 87) (o : Nat) (u : Value) : OwnVols (w.setCell ⟨g, o, none⟩ u) base v ds := by
  obtain ⟨gs, e, ho, ha⟩ := h
  refine ⟨gs, e, rowset2 ho hg h1 u, fun x hx => ?_⟩
  obtain ⟨fs, e2, ho2, ha2⟩ := ha x hx
  exact ⟨fs, e2, rowset2 ho2 hg h2 u, fun y hy => ⟨rowset2 (ha2 y hy).1 hg h3 u, rowset2 (ha2 y hy).2 hg h4 u⟩⟩
/-- a shelf of one's own -/
structure ShelfAt (w : World) (base S g cap : Nat) (ds : List VolD) (next : Int) : Prop where
  le : base ≤ S
  hp : w.heap[S]? = some (.cells #[.slice (some ⟨g, 0, none⟩) ds.length cap, .int .i64 next] 74 (0, 0))
  own : OwnVols w base (.slice (some ⟨g, 0, none⟩) ds.length cap) ds
theorem ShelfAt.below {w w' : World} {base S g cap : Nat} {ds : List VolD} {next : Int} (h : ShelfAt w base S g cap ds next) (hb : Below w.heap.size w w') : ShelfAt w' base S g cap ds next :=
  ⟨h.le, (hb.block _ (Array.getElem?_eq_some_iff.1 h.hp).1).trans h.hp, h.own.below hb⟩
def OpenR (ds : List VolD) (next id : Int) (base : Nat) (e : Ending) (w' : World) : Prop :=
  (¬ VolsOk ds next ∧ e = .returned (.tuple #[.pointer none, .agg #[.pointer none], .int .i64 1])) ∨
  (VolsOk ds next ∧ atV ds id = none ∧ e = .returned (.tuple #[.pointer none, .agg #[.pointer none], .int .i64 3])) ∨
  ∃ k S g cap, VolsOk ds next ∧ atV ds id = some k ∧ e = .returned (.tuple #[.pointer (some ⟨S, 0, none⟩), .agg #[.pointer (some ⟨g, k * 5, none⟩)], .int .i64 0]) ∧ ShelfAt w' base S g cap ds next
theorem VolsOk.pos {ds : List VolD} {next : Int} (h : VolsOk ds next) : ∀ d ∈ ds, 0 < d.files.length := by
  intro d hd
  obtain ⟨i, hi, rfl⟩ := List.getElem_of_mem hd
  have := (h.2 i hi).1
  rw [show ds.getD i VZ = ds[i] from by simp [List.getD, hi]] at this
  exact this.2.1.1.1

set_option maxRecDepth 100000 in
set_option maxHeartbeats 2000000 in
theorem open_any (a : Option Addr) (ds : List VolD) (ca : Nat) (next id : Int) (w : World) (hv : VolsAt w a ds) (hs : SmallW ds) :
    Calls Try.prog 39 #[.slice a ds.length ca, .int .i64 next, .int .i64 id] w fun e w' => OpenR ds next id w.heap.size e w' ∧ Below w.heap.size w w' := by
  have HV : Hid (VolsAt w a ds) := hv
  have HS : Hid (SmallW ds) := hs
  have hl := hs.1
  have HB0 : Hid (Below w.heap.size w (w.alloc (.cells #[.pointer none] 67))) := nwA (nwR w) _
  have HR0 : Hid ((w.alloc (.cells #[.pointer none] 67)).heap[w.heap.size]? = some (.cells #[.pointer none] 67 (0, 0))) := heap_alloc_new w _
  clear hv hs
  go_enter Try.func39, Try.ntmps39
  go_wp2_with fail
  refine (vcheck_any a ds ca next _ (HV.out.below HB0.out) HS.out).mono ?_
  rintro e w1 ⟨⟨b, hb, rfl⟩, hb1⟩
  have HB1 : Hid (Below w.heap.size w w1) := nwT HB0.out hb1
  have HR1 : Hid (w1.heap[w.heap.size]? = some (.cells #[.pointer none] 67 (0, 0))) := (hb1.block _ (by simp)).trans HR0.out
  have HBV : Hid (b = true ↔ VolsOk ds next) := hb
  clear hb hb1 HB0 HR0
  cases b
  case false =>
    rw [errI_f]
    have HQ : Hid (OpenR ds next id w.heap.size (.returned (.tuple #[.pointer none, .agg #[.pointer none], .int .i64 1])) (w1.setCell ⟨w.heap.size, 0, none⟩ (.pointer none))) := .inl ⟨(fun h => by have := HBV.out.2 h; cases this), rfl⟩
    have r0 := cell_of_blk HR1.out
    have rf : ∀ o, w1.frozen? ⟨w.heap.size, o, none⟩ = false := fun o => Lib.frozen_of_heap HR1.out o
    go_wp2_with fail
    refine bodyPost_ret (v := .tuple #[.pointer none, .agg #[.pointer none], .int .i64 1]) (by simp [results, Try.results39, go_sem, r0]) rfl ⟨HQ.out, HB1.out.setCell (p := ⟨w.heap.size, 0, none⟩) (Nat.le_refl _) _⟩
  case true =>
  rw [errI_t]
  have HOK : Hid (VolsOk ds next) := by have := HBV.out.1 rfl; exact this
  clear HBV
  go_wp2_with fail
  refine (copies_any a ds ca w1 (HV.out.below HB1.out) HS.out HOK.out.pos).mono ?_
  rintro e w2 ⟨⟨u, rfl, hu⟩, hb2⟩
  obtain ⟨au, cu, rfl, hua, _⟩ := hu.at
  have hsz1 := HB1.out.size
  have HU : Hid (OwnVols w2 w.heap.size (.slice au ds.length cu) ds) := hu.le hsz1
  have HUA : Hid (VolsAt w2 au ds) := hua
  have HB2 : Hid (Below w.heap.size w w2) := nwT HB1.out hb2
  have HR2 : Hid (w2.heap[w.heap.size]? = some (.cells #[.pointer none] 67 (0, 0))) := (hb2.block _ (Array.getElem?_eq_some_iff.1 HR1.out).1).trans HR1.out
  have hsz2 := HB2.out.size
  have HSZ : Hid (w.heap.size ≤ w2.heap.size) := hsz2
  clear hu hua hb2 HB1 HR1 hsz1 hsz2
  have HBA : Hid (Below w2.heap.size w2 (w2.alloc (.cells #[.slice au ds.length cu, .int .i64 next] 74))) := nwA (nwR w2) _
  have HSA : Hid ((w2.alloc (.cells #[.slice au ds.length cu, .int .i64 next] 74)).heap[w2.heap.size]? = some (.cells #[.slice au ds.length cu, .int .i64 next] 74 (0, 0))) := heap_alloc_new w2 _
  go_wp2_with fail
  refine (vfind_any au ds cu id _ (HUA.out.below HBA.out) hl).mono ?_
  rintro e w3 ⟨rfl, hb3⟩
  have HB3 : Hid (Below w.heap.size w w3) := nwT HB2.out (nwT HBA.out hb3)
  have HS3 : Hid (w3.heap[w2.heap.size]? = some (.cells #[.slice au ds.length cu, .int .i64 next] 74 (0, 0))) := (hb3.block _ (by simp)).trans HSA.out
  have HU3 : Hid (OwnVols w3 w.heap.size (.slice au ds.length cu) ds) := (HU.out.below HBA.out).below hb3
  have HR3 : Hid (w3.heap[w.heap.size]? = some (.cells #[.pointer none] 67 (0, 0))) := (nwT HBA.out hb3).block _ (Array.getElem?_eq_some_iff.1 HR2.out).1 |>.trans HR2.out
  clear hb3 HBA HSA HU HUA HB2 HR2
  generalize w2.heap.size = S at HS3 HSZ ⊢
  have HBA : Hid (∀ p, Below w3.heap.size w3 (w3.alloc (.cells #[p] 67))) := fun p => nwA (nwR w3) _
  cases hat : atV ds id with
  | none =>
    have HQ : Hid (∀ w', OpenR ds next id w.heap.size (.returned (.tuple #[.pointer none, .agg #[.pointer none], .int .i64 3])) w') := fun w' => .inr (.inl ⟨HOK.out, hat, rfl⟩)
    simp only [Option.isSome, ptrV_none]
    have r0 := cell_of_blk ((((HBA.out (.pointer none)).block _ (Array.getElem?_eq_some_iff.1 HR3.out).1)).trans HR3.out)
    have rf : ∀ o, (w3.alloc (.cells #[.pointer none] 67)).frozen? ⟨w.heap.size, o, none⟩ = false := fun o => Lib.frozen_of_heap ((((HBA.out (.pointer none)).block _ (Array.getElem?_eq_some_iff.1 HR3.out).1)).trans HR3.out) o
    clear hat
    go_wp2_with fail
    refine bodyPost_ret (v := .tuple #[.pointer none, .agg #[.pointer none], .int .i64 3]) (by simp [results, Try.results39, go_sem, r0]) rfl ⟨HQ.out _, (nwA HB3.out _).setCell (p := ⟨w.heap.size, 0, none⟩) (Nat.le_refl _) _⟩
  | some k =>
    have hkl := atV_lt hat
    obtain ⟨g, hg⟩ : ∃ g, au = some ⟨g, 0, none⟩ := by
      obtain ⟨gs, e1, ho, _⟩ := HU3.out
      rcases ho.2 with ⟨hv, hn⟩ | ⟨g', cap', cur, hv, _⟩
      · have : gs.length = ds.length := by rw [← e1, List.length_map]
        omega
      · injection hv with h1 _ _; exact ⟨g', h1⟩
    subst hg
    simp only [Option.isSome, ptrV, Nat.zero_add]
    have HQ : Hid (∀ w', ShelfAt w' w.heap.size S g cu ds next → OpenR ds next id w.heap.size (.returned (.tuple #[.pointer (some ⟨S, 0, none⟩), .agg #[.pointer (some ⟨g, k * 5, none⟩)], .int .i64 0])) w') := fun w' h => .inr (.inr ⟨k, S, g, cu, HOK.out, hat, rfl, h⟩)
    have HRA : Hid ((w3.alloc (.cells #[.pointer (some ⟨g, k * 5, none⟩)] 67)).heap[w.heap.size]? = some (.cells #[.pointer none] 67 (0, 0))) := ((HBA.out (.pointer (some ⟨g, k * 5, none⟩))).block _ (Array.getElem?_eq_some_iff.1 HR3.out).1).trans HR3.out
    have HSN : Hid (S ≠ w.heap.size) := fun e => by have h := HS3.out; rw [e, HR3.out] at h; simp at h
    have r0 := cell_of_blk HRA.out
    have rf : ∀ o, (w3.alloc (.cells #[.pointer (some ⟨g, k * 5, none⟩)] 67)).frozen? ⟨w.heap.size, o, none⟩ = false := fun o => Lib.frozen_of_heap HRA.out o
    have n0 : (w3.alloc (.cells #[.pointer (some ⟨g, k * 5, none⟩)] 67)).cell? ⟨w3.heap.size, 0, none⟩ = some (.pointer (some ⟨g, k * 5, none⟩)) := cell_of_blk (heap_alloc_new w3 _)
    have HBF : Hid (Below w.heap.size w (w3.alloc (.cells #[.pointer (some ⟨g, k * 5, none⟩)] 67))) := nwA HB3.out _
    have HUF : Hid (OwnVols (w3.alloc (.cells #[.pointer (some ⟨g, k * 5, none⟩)] 67)) w.heap.size (.slice (some ⟨g, 0, none⟩) ds.length cu) ds) := HU3.out.below (HBA.out _)
    have HSF : Hid ((w3.alloc (.cells #[.pointer (some ⟨g, k * 5, none⟩)] 67)).heap[S]? = some (.cells #[.slice (some ⟨g, 0, none⟩) ds.length cu, .int .i64 next] 74 (0, 0))) := ((HBA.out _).block _ (Array.getElem?_eq_some_iff.1 HS3.out).1).trans HS3.out
    clear hat
    go_wp2_with fail
    generalize w3.alloc (.cells #[.pointer (some ⟨g, k * 5, none⟩)] 67) = W4 at r0 rf n0 HBF HUF HSF HRA ⊢
    go_region
    all_goals
      go_wp2_with fail
      refine bodyPost_ret (v := .tuple #[.pointer (some ⟨S, 0, none⟩), .agg #[.pointer (some ⟨g, k * 5, none⟩)], .int .i64 0]) (by simp [results, Try.results39, go_sem, r0]) rfl ⟨HQ.out _ ⟨HSZ.out, ?_, ?_⟩, ?_⟩
      · refine (Below.heap_setCell _ _ _ _ (by show S ≠ w.heap.size; exact HSN.out)).trans ?_
        exact HSF.out
      · exact ownVs_tag (cur := #[.pointer none]) (t := 67) HUF.out HRA.out (by decide) (by decide) (by decide) (by decide) 0 _
      · first | exact HBF.out.setCell (p := ⟨w.heap.size, 0, none⟩) (Nat.le_refl _) _ | exact Below.drew (HBF.out.setCell (p := ⟨w.heap.size, 0, none⟩) (Nat.le_refl _) _)

end Go.Proofs.Ytodahdnnlkcfdaa

/- What is laid on a shelf: a snapshot, a clone. -/
namespace Go.Proofs.Ytodahdnnlkcfdaa
open Go.RowKit

/-- the state while a volume is made of one that is there -/
structure SnS (w : World) (box : Obj) (wr : World) : Prop where
  bel : Below w.heap.size w wr
  bx : wr.heap[w.heap.size]? = some box
theorem SnS.below {w : World} {box : Obj} {wr w' : World} (h : SnS w box wr) (hb : Below wr.heap.size wr w') : SnS w box w' :=
  ⟨nwT h.bel hb, (hb.block _ (Array.getElem?_eq_some_iff.1 h.bx).1).trans h.bx⟩
theorem SnS.drew {w : World} {box : Obj} {wr : World} (h : SnS w box wr) : SnS w box wr.drew := h.below (Below.drew (nwR wr))
theorem SnS.set {w : World} {box : Obj} {wr : World} (h : SnS w box wr) (o : Nat) (v : Value) : SnS w box (wr.setCell ⟨w.heap.size + 1, o, none⟩ v) :=
  ⟨h.bel.setCell (p := ⟨w.heap.size + 1, o, none⟩) (by show w.heap.size ≤ w.heap.size + 1; omega) _, (Below.heap_setCell _ _ _ _ (by show w.heap.size ≠ w.heap.size + 1; omega)).trans h.bx⟩

set_option maxRecDepth 100000 in
set_option maxHeartbeats 4000000 in
theorem snapshot_any (g o : Nat) (d : VolD) (w : World) (hv : VolIn w g o d) (hs : SmallV d) (hp : 0 < d.files.length) :
    Calls Try.prog 42 #[.agg #[.pointer (some ⟨g, o, none⟩)]] w fun e w' => (∃ u, e = .returned u ∧ OwnVol w' w.heap.size u ⟨0, d.id, true, d.files, d.next⟩) ∧ Below w.heap.size w w' := by
  obtain ⟨af, cf, ⟨c0, c1, c2, c3, c4⟩, hval⟩ := hv.val
  have hgl := block_lt_of_cell c0
  simp only at hgl
  obtain ⟨W0, hW0⟩ : ∃ W0, W0 = (w.alloc (.cells #[.pointer (some ⟨g, o, none⟩)] 67)).alloc (.cells #[.int .i64 0, .int .i64 0, .bool false, .slice none 0 0, .int .i64 0] 32) := ⟨_, rfl⟩
  have HB0 : Hid (Below w.heap.size w W0) := by rw [hW0]; exact nwA (nwA (nwR w) _) _
  have HX0 : Hid (W0.heap[w.heap.size]? = some (.cells #[.pointer (some ⟨g, o, none⟩)] 67 (0, 0))) := by rw [hW0]; exact (Lib.alloc_old _ _ _ (by simp)).trans (heap_alloc_new w _)
  have HR0 : Hid (W0.heap[w.heap.size + 1]? = some (.cells #[.int .i64 0, .int .i64 0, .bool false, .slice none 0 0, .int .i64 0] 32 (0, 0))) := by rw [hW0]; exact heap_alloc_new2 w _ _
  have HSZ : Hid (W0.heap.size = w.heap.size + 2) := by rw [hW0]; show _ = _; simp
  have HVL : Hid (VolVal W0 (.agg #[.int .i64 d.id, .int .i64 d.fr, .bool d.snap, .slice af d.files.length cf, .int .i64 d.next]) d) := hval.below HB0.out
  have HSM : Hid (SmallV d) := hs
  have HPF : Hid (0 < d.files.length) := hp
  clear hv hs hp hval
  go_enter Try.func42, Try.ntmps42
  go_wp2_with fail
  rw [← hW0]
  clear hW0
  have hS : SnS w (.cells #[.pointer (some ⟨g, o, none⟩)] 67 (0, 0)) W0 := ⟨HB0.out, HX0.out⟩
  have zx : ∀ w', SnS w (.cells #[.pointer (some ⟨g, o, none⟩)] 67 (0, 0)) w' → w'.cell? ⟨w.heap.size, 0, none⟩ = some (.pointer (some ⟨g, o, none⟩)) := fun w' h => cell_of_blk h.bx
  have z0 : ∀ w', SnS w (.cells #[.pointer (some ⟨g, o, none⟩)] 67 (0, 0)) w' → w'.cell? ⟨g, o, none⟩ = some (.int .i64 d.id) := fun w' h => (h.bel.cell (p := ⟨g, o, none⟩) hgl).trans c0
  have z1 : ∀ w', SnS w (.cells #[.pointer (some ⟨g, o, none⟩)] 67 (0, 0)) w' → w'.cell? ⟨g, o + 1, none⟩ = some (.int .i64 d.fr) := fun w' h => (h.bel.cell (p := ⟨g, o + 1, none⟩) hgl).trans c1
  have z2 : ∀ w', SnS w (.cells #[.pointer (some ⟨g, o, none⟩)] 67 (0, 0)) w' → w'.cell? ⟨g, o + 2, none⟩ = some (.bool d.snap) := fun w' h => (h.bel.cell (p := ⟨g, o + 2, none⟩) hgl).trans c2
  have z3 : ∀ w', SnS w (.cells #[.pointer (some ⟨g, o, none⟩)] 67 (0, 0)) w' → w'.cell? ⟨g, o + 3, none⟩ = some (.slice af d.files.length cf) := fun w' h => (h.bel.cell (p := ⟨g, o + 3, none⟩) hgl).trans c3
  have z4 : ∀ w', SnS w (.cells #[.pointer (some ⟨g, o, none⟩)] 67 (0, 0)) w' → w'.cell? ⟨g, o + 4, none⟩ = some (.int .i64 d.next) := fun w' h => (h.bel.cell (p := ⟨g, o + 4, none⟩) hgl).trans c4
  clear c0 c1 c2 c3 c4
  go_region_held3 (fun w' => SnS w (.cells #[.pointer (some ⟨g, o, none⟩)] 67 (0, 0)) w') (first | assumption | exact SnS.drew (by assumption) | exact SnS.below (SnS.drew hS) (by assumption) | exact SnS.set (by assumption) _ _ | exact SnS.set (SnS.set (by assumption) _ _) _ _ | exact SnS.set (SnS.set (SnS.set (SnS.set (SnS.set (by assumption) _ _) _ _) _ _) _ _) _ _) (first
    | (go_at_call 59; refine (filesOf_any _ d _ (HVL.out.below (Below.drew (nwR W0))) HSM.out HPF.out).mono ?_; rintro e wU ⟨⟨nv, rfl, hob⟩, hbU⟩; obtain ⟨r0, r1, r2, r3, r4, rf⟩ := five ((hbU.block _ (Array.getElem?_eq_some_iff.1 HR0.out).1).trans HR0.out); obtain ⟨afv, cfv, rfl, _⟩ := hob.at; have HUB : Hid (Below W0.heap.size W0 wU) := (nwT (Below.drew (nwR W0)) hbU)))
  have HOB : Hid (OwnFiles wU (w.heap.size + 2) (.slice afv d.files.length cfv) d.files) := by rw [← HSZ.out]; exact hob
  have HRU : Hid (wU.heap[w.heap.size + 1]? = some (.cells #[.int .i64 0, .int .i64 0, .bool false, .slice none 0 0, .int .i64 0] 32 (0, 0))) := (HUB.out.block _ (Array.getElem?_eq_some_iff.1 HR0.out).1).trans HR0.out
  have HBB : Hid (Below w.heap.size w wU) := nwT HB0.out HUB.out
  go_wp2_with fail
  obtain ⟨s0, s1, s2, s3, s4, _⟩ := five (five_set (d0 := .int .i64 (0)) (d1 := .int .i64 (d.id)) (d2 := .bool true) (d3 := .slice afv d.files.length cfv) (d4 := .int .i64 d.next) HRU.out)
  refine bodyPost_ret (v := .agg #[.int .i64 (0), .int .i64 (d.id), .bool true, .slice afv d.files.length cfv, .int .i64 d.next]) (by simp [results, Try.results42, go_sem, s0, s1, s2, s3, s4]) rfl ⟨⟨_, rfl, _, rfl, ?_⟩, ?_⟩
  · exact (((((HOB.out.set 0 (by omega) _).set 1 (by omega) _).set 2 (by omega) _).set 3 (by omega) _).set 4 (by omega) _).le (Nat.le_add_right _ _)
  · exact five_below HBB.out (Nat.le_succ _)

set_option maxRecDepth 100000 in
set_option maxHeartbeats 4000000 in
theorem vclone_any (g o : Nat) (d : VolD) (w : World) (hv : VolIn w g o d) (hs : SmallV d) (hp : 0 < d.files.length) :
    Calls Try.prog 48 #[.agg #[.pointer (some ⟨g, o, none⟩)]] w fun e w' => (∃ u, e = .returned u ∧ OwnVol w' w.heap.size u ⟨0, 0, false, d.files, d.next⟩) ∧ Below w.heap.size w w' := by
  obtain ⟨af, cf, ⟨c0, c1, c2, c3, c4⟩, hval⟩ := hv.val
  have hgl := block_lt_of_cell c0
  simp only at hgl
  obtain ⟨W0, hW0⟩ : ∃ W0, W0 = (w.alloc (.cells #[.pointer (some ⟨g, o, none⟩)] 67)).alloc (.cells #[.int .i64 0, .int .i64 0, .bool false, .slice none 0 0, .int .i64 0] 32) := ⟨_, rfl⟩
  have HB0 : Hid (Below w.heap.size w W0) := by rw [hW0]; exact nwA (nwA (nwR w) _) _
  have HX0 : Hid (W0.heap[w.heap.size]? = some (.cells #[.pointer (some ⟨g, o, none⟩)] 67 (0, 0))) := by rw [hW0]; exact (Lib.alloc_old _ _ _ (by simp)).trans (heap_alloc_new w _)
  have HR0 : Hid (W0.heap[w.heap.size + 1]? = some (.cells #[.int .i64 0, .int .i64 0, .bool false, .slice none 0 0, .int .i64 0] 32 (0, 0))) := by rw [hW0]; exact heap_alloc_new2 w _ _
  have HSZ : Hid (W0.heap.size = w.heap.size + 2) := by rw [hW0]; show _ = _; simp
  have HVL : Hid (VolVal W0 (.agg #[.int .i64 d.id, .int .i64 d.fr, .bool d.snap, .slice af d.files.length cf, .int .i64 d.next]) d) := hval.below HB0.out
  have HSM : Hid (SmallV d) := hs
  have HPF : Hid (0 < d.files.length) := hp
  clear hv hs hp hval
  go_enter Try.func48, Try.ntmps48
  go_wp2_with fail
  rw [← hW0]
  clear hW0
  have hS : SnS w (.cells #[.pointer (some ⟨g, o, none⟩)] 67 (0, 0)) W0 := ⟨HB0.out, HX0.out⟩
  have zx : ∀ w', SnS w (.cells #[.pointer (some ⟨g, o, none⟩)] 67 (0, 0)) w' → w'.cell? ⟨w.heap.size, 0, none⟩ = some (.pointer (some ⟨g, o, none⟩)) := fun w' h => cell_of_blk h.bx
  have z0 : ∀ w', SnS w (.cells #[.pointer (some ⟨g, o, none⟩)] 67 (0, 0)) w' → w'.cell? ⟨g, o, none⟩ = some (.int .i64 d.id) := fun w' h => (h.bel.cell (p := ⟨g, o, none⟩) hgl).trans c0
  have z1 : ∀ w', SnS w (.cells #[.pointer (some ⟨g, o, none⟩)] 67 (0, 0)) w' → w'.cell? ⟨g, o + 1, none⟩ = some (.int .i64 d.fr) := fun w' h => (h.bel.cell (p := ⟨g, o + 1, none⟩) hgl).trans c1
  have z2 : ∀ w', SnS w (.cells #[.pointer (some ⟨g, o, none⟩)] 67 (0, 0)) w' → w'.cell? ⟨g, o + 2, none⟩ = some (.bool d.snap) := fun w' h => (h.bel.cell (p := ⟨g, o + 2, none⟩) hgl).trans c2
  have z3 : ∀ w', SnS w (.cells #[.pointer (some ⟨g, o, none⟩)] 67 (0, 0)) w' → w'.cell? ⟨g, o + 3, none⟩ = some (.slice af d.files.length cf) := fun w' h => (h.bel.cell (p := ⟨g, o + 3, none⟩) hgl).trans c3
  have z4 : ∀ w', SnS w (.cells #[.pointer (some ⟨g, o, none⟩)] 67 (0, 0)) w' → w'.cell? ⟨g, o + 4, none⟩ = some (.int .i64 d.next) := fun w' h => (h.bel.cell (p := ⟨g, o + 4, none⟩) hgl).trans c4
  clear c0 c1 c2 c3 c4
  go_region_held3 (fun w' => SnS w (.cells #[.pointer (some ⟨g, o, none⟩)] 67 (0, 0)) w') (first | assumption | exact SnS.drew (by assumption) | exact SnS.below (SnS.drew hS) (by assumption) | exact SnS.set (by assumption) _ _ | exact SnS.set (SnS.set (by assumption) _ _) _ _ | exact SnS.set (SnS.set (SnS.set (SnS.set (SnS.set (by assumption) _ _) _ _) _ _) _ _) _ _) (first
    | (go_at_call 59; refine (filesOf_any _ d _ (HVL.out.below (Below.drew (nwR W0))) HSM.out HPF.out).mono ?_; rintro e wU ⟨⟨nv, rfl, hob⟩, hbU⟩; obtain ⟨r0, r1, r2, r3, r4, rf⟩ := five ((hbU.block _ (Array.getElem?_eq_some_iff.1 HR0.out).1).trans HR0.out); obtain ⟨afv, cfv, rfl, _⟩ := hob.at; have HUB : Hid (Below W0.heap.size W0 wU) := (nwT (Below.drew (nwR W0)) hbU)))
  have HOB : Hid (OwnFiles wU (w.heap.size + 2) (.slice afv d.files.length cfv) d.files) := by rw [← HSZ.out]; exact hob
  have HRU : Hid (wU.heap[w.heap.size + 1]? = some (.cells #[.int .i64 0, .int .i64 0, .bool false, .slice none 0 0, .int .i64 0] 32 (0, 0))) := (HUB.out.block _ (Array.getElem?_eq_some_iff.1 HR0.out).1).trans HR0.out
  have HBB : Hid (Below w.heap.size w wU) := nwT HB0.out HUB.out
  go_wp2_with fail
  obtain ⟨s0, s1, s2, s3, s4, _⟩ := five (five_set (d0 := .int .i64 (0)) (d1 := .int .i64 (0)) (d2 := .bool false) (d3 := .slice afv d.files.length cfv) (d4 := .int .i64 d.next) HRU.out)
  refine bodyPost_ret (v := .agg #[.int .i64 (0), .int .i64 (0), .bool false, .slice afv d.files.length cfv, .int .i64 d.next]) (by simp [results, Try.results48, go_sem, s0, s1, s2, s3, s4]) rfl ⟨⟨_, rfl, _, rfl, ?_⟩, ?_⟩
  · exact (((((HOB.out.set 0 (by omega) _).set 1 (by omega) _).set 2 (by omega) _).set 3 (by omega) _).set 4 (by omega) _).le (Nat.le_add_right _ _)
  · exact five_below HBB.out (Nat.le_succ _)

set_option maxRecDepth 100000 in
set_option maxHeartbeats 1000000 in
theorem isFull_any (base S g cap : Nat) (ds : List VolD) (next : Int) (w : World) (h : ShelfAt w base S g cap ds next) :
    Calls Try.prog 40 #[.pointer (some ⟨S, 0, none⟩)] w fun e w' => e = .returned (.bool (decide (4 ≤ ds.length) || decide (1073741824 ≤ next))) ∧ w' = w := by
  obtain ⟨s0, s1, _⟩ := two_cells h.hp
  clear h
  by_cases h4 : 4 ≤ ds.length
  · have h4i : (4 : Int) ≤ (ds.length : Int) := by omega
    have HD : Hid (decide (4 ≤ ds.length) = true) := decide_eq_true h4
    clear h4
    go_enter Try.func40, Try.ntmps40
    go_wp2_with fail
    go_ret
    exact ⟨by rw [HD.out]; rfl, rfl⟩
  · have h4i : ¬ (4 : Int) ≤ (ds.length : Int) := by omega
    have HD : Hid (decide (4 ≤ ds.length) = false) := decide_eq_false h4
    clear h4
    go_enter Try.func40, Try.ntmps40
    go_wp2_with fail
    go_ret
    exact ⟨by rw [HD.out]; rfl, rfl⟩

end Go.Proofs.Ytodahdnnlkcfdaa

/- A volume laid on a shelf. -/
namespace Go.Proofs.Ytodahdnnlkcfdaa
open Go.RowKit

set_option maxRecDepth 100000 in
set_option maxHeartbeats 4000000 in
theorem vadd_any (base S g cap : Nat) (ds : List VolD) (next : Int) (x : VolD) (u : Value) (w : World) (h : ShelfAt w base S g cap ds next) (hu : OwnVol w base u x) (hl : ds.length ≤ 1000) (hn0 : -10 ≤ next) (hn : next ≤ 2147483648) :
    Calls Try.prog 41 #[.pointer (some ⟨S, 0, none⟩), u] w fun e w' => e = .returned (.tuple #[]) ∧ (∃ g' cap', ShelfAt w' base S g' cap' (ds ++ [⟨next, x.fr, x.snap, x.files, x.next⟩]) (next + 1)) ∧ Below base w w' := by
  obtain ⟨fv, rfl, hfv⟩ := hu
  obtain ⟨fa, fc, rfl, _, _⟩ := id hfv.at
  obtain ⟨i0, hi, hz0, hz1, hz2⟩ := info_parts Try.info32
  have hSl := (Array.getElem?_eq_some_iff.1 h.hp).1
  have hbS := h.le
  obtain ⟨s0, s1, _⟩ := two_cells h.hp
  obtain ⟨W0, hW0⟩ : ∃ W0, W0 = w.alloc (.cells #[.int .i64 next, .int .i64 x.fr, .bool x.snap, .slice fa x.files.length fc, .int .i64 x.next] 32) := ⟨_, rfl⟩
  have hb0 : Below w.heap.size w W0 := by rw [hW0]; exact nwA (nwR w) _
  have HX0 : Hid (W0.heap[w.heap.size]? = some (.cells #[.int .i64 next, .int .i64 x.fr, .bool x.snap, .slice fa x.files.length fc, .int .i64 x.next] 32 (0, 0))) := by rw [hW0]; exact heap_alloc_new w _
  have HSH : Hid (ShelfAt W0 base S g cap ds next) := h.below hb0
  have HFV : Hid (OwnFiles W0 base (.slice fa x.files.length fc) x.files) := hfv.below hb0
  have HBB : Hid (Below base w W0) := hb0.mono (by omega)
  have HSN : Hid (S ≠ w.heap.size ∧ base ≤ W0.heap.size ∧ w.heap.size < W0.heap.size) := by rw [hW0]; refine ⟨by omega, ?_, ?_⟩ <;> simp <;> omega
  clear h hfv hb0
  go_enter Try.func41, Try.ntmps41
  go_upto_region 2 with fail
  rw [← hW0]
  clear hW0 s0 s1
  obtain ⟨s0, s1, sf⟩ := two_cells HSH.out.hp
  obtain ⟨x0, x1, x2, x3, x4, _⟩ := five HX0.out
  obtain ⟨gs, hgs, hown, hall⟩ := HSH.out.own
  have hgl : gs.length = ds.length := by rw [← hgs, List.length_map]
  rw [hgl] at hown
  have HGS : Hid (gs.map VV.d = ds ∧ gs.length = ds.length) := ⟨hgs, hgl⟩
  have HALL : Hid (∀ y ∈ gs, OwnFiles W0 base y.fv y.d.files) := hall
  have HROW : Hid (W0.ownsRow base 32 5 (.slice (some ⟨g, 0, none⟩) ds.length cap) ds.length (vflat gs)) := hown
  have hB1 : ds.length + 1 ≤ maxLen := by unfold maxLen; omega
  have hB2 : (ds.length + 1) * 56 ≤ 140737488355328 := by omega
  have hbw : base ≤ W0.heap.size := HSN.out.2.1
  have HSG : Hid (some S ≠ some g) := by
    show _ ≠ _
    intro e
    injection e with e
    obtain ⟨cs, hh⟩ := own_tag hown g rfl
    have h2 := HSH.out.hp
    rw [e, hh] at h2
    simp at h2
  have hSl0 : S < W0.heap.size := (Array.getElem?_eq_some_iff.1 HSH.out.hp).1
  have e1 : IntKind.i64.wrap (next + 1) = next + 1 := wrap_any (by omega) (by omega)
  clear hgs hown hall hgl
  go_region_law (first
    | (refine step_append_src (by rfl) (.tmp 13) (.tmp 15) 72 (by rfl) base 32 i0 (.agg #[.int .i64 0, .int .i64 0, .bool false, .slice none 0 0, .int .i64 0]) 5 56 Try.underlying72 hi hz0 hz1 hz2 rfl (by decide) (.slice (some ⟨g, 0, none⟩) ds.length cap) ds.length (vflat gs) (by simp [Act.eval]) (by exact World.ownsRow.alloc HROW.out _) (some ⟨W0.heap.size, 0, none⟩) 1 1 [.int .i64 next, .int .i64 x.fr, .bool x.snap, .slice fa x.files.length fc, .int .i64 x.next] (by simp [Act.eval]) rfl (by intro h; cases h) (fun p e j u hj => by injection e with e; subst e; exact cells5 W0 _ _ _ _ _ _ j u hj) (by simp [Value.oneCell']) hB1 hB2 (by simp; omega) ?_; intro nv w5 hown1 hgrow1; have hGR : W0.grownBy w5 (some g) := (gbOf (nwA (nwR W0) (.cells #[.int .i64 next, .int .i64 x.fr, .bool x.snap, .slice fa x.files.length fc, .int .i64 x.next] 32)) (some g)).trans ((gbOf (Below.drew (nwR _)) (some g)).trans hgrow1); have hS5 : w5.heap[S]? = some (.cells #[.slice (some ⟨g, 0, none⟩) ds.length cap, .int .i64 next] 74 (0, 0)) := (hGR.block S hSl0 HSG.out).trans HSH.out.hp; obtain ⟨y0, y1, yf⟩ := two_cells hS5; obtain ⟨g1, cap1, rfl, hg1, _⟩ := slice_cells hown1 (Nat.succ_pos _))
    | fail)
  all_goals
    have HOV : Hid (OwnVols w5 base (.slice (some ⟨g1, 0, none⟩) (ds.length + 1) cap1) (ds ++ [⟨next, x.fr, x.snap, x.files, x.next⟩])) := by
      have h2 := OwnVols.snoc (w := w5) (base := base) (v := .slice (some ⟨g1, 0, none⟩) (ds.length + 1) cap1) (gs := gs) (g := ⟨⟨next, x.fr, x.snap, x.files, x.next⟩, .slice fa x.files.length fc⟩) (fun y hy => (HALL.out y hy).grown HROW.out hGR) (HFV.out.grown HROW.out hGR) (by rw [HGS.out.2]; exact hown1)
      rw [HGS.out.1] at h2; exact h2
    have hB6 : (w5.setCell ⟨S, 0, none⟩ (.slice (some ⟨g1, 0, none⟩) (ds.length + 1) cap1)).heap[S]? = some (.cells #[.slice (some ⟨g1, 0, none⟩) (ds.length + 1) cap1, .int .i64 next] 74 (0, 0)) := by
      rw [heap_setCell_same w5 S 0 _ 74 _ hS5]; simp
    have HB7 : Hid (((w5.setCell ⟨S, 0, none⟩ (.slice (some ⟨g1, 0, none⟩) (ds.length + 1) cap1)).setCell ⟨S, 1, none⟩ (.int .i64 (next + 1))).heap[S]? = some (.cells #[.slice (some ⟨g1, 0, none⟩) (ds.length + 1) cap1, .int .i64 (next + 1)] 74 (0, 0))) := by
      show _ = _
      rw [heap_setCell_same _ S 1 _ 74 _ hB6]; simp
    have HO7 : Hid (OwnVols ((w5.setCell ⟨S, 0, none⟩ (.slice (some ⟨g1, 0, none⟩) (ds.length + 1) cap1)).setCell ⟨S, 1, none⟩ (.int .i64 (next + 1))) base (.slice (some ⟨g1, 0, none⟩) (ds.length + 1) cap1) (ds ++ [⟨next, x.fr, x.snap, x.files, x.next⟩])) :=
      ownVs_tag (ownVs_tag HOV.out hS5 (by decide) (by decide) (by decide) (by decide) 0 _) hB6 (by decide) (by decide) (by decide) (by decide) 1 _
    have HBL : Hid (Below base w ((w5.setCell ⟨S, 0, none⟩ (.slice (some ⟨g1, 0, none⟩) (ds.length + 1) cap1)).setCell ⟨S, 1, none⟩ (.int .i64 (next + 1)))) := ((HBB.out.grown hGR hbw (fun k hk => by injection hk with hk; subst hk; exact (World.ownsRow.lt HROW.out g rfl).1)).setCell (p := ⟨S, 0, none⟩) hbS _).setCell (p := ⟨S, 1, none⟩) hbS _
    obtain ⟨t0, t1, tf⟩ := two_cells hB6
    clear hown1 hgrow1 y0 y1 yf hGR hS5 s0 s1 sf x0 x1 x2 x3 x4
    go_wp2_with fail
    go_end0
    exact ⟨rfl, ⟨g1, cap1, hbS, by rw [List.length_append]; exact HB7.out, by rw [List.length_append]; exact HO7.out⟩, HBL.out⟩

end Go.Proofs.Ytodahdnnlkcfdaa

/- A snapshot and a clone, by the program. -/
namespace Go.Proofs.Ytodahdnnlkcfdaa
open Go.RowKit

/-- what a snapshot, or a clone, gives: the error, and the volumes -/
def snpF (ds : List VolD) (next id : Int) (cl : Bool) : Int × List VolD :=
  match atV ds id with
  | none => (3, [])
  | some k => if (ds.getD k VZ).snap ≠ cl then (9, []) else if 4 ≤ ds.length ∨ 1073741824 ≤ next then (2, []) else (0, ds ++ [⟨next, if cl then 0 else id, !cl, (ds.getD k VZ).files, (ds.getD k VZ).next⟩])
def ProgR (ok : Prop) (r : Int × List VolD) (er : Int) (dd : List VolD) : Prop := (ok ∧ (er, dd) = r) ∨ (¬ ok ∧ er = 1 ∧ dd = [])
def SnapPost (ds : List VolD) (next id : Int) (cl : Bool) (base : Nat) (e : Ending) (w' : World) : Prop :=
  ∃ u n er dd, e = .returned (.tuple #[u, .int .i64 n, .int .i64 er]) ∧ OwnVols w' base u dd ∧ ProgR (VolsOk ds next) (snpF ds next id cl) er dd ∧ n = (if er = 0 then next + 1 else 0)
theorem ownVs_nil (w : World) (base : Nat) : OwnVols w base (.slice none 0 0) [] := ⟨[], rfl, World.ownsRow_nil _ _ _ _, fun g hg => by simp at hg⟩
theorem atV_id {ds : List VolD} {id : Int} {k : Nat} (h : atV ds id = some k) : (ds.getD k VZ).id = id := by
  have hk := atV_lt h
  unfold atV at h
  rw [List.findIdx?_eq_some_iff_getElem] at h
  obtain ⟨_, h2, _⟩ := h
  simp [List.getD, hk]
  simpa using h2

set_option maxRecDepth 100000 in
set_option maxHeartbeats 4000000 in
theorem snapp_any (a : Option Addr) (ds : List VolD) (ca : Nat) (next id : Int) (w : World) (hv : VolsAt w a ds) (hs : SmallW ds) :
    Calls Try.prog 14 #[.slice a ds.length ca, .int .i64 next, .int .i64 id] w fun e w' => SnapPost ds next id false w.heap.size e w' ∧ Below w.heap.size w w' := by
  have HS : Hid (SmallW ds) := hs
  have HV : Hid (VolsAt w a ds) := hv
  clear hs hv
  go_enter Try.func14, Try.ntmps14
  go_wp2_with fail
  refine (open_any a ds ca next id w HV.out HS.out).mono ?_
  rintro e w1 ⟨ho, hb1⟩
  have HB1 : Hid (Below w.heap.size w w1) := hb1
  rcases ho with ⟨hno, rfl⟩ | ⟨hok, hat, rfl⟩ | ⟨k, S, g, cap, hok, hat, rfl, hsh⟩
  · have HQ : Hid (SnapPost ds next id false w.heap.size (.returned (.tuple #[.slice none 0 0, .int .i64 0, .int .i64 1])) (w1.alloc (.cells #[.pointer none] 67))) := ⟨_, 0, 1, [], rfl, ownVs_nil _ _, .inr ⟨hno, rfl, rfl⟩, rfl⟩
    clear hno
    go_wp2_with fail
    go_ret3
    exact ⟨HQ.out, nwA HB1.out _⟩
  · have HQ : Hid (SnapPost ds next id false w.heap.size (.returned (.tuple #[.slice none 0 0, .int .i64 0, .int .i64 3])) (w1.alloc (.cells #[.pointer none] 67))) := ⟨_, 0, 3, [], rfl, ownVs_nil _ _, .inl ⟨hok, by unfold snpF; rw [hat]⟩, rfl⟩
    clear hok hat
    go_wp2_with fail
    go_ret3
    exact ⟨HQ.out, nwA HB1.out _⟩
  · have hkl := atV_lt hat
    have HUF : Hid (snpF ds next id false = if (ds.getD k VZ).snap ≠ false then (9, []) else if 4 ≤ ds.length ∨ 1073741824 ≤ next then (2, []) else (0, ds ++ [⟨next, id, true, (ds.getD k VZ).files, (ds.getD k VZ).next⟩])) := by show _ = _; unfold snpF; simp only [hat]; first | rfl | simp
    have HID : Hid ((ds.getD k VZ).id = id) := atV_id hat
    have HOK : Hid (VolsOk ds next) := hok
    have HSM : Hid (SmallV (ds.getD k VZ)) := HS.out.2 _ (by simp [List.getD, hkl])
    have HPF : Hid (0 < (ds.getD k VZ).files.length) := hok.pos _ (by simp [List.getD, hkl])
    have HSH : Hid (ShelfAt w1 w.heap.size S g cap ds next) := hsh
    have hn := hok.1
    obtain ⟨_, _, e, hvi⟩ := (show VolsAt w1 (some ⟨g, 0, none⟩) ds from by obtain ⟨a', c', e, h, _⟩ := hsh.own.at; injection e with e1 _ _; rw [e1]; exact h).vol hkl
    injection e with e
    injection e with e1 e2
    subst e1; subst e2
    rw [Nat.zero_add] at hvi
    have HVI : Hid (VolIn w1 g (k * 5) (ds.getD k VZ)) := hvi
    clear hok hat hsh hvi hkl
    generalize ds.getD k VZ = d at HUF HID HSM HPF HVI
    have HBA : Hid (Below w1.heap.size w1 (w1.alloc (.cells #[.pointer (some ⟨g, k * 5, none⟩)] 67))) := nwA (nwR w1) _
    have HXA : Hid ((w1.alloc (.cells #[.pointer (some ⟨g, k * 5, none⟩)] 67)).heap[w1.heap.size]? = some (.cells #[.pointer (some ⟨g, k * 5, none⟩)] 67 (0, 0))) := heap_alloc_new w1 _
    have HB2 : Hid (Below w.heap.size w (w1.alloc (.cells #[.pointer (some ⟨g, k * 5, none⟩)] 67))) := nwA HB1.out _
    obtain ⟨_, _, ⟨_, _, c2, _, _⟩, _⟩ := HVI.out.below HBA.out
    cases hsn : d.snap
    case true =>
      have HQ : Hid (SnapPost ds next id false w.heap.size (.returned (.tuple #[.slice none 0 0, .int .i64 0, .int .i64 9])) (w1.alloc (.cells #[.pointer (some ⟨g, k * 5, none⟩)] 67))) := ⟨_, 0, 9, [], rfl, ownVs_nil _ _, .inl ⟨HOK.out, by rw [HUF.out, if_pos (by rw [hsn]; decide)]⟩, rfl⟩
      rw [hsn] at c2
      clear hsn
      go_wp2_with fail
      go_ret3
      exact ⟨HQ.out, HB2.out⟩
    case false =>
    have HUF2 : Hid (snpF ds next id false = if 4 ≤ ds.length ∨ 1073741824 ≤ next then (2, []) else (0, ds ++ [⟨next, id, true, d.files, d.next⟩])) := by show _ = _; rw [HUF.out, if_neg (by rw [hsn]; decide)]
    rw [hsn] at c2
    clear hsn HUF
    have HSHA : Hid (ShelfAt (w1.alloc (.cells #[.pointer (some ⟨g, k * 5, none⟩)] 67)) w.heap.size S g cap ds next) := HSH.out.below HBA.out
    have HVIA : Hid (VolIn (w1.alloc (.cells #[.pointer (some ⟨g, k * 5, none⟩)] 67)) g (k * 5) d) := HVI.out.below HBA.out
    have HFU : Hid (Calls Try.prog 40 #[.pointer (some ⟨S, 0, none⟩)] (w1.alloc (.cells #[.pointer (some ⟨g, k * 5, none⟩)] 67)) fun e w' => e = .returned (.bool (decide (4 ≤ ds.length) || decide (1073741824 ≤ next))) ∧ (w1.alloc (.cells #[.pointer (some ⟨g, k * 5, none⟩)] 67)) = w') := (isFull_any _ S g cap ds next _ HSHA.out).mono fun _ _ h => ⟨h.1, h.2.symm⟩
    go_wp2_with fail
    generalize w1.alloc (.cells #[.pointer (some ⟨g, k * 5, none⟩)] 67) = W2 at HXA HB2 HSHA HVIA HFU c2 ⊢
    generalize w1.heap.size = P at HXA ⊢
    refine HFU.out.mono ?_
    rintro e w' ⟨rfl, rfl⟩
    clear HFU
    by_cases hfull : 4 ≤ ds.length ∨ 1073741824 ≤ next
    case pos =>
      have hd : (decide (4 ≤ ds.length) || decide (1073741824 ≤ next)) = true := by simpa using hfull
      have HQ : Hid (SnapPost ds next id false w.heap.size (.returned (.tuple #[.slice none 0 0, .int .i64 0, .int .i64 2])) W2) := ⟨_, 0, 2, [], rfl, ownVs_nil _ _, .inl ⟨HOK.out, by rw [HUF2.out, if_pos hfull]⟩, rfl⟩
      rw [hd]
      clear hd hfull
      go_wp2_with fail
      go_ret3
      exact ⟨HQ.out, HB2.out⟩
    case neg =>
    have hd : (decide (4 ≤ ds.length) || decide (1073741824 ≤ next)) = false := by simp; omega
    have HUF3 : Hid (snpF ds next id false = (0, ds ++ [⟨next, id, true, d.files, d.next⟩])) := by show _ = _; rw [HUF2.out, if_neg hfull]
    rw [hd]
    have hp0 := cell_of_blk HXA.out
    clear hd hfull HUF2 HSH HVI HXA
    go_wp2_with fail
    refine (snapshot_any g (k * 5) d W2 HVIA.out HSM.out HPF.out).mono ?_
    rintro e w3 ⟨⟨u, rfl, hu⟩, hb3⟩
    have HSH3 : Hid (ShelfAt w3 w.heap.size S g cap ds next) := HSHA.out.below hb3
    have HU3 : Hid (OwnVol w3 w.heap.size u ⟨0, d.id, true, d.files, d.next⟩) := hu.le HB2.out.size
    have HB3 : Hid (Below w.heap.size w w3) := nwT HB2.out hb3
    have hu' := hu
    obtain ⟨fv, rfl, _⟩ := hu'
    clear hu hb3 HSHA HVIA HB2 hp0 c2
    go_wp2_with fail
    refine (vadd_any w.heap.size S g cap ds next _ _ w3 HSH3.out HU3.out (by have := HS.out; omega) (by omega) (by omega)).mono ?_
    rintro e w4 ⟨rfl, ⟨g', cap', hsh4⟩, hb4⟩
    have HB4 : Hid (Below w.heap.size w w4) := HB3.out.trans hb4
    have hlen : (ds ++ [(⟨next, d.id, true, d.files, d.next⟩ : VolD)]).length = ds.length + 1 := by simp
    have hp4 := hsh4.hp
    have ho4 := hsh4.own
    simp only at hp4 ho4
    rw [hlen] at hp4 ho4
    obtain ⟨s0, s1, _⟩ := two_cells hp4
    have HQ : Hid (∀ w5, Below w4.heap.size w4 w5 → SnapPost ds next id false w.heap.size (.returned (.tuple #[.slice (some ⟨g', 0, none⟩) (ds.length + 1) cap', .int .i64 (next + 1), .int .i64 0])) w5) := fun w5 h => ⟨_, next + 1, 0, _, rfl, ho4.below h, .inl ⟨HOK.out, by first | rw [HUF3.out, HID.out] | rw [HUF3.out]⟩, rfl⟩
    clear hsh4 hb4 HSH3 HU3 HB3 hp4 ho4 hlen
    go_wp2_with fail
    go_quiet (fail)
    go_wp2_with fail
    go_ret3
    first
      | exact ⟨HQ.out _ (nwR w4), HB4.out⟩
      | exact ⟨HQ.out _ (Below.drew (nwR w4)), Below.drew HB4.out⟩
      | exact ⟨HQ.out _ (below_drewN (nwR w4) _), below_drewN HB4.out _⟩

set_option maxRecDepth 100000 in
set_option maxHeartbeats 4000000 in
theorem clonep_any (a : Option Addr) (ds : List VolD) (ca : Nat) (next id : Int) (w : World) (hv : VolsAt w a ds) (hs : SmallW ds) :
    Calls Try.prog 21 #[.slice a ds.length ca, .int .i64 next, .int .i64 id] w fun e w' => SnapPost ds next id true w.heap.size e w' ∧ Below w.heap.size w w' := by
  have HS : Hid (SmallW ds) := hs
  have HV : Hid (VolsAt w a ds) := hv
  clear hs hv
  go_enter Try.func21, Try.ntmps21
  go_wp2_with fail
  refine (open_any a ds ca next id w HV.out HS.out).mono ?_
  rintro e w1 ⟨ho, hb1⟩
  have HB1 : Hid (Below w.heap.size w w1) := hb1
  rcases ho with ⟨hno, rfl⟩ | ⟨hok, hat, rfl⟩ | ⟨k, S, g, cap, hok, hat, rfl, hsh⟩
  · have HQ : Hid (SnapPost ds next id true w.heap.size (.returned (.tuple #[.slice none 0 0, .int .i64 0, .int .i64 1])) (w1.alloc (.cells #[.pointer none] 67))) := ⟨_, 0, 1, [], rfl, ownVs_nil _ _, .inr ⟨hno, rfl, rfl⟩, rfl⟩
    clear hno
    go_wp2_with fail
    go_ret3
    exact ⟨HQ.out, nwA HB1.out _⟩
  · have HQ : Hid (SnapPost ds next id true w.heap.size (.returned (.tuple #[.slice none 0 0, .int .i64 0, .int .i64 3])) (w1.alloc (.cells #[.pointer none] 67))) := ⟨_, 0, 3, [], rfl, ownVs_nil _ _, .inl ⟨hok, by unfold snpF; rw [hat]⟩, rfl⟩
    clear hok hat
    go_wp2_with fail
    go_ret3
    exact ⟨HQ.out, nwA HB1.out _⟩
  · have hkl := atV_lt hat
    have HUF : Hid (snpF ds next id true = if (ds.getD k VZ).snap ≠ true then (9, []) else if 4 ≤ ds.length ∨ 1073741824 ≤ next then (2, []) else (0, ds ++ [⟨next, 0, false, (ds.getD k VZ).files, (ds.getD k VZ).next⟩])) := by show _ = _; unfold snpF; simp only [hat]; first | rfl | simp
    have HID : Hid ((ds.getD k VZ).id = id) := atV_id hat
    have HOK : Hid (VolsOk ds next) := hok
    have HSM : Hid (SmallV (ds.getD k VZ)) := HS.out.2 _ (by simp [List.getD, hkl])
    have HPF : Hid (0 < (ds.getD k VZ).files.length) := hok.pos _ (by simp [List.getD, hkl])
    have HSH : Hid (ShelfAt w1 w.heap.size S g cap ds next) := hsh
    have hn := hok.1
    obtain ⟨_, _, e, hvi⟩ := (show VolsAt w1 (some ⟨g, 0, none⟩) ds from by obtain ⟨a', c', e, h, _⟩ := hsh.own.at; injection e with e1 _ _; rw [e1]; exact h).vol hkl
    injection e with e
    injection e with e1 e2
    subst e1; subst e2
    rw [Nat.zero_add] at hvi
    have HVI : Hid (VolIn w1 g (k * 5) (ds.getD k VZ)) := hvi
    clear hok hat hsh hvi hkl
    generalize ds.getD k VZ = d at HUF HID HSM HPF HVI
    have HBA : Hid (Below w1.heap.size w1 (w1.alloc (.cells #[.pointer (some ⟨g, k * 5, none⟩)] 67))) := nwA (nwR w1) _
    have HXA : Hid ((w1.alloc (.cells #[.pointer (some ⟨g, k * 5, none⟩)] 67)).heap[w1.heap.size]? = some (.cells #[.pointer (some ⟨g, k * 5, none⟩)] 67 (0, 0))) := heap_alloc_new w1 _
    have HB2 : Hid (Below w.heap.size w (w1.alloc (.cells #[.pointer (some ⟨g, k * 5, none⟩)] 67))) := nwA HB1.out _
    obtain ⟨_, _, ⟨_, _, c2, _, _⟩, _⟩ := HVI.out.below HBA.out
    cases hsn : d.snap
    case false =>
      have HQ : Hid (SnapPost ds next id true w.heap.size (.returned (.tuple #[.slice none 0 0, .int .i64 0, .int .i64 9])) (w1.alloc (.cells #[.pointer (some ⟨g, k * 5, none⟩)] 67))) := ⟨_, 0, 9, [], rfl, ownVs_nil _ _, .inl ⟨HOK.out, by rw [HUF.out, if_pos (by rw [hsn]; decide)]⟩, rfl⟩
      rw [hsn] at c2
      clear hsn
      go_wp2_with fail
      go_ret3
      exact ⟨HQ.out, HB2.out⟩
    case true =>
    have HUF2 : Hid (snpF ds next id true = if 4 ≤ ds.length ∨ 1073741824 ≤ next then (2, []) else (0, ds ++ [⟨next, 0, false, d.files, d.next⟩])) := by show _ = _; rw [HUF.out, if_neg (by rw [hsn]; decide)]
    rw [hsn] at c2
    clear hsn HUF
    have HSHA : Hid (ShelfAt (w1.alloc (.cells #[.pointer (some ⟨g, k * 5, none⟩)] 67)) w.heap.size S g cap ds next) := HSH.out.below HBA.out
    have HVIA : Hid (VolIn (w1.alloc (.cells #[.pointer (some ⟨g, k * 5, none⟩)] 67)) g (k * 5) d) := HVI.out.below HBA.out
    have HFU : Hid (Calls Try.prog 40 #[.pointer (some ⟨S, 0, none⟩)] (w1.alloc (.cells #[.pointer (some ⟨g, k * 5, none⟩)] 67)) fun e w' => e = .returned (.bool (decide (4 ≤ ds.length) || decide (1073741824 ≤ next))) ∧ (w1.alloc (.cells #[.pointer (some ⟨g, k * 5, none⟩)] 67)) = w') := (isFull_any _ S g cap ds next _ HSHA.out).mono fun _ _ h => ⟨h.1, h.2.symm⟩
    go_wp2_with fail
    generalize w1.alloc (.cells #[.pointer (some ⟨g, k * 5, none⟩)] 67) = W2 at HXA HB2 HSHA HVIA HFU c2 ⊢
    generalize w1.heap.size = P at HXA ⊢
    refine HFU.out.mono ?_
    rintro e w' ⟨rfl, rfl⟩
    clear HFU
    by_cases hfull : 4 ≤ ds.length ∨ 1073741824 ≤ next
    case pos =>
      have hd : (decide (4 ≤ ds.length) || decide (1073741824 ≤ next)) = true := by simpa using hfull
      have HQ : Hid (SnapPost ds next id true w.heap.size (.returned (.tuple #[.slice none 0 0, .int .i64 0, .int .i64 2])) W2) := ⟨_, 0, 2, [], rfl, ownVs_nil _ _, .inl ⟨HOK.out, by rw [HUF2.out, if_pos hfull]⟩, rfl⟩
      rw [hd]
      clear hd hfull
      go_wp2_with fail
      go_ret3
      exact ⟨HQ.out, HB2.out⟩
    case neg =>
    have hd : (decide (4 ≤ ds.length) || decide (1073741824 ≤ next)) = false := by simp; omega
    have HUF3 : Hid (snpF ds next id true = (0, ds ++ [⟨next, 0, false, d.files, d.next⟩])) := by show _ = _; rw [HUF2.out, if_neg hfull]
    rw [hd]
    have hp0 := cell_of_blk HXA.out
    clear hd hfull HUF2 HSH HVI HXA
    go_wp2_with fail
    refine (vclone_any g (k * 5) d W2 HVIA.out HSM.out HPF.out).mono ?_
    rintro e w3 ⟨⟨u, rfl, hu⟩, hb3⟩
    have HSH3 : Hid (ShelfAt w3 w.heap.size S g cap ds next) := HSHA.out.below hb3
    have HU3 : Hid (OwnVol w3 w.heap.size u ⟨0, 0, false, d.files, d.next⟩) := hu.le HB2.out.size
    have HB3 : Hid (Below w.heap.size w w3) := nwT HB2.out hb3
    have hu' := hu
    obtain ⟨fv, rfl, _⟩ := hu'
    clear hu hb3 HSHA HVIA HB2 hp0 c2
    go_wp2_with fail
    refine (vadd_any w.heap.size S g cap ds next _ _ w3 HSH3.out HU3.out (by have := HS.out; omega) (by omega) (by omega)).mono ?_
    rintro e w4 ⟨rfl, ⟨g', cap', hsh4⟩, hb4⟩
    have HB4 : Hid (Below w.heap.size w w4) := HB3.out.trans hb4
    have hlen : (ds ++ [(⟨next, 0, false, d.files, d.next⟩ : VolD)]).length = ds.length + 1 := by simp
    have hp4 := hsh4.hp
    have ho4 := hsh4.own
    simp only at hp4 ho4
    rw [hlen] at hp4 ho4
    obtain ⟨s0, s1, _⟩ := two_cells hp4
    have HQ : Hid (∀ w5, Below w4.heap.size w4 w5 → SnapPost ds next id true w.heap.size (.returned (.tuple #[.slice (some ⟨g', 0, none⟩) (ds.length + 1) cap', .int .i64 (next + 1), .int .i64 0])) w5) := fun w5 h => ⟨_, next + 1, 0, _, rfl, ho4.below h, .inl ⟨HOK.out, by first | rw [HUF3.out, HID.out] | rw [HUF3.out]⟩, rfl⟩
    clear hsh4 hb4 HSH3 HU3 HB3 hp4 ho4 hlen
    go_wp2_with fail
    go_quiet (fail)
    go_wp2_with fail
    go_ret3
    first
      | exact ⟨HQ.out _ (nwR w4), HB4.out⟩
      | exact ⟨HQ.out _ (Below.drew (nwR w4)), Below.drew HB4.out⟩
      | exact ⟨HQ.out _ (below_drewN (nwR w4) _), below_drewN HB4.out _⟩

end Go.Proofs.Ytodahdnnlkcfdaa
