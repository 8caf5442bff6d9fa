/- Laid together: Volsp, Snapslaw. -/
import Derived.Test.YtbaphgdlbeaenaaReachSnapsM14
/- Whether volumes may be, by the page. -/
namespace Go.Proofs.Ytbaphgdlbeaenaa
open Go.RowKit

theorem vol_any (v : Value) (d : VolD) (w : World) (hv : VolVal w v d) (hs : SmallV d) :
    Calls Try.prog 25 #[v] w fun e w' => SaysB e (VolOk d) ∧ Below w.heap.size w w' := by
  by_cases h : HeadR d
  · exact vol_rest v d w hv hs h
  · exact vol_head v d w hv h
/-- what the page asks of a volume by itself -/
def NearW (ds : List VolD) (next : Int) (k : Nat) : Prop := VolOk (ds.getD k VZ) ∧ 1 ≤ (ds.getD k VZ).id ∧ (ds.getD k VZ).id < next ∧ (0 < k → (ds.getD (k - 1) VZ).id < (ds.getD k VZ).id)
theorem near_each {ds : List VolD} {next : Int} {k : Nat} (h : ∀ j, j < k → EachW ds next j) : EachW ds next k ↔ (NearW ds next k ∧ RootW ds (ds.getD k VZ)) := by
  unfold EachW NearW lastV
  by_cases h0 : k = 0
  · subst h0
    simp only [if_pos]
    constructor
    · rintro ⟨a, ⟨b, c⟩, r⟩; exact ⟨⟨a, by omega, c, fun h => by omega⟩, r⟩
    · rintro ⟨⟨a, b, c, _⟩, r⟩; exact ⟨a, ⟨by omega, c⟩, r⟩
  · simp only [if_neg h0]
    have hp : ∀ j, j < k → 1 ≤ (ds.getD j VZ).id := by
      intro j
      induction j with
      | zero => intro hj; have := (h 0 hj).2.1.1; unfold lastV at this; rw [if_pos rfl] at this; omega
      | succ j ih =>
        intro hj
        have h1 := ih (by omega)
        have h2 := (h (j + 1) hj).2.1.1
        unfold lastV at h2
        rw [if_neg (by omega)] at h2
        simp only [Nat.add_sub_cancel] at h2
        omega
    have h1 := hp (k - 1) (by omega)
    constructor
    · rintro ⟨a, ⟨b, c⟩, r⟩; exact ⟨⟨a, by omega, c, fun _ => b⟩, r⟩
    · rintro ⟨⟨a, b, c, d⟩, r⟩; exact ⟨a, ⟨d (by omega), c⟩, r⟩

set_option maxRecDepth 100000 in
set_option maxHeartbeats 4000000 in
theorem rvols_any (a : Option Addr) (ds : List VolD) (ca : Nat) (next : Int) (w : World) (hv : VolsAt w a ds) (hs : SmallW ds) :
    Calls Try.prog 13 #[.slice a ds.length ca, .int .i64 next] w fun e w' => SaysB e (VolsOk ds next) ∧ Below w.heap.size w w' := by
  have HV : Hid (VolsAt w a ds) := hv
  have HS : Hid (SmallW ds) := hs
  have hl := hs.1
  clear hv hs
  obtain ⟨bt, hbt⟩ : ∃ bt, betB next 1 1073741824 = bt := ⟨_, rfl⟩
  have HBT : Hid (bt = true ↔ (1 ≤ next ∧ next ≤ 1073741824)) := by show _ ↔ _; rw [← hbt]; unfold betB; simp
  have HBC : Hid (Calls Try.prog 24 #[.int .i64 next, .int .i64 1, .int .i64 1073741824] w fun e w'' => e = .returned (.bool bt) ∧ w = w'') := (between_any next 1 1073741824 w).mono fun e w'' ⟨h1, h2⟩ => ⟨by rw [h1, hbt], h2.symm⟩
  clear hbt
  by_cases h1 : (4 : Int) < (ds.length : Int)
  case pos =>
    have HN : Hid (¬ VolsOk ds next) := fun h => by have := h.1.1; omega
    clear HBC
    go_enter Try.func13, Try.ntmps13
    go_wp2_with fail
    go_ret
    exact ⟨says_no HN.out, nwR w⟩
  case neg =>
  cases bt
  case false =>
    have HN : Hid (¬ VolsOk ds next) := fun h => by have := HBT.out.2 h.1.2; cases this
    go_enter Try.func13, Try.ntmps13
    go_wp2_with (first | (go_at_call 24; refine HBC.out.mono ?_; rintro e w' ⟨rfl, rfl⟩) | fail)
    go_ret
    exact ⟨says_no HN.out, nwR w⟩
  case true =>
  have HH : Hid (ds.length ≤ 4 ∧ 1 ≤ next ∧ next ≤ 1073741824) := ⟨by omega, HBT.out.1 rfl⟩
  go_enter Try.func13, Try.ntmps13
  go_wp2_with (first | (go_at_call 24; refine HBC.out.mono ?_; rintro e w' ⟨rfl, rfl⟩) | fail)
  clear HBC HBT
  go_loopw [5] (fun i wr => ∃ (k : Nat), k ≤ ds.length ∧ i = .int .i64 k ∧ Below w.heap.size w wr ∧ Hid (∀ j, j < k → EachW ds next j))
    (fun i _ => ds.length - (intOf i).toNat)
  case atStart => exact ⟨0, by omega, rfl, nwR w, fun j hj => by omega⟩
  case round =>
    obtain ⟨k, hk, rfl, hb, HE⟩ := hrel
    by_cases hlt : k < ds.length
    case neg =>
      have hlti : ¬ (k : Int) < (ds.length : Int) := by omega
      have HY : Hid (VolsOk ds next) := ⟨HH.out, fun j hj => HE.out j (by omega)⟩
      go_wp2_with fail
      go_ret
      exact ⟨⟨true, rfl, by simp; exact HY.out⟩, hb⟩
    case pos =>
    have hlti : (k : Int) < (ds.length : Int) := by omega
    have hk0 : (0 : Int) ≤ (k : Int) := by omega
    obtain ⟨b1, o1, rfl, hvi⟩ := HV.out.vol hlt
    obtain ⟨af, cf, ⟨c0, c1, c2, c3, c4⟩, hval⟩ := (hvi.below hb).val
    have HPV : Hid (0 < k → wr.cell? ⟨b1, o1 + (k - 1) * 5, none⟩ = some (.int .i64 (ds.getD (k - 1) VZ).id)) := fun h0 => by
      obtain ⟨b2, o2, e, hvi2⟩ := HV.out.vol (show k - 1 < ds.length by omega)
      injection e with e
      injection e with e1 e2
      subst e1; subst e2
      obtain ⟨_, _, ⟨p0, _⟩, _⟩ := (hvi2.below hb).val
      exact p0
    have HSM : Hid (SmallV (ds.getD k VZ)) := HS.out.2 _ (by simp [List.getD, hlt])
    have HEK : Hid (EachW ds next k ↔ (NearW ds next k ∧ RootW ds (ds.getD k VZ))) := near_each HE.out
    have HNK : Hid (NearW ds next k ↔ (VolOk (ds.getD k VZ) ∧ 1 ≤ (ds.getD k VZ).id ∧ (ds.getD k VZ).id < next ∧ (0 < k → (ds.getD (k - 1) VZ).id < (ds.getD k VZ).id))) := Iff.rfl
    have HRO : Hid (RootW ds (ds.getD k VZ) ↔ ((ds.getD k VZ).snap = true → ∃ j, atV ds (ds.getD k VZ).fr = some j ∧ (ds.getD j VZ).snap = false)) := Iff.rfl
    generalize ds.getD k VZ = d at c0 c1 c2 c3 c4 hval HSM HEK HNK HRO
    generalize (ds.getD (k - 1) VZ).id = pid at HPV HNK
    have HVA : Hid (VolVal wr (.agg #[.int .i64 d.id, .int .i64 d.fr, .bool d.snap, .slice af d.files.length cf, .int .i64 d.next]) d) := hval
    clear hval hvi
    obtain ⟨b3, hb3⟩ := bool_of (VolOk d)
    have HVC : Hid (∀ p : Kin wr, Calls Try.prog 25 #[.agg #[.int .i64 d.id, .int .i64 d.fr, .bool d.snap, .slice af d.files.length cf, .int .i64 d.next]] p.u fun e w' => e = .returned (.bool b3) ∧ Below p.u.heap.size p.u w') := fun p =>
      (vol_any _ d p.u (HVA.out.below p.h) HSM.out).mono fun e w' ⟨⟨b, h1, h2⟩, h3⟩ => ⟨by rw [h1, show b = b3 from by rw [Bool.eq_iff_iff, h2, hb3]], h3⟩
    obtain ⟨bad, hbad⟩ : ∃ b : Bool, b = (!b3 || decide (d.id < 1) || decide (next ≤ d.id) || (decide (0 < k) && decide (d.id ≤ pid))) := ⟨_, rfl⟩
    have HBAD : Hid (bad = (!b3 || decide (d.id < 1) || decide (next ≤ d.id) || (decide (0 < k) && decide (d.id ≤ pid)))) := hbad
    have HEB : Hid (bad = false ↔ NearW ds next k) := by
      show _ ↔ _
      rw [HNK.out, ← hb3, hbad]
      cases b3
      · simp
      · simp only [Bool.not_true, Bool.false_or, Bool.or_eq_false_iff, Bool.and_eq_false_iff, decide_eq_false_iff_not, true_and]
        constructor
        · rintro ⟨⟨x, y⟩, z⟩; exact ⟨by omega, by omega, fun h => by rcases z with z | z <;> omega⟩
        · rintro ⟨x, y, z⟩
          refine ⟨⟨by omega, by omega⟩, ?_⟩
          by_cases h0 : 0 < k
          · right; have := z h0; omega
          · left; exact h0
    clear hbad hb3
    go_upto_region 6 with fail
    go_cut [61] from 15 to 82 (fun s61 wx => s61 = .bool bad ∧ Below wr.heap.size wr wx)
    case first =>
      have z0 : ∀ p : Kin wr, p.u.cell? ⟨b1, o1 + k * 5, none⟩ = some (.int .i64 d.id) := fun p => kcell c0 p
      have z1 : ∀ p : Kin wr, p.u.cell? ⟨b1, o1 + k * 5 + 1, none⟩ = some (.int .i64 d.fr) := fun p => kcell c1 p
      have z2 : ∀ p : Kin wr, p.u.cell? ⟨b1, o1 + k * 5 + 2, none⟩ = some (.bool d.snap) := fun p => kcell c2 p
      have z3 : ∀ p : Kin wr, p.u.cell? ⟨b1, o1 + k * 5 + 3, none⟩ = some (.slice af d.files.length cf) := fun p => kcell c3 p
      have z4 : ∀ p : Kin wr, p.u.cell? ⟨b1, o1 + k * 5 + 4, none⟩ = some (.int .i64 d.next) := fun p => kcell c4 p
      clear c0 c1 c2 c3 c4
      cases b3
      · have HBD : Hid (bad = true) := by show _ = _; rw [HBAD.out]; rfl
        refine wp_region_kin (by kernel_rfl) (by kernel_rfl) ?_
        repeat (first | go_big_quiet_step (first | (go_at_call 25; exact Calls.kin_of (HVC.out _)) | fail) | quiet_step (first | (go_at_call 25; exact Calls.kin_of (HVC.out _)) | fail))
        refine wpQuiet_nil ?_
        intro _ hw'
        obtain ⟨pq, hw''⟩ := hw'
        subst hw''
        go_wp2_with fail
        go_meet
        exact ⟨by rw [HBD.out], pq.h⟩
      · by_cases ha : d.id < 1
        · have ha1 : decide (d.id < 1) = true := decide_eq_true ha
          have HBD : Hid (bad = true) := by show _ = _; rw [HBAD.out, ha1]; rfl
          refine wp_region_kin (by kernel_rfl) (by kernel_rfl) ?_
          repeat (first | go_big_quiet_step (first | (go_at_call 25; exact Calls.kin_of (HVC.out _)) | fail) | quiet_step (first | (go_at_call 25; exact Calls.kin_of (HVC.out _)) | fail))
          refine wpQuiet_nil ?_
          intro _ hw'
          obtain ⟨pq, hw''⟩ := hw'
          subst hw''
          go_wp2_with fail
          go_meet
          exact ⟨by rw [HBD.out], pq.h⟩
        · have ha1 : decide (d.id < 1) = false := decide_eq_false ha
          by_cases hc : next ≤ d.id
          · have hc1 : decide (next ≤ d.id) = true := decide_eq_true hc
            have HBD : Hid (bad = true) := by show _ = _; rw [HBAD.out, ha1, hc1]; rfl
            refine wp_region_kin (by kernel_rfl) (by kernel_rfl) ?_
            repeat (first | go_big_quiet_step (first | (go_at_call 25; exact Calls.kin_of (HVC.out _)) | fail) | quiet_step (first | (go_at_call 25; exact Calls.kin_of (HVC.out _)) | fail))
            refine wpQuiet_nil ?_
            intro _ hw'
            obtain ⟨pq, hw''⟩ := hw'
            subst hw''
            go_wp2_with fail
            go_meet
            exact ⟨by rw [HBD.out], pq.h⟩
          · have hc1 : decide (next ≤ d.id) = false := decide_eq_false hc
            have HBA2 : Hid (bad = (decide (0 < k) && decide (d.id ≤ pid))) := by show _ = _; rw [HBAD.out, ha1, hc1]; rfl
            by_cases h0 : 0 < k
            · have hk1 : decide (0 < k) = true := decide_eq_true h0
              have hk1i : decide ((0 : Int) < (k : Int)) = true := decide_eq_true (by omega)
              have p0 := HPV.out h0
              have z5 : ∀ p : Kin wr, p.u.cell? ⟨b1, o1 + (k - 1) * 5, none⟩ = some (.int .i64 pid) := fun p => kcell p0 p
              have e1 : IntKind.i64.wrap ((k : Int) - 1) = ((k - 1 : Nat) : Int) := by rw [wrap_any (by omega) (by omega)]; omega
              have e2 : ((k - 1 : Nat) : Int) < (ds.length : Int) := by omega
              have e3 : (0 : Int) ≤ ((k - 1 : Nat) : Int) := by omega
              clear p0
              generalize k - 1 = m at z5 e1 e2 e3
              by_cases hp : d.id ≤ pid
              · have hp1 : decide (d.id ≤ pid) = true := decide_eq_true hp
                have HBD : Hid (bad = true) := by show _ = _; rw [HBA2.out, hk1, hp1]; rfl
                refine wp_region_kin (by kernel_rfl) (by kernel_rfl) ?_
                repeat (first | go_big_quiet_step (first | (go_at_call 25; exact Calls.kin_of (HVC.out _)) | fail) | quiet_step (first | (go_at_call 25; exact Calls.kin_of (HVC.out _)) | fail))
                refine wpQuiet_nil ?_
                intro _ hw'
                obtain ⟨pq, hw''⟩ := hw'
                subst hw''
                go_wp2_with fail
                go_meet
                exact ⟨by rw [HBD.out], pq.h⟩
              · have hp1 : decide (d.id ≤ pid) = false := decide_eq_false hp
                have HBD : Hid (bad = false) := by show _ = _; rw [HBA2.out, hk1, hp1]; rfl
                refine wp_region_kin (by kernel_rfl) (by kernel_rfl) ?_
                repeat (first | go_big_quiet_step (first | (go_at_call 25; exact Calls.kin_of (HVC.out _)) | fail) | quiet_step (first | (go_at_call 25; exact Calls.kin_of (HVC.out _)) | fail))
                refine wpQuiet_nil ?_
                intro _ hw'
                obtain ⟨pq, hw''⟩ := hw'
                subst hw''
                go_wp2_with fail
                go_meet
                exact ⟨by rw [HBD.out], pq.h⟩
            · have hk1 : decide (0 < k) = false := decide_eq_false h0
              have hk1i : decide ((0 : Int) < (k : Int)) = false := decide_eq_false (by omega)
              have HBD : Hid (bad = false) := by show _ = _; rw [HBA2.out, hk1]; rfl
              refine wp_region_kin (by kernel_rfl) (by kernel_rfl) ?_
              repeat (first | go_big_quiet_step (first | (go_at_call 25; exact Calls.kin_of (HVC.out _)) | fail) | quiet_step (first | (go_at_call 25; exact Calls.kin_of (HVC.out _)) | fail))
              refine wpQuiet_nil ?_
              intro _ hw'
              obtain ⟨pq, hw''⟩ := hw'
              subst hw''
              go_wp2_with fail
              go_meet
              exact ⟨by rw [HBD.out], pq.h⟩
    case rest =>
    obtain ⟨rfl, hbc⟩ := hcut
    rename World => wc
    have hbW := nwT hb hbc
    have HVC2 : Hid (VolsAt wc (some ⟨b1, o1, none⟩) ds) := HV.out.below hbW
    have d2 := (hbc.cell (p := ⟨b1, o1 + k * 5 + 2, none⟩) (block_lt_of_cell c2)).trans c2
    have d1 := (hbc.cell (p := ⟨b1, o1 + k * 5 + 1, none⟩) (block_lt_of_cell c1)).trans c1
    clear c0 c1 c2 c3 c4 hbc HVC HPV
    cases bad
    case true =>
      have HN : Hid (¬ VolsOk ds next) := fun h => by have := HEB.out.2 (HEK.out.1 (h.2 k hlt)).1; cases this
      go_wp2_with fail
      go_ret
      exact ⟨says_no HN.out, hbW⟩
    case false =>
    have HNE : Hid (RootW ds d → EachW ds next k) := fun h => HEK.out.2 ⟨HEB.out.1 rfl, h⟩
    have HNO : Hid (¬ RootW ds d → ¬ VolsOk ds next) := fun hn h => hn (HEK.out.1 (h.2 k hlt)).2
    have HNX : Hid (EachW ds next k → ∀ j, j < k + 1 → EachW ds next j) := fun h j hj => by
      by_cases e : j = k
      · subst e; exact h
      · exact HE.out j (by omega)
    clear HEB HEK HNK HBAD
    cases hsn : d.snap
    case false =>
      have HY : Hid (∀ j, j < k + 1 → EachW ds next j) := HNX.out (HNE.out (fun h => by rw [hsn] at h; cases h))
      rw [hsn] at d2
      clear hsn
      go_wp2_with fail
      go_roundw
      case rel => exact ⟨k + 1, by omega, by go_num, hbW, HY⟩
      case measure => simp [intOf]; omega
    case true =>
    have HR2 : Hid (RootW ds d ↔ ∃ j, atV ds d.fr = some j ∧ (ds.getD j VZ).snap = false) := by show _ ↔ _; rw [HRO.out, hsn]; simp
    rw [hsn] at d2
    clear hsn HRO
    have HAT : Hid (Calls Try.prog 26 #[.slice (some ⟨b1, o1, none⟩) ds.length ca, .int .i64 d.fr] wc fun e w' => e = .returned (.int .i64 (optI (atV ds d.fr))) ∧ wc = w') := (atv_any _ ds ca d.fr wc HVC2.out hl).mono fun _ _ h => ⟨h.1, h.2.symm⟩
    go_wp2_with fail
    refine HAT.out.mono ?_
    rintro e w' ⟨rfl, rfl⟩
    clear HAT
    cases hat : atV ds d.fr with
    | none =>
      have HN : Hid (¬ VolsOk ds next) := HNO.out (fun h => by obtain ⟨j, h1, _⟩ := HR2.out.1 h; rw [hat] at h1; cases h1)
      simp only [optI]
      clear hat
      go_wp2_with fail
      go_ret
      exact ⟨says_no HN.out, hbW⟩
    | some j =>
      have hjl := atV_lt hat
      obtain ⟨b2, o2, e, _, _, ⟨_, _, q2, _, _⟩, _⟩ := HVC2.out.vol hjl
      injection e with e
      injection e with e1 e2
      subst e1; subst e2
      simp only [optI]
      have hj0 : ¬ (j : Int) < 0 := by omega
      have hj1 : (0 : Int) ≤ (j : Int) := by omega
      have hj2 : (j : Int) < (ds.length : Int) := by omega
      have HRJ : Hid (RootW ds d ↔ (ds.getD j VZ).snap = false) := by
        show _ ↔ _
        rw [HR2.out]
        constructor
        · rintro ⟨i, h1, h2⟩; rw [hat] at h1; injection h1 with h1; subst h1; exact h2
        · intro h; exact ⟨j, hat, h⟩
      generalize (ds.getD j VZ).snap = s at q2 HRJ
      clear hat HR2
      cases s
      · have HY : Hid (∀ j, j < k + 1 → EachW ds next j) := HNX.out (HNE.out (HRJ.out.2 rfl))
        go_wp2_with fail
        go_roundw
        case rel => exact ⟨k + 1, by omega, by go_num, hbW, HY⟩
        case measure => simp [intOf]; omega
      · have HN : Hid (¬ VolsOk ds next) := HNO.out (fun h => by have := HRJ.out.1 h; cases this)
        go_wp2_with fail
        go_ret
        exact ⟨says_no HN.out, hbW⟩

end Go.Proofs.Ytbaphgdlbeaenaa

/- The law ReachSnaps walked. -/
namespace Go.Proofs.Ytbaphgdlbeaenaa
open Go.RowKit

set_option maxRecDepth 100000 in
set_option maxHeartbeats 8000000 in
theorem snaps_walk : LawOk 4 := by
  intro v ds next l rs w hv hd hl hr
  have HVA : Hid (AskVal w v ds next l rs) := hv
  obtain ⟨av, ca, aL, cL, ar, cr, rfl, hV, _, _, _⟩ := id hv
  have HHV : Hid (∀ w', Below w.heap.size w w' → Calls Try.prog 5 #[.agg #[.slice av ds.length ca, .int .i64 next, .slice aL l.length cL, .slice ar rs.length cr]] w' (HvPostR ds l rs w')) := fun w' hb => by
    obtain ⟨av', ca', aL', cL', ar', cr', e, h1, h2, h3, h4⟩ := HVA.out
    exact heavyr_any _ ds next l rs w' ⟨av', ca', aL', cL', ar', cr', e, ⟨h1.1.below hb, h1.2⟩, ⟨h2.1.below hb, h2.2⟩, h3.below hb, h4⟩ hd hl hr
  have HV : Hid (VolsAt w av ds) := hV.1
  have HB0 : Hid (Below w.heap.size w (w.alloc (.cells #[.slice av ds.length ca, .int .i64 next, .slice aL l.length cL, .slice ar rs.length cr] 28))) := nwA (nwR w) _
  have HX0 : Hid ((w.alloc (.cells #[.slice av ds.length ca, .int .i64 next, .slice aL l.length cL, .slice ar rs.length cr] 28)).heap[w.heap.size]? = some (.cells #[.slice av ds.length ca, .int .i64 next, .slice aL l.length cL, .slice ar rs.length cr] 28 (0, 0))) := heap_alloc_new w _
  have HWK : Hid (∀ w', Calls Try.prog 12 #[] w' fun e w'' => e = .returned (.bool true) ∧ Below w'.heap.size w' w'') := wakes_any
  clear hv hd hl hr hV HVA
  obtain ⟨x0, x1, x2, x3⟩ := quad HX0.out
  go_enter Try.func4, Try.ntmps4
  go_wp2_with fail
  generalize w.alloc (.cells #[.slice av ds.length ca, .int .i64 next, .slice aL l.length cL, .slice ar rs.length cr] 28) = WB at HB0 HX0 x0 x1 x2 x3 ⊢
  refine (HHV.out WB HB0.out).mono ?_
  rintro e w1 ⟨q, rfl, hb1, h1⟩
  have HB1 : Hid (Below w.heap.size w w1) := nwT HB0.out hb1
  have HX1 : Hid (w1.heap[w.heap.size]? = some (.cells #[.slice av ds.length ca, .int .i64 next, .slice aL l.length cL, .slice ar rs.length cr] 28 (0, 0))) := (hb1.block _ (Array.getElem?_eq_some_iff.1 HX0.out).1).trans HX0.out
  clear x0 x1 x2 x3 hb1 HHV HX0 HB0
  cases q
  case true =>
    clear h1
    go_wp2_with fail
    go_ret
    exact ⟨rfl, HB1.out⟩
  case false =>
  obtain ⟨hsw, _, _⟩ := h1 rfl
  have HSW : Hid (SmallW ds) := hsw
  have HV1 : Hid (VolsAt w1 av ds) := HV.out.below HB1.out
  have HXX : Hid (∀ w', Below w1.heap.size w1 w' → w'.cell? ⟨w.heap.size, 0, none⟩ = some (.slice av ds.length ca) ∧ w'.cell? ⟨w.heap.size, 1, none⟩ = some (.int .i64 next)) := fun w' h => by
    have h := quad ((h.block _ (Array.getElem?_eq_some_iff.1 HX1.out).1).trans HX1.out)
    exact ⟨h.1, h.2.1⟩
  have HVS : Hid (Calls Try.prog 13 #[.slice av ds.length ca, .int .i64 next] w1 fun e w' => SaysB e (VolsOk ds next) ∧ Below w1.heap.size w1 w') := rvols_any av ds ca next w1 HV1.out hsw
  clear h1 hsw HX1
  obtain ⟨x0, x1⟩ := HXX.out w1 (nwR w1)
  go_wp2_with fail
  refine HVS.out.mono ?_
  rintro e w2 ⟨⟨b, rfl, hb⟩, hb2⟩
  have HB2 : Hid (Below w1.heap.size w1 w2) := hb2
  clear x0 x1 hb2 HVS
  cases b
  case false =>
    have HBE : Hid (Below w.heap.size w w2) := nwT HB1.out HB2.out
    clear hb
    go_wp2_with fail
    go_ret
    exact ⟨rfl, HBE.out⟩
  case true =>
  have HOK : Hid (VolsOk ds next) := hb.1 rfl
  have HNA : Hid (Calls Try.prog 14 #[.slice av ds.length ca, .int .i64 next] w2 fun e w' => (∃ u, e = .returned (.tuple #[u, .int .i64 0]) ∧ OwnInts w' w2.heap.size u (risN (placesW ds))) ∧ Below w2.heap.size w2 w') := by
    refine (named_any av ds ca next w2 (HV1.out.below HB2.out) HSW.out).mono ?_
    rintro e w' ⟨⟨u, er, ys, rfl, h1, ⟨_, rfl, rfl⟩ | ⟨h, _⟩⟩, hb⟩
    · exact ⟨⟨u, rfl, h1⟩, hb⟩
    · exact absurd HOK.out h
  clear hb
  obtain ⟨x0, x1⟩ := HXX.out w2 HB2.out
  go_wp2_with fail
  refine HNA.out.mono ?_
  rintro e w3 ⟨⟨u3, rfl, ho3⟩, hb3⟩
  obtain ⟨a3, c3, rfl, ha3, _⟩ := ho3.at
  have HB3 : Hid (Below w1.heap.size w1 w3) := nwT HB2.out hb3
  have HWAS : Hid (IntsAt w3 a3 (risN (placesW ds))) := ha3
  have hwl : (risN (placesW ds)).length ≤ 10000 := Nat.le_trans (risN_len _) HOK.out.few.all
  clear x0 x1 ho3 ha3 hb3 HNA
  go_wp2_with (go_at_call 15; refine (errnum_any _ _).mono ?_; rintro e w' ⟨rfl, rfl⟩)
  rename World => w3
  go_loopw [5] (fun s5 wr => ∃ (i : Nat), i ≤ ds.length ∧ s5 = .int .i64 i ∧ Hid (Below w3.heap.size w3 wr))
    (fun s5 _ => ds.length - (intOf s5).toNat)
  case atStart => exact ⟨0, by omega, rfl, nwR w3⟩
  case round =>
    obtain ⟨i, hi, rfl, HBR⟩ := hrel
    obtain ⟨x0, x1⟩ := HXX.out wr (nwT HB3.out HBR.out)
    by_cases hil : i < ds.length
    case neg =>
      have hili : ¬ (i : Int) < (ds.length : Int) := by omega
      have HBE : Hid (Below w.heap.size w wr) := nwT (nwT HB1.out HB3.out) HBR.out
      go_wp2_with fail
      refine (HWK.out wr).mono ?_
      rintro e wF ⟨rfl, hbF⟩
      have HBF : Hid (Below w.heap.size w wF) := nwT HBE.out hbF
      clear hbF
      go_wp2_with fail
      go_ret
      exact ⟨rfl, HBF.out⟩
    case pos =>
    have hili : (i : Int) < (ds.length : Int) := by omega
    have hd4 : ds.length ≤ 4 := HOK.out.1.1
    obtain ⟨b1, o1, rfl, hvi⟩ := (HV1.out).vol hil
    obtain ⟨_, _, ⟨c0, _, _, _, _⟩, _⟩ := hvi
    have HC0 : Hid (w1.cell? ⟨b1, o1 + i * 5, none⟩ = some (.int .i64 (ds.getD i VZ).id)) := c0
    have HSN : Hid (∀ id w', Below wr.heap.size wr w' → Calls Try.prog 16 #[.slice (some ⟨b1, o1, none⟩) ds.length ca, .int .i64 next, .int .i64 id] w' fun e w'' => SnapPost ds next id false w'.heap.size e w'' ∧ Below w'.heap.size w' w'') := fun id w' hb => snapp_any (some ⟨b1, o1, none⟩) ds ca next id w' (HV1.out.below (nwT (nwT HB3.out HBR.out) hb)) HSW.out
    have HCI : Hid (∀ w', Below wr.heap.size wr w' → w'.cell? ⟨b1, o1 + i * 5, none⟩ = some (.int .i64 (ds.getD i VZ).id)) := fun w' h => ((nwT (nwT HB3.out HBR.out) h).cell (p := ⟨b1, o1 + i * 5, none⟩) (block_lt_of_cell HC0.out)).trans HC0.out
    have HXY : Hid (∀ w', Below wr.heap.size wr w' → w'.cell? ⟨w.heap.size, 0, none⟩ = some (.slice (some ⟨b1, o1, none⟩) ds.length ca) ∧ w'.cell? ⟨w.heap.size, 1, none⟩ = some (.int .i64 next)) := fun w' h => HXX.out _ (nwT (nwT HB3.out HBR.out) h)
    clear c0 x0 x1
    generalize (ds.getD i VZ).id = id at HC0 HCI
    have hi0 : (0 : Int) ≤ (i : Int) := by omega
    obtain ⟨x0, x1⟩ := HXY.out wr (nwR wr)
    have q0 : ∀ w', Below wr.heap.size wr w' → w'.cell? ⟨w.heap.size, 0, none⟩ = some (.slice (some ⟨b1, o1, none⟩) ds.length ca) := fun w' h => (HXY.out w' h).1
    have q1 : ∀ w', Below wr.heap.size wr w' → w'.cell? ⟨w.heap.size, 1, none⟩ = some (.int .i64 next) := fun w' h => (HXY.out w' h).2
    have qi : ∀ w', Below wr.heap.size wr w' → w'.cell? ⟨b1, o1 + i * 5, none⟩ = some (.int .i64 id) := fun w' h => HCI.out w' h
    have hS : Below wr.heap.size wr wr := nwR wr
    go_wp2_with fail
    go_region_held3 (fun w' => Below wr.heap.size wr w') (first | assumption | exact Below.drew (by assumption) | exact nwT (by assumption) (by assumption)) (first
      | (go_at_call 16; refine (HSN.out id _ (by assumption)).mono ?_; rintro e wS ⟨⟨uS, nS, erS, dd, rfl, hoS, hpS, hnS⟩, hbS⟩; have HNS : Hid (nS = if erS = 0 then next + 1 else 0) := hnS; have HPS : Hid (ProgR (VolsOk ds next) (snpF ds next id false) erS dd) := hpS; clear hnS hpS)
      | fail)
    have hbS2 : Below wr.heap.size wr wS := by assumption
    have HBS : Hid (Below wr.heap.size wr wS) := hbS2
    have HOS : Hid (OwnVols wS wr.heap.size uS dd) := hoS.le (by first | exact Nat.le_refl _ | exact (Below.drew (nwR wr)).size)
    clear q0 q1 qi hS hbS hbS2 hoS x0 x1
    obtain ⟨aS, cS, rfl, haS, _⟩ := HOS.out.at
    by_cases her : erS = 0
    case neg =>
      have her2 : ¬ erS = 0 := her
      have HBT : Hid (Below w3.heap.size w3 wS) := nwT HBR.out HBS.out
      clear haS
      go_wp2_with (go_at_call 15; refine (errnum_any _ _).mono ?_; rintro e w' ⟨rfl, rfl⟩)
      go_roundw
      case rel => exact ⟨i + 1, by omega, by go_num, HBT⟩
      case measure => simp [intOf]; omega
    case pos =>
    subst her
    obtain ⟨k, hat, hsn, h4, hn, hdd⟩ : ∃ k, atV ds id = some k ∧ (ds.getD k VZ).snap = false ∧ ds.length < 4 ∧ next < 1073741824 ∧ dd = ds ++ [⟨next, id, true, (ds.getD k VZ).files, (ds.getD k VZ).next⟩] := by
      rcases HPS.out with ⟨_, h⟩ | ⟨h, _⟩
      · exact snap_get h
      · exact absurd HOK.out h
    have hnS : nS = next + 1 := by rw [HNS.out, if_pos rfl]
    subst hnS
    have hok2 : VolsOk dd (next + 1) := by rw [hdd]; exact snap_ok HOK.out hat hsn h4 hn
    have hsw2 : SmallW dd := by rw [hdd]; exact snap_small HSW.out h4 (atV_lt hat) rfl
    have hso := snap_only (s := ⟨next, id, true, (ds.getD k VZ).files, (ds.getD k VZ).next⟩) HOK.out hat rfl rfl
    rw [← hdd] at hso
    have HNM2 : Hid (risN (placesW dd) = risN (placesW ds)) := by show _ = _; rw [hdd]; exact snap_named (atV_lt hat) rfl
    have HN2 : Hid (∀ w', Below wS.heap.size wS w' → Calls Try.prog 14 #[.slice aS dd.length cS, .int .i64 (next + 1)] w' fun e w'' => (∃ u, e = .returned (.tuple #[u, .int .i64 0]) ∧ OwnInts w'' w'.heap.size u (risN (placesW ds))) ∧ Below w'.heap.size w' w'') := fun w' hb => by
      refine (named_any aS dd cS (next + 1) w' (haS.below hb) hsw2).mono ?_
      rintro e w' ⟨⟨u, er, ys, rfl, h1, ⟨_, rfl, rfl⟩ | ⟨h, _⟩⟩, hb⟩
      · rw [HNM2.out] at h1; exact ⟨⟨u, rfl, h1⟩, hb⟩
      · exact absurd hok2 h
    have HO2 : Hid (∀ w', Below wS.heap.size wS w' → Calls Try.prog 17 #[.slice aS dd.length cS, .int .i64 (next + 1), .int .i64 id] w' fun e w'' => (∃ u, e = .returned (.tuple #[u, .int .i64 0]) ∧ OwnInts w'' w'.heap.size u []) ∧ Below w'.heap.size w' w'') := fun w' hb => by
      refine (only_any aS dd cS (next + 1) id w' (haS.below hb) hsw2).mono ?_
      rintro e w' ⟨⟨u, er, ys, rfl, h1, ⟨h, _⟩ | ⟨_, h, _⟩ | ⟨j, _, h2, rfl, rfl⟩⟩, hb⟩
      · exact absurd hok2 h
      · rw [hso.1.1] at h; cases h
      · rw [hso.1.1] at h2; injection h2 with h2; subst h2
        rw [hso.1.2] at h1; exact ⟨⟨u, rfl, h1⟩, hb⟩
    have HO3 : Hid (∀ w', Below wS.heap.size wS w' → Calls Try.prog 17 #[.slice aS dd.length cS, .int .i64 (next + 1), .int .i64 next] w' fun e w'' => (∃ u, e = .returned (.tuple #[u, .int .i64 0]) ∧ OwnInts w'' w'.heap.size u []) ∧ Below w'.heap.size w' w'') := fun w' hb => by
      refine (only_any aS dd cS (next + 1) next w' (haS.below hb) hsw2).mono ?_
      rintro e w' ⟨⟨u, er, ys, rfl, h1, ⟨h, _⟩ | ⟨_, h, _⟩ | ⟨j, _, h2, rfl, rfl⟩⟩, hb⟩
      · exact absurd hok2 h
      · rw [hso.2.1] at h; cases h
      · rw [hso.2.1] at h2; injection h2 with h2; subst h2
        rw [hso.2.2] at h1; exact ⟨⟨u, rfl, h1⟩, hb⟩
    have HLD : Hid (dd.length ≤ 100000) := hsw2.1
    clear hat hsn h4 hdd hok2 hsw2 hso haS HPS HNS HOS HNM2 HSN
    go_wp2_with (go_at_call 15; refine (errnum_any _ _).mono ?_; rintro e w' ⟨rfl, rfl⟩)
    rename World => wS
    refine (HN2.out wS (nwR wS)).mono ?_
    rintro e w5 ⟨⟨u5, rfl, ho5⟩, hb5⟩
    obtain ⟨a5, c5, rfl, ha5, _⟩ := ho5.at
    have HB5 : Hid (Below wS.heap.size wS w5) := hb5
    have HA5 : Hid (IntsAt w5 a5 (risN (placesW ds))) := ha5
    have x0 := (HXY.out w5 (nwT HBS.out HB5.out)).1
    have xi := HCI.out w5 (nwT HBS.out HB5.out)
    clear ho5 hb5 ha5
    go_wp2_with fail
    refine (HO2.out w5 HB5.out).mono ?_
    rintro e w6 ⟨⟨u6, rfl, ho6⟩, hb6⟩
    obtain ⟨a6, c6, rfl, _, _⟩ := ho6.at
    have HB6 : Hid (Below wS.heap.size wS w6) := nwT HB5.out hb6
    have HA6 : Hid (IntsAt w6 a5 (risN (placesW ds))) := HA5.out.below hb6
    clear ho6 hb6 x0 xi HA5 HB5
    have x1 := (HXY.out w6 (nwT HBS.out HB6.out)).2
    go_wp2_with fail
    refine (HO3.out w6 HB6.out).mono ?_
    rintro e w7 ⟨⟨u7, rfl, ho7⟩, hb7⟩
    obtain ⟨a7, c7, rfl, _, _⟩ := ho7.at
    have HB7 : Hid (Below wS.heap.size wS w7) := nwT HB6.out hb7
    have HBZ : Hid (Below w3.heap.size w3 w7) := nwT (nwT HBR.out HBS.out) HB7.out
    have HA7 : Hid (IntsAt w7 a5 (risN (placesW ds))) := HA6.out.below hb7
    have HW7 : Hid (IntsAt w7 a3 (risN (placesW ds))) := HWAS.out.below HBZ.out
    have HEQ : Hid (Calls Try.prog 8 #[.slice a5 (risN (placesW ds)).length c5, .slice a3 (risN (placesW ds)).length c3] w7 fun e w'' => e = .returned (.bool true) ∧ ∃ q, w'' = w7.drewN q) := eqNums_is a5 a3 _ _ c5 c3 true _ HA7.out HW7.out (by unfold maxLen; omega) (by simp)
    clear ho7 hb7 x1 HA6 HB6 HA7 HW7 HN2 HO2 HO3
    go_wp2_with (go_at_call 15; refine (errnum_any _ _).mono ?_; rintro e w' ⟨rfl, rfl⟩)
    rename World => w7
    refine HEQ.out.mono ?_
    rintro e w8 ⟨rfl, q, rfl⟩
    have HBY : Hid (Below w3.heap.size w3 (w7.drewN q)) := below_drewN HBZ.out q
    clear HEQ
    go_wp2_with fail
    go_roundw
    case rel => exact ⟨i + 1, by omega, by go_num, HBY⟩
    case measure => simp [intOf]; omega

end Go.Proofs.Ytbaphgdlbeaenaa
