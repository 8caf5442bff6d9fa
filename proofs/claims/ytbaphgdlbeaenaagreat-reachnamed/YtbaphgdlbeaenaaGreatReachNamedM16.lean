/- Laid together: Volsp, Namedlaw. -/
import Derived.Test.YtbaphgdlbeaenaaGreatReachNamedM15
/- Whether volumes may be, by the page. -/
namespace Go.Proofs.YtbaphgdlbeaenaaGreat
open Go.RowKit

theorem vol_any (v : Value) (d : VolD) (w : World) (hv : VolVal w v d) (hs : SmallV d) :
    Calls Tryz.prog 22 #[v] w fun e w' => SaysB e (VolOk d) ∧ Below w.heap.size w w' := by
  by_cases h : HeadR d
  · exact vol_rest v d w hv hs h
  · exact vol_head v d w hv h
/-- what the page asks of a volume by itself -/
def NearW (ds : List VolD) (next : Int) (k : Nat) : Prop := VolOk (ds.getD k VZ) ∧ 1 ≤ (ds.getD k VZ).id ∧ (ds.getD k VZ).id < next ∧ (0 < k → (ds.getD (k - 1) VZ).id < (ds.getD k VZ).id)
theorem near_each {ds : List VolD} {next : Int} {k : Nat} (h : ∀ j, j < k → EachW ds next j) : EachW ds next k ↔ (NearW ds next k ∧ RootW ds (ds.getD k VZ)) := by
  unfold EachW NearW lastV
  by_cases h0 : k = 0
  · subst h0
    simp only [if_pos]
    constructor
    · rintro ⟨a, ⟨b, c⟩, r⟩; exact ⟨⟨a, by omega, c, fun h => by omega⟩, r⟩
    · rintro ⟨⟨a, b, c, _⟩, r⟩; exact ⟨a, ⟨by omega, c⟩, r⟩
  · simp only [if_neg h0]
    have hp : ∀ j, j < k → 1 ≤ (ds.getD j VZ).id := by
      intro j
      induction j with
      | zero => intro hj; have := (h 0 hj).2.1.1; unfold lastV at this; rw [if_pos rfl] at this; omega
      | succ j ih =>
        intro hj
        have h1 := ih (by omega)
        have h2 := (h (j + 1) hj).2.1.1
        unfold lastV at h2
        rw [if_neg (by omega)] at h2
        simp only [Nat.add_sub_cancel] at h2
        omega
    have h1 := hp (k - 1) (by omega)
    constructor
    · rintro ⟨a, ⟨b, c⟩, r⟩; exact ⟨⟨a, by omega, c, fun _ => b⟩, r⟩
    · rintro ⟨⟨a, b, c, d⟩, r⟩; exact ⟨a, ⟨d (by omega), c⟩, r⟩

set_option maxRecDepth 100000 in
set_option maxHeartbeats 4000000 in
theorem rvols_any (a : Option Addr) (ds : List VolD) (ca : Nat) (next : Int) (w : World) (hv : VolsAt w a ds) (hs : SmallW ds) :
    Calls Tryz.prog 6 #[.slice a ds.length ca, .int .i64 next] w fun e w' => SaysB e (VolsOk ds next) ∧ Below w.heap.size w w' := by
  have HV : Hid (VolsAt w a ds) := hv
  have HS : Hid (SmallW ds) := hs
  have hl := hs.1
  clear hv hs
  obtain ⟨bt, hbt⟩ : ∃ bt, betB next 1 1073741824 = bt := ⟨_, rfl⟩
  have HBT : Hid (bt = true ↔ (1 ≤ next ∧ next ≤ 1073741824)) := by show _ ↔ _; rw [← hbt]; unfold betB; simp
  have HBC : Hid (Calls Tryz.prog 21 #[.int .i64 next, .int .i64 1, .int .i64 1073741824] w fun e w'' => e = .returned (.bool bt) ∧ w = w'') := (between_any next 1 1073741824 w).mono fun e w'' ⟨h1, h2⟩ => ⟨by rw [h1, hbt], h2.symm⟩
  clear hbt
  by_cases h1 : (4 : Int) < (ds.length : Int)
  case pos =>
    have HN : Hid (¬ VolsOk ds next) := fun h => by have := h.1.1; omega
    clear HBC
    go_enter Tryz.func6, Tryz.ntmps6
    go_wp2_with fail
    go_ret
    exact ⟨says_no HN.out, nwR w⟩
  case neg =>
  cases bt
  case false =>
    have HN : Hid (¬ VolsOk ds next) := fun h => by have := HBT.out.2 h.1.2; cases this
    go_enter Tryz.func6, Tryz.ntmps6
    go_wp2_with (first | (go_at_call 21; refine HBC.out.mono ?_; rintro e w' ⟨rfl, rfl⟩) | fail)
    go_ret
    exact ⟨says_no HN.out, nwR w⟩
  case true =>
  have HH : Hid (ds.length ≤ 4 ∧ 1 ≤ next ∧ next ≤ 1073741824) := ⟨by omega, HBT.out.1 rfl⟩
  go_enter Tryz.func6, Tryz.ntmps6
  go_wp2_with (first | (go_at_call 21; refine HBC.out.mono ?_; rintro e w' ⟨rfl, rfl⟩) | fail)
  clear HBC HBT
  go_loopw [5] (fun i wr => ∃ (k : Nat), k ≤ ds.length ∧ i = .int .i64 k ∧ Below w.heap.size w wr ∧ Hid (∀ j, j < k → EachW ds next j))
    (fun i _ => ds.length - (intOf i).toNat)
  case atStart => exact ⟨0, by omega, rfl, nwR w, fun j hj => by omega⟩
  case round =>
    obtain ⟨k, hk, rfl, hb, HE⟩ := hrel
    by_cases hlt : k < ds.length
    case neg =>
      have hlti : ¬ (k : Int) < (ds.length : Int) := by omega
      have HY : Hid (VolsOk ds next) := ⟨HH.out, fun j hj => HE.out j (by omega)⟩
      go_wp2_with fail
      go_ret
      exact ⟨⟨true, rfl, by simp; exact HY.out⟩, hb⟩
    case pos =>
    have hlti : (k : Int) < (ds.length : Int) := by omega
    have hk0 : (0 : Int) ≤ (k : Int) := by omega
    obtain ⟨b1, o1, rfl, hvi⟩ := HV.out.vol hlt
    obtain ⟨af, cf, ⟨c0, c1, c2, c3, c4⟩, hval⟩ := (hvi.below hb).val
    have HPV : Hid (0 < k → wr.cell? ⟨b1, o1 + (k - 1) * 5, none⟩ = some (.int .i64 (ds.getD (k - 1) VZ).id)) := fun h0 => by
      obtain ⟨b2, o2, e, hvi2⟩ := HV.out.vol (show k - 1 < ds.length by omega)
      injection e with e
      injection e with e1 e2
      subst e1; subst e2
      obtain ⟨_, _, ⟨p0, _⟩, _⟩ := (hvi2.below hb).val
      exact p0
    have HSM : Hid (SmallV (ds.getD k VZ)) := HS.out.2 _ (by simp [List.getD, hlt])
    have HEK : Hid (EachW ds next k ↔ (NearW ds next k ∧ RootW ds (ds.getD k VZ))) := near_each HE.out
    have HNK : Hid (NearW ds next k ↔ (VolOk (ds.getD k VZ) ∧ 1 ≤ (ds.getD k VZ).id ∧ (ds.getD k VZ).id < next ∧ (0 < k → (ds.getD (k - 1) VZ).id < (ds.getD k VZ).id))) := Iff.rfl
    have HRO : Hid (RootW ds (ds.getD k VZ) ↔ ((ds.getD k VZ).snap = true → ∃ j, atV ds (ds.getD k VZ).fr = some j ∧ (ds.getD j VZ).snap = false)) := Iff.rfl
    generalize ds.getD k VZ = d at c0 c1 c2 c3 c4 hval HSM HEK HNK HRO
    generalize (ds.getD (k - 1) VZ).id = pid at HPV HNK
    have HVA : Hid (VolVal wr (.agg #[.int .i64 d.id, .int .i64 d.fr, .bool d.snap, .slice af d.files.length cf, .int .i64 d.next]) d) := hval
    clear hval hvi
    obtain ⟨b3, hb3⟩ := bool_of (VolOk d)
    have HVC : Hid (∀ p : Kin wr, Calls Tryz.prog 22 #[.agg #[.int .i64 d.id, .int .i64 d.fr, .bool d.snap, .slice af d.files.length cf, .int .i64 d.next]] p.u fun e w' => e = .returned (.bool b3) ∧ Below p.u.heap.size p.u w') := fun p =>
      (vol_any _ d p.u (HVA.out.below p.h) HSM.out).mono fun e w' ⟨⟨b, h1, h2⟩, h3⟩ => ⟨by rw [h1, show b = b3 from by rw [Bool.eq_iff_iff, h2, hb3]], h3⟩
    obtain ⟨bad, hbad⟩ : ∃ b : Bool, b = (!b3 || decide (d.id < 1) || decide (next ≤ d.id) || (decide (0 < k) && decide (d.id ≤ pid))) := ⟨_, rfl⟩
    have HBAD : Hid (bad = (!b3 || decide (d.id < 1) || decide (next ≤ d.id) || (decide (0 < k) && decide (d.id ≤ pid)))) := hbad
    have HEB : Hid (bad = false ↔ NearW ds next k) := by
      show _ ↔ _
      rw [HNK.out, ← hb3, hbad]
      cases b3
      · simp
      · simp only [Bool.not_true, Bool.false_or, Bool.or_eq_false_iff, Bool.and_eq_false_iff, decide_eq_false_iff_not, true_and]
        constructor
        · rintro ⟨⟨x, y⟩, z⟩; exact ⟨by omega, by omega, fun h => by rcases z with z | z <;> omega⟩
        · rintro ⟨x, y, z⟩
          refine ⟨⟨by omega, by omega⟩, ?_⟩
          by_cases h0 : 0 < k
          · right; have := z h0; omega
          · left; exact h0
    clear hbad hb3
    go_upto_region 6 with fail
    go_cut [61] from 15 to 82 (fun s61 wx => s61 = .bool bad ∧ Below wr.heap.size wr wx)
    case first =>
      have z0 : ∀ p : Kin wr, p.u.cell? ⟨b1, o1 + k * 5, none⟩ = some (.int .i64 d.id) := fun p => kcell c0 p
      have z1 : ∀ p : Kin wr, p.u.cell? ⟨b1, o1 + k * 5 + 1, none⟩ = some (.int .i64 d.fr) := fun p => kcell c1 p
      have z2 : ∀ p : Kin wr, p.u.cell? ⟨b1, o1 + k * 5 + 2, none⟩ = some (.bool d.snap) := fun p => kcell c2 p
      have z3 : ∀ p : Kin wr, p.u.cell? ⟨b1, o1 + k * 5 + 3, none⟩ = some (.slice af d.files.length cf) := fun p => kcell c3 p
      have z4 : ∀ p : Kin wr, p.u.cell? ⟨b1, o1 + k * 5 + 4, none⟩ = some (.int .i64 d.next) := fun p => kcell c4 p
      clear c0 c1 c2 c3 c4
      cases b3
      · have HBD : Hid (bad = true) := by show _ = _; rw [HBAD.out]; rfl
        refine wp_region_kin (by kernel_rfl) (by kernel_rfl) ?_
        repeat (first | go_big_quiet_step (first | (go_at_call 22; exact Calls.kin_of (HVC.out _)) | fail) | quiet_step (first | (go_at_call 22; exact Calls.kin_of (HVC.out _)) | fail))
        refine wpQuiet_nil ?_
        intro _ hw'
        obtain ⟨pq, hw''⟩ := hw'
        subst hw''
        go_wp2_with fail
        go_meet
        exact ⟨by rw [HBD.out], pq.h⟩
      · by_cases ha : d.id < 1
        · have ha1 : decide (d.id < 1) = true := decide_eq_true ha
          have HBD : Hid (bad = true) := by show _ = _; rw [HBAD.out, ha1]; rfl
          refine wp_region_kin (by kernel_rfl) (by kernel_rfl) ?_
          repeat (first | go_big_quiet_step (first | (go_at_call 22; exact Calls.kin_of (HVC.out _)) | fail) | quiet_step (first | (go_at_call 22; exact Calls.kin_of (HVC.out _)) | fail))
          refine wpQuiet_nil ?_
          intro _ hw'
          obtain ⟨pq, hw''⟩ := hw'
          subst hw''
          go_wp2_with fail
          go_meet
          exact ⟨by rw [HBD.out], pq.h⟩
        · have ha1 : decide (d.id < 1) = false := decide_eq_false ha
          by_cases hc : next ≤ d.id
          · have hc1 : decide (next ≤ d.id) = true := decide_eq_true hc
            have HBD : Hid (bad = true) := by show _ = _; rw [HBAD.out, ha1, hc1]; rfl
            refine wp_region_kin (by kernel_rfl) (by kernel_rfl) ?_
            repeat (first | go_big_quiet_step (first | (go_at_call 22; exact Calls.kin_of (HVC.out _)) | fail) | quiet_step (first | (go_at_call 22; exact Calls.kin_of (HVC.out _)) | fail))
            refine wpQuiet_nil ?_
            intro _ hw'
            obtain ⟨pq, hw''⟩ := hw'
            subst hw''
            go_wp2_with fail
            go_meet
            exact ⟨by rw [HBD.out], pq.h⟩
          · have hc1 : decide (next ≤ d.id) = false := decide_eq_false hc
            have HBA2 : Hid (bad = (decide (0 < k) && decide (d.id ≤ pid))) := by show _ = _; rw [HBAD.out, ha1, hc1]; rfl
            by_cases h0 : 0 < k
            · have hk1 : decide (0 < k) = true := decide_eq_true h0
              have hk1i : decide ((0 : Int) < (k : Int)) = true := decide_eq_true (by omega)
              have p0 := HPV.out h0
              have z5 : ∀ p : Kin wr, p.u.cell? ⟨b1, o1 + (k - 1) * 5, none⟩ = some (.int .i64 pid) := fun p => kcell p0 p
              have e1 : IntKind.i64.wrap ((k : Int) - 1) = ((k - 1 : Nat) : Int) := by rw [wrap_any (by omega) (by omega)]; omega
              have e2 : ((k - 1 : Nat) : Int) < (ds.length : Int) := by omega
              have e3 : (0 : Int) ≤ ((k - 1 : Nat) : Int) := by omega
              clear p0
              generalize k - 1 = m at z5 e1 e2 e3
              by_cases hp : d.id ≤ pid
              · have hp1 : decide (d.id ≤ pid) = true := decide_eq_true hp
                have HBD : Hid (bad = true) := by show _ = _; rw [HBA2.out, hk1, hp1]; rfl
                refine wp_region_kin (by kernel_rfl) (by kernel_rfl) ?_
                repeat (first | go_big_quiet_step (first | (go_at_call 22; exact Calls.kin_of (HVC.out _)) | fail) | quiet_step (first | (go_at_call 22; exact Calls.kin_of (HVC.out _)) | fail))
                refine wpQuiet_nil ?_
                intro _ hw'
                obtain ⟨pq, hw''⟩ := hw'
                subst hw''
                go_wp2_with fail
                go_meet
                exact ⟨by rw [HBD.out], pq.h⟩
              · have hp1 : decide (d.id ≤ pid) = false := decide_eq_false hp
                have HBD : Hid (bad = false) := by show _ = _; rw [HBA2.out, hk1, hp1]; rfl
                refine wp_region_kin (by kernel_rfl) (by kernel_rfl) ?_
                repeat (first | go_big_quiet_step (first | (go_at_call 22; exact Calls.kin_of (HVC.out _)) | fail) | quiet_step (first | (go_at_call 22; exact Calls.kin_of (HVC.out _)) | fail))
                refine wpQuiet_nil ?_
                intro _ hw'
                obtain ⟨pq, hw''⟩ := hw'
                subst hw''
                go_wp2_with fail
                go_meet
                exact ⟨by rw [HBD.out], pq.h⟩
            · have hk1 : decide (0 < k) = false := decide_eq_false h0
              have hk1i : decide ((0 : Int) < (k : Int)) = false := decide_eq_false (by omega)
              have HBD : Hid (bad = false) := by show _ = _; rw [HBA2.out, hk1]; rfl
              refine wp_region_kin (by kernel_rfl) (by kernel_rfl) ?_
              repeat (first | go_big_quiet_step (first | (go_at_call 22; exact Calls.kin_of (HVC.out _)) | fail) | quiet_step (first | (go_at_call 22; exact Calls.kin_of (HVC.out _)) | fail))
              refine wpQuiet_nil ?_
              intro _ hw'
              obtain ⟨pq, hw''⟩ := hw'
              subst hw''
              go_wp2_with fail
              go_meet
              exact ⟨by rw [HBD.out], pq.h⟩
    case rest =>
    obtain ⟨rfl, hbc⟩ := hcut
    rename World => wc
    have hbW := nwT hb hbc
    have HVC2 : Hid (VolsAt wc (some ⟨b1, o1, none⟩) ds) := HV.out.below hbW
    have d2 := (hbc.cell (p := ⟨b1, o1 + k * 5 + 2, none⟩) (block_lt_of_cell c2)).trans c2
    have d1 := (hbc.cell (p := ⟨b1, o1 + k * 5 + 1, none⟩) (block_lt_of_cell c1)).trans c1
    clear c0 c1 c2 c3 c4 hbc HVC HPV
    cases bad
    case true =>
      have HN : Hid (¬ VolsOk ds next) := fun h => by have := HEB.out.2 (HEK.out.1 (h.2 k hlt)).1; cases this
      go_wp2_with fail
      go_ret
      exact ⟨says_no HN.out, hbW⟩
    case false =>
    have HNE : Hid (RootW ds d → EachW ds next k) := fun h => HEK.out.2 ⟨HEB.out.1 rfl, h⟩
    have HNO : Hid (¬ RootW ds d → ¬ VolsOk ds next) := fun hn h => hn (HEK.out.1 (h.2 k hlt)).2
    have HNX : Hid (EachW ds next k → ∀ j, j < k + 1 → EachW ds next j) := fun h j hj => by
      by_cases e : j = k
      · subst e; exact h
      · exact HE.out j (by omega)
    clear HEB HEK HNK HBAD
    cases hsn : d.snap
    case false =>
      have HY : Hid (∀ j, j < k + 1 → EachW ds next j) := HNX.out (HNE.out (fun h => by rw [hsn] at h; cases h))
      rw [hsn] at d2
      clear hsn
      go_wp2_with fail
      go_roundw
      case rel => exact ⟨k + 1, by omega, by go_num, hbW, HY⟩
      case measure => simp [intOf]; omega
    case true =>
    have HR2 : Hid (RootW ds d ↔ ∃ j, atV ds d.fr = some j ∧ (ds.getD j VZ).snap = false) := by show _ ↔ _; rw [HRO.out, hsn]; simp
    rw [hsn] at d2
    clear hsn HRO
    have HAT : Hid (Calls Tryz.prog 15 #[.slice (some ⟨b1, o1, none⟩) ds.length ca, .int .i64 d.fr] wc fun e w' => e = .returned (.int .i64 (optI (atV ds d.fr))) ∧ wc = w') := (atv_any _ ds ca d.fr wc HVC2.out hl).mono fun _ _ h => ⟨h.1, h.2.symm⟩
    go_wp2_with fail
    refine HAT.out.mono ?_
    rintro e w' ⟨rfl, rfl⟩
    clear HAT
    cases hat : atV ds d.fr with
    | none =>
      have HN : Hid (¬ VolsOk ds next) := HNO.out (fun h => by obtain ⟨j, h1, _⟩ := HR2.out.1 h; rw [hat] at h1; cases h1)
      simp only [optI]
      clear hat
      go_wp2_with fail
      go_ret
      exact ⟨says_no HN.out, hbW⟩
    | some j =>
      have hjl := atV_lt hat
      obtain ⟨b2, o2, e, _, _, ⟨_, _, q2, _, _⟩, _⟩ := HVC2.out.vol hjl
      injection e with e
      injection e with e1 e2
      subst e1; subst e2
      simp only [optI]
      have hj0 : ¬ (j : Int) < 0 := by omega
      have hj1 : (0 : Int) ≤ (j : Int) := by omega
      have hj2 : (j : Int) < (ds.length : Int) := by omega
      have HRJ : Hid (RootW ds d ↔ (ds.getD j VZ).snap = false) := by
        show _ ↔ _
        rw [HR2.out]
        constructor
        · rintro ⟨i, h1, h2⟩; rw [hat] at h1; injection h1 with h1; subst h1; exact h2
        · intro h; exact ⟨j, hat, h⟩
      generalize (ds.getD j VZ).snap = s at q2 HRJ
      clear hat HR2
      cases s
      · have HY : Hid (∀ j, j < k + 1 → EachW ds next j) := HNX.out (HNE.out (HRJ.out.2 rfl))
        go_wp2_with fail
        go_roundw
        case rel => exact ⟨k + 1, by omega, by go_num, hbW, HY⟩
        case measure => simp [intOf]; omega
      · have HN : Hid (¬ VolsOk ds next) := HNO.out (fun h => by have := HRJ.out.1 h; cases this)
        go_wp2_with fail
        go_ret
        exact ⟨says_no HN.out, hbW⟩

end Go.Proofs.YtbaphgdlbeaenaaGreat

/- The law ReachNamed walked. -/
namespace Go.Proofs.YtbaphgdlbeaenaaGreat
open Go.RowKit

theorem eqVols_is (a b : Option Addr) (ds : List VolD) (ca cb : Nat) (w : World) (hx : VolsAt w a ds) (hy : VolsAt w b ds) (hs : SmallW ds) :
    Calls Tryz.prog 13 #[.slice a ds.length ca, .slice b ds.length cb] w fun e w' => e = .returned (.bool true) ∧ Below w.heap.size w w' :=
  (eqVols_any a b ds ds ca cb w hx hy hs).mono fun _ _ h => ⟨by rw [h.1]; simp, h.2⟩
theorem eqSame_is (a b : Option Addr) (xs : List Int) (ca cb : Nat) (w : World) (hx : IntsAt w a xs) (hy : IntsAt w b xs) (hl : xs.length ≤ 1000000) :
    Calls Tryz.prog 12 #[.slice a xs.length ca, .slice b xs.length cb] w fun e w' => e = .returned (.bool true) ∧ ∃ q, w' = w.drewN q :=
  eqNums_is a b xs xs ca cb true w hx hy (by unfold maxLen; omega) (by simp)
theorem countsN_len (ds : List VolD) : (countsN ds).length ≤ (placesW ds).length := by unfold countsN; rw [cntN_len]; exact risN_len _
theorem onlyN_len (ds : List VolD) (id : Int) (k : Nat) : (onlyN ds id k).length ≤ (placesW [ds.getD k VZ]).length := goneN_len _ _

set_option maxRecDepth 100000 in
set_option maxHeartbeats 16000000 in
theorem named_walk : LawOk 3 := by
  intro v ds next l rs w hv hd hl hr
  have HVA : Hid (AskVal w v ds next l rs) := hv
  obtain ⟨av, ca, aL, cL, ar, cr, rfl, hV, _, _, _⟩ := id hv
  have HHV : Hid (∀ w', Below w.heap.size w w' → Calls Tryz.prog 4 #[.agg #[.slice av ds.length ca, .int .i64 next, .slice aL l.length cL, .slice ar rs.length cr]] w' (HvPostR ds l rs w')) := fun w' hb => by
    obtain ⟨av', ca', aL', cL', ar', cr', e, h1, h2, h3, h4⟩ := HVA.out
    exact heavyr_any _ ds next l rs w' ⟨av', ca', aL', cL', ar', cr', e, ⟨h1.1.below hb, h1.2⟩, ⟨h2.1.below hb, h2.2⟩, h3.below hb, h4⟩ hd hl hr
  have HV : Hid (VolsAt w av ds) := hV.1
  have HB0 : Hid (Below w.heap.size w (w.alloc (.cells #[.slice av ds.length ca, .int .i64 next, .slice aL l.length cL, .slice ar rs.length cr] 28))) := nwA (nwR w) _
  have HX0 : Hid ((w.alloc (.cells #[.slice av ds.length ca, .int .i64 next, .slice aL l.length cL, .slice ar rs.length cr] 28)).heap[w.heap.size]? = some (.cells #[.slice av ds.length ca, .int .i64 next, .slice aL l.length cL, .slice ar rs.length cr] 28 (0, 0))) := heap_alloc_new w _
  have HWK : Hid (∀ w', Calls Tryz.prog 18 #[] w' fun e w'' => e = .returned (.bool true) ∧ Below w'.heap.size w' w'') := wakes_any
  clear hv hd hl hr hV HVA
  obtain ⟨x0, x1, x2, x3⟩ := quad HX0.out
  go_enter Tryz.func3, Tryz.ntmps3
  go_wp2_with fail
  generalize w.alloc (.cells #[.slice av ds.length ca, .int .i64 next, .slice aL l.length cL, .slice ar rs.length cr] 28) = WB at HB0 HX0 x0 x1 x2 x3 ⊢
  refine (HHV.out WB HB0.out).mono ?_
  rintro e w1 ⟨q, rfl, hb1, h1⟩
  have HB1 : Hid (Below w.heap.size w w1) := nwT HB0.out hb1
  have HX1 : Hid (w1.heap[w.heap.size]? = some (.cells #[.slice av ds.length ca, .int .i64 next, .slice aL l.length cL, .slice ar rs.length cr] 28 (0, 0))) := (hb1.block _ (Array.getElem?_eq_some_iff.1 HX0.out).1).trans HX0.out
  clear x0 x1 x2 x3 hb1 HHV HX0 HB0
  cases q
  case true =>
    clear h1
    go_wp2_with fail
    go_ret
    exact ⟨rfl, HB1.out⟩
  case false =>
  obtain ⟨hsw, _, _⟩ := h1 rfl
  have HSW : Hid (SmallW ds) := hsw
  have HV1 : Hid (VolsAt w1 av ds) := HV.out.below HB1.out
  have HXX : Hid (∀ w', Below w1.heap.size w1 w' → w'.cell? ⟨w.heap.size, 0, none⟩ = some (.slice av ds.length ca) ∧ w'.cell? ⟨w.heap.size, 1, none⟩ = some (.int .i64 next)) := fun w' h => by
    have h := quad ((h.block _ (Array.getElem?_eq_some_iff.1 HX1.out).1).trans HX1.out)
    exact ⟨h.1, h.2.1⟩
  have HCV : Hid (Calls Tryz.prog 5 #[.slice av ds.length ca] w1 fun e w' => (∃ v, e = .returned v ∧ OwnVols w' w1.heap.size v ds) ∧ Below w1.heap.size w1 w') := copyVols_any av ds ca w1 HV1.out hsw
  clear h1 hsw HX1
  obtain ⟨x0, x1⟩ := HXX.out w1 (nwR w1)
  go_wp2_with fail
  refine HCV.out.mono ?_
  rintro e w2 ⟨⟨u3, rfl, ho3⟩, hb2⟩
  obtain ⟨a3, c3, rfl, ha3, _⟩ := ho3.at
  have HB2 : Hid (Below w1.heap.size w1 w2) := hb2
  have HIN : Hid (VolsAt w2 a3 ds) := ha3
  have HVS : Hid (Calls Tryz.prog 6 #[.slice av ds.length ca, .int .i64 next] w2 fun e w' => SaysB e (VolsOk ds next) ∧ Below w2.heap.size w2 w') := rvols_any av ds ca next w2 (HV1.out.below hb2) HSW.out
  clear x0 x1 ho3 ha3 hb2 HCV
  obtain ⟨x0, x1⟩ := HXX.out w2 HB2.out
  go_wp2_with fail
  refine HVS.out.mono ?_
  rintro e w3 ⟨⟨b, rfl, hb⟩, hb3⟩
  have HB23 : Hid (Below w2.heap.size w2 w3) := hb3
  have HNA : Hid (Calls Tryz.prog 7 #[.slice a3 ds.length c3, .int .i64 next] w3 fun e w' => TellR (VolsOk ds next) (risN (placesW ds)) w3.heap.size e w' ∧ Below w3.heap.size w3 w') := named_any a3 ds c3 next w3 (HIN.out.below hb3) HSW.out
  have HB : Hid (b = true ↔ VolsOk ds next) := hb
  clear x0 x1 hb3 hb HVS
  obtain ⟨x0, x1⟩ := HXX.out w3 (nwT HB2.out HB23.out)
  go_wp2_with fail
  refine HNA.out.mono ?_
  rintro e w4 ⟨⟨u5, er5, ys5, rfl, ho5, hr5⟩, hb4⟩
  obtain ⟨a5, c5, rfl, ha5, _⟩ := ho5.at
  have HB24 : Hid (Below w2.heap.size w2 w4) := nwT HB23.out hb4
  have HR5 : Hid ((VolsOk ds next ∧ er5 = 0 ∧ ys5 = risN (placesW ds)) ∨ (¬ VolsOk ds next ∧ er5 = 1 ∧ ys5 = [])) := hr5
  have HA5 : Hid (IntsAt w4 a5 ys5) := ha5
  have HCO : Hid (Calls Tryz.prog 8 #[.slice a3 ds.length c3, .int .i64 next] w4 fun e w' => TellR (VolsOk ds next) (countsN ds) w4.heap.size e w' ∧ Below w4.heap.size w4 w') := counts_any a3 ds c3 next w4 (HIN.out.below (nwT HB23.out hb4)) HSW.out
  clear x0 x1 ho5 ha5 hr5 hb4 HNA
  obtain ⟨x0, x1⟩ := HXX.out w4 (nwT HB2.out HB24.out)
  go_wp2_with fail
  refine HCO.out.mono ?_
  rintro e w5 ⟨⟨u7, er7, ys7, rfl, ho7, hr7⟩, hb5⟩
  obtain ⟨a7, c7, rfl, ha7, _⟩ := ho7.at
  have HB25 : Hid (Below w2.heap.size w2 w5) := nwT HB24.out hb5
  have HR7 : Hid ((VolsOk ds next ∧ er7 = 0 ∧ ys7 = countsN ds) ∨ (¬ VolsOk ds next ∧ er7 = 1 ∧ ys7 = [])) := hr7
  have HA7 : Hid (IntsAt w5 a7 ys7) := ha7
  have HA57 : Hid (IntsAt w5 a5 ys5) := HA5.out.below hb5
  clear x0 x1 ho7 ha7 hr7 hb5 HCO HA5
  obtain ⟨x0, x1⟩ := HXX.out w5 (nwT HB2.out HB25.out)
  cases b
  case false =>
    have HOKn : Hid (¬ VolsOk ds next) := fun h => by simpa using HB.out.2 h
    obtain ⟨rfl, rfl⟩ : er5 = 1 ∧ ys5 = [] := by
      rcases HR5.out with ⟨h, _⟩ | ⟨_, h⟩
      · exact absurd h HOKn.out
      · exact h
    obtain ⟨rfl, rfl⟩ : er7 = 1 ∧ ys7 = [] := by
      rcases HR7.out with ⟨h, _⟩ | ⟨_, h⟩
      · exact absurd h HOKn.out
      · exact h
    have HW25 : Hid (Below w1.heap.size w1 w5) := nwT HB2.out HB25.out
    have HBWW : Hid (Below w.heap.size w w5) := nwT HB1.out HW25.out
    have HXY : Hid (∀ w', Below w5.heap.size w5 w' → w'.cell? ⟨w.heap.size, 0, none⟩ = some (.slice av ds.length ca) ∧ w'.cell? ⟨w.heap.size, 1, none⟩ = some (.int .i64 next)) := fun w' h => HXX.out _ (nwT HW25.out h)
    have HEV : Hid (∀ w', Below w5.heap.size w5 w' → Calls Tryz.prog 13 #[.slice a3 ds.length c3, .slice av ds.length ca] w' fun e w'' => e = .returned (.bool true) ∧ Below w'.heap.size w' w'') := fun w' h => eqVols_is a3 av ds c3 ca w' (HIN.out.below (nwT HB25.out h)) (HV1.out.below (nwT HW25.out h)) HSW.out
    have HE1 : Hid (∀ w', Below w5.heap.size w5 w' → Calls Tryz.prog 12 #[.slice a5 0 c5, .slice none 0 0] w' fun e w'' => e = .returned (.bool true) ∧ ∃ n, w'' = w'.drewN n) := fun w' h => eqSame_is a5 none [] c5 0 w' (.inl rfl) (.inl rfl) (by simp)
    have HE2 : Hid (∀ w', Below w5.heap.size w5 w' → Calls Tryz.prog 12 #[.slice a7 0 c7, .slice none 0 0] w' fun e w'' => e = .returned (.bool true) ∧ ∃ n, w'' = w'.drewN n) := fun w' h => eqSame_is a7 none [] c7 0 w' (.inl rfl) (.inl rfl) (by simp)
    have HON : Hid (∀ z w', Below w5.heap.size w5 w' → Calls Tryz.prog 14 #[.slice a3 ds.length c3, .int .i64 next, .int .i64 z] w' fun e w'' => (∃ u, e = .returned (.tuple #[u, .int .i64 1]) ∧ OwnInts w'' w'.heap.size u []) ∧ Below w'.heap.size w' w'') := fun z w' hb => by
      refine (only_any a3 ds c3 next z w' (HIN.out.below (nwT HB25.out hb)) HSW.out).mono ?_
      rintro e w' ⟨⟨u, er, ys, rfl, h1, ⟨_, rfl, rfl⟩ | ⟨h, _⟩ | ⟨j, h, _⟩⟩, hb⟩
      · exact ⟨⟨u, rfl, h1⟩, hb⟩
      · exact absurd h HOKn.out
      · exact absurd h HOKn.out
    clear HR5 HR7 HA7 HA57 HB HXX HB23 HB24
    go_wp2_with (go_at_call 11; refine (errnum_any _ _).mono ?_; rintro e w' ⟨rfl, rfl⟩)
    rename World => w5
    refine (HE1.out w5 (nwR w5)).mono ?_
    rintro e wq ⟨rfl, q1, rfl⟩
    have HQ1 : Hid (Below w5.heap.size w5 (w5.drewN q1)) := below_drewN (nwR w5) q1
    generalize w5.drewN q1 = wq at HQ1 ⊢
    go_wp2_with fail
    refine (HE2.out wq HQ1.out).mono ?_
    rintro e wr ⟨rfl, q2, rfl⟩
    have HQ2 : Hid (Below w5.heap.size w5 (wq.drewN q2)) := below_drewN HQ1.out q2
    generalize wq.drewN q2 = ws at HQ2 ⊢
    clear HQ1
    have xx0 := (HXY.out ws HQ2.out).1
    go_wp2_with fail
    refine (HEV.out ws HQ2.out).mono ?_
    rintro e wt ⟨rfl, hbt⟩
    have HQ3 : Hid (Below w5.heap.size w5 wt) := nwT HQ2.out hbt
    clear xx0 hbt HQ2 x0 x1
    go_wp2_with fail
    go_loopw [12] (fun s12 wr => ∃ z : Int, -1 ≤ z ∧ z ≤ 9 ∧ s12 = .int .i64 z ∧ Hid (Below w5.heap.size w5 wr))
      (fun s12 _ => (9 - intOf s12).toNat)
    case atStart => exact ⟨-1, by omega, by omega, rfl, HQ3⟩
    case round =>
      obtain ⟨z, hz0, hz1', rfl, HBL⟩ := hrel
      obtain ⟨x0, x1⟩ := HXY.out wr HBL.out
      by_cases hz9 : z < 9
      case neg =>
        have HBW : Hid (Below w.heap.size w wr) := nwT HBWW.out HBL.out
        go_wp2_with fail
        refine (HEV.out wr HBL.out).mono ?_
        rintro e wE ⟨rfl, hbE⟩
        have HBE : Hid (Below w.heap.size w wE) := nwT HBW.out hbE
        clear hbE
        go_wp2_with fail
        refine (HWK.out wE).mono ?_
        rintro e wF ⟨rfl, hbF⟩
        have HBF : Hid (Below w.heap.size w wF) := nwT HBE.out hbF
        clear hbF
        go_wp2_with fail
        go_ret
        exact ⟨rfl, HBF.out⟩
      case pos =>
      go_wp2_with fail
      refine (HON.out z wr HBL.out).mono ?_
      rintro e w7 ⟨⟨u13, rfl, ho13⟩, hb7⟩
      obtain ⟨a13, c13, rfl, _⟩ := ho13.at
      have HO13 : Hid (OwnInts w7 wr.heap.size (.slice a13 0 c13) []) := ho13
      have HB7 : Hid (Below wr.heap.size wr w7) := hb7
      clear ho13 hb7 x0 x1
      go_wp2_with (go_at_call 11; refine (errnum_any _ _).mono ?_; rintro e w' ⟨rfl, rfl⟩)
      rename World => wm
      refine (eqSame_is a13 none [] c13 0 wm (.inl rfl) (.inl rfl) (by simp)).mono ?_
      rintro e wq ⟨rfl, q3, rfl⟩
      have HO9 : Hid (OwnInts (wm.drewN q3) wr.heap.size (.slice a13 0 c13) []) := own_below HO13.out (below_drewN (nwR wm) q3)
      have HB9 : Hid (Below wr.heap.size wr (wm.drewN q3)) := below_drewN HB7.out q3
      generalize wm.drewN q3 = w9 at HO9 HB9 ⊢
      have HSP : Hid (Calls Tryz.prog 17 #[.slice a13 0 c13] w9 fun e w' => e = .returned (.tuple #[]) ∧ Wk 3 wr.heap.size w9.heap.size w9 w') := nums_spoil a13 0 c13 wr.heap.size w9.heap.size w9 (RowX.of_own HO9.out) (by omega)
      clear HO13 HB7 HO9
      go_wp2_with fail
      refine HSP.out.mono ?_
      rintro e wX ⟨rfl, hwk⟩
      have HBX : Hid (Below w5.heap.size w5 wX) := nwT HBL.out (HB9.out.trans hwk.below)
      clear hwk HSP
      go_wp2_with fail
      go_roundw
      case rel => exact ⟨z + 1, by omega, by omega, by go_num, HBX⟩
      case measure => simp [intOf]; omega
  case true =>
    have HOK : Hid (VolsOk ds next) := HB.out.1 rfl
    obtain ⟨rfl, rfl⟩ : er5 = 0 ∧ ys5 = risN (placesW ds) := by
      rcases HR5.out with ⟨_, h⟩ | ⟨h, _⟩
      · exact h
      · exact absurd HOK.out h
    obtain ⟨rfl, rfl⟩ : er7 = 0 ∧ ys7 = countsN ds := by
      rcases HR7.out with ⟨_, h⟩ | ⟨h, _⟩
      · exact h
      · exact absurd HOK.out h
    have HFW : Hid (FewW ds) := HOK.out.few
    have hsl : (risN (placesW ds)).length ≤ 10000 := Nat.le_trans (risN_len _) HFW.out.all
    have hcl : (countsN ds).length ≤ 10000 := Nat.le_trans (countsN_len _) HFW.out.all
    have hdl : ds.length ≤ 100000 := HFW.out.vols
    have HW25 : Hid (Below w1.heap.size w1 w5) := nwT HB2.out HB25.out
    have HNP : Hid (∀ w', Below w5.heap.size w5 w' → Calls Tryz.prog 9 #[.slice av ds.length ca] w' fun e w'' => (∃ u, e = .returned u ∧ OwnInts w'' w'.heap.size u (risN (placesW ds))) ∧ Below w'.heap.size w' w'') := fun w' h => namedP_any av ds ca w' (HV1.out.below (nwT HW25.out h)) HFW.out
    have HCP : Hid (∀ w', Below w5.heap.size w5 w' → Calls Tryz.prog 10 #[.slice av ds.length ca] w' fun e w'' => (∃ u, e = .returned u ∧ OwnInts w'' w'.heap.size u (countsN ds)) ∧ Below w'.heap.size w' w'') := fun w' h => countsP_any av ds ca w' (HV1.out.below (nwT HW25.out h)) HFW.out
    have q0 : ∀ w', Below w5.heap.size w5 w' → w'.cell? ⟨w.heap.size, 0, none⟩ = some (.slice av ds.length ca) := fun w' h => (HXX.out _ (nwT HW25.out h)).1
    have hS : Below w5.heap.size w5 w5 := nwR w5
    clear HR5 HR7 HB HB23 HB24
    go_wp2_with fail
    go_region_held3 (fun w' => Below w5.heap.size w5 w') (first | assumption | exact nwT (Below.drew hS) hb10 | exact nwT (nwT (Below.drew hS) hb10) hb11 | exact Below.drew (by assumption) | exact nwT (by assumption) (by assumption)) (first
      | (go_at_call 9; refine (HNP.out _ (by assumption)).mono ?_; rintro e wP ⟨⟨u10, rfl, ho10⟩, hb10⟩)
      | (go_at_call 10; refine (HCP.out _ (nwT (Below.drew hS) hb10)).mono ?_; rintro e wR ⟨⟨u11, rfl, ho11⟩, hb11⟩)
      | fail)
    have HB5R : Hid (Below w5.heap.size w5 wR) := nwT (nwT (Below.drew hS) hb10) hb11
    obtain ⟨a10, c10, rfl, ha10, _⟩ := OwnInts.at ho10
    obtain ⟨a11, c11, rfl, ha11, _⟩ := OwnInts.at ho11
    have HA10 : Hid (IntsAt wR a10 (risN (placesW ds))) := IntsAt.below ha10 hb11
    have HA11 : Hid (IntsAt wR a11 (countsN ds)) := ha11
    have HA5R : Hid (IntsAt wR a5 (risN (placesW ds))) := HA57.out.below HB5R.out
    have HA7R : Hid (IntsAt wR a7 (countsN ds)) := HA7.out.below HB5R.out
    have HB2R : Hid (Below w2.heap.size w2 wR) := nwT HB25.out HB5R.out
    have HW2R : Hid (Below w1.heap.size w1 wR) := nwT HB2.out HB2R.out
    have HBWW : Hid (Below w.heap.size w wR) := nwT HB1.out HW2R.out
    have HXY : Hid (∀ w', Below wR.heap.size wR w' → w'.cell? ⟨w.heap.size, 0, none⟩ = some (.slice av ds.length ca) ∧ w'.cell? ⟨w.heap.size, 1, none⟩ = some (.int .i64 next)) := fun w' h => HXX.out _ (nwT HW2R.out h)
    have HEV : Hid (∀ w', Below wR.heap.size wR w' → Calls Tryz.prog 13 #[.slice a3 ds.length c3, .slice av ds.length ca] w' fun e w'' => e = .returned (.bool true) ∧ Below w'.heap.size w' w'') := fun w' h => eqVols_is a3 av ds c3 ca w' (HIN.out.below (nwT HB2R.out h)) (HV1.out.below (nwT HW2R.out h)) HSW.out
    have HE1 : Hid (∀ w', Below wR.heap.size wR w' → Calls Tryz.prog 12 #[.slice a5 (risN (placesW ds)).length c5, .slice a10 (risN (placesW ds)).length c10] w' fun e w'' => e = .returned (.bool true) ∧ ∃ n, w'' = w'.drewN n) := fun w' h => eqSame_is a5 a10 _ c5 c10 w' (HA5R.out.below h) (HA10.out.below h) (by omega)
    have HE2 : Hid (∀ w', Below wR.heap.size wR w' → Calls Tryz.prog 12 #[.slice a7 (countsN ds).length c7, .slice a11 (countsN ds).length c11] w' fun e w'' => e = .returned (.bool true) ∧ ∃ n, w'' = w'.drewN n) := fun w' h => eqSame_is a7 a11 _ c7 c11 w' (HA7R.out.below h) (HA11.out.below h) (by omega)
    have HVR : Hid (VolsAt wR av ds) := HV1.out.below HW2R.out
    have HON : Hid (∀ z w', Below wR.heap.size wR w' → Calls Tryz.prog 14 #[.slice a3 ds.length c3, .int .i64 next, .int .i64 z] w' fun e w'' => OnlyPost ds next z w'.heap.size e w'' ∧ Below w'.heap.size w' w'') := fun z w' hb => only_any a3 ds c3 next z w' (HIN.out.below (nwT HB2R.out hb)) HSW.out
    clear HA57 HA7 HA10 HA11 HA5R HA7R HXX HNP HCP q0 hS ho10 ho11 hb10 hb11 ha10 ha11 x0
    go_wp2_with (go_at_call 11; refine (errnum_any _ _).mono ?_; rintro e w' ⟨rfl, rfl⟩)
    rename World => wR
    refine (HE1.out wR (nwR wR)).mono ?_
    rintro e wq ⟨rfl, q1, rfl⟩
    have HQ1 : Hid (Below wR.heap.size wR (wR.drewN q1)) := below_drewN (nwR wR) q1
    generalize wR.drewN q1 = wq at HQ1 ⊢
    go_wp2_with fail
    refine (HE2.out wq HQ1.out).mono ?_
    rintro e wr ⟨rfl, q2, rfl⟩
    have HQ2 : Hid (Below wR.heap.size wR (wq.drewN q2)) := below_drewN HQ1.out q2
    generalize wq.drewN q2 = ws at HQ2 ⊢
    clear HQ1
    have xx0 := (HXY.out ws HQ2.out).1
    go_wp2_with fail
    refine (HEV.out ws HQ2.out).mono ?_
    rintro e wt ⟨rfl, hbt⟩
    have HQ3 : Hid (Below wR.heap.size wR wt) := nwT HQ2.out hbt
    clear xx0 hbt HQ2
    go_wp2_with fail
    go_loopw [12] (fun s12 wr => ∃ z : Int, -1 ≤ z ∧ z ≤ 9 ∧ s12 = .int .i64 z ∧ Hid (Below wR.heap.size wR wr))
      (fun s12 _ => (9 - intOf s12).toNat)
    case atStart => exact ⟨-1, by omega, by omega, rfl, HQ3⟩
    case round =>
      obtain ⟨z, hz0, hz1', rfl, HBL⟩ := hrel
      obtain ⟨x0, x1⟩ := HXY.out wr HBL.out
      by_cases hz9 : z < 9
      case neg =>
        have HBW : Hid (Below w.heap.size w wr) := nwT HBWW.out HBL.out
        go_wp2_with fail
        refine (HEV.out wr HBL.out).mono ?_
        rintro e wE ⟨rfl, hbE⟩
        have HBE : Hid (Below w.heap.size w wE) := nwT HBW.out hbE
        clear hbE
        go_wp2_with fail
        refine (HWK.out wE).mono ?_
        rintro e wF ⟨rfl, hbF⟩
        have HBF : Hid (Below w.heap.size w wF) := nwT HBE.out hbF
        clear hbF
        go_wp2_with fail
        go_ret
        exact ⟨rfl, HBF.out⟩
      case pos =>
      go_wp2_with fail
      refine (HON.out z wr HBL.out).mono ?_
      rintro e w7 ⟨⟨u13, er, ys, rfl, ho13, hr13⟩, hb7⟩
      obtain ⟨a13, c13, rfl, _⟩ := ho13.at
      have HO13 : Hid (OwnInts w7 wr.heap.size (.slice a13 ys.length c13) ys) := ho13
      have HB7 : Hid (Below wr.heap.size wr w7) := hb7
      have HR13 : Hid (OnlyR ds next z er ys) := hr13
      have HBR7 : Hid (Below wR.heap.size wR w7) := nwT HBL.out hb7
      have hyl : ys.length ≤ 10000 := by
        rcases HR13.out with ⟨_, _, h⟩ | ⟨_, _, _, h⟩ | ⟨j, _, h2, _, h⟩
        · rw [h]; simp
        · rw [h]; simp
        · rw [h]
          refine Nat.le_trans (onlyN_len ds z j) ?_
          rw [plF_one]
          exact Nat.le_trans (plF_le_all (by have := atV_lt h2; simp [List.getD, this])) HFW.out.all
      have HATC : Hid (Calls Tryz.prog 15 #[.slice av ds.length ca, .int .i64 z] w7 fun e w' => e = .returned (.int .i64 (optI (atV ds z))) ∧ w7 = w') := (atv_any av ds ca z w7 (HVR.out.below HBR7.out) hdl).mono fun _ _ h => ⟨h.1, h.2.symm⟩
      clear ho13 hb7 hr13 x0 x1
      have xx0 := (HXY.out w7 HBR7.out).1
      cases hat : atV ds z with
      | none =>
        obtain ⟨rfl, rfl⟩ : er = 3 ∧ ys = [] := by
          rcases HR13.out with ⟨h, _⟩ | ⟨_, _, h⟩ | ⟨j, _, h, _⟩
          · exact absurd HOK.out h
          · exact h
          · rw [hat] at h; cases h
        have HAT2 : Hid (Calls Tryz.prog 15 #[.slice av ds.length ca, .int .i64 z] w7 fun e w' => e = .returned (.int .i64 (-1)) ∧ w7 = w') := by have h := HATC.out; rw [hat] at h; exact h
        clear HR13 HATC hat
        go_wp2_with fail
        refine HAT2.out.mono ?_
        rintro e w8 ⟨rfl, rfl⟩
        clear HAT2 xx0
        go_wp2_with (go_at_call 11; refine (errnum_any _ _).mono ?_; rintro e w' ⟨rfl, rfl⟩)
        rename World => wm
        refine (eqSame_is a13 none [] c13 0 wm (.inl rfl) (.inl rfl) (by simp)).mono ?_
        rintro e wq ⟨rfl, q3, rfl⟩
        have HO9 : Hid (OwnInts (wm.drewN q3) wr.heap.size (.slice a13 0 c13) []) := own_below HO13.out (below_drewN (nwR wm) q3)
        have HB9 : Hid (Below wr.heap.size wr (wm.drewN q3)) := below_drewN HB7.out q3
        generalize wm.drewN q3 = w9 at HO9 HB9 ⊢
        have HSP : Hid (Calls Tryz.prog 17 #[.slice a13 0 c13] w9 fun e w' => e = .returned (.tuple #[]) ∧ Wk 3 wr.heap.size w9.heap.size w9 w') := nums_spoil a13 0 c13 wr.heap.size w9.heap.size w9 (RowX.of_own HO9.out) (by omega)
        clear HO13 HB7 HO9
        go_wp2_with fail
        refine HSP.out.mono ?_
        rintro e wX ⟨rfl, hwk⟩
        have HBX : Hid (Below wR.heap.size wR wX) := nwT HBL.out (HB9.out.trans hwk.below)
        clear hwk HSP
        go_wp2_with fail
        go_roundw
        case rel => exact ⟨z + 1, by omega, by omega, by go_num, HBX⟩
        case measure => simp [intOf]; omega
      | some k =>
        obtain ⟨rfl, rfl⟩ : er = 0 ∧ ys = onlyN ds z k := by
          rcases HR13.out with ⟨h, _⟩ | ⟨_, h, _⟩ | ⟨j, _, h, h2, h3⟩
          · exact absurd HOK.out h
          · rw [hat] at h; cases h
          · rw [hat] at h; injection h with h; subst h; exact ⟨h2, h3⟩
        have HAT2 : Hid (Calls Tryz.prog 15 #[.slice av ds.length ca, .int .i64 z] w7 fun e w' => e = .returned (.int .i64 (k : Int)) ∧ w7 = w') := by have h := HATC.out; rw [hat] at h; exact h
        have HOP : Hid (Calls Tryz.prog 16 #[.slice av ds.length ca, .int .i64 z] w7 fun e w' => (∃ u, e = .returned u ∧ OwnInts w' w7.heap.size u (onlyN ds z k)) ∧ Below w7.heap.size w7 w') := onlyP_any av ds ca z k w7 (HVR.out.below HBR7.out) HFW.out hat
        clear HR13 HATC hat
        generalize onlyN ds z k = ys at HO13 HOP hyl ⊢
        go_wp2_with fail
        refine HAT2.out.mono ?_
        rintro e w8 ⟨rfl, rfl⟩
        clear HAT2
        go_wp2_with fail
        refine HOP.out.mono ?_
        rintro e w8 ⟨⟨u16, rfl, ho16⟩, hb8⟩
        obtain ⟨a16, c16, rfl, ha16, _⟩ := ho16.at
        have HO8 : Hid (OwnInts w8 wr.heap.size (.slice a13 ys.length c13) ys) := own_below HO13.out hb8
        have HB8 : Hid (Below wr.heap.size wr w8) := nwT HB7.out hb8
        obtain ⟨a13', c13', e13, ha13, _⟩ := HO8.out.at
        injection e13 with e131 _ e132
        subst e131; subst e132
        have HEQ : Hid (Calls Tryz.prog 12 #[.slice a13 ys.length c13, .slice a16 ys.length c16] w8 fun e w'' => e = .returned (.bool true) ∧ ∃ n, w'' = w8.drewN n) := eqSame_is a13 a16 ys c13 c16 w8 ha13 ha16 (by omega)
        clear xx0 ho16 hb8 ha16 ha13 HOP HO13 HB7
        go_wp2_with (go_at_call 11; refine (errnum_any _ _).mono ?_; rintro e w' ⟨rfl, rfl⟩)
        rename World => wm
        refine HEQ.out.mono ?_
        rintro e wq ⟨rfl, q3, rfl⟩
        have HO9 : Hid (OwnInts (wm.drewN q3) wr.heap.size (.slice a13 ys.length c13) ys) := own_below HO8.out (below_drewN (nwR wm) q3)
        have HB9 : Hid (Below wr.heap.size wr (wm.drewN q3)) := below_drewN HB8.out q3
        clear HEQ HO8 HB8
        generalize wm.drewN q3 = w9 at HO9 HB9 ⊢
        have HSP : Hid (Calls Tryz.prog 17 #[.slice a13 ys.length c13] w9 fun e w' => e = .returned (.tuple #[]) ∧ Wk 3 wr.heap.size w9.heap.size w9 w') := nums_spoil a13 ys.length c13 wr.heap.size w9.heap.size w9 (RowX.of_own HO9.out) (by omega)
        clear HO9
        go_wp2_with fail
        refine HSP.out.mono ?_
        rintro e wX ⟨rfl, hwk⟩
        have HBX : Hid (Below wR.heap.size wR wX) := nwT HBL.out (HB9.out.trans hwk.below)
        clear hwk HSP
        go_wp2_with fail
        go_roundw
        case rel => exact ⟨z + 1, by omega, by omega, by go_num, HBX⟩
        case measure => simp [intOf]; omega

end Go.Proofs.YtbaphgdlbeaenaaGreat
