/- Laid together: Exactv, Dropr, Pagem, Spoilw, Spoilv. -/
import Derived.Test.YtodahdnnlkcfdaaVolM15
import Derived.Deep.RegionHeld3
/- The law VolExact, where each step is what it should be. -/
namespace Go.Proofs.Ytodahdnnlkcfdaa
open Go.RowKit

/-- what a step tells of small volumes and a small act -/
def StepOk : Prop := ∀ (a : Option Addr) (ds : List VolD) (ca : Nat) (next : Int) (A : ActD) (af : Option Addr) (cf : Nat) (w : World), VolsAt w a ds → CapOk a ca ds.length → SmallW ds → FilesAt w af A.v.files → CapOk af cf A.v.files.length → SmallV A.v →
  Calls Try.prog 11 #[.slice a ds.length ca, .int .i64 next, .agg #[.int .i64 A.act, .int .i64 A.id, .int .i64 A.v.id, .int .i64 A.v.fr, .bool A.v.snap, .slice af A.v.files.length cf, .int .i64 A.v.next]] w fun e w' => (∃ a' ds' c' next', e = .returned (.tuple #[.slice a' (ds' : List VolD).length c', .int .i64 next', .bool true]) ∧ VolsAt w' a' ds' ∧ CapOk a' c' ds'.length ∧ SmallW ds') ∧ Below w.heap.size w w'
structure Held (w : World) (a : Option Addr) (ca : Nat) (ds : List VolD) : Prop where
  at' : VolsAt w a ds
  cap : CapOk a ca ds.length
  small : SmallW ds

set_option maxRecDepth 100000 in
set_option maxHeartbeats 8000000 in
theorem exact_of (HS : StepOk) : LawOk 3 := by
  intro v ds next l w hv hd hl
  have HST : Hid StepOk := HS
  have HVA : Hid (ScrVal w v ds next l) := hv
  obtain ⟨av, ca, aL, cL, rfl, hV, hL, _⟩ := id hv
  have HHV : Hid (∀ w', Below w.heap.size w w' → Calls Try.prog 9 #[.agg #[.slice av ds.length ca, .int .i64 next, .slice aL l.length cL]] w' (HvPost ds l w')) := fun w' hb => heavy_any _ ds next l w' (ScrVal.below HVA.out hb) hd hl
  have HV : Hid (VolsAt w av ds) := hV.1
  have HL : Hid (ActsAt w aL l) := hL
  have HB0 : Hid (Below w.heap.size w (w.alloc (.cells #[.slice av ds.length ca, .int .i64 next, .slice aL l.length cL] 25))) := nwA (nwR w) _
  have HX0 : Hid ((w.alloc (.cells #[.slice av ds.length ca, .int .i64 next, .slice aL l.length cL] 25)).heap[w.heap.size]? = some (.cells #[.slice av ds.length ca, .int .i64 next, .slice aL l.length cL] 25 (0, 0))) := heap_alloc_new w _
  have HWK : Hid (∀ w', Calls Try.prog 12 #[] w' fun e w'' => e = .returned (.bool true) ∧ Below w'.heap.size w' w'') := wakes_any
  clear hv hd hl hV hL HVA HS
  obtain ⟨x0, x1, x2⟩ := tri HX0.out
  go_enter Try.func3, Try.ntmps3
  go_wp2_with fail
  generalize w.alloc (.cells #[.slice av ds.length ca, .int .i64 next, .slice aL l.length cL] 25) = WB at HB0 HX0 x0 x1 x2 ⊢
  refine (HHV.out WB HB0.out).mono ?_
  rintro e w1 ⟨q, rfl, hb1, h1⟩
  have HB1 : Hid (Below w.heap.size w w1) := nwT HB0.out hb1
  have HX1 : Hid (w1.heap[w.heap.size]? = some (.cells #[.slice av ds.length ca, .int .i64 next, .slice aL l.length cL] 25 (0, 0))) := (hb1.block _ (Array.getElem?_eq_some_iff.1 HX0.out).1).trans HX0.out
  clear x0 x1 x2 hb1 HHV HX0 HB0
  cases q
  case true =>
    clear h1
    go_wp2_with fail
    go_ret
    exact ⟨rfl, HB1.out⟩
  case false =>
  obtain ⟨hsw, hla⟩ := h1 rfl
  have HSW : Hid (SmallW ds) := hsw
  have HLA : Hid (∀ x ∈ l, SmallV x.v) := hla.2
  have hll := hla.1
  have HXX : Hid (∀ w', Below w1.heap.size w1 w' → w'.cell? ⟨w.heap.size, 0, none⟩ = some (.slice av ds.length ca) ∧ w'.cell? ⟨w.heap.size, 1, none⟩ = some (.int .i64 next) ∧ w'.cell? ⟨w.heap.size, 2, none⟩ = some (.slice aL l.length cL)) := fun w' h => tri ((h.block _ (Array.getElem?_eq_some_iff.1 HX1.out).1).trans HX1.out)
  have HCV : Hid (∀ w', Below w1.heap.size w1 w' → Calls Try.prog 10 #[.slice av ds.length ca] w' fun e w'' => (∃ v, e = .returned v ∧ OwnVols w'' w'.heap.size v ds) ∧ Below w'.heap.size w' w'') := fun w' h => copyVols_any av ds ca w' (HV.out.below (nwT HB1.out h)) HSW.out
  clear h1 hsw hla HX1
  have q0 : ∀ w', Below w1.heap.size w1 w' → w'.cell? ⟨w.heap.size, 0, none⟩ = some (.slice av ds.length ca) := fun w' h => (HXX.out w' h).1
  have q1 : ∀ w', Below w1.heap.size w1 w' → w'.cell? ⟨w.heap.size, 1, none⟩ = some (.int .i64 next) := fun w' h => (HXX.out w' h).2.1
  have hS : Below w1.heap.size w1 w1 := nwR w1
  go_wp2_with fail
  go_region_held3 (fun w' => Below w1.heap.size w1 w') (first | assumption | exact Below.drew (by assumption) | exact nwT (by assumption) (by assumption)) (first
    | (go_at_call 10; refine (HCV.out _ (by first | assumption | exact Below.drew (by assumption))).mono ?_; rintro e wC ⟨⟨vC, rfl, hoC⟩, hbC⟩)
    | fail)
  have hbC2 : Below w1.heap.size w1 wC := by assumption
  have HBC : Hid (Below w1.heap.size w1 wC) := hbC2
  obtain ⟨a0, c0, rfl, hva0, hca0⟩ := hoC.at
  have HH0 : Hid (Held wC a0 c0 ds) := ⟨hva0, hca0, HSW.out⟩
  clear q0 q1 hS hbC hbC2 hoC hva0 hca0 HCV
  go_wp2_with fail
  go_loopw [3, 4, 5] (fun v3 v4 v5 wr => ∃ (i : Nat) (a' : Option Addr) (c' : Nat) (ds' : List VolD) (nx : Int), i ≤ l.length ∧ v5 = .int .i64 i ∧ v3 = .slice a' ds'.length c' ∧ v4 = .int .i64 nx ∧ Hid (Held wr a' c' ds') ∧ Hid (Below w1.heap.size w1 wr))
    (fun _ _ v5 _ => l.length - (intOf v5).toNat)
  case atStart => exact ⟨0, a0, c0, ds, next, by omega, rfl, rfl, rfl, HH0, HBC⟩
  case round =>
    obtain ⟨i, a', c', ds', nx, hi, rfl, rfl, rfl, HHr, HBR⟩ := hrel
    obtain ⟨_, _, x2⟩ := HXX.out wr HBR.out
    by_cases hil : i < l.length
    case neg =>
      have hili : ¬ (i : Int) < (l.length : Int) := by omega
      have HBE : Hid (Below w.heap.size w wr) := nwT HB1.out HBR.out
      go_wp2_with fail
      refine (HWK.out wr).mono ?_
      rintro e wF ⟨rfl, hbF⟩
      have HBF : Hid (Below w.heap.size w wF) := nwT HBE.out hbF
      clear hbF
      go_wp2_with fail
      go_ret
      exact ⟨rfl, HBF.out⟩
    case pos =>
    have hili : (i : Int) < (l.length : Int) := by omega
    by_cases h10 : i < 10
    case neg =>
      have h10i : ¬ (i : Int) < 10 := by omega
      have HBE : Hid (Below w.heap.size w wr) := nwT HB1.out HBR.out
      go_wp2_with fail
      refine (HWK.out wr).mono ?_
      rintro e wF ⟨rfl, hbF⟩
      have HBF : Hid (Below w.heap.size w wF) := nwT HBE.out hbF
      clear hbF
      go_wp2_with fail
      go_ret
      exact ⟨rfl, HBF.out⟩
    case pos =>
    have h10i : (i : Int) < 10 := by omega
    have hi0 : (0 : Int) ≤ (i : Int) := by omega
    obtain ⟨b1, o1, rfl, d0, d1, af, cf, ⟨e0, e1, e2, e3, e4⟩, hfd, hcd⟩ := (HL.out.below (nwT HB1.out HBR.out)).cell hil
    rw [Nat.add_assoc] at e1 e2 e3 e4
    have HSV : Hid (SmallV (l.getD i act0).v) := HLA.out _ (by simp [List.getD, hil])
    generalize l.getD i act0 = A at d0 d1 e0 e1 e2 e3 e4 hfd hcd HSV
    have HSC : Hid (Calls Try.prog 11 #[.slice a' ds'.length c', .int .i64 nx, .agg #[.int .i64 A.act, .int .i64 A.id, .int .i64 A.v.id, .int .i64 A.v.fr, .bool A.v.snap, .slice af A.v.files.length cf, .int .i64 A.v.next]] wr fun e w' => (∃ a' ds' c' next', e = .returned (.tuple #[.slice a' (ds' : List VolD).length c', .int .i64 next', .bool true]) ∧ VolsAt w' a' ds' ∧ CapOk a' c' ds'.length ∧ SmallW ds') ∧ Below wr.heap.size wr w') := HST.out a' ds' c' nx A af cf wr HHr.out.at' HHr.out.cap HHr.out.small hfd hcd HSV.out
    clear hfd hcd HSV HHr
    go_wp2_with fail
    refine HSC.out.mono ?_
    rintro e w5 ⟨⟨a5, ds5, c5, nx5, rfl, h5, h6, h7⟩, hb5⟩
    have HH5 : Hid (Held w5 a5 c5 ds5) := ⟨h5, h6, h7⟩
    have HB5 : Hid (Below w1.heap.size w1 w5) := nwT HBR.out hb5
    clear h5 h6 h7 hb5 HSC d0 d1 e0 e1 e2 e3 e4 x2
    go_wp2_with fail
    go_roundw
    case rel => exact ⟨i + 1, a5, c5, ds5, nx5, by omega, by go_num, by first | rfl | trivial, by first | rfl | trivial, HH5, HB5⟩
    case measure => simp [intOf]; omega

end Go.Proofs.Ytodahdnnlkcfdaa

/- A volume dropped, by the page. -/
namespace Go.Proofs.Ytodahdnnlkcfdaa
open Go.RowKit

def cutW (ds : List VolD) (k : Nat) : List VolD := ds.take k ++ ds.drop (k + 1)
def drqF (ds : List VolD) (id : Int) : Int × List VolD :=
  match atV ds id with
  | none => (3, [])
  | some k => if 0 < (snapsF ds id).length then (8, []) else (0, cutW ds k)
/-- what the page tells: the volumes, and the error -/
def PgM (W : World) (r : Int × List VolD) (base : Nat) (e : Ending) (w' : World) : Prop := ∃ u, e = .returned (.tuple #[u, .int .i64 r.1]) ∧ MixV W w' base u r.2
theorem mixV_nil (W w : World) (base : Nat) : MixV W w base (.slice none 0 0) [] := ⟨[], rfl, World.ownsRow_nil _ _ _ _, fun x hx => by simp at hx⟩
theorem pgM_err (W : World) (r : Int × List VolD) (base : Nat) (w' : World) (n : Int) (h : r = (n, [])) : PgM W r base (.returned (.tuple #[.slice none 0 0, .int .i64 n])) w' := by
  subst h; exact ⟨_, rfl, mixV_nil _ _ _⟩
theorem snapsF_pos {ds : List VolD} {id : Int} {j : Nat} (hj : j < ds.length) (h1 : (ds.getD j VZ).snap = true) (h2 : (ds.getD j VZ).fr = id) : 0 < (snapsF ds id).length := by
  unfold snapsF
  rw [List.length_map]
  have e : ds.getD j VZ = ds[j] := by simp [List.getD, hj]
  rw [e] at h1 h2
  exact List.length_pos_of_mem (a := ds[j]) (List.mem_filter.2 ⟨List.getElem_mem hj, by rw [h1, h2]; simp⟩)
theorem snapsF_no {ds : List VolD} {id : Int} (h : ∀ j, j < ds.length → ¬ ((ds.getD j VZ).snap = true ∧ (ds.getD j VZ).fr = id)) : ¬ 0 < (snapsF ds id).length := by
  unfold snapsF
  rw [List.length_map]
  have : ds.filter (fun d => d.snap && (d.fr == id)) = [] := by
    rw [List.filter_eq_nil_iff]
    intro d hd hc
    obtain ⟨j, hj, rfl⟩ := List.getElem_of_mem hd
    simp only [Bool.and_eq_true, beq_iff_eq] at hc
    exact h j hj (by rw [show ds.getD j VZ = ds[j] from by simp [List.getD, hj]]; exact hc)
  rw [this]; simp
theorem MixV.app {W w w5 : World} {base : Nat} {v v' : Value} {xs ys : List VolD} {gs hs : List VV} (hg1 : gs.map VV.d = xs) (hg2 : hs.map VV.d = ys) (ha : ∀ x ∈ gs, OwnFiles w base x.fv x.d.files) (hrow : w.ownsRow base 32 5 v gs.length (vflat gs)) (hg : w.grownBy w5 v.ownBlock) (hb : ∀ x ∈ hs, ReadFV W x)
    (hown : w5.ownsRow base 32 5 v' (gs.length + hs.length) (vflat gs ++ vflat hs)) : MixV W w5 base v' (xs ++ ys) := by
  refine ⟨gs ++ hs, by rw [List.map_append, hg1, hg2], ?_, fun x hx => ?_⟩
  · rw [show vflat (gs ++ hs) = vflat gs ++ vflat hs from by simp [vflat], ← hg1, ← hg2, List.length_append, List.length_map, List.length_map]
    exact hown
  · rcases List.mem_append.1 hx with h | h
    · exact .inl ((ha x h).grown hrow hg)
    · exact .inr (hb x h)

set_option maxRecDepth 100000 in
set_option maxHeartbeats 4000000 in
theorem dropr_room (b1 o1 : Nat) (ds : List VolD) (ca k : Nat) (id : Int) (W w : World) (hvW : VolsAt W (some ⟨b1, o1, none⟩) ds) (hbW : Below W.heap.size W w) (hs : SmallW ds) (hat : atV ds id = some k) (hkc : k + 1 < ca) :
    Calls Try.prog 29 #[.slice (some ⟨b1, o1, none⟩) ds.length ca, .int .i64 id] w fun e w' => PgM W (drqF ds id) w.heap.size e w' ∧ Below w.heap.size w w' := by
  have hv := hvW.below hbW
  have hkl := atV_lt hat
  have HV : Hid (VolsAt w (some ⟨b1, o1, none⟩) ds) := hv
  have hl := hs.1
  have HAT : Hid (Calls Try.prog 32 #[.slice (some ⟨b1, o1, none⟩) ds.length ca, .int .i64 id] w fun e w' => e = .returned (.int .i64 (k : Int)) ∧ w = w') := (atv_any (some ⟨b1, o1, none⟩) ds ca id w hv hl).mono fun e w' h => ⟨by rw [h.1, hat]; rfl, h.2.symm⟩
  have HUF : Hid (drqF ds id = if 0 < (snapsF ds id).length then (8, []) else (0, cutW ds k)) := by show _ = _; unfold drqF; simp only [hat]
  have HTL : Hid ((ds.take k).length = k) := by show _ = _; rw [List.length_take]; omega
  have HST : Hid (SmallW (ds.take k)) := ⟨by rw [List.length_take]; omega, fun d hd => hs.2 d (List.mem_of_mem_take hd)⟩
  have HCP : Hid (∀ w' c, Below w.heap.size w w' → Calls Try.prog 10 #[.slice (some ⟨b1, o1, none⟩) k c] w' fun e w2 => (∃ v, e = .returned v ∧ OwnVols w2 w'.heap.size v (ds.take k)) ∧ Below w'.heap.size w' w2) := fun w' c h => by
    have h2 := copyVols_any (some ⟨b1, o1, none⟩) (ds.take k) c w' ((HV.out.take k).below h) HST.out
    rw [HTL.out] at h2
    exact h2
  obtain ⟨hs2, hgs2, hcs2, hrd2⟩ := (hvW.drop (k + 1)).cells
  have HG2 : Hid (hs2.map VV.d = ds.drop (k + 1)) := hgs2
  have HL2 : Hid (hs2.length = ds.length - (k + 1)) := by show _ = _; rw [← List.length_map (f := VV.d), hgs2, List.length_drop]
  have HC2 : Hid (∀ w', Below w.heap.size w w' → ∀ j u, (vflat hs2)[j]? = some u → w'.cell? ((⟨b1, o1 + (k + 1) * 5, none⟩ : Addr).add j) = some u) := fun w' h j u hu => by
    have h1 := hcs2 j u hu
    exact ((nwT hbW h).cell (block_lt_of_cell h1)).trans h1
  have HR2 : Hid (∀ x ∈ hs2, ReadFV W x) := hrd2
  have HO2 : Hid (∀ v ∈ vflat hs2, v.oneCell' = true) := vflat_oneR hrd2
  obtain ⟨i0, hi, hz0, hz1, hz2⟩ := info_parts Try.info32
  have hB3 : k + (ds.length - (k + 1)) ≤ maxLen := by unfold maxLen; omega
  have hB4 : (k + (ds.length - (k + 1))) * 56 ≤ 140737488355328 := by omega
  clear hgs2 hcs2 hrd2 hv hs hat hvW hbW
  go_enter Try.func29, Try.ntmps29
  go_wp2_with fail
  refine HAT.out.mono ?_
  rintro e w' ⟨rfl, rfl⟩
  clear HAT
  go_wp2_with fail
  go_loopw [7] (fun i wr => ∃ (j : Nat), j ≤ ds.length ∧ i = .int .i64 j ∧ wr = w ∧ Hid (∀ t, t < j → ¬ ((ds.getD t VZ).snap = true ∧ (ds.getD t VZ).fr = id)))
    (fun i _ => ds.length - (intOf i).toNat)
  case atStart => exact ⟨0, by omega, rfl, rfl, fun t ht => by omega⟩
  case round =>
    obtain ⟨j, hj, rfl, rfl, HE⟩ := hrel
    by_cases hlt : j < ds.length
    · have hlti : (j : Int) < (ds.length : Int) := by omega
      obtain ⟨_, _, e, hvi⟩ := HV.out.vol hlt
      injection e with e
      injection e with e1 e2
      subst e1; subst e2
      obtain ⟨_, _, ⟨c0, c1, c2, c3, c4⟩, _⟩ := hvi
      have HK : Hid (¬ ((ds.getD j VZ).snap = true ∧ (ds.getD j VZ).fr = id) → ∀ t, t < j + 1 → ¬ ((ds.getD t VZ).snap = true ∧ (ds.getD t VZ).fr = id)) := fun h t ht => by
        by_cases e : t = j
        · subst e; exact h
        · exact HE.out t (by omega)
      have HY : Hid ((ds.getD j VZ).snap = true → (ds.getD j VZ).fr = id → ∀ w', PgM W (drqF ds id) wr.heap.size (.returned (.tuple #[.slice none 0 0, .int .i64 8])) w') := fun h1 h2 w' => pgM_err _ _ _ _ _ (by rw [HUF.out, if_pos (snapsF_pos hlt h1 h2)])
      generalize ds.getD j VZ = d at c0 c1 c2 c3 c4 HK HY
      cases hsn : d.snap
      case false =>
        have HN := HK.out (fun h => by rw [hsn] at h; cases h.1)
        have HNH : Hid (∀ t, t < j + 1 → ¬ ((ds.getD t VZ).snap = true ∧ (ds.getD t VZ).fr = id)) := HN
        rw [hsn] at c2
        clear hsn HN
        go_wp2_with fail
        go_roundw
        case rel => exact ⟨j + 1, by omega, by go_num, by first | rfl | trivial, HNH⟩
        case measure => simp [intOf]; omega
      case true =>
      by_cases hfr : d.fr = id
      · have HQ : Hid (∀ w', PgM W (drqF ds id) wr.heap.size (.returned (.tuple #[.slice none 0 0, .int .i64 8])) w') := HY.out hsn hfr
        have hfr2 : (d.fr == id) = true := by rw [hfr]; simp
        rw [hsn] at c2
        clear hsn hfr HY HK
        go_wp2_with fail
        go_ret2
        exact ⟨HQ.out _, nwR _⟩
      · have HN := HK.out (fun h => hfr h.2)
        have HNH : Hid (∀ t, t < j + 1 → ¬ ((ds.getD t VZ).snap = true ∧ (ds.getD t VZ).fr = id)) := HN
        have hfr2 : (d.fr == id) = false := beq_eq_false_iff_ne.2 hfr
        rw [hsn] at c2
        clear hsn HN hfr HY HK
        go_wp2_with fail
        go_roundw
        case rel => exact ⟨j + 1, by omega, by go_num, by first | rfl | trivial, HNH⟩
        case measure => simp [intOf]; omega
    · have hlti : ¬ (j : Int) < (ds.length : Int) := by omega
      have HUF2 : Hid (drqF ds id = (0, cutW ds k)) := by show _ = _; rw [HUF.out, if_neg (snapsF_no (fun t ht => HE.out t (by omega)))]
      have hS := nwR wr
      have hne : ¬ ca = k + 1 := by omega
      have g1 : (k : Int) ≤ (ca : Int) := by omega
      have g2 : (k : Int) ≤ (ds.length : Int) := by omega
      have g3 : (0 : Int) ≤ (k : Int) := by omega
      have g4 : (k : Int) + 1 ≤ (ca : Int) := by omega
      have g5 : (k : Int) + 1 ≤ (ds.length : Int) := by omega
      have g6 : (0 : Int) ≤ (k : Int) + 1 := by omega
      have e1 : IntKind.i64.wrap ((k : Int) + 1) = (k : Int) + 1 := wrap_any (by omega) (by omega)
      go_wp2_with fail
      go_region_held3 (fun w' => Below wr.heap.size wr w') (first | assumption | exact Below.drew (by assumption) | exact nwT (by assumption) (by assumption)) (first
        | (go_at_call 10; refine (HCP.out _ _ (by assumption)).mono ?_; rintro e wC ⟨⟨vC, rfl, hoC⟩, hbC⟩; have hoC2 : OwnVols wC wr.heap.size vC (ds.take k) := hoC.le (Below.size (by assumption)); obtain ⟨gs, hgs, hrow, hall⟩ := hoC2; have hgk : gs.length = k := (show gs.length = (gs.map VV.d).length from by simp).trans ((congrArg List.length hgs).trans HTL.out); have HRW : Hid (wC.ownsRow wr.heap.size 32 5 vC gs.length (vflat gs)) := hrow; have hbC0 : Below wr.heap.size wr wC := (nwT (by assumption) hbC); clear hoC)
        | (refine step_append_src (by rfl) (.tmp 36) (.tmp 40) 22 (by rfl) wr.heap.size 32 i0 (.agg #[.int .i64 0, .int .i64 0, .bool false, .slice none 0 0, .int .i64 0]) 5 56 Try.underlying22 hi hz0 hz1 hz2 rfl (by decide) vC gs.length (vflat gs) (by simp [Act.eval]) (by exact HRW.out) (some ⟨b1, o1 + (k + 1) * 5, none⟩) (ds.length - (k + 1)) (ca - (k + 1)) (vflat hs2) (by simp [Act.eval]) (by rw [vflat_len, HL2.out]) (fun e => by cases e) (by intro p e; injection e with e; subst e; exact HC2.out _ hbC0) HO2.out (by rw [hgk]; exact hB3) (by rw [hgk]; exact hB4) (by exact hbC0.size) ?_; intro v2 w4 hown2 hgrow2; have hb4 : Below wr.heap.size wr w4 := hbC0.grown hgrow2 hbC0.size (fun q e => (World.ownsRow.lt HRW.out q e).1); have HO4 : Hid (MixV W w4 wr.heap.size v2 (cutW ds k)) := MixV.app hgs HG2.out hall HRW.out hgrow2 HR2.out (by rw [HL2.out]; exact hown2); clear hown2 hgrow2)
        | fail)
      all_goals
        have hq := HO4.out
        have HQ : Hid (PgM W (drqF ds id) wr.heap.size (.returned (.tuple #[v2, .int .i64 0])) w4) := ⟨v2, by rw [HUF2.out], by rw [HUF2.out]; exact hq⟩
        clear hq
        go_wp2_with fail
        go_ret2
        exact ⟨HQ.out, hb4⟩

set_option maxRecDepth 100000 in
set_option maxHeartbeats 4000000 in
theorem dropr_full (b1 o1 : Nat) (ds : List VolD) (k : Nat) (id : Int) (W w : World) (hvW : VolsAt W (some ⟨b1, o1, none⟩) ds) (hbW : Below W.heap.size W w) (hs : SmallW ds) (hat : atV ds id = some k) (hle : ds.length ≤ k + 1) :
    Calls Try.prog 29 #[.slice (some ⟨b1, o1, none⟩) ds.length (k + 1), .int .i64 id] w fun e w' => PgM W (drqF ds id) w.heap.size e w' ∧ Below w.heap.size w w' := by
  have hv := hvW.below hbW
  have hkl := atV_lt hat
  have HV : Hid (VolsAt w (some ⟨b1, o1, none⟩) ds) := hv
  have hl := hs.1
  have HAT : Hid (Calls Try.prog 32 #[.slice (some ⟨b1, o1, none⟩) ds.length (k + 1), .int .i64 id] w fun e w' => e = .returned (.int .i64 (k : Int)) ∧ w = w') := (atv_any (some ⟨b1, o1, none⟩) ds (k + 1) id w hv hl).mono fun e w' h => ⟨by rw [h.1, hat]; rfl, h.2.symm⟩
  have HUF : Hid (drqF ds id = if 0 < (snapsF ds id).length then (8, []) else (0, cutW ds k)) := by show _ = _; unfold drqF; simp only [hat]
  have HTL : Hid ((ds.take k).length = k) := by show _ = _; rw [List.length_take]; omega
  have HST : Hid (SmallW (ds.take k)) := ⟨by rw [List.length_take]; omega, fun d hd => hs.2 d (List.mem_of_mem_take hd)⟩
  have HCP : Hid (∀ w' c, Below w.heap.size w w' → Calls Try.prog 10 #[.slice (some ⟨b1, o1, none⟩) k c] w' fun e w2 => (∃ v, e = .returned v ∧ OwnVols w2 w'.heap.size v (ds.take k)) ∧ Below w'.heap.size w' w2) := fun w' c h => by
    have h2 := copyVols_any (some ⟨b1, o1, none⟩) (ds.take k) c w' ((HV.out.take k).below h) HST.out
    rw [HTL.out] at h2
    exact h2
  obtain ⟨hs2, hgs2, hcs2, hrd2⟩ := (hvW.drop (k + 1)).cells
  have HG2 : Hid (hs2.map VV.d = ds.drop (k + 1)) := hgs2
  have HL2 : Hid (hs2.length = ds.length - (k + 1)) := by show _ = _; rw [← List.length_map (f := VV.d), hgs2, List.length_drop]
  have hdk : ds.length - (k + 1) = 0 := by omega
  have HN2 : Hid (vflat hs2 = []) := by
    have h := HL2.out
    rw [hdk] at h
    show _ = _
    rw [List.length_eq_zero_iff.1 h]; rfl
  have HC2 : Hid (∀ w', Below w.heap.size w w' → ∀ j u, (vflat hs2)[j]? = some u → w'.cell? ((⟨b1, o1 + (k + 1) * 5, none⟩ : Addr).add j) = some u) := fun w' h j u hu => by
    have h1 := hcs2 j u hu
    exact ((nwT hbW h).cell (block_lt_of_cell h1)).trans h1
  have HR2 : Hid (∀ x ∈ hs2, ReadFV W x) := hrd2
  have HO2 : Hid (∀ v ∈ vflat hs2, v.oneCell' = true) := vflat_oneR hrd2
  obtain ⟨i0, hi, hz0, hz1, hz2⟩ := info_parts Try.info32
  have hB3 : k + (ds.length - (k + 1)) ≤ maxLen := by unfold maxLen; omega
  have hB4 : (k + (ds.length - (k + 1))) * 56 ≤ 140737488355328 := by omega
  clear hgs2 hcs2 hrd2 hv hs hat hvW hbW
  go_enter Try.func29, Try.ntmps29
  go_wp2_with fail
  refine HAT.out.mono ?_
  rintro e w' ⟨rfl, rfl⟩
  clear HAT
  go_wp2_with fail
  go_loopw [7] (fun i wr => ∃ (j : Nat), j ≤ ds.length ∧ i = .int .i64 j ∧ wr = w ∧ Hid (∀ t, t < j → ¬ ((ds.getD t VZ).snap = true ∧ (ds.getD t VZ).fr = id)))
    (fun i _ => ds.length - (intOf i).toNat)
  case atStart => exact ⟨0, by omega, rfl, rfl, fun t ht => by omega⟩
  case round =>
    obtain ⟨j, hj, rfl, rfl, HE⟩ := hrel
    by_cases hlt : j < ds.length
    · have hlti : (j : Int) < (ds.length : Int) := by omega
      obtain ⟨_, _, e, hvi⟩ := HV.out.vol hlt
      injection e with e
      injection e with e1 e2
      subst e1; subst e2
      obtain ⟨_, _, ⟨c0, c1, c2, c3, c4⟩, _⟩ := hvi
      have HK : Hid (¬ ((ds.getD j VZ).snap = true ∧ (ds.getD j VZ).fr = id) → ∀ t, t < j + 1 → ¬ ((ds.getD t VZ).snap = true ∧ (ds.getD t VZ).fr = id)) := fun h t ht => by
        by_cases e : t = j
        · subst e; exact h
        · exact HE.out t (by omega)
      have HY : Hid ((ds.getD j VZ).snap = true → (ds.getD j VZ).fr = id → ∀ w', PgM W (drqF ds id) wr.heap.size (.returned (.tuple #[.slice none 0 0, .int .i64 8])) w') := fun h1 h2 w' => pgM_err _ _ _ _ _ (by rw [HUF.out, if_pos (snapsF_pos hlt h1 h2)])
      generalize ds.getD j VZ = d at c0 c1 c2 c3 c4 HK HY
      cases hsn : d.snap
      case false =>
        have HN := HK.out (fun h => by rw [hsn] at h; cases h.1)
        have HNH : Hid (∀ t, t < j + 1 → ¬ ((ds.getD t VZ).snap = true ∧ (ds.getD t VZ).fr = id)) := HN
        rw [hsn] at c2
        clear hsn HN
        go_wp2_with fail
        go_roundw
        case rel => exact ⟨j + 1, by omega, by go_num, by first | rfl | trivial, HNH⟩
        case measure => simp [intOf]; omega
      case true =>
      by_cases hfr : d.fr = id
      · have HQ : Hid (∀ w', PgM W (drqF ds id) wr.heap.size (.returned (.tuple #[.slice none 0 0, .int .i64 8])) w') := HY.out hsn hfr
        have hfr2 : (d.fr == id) = true := by rw [hfr]; simp
        rw [hsn] at c2
        clear hsn hfr HY HK
        go_wp2_with fail
        go_ret2
        exact ⟨HQ.out _, nwR _⟩
      · have HN := HK.out (fun h => hfr h.2)
        have HNH : Hid (∀ t, t < j + 1 → ¬ ((ds.getD t VZ).snap = true ∧ (ds.getD t VZ).fr = id)) := HN
        have hfr2 : (d.fr == id) = false := beq_eq_false_iff_ne.2 hfr
        rw [hsn] at c2
        clear hsn HN hfr HY HK
        go_wp2_with fail
        go_roundw
        case rel => exact ⟨j + 1, by omega, by go_num, by first | rfl | trivial, HNH⟩
        case measure => simp [intOf]; omega
    · have hlti : ¬ (j : Int) < (ds.length : Int) := by omega
      have HUF2 : Hid (drqF ds id = (0, cutW ds k)) := by show _ = _; rw [HUF.out, if_neg (snapsF_no (fun t ht => HE.out t (by omega)))]
      have hS := nwR wr
      have g1 : (k : Int) ≤ ((k : Int) + 1) := by omega
      have g2 : (k : Int) ≤ (ds.length : Int) := by omega
      have g3 : (0 : Int) ≤ (k : Int) := by omega
      have g4 : (k : Int) + 1 ≤ ((k : Int) + 1) := by omega
      have g5 : (k : Int) + 1 ≤ (ds.length : Int) := by omega
      have g6 : (0 : Int) ≤ (k : Int) + 1 := by omega
      have e1 : IntKind.i64.wrap ((k : Int) + 1) = (k : Int) + 1 := wrap_any (by omega) (by omega)
      go_wp2_with fail
      go_region_held3 (fun w' => Below wr.heap.size wr w') (first | assumption | exact Below.drew (by assumption) | exact nwT (by assumption) (by assumption)) (first
        | (go_at_call 10; refine (HCP.out _ _ (by assumption)).mono ?_; rintro e wC ⟨⟨vC, rfl, hoC⟩, hbC⟩; have hoC2 : OwnVols wC wr.heap.size vC (ds.take k) := hoC.le (Below.size (by assumption)); obtain ⟨gs, hgs, hrow, hall⟩ := hoC2; have hgk : gs.length = k := (show gs.length = (gs.map VV.d).length from by simp).trans ((congrArg List.length hgs).trans HTL.out); have HRW : Hid (wC.ownsRow wr.heap.size 32 5 vC gs.length (vflat gs)) := hrow; have hbC0 : Below wr.heap.size wr wC := (nwT (by assumption) hbC); clear hoC)
        | (refine step_append_src (by rfl) (.tmp 36) (.tmp 40) 22 (by rfl) wr.heap.size 32 i0 (.agg #[.int .i64 0, .int .i64 0, .bool false, .slice none 0 0, .int .i64 0]) 5 56 Try.underlying22 hi hz0 hz1 hz2 rfl (by decide) vC gs.length (vflat gs) (by simp [Act.eval]) (by exact HRW.out) (some ⟨b1, o1, none⟩) 0 0 (vflat hs2) (by simp [Act.eval]) (by rw [vflat_len, HL2.out, hdk]) (fun e => by cases e) (by intro p _ j u hu; rw [HN2.out] at hu; simp at hu) HO2.out (by rw [hgk]; unfold maxLen; omega) (by rw [hgk]; omega) (by exact hbC0.size) ?_; intro v2 w4 hown2 hgrow2; have hb4 : Below wr.heap.size wr w4 := hbC0.grown hgrow2 hbC0.size (fun q e => (World.ownsRow.lt HRW.out q e).1); have HO4 : Hid (MixV W w4 wr.heap.size v2 (cutW ds k)) := MixV.app hgs HG2.out hall HRW.out hgrow2 HR2.out (by rw [HL2.out, hdk]; exact hown2); clear hown2 hgrow2)
        | fail)
      all_goals
        have hq := HO4.out
        have HQ : Hid (PgM W (drqF ds id) wr.heap.size (.returned (.tuple #[v2, .int .i64 0])) w4) := ⟨v2, by rw [HUF2.out], by rw [HUF2.out]; exact hq⟩
        clear hq
        go_wp2_with fail
        go_ret2
        exact ⟨HQ.out, hb4⟩

theorem dropr_any (a : Option Addr) (ds : List VolD) (ca : Nat) (id : Int) (W w : World) (hvW : VolsAt W a ds) (hbW : Below W.heap.size W w) (hc : CapOk a ca ds.length) (hs : SmallW ds) (k : Nat) (hat : atV ds id = some k) :
    Calls Try.prog 29 #[.slice a ds.length ca, .int .i64 id] w fun e w' => PgM W (drqF ds id) w.heap.size e w' ∧ Below w.heap.size w w' := by
  have hkl := atV_lt hat
  have hcl := hc.1
  obtain ⟨b1, o1, rfl, _⟩ := hvW.vol hkl
  by_cases h : k + 1 < ca
  · exact dropr_room b1 o1 ds ca k id W w hvW hbW hs hat h
  · have e : ca = k + 1 := by omega
    subst e
    exact dropr_full b1 o1 ds k id W w hvW hbW hs hat (by omega)

set_option maxRecDepth 100000 in
set_option maxHeartbeats 1000000 in
theorem dropr_none (a : Option Addr) (ds : List VolD) (ca : Nat) (id : Int) (W w : World) (hv : VolsAt w a ds) (hl : ds.length ≤ 100000) (hat : atV ds id = none) :
    Calls Try.prog 29 #[.slice a ds.length ca, .int .i64 id] w fun e w' => PgM W (drqF ds id) w.heap.size e w' ∧ Below w.heap.size w w' := by
  have HA2 : Hid (Calls Try.prog 32 #[.slice a ds.length ca, .int .i64 id] w fun e w' => e = .returned (.int .i64 (-1)) ∧ w = w') := (atv_any a ds ca id w hv hl).mono fun e w' h => ⟨by rw [h.1, hat]; rfl, h.2.symm⟩
  have HQ : Hid (∀ w', PgM W (drqF ds id) w.heap.size (.returned (.tuple #[.slice none 0 0, .int .i64 3])) w') := fun w' => pgM_err _ _ _ _ _ (by unfold drqF; rw [hat])
  clear hat
  go_enter Try.func29, Try.ntmps29
  go_wp2_with fail
  refine HA2.out.mono ?_
  rintro e w' ⟨rfl, rfl⟩
  go_wp2_with fail
  go_ret2
  exact ⟨HQ.out _, nwR w⟩

end Go.Proofs.Ytodahdnnlkcfdaa

/- The page's Drop and the program's tell the same; each act keeps what may be. -/
namespace Go.Proofs.Ytodahdnnlkcfdaa
open Go.RowKit

theorem cut_rest {ds : List VolD} {next id : Int} {k : Nat} (h : VolsOk ds next) (hat : atV ds id = some k) : cutW ds k = restW [id] ds := by
  have hk := atV_lt hat
  have hid := atV_id hat
  have e : ds = ds.take k ++ (ds.getD k VZ :: ds.drop (k + 1)) := by
    have : ds.getD k VZ = ds[k] := by simp [List.getD, hk]
    rw [this, List.getElem_cons_drop, List.take_append_drop]
  have hno : ∀ i, i < ds.length → i ≠ k → (ds.getD i VZ).id ≠ id := fun i hi hik e2 => hik (ids_one h hi hk (e2.trans hid.symm))
  have h1 : (ds.take k).filter (fun d => !decide (d.id ∈ [id])) = ds.take k := by
    rw [List.filter_eq_self]
    intro d hd
    obtain ⟨i, hi, rfl⟩ := List.getElem_of_mem hd
    rw [List.length_take] at hi
    have := hno i (by omega) (by omega)
    have e3 : ds.getD i VZ = ds[i] := by simp [List.getD, (by omega : i < ds.length)]
    rw [e3] at this
    simp [this]
  have h2 : (ds.drop (k + 1)).filter (fun d => !decide (d.id ∈ [id])) = ds.drop (k + 1) := by
    rw [List.filter_eq_self]
    intro d hd
    obtain ⟨i, hi, rfl⟩ := List.getElem_of_mem hd
    rw [List.length_drop] at hi
    have := hno (k + 1 + i) (by omega) (by omega)
    have e3 : ds.getD (k + 1 + i) VZ = ds[k + 1 + i] := by simp [List.getD, (by omega : k + 1 + i < ds.length)]
    rw [e3] at this
    simp [this]
  unfold cutW restW
  conv => rhs; rw [e]
  rw [List.filter_append, List.filter_cons, h1, h2, if_neg (by rw [hid]; simp)]
theorem drq_drp {ds : List VolD} {next id : Int} (h : VolsOk ds next) : drqF ds id = drpF ds id := by
  unfold drqF drpF
  cases hat : atV ds id with
  | none => rfl
  | some k => simp only; rw [cut_rest h hat]

end Go.Proofs.Ytodahdnnlkcfdaa

/- Volumes written over: what else may be written over still may. -/
namespace Go.Proofs.Ytodahdnnlkcfdaa
open Go.RowKit

theorem SpoilX.wk {T : TypeId} {w w' : World} {base top : Nat} {fa : Option Addr} {n : Nat} (h : SpoilX w base top fa n) (hk : Wk T base top w w') (ht : (84 : TypeId) ≠ T) : SpoilX w' base top fa n := by
  obtain ⟨h0, h⟩ := h
  refine ⟨h0, ?_⟩
  rcases h with h | ⟨g, cur, h1, h2, h3, h4, h5⟩
  · exact .inl h
  · exact .inr ⟨g, cur, h1, h2, hk.other _ _ _ _ h3 ht, h4, h5.wk hk h3 ht⟩
theorem SpoilX.file {w : World} {base top g i n : Nat} {v0 v1 v2 : Value} {cur : Array Value} {fa : Option Addr} (h : SpoilX w base top fa n) (hg : w.heap[g]? = some (.cells cur 84 (0, 0))) (hi : i * 5 + 4 < cur.size) :
    SpoilX (((((w.setCell ⟨g, i * 5, none⟩ v0).setCell ⟨g, i * 5 + 1, none⟩ v1).setCell ⟨g, i * 5 + 2, none⟩ v2).setCell ⟨g, i * 5 + 3, none⟩ (.slice none 0 0)).setCell ⟨g, i * 5 + 4, none⟩ (.slice none 0 0)) base top fa n := by
  obtain ⟨h0, h⟩ := h
  refine ⟨h0, ?_⟩
  have e1 := heap_setCell_same w g (i * 5) _ 84 v0 hg
  have e2 := heap_setCell_same _ g (i * 5 + 1) _ 84 v1 e1
  have e3 := heap_setCell_same _ g (i * 5 + 2) _ 84 v2 e2
  have e4 := heap_setCell_same _ g (i * 5 + 3) _ 84 (.slice none 0 0) e3
  have e5 := heap_setCell_same _ g (i * 5 + 4) _ 84 (.slice none 0 0) e4
  rcases h with h | ⟨g', cur', h1, h2, h3, h4, h5⟩
  · exact .inl h
  · refine .inr ?_
    by_cases hgg : g' = g
    · subst hgg
      rw [hg] at h3
      injection h3 with h3
      injection h3 with h3 _ _
      subst h3
      refine ⟨g', _, h1, h2, e5, by simpa using h4, fun j hj1 hj2 => ?_⟩
      obtain ⟨ab, nb, cb, al, nl, cl, c3, c4, r3, r4, hn⟩ := h5 j hj1 hj2
      by_cases hji : j = i
      · subst hji
        refine ⟨none, 0, 0, none, 0, 0, ?_, ?_, .inl ⟨rfl, rfl⟩, .inl ⟨rfl, rfl⟩, by omega, by omega⟩
        · rw [Lib.cell_of_heap e5, Array.getElem?_setIfInBounds_ne (by omega), Array.getElem?_setIfInBounds_self_of_lt (by simp; omega)]
        · rw [Lib.cell_of_heap e5, Array.getElem?_setIfInBounds_self_of_lt (by simp; omega)]
      · refine ⟨ab, nb, cb, al, nl, cl, ?_, ?_, ((((r3.setCell _ _ _).setCell _ _ _).setCell _ _ _).setCell _ _ _).setCell _ _ _, ((((r4.setCell _ _ _).setCell _ _ _).setCell _ _ _).setCell _ _ _).setCell _ _ _, hn⟩
        · rw [Lib.cell_of_heap e5]
          rw [Lib.cell_of_heap hg] at c3
          rw [five_ne (by omega) (by omega) (by omega) (by omega) (by omega)]
          exact c3
        · rw [Lib.cell_of_heap e5]
          rw [Lib.cell_of_heap hg] at c4
          rw [five_ne (by omega) (by omega) (by omega) (by omega) (by omega)]
          exact c4
    · have h3' : ((((((w.setCell ⟨g, i * 5, none⟩ v0).setCell ⟨g, i * 5 + 1, none⟩ v1).setCell ⟨g, i * 5 + 2, none⟩ v2).setCell ⟨g, i * 5 + 3, none⟩ (.slice none 0 0)).setCell ⟨g, i * 5 + 4, none⟩ (.slice none 0 0))).heap[g']? = some (.cells cur' 84 (0, 0)) := by
        rw [heap_setCell_other _ ⟨g, i * 5 + 4, none⟩ _ _ hgg, heap_setCell_other _ ⟨g, i * 5 + 3, none⟩ _ _ hgg, heap_setCell_other _ ⟨g, i * 5 + 2, none⟩ _ _ hgg, heap_setCell_other _ ⟨g, i * 5 + 1, none⟩ _ _ hgg, heap_setCell_other _ ⟨g, i * 5, none⟩ _ _ hgg]
        exact h3
      refine ⟨g', cur', h1, h2, h3', h4, fun j hj1 hj2 => ?_⟩
      obtain ⟨ab, nb, cb, al, nl, cl, c3, c4, r3, r4, hn⟩ := h5 j hj1 hj2
      refine ⟨ab, nb, cb, al, nl, cl, ?_, ?_, ((((r3.setCell _ _ _).setCell _ _ _).setCell _ _ _).setCell _ _ _).setCell _ _ _, ((((r4.setCell _ _ _).setCell _ _ _).setCell _ _ _).setCell _ _ _).setCell _ _ _, hn⟩
      · rw [Lib.cell_of_heap h3']; rw [Lib.cell_of_heap h3] at c3; exact c3
      · rw [Lib.cell_of_heap h3']; rw [Lib.cell_of_heap h3] at c4; exact c4
/-- all else may still be written over, and rows of other types stand as they did -/
structure KeepX (base top : Nat) (w w' : World) : Prop where
  spoil : ∀ (fa : Option Addr) (n : Nat), SpoilX w base top fa n → SpoilX w' base top fa n
  other : ∀ (k : Nat) (cur : Array Value) (t : TypeId) (fz : Nat × Nat), w.heap[k]? = some (Obj.cells cur t fz) → t ≠ 3 → t ≠ 87 → t ≠ 84 → w'.heap[k]? = some (Obj.cells cur t fz)
theorem KeepX.refl (base top : Nat) (w : World) : KeepX base top w w := ⟨fun _ _ h => h, fun _ _ _ _ h _ _ _ => h⟩
theorem KeepX.trans {base top : Nat} {w w' w2 : World} (h : KeepX base top w w') (h2 : KeepX base top w' w2) : KeepX base top w w2 := ⟨fun _ _ h' => h2.spoil _ _ (h.spoil _ _ h'), fun _ _ _ _ h' a b c => h2.other _ _ _ _ (h.other _ _ _ _ h' a b c) a b c⟩
theorem KeepX.of_below {base top : Nat} {w w' : World} (hb : Below w.heap.size w w') : KeepX base top w w' := ⟨fun _ _ h => h.below hb, fun _ _ _ _ h _ _ _ => (hb.block _ (Array.getElem?_eq_some_iff.1 h).1).trans h⟩
theorem KeepX.of_wk {T : TypeId} {base top : Nat} {w w' : World} (hk : Wk T base top w w') (hT : T = 3 ∨ T = 87) : KeepX base top w w' := by
  refine ⟨fun _ _ h => h.wk hk (by rcases hT with rfl | rfl <;> decide), fun _ _ _ _ h a b _ => hk.other _ _ _ _ h ?_⟩
  rcases hT with rfl | rfl
  · exact a
  · exact b
theorem KeepX.of_file {w : World} {base top g i : Nat} {v0 v1 v2 : Value} {cur : Array Value} (hg : w.heap[g]? = some (.cells cur 84 (0, 0))) (hi : i * 5 + 4 < cur.size) : KeepX base top w (((((w.setCell ⟨g, i * 5, none⟩ v0).setCell ⟨g, i * 5 + 1, none⟩ v1).setCell ⟨g, i * 5 + 2, none⟩ v2).setCell ⟨g, i * 5 + 3, none⟩ (.slice none 0 0)).setCell ⟨g, i * 5 + 4, none⟩ (.slice none 0 0)) := by
  refine ⟨fun _ _ h => h.file hg hi, fun k cur' t fz h _ _ c => ?_⟩
  have hgg : k ≠ g := fun e => by
    subst e
    rw [hg] at h
    injection h with h
    injection h with _ h _
    exact c h.symm
  rw [heap_setCell_other _ ⟨g, i * 5 + 4, none⟩ _ _ hgg, heap_setCell_other _ ⟨g, i * 5 + 3, none⟩ _ _ hgg, heap_setCell_other _ ⟨g, i * 5 + 2, none⟩ _ _ hgg, heap_setCell_other _ ⟨g, i * 5 + 1, none⟩ _ _ hgg, heap_setCell_other _ ⟨g, i * 5, none⟩ _ _ hgg]
  exact h

set_option maxRecDepth 100000 in
set_option maxHeartbeats 4000000 in
theorem vol_spoilw (d : VolD) (fa : Option Addr) (fc base top : Nat) (w : World) (ho : SpoilX w base top fa d.files.length) (hb : base ≤ w.heap.size) (ht : top ≤ w.heap.size) :
    Calls Try.prog 53 #[.agg #[.int .i64 d.id, .int .i64 d.fr, .bool d.snap, .slice fa d.files.length fc, .int .i64 d.next]] w fun e w' => e = .returned (.tuple #[]) ∧ (Below base w w' ∧ ∀ k, top ≤ k → k < w.heap.size → w'.heap[k]? = w.heap[k]?) ∧ KeepX base top w w' := by
  have HO : Hid (SpoilX w base top fa d.files.length) := ho
  have hnl := ho.1
  clear ho
  obtain ⟨W0, hW0⟩ : ∃ W0, W0 = w.alloc (.cells #[.int .i64 d.id, .int .i64 d.fr, .bool d.snap, .slice fa d.files.length fc, .int .i64 d.next] 32) := ⟨_, rfl⟩
  have HB0 : Hid (Below w.heap.size w W0) := by rw [hW0]; exact nwA (nwR w) _
  have HX0 : Hid (W0.heap[w.heap.size]? = some (.cells #[.int .i64 d.id, .int .i64 d.fr, .bool d.snap, .slice fa d.files.length fc, .int .i64 d.next] 32 (0, 0))) := by rw [hW0]; exact heap_alloc_new w _
  have HBB : Hid (Below base w W0 ∧ ∀ k, top ≤ k → k < w.heap.size → W0.heap[k]? = w.heap[k]?) := ⟨HB0.out.mono hb, fun k _ hk => HB0.out.block k hk⟩
  have HKB : Hid (KeepX base top w W0) := KeepX.of_below HB0.out
  go_enter Try.func53, Try.ntmps53
  go_wp2_with fail
  rw [← hW0]
  clear hW0
  by_cases h0 : d.files.length = 0
  case pos =>
    rw [h0] at HX0 ⊢
    obtain ⟨x0, x1, x2, x3, x4, _⟩ := five HX0.out
    go_loopw [2] (fun ii wr => ii = .int .i64 0 ∧ wr = W0) (fun ii _ => 0)
    case atStart => exact ⟨rfl, rfl⟩
    case round =>
      obtain ⟨rfl, rfl⟩ := hrel
      go_wp2_with fail
      go_end0
      exact ⟨rfl, HBB.out, HKB.out⟩
  case neg =>
  generalize hn : d.files.length = n at HX0 hnl h0 HO ⊢
  clear hn
  obtain ⟨g, cur0, rfl, hgb, hg0, hgc, hre⟩ : ∃ g cur, fa = some ⟨g, 0, none⟩ ∧ (base ≤ g ∧ g < top) ∧ W0.heap[g]? = some (.cells cur 84 (0, 0)) ∧ n * 5 ≤ cur.size ∧ RestX W0 base top g n 0 := by
    rcases (HO.out.below HB0.out).2 with h | h
    · exact absurd h h0
    · exact h
  have HRE : Hid (RestX W0 base top g n 0) := hre
  have HG0 : Hid (∃ cur, W0.heap[g]? = some (.cells cur 84 (0, 0)) ∧ n * 5 ≤ cur.size) := ⟨cur0, hg0, hgc⟩
  have HGN : Hid (g ≠ w.heap.size ∧ base ≤ g ∧ g < top) := ⟨by omega, hgb⟩
  clear hre hg0 hgb hgc HO
  go_loopw [2] (fun ii wr => ∃ (i : Nat), i ≤ n ∧ ii = .int .i64 i ∧ Hid (Below base w wr ∧ ∀ k, top ≤ k → k < w.heap.size → wr.heap[k]? = w.heap[k]?) ∧ Hid (KeepX base top w wr) ∧ Hid (RestX wr base top g n i) ∧ Hid (∃ cur, wr.heap[g]? = some (.cells cur 84 (0, 0)) ∧ n * 5 ≤ cur.size) ∧ Hid (wr.heap[w.heap.size]? = some (.cells #[.int .i64 d.id, .int .i64 d.fr, .bool d.snap, .slice (some ⟨g, 0, none⟩) n fc, .int .i64 d.next] 32 (0, 0)))) (fun ii _ => n - (intOf ii).toNat)
  case atStart => exact ⟨0, by omega, rfl, HBB, HKB, HRE, HG0, HX0⟩
  case round =>
    obtain ⟨i, hi, rfl, HBr, HKr, HRr, HGr, HXr⟩ := hrel
    obtain ⟨x0, x1, x2, x3, x4, _⟩ := five HXr.out
    by_cases hin : (i : Int) < (n : Int)
    case neg =>
      go_wp2_with fail
      go_end0
      exact ⟨rfl, HBr.out, HKr.out⟩
    case pos =>
    have hi0 : (0 : Int) ≤ (i : Int) := by omega
    obtain ⟨ab, nb, cb, al, nl, cl, c3, c4, r3, r4, hnb, hnl2⟩ := HRr.out i (by omega) (by omega)
    have HR4 : Hid (RowX wr base top 87 2 (.slice al nl cl) nl) := r4
    have HC4 : Hid (wr.cell? ⟨g, i * 5 + 4, none⟩ = some (.slice al nl cl)) := c4
    have HNS : Hid (Calls Try.prog 71 #[.slice ab nb cb] wr fun e w' => e = .returned (.tuple #[]) ∧ Wk 3 base top wr w') := nums_spoil ab nb cb base top wr r3 hnb
    clear r3 r4 c4
    go_wp2_with fail
    refine HNS.out.mono ?_
    rintro e w2 ⟨rfl, hk2⟩
    obtain ⟨cur, hg, hgc⟩ := HGr.out
    have HRE2 : Hid (RestX w2 base top g n i) := HRr.out.wk hk2 hg (by decide)
    have HG2 : Hid (∃ cur, w2.heap[g]? = some (.cells cur 84 (0, 0)) ∧ n * 5 ≤ cur.size) := ⟨cur, hk2.other _ _ _ _ hg (by decide), hgc⟩
    have HX2 : Hid (w2.heap[w.heap.size]? = some (.cells #[.int .i64 d.id, .int .i64 d.fr, .bool d.snap, .slice (some ⟨g, 0, none⟩) n fc, .int .i64 d.next] 32 (0, 0))) := hk2.other _ _ _ _ HXr.out (by decide)
    have HB2 : Hid (Below base w w2 ∧ ∀ k, top ≤ k → k < w.heap.size → w2.heap[k]? = w.heap[k]?) := ⟨HBr.out.1.trans hk2.below, fun k h1 h2 => (hk2.out k h1 (by have := HBr.out.1.size; omega)).trans (HBr.out.2 k h1 h2)⟩
    have HK2 : Hid (KeepX base top w w2) := HKr.out.trans (KeepX.of_wk hk2 (.inl rfl))
    have HR42 : Hid (RowX w2 base top 87 2 (.slice al nl cl) nl) := hk2.rows _ _ _ _ HR4.out
    have HC42 : Hid (w2.cell? ⟨g, i * 5 + 4, none⟩ = some (.slice al nl cl)) := by
      show _ = _
      rw [Lib.cell_of_heap (hk2.other _ _ _ _ hg (by decide))]
      have := HC4.out
      rw [Lib.cell_of_heap hg] at this; exact this
    clear hk2 hg hgc HNS HRr HGr HXr HBr HKr HR4 HC4 x0 x1 x2 x3 x4 c3 cur
    go_wp2_with fail
    go_loopw [3] (fun kk wr2 => ∃ (k : Nat), k ≤ nl ∧ kk = .int .i64 k ∧ Wk 87 base top w2 wr2) (fun kk _ => nl - (intOf kk).toNat)
    case atStart => exact ⟨0, by omega, rfl, Wk.refl _ _ _ _⟩
    case round =>
      obtain ⟨k, hk, rfl, hw⟩ := hrel
      have HW : Hid (Wk 87 base top w2 wr) := hw
      obtain ⟨cur, hg, hgc⟩ := HG2.out
      have hg2 := hw.other _ _ _ _ hg (by decide)
      obtain ⟨x0, x1, x2, x3, x4, _⟩ := five (hw.other _ _ _ _ HX2.out (by decide))
      have c4 : wr.cell? ⟨g, i * 5 + 4, none⟩ = some (.slice al nl cl) := by
        rw [Lib.cell_of_heap hg2]
        have := HC42.out
        rw [Lib.cell_of_heap hg] at this; exact this
      by_cases hkn : (k : Int) < (nl : Int)
      case pos =>
        have hk0 : (0 : Int) ≤ (k : Int) := by omega
        obtain ⟨gl, curl, rfl, hbl, hgl, hcl, hfl⟩ := (hw.rows _ _ _ _ HR42.out).cell (by omega)
        obtain ⟨u0, y0⟩ := hcl (k * 2) (by omega)
        obtain ⟨u1, y1⟩ := hcl (k * 2 + 1) (by omega)
        have f0' := hfl (k * 2)
        have f1' := hfl (k * 2 + 1)
        have HW3 : Hid (∀ a b, Wk 87 base top w2 ((wr.setCell ⟨gl, k * 2, none⟩ a).setCell ⟨gl, k * 2 + 1, none⟩ b)) := fun a b => (HW.out.store hgl hbl _ a).store (heap_setCell_same wr gl (k * 2) _ 87 a hgl) hbl _ b
        clear hw hg hgc hg2 hcl hfl hgl
        go_wp2_with fail
        go_roundw
        case rel => exact ⟨k + 1, by omega, by go_num, HW3.out _ _⟩
        case measure => simp [intOf]; omega
      case neg =>
        have HB3 : Hid (Below base w wr ∧ ∀ k, top ≤ k → k < w.heap.size → wr.heap[k]? = w.heap[k]?) := ⟨HB2.out.1.trans hw.below, fun k h1 h2 => (hw.out k h1 (by have := HB2.out.1.size; omega)).trans (HB2.out.2 k h1 h2)⟩
        have HK3 : Hid (KeepX base top w wr) := HK2.out.trans (KeepX.of_wk hw (.inr rfl))
        have HRE3 : Hid (RestX wr base top g n i) := HRE2.out.wk hw hg (by decide)
        have HX3 : Hid (wr.heap[w.heap.size]? = some (.cells #[.int .i64 d.id, .int .i64 d.fr, .bool d.snap, .slice (some ⟨g, 0, none⟩) n fc, .int .i64 d.next] 32 (0, 0))) := hw.other _ _ _ _ HX2.out (by decide)
        have HG3 : Hid (wr.heap[g]? = some (.cells cur 84 (0, 0)) ∧ n * 5 ≤ cur.size) := ⟨hg2, hgc⟩
        have hcell : ∀ j, j < n * 5 → ∃ u, wr.cell? ⟨g, j, none⟩ = some u := fun j hj => ⟨cur[j]'(by omega), by rw [Lib.cell_of_heap hg2]; exact Array.getElem?_eq_getElem (by omega)⟩
        obtain ⟨u0, y0⟩ := hcell (i * 5) (by omega)
        obtain ⟨u1, y1⟩ := hcell (i * 5 + 1) (by omega)
        obtain ⟨u2, y2⟩ := hcell (i * 5 + 2) (by omega)
        obtain ⟨u3', y3⟩ := hcell (i * 5 + 3) (by omega)
        have y4 := c4
        have hff : ∀ j, wr.frozen? ⟨g, j, none⟩ = false := fun j => Lib.frozen_of_heap hg2 j
        have f0' := hff (i * 5)
        have f1' := hff (i * 5 + 1)
        have f2' := hff (i * 5 + 2)
        have f3' := hff (i * 5 + 3)
        have f4' := hff (i * 5 + 4)
        clear hw hg hgc hg2 hcell hff c4 HW
        go_wp2_with fail
        go_roundw
        case rel =>
          refine ⟨i + 1, by omega, by go_num, ?_, HK3.out.trans (KeepX.of_file HG3.out.1 (by have := HG3.out.2; omega)), HRE3.out.file HG3.out.1, ?_, ?_⟩
          · refine ⟨((((HB3.out.1.setCell (p := ⟨g, i * 5, none⟩) HGN.out.2.1 _).setCell (p := ⟨g, i * 5 + 1, none⟩) HGN.out.2.1 _).setCell (p := ⟨g, i * 5 + 2, none⟩) HGN.out.2.1 _).setCell (p := ⟨g, i * 5 + 3, none⟩) HGN.out.2.1 _).setCell (p := ⟨g, i * 5 + 4, none⟩) HGN.out.2.1 _, fun k h1 h2 => ?_⟩
            have hne : k ≠ g := by have := HGN.out.2.2; omega
            rw [heap_setCell_other _ ⟨g, i * 5 + 4, none⟩ _ _ hne, heap_setCell_other _ ⟨g, i * 5 + 3, none⟩ _ _ hne, heap_setCell_other _ ⟨g, i * 5 + 2, none⟩ _ _ hne, heap_setCell_other _ ⟨g, i * 5 + 1, none⟩ _ _ hne, heap_setCell_other _ ⟨g, i * 5, none⟩ _ _ hne]
            exact HB3.out.2 k h1 h2
          · exact ⟨_, heap_setCell_same _ g (i * 5 + 4) _ 84 _ (heap_setCell_same _ g (i * 5 + 3) _ 84 _ (heap_setCell_same _ g (i * 5 + 2) _ 84 _ (heap_setCell_same _ g (i * 5 + 1) _ 84 _ (heap_setCell_same _ g (i * 5) _ 84 _ HG3.out.1)))), by simpa using HG3.out.2⟩
          · show _ = _
            have hne : w.heap.size ≠ g := fun e => HGN.out.1 e.symm
            rw [heap_setCell_other _ ⟨g, i * 5 + 4, none⟩ _ _ hne, heap_setCell_other _ ⟨g, i * 5 + 3, none⟩ _ _ hne, heap_setCell_other _ ⟨g, i * 5 + 2, none⟩ _ _ hne, heap_setCell_other _ ⟨g, i * 5 + 1, none⟩ _ _ hne, heap_setCell_other _ ⟨g, i * 5, none⟩ _ _ hne]
            exact HX3.out
        case measure => simp [intOf]; omega


end Go.Proofs.Ytodahdnnlkcfdaa

/- Volumes written over, by the law. -/
namespace Go.Proofs.Ytodahdnnlkcfdaa
open Go.RowKit

theorem SpoilX.tag {w : World} {base top : Nat} {fa : Option Addr} {n G : Nat} {cur : Array Value} {t : TypeId} (h : SpoilX w base top fa n) (hG : w.heap[G]? = some (.cells cur t (0, 0))) (ht : t ≠ 84) (o : Nat) (u : Value) : SpoilX (w.setCell ⟨G, o, none⟩ u) base top fa n := by
  obtain ⟨h0, h⟩ := h
  refine ⟨h0, ?_⟩
  rcases h with h | ⟨g, cur', h1, h2, h3, h4, h5⟩
  · exact .inl h
  · have hne : g ≠ G := fun e => by
      subst e
      rw [hG] at h3
      injection h3 with h3
      injection h3 with _ h3 _
      exact ht h3
    have h3' : (w.setCell ⟨G, o, none⟩ u).heap[g]? = some (.cells cur' 84 (0, 0)) := (heap_setCell_other w ⟨G, o, none⟩ g u hne).trans h3
    refine .inr ⟨g, cur', h1, h2, h3', h4, fun j hj1 hj2 => ?_⟩
    obtain ⟨ab, nb, cb, al, nl, cl, c3, c4, r3, r4, hn⟩ := h5 j hj1 hj2
    refine ⟨ab, nb, cb, al, nl, cl, ?_, ?_, r3.setCell _ _ _, r4.setCell _ _ _, hn⟩
    · rw [Lib.cell_of_heap h3']; rw [Lib.cell_of_heap h3] at c3; exact c3
    · rw [Lib.cell_of_heap h3']; rw [Lib.cell_of_heap h3] at c4; exact c4
/-- what of the volumes is not yet written over -/
def VolsX (w : World) (base top G n i : Nat) : Prop := ∃ cur, w.heap[G]? = some (.cells cur 32 (0, 0)) ∧ n * 5 ≤ cur.size ∧ ∀ j, i ≤ j → j < n → ∃ id fr snap fa nf fc nx, cur[j * 5]? = some (.int .i64 id) ∧ cur[j * 5 + 1]? = some (.int .i64 fr) ∧ cur[j * 5 + 2]? = some (.bool snap) ∧ cur[j * 5 + 3]? = some (.slice fa nf fc) ∧ cur[j * 5 + 4]? = some (.int .i64 nx) ∧ SpoilX w base top fa nf
theorem VolsX.set {w : World} {base top G n i : Nat} {v0 v1 v2 v3 v4 : Value} (h : VolsX w base top G n i) :
    VolsX (((((w.setCell ⟨G, i * 5, none⟩ v0).setCell ⟨G, i * 5 + 1, none⟩ v1).setCell ⟨G, i * 5 + 2, none⟩ v2).setCell ⟨G, i * 5 + 3, none⟩ v3).setCell ⟨G, i * 5 + 4, none⟩ v4) base top G n (i + 1) := by
  obtain ⟨cur, hg, hc, ha⟩ := h
  have e1 := heap_setCell_same w G (i * 5) _ 32 v0 hg
  have e2 := heap_setCell_same _ G (i * 5 + 1) _ 32 v1 e1
  have e3 := heap_setCell_same _ G (i * 5 + 2) _ 32 v2 e2
  have e4 := heap_setCell_same _ G (i * 5 + 3) _ 32 v3 e3
  have e5 := heap_setCell_same _ G (i * 5 + 4) _ 32 v4 e4
  refine ⟨_, e5, by simpa using hc, fun j hj1 hj2 => ?_⟩
  obtain ⟨id, fr, snap, fa, nf, fc, nx, c0, c1, c2, c3, c4, hs⟩ := ha j (by omega) hj2
  refine ⟨id, fr, snap, fa, nf, fc, nx, ?_, ?_, ?_, ?_, ?_, ((((hs.tag hg (by decide) _ _).tag e1 (by decide) _ _).tag e2 (by decide) _ _).tag e3 (by decide) _ _).tag e4 (by decide) _ _⟩
  all_goals
    rw [five_ne (by omega) (by omega) (by omega) (by omega) (by omega)]
    assumption
theorem VolsX.keep {w w' : World} {base top G n i : Nat} (h : VolsX w base top G n i) (hk : KeepX base top w w') : VolsX w' base top G n i := by
  obtain ⟨cur, hg, hc, ha⟩ := h
  refine ⟨cur, hk.other _ _ _ _ hg (by decide) (by decide) (by decide), hc, fun j hj1 hj2 => ?_⟩
  obtain ⟨id, fr, snap, fa, nf, fc, nx, c0, c1, c2, c3, c4, hs⟩ := ha j hj1 hj2
  exact ⟨id, fr, snap, fa, nf, fc, nx, c0, c1, c2, c3, c4, hk.spoil _ _ hs⟩
theorem VolsX.of_own {w : World} {base g cap : Nat} {ds : List VolD} (h : OwnVols w base (.slice (some ⟨g, 0, none⟩) ds.length cap) ds) (hs : SmallW ds) : VolsX w base w.heap.size g ds.length 0 ∧ base ≤ g ∧ g < w.heap.size := by
  obtain ⟨gs, hgs, hl, hrow, hall⟩ : ∃ gs : List VV, gs.map VV.d = ds ∧ gs.length = ds.length ∧ w.ownsRow base 32 5 (.slice (some ⟨g, 0, none⟩) ds.length cap) ds.length (vflat gs) ∧ ∀ x ∈ gs, OwnFiles w base x.fv x.d.files := by
    obtain ⟨gs, e, hr, ha⟩ := h
    have hl : gs.length = ds.length := by rw [← e, List.length_map]
    exact ⟨gs, e, hl, by rw [← hl]; rw [← hl] at hr; exact hr, ha⟩
  obtain ⟨cur, hg⟩ := own_tag hrow g rfl
  have hbg := (World.ownsRow.lt hrow g rfl).1
  have hrw : RowW w base g ds.length cap gs := hrow
  refine ⟨⟨cur, hg, ?_, fun j _ hj => ?_⟩, hbg, (Array.getElem?_eq_some_iff.1 hg).1⟩
  · rcases hrow.2 with ⟨h1, _⟩ | ⟨g', cap', cur', h1, _, h3, h4, _, h6, _⟩
    · simp at h1
    · simp only [Value.slice.injEq, Option.some.injEq, Addr.mk.injEq, and_true, true_and] at h1
      obtain ⟨rfl, rfl⟩ := h1
      rw [hg] at h3
      injection h3 with h3
      injection h3 with h3 _ _
      subst h3
      rw [h6]; exact Nat.mul_le_mul_right _ h4
  · have hjg : j < gs.length := by omega
    obtain ⟨c0, c1, c2, c3, c4⟩ := hrw.cellAt (List.getElem?_eq_getElem hjg)
    have hof := hall gs[j] (List.getElem_mem hjg)
    obtain ⟨fa, fc, ef, _, _⟩ := hof.at
    rw [ef] at c3 hof
    have hsm := hs.2 gs[j].d (by rw [← hgs]; exact List.mem_map.2 ⟨_, List.getElem_mem hjg, rfl⟩)
    rw [Lib.cell_of_heap hg] at c0 c1 c2 c3 c4
    exact ⟨_, _, _, fa, _, fc, _, c0, c1, c2, c3, c4, SpoilX.of_own hof hsm.1 hsm.2⟩

set_option maxRecDepth 100000 in
set_option maxHeartbeats 4000000 in
theorem vols_spoil (a : Option Addr) (n ca base top : Nat) (w : World) (ho : n = 0 ∨ ∃ G, a = some ⟨G, 0, none⟩ ∧ base ≤ G ∧ G < top ∧ VolsX w base top G n 0) (hn : n ≤ 100000) (hb : base ≤ w.heap.size) (ht : top ≤ w.heap.size) :
    Calls Try.prog 35 #[.slice a n ca] w fun e w' => e = .returned (.tuple #[]) ∧ Below base w w' ∧ ∀ k, top ≤ k → k < w.heap.size → w'.heap[k]? = w.heap[k]? := by
  rcases ho with rfl | ⟨G, rfl, hbG, hGt, hvx⟩
  · go_enter Try.func35, Try.ntmps35
    go_wp2_with fail
    go_loopw [2] (fun ii wr => ii = .int .i64 0 ∧ wr = w) (fun ii _ => 0)
    case atStart => exact ⟨rfl, rfl⟩
    case round =>
      obtain ⟨rfl, rfl⟩ := hrel
      go_wp2_with fail
      go_end0
      exact ⟨rfl, Below.refl _ _, fun _ _ _ => rfl⟩
  · have HVX : Hid (VolsX w base top G n 0) := hvx
    clear hvx
    go_enter Try.func35, Try.ntmps35
    go_wp2_with fail
    go_loopw [2] (fun ii wr => ∃ (i : Nat), i ≤ n ∧ ii = .int .i64 i ∧ Hid (Below base w wr ∧ ∀ k, top ≤ k → k < w.heap.size → wr.heap[k]? = w.heap[k]?) ∧ Hid (VolsX wr base top G n i)) (fun ii _ => n - (intOf ii).toNat)
    case atStart => exact ⟨0, by omega, rfl, ⟨Below.refl _ _, fun _ _ _ => rfl⟩, HVX⟩
    case round =>
      obtain ⟨i, hi, rfl, HBr, HVr⟩ := hrel
      by_cases hin : (i : Int) < (n : Int)
      case neg =>
        go_wp2_with fail
        go_end0
        exact ⟨rfl, HBr.out⟩
      case pos =>
      have hi0 : (0 : Int) ≤ (i : Int) := by omega
      obtain ⟨cur, hg, hc, ha⟩ := HVr.out
      obtain ⟨id, fr, snap, fa, nf, fc, nx, c0, c1, c2, c3, c4, hs⟩ := ha i (Nat.le_refl _) (by omega)
      rw [← Lib.cell_of_heap hg] at c0 c1 c2 c3 c4
      have hsz := HBr.out.1.size
      have HVS : Hid (Calls Try.prog 53 #[.agg #[.int .i64 id, .int .i64 fr, .bool snap, .slice fa nf fc, .int .i64 nx]] wr fun e w' => e = .returned (.tuple #[]) ∧ (Below base wr w' ∧ ∀ k, top ≤ k → k < wr.heap.size → w'.heap[k]? = wr.heap[k]?) ∧ KeepX base top wr w') := by
        have h := vol_spoilw ⟨id, fr, snap, List.replicate nf f0, nx⟩ fa fc base top wr (by simpa using hs) (by omega) (by omega)
        simp only [List.length_replicate] at h
        exact h
      clear hs ha hc hg
      go_wp2_with fail
      refine HVS.out.mono ?_
      rintro e w2 ⟨rfl, ⟨hb2, ho2⟩, hk2⟩
      have HV2 : Hid (VolsX w2 base top G n i) := HVr.out.keep hk2
      have HB2 : Hid (Below base w w2 ∧ ∀ k, top ≤ k → k < w.heap.size → w2.heap[k]? = w.heap[k]?) := ⟨HBr.out.1.trans hb2, fun k h1 h2 => (ho2 k h1 (by omega)).trans (HBr.out.2 k h1 h2)⟩
      obtain ⟨cur2, hg2, hc2, _⟩ := HV2.out
      have hcell : ∀ j, j < n * 5 → ∃ u, w2.cell? ⟨G, j, none⟩ = some u := fun j hj => ⟨cur2[j]'(by omega), by rw [Lib.cell_of_heap hg2]; exact Array.getElem?_eq_getElem (by omega)⟩
      obtain ⟨u0, y0⟩ := hcell (i * 5) (by omega)
      obtain ⟨u1, y1⟩ := hcell (i * 5 + 1) (by omega)
      obtain ⟨u2', y2⟩ := hcell (i * 5 + 2) (by omega)
      obtain ⟨u3, y3⟩ := hcell (i * 5 + 3) (by omega)
      obtain ⟨u4, y4⟩ := hcell (i * 5 + 4) (by omega)
      have hff : ∀ j, w2.frozen? ⟨G, j, none⟩ = false := fun j => Lib.frozen_of_heap hg2 j
      clear hb2 ho2 hk2 HVS HVr HBr hg2 hc2 hcell c0 c1 c2 c3 c4
      go_wp2_with fail
      go_roundw
      case rel =>
        refine ⟨i + 1, by omega, by go_num, ⟨((((HB2.out.1.setCell (p := ⟨G, i * 5, none⟩) hbG _).setCell (p := ⟨G, i * 5 + 1, none⟩) hbG _).setCell (p := ⟨G, i * 5 + 2, none⟩) hbG _).setCell (p := ⟨G, i * 5 + 3, none⟩) hbG _).setCell (p := ⟨G, i * 5 + 4, none⟩) hbG _, fun k h1 h2 => ?_⟩, HV2.out.set⟩
        have hne : k ≠ G := by omega
        rw [heap_setCell_other _ ⟨G, i * 5 + 4, none⟩ _ _ hne, heap_setCell_other _ ⟨G, i * 5 + 3, none⟩ _ _ hne, heap_setCell_other _ ⟨G, i * 5 + 2, none⟩ _ _ hne, heap_setCell_other _ ⟨G, i * 5 + 1, none⟩ _ _ hne, heap_setCell_other _ ⟨G, i * 5, none⟩ _ _ hne]
        exact HB2.out.2 k h1 h2
      case measure => simp [intOf]; omega

end Go.Proofs.Ytodahdnnlkcfdaa
