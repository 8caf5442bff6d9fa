/- Laid together: Devm, Grp, Grpm, Clon, Findg, Sift. -/
import Derived.Test.YtheomnafmjmpdaaRoomN4
/- Whether a device may be, by the program. -/
namespace Go.Proofs.Ytheomnafmjmpdaa
open Go.RowKit

def SaysB (e : Ending) (P : Prop) : Prop := ∃ b : Bool, e = .returned (.bool b) ∧ (b = true ↔ P)
theorem says_no {P : Prop} (h : ¬ P) : SaysB (.returned (.bool false)) P := ⟨false, rfl, by simp [h]⟩
theorem says_yes {P : Prop} (h : P) : SaysB (.returned (.bool true)) P := ⟨true, rfl, by simp [h]⟩
def partD (d : DevD) (k : Nat) : List (Int × Int) := if k = 0 then d.free else d.late
theorem notOk_iff (l : List (Int × Int)) (n : Int) : notOk l n = true ↔ vOk l = true ∧ 0 ≤ n ∧ n ≤ 64 ∧ endL l ≤ n := by
  unfold notOk
  simp only [Bool.and_eq_true, decide_eq_true_eq]

set_option maxRecDepth 100000 in
set_option maxHeartbeats 4000000 in
theorem dmayBe_any (b o : Nat) (d : DevD) (w : World) (hd : DevIn w b o d) (hs : SmallD d) :
    Calls Try.prog 77 #[.agg #[.pointer (some ⟨b, o, none⟩)]] w fun e w' => SaysB e (DevOk d) ∧ Below w.heap.size w w' := by
  have hlt := hd.lt
  have HSM : Hid (SmallD d) := hs
  obtain ⟨af, cf, al, cl, ⟨c0, c1, c2, c3⟩, hf, hl⟩ := hd
  obtain ⟨W0, hW0⟩ : ∃ W0, W0 = w.alloc (.cells #[.pointer (some ⟨b, o, none⟩)] 78) := ⟨_, rfl⟩
  have HB : Hid (Below w.heap.size w W0) := by rw [hW0]; exact nwA (nwR w) _
  have hx : W0.heap[w.heap.size]? = some (.cells #[.pointer (some ⟨b, o, none⟩)] 78 (0, 0)) := by rw [hW0]; exact heap_alloc_new w _
  have HX : Hid (∀ w', Below W0.heap.size W0 w' → w'.cell? ⟨w.heap.size, 0, none⟩ = some (.pointer (some ⟨b, o, none⟩))) := fun w' h => (one ((h.block _ (Array.getElem?_eq_some_iff.1 hx).1).trans hx)).1
  have HC : Hid (∀ w', Below W0.heap.size W0 w' → w'.cell? ⟨b, o, none⟩ = some (.int .i64 d.id) ∧ w'.cell? ⟨b, o + 1, none⟩ = some (.int .i64 d.size) ∧ w'.cell? ⟨b, o + 2, none⟩ = some (.slice af d.free.length cf) ∧ w'.cell? ⟨b, o + 3, none⟩ = some (.slice al d.late.length cl)) := fun w' h => ⟨((nwT HB.out h).cell (p := ⟨b, o, none⟩) hlt).trans c0, ((nwT HB.out h).cell (p := ⟨b, o + 1, none⟩) hlt).trans c1, ((nwT HB.out h).cell (p := ⟨b, o + 2, none⟩) hlt).trans c2, ((nwT HB.out h).cell (p := ⟨b, o + 3, none⟩) hlt).trans c3⟩
  have HF : Hid (∀ w', Below W0.heap.size W0 w' → SegsAt w' af d.free) := fun w' h => (hf.below (nwT HB.out h)).1
  have HL : Hid (∀ w', Below W0.heap.size W0 w' → SegsAt w' al d.late) := fun w' h => (hl.below (nwT HB.out h)).1
  clear hf hl hs hx
  by_cases h1 : 1 ≤ d.id ∧ d.id ≤ 40 ∧ 1 ≤ d.size ∧ d.size ≤ 64
  case neg =>
    have HN : Hid (¬ DevOk d) := fun h => h1 ⟨h.id0, h.id1, h.sz0, h.sz1⟩
    have hcs : d.id < 1 ∨ (¬ d.id < 1 ∧ 40 < d.id) ∨ (¬ d.id < 1 ∧ ¬ 40 < d.id ∧ d.size < 1) ∨ (¬ d.id < 1 ∧ ¬ 40 < d.id ∧ ¬ d.size < 1 ∧ 64 < d.size) := by omega
    clear h1
    rcases hcs with h1 | ⟨h1, h2⟩ | ⟨h1, h2, h3⟩ | ⟨h1, h2, h3, h4⟩
    all_goals
      go_enter Try.func77, Try.ntmps77
      go_wp2_with fail
      go_ret
      exact ⟨says_no HN.out, nwA (nwR w) _⟩
  case pos =>
  obtain ⟨h1, h2, h3, h4⟩ := h1
  have h1' : ¬ d.id < 1 := by omega
  have h2' : ¬ 40 < d.id := by omega
  have h3' : ¬ d.size < 1 := by omega
  have h4' : ¬ 64 < d.size := by omega
  go_enter Try.func77, Try.ntmps77
  go_upto_region 3 with fail
  rw [← hW0]
  clear hW0 c0 c1 c2 c3
  obtain ⟨c0, c1, c2, c3⟩ := HC.out _ (nwR W0)
  have x0 := HX.out _ (nwR W0)
  go_region
  obtain ⟨W1, hW1⟩ : ∃ W1, W1 = (W0.alloc (.cells #[.slice af d.free.length cf, .slice al d.late.length cl] 49)).drew := ⟨_, rfl⟩
  have hb01 : Below W0.heap.size W0 W1 := by rw [hW1]; exact Below.drew (nwA (nwR W0) _)
  have hr1 : W1.heap[W0.heap.size]? = some (.cells #[.slice af d.free.length cf, .slice al d.late.length cl] 49 (0, 0)) := by rw [hW1]; exact heap_alloc_new W0 _
  have HB1 : Hid (Below W0.heap.size W0 W1) := hb01
  have HR : Hid (∀ w', Below W1.heap.size W1 w' → ∀ k, k < 2 → ∃ a c, w'.cell? ⟨W0.heap.size, k, none⟩ = some (.slice a (partD d k).length c) ∧ SegsAt w' a (partD d k) ∧ (partD d k).length ≤ maxLen) := fun w' h k hk => by
    obtain ⟨r0, r1, _⟩ := two ((h.block _ (Array.getElem?_eq_some_iff.1 hr1).1).trans hr1)
    have hk2 : k = 0 ∨ k = 1 := by omega
    rcases hk2 with rfl | rfl
    · exact ⟨af, cf, r0, HF.out _ (nwT HB1.out h), len_max HSM.out.1⟩
    · exact ⟨al, cl, r1, HL.out _ (nwT HB1.out h), len_max HSM.out.2⟩
  rw [← hW1]
  clear hW1 hb01 hr1 c0 c1 c2 c3 x0
  go_wp2_with fail
  go_loopw [51] (fun i wr => ∃ (k : Nat), k ≤ 2 ∧ i = .int .i64 k ∧ Below W1.heap.size W1 wr ∧ Hid (∀ j, j < k → notOk (partD d j) d.size = true)) (fun i _ => 2 - (intOf i).toNat)
  case atStart => exact ⟨0, by omega, rfl, nwR W1, fun j hj => by omega⟩
  case round =>
    obtain ⟨k, hk, rfl, hb, HE⟩ := hrel
    have HBR : Hid (Below W0.heap.size W0 wr) := nwT HB1.out hb
    have HBW : Hid (Below w.heap.size w wr) := nwT HB.out HBR.out
    obtain ⟨c0, c1, c2, c3⟩ := HC.out _ HBR.out
    have x0 := HX.out _ HBR.out
    by_cases hk2 : k < 2
    · have hki : (k : Int) < 2 := by omega
      have hk0 : (0 : Int) ≤ (k : Int) := by omega
      obtain ⟨a, c, hcell, hsg, hln⟩ := HR.out wr hb k hk2
      have HSG : Hid (SegsAt wr a (partD d k) ∧ (partD d k).length ≤ maxLen) := ⟨hsg, hln⟩
      have HK : Hid (notOk (partD d k) d.size = true → ∀ j, j < k + 1 → notOk (partD d j) d.size = true) := fun h j hj => by
        by_cases e : j = k
        · subst e; exact h
        · exact HE.out j (by omega)
      have HN : Hid (¬ notOk (partD d k) d.size = true → ¬ DevOk d) := fun h hok => h (by
        rw [notOk_iff]
        have h5 := hok.sz0
        have h6 := hok.sz1
        unfold partD
        split
        · exact ⟨hok.free, by omega, by omega, hok.ef⟩
        · exact ⟨hok.late, by omega, by omega, hok.el⟩)
      generalize partD d k = l at hcell HSG HK HN
      clear hsg hln
      go_wp2_with fail
      refine (not_any a l c d.size wr HSG.out.1 HSG.out.2).mono ?_
      rintro e w2 ⟨v, rfl, _, hb2⟩
      have hb3 := nwT hb hb2
      have HB3 : Hid (Below w.heap.size w w2) := nwT HBW.out hb2
      clear c0 c1 c2 c3 x0 hcell hb2
      cases hno : notOk l d.size
      case false =>
        have HQ := says_no (HN.out (by rw [hno]; simp))
        have HQ2 : Hid (SaysB (.returned (.bool false)) (DevOk d)) := HQ
        clear hno HQ
        go_wp2_with fail
        go_ret
        exact ⟨HQ2.out, HB3.out⟩
      case true =>
        have HY := HK.out hno
        have HY2 : Hid (∀ j, j < k + 1 → notOk (partD d j) d.size = true) := HY
        clear hno HY
        go_wp2_with fail
        go_roundw
        case rel => exact ⟨k + 1, by omega, by go_num, hb3, HY2⟩
        case measure => simp [intOf]; omega
    · have hki : ¬ (k : Int) < 2 := by omega
      have HNO : Hid (DevOk d ↔ (segsOf fun k => memS d.free k && memS d.late k).length = 0) := by
        have f0 := (notOk_iff _ _).1 (HE.out 0 (by omega))
        have f1 := (notOk_iff _ _).1 (HE.out 1 (by omega))
        have e0 : partD d 0 = d.free := rfl
        have e1 : partD d 1 = d.late := rfl
        rw [e0] at f0
        rw [e1] at f1
        exact ⟨fun h => h.both, fun h => ⟨h1, h2, h3, h4, f0.1, f1.1, f0.2.2.2, f1.2.2.2, h⟩⟩
      have HBO : Hid (bothOf d.free d.late = segsOf fun k => memS d.free k && memS d.late k) := by
        have f0 := (notOk_iff _ _).1 (HE.out 0 (by omega))
        have f1 := (notOk_iff _ _).1 (HE.out 1 (by omega))
        have t : twoOk d.free d.late = true := by unfold twoOk; rw [show vOk d.free = true from f0.1, show vOk d.late = true from f1.1]; rfl
        show _ = _
        unfold bothOf
        rw [if_pos t]
      have HBC : Hid (∀ w', Below wr.heap.size wr w' → Calls Try.prog 87 #[.slice af d.free.length cf, .slice al d.late.length cl] w' fun e w'' => (∃ a n c er, e = .returned (.tuple #[.slice a n c, .int .i64 er]) ∧ (n = 0 ↔ DevOk d)) ∧ Below w'.heap.size w' w'') := fun w' h => by
        refine (both_any af al d.free d.late cf cl w' (HF.out _ (nwT HBR.out h)) (HL.out _ (nwT HBR.out h)) (len_max HSM.out.1) (len_max HSM.out.2)).mono ?_
        rintro e w'' ⟨v, rfl, ho, hbb⟩
        obtain ⟨a, c, rfl, _⟩ := ho.segV
        exact ⟨⟨a, _, c, _, rfl, by rw [HBO.out]; exact HNO.out.symm⟩, hbb⟩
      have q0 : ∀ w', Below wr.heap.size wr w' → w'.cell? ⟨w.heap.size, 0, none⟩ = some (.pointer (some ⟨b, o, none⟩)) := fun w' h => HX.out _ (nwT HBR.out h)
      have q2 : ∀ w', Below wr.heap.size wr w' → w'.cell? ⟨b, o + 2, none⟩ = some (.slice af d.free.length cf) := fun w' h => (HC.out _ (nwT HBR.out h)).2.2.1
      have q3 : ∀ w', Below wr.heap.size wr w' → w'.cell? ⟨b, o + 3, none⟩ = some (.slice al d.late.length cl) := fun w' h => (HC.out _ (nwT HBR.out h)).2.2.2
      have hS := nwR wr
      clear c0 c1 c2 c3 x0
      go_wp2_with fail
      go_region_held3 (fun w' => Below wr.heap.size wr w') (first | assumption | exact Below.drew (by assumption) | exact nwT (by assumption) (by assumption)) (first
        | (go_at_call 87; refine (HBC.out _ (by first | assumption | exact Below.drew (by assumption))).mono ?_; rintro e wC ⟨⟨aC, nC, cC, er, rfl, hnC⟩, hbC⟩; have HNC : Hid (nC = 0 ↔ DevOk d) := hnC; clear hnC)
        | fail)
      all_goals
        have hq : Below wr.heap.size wr ‹World› := by assumption
        have HQ : Hid (Below w.heap.size w ‹World›) := nwT HBW.out hq
        go_wp2_with fail
        go_ret
        exact ⟨⟨((nC : Int) == 0), rfl, by rw [beq_iff_eq]; exact Iff.trans (by omega) HNC.out⟩, HQ.out⟩

end Go.Proofs.Ytheomnafmjmpdaa

/- Groups of devices, by the program: made, asked. -/
namespace Go.Proofs.Ytheomnafmjmpdaa
open Go.RowKit

theorem OwnGrp.snoc {w : World} {base : Nat} {v : Value} {b o k : Nat} {ks : List Nat} (h : w.ownsRow base 78 1 v (ks.length + 1) (ks.map (ptrD b o) ++ [ptrD b o k])) : OwnGrp w base v b o (ks ++ [k]) := by
  unfold OwnGrp
  rw [List.map_append, List.length_append]; exact h
theorem range_getD {n i : Nat} (h : i < n) : (List.range n).getD i 0 = i := by simp [List.getD, h]

set_option maxRecDepth 100000 in
set_option maxHeartbeats 2000000 in
theorem groupOf_any (a : Option Addr) (b o n c : Nat) (w : World) (ha : n = 0 ∨ a = some ⟨b, o, none⟩) (hl : n ≤ 1000) :
    Calls Try.prog 53 #[.slice a n c] w fun e w' => (∃ v, e = .returned v ∧ OwnGrp w' w.heap.size v b o (List.range n)) ∧ Below w.heap.size w w' := by
  obtain ⟨i0, hi, hz0, hz1, hz2⟩ := info_parts Try.info78
  go_enter Try.func53, Try.ntmps53
  go_wp2_with fail
  go_loopw [3, 7] (fun v i wr => ∃ (k : Nat), k ≤ n ∧ i = .int .i64 k ∧ OwnGrp wr w.heap.size v b o (List.range k) ∧ Below w.heap.size w wr)
    (fun _ i _ => n - (intOf i).toNat)
  case atStart => exact ⟨0, by omega, rfl, World.ownsRow_nil _ _ _ _, nwR w⟩
  case round =>
    obtain ⟨k, hk, rfl, hO, hb⟩ := hrel
    have HO : Hid (OwnGrp wr w.heap.size u3 b o (List.range k)) := hO
    clear hO
    by_cases hkl : k < n
    · have hkli : (k : Int) < (n : Int) := by omega
      obtain rfl : a = some ⟨b, o, none⟩ := by rcases ha with h | h; · omega
                                               · exact h
      have hk0 : (0 : Int) ≤ (k : Int) := by omega
      have HRW : Hid (wr.ownsRow w.heap.size 78 1 u3 k ((List.range k).map (ptrD b o))) := by
        have := HO.out; unfold OwnGrp at this; rw [List.length_range] at this; exact this
      have hsz : w.heap.size ≤ (wr.alloc (.cells #[.pointer (some ⟨b, o + k * 4, none⟩)] 78)).heap.size := (nwA hb _).size
      have hc3 : k + 1 ≤ maxLen := by unfold maxLen; omega
      have hc4 : (k + 1) * 8 ≤ 140737488355328 := by omega
      go_wp2_with (at_builtin; refine wpList_append_own _ rfl (.tmp 10) (.tmp 15) 69 rfl w.heap.size 78 i0 (.agg #[.pointer none]) 1 8 Try.underlying69 hi hz0 hz1 hz2 rfl (by decide) u3 k ((List.range k).map (ptrD b o)) rfl (World.ownsRow.alloc HRW.out _) ⟨wr.heap.size, 0, none⟩ 1 1 [.pointer (some ⟨b, o + k * 4, none⟩)] rfl rfl (cells1 _ _ _) (by simp [Value.oneCell']) hc3 hc4 hsz ?_; intro v' w3 hown hgrow _; refine unstop ?_)
      unfold Stop
      have HB3 : Hid (Below w.heap.size w w3) := (nwA hb _).grown hgrow (nwA hb _).size (fun q e => (HRW.out.lt q e).1)
      have HO3 : Hid (OwnGrp w3 w.heap.size v' b o (List.range (k + 1))) := by
        rw [List.range_succ]
        exact OwnGrp.snoc (by rw [List.length_range]; exact hown)
      clear hown hgrow
      go_wp2_with fail
      go_roundw
      case rel => exact ⟨k + 1, by omega, by go_num, HO3.out, HB3.out⟩
      case measure => simp [intOf]; omega
    · have hkli : ¬ (k : Int) < (n : Int) := by omega
      have HOE : Hid (OwnGrp wr w.heap.size u3 b o (List.range n)) := by have := HO.out; rw [show k = n from by omega] at this; exact this
      clear HO
      have h := HOE.out
      obtain ⟨av, cv, e, _⟩ := h.at
      rw [List.length_range] at e
      subst e
      clear h
      go_wp2_with fail
      go_ret
      exact ⟨⟨_, rfl, HOE.out⟩, hb⟩

/-- the numbers of free sectors of some devices -/
def cntK (ds : List DevD) (ks : List Nat) : Int := (ks.map fun k => cntOf (ds.getD k DZ).free).sum
theorem cntK_nil (ds : List DevD) : cntK ds [] = 0 := rfl
theorem cntK_snoc (ds : List DevD) (ks : List Nat) (k : Nat) : cntK ds (ks ++ [k]) = cntK ds ks + cntOf (ds.getD k DZ).free := by simp [cntK]
def AllV (ds : List DevD) : Prop := ∀ k, k < ds.length → vOk (ds.getD k DZ).free = true
theorem cntK_bd {ds : List DevD} (h : AllV ds) : ∀ ks : List Nat, (∀ k ∈ ks, k < ds.length) → 0 ≤ cntK ds ks ∧ cntK ds ks ≤ 64 * ks.length := by
  intro ks
  induction ks with
  | nil => intro _; simp [cntK]
  | cons x xs ih =>
    intro hk
    have h1 := ih (fun k hx => hk k (List.mem_cons_of_mem _ hx))
    have h2 := cnt_bd (h x (hk x (List.mem_cons_self ..)))
    have e : cntK ds (x :: xs) = cntOf (ds.getD x DZ).free + cntK ds xs := by simp [cntK]
    rw [e, List.length_cons]
    omega

set_option maxRecDepth 100000 in
set_option maxHeartbeats 2000000 in
theorem gfree_any (ga : Option Addr) (gc b o : Nat) (ks : List Nat) (ds : List DevD) (w : World) (hg : GrpAt w ga b o ks) (hd : DevsAt w (some ⟨b, o, none⟩) ds) (hk : ∀ k ∈ ks, k < ds.length) (hl : ks.length ≤ 1000) (hs : SmallL ds) (hv : AllV ds) :
    Calls Try.prog 38 #[.slice ga ks.length gc] w fun e w' => e = .returned (.int .i64 (cntK ds ks)) ∧ Below w.heap.size w w' := by
  have HG : Hid (∀ w', Below w.heap.size w w' → GrpAt w' ga b o ks) := fun w' h => hg.below h
  have HD : Hid (∀ w', Below w.heap.size w w' → DevsAt w' (some ⟨b, o, none⟩) ds) := fun w' h => hd.below h
  have HK : Hid (∀ i, i < ks.length → ks.getD i 0 < ds.length) := fun i hi => hk _ (getD_mem 0 hi)
  have HS : Hid (SmallL ds) := hs
  have HV : Hid (AllV ds) := hv
  have HBD : Hid (∀ i, i ≤ ks.length → 0 ≤ cntK ds (ks.take i) ∧ cntK ds (ks.take i) ≤ 64000) := fun i hi => by
    have := cntK_bd hv (ks.take i) (fun k hx => hk k (List.mem_of_mem_take hx))
    rw [List.length_take] at this
    omega
  clear hg hd hk hs hv
  go_enter Try.func38, Try.ntmps38
  go_wp2_with fail
  go_loopw [3, 8] (fun s i wr => ∃ (k : Nat) (m : Int), k ≤ ks.length ∧ i = .int .i64 k ∧ s = .int .i64 m ∧ Hid (m = cntK ds (ks.take k)) ∧ Below w.heap.size w wr)
    (fun _ i _ => ks.length - (intOf i).toNat)
  case atStart => exact ⟨0, 0, by omega, rfl, rfl, rfl, nwR w⟩
  case round =>
    obtain ⟨k, m, hk, rfl, rfl, HM, hb⟩ := hrel
    by_cases hkl : k < ks.length
    · have hkli : (k : Int) < (ks.length : Int) := by omega
      obtain ⟨g, q, rfl, hcell⟩ := (HG.out wr hb).cell hkl
      have hdev := (HD.out wr hb).at (HK.out k hkl)
      have HT : Hid (ks.take (k + 1) = ks.take k ++ [ks.getD k 0]) := by
        show _ = _
        rw [List.take_succ_eq_append_getElem hkl]; simp [List.getD, hkl]
      have hcb := cnt_bd (HV.out _ (HK.out k hkl))
      have hmb := HBD.out k (by omega)
      rw [← HM.out] at hmb
      have HSD : Hid (SmallD (ds.getD (ks.getD k 0) DZ)) := HS.out.2 _ (getD_mem DZ (HK.out k hkl))
      have HN : Hid (m + cntOf (ds.getD (ks.getD k 0) DZ).free = cntK ds (ks.take (k + 1))) := by
        show _ = _
        rw [HT.out, cntK_snoc, ← HM.out]
      unfold ptrD at hcell
      generalize ds.getD (ks.getD k 0) DZ = d at hdev hcb HSD HN
      have e1 : IntKind.i64.wrap (m + cntOf d.free) = m + cntOf d.free := wrap_any (by omega) (by omega)
      generalize ks.getD k 0 = j at hcell hdev
      have HB1 : Hid (Below wr.heap.size wr (wr.alloc (.cells #[.pointer (some ⟨b, o + j * 4, none⟩)] 78))) := nwA (nwR wr) _
      have HDV : Hid (DevIn (wr.alloc (.cells #[.pointer (some ⟨b, o + j * 4, none⟩)] 78)) b (o + j * 4) d) := hdev.below HB1.out
      clear hdev HT
      go_wp2_with fail
      refine (dfree_any b (o + j * 4) d _ HDV.out HSD.out).mono ?_
      rintro e w2 ⟨rfl, hb2⟩
      have hb3 := nwT hb (nwT HB1.out hb2)
      clear hcell hb2
      go_wp2_with fail
      go_roundw
      case rel => exact ⟨k + 1, m + cntOf d.free, by omega, by go_num, by first | rfl | rw [e1], HN, hb3⟩
      case measure => simp [intOf]; omega
    · have hkli : ¬ (k : Int) < (ks.length : Int) := by omega
      have HE : Hid (m = cntK ds ks) := by have := HM.out; rw [List.take_of_length_le (by omega)] at this; exact this
      go_wp2_with fail
      go_ret
      exact ⟨ret_int HE.out, hb⟩

end Go.Proofs.Ytheomnafmjmpdaa

/- Whether devices may be, by the program. -/
namespace Go.Proofs.Ytheomnafmjmpdaa
open Go.RowKit

def lastI (ds : List DevD) (k : Nat) : Int := if k = 0 then 0 else (ds.getD (k - 1) DZ).id
def EachD (ds : List DevD) (k : Nat) : Prop := lastI ds k < (ds.getD k DZ).id ∧ DevOk (ds.getD k DZ)
def DevsOk (ds : List DevD) : Prop := ds.length ≤ 6 ∧ ∀ k, k < ds.length → EachD ds k
theorem lastI_succ (ds : List DevD) (k : Nat) : lastI ds (k + 1) = (ds.getD k DZ).id := by unfold lastI; simp

set_option maxRecDepth 100000 in
set_option maxHeartbeats 2000000 in
theorem gmayBe_any (ga : Option Addr) (gc b o : Nat) (ds : List DevD) (w : World) (hg : GrpAt w ga b o (List.range ds.length)) (hd : DevsAt w (some ⟨b, o, none⟩) ds) (hs : SmallL ds) :
    Calls Try.prog 54 #[.slice ga ds.length gc] w fun e w' => SaysB e (∀ k, k < ds.length → EachD ds k) ∧ Below w.heap.size w w' := by
  have HG : Hid (∀ w', Below w.heap.size w w' → GrpAt w' ga b o (List.range ds.length)) := fun w' h => hg.below h
  have HD : Hid (∀ w', Below w.heap.size w w' → DevsAt w' (some ⟨b, o, none⟩) ds) := fun w' h => hd.below h
  have HS : Hid (SmallL ds) := hs
  have hln := hs.1
  clear hg hd hs
  go_enter Try.func54, Try.ntmps54
  go_wp2_with fail
  go_loopw [3, 8] (fun s i wr => ∃ (k : Nat) (m : Int), k ≤ ds.length ∧ i = .int .i64 k ∧ s = .int .i64 m ∧ Hid (m = lastI ds k) ∧ Hid (∀ j, j < k → EachD ds j) ∧ Below w.heap.size w wr)
    (fun _ i _ => ds.length - (intOf i).toNat)
  case atStart => exact ⟨0, 0, by omega, rfl, rfl, rfl, fun j hj => by omega, nwR w⟩
  case round =>
    obtain ⟨k, m, hk, rfl, rfl, HM, HE, hb⟩ := hrel
    by_cases hkl : k < ds.length
    · have hkli : (k : Int) < (ds.length : Int) := by omega
      obtain ⟨g, q, rfl, hcell⟩ := (HG.out wr hb).cell (i := k) (by rw [List.length_range]; exact hkl)
      rw [range_getD hkl] at hcell
      have hdev := (HD.out wr hb).at hkl
      have HSD : Hid (SmallD (ds.getD k DZ)) := HS.out.2 _ (getD_mem DZ hkl)
      have HNO : Hid (¬ (m < (ds.getD k DZ).id ∧ DevOk (ds.getD k DZ)) → ¬ ∀ j, j < ds.length → EachD ds j) := fun h h2 => h (by rw [HM.out]; exact h2 k hkl)
      have HYE : Hid (m < (ds.getD k DZ).id → DevOk (ds.getD k DZ) → ∀ j, j < k + 1 → EachD ds j) := fun h1 h2 j hj => by
        by_cases e : j = k
        · subst e; exact ⟨by rw [← HM.out]; exact h1, h2⟩
        · exact HE.out j (by omega)
      have HLS : Hid (lastI ds (k + 1) = (ds.getD k DZ).id) := lastI_succ ds k
      unfold ptrD at hcell
      generalize ds.getD k DZ = d at hdev HSD HNO HYE HLS
      have HB1 : Hid (Below wr.heap.size wr (wr.alloc (.cells #[.pointer (some ⟨b, o + k * 4, none⟩)] 78))) := nwA (nwR wr) _
      have hbx : (wr.alloc (.cells #[.pointer (some ⟨b, o + k * 4, none⟩)] 78)).heap[wr.heap.size]? = some (.cells #[.pointer (some ⟨b, o + k * 4, none⟩)] 78 (0, 0)) := heap_alloc_new wr _
      have HBX : Hid (∀ w', Below (wr.alloc (.cells #[.pointer (some ⟨b, o + k * 4, none⟩)] 78)).heap.size (wr.alloc (.cells #[.pointer (some ⟨b, o + k * 4, none⟩)] 78)) w' → w'.cell? ⟨wr.heap.size, 0, none⟩ = some (.pointer (some ⟨b, o + k * 4, none⟩))) := fun w' h => (one ((h.block _ (Array.getElem?_eq_some_iff.1 hbx).1).trans hbx)).1
      have HDV : Hid (DevIn wr b (o + k * 4) d) := hdev
      have hlt := hdev.lt
      obtain ⟨_, _, _, _, ⟨c0, _⟩, _⟩ := hdev
      clear hbx
      by_cases hid : m < d.id
      case neg =>
        have hid2 : d.id ≤ m := by omega
        have HQ : Hid (¬ ∀ j, j < ds.length → EachD ds j) := HNO.out (fun h => hid h.1)
        have HBE := nwT hb HB1.out
        go_wp2_with fail
        go_ret
        exact ⟨says_no HQ.out, HBE⟩
      case pos =>
      have hid2 : ¬ d.id ≤ m := by omega
      go_wp2_with fail
      refine (dmayBe_any b (o + k * 4) d _ (HDV.out.below HB1.out) HSD.out).mono ?_
      rintro e w2 ⟨⟨mb, rfl, hmb⟩, hb2⟩
      have HMB : Hid (mb = true ↔ DevOk d) := hmb
      have HB2 : Hid (Below w.heap.size w w2) := nwT hb (nwT HB1.out hb2)
      have x0 := HBX.out w2 hb2
      have hcd : w2.cell? ⟨b, o + k * 4, none⟩ = some (.int .i64 d.id) := ((nwT HB1.out hb2).cell (p := ⟨b, o + k * 4, none⟩) hlt).trans c0
      clear hcell hmb hb2 c0
      cases mb
      case false =>
        have HQ : Hid (¬ ∀ j, j < ds.length → EachD ds j) := HNO.out (fun h => by have := HMB.out.2 h.2; cases this)
        go_wp2_with fail
        go_ret
        exact ⟨says_no HQ.out, HB2.out⟩
      case true =>
        have HQ : Hid (∀ j, j < k + 1 → EachD ds j) := HYE.out hid (HMB.out.1 rfl)
        go_wp2_with fail
        go_roundw
        case rel => exact ⟨k + 1, d.id, by omega, by go_num, by first | rfl | trivial, HLS.out.symm, HQ, HB2.out⟩
        case measure => simp [intOf]; omega
    · have hkli : ¬ (k : Int) < (ds.length : Int) := by omega
      have HQ : Hid (∀ j, j < ds.length → EachD ds j) := fun j hj => HE.out j (by omega)
      go_wp2_with fail
      go_ret
      exact ⟨says_yes HQ.out, hb⟩

theorem DevsAt.base {w : World} {a : Option Addr} {ds : List DevD} (h : DevsAt w a ds) : ∃ b o, (ds.length = 0 ∨ a = some ⟨b, o, none⟩) ∧ DevsAt w (some ⟨b, o, none⟩) ds := by
  rcases h with rfl | ⟨b, o, rfl, hc⟩
  · exact ⟨0, 0, .inl rfl, .inl rfl⟩
  · exact ⟨b, o, .inr rfl, .inr ⟨b, o, rfl, hc⟩⟩

set_option maxRecDepth 100000 in
set_option maxHeartbeats 2000000 in
theorem rcheck_any (a : Option Addr) (ds : List DevD) (ca : Nat) (w : World) (hd : DevsAt w a ds) (hs : SmallL ds) :
    Calls Try.prog 33 #[.slice a ds.length ca] w fun e w' => (∃ b : Bool, (b = true ↔ DevsOk ds) ∧ e = .returned (.int .i64 (errOf b))) ∧ Below w.heap.size w w' := by
  obtain ⟨b, o, hab, hdb⟩ := hd.base
  have HD : Hid (DevsAt w (some ⟨b, o, none⟩) ds) := hdb
  have HS : Hid (SmallL ds) := hs
  have HAB : Hid (ds.length = 0 ∨ a = some ⟨b, o, none⟩) := hab
  have hln := hs.1
  clear hd hdb hs hab
  by_cases h6 : 6 < ds.length
  · have h6i : (6 : Int) < (ds.length : Int) := by omega
    have HN : Hid (¬ DevsOk ds) := fun h => by have := h.1; omega
    go_enter Try.func33, Try.ntmps33
    go_wp2_with fail
    go_ret
    exact ⟨⟨false, by simpa using HN.out, rfl⟩, nwR w⟩
  · have h6i : ¬ (6 : Int) < (ds.length : Int) := by omega
    go_enter Try.func33, Try.ntmps33
    go_wp2_with fail
    refine (groupOf_any a b o ds.length ca w HAB.out hln).mono ?_
    rintro e w1 ⟨⟨v, rfl, hv⟩, hb1⟩
    obtain ⟨ga, gc, e, hga, _⟩ := hv.at
    rw [List.length_range] at e
    subst e
    have HGA : Hid (GrpAt w1 ga b o (List.range ds.length)) := hga
    have HB1 : Hid (Below w.heap.size w w1) := hb1
    clear hv hga hb1
    go_wp2_with fail
    refine (gmayBe_any ga gc b o ds w1 HGA.out (HD.out.below HB1.out) HS.out).mono ?_
    rintro e w2 ⟨⟨mb, rfl, hmb⟩, hb2⟩
    have HMB : Hid (mb = true ↔ DevsOk ds) := ⟨fun h => ⟨by omega, hmb.1 h⟩, fun h => hmb.2 h.2⟩
    have HB2 : Hid (Below w.heap.size w w2) := nwT HB1.out hb2
    clear hmb hb2
    cases mb
    · go_wp2_with fail
      go_ret
      exact ⟨⟨false, by simpa using HMB.out, rfl⟩, HB2.out⟩
    · go_wp2_with fail
      go_ret
      exact ⟨⟨true, by simpa using HMB.out, rfl⟩, HB2.out⟩

end Go.Proofs.Ytheomnafmjmpdaa

/- slices.Clone of devices, segments, groups. -/
namespace Go.Proofs.Ytheomnafmjmpdaa
open Go.RowKit

set_option maxRecDepth 100000 in
set_option maxHeartbeats 2000000 in
theorem clod_row (p : Addr) (n c : Nat) (xs : List Value) (w : World) (hx : xs.length = n * 4) (hbig : n * 64 ≤ 140737488355328) (hc : ∀ j u, xs[j]? = some u → w.cell? (p.add j) = some u) (h1 : ∀ u ∈ xs, u.oneCell' = true) :
    Calls Try.prog 56 #[.slice (some p) n c] w fun e w' => (∃ v', e = .returned v' ∧ w'.ownsRow w.heap.size 51 4 v' n xs) ∧ Below w.heap.size w w' := by
  obtain ⟨i0, hi, hz0, hz1, hz2⟩ := info_parts Try.info51
  have q22 : ∀ (w : World) (a : Option Addr) (n c n' c' : Nat), (binOp .eql 22 (.slice a n c) (.slice none n' c')).run Try.prog w = .ok (.bool a.isNone) w := fun w a n c n' c' => Lib.run_eql_slice_nil w _ _ a n c n' c' Try.underlying22
  have HC : Hid (∀ j u, xs[j]? = some u → w.cell? (p.add j) = some u) := hc
  have H1 : Hid (∀ u ∈ xs, u.oneCell' = true) := h1
  have HX : Hid (xs.length = n * 4) := hx
  clear hc h1 hx
  go_enter Try.func56, Try.ntmps56
  go_wp2_with (at_builtin; refine wpList_append_own _ rfl _ _ 22 rfl w.heap.size 51 i0 (.agg #[.int .i64 0, .int .i64 0, .slice none 0 0, .slice none 0 0]) 4 64 Try.underlying22 hi hz0 hz1 hz2 rfl (by decide) _ _ _ rfl (World.ownsRow_made w #[] 0 (Nat.le_refl _) (Nat.zero_le _) rfl) p n c xs rfl ?qc1 ?qc2 ?qc3 ?qc4 ?qc5 ?qc6 ?_)
  case qc1 => have := HX.out; omega
  case qc2 => intro j u hj; exact Lib.cell?_alloc_some _ (HC.out j u hj)
  case qc3 => exact H1.out
  case qc4 => unfold maxLen; omega
  case qc5 => omega
  case qc6 => simp
  intro v' w1 hown hgrow hnil
  have HOW : Hid (w1.ownsRow w.heap.size 51 4 v' n xs) := by show World.ownsRow _ _ _ _ _ _ _; have := hown; simpa using this
  have HB : Hid (Below w.heap.size w w1) := ((Below.refl _ w).alloc (Nat.le_refl _) _).grown hgrow (by simp) (by intro k hk; simp [Value.ownBlock] at hk; omega)
  clear hown hgrow
  go_wp2_with fail
  go_ret
  exact ⟨⟨v', rfl, HOW.out⟩, HB.out⟩

set_option maxRecDepth 100000 in
set_option maxHeartbeats 1000000 in
theorem clod_nil (n c : Nat) (w : World) : Calls Try.prog 56 #[.slice none n c] w fun e w' => e = .returned (.slice none 0 0) ∧ w' = w := by
  have q22 : ∀ (w : World) (a : Option Addr) (n c n' c' : Nat), (binOp .eql 22 (.slice a n c) (.slice none n' c')).run Try.prog w = .ok (.bool a.isNone) w := fun w a n c n' c' => Lib.run_eql_slice_nil w _ _ a n c n' c' Try.underlying22
  go_enter Try.func56, Try.ntmps56
  go_wp2_with fail
  go_ret
  exact ⟨rfl, rfl⟩

set_option maxRecDepth 100000 in
set_option maxHeartbeats 2000000 in
theorem clos_row (p : Addr) (n c : Nat) (xs : List Value) (w : World) (hx : xs.length = n * 2) (hbig : n * 16 ≤ 140737488355328) (hc : ∀ j u, xs[j]? = some u → w.cell? (p.add j) = some u) (h1 : ∀ u ∈ xs, u.oneCell' = true) :
    Calls Try.prog 57 #[.slice (some p) n c] w fun e w' => (∃ v', e = .returned v' ∧ w'.ownsRow w.heap.size 67 2 v' n xs) ∧ Below w.heap.size w w' := by
  obtain ⟨i0, hi, hz0, hz1, hz2⟩ := info_parts Try.info67
  have q22 : ∀ (w : World) (a : Option Addr) (n c n' c' : Nat), (binOp .eql 49 (.slice a n c) (.slice none n' c')).run Try.prog w = .ok (.bool a.isNone) w := fun w a n c n' c' => Lib.run_eql_slice_nil w _ _ a n c n' c' Try.underlying49
  have HC : Hid (∀ j u, xs[j]? = some u → w.cell? (p.add j) = some u) := hc
  have H1 : Hid (∀ u ∈ xs, u.oneCell' = true) := h1
  have HX : Hid (xs.length = n * 2) := hx
  clear hc h1 hx
  go_enter Try.func57, Try.ntmps57
  go_wp2_with (at_builtin; refine wpList_append_own _ rfl _ _ 49 rfl w.heap.size 67 i0 (.agg #[.int .i64 0, .int .i64 0]) 2 16 Try.underlying49 hi hz0 hz1 hz2 rfl (by decide) _ _ _ rfl (World.ownsRow_made w #[] 0 (Nat.le_refl _) (Nat.zero_le _) rfl) p n c xs rfl ?qc1 ?qc2 ?qc3 ?qc4 ?qc5 ?qc6 ?_)
  case qc1 => have := HX.out; omega
  case qc2 => intro j u hj; exact Lib.cell?_alloc_some _ (HC.out j u hj)
  case qc3 => exact H1.out
  case qc4 => unfold maxLen; omega
  case qc5 => omega
  case qc6 => simp
  intro v' w1 hown hgrow hnil
  have HOW : Hid (w1.ownsRow w.heap.size 67 2 v' n xs) := by show World.ownsRow _ _ _ _ _ _ _; have := hown; simpa using this
  have HB : Hid (Below w.heap.size w w1) := ((Below.refl _ w).alloc (Nat.le_refl _) _).grown hgrow (by simp) (by intro k hk; simp [Value.ownBlock] at hk; omega)
  clear hown hgrow
  go_wp2_with fail
  go_ret
  exact ⟨⟨v', rfl, HOW.out⟩, HB.out⟩

set_option maxRecDepth 100000 in
set_option maxHeartbeats 1000000 in
theorem clos_nil (n c : Nat) (w : World) : Calls Try.prog 57 #[.slice none n c] w fun e w' => e = .returned (.slice none 0 0) ∧ w' = w := by
  have q22 : ∀ (w : World) (a : Option Addr) (n c n' c' : Nat), (binOp .eql 49 (.slice a n c) (.slice none n' c')).run Try.prog w = .ok (.bool a.isNone) w := fun w a n c n' c' => Lib.run_eql_slice_nil w _ _ a n c n' c' Try.underlying49
  go_enter Try.func57, Try.ntmps57
  go_wp2_with fail
  go_ret
  exact ⟨rfl, rfl⟩

set_option maxRecDepth 100000 in
set_option maxHeartbeats 2000000 in
theorem clog_row (p : Addr) (n c : Nat) (xs : List Value) (w : World) (hx : xs.length = n * 1) (hbig : n * 8 ≤ 140737488355328) (hc : ∀ j u, xs[j]? = some u → w.cell? (p.add j) = some u) (h1 : ∀ u ∈ xs, u.oneCell' = true) :
    Calls Try.prog 60 #[.slice (some p) n c] w fun e w' => (∃ v', e = .returned v' ∧ w'.ownsRow w.heap.size 78 1 v' n xs) ∧ Below w.heap.size w w' := by
  obtain ⟨i0, hi, hz0, hz1, hz2⟩ := info_parts Try.info78
  have q22 : ∀ (w : World) (a : Option Addr) (n c n' c' : Nat), (binOp .eql 69 (.slice a n c) (.slice none n' c')).run Try.prog w = .ok (.bool a.isNone) w := fun w a n c n' c' => Lib.run_eql_slice_nil w _ _ a n c n' c' Try.underlying69
  have HC : Hid (∀ j u, xs[j]? = some u → w.cell? (p.add j) = some u) := hc
  have H1 : Hid (∀ u ∈ xs, u.oneCell' = true) := h1
  have HX : Hid (xs.length = n * 1) := hx
  clear hc h1 hx
  go_enter Try.func60, Try.ntmps60
  go_wp2_with (at_builtin; refine wpList_append_own _ rfl _ _ 69 rfl w.heap.size 78 i0 (.agg #[.pointer none]) 1 8 Try.underlying69 hi hz0 hz1 hz2 rfl (by decide) _ _ _ rfl (World.ownsRow_made w #[] 0 (Nat.le_refl _) (Nat.zero_le _) rfl) p n c xs rfl ?qc1 ?qc2 ?qc3 ?qc4 ?qc5 ?qc6 ?_)
  case qc1 => have := HX.out; omega
  case qc2 => intro j u hj; exact Lib.cell?_alloc_some _ (HC.out j u hj)
  case qc3 => exact H1.out
  case qc4 => unfold maxLen; omega
  case qc5 => omega
  case qc6 => simp
  intro v' w1 hown hgrow hnil
  have HOW : Hid (w1.ownsRow w.heap.size 78 1 v' n xs) := by show World.ownsRow _ _ _ _ _ _ _; have := hown; simpa using this
  have HB : Hid (Below w.heap.size w w1) := ((Below.refl _ w).alloc (Nat.le_refl _) _).grown hgrow (by simp) (by intro k hk; simp [Value.ownBlock] at hk; omega)
  clear hown hgrow
  go_wp2_with fail
  go_ret
  exact ⟨⟨v', rfl, HOW.out⟩, HB.out⟩

set_option maxRecDepth 100000 in
set_option maxHeartbeats 1000000 in
theorem clog_nil (n c : Nat) (w : World) : Calls Try.prog 60 #[.slice none n c] w fun e w' => e = .returned (.slice none 0 0) ∧ w' = w := by
  have q22 : ∀ (w : World) (a : Option Addr) (n c n' c' : Nat), (binOp .eql 69 (.slice a n c) (.slice none n' c')).run Try.prog w = .ok (.bool a.isNone) w := fun w a n c n' c' => Lib.run_eql_slice_nil w _ _ a n c n' c' Try.underlying69
  go_enter Try.func60, Try.ntmps60
  go_wp2_with fail
  go_ret
  exact ⟨rfl, rfl⟩

theorem flat_len (l : List (Int × Int)) : (flat l).length = l.length * 2 := by
  induction l with
  | nil => rfl
  | cons x xs ih => simp only [flat, List.flatMap_cons, List.length_append, List.length_cons, List.length_nil] at *; omega
theorem segsAt_cells {w : World} {p : Addr} {l : List (Int × Int)} (h : SegsAt w (some p) l) : ∀ j u, (flat l)[j]? = some u → w.cell? (p.add j) = some u := by
  intro j u hj
  have hl := (List.getElem?_eq_some_iff.1 hj).1
  rw [flat_len] at hl
  have hq : j / 2 < l.length := by omega
  obtain ⟨b, o, e, h1, h2⟩ := h (j / 2) hq
  injection e with e
  subst e
  rw [Addr.add_lit]
  obtain ⟨g1, g2⟩ := flat_get2 l (j / 2) hq
  by_cases hm : j = j / 2 * 2
  · rw [hm] at hj ⊢
    rw [g1] at hj; injection hj with hj; subst hj
    exact h1
  · have hm2 : j = j / 2 * 2 + 1 := by omega
    rw [hm2] at hj ⊢
    rw [g2] at hj; injection hj with hj; subst hj
    rw [← Nat.add_assoc]; exact h2
theorem flat_one (l : List (Int × Int)) : ∀ u ∈ flat l, u.oneCell' = true := by
  intro u hu
  obtain ⟨x, _, hx⟩ := List.mem_flatMap.1 hu
  simp at hx
  rcases hx with rfl | rfl <;> rfl
theorem clos_any (a : Option Addr) (c : Nat) (l : List (Int × Int)) (w : World) (h : SegV w a c l) (hl : l.length ≤ 1000) :
    Calls Try.prog 57 #[.slice a l.length c] w fun e w' => (∃ v, e = .returned v ∧ OwnSegs w' w.heap.size v l) ∧ Below w.heap.size w w' := by
  cases a with
  | none =>
    have h0 : l = [] := by have := h.2.2 rfl; have := h.2.1; exact List.length_eq_zero_iff.1 (by omega)
    subst h0
    exact (clos_nil 0 c w).mono fun e w' ⟨h1, h2⟩ => ⟨⟨_, h1, by rw [h2]; exact World.ownsRow_nil _ _ _ _⟩, by rw [h2]; exact nwR w⟩
  | some p => exact clos_row p l.length c (flat l) w (flat_len l) (by omega) (segsAt_cells h.1) (flat_one l)
theorem clog_any (a : Option Addr) (c b o : Nat) (ks : List Nat) (w : World) (h : GrpAt w a b o ks) (hn : NilOk a c ks.length) (hl : ks.length ≤ 1000) :
    Calls Try.prog 60 #[.slice a ks.length c] w fun e w' => (∃ v, e = .returned v ∧ OwnGrp w' w.heap.size v b o ks) ∧ Below w.heap.size w w' := by
  cases a with
  | none =>
    have h0 : ks = [] := by have := hn.2 rfl; have := hn.1; exact List.length_eq_zero_iff.1 (by omega)
    subst h0
    exact (clog_nil 0 c w).mono fun e w' ⟨h1, h2⟩ => ⟨⟨_, h1, by rw [h2]; exact World.ownsRow_nil _ _ _ _⟩, by rw [h2]; exact nwR w⟩
  | some p =>
    refine clog_row p ks.length c (ks.map (ptrD b o)) w (by simp) (by omega) ?_ ?_
    · intro j u hj
      obtain ⟨h1, h2⟩ := List.getElem?_eq_some_iff.1 hj
      rw [List.length_map] at h1
      obtain ⟨g, q, e, hc⟩ := h.cell h1
      injection e with e
      subst e
      rw [Addr.add_lit, hc, ← h2]
      simp [List.getD, h1]
    · intro u hu; obtain ⟨x, _, rfl⟩ := List.mem_map.1 hu; rfl

end Go.Proofs.Ytheomnafmjmpdaa

/- A device found in a group, by the program. -/
namespace Go.Proofs.Ytheomnafmjmpdaa
open Go.RowKit

def atD (ds : List DevD) (id : Int) : Option Nat := ds.findIdx? fun d => d.id == id
theorem atD_lt {ds : List DevD} {id : Int} {k : Nat} (h : atD ds id = some k) : k < ds.length := by
  unfold atD at h
  rw [List.findIdx?_eq_some_iff_getElem] at h
  exact h.1
theorem atD_id {ds : List DevD} {id : Int} {k : Nat} (h : atD ds id = some k) : (ds.getD k DZ).id = id := by
  unfold atD at h
  rw [List.findIdx?_eq_some_iff_getElem] at h
  obtain ⟨h1, h2, _⟩ := h
  simpa [List.getD, h1] using h2
/-- which device of a row, and whether there is one -/
def ptrO (b o : Nat) (r : Option Nat) : Value := match r with
  | some k => .agg #[ptrD b o k]
  | none => .agg #[.pointer none]

set_option maxRecDepth 100000 in
set_option maxHeartbeats 2000000 in
theorem gfind_any (ga : Option Addr) (gc b o : Nat) (id : Int) (ds : List DevD) (w : World) (hg : GrpAt w ga b o (List.range ds.length)) (hd : DevsAt w (some ⟨b, o, none⟩) ds) (hln : ds.length ≤ 1000) :
    Calls Try.prog 51 #[.slice ga ds.length gc, .int .i64 id] w fun e w' => e = .returned (.tuple #[ptrO b o (atD ds id), .bool (atD ds id).isSome]) ∧ Below w.heap.size w w' := by
  obtain ⟨W0, hW0⟩ : ∃ W0, W0 = w.alloc (.cells #[.pointer none] 78) := ⟨_, rfl⟩
  have HB0 : Hid (Below w.heap.size w W0) := by rw [hW0]; exact nwA (nwR w) _
  have HR0 : Hid (W0.heap[w.heap.size]? = some (.cells #[.pointer none] 78 (0, 0))) := by rw [hW0]; exact heap_alloc_new w _
  have HG : Hid (∀ w', Below W0.heap.size W0 w' → GrpAt w' ga b o (List.range ds.length)) := fun w' h => hg.below (nwT HB0.out h)
  have HD : Hid (∀ w', Below W0.heap.size W0 w' → DevsAt w' (some ⟨b, o, none⟩) ds) := fun w' h => hd.below (nwT HB0.out h)
  have HRR : Hid (∀ w', Below W0.heap.size W0 w' → w'.heap[w.heap.size]? = some (.cells #[.pointer none] 78 (0, 0))) := fun w' h => (h.block _ (Array.getElem?_eq_some_iff.1 HR0.out).1).trans HR0.out
  clear hg hd
  go_enter Try.func51, Try.ntmps51
  go_wp2_with fail
  rw [← hW0]
  clear hW0
  go_loopw [10] (fun i wr => ∃ (k : Nat), k ≤ ds.length ∧ i = .int .i64 k ∧ Hid (∀ j, j < k → ((ds.getD j DZ).id == id) = false) ∧ Below W0.heap.size W0 wr)
    (fun i _ => ds.length - (intOf i).toNat)
  case atStart => exact ⟨0, by omega, rfl, fun j hj => by omega, nwR W0⟩
  case round =>
    obtain ⟨k, hk, rfl, HE, hb⟩ := hrel
    have HRW : Hid (wr.heap[w.heap.size]? = some (.cells #[.pointer none] 78 (0, 0))) := HRR.out wr hb
    by_cases hkl : k < ds.length
    · have hkli : (k : Int) < (ds.length : Int) := by omega
      obtain ⟨g, q, rfl, hcell⟩ := (HG.out wr hb).cell (i := k) (by rw [List.length_range]; exact hkl)
      rw [range_getD hkl] at hcell
      have hdev := (HD.out wr hb).at hkl
      have HK : Hid (((ds.getD k DZ).id == id) = false → ∀ j, j < k + 1 → ((ds.getD j DZ).id == id) = false) := fun h j hj => by
        by_cases e : j = k
        · subst e; exact h
        · exact HE.out j (by omega)
      have HY : Hid (((ds.getD k DZ).id == id) = true → atD ds id = some k) := fun h => find_yes DZ hkl h (fun j hj => HE.out j hj)
      unfold ptrD at hcell
      generalize ds.getD k DZ = d at hdev HK HY
      have hlt := hdev.lt
      obtain ⟨_, _, _, _, ⟨c0, _⟩, _⟩ := hdev
      have HB1 : Hid (Below W0.heap.size W0 (wr.alloc (.cells #[.pointer (some ⟨b, o + k * 4, none⟩)] 78))) := nwA hb _
      by_cases he : d.id = id
      · have HR : Hid (atD ds id = some k) := HY.out (by rw [he]; simp)
        have he2 : (d.id == id) = true := by rw [he]; simp
        subst he
        obtain ⟨r0, rf⟩ := one (HRR.out _ HB1.out)
        clear HY HK
        go_wp2_with fail
        have HF : Hid (Below w.heap.size w ((wr.alloc (.cells #[.pointer (some ⟨b, o + k * 4, none⟩)] 78)).setCell ⟨w.heap.size, 0, none⟩ (.pointer (some ⟨b, o + k * 4, none⟩)))) := (nwT HB0.out HB1.out).setCell (Nat.le_refl _) _
        have s0 : ((wr.alloc (.cells #[.pointer (some ⟨b, o + k * 4, none⟩)] 78)).setCell ⟨w.heap.size, 0, none⟩ (.pointer (some ⟨b, o + k * 4, none⟩))).cell? ⟨w.heap.size, 0, none⟩ = some (.pointer (some ⟨b, o + k * 4, none⟩)) := by
          have h := heap_setCell_same _ w.heap.size 0 _ 78 (.pointer (some ⟨b, o + k * 4, none⟩)) (HRR.out _ HB1.out)
          simp at h
          exact (one h).1
        exact bodyPost_ret (v := .tuple #[.agg #[.pointer (some ⟨b, o + k * 4, none⟩)], .bool true]) (by simp [results, Try.results51, go_sem, s0]) rfl ⟨by rw [HR.out]; rfl, HF.out⟩
      · have he2 : (d.id == id) = false := beq_eq_false_iff_ne.2 he
        have HN : Hid (∀ j, j < k + 1 → ((ds.getD j DZ).id == id) = false) := HK.out he2
        clear HY HK
        go_wp2_with fail
        go_roundw
        case rel => exact ⟨k + 1, by omega, by go_num, HN, HB1.out⟩
        case measure => simp [intOf]; omega
    · have hkli : ¬ (k : Int) < (ds.length : Int) := by omega
      have HR : Hid (atD ds id = none) := find_no DZ (fun j hj => HE.out j (by omega))
      obtain ⟨r0, rf⟩ := one HRW.out
      go_wp2_with fail
      have s0 : (wr.setCell ⟨w.heap.size, 0, none⟩ (.pointer none)).cell? ⟨w.heap.size, 0, none⟩ = some (.pointer none) := by
        have h := heap_setCell_same _ w.heap.size 0 _ 78 (.pointer none) HRW.out
        simp at h
        exact (one h).1
      exact bodyPost_ret (v := .tuple #[.agg #[.pointer none], .bool false]) (by simp [results, Try.results51, go_sem, s0]) rfl ⟨by rw [HR.out]; rfl, (nwT HB0.out hb).setCell (Nat.le_refl _) _⟩

end Go.Proofs.Ytheomnafmjmpdaa

/- A row sifted in its place; devices taken from a group. -/
namespace Go.Proofs.Ytheomnafmjmpdaa
open Go.RowKit

/-- j of the row are looked at, those that stay stand at its first i places -/
structure Sift {α : Type} (p : α → Bool) (l l' : List α) (i j : Nat) : Prop where
  len : l'.length = l.length
  ij : i ≤ j
  done : l'.take i = (l.take j).filter p
  rest : l'.drop j = l.drop j
theorem sift_start {α : Type} {p : α → Bool} {l : List α} {k : Nat} (hk : k < l.length) (h : ∀ t, t < k → ∀ x, l[t]? = some x → p x = true) (hn : ∀ x, l[k]? = some x → p x = false) : Sift p l l k (k + 1) := by
  refine ⟨rfl, by omega, ?_, rfl⟩
  rw [List.take_succ_eq_append_getElem hk, List.filter_append]
  have h1 : (l.take k).filter p = l.take k := by
    rw [List.filter_eq_self]
    intro x hx
    obtain ⟨t, ht, rfl⟩ := List.getElem_of_mem hx
    rw [List.length_take] at ht
    exact h t (by omega) _ (by rw [List.getElem_take]; exact List.getElem?_eq_getElem (by omega))
  have h2 : p l[k] = false := hn _ (List.getElem?_eq_getElem hk)
  rw [h1]; simp [h2]
theorem Sift.get {α : Type} {p : α → Bool} {l l' : List α} {i j : Nat} (h : Sift p l l' i j) {t : Nat} (ht : j ≤ t) : l'[t]? = l[t]? := by
  have := congrArg (fun x => x[t - j]?) h.rest
  simp only [List.getElem?_drop] at this
  rwa [show j + (t - j) = t from by omega] at this
theorem Sift.keep {α : Type} {p : α → Bool} {l l' : List α} {i j : Nat} (h : Sift p l l' i j) {x : α} (hx : l[j]? = some x) (hp : p x = true) : Sift p l (l'.set i x) (i + 1) (j + 1) := by
  have hj := (List.getElem?_eq_some_iff.1 hx).1
  have hjx := (List.getElem?_eq_some_iff.1 hx).2
  have hl := h.len
  have hij := h.ij
  refine ⟨by rw [List.length_set]; exact hl, by omega, ?_, ?_⟩
  · rw [List.take_succ_eq_append_getElem (by rw [List.length_set]; omega), List.take_set_of_le (Nat.le_refl _), h.done, List.take_succ_eq_append_getElem hj, List.filter_append, hjx]
    simp [hp]
  · apply List.ext_getElem?
    intro t
    rw [List.getElem?_drop, List.getElem?_drop, List.getElem?_set, if_neg (by omega), h.get (by omega)]
theorem Sift.skip {α : Type} {p : α → Bool} {l l' : List α} {i j : Nat} (h : Sift p l l' i j) {x : α} (hx : l[j]? = some x) (hp : p x = false) : Sift p l l' i (j + 1) := by
  have hj := (List.getElem?_eq_some_iff.1 hx).1
  have hjx := (List.getElem?_eq_some_iff.1 hx).2
  have hij := h.ij
  refine ⟨h.len, by omega, ?_, ?_⟩
  · rw [h.done, List.take_succ_eq_append_getElem hj, List.filter_append, hjx]
    simp [hp]
  · apply List.ext_getElem?
    intro t
    rw [List.getElem?_drop, List.getElem?_drop, h.get (by omega)]
theorem Sift.fin {α : Type} {p : α → Bool} {l l' : List α} {i j : Nat} (h : Sift p l l' i j) (hj : l.length ≤ j) : l'.take i = l.filter p := by
  rw [h.done, List.take_of_length_le hj]
theorem Sift.le {α : Type} {p : α → Bool} {l l' : List α} {i j : Nat} (h : Sift p l l' i j) (hj : l.length = j) : (l.filter p).length = i := by
  rw [← h.fin (by omega), List.length_take, h.len]
  have := h.ij
  omega

theorem gb_setg {w w' : World} {g i : Nat} (h : w.grownBy w' (some g)) (v : Value) : w.grownBy (w'.setCell ⟨g, i, none⟩ v) (some g) :=
  h.trans ⟨rfl, rfl, rfl, by simp, fun k _ hk => heap_setCell_other w' ⟨g, i, none⟩ k v (fun e => hk (by simp [e]))⟩
theorem own_shrink {w : World} {base e size g n cap m : Nat} {xs : List Value} (h : w.ownsRow base e size (.slice (some ⟨g, 0, none⟩) n cap) n xs) (hm : m ≤ n) : w.ownsRow base e size (.slice (some ⟨g, 0, none⟩) m cap) m (xs.take (m * size)) := by
  have hms : m * size ≤ n * size := Nat.mul_le_mul_right _ hm
  refine ⟨by rw [List.length_take, h.1]; omega, .inr ?_⟩
  rcases h.2 with ⟨h1, _⟩ | ⟨g', cap', cur, h1, h2, h3, h4, h5, h6, h7⟩
  · simp at h1
  · simp only [Value.slice.injEq, Option.some.injEq, Addr.mk.injEq, and_true, true_and] at h1
    obtain ⟨rfl, rfl⟩ := h1
    exact ⟨g, cap, cur, rfl, h2, h3, by omega, h5, h6, by rw [← h7, List.take_take, Nat.min_eq_left hms]⟩
theorem own_setCells {base e size g n cap : Nat} : ∀ (vs : List Value) (o : Nat) (w : World) (xs : List Value), w.ownsRow base e size (.slice (some ⟨g, 0, none⟩) n cap) n xs →
    ∃ ys, (w.setCells g o vs).ownsRow base e size (.slice (some ⟨g, 0, none⟩) n cap) n ys ∧ ys.take o = xs.take o := by
  intro vs
  induction vs with
  | nil => intro o w xs h; exact ⟨xs, h, rfl⟩
  | cons v r ih =>
    intro o w xs h
    obtain ⟨ys, h1, h2⟩ := ih (o + 1) _ _ (World.ownsRow.stored h o v).1
    refine ⟨ys, h1, ?_⟩
    have := congrArg (List.take o) h2
    rw [List.take_take, List.take_take, Nat.min_eq_left (by omega), List.take_set_of_le (Nat.le_refl _)] at this
    exact this
theorem gb_setCells {w0 : World} {g : Nat} : ∀ (vs : List Value) (o : Nat) (w : World), w0.grownBy w (some g) → w0.grownBy (w.setCells g o vs) (some g) := by
  intro vs
  induction vs with
  | nil => intro o w h; exact h
  | cons v r ih => intro o w h; exact ih (o + 1) _ (gb_setg h _)

def RowG (w : World) (base g n cap b o : Nat) (ks : List Nat) : Prop := w.ownsRow base 78 1 (.slice (some ⟨g, 0, none⟩) n cap) n (ks.map (ptrD b o))
theorem RowG.cellAt {w : World} {base g n cap b o : Nat} {ks : List Nat} (h : RowG w base g n cap b o ks) {i k : Nat} (hx : ks[i]? = some k) : w.cell? ⟨g, i, none⟩ = some (.pointer (some ⟨b, o + k * 4, none⟩)) := by
  have hj : (ks.map (ptrD b o))[i]? = some (ptrD b o k) := by rw [List.getElem?_map, hx]; rfl
  have := World.ownsRow.cells h (g := g) rfl i _ hj
  rwa [addr_add, Nat.zero_add] at this
theorem RowG.setAt {w : World} {base g n cap b o : Nat} {ks : List Nat} (h : RowG w base g n cap b o ks) {i : Nat} (k : Nat) : RowG (w.setCell ⟨g, i, none⟩ (.pointer (some ⟨b, o + k * 4, none⟩))) base g n cap b o (ks.set i k) := by
  unfold RowG
  rw [List.map_set]
  exact (World.ownsRow.stored h i _).1
theorem zero1 {z0 : Value} (h : z0.oneCell' = true) (n : Nat) : ∀ v ∈ (Builtin.zeroCells #[z0] n).toList, v.oneCell' = true := by
  intro v hv
  simp only [Builtin.zeroCells, Array.toList_map, List.mem_map] at hv
  obtain ⟨i, _, rfl⟩ := hv
  have hi : i % 1 < 1 := Nat.mod_lt _ (by omega)
  show (#[z0][i % 1]!).oneCell' = true
  have : i % 1 = 0 := by omega
  rw [this]
  exact h
theorem clear_grp (w : World) (b o n c : Nat) (hc : ∀ j, j < n → (w.cell? ⟨b, o + j, none⟩).isSome = true) (hf : ∀ j, w.frozen? ⟨b, j, none⟩ = false) :
    ∃ vs : List Value, ∀ ty, (Builtin.clear_ #[69] ty #[.slice (some ⟨b, o, none⟩) n c]).run Try.prog w = .ok (.tuple #[]) (w.setCells b o vs) := by
  cases n with
  | zero => exact ⟨[], fun ty => by simp [Builtin.clear_, run_underlying Try.underlying69, World.setCells]⟩
  | succ m =>
    have hv : (zeroValue 78).run Try.prog w = .ok (.agg #[.pointer none]) w := by kernel_rfl
    have hst := run_storeCells_cells (P := Try.prog) b o (Builtin.zeroCells #[.pointer none] (m + 1)).toList 0 w (fun j hj => by
      rw [Nat.add_zero]; exact hc j (by simpa [Builtin.zeroCells] using hj)) (fun j _ => hf _) (zero1 rfl _)
    simp only [Nat.add_zero] at hst
    refine ⟨(Builtin.zeroCells #[.pointer none] (m + 1)).toList, fun ty => ?_⟩
    have hz : (Value.agg #[.pointer none]).cells = #[.pointer none] := by kernel_rfl
    simp [Builtin.clear_, run_underlying Try.underlying69, hv, hz, hst]

/- the devices that are not the one -/
def isN (ds : List DevD) (id : Int) (k : Nat) : Bool := (ds.getD k DZ).id == id
def restK (ds : List DevD) (id : Int) (ks : List Nat) : List Nat := ks.filter fun k => !isN ds id k
set_option maxRecDepth 100000 in
set_option maxHeartbeats 1000000 in
theorem isnot_any (b o B : Nat) (d : DevD) (id : Int) (w : World) (hd : DevIn w b o d) (hc : w.cell? ⟨B, 0, none⟩ = some (.int .i64 id)) :
    Calls Try.prog 61 #[.agg #[.pointer (some ⟨b, o, none⟩)], .pointer (some ⟨B, 0, none⟩)] w fun e w' => e = .returned (.bool (d.id == id)) ∧ Below w.heap.size w w' := by
  have hlt := hd.lt
  have hB := block_lt_of_cell hc
  obtain ⟨_, _, _, _, ⟨c0, _⟩, _⟩ := hd
  simp only at hB
  go_enter Try.func61, Try.ntmps61
  go_wp2_with fail
  go_quiet (fail)
  rename Nat => n1
  go_wp2_with fail
  go_ret
  exact ⟨rfl, below_drewN (nwA (nwR w) _) n1⟩

set_option maxRecDepth 100000 in
set_option maxHeartbeats 1000000 in
theorem idxg_any (ga : Option Addr) (gc b o B : Nat) (ks : List Nat) (id : Int) (ds : List DevD) (w : World) (hg : GrpAt w ga b o ks) (hd : DevsAt w (some ⟨b, o, none⟩) ds) (hk : ∀ k ∈ ks, k < ds.length) (hl : ks.length ≤ 1000) (hc : w.cell? ⟨B, 0, none⟩ = some (.int .i64 id)) :
    Calls Try.prog 78 #[.slice ga ks.length gc, .func (.func 61) #[] #[.pointer (some ⟨B, 0, none⟩)]] w fun e w' => e = .returned (.int .i64 (optI (ks.findIdx? (isN ds id)))) ∧ Below w.heap.size w w' := by
  have HG : Hid (∀ w', Below w.heap.size w w' → GrpAt w' ga b o ks) := fun w' h => hg.below h
  have HD : Hid (∀ w', Below w.heap.size w w' → DevsAt w' (some ⟨b, o, none⟩) ds) := fun w' h => hd.below h
  have HK : Hid (∀ i, i < ks.length → ks.getD i 0 < ds.length) := fun i hi => hk _ (getD_mem 0 hi)
  have HC : Hid (w.cell? ⟨B, 0, none⟩ = some (.int .i64 id)) := hc
  clear hg hd hk hc
  go_enter Try.func78, Try.ntmps78
  go_wp2_with fail
  go_loopw [8] (fun i wr => ∃ (k : Nat), k ≤ ks.length ∧ i = .int .i64 k ∧ Below w.heap.size w wr ∧ Hid (∀ j, j < k → isN ds id (ks.getD j 0) = false))
    (fun i _ => ks.length - (intOf i).toNat)
  case atStart => exact ⟨0, by omega, rfl, nwR w, fun j hj => by omega⟩
  case round =>
    obtain ⟨k, hk, rfl, hb, HE⟩ := hrel
    by_cases hlt : k < ks.length
    · have hlti : (k : Int) < (ks.length : Int) := by omega
      obtain ⟨g, q, rfl, hcell⟩ := (HG.out wr hb).cell hlt
      have hdev := (HD.out wr hb).at (HK.out k hlt)
      have HCW : Hid (wr.cell? ⟨B, 0, none⟩ = some (.int .i64 id)) := (hb.cell (p := ⟨B, 0, none⟩) (block_lt_of_cell HC.out)).trans HC.out
      have HKK : Hid (isN ds id (ks.getD k 0) = false → ∀ j, j < k + 1 → isN ds id (ks.getD j 0) = false) := fun h j hj => by
        by_cases e : j = k
        · subst e; exact h
        · exact HE.out j (by omega)
      have HY : Hid (isN ds id (ks.getD k 0) = true → ks.findIdx? (isN ds id) = some k) := fun h => find_yes 0 hlt h (fun j hj => HE.out j hj)
      unfold ptrD at hcell
      generalize ks.getD k 0 = kk at hcell hdev HKK HY
      have HIS : Hid (Calls Try.prog 61 #[.agg #[.pointer (some ⟨b, o + kk * 4, none⟩)], .pointer (some ⟨B, 0, none⟩)] wr fun e w' => e = .returned (.bool (isN ds id kk)) ∧ Below wr.heap.size wr w') := isnot_any b (o + kk * 4) B (ds.getD kk DZ) id wr hdev HCW.out
      clear hdev
      generalize isN ds id kk = hit at HKK HY HIS
      go_wp2_with fail
      refine HIS.out.mono ?_
      rintro e w2 ⟨rfl, hb2⟩
      have hbb := nwT hb hb2
      clear hb2 HIS
      cases hit
      · have HN : Hid (∀ j, j < k + 1 → isN ds id (ks.getD j 0) = false) := HKK.out rfl
        go_wp2_with fail
        go_roundw
        case rel => exact ⟨k + 1, by omega, by go_num, hbb, HN⟩
        case measure => simp [intOf]; omega
      · have HR2 : Hid (ks.findIdx? (isN ds id) = some k) := HY.out rfl
        go_wp2_with fail
        go_ret
        exact ⟨ret_int (by rw [HR2.out]; rfl), hbb⟩
    · have hlti : ¬ (k : Int) < (ks.length : Int) := by omega
      have HY : Hid (ks.findIdx? (isN ds id) = none) := find_no 0 (fun j hj => HE.out j (by omega))
      go_wp2_with fail
      go_ret
      exact ⟨ret_int (by rw [HY.out]; rfl), hb⟩

end Go.Proofs.Ytheomnafmjmpdaa
