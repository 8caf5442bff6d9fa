/- Laid together: Rren. -/
import Derived.Test.YtdpighcaieajjabGreatTreesM21
import Derived.Deep.CutRange
/- Another name in the place of a name, by the page. -/
namespace Go.Proofs.YtdpighcaieajjabGreat
open Go.RowKit Go.Sort

theorem below_of_drew {P : Program} {f : FuncId} {args : Array Value} {w : World} {v : Value} (h : Calls P f args w fun e w' => e = .returned v ∧ ∃ q, w' = w.drewN q) : Calls P f args w fun e w' => e = .returned v ∧ Below w.heap.size w w' :=
  h.mono fun _ _ ⟨h1, q, h2⟩ => ⟨h1, by rw [h2]; exact below_drewN (nwR w) q⟩
theorem deep_test {d : VolD} (h : VolOk d) {q : Nat} (hq : q < d.files.length) (m : Nat) : decide (5 < m + deepF d.files 5 (d.files.getD q f0).id) = decide (5 < m + deepN d.files q) := by
  have hd := deep_both h.web 5 d.files.length q hq (h.tame hq)
  unfold deepN
  rw [Bool.eq_iff_iff, decide_eq_true_iff, decide_eq_true_iff]
  by_cases h5 : (msr d.files d.files.length q).2 ≤ 5
  · rw [hd.1 h5]
  · have := hd.2 (by omega); omega

set_option maxRecDepth 100000 in
set_option maxHeartbeats 8000000 in
theorem rren_any (v : Value) (d : VolD) (a : Option Addr) (L : List ByteArray) (cL : Nat) (aM : Option Addr) (M : List ByteArray) (cM : Nat) (w : World) (hv : VolVal w v d) (hs : SmallV d) (hok : VolOk d) (hL : StrsAt w a L) (hLM : StrsAt w aM M) (hcL : L.length ≤ cL) (hcM : M.length ≤ cM) (hl5 : L.length ≤ 5) (hm5 : M.length ≤ 5) :
    Calls Tryz.prog 27 #[v, .slice a L.length cL, .slice aM M.length cM] w (RPost d (renR d L M) w) := by
  have HS : Hid (SmallV d) := hs
  have HOK : Hid (VolOk d) := hok
  have HVV : Hid (VolVal w v d) := hv
  have hpos : 0 < d.files.length := hok.2.1.1.1
  have h16 : d.files.length ≤ 16 := hok.2.1.1.2.1
  have HL : Hid (StrsAt w a L) := hL
  have HLM : Hid (StrsAt w aM M) := hLM
  clear hL hLM
  obtain ⟨av, ca, rfl, _, _⟩ := hv
  have HB0 : Hid (Below w.heap.size w ((w.alloc (.cells #[.int .i64 d.id, .int .i64 d.fr, .bool d.snap, .slice av d.files.length ca, .int .i64 d.next] 24)).alloc (.cells #[.int .i64 0, .int .i64 0, .bool false, .slice none 0 0, .int .i64 0] 24))) := nwA (nwA (nwR w) _) _
  have HR0 : Hid (((w.alloc (.cells #[.int .i64 d.id, .int .i64 d.fr, .bool d.snap, .slice av d.files.length ca, .int .i64 d.next] 24)).alloc (.cells #[.int .i64 0, .int .i64 0, .bool false, .slice none 0 0, .int .i64 0] 24)).heap[w.heap.size + 1]? = some (.cells #[.int .i64 0, .int .i64 0, .bool false, .slice none 0 0, .int .i64 0] 24 (0, 0))) := heap_alloc_new2 w _ _
  have HG0 : Hid (((w.alloc (.cells #[.int .i64 d.id, .int .i64 d.fr, .bool d.snap, .slice av d.files.length ca, .int .i64 d.next] 24)).alloc (.cells #[.int .i64 0, .int .i64 0, .bool false, .slice none 0 0, .int .i64 0] 24)).heap[w.heap.size]? = some (.cells #[.int .i64 d.id, .int .i64 d.fr, .bool d.snap, .slice av d.files.length ca, .int .i64 d.next] 24 (0, 0))) := (Lib.alloc_old _ _ _ (by simp)).trans (heap_alloc_new w _)
  have HSZ : Hid (((w.alloc (.cells #[.int .i64 d.id, .int .i64 d.fr, .bool d.snap, .slice av d.files.length ca, .int .i64 d.next] 24)).alloc (.cells #[.int .i64 0, .int .i64 0, .bool false, .slice none 0 0, .int .i64 0] 24)).heap.size = w.heap.size + 2) := by show _ = _; simp
  clear hs hok
  go_enter Tryz.func27, Tryz.ntmps27
  go_wp2_with fail
  refine (copyVol_any _ d _ (HVV.out.below HB0.out) HS.out).mono ?_
  rintro e w1 ⟨⟨u, rfl, hu⟩, hb1⟩
  rw [HSZ.out] at hu
  obtain ⟨fv, rfl, hfv⟩ := hu
  obtain ⟨gs0, hgs0, hrow0, _⟩ := id hfv
  obtain ⟨g, cap, hfe, _, _⟩ := slice_cells hrow0 (by rw [show gs0.length = d.files.length from by rw [← hgs0, List.length_map]]; exact hpos)
  rw [show gs0.length = d.files.length from by rw [← hgs0, List.length_map]] at hfe
  subst hfe
  have HF1 : Hid (OwnFiles w1 (w.heap.size + 2) (.slice (some ⟨g, 0, none⟩) d.files.length cap) d.files) := hfv
  have HB1 : Hid (Below w.heap.size w w1) := nwT HB0.out hb1
  have HR1 : Hid (w1.heap[w.heap.size + 1]? = some (.cells #[.int .i64 0, .int .i64 0, .bool false, .slice none 0 0, .int .i64 0] 24 (0, 0))) := (hb1.block _ (Array.getElem?_eq_some_iff.1 HR0.out).1).trans HR0.out
  have HG1 : Hid (w1.heap[w.heap.size]? = some (.cells #[.int .i64 d.id, .int .i64 d.fr, .bool d.snap, .slice av d.files.length ca, .int .i64 d.next] 24 (0, 0))) := (hb1.block _ (Array.getElem?_eq_some_iff.1 HG0.out).1).trans HG0.out
  clear hb1 hfv hrow0 hgs0 HR0 HG0 HB0 HSZ
  obtain ⟨q0, q1, q2, q3, q4, qf⟩ := five HG1.out
  obtain ⟨r0, r1, r2, r3, r4, rf⟩ := five HR1.out
  obtain ⟨sn, hsn⟩ : ∃ sn, d.snap = sn := ⟨_, rfl⟩
  rw [hsn]
  have HSN : Hid (d.snap = sn) := hsn
  clear hsn
  cases sn
  case true =>
    have HQ : Hid (SnapR d (renR d L M) 9 Go.Proofs.YtdpighcaieajjabGreat.v0) := .inl ⟨HSN.out, rfl, rfl⟩
    go_wp2_with fail
    have HR2 : Hid ((((((w1.setCell ⟨w.heap.size, 0, none⟩ (.int .i64 d.id)).setCell ⟨w.heap.size, 1, none⟩ (.int .i64 d.fr)).setCell ⟨w.heap.size, 2, none⟩ (.bool true)).setCell ⟨w.heap.size, 3, none⟩ (.slice (some ⟨g, 0, none⟩) d.files.length cap)).setCell ⟨w.heap.size, 4, none⟩ (.int .i64 d.next)).heap[w.heap.size + 1]? = some (.cells #[.int .i64 0, .int .i64 0, .bool false, .slice none 0 0, .int .i64 0] 24 (0, 0))) := five_aside HR1.out (Nat.succ_ne_self _)
    have HB2 : Hid (Below w.heap.size w (((((w1.setCell ⟨w.heap.size, 0, none⟩ (.int .i64 d.id)).setCell ⟨w.heap.size, 1, none⟩ (.int .i64 d.fr)).setCell ⟨w.heap.size, 2, none⟩ (.bool true)).setCell ⟨w.heap.size, 3, none⟩ (.slice (some ⟨g, 0, none⟩) d.files.length cap)).setCell ⟨w.heap.size, 4, none⟩ (.int .i64 d.next))) := five_below HB1.out (Nat.le_refl _)
    generalize ((((w1.setCell ⟨w.heap.size, 0, none⟩ (.int .i64 d.id)).setCell ⟨w.heap.size, 1, none⟩ (.int .i64 d.fr)).setCell ⟨w.heap.size, 2, none⟩ (.bool true)).setCell ⟨w.heap.size, 3, none⟩ (.slice (some ⟨g, 0, none⟩) d.files.length cap)).setCell ⟨w.heap.size, 4, none⟩ (.int .i64 d.next) = W1 at HR2 HB2 ⊢
    obtain ⟨s0, s1, s2, s3, s4, _⟩ := five (five_set (d0 := .int .i64 0) (d1 := .int .i64 0) (d2 := .bool false) (d3 := .slice none 0 0) (d4 := .int .i64 0) HR2.out)
    refine bodyPost_ret (v := .tuple #[.agg #[.int .i64 0, .int .i64 0, .bool false, .slice none 0 0, .int .i64 0], .int .i64 9]) (by simp [results, Tryz.results27, go_sem, s0, s1, s2, s3, s4]) rfl ⟨⟨_, 9, _, rfl, ownVol_zero _ _, HQ.out⟩, ?_⟩
    exact five_below HB2.out (Nat.le_succ _)
  case false =>
  have HF2 : Hid (OwnFiles (((((w1.setCell ⟨w.heap.size, 0, none⟩ (.int .i64 d.id)).setCell ⟨w.heap.size, 1, none⟩ (.int .i64 d.fr)).setCell ⟨w.heap.size, 2, none⟩ (.bool false)).setCell ⟨w.heap.size, 3, none⟩ (.slice (some ⟨g, 0, none⟩) d.files.length cap)).setCell ⟨w.heap.size, 4, none⟩ (.int .i64 d.next)) (w.heap.size + 2) (.slice (some ⟨g, 0, none⟩) d.files.length cap) d.files) := ((((HF1.out.set 0 (by omega) _).set 1 (by omega) _).set 2 (by omega) _).set 3 (by omega) _).set 4 (by omega) _
  have HG2 : Hid ((((((w1.setCell ⟨w.heap.size, 0, none⟩ (.int .i64 d.id)).setCell ⟨w.heap.size, 1, none⟩ (.int .i64 d.fr)).setCell ⟨w.heap.size, 2, none⟩ (.bool false)).setCell ⟨w.heap.size, 3, none⟩ (.slice (some ⟨g, 0, none⟩) d.files.length cap)).setCell ⟨w.heap.size, 4, none⟩ (.int .i64 d.next)).heap[w.heap.size]? = some (.cells #[.int .i64 d.id, .int .i64 d.fr, .bool false, .slice (some ⟨g, 0, none⟩) d.files.length cap, .int .i64 d.next] 24 (0, 0))) := five_set HG1.out
  have HR2 : Hid ((((((w1.setCell ⟨w.heap.size, 0, none⟩ (.int .i64 d.id)).setCell ⟨w.heap.size, 1, none⟩ (.int .i64 d.fr)).setCell ⟨w.heap.size, 2, none⟩ (.bool false)).setCell ⟨w.heap.size, 3, none⟩ (.slice (some ⟨g, 0, none⟩) d.files.length cap)).setCell ⟨w.heap.size, 4, none⟩ (.int .i64 d.next)).heap[w.heap.size + 1]? = some (.cells #[.int .i64 0, .int .i64 0, .bool false, .slice none 0 0, .int .i64 0] 24 (0, 0))) := five_aside HR1.out (Nat.succ_ne_self _)
  have HB2 : Hid (Below w.heap.size w (((((w1.setCell ⟨w.heap.size, 0, none⟩ (.int .i64 d.id)).setCell ⟨w.heap.size, 1, none⟩ (.int .i64 d.fr)).setCell ⟨w.heap.size, 2, none⟩ (.bool false)).setCell ⟨w.heap.size, 3, none⟩ (.slice (some ⟨g, 0, none⟩) d.files.length cap)).setCell ⟨w.heap.size, 4, none⟩ (.int .i64 d.next))) := five_below HB1.out (Nat.le_refl _)
  clear HR1 HG1 HB1 HF1 r0 r1 r2 r3 r4 rf
  have HUR : Hid (renR d L M = if L.length = 0 ∨ M.length = 0 then (8, Go.Proofs.YtdpighcaieajjabGreat.v0) else if (findF d.files 0 L).2 = 0 then (if L = M then (0, d) else if ((d.files.getD (findF d.files 0 L).1 f0).dir && un L M) = true then (8, Go.Proofs.YtdpighcaieajjabGreat.v0) else if (vacF d.files M).2 = 0 then (if (8 ≤ (d.files.getD (vacF d.files M).1 f0).list.length ∧ (vacF d.files M).1 ≠ (parF d.files L).1) ∨ 5 < M.length + deepN d.files (findF d.files 0 L).1 then (2, Go.Proofs.YtdpighcaieajjabGreat.v0) else (0, movV d (parF d.files L).1 ((namedI (d.files.getD (parF d.files L).1 f0).list (lastN L)).getD 0) (vacF d.files M).1 (lastN M, (d.files.getD (findF d.files 0 L).1 f0).id))) else ((vacF d.files M).2, Go.Proofs.YtdpighcaieajjabGreat.v0)) else ((findF d.files 0 L).2, Go.Proofs.YtdpighcaieajjabGreat.v0)) := rfl
  by_cases h0 : L.length = 0 ∨ M.length = 0
  case pos =>
    have HQ : Hid (SnapR d (renR d L M) 8 Go.Proofs.YtdpighcaieajjabGreat.v0) := .inr ⟨HSN.out, by rw [HUR.out, if_pos h0]⟩
    obtain ⟨r0, r1, r2, r3, r4, rf⟩ := five HR2.out
    by_cases hL0 : L.length = 0
    · have hLb : ((L.length : Int) == 0) = true := beq_iff_eq.2 (by omega)
      clear h0
      go_wp2_with fail
      generalize ((((w1.setCell ⟨w.heap.size, 0, none⟩ (.int .i64 d.id)).setCell ⟨w.heap.size, 1, none⟩ (.int .i64 d.fr)).setCell ⟨w.heap.size, 2, none⟩ (.bool false)).setCell ⟨w.heap.size, 3, none⟩ (.slice (some ⟨g, 0, none⟩) d.files.length cap)).setCell ⟨w.heap.size, 4, none⟩ (.int .i64 d.next) = W1 at HF2 HG2 HR2 HB2 ⊢
      obtain ⟨s0, s1, s2, s3, s4, _⟩ := five (five_set (d0 := .int .i64 0) (d1 := .int .i64 0) (d2 := .bool false) (d3 := .slice none 0 0) (d4 := .int .i64 0) HR2.out)
      refine bodyPost_ret (v := .tuple #[.agg #[.int .i64 0, .int .i64 0, .bool false, .slice none 0 0, .int .i64 0], .int .i64 8]) (by simp [results, Tryz.results27, go_sem, s0, s1, s2, s3, s4]) rfl ⟨⟨_, 8, _, rfl, ownVol_zero _ _, HQ.out⟩, ?_⟩
      exact five_below HB2.out (Nat.le_succ _)
    · have hLb : ((L.length : Int) == 0) = false := beq_eq_false_iff_ne.2 (by omega)
      have hMb : ((M.length : Int) == 0) = true := beq_iff_eq.2 (by omega)
      clear h0
      go_wp2_with fail
      generalize ((((w1.setCell ⟨w.heap.size, 0, none⟩ (.int .i64 d.id)).setCell ⟨w.heap.size, 1, none⟩ (.int .i64 d.fr)).setCell ⟨w.heap.size, 2, none⟩ (.bool false)).setCell ⟨w.heap.size, 3, none⟩ (.slice (some ⟨g, 0, none⟩) d.files.length cap)).setCell ⟨w.heap.size, 4, none⟩ (.int .i64 d.next) = W1 at HF2 HG2 HR2 HB2 ⊢
      obtain ⟨s0, s1, s2, s3, s4, _⟩ := five (five_set (d0 := .int .i64 0) (d1 := .int .i64 0) (d2 := .bool false) (d3 := .slice none 0 0) (d4 := .int .i64 0) HR2.out)
      refine bodyPost_ret (v := .tuple #[.agg #[.int .i64 0, .int .i64 0, .bool false, .slice none 0 0, .int .i64 0], .int .i64 8]) (by simp [results, Tryz.results27, go_sem, s0, s1, s2, s3, s4]) rfl ⟨⟨_, 8, _, rfl, ownVol_zero _ _, HQ.out⟩, ?_⟩
      exact five_below HB2.out (Nat.le_succ _)
  case neg =>
  have hL0 : 0 < L.length := by omega
  have hM0 : 0 < M.length := by omega
  have HLM0 : Hid (0 < L.length ∧ 0 < M.length) := ⟨hL0, hM0⟩
  have hLb : ((L.length : Int) == 0) = false := beq_eq_false_iff_ne.2 (by omega)
  have hMb : ((M.length : Int) == 0) = false := beq_eq_false_iff_ne.2 (by omega)
  have HUR0 : Hid (renR d L M = if (findF d.files 0 L).2 = 0 then (if L = M then (0, d) else if ((d.files.getD (findF d.files 0 L).1 f0).dir && un L M) = true then (8, Go.Proofs.YtdpighcaieajjabGreat.v0) else if (vacF d.files M).2 = 0 then (if (8 ≤ (d.files.getD (vacF d.files M).1 f0).list.length ∧ (vacF d.files M).1 ≠ (parF d.files L).1) ∨ 5 < M.length + deepN d.files (findF d.files 0 L).1 then (2, Go.Proofs.YtdpighcaieajjabGreat.v0) else (0, movV d (parF d.files L).1 ((namedI (d.files.getD (parF d.files L).1 f0).list (lastN L)).getD 0) (vacF d.files M).1 (lastN M, (d.files.getD (findF d.files 0 L).1 f0).id))) else ((vacF d.files M).2, Go.Proofs.YtdpighcaieajjabGreat.v0)) else ((findF d.files 0 L).2, Go.Proofs.YtdpighcaieajjabGreat.v0)) := by show _ = _; rw [HUR.out, if_neg h0]
  clear HUR h0 hL0 hM0
  go_wp2_with fail
  generalize ((((w1.setCell ⟨w.heap.size, 0, none⟩ (.int .i64 d.id)).setCell ⟨w.heap.size, 1, none⟩ (.int .i64 d.fr)).setCell ⟨w.heap.size, 2, none⟩ (.bool false)).setCell ⟨w.heap.size, 3, none⟩ (.slice (some ⟨g, 0, none⟩) d.files.length cap)).setCell ⟨w.heap.size, 4, none⟩ (.int .i64 d.next) = W1 at HF2 HG2 HR2 HB2 ⊢
  have HV2 : Hid (VolVal W1 (.agg #[.int .i64 d.id, .int .i64 d.fr, .bool d.snap, .slice (some ⟨g, 0, none⟩) d.files.length cap, .int .i64 d.next]) d) := by
    obtain ⟨a', c', e, h1, h2⟩ := HF2.out.at
    simp only [Value.slice.injEq, true_and] at e
    obtain ⟨rfl, rfl⟩ := e
    exact ⟨_, _, rfl, h1, h2⟩
  have HFD : Hid (Calls Tryz.prog 51 #[.agg #[.int .i64 d.id, .int .i64 d.fr, .bool false, .slice (some ⟨g, 0, none⟩) d.files.length cap, .int .i64 d.next], .slice a L.length cL] W1 fun e w' => e = .returned (.tuple #[.int .i64 (findF d.files 0 L).1, .int .i64 (findF d.files 0 L).2]) ∧ Below W1.heap.size W1 w') := by
    have h := find_any _ d a L cL W1 HV2.out HS.out HOK.out.sound (HL.out.below HB2.out) (by omega)
    rw [HSN.out] at h; exact h
  have HPM : Hid (∀ w', Below W1.heap.size W1 w' → Calls Tryz.prog 45 #[.agg #[.int .i64 d.id, .int .i64 d.fr, .bool false, .slice (some ⟨g, 0, none⟩) d.files.length cap, .int .i64 d.next], .slice aM M.length cM] w' fun e w'' => e = .returned (.tuple #[.int .i64 (parF d.files M).1, .int .i64 (parF d.files M).2]) ∧ Below w'.heap.size w' w'') := fun w' hw => by
    have h := parent_find _ d aM M cM w' (HV2.out.below hw) HS.out HOK.out.sound (HLM.out.below (nwT HB2.out hw)) (by omega) HLM0.out.2 hcM
    rw [HSN.out] at h; exact h
  have HPA : Hid (∀ w', Below W1.heap.size W1 w' → Calls Tryz.prog 45 #[.agg #[.int .i64 d.id, .int .i64 d.fr, .bool false, .slice (some ⟨g, 0, none⟩) d.files.length cap, .int .i64 d.next], .slice a L.length cL] w' fun e w'' => e = .returned (.tuple #[.int .i64 (parF d.files L).1, .int .i64 (parF d.files L).2]) ∧ Below w'.heap.size w' w'') := fun w' hw => by
    have h := parent_find _ d a L cL w' (HV2.out.below hw) HS.out HOK.out.sound (HL.out.below (nwT HB2.out hw)) (by omega) HLM0.out.1 hcL
    rw [HSN.out] at h; exact h
  have HDP : Hid (∀ (w' : World) (q : Nat), Below W1.heap.size W1 w' → q < d.files.length → Calls Tryz.prog 41 #[.agg #[.int .i64 d.id, .int .i64 d.fr, .bool false, .slice (some ⟨g, 0, none⟩) d.files.length cap, .int .i64 d.next], .int .i64 (d.files.getD q f0).id, .int .i64 5] w' fun e w'' => e = .returned (.int .i64 (deepF d.files 5 (d.files.getD q f0).id : Nat)) ∧ Below w'.heap.size w' w'') := fun w' q hw hq => by
    have h := deep_any _ d HS.out HOK.out.sound 5 (by omega) (d.files.getD q f0).id w' (HV2.out.below hw) (by rw [atI_self HOK.out.web.ris hq]; rfl)
    rw [HSN.out] at h; exact h
  have HEQ : Hid (∀ w', Below W1.heap.size W1 w' → Calls Tryz.prog 60 #[.slice a L.length cL, .slice aM M.length cM] w' fun e w'' => e = .returned (.bool (decide (L = M))) ∧ Below w'.heap.size w' w'') := fun w' hw =>
    below_of_drew (eqs_any a aM L M cL cM w' (HL.out.below (nwT HB2.out hw)) (HLM.out.below (nwT HB2.out hw)) (by unfold maxLen; omega))
  have HUN : Hid (∀ w', Below W1.heap.size W1 w' → Calls Tryz.prog 61 #[.slice a L.length cL, .slice aM M.length cM] w' fun e w'' => e = .returned (.bool (un L M)) ∧ Below w'.heap.size w' w'') := fun w' hw =>
    below_of_drew (runder_any a aM L M cL cM w' (HL.out.below (nwT HB2.out hw)) (HLM.out.below (nwT HB2.out hw)) (by unfold maxLen; omega))
  have HFL : Hid (∀ q, findF d.files 0 L = (q, 0) → q < d.files.length ∧ ∃ qp k, parF d.files L = (qp, 0) ∧ (d.files.getD qp f0).dir = true ∧ namedI (d.files.getD qp f0).list (lastN L) = some k ∧ q = placeOf d.files ((d.files.getD qp f0).list.getD k lk0).2) := fun q h => ⟨by have h2 := findF_lt HOK.out.sound L 0 hpos; rw [h] at h2; exact h2, find_par (by have := HLM0.out.1; omega) h⟩
  have HDT : Hid (∀ q, q < d.files.length → decide (5 < M.length + deepF d.files 5 (d.files.getD q f0).id) = decide (5 < M.length + deepN d.files q)) := fun q hq => deep_test HOK.out hq M.length
  refine HFD.out.mono ?_
  rintro e w2 ⟨rfl, hb2⟩
  have HF3 : Hid (OwnFiles w2 (w.heap.size + 2) (.slice (some ⟨g, 0, none⟩) d.files.length cap) d.files) := HF2.out.below hb2
  have HG3 : Hid (w2.heap[w.heap.size]? = some (.cells #[.int .i64 d.id, .int .i64 d.fr, .bool false, .slice (some ⟨g, 0, none⟩) d.files.length cap, .int .i64 d.next] 24 (0, 0))) := (hb2.block _ (Array.getElem?_eq_some_iff.1 HG2.out).1).trans HG2.out
  have HR3 : Hid (w2.heap[w.heap.size + 1]? = some (.cells #[.int .i64 0, .int .i64 0, .bool false, .slice none 0 0, .int .i64 0] 24 (0, 0))) := (hb2.block _ (Array.getElem?_eq_some_iff.1 HR2.out).1).trans HR2.out
  have HB3 : Hid (Below w.heap.size w w2) := nwT HB2.out hb2
  have HW12 : Hid (Below W1.heap.size W1 w2) := hb2
  generalize findF d.files 0 L = r at HUR0 HFL ⊢
  obtain ⟨q, er⟩ := r
  simp only at HUR0 HFL ⊢
  obtain ⟨r0, r1, r2, r3, r4, rf⟩ := five HR3.out
  clear hb2 HFD HV2 HF2 HG2 HR2 HB2
  by_cases her : er = 0
  case neg =>
    have HQ : Hid (SnapR d (renR d L M) er Go.Proofs.YtdpighcaieajjabGreat.v0) := .inr ⟨HSN.out, by rw [HUR0.out, if_neg her]⟩
    have hd1 : decide (er = 0) = false := decide_eq_false her
    have hd2 : (er == 0) = false := beq_eq_false_iff_ne.2 her
    go_wp2_with fail
    obtain ⟨s0, s1, s2, s3, s4, _⟩ := five (five_set (d0 := .int .i64 0) (d1 := .int .i64 0) (d2 := .bool false) (d3 := .slice none 0 0) (d4 := .int .i64 0) HR3.out)
    refine bodyPost_ret (v := .tuple #[.agg #[.int .i64 0, .int .i64 0, .bool false, .slice none 0 0, .int .i64 0], .int .i64 er]) (by simp [results, Tryz.results27, go_sem, s0, s1, s2, s3, s4]) rfl ⟨⟨_, er, _, rfl, ownVol_zero _ _, HQ.out⟩, ?_⟩
    exact five_below HB3.out (Nat.le_succ _)
  case pos =>
  subst her
  obtain ⟨hql, qa, k, hpar, _, hnk, hqp⟩ := HFL.out q rfl
  have HUR1 : Hid (renR d L M = if L = M then (0, d) else if ((d.files.getD q f0).dir && un L M) = true then (8, Go.Proofs.YtdpighcaieajjabGreat.v0) else if (vacF d.files M).2 = 0 then (if (8 ≤ (d.files.getD (vacF d.files M).1 f0).list.length ∧ (vacF d.files M).1 ≠ qa) ∨ 5 < M.length + deepN d.files q then (2, Go.Proofs.YtdpighcaieajjabGreat.v0) else (0, movV d qa k (vacF d.files M).1 (lastN M, (d.files.getD q f0).id))) else ((vacF d.files M).2, Go.Proofs.YtdpighcaieajjabGreat.v0)) := by show _ = _; rw [HUR0.out, if_pos rfl, hpar]; simp only; rw [hnk]; rfl
  have HNK : Hid (namedI (d.files.getD qa f0).list (lastN L) = some k) := hnk
  have HPAR : Hid (parF d.files L = (qa, 0)) := hpar
  clear HUR0 HFL hqp hnk hpar
  have hqi : (q : Int) < (d.files.length : Int) := by omega
  have hq0 : (0 : Int) ≤ (q : Int) := by omega
  have hqal : qa < d.files.length := parF_lt HOK.out.sound HPAR.out
  have HQC : Hid (∀ w', OwnFiles w' (w.heap.size + 2) (.slice (some ⟨g, 0, none⟩) d.files.length cap) d.files → w'.cell? ⟨g, q * 5, none⟩ = some (.int .i64 (d.files.getD q f0).id) ∧ w'.cell? ⟨g, q * 5 + 1, none⟩ = some (.bool (d.files.getD q f0).dir)) := fun w' h => by
    obtain ⟨gs, h1, h2, _⟩ := h
    obtain ⟨x, hx⟩ : ∃ x, gs[q]? = some x := ⟨_, List.getElem?_eq_getElem (by rw [show gs.length = d.files.length from by rw [← h1, List.length_map]]; exact hql)⟩
    have hxd : d.files.getD q f0 = x.d := by rw [← h1]; simp [List.getD, hx]
    rw [show gs.length = d.files.length from by rw [← h1, List.length_map]] at h2
    obtain ⟨a1, a2, _⟩ := RowF.cellAt (show RowF w' (w.heap.size + 2) g d.files.length cap gs from h2) hx
    rw [hxd]; exact ⟨a1, a2⟩
  have HPA1 : Hid (∀ w', Below W1.heap.size W1 w' → Calls Tryz.prog 45 #[.agg #[.int .i64 d.id, .int .i64 d.fr, .bool false, .slice (some ⟨g, 0, none⟩) d.files.length cap, .int .i64 d.next], .slice a L.length cL] w' fun e w'' => e = .returned (.tuple #[.int .i64 qa, .int .i64 0]) ∧ Below w'.heap.size w' w'') := fun w' hw => by have h := HPA.out w' hw; rw [HPAR.out] at h; exact h
  clear HPA HPAR
  have HEQ1 : Hid (Calls Tryz.prog 60 #[.slice a L.length cL, .slice aM M.length cM] w2 fun e w'' => e = .returned (.bool (decide (L = M))) ∧ Below w2.heap.size w2 w'') := HEQ.out _ HW12.out
  clear HEQ
  go_wp2_with fail
  refine HEQ1.out.mono ?_
  rintro e w3 ⟨rfl, hb3⟩
  have HF4 : Hid (OwnFiles w3 (w.heap.size + 2) (.slice (some ⟨g, 0, none⟩) d.files.length cap) d.files) := HF3.out.below hb3
  have HG4 : Hid (w3.heap[w.heap.size]? = some (.cells #[.int .i64 d.id, .int .i64 d.fr, .bool false, .slice (some ⟨g, 0, none⟩) d.files.length cap, .int .i64 d.next] 24 (0, 0))) := (hb3.block _ (Array.getElem?_eq_some_iff.1 HG3.out).1).trans HG3.out
  have HR4 : Hid (w3.heap[w.heap.size + 1]? = some (.cells #[.int .i64 0, .int .i64 0, .bool false, .slice none 0 0, .int .i64 0] 24 (0, 0))) := (hb3.block _ (Array.getElem?_eq_some_iff.1 HR3.out).1).trans HR3.out
  have HB4 : Hid (Below w.heap.size w w3) := nwT HB3.out hb3
  have HW13 : Hid (Below W1.heap.size W1 w3) := nwT HW12.out hb3
  clear hb3 HEQ1 HF3 HG3 HR3 HB3 HW12 r0 r1 r2 r3 r4 rf
  obtain ⟨t0, t1, t2, t3, t4, tf⟩ := five HG4.out
  obtain ⟨r0, r1, r2, r3, r4, rf⟩ := five HR4.out
  obtain ⟨_, c1⟩ := HQC.out w3 HF4.out
  by_cases hLM : L = M
  case pos =>
    have HQ : Hid (SnapR d (renR d L M) 0 d) := .inr ⟨HSN.out, by rw [HUR1.out, if_pos hLM]⟩
    rw [decide_eq_true hLM]
    clear hLM
    go_wp2_with fail
    obtain ⟨s0, s1, s2, s3, s4, _⟩ := five (five_set (d0 := .int .i64 d.id) (d1 := .int .i64 d.fr) (d2 := .bool false) (d3 := .slice (some ⟨g, 0, none⟩) d.files.length cap) (d4 := .int .i64 d.next) HR4.out)
    refine bodyPost_ret (v := .tuple #[.agg #[.int .i64 d.id, .int .i64 d.fr, .bool false, .slice (some ⟨g, 0, none⟩) d.files.length cap, .int .i64 d.next], .int .i64 0]) (by simp [results, Tryz.results27, go_sem, s0, s1, s2, s3, s4]) rfl ⟨⟨_, 0, d, rfl, ⟨.slice (some ⟨g, 0, none⟩) d.files.length cap, ?_, ?_⟩, HQ.out⟩, ?_⟩
    · rw [HSN.out]
    · exact (((((HF4.out.set 0 (by omega) _).set 1 (by omega) _).set 2 (by omega) _).set 3 (by omega) _).set 4 (by omega) _).le (Nat.le_add_right _ _)
    · exact five_below HB4.out (Nat.le_succ _)
  case neg =>
  have HUR2 : Hid (renR d L M = if ((d.files.getD q f0).dir && un L M) = true then (8, Go.Proofs.YtdpighcaieajjabGreat.v0) else if (vacF d.files M).2 = 0 then (if (8 ≤ (d.files.getD (vacF d.files M).1 f0).list.length ∧ (vacF d.files M).1 ≠ qa) ∨ 5 < M.length + deepN d.files q then (2, Go.Proofs.YtdpighcaieajjabGreat.v0) else (0, movV d qa k (vacF d.files M).1 (lastN M, (d.files.getD q f0).id))) else ((vacF d.files M).2, Go.Proofs.YtdpighcaieajjabGreat.v0)) := by show _ = _; rw [HUR1.out, if_neg hLM]
  rw [decide_eq_false hLM]
  clear HUR1 hLM
  generalize un L M = U at HUN HUR2
  generalize hdr : (d.files.getD q f0).dir = D at c1 HUR2
  clear hdr
  go_upto_region 11 with fail
  go_cut [53] from 43 to 53 (fun s53 wx => s53 = .bool (D && U) ∧ Below w3.heap.size w3 wx)
  case first =>
    cases D
    · go_wp2_with fail
      go_meet
      exact ⟨by simp, nwR _⟩
    · have HUN1 : Hid (Calls Tryz.prog 61 #[.slice a L.length cL, .slice aM M.length cM] w3 fun e w'' => e = .returned (.bool U) ∧ Below w3.heap.size w3 w'') := HUN.out _ HW13.out
      go_wp2_with (first | (go_at_call 61; refine HUN1.out.mono ?_; rintro e w4 ⟨rfl, hb4⟩) | fail)
      go_meet
      exact ⟨by simp, hb4⟩
  case rest =>
  obtain ⟨rfl, hb4⟩ := hcut
  rename World => w4
  have HF5 : Hid (OwnFiles w4 (w.heap.size + 2) (.slice (some ⟨g, 0, none⟩) d.files.length cap) d.files) := HF4.out.below hb4
  have HG5 : Hid (w4.heap[w.heap.size]? = some (.cells #[.int .i64 d.id, .int .i64 d.fr, .bool false, .slice (some ⟨g, 0, none⟩) d.files.length cap, .int .i64 d.next] 24 (0, 0))) := (hb4.block _ (Array.getElem?_eq_some_iff.1 HG4.out).1).trans HG4.out
  have HR5 : Hid (w4.heap[w.heap.size + 1]? = some (.cells #[.int .i64 0, .int .i64 0, .bool false, .slice none 0 0, .int .i64 0] 24 (0, 0))) := (hb4.block _ (Array.getElem?_eq_some_iff.1 HR4.out).1).trans HR4.out
  have HB5 : Hid (Below w.heap.size w w4) := nwT HB4.out hb4
  have HW14 : Hid (Below W1.heap.size W1 w4) := nwT HW13.out hb4
  clear hb4 HUN HF4 HG4 HR4 HB4 HW13 r0 r1 r2 r3 r4 rf t0 t1 t2 t3 t4 tf c1
  obtain ⟨t0, t1, t2, t3, t4, tf⟩ := five HG5.out
  obtain ⟨r0, r1, r2, r3, r4, rf⟩ := five HR5.out
  cases hDU : (D && U)
  case true =>
    have HQ : Hid (SnapR d (renR d L M) 8 Go.Proofs.YtdpighcaieajjabGreat.v0) := .inr ⟨HSN.out, by rw [HUR2.out, if_pos hDU]⟩
    clear hDU
    go_wp2_with fail
    obtain ⟨s0, s1, s2, s3, s4, _⟩ := five (five_set (d0 := .int .i64 0) (d1 := .int .i64 0) (d2 := .bool false) (d3 := .slice none 0 0) (d4 := .int .i64 0) HR5.out)
    refine bodyPost_ret (v := .tuple #[.agg #[.int .i64 0, .int .i64 0, .bool false, .slice none 0 0, .int .i64 0], .int .i64 8]) (by simp [results, Tryz.results27, go_sem, s0, s1, s2, s3, s4]) rfl ⟨⟨_, 8, _, rfl, ownVol_zero _ _, HQ.out⟩, ?_⟩
    exact five_below HB5.out (Nat.le_succ _)
  case false =>
  have HUR3 : Hid (renR d L M = if (vacF d.files M).2 = 0 then (if (8 ≤ (d.files.getD (vacF d.files M).1 f0).list.length ∧ (vacF d.files M).1 ≠ qa) ∨ 5 < M.length + deepN d.files q then (2, Go.Proofs.YtdpighcaieajjabGreat.v0) else (0, movV d qa k (vacF d.files M).1 (lastN M, (d.files.getD q f0).id))) else ((vacF d.files M).2, Go.Proofs.YtdpighcaieajjabGreat.v0)) := by show _ = _; rw [HUR2.out, hDU]; rfl
  clear hDU HUR2
  have HUR4 : Hid (renR d L M = if (parF d.files M).2 = 0 then (if (namedI (d.files.getD (parF d.files M).1 f0).list (lastN M)).isSome then (4, Go.Proofs.YtdpighcaieajjabGreat.v0) else (if (8 ≤ (d.files.getD (parF d.files M).1 f0).list.length ∧ (parF d.files M).1 ≠ qa) ∨ 5 < M.length + deepN d.files q then (2, Go.Proofs.YtdpighcaieajjabGreat.v0) else (0, movV d qa k (parF d.files M).1 (lastN M, (d.files.getD q f0).id)))) else ((parF d.files M).2, Go.Proofs.YtdpighcaieajjabGreat.v0)) := by
    show _ = _
    rw [HUR3.out]
    have hv : vacF d.files M = if (parF d.files M).2 = 0 then (if (namedI (d.files.getD (parF d.files M).1 f0).list (lastN M)).isSome then (0, 4) else parF d.files M) else (0, (parF d.files M).2) := by unfold vacF; rw [if_neg (by have := HLM0.out.2; omega)]
    rw [hv]
    by_cases h1 : (parF d.files M).2 = 0
    · cases h2 : (namedI (d.files.getD (parF d.files M).1 f0).list (lastN M)).isSome
      · simp [h1]
      · simp [h1]
    · simp [h1]
  have HPL : Hid (∀ qp, parF d.files M = (qp, 0) → qp < d.files.length) := fun qp h => parF_lt HOK.out.sound h
  have HPM2 : Hid (Calls Tryz.prog 45 #[.agg #[.int .i64 d.id, .int .i64 d.fr, .bool false, .slice (some ⟨g, 0, none⟩) d.files.length cap, .int .i64 d.next], .slice aM M.length cM] w4 fun e w'' => e = .returned (.tuple #[.int .i64 (parF d.files M).1, .int .i64 (parF d.files M).2]) ∧ Below w4.heap.size w4 w'') := HPM.out w4 HW14.out
  clear HUR3 HPM
  go_wp2_with fail
  refine HPM2.out.mono ?_
  rintro e w5 ⟨rfl, hb5⟩
  have HF6 : Hid (OwnFiles w5 (w.heap.size + 2) (.slice (some ⟨g, 0, none⟩) d.files.length cap) d.files) := HF5.out.below hb5
  have HG6 : Hid (w5.heap[w.heap.size]? = some (.cells #[.int .i64 d.id, .int .i64 d.fr, .bool false, .slice (some ⟨g, 0, none⟩) d.files.length cap, .int .i64 d.next] 24 (0, 0))) := (hb5.block _ (Array.getElem?_eq_some_iff.1 HG5.out).1).trans HG5.out
  have HR6 : Hid (w5.heap[w.heap.size + 1]? = some (.cells #[.int .i64 0, .int .i64 0, .bool false, .slice none 0 0, .int .i64 0] 24 (0, 0))) := (hb5.block _ (Array.getElem?_eq_some_iff.1 HR5.out).1).trans HR5.out
  have HB6 : Hid (Below w.heap.size w w5) := nwT HB5.out hb5
  have HW15 : Hid (Below W1.heap.size W1 w5) := nwT HW14.out hb5
  clear hb5 HPM2 HF5 HG5 HR5 HB5 HW14 t0 t1 t2 t3 t4 tf r0 r1 r2 r3 r4 rf
  generalize parF d.files M = r at HUR4 HPL ⊢
  obtain ⟨qv, er⟩ := r
  simp only at HUR4 HPL ⊢
  obtain ⟨t0, t1, t2, t3, t4, tf⟩ := five HG6.out
  obtain ⟨r0, r1, r2, r3, r4, rf⟩ := five HR6.out
  by_cases her : er = 0
  case neg =>
    have HQ : Hid (SnapR d (renR d L M) er Go.Proofs.YtdpighcaieajjabGreat.v0) := .inr ⟨HSN.out, by rw [HUR4.out, if_neg her]⟩
    have hd1 : decide (er = 0) = false := decide_eq_false her
    have hd2 : (er == 0) = false := beq_eq_false_iff_ne.2 her
    go_wp2_with fail
    obtain ⟨s0, s1, s2, s3, s4, _⟩ := five (five_set (d0 := .int .i64 0) (d1 := .int .i64 0) (d2 := .bool false) (d3 := .slice none 0 0) (d4 := .int .i64 0) HR6.out)
    refine bodyPost_ret (v := .tuple #[.agg #[.int .i64 0, .int .i64 0, .bool false, .slice none 0 0, .int .i64 0], .int .i64 er]) (by simp [results, Tryz.results27, go_sem, s0, s1, s2, s3, s4]) rfl ⟨⟨_, er, _, rfl, ownVol_zero _ _, HQ.out⟩, ?_⟩
    exact five_below HB6.out (Nat.le_succ _)
  case pos =>
  subst her
  have hqvl := HPL.out qv rfl
  obtain ⟨gs, hgd, hrow, hown⟩ := HF6.out
  have hgl : gs.length = d.files.length := by rw [← hgd, List.length_map]
  obtain ⟨x, hx⟩ : ∃ x, gs[qv]? = some x := ⟨_, List.getElem?_eq_getElem (by omega)⟩
  have hxd : d.files.getD qv f0 = x.d := by rw [← hgd]; simp [List.getD, hx]
  rw [hgl] at hrow
  have c4 := (RowF.cellAt (show RowF w5 (w.heap.size + 2) g d.files.length cap gs from hrow) hx).2.2.2.2
  obtain ⟨al, cl, hlv, hla, hlc⟩ := (hown x (List.mem_of_getElem? hx)).2.at
  rw [hlv] at c4
  have hsl : x.d.list.length ≤ 8 := by have := (HOK.out.dirq hqvl).1; rwa [hxd] at this
  have HLA : Hid (LinksAt w5 al x.d.list ∧ CapOk al cl x.d.list.length) := ⟨hla, hlc⟩
  have HUR5 : Hid (renR d L M = if (namedI x.d.list (lastN M)).isSome then (4, Go.Proofs.YtdpighcaieajjabGreat.v0) else (if (8 ≤ x.d.list.length ∧ qv ≠ qa) ∨ 5 < M.length + deepN d.files q then (2, Go.Proofs.YtdpighcaieajjabGreat.v0) else (0, movV d qa k qv (lastN M, (d.files.getD q f0).id)))) := by show _ = _; rw [HUR4.out, if_pos rfl, hxd]
  have HGG : Hid (g < w5.heap.size ∧ w.heap.size + 2 ≤ g) := ⟨(World.ownsRow.lt hrow g rfl).2, (World.ownsRow.lt hrow g rfl).1⟩
  have hgl2 := HGG.out.1
  have hGl : w.heap.size < w5.heap.size := (Array.getElem?_eq_some_iff.1 HG6.out).1
  obtain ⟨sb, so, rfl, sc⟩ := (HLM.out.below HB6.out).cell (show M.length - 1 < M.length by have := HLM0.out.2; omega)
  have HLN : Hid (M.getD (M.length - 1) ByteArray.empty = lastN M) := rfl
  rw [HLN.out] at sc
  generalize lastN M = last at sc HUR5
  have e1 : IntKind.i64.wrap ((M.length : Int) - 1) = ((M.length - 1 : Nat) : Int) := by have := HLM0.out.2; rw [wrap_any (by omega) (by omega)]; omega
  have hl1 : ((M.length - 1 : Nat) : Int) < (M.length : Int) := by have := HLM0.out.2; omega
  have hl2 : (0 : Int) ≤ ((M.length - 1 : Nat) : Int) := by omega
  generalize hm1 : M.length - 1 = m1 at sc e1 hl1 hl2
  have hpi : (qv : Int) < (d.files.length : Int) := by omega
  have hp0 : (0 : Int) ≤ (qv : Int) := by omega
  have HNA : Hid (Calls Tryz.prog 46 #[.slice al x.d.list.length cl, .string last] w5 fun e w' => e = .returned (.int .i64 (optI (namedI x.d.list last))) ∧ w5 = w') := (named_any al x.d.list cl last w5 HLA.out.1 (by omega)).mono fun _ _ h => ⟨h.1, h.2.symm⟩
  have HXL : Hid ((d.files.getD qv f0).list = x.d.list) := by show _ = _; rw [hxd]
  clear hm1 hgd hrow hown hx hlv hla hlc hgl hxd HUR4 HPL
  go_wp2_with fail
  refine HNA.out.mono ?_
  rintro e w' ⟨rfl, rfl⟩
  clear HNA
  cases hn : namedI x.d.list last with
  | some kk =>
    have HQ : Hid (SnapR d (renR d L M) 4 Go.Proofs.YtdpighcaieajjabGreat.v0) := .inr ⟨HSN.out, by rw [HUR5.out, hn]; rfl⟩
    simp only [optI]
    have hk0 : (0 : Int) ≤ (kk : Int) := by omega
    clear hn
    go_wp2_with fail
    obtain ⟨s0, s1, s2, s3, s4, _⟩ := five (five_set (d0 := .int .i64 0) (d1 := .int .i64 0) (d2 := .bool false) (d3 := .slice none 0 0) (d4 := .int .i64 0) HR6.out)
    refine bodyPost_ret (v := .tuple #[.agg #[.int .i64 0, .int .i64 0, .bool false, .slice none 0 0, .int .i64 0], .int .i64 4]) (by simp [results, Tryz.results27, go_sem, s0, s1, s2, s3, s4]) rfl ⟨⟨_, 4, _, rfl, ownVol_zero _ _, HQ.out⟩, ?_⟩
    exact five_below HB6.out (Nat.le_succ _)
  | none =>
  simp only [optI]
  have HUR6 : Hid (renR d L M = if (8 ≤ x.d.list.length ∧ qv ≠ qa) ∨ 5 < M.length + deepN d.files q then (2, Go.Proofs.YtdpighcaieajjabGreat.v0) else (0, movV d qa k qv (last, (d.files.getD q f0).id))) := by show _ = _; rw [HUR5.out, hn]; rfl
  clear hn HUR5 HLA sc e1 hl1 hl2
  have HPA2 : Hid (Calls Tryz.prog 45 #[.agg #[.int .i64 d.id, .int .i64 d.fr, .bool false, .slice (some ⟨g, 0, none⟩) d.files.length cap, .int .i64 d.next], .slice a L.length cL] w5 fun e w'' => e = .returned (.tuple #[.int .i64 qa, .int .i64 0]) ∧ Below w5.heap.size w5 w'') := HPA1.out w5 HW15.out
  clear HPA1
  go_wp2_with fail
  refine HPA2.out.mono ?_
  rintro e w6 ⟨rfl, hb6⟩
  have HF7 : Hid (OwnFiles w6 (w.heap.size + 2) (.slice (some ⟨g, 0, none⟩) d.files.length cap) d.files) := HF6.out.below hb6
  have HG7 : Hid (w6.heap[w.heap.size]? = some (.cells #[.int .i64 d.id, .int .i64 d.fr, .bool false, .slice (some ⟨g, 0, none⟩) d.files.length cap, .int .i64 d.next] 24 (0, 0))) := (hb6.block _ (Array.getElem?_eq_some_iff.1 HG6.out).1).trans HG6.out
  have HR7 : Hid (w6.heap[w.heap.size + 1]? = some (.cells #[.int .i64 0, .int .i64 0, .bool false, .slice none 0 0, .int .i64 0] 24 (0, 0))) := (hb6.block _ (Array.getElem?_eq_some_iff.1 HR6.out).1).trans HR6.out
  have HB7 : Hid (Below w.heap.size w w6) := nwT HB6.out hb6
  have HW16 : Hid (Below W1.heap.size W1 w6) := nwT HW15.out hb6
  have c46 := (hb6.cell (p := ⟨g, qv * 5 + 4, none⟩) hgl2).trans c4
  clear hb6 HPA2 HF6 HG6 HR6 HB6 HW15 t0 t1 t2 t3 t4 tf r0 r1 r2 r3 r4 rf c4 hgl2 hGl HGG
  obtain ⟨t0, t1, t2, t3, t4, tf⟩ := five HG7.out
  obtain ⟨c0, _⟩ := HQC.out w6 HF7.out
  obtain ⟨BAD, hBAD⟩ : ∃ B, decide ((8 ≤ x.d.list.length ∧ qv ≠ qa) ∨ 5 < M.length + deepN d.files q) = B := ⟨_, rfl⟩
  have HBAD : Hid (decide ((8 ≤ x.d.list.length ∧ qv ≠ qa) ∨ 5 < M.length + deepN d.files q) = BAD) := hBAD
  clear hBAD
  have HDP1 : Hid (∀ p : Kin w6, Calls Tryz.prog 41 #[.agg #[.int .i64 d.id, .int .i64 d.fr, .bool false, .slice (some ⟨g, 0, none⟩) d.files.length cap, .int .i64 d.next], .int .i64 (d.files.getD q f0).id, .int .i64 5] p.u fun e w' => e = .returned (.int .i64 (deepF d.files 5 (d.files.getD q f0).id : Nat)) ∧ Below p.u.heap.size p.u w') := fun p => HDP.out p.u q (nwT HW16.out p.h) hql
  have HDT1 : Hid (decide (5 < M.length + deepF d.files 5 (d.files.getD q f0).id) = decide (5 < M.length + deepN d.files q)) := HDT.out q hql
  have hdle := deepF_le d.files 5 (d.files.getD q f0).id
  clear HDP HDT
  generalize (d.files.getD q f0).id = fid at c0 HUR6 HDP1 HDT1 hdle
  generalize deepF d.files 5 fid = DF at HDP1 HDT1 hdle
  generalize deepN d.files q = DN at HBAD HDT1 HUR6
  go_upto_region 20 with fail
  go_cut [113] from 87 to 113 (fun s113 wx => s113 = .bool BAD ∧ Below w6.heap.size w6 wx)
  case first =>
    have z0 : ∀ p : Kin w6, p.u.cell? ⟨w.heap.size, 0, none⟩ = some (.int .i64 d.id) := fun p => kcell t0 p
    have z1 : ∀ p : Kin w6, p.u.cell? ⟨w.heap.size, 1, none⟩ = some (.int .i64 d.fr) := fun p => kcell t1 p
    have z2 : ∀ p : Kin w6, p.u.cell? ⟨w.heap.size, 2, none⟩ = some (.bool false) := fun p => kcell t2 p
    have z3 : ∀ p : Kin w6, p.u.cell? ⟨w.heap.size, 3, none⟩ = some (.slice (some ⟨g, 0, none⟩) d.files.length cap) := fun p => kcell t3 p
    have z4 : ∀ p : Kin w6, p.u.cell? ⟨w.heap.size, 4, none⟩ = some (.int .i64 d.next) := fun p => kcell t4 p
    have z5 : ∀ p : Kin w6, p.u.cell? ⟨g, q * 5, none⟩ = some (.int .i64 fid) := fun p => kcell c0 p
    have z6 : ∀ p : Kin w6, p.u.cell? ⟨g, qv * 5 + 4, none⟩ = some (.slice al x.d.list.length cl) := fun p => kcell c46 p
    have e2 : IntKind.i64.wrap ((M.length : Int) + (DF : Int)) = ((M.length + DF : Nat) : Int) := by rw [wrap_any (by omega) (by omega)]; omega
    have e3 : decide (5 < (((M.length + DF : Nat)) : Int)) = decide (5 < M.length + DF) := by rw [Bool.eq_iff_iff, decide_eq_true_iff, decide_eq_true_iff]; omega
    obtain ⟨D5, hD5⟩ : ∃ B, decide (5 < M.length + DF) = B := ⟨_, rfl⟩
    rw [hD5] at e3
    have e4 : decide (5 < (M.length : Int) + (DF : Int)) = D5 := by rw [← e3]; rfl
    have HD5 : Hid (decide (5 < M.length + DN) = D5) := by show _ = _; rw [← HDT1.out, hD5]
    clear hD5 HDT1 t0 t1 t2 t3 t4 tf c0 c46
    by_cases hqq : qa = qv
    · subst hqq
      have hn1 : ((qa : Int) != (qa : Int)) = false := by simp
      have hn2 : decide ((qa : Int) = (qa : Int)) = true := by simp
      have HBD : Hid (D5 = BAD) := by show _ = _; rw [← HBAD.out, ← HD5.out]; simp
      refine wp_region_kin (by kernel_rfl) (by kernel_rfl) ?_
      repeat (first | go_big_quiet_step (first | (go_at_call 41; exact Calls.kin_of (HDP1.out _)) | fail) | quiet_step (first | (go_at_call 41; exact Calls.kin_of (HDP1.out _)) | fail))
      refine wpQuiet_nil ?_
      intro _ hw'
      obtain ⟨pq, hw''⟩ := hw'
      subst hw''
      go_wp2_with fail
      go_meet
      exact ⟨by rw [← HBD.out], pq.h⟩
    · have hn0 : ¬ (qa : Int) = (qv : Int) := by omega
      have hn1 : ((qa : Int) == (qv : Int)) = false := beq_eq_false_iff_ne.2 hn0
      have hn2 : decide ((qa : Int) = (qv : Int)) = false := decide_eq_false hn0
      have hn3 : ((qa : Int) != (qv : Int)) = true := bne_iff_ne.2 hn0
      have hn4 : (!decide ((qa : Int) = (qv : Int))) = true := by rw [hn2]; rfl
      have hn5 : decide (qa = qv) = false := decide_eq_false hqq
      have hn6 : (qa == qv) = false := beq_eq_false_iff_ne.2 hqq
      have hn7 : (qa != qv) = true := bne_iff_ne.2 hqq
      have hn8 : (!decide (qa = qv)) = true := by rw [hn5]; rfl
      by_cases h8 : 8 ≤ x.d.list.length
      · have h8i : decide ((8 : Int) ≤ (x.d.list.length : Int)) = true := decide_eq_true (by omega)
        have h8n : decide (8 ≤ x.d.list.length) = true := decide_eq_true h8
        have HBD : Hid (BAD = true) := by show _ = _; rw [← HBAD.out]; exact decide_eq_true (Or.inl ⟨h8, fun h => hqq h.symm⟩)
        refine wp_region_kin (by kernel_rfl) (by kernel_rfl) ?_
        repeat (first | go_big_quiet_step (first | (go_at_call 41; exact Calls.kin_of (HDP1.out _)) | fail) | quiet_step (first | (go_at_call 41; exact Calls.kin_of (HDP1.out _)) | fail))
        refine wpQuiet_nil ?_
        intro _ hw'
        obtain ⟨pq, hw''⟩ := hw'
        subst hw''
        go_wp2_with fail
        go_meet
        exact ⟨by rw [HBD.out], pq.h⟩
      · have h8i : decide ((8 : Int) ≤ (x.d.list.length : Int)) = false := decide_eq_false (by omega)
        have h8n : decide (8 ≤ x.d.list.length) = false := decide_eq_false h8
        have HBD : Hid (D5 = BAD) := by show _ = _; rw [← HBAD.out, ← HD5.out]; simp [h8]
        refine wp_region_kin (by kernel_rfl) (by kernel_rfl) ?_
        repeat (first | go_big_quiet_step (first | (go_at_call 41; exact Calls.kin_of (HDP1.out _)) | fail) | quiet_step (first | (go_at_call 41; exact Calls.kin_of (HDP1.out _)) | fail))
        refine wpQuiet_nil ?_
        intro _ hw'
        obtain ⟨pq, hw''⟩ := hw'
        subst hw''
        go_wp2_with fail
        go_meet
        exact ⟨by rw [← HBD.out], pq.h⟩
  case rest =>
  obtain ⟨rfl, hb7⟩ := hcut
  rename World => w7
  have HF8 : Hid (OwnFiles w7 (w.heap.size + 2) (.slice (some ⟨g, 0, none⟩) d.files.length cap) d.files) := HF7.out.below hb7
  have HG8 : Hid (w7.heap[w.heap.size]? = some (.cells #[.int .i64 d.id, .int .i64 d.fr, .bool false, .slice (some ⟨g, 0, none⟩) d.files.length cap, .int .i64 d.next] 24 (0, 0))) := (hb7.block _ (Array.getElem?_eq_some_iff.1 HG7.out).1).trans HG7.out
  have HR8 : Hid (w7.heap[w.heap.size + 1]? = some (.cells #[.int .i64 0, .int .i64 0, .bool false, .slice none 0 0, .int .i64 0] 24 (0, 0))) := (hb7.block _ (Array.getElem?_eq_some_iff.1 HR7.out).1).trans HR7.out
  have HB8 : Hid (Below w.heap.size w w7) := nwT HB7.out hb7
  have c07 := (hb7.cell (p := ⟨g, q * 5, none⟩) (block_lt_of_cell c0)).trans c0
  clear hb7 HDP1 HDT1 HF7 HG7 HR7 HB7 HW16 t0 t1 t2 t3 t4 tf c0 c46
  obtain ⟨t0, t1, t2, t3, t4, tf⟩ := five HG8.out
  obtain ⟨r0, r1, r2, r3, r4, rf⟩ := five HR8.out
  cases BAD
  case true =>
    have HQ : Hid (SnapR d (renR d L M) 2 Go.Proofs.YtdpighcaieajjabGreat.v0) := .inr ⟨HSN.out, by rw [HUR6.out, if_pos (of_decide_eq_true HBAD.out)]⟩
    go_wp2_with fail
    obtain ⟨s0, s1, s2, s3, s4, _⟩ := five (five_set (d0 := .int .i64 0) (d1 := .int .i64 0) (d2 := .bool false) (d3 := .slice none 0 0) (d4 := .int .i64 0) HR8.out)
    refine bodyPost_ret (v := .tuple #[.agg #[.int .i64 0, .int .i64 0, .bool false, .slice none 0 0, .int .i64 0], .int .i64 2]) (by simp [results, Tryz.results27, go_sem, s0, s1, s2, s3, s4]) rfl ⟨⟨_, 2, _, rfl, ownVol_zero _ _, HQ.out⟩, ?_⟩
    exact five_below HB8.out (Nat.le_succ _)
  case false =>
  have HQ : Hid (SnapR d (renR d L M) 0 (movV d qa k qv (last, fid))) := .inr ⟨HSN.out, by rw [HUR6.out, if_neg (of_decide_eq_false HBAD.out)]⟩
  clear HBAD HUR6 r0 r1 r2 r3 r4 rf
  obtain ⟨gs, hgd, hrow, hown⟩ := HF8.out
  have hgl : gs.length = d.files.length := by rw [← hgd, List.length_map]
  obtain ⟨y, hy⟩ : ∃ y, gs[qa]? = some y := ⟨_, List.getElem?_eq_getElem (by omega)⟩
  have hyd : d.files.getD qa f0 = y.d := by rw [← hgd]; simp [List.getD, hy]
  rw [hgl] at hrow
  have c4 := (RowF.cellAt (show RowF w7 (w.heap.size + 2) g d.files.length cap gs from hrow) hy).2.2.2.2
  obtain ⟨ay, cy, hlv, hla, hlc⟩ := (hown y (List.mem_of_getElem? hy)).2.at
  rw [hlv] at c4
  have hsy : y.d.list.length ≤ 8 := by have := (HOK.out.dirq hqal).1; rwa [hyd] at this
  have HLA : Hid (LinksAt w7 ay y.d.list ∧ CapOk ay cy y.d.list.length) := ⟨hla, hlc⟩
  have HFS : Hid ((cutFs d.files qa k) = d.files.set qa (withList (d.files.getD qa f0) (cutL y.d.list k))) := by show _ = _; unfold cutFs; rw [hyd]
  rw [hyd] at HNK
  have HGG : Hid (g < w7.heap.size ∧ w.heap.size + 2 ≤ g) := ⟨(World.ownsRow.lt hrow g rfl).2, (World.ownsRow.lt hrow g rfl).1⟩
  have hgl2 := HGG.out.1
  have hGl : w.heap.size < w7.heap.size := (Array.getElem?_eq_some_iff.1 HG8.out).1
  obtain ⟨sb2, so2, rfl, sc2⟩ := (HL.out.below HB8.out).cell (show L.length - 1 < L.length by have := HLM0.out.1; omega)
  have HLN2 : Hid (L.getD (L.length - 1) ByteArray.empty = lastN L) := rfl
  rw [HLN2.out] at sc2
  generalize lastN L = lastp at sc2 HNK
  have e1 : IntKind.i64.wrap ((L.length : Int) - 1) = ((L.length - 1 : Nat) : Int) := by have := HLM0.out.1; rw [wrap_any (by omega) (by omega)]; omega
  have hl1 : ((L.length - 1 : Nat) : Int) < (L.length : Int) := by have := HLM0.out.1; omega
  have hl2 : (0 : Int) ≤ ((L.length - 1 : Nat) : Int) := by omega
  generalize hm2 : L.length - 1 = m2 at sc2 e1 hl1 hl2
  have hai : (qa : Int) < (d.files.length : Int) := by omega
  have ha0 : (0 : Int) ≤ (qa : Int) := by omega
  have hsbl : sb2 < w7.heap.size := block_lt_of_cell sc2
  have HCUT : Hid (∀ W', Below w7.heap.size w7 W' → Calls Tryz.prog 54 #[.slice ay y.d.list.length cy, .string lastp] W' fun e w' => (∃ v, e = .returned v ∧ OwnLinks w' (w.heap.size + 2) v (cutL y.d.list k)) ∧ Below W'.heap.size W' w') := fun W' h =>
    (cut_any ay y.d.list cy k lastp W' (HLA.out.1.below h) (by omega) HLA.out.2.1 HNK.out).mono fun e w' ⟨⟨v, h1, h2⟩, h3⟩ => ⟨⟨v, h1, own_le h2 (by have h4 := h.size; have h5 := (Array.getElem?_eq_some_iff.1 HR8.out).1; omega)⟩, h3⟩
  clear hm2 hgd hrow hown hy hlv hla hlc hgl HLA
  go_upto_region 23 with fail
  clear c07
  go_cut [14] from 121 to 138 (fun s14 wx => s14 = .int .i64 fid ∧ Hid (OwnFiles wx (w.heap.size + 2) (.slice (some ⟨g, 0, none⟩) d.files.length cap) (cutFs d.files qa k)) ∧ Hid (Below w.heap.size w wx) ∧ wx.heap[w.heap.size]? = some (.cells #[.int .i64 d.id, .int .i64 d.fr, .bool false, .slice (some ⟨g, 0, none⟩) d.files.length cap, .int .i64 d.next] 24 (0, 0)) ∧ wx.heap[w.heap.size + 1]? = some (.cells #[.int .i64 0, .int .i64 0, .bool false, .slice none 0 0, .int .i64 0] 24 (0, 0)))
  case first =>
    go_region_with (first
      | (go_at_call 54; refine (HCUT.out _ (Below.drew (nwR w7))).mono ?_; rintro e wU ⟨⟨lv2, rfl, ho2⟩, hbU⟩; obtain ⟨a2, c2, rfl, _, _⟩ := id ho2.at; have hbu : Below w7.heap.size w7 wU := nwT (Below.drew (nwR w7)) hbU; obtain ⟨k0, k1, k2, k3, k4, kf⟩ := five ((hbu.block _ hGl).trans HG8.out); have kc4 := (hbu.cell (p := ⟨g, qa * 5 + 4, none⟩) hgl2).trans c4; have kfz : ∀ o, wU.frozen? ⟨g, o, none⟩ = false := (fun o => by obtain ⟨gs', h1', hr', _⟩ := HF8.out.below hbu; rw [show gs'.length = d.files.length from by rw [← h1', List.length_map]] at hr'; exact hr'.frozenAt o); have HBU : Hid (Below w7.heap.size w7 wU) := hbu; have HO2 : Hid (OwnLinks wU (w.heap.size + 2) (.slice a2 (cutL y.d.list k).length c2) (cutL y.d.list k)) := ho2; clear hbU ho2 hbu)
      | fail)
    all_goals
      have HFX : Hid (OwnFiles (wU.setCell ⟨g, qa * 5 + 4, none⟩ (.slice a2 (cutL y.d.list k).length c2)) (w.heap.size + 2) (.slice (some ⟨g, 0, none⟩) d.files.length cap) (cutFs d.files qa k)) := by rw [HFS.out]; exact (OwnFiles.setList (HF8.out.below HBU.out) hqal HO2.out).1
      have HBX : Hid (Below w.heap.size w (wU.setCell ⟨g, qa * 5 + 4, none⟩ (.slice a2 (cutL y.d.list k).length c2))) := (nwT HB8.out HBU.out).setCell (p := ⟨g, qa * 5 + 4, none⟩) (by show w.heap.size ≤ g; have := HGG.out.2; omega) _
      have HGX : Hid ((wU.setCell ⟨g, qa * 5 + 4, none⟩ (.slice a2 (cutL y.d.list k).length c2)).heap[w.heap.size]? = some (.cells #[.int .i64 d.id, .int .i64 d.fr, .bool false, .slice (some ⟨g, 0, none⟩) d.files.length cap, .int .i64 d.next] 24 (0, 0))) := by
        show _ = _
        rw [heap_setCell_other _ ⟨g, qa * 5 + 4, none⟩ _ _ (by show w.heap.size ≠ g; have := HGG.out.2; omega)]
        exact (HBU.out.block _ hGl).trans HG8.out
      have HRX : Hid ((wU.setCell ⟨g, qa * 5 + 4, none⟩ (.slice a2 (cutL y.d.list k).length c2)).heap[w.heap.size + 1]? = some (.cells #[.int .i64 0, .int .i64 0, .bool false, .slice none 0 0, .int .i64 0] 24 (0, 0))) := by
        show _ = _
        rw [heap_setCell_other _ ⟨g, qa * 5 + 4, none⟩ _ _ (by show w.heap.size + 1 ≠ g; have := HGG.out.2; omega)]
        exact (HBU.out.block _ (Array.getElem?_eq_some_iff.1 HR8.out).1).trans HR8.out
      go_wp2_with fail
      go_meet
      exact ⟨rfl, HFX, HBX, HGX.out, HRX.out⟩
  case rest =>
  obtain ⟨rfl, HF9, HB9, hG9, hR9⟩ := hcut
  have HR9 : Hid (wc.heap[w.heap.size + 1]? = some (.cells #[.int .i64 0, .int .i64 0, .bool false, .slice none 0 0, .int .i64 0] 24 (0, 0))) := hR9
  have HG9 : Hid (wc.heap[w.heap.size]? = some (.cells #[.int .i64 d.id, .int .i64 d.fr, .bool false, .slice (some ⟨g, 0, none⟩) d.files.length cap, .int .i64 d.next] 24 (0, 0))) := hG9
  clear hG9 hR9 t0 t1 t2 t3 t4 tf sc2 hsbl HCUT c4 HFS HNK hgl2 hGl HGG
  rename World => w8
  obtain ⟨t0, t1, t2, t3, t4, tf⟩ := five HG9.out
  have HLF : Hid ((cutFs d.files qa k).length = d.files.length) := by show _ = _; unfold cutFs; rw [List.length_set]
  have HT : Hid (movV d qa k qv (last, fid) = ⟨d.id, d.fr, d.snap, (cutFs d.files qa k).set qv (withList ((cutFs d.files qa k).getD qv f0) (putL ((cutFs d.files qa k).getD qv f0).list (last, fid))), d.next⟩) := rfl
  have HL8 : Hid (((cutFs d.files qa k).getD qv f0).list.length ≤ 8) := by
    show _ ≤ _
    rw [cutFs_list d.files qa k qv hqvl]
    split
    · exact Nat.le_trans (cutL_le _ _) (HOK.out.dirq hqvl).1
    · exact (HOK.out.dirq hqvl).1
  generalize cutFs d.files qa k = fs1 at HF9 HLF HT HL8
  obtain ⟨gs, hgd, hrow, hown⟩ := HF9.out
  have hgl : gs.length = d.files.length := by rw [← HLF.out, ← hgd, List.length_map]
  obtain ⟨x1, hx1⟩ : ∃ x1, gs[qv]? = some x1 := ⟨_, List.getElem?_eq_getElem (by omega)⟩
  have hxd1 : fs1.getD qv f0 = x1.d := by rw [← hgd]; simp [List.getD, hx1]
  rw [hgl] at hrow
  have c4 := (RowF.cellAt (show RowF w8 (w.heap.size + 2) g d.files.length cap gs from hrow) hx1).2.2.2.2
  obtain ⟨al1, cl1, hlv, hla, hlc⟩ := (hown x1 (List.mem_of_getElem? hx1)).2.at
  rw [hlv] at c4
  have HLA : Hid (LinksAt w8 al1 x1.d.list ∧ CapOk al1 cl1 x1.d.list.length) := ⟨hla, hlc⟩
  have HXD : Hid (fs1.getD qv f0 = x1.d) := hxd1
  have hsl1 : x1.d.list.length ≤ 8 := by have := HL8.out; rwa [hxd1] at this
  have HGG : Hid (g < w8.heap.size ∧ w.heap.size + 2 ≤ g) := ⟨(World.ownsRow.lt hrow g rfl).2, (World.ownsRow.lt hrow g rfl).1⟩
  have hgl2 := HGG.out.1
  have hGl : w.heap.size < w8.heap.size := (Array.getElem?_eq_some_iff.1 HG9.out).1
  have hq1 : qv < fs1.length := by rw [HLF.out]; exact hqvl
  have HLQ : Hid (qv < fs1.length) := hq1
  have HPUT : Hid (∀ W', Below w8.heap.size w8 W' → Calls Tryz.prog 47 #[.slice al1 x1.d.list.length cl1, .agg #[.string last, .int .i64 fid]] W' fun e w' => (∃ v, e = .returned v ∧ OwnLinks w' (w.heap.size + 2) v (putL x1.d.list (last, fid))) ∧ Below W'.heap.size W' w') := fun W' h =>
    (put_any al1 x1.d.list cl1 (last, fid) W' (HLA.out.1.below h) (by omega) HLA.out.2.1 HLA.out.2.2.1 HLA.out.2.2.2).mono fun e w' ⟨⟨v, h1, h2⟩, h3⟩ => ⟨⟨v, h1, own_le h2 (by have h4 := h.size; have h5 := (Array.getElem?_eq_some_iff.1 HR9.out).1; omega)⟩, h3⟩
  clear hgd hrow hown hx1 hxd1 hlv hla hlc hgl HLA hq1 HL8
  go_upto_region 24 with fail
  go_cut [11, 14] from 139 to 153 (fun s11 s14 wx => s11 = .string last ∧ s14 = .int .i64 fid ∧ Hid (OwnFiles wx (w.heap.size + 2) (.slice (some ⟨g, 0, none⟩) d.files.length cap) (fs1.set qv (withList (fs1.getD qv f0) (putL x1.d.list (last, fid))))) ∧ Hid (Below w.heap.size w wx) ∧ wx.heap[w.heap.size]? = some (.cells #[.int .i64 d.id, .int .i64 d.fr, .bool false, .slice (some ⟨g, 0, none⟩) d.files.length cap, .int .i64 d.next] 24 (0, 0)) ∧ wx.heap[w.heap.size + 1]? = some (.cells #[.int .i64 0, .int .i64 0, .bool false, .slice none 0 0, .int .i64 0] 24 (0, 0)))
  case first =>
    go_region_with (first
      | (go_at_call 47; refine (HPUT.out _ (Below.drew (nwR w8))).mono ?_; rintro e wU ⟨⟨lv2, rfl, ho2⟩, hbU⟩; obtain ⟨a2, c2, rfl, _, _⟩ := id ho2.at; have hbu : Below w8.heap.size w8 wU := nwT (Below.drew (nwR w8)) hbU; obtain ⟨k0, k1, k2, k3, k4, kf⟩ := five ((hbu.block _ hGl).trans HG9.out); have kc4 := (hbu.cell (p := ⟨g, qv * 5 + 4, none⟩) hgl2).trans c4; have kfz : ∀ o, wU.frozen? ⟨g, o, none⟩ = false := (fun o => by obtain ⟨gs', h1', hr', _⟩ := HF9.out.below hbu; rw [show gs'.length = d.files.length from by rw [← HLF.out, ← h1', List.length_map]] at hr'; exact hr'.frozenAt o); have HBU : Hid (Below w8.heap.size w8 wU) := hbu; have HO2 : Hid (OwnLinks wU (w.heap.size + 2) (.slice a2 (putL x1.d.list (last, fid)).length c2) (putL x1.d.list (last, fid))) := ho2; clear hbU ho2 hbu)
      | fail)
    all_goals
      have HFX : Hid (OwnFiles (wU.setCell ⟨g, qv * 5 + 4, none⟩ (.slice a2 (putL x1.d.list (last, fid)).length c2)) (w.heap.size + 2) (.slice (some ⟨g, 0, none⟩) d.files.length cap) (fs1.set qv (withList (fs1.getD qv f0) (putL x1.d.list (last, fid))))) := by exact (OwnFiles.setList (HF9.out.below HBU.out) HLQ.out HO2.out).1
      have HBX : Hid (Below w.heap.size w (wU.setCell ⟨g, qv * 5 + 4, none⟩ (.slice a2 (putL x1.d.list (last, fid)).length c2))) := (nwT HB9.out HBU.out).setCell (p := ⟨g, qv * 5 + 4, none⟩) (by show w.heap.size ≤ g; have := HGG.out.2; omega) _
      have HGX : Hid ((wU.setCell ⟨g, qv * 5 + 4, none⟩ (.slice a2 (putL x1.d.list (last, fid)).length c2)).heap[w.heap.size]? = some (.cells #[.int .i64 d.id, .int .i64 d.fr, .bool false, .slice (some ⟨g, 0, none⟩) d.files.length cap, .int .i64 d.next] 24 (0, 0))) := by
        show _ = _
        rw [heap_setCell_other _ ⟨g, qv * 5 + 4, none⟩ _ _ (by show w.heap.size ≠ g; have := HGG.out.2; omega)]
        exact (HBU.out.block _ hGl).trans HG9.out
      have HRX : Hid ((wU.setCell ⟨g, qv * 5 + 4, none⟩ (.slice a2 (putL x1.d.list (last, fid)).length c2)).heap[w.heap.size + 1]? = some (.cells #[.int .i64 0, .int .i64 0, .bool false, .slice none 0 0, .int .i64 0] 24 (0, 0))) := by
        show _ = _
        rw [heap_setCell_other _ ⟨g, qv * 5 + 4, none⟩ _ _ (by show w.heap.size + 1 ≠ g; have := HGG.out.2; omega)]
        exact (HBU.out.block _ (Array.getElem?_eq_some_iff.1 HR9.out).1).trans HR9.out
      go_wp2_with fail
      go_meet
      exact ⟨rfl, rfl, HFX, HBX, HGX.out, HRX.out⟩
  case rest =>
  obtain ⟨rfl, rfl, HF5, HB5, hG5, hR5⟩ := hcut
  have HR5 : Hid (wc.heap[w.heap.size + 1]? = some (.cells #[.int .i64 0, .int .i64 0, .bool false, .slice none 0 0, .int .i64 0] 24 (0, 0))) := hR5
  clear t0 t1 t2 t3 t4 tf
  obtain ⟨t0, t1, t2, t3, t4, tf⟩ := five hG5
  obtain ⟨r0, r1, r2, r3, r4, rf⟩ := five hR5
  clear hG5 hR5
  go_wp2_with fail
  obtain ⟨s0, s1, s2, s3, s4, _⟩ := five (five_set (d0 := .int .i64 d.id) (d1 := .int .i64 d.fr) (d2 := .bool false) (d3 := .slice (some ⟨g, 0, none⟩) d.files.length cap) (d4 := .int .i64 d.next) HR5.out)
  refine bodyPost_ret (v := .tuple #[.agg #[.int .i64 d.id, .int .i64 d.fr, .bool false, .slice (some ⟨g, 0, none⟩) d.files.length cap, .int .i64 d.next], .int .i64 0]) (by simp [results, Tryz.results27, go_sem, s0, s1, s2, s3, s4]) rfl ⟨⟨_, 0, movV d qa k qv (last, fid), rfl, ⟨.slice (some ⟨g, 0, none⟩) d.files.length cap, ?_, ?_⟩, HQ.out⟩, ?_⟩
  · rw [HT.out, HSN.out]
  · rw [HT.out, HXD.out]
    have h5 := HF5.out
    rw [HXD.out] at h5
    exact (((((h5.set 0 (by omega) _).set 1 (by omega) _).set 2 (by omega) _).set 3 (by omega) _).set 4 (by omega) _).le (Nat.le_add_right _ _)
  · exact five_below HB5.out (Nat.le_succ _)

end Go.Proofs.YtdpighcaieajjabGreat
