/- Laid together: Rlink, Runl. -/
import Derived.Test.YtdpighcaieajjabGreatTreesM20
/- Another name for a file, by the page. -/
namespace Go.Proofs.YtdpighcaieajjabGreat
open Go.RowKit Go.Sort

set_option maxRecDepth 100000 in
set_option maxHeartbeats 8000000 in
theorem rlink_any (v : Value) (d : VolD) (a : Option Addr) (L : List ByteArray) (cL : Nat) (aM : Option Addr) (M : List ByteArray) (cM : Nat) (w : World) (hv : VolVal w v d) (hs : SmallV d) (hok : VolOk d) (hL : StrsAt w a L) (hLM : StrsAt w aM M) (hcM : M.length ≤ cM) (hl5 : L.length ≤ 5) (hm5 : M.length ≤ 5) :
    Calls Tryz.prog 21 #[v, .slice a L.length cL, .slice aM M.length cM] w (RPost d (linkR d L M) w) := by
  have HS : Hid (SmallV d) := hs
  have HOK : Hid (VolOk d) := hok
  have HVV : Hid (VolVal w v d) := hv
  have hpos : 0 < d.files.length := hok.2.1.1.1
  have h16 : d.files.length ≤ 16 := hok.2.1.1.2.1
  have HL : Hid (StrsAt w a L) := hL
  have HLM : Hid (StrsAt w aM M) := hLM
  clear hL hLM
  obtain ⟨av, ca, rfl, _, _⟩ := hv
  have HB0 : Hid (Below w.heap.size w ((w.alloc (.cells #[.int .i64 d.id, .int .i64 d.fr, .bool d.snap, .slice av d.files.length ca, .int .i64 d.next] 24)).alloc (.cells #[.int .i64 0, .int .i64 0, .bool false, .slice none 0 0, .int .i64 0] 24))) := nwA (nwA (nwR w) _) _
  have HR0 : Hid (((w.alloc (.cells #[.int .i64 d.id, .int .i64 d.fr, .bool d.snap, .slice av d.files.length ca, .int .i64 d.next] 24)).alloc (.cells #[.int .i64 0, .int .i64 0, .bool false, .slice none 0 0, .int .i64 0] 24)).heap[w.heap.size + 1]? = some (.cells #[.int .i64 0, .int .i64 0, .bool false, .slice none 0 0, .int .i64 0] 24 (0, 0))) := heap_alloc_new2 w _ _
  have HG0 : Hid (((w.alloc (.cells #[.int .i64 d.id, .int .i64 d.fr, .bool d.snap, .slice av d.files.length ca, .int .i64 d.next] 24)).alloc (.cells #[.int .i64 0, .int .i64 0, .bool false, .slice none 0 0, .int .i64 0] 24)).heap[w.heap.size]? = some (.cells #[.int .i64 d.id, .int .i64 d.fr, .bool d.snap, .slice av d.files.length ca, .int .i64 d.next] 24 (0, 0))) := (Lib.alloc_old _ _ _ (by simp)).trans (heap_alloc_new w _)
  have HSZ : Hid (((w.alloc (.cells #[.int .i64 d.id, .int .i64 d.fr, .bool d.snap, .slice av d.files.length ca, .int .i64 d.next] 24)).alloc (.cells #[.int .i64 0, .int .i64 0, .bool false, .slice none 0 0, .int .i64 0] 24)).heap.size = w.heap.size + 2) := by show _ = _; simp
  clear hs hok
  go_enter Tryz.func21, Tryz.ntmps21
  go_wp2_with fail
  refine (copyVol_any _ d _ (HVV.out.below HB0.out) HS.out).mono ?_
  rintro e w1 ⟨⟨u, rfl, hu⟩, hb1⟩
  rw [HSZ.out] at hu
  obtain ⟨fv, rfl, hfv⟩ := hu
  obtain ⟨gs0, hgs0, hrow0, _⟩ := id hfv
  obtain ⟨g, cap, hfe, _, _⟩ := slice_cells hrow0 (by rw [show gs0.length = d.files.length from by rw [← hgs0, List.length_map]]; exact hpos)
  rw [show gs0.length = d.files.length from by rw [← hgs0, List.length_map]] at hfe
  subst hfe
  have HF1 : Hid (OwnFiles w1 (w.heap.size + 2) (.slice (some ⟨g, 0, none⟩) d.files.length cap) d.files) := hfv
  have HB1 : Hid (Below w.heap.size w w1) := nwT HB0.out hb1
  have HR1 : Hid (w1.heap[w.heap.size + 1]? = some (.cells #[.int .i64 0, .int .i64 0, .bool false, .slice none 0 0, .int .i64 0] 24 (0, 0))) := (hb1.block _ (Array.getElem?_eq_some_iff.1 HR0.out).1).trans HR0.out
  have HG1 : Hid (w1.heap[w.heap.size]? = some (.cells #[.int .i64 d.id, .int .i64 d.fr, .bool d.snap, .slice av d.files.length ca, .int .i64 d.next] 24 (0, 0))) := (hb1.block _ (Array.getElem?_eq_some_iff.1 HG0.out).1).trans HG0.out
  clear hb1 hfv hrow0 hgs0 HR0 HG0 HB0 HSZ
  obtain ⟨q0, q1, q2, q3, q4, qf⟩ := five HG1.out
  obtain ⟨r0, r1, r2, r3, r4, rf⟩ := five HR1.out
  obtain ⟨sn, hsn⟩ : ∃ sn, d.snap = sn := ⟨_, rfl⟩
  rw [hsn]
  have HSN : Hid (d.snap = sn) := hsn
  clear hsn
  cases sn
  case true =>
    have HQ : Hid (SnapR d (linkR d L M) 9 Go.Proofs.YtdpighcaieajjabGreat.v0) := .inl ⟨HSN.out, rfl, rfl⟩
    go_wp2_with fail
    have HR2 : Hid ((((((w1.setCell ⟨w.heap.size, 0, none⟩ (.int .i64 d.id)).setCell ⟨w.heap.size, 1, none⟩ (.int .i64 d.fr)).setCell ⟨w.heap.size, 2, none⟩ (.bool true)).setCell ⟨w.heap.size, 3, none⟩ (.slice (some ⟨g, 0, none⟩) d.files.length cap)).setCell ⟨w.heap.size, 4, none⟩ (.int .i64 d.next)).heap[w.heap.size + 1]? = some (.cells #[.int .i64 0, .int .i64 0, .bool false, .slice none 0 0, .int .i64 0] 24 (0, 0))) := five_aside HR1.out (Nat.succ_ne_self _)
    have HB2 : Hid (Below w.heap.size w (((((w1.setCell ⟨w.heap.size, 0, none⟩ (.int .i64 d.id)).setCell ⟨w.heap.size, 1, none⟩ (.int .i64 d.fr)).setCell ⟨w.heap.size, 2, none⟩ (.bool true)).setCell ⟨w.heap.size, 3, none⟩ (.slice (some ⟨g, 0, none⟩) d.files.length cap)).setCell ⟨w.heap.size, 4, none⟩ (.int .i64 d.next))) := five_below HB1.out (Nat.le_refl _)
    generalize ((((w1.setCell ⟨w.heap.size, 0, none⟩ (.int .i64 d.id)).setCell ⟨w.heap.size, 1, none⟩ (.int .i64 d.fr)).setCell ⟨w.heap.size, 2, none⟩ (.bool true)).setCell ⟨w.heap.size, 3, none⟩ (.slice (some ⟨g, 0, none⟩) d.files.length cap)).setCell ⟨w.heap.size, 4, none⟩ (.int .i64 d.next) = W1 at HR2 HB2 ⊢
    obtain ⟨s0, s1, s2, s3, s4, _⟩ := five (five_set (d0 := .int .i64 0) (d1 := .int .i64 0) (d2 := .bool false) (d3 := .slice none 0 0) (d4 := .int .i64 0) HR2.out)
    refine bodyPost_ret (v := .tuple #[.agg #[.int .i64 0, .int .i64 0, .bool false, .slice none 0 0, .int .i64 0], .int .i64 9]) (by simp [results, Tryz.results21, go_sem, s0, s1, s2, s3, s4]) rfl ⟨⟨_, 9, _, rfl, ownVol_zero _ _, HQ.out⟩, ?_⟩
    exact five_below HB2.out (Nat.le_succ _)
  case false =>
  have HF2 : Hid (OwnFiles (((((w1.setCell ⟨w.heap.size, 0, none⟩ (.int .i64 d.id)).setCell ⟨w.heap.size, 1, none⟩ (.int .i64 d.fr)).setCell ⟨w.heap.size, 2, none⟩ (.bool false)).setCell ⟨w.heap.size, 3, none⟩ (.slice (some ⟨g, 0, none⟩) d.files.length cap)).setCell ⟨w.heap.size, 4, none⟩ (.int .i64 d.next)) (w.heap.size + 2) (.slice (some ⟨g, 0, none⟩) d.files.length cap) d.files) := ((((HF1.out.set 0 (by omega) _).set 1 (by omega) _).set 2 (by omega) _).set 3 (by omega) _).set 4 (by omega) _
  have HG2 : Hid ((((((w1.setCell ⟨w.heap.size, 0, none⟩ (.int .i64 d.id)).setCell ⟨w.heap.size, 1, none⟩ (.int .i64 d.fr)).setCell ⟨w.heap.size, 2, none⟩ (.bool false)).setCell ⟨w.heap.size, 3, none⟩ (.slice (some ⟨g, 0, none⟩) d.files.length cap)).setCell ⟨w.heap.size, 4, none⟩ (.int .i64 d.next)).heap[w.heap.size]? = some (.cells #[.int .i64 d.id, .int .i64 d.fr, .bool false, .slice (some ⟨g, 0, none⟩) d.files.length cap, .int .i64 d.next] 24 (0, 0))) := five_set HG1.out
  have HR2 : Hid ((((((w1.setCell ⟨w.heap.size, 0, none⟩ (.int .i64 d.id)).setCell ⟨w.heap.size, 1, none⟩ (.int .i64 d.fr)).setCell ⟨w.heap.size, 2, none⟩ (.bool false)).setCell ⟨w.heap.size, 3, none⟩ (.slice (some ⟨g, 0, none⟩) d.files.length cap)).setCell ⟨w.heap.size, 4, none⟩ (.int .i64 d.next)).heap[w.heap.size + 1]? = some (.cells #[.int .i64 0, .int .i64 0, .bool false, .slice none 0 0, .int .i64 0] 24 (0, 0))) := five_aside HR1.out (Nat.succ_ne_self _)
  have HB2 : Hid (Below w.heap.size w (((((w1.setCell ⟨w.heap.size, 0, none⟩ (.int .i64 d.id)).setCell ⟨w.heap.size, 1, none⟩ (.int .i64 d.fr)).setCell ⟨w.heap.size, 2, none⟩ (.bool false)).setCell ⟨w.heap.size, 3, none⟩ (.slice (some ⟨g, 0, none⟩) d.files.length cap)).setCell ⟨w.heap.size, 4, none⟩ (.int .i64 d.next))) := five_below HB1.out (Nat.le_refl _)
  clear HR1 HG1 HB1 HF1 r0 r1 r2 r3 r4 rf
  have HUR : Hid (linkR d L M = if (findF d.files 0 L).2 = 0 then (if (d.files.getD (findF d.files 0 L).1 f0).dir then (6, Go.Proofs.YtdpighcaieajjabGreat.v0) else if (vacF d.files M).2 = 0 then (if 8 ≤ (d.files.getD (vacF d.files M).1 f0).list.length then (2, Go.Proofs.YtdpighcaieajjabGreat.v0) else (0, putV d (vacF d.files M).1 (lastN M, (d.files.getD (findF d.files 0 L).1 f0).id))) else ((vacF d.files M).2, Go.Proofs.YtdpighcaieajjabGreat.v0)) else ((findF d.files 0 L).2, Go.Proofs.YtdpighcaieajjabGreat.v0)) := rfl
  go_wp2_with fail
  generalize ((((w1.setCell ⟨w.heap.size, 0, none⟩ (.int .i64 d.id)).setCell ⟨w.heap.size, 1, none⟩ (.int .i64 d.fr)).setCell ⟨w.heap.size, 2, none⟩ (.bool false)).setCell ⟨w.heap.size, 3, none⟩ (.slice (some ⟨g, 0, none⟩) d.files.length cap)).setCell ⟨w.heap.size, 4, none⟩ (.int .i64 d.next) = W1 at HF2 HG2 HR2 HB2 ⊢
  have HV2 : Hid (VolVal W1 (.agg #[.int .i64 d.id, .int .i64 d.fr, .bool d.snap, .slice (some ⟨g, 0, none⟩) d.files.length cap, .int .i64 d.next]) d) := by
    obtain ⟨a', c', e, h1, h2⟩ := HF2.out.at
    simp only [Value.slice.injEq, true_and] at e
    obtain ⟨rfl, rfl⟩ := e
    exact ⟨_, _, rfl, h1, h2⟩
  have HFD : Hid (Calls Tryz.prog 51 #[.agg #[.int .i64 d.id, .int .i64 d.fr, .bool false, .slice (some ⟨g, 0, none⟩) d.files.length cap, .int .i64 d.next], .slice a L.length cL] W1 fun e w' => e = .returned (.tuple #[.int .i64 (findF d.files 0 L).1, .int .i64 (findF d.files 0 L).2]) ∧ Below W1.heap.size W1 w') := by
    have h := find_any _ d a L cL W1 HV2.out HS.out HOK.out.sound (HL.out.below HB2.out) (by omega)
    rw [HSN.out] at h; exact h
  have HPA : Hid (0 < M.length → ∀ w', Below W1.heap.size W1 w' → Calls Tryz.prog 45 #[.agg #[.int .i64 d.id, .int .i64 d.fr, .bool false, .slice (some ⟨g, 0, none⟩) d.files.length cap, .int .i64 d.next], .slice aM M.length cM] w' fun e w'' => e = .returned (.tuple #[.int .i64 (parF d.files M).1, .int .i64 (parF d.files M).2]) ∧ Below w'.heap.size w' w'') := fun hm w' hw => by
    have h := parent_find _ d aM M cM w' (HV2.out.below hw) HS.out HOK.out.sound (HLM.out.below (nwT HB2.out hw)) (by omega) hm hcM
    rw [HSN.out] at h; exact h
  have HFL : Hid (∀ q, findF d.files 0 L = (q, 0) → q < d.files.length) := fun q h => by have h2 := findF_lt HOK.out.sound L 0 hpos; rw [h] at h2; exact h2
  refine HFD.out.mono ?_
  rintro e w2 ⟨rfl, hb2⟩
  have HF3 : Hid (OwnFiles w2 (w.heap.size + 2) (.slice (some ⟨g, 0, none⟩) d.files.length cap) d.files) := HF2.out.below hb2
  have HG3 : Hid (w2.heap[w.heap.size]? = some (.cells #[.int .i64 d.id, .int .i64 d.fr, .bool false, .slice (some ⟨g, 0, none⟩) d.files.length cap, .int .i64 d.next] 24 (0, 0))) := (hb2.block _ (Array.getElem?_eq_some_iff.1 HG2.out).1).trans HG2.out
  have HR3 : Hid (w2.heap[w.heap.size + 1]? = some (.cells #[.int .i64 0, .int .i64 0, .bool false, .slice none 0 0, .int .i64 0] 24 (0, 0))) := (hb2.block _ (Array.getElem?_eq_some_iff.1 HR2.out).1).trans HR2.out
  have HB3 : Hid (Below w.heap.size w w2) := nwT HB2.out hb2
  have HW12 : Hid (Below W1.heap.size W1 w2) := hb2
  generalize findF d.files 0 L = r at HUR HFL ⊢
  obtain ⟨q, er⟩ := r
  simp only at HUR HFL ⊢
  obtain ⟨r0, r1, r2, r3, r4, rf⟩ := five HR3.out
  clear hb2 HFD HV2 HF2 HG2 HR2 HB2
  by_cases her : er = 0
  case neg =>
    have HQ : Hid (SnapR d (linkR d L M) er Go.Proofs.YtdpighcaieajjabGreat.v0) := .inr ⟨HSN.out, by rw [HUR.out, if_neg her]⟩
    have hd1 : decide (er = 0) = false := decide_eq_false her
    have hd2 : (er == 0) = false := beq_eq_false_iff_ne.2 her
    go_wp2_with fail
    obtain ⟨s0, s1, s2, s3, s4, _⟩ := five (five_set (d0 := .int .i64 0) (d1 := .int .i64 0) (d2 := .bool false) (d3 := .slice none 0 0) (d4 := .int .i64 0) HR3.out)
    refine bodyPost_ret (v := .tuple #[.agg #[.int .i64 0, .int .i64 0, .bool false, .slice none 0 0, .int .i64 0], .int .i64 er]) (by simp [results, Tryz.results21, go_sem, s0, s1, s2, s3, s4]) rfl ⟨⟨_, er, _, rfl, ownVol_zero _ _, HQ.out⟩, ?_⟩
    exact five_below HB3.out (Nat.le_succ _)
  case pos =>
  subst her
  have hql := HFL.out q rfl
  have HUR1 : Hid (linkR d L M = if (d.files.getD q f0).dir then (6, Go.Proofs.YtdpighcaieajjabGreat.v0) else if (vacF d.files M).2 = 0 then (if 8 ≤ (d.files.getD (vacF d.files M).1 f0).list.length then (2, Go.Proofs.YtdpighcaieajjabGreat.v0) else (0, putV d (vacF d.files M).1 (lastN M, (d.files.getD q f0).id))) else ((vacF d.files M).2, Go.Proofs.YtdpighcaieajjabGreat.v0)) := by show _ = _; rw [HUR.out, if_pos rfl]
  clear HUR HFL
  have hqi : (q : Int) < (d.files.length : Int) := by omega
  have hq0 : (0 : Int) ≤ (q : Int) := by omega
  obtain ⟨t0, t1, t2, t3, t4, tf⟩ := five HG3.out
  have HQC : Hid (∀ w', OwnFiles w' (w.heap.size + 2) (.slice (some ⟨g, 0, none⟩) d.files.length cap) d.files → w'.cell? ⟨g, q * 5, none⟩ = some (.int .i64 (d.files.getD q f0).id) ∧ w'.cell? ⟨g, q * 5 + 1, none⟩ = some (.bool (d.files.getD q f0).dir)) := fun w' h => by
    obtain ⟨gs, h1, h2, _⟩ := h
    obtain ⟨x, hx⟩ : ∃ x, gs[q]? = some x := ⟨_, List.getElem?_eq_getElem (by rw [show gs.length = d.files.length from by rw [← h1, List.length_map]]; exact hql)⟩
    have hxd : d.files.getD q f0 = x.d := by rw [← h1]; simp [List.getD, hx]
    rw [show gs.length = d.files.length from by rw [← h1, List.length_map]] at h2
    obtain ⟨a1, a2, _⟩ := RowF.cellAt (show RowF w' (w.heap.size + 2) g d.files.length cap gs from h2) hx
    rw [hxd]; exact ⟨a1, a2⟩
  obtain ⟨_, c1⟩ := HQC.out w2 HF3.out
  cases hdir : (d.files.getD q f0).dir
  case true =>
    have HQ : Hid (SnapR d (linkR d L M) 6 Go.Proofs.YtdpighcaieajjabGreat.v0) := .inr ⟨HSN.out, by rw [HUR1.out, if_pos hdir]⟩
    rw [hdir] at c1
    clear hdir
    go_wp2_with fail
    obtain ⟨s0, s1, s2, s3, s4, _⟩ := five (five_set (d0 := .int .i64 0) (d1 := .int .i64 0) (d2 := .bool false) (d3 := .slice none 0 0) (d4 := .int .i64 0) HR3.out)
    refine bodyPost_ret (v := .tuple #[.agg #[.int .i64 0, .int .i64 0, .bool false, .slice none 0 0, .int .i64 0], .int .i64 6]) (by simp [results, Tryz.results21, go_sem, s0, s1, s2, s3, s4]) rfl ⟨⟨_, 6, _, rfl, ownVol_zero _ _, HQ.out⟩, ?_⟩
    exact five_below HB3.out (Nat.le_succ _)
  case false =>
  have HUR2 : Hid (linkR d L M = if (vacF d.files M).2 = 0 then (if 8 ≤ (d.files.getD (vacF d.files M).1 f0).list.length then (2, Go.Proofs.YtdpighcaieajjabGreat.v0) else (0, putV d (vacF d.files M).1 (lastN M, (d.files.getD q f0).id))) else ((vacF d.files M).2, Go.Proofs.YtdpighcaieajjabGreat.v0)) := by show _ = _; rw [HUR1.out, hdir]; rfl
  rw [hdir] at c1
  clear hdir HUR1
  by_cases hM0 : M.length = 0
  case pos =>
    have hMb : ((M.length : Int) == 0) = true := beq_iff_eq.2 (by omega)
    have HQ : Hid (SnapR d (linkR d L M) 4 Go.Proofs.YtdpighcaieajjabGreat.v0) := .inr ⟨HSN.out, by rw [HUR2.out, show vacF d.files M = (0, 4) from by unfold vacF; rw [if_pos hM0]]; rfl⟩
    go_wp2_with fail
    obtain ⟨s0, s1, s2, s3, s4, _⟩ := five (five_set (d0 := .int .i64 0) (d1 := .int .i64 0) (d2 := .bool false) (d3 := .slice none 0 0) (d4 := .int .i64 0) HR3.out)
    refine bodyPost_ret (v := .tuple #[.agg #[.int .i64 0, .int .i64 0, .bool false, .slice none 0 0, .int .i64 0], .int .i64 4]) (by simp [results, Tryz.results21, go_sem, s0, s1, s2, s3, s4]) rfl ⟨⟨_, 4, _, rfl, ownVol_zero _ _, HQ.out⟩, ?_⟩
    exact five_below HB3.out (Nat.le_succ _)
  case neg =>
  have hMb : ((M.length : Int) == 0) = false := beq_eq_false_iff_ne.2 (by omega)
  have HUR3 : Hid (linkR d L M = if (parF d.files M).2 = 0 then (if (namedI (d.files.getD (parF d.files M).1 f0).list (lastN M)).isSome then (4, Go.Proofs.YtdpighcaieajjabGreat.v0) else if 8 ≤ (d.files.getD (parF d.files M).1 f0).list.length then (2, Go.Proofs.YtdpighcaieajjabGreat.v0) else (0, putV d (parF d.files M).1 (lastN M, (d.files.getD q f0).id))) else ((parF d.files M).2, Go.Proofs.YtdpighcaieajjabGreat.v0)) := by
    show _ = _
    rw [HUR2.out]
    have hv : vacF d.files M = if (parF d.files M).2 = 0 then (if (namedI (d.files.getD (parF d.files M).1 f0).list (lastN M)).isSome then (0, 4) else parF d.files M) else (0, (parF d.files M).2) := by unfold vacF; rw [if_neg hM0]
    rw [hv]
    by_cases h1 : (parF d.files M).2 = 0
    · cases h2 : (namedI (d.files.getD (parF d.files M).1 f0).list (lastN M)).isSome
      · simp [h1]
      · simp [h1]
    · simp [h1]
  have HPL : Hid (∀ qp, parF d.files M = (qp, 0) → qp < d.files.length) := fun qp h => parF_lt HOK.out.sound h
  have HPA2 : Hid (Calls Tryz.prog 45 #[.agg #[.int .i64 d.id, .int .i64 d.fr, .bool false, .slice (some ⟨g, 0, none⟩) d.files.length cap, .int .i64 d.next], .slice aM M.length cM] w2 fun e w'' => e = .returned (.tuple #[.int .i64 (parF d.files M).1, .int .i64 (parF d.files M).2]) ∧ Below w2.heap.size w2 w'') := HPA.out (by omega) w2 HW12.out
  clear HUR2 HPA HW12
  go_wp2_with fail
  refine HPA2.out.mono ?_
  rintro e w3 ⟨rfl, hb3⟩
  have HF4 : Hid (OwnFiles w3 (w.heap.size + 2) (.slice (some ⟨g, 0, none⟩) d.files.length cap) d.files) := HF3.out.below hb3
  have HG4 : Hid (w3.heap[w.heap.size]? = some (.cells #[.int .i64 d.id, .int .i64 d.fr, .bool false, .slice (some ⟨g, 0, none⟩) d.files.length cap, .int .i64 d.next] 24 (0, 0))) := (hb3.block _ (Array.getElem?_eq_some_iff.1 HG3.out).1).trans HG3.out
  have HR4 : Hid (w3.heap[w.heap.size + 1]? = some (.cells #[.int .i64 0, .int .i64 0, .bool false, .slice none 0 0, .int .i64 0] 24 (0, 0))) := (hb3.block _ (Array.getElem?_eq_some_iff.1 HR3.out).1).trans HR3.out
  have HB4 : Hid (Below w.heap.size w w3) := nwT HB3.out hb3
  clear hb3 HPA2 HF3 HG3 HR3 HB3 t0 t1 t2 t3 t4 tf c1 r0 r1 r2 r3 r4 rf
  generalize parF d.files M = r at HUR3 HPL ⊢
  obtain ⟨qp, er⟩ := r
  simp only at HUR3 HPL ⊢
  obtain ⟨t0, t1, t2, t3, t4, tf⟩ := five HG4.out
  obtain ⟨r0, r1, r2, r3, r4, rf⟩ := five HR4.out
  by_cases her : er = 0
  case neg =>
    have HQ : Hid (SnapR d (linkR d L M) er Go.Proofs.YtdpighcaieajjabGreat.v0) := .inr ⟨HSN.out, by rw [HUR3.out, if_neg her]⟩
    have hd1 : decide (er = 0) = false := decide_eq_false her
    have hd2 : (er == 0) = false := beq_eq_false_iff_ne.2 her
    go_wp2_with fail
    obtain ⟨s0, s1, s2, s3, s4, _⟩ := five (five_set (d0 := .int .i64 0) (d1 := .int .i64 0) (d2 := .bool false) (d3 := .slice none 0 0) (d4 := .int .i64 0) HR4.out)
    refine bodyPost_ret (v := .tuple #[.agg #[.int .i64 0, .int .i64 0, .bool false, .slice none 0 0, .int .i64 0], .int .i64 er]) (by simp [results, Tryz.results21, go_sem, s0, s1, s2, s3, s4]) rfl ⟨⟨_, er, _, rfl, ownVol_zero _ _, HQ.out⟩, ?_⟩
    exact five_below HB4.out (Nat.le_succ _)
  case pos =>
  subst her
  have hqpl := HPL.out qp rfl
  obtain ⟨c0, _⟩ := HQC.out w3 HF4.out
  obtain ⟨gs, hgd, hrow, hown⟩ := HF4.out
  have hgl : gs.length = d.files.length := by rw [← hgd, List.length_map]
  obtain ⟨x, hx⟩ : ∃ x, gs[qp]? = some x := ⟨_, List.getElem?_eq_getElem (by omega)⟩
  have hxd : d.files.getD qp f0 = x.d := by rw [← hgd]; simp [List.getD, hx]
  rw [hgl] at hrow
  have c4 := (RowF.cellAt (show RowF w3 (w.heap.size + 2) g d.files.length cap gs from hrow) hx).2.2.2.2
  obtain ⟨al, cl, hlv, hla, hlc⟩ := (hown x (List.mem_of_getElem? hx)).2.at
  rw [hlv] at c4
  have hsl : x.d.list.length ≤ 8 := by have := (HOK.out.dirq hqpl).1; rwa [hxd] at this
  have HLA : Hid (LinksAt w3 al x.d.list ∧ CapOk al cl x.d.list.length) := ⟨hla, hlc⟩
  have HUR4 : Hid (linkR d L M = if (namedI x.d.list (lastN M)).isSome then (4, Go.Proofs.YtdpighcaieajjabGreat.v0) else if 8 ≤ x.d.list.length then (2, Go.Proofs.YtdpighcaieajjabGreat.v0) else (0, putV d qp (lastN M, (d.files.getD q f0).id))) := by show _ = _; rw [HUR3.out, if_pos rfl, hxd]
  have HXD : Hid (d.files.getD qp f0 = x.d) := hxd
  have HGG : Hid (g < w3.heap.size ∧ w.heap.size + 2 ≤ g) := ⟨(World.ownsRow.lt hrow g rfl).2, (World.ownsRow.lt hrow g rfl).1⟩
  have hgl2 := HGG.out.1
  have hGl : w.heap.size < w3.heap.size := (Array.getElem?_eq_some_iff.1 HG4.out).1
  obtain ⟨sb, so, rfl, sc⟩ := (HLM.out.below HB4.out).cell (show M.length - 1 < M.length by omega)
  have HLN : Hid (M.getD (M.length - 1) ByteArray.empty = lastN M) := rfl
  rw [HLN.out] at sc
  generalize lastN M = last at sc HUR4
  generalize (d.files.getD q f0).id = fid at c0 HUR4
  have e1 : IntKind.i64.wrap ((M.length : Int) - 1) = ((M.length - 1 : Nat) : Int) := by rw [wrap_any (by omega) (by omega)]; omega
  have hl1 : ((M.length - 1 : Nat) : Int) < (M.length : Int) := by omega
  have hl2 : (0 : Int) ≤ ((M.length - 1 : Nat) : Int) := by omega
  generalize hm1 : M.length - 1 = m1 at sc e1 hl1 hl2
  have hpi : (qp : Int) < (d.files.length : Int) := by omega
  have hp0 : (0 : Int) ≤ (qp : Int) := by omega
  have HNA : Hid (Calls Tryz.prog 46 #[.slice al x.d.list.length cl, .string last] w3 fun e w' => e = .returned (.int .i64 (optI (namedI x.d.list last))) ∧ w3 = w') := (named_any al x.d.list cl last w3 HLA.out.1 (by omega)).mono fun _ _ h => ⟨h.1, h.2.symm⟩
  clear hm1 hgd hrow hown hx hlv hla hlc hgl hxd HUR3 HPL
  go_wp2_with fail
  refine HNA.out.mono ?_
  rintro e w' ⟨rfl, rfl⟩
  clear HNA
  cases hn : namedI x.d.list last with
  | some kk =>
    have HQ : Hid (SnapR d (linkR d L M) 4 Go.Proofs.YtdpighcaieajjabGreat.v0) := .inr ⟨HSN.out, by rw [HUR4.out, hn]; rfl⟩
    simp only [optI]
    have hk0 : (0 : Int) ≤ (kk : Int) := by omega
    clear hn
    go_wp2_with fail
    obtain ⟨s0, s1, s2, s3, s4, _⟩ := five (five_set (d0 := .int .i64 0) (d1 := .int .i64 0) (d2 := .bool false) (d3 := .slice none 0 0) (d4 := .int .i64 0) HR4.out)
    refine bodyPost_ret (v := .tuple #[.agg #[.int .i64 0, .int .i64 0, .bool false, .slice none 0 0, .int .i64 0], .int .i64 4]) (by simp [results, Tryz.results21, go_sem, s0, s1, s2, s3, s4]) rfl ⟨⟨_, 4, _, rfl, ownVol_zero _ _, HQ.out⟩, ?_⟩
    exact five_below HB4.out (Nat.le_succ _)
  | none =>
  simp only [optI]
  by_cases h8 : 8 ≤ x.d.list.length
  case pos =>
    have HQ : Hid (SnapR d (linkR d L M) 2 Go.Proofs.YtdpighcaieajjabGreat.v0) := .inr ⟨HSN.out, by rw [HUR4.out, hn]; simp [h8]⟩
    have h8i : (8 : Int) ≤ (x.d.list.length : Int) := by omega
    clear hn
    go_wp2_with fail
    obtain ⟨s0, s1, s2, s3, s4, _⟩ := five (five_set (d0 := .int .i64 0) (d1 := .int .i64 0) (d2 := .bool false) (d3 := .slice none 0 0) (d4 := .int .i64 0) HR4.out)
    refine bodyPost_ret (v := .tuple #[.agg #[.int .i64 0, .int .i64 0, .bool false, .slice none 0 0, .int .i64 0], .int .i64 2]) (by simp [results, Tryz.results21, go_sem, s0, s1, s2, s3, s4]) rfl ⟨⟨_, 2, _, rfl, ownVol_zero _ _, HQ.out⟩, ?_⟩
    exact five_below HB4.out (Nat.le_succ _)
  case neg =>
  have HQ : Hid (SnapR d (linkR d L M) 0 (putV d qp (last, fid))) := .inr ⟨HSN.out, by rw [HUR4.out, hn]; simp [h8]⟩
  have h8i : ¬ (8 : Int) ≤ (x.d.list.length : Int) := by omega
  have HT : Hid (putV d qp (last, fid) = ⟨d.id, d.fr, d.snap, (d.files.set qp (withList (d.files.getD qp f0) (putL x.d.list (last, fid)))), d.next⟩) := by show _ = _; unfold putV; rw [HXD.out]
  have HPUT : Hid (∀ W', Below w3.heap.size w3 W' → Calls Tryz.prog 47 #[.slice al x.d.list.length cl, .agg #[.string last, .int .i64 fid]] W' fun e w' => (∃ v, e = .returned v ∧ OwnLinks w' (w.heap.size + 2) v (putL x.d.list (last, fid))) ∧ Below W'.heap.size W' w') := fun W' h =>
    (put_any al x.d.list cl (last, fid) W' (HLA.out.1.below h) (by omega) HLA.out.2.1 HLA.out.2.2.1 HLA.out.2.2.2).mono fun e w' ⟨⟨v, h1, h2⟩, h3⟩ => ⟨⟨v, h1, own_le h2 (by have h4 := h.size; have h5 := (Array.getElem?_eq_some_iff.1 HR4.out).1; omega)⟩, h3⟩
  clear hn HUR4 HLA r0 r1 r2 r3 r4 rf
  go_upto_region 19 with fail
  go_cut [11] from 73 to 92 (fun s11 wx => s11 = .string last ∧ Hid (OwnFiles wx (w.heap.size + 2) (.slice (some ⟨g, 0, none⟩) d.files.length cap) (d.files.set qp (withList (d.files.getD qp f0) (putL x.d.list (last, fid))))) ∧ Hid (Below w.heap.size w wx) ∧ wx.heap[w.heap.size]? = some (.cells #[.int .i64 d.id, .int .i64 d.fr, .bool false, .slice (some ⟨g, 0, none⟩) d.files.length cap, .int .i64 d.next] 24 (0, 0)) ∧ wx.heap[w.heap.size + 1]? = some (.cells #[.int .i64 0, .int .i64 0, .bool false, .slice none 0 0, .int .i64 0] 24 (0, 0)))
  case first =>
    go_region_with (first
      | (go_at_call 47; refine (HPUT.out _ (Below.drew (nwR w3))).mono ?_; rintro e wU ⟨⟨lv2, rfl, ho2⟩, hbU⟩; obtain ⟨a2, c2, rfl, _, _⟩ := id ho2.at; have hbu : Below w3.heap.size w3 wU := nwT (Below.drew (nwR w3)) hbU; obtain ⟨k0, k1, k2, k3, k4, kf⟩ := five ((hbu.block _ hGl).trans HG4.out); have kc4 := (hbu.cell (p := ⟨g, qp * 5 + 4, none⟩) hgl2).trans c4; have kfz : ∀ o, wU.frozen? ⟨g, o, none⟩ = false := (fun o => by obtain ⟨gs', h1', hr', _⟩ := HF4.out.below hbu; rw [show gs'.length = d.files.length from by rw [← h1', List.length_map]] at hr'; exact hr'.frozenAt o); have HBU : Hid (Below w3.heap.size w3 wU) := hbu; have HO2 : Hid (OwnLinks wU (w.heap.size + 2) (.slice a2 (putL x.d.list (last, fid)).length c2) (putL x.d.list (last, fid))) := ho2; clear hbU ho2 hbu)
      | fail)
    all_goals
      have HF5 : Hid (OwnFiles (wU.setCell ⟨g, qp * 5 + 4, none⟩ (.slice a2 (putL x.d.list (last, fid)).length c2)) (w.heap.size + 2) (.slice (some ⟨g, 0, none⟩) d.files.length cap) (d.files.set qp (withList (d.files.getD qp f0) (putL x.d.list (last, fid))))) := (OwnFiles.setList (HF4.out.below HBU.out) hqpl HO2.out).1
      have HB5 : Hid (Below w.heap.size w (wU.setCell ⟨g, qp * 5 + 4, none⟩ (.slice a2 (putL x.d.list (last, fid)).length c2))) := (nwT HB4.out HBU.out).setCell (p := ⟨g, qp * 5 + 4, none⟩) (by show w.heap.size ≤ g; have := HGG.out.2; omega) _
      have HG5 : Hid ((wU.setCell ⟨g, qp * 5 + 4, none⟩ (.slice a2 (putL x.d.list (last, fid)).length c2)).heap[w.heap.size]? = some (.cells #[.int .i64 d.id, .int .i64 d.fr, .bool false, .slice (some ⟨g, 0, none⟩) d.files.length cap, .int .i64 d.next] 24 (0, 0))) := by
        show _ = _
        rw [heap_setCell_other _ ⟨g, qp * 5 + 4, none⟩ _ _ (by show w.heap.size ≠ g; have := HGG.out.2; omega)]
        exact (HBU.out.block _ hGl).trans HG4.out
      have HR5 : Hid ((wU.setCell ⟨g, qp * 5 + 4, none⟩ (.slice a2 (putL x.d.list (last, fid)).length c2)).heap[w.heap.size + 1]? = some (.cells #[.int .i64 0, .int .i64 0, .bool false, .slice none 0 0, .int .i64 0] 24 (0, 0))) := by
        show _ = _
        rw [heap_setCell_other _ ⟨g, qp * 5 + 4, none⟩ _ _ (by show w.heap.size + 1 ≠ g; have := HGG.out.2; omega)]
        exact (HBU.out.block _ (Array.getElem?_eq_some_iff.1 HR4.out).1).trans HR4.out
      go_wp2_with fail
      go_meet
      exact ⟨rfl, HF5, HB5, HG5.out, HR5.out⟩
  case rest =>
  obtain ⟨rfl, HF5, HB5, hG5, hR5⟩ := hcut
  have HR5 : Hid (wc.heap[w.heap.size + 1]? = some (.cells #[.int .i64 0, .int .i64 0, .bool false, .slice none 0 0, .int .i64 0] 24 (0, 0))) := hR5
  clear t0 t1 t2 t3 t4 tf
  obtain ⟨t0, t1, t2, t3, t4, tf⟩ := five hG5
  obtain ⟨r0, r1, r2, r3, r4, rf⟩ := five hR5
  clear hG5 hR5
  go_wp2_with fail
  obtain ⟨s0, s1, s2, s3, s4, _⟩ := five (five_set (d0 := .int .i64 d.id) (d1 := .int .i64 d.fr) (d2 := .bool false) (d3 := .slice (some ⟨g, 0, none⟩) d.files.length cap) (d4 := .int .i64 d.next) HR5.out)
  refine bodyPost_ret (v := .tuple #[.agg #[.int .i64 d.id, .int .i64 d.fr, .bool false, .slice (some ⟨g, 0, none⟩) d.files.length cap, .int .i64 d.next], .int .i64 0]) (by simp [results, Tryz.results21, go_sem, s0, s1, s2, s3, s4]) rfl ⟨⟨_, 0, putV d qp (last, fid), rfl, ⟨.slice (some ⟨g, 0, none⟩) d.files.length cap, ?_, ?_⟩, HQ.out⟩, ?_⟩
  · rw [HT.out, HSN.out]
  · rw [HT.out]
    exact (((((HF5.out.set 0 (by omega) _).set 1 (by omega) _).set 2 (by omega) _).set 3 (by omega) _).set 4 (by omega) _).le (Nat.le_add_right _ _)
  · exact five_below HB5.out (Nat.le_succ _)

end Go.Proofs.YtdpighcaieajjabGreat

/- A link taken away, by the page. -/
namespace Go.Proofs.YtdpighcaieajjabGreat
open Go.RowKit Go.Sort

set_option maxRecDepth 100000 in
set_option maxHeartbeats 8000000 in
theorem runlink_any (v : Value) (d : VolD) (a : Option Addr) (L : List ByteArray) (cL : Nat) (w : World) (hv : VolVal w v d) (hs : SmallV d) (hok : VolOk d) (hL : StrsAt w a L) (hcL : L.length ≤ cL) (hl5 : L.length ≤ 5) :
    Calls Tryz.prog 23 #[v, .slice a L.length cL] w (RPost d (unlR d L) w) := by
  have HS : Hid (SmallV d) := hs
  have HOK : Hid (VolOk d) := hok
  have HVV : Hid (VolVal w v d) := hv
  have hpos : 0 < d.files.length := hok.2.1.1.1
  have h16 : d.files.length ≤ 16 := hok.2.1.1.2.1
  have HL : Hid (StrsAt w a L) := hL
  clear hL
  obtain ⟨av, ca, rfl, _, _⟩ := hv
  have HB0 : Hid (Below w.heap.size w ((w.alloc (.cells #[.int .i64 d.id, .int .i64 d.fr, .bool d.snap, .slice av d.files.length ca, .int .i64 d.next] 24)).alloc (.cells #[.int .i64 0, .int .i64 0, .bool false, .slice none 0 0, .int .i64 0] 24))) := nwA (nwA (nwR w) _) _
  have HR0 : Hid (((w.alloc (.cells #[.int .i64 d.id, .int .i64 d.fr, .bool d.snap, .slice av d.files.length ca, .int .i64 d.next] 24)).alloc (.cells #[.int .i64 0, .int .i64 0, .bool false, .slice none 0 0, .int .i64 0] 24)).heap[w.heap.size + 1]? = some (.cells #[.int .i64 0, .int .i64 0, .bool false, .slice none 0 0, .int .i64 0] 24 (0, 0))) := heap_alloc_new2 w _ _
  have HG0 : Hid (((w.alloc (.cells #[.int .i64 d.id, .int .i64 d.fr, .bool d.snap, .slice av d.files.length ca, .int .i64 d.next] 24)).alloc (.cells #[.int .i64 0, .int .i64 0, .bool false, .slice none 0 0, .int .i64 0] 24)).heap[w.heap.size]? = some (.cells #[.int .i64 d.id, .int .i64 d.fr, .bool d.snap, .slice av d.files.length ca, .int .i64 d.next] 24 (0, 0))) := (Lib.alloc_old _ _ _ (by simp)).trans (heap_alloc_new w _)
  have HSZ : Hid (((w.alloc (.cells #[.int .i64 d.id, .int .i64 d.fr, .bool d.snap, .slice av d.files.length ca, .int .i64 d.next] 24)).alloc (.cells #[.int .i64 0, .int .i64 0, .bool false, .slice none 0 0, .int .i64 0] 24)).heap.size = w.heap.size + 2) := by show _ = _; simp
  clear hs hok
  go_enter Tryz.func23, Tryz.ntmps23
  go_wp2_with fail
  refine (copyVol_any _ d _ (HVV.out.below HB0.out) HS.out).mono ?_
  rintro e w1 ⟨⟨u, rfl, hu⟩, hb1⟩
  rw [HSZ.out] at hu
  obtain ⟨fv, rfl, hfv⟩ := hu
  obtain ⟨gs0, hgs0, hrow0, _⟩ := id hfv
  obtain ⟨g, cap, hfe, _, _⟩ := slice_cells hrow0 (by rw [show gs0.length = d.files.length from by rw [← hgs0, List.length_map]]; exact hpos)
  rw [show gs0.length = d.files.length from by rw [← hgs0, List.length_map]] at hfe
  subst hfe
  have HF1 : Hid (OwnFiles w1 (w.heap.size + 2) (.slice (some ⟨g, 0, none⟩) d.files.length cap) d.files) := hfv
  have HB1 : Hid (Below w.heap.size w w1) := nwT HB0.out hb1
  have HR1 : Hid (w1.heap[w.heap.size + 1]? = some (.cells #[.int .i64 0, .int .i64 0, .bool false, .slice none 0 0, .int .i64 0] 24 (0, 0))) := (hb1.block _ (Array.getElem?_eq_some_iff.1 HR0.out).1).trans HR0.out
  have HG1 : Hid (w1.heap[w.heap.size]? = some (.cells #[.int .i64 d.id, .int .i64 d.fr, .bool d.snap, .slice av d.files.length ca, .int .i64 d.next] 24 (0, 0))) := (hb1.block _ (Array.getElem?_eq_some_iff.1 HG0.out).1).trans HG0.out
  clear hb1 hfv hrow0 hgs0 HR0 HG0 HB0 HSZ
  obtain ⟨q0, q1, q2, q3, q4, qf⟩ := five HG1.out
  obtain ⟨r0, r1, r2, r3, r4, rf⟩ := five HR1.out
  obtain ⟨sn, hsn⟩ : ∃ sn, d.snap = sn := ⟨_, rfl⟩
  rw [hsn]
  have HSN : Hid (d.snap = sn) := hsn
  clear hsn
  cases sn
  case true =>
    have HQ : Hid (SnapR d (unlR d L) 9 Go.Proofs.YtdpighcaieajjabGreat.v0) := .inl ⟨HSN.out, rfl, rfl⟩
    go_wp2_with fail
    have HR2 : Hid ((((((w1.setCell ⟨w.heap.size, 0, none⟩ (.int .i64 d.id)).setCell ⟨w.heap.size, 1, none⟩ (.int .i64 d.fr)).setCell ⟨w.heap.size, 2, none⟩ (.bool true)).setCell ⟨w.heap.size, 3, none⟩ (.slice (some ⟨g, 0, none⟩) d.files.length cap)).setCell ⟨w.heap.size, 4, none⟩ (.int .i64 d.next)).heap[w.heap.size + 1]? = some (.cells #[.int .i64 0, .int .i64 0, .bool false, .slice none 0 0, .int .i64 0] 24 (0, 0))) := five_aside HR1.out (Nat.succ_ne_self _)
    have HB2 : Hid (Below w.heap.size w (((((w1.setCell ⟨w.heap.size, 0, none⟩ (.int .i64 d.id)).setCell ⟨w.heap.size, 1, none⟩ (.int .i64 d.fr)).setCell ⟨w.heap.size, 2, none⟩ (.bool true)).setCell ⟨w.heap.size, 3, none⟩ (.slice (some ⟨g, 0, none⟩) d.files.length cap)).setCell ⟨w.heap.size, 4, none⟩ (.int .i64 d.next))) := five_below HB1.out (Nat.le_refl _)
    generalize ((((w1.setCell ⟨w.heap.size, 0, none⟩ (.int .i64 d.id)).setCell ⟨w.heap.size, 1, none⟩ (.int .i64 d.fr)).setCell ⟨w.heap.size, 2, none⟩ (.bool true)).setCell ⟨w.heap.size, 3, none⟩ (.slice (some ⟨g, 0, none⟩) d.files.length cap)).setCell ⟨w.heap.size, 4, none⟩ (.int .i64 d.next) = W1 at HR2 HB2 ⊢
    obtain ⟨s0, s1, s2, s3, s4, _⟩ := five (five_set (d0 := .int .i64 0) (d1 := .int .i64 0) (d2 := .bool false) (d3 := .slice none 0 0) (d4 := .int .i64 0) HR2.out)
    refine bodyPost_ret (v := .tuple #[.agg #[.int .i64 0, .int .i64 0, .bool false, .slice none 0 0, .int .i64 0], .int .i64 9]) (by simp [results, Tryz.results23, go_sem, s0, s1, s2, s3, s4]) rfl ⟨⟨_, 9, _, rfl, ownVol_zero _ _, HQ.out⟩, ?_⟩
    exact five_below HB2.out (Nat.le_succ _)
  case false =>
  have HF2 : Hid (OwnFiles (((((w1.setCell ⟨w.heap.size, 0, none⟩ (.int .i64 d.id)).setCell ⟨w.heap.size, 1, none⟩ (.int .i64 d.fr)).setCell ⟨w.heap.size, 2, none⟩ (.bool false)).setCell ⟨w.heap.size, 3, none⟩ (.slice (some ⟨g, 0, none⟩) d.files.length cap)).setCell ⟨w.heap.size, 4, none⟩ (.int .i64 d.next)) (w.heap.size + 2) (.slice (some ⟨g, 0, none⟩) d.files.length cap) d.files) := ((((HF1.out.set 0 (by omega) _).set 1 (by omega) _).set 2 (by omega) _).set 3 (by omega) _).set 4 (by omega) _
  have HG2 : Hid ((((((w1.setCell ⟨w.heap.size, 0, none⟩ (.int .i64 d.id)).setCell ⟨w.heap.size, 1, none⟩ (.int .i64 d.fr)).setCell ⟨w.heap.size, 2, none⟩ (.bool false)).setCell ⟨w.heap.size, 3, none⟩ (.slice (some ⟨g, 0, none⟩) d.files.length cap)).setCell ⟨w.heap.size, 4, none⟩ (.int .i64 d.next)).heap[w.heap.size]? = some (.cells #[.int .i64 d.id, .int .i64 d.fr, .bool false, .slice (some ⟨g, 0, none⟩) d.files.length cap, .int .i64 d.next] 24 (0, 0))) := five_set HG1.out
  have HR2 : Hid ((((((w1.setCell ⟨w.heap.size, 0, none⟩ (.int .i64 d.id)).setCell ⟨w.heap.size, 1, none⟩ (.int .i64 d.fr)).setCell ⟨w.heap.size, 2, none⟩ (.bool false)).setCell ⟨w.heap.size, 3, none⟩ (.slice (some ⟨g, 0, none⟩) d.files.length cap)).setCell ⟨w.heap.size, 4, none⟩ (.int .i64 d.next)).heap[w.heap.size + 1]? = some (.cells #[.int .i64 0, .int .i64 0, .bool false, .slice none 0 0, .int .i64 0] 24 (0, 0))) := five_aside HR1.out (Nat.succ_ne_self _)
  have HB2 : Hid (Below w.heap.size w (((((w1.setCell ⟨w.heap.size, 0, none⟩ (.int .i64 d.id)).setCell ⟨w.heap.size, 1, none⟩ (.int .i64 d.fr)).setCell ⟨w.heap.size, 2, none⟩ (.bool false)).setCell ⟨w.heap.size, 3, none⟩ (.slice (some ⟨g, 0, none⟩) d.files.length cap)).setCell ⟨w.heap.size, 4, none⟩ (.int .i64 d.next))) := five_below HB1.out (Nat.le_refl _)
  clear HR1 HG1 HB1 HF1 r0 r1 r2 r3 r4 rf
  have HUR : Hid (unlR d L = if (findF d.files 0 L).2 = 0 then (if (d.files.getD (findF d.files 0 L).1 f0).dir then (6, Go.Proofs.YtdpighcaieajjabGreat.v0) else (0, cutR d L)) else ((findF d.files 0 L).2, Go.Proofs.YtdpighcaieajjabGreat.v0)) := rfl
  by_cases hL0 : L.length = 0
  case pos =>
    have hLb : ((L.length : Int) == 0) = true := beq_iff_eq.2 (by omega)
    have HQ : Hid (SnapR d (unlR d L) 6 Go.Proofs.YtdpighcaieajjabGreat.v0) := .inr ⟨HSN.out, by rw [HUR.out, List.length_eq_zero_iff.1 hL0, show findF d.files 0 [] = (0, 0) from rfl, if_pos rfl, if_pos HOK.out.2.1.1.2.2.2]⟩
    obtain ⟨r0, r1, r2, r3, r4, rf⟩ := five HR2.out
    go_wp2_with fail
    generalize ((((w1.setCell ⟨w.heap.size, 0, none⟩ (.int .i64 d.id)).setCell ⟨w.heap.size, 1, none⟩ (.int .i64 d.fr)).setCell ⟨w.heap.size, 2, none⟩ (.bool false)).setCell ⟨w.heap.size, 3, none⟩ (.slice (some ⟨g, 0, none⟩) d.files.length cap)).setCell ⟨w.heap.size, 4, none⟩ (.int .i64 d.next) = W1 at HF2 HG2 HR2 HB2 ⊢
    obtain ⟨s0, s1, s2, s3, s4, _⟩ := five (five_set (d0 := .int .i64 0) (d1 := .int .i64 0) (d2 := .bool false) (d3 := .slice none 0 0) (d4 := .int .i64 0) HR2.out)
    refine bodyPost_ret (v := .tuple #[.agg #[.int .i64 0, .int .i64 0, .bool false, .slice none 0 0, .int .i64 0], .int .i64 6]) (by simp [results, Tryz.results23, go_sem, s0, s1, s2, s3, s4]) rfl ⟨⟨_, 6, _, rfl, ownVol_zero _ _, HQ.out⟩, ?_⟩
    exact five_below HB2.out (Nat.le_succ _)
  case neg =>
  have hLb : ((L.length : Int) == 0) = false := beq_eq_false_iff_ne.2 (by omega)
  go_wp2_with fail
  generalize ((((w1.setCell ⟨w.heap.size, 0, none⟩ (.int .i64 d.id)).setCell ⟨w.heap.size, 1, none⟩ (.int .i64 d.fr)).setCell ⟨w.heap.size, 2, none⟩ (.bool false)).setCell ⟨w.heap.size, 3, none⟩ (.slice (some ⟨g, 0, none⟩) d.files.length cap)).setCell ⟨w.heap.size, 4, none⟩ (.int .i64 d.next) = W1 at HF2 HG2 HR2 HB2 ⊢
  have HV2 : Hid (VolVal W1 (.agg #[.int .i64 d.id, .int .i64 d.fr, .bool d.snap, .slice (some ⟨g, 0, none⟩) d.files.length cap, .int .i64 d.next]) d) := by
    obtain ⟨a', c', e, h1, h2⟩ := HF2.out.at
    simp only [Value.slice.injEq, true_and] at e
    obtain ⟨rfl, rfl⟩ := e
    exact ⟨_, _, rfl, h1, h2⟩
  have HFD : Hid (Calls Tryz.prog 51 #[.agg #[.int .i64 d.id, .int .i64 d.fr, .bool false, .slice (some ⟨g, 0, none⟩) d.files.length cap, .int .i64 d.next], .slice a L.length cL] W1 fun e w' => e = .returned (.tuple #[.int .i64 (findF d.files 0 L).1, .int .i64 (findF d.files 0 L).2]) ∧ Below W1.heap.size W1 w') := by
    have h := find_any _ d a L cL W1 HV2.out HS.out HOK.out.sound (HL.out.below HB2.out) (by omega)
    rw [HSN.out] at h; exact h
  have HPA : Hid (∀ w', Below W1.heap.size W1 w' → Calls Tryz.prog 45 #[.agg #[.int .i64 d.id, .int .i64 d.fr, .bool false, .slice (some ⟨g, 0, none⟩) d.files.length cap, .int .i64 d.next], .slice a L.length cL] w' fun e w'' => e = .returned (.tuple #[.int .i64 (parF d.files L).1, .int .i64 (parF d.files L).2]) ∧ Below w'.heap.size w' w'') := fun w' hw => by
    have h := parent_find _ d a L cL w' (HV2.out.below hw) HS.out HOK.out.sound (HL.out.below (nwT HB2.out hw)) (by omega) (by omega) hcL
    rw [HSN.out] at h; exact h
  have HFL : Hid (∀ q, findF d.files 0 L = (q, 0) → q < d.files.length ∧ ∃ qp k, parF d.files L = (qp, 0) ∧ (d.files.getD qp f0).dir = true ∧ namedI (d.files.getD qp f0).list (lastN L) = some k ∧ q = placeOf d.files ((d.files.getD qp f0).list.getD k lk0).2) := fun q h => ⟨by have h2 := findF_lt HOK.out.sound L 0 hpos; rw [h] at h2; exact h2, find_par (by omega) h⟩
  refine HFD.out.mono ?_
  rintro e w2 ⟨rfl, hb2⟩
  have HF3 : Hid (OwnFiles w2 (w.heap.size + 2) (.slice (some ⟨g, 0, none⟩) d.files.length cap) d.files) := HF2.out.below hb2
  have HG3 : Hid (w2.heap[w.heap.size]? = some (.cells #[.int .i64 d.id, .int .i64 d.fr, .bool false, .slice (some ⟨g, 0, none⟩) d.files.length cap, .int .i64 d.next] 24 (0, 0))) := (hb2.block _ (Array.getElem?_eq_some_iff.1 HG2.out).1).trans HG2.out
  have HR3 : Hid (w2.heap[w.heap.size + 1]? = some (.cells #[.int .i64 0, .int .i64 0, .bool false, .slice none 0 0, .int .i64 0] 24 (0, 0))) := (hb2.block _ (Array.getElem?_eq_some_iff.1 HR2.out).1).trans HR2.out
  have HB3 : Hid (Below w.heap.size w w2) := nwT HB2.out hb2
  have HW12 : Hid (Below W1.heap.size W1 w2) := hb2
  generalize findF d.files 0 L = r at HUR HFL ⊢
  obtain ⟨q, er⟩ := r
  simp only at HUR HFL ⊢
  obtain ⟨r0, r1, r2, r3, r4, rf⟩ := five HR3.out
  clear hb2 HFD HV2 HF2 HG2 HR2 HB2
  by_cases her : er = 0
  case neg =>
    have HQ : Hid (SnapR d (unlR d L) er Go.Proofs.YtdpighcaieajjabGreat.v0) := .inr ⟨HSN.out, by rw [HUR.out, if_neg her]⟩
    have hd1 : decide (er = 0) = false := decide_eq_false her
    have hd2 : (er == 0) = false := beq_eq_false_iff_ne.2 her
    go_wp2_with fail
    obtain ⟨s0, s1, s2, s3, s4, _⟩ := five (five_set (d0 := .int .i64 0) (d1 := .int .i64 0) (d2 := .bool false) (d3 := .slice none 0 0) (d4 := .int .i64 0) HR3.out)
    refine bodyPost_ret (v := .tuple #[.agg #[.int .i64 0, .int .i64 0, .bool false, .slice none 0 0, .int .i64 0], .int .i64 er]) (by simp [results, Tryz.results23, go_sem, s0, s1, s2, s3, s4]) rfl ⟨⟨_, er, _, rfl, ownVol_zero _ _, HQ.out⟩, ?_⟩
    exact five_below HB3.out (Nat.le_succ _)
  case pos =>
  subst her
  obtain ⟨hql, qp, k, hpar, _, hnk, hqp⟩ := HFL.out q rfl
  have HUR1 : Hid (unlR d L = if (d.files.getD q f0).dir then (6, Go.Proofs.YtdpighcaieajjabGreat.v0) else (0, cutR d L)) := by show _ = _; rw [HUR.out, if_pos rfl]
  have HQP : Hid (q = placeOf d.files ((d.files.getD qp f0).list.getD k lk0).2) := hqp
  have HNK : Hid (namedI (d.files.getD qp f0).list (lastN L) = some k) := hnk
  have HPAR : Hid (parF d.files L = (qp, 0)) := hpar
  clear HUR HFL hqp hnk hpar
  have hqi : (q : Int) < (d.files.length : Int) := by omega
  have hq0 : (0 : Int) ≤ (q : Int) := by omega
  have hqpl : qp < d.files.length := parF_lt HOK.out.sound HPAR.out
  obtain ⟨t0, t1, t2, t3, t4, tf⟩ := five HG3.out
  have HQC : Hid (∀ w', OwnFiles w' (w.heap.size + 2) (.slice (some ⟨g, 0, none⟩) d.files.length cap) d.files → w'.cell? ⟨g, q * 5, none⟩ = some (.int .i64 (d.files.getD q f0).id) ∧ w'.cell? ⟨g, q * 5 + 1, none⟩ = some (.bool (d.files.getD q f0).dir)) := fun w' h => by
    obtain ⟨gs, h1, h2, _⟩ := h
    obtain ⟨x, hx⟩ : ∃ x, gs[q]? = some x := ⟨_, List.getElem?_eq_getElem (by rw [show gs.length = d.files.length from by rw [← h1, List.length_map]]; exact hql)⟩
    have hxd : d.files.getD q f0 = x.d := by rw [← h1]; simp [List.getD, hx]
    rw [show gs.length = d.files.length from by rw [← h1, List.length_map]] at h2
    obtain ⟨a1, a2, _⟩ := RowF.cellAt (show RowF w' (w.heap.size + 2) g d.files.length cap gs from h2) hx
    rw [hxd]; exact ⟨a1, a2⟩
  obtain ⟨_, c1⟩ := HQC.out w2 HF3.out
  cases hdir : (d.files.getD q f0).dir
  case true =>
    have HQ : Hid (SnapR d (unlR d L) 6 Go.Proofs.YtdpighcaieajjabGreat.v0) := .inr ⟨HSN.out, by rw [HUR1.out, if_pos hdir]⟩
    rw [hdir] at c1
    clear hdir
    go_wp2_with fail
    obtain ⟨s0, s1, s2, s3, s4, _⟩ := five (five_set (d0 := .int .i64 0) (d1 := .int .i64 0) (d2 := .bool false) (d3 := .slice none 0 0) (d4 := .int .i64 0) HR3.out)
    refine bodyPost_ret (v := .tuple #[.agg #[.int .i64 0, .int .i64 0, .bool false, .slice none 0 0, .int .i64 0], .int .i64 6]) (by simp [results, Tryz.results23, go_sem, s0, s1, s2, s3, s4]) rfl ⟨⟨_, 6, _, rfl, ownVol_zero _ _, HQ.out⟩, ?_⟩
    exact five_below HB3.out (Nat.le_succ _)
  case false =>
  have HQ : Hid (SnapR d (unlR d L) 0 (cutR d L)) := .inr ⟨HSN.out, by rw [HUR1.out, hdir]; rfl⟩
  rw [hdir] at c1
  have HPA2 : Hid (Calls Tryz.prog 45 #[.agg #[.int .i64 d.id, .int .i64 d.fr, .bool false, .slice (some ⟨g, 0, none⟩) d.files.length cap, .int .i64 d.next], .slice a L.length cL] w2 fun e w'' => e = .returned (.tuple #[.int .i64 qp, .int .i64 0]) ∧ Below w2.heap.size w2 w'') := by have h := HPA.out w2 HW12.out; rw [HPAR.out] at h; exact h
  have HID : Hid ((d.files.getD q f0).id = ((d.files.getD qp f0).list.getD k lk0).2) := by
    show _ = _
    rw [HQP.out]
    exact (placeOf_id (HOK.out.2.2.1.1 _ (getD_mem hqpl) _ (linkGet (namedI_lt HNK.out)))).2
  have HCR : Hid (cutR d L = ⟨d.id, d.fr, d.snap, takeFs (cutFs d.files qp k) (d.files.getD q f0).id, d.next⟩) := by
    show _ = _
    unfold cutR takV
    rw [HPAR.out]
    simp only
    rw [HNK.out, HID.out]
    rfl
  have HPO : Hid (placeOf (cutFs d.files qp k) (d.files.getD q f0).id = q) := by
    show _ = _
    unfold placeOf cutFs
    rw [atI_set]
    exact placeOf_self HOK.out.web.ris hql
  clear hdir HPA HUR1 HW12 HID HQP HPAR
  go_wp2_with fail
  refine HPA2.out.mono ?_
  rintro e w3 ⟨rfl, hb3⟩
  have HF4 : Hid (OwnFiles w3 (w.heap.size + 2) (.slice (some ⟨g, 0, none⟩) d.files.length cap) d.files) := HF3.out.below hb3
  have HG4 : Hid (w3.heap[w.heap.size]? = some (.cells #[.int .i64 d.id, .int .i64 d.fr, .bool false, .slice (some ⟨g, 0, none⟩) d.files.length cap, .int .i64 d.next] 24 (0, 0))) := (hb3.block _ (Array.getElem?_eq_some_iff.1 HG3.out).1).trans HG3.out
  have HR4 : Hid (w3.heap[w.heap.size + 1]? = some (.cells #[.int .i64 0, .int .i64 0, .bool false, .slice none 0 0, .int .i64 0] 24 (0, 0))) := (hb3.block _ (Array.getElem?_eq_some_iff.1 HR3.out).1).trans HR3.out
  have HB4 : Hid (Below w.heap.size w w3) := nwT HB3.out hb3
  clear hb3 HPA2 HF3 HG3 HR3 HB3 t0 t1 t2 t3 t4 tf c1 r0 r1 r2 r3 r4 rf
  obtain ⟨t0, t1, t2, t3, t4, tf⟩ := five HG4.out
  obtain ⟨c0, _⟩ := HQC.out w3 HF4.out
  generalize (d.files.getD q f0).id = fid at c0 HCR HPO
  obtain ⟨gs, hgd, hrow, hown⟩ := HF4.out
  have hgl : gs.length = d.files.length := by rw [← hgd, List.length_map]
  obtain ⟨x, hx⟩ : ∃ x, gs[qp]? = some x := ⟨_, List.getElem?_eq_getElem (by omega)⟩
  have hxd : d.files.getD qp f0 = x.d := by rw [← hgd]; simp [List.getD, hx]
  rw [hgl] at hrow
  have c4 := (RowF.cellAt (show RowF w3 (w.heap.size + 2) g d.files.length cap gs from hrow) hx).2.2.2.2
  obtain ⟨al, cl, hlv, hla, hlc⟩ := (hown x (List.mem_of_getElem? hx)).2.at
  rw [hlv] at c4
  have hsl : x.d.list.length ≤ 8 := by have := (HOK.out.dirq hqpl).1; rwa [hxd] at this
  have HLA : Hid (LinksAt w3 al x.d.list ∧ CapOk al cl x.d.list.length) := ⟨hla, hlc⟩
  have HFS : Hid ((cutFs d.files qp k) = d.files.set qp (withList (d.files.getD qp f0) (cutL x.d.list k))) := by show _ = _; unfold cutFs; rw [hxd]
  rw [hxd] at HNK
  have HGG : Hid (g < w3.heap.size ∧ w.heap.size + 2 ≤ g) := ⟨(World.ownsRow.lt hrow g rfl).2, (World.ownsRow.lt hrow g rfl).1⟩
  have hgl2 := HGG.out.1
  have hGl : w.heap.size < w3.heap.size := (Array.getElem?_eq_some_iff.1 HG4.out).1
  obtain ⟨sb, so, rfl, sc⟩ := (HL.out.below HB4.out).cell (show L.length - 1 < L.length by omega)
  have HLN : Hid (L.getD (L.length - 1) ByteArray.empty = lastN L) := rfl
  rw [HLN.out] at sc
  generalize lastN L = last at sc HNK
  have e1 : IntKind.i64.wrap ((L.length : Int) - 1) = ((L.length - 1 : Nat) : Int) := by rw [wrap_any (by omega) (by omega)]; omega
  have hl1 : ((L.length - 1 : Nat) : Int) < (L.length : Int) := by omega
  have hl2 : (0 : Int) ≤ ((L.length - 1 : Nat) : Int) := by omega
  generalize hm1 : L.length - 1 = m1 at sc e1 hl1 hl2
  have hpi : (qp : Int) < (d.files.length : Int) := by omega
  have hp0 : (0 : Int) ≤ (qp : Int) := by omega
  have hsbl : sb < w3.heap.size := block_lt_of_cell sc
  have HCUT : Hid (∀ W', Below w3.heap.size w3 W' → Calls Tryz.prog 54 #[.slice al x.d.list.length cl, .string last] W' fun e w' => (∃ v, e = .returned v ∧ OwnLinks w' (w.heap.size + 2) v (cutL x.d.list k)) ∧ Below W'.heap.size W' w') := fun W' h =>
    (cut_any al x.d.list cl k last W' (HLA.out.1.below h) (by omega) HLA.out.2.1 HNK.out).mono fun e w' ⟨⟨v, h1, h2⟩, h3⟩ => ⟨⟨v, h1, own_le h2 (by have h4 := h.size; have h5 := (Array.getElem?_eq_some_iff.1 HR4.out).1; omega)⟩, h3⟩
  clear hm1 hgd hrow hown hx hlv hla hlc hgl HLA
  go_upto_region 13 with fail
  clear c0
  go_cut [10] from 49 to 66 (fun s10 wx => s10 = .int .i64 fid ∧ Hid (OwnFiles wx (w.heap.size + 2) (.slice (some ⟨g, 0, none⟩) d.files.length cap) (cutFs d.files qp k)) ∧ Hid (Below w.heap.size w wx) ∧ wx.heap[w.heap.size]? = some (.cells #[.int .i64 d.id, .int .i64 d.fr, .bool false, .slice (some ⟨g, 0, none⟩) d.files.length cap, .int .i64 d.next] 24 (0, 0)) ∧ wx.heap[w.heap.size + 1]? = some (.cells #[.int .i64 0, .int .i64 0, .bool false, .slice none 0 0, .int .i64 0] 24 (0, 0)))
  case first =>
    go_region_with (first
      | (go_at_call 54; refine (HCUT.out _ (Below.drew (nwR w3))).mono ?_; rintro e wU ⟨⟨lv2, rfl, ho2⟩, hbU⟩; obtain ⟨a2, c2, rfl, _, _⟩ := id ho2.at; have hbu : Below w3.heap.size w3 wU := nwT (Below.drew (nwR w3)) hbU; obtain ⟨k0, k1, k2, k3, k4, kf⟩ := five ((hbu.block _ hGl).trans HG4.out); have kc4 := (hbu.cell (p := ⟨g, qp * 5 + 4, none⟩) hgl2).trans c4; have kfz : ∀ o, wU.frozen? ⟨g, o, none⟩ = false := (fun o => by obtain ⟨gs', h1', hr', _⟩ := HF4.out.below hbu; rw [show gs'.length = d.files.length from by rw [← h1', List.length_map]] at hr'; exact hr'.frozenAt o); have HBU : Hid (Below w3.heap.size w3 wU) := hbu; have HO2 : Hid (OwnLinks wU (w.heap.size + 2) (.slice a2 (cutL x.d.list k).length c2) (cutL x.d.list k)) := ho2; clear hbU ho2 hbu)
      | fail)
    all_goals
      have HF5 : Hid (OwnFiles (wU.setCell ⟨g, qp * 5 + 4, none⟩ (.slice a2 (cutL x.d.list k).length c2)) (w.heap.size + 2) (.slice (some ⟨g, 0, none⟩) d.files.length cap) (cutFs d.files qp k)) := by rw [HFS.out]; exact (OwnFiles.setList (HF4.out.below HBU.out) hqpl HO2.out).1
      have HB5 : Hid (Below w.heap.size w (wU.setCell ⟨g, qp * 5 + 4, none⟩ (.slice a2 (cutL x.d.list k).length c2))) := (nwT HB4.out HBU.out).setCell (p := ⟨g, qp * 5 + 4, none⟩) (by show w.heap.size ≤ g; have := HGG.out.2; omega) _
      have HG5 : Hid ((wU.setCell ⟨g, qp * 5 + 4, none⟩ (.slice a2 (cutL x.d.list k).length c2)).heap[w.heap.size]? = some (.cells #[.int .i64 d.id, .int .i64 d.fr, .bool false, .slice (some ⟨g, 0, none⟩) d.files.length cap, .int .i64 d.next] 24 (0, 0))) := by
        show _ = _
        rw [heap_setCell_other _ ⟨g, qp * 5 + 4, none⟩ _ _ (by show w.heap.size ≠ g; have := HGG.out.2; omega)]
        exact (HBU.out.block _ hGl).trans HG4.out
      have HR5 : Hid ((wU.setCell ⟨g, qp * 5 + 4, none⟩ (.slice a2 (cutL x.d.list k).length c2)).heap[w.heap.size + 1]? = some (.cells #[.int .i64 0, .int .i64 0, .bool false, .slice none 0 0, .int .i64 0] 24 (0, 0))) := by
        show _ = _
        rw [heap_setCell_other _ ⟨g, qp * 5 + 4, none⟩ _ _ (by show w.heap.size + 1 ≠ g; have := HGG.out.2; omega)]
        exact (HBU.out.block _ (Array.getElem?_eq_some_iff.1 HR4.out).1).trans HR4.out
      go_wp2_with fail
      go_meet
      exact ⟨rfl, HF5, HB5, HG5.out, HR5.out⟩
  case rest =>
  obtain ⟨rfl, HF5, HB5, hG5, hR5⟩ := hcut
  have HG5 : Hid (wc.heap[w.heap.size]? = some (.cells #[.int .i64 d.id, .int .i64 d.fr, .bool false, .slice (some ⟨g, 0, none⟩) d.files.length cap, .int .i64 d.next] 24 (0, 0))) := hG5
  have HR5 : Hid (wc.heap[w.heap.size + 1]? = some (.cells #[.int .i64 0, .int .i64 0, .bool false, .slice none 0 0, .int .i64 0] 24 (0, 0))) := hR5
  have HLN2 : Hid ((cutFs d.files qp k).length = d.files.length) := by show _ = _; unfold cutFs; rw [List.length_set]
  have HSC : Hid (SmallV ⟨d.id, d.fr, d.snap, (cutFs d.files qp k), d.next⟩) := HS.out.set qp _ (Nat.le_trans (cutL_le _ _) (by have := (HOK.out.dirq hqpl).1; omega))
  have HVF : Hid (VolVal wc (.agg #[.int .i64 d.id, .int .i64 d.fr, .bool false, .slice (some ⟨g, 0, none⟩) d.files.length cap, .int .i64 d.next]) ⟨d.id, d.fr, d.snap, (cutFs d.files qp k), d.next⟩) := by
    obtain ⟨a', c', e, h1, h2⟩ := HF5.out.at
    rw [HLN2.out] at e
    simp only [Value.slice.injEq, true_and] at e
    obtain ⟨rfl, rfl⟩ := e
    refine ⟨_, _, ?_, h1, h2⟩
    simp only
    rw [HSN.out, HLN2.out]
  generalize (cutFs d.files qp k) = fs1 at HF5 HLN2 HSC HVF HCR HPO HFS
  obtain ⟨t0, t1, t2, t3, t4, tf⟩ := five hG5
  clear hG5 hR5
  go_wp2_with fail
  refine (links_any _ _ fid _ HVF.out HSC.out).mono ?_
  rintro e w5 ⟨rfl, hb5⟩
  simp only
  have HF6 : Hid (OwnFiles w5 (w.heap.size + 2) (.slice (some ⟨g, 0, none⟩) d.files.length cap) fs1) := HF5.out.below hb5
  have HG6 : Hid (w5.heap[w.heap.size]? = some (.cells #[.int .i64 d.id, .int .i64 d.fr, .bool false, .slice (some ⟨g, 0, none⟩) d.files.length cap, .int .i64 d.next] 24 (0, 0))) := (hb5.block _ (Array.getElem?_eq_some_iff.1 HG5.out).1).trans HG5.out
  have HR6 : Hid (w5.heap[w.heap.size + 1]? = some (.cells #[.int .i64 0, .int .i64 0, .bool false, .slice none 0 0, .int .i64 0] 24 (0, 0))) := (hb5.block _ (Array.getElem?_eq_some_iff.1 HR5.out).1).trans HR5.out
  have HB6 : Hid (Below w.heap.size w w5) := nwT HB5.out hb5
  clear hb5 HG5 HR5 HB5 HF5 HVF t0 t1 t2 t3 t4 tf
  obtain ⟨t0, t1, t2, t3, t4, tf⟩ := five HG6.out
  obtain ⟨r0, r1, r2, r3, r4, rf⟩ := five HR6.out
  by_cases hz : linksN fs1 fid = 0
  case neg =>
    have HT : Hid (cutR d L = ⟨d.id, d.fr, d.snap, fs1, d.next⟩) := by show _ = _; rw [HCR.out]; unfold takeFs; rw [if_neg hz]
    have hzb : (((linksN fs1 fid : Nat) : Int) == 0) = false := beq_eq_false_iff_ne.2 (by omega)
    clear hz
    go_wp2_with fail
    obtain ⟨s0, s1, s2, s3, s4, _⟩ := five (five_set (d0 := .int .i64 d.id) (d1 := .int .i64 d.fr) (d2 := .bool false) (d3 := (.slice (some ⟨g, 0, none⟩) d.files.length cap)) (d4 := .int .i64 d.next) HR6.out)
    refine bodyPost_ret (v := .tuple #[.agg #[.int .i64 d.id, .int .i64 d.fr, .bool false, (.slice (some ⟨g, 0, none⟩) d.files.length cap), .int .i64 d.next], .int .i64 0]) (by simp [results, Tryz.results23, go_sem, s0, s1, s2, s3, s4]) rfl ⟨⟨_, 0, cutR d L, rfl, ⟨(.slice (some ⟨g, 0, none⟩) d.files.length cap), ?_, ?_⟩, HQ.out⟩, ?_⟩
    · rw [HT.out, HSN.out]
    · rw [HT.out]
      exact (((((HF6.out.set 0 (by omega) _).set 1 (by omega) _).set 2 (by omega) _).set 3 (by omega) _).set 4 (by omega) _).le (Nat.le_add_right _ _)
    · exact five_below HB6.out (Nat.le_succ _)
  case pos =>
    have HT : Hid (cutR d L = ⟨d.id, d.fr, d.snap, lessF fs1 q, d.next⟩) := by show _ = _; rw [HCR.out]; unfold takeFs; rw [if_pos hz, HPO.out]
    have hz2 : ((linksN fs1 fid : Nat) : Int) = 0 := by omega
    rw [hz2]
    have HLE : Hid (Calls Tryz.prog 55 #[.slice (some ⟨g, 0, none⟩) d.files.length cap, .int .i64 q] w5 fun e w' => (∃ v', e = .returned v' ∧ OwnFiles w' (w.heap.size + 2) v' (lessF fs1 q)) ∧ Below w5.heap.size w5 w') := less_any _ fs1 (w.heap.size + 2) q w5 HF6.out (by have := (Array.getElem?_eq_some_iff.1 HR6.out).1; omega) HSC.out.1 HSC.out.2 (by rw [HLN2.out]; exact hql)
    clear hz hz2
    go_wp2_with fail
    refine HLE.out.mono ?_
    rintro e w6 ⟨⟨v6, rfl, ho6⟩, hb6⟩
    obtain ⟨a6, c6, rfl, _, _⟩ := id ho6.at
    have HG7 : Hid (w6.heap[w.heap.size]? = some (.cells #[.int .i64 d.id, .int .i64 d.fr, .bool false, .slice (some ⟨g, 0, none⟩) d.files.length cap, .int .i64 d.next] 24 (0, 0))) := (hb6.block _ (Array.getElem?_eq_some_iff.1 HG6.out).1).trans HG6.out
    have HR7 : Hid ((w6.setCell ⟨w.heap.size, 3, none⟩ (.slice a6 (lessF fs1 q).length c6)).heap[w.heap.size + 1]? = some (.cells #[.int .i64 0, .int .i64 0, .bool false, .slice none 0 0, .int .i64 0] 24 (0, 0))) := by
      show _ = _
      rw [heap_setCell_other _ ⟨w.heap.size, 3, none⟩ _ _ (Nat.succ_ne_self _)]
      exact (hb6.block _ (Array.getElem?_eq_some_iff.1 HR6.out).1).trans HR6.out
    have hR7 := (hb6.block _ (Array.getElem?_eq_some_iff.1 HR6.out).1).trans HR6.out
    have HF7 : Hid (OwnFiles (w6.setCell ⟨w.heap.size, 3, none⟩ (.slice a6 (lessF fs1 q).length c6)) (w.heap.size + 2) (.slice a6 (lessF fs1 q).length c6) (lessF fs1 q)) := ho6.set 3 (by omega) _
    have HB7 : Hid (Below w.heap.size w (w6.setCell ⟨w.heap.size, 3, none⟩ (.slice a6 (lessF fs1 q).length c6))) := (nwT HB6.out hb6).setCell (p := ⟨w.heap.size, 3, none⟩) (Nat.le_refl _) _
    clear hb6 ho6 t0 t1 t2 t3 t4 tf r0 r1 r2 r3 r4 rf
    obtain ⟨t0, t1, t2, t3, t4, tf⟩ := five HG7.out
    obtain ⟨r0, r1, r2, r3, r4, rf⟩ := five hR7
    clear hR7
    go_wp2_with fail
    generalize w6.setCell ⟨w.heap.size, 3, none⟩ (.slice a6 (lessF fs1 q).length c6) = W7 at HR7 HF7 HB7 ⊢
    obtain ⟨s0, s1, s2, s3, s4, _⟩ := five (five_set (d0 := .int .i64 d.id) (d1 := .int .i64 d.fr) (d2 := .bool false) (d3 := (.slice a6 (lessF fs1 q).length c6)) (d4 := .int .i64 d.next) HR7.out)
    refine bodyPost_ret (v := .tuple #[.agg #[.int .i64 d.id, .int .i64 d.fr, .bool false, (.slice a6 (lessF fs1 q).length c6), .int .i64 d.next], .int .i64 0]) (by simp [results, Tryz.results23, go_sem, s0, s1, s2, s3, s4]) rfl ⟨⟨_, 0, cutR d L, rfl, ⟨(.slice a6 (lessF fs1 q).length c6), ?_, ?_⟩, HQ.out⟩, ?_⟩
    · rw [HT.out, HSN.out]
    · rw [HT.out]
      exact (((((HF7.out.set 0 (by omega) _).set 1 (by omega) _).set 2 (by omega) _).set 3 (by omega) _).set 4 (by omega) _).le (Nat.le_add_right _ _)
    · exact five_below HB7.out (Nat.le_succ _)

end Go.Proofs.YtdpighcaieajjabGreat
