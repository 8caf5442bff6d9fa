/- Laid together: Rrmd. -/
import Derived.Test.YtdpighcaieajjabGreatTreesM22
/- An empty directory taken away, by the page. -/
namespace Go.Proofs.YtdpighcaieajjabGreat
open Go.RowKit Go.Sort

theorem sum_set : ∀ (l : List Nat) (q : Nat) (v : Nat), q < l.length → (l.set q v).sum + l.getD q 0 = l.sum + v := by
  intro l
  induction l with
  | nil => intro q v h; simp at h
  | cons a l ih =>
    intro q v h
    cases q with
    | zero => simp [List.getD]; omega
    | succ q =>
      have := ih q v (by simpa using h)
      simp only [List.set_cons_succ, List.sum_cons]
      have e : (a :: l).getD (q + 1) 0 = l.getD q 0 := by simp [List.getD]
      rw [e]; omega
theorem cntL_cut (l : List LinkD) (k : Nat) (hk : k < l.length) (id : Int) (h : (l.getD k lk0).2 = id) : cntL (cutL l k) id + 1 = cntL l id := by
  have e : l = l.take k ++ (l.getD k lk0 :: l.drop (k + 1)) := by
    rw [show l.getD k lk0 = l[k] from by simp [List.getD, hk], ← List.drop_eq_getElem_cons hk, List.take_append_drop]
  conv => rhs; rw [e]
  unfold cntL cutL
  rw [List.filter_append, List.filter_append, List.filter_cons, if_pos (by rw [h]; simp)]
  simp only [List.length_append, List.length_cons]
  omega
theorem linksN_cut {fs : List FileD} {q k : Nat} (hq : q < fs.length) (hk : k < (fs.getD q f0).list.length) (id : Int) (h : ((fs.getD q f0).list.getD k lk0).2 = id) : linksN (cutFs fs q k) id + 1 = linksN fs id := by
  have h1 := sum_set (fs.map fun f => cntL f.list id) q (cntL (cutL (fs.getD q f0).list k) id) (by simpa using hq)
  have h2 := cntL_cut _ k hk id h
  have h3 := linksN_sum fs id hq
  unfold linksN at *
  unfold cutFs
  rw [List.map_set]
  rw [h3] at h1
  simp only [withList]
  omega
theorem rmd_zero {d : VolD} {q qp k : Nat} (hok : VolOk d) (hqp : qp < d.files.length) (hk : k < (d.files.getD qp f0).list.length) (hq : q < d.files.length) (hid : (d.files.getD q f0).id = ((d.files.getD qp f0).list.getD k lk0).2) (hd : (d.files.getD q f0).dir = true) : linksN (cutFs d.files qp k) (d.files.getD q f0).id = 0 := by
  have h1 := linksN_cut hqp hk (d.files.getD q f0).id hid.symm
  have h2 := hok.2.2.1.2 q hq
  by_cases e : (d.files.getD q f0).id = 1
  · have := h2.1 e; omega
  · have := (h2.2 e).2 hd; omega

set_option maxRecDepth 100000 in
set_option maxHeartbeats 8000000 in
theorem rrmdir_any (v : Value) (d : VolD) (a : Option Addr) (L : List ByteArray) (cL : Nat) (w : World) (hv : VolVal w v d) (hs : SmallV d) (hok : VolOk d) (hL : StrsAt w a L) (hcL : L.length ≤ cL) (hl5 : L.length ≤ 5) :
    Calls Tryz.prog 25 #[v, .slice a L.length cL] w (RPost d (rmdR d L) w) := by
  have HS : Hid (SmallV d) := hs
  have HOK : Hid (VolOk d) := hok
  have HVV : Hid (VolVal w v d) := hv
  have hpos : 0 < d.files.length := hok.2.1.1.1
  have h16 : d.files.length ≤ 16 := hok.2.1.1.2.1
  have HL : Hid (StrsAt w a L) := hL
  clear hL
  obtain ⟨av, ca, rfl, _, _⟩ := hv
  have HB0 : Hid (Below w.heap.size w ((w.alloc (.cells #[.int .i64 d.id, .int .i64 d.fr, .bool d.snap, .slice av d.files.length ca, .int .i64 d.next] 24)).alloc (.cells #[.int .i64 0, .int .i64 0, .bool false, .slice none 0 0, .int .i64 0] 24))) := nwA (nwA (nwR w) _) _
  have HR0 : Hid (((w.alloc (.cells #[.int .i64 d.id, .int .i64 d.fr, .bool d.snap, .slice av d.files.length ca, .int .i64 d.next] 24)).alloc (.cells #[.int .i64 0, .int .i64 0, .bool false, .slice none 0 0, .int .i64 0] 24)).heap[w.heap.size + 1]? = some (.cells #[.int .i64 0, .int .i64 0, .bool false, .slice none 0 0, .int .i64 0] 24 (0, 0))) := heap_alloc_new2 w _ _
  have HG0 : Hid (((w.alloc (.cells #[.int .i64 d.id, .int .i64 d.fr, .bool d.snap, .slice av d.files.length ca, .int .i64 d.next] 24)).alloc (.cells #[.int .i64 0, .int .i64 0, .bool false, .slice none 0 0, .int .i64 0] 24)).heap[w.heap.size]? = some (.cells #[.int .i64 d.id, .int .i64 d.fr, .bool d.snap, .slice av d.files.length ca, .int .i64 d.next] 24 (0, 0))) := (Lib.alloc_old _ _ _ (by simp)).trans (heap_alloc_new w _)
  have HSZ : Hid (((w.alloc (.cells #[.int .i64 d.id, .int .i64 d.fr, .bool d.snap, .slice av d.files.length ca, .int .i64 d.next] 24)).alloc (.cells #[.int .i64 0, .int .i64 0, .bool false, .slice none 0 0, .int .i64 0] 24)).heap.size = w.heap.size + 2) := by show _ = _; simp
  clear hs hok
  go_enter Tryz.func25, Tryz.ntmps25
  go_wp2_with fail
  refine (copyVol_any _ d _ (HVV.out.below HB0.out) HS.out).mono ?_
  rintro e w1 ⟨⟨u, rfl, hu⟩, hb1⟩
  rw [HSZ.out] at hu
  obtain ⟨fv, rfl, hfv⟩ := hu
  obtain ⟨gs0, hgs0, hrow0, _⟩ := id hfv
  obtain ⟨g, cap, hfe, _, _⟩ := slice_cells hrow0 (by rw [show gs0.length = d.files.length from by rw [← hgs0, List.length_map]]; exact hpos)
  rw [show gs0.length = d.files.length from by rw [← hgs0, List.length_map]] at hfe
  subst hfe
  have HF1 : Hid (OwnFiles w1 (w.heap.size + 2) (.slice (some ⟨g, 0, none⟩) d.files.length cap) d.files) := hfv
  have HB1 : Hid (Below w.heap.size w w1) := nwT HB0.out hb1
  have HR1 : Hid (w1.heap[w.heap.size + 1]? = some (.cells #[.int .i64 0, .int .i64 0, .bool false, .slice none 0 0, .int .i64 0] 24 (0, 0))) := (hb1.block _ (Array.getElem?_eq_some_iff.1 HR0.out).1).trans HR0.out
  have HG1 : Hid (w1.heap[w.heap.size]? = some (.cells #[.int .i64 d.id, .int .i64 d.fr, .bool d.snap, .slice av d.files.length ca, .int .i64 d.next] 24 (0, 0))) := (hb1.block _ (Array.getElem?_eq_some_iff.1 HG0.out).1).trans HG0.out
  clear hb1 hfv hrow0 hgs0 HR0 HG0 HB0 HSZ
  obtain ⟨q0, q1, q2, q3, q4, qf⟩ := five HG1.out
  obtain ⟨r0, r1, r2, r3, r4, rf⟩ := five HR1.out
  obtain ⟨sn, hsn⟩ : ∃ sn, d.snap = sn := ⟨_, rfl⟩
  rw [hsn]
  have HSN : Hid (d.snap = sn) := hsn
  clear hsn
  cases sn
  case true =>
    have HQ : Hid (SnapR d (rmdR d L) 9 Go.Proofs.YtdpighcaieajjabGreat.v0) := .inl ⟨HSN.out, rfl, rfl⟩
    go_wp2_with fail
    have HR2 : Hid ((((((w1.setCell ⟨w.heap.size, 0, none⟩ (.int .i64 d.id)).setCell ⟨w.heap.size, 1, none⟩ (.int .i64 d.fr)).setCell ⟨w.heap.size, 2, none⟩ (.bool true)).setCell ⟨w.heap.size, 3, none⟩ (.slice (some ⟨g, 0, none⟩) d.files.length cap)).setCell ⟨w.heap.size, 4, none⟩ (.int .i64 d.next)).heap[w.heap.size + 1]? = some (.cells #[.int .i64 0, .int .i64 0, .bool false, .slice none 0 0, .int .i64 0] 24 (0, 0))) := five_aside HR1.out (Nat.succ_ne_self _)
    have HB2 : Hid (Below w.heap.size w (((((w1.setCell ⟨w.heap.size, 0, none⟩ (.int .i64 d.id)).setCell ⟨w.heap.size, 1, none⟩ (.int .i64 d.fr)).setCell ⟨w.heap.size, 2, none⟩ (.bool true)).setCell ⟨w.heap.size, 3, none⟩ (.slice (some ⟨g, 0, none⟩) d.files.length cap)).setCell ⟨w.heap.size, 4, none⟩ (.int .i64 d.next))) := five_below HB1.out (Nat.le_refl _)
    generalize ((((w1.setCell ⟨w.heap.size, 0, none⟩ (.int .i64 d.id)).setCell ⟨w.heap.size, 1, none⟩ (.int .i64 d.fr)).setCell ⟨w.heap.size, 2, none⟩ (.bool true)).setCell ⟨w.heap.size, 3, none⟩ (.slice (some ⟨g, 0, none⟩) d.files.length cap)).setCell ⟨w.heap.size, 4, none⟩ (.int .i64 d.next) = W1 at HR2 HB2 ⊢
    obtain ⟨s0, s1, s2, s3, s4, _⟩ := five (five_set (d0 := .int .i64 0) (d1 := .int .i64 0) (d2 := .bool false) (d3 := .slice none 0 0) (d4 := .int .i64 0) HR2.out)
    refine bodyPost_ret (v := .tuple #[.agg #[.int .i64 0, .int .i64 0, .bool false, .slice none 0 0, .int .i64 0], .int .i64 9]) (by simp [results, Tryz.results25, go_sem, s0, s1, s2, s3, s4]) rfl ⟨⟨_, 9, _, rfl, ownVol_zero _ _, HQ.out⟩, ?_⟩
    exact five_below HB2.out (Nat.le_succ _)
  case false =>
  have HF2 : Hid (OwnFiles (((((w1.setCell ⟨w.heap.size, 0, none⟩ (.int .i64 d.id)).setCell ⟨w.heap.size, 1, none⟩ (.int .i64 d.fr)).setCell ⟨w.heap.size, 2, none⟩ (.bool false)).setCell ⟨w.heap.size, 3, none⟩ (.slice (some ⟨g, 0, none⟩) d.files.length cap)).setCell ⟨w.heap.size, 4, none⟩ (.int .i64 d.next)) (w.heap.size + 2) (.slice (some ⟨g, 0, none⟩) d.files.length cap) d.files) := ((((HF1.out.set 0 (by omega) _).set 1 (by omega) _).set 2 (by omega) _).set 3 (by omega) _).set 4 (by omega) _
  have HG2 : Hid ((((((w1.setCell ⟨w.heap.size, 0, none⟩ (.int .i64 d.id)).setCell ⟨w.heap.size, 1, none⟩ (.int .i64 d.fr)).setCell ⟨w.heap.size, 2, none⟩ (.bool false)).setCell ⟨w.heap.size, 3, none⟩ (.slice (some ⟨g, 0, none⟩) d.files.length cap)).setCell ⟨w.heap.size, 4, none⟩ (.int .i64 d.next)).heap[w.heap.size]? = some (.cells #[.int .i64 d.id, .int .i64 d.fr, .bool false, .slice (some ⟨g, 0, none⟩) d.files.length cap, .int .i64 d.next] 24 (0, 0))) := five_set HG1.out
  have HR2 : Hid ((((((w1.setCell ⟨w.heap.size, 0, none⟩ (.int .i64 d.id)).setCell ⟨w.heap.size, 1, none⟩ (.int .i64 d.fr)).setCell ⟨w.heap.size, 2, none⟩ (.bool false)).setCell ⟨w.heap.size, 3, none⟩ (.slice (some ⟨g, 0, none⟩) d.files.length cap)).setCell ⟨w.heap.size, 4, none⟩ (.int .i64 d.next)).heap[w.heap.size + 1]? = some (.cells #[.int .i64 0, .int .i64 0, .bool false, .slice none 0 0, .int .i64 0] 24 (0, 0))) := five_aside HR1.out (Nat.succ_ne_self _)
  have HB2 : Hid (Below w.heap.size w (((((w1.setCell ⟨w.heap.size, 0, none⟩ (.int .i64 d.id)).setCell ⟨w.heap.size, 1, none⟩ (.int .i64 d.fr)).setCell ⟨w.heap.size, 2, none⟩ (.bool false)).setCell ⟨w.heap.size, 3, none⟩ (.slice (some ⟨g, 0, none⟩) d.files.length cap)).setCell ⟨w.heap.size, 4, none⟩ (.int .i64 d.next))) := five_below HB1.out (Nat.le_refl _)
  clear HR1 HG1 HB1 HF1 r0 r1 r2 r3 r4 rf
  have HUR0 : Hid (rmdR d L = if L.length = 0 then (8, Go.Proofs.YtdpighcaieajjabGreat.v0) else if (findF d.files 0 L).2 = 0 then (if (d.files.getD (findF d.files 0 L).1 f0).dir then (if 0 < (d.files.getD (findF d.files 0 L).1 f0).list.length then (8, Go.Proofs.YtdpighcaieajjabGreat.v0) else (0, cutR d L)) else (7, Go.Proofs.YtdpighcaieajjabGreat.v0)) else ((findF d.files 0 L).2, Go.Proofs.YtdpighcaieajjabGreat.v0)) := rfl
  by_cases hL0 : L.length = 0
  case pos =>
    have hLb : ((L.length : Int) == 0) = true := beq_iff_eq.2 (by omega)
    have HQ : Hid (SnapR d (rmdR d L) 8 Go.Proofs.YtdpighcaieajjabGreat.v0) := .inr ⟨HSN.out, by rw [HUR0.out, if_pos hL0]⟩
    obtain ⟨r0, r1, r2, r3, r4, rf⟩ := five HR2.out
    go_wp2_with fail
    generalize ((((w1.setCell ⟨w.heap.size, 0, none⟩ (.int .i64 d.id)).setCell ⟨w.heap.size, 1, none⟩ (.int .i64 d.fr)).setCell ⟨w.heap.size, 2, none⟩ (.bool false)).setCell ⟨w.heap.size, 3, none⟩ (.slice (some ⟨g, 0, none⟩) d.files.length cap)).setCell ⟨w.heap.size, 4, none⟩ (.int .i64 d.next) = W1 at HF2 HG2 HR2 HB2 ⊢
    obtain ⟨s0, s1, s2, s3, s4, _⟩ := five (five_set (d0 := .int .i64 0) (d1 := .int .i64 0) (d2 := .bool false) (d3 := .slice none 0 0) (d4 := .int .i64 0) HR2.out)
    refine bodyPost_ret (v := .tuple #[.agg #[.int .i64 0, .int .i64 0, .bool false, .slice none 0 0, .int .i64 0], .int .i64 8]) (by simp [results, Tryz.results25, go_sem, s0, s1, s2, s3, s4]) rfl ⟨⟨_, 8, _, rfl, ownVol_zero _ _, HQ.out⟩, ?_⟩
    exact five_below HB2.out (Nat.le_succ _)
  case neg =>
  have hLb : ((L.length : Int) == 0) = false := beq_eq_false_iff_ne.2 (by omega)
  have HUR : Hid (rmdR d L = if (findF d.files 0 L).2 = 0 then (if (d.files.getD (findF d.files 0 L).1 f0).dir then (if 0 < (d.files.getD (findF d.files 0 L).1 f0).list.length then (8, Go.Proofs.YtdpighcaieajjabGreat.v0) else (0, cutR d L)) else (7, Go.Proofs.YtdpighcaieajjabGreat.v0)) else ((findF d.files 0 L).2, Go.Proofs.YtdpighcaieajjabGreat.v0)) := by show _ = _; rw [HUR0.out, if_neg hL0]
  clear HUR0
  go_wp2_with fail
  generalize ((((w1.setCell ⟨w.heap.size, 0, none⟩ (.int .i64 d.id)).setCell ⟨w.heap.size, 1, none⟩ (.int .i64 d.fr)).setCell ⟨w.heap.size, 2, none⟩ (.bool false)).setCell ⟨w.heap.size, 3, none⟩ (.slice (some ⟨g, 0, none⟩) d.files.length cap)).setCell ⟨w.heap.size, 4, none⟩ (.int .i64 d.next) = W1 at HF2 HG2 HR2 HB2 ⊢
  have HV2 : Hid (VolVal W1 (.agg #[.int .i64 d.id, .int .i64 d.fr, .bool d.snap, .slice (some ⟨g, 0, none⟩) d.files.length cap, .int .i64 d.next]) d) := by
    obtain ⟨a', c', e, h1, h2⟩ := HF2.out.at
    simp only [Value.slice.injEq, true_and] at e
    obtain ⟨rfl, rfl⟩ := e
    exact ⟨_, _, rfl, h1, h2⟩
  have HFD : Hid (Calls Tryz.prog 51 #[.agg #[.int .i64 d.id, .int .i64 d.fr, .bool false, .slice (some ⟨g, 0, none⟩) d.files.length cap, .int .i64 d.next], .slice a L.length cL] W1 fun e w' => e = .returned (.tuple #[.int .i64 (findF d.files 0 L).1, .int .i64 (findF d.files 0 L).2]) ∧ Below W1.heap.size W1 w') := by
    have h := find_any _ d a L cL W1 HV2.out HS.out HOK.out.sound (HL.out.below HB2.out) (by omega)
    rw [HSN.out] at h; exact h
  have HPA : Hid (∀ w', Below W1.heap.size W1 w' → Calls Tryz.prog 45 #[.agg #[.int .i64 d.id, .int .i64 d.fr, .bool false, .slice (some ⟨g, 0, none⟩) d.files.length cap, .int .i64 d.next], .slice a L.length cL] w' fun e w'' => e = .returned (.tuple #[.int .i64 (parF d.files L).1, .int .i64 (parF d.files L).2]) ∧ Below w'.heap.size w' w'') := fun w' hw => by
    have h := parent_find _ d a L cL w' (HV2.out.below hw) HS.out HOK.out.sound (HL.out.below (nwT HB2.out hw)) (by omega) (by omega) hcL
    rw [HSN.out] at h; exact h
  have HFL : Hid (∀ q, findF d.files 0 L = (q, 0) → q < d.files.length ∧ ∃ qp k, parF d.files L = (qp, 0) ∧ (d.files.getD qp f0).dir = true ∧ namedI (d.files.getD qp f0).list (lastN L) = some k ∧ q = placeOf d.files ((d.files.getD qp f0).list.getD k lk0).2) := fun q h => ⟨by have h2 := findF_lt HOK.out.sound L 0 hpos; rw [h] at h2; exact h2, find_par (by omega) h⟩
  refine HFD.out.mono ?_
  rintro e w2 ⟨rfl, hb2⟩
  have HF3 : Hid (OwnFiles w2 (w.heap.size + 2) (.slice (some ⟨g, 0, none⟩) d.files.length cap) d.files) := HF2.out.below hb2
  have HG3 : Hid (w2.heap[w.heap.size]? = some (.cells #[.int .i64 d.id, .int .i64 d.fr, .bool false, .slice (some ⟨g, 0, none⟩) d.files.length cap, .int .i64 d.next] 24 (0, 0))) := (hb2.block _ (Array.getElem?_eq_some_iff.1 HG2.out).1).trans HG2.out
  have HR3 : Hid (w2.heap[w.heap.size + 1]? = some (.cells #[.int .i64 0, .int .i64 0, .bool false, .slice none 0 0, .int .i64 0] 24 (0, 0))) := (hb2.block _ (Array.getElem?_eq_some_iff.1 HR2.out).1).trans HR2.out
  have HB3 : Hid (Below w.heap.size w w2) := nwT HB2.out hb2
  have HW12 : Hid (Below W1.heap.size W1 w2) := hb2
  generalize findF d.files 0 L = r at HUR HFL ⊢
  obtain ⟨q, er⟩ := r
  simp only at HUR HFL ⊢
  obtain ⟨r0, r1, r2, r3, r4, rf⟩ := five HR3.out
  clear hb2 HFD HV2 HF2 HG2 HR2 HB2
  by_cases her : er = 0
  case neg =>
    have HQ : Hid (SnapR d (rmdR d L) er Go.Proofs.YtdpighcaieajjabGreat.v0) := .inr ⟨HSN.out, by rw [HUR.out, if_neg her]⟩
    have hd1 : decide (er = 0) = false := decide_eq_false her
    have hd2 : (er == 0) = false := beq_eq_false_iff_ne.2 her
    go_wp2_with fail
    obtain ⟨s0, s1, s2, s3, s4, _⟩ := five (five_set (d0 := .int .i64 0) (d1 := .int .i64 0) (d2 := .bool false) (d3 := .slice none 0 0) (d4 := .int .i64 0) HR3.out)
    refine bodyPost_ret (v := .tuple #[.agg #[.int .i64 0, .int .i64 0, .bool false, .slice none 0 0, .int .i64 0], .int .i64 er]) (by simp [results, Tryz.results25, go_sem, s0, s1, s2, s3, s4]) rfl ⟨⟨_, er, _, rfl, ownVol_zero _ _, HQ.out⟩, ?_⟩
    exact five_below HB3.out (Nat.le_succ _)
  case pos =>
  subst her
  obtain ⟨hql, qp, k, hpar, _, hnk, hqp⟩ := HFL.out q rfl
  have HUR1 : Hid (rmdR d L = if (d.files.getD q f0).dir then (if 0 < (d.files.getD q f0).list.length then (8, Go.Proofs.YtdpighcaieajjabGreat.v0) else (0, cutR d L)) else (7, Go.Proofs.YtdpighcaieajjabGreat.v0)) := by show _ = _; rw [HUR.out, if_pos rfl]
  have HQP : Hid (q = placeOf d.files ((d.files.getD qp f0).list.getD k lk0).2) := hqp
  have HNK : Hid (namedI (d.files.getD qp f0).list (lastN L) = some k) := hnk
  have HPAR : Hid (parF d.files L = (qp, 0)) := hpar
  clear HUR HFL hqp hnk hpar
  have hqi : (q : Int) < (d.files.length : Int) := by omega
  have hq0 : (0 : Int) ≤ (q : Int) := by omega
  have hqpl : qp < d.files.length := parF_lt HOK.out.sound HPAR.out
  obtain ⟨t0, t1, t2, t3, t4, tf⟩ := five HG3.out
  have HQC : Hid (∀ w', OwnFiles w' (w.heap.size + 2) (.slice (some ⟨g, 0, none⟩) d.files.length cap) d.files → w'.cell? ⟨g, q * 5, none⟩ = some (.int .i64 (d.files.getD q f0).id) ∧ w'.cell? ⟨g, q * 5 + 1, none⟩ = some (.bool (d.files.getD q f0).dir) ∧ ∃ al cl, w'.cell? ⟨g, q * 5 + 4, none⟩ = some (.slice al (d.files.getD q f0).list.length cl)) := fun w' h => by
    obtain ⟨gs, h1, h2, h3⟩ := h
    obtain ⟨x, hx⟩ : ∃ x, gs[q]? = some x := ⟨_, List.getElem?_eq_getElem (by rw [show gs.length = d.files.length from by rw [← h1, List.length_map]]; exact hql)⟩
    have hxd : d.files.getD q f0 = x.d := by rw [← h1]; simp [List.getD, hx]
    rw [show gs.length = d.files.length from by rw [← h1, List.length_map]] at h2
    obtain ⟨a1, a2, _, _, a5⟩ := RowF.cellAt (show RowF w' (w.heap.size + 2) g d.files.length cap gs from h2) hx
    obtain ⟨al, cl, e5, _, _⟩ := (h3 x (List.mem_of_getElem? hx)).2.at
    rw [hxd]; exact ⟨a1, a2, al, cl, by rw [a5, e5]⟩
  obtain ⟨_, c1, alq, clq, c5⟩ := HQC.out w2 HF3.out
  cases hdir : (d.files.getD q f0).dir
  case false =>
    have HQ : Hid (SnapR d (rmdR d L) 7 Go.Proofs.YtdpighcaieajjabGreat.v0) := .inr ⟨HSN.out, by rw [HUR1.out, hdir]; rfl⟩
    rw [hdir] at c1
    clear hdir
    go_wp2_with fail
    obtain ⟨s0, s1, s2, s3, s4, _⟩ := five (five_set (d0 := .int .i64 0) (d1 := .int .i64 0) (d2 := .bool false) (d3 := .slice none 0 0) (d4 := .int .i64 0) HR3.out)
    refine bodyPost_ret (v := .tuple #[.agg #[.int .i64 0, .int .i64 0, .bool false, .slice none 0 0, .int .i64 0], .int .i64 7]) (by simp [results, Tryz.results25, go_sem, s0, s1, s2, s3, s4]) rfl ⟨⟨_, 7, _, rfl, ownVol_zero _ _, HQ.out⟩, ?_⟩
    exact five_below HB3.out (Nat.le_succ _)
  case true =>
  rw [hdir] at c1
  by_cases hll : 0 < (d.files.getD q f0).list.length
  case pos =>
    have HQ : Hid (SnapR d (rmdR d L) 8 Go.Proofs.YtdpighcaieajjabGreat.v0) := .inr ⟨HSN.out, by rw [HUR1.out, if_pos hdir, if_pos hll]⟩
    clear hdir
    generalize (d.files.getD q f0).list.length = nl at c5 hll
    have hll2 : (0 : Int) < (nl : Int) := by omega
    go_wp2_with fail
    obtain ⟨s0, s1, s2, s3, s4, _⟩ := five (five_set (d0 := .int .i64 0) (d1 := .int .i64 0) (d2 := .bool false) (d3 := .slice none 0 0) (d4 := .int .i64 0) HR3.out)
    refine bodyPost_ret (v := .tuple #[.agg #[.int .i64 0, .int .i64 0, .bool false, .slice none 0 0, .int .i64 0], .int .i64 8]) (by simp [results, Tryz.results25, go_sem, s0, s1, s2, s3, s4]) rfl ⟨⟨_, 8, _, rfl, ownVol_zero _ _, HQ.out⟩, ?_⟩
    exact five_below HB3.out (Nat.le_succ _)
  case neg =>
  have HQ : Hid (SnapR d (rmdR d L) 0 (cutR d L)) := .inr ⟨HSN.out, by rw [HUR1.out, if_pos hdir, if_neg hll]⟩
  have hl0 : (d.files.getD q f0).list.length = 0 := by omega
  rw [hl0] at c5
  have HDIR : Hid ((d.files.getD q f0).dir = true) := hdir
  clear hl0 hll
  have HPA2 : Hid (Calls Tryz.prog 45 #[.agg #[.int .i64 d.id, .int .i64 d.fr, .bool false, .slice (some ⟨g, 0, none⟩) d.files.length cap, .int .i64 d.next], .slice a L.length cL] w2 fun e w'' => e = .returned (.tuple #[.int .i64 qp, .int .i64 0]) ∧ Below w2.heap.size w2 w'') := by have h := HPA.out w2 HW12.out; rw [HPAR.out] at h; exact h
  have HID : Hid ((d.files.getD q f0).id = ((d.files.getD qp f0).list.getD k lk0).2) := by
    show _ = _
    rw [HQP.out]
    exact (placeOf_id (HOK.out.2.2.1.1 _ (getD_mem hqpl) _ (linkGet (namedI_lt HNK.out)))).2
  have HCR : Hid (cutR d L = ⟨d.id, d.fr, d.snap, takeFs (cutFs d.files qp k) (d.files.getD q f0).id, d.next⟩) := by
    show _ = _
    unfold cutR takV
    rw [HPAR.out]
    simp only
    rw [HNK.out, HID.out]
    rfl
  have HZ : Hid (linksN (cutFs d.files qp k) (d.files.getD q f0).id = 0) := rmd_zero HOK.out hqpl (namedI_lt HNK.out) hql HID.out HDIR.out
  have HPO : Hid (placeOf (cutFs d.files qp k) (d.files.getD q f0).id = q) := by
    show _ = _
    unfold placeOf cutFs
    rw [atI_set]
    exact placeOf_self HOK.out.web.ris hql
  clear hdir HPA HUR1 HW12 HID HQP HPAR
  go_wp2_with fail
  refine HPA2.out.mono ?_
  rintro e w3 ⟨rfl, hb3⟩
  have HF4 : Hid (OwnFiles w3 (w.heap.size + 2) (.slice (some ⟨g, 0, none⟩) d.files.length cap) d.files) := HF3.out.below hb3
  have HG4 : Hid (w3.heap[w.heap.size]? = some (.cells #[.int .i64 d.id, .int .i64 d.fr, .bool false, .slice (some ⟨g, 0, none⟩) d.files.length cap, .int .i64 d.next] 24 (0, 0))) := (hb3.block _ (Array.getElem?_eq_some_iff.1 HG3.out).1).trans HG3.out
  have HR4 : Hid (w3.heap[w.heap.size + 1]? = some (.cells #[.int .i64 0, .int .i64 0, .bool false, .slice none 0 0, .int .i64 0] 24 (0, 0))) := (hb3.block _ (Array.getElem?_eq_some_iff.1 HR3.out).1).trans HR3.out
  have HB4 : Hid (Below w.heap.size w w3) := nwT HB3.out hb3
  clear hb3 HPA2 HF3 HG3 HR3 HB3 t0 t1 t2 t3 t4 tf c1 c5 r0 r1 r2 r3 r4 rf
  obtain ⟨t0, t1, t2, t3, t4, tf⟩ := five HG4.out
  generalize (d.files.getD q f0).id = fid at HCR HPO HZ
  obtain ⟨gs, hgd, hrow, hown⟩ := HF4.out
  have hgl : gs.length = d.files.length := by rw [← hgd, List.length_map]
  obtain ⟨x, hx⟩ : ∃ x, gs[qp]? = some x := ⟨_, List.getElem?_eq_getElem (by omega)⟩
  have hxd : d.files.getD qp f0 = x.d := by rw [← hgd]; simp [List.getD, hx]
  rw [hgl] at hrow
  have c4 := (RowF.cellAt (show RowF w3 (w.heap.size + 2) g d.files.length cap gs from hrow) hx).2.2.2.2
  obtain ⟨al, cl, hlv, hla, hlc⟩ := (hown x (List.mem_of_getElem? hx)).2.at
  rw [hlv] at c4
  have hsl : x.d.list.length ≤ 8 := by have := (HOK.out.dirq hqpl).1; rwa [hxd] at this
  have HLA : Hid (LinksAt w3 al x.d.list ∧ CapOk al cl x.d.list.length) := ⟨hla, hlc⟩
  have HFS : Hid ((cutFs d.files qp k) = d.files.set qp (withList (d.files.getD qp f0) (cutL x.d.list k))) := by show _ = _; unfold cutFs; rw [hxd]
  rw [hxd] at HNK
  have HGG : Hid (g < w3.heap.size ∧ w.heap.size + 2 ≤ g) := ⟨(World.ownsRow.lt hrow g rfl).2, (World.ownsRow.lt hrow g rfl).1⟩
  have hgl2 := HGG.out.1
  have hGl : w.heap.size < w3.heap.size := (Array.getElem?_eq_some_iff.1 HG4.out).1
  obtain ⟨sb, so, rfl, sc⟩ := (HL.out.below HB4.out).cell (show L.length - 1 < L.length by omega)
  have HLN : Hid (L.getD (L.length - 1) ByteArray.empty = lastN L) := rfl
  rw [HLN.out] at sc
  generalize lastN L = last at sc HNK
  have e1 : IntKind.i64.wrap ((L.length : Int) - 1) = ((L.length - 1 : Nat) : Int) := by rw [wrap_any (by omega) (by omega)]; omega
  have hl1 : ((L.length - 1 : Nat) : Int) < (L.length : Int) := by omega
  have hl2 : (0 : Int) ≤ ((L.length - 1 : Nat) : Int) := by omega
  generalize hm1 : L.length - 1 = m1 at sc e1 hl1 hl2
  have hpi : (qp : Int) < (d.files.length : Int) := by omega
  have hp0 : (0 : Int) ≤ (qp : Int) := by omega
  have hsbl : sb < w3.heap.size := block_lt_of_cell sc
  have HCUT : Hid (∀ W', Below w3.heap.size w3 W' → Calls Tryz.prog 54 #[.slice al x.d.list.length cl, .string last] W' fun e w' => (∃ v, e = .returned v ∧ OwnLinks w' (w.heap.size + 2) v (cutL x.d.list k)) ∧ Below W'.heap.size W' w') := fun W' h =>
    (cut_any al x.d.list cl k last W' (HLA.out.1.below h) (by omega) HLA.out.2.1 HNK.out).mono fun e w' ⟨⟨v, h1, h2⟩, h3⟩ => ⟨⟨v, h1, own_le h2 (by have h4 := h.size; have h5 := (Array.getElem?_eq_some_iff.1 HR4.out).1; omega)⟩, h3⟩
  clear hm1 hgd hrow hown hx hlv hla hlc hgl HLA
  go_upto_region 14 with fail
  go_cut [9] from 52 to 69 (fun s9 wx => s9 = .int .i64 0 ∧ Hid (OwnFiles wx (w.heap.size + 2) (.slice (some ⟨g, 0, none⟩) d.files.length cap) (cutFs d.files qp k)) ∧ Hid (Below w.heap.size w wx) ∧ wx.heap[w.heap.size]? = some (.cells #[.int .i64 d.id, .int .i64 d.fr, .bool false, .slice (some ⟨g, 0, none⟩) d.files.length cap, .int .i64 d.next] 24 (0, 0)) ∧ wx.heap[w.heap.size + 1]? = some (.cells #[.int .i64 0, .int .i64 0, .bool false, .slice none 0 0, .int .i64 0] 24 (0, 0)))
  case first =>
    go_region_with (first
      | (go_at_call 54; refine (HCUT.out _ (Below.drew (nwR w3))).mono ?_; rintro e wU ⟨⟨lv2, rfl, ho2⟩, hbU⟩; obtain ⟨a2, c2, rfl, _, _⟩ := id ho2.at; have hbu : Below w3.heap.size w3 wU := nwT (Below.drew (nwR w3)) hbU; obtain ⟨k0, k1, k2, k3, k4, kf⟩ := five ((hbu.block _ hGl).trans HG4.out); have kc4 := (hbu.cell (p := ⟨g, qp * 5 + 4, none⟩) hgl2).trans c4; have kfz : ∀ o, wU.frozen? ⟨g, o, none⟩ = false := (fun o => by obtain ⟨gs', h1', hr', _⟩ := HF4.out.below hbu; rw [show gs'.length = d.files.length from by rw [← h1', List.length_map]] at hr'; exact hr'.frozenAt o); have HBU : Hid (Below w3.heap.size w3 wU) := hbu; have HO2 : Hid (OwnLinks wU (w.heap.size + 2) (.slice a2 (cutL x.d.list k).length c2) (cutL x.d.list k)) := ho2; clear hbU ho2 hbu)
      | fail)
    all_goals
      have HF5 : Hid (OwnFiles (wU.setCell ⟨g, qp * 5 + 4, none⟩ (.slice a2 (cutL x.d.list k).length c2)) (w.heap.size + 2) (.slice (some ⟨g, 0, none⟩) d.files.length cap) (cutFs d.files qp k)) := by rw [HFS.out]; exact (OwnFiles.setList (HF4.out.below HBU.out) hqpl HO2.out).1
      have HB5 : Hid (Below w.heap.size w (wU.setCell ⟨g, qp * 5 + 4, none⟩ (.slice a2 (cutL x.d.list k).length c2))) := (nwT HB4.out HBU.out).setCell (p := ⟨g, qp * 5 + 4, none⟩) (by show w.heap.size ≤ g; have := HGG.out.2; omega) _
      have HG5 : Hid ((wU.setCell ⟨g, qp * 5 + 4, none⟩ (.slice a2 (cutL x.d.list k).length c2)).heap[w.heap.size]? = some (.cells #[.int .i64 d.id, .int .i64 d.fr, .bool false, .slice (some ⟨g, 0, none⟩) d.files.length cap, .int .i64 d.next] 24 (0, 0))) := by
        show _ = _
        rw [heap_setCell_other _ ⟨g, qp * 5 + 4, none⟩ _ _ (by show w.heap.size ≠ g; have := HGG.out.2; omega)]
        exact (HBU.out.block _ hGl).trans HG4.out
      have HR5 : Hid ((wU.setCell ⟨g, qp * 5 + 4, none⟩ (.slice a2 (cutL x.d.list k).length c2)).heap[w.heap.size + 1]? = some (.cells #[.int .i64 0, .int .i64 0, .bool false, .slice none 0 0, .int .i64 0] 24 (0, 0))) := by
        show _ = _
        rw [heap_setCell_other _ ⟨g, qp * 5 + 4, none⟩ _ _ (by show w.heap.size + 1 ≠ g; have := HGG.out.2; omega)]
        exact (HBU.out.block _ (Array.getElem?_eq_some_iff.1 HR4.out).1).trans HR4.out
      go_wp2_with fail
      go_meet
      exact ⟨rfl, HF5, HB5, HG5.out, HR5.out⟩
  case rest =>
  obtain ⟨rfl, HF5, HB5, hG5, hR5⟩ := hcut
  have HG5 : Hid (wc.heap[w.heap.size]? = some (.cells #[.int .i64 d.id, .int .i64 d.fr, .bool false, .slice (some ⟨g, 0, none⟩) d.files.length cap, .int .i64 d.next] 24 (0, 0))) := hG5
  have HR5 : Hid (wc.heap[w.heap.size + 1]? = some (.cells #[.int .i64 0, .int .i64 0, .bool false, .slice none 0 0, .int .i64 0] 24 (0, 0))) := hR5
  have HLN2 : Hid ((cutFs d.files qp k).length = d.files.length) := by show _ = _; unfold cutFs; rw [List.length_set]
  have HSC : Hid (SmallV ⟨d.id, d.fr, d.snap, (cutFs d.files qp k), d.next⟩) := HS.out.set qp _ (Nat.le_trans (cutL_le _ _) (by have := (HOK.out.dirq hqpl).1; omega))
  have HVF : Hid (VolVal wc (.agg #[.int .i64 d.id, .int .i64 d.fr, .bool false, .slice (some ⟨g, 0, none⟩) d.files.length cap, .int .i64 d.next]) ⟨d.id, d.fr, d.snap, (cutFs d.files qp k), d.next⟩) := by
    obtain ⟨a', c', e, h1, h2⟩ := HF5.out.at
    rw [HLN2.out] at e
    simp only [Value.slice.injEq, true_and] at e
    obtain ⟨rfl, rfl⟩ := e
    refine ⟨_, _, ?_, h1, h2⟩
    simp only
    rw [HSN.out, HLN2.out]
  generalize (cutFs d.files qp k) = fs1 at HF5 HLN2 HSC HVF HCR HPO HFS HZ
  have HF6 : Hid (OwnFiles wc (w.heap.size + 2) (.slice (some ⟨g, 0, none⟩) d.files.length cap) fs1) := HF5
  have HG6 := HG5
  have HR6 := HR5
  have HB6 := HB5
  obtain ⟨t0, t1, t2, t3, t4, tf⟩ := five hG5
  obtain ⟨r0, r1, r2, r3, r4, rf⟩ := five hR5
  clear hG5 hR5 HG5 HR5 HB5 HF5 HVF
  have HT : Hid (cutR d L = ⟨d.id, d.fr, d.snap, lessF fs1 q, d.next⟩) := by show _ = _; rw [HCR.out]; unfold takeFs; rw [if_pos HZ.out, HPO.out]
  have HLE : Hid (Calls Tryz.prog 55 #[.slice (some ⟨g, 0, none⟩) d.files.length cap, .int .i64 q] wc fun e w' => (∃ v', e = .returned v' ∧ OwnFiles w' (w.heap.size + 2) v' (lessF fs1 q)) ∧ Below wc.heap.size wc w') := less_any _ fs1 (w.heap.size + 2) q wc HF6.out (by have := (Array.getElem?_eq_some_iff.1 HR6.out).1; omega) HSC.out.1 HSC.out.2 (by rw [HLN2.out]; exact hql)
  go_wp2_with fail
  refine HLE.out.mono ?_
  rintro e w6 ⟨⟨v6, rfl, ho6⟩, hb6⟩
  obtain ⟨a6, c6, rfl, _, _⟩ := id ho6.at
  have HG7 : Hid (w6.heap[w.heap.size]? = some (.cells #[.int .i64 d.id, .int .i64 d.fr, .bool false, .slice (some ⟨g, 0, none⟩) d.files.length cap, .int .i64 d.next] 24 (0, 0))) := (hb6.block _ (Array.getElem?_eq_some_iff.1 HG6.out).1).trans HG6.out
  have HR7 : Hid ((w6.setCell ⟨w.heap.size, 3, none⟩ (.slice a6 (lessF fs1 q).length c6)).heap[w.heap.size + 1]? = some (.cells #[.int .i64 0, .int .i64 0, .bool false, .slice none 0 0, .int .i64 0] 24 (0, 0))) := by
    show _ = _
    rw [heap_setCell_other _ ⟨w.heap.size, 3, none⟩ _ _ (Nat.succ_ne_self _)]
    exact (hb6.block _ (Array.getElem?_eq_some_iff.1 HR6.out).1).trans HR6.out
  have hR7 := (hb6.block _ (Array.getElem?_eq_some_iff.1 HR6.out).1).trans HR6.out
  have HF7 : Hid (OwnFiles (w6.setCell ⟨w.heap.size, 3, none⟩ (.slice a6 (lessF fs1 q).length c6)) (w.heap.size + 2) (.slice a6 (lessF fs1 q).length c6) (lessF fs1 q)) := ho6.set 3 (by omega) _
  have HB7 : Hid (Below w.heap.size w (w6.setCell ⟨w.heap.size, 3, none⟩ (.slice a6 (lessF fs1 q).length c6))) := (nwT HB6.out hb6).setCell (p := ⟨w.heap.size, 3, none⟩) (Nat.le_refl _) _
  clear hb6 ho6 t0 t1 t2 t3 t4 tf r0 r1 r2 r3 r4 rf
  obtain ⟨t0, t1, t2, t3, t4, tf⟩ := five HG7.out
  obtain ⟨r0, r1, r2, r3, r4, rf⟩ := five hR7
  clear hR7
  go_wp2_with fail
  generalize w6.setCell ⟨w.heap.size, 3, none⟩ (.slice a6 (lessF fs1 q).length c6) = W7 at HR7 HF7 HB7 ⊢
  obtain ⟨s0, s1, s2, s3, s4, _⟩ := five (five_set (d0 := .int .i64 d.id) (d1 := .int .i64 d.fr) (d2 := .bool false) (d3 := (.slice a6 (lessF fs1 q).length c6)) (d4 := .int .i64 d.next) HR7.out)
  refine bodyPost_ret (v := .tuple #[.agg #[.int .i64 d.id, .int .i64 d.fr, .bool false, (.slice a6 (lessF fs1 q).length c6), .int .i64 d.next], .int .i64 0]) (by simp [results, Tryz.results25, go_sem, s0, s1, s2, s3, s4]) rfl ⟨⟨_, 0, cutR d L, rfl, ⟨(.slice a6 (lessF fs1 q).length c6), ?_, ?_⟩, HQ.out⟩, ?_⟩
  · rw [HT.out, HSN.out]
  · rw [HT.out]
    exact (((((HF7.out.set 0 (by omega) _).set 1 (by omega) _).set 2 (by omega) _).set 3 (by omega) _).set 4 (by omega) _).le (Nat.le_add_right _ _)
  · exact five_below HB7.out (Nat.le_succ _)

end Go.Proofs.YtdpighcaieajjabGreat
