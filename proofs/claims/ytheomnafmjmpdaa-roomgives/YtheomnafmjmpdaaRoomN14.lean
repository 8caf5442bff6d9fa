/- Laid together: Rgive, Spoild, Stepj. -/
import Derived.Test.YtheomnafmjmpdaaRoomN13
/- Places given, by the page. -/
namespace Go.Proofs.Ytheomnafmjmpdaa
open Go.RowKit

theorem giv_none {x : List DevD} {p : Int × Int} {r : List (Int × Int)} (h : (placeF x p.1 p.2).2 = none) : givN x (p :: r) = ((placeF x p.1 p.2).1, []) := by rw [givN, h]
theorem giv_some {x : List DevD} {p : Int × Int} {r : List (Int × Int)} {k : Nat} (h : (placeF x p.1 p.2).2 = some k) : givN x (p :: r) = givN (givD x k p.2) r := by rw [givN, h]
theorem place_at {x : List DevD} {dev n : Int} {k : Nat} (h : atD x dev = some k) : placeF x dev n = (if thereB (x.getD k DZ) n = false then (1, none) else if usedB (x.getD k DZ) n = false then (4, none) else (0, some k)) := by unfold placeF; rw [h]
theorem num2_is (n most : Int) (b : Bool) (w : World) (h : numB n most = b) : Calls Try.prog 24 #[.int .i64 n, .int .i64 most] w fun e w' => e = .returned (.bool b) ∧ w' = w := by
  subst h; exact num2_any n most w

set_option maxRecDepth 100000 in
set_option maxHeartbeats 8000000 in
theorem rgive_any (a : Option Addr) (ds : List DevD) (ca : Nat) (pa : Option Addr) (pc : Nat) (ps : List (Int × Int)) (w : World) (hd : DevsAt w a ds) (hok : DevsOk ds) (hp : SegsAt w pa ps) (hpl : ps.length ≤ 100000) :
    Calls Try.prog 26 #[.slice a ds.length ca, .slice pa ps.length pc] w fun e w' => (∃ u, e = .returned (.tuple #[u, .int .i64 (givN ds ps).1]) ∧ OwnDevs w' w.heap.size u (givN ds ps).2) ∧ Below w.heap.size w w' := by
  have HC : Hid (Calls Try.prog 8 #[.slice a ds.length ca] w fun e w' => (∃ v, e = .returned v ∧ OwnDevs w' w.heap.size v ds) ∧ Below w.heap.size w w') := copyDevs_any a ds ca w hd hok.small
  have HOK : Hid (DevsOk ds) := hok
  have h6 := hok.1
  have HPS : Hid (SegsAt w pa ps) := hp
  obtain ⟨R, hR⟩ : ∃ R, givN ds ps = R := ⟨_, rfl⟩
  have HR : Hid (givN ds ps = R) := hR
  rw [hR]
  clear hd hok hp hR
  go_enter Try.func26, Try.ntmps26
  go_wp2_with fail
  refine HC.out.mono ?_
  rintro e w1 ⟨⟨v, rfl, ho⟩, hb1⟩
  obtain ⟨a1, c1, rfl, _⟩ := ho.at
  have HO1 : Hid (OwnDevs w1 w.heap.size (.slice a1 ds.length c1) ds) := ho
  have HB1 : Hid (Below w.heap.size w w1) := hb1
  have HG0 : Hid (givN ds (ps.drop 0) = R) := HR.out
  clear ho hb1 HC
  go_wp2_with fail
  go_loopw [6] (fun i wr => ∃ (j : Nat) (x : List DevD), j ≤ ps.length ∧ i = .int .i64 j ∧ Hid (givN x (ps.drop j) = R) ∧ Hid (GvInv ds x) ∧ Hid (OwnDevs wr w.heap.size (.slice a1 ds.length c1) x) ∧ Hid (Below w.heap.size w wr))
    (fun i _ => ps.length - (intOf i).toNat)
  case atStart => exact ⟨0, ds, by omega, rfl, HG0, gvinv_refl HOK.out, HO1, HB1⟩
  case round =>
  obtain ⟨j, x, hj, rfl, HGV, HIV, HO, HB⟩ := hrel
  by_cases hjl : j < ps.length
  case neg =>
    have hjli : ¬ (j : Int) < (ps.length : Int) := by omega
    have HE : Hid (R = (0, x)) := by
      show _ = _
      rw [← HGV.out, List.drop_of_length_le (by omega)]; rfl
    go_wp2_with fail
    go_ret2
    exact ⟨⟨_, by rw [HE.out]; rfl, by rw [HE.out]; exact HO.out⟩, HB.out⟩
  case pos =>
  have hjli : (j : Int) < (ps.length : Int) := by omega
  have hj0 : (0 : Int) ≤ (j : Int) := by omega
  obtain ⟨pb, po, rfl, p0, p1⟩ := HPS.out j hjl
  have hpb : pb < w.heap.size := block_lt_of_cell p0
  have HGC : Hid (givN x (ps.getD j (0, 0) :: ps.drop (j + 1)) = R) := by
    show _ = _
    rw [← HGV.out, List.drop_eq_getElem_cons hjl]
    simp [List.getD, hjl]
  generalize ps.getD j (0, 0) = pp at p0 p1 HGC
  obtain ⟨dev, n⟩ := pp
  simp only at p0 p1
  have HPC : Hid (∀ w', Below w.heap.size w w' → w'.cell? ⟨pb, po + j * 2, none⟩ = some (.int .i64 dev) ∧ w'.cell? ⟨pb, po + j * 2 + 1, none⟩ = some (.int .i64 n)) := fun w' h => ⟨(h.cell (p := ⟨pb, po + j * 2, none⟩) hpb).trans p0, (h.cell (p := ⟨pb, po + j * 2 + 1, none⟩) hpb).trans p1⟩
  have hxl := HIV.out.len
  have HXL : Hid (x.length = ds.length) := hxl
  have HAT : Hid (Calls Try.prog 30 #[.slice a1 ds.length c1, .int .i64 dev] wr fun e w' => e = .returned (.int .i64 (atZ x dev)) ∧ Below wr.heap.size wr w') := by
    obtain ⟨_, _, e, hd, _⟩ := HO.out.at
    injection e with e _ _
    subst e
    have := rat_any a1 x c1 dev wr hd (by omega)
    rwa [hxl] at this
  obtain ⟨z0, z1⟩ := HPC.out wr HB.out
  clear p0 p1 hxl HGV
  go_wp2_with fail
  refine HAT.out.mono ?_
  rintro e w2 ⟨rfl, hb2⟩
  have HBX : Hid (Below w.heap.size w w2) := nwT HB.out hb2
  have HO2 : Hid (OwnDevs w2 w.heap.size (.slice a1 ds.length c1) x) := HO.out.below hb2
  clear z0 z1 hb2 HAT HO HB
  cases hat : atD x dev
  case none =>
    have hz : atZ x dev = -1 := atZ_none hat
    have HE : Hid (R = (3, [])) := by
      show _ = _
      rw [← HGC.out, giv_none (by unfold placeF; rw [hat])]
      unfold placeF; rw [hat]
    rw [hz]
    clear hz hat
    go_wp2_with fail
    go_ret2
    exact ⟨⟨_, by rw [HE.out]; rfl, by rw [HE.out]; exact ownD_nil _ _⟩, HBX.out⟩
  case some k =>
  have hz : atZ x dev = (k : Int) := atZ_some hat
  rw [hz]
  have hkx := atD_lt hat
  have HPL : Hid (placeF x dev n = (if thereB (x.getD k DZ) n = false then (1, none) else if usedB (x.getD k DZ) n = false then (4, none) else (0, some k))) := place_at hat
  have hkd : k < ds.length := by have := HXL.out; omega
  have hk0 : (0 : Int) ≤ (k : Int) := by omega
  have hki : (k : Int) < (ds.length : Int) := by omega
  have hkn : ¬ (k : Int) < 0 := by omega
  obtain ⟨G, rfl, hbG, hGl⟩ := HO2.out.blk (by omega)
  have HGB : Hid (w.heap.size ≤ G ∧ G < w2.heap.size) := ⟨hbG, hGl⟩
  obtain ⟨af, cf, al, cl, cs, htag, _, c0, c1', c2, c3, hseg⟩ := HO2.out.dev HXL.out.symm hkd
  have hvf : vOk (x.getD k DZ).free = true := HIV.out.allV HOK.out k hkx
  have hvl : vOk (x.getD k DZ).late = true := HIV.out.late k hkx
  have hsm : SmallD (x.getD k DZ) := (HIV.out.small HOK.out).2 _ (getD_mem DZ hkx)
  have hsz := (HOK.out.2 k hkd).2
  have HSZ : Hid (1 ≤ (x.getD k DZ).size ∧ (x.getD k DZ).size ≤ 64) := by
    show _ ∧ _
    rw [HIV.out.size k]; exact ⟨hsz.sz0, hsz.sz1⟩
  have HSF : Hid (∀ w', Below w2.heap.size w2 w' → SegsAt w' af (x.getD k DZ).free) := fun w' h => by
    obtain ⟨_, _, e1, v1⟩ := (hseg w' (gbOf h _)).1.segV
    injection e1 with e1 _ _
    subst e1
    exact v1.1
  have HSL : Hid (∀ w', Below w2.heap.size w2 w' → SegsAt w' al (x.getD k DZ).late) := fun w' h => by
    obtain ⟨_, _, e1, v1⟩ := (hseg w' (gbOf h _)).2.segV
    injection e1 with e1 _ _
    subst e1
    exact v1.1
  have HTH : Hid (thereB (x.getD k DZ) n = numB n ((x.getD k DZ).size - 1)) := by
    show _ = _
    unfold thereB numB
    congr 1
    rw [decide_eq_decide]
    omega
  have HUB : Hid (usedB (x.getD k DZ) n = (!hasI (x.getD k DZ).free n && !hasI (x.getD k DZ).late n)) := rfl
  have HHF0 : Hid (∀ b, hasI (x.getD k DZ).free n = b → ∀ w', Below w2.heap.size w2 w' → Calls Try.prog 50 #[.slice af (x.getD k DZ).free.length cf, .int .i64 n] w' fun e w'' => e = .returned (.bool b) ∧ Below w'.heap.size w' w'') := fun b hb w' h => by subst hb; exact refHas_any af _ cf n w' (HSF.out w' h) hsm.1 hvf
  have HHL0 : Hid (∀ b, hasI (x.getD k DZ).late n = b → ∀ w', Below w2.heap.size w2 w' → Calls Try.prog 50 #[.slice al (x.getD k DZ).late.length cl, .int .i64 n] w' fun e w'' => e = .returned (.bool b) ∧ Below w'.heap.size w' w'') := fun b hb w' h => by subst hb; exact refHas_any al _ cl n w' (HSL.out w' h) hsm.2 hvl
  obtain ⟨nl, hnl⟩ : ∃ nl, joinA (x.getD k DZ).late n = nl := ⟨_, rfl⟩
  have HJ0 : Hid (vOk [(n, 1)] = true → ∀ W, Below w2.heap.size w2 W → Calls Try.prog 49 #[.slice al (x.getD k DZ).late.length cl, .slice (some ⟨W.heap.size, 0, none⟩) 1 1, .int .i64 0] (W.drew.alloc (.cells #[.int .i64 n, .int .i64 1] 67)) fun e w'' => (∃ v, e = .returned v ∧ OwnSegs w'' w.heap.size v nl) ∧ Below W.heap.size W w'') := fun hv W h => by
    have hbb : Below W.heap.size W (W.drew.alloc (.cells #[.int .i64 n, .int .i64 1] 67)) := nwA (Below.drew (nwR W)) _
    refine (refTwo0_any al (some ⟨W.heap.size, 0, none⟩) (x.getD k DZ).late [(n, 1)] cl 1 _ (HSL.out _ (nwT h hbb)) (segs1 W.drew n 1 67) hsm.2 (by simp) hvl hv).mono ?_
    rintro e w'' ⟨v, rfl, ho, hb⟩
    rw [show segsOf (fun i => memS (x.getD k DZ).late i || memS [(n, 1)] i) = nl from hnl] at ho
    exact ⟨⟨v, rfl, own_le ho (Nat.le_trans HBX.out.size (nwT h hbb).size)⟩, nwT hbb hb⟩
  have HFIN0 : Hid (∀ wD v1, Below w2.heap.size w2 wD → OwnSegs wD w.heap.size v1 nl → OwnDevs (wD.setCell ⟨G, k * 4 + 3, none⟩ v1) w.heap.size (.slice (some ⟨G, 0, none⟩) ds.length c1) (givD x k n) ∧ Below w.heap.size w (wD.setCell ⟨G, k * 4 + 3, none⟩ v1)) := fun wD v1 h hv => by
    have h1 := (HO2.out.below h).setL HXL.out.symm hkd hv
    rw [← hnl] at h1
    exact ⟨h1, (nwT HBX.out h).setCell (p := ⟨G, k * 4 + 3, none⟩) HGB.out.1 _⟩
  have HCL : Hid (∀ w', Below w2.heap.size w2 w' → (w'.cell? ⟨G, k * 4 + 1, none⟩ = some (.int .i64 (x.getD k DZ).size) ∧ w'.cell? ⟨G, k * 4 + 2, none⟩ = some (.slice af (x.getD k DZ).free.length cf) ∧ w'.cell? ⟨G, k * 4 + 3, none⟩ = some (.slice al (x.getD k DZ).late.length cl)) ∧ w'.heap[G]? = some (.cells cs 51 (0, 0))) := fun w' h =>
    ⟨⟨(h.cell (p := ⟨G, k * 4 + 1, none⟩) hGl).trans c1', (h.cell (p := ⟨G, k * 4 + 2, none⟩) hGl).trans c2, (h.cell (p := ⟨G, k * 4 + 3, none⟩) hGl).trans c3⟩, (h.block _ hGl).trans htag⟩
  have HGI : Hid (GvInv ds (givD x k n)) := HIV.out.step k n
  clear c0 c1' c2 c3 htag hseg hvf hvl hsm hsz hbG hGl hnl hat hz hkx
  generalize thereB (x.getD k DZ) n = tb at HPL HTH
  generalize usedB (x.getD k DZ) n = ub at HPL HUB
  generalize (x.getD k DZ).size = sz at HSZ HTH HCL
  obtain ⟨fb, hfb⟩ : ∃ b, hasI (x.getD k DZ).free n = b := ⟨_, rfl⟩
  obtain ⟨lb, hlb⟩ : ∃ b, hasI (x.getD k DZ).late n = b := ⟨_, rfl⟩
  have HHF1 : Hid (∀ w', Below w2.heap.size w2 w' → Calls Try.prog 50 #[.slice af (x.getD k DZ).free.length cf, .int .i64 n] w' fun e w'' => e = .returned (.bool fb) ∧ Below w'.heap.size w' w'') := HHF0.out fb hfb
  have HHL1 : Hid (∀ w', Below w2.heap.size w2 w' → Calls Try.prog 50 #[.slice al (x.getD k DZ).late.length cl, .int .i64 n] w' fun e w'' => e = .returned (.bool lb) ∧ Below w'.heap.size w' w'') := HHL0.out lb hlb
  rw [hfb, hlb] at HUB
  clear hfb hlb HHF0 HHL0 HSF HSL
  generalize (x.getD k DZ).free.length = nf at HHF1 HCL
  generalize (x.getD k DZ).late.length = nn at HHL1 HCL HJ0
  obtain ⟨hs1, hs2⟩ := HSZ.out
  have e1 : IntKind.i64.wrap (sz - 1) = sz - 1 := wrap_any (by omega) (by omega)
  have HNM : Hid (∀ p : Kin w2, Calls Try.prog 24 #[.int .i64 n, .int .i64 (sz - 1)] p.u fun e w' => e = .returned (.bool tb) ∧ w' = p.u) := fun p => num2_is n (sz - 1) tb p.u HTH.out.symm
  go_upto_region 8 with fail
  have y1 : ∀ p : Kin w2, p.u.cell? ⟨pb, po + j * 2 + 1, none⟩ = some (.int .i64 n) := fun p => (HPC.out p.u (nwT HBX.out p.h)).2
  have y2 : ∀ p : Kin w2, p.u.cell? ⟨G, k * 4 + 1, none⟩ = some (.int .i64 sz) := fun p => (HCL.out p.u p.h).1.1
  cases tb
  case false =>
    have HE : Hid (R = (1, [])) := by
      show _ = _
      rw [← HGC.out, giv_none (by rw [HPL.out]; rfl), HPL.out]; rfl
    refine wp_region_kin (by kernel_rfl) (by kernel_rfl) ?_
    repeat (first | go_big_quiet_step (first | (go_at_call 24; exact Calls.kin_same (HNM.out _)) | fail) | quiet_step (first | (go_at_call 24; exact Calls.kin_same (HNM.out _)) | fail))
    refine wpQuiet_nil ?_
    intro _ hw'
    obtain ⟨pq, hw''⟩ := hw'
    subst hw''
    have HBP : Hid (Below w.heap.size w pq.u) := nwT HBX.out pq.h
    go_wp2_with fail
    go_ret2
    exact ⟨⟨_, by rw [HE.out]; rfl, by rw [HE.out]; exact ownD_nil _ _⟩, HBP.out⟩

  case true =>
  have HN01 : Hid (0 ≤ n ∧ n < 64) := by
    have := HTH.out
    unfold numB at this
    have h := this.symm
    simp only [Bool.and_eq_true, decide_eq_true_eq] at h
    show _ ∧ _
    omega
  refine wp_region_kin (by kernel_rfl) (by kernel_rfl) ?_
  repeat (first | go_big_quiet_step (first | (go_at_call 24; exact Calls.kin_same (HNM.out _)) | fail) | quiet_step (first | (go_at_call 24; exact Calls.kin_same (HNM.out _)) | fail))
  refine wpQuiet_nil ?_
  intro _ hw'
  obtain ⟨pq0, hw''⟩ := hw'
  subst hw''
  have HBW : Hid (Below w2.heap.size w2 pq0.u) := pq0.h
  clear y1 y2 HNM e1
  generalize pq0.u = w3 at HBW
  have HBX3 : Hid (Below w.heap.size w w3) := nwT HBX.out HBW.out
  go_upto_region 10 with fail
  have y1 : ∀ p : Kin w3, p.u.cell? ⟨pb, po + j * 2 + 1, none⟩ = some (.int .i64 n) := fun p => (HPC.out p.u (nwT HBX3.out p.h)).2
  have y2 : ∀ p : Kin w3, p.u.cell? ⟨G, k * 4 + 2, none⟩ = some (.slice af nf cf) := fun p => (HCL.out p.u (nwT HBW.out p.h)).1.2.1
  have y3 : ∀ p : Kin w3, p.u.cell? ⟨G, k * 4 + 3, none⟩ = some (.slice al nn cl) := fun p => (HCL.out p.u (nwT HBW.out p.h)).1.2.2
  have HHF : Hid (∀ p : Kin w3, Calls Try.prog 50 #[.slice af nf cf, .int .i64 n] p.u fun e w'' => e = .returned (.bool fb) ∧ Below p.u.heap.size p.u w'') := fun p => HHF1.out p.u (nwT HBW.out p.h)
  have HHL : Hid (∀ p : Kin w3, Calls Try.prog 50 #[.slice al nn cl, .int .i64 n] p.u fun e w'' => e = .returned (.bool lb) ∧ Below p.u.heap.size p.u w'') := fun p => HHL1.out p.u (nwT HBW.out p.h)
  cases fb
  case true =>
    have HE : Hid (R = (4, [])) := by
      have hu : ub = false := by rw [HUB.out]; rfl
      show _ = _
      rw [← HGC.out, giv_none (by rw [HPL.out, hu]; rfl), HPL.out, hu]; rfl
    refine wp_region_kin (by kernel_rfl) (by kernel_rfl) ?_
    repeat (first | go_big_quiet_step (first | (go_at_call 50; first | with_reducible exact Calls.kin_of (HHF.out _) | with_reducible exact Calls.kin_of (HHL.out _)) | fail) | quiet_step (first | (go_at_call 50; first | with_reducible exact Calls.kin_of (HHF.out _) | with_reducible exact Calls.kin_of (HHL.out _)) | fail))
    refine wpQuiet_nil ?_
    intro _ hw'
    obtain ⟨pq, hw''⟩ := hw'
    subst hw''
    have HBP : Hid (Below w.heap.size w pq.u) := nwT HBX3.out pq.h
    go_wp2_with fail
    go_ret2
    exact ⟨⟨_, by rw [HE.out]; rfl, by rw [HE.out]; exact ownD_nil _ _⟩, HBP.out⟩

  case false =>
  cases lb
  case true =>
    have HE : Hid (R = (4, [])) := by
      have hu : ub = false := by rw [HUB.out]; rfl
      show _ = _
      rw [← HGC.out, giv_none (by rw [HPL.out, hu]; rfl), HPL.out, hu]; rfl
    refine wp_region_kin (by kernel_rfl) (by kernel_rfl) ?_
    repeat (first | go_big_quiet_step (first | (go_at_call 50; first | with_reducible exact Calls.kin_of (HHF.out _) | with_reducible exact Calls.kin_of (HHL.out _)) | fail) | quiet_step (first | (go_at_call 50; first | with_reducible exact Calls.kin_of (HHF.out _) | with_reducible exact Calls.kin_of (HHL.out _)) | fail))
    refine wpQuiet_nil ?_
    intro _ hw'
    obtain ⟨pq, hw''⟩ := hw'
    subst hw''
    have HBP : Hid (Below w.heap.size w pq.u) := nwT HBX3.out pq.h
    go_wp2_with fail
    go_ret2
    exact ⟨⟨_, by rw [HE.out]; rfl, by rw [HE.out]; exact ownD_nil _ _⟩, HBP.out⟩

  case false =>
  have HNXT : Hid (givN (givD x k n) (ps.drop (j + 1)) = R) ∧ Hid (GvInv ds (givD x k n)) := ⟨by
    have hu : ub = true := by rw [HUB.out]; rfl
    show _ = _
    rw [← HGC.out, giv_some (k := k) (by rw [HPL.out, hu]; rfl)], HGI⟩
  have HNXT : Hid (Hid (givN (givD x k n) (ps.drop (j + 1)) = R) ∧ Hid (GvInv ds (givD x k n))) := HNXT
  refine wp_region_kin (by kernel_rfl) (by kernel_rfl) ?_
  repeat (first | go_big_quiet_step (first | (go_at_call 50; first | with_reducible exact Calls.kin_of (HHF.out _) | with_reducible exact Calls.kin_of (HHL.out _)) | fail) | quiet_step (first | (go_at_call 50; first | with_reducible exact Calls.kin_of (HHF.out _) | with_reducible exact Calls.kin_of (HHL.out _)) | fail))
  refine wpQuiet_nil ?_
  intro _ hw'
  obtain ⟨pq1, hw''⟩ := hw'
  subst hw''
  have HBV : Hid (Below w2.heap.size w2 pq1.u) := nwT HBW.out pq1.h
  clear y1 y2 y3 HHF HHL
  generalize pq1.u = W at HBV
  have HBXW : Hid (Below w.heap.size w W) := nwT HBX.out HBV.out
  have HJ : Hid (Calls Try.prog 49 #[.slice al nn cl, .slice (some ⟨W.heap.size, 0, none⟩) 1 1, .int .i64 0] (W.drew.alloc (.cells #[.int .i64 n, .int .i64 1] 67)) fun e w'' => (∃ v, e = .returned v ∧ OwnSegs w'' w.heap.size v nl) ∧ Below W.heap.size W w'') := HJ0.out (by have := HN01.out; simp [vOk, validFrom, mayB]; omega) W HBV.out
  have HFIN : Hid (∀ wD v1, Below W.heap.size W wD → OwnSegs wD w.heap.size v1 nl → OwnDevs (wD.setCell ⟨G, k * 4 + 3, none⟩ v1) w.heap.size (.slice (some ⟨G, 0, none⟩) ds.length c1) (givD x k n) ∧ Below w.heap.size w (wD.setCell ⟨G, k * 4 + 3, none⟩ v1)) := fun wD v1 h => HFIN0.out wD v1 (nwT HBV.out h)
  obtain ⟨⟨_, _, c3⟩, htag⟩ := HCL.out W HBV.out
  have hS : StH W G (fun o => o = k * 4 + 3) W := stH_start htag
  have y3 : ∀ w', StH W G (fun o => o = k * 4 + 3) w' → ∃ u', w'.cell? ⟨G, k * 4 + 3, none⟩ = some u' := fun w' h => h.some c3
  have yf : ∀ w', StH W G (fun o => o = k * 4 + 3) w' → ∀ o, w'.frozen? ⟨G, o, none⟩ = false := fun w' h o => h.frz o
  have z11 : ∀ w', StH W G (fun o => o = k * 4 + 3) w' → w'.cell? ⟨pb, po + j * 2 + 1, none⟩ = some (.int .i64 n) := fun w' h => ((gb_below h.gr HGB.out.1 HBXW.out.size).cell (p := ⟨pb, po + j * 2 + 1, none⟩) hpb).trans (HPC.out W HBXW.out).2
  have HSET : Hid (∀ w' v, StH W G (fun o => o = k * 4 + 3) w' → StH W G (fun o => o = k * 4 + 3) (w'.setCell ⟨G, k * 4 + 3, none⟩ v)) := fun w' v h => h.set _ rfl v
  have c3d : W.drew.cell? ⟨G, k * 4 + 3, none⟩ = some (.slice al nn cl) := c3
  have c3a : (W.drew.alloc (.cells #[.int .i64 n, .int .i64 1] 67)).cell? ⟨G, k * 4 + 3, none⟩ = some (.slice al nn cl) := (HCL.out _ (nwT HBV.out (nwA (Below.drew (nwR W)) _))).1.2.2
  have c3b : (W.alloc (.cells #[.int .i64 n, .int .i64 1] 67)).cell? ⟨G, k * 4 + 3, none⟩ = some (.slice al nn cl) := (HCL.out _ (nwT HBV.out (nwA (nwR W) _))).1.2.2
  clear c3 htag HJ0 HFIN0
  go_upto_region 12 with fail
  refine wp_region_held_drew (S := fun w' => StH W G (fun o => o = k * 4 + 3) w') (by kernel_rfl) (by first | assumption | exact StH.drew (by assumption) | exact StH.below (by assumption) (by assumption) | exact StH.alloc (by assumption) _ | exact HSET.out _ _ (by assumption)) (fun hHeld => ?_)
  refine takeYes 0 (some 62) (v := ?_) rfl (by kernel_rfl) (by kernel_rfl) (by kernel_rfl) (by rfl) (fun _ _ _ h => h) (by rfl) ?_ (by assumption) ?_
  rotate_left
  · intro w hSw; (try dsimp only at hSw); go_simp; try with_reducible rfl
  try simp only [Act.put, List.setIfInBounds_toArray, List.set_cons_zero, List.set_cons_succ]
  refine takeYes 1 (some 63) (v := ?_) rfl (by kernel_rfl) (by kernel_rfl) (by kernel_rfl) (by rfl) (fun _ _ _ h => h) (by rfl) ?_ (by assumption) ?_
  rotate_left
  · intro w hSw; (try dsimp only at hSw); go_simp; try with_reducible rfl
  try simp only [Act.put, List.setIfInBounds_toArray, List.set_cons_zero, List.set_cons_succ]
  refine takeYes 2 (some 64) (v := ?_) rfl (by kernel_rfl) (by kernel_rfl) (by kernel_rfl) (by rfl) (fun _ _ _ h => h) (by rfl) ?_ (by assumption) ?_
  rotate_left
  · intro w hSw; (try dsimp only at hSw); go_simp; try with_reducible rfl
  try simp only [Act.put, List.setIfInBounds_toArray, List.set_cons_zero, List.set_cons_succ]
  refine takeYes 3 (some 65) (v := ?_) rfl (by kernel_rfl) (by kernel_rfl) (by kernel_rfl) (by rfl) (fun _ _ _ h => h) (by rfl) ?_ (by assumption) ?_
  rotate_left
  · intro w hSw; (try dsimp only at hSw); go_simp; try with_reducible rfl
  try simp only [Act.put, List.setIfInBounds_toArray, List.set_cons_zero, List.set_cons_succ]
  refine takeYes 4 (some 66) (v := ?_) rfl (by kernel_rfl) (by kernel_rfl) (by kernel_rfl) (by rfl) (fun _ _ _ h => h) (by rfl) ?_ (by assumption) ?_
  rotate_left
  · intro w hSw; (try dsimp only at hSw); go_simp; try with_reducible rfl
  try simp only [Act.put, List.setIfInBounds_toArray, List.set_cons_zero, List.set_cons_succ]
  refine takeYes 5 (some 67) (v := ?_) rfl (by kernel_rfl) (by kernel_rfl) (by kernel_rfl) (by rfl) (fun _ _ _ h => h) (by rfl) ?_ (by assumption) ?_
  rotate_left
  · intro w hSw; (try dsimp only at hSw); go_simp; try with_reducible rfl
  try simp only [Act.put, List.setIfInBounds_toArray, List.set_cons_zero, List.set_cons_succ]
  refine takeYes 7 (some 69) (v := ?_) rfl (by kernel_rfl) (by kernel_rfl) (by kernel_rfl) (by rfl) (fun _ _ _ h => h) (by rfl) ?_ (by assumption) ?_
  rotate_left
  · intro w hSw; (try dsimp only at hSw); go_simp; try with_reducible rfl
  try simp only [Act.put, List.setIfInBounds_toArray, List.set_cons_zero, List.set_cons_succ]
  refine takeYes 8 (some 70) (v := ?_) rfl (by kernel_rfl) (by kernel_rfl) (by kernel_rfl) (by rfl) (fun _ _ _ h => h) (by rfl) ?_ (by assumption) ?_
  rotate_left
  · intro w hSw; (try dsimp only at hSw); go_simp; try with_reducible rfl
  try simp only [Act.put, List.setIfInBounds_toArray, List.set_cons_zero, List.set_cons_succ]
  refine takeYes 9 (some 71) (v := ?_) rfl (by kernel_rfl) (by kernel_rfl) (by kernel_rfl) (by rfl) (fun _ _ _ h => h) (by rfl) ?_ (by assumption) ?_
  rotate_left
  · intro w hSw; (try dsimp only at hSw); go_simp; try with_reducible rfl
  try simp only [Act.put, List.setIfInBounds_toArray, List.set_cons_zero, List.set_cons_succ]
  refine takeYes 10 (some 72) (v := ?_) rfl (by kernel_rfl) (by kernel_rfl) (by kernel_rfl) (by rfl) (fun _ _ _ h => h) (by rfl) ?_ (by assumption) ?_
  rotate_left
  · intro w hSw; (try dsimp only at hSw); go_simp; try with_reducible rfl
  try simp only [Act.put, List.setIfInBounds_toArray, List.set_cons_zero, List.set_cons_succ]
  refine takeYes 11 (some 73) (v := ?_) rfl (by kernel_rfl) (by kernel_rfl) (by kernel_rfl) (by rfl) (fun _ _ _ h => h) (by rfl) ?_ (by assumption) ?_
  rotate_left
  · intro w hSw; (try dsimp only at hSw); go_simp; try with_reducible rfl
  try simp only [Act.put, List.setIfInBounds_toArray, List.set_cons_zero, List.set_cons_succ]
  refine takeYes 12 (some 74) (v := ?_) rfl (by kernel_rfl) (by kernel_rfl) (by kernel_rfl) (by rfl) (fun _ _ _ h => h) (by rfl) ?_ (by assumption) ?_
  rotate_left
  · intro w hSw; (try dsimp only at hSw); go_simp; try with_reducible rfl
  try simp only [Act.put, List.setIfInBounds_toArray, List.set_cons_zero, List.set_cons_succ]
  refine wpAnyH_ready (rs := [6, 13]) (by kernel_rfl) (by simp) ?_
  refine AllReadyH.cons rfl (fun K hK => ?_) (AllReadyH.cons rfl (fun K hK => ?_) AllReadyH.nil)
  ·
    go_simp
    refine hK.out _ _ (by first | assumption | exact StH.drew (by assumption) | exact StH.below (by assumption) (by assumption) | exact StH.alloc (by assumption) _ | exact HSET.out _ _ (by assumption)) (fun hHeld => ?_)
    clear hK K
    try simp only [Act.put, List.setIfInBounds_toArray, List.set_cons_zero, List.set_cons_succ]
    refine wpAnyH_ready (rs := [13]) (by kernel_rfl) (by simp) ?_
    refine AllReadyH.cons rfl (fun K hK => ?_) AllReadyH.nil
    go_simp
    refine hK.out _ _ (by first | assumption | exact StH.drew (by assumption) | exact StH.below (by assumption) (by assumption) | exact StH.alloc (by assumption) _ | exact HSET.out _ _ (by assumption)) (fun hHeld => ?_)
    clear hK K
    try simp only [Act.put, List.setIfInBounds_toArray, List.set_cons_zero, List.set_cons_succ]
    refine wpAnyH_ready (rs := [14]) (by kernel_rfl) (by simp) ?_
    refine AllReadyH.cons rfl (fun K hK => ?_) AllReadyH.nil
    go_simp
    (go_at_call 49; refine HJ.out.mono ?_; rintro e wC ⟨⟨v1, rfl, ho1⟩, hbC⟩; obtain ⟨a1', c1', rfl, _⟩ := ho1.segV; have HUC : Hid (Below W.heap.size W wC) := hbC; have HOV : Hid (OwnSegs wC w.heap.size (.slice a1' nl.length c1') nl) := ho1; have hSD : StH W G (fun o => o = k * 4 + 3) wC := StH.below hS hbC; obtain ⟨yu3, yk3⟩ := y3 wC hSD; have ykf := yf wC hSD)
    refine hK.out _ _ (by first | assumption | exact StH.drew (by assumption) | exact StH.below (by assumption) (by assumption) | exact StH.alloc (by assumption) _ | exact HSET.out _ _ (by assumption)) (fun hHeld => ?_)
    clear hK K
    try simp only [Act.put, List.setIfInBounds_toArray, List.set_cons_zero, List.set_cons_succ]
    refine takeYes 15 (some 77) (v := ?_) rfl (by kernel_rfl) (by kernel_rfl) (by kernel_rfl) (by rfl) (fun _ _ _ h => h) (by rfl) ?_ (by assumption) ?_
    rotate_left
    · intro w hSw; (try dsimp only at hSw); go_simp; try with_reducible rfl
    try simp only [Act.put, List.setIfInBounds_toArray, List.set_cons_zero, List.set_cons_succ]
    refine takeYes 16 (some 78) (v := ?_) rfl (by kernel_rfl) (by kernel_rfl) (by kernel_rfl) (by rfl) (fun _ _ _ h => h) (by rfl) ?_ (by assumption) ?_
    rotate_left
    · intro w hSw; (try dsimp only at hSw); go_simp; try with_reducible rfl
    try simp only [Act.put, List.setIfInBounds_toArray, List.set_cons_zero, List.set_cons_succ]
    refine wpAnyH_ready (rs := [17]) (by kernel_rfl) (by simp) ?_
    refine AllReadyH.cons rfl (fun K hK => ?_) AllReadyH.nil
    go_simp
    refine hK.out _ _ (by first | assumption | exact StH.drew (by assumption) | exact StH.below (by assumption) (by assumption) | exact StH.alloc (by assumption) _ | exact HSET.out _ _ (by assumption)) (fun hHeld => ?_)
    clear hK K
    try simp only [Act.put, List.setIfInBounds_toArray, List.set_cons_zero, List.set_cons_succ]
    refine wpAnyH_done (by kernel_rfl) ?_ _
    have HRES := HFIN.out _ _ HUC.out HOV.out
    have HRH : Hid (OwnDevs (wC.setCell ⟨G, k * 4 + 3, none⟩ (.slice a1' nl.length c1')) w.heap.size (.slice (some ⟨G, 0, none⟩) ds.length c1) (givD x k n) ∧ Below w.heap.size w (wC.setCell ⟨G, k * 4 + 3, none⟩ (.slice a1' nl.length c1'))) := HRES
    clear HRES y3 yf c3d c3a c3b z11 yk3 ykf
    go_wp2_with fail
    go_roundw
    case rel => exact ⟨j + 1, givD x k n, by omega, by go_num, HNXT.out.1, HNXT.out.2, HRH.out.1, HRH.out.2⟩
    case measure => simp [intOf]; omega

  ·
    go_simp
    refine hK.out _ _ (by first | assumption | exact StH.drew (by assumption) | exact StH.below (by assumption) (by assumption) | exact StH.alloc (by assumption) _ | exact HSET.out _ _ (by assumption)) (fun hHeld => ?_)
    clear hK K
    try simp only [Act.put, List.setIfInBounds_toArray, List.set_cons_zero, List.set_cons_succ]
    refine wpAnyH_ready (rs := [6]) (by kernel_rfl) (by simp) ?_
    refine AllReadyH.cons rfl (fun K hK => ?_) AllReadyH.nil
    go_simp
    refine hK.out _ _ (by first | assumption | exact StH.drew (by assumption) | exact StH.below (by assumption) (by assumption) | exact StH.alloc (by assumption) _ | exact HSET.out _ _ (by assumption)) (fun hHeld => ?_)
    clear hK K
    try simp only [Act.put, List.setIfInBounds_toArray, List.set_cons_zero, List.set_cons_succ]
    refine wpAnyH_ready (rs := [14]) (by kernel_rfl) (by simp) ?_
    refine AllReadyH.cons rfl (fun K hK => ?_) AllReadyH.nil
    go_simp
    (go_at_call 49; refine HJ.out.mono ?_; rintro e wC ⟨⟨v1, rfl, ho1⟩, hbC⟩; obtain ⟨a1', c1', rfl, _⟩ := ho1.segV; have HUC : Hid (Below W.heap.size W wC) := hbC; have HOV : Hid (OwnSegs wC w.heap.size (.slice a1' nl.length c1') nl) := ho1; have hSD : StH W G (fun o => o = k * 4 + 3) wC := StH.below hS hbC; obtain ⟨yu3, yk3⟩ := y3 wC hSD; have ykf := yf wC hSD)
    refine hK.out _ _ (by first | assumption | exact StH.drew (by assumption) | exact StH.below (by assumption) (by assumption) | exact StH.alloc (by assumption) _ | exact HSET.out _ _ (by assumption)) (fun hHeld => ?_)
    clear hK K
    try simp only [Act.put, List.setIfInBounds_toArray, List.set_cons_zero, List.set_cons_succ]
    refine takeYes 15 (some 77) (v := ?_) rfl (by kernel_rfl) (by kernel_rfl) (by kernel_rfl) (by rfl) (fun _ _ _ h => h) (by rfl) ?_ (by assumption) ?_
    rotate_left
    · intro w hSw; (try dsimp only at hSw); go_simp; try with_reducible rfl
    try simp only [Act.put, List.setIfInBounds_toArray, List.set_cons_zero, List.set_cons_succ]
    refine takeYes 16 (some 78) (v := ?_) rfl (by kernel_rfl) (by kernel_rfl) (by kernel_rfl) (by rfl) (fun _ _ _ h => h) (by rfl) ?_ (by assumption) ?_
    rotate_left
    · intro w hSw; (try dsimp only at hSw); go_simp; try with_reducible rfl
    try simp only [Act.put, List.setIfInBounds_toArray, List.set_cons_zero, List.set_cons_succ]
    refine wpAnyH_ready (rs := [17]) (by kernel_rfl) (by simp) ?_
    refine AllReadyH.cons rfl (fun K hK => ?_) AllReadyH.nil
    go_simp
    refine hK.out _ _ (by first | assumption | exact StH.drew (by assumption) | exact StH.below (by assumption) (by assumption) | exact StH.alloc (by assumption) _ | exact HSET.out _ _ (by assumption)) (fun hHeld => ?_)
    clear hK K
    try simp only [Act.put, List.setIfInBounds_toArray, List.set_cons_zero, List.set_cons_succ]
    refine wpAnyH_done (by kernel_rfl) ?_ _
    have HRES := HFIN.out _ _ HUC.out HOV.out
    have HRH : Hid (OwnDevs (wC.setCell ⟨G, k * 4 + 3, none⟩ (.slice a1' nl.length c1')) w.heap.size (.slice (some ⟨G, 0, none⟩) ds.length c1) (givD x k n) ∧ Below w.heap.size w (wC.setCell ⟨G, k * 4 + 3, none⟩ (.slice a1' nl.length c1'))) := HRES
    clear HRES y3 yf c3d c3a c3b z11 yk3 ykf
    go_wp2_with fail
    go_roundw
    case rel => exact ⟨j + 1, givD x k n, by omega, by go_num, HNXT.out.1, HNXT.out.2, HRH.out.1, HRH.out.2⟩
    case measure => simp [intOf]; omega

end Go.Proofs.Ytheomnafmjmpdaa

/- Devices written over, by the law. -/
namespace Go.Proofs.Ytheomnafmjmpdaa
open Go.RowKit

/-- what is written over: segments of one's own, and nothing else -/
structure Kp (base top : Nat) (w w' : World) : Prop where
  bel : Below base w w'
  up : ∀ k, top ≤ k → k < w.heap.size → w'.heap[k]? = w.heap[k]?
  segs : ∀ (g : Nat) (cur : Array Value), w.heap[g]? = some (.cells cur 67 (0, 0)) → ∃ cur' : Array Value, w'.heap[g]? = some (.cells cur' 67 (0, 0)) ∧ cur'.size = cur.size
  other : ∀ (g : Nat) (cur : Array Value) (t : TypeId) (fz : Nat × Nat), w.heap[g]? = some (.cells cur t fz) → t ≠ 67 → w'.heap[g]? = some (.cells cur t fz)
theorem Kp.refl (base top : Nat) (w : World) : Kp base top w w := ⟨Below.refl _ _, fun _ _ _ => rfl, fun _ cur h => ⟨cur, h, rfl⟩, fun _ _ _ _ h _ => h⟩
theorem Kp.trans {base top : Nat} {w w' w2 : World} (h : Kp base top w w') (h2 : Kp base top w' w2) : Kp base top w w2 :=
  ⟨h.bel.trans h2.bel, fun k h1 h3 => (h2.up k h1 (Nat.lt_of_lt_of_le h3 h.bel.size)).trans (h.up k h1 h3), fun g cur hg => by
    obtain ⟨c1, e1, s1⟩ := h.segs g cur hg
    obtain ⟨c2, e2, s2⟩ := h2.segs g c1 e1
    exact ⟨c2, e2, s2.trans s1⟩, fun g cur t fz hg ht => h2.other g cur t fz (h.other g cur t fz hg ht) ht⟩
theorem Kp.set {base top g o : Nat} {w : World} {cur : Array Value} (hg : w.heap[g]? = some (.cells cur 67 (0, 0))) (hb : base ≤ g) (ht : g < top) (u : Value) : Kp base top w (w.setCell ⟨g, o, none⟩ u) := by
  refine ⟨(Below.refl _ _).setCell (p := ⟨g, o, none⟩) hb _, fun k h1 h2 => heap_setCell_other w ⟨g, o, none⟩ k u (by show k ≠ g; omega), fun g' cur' hg' => ?_, fun g' cur' t fz hg' ht' => ?_⟩
  · by_cases e : g' = g
    · subst e
      rw [hg] at hg'
      injection hg' with hg'
      injection hg' with hg' _ _
      subst hg'
      exact ⟨_, heap_setCell_same w g' o _ 67 u hg, by simp⟩
    · exact ⟨cur', (heap_setCell_other w ⟨g, o, none⟩ g' u e).trans hg', rfl⟩
  · refine (heap_setCell_other w ⟨g, o, none⟩ g' u (fun e => ?_)).trans hg'
    subst e
    rw [hg] at hg'
    injection hg' with hg'
    injection hg' with _ h2 _
    exact ht' h2.symm
def RowX (w : World) (base top : Nat) (a : Option Addr) (n : Nat) : Prop := n ≤ 1000 ∧ (n = 0 ∨ ∃ g cur, a = some ⟨g, 0, none⟩ ∧ (base ≤ g ∧ g < top) ∧ w.heap[g]? = some (.cells cur 67 (0, 0)) ∧ n * 2 ≤ cur.size)
theorem RowX.kp {w w' : World} {base top : Nat} {a : Option Addr} {n : Nat} (h : RowX w base top a n) (hk : Kp base top w w') : RowX w' base top a n := by
  refine ⟨h.1, ?_⟩
  rcases h.2 with h0 | ⟨g, cur, h1, h2, h3, h4⟩
  · exact .inl h0
  · obtain ⟨c', e, s⟩ := hk.segs g cur h3
    exact .inr ⟨g, c', h1, h2, e, by omega⟩
theorem RowX.tag {w : World} {base top : Nat} {a : Option Addr} {n G : Nat} {cur : Array Value} {t : TypeId} (h : RowX w base top a n) (hG : w.heap[G]? = some (.cells cur t (0, 0))) (ht : t ≠ 67) (o : Nat) (u : Value) : RowX (w.setCell ⟨G, o, none⟩ u) base top a n := by
  refine ⟨h.1, ?_⟩
  rcases h.2 with h0 | ⟨g, cur', h1, h2, h3, h4⟩
  · exact .inl h0
  · have hne : g ≠ G := fun e => by
      subst e
      rw [hG] at h3
      injection h3 with h3
      injection h3 with _ h3 _
      exact ht h3
    exact .inr ⟨g, cur', h1, h2, (heap_setCell_other w ⟨G, o, none⟩ g u hne).trans h3, h4⟩
theorem RowX.of_own {w : World} {base : Nat} {a : Option Addr} {c : Nat} {l : List (Int × Int)} (h : OwnSegs w base (.slice a l.length c) l) (hl : l.length ≤ 1000) : RowX w base w.heap.size a l.length := by
  refine ⟨hl, ?_⟩
  rcases h.2 with ⟨_, h1⟩ | ⟨g, cap, cur, hv, hb, hh, hnc, _, hcs, _⟩
  · exact .inl h1
  · injection hv with h1 _ _
    subst h1
    exact .inr ⟨g, cur, rfl, ⟨hb, (Array.getElem?_eq_some_iff.1 hh).1⟩, hh, by rw [hcs]; exact Nat.mul_le_mul_right _ hnc⟩

set_option maxRecDepth 100000 in
set_option maxHeartbeats 1000000 in
theorem spoil_weak (a : Option Addr) (n c base top : Nat) (w : World) (h : RowX w base top a n) :
    Calls Try.prog 55 #[.slice a n c] w fun e w' => e = .returned (.tuple #[]) ∧ Kp base top w w' := by
  have hl := h.1
  rcases h.2 with rfl | ⟨g, cur, rfl, hbg, hg, hc⟩
  · go_enter Try.func55, Try.ntmps55
    go_wp2_with fail
    go_loopw [2] (fun i wr => i = .int .i64 0 ∧ wr = w) (fun _ _ => 0)
    case atStart => exact ⟨rfl, rfl⟩
    case round =>
      obtain ⟨rfl, rfl⟩ := hrel
      go_wp2_with fail
      go_end0
      exact ⟨rfl, Kp.refl _ _ _⟩
  · have HG : Hid (w.heap[g]? = some (.cells cur 67 (0, 0))) := hg
    have HBG : Hid (base ≤ g ∧ g < top) := hbg
    clear h hg hbg
    go_enter Try.func55, Try.ntmps55
    go_wp2_with fail
    go_loopw [2] (fun i wr => ∃ (k : Nat), k ≤ n ∧ i = .int .i64 k ∧ Hid (Kp base top w wr)) (fun i _ => n - (intOf i).toNat)
    case atStart => exact ⟨0, by omega, rfl, Kp.refl _ _ _⟩
    case round =>
      obtain ⟨k, hk, rfl, HK⟩ := hrel
      by_cases hlt : k < n
      · have hlti : (k : Int) < (n : Int) := by omega
        have hk0 : (0 : Int) ≤ (k : Int) := by omega
        obtain ⟨c1, e1, s1⟩ := HK.out.segs g cur HG.out
        have q0 : wr.cell? ⟨g, k * 2, none⟩ = some (c1[k * 2]'(by omega)) := by rw [Lib.cell_of_heap e1]; exact Array.getElem?_eq_getElem (by omega)
        have q1 : wr.cell? ⟨g, k * 2 + 1, none⟩ = some (c1[k * 2 + 1]'(by omega)) := by rw [Lib.cell_of_heap e1]; exact Array.getElem?_eq_getElem (by omega)
        have f0 : wr.frozen? ⟨g, k * 2, none⟩ = false := Lib.frozen_of_heap e1 _
        have f1 : wr.frozen? ⟨g, k * 2 + 1, none⟩ = false := Lib.frozen_of_heap e1 _
        have HK2 : Hid (Kp base top w ((wr.setCell ⟨g, k * 2, none⟩ (.int .i64 (-9))).setCell ⟨g, k * 2 + 1, none⟩ (.int .i64 0))) := (HK.out.trans (Kp.set e1 HBG.out.1 HBG.out.2 _)).trans (Kp.set (heap_setCell_same wr g (k * 2) _ 67 _ e1) HBG.out.1 HBG.out.2 _)
        generalize c1[k * 2]'(by omega) = z0 at q0
        generalize c1[k * 2 + 1]'(by omega) = z1 at q1
        clear e1 s1 HK
        go_wp2_with fail
        go_roundw
        case rel => exact ⟨k + 1, by omega, by go_num, HK2⟩
        case measure => simp [intOf]; omega
      · have hlti : ¬ (k : Int) < (n : Int) := by omega
        go_wp2_with fail
        go_end0
        exact ⟨rfl, HK.out⟩

/-- what of the devices is not yet written over -/
def DevsX (w : World) (base top G n i : Nat) : Prop := ∃ cur, w.heap[G]? = some (.cells cur 51 (0, 0)) ∧ n * 4 ≤ cur.size ∧ ∀ j, i ≤ j → j < n → ∃ fa nf fc la nl lc, cur[j * 4 + 2]? = some (.slice fa nf fc) ∧ cur[j * 4 + 3]? = some (.slice la nl lc) ∧ RowX w base top fa nf ∧ RowX w base top la nl
theorem four_ne {cur : Array Value} {a b c d j : Nat} {v0 v1 v2 v3 : Value} (h0 : a ≠ j) (h1 : b ≠ j) (h2 : c ≠ j) (h3 : d ≠ j) : ((((cur.setIfInBounds a v0).setIfInBounds b v1).setIfInBounds c v2).setIfInBounds d v3)[j]? = cur[j]? := by
  rw [Array.getElem?_setIfInBounds_ne h3, Array.getElem?_setIfInBounds_ne h2, Array.getElem?_setIfInBounds_ne h1, Array.getElem?_setIfInBounds_ne h0]
theorem DevsX.set {w : World} {base top G n i : Nat} {v0 v1 v2 v3 : Value} (h : DevsX w base top G n i) :
    DevsX ((((w.setCell ⟨G, i * 4, none⟩ v0).setCell ⟨G, i * 4 + 1, none⟩ v1).setCell ⟨G, i * 4 + 2, none⟩ v2).setCell ⟨G, i * 4 + 3, none⟩ v3) base top G n (i + 1) := by
  obtain ⟨cur, hg, hc, ha⟩ := h
  have e1 := heap_setCell_same w G (i * 4) _ 51 v0 hg
  have e2 := heap_setCell_same _ G (i * 4 + 1) _ 51 v1 e1
  have e3 := heap_setCell_same _ G (i * 4 + 2) _ 51 v2 e2
  have e4 := heap_setCell_same _ G (i * 4 + 3) _ 51 v3 e3
  refine ⟨_, e4, by simpa using hc, fun j hj1 hj2 => ?_⟩
  obtain ⟨fa, nf, fc, la, nl, lc, c2, c3, hf, hl⟩ := ha j (by omega) hj2
  refine ⟨fa, nf, fc, la, nl, lc, ?_, ?_, (((hf.tag hg (by decide) _ _).tag e1 (by decide) _ _).tag e2 (by decide) _ _).tag e3 (by decide) _ _, (((hl.tag hg (by decide) _ _).tag e1 (by decide) _ _).tag e2 (by decide) _ _).tag e3 (by decide) _ _⟩
  all_goals
    rw [four_ne (by omega) (by omega) (by omega) (by omega)]
    assumption
theorem DevsX.kp {w w' : World} {base top G n i : Nat} (h : DevsX w base top G n i) (hk : Kp base top w w') : DevsX w' base top G n i := by
  obtain ⟨cur, hg, hc, ha⟩ := h
  refine ⟨cur, hk.other _ _ _ _ hg (by decide), hc, fun j hj1 hj2 => ?_⟩
  obtain ⟨fa, nf, fc, la, nl, lc, c2, c3, hf, hl⟩ := ha j hj1 hj2
  exact ⟨fa, nf, fc, la, nl, lc, c2, c3, hf.kp hk, hl.kp hk⟩
theorem DevsX.of_own {w : World} {base g cap : Nat} {ds : List DevD} (h : OwnDevs w base (.slice (some ⟨g, 0, none⟩) ds.length cap) ds) (hs : SmallL ds) : DevsX w base w.heap.size g ds.length 0 ∧ base ≤ g ∧ g < w.heap.size := by
  obtain ⟨gs, hgs, hrow, hall⟩ := id h
  have hl : gs.length = ds.length := by rw [← hgs, List.length_map]
  obtain ⟨cur, hg⟩ := own_tag hrow g rfl
  have hbg := (World.ownsRow.lt hrow g rfl).1
  refine ⟨⟨cur, hg, ?_, fun j _ hj => ?_⟩, hbg, (Array.getElem?_eq_some_iff.1 hg).1⟩
  · rcases hrow.2 with ⟨h1, _⟩ | ⟨g', cap', cur', h1, _, h3, h4, _, h6, _⟩
    · simp at h1
    · simp only [Value.slice.injEq, Option.some.injEq, Addr.mk.injEq, and_true] at h1
      obtain ⟨rfl, _, rfl⟩ := h1
      rw [hg] at h3
      injection h3 with h3
      injection h3 with h3 _ _
      subst h3
      rw [h6, ← hl]; exact Nat.mul_le_mul_right _ h4
  · obtain ⟨af, cf, al, cl, cs, htag, _, _, _, c2, c3, hseg⟩ := h.dev rfl hj
    obtain ⟨h1, h2⟩ := hseg w (gbOf (nwR w) _)
    have hsm := hs.2 _ (getD_mem DZ hj)
    rw [Lib.cell_of_heap hg] at c2 c3
    exact ⟨af, _, cf, al, _, cl, c2, c3, RowX.of_own h1 hsm.1, RowX.of_own h2 hsm.2⟩

set_option maxRecDepth 100000 in
set_option maxHeartbeats 4000000 in
theorem devs_spoil (a : Option Addr) (n ca base top : Nat) (w : World) (ho : n = 0 ∨ ∃ G, a = some ⟨G, 0, none⟩ ∧ base ≤ G ∧ G < top ∧ DevsX w base top G n 0) (hn : n ≤ 1000) :
    Calls Try.prog 34 #[.slice a n ca] w fun e w' => e = .returned (.tuple #[]) ∧ Below base w w' ∧ ∀ k, top ≤ k → k < w.heap.size → w'.heap[k]? = w.heap[k]? := by
  rcases ho with rfl | ⟨G, rfl, hbG, hGt, hvx⟩
  · go_enter Try.func34, Try.ntmps34
    go_wp2_with fail
    go_loopw [2] (fun ii wr => ii = .int .i64 0 ∧ wr = w) (fun ii _ => 0)
    case atStart => exact ⟨rfl, rfl⟩
    case round =>
      obtain ⟨rfl, rfl⟩ := hrel
      go_wp2_with fail
      go_end0
      exact ⟨rfl, Below.refl _ _, fun _ _ _ => rfl⟩
  · have HVX : Hid (DevsX w base top G n 0) := hvx
    clear hvx
    go_enter Try.func34, Try.ntmps34
    go_wp2_with fail
    go_loopw [2] (fun ii wr => ∃ (i : Nat), i ≤ n ∧ ii = .int .i64 i ∧ Hid (Below base w wr ∧ ∀ k, top ≤ k → k < w.heap.size → wr.heap[k]? = w.heap[k]?) ∧ Hid (DevsX wr base top G n i)) (fun ii _ => n - (intOf ii).toNat)
    case atStart => exact ⟨0, by omega, rfl, ⟨Below.refl _ _, fun _ _ _ => rfl⟩, HVX⟩
    case round =>
      obtain ⟨i, hi, rfl, HBr, HVr⟩ := hrel
      by_cases hin : (i : Int) < (n : Int)
      case neg =>
        go_wp2_with fail
        go_end0
        exact ⟨rfl, HBr.out⟩
      case pos =>
      have hi0 : (0 : Int) ≤ (i : Int) := by omega
      obtain ⟨cur, hg, hc, ha⟩ := HVr.out
      obtain ⟨fa, nf, fc, la, nl, lc, c2, c3, hf, hl⟩ := ha i (Nat.le_refl _) (by omega)
      have HHG : Hid (wr.heap[G]? = some (.cells cur 51 (0, 0)) ∧ cur[i * 4 + 3]? = some (.slice la nl lc)) := ⟨hg, c3⟩
      rw [← Lib.cell_of_heap hg] at c2 c3
      have HL : Hid (RowX wr base top la nl) := hl
      have HSF : Hid (Calls Try.prog 55 #[.slice fa nf fc] wr fun e w' => e = .returned (.tuple #[]) ∧ Kp base top wr w') := spoil_weak fa nf fc base top wr hf
      clear hf hl ha hc hg c3
      go_wp2_with fail
      refine HSF.out.mono ?_
      rintro e w2 ⟨rfl, hk2⟩
      have HK2 : Hid (Kp base top wr w2) := hk2
      have d3 : w2.cell? ⟨G, i * 4 + 3, none⟩ = some (.slice la nl lc) := by rw [Lib.cell_of_heap (hk2.other _ _ _ _ HHG.out.1 (by decide))]; exact HHG.out.2
      have HSL : Hid (Calls Try.prog 55 #[.slice la nl lc] w2 fun e w' => e = .returned (.tuple #[]) ∧ Kp base top w2 w') := spoil_weak la nl lc base top w2 (HL.out.kp hk2)
      clear hk2 c2 HSF HL
      go_wp2_with fail
      refine HSL.out.mono ?_
      rintro e w3 ⟨rfl, hk3⟩
      have HK3 : Hid (Kp base top wr w3) := HK2.out.trans hk3
      have HV3 : Hid (DevsX w3 base top G n i) := HVr.out.kp HK3.out
      have HB3 : Hid (Below base w w3 ∧ ∀ k, top ≤ k → k < w.heap.size → w3.heap[k]? = w.heap[k]?) := ⟨HBr.out.1.trans HK3.out.bel, fun k h1 h2 => (HK3.out.up k h1 (Nat.lt_of_lt_of_le h2 HBr.out.1.size)).trans (HBr.out.2 k h1 h2)⟩
      obtain ⟨cur2, hg2, hc2, _⟩ := HV3.out
      have hcell : ∀ j, j < n * 4 → ∃ u, w3.cell? ⟨G, j, none⟩ = some u := fun j hj => ⟨cur2[j]'(by omega), by rw [Lib.cell_of_heap hg2]; exact Array.getElem?_eq_getElem (by omega)⟩
      obtain ⟨u0, y0⟩ := hcell (i * 4) (by omega)
      obtain ⟨u1, y1⟩ := hcell (i * 4 + 1) (by omega)
      obtain ⟨u2', y2⟩ := hcell (i * 4 + 2) (by omega)
      obtain ⟨u3, y3⟩ := hcell (i * 4 + 3) (by omega)
      have hff : ∀ j, w3.frozen? ⟨G, j, none⟩ = false := fun j => Lib.frozen_of_heap hg2 j
      clear hk3 HSL HVr HBr HK2 HK3 HHG hg2 hc2 hcell d3
      go_wp2_with fail
      go_roundw
      case rel =>
        refine ⟨i + 1, by omega, by go_num, ⟨(((HB3.out.1.setCell (p := ⟨G, i * 4, none⟩) hbG _).setCell (p := ⟨G, i * 4 + 1, none⟩) hbG _).setCell (p := ⟨G, i * 4 + 2, none⟩) hbG _).setCell (p := ⟨G, i * 4 + 3, none⟩) hbG _, fun k h1 h2 => ?_⟩, HV3.out.set⟩
        have hne : k ≠ G := by omega
        rw [heap_setCell_other _ ⟨G, i * 4 + 3, none⟩ _ _ hne, heap_setCell_other _ ⟨G, i * 4 + 2, none⟩ _ _ hne, heap_setCell_other _ ⟨G, i * 4 + 1, none⟩ _ _ hne, heap_setCell_other _ ⟨G, i * 4, none⟩ _ _ hne]
        exact HB3.out.2 k h1 h2
      case measure => simp [intOf]; omega

end Go.Proofs.Ytheomnafmjmpdaa

/- What holds behind an act, whichever it is. -/
namespace Go.Proofs.Ytheomnafmjmpdaa
open Go.RowKit

def withinN (i : Int) (k : Nat) : Nat := (i % 18446744073709551616 % (k : Int)).toNat
theorem law5_any (i : Int) (w : World) :
    Calls Try.prog 23 #[.int .i64 i, .int .i64 5] w fun e w' => e = .returned (.int .i64 (withinN i 5)) ∧ w' = w := by
  go_enter Try.func23, Try.ntmps23
  go_wp2
  go_ret
  refine ⟨ret_int ?_, rfl⟩
  unfold withinN
  rw [IntKind.wrap_u64, Int.tmod_eq_emod_of_nonneg (by omega)]
  unfold wrap64
  omega
theorem giv_small {ds : List DevD} (hok : DevsOk ds) : ∀ (r : List (Int × Int)) (y : List DevD), GvInv ds y → SmallL (givN y r).2
  | [], y, h => h.small hok
  | p :: r, y, h => by
    rw [givN]
    cases hp : (placeF y p.1 p.2).2 with
    | none => exact ⟨by simp, fun d hd => by simp at hd⟩
    | some k => exact giv_small hok r _ (h.step k p.2)
/-- devices that the writing over leaves as they are -/
def SafeD (w2 wx : World) (top : Nat) (aw : Option Addr) (x : List DevD) : Prop := ∀ w', Below w2.heap.size w2 w' → (∀ k, top ≤ k → k < wx.heap.size → w'.heap[k]? = wx.heap[k]?) → DevsAt w' aw x
structure StepJ (w2 : World) (x : List DevD) (p : List (Int × Int)) (ax aw ap ad : Option Addr) (wx : World) : Prop where
  below : Below w2.heap.size w2 wx
  small : SmallL x
  pl : p.length ≤ 100000
  pa : SegsAt wx ap p
  pd : SegsAt wx ad p
  own : ∃ top, w2.heap.size ≤ top ∧ top ≤ wx.heap.size ∧ DevsAt wx ax x ∧ (x.length = 0 ∨ ∃ G, ax = some ⟨G, 0, none⟩ ∧ w2.heap.size ≤ G ∧ G < top ∧ DevsX wx w2.heap.size top G x.length 0) ∧ SafeD w2 wx top aw x
theorem nilSegs (w : World) (a : Option Addr) : SegsAt w a [] := fun i hi => by simp at hi
theorem stepJ_bad {w2 wx : World} {ax aw ap ad : Option Addr} (hb : Below w2.heap.size w2 wx) : StepJ w2 [] [] ax aw ap ad wx :=
  ⟨hb, ⟨by simp, fun d hd => by simp at hd⟩, by simp, nilSegs _ _, nilSegs _ _, w2.heap.size, Nat.le_refl _, hb.size, .inl rfl, .inl rfl, fun _ _ _ => .inl rfl⟩
theorem Kp.of_below {base top : Nat} {w w' : World} (hb : Below w.heap.size w w') (h : base ≤ w.heap.size) : Kp base top w w' :=
  ⟨⟨hb.os, hb.tape, hb.output, hb.size, fun k hk => hb.block k (by omega)⟩, fun k _ h2 => hb.block k h2, fun g cur hg => ⟨cur, (hb.block _ (Array.getElem?_eq_some_iff.1 hg).1).trans hg, rfl⟩, fun g cur t fz hg _ => (hb.block _ (Array.getElem?_eq_some_iff.1 hg).1).trans hg⟩
theorem own_spoil {w wB : World} {base : Nat} {ax : Option Addr} {cx : Nat} {x : List DevD} (h : OwnDevs w base (.slice ax x.length cx) x) (hs : SmallL x) (hbs : base ≤ w.heap.size) (hB : Below w.heap.size w wB) : x.length = 0 ∨ ∃ G, ax = some ⟨G, 0, none⟩ ∧ base ≤ G ∧ G < w.heap.size ∧ DevsX wB base w.heap.size G x.length 0 := by
  by_cases h0 : x.length = 0
  · exact .inl h0
  · obtain ⟨G, rfl, _, _⟩ := h.blk (by omega)
    obtain ⟨h1, h2, h3⟩ := DevsX.of_own h hs
    exact .inr ⟨G, rfl, h2, h3, h1.kp (Kp.of_below hB hbs)⟩
theorem safe_own {w2 wx : World} {top : Nat} {aw : Option Addr} {cw : Nat} {x : List DevD} (h : OwnDevs wx top (.slice aw x.length cw) x) : SafeD w2 wx top aw x := fun w' _ hk => by
  obtain ⟨_, _, e, hd, _⟩ := (h.kept hk).at
  injection e with e _ _
  subst e
  exact hd
theorem stepJ_like {w2 wA wx : World} {x : List DevD} {p : List (Int × Int)} {ax aw ap ad : Option Addr} {cx cw : Nat} (hA : OwnDevs wA w2.heap.size (.slice ax x.length cx) x) (hbA : Below w2.heap.size w2 wA) (hbx : Below wA.heap.size wA wx) (hs : SmallL x) (hw : OwnDevs wx wA.heap.size (.slice aw x.length cw) x) (hpl : p.length ≤ 100000) (hpa : SegsAt wx ap p) (hpd : SegsAt wx ad p) :
    StepJ w2 x p ax aw ap ad wx := by
  refine ⟨nwT hbA hbx, hs, hpl, hpa, hpd, wA.heap.size, hbA.size, hbx.size, ?_, own_spoil hA hs hbA.size hbx, safe_own hw⟩
  obtain ⟨_, _, e, hd, _⟩ := (hA.below hbx).at
  injection e with e _ _
  subst e
  exact hd

end Go.Proofs.Ytheomnafmjmpdaa
