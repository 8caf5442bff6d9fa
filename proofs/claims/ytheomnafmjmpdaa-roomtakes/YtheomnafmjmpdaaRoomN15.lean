/- Laid together: Stepd, Roomst. -/
import Derived.Test.YtheomnafmjmpdaaRoomN14
import Derived.Deep.CutRange
import Derived.Deep.CutBlock
/- The law's step. -/
namespace Go.Proofs.Ytheomnafmjmpdaa
open Go.RowKit

theorem num2_w (n most : Int) (w : World) : Calls Try.prog 24 #[.int .i64 n, .int .i64 most] w fun e w' => e = .returned (.bool (numB n most)) ∧ w = w' := (num2_any n most w).mono fun _ _ h => ⟨h.1, h.2.symm⟩
def StepOk : Prop := ∀ (a : Option Addr) (ds : List DevD) (ca : Nat) (A : ActD) (pa : Option Addr) (pc : Nat) (w : World), DevsAt w a ds → NilOk a ca ds.length → SmallL ds → SegsAt w pa A.ps → A.ps.length ≤ 100000 →
  Calls Try.prog 9 #[.slice a ds.length ca, .agg #[.int .i64 A.act, .int .i64 A.n, .int .i64 A.id, .slice pa A.ps.length pc]] w fun e w' => (∃ a' ds' c', e = .returned (.tuple #[.slice a' (ds' : List DevD).length c', .bool true]) ∧ DevsAt w' a' ds' ∧ NilOk a' c' ds'.length ∧ SmallL ds') ∧ Below w.heap.size w w'

set_option maxRecDepth 100000 in
set_option maxHeartbeats 16000000 in
theorem step_go (a : Option Addr) (ds : List DevD) (ca : Nat) (act n id : Int) (ps : List (Int × Int)) (pa : Option Addr) (pc : Nat) (w : World) (hv : DevsAt w a ds) (hc : NilOk a ca ds.length) (hs : SmallL ds) (hp : SegsAt w pa ps) (hpl : ps.length ≤ 100000) :
    Calls Try.prog 9 #[.slice a ds.length ca, .agg #[.int .i64 act, .int .i64 n, .int .i64 id, .slice pa ps.length pc]] w fun e w' => (∃ a' ds' c', e = .returned (.tuple #[.slice a' (ds' : List DevD).length c', .bool true]) ∧ DevsAt w' a' ds' ∧ NilOk a' c' ds'.length ∧ SmallL ds') ∧ Below w.heap.size w w' := by
  have HS : Hid (SmallL ds) := hs
  have HCA : Hid (NilOk a ca ds.length) := hc
  have HPL : Hid (ps.length ≤ 100000) := hpl
  obtain ⟨W0, hW0⟩ : ∃ W0, W0 = w.alloc (.cells #[.int .i64 act, .int .i64 n, .int .i64 id, .slice pa ps.length pc] 32) := ⟨_, rfl⟩
  have hb0 : Below w.heap.size w W0 := by rw [hW0]; exact nwA (nwR w) _
  have hx0 : W0.heap[w.heap.size]? = some (.cells #[.int .i64 act, .int .i64 n, .int .i64 id, .slice pa ps.length pc] 32 (0, 0)) := by rw [hW0]; exact heap_alloc_new w _
  have HB0 : Hid (Below w.heap.size w W0) := hb0
  have HX0 : Hid (∀ w', Below W0.heap.size W0 w' → w'.heap[w.heap.size]? = some (.cells #[.int .i64 act, .int .i64 n, .int .i64 id, .slice pa ps.length pc] 32 (0, 0))) := fun w' h => (h.block _ (Array.getElem?_eq_some_iff.1 hx0).1).trans hx0
  have HV0 : Hid (DevsAt w a ds ∧ SegsAt w pa ps) := ⟨hv, hp⟩
  have HCD : Hid (∀ w', Below W0.heap.size W0 w' → Calls Try.prog 8 #[.slice a ds.length ca] w' fun e w'' => (∃ v, e = .returned v ∧ OwnDevs w'' w'.heap.size v ds) ∧ Below w'.heap.size w' w'') := fun w' h => copyDevs_any a ds ca w' (hv.below (nwT hb0 h)) hs
  have HCP : Hid (∀ w', Below W0.heap.size W0 w' → Calls Try.prog 21 #[.slice pa ps.length pc] w' fun e w'' => (∃ v, e = .returned v ∧ OwnPtrs w'' w'.heap.size v ps) ∧ Below w'.heap.size w' w'') := fun w' h => (copyPtrs_any pa ps pc w' (hp.below (nwT hb0 h) (Nat.le_refl _)) hpl).mono fun e w'' ⟨v, h1, h2, h3⟩ => ⟨⟨v, h1, h2⟩, h3⟩
  clear hs hc hv hp hpl hb0 hx0
  go_enter Try.func9, Try.ntmps9
  go_upto_region 1 with fail
  rw [← hW0]
  clear hW0
  go_cut [6, 7] from 27 to 31 (fun s6 s7 wx => ∃ (fa : Option Addr) (fc : Nat) (qa : Option Addr) (qc : Nat), s6 = .slice fa ds.length fc ∧ s7 = .slice qa ps.length qc ∧ Hid (Below W0.heap.size W0 wx ∧ (DevsAt wx fa ds ∧ NilOk fa fc ds.length) ∧ SegsAt wx qa ps))
  case first =>
    have q3 : ∀ w', Below W0.heap.size W0 w' → w'.cell? ⟨w.heap.size, 3, none⟩ = some (.slice pa ps.length pc) := fun w' h => (four (HX0.out w' h)).2.2.2.1
    have hS : Below W0.heap.size W0 W0 := nwR W0
    go_region_held3 (fun w' => Below W0.heap.size W0 w') (first | assumption | exact Below.drew (by assumption) | exact nwT (by assumption) (by assumption)) (first
      | (go_at_call 8; refine (HCD.out _ (by first | assumption | exact Below.drew (by assumption))).mono ?_; rintro e wC ⟨⟨vC, rfl, hoC⟩, hbC⟩; obtain ⟨fa, fc, rfl, hdC, hnC⟩ := hoC.at; have hIN : ∀ w', Below wC.heap.size wC w' → DevsAt w' fa ds := fun w' h => hdC.below h; clear hoC hdC)
      | (go_at_call 21; refine (HCP.out _ (by first | assumption | exact Below.drew (by assumption))).mono ?_; rintro e wP ⟨⟨vP, rfl, hoP⟩, hbP⟩; obtain ⟨qa, qc, rfl, hsP⟩ := hoP.segs; have hIP : ∀ w', Below wP.heap.size wP w' → SegsAt w' qa ps := fun w' h => hsP.below h (Nat.le_refl _); clear hoP hsP)
      | fail)
    all_goals
      go_wp2_with fail
      go_meet
      exact ⟨fa, fc, qa, qc, rfl, rfl, by assumption, ⟨hIN _ (by first | assumption | exact nwR _), hnC⟩, hIP _ (by first | assumption | exact nwR _)⟩
  case rest =>
  obtain ⟨fa, fc, qa, qc, rfl, rfl, HC1⟩ := hcut
  rename World => w1
  have HRD : Hid (Calls Try.prog 22 #[.slice a ds.length ca] w1 fun e w' => SaysB e (DevsOk ds) ∧ Below w1.heap.size w1 w') := rdevs_any a ds ca w1 (HV0.out.1.below (nwT HB0.out HC1.out.1)) HS.out
  go_wp2_with fail
  refine HRD.out.mono ?_
  rintro e w2 ⟨⟨may, rfl, hmay⟩, hb2⟩
  have hb02 := nwT HB0.out (nwT HC1.out.1 hb2)
  have HMAY : Hid (may = true ↔ DevsOk ds) := hmay
  have HBOX : Hid (∀ w', Below w2.heap.size w2 w' → w'.heap[w.heap.size]? = some (.cells #[.int .i64 act, .int .i64 n, .int .i64 id, .slice pa ps.length pc] 32 (0, 0))) := fun w' h => HX0.out w' (nwT (nwT HC1.out.1 hb2) h)
  have HIN : Hid (∀ w', Below w2.heap.size w2 w' → DevsAt w' fa ds) := fun w' h => (HC1.out.2.1.1.below hb2).below h
  have HNF : Hid (NilOk fa fc ds.length) := HC1.out.2.1.2
  have HQI : Hid (∀ w', Below w2.heap.size w2 w' → SegsAt w' qa ps) := fun w' h => HC1.out.2.2.below (nwT hb2 h) (Nat.le_refl _)
  have HL : Hid (∀ w', Below w2.heap.size w2 w' → DevsAt w' a ds) := fun w' h => (HV0.out.1.below hb02).below h
  have HPD : Hid (∀ w', Below w2.heap.size w2 w' → SegsAt w' pa ps) := fun w' h => HV0.out.2.below (nwT hb02 h) (Nat.le_refl _)
  have HB2 : Hid (Below w.heap.size w w2) := hb02
  clear hmay hb2 hb02 HX0 HV0 HB0 HC1 HRD HCD HCP
  obtain ⟨a0, a1, a2, a3, _⟩ := four (HBOX.out _ (nwR w2))
  go_wp2_with fail
  refine ((law5_any act w2).mono fun _ _ h => (⟨h.1, h.2.symm⟩ : _ ∧ w2 = _)).mono ?_
  rintro e w' ⟨rfl, rfl⟩
  obtain ⟨m, hm⟩ : ∃ m, withinN act 5 = m := ⟨_, rfl⟩
  have HM5 : Hid (m < 5) := by show m < 5; rw [← hm]; unfold withinN; omega
  rw [hm]
  clear hm a0 a1 a2 a3
  go_upto_block 0 with fail
  go_cut [8, 9, 10, 11, 12, 13, 14] from 15 to 196 (fun s8 s9 s10 s11 s12 s13 s14 wx => s8 = .bool may ∧ ∃ (er : Int) (x : List DevD) (p : List (Int × Int)) (ax : Option Addr) (cx : Nat) (aw : Option Addr) (cw : Nat) (ap : Option Addr) (cp : Nat) (ad : Option Addr) (cd : Nat), s9 = .int .i64 er ∧ s10 = .slice ax x.length cx ∧ s11 = .slice aw x.length cw ∧ s12 = .slice ap p.length cp ∧ s13 = .slice ad p.length cd ∧ s14 = .int .i64 er ∧ Hid (StepJ w2 x p ax aw ap ad wx))
  case first =>
    have hm5 := HM5.out
    obtain ⟨a0, a1, a2, a3, _⟩ := four (HBOX.out _ (nwR w2))
    rcases (by omega : m = 0 ∨ m = 1 ∨ m = 2 ∨ m = 3 ∨ m = 4) with rfl | rfl | rfl | rfl | rfl
    · -- kind 0
      have HTK : Hid (Calls Try.prog 14 #[.slice fa ds.length fc, .int .i64 n, .int .i64 id] w2 fun e w' => TakeR ds n id w2.heap.size e w' ∧ Below w2.heap.size w2 w') := take_dev fa ds fc n id w2 (HIN.out _ (nwR w2)) HNF.out HS.out
      go_wp2_with fail
      refine HTK.out.mono ?_
      rintro e wA ⟨htr, hbA⟩
      have HBA : Hid (Below w2.heap.size w2 wA) := hbA
      obtain ⟨b0, b1, b2, b3, _⟩ := four (HBOX.out _ hbA)
      clear a0 a1 a2 a3 hbA HTK
      rcases htr with ⟨hno, rfl⟩ | ⟨⟨hok, hn0, hn1, hcn⟩, rfl⟩ | ⟨⟨hok, hn0, hn1, hcn⟩, u, v, rfl, hu, hv⟩
      · have HQ : Hid (StepJ w2 [] [] none none none none wA) := stepJ_bad HBA.out
        cases may
        case false =>
          clear hno
          go_wp2_with fail
          go_meet
          exact ⟨rfl, 1, [], [], none, 0, none, 0, none, 0, none, 0, rfl, rfl, rfl, rfl, rfl, rfl, HQ.out⟩
        case true =>
          have hnn : n < 0 ∨ 384 < n := by
            rcases hno with h | h
            · exact absurd (HMAY.out.1 rfl) h
            · exact h
          have hnb : numB n 384 = false := by unfold numB; simp; omega
          clear hno hnn
          go_wp2_with fail
          refine (num2_is n 384 false _ hnb).mono ?_
          rintro e wN ⟨rfl, rfl⟩
          go_wp2_with fail
          go_meet
          exact ⟨rfl, 1, [], [], none, 0, none, 0, none, 0, none, 0, rfl, rfl, rfl, rfl, rfl, rfl, HQ.out⟩
      · have hmay : may = true := HMAY.out.2 hok
        subst hmay
        obtain ⟨N, rfl⟩ : ∃ N : Nat, n = (N : Int) := ⟨n.toNat, by omega⟩
        have hnb : numB (N : Int) 384 = true := by unfold numB; simp; omega
        have HRT : Hid (Calls Try.prog 25 #[.slice a ds.length ca, .int .i64 N, .int .i64 id] wA fun e w' => RtakeR ds N id wA.heap.size e w' ∧ Below wA.heap.size wA w') := rtake_any a ds ca N id wA (HL.out _ HBA.out) hok (by omega)
        have HCN : Hid (cntN ds id < (N : Int)) := hcn
        clear hok hn0 hn1 hcn
        go_wp2_with fail
        refine (num2_is (N : Int) 384 true _ hnb).mono ?_
        rintro e wN ⟨rfl, rfl⟩
        rename World => wA
        clear hnb
        go_wp2_with fail
        refine HRT.out.mono ?_
        rintro e wB ⟨hr, hbB⟩
        have HQ : Hid (StepJ w2 [] [] none none none none wB) := stepJ_bad (nwT HBA.out hbB)
        rcases hr with ⟨_, rfl⟩ | ⟨hc, _⟩
        · clear hbB
          go_wp2_with fail
          go_meet
          exact ⟨rfl, 5, [], [], none, 0, none, 0, none, 0, none, 0, rfl, rfl, rfl, rfl, rfl, rfl, HQ.out⟩
        · have := HCN.out; omega
      · have hmay : may = true := HMAY.out.2 hok
        subst hmay
        obtain ⟨N, rfl⟩ : ∃ N : Nat, n = (N : Int) := ⟨n.toNat, by omega⟩
        have hnb : numB (N : Int) 384 = true := by unfold numB; simp; omega
        have HRT : Hid (Calls Try.prog 25 #[.slice a ds.length ca, .int .i64 N, .int .i64 id] wA fun e w' => RtakeR ds N id wA.heap.size e w' ∧ Below wA.heap.size wA w') := rtake_any a ds ca N id wA (HL.out _ HBA.out) hok (by omega)
        have HCN : Hid ((N : Int) ≤ cntN ds id) := hcn
        have hinv := takN_inv hok.allV (ks := restK ds id (List.range ds.length)) (fun k hk => List.mem_range.1 (List.mem_filter.1 hk).1) (rest_nodup _ _ _) N hcn
        have HSX : Hid (SmallL (takN ds (restK ds id (List.range ds.length)) N).2 ∧ (takN ds (restK ds id (List.range ds.length)) N).1.length ≤ 100000) := ⟨hinv.1.small HS.out, by rw [hinv.2]; omega⟩
        rw [show ((N : Int)).toNat = N from by omega] at hu hv
        have HRX : Hid (∀ e w', RtakeR ds N id wA.heap.size e w' → ∃ u v, e = .returned (.tuple #[u, v, .bool true]) ∧ OwnPtrs w' wA.heap.size u (takN ds (restK ds id (List.range ds.length)) N).1 ∧ OwnDevs w' wA.heap.size v (takN ds (restK ds id (List.range ds.length)) N).2) := fun e w' h => by
          rcases h with ⟨h, _⟩ | ⟨_, u, v, e1, h1, h2⟩
          · have := HCN.out; omega
          · rw [show ((N : Int)).toNat = N from by omega] at h1 h2
            exact ⟨u, v, e1, h1, h2⟩
        generalize (takN ds (restK ds id (List.range ds.length)) N).2 = x at hu hv HSX HRX
        generalize (takN ds (restK ds id (List.range ds.length)) N).1 = p at hu hv HSX HRX
        obtain ⟨ap, cp, rfl, hup⟩ := hu.segs
        obtain ⟨ax, cx, rfl, _, _⟩ := hv.at
        have HU : Hid (OwnDevs wA w2.heap.size (.slice ax x.length cx) x ∧ SegsAt wA ap p) := ⟨hv, hup⟩
        clear hok hn0 hn1 hcn hinv hu hv hup
        go_wp2_with fail
        refine (num2_is (N : Int) 384 true _ hnb).mono ?_
        rintro e wN ⟨rfl, rfl⟩
        rename World => wA
        clear hnb
        go_wp2_with fail
        refine HRT.out.mono ?_
        rintro e wB ⟨hr, hbB⟩
        obtain ⟨u2, v2, rfl, hu2, hv2⟩ := HRX.out _ _ hr
        obtain ⟨ad, cd, rfl, hud⟩ := hu2.segs
        obtain ⟨aw, cw, rfl, _, _⟩ := hv2.at
        have HQ : Hid (StepJ w2 x p ax aw ap ad wB) := stepJ_like HU.out.1 HBA.out hbB HSX.out.1 hv2 HSX.out.2 (HU.out.2.below hbB (Nat.le_refl _)) hud
        clear hr hbB hu2 hv2 hud HRT HRX b0 b1 b2 b3
        go_wp2_with fail
        go_meet
        exact ⟨rfl, 0, x, p, ax, cx, aw, cw, ap, cp, ad, cd, rfl, rfl, rfl, rfl, rfl, rfl, HQ.out⟩
    · -- kind 1
      have HTK : Hid (Calls Try.prog 14 #[.slice fa ds.length fc, .int .i64 n, .int .i64 id] w2 fun e w' => TakeR ds n id w2.heap.size e w' ∧ Below w2.heap.size w2 w') := take_dev fa ds fc n id w2 (HIN.out _ (nwR w2)) HNF.out HS.out
      go_wp2_with fail
      refine HTK.out.mono ?_
      rintro e wA ⟨htr, hbA⟩
      have HBA : Hid (Below w2.heap.size w2 wA) := hbA
      obtain ⟨b0, b1, b2, b3, _⟩ := four (HBOX.out _ hbA)
      clear a0 a1 a2 a3 hbA HTK
      rcases htr with ⟨hno, rfl⟩ | ⟨⟨hok, hn0, hn1, hcn⟩, rfl⟩ | ⟨⟨hok, hn0, hn1, hcn⟩, u, v, rfl, hu, hv⟩
      · have HQ : Hid (StepJ w2 [] [] none none none none wA) := stepJ_bad HBA.out
        cases may
        case false =>
          clear hno
          go_wp2_with fail
          go_meet
          exact ⟨rfl, 1, [], [], none, 0, none, 0, none, 0, none, 0, rfl, rfl, rfl, rfl, rfl, rfl, HQ.out⟩
        case true =>
          have hnn : n < 0 ∨ 384 < n := by
            rcases hno with h | h
            · exact absurd (HMAY.out.1 rfl) h
            · exact h
          have hnb : numB n 384 = false := by unfold numB; simp; omega
          clear hno hnn
          go_wp2_with fail
          refine (num2_is n 384 false _ hnb).mono ?_
          rintro e wN ⟨rfl, rfl⟩
          go_wp2_with fail
          go_meet
          exact ⟨rfl, 1, [], [], none, 0, none, 0, none, 0, none, 0, rfl, rfl, rfl, rfl, rfl, rfl, HQ.out⟩
      · have hmay : may = true := HMAY.out.2 hok
        subst hmay
        obtain ⟨N, rfl⟩ : ∃ N : Nat, n = (N : Int) := ⟨n.toNat, by omega⟩
        have hnb : numB (N : Int) 384 = true := by unfold numB; simp; omega
        have HRT : Hid (Calls Try.prog 25 #[.slice a ds.length ca, .int .i64 N, .int .i64 id] wA fun e w' => RtakeR ds N id wA.heap.size e w' ∧ Below wA.heap.size wA w') := rtake_any a ds ca N id wA (HL.out _ HBA.out) hok (by omega)
        have HCN : Hid (cntN ds id < (N : Int)) := hcn
        clear hok hn0 hn1 hcn
        go_wp2_with fail
        refine (num2_is (N : Int) 384 true _ hnb).mono ?_
        rintro e wN ⟨rfl, rfl⟩
        rename World => wA
        clear hnb
        go_wp2_with fail
        refine HRT.out.mono ?_
        rintro e wB ⟨hr, hbB⟩
        have HQ : Hid (StepJ w2 [] [] none none none none wB) := stepJ_bad (nwT HBA.out hbB)
        rcases hr with ⟨_, rfl⟩ | ⟨hc, _⟩
        · clear hbB
          go_wp2_with fail
          go_meet
          exact ⟨rfl, 5, [], [], none, 0, none, 0, none, 0, none, 0, rfl, rfl, rfl, rfl, rfl, rfl, HQ.out⟩
        · have := HCN.out; omega
      · have hmay : may = true := HMAY.out.2 hok
        subst hmay
        obtain ⟨N, rfl⟩ : ∃ N : Nat, n = (N : Int) := ⟨n.toNat, by omega⟩
        have hnb : numB (N : Int) 384 = true := by unfold numB; simp; omega
        have HRT : Hid (Calls Try.prog 25 #[.slice a ds.length ca, .int .i64 N, .int .i64 id] wA fun e w' => RtakeR ds N id wA.heap.size e w' ∧ Below wA.heap.size wA w') := rtake_any a ds ca N id wA (HL.out _ HBA.out) hok (by omega)
        have HCN : Hid ((N : Int) ≤ cntN ds id) := hcn
        have hinv := takN_inv hok.allV (ks := restK ds id (List.range ds.length)) (fun k hk => List.mem_range.1 (List.mem_filter.1 hk).1) (rest_nodup _ _ _) N hcn
        have HSX : Hid (SmallL (takN ds (restK ds id (List.range ds.length)) N).2 ∧ (takN ds (restK ds id (List.range ds.length)) N).1.length ≤ 100000) := ⟨hinv.1.small HS.out, by rw [hinv.2]; omega⟩
        rw [show ((N : Int)).toNat = N from by omega] at hu hv
        have HRX : Hid (∀ e w', RtakeR ds N id wA.heap.size e w' → ∃ u v, e = .returned (.tuple #[u, v, .bool true]) ∧ OwnPtrs w' wA.heap.size u (takN ds (restK ds id (List.range ds.length)) N).1 ∧ OwnDevs w' wA.heap.size v (takN ds (restK ds id (List.range ds.length)) N).2) := fun e w' h => by
          rcases h with ⟨h, _⟩ | ⟨_, u, v, e1, h1, h2⟩
          · have := HCN.out; omega
          · rw [show ((N : Int)).toNat = N from by omega] at h1 h2
            exact ⟨u, v, e1, h1, h2⟩
        generalize (takN ds (restK ds id (List.range ds.length)) N).2 = x at hu hv HSX HRX
        generalize (takN ds (restK ds id (List.range ds.length)) N).1 = p at hu hv HSX HRX
        obtain ⟨ap, cp, rfl, hup⟩ := hu.segs
        obtain ⟨ax, cx, rfl, _, _⟩ := hv.at
        have HU : Hid (OwnDevs wA w2.heap.size (.slice ax x.length cx) x ∧ SegsAt wA ap p) := ⟨hv, hup⟩
        clear hok hn0 hn1 hcn hinv hu hv hup
        go_wp2_with fail
        refine (num2_is (N : Int) 384 true _ hnb).mono ?_
        rintro e wN ⟨rfl, rfl⟩
        rename World => wA
        clear hnb
        go_wp2_with fail
        refine HRT.out.mono ?_
        rintro e wB ⟨hr, hbB⟩
        obtain ⟨u2, v2, rfl, hu2, hv2⟩ := HRX.out _ _ hr
        obtain ⟨ad, cd, rfl, hud⟩ := hu2.segs
        obtain ⟨aw, cw, rfl, _, _⟩ := hv2.at
        have HQ : Hid (StepJ w2 x p ax aw ap ad wB) := stepJ_like HU.out.1 HBA.out hbB HSX.out.1 hv2 HSX.out.2 (HU.out.2.below hbB (Nat.le_refl _)) hud
        clear hr hbB hu2 hv2 hud HRT HRX b0 b1 b2 b3
        go_wp2_with fail
        go_meet
        exact ⟨rfl, 0, x, p, ax, cx, aw, cw, ap, cp, ad, cd, rfl, rfl, rfl, rfl, rfl, rfl, HQ.out⟩
    · -- kind 2
      have HGV : Hid (Calls Try.prog 15 #[.slice fa ds.length fc, .slice qa ps.length qc] w2 fun e w' => GiveR ds ps w2.heap.size e w' ∧ Below w2.heap.size w2 w') := give_dev fa ds fc qa qc ps w2 (HIN.out _ (nwR w2)) HNF.out HS.out (HQI.out _ (nwR w2)) HPL.out
      go_wp2_with fail
      refine HGV.out.mono ?_
      rintro e wA ⟨hgr, hbA⟩
      have HBA : Hid (Below w2.heap.size w2 wA) := hbA
      obtain ⟨b0, b1, b2, b3, _⟩ := four (HBOX.out _ hbA)
      clear a0 a1 a2 a3 hbA HGV
      rcases hgr with ⟨hno, rfl⟩ | ⟨hok, u, rfl, hu⟩
      · have HQ : Hid (StepJ w2 [] [] none none none none wA) := stepJ_bad HBA.out
        have hmay : may = false := by
          cases hm : may
          · rfl
          · exact absurd (HMAY.out.1 hm) hno
        subst hmay
        clear hno
        go_wp2_with fail
        go_meet
        exact ⟨rfl, 1, [], [], none, 0, none, 0, none, 0, none, 0, rfl, rfl, rfl, rfl, rfl, rfl, HQ.out⟩
      · have hmay : may = true := HMAY.out.2 hok
        subst hmay
        have HRG : Hid (Calls Try.prog 26 #[.slice a ds.length ca, .slice pa ps.length pc] wA fun e w' => (∃ u, e = .returned (.tuple #[u, .int .i64 (givN ds ps).1]) ∧ OwnDevs w' wA.heap.size u (givN ds ps).2) ∧ Below wA.heap.size wA w') := rgive_any a ds ca pa pc ps wA (HL.out _ HBA.out) hok (HPD.out _ HBA.out) HPL.out
        have HSX : Hid (SmallL (givN ds ps).2) := giv_small hok ps ds (gvinv_refl hok)
        generalize (givN ds ps).2 = x at hu HRG HSX
        generalize (givN ds ps).1 = er at HRG ⊢
        obtain ⟨ax, cx, rfl, _, _⟩ := hu.at
        have HU : Hid (OwnDevs wA w2.heap.size (.slice ax x.length cx) x) := hu
        clear hok hu
        go_wp2_with fail
        refine HRG.out.mono ?_
        rintro e wB ⟨⟨u2, rfl, hv2⟩, hbB⟩
        obtain ⟨aw, cw, rfl, _, _⟩ := hv2.at
        have HQ : Hid (StepJ w2 x [] ax aw none none wB) := stepJ_like HU.out HBA.out hbB HSX.out hv2 (by simp) (nilSegs _ _) (nilSegs _ _)
        clear hbB hv2 HRG b0 b1 b2 b3
        go_wp2_with fail
        go_meet
        exact ⟨rfl, er, x, [], ax, cx, aw, cw, none, 0, none, 0, rfl, rfl, rfl, rfl, rfl, rfl, HQ.out⟩
    · -- kind 3
      have HGV : Hid (Calls Try.prog 15 #[.slice fa ds.length fc, .slice qa ps.length qc] w2 fun e w' => GiveR ds ps w2.heap.size e w' ∧ Below w2.heap.size w2 w') := give_dev fa ds fc qa qc ps w2 (HIN.out _ (nwR w2)) HNF.out HS.out (HQI.out _ (nwR w2)) HPL.out
      go_wp2_with fail
      refine HGV.out.mono ?_
      rintro e wA ⟨hgr, hbA⟩
      have HBA : Hid (Below w2.heap.size w2 wA) := hbA
      obtain ⟨b0, b1, b2, b3, _⟩ := four (HBOX.out _ hbA)
      clear a0 a1 a2 a3 hbA HGV
      rcases hgr with ⟨hno, rfl⟩ | ⟨hok, u, rfl, hu⟩
      · have HQ : Hid (StepJ w2 [] [] none none none none wA) := stepJ_bad HBA.out
        have hmay : may = false := by
          cases hm : may
          · rfl
          · exact absurd (HMAY.out.1 hm) hno
        subst hmay
        clear hno
        go_wp2_with fail
        go_meet
        exact ⟨rfl, 1, [], [], none, 0, none, 0, none, 0, none, 0, rfl, rfl, rfl, rfl, rfl, rfl, HQ.out⟩
      · have hmay : may = true := HMAY.out.2 hok
        subst hmay
        have HRG : Hid (Calls Try.prog 26 #[.slice a ds.length ca, .slice pa ps.length pc] wA fun e w' => (∃ u, e = .returned (.tuple #[u, .int .i64 (givN ds ps).1]) ∧ OwnDevs w' wA.heap.size u (givN ds ps).2) ∧ Below wA.heap.size wA w') := rgive_any a ds ca pa pc ps wA (HL.out _ HBA.out) hok (HPD.out _ HBA.out) HPL.out
        have HSX : Hid (SmallL (givN ds ps).2) := giv_small hok ps ds (gvinv_refl hok)
        generalize (givN ds ps).2 = x at hu HRG HSX
        generalize (givN ds ps).1 = er at HRG ⊢
        obtain ⟨ax, cx, rfl, _, _⟩ := hu.at
        have HU : Hid (OwnDevs wA w2.heap.size (.slice ax x.length cx) x) := hu
        clear hok hu
        go_wp2_with fail
        refine HRG.out.mono ?_
        rintro e wB ⟨⟨u2, rfl, hv2⟩, hbB⟩
        obtain ⟨aw, cw, rfl, _, _⟩ := hv2.at
        have HQ : Hid (StepJ w2 x [] ax aw none none wB) := stepJ_like HU.out HBA.out hbB HSX.out hv2 (by simp) (nilSegs _ _) (nilSegs _ _)
        clear hbB hv2 HRG b0 b1 b2 b3
        go_wp2_with fail
        go_meet
        exact ⟨rfl, er, x, [], ax, cx, aw, cw, none, 0, none, 0, rfl, rfl, rfl, rfl, rfl, rfl, HQ.out⟩
    · -- kind 4
      have HCM : Hid (Calls Try.prog 11 #[.slice fa ds.length fc] w2 fun e w' => ActR ds (ds.map comD) w2.heap.size e w' ∧ Below w2.heap.size w2 w') := commit_dev fa ds fc w2 (HIN.out _ (nwR w2)) HNF.out HS.out
      go_wp2_with fail
      refine HCM.out.mono ?_
      rintro e wA ⟨hgr, hbA⟩
      have HBA : Hid (Below w2.heap.size w2 wA) := hbA
      clear a0 a1 a2 a3 hbA HCM
      rcases hgr with ⟨hno, rfl⟩ | ⟨hok, u, rfl, hu⟩
      · have HQ : Hid (StepJ w2 [] [] none none none none wA) := stepJ_bad HBA.out
        have hmay : may = false := by
          cases hm : may
          · rfl
          · exact absurd (HMAY.out.1 hm) hno
        subst hmay
        clear hno
        go_wp2_with fail
        go_meet
        exact ⟨rfl, 1, [], [], none, 0, none, 0, none, 0, none, 0, rfl, rfl, rfl, rfl, rfl, rfl, HQ.out⟩
      · have hmay : may = true := HMAY.out.2 hok
        subst hmay
        have HRG : Hid (Calls Try.prog 27 #[.slice a ds.length ca] wA fun e w' => (∃ v, e = .returned v ∧ OwnDevs w' wA.heap.size v (ds.map comD)) ∧ Below wA.heap.size wA w') := rcommit_any a ds ca wA (HL.out _ HBA.out) hok
        have HSX : Hid (SmallL (ds.map comD)) := (coms_ok hok).small
        generalize ds.map comD = x at hu HRG HSX
        obtain ⟨ax, cx, rfl, _, _⟩ := hu.at
        have HU : Hid (OwnDevs wA w2.heap.size (.slice ax x.length cx) x) := hu
        clear hok hu
        go_wp2_with fail
        refine HRG.out.mono ?_
        rintro e wB ⟨⟨u2, rfl, hv2⟩, hbB⟩
        obtain ⟨aw, cw, rfl, _, _⟩ := hv2.at
        have HQ : Hid (StepJ w2 x [] ax aw none none wB) := stepJ_like HU.out HBA.out hbB HSX.out hv2 (by simp) (nilSegs _ _) (nilSegs _ _)
        clear hbB hv2 HRG
        go_wp2_with fail
        go_meet
        exact ⟨rfl, 0, x, [], ax, cx, aw, cw, none, 0, none, 0, rfl, rfl, rfl, rfl, rfl, rfl, HQ.out⟩
  case rest =>
  obtain ⟨rfl, er, x, p, ax, cx, aw, cw, ap, cp, ad, cd, rfl, rfl, rfl, rfl, rfl, rfl, HJ⟩ := hcut
  clear HM5
  rename World => wj
  obtain ⟨top, ht1, ht2, hvx, hsp, hsf⟩ := HJ.out.own
  have HTOP : Hid (w2.heap.size ≤ top ∧ top ≤ wj.heap.size) := ⟨ht1, ht2⟩
  have HVX : Hid (DevsAt wj ax x) := hvx
  have HVX0 : Hid (DevsAt wj ax x) := hvx
  have HSP : Hid (x.length = 0 ∨ ∃ G, ax = some ⟨G, 0, none⟩ ∧ w2.heap.size ≤ G ∧ G < top ∧ DevsX wj w2.heap.size top G x.length 0) := hsp
  have HSF : Hid (SafeD w2 wj top aw x) := hsf
  clear ht1 ht2 hvx hsp hsf
  have HEQ2 : Hid (∀ w', Below w2.heap.size w2 w' → Calls Try.prog 16 #[.slice fa ds.length fc, .slice a ds.length ca] w' fun e w'' => e = .returned (.bool true) ∧ Below w'.heap.size w' w'') := fun w' hb => by
    have h := eqDevs_any fa a ds ds fc ca w' (HIN.out _ hb) (HL.out _ hb) HS.out
    rw [decide_eq_true rfl] at h; exact h
  have HEP2 : Hid (∀ w', Below w2.heap.size w2 w' → Calls Try.prog 32 #[.slice qa ps.length qc, .slice pa ps.length pc] w' fun e w'' => e = .returned (.bool true) ∧ Below w'.heap.size w' w'') := fun w' hb => by
    have h := eqPtrs_any qa pa ps ps qc pc w' (HQI.out _ hb) (HPD.out _ hb) (by have := HPL.out; unfold maxLen; omega)
    rw [decide_eq_true rfl] at h; exact h
  have HCK0 : Hid (∀ (c : Int), errOf may = c → ∀ w', Below w2.heap.size w2 w' → Calls Try.prog 33 #[.slice fa ds.length fc] w' fun e w'' => e = .returned (.int .i64 c) ∧ Below w'.heap.size w' w'') := fun c hc w' hb =>
    (rcheck_any fa ds fc w' (HIN.out _ hb) HS.out).mono fun e w'' ⟨⟨b, h1, h2⟩, h3⟩ => ⟨by
      rw [h2, ← hc, show b = may from by rw [Bool.eq_iff_iff, h1, HMAY.out]], h3⟩
  have HCO : Hid (Calls Try.prog 13 #[.slice fa ds.length fc, .int .i64 id] wj fun e w' => CountR ds id e ∧ Below wj.heap.size wj w') := count_dev fa ds fc id wj (HIN.out _ HJ.out.below) HNF.out HS.out
  have HUS : Hid (∀ w', Below w2.heap.size w2 w' → Calls Try.prog 29 #[.slice fa ds.length fc, .int .i64 id] w' fun e w'' => UsedR ds id e ∧ Below w'.heap.size w' w'') := fun w' h => used_dev fa ds fc id w' (HIN.out _ h) HNF.out HS.out
  obtain ⟨a0, a1, a2, a3, _⟩ := four (HBOX.out _ HJ.out.below)
  cases may
  case false =>
    have hno : ¬ DevsOk ds := fun h => by have := HMAY.out.2 h; cases this
    have HNO : Hid (¬ DevsOk ds) := hno
    have HCK : Hid (∀ w', Below w2.heap.size w2 w' → Calls Try.prog 33 #[.slice fa ds.length fc] w' fun e w'' => e = .returned (.int .i64 1) ∧ Below w'.heap.size w' w'') := HCK0.out 1 rfl
    clear hno HCK0
    go_wp2_with fail
    refine HCO.out.mono ?_
    rintro e wa ⟨hr, hba⟩
    have he : e = .returned (.tuple #[.int .i64 0, .int .i64 1]) := by
      rcases hr with ⟨_, h⟩ | ⟨h, _⟩
      · exact h
      · exact absurd h HNO.out
    subst he
    have HBA : Hid (Below wj.heap.size wj wa) := hba
    obtain ⟨b0, b1, b2, b3, _⟩ := four (HBOX.out _ (nwT HJ.out.below hba))
    clear hr hba a0 a1 a2 a3 HCO
    go_wp2_with fail
    refine (HUS.out _ (nwT HJ.out.below HBA.out)).mono ?_
    rintro e wb ⟨hr, hbb⟩
    have he : e = .returned (.tuple #[.int .i64 0, .int .i64 1]) := by
      rcases hr with ⟨_, h⟩ | ⟨h, _⟩ | ⟨k, h, _⟩
      · exact h
      · exact absurd h HNO.out
      · exact absurd h HNO.out
    subst he
    have HBB : Hid (Below wj.heap.size wj wb) := nwT HBA.out hbb
    clear hr hbb b0 b1 b2 b3 HUS
    have HJ2 : Hid (Below wj.heap.size wj wb) := HBB.out
    have H2J : Hid (Below w2.heap.size w2 wb) := nwT HJ.out.below HJ2.out
    have HEQ1 : Hid (Calls Try.prog 16 #[.slice ax x.length cx, .slice aw x.length cw] wb fun e w' => e = .returned (.bool true) ∧ Below wb.heap.size wb w') := by
      have h := eqDevs_any ax aw x x cx cw wb (HVX.out.below HJ2.out) (HSF.out _ H2J.out (fun k _ h => HJ2.out.block k h)) HJ.out.small
      rw [decide_eq_true rfl] at h; exact h
    have HEP : Hid (∀ w', Below wj.heap.size wj w' → Calls Try.prog 32 #[.slice ap p.length cp, .slice ad p.length cd] w' fun e w'' => e = .returned (.bool true) ∧ Below w'.heap.size w' w'') := fun w' hb => by
      have h := eqPtrs_any ap ad p p cp cd w' (HJ.out.pa.below hb (Nat.le_refl _)) (HJ.out.pd.below hb (Nat.le_refl _)) (by have := HJ.out.pl; unfold maxLen; omega)
      rw [decide_eq_true rfl] at h; exact h
    clear HVX0
    go_wp2_with (first | (go_at_call 12; refine (errnum_w _ _).mono ?_; rintro e w' ⟨rfl, rfl⟩) | fail)
    refine HEQ1.out.mono ?_
    rintro e wk ⟨rfl, hbk⟩
    have HBK : Hid (Below wj.heap.size wj wk) := nwT HJ2.out hbk
    clear HEQ1 hbk
    go_wp2_with fail
    refine (HEP.out _ HBK.out).mono ?_
    rintro e wl ⟨rfl, hbl⟩
    have HBL : Hid (Below wj.heap.size wj wl) := nwT HBK.out hbl
    clear HEP hbl HBK
    go_wp2_with (first | (go_at_call 12; refine (errnum_w _ _).mono ?_; rintro e w' ⟨rfl, rfl⟩) | fail)
    refine (HEQ2.out _ (nwT HJ.out.below HBL.out)).mono ?_
    rintro e wm ⟨rfl, hbm⟩
    have HBM : Hid (Below wj.heap.size wj wm) := nwT HBL.out hbm
    clear hbm HBL
    obtain ⟨b0, b1, b2, b3, _⟩ := four (HBOX.out _ (nwT HJ.out.below HBM.out))
    go_wp2_with fail
    refine (HEP2.out _ (nwT HJ.out.below HBM.out)).mono ?_
    rintro e wn ⟨rfl, hbn⟩
    have HBN : Hid (Below wj.heap.size wj wn) := nwT HBM.out hbn
    clear hbn HBM b0 b1 b2 b3
    go_wp2_with fail
    refine (HCK.out _ (nwT HJ.out.below HBN.out)).mono ?_
    rintro e wo ⟨rfl, hbo⟩
    have HBO : Hid (Below wj.heap.size wj wo) := nwT HBN.out hbo
    clear hbo HBN
    have HSPO : Hid (Calls Try.prog 34 #[.slice ax x.length cx] wo fun e w' => e = .returned (.tuple #[]) ∧ Below w2.heap.size w2 w' ∧ DevsAt w' aw x) := by
      have hz := HBO.out.size
      have ht := HTOP.out
      refine (devs_spoil ax x.length cx w2.heap.size top wo (by
        rcases HSP.out with h | ⟨G, h1, h2, h3, h4⟩
        · exact .inl h
        · exact .inr ⟨G, h1, h2, h3, h4.kp (Kp.of_below HBO.out (by omega))⟩) HJ.out.small.1).mono ?_
      rintro e w' ⟨he, hb, hk⟩
      have h2 := (nwT HJ.out.below HBO.out).trans hb
      exact ⟨he, h2, HSF.out w' h2 (fun k h1 h3 => (hk k h1 (by omega)).trans (HBO.out.block k h3))⟩
    go_wp2_with (first | (go_at_call 12; refine (errnum_w _ _).mono ?_; rintro e w' ⟨rfl, rfl⟩) | fail)
    refine HSPO.out.mono ?_
    rintro e ws ⟨rfl, h2s, hvw⟩
    have HVW : Hid (DevsAt ws aw x) := hvw
    clear HSPO hvw HSF HSP HVX
    go_wp2_with fail
    refine (HEQ2.out _ h2s).mono ?_
    rintro e wt ⟨rfl, hbt⟩
    have HVT : Hid (DevsAt wt aw x) := HVW.out.below hbt
    have H2T : Hid (Below w2.heap.size w2 wt) := nwT h2s hbt
    have HBE : Hid (Below w.heap.size w wt) := nwT HB2.out H2T.out
    clear hbt h2s HVW HEQ2
    by_cases her : er = 0
    case neg =>
      have h1 : (er == 0) = false := beq_eq_false_iff_ne.2 her
      have h2 : (er != 0) = true := bne_iff_ne.2 her
      have h3 : decide (er = 0) = false := decide_eq_false her
      go_wp2_with fail
      go_ret2
      exact ⟨⟨a, ds, ca, rfl, HL.out _ H2T.out, HCA.out, HS.out⟩, HBE.out⟩
    case pos =>
    have HSD : Hid (SmallL x) := HJ.out.small
    have HCP : Hid (Calls Try.prog 8 #[.slice aw x.length cw] wt fun e w' => (∃ v, e = .returned v ∧ OwnDevs w' wt.heap.size v x) ∧ Below wt.heap.size wt w') := copyDevs_any aw x cw wt HVT.out HSD.out
    clear HJ
    subst her
    go_wp2_with fail
    refine HCP.out.mono ?_
    rintro e wz ⟨⟨u, rfl, hu⟩, hbz⟩
    obtain ⟨az, cz, rfl, hvz, hcz⟩ := hu.at
    have HZ : Hid (DevsAt wz az x ∧ NilOk az cz x.length ∧ Below w.heap.size w wz) := ⟨hvz, hcz, nwT HBE.out hbz⟩
    clear hu hbz hvz hcz
    go_wp2_with fail
    go_ret2
    exact ⟨⟨az, x, cz, rfl, HZ.out.1, HZ.out.2.1, HSD.out⟩, HZ.out.2.2⟩
  case true =>
  have hok : DevsOk ds := HMAY.out.1 rfl
  have HOK : Hid (DevsOk ds) := hok
  have HCK : Hid (∀ w', Below w2.heap.size w2 w' → Calls Try.prog 33 #[.slice fa ds.length fc] w' fun e w'' => e = .returned (.int .i64 0) ∧ Below w'.heap.size w' w'') := HCK0.out 0 rfl
  have HRC : Hid (∀ w', Below w2.heap.size w2 w' → Calls Try.prog 28 #[.slice a ds.length ca, .int .i64 id] w' fun e w'' => e = .returned (.int .i64 (cntN ds id)) ∧ Below w'.heap.size w' w'') := fun w' h => rcount_any a ds ca id w' (HL.out _ h) HOK.out
  have HRA : Hid (∀ w', Below w2.heap.size w2 w' → Calls Try.prog 30 #[.slice a ds.length ca, .int .i64 id] w' fun e w'' => e = .returned (.int .i64 (atZ ds id)) ∧ Below w'.heap.size w' w'') := fun w' h => rat_any a ds ca id w' (HL.out _ h) HS.out.1
  have hl6 := hok.1
  obtain ⟨ct, hct⟩ : ∃ ct, cntN ds id = ct := ⟨_, rfl⟩
  have HCT : Hid (cntN ds id = ct) := hct
  rw [hct] at HRC
  clear hok HCK0 hct
  go_wp2_with fail
  refine HCO.out.mono ?_
  rintro e wa ⟨hr, hba⟩
  have he : e = .returned (.tuple #[.int .i64 ct, .int .i64 0]) := by
    rcases hr with ⟨h, _⟩ | ⟨_, h⟩
    · exact absurd HOK.out h
    · rw [h, HCT.out]
  subst he
  have HBA : Hid (Below wj.heap.size wj wa) := hba
  obtain ⟨b0, b1, b2, b3, _⟩ := four (HBOX.out _ (nwT HJ.out.below hba))
  clear hr hba a0 a1 a2 a3 HCO
  go_wp2_with fail
  refine (HRC.out _ (nwT HJ.out.below HBA.out)).mono ?_
  rintro e wb ⟨rfl, hbb⟩
  have HBB : Hid (Below wj.heap.size wj wb) := nwT HBA.out hbb
  clear b0 b1 b2 b3 hbb HRC HBA
  obtain ⟨b0, b1, b2, b3, _⟩ := four (HBOX.out _ (nwT HJ.out.below HBB.out))
  go_wp2_with fail
  refine (HUS.out _ (nwT HJ.out.below HBB.out)).mono ?_
  rintro e wc ⟨hr, hbc⟩
  have HBC : Hid (Below wj.heap.size wj wc) := nwT HBB.out hbc
  clear b0 b1 b2 b3 hbc HUS HBB
  obtain ⟨b0, b1, b2, b3, _⟩ := four (HBOX.out _ (nwT HJ.out.below HBC.out))
  cases hat : atD ds id
  case none =>
    have he : e = .returned (.tuple #[.int .i64 0, .int .i64 3]) := by
      rcases hr with ⟨h, _⟩ | ⟨_, _, h⟩ | ⟨k, _, h, _⟩
      · exact absurd HOK.out h
      · exact h
      · rw [hat] at h; cases h
    subst he
    have HR2 : Hid (∀ w', Below w2.heap.size w2 w' → Calls Try.prog 30 #[.slice a ds.length ca, .int .i64 id] w' fun e w'' => e = .returned (.int .i64 (-1)) ∧ Below w'.heap.size w' w'') := by rw [atZ_none hat] at HRA; exact HRA.out
    clear hr hat HRA
    go_wp2_with fail
    refine (HR2.out _ (nwT HJ.out.below HBC.out)).mono ?_
    rintro e wd ⟨rfl, hbd⟩
    have HBD : Hid (Below wj.heap.size wj wd) := nwT HBC.out hbd
    clear b0 b1 b2 b3 hbd HR2 HBC
    have HJ2 : Hid (Below wj.heap.size wj wd) := HBD.out
    have H2J : Hid (Below w2.heap.size w2 wd) := nwT HJ.out.below HJ2.out
    have HEQ1 : Hid (Calls Try.prog 16 #[.slice ax x.length cx, .slice aw x.length cw] wd fun e w' => e = .returned (.bool true) ∧ Below wd.heap.size wd w') := by
      have h := eqDevs_any ax aw x x cx cw wd (HVX.out.below HJ2.out) (HSF.out _ H2J.out (fun k _ h => HJ2.out.block k h)) HJ.out.small
      rw [decide_eq_true rfl] at h; exact h
    have HEP : Hid (∀ w', Below wj.heap.size wj w' → Calls Try.prog 32 #[.slice ap p.length cp, .slice ad p.length cd] w' fun e w'' => e = .returned (.bool true) ∧ Below w'.heap.size w' w'') := fun w' hb => by
      have h := eqPtrs_any ap ad p p cp cd w' (HJ.out.pa.below hb (Nat.le_refl _)) (HJ.out.pd.below hb (Nat.le_refl _)) (by have := HJ.out.pl; unfold maxLen; omega)
      rw [decide_eq_true rfl] at h; exact h
    clear HVX0
    go_wp2_with (first | (go_at_call 12; refine (errnum_w _ _).mono ?_; rintro e w' ⟨rfl, rfl⟩) | fail)
    refine HEQ1.out.mono ?_
    rintro e wk ⟨rfl, hbk⟩
    have HBK : Hid (Below wj.heap.size wj wk) := nwT HJ2.out hbk
    clear HEQ1 hbk
    go_wp2_with fail
    refine (HEP.out _ HBK.out).mono ?_
    rintro e wl ⟨rfl, hbl⟩
    have HBL : Hid (Below wj.heap.size wj wl) := nwT HBK.out hbl
    clear HEP hbl HBK
    go_wp2_with (first | (go_at_call 12; refine (errnum_w _ _).mono ?_; rintro e w' ⟨rfl, rfl⟩) | fail)
    refine (HEQ2.out _ (nwT HJ.out.below HBL.out)).mono ?_
    rintro e wm ⟨rfl, hbm⟩
    have HBM : Hid (Below wj.heap.size wj wm) := nwT HBL.out hbm
    clear hbm HBL
    obtain ⟨b0, b1, b2, b3, _⟩ := four (HBOX.out _ (nwT HJ.out.below HBM.out))
    go_wp2_with fail
    refine (HEP2.out _ (nwT HJ.out.below HBM.out)).mono ?_
    rintro e wn ⟨rfl, hbn⟩
    have HBN : Hid (Below wj.heap.size wj wn) := nwT HBM.out hbn
    clear hbn HBM b0 b1 b2 b3
    go_wp2_with fail
    refine (HCK.out _ (nwT HJ.out.below HBN.out)).mono ?_
    rintro e wo ⟨rfl, hbo⟩
    have HBO : Hid (Below wj.heap.size wj wo) := nwT HBN.out hbo
    clear hbo HBN
    have HSPO : Hid (Calls Try.prog 34 #[.slice ax x.length cx] wo fun e w' => e = .returned (.tuple #[]) ∧ Below w2.heap.size w2 w' ∧ DevsAt w' aw x) := by
      have hz := HBO.out.size
      have ht := HTOP.out
      refine (devs_spoil ax x.length cx w2.heap.size top wo (by
        rcases HSP.out with h | ⟨G, h1, h2, h3, h4⟩
        · exact .inl h
        · exact .inr ⟨G, h1, h2, h3, h4.kp (Kp.of_below HBO.out (by omega))⟩) HJ.out.small.1).mono ?_
      rintro e w' ⟨he, hb, hk⟩
      have h2 := (nwT HJ.out.below HBO.out).trans hb
      exact ⟨he, h2, HSF.out w' h2 (fun k h1 h3 => (hk k h1 (by omega)).trans (HBO.out.block k h3))⟩
    go_wp2_with (first | (go_at_call 12; refine (errnum_w _ _).mono ?_; rintro e w' ⟨rfl, rfl⟩) | fail)
    refine HSPO.out.mono ?_
    rintro e ws ⟨rfl, h2s, hvw⟩
    have HVW : Hid (DevsAt ws aw x) := hvw
    clear HSPO hvw HSF HSP HVX
    go_wp2_with fail
    refine (HEQ2.out _ h2s).mono ?_
    rintro e wt ⟨rfl, hbt⟩
    have HVT : Hid (DevsAt wt aw x) := HVW.out.below hbt
    have H2T : Hid (Below w2.heap.size w2 wt) := nwT h2s hbt
    have HBE : Hid (Below w.heap.size w wt) := nwT HB2.out H2T.out
    clear hbt h2s HVW HEQ2
    by_cases her : er = 0
    case neg =>
      have h1 : (er == 0) = false := beq_eq_false_iff_ne.2 her
      have h2 : (er != 0) = true := bne_iff_ne.2 her
      have h3 : decide (er = 0) = false := decide_eq_false her
      go_wp2_with fail
      go_ret2
      exact ⟨⟨a, ds, ca, rfl, HL.out _ H2T.out, HCA.out, HS.out⟩, HBE.out⟩
    case pos =>
    have HSD : Hid (SmallL x) := HJ.out.small
    have HCP : Hid (Calls Try.prog 8 #[.slice aw x.length cw] wt fun e w' => (∃ v, e = .returned v ∧ OwnDevs w' wt.heap.size v x) ∧ Below wt.heap.size wt w') := copyDevs_any aw x cw wt HVT.out HSD.out
    clear HJ
    subst her
    go_wp2_with fail
    refine HCP.out.mono ?_
    rintro e wz ⟨⟨u, rfl, hu⟩, hbz⟩
    obtain ⟨az, cz, rfl, hvz, hcz⟩ := hu.at
    have HZ : Hid (DevsAt wz az x ∧ NilOk az cz x.length ∧ Below w.heap.size w wz) := ⟨hvz, hcz, nwT HBE.out hbz⟩
    clear hu hbz hvz hcz
    go_wp2_with fail
    go_ret2
    exact ⟨⟨az, x, cz, rfl, HZ.out.1, HZ.out.2.1, HSD.out⟩, HZ.out.2.2⟩
  case some k =>
    have hkl := atD_lt hat
    obtain ⟨ud, hud⟩ : ∃ ud, usedD (ds.getD k DZ) = ud := ⟨_, rfl⟩
    have he : e = .returned (.tuple #[.int .i64 ud, .int .i64 0]) := by
      rcases hr with ⟨h, _⟩ | ⟨_, h, _⟩ | ⟨j, _, h, h2⟩
      · exact absurd HOK.out h
      · rw [hat] at h; cases h
      · rw [hat] at h; injection h with h; subst h; rw [h2, hud]
    subst he
    have HR2 : Hid (∀ w', Below w2.heap.size w2 w' → Calls Try.prog 30 #[.slice a ds.length ca, .int .i64 id] w' fun e w'' => e = .returned (.int .i64 (k : Int)) ∧ Below w'.heap.size w' w'') := by rw [atZ_some hat] at HRA; exact HRA.out
    have hk0 : (0 : Int) ≤ (k : Int) := by omega
    have hki : (k : Int) < (ds.length : Int) := by omega
    clear hr hat HRA
    go_wp2_with fail
    refine (HR2.out _ (nwT HJ.out.below HBC.out)).mono ?_
    rintro e wd ⟨rfl, hbd⟩
    have HBD : Hid (Below wj.heap.size wj wd) := nwT HBC.out hbd
    clear b0 b1 b2 b3 hbd HR2 HBC
    obtain ⟨bb, oo, rfl, hdi⟩ := (HL.out _ (nwT HJ.out.below HBD.out)).dev hkl
    obtain ⟨af, cf, al, cl, ⟨d0, d1, d2, d3⟩, hval⟩ := hdi.val
    have HRU : Hid (Calls Try.prog 31 #[.agg #[.int .i64 (ds.getD k DZ).id, .int .i64 (ds.getD k DZ).size, .slice af (ds.getD k DZ).free.length cf, .slice al (ds.getD k DZ).late.length cl]] wd fun e w' => e = .returned (.int .i64 ud) ∧ Below wd.heap.size wd w') := by
      have := rused_any _ (ds.getD k DZ) wd hval (HOK.out.2 k hkl).2
      rwa [hud] at this
    generalize (ds.getD k DZ).id = di at d0 HRU
    generalize (ds.getD k DZ).size = dz at d1 HRU
    generalize (ds.getD k DZ).free.length = df at d2 HRU
    generalize (ds.getD k DZ).late.length = dl at d3 HRU
    clear hdi hval hud
    go_wp2_with fail
    refine HRU.out.mono ?_
    rintro e wf ⟨rfl, hbf⟩
    have HBF : Hid (Below wj.heap.size wj wf) := nwT HBD.out hbf
    clear d0 d1 d2 d3 hbf HRU HBD
    have HJ2 : Hid (Below wj.heap.size wj wf) := HBF.out
    have H2J : Hid (Below w2.heap.size w2 wf) := nwT HJ.out.below HJ2.out
    have HEQ1 : Hid (Calls Try.prog 16 #[.slice ax x.length cx, .slice aw x.length cw] wf fun e w' => e = .returned (.bool true) ∧ Below wf.heap.size wf w') := by
      have h := eqDevs_any ax aw x x cx cw wf (HVX.out.below HJ2.out) (HSF.out _ H2J.out (fun k _ h => HJ2.out.block k h)) HJ.out.small
      rw [decide_eq_true rfl] at h; exact h
    have HEP : Hid (∀ w', Below wj.heap.size wj w' → Calls Try.prog 32 #[.slice ap p.length cp, .slice ad p.length cd] w' fun e w'' => e = .returned (.bool true) ∧ Below w'.heap.size w' w'') := fun w' hb => by
      have h := eqPtrs_any ap ad p p cp cd w' (HJ.out.pa.below hb (Nat.le_refl _)) (HJ.out.pd.below hb (Nat.le_refl _)) (by have := HJ.out.pl; unfold maxLen; omega)
      rw [decide_eq_true rfl] at h; exact h
    clear HVX0
    go_wp2_with (first | (go_at_call 12; refine (errnum_w _ _).mono ?_; rintro e w' ⟨rfl, rfl⟩) | fail)
    refine HEQ1.out.mono ?_
    rintro e wk ⟨rfl, hbk⟩
    have HBK : Hid (Below wj.heap.size wj wk) := nwT HJ2.out hbk
    clear HEQ1 hbk
    go_wp2_with fail
    refine (HEP.out _ HBK.out).mono ?_
    rintro e wl ⟨rfl, hbl⟩
    have HBL : Hid (Below wj.heap.size wj wl) := nwT HBK.out hbl
    clear HEP hbl HBK
    go_wp2_with (first | (go_at_call 12; refine (errnum_w _ _).mono ?_; rintro e w' ⟨rfl, rfl⟩) | fail)
    refine (HEQ2.out _ (nwT HJ.out.below HBL.out)).mono ?_
    rintro e wm ⟨rfl, hbm⟩
    have HBM : Hid (Below wj.heap.size wj wm) := nwT HBL.out hbm
    clear hbm HBL
    obtain ⟨b0, b1, b2, b3, _⟩ := four (HBOX.out _ (nwT HJ.out.below HBM.out))
    go_wp2_with fail
    refine (HEP2.out _ (nwT HJ.out.below HBM.out)).mono ?_
    rintro e wn ⟨rfl, hbn⟩
    have HBN : Hid (Below wj.heap.size wj wn) := nwT HBM.out hbn
    clear hbn HBM b0 b1 b2 b3
    go_wp2_with fail
    refine (HCK.out _ (nwT HJ.out.below HBN.out)).mono ?_
    rintro e wo ⟨rfl, hbo⟩
    have HBO : Hid (Below wj.heap.size wj wo) := nwT HBN.out hbo
    clear hbo HBN
    have HSPO : Hid (Calls Try.prog 34 #[.slice ax x.length cx] wo fun e w' => e = .returned (.tuple #[]) ∧ Below w2.heap.size w2 w' ∧ DevsAt w' aw x) := by
      have hz := HBO.out.size
      have ht := HTOP.out
      refine (devs_spoil ax x.length cx w2.heap.size top wo (by
        rcases HSP.out with h | ⟨G, h1, h2, h3, h4⟩
        · exact .inl h
        · exact .inr ⟨G, h1, h2, h3, h4.kp (Kp.of_below HBO.out (by omega))⟩) HJ.out.small.1).mono ?_
      rintro e w' ⟨he, hb, hk⟩
      have h2 := (nwT HJ.out.below HBO.out).trans hb
      exact ⟨he, h2, HSF.out w' h2 (fun k h1 h3 => (hk k h1 (by omega)).trans (HBO.out.block k h3))⟩
    go_wp2_with (first | (go_at_call 12; refine (errnum_w _ _).mono ?_; rintro e w' ⟨rfl, rfl⟩) | fail)
    refine HSPO.out.mono ?_
    rintro e ws ⟨rfl, h2s, hvw⟩
    have HVW : Hid (DevsAt ws aw x) := hvw
    clear HSPO hvw HSF HSP HVX
    go_wp2_with fail
    refine (HEQ2.out _ h2s).mono ?_
    rintro e wt ⟨rfl, hbt⟩
    have HVT : Hid (DevsAt wt aw x) := HVW.out.below hbt
    have H2T : Hid (Below w2.heap.size w2 wt) := nwT h2s hbt
    have HBE : Hid (Below w.heap.size w wt) := nwT HB2.out H2T.out
    clear hbt h2s HVW HEQ2
    by_cases her : er = 0
    case neg =>
      have h1 : (er == 0) = false := beq_eq_false_iff_ne.2 her
      have h2 : (er != 0) = true := bne_iff_ne.2 her
      have h3 : decide (er = 0) = false := decide_eq_false her
      go_wp2_with fail
      go_ret2
      exact ⟨⟨some ⟨bb, oo, none⟩, ds, ca, rfl, HL.out _ H2T.out, HCA.out, HS.out⟩, HBE.out⟩
    case pos =>
    have HSD : Hid (SmallL x) := HJ.out.small
    have HCP : Hid (Calls Try.prog 8 #[.slice aw x.length cw] wt fun e w' => (∃ v, e = .returned v ∧ OwnDevs w' wt.heap.size v x) ∧ Below wt.heap.size wt w') := copyDevs_any aw x cw wt HVT.out HSD.out
    clear HJ
    subst her
    go_wp2_with fail
    refine HCP.out.mono ?_
    rintro e wz ⟨⟨u, rfl, hu⟩, hbz⟩
    obtain ⟨az, cz, rfl, hvz, hcz⟩ := hu.at
    have HZ : Hid (DevsAt wz az x ∧ NilOk az cz x.length ∧ Below w.heap.size w wz) := ⟨hvz, hcz, nwT HBE.out hbz⟩
    clear hu hbz hvz hcz
    go_wp2_with fail
    go_ret2
    exact ⟨⟨az, x, cz, rfl, HZ.out.1, HZ.out.2.1, HSD.out⟩, HZ.out.2.2⟩

theorem step_any : StepOk := fun a ds ca A pa pc w hv hc hs hp hpl => step_go a ds ca A.act A.n A.id A.ps pa pc w hv hc hs hp hpl

end Go.Proofs.Ytheomnafmjmpdaa

/- The law RoomExact, where each step is what it should be. -/
namespace Go.Proofs.Ytheomnafmjmpdaa
open Go.RowKit

structure Held7 (w : World) (a : Option Addr) (ca : Nat) (ds : List DevD) : Prop where
  at' : DevsAt w a ds
  cap : NilOk a ca ds.length
  small : SmallL ds

set_option maxRecDepth 100000 in
set_option maxHeartbeats 8000000 in
theorem exact_of (HS : StepOk) : LawOk 3 := by
  intro v ds l w hv hd hl
  have HST : Hid StepOk := HS
  have HVA : Hid (ScrVal w v ds l) := hv
  obtain ⟨av, ca, aL, cL, rfl, hV, hL⟩ := id hv
  have HHV : Hid (∀ w', Below w.heap.size w w' → Calls Try.prog 7 #[.agg #[.slice av ds.length ca, .slice aL l.length cL]] w' (HvPostD ds l w')) := fun w' hb => heavy_any _ ds l w' (ScrVal.below HVA.out hb) hd hl
  have HV : Hid (DevsAt w av ds) := hV.1
  have HL : Hid (ActsAt w aL l) := hL
  have HB0 : Hid (Below w.heap.size w (w.alloc (.cells #[.slice av ds.length ca, .slice aL l.length cL] 25))) := nwA (nwR w) _
  have HX0 : Hid ((w.alloc (.cells #[.slice av ds.length ca, .slice aL l.length cL] 25)).heap[w.heap.size]? = some (.cells #[.slice av ds.length ca, .slice aL l.length cL] 25 (0, 0))) := heap_alloc_new w _
  have HWK : Hid (∀ w', Calls Try.prog 10 #[] w' fun e w'' => e = .returned (.bool true) ∧ Below w'.heap.size w' w'') := wakes_any
  clear hv hd hl hV hL HVA HS
  obtain ⟨x0, x1, _⟩ := two HX0.out
  go_enter Try.func3, Try.ntmps3
  go_wp2_with fail
  generalize w.alloc (.cells #[.slice av ds.length ca, .slice aL l.length cL] 25) = WB at HB0 HX0 x0 x1 ⊢
  refine (HHV.out WB HB0.out).mono ?_
  rintro e w1 ⟨q, rfl, hb1, h1⟩
  have HB1 : Hid (Below w.heap.size w w1) := nwT HB0.out hb1
  have HX1 : Hid (w1.heap[w.heap.size]? = some (.cells #[.slice av ds.length ca, .slice aL l.length cL] 25 (0, 0))) := (hb1.block _ (Array.getElem?_eq_some_iff.1 HX0.out).1).trans HX0.out
  clear x0 x1 hb1 HHV HX0 HB0
  cases q
  case true =>
    clear h1
    go_wp2_with fail
    go_ret
    exact ⟨rfl, HB1.out⟩
  case false =>
  obtain ⟨hsw, hla⟩ := h1 rfl
  have HSW : Hid (SmallL ds) := hsw
  have HLA : Hid (∀ x ∈ l, x.ps.length ≤ 800) := hla.2
  have hll := hla.1
  have HXX : Hid (∀ w', Below w1.heap.size w1 w' → w'.cell? ⟨w.heap.size, 0, none⟩ = some (.slice av ds.length ca) ∧ w'.cell? ⟨w.heap.size, 1, none⟩ = some (.slice aL l.length cL)) := fun w' h => by
    have h := two ((h.block _ (Array.getElem?_eq_some_iff.1 HX1.out).1).trans HX1.out)
    exact ⟨h.1, h.2.1⟩
  have HCV : Hid (Calls Try.prog 8 #[.slice av ds.length ca] w1 fun e w'' => (∃ v, e = .returned v ∧ OwnDevs w'' w1.heap.size v ds) ∧ Below w1.heap.size w1 w'') := copyDevs_any av ds ca w1 (HV.out.below HB1.out) HSW.out
  clear h1 hsw hla HX1
  obtain ⟨x0, x1⟩ := HXX.out w1 (nwR w1)
  go_wp2_with fail
  refine HCV.out.mono ?_
  rintro e wC ⟨⟨vC, rfl, hoC⟩, hbC⟩
  have HBC : Hid (Below w1.heap.size w1 wC) := hbC
  obtain ⟨a0, c0, rfl, hva0, hca0⟩ := hoC.at
  have HH0 : Hid (Held7 wC a0 c0 ds) := ⟨hva0, hca0, HSW.out⟩
  clear x0 x1 hbC hoC hva0 hca0 HCV
  go_wp2_with fail
  go_loopw [3, 4] (fun v3 v4 wr => ∃ (i : Nat) (a' : Option Addr) (c' : Nat) (ds' : List DevD), i ≤ l.length ∧ v4 = .int .i64 i ∧ v3 = .slice a' ds'.length c' ∧ Hid (Held7 wr a' c' ds') ∧ Hid (Below w1.heap.size w1 wr))
    (fun _ v4 _ => l.length - (intOf v4).toNat)
  case atStart => exact ⟨0, a0, c0, ds, by omega, rfl, rfl, HH0, HBC⟩
  case round =>
    obtain ⟨i, a', c', ds', hi, rfl, rfl, HHr, HBR⟩ := hrel
    obtain ⟨_, x1⟩ := HXX.out wr HBR.out
    by_cases hil : i < l.length
    case neg =>
      have hili : ¬ (i : Int) < (l.length : Int) := by omega
      have HBE : Hid (Below w.heap.size w wr) := nwT HB1.out HBR.out
      go_wp2_with fail
      refine (HWK.out wr).mono ?_
      rintro e wF ⟨rfl, hbF⟩
      have HBF : Hid (Below w.heap.size w wF) := nwT HBE.out hbF
      clear hbF
      go_wp2_with fail
      go_ret
      exact ⟨rfl, HBF.out⟩
    case pos =>
    have hili : (i : Int) < (l.length : Int) := by omega
    by_cases h10 : i < 12
    case neg =>
      have h10i : ¬ (i : Int) < 12 := by omega
      have HBE : Hid (Below w.heap.size w wr) := nwT HB1.out HBR.out
      go_wp2_with fail
      refine (HWK.out wr).mono ?_
      rintro e wF ⟨rfl, hbF⟩
      have HBF : Hid (Below w.heap.size w wF) := nwT HBE.out hbF
      clear hbF
      go_wp2_with fail
      go_ret
      exact ⟨rfl, HBF.out⟩
    case pos =>
    have h10i : (i : Int) < 12 := by omega
    have hi0 : (0 : Int) ≤ (i : Int) := by omega
    obtain ⟨b1, o1, rfl, pa, pc, ⟨d0, d1, d2, d3⟩, hps⟩ := (HL.out.below (nwT HB1.out HBR.out)).act hil
    have HPL : Hid ((l.getD i act0).ps.length ≤ 100000) := by have := HLA.out _ (getD_mem act0 hil); show _ ≤ _; omega
    generalize l.getD i act0 = A at d0 d1 d2 d3 hps HPL
    have HSC : Hid (Calls Try.prog 9 #[.slice a' ds'.length c', .agg #[.int .i64 A.act, .int .i64 A.n, .int .i64 A.id, .slice pa A.ps.length pc]] wr fun e w' => (∃ a' ds' c', e = .returned (.tuple #[.slice a' (ds' : List DevD).length c', .bool true]) ∧ DevsAt w' a' ds' ∧ NilOk a' c' ds'.length ∧ SmallL ds') ∧ Below wr.heap.size wr w') := HST.out a' ds' c' A pa pc wr HHr.out.at' HHr.out.cap HHr.out.small hps HPL.out
    clear hps HPL HHr
    go_wp2_with fail
    refine HSC.out.mono ?_
    rintro e w5 ⟨⟨a5, ds5, c5, rfl, h5, h6, h7⟩, hb5⟩
    have HH5 : Hid (Held7 w5 a5 c5 ds5) := ⟨h5, h6, h7⟩
    have HB5 : Hid (Below w1.heap.size w1 w5) := nwT HBR.out hb5
    clear h5 h6 h7 hb5 HSC d0 d1 d2 d3 x1
    go_wp2_with fail
    go_roundw
    case rel => exact ⟨i + 1, a5, c5, ds5, by omega, by go_num, by first | rfl | trivial, HH5, HB5⟩
    case measure => simp [intOf]; omega

end Go.Proofs.Ytheomnafmjmpdaa
