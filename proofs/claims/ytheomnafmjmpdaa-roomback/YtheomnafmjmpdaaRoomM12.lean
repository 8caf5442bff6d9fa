/- Laid together: Roombl. -/
import Derived.Test.YtheomnafmjmpdaaRoomM11
/- The law RoomBack walked. -/
namespace Go.Proofs.Ytheomnafmjmpdaa
open Go.RowKit

set_option maxRecDepth 100000 in
set_option maxHeartbeats 16000000 in
theorem back_walk : LawOk 4 := by
  intro v ds l w hv hd hl
  have HVA : Hid (ScrVal w v ds l) := hv
  obtain ⟨da, dc, la, lc, rfl, ⟨hV, hN⟩, _⟩ := id hv
  have HHV : Hid (∀ w', Below w.heap.size w w' → Calls Try.prog 7 #[.agg #[.slice da ds.length dc, .slice la l.length lc]] w' (HvPostD ds l w')) := fun w' hb => heavy_any _ ds l w' (ScrVal.below HVA.out hb) hd hl
  have HV : Hid (DevsAt w da ds) := hV
  have HN : Hid (NilOk da dc ds.length) := hN
  have HB0 : Hid (Below w.heap.size w (w.alloc (.cells #[.slice da ds.length dc, .slice la l.length lc] 25))) := nwA (nwR w) _
  have HX0 : Hid ((w.alloc (.cells #[.slice da ds.length dc, .slice la l.length lc] 25)).heap[w.heap.size]? = some (.cells #[.slice da ds.length dc, .slice la l.length lc] 25 (0, 0))) := heap_alloc_new w _
  have HWK : Hid (∀ w', Calls Try.prog 10 #[] w' fun e w'' => e = .returned (.bool true) ∧ Below w'.heap.size w' w'') := wakes_any
  clear hv hd hl hV hN HVA
  obtain ⟨x0, x1, _⟩ := two HX0.out
  go_enter Try.func4, Try.ntmps4
  go_wp2_with fail
  generalize w.alloc (.cells #[.slice da ds.length dc, .slice la l.length lc] 25) = WB at HB0 HX0 x0 x1 ⊢
  refine (HHV.out WB HB0.out).mono ?_
  rintro e w1 ⟨q, rfl, hb1, h1⟩
  have HB1 : Hid (Below w.heap.size w w1) := nwT HB0.out hb1
  have HX1 : Hid (w1.heap[w.heap.size]? = some (.cells #[.slice da ds.length dc, .slice la l.length lc] 25 (0, 0))) := (hb1.block _ (Array.getElem?_eq_some_iff.1 HX0.out).1).trans HX0.out
  clear x0 x1 hb1 HHV HX0 HB0
  cases q
  case true =>
    clear h1
    go_wp2_with fail
    go_ret
    exact ⟨rfl, HB1.out⟩
  case false =>
  obtain ⟨hsl, _⟩ := h1 rfl
  have HCM : Hid (Calls Try.prog 11 #[.slice da ds.length dc] w1 fun e w' => ActR ds (ds.map comD) w1.heap.size e w' ∧ Below w1.heap.size w1 w') := commit_dev da ds dc w1 (HV.out.below HB1.out) HN.out hsl
  obtain ⟨x0, x1, _⟩ := two HX1.out
  clear h1 hsl HX1
  go_wp2_with fail
  refine HCM.out.mono ?_
  rintro e w2 ⟨ho, hb2⟩
  have HB2 : Hid (Below w.heap.size w w2) := nwT HB1.out hb2
  clear x0 x1 hb2 HCM
  rcases ho with ⟨_, rfl⟩ | ⟨hok, u, rfl, ho⟩
  · go_wp2_with (go_at_call 12; refine (errnum_w _ _).mono ?_; rintro e w' ⟨rfl, rfl⟩)
    go_ret
    exact ⟨rfl, HB2.out⟩
  obtain ⟨m, hm⟩ : ∃ m, m = ds.map comD := ⟨_, rfl⟩
  have HM : Hid (m = ds.map comD) := hm
  rw [← hm] at ho
  obtain ⟨a, c, rfl, ha, hn⟩ := ho.at
  have HOK : Hid (DevsOk ds) := hok
  have HOM : Hid (DevsOk m) := by show DevsOk m; rw [hm]; exact coms_ok hok
  have HA : Hid (∀ w', Below w2.heap.size w2 w' → DevsAt w' a m) := fun w' h => ha.below h
  have HNA : Hid (NilOk a c m.length) := hn
  clear hok hm ho ha hn
  obtain ⟨N, hN⟩ : ∃ N, cntN m 0 = N := ⟨_, rfl⟩
  have HNN : Hid (cntN m 0 = N) := hN
  obtain ⟨hN0, hN1⟩ : 0 ≤ N ∧ N ≤ 384 := by rw [← hN]; exact cntN_bd HOM.out 0
  clear hN
  go_wp2_with (go_at_call 12; refine (errnum_w _ _).mono ?_; rintro e w' ⟨rfl, rfl⟩)
  refine (count_ok a m c 0 N w2 (HA.out w2 (nwR w2)) HNA.out HOM.out HNN.out).mono ?_
  rintro e w3 ⟨rfl, hb3⟩
  have HB3 : Hid (Below w2.heap.size w2 w3) := hb3
  clear hb3
  go_wp2_with (go_at_call 12; refine (errnum_w _ _).mono ?_; rintro e w' ⟨rfl, rfl⟩)
  go_loopw [7] (fun s7 wr => ∃ (k : Nat), k ≤ 20 ∧ s7 = .int .i64 k ∧ Hid (Below w2.heap.size w2 wr))
    (fun s7 _ => 20 - (intOf s7).toNat)
  case atStart => exact ⟨0, by omega, rfl, HB3⟩
  case round =>
    obtain ⟨k, hk, rfl, HBR⟩ := hrel
    by_cases hkN : (k : Int) ≤ N
    case neg =>
      go_wp2_with fail
      refine (nil_ok wr).mono ?_
      rintro e w4 ⟨rfl, hb4⟩
      have HB4 : Hid (Below w.heap.size w w4) := nwT (nwT HB2.out HBR.out) hb4
      clear hb4
      go_wp2_with fail
      refine (HWK.out w4).mono ?_
      rintro e w5 ⟨rfl, hb5⟩
      have HB5 : Hid (Below w.heap.size w w5) := nwT HB4.out hb5
      clear hb5
      go_wp2_with fail
      go_ret
      exact ⟨rfl, HB5.out⟩
    case pos =>
    by_cases hk20 : (k : Int) < 20
    case neg =>
      go_wp2_with fail
      refine (nil_ok wr).mono ?_
      rintro e w4 ⟨rfl, hb4⟩
      have HB4 : Hid (Below w.heap.size w w4) := nwT (nwT HB2.out HBR.out) hb4
      clear hb4
      go_wp2_with fail
      refine (HWK.out w4).mono ?_
      rintro e w5 ⟨rfl, hb5⟩
      have HB5 : Hid (Below w.heap.size w w5) := nwT HB4.out hb5
      clear hb5
      go_wp2_with fail
      go_ret
      exact ⟨rfl, HB5.out⟩
    case pos =>
    have hk0 : (0 : Int) ≤ (k : Int) := by omega
    have HR : Hid (BackR m k (takN m (restK m 0 (List.range m.length)) k).1 (takN m (restK m 0 (List.range m.length)) k).2) := room_back HOK.out HM.out (by rw [HNN.out]; exact hkN)
    have HTK : Hid (∀ ps x, (takN m (restK m 0 (List.range m.length)) k).1 = ps → (takN m (restK m 0 (List.range m.length)) k).2 = x → Calls Try.prog 14 #[.slice a m.length c, .int .i64 k, .int .i64 0] wr fun e w' => (∃ pa pc va vc, e = .returned (.tuple #[.slice pa ps.length pc, .slice va x.length vc, .int .i64 0]) ∧ SegsAt w' pa ps ∧ DevsAt w' va x ∧ NilOk va vc x.length) ∧ Below wr.heap.size wr w') := fun ps x h1 h2 => take_ok a m c k wr (HA.out wr HBR.out) HNA.out HOM.out (by rw [HNN.out]; exact hkN) h1 h2
    obtain ⟨ps, hps⟩ : ∃ ps, (takN m (restK m 0 (List.range m.length)) k).1 = ps := ⟨_, rfl⟩
    obtain ⟨x, hx⟩ : ∃ x, (takN m (restK m 0 (List.range m.length)) k).2 = x := ⟨_, rfl⟩
    have HT : Hid (Calls Try.prog 14 #[.slice a m.length c, .int .i64 k, .int .i64 0] wr fun e w' => (∃ pa pc va vc, e = .returned (.tuple #[.slice pa ps.length pc, .slice va x.length vc, .int .i64 0]) ∧ SegsAt w' pa ps ∧ DevsAt w' va x ∧ NilOk va vc x.length) ∧ Below wr.heap.size wr w') := HTK.out ps x hps hx
    obtain ⟨hlk, hnd, hxok, hxc, y, hgy, hyok, hym⟩ : BackR m k ps x := by rw [← hps, ← hx]; exact HR.out
    rw [HNN.out] at hxc
    have HND : Hid (ps.Nodup) := hnd
    have HXO : Hid (DevsOk x) := hxok
    have HXC : Hid (cntN x 0 = N - (ps.length : Int)) := by rw [hlk]; exact hxc
    have HGY : Hid (givN x ps = (0, y)) := hgy
    have HYO : Hid (DevsOk y) := hyok
    have HYM : Hid (y.map comD = m) := hym
    clear hps hx hnd hxok hxc hgy hyok hym HTK HR
    subst hlk
    go_wp2_with fail
    refine HT.out.mono ?_
    rintro e w4 ⟨⟨pa, pc, va, vc, rfl, hps, hva, hvn⟩, hb4⟩
    have HB4 : Hid (Below wr.heap.size wr w4) := hb4
    have HP : Hid (∀ w', Below w4.heap.size w4 w' → SegsAt w' pa ps) := fun w' h => hps.below h (Nat.le_refl _)
    have HVX : Hid (∀ w', Below w4.heap.size w4 w' → DevsAt w' va x) := fun w' h => hva.below h
    have HVN : Hid (NilOk va vc x.length) := hvn
    clear hps hva hvn hb4 HT
    go_wp2_with fail
    refine (count_ok va x vc 0 (N - (ps.length : Int)) w4 (HVX.out w4 (nwR w4)) HVN.out HXO.out HXC.out).mono ?_
    rintro e w5 ⟨rfl, hb5⟩
    have HB5 : Hid (Below w4.heap.size w4 w5) := hb5
    clear hb5
    go_wp2_with fail
    refine (give_ok va x vc pa pc ps w5 (HVX.out w5 HB5.out) HVN.out HXO.out (HP.out w5 HB5.out) (by omega) HGY.out).mono ?_
    rintro e w6 ⟨⟨ya, yc, rfl, hya, hyn⟩, hb6⟩
    have HB6 : Hid (Below w4.heap.size w4 w6) := nwT HB5.out hb6
    have HC6 : Hid (Calls Try.prog 11 #[.slice ya y.length yc] w6 fun e w' => (∃ za zc, e = .returned (.tuple #[.slice za m.length zc, .int .i64 0]) ∧ DevsAt w' za m ∧ NilOk za zc m.length) ∧ Below w6.heap.size w6 w') := commit_ok ya y yc w6 hya hyn HYO.out HYM.out
    clear hya hyn hb6
    go_wp2_with fail
    refine HC6.out.mono ?_
    rintro e w7 ⟨⟨za, zc, rfl, hza, _⟩, hb7⟩
    have HB7 : Hid (Below w4.heap.size w4 w7) := nwT HB6.out hb7
    have HBW : Hid (Below w2.heap.size w2 w7) := nwT (nwT HBR.out HB4.out) HB7.out
    have HE7 : Hid (Calls Try.prog 16 #[.slice za m.length zc, .slice a m.length c] w7 fun e w' => e = .returned (.bool true) ∧ Below w7.heap.size w7 w') := by
      refine (eqDevs_any za a m m zc c w7 hza (HA.out w7 HBW.out) HOM.out.small).mono ?_
      rintro e w' ⟨rfl, hb⟩
      exact ⟨by simp, hb⟩
    clear hza hb7 HC6
    go_wp2_with (go_at_call 12; refine (errnum_w _ _).mono ?_; rintro e w' ⟨rfl, rfl⟩)
    refine HE7.out.mono ?_
    rintro e w8 ⟨rfl, hb8⟩
    have HB8 : Hid (Below w4.heap.size w4 w8) := nwT HB7.out hb8
    have HBX : Hid (Below w2.heap.size w2 w8) := nwT HBW.out hb8
    clear hb8 HE7 HB7 HBW
    go_wp2_with fail
    rename World => w8
    go_loopw [17] (fun s17 wr => ∃ (i : Nat), i ≤ ps.length ∧ s17 = .int .i64 i ∧ Hid (Below w8.heap.size w8 wr))
      (fun s17 _ => ps.length - (intOf s17).toNat)
    case atStart => exact ⟨0, by omega, rfl, nwR w8⟩
    case round =>
      obtain ⟨i, hi, rfl, HBI⟩ := hrel
      by_cases hip : i < ps.length
      case neg =>
        have hip2 : ¬ (i : Int) < (ps.length : Int) := by omega
        have HBT : Hid (Below w2.heap.size w2 wr) := nwT HBX.out HBI.out
        go_wp2_with fail
        go_roundw
        case rel => exact ⟨ps.length + 1, by omega, by go_num, HBT⟩
        case measure => simp [intOf]; omega
      case pos =>
      have hip2 : (i : Int) < (ps.length : Int) := by omega
      go_wp2_with fail
      go_loopw [18] (fun s18 wr => ∃ (j : Nat), j ≤ i ∧ s18 = .int .i64 j ∧ Hid (Below w8.heap.size w8 wr))
        (fun s18 _ => i - (intOf s18).toNat)
      case atStart => exact ⟨0, by omega, rfl, HBI⟩
      case round =>
        obtain ⟨j, hj, rfl, HBJ⟩ := hrel
        by_cases hji : j < i
        case neg =>
          have hji2 : ¬ (j : Int) < (i : Int) := by omega
          go_wp2_with fail
          go_roundw
          case rel => exact ⟨i + 1, by omega, by go_num, HBJ⟩
          case measure => simp [intOf]; omega
        case pos =>
        have hji2 : (j : Int) < (i : Int) := by omega
        have hjp : j < ps.length := by omega
        obtain ⟨b1, o1, rfl, x1, y1⟩ := (HP.out wr (nwT HB8.out HBJ.out)) i hip
        obtain ⟨b2, o2, e2, x2, y2⟩ := (HP.out wr (nwT HB8.out HBJ.out)) j hjp
        injection e2 with e2
        injection e2 with e2 e3
        subst e2; subst e3
        have he : ps.getD i (0, 0) ≠ ps.getD j (0, 0) := nodup_ne HND.out hip hjp (by omega)
        generalize ps.getD i (0, 0) = s at x1 y1 he
        generalize ps.getD j (0, 0) = t at x2 y2 he
        obtain ⟨p, q⟩ := s
        obtain ⟨p', q'⟩ := t
        by_cases hx : p = p'
        · subst hx
          have hy : (q == q') = false := by
            rw [beq_eq_false_iff_ne]; intro e; exact he (by rw [e])
          clear he
          go_wp2_with fail
          go_quiet (fail)
          go_wp2_with fail
          go_roundw
          case rel => exact ⟨j + 1, by omega, by go_num, below_drewN HBJ.out _⟩
          case measure => simp [intOf]; omega
        · have hx' : (p == p') = false := by
            rw [beq_eq_false_iff_ne]; exact hx
          clear he hx
          go_wp2_with fail
          go_quiet (fail)
          go_wp2_with fail
          go_roundw
          case rel => exact ⟨j + 1, by omega, by go_num, below_drewN HBJ.out _⟩
          case measure => simp [intOf]; omega

end Go.Proofs.Ytheomnafmjmpdaa
