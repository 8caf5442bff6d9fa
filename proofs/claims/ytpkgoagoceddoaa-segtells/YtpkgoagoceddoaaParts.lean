/- The law SegParts walked. -/
import Derived.Test.YtpkgoagoceddoaaMath
import Derived.Test.YtpkgoagoceddoaaOpen
namespace Go.Proofs.Ytpkgoagoceddoaa
open Go.RowKit

theorem memAny_two (r1 r2 : RowV) (k : Nat) : memAny [r1, r2] k = (memS r1.2.2 k || memS r2.2.2 k) := by simp [memAny]
theorem allOk_two (r1 r2 : RowV) : allOk [r1, r2] = (vOk r1.2.2 && vOk r2.2.2) := by simp [allOk, vOk]

/-- what SegParts asks of two valid lists -/
theorem parts_math {l m : List (Int × Int)} (hl : vOk l = true) (hm : vOk m = true) :
    twoOk l m = true ∧ vOk (lessOf l m) = true ∧ vOk (bothOf l m) = true ∧
    (∀ a b c d, jset [(a, c, bothOf l m), (b, d, lessOf l m)] = l) ∧ bothOf (lessOf l m) m = [] ∧ allIn (listOf l) = true ∧ ofSet (listOf l) = l ∧
    cntOf (lessOf l m) + cntOf (bothOf l m) = ((listOf l).length : Int) := by
  have h2 : twoOk l m = true := by simp [twoOk, hl, hm]
  have e1 : lessOf l m = segsOf (fun k => memS l k && !memS m k) := by rw [lessOf, h2]; rfl
  have e2 : bothOf l m = segsOf (fun k => memS l k && memS m k) := by rw [bothOf, h2]; rfl
  have v1 : vOk (lessOf l m) = true := by rw [e1]; exact (segsOf_ok _).1
  have v2 : vOk (bothOf l m) = true := by rw [e2]; exact (segsOf_ok _).1
  have m1 : ∀ k, k < 64 → memS (lessOf l m) k = (memS l k && !memS m k) := fun k hk => by rw [e1, (segsOf_ok _).2 k]; simp [hk]
  have m2 : ∀ k, k < 64 → memS (bothOf l m) k = (memS l k && memS m k) := fun k hk => by rw [e2, (segsOf_ok _).2 k]; simp [hk]
  refine ⟨h2, v1, v2, fun a b c d => ?_, ?_, allIn_listOf l 0 hl, ?_, ?_⟩
  · rw [jset, allOk_two]
    simp only [v1, v2, Bool.and_self, if_true]
    refine segsOf_self hl (fun k hk => ?_)
    rw [memAny_two, m1 k hk, m2 k hk]
    cases memS l k <;> cases memS m k <;> rfl
  · have h3 : twoOk (lessOf l m) m = true := by simp [twoOk, v1, hm]
    rw [bothOf, h3]
    refine segsOf_none (fun k hk => ?_)
    rw [m1 k hk]
    cases memS l k <;> cases memS m k <;> rfl
  · rw [ofSet, allIn_listOf l 0 hl]
    exact segsOf_self hl (fun k _ => memI_listOf l 0 hl k)
  · rw [cntOf, cntOf, v1, v2, listOf_len l 0 hl]
    simp only [if_true]
    rw [sumLen_card _ 0 (Int.le_refl 0) v1, sumLen_card _ 0 (Int.le_refl 0) v2, sumLen_card _ 0 (Int.le_refl 0) hl, cardB_congr 64 m1, cardB_congr 64 m2]
    exact cardB_split _ _ 64

structure PM (l m X Y : List (Int × Int)) (S : List Int) : Prop where
  two : twoOk l m = true
  vx : vOk X = true
  vy : vOk Y = true
  join : ∀ a b c d, jset [(a, c, Y), (b, d, X)] = l
  both : bothOf X m = []
  allin : allIn S = true
  of : ofSet S = l
  cnt : cntOf X + cntOf Y = (S.length : Int)

theorem pm_of {l m : List (Int × Int)} (hl : vOk l = true) (hm : vOk m = true) : PM l m (lessOf l m) (bothOf l m) (listOf l) := by
  obtain ⟨h1, h2, h3, h4, h5, h6, h7, h8⟩ := parts_math hl hm
  exact ⟨h1, h2, h3, h4, h5, h6, h7, h8⟩

theorem cnt_bd {X : List (Int × Int)} (h : vOk X = true) : 0 ≤ cntOf X ∧ cntOf X ≤ 64 := by
  have := sumLen_bd X 0 X.length h
  rw [List.take_length] at this
  rw [cntOf, h]
  simp only [if_true]
  omega

theorem wrap_small {x : Int} (h0 : 0 ≤ x) (h1 : x ≤ 1000000000000000000) : IntKind.i64.wrap x = x := by
  rw [IntKind.wrap_i64]
  omega

theorem len_of_own {w : World} {base : Nat} {v : Value} {l : List (Int × Int)} (h : OwnSegs w base v l) : l.length ≤ maxLen := by
  rcases h.2 with ⟨_, hn⟩ | ⟨g, cap, cur, _, _, _, hn, hm, _⟩
  · rw [hn]; exact Nat.zero_le _
  · omega

set_option maxRecDepth 100000 in
set_option maxHeartbeats 4000000 in
theorem parts_walk : LawOk 5 := by
  intro a ls ca b ns cb w hrows _ hl hn hr _
  have HR : Hid (RowsAt w a ls) := hrows
  have HRL : Hid (∀ i, i < ls.length → (ls.getD i row0).2.2.length ≤ 140737488351232) := hr
  clear hrows hr
  go_enter Try.func5, Try.ntmps5
  go_wp2_with fail
  obtain ⟨W0, hW0⟩ : ∃ W0, W0 = w.alloc (.cells #[.slice a ls.length ca, .slice b ns.length cb] 25) := ⟨_, rfl⟩
  have HN0 : Hid (Below w.heap.size w W0) := by rw [hW0]; exact nwA (nwR w) _
  have HR0 : Hid (RowsAt W0 a ls) := HR.out.below HN0.out (Nat.le_refl _)
  have HC0 : Hid (W0.cell? ⟨w.heap.size, 0, none⟩ = some (.slice a ls.length ca)) := by rw [hW0]; show _ = _; simp
  have HZ0 : Hid (w.heap.size < W0.heap.size) := by rw [hW0]; show _ < _; simp
  rw [← hW0]
  clear hW0 HR
  refine (heavy_any a b ls ca ns.length cb _ HR0.out hl hn HRL.out).mono ?_
  rintro e w1 ⟨q, rfl, hb1, hq⟩
  cases q
  · clear hq
    go_wp2_with fail
    go_loopw [3] (fun i wr => ∃ (k : Nat), k ≤ ls.length ∧ i = .int .i64 k ∧ Below W0.heap.size W0 wr)
      (fun i _ => ls.length - (intOf i).toNat)
    case atStart => exact ⟨0, by omega, rfl, hb1⟩
    case round =>
      obtain ⟨k, hk, rfl, hb⟩ := hrel
      have c0 : wr.cell? ⟨w.heap.size, 0, none⟩ = some (.slice a ls.length ca) := (hb.cell (p := ⟨w.heap.size, 0, none⟩) HZ0.out).trans HC0.out
      by_cases hk1 : (k : Int) + 1 < (ls.length : Int)
      · by_cases hk5 : (k : Int) < 5
        · have HL1 : Hid ((ls.getD k row0).2.2.length ≤ 140737488351232) := HRL.out k (by omega)
          have HL2 : Hid ((ls.getD (k + 1) row0).2.2.length ≤ 140737488351232) := HRL.out (k + 1) (by omega)
          have HA : Hid (SegsAt W0 (ls.getD k row0).1 (ls.getD k row0).2.2) := HR0.out.segs (by omega)
          have HB : Hid (SegsAt W0 (ls.getD (k + 1) row0).1 (ls.getD (k + 1) row0).2.2) := HR0.out.segs (by omega)
          have HRr := HR0.out.below hb (Nat.le_refl _)
          obtain ⟨b1, o1, ha1, x1, _, _⟩ := HRr k (by omega)
          obtain ⟨b2, o2, ha2, x2, _, _⟩ := HRr (k + 1) (by omega)
          clear HRr
          subst ha1
          simp only [Option.some.injEq, Addr.mk.injEq, and_true] at ha2
          obtain ⟨rfl, rfl⟩ := ha2
          generalize ls.getD k row0 = r1 at x1 HA HL1
          generalize ls.getD (k + 1) row0 = r2 at x2 HB HL2
          obtain ⟨ra, rca, l⟩ := r1
          obtain ⟨rb, rcb, m⟩ := r2
          simp only at x1 x2 HA HB HL1 HL2
          have hl1 : l.length ≤ maxLen := by have := HL1.out; unfold maxLen; omega
          have hl2 : m.length ≤ maxLen := by have := HL2.out; unfold maxLen; omega
          have hkl : (k : Int) < (ls.length : Int) := by omega
          have hwr : IntKind.i64.wrap ((k : Int) + 1) = (k : Int) + 1 := wrap_small (by omega) (by omega)
          have hkl1 : k + 1 < ls.length := by omega
          go_wp2_with fail
          go_quiet (fail)
          go_wp2_with fail
          have hbq : Below W0.heap.size W0 (wr.drewN nq) := below_drewN hb nq
          generalize wr.drewN nq = w2 at hbq ⊢
          clear c0 x1 x2 hb hwr hkl1
          refine (check_any ra l rca _ (HA.out.below hbq (Nat.le_refl _)) hl1).mono ?_
          rintro e w3 ⟨rfl, hb3⟩
          rw [show validFrom 0 l = vOk l from rfl]
          cases hv1 : vOk l
          · rw [show errOf false = 1 from rfl]
            go_wp2_with fail
            refine (num_any _ _).mono ?_
            rintro e w4 ⟨rfl, rfl⟩
            go_wp2_with fail
            go_roundw
            case rel => exact ⟨k + 1, by omega, by go_num, nwT hbq hb3⟩
            case measure => simp [intOf]; omega
          · rw [show errOf true = 0 from rfl]
            go_wp2_with fail
            refine (num_any _ _).mono ?_
            rintro e w4 ⟨rfl, rfl⟩
            go_wp2_with fail
            have hbq4 := nwT hbq hb3
            refine (check_any rb m rcb _ (HB.out.below hbq4 (Nat.le_refl _)) hl2).mono ?_
            rintro e w5 ⟨rfl, hb5⟩
            rw [show validFrom 0 m = vOk m from rfl]
            cases hv2 : vOk m
            · rw [show errOf false = 1 from rfl]
              go_wp2_with fail
              refine (num_any _ _).mono ?_
              rintro e w6 ⟨rfl, rfl⟩
              go_wp2_with fail
              go_roundw
              case rel => exact ⟨k + 1, by omega, by go_num, nwT hbq4 hb5⟩
              case measure => simp [intOf]; omega
            · rw [show errOf true = 0 from rfl]
              go_wp2_with fail
              refine (num_any _ _).mono ?_
              rintro e w6 ⟨rfl, rfl⟩
              go_wp2_with fail
              have hbq6 := nwT hbq4 hb5
              clear hbq4 hb5 hb3 hbq
              have PM0 : Hid (PM l m (lessOf l m) (bothOf l m) (listOf l)) := pm_of hv1 hv2
              have HNU : Hid (numsOf l = listOf l) := by show _ = _; rw [numsOf, hv1]; rfl
              refine (less_any ra rb l m rca rcb _ (HA.out.below hbq6 (Nat.le_refl _)) (HB.out.below hbq6 (Nat.le_refl _)) hl1 hl2).mono ?_
              rintro e w7 ⟨vx, rfl, hox, hb7⟩
              rw [PM0.out.two, show errOf true = 0 from rfl]
              have hbq7 := nwT hbq6 hb7
              clear hb7 hbq6
              generalize hX : lessOf l m = X at PM0 hox
              clear hX
              obtain ⟨ax, cx, rfl, hsx⟩ := hox.at
              have hlx := len_of_own hox
              have HX7 : Hid (SegsAt w7 ax X) := hsx
              clear hsx hox
              go_wp2_with fail
              refine (both_any ra rb l m rca rcb _ (HA.out.below hbq7 (Nat.le_refl _)) (HB.out.below hbq7 (Nat.le_refl _)) hl1 hl2).mono ?_
              rintro e w8 ⟨vy, rfl, hoy, hb8⟩
              rw [PM0.out.two, show errOf true = 0 from rfl]
              have hbq8 := nwT hbq7 hb8
              have HX8 : Hid (SegsAt w8 ax X) := HX7.out.below hb8 (Nat.le_refl _)
              clear hb8 hbq7 HX7
              generalize hY : bothOf l m = Y at PM0 hoy
              clear hY
              obtain ⟨ay, cy, rfl, hsy⟩ := hoy.at
              have hly := len_of_own hoy
              have HY8 : Hid (SegsAt w8 ay Y) := hsy
              clear hsy hoy
              go_wp2_with fail
              refine (join_any _ [(ay, cy, Y), (ax, cx, X)] 2 _ (rows2 cy cx 27 HY8.out hly HX8.out hlx) (by simp [maxLen])).mono ?_
              rintro e w9 ⟨vw, rfl, how, hb9⟩
              rw [PM0.out.join] at how
              rw [show allOk [(ay, cy, Y), (ax, cx, X)] = true from by rw [allOk_two]; simp only [PM0.out.vx, PM0.out.vy]; rfl, show errOf true = 0 from rfl]
              have hb9' := nwT (nwA (nwR _) _) hb9
              have hbq9 := nwT hbq8 hb9'
              have HX9 : Hid (SegsAt w9 ax X) := HX8.out.below hb9' (Nat.le_refl _)
              have HY9 : Hid (SegsAt w9 ay Y) := HY8.out.below hb9' (Nat.le_refl _)
              clear hb9 hbq8 HX8 HY8 hb9'
              obtain ⟨aw, cw, rfl, hsw⟩ := how.at
              have HW9 : Hid (SegsAt w9 aw l) := hsw
              clear hsw how
              go_wp2_with fail
              refine (both_any ax rb X m cx rcb _ HX9.out (HB.out.below hbq9 (Nat.le_refl _)) hlx hl2).mono ?_
              rintro e w10 ⟨vu, rfl, hou, hb10⟩
              rw [PM0.out.both] at hou
              rw [show twoOk X m = true from by rw [twoOk, PM0.out.vx, hv2]; rfl, show errOf true = 0 from rfl]
              have hbq10 := nwT hbq9 hb10
              have HX10 : Hid (SegsAt w10 ax X) := HX9.out.below hb10 (Nat.le_refl _)
              have HY10 : Hid (SegsAt w10 ay Y) := HY9.out.below hb10 (Nat.le_refl _)
              have HW10 : Hid (SegsAt w10 aw l) := HW9.out.below hb10 (Nat.le_refl _)
              clear hb10 hbq9 HX9 HY9 HW9
              obtain ⟨au, cu, rfl, _⟩ := hou.at
              clear hou
              go_wp2_with fail
              refine (list_any ra l rca _ (HA.out.below hbq10 (Nat.le_refl _)) hl1).mono ?_
              rintro e w11 ⟨vs, rfl, hos, hb11⟩
              rw [hv1, show errOf true = 0 from rfl]
              rw [HNU.out] at hos
              have hbq11 := nwT hbq10 hb11
              have HX11 : Hid (SegsAt w11 ax X) := HX10.out.below hb11 (Nat.le_refl _)
              have HY11 : Hid (SegsAt w11 ay Y) := HY10.out.below hb11 (Nat.le_refl _)
              have HW11 : Hid (SegsAt w11 aw l) := HW10.out.below hb11 (Nat.le_refl _)
              have hls : (listOf l).length ≤ 64 := by have := listOf_bd l l.length hv1; rwa [List.take_length] at this
              clear hb11 hbq10 HX10 HY10 HW10 HNU
              generalize listOf l = S at PM0 hos hls
              obtain ⟨aS, cS, rfl, hss⟩ := hos.at
              have HS11 : Hid (IntsAt w11 aS S) := hss
              clear hss hos
              go_wp2_with fail
              refine (of_any aS S cS _ HS11.out (by unfold maxLen; omega)).mono ?_
              rintro e w12 ⟨vt, rfl, hot, hb12⟩
              rw [PM0.out.of] at hot
              rw [PM0.out.allin, show errOf true = 0 from rfl]
              have hbq12 := nwT hbq11 hb12
              have HX12 : Hid (SegsAt w12 ax X) := HX11.out.below hb12 (Nat.le_refl _)
              have HY12 : Hid (SegsAt w12 ay Y) := HY11.out.below hb12 (Nat.le_refl _)
              have HW12 : Hid (SegsAt w12 aw l) := HW11.out.below hb12 (Nat.le_refl _)
              clear hb12 hbq11 HX11 HY11 HW11 HS11
              obtain ⟨aT, ct, rfl, hst⟩ := hot.at
              have HT12 : Hid (SegsAt w12 aT l) := hst
              clear hst hot
              go_wp2_with fail
              refine (count_any ax X cx _ HX12.out hlx).mono ?_
              rintro e w13 ⟨rfl, hb13⟩
              rw [PM0.out.vx, show errOf true = 0 from rfl]
              have hbq13 := nwT hbq12 hb13
              have HY13 : Hid (SegsAt w13 ay Y) := HY12.out.below hb13 (Nat.le_refl _)
              have HW13 : Hid (SegsAt w13 aw l) := HW12.out.below hb13 (Nat.le_refl _)
              have HT13 : Hid (SegsAt w13 aT l) := HT12.out.below hb13 (Nat.le_refl _)
              clear hb13 hbq12 HX12 HY12 HW12 HT12
              go_wp2_with fail
              refine (count_any ay Y cy _ HY13.out hly).mono ?_
              rintro e w14 ⟨rfl, hb14⟩
              rw [PM0.out.vy, show errOf true = 0 from rfl]
              have hbq14 := nwT hbq13 hb14
              have HW14 : Hid (SegsAt w14 aw l) := HW13.out.below hb14 (Nat.le_refl _)
              have HT14 : Hid (SegsAt w14 aT l) := HT13.out.below hb14 (Nat.le_refl _)
              clear hb14 hbq13 HY13 HW13 HT13
              have hbx := cnt_bd PM0.out.vx
              have hby := cnt_bd PM0.out.vy
              have hcn : (cntOf X + cntOf Y != (S.length : Int)) = false := by rw [PM0.out.cnt]; simp
              clear PM0
              generalize cntOf X = cX at hbx hcn ⊢
              generalize cntOf Y = cY at hby hcn ⊢
              go_wp2_with (go_at_call 15; refine (num_any _ _).mono ?_; rintro e w15 ⟨rfl, rfl⟩)
              refine (eqSegs_any aw ra l l cw rca _ HW14.out (HA.out.below hbq14 (Nat.le_refl _)) hl1).mono ?_
              rintro e w16 ⟨rfl, hb16⟩
              rw [decide_eq_true (rfl : l = l)]
              have hbq16 := nwT hbq14 hb16
              have HT16 : Hid (SegsAt w16 aT l) := HT14.out.below hb16 (Nat.le_refl _)
              clear hb16 hbq14 HW14 HT14
              go_wp2_with fail
              refine (eqSegs_any aT ra l l ct rca _ HT16.out (HA.out.below hbq16 (Nat.le_refl _)) hl1).mono ?_
              rintro e w17 ⟨rfl, hb17⟩
              rw [decide_eq_true (rfl : l = l)]
              have hbq17 := nwT hbq16 hb17
              clear hb17 hbq16 HT16
              go_wp2_with fail
              go_roundw
              case rel => exact ⟨k + 1, by omega, by go_num, hbq17⟩
              case measure => simp [intOf]; omega
        · go_wp2_with fail
          refine (wakes_any _).mono ?_
          rintro e w3 ⟨rfl, hb3⟩
          go_wp2_with fail
          go_ret
          exact ⟨rfl, nwT HN0.out (nwT hb hb3)⟩
      · go_wp2_with fail
        refine (wakes_any _).mono ?_
        rintro e w3 ⟨rfl, hb3⟩
        go_wp2_with fail
        go_ret
        exact ⟨rfl, nwT HN0.out (nwT hb hb3)⟩
  · go_wp2_with fail
    go_ret
    exact ⟨rfl, nwT HN0.out hb1⟩

end Go.Proofs.Ytpkgoagoceddoaa
