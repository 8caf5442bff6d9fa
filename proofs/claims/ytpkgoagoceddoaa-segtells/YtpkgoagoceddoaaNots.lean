/- The law SegNots walked. -/
import Derived.Test.YtpkgoagoceddoaaNot
import Derived.Test.YtpkgoagoceddoaaParts
namespace Go.Proofs.Ytpkgoagoceddoaa
open Go.RowKit

theorem lastE_ge : ∀ (l : List (Int × Int)) (m : Int), validFrom m l = true → m ≤ lastE m l
  | [], m, _ => Int.le_refl m
  | s :: r, m, h => by
    simp only [validFrom, Bool.and_eq_true, Bool.not_eq_true', decide_eq_false_iff_not] at h
    have hm := mayB_of h.1.1
    have := lastE_ge r _ h.2
    rw [lastE]; omega

theorem mem_lastE : ∀ (l : List (Int × Int)) (m : Int) (k : Nat), validFrom m l = true → memS l k = true → (k : Int) + 1 < lastE m l
  | [], m, k, _, h => by simp [memS] at h
  | s :: r, m, k, h, hk => by
    simp only [validFrom, Bool.and_eq_true] at h
    rw [show s :: r = [s] ++ r from rfl, memS_append, memS_one, Bool.or_eq_true] at hk
    rw [lastE]
    have h1 := lastE_ge r _ h.2
    rcases hk with hk | hk
    · simp [inSeg] at hk; omega
    · exact mem_lastE r _ k h.2 hk

theorem endL_lastE {l : List (Int × Int)} (hne : l ≠ []) : endL l + 1 = lastE 0 l := by
  rw [endL, if_neg hne]
  obtain ⟨d, s, rfl⟩ : ∃ d s, l = d ++ [s] := ⟨l.dropLast, l.getLast hne, (List.dropLast_concat_getLast hne).symm⟩
  rw [lastE_snoc]
  simp

theorem mem_endL {l : List (Int × Int)} {k : Nat} (h : vOk l = true) (hk : memS l k = true) : (k : Int) < endL l := by
  have hne : l ≠ [] := fun e => by subst e; simp [memS] at hk
  have h1 := mem_lastE l 0 k h hk
  have h2 := endL_lastE hne
  omega

structure NM (l X : List (Int × Int)) (n : Int) : Prop where
  vl : vOk l = true
  vx : vOk X = true
  both : bothOf X l = []
  vj : ∀ a b c d, vOk (jset [(a, c, X), (b, d, l)]) = true
  cnt : ∀ a b c d, cntOf (jset [(a, c, X), (b, d, l)]) = n

theorem nm_of {l : List (Int × Int)} {n : Int} (h : notOk l n = true) : NM l (notOf l n) n := by
  have hn := h
  simp only [notOk, Bool.and_eq_true, decide_eq_true_eq] at hn
  obtain ⟨hv, h0, h6, he⟩ := hn
  have e : notOf l n = segsOf (fun k => decide ((k : Int) < n) && !memS l k) := by rw [notOf, h]; rfl
  have vx : vOk (notOf l n) = true := by rw [e]; exact (segsOf_ok _).1
  have mx : ∀ k, k < 64 → memS (notOf l n) k = (decide ((k : Int) < n) && !memS l k) := fun k hk => by rw [e, (segsOf_ok _).2 k]; simp [hk]
  have ej : ∀ a b c d, jset [(a, c, notOf l n), (b, d, l)] = segsOf (inSeg (0, n)) := fun a b c d => by
    rw [jset, allOk_two]
    simp only [vx, hv, Bool.and_self, if_true]
    refine segsOf_congr (fun k hk => ?_)
    rw [memAny_two, mx k hk]
    cases hm : memS l k
    · simp only [Bool.not_false, Bool.and_true, Bool.or_false, inSeg]
      rw [decide_eq_decide]; omega
    · have := mem_endL hv hm
      have e2 : inSeg (0, n) k = true := by simp [inSeg]; omega
      rw [e2]; simp
  refine ⟨hv, vx, ?_, fun a b c d => by rw [ej]; exact (segsOf_ok _).1, fun a b c d => ?_⟩
  · have h3 : twoOk (notOf l n) l = true := by simp [twoOk, vx, hv]
    rw [bothOf, h3]
    refine segsOf_none (fun k hk => ?_)
    rw [mx k hk]
    cases memS l k <;> simp
  · rw [ej, cntOf, (segsOf_ok _).1]
    simp only [if_true]
    rw [sumLen_card _ 0 (Int.le_refl 0) (segsOf_ok _).1, cardB_congr 64 (fun k hk => by rw [(segsOf_ok (inSeg (0, n))).2 k, decide_eq_true hk, Bool.true_and])]
    have h3 := cardB_seg 0 n (Int.le_refl 0) h0 64
    by_cases c : n = 64
    · rw [h3.2.1 (by omega) (by omega)]; omega
    · exact h3.2.2 (by omega) (by omega)

set_option maxRecDepth 100000 in
set_option maxHeartbeats 4000000 in
theorem nots_walk : LawOk 7 := by
  intro a ls ca b ns cb w hrows _ hl hn hr _
  have HR : Hid (RowsAt w a ls) := hrows
  have HRL : Hid (∀ i, i < ls.length → (ls.getD i row0).2.2.length ≤ 140737488351232) := hr
  clear hrows hr
  go_enter Try.func7, Try.ntmps7
  go_wp2_with fail
  obtain ⟨W0, hW0⟩ : ∃ W0, W0 = w.alloc (.cells #[.slice a ls.length ca, .slice b ns.length cb] 25) := ⟨_, rfl⟩
  have HN0 : Hid (Below w.heap.size w W0) := by rw [hW0]; exact nwA (nwR w) _
  have HR0 : Hid (RowsAt W0 a ls) := HR.out.below HN0.out (Nat.le_refl _)
  have HC0 : Hid (W0.cell? ⟨w.heap.size, 0, none⟩ = some (.slice a ls.length ca)) := by rw [hW0]; show _ = _; simp
  have HZ0 : Hid (w.heap.size < W0.heap.size) := by rw [hW0]; show _ < _; simp
  rw [← hW0]
  clear hW0 HR
  refine (heavy_any a b ls ca ns.length cb _ HR0.out hl hn HRL.out).mono ?_
  rintro e w1 ⟨q, rfl, hb1, hq⟩
  cases q
  · clear hq
    go_wp2_with fail
    go_loopw [3] (fun i wr => ∃ (k : Nat), k ≤ ls.length ∧ i = .int .i64 k ∧ Below W0.heap.size W0 wr)
      (fun i _ => ls.length - (intOf i).toNat)
    case atStart => exact ⟨0, by omega, rfl, hb1⟩
    case round =>
      obtain ⟨k, hk, rfl, hb⟩ := hrel
      have c0 : wr.cell? ⟨w.heap.size, 0, none⟩ = some (.slice a ls.length ca) := (hb.cell (p := ⟨w.heap.size, 0, none⟩) HZ0.out).trans HC0.out
      by_cases hk1 : (k : Int) < (ls.length : Int)
      · by_cases hk5 : (k : Int) < 6
        · have HL1 : Hid ((ls.getD k row0).2.2.length ≤ 140737488351232) := HRL.out k (by omega)
          have HA : Hid (SegsAt W0 (ls.getD k row0).1 (ls.getD k row0).2.2) := HR0.out.segs (by omega)
          obtain ⟨b1, o1, rfl, x1, _, _⟩ := HR0.out k (by omega)
          have HX1 : Hid (W0.cell? ⟨b1, o1 + k, none⟩ = some (.slice (ls.getD k row0).1 (ls.getD k row0).2.2.length (ls.getD k row0).2.1)) := x1
          clear x1
          generalize ls.getD k row0 = r1 at HX1 HA HL1
          obtain ⟨ra, rca, l⟩ := r1
          simp only at HX1 HA HL1
          have hl1 : l.length ≤ maxLen := by have := HL1.out; unfold maxLen; omega
          have hkn : k < ls.length := by omega
          go_wp2_with fail
          go_loopw [4] (fun j wq => ∃ (n : Nat), n ≤ 65 ∧ j = .int .i64 n ∧ Below W0.heap.size W0 wq)
            (fun j _ => 65 - (intOf j).toNat)
          case atStart => exact ⟨0, by omega, rfl, hb⟩
          case round =>
            obtain ⟨n, hn', rfl, hbq⟩ := hrel
            clear c0 hb
            have c0 : wr.cell? ⟨w.heap.size, 0, none⟩ = some (.slice (some ⟨b1, o1, none⟩) ls.length ca) := (hbq.cell (p := ⟨w.heap.size, 0, none⟩) HZ0.out).trans HC0.out
            have x1 : wr.cell? ⟨b1, o1 + k, none⟩ = some (.slice ra l.length rca) := (hbq.cell (p := ⟨b1, o1 + k, none⟩) (block_lt_of_cell HX1.out)).trans HX1.out
            by_cases hn6 : (n : Int) ≤ 64
            · go_wp2_with fail
              refine (not_any ra l rca n _ (HA.out.below hbq (Nat.le_refl _)) hl1).mono ?_
              rintro e w2 ⟨vx, rfl, hox, hb2⟩
              have hbq2 := nwT hbq hb2
              clear hb2 hbq c0 x1
              cases hv : notOk l n
              · rw [show errOf false = 1 from rfl]
                clear hox
                go_wp2_with fail
                refine (num_any _ _).mono ?_
                rintro e w3 ⟨rfl, rfl⟩
                go_wp2_with fail
                go_roundw
                case rel => exact ⟨n + 1, by omega, by go_num, hbq2⟩
                case measure => simp [intOf]; omega
              · rw [show errOf true = 0 from rfl]
                have NM0 : Hid (NM l (notOf l n) n) := nm_of hv
                generalize notOf l n = X at hox NM0
                obtain ⟨ax, cx, rfl, hsx⟩ := hox.at
                have hlx := len_of_own hox
                have HX2 : Hid (SegsAt w2 ax X) := hsx
                clear hsx hox hv
                have c0 : w2.cell? ⟨w.heap.size, 0, none⟩ = some (.slice (some ⟨b1, o1, none⟩) ls.length ca) := (hbq2.cell (p := ⟨w.heap.size, 0, none⟩) HZ0.out).trans HC0.out
                have x1 : w2.cell? ⟨b1, o1 + k, none⟩ = some (.slice ra l.length rca) := (hbq2.cell (p := ⟨b1, o1 + k, none⟩) (block_lt_of_cell HX1.out)).trans HX1.out
                go_wp2_with (go_at_call 15; refine (num_any _ _).mono ?_; rintro e w3 ⟨rfl, rfl⟩)
                clear c0 x1
                refine (join_any _ [(ax, cx, X), (ra, rca, l)] 2 _ (rows2 cx rca 27 HX2.out hlx (HA.out.below hbq2 (Nat.le_refl _)) hl1) (by simp [maxLen])).mono ?_
                rintro e w4 ⟨vj, rfl, hoj, hb4⟩
                rw [show allOk [(ax, cx, X), (ra, rca, l)] = true from by rw [allOk_two]; simp only [NM0.out.vx, NM0.out.vl]; rfl, show errOf true = 0 from rfl]
                have hb4' := nwT (nwA (nwR _) _) hb4
                have hbq4 := nwT hbq2 hb4'
                have HX4 : Hid (SegsAt w4 ax X) := HX2.out.below hb4' (Nat.le_refl _)
                clear hb4 hb4' hbq2 HX2
                have HVJ : Hid (vOk (jset [(ax, cx, X), (ra, rca, l)]) = true) := NM0.out.vj _ _ _ _
                have HCJ : Hid (cntOf (jset [(ax, cx, X), (ra, rca, l)]) = n) := NM0.out.cnt _ _ _ _
                generalize jset [(ax, cx, X), (ra, rca, l)] = J at hoj HVJ HCJ
                obtain ⟨aj, cj, rfl, hsj⟩ := hoj.at
                have hlj := len_of_own hoj
                have HJ4 : Hid (SegsAt w4 aj J) := hsj
                clear hsj hoj
                have c0 : w4.cell? ⟨w.heap.size, 0, none⟩ = some (.slice (some ⟨b1, o1, none⟩) ls.length ca) := (hbq4.cell (p := ⟨w.heap.size, 0, none⟩) HZ0.out).trans HC0.out
                have x1 : w4.cell? ⟨b1, o1 + k, none⟩ = some (.slice ra l.length rca) := (hbq4.cell (p := ⟨b1, o1 + k, none⟩) (block_lt_of_cell HX1.out)).trans HX1.out
                go_wp2_with fail
                clear c0 x1
                refine (both_any ax ra X l cx rca _ HX4.out (HA.out.below hbq4 (Nat.le_refl _)) hlx hl1).mono ?_
                rintro e w5 ⟨vu, rfl, hou, hb5⟩
                rw [NM0.out.both] at hou
                rw [show twoOk X l = true from by rw [twoOk, NM0.out.vx, NM0.out.vl]; rfl, show errOf true = 0 from rfl]
                have hbq5 := nwT hbq4 hb5
                have HJ5 : Hid (SegsAt w5 aj J) := HJ4.out.below hb5 (Nat.le_refl _)
                clear hb5 hbq4 HX4 HJ4
                obtain ⟨au, cu, rfl, _⟩ := hou.at
                clear hou
                go_wp2_with fail
                refine (count_any aj J cj _ HJ5.out hlj).mono ?_
                rintro e w6 ⟨rfl, hb6⟩
                rw [HVJ.out, HCJ.out, show errOf true = 0 from rfl]
                have hbq6 := nwT hbq5 hb6
                clear hb6 hbq5 HJ5 HVJ HCJ NM0
                go_wp2_with (go_at_call 15; refine (num_any _ _).mono ?_; rintro e w7 ⟨rfl, rfl⟩)
                go_roundw
                case rel => exact ⟨n + 1, by omega, by go_num, hbq6⟩
                case measure => simp [intOf]; omega
            · go_wp2_with fail
              go_roundw
              case rel => exact ⟨k + 1, by omega, by go_num, hbq⟩
              case measure => simp [intOf]; omega
        · go_wp2_with fail
          refine (wakes_any _).mono ?_
          rintro e w3 ⟨rfl, hb3⟩
          go_wp2_with fail
          go_ret
          exact ⟨rfl, nwT HN0.out (nwT hb hb3)⟩
      · go_wp2_with fail
        refine (wakes_any _).mono ?_
        rintro e w3 ⟨rfl, hb3⟩
        go_wp2_with fail
        go_ret
        exact ⟨rfl, nwT HN0.out (nwT hb hb3)⟩
  · go_wp2_with fail
    go_ret
    exact ⟨rfl, nwT HN0.out hb1⟩

end Go.Proofs.Ytpkgoagoceddoaa
