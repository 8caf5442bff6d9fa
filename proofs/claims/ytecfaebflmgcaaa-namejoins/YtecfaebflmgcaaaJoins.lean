/- The law NameJoins walked. -/
import Derived.Test.YtecfaebflmgcaaaUnders
import Derived.Laws.AppendOwnNone
namespace Go.Proofs.Ytecfaebflmgcaaa
open Go.RowKit

def LawOkN (F : Nat) : Prop := ∀ (a : Option Addr) (xs : List ByteArray) (ca : Nat) (w : World), StrsAt w a xs → xs.length ≤ 140737488351232 → (∀ x ∈ xs, x.size ≤ 140737488351232) → (a = none → ca = 0) →
  Calls Try.prog F #[.agg #[.slice a xs.length ca]] w fun e w' => e = .returned (.bool true) ∧ Below w.heap.size w w'

theorem StrsAt.news {w : World} {b o : Nat} {xs : List ByteArray} (h : StrsAt w (some ⟨b, o, none⟩) xs) : ∀ j u, (xs.map Value.string)[j]? = some u → w.cell? ((⟨b, o, none⟩ : Addr).add j) = some u := by
  intro j u hu
  rw [List.getElem?_map] at hu
  cases hx : xs[j]? with
  | none => rw [hx] at hu; cases hu
  | some x =>
    rw [hx] at hu
    injection hu with hu
    subst hu
    have hj : j < xs.length := (List.getElem?_eq_some_iff.1 hx).1
    obtain ⟨b', o', e, hc⟩ := h.cell hj
    injection e with e
    injection e with e1 e2
    subst e1; subst e2
    have e2 : xs.getD j ByteArray.empty = x := by simp [List.getD, hx]
    rw [e2] at hc
    rw [show (⟨b, o, none⟩ : Addr).add j = ⟨b, o + j, none⟩ from by simp [Addr.add]]
    exact hc

theorem wpList_append_strs {P : Program} (w : World) {ops : Array Oper} {rest : List Oper} {o : Oper} {a : Act} {Q : Exit → Act → World → Prop} (hgd : o.guard = none) (s x : Operand) (t : TypeId)
    (ho : o.op = .call { callee := .builtin .append, args := #[s, x], argTypes := #[t, t] })
    (base : Nat) (i : TypeInfo) (z : Value) (ht : P.underlying t = some (.slice 9)) (hi : P.info? 9 = some i) (hz : i.zero = some z)
    (hsize : i.size = 1) (hby : i.bytes = 16) (hzs : z.cells.size = 1)
    (v : Value) (ys : List ByteArray) (hs : a.eval s = v) (hown : OwnStrs w base v ys)
    (ao : Option Addr) (xs : List ByteArray) (ca : Nat) (hx : a.eval x = .slice ao xs.length ca) (hst : StrsAt w ao xs) (hn : ao = none → ca = 0)
    (h63 : ys.length + xs.length ≤ maxLen) (hbytes : (ys.length + xs.length) * 16 ≤ 140737488355328) (hbase : base ≤ w.heap.size)
    (h : ∀ v' w', OwnStrs w' base v' (ys ++ xs) → w.grownBy w' v.ownBlock → wpList P ops Q rest (a.put o.dst v') w') : wpList P ops Q (o :: rest) a w := by
  have key : ∀ v' w', w'.ownsRow base 9 1 v' (ys.length + xs.length) (ys.map .string ++ xs.map .string) → OwnStrs w' base v' (ys ++ xs) := by
    intro v' w' h
    unfold OwnStrs
    rw [List.length_append, List.map_append]; exact h
  have one : ∀ u ∈ xs.map Value.string, u.oneCell' = true := by
    intro u hu
    obtain ⟨r, _, rfl⟩ := List.mem_map.1 hu
    rfl
  cases ao with
  | none =>
    have hx0 : xs = [] := by
      rcases hst with h | ⟨b, o, e, _⟩
      · exact h
      · cases e
    subst hx0
    have hc := hn rfl
    subst hc
    refine wpList_append_own_none hgd s x t ho base 9 i 1 ht hi v ys.length (ys.map .string) hs hown hx ?_
    exact h v w (by rw [List.append_nil]; exact hown) ⟨rfl, rfl, rfl, Nat.le_refl _, fun _ _ _ => rfl⟩
  | some p =>
    refine wpList_append_own w hgd s x t ho base 9 i z 1 16 ht hi hz hsize hby hzs (by decide) v ys.length (ys.map .string) hs hown p xs.length ca (xs.map .string) hx (by simp) ?_ one h63 hbytes hbase (fun v' w' h1 h2 _ => h v' w' (key v' w' h1) h2)
    rcases hst with h | ⟨b, o, e, hc⟩
    · subst h; intro j u hu; simp at hu
    · injection e with e
      subst e
      exact StrsAt.news (.inr ⟨b, o, rfl, hc⟩)

theorem own_two (w : World) (x y : ByteArray) : OwnStrs (w.alloc (.cells #[.string x, .string y] 9)) w.heap.size (.slice (some ⟨w.heap.size, 0, none⟩) 2 2) [x, y] :=
  ⟨rfl, .inr ⟨w.heap.size, 2, _, rfl, Nat.le_refl _, heap_alloc_new w _, Nat.le_refl _, by simp [maxLen], by simp, by simp⟩⟩

theorem eqs_same (a b : Option Addr) (D : List ByteArray) (m ca cb : Nat) (w : World) (hm : D.length = m) (hx : StrsAt w a D) (hy : StrsAt w b D) (hl : m ≤ 4000) :
    Calls Try.prog 16 #[.slice a m ca, .slice b m cb] w fun e w' => e = .returned (.bool true) ∧ Below w.heap.size w w' := by
  subst hm
  refine (eqs_any a b D D ca cb w hx hy (by unfold maxLen; omega)).mono ?_
  rintro e w' ⟨rfl, q, rfl⟩
  exact ⟨by rw [decide_eq_true rfl], below_drewN (nwR w) q⟩
theorem copy_m (a : Option Addr) (D : List ByteArray) (m ca : Nat) (w : World) (hm : D.length = m) (hx : StrsAt w a D) (hl : m ≤ 4000) :
    Calls Try.prog 20 #[.slice a m ca] w fun e w' => (∃ a' c', e = .returned (.slice a' m c') ∧ StrsAt w' a' D) ∧ Below w.heap.size w w' := by
  subst hm
  refine (copy_strs a D ca w hx hl).mono ?_
  rintro e w' ⟨⟨v, rfl, ho⟩, hb⟩
  obtain ⟨a', c', rfl, hs⟩ := ho.at
  exact ⟨⟨a', c', rfl, hs⟩, hb⟩
theorem joinP_m (a : Option Addr) (D : List ByteArray) (m ca : Nat) (w : World) (hm : D.length = m) (hx : StrsAt w a D) (hl : m ≤ 4000) (hf : (flN D).length ≤ 4000) :
    Calls Try.prog 21 #[.slice a m ca] w fun e w' => e = .returned (.tuple #[.string (joinP D).1, .int .i64 (joinP D).2]) ∧ Below w.heap.size w w' := by
  subst hm
  exact joinP_any a D ca w hx hl hf
theorem join_m (a : Option Addr) (D : List ByteArray) (m ca : Nat) (w : World) (hm : D.length = m) (hx : StrsAt w a D) (hl : m ≤ 4000) (hf : (flN D).length ≤ 4000) :
    Calls Try.prog 11 #[.slice a m ca] w fun e w' => e = .returned (.string (tx D)) ∧ w' = w := by
  subst hm
  exact join_any a D ca w hx hl hf
theorem flN_sub (T : List ByteArray) (i m : Nat) : (flN ((T.drop i).take m)).length ≤ (flN T).length := by
  have h1 := flN_le (xs := T.drop i) m
  have e : flN T = flN (T.take i) ++ flN (T.drop i) := by
    unfold flN; rw [← fl_append, ← List.map_append, List.take_append_drop]
  rw [e, List.length_append]; omega
theorem sub_succ {T : List ByteArray} {i k : Nat} (hi : i ≤ k) (hk : k < T.length) : allN ((T.drop i).take (k + 1 - i)) = (allN ((T.drop i).take (k - i)) && nm (T.getD k ByteArray.empty)) := by
  have e : k + 1 - i = (k - i) + 1 := by omega
  rw [e, allN_succ (by rw [List.length_drop]; omega)]
  congr 2
  simp [List.getD, show i + (k - i) = k from by omega]
theorem joinP_bad {D : List ByteArray} (h : allN D = false) : joinP D = (⟨#[]⟩, 1) := by unfold joinP; rw [h]; rfl
theorem joinP_long {D : List ByteArray} (h : allN D = true) (h5 : ¬ D.length ≤ 5) : joinP D = (⟨#[]⟩, 2) := by
  unfold joinP
  rw [h, show fitB D = false from by unfold fitB; rw [decide_eq_false h5]; rfl]; rfl
theorem allN_mem {D : List ByteArray} (h : allN D = true) : ∀ x ∈ D, nm x = true := List.all_eq_true.1 h

set_option maxRecDepth 100000 in
set_option maxHeartbeats 4000000 in
theorem joins_walk : LawOkN 4 := by
  intro a xs ca w hst hl hz hn0
  have HX : Hid (StrsAt w a xs) := hst
  have HZ : Hid (∀ x ∈ xs, x.size ≤ 140737488351232) := hz
  have HN : Hid (a = none → ca = 0) := hn0
  obtain ⟨i0, hi, hz0, hz1, hz2⟩ := info_parts Try.info9
  clear hst hz hn0
  go_enter Try.func4, Try.ntmps4
  go_wp2_with fail
  obtain ⟨W0, hW0⟩ : ∃ W0, W0 = w.alloc (.cells #[.slice a xs.length ca] 24) := ⟨_, rfl⟩
  have HN0 : Hid (Below w.heap.size w W0) := by rw [hW0]; exact nwA (nwR w) _
  have HC0 : Hid (W0.cell? ⟨w.heap.size, 0, none⟩ = some (.slice a xs.length ca)) := by rw [hW0]; show _ = _; simp
  have HX0 : Hid (StrsAt W0 a xs) := HX.out.below HN0.out
  rw [← hW0]
  clear hW0 HX
  refine (heavy_any a xs ca _ HX0.out hl HZ.out).mono ?_
  rintro e w1 ⟨q, rfl, hb1, hq⟩
  cases q
  · have HS : Hid ((flN xs).length ≤ 3000) := hq rfl
    have hlx : xs.length ≤ 3000 := by have := flN_len xs; have := HS.out; omega
    have c1 : w1.cell? ⟨w.heap.size, 0, none⟩ = some (.slice a xs.length ca) := (hb1.cell (p := ⟨w.heap.size, 0, none⟩) (block_lt_of_cell HC0.out)).trans HC0.out
    have HX1 : Hid (StrsAt w1 a xs) := HX0.out.below hb1
    have HBW : Hid (Below w.heap.size w w1) := nwT HN0.out hb1
    have hl1 : w.heap.size < w1.heap.size := block_lt_of_cell c1
    clear hq HZ HX0 hb1 HC0 HN0
    have HO1 : Hid (OwnStrs (w1.alloc (.cells #[.string ⟨#[97]⟩, .string ⟨#[98, 46, 99]⟩] 9)) w1.heap.size (.slice (some ⟨w1.heap.size, 0, none⟩) 2 2) [⟨#[97]⟩, ⟨#[98, 46, 99]⟩]) := own_two _ _ _
    have HX2 : Hid (StrsAt (w1.alloc (.cells #[.string ⟨#[97]⟩, .string ⟨#[98, 46, 99]⟩] 9)) a xs) := HX1.out.below (nwA (nwR _) _)
    have hc3 : 2 + xs.length ≤ maxLen := by unfold maxLen; omega
    have hc4 : (2 + xs.length) * 16 ≤ 140737488355328 := by omega
    have hc5 : w1.heap.size ≤ (w1.alloc (.cells #[.string ⟨#[97]⟩, .string ⟨#[98, 46, 99]⟩] 9)).heap.size := by simp
    go_wp2_with (at_builtin; refine wpList_append_strs _ rfl (.tmp 18) (.tmp 20) 22 rfl w1.heap.size i0 (.string ⟨#[]⟩) Try.underlying22 hi hz0 hz1 hz2 rfl (.slice (some ⟨w1.heap.size, 0, none⟩) 2 2) [⟨#[97]⟩, ⟨#[98, 46, 99]⟩] rfl HO1.out a xs ca rfl HX2.out HN.out hc3 hc4 hc5 ?_; intro v' w3 hown hgrow; refine unstop ?_)
    unfold Stop
    have HB3 : Hid (Below w.heap.size w w3) := nwT HBW.out ((nwA (nwR w1) _).grown hgrow (nwA (nwR w1) _).size (fun q e => by simp [Value.ownBlock] at e; omega))
    obtain ⟨T, hT⟩ : ∃ T : List ByteArray, T = [⟨#[97]⟩, ⟨#[98, 46, 99]⟩] ++ xs := ⟨_, rfl⟩
    have HTF : Hid ((flN T).length ≤ 3010) := by
      rw [hT]
      have e : flN ([⟨#[97]⟩, ⟨#[98, 46, 99]⟩] ++ xs) = flN [⟨#[97]⟩, ⟨#[98, 46, 99]⟩] ++ flN xs := by unfold flN; rw [List.map_append, fl_append]
      show _ ≤ 3010
      rw [e, List.length_append]
      have : (flN [⟨#[97]⟩, ⟨#[98, 46, 99]⟩]).length = 6 := by decide
      have := HS.out
      omega
    rw [← hT] at hown
    obtain ⟨aT, cT, rfl, hsT, hcT⟩ := hown.cap
    have HT : Hid (StrsAt w3 aT T) := hsT
    have hT1 : 0 < T.length := by rw [hT]; simp
    obtain ⟨bT, oT, rfl, _⟩ := HT.out.cell hT1
    have hlT : T.length ≤ 3010 := by have := flN_len T; have := HTF.out; omega
    clear hown hgrow hT hsT HO1 HX2 HX1 HBW c1
    go_wp2_with fail
    go_loopw [4] (fun i wr => ∃ (k : Nat), k ≤ T.length ∧ k ≤ 8 ∧ i = .int .i64 k ∧ Below w3.heap.size w3 wr) (fun i _ => T.length - (intOf i).toNat)
    case atStart => exact ⟨0, by omega, by omega, rfl, nwR w3⟩
    case round =>
      obtain ⟨i, hi, hi8, rfl, hb⟩ := hrel
      by_cases hi1 : (i : Int) < (T.length : Int) ∧ (i : Int) < 8
      · obtain ⟨hi2, hi3⟩ := hi1
        have hin : i < T.length := by omega
        go_wp2_with fail
        go_loopw [5] (fun j wr => ∃ (n : Nat), i ≤ n ∧ n ≤ T.length + 1 ∧ n ≤ i + 8 ∧ j = .int .i64 n ∧ Below w3.heap.size w3 wr) (fun j _ => T.length + 1 - (intOf j).toNat)
        case atStart => exact ⟨i, by omega, by omega, by omega, rfl, hb⟩
        case round =>
          obtain ⟨n, hn1, hn2, hn3, rfl, hbn⟩ := hrel
          by_cases hn4 : (n : Int) ≤ (T.length : Int) ∧ (n : Int) < (i : Int) + 8
          · obtain ⟨hn5, hn6⟩ := hn4
            have hni : (i : Int) ≤ (n : Int) := by omega
            have hnc : (n : Int) ≤ (cT : Int) := by omega
            have hic : (i : Int) < (cT : Int) := by omega
            obtain ⟨D, hD⟩ : ∃ D, D = (T.drop i).take (n - i) := ⟨_, rfl⟩
            have HD : Hid (StrsAt w3 (some ⟨bT, oT + i, none⟩) D) := by rw [hD]; exact (HT.out.drop i).take (n - i)
            have HDL : Hid (D.length = n - i) := by rw [hD]; show _ = _; rw [List.length_take, List.length_drop]; omega
            have HDF : Hid ((flN D).length ≤ 4000) := by rw [hD]; have := flN_sub T i (n - i); have := HTF.out; show _ ≤ 4000; omega
            have HDD : Hid ((T.drop i).take (n - i) = D) := hD.symm
            have hm8 : n - i ≤ 4000 := by omega
            clear hD
            go_wp2_with fail
            refine (copy_m _ D _ _ _ HDL.out (HD.out.below hbn) hm8).mono ?_
            rintro e w4 ⟨⟨a6, c6, rfl, hs6⟩, hb4⟩
            have hbn4 := nwT hbn hb4
            have HI : Hid (StrsAt w4 a6 D) := hs6
            clear hs6 hb4 hbn
            go_wp2_with fail
            refine (joinP_m a6 D _ c6 _ HDL.out HI.out hm8 HDF.out).mono ?_
            rintro e w5 ⟨rfl, hb5⟩
            have hbn5 := nwT hbn4 hb5
            have HI5 : Hid (StrsAt w5 a6 D) := HI.out.below hb5
            obtain ⟨J, hJ⟩ : ∃ J, J = joinP D := ⟨_, rfl⟩
            have HJ : Hid (J = joinP D) := hJ
            rw [← hJ]
            obtain ⟨js, je⟩ := J
            simp only
            clear hJ hb5 hbn4 HI
            have HT5 : Hid (StrsAt w5 (some ⟨bT, oT, none⟩) T) := HT.out.below hbn5
            have HD5 : Hid (StrsAt w5 (some ⟨bT, oT + i, none⟩) D) := HD.out.below hbn5
            go_wp2_with fail
            go_loop [9, 10] (fun b j => ∃ (k : Nat), i ≤ k ∧ k ≤ n ∧ j = .int .i64 k ∧ b = .int .i64 (errI (allN ((T.drop i).take (k - i))))) (fun _ j => n - (intOf j).toNat)
            case atStart => exact ⟨i, by omega, by omega, rfl, by rw [Nat.sub_self]; rfl⟩
            case round =>
              obtain ⟨k, hk1, hk2, rfl, rfl⟩ := hrel
              by_cases hk3 : k < n
              · have hk3i : (k : Int) < (n : Int) := by omega
                have hkT : k < T.length := by omega
                have hkTi : (k : Int) < (T.length : Int) := by omega
                have HSS : Hid (allN ((T.drop i).take (k + 1 - i)) = (allN ((T.drop i).take (k - i)) && nm (T.getD k ByteArray.empty))) := sub_succ hk1 hkT
                obtain ⟨b7, o7, e7, hc7⟩ := HT5.out.cell hkT
                injection e7 with e7
                injection e7 with e7 e8
                subst e7; subst e8
                generalize T.getD k ByteArray.empty = x at hc7 HSS
                generalize allN ((T.drop i).take (k - i)) = A at HSS
                cases hnx : nm x
                · go_wp2_with (go_at_call 14; refine (name_any _ _).mono ?_; rintro e w' ⟨rfl, rfl⟩; rw [hnx])
                  go_round
                  case rel => exact ⟨k + 1, by omega, by omega, by go_num, by rw [HSS.out, hnx, Bool.and_false]; rfl⟩
                  case measure => simp [intOf]; omega
                · go_wp2_with (go_at_call 14; refine (name_any _ _).mono ?_; rintro e w' ⟨rfl, rfl⟩; rw [hnx])
                  go_round
                  case rel => exact ⟨k + 1, by omega, by omega, by go_num, by rw [HSS.out, hnx, Bool.and_true]⟩
                  case measure => simp [intOf]; omega
              · have hkn : k = n := by omega
                subst hkn
                rw [HDD.out]
                cases hA : allN D
                · rw [errI_f]
                  have e1 : (js, je) = ((⟨#[]⟩, 1) : ByteArray × Int) := by rw [HJ.out, joinP_bad hA]
                  injection e1 with e1 e2
                  subst e1; subst e2
                  go_wp2_with (go_at_call 12; refine (num_any _ _).mono ?_; rintro e w' ⟨rfl, rfl⟩)
                  refine (eqs_same a6 (some ⟨bT, oT + i, none⟩) D _ c6 _ _ HDL.out HI5.out HD5.out hm8).mono ?_
                  rintro e w6 ⟨rfl, hb6⟩
                  go_wp2_with fail
                  go_roundw
                  case rel => exact ⟨k + 1, by omega, by omega, by omega, by go_num, nwT hbn5 hb6⟩
                  case measure => simp [intOf]; omega
                · rw [errI_t]
                  have HM := allN_mem hA
                  have HPT : Hid (pathN (tx D) = if D.length ≤ 5 then some D else none) := pathN_tx HM
                  by_cases h5 : D.length ≤ 5
                  · have e1 : (js, je) = ((tx D, 0) : ByteArray × Int) := by rw [HJ.out, joinP_ok HM h5]
                    injection e1 with e1 e2
                    subst e1; subst e2
                    have HP5 : Hid (pathN (tx D) = some D) := by show _ = _; rw [HPT.out, if_pos h5]
                    have HJD : Hid (Calls Try.prog 11 #[.slice (some ⟨bT, oT + i, none⟩) (k - i) (cT - i)] w5 fun e w' => e = .returned (.string (tx D)) ∧ w' = w5) := join_m _ D _ _ _ HDL.out HD5.out hm8 HDF.out
                    generalize tx D = P at HP5 HJD
                    clear HJ HPT HM
                    go_wp2_with fail
                    refine HJD.out.mono ?_
                    rintro e w6 ⟨rfl, rfl⟩
                    go_wp2_with fail
                    refine (rsplit_any P _).mono ?_
                    rintro e w7 ⟨hR, hb7⟩
                    rcases hR with ⟨L, v, hp, rfl, ho⟩ | ⟨hp, aa, nn, cc, rfl⟩
                    · obtain ⟨aL, cL, rfl, _⟩ := ho.at
                      have hbn7 := nwT hbn5 hb7
                      have HI7 : Hid (StrsAt w7 a6 D) := HI5.out.below hb7
                      have HD7 : Hid (StrsAt w7 (some ⟨bT, oT + i, none⟩) D) := HD5.out.below hb7
                      clear hp ho hb7 HJD
                      go_wp2_with (go_at_call 12; refine (num_any _ _).mono ?_; rintro e w8 ⟨rfl, rfl⟩)
                      refine (eqs_same a6 (some ⟨bT, oT + i, none⟩) D _ c6 _ _ HDL.out HI7.out HD7.out hm8).mono ?_
                      rintro e w9 ⟨rfl, hb9⟩
                      have hbn9 := nwT hbn7 hb9
                      have HD9 : Hid (StrsAt w9 (some ⟨bT, oT + i, none⟩) D) := HD7.out.below hb9
                      go_wp2_with fail
                      refine (split_any P _).mono ?_
                      rintro e wA ⟨hRA, hbA⟩
                      rcases hRA with ⟨LA, vA, hpA, rfl, hoA⟩ | ⟨hpA, rfl⟩
                      · rw [HP5.out] at hpA
                        injection hpA with hpA
                        subst hpA
                        obtain ⟨aA, cA, rfl, hsA⟩ := hoA.at
                        have HA : Hid (StrsAt wA aA D) := hsA
                        have HDA : Hid (StrsAt wA (some ⟨bT, oT + i, none⟩) D) := HD9.out.below hbA
                        have hbnA := nwT hbn9 hbA
                        rw [HDL.out]
                        clear hoA hsA hb9 hbA hbn7 hbn9 HI7 HD7
                        go_wp2_with (go_at_call 12; refine (num_any _ _).mono ?_; rintro e w8 ⟨rfl, rfl⟩)
                        refine (eqs_same aA (some ⟨bT, oT + i, none⟩) D _ cA _ _ HDL.out HA.out HDA.out hm8).mono ?_
                        rintro e wB ⟨rfl, hbB⟩
                        go_wp2_with fail
                        go_roundw
                        case rel => exact ⟨k + 1, by omega, by omega, by omega, by go_num, nwT hbnA hbB⟩
                        case measure => simp [intOf]; omega
                      · rw [HP5.out] at hpA; cases hpA
                    · rw [HP5.out] at hp; cases hp
                  · have e1 : (js, je) = ((⟨#[]⟩, 2) : ByteArray × Int) := by rw [HJ.out, joinP_long hA h5]
                    injection e1 with e1 e2
                    subst e1; subst e2
                    have HP5 : Hid (pathN (tx D) = none) := by show _ = _; rw [HPT.out, if_neg h5]
                    have HJD : Hid (Calls Try.prog 11 #[.slice (some ⟨bT, oT + i, none⟩) (k - i) (cT - i)] w5 fun e w' => e = .returned (.string (tx D)) ∧ w' = w5) := join_m _ D _ _ _ HDL.out HD5.out hm8 HDF.out
                    generalize tx D = P at HP5 HJD
                    clear HJ HPT HM
                    go_wp2_with fail
                    refine HJD.out.mono ?_
                    rintro e w6 ⟨rfl, rfl⟩
                    go_wp2_with fail
                    refine (rsplit_any P _).mono ?_
                    rintro e w7 ⟨hR, hb7⟩
                    rcases hR with ⟨L, v, hp, rfl, ho⟩ | ⟨hp, aa, nn, cc, rfl⟩
                    · rw [HP5.out] at hp; cases hp
                    · have hbn7 := nwT hbn5 hb7
                      have HI7 : Hid (StrsAt w7 a6 D) := HI5.out.below hb7
                      have HD7 : Hid (StrsAt w7 (some ⟨bT, oT + i, none⟩) D) := HD5.out.below hb7
                      clear hp hb7 HJD
                      go_wp2_with (go_at_call 12; refine (num_any _ _).mono ?_; rintro e w8 ⟨rfl, rfl⟩)
                      refine (eqs_same a6 (some ⟨bT, oT + i, none⟩) D _ c6 _ _ HDL.out HI7.out HD7.out hm8).mono ?_
                      rintro e w9 ⟨rfl, hb9⟩
                      go_wp2_with fail
                      go_roundw
                      case rel => exact ⟨k + 1, by omega, by omega, by omega, by go_num, nwT hbn7 hb9⟩
                      case measure => simp [intOf]; omega
          · by_cases hk2 : (n : Int) ≤ (T.length : Int)
            · have hk5 : ¬ (n : Int) < (i : Int) + 8 := fun h => hn4 ⟨hk2, h⟩
              clear hn4
              go_wp2_with fail
              go_roundw
              case rel => exact ⟨i + 1, by omega, by omega, by go_num, hbn⟩
              case measure => simp [intOf]; omega
            · clear hn4
              go_wp2_with fail
              go_roundw
              case rel => exact ⟨i + 1, by omega, by omega, by go_num, hbn⟩
              case measure => simp [intOf]; omega
      · have hbw := nwT HB3.out hb
        by_cases hk2 : (i : Int) < (T.length : Int)
        · have hk5 : ¬ (i : Int) < 8 := fun h => hi1 ⟨hk2, h⟩
          clear hi1
          go_wp2_with fail
          refine (wakes_any _).mono ?_
          rintro e w2 ⟨rfl, hb2⟩
          go_wp2_with fail
          go_ret
          exact ⟨rfl, nwT hbw hb2⟩
        · clear hi1
          go_wp2_with fail
          refine (wakes_any _).mono ?_
          rintro e w2 ⟨rfl, hb2⟩
          go_wp2_with fail
          go_ret
          exact ⟨rfl, nwT hbw hb2⟩
  · go_wp2_with fail
    go_ret
    exact ⟨rfl, nwT HN0.out hb1⟩

end Go.Proofs.Ytecfaebflmgcaaa
