/- Laid together: Concat, Heavyr, Open, Setof, Find. -/
import Derived.Test.YtbaphgdlbeaenaaGreatReachNamedM3
import Derived.Deep.OwnRows
import Derived.Laws.AppendOwnNone
import Derived.Test.YtbaphgdlbeaenaaGreatRows
import Derived.Test.YtbaphgdlbeaenaaGreatChecked
import Derived.ProofKit
import Derived.SizedLaws
import Derived.Lib.SmallJoins
import Derived.Deep.Slices
import Derived.Sort.OwnSortedInts
/- Rows of rows of numbers in memory; all their numbers, one behind the other, by the library. -/
namespace Go.Proofs.YtbaphgdlbeaenaaGreat
open Go.RowKit

abbrev RowD := Option Addr × Nat × List Int
def rw0 : RowD := (none, 0, [])
def rowV (r : RowD) : Value := .slice r.1 r.2.2.length r.2.1
def RowOk (w : World) (r : RowD) : Prop := IntsAt w r.1 r.2.2 ∧ (r.1 = none → r.2.1 = 0)
def RowsAt (w : World) (a : Option Addr) (rs : List RowD) : Prop :=
  rs = [] ∨ ∃ b o, a = some ⟨b, o, none⟩ ∧ ∀ i, i < rs.length → w.cell? ⟨b, o + i, none⟩ = some (rowV (rs.getD i rw0)) ∧ RowOk w (rs.getD i rw0)
theorem RowOk.below {w w' : World} {r : RowD} (h : RowOk w r) (hb : Below w.heap.size w w') : RowOk w' r := ⟨h.1.below hb, h.2⟩
theorem RowsAt.below {w w' : World} {a : Option Addr} {rs : List RowD} (h : RowsAt w a rs) (hb : Below w.heap.size w w') : RowsAt w' a rs := by
  rcases h with rfl | ⟨b, o, rfl, hc⟩
  · exact .inl rfl
  · exact .inr ⟨b, o, rfl, fun i hi => ⟨(hb.cell (p := ⟨b, o + i, none⟩) (block_lt_of_cell (hc i hi).1)).trans (hc i hi).1, (hc i hi).2.below hb⟩⟩
theorem RowsAt.row {w : World} {a : Option Addr} {rs : List RowD} (h : RowsAt w a rs) {i : Nat} (hi : i < rs.length) : ∃ b o, a = some ⟨b, o, none⟩ ∧ w.cell? ⟨b, o + i, none⟩ = some (rowV (rs.getD i rw0)) ∧ RowOk w (rs.getD i rw0) := by
  rcases h with rfl | ⟨b, o, rfl, hc⟩
  · simp at hi
  · exact ⟨b, o, rfl, hc i hi⟩
/-- all numbers of them -/
def allN (rs : List RowD) : List Int := (rs.map fun r => r.2.2).flatten
theorem allN_snoc (rs : List RowD) (r : RowD) : allN (rs ++ [r]) = allN rs ++ r.2.2 := by simp [allN]
theorem allN_nil : allN [] = [] := rfl
theorem allN_take {rs : List RowD} {k : Nat} (hk : k < rs.length) : allN (rs.take (k + 1)) = allN (rs.take k) ++ (rs.getD k rw0).2.2 := by
  rw [← allN_snoc]
  congr 1
  rw [List.take_succ_eq_append_getElem hk]; simp [List.getD, hk]
theorem allN_take_le (rs : List RowD) (k : Nat) : (allN (rs.take k)).length ≤ (allN rs).length := by
  have e : allN rs = allN (rs.take k) ++ allN (rs.drop k) := by
    unfold allN
    rw [← List.flatten_append, ← List.map_append, List.take_append_drop]
  rw [e, List.length_append]; omega

theorem wpList_append_ints {P : Program} (w : World) {ops : Array Oper} {rest : List Oper} {o : Oper} {a : Act} {Q : Exit → Act → World → Prop} (hgd : o.guard = none) (s x : Operand) (t : TypeId)
    (ho : o.op = .call { callee := .builtin .append, args := #[s, x], argTypes := #[t, t] })
    (base : Nat) (i : TypeInfo) (z : Value) (ht : P.underlying t = some (.slice 3)) (hi : P.info? 3 = some i) (hz : i.zero = some z)
    (hsize : i.size = 1) (hby : i.bytes = 8) (hzs : z.cells.size = 1)
    (v : Value) (xs : List Int) (hs : a.eval s = v) (hown : OwnInts w base v xs)
    (ao : Option Addr) (c : Nat) (ys : List Int) (hx : a.eval x = .slice ao ys.length c) (hi2 : IntsAt w ao ys) (hc : ao = none → c = 0)
    (hbytes : xs.length + ys.length ≤ 10000000) (hbase : base ≤ w.heap.size)
    (h : ∀ v' w', OwnInts w' base v' (xs ++ ys) → w.grownBy w' v.ownBlock → wpList P ops Q rest (a.put o.dst v') w') : wpList P ops Q (o :: rest) a w := by
  have hxs : (xs.map (Value.int .i64)).length = xs.length := by simp
  cases ao with
  | none =>
    have h0 : ys = [] := by
      rcases hi2 with h | ⟨b, o', e, _⟩
      · exact h
      · cases e
    subst h0
    have hc0 := hc rfl
    subst hc0
    refine wpList_append_own_none hgd s x t ho base 3 i 1 ht hi v xs.length (xs.map (.int .i64)) hs hown hx ?_
    exact h v w (by simpa using hown) ⟨rfl, rfl, rfl, Nat.le_refl _, fun _ _ _ => rfl⟩
  | some ad =>
    refine wpList_append_own w hgd s x t ho base 3 i z 1 8 ht hi hz hsize hby hzs (by decide) v xs.length (xs.map (.int .i64)) hs hown ad ys.length c (ys.map (.int .i64)) hx (by simp) ?_ (by simp [Value.oneCell']) (by unfold maxLen; omega) (by omega) hbase ?_
    · intro j u hj
      rcases hi2 with h | ⟨b, o', e, hcell⟩
      · rw [h] at hj; simp at hj
      · injection e with e
        subst e
        have hjl : j < ys.length := by
          have := (List.getElem?_eq_some_iff.1 hj).1
          simpa using this
        have := hcell j hjl
        rw [show (⟨b, o', none⟩ : Addr).add j = ⟨b, o' + j, none⟩ from by unfold Addr.add; split <;> simp_all, this]
        rw [List.getElem?_map, List.getElem?_eq_getElem hjl] at hj
        simp [List.getD, hjl] at hj ⊢
        exact hj
    · intro v' w' h2 h3 _
      refine h v' w' ?_ h3
      unfold OwnInts
      rw [List.map_append, List.length_append]
      exact h2

theorem zeroCells_size (n : Nat) : (Builtin.zeroCells (Value.cells (.int .i64 0)) n).size = n := by
  simp [Builtin.zeroCells, Value.cells]

set_option maxRecDepth 100000 in
theorem grow_any (n : Nat) (w : World) (hn : n ≤ 10000000) :
    Calls Tryz.prog 52 #[.slice none 0 0, .int .i64 n] w fun e w' => (∃ v, e = .returned v ∧ OwnInts w' w.heap.size v []) ∧ Below w.heap.size w w' := by
  by_cases h0 : n = 0
  · refine (Any8.slices_Grow_room Tryz.growI none 0 0 n w (by omega) (by omega) (by omega) (by omega)).mono ?_
    rintro e w' ⟨rfl, rfl⟩
    exact ⟨⟨_, rfl, World.ownsRow_nil _ _ _ _⟩, nwR _⟩
  · obtain ⟨i0, hi, hz0, hz1, hz2⟩ := info_parts Tryz.info3
    have h := Any8.slices_Grow_grow Tryz.growI i0 (.int .i64 0) hi hz0 (by omega) none 0 0 n [] w (by omega) (by omega) (by rw [hz2]; omega) (by omega) (by simp) (fun _ => rfl) (fun a h => by cases h)
    have hG := grownCap_ge w (0 + n) 0 3
    have hG2 := grownCap_le_maxLen w (0 + n) 0 3 (by unfold maxLen; omega)
    change Calls Tryz.prog 52 #[.slice none 0 0, .int .i64 n] w (fun e w' => e = .returned (.slice (some ⟨w.heap.size, 0, none⟩) 0 (grownCap w (0 + n) 0 3)) ∧ w' = w.drew.alloc (.cells (([] : List Value).toArray ++ Builtin.zeroCells (Value.cells (.int .i64 0)) (0 + n - 0) ++ Builtin.zeroCells (Value.cells (.int .i64 0)) (grownCap w (0 + n) 0 3 - (0 + n))) 3)) at h
    generalize grownCap w (0 + n) 0 3 = G at h hG hG2
    refine h.mono ?_
    rintro e w' ⟨rfl, rfl⟩
    refine ⟨⟨_, rfl, by simp, .inr ⟨w.heap.size, G, _, rfl, Nat.le_refl _, heap_alloc_new _ _, by simp, hG2, ?_, by simp⟩⟩, nwA (Below.drew (nwR w)) _⟩
    simp only [Array.size_append, zeroCells_size, List.size_toArray, List.length_nil]
    omega

set_option maxRecDepth 100000 in
set_option maxHeartbeats 2000000 in
theorem concat_any (a : Option Addr) (rs : List RowD) (ca : Nat) (w : World) (hr : RowsAt w a rs) (hl : rs.length ≤ 1000000) (hn : (allN rs).length ≤ 1000000) :
    Calls Tryz.prog 34 #[.slice a rs.length ca] w fun e w' => (∃ v, e = .returned v ∧ OwnInts w' w.heap.size v (allN rs)) ∧ Below w.heap.size w w' := by
  have HR : Hid (RowsAt w a rs) := hr
  have HN : Hid ((allN rs).length ≤ 1000000) := hn
  clear hr hn
  obtain ⟨i0, hi, hz0, hz1, hz2⟩ := info_parts Tryz.info3
  go_enter Tryz.func34, Tryz.ntmps34
  go_wp2_with fail
  go_loopw [3, 11] (fun s i wr => ∃ (k m : Nat), k ≤ rs.length ∧ i = .int .i64 k ∧ s = .int .i64 m ∧ Hid (m = (allN (rs.take k)).length) ∧ m ≤ 1000000 ∧ wr = w)
    (fun _ i _ => rs.length - (intOf i).toNat)
  case atStart => exact ⟨0, 0, by omega, rfl, rfl, rfl, by omega, rfl⟩
  case round =>
    obtain ⟨k, m, hk, rfl, rfl, HM, hm, hwe⟩ := hrel
    obtain rfl := hwe.symm
    by_cases hkl : k < rs.length
    · have hkli : (k : Int) < (rs.length : Int) := by omega
      obtain ⟨b1, o1, rfl, hc, _⟩ := HR.out.row hkl
      have HS : Hid (m + (rs.getD k rw0).2.2.length = (allN (rs.take (k + 1))).length) := by
        show _ = _
        rw [allN_take hkl, List.length_append, HM.out]
      have hle : m + (rs.getD k rw0).2.2.length ≤ 1000000 := by
        rw [HS.out]; exact Nat.le_trans (allN_take_le rs _) HN.out
      generalize rs.getD k rw0 = r at hc HS hle
      obtain ⟨ar, cr, xs⟩ := r
      simp only [rowV] at hc hle
      simp only at HS
      clear HM
      go_wp2_with fail
      go_roundw
      case rel => exact ⟨k + 1, m + xs.length, by omega, by go_num, by go_num, HS, by omega, by first | rfl | trivial⟩
      case measure => simp [intOf]; omega
    · have hkli : ¬ (k : Int) < (rs.length : Int) := by omega
      clear HM
      go_wp2_with fail
      refine (grow_any m _ (by omega)).mono ?_
      rintro e w1 ⟨⟨v1, rfl, hO1⟩, hb1⟩
      have HO1 : Hid (OwnInts w1 w.heap.size v1 []) := hO1
      have HB1 : Hid (Below w.heap.size w w1) := hb1
      clear hO1 hb1
      go_wp2_with fail
      go_loopw [6, 27] (fun v i w2 => ∃ (j : Nat), j ≤ rs.length ∧ i = .int .i64 j ∧ OwnInts w2 w.heap.size v (allN (rs.take j)) ∧ Below w.heap.size w w2)
        (fun _ i _ => rs.length - (intOf i).toNat)
      case atStart => exact ⟨0, by omega, rfl, HO1.out, HB1.out⟩
      case round =>
        obtain ⟨j, hj, rfl, hO, hb⟩ := hrel
        have HO : Hid (OwnInts wr w.heap.size u6 (allN (rs.take j))) := hO
        clear hO HO1 HB1
        by_cases hjl : j < rs.length
        · have hjli : (j : Int) < (rs.length : Int) := by omega
          obtain ⟨b1, o1, rfl, hc, hok, hcap⟩ := (HR.out.below hb).row hjl
          have HS : Hid (allN (rs.take j) ++ (rs.getD j rw0).2.2 = allN (rs.take (j + 1))) := (allN_take hjl).symm
          have hle : (allN (rs.take j)).length + (rs.getD j rw0).2.2.length ≤ 1000000 := by
            rw [← List.length_append, HS.out]; exact Nat.le_trans (allN_take_le rs _) HN.out
          generalize rs.getD j rw0 = r at hc HS hle hok hcap
          obtain ⟨ar, cr, xs⟩ := r
          simp only [rowV] at hc hle hok hcap
          simp only at HS
          have HX : Hid (IntsAt wr ar xs) := hok
          clear hok
          go_wp2_with (at_builtin; refine wpList_append_ints _ rfl (.tmp 31) (.tmp 32) 32 rfl w.heap.size i0 (.int .i64 0) Tryz.underlying32 hi hz0 hz1 hz2 rfl u6 (allN (rs.take j)) rfl HO.out ar cr xs rfl HX.out hcap (by omega) hb.size ?_; intro v' w3 hown hgrow; refine unstop ?_)
          unfold Stop
          have HB3 : Hid (Below w.heap.size w w3) := hb.grown hgrow hb.size (fun q e => (HO.out.lt q e).1)
          have HO3 : Hid (OwnInts w3 w.heap.size v' (allN (rs.take (j + 1)))) := by rw [← HS.out]; exact hown
          clear hown hgrow
          go_wp2_with fail
          go_roundw
          case rel => exact ⟨j + 1, by omega, by go_num, HO3.out, HB3.out⟩
          case measure => simp [intOf]; omega
        · have hjli : ¬ (j : Int) < (rs.length : Int) := by omega
          have HOE : Hid (OwnInts wr w.heap.size u6 (allN rs)) := by have := HO.out; rw [List.take_of_length_le (by omega)] at this; exact this
          clear HO
          have h := HOE.out
          obtain ⟨av, cv, rfl, _⟩ := h.at
          go_wp2_with fail
          go_ret
          exact ⟨⟨_, rfl, HOE.out⟩, hb⟩

end Go.Proofs.YtbaphgdlbeaenaaGreat

/- What is asked: volumes, and lists of numbers: what is not heavy is small. -/
namespace Go.Proofs.YtbaphgdlbeaenaaGreat
open Go.RowKit

/-- volumes, the next ID, acts; lists of numbers -/
def AskVal (w : World) (v : Value) (ds : List VolD) (next : Int) (l : List ActD) (rs : List RowD) : Prop := ∃ av ca a c ar cr, v = .agg #[.slice av ds.length ca, .int .i64 next, .slice a l.length c, .slice ar rs.length cr] ∧ (VolsAt w av ds ∧ CapOk av ca ds.length) ∧ (ActsAt w a l ∧ CapOk a c l.length) ∧ RowsAt w ar rs ∧ CapOk ar cr rs.length
def LooseR (rs : List RowD) : Prop := rs.length ≤ 35184372088832 ∧ ∀ r ∈ rs, r.2.2.length ≤ 35184372088832
def HvPostR (ds : List VolD) (l : List ActD) (rs : List RowD) (w : World) (e : Ending) (w' : World) : Prop := ∃ q : Bool, e = .returned (.bool q) ∧ Below w.heap.size w w' ∧ (q = false → SmallW ds ∧ LightA l ∧ rs.length + (allN rs).length ≤ 1000)
theorem quad {w : World} {g : Nat} {c0 c1 c2 c3 : Value} {t : TypeId} (h : w.heap[g]? = some (.cells #[c0, c1, c2, c3] t (0, 0))) :
    w.cell? ⟨g, 0, none⟩ = some c0 ∧ w.cell? ⟨g, 1, none⟩ = some c1 ∧ w.cell? ⟨g, 2, none⟩ = some c2 ∧ w.cell? ⟨g, 3, none⟩ = some c3 :=
  ⟨by rw [Lib.cell_of_heap h]; rfl, by rw [Lib.cell_of_heap h]; rfl, by rw [Lib.cell_of_heap h]; rfl, by rw [Lib.cell_of_heap h]; rfl⟩

set_option maxRecDepth 100000 in
set_option maxHeartbeats 2000000 in
theorem heavyr_any (v : Value) (ds : List VolD) (next : Int) (l : List ActD) (rs : List RowD) (w : World) (hv : AskVal w v ds next l rs) (hd : LooseW ds) (hl : LooseA l) (hr : LooseR rs) : Calls Tryz.prog 4 #[v] w (HvPostR ds l rs w) := by
  obtain ⟨av, ca, aL, cL, ar, cr, rfl, hU, hL, hR, hRc⟩ := hv
  have HSV : Hid (∀ w', Below w.heap.size w w' → Calls Tryz.prog 19 #[.agg #[.slice av ds.length ca, .int .i64 next, .slice aL l.length cL]] w' (HvPost ds l w')) := fun w' hb => heavy_any _ ds next l w' ⟨av, ca, aL, cL, rfl, ⟨hU.1.below hb, hU.2⟩, hL.1.below hb, hL.2⟩ hd hl
  have HR : Hid (RowsAt w ar rs) := hR
  have HLR : Hid (∀ r ∈ rs, r.2.2.length ≤ 35184372088832) := hr.2
  have hrl := hr.1
  have HB0 : Hid (Below w.heap.size w (w.alloc (.cells #[.slice av ds.length ca, .int .i64 next, .slice aL l.length cL, .slice ar rs.length cr] 28))) := nwA (nwR w) _
  have HX0 : Hid ((w.alloc (.cells #[.slice av ds.length ca, .int .i64 next, .slice aL l.length cL, .slice ar rs.length cr] 28)).heap[w.heap.size]? = some (.cells #[.slice av ds.length ca, .int .i64 next, .slice aL l.length cL, .slice ar rs.length cr] 28 (0, 0))) := heap_alloc_new w _
  clear hU hL hR hRc hd hl hr
  go_enter Tryz.func4, Tryz.ntmps4
  go_wp2_with fail
  go_loopw [3, 4] (fun n i wr => ∃ (k M : Nat), k ≤ rs.length ∧ i = .int .i64 k ∧ n = .int .i64 M ∧ M ≤ 140737488355328 ∧ Hid (M = rs.length + (allN (rs.take k)).length) ∧ wr = w.alloc (.cells #[.slice av ds.length ca, .int .i64 next, .slice aL l.length cL, .slice ar rs.length cr] 28))
    (fun _ i _ => rs.length - (intOf i).toNat)
  case atStart => exact ⟨0, rs.length, by omega, rfl, rfl, by omega, by show _ = _; simp [allN], rfl⟩
  case round =>
    obtain ⟨k, M, hk, rfl, rfl, hM, HE, rfl⟩ := hrel
    obtain ⟨x0, x1, x2, x3⟩ := quad HX0.out
    by_cases hkl : k < rs.length
    · have hkli : (k : Int) < (rs.length : Int) := by omega
      by_cases hM2 : M < 1048576
      · have hMi : (M : Int) < 1048576 := by omega
        obtain ⟨b1, o1, rfl, hc, _⟩ := (HR.out.below HB0.out).row hkl
        have hrk : (rs.getD k rw0).2.2.length ≤ 35184372088832 := HLR.out _ (by simp [List.getD, hkl])
        have HE2 : Hid (M + (rs.getD k rw0).2.2.length = rs.length + (allN (rs.take (k + 1))).length) := by
          show _ = _
          rw [allN_take hkl, List.length_append, HE.out]; omega
        generalize rs.getD k rw0 = r at hc hrk HE2
        obtain ⟨ar2, cr2, xs⟩ := r
        simp only [rowV] at hc hrk HE2
        clear HE
        go_wp2_with fail
        go_roundw
        case rel => exact ⟨k + 1, M + xs.length, by omega, by go_num, by go_num, by omega, HE2, by first | rfl | trivial⟩
        case measure => simp [intOf]; omega
      · have hMi : ¬ (M : Int) < 1048576 := by omega
        have hMg : (M : Int) > 1000 := by omega
        go_wp2_with fail
        go_ret
        exact ⟨_, rfl, HB0.out, fun h => by simp at h⟩
    · have hkli : ¬ (k : Int) < (rs.length : Int) := by omega
      have HEE : Hid (M = rs.length + (allN rs).length) := by have := HE.out; rw [List.take_of_length_le (by omega)] at this; exact this
      clear HE
      by_cases hMg : (M : Int) > 1000
      · go_wp2_with fail
        go_ret
        exact ⟨_, rfl, HB0.out, fun h => by simp at h⟩
      · have HML : Hid (rs.length + (allN rs).length ≤ 1000) := by
          show _ ≤ _
          rw [← HEE.out]; omega
        go_wp2_with fail
        refine (HSV.out _ HB0.out).mono ?_
        rintro e w2 ⟨q, rfl, hb2, h2⟩
        have HQ : Hid (q = false → SmallW ds ∧ LightA l ∧ rs.length + (allN rs).length ≤ 1000) := fun h => ⟨(h2 h).1, (h2 h).2, HML.out⟩
        have HB2 : Hid (Below w.heap.size w w2) := nwT HB0.out hb2
        clear h2 hb2
        go_wp2_with fail
        go_ret
        exact ⟨q, rfl, HB2.out, HQ.out⟩

end Go.Proofs.YtbaphgdlbeaenaaGreat

/- The argument of the laws, opened: volumes, acts, lists of numbers. -/
namespace Go.Proofs.YtbaphgdlbeaenaaGreat
open Go.ChangeShapes Go.WideShapes Go.ChangeAt Go.RowKit Go.Deep Go.Joins

theorem Tryz.own : ownKnob Tryz.prog.godebug = none := by kernel_rfl
theorem Tryz.laidOut : laidOutB Tryz.prog = true := by kernel_rfl
theorem Tryz.cells3 : Tryz.prog.cellsOf 3 = 1 := by kernel_rfl
theorem Tryz.cells4 : Tryz.prog.cellsOf 4 = 1 := by kernel_rfl
theorem Tryz.cells9 : Tryz.prog.cellsOf 9 = 1 := by kernel_rfl
theorem Tryz.cells46 : Tryz.prog.cellsOf 46 = 1 := by kernel_rfl
theorem Tryz.cells48 : Tryz.prog.cellsOf 48 = 5 := by kernel_rfl
theorem Tryz.cells32 : Tryz.prog.cellsOf 32 = 1 := by kernel_rfl
theorem Tryz.cells72 : Tryz.prog.cellsOf 72 = 1 := by kernel_rfl
theorem Tryz.cells74 : Tryz.prog.cellsOf 74 = 5 := by kernel_rfl
theorem Tryz.cells71 : Tryz.prog.cellsOf 71 = 2 := by kernel_rfl
theorem Tryz.cells22 : Tryz.prog.cellsOf 22 = 1 := by kernel_rfl
theorem Tryz.cells23 : Tryz.prog.cellsOf 23 = 1 := by kernel_rfl
theorem Tryz.cells25 : Tryz.prog.cellsOf 25 = 3 := by kernel_rfl
theorem Tryz.cells26 : Tryz.prog.cellsOf 26 = 1 := by kernel_rfl
theorem Tryz.cells28 : Tryz.prog.cellsOf 28 = 4 := by kernel_rfl
theorem Tryz.cells78 : Tryz.prog.cellsOf 78 = 7 := by kernel_rfl
theorem Tryz.bytes32 : Tryz.prog.bytesOf 32 = 24 := by kernel_rfl
theorem Tryz.bytes48 : Tryz.prog.bytesOf 48 = 56 := by kernel_rfl
theorem Tryz.bytes78 : Tryz.prog.bytesOf 78 = 72 := by kernel_rfl
theorem Tryz.bytes3 : Tryz.prog.bytesOf 3 = 8 := by kernel_rfl
theorem Tryz.bytes74 : Tryz.prog.bytesOf 74 = 72 := by kernel_rfl
theorem Tryz.bytes71 : Tryz.prog.bytesOf 71 = 24 := by kernel_rfl

section
variable {H : Type}
theorem mem_all {P : Program} {e : TypeId} {x : Nat} (d : DataW H) : ∀ {ds : List (DataW H)}, d ∈ ds → x ∈ d.weights P e → x ∈ DataW.weightsAll P e ds
  | [], h, _ => by simp at h
  | d' :: r, h, hx => by
    simp only [DataW.weightsAll, List.mem_append]
    rcases List.mem_cons.1 h with rfl | h
    · exact Or.inl hx
    · exact Or.inr (mem_all d h hx)
end

section
variable {H : Type} {enc : TypeId × Value → H} {W : World}

set_option maxRecDepth 100000 in
theorem open_rowG {α : Type} (z : α) {t e : TypeId} {k : Nat} (R : List Value → α → Prop) (ht : Tryz.prog.underlying t = some (.slice e)) (hk : Tryz.prog.cellsOf e = k) (hk0 : 0 < k)
    (hel : ∀ n cs y, DataW.trod enc Tryz.prog W 0 (fun _ => true) true n e cs = some y → (∀ x ∈ y.1.weights Tryz.prog e, x ≤ reachBytes) → ∃ x, R cs x)
    {n : Nat} {v : Value} {y : DataW H × List MemPlace} (h : DataW.trod enc Tryz.prog W 0 (fun _ => true) true n t [v] = some y) (hw : ∀ x ∈ y.1.weights Tryz.prog t, x ≤ reachBytes) :
    ∃ (a : Option Addr) (xs : List α) (ca : Nat), v = .slice a xs.length ca ∧ CapOk a ca xs.length ∧ xs.length * Tryz.prog.bytesOf e ≤ reachBytes ∧ (xs = [] ∨ ∃ b o, a = some ⟨b, o, none⟩ ∧ ∀ i, i < xs.length → ∃ cs, cs.length = k ∧ (∀ j, j < k → W.cell? ⟨b, o + i * k + j, none⟩ = cs[j]?) ∧ R cs (xs.getD i z)) := by
  rcases open_slice ht h with ⟨hcs, _⟩ | ⟨a, len, cap, m, n', D, Pl, hcs, _, hl, hm, hmm, hx, hc⟩
  · exact ⟨none, [], 0, by simpa using hcs, ⟨Nat.le_refl _, fun _ => rfl, fun p e => by cases e⟩, by simp, .inl rfl⟩
  · simp only [if_true] at hmm
    subst hmm
    have hx1 : y.1 = .slice ((List.range len).map D) ((List.range (m - len)).map fun j => D (len + j)) := by rw [hx]
    rw [hk] at hc
    haveI : Inhabited (List Value × α) := ⟨([], z)⟩
    have each : ∀ i, i < len → ∃ q : List Value × α, q.1.length = k ∧ (∀ j, j < k → W.cell? (a.add (i * k + j)) = q.1[j]?) ∧ R q.1 q.2 := by
      intro i hi
      obtain ⟨cs', h1, h2⟩ := hc i (by omega)
      obtain ⟨_, hlen, hcell⟩ := World.cells?_some h1
      obtain ⟨x, hx2⟩ := hel _ _ _ h2 (fun x hxw => hw x (by
        rw [hx1]
        simp only [DataW.weights, ht, List.mem_cons, List.mem_append]
        exact Or.inr (Or.inl (mem_all (D i) (List.mem_map.2 ⟨i, List.mem_range.2 hi, rfl⟩) hxw))))
      exact ⟨(cs', x), hlen, fun j hj => by rw [← add_add]; exact hcell j hj, hx2⟩
    obtain ⟨q, hq⟩ := choose_lt each
    have hlen : ((List.range len).map fun i => (q i).2).length = len := by simp
    have hspot : 0 < len → a.spot = none := fun h0 => by
      obtain ⟨h1, h2, _⟩ := hq 0 h0
      have h3 := h2 0 hk0
      rw [Nat.zero_mul, Nat.add_zero, List.getElem?_eq_getElem (show 0 < (q 0).1.length by omega)] at h3
      have := World.cell?_spot h3
      simpa [Addr.add] using this
    refine ⟨some a, (List.range len).map fun i => (q i).2, m, ?_, ?_, ?_, ?_⟩
    · rw [hlen]; simpa using hcs
    · refine ⟨by rw [hlen]; exact hl, (fun e => by cases e), fun p e hlt => ?_⟩
      injection e with e
      subst e
      rw [hlen] at hlt
      by_cases h0 : 0 < len
      · exact hspot h0
      · obtain ⟨cs', h1, _⟩ := hc 0 (by omega)
        obtain ⟨_, hln, hcell⟩ := World.cells?_some h1
        have h3 := hcell 0 hk0
        rw [List.getElem?_eq_getElem (show 0 < cs'.length by omega), add_add, Nat.zero_mul, Nat.add_zero] at h3
        have := World.cell?_spot h3
        simpa [Addr.add] using this
    · have := hw ((len + (m - len)) * Tryz.prog.bytesOf e) (by rw [hx1]; simp [DataW.weights, ht])
      rw [hlen]
      exact Nat.le_trans (Nat.mul_le_mul_right _ (by omega)) this
    · by_cases h0 : len = 0
      · exact .inl (by rw [h0]; rfl)
      · have hs := hspot (by omega)
        obtain ⟨b, off, spot⟩ := a
        simp only at hs
        subst hs
        refine .inr ⟨b, off, rfl, fun i hi => ?_⟩
        rw [hlen] at hi
        obtain ⟨h1, h2, h3⟩ := hq i hi
        refine ⟨(q i).1, h1, fun j hj => ?_, ?_⟩
        · have := h2 j hj
          rwa [Go.WideShapes.add_plain, ← Nat.add_assoc] at this
        · have e : ((List.range len).map fun i => (q i).2).getD i z = (q i).2 := by simp [List.getD, hi]
          rw [e]; exact h3

set_option maxRecDepth 100000 in
theorem open_str {n : Nat} {cs : List Value} {y : DataW H × List MemPlace} (h : DataW.trod enc Tryz.prog W 0 (fun _ => true) true n 9 cs = some y) (hw : ∀ x ∈ y.1.weights Tryz.prog 9, x ≤ reachBytes) : ∃ s : ByteArray, cs = [.string s] ∧ s.size ≤ 140737488355328 := by
  obtain ⟨s, rfl, rfl, hs⟩ := DataW.trod_string Tryz.underlying9 h
  refine ⟨s, rfl, ?_⟩
  have := hw s.data.toList.length (by simp [DataW.weights])
  have e : s.data.toList.length = s.size := ls_size s
  simp only [reachBytes] at this
  omega
set_option maxRecDepth 100000 in
theorem open_ints2 {n : Nat} {v : Value} {y : DataW H × List MemPlace} (h : DataW.trod enc Tryz.prog W 0 (fun _ => true) true n 32 [v] = some y) (hw : ∀ x ∈ y.1.weights Tryz.prog 32, x ≤ reachBytes) :
    ∃ (a : Option Addr) (xs : List Int) (ca : Nat), v = .slice a xs.length ca ∧ CapOk a ca xs.length ∧ xs.length ≤ 35184372088832 ∧ IntsAt W a xs := by
  obtain ⟨a, xs, ca, h1, h2, h3, h4⟩ := open_rowG (0 : Int) (fun cs x => cs = [.int .i64 x]) Tryz.underlying32 Tryz.cells3 (by omega) (fun n cs y h _ => by
    obtain ⟨x, hx, _⟩ := DataW.trod_int Tryz.underlying3 h
    exact ⟨x, hx⟩) h hw
  refine ⟨a, xs, ca, h1, h2, ?_, ?_⟩
  · rw [Tryz.bytes3] at h3; simp only [reachBytes] at h3; omega
  · rcases h4 with h4 | ⟨b, o, rfl, h5⟩
    · exact .inl h4
    · refine .inr ⟨b, o, rfl, fun i hi => ?_⟩
      obtain ⟨cs, _, h6, rfl⟩ := h5 i hi
      have := h6 0 (by omega)
      rw [Nat.mul_one, Nat.add_zero] at this
      exact this
set_option maxRecDepth 100000 in
theorem open_links {n : Nat} {v : Value} {y : DataW H × List MemPlace} (h : DataW.trod enc Tryz.prog W 0 (fun _ => true) true n 72 [v] = some y) (hw : ∀ x ∈ y.1.weights Tryz.prog 72, x ≤ reachBytes) :
    ∃ (a : Option Addr) (xs : List LinkD) (ca : Nat), v = .slice a xs.length ca ∧ CapOk a ca xs.length ∧ xs.length ≤ 35184372088832 ∧ LinksAt W a xs ∧ ∀ l ∈ xs, l.1.size ≤ 140737488355328 := by
  obtain ⟨a, xs, ca, h1, h2, h3, h4⟩ := open_rowG lk0 (fun cs x => cs = [.string x.1, .int .i64 x.2] ∧ x.1.size ≤ 140737488355328) Tryz.underlying72 Tryz.cells71 (by omega) (fun n cs y h hw => by
    obtain ⟨xs, k, _, rfl, hl, hxl, hf⟩ := DataW.trod_struct Tryz.underlying71 h
    rw [Tryz.cells71] at hl
    match xs, hxl, cs, hl with
    | [y0, y1], _, [v0, v1], _ =>
      have g0 := hf 0 _ rfl
      have g1 := hf 1 _ rfl
      simp [Tryz.cells9, Tryz.cells3] at g0 g1
      obtain ⟨s, hs, hsz⟩ := open_str g0 (fun x hx => hw x (by simp only [DataW.weights, DataW.weightsEach, Tryz.underlying71, List.map_cons, List.map_nil]; exact List.mem_append.2 (Or.inl hx)))
      obtain ⟨i, hi, _⟩ := DataW.trod_int Tryz.underlying3 g1
      simp only [List.cons.injEq, and_true] at hs hi
      subst hs; subst hi
      exact ⟨(s, i), rfl, hsz⟩) h hw
  refine ⟨a, xs, ca, h1, h2, ?_, ?_, ?_⟩
  · rw [Tryz.bytes71] at h3; simp only [reachBytes] at h3; omega
  · rcases h4 with h4 | ⟨b, o, rfl, h5⟩
    · exact .inl h4
    · refine .inr ⟨b, o, rfl, fun i hi => ?_⟩
      obtain ⟨cs, _, h6, rfl, _⟩ := h5 i hi
      have e0 := h6 0 (by omega)
      have e1 := h6 1 (by omega)
      exact ⟨e0, e1⟩
  · intro l hl
    rcases h4 with h4 | ⟨b, o, rfl, h5⟩
    · rw [h4] at hl; simp at hl
    · obtain ⟨i, hi, rfl⟩ := List.getElem_of_mem hl
      obtain ⟨cs, _, _, _, h6⟩ := h5 i hi
      simpa [List.getD, hi] using h6
set_option maxRecDepth 100000 in
theorem open_files {n : Nat} {v : Value} {y : DataW H × List MemPlace} (h : DataW.trod enc Tryz.prog W 0 (fun _ => true) true n 46 [v] = some y) (hw : ∀ x ∈ y.1.weights Tryz.prog 46, x ≤ reachBytes) :
    ∃ (a : Option Addr) (fs : List FileD) (ca : Nat), v = .slice a fs.length ca ∧ CapOk a ca fs.length ∧ fs.length ≤ 35184372088832 ∧ FilesAt W a fs ∧ ∀ f ∈ fs, LooseF f := by
  obtain ⟨a, xs, ca, h1, h2, h3, h4⟩ := open_rowG f0 (fun cs f => (∃ ab cb al cl, cs = fcells f ab cb al cl ∧ (IntsAt W ab f.blocks ∧ CapOk ab cb f.blocks.length) ∧ LinksAt W al f.list ∧ CapOk al cl f.list.length) ∧ LooseF f) Tryz.underlying46 Tryz.cells74 (by omega) (fun n cs y h hw => by
    obtain ⟨xs, k, _, rfl, hl, hxl, hf⟩ := DataW.trod_struct Tryz.underlying74 h
    rw [Tryz.cells74] at hl
    match xs, hxl, cs, hl with
    | [y0, y1, y2, y3, y4], _, [v0, v1, v2, v3, v4], _ =>
      have g0 := hf 0 _ rfl
      have g1 := hf 1 _ rfl
      have g2 := hf 2 _ rfl
      have g3 := hf 3 _ rfl
      have g4 := hf 4 _ rfl
      simp [Tryz.cells3, Tryz.cells4, Tryz.cells32, Tryz.cells72] at g0 g1 g2 g3 g4
      obtain ⟨id, hid, _⟩ := DataW.trod_int Tryz.underlying3 g0
      obtain ⟨dir, hdir, _⟩ := DataW.trod_bool Tryz.underlying4 g1
      obtain ⟨size, hsize, _⟩ := DataW.trod_int Tryz.underlying3 g2
      obtain ⟨ab, bl, cb, e3, q3, q4, q5⟩ := open_ints2 g3 (fun x hx => hw x (by simp only [DataW.weights, DataW.weightsEach, Tryz.underlying74, List.map_cons, List.map_nil]; exact List.mem_append.2 (Or.inr (List.mem_append.2 (Or.inr (List.mem_append.2 (Or.inr (List.mem_append.2 (Or.inl hx)))))))))
      obtain ⟨al, li, cl, e4, q6, q7, q8, q9⟩ := open_links g4 (fun x hx => hw x (by simp only [DataW.weights, DataW.weightsEach, Tryz.underlying74, List.map_cons, List.map_nil]; exact List.mem_append.2 (Or.inr (List.mem_append.2 (Or.inr (List.mem_append.2 (Or.inr (List.mem_append.2 (Or.inr (List.mem_append.2 (Or.inl hx)))))))))))
      simp only [List.cons.injEq, and_true] at hid hdir hsize
      subst hid; subst hdir; subst hsize; subst e3; subst e4
      exact ⟨⟨id, dir, size, bl, li⟩, ⟨ab, cb, al, cl, rfl, ⟨q5, q3⟩, q8, q6⟩, q4, q7, q9⟩) h hw
  refine ⟨a, xs, ca, h1, h2, ?_, ?_, ?_⟩
  · rw [Tryz.bytes74] at h3; simp only [reachBytes] at h3; omega
  · rcases h4 with h4 | ⟨b, o, rfl, h5⟩
    · exact .inl h4
    · refine .inr ⟨b, o, rfl, fun i hi => ?_⟩
      obtain ⟨cs, _, h6, ⟨ab, cb, al, cl, rfl, h7⟩, _⟩ := h5 i hi
      have e0 := h6 0 (by omega)
      have e1 := h6 1 (by omega)
      have e2 := h6 2 (by omega)
      have e3 := h6 3 (by omega)
      have e4 := h6 4 (by omega)
      exact ⟨ab, cb, al, cl, ⟨e0, e1, e2, e3, e4⟩, h7⟩
  · intro l hl
    rcases h4 with h4 | ⟨b, o, rfl, h5⟩
    · rw [h4] at hl; simp at hl
    · obtain ⟨i, hi, rfl⟩ := List.getElem_of_mem hl
      obtain ⟨cs, _, _, _, h6⟩ := h5 i hi
      simpa [List.getD, hi] using h6
set_option maxRecDepth 100000 in
theorem open_vol {n : Nat} {cs : List Value} {y : DataW H × List MemPlace} (h : DataW.trod enc Tryz.prog W 0 (fun _ => true) true n 48 cs = some y) (hw : ∀ x ∈ y.1.weights Tryz.prog 48, x ≤ reachBytes) :
    ∃ (d : VolD) (a : Option Addr) (c : Nat), cs = [.int .i64 d.id, .int .i64 d.fr, .bool d.snap, .slice a d.files.length c, .int .i64 d.next] ∧ FilesAt W a d.files ∧ CapOk a c d.files.length ∧ LooseV d := by
  obtain ⟨xs, k, _, rfl, hl, hxl, hf⟩ := DataW.trod_struct Tryz.underlying48 h
  rw [Tryz.cells48] at hl
  match xs, hxl, cs, hl with
  | [z0, z1, z2, z3, z4], _, [v0, v1, v2, v3, v4], _ =>
    have g0 := hf 0 _ rfl
    have g1 := hf 1 _ rfl
    have g2 := hf 2 _ rfl
    have g3 := hf 3 _ rfl
    have g4 := hf 4 _ rfl
    simp [Tryz.cells3, Tryz.cells4, Tryz.cells46] at g0 g1 g2 g3 g4
    obtain ⟨id, hid, _⟩ := DataW.trod_int Tryz.underlying3 g0
    obtain ⟨fr, hfr, _⟩ := DataW.trod_int Tryz.underlying3 g1
    obtain ⟨snap, hsn, _⟩ := DataW.trod_bool Tryz.underlying4 g2
    obtain ⟨next, hnx, _⟩ := DataW.trod_int Tryz.underlying3 g4
    obtain ⟨av, fs, ca, e3, q3, q4, q5, q6⟩ := open_files g3 (fun x hx => hw x (by simp only [DataW.weights, DataW.weightsEach, Tryz.underlying48, List.map_cons, List.map_nil]; exact List.mem_append.2 (Or.inr (List.mem_append.2 (Or.inr (List.mem_append.2 (Or.inr (List.mem_append.2 (Or.inl hx)))))))))
    simp only [List.cons.injEq, and_true] at hid hfr hsn hnx
    subst hid; subst hfr; subst hsn; subst hnx; subst e3
    exact ⟨⟨id, fr, snap, fs, next⟩, av, ca, rfl, q5, q3, q4, q6⟩
set_option maxRecDepth 100000 in
theorem open_vols {n : Nat} {v : Value} {y : DataW H × List MemPlace} (h : DataW.trod enc Tryz.prog W 0 (fun _ => true) true n 22 [v] = some y) (hw : ∀ x ∈ y.1.weights Tryz.prog 22, x ≤ reachBytes) :
    ∃ (a : Option Addr) (xs : List VolD) (ca : Nat), v = .slice a xs.length ca ∧ CapOk a ca xs.length ∧ VolsAt W a xs ∧ LooseW xs := by
  obtain ⟨a, xs, ca, h1, h2, h3, h4⟩ := open_rowG VZ (fun cs d => ∃ (a : Option Addr) (c : Nat), cs = [.int .i64 d.id, .int .i64 d.fr, .bool d.snap, .slice a d.files.length c, .int .i64 d.next] ∧ FilesAt W a d.files ∧ CapOk a c d.files.length ∧ LooseV d) Tryz.underlying22 Tryz.cells48 (by omega) (fun n cs y h hw => by
    obtain ⟨d, a, c, h1, h2, h3, h4⟩ := open_vol h hw
    exact ⟨d, a, c, h1, h2, h3, h4⟩) h hw
  refine ⟨a, xs, ca, h1, h2, ?_, ?_, ?_⟩
  · rcases h4 with h4 | ⟨b, o, rfl, h5⟩
    · exact .inl h4
    · refine .inr ⟨b, o, rfl, fun i hi => ?_⟩
      obtain ⟨cs, _, h6, a, c, rfl, h7, h8, _⟩ := h5 i hi
      have e0 := h6 0 (by omega)
      have e1 := h6 1 (by omega)
      have e2 := h6 2 (by omega)
      have e3 := h6 3 (by omega)
      have e4 := h6 4 (by omega)
      exact ⟨a, c, ⟨e0, e1, e2, e3, e4⟩, h7, h8⟩
  · rw [Tryz.bytes48] at h3; simp only [reachBytes] at h3; omega
  · intro d hd
    rcases h4 with h4 | ⟨b, o, rfl, h5⟩
    · rw [h4] at hd; simp at hd
    · obtain ⟨i, hi, rfl⟩ := List.getElem_of_mem hd
      obtain ⟨cs, _, _, a, c, _, _, _, h6⟩ := h5 i hi
      simpa [List.getD, hi] using h6
set_option maxRecDepth 100000 in
theorem open_acts {n : Nat} {v : Value} {y : DataW H × List MemPlace} (h : DataW.trod enc Tryz.prog W 0 (fun _ => true) true n 23 [v] = some y) (hw : ∀ x ∈ y.1.weights Tryz.prog 23, x ≤ reachBytes) :
    ∃ (a : Option Addr) (xs : List ActD) (ca : Nat), v = .slice a xs.length ca ∧ CapOk a ca xs.length ∧ ActsAt W a xs ∧ LooseA xs := by
  obtain ⟨a, xs, ca, h1, h2, h3, h4⟩ := open_rowG act0 (fun cs x => ∃ (a : Option Addr) (c : Nat), cs = [.int .i64 x.act, .int .i64 x.id, .int .i64 x.v.id, .int .i64 x.v.fr, .bool x.v.snap, .slice a x.v.files.length c, .int .i64 x.v.next] ∧ FilesAt W a x.v.files ∧ CapOk a c x.v.files.length ∧ LooseV x.v) Tryz.underlying23 Tryz.cells78 (by omega) (fun n cs y h hw => by
    obtain ⟨xs, k, _, rfl, hl, hxl, hf⟩ := DataW.trod_struct Tryz.underlying78 h
    rw [Tryz.cells78] at hl
    match xs, hxl, cs, hl with
    | [y0, y1, y2], _, [v0, v1, v2, v3, v4, v5, v6], _ =>
      have g0 := hf 0 _ rfl
      have g1 := hf 1 _ rfl
      have g2 := hf 2 _ rfl
      simp [Tryz.cells3, Tryz.cells48] at g0 g1 g2
      obtain ⟨i, hi, _⟩ := DataW.trod_int Tryz.underlying3 g0
      obtain ⟨j, hj, _⟩ := DataW.trod_int Tryz.underlying3 g1
      obtain ⟨d, av, cv, hd, q1, q2, q3⟩ := open_vol g2 (fun x hx => hw x (by simp only [DataW.weights, DataW.weightsEach, Tryz.underlying78, List.map_cons, List.map_nil]; exact List.mem_append.2 (Or.inr (List.mem_append.2 (Or.inr (List.mem_append.2 (Or.inl hx)))))))
      simp only [List.cons.injEq, and_true] at hi hj hd
      obtain ⟨rfl, rfl, rfl, rfl, rfl⟩ := hd
      subst hi; subst hj
      exact ⟨⟨i, j, d⟩, av, cv, rfl, q1, q2, q3⟩) h hw
  refine ⟨a, xs, ca, h1, h2, ?_, ?_, ?_⟩
  · rcases h4 with h4 | ⟨b, o, rfl, h5⟩
    · exact .inl h4
    · refine .inr ⟨b, o, rfl, fun i hi => ?_⟩
      obtain ⟨cs, _, h6, a, c, rfl, h7, h8, _⟩ := h5 i hi
      have e0 := h6 0 (by omega)
      have e1 := h6 1 (by omega)
      have e2 := h6 2 (by omega)
      have e3 := h6 3 (by omega)
      have e4 := h6 4 (by omega)
      have e5 := h6 5 (by omega)
      have e6 := h6 6 (by omega)
      exact ⟨e0, e1, a, c, ⟨e2, e3, e4, e5, e6⟩, h7, h8⟩
  · rw [Tryz.bytes78] at h3; simp only [reachBytes] at h3; omega
  · intro d hd
    rcases h4 with h4 | ⟨b, o, rfl, h5⟩
    · rw [h4] at hd; simp at hd
    · obtain ⟨i, hi, rfl⟩ := List.getElem_of_mem hd
      obtain ⟨cs, _, _, a, c, _, _, _, h6⟩ := h5 i hi
      simpa [List.getD, hi] using h6
set_option maxRecDepth 100000 in
theorem open_rows {n : Nat} {v : Value} {y : DataW H × List MemPlace} (h : DataW.trod enc Tryz.prog W 0 (fun _ => true) true n 26 [v] = some y) (hw : ∀ x ∈ y.1.weights Tryz.prog 26, x ≤ reachBytes) :
    ∃ (a : Option Addr) (xs : List RowD) (ca : Nat), v = .slice a xs.length ca ∧ CapOk a ca xs.length ∧ RowsAt W a xs ∧ LooseR xs := by
  obtain ⟨a, xs, ca, h1, h2, h3, h4⟩ := open_rowG rw0 (fun cs r => cs = [rowV r] ∧ RowOk W r ∧ r.2.2.length ≤ 35184372088832) Tryz.underlying26 Tryz.cells32 (by omega) (fun n cs y h hw => by
    obtain ⟨v, rfl⟩ : ∃ v, cs = [v] := by
      rcases open_slice Tryz.underlying32 h with ⟨hcs, _⟩ | ⟨_, _, _, _, _, _, _, hcs, _⟩
      · exact ⟨_, hcs⟩
      · exact ⟨_, hcs⟩
    obtain ⟨a, xs, ca, h1, h2, h3, h4⟩ := open_ints2 h hw
    exact ⟨(a, ca, xs), by rw [h1]; rfl, ⟨h4, h2.2.1⟩, h3⟩) h hw
  refine ⟨a, xs, ca, h1, h2, ?_, ?_, ?_⟩
  · rcases h4 with h4 | ⟨b, o, rfl, h5⟩
    · exact .inl h4
    · refine .inr ⟨b, o, rfl, fun i hi => ?_⟩
      obtain ⟨cs, _, h6, rfl, h7, _⟩ := h5 i hi
      have e0 := h6 0 (by omega)
      rw [Nat.mul_one, Nat.add_zero] at e0
      exact ⟨e0, h7⟩
  · rw [Tryz.bytes32] at h3; simp only [reachBytes] at h3; omega
  · intro d hd
    rcases h4 with h4 | ⟨b, o, rfl, h5⟩
    · rw [h4] at hd; simp at hd
    · obtain ⟨i, hi, rfl⟩ := List.getElem_of_mem hd
      obtain ⟨cs, _, _, _, _, h6⟩ := h5 i hi
      simpa [List.getD, hi] using h6

set_option maxRecDepth 100000 in
theorem open_ask {r : Go.Reach} {b0 : Nat} {v : Value} {d : DataW H} {p : List MemPlace} (hv : Value.okWide Tryz.prog W r b0 28 v) (h : DataW.Trod enc Tryz.prog W 0 (fun _ => true) true 28 v d p) (hw : ∀ x ∈ d.weights Tryz.prog 28, x ≤ reachBytes) :
    ∃ (ds : List VolD) (next : Int) (l : List ActD) (rs : List RowD), AskVal W v ds next l rs ∧ LooseW ds ∧ LooseA l ∧ LooseR rs := by
  obtain ⟨cs, rfl, hsz⟩ := okWide_struct Tryz.underlying28 hv
  rw [Tryz.cells28] at hsz
  obtain ⟨cl⟩ := cs
  obtain ⟨fuel, hf⟩ := h
  match cl, hsz with
  | [v0, v1, v2, v3], _ =>
    obtain ⟨y0, y1, n, hx, _, h0, h1⟩ := trod_struct2 Tryz.underlying28 hf
    simp only [Prod.mk.injEq] at hx
    obtain ⟨rfl, rfl⟩ := hx
    simp [Value.cells, Tryz.cells25, Tryz.cells26] at h0 h1
    have hw0 : ∀ x ∈ y0.1.weights Tryz.prog 25, x ≤ reachBytes := fun x hx => hw x (by simp only [DataW.weights, DataW.weightsEach, Tryz.underlying28, List.map_cons, List.map_nil]; exact List.mem_append.2 (Or.inl hx))
    obtain ⟨aR, rs, cR, rfl, hcR, hR, hlR⟩ := open_rows h1 (fun x hx => hw x (by simp only [DataW.weights, DataW.weightsEach, Tryz.underlying28, List.map_cons, List.map_nil]; exact List.mem_append.2 (Or.inr (List.mem_append.2 (Or.inl hx)))))
    obtain ⟨xs, k, _, rfl, hl, hxl, hf⟩ := DataW.trod_struct Tryz.underlying25 h0
    match xs, hxl with
    | [z0, z1, z2], _ =>
      have g0 := hf 0 _ rfl
      have g1 := hf 1 _ rfl
      have g2 := hf 2 _ rfl
      simp [Tryz.cells3, Tryz.cells22, Tryz.cells23] at g0 g1 g2
      obtain ⟨av, ds, ca, e0, q1, q2, q3⟩ := open_vols g0 (fun x hx => hw0 x (by simp only [DataW.weights, DataW.weightsEach, Tryz.underlying25, List.map_cons, List.map_nil]; exact List.mem_append.2 (Or.inl hx)))
      obtain ⟨next, hnx, _⟩ := DataW.trod_int Tryz.underlying3 g1
      obtain ⟨aL, l, cL, e2, q4, q5, q6⟩ := open_acts g2 (fun x hx => hw0 x (by simp only [DataW.weights, DataW.weightsEach, Tryz.underlying25, List.map_cons, List.map_nil]; exact List.mem_append.2 (Or.inr (List.mem_append.2 (Or.inr (List.mem_append.2 (Or.inl hx)))))))
      simp only [List.cons.injEq, and_true] at hnx
      subst hnx; subst e0; subst e2
      exact ⟨ds, next, l, rs, ⟨av, ca, aL, cL, aR, cR, rfl, ⟨q2, q1⟩, ⟨q5, q4⟩, hR, hcR⟩, q3, q6, hlR⟩
end

end Go.Proofs.YtbaphgdlbeaenaaGreat

/- Numbers sorted, each once, by the program; where one stands in them. -/
namespace Go.Proofs.YtbaphgdlbeaenaaGreat
open Go.RowKit

abbrev sortI (l : List Int) : List Int := l.mergeSort fun x y => decide (x ≤ y)
theorem sort_any (base : Nat) (v : Value) (l : List Int) (w : World) (h : OwnInts w base v l) (hl : l.length ≤ 10000000) :
    Calls Tryz.prog 46 #[v] w fun e w' => e = .returned (.tuple #[]) ∧ OwnInts w' base v (sortI l) ∧ w.grownBy w' v.ownBlock := by
  have hlen : (sortI l).length = l.length := List.length_mergeSort l
  rcases h.2 with ⟨rfl, h0⟩ | ⟨g, cap, cur, rfl, hb, hblk, h1, h2, h3, h4⟩
  · have e0 : l = [] := List.length_eq_zero_iff.1 h0
    subst e0
    refine (Tryz.slices_Sort_int_none none 0 w).mono ?_
    rintro e w' ⟨rfl, rfl⟩
    exact ⟨rfl, by simpa [sortI] using h, ⟨rfl, rfl, rfl, Nat.le_refl _, fun _ _ _ => rfl⟩⟩
  · rw [Nat.mul_one] at h4
    have hg : g < w.heap.size := (Array.getElem?_eq_some_iff.1 hblk).1
    refine (Tryz.slices_Sort_int g 0 cap l w (holds_of_blockI hblk h4) hg (by omega)).mono ?_
    rintro e w' ⟨rfl, n, os, rfl⟩
    refine ⟨rfl, ?_, grownBy_sortedI _⟩
    have h5 := ownsRow_sortedI (n := n) (os := os) (ss := l) (ts := sortI l) hlen hb hblk h1 h2 h3
    unfold OwnInts
    rw [hlen]
    exact h5
theorem grow_empty (w : World) : Go.Sort.grow w #[] = w := by simp [Go.Sort.grow]
theorem compact_any (base : Nat) (v : Value) (l : List Int) (w : World) (h : OwnInts w base v l) (hl : l.length ≤ 10000000) :
    Calls Tryz.prog 47 #[v] w fun e w' => ∃ v', e = .returned v' ∧ OwnInts w' base v' (Lib.compact l) ∧ w.grownBy w' v.ownBlock := by
  rcases h.2 with ⟨rfl, h0⟩ | ⟨g, cap, cur, rfl, hb, hblk, h1, h2, h3, h4⟩
  · have e0 : l = [] := List.length_eq_zero_iff.1 h0
    subst e0
    refine (Tryz.slices_Compact_int_empty none 0 w).mono ?_
    rintro e w' ⟨rfl, rfl⟩
    exact ⟨_, rfl, by simpa [Lib.compact, Lib.compactUpTo] using h, ⟨rfl, rfl, rfl, Nat.le_refl _, fun _ _ _ => rfl⟩⟩
  · rw [Nat.mul_one] at h4
    refine (Tryz.slices_Compact_int g 0 cap l w (holds_of_blockI hblk h4) (by omega) h1).mono ?_
    rintro e w' ⟨rfl, q, rfl⟩
    have hle : (Lib.compact l).length ≤ l.length := by
      unfold Lib.compact Lib.compactUpTo
      rw [List.length_map]
      exact Nat.le_trans (List.length_filter_le _ _) (by simp)
    generalize Lib.compact l = c at hle ⊢
    have hgr := grownBy_sortedI (w := w) (g := g) (n := q) (os := #[]) (c ++ List.replicate (l.length - c.length) 0).toArray
    have hhp := heap_sortedI (n := q) (os := #[]) (c ++ List.replicate (l.length - c.length) 0).toArray hblk
    rw [grow_empty] at hgr hhp
    have hln : (c ++ List.replicate (l.length - c.length) (0 : Int)).length = l.length := by simp; omega
    have htk := take_putCellsI cur (c ++ List.replicate (l.length - c.length) 0) (by rw [hln]; omega)
    refine ⟨_, rfl, ⟨by simp, .inr ⟨g, cap, _, rfl, hb, hhp, by omega, h2, by simp [Go.Sort.putCells, h3], ?_⟩⟩, hgr⟩
    rw [Nat.mul_one]
    have e1 : ∀ (xs : List Value), xs.take c.length = (xs.take l.length).take c.length := fun xs => by rw [List.take_take, Nat.min_eq_left hle]
    rw [e1]
    rw [hln] at htk
    rw [htk, List.map_append, List.take_append_of_le_length (by simp), List.take_of_length_le (by simp)]

set_option maxRecDepth 100000 in
set_option maxHeartbeats 2000000 in
theorem setOf_any (a : Option Addr) (rs : List RowD) (ca : Nat) (w : World) (hr : RowsAt w a rs) (hl : rs.length ≤ 1000000) (hn : (allN rs).length ≤ 1000000) :
    Calls Tryz.prog 24 #[.slice a rs.length ca] w fun e w' => (∃ v, e = .returned v ∧ OwnInts w' w.heap.size v (risN (allN rs))) ∧ Below w.heap.size w w' := by
  have HR : Hid (RowsAt w a rs) := hr
  have HN : Hid ((allN rs).length ≤ 1000000) := hn
  clear hr hn
  go_enter Tryz.func24, Tryz.ntmps24
  go_wp2_with fail
  refine (concat_any a rs ca w HR.out hl HN.out).mono ?_
  rintro e w1 ⟨⟨v1, rfl, hO1⟩, hb1⟩
  have HO1 : Hid (OwnInts w1 w.heap.size v1 (allN rs)) := hO1
  have HB1 : Hid (Below w.heap.size w w1) := hb1
  clear hO1 hb1
  go_wp2_with fail
  refine (sort_any _ v1 _ w1 HO1.out (by have := HN.out; omega)).mono ?_
  rintro e w2 ⟨rfl, hO2, hg2⟩
  have HO2 : Hid (OwnInts w2 w.heap.size v1 (sortI (allN rs))) := hO2
  have HB2 : Hid (Below w.heap.size w w2) := HB1.out.grown hg2 HB1.out.size (fun q e => (HO1.out.lt q e).1)
  clear hO2 hg2 HO1 HB1
  go_wp2_with fail
  refine (compact_any _ v1 _ w2 HO2.out (by rw [List.length_mergeSort]; have := HN.out; omega)).mono ?_
  rintro e w3 ⟨v3, rfl, hO3, hg3⟩
  have HO3 : Hid (OwnInts w3 w.heap.size v3 (risN (allN rs))) := by rw [← compact_sort]; exact hO3
  have HB3 : Hid (Below w.heap.size w w3) := HB2.out.grown hg3 HB2.out.size (fun q e => (HO2.out.lt q e).1)
  clear hO3 hg3
  obtain ⟨av, cv, rfl, _⟩ := id HO3.out.at
  go_wp2_with fail
  go_ret
  exact ⟨⟨_, rfl, HO3.out⟩, HB3.out⟩

set_option maxRecDepth 100000 in
set_option maxHeartbeats 2000000 in
theorem searchNone (x : Int) (w : World) : Calls Tryz.prog 64 #[.slice none 0 0, .int .i64 x] w fun e w' => e = .returned (.tuple #[.int .i64 0, .bool false]) ∧ w' = w := by
  go_enter Tryz.func64, Tryz.ntmps64
  go_wp2_with fail
  go_loopw [7, 8] (fun s7 s8 wr => s7 = .int .i64 0 ∧ s8 = .int .i64 0 ∧ wr = w) (fun _ _ _ => 0)
  case atStart => exact ⟨rfl, rfl, rfl⟩
  case round =>
    obtain ⟨rfl, rfl, hw⟩ := hrel
    obtain rfl := hw.symm
    go_wp2_with fail
    go_ret2
    exact ⟨rfl, rfl⟩

theorem search_any (base : Nat) (v : Value) (s : List Int) (x : Int) (w : World) (h : OwnInts w base v s) (hs : s.Pairwise (· < ·)) (hl : s.length ≤ 10000000) :
    Calls Tryz.prog 64 #[v, .int .i64 x] w fun e w' => e = .returned (.tuple #[.int .i64 (s.countP (· < x) : Nat), .bool (s.contains x)]) ∧ ∃ q, w' = w.drewN q := by
  rcases id h.2 with ⟨rfl, h0⟩ | ⟨g, cap, cur, rfl, hb, hblk, h1, h2, h3, h4⟩
  · have e0 : s = [] := List.length_eq_zero_iff.1 h0
    subst e0
    refine (searchNone x w).mono ?_
    rintro e w' ⟨rfl, rfl⟩
    exact ⟨rfl, 0, rfl⟩
  · obtain ⟨a, c, e, hat, _⟩ := h.at
    injection e with e1 _ e2
    subst e1; subst e2
    have hc : ∀ j, j < s.length → w.cell? ⟨g, 0 + j, none⟩ = some (.int .i64 (s.getD j 0)) := fun j hj => by
      obtain ⟨b, o, e, h5⟩ := hat.cell hj
      injection e with e
      injection e with e1 e2
      subst e1; subst e2
      exact h5
    have := Tryz.slices_BinarySearch_int g 0 s.length cap s x w (Nat.le_refl _) (by omega) hc (by rw [List.take_length]; exact hs.imp (fun h => by omega))
    rw [List.take_length] at this
    exact this

set_option maxRecDepth 100000 in
set_option maxHeartbeats 2000000 in
theorem sat_any (base : Nat) (v : Value) (s : List Int) (x : Int) (w : World) (h : OwnInts w base v s) (hs : s.Pairwise (· < ·)) (hl : s.length ≤ 10000000) :
    Calls Tryz.prog 48 #[v, .int .i64 x] w fun e w' => e = .returned (.tuple #[.int .i64 (s.countP (· < x) : Nat), .bool (s.contains x)]) ∧ ∃ q, w' = w.drewN q := by
  have HC : Hid (Calls Tryz.prog 64 #[v, .int .i64 x] w fun e w' => e = .returned (.tuple #[.int .i64 (s.countP (· < x) : Nat), .bool (s.contains x)]) ∧ ∃ q, w' = w.drewN q) := search_any base v s x w h hs hl
  clear h hs
  generalize s.countP (· < x) = k at HC ⊢
  generalize s.contains x = b at HC ⊢
  go_enter Tryz.func48, Tryz.ntmps48
  go_wp2_with fail
  refine HC.out.mono ?_
  rintro e w' ⟨rfl, q, rfl⟩
  go_wp2_with fail
  go_ret2
  exact ⟨rfl, q, rfl⟩

end Go.Proofs.YtbaphgdlbeaenaaGreat

/- What a path finds, by the page. -/
namespace Go.Proofs.YtbaphgdlbeaenaaGreat
open Go.RowKit

def placeOf (fs : List FileD) (id : Int) : Nat := (atI fs id).getD 0
def findF (fs : List FileD) : Nat → List ByteArray → Nat × Int
  | at', [] => (at', 0)
  | at', n :: r => if (fs.getD at' f0).dir then (match namedI (fs.getD at' f0).list n with
      | none => (0, 3)
      | some k => findF fs (placeOf fs ((fs.getD at' f0).list.getD k lk0).2) r) else (0, 7)
/-- each link names a file that is there -/
def Sound (fs : List FileD) : Prop := 0 < fs.length ∧ ∀ f ∈ fs, ∀ l ∈ f.list, (atI fs l.2).isSome = true

theorem atI_lt {fs : List FileD} {id : Int} {k : Nat} (h : atI fs id = some k) : k < fs.length := by
  unfold atI at h
  exact (List.findIdx?_eq_some_iff_getElem.1 h).1
theorem namedI_lt {l : List LinkD} {n : ByteArray} {k : Nat} (h : namedI l n = some k) : k < l.length := by
  unfold namedI at h
  exact (List.findIdx?_eq_some_iff_getElem.1 h).1
theorem Sound.at {fs : List FileD} (h : Sound fs) {i k : Nat} (hi : i < fs.length) (hk : k < (fs.getD i f0).list.length) : ∃ j, atI fs ((fs.getD i f0).list.getD k lk0).2 = some j ∧ j < fs.length := by
  have hf : fs.getD i f0 ∈ fs := by simp [List.getD, hi]
  have hm : (fs.getD i f0).list.getD k lk0 ∈ (fs.getD i f0).list := by
    have : (fs.getD i f0).list.getD k lk0 = (fs.getD i f0).list[k] := by rw [List.getD, List.getElem?_eq_getElem hk]; rfl
    rw [this]; exact List.getElem_mem hk
  have := h.2 _ hf _ hm
  obtain ⟨j, hj⟩ := Option.isSome_iff_exists.1 this
  exact ⟨j, hj, atI_lt hj⟩

end Go.Proofs.YtbaphgdlbeaenaaGreat
