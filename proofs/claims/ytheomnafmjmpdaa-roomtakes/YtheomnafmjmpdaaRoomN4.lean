/- Laid together: RefTwo, Not, Kit, Dev, Devf. -/
import Derived.Test.YtheomnafmjmpdaaRoomN3
import Derived.Deep.RegionWith
import Derived.BigQuiet
import Derived.Deep.QuietTactic
import Derived.Deep.RegionHeld3
import Derived.Lib.SliceRun
import Derived.Deep.CutRange
import Derived.Deep.CutBlock
/- hermitageref1.Two by its contract, for each of its three kinds. -/
namespace Go.Proofs.Ytheomnafmjmpdaa
open Go.RowKit

structure T3 (wr : World) (g : Nat) (s t u : Nat → Bool) : Prop where
  one : SetJ wr g s
  two : SetJ wr (g + 1) t
  acc : SetJ wr (g + 2) u

theorem T3.step {wr : World} {g k : Nat} {s t f : Nat → Bool} (h : T3 wr g s t (fun j => decide (j < k) && f j)) :
    T3 (wr.setCell ⟨g + 2, k, none⟩ (.bool (f k))) g s t (fun j => decide (j < k + 1) && f j) := by
  refine ⟨World.rowIs.setOther h.one (by show g ≠ g + 2; omega) _, World.rowIs.setOther h.two (by show g + 1 ≠ g + 2; omega) _, ?_⟩
  refine (World.rowIs.set h.acc k (.bool (f k))).congr fun j _ => ?_
  simp only [Ytheomnafmjmpdaa.setRow]
  by_cases e : j = k
  · subst e; simp
  · rw [if_neg e]
    congr 2
    rw [decide_eq_decide]; omega

theorem T3.start (w : World) (s t : Nat → Bool) (u : Nat → Bool) (hu : ∀ k, u k = false) :
    T3 (((((w.alloc (.cells (setArr fun _ => false) 110)).alloc (.cells (setArr fun _ => false) 110)).setRow w.heap.size (setArr s)).setRow (w.heap.size + 1) (setArr t)).alloc (.cells (setArr fun _ => false) 110)) w.heap.size s t u := by
  have e : u = fun _ => false := funext hu
  subst e
  have h1 : SetJ (w.alloc (.cells (setArr fun _ => false) 110)) w.heap.size (fun _ => false) := SetJ.new w _
  have h2 := SetJ.new (w.alloc (.cells (setArr fun _ => false) 110)) (fun _ => false)
  rw [show (w.alloc (.cells (setArr fun _ => false) 110)).heap.size = w.heap.size + 1 from by simp] at h2
  have h1' : SetJ ((w.alloc (.cells (setArr fun _ => false) 110)).alloc (.cells (setArr fun _ => false) 110)) w.heap.size (fun _ => false) := World.rowIs.alloc h1 _
  have h3 := SetJ.new ((((w.alloc (.cells (setArr fun _ => false) 110)).alloc (.cells (setArr fun _ => false) 110)).setRow w.heap.size (setArr s)).setRow (w.heap.size + 1) (setArr t)) (fun _ => false)
  rw [show ((((w.alloc (.cells (setArr fun _ => false) 110)).alloc (.cells (setArr fun _ => false) 110)).setRow w.heap.size (setArr s)).setRow (w.heap.size + 1) (setArr t)).heap.size = w.heap.size + 2 from by simp] at h3
  exact ⟨World.rowIs.alloc (SetJ.rowApart (SetJ.setRow h1' (s := s)) (b := w.heap.size + 1) (s' := t) (by omega)) _, World.rowIs.alloc (SetJ.setRow (SetJ.rowApart h2 (b := w.heap.size) (s' := s) (by omega)) (s := t)) _, h3⟩

theorem t3_below {w w1 : World} (hb1 : Below w.heap.size w w1) {c d : Array Value} {o o' o2 : Obj} :
    Below w.heap.size w (((((w1.alloc o).alloc o').setRow w1.heap.size c).setRow (w1.heap.size + 1) d).alloc o2) := nwA (two_new hb1) _

theorem setj2 (w : World) : SetJ ((w.alloc (.cells (setArr fun _ => false) 110)).alloc (.cells (setArr fun _ => false) 110)) w.heap.size (fun _ => false) ∧
    ∀ s, SetJ (((w.alloc (.cells (setArr fun _ => false) 110)).alloc (.cells (setArr fun _ => false) 110)).setRow w.heap.size (setArr s)) (w.heap.size + 1) (fun _ => false) := by
  have h2 := SetJ.new (w.alloc (.cells (setArr fun _ => false) 110)) (fun _ => false)
  rw [show (w.alloc (.cells (setArr fun _ => false) 110)).heap.size = w.heap.size + 1 from by simp] at h2
  exact ⟨World.rowIs.alloc (SetJ.new w _) _, fun s => SetJ.rowApart h2 (b := w.heap.size) (s' := s) (by omega)⟩

set_option maxRecDepth 100000 in
set_option maxHeartbeats 2000000 in
theorem refTwo0_any (a b : Option Addr) (l m : List (Int × Int)) (ca cb : Nat) (w : World) (ha : SegsAt w a l) (hb : SegsAt w b m) (hl : l.length ≤ 1000) (hm : m.length ≤ 1000) (hv : vOk l = true) (hx : vOk m = true) :
    Calls Try.prog 49 #[.slice a l.length ca, .slice b m.length cb, .int .i64 0] w fun e w' =>
      ∃ v, e = .returned v ∧ OwnSegs w' w.heap.size v (segsOf (fun k => memS l k || memS m k)) ∧ Below w.heap.size w w' := by
  have HA : Hid (SegsAt w a l) := ha
  have HB : Hid (SegsAt w b m) := hb
  clear ha hb
  go_enter Try.func49, Try.ntmps49
  go_wp2_with fail
  refine (refSet_any a l ca _ HA.out hl hv).mono ?_
  rintro e w1 ⟨rfl, hb1⟩
  go_wp2_with fail
  refine (refSet_any b m cb _ (HB.out.below hb1 (Nat.le_refl _)) hm hx).mono ?_
  rintro e w2 ⟨rfl, hb2⟩
  have hb12 := nwT hb1 hb2
  clear hb1 hb2 HA HB
  have HS : Hid _ := setj2 w2
  go_wp2_with (first | (with_reducible refine wpList_alloc50 rfl rfl ?_) | (with_reducible refine stop_store50 rfl ?_))
  unfold Stop
  refine wpList_store50 rfl (.tmp 7) (.tmp 12) rfl w2.heap.size (memS l) _ rfl rfl HS.out.1 ?_
  go_wp2_with (with_reducible refine stop_store50 rfl ?_)
  unfold Stop
  refine wpList_store50 rfl (.tmp 8) (.tmp 14) rfl (w2.heap.size + 1) (memS m) _ rfl rfl (HS.out.2 _) ?_
  go_wp2_with (with_reducible refine wpList_alloc50 rfl rfl ?_)
  have HT : Hid (T3 (((((w2.alloc (.cells (setArr fun _ => false) 110)).alloc (.cells (setArr fun _ => false) 110)).setRow w2.heap.size (setArr (memS l))).setRow (w2.heap.size + 1) (setArr (memS m))).alloc (.cells (setArr fun _ => false) 110)) w2.heap.size (memS l) (memS m) (fun j => decide (j < 0) && (memS l j || memS m j))) := T3.start w2 _ _ _ (fun k => by simp)
  have HN : Hid (Below w.heap.size w (((((w2.alloc (.cells (setArr fun _ => false) 110)).alloc (.cells (setArr fun _ => false) 110)).setRow w2.heap.size (setArr (memS l))).setRow (w2.heap.size + 1) (setArr (memS m))).alloc (.cells (setArr fun _ => false) 110))) := t3_below hb12
  have hsz2 : w.heap.size ≤ w2.heap.size := hb12.size
  generalize (((((w2.alloc (.cells (setArr fun _ => false) 110)).alloc (.cells (setArr fun _ => false) 110)).setRow w2.heap.size (setArr (memS l))).setRow (w2.heap.size + 1) (setArr (memS m))).alloc (.cells (setArr fun _ => false) 110)) = w3 at HT HN ⊢
  clear HS hb12
  generalize w2.heap.size = g at HT hsz2 ⊢
  generalize hS : memS l = s at HT ⊢
  generalize hT : memS m = t at HT ⊢
  have HSE : Hid (memS l = s) := hS
  have HTE : Hid (memS m = t) := hT
  clear hS hT
  go_loopw [10] (fun i wr => ∃ (k : Nat), k ≤ 64 ∧ i = .int .i64 k ∧ T3 wr g s t (fun j => decide (j < k) && (s j || t j)) ∧ Below w.heap.size w wr)
    (fun i _ => 64 - (intOf i).toNat)
  case atStart => exact ⟨0, by omega, rfl, HT.out, HN.out⟩
  case round =>
    obtain ⟨k, hk, rfl, hT3, hb⟩ := hrel
    have H3 : Hid (T3 wr g s t (fun j => decide (j < k) && (s j || t j))) := hT3
    clear hT3
    by_cases hlt : k < 64
    · have hlt' : (k : Int) < 64 := by omega
      have q1 := H3.out.one.cell hlt
      have q2 := H3.out.two.cell hlt
      have q3 := H3.out.acc.cell hlt
      have f3 := H3.out.acc.frozen k
      have l3 := H3.out.acc.lt
      simp only [setRow] at q1 q2 q3
      have HST : Hid _ := T3.step (f := fun j => s j || t j) H3.out
      have HB2 : Hid (Below w.heap.size w (wr.setCell ⟨g + 2, k, none⟩ (.bool (s k || t k)))) := hb.setCell (p := ⟨g + 2, k, none⟩) (by show w.heap.size ≤ g + 2; omega) _
      cases e1 : s k <;> cases e2 : t k
      all_goals
        rw [e1] at q1
        rw [e2] at q2
        rw [e1, e2] at HST HB2
        clear H3
        go_wp2_with fail
        go_roundw
        case rel => exact ⟨k + 1, by omega, by go_num, HST.out, HB2.out⟩
        case measure => simp [intOf]; omega
    · have hk' : k = 64 := by omega
      subst hk'
      go_wp2_with (with_reducible refine stop_load50 rfl ?_)
      unfold Stop
      refine wpList_load50 rfl (.tmp 9) rfl (g + 2) _ rfl H3.out.acc ?_
      go_wp2_with fail
      refine (refOf_any _ _).mono ?_
      rintro e w4 ⟨v, rfl, hown, hb4⟩
      have HO : Hid _ := hown
      clear hown
      go_wp2_with fail
      go_ret
      refine ⟨_, rfl, ?_, nwT hb hb4⟩
      have ee : segsOf (fun k => memS l k || memS m k) = segsOf (fun j => decide (j < 64) && (s j || t j)) := segsOf_congr (fun q hq => by rw [HSE.out, HTE.out]; simp [hq])
      rw [ee]
      exact ownsRow_base HO.out hb.size

set_option maxRecDepth 100000 in
set_option maxHeartbeats 2000000 in
theorem refTwo1_any (a b : Option Addr) (l m : List (Int × Int)) (ca cb : Nat) (w : World) (ha : SegsAt w a l) (hb : SegsAt w b m) (hl : l.length ≤ 1000) (hm : m.length ≤ 1000) (hv : vOk l = true) (hx : vOk m = true) :
    Calls Try.prog 49 #[.slice a l.length ca, .slice b m.length cb, .int .i64 1] w fun e w' =>
      ∃ v, e = .returned v ∧ OwnSegs w' w.heap.size v (segsOf (fun k => memS l k && !memS m k)) ∧ Below w.heap.size w w' := by
  have HA : Hid (SegsAt w a l) := ha
  have HB : Hid (SegsAt w b m) := hb
  clear ha hb
  go_enter Try.func49, Try.ntmps49
  go_wp2_with fail
  refine (refSet_any a l ca _ HA.out hl hv).mono ?_
  rintro e w1 ⟨rfl, hb1⟩
  go_wp2_with fail
  refine (refSet_any b m cb _ (HB.out.below hb1 (Nat.le_refl _)) hm hx).mono ?_
  rintro e w2 ⟨rfl, hb2⟩
  have hb12 := nwT hb1 hb2
  clear hb1 hb2 HA HB
  have HS : Hid _ := setj2 w2
  go_wp2_with (first | (with_reducible refine wpList_alloc50 rfl rfl ?_) | (with_reducible refine stop_store50 rfl ?_))
  unfold Stop
  refine wpList_store50 rfl (.tmp 7) (.tmp 12) rfl w2.heap.size (memS l) _ rfl rfl HS.out.1 ?_
  go_wp2_with (with_reducible refine stop_store50 rfl ?_)
  unfold Stop
  refine wpList_store50 rfl (.tmp 8) (.tmp 14) rfl (w2.heap.size + 1) (memS m) _ rfl rfl (HS.out.2 _) ?_
  go_wp2_with (with_reducible refine wpList_alloc50 rfl rfl ?_)
  have HT : Hid (T3 (((((w2.alloc (.cells (setArr fun _ => false) 110)).alloc (.cells (setArr fun _ => false) 110)).setRow w2.heap.size (setArr (memS l))).setRow (w2.heap.size + 1) (setArr (memS m))).alloc (.cells (setArr fun _ => false) 110)) w2.heap.size (memS l) (memS m) (fun j => decide (j < 0) && (memS l j && !memS m j))) := T3.start w2 _ _ _ (fun k => by simp)
  have HN : Hid (Below w.heap.size w (((((w2.alloc (.cells (setArr fun _ => false) 110)).alloc (.cells (setArr fun _ => false) 110)).setRow w2.heap.size (setArr (memS l))).setRow (w2.heap.size + 1) (setArr (memS m))).alloc (.cells (setArr fun _ => false) 110))) := t3_below hb12
  have hsz2 : w.heap.size ≤ w2.heap.size := hb12.size
  generalize (((((w2.alloc (.cells (setArr fun _ => false) 110)).alloc (.cells (setArr fun _ => false) 110)).setRow w2.heap.size (setArr (memS l))).setRow (w2.heap.size + 1) (setArr (memS m))).alloc (.cells (setArr fun _ => false) 110)) = w3 at HT HN ⊢
  clear HS hb12
  generalize w2.heap.size = g at HT hsz2 ⊢
  generalize hS : memS l = s at HT ⊢
  generalize hT : memS m = t at HT ⊢
  have HSE : Hid (memS l = s) := hS
  have HTE : Hid (memS m = t) := hT
  clear hS hT
  go_loopw [10] (fun i wr => ∃ (k : Nat), k ≤ 64 ∧ i = .int .i64 k ∧ T3 wr g s t (fun j => decide (j < k) && (s j && !t j)) ∧ Below w.heap.size w wr)
    (fun i _ => 64 - (intOf i).toNat)
  case atStart => exact ⟨0, by omega, rfl, HT.out, HN.out⟩
  case round =>
    obtain ⟨k, hk, rfl, hT3, hb⟩ := hrel
    have H3 : Hid (T3 wr g s t (fun j => decide (j < k) && (s j && !t j))) := hT3
    clear hT3
    by_cases hlt : k < 64
    · have hlt' : (k : Int) < 64 := by omega
      have q1 := H3.out.one.cell hlt
      have q2 := H3.out.two.cell hlt
      have q3 := H3.out.acc.cell hlt
      have f3 := H3.out.acc.frozen k
      have l3 := H3.out.acc.lt
      simp only [setRow] at q1 q2 q3
      have HST : Hid _ := T3.step (f := fun j => s j && !t j) H3.out
      have HB2 : Hid (Below w.heap.size w (wr.setCell ⟨g + 2, k, none⟩ (.bool (s k && !t k)))) := hb.setCell (p := ⟨g + 2, k, none⟩) (by show w.heap.size ≤ g + 2; omega) _
      cases e1 : s k <;> cases e2 : t k
      all_goals
        rw [e1] at q1
        rw [e2] at q2
        rw [e1, e2] at HST HB2
        clear H3
        go_wp2_with fail
        go_roundw
        case rel => exact ⟨k + 1, by omega, by go_num, HST.out, HB2.out⟩
        case measure => simp [intOf]; omega
    · have hk' : k = 64 := by omega
      subst hk'
      go_wp2_with (with_reducible refine stop_load50 rfl ?_)
      unfold Stop
      refine wpList_load50 rfl (.tmp 9) rfl (g + 2) _ rfl H3.out.acc ?_
      go_wp2_with fail
      refine (refOf_any _ _).mono ?_
      rintro e w4 ⟨v, rfl, hown, hb4⟩
      have HO : Hid _ := hown
      clear hown
      go_wp2_with fail
      go_ret
      refine ⟨_, rfl, ?_, nwT hb hb4⟩
      have ee : segsOf (fun k => memS l k && !memS m k) = segsOf (fun j => decide (j < 64) && (s j && !t j)) := segsOf_congr (fun q hq => by rw [HSE.out, HTE.out]; simp [hq])
      rw [ee]
      exact ownsRow_base HO.out hb.size

set_option maxRecDepth 100000 in
set_option maxHeartbeats 2000000 in
theorem refTwo2_any (a b : Option Addr) (l m : List (Int × Int)) (ca cb : Nat) (w : World) (ha : SegsAt w a l) (hb : SegsAt w b m) (hl : l.length ≤ 1000) (hm : m.length ≤ 1000) (hv : vOk l = true) (hx : vOk m = true) :
    Calls Try.prog 49 #[.slice a l.length ca, .slice b m.length cb, .int .i64 2] w fun e w' =>
      ∃ v, e = .returned v ∧ OwnSegs w' w.heap.size v (segsOf (fun k => memS l k && memS m k)) ∧ Below w.heap.size w w' := by
  have HA : Hid (SegsAt w a l) := ha
  have HB : Hid (SegsAt w b m) := hb
  clear ha hb
  go_enter Try.func49, Try.ntmps49
  go_wp2_with fail
  refine (refSet_any a l ca _ HA.out hl hv).mono ?_
  rintro e w1 ⟨rfl, hb1⟩
  go_wp2_with fail
  refine (refSet_any b m cb _ (HB.out.below hb1 (Nat.le_refl _)) hm hx).mono ?_
  rintro e w2 ⟨rfl, hb2⟩
  have hb12 := nwT hb1 hb2
  clear hb1 hb2 HA HB
  have HS : Hid _ := setj2 w2
  go_wp2_with (first | (with_reducible refine wpList_alloc50 rfl rfl ?_) | (with_reducible refine stop_store50 rfl ?_))
  unfold Stop
  refine wpList_store50 rfl (.tmp 7) (.tmp 12) rfl w2.heap.size (memS l) _ rfl rfl HS.out.1 ?_
  go_wp2_with (with_reducible refine stop_store50 rfl ?_)
  unfold Stop
  refine wpList_store50 rfl (.tmp 8) (.tmp 14) rfl (w2.heap.size + 1) (memS m) _ rfl rfl (HS.out.2 _) ?_
  go_wp2_with (with_reducible refine wpList_alloc50 rfl rfl ?_)
  have HT : Hid (T3 (((((w2.alloc (.cells (setArr fun _ => false) 110)).alloc (.cells (setArr fun _ => false) 110)).setRow w2.heap.size (setArr (memS l))).setRow (w2.heap.size + 1) (setArr (memS m))).alloc (.cells (setArr fun _ => false) 110)) w2.heap.size (memS l) (memS m) (fun j => decide (j < 0) && (memS l j && memS m j))) := T3.start w2 _ _ _ (fun k => by simp)
  have HN : Hid (Below w.heap.size w (((((w2.alloc (.cells (setArr fun _ => false) 110)).alloc (.cells (setArr fun _ => false) 110)).setRow w2.heap.size (setArr (memS l))).setRow (w2.heap.size + 1) (setArr (memS m))).alloc (.cells (setArr fun _ => false) 110))) := t3_below hb12
  have hsz2 : w.heap.size ≤ w2.heap.size := hb12.size
  generalize (((((w2.alloc (.cells (setArr fun _ => false) 110)).alloc (.cells (setArr fun _ => false) 110)).setRow w2.heap.size (setArr (memS l))).setRow (w2.heap.size + 1) (setArr (memS m))).alloc (.cells (setArr fun _ => false) 110)) = w3 at HT HN ⊢
  clear HS hb12
  generalize w2.heap.size = g at HT hsz2 ⊢
  generalize hS : memS l = s at HT ⊢
  generalize hT : memS m = t at HT ⊢
  have HSE : Hid (memS l = s) := hS
  have HTE : Hid (memS m = t) := hT
  clear hS hT
  go_loopw [10] (fun i wr => ∃ (k : Nat), k ≤ 64 ∧ i = .int .i64 k ∧ T3 wr g s t (fun j => decide (j < k) && (s j && t j)) ∧ Below w.heap.size w wr)
    (fun i _ => 64 - (intOf i).toNat)
  case atStart => exact ⟨0, by omega, rfl, HT.out, HN.out⟩
  case round =>
    obtain ⟨k, hk, rfl, hT3, hb⟩ := hrel
    have H3 : Hid (T3 wr g s t (fun j => decide (j < k) && (s j && t j))) := hT3
    clear hT3
    by_cases hlt : k < 64
    · have hlt' : (k : Int) < 64 := by omega
      have q1 := H3.out.one.cell hlt
      have q2 := H3.out.two.cell hlt
      have q3 := H3.out.acc.cell hlt
      have f3 := H3.out.acc.frozen k
      have l3 := H3.out.acc.lt
      simp only [setRow] at q1 q2 q3
      have HST : Hid _ := T3.step (f := fun j => s j && t j) H3.out
      have HB2 : Hid (Below w.heap.size w (wr.setCell ⟨g + 2, k, none⟩ (.bool (s k && t k)))) := hb.setCell (p := ⟨g + 2, k, none⟩) (by show w.heap.size ≤ g + 2; omega) _
      cases e1 : s k <;> cases e2 : t k
      all_goals
        rw [e1] at q1
        rw [e2] at q2
        rw [e1, e2] at HST HB2
        clear H3
        go_wp2_with fail
        go_roundw
        case rel => exact ⟨k + 1, by omega, by go_num, HST.out, HB2.out⟩
        case measure => simp [intOf]; omega
    · have hk' : k = 64 := by omega
      subst hk'
      go_wp2_with (with_reducible refine stop_load50 rfl ?_)
      unfold Stop
      refine wpList_load50 rfl (.tmp 9) rfl (g + 2) _ rfl H3.out.acc ?_
      go_wp2_with fail
      refine (refOf_any _ _).mono ?_
      rintro e w4 ⟨v, rfl, hown, hb4⟩
      have HO : Hid _ := hown
      clear hown
      go_wp2_with fail
      go_ret
      refine ⟨_, rfl, ?_, nwT hb hb4⟩
      have ee : segsOf (fun k => memS l k && memS m k) = segsOf (fun j => decide (j < 64) && (s j && t j)) := segsOf_congr (fun q hq => by rw [HSE.out, HTE.out]; simp [hq])
      rw [ee]
      exact ownsRow_base HO.out hb.size

end Go.Proofs.Ytheomnafmjmpdaa

/- seg.Not by its contract. -/
namespace Go.Proofs.Ytheomnafmjmpdaa
open Go.RowKit

def endL (l : List (Int × Int)) : Int := if l = [] then 0 else (l.getD (l.length - 1) (0, 0)).1 + (l.getD (l.length - 1) (0, 0)).2

theorem endL_bd {l : List (Int × Int)} (h : vOk l = true) : 0 ≤ endL l ∧ endL l ≤ 64 := by
  unfold endL
  split
  · omega
  · rename_i hne
    have hp : 0 < l.length := List.length_pos_iff.2 hne
    have hm := mayB_of (valid_mem h (l.length - 1) (by omega))
    omega

set_option maxRecDepth 100000 in
set_option maxHeartbeats 400000 in
theorem endOf_any (a : Option Addr) (l : List (Int × Int)) (cap : Nat) (w : World) (hs : SegsAt w a l) (hl : l.length ≤ maxLen) (hv : vOk l = true) :
    Calls Try.prog 94 #[.slice a l.length cap] w fun e w' => e = .returned (.int .i64 (endL l)) ∧ Below w.heap.size w w' := by
  have HS : Hid (SegsAt w a l) := hs
  clear hs
  unfold maxLen at hl
  by_cases hz : l.length = 0
  · have hne : l = [] := List.length_eq_zero_iff.1 hz
    subst hne
    go_enter Try.func94, Try.ntmps94
    go_wp2_with fail
    go_ret
    exact ⟨rfl, nwR w⟩
  · have hz' : ((l.length : Int) == 0) = false := by simpa using hz
    obtain ⟨b, off, rfl, h1, h2⟩ := HS.out (l.length - 1) (by omega)
    have hm := mayB_of (valid_mem hv (l.length - 1) (by omega))
    have HE : Hid (endL l = (l.getD (l.length - 1) (0, 0)).1 + (l.getD (l.length - 1) (0, 0)).2) := by
      show _ = _
      rw [endL, if_neg (fun e => hz (by rw [e]; rfl))]
    generalize l.getD (l.length - 1) (0, 0) = s at h1 h2 HE hm
    obtain ⟨x, y⟩ := s
    simp only at h1 h2 HE hm
    have hidx : (l.length : Int) - 1 = ((l.length - 1 : Nat) : Int) := by omega
    generalize hN : l.length - 1 = N at h1 h2 hidx
    have hNl : (N : Int) < (l.length : Int) := by omega
    clear hN
    go_enter Try.func94, Try.ntmps94
    go_wp2_with fail
    refine (end_any _ _ _ (by omega) (by omega) (by omega) (by omega)).mono ?_
    rintro e w1 ⟨rfl, hb1⟩
    go_wp2_with fail
    go_ret
    exact ⟨by rw [HE.out]; rfl, hb1⟩

set_option maxRecDepth 100000 in
set_option maxHeartbeats 400000 in
theorem not1_any (gn g : Nat) (n : Int) (s : Nat → Bool) (k : Nat) (w : World) (hn : w.cell? ⟨gn, 0, none⟩ = some (.int .i64 n)) (hs : SetIs w g s) (hk : k < 64) :
    Calls Try.prog 95 #[.int .i64 k, .pointer (some ⟨gn, 0, none⟩), .pointer (some ⟨g, 0, none⟩)] w fun e w' => e = .returned (.bool (decide ((k : Int) < n) && !s k)) ∧ w' = w := by
  have HS : Hid (SetIs w g s) := hs
  clear hs
  by_cases hlt : (k : Int) < n
  · go_enter Try.func95, Try.ntmps95
    go_wp2_with fail
    refine (setHas_any g s k _ HS.out hk).mono ?_
    rintro e w1 ⟨rfl, rfl⟩
    go_wp2_with fail
    go_ret
    exact ⟨by simp [hlt], rfl⟩
  · go_enter Try.func95, Try.ntmps95
    go_wp2_with fail
    go_ret
    exact ⟨by simp; omega, rfl⟩

theorem nw_drew {a b : World} (h : Below a.drew.heap.size a.drew b) : Below a.heap.size a b := ⟨h.os, h.tape, h.output, h.size, h.block⟩

def notOk (l : List (Int × Int)) (n : Int) : Bool := vOk l && (decide (0 ≤ n) && (decide (n ≤ 64) && decide (endL l ≤ n)))
def notOf (l : List (Int × Int)) (n : Int) : List (Int × Int) := if notOk l n then segsOf (fun k => decide ((k : Int) < n) && !memS l k) else []

set_option maxRecDepth 100000 in
set_option maxHeartbeats 1000000 in
theorem not_any (a : Option Addr) (l : List (Int × Int)) (cap : Nat) (n : Int) (w : World) (hs : SegsAt w a l) (hl : l.length ≤ maxLen) :
    Calls Try.prog 86 #[.slice a l.length cap, .int .i64 n] w fun e w' =>
      ∃ v, e = .returned (.tuple #[v, .int .i64 (errOf (notOk l n))]) ∧ OwnSegs w' w.heap.size v (notOf l n) ∧ Below w.heap.size w w' := by
  have HS : Hid (SegsAt w a l) := hs
  clear hs
  cases hv : vOk l
  · have HF : Hid (notOk l n = false) := by show _ = _; rw [notOk, hv]; rfl
    go_enter Try.func86, Try.ntmps86
    go_wp2_with fail
    obtain ⟨W1, hW1⟩ : ∃ W1, W1 = w.alloc (.cells #[.int .i64 n] 3) := ⟨_, rfl⟩
    have hs1 : W1.heap.size = w.heap.size + 1 := by rw [hW1]; simp
    have HN1 : Hid (Below w.heap.size w W1) := by rw [hW1]; exact nwA (nwR w) _
    have HC1 : Hid (W1.cell? ⟨w.heap.size, 0, none⟩ = some (.int .i64 n)) := by rw [hW1]; show _ = _; simp
    rw [← hW1, ← hs1]
    clear hW1
    refine (gather_one a l cap 1 W1 (HS.out.below HN1.out (Nat.le_refl _)) hl).mono ?_
    rintro e w3 ⟨rfl, hb3⟩
    rw [hv, show errOf false = 1 from rfl]
    have HN3 : Hid (SetIs (w3.alloc (.cells (setArr fun _ => false) 116)) w3.heap.size (fun _ => false)) := SetIs.new w3
    go_wp2_with (first | (with_reducible refine wpList_alloc64 rfl rfl ?_) | (with_reducible refine wpList_stop rfl ?_))
    unfold Stop
    refine wpList_store64 rfl (.tmp 6) (.tmp 12) rfl w3.heap.size _ _ rfl rfl HN3.out ?_
    go_wp2_with fail
    go_ret2
    have hb4 := nwT HN1.out hb3
    refine ⟨.slice none 0 0, by rw [HF.out]; rfl, ?_, ?_⟩
    · rw [notOf, HF.out]; exact World.ownsRow_nil _ _ _ _
    · exact (nwA hb4 _).grown (gbSetRow _ _ _) (nwA hb4 _).size (fun k e => by have := Option.some.inj e; have := hb4.size; omega)
  · have hbd := endL_bd hv
    go_enter Try.func86, Try.ntmps86
    go_wp2_with fail
    obtain ⟨W1, hW1⟩ : ∃ W1, W1 = w.alloc (.cells #[.int .i64 n] 3) := ⟨_, rfl⟩
    have hs1 : W1.heap.size = w.heap.size + 1 := by rw [hW1]; simp
    have HN1 : Hid (Below w.heap.size w W1) := by rw [hW1]; exact nwA (nwR w) _
    have HC1 : Hid (W1.cell? ⟨w.heap.size, 0, none⟩ = some (.int .i64 n)) := by rw [hW1]; show _ = _; simp
    rw [← hW1, ← hs1]
    clear hW1
    refine (gather_one a l cap 1 W1 (HS.out.below HN1.out (Nat.le_refl _)) hl).mono ?_
    rintro e w3 ⟨rfl, hb3⟩
    rw [hv, gset_one _ _ _ hv, show errOf true = 0 from rfl]
    have HN3 : Hid (SetIs (w3.alloc (.cells (setArr fun _ => false) 116)) w3.heap.size (fun _ => false)) := SetIs.new w3
    go_wp2_with (first | (with_reducible refine wpList_alloc64 rfl rfl ?_) | (with_reducible refine wpList_stop rfl ?_))
    unfold Stop
    refine wpList_store64 rfl (.tmp 6) (.tmp 12) rfl w3.heap.size _ _ rfl rfl HN3.out ?_
    have hb4 := nwT HN1.out hb3
    have HB5 : Hid (Below w.heap.size w ((w3.alloc (.cells (setArr fun _ => false) 116)).setRow w3.heap.size (setArr (memS l)))) :=
      (nwA hb4 _).grown (gbSetRow _ _ _) (nwA hb4 _).size (fun k e => by have := Option.some.inj e; have := hb4.size; omega)
    have HS5 : Hid (SetIs ((w3.alloc (.cells (setArr fun _ => false) 116)).setRow w3.heap.size (setArr (memS l))) w3.heap.size (memS l)) := HN3.out.setRow
    have hlt3 : w.heap.size < w3.heap.size := by have := hb3.size; omega
    have hc5 : ((w3.alloc (.cells (setArr fun _ => false) 116)).setRow w3.heap.size (setArr (memS l))).cell? ⟨w.heap.size, 0, none⟩ = some (.int .i64 n) := by
      have hg : w3.grownBy ((w3.alloc (.cells (setArr fun _ => false) 116)).setRow w3.heap.size (setArr (memS l))) (some w3.heap.size) := gbTrans (World.grownBy_alloc _ _ _) (gbSetRow _ _ _)
      rw [gbCell hg hlt3 (by omega), hb3.cell (p := ⟨w.heap.size, 0, none⟩) (by show w.heap.size < W1.heap.size; omega)]
      exact HC1.out
    have HSG : Hid (SegsAt ((w3.alloc (.cells (setArr fun _ => false) 116)).setRow w3.heap.size (setArr (memS l))) a l) := HS.out.below HB5.out (Nat.le_refl _)
    generalize ((w3.alloc (.cells (setArr fun _ => false) 116)).setRow w3.heap.size (setArr (memS l))) = w5 at HB5 HS5 hc5 HSG ⊢
    clear HN3 hb3 hb4 HN1 HC1 HS
    generalize w3.heap.size = g at *
    by_cases h0 : n < 0
    · have HF : Hid (notOk l n = false) := by
        show _ = _
        rw [notOk, hv, decide_eq_false (show ¬ 0 ≤ n by omega)]; rfl
      have hd0 : decide (n < 0) = true := decide_eq_true h0
      go_wp2_with fail
      go_quiet (fail)
      go_wp2_with fail
      go_ret2
      refine ⟨.slice none 0 0, by rw [HF.out]; rfl, ?_, below_drewN HB5.out _⟩
      rw [notOf, HF.out]; exact World.ownsRow_nil _ _ _ _
    · by_cases h6 : 64 < n
      · have HF : Hid (notOk l n = false) := by
          show _ = _
          rw [notOk, hv, decide_eq_false (show ¬ n ≤ 64 by omega)]; simp
        have hd0 : decide (n < 0) = false := decide_eq_false h0
        go_wp2_with fail
        go_quiet (fail)
        go_wp2_with fail
        go_ret2
        refine ⟨.slice none 0 0, by rw [HF.out]; rfl, ?_, below_drewN HB5.out _⟩
        rw [notOf, HF.out]; exact World.ownsRow_nil _ _ _ _
      · have hd0 : decide (n < 0) = false := decide_eq_false h0
        have hd6 : decide (64 < n) = false := decide_eq_false h6
        by_cases he : n < endL l
        · have HF : Hid (notOk l n = false) := by
            show _ = _
            rw [notOk, decide_eq_false (show ¬ endL l ≤ n by omega)]; simp
          go_wp2_with fail
          go_region_with (go_at_call 94; refine (endOf_any a l cap _ (by exact HSG.out) hl hv).mono ?_; rintro e w6 ⟨rfl, hb6⟩; have hc6 : w6.cell? ⟨w.heap.size, 0, none⟩ = some (.int .i64 n) := (hb6.cell (p := ⟨w.heap.size, 0, none⟩) (block_lt_of_cell hc5)).trans hc5)
          all_goals go_wp2_with fail
          all_goals go_ret2
          all_goals (refine ⟨.slice none 0 0, by rw [HF.out]; rfl, by rw [notOf, HF.out]; exact World.ownsRow_nil _ _ _ _, nwT HB5.out (nw_drew hb6)⟩)
        · have HF : Hid (notOk l n = true) := by
            show _ = _
            rw [notOk, hv, decide_eq_true (show endL l ≤ n by omega), decide_eq_true (show 0 ≤ n by omega), decide_eq_true (show n ≤ 64 by omega)]; rfl
          go_wp2_with fail
          go_region_with (go_at_call 94; refine (endOf_any a l cap _ (by exact HSG.out) hl hv).mono ?_; rintro e w6 ⟨rfl, hb6⟩; have hc6 : w6.cell? ⟨w.heap.size, 0, none⟩ = some (.int .i64 n) := (hb6.cell (p := ⟨w.heap.size, 0, none⟩) (block_lt_of_cell hc5)).trans hc5)
          all_goals
            go_wp2_with fail
            refine (pick_any 95 #[] #[.pointer (some ⟨w.heap.size, 0, none⟩), .pointer (some ⟨g, 0, none⟩)] (fun k => decide ((k : Int) < n) && !memS l k) _ Try.call95 (fun k w' hk hb => ?_)).mono ?_
            · exact (not1_any w.heap.size g n (memS l) k w' ((hb.cell (p := ⟨w.heap.size, 0, none⟩) (block_lt_of_cell hc6)).trans hc6) ((HS5.out.below (nw_drew hb6)).below hb) hk).mono fun e w2 h => ⟨h.1, h.2 ▸ nwR w'⟩
            · rintro e w7 ⟨v, rfl, hown, hb7⟩
              have HO : Hid _ := hown
              clear hown
              go_wp2_with fail
              go_ret2
              refine ⟨_, by rw [HF.out]; rfl, ?_, nwT (nwT HB5.out (nw_drew hb6)) hb7⟩
              have e : notOf l n = segsOf (fun k => decide ((k : Int) < n) && !memS l k) := by rw [notOf, HF.out]; rfl
              rw [e]
              exact ownsRow_base HO.out (nwT HB5.out (nw_drew hb6)).size

end Go.Proofs.Ytheomnafmjmpdaa

/- Small helpers. -/
namespace Go.Proofs.Ytheomnafmjmpdaa
open Go.RowKit

theorem unstop {p : Prop} (h : Stop p) : p := h
theorem below_drewN {a : Nat} {w w' : World} (h : Below a w w') (q : Nat) : Below a w (w'.drewN q) := ⟨h.os, h.tape, h.output, h.size, h.block⟩
theorem own_below {w w' : World} {base : Nat} {e : TypeId} {size : Nat} {v : Value} {n : Nat} {xs : List Value} (h : w.ownsRow base e size v n xs) (hb : Below w.heap.size w w') : w'.ownsRow base e size v n xs :=
  h.kept (gbOf hb none) (by cases hv : v.ownBlock <;> simp)
theorem own_le {w : World} {base base' : Nat} {e : TypeId} {size : Nat} {v : Value} {n : Nat} {xs : List Value} (h : w.ownsRow base e size v n xs) (hb : base' ≤ base) : w.ownsRow base' e size v n xs := by
  refine ⟨h.1, ?_⟩
  rcases h.2 with hn | ⟨g, cap, cur, hv, hg, rest⟩
  · exact .inl hn
  · exact .inr ⟨g, cap, cur, hv, Nat.le_trans hb hg, rest⟩
theorem own_kept {w w' : World} {base : Nat} {e : TypeId} {size : Nat} {v : Value} {n : Nat} {xs : List Value} (h : w.ownsRow base e size v n xs) (hk : ∀ k, base ≤ k → k < w.heap.size → w'.heap[k]? = w.heap[k]?) : w'.ownsRow base e size v n xs := by
  refine ⟨h.1, ?_⟩
  rcases h.2 with h | ⟨g, cap, cur, hv, hb, hh, rest⟩
  · exact .inl h
  · exact .inr ⟨g, cap, cur, hv, hb, (hk g hb (Array.getElem?_eq_some_iff.1 hh).1).trans hh, rest⟩
theorem rowset {w : World} {base : Nat} {e : TypeId} {size : Nat} {v : Value} {n : Nat} {xs : List Value} (h : w.ownsRow base e size v n xs) {g : Nat} (o : Nat) (hg : g < base) (u : Value) : (w.setCell ⟨g, o, none⟩ u).ownsRow base e size v n xs := by
  refine ⟨h.1, ?_⟩
  rcases h.2 with hn | ⟨r, cap, cur, hv, hb, hgg, rest⟩
  · exact .inl hn
  · refine .inr ⟨r, cap, cur, hv, hb, ?_, rest⟩
    rw [Below.heap_setCell _ _ _ _ (by show r ≠ g; omega)]
    exact hgg
theorem ownBlock_ne {w : World} {B : Nat} {e T : TypeId} {s : Nat} {v : Value} {n : Nat} {xs : List Value} {b : Nat} {cs : Array Value} {fr : Nat × Nat} (hown : w.ownsRow B e s v n xs) (hb : w.heap[b]? = some (.cells cs T fr)) (hTe : T ≠ e) : v.ownBlock ≠ some b := by
  rcases hown.2 with ⟨rfl, _⟩ | ⟨g, cap, cur, rfl, _, hg, _⟩
  · simp [Value.ownBlock]
  · intro h
    simp only [Value.ownBlock, Option.some.injEq] at h
    subst h
    rw [hg] at hb
    simp only [Option.some.injEq, Obj.cells.injEq] at hb
    exact hTe hb.2.1.symm
theorem own_tag {w : World} {B : Nat} {e : TypeId} {s : Nat} {v : Value} {n : Nat} {xs : List Value} (h : w.ownsRow B e s v n xs) : ∀ k, v.ownBlock = some k → ∃ cs, w.heap[k]? = some (.cells cs e (0, 0)) := by
  intro k hk
  rcases h.2 with ⟨rfl, _⟩ | ⟨g, cap, cur, rfl, _, hg, _⟩
  · simp [Value.ownBlock] at hk
  · simp only [Value.ownBlock, Option.some.injEq] at hk
    subst hk
    exact ⟨cur, hg⟩
/-- a row of one type is kept where a row of another type grows -/
theorem own_other {w w' : World} {B B' : Nat} {e T : TypeId} {s s' : Nat} {v u : Value} {n m : Nat} {xs ys : List Value} (h : w.ownsRow B e s v n xs) (hu : w.ownsRow B' T s' u m ys) (hT : T ≠ e) (hg : w.grownBy w' u.ownBlock) : w'.ownsRow B e s v n xs := by
  refine h.kept hg ?_
  cases hv : u.ownBlock with
  | none =>
    cases hvv : v.ownBlock with
    | none => exact .inl rfl
    | some k => exact .inr (by simp)
  | some k =>
    obtain ⟨cs, hk⟩ := own_tag hu k hv
    exact .inr (ownBlock_ne h hk hT)
/-- a row is kept where a cell of a block of another type is written -/
theorem own_aside {w : World} {B : Nat} {e T : TypeId} {s : Nat} {v : Value} {n : Nat} {xs : List Value} {g : Nat} {cur : Array Value} (h : w.ownsRow B e s v n xs) (hg : w.heap[g]? = some (.cells cur T (0, 0))) (hT : T ≠ e) (o : Nat) (u : Value) : (w.setCell ⟨g, o, none⟩ u).ownsRow B e s v n xs := by
  refine ⟨h.1, ?_⟩
  rcases h.2 with hn | ⟨r, cap, cu, hv, hb, hgg, rest⟩
  · exact .inl hn
  · refine .inr ⟨r, cap, cu, hv, hb, ?_, rest⟩
    have hne : r ≠ g := fun e2 => by
      rw [e2, hg] at hgg
      simp only [Option.some.injEq, Obj.cells.injEq] at hgg
      exact hT hgg.2.1
    rw [Below.heap_setCell _ _ _ _ (by show r ≠ g; exact hne)]
    exact hgg
theorem addr_add (g j : Nat) : (⟨g, 0, none⟩ : Addr).add j = ⟨g, 0 + j, none⟩ := by unfold Addr.add; split <;> simp_all
def optI (o : Option Nat) : Int := match o with
  | some k => k
  | none => -1
theorem find_yes {α : Type} (z : α) {l : List α} {p : α → Bool} {k : Nat} (hk : k < l.length) (h : p (l.getD k z) = true) (hn : ∀ j, j < k → p (l.getD j z) = false) : l.findIdx? p = some k := by
  rw [List.findIdx?_eq_some_iff_getElem]
  refine ⟨hk, ?_, fun j hj => ?_⟩
  · simpa [List.getD, hk] using h
  · have := hn j hj
    have hj2 : j < l.length := by omega
    simp [List.getD, hj2] at this
    simpa using this
theorem find_no {α : Type} (z : α) {l : List α} {p : α → Bool} (hn : ∀ j, j < l.length → p (l.getD j z) = false) : l.findIdx? p = none := by
  rw [List.findIdx?_eq_none_iff]
  intro x hx
  obtain ⟨j, hj, rfl⟩ := List.getElem_of_mem hx
  have := hn j hj
  simpa [List.getD, hj] using this
theorem two {w : World} {g : Nat} {c0 c1 : Value} {t : TypeId} (h : w.heap[g]? = some (.cells #[c0, c1] t (0, 0))) :
    w.cell? ⟨g, 0, none⟩ = some c0 ∧ w.cell? ⟨g, 1, none⟩ = some c1 ∧ ∀ o, w.frozen? ⟨g, o, none⟩ = false :=
  ⟨by rw [Lib.cell_of_heap h]; rfl, by rw [Lib.cell_of_heap h]; rfl, fun o => Lib.frozen_of_heap h o⟩
theorem one {w : World} {g : Nat} {c0 : Value} {t : TypeId} (h : w.heap[g]? = some (.cells #[c0] t (0, 0))) :
    w.cell? ⟨g, 0, none⟩ = some c0 ∧ ∀ o, w.frozen? ⟨g, o, none⟩ = false :=
  ⟨by rw [Lib.cell_of_heap h]; rfl, fun o => Lib.frozen_of_heap h o⟩
theorem four {w : World} {g : Nat} {c0 c1 c2 c3 : Value} {t : TypeId} (h : w.heap[g]? = some (.cells #[c0, c1, c2, c3] t (0, 0))) :
    w.cell? ⟨g, 0, none⟩ = some c0 ∧ w.cell? ⟨g, 1, none⟩ = some c1 ∧ w.cell? ⟨g, 2, none⟩ = some c2 ∧ w.cell? ⟨g, 3, none⟩ = some c3 ∧ ∀ o, w.frozen? ⟨g, o, none⟩ = false :=
  ⟨by rw [Lib.cell_of_heap h]; rfl, by rw [Lib.cell_of_heap h]; rfl, by rw [Lib.cell_of_heap h]; rfl, by rw [Lib.cell_of_heap h]; rfl, fun o => Lib.frozen_of_heap h o⟩
theorem ret_int {a b : Int} (h : a = b) : Ending.returned (.int .i64 a) = .returned (.int .i64 b) := by rw [h]
theorem heap_alloc_new2 (w : World) (a b : Obj) : ((w.alloc a).alloc b).heap[w.heap.size + 1]? = some b := by
  have := heap_alloc_new (w.alloc a) b
  rwa [show (w.alloc a).heap.size = w.heap.size + 1 from by simp] at this
theorem getD_mem {α : Type} (z : α) {l : List α} {i : Nat} (h : i < l.length) : l.getD i z ∈ l := by simp [List.getD, h]

/- a region step by step: the place that a step writes is named -/
theorem takeYes {P : Program} {md : Region.Mode} {ops : Array Oper} {Q : Exit → Act → World → Prop} {S : World → Prop} (i : Nat) (dst : Option Tmp) {oi : Oper} {v : Value} {fuel : Nat} {listed : Array Bool} {a : Act} {w : World} (hi : ops[i]? = some oi)
    (hs : Region.noSelect ops = true) (hf : Region.free md ops listed i = true) (hr : (Region.ready md ops listed).contains i = true) (hd : oi.dst = dst)
    (hQ : ∀ c a w, Q (.panic c) (a.put dst v) w → Q (.panic c) a w) (hw : Region.wanted oi (yielded ops a.tmps) = true) (hy : ∀ w, S w → (execOp a.eval oi).run P w = .ok (.value v) w) (hS : S w)
    (h : wpAnyH P md ops Q S fuel (listed.setIfInBounds i true) (a.put dst v) w) : wpAnyH P md ops Q S (fuel + 1) listed a w := by
  subst hd
  exact wpAnyH_take hi hs hf hr hQ (Or.inl ⟨hw, hy⟩) hS h
theorem takeNo {P : Program} {md : Region.Mode} {ops : Array Oper} {Q : Exit → Act → World → Prop} {S : World → Prop} (i : Nat) (dst : Option Tmp) {oi : Oper} {fuel : Nat} {listed : Array Bool} {a : Act} {w : World} (hi : ops[i]? = some oi)
    (hs : Region.noSelect ops = true) (hf : Region.free md ops listed i = true) (hr : (Region.ready md ops listed).contains i = true) (hd : oi.dst = dst)
    (hQ : ∀ c a w, Q (.panic c) (a.put dst undef) w → Q (.panic c) a w) (hw : Region.wanted oi (yielded ops a.tmps) = false) (hS : S w)
    (h : wpAnyH P md ops Q S fuel (listed.setIfInBounds i true) (a.put dst undef) w) : wpAnyH P md ops Q S (fuel + 1) listed a w := by
  subst hd
  exact wpAnyH_take hi hs hf hr hQ (Or.inr ⟨hw, rfl⟩) hS h


end Go.Proofs.Ytheomnafmjmpdaa

/- Devices in memory: read, and owned; groups of them. -/
namespace Go.Proofs.Ytheomnafmjmpdaa
open Go.RowKit

structure DevD where
  id : Int
  size : Int
  free : List (Int × Int)
  late : List (Int × Int)
deriving DecidableEq
def DZ : DevD := ⟨0, 0, [], []⟩
def SmallD (d : DevD) : Prop := d.free.length ≤ 1000 ∧ d.late.length ≤ 1000
def SmallL (ds : List DevD) : Prop := ds.length ≤ 1000 ∧ ∀ d ∈ ds, SmallD d
def NilOk (a : Option Addr) (c n : Nat) : Prop := n ≤ c ∧ (a = none → c = 0)
def SegV (w : World) (a : Option Addr) (c : Nat) (l : List (Int × Int)) : Prop := SegsAt w a l ∧ NilOk a c l.length
theorem SegV.below {w w' : World} {a : Option Addr} {c : Nat} {l : List (Int × Int)} (h : SegV w a c l) (hb : Below w.heap.size w w') : SegV w' a c l := ⟨h.1.below hb (Nat.le_refl _), h.2⟩
theorem flat_get2 (l : List (Int × Int)) : ∀ i, i < l.length → (flat l)[i * 2]? = some (.int .i64 (l.getD i (0, 0)).1) ∧ (flat l)[i * 2 + 1]? = some (.int .i64 (l.getD i (0, 0)).2) := by
  induction l with
  | nil => intro i hi; simp at hi
  | cons x xs ih =>
    intro i hi
    have e : flat (x :: xs) = .int .i64 x.1 :: .int .i64 x.2 :: flat xs := by simp [flat]
    rw [e]
    cases i with
    | zero => simp
    | succ i =>
      have := ih i (by simpa using hi)
      rw [show (i + 1) * 2 = i * 2 + 1 + 1 from by omega]
      simp only [List.getElem?_cons_succ]
      simpa [List.getD] using this
theorem OwnSegs.segV {w : World} {base : Nat} {v : Value} {l : List (Int × Int)} (h : OwnSegs w base v l) : ∃ a c, v = .slice a l.length c ∧ SegV w a c l := by
  rcases h.2 with ⟨hv, hn⟩ | ⟨g, cap, cur, hv, _, _, hnc, _⟩
  · have : l = [] := List.length_eq_zero_iff.1 hn
    subst this
    exact ⟨none, 0, hv, fun i hi => by simp at hi, Nat.le_refl _, fun _ => rfl⟩
  · refine ⟨_, cap, hv, ?_, hnc, fun e => by cases e⟩
    intro i hi
    have hl := flat_get2 l i hi
    have k1 := h.cells (g := g) (by rw [hv]; rfl) _ _ hl.1
    have k2 := h.cells (g := g) (by rw [hv]; rfl) _ _ hl.2
    rw [addr_add] at k1 k2
    exact ⟨g, 0, rfl, k1, by rw [Nat.add_assoc]; exact k2⟩

def DevIn (w : World) (b o : Nat) (d : DevD) : Prop := ∃ af cf al cl, (w.cell? ⟨b, o, none⟩ = some (.int .i64 d.id) ∧ w.cell? ⟨b, o + 1, none⟩ = some (.int .i64 d.size) ∧ w.cell? ⟨b, o + 2, none⟩ = some (.slice af d.free.length cf) ∧ w.cell? ⟨b, o + 3, none⟩ = some (.slice al d.late.length cl)) ∧ SegV w af cf d.free ∧ SegV w al cl d.late
def DevsAt (w : World) (a : Option Addr) (ds : List DevD) : Prop :=
  ds = [] ∨ ∃ b o, a = some ⟨b, o, none⟩ ∧ ∀ i, i < ds.length → DevIn w b (o + i * 4) (ds.getD i DZ)
def DevVal (w : World) (v : Value) (d : DevD) : Prop := ∃ af cf al cl, v = .agg #[.int .i64 d.id, .int .i64 d.size, .slice af d.free.length cf, .slice al d.late.length cl] ∧ SegV w af cf d.free ∧ SegV w al cl d.late
theorem DevIn.lt {w : World} {b o : Nat} {d : DevD} (h : DevIn w b o d) : b < w.heap.size := by
  obtain ⟨_, _, _, _, ⟨h0, _⟩, _⟩ := h
  exact block_lt_of_cell h0
theorem DevIn.below {w w' : World} {b o : Nat} {d : DevD} (h : DevIn w b o d) (hb : Below w.heap.size w w') : DevIn w' b o d := by
  obtain ⟨af, cf, al, cl, ⟨h0, h1, h2, h3⟩, hf, hl⟩ := h
  have hlt := block_lt_of_cell h0
  exact ⟨af, cf, al, cl, ⟨(hb.cell (p := ⟨b, o, none⟩) hlt).trans h0, (hb.cell (p := ⟨b, o + 1, none⟩) hlt).trans h1, (hb.cell (p := ⟨b, o + 2, none⟩) hlt).trans h2, (hb.cell (p := ⟨b, o + 3, none⟩) hlt).trans h3⟩, hf.below hb, hl.below hb⟩
theorem DevVal.below {w w' : World} {v : Value} {d : DevD} (h : DevVal w v d) (hb : Below w.heap.size w w') : DevVal w' v d := by
  obtain ⟨af, cf, al, cl, e, hf, hl⟩ := h
  exact ⟨af, cf, al, cl, e, hf.below hb, hl.below hb⟩
theorem DevIn.val {w : World} {b o : Nat} {d : DevD} (h : DevIn w b o d) : ∃ af cf al cl, (w.cell? ⟨b, o, none⟩ = some (.int .i64 d.id) ∧ w.cell? ⟨b, o + 1, none⟩ = some (.int .i64 d.size) ∧ w.cell? ⟨b, o + 2, none⟩ = some (.slice af d.free.length cf) ∧ w.cell? ⟨b, o + 3, none⟩ = some (.slice al d.late.length cl)) ∧ DevVal w (.agg #[.int .i64 d.id, .int .i64 d.size, .slice af d.free.length cf, .slice al d.late.length cl]) d := by
  obtain ⟨af, cf, al, cl, hc, hf, hl⟩ := h
  exact ⟨af, cf, al, cl, hc, af, cf, al, cl, rfl, hf, hl⟩
theorem DevsAt.dev {w : World} {a : Option Addr} {ds : List DevD} (h : DevsAt w a ds) {i : Nat} (hi : i < ds.length) : ∃ b o, a = some ⟨b, o, none⟩ ∧ DevIn w b (o + i * 4) (ds.getD i DZ) := by
  rcases h with rfl | ⟨b, o, rfl, hc⟩
  · simp at hi
  · exact ⟨b, o, rfl, hc i hi⟩
theorem DevsAt.at {w : World} {b o : Nat} {ds : List DevD} (h : DevsAt w (some ⟨b, o, none⟩) ds) {i : Nat} (hi : i < ds.length) : DevIn w b (o + i * 4) (ds.getD i DZ) := by
  obtain ⟨b', o', e, h2⟩ := h.dev hi
  injection e with e
  injection e with e1 e2
  subst e1; subst e2
  exact h2
theorem DevsAt.below {w w' : World} {a : Option Addr} {ds : List DevD} (h : DevsAt w a ds) (hb : Below w.heap.size w w') : DevsAt w' a ds := by
  rcases h with rfl | ⟨b, o, rfl, hc⟩
  · exact .inl rfl
  · exact .inr ⟨b, o, rfl, fun i hi => (hc i hi).below hb⟩

structure DV where
  d : DevD
  fv : Value
  lv : Value
def dflat (gs : List DV) : List Value := gs.flatMap fun g => [.int .i64 g.d.id, .int .i64 g.d.size, g.fv, g.lv]
def OwnDV (w : World) (base : Nat) (g : DV) : Prop := OwnSegs w base g.fv g.d.free ∧ OwnSegs w base g.lv g.d.late
/-- devices in memory of one's own -/
def OwnDevs (w : World) (base : Nat) (v : Value) (ds : List DevD) : Prop := ∃ gs : List DV, gs.map DV.d = ds ∧ w.ownsRow base 51 4 v gs.length (dflat gs) ∧ ∀ g ∈ gs, OwnDV w base g
theorem OwnSegs.below' {w w' : World} {base : Nat} {v : Value} {l : List (Int × Int)} (h : OwnSegs w base v l) (hb : Below w.heap.size w w') : OwnSegs w' base v l := own_below h hb
theorem OwnDV.below {w w' : World} {base : Nat} {g : DV} (h : OwnDV w base g) (hb : Below w.heap.size w w') : OwnDV w' base g := ⟨own_below h.1 hb, own_below h.2 hb⟩
theorem OwnDV.le {w : World} {base base' : Nat} {g : DV} (h : OwnDV w base g) (hb : base' ≤ base) : OwnDV w base' g := ⟨own_le h.1 hb, own_le h.2 hb⟩
theorem OwnDV.set {w : World} {base : Nat} {x : DV} (h : OwnDV w base x) {g : Nat} (o : Nat) (hg : g < base) (u : Value) : OwnDV (w.setCell ⟨g, o, none⟩ u) base x := ⟨rowset h.1 o hg u, rowset h.2 o hg u⟩
theorem OwnDV.grown {w w' : World} {base B' : Nat} {g : DV} {u : Value} {m : Nat} {ys : List Value} (h : OwnDV w base g) (hu : w.ownsRow B' 51 4 u m ys) (hg : w.grownBy w' u.ownBlock) : OwnDV w' base g :=
  ⟨own_other h.1 hu (by decide) hg, own_other h.2 hu (by decide) hg⟩
theorem dflat_get (gs : List DV) : ∀ i g, gs[i]? = some g → (dflat gs)[i * 4]? = some (.int .i64 g.d.id) ∧ (dflat gs)[i * 4 + 1]? = some (.int .i64 g.d.size) ∧ (dflat gs)[i * 4 + 2]? = some g.fv ∧ (dflat gs)[i * 4 + 3]? = some g.lv := by
  induction gs with
  | nil => intro i g h; simp at h
  | cons x xs ih =>
    intro i g h
    have e : dflat (x :: xs) = .int .i64 x.d.id :: .int .i64 x.d.size :: x.fv :: x.lv :: dflat xs := by simp [dflat]
    rw [e]
    cases i with
    | zero => simp at h; subst h; simp
    | succ i =>
      have h' : xs[i]? = some g := by simpa using h
      have h2 := ih i g h'
      rw [show (i + 1) * 4 = i * 4 + 1 + 1 + 1 + 1 from by omega]
      simp only [List.getElem?_cons_succ]
      exact h2
theorem dflat_snoc (gs : List DV) (g : DV) : dflat (gs ++ [g]) = dflat gs ++ [.int .i64 g.d.id, .int .i64 g.d.size, g.fv, g.lv] := by simp [dflat]
theorem dflat_len (gs : List DV) : (dflat gs).length = gs.length * 4 := by
  induction gs with
  | nil => rfl
  | cons x xs ih => simp only [dflat, List.flatMap_cons, List.length_append, List.length_cons, List.length_nil] at *; omega
theorem OwnDevs.below {w w' : World} {base : Nat} {v : Value} {ds : List DevD} (h : OwnDevs w base v ds) (hb : Below w.heap.size w w') : OwnDevs w' base v ds := by
  obtain ⟨gs, e, ho, hg⟩ := h
  exact ⟨gs, e, own_below ho hb, fun g hm => (hg g hm).below hb⟩
theorem OwnDevs.le {w : World} {base base' : Nat} {v : Value} {ds : List DevD} (h : OwnDevs w base v ds) (hb : base' ≤ base) : OwnDevs w base' v ds := by
  obtain ⟨gs, e, ho, hg⟩ := h
  exact ⟨gs, e, own_le ho hb, fun g hm => (hg g hm).le hb⟩
theorem OwnDevs.kept {w w' : World} {base : Nat} {v : Value} {ds : List DevD} (h : OwnDevs w base v ds) (hk : ∀ k, base ≤ k → k < w.heap.size → w'.heap[k]? = w.heap[k]?) : OwnDevs w' base v ds := by
  obtain ⟨gs, e, ho, hg⟩ := h
  exact ⟨gs, e, own_kept ho hk, fun g hm => ⟨own_kept (hg g hm).1 hk, own_kept (hg g hm).2 hk⟩⟩
theorem OwnDevs.set {w : World} {base : Nat} {v : Value} {ds : List DevD} (h : OwnDevs w base v ds) {g : Nat} (o : Nat) (hg : g < base) (u : Value) : OwnDevs (w.setCell ⟨g, o, none⟩ u) base v ds := by
  obtain ⟨gs, e, ho, ha⟩ := h
  exact ⟨gs, e, rowset ho o hg u, fun x hx => (ha x hx).set o hg u⟩
theorem ownD_nil (w : World) (base : Nat) : OwnDevs w base (.slice none 0 0) [] := ⟨[], rfl, World.ownsRow_nil _ _ _ _, fun g hg => by simp at hg⟩
theorem OwnDevs.at {w : World} {base : Nat} {v : Value} {ds : List DevD} (h : OwnDevs w base v ds) : ∃ a cap, v = .slice a ds.length cap ∧ DevsAt w a ds ∧ NilOk a cap ds.length := by
  obtain ⟨gs, rfl, ho, hg⟩ := h
  have hh := ho
  rw [List.length_map]
  rcases ho.2 with ⟨hv, hn⟩ | ⟨g, cap, cur, hv, hb, _, hnc, _⟩
  · exact ⟨none, 0, by rw [hv, hn], .inl (by rw [List.length_eq_zero_iff.1 hn]; rfl), by omega, (fun _ => rfl)⟩
  · refine ⟨_, cap, hv, .inr ⟨g, 0, rfl, fun i hi => ?_⟩, hnc, (fun e => by cases e)⟩
    rw [List.length_map] at hi
    obtain ⟨c0, c1, c2, c3⟩ := dflat_get gs i _ (List.getElem?_eq_getElem hi)
    have hm := hg gs[i] (List.getElem_mem hi)
    obtain ⟨af, cf, ef, hf⟩ := hm.1.segV
    obtain ⟨al, cl, el, hl⟩ := hm.2.segV
    have hgd : (gs.map DV.d).getD i DZ = gs[i].d := by simp [List.getD, hi]
    rw [hgd]
    have K : ∀ j u, (dflat gs)[j]? = some u → w.cell? ⟨g, 0 + j, none⟩ = some u := fun j u hj => by
      have := hh.cells (g := g) (by rw [hv]; rfl) j u hj
      rwa [addr_add] at this
    rw [ef] at c2
    rw [el] at c3
    exact ⟨af, cf, al, cl, ⟨K _ _ c0, by have := K _ _ c1; rwa [← Nat.add_assoc] at this, by have := K _ _ c2; rwa [← Nat.add_assoc] at this, by have := K _ _ c3; rwa [← Nat.add_assoc] at this⟩, hf, hl⟩
theorem OwnDevs.snoc {w : World} {base : Nat} {v : Value} {gs : List DV} {g : DV} (hg : ∀ x ∈ gs, OwnDV w base x) (h1 : OwnDV w base g)
    (h : w.ownsRow base 51 4 v (gs.length + 1) (dflat gs ++ [.int .i64 g.d.id, .int .i64 g.d.size, g.fv, g.lv])) : OwnDevs w base v (gs.map DV.d ++ [g.d]) := by
  refine ⟨gs ++ [g], by simp, ?_, ?_⟩
  · rw [dflat_snoc, List.length_append]; exact h
  · intro x hx
    rcases List.mem_append.1 hx with h2 | h2
    · exact hg x h2
    · simp at h2; subst h2; exact h1
theorem Try.info51 : (Try.prog.info? 51).map (fun i => (i.zero, i.size, i.bytes)) = some (some (.agg #[.int .i64 0, .int .i64 0, .slice none 0 0, .slice none 0 0]), 4, 64) := by kernel_rfl
theorem Try.info78 : (Try.prog.info? 78).map (fun i => (i.zero, i.size, i.bytes)) = some (some (.agg #[.pointer none]), 1, 8) := by kernel_rfl
theorem cells4 (w : World) (c0 c1 c2 c3 : Value) (t : TypeId) : ∀ j u, [c0, c1, c2, c3][j]? = some u → (w.alloc (.cells #[c0, c1, c2, c3] t)).cell? ((⟨w.heap.size, 0, none⟩ : Addr).add j) = some u := by
  intro j u hu
  match j, hu with
  | 0, hu => simp at hu; subst hu; simp [Addr.add]
  | 1, hu => simp at hu; subst hu; simp [Addr.add]
  | 2, hu => simp at hu; subst hu; simp [Addr.add]
  | 3, hu => simp at hu; subst hu; simp [Addr.add]
theorem cells1 (w : World) (c0 : Value) (t : TypeId) : ∀ j u, [c0][j]? = some u → (w.alloc (.cells #[c0] t)).cell? ((⟨w.heap.size, 0, none⟩ : Addr).add j) = some u := by
  intro j u hu
  match j, hu with
  | 0, hu => simp at hu; subst hu; simp [Addr.add]

/- groups: pointers at devices of one row -/
def ptrD (b o k : Nat) : Value := .pointer (some ⟨b, o + k * 4, none⟩)
def GrpAt (w : World) (a : Option Addr) (b o : Nat) (ks : List Nat) : Prop := ks = [] ∨ ∃ g q, a = some ⟨g, q, none⟩ ∧ ∀ i, i < ks.length → w.cell? ⟨g, q + i, none⟩ = some (ptrD b o (ks.getD i 0))
def OwnGrp (w : World) (base : Nat) (v : Value) (b o : Nat) (ks : List Nat) : Prop := w.ownsRow base 78 1 v ks.length (ks.map (ptrD b o))
theorem GrpAt.below {w w' : World} {a : Option Addr} {b o : Nat} {ks : List Nat} (h : GrpAt w a b o ks) (hb : Below w.heap.size w w') : GrpAt w' a b o ks := by
  rcases h with rfl | ⟨g, q, rfl, hc⟩
  · exact .inl rfl
  · exact .inr ⟨g, q, rfl, fun i hi => (hb.cell (p := ⟨g, q + i, none⟩) (block_lt_of_cell (hc i hi))).trans (hc i hi)⟩
theorem GrpAt.cell {w : World} {a : Option Addr} {b o : Nat} {ks : List Nat} (h : GrpAt w a b o ks) {i : Nat} (hi : i < ks.length) : ∃ g q, a = some ⟨g, q, none⟩ ∧ w.cell? ⟨g, q + i, none⟩ = some (ptrD b o (ks.getD i 0)) := by
  rcases h with rfl | ⟨g, q, rfl, hc⟩
  · simp at hi
  · exact ⟨g, q, rfl, hc i hi⟩
theorem OwnGrp.at {w : World} {base : Nat} {v : Value} {b o : Nat} {ks : List Nat} (h : OwnGrp w base v b o ks) : ∃ a c, v = .slice a ks.length c ∧ GrpAt w a b o ks ∧ NilOk a c ks.length := by
  rcases h.2 with ⟨hv, hn⟩ | ⟨g, cap, cur, hv, _, _, hnc, _⟩
  · exact ⟨none, 0, by rw [hv, hn], .inl (List.length_eq_zero_iff.1 hn), by omega, fun _ => rfl⟩
  · refine ⟨_, cap, hv, .inr ⟨g, 0, rfl, fun i hi => ?_⟩, hnc, fun e => by cases e⟩
    have hj : (ks.map (ptrD b o))[i]? = some (ptrD b o (ks.getD i 0)) := by simp [hi, List.getD]
    have := h.cells (g := g) (by rw [hv]; rfl) _ _ hj
    rwa [addr_add] at this

end Go.Proofs.Ytheomnafmjmpdaa

/- What the program tells of one device and of one sector. -/
namespace Go.Proofs.Ytheomnafmjmpdaa
open Go.RowKit

theorem len_max {n : Nat} (h : n ≤ 1000) : n ≤ maxLen := by unfold maxLen; omega
set_option maxRecDepth 100000 in
set_option maxHeartbeats 1000000 in
theorem dfree_any (b o : Nat) (d : DevD) (w : World) (hd : DevIn w b o d) (hs : SmallD d) :
    Calls Try.prog 62 #[.agg #[.pointer (some ⟨b, o, none⟩)]] w fun e w' => e = .returned (.int .i64 (cntOf d.free)) ∧ Below w.heap.size w w' := by
  have hlt := hd.lt
  obtain ⟨af, cf, al, cl, ⟨c0, c1, c2, c3⟩, hf, hl⟩ := hd
  obtain ⟨W0, hW0⟩ : ∃ W0, W0 = w.alloc (.cells #[.pointer (some ⟨b, o, none⟩)] 78) := ⟨_, rfl⟩
  have HB : Hid (Below w.heap.size w W0) := by rw [hW0]; exact nwA (nwR w) _
  have HF : Hid (SegsAt W0 af d.free) := (hf.below HB.out).1
  have HS : Hid (d.free.length ≤ maxLen) := len_max hs.1
  clear hf hl hs
  go_enter Try.func62, Try.ntmps62
  go_wp2_with fail
  rw [← hW0]
  refine (count_any af d.free cf W0 HF.out HS.out).mono ?_
  rintro e w1 ⟨rfl, hb1⟩
  have HB1 : Hid (Below w.heap.size w w1) := nwT HB.out hb1
  clear hb1 c0 c1 c2 c3
  go_wp2_with fail
  go_ret
  exact ⟨rfl, HB1.out⟩

set_option maxRecDepth 100000 in
set_option maxHeartbeats 1000000 in
theorem alone_any (p : Value) (n : Int) (w : World) :
    Calls Try.prog 66 #[.agg #[p, .int .i64 n]] w fun e w' => (∃ g, e = .returned (.slice (some ⟨g, 0, none⟩) 1 1) ∧ SegsAt w' (some ⟨g, 0, none⟩) [(n, 1)] ∧ w.heap.size ≤ g) ∧ Below w.heap.size w w' := by
  obtain ⟨W0, hW0⟩ : ∃ W0, W0 = w.alloc (.cells #[p, .int .i64 n] 80) := ⟨_, rfl⟩
  have HB : Hid (Below w.heap.size w W0) := by rw [hW0]; exact nwA (nwR w) _
  have hx : W0.heap[w.heap.size]? = some (.cells #[p, .int .i64 n] 80 (0, 0)) := by rw [hW0]; exact heap_alloc_new w _
  obtain ⟨x0, x1, _⟩ := two hx
  rw [hW0] at x0 x1
  clear hx HB hW0
  go_enter Try.func66, Try.ntmps66
  go_wp2_with fail
  go_ret
  have hs := segs1 (w.alloc (.cells #[p, .int .i64 n] 80)) n 1 67
  rw [show (w.alloc (.cells #[p, .int .i64 n] 80)).heap.size = w.heap.size + 1 from by simp] at hs
  exact ⟨⟨_, rfl, hs, by omega⟩, nwA (nwA (nwR w) _) _⟩

/-- what a device that may be is -/
def devB (d : DevD) : Bool := decide (1 ≤ d.id) && decide (d.id ≤ 40) && decide (1 ≤ d.size) && decide (d.size ≤ 64) && vOk d.free && vOk d.late && decide (endL d.free ≤ d.size) && decide (endL d.late ≤ d.size) && decide ((segsOf fun k => memS d.free k && memS d.late k).length = 0)
structure DevOk (d : DevD) : Prop where
  id0 : 1 ≤ d.id
  id1 : d.id ≤ 40
  sz0 : 1 ≤ d.size
  sz1 : d.size ≤ 64
  free : vOk d.free = true
  late : vOk d.late = true
  ef : endL d.free ≤ d.size
  el : endL d.late ≤ d.size
  both : (segsOf fun k => memS d.free k && memS d.late k).length = 0
theorem devB_ok (d : DevD) : devB d = true ↔ DevOk d := by
  unfold devB
  simp only [Bool.and_eq_true, decide_eq_true_eq]
  constructor
  · rintro ⟨⟨⟨⟨⟨⟨⟨⟨h1, h2⟩, h3⟩, h4⟩, h5⟩, h6⟩, h7⟩, h8⟩, h9⟩
    exact ⟨h1, h2, h3, h4, h5, h6, h7, h8, h9⟩
  · rintro ⟨h1, h2, h3, h4, h5, h6, h7, h8, h9⟩
    exact ⟨⟨⟨⟨⟨⟨⟨⟨h1, h2⟩, h3⟩, h4⟩, h5⟩, h6⟩, h7⟩, h8⟩, h9⟩

set_option maxRecDepth 100000 in
set_option maxHeartbeats 2000000 in
theorem dused_any (b o : Nat) (d : DevD) (w : World) (hd : DevIn w b o d) (hs : SmallD d) (hok : DevOk d) :
    Calls Try.prog 52 #[.agg #[.pointer (some ⟨b, o, none⟩)]] w fun e w' => e = .returned (.int .i64 (d.size - cntOf d.free - cntOf d.late)) ∧ Below w.heap.size w w' := by
  have hlt := hd.lt
  have HD : Hid (DevIn w b o d) := hd
  have HSM : Hid (SmallD d) := hs
  obtain ⟨af, cf, al, cl, ⟨c0, c1, c2, c3⟩, hf, hl⟩ := hd
  obtain ⟨W0, hW0⟩ : ∃ W0, W0 = w.alloc (.cells #[.pointer (some ⟨b, o, none⟩)] 78) := ⟨_, rfl⟩
  have HB : Hid (Below w.heap.size w W0) := by rw [hW0]; exact nwA (nwR w) _
  have HX : Hid (W0.heap[w.heap.size]? = some (.cells #[.pointer (some ⟨b, o, none⟩)] 78 (0, 0))) := by rw [hW0]; exact heap_alloc_new w _
  have HL : Hid (SegsAt W0 al d.late) := (hl.below HB.out).1
  have HS : Hid (d.late.length ≤ maxLen) := len_max hs.2
  have hb1 := cnt_bd hok.free
  have hb2 := cnt_bd hok.late
  have h1 := hok.sz0
  have h2 := hok.sz1
  clear hf hl hs hok
  go_enter Try.func52, Try.ntmps52
  go_wp2_with fail
  rw [← hW0]
  refine (count_any al d.late cl W0 HL.out HS.out).mono ?_
  rintro e w1 ⟨rfl, hbw⟩
  have HB1 : Hid (Below w.heap.size w w1) := nwT HB.out hbw
  have HX1 : Hid (w1.heap[w.heap.size]? = some (.cells #[.pointer (some ⟨b, o, none⟩)] 78 (0, 0))) := (hbw.block _ (Array.getElem?_eq_some_iff.1 HX.out).1).trans HX.out
  have q0 : ∀ w', Below w1.heap.size w1 w' → w'.cell? ⟨w.heap.size, 0, none⟩ = some (.pointer (some ⟨b, o, none⟩)) := fun w' h => (one ((h.block _ (Array.getElem?_eq_some_iff.1 HX1.out).1).trans HX1.out)).1
  have q1 : ∀ w', Below w1.heap.size w1 w' → w'.cell? ⟨b, o + 1, none⟩ = some (.int .i64 d.size) := fun w' h => ((nwT HB1.out h).cell (p := ⟨b, o + 1, none⟩) hlt).trans c1
  have HC : Hid (∀ w', Below w1.heap.size w1 w' → Calls Try.prog 62 #[.agg #[.pointer (some ⟨b, o, none⟩)]] w' fun e w'' => e = .returned (.int .i64 (cntOf d.free)) ∧ Below w'.heap.size w' w'') := fun w' h => dfree_any b o d w' (HD.out.below (nwT HB1.out h)) HSM.out
  have e1 : IntKind.i64.wrap (d.size - cntOf d.free) = d.size - cntOf d.free := wrap_any (by omega) (by omega)
  have e2 : IntKind.i64.wrap (d.size - cntOf d.free - cntOf d.late) = d.size - cntOf d.free - cntOf d.late := wrap_any (by omega) (by omega)
  have hS := nwR w1
  clear hbw c0 c1 c2 c3 hW0
  go_wp2_with fail
  go_region_held3 (fun w' => Below w1.heap.size w1 w') (first | assumption | exact Below.drew (by assumption) | exact nwT (by assumption) (by assumption)) (first
    | (go_at_call 62; refine (HC.out _ (by first | assumption | exact Below.drew (by assumption))).mono ?_; rintro e wC ⟨rfl, hbC⟩)
    | fail)
  all_goals
    have hq : Below w1.heap.size w1 ‹World› := by assumption
    have HQ : Hid (Below w.heap.size w ‹World›) := nwT HB1.out hq
    go_wp2_with fail
    go_ret
    exact ⟨rfl, HQ.out⟩

end Go.Proofs.Ytheomnafmjmpdaa
