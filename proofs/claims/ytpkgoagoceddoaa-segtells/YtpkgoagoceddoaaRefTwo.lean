/- hermitageref1.Two by its contract, for each of its three kinds. -/
import Derived.Test.YtpkgoagoceddoaaRefOf
namespace Go.Proofs.Ytpkgoagoceddoaa
open Go.RowKit

structure T3 (wr : World) (g : Nat) (s t u : Nat → Bool) : Prop where
  one : SetJ wr g s
  two : SetJ wr (g + 1) t
  acc : SetJ wr (g + 2) u

theorem T3.step {wr : World} {g k : Nat} {s t f : Nat → Bool} (h : T3 wr g s t (fun j => decide (j < k) && f j)) :
    T3 (wr.setCell ⟨g + 2, k, none⟩ (.bool (f k))) g s t (fun j => decide (j < k + 1) && f j) := by
  refine ⟨World.rowIs.setOther h.one (by show g ≠ g + 2; omega) _, World.rowIs.setOther h.two (by show g + 1 ≠ g + 2; omega) _, ?_⟩
  refine (World.rowIs.set h.acc k (.bool (f k))).congr fun j _ => ?_
  simp only [Ytpkgoagoceddoaa.setRow]
  by_cases e : j = k
  · subst e; simp
  · rw [if_neg e]
    congr 2
    rw [decide_eq_decide]; omega

theorem T3.start (w : World) (s t : Nat → Bool) (u : Nat → Bool) (hu : ∀ k, u k = false) :
    T3 (((((w.alloc (.cells (setArr fun _ => false) 50)).alloc (.cells (setArr fun _ => false) 50)).setRow w.heap.size (setArr s)).setRow (w.heap.size + 1) (setArr t)).alloc (.cells (setArr fun _ => false) 50)) w.heap.size s t u := by
  have e : u = fun _ => false := funext hu
  subst e
  have h1 : SetJ (w.alloc (.cells (setArr fun _ => false) 50)) w.heap.size (fun _ => false) := SetJ.new w _
  have h2 := SetJ.new (w.alloc (.cells (setArr fun _ => false) 50)) (fun _ => false)
  rw [show (w.alloc (.cells (setArr fun _ => false) 50)).heap.size = w.heap.size + 1 from by simp] at h2
  have h1' : SetJ ((w.alloc (.cells (setArr fun _ => false) 50)).alloc (.cells (setArr fun _ => false) 50)) w.heap.size (fun _ => false) := World.rowIs.alloc h1 _
  have h3 := SetJ.new ((((w.alloc (.cells (setArr fun _ => false) 50)).alloc (.cells (setArr fun _ => false) 50)).setRow w.heap.size (setArr s)).setRow (w.heap.size + 1) (setArr t)) (fun _ => false)
  rw [show ((((w.alloc (.cells (setArr fun _ => false) 50)).alloc (.cells (setArr fun _ => false) 50)).setRow w.heap.size (setArr s)).setRow (w.heap.size + 1) (setArr t)).heap.size = w.heap.size + 2 from by simp] at h3
  exact ⟨World.rowIs.alloc (SetJ.rowApart (SetJ.setRow h1' (s := s)) (b := w.heap.size + 1) (s' := t) (by omega)) _, World.rowIs.alloc (SetJ.setRow (SetJ.rowApart h2 (b := w.heap.size) (s' := s) (by omega)) (s := t)) _, h3⟩

theorem t3_below {w w1 : World} (hb1 : Below w.heap.size w w1) {c d : Array Value} {o o' o2 : Obj} :
    Below w.heap.size w (((((w1.alloc o).alloc o').setRow w1.heap.size c).setRow (w1.heap.size + 1) d).alloc o2) := nwA (two_new hb1) _

theorem setj2 (w : World) : SetJ ((w.alloc (.cells (setArr fun _ => false) 50)).alloc (.cells (setArr fun _ => false) 50)) w.heap.size (fun _ => false) ∧
    ∀ s, SetJ (((w.alloc (.cells (setArr fun _ => false) 50)).alloc (.cells (setArr fun _ => false) 50)).setRow w.heap.size (setArr s)) (w.heap.size + 1) (fun _ => false) := by
  have h2 := SetJ.new (w.alloc (.cells (setArr fun _ => false) 50)) (fun _ => false)
  rw [show (w.alloc (.cells (setArr fun _ => false) 50)).heap.size = w.heap.size + 1 from by simp] at h2
  exact ⟨World.rowIs.alloc (SetJ.new w _) _, fun s => SetJ.rowApart h2 (b := w.heap.size) (s' := s) (by omega)⟩

set_option maxRecDepth 100000 in
set_option maxHeartbeats 2000000 in
theorem refTwo0_any (a b : Option Addr) (l m : List (Int × Int)) (ca cb : Nat) (w : World) (ha : SegsAt w a l) (hb : SegsAt w b m) (hl : l.length ≤ 500) (hm : m.length ≤ 500) (hv : vOk l = true) (hx : vOk m = true) :
    Calls Try.prog 32 #[.slice a l.length ca, .slice b m.length cb, .int .i64 0] w fun e w' =>
      ∃ v, e = .returned v ∧ OwnSegs w' w.heap.size v (segsOf (fun k => memS l k || memS m k)) ∧ Below w.heap.size w w' := by
  have HA : Hid (SegsAt w a l) := ha
  have HB : Hid (SegsAt w b m) := hb
  clear ha hb
  go_enter Try.func32, Try.ntmps32
  go_wp2_with fail
  refine (refSet_any a l ca _ HA.out hl hv).mono ?_
  rintro e w1 ⟨rfl, hb1⟩
  go_wp2_with fail
  refine (refSet_any b m cb _ (HB.out.below hb1 (Nat.le_refl _)) hm hx).mono ?_
  rintro e w2 ⟨rfl, hb2⟩
  have hb12 := nwT hb1 hb2
  clear hb1 hb2 HA HB
  have HS : Hid _ := setj2 w2
  go_wp2_with (first | (with_reducible refine wpList_alloc50 rfl rfl ?_) | (with_reducible refine stop_store50 rfl ?_))
  unfold Stop
  refine wpList_store50 rfl (.tmp 7) (.tmp 12) rfl w2.heap.size (memS l) _ rfl rfl HS.out.1 ?_
  go_wp2_with (with_reducible refine stop_store50 rfl ?_)
  unfold Stop
  refine wpList_store50 rfl (.tmp 8) (.tmp 14) rfl (w2.heap.size + 1) (memS m) _ rfl rfl (HS.out.2 _) ?_
  go_wp2_with (with_reducible refine wpList_alloc50 rfl rfl ?_)
  have HT : Hid (T3 (((((w2.alloc (.cells (setArr fun _ => false) 50)).alloc (.cells (setArr fun _ => false) 50)).setRow w2.heap.size (setArr (memS l))).setRow (w2.heap.size + 1) (setArr (memS m))).alloc (.cells (setArr fun _ => false) 50)) w2.heap.size (memS l) (memS m) (fun j => decide (j < 0) && (memS l j || memS m j))) := T3.start w2 _ _ _ (fun k => by simp)
  have HN : Hid (Below w.heap.size w (((((w2.alloc (.cells (setArr fun _ => false) 50)).alloc (.cells (setArr fun _ => false) 50)).setRow w2.heap.size (setArr (memS l))).setRow (w2.heap.size + 1) (setArr (memS m))).alloc (.cells (setArr fun _ => false) 50))) := t3_below hb12
  have hsz2 : w.heap.size ≤ w2.heap.size := hb12.size
  generalize (((((w2.alloc (.cells (setArr fun _ => false) 50)).alloc (.cells (setArr fun _ => false) 50)).setRow w2.heap.size (setArr (memS l))).setRow (w2.heap.size + 1) (setArr (memS m))).alloc (.cells (setArr fun _ => false) 50)) = w3 at HT HN ⊢
  clear HS hb12
  generalize w2.heap.size = g at HT hsz2 ⊢
  generalize hS : memS l = s at HT ⊢
  generalize hT : memS m = t at HT ⊢
  have HSE : Hid (memS l = s) := hS
  have HTE : Hid (memS m = t) := hT
  clear hS hT
  go_loopw [10] (fun i wr => ∃ (k : Nat), k ≤ 64 ∧ i = .int .i64 k ∧ T3 wr g s t (fun j => decide (j < k) && (s j || t j)) ∧ Below w.heap.size w wr)
    (fun i _ => 64 - (intOf i).toNat)
  case atStart => exact ⟨0, by omega, rfl, HT.out, HN.out⟩
  case round =>
    obtain ⟨k, hk, rfl, hT3, hb⟩ := hrel
    have H3 : Hid (T3 wr g s t (fun j => decide (j < k) && (s j || t j))) := hT3
    clear hT3
    by_cases hlt : k < 64
    · have hlt' : (k : Int) < 64 := by omega
      have q1 := H3.out.one.cell hlt
      have q2 := H3.out.two.cell hlt
      have q3 := H3.out.acc.cell hlt
      have f3 := H3.out.acc.frozen k
      have l3 := H3.out.acc.lt
      simp only [setRow] at q1 q2 q3
      have HST : Hid _ := T3.step (f := fun j => s j || t j) H3.out
      have HB2 : Hid (Below w.heap.size w (wr.setCell ⟨g + 2, k, none⟩ (.bool (s k || t k)))) := hb.setCell (p := ⟨g + 2, k, none⟩) (by show w.heap.size ≤ g + 2; omega) _
      cases e1 : s k <;> cases e2 : t k
      all_goals
        rw [e1] at q1
        rw [e2] at q2
        rw [e1, e2] at HST HB2
        clear H3
        go_wp2_with fail
        go_roundw
        case rel => exact ⟨k + 1, by omega, by go_num, HST.out, HB2.out⟩
        case measure => simp [intOf]; omega
    · have hk' : k = 64 := by omega
      subst hk'
      go_wp2_with (with_reducible refine stop_load50 rfl ?_)
      unfold Stop
      refine wpList_load50 rfl (.tmp 9) rfl (g + 2) _ rfl H3.out.acc ?_
      go_wp2_with fail
      refine (refOf_any _ _).mono ?_
      rintro e w4 ⟨v, rfl, hown, hb4⟩
      have HO : Hid _ := hown
      clear hown
      go_wp2_with fail
      go_ret
      refine ⟨_, rfl, ?_, nwT hb hb4⟩
      have ee : segsOf (fun k => memS l k || memS m k) = segsOf (fun j => decide (j < 64) && (s j || t j)) := segsOf_congr (fun q hq => by rw [HSE.out, HTE.out]; simp [hq])
      rw [ee]
      exact ownsRow_base HO.out hb.size

set_option maxRecDepth 100000 in
set_option maxHeartbeats 2000000 in
theorem refTwo1_any (a b : Option Addr) (l m : List (Int × Int)) (ca cb : Nat) (w : World) (ha : SegsAt w a l) (hb : SegsAt w b m) (hl : l.length ≤ 500) (hm : m.length ≤ 500) (hv : vOk l = true) (hx : vOk m = true) :
    Calls Try.prog 32 #[.slice a l.length ca, .slice b m.length cb, .int .i64 1] w fun e w' =>
      ∃ v, e = .returned v ∧ OwnSegs w' w.heap.size v (segsOf (fun k => memS l k && !memS m k)) ∧ Below w.heap.size w w' := by
  have HA : Hid (SegsAt w a l) := ha
  have HB : Hid (SegsAt w b m) := hb
  clear ha hb
  go_enter Try.func32, Try.ntmps32
  go_wp2_with fail
  refine (refSet_any a l ca _ HA.out hl hv).mono ?_
  rintro e w1 ⟨rfl, hb1⟩
  go_wp2_with fail
  refine (refSet_any b m cb _ (HB.out.below hb1 (Nat.le_refl _)) hm hx).mono ?_
  rintro e w2 ⟨rfl, hb2⟩
  have hb12 := nwT hb1 hb2
  clear hb1 hb2 HA HB
  have HS : Hid _ := setj2 w2
  go_wp2_with (first | (with_reducible refine wpList_alloc50 rfl rfl ?_) | (with_reducible refine stop_store50 rfl ?_))
  unfold Stop
  refine wpList_store50 rfl (.tmp 7) (.tmp 12) rfl w2.heap.size (memS l) _ rfl rfl HS.out.1 ?_
  go_wp2_with (with_reducible refine stop_store50 rfl ?_)
  unfold Stop
  refine wpList_store50 rfl (.tmp 8) (.tmp 14) rfl (w2.heap.size + 1) (memS m) _ rfl rfl (HS.out.2 _) ?_
  go_wp2_with (with_reducible refine wpList_alloc50 rfl rfl ?_)
  have HT : Hid (T3 (((((w2.alloc (.cells (setArr fun _ => false) 50)).alloc (.cells (setArr fun _ => false) 50)).setRow w2.heap.size (setArr (memS l))).setRow (w2.heap.size + 1) (setArr (memS m))).alloc (.cells (setArr fun _ => false) 50)) w2.heap.size (memS l) (memS m) (fun j => decide (j < 0) && (memS l j && !memS m j))) := T3.start w2 _ _ _ (fun k => by simp)
  have HN : Hid (Below w.heap.size w (((((w2.alloc (.cells (setArr fun _ => false) 50)).alloc (.cells (setArr fun _ => false) 50)).setRow w2.heap.size (setArr (memS l))).setRow (w2.heap.size + 1) (setArr (memS m))).alloc (.cells (setArr fun _ => false) 50))) := t3_below hb12
  have hsz2 : w.heap.size ≤ w2.heap.size := hb12.size
  generalize (((((w2.alloc (.cells (setArr fun _ => false) 50)).alloc (.cells (setArr fun _ => false) 50)).setRow w2.heap.size (setArr (memS l))).setRow (w2.heap.size + 1) (setArr (memS m))).alloc (.cells (setArr fun _ => false) 50)) = w3 at HT HN ⊢
  clear HS hb12
  generalize w2.heap.size = g at HT hsz2 ⊢
  generalize hS : memS l = s at HT ⊢
  generalize hT : memS m = t at HT ⊢
  have HSE : Hid (memS l = s) := hS
  have HTE : Hid (memS m = t) := hT
  clear hS hT
  go_loopw [10] (fun i wr => ∃ (k : Nat), k ≤ 64 ∧ i = .int .i64 k ∧ T3 wr g s t (fun j => decide (j < k) && (s j && !t j)) ∧ Below w.heap.size w wr)
    (fun i _ => 64 - (intOf i).toNat)
  case atStart => exact ⟨0, by omega, rfl, HT.out, HN.out⟩
  case round =>
    obtain ⟨k, hk, rfl, hT3, hb⟩ := hrel
    have H3 : Hid (T3 wr g s t (fun j => decide (j < k) && (s j && !t j))) := hT3
    clear hT3
    by_cases hlt : k < 64
    · have hlt' : (k : Int) < 64 := by omega
      have q1 := H3.out.one.cell hlt
      have q2 := H3.out.two.cell hlt
      have q3 := H3.out.acc.cell hlt
      have f3 := H3.out.acc.frozen k
      have l3 := H3.out.acc.lt
      simp only [setRow] at q1 q2 q3
      have HST : Hid _ := T3.step (f := fun j => s j && !t j) H3.out
      have HB2 : Hid (Below w.heap.size w (wr.setCell ⟨g + 2, k, none⟩ (.bool (s k && !t k)))) := hb.setCell (p := ⟨g + 2, k, none⟩) (by show w.heap.size ≤ g + 2; omega) _
      cases e1 : s k <;> cases e2 : t k
      all_goals
        rw [e1] at q1
        rw [e2] at q2
        rw [e1, e2] at HST HB2
        clear H3
        go_wp2_with fail
        go_roundw
        case rel => exact ⟨k + 1, by omega, by go_num, HST.out, HB2.out⟩
        case measure => simp [intOf]; omega
    · have hk' : k = 64 := by omega
      subst hk'
      go_wp2_with (with_reducible refine stop_load50 rfl ?_)
      unfold Stop
      refine wpList_load50 rfl (.tmp 9) rfl (g + 2) _ rfl H3.out.acc ?_
      go_wp2_with fail
      refine (refOf_any _ _).mono ?_
      rintro e w4 ⟨v, rfl, hown, hb4⟩
      have HO : Hid _ := hown
      clear hown
      go_wp2_with fail
      go_ret
      refine ⟨_, rfl, ?_, nwT hb hb4⟩
      have ee : segsOf (fun k => memS l k && !memS m k) = segsOf (fun j => decide (j < 64) && (s j && !t j)) := segsOf_congr (fun q hq => by rw [HSE.out, HTE.out]; simp [hq])
      rw [ee]
      exact ownsRow_base HO.out hb.size

set_option maxRecDepth 100000 in
set_option maxHeartbeats 2000000 in
theorem refTwo2_any (a b : Option Addr) (l m : List (Int × Int)) (ca cb : Nat) (w : World) (ha : SegsAt w a l) (hb : SegsAt w b m) (hl : l.length ≤ 500) (hm : m.length ≤ 500) (hv : vOk l = true) (hx : vOk m = true) :
    Calls Try.prog 32 #[.slice a l.length ca, .slice b m.length cb, .int .i64 2] w fun e w' =>
      ∃ v, e = .returned v ∧ OwnSegs w' w.heap.size v (segsOf (fun k => memS l k && memS m k)) ∧ Below w.heap.size w w' := by
  have HA : Hid (SegsAt w a l) := ha
  have HB : Hid (SegsAt w b m) := hb
  clear ha hb
  go_enter Try.func32, Try.ntmps32
  go_wp2_with fail
  refine (refSet_any a l ca _ HA.out hl hv).mono ?_
  rintro e w1 ⟨rfl, hb1⟩
  go_wp2_with fail
  refine (refSet_any b m cb _ (HB.out.below hb1 (Nat.le_refl _)) hm hx).mono ?_
  rintro e w2 ⟨rfl, hb2⟩
  have hb12 := nwT hb1 hb2
  clear hb1 hb2 HA HB
  have HS : Hid _ := setj2 w2
  go_wp2_with (first | (with_reducible refine wpList_alloc50 rfl rfl ?_) | (with_reducible refine stop_store50 rfl ?_))
  unfold Stop
  refine wpList_store50 rfl (.tmp 7) (.tmp 12) rfl w2.heap.size (memS l) _ rfl rfl HS.out.1 ?_
  go_wp2_with (with_reducible refine stop_store50 rfl ?_)
  unfold Stop
  refine wpList_store50 rfl (.tmp 8) (.tmp 14) rfl (w2.heap.size + 1) (memS m) _ rfl rfl (HS.out.2 _) ?_
  go_wp2_with (with_reducible refine wpList_alloc50 rfl rfl ?_)
  have HT : Hid (T3 (((((w2.alloc (.cells (setArr fun _ => false) 50)).alloc (.cells (setArr fun _ => false) 50)).setRow w2.heap.size (setArr (memS l))).setRow (w2.heap.size + 1) (setArr (memS m))).alloc (.cells (setArr fun _ => false) 50)) w2.heap.size (memS l) (memS m) (fun j => decide (j < 0) && (memS l j && memS m j))) := T3.start w2 _ _ _ (fun k => by simp)
  have HN : Hid (Below w.heap.size w (((((w2.alloc (.cells (setArr fun _ => false) 50)).alloc (.cells (setArr fun _ => false) 50)).setRow w2.heap.size (setArr (memS l))).setRow (w2.heap.size + 1) (setArr (memS m))).alloc (.cells (setArr fun _ => false) 50))) := t3_below hb12
  have hsz2 : w.heap.size ≤ w2.heap.size := hb12.size
  generalize (((((w2.alloc (.cells (setArr fun _ => false) 50)).alloc (.cells (setArr fun _ => false) 50)).setRow w2.heap.size (setArr (memS l))).setRow (w2.heap.size + 1) (setArr (memS m))).alloc (.cells (setArr fun _ => false) 50)) = w3 at HT HN ⊢
  clear HS hb12
  generalize w2.heap.size = g at HT hsz2 ⊢
  generalize hS : memS l = s at HT ⊢
  generalize hT : memS m = t at HT ⊢
  have HSE : Hid (memS l = s) := hS
  have HTE : Hid (memS m = t) := hT
  clear hS hT
  go_loopw [10] (fun i wr => ∃ (k : Nat), k ≤ 64 ∧ i = .int .i64 k ∧ T3 wr g s t (fun j => decide (j < k) && (s j && t j)) ∧ Below w.heap.size w wr)
    (fun i _ => 64 - (intOf i).toNat)
  case atStart => exact ⟨0, by omega, rfl, HT.out, HN.out⟩
  case round =>
    obtain ⟨k, hk, rfl, hT3, hb⟩ := hrel
    have H3 : Hid (T3 wr g s t (fun j => decide (j < k) && (s j && t j))) := hT3
    clear hT3
    by_cases hlt : k < 64
    · have hlt' : (k : Int) < 64 := by omega
      have q1 := H3.out.one.cell hlt
      have q2 := H3.out.two.cell hlt
      have q3 := H3.out.acc.cell hlt
      have f3 := H3.out.acc.frozen k
      have l3 := H3.out.acc.lt
      simp only [setRow] at q1 q2 q3
      have HST : Hid _ := T3.step (f := fun j => s j && t j) H3.out
      have HB2 : Hid (Below w.heap.size w (wr.setCell ⟨g + 2, k, none⟩ (.bool (s k && t k)))) := hb.setCell (p := ⟨g + 2, k, none⟩) (by show w.heap.size ≤ g + 2; omega) _
      cases e1 : s k <;> cases e2 : t k
      all_goals
        rw [e1] at q1
        rw [e2] at q2
        rw [e1, e2] at HST HB2
        clear H3
        go_wp2_with fail
        go_roundw
        case rel => exact ⟨k + 1, by omega, by go_num, HST.out, HB2.out⟩
        case measure => simp [intOf]; omega
    · have hk' : k = 64 := by omega
      subst hk'
      go_wp2_with (with_reducible refine stop_load50 rfl ?_)
      unfold Stop
      refine wpList_load50 rfl (.tmp 9) rfl (g + 2) _ rfl H3.out.acc ?_
      go_wp2_with fail
      refine (refOf_any _ _).mono ?_
      rintro e w4 ⟨v, rfl, hown, hb4⟩
      have HO : Hid _ := hown
      clear hown
      go_wp2_with fail
      go_ret
      refine ⟨_, rfl, ?_, nwT hb hb4⟩
      have ee : segsOf (fun k => memS l k && memS m k) = segsOf (fun j => decide (j < 64) && (s j && t j)) := segsOf_congr (fun q hq => by rw [HSE.out, HTE.out]; simp [hq])
      rw [ee]
      exact ownsRow_base HO.out hb.size

end Go.Proofs.Ytpkgoagoceddoaa
