/- seg.Less and seg.Both by their contracts. -/
import Derived.Test.YtpkgoagoceddoaaTwo
namespace Go.Proofs.Ytpkgoagoceddoaa
open Go.RowKit

set_option maxHeartbeats 400000 in
theorem less1_any (ga gb : Nat) (s t : Nat → Bool) (n : Nat) (w : World) (hs : SetIs w ga s) (ht : SetIs w gb t) (hn : n < 64) :
    Calls Try.prog 44 #[.int .i64 n, .pointer (some ⟨ga, 0, none⟩), .pointer (some ⟨gb, 0, none⟩)] w fun e w' => e = .returned (.bool (s n && !t n)) ∧ w' = w := by
  have HS : Hid (SetIs w ga s) := hs
  have HT : Hid (SetIs w gb t) := ht
  clear hs ht
  cases hv : s n
  · go_enter Try.func44, Try.ntmps44
    go_wp2_with fail
    refine (setHas_any ga s n _ HS.out hn).mono ?_
    rintro e w1 ⟨rfl, rfl⟩
    rw [hv]
    go_wp2_with fail
    go_ret
    exact ⟨rfl, rfl⟩
  · go_enter Try.func44, Try.ntmps44
    go_wp2_with fail
    refine (setHas_any ga s n _ HS.out hn).mono ?_
    rintro e w1 ⟨rfl, rfl⟩
    rw [hv]
    go_wp2_with fail
    refine (setHas_any gb t n _ HT.out hn).mono ?_
    rintro e w1 ⟨rfl, rfl⟩
    go_wp2_with fail
    go_ret
    exact ⟨by simp, rfl⟩

set_option maxHeartbeats 400000 in
theorem both1_any (ga gb : Nat) (s t : Nat → Bool) (n : Nat) (w : World) (hs : SetIs w ga s) (ht : SetIs w gb t) (hn : n < 64) :
    Calls Try.prog 45 #[.int .i64 n, .pointer (some ⟨ga, 0, none⟩), .pointer (some ⟨gb, 0, none⟩)] w fun e w' => e = .returned (.bool (s n && t n)) ∧ w' = w := by
  have HS : Hid (SetIs w ga s) := hs
  have HT : Hid (SetIs w gb t) := ht
  clear hs ht
  cases hv : s n
  · go_enter Try.func45, Try.ntmps45
    go_wp2_with fail
    refine (setHas_any ga s n _ HS.out hn).mono ?_
    rintro e w1 ⟨rfl, rfl⟩
    rw [hv]
    go_wp2_with fail
    go_ret
    exact ⟨rfl, rfl⟩
  · go_enter Try.func45, Try.ntmps45
    go_wp2_with fail
    refine (setHas_any ga s n _ HS.out hn).mono ?_
    rintro e w1 ⟨rfl, rfl⟩
    rw [hv]
    go_wp2_with fail
    refine (setHas_any gb t n _ HT.out hn).mono ?_
    rintro e w1 ⟨rfl, rfl⟩
    go_wp2_with fail
    go_ret
    exact ⟨by simp, rfl⟩

theorem new2 (w1 : World) : SetIs ((w1.alloc (.cells (setArr fun _ => false) 64)).alloc (.cells (setArr fun _ => false) 64)) (w1.heap.size + 1) (fun _ => false) := by
  have h := SetIs.new (w1.alloc (.cells (setArr fun _ => false) 64))
  rw [show (w1.alloc (.cells (setArr fun _ => false) 64)).heap.size = w1.heap.size + 1 from by simp] at h
  exact h

theorem two_new {w w1 : World} (hb1 : Below w.heap.size w w1) {c d : Array Value} {o o' : Obj} :
    Below w.heap.size w ((((w1.alloc o).alloc o').setRow w1.heap.size c).setRow (w1.heap.size + 1) d) :=
  ((nwA (nwA hb1 o) o').grown (gbSetRow _ _ _) (nwA (nwA hb1 o) o').size (fun k e => by have := Option.some.inj e; have := hb1.size; omega)).grown (gbSetRow _ _ _) (by have := hb1.size; simp; omega) (fun k e => by have := Option.some.inj e; have := hb1.size; omega)

def Stop (p : Prop) : Prop := p
theorem wpList_stop {ops : Array Oper} {rest : List Oper} {o : Oper} {a : Act} {w : World} {Q : Exit → Act → World → Prop} {x y : Operand} (_ : o.op = .store 64 x y) (h : Stop (wpList Try.prog ops Q (o :: rest) a w)) : wpList Try.prog ops Q (o :: rest) a w := h

def lessOf (l m : List (Int × Int)) : List (Int × Int) := if twoOk l m then segsOf (fun k => memS l k && !memS m k) else []

set_option maxHeartbeats 400000 in
theorem less_any (a b : Option Addr) (l m : List (Int × Int)) (ca cb : Nat) (w : World) (ha : SegsAt w a l) (hb : SegsAt w b m) (hl : l.length ≤ maxLen) (hm : m.length ≤ maxLen) :
    Calls Try.prog 29 #[.slice a l.length ca, .slice b m.length cb] w fun e w' =>
      ∃ v, e = .returned (.tuple #[v, .int .i64 (errOf (twoOk l m))]) ∧ OwnSegs w' w.heap.size v (lessOf l m) ∧ Below w.heap.size w w' := by
  have HA : Hid (SegsAt w a l) := ha
  have HB : Hid (SegsAt w b m) := hb
  clear ha hb
  cases hv : twoOk l m
  · go_enter Try.func29, Try.ntmps29
    go_wp2_with fail
    refine (gatherTwo_any a b l m ca cb _ HA.out HB.out hl hm).mono ?_
    rintro e w1 ⟨rfl, hb1⟩
    rw [hv, show errOf false = 1 from rfl]
    have HN : Hid (SetIs (w1.alloc (.cells (setArr fun _ => false) 64)) w1.heap.size (fun _ => false)) := SetIs.new w1
    have HM : Hid (SetIs ((w1.alloc (.cells (setArr fun _ => false) 64)).alloc (.cells (setArr fun _ => false) 64)) (w1.heap.size + 1) (fun _ => false)) := new2 w1
    have HN2 : Hid (SetIs ((w1.alloc (.cells (setArr fun _ => false) 64)).alloc (.cells (setArr fun _ => false) 64)) w1.heap.size (fun _ => false)) := HN.out.alloc _
    have HM2 : Hid (SetIs (((w1.alloc (.cells (setArr fun _ => false) 64)).alloc (.cells (setArr fun _ => false) 64)).setRow w1.heap.size (setArr (setL l m))) (w1.heap.size + 1) (fun _ => false)) := HM.out.rowApart (by omega)
    go_wp2_with (first | (with_reducible refine wpList_alloc64 rfl rfl ?_) | (with_reducible refine wpList_stop rfl ?_))
    unfold Stop
    refine wpList_store64 rfl (.tmp 6) (.tmp 13) rfl w1.heap.size (setL l m) _ rfl rfl HN2.out ?_
    go_wp2_with (with_reducible refine wpList_stop rfl ?_)
    unfold Stop
    refine wpList_store64 rfl (.tmp 7) (.tmp 14) rfl (w1.heap.size + 1) (setM l m) _ rfl rfl HM2.out ?_
    go_wp2_with fail
    go_ret2
    refine ⟨_, rfl, ?_, ?_⟩
    · rw [lessOf, hv]; exact World.ownsRow_nil _ _ _ _
    · exact two_new hb1
  · go_enter Try.func29, Try.ntmps29
    go_wp2_with fail
    refine (gatherTwo_any a b l m ca cb _ HA.out HB.out hl hm).mono ?_
    rintro e w1 ⟨rfl, hb1⟩
    rw [hv, show errOf true = 0 from rfl]
    have HN : Hid (SetIs (w1.alloc (.cells (setArr fun _ => false) 64)) w1.heap.size (fun _ => false)) := SetIs.new w1
    have HM : Hid (SetIs ((w1.alloc (.cells (setArr fun _ => false) 64)).alloc (.cells (setArr fun _ => false) 64)) (w1.heap.size + 1) (fun _ => false)) := new2 w1
    have HN2 : Hid (SetIs ((w1.alloc (.cells (setArr fun _ => false) 64)).alloc (.cells (setArr fun _ => false) 64)) w1.heap.size (fun _ => false)) := HN.out.alloc _
    have HM2 : Hid (SetIs (((w1.alloc (.cells (setArr fun _ => false) 64)).alloc (.cells (setArr fun _ => false) 64)).setRow w1.heap.size (setArr (setL l m))) (w1.heap.size + 1) (fun _ => false)) := HM.out.rowApart (by omega)
    go_wp2_with (first | (with_reducible refine wpList_alloc64 rfl rfl ?_) | (with_reducible refine wpList_stop rfl ?_))
    unfold Stop
    refine wpList_store64 rfl (.tmp 6) (.tmp 13) rfl w1.heap.size (setL l m) _ rfl rfl HN2.out ?_
    go_wp2_with (with_reducible refine wpList_stop rfl ?_)
    unfold Stop
    refine wpList_store64 rfl (.tmp 7) (.tmp 14) rfl (w1.heap.size + 1) (setM l m) _ rfl rfl HM2.out ?_
    go_wp2_with fail
    refine (pick_any 44 #[] #[.pointer (some ⟨w1.heap.size, 0, none⟩), .pointer (some ⟨w1.heap.size + 1, 0, none⟩)] (fun k => setL l m k && !setM l m k) _ Try.call44 (fun k w' hk hb => ?_)).mono ?_
    · exact (less1_any w1.heap.size (w1.heap.size + 1) (setL l m) (setM l m) k w' ((HN2.out.setRow.rowApart (by omega)).below hb) (HM2.out.setRow.below hb) hk).mono fun e w2 h => ⟨h.1, h.2 ▸ nwR w'⟩
    · rintro e w2 ⟨v, rfl, hown, hb2⟩
      have HO : Hid _ := hown
      clear hown
      go_wp2_with fail
      go_ret2
      refine ⟨_, rfl, ?_, ?_⟩
      · have e : lessOf l m = segsOf (fun k => setL l m k && !setM l m k) := by rw [lessOf, setL, setM, hv]; rfl
        rw [e]
        exact ownsRow_base HO.out (by have := hb1.size; simp; omega)
      · exact nwT (two_new hb1) hb2

def bothOf (l m : List (Int × Int)) : List (Int × Int) := if twoOk l m then segsOf (fun k => memS l k && memS m k) else []

set_option maxHeartbeats 400000 in
theorem both_any (a b : Option Addr) (l m : List (Int × Int)) (ca cb : Nat) (w : World) (ha : SegsAt w a l) (hb : SegsAt w b m) (hl : l.length ≤ maxLen) (hm : m.length ≤ maxLen) :
    Calls Try.prog 30 #[.slice a l.length ca, .slice b m.length cb] w fun e w' =>
      ∃ v, e = .returned (.tuple #[v, .int .i64 (errOf (twoOk l m))]) ∧ OwnSegs w' w.heap.size v (bothOf l m) ∧ Below w.heap.size w w' := by
  have HA : Hid (SegsAt w a l) := ha
  have HB : Hid (SegsAt w b m) := hb
  clear ha hb
  cases hv : twoOk l m
  · go_enter Try.func30, Try.ntmps30
    go_wp2_with fail
    refine (gatherTwo_any a b l m ca cb _ HA.out HB.out hl hm).mono ?_
    rintro e w1 ⟨rfl, hb1⟩
    rw [hv, show errOf false = 1 from rfl]
    have HN : Hid (SetIs (w1.alloc (.cells (setArr fun _ => false) 64)) w1.heap.size (fun _ => false)) := SetIs.new w1
    have HM : Hid (SetIs ((w1.alloc (.cells (setArr fun _ => false) 64)).alloc (.cells (setArr fun _ => false) 64)) (w1.heap.size + 1) (fun _ => false)) := new2 w1
    have HN2 : Hid (SetIs ((w1.alloc (.cells (setArr fun _ => false) 64)).alloc (.cells (setArr fun _ => false) 64)) w1.heap.size (fun _ => false)) := HN.out.alloc _
    have HM2 : Hid (SetIs (((w1.alloc (.cells (setArr fun _ => false) 64)).alloc (.cells (setArr fun _ => false) 64)).setRow w1.heap.size (setArr (setL l m))) (w1.heap.size + 1) (fun _ => false)) := HM.out.rowApart (by omega)
    go_wp2_with (first | (with_reducible refine wpList_alloc64 rfl rfl ?_) | (with_reducible refine wpList_stop rfl ?_))
    unfold Stop
    refine wpList_store64 rfl (.tmp 6) (.tmp 13) rfl w1.heap.size (setL l m) _ rfl rfl HN2.out ?_
    go_wp2_with (with_reducible refine wpList_stop rfl ?_)
    unfold Stop
    refine wpList_store64 rfl (.tmp 7) (.tmp 14) rfl (w1.heap.size + 1) (setM l m) _ rfl rfl HM2.out ?_
    go_wp2_with fail
    go_ret2
    refine ⟨_, rfl, ?_, ?_⟩
    · rw [bothOf, hv]; exact World.ownsRow_nil _ _ _ _
    · exact two_new hb1
  · go_enter Try.func30, Try.ntmps30
    go_wp2_with fail
    refine (gatherTwo_any a b l m ca cb _ HA.out HB.out hl hm).mono ?_
    rintro e w1 ⟨rfl, hb1⟩
    rw [hv, show errOf true = 0 from rfl]
    have HN : Hid (SetIs (w1.alloc (.cells (setArr fun _ => false) 64)) w1.heap.size (fun _ => false)) := SetIs.new w1
    have HM : Hid (SetIs ((w1.alloc (.cells (setArr fun _ => false) 64)).alloc (.cells (setArr fun _ => false) 64)) (w1.heap.size + 1) (fun _ => false)) := new2 w1
    have HN2 : Hid (SetIs ((w1.alloc (.cells (setArr fun _ => false) 64)).alloc (.cells (setArr fun _ => false) 64)) w1.heap.size (fun _ => false)) := HN.out.alloc _
    have HM2 : Hid (SetIs (((w1.alloc (.cells (setArr fun _ => false) 64)).alloc (.cells (setArr fun _ => false) 64)).setRow w1.heap.size (setArr (setL l m))) (w1.heap.size + 1) (fun _ => false)) := HM.out.rowApart (by omega)
    go_wp2_with (first | (with_reducible refine wpList_alloc64 rfl rfl ?_) | (with_reducible refine wpList_stop rfl ?_))
    unfold Stop
    refine wpList_store64 rfl (.tmp 6) (.tmp 13) rfl w1.heap.size (setL l m) _ rfl rfl HN2.out ?_
    go_wp2_with (with_reducible refine wpList_stop rfl ?_)
    unfold Stop
    refine wpList_store64 rfl (.tmp 7) (.tmp 14) rfl (w1.heap.size + 1) (setM l m) _ rfl rfl HM2.out ?_
    go_wp2_with fail
    refine (pick_any 45 #[] #[.pointer (some ⟨w1.heap.size, 0, none⟩), .pointer (some ⟨w1.heap.size + 1, 0, none⟩)] (fun k => setL l m k && setM l m k) _ Try.call45 (fun k w' hk hb => ?_)).mono ?_
    · exact (both1_any w1.heap.size (w1.heap.size + 1) (setL l m) (setM l m) k w' ((HN2.out.setRow.rowApart (by omega)).below hb) (HM2.out.setRow.below hb) hk).mono fun e w2 h => ⟨h.1, h.2 ▸ nwR w'⟩
    · rintro e w2 ⟨v, rfl, hown, hb2⟩
      have HO : Hid _ := hown
      clear hown
      go_wp2_with fail
      go_ret2
      refine ⟨_, rfl, ?_, ?_⟩
      · have e : bothOf l m = segsOf (fun k => setL l m k && setM l m k) := by rw [bothOf, setL, setM, hv]; rfl
        rw [e]
        exact ownsRow_base HO.out (by have := hb1.size; simp; omega)
      · exact nwT (two_new hb1) hb2

end Go.Proofs.Ytpkgoagoceddoaa
