/- seg's builder.add and pick, by their contracts. -/
import Derived.Test.YtpkgoagoceddoaaBuild
namespace Go.Proofs.Ytpkgoagoceddoaa
open Go.RowKit

theorem BuildIs.below {w w' : World} {g : Nat} {d : List (Int × Int)} {a n : Int} {ao : Option Addr} {cap : Nat} (h : BuildIs w g d a n ao cap) (hb : Below w.heap.size w w') : BuildIs w' g d a n ao cap :=
  ⟨(hb.block g (Array.getElem?_eq_some_iff.1 h.blk).1).trans h.blk, h.own.kept (gbOf hb none) (by cases hv : (Value.slice ao d.length cap).ownBlock <;> simp)⟩

theorem set2 {w : World} {g : Nat} {x y z x' y' : Value} (h : w.heap[g]? = some (.cells #[x, y, z] 72 (0, 0))) :
    ((w.setCell ⟨g, 0, none⟩ x').setCell ⟨g, 1, none⟩ y').heap[g]? = some (.cells #[x', y', z] 72 (0, 0)) := by
  have h2 := heap_setCell_same _ g 0 _ 72 x' h
  have h3 := heap_setCell_same _ g 1 _ 72 y' h2
  rw [h3]
  simp

theorem BuildIs.set2 {w : World} {g : Nat} {d : List (Int × Int)} {a n a' n' : Int} {ao : Option Addr} {cap : Nat} (h : BuildIs w g d a n ao cap) :
    BuildIs ((w.setCell ⟨g, 0, none⟩ (.int .i64 a')).setCell ⟨g, 1, none⟩ (.int .i64 n')) g d a' n' ao cap ∧ Below g w ((w.setCell ⟨g, 0, none⟩ (.int .i64 a')).setCell ⟨g, 1, none⟩ (.int .i64 n')) :=
  ⟨⟨Ytpkgoagoceddoaa.set2 h.blk, own_set_below (own_set_below h.own (Nat.lt_succ_self g) _) (Nat.lt_succ_self g) _⟩,
    ((Below.refl g w).setCell (p := ⟨g, 0, none⟩) (Nat.le_refl _) _).setCell (p := ⟨g, 1, none⟩) (Nat.le_refl _) _⟩

theorem BuildIs.set1 {w : World} {g : Nat} {d : List (Int × Int)} {a n n' : Int} {ao : Option Addr} {cap : Nat} (h : BuildIs w g d a n ao cap) :
    BuildIs (w.setCell ⟨g, 1, none⟩ (.int .i64 n')) g d a n' ao cap ∧ Below g w (w.setCell ⟨g, 1, none⟩ (.int .i64 n')) := by
  refine ⟨⟨?_, own_set_below h.own (Nat.lt_succ_self g) _⟩, (Below.refl g w).setCell (p := ⟨g, 1, none⟩) (Nat.le_refl _) _⟩
  rw [heap_setCell_same _ g 1 _ 72 _ h.blk]
  simp

theorem BuildIs.lt {w : World} {g : Nat} {d : List (Int × Int)} {a n : Int} {ao : Option Addr} {cap : Nat} (h : BuildIs w g d a n ao cap) : g < w.heap.size := (Array.getElem?_eq_some_iff.1 h.blk).1

set_option maxHeartbeats 400000 in
theorem finish_no (g : Nat) (d : List (Int × Int)) (a n : Int) (ao : Option Addr) (cap : Nat) (w : World) (hb : BuildIs w g d a n ao cap) (hn : n ≤ 0) :
    Calls Try.prog 47 #[.pointer (some ⟨g, 0, none⟩)] w fun e w' =>
      e = .returned (.tuple #[]) ∧ (∃ ao' cap', BuildIs w' g d 0 0 ao' cap') ∧ Below g w w' := by
  obtain ⟨c0, c1, c2, cf⟩ := blk_cells hb.blk
  have hn' : ¬ 0 < n := by omega
  have hgl := hb.lt
  have H := hb.set2 (a' := 0) (n' := 0)
  have HH : Hid _ := H
  clear H hb
  go_enter Try.func47, Try.ntmps47
  go_wp2
  go_end0
  exact ⟨rfl, ⟨_, _, HH.out.1⟩, HH.out.2⟩

abbrev BSt := List (Int × Int) × Int × Int
def bfin (st : BSt) : List (Int × Int) := if 0 < st.2.2 then st.1 ++ [(st.2.1, st.2.2)] else st.1
def bstep (st : BSt) (k : Int) : BSt := if 0 < st.2.2 ∧ k = st.2.1 + st.2.2 then (st.1, st.2.1, st.2.2 + 1) else (bfin st, k, 1)
def BldIs (w : World) (g : Nat) (st : BSt) : Prop := ∃ ao cap, BuildIs w g st.1 st.2.1 st.2.2 ao cap

theorem finish_any (g : Nat) (st : BSt) (w : World) (hb : BldIs w g st) (hd : st.1.length ≤ 64) :
    Calls Try.prog 47 #[.pointer (some ⟨g, 0, none⟩)] w fun e w' => e = .returned (.tuple #[]) ∧ BldIs w' g (bfin st, 0, 0) ∧ Below g w w' := by
  obtain ⟨ao, cap, hb⟩ := hb
  unfold bfin
  split
  · exact finish_yes g _ _ _ ao cap w hb (by assumption) hd
  · exact finish_no g _ _ _ ao cap w hb (by omega)

set_option maxHeartbeats 400000 in
theorem badd_any (g : Nat) (st : BSt) (k : Int) (w : World) (hb : BldIs w g st) (hd : st.1.length ≤ 64) (h0 : 0 ≤ st.2.1) (h1 : st.2.1 ≤ 64) (h2 : 0 ≤ st.2.2) (h3 : st.2.2 ≤ 64) :
    Calls Try.prog 46 #[.pointer (some ⟨g, 0, none⟩), .int .i64 k] w fun e w' => e = .returned (.tuple #[]) ∧ BldIs w' g (bstep st k) ∧ Below g w w' := by
  obtain ⟨d, a, n⟩ := st
  simp only at hd h0 h1 h2 h3
  obtain ⟨ao, cap, hb⟩ := hb
  simp only at hb
  obtain ⟨c0, c1, c2, cf⟩ := blk_cells hb.blk
  have hgl := hb.lt
  have HB : Hid _ := hb
  clear hb
  by_cases hn : 0 < n
  · by_cases hk : k = a + n
    · have hk' : (k == a + n) = true := by simpa using hk
      have HK : Hid (k = a + n) := hk
      clear hk
      go_enter Try.func46, Try.ntmps46
      go_wp2_with fail
      refine (end_any _ _ _ (by omega) (by omega) (by omega) (by omega)).mono ?_
      rintro e w1 ⟨rfl, hb1⟩
      obtain ⟨d0, d1, d2, df⟩ := blk_cells (HB.out.below hb1).blk
      go_wp2_with fail
      refine bodyPost_ret (results_none rfl _ _ _) rfl ?_
      have H := (HB.out.below hb1).set1 (n' := n + 1)
      exact ⟨rfl, by rw [bstep, if_pos ⟨hn, HK.out⟩]; exact ⟨_, _, H.1⟩, (hb1.mono (Nat.le_of_lt hgl)).trans H.2⟩
    · have hk' : (k == a + n) = false := by simpa using hk
      go_enter Try.func46, Try.ntmps46
      go_wp2_with fail
      refine (end_any _ _ _ (by omega) (by omega) (by omega) (by omega)).mono ?_
      rintro e w1 ⟨rfl, hb1⟩
      have hB1 := HB.out.below hb1
      have HB1 : Hid _ := hB1
      clear hB1
      go_wp2_with fail
      refine (finish_any g (d, a, n) _ ⟨_, _, HB1.out⟩ hd).mono ?_
      rintro e w2 ⟨rfl, ⟨ao2, cap2, hB2⟩, hb2⟩
      obtain ⟨d0, d1, d2, df⟩ := blk_cells hB2.blk
      have H := hB2.set2 (a' := k) (n' := 1)
      have HH : Hid _ := H
      clear H hB2
      go_wp2_with fail
      go_end0
      exact ⟨rfl, by rw [bstep, if_neg (fun h => hk h.2)]; exact ⟨_, _, HH.out.1⟩, ((hb1.mono (Nat.le_of_lt hgl)).trans hb2).trans HH.out.2⟩
  · go_enter Try.func46, Try.ntmps46
    go_wp2_with fail
    refine (finish_any g (d, a, n) _ ⟨_, _, HB.out⟩ hd).mono ?_
    rintro e w2 ⟨rfl, ⟨ao2, cap2, hB2⟩, hb2⟩
    obtain ⟨d0, d1, d2, df⟩ := blk_cells hB2.blk
    have H := hB2.set2 (a' := k) (n' := 1)
    have HH : Hid _ := H
    clear H hB2
    go_wp2_with fail
    go_end0
    exact ⟨rfl, by rw [bstep, if_neg (fun h => by have := h.1; simp only at this; omega)]; exact ⟨_, _, HH.out.1⟩, hb2.trans HH.out.2⟩

def bstate (p : Nat → Bool) : Nat → BSt
  | 0 => ([], 0, 0)
  | k + 1 => if p k then bstep (bstate p k) k else bstate p k

def segsOf (p : Nat → Bool) : List (Int × Int) := bfin (bstate p 64)

theorem bstate_bd (p : Nat → Bool) : ∀ k : Nat, (bstate p k).1.length ≤ k ∧ 0 ≤ (bstate p k).2.1 ∧ (bstate p k).2.1 ≤ k ∧ 0 ≤ (bstate p k).2.2 ∧ (bstate p k).2.1 + (bstate p k).2.2 ≤ k
      ∧ (0 < (bstate p k).2.2 → (bstate p k).1.length + 1 ≤ k)
  | 0 => by simp [bstate]
  | k + 1 => by
    have ih := bstate_bd p k
    rw [bstate]
    split
    · rw [bstep]
      split
      · refine ⟨?_, ?_, ?_, ?_, ?_, ?_⟩ <;> simp only <;> omega
      · unfold bfin
        split
        · refine ⟨?_, ?_, ?_, ?_, ?_, ?_⟩ <;> simp <;> omega
        · refine ⟨?_, ?_, ?_, ?_, ?_, ?_⟩ <;> simp only <;> omega
    · omega

theorem bstate_miss {p : Nat → Bool} {k : Nat} (h : p k = false) : bstate p (k + 1) = bstate p k := by rw [bstate, h]; rfl
theorem bstate_hit {p : Nat → Bool} {k : Nat} (h : p k = true) : bstate p (k + 1) = bstep (bstate p k) k := by rw [bstate, h]; rfl

theorem ownsRow_base {w : World} {base base' : Nat} {e : TypeId} {size : Nat} {v : Value} {n : Nat} {xs : List Value} (h : w.ownsRow base e size v n xs) (hb : base' ≤ base) : w.ownsRow base' e size v n xs := by
  refine ⟨h.1, ?_⟩
  rcases h.2 with hn | ⟨r, cap, cur, hv, hbb, rest⟩
  · exact .inl hn
  · exact .inr ⟨r, cap, cur, hv, by omega, rest⟩

theorem BldIs.start (w : World) : BldIs (w.alloc (.cells #[.int .i64 0, .int .i64 0, .slice none 0 0] 72)) w.heap.size ([], 0, 0) :=
  ⟨none, 0, ⟨heap_alloc_new _ _, World.ownsRow_nil _ _ _ _⟩⟩
theorem BldIs.below {w w' : World} {g : Nat} {st : BSt} (h : BldIs w g st) (hb : Below w.heap.size w w') : BldIs w' g st := by
  obtain ⟨ao, cap, h⟩ := h
  exact ⟨ao, cap, h.below hb⟩

set_option maxHeartbeats 400000 in
theorem pick_any (K : Nat) (bs cs : Array Value) (p : Nat → Bool) (w : World) (hcf : ∀ args w', (callFunc K args).run Try.prog w' = .ok (.enter K args) w')
    (hf : ∀ (k : Nat) (w' : World), k < 64 → Below w.heap.size w w' → Calls Try.prog K (bs.push (.int .i64 k) ++ cs) w' fun e w'' => e = .returned (.bool (p k)) ∧ Below w'.heap.size w' w'') :
    Calls Try.prog 39 #[.func (.func K) bs cs] w fun e w' =>
      ∃ v, e = .returned v ∧ w'.ownsRow w.heap.size 57 2 v (segsOf p).length (flat (segsOf p)) ∧ Below w.heap.size w w' := by
  have HF : Hid _ := hf
  clear hf
  go_enter Try.func39, Try.ntmps39
  go_wp2
  go_loopw [5] (fun i wr => ∃ (k : Nat), k ≤ 64 ∧ i = .int .i64 k ∧ BldIs wr w.heap.size (bstate p k) ∧ Below w.heap.size w wr)
    (fun i _ => 64 - (intOf i).toNat)
  case atStart => exact ⟨0, by omega, rfl, BldIs.start w, nwA (nwR w) _⟩
  case round =>
    obtain ⟨k, hk, rfl, hB, hb⟩ := hrel
    have HB : Hid (BldIs wr w.heap.size (bstate p k)) := hB
    clear hB
    by_cases hlt : (k : Int) < 64
    · cases hp : p k
      · go_wp2_with fail
        refine (HF.out k _ (by omega) hb).mono ?_
        rintro e w1 ⟨rfl, hb1⟩
        rw [hp]
        go_wp2_with fail
        go_roundw
        case rel => exact ⟨k + 1, by omega, by go_num, by rw [bstate_miss hp]; exact HB.out.below hb1, nwT hb hb1⟩
        case measure => simp [intOf]; omega
      · have hbd := bstate_bd p k
        go_wp2_with fail
        refine (HF.out k _ (by omega) hb).mono ?_
        rintro e w1 ⟨rfl, hb1⟩
        rw [hp]
        go_wp2_with fail
        refine (badd_any w.heap.size (bstate p k) k _ (HB.out.below hb1) (by omega) (by omega) (by omega) (by omega) (by omega)).mono ?_
        rintro e w2 ⟨rfl, hB2, hb2⟩
        have HB2 : Hid (BldIs w2 w.heap.size (bstate p (k + 1))) := by rw [bstate_hit hp]; exact hB2
        clear hB2
        go_wp2_with fail
        go_roundw
        case rel => exact ⟨k + 1, by omega, by go_num, HB2.out, (nwT hb hb1).trans hb2⟩
        case measure => simp [intOf]; omega
    · have hk64 : k = 64 := by omega
      subst hk64
      have hbd := bstate_bd p 64
      go_wp2_with fail
      refine (finish_any w.heap.size (bstate p 64) _ HB.out (by omega)).mono ?_
      rintro e w1 ⟨rfl, ⟨ao, cap, hB1⟩, hb1⟩
      obtain ⟨c0, c1, c2, cf⟩ := blk_cells hB1.blk
      have HB1 : Hid _ := hB1
      clear hB1 hbd
      go_wp2_with fail
      go_ret
      exact ⟨_, rfl, ownsRow_base HB1.out.own (by omega), hb.trans hb1⟩

end Go.Proofs.Ytpkgoagoceddoaa
