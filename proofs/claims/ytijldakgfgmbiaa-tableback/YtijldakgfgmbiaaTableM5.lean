/- Laid together: Add, Pag, Pagt, Pagl, Pagq. -/
import Derived.Test.YtijldakgfgmbiaaTableM4
/- One sector more in a table. -/
namespace Go.Proofs.Ytijldakgfgmbiaa
open Go.RowKit

theorem RngL.snoc {l : List EntD} {x : EntD} (h : RngL l) (hl : l.length ≤ 900) (hx : RngE x) : RngL (l ++ [x]) := by
  refine ⟨by rw [List.length_append]; simp; omega, fun i hi => ?_⟩
  rw [List.length_append] at hi
  simp only [List.length_cons, List.length_nil] at hi
  by_cases e : i < l.length
  · have := h.rng i e
    simpa [List.getD, List.getElem?_append_left e] using this
  · obtain rfl : i = l.length := by omega
    simpa [List.getD] using hx
def AddR (t : TabD) (n d a : Int) (base : Nat) (e : Ending) (w' : World) : Prop :=
  ((tokB t = false ∨ tokB (moreT t [newE n d a]) = false) ∧ e = .returned (.tuple #[tabZ, .int .i64 1])) ∨
  ((tokB t = true ∧ tokB (moreT t [newE n d a]) = true) ∧ ∃ v, e = .returned (.tuple #[v, .int .i64 0]) ∧ OwnTab w' base v ⟨t.dev, t.size, joinA t.list (newE n d a)⟩)
set_option maxRecDepth 100000 in
set_option maxHeartbeats 8000000 in
theorem add_any (v : Value) (t : TabD) (n d a : Int) (w : World) (hv : TabVal w v t) (hr : RngL t.list) (hl : t.list.length ≤ 900) (hn : Rng n) (hd : Rng d) (ha : Rng a) :
    Calls Try.prog 13 #[v, .int .i64 n, .agg #[.int .i64 d, .int .i64 a]] w fun e w' => AddR t n d a w.heap.size e w' ∧ Below w.heap.size w w' := by
  have HV : Hid (∀ w', Below w.heap.size w w' → TabVal w' v t) := fun w' h => hv.below h
  have HRR : Hid (RngL (t.list ++ [newE n d a])) := hr.snoc hl ⟨hn, ⟨by simp [newE], by simp [newE]⟩, hd, ha, by simp [newE], by simp [newE]⟩
  obtain ⟨al, c, rfl, hx, hnn⟩ := hv
  obtain ⟨W0, hW0⟩ : ∃ W0, W0 = ((w.alloc (.cells #[.int .i64 t.dev, .int .i64 t.size, .slice al t.list.length c] 24)).alloc (.cells #[.int .i64 d, .int .i64 a] 33)).alloc (.cells #[.int .i64 0, .int .i64 0, .slice none 0 0] 24) := ⟨_, rfl⟩
  have hb0 : Below w.heap.size w W0 := by rw [hW0]; exact nwA (nwA (nwA (nwR w) _) _) _
  have HSZ : Hid (W0.heap.size = w.heap.size + 3) := by show _ = _; rw [hW0]; simp
  have HB0 : Hid (Below w.heap.size w W0) := hb0
  have hz0 : W0.heap[w.heap.size + 1 + 1]? = some (.cells #[.int .i64 0, .int .i64 0, .slice none 0 0] 24 (0, 0)) := by
    rw [hW0]
    have := heap_alloc_new ((w.alloc (.cells #[.int .i64 t.dev, .int .i64 t.size, .slice al t.list.length c] 24)).alloc (.cells #[.int .i64 d, .int .i64 a] 33)) (.cells #[.int .i64 0, .int .i64 0, .slice none 0 0] 24)
    simpa using this
  have HZ0 : Hid (∀ w', Below W0.heap.size W0 w' → w'.heap[w.heap.size + 1 + 1]? = some (.cells #[.int .i64 0, .int .i64 0, .slice none 0 0] 24 (0, 0))) := fun w' h => (h.block _ (Array.getElem?_eq_some_iff.1 hz0).1).trans hz0
  obtain ⟨W1, hW1⟩ : ∃ W1, W1 = W0.alloc (.cells #[.int .i64 n, .int .i64 1, .int .i64 d, .int .i64 a, .int .i64 0] 49) := ⟨_, rfl⟩
  have hb01 : Below W0.heap.size W0 W1 := by rw [hW1]; exact nwA (nwR W0) _
  have HB01 : Hid (Below W0.heap.size W0 W1) := hb01
  have hE1 : EntsAt W1 (some ⟨W0.heap.size, 0, none⟩) [newE n d a] := by rw [hW1]; exact ents_one W0 (newE n d a) 49
  have HO : Hid (Calls Try.prog 37 #[.agg #[.int .i64 t.dev, .int .i64 t.size, .slice al t.list.length c], .slice (some ⟨w.heap.size + 1 + 1 + 1, 0, none⟩) 1 1] W1 fun e w' => OpenR t [newE n d a] W1.heap.size e w' ∧ Below W1.heap.size W1 w') := by
    rw [show w.heap.size + 1 + 1 + 1 = W0.heap.size from HSZ.out.symm]
    exact open_any _ t _ 1 [newE n d a] W1 (HV.out W1 (nwT hb0 hb01)) hE1 (fun e => by cases e) HRR.out
  clear hx hr hnn hb0 hz0 HV hb01 hE1 hn hd ha hl
  go_enter Try.func13, Try.ntmps13
  go_wp2_with fail
  rw [← hW0, ← hW1]
  clear hW0 hW1
  refine HO.out.mono ?_
  rintro e w1 ⟨hor, hb1⟩
  have HB1 : Hid (Below W0.heap.size W0 w1) := nwT HB01.out hb1
  clear hb1 HO
  rcases hor with ⟨ht, rfl⟩ | ⟨⟨ht, ht2⟩, g, rfl, hg, u, hs, ho⟩
  · have HT : Hid (tokB t = false ∨ tokB (moreT t [newE n d a]) = false) := ht
    obtain ⟨z0, z1, z2, zf⟩ := three (HZ0.out _ HB1.out)
    clear ht
    go_wp2_with fail
    refine bodyPost_ret (v := .tuple #[.agg #[.int .i64 0, .int .i64 0, .slice none 0 0], .int .i64 1]) (by simp [results, Try.results13, go_sem, z0, z1, z2]) rfl ⟨.inl ⟨HT.out, rfl⟩, ?_⟩
    exact three_below (nwT HB0.out HB1.out) (by omega)
  · have HT : Hid (tokB t = true ∧ tokB (moreT t [newE n d a]) = true) := ⟨ht, ht2⟩
    have hT := tok_iff.1 ht2
    obtain ⟨av, cv, rfl, hxe, _⟩ := ho.at
    have HG : Hid (W1.heap.size ≤ g) := hg
    have HJL : Hid (Calls Try.prog 38 #[.pointer (some ⟨g, 0, none⟩)] w1 fun e w' => e = .returned (.tuple #[]) ∧ (∃ v, ShAt w' g v t.dev t.size ∧ OwnEnts w' (g + 1) v (joinA t.list (newE n d a))) ∧ Below W0.heap.size W0 w') := joinLast_any W0 g av cv t.dev t.size t.list (newE n d a) w1 HB1.out (Nat.le_trans HB01.out.size hg) hs ho (by have := (tok_iff.1 ht).len; omega) (fun i hi => hT.fair hi)
    clear ht ht2 hT hxe hs ho hg
    go_wp2_with fail
    refine HJL.out.mono ?_
    rintro e w2 ⟨rfl, ⟨v2, hs2, ho2⟩, hb2⟩
    have HB2 : Hid (Below W0.heap.size W0 w2) := hb2
    have HO2 : Hid (OwnEnts w2 (g + 1) v2 (joinA t.list (newE n d a))) := ho2
    obtain ⟨a2, c2, rfl, _⟩ := ho2.at
    have HTO : Hid (Calls Try.prog 39 #[.pointer (some ⟨g, 0, none⟩)] w2 fun e w' => e = .returned (.agg #[.int .i64 t.dev, .int .i64 t.size, .slice a2 (joinA t.list (newE n d a)).length c2]) ∧ Below w2.heap.size w2 w') := tableOf_any g a2 _ c2 t.dev t.size w2 hs2
    obtain ⟨N, hN⟩ : ∃ N, N = (joinA t.list (newE n d a)).length := ⟨_, rfl⟩
    rw [← hN] at HO2 HTO
    clear hs2 ho2 hb2 HJL hN
    go_wp2_with fail
    refine HTO.out.mono ?_
    rintro e w3 ⟨rfl, hb3⟩
    have HB3 : Hid (Below W0.heap.size W0 w3) := nwT HB2.out hb3
    have HO3 : Hid (OwnEnts w3 (g + 1) (.slice a2 N c2) (joinA t.list (newE n d a))) := HO2.out.below hb3
    obtain ⟨z0, z1, z2, zf⟩ := three (HZ0.out _ HB3.out)
    clear hb3 HTO
    go_wp2_with fail
    refine bodyPost_ret (v := .tuple #[.agg #[.int .i64 t.dev, .int .i64 t.size, .slice a2 N c2], .int .i64 0]) (by simp [results, Try.results13, go_sem, z0, z1, z2]) rfl ⟨.inr ⟨HT.out, _, rfl, _, rfl, ?_⟩, ?_⟩
    · have h1 := HSZ.out
      have h2 := HG.out
      have h3 := HB01.out.size
      exact own_le (rowset (rowset (rowset HO3.out 0 (g := w.heap.size + 1 + 1) (by omega) _) 1 (g := w.heap.size + 1 + 1) (by omega) _) 2 (g := w.heap.size + 1 + 1) (by omega) _) (by omega)
    · exact three_below (nwT HB0.out HB3.out) (by omega)

end Go.Proofs.Ytijldakgfgmbiaa

/- The page's small functions: numbers, places; entries copied, compared, written over. -/
namespace Go.Proofs.Ytijldakgfgmbiaa
open Go.RowKit

def betB (x lo hi : Int) : Bool := decide (lo ≤ x) && decide (x ≤ hi)
def numB (n most : Int) : Bool := decide (0 ≤ n) && decide (n ≤ most)
set_option maxRecDepth 100000 in
set_option maxHeartbeats 400000 in
theorem between_any (x lo hi : Int) (w : World) : Calls Try.prog 23 #[.int .i64 x, .int .i64 lo, .int .i64 hi] w fun e w' => e = .returned (.bool (betB x lo hi)) ∧ w' = w := by
  unfold betB
  by_cases c1 : lo ≤ x
  · go_enter Try.func23, Try.ntmps23
    go_wp2
    go_ret
    exact ⟨by simp [c1], rfl⟩
  · go_enter Try.func23, Try.ntmps23
    go_wp2
    go_ret
    exact ⟨by simp; omega, rfl⟩
set_option maxRecDepth 100000 in
set_option maxHeartbeats 400000 in
theorem num2_any (n most : Int) (w : World) : Calls Try.prog 32 #[.int .i64 n, .int .i64 most] w fun e w' => e = .returned (.bool (numB n most)) ∧ w' = w := by
  unfold numB
  by_cases c1 : 0 ≤ n
  · go_enter Try.func32, Try.ntmps32
    go_wp2
    go_ret
    exact ⟨by simp [c1], rfl⟩
  · go_enter Try.func32, Try.ntmps32
    go_wp2
    go_ret
    exact ⟨by simp; omega, rfl⟩
set_option maxRecDepth 100000 in
theorem errnum_any (n : Int) (w : World) : Calls Try.prog 14 #[.int .i64 n] w fun e w' => e = .returned (.int .i64 n) ∧ w' = w := by
  go_enter Try.func14, Try.ntmps14
  go_wp2
  go_ret
  exact ⟨rfl, rfl⟩
def withinN (i : Int) (k : Nat) : Nat := (i % 18446744073709551616 % (k : Int)).toNat
set_option maxRecDepth 100000 in
theorem within_any (i : Int) (k : Nat) (hk0 : 0 < k) (hk : k ≤ 1000) (w : World) :
    Calls Try.prog 12 #[.int .i64 i, .int .i64 k] w fun e w' => e = .returned (.int .i64 (withinN i k)) ∧ w' = w := by
  have e1 : IntKind.u64.wrap (k : Int) = (k : Int) := by rw [IntKind.wrap_u64]; omega
  have e2 : ¬ ((k : Int) = 0) := by omega
  go_enter Try.func12, Try.ntmps12
  go_wp2
  go_ret
  refine ⟨ret_int ?_, rfl⟩
  unfold withinN
  rw [IntKind.wrap_u64, Int.tmod_eq_emod_of_nonneg (by omega)]
  unfold wrap64
  have h1 := Int.emod_nonneg (i % 18446744073709551616) (show (k : Int) ≠ 0 by omega)
  have h2 := Int.emod_lt_of_pos (i % 18446744073709551616) (show (0 : Int) < (k : Int) by omega)
  omega

def placeB (dev d a m : Int) : Bool := betB d 1 40 && ((d != dev) && (decide (0 ≤ a) && (decide (1 ≤ m) && (decide (m ≤ 64) && decide (a ≤ 64 - m)))))
set_option maxRecDepth 100000 in
set_option maxHeartbeats 4000000 in
theorem rplace_any (dev d a m : Int) (w : World) : Calls Try.prog 25 #[.int .i64 dev, .agg #[.int .i64 d, .int .i64 a], .int .i64 m] w fun e w' => e = .returned (.bool (placeB dev d a m)) ∧ Below w.heap.size w w' := by
  obtain ⟨W0, hW0⟩ : ∃ W0, W0 = w.alloc (.cells #[.int .i64 d, .int .i64 a] 33) := ⟨_, rfl⟩
  have HB0 : Hid (Below w.heap.size w W0) := by rw [hW0]; exact nwA (nwR w) _
  have HX0 : Hid (W0.heap[w.heap.size]? = some (.cells #[.int .i64 d, .int .i64 a] 33 (0, 0))) := by rw [hW0]; exact heap_alloc_new w _
  have HB : Hid (Calls Try.prog 23 #[.int .i64 d, .int .i64 1, .int .i64 40] W0 fun e w' => e = .returned (.bool (betB d 1 40)) ∧ w' = W0) := between_any d 1 40 W0
  have HR : Hid (∀ p1 p2 p3 p4 p5 p6, betB d 1 40 = p1 → (d != dev) = p2 → decide (0 ≤ a) = p3 → decide (1 ≤ m) = p4 → decide (m ≤ 64) = p5 → decide (a ≤ 64 - m) = p6 → placeB dev d a m = (p1 && (p2 && (p3 && (p4 && (p5 && p6)))))) := fun p1 p2 p3 p4 p5 p6 h1 h2 h3 h4 h5 h6 => by subst h1; subst h2; subst h3; subst h4; subst h5; subst h6; rfl
  generalize placeB dev d a m = res at HR ⊢
  generalize betB d 1 40 = p1 at HB HR
  go_enter Try.func25, Try.ntmps25
  go_wp2_with fail
  rw [← hW0]
  clear hW0
  refine HB.out.mono ?_
  rintro e w1 ⟨rfl, rfl⟩
  rename World => w1
  obtain ⟨x0, x1, _⟩ := two HX0.out
  clear HB
  cases p1
  case false =>
    have HQ : Hid (res = false) := by show _ = _; rw [HR.out false _ _ _ _ _ rfl rfl rfl rfl rfl rfl]; rfl
    go_wp2_with fail
    go_ret
    exact ⟨by rw [HQ.out]; rfl, HB0.out⟩
  case true =>
  by_cases h2 : d = dev
  · have h2b : (d != dev) = false := by simp [h2]
    have HQ : Hid (res = false) := by show _ = _; rw [HR.out true false _ _ _ _ rfl h2b rfl rfl rfl rfl]; rfl
    clear h2 HR
    go_wp2_with fail
    go_ret
    exact ⟨by rw [HQ.out]; rfl, HB0.out⟩
  have h2b : (d != dev) = true := by simp [h2]
  clear h2
  by_cases h3 : 0 ≤ a
  case neg =>
    have HQ : Hid (res = false) := by show _ = _; rw [HR.out true true false _ _ _ rfl h2b (decide_eq_false h3) rfl rfl rfl]; rfl
    have h3' : a < 0 := by omega
    clear h3 HR
    go_wp2_with fail
    go_ret
    exact ⟨by rw [HQ.out]; rfl, HB0.out⟩
  by_cases h4 : 1 ≤ m
  case neg =>
    have HQ : Hid (res = false) := by show _ = _; rw [HR.out true true true false _ _ rfl h2b (decide_eq_true h3) (decide_eq_false h4) rfl rfl]; rfl
    have h4' : m < 1 := by omega
    clear h4 HR
    go_wp2_with fail
    go_ret
    exact ⟨by rw [HQ.out]; rfl, HB0.out⟩
  by_cases h5 : m ≤ 64
  case neg =>
    have HQ : Hid (res = false) := by show _ = _; rw [HR.out true true true true false _ rfl h2b (decide_eq_true h3) (decide_eq_true h4) (decide_eq_false h5) rfl]; rfl
    have h5' : 64 < m := by omega
    clear h5 HR
    go_wp2_with fail
    go_ret
    exact ⟨by rw [HQ.out]; rfl, HB0.out⟩
  have e1 : IntKind.i64.wrap (64 - m) = 64 - m := wrap_i (by omega) (by omega)
  have HQ : Hid (res = decide (a ≤ 64 - m)) := by show _ = _; rw [HR.out true true true true true _ rfl h2b (decide_eq_true h3) (decide_eq_true h4) (decide_eq_true h5) rfl]; rfl
  clear HR
  go_wp2_with fail
  go_ret
  exact ⟨by rw [HQ.out]; rfl, HB0.out⟩

set_option maxRecDepth 100000 in
set_option maxHeartbeats 2000000 in
theorem copyEnts_any (a : Option Addr) (c : Nat) (l : List EntD) (w : World) (hx : EntsAt w a l) (hl : l.length ≤ 1000) :
    Calls Try.prog 22 #[.slice a l.length c] w fun e w' => (∃ v, e = .returned v ∧ OwnEnts w' w.heap.size v l) ∧ Below w.heap.size w w' := by
  have HX : Hid (∀ w', Below w.heap.size w w' → EntsAt w' a l) := fun w' h => hx.below h
  clear hx
  obtain ⟨i0, hi, hz0, hz1, hz2⟩ := info_parts Try.info49
  go_enter Try.func22, Try.ntmps22
  go_wp2_with fail
  go_loopw [3, 4] (fun v i wr => ∃ (k : Nat), k ≤ l.length ∧ i = .int .i64 k ∧ Hid (OwnEnts wr w.heap.size v (l.take k)) ∧ Below w.heap.size w wr)
    (fun _ i _ => l.length - (intOf i).toNat)
  case atStart => exact ⟨0, by omega, rfl, OwnEnts.nil _ _, nwR w⟩
  case round =>
    obtain ⟨k, hk, rfl, HO, hb⟩ := hrel
    by_cases hkl : k < l.length
    case neg =>
      have hkli : ¬ (k : Int) < (l.length : Int) := by omega
      have HZ : Hid (OwnEnts wr w.heap.size u3 l) := by
        have := HO.out
        rw [List.take_of_length_le (by omega)] at this
        exact this
      obtain ⟨_, _, rfl, _⟩ := HZ.out.at
      go_wp2_with fail
      go_ret
      exact ⟨⟨_, rfl, HZ.out⟩, hb⟩
    case pos =>
    have hkli : (k : Int) < (l.length : Int) := by omega
    obtain ⟨b, o, rfl, hE⟩ := (HX.out wr hb).ent hkl
    have HS : Hid (l.take (k + 1) = l.take k ++ [l.getD k EZ]) := take_snoc hkl
    have hlen : (l.take k).length ≤ k := by rw [List.length_take]; omega
    generalize l.getD k EZ = y at hE HS
    obtain ⟨c0, c1, c2, c3, c4⟩ := hE
    have HO4 : Hid (OwnEnts (wr.alloc (.cells #[.int .i64 y.frm, .int .i64 y.len, .int .i64 y.dev, .int .i64 y.tgt, .int .i64 y.stale] 49)) w.heap.size u3 (l.take k)) := HO.out.below (nwA (nwR wr) _)
    have hb4 : Below w.heap.size w (wr.alloc (.cells #[.int .i64 y.frm, .int .i64 y.len, .int .i64 y.dev, .int .i64 y.tgt, .int .i64 y.stale] 49)) := nwA hb _
    go_wp2_with (at_builtin; refine wpList_append_ents _ rfl (.tmp 11) (.tmp 16) 22 rfl w.heap.size i0 _ Try.underlying22 hi hz0 hz1 hz2 rfl u3 (l.take k) rfl HO4.out (some ⟨wr.heap.size, 0, none⟩) 1 [y] rfl (ents_one wr y 49) (fun e => by cases e) (by simp only [List.length_cons, List.length_nil]; omega) hb4.size ?_; intro v' w5 hown hgrow; refine unstop ?_)
    unfold Stop
    have HB5 : Hid (Below w.heap.size w w5) := hb4.grown hgrow hb4.size (fun q e => (World.ownsRow.lt HO4.out q e).1)
    have HO5 : Hid (OwnEnts w5 w.heap.size v' (l.take (k + 1))) := by
      show OwnEnts _ _ _ _
      rw [HS.out]; exact hown
    clear hown hgrow hb4 c0 c1 c2 c3 c4
    go_wp2_with fail
    go_roundw
    case rel => exact ⟨k + 1, by omega, by go_num, HO5, HB5.out⟩
    case measure => simp [intOf]; omega

theorem three_at (w : World) (a b c : Obj) : (((w.alloc a).alloc b).alloc c).heap[w.heap.size]? = some a ∧ (((w.alloc a).alloc b).alloc c).heap[w.heap.size + 1]? = some b ∧ (((w.alloc a).alloc b).alloc c).heap[w.heap.size + 1 + 1]? = some c := by
  refine ⟨?_, ?_, ?_⟩
  · rw [Lib.alloc_old _ _ _ (by simp; omega), Lib.alloc_old _ _ _ (by simp)]
    exact heap_alloc_new w a
  · rw [Lib.alloc_old _ _ _ (by simp)]
    have := heap_alloc_new (w.alloc a) b
    simpa using this
  · have := heap_alloc_new ((w.alloc a).alloc b) c
    simpa using this
set_option maxRecDepth 100000 in
set_option maxHeartbeats 4000000 in
theorem copyTab_any (v : Value) (t : TabD) (w : World) (hv : TabVal w v t) (hl : t.list.length ≤ 1000) :
    Calls Try.prog 9 #[v] w fun e w' => (∃ u, e = .returned u ∧ OwnTab w' w.heap.size u t) ∧ Below w.heap.size w w' := by
  obtain ⟨a, c, rfl, hx, hn⟩ := hv
  obtain ⟨W0, hW0⟩ : ∃ W0, W0 = ((w.alloc (.cells #[.int .i64 t.dev, .int .i64 t.size, .slice a t.list.length c] 24)).alloc (.cells #[.int .i64 0, .int .i64 0, .slice none 0 0] 24)).alloc (.cells #[.int .i64 t.dev, .int .i64 t.size, .slice a t.list.length c] 24) := ⟨_, rfl⟩
  have HB0 : Hid (Below w.heap.size w W0) := by rw [hW0]; exact nwA (nwA (nwA (nwR w) _) _) _
  have HSZ : Hid (W0.heap.size = w.heap.size + 3) := by show _ = _; rw [hW0]; simp
  have H3 : Hid (W0.heap[w.heap.size + 1]? = some (.cells #[.int .i64 0, .int .i64 0, .slice none 0 0] 24 (0, 0)) ∧ W0.heap[w.heap.size + 1 + 1]? = some (.cells #[.int .i64 t.dev, .int .i64 t.size, .slice a t.list.length c] 24 (0, 0))) := by
    show _ ∧ _
    rw [hW0]; exact (three_at w _ _ _).2
  have HC : Hid (Calls Try.prog 22 #[.slice a t.list.length c] W0 fun e w' => (∃ v, e = .returned v ∧ OwnEnts w' W0.heap.size v t.list) ∧ Below W0.heap.size W0 w') := copyEnts_any a c t.list W0 (hx.below HB0.out) hl
  clear hx hn hl
  go_enter Try.func9, Try.ntmps9
  go_wp2_with fail
  rw [← hW0]
  clear hW0
  refine HC.out.mono ?_
  rintro e w1 ⟨⟨u, rfl, ho⟩, hb1⟩
  have HB1 : Hid (Below w.heap.size w w1) := nwT HB0.out hb1
  have HZ1 : Hid (w1.heap[w.heap.size + 1]? = some (.cells #[.int .i64 0, .int .i64 0, .slice none 0 0] 24 (0, 0))) := (hb1.block _ (Array.getElem?_eq_some_iff.1 H3.out.1).1).trans H3.out.1
  have HX1 : Hid (w1.heap[w.heap.size + 1 + 1]? = some (.cells #[.int .i64 t.dev, .int .i64 t.size, .slice a t.list.length c] 24 (0, 0))) := (hb1.block _ (Array.getElem?_eq_some_iff.1 H3.out.2).1).trans H3.out.2
  have HO1 : Hid (OwnEnts w1 (w.heap.size + 3) u t.list) := ho.le (by have := HSZ.out; omega)
  obtain ⟨au, cu, rfl, _⟩ := ho.at
  clear ho hb1 HC H3
  obtain ⟨z0, z1, z2, zf⟩ := three HZ1.out
  obtain ⟨x0, x1, x2, xf⟩ := three HX1.out
  go_wp2_with fail
  refine bodyPost_ret (v := .agg #[.int .i64 t.dev, .int .i64 t.size, .slice au t.list.length cu]) (by simp [results, Try.results9, go_sem, z0, z1, z2]) rfl ⟨⟨_, rfl, _, rfl, ?_⟩, ?_⟩
  · exact own_le (rowset (rowset (rowset (rowset HO1.out 2 (g := w.heap.size + 1 + 1) (by omega) _) 0 (g := w.heap.size + 1) (by omega) _) 1 (g := w.heap.size + 1) (by omega) _) 2 (g := w.heap.size + 1) (by omega) _) (by omega)
  · exact three_below (HB1.out.setCell (p := ⟨w.heap.size + 1 + 1, 2, none⟩) (by show w.heap.size ≤ w.heap.size + 1 + 1; omega) _) (Nat.le_succ _)

end Go.Proofs.Ytijldakgfgmbiaa

/- The page's: may a table be; are two the same; a table written over. -/
namespace Go.Proofs.Ytijldakgfgmbiaa
open Go.RowKit

theorem rok_iff {d s m : Int} {x : EntD} (hm : 0 ≤ m) (hs : s ≤ 64) : (decide (m ≤ x.frm) && mayB d s x) = (decide (¬ x.frm < m) && (decide (¬ x.len < 1) && (decide (¬ x.len > s) && (decide (¬ x.frm > s - x.len) && (placeB d x.dev x.tgt x.len && numB x.stale x.len))))) := by
  rw [Bool.eq_iff_iff]
  simp only [mayB, fitsB, idB, placeB, betB, numB, Bool.and_eq_true, decide_eq_true_eq, bne_iff_ne]
  constructor
  · rintro ⟨h1, ⟨⟨h2, h3⟩, h4⟩, ⟨⟨h5, _⟩, h6⟩, ⟨h7, h8⟩, h9, h10, h11⟩
    exact ⟨by omega, by omega, by omega, by omega, ⟨⟨h7, h8⟩, h9, h5, h3, by omega, by omega⟩, h10, h11⟩
  · rintro ⟨h1, h2, h3, h4, ⟨⟨h5, h6⟩, h7, h8, h9, h10, h11⟩, h12, h13⟩
    exact ⟨by omega, ⟨⟨by omega, h9⟩, by omega⟩, ⟨⟨h8, h9⟩, by omega⟩, ⟨h5, h6⟩, h7, h12, h13⟩
set_option maxRecDepth 100000 in
set_option maxHeartbeats 16000000 in
theorem rtable_any (v : Value) (t : TabD) (w : World) (hv : TabVal w v t) (hr : RngL t.list) :
    Calls Try.prog 20 #[v] w fun e w' => e = .returned (.bool (tokB t)) ∧ Below w.heap.size w w' := by
  obtain ⟨a, c, rfl, hx, hn⟩ := hv
  obtain ⟨d, s, l⟩ := t
  simp only at hx hr hn ⊢
  obtain ⟨W0, hW0⟩ : ∃ W0, W0 = w.alloc (.cells #[.int .i64 d, .int .i64 s, .slice a l.length c] 24) := ⟨_, rfl⟩
  have hb0 : Below w.heap.size w W0 := by rw [hW0]; exact nwA (nwR w) _
  have HB0 : Hid (Below w.heap.size w W0) := hb0
  have hx0 : W0.heap[w.heap.size]? = some (.cells #[.int .i64 d, .int .i64 s, .slice a l.length c] 24 (0, 0)) := by rw [hW0]; exact heap_alloc_new w _
  have HX0 : Hid (∀ w', Below W0.heap.size W0 w' → w'.heap[w.heap.size]? = some (.cells #[.int .i64 d, .int .i64 s, .slice a l.length c] 24 (0, 0))) := fun w' h => (h.block _ (Array.getElem?_eq_some_iff.1 hx0).1).trans hx0
  have HX : Hid (∀ w', Below W0.heap.size W0 w' → EntsAt w' a l) := fun w' h => hx.below (nwT hb0 h)
  have HR : Hid (RngL l) := hr
  have hl := hr.len
  have HT : Hid (∀ p1 p2, betB d 1 40 = p1 → betB s 1 64 = p2 → tokB ⟨d, s, l⟩ = (p1 && (p2 && okFrom d s 0 l))) := fun p1 p2 h1 h2 => by
    subst h1; subst h2
    show (idB d && (decide (1 ≤ s) && (decide (s ≤ 64) && okFrom d s 0 l))) = _
    unfold idB betB
    rw [Bool.and_assoc (decide (1 ≤ s))]
  have HSB : Hid (betB s 1 64 = true → 1 ≤ s ∧ s ≤ 64) := fun h => by unfold betB at h; simpa using h
  have HI1 : Hid (Calls Try.prog 23 #[.int .i64 d, .int .i64 1, .int .i64 40] W0 fun e w' => e = .returned (.bool (betB d 1 40)) ∧ w' = W0) := between_any d 1 40 W0
  have HI2 : Hid (Calls Try.prog 23 #[.int .i64 s, .int .i64 1, .int .i64 64] W0 fun e w' => e = .returned (.bool (betB s 1 64)) ∧ w' = W0) := between_any s 1 64 W0
  generalize tokB ⟨d, s, l⟩ = res at HT ⊢
  generalize betB d 1 40 = p1 at HT HI1
  generalize betB s 1 64 = p2 at HT HI2 HSB
  have HQ : Hid (res = (p1 && (p2 && okFrom d s 0 l))) := HT.out p1 p2 rfl rfl
  obtain ⟨a0, a1, a2, _⟩ := three hx0
  clear hx hr hn hb0 hx0 HT
  go_enter Try.func20, Try.ntmps20
  go_wp2_with fail
  rw [← hW0]
  clear hW0
  refine HI1.out.mono ?_
  rintro e w1 ⟨rfl, rfl⟩
  rename World => W0
  clear HI1
  cases p1
  case false =>
    have HZ : Hid (res = false) := HQ.out
    clear HI2
    go_wp2_with fail
    go_ret
    exact ⟨by rw [HZ.out]; rfl, HB0.out⟩
  case true =>
  go_wp2_with fail
  refine HI2.out.mono ?_
  rintro e w1 ⟨rfl, rfl⟩
  rename World => W0
  clear HI2
  cases p2
  case false =>
    have HZ : Hid (res = false) := HQ.out
    go_wp2_with fail
    go_ret
    exact ⟨by rw [HZ.out]; rfl, HB0.out⟩
  case true =>
  have hs := HSB.out rfl
  have HQ2 : Hid (res = okFrom d s 0 l) := HQ.out
  clear HQ HSB
  go_wp2_with fail
  go_loopw [3, 4] (fun m i wr => ∃ (k : Nat) (mm : Int), k ≤ l.length ∧ m = .int .i64 mm ∧ i = .int .i64 k ∧ Hid (0 ≤ mm ∧ okFrom d s 0 l = okFrom d s mm (l.drop k)) ∧ Below W0.heap.size W0 wr)
    (fun _ i _ => l.length - (intOf i).toNat)
  case atStart => exact ⟨0, 0, by omega, rfl, rfl, ⟨by omega, rfl⟩, nwR _⟩
  case round =>
    obtain ⟨k, mm, hk, rfl, rfl, HM, hb⟩ := hrel
    obtain ⟨a0, a1, a2, _⟩ := three (HX0.out wr hb)
    by_cases hkl : k < l.length
    case neg =>
      have hkli : ¬ (k : Int) < (l.length : Int) := by omega
      have HZ : Hid (res = true) := by
        show _ = _
        rw [HQ2.out, HM.out.2, okFrom_end d s mm (by omega)]
      go_wp2_with fail
      go_ret
      exact ⟨by rw [HZ.out]; rfl, nwT HB0.out hb⟩
    case pos =>
    have hkli : (k : Int) < (l.length : Int) := by omega
    obtain ⟨b1, o1, rfl, hE⟩ := (HX.out wr hb).ent hkl
    have HRX := HR.out.rng k hkl
    have HST : Hid (res = (decide (mm ≤ (l.getD k EZ).frm) && mayB d s (l.getD k EZ) && okFrom d s ((l.getD k EZ).frm + (l.getD k EZ).len) (l.drop (k + 1)))) := by
      show _ = _
      rw [HQ2.out, HM.out.2, okFrom_step d s mm hkl, Bool.and_assoc]
    have HEQ : Hid (res = okFrom d s 0 l) := HQ2.out
    have hmm := HM.out.1
    generalize l.getD k EZ = x at hE HRX HST
    have HST2 : Hid (res = ((decide (¬ x.frm < mm) && (decide (¬ x.len < 1) && (decide (¬ x.len > s) && (decide (¬ x.frm > s - x.len) && (placeB d x.dev x.tgt x.len && numB x.stale x.len))))) && okFrom d s (x.frm + x.len) (l.drop (k + 1)))) := by
      show _ = _
      rw [HST.out, rok_iff hmm hs.2]
    have HRF : Hid (Rng x.frm ∧ Rng x.len) := ⟨HRX.1, HRX.2.1⟩
    obtain ⟨c0, c1, c2, c3, c4⟩ := hE
    have hbl : w.heap.size < wr.heap.size := (Array.getElem?_eq_some_iff.1 (HX0.out wr hb)).1
    clear HRX HST
    have HBA : Hid (Below W0.heap.size W0 (wr.alloc (.cells #[.int .i64 x.frm, .int .i64 x.len, .int .i64 x.dev, .int .i64 x.tgt, .int .i64 x.stale] 49))) := nwA hb _
    by_cases hc0 : x.frm < mm
    case pos =>
      have HZ : Hid (res = false) := by
        show _ = _
        rw [HST2.out]
        simp [hc0]
      clear HST2
      go_wp2_with fail
      go_ret
      exact ⟨by rw [HZ.out]; rfl, nwT HB0.out HBA.out⟩
    by_cases hc1 : x.len < 1
    case pos =>
      have HZ : Hid (res = false) := by
        show _ = _
        rw [HST2.out]
        simp [hc1]
      clear HST2
      go_wp2_with fail
      go_ret
      exact ⟨by rw [HZ.out]; rfl, nwT HB0.out HBA.out⟩
    by_cases hc2 : x.len > s
    case pos =>
      have HZ : Hid (res = false) := by
        show _ = _
        rw [HST2.out]
        simp [hc2]
      clear HST2
      go_wp2_with fail
      go_ret
      exact ⟨by rw [HZ.out]; rfl, nwT HB0.out HBA.out⟩
    have e1 : IntKind.i64.wrap (s - x.len) = s - x.len := wrap_i (by omega) (by omega)
    by_cases hc3 : x.frm > s - x.len
    case pos =>
      have HZ : Hid (res = false) := by
        show _ = _
        rw [HST2.out]
        simp [hc3]
      clear HST2
      go_wp2_with fail
      go_ret
      exact ⟨by rw [HZ.out]; rfl, nwT HB0.out HBA.out⟩
    have HST3 : Hid (∀ p q, placeB d x.dev x.tgt x.len = p → numB x.stale x.len = q → res = (p && q && okFrom d s (x.frm + x.len) (l.drop (k + 1)))) := fun p q h1 h2 => by
      subst h1; subst h2
      rw [HST2.out]
      simp [hc0, hc1, hc2, hc3]
    have e2 : IntKind.i64.wrap (x.frm + x.len) = x.frm + x.len := wrap_i (by omega) (by omega)
    have HNE : Hid (0 ≤ x.frm + x.len) := by show (0 : Int) ≤ _; omega
    have HPL : Hid (Calls Try.prog 25 #[.int .i64 d, .agg #[.int .i64 x.dev, .int .i64 x.tgt], .int .i64 x.len] (wr.alloc (.cells #[.int .i64 x.frm, .int .i64 x.len, .int .i64 x.dev, .int .i64 x.tgt, .int .i64 x.stale] 49)) fun e w' => e = .returned (.bool (placeB d x.dev x.tgt x.len)) ∧ Below (wr.alloc (.cells #[.int .i64 x.frm, .int .i64 x.len, .int .i64 x.dev, .int .i64 x.tgt, .int .i64 x.stale] 49)).heap.size (wr.alloc (.cells #[.int .i64 x.frm, .int .i64 x.len, .int .i64 x.dev, .int .i64 x.tgt, .int .i64 x.stale] 49)) w') := rplace_any d x.dev x.tgt x.len _
    have HNU : Hid (∀ w', Calls Try.prog 32 #[.int .i64 x.stale, .int .i64 x.len] w' fun e w'' => e = .returned (.bool (numB x.stale x.len)) ∧ w'' = w') := fun w' => num2_any _ _ w'
    have HXC : Hid ((wr.alloc (.cells #[.int .i64 x.frm, .int .i64 x.len, .int .i64 x.dev, .int .i64 x.tgt, .int .i64 x.stale] 49)).heap[wr.heap.size]? = some (.cells #[.int .i64 x.frm, .int .i64 x.len, .int .i64 x.dev, .int .i64 x.tgt, .int .i64 x.stale] 49 (0, 0))) := heap_alloc_new wr _
    clear HST2
    generalize placeB d x.dev x.tgt x.len = p at HST3 HPL
    generalize numB x.stale x.len = q at HST3 HNU
    have HST4 : Hid (res = (p && q && okFrom d s (x.frm + x.len) (l.drop (k + 1)))) := HST3.out p q rfl rfl
    clear HST3
    go_wp2_with fail
    refine HPL.out.mono ?_
    rintro e w2 ⟨rfl, hb2⟩
    have HB2 : Hid (Below W0.heap.size W0 w2) := nwT HBA.out hb2
    obtain ⟨y0, y1, y2, y3, y4, _⟩ := five ((hb2.block _ (Array.getElem?_eq_some_iff.1 HXC.out).1).trans HXC.out)
    clear hb2 HPL HXC c0 c1 c2 c3 c4 a0 a1 a2
    cases p
    case false =>
      have HZ : Hid (res = false) := HST4.out
      go_wp2_with fail
      go_ret
      exact ⟨by rw [HZ.out]; rfl, nwT HB0.out HB2.out⟩
    case true =>
    go_wp2_with fail
    refine (HNU.out w2).mono ?_
    rintro e w3 ⟨rfl, rfl⟩
    rename World => w2
    clear HNU
    cases q
    case false =>
      have HZ : Hid (res = false) := HST4.out
      go_wp2_with fail
      go_ret
      exact ⟨by rw [HZ.out]; rfl, nwT HB0.out HB2.out⟩
    case true =>
    have HNX : Hid (okFrom d s 0 l = okFrom d s (x.frm + x.len) (l.drop (k + 1))) := by
      show _ = _
      rw [← HEQ.out, HST4.out]; rfl
    clear HST4
    go_wp2_with fail
    go_roundw
    case rel => exact ⟨k + 1, x.frm + x.len, by omega, rfl, by go_num, ⟨HNE.out, HNX.out⟩, HB2.out⟩
    case measure => simp [intOf]; omega

set_option maxRecDepth 100000 in
set_option maxHeartbeats 4000000 in
theorem eqEnts_any (a b : Option Addr) (l m : List EntD) (ca cb : Nat) (w : World) (ha : EntsAt w a l) (hb : EntsAt w b m) (hl : l.length ≤ 1000) :
    Calls Try.prog 34 #[.slice a l.length ca, .slice b m.length cb] w fun e w' => e = .returned (.bool (decide (l = m))) ∧ Below w.heap.size w w' := by
  have HA : Hid (∀ w', Below w.heap.size w w' → EntsAt w' a l) := fun w' h => ha.below h
  have HB : Hid (∀ w', Below w.heap.size w w' → EntsAt w' b m) := fun w' h => hb.below h
  clear ha hb
  by_cases hlen : l.length = m.length
  · have hlen' : ((l.length : Int) != (m.length : Int)) = false := by simp [hlen]
    have HL : Hid (l.length = m.length) := hlen
    clear hlen
    go_enter Try.func34, Try.ntmps34
    go_wp2_with fail
    go_loopw [5] (fun i wr => ∃ (k : Nat), k ≤ l.length ∧ i = .int .i64 k ∧ Below w.heap.size w wr ∧ Hid (∀ j, j < k → l.getD j EZ = m.getD j EZ))
      (fun i _ => l.length - (intOf i).toNat)
    case atStart => exact ⟨0, by omega, rfl, nwR w, fun j hj => by omega⟩
    case round =>
      obtain ⟨k, hk, rfl, hbel, HE⟩ := hrel
      by_cases hlt : k < l.length
      · have hlti : (k : Int) < (l.length : Int) := by omega
        have hltm : (k : Int) < (m.length : Int) := by have := HL.out; omega
        obtain ⟨b1, o1, rfl, hx⟩ := (HA.out wr hbel).ent hlt
        obtain ⟨b2, o2, rfl, hy⟩ := (HB.out wr hbel).ent (show k < m.length by omega)
        by_cases he : l.getD k EZ = m.getD k EZ
        · rw [← he] at hy
          have HEE : Hid (l.getD k EZ = m.getD k EZ) := he
          generalize l.getD k EZ = x at hx hy
          obtain ⟨x0, x1, x2, x3, x4⟩ := hx
          obtain ⟨y0, y1, y2, y3, y4⟩ := hy
          clear he
          go_wp2_with fail
          go_quiet (fail)
          go_wp2_with fail
          go_roundw
          case rel => exact ⟨k + 1, by omega, by go_num, below_drewN hbel _, fun j hj => by
            by_cases e : j = k
            · subst e; exact HEE.out
            · exact HE.out j (by omega)⟩
          case measure => simp [intOf]; omega
        · have HF : Hid (decide (l = m) = false) := decide_eq_false (fun e => he (by rw [e]))
          generalize l.getD k EZ = x at hx he
          generalize m.getD k EZ = y at hy he
          obtain ⟨f1, l1, d1, t1, s1⟩ := x
          obtain ⟨f2, l2, d2, t2, s2⟩ := y
          obtain ⟨x0, x1, x2, x3, x4⟩ := hx
          obtain ⟨y0, y1, y2, y3, y4⟩ := hy
          simp only at x0 x1 x2 x3 x4 y0 y1 y2 y3 y4
          by_cases e0 : f1 = f2
          case neg =>
            have eb : (f1 == f2) = false := beq_eq_false_iff_ne.2 e0
            clear e0 he
            go_wp2_with fail
            go_quiet (fail)
            go_wp2_with fail
            go_ret
            exact ⟨by rw [HF.out]; rfl, below_drewN hbel _⟩
          subst e0
          by_cases e1 : l1 = l2
          case neg =>
            have eb : (l1 == l2) = false := beq_eq_false_iff_ne.2 e1
            clear e1 he
            go_wp2_with fail
            go_quiet (fail)
            go_wp2_with fail
            go_ret
            exact ⟨by rw [HF.out]; rfl, below_drewN hbel _⟩
          subst e1
          by_cases e2 : d1 = d2
          case neg =>
            have eb : (d1 == d2) = false := beq_eq_false_iff_ne.2 e2
            clear e2 he
            go_wp2_with fail
            go_quiet (fail)
            go_wp2_with fail
            go_ret
            exact ⟨by rw [HF.out]; rfl, below_drewN hbel _⟩
          subst e2
          by_cases e3 : t1 = t2
          case neg =>
            have eb : (t1 == t2) = false := beq_eq_false_iff_ne.2 e3
            clear e3 he
            go_wp2_with fail
            go_quiet (fail)
            go_wp2_with fail
            go_ret
            exact ⟨by rw [HF.out]; rfl, below_drewN hbel _⟩
          subst e3
          have eb : (s1 == s2) = false := beq_eq_false_iff_ne.2 (fun e => he (by rw [e]))
          clear he
          go_wp2_with fail
          go_quiet (fail)
          go_wp2_with fail
          go_ret
          exact ⟨by rw [HF.out]; rfl, below_drewN hbel _⟩
      · have hlti : ¬ (k : Int) < (l.length : Int) := by omega
        have HF : Hid (decide (l = m) = true) := decide_eq_true (ext_getD' EZ HL.out (fun i hi => HE.out i (by omega)))
        go_wp2_with fail
        go_ret
        exact ⟨by rw [HF.out]; rfl, hbel⟩
  · have hlen' : ((l.length : Int) != (m.length : Int)) = true := by rw [bne_iff_ne]; omega
    have HF : Hid (decide (l = m) = false) := decide_eq_false (fun e => hlen (by rw [e]))
    clear hlen
    go_enter Try.func34, Try.ntmps34
    go_wp2_with fail
    go_ret
    exact ⟨by rw [HF.out]; rfl, nwR w⟩

end Go.Proofs.Ytijldakgfgmbiaa

/- The page's: two tables the same; a table written over; where a sector is; its end; what is live; what is heavy. -/
namespace Go.Proofs.Ytijldakgfgmbiaa
open Go.RowKit

set_option maxRecDepth 100000 in
set_option maxHeartbeats 4000000 in
theorem eqTab_any (u v : Value) (t r : TabD) (w : World) (hu : TabVal w u t) (hv : TabVal w v r) (hl : t.list.length ≤ 1000) :
    Calls Try.prog 31 #[u, v] w fun e w' => e = .returned (.bool (decide (t = r))) ∧ Below w.heap.size w w' := by
  obtain ⟨a, c, rfl, hx, _⟩ := hu
  obtain ⟨b, c2, rfl, hy, _⟩ := hv
  obtain ⟨d1, s1, l1⟩ := t
  obtain ⟨d2, s2, l2⟩ := r
  simp only at hx hy hl ⊢
  obtain ⟨W0, hW0⟩ : ∃ W0, W0 = (w.alloc (.cells #[.int .i64 d1, .int .i64 s1, .slice a l1.length c] 24)).alloc (.cells #[.int .i64 d2, .int .i64 s2, .slice b l2.length c2] 24) := ⟨_, rfl⟩
  have hb0 : Below w.heap.size w W0 := by rw [hW0]; exact nwA (nwA (nwR w) _) _
  have HB0 : Hid (Below w.heap.size w W0) := hb0
  have HE : Hid (Calls Try.prog 34 #[.slice a l1.length c, .slice b l2.length c2] W0 fun e w' => e = .returned (.bool (decide (l1 = l2))) ∧ Below W0.heap.size W0 w') := eqEnts_any a b l1 l2 c c2 W0 (hx.below hb0) (hy.below hb0) hl
  have HD : Hid (∀ p, decide (l1 = l2) = p → d1 = d2 → s1 = s2 → decide ((⟨d1, s1, l1⟩ : TabD) = ⟨d2, s2, l2⟩) = p) := fun p h1 h2 h3 => by
    subst h1; subst h2; subst h3
    rw [Bool.eq_iff_iff]; simp
  have HN : Hid (d1 ≠ d2 ∨ s1 ≠ s2 → decide ((⟨d1, s1, l1⟩ : TabD) = ⟨d2, s2, l2⟩) = false) := fun h => decide_eq_false (fun e => by injection e with h1 h2 _; rcases h with h | h; exact h h1; exact h h2)
  generalize decide ((⟨d1, s1, l1⟩ : TabD) = ⟨d2, s2, l2⟩) = res at HD HN ⊢
  generalize decide (l1 = l2) = p at HE HD
  clear hx hy hl hb0
  by_cases h1 : d1 = d2
  case neg =>
    have HR : Hid (res = false) := HN.out (.inl h1)
    have h1b : (d1 == d2) = false := beq_eq_false_iff_ne.2 h1
    clear h1
    go_enter Try.func31, Try.ntmps31
    go_wp2_with fail
    rw [← hW0]
    go_ret
    exact ⟨by rw [HR.out]; rfl, HB0.out⟩
  case pos =>
  by_cases h2 : s1 = s2
  case neg =>
    have HR : Hid (res = false) := HN.out (.inr h2)
    have h1b : (d1 == d2) = true := beq_iff_eq.2 h1
    have h2b : (s1 == s2) = false := beq_eq_false_iff_ne.2 h2
    clear h1 h2
    go_enter Try.func31, Try.ntmps31
    go_wp2_with fail
    rw [← hW0]
    go_ret
    exact ⟨by rw [HR.out]; rfl, HB0.out⟩
  case pos =>
  have HR : Hid (res = p) := HD.out p rfl h1 h2
  have h1b : (d1 == d2) = true := beq_iff_eq.2 h1
  have h2b : (s1 == s2) = true := beq_iff_eq.2 h2
  clear h1 h2 HD HN
  go_enter Try.func31, Try.ntmps31
  go_wp2_with fail
  rw [← hW0]
  clear hW0
  refine HE.out.mono ?_
  rintro e w1 ⟨rfl, hb1⟩
  have HB1 : Hid (Below w.heap.size w w1) := nwT HB0.out hb1
  clear hb1 HE
  go_wp2_with fail
  go_ret
  exact ⟨by rw [HR.out]; rfl, HB1.out⟩

def badE : EntD := ⟨-9, 0, 0, 0, 0⟩
set_option maxRecDepth 100000 in
set_option maxHeartbeats 4000000 in
theorem spoil_any (base : Nat) (v : Value) (d s : Int) (l : List EntD) (w : World) (ho : OwnEnts w base v l) (hl : l.length ≤ 1000) :
    Calls Try.prog 36 #[.agg #[.int .i64 d, .int .i64 s, v]] w fun e w' => e = .returned (.tuple #[]) ∧ w.grownBy w' v.ownBlock := by
  obtain ⟨a, c, rfl, _, _⟩ := ho.at
  have HO : Hid (OwnEnts w base (.slice a l.length c) l) := ho
  obtain ⟨W0, hW0⟩ : ∃ W0, W0 = w.alloc (.cells #[.int .i64 d, .int .i64 s, .slice a l.length c] 24) := ⟨_, rfl⟩
  have hb0 : Below w.heap.size w W0 := by rw [hW0]; exact nwA (nwR w) _
  have HG0 : Hid (w.grownBy W0 (Value.ownBlock (.slice a l.length c))) := gbOf hb0 _
  have HX0 : Hid (W0.heap[w.heap.size]? = some (.cells #[.int .i64 d, .int .i64 s, .slice a l.length c] 24 (0, 0))) := by rw [hW0]; exact heap_alloc_new w _
  have HLT : Hid (∀ g, Value.ownBlock (.slice a l.length c) = some g → g < w.heap.size) := fun g h => (World.ownsRow.lt ho g h).2
  have HA : Hid (0 < l.length → ∃ g, a = some ⟨g, 0, none⟩ ∧ RowW W0 base g l.length c l) := fun h => by
    obtain ⟨g, rfl, _⟩ := ho.zero.2 h
    exact ⟨g, rfl, ho.below hb0⟩
  have HROW : Hid (∀ g, a = some ⟨g, 0, none⟩ → RowW W0 base g l.length c l) := fun g h => by subst h; exact ho.below hb0
  clear ho hb0
  go_enter Try.func36, Try.ntmps36
  go_wp2_with fail
  rw [← hW0]
  clear hW0
  go_loopw [2] (fun i wr => ∃ (k : Nat), k ≤ l.length ∧ i = .int .i64 k ∧ Hid (w.grownBy wr (Value.ownBlock (.slice a l.length c)) ∧ wr.heap[w.heap.size]? = some (.cells #[.int .i64 d, .int .i64 s, .slice a l.length c] 24 (0, 0)) ∧ ∀ g, a = some ⟨g, 0, none⟩ → ∃ gs, gs.length = l.length ∧ RowW wr base g l.length c gs))
    (fun i _ => l.length - (intOf i).toNat)
  case atStart => exact ⟨0, by omega, rfl, HG0.out, HX0.out, fun g h => ⟨l, rfl, HROW.out g h⟩⟩
  case round =>
    obtain ⟨k, hk, rfl, HH⟩ := hrel
    obtain ⟨a0, a1, a2, _⟩ := three HH.out.2.1
    by_cases hkl : k < l.length
    case neg =>
      have hkli : ¬ (k : Int) < (l.length : Int) := by omega
      go_wp2_with fail
      first | refine bodyPost_end (results_none rfl _ _ _) rfl ⟨rfl, HH.out.1⟩ | refine bodyPost_ret (results_none rfl _ _ _) rfl ⟨rfl, HH.out.1⟩
    case pos =>
    have hkli : (k : Int) < (l.length : Int) := by omega
    obtain ⟨g, rfl, _⟩ := HA.out (by omega)
    obtain ⟨gs, hgl, hrow⟩ := HH.out.2.2 g rfl
    have hgw := HLT.out g rfl
    have HRW : Hid (RowW wr base g l.length c gs) := hrow
    obtain ⟨y, hy⟩ : ∃ y, gs[k]? = some y := ⟨_, List.getElem?_eq_getElem (by omega)⟩
    obtain ⟨c0, c1, c2, c3, c4⟩ := hrow.cellAt hy
    have tf : ∀ o, wr.frozen? ⟨g, o, none⟩ = false := fun o => World.ownsRow.frozenAt hrow o
    have HRS : Hid (RowW (((((wr.setCell ⟨g, k * 5, none⟩ (.int .i64 (-9))).setCell ⟨g, k * 5 + 1, none⟩ (.int .i64 0)).setCell ⟨g, k * 5 + 2, none⟩ (.int .i64 0)).setCell ⟨g, k * 5 + 3, none⟩ (.int .i64 0)).setCell ⟨g, k * 5 + 4, none⟩ (.int .i64 0)) base g l.length c (gs.set k badE)) := hrow.setAt badE (i := k) (by omega)
    have HGL : Hid ((gs.set k badE).length = l.length) := by show _ = _; rw [List.length_set, hgl]
    clear hrow hy hgl
    go_wp2_with fail
    go_roundw
    case rel =>
      refine ⟨k + 1, by omega, by go_num, gb_setg (gb_setg (gb_setg (gb_setg (gb_setg HH.out.1 _) _) _) _) _, ?_, fun g' hg' => ?_⟩
      · exact (heap_setCell_other _ ⟨g, _, none⟩ _ _ (by show w.heap.size ≠ g; omega)).trans ((heap_setCell_other _ ⟨g, _, none⟩ _ _ (by show w.heap.size ≠ g; omega)).trans ((heap_setCell_other _ ⟨g, _, none⟩ _ _ (by show w.heap.size ≠ g; omega)).trans ((heap_setCell_other _ ⟨g, _, none⟩ _ _ (by show w.heap.size ≠ g; omega)).trans ((heap_setCell_other _ ⟨g, _, none⟩ _ _ (by show w.heap.size ≠ g; omega)).trans HH.out.2.1))))
      · injection hg' with hg'
        injection hg' with hg'
        subst hg'
        exact ⟨_, HGL.out, HRS.out⟩
    case measure => simp [intOf]; omega

def inZ (l : List EntD) (n : Int) : Int := match inT l n with | some k => (k : Int) | none => -1
set_option maxRecDepth 100000 in
set_option maxHeartbeats 4000000 in
theorem rin_any (v : Value) (t : TabD) (n : Int) (w : World) (hv : TabVal w v t) (hl : t.list.length ≤ 1000) (hf : ∀ i, i < t.list.length → Fair (t.list.getD i EZ)) :
    Calls Try.prog 46 #[v, .int .i64 n] w fun e w' => e = .returned (.int .i64 (inZ t.list n)) ∧ Below w.heap.size w w' := by
  obtain ⟨a, c, rfl, hx, _⟩ := hv
  obtain ⟨d, s, l⟩ := t
  simp only at hx hl hf ⊢
  obtain ⟨W0, hW0⟩ : ∃ W0, W0 = w.alloc (.cells #[.int .i64 d, .int .i64 s, .slice a l.length c] 24) := ⟨_, rfl⟩
  have hb0 : Below w.heap.size w W0 := by rw [hW0]; exact nwA (nwR w) _
  have HB0 : Hid (Below w.heap.size w W0) := hb0
  have hx0 : W0.heap[w.heap.size]? = some (.cells #[.int .i64 d, .int .i64 s, .slice a l.length c] 24 (0, 0)) := by rw [hW0]; exact heap_alloc_new w _
  have HX0 : Hid (∀ w', Below W0.heap.size W0 w' → w'.heap[w.heap.size]? = some (.cells #[.int .i64 d, .int .i64 s, .slice a l.length c] 24 (0, 0))) := fun w' h => (h.block _ (Array.getElem?_eq_some_iff.1 hx0).1).trans hx0
  have HX : Hid (∀ w', Below W0.heap.size W0 w' → EntsAt w' a l) := fun w' h => hx.below (nwT hb0 h)
  have HF : Hid (∀ i, i < l.length → Fair (l.getD i EZ)) := hf
  clear hx hf hb0 hx0
  go_enter Try.func46, Try.ntmps46
  go_wp2_with fail
  rw [← hW0]
  clear hW0
  go_loopw [5] (fun i wr => ∃ (k : Nat), k ≤ l.length ∧ i = .int .i64 k ∧ Below W0.heap.size W0 wr ∧ Hid (∀ j, j < k → hasB (l.getD j EZ) n = false))
    (fun i _ => l.length - (intOf i).toNat)
  case atStart => exact ⟨0, by omega, rfl, nwR _, fun j hj => by omega⟩
  case round =>
    obtain ⟨k, hk, rfl, hb, HE⟩ := hrel
    obtain ⟨a0, a1, a2, _⟩ := three (HX0.out wr hb)
    by_cases hlt : k < l.length
    case neg =>
      have hlti : ¬ (k : Int) < (l.length : Int) := by omega
      have HZ : Hid (inZ l n = -1) := by
        show _ = _
        unfold inZ
        rw [show inT l n = none from find_no EZ (fun j hj => HE.out j (by omega))]
      go_wp2_with fail
      go_ret
      exact ⟨ret_int (by rw [HZ.out]), nwT HB0.out hb⟩
    case pos =>
    have hlti : (k : Int) < (l.length : Int) := by omega
    have hk0 : (0 : Int) ≤ (k : Int) := by omega
    obtain ⟨b, o, rfl, hE⟩ := (HX.out wr hb).ent hlt
    have hF := HF.out k hlt
    have HKK : Hid (hasB (l.getD k EZ) n = false → ∀ j, j < k + 1 → hasB (l.getD j EZ) n = false) := fun h j hj => by
      by_cases e : j = k
      · subst e; exact h
      · exact HE.out j (by omega)
    have HY : Hid (hasB (l.getD k EZ) n = true → inZ l n = k) := fun h => by
      show _ = _
      unfold inZ
      rw [show inT l n = some k from find_yes EZ hlt h (fun j hj => HE.out j hj)]
    generalize l.getD k EZ = x at hE hF HKK HY
    obtain ⟨c0, c1, c2, c3, c4⟩ := hE
    have e1 : IntKind.i64.wrap (x.frm + x.len) = x.frm + x.len := wrap_i (by have := hF.f0; have := hF.l0; omega) (by have := hF.f1; have := hF.l1; omega)
    clear hF
    by_cases h1 : x.frm ≤ n
    · have h1b : decide (x.frm ≤ n) = true := decide_eq_true h1
      by_cases h2 : n < x.frm + x.len
      · have h2b : decide (n < x.frm + x.len) = true := decide_eq_true h2
        have HR : Hid (inZ l n = k) := HY.out (by unfold hasB; rw [h1b, h2b]; rfl)
        clear HKK HY h1 h2
        go_wp2_with fail
        go_quiet (fail)
        go_wp2_with fail
        go_ret
        exact ⟨ret_int (by rw [HR.out]), nwT HB0.out (below_drewN hb _)⟩
      · have h2b : decide (n < x.frm + x.len) = false := decide_eq_false h2
        have HN : Hid (∀ j, j < k + 1 → hasB (l.getD j EZ) n = false) := HKK.out (by unfold hasB; rw [h1b, h2b]; rfl)
        clear HKK HY h1 h2
        go_wp2_with fail
        go_quiet (fail)
        go_wp2_with fail
        go_roundw
        case rel => exact ⟨k + 1, by omega, by go_num, below_drewN hb _, HN⟩
        case measure => simp [intOf]; omega
    · have h1b : decide (x.frm ≤ n) = false := decide_eq_false h1
      have HN : Hid (∀ j, j < k + 1 → hasB (l.getD j EZ) n = false) := HKK.out (by unfold hasB; rw [h1b]; rfl)
      clear HKK HY h1
      go_wp2_with fail
      go_quiet (fail)
      go_wp2_with fail
      go_roundw
      case rel => exact ⟨k + 1, by omega, by go_num, below_drewN hb _, HN⟩
      case measure => simp [intOf]; omega

end Go.Proofs.Ytijldakgfgmbiaa

/- The page's: where a sector lies, where the last entry ends, what is live, what is heavy. -/
namespace Go.Proofs.Ytijldakgfgmbiaa
open Go.RowKit

/-- what the page tells of a sector -/
def rlookR (l : List EntD) (n : Int) : Value := match inT l n with
  | some k => .tuple #[ptrV (l.getD k EZ).dev (plc (l.getD k EZ) n), .bool true]
  | none => .tuple #[ptrV 0 0, .bool false]
theorem inT_some {l : List EntD} {n : Int} {k : Nat} (h : inT l n = some k) : k < l.length ∧ hasB (l.getD k EZ) n = true := by
  obtain ⟨h1, h2, _⟩ := List.findIdx?_eq_some_iff_getElem.1 h
  exact ⟨h1, by simpa [List.getD, h1] using h2⟩
set_option maxRecDepth 100000 in
set_option maxHeartbeats 8000000 in
theorem rlook_any (v : Value) (t : TabD) (n : Int) (w : World) (hv : TabVal w v t) (hl : t.list.length ≤ 1000) (hf : ∀ i, i < t.list.length → Fair (t.list.getD i EZ)) :
    Calls Try.prog 30 #[v, .int .i64 n] w fun e w' => e = .returned (rlookR t.list n) ∧ Below w.heap.size w w' := by
  have HV : Hid (∀ w', Below w.heap.size w w' → TabVal w' v t) := fun w' h => hv.below h
  obtain ⟨a, c, rfl, hx, hn⟩ := hv
  obtain ⟨d, s, l⟩ := t
  simp only at hx hl hf hn HV ⊢
  obtain ⟨W0, hW0⟩ : ∃ W0, W0 = (w.alloc (.cells #[.int .i64 d, .int .i64 s, .slice a l.length c] 24)).alloc (.cells #[.int .i64 0, .int .i64 0] 33) := ⟨_, rfl⟩
  have hb0 : Below w.heap.size w W0 := by rw [hW0]; exact nwA (nwA (nwR w) _) _
  have HB0 : Hid (Below w.heap.size w W0) := hb0
  have hx0 : W0.heap[w.heap.size]? = some (.cells #[.int .i64 d, .int .i64 s, .slice a l.length c] 24 (0, 0)) := by rw [hW0]; exact (Lib.alloc_old _ _ _ (by simp)).trans (heap_alloc_new w _)
  have hz0 : W0.heap[w.heap.size + 1]? = some (.cells #[.int .i64 0, .int .i64 0] 33 (0, 0)) := by rw [hW0]; exact heap_alloc_new2 w _ _
  have HX0 : Hid (∀ w', Below W0.heap.size W0 w' → w'.heap[w.heap.size]? = some (.cells #[.int .i64 d, .int .i64 s, .slice a l.length c] 24 (0, 0)) ∧ w'.heap[w.heap.size + 1]? = some (.cells #[.int .i64 0, .int .i64 0] 33 (0, 0))) := fun w' h => ⟨(h.block _ (Array.getElem?_eq_some_iff.1 hx0).1).trans hx0, (h.block _ (Array.getElem?_eq_some_iff.1 hz0).1).trans hz0⟩
  have HIN : Hid (Calls Try.prog 46 #[.agg #[.int .i64 d, .int .i64 s, .slice a l.length c], .int .i64 n] W0 fun e w' => e = .returned (.int .i64 (inZ l n)) ∧ Below W0.heap.size W0 w') := rin_any _ ⟨d, s, l⟩ n W0 (HV.out W0 hb0) hl hf
  have HE : Hid (∀ w', Below W0.heap.size W0 w' → EntsAt w' a l) := fun w' h => hx.below (nwT hb0 h)
  have HF : Hid (∀ i, i < l.length → Fair (l.getD i EZ)) := hf
  have HI : Hid (∀ q, inT l n = q → inZ l n = (match q with | some k => (k : Int) | none => -1) ∧ rlookR l n = (match q with | some k => .tuple #[ptrV (l.getD k EZ).dev (plc (l.getD k EZ) n), .bool true] | none => .tuple #[ptrV 0 0, .bool false])) := fun q h => by subst h; exact ⟨rfl, rfl⟩
  generalize rlookR l n = res at HI ⊢
  clear hx hf hn hb0 hx0 hz0 HV
  go_enter Try.func30, Try.ntmps30
  go_wp2_with fail
  rw [← hW0]
  clear hW0
  refine HIN.out.mono ?_
  rintro e w1 ⟨rfl, hb1⟩
  have HB1 : Hid (Below W0.heap.size W0 w1) := hb1
  obtain ⟨hx1, hz1⟩ := HX0.out w1 hb1
  clear HIN
  cases hin : inT l n with
  | none =>
    obtain ⟨e1, e2⟩ := HI.out none hin
    have HR : Hid (res = .tuple #[ptrV 0 0, .bool false]) := e2
    rw [e1]
    obtain ⟨z0, z1, zf⟩ := two hz1
    clear e1 e2 hin HI hx1 hz1 hb1
    go_wp2_with fail
    refine bodyPost_ret (v := .tuple #[.agg #[.int .i64 0, .int .i64 0], .bool false]) (by simp [results, Try.results30, go_sem, z0, z1]) rfl ⟨by rw [HR.out]; rfl, ?_⟩
    exact ((nwT HB0.out HB1.out).setCell (p := ⟨w.heap.size + 1, 0, none⟩) (Nat.le_succ _) _).setCell (p := ⟨w.heap.size + 1, 1, none⟩) (Nat.le_succ _) _
  | some k =>
    obtain ⟨e1, e2⟩ := HI.out (some k) hin
    have HR : Hid (res = .tuple #[ptrV (l.getD k EZ).dev (plc (l.getD k EZ) n), .bool true]) := e2
    obtain ⟨hkl, hhas⟩ := inT_some hin
    have hh := hasB_iff.1 hhas
    have hF := HF.out k hkl
    have hk0 : (0 : Int) ≤ (k : Int) := by omega
    have hki : (k : Int) < (l.length : Int) := by omega
    rw [e1]
    obtain ⟨z0, z1, zf⟩ := two hz1
    obtain ⟨a0, a1, a2, _⟩ := three hx1
    obtain ⟨b, o, rfl, hE⟩ := (HE.out w1 hb1).ent hkl
    have hbl : b < w1.heap.size := hE.lt
    generalize l.getD k EZ = x at hh hF HR hE
    obtain ⟨c0, c1, c2, c3, c4⟩ := hE
    have e3 : IntKind.i64.wrap (x.tgt + n) = x.tgt + n := wrap_i (by have := hF.f0; have := hF.t0; omega) (by have := hF.f1; have := hF.l1; have := hF.t1; omega)
    have e4 : IntKind.i64.wrap (x.tgt + n - x.frm) = x.tgt + n - x.frm := wrap_i (by have := hF.f0; have := hF.t0; have := hF.f1; omega) (by have := hF.f1; have := hF.l1; have := hF.t1; have := hF.f0; omega)
    clear e1 e2 hin HI hx1 hz1 hb1 hh hF hhas
    go_wp2_with fail
    go_region
    all_goals (try go_wp2_with fail)
    all_goals
      refine bodyPost_ret (v := .tuple #[.agg #[.int .i64 x.dev, .int .i64 (x.tgt + n - x.frm)], .bool true]) (by simp [results, Try.results30, go_sem, z0, z1]) rfl ⟨by rw [HR.out]; rfl, ?_⟩
      exact Below.drew (((nwT HB0.out HB1.out).setCell (p := ⟨w.heap.size + 1, 0, none⟩) (Nat.le_succ _) _).setCell (p := ⟨w.heap.size + 1, 1, none⟩) (Nat.le_succ _) _)

set_option maxRecDepth 100000 in
set_option maxHeartbeats 2000000 in
theorem rend_any (v : Value) (t : TabD) (w : World) (hv : TabVal w v t) (hl : t.list.length ≤ 1000) (hf : ∀ i, i < t.list.length → Fair (t.list.getD i EZ)) :
    Calls Try.prog 24 #[v] w fun e w' => e = .returned (.int .i64 (endT t.list)) ∧ Below w.heap.size w w' := by
  obtain ⟨a, c, rfl, hx, _⟩ := hv
  obtain ⟨d, s, l⟩ := t
  simp only at hx hl hf ⊢
  by_cases h0 : l.length = 0
  · have hle : l = [] := List.length_eq_zero_iff.1 h0
    subst hle
    go_enter Try.func24, Try.ntmps24
    go_wp2_with fail
    go_ret
    exact ⟨rfl, nwA (nwR w) _⟩
  · obtain ⟨k, hk⟩ : ∃ k, l.length = k + 1 := ⟨l.length - 1, by omega⟩
    obtain ⟨b, o, rfl, hE⟩ := hx.ent (show k < l.length by omega)
    have hF := hf k (by omega)
    have hbl := hE.lt
    have HR : Hid (endT l = (l.getD k EZ).frm + (l.getD k EZ).len) := by
      show _ = _
      unfold endT
      rw [getLast_getD (by omega), show l.length - 1 = k from by omega]
    obtain ⟨N, hN⟩ : ∃ N, N = l.length := ⟨_, rfl⟩
    have e0 : ((N : Int) == 0) = false := beq_eq_false_iff_ne.2 (by omega)
    have e1 : IntKind.i64.wrap ((N : Int) - 1) = (k : Int) := by rw [wrap_i] <;> omega
    have hk0 : (0 : Int) ≤ (k : Int) := by omega
    have hki : (k : Int) < (N : Int) := by omega
    have e0' : ¬ N = 0 := by omega
    generalize l.getD k EZ = x at hE hF HR
    obtain ⟨c0, c1, c2, c3, c4⟩ := hE
    have e2 : IntKind.i64.wrap (x.frm + x.len) = x.frm + x.len := wrap_i (by have := hF.f0; have := hF.l0; omega) (by have := hF.f1; have := hF.l1; omega)
    rw [← hN]
    clear hF hN hk h0 hf hl
    generalize endT l = res at HR ⊢
    go_enter Try.func24, Try.ntmps24
    go_wp2_with fail
    go_ret
    exact ⟨ret_int (by rw [HR.out]), nwA (nwA (nwR w) _) _⟩

set_option maxRecDepth 100000 in
set_option maxHeartbeats 2000000 in
theorem rlive_any (v : Value) (t : TabD) (w : World) (hv : TabVal w v t) (hl : t.list.length ≤ 1000) (hb : ∀ i, i < t.list.length → InE t.dev 64 (t.list.getD i EZ)) :
    Calls Try.prog 29 #[v] w fun e w' => e = .returned (.int .i64 (liveL t.list)) ∧ Below w.heap.size w w' := by
  obtain ⟨a, c, rfl, hx, _⟩ := hv
  obtain ⟨d, s, l⟩ := t
  simp only at hx hl hb ⊢
  obtain ⟨W0, hW0⟩ : ∃ W0, W0 = w.alloc (.cells #[.int .i64 d, .int .i64 s, .slice a l.length c] 24) := ⟨_, rfl⟩
  have hb0 : Below w.heap.size w W0 := by rw [hW0]; exact nwA (nwR w) _
  have HB0 : Hid (Below w.heap.size w W0) := hb0
  have hx0 : W0.heap[w.heap.size]? = some (.cells #[.int .i64 d, .int .i64 s, .slice a l.length c] 24 (0, 0)) := by rw [hW0]; exact heap_alloc_new w _
  have HX0 : Hid (∀ w', Below W0.heap.size W0 w' → w'.heap[w.heap.size]? = some (.cells #[.int .i64 d, .int .i64 s, .slice a l.length c] 24 (0, 0))) := fun w' h => (h.block _ (Array.getElem?_eq_some_iff.1 hx0).1).trans hx0
  have HX : Hid (∀ w', Below W0.heap.size W0 w' → EntsAt w' a l) := fun w' h => hx.below (nwT hb0 h)
  have HI : Hid (∀ i, i < l.length → InE d 64 (l.getD i EZ)) := hb
  have HBD : Hid (∀ k, k ≤ l.length → 0 ≤ liveL (l.take k) ∧ liveL (l.take k) ≤ 64 * k) := liveL_bd (fun i hi => by have h := hb i hi; have h1 := h.s0; have h2 := h.sl; have h3 := h.f0; have h4 := h.fl; omega)
  clear hx hb0 hx0 hb
  go_enter Try.func29, Try.ntmps29
  go_wp2_with fail
  rw [← hW0]
  clear hW0
  go_loopw [3, 4] (fun n i wr => ∃ (k : Nat) (m : Int), k ≤ l.length ∧ n = .int .i64 m ∧ i = .int .i64 k ∧ Hid (m = liveL (l.take k)) ∧ Below W0.heap.size W0 wr)
    (fun _ i _ => l.length - (intOf i).toNat)
  case atStart => exact ⟨0, 0, by omega, rfl, rfl, rfl, nwR _⟩
  case round =>
    obtain ⟨k, m, hk, rfl, rfl, HM, hb⟩ := hrel
    obtain ⟨a0, a1, a2, _⟩ := three (HX0.out wr hb)
    by_cases hkl : k < l.length
    case neg =>
      have hkli : ¬ (k : Int) < (l.length : Int) := by omega
      have HZ : Hid (m = liveL l) := by
        show _ = _
        rw [HM.out, List.take_of_length_le (by omega)]
      clear HM
      go_wp2_with fail
      go_ret
      exact ⟨by rw [HZ.out]; rfl, nwT HB0.out hb⟩
    case pos =>
    have hkli : (k : Int) < (l.length : Int) := by omega
    have hk0 : (0 : Int) ≤ (k : Int) := by omega
    obtain ⟨b, o, rfl, hE⟩ := (HX.out wr hb).ent hkl
    have h1 := HBD.out k (by omega)
    have h := HI.out k hkl
    have HN : Hid (m + (l.getD k EZ).len - (l.getD k EZ).stale = liveL (l.take (k + 1))) := by
      show _ = _
      rw [take_snoc hkl, liveL_snoc, HM.out]; omega
    rw [← HM.out] at h1
    clear HM
    generalize l.getD k EZ = x at hE h HN
    have e1 : IntKind.i64.wrap (m + x.len) = m + x.len := wrap_i (by have := h.l0; omega) (by have := h.f0; have := h.fl; omega)
    have e2 : IntKind.i64.wrap (m + x.len - x.stale) = m + x.len - x.stale := wrap_i (by have := h.sl; omega) (by have := h.f0; have := h.fl; have := h.s0; omega)
    obtain ⟨c0, c1, c2, c3, c4⟩ := hE
    clear h h1
    go_wp2_with fail
    go_quiet (fail)
    go_wp2_with fail
    go_roundw
    case rel => exact ⟨k + 1, m + x.len - x.stale, by omega, rfl, by go_num, HN, below_drewN hb _⟩
    case measure => simp [intOf]; omega

end Go.Proofs.Ytijldakgfgmbiaa
