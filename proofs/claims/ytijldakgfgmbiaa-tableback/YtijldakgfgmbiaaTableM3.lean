/- Laid together: Live, Range, Lose, Del, Tidy. -/
import Derived.Test.YtijldakgfgmbiaaTableM2
/- How many sectors are not stale; the entries of some sectors. -/
namespace Go.Proofs.Ytijldakgfgmbiaa
open Go.RowKit

def liveL (l : List EntD) : Int := (l.map fun x => x.len - x.stale).sum
theorem liveL_snoc (l : List EntD) (x : EntD) : liveL (l ++ [x]) = liveL l + (x.len - x.stale) := by unfold liveL; simp
theorem take_snoc {l : List EntD} {k : Nat} (hk : k < l.length) : l.take (k + 1) = l.take k ++ [l.getD k EZ] := by
  rw [List.take_succ_eq_append_getElem hk]; simp [List.getD, hk]
theorem liveL_bd {l : List EntD} (h : ∀ i, i < l.length → 0 ≤ (l.getD i EZ).len - (l.getD i EZ).stale ∧ (l.getD i EZ).len - (l.getD i EZ).stale ≤ 64) : ∀ k, k ≤ l.length → 0 ≤ liveL (l.take k) ∧ liveL (l.take k) ≤ 64 * k := by
  intro k
  induction k with
  | zero => intro _; simp [liveL]
  | succ k ih =>
    intro hk
    have h1 := ih (by omega)
    have h2 := h k (by omega)
    rw [take_snoc (by omega), liveL_snoc]
    omega
set_option maxRecDepth 100000 in
set_option maxHeartbeats 2000000 in
theorem liveRow_any (a : Option Addr) (c : Nat) (l : List EntD) (w : World) (hx : EntsAt w a l) (hl : l.length ≤ 1000) (hb : ∀ i, i < l.length → 0 ≤ (l.getD i EZ).len - (l.getD i EZ).stale ∧ (l.getD i EZ).len - (l.getD i EZ).stale ≤ 64) :
    Calls Try.prog 45 #[.slice a l.length c] w fun e w' => e = .returned (.int .i64 (liveL l)) ∧ Below w.heap.size w w' := by
  have HX : Hid (∀ w', Below w.heap.size w w' → EntsAt w' a l) := fun w' h => hx.below h
  have HBD : Hid (∀ k, k ≤ l.length → 0 ≤ liveL (l.take k) ∧ liveL (l.take k) ≤ 64 * k) := liveL_bd hb
  have HB1 : Hid (∀ i, i < l.length → 0 ≤ (l.getD i EZ).len - (l.getD i EZ).stale ∧ (l.getD i EZ).len - (l.getD i EZ).stale ≤ 64) := hb
  clear hx hb
  go_enter Try.func45, Try.ntmps45
  go_wp2_with fail
  go_loopw [3, 8] (fun n i wr => ∃ (k : Nat) (m : Int), k ≤ l.length ∧ n = .int .i64 m ∧ i = .int .i64 k ∧ Hid (m = liveL (l.take k)) ∧ Below w.heap.size w wr)
    (fun _ i _ => l.length - (intOf i).toNat)
  case atStart => exact ⟨0, 0, by omega, rfl, rfl, rfl, nwR w⟩
  case round =>
    obtain ⟨k, m, hk, rfl, rfl, HM, hb⟩ := hrel
    by_cases hkl : k < l.length
    case neg =>
      have hkli : ¬ (k : Int) < (l.length : Int) := by omega
      have HZ : Hid (m = liveL l) := by
        show _ = _
        rw [HM.out, List.take_of_length_le (by omega)]
      clear HM
      go_wp2_with fail
      go_ret
      exact ⟨by rw [HZ.out]; rfl, hb⟩
    case pos =>
    have hkli : (k : Int) < (l.length : Int) := by omega
    obtain ⟨b, o, rfl, hE⟩ := (HX.out wr hb).ent hkl
    have h1 := HBD.out k (by omega)
    have h2 := HB1.out k hkl
    have HN : Hid (m + ((l.getD k EZ).len - (l.getD k EZ).stale) = liveL (l.take (k + 1))) := by
      show _ = _
      rw [take_snoc hkl, liveL_snoc, HM.out]
    rw [← HM.out] at h1
    clear HM
    generalize l.getD k EZ = x at hE h2 HN
    have e1 : IntKind.i64.wrap (x.len - x.stale) = x.len - x.stale := wrap_i (by omega) (by omega)
    have e2 : IntKind.i64.wrap (m + (x.len - x.stale)) = m + (x.len - x.stale) := wrap_i (by omega) (by omega)
    obtain ⟨c0, c1, c2, c3, c4⟩ := hE
    go_wp2_with fail
    go_roundw
    case rel => exact ⟨k + 1, m + (x.len - x.stale), by omega, rfl, by go_num, HN, nwA hb _⟩
    case measure => simp [intOf]; omega

set_option maxRecDepth 100000 in
set_option maxHeartbeats 2000000 in
theorem live_any (v : Value) (t : TabD) (w : World) (hv : TabVal w v t) (hr : RngL t.list) :
    Calls Try.prog 19 #[v] w fun e w' => e = .returned (if tokB t then .tuple #[.int .i64 (liveL t.list), .int .i64 0] else .tuple #[.int .i64 0, .int .i64 1]) ∧ Below w.heap.size w w' := by
  have HV : Hid (∀ w', Below w.heap.size w w' → TabVal w' v t) := fun w' h => hv.below h
  obtain ⟨a, c, rfl, hx, hn⟩ := hv
  obtain ⟨W0, hW0⟩ : ∃ W0, W0 = w.alloc (.cells #[.int .i64 t.dev, .int .i64 t.size, .slice a t.list.length c] 24) := ⟨_, rfl⟩
  have HB0 : Hid (Below w.heap.size w W0) := by rw [hW0]; exact nwA (nwR w) _
  have HO : Hid (Calls Try.prog 37 #[.agg #[.int .i64 t.dev, .int .i64 t.size, .slice a t.list.length c], .slice none 0 0] W0 fun e w' => ((tokB t = false ∧ e = .returned (.tuple #[.pointer none, .int .i64 1])) ∨ (tokB t = true ∧ ∃ g, e = .returned (.tuple #[.pointer (some ⟨g, 0, none⟩), .int .i64 0]) ∧ ShOwn w' W0.heap.size g t)) ∧ Below W0.heap.size W0 w') := open_one (HV.out W0 HB0.out) hr
  have HQ : Hid (∀ p, tokB t = p → (if tokB t then Value.tuple #[.int .i64 (liveL t.list), .int .i64 0] else .tuple #[.int .i64 0, .int .i64 1]) = if p then Value.tuple #[.int .i64 (liveL t.list), .int .i64 0] else .tuple #[.int .i64 0, .int .i64 1]) := fun p h => by subst h; rfl
  generalize (if tokB t then Value.tuple #[.int .i64 (liveL t.list), .int .i64 0] else .tuple #[.int .i64 0, .int .i64 1]) = res at HQ ⊢
  clear hx hr hn HV
  go_enter Try.func19, Try.ntmps19
  go_wp2_with fail
  rw [← hW0]
  clear hW0
  refine HO.out.mono ?_
  rintro e w1 ⟨hor, hb1⟩
  have HB1 : Hid (Below w.heap.size w w1) := nwT HB0.out hb1
  clear hb1 HO
  rcases hor with ⟨ht, rfl⟩ | ⟨ht, g, rfl, hg, u, hs, ho⟩
  · have HR : Hid (res = .tuple #[.int .i64 0, .int .i64 1]) := HQ.out false ht
    clear HQ ht
    go_wp2_with fail
    go_ret2
    exact ⟨by rw [HR.out]; rfl, HB1.out⟩
  · have HR : Hid (res = .tuple #[.int .i64 (liveL t.list), .int .i64 0]) := HQ.out true ht
    have hT := tok_iff.1 ht
    obtain ⟨av, cv, rfl, hxe, _⟩ := ho.at
    have HL : Hid (Calls Try.prog 45 #[.slice av t.list.length cv] w1 fun e w' => e = .returned (.int .i64 (liveL t.list)) ∧ Below w1.heap.size w1 w') := liveRow_any av cv t.list w1 hxe (by have := hT.len; omega) (fun i hi => by
      have h := hT.inE hi
      have h1 := h.s0; have h2 := h.sl; have h3 := h.f0; have h4 := h.fl; have h5 := hT.s1
      omega)
    obtain ⟨s0, s1, s2, _⟩ := three hs
    clear HQ ht hT hxe hs ho hg
    generalize liveL t.list = m at HR HL
    go_wp2_with fail
    refine HL.out.mono ?_
    rintro e w2 ⟨rfl, hb2⟩
    have HB2 : Hid (Below w.heap.size w w2) := nwT HB1.out hb2
    clear hb2 HL s0 s1 s2
    go_wp2_with fail
    go_ret2
    exact ⟨by rw [HR.out]; rfl, HB2.out⟩

theorem ents_one (w : World) (y : EntD) (t : TypeId) : EntsAt (w.alloc (.cells #[.int .i64 y.frm, .int .i64 y.len, .int .i64 y.dev, .int .i64 y.tgt, .int .i64 y.stale] t)) (some ⟨w.heap.size, 0, none⟩) [y] := by
  refine .inr ⟨w.heap.size, 0, rfl, fun i hi => ?_⟩
  obtain rfl : i = 0 := by simpa using hi
  obtain ⟨c0, c1, c2, c3, c4, _⟩ := five (heap_alloc_new w (.cells #[.int .i64 y.frm, .int .i64 y.len, .int .i64 y.dev, .int .i64 y.tgt, .int .i64 y.stale] t))
  exact ⟨c0, c1, c2, c3, c4⟩
/-- the entries of some sectors -/
def rngL (l : List EntD) (f n : Int) : List EntD := l.filterMap fun x => cutD x f n
theorem rngL_snoc (l : List EntD) (x : EntD) (f n : Int) : rngL (l ++ [x]) f n = rngL l f n ++ (match cutD x f n with | some y => [y] | none => []) := by
  unfold rngL
  rw [List.filterMap_append]
  congr 1
  cases h : cutD x f n <;> simp [h]
theorem rngL_len (l : List EntD) (f n : Int) : (rngL l f n).length ≤ l.length := List.length_filterMap_le _ _
set_option maxRecDepth 100000 in
set_option maxHeartbeats 4000000 in
theorem cutRow_any (a : Option Addr) (c : Nat) (l : List EntD) (f n : Int) (w : World) (hx : EntsAt w a l) (hl : l.length ≤ 1000) (hf : ∀ i, i < l.length → Fair (l.getD i EZ)) :
    Calls Try.prog 40 #[.slice a l.length c, .int .i64 f, .int .i64 n] w fun e w' => (∃ v, e = .returned v ∧ OwnEnts w' w.heap.size v (rngL l f n)) ∧ Below w.heap.size w w' := by
  have HX : Hid (∀ w', Below w.heap.size w w' → EntsAt w' a l) := fun w' h => hx.below h
  have HF : Hid (∀ i, i < l.length → Fair (l.getD i EZ)) := hf
  clear hx hf
  obtain ⟨i0, hi, hz0, hz1, hz2⟩ := info_parts Try.info49
  go_enter Try.func40, Try.ntmps40
  go_wp2_with fail
  go_loopw [7, 13] (fun v i wr => ∃ (k : Nat), k ≤ l.length ∧ i = .int .i64 k ∧ Hid (OwnEnts wr w.heap.size v (rngL (l.take k) f n)) ∧ Below w.heap.size w wr)
    (fun _ i _ => l.length - (intOf i).toNat)
  case atStart => exact ⟨0, by omega, rfl, OwnEnts.nil _ _, nwR w⟩
  case round =>
    obtain ⟨k, hk, rfl, HO, hb⟩ := hrel
    by_cases hkl : k < l.length
    case neg =>
      have hkli : ¬ (k : Int) < (l.length : Int) := by omega
      have HZ : Hid (OwnEnts wr w.heap.size u7 (rngL l f n)) := by
        have := HO.out
        rw [List.take_of_length_le (by omega)] at this
        exact this
      obtain ⟨_, _, rfl, _⟩ := HZ.out.at
      go_wp2_with fail
      go_ret
      exact ⟨⟨_, rfl, HZ.out⟩, hb⟩
    case pos =>
    have hkli : (k : Int) < (l.length : Int) := by omega
    obtain ⟨b, o, rfl, hE⟩ := (HX.out wr hb).ent hkl
    have HFX := HF.out k hkl
    have HS : Hid (rngL (l.take (k + 1)) f n = rngL (l.take k) f n ++ (match cutD (l.getD k EZ) f n with | some y => [y] | none => [])) := by
      show _ = _
      rw [take_snoc hkl, rngL_snoc]
    have hlen : (rngL (l.take k) f n).length ≤ k := by
      have := rngL_len (l.take k) f n
      rw [List.length_take] at this; omega
    have HAT : Hid (Calls Try.prog 50 #[.slice (some ⟨b, o, none⟩) l.length c, .int .i64 k] wr fun e w' => e = .returned (.agg #[.pointer (some ⟨b, o + k * 5, none⟩)]) ∧ Below wr.heap.size wr w') := at_any b o l.length c k wr hkl
    generalize l.getD k EZ = x at hE HFX HS
    have HC : Hid (∀ w', Below wr.heap.size wr w' → Calls Try.prog 52 #[.agg #[.pointer (some ⟨b, o + k * 5, none⟩)], .int .i64 f, .int .i64 n] w' fun e w'' => e = .returned (cutR (cutD x f n)) ∧ Below w'.heap.size w' w'') := fun w' h => cutE_any b (o + k * 5) x f n w' (hE.below h) HFX
    clear hE HFX
    generalize cutD x f n = y at HS HC
    go_wp2_with fail
    refine HAT.out.mono ?_
    rintro e w1 ⟨rfl, hb1⟩
    have HCW := HC.out w1 hb1
    have HW1 : Hid (Below w.heap.size w w1) := nwT hb hb1
    have HO1 : Hid (OwnEnts w1 w.heap.size u7 (rngL (l.take k) f n)) := HO.out.below hb1
    clear hb1 HAT HC HO
    go_wp2_with fail
    refine HCW.mono ?_
    rintro e w2 ⟨rfl, hb2⟩
    have HW2 : Hid (Below w.heap.size w w2) := nwT HW1.out hb2
    have HO2 : Hid (OwnEnts w2 w.heap.size u7 (rngL (l.take k) f n)) := HO1.out.below hb2
    clear hb2 HCW HO1
    cases y with
    | none =>
      unfold cutR
      have HO3 : Hid (OwnEnts (w2.alloc (.cells #[.int .i64 0, .int .i64 0, .int .i64 0, .int .i64 0, .int .i64 0] 49)) w.heap.size u7 (rngL (l.take (k + 1)) f n)) := by
        show OwnEnts _ _ _ _
        rw [HS.out, List.append_nil]
        exact HO2.out.below (nwA (nwR w2) _)
      clear HS
      go_wp2_with fail
      go_roundw
      case rel => exact ⟨k + 1, by omega, by go_num, HO3, nwA HW2.out _⟩
      case measure => simp [intOf]; omega
    | some y =>
      unfold cutR eagg
      obtain ⟨W3, hW3⟩ : ∃ W3, W3 = w2.alloc (.cells #[.int .i64 y.frm, .int .i64 y.len, .int .i64 y.dev, .int .i64 y.tgt, .int .i64 y.stale] 49) := ⟨_, rfl⟩
      have HB3 : Hid (Below w2.heap.size w2 W3) := by rw [hW3]; exact nwA (nwR w2) _
      have h3 : W3.heap[w2.heap.size]? = some (.cells #[.int .i64 y.frm, .int .i64 y.len, .int .i64 y.dev, .int .i64 y.tgt, .int .i64 y.stale] 49 (0, 0)) := by rw [hW3]; exact heap_alloc_new w2 _
      have HO3 : Hid (OwnEnts W3 w.heap.size u7 (rngL (l.take k) f n)) := HO2.out.below HB3.out
      obtain ⟨c0, c1, c2, c3, c4, _⟩ := five h3
      go_upto_region 7 with fail
      rw [← hW3]
      clear hW3
      have hb3 : Below w.heap.size w W3 := nwT HW2.out HB3.out
      have HO4 : Hid (OwnEnts (W3.alloc (.cells #[.int .i64 y.frm, .int .i64 y.len, .int .i64 y.dev, .int .i64 y.tgt, .int .i64 y.stale] 49)) w.heap.size u7 (rngL (l.take k) f n)) := HO3.out.below (nwA (nwR W3) _)
      have hb4 : Below w.heap.size w (W3.alloc (.cells #[.int .i64 y.frm, .int .i64 y.len, .int .i64 y.dev, .int .i64 y.tgt, .int .i64 y.stale] 49)) := nwA hb3 _
      go_wp2_with (at_builtin; refine wpList_append_ents _ rfl (.tmp 26) (.tmp 28) 22 rfl w.heap.size i0 _ Try.underlying22 hi hz0 hz1 hz2 rfl u7 (rngL (l.take k) f n) rfl HO4.out (some ⟨W3.heap.size, 0, none⟩) 1 [y] rfl (ents_one W3 y 49) (fun e => by cases e) (by simp only [List.length_cons, List.length_nil]; omega) hb4.size ?_; intro v' w5 hown hgrow; refine unstop ?_)
      unfold Stop
      have HB5 : Hid (Below w.heap.size w w5) := hb4.grown hgrow hb4.size (fun q e => (World.ownsRow.lt HO4.out q e).1)
      have HO5 : Hid (OwnEnts w5 w.heap.size v' (rngL (l.take (k + 1)) f n)) := by
        show OwnEnts _ _ _ _
        rw [HS.out]; exact hown
      clear hown hgrow hb3 hb4 c0 c1 c2 c3 c4
      go_wp2_with fail
      go_roundw
      case rel => exact ⟨k + 1, by omega, by go_num, HO5, HB5.out⟩
      case measure => simp [intOf]; omega

end Go.Proofs.Ytijldakgfgmbiaa

/- The entries of a table cut to some sectors. -/
namespace Go.Proofs.Ytijldakgfgmbiaa
open Go.RowKit

def RangeR (t : TabD) (n m : Int) (base : Nat) (e : Ending) (w' : World) : Prop :=
  ((tokB t = false ∨ m < 0 ∨ 64 < m) ∧ e = .returned (.tuple #[.slice none 0 0, .int .i64 1])) ∨
  ((tokB t = true ∧ 0 ≤ m ∧ m ≤ 64) ∧ ∃ v, e = .returned (.tuple #[v, .int .i64 0]) ∧ OwnEnts w' base v (rngL t.list (min n t.size) (min n t.size + m)))
set_option maxRecDepth 100000 in
set_option maxHeartbeats 4000000 in
theorem range_any (v : Value) (t : TabD) (n m : Int) (w : World) (hv : TabVal w v t) (hr : RngL t.list) (hn : Rng n) :
    Calls Try.prog 15 #[v, .int .i64 n, .int .i64 m] w fun e w' => RangeR t n m w.heap.size e w' ∧ Below w.heap.size w w' := by
  have HV : Hid (∀ w', Below w.heap.size w w' → TabVal w' v t) := fun w' h => hv.below h
  obtain ⟨a, c, rfl, hx, hnn⟩ := hv
  obtain ⟨W0, hW0⟩ : ∃ W0, W0 = w.alloc (.cells #[.int .i64 t.dev, .int .i64 t.size, .slice a t.list.length c] 24) := ⟨_, rfl⟩
  have HB0 : Hid (Below w.heap.size w W0) := by rw [hW0]; exact nwA (nwR w) _
  have HO : Hid (Calls Try.prog 37 #[.agg #[.int .i64 t.dev, .int .i64 t.size, .slice a t.list.length c], .slice none 0 0] W0 fun e w' => ((tokB t = false ∧ e = .returned (.tuple #[.pointer none, .int .i64 1])) ∨ (tokB t = true ∧ ∃ g, e = .returned (.tuple #[.pointer (some ⟨g, 0, none⟩), .int .i64 0]) ∧ ShOwn w' W0.heap.size g t)) ∧ Below W0.heap.size W0 w') := open_one (HV.out W0 HB0.out) hr
  have HN : Hid (Rng n) := hn
  clear hx hr hnn HV hn
  go_enter Try.func15, Try.ntmps15
  go_wp2_with fail
  rw [← hW0]
  clear hW0
  refine HO.out.mono ?_
  rintro e w1 ⟨hor, hb1⟩
  have HB1 : Hid (Below w.heap.size w w1) := nwT HB0.out hb1
  clear hb1 HO
  rcases hor with ⟨ht, rfl⟩ | ⟨ht, g, rfl, hg, u, hs, ho⟩
  · have HT : Hid (tokB t = false) := ht
    clear ht
    go_wp2_with fail
    go_ret2
    exact ⟨.inl ⟨.inl HT.out, rfl⟩, HB1.out⟩
  · have hT := tok_iff.1 ht
    have HT : Hid (tokB t = true) := ht
    by_cases h1 : m < 0
    · clear ht hs ho hg
      go_wp2_with fail
      go_ret2
      exact ⟨.inl ⟨.inr (.inl h1), rfl⟩, HB1.out⟩
    by_cases h2 : 64 < m
    · have h1' : 0 ≤ m := by omega
      clear ht hs ho hg h1
      go_wp2_with fail
      go_ret2
      exact ⟨.inl ⟨.inr (.inr h2), rfl⟩, HB1.out⟩
    have h1' : 0 ≤ m := by omega
    have h2' : m ≤ 64 := by omega
    have HM : Hid (0 ≤ m ∧ m ≤ 64) := ⟨h1', h2'⟩
    obtain ⟨av, cv, rfl, hxe, _⟩ := ho.at
    have hsz := hT.s1
    have hsz0 := hT.s0
    obtain ⟨f, hf⟩ : ∃ f, f = min n t.size := ⟨_, rfl⟩
    have HF : Hid (f = min n t.size) := hf
    have e1 : IntKind.i64.wrap (f + m) = f + m := wrap_i (by have := HN.out.1; omega) (by omega)
    have HC : Hid (Calls Try.prog 40 #[.slice av t.list.length cv, .int .i64 f, .int .i64 (f + m)] w1 fun e w' => (∃ v, e = .returned v ∧ OwnEnts w' w1.heap.size v (rngL t.list f (f + m))) ∧ Below w1.heap.size w1 w') := cutRow_any av cv t.list f (f + m) w1 hxe (by have := hT.len; omega) (fun i hi => hT.fair hi)
    obtain ⟨s0, s1, s2, _⟩ := three hs
    clear ht hT hxe hs ho hg h1 h2 hsz hsz0 hf
    go_upto_region 7 with fail
    rw [← HF.out]
    go_wp2_with fail
    refine HC.out.mono ?_
    rintro e w2 ⟨⟨v2, rfl, ho2⟩, hb2⟩
    have HB2 : Hid (Below w.heap.size w w2) := nwT HB1.out hb2
    have HO2 : Hid (OwnEnts w2 w.heap.size v2 (rngL t.list (min n t.size) (min n t.size + m))) := by
      rw [← HF.out]; exact ho2.le HB1.out.size
    clear ho2 hb2 HC s0 s1 s2
    go_wp2_with fail
    go_ret2
    exact ⟨.inr ⟨⟨HT.out, HM.out.1, HM.out.2⟩, v2, rfl, HO2.out⟩, HB2.out⟩

end Go.Proofs.Ytijldakgfgmbiaa

/- One sector more of an entry is stale. -/
namespace Go.Proofs.Ytijldakgfgmbiaa
open Go.RowKit

def incE (x : EntD) : EntD := ⟨x.frm, x.len, x.dev, x.tgt, x.stale + 1⟩
theorem eflat_inc (l : List EntD) : ∀ k, k < l.length → (eflat l).set (k * 5 + 4) (.int .i64 ((l.getD k EZ).stale + 1)) = eflat (l.set k (incE (l.getD k EZ))) := by
  induction l with
  | nil => intro k hk; simp at hk
  | cons x r ih =>
    intro k hk
    have e : ∀ (y : EntD) (s : List EntD), eflat (y :: s) = .int .i64 y.frm :: .int .i64 y.len :: .int .i64 y.dev :: .int .i64 y.tgt :: .int .i64 y.stale :: eflat s := fun y s => by simp [eflat, ecells]
    cases k with
    | zero => simp [e, incE]
    | succ k =>
      have := ih k (by simpa using hk)
      rw [show (k + 1) * 5 + 4 = (k * 5 + 4) + 1 + 1 + 1 + 1 + 1 from by omega]
      rw [List.set_cons_succ, e, e]
      simp only [List.set_cons_succ]
      rw [show (x :: r).getD (k + 1) EZ = r.getD k EZ from by simp [List.getD], this]
def tabZ : Value := .agg #[.int .i64 0, .int .i64 0, .slice none 0 0]
def LoseR (t : TabD) (n : Int) (base : Nat) (e : Ending) (w' : World) : Prop :=
  (tokB t = false ∧ e = .returned (.tuple #[tabZ, .int .i64 1])) ∨
  (tokB t = true ∧ inT t.list n = none ∧ e = .returned (.tuple #[tabZ, .int .i64 3])) ∨
  (tokB t = true ∧ ∃ k, inT t.list n = some k ∧ k < t.list.length ∧ (((t.list.getD k EZ).stale = (t.list.getD k EZ).len ∧ e = .returned (.tuple #[tabZ, .int .i64 9])) ∨
    ((t.list.getD k EZ).stale ≠ (t.list.getD k EZ).len ∧ ∃ v, e = .returned (.tuple #[v, .int .i64 0]) ∧ OwnTab w' base v ⟨t.dev, t.size, t.list.set k (incE (t.list.getD k EZ))⟩)))
set_option maxRecDepth 100000 in
set_option maxHeartbeats 8000000 in
theorem lose_any (v : Value) (t : TabD) (n : Int) (w : World) (hv : TabVal w v t) (hr : RngL t.list) :
    Calls Try.prog 17 #[v, .int .i64 n] w fun e w' => LoseR t n w.heap.size e w' ∧ Below w.heap.size w w' := by
  have HV : Hid (∀ w', Below w.heap.size w w' → TabVal w' v t) := fun w' h => hv.below h
  obtain ⟨a, c, rfl, hx, hn⟩ := hv
  obtain ⟨W0, hW0⟩ : ∃ W0, W0 = (w.alloc (.cells #[.int .i64 t.dev, .int .i64 t.size, .slice a t.list.length c] 24)).alloc (.cells #[.int .i64 0, .int .i64 0, .slice none 0 0] 24) := ⟨_, rfl⟩
  have hb0 : Below w.heap.size w W0 := by rw [hW0]; exact nwA (nwA (nwR w) _) _
  have HSZ : Hid (W0.heap.size = w.heap.size + 2) := by show _ = _; rw [hW0]; simp
  have HB0 : Hid (Below w.heap.size w W0) := hb0
  have hz0 : W0.heap[w.heap.size + 1]? = some (.cells #[.int .i64 0, .int .i64 0, .slice none 0 0] 24 (0, 0)) := by rw [hW0]; exact heap_alloc_new2 w _ _
  have HZ0 : Hid (∀ w', Below W0.heap.size W0 w' → w'.heap[w.heap.size + 1]? = some (.cells #[.int .i64 0, .int .i64 0, .slice none 0 0] 24 (0, 0))) := fun w' h => (h.block _ (Array.getElem?_eq_some_iff.1 hz0).1).trans hz0
  have HO : Hid (Calls Try.prog 41 #[.agg #[.int .i64 t.dev, .int .i64 t.size, .slice a t.list.length c], .int .i64 n] W0 fun e w' => OpenAtR t n W0.heap.size e w' ∧ Below W0.heap.size W0 w') := openAt_any _ t n W0 (HV.out W0 hb0) hr
  clear hx hr hn hb0 hz0 HV
  go_enter Try.func17, Try.ntmps17
  go_wp2_with fail
  rw [← hW0]
  clear hW0
  refine HO.out.mono ?_
  rintro e w1 ⟨hor, hb1⟩
  have HB1 : Hid (Below W0.heap.size W0 w1) := hb1
  clear hb1 HO
  rcases hor with ⟨ht, rfl⟩ | ⟨ht, hin, rfl⟩ | ⟨ht, k, g, b, cc, hin, hk, rfl, hg, hs, ho⟩
  · have HT : Hid (tokB t = false) := ht
    obtain ⟨z0, z1, z2, zf⟩ := three (HZ0.out _ (nwA HB1.out (.cells #[.pointer none] 82)))
    clear ht
    go_wp2_with fail
    refine bodyPost_ret (v := .tuple #[.agg #[.int .i64 0, .int .i64 0, .slice none 0 0], .int .i64 1]) (by simp [results, Try.results17, go_sem, z0, z1, z2]) rfl ⟨.inl ⟨HT.out, rfl⟩, ?_⟩
    exact three_below (nwA (nwT HB0.out HB1.out) _) (Nat.le_succ _)
  · have HT : Hid (tokB t = true ∧ inT t.list n = none) := ⟨ht, hin⟩
    obtain ⟨z0, z1, z2, zf⟩ := three (HZ0.out _ (nwA HB1.out (.cells #[.pointer none] 82)))
    clear ht hin
    go_wp2_with fail
    refine bodyPost_ret (v := .tuple #[.agg #[.int .i64 0, .int .i64 0, .slice none 0 0], .int .i64 3]) (by simp [results, Try.results17, go_sem, z0, z1, z2]) rfl ⟨.inr (.inl ⟨HT.out.1, HT.out.2, rfl⟩), ?_⟩
    exact three_below (nwA (nwT HB0.out HB1.out) _) (Nat.le_succ _)
  · have hT := tok_iff.1 ht
    have hI := hT.inE hk
    have HI : Hid (InE t.dev t.size (t.list.getD k EZ)) := hI
    have hs64 := hT.s1
    obtain ⟨_, _, e', hE, _⟩ := ho.at
    injection e' with e' _ e''
    subst e'; subst e''
    have hEk := hE.at hk
    rw [Nat.zero_add] at hEk
    have HEk : Hid (∀ w', Below w1.heap.size w1 w' → EntAt w' b (k * 5) (t.list.getD k EZ)) := fun w' h => hEk.below h
    have HS1 : Hid (∀ w', Below w1.heap.size w1 w' → ShAt w' g (.slice (some ⟨b, 0, none⟩) t.list.length cc) t.dev t.size) := fun w' h => hs.below h
    have HO1 : Hid (∀ w', Below w1.heap.size w1 w' → OwnEnts w' (g + 1) (.slice (some ⟨b, 0, none⟩) t.list.length cc) t.list) := fun w' h => ho.below h
    have HGB : Hid (W0.heap.size ≤ g ∧ g + 1 ≤ b) := ⟨hg, by obtain ⟨b', e', h⟩ := ho.zero.2 (by omega); injection e' with e'; injection e' with e1; subst e1; exact h⟩
    have HSt : Hid (∀ w', Below w1.heap.size w1 w' → Calls Try.prog 43 #[.agg #[.pointer (some ⟨b, k * 5, none⟩)]] w' fun e w'' => e = .returned (.bool ((t.list.getD k EZ).stale == (t.list.getD k EZ).len)) ∧ Below w'.heap.size w' w'') := fun w' h => isStale_any b (k * 5) _ w' (hEk.below h)
    have HLN : Hid (tokB t = true ∧ inT t.list n = some k ∧ k < t.list.length) := ⟨ht, hin, hk⟩
    have HFL : Hid (∀ v, v = .int .i64 ((t.list.getD k EZ).stale + 1) → (eflat t.list).set (k * 5 + 4) v = eflat (t.list.set k (incE (t.list.getD k EZ)))) := fun v h => by subst h; exact eflat_inc t.list k hk
    obtain ⟨x, hx⟩ : ∃ x, t.list.getD k EZ = x := ⟨_, rfl⟩
    have HXX : Hid (t.list.getD k EZ = x) := hx
    rw [hx] at HI HEk HSt HFL
    clear ht hin hT hI ho hE hEk hs hg hx hk
    obtain ⟨W2, hW2⟩ : ∃ W2, W2 = w1.alloc (.cells #[.pointer (some ⟨b, k * 5, none⟩)] 82) := ⟨_, rfl⟩
    have HB2 : Hid (Below w1.heap.size w1 W2) := by rw [hW2]; exact nwA (nwR w1) _
    have hp2 : W2.heap[w1.heap.size]? = some (.cells #[.pointer (some ⟨b, k * 5, none⟩)] 82 (0, 0)) := by rw [hW2]; exact heap_alloc_new w1 _
    have HP2 : Hid (∀ w', Below W2.heap.size W2 w' → w'.heap[w1.heap.size]? = some (.cells #[.pointer (some ⟨b, k * 5, none⟩)] 82 (0, 0))) := fun w' h => (h.block _ (Array.getElem?_eq_some_iff.1 hp2).1).trans hp2
    have HSW := HSt.out W2 HB2.out
    clear hp2
    by_cases hst : x.stale = x.len
    · have hsb : (x.stale == x.len) = true := beq_iff_eq.2 hst
      rw [hsb] at HSW
      go_wp2_with fail
      rw [← hW2]
      clear hW2
      refine HSW.mono ?_
      rintro e w3 ⟨rfl, hb3⟩
      have HB3 : Hid (Below W0.heap.size W0 w3) := nwT HB1.out (nwT HB2.out hb3)
      obtain ⟨z0, z1, z2, zf⟩ := three (HZ0.out _ HB3.out)
      have HST : Hid (x.stale = x.len) := hst
      clear HSW hb3 HSt hst hsb
      go_wp2_with fail
      refine bodyPost_ret (v := .tuple #[.agg #[.int .i64 0, .int .i64 0, .slice none 0 0], .int .i64 9]) (by simp [results, Try.results17, go_sem, z0, z1, z2]) rfl ⟨.inr (.inr ⟨HLN.out.1, k, HLN.out.2.1, HLN.out.2.2, .inl ⟨by rw [HXX.out]; exact HST.out, rfl⟩⟩), ?_⟩
      exact three_below (nwT HB0.out HB3.out) (Nat.le_succ _)
    · have hsb : (x.stale == x.len) = false := beq_eq_false_iff_ne.2 hst
      rw [hsb] at HSW
      have e1 : IntKind.i64.wrap (x.stale + 1) = x.stale + 1 := wrap_i (by have := HI.out.s0; omega) (by have := HI.out.sl; have := HI.out.f0; have := HI.out.fl; omega)
      go_wp2_with fail
      rw [← hW2]
      clear hW2
      refine HSW.mono ?_
      rintro e w3 ⟨rfl, hb3⟩
      have HB3 : Hid (Below w1.heap.size w1 w3) := nwT HB2.out hb3
      have HST : Hid (x.stale ≠ x.len) := hst
      obtain ⟨p0, _⟩ := one (HP2.out w3 hb3)
      obtain ⟨c0, c1, c2, c3, c4⟩ := HEk.out w3 HB3.out
      have HO3 : Hid (OwnEnts w3 (g + 1) (.slice (some ⟨b, 0, none⟩) t.list.length cc) t.list) := HO1.out w3 HB3.out
      have hfr : ∀ o, w3.frozen? ⟨b, o, none⟩ = false := by
        rcases HO3.out.2 with ⟨hv, _⟩ | ⟨g', cap, cur, hv, _, hg', _⟩
        · cases hv
        · injection hv with hv _ _
          injection hv with hv
          injection hv with hv
          subst hv
          exact fun o => Lib.frozen_of_heap hg' o
      clear HSW hb3 HSt hst hsb
      obtain ⟨W4, hW4⟩ : ∃ W4, W4 = w3.setCell ⟨b, k * 5 + 4, none⟩ (.int .i64 (x.stale + 1)) := ⟨_, rfl⟩
      have hgb := HGB.out
      have hszz := HSZ.out
      have HS4 : Hid (ShAt W4 g (.slice (some ⟨b, 0, none⟩) t.list.length cc) t.dev t.size) := by
        rw [hW4]; exact (heap_setCell_other w3 ⟨b, k * 5 + 4, none⟩ g _ (by show g ≠ b; omega)).trans (HS1.out w3 HB3.out)
      have HO4 : Hid (OwnEnts W4 (g + 1) (.slice (some ⟨b, 0, none⟩) t.list.length cc) (t.list.set k (incE x))) := by
        have h := (World.ownsRow.stored HO3.out (k * 5 + 4) (.int .i64 (x.stale + 1))).1
        rw [HFL.out _ rfl] at h
        rw [hW4]
        unfold OwnEnts
        rw [List.length_set]
        exact h
      have HZ4 : Hid (W4.heap[w.heap.size + 1]? = some (.cells #[.int .i64 0, .int .i64 0, .slice none 0 0] 24 (0, 0))) := by
        rw [hW4]; exact (heap_setCell_other w3 ⟨b, k * 5 + 4, none⟩ (w.heap.size + 1) _ (by show w.heap.size + 1 ≠ b; omega)).trans (HZ0.out w3 (nwT HB1.out HB3.out))
      have HB4 : Hid (Below w.heap.size w W4) := by rw [hW4]; exact (nwT HB0.out (nwT HB1.out HB3.out)).setCell (p := ⟨b, k * 5 + 4, none⟩) (by show w.heap.size ≤ b; omega) _
      have HTO : Hid (Calls Try.prog 39 #[.pointer (some ⟨g, 0, none⟩)] W4 fun e w' => e = .returned (.agg #[.int .i64 t.dev, .int .i64 t.size, .slice (some ⟨b, 0, none⟩) t.list.length cc]) ∧ Below W4.heap.size W4 w') := tableOf_any g _ _ cc t.dev t.size W4 HS4.out
      clear hgb hszz
      go_wp2_with fail
      rw [← hW4]
      clear hW4 p0 c0 c1 c2 c3 c4 hfr
      refine HTO.out.mono ?_
      rintro e w5 ⟨rfl, hb5⟩
      have HB5 : Hid (Below w.heap.size w w5) := nwT HB4.out hb5
      have HO5 : Hid (OwnEnts w5 (g + 1) (.slice (some ⟨b, 0, none⟩) t.list.length cc) (t.list.set k (incE x))) := HO4.out.below hb5
      have HZ5 : Hid (w5.heap[w.heap.size + 1]? = some (.cells #[.int .i64 0, .int .i64 0, .slice none 0 0] 24 (0, 0))) := (hb5.block _ (Array.getElem?_eq_some_iff.1 HZ4.out).1).trans HZ4.out
      obtain ⟨z0, z1, z2, zf⟩ := three HZ5.out
      clear hb5 HTO
      go_wp2_with fail
      refine bodyPost_ret (v := .tuple #[.agg #[.int .i64 t.dev, .int .i64 t.size, .slice (some ⟨b, 0, none⟩) t.list.length cc], .int .i64 0]) (by simp [results, Try.results17, go_sem, z0, z1, z2]) rfl ⟨.inr (.inr ⟨HLN.out.1, k, HLN.out.2.1, HLN.out.2.2, .inr ⟨by rw [HXX.out]; exact HST.out, _, rfl, _, rfl, ?_⟩⟩), ?_⟩
      · rw [HXX.out]
        have hgb := HGB.out
        have hszz := HSZ.out
        exact own_le (rowset (rowset (rowset HO5.out 0 (g := w.heap.size + 1) (by omega) _) 1 (g := w.heap.size + 1) (by omega) _) 2 (g := w.heap.size + 1) (by omega) _) (by omega)
      · exact three_below HB5.out (Nat.le_succ _)

end Go.Proofs.Ytijldakgfgmbiaa

/- Entries taken from a row: those that stay. -/
namespace Go.Proofs.Ytijldakgfgmbiaa
open Go.RowKit

/-- j of the row are looked at, those that stay stand at its first i places -/
structure Sift {α : Type} (p : α → Bool) (l l' : List α) (i j : Nat) : Prop where
  len : l'.length = l.length
  ij : i ≤ j
  done : l'.take i = (l.take j).filter p
  rest : l'.drop j = l.drop j
theorem sift_start {α : Type} {p : α → Bool} {l : List α} {k : Nat} (hk : k < l.length) (h : ∀ t, t < k → ∀ x, l[t]? = some x → p x = true) (hn : ∀ x, l[k]? = some x → p x = false) : Sift p l l k (k + 1) := by
  refine ⟨rfl, by omega, ?_, rfl⟩
  rw [List.take_succ_eq_append_getElem hk, List.filter_append]
  have h1 : (l.take k).filter p = l.take k := by
    rw [List.filter_eq_self]
    intro x hx
    obtain ⟨t, ht, rfl⟩ := List.getElem_of_mem hx
    rw [List.length_take] at ht
    exact h t (by omega) _ (by rw [List.getElem_take]; exact List.getElem?_eq_getElem (by omega))
  have h2 : p l[k] = false := hn _ (List.getElem?_eq_getElem hk)
  rw [h1]; simp [h2]
theorem Sift.get {α : Type} {p : α → Bool} {l l' : List α} {i j : Nat} (h : Sift p l l' i j) {t : Nat} (ht : j ≤ t) : l'[t]? = l[t]? := by
  have := congrArg (fun x => x[t - j]?) h.rest
  simp only [List.getElem?_drop] at this
  rwa [show j + (t - j) = t from by omega] at this
theorem Sift.keep {α : Type} {p : α → Bool} {l l' : List α} {i j : Nat} (h : Sift p l l' i j) {x : α} (hx : l[j]? = some x) (hp : p x = true) : Sift p l (l'.set i x) (i + 1) (j + 1) := by
  have hj := (List.getElem?_eq_some_iff.1 hx).1
  have hjx := (List.getElem?_eq_some_iff.1 hx).2
  have hl := h.len
  have hij := h.ij
  refine ⟨by rw [List.length_set]; exact hl, by omega, ?_, ?_⟩
  · rw [List.take_succ_eq_append_getElem (by rw [List.length_set]; omega), List.take_set_of_le (Nat.le_refl _), h.done, List.take_succ_eq_append_getElem hj, List.filter_append, hjx]
    simp [hp]
  · apply List.ext_getElem?
    intro t
    rw [List.getElem?_drop, List.getElem?_drop, List.getElem?_set, if_neg (by omega), h.get (by omega)]
theorem Sift.skip {α : Type} {p : α → Bool} {l l' : List α} {i j : Nat} (h : Sift p l l' i j) {x : α} (hx : l[j]? = some x) (hp : p x = false) : Sift p l l' i (j + 1) := by
  have hj := (List.getElem?_eq_some_iff.1 hx).1
  have hjx := (List.getElem?_eq_some_iff.1 hx).2
  have hij := h.ij
  refine ⟨h.len, by omega, ?_, ?_⟩
  · rw [h.done, List.take_succ_eq_append_getElem hj, List.filter_append, hjx]
    simp [hp]
  · apply List.ext_getElem?
    intro t
    rw [List.getElem?_drop, List.getElem?_drop, h.get (by omega)]
theorem Sift.fin {α : Type} {p : α → Bool} {l l' : List α} {i j : Nat} (h : Sift p l l' i j) (hj : l.length ≤ j) : l'.take i = l.filter p := by
  rw [h.done, List.take_of_length_le hj]
theorem Sift.le {α : Type} {p : α → Bool} {l l' : List α} {i j : Nat} (h : Sift p l l' i j) (hj : l.length = j) : (l.filter p).length = i := by
  rw [← h.fin (by omega), List.length_take, h.len]
  have := h.ij
  omega

theorem gb_setg {w w' : World} {g i : Nat} (h : w.grownBy w' (some g)) (v : Value) : w.grownBy (w'.setCell ⟨g, i, none⟩ v) (some g) :=
  h.trans ⟨rfl, rfl, rfl, by simp, fun k _ hk => heap_setCell_other w' ⟨g, i, none⟩ k v (fun e => hk (by simp [e]))⟩
theorem own_shrink {w : World} {base e size g n cap m : Nat} {xs : List Value} (h : w.ownsRow base e size (.slice (some ⟨g, 0, none⟩) n cap) n xs) (hm : m ≤ n) : w.ownsRow base e size (.slice (some ⟨g, 0, none⟩) m cap) m (xs.take (m * size)) := by
  have hms : m * size ≤ n * size := Nat.mul_le_mul_right _ hm
  refine ⟨by rw [List.length_take, h.1]; omega, .inr ?_⟩
  rcases h.2 with ⟨h1, _⟩ | ⟨g', cap', cur, h1, h2, h3, h4, h5, h6, h7⟩
  · simp at h1
  · simp only [Value.slice.injEq, Option.some.injEq, Addr.mk.injEq, and_true, true_and] at h1
    obtain ⟨rfl, rfl⟩ := h1
    exact ⟨g, cap, cur, rfl, h2, h3, by omega, h5, h6, by rw [← h7, List.take_take, Nat.min_eq_left hms]⟩
theorem own_setCells {base e size g n cap : Nat} : ∀ (vs : List Value) (o : Nat) (w : World) (xs : List Value), w.ownsRow base e size (.slice (some ⟨g, 0, none⟩) n cap) n xs →
    ∃ ys, (w.setCells g o vs).ownsRow base e size (.slice (some ⟨g, 0, none⟩) n cap) n ys ∧ ys.take o = xs.take o := by
  intro vs
  induction vs with
  | nil => intro o w xs h; exact ⟨xs, h, rfl⟩
  | cons v r ih =>
    intro o w xs h
    obtain ⟨ys, h1, h2⟩ := ih (o + 1) _ _ (World.ownsRow.stored h o v).1
    refine ⟨ys, h1, ?_⟩
    have := congrArg (List.take o) h2
    rw [List.take_take, List.take_take, Nat.min_eq_left (by omega), List.take_set_of_le (Nat.le_refl _)] at this
    exact this
theorem gb_setCells {w0 : World} {g : Nat} : ∀ (vs : List Value) (o : Nat) (w : World), w0.grownBy w (some g) → w0.grownBy (w.setCells g o vs) (some g) := by
  intro vs
  induction vs with
  | nil => intro o w h; exact h
  | cons v r ih => intro o w h; exact ih (o + 1) _ (gb_setg h _)
theorem eflat_cons (y : EntD) (ys : List EntD) : eflat (y :: ys) = .int .i64 y.frm :: .int .i64 y.len :: .int .i64 y.dev :: .int .i64 y.tgt :: .int .i64 y.stale :: eflat ys := by simp [eflat, ecells]
theorem eflat_set5 (gs : List EntD) : ∀ (i : Nat) (x : EntD), i < gs.length → eflat (gs.set i x) = (((((eflat gs).set (i * 5) (.int .i64 x.frm)).set (i * 5 + 1) (.int .i64 x.len)).set (i * 5 + 2) (.int .i64 x.dev)).set (i * 5 + 3) (.int .i64 x.tgt)).set (i * 5 + 4) (.int .i64 x.stale) := by
  induction gs with
  | nil => intro i x h; simp at h
  | cons y l ih =>
    intro i x h
    cases i with
    | zero => simp [eflat_cons]
    | succ i =>
      have := ih i x (by simpa using h)
      rw [show (i + 1) * 5 = i * 5 + 1 + 1 + 1 + 1 + 1 from by omega, show i * 5 + 1 + 1 + 1 + 1 + 1 + 1 = (i * 5 + 1) + 1 + 1 + 1 + 1 + 1 from rfl, show i * 5 + 1 + 1 + 1 + 1 + 1 + 2 = (i * 5 + 2) + 1 + 1 + 1 + 1 + 1 from rfl, show i * 5 + 1 + 1 + 1 + 1 + 1 + 3 = (i * 5 + 3) + 1 + 1 + 1 + 1 + 1 from rfl, show i * 5 + 1 + 1 + 1 + 1 + 1 + 4 = (i * 5 + 4) + 1 + 1 + 1 + 1 + 1 from rfl]
      simp only [List.set_cons_succ, eflat_cons]
      rw [this]
theorem eflat_take (gs : List EntD) (k : Nat) : eflat (gs.take k) = (eflat gs).take (k * 5) := by
  induction gs generalizing k with
  | nil => simp [eflat]
  | cons y l ih =>
    cases k with
    | zero => simp [eflat]
    | succ k =>
      rw [List.take_succ_cons, eflat_cons, eflat_cons, ih k, show (k + 1) * 5 = k * 5 + 1 + 1 + 1 + 1 + 1 from by omega]
      simp
def RowW (w : World) (base g n cap : Nat) (gs : List EntD) : Prop := w.ownsRow base 49 5 (.slice (some ⟨g, 0, none⟩) n cap) n (eflat gs)
theorem RowW.cellAt {w : World} {base g n cap : Nat} {gs : List EntD} (h : RowW w base g n cap gs) {i : Nat} {x : EntD} (hx : gs[i]? = some x) : w.cell? ⟨g, i * 5, none⟩ = some (.int .i64 x.frm) ∧ w.cell? ⟨g, i * 5 + 1, none⟩ = some (.int .i64 x.len) ∧ w.cell? ⟨g, i * 5 + 2, none⟩ = some (.int .i64 x.dev) ∧ w.cell? ⟨g, i * 5 + 3, none⟩ = some (.int .i64 x.tgt) ∧ w.cell? ⟨g, i * 5 + 4, none⟩ = some (.int .i64 x.stale) := by
  have hi := (List.getElem?_eq_some_iff.1 hx).1
  obtain ⟨c0, c1, c2, c3, c4⟩ := eflat_get gs i hi
  rw [show gs.getD i EZ = x from by simp [List.getD, hx]] at c0 c1 c2 c3 c4
  have K : ∀ j u, (eflat gs)[j]? = some u → w.cell? ⟨g, j, none⟩ = some u := fun j u hj => by
    have := World.ownsRow.cells h (g := g) rfl j u hj
    rwa [addr_add, Nat.zero_add] at this
  exact ⟨K _ _ c0, K _ _ c1, K _ _ c2, K _ _ c3, K _ _ c4⟩
theorem RowW.setAt {w : World} {base g n cap : Nat} {gs : List EntD} (h : RowW w base g n cap gs) {i : Nat} (x : EntD) (hi : i < gs.length) : RowW (((((w.setCell ⟨g, i * 5, none⟩ (.int .i64 x.frm)).setCell ⟨g, i * 5 + 1, none⟩ (.int .i64 x.len)).setCell ⟨g, i * 5 + 2, none⟩ (.int .i64 x.dev)).setCell ⟨g, i * 5 + 3, none⟩ (.int .i64 x.tgt)).setCell ⟨g, i * 5 + 4, none⟩ (.int .i64 x.stale)) base g n cap (gs.set i x) := by
  have h1 := (World.ownsRow.stored h (i * 5) (.int .i64 x.frm)).1
  have h2 := (h1.stored (i * 5 + 1) (.int .i64 x.len)).1
  have h3 := (h2.stored (i * 5 + 2) (.int .i64 x.dev)).1
  have h4 := (h3.stored (i * 5 + 3) (.int .i64 x.tgt)).1
  have h5 := (h4.stored (i * 5 + 4) (.int .i64 x.stale)).1
  unfold RowW
  rw [eflat_set5 gs i x hi]
  exact h5
theorem zero5 {z0 z1 z2 z3 z4 : Value} (h : z0.oneCell' = true ∧ z1.oneCell' = true ∧ z2.oneCell' = true ∧ z3.oneCell' = true ∧ z4.oneCell' = true) (n : Nat) : ∀ v ∈ (Builtin.zeroCells #[z0, z1, z2, z3, z4] n).toList, v.oneCell' = true := by
  intro v hv
  simp only [Builtin.zeroCells, Array.toList_map, List.mem_map] at hv
  obtain ⟨i, _, rfl⟩ := hv
  have hi : i % 5 < 5 := Nat.mod_lt _ (by omega)
  show (#[z0, z1, z2, z3, z4][i % 5]!).oneCell' = true
  generalize i % 5 = m at hi
  have : m = 0 ∨ m = 1 ∨ m = 2 ∨ m = 3 ∨ m = 4 := by omega
  rcases this with rfl | rfl | rfl | rfl | rfl
  · exact h.1
  · exact h.2.1
  · exact h.2.2.1
  · exact h.2.2.2.1
  · exact h.2.2.2.2
theorem clear_ents (w : World) (b o n c : Nat) (hc : ∀ j, j < n * 5 → (w.cell? ⟨b, o + j, none⟩).isSome = true) (hf : ∀ j, w.frozen? ⟨b, j, none⟩ = false) :
    ∃ vs : List Value, ∀ ty, (Builtin.clear_ #[76] ty #[.slice (some ⟨b, o, none⟩) n c]).run Try.prog w = .ok (.tuple #[]) (w.setCells b o vs) := by
  cases n with
  | zero => exact ⟨[], fun ty => by simp [Builtin.clear_, run_underlying Try.underlying76, World.setCells]⟩
  | succ m =>
    have hv : (zeroValue 49).run Try.prog w = .ok (.agg #[.int .i64 0, .int .i64 0, .int .i64 0, .int .i64 0, .int .i64 0]) w := by kernel_rfl
    have hst := run_storeCells_cells (P := Try.prog) b o (Builtin.zeroCells #[.int .i64 0, .int .i64 0, .int .i64 0, .int .i64 0, .int .i64 0] (m + 1)).toList 0 w (fun j hj => by
      rw [Nat.add_zero]; exact hc j (by simpa [Builtin.zeroCells] using hj)) (fun j _ => hf _) (zero5 ⟨rfl, rfl, rfl, rfl, rfl⟩ _)
    simp only [Nat.add_zero] at hst
    refine ⟨(Builtin.zeroCells #[.int .i64 0, .int .i64 0, .int .i64 0, .int .i64 0, .int .i64 0] (m + 1)).toList, fun ty => ?_⟩
    have hz : (Value.agg #[.int .i64 0, .int .i64 0, .int .i64 0, .int .i64 0, .int .i64 0]).cells = #[.int .i64 0, .int .i64 0, .int .i64 0, .int .i64 0, .int .i64 0] := by kernel_rfl
    simp [Builtin.clear_, run_underlying Try.underlying76, hv, hz, hst]

/-- stale altogether -/
def gone (x : EntD) : Bool := x.stale == x.len
def stayE (x : EntD) : Bool := !gone x
def restE (l : List EntD) : List EntD := l.filter stayE
theorem restE_all {l : List EntD} (h : l.findIdx? gone = none) : restE l = l := by
  unfold restE
  rw [List.filter_eq_self]
  intro d hd
  rw [List.findIdx?_eq_none_iff] at h
  unfold stayE
  rw [h d hd]; rfl
theorem ents_sifted {w : World} {base g n cap m : Nat} {gs gs' : List EntD} {vs : List Value} (hs : Sift stayE gs gs' m n) (hn : gs.length = n) (h : RowW w base g n cap gs') :
    OwnEnts (w.setCells g (m * 5) vs) base (.slice (some ⟨g, 0, none⟩) m cap) (restE gs) := by
  obtain ⟨ys, h1, h2⟩ := own_setCells vs (m * 5) w (eflat gs') h
  have h3 := own_shrink h1 hs.ij
  have hf := hs.fin (by omega)
  have hle := hs.le hn
  unfold OwnEnts restE
  rw [hle, ← hf, eflat_take, ← h2]
  exact h3

set_option maxRecDepth 100000 in
set_option maxHeartbeats 1000000 in
theorem clos_any (x : EntD) (w : World) : Calls Try.prog 55 #[eagg x] w fun e w' => e = .returned (.bool (gone x)) ∧ Below w.heap.size w w' := by
  obtain ⟨W0, hW0⟩ : ∃ W0, W0 = w.alloc (.cells #[.int .i64 x.frm, .int .i64 x.len, .int .i64 x.dev, .int .i64 x.tgt, .int .i64 x.stale] 49) := ⟨_, rfl⟩
  have HB0 : Hid (Below w.heap.size w W0) := by rw [hW0]; exact nwA (nwR w) _
  have hE : EntAt W0 w.heap.size 0 x := by
    obtain ⟨c0, c1, c2, c3, c4, _⟩ := five (heap_alloc_new w (.cells #[.int .i64 x.frm, .int .i64 x.len, .int .i64 x.dev, .int .i64 x.tgt, .int .i64 x.stale] 49))
    rw [hW0]; exact ⟨c0, c1, c2, c3, c4⟩
  have HI : Hid (Calls Try.prog 43 #[.agg #[.pointer (some ⟨w.heap.size, 0, none⟩)]] W0 fun e w' => e = .returned (.bool (gone x)) ∧ Below W0.heap.size W0 w') := isStale_any w.heap.size 0 x W0 hE
  generalize gone x = p at HI ⊢
  clear hE
  unfold eagg
  go_enter Try.func55, Try.ntmps55
  go_wp2_with fail
  rw [← hW0]
  clear hW0
  refine HI.out.mono ?_
  rintro e w1 ⟨rfl, hb1⟩
  have HB1 : Hid (Below w.heap.size w w1) := nwT HB0.out hb1
  clear hb1 HI
  go_wp2_with fail
  go_ret
  exact ⟨rfl, HB1.out⟩

set_option maxRecDepth 100000 in
set_option maxHeartbeats 1000000 in
theorem idx_any (a : Option Addr) (c : Nat) (l : List EntD) (w : World) (hx : EntsAt w a l) (hl : l.length ≤ 1000) :
    Calls Try.prog 61 #[.slice a l.length c, .func (.func 55) #[] #[]] w fun e w' => e = .returned (.int .i64 (optI (l.findIdx? gone))) ∧ Below w.heap.size w w' := by
  have HX : Hid (∀ w', Below w.heap.size w w' → EntsAt w' a l) := fun w' h => hx.below h
  clear hx
  go_enter Try.func61, Try.ntmps61
  go_wp2_with fail
  go_loopw [8] (fun i wr => ∃ (k : Nat), k ≤ l.length ∧ i = .int .i64 k ∧ Below w.heap.size w wr ∧ Hid (∀ j, j < k → gone (l.getD j EZ) = false))
    (fun i _ => l.length - (intOf i).toNat)
  case atStart => exact ⟨0, by omega, rfl, nwR w, fun j hj => by omega⟩
  case round =>
    obtain ⟨k, hk, rfl, hb, HE⟩ := hrel
    by_cases hlt : k < l.length
    · have hlti : (k : Int) < (l.length : Int) := by omega
      obtain ⟨g, q, rfl, hE⟩ := (HX.out wr hb).ent hlt
      have HKK : Hid (gone (l.getD k EZ) = false → ∀ j, j < k + 1 → gone (l.getD j EZ) = false) := fun h j hj => by
        by_cases e : j = k
        · subst e; exact h
        · exact HE.out j (by omega)
      have HY : Hid (gone (l.getD k EZ) = true → l.findIdx? gone = some k) := fun h => find_yes EZ hlt h (fun j hj => HE.out j hj)
      generalize l.getD k EZ = x at hE HKK HY
      have HIS : Hid (Calls Try.prog 55 #[.agg #[.int .i64 x.frm, .int .i64 x.len, .int .i64 x.dev, .int .i64 x.tgt, .int .i64 x.stale]] wr fun e w' => e = .returned (.bool (gone x)) ∧ Below wr.heap.size wr w') := clos_any x wr
      obtain ⟨c0, c1, c2, c3, c4⟩ := hE
      generalize gone x = hit at HKK HY HIS
      go_wp2_with fail
      refine HIS.out.mono ?_
      rintro e w2 ⟨rfl, hb2⟩
      have hbb := nwT hb hb2
      clear hb2 HIS c0 c1 c2 c3 c4
      cases hit
      · have HN : Hid (∀ j, j < k + 1 → gone (l.getD j EZ) = false) := HKK.out rfl
        go_wp2_with fail
        go_roundw
        case rel => exact ⟨k + 1, by omega, by go_num, hbb, HN⟩
        case measure => simp [intOf]; omega
      · have HR2 : Hid (l.findIdx? gone = some k) := HY.out rfl
        go_wp2_with fail
        go_ret
        exact ⟨ret_int (by rw [HR2.out]; rfl), hbb⟩
    · have hlti : ¬ (k : Int) < (l.length : Int) := by omega
      have HY : Hid (l.findIdx? gone = none) := find_no EZ (fun j hj => HE.out j (by omega))
      go_wp2_with fail
      go_ret
      exact ⟨ret_int (by rw [HY.out]; rfl), hb⟩

set_option maxRecDepth 100000 in
set_option maxHeartbeats 4000000 in
theorem del_any (base c : Nat) (a : Option Addr) (l : List EntD) (w : World) (hX : OwnEnts w base (.slice a l.length c) l) (hl : l.length ≤ 1000) :
    Calls Try.prog 54 #[.slice a l.length c, .func (.func 55) #[] #[]] w fun e w' => ∃ v, e = .returned v ∧ OwnEnts w' base v (restE l) ∧ w.grownBy w' (Value.ownBlock (.slice a l.length c)) := by
  have HIX : Hid (Calls Try.prog 61 #[.slice a l.length c, .func (.func 55) #[] #[]] w fun e w' => e = .returned (.int .i64 (optI (l.findIdx? gone))) ∧ Below w.heap.size w w') := by
    obtain ⟨a', c', e, hat, _⟩ := hX.at
    simp only [Value.slice.injEq, true_and] at e
    obtain ⟨rfl, rfl⟩ := e
    exact idx_any _ _ l w hat hl
  cases hfi : l.findIdx? gone with
  | none =>
    have HX : Hid (∀ w1, Below w.heap.size w w1 → OwnEnts w1 base (.slice a l.length c) l) := fun w1 h => hX.below h
    have HRA : Hid (restE l = l) := restE_all hfi
    have HI2 : Hid (Calls Try.prog 61 #[.slice a l.length c, .func (.func 55) #[] #[]] w fun e w' => e = .returned (.int .i64 (-1)) ∧ Below w.heap.size w w') := by
      have h := HIX.out; rw [hfi] at h; exact h
    clear hX HIX hfi
    rw [HRA.out]
    go_enter Try.func54, Try.ntmps54
    go_wp2_with fail
    refine HI2.out.mono ?_
    rintro e w1 ⟨rfl, hb1⟩
    go_wp2_with fail
    go_ret
    exact ⟨_, rfl, HX.out _ hb1, gbOf hb1 _⟩
  | some k =>
    have HI2 : Hid (Calls Try.prog 61 #[.slice a l.length c, .func (.func 55) #[] #[]] w fun e w' => e = .returned (.int .i64 (k : Int)) ∧ Below w.heap.size w w') := by
      have h := HIX.out; rw [hfi] at h; exact h
    rw [List.findIdx?_eq_some_iff_getElem] at hfi
    obtain ⟨hkl, hk1, hk2⟩ := hfi
    obtain ⟨g, rfl⟩ : ∃ g, a = some ⟨g, 0, none⟩ := by
      obtain ⟨b, e, _⟩ := hX.zero.2 (by omega)
      exact ⟨b, e⟩
    have HST : Hid (Sift stayE l l k (k + 1)) := by
      refine sift_start (by omega) (fun t ht x hx => ?_) (fun x hx => ?_)
      · have := hk2 t ht
        have e2 := (List.getElem?_eq_some_iff.1 hx).2
        unfold stayE
        rw [← e2]
        simpa using this
      · have e2 := (List.getElem?_eq_some_iff.1 hx).2
        unfold stayE
        rw [← e2, hk1]; rfl
    have HO : Hid (RowW w base g l.length c l) := hX
    have hcap : l.length ≤ c := by
      rcases hX.2 with ⟨h1, _⟩ | ⟨g', cap', cur, h1, _, _, h4, _⟩
      · simp at h1
      · simp only [Value.slice.injEq] at h1; omega
    have HE : Hid (∀ m w', OwnEnts w' base (.slice (some ⟨g, 0, none⟩) m c) (restE l) → w.grownBy w' (some g) → (∃ v, Ending.returned (.slice (some ⟨g, 0, none⟩) m c) = .returned v ∧ OwnEnts w' base v (restE l) ∧ w.grownBy w' (Value.ownBlock (.slice (some ⟨g, 0, none⟩) l.length c)))) := by
      intro m w' h1 h2
      exact ⟨_, rfl, h1, h2⟩
    clear hk1 hk2 hX HIX
    have hk1 : ((k : Int) == -1) = false := beq_eq_false_iff_ne.2 (by omega)
    obtain ⟨n, hnn⟩ : ∃ n, n = l.length := ⟨_, rfl⟩
    have HLN : Hid (l.length = n) := hnn.symm
    have hln1 : l.length ≤ n := by omega
    have hln2 : n ≤ l.length := by omega
    rw [← hnn] at hkl hl hcap HO HE HI2 ⊢
    clear hnn
    go_enter Try.func54, Try.ntmps54
    go_wp2_with fail
    refine HI2.out.mono ?_
    rintro e w1 ⟨rfl, hb1⟩
    have HO1 : Hid (RowW w1 base g n c l) := own_below HO.out hb1
    have HG1 : Hid (w.grownBy w1 (some g)) := gbOf hb1 _
    clear hb1 HI2
    go_wp2_with fail
    go_loopw [5, 6] (fun s5 s6 wr => ∃ (m j : Nat), s5 = .int .i64 m ∧ s6 = .int .i64 j ∧ m < j ∧ j ≤ n ∧ Hid (∃ gs', Sift stayE l gs' m j ∧ RowW wr base g n c gs') ∧ Hid (w.grownBy wr (some g)))
      (fun _ s6 _ => n - (intOf s6).toNat)
    case atStart => exact ⟨k, k + 1, rfl, by go_num, by omega, by omega, ⟨l, HST.out, HO1.out⟩, HG1⟩
    case round =>
      obtain ⟨m, j, rfl, rfl, hmj, hjl, HOr, HGr⟩ := hrel
      obtain ⟨gs', hst, hro⟩ := HOr.out
      have HS : Hid (Sift stayE l gs' m j) := hst
      have HR : Hid (RowW wr base g n c gs') := hro
      have HSL : Hid (gs'.length = n) := by show _ = _; have := hst.len; omega
      clear hst hro HOr
      by_cases hjn : j < n
      · have hjni : (j : Int) < (n : Int) := by omega
        have hmni : (m : Int) < (n : Int) := by omega
        obtain ⟨x, hx⟩ : ∃ x, l[j]? = some x := ⟨_, List.getElem?_eq_getElem (by omega)⟩
        have hxs : gs'[j]? = some x := by rw [HS.out.get (Nat.le_refl _)]; exact hx
        obtain ⟨c0, c1, c2, c3, c4⟩ := HR.out.cellAt hxs
        have HKP : Hid (stayE x = true → Sift stayE l (gs'.set m x) (m + 1) (j + 1)) := fun h => HS.out.keep hx h
        have HSK : Hid (stayE x = false → Sift stayE l gs' m (j + 1)) := fun h => HS.out.skip hx h
        clear hx hxs
        have HBA : Hid (Below wr.heap.size wr (wr.alloc (.cells #[.int .i64 x.frm, .int .i64 x.len, .int .i64 x.dev, .int .i64 x.tgt, .int .i64 x.stale] 49))) := nwA (nwR wr) _
        have HB2 : Hid ((wr.alloc (.cells #[.int .i64 x.frm, .int .i64 x.len, .int .i64 x.dev, .int .i64 x.tgt, .int .i64 x.stale] 49)).heap[wr.heap.size]? = some (.cells #[.int .i64 x.frm, .int .i64 x.len, .int .i64 x.dev, .int .i64 x.tgt, .int .i64 x.stale] 49 (0, 0))) := heap_alloc_new wr _
        have HD1 : Hid (Calls Try.prog 55 #[.agg #[.int .i64 x.frm, .int .i64 x.len, .int .i64 x.dev, .int .i64 x.tgt, .int .i64 x.stale]] (wr.alloc (.cells #[.int .i64 x.frm, .int .i64 x.len, .int .i64 x.dev, .int .i64 x.tgt, .int .i64 x.stale] 49)) fun e w' => e = .returned (.bool (gone x)) ∧ Below (wr.alloc (.cells #[.int .i64 x.frm, .int .i64 x.len, .int .i64 x.dev, .int .i64 x.tgt, .int .i64 x.stale] 49)).heap.size (wr.alloc (.cells #[.int .i64 x.frm, .int .i64 x.len, .int .i64 x.dev, .int .i64 x.tgt, .int .i64 x.stale] 49)) w') := clos_any x _
        have HKE : Hid (stayE x = !gone x) := rfl
        generalize gone x = hit at HD1 HKE
        go_wp2_with fail
        refine HD1.out.mono ?_
        rintro e w2 ⟨rfl, hb2⟩
        have hbw2 := nwT HBA.out hb2
        obtain ⟨d0, d1, d2, d3, d4, _⟩ := five ((hb2.block _ (Array.getElem?_eq_some_iff.1 HB2.out).1).trans HB2.out)
        have HO2 : Hid (RowW w2 base g n c gs') := own_below HR.out hbw2
        have HG2 : Hid (w.grownBy w2 (some g)) := HGr.out.trans (gbOf hbw2 _)
        obtain ⟨y, hy⟩ : ∃ y, gs'[m]? = some y := ⟨_, List.getElem?_eq_getElem (by have := HSL.out; omega)⟩
        obtain ⟨t0, t1, t2, t3, t4⟩ := HO2.out.cellAt hy
        have tf : ∀ o, w2.frozen? ⟨g, o, none⟩ = false := fun o => World.ownsRow.frozenAt HO2.out o
        clear c0 c1 c2 c3 c4 hy HD1 HB2
        cases hit
        case false =>
          have HN : Hid (Sift stayE l (gs'.set m x) (m + 1) (j + 1)) := HKP.out HKE.out
          go_wp2_with fail
          go_roundw
          case rel =>
            refine ⟨m + 1, j + 1, by go_num, by go_num, by omega, by omega, ⟨gs'.set m x, HN.out, ?_⟩, gb_setg (gb_setg (gb_setg (gb_setg (gb_setg HG2.out _) _) _) _) _⟩
            exact HO2.out.setAt x (i := m) (by have := HSL.out; omega)
          case measure => simp [intOf]; omega
        case true =>
          have HN : Hid (Sift stayE l gs' m (j + 1)) := HSK.out HKE.out
          go_wp2_with fail
          go_roundw
          case rel => exact ⟨m, j + 1, rfl, by go_num, by omega, by omega, ⟨gs', HN.out, HO2.out⟩, HG2⟩
          case measure => simp [intOf]; omega
      · have hjni : ¬ (j : Int) < (n : Int) := by omega
        have HJN : Hid (j = n) := by show _ = _; omega
        have tf : ∀ o, wr.frozen? ⟨g, o, none⟩ = false := fun o => World.ownsRow.frozenAt HR.out o
        obtain ⟨vs, hcl⟩ := clear_ents wr g (m * 5) (n - m) (c - m) (fun t ht => by
          have e : (eflat gs')[m * 5 + t]? = some ((eflat gs')[m * 5 + t]'(by rw [eflat_len]; have := HSL.out; omega)) := List.getElem?_eq_getElem _
          have := World.ownsRow.cells HR.out (g := g) rfl _ _ e
          rw [addr_add, Nat.zero_add] at this
          rw [this]; rfl) tf
        go_wp2_with fail
        go_ret
        have HGE : w.grownBy (wr.setCells g (m * 5) vs) (some g) := gb_setCells vs (m * 5) wr HGr.out
        have hst := HS.out
        rw [HJN.out] at hst
        exact HE.out m _ (ents_sifted hst HLN.out HR.out) HGE

end Go.Proofs.Ytijldakgfgmbiaa

/- A table without the entries that are stale altogether. -/
namespace Go.Proofs.Ytijldakgfgmbiaa
open Go.RowKit

set_option maxRecDepth 100000 in
set_option maxHeartbeats 2000000 in
theorem dropStale_any (W : World) (g : Nat) (a : Option Addr) (c : Nat) (d s : Int) (l : List EntD) (w : World) (hbW : Below W.heap.size W w) (hg : W.heap.size ≤ g) (hs : ShAt w g (.slice a l.length c) d s) (ho : OwnEnts w (g + 1) (.slice a l.length c) l) (hl : l.length ≤ 1000) :
    Calls Try.prog 44 #[.pointer (some ⟨g, 0, none⟩)] w fun e w' => e = .returned (.tuple #[]) ∧ (∃ v, ShAt w' g v d s ∧ OwnEnts w' (g + 1) v (restE l)) ∧ Below W.heap.size W w' := by
  have HD : Hid (Calls Try.prog 54 #[.slice a l.length c, .func (.func 55) #[] #[]] w fun e w' => ∃ v, e = .returned v ∧ OwnEnts w' (g + 1) v (restE l) ∧ w.grownBy w' (Value.ownBlock (.slice a l.length c))) := del_any (g + 1) c a l w ho hl
  have HS : Hid (ShAt w g (.slice a l.length c) d s) := hs
  have HO : Hid (OwnEnts w (g + 1) (.slice a l.length c) l) := ho
  have HBW : Hid (Below W.heap.size W w) := hbW
  have hgl := hs.lt
  obtain ⟨s0, s1, s2, _⟩ := three hs
  clear hs ho hbW
  go_enter Try.func44, Try.ntmps44
  go_wp2_with fail
  refine HD.out.mono ?_
  rintro e w1 ⟨v, rfl, ho1, hgr⟩
  have HS1 : Hid (ShAt w1 g (.slice a l.length c) d s) := (hgr.block g hgl (fun e => by have := (World.ownsRow.lt HO.out g e.symm).1; omega)).trans HS.out
  have HO1 : Hid (OwnEnts w1 (g + 1) v (restE l)) := ho1
  have HB1 : Hid (Below W.heap.size W w1) := HBW.out.grown hgr HBW.out.size (fun q e => by have := (World.ownsRow.lt HO.out q e).1; omega)
  obtain ⟨av, cv, rfl, _⟩ := ho1.at
  obtain ⟨N, hN⟩ : ∃ N, N = (restE l).length := ⟨_, rfl⟩
  rw [← hN] at HO1 ⊢
  clear s0 s1 s2 ho1 hgr HD hN
  obtain ⟨s0, s1, s2, sf⟩ := three HS1.out
  go_wp2_with fail
  refine bodyPost_end (results_none rfl _ _ _) rfl ?_
  refine ⟨rfl, ⟨.slice av N cv, ?_, rowset HO1.out 0 (by omega) _⟩, HB1.out.setCell (p := ⟨g, 0, none⟩) hg _⟩
  exact heap_setCell_same w1 g 0 _ 78 _ HS1.out

def TidyR (t : TabD) (base : Nat) (e : Ending) (w' : World) : Prop :=
  (tokB t = false ∧ e = .returned (.tuple #[tabZ, .int .i64 1])) ∨
  (tokB t = true ∧ ∃ v, e = .returned (.tuple #[v, .int .i64 0]) ∧ OwnTab w' base v ⟨t.dev, t.size, restE t.list⟩)
set_option maxRecDepth 100000 in
set_option maxHeartbeats 4000000 in
theorem tidy_any (v : Value) (t : TabD) (w : World) (hv : TabVal w v t) (hr : RngL t.list) :
    Calls Try.prog 18 #[v] w fun e w' => TidyR t w.heap.size e w' ∧ Below w.heap.size w w' := by
  have HV : Hid (∀ w', Below w.heap.size w w' → TabVal w' v t) := fun w' h => hv.below h
  obtain ⟨a, c, rfl, hx, hn⟩ := hv
  obtain ⟨W0, hW0⟩ : ∃ W0, W0 = (w.alloc (.cells #[.int .i64 t.dev, .int .i64 t.size, .slice a t.list.length c] 24)).alloc (.cells #[.int .i64 0, .int .i64 0, .slice none 0 0] 24) := ⟨_, rfl⟩
  have hb0 : Below w.heap.size w W0 := by rw [hW0]; exact nwA (nwA (nwR w) _) _
  have HSZ : Hid (W0.heap.size = w.heap.size + 2) := by show _ = _; rw [hW0]; simp
  have HB0 : Hid (Below w.heap.size w W0) := hb0
  have hz0 : W0.heap[w.heap.size + 1]? = some (.cells #[.int .i64 0, .int .i64 0, .slice none 0 0] 24 (0, 0)) := by rw [hW0]; exact heap_alloc_new2 w _ _
  have HZ0 : Hid (∀ w', Below W0.heap.size W0 w' → w'.heap[w.heap.size + 1]? = some (.cells #[.int .i64 0, .int .i64 0, .slice none 0 0] 24 (0, 0))) := fun w' h => (h.block _ (Array.getElem?_eq_some_iff.1 hz0).1).trans hz0
  have HO : Hid (Calls Try.prog 37 #[.agg #[.int .i64 t.dev, .int .i64 t.size, .slice a t.list.length c], .slice none 0 0] W0 fun e w' => ((tokB t = false ∧ e = .returned (.tuple #[.pointer none, .int .i64 1])) ∨ (tokB t = true ∧ ∃ g, e = .returned (.tuple #[.pointer (some ⟨g, 0, none⟩), .int .i64 0]) ∧ ShOwn w' W0.heap.size g t)) ∧ Below W0.heap.size W0 w') := open_one (HV.out W0 hb0) hr
  clear hx hr hn hb0 hz0 HV
  go_enter Try.func18, Try.ntmps18
  go_wp2_with fail
  rw [← hW0]
  clear hW0
  refine HO.out.mono ?_
  rintro e w1 ⟨hor, hb1⟩
  have HB1 : Hid (Below W0.heap.size W0 w1) := hb1
  clear hb1 HO
  rcases hor with ⟨ht, rfl⟩ | ⟨ht, g, rfl, hg, u, hs, ho⟩
  · have HT : Hid (tokB t = false) := ht
    obtain ⟨z0, z1, z2, zf⟩ := three (HZ0.out _ HB1.out)
    clear ht
    go_wp2_with fail
    refine bodyPost_ret (v := .tuple #[.agg #[.int .i64 0, .int .i64 0, .slice none 0 0], .int .i64 1]) (by simp [results, Try.results18, go_sem, z0, z1, z2]) rfl ⟨.inl ⟨HT.out, rfl⟩, ?_⟩
    exact three_below (nwT HB0.out HB1.out) (Nat.le_succ _)
  · have HT : Hid (tokB t = true) := ht
    have hT := tok_iff.1 ht
    obtain ⟨av, cv, rfl, hxe, _⟩ := ho.at
    have HG : Hid (W0.heap.size ≤ g) := hg
    have HDR : Hid (Calls Try.prog 44 #[.pointer (some ⟨g, 0, none⟩)] w1 fun e w' => e = .returned (.tuple #[]) ∧ (∃ v, ShAt w' g v t.dev t.size ∧ OwnEnts w' (g + 1) v (restE t.list)) ∧ Below W0.heap.size W0 w') := dropStale_any W0 g av cv t.dev t.size t.list w1 HB1.out hg hs ho (by have := hT.len; omega)
    clear ht hT hxe hs ho hg
    go_wp2_with fail
    refine HDR.out.mono ?_
    rintro e w2 ⟨rfl, ⟨v2, hs2, ho2⟩, hb2⟩
    have HB2 : Hid (Below W0.heap.size W0 w2) := hb2
    have HO2 : Hid (OwnEnts w2 (g + 1) v2 (restE t.list)) := ho2
    obtain ⟨a2, c2, rfl, _⟩ := ho2.at
    have HTO : Hid (Calls Try.prog 39 #[.pointer (some ⟨g, 0, none⟩)] w2 fun e w' => e = .returned (.agg #[.int .i64 t.dev, .int .i64 t.size, .slice a2 (restE t.list).length c2]) ∧ Below w2.heap.size w2 w') := tableOf_any g a2 _ c2 t.dev t.size w2 hs2
    obtain ⟨N, hN⟩ : ∃ N, N = (restE t.list).length := ⟨_, rfl⟩
    rw [← hN] at HO2 HTO
    clear hs2 ho2 hb2 HDR hN
    go_wp2_with fail
    refine HTO.out.mono ?_
    rintro e w3 ⟨rfl, hb3⟩
    have HB3 : Hid (Below W0.heap.size W0 w3) := nwT HB2.out hb3
    have HO3 : Hid (OwnEnts w3 (g + 1) (.slice a2 N c2) (restE t.list)) := HO2.out.below hb3
    obtain ⟨z0, z1, z2, zf⟩ := three (HZ0.out _ HB3.out)
    clear hb3 HTO
    go_wp2_with fail
    refine bodyPost_ret (v := .tuple #[.agg #[.int .i64 t.dev, .int .i64 t.size, .slice a2 N c2], .int .i64 0]) (by simp [results, Try.results18, go_sem, z0, z1, z2]) rfl ⟨.inr ⟨HT.out, _, rfl, _, rfl, ?_⟩, ?_⟩
    · have h1 := HSZ.out
      have h2 := HG.out
      exact own_le (rowset (rowset (rowset HO3.out 0 (g := w.heap.size + 1) (by omega) _) 1 (g := w.heap.size + 1) (by omega) _) 2 (g := w.heap.size + 1) (by omega) _) (by omega)
    · exact three_below (nwT HB0.out HB3.out) (Nat.le_succ _)

end Go.Proofs.Ytijldakgfgmbiaa
