/- Laid together: Pagr, Pagw. -/
import Derived.Test.YtijldakgfgmbiaaTableM5
/- The page's: the entries of some sectors. -/
namespace Go.Proofs.Ytijldakgfgmbiaa
open Go.RowKit

def frQ (x : EntD) (n : Int) : Int := if n > x.frm then n else x.frm
def toQ (x : EntD) (n m : Int) : Int := if n ≤ 64 ∧ n + m < x.frm + x.len then n + m else x.frm + x.len
def cutQ (x : EntD) (n m : Int) : Option EntD := if frQ x n < toQ x n m then some ⟨frQ x n, toQ x n m - frQ x n, x.dev, x.tgt + frQ x n - x.frm, 0⟩ else none
def rngQ (l : List EntD) (n m : Int) : List EntD := l.filterMap fun x => cutQ x n m
theorem rngQ_snoc (l : List EntD) (x : EntD) (n m : Int) : rngQ (l ++ [x]) n m = rngQ l n m ++ (match cutQ x n m with | some y => [y] | none => []) := by
  unfold rngQ
  rw [List.filterMap_append]
  congr 1
  cases h : cutQ x n m <;> simp [h]
theorem rngQ_len (l : List EntD) (n m : Int) : (rngQ l n m).length ≤ l.length := List.length_filterMap_le _ _
/-- what the program cuts is what the page cuts -/
theorem cutQ_cutD {d s n m : Int} {x : EntD} (h : InE d s x) (hs : s ≤ 64) (hm : 0 ≤ m) : cutD x (min n s) (min n s + m) = cutQ x n m := by
  have h1 := h.f0; have h2 := h.l0; have h3 := h.fl
  have key : (frQ x n < toQ x n m ↔ max (min n s) x.frm < min (min n s + m) (x.frm + x.len)) ∧ (max (min n s) x.frm < min (min n s + m) (x.frm + x.len) → frQ x n = max (min n s) x.frm ∧ toQ x n m = min (min n s + m) (x.frm + x.len)) := by
    unfold frQ toQ
    split <;> split <;> omega
  unfold cutD cutQ plc
  by_cases hf : frQ x n < toQ x n m
  · have h5 := key.1.1 hf
    obtain ⟨h6, h7⟩ := key.2 h5
    rw [if_pos hf, if_pos h5, h6, h7]
  · rw [if_neg hf, if_neg (fun h5 => hf (key.1.2 h5))]
theorem fmap_congr {α β : Type} {f g : α → Option β} : ∀ {l : List α}, (∀ x ∈ l, f x = g x) → l.filterMap f = l.filterMap g := by
  intro l
  induction l with
  | nil => intro _; rfl
  | cons x r ih =>
    intro h
    rw [List.filterMap_cons, List.filterMap_cons, h x (List.mem_cons_self ..), ih (fun y hy => h y (List.mem_cons_of_mem _ hy))]
theorem rngQ_rngL {t : TabD} (h : TokP t) (n m : Int) (hm : 0 ≤ m) : rngL t.list (min n t.size) (min n t.size + m) = rngQ t.list n m := by
  unfold rngL rngQ
  refine fmap_congr (fun x hx => ?_)
  exact cutQ_cutD (okFrom_in h.ok x hx).1 h.s1 hm

set_option maxRecDepth 100000 in
set_option maxHeartbeats 16000000 in
theorem rrange_any (v : Value) (t : TabD) (n m : Int) (w : World) (hv : TabVal w v t) (hl : t.list.length ≤ 1000) (hb : ∀ i, i < t.list.length → InE t.dev 64 (t.list.getD i EZ)) (hn : Rng n) (hm0 : 0 ≤ m) (hm1 : m ≤ 64) :
    Calls Try.prog 33 #[v, .int .i64 n, .int .i64 m] w fun e w' => (∃ u, e = .returned u ∧ OwnEnts w' w.heap.size u (rngQ t.list n m)) ∧ Below w.heap.size w w' := by
  obtain ⟨a, c, rfl, hx, _⟩ := hv
  obtain ⟨d, s, l⟩ := t
  simp only at hx hl hb ⊢
  obtain ⟨W0, hW0⟩ : ∃ W0, W0 = w.alloc (.cells #[.int .i64 d, .int .i64 s, .slice a l.length c] 24) := ⟨_, rfl⟩
  have hb0 : Below w.heap.size w W0 := by rw [hW0]; exact nwA (nwR w) _
  have HB0 : Hid (Below w.heap.size w W0) := hb0
  have hx0 : W0.heap[w.heap.size]? = some (.cells #[.int .i64 d, .int .i64 s, .slice a l.length c] 24 (0, 0)) := by rw [hW0]; exact heap_alloc_new w _
  have HX0 : Hid (∀ w', Below W0.heap.size W0 w' → w'.heap[w.heap.size]? = some (.cells #[.int .i64 d, .int .i64 s, .slice a l.length c] 24 (0, 0))) := fun w' h => (h.block _ (Array.getElem?_eq_some_iff.1 hx0).1).trans hx0
  have HX : Hid (∀ w', Below W0.heap.size W0 w' → EntsAt w' a l) := fun w' h => hx.below (nwT hb0 h)
  have HI : Hid (∀ i, i < l.length → InE d 64 (l.getD i EZ)) := hb
  have HN : Hid (Rng n ∧ w.heap.size ≤ W0.heap.size) := ⟨hn, hb0.size⟩
  clear hx hb0 hx0 hb hn
  obtain ⟨i0, hi, hz0, hz1, hz2⟩ := info_parts Try.info49
  go_enter Try.func33, Try.ntmps33
  go_wp2_with fail
  rw [← hW0]
  clear hW0
  go_loopw [7, 8] (fun v i wr => ∃ (k : Nat), k ≤ l.length ∧ i = .int .i64 k ∧ Hid (OwnEnts wr W0.heap.size v (rngQ (l.take k) n m)) ∧ Below W0.heap.size W0 wr)
    (fun _ i _ => l.length - (intOf i).toNat)
  case atStart => exact ⟨0, by omega, rfl, OwnEnts.nil _ _, nwR _⟩
  case round =>
    obtain ⟨k, hk, rfl, HO, hb⟩ := hrel
    obtain ⟨a0, a1, a2, _⟩ := three (HX0.out wr hb)
    by_cases hkl : k < l.length
    case neg =>
      have hkli : ¬ (k : Int) < (l.length : Int) := by omega
      have HZ : Hid (OwnEnts wr w.heap.size u7 (rngQ l n m)) := by
        have := HO.out
        rw [List.take_of_length_le (by omega)] at this
        exact this.le HN.out.2
      obtain ⟨_, _, rfl, _⟩ := HZ.out.at
      go_wp2_with fail
      go_ret
      exact ⟨⟨_, rfl, HZ.out⟩, nwT HB0.out hb⟩
    case pos =>
    have hkli : (k : Int) < (l.length : Int) := by omega
    obtain ⟨b, o, rfl, hE⟩ := (HX.out wr hb).ent hkl
    have h := HI.out k hkl
    have HS : Hid (rngQ (l.take (k + 1)) n m = rngQ (l.take k) n m ++ (match cutQ (l.getD k EZ) n m with | some y => [y] | none => [])) := by
      show _ = _
      rw [take_snoc hkl, rngQ_snoc]
    have hlen : (rngQ (l.take k) n m).length ≤ k := by
      have := rngQ_len (l.take k) n m
      rw [List.length_take] at this; omega
    generalize l.getD k EZ = x at hE h HS
    have hn0 := HN.out.1.1
    have hn1 := HN.out.1.2
    have h1 := h.f0; have h2 := h.l0; have h3 := h.fl; have h4 := h.t0; have h5 := h.tl
    obtain ⟨c0, c1, c2, c3, c4⟩ := hE
    have hbl : w.heap.size < wr.heap.size := (Array.getElem?_eq_some_iff.1 (HX0.out wr hb)).1
    obtain ⟨W1, hW1⟩ : ∃ W1, W1 = wr.alloc (.cells #[.int .i64 x.frm, .int .i64 x.len, .int .i64 x.dev, .int .i64 x.tgt, .int .i64 x.stale] 49) := ⟨_, rfl⟩
    have HB1 : Hid (Below W0.heap.size W0 W1) := by rw [hW1]; exact nwA hb _
    have HO1 : Hid (OwnEnts W1 W0.heap.size u7 (rngQ (l.take k) n m)) := by rw [hW1]; exact HO.out.below (nwA (nwR wr) _)
    have hE1 : W1.heap[wr.heap.size]? = some (.cells #[.int .i64 x.frm, .int .i64 x.len, .int .i64 x.dev, .int .i64 x.tgt, .int .i64 x.stale] 49 (0, 0)) := by rw [hW1]; exact heap_alloc_new wr _
    have HXC : Hid (∀ q, (W1.drewN q).heap[wr.heap.size]? = some (.cells #[.int .i64 x.frm, .int .i64 x.len, .int .i64 x.dev, .int .i64 x.tgt, .int .i64 x.stale] 49 (0, 0))) := fun q => hE1
    have e1 : IntKind.i64.wrap (x.frm + x.len) = x.frm + x.len := wrap_i (by omega) (by omega)
    clear h
    go_upto_region 6 with fail
    rw [← hW1]
    clear hW1
    obtain ⟨c0, c1, c2, c3, c4, _⟩ := five hE1
    go_quiet (fail)
    rename Nat => q1
    have HB2 : Hid (Below W0.heap.size W0 (W1.drewN q1)) := below_drewN HB1.out q1
    have HO2 : Hid (OwnEnts (W1.drewN q1) W0.heap.size u7 (rngQ (l.take k) n m)) := own_below HO1.out (below_drewN (nwR W1) q1)
    obtain ⟨c0, c1, c2, c3, c4, _⟩ := five (HXC.out q1)
    generalize W1.drewN q1 = W2 at HB2 HO2 c0 c1 c2 c3 c4 ⊢
    clear HO1 HXC hE1 HB1 HO
    by_cases g1 : n > x.frm
    case pos =>
      by_cases g2 : n ≤ 64
      case neg =>
        have HFQ : Hid (frQ x n = n ∧ toQ x n m = x.frm + x.len) := ⟨by unfold frQ; rw [if_pos g1], by unfold toQ; rw [if_neg (by omega)]⟩
        have hfe : ¬ n < x.frm + x.len := by omega
        have HN2 : Hid (rngQ (l.take (k + 1)) n m = rngQ (l.take k) n m) := by
          show _ = _
          rw [HS.out]; unfold cutQ; rw [HFQ.out.1, HFQ.out.2, if_neg hfe, List.append_nil]
        have HO3 : Hid (OwnEnts W2 W0.heap.size u7 (rngQ (l.take (k + 1)) n m)) := by show OwnEnts _ _ _ _; rw [HN2.out]; exact HO2.out
        clear HS HN2
        go_wp2_with fail
        go_roundw
        case rel => exact ⟨k + 1, by omega, by go_num, HO3, HB2.out⟩
        case measure => simp [intOf]; omega
      case pos =>
        have e2 : IntKind.i64.wrap (n + m) = n + m := wrap_i (by omega) (by omega)
        by_cases g3 : n + m < x.frm + x.len
        case pos =>
          have HFQ : Hid (frQ x n = n ∧ toQ x n m = n + m) := ⟨by unfold frQ; rw [if_pos g1], by unfold toQ; rw [if_pos ⟨g2, g3⟩]⟩
          by_cases hfe : n < n + m
          case neg =>
            have HN2 : Hid (rngQ (l.take (k + 1)) n m = rngQ (l.take k) n m) := by
              show _ = _
              rw [HS.out]; unfold cutQ; rw [HFQ.out.1, HFQ.out.2, if_neg hfe, List.append_nil]
            have HO3 : Hid (OwnEnts W2 W0.heap.size u7 (rngQ (l.take (k + 1)) n m)) := by show OwnEnts _ _ _ _; rw [HN2.out]; exact HO2.out
            clear HS HN2
            go_wp2_with fail
            go_roundw
            case rel => exact ⟨k + 1, by omega, by go_num, HO3, HB2.out⟩
            case measure => simp [intOf]; omega
          case pos =>
            have HN2 : Hid (rngQ (l.take (k + 1)) n m = rngQ (l.take k) n m ++ [⟨n, n + m - n, x.dev, x.tgt + n - x.frm, 0⟩]) := by
              show _ = _
              rw [HS.out]; unfold cutQ; rw [HFQ.out.1, HFQ.out.2, if_pos hfe]
            have e3 : IntKind.i64.wrap (n + m - n) = n + m - n := wrap_i (by omega) (by omega)
            have e4 : IntKind.i64.wrap (x.tgt + n) = x.tgt + n := wrap_i (by omega) (by omega)
            have e5 : IntKind.i64.wrap (x.tgt + n - x.frm) = x.tgt + n - x.frm := wrap_i (by omega) (by omega)
            obtain ⟨y, hy⟩ : ∃ y : EntD, y = ⟨n, n + m - n, x.dev, x.tgt + n - x.frm, 0⟩ := ⟨_, rfl⟩
            rw [← hy] at HN2
            have HO4 : Hid (OwnEnts (W2.alloc (.cells #[.int .i64 (n), .int .i64 (n + m - n), .int .i64 x.dev, .int .i64 (x.tgt + n - x.frm), .int .i64 0] 49)) W0.heap.size u7 (rngQ (l.take k) n m)) := HO2.out.below (nwA (nwR W2) _)
            have hb4 : Below W0.heap.size W0 (W2.alloc (.cells #[.int .i64 (n), .int .i64 (n + m - n), .int .i64 x.dev, .int .i64 (x.tgt + n - x.frm), .int .i64 0] 49)) := nwA HB2.out _
            have hey : EntsAt (W2.alloc (.cells #[.int .i64 (n), .int .i64 (n + m - n), .int .i64 x.dev, .int .i64 (x.tgt + n - x.frm), .int .i64 0] 49)) (some ⟨W2.heap.size, 0, none⟩) [y] := by rw [hy]; exact ents_one W2 ⟨n, n + m - n, x.dev, x.tgt + n - x.frm, 0⟩ 49
            clear hy HS
            go_wp2_with (at_builtin; refine wpList_append_ents _ rfl (.tmp 50) (.tmp 65) 22 rfl W0.heap.size i0 _ Try.underlying22 hi hz0 hz1 hz2 rfl u7 (rngQ (l.take k) n m) rfl HO4.out (some ⟨W2.heap.size, 0, none⟩) 1 [y] rfl hey (fun e => by cases e) (by simp only [List.length_cons, List.length_nil]; omega) hb4.size ?_; intro v' w5 hown hgrow; refine unstop ?_)
            unfold Stop
            have HB5 : Hid (Below W0.heap.size W0 w5) := hb4.grown hgrow hb4.size (fun q e => (World.ownsRow.lt HO4.out q e).1)
            have HO5 : Hid (OwnEnts w5 W0.heap.size v' (rngQ (l.take (k + 1)) n m)) := by
              show OwnEnts _ _ _ _
              rw [HN2.out]; exact hown
            clear hown hgrow hb4 hey
            go_wp2_with fail
            go_roundw
            case rel => exact ⟨k + 1, by omega, by go_num, HO5, HB5.out⟩
            case measure => simp [intOf]; omega
        case neg =>
          have HFQ : Hid (frQ x n = n ∧ toQ x n m = x.frm + x.len) := ⟨by unfold frQ; rw [if_pos g1], by unfold toQ; rw [if_neg (by omega)]⟩
          by_cases hfe : n < x.frm + x.len
          case neg =>
            have HN2 : Hid (rngQ (l.take (k + 1)) n m = rngQ (l.take k) n m) := by
              show _ = _
              rw [HS.out]; unfold cutQ; rw [HFQ.out.1, HFQ.out.2, if_neg hfe, List.append_nil]
            have HO3 : Hid (OwnEnts W2 W0.heap.size u7 (rngQ (l.take (k + 1)) n m)) := by show OwnEnts _ _ _ _; rw [HN2.out]; exact HO2.out
            clear HS HN2
            go_wp2_with fail
            go_roundw
            case rel => exact ⟨k + 1, by omega, by go_num, HO3, HB2.out⟩
            case measure => simp [intOf]; omega
          case pos =>
            have HN2 : Hid (rngQ (l.take (k + 1)) n m = rngQ (l.take k) n m ++ [⟨n, x.frm + x.len - n, x.dev, x.tgt + n - x.frm, 0⟩]) := by
              show _ = _
              rw [HS.out]; unfold cutQ; rw [HFQ.out.1, HFQ.out.2, if_pos hfe]
            have e3 : IntKind.i64.wrap (x.frm + x.len - n) = x.frm + x.len - n := wrap_i (by omega) (by omega)
            have e4 : IntKind.i64.wrap (x.tgt + n) = x.tgt + n := wrap_i (by omega) (by omega)
            have e5 : IntKind.i64.wrap (x.tgt + n - x.frm) = x.tgt + n - x.frm := wrap_i (by omega) (by omega)
            obtain ⟨y, hy⟩ : ∃ y : EntD, y = ⟨n, x.frm + x.len - n, x.dev, x.tgt + n - x.frm, 0⟩ := ⟨_, rfl⟩
            rw [← hy] at HN2
            have HO4 : Hid (OwnEnts (W2.alloc (.cells #[.int .i64 (n), .int .i64 (x.frm + x.len - n), .int .i64 x.dev, .int .i64 (x.tgt + n - x.frm), .int .i64 0] 49)) W0.heap.size u7 (rngQ (l.take k) n m)) := HO2.out.below (nwA (nwR W2) _)
            have hb4 : Below W0.heap.size W0 (W2.alloc (.cells #[.int .i64 (n), .int .i64 (x.frm + x.len - n), .int .i64 x.dev, .int .i64 (x.tgt + n - x.frm), .int .i64 0] 49)) := nwA HB2.out _
            have hey : EntsAt (W2.alloc (.cells #[.int .i64 (n), .int .i64 (x.frm + x.len - n), .int .i64 x.dev, .int .i64 (x.tgt + n - x.frm), .int .i64 0] 49)) (some ⟨W2.heap.size, 0, none⟩) [y] := by rw [hy]; exact ents_one W2 ⟨n, x.frm + x.len - n, x.dev, x.tgt + n - x.frm, 0⟩ 49
            clear hy HS
            go_wp2_with (at_builtin; refine wpList_append_ents _ rfl (.tmp 50) (.tmp 65) 22 rfl W0.heap.size i0 _ Try.underlying22 hi hz0 hz1 hz2 rfl u7 (rngQ (l.take k) n m) rfl HO4.out (some ⟨W2.heap.size, 0, none⟩) 1 [y] rfl hey (fun e => by cases e) (by simp only [List.length_cons, List.length_nil]; omega) hb4.size ?_; intro v' w5 hown hgrow; refine unstop ?_)
            unfold Stop
            have HB5 : Hid (Below W0.heap.size W0 w5) := hb4.grown hgrow hb4.size (fun q e => (World.ownsRow.lt HO4.out q e).1)
            have HO5 : Hid (OwnEnts w5 W0.heap.size v' (rngQ (l.take (k + 1)) n m)) := by
              show OwnEnts _ _ _ _
              rw [HN2.out]; exact hown
            clear hown hgrow hb4 hey
            go_wp2_with fail
            go_roundw
            case rel => exact ⟨k + 1, by omega, by go_num, HO5, HB5.out⟩
            case measure => simp [intOf]; omega
    case neg =>
      by_cases g2 : n ≤ 64
      case neg =>
        exfalso; omega
      case pos =>
        have e2 : IntKind.i64.wrap (n + m) = n + m := wrap_i (by omega) (by omega)
        by_cases g3 : n + m < x.frm + x.len
        case pos =>
          have HFQ : Hid (frQ x n = x.frm ∧ toQ x n m = n + m) := ⟨by unfold frQ; rw [if_neg g1], by unfold toQ; rw [if_pos ⟨g2, g3⟩]⟩
          by_cases hfe : x.frm < n + m
          case neg =>
            have HN2 : Hid (rngQ (l.take (k + 1)) n m = rngQ (l.take k) n m) := by
              show _ = _
              rw [HS.out]; unfold cutQ; rw [HFQ.out.1, HFQ.out.2, if_neg hfe, List.append_nil]
            have HO3 : Hid (OwnEnts W2 W0.heap.size u7 (rngQ (l.take (k + 1)) n m)) := by show OwnEnts _ _ _ _; rw [HN2.out]; exact HO2.out
            clear HS HN2
            go_wp2_with fail
            go_roundw
            case rel => exact ⟨k + 1, by omega, by go_num, HO3, HB2.out⟩
            case measure => simp [intOf]; omega
          case pos =>
            have HN2 : Hid (rngQ (l.take (k + 1)) n m = rngQ (l.take k) n m ++ [⟨x.frm, n + m - x.frm, x.dev, x.tgt + x.frm - x.frm, 0⟩]) := by
              show _ = _
              rw [HS.out]; unfold cutQ; rw [HFQ.out.1, HFQ.out.2, if_pos hfe]
            have e3 : IntKind.i64.wrap (n + m - x.frm) = n + m - x.frm := wrap_i (by omega) (by omega)
            have e4 : IntKind.i64.wrap (x.tgt + x.frm) = x.tgt + x.frm := wrap_i (by omega) (by omega)
            have e5 : IntKind.i64.wrap (x.tgt + x.frm - x.frm) = x.tgt + x.frm - x.frm := wrap_i (by omega) (by omega)
            have e6 : x.tgt + x.frm - x.frm = x.tgt := by omega
            obtain ⟨y, hy⟩ : ∃ y : EntD, y = ⟨x.frm, n + m - x.frm, x.dev, x.tgt + x.frm - x.frm, 0⟩ := ⟨_, rfl⟩
            rw [← hy] at HN2
            have HO4 : Hid (OwnEnts (W2.alloc (.cells #[.int .i64 (x.frm), .int .i64 (n + m - x.frm), .int .i64 x.dev, .int .i64 (x.tgt + x.frm - x.frm), .int .i64 0] 49)) W0.heap.size u7 (rngQ (l.take k) n m)) := HO2.out.below (nwA (nwR W2) _)
            have hb4 : Below W0.heap.size W0 (W2.alloc (.cells #[.int .i64 (x.frm), .int .i64 (n + m - x.frm), .int .i64 x.dev, .int .i64 (x.tgt + x.frm - x.frm), .int .i64 0] 49)) := nwA HB2.out _
            have hey : EntsAt (W2.alloc (.cells #[.int .i64 (x.frm), .int .i64 (n + m - x.frm), .int .i64 x.dev, .int .i64 (x.tgt + x.frm - x.frm), .int .i64 0] 49)) (some ⟨W2.heap.size, 0, none⟩) [y] := by rw [hy]; exact ents_one W2 ⟨x.frm, n + m - x.frm, x.dev, x.tgt + x.frm - x.frm, 0⟩ 49
            rw [e6] at HO4 hb4 hey e5
            clear hy HS
            go_wp2_with (at_builtin; refine wpList_append_ents _ rfl (.tmp 50) (.tmp 65) 22 rfl W0.heap.size i0 _ Try.underlying22 hi hz0 hz1 hz2 rfl u7 (rngQ (l.take k) n m) rfl HO4.out (some ⟨W2.heap.size, 0, none⟩) 1 [y] rfl hey (fun e => by cases e) (by simp only [List.length_cons, List.length_nil]; omega) hb4.size ?_; intro v' w5 hown hgrow; refine unstop ?_)
            unfold Stop
            have HB5 : Hid (Below W0.heap.size W0 w5) := hb4.grown hgrow hb4.size (fun q e => (World.ownsRow.lt HO4.out q e).1)
            have HO5 : Hid (OwnEnts w5 W0.heap.size v' (rngQ (l.take (k + 1)) n m)) := by
              show OwnEnts _ _ _ _
              rw [HN2.out]; exact hown
            clear hown hgrow hb4 hey
            go_wp2_with fail
            go_roundw
            case rel => exact ⟨k + 1, by omega, by go_num, HO5, HB5.out⟩
            case measure => simp [intOf]; omega
        case neg =>
          have HFQ : Hid (frQ x n = x.frm ∧ toQ x n m = x.frm + x.len) := ⟨by unfold frQ; rw [if_neg g1], by unfold toQ; rw [if_neg (by omega)]⟩
          by_cases hfe : x.frm < x.frm + x.len
          case neg =>
            have HN2 : Hid (rngQ (l.take (k + 1)) n m = rngQ (l.take k) n m) := by
              show _ = _
              rw [HS.out]; unfold cutQ; rw [HFQ.out.1, HFQ.out.2, if_neg hfe, List.append_nil]
            have HO3 : Hid (OwnEnts W2 W0.heap.size u7 (rngQ (l.take (k + 1)) n m)) := by show OwnEnts _ _ _ _; rw [HN2.out]; exact HO2.out
            clear HS HN2
            go_wp2_with fail
            go_roundw
            case rel => exact ⟨k + 1, by omega, by go_num, HO3, HB2.out⟩
            case measure => simp [intOf]; omega
          case pos =>
            have HN2 : Hid (rngQ (l.take (k + 1)) n m = rngQ (l.take k) n m ++ [⟨x.frm, x.frm + x.len - x.frm, x.dev, x.tgt + x.frm - x.frm, 0⟩]) := by
              show _ = _
              rw [HS.out]; unfold cutQ; rw [HFQ.out.1, HFQ.out.2, if_pos hfe]
            have e3 : IntKind.i64.wrap (x.frm + x.len - x.frm) = x.frm + x.len - x.frm := wrap_i (by omega) (by omega)
            have e4 : IntKind.i64.wrap (x.tgt + x.frm) = x.tgt + x.frm := wrap_i (by omega) (by omega)
            have e5 : IntKind.i64.wrap (x.tgt + x.frm - x.frm) = x.tgt + x.frm - x.frm := wrap_i (by omega) (by omega)
            have e6 : x.tgt + x.frm - x.frm = x.tgt := by omega
            obtain ⟨y, hy⟩ : ∃ y : EntD, y = ⟨x.frm, x.frm + x.len - x.frm, x.dev, x.tgt + x.frm - x.frm, 0⟩ := ⟨_, rfl⟩
            rw [← hy] at HN2
            have HO4 : Hid (OwnEnts (W2.alloc (.cells #[.int .i64 (x.frm), .int .i64 (x.frm + x.len - x.frm), .int .i64 x.dev, .int .i64 (x.tgt + x.frm - x.frm), .int .i64 0] 49)) W0.heap.size u7 (rngQ (l.take k) n m)) := HO2.out.below (nwA (nwR W2) _)
            have hb4 : Below W0.heap.size W0 (W2.alloc (.cells #[.int .i64 (x.frm), .int .i64 (x.frm + x.len - x.frm), .int .i64 x.dev, .int .i64 (x.tgt + x.frm - x.frm), .int .i64 0] 49)) := nwA HB2.out _
            have hey : EntsAt (W2.alloc (.cells #[.int .i64 (x.frm), .int .i64 (x.frm + x.len - x.frm), .int .i64 x.dev, .int .i64 (x.tgt + x.frm - x.frm), .int .i64 0] 49)) (some ⟨W2.heap.size, 0, none⟩) [y] := by rw [hy]; exact ents_one W2 ⟨x.frm, x.frm + x.len - x.frm, x.dev, x.tgt + x.frm - x.frm, 0⟩ 49
            rw [e6] at HO4 hb4 hey e5
            clear hy HS
            go_wp2_with (at_builtin; refine wpList_append_ents _ rfl (.tmp 50) (.tmp 65) 22 rfl W0.heap.size i0 _ Try.underlying22 hi hz0 hz1 hz2 rfl u7 (rngQ (l.take k) n m) rfl HO4.out (some ⟨W2.heap.size, 0, none⟩) 1 [y] rfl hey (fun e => by cases e) (by simp only [List.length_cons, List.length_nil]; omega) hb4.size ?_; intro v' w5 hown hgrow; refine unstop ?_)
            unfold Stop
            have HB5 : Hid (Below W0.heap.size W0 w5) := hb4.grown hgrow hb4.size (fun q e => (World.ownsRow.lt HO4.out q e).1)
            have HO5 : Hid (OwnEnts w5 W0.heap.size v' (rngQ (l.take (k + 1)) n m)) := by
              show OwnEnts _ _ _ _
              rw [HN2.out]; exact hown
            clear hown hgrow hb4 hey
            go_wp2_with fail
            go_roundw
            case rel => exact ⟨k + 1, by omega, by go_num, HO5, HB5.out⟩
            case measure => simp [intOf]; omega

end Go.Proofs.Ytijldakgfgmbiaa

/- The page's: a sector more in a table. -/
namespace Go.Proofs.Ytijldakgfgmbiaa
open Go.RowKit

def onQ (x : EntD) (n d a : Int) : Bool := decide (x.frm + x.len = n) && (decide (x.dev = d) && decide (x.tgt + x.len = a))
theorem onQ_onB (x : EntD) (n d a : Int) : onB x (newE n d a) = onQ x n d a := by
  unfold onB onQ newE plc
  rw [Bool.eq_iff_iff]
  simp only [Bool.and_eq_true, decide_eq_true_eq]
  constructor
  · rintro ⟨⟨h1, h2⟩, h3⟩; exact ⟨h1, h2, by omega⟩
  · rintro ⟨h1, h2, h3⟩; exact ⟨⟨h1, h2⟩, by omega⟩
set_option maxRecDepth 100000 in
set_option maxHeartbeats 16000000 in
theorem radd_any (v : Value) (t : TabD) (n d a : Int) (w : World) (hv : TabVal w v t) (hl : t.list.length ≤ 900) (hf : ∀ i, i < t.list.length → Fair (t.list.getD i EZ)) :
    Calls Try.prog 26 #[v, .int .i64 n, .agg #[.int .i64 d, .int .i64 a]] w fun e w' => (∃ u, e = .returned u ∧ OwnTab w' w.heap.size u ⟨t.dev, t.size, joinA t.list (newE n d a)⟩) ∧ Below w.heap.size w w' := by
  have HV : Hid (∀ w', Below w.heap.size w w' → TabVal w' v t) := fun w' h => hv.below h
  obtain ⟨al, c, rfl, hx, hnn⟩ := hv
  obtain ⟨dv, s, l⟩ := t
  simp only at hx hl hf hnn HV ⊢
  obtain ⟨W0, hW0⟩ : ∃ W0, W0 = ((w.alloc (.cells #[.int .i64 dv, .int .i64 s, .slice al l.length c] 24)).alloc (.cells #[.int .i64 d, .int .i64 a] 33)).alloc (.cells #[.int .i64 0, .int .i64 0, .slice none 0 0] 24) := ⟨_, rfl⟩
  have hb0 : Below w.heap.size w W0 := by rw [hW0]; exact nwA (nwA (nwA (nwR w) _) _) _
  have HSZ : Hid (W0.heap.size = w.heap.size + 3) := by show _ = _; rw [hW0]; simp
  have HB0 : Hid (Below w.heap.size w W0) := hb0
  have H3 : Hid (W0.heap[w.heap.size]? = some (.cells #[.int .i64 dv, .int .i64 s, .slice al l.length c] 24 (0, 0)) ∧ W0.heap[w.heap.size + 1]? = some (.cells #[.int .i64 d, .int .i64 a] 33 (0, 0)) ∧ W0.heap[w.heap.size + 1 + 1]? = some (.cells #[.int .i64 0, .int .i64 0, .slice none 0 0] 24 (0, 0))) := by
    show _ ∧ _ ∧ _
    rw [hW0]; exact three_at w _ _ _
  have HCP : Hid (Calls Try.prog 9 #[.agg #[.int .i64 dv, .int .i64 s, .slice al l.length c]] W0 fun e w' => (∃ u, e = .returned u ∧ OwnTab w' W0.heap.size u ⟨dv, s, l⟩) ∧ Below W0.heap.size W0 w') := copyTab_any _ ⟨dv, s, l⟩ W0 (HV.out W0 hb0) (by show l.length ≤ 1000; omega)
  have HF : Hid (∀ i, i < l.length → Fair (l.getD i EZ)) := hf
  obtain ⟨i0, hi, hz0, hz1, hz2⟩ := info_parts Try.info49
  clear hx hnn hb0 HV hf
  go_enter Try.func26, Try.ntmps26
  go_wp2_with fail
  rw [← hW0]
  clear hW0
  refine HCP.out.mono ?_
  rintro e w1 ⟨⟨u, rfl, u1, rfl, ho⟩, hb1⟩
  have hb01 : Below w.heap.size w w1 := nwT HB0.out hb1
  obtain ⟨au, cu, rfl, _, hnk⟩ := ho.at
  have hX1 := (hb1.block _ (Array.getElem?_eq_some_iff.1 H3.out.1).1).trans H3.out.1
  have hP1 := (hb1.block _ (Array.getElem?_eq_some_iff.1 H3.out.2.1).1).trans H3.out.2.1
  have hZ1 := (hb1.block _ (Array.getElem?_eq_some_iff.1 H3.out.2.2).1).trans H3.out.2.2
  obtain ⟨W2, hW2⟩ : ∃ W2, W2 = ((w1.setCell ⟨w.heap.size, 0, none⟩ (.int .i64 dv)).setCell ⟨w.heap.size, 1, none⟩ (.int .i64 s)).setCell ⟨w.heap.size, 2, none⟩ (.slice au l.length cu) := ⟨_, rfl⟩
  have HB2 : Hid (Below w.heap.size w W2) := by rw [hW2]; exact three_below hb01 (Nat.le_refl _)
  have HX2 : Hid (W2.heap[w.heap.size]? = some (.cells #[.int .i64 dv, .int .i64 s, .slice au l.length cu] 24 (0, 0))) := by rw [hW2]; exact three_set hX1
  have HP2 : Hid (W2.heap[w.heap.size + 1]? = some (.cells #[.int .i64 d, .int .i64 a] 33 (0, 0))) := by rw [hW2]; exact three_other hP1 (by omega)
  have HZ2 : Hid (W2.heap[w.heap.size + 1 + 1]? = some (.cells #[.int .i64 0, .int .i64 0, .slice none 0 0] 24 (0, 0))) := by rw [hW2]; exact three_other hZ1 (by omega)
  have HO2 : Hid (OwnEnts W2 W0.heap.size (.slice au l.length cu) l) := by
    have := HSZ.out
    rw [hW2]; exact rowset (rowset (rowset ho 0 (g := w.heap.size) (by omega) _) 1 (g := w.heap.size) (by omega) _) 2 (g := w.heap.size) (by omega) _
  obtain ⟨r0, r1, r2, rf⟩ := three hX1
  have HWL2 : Hid (W0.heap.size ≤ W2.heap.size) := by
    show _ ≤ _
    have := hb1.size
    rw [hW2]; simpa using this
  clear ho hb1 hb01 hP1 hZ1 HCP H3
  obtain ⟨N, hN⟩ : ∃ N, N = l.length := ⟨_, rfl⟩
  have HNN : Hid (N = l.length) := hN
  rw [← hN] at HO2 HX2 hW2 hnk ⊢
  by_cases h0 : N = 0
  case pos =>
    subst h0
    have hle : l = [] := List.length_eq_zero_iff.1 hN.symm
    subst hle
    clear hN hl HF
    have e1 : IntKind.i64.wrap (-1) = -1 := by decide
    obtain ⟨q0, q1, q2, qf⟩ := three HX2.out
    have HWL : Hid (W0.heap.size ≤ W2.heap.size) := HWL2
    have HLN : Hid (([] : List EntD).length ≤ 900) := by show _ ≤ _; simp
    go_upto_region 2 with fail
    rw [← hW2]
    clear hW2 r0 r1 r2 rf hX1
    go_upto_region 8 with fail
    obtain ⟨q0, q1, q2, qf⟩ := three HX2.out
    obtain ⟨p0, p1, pf⟩ := two HP2.out
    have HO4 : Hid (OwnEnts (World.alloc W2 (.cells #[.int .i64 n, .int .i64 1, .int .i64 d, .int .i64 a, .int .i64 0] 49)) W0.heap.size (.slice au 0 cu) []) := HO2.out.below (nwA (nwR W2) _)
    have hey : EntsAt (World.alloc W2 (.cells #[.int .i64 n, .int .i64 1, .int .i64 d, .int .i64 a, .int .i64 0] 49)) (some ⟨(World.heap W2).size, 0, none⟩) [newE n d a] := ents_one W2 (newE n d a) 49
    have hsz4 : W0.heap.size ≤ (World.alloc W2 (.cells #[.int .i64 n, .int .i64 1, .int .i64 d, .int .i64 a, .int .i64 0] 49)).heap.size := Nat.le_trans HWL.out (nwA (nwR W2) _).size
    go_wp2_with (at_builtin; refine wpList_append_ents _ rfl (.tmp 57) (.tmp 64) 22 rfl W0.heap.size i0 _ Try.underlying22 hi hz0 hz1 hz2 rfl (.slice au 0 cu) [] rfl HO4.out (some ⟨(World.heap W2).size, 0, none⟩) 1 [newE n d a] rfl hey (fun e => by cases e) (by simp only [List.length_cons, List.length_nil]; have := HLN.out; omega) hsz4 ?_; intro v' w5 hown hgrow; refine unstop ?_)
    unfold Stop
    have hb5 : Below W0.heap.size (World.alloc W2 (.cells #[.int .i64 n, .int .i64 1, .int .i64 d, .int .i64 a, .int .i64 0] 49)) w5 := (Below.refl _ _).grown hgrow hsz4 (fun q e => (World.ownsRow.lt HO4.out q e).1)
    have hW4 : ∀ k o, k < (World.heap W2).size → (World.heap W2)[k]? = some o → (World.alloc W2 (.cells #[.int .i64 n, .int .i64 1, .int .i64 d, .int .i64 a, .int .i64 0] 49)).heap[k]? = some o := fun k o h1 h2 => (Lib.alloc_old _ _ _ h1).trans h2
    have hsz := HSZ.out
    have HX5 := (hb5.block w.heap.size (by omega)).trans (hW4 _ _ (Array.getElem?_eq_some_iff.1 HX2.out).1 HX2.out)
    have HZ5 := (hb5.block (w.heap.size + 1 + 1) (by omega)).trans (hW4 _ _ (Array.getElem?_eq_some_iff.1 HZ2.out).1 HZ2.out)
    have HB5 : Hid (Below w.heap.size w w5) := (nwA HB2.out _).trans (hb5.mono (by omega))
    have HO5 : Hid (OwnEnts w5 W0.heap.size v' ([] ++ [newE n d a])) := hown
    obtain ⟨a5, c5, e5, _, _⟩ := hown.at
    obtain ⟨M, hM⟩ : ∃ M, M = ([] ++ [newE n d a]).length := ⟨_, rfl⟩
    rw [← hM] at e5
    subst e5
    obtain ⟨W6, hW6⟩ : ∃ W6, W6 = w5.setCell ⟨w.heap.size, 2, none⟩ (.slice a5 M c5) := ⟨_, rfl⟩
    have HX6 : W6.heap[w.heap.size]? = some (.cells #[.int .i64 dv, .int .i64 s, .slice a5 M c5] 24 (0, 0)) := by rw [hW6]; exact heap_setCell_same w5 w.heap.size 2 _ 24 _ HX5
    have HZ6 : W6.heap[w.heap.size + 1 + 1]? = some (.cells #[.int .i64 0, .int .i64 0, .slice none 0 0] 24 (0, 0)) := by rw [hW6]; exact (heap_setCell_other w5 ⟨w.heap.size, 2, none⟩ _ _ (by show w.heap.size + 1 + 1 ≠ w.heap.size; omega)).trans HZ5
    have HB6 : Hid (Below w.heap.size w W6) := by rw [hW6]; exact HB5.out.setCell (p := ⟨w.heap.size, 2, none⟩) (Nat.le_refl _) _
    have HO6 : Hid (OwnEnts W6 W0.heap.size (.slice a5 M c5) ([] ++ [newE n d a])) := by rw [hW6]; exact rowset HO5.out 2 (by omega) _
    obtain ⟨x0, x1, x2, xf⟩ := three HX5
    obtain ⟨y0, y1, y2, yf⟩ := three HX6
    obtain ⟨z0, z1, z2, zf⟩ := three HZ6
    clear hown hgrow hb5 hW4 HX5 HZ5 q0 q1 q2 qf p0 p1 pf hey hsz4 hM
    go_upto_region 9 with fail
    rw [← hW6]
    clear hW6 x0 x1 x2 xf
    go_wp2_with fail
    refine bodyPost_ret (v := .agg #[.int .i64 dv, .int .i64 s, .slice a5 M c5]) (by simp [results, Try.results26, go_sem, z0, z1, z2]) rfl ⟨⟨_, rfl, _, rfl, ?_⟩, ?_⟩
    · rw [show joinA [] (newE n d a) = [] ++ [newE n d a] from rfl]
      exact own_le (rowset (rowset (rowset HO6.out 0 (g := w.heap.size + 1 + 1) (by omega) _) 1 (g := w.heap.size + 1 + 1) (by omega) _) 2 (g := w.heap.size + 1 + 1) (by omega) _) (by omega)
    · exact three_below HB6.out (by omega)
  case neg =>
  obtain ⟨k, hk⟩ : ∃ k, N = k + 1 := ⟨N - 1, by omega⟩
  have hxl : l.getLast? = some (l.getD k EZ) := by rw [getLast_getD (by omega), show l.length - 1 = k from by omega]
  obtain ⟨g, hg⟩ : ∃ g, au = some ⟨g, 0, none⟩ ∧ W0.heap.size ≤ g := by
    obtain ⟨g, e, h⟩ := HO2.out.zero.2 (by omega)
    exact ⟨g, e, h⟩
  obtain ⟨rfl, hg⟩ := hg
  have hF := HF.out k (by omega)
  have hEk : EntAt W2 g (k * 5) (l.getD k EZ) := by
    obtain ⟨_, _, e', hE, _⟩ := HO2.out.at
    injection e' with e' _ e''
    subst e'
    have := hE.at (i := k) (by omega)
    rwa [Nat.zero_add] at this
  have HJN : Hid (onQ (l.getD k EZ) n d a = false → joinA l (newE n d a) = l ++ [newE n d a]) := fun h => joinA_no (by omega) (by rw [show l.length - 1 = k from by omega, onQ_onB]; exact h)
  have HJY : Hid (onQ (l.getD k EZ) n d a = true → joinA l (newE n d a) = l.set k (growE (l.getD k EZ) 1)) := fun h => by
    have := joinA_yes (l := l) (y := newE n d a) (by omega) (by rw [show l.length - 1 = k from by omega, onQ_onB]; exact h)
    rw [this, show l.length - 1 = k from by omega]; rfl
  have HEF : Hid (∀ v, v = .int .i64 ((l.getD k EZ).len + 1) → (eflat l).set (k * 5 + 1) v = eflat (l.set k (growE (l.getD k EZ) 1))) := fun v h => by subst h; exact eflat_grow l k 1 (by omega)
  obtain ⟨x, hx⟩ : ∃ x, x = l.getD k EZ := ⟨_, rfl⟩
  rw [← hx] at hF hEk HJN HJY HEF
  have HQ : Hid (onQ x n d a = (decide (x.frm + x.len = n) && (decide (x.dev = d) && decide (x.tgt + x.len = a)))) := rfl
  generalize onQ x n d a = oq at HQ HJN HJY
  have HKN : Hid (N = k + 1) := hk
  have e1 : IntKind.i64.wrap ((N : Int) - 1) = (k : Int) := by rw [wrap_i] <;> omega
  have hk0 : (0 : Int) ≤ (k : Int) := by omega
  have hki : (k : Int) < (N : Int) := by omega
  have e2 : IntKind.i64.wrap (x.frm + x.len) = x.frm + x.len := wrap_i (by have := hF.f0; have := hF.l0; omega) (by have := hF.f1; have := hF.l1; omega)
  have e3 : IntKind.i64.wrap (x.tgt + x.len) = x.tgt + x.len := wrap_i (by have := hF.t0; have := hF.l0; omega) (by have := hF.t1; have := hF.l1; omega)
  have e4 : IntKind.i64.wrap (x.len + 1) = x.len + 1 := wrap_i (by have := hF.l0; omega) (by have := hF.l1; omega)
  have HLN : Hid (l.length ≤ 900) := hl
  have HGG : Hid (W0.heap.size ≤ g) := hg
  obtain ⟨c0, c1, c2, c3, c4⟩ := hEk
  obtain ⟨q0, q1, q2, qf⟩ := three HX2.out
  obtain ⟨p0, p1, pf⟩ := two HP2.out
  have hbw : w.heap.size < W2.heap.size := (Array.getElem?_eq_some_iff.1 HX2.out).1
  have hbp : w.heap.size + 1 < W2.heap.size := (Array.getElem?_eq_some_iff.1 HP2.out).1
  have hbg : g < W2.heap.size := block_lt_of_cell c0
  obtain ⟨W3, hW3⟩ : ∃ W3, W3 = W2.alloc (.cells #[.int .i64 x.frm, .int .i64 x.len, .int .i64 x.dev, .int .i64 x.tgt, .int .i64 x.stale] 49) := ⟨_, rfl⟩
  have HB23 : Hid (Below W2.heap.size W2 W3) := by rw [hW3]; exact nwA (nwR W2) _
  have HB3 : Hid (Below w.heap.size w W3) := nwT HB2.out HB23.out
  have HWL : Hid (W0.heap.size ≤ W3.heap.size) := Nat.le_trans HWL2 HB23.out.size
  have HX3 : Hid (W3.heap[w.heap.size]? = some (.cells #[.int .i64 dv, .int .i64 s, .slice (some ⟨g, 0, none⟩) N cu] 24 (0, 0))) := (HB23.out.block _ hbw).trans HX2.out
  have HP3 : Hid (W3.heap[w.heap.size + 1]? = some (.cells #[.int .i64 d, .int .i64 a] 33 (0, 0))) := (HB23.out.block _ hbp).trans HP2.out
  have HZ3 : Hid (W3.heap[w.heap.size + 1 + 1]? = some (.cells #[.int .i64 0, .int .i64 0, .slice none 0 0] 24 (0, 0))) := (HB23.out.block _ (Array.getElem?_eq_some_iff.1 HZ2.out).1).trans HZ2.out
  have HO3 : Hid (OwnEnts W3 W0.heap.size (.slice (some ⟨g, 0, none⟩) N cu) l) := HO2.out.below HB23.out
  have HE3 : Hid (EntAt W3 g (k * 5) x) := by
    have : EntAt W2 g (k * 5) x := ⟨c0, c1, c2, c3, c4⟩
    exact this.below HB23.out
  clear hF hN hx hxl hk h0 hl
  go_upto_region 2 with fail
  rw [← hW2]
  clear hW2 r0 r1 r2 rf hX1
  by_cases h1 : x.frm + x.len = n ∧ x.dev = d ∧ x.tgt + x.len = a
  case pos =>
    obtain ⟨g1, g2, g3⟩ := h1
    have HJ : Hid (joinA l (newE n d a) = l.set k (growE x 1)) := HJY.out (by rw [HQ.out, decide_eq_true g1, decide_eq_true g2, decide_eq_true g3]; rfl)
    have b1 : (x.frm + x.len == n) = true := beq_iff_eq.2 g1
    have b2 : (x.dev == d) = true := beq_iff_eq.2 g2
    have b3 : (x.tgt + x.len == a) = true := beq_iff_eq.2 g3
    clear HJN HJY HQ g1 g2 g3
    go_upto_region 6 with fail
    rw [← hW3]
    clear hW3 q0 q1 q2 qf p0 p1 pf c0 c1 c2 c3 c4
    obtain ⟨q0, q1, q2, qf⟩ := three HX3.out
    obtain ⟨c0, c1, c2, c3, c4⟩ := HE3.out
    have hfr : ∀ o, W3.frozen? ⟨g, o, none⟩ = false := by
      rcases HO3.out.2 with ⟨hv, _⟩ | ⟨g', cap, cur, hv, _, hg', _⟩
      · cases hv
      · injection hv with hv _ _
        injection hv with hv
        injection hv with hv
        subst hv
        exact fun o => Lib.frozen_of_heap hg' o
    obtain ⟨W4, hW4⟩ : ∃ W4, W4 = W3.setCell ⟨g, k * 5 + 1, none⟩ (.int .i64 (x.len + 1)) := ⟨_, rfl⟩
    have hsz := HSZ.out
    have hgg := HGG.out
    have HB4 : Hid (Below w.heap.size w W4) := by rw [hW4]; exact HB3.out.setCell (p := ⟨g, k * 5 + 1, none⟩) (by show w.heap.size ≤ g; omega) _
    have HX4 : W4.heap[w.heap.size]? = some (.cells #[.int .i64 dv, .int .i64 s, .slice (some ⟨g, 0, none⟩) N cu] 24 (0, 0)) := by rw [hW4]; exact (heap_setCell_other W3 ⟨g, k * 5 + 1, none⟩ _ _ (by show w.heap.size ≠ g; omega)).trans HX3.out
    have HZ4 : W4.heap[w.heap.size + 1 + 1]? = some (.cells #[.int .i64 0, .int .i64 0, .slice none 0 0] 24 (0, 0)) := by rw [hW4]; exact (heap_setCell_other W3 ⟨g, k * 5 + 1, none⟩ _ _ (by show w.heap.size + 1 + 1 ≠ g; omega)).trans HZ3.out
    have HO4 : Hid (OwnEnts W4 W0.heap.size (.slice (some ⟨g, 0, none⟩) N cu) (l.set k (growE x 1))) := by
      have h0 : W3.ownsRow W0.heap.size 49 5 (.slice (some ⟨g, 0, none⟩) N cu) N (eflat l) := by
        have := HO3.out
        unfold OwnEnts at this
        rwa [← HNN.out] at this
      have h := (World.ownsRow.stored h0 (k * 5 + 1) (.int .i64 (x.len + 1))).1
      rw [HEF.out _ rfl] at h
      rw [hW4]
      show World.ownsRow _ _ _ _ _ _ _
      rw [List.length_set, ← HNN.out]
      exact h
    obtain ⟨y0, y1, y2, yf⟩ := three HX4
    obtain ⟨z0, z1, z2, zf⟩ := three HZ4
    clear hsz hgg
    go_upto_region 7 with fail
    rw [← hW4]
    clear hW4 q0 q1 q2 qf c0 c1 c2 c3 c4 hfr
    go_wp2_with fail
    refine bodyPost_ret (v := .agg #[.int .i64 dv, .int .i64 s, .slice (some ⟨g, 0, none⟩) N cu]) (by simp [results, Try.results26, go_sem, z0, z1, z2]) rfl ⟨⟨_, rfl, _, rfl, ?_⟩, ?_⟩
    · rw [HJ.out]
      have hsz := HSZ.out
      exact own_le (rowset (rowset (rowset HO4.out 0 (g := w.heap.size + 1 + 1) (by omega) _) 1 (g := w.heap.size + 1 + 1) (by omega) _) 2 (g := w.heap.size + 1 + 1) (by omega) _) (by omega)
    · exact three_below HB4.out (by omega)
  case neg =>
    by_cases g1 : x.frm + x.len = n
    case neg =>
      have HJ : Hid (joinA l (newE n d a) = l ++ [newE n d a]) := HJN.out (by rw [HQ.out]; rw [decide_eq_false g1]; rfl)
      have b1 : (x.frm + x.len == n) = false := beq_eq_false_iff_ne.2 g1
      clear g1
      clear HJN HJY HQ h1
      go_upto_region 8 with fail
      rw [← hW3]
      clear hW3 q0 q1 q2 qf p0 p1 pf c0 c1 c2 c3 c4
      obtain ⟨q0, q1, q2, qf⟩ := three HX3.out
      obtain ⟨p0, p1, pf⟩ := two HP3.out
      have HO4 : Hid (OwnEnts (World.alloc W3 (.cells #[.int .i64 n, .int .i64 1, .int .i64 d, .int .i64 a, .int .i64 0] 49)) W0.heap.size (.slice (some ⟨g, 0, none⟩) N cu) l) := HO3.out.below (nwA (nwR W3) _)
      have hey : EntsAt (World.alloc W3 (.cells #[.int .i64 n, .int .i64 1, .int .i64 d, .int .i64 a, .int .i64 0] 49)) (some ⟨(World.heap W3).size, 0, none⟩) [newE n d a] := ents_one W3 (newE n d a) 49
      have hsz4 : W0.heap.size ≤ (World.alloc W3 (.cells #[.int .i64 n, .int .i64 1, .int .i64 d, .int .i64 a, .int .i64 0] 49)).heap.size := Nat.le_trans HWL.out (nwA (nwR W3) _).size
      go_wp2_with (at_builtin; refine wpList_append_ents _ rfl (.tmp 57) (.tmp 64) 22 rfl W0.heap.size i0 _ Try.underlying22 hi hz0 hz1 hz2 rfl (.slice (some ⟨g, 0, none⟩) N cu) l rfl HO4.out (some ⟨(World.heap W3).size, 0, none⟩) 1 [newE n d a] rfl hey (fun e => by cases e) (by simp only [List.length_cons, List.length_nil]; have := HLN.out; omega) hsz4 ?_; intro v' w5 hown hgrow; refine unstop ?_)
      unfold Stop
      have hb5 : Below W0.heap.size (World.alloc W3 (.cells #[.int .i64 n, .int .i64 1, .int .i64 d, .int .i64 a, .int .i64 0] 49)) w5 := (Below.refl _ _).grown hgrow hsz4 (fun q e => (World.ownsRow.lt HO4.out q e).1)
      have hW4 : ∀ k o, k < (World.heap W3).size → (World.heap W3)[k]? = some o → (World.alloc W3 (.cells #[.int .i64 n, .int .i64 1, .int .i64 d, .int .i64 a, .int .i64 0] 49)).heap[k]? = some o := fun k o h1 h2 => (Lib.alloc_old _ _ _ h1).trans h2
      have hsz := HSZ.out
      have HX5 := (hb5.block w.heap.size (by omega)).trans (hW4 _ _ (Array.getElem?_eq_some_iff.1 HX3.out).1 HX3.out)
      have HZ5 := (hb5.block (w.heap.size + 1 + 1) (by omega)).trans (hW4 _ _ (Array.getElem?_eq_some_iff.1 HZ3.out).1 HZ3.out)
      have HB5 : Hid (Below w.heap.size w w5) := (nwA HB3.out _).trans (hb5.mono (by omega))
      have HO5 : Hid (OwnEnts w5 W0.heap.size v' (l ++ [newE n d a])) := hown
      obtain ⟨a5, c5, e5, _, _⟩ := hown.at
      obtain ⟨M, hM⟩ : ∃ M, M = (l ++ [newE n d a]).length := ⟨_, rfl⟩
      rw [← hM] at e5
      subst e5
      obtain ⟨W6, hW6⟩ : ∃ W6, W6 = w5.setCell ⟨w.heap.size, 2, none⟩ (.slice a5 M c5) := ⟨_, rfl⟩
      have HX6 : W6.heap[w.heap.size]? = some (.cells #[.int .i64 dv, .int .i64 s, .slice a5 M c5] 24 (0, 0)) := by rw [hW6]; exact heap_setCell_same w5 w.heap.size 2 _ 24 _ HX5
      have HZ6 : W6.heap[w.heap.size + 1 + 1]? = some (.cells #[.int .i64 0, .int .i64 0, .slice none 0 0] 24 (0, 0)) := by rw [hW6]; exact (heap_setCell_other w5 ⟨w.heap.size, 2, none⟩ _ _ (by show w.heap.size + 1 + 1 ≠ w.heap.size; omega)).trans HZ5
      have HB6 : Hid (Below w.heap.size w W6) := by rw [hW6]; exact HB5.out.setCell (p := ⟨w.heap.size, 2, none⟩) (Nat.le_refl _) _
      have HO6 : Hid (OwnEnts W6 W0.heap.size (.slice a5 M c5) (l ++ [newE n d a])) := by rw [hW6]; exact rowset HO5.out 2 (by omega) _
      obtain ⟨x0, x1, x2, xf⟩ := three HX5
      obtain ⟨y0, y1, y2, yf⟩ := three HX6
      obtain ⟨z0, z1, z2, zf⟩ := three HZ6
      clear hown hgrow hb5 hW4 HX5 HZ5 q0 q1 q2 qf p0 p1 pf hey hsz4 hM
      go_upto_region 9 with fail
      rw [← hW6]
      clear hW6 x0 x1 x2 xf
      go_wp2_with fail
      refine bodyPost_ret (v := .agg #[.int .i64 dv, .int .i64 s, .slice a5 M c5]) (by simp [results, Try.results26, go_sem, z0, z1, z2]) rfl ⟨⟨_, rfl, _, rfl, ?_⟩, ?_⟩
      · rw [HJ.out]
        exact own_le (rowset (rowset (rowset HO6.out 0 (g := w.heap.size + 1 + 1) (by omega) _) 1 (g := w.heap.size + 1 + 1) (by omega) _) 2 (g := w.heap.size + 1 + 1) (by omega) _) (by omega)
      · exact three_below HB6.out (by omega)
    case pos =>
    have b1 : (x.frm + x.len == n) = true := beq_iff_eq.2 g1
    by_cases g2 : x.dev = d
    case neg =>
      have HJ : Hid (joinA l (newE n d a) = l ++ [newE n d a]) := HJN.out (by rw [HQ.out]; rw [decide_eq_true g1, decide_eq_false g2]; rfl)
      have b2 : (x.dev == d) = false := beq_eq_false_iff_ne.2 g2
      clear g1 g2
      clear HJN HJY HQ h1
      go_upto_region 8 with fail
      rw [← hW3]
      clear hW3 q0 q1 q2 qf p0 p1 pf c0 c1 c2 c3 c4
      obtain ⟨q0, q1, q2, qf⟩ := three HX3.out
      obtain ⟨p0, p1, pf⟩ := two HP3.out
      have HO4 : Hid (OwnEnts (World.alloc W3 (.cells #[.int .i64 n, .int .i64 1, .int .i64 d, .int .i64 a, .int .i64 0] 49)) W0.heap.size (.slice (some ⟨g, 0, none⟩) N cu) l) := HO3.out.below (nwA (nwR W3) _)
      have hey : EntsAt (World.alloc W3 (.cells #[.int .i64 n, .int .i64 1, .int .i64 d, .int .i64 a, .int .i64 0] 49)) (some ⟨(World.heap W3).size, 0, none⟩) [newE n d a] := ents_one W3 (newE n d a) 49
      have hsz4 : W0.heap.size ≤ (World.alloc W3 (.cells #[.int .i64 n, .int .i64 1, .int .i64 d, .int .i64 a, .int .i64 0] 49)).heap.size := Nat.le_trans HWL.out (nwA (nwR W3) _).size
      go_wp2_with (at_builtin; refine wpList_append_ents _ rfl (.tmp 57) (.tmp 64) 22 rfl W0.heap.size i0 _ Try.underlying22 hi hz0 hz1 hz2 rfl (.slice (some ⟨g, 0, none⟩) N cu) l rfl HO4.out (some ⟨(World.heap W3).size, 0, none⟩) 1 [newE n d a] rfl hey (fun e => by cases e) (by simp only [List.length_cons, List.length_nil]; have := HLN.out; omega) hsz4 ?_; intro v' w5 hown hgrow; refine unstop ?_)
      unfold Stop
      have hb5 : Below W0.heap.size (World.alloc W3 (.cells #[.int .i64 n, .int .i64 1, .int .i64 d, .int .i64 a, .int .i64 0] 49)) w5 := (Below.refl _ _).grown hgrow hsz4 (fun q e => (World.ownsRow.lt HO4.out q e).1)
      have hW4 : ∀ k o, k < (World.heap W3).size → (World.heap W3)[k]? = some o → (World.alloc W3 (.cells #[.int .i64 n, .int .i64 1, .int .i64 d, .int .i64 a, .int .i64 0] 49)).heap[k]? = some o := fun k o h1 h2 => (Lib.alloc_old _ _ _ h1).trans h2
      have hsz := HSZ.out
      have HX5 := (hb5.block w.heap.size (by omega)).trans (hW4 _ _ (Array.getElem?_eq_some_iff.1 HX3.out).1 HX3.out)
      have HZ5 := (hb5.block (w.heap.size + 1 + 1) (by omega)).trans (hW4 _ _ (Array.getElem?_eq_some_iff.1 HZ3.out).1 HZ3.out)
      have HB5 : Hid (Below w.heap.size w w5) := (nwA HB3.out _).trans (hb5.mono (by omega))
      have HO5 : Hid (OwnEnts w5 W0.heap.size v' (l ++ [newE n d a])) := hown
      obtain ⟨a5, c5, e5, _, _⟩ := hown.at
      obtain ⟨M, hM⟩ : ∃ M, M = (l ++ [newE n d a]).length := ⟨_, rfl⟩
      rw [← hM] at e5
      subst e5
      obtain ⟨W6, hW6⟩ : ∃ W6, W6 = w5.setCell ⟨w.heap.size, 2, none⟩ (.slice a5 M c5) := ⟨_, rfl⟩
      have HX6 : W6.heap[w.heap.size]? = some (.cells #[.int .i64 dv, .int .i64 s, .slice a5 M c5] 24 (0, 0)) := by rw [hW6]; exact heap_setCell_same w5 w.heap.size 2 _ 24 _ HX5
      have HZ6 : W6.heap[w.heap.size + 1 + 1]? = some (.cells #[.int .i64 0, .int .i64 0, .slice none 0 0] 24 (0, 0)) := by rw [hW6]; exact (heap_setCell_other w5 ⟨w.heap.size, 2, none⟩ _ _ (by show w.heap.size + 1 + 1 ≠ w.heap.size; omega)).trans HZ5
      have HB6 : Hid (Below w.heap.size w W6) := by rw [hW6]; exact HB5.out.setCell (p := ⟨w.heap.size, 2, none⟩) (Nat.le_refl _) _
      have HO6 : Hid (OwnEnts W6 W0.heap.size (.slice a5 M c5) (l ++ [newE n d a])) := by rw [hW6]; exact rowset HO5.out 2 (by omega) _
      obtain ⟨x0, x1, x2, xf⟩ := three HX5
      obtain ⟨y0, y1, y2, yf⟩ := three HX6
      obtain ⟨z0, z1, z2, zf⟩ := three HZ6
      clear hown hgrow hb5 hW4 HX5 HZ5 q0 q1 q2 qf p0 p1 pf hey hsz4 hM
      go_upto_region 9 with fail
      rw [← hW6]
      clear hW6 x0 x1 x2 xf
      go_wp2_with fail
      refine bodyPost_ret (v := .agg #[.int .i64 dv, .int .i64 s, .slice a5 M c5]) (by simp [results, Try.results26, go_sem, z0, z1, z2]) rfl ⟨⟨_, rfl, _, rfl, ?_⟩, ?_⟩
      · rw [HJ.out]
        exact own_le (rowset (rowset (rowset HO6.out 0 (g := w.heap.size + 1 + 1) (by omega) _) 1 (g := w.heap.size + 1 + 1) (by omega) _) 2 (g := w.heap.size + 1 + 1) (by omega) _) (by omega)
      · exact three_below HB6.out (by omega)
    case pos =>
    have b2 : (x.dev == d) = true := beq_iff_eq.2 g2
    have g3 : ¬ x.tgt + x.len = a := fun g3 => h1 ⟨g1, g2, g3⟩
    have HJ : Hid (joinA l (newE n d a) = l ++ [newE n d a]) := HJN.out (by rw [HQ.out]; rw [decide_eq_true g1, decide_eq_true g2, decide_eq_false g3]; rfl)
    have b3 : (x.tgt + x.len == a) = false := beq_eq_false_iff_ne.2 g3
    clear g1 g2 g3
    clear HJN HJY HQ h1
    go_upto_region 8 with fail
    rw [← hW3]
    clear hW3 q0 q1 q2 qf p0 p1 pf c0 c1 c2 c3 c4
    obtain ⟨q0, q1, q2, qf⟩ := three HX3.out
    obtain ⟨p0, p1, pf⟩ := two HP3.out
    have HO4 : Hid (OwnEnts (World.alloc W3 (.cells #[.int .i64 n, .int .i64 1, .int .i64 d, .int .i64 a, .int .i64 0] 49)) W0.heap.size (.slice (some ⟨g, 0, none⟩) N cu) l) := HO3.out.below (nwA (nwR W3) _)
    have hey : EntsAt (World.alloc W3 (.cells #[.int .i64 n, .int .i64 1, .int .i64 d, .int .i64 a, .int .i64 0] 49)) (some ⟨(World.heap W3).size, 0, none⟩) [newE n d a] := ents_one W3 (newE n d a) 49
    have hsz4 : W0.heap.size ≤ (World.alloc W3 (.cells #[.int .i64 n, .int .i64 1, .int .i64 d, .int .i64 a, .int .i64 0] 49)).heap.size := Nat.le_trans HWL.out (nwA (nwR W3) _).size
    go_wp2_with (at_builtin; refine wpList_append_ents _ rfl (.tmp 57) (.tmp 64) 22 rfl W0.heap.size i0 _ Try.underlying22 hi hz0 hz1 hz2 rfl (.slice (some ⟨g, 0, none⟩) N cu) l rfl HO4.out (some ⟨(World.heap W3).size, 0, none⟩) 1 [newE n d a] rfl hey (fun e => by cases e) (by simp only [List.length_cons, List.length_nil]; have := HLN.out; omega) hsz4 ?_; intro v' w5 hown hgrow; refine unstop ?_)
    unfold Stop
    have hb5 : Below W0.heap.size (World.alloc W3 (.cells #[.int .i64 n, .int .i64 1, .int .i64 d, .int .i64 a, .int .i64 0] 49)) w5 := (Below.refl _ _).grown hgrow hsz4 (fun q e => (World.ownsRow.lt HO4.out q e).1)
    have hW4 : ∀ k o, k < (World.heap W3).size → (World.heap W3)[k]? = some o → (World.alloc W3 (.cells #[.int .i64 n, .int .i64 1, .int .i64 d, .int .i64 a, .int .i64 0] 49)).heap[k]? = some o := fun k o h1 h2 => (Lib.alloc_old _ _ _ h1).trans h2
    have hsz := HSZ.out
    have HX5 := (hb5.block w.heap.size (by omega)).trans (hW4 _ _ (Array.getElem?_eq_some_iff.1 HX3.out).1 HX3.out)
    have HZ5 := (hb5.block (w.heap.size + 1 + 1) (by omega)).trans (hW4 _ _ (Array.getElem?_eq_some_iff.1 HZ3.out).1 HZ3.out)
    have HB5 : Hid (Below w.heap.size w w5) := (nwA HB3.out _).trans (hb5.mono (by omega))
    have HO5 : Hid (OwnEnts w5 W0.heap.size v' (l ++ [newE n d a])) := hown
    obtain ⟨a5, c5, e5, _, _⟩ := hown.at
    obtain ⟨M, hM⟩ : ∃ M, M = (l ++ [newE n d a]).length := ⟨_, rfl⟩
    rw [← hM] at e5
    subst e5
    obtain ⟨W6, hW6⟩ : ∃ W6, W6 = w5.setCell ⟨w.heap.size, 2, none⟩ (.slice a5 M c5) := ⟨_, rfl⟩
    have HX6 : W6.heap[w.heap.size]? = some (.cells #[.int .i64 dv, .int .i64 s, .slice a5 M c5] 24 (0, 0)) := by rw [hW6]; exact heap_setCell_same w5 w.heap.size 2 _ 24 _ HX5
    have HZ6 : W6.heap[w.heap.size + 1 + 1]? = some (.cells #[.int .i64 0, .int .i64 0, .slice none 0 0] 24 (0, 0)) := by rw [hW6]; exact (heap_setCell_other w5 ⟨w.heap.size, 2, none⟩ _ _ (by show w.heap.size + 1 + 1 ≠ w.heap.size; omega)).trans HZ5
    have HB6 : Hid (Below w.heap.size w W6) := by rw [hW6]; exact HB5.out.setCell (p := ⟨w.heap.size, 2, none⟩) (Nat.le_refl _) _
    have HO6 : Hid (OwnEnts W6 W0.heap.size (.slice a5 M c5) (l ++ [newE n d a])) := by rw [hW6]; exact rowset HO5.out 2 (by omega) _
    obtain ⟨x0, x1, x2, xf⟩ := three HX5
    obtain ⟨y0, y1, y2, yf⟩ := three HX6
    obtain ⟨z0, z1, z2, zf⟩ := three HZ6
    clear hown hgrow hb5 hW4 HX5 HZ5 q0 q1 q2 qf p0 p1 pf hey hsz4 hM
    go_upto_region 9 with fail
    rw [← hW6]
    clear hW6 x0 x1 x2 xf
    go_wp2_with fail
    refine bodyPost_ret (v := .agg #[.int .i64 dv, .int .i64 s, .slice a5 M c5]) (by simp [results, Try.results26, go_sem, z0, z1, z2]) rfl ⟨⟨_, rfl, _, rfl, ?_⟩, ?_⟩
    · rw [HJ.out]
      exact own_le (rowset (rowset (rowset HO6.out 0 (g := w.heap.size + 1 + 1) (by omega) _) 1 (g := w.heap.size + 1 + 1) (by omega) _) 2 (g := w.heap.size + 1 + 1) (by omega) _) (by omega)
    · exact three_below HB6.out (by omega)

end Go.Proofs.Ytijldakgfgmbiaa
