/- Laid together: Pagx, Pagy, Scr, Openg. -/
import Derived.Test.YtijldakgfgmbiaaTableM6
import Derived.Test.YtijldakgfgmbiaaRows
import Derived.Test.YtijldakgfgmbiaaChecked
import Derived.ProofKit
import Derived.SizedLaws
import Derived.Lib.SmallJoins
import Derived.Deep.Slices
/- The page's: one sector more stale. -/
namespace Go.Proofs.Ytijldakgfgmbiaa
open Go.RowKit

def RLoseR (t : TabD) (n : Int) (base : Nat) (e : Ending) (w' : World) : Prop :=
  (inT t.list n = none ∧ e = .returned (.tuple #[tabZ, .int .i64 3])) ∨
  (∃ k, inT t.list n = some k ∧ k < t.list.length ∧ (((t.list.getD k EZ).stale = (t.list.getD k EZ).len ∧ e = .returned (.tuple #[tabZ, .int .i64 9])) ∨
    ((t.list.getD k EZ).stale ≠ (t.list.getD k EZ).len ∧ ∃ v, e = .returned (.tuple #[v, .int .i64 0]) ∧ OwnTab w' base v ⟨t.dev, t.size, t.list.set k (incE (t.list.getD k EZ))⟩)))
set_option maxRecDepth 100000 in
set_option maxHeartbeats 16000000 in
theorem rlose_any (v : Value) (t : TabD) (n : Int) (w : World) (hv : TabVal w v t) (hl : t.list.length ≤ 900) (hf : ∀ i, i < t.list.length → InE t.dev 64 (t.list.getD i EZ)) :
    Calls Try.prog 27 #[v, .int .i64 n] w fun e w' => RLoseR t n w.heap.size e w' ∧ Below w.heap.size w w' := by
  have HV : Hid (∀ w', Below w.heap.size w w' → TabVal w' v t) := fun w' h => hv.below h
  obtain ⟨al, c, rfl, hx, hnn⟩ := hv
  obtain ⟨dv, s, l⟩ := t
  simp only at hx hl hf hnn HV ⊢
  obtain ⟨W0, hW0⟩ : ∃ W0, W0 = (w.alloc (.cells #[.int .i64 dv, .int .i64 s, .slice al l.length c] 24)).alloc (.cells #[.int .i64 0, .int .i64 0, .slice none 0 0] 24) := ⟨_, rfl⟩
  have hb0 : Below w.heap.size w W0 := by rw [hW0]; exact nwA (nwA (nwR w) _) _
  have HSZ : Hid (W0.heap.size = w.heap.size + 2) := by show _ = _; rw [hW0]; simp
  have HB0 : Hid (Below w.heap.size w W0) := hb0
  have H3 : Hid (W0.heap[w.heap.size]? = some (.cells #[.int .i64 dv, .int .i64 s, .slice al l.length c] 24 (0, 0)) ∧ W0.heap[w.heap.size + 1]? = some (.cells #[.int .i64 0, .int .i64 0, .slice none 0 0] 24 (0, 0))) := by
    show _ ∧ _
    rw [hW0]; exact ⟨(Lib.alloc_old _ _ _ (by simp)).trans (heap_alloc_new w _), heap_alloc_new2 w _ _⟩
  have HCP : Hid (Calls Try.prog 9 #[.agg #[.int .i64 dv, .int .i64 s, .slice al l.length c]] W0 fun e w' => (∃ u, e = .returned u ∧ OwnTab w' W0.heap.size u ⟨dv, s, l⟩) ∧ Below W0.heap.size W0 w') := copyTab_any _ ⟨dv, s, l⟩ W0 (HV.out W0 hb0) (by show l.length ≤ 1000; omega)
  have HF : Hid (∀ i, i < l.length → InE dv 64 (l.getD i EZ)) := hf
  have HLN : Hid (l.length ≤ 900) := hl
  clear hx hnn hb0 HV hf hl
  go_enter Try.func27, Try.ntmps27
  go_wp2_with fail
  rw [← hW0]
  clear hW0
  refine HCP.out.mono ?_
  rintro e w1 ⟨⟨u, rfl, u1, rfl, ho⟩, hb1⟩
  have hb01 : Below w.heap.size w w1 := nwT HB0.out hb1
  obtain ⟨au, cu, rfl, _, hnk⟩ := ho.at
  have hX1 := (hb1.block _ (Array.getElem?_eq_some_iff.1 H3.out.1).1).trans H3.out.1
  have hZ1 := (hb1.block _ (Array.getElem?_eq_some_iff.1 H3.out.2).1).trans H3.out.2
  obtain ⟨W2, hW2⟩ : ∃ W2, W2 = ((w1.setCell ⟨w.heap.size, 0, none⟩ (.int .i64 dv)).setCell ⟨w.heap.size, 1, none⟩ (.int .i64 s)).setCell ⟨w.heap.size, 2, none⟩ (.slice au l.length cu) := ⟨_, rfl⟩
  have HB2 : Hid (Below w.heap.size w W2) := by rw [hW2]; exact three_below hb01 (Nat.le_refl _)
  have hX2 : W2.heap[w.heap.size]? = some (.cells #[.int .i64 dv, .int .i64 s, .slice au l.length cu] 24 (0, 0)) := by rw [hW2]; exact three_set hX1
  have hZ2 : W2.heap[w.heap.size + 1]? = some (.cells #[.int .i64 0, .int .i64 0, .slice none 0 0] 24 (0, 0)) := by rw [hW2]; exact three_other hZ1 (by omega)
  have HX2 : Hid (∀ w', Below W2.heap.size W2 w' → w'.heap[w.heap.size]? = some (.cells #[.int .i64 dv, .int .i64 s, .slice au l.length cu] 24 (0, 0)) ∧ w'.heap[w.heap.size + 1]? = some (.cells #[.int .i64 0, .int .i64 0, .slice none 0 0] 24 (0, 0))) := fun w' h => ⟨(h.block _ (Array.getElem?_eq_some_iff.1 hX2).1).trans hX2, (h.block _ (Array.getElem?_eq_some_iff.1 hZ2).1).trans hZ2⟩
  have HO2 : Hid (OwnEnts W2 W0.heap.size (.slice au l.length cu) l) := by
    have := HSZ.out
    rw [hW2]; exact rowset (rowset (rowset ho 0 (g := w.heap.size) (by omega) _) 1 (g := w.heap.size) (by omega) _) 2 (g := w.heap.size) (by omega) _
  have HIN : Hid (Calls Try.prog 46 #[.agg #[.int .i64 dv, .int .i64 s, .slice au l.length cu], .int .i64 n] W2 fun e w' => e = .returned (.int .i64 (inZ l n)) ∧ Below W2.heap.size W2 w') := by
    obtain ⟨_, _, e', hE, hN⟩ := HO2.out.at
    injection e' with e' _ e''
    subst e'; subst e''
    exact rin_any _ ⟨dv, s, l⟩ n W2 ⟨au, cu, rfl, hE, hN⟩ (by show l.length ≤ 1000; have := HLN.out; omega) (fun i hi => (HF.out i hi).fair (by omega))
  obtain ⟨r0, r1, r2, rf⟩ := three hX1
  obtain ⟨q0, q1, q2, qf⟩ := three hX2
  clear ho hb1 hb01 hZ1 HCP H3 hX2 hZ2
  go_upto_region 2 with fail
  rw [← hW2]
  clear hW2 r0 r1 r2 rf hX1
  go_wp2_with fail
  refine HIN.out.mono ?_
  rintro e w3 ⟨rfl, hb3⟩
  have HB3 : Hid (Below W2.heap.size W2 w3) := hb3
  clear q0 q1 q2 qf hb3 HIN
  cases hin : inT l n with
  | none =>
    have e1 : inZ l n = -1 := by unfold inZ; rw [hin]
    rw [e1]
    have HN : Hid (inT l n = none) := hin
    obtain ⟨z0, z1, z2, zf⟩ := three (HX2.out w3 HB3.out).2
    clear e1 hin
    go_wp2_with fail
    refine bodyPost_ret (v := .tuple #[.agg #[.int .i64 0, .int .i64 0, .slice none 0 0], .int .i64 3]) (by simp [results, Try.results27, go_sem, z0, z1, z2]) rfl ⟨.inl ⟨HN.out, rfl⟩, ?_⟩
    exact three_below (nwT HB2.out HB3.out) (by omega)
  | some k =>
    have e1 : inZ l n = k := by unfold inZ; rw [hin]
    rw [e1]
    obtain ⟨hkl, _⟩ := inT_some hin
    have HN : Hid (inT l n = some k ∧ k < l.length) := ⟨hin, hkl⟩
    have hI := HF.out k hkl
    have hk0 : (0 : Int) ≤ (k : Int) := by omega
    have hki : (k : Int) < (l.length : Int) := by omega
    obtain ⟨g, hgg⟩ : ∃ g, au = some ⟨g, 0, none⟩ ∧ W0.heap.size ≤ g := by
      obtain ⟨g, e, h⟩ := HO2.out.zero.2 (by omega)
      exact ⟨g, e, h⟩
    obtain ⟨rfl, hg⟩ := hgg
    have HO3 : Hid (OwnEnts w3 W0.heap.size (.slice (some ⟨g, 0, none⟩) l.length cu) l) := HO2.out.below HB3.out
    have hEk : EntAt w3 g (k * 5) (l.getD k EZ) := by
      obtain ⟨_, _, e', hE, _⟩ := HO3.out.at
      injection e' with e' _ e''
      subst e'
      have := hE.at (i := k) hkl
      rwa [Nat.zero_add] at this
    have HEF : Hid (∀ v, v = .int .i64 ((l.getD k EZ).stale + 1) → (eflat l).set (k * 5 + 4) v = eflat (l.set k (incE (l.getD k EZ)))) := fun v h => by subst h; exact eflat_inc l k hkl
    obtain ⟨x, hx⟩ : ∃ x, l.getD k EZ = x := ⟨_, rfl⟩
    have HXX : Hid (l.getD k EZ = x) := hx
    rw [hx] at hEk HEF hI
    obtain ⟨c0, c1, c2, c3, c4⟩ := hEk
    obtain ⟨q0, q1, q2, qf⟩ := three (HX2.out w3 HB3.out).1
    obtain ⟨z0, z1, z2, zf⟩ := three (HX2.out w3 HB3.out).2
    have HGG : Hid (W0.heap.size ≤ g) := hg
    clear e1 hin hx hg
    by_cases hst : x.stale = x.len
    case pos =>
      have hd : decide (x.len ≤ x.stale) = true := decide_eq_true (by omega)
      have HST : Hid (x.stale = x.len) := hst
      have HZD : Hid (∀ q, (w3.drewN q).heap[w.heap.size + 1]? = some (.cells #[.int .i64 0, .int .i64 0, .slice none 0 0] 24 (0, 0))) := fun q => (HX2.out w3 HB3.out).2
      clear hI hst
      go_wp2_with fail
      go_quiet (fail)
      rename Nat => q9
      obtain ⟨z0, z1, z2, zf⟩ := three (HZD.out q9)
      go_wp2_with fail
      refine bodyPost_ret (v := .tuple #[.agg #[.int .i64 0, .int .i64 0, .slice none 0 0], .int .i64 9]) (by simp [results, Try.results27, go_sem, z0, z1, z2]) rfl ⟨.inr ⟨k, HN.out.1, HN.out.2, .inl ⟨by show (l.getD k EZ).stale = (l.getD k EZ).len; rw [HXX.out]; exact HST.out, rfl⟩⟩, ?_⟩
      exact three_below (below_drewN (nwT HB2.out HB3.out) q9) (by omega)
    case neg =>
      have hd : decide (x.len ≤ x.stale) = false := decide_eq_false (by have := hI.sl; omega)
      have HST : Hid (x.stale ≠ x.len) := hst
      have e2 : IntKind.i64.wrap (x.stale + 1) = x.stale + 1 := wrap_i (by have := hI.s0; omega) (by have := hI.sl; have := hI.f0; have := hI.fl; omega)
      clear hI hst
      go_wp2_with fail
      go_quiet (fail)
      rename Nat => q9
      obtain ⟨W4, hW4⟩ : ∃ W4, W4 = w3.drewN q9 := ⟨_, rfl⟩
      have HB4 : Hid (Below w3.heap.size w3 W4) := by rw [hW4]; exact below_drewN (nwR w3) q9
      rw [← hW4]
      clear hW4 c0 c1 c2 c3 c4 q0 q1 q2 qf z0 z1 z2 zf
      have HO4 : Hid (OwnEnts W4 W0.heap.size (.slice (some ⟨g, 0, none⟩) l.length cu) l) := HO3.out.below HB4.out
      have hEk : EntAt W4 g (k * 5) x := by
        obtain ⟨_, _, e', hE, _⟩ := HO4.out.at
        injection e' with e' _ e''
        subst e'
        have := hE.at (i := k) hkl
        rwa [Nat.zero_add, HXX.out] at this
      obtain ⟨c0, c1, c2, c3, c4⟩ := hEk
      obtain ⟨q0, q1, q2, qf⟩ := three (HX2.out W4 (nwT HB3.out HB4.out)).1
      have hfr : ∀ o, W4.frozen? ⟨g, o, none⟩ = false := by
        rcases HO4.out.2 with ⟨hv, _⟩ | ⟨g', cap, cur, hv, _, hg', _⟩
        · cases hv
        · injection hv with hv _ _
          injection hv with hv
          injection hv with hv
          subst hv
          exact fun o => Lib.frozen_of_heap hg' o
      obtain ⟨W5, hW5⟩ : ∃ W5, W5 = W4.setCell ⟨g, k * 5 + 4, none⟩ (.int .i64 (x.stale + 1)) := ⟨_, rfl⟩
      have hsz := HSZ.out
      have hgg := HGG.out
      have hX5 : W5.heap[w.heap.size]? = some (.cells #[.int .i64 dv, .int .i64 s, .slice (some ⟨g, 0, none⟩) l.length cu] 24 (0, 0)) := by rw [hW5]; exact (heap_setCell_other W4 ⟨g, k * 5 + 4, none⟩ _ _ (by show w.heap.size ≠ g; omega)).trans (HX2.out W4 (nwT HB3.out HB4.out)).1
      have hZ5 : W5.heap[w.heap.size + 1]? = some (.cells #[.int .i64 0, .int .i64 0, .slice none 0 0] 24 (0, 0)) := by rw [hW5]; exact (heap_setCell_other W4 ⟨g, k * 5 + 4, none⟩ _ _ (by show w.heap.size + 1 ≠ g; omega)).trans (HX2.out W4 (nwT HB3.out HB4.out)).2
      have HB5 : Hid (Below w.heap.size w W5) := by rw [hW5]; exact (nwT HB2.out (nwT HB3.out HB4.out)).setCell (p := ⟨g, k * 5 + 4, none⟩) (by show w.heap.size ≤ g; omega) _
      have HO5 : Hid (OwnEnts W5 W0.heap.size (.slice (some ⟨g, 0, none⟩) l.length cu) (l.set k (incE x))) := by
        have h := (World.ownsRow.stored HO4.out (k * 5 + 4) (.int .i64 (x.stale + 1))).1
        rw [HEF.out _ rfl] at h
        rw [hW5]
        show World.ownsRow _ _ _ _ _ _ _
        rw [List.length_set]
        exact h
      obtain ⟨y0, y1, y2, yf⟩ := three hX5
      obtain ⟨z0, z1, z2, zf⟩ := three hZ5
      clear hsz hgg
      go_upto_region 8 with fail
      rw [← hW5]
      clear hW5 q0 q1 q2 qf c0 c1 c2 c3 c4 hfr
      go_wp2_with fail
      refine bodyPost_ret (v := .tuple #[.agg #[.int .i64 dv, .int .i64 s, .slice (some ⟨g, 0, none⟩) l.length cu], .int .i64 0]) (by simp [results, Try.results27, go_sem, z0, z1, z2]) rfl ⟨.inr ⟨k, HN.out.1, HN.out.2, .inr ⟨by show (l.getD k EZ).stale ≠ (l.getD k EZ).len; rw [HXX.out]; exact HST.out, _, rfl, _, rfl, ?_⟩⟩, ?_⟩
      · show OwnEnts _ _ _ (l.set k (incE (l.getD k EZ)))
        rw [HXX.out]
        have hsz := HSZ.out
        exact own_le (rowset (rowset (rowset HO5.out 0 (g := w.heap.size + 1) (by omega) _) 1 (g := w.heap.size + 1) (by omega) _) 2 (g := w.heap.size + 1) (by omega) _) (by omega)
      · exact three_below HB5.out (by omega)

end Go.Proofs.Ytijldakgfgmbiaa

/- The page's: a table without what is stale altogether. -/
namespace Go.Proofs.Ytijldakgfgmbiaa
open Go.RowKit

structure TdS (w : World) (o : Obj) (w' : World) : Prop where
  b : Below w.heap.size w w'
  x : w'.heap[w.heap.size]? = some o
theorem restE_snoc (l : List EntD) (x : EntD) : restE (l ++ [x]) = restE l ++ (if stayE x then [x] else []) := by
  unfold restE
  rw [List.filter_append]
  congr 1
  cases h : stayE x <;> simp [h]
theorem restE_len (l : List EntD) : (restE l).length ≤ l.length := List.length_filter_le _ _
set_option maxRecDepth 100000 in
set_option maxHeartbeats 16000000 in
theorem rtidy_any (v : Value) (t : TabD) (w : World) (hv : TabVal w v t) (hl : t.list.length ≤ 900) (hf : ∀ i, i < t.list.length → InE t.dev 64 (t.list.getD i EZ)) :
    Calls Try.prog 28 #[v] w fun e w' => (∃ u, e = .returned u ∧ OwnTab w' w.heap.size u ⟨t.dev, t.size, restE t.list⟩) ∧ Below w.heap.size w w' := by
  obtain ⟨al, c, rfl, hx, hnn⟩ := hv
  obtain ⟨dv, s, l⟩ := t
  simp only at hx hl hf hnn ⊢
  obtain ⟨W0, hW0⟩ : ∃ W0, W0 = ((w.alloc (.cells #[.int .i64 dv, .int .i64 s, .slice al l.length c] 24)).alloc (.cells #[.int .i64 0, .int .i64 0, .slice none 0 0] 24)).alloc (.cells #[.int .i64 dv, .int .i64 s, .slice none 0 0] 24) := ⟨_, rfl⟩
  have HB0 : Hid (Below w.heap.size w W0) := by rw [hW0]; exact nwA (nwA (nwA (nwR w) _) _) _
  have HSZ : Hid (W0.heap.size = w.heap.size + 3) := by show _ = _; rw [hW0]; simp
  have H3 : Hid (W0.heap[w.heap.size]? = some (.cells #[.int .i64 dv, .int .i64 s, .slice al l.length c] 24 (0, 0)) ∧ W0.heap[w.heap.size + 1]? = some (.cells #[.int .i64 0, .int .i64 0, .slice none 0 0] 24 (0, 0)) ∧ W0.heap[w.heap.size + 1 + 1]? = some (.cells #[.int .i64 dv, .int .i64 s, .slice none 0 0] 24 (0, 0))) := by
    show _ ∧ _ ∧ _
    rw [hW0]; exact three_at w _ _ _
  have HX : Hid (∀ w', Below w.heap.size w w' → EntsAt w' al l) := fun w' h => hx.below h
  have HF : Hid (∀ i, i < l.length → InE dv 64 (l.getD i EZ)) := hf
  obtain ⟨i0, hi, hz0, hz1, hz2⟩ := info_parts Try.info49
  clear hx hnn hf
  go_enter Try.func28, Try.ntmps28
  go_wp2_with fail
  rw [← hW0]
  clear hW0
  go_loopw [4] (fun i wr => ∃ (k : Nat), k ≤ l.length ∧ i = .int .i64 k ∧ Hid (TdS w (.cells #[.int .i64 dv, .int .i64 s, .slice al l.length c] 24 (0, 0)) wr ∧ wr.heap[w.heap.size + 1]? = some (.cells #[.int .i64 0, .int .i64 0, .slice none 0 0] 24 (0, 0)) ∧ w.heap.size + 3 ≤ wr.heap.size ∧ ∃ u, wr.heap[w.heap.size + 1 + 1]? = some (.cells #[.int .i64 dv, .int .i64 s, u] 24 (0, 0)) ∧ OwnEnts wr (w.heap.size + 3) u (restE (l.take k))))
    (fun i _ => l.length - (intOf i).toNat)
  case atStart => exact ⟨0, by omega, rfl, ⟨HB0.out, H3.out.1⟩, H3.out.2.1, by have := HSZ.out; omega, _, H3.out.2.2, OwnEnts.nil _ _⟩
  case round =>
    obtain ⟨k, hk, rfl, HH⟩ := hrel
    obtain ⟨u, hu, hou⟩ := HH.out.2.2.2
    obtain ⟨au, cu, rfl, _⟩ := hou.at
    obtain ⟨N, hN⟩ : ∃ N, N = (restE (l.take k)).length := ⟨_, rfl⟩
    rw [← hN] at hu hou
    have hN2 : N ≤ 900 := by have := restE_len (l.take k); rw [List.length_take] at this; omega
    have HU : Hid (wr.heap[w.heap.size + 1 + 1]? = some (.cells #[.int .i64 dv, .int .i64 s, .slice au N cu] 24 (0, 0))) := hu
    have HOU : Hid (OwnEnts wr (w.heap.size + 3) (.slice au N cu) (restE (l.take k))) := hou
    have HNN : Hid (N = (restE (l.take k)).length) := hN
    obtain ⟨a0, a1, a2, _⟩ := three HH.out.1.x
    obtain ⟨u0, u1, u2, uf⟩ := three hu
    obtain ⟨z0, z1, z2, zf⟩ := three HH.out.2.1
    have hb := HH.out.1.b
    clear hu hou hN
    by_cases hkl : k < l.length
    case neg =>
      have hkli : ¬ (k : Int) < (l.length : Int) := by omega
      have HZ : Hid (OwnEnts wr (w.heap.size + 3) (.slice au N cu) (restE l)) := by
        have := HOU.out
        rw [List.take_of_length_le (by omega)] at this
        exact this
      go_wp2_with fail
      refine bodyPost_ret (v := .agg #[.int .i64 dv, .int .i64 s, .slice au N cu]) (by simp [results, Try.results28, go_sem, z0, z1, z2]) rfl ⟨⟨_, rfl, _, rfl, ?_⟩, ?_⟩
      · exact own_le (rowset (rowset (rowset HZ.out 0 (g := w.heap.size + 1) (by omega) _) 1 (g := w.heap.size + 1) (by omega) _) 2 (g := w.heap.size + 1) (by omega) _) (by omega)
      · exact three_below hb (by omega)
    case pos =>
    have hkli : (k : Int) < (l.length : Int) := by omega
    have hk0 : (0 : Int) ≤ (k : Int) := by omega
    obtain ⟨b, o, rfl, hE⟩ := (HX.out wr hb).ent hkl
    have HEE : Hid (∀ w', Below w.heap.size w w' → EntAt w' b (o + k * 5) (l.getD k EZ)) := fun w' h => (HX.out w' h).at hkl
    have hI := HF.out k hkl
    have HS : Hid (restE (l.take (k + 1)) = restE (l.take k) ++ (if stayE (l.getD k EZ) then [l.getD k EZ] else [])) := by
      show _ = _
      rw [take_snoc hkl, restE_snoc]
    have HSX : Hid (stayE (l.getD k EZ) = !((l.getD k EZ).stale == (l.getD k EZ).len)) := rfl
    generalize l.getD k EZ = x at hE hI HS HEE HSX
    obtain ⟨c0, c1, c2, c3, c4⟩ := hE
    by_cases hst : x.stale = x.len
    case pos =>
      have hd : decide (x.stale < x.len) = false := decide_eq_false (by omega)
      have HN2 : Hid (restE (l.take (k + 1)) = restE (l.take k)) := by
        show _ = _
        rw [HS.out, HSX.out, beq_iff_eq.2 hst]; simp
      clear hst hI HS HSX
      go_wp2_with fail
      go_quiet (fail)
      rename Nat => q9
      go_wp2_with fail
      go_roundw
      case rel => exact ⟨k + 1, by omega, by go_num, ⟨⟨below_drewN HH.out.1.b q9, HH.out.1.x⟩, HH.out.2.1, HH.out.2.2.1, _, HU.out, by rw [HN2.out]; exact own_below HOU.out (below_drewN (nwR wr) q9)⟩⟩
      case measure => simp [intOf]; omega
    case neg =>
    have hd : decide (x.stale < x.len) = true := decide_eq_true (by have := hI.sl; omega)
    have HN2 : Hid (restE (l.take (k + 1)) = restE (l.take k) ++ [x]) := by
      show _ = _
      rw [HS.out, HSX.out, beq_eq_false_iff_ne.2 hst]; simp
    clear hst hI HS HSX
    go_wp2_with fail
    go_quiet (fail)
    rename Nat => q9
    have HT1 : Hid (TdS w (.cells #[.int .i64 dv, .int .i64 s, .slice (some ⟨b, o, none⟩) l.length c] 24 (0, 0)) (wr.drewN q9) ∧ (wr.drewN q9).heap[w.heap.size + 1]? = some (.cells #[.int .i64 0, .int .i64 0, .slice none 0 0] 24 (0, 0)) ∧ w.heap.size + 3 ≤ (wr.drewN q9).heap.size ∧ (wr.drewN q9).heap[w.heap.size + 1 + 1]? = some (.cells #[.int .i64 dv, .int .i64 s, .slice au N cu] 24 (0, 0)) ∧ OwnEnts (wr.drewN q9) (w.heap.size + 3) (.slice au N cu) (restE (l.take k))) := ⟨⟨below_drewN HH.out.1.b q9, HH.out.1.x⟩, HH.out.2.1, HH.out.2.2.1, HU.out, own_below HOU.out (below_drewN (nwR wr) q9)⟩
    clear HH HU HOU a0 a1 a2 u0 u1 u2 uf z0 z1 z2 zf c0 c1 c2 c3 c4 hb
    generalize wr.drewN q9 = w1 at HT1 ⊢
    have k2 : ∀ w', TdS w (.cells #[.int .i64 dv, .int .i64 s, .slice (some ⟨b, o, none⟩) l.length c] 24 (0, 0)) w' → w'.cell? ⟨w.heap.size, 2, none⟩ = some (.slice (some ⟨b, o, none⟩) l.length c) := fun w' h => (three h.x).2.2.1
    have e0 : ∀ w', TdS w (.cells #[.int .i64 dv, .int .i64 s, .slice (some ⟨b, o, none⟩) l.length c] 24 (0, 0)) w' → w'.cell? ⟨b, o + k * 5, none⟩ = some (.int .i64 x.frm) := fun w' h => (HEE.out w' h.b).1
    have e1 : ∀ w', TdS w (.cells #[.int .i64 dv, .int .i64 s, .slice (some ⟨b, o, none⟩) l.length c] 24 (0, 0)) w' → w'.cell? ⟨b, o + k * 5 + 1, none⟩ = some (.int .i64 x.len) := fun w' h => (HEE.out w' h.b).2.1
    have e2 : ∀ w', TdS w (.cells #[.int .i64 dv, .int .i64 s, .slice (some ⟨b, o, none⟩) l.length c] 24 (0, 0)) w' → w'.cell? ⟨b, o + k * 5 + 2, none⟩ = some (.int .i64 x.dev) := fun w' h => (HEE.out w' h.b).2.2.1
    have e3 : ∀ w', TdS w (.cells #[.int .i64 dv, .int .i64 s, .slice (some ⟨b, o, none⟩) l.length c] 24 (0, 0)) w' → w'.cell? ⟨b, o + k * 5 + 3, none⟩ = some (.int .i64 x.tgt) := fun w' h => (HEE.out w' h.b).2.2.2.1
    have e4 : ∀ w', TdS w (.cells #[.int .i64 dv, .int .i64 s, .slice (some ⟨b, o, none⟩) l.length c] 24 (0, 0)) w' → w'.cell? ⟨b, o + k * 5 + 4, none⟩ = some (.int .i64 x.stale) := fun w' h => (HEE.out w' h.b).2.2.2.2
    go_wp2_with fail
    refine wp_region_held_drew (S := fun w' => TdS w (.cells #[.int .i64 dv, .int .i64 s, .slice (some ⟨b, o, none⟩) l.length c] 24 (0, 0)) w') (by kernel_rfl) (by exact ⟨Below.drew HT1.out.1.b, HT1.out.1.x⟩) (fun hHeld => ?_)
    refine takeYes 0 (some 30) (v := ?_) rfl (by kernel_rfl) (by kernel_rfl) (by kernel_rfl) (by rfl) (fun _ _ _ h => h) (by rfl) ?_ (by assumption) ?_
    rotate_left
    · intro w hSw; (try dsimp only at hSw); go_simp; try with_reducible rfl
    try simp only [Act.put, List.setIfInBounds_toArray, List.set_cons_zero, List.set_cons_succ]
    refine takeYes 2 (some 32) (v := ?_) rfl (by kernel_rfl) (by kernel_rfl) (by kernel_rfl) (by rfl) (fun _ _ _ h => h) (by rfl) ?_ (by assumption) ?_
    rotate_left
    · intro w hSw; (try dsimp only at hSw); go_simp; try with_reducible rfl
    try simp only [Act.put, List.setIfInBounds_toArray, List.set_cons_zero, List.set_cons_succ]
    refine takeYes 3 (some 33) (v := ?_) rfl (by kernel_rfl) (by kernel_rfl) (by kernel_rfl) (by rfl) (fun _ _ _ h => h) (by rfl) ?_ (by assumption) ?_
    rotate_left
    · intro w hSw; (try dsimp only at hSw); go_simp; try with_reducible rfl
    try simp only [Act.put, List.setIfInBounds_toArray, List.set_cons_zero, List.set_cons_succ]
    refine takeYes 4 (some 34) (v := ?_) rfl (by kernel_rfl) (by kernel_rfl) (by kernel_rfl) (by rfl) (fun _ _ _ h => h) (by rfl) ?_ (by assumption) ?_
    rotate_left
    · intro w hSw; (try dsimp only at hSw); go_simp; try with_reducible rfl
    try simp only [Act.put, List.setIfInBounds_toArray, List.set_cons_zero, List.set_cons_succ]
    refine takeYes 5 (some 35) (v := ?_) rfl (by kernel_rfl) (by kernel_rfl) (by kernel_rfl) (by rfl) (fun _ _ _ h => h) (by rfl) ?_ (by assumption) ?_
    rotate_left
    · intro w hSw; (try dsimp only at hSw); go_simp; try with_reducible rfl
    try simp only [Act.put, List.setIfInBounds_toArray, List.set_cons_zero, List.set_cons_succ]
    refine takeYes 6 (some 36) (v := ?_) rfl (by kernel_rfl) (by kernel_rfl) (by kernel_rfl) (by rfl) (fun _ _ _ h => h) (by rfl) ?_ (by assumption) ?_
    rotate_left
    · intro w hSw; (try dsimp only at hSw); go_simp; try with_reducible rfl
    try simp only [Act.put, List.setIfInBounds_toArray, List.set_cons_zero, List.set_cons_succ]
    have HT : Hid (TdS w (.cells #[.int .i64 dv, .int .i64 s, .slice (some ⟨b, o, none⟩) l.length c] 24 (0, 0)) w1.drew ∧ w1.drew.heap[w.heap.size + 1]? = some (.cells #[.int .i64 0, .int .i64 0, .slice none 0 0] 24 (0, 0)) ∧ w.heap.size + 3 ≤ w1.drew.heap.size ∧ w1.drew.heap[w.heap.size + 1 + 1]? = some (.cells #[.int .i64 dv, .int .i64 s, .slice au N cu] 24 (0, 0)) ∧ OwnEnts w1.drew (w.heap.size + 3) (.slice au N cu) (restE (l.take k))) := ⟨⟨Below.drew HT1.out.1.b, HT1.out.1.x⟩, HT1.out.2.1, HT1.out.2.2.1, HT1.out.2.2.2.1, own_below HT1.out.2.2.2.2 (Below.drew (nwR w1))⟩
    clear hHeld HT1
    generalize w1.drew = wd at HT ⊢
    refine wpAnyH_ready (rs := [1, 7]) (by kernel_rfl) (by simp) ?_
    refine AllReadyH.cons rfl (fun K hK => ?_) (AllReadyH.cons rfl (fun K hK => ?_) AllReadyH.nil)
    ·
      have HU := HT.out.2.2.2.1
      have HU : Hid _ := HU
      obtain ⟨u0, u1, u2, uf⟩ := three HU.out
      go_simp
      refine hK.out _ _ HT.out.1 (fun hHeld => ?_)
      clear hK K
      try simp only [Act.put, List.setIfInBounds_toArray, List.set_cons_zero, List.set_cons_succ]
      clear u0 u1 u2 uf HU
      refine wpAnyH_ready (rs := [7]) (by kernel_rfl) (by simp) ?_
      refine AllReadyH.cons rfl (fun K hK => ?_) AllReadyH.nil
      obtain ⟨w7, hY⟩ : ∃ Y, Y = World.alloc wd (.cells #[.int .i64 x.frm, .int .i64 x.len, .int .i64 x.dev, .int .i64 x.tgt, .int .i64 x.stale] 49) := ⟨_, rfl⟩
      have hb7 : Below (World.heap wd).size wd w7 := by rw [hY]; exact nwA (nwR _) _
      have hey : EntsAt w7 (some ⟨(World.heap wd).size, 0, none⟩) [x] := by rw [hY]; exact ents_one wd x 49
      have hT7 : TdS w (.cells #[.int .i64 dv, .int .i64 s, .slice (some ⟨b, o, none⟩) l.length c] 24 (0, 0)) w7 := ⟨HT.out.1.b.trans (hb7.mono HT.out.1.b.size), (hb7.block _ (Array.getElem?_eq_some_iff.1 HT.out.1.x).1).trans HT.out.1.x⟩
      have HZ7 : Hid (w7.heap[w.heap.size + 1]? = some (.cells #[.int .i64 0, .int .i64 0, .slice none 0 0] 24 (0, 0))) := (hb7.block _ (Array.getElem?_eq_some_iff.1 HT.out.2.1).1).trans HT.out.2.1
      have HU7 : Hid (w7.heap[w.heap.size + 1 + 1]? = some (.cells #[.int .i64 dv, .int .i64 s, .slice au N cu] 24 (0, 0))) := (hb7.block _ (Array.getElem?_eq_some_iff.1 HT.out.2.2.2.1).1).trans HT.out.2.2.2.1
      have HO7 : Hid (OwnEnts w7 (w.heap.size + 3) (.slice au N cu) (restE (l.take k))) := HT.out.2.2.2.2.below hb7
      have hs7 : w.heap.size + 3 ≤ w7.heap.size := Nat.le_trans HT.out.2.2.1 hb7.size
      go_simp
      rw [← hY]
      refine hK.out _ _ hT7 (fun hHeld => ?_)
      clear hK K
      try simp only [Act.put, List.setIfInBounds_toArray, List.set_cons_zero, List.set_cons_succ]
      clear hY
      refine wpAnyH_ready (rs := [8]) (by kernel_rfl) (by simp) ?_
      refine AllReadyH.cons rfl (fun K hK => ?_) AllReadyH.nil
      refine step_append_src (by rfl) (.tmp 31) (.tmp 37) 22 (by rfl) (w.heap.size + 3) 49 i0 _ 5 40 Try.underlying22 hi hz0 hz1 hz2 rfl (by decide) (.slice au N cu) N (eflat (restE (l.take k))) (by simp [Act.eval]) (by have := HO7.out; unfold OwnEnts at this; rw [← HNN.out] at this; exact this) (some ⟨(World.heap wd).size, 0, none⟩) 1 1 (eflat [x]) (by simp [Act.eval]) (by rw [eflat_len]; simp) (by intro e; cases e) (by intro p e; injection e with e; subst e; exact hey.cells) (eflat_one _) (by unfold maxLen; omega) (by omega) hs7 ?_
      intro v' w8 hown hgrow
      have hb8 : Below (w.heap.size + 3) w7 w8 := (Below.refl _ _).grown hgrow hs7 (fun q e => by have h := HO7.out; unfold OwnEnts at h; exact (World.ownsRow.lt h q e).1)
      have HX8 : w8.heap[w.heap.size]? = _ := (hb8.block w.heap.size (by omega)).trans hT7.x
      have HZ8 : Hid (w8.heap[w.heap.size + 1]? = some (.cells #[.int .i64 0, .int .i64 0, .slice none 0 0] 24 (0, 0))) := (hb8.block (w.heap.size + 1) (by omega)).trans HZ7.out
      have HU8 : Hid (w8.heap[w.heap.size + 1 + 1]? = some (.cells #[.int .i64 dv, .int .i64 s, .slice au N cu] 24 (0, 0))) := (hb8.block (w.heap.size + 1 + 1) (by omega)).trans HU7.out
      have HB8 : Below w.heap.size w w8 := hT7.b.trans (hb8.mono (by omega))
      have HO8 : Hid (OwnEnts w8 (w.heap.size + 3) v' (restE (l.take (k + 1)))) := by
        show OwnEnts _ _ _ _
        rw [HN2.out]
        exact OwnEnts.app rfl (by rw [← HNN.out]; exact hown)
      have hs8 : w.heap.size + 3 ≤ w8.heap.size := Nat.le_trans hs7 hb8.size
      refine hK.out _ _ ⟨HB8, HX8⟩ (fun hHeld => ?_)
      clear hK K
      try simp only [Act.put, List.setIfInBounds_toArray]
      clear hown hgrow hb8
      refine takeYes 9 (some 39) (v := ?_) rfl (by kernel_rfl) (by kernel_rfl) (by kernel_rfl) (by rfl) (fun _ _ _ h => h) (by rfl) ?_ (by assumption) ?_
      rotate_left
      · intro w hSw; (try dsimp only at hSw); go_simp; try with_reducible rfl
      try simp only [Act.put]
      refine wpAnyH_ready (rs := [10]) (by kernel_rfl) (by simp) ?_
      refine AllReadyH.cons rfl (fun K hK => ?_) AllReadyH.nil
      obtain ⟨a9, c9, e9, _, _⟩ := HO8.out.at
      obtain ⟨M, hM⟩ : ∃ M, M = (restE (l.take (k + 1))).length := ⟨_, rfl⟩
      rw [← hM] at e9
      subst e9
      clear hM
      obtain ⟨u0, u1, u2, uf⟩ := three HU8.out
      obtain ⟨w9, hY9⟩ : ∃ Y, Y = w8.setCell ⟨w.heap.size + 1 + 1, 2, none⟩ (.slice a9 M c9) := ⟨_, rfl⟩
      have hT9 : TdS w (.cells #[.int .i64 dv, .int .i64 s, .slice (some ⟨b, o, none⟩) l.length c] 24 (0, 0)) w9 := by
        rw [hY9]
        exact ⟨HB8.setCell (p := ⟨w.heap.size + 1 + 1, 2, none⟩) (by show w.heap.size ≤ w.heap.size + 1 + 1; omega) _, (heap_setCell_other w8 ⟨w.heap.size + 1 + 1, 2, none⟩ _ _ (by show w.heap.size ≠ w.heap.size + 1 + 1; omega)).trans HX8⟩
      have HZ9 : Hid (w9.heap[w.heap.size + 1]? = some (.cells #[.int .i64 0, .int .i64 0, .slice none 0 0] 24 (0, 0))) := by show _ = _; rw [hY9]; exact (heap_setCell_other w8 ⟨w.heap.size + 1 + 1, 2, none⟩ _ _ (by show w.heap.size + 1 ≠ w.heap.size + 1 + 1; omega)).trans HZ8.out
      have HU9 : Hid (w9.heap[w.heap.size + 1 + 1]? = some (.cells #[.int .i64 dv, .int .i64 s, .slice a9 M c9] 24 (0, 0))) := by show _ = _; rw [hY9]; exact heap_setCell_same w8 (w.heap.size + 1 + 1) 2 _ 24 _ HU8.out
      have HO9 : Hid (OwnEnts w9 (w.heap.size + 3) (.slice a9 M c9) (restE (l.take (k + 1)))) := by show OwnEnts _ _ _ _; rw [hY9]; exact rowset HO8.out 2 (by omega) _
      have hs9 : w.heap.size + 3 ≤ w9.heap.size := by rw [hY9]; simpa using hs8
      go_simp
      rw [← hY9]
      refine hK.out _ _ hT9 (fun hHeld => ?_)
      clear hK K
      try simp only [Act.put, List.setIfInBounds_toArray, List.set_cons_zero, List.set_cons_succ]
      clear hY9 u0 u1 u2 uf
      refine wpAnyH_done (by kernel_rfl) ?_ _
      go_wp2_with fail
      go_roundw
      case rel => exact ⟨k + 1, by omega, by go_num, ⟨hT9, HZ9.out, hs9, _, HU9.out, HO9.out⟩⟩
      case measure => simp [intOf]; omega
    ·
      obtain ⟨w7, hY⟩ : ∃ Y, Y = World.alloc wd (.cells #[.int .i64 x.frm, .int .i64 x.len, .int .i64 x.dev, .int .i64 x.tgt, .int .i64 x.stale] 49) := ⟨_, rfl⟩
      have hb7 : Below (World.heap wd).size wd w7 := by rw [hY]; exact nwA (nwR _) _
      have hey : EntsAt w7 (some ⟨(World.heap wd).size, 0, none⟩) [x] := by rw [hY]; exact ents_one wd x 49
      have hT7 : TdS w (.cells #[.int .i64 dv, .int .i64 s, .slice (some ⟨b, o, none⟩) l.length c] 24 (0, 0)) w7 := ⟨HT.out.1.b.trans (hb7.mono HT.out.1.b.size), (hb7.block _ (Array.getElem?_eq_some_iff.1 HT.out.1.x).1).trans HT.out.1.x⟩
      have HZ7 : Hid (w7.heap[w.heap.size + 1]? = some (.cells #[.int .i64 0, .int .i64 0, .slice none 0 0] 24 (0, 0))) := (hb7.block _ (Array.getElem?_eq_some_iff.1 HT.out.2.1).1).trans HT.out.2.1
      have HU7 : Hid (w7.heap[w.heap.size + 1 + 1]? = some (.cells #[.int .i64 dv, .int .i64 s, .slice au N cu] 24 (0, 0))) := (hb7.block _ (Array.getElem?_eq_some_iff.1 HT.out.2.2.2.1).1).trans HT.out.2.2.2.1
      have HO7 : Hid (OwnEnts w7 (w.heap.size + 3) (.slice au N cu) (restE (l.take k))) := HT.out.2.2.2.2.below hb7
      have hs7 : w.heap.size + 3 ≤ w7.heap.size := Nat.le_trans HT.out.2.2.1 hb7.size
      go_simp
      rw [← hY]
      refine hK.out _ _ hT7 (fun hHeld => ?_)
      clear hK K
      try simp only [Act.put, List.setIfInBounds_toArray, List.set_cons_zero, List.set_cons_succ]
      clear hY
      refine wpAnyH_ready (rs := [1]) (by kernel_rfl) (by simp) ?_
      refine AllReadyH.cons rfl (fun K hK => ?_) AllReadyH.nil
      have HU : Hid _ := HU7.out
      obtain ⟨u0, u1, u2, uf⟩ := three HU.out
      go_simp
      refine hK.out _ _ hT7 (fun hHeld => ?_)
      clear hK K
      try simp only [Act.put, List.setIfInBounds_toArray, List.set_cons_zero, List.set_cons_succ]
      clear u0 u1 u2 uf HU
      refine wpAnyH_ready (rs := [8]) (by kernel_rfl) (by simp) ?_
      refine AllReadyH.cons rfl (fun K hK => ?_) AllReadyH.nil
      refine step_append_src (by rfl) (.tmp 31) (.tmp 37) 22 (by rfl) (w.heap.size + 3) 49 i0 _ 5 40 Try.underlying22 hi hz0 hz1 hz2 rfl (by decide) (.slice au N cu) N (eflat (restE (l.take k))) (by simp [Act.eval]) (by have := HO7.out; unfold OwnEnts at this; rw [← HNN.out] at this; exact this) (some ⟨(World.heap wd).size, 0, none⟩) 1 1 (eflat [x]) (by simp [Act.eval]) (by rw [eflat_len]; simp) (by intro e; cases e) (by intro p e; injection e with e; subst e; exact hey.cells) (eflat_one _) (by unfold maxLen; omega) (by omega) hs7 ?_
      intro v' w8 hown hgrow
      have hb8 : Below (w.heap.size + 3) w7 w8 := (Below.refl _ _).grown hgrow hs7 (fun q e => by have h := HO7.out; unfold OwnEnts at h; exact (World.ownsRow.lt h q e).1)
      have HX8 : w8.heap[w.heap.size]? = _ := (hb8.block w.heap.size (by omega)).trans hT7.x
      have HZ8 : Hid (w8.heap[w.heap.size + 1]? = some (.cells #[.int .i64 0, .int .i64 0, .slice none 0 0] 24 (0, 0))) := (hb8.block (w.heap.size + 1) (by omega)).trans HZ7.out
      have HU8 : Hid (w8.heap[w.heap.size + 1 + 1]? = some (.cells #[.int .i64 dv, .int .i64 s, .slice au N cu] 24 (0, 0))) := (hb8.block (w.heap.size + 1 + 1) (by omega)).trans HU7.out
      have HB8 : Below w.heap.size w w8 := hT7.b.trans (hb8.mono (by omega))
      have HO8 : Hid (OwnEnts w8 (w.heap.size + 3) v' (restE (l.take (k + 1)))) := by
        show OwnEnts _ _ _ _
        rw [HN2.out]
        exact OwnEnts.app rfl (by rw [← HNN.out]; exact hown)
      have hs8 : w.heap.size + 3 ≤ w8.heap.size := Nat.le_trans hs7 hb8.size
      refine hK.out _ _ ⟨HB8, HX8⟩ (fun hHeld => ?_)
      clear hK K
      try simp only [Act.put, List.setIfInBounds_toArray]
      clear hown hgrow hb8
      refine takeYes 9 (some 39) (v := ?_) rfl (by kernel_rfl) (by kernel_rfl) (by kernel_rfl) (by rfl) (fun _ _ _ h => h) (by rfl) ?_ (by assumption) ?_
      rotate_left
      · intro w hSw; (try dsimp only at hSw); go_simp; try with_reducible rfl
      try simp only [Act.put]
      refine wpAnyH_ready (rs := [10]) (by kernel_rfl) (by simp) ?_
      refine AllReadyH.cons rfl (fun K hK => ?_) AllReadyH.nil
      obtain ⟨a9, c9, e9, _, _⟩ := HO8.out.at
      obtain ⟨M, hM⟩ : ∃ M, M = (restE (l.take (k + 1))).length := ⟨_, rfl⟩
      rw [← hM] at e9
      subst e9
      clear hM
      obtain ⟨u0, u1, u2, uf⟩ := three HU8.out
      obtain ⟨w9, hY9⟩ : ∃ Y, Y = w8.setCell ⟨w.heap.size + 1 + 1, 2, none⟩ (.slice a9 M c9) := ⟨_, rfl⟩
      have hT9 : TdS w (.cells #[.int .i64 dv, .int .i64 s, .slice (some ⟨b, o, none⟩) l.length c] 24 (0, 0)) w9 := by
        rw [hY9]
        exact ⟨HB8.setCell (p := ⟨w.heap.size + 1 + 1, 2, none⟩) (by show w.heap.size ≤ w.heap.size + 1 + 1; omega) _, (heap_setCell_other w8 ⟨w.heap.size + 1 + 1, 2, none⟩ _ _ (by show w.heap.size ≠ w.heap.size + 1 + 1; omega)).trans HX8⟩
      have HZ9 : Hid (w9.heap[w.heap.size + 1]? = some (.cells #[.int .i64 0, .int .i64 0, .slice none 0 0] 24 (0, 0))) := by show _ = _; rw [hY9]; exact (heap_setCell_other w8 ⟨w.heap.size + 1 + 1, 2, none⟩ _ _ (by show w.heap.size + 1 ≠ w.heap.size + 1 + 1; omega)).trans HZ8.out
      have HU9 : Hid (w9.heap[w.heap.size + 1 + 1]? = some (.cells #[.int .i64 dv, .int .i64 s, .slice a9 M c9] 24 (0, 0))) := by show _ = _; rw [hY9]; exact heap_setCell_same w8 (w.heap.size + 1 + 1) 2 _ 24 _ HU8.out
      have HO9 : Hid (OwnEnts w9 (w.heap.size + 3) (.slice a9 M c9) (restE (l.take (k + 1)))) := by show OwnEnts _ _ _ _; rw [hY9]; exact rowset HO8.out 2 (by omega) _
      have hs9 : w.heap.size + 3 ≤ w9.heap.size := by rw [hY9]; simpa using hs8
      go_simp
      rw [← hY9]
      refine hK.out _ _ hT9 (fun hHeld => ?_)
      clear hK K
      try simp only [Act.put, List.setIfInBounds_toArray, List.set_cons_zero, List.set_cons_succ]
      clear hY9 u0 u1 u2 uf
      refine wpAnyH_done (by kernel_rfl) ?_ _
      go_wp2_with fail
      go_roundw
      case rel => exact ⟨k + 1, by omega, by go_num, ⟨hT9, HZ9.out, hs9, _, HU9.out, HO9.out⟩⟩
      case measure => simp [intOf]; omega

end Go.Proofs.Ytijldakgfgmbiaa

/- Scripts of tables: their acts, what is heavy, what each law asks at its end. -/
namespace Go.Proofs.Ytijldakgfgmbiaa
open Go.RowKit

structure ActD where
  act : Int
  n : Int
  m : Int
  pd : Int
  pa : Int
def act0 : ActD := ⟨0, 0, 0, 0, 0⟩
def actV (x : ActD) : Value := .agg #[.int .i64 x.act, .int .i64 x.n, .int .i64 x.m, .int .i64 x.pd, .int .i64 x.pa]
def acells (x : ActD) : List Value := [.int .i64 x.act, .int .i64 x.n, .int .i64 x.m, .int .i64 x.pd, .int .i64 x.pa]
def aflat (l : List ActD) : List Value := l.flatMap acells
def RngA (x : ActD) : Prop := Rng x.n ∧ Rng x.m ∧ Rng x.pd ∧ Rng x.pa
def ActIn (w : World) (b o : Nat) (x : ActD) : Prop := w.cell? ⟨b, o, none⟩ = some (.int .i64 x.act) ∧ w.cell? ⟨b, o + 1, none⟩ = some (.int .i64 x.n) ∧ w.cell? ⟨b, o + 2, none⟩ = some (.int .i64 x.m) ∧ w.cell? ⟨b, o + 3, none⟩ = some (.int .i64 x.pd) ∧ w.cell? ⟨b, o + 4, none⟩ = some (.int .i64 x.pa)
theorem ActIn.lt {w : World} {b o : Nat} {e : ActD} (h : ActIn w b o e) : b < w.heap.size := block_lt_of_cell h.1
theorem ActIn.below {w w' : World} {b o : Nat} {e : ActD} (h : ActIn w b o e) (hb : Below w.heap.size w w') : ActIn w' b o e := by
  have hlt := h.lt
  obtain ⟨h0, h1, h2, h3, h4⟩ := h
  exact ⟨(hb.cell (p := ⟨b, o, none⟩) hlt).trans h0, (hb.cell (p := ⟨b, o + 1, none⟩) hlt).trans h1, (hb.cell (p := ⟨b, o + 2, none⟩) hlt).trans h2, (hb.cell (p := ⟨b, o + 3, none⟩) hlt).trans h3, (hb.cell (p := ⟨b, o + 4, none⟩) hlt).trans h4⟩
def ActsAt (w : World) (a : Option Addr) (l : List ActD) : Prop := l = [] ∨ ∃ b o, a = some ⟨b, o, none⟩ ∧ ∀ i, i < l.length → ActIn w b (o + i * 5) (l.getD i act0)
theorem ActsAt.below {w w' : World} {a : Option Addr} {l : List ActD} (h : ActsAt w a l) (hb : Below w.heap.size w w') : ActsAt w' a l := by
  rcases h with rfl | ⟨b, o, rfl, hc⟩
  · exact .inl rfl
  · exact .inr ⟨b, o, rfl, fun i hi => (hc i hi).below hb⟩
theorem ActsAt.act {w : World} {a : Option Addr} {l : List ActD} (h : ActsAt w a l) {i : Nat} (hi : i < l.length) : ∃ b o, a = some ⟨b, o, none⟩ ∧ ActIn w b (o + i * 5) (l.getD i act0) := by
  rcases h with rfl | ⟨b, o, rfl, hc⟩
  · simp at hi
  · exact ⟨b, o, rfl, hc i hi⟩
/-- a script: a table, acts -/
def ScrVal (w : World) (v : Value) (t : TabD) (l : List ActD) : Prop := ∃ a c la lc, v = .agg #[.int .i64 t.dev, .int .i64 t.size, .slice a t.list.length c, .slice la l.length lc] ∧ (EntsAt w a t.list ∧ NilOk a c t.list.length) ∧ ActsAt w la l
theorem ScrVal.below {w w' : World} {v : Value} {t : TabD} {l : List ActD} (h : ScrVal w v t l) (hb : Below w.heap.size w w') : ScrVal w' v t l := by
  obtain ⟨a, c, la, lc, e, h1, h2⟩ := h
  exact ⟨a, c, la, lc, e, ⟨h1.1.below hb, h1.2⟩, h2.below hb⟩
/-- the numbers of a script are Go's -/
structure LooseS (t : TabD) (l : List ActD) : Prop where
  e : ∀ x ∈ t.list, RngE x
  a : ∀ x ∈ l, RngA x
  la : l.length * 40 ≤ 140737488355328
  le : t.list.length * 40 ≤ 140737488355328
def LawOk (F : Nat) : Prop := ∀ (v : Value) (t : TabD) (l : List ActD) (w : World), ScrVal w v t l → LooseS t l → Calls Try.prog F #[v] w fun e w' => e = .returned (.bool true) ∧ Below w.heap.size w w'

def hvB (t : TabD) (l : List ActD) : Bool := decide (300 < t.list.length) || decide (200 < l.length)
set_option maxRecDepth 100000 in
set_option maxHeartbeats 1000000 in
theorem heavy_any (v : Value) (t : TabD) (l : List ActD) (w : World) (hv : ScrVal w v t l) (hl : LooseS t l) :
    Calls Try.prog 8 #[v] w fun e w' => e = .returned (.bool (hvB t l)) ∧ Below w.heap.size w w' := by
  obtain ⟨a, c, la, lc, rfl, _, _⟩ := hv
  have h1 := hl.la
  have h2 := hl.le
  obtain ⟨N, hN⟩ : ∃ N, N = t.list.length := ⟨_, rfl⟩
  obtain ⟨M, hM⟩ : ∃ M, M = l.length := ⟨_, rfl⟩
  unfold hvB
  rw [← hN, ← hM] at *
  clear hN hM hl
  by_cases g1 : 300 < N
  · have g1i : (300 : Int) < (N : Int) := by omega
    go_enter Try.func8, Try.ntmps8
    go_wp2_with fail
    go_ret
    exact ⟨by first | rfl | (rw [decide_eq_true g1]; rfl), nwA (nwR w) _⟩
  · have g1i : ¬ (300 : Int) < (N : Int) := by omega
    by_cases g2 : 200 < M
    · have g2i : (200 : Int) < (M : Int) := by omega
      go_enter Try.func8, Try.ntmps8
      go_wp2_with fail
      go_ret
      exact ⟨rfl, nwA (nwR w) _⟩
    · have g2i : ¬ (200 : Int) < (M : Int) := by omega
      go_enter Try.func8, Try.ntmps8
      go_wp2_with fail
      go_ret
      exact ⟨rfl, nwA (nwR w) _⟩

theorem errnum_w (er : Int) (w : World) : Calls Try.prog 14 #[.int .i64 er] w fun e w' => e = .returned (.int .i64 er) ∧ w = w' := (errnum_any er w).mono fun _ _ h => ⟨h.1, h.2.symm⟩
theorem rngL_nil : RngL [] := ⟨by simp, fun i hi => by simp at hi⟩
theorem rngL_one {x : EntD} (h : RngE x) : RngL [x] := ⟨by simp, fun i hi => by
  obtain rfl : i = 0 := by simpa using hi
  exact h⟩
set_option maxRecDepth 100000 in
set_option maxHeartbeats 4000000 in
theorem wakes_any (w : World) : Calls Try.prog 11 #[] w fun e w' => e = .returned (.bool true) ∧ Below w.heap.size w w' := by
  have H1 : Hid (Calls Try.prog 13 #[.agg #[.int .i64 1, .int .i64 4, .slice none 0 0], .int .i64 0, .agg #[.int .i64 2, .int .i64 5]] w fun e w' => (∃ v, e = .returned (.tuple #[v, .int .i64 0]) ∧ OwnTab w' w.heap.size v ⟨1, 4, [⟨0, 1, 2, 5, 0⟩]⟩) ∧ Below w.heap.size w w') := by
    refine (add_any _ ⟨1, 4, []⟩ 0 2 5 w ⟨none, 0, rfl, .inl rfl, Nat.le_refl _, fun _ => rfl⟩ rngL_nil (by simp) ⟨by omega, by omega⟩ ⟨by omega, by omega⟩ ⟨by omega, by omega⟩).mono ?_
    rintro e w' ⟨h, hb⟩
    refine ⟨?_, hb⟩
    rcases h with ⟨h, _⟩ | ⟨_, v, rfl, ho⟩
    · have h1 : tokB (⟨1, 4, []⟩ : TabD) = true := by decide +kernel
      have h2 : tokB (moreT (⟨1, 4, []⟩ : TabD) [newE 0 2 5]) = true := by decide +kernel
      rw [h1, h2] at h
      simp at h
    · exact ⟨v, rfl, ho⟩
  have H2 : Hid (∀ v w', TabVal w' v ⟨1, 4, [⟨0, 1, 2, 5, 0⟩]⟩ → Calls Try.prog 13 #[v, .int .i64 1, .agg #[.int .i64 2, .int .i64 6]] w' fun e w'' => (∃ v', e = .returned (.tuple #[v', .int .i64 0]) ∧ OwnTab w'' w'.heap.size v' ⟨1, 4, [⟨0, 2, 2, 5, 0⟩]⟩) ∧ Below w'.heap.size w' w'') := fun v w' hv => by
    refine (add_any _ ⟨1, 4, [⟨0, 1, 2, 5, 0⟩]⟩ 1 2 6 w' hv (rngL_one ⟨⟨by simp, by simp⟩, ⟨by simp, by simp⟩, ⟨by simp, by simp⟩, ⟨by simp, by simp⟩, by simp, by simp⟩) (by simp) ⟨by omega, by omega⟩ ⟨by omega, by omega⟩ ⟨by omega, by omega⟩).mono ?_
    rintro e w'' ⟨h, hb⟩
    refine ⟨?_, hb⟩
    rcases h with ⟨h, _⟩ | ⟨_, v, rfl, ho⟩
    · have h1 : tokB (⟨1, 4, [⟨0, 1, 2, 5, 0⟩]⟩ : TabD) = true := by decide +kernel
      have h2 : tokB (moreT (⟨1, 4, [⟨0, 1, 2, 5, 0⟩]⟩ : TabD) [newE 1 2 6]) = true := by decide +kernel
      rw [h1, h2] at h
      simp at h
    · exact ⟨v, rfl, ho⟩
  go_enter Try.func11, Try.ntmps11
  go_wp2_with fail
  refine H1.out.mono ?_
  rintro e w1 ⟨⟨v, rfl, u1, rfl, ho1⟩, hb1⟩
  obtain ⟨a1, c1, rfl, h1, hn1⟩ := ho1.at
  have HB1 : Hid (Below w.heap.size w w1) := hb1
  obtain ⟨W2, hW2⟩ : ∃ W2, W2 = w1.alloc (.cells #[.int .i64 1, .int .i64 4, .slice a1 1 c1] 24) := ⟨_, rfl⟩
  have HB2 : Hid (Below w1.heap.size w1 W2) := by rw [hW2]; exact nwA (nwR w1) _
  have HX2 : Hid (∀ w', Below W2.heap.size W2 w' → w'.heap[w1.heap.size]? = some (.cells #[.int .i64 1, .int .i64 4, .slice a1 1 c1] 24 (0, 0))) := fun w' h => (h.block _ (by rw [hW2]; simp)).trans (by rw [hW2]; exact heap_alloc_new w1 _)
  have HC := H2.out (.agg #[.int .i64 1, .int .i64 4, .slice a1 1 c1]) W2 ⟨a1, c1, rfl, h1.below HB2.out, hn1⟩
  clear h1 hn1 ho1 hb1 H1 H2
  go_wp2_with fail
  rw [← hW2]
  clear hW2
  refine HC.mono ?_
  rintro e w3 ⟨⟨v, rfl, u3, rfl, ho3⟩, hb3⟩
  obtain ⟨a3, c3, rfl, h3, hn3⟩ := ho3.at
  have HB3 : Hid (Below w.heap.size w w3) := nwT HB1.out (nwT HB2.out hb3)
  have hx3 := HX2.out w3 hb3
  obtain ⟨x0, x1, x2, xf⟩ := three hx3
  obtain ⟨W4, hW4⟩ : ∃ W4, W4 = ((w3.setCell ⟨w1.heap.size, 0, none⟩ (.int .i64 1)).setCell ⟨w1.heap.size, 1, none⟩ (.int .i64 4)).setCell ⟨w1.heap.size, 2, none⟩ (.slice a3 1 c3) := ⟨_, rfl⟩
  have HB4 : Hid (Below w.heap.size w W4) := by rw [hW4]; exact three_below HB3.out HB1.out.size
  have hx4 : W4.heap[w1.heap.size]? = some (.cells #[.int .i64 1, .int .i64 4, .slice a3 1 c3] 24 (0, 0)) := by rw [hW4]; exact three_set hx3
  have hO4 : OwnEnts W4 W2.heap.size (.slice a3 1 c3) [⟨0, 2, 2, 5, 0⟩] := by
    have h2 := HB2.out.size
    have h5 : w1.heap.size < W2.heap.size := (Array.getElem?_eq_some_iff.1 (HX2.out W2 (nwR W2))).1
    rw [hW4]; exact rowset (rowset (rowset ho3 0 h5 _) 1 h5 _) 2 h5 _
  obtain ⟨g, rfl, _⟩ := hO4.zero.2 (by simp)
  obtain ⟨_, _, e4, hE4, _⟩ := hO4.at
  injection e4 with e4 e5 e6
  subst e4
  clear e5 e6
  have hE := hE4.at (i := 0) (by simp)
  obtain ⟨y0, y1, y2, _⟩ := three hx4
  obtain ⟨c0, c1', c2, c3', c4⟩ := hE
  have d1 : W4.cell? ⟨g, 1, none⟩ = some (.int .i64 2) := c1'
  clear c0 c1' c2 c3' c4
  clear h3 hn3 hb3 HC hx3 hx4 hO4 hE4 ho3
  go_upto_region 3 with fail
  rw [← hW4]
  clear hW4 x0 x1 x2 xf
  go_wp2_with fail
  refine (errnum_w 0 W4).mono ?_
  rintro e w' ⟨rfl, rfl⟩
  go_wp2_with fail
  refine (errnum_w 0 W4).mono ?_
  rintro e w' ⟨rfl, rfl⟩
  go_wp2_with fail
  go_ret
  exact ⟨rfl, HB4.out⟩

end Go.Proofs.Ytijldakgfgmbiaa

/- The argument of the laws, opened: a table, acts. -/
namespace Go.Proofs.Ytijldakgfgmbiaa
open Go.ChangeShapes Go.WideShapes Go.ChangeAt Go.RowKit Go.Deep Go.Joins

theorem Try.own : ownKnob Try.prog.godebug = none := by kernel_rfl
theorem Try.laidOut : laidOutB Try.prog = true := by kernel_rfl
theorem Try.cells3 : Try.prog.cellsOf 3 = 1 := by kernel_rfl
theorem Try.cells4 : Try.prog.cellsOf 4 = 1 := by kernel_rfl
theorem Try.cells22 : Try.prog.cellsOf 22 = 1 := by kernel_rfl
theorem Try.cells24 : Try.prog.cellsOf 24 = 3 := by kernel_rfl
theorem Try.cells25 : Try.prog.cellsOf 25 = 1 := by kernel_rfl
theorem Try.cells27 : Try.prog.cellsOf 27 = 4 := by kernel_rfl
theorem Try.cells33 : Try.prog.cellsOf 33 = 2 := by kernel_rfl
theorem Try.cells35 : Try.prog.cellsOf 35 = 5 := by kernel_rfl
theorem Try.cells49 : Try.prog.cellsOf 49 = 5 := by kernel_rfl
theorem Try.bytes35 : Try.prog.bytesOf 35 = 40 := by kernel_rfl
theorem Try.bytes49 : Try.prog.bytesOf 49 = 40 := by kernel_rfl
section
variable {H : Type}
theorem mem_all {P : Program} {e : TypeId} {x : Nat} (d : DataW H) : ∀ {ds : List (DataW H)}, d ∈ ds → x ∈ d.weights P e → x ∈ DataW.weightsAll P e ds
  | [], h, _ => by simp at h
  | d' :: r, h, hx => by
    simp only [DataW.weightsAll, List.mem_append]
    rcases List.mem_cons.1 h with rfl | h
    · exact Or.inl hx
    · exact Or.inr (mem_all d h hx)
end

section
variable {H : Type} {enc : TypeId × Value → H} {W : World}

set_option maxRecDepth 100000 in
theorem open_rowG {α : Type} (z : α) {t e : TypeId} {k : Nat} (R : List Value → α → Prop) (ht : Try.prog.underlying t = some (.slice e)) (hk : Try.prog.cellsOf e = k) (hk0 : 0 < k)
    (hel : ∀ n cs y, DataW.trod enc Try.prog W 0 (fun _ => true) true n e cs = some y → (∀ x ∈ y.1.weights Try.prog e, x ≤ reachBytes) → ∃ x, R cs x)
    {n : Nat} {v : Value} {y : DataW H × List MemPlace} (h : DataW.trod enc Try.prog W 0 (fun _ => true) true n t [v] = some y) (hw : ∀ x ∈ y.1.weights Try.prog t, x ≤ reachBytes) :
    ∃ (a : Option Addr) (xs : List α) (ca : Nat), v = .slice a xs.length ca ∧ NilOk a ca xs.length ∧ xs.length * Try.prog.bytesOf e ≤ reachBytes ∧ (xs = [] ∨ ∃ b o, a = some ⟨b, o, none⟩ ∧ ∀ i, i < xs.length → ∃ cs, cs.length = k ∧ (∀ j, j < k → W.cell? ⟨b, o + i * k + j, none⟩ = cs[j]?) ∧ R cs (xs.getD i z)) := by
  rcases open_slice ht h with ⟨hcs, _⟩ | ⟨a, len, cap, m, n', D, Pl, hcs, _, hl, hm, hmm, hx, hc⟩
  · exact ⟨none, [], 0, by simpa using hcs, ⟨Nat.le_refl _, fun _ => rfl⟩, by simp, .inl rfl⟩
  · simp only [if_true] at hmm
    subst hmm
    have hx1 : y.1 = .slice ((List.range len).map D) ((List.range (m - len)).map fun j => D (len + j)) := by rw [hx]
    rw [hk] at hc
    haveI : Inhabited (List Value × α) := ⟨([], z)⟩
    have each : ∀ i, i < len → ∃ q : List Value × α, q.1.length = k ∧ (∀ j, j < k → W.cell? (a.add (i * k + j)) = q.1[j]?) ∧ R q.1 q.2 := by
      intro i hi
      obtain ⟨cs', h1, h2⟩ := hc i (by omega)
      obtain ⟨_, hlen, hcell⟩ := World.cells?_some h1
      obtain ⟨x, hx2⟩ := hel _ _ _ h2 (fun x hxw => hw x (by
        rw [hx1]
        simp only [DataW.weights, ht, List.mem_cons, List.mem_append]
        exact Or.inr (Or.inl (mem_all (D i) (List.mem_map.2 ⟨i, List.mem_range.2 hi, rfl⟩) hxw))))
      exact ⟨(cs', x), hlen, fun j hj => by rw [← add_add]; exact hcell j hj, hx2⟩
    obtain ⟨q, hq⟩ := choose_lt each
    have hlen : ((List.range len).map fun i => (q i).2).length = len := by simp
    have hspot : 0 < len → a.spot = none := fun h0 => by
      obtain ⟨h1, h2, _⟩ := hq 0 h0
      have h3 := h2 0 hk0
      rw [Nat.zero_mul, Nat.add_zero, List.getElem?_eq_getElem (show 0 < (q 0).1.length by omega)] at h3
      have := World.cell?_spot h3
      simpa [Addr.add] using this
    refine ⟨some a, (List.range len).map fun i => (q i).2, m, ?_, ?_, ?_, ?_⟩
    · rw [hlen]; simpa using hcs
    · exact ⟨by rw [hlen]; exact hl, (fun e => by cases e)⟩
    · have := hw ((len + (m - len)) * Try.prog.bytesOf e) (by rw [hx1]; simp [DataW.weights, ht])
      rw [hlen]
      exact Nat.le_trans (Nat.mul_le_mul_right _ (by omega)) this
    · by_cases h0 : len = 0
      · exact .inl (by rw [h0]; rfl)
      · have hs := hspot (by omega)
        obtain ⟨b, off, spot⟩ := a
        simp only at hs
        subst hs
        refine .inr ⟨b, off, rfl, fun i hi => ?_⟩
        rw [hlen] at hi
        obtain ⟨h1, h2, h3⟩ := hq i hi
        refine ⟨(q i).1, h1, fun j hj => ?_, ?_⟩
        · have := h2 j hj
          rwa [Go.WideShapes.add_plain, ← Nat.add_assoc] at this
        · have e : ((List.range len).map fun i => (q i).2).getD i z = (q i).2 := by simp [List.getD, hi]
          rw [e]; exact h3

theorem rng_wf {n : Int} (h : (Lit.int .i64 n).wf = true) : Rng n := by
  have h2 : IntKind.i64.min ≤ n ∧ n ≤ IntKind.i64.max := by simpa [Lit.wf] using h
  simp [IntKind.min, IntKind.max, IntKind.signed, IntKind.bits] at h2
  exact h2
set_option maxRecDepth 100000 in
theorem open_entry {n : Nat} {cs : List Value} {y : DataW H × List MemPlace} (h : DataW.trod enc Try.prog W 0 (fun _ => true) true n 49 cs = some y) : ∃ x : EntD, cs = ecells x ∧ RngE x := by
  obtain ⟨xs, k, _, rfl, hl, hxl, hf⟩ := DataW.trod_struct Try.underlying49 h
  rw [Try.cells49] at hl
  match xs, hxl, cs, hl with
  | [y0, y1, y2, y3, y4], _, [v0, v1, v2, v3, v4], _ =>
    have g0 := hf 0 _ rfl
    have g1 := hf 1 _ rfl
    have g2 := hf 2 _ rfl
    have g3 := hf 3 _ rfl
    have g4 := hf 4 _ rfl
    simp [Try.cells3] at g0 g1 g2 g3 g4
    obtain ⟨i0, h0, _, r0⟩ := DataW.trod_int Try.underlying3 g0
    obtain ⟨i1, h1, _, r1⟩ := DataW.trod_int Try.underlying3 g1
    obtain ⟨i2, h2, _, r2⟩ := DataW.trod_int Try.underlying3 g2
    obtain ⟨i3, h3, _, r3⟩ := DataW.trod_int Try.underlying3 g3
    obtain ⟨i4, h4, _, r4⟩ := DataW.trod_int Try.underlying3 g4
    simp only [List.cons.injEq, and_true] at h0 h1 h2 h3 h4
    subst h0; subst h1; subst h2; subst h3; subst h4
    exact ⟨⟨i0, i1, i2, i3, i4⟩, rfl, rng_wf r0, rng_wf r1, rng_wf r2, rng_wf r3, rng_wf r4⟩
set_option maxRecDepth 100000 in
theorem open_act {n : Nat} {cs : List Value} {y : DataW H × List MemPlace} (h : DataW.trod enc Try.prog W 0 (fun _ => true) true n 35 cs = some y) : ∃ x : ActD, cs = acells x ∧ RngA x := by
  obtain ⟨xs, k, _, rfl, hl, hxl, hf⟩ := DataW.trod_struct Try.underlying35 h
  rw [Try.cells35] at hl
  match xs, hxl, cs, hl with
  | [y0, y1, y2, y3], _, [v0, v1, v2, v3, v4], _ =>
    have g0 := hf 0 _ rfl
    have g1 := hf 1 _ rfl
    have g2 := hf 2 _ rfl
    have g3 := hf 3 _ rfl
    simp [Try.cells3, Try.cells33] at g0 g1 g2 g3
    obtain ⟨i0, h0, _, r0⟩ := DataW.trod_int Try.underlying3 g0
    obtain ⟨i1, h1, _, r1⟩ := DataW.trod_int Try.underlying3 g1
    obtain ⟨i2, h2, _, r2⟩ := DataW.trod_int Try.underlying3 g2
    obtain ⟨zs, k2, _, rfl, hl2, hzl, hf2⟩ := DataW.trod_struct Try.underlying33 g3
    match zs, hzl with
    | [z0, z1], _ =>
      have p0 := hf2 0 _ rfl
      have p1 := hf2 1 _ rfl
      simp [Try.cells3] at p0 p1
      obtain ⟨i3, h3, _, r3⟩ := DataW.trod_int Try.underlying3 p0
      obtain ⟨i4, h4, _, r4⟩ := DataW.trod_int Try.underlying3 p1
      simp only [List.cons.injEq, and_true] at h0 h1 h2 h3 h4
      subst h0; subst h1; subst h2; subst h3; subst h4
      exact ⟨⟨i0, i1, i2, i3, i4⟩, rfl, r0 |> fun _ => rng_wf r1, rng_wf r2, rng_wf r3, rng_wf r4⟩
set_option maxRecDepth 100000 in
theorem open_ents {n : Nat} {v : Value} {y : DataW H × List MemPlace} (h : DataW.trod enc Try.prog W 0 (fun _ => true) true n 22 [v] = some y) (hw : ∀ x ∈ y.1.weights Try.prog 22, x ≤ reachBytes) :
    ∃ (a : Option Addr) (xs : List EntD) (ca : Nat), v = .slice a xs.length ca ∧ NilOk a ca xs.length ∧ EntsAt W a xs ∧ (∀ x ∈ xs, RngE x) ∧ xs.length * 40 ≤ 140737488355328 := by
  obtain ⟨a, xs, ca, h1, h2, h3, h4⟩ := open_rowG EZ (fun cs x => cs = ecells x ∧ RngE x) Try.underlying22 Try.cells49 (by omega) (fun n cs y h _ => open_entry h) h hw
  refine ⟨a, xs, ca, h1, h2, ?_, ?_, by rw [Try.bytes49] at h3; simp only [reachBytes] at h3; omega⟩
  · rcases h4 with h4 | ⟨b, o, rfl, h5⟩
    · exact .inl h4
    · refine .inr ⟨b, o, rfl, fun i hi => ?_⟩
      obtain ⟨cs, _, h6, rfl, _⟩ := h5 i hi
      exact ⟨h6 0 (by omega), h6 1 (by omega), h6 2 (by omega), h6 3 (by omega), h6 4 (by omega)⟩
  · intro d hd
    rcases h4 with h4 | ⟨b, o, rfl, h5⟩
    · rw [h4] at hd; simp at hd
    · obtain ⟨i, hi, rfl⟩ := List.getElem_of_mem hd
      obtain ⟨cs, _, _, _, h6⟩ := h5 i hi
      simpa [List.getD, hi] using h6
set_option maxRecDepth 100000 in
theorem open_acts {n : Nat} {v : Value} {y : DataW H × List MemPlace} (h : DataW.trod enc Try.prog W 0 (fun _ => true) true n 25 [v] = some y) (hw : ∀ x ∈ y.1.weights Try.prog 25, x ≤ reachBytes) :
    ∃ (a : Option Addr) (xs : List ActD) (ca : Nat), v = .slice a xs.length ca ∧ NilOk a ca xs.length ∧ ActsAt W a xs ∧ (∀ x ∈ xs, RngA x) ∧ xs.length * 40 ≤ 140737488355328 := by
  obtain ⟨a, xs, ca, h1, h2, h3, h4⟩ := open_rowG act0 (fun cs x => cs = acells x ∧ RngA x) Try.underlying25 Try.cells35 (by omega) (fun n cs y h _ => open_act h) h hw
  refine ⟨a, xs, ca, h1, h2, ?_, ?_, by rw [Try.bytes35] at h3; simp only [reachBytes] at h3; omega⟩
  · rcases h4 with h4 | ⟨b, o, rfl, h5⟩
    · exact .inl h4
    · refine .inr ⟨b, o, rfl, fun i hi => ?_⟩
      obtain ⟨cs, _, h6, rfl, _⟩ := h5 i hi
      exact ⟨h6 0 (by omega), h6 1 (by omega), h6 2 (by omega), h6 3 (by omega), h6 4 (by omega)⟩
  · intro d hd
    rcases h4 with h4 | ⟨b, o, rfl, h5⟩
    · rw [h4] at hd; simp at hd
    · obtain ⟨i, hi, rfl⟩ := List.getElem_of_mem hd
      obtain ⟨cs, _, _, _, h6⟩ := h5 i hi
      simpa [List.getD, hi] using h6
set_option maxRecDepth 100000 in
theorem open_table {n : Nat} {cs : List Value} {y : DataW H × List MemPlace} (h : DataW.trod enc Try.prog W 0 (fun _ => true) true n 24 cs = some y) (hw : ∀ x ∈ y.1.weights Try.prog 24, x ≤ reachBytes) :
    ∃ (t : TabD) (a : Option Addr) (c : Nat), cs = [.int .i64 t.dev, .int .i64 t.size, .slice a t.list.length c] ∧ (EntsAt W a t.list ∧ NilOk a c t.list.length) ∧ (∀ x ∈ t.list, RngE x) ∧ t.list.length * 40 ≤ 140737488355328 := by
  obtain ⟨xs, k, _, rfl, hl, hxl, hf⟩ := DataW.trod_struct Try.underlying24 h
  rw [Try.cells24] at hl
  match xs, hxl, cs, hl with
  | [z0, z1, z2], _, [v0, v1, v2], _ =>
    have g0 := hf 0 _ rfl
    have g1 := hf 1 _ rfl
    have g2 := hf 2 _ rfl
    simp [Try.cells3, Try.cells22] at g0 g1 g2
    obtain ⟨i0, h0, _⟩ := DataW.trod_int Try.underlying3 g0
    obtain ⟨i1, h1, _⟩ := DataW.trod_int Try.underlying3 g1
    obtain ⟨a, l, c, e2, q1, q2, q3, q4⟩ := open_ents g2 (fun x hx => hw x (by simp only [DataW.weights, DataW.weightsEach, Try.underlying24, List.map_cons, List.map_nil]; exact List.mem_append.2 (Or.inr (List.mem_append.2 (Or.inr (List.mem_append.2 (Or.inl hx)))))))
    simp only [List.cons.injEq, and_true] at h0 h1
    subst h0; subst h1; subst e2
    exact ⟨⟨i0, i1, l⟩, a, c, rfl, ⟨q2, q1⟩, q3, q4⟩
set_option maxRecDepth 100000 in
theorem open_script {r : Go.Reach} {b0 : Nat} {v : Value} {d : DataW H} {p : List MemPlace} (hv : Value.okWide Try.prog W r b0 27 v) (h : DataW.Trod enc Try.prog W 0 (fun _ => true) true 27 v d p) (hw : ∀ x ∈ d.weights Try.prog 27, x ≤ reachBytes) :
    ∃ (t : TabD) (l : List ActD), ScrVal W v t l ∧ LooseS t l := by
  obtain ⟨cs, rfl, hsz⟩ := okWide_struct Try.underlying27 hv
  rw [Try.cells27] at hsz
  obtain ⟨cl⟩ := cs
  obtain ⟨fuel, hf⟩ := h
  match cl, hsz with
  | [v0, v1, v2, v3], _ =>
    obtain ⟨xs, k, _, hdp, hl, hxl, hq⟩ := DataW.trod_struct Try.underlying27 hf
    simp only [Prod.mk.injEq] at hdp
    obtain ⟨rfl, rfl⟩ := hdp
    match xs, hxl with
    | [z0, z1], _ =>
      have g0 := hq 0 _ rfl
      have g1 := hq 1 _ rfl
      simp [Value.cells, Try.cells24, Try.cells25] at g0 g1
      obtain ⟨t, a, c, e0, q1, q2, q3⟩ := open_table g0 (fun x hx => hw x (by simp only [DataW.weights, DataW.weightsEach, Try.underlying27, List.map_cons, List.map_nil]; exact List.mem_append.2 (Or.inl hx)))
      obtain ⟨aL, l, cL, e1, q4, q5, q6, q7⟩ := open_acts g1 (fun x hx => hw x (by simp only [DataW.weights, DataW.weightsEach, Try.underlying27, List.map_cons, List.map_nil]; exact List.mem_append.2 (Or.inr (List.mem_append.2 (Or.inl hx)))))
      simp only [List.cons.injEq, and_true] at e0
      obtain ⟨rfl, rfl, rfl⟩ := e0
      subst e1
      exact ⟨t, l, ⟨a, c, aL, cL, rfl, q1, q5⟩, q2, q6, q7, q3⟩
end

end Go.Proofs.Ytijldakgfgmbiaa
