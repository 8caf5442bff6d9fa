/- Laid together: Copyd, Rcom, Rtake. -/
import Derived.Test.YtheomnafmjmpdaaRoomN12
/- Devices, and places, copied by the page. -/
namespace Go.Proofs.Ytheomnafmjmpdaa
open Go.RowKit

set_option maxRecDepth 100000 in
set_option maxHeartbeats 400000 in
theorem copyPtrs_any (a : Option Addr) (l : List (Int × Int)) (cap : Nat) (w : World) (hs : SegsAt w a l) (hl : l.length ≤ 100000) :
    Calls Try.prog 21 #[.slice a l.length cap] w fun e w' => ∃ v, e = .returned v ∧ OwnPtrs w' w.heap.size v l ∧ Below w.heap.size w w' := by
  obtain ⟨i0, hi, hz0, hz1, hz2⟩ := info_parts Try.info45
  have HS : Hid (SegsAt w a l) := hs
  clear hs
  go_enter Try.func21, Try.ntmps21
  go_wp2_with fail
  go_loopw [3, 4] (fun v i wr => ∃ (k : Nat), k ≤ l.length ∧ i = .int .i64 k ∧ OwnPtrs wr w.heap.size v (l.take k) ∧ Below w.heap.size w wr)
    (fun _ i _ => l.length - (intOf i).toNat)
  case atStart => exact ⟨0, by omega, rfl, World.ownsRow_nil _ _ _ _, nwR w⟩
  case round =>
    obtain ⟨k, hk, rfl, hO, hb⟩ := hrel
    have HO : Hid (OwnPtrs wr w.heap.size u3 (l.take k)) := hO
    clear hO
    by_cases hlt : k < l.length
    · obtain ⟨b, off, rfl, h1, h2⟩ := (HS.out.below hb (Nat.le_refl _)) k hlt
      have HT : Hid (l.take (k + 1) = l.take k ++ [l.getD k (0, 0)]) := take_snocD l (0, 0) k hlt
      have HL : Hid ((l.take k).length ≤ 100000) := by show _ ≤ 100000; rw [List.length_take]; omega
      generalize l.getD k (0, 0) = s at h1 h2 HT
      obtain ⟨x, y⟩ := s
      simp only at h1 h2
      generalize l.take k = L at HO HT HL
      have hsz : w.heap.size ≤ (wr.alloc (.cells #[.int .i64 x, .int .i64 y] 45)).heap.size := (nwA hb _).size
      have hc3 : L.length + 1 ≤ maxLen := by unfold maxLen; have := HL.out; omega
      have hc4 : (L.length + 1) * 16 ≤ 140737488355328 := by have := HL.out; omega
      go_wp2_with (at_builtin; refine wpList_append_own _ rfl (.tmp 11) (.tmp 16) 30 rfl w.heap.size 45 i0 (.agg #[.int .i64 0, .int .i64 0]) 2 16 Try.underlying30 hi hz0 hz1 hz2 rfl (by decide) u3 L.length (flat L) rfl (World.ownsRow.alloc HO.out _) ⟨wr.heap.size, 0, none⟩ 1 1 [.int .i64 x, .int .i64 y] rfl rfl (cell_two' _ _ _ _) (by simp [Value.oneCell']) hc3 hc4 hsz ?_; intro v' w3 hown hgrow _)
      have HB3 : Hid (Below w.heap.size w w3) := (nwA hb _).grown hgrow (nwA hb _).size (fun q e => (HO.out.lt q e).1)
      have HO3 : Hid (OwnPtrs w3 w.heap.size v' (l.take (k + 1))) := by rw [HT.out]; exact OwnPtrs.snoc hown
      clear hown hgrow
      go_roundw
      case rel => exact ⟨k + 1, by omega, by go_num, HO3.out, HB3.out⟩
      case measure => simp [intOf]; omega
    · have hk' : k = l.length := by omega
      subst hk'
      rw [List.take_length] at HO
      go_wp2_with fail
      go_ret
      exact ⟨_, rfl, HO.out, hb⟩


theorem size3 (w : World) (a b c : Obj) : (((w.alloc a).alloc b).alloc c).heap.size = w.heap.size + 3 := by simp
theorem three_0 (w : World) (a b c : Obj) : (((w.alloc a).alloc b).alloc c).heap[w.heap.size]? = some a := by
  exact (Lib.alloc_old _ _ _ (by simp; omega)).trans ((Lib.alloc_old _ _ _ (by simp)).trans (heap_alloc_new w _))
theorem three_1 (w : World) (a b c : Obj) : (((w.alloc a).alloc b).alloc c).heap[w.heap.size + 1]? = some b := by
  exact (Lib.alloc_old _ _ _ (by simp)).trans (heap_alloc_new2 w _ _)
theorem three_2 (w : World) (a b c : Obj) : (((w.alloc a).alloc b).alloc c).heap[w.heap.size + 1 + 1]? = some c := by
  have := heap_alloc_new ((w.alloc a).alloc b) c
  simpa using this

set_option maxRecDepth 100000 in
set_option maxHeartbeats 2000000 in
theorem copyDev_any (v : Value) (d : DevD) (w : World) (hv : DevVal w v d) (hs : SmallD d) :
    Calls Try.prog 20 #[v] w fun e w' => (∃ fv lv, e = .returned (.agg #[.int .i64 d.id, .int .i64 d.size, fv, lv]) ∧ OwnDV w' w.heap.size ⟨d, fv, lv⟩) ∧ Below w.heap.size w w' := by
  obtain ⟨af, cf, al, cl, rfl, hf, hl⟩ := hv
  have HF : Hid (SegsAt w af d.free) := hf.1
  have HL : Hid (SegsAt w al d.late) := hl.1
  clear hf hl
  obtain ⟨id, size, fr, la⟩ := d
  simp only at *
  simp only [SmallD] at hs
  obtain ⟨hs1, hs2⟩ := hs
  go_enter Try.func20, Try.ntmps20
  go_wp2_with fail
  have HBW : Hid (Below w.heap.size w (((w.alloc (.cells #[.int .i64 id, .int .i64 size, .slice af fr.length cf, .slice al la.length cl] 51)).alloc (.cells #[.int .i64 0, .int .i64 0, .slice none 0 0, .slice none 0 0] 51)).alloc (.cells #[.int .i64 id, .int .i64 size, .slice af fr.length cf, .slice al la.length cl] 51))) := nwA (nwA (nwA (nwR w) _) _) _
  refine (copySegs_any af fr cf _ (HF.out.below HBW.out (Nat.le_refl _)) hs1).mono ?_
  rintro e w1 ⟨fv, rfl, hob, hb1⟩
  have HO1 : Hid (OwnSegs w1 (w.heap.size + 3) fv fr) := by have := hob; rw [size3] at this; exact this
  have HB1 : Hid (Below w.heap.size w w1) := nwT HBW.out hb1
  have HA1 : Hid (w1.heap[w.heap.size]? = some (.cells #[.int .i64 id, .int .i64 size, .slice af fr.length cf, .slice al la.length cl] 51 (0, 0))) := (hb1.block _ (by rw [size3]; omega)).trans (three_0 w _ _ _)
  have HZ1 : Hid (w1.heap[w.heap.size + 1]? = some (.cells #[.int .i64 0, .int .i64 0, .slice none 0 0, .slice none 0 0] 51 (0, 0))) := (hb1.block _ (by simp)).trans (three_1 w _ _ _)
  have HC1 : Hid (w1.heap[w.heap.size + 1 + 1]? = some (.cells #[.int .i64 id, .int .i64 size, .slice af fr.length cf, .slice al la.length cl] 51 (0, 0))) := (hb1.block _ (by simp)).trans (three_2 w _ _ _)
  clear hob hb1 HBW
  obtain ⟨av, cv, rfl, _⟩ := HO1.out.segV
  obtain ⟨r0, r1, r2, r3, rf⟩ := four HA1.out
  obtain ⟨q0, q1, q2, q3, qf⟩ := four HC1.out
  obtain ⟨W2, hW2⟩ : ∃ W2, W2 = w1.setCell ⟨w.heap.size + 1 + 1, 2, none⟩ (.slice av fr.length cv) := ⟨_, rfl⟩
  have HS2 : Hid (w1.heap.size = W2.heap.size) := by show _ = _; rw [hW2]; simp
  have HA2 : Hid (W2.heap[w.heap.size]? = some (.cells #[.int .i64 id, .int .i64 size, .slice af fr.length cf, .slice al la.length cl] 51 (0, 0))) := by rw [hW2]; exact (Below.heap_setCell _ _ _ _ (by show w.heap.size ≠ w.heap.size + 1 + 1; omega)).trans HA1.out
  have HZ2 : Hid (W2.heap[w.heap.size + 1]? = some (.cells #[.int .i64 0, .int .i64 0, .slice none 0 0, .slice none 0 0] 51 (0, 0))) := by rw [hW2]; exact (Below.heap_setCell _ _ _ _ (by show w.heap.size + 1 ≠ w.heap.size + 1 + 1; omega)).trans HZ1.out
  have HC2 : Hid (W2.heap[w.heap.size + 1 + 1]? = some (.cells #[.int .i64 id, .int .i64 size, .slice av fr.length cv, .slice al la.length cl] 51 (0, 0))) := by
    rw [hW2]
    exact (heap_setCell_same w1 (w.heap.size + 1 + 1) 2 _ 51 (.slice av fr.length cv) HC1.out).trans rfl
  have HO2 : Hid (OwnSegs W2 (w.heap.size + 3) (.slice av fr.length cv) fr) := by rw [hW2]; exact rowset HO1.out 2 (by omega) _
  have HB2 : Hid (Below w.heap.size w W2) := by rw [hW2]; exact HB1.out.setCell (p := ⟨w.heap.size + 1 + 1, 2, none⟩) (by show w.heap.size ≤ w.heap.size + 1 + 1; omega) _
  clear HO1 HB1 HA1 HZ1 HC1
  obtain ⟨t0, t1, t2, t3, tf⟩ := four HA2.out
  rw [hW2] at t3
  go_wp2_with fail
  rw [← hW2]
  clear r0 r1 r2 r3 rf q0 q1 q2 q3 qf t0 t1 t2 t3 tf hW2
  refine (copySegs_any al la cl W2 (HL.out.below HB2.out (Nat.le_refl _)) hs2).mono ?_
  rintro e w3 ⟨lv, rfl, hob, hb3⟩
  have h2 : w.heap.size + 1 + 1 < W2.heap.size := (Array.getElem?_eq_some_iff.1 HC2.out).1
  have HO3 : Hid (OwnSegs w3 (w.heap.size + 3) lv la) := own_le hob (by omega)
  have HF3 : Hid (OwnSegs w3 (w.heap.size + 3) (.slice av fr.length cv) fr) := own_below HO2.out hb3
  have HB3 : Hid (Below w.heap.size w w3) := nwT HB2.out hb3
  have HZ3 : Hid (w3.heap[w.heap.size + 1]? = some (.cells #[.int .i64 0, .int .i64 0, .slice none 0 0, .slice none 0 0] 51 (0, 0))) := (hb3.block _ (by omega)).trans HZ2.out
  have HC3 : Hid (w3.heap[w.heap.size + 1 + 1]? = some (.cells #[.int .i64 id, .int .i64 size, .slice av fr.length cv, .slice al la.length cl] 51 (0, 0))) := (hb3.block _ h2).trans HC2.out
  clear hob hb3 HO2 HB2 HA2 HZ2 HC2 HS2
  obtain ⟨au, cu, rfl, _⟩ := HO3.out.segV
  obtain ⟨q0, q1, q2, q3, qf⟩ := four HC3.out
  obtain ⟨r0, r1, r2, r3, rf⟩ := four HZ3.out
  go_wp2_with fail
  refine bodyPost_ret (v := .agg #[.int .i64 id, .int .i64 size, .slice av fr.length cv, .slice au la.length cu]) (by simp [results, Try.results20, go_sem, r0, r1, r2, r3]) rfl ⟨⟨_, _, rfl, ?_, ?_⟩, ?_⟩
  · exact own_le (rowset (rowset (rowset (rowset (rowset HF3.out 3 (g := w.heap.size + 1 + 1) (by omega) _) 0 (g := w.heap.size + 1) (by omega) _) 1 (by omega) _) 2 (by omega) _) 3 (by omega) _) (by omega)
  · exact own_le (rowset (rowset (rowset (rowset (rowset HO3.out 3 (g := w.heap.size + 1 + 1) (by omega) _) 0 (g := w.heap.size + 1) (by omega) _) 1 (by omega) _) 2 (by omega) _) 3 (by omega) _) (by omega)
  · exact ((((HB3.out.setCell (p := ⟨w.heap.size + 1 + 1, 3, none⟩) (by show w.heap.size ≤ w.heap.size + 1 + 1; omega) _).setCell (p := ⟨w.heap.size + 1, 0, none⟩) (Nat.le_succ _) _).setCell (p := ⟨w.heap.size + 1, 1, none⟩) (Nat.le_succ _) _).setCell (p := ⟨w.heap.size + 1, 2, none⟩) (Nat.le_succ _) _).setCell (p := ⟨w.heap.size + 1, 3, none⟩) (Nat.le_succ _) _

set_option maxRecDepth 100000 in
set_option maxHeartbeats 2000000 in
theorem copyDevs_any (a : Option Addr) (ds : List DevD) (ca : Nat) (w : World) (hx : DevsAt w a ds) (hs : SmallL ds) :
    Calls Try.prog 8 #[.slice a ds.length ca] w fun e w' => (∃ v, e = .returned v ∧ OwnDevs w' w.heap.size v ds) ∧ Below w.heap.size w w' := by
  have HX : Hid (DevsAt w a ds) := hx
  have HS : Hid (SmallL ds) := hs
  have hl := hs.1
  clear hx hs
  obtain ⟨i0, hi, hz0, hz1, hz2⟩ := info_parts Try.info51
  go_enter Try.func8, Try.ntmps8
  go_wp2_with fail
  go_loopw [3, 4] (fun v i wr => ∃ (k : Nat), k ≤ ds.length ∧ i = .int .i64 k ∧ OwnDevs wr w.heap.size v (ds.take k) ∧ Below w.heap.size w wr)
    (fun _ i _ => ds.length - (intOf i).toNat)
  case atStart => exact ⟨0, by omega, rfl, ownD_nil _ _, nwR w⟩
  case round =>
    obtain ⟨k, hk, rfl, hO, hb⟩ := hrel
    have HO : Hid (OwnDevs wr w.heap.size u3 (ds.take k)) := hO
    clear hO
    by_cases hkl : k < ds.length
    · have hkli : (k : Int) < (ds.length : Int) := by omega
      obtain ⟨b1, o1, rfl, hf⟩ := HX.out.dev hkl
      have HSM : Hid (SmallD (ds.getD k DZ)) := HS.out.2 _ (getD_mem DZ hkl)
      have HT : Hid (ds.take (k + 1) = ds.take k ++ [ds.getD k DZ]) := by
        show _ = _
        rw [List.take_succ_eq_append_getElem hkl]; simp [List.getD, hkl]
      have hlt : (ds.take k).length ≤ 1000 := by rw [List.length_take]; omega
      obtain ⟨af, cf, al, cl, ⟨h0, h1, h2, h3⟩, hv⟩ := (hf.below hb).val
      generalize ds.getD k DZ = d at HSM HT h0 h1 h2 h3 hv
      have HV : Hid (DevVal wr (.agg #[.int .i64 d.id, .int .i64 d.size, .slice af d.free.length cf, .slice al d.late.length cl]) d) := hv
      clear hf hv
      go_wp2_with fail
      refine (copyDev_any _ d _ HV.out HSM.out).mono ?_
      rintro e w2 ⟨⟨fv, lv, rfl, hdv⟩, hb2⟩
      have hbq := nwT hb hb2
      have HFV : Hid (OwnDV w2 w.heap.size ⟨d, fv, lv⟩) := hdv.le hb.size
      have HO2 : Hid (OwnDevs w2 w.heap.size u3 (ds.take k)) := HO.out.below hb2
      clear hdv hb2 HO h0 h1 h2 h3 HV
      obtain ⟨gs, hgs, hown, hall⟩ := HO2.out
      have HOW : Hid (w2.ownsRow w.heap.size 51 4 u3 gs.length (dflat gs)) := hown
      have HALL : Hid (∀ g ∈ gs, OwnDV w2 w.heap.size g) := hall
      have HGS : Hid (gs.map DV.d = ds.take k) := hgs
      have hgl : gs.length ≤ 1000 := by have := congrArg List.length hgs; rw [List.length_map] at this; omega
      obtain ⟨abv, cbv, eb, _⟩ := HFV.out.1.segV
      obtain ⟨acv, ccv, ec, _⟩ := HFV.out.2.segV
      simp only at eb ec
      subst eb; subst ec
      clear hown hall hgs HO2
      have hsz : w.heap.size ≤ (w2.alloc (.cells #[.int .i64 d.id, .int .i64 d.size, .slice abv d.free.length cbv, .slice acv d.late.length ccv] 51)).heap.size := (nwA hbq _).size
      have hc3 : gs.length + 1 ≤ maxLen := by unfold maxLen; omega
      have hc4 : (gs.length + 1) * 64 ≤ 140737488355328 := by omega
      go_wp2_with (at_builtin; refine wpList_append_own _ rfl (.tmp 11) (.tmp 17) 22 rfl w.heap.size 51 i0 (.agg #[.int .i64 0, .int .i64 0, .slice none 0 0, .slice none 0 0]) 4 64 Try.underlying22 hi hz0 hz1 hz2 rfl (by decide) u3 gs.length (dflat gs) rfl (World.ownsRow.alloc HOW.out _) ⟨w2.heap.size, 0, none⟩ 1 1 [.int .i64 d.id, .int .i64 d.size, .slice abv d.free.length cbv, .slice acv d.late.length ccv] rfl rfl (cells4 _ _ _ _ _ _) (by simp [Value.oneCell']) hc3 hc4 hsz ?_; intro v' w3 hown hgrow _; refine unstop ?_)
      unfold Stop
      have HB3 : Hid (Below w.heap.size w w3) := (nwA hbq _).grown hgrow (nwA hbq _).size (fun q e => (HOW.out.lt q e).1)
      have HO3 : Hid (OwnDevs w3 w.heap.size v' (ds.take (k + 1))) := by
        rw [HT.out, ← HGS.out]
        have hrow := World.ownsRow.alloc HOW.out (.cells #[.int .i64 d.id, .int .i64 d.size, .slice abv d.free.length cbv, .slice acv d.late.length ccv] 51)
        exact OwnDevs.snoc (g := ⟨d, .slice abv d.free.length cbv, .slice acv d.late.length ccv⟩) (fun x hx => ((HALL.out x hx).below (nwA (nwR _) _)).grown hrow hgrow) ((HFV.out.below (nwA (nwR _) _)).grown hrow hgrow) hown
      clear hown hgrow
      go_wp2_with fail
      go_roundw
      case rel => exact ⟨k + 1, by omega, by go_num, HO3.out, HB3.out⟩
      case measure => simp [intOf]; omega
    · have hkli : ¬ (k : Int) < (ds.length : Int) := by omega
      have HOE : Hid (OwnDevs wr w.heap.size u3 ds) := by have := HO.out; rw [List.take_of_length_le (by omega)] at this; exact this
      clear HO
      have h := HOE.out
      obtain ⟨av, cv, rfl, _⟩ := h.at
      go_wp2_with fail
      go_ret
      exact ⟨⟨_, rfl, HOE.out⟩, hb⟩

end Go.Proofs.Ytheomnafmjmpdaa

/- What is late made free, by the page. -/
namespace Go.Proofs.Ytheomnafmjmpdaa
open Go.RowKit

/- the state while a device of one's own is written to -/
structure StH (w : World) (g : Nat) (I : Nat → Prop) (wr : World) : Prop where
  gr : w.grownBy wr (some g)
  bg : ∃ cs cs', w.heap[g]? = some (.cells cs 51 (0, 0)) ∧ wr.heap[g]? = some (.cells cs' 51 (0, 0)) ∧ cs'.size = cs.size ∧ ∀ o, ¬ I o → cs'[o]? = cs[o]?
theorem StH.below {w : World} {g : Nat} {I : Nat → Prop} {wr w' : World} (h : StH w g I wr) (hb : Below wr.heap.size wr w') : StH w g I w' := by
  obtain ⟨cs, cs', h1, h2, h3, h4⟩ := h.bg
  exact ⟨h.gr.trans (gbOf hb _), cs, cs', h1, (hb.block _ (Array.getElem?_eq_some_iff.1 h2).1).trans h2, h3, h4⟩
theorem StH.drew {w : World} {g : Nat} {I : Nat → Prop} {wr : World} (h : StH w g I wr) : StH w g I wr.drew := h.below (Below.drew (nwR wr))
theorem StH.alloc {w : World} {g : Nat} {I : Nat → Prop} {wr : World} (h : StH w g I wr) (x : Obj) : StH w g I (wr.alloc x) := h.below (nwA (nwR wr) _)
theorem StH.set {w : World} {g : Nat} {I : Nat → Prop} {wr : World} (h : StH w g I wr) (i : Nat) (hi : I i) (v : Value) : StH w g I (wr.setCell ⟨g, i, none⟩ v) := by
  obtain ⟨cs, cs', h1, h2, h3, h4⟩ := h.bg
  refine ⟨gb_setg h.gr _, cs, cs'.setIfInBounds i v, h1, heap_setCell_same wr g i cs' 51 v h2, by simp [h3], fun o ho => ?_⟩
  rw [← h4 o ho]
  have : i ≠ o := fun e => ho (e ▸ hi)
  simp [this]
theorem StH.some {w : World} {g : Nat} {I : Nat → Prop} {wr : World} (h : StH w g I wr) {i : Nat} {u : Value} (hu : w.cell? ⟨g, i, none⟩ = Option.some u) : ∃ u', wr.cell? ⟨g, i, none⟩ = Option.some u' := by
  obtain ⟨cs, cs', h1, h2, h3, h4⟩ := h.bg
  rw [cell_heap h1] at hu
  have := (Array.getElem?_eq_some_iff.1 hu).1
  exact ⟨cs'[i]'(by omega), by rw [cell_heap h2]; exact Array.getElem?_eq_getElem _⟩
theorem StH.frz {w : World} {g : Nat} {I : Nat → Prop} {wr : World} (h : StH w g I wr) (o : Nat) : wr.frozen? ⟨g, o, none⟩ = false := by
  obtain ⟨cs, cs', h1, h2, h3, h4⟩ := h.bg
  exact Lib.frozen_of_heap h2 o
theorem stH_start {w : World} {g : Nat} {I : Nat → Prop} {cs : Array Value} (hc : w.heap[g]? = some (.cells cs 51 (0, 0))) : StH w g I w := ⟨gbOf (nwR w) _, cs, cs, hc, hc, rfl, fun _ _ => rfl⟩
theorem OwnDevs.blk {w : World} {base n c : Nat} {a : Option Addr} {ds : List DevD} (h : OwnDevs w base (.slice a n c) ds) (h0 : 0 < ds.length) : ∃ G, a = some ⟨G, 0, none⟩ ∧ base ≤ G ∧ G < w.heap.size := by
  obtain ⟨gs, e, ho, _⟩ := h
  have hl : gs.length = ds.length := by rw [← e, List.length_map]
  rcases ho.2 with ⟨_, hn⟩ | ⟨g, cap, cur, hv, _⟩
  · omega
  · injection hv with h1 _ _
    subst h1
    exact ⟨g, rfl, World.ownsRow.lt ho g rfl⟩
theorem comU_setFL (ds : List DevD) {k : Nat} (hk : k < ds.length) : (((comU ds k).set k (setF ((comU ds k).getD k DZ) (comD (ds.getD k DZ)).free)).set k (setL' (((comU ds k).set k (setF ((comU ds k).getD k DZ) (comD (ds.getD k DZ)).free)).getD k DZ) [])) = comU ds (k + 1) := by
  have hl := comU_len ds k (by omega)
  rw [getD_set, if_pos ⟨rfl, by omega⟩, List.set_set, comU_get ds hk, ← comU_succ ds hk]
  rfl

set_option maxRecDepth 100000 in
set_option maxHeartbeats 8000000 in
theorem rcommit_any (a : Option Addr) (ds : List DevD) (ca : Nat) (w : World) (hd : DevsAt w a ds) (hok : DevsOk ds) :
    Calls Try.prog 27 #[.slice a ds.length ca] w fun e w' => (∃ v, e = .returned v ∧ OwnDevs w' w.heap.size v (ds.map comD)) ∧ Below w.heap.size w w' := by
  have HC : Hid (Calls Try.prog 8 #[.slice a ds.length ca] w fun e w' => (∃ v, e = .returned v ∧ OwnDevs w' w.heap.size v ds) ∧ Below w.heap.size w w') := copyDevs_any a ds ca w hd hok.small
  have HOK : Hid (DevsOk ds) := hok
  have h6 := hok.1
  clear hd hok
  go_enter Try.func27, Try.ntmps27
  go_wp2_with fail
  refine HC.out.mono ?_
  rintro e w1 ⟨⟨v, rfl, ho⟩, hb1⟩
  obtain ⟨a1, c1, rfl, _⟩ := ho.at
  have HO1 : Hid (OwnDevs w1 w.heap.size (.slice a1 ds.length c1) (comU ds 0)) := by rw [comU_zero]; exact ho
  have HB1 : Hid (Below w.heap.size w w1) := hb1
  clear ho hb1 HC
  go_wp2_with fail
  go_loopw [3] (fun i wr => ∃ (k : Nat), k ≤ ds.length ∧ i = .int .i64 k ∧ Hid (OwnDevs wr w.heap.size (.slice a1 ds.length c1) (comU ds k)) ∧ Hid (Below w.heap.size w wr))
    (fun i _ => ds.length - (intOf i).toNat)
  case atStart => exact ⟨0, by omega, rfl, HO1, HB1⟩
  case round =>
  obtain ⟨k, hk, rfl, HO, HB⟩ := hrel
  by_cases hkl : k < ds.length
  case neg =>
    have hkli : ¬ (k : Int) < (ds.length : Int) := by omega
    have HF : Hid (OwnDevs wr w.heap.size (.slice a1 ds.length c1) (ds.map comD)) := by have := HO.out; rw [comU_all ds (by omega)] at this; exact this
    go_wp2_with fail
    go_ret
    exact ⟨⟨_, rfl, HF.out⟩, HB.out⟩
  case pos =>
  have hkli : (k : Int) < (ds.length : Int) := by omega
  have hk0 : (0 : Int) ≤ (k : Int) := by omega
  have hlen := comU_len ds k hk
  obtain ⟨G, rfl, hbG, hGl⟩ := HO.out.blk (by omega)
  obtain ⟨af, cf, al, cl, cs, htag, _, _, _, c2, c3, hseg⟩ := HO.out.dev hlen.symm hkl
  rw [comU_get ds hkl] at c2 c3 hseg
  have hdk := (HOK.out.2 k hkl).2
  have HSF : Hid (comU ds (k + 1) = (((comU ds k).set k (setF ((comU ds k).getD k DZ) (comD (ds.getD k DZ)).free)).set k (setL' (((comU ds k).set k (setF ((comU ds k).getD k DZ) (comD (ds.getD k DZ)).free)).getD k DZ) []))) := (comU_setFL ds hkl).symm
  obtain ⟨nl, hnl⟩ : ∃ nl, segsOf (fun i => memS (ds.getD k DZ).free i || memS (ds.getD k DZ).late i) = nl := ⟨_, rfl⟩
  have hcf : (comD (ds.getD k DZ)).free = nl := hnl
  rw [hcf] at HSF
  have HJ : Hid (Calls Try.prog 49 #[.slice af (ds.getD k DZ).free.length cf, .slice al (ds.getD k DZ).late.length cl, .int .i64 0] wr.drew fun e w'' => (∃ v, e = .returned v ∧ OwnSegs w'' w.heap.size v nl) ∧ Below wr.heap.size wr w'') := by
    have hg0 : wr.grownBy wr.drew (some G) := gbOf (Below.drew (nwR wr)) _
    obtain ⟨h1, h2⟩ := hseg wr.drew hg0
    obtain ⟨_, _, e1, v1⟩ := h1.segV
    obtain ⟨_, _, e2, v2⟩ := h2.segV
    injection e1 with e1 _ _
    injection e2 with e2 _ _
    subst e1; subst e2
    refine (refTwo0_any af al _ _ cf cl wr.drew v1.1 v2.1 hdk.small.1 hdk.small.2 hdk.free hdk.late).mono ?_
    rintro e w'' ⟨v, rfl, ho, hb⟩
    rw [hnl] at ho
    exact ⟨⟨v, rfl, own_le ho HB.out.size⟩, nwT (Below.drew (nwR wr)) hb⟩
  have HFIN : Hid (∀ wD v1, Below wr.heap.size wr wD → OwnSegs wD w.heap.size v1 nl → OwnDevs ((wD.setCell ⟨G, k * 4 + 2, none⟩ v1).setCell ⟨G, k * 4 + 3, none⟩ (.slice none 0 0)) w.heap.size (.slice (some ⟨G, 0, none⟩) ds.length c1) (comU ds (k + 1)) ∧ Below w.heap.size w ((wD.setCell ⟨G, k * 4 + 2, none⟩ v1).setCell ⟨G, k * 4 + 3, none⟩ (.slice none 0 0))) := fun wD v1 h hv => by
    have h1 := (HO.out.below h).setF hlen.symm hkl hv
    have h2 := h1.setL (l := []) (v := .slice none 0 0) (by rw [List.length_set]; exact hlen.symm) hkl (World.ownsRow_nil _ _ _ _)
    rw [HSF.out]
    exact ⟨h2, (((nwT HB.out h).setCell (p := ⟨G, k * 4 + 2, none⟩) hbG _).setCell (p := ⟨G, k * 4 + 3, none⟩) hbG _)⟩
  have hS : StH wr G (fun o => o = k * 4 + 2 ∨ o = k * 4 + 3) wr := stH_start htag
  have y2 : ∀ w', StH wr G (fun o => o = k * 4 + 2 ∨ o = k * 4 + 3) w' → ∃ u', w'.cell? ⟨G, k * 4 + 2, none⟩ = some u' := fun w' h => h.some c2
  have y3 : ∀ w', StH wr G (fun o => o = k * 4 + 2 ∨ o = k * 4 + 3) w' → ∃ u', w'.cell? ⟨G, k * 4 + 3, none⟩ = some u' := fun w' h => h.some c3
  have yf : ∀ w', StH wr G (fun o => o = k * 4 + 2 ∨ o = k * 4 + 3) w' → ∀ o, w'.frozen? ⟨G, o, none⟩ = false := fun w' h o => h.frz o
  have HSET2 : Hid (∀ w' v, StH wr G (fun o => o = k * 4 + 2 ∨ o = k * 4 + 3) w' → StH wr G (fun o => o = k * 4 + 2 ∨ o = k * 4 + 3) (w'.setCell ⟨G, k * 4 + 2, none⟩ v)) := fun w' v h => h.set _ (.inl rfl) v
  have HSET3 : Hid (∀ w' v, StH wr G (fun o => o = k * 4 + 2 ∨ o = k * 4 + 3) w' → StH wr G (fun o => o = k * 4 + 2 ∨ o = k * 4 + 3) (w'.setCell ⟨G, k * 4 + 3, none⟩ v)) := fun w' v h => h.set _ (.inr rfl) v
  have c2d : wr.drew.cell? ⟨G, k * 4 + 2, none⟩ = some (.slice af (ds.getD k DZ).free.length cf) := c2
  have c3d : wr.drew.cell? ⟨G, k * 4 + 3, none⟩ = some (.slice al (ds.getD k DZ).late.length cl) := c3
  clear c2 c3 hseg htag hlen hnl hcf hdk HO hbG hGl HSF
  generalize (ds.getD k DZ).free.length = nf at c2d HJ
  generalize (ds.getD k DZ).late.length = nn at c3d HJ
  go_upto_region 5 with fail
  refine wp_region_held_drew (S := fun w' => StH wr G (fun o => o = k * 4 + 2 ∨ o = k * 4 + 3) w') (by kernel_rfl) (by first | assumption | exact StH.drew (by assumption) | exact StH.below (by assumption) (by assumption) | exact StH.alloc (by assumption) _ | exact HSET2.out _ _ (by assumption) | exact HSET3.out _ _ (by assumption)) (fun hHeld => ?_)
  refine takeYes 0 (some 12) (v := ?_) rfl (by kernel_rfl) (by kernel_rfl) (by kernel_rfl) (by rfl) (fun _ _ _ h => h) (by rfl) ?_ (by assumption) ?_
  rotate_left
  · intro w hSw; (try dsimp only at hSw); go_simp; try with_reducible rfl
  try simp only [Act.put, List.setIfInBounds_toArray, List.set_cons_zero, List.set_cons_succ]
  refine takeYes 1 (some 13) (v := ?_) rfl (by kernel_rfl) (by kernel_rfl) (by kernel_rfl) (by rfl) (fun _ _ _ h => h) (by rfl) ?_ (by assumption) ?_
  rotate_left
  · intro w hSw; (try dsimp only at hSw); go_simp; try with_reducible rfl
  try simp only [Act.put, List.setIfInBounds_toArray, List.set_cons_zero, List.set_cons_succ]
  refine takeYes 2 (some 14) (v := ?_) rfl (by kernel_rfl) (by kernel_rfl) (by kernel_rfl) (by rfl) (fun _ _ _ h => h) (by rfl) ?_ (by assumption) ?_
  rotate_left
  · intro w hSw; (try dsimp only at hSw); go_simp; try with_reducible rfl
  try simp only [Act.put, List.setIfInBounds_toArray, List.set_cons_zero, List.set_cons_succ]
  refine takeYes 3 (some 15) (v := ?_) rfl (by kernel_rfl) (by kernel_rfl) (by kernel_rfl) (by rfl) (fun _ _ _ h => h) (by rfl) ?_ (by assumption) ?_
  rotate_left
  · intro w hSw; (try dsimp only at hSw); go_simp; try with_reducible rfl
  try simp only [Act.put, List.setIfInBounds_toArray, List.set_cons_zero, List.set_cons_succ]
  refine takeYes 4 (some 16) (v := ?_) rfl (by kernel_rfl) (by kernel_rfl) (by kernel_rfl) (by rfl) (fun _ _ _ h => h) (by rfl) ?_ (by assumption) ?_
  rotate_left
  · intro w hSw; (try dsimp only at hSw); go_simp; try with_reducible rfl
  try simp only [Act.put, List.setIfInBounds_toArray, List.set_cons_zero, List.set_cons_succ]
  refine takeYes 5 (some 17) (v := ?_) rfl (by kernel_rfl) (by kernel_rfl) (by kernel_rfl) (by rfl) (fun _ _ _ h => h) (by rfl) ?_ (by assumption) ?_
  rotate_left
  · intro w hSw; (try dsimp only at hSw); go_simp; try with_reducible rfl
  try simp only [Act.put, List.setIfInBounds_toArray, List.set_cons_zero, List.set_cons_succ]
  refine takeYes 6 (some 18) (v := ?_) rfl (by kernel_rfl) (by kernel_rfl) (by kernel_rfl) (by rfl) (fun _ _ _ h => h) (by rfl) ?_ (by assumption) ?_
  rotate_left
  · intro w hSw; (try dsimp only at hSw); go_simp; try with_reducible rfl
  try simp only [Act.put, List.setIfInBounds_toArray, List.set_cons_zero, List.set_cons_succ]
  refine takeYes 7 (some 19) (v := ?_) rfl (by kernel_rfl) (by kernel_rfl) (by kernel_rfl) (by rfl) (fun _ _ _ h => h) (by rfl) ?_ (by assumption) ?_
  rotate_left
  · intro w hSw; (try dsimp only at hSw); go_simp; try with_reducible rfl
  try simp only [Act.put, List.setIfInBounds_toArray, List.set_cons_zero, List.set_cons_succ]
  refine takeYes 9 (some 21) (v := ?_) rfl (by kernel_rfl) (by kernel_rfl) (by kernel_rfl) (by rfl) (fun _ _ _ h => h) (by rfl) ?_ (by assumption) ?_
  rotate_left
  · intro w hSw; (try dsimp only at hSw); go_simp; try with_reducible rfl
  try simp only [Act.put, List.setIfInBounds_toArray, List.set_cons_zero, List.set_cons_succ]
  refine takeYes 10 (some 22) (v := ?_) rfl (by kernel_rfl) (by kernel_rfl) (by kernel_rfl) (by rfl) (fun _ _ _ h => h) (by rfl) ?_ (by assumption) ?_
  rotate_left
  · intro w hSw; (try dsimp only at hSw); go_simp; try with_reducible rfl
  try simp only [Act.put, List.setIfInBounds_toArray, List.set_cons_zero, List.set_cons_succ]
  refine takeYes 11 (some 23) (v := ?_) rfl (by kernel_rfl) (by kernel_rfl) (by kernel_rfl) (by rfl) (fun _ _ _ h => h) (by rfl) ?_ (by assumption) ?_
  rotate_left
  · intro w hSw; (try dsimp only at hSw); go_simp; try with_reducible rfl
  try simp only [Act.put, List.setIfInBounds_toArray, List.set_cons_zero, List.set_cons_succ]
  refine takeYes 12 (some 24) (v := ?_) rfl (by kernel_rfl) (by kernel_rfl) (by kernel_rfl) (by rfl) (fun _ _ _ h => h) (by rfl) ?_ (by assumption) ?_
  rotate_left
  · intro w hSw; (try dsimp only at hSw); go_simp; try with_reducible rfl
  try simp only [Act.put, List.setIfInBounds_toArray, List.set_cons_zero, List.set_cons_succ]
  refine wpAnyH_ready (rs := [8, 13]) (by kernel_rfl) (by simp) ?_
  refine AllReadyH.cons rfl (fun K hK => ?_) (AllReadyH.cons rfl (fun K hK => ?_) AllReadyH.nil)
  ·
    go_simp
    refine hK.out _ _ (by first | assumption | exact StH.drew (by assumption) | exact StH.below (by assumption) (by assumption) | exact StH.alloc (by assumption) _ | exact HSET2.out _ _ (by assumption) | exact HSET3.out _ _ (by assumption)) (fun hHeld => ?_)
    clear hK K
    try simp only [Act.put, List.setIfInBounds_toArray, List.set_cons_zero, List.set_cons_succ]
    refine wpAnyH_ready (rs := [13]) (by kernel_rfl) (by simp) ?_
    refine AllReadyH.cons rfl (fun K hK => ?_) AllReadyH.nil
    go_simp
    refine hK.out _ _ (by first | assumption | exact StH.drew (by assumption) | exact StH.below (by assumption) (by assumption) | exact StH.alloc (by assumption) _ | exact HSET2.out _ _ (by assumption) | exact HSET3.out _ _ (by assumption)) (fun hHeld => ?_)
    clear hK K
    try simp only [Act.put, List.setIfInBounds_toArray, List.set_cons_zero, List.set_cons_succ]
    refine wpAnyH_ready (rs := [14]) (by kernel_rfl) (by simp) ?_
    refine AllReadyH.cons rfl (fun K hK => ?_) AllReadyH.nil
    go_simp
    (go_at_call 49; refine HJ.out.mono ?_; rintro e wC ⟨⟨v1, rfl, ho1⟩, hbC⟩; obtain ⟨a1', c1', rfl, _⟩ := ho1.segV; have HUC : Hid (Below wr.heap.size wr wC) := hbC; have HOV : Hid (OwnSegs wC w.heap.size (.slice a1' nl.length c1') nl) := ho1; have hSD : StH wr G (fun o => o = k * 4 + 2 ∨ o = k * 4 + 3) wC := StH.below hS hbC; obtain ⟨yu2, yk2⟩ := y2 wC hSD; have ykf := yf wC hSD; obtain ⟨yu3, yk3⟩ := y3 _ (HSET2.out wC (.slice a1' nl.length c1') hSD); have ykf3 := yf _ (HSET2.out wC (.slice a1' nl.length c1') hSD))
    refine hK.out _ _ (by first | assumption | exact StH.drew (by assumption) | exact StH.below (by assumption) (by assumption) | exact StH.alloc (by assumption) _ | exact HSET2.out _ _ (by assumption) | exact HSET3.out _ _ (by assumption)) (fun hHeld => ?_)
    clear hK K
    try simp only [Act.put, List.setIfInBounds_toArray, List.set_cons_zero, List.set_cons_succ]
    refine takeYes 15 (some 27) (v := ?_) rfl (by kernel_rfl) (by kernel_rfl) (by kernel_rfl) (by rfl) (fun _ _ _ h => h) (by rfl) ?_ (by assumption) ?_
    rotate_left
    · intro w hSw; (try dsimp only at hSw); go_simp; try with_reducible rfl
    try simp only [Act.put, List.setIfInBounds_toArray, List.set_cons_zero, List.set_cons_succ]
    refine takeYes 16 (some 28) (v := ?_) rfl (by kernel_rfl) (by kernel_rfl) (by kernel_rfl) (by rfl) (fun _ _ _ h => h) (by rfl) ?_ (by assumption) ?_
    rotate_left
    · intro w hSw; (try dsimp only at hSw); go_simp; try with_reducible rfl
    try simp only [Act.put, List.setIfInBounds_toArray, List.set_cons_zero, List.set_cons_succ]
    refine wpAnyH_ready (rs := [17]) (by kernel_rfl) (by simp) ?_
    refine AllReadyH.cons rfl (fun K hK => ?_) AllReadyH.nil
    go_simp
    refine hK.out _ _ (by first | assumption | exact StH.drew (by assumption) | exact StH.below (by assumption) (by assumption) | exact StH.alloc (by assumption) _ | exact HSET2.out _ _ (by assumption) | exact HSET3.out _ _ (by assumption)) (fun hHeld => ?_)
    clear hK K
    try simp only [Act.put, List.setIfInBounds_toArray, List.set_cons_zero, List.set_cons_succ]
    refine takeYes 18 (some 29) (v := ?_) rfl (by kernel_rfl) (by kernel_rfl) (by kernel_rfl) (by rfl) (fun _ _ _ h => h) (by rfl) ?_ (by assumption) ?_
    rotate_left
    · intro w hSw; (try dsimp only at hSw); go_simp; try with_reducible rfl
    try simp only [Act.put, List.setIfInBounds_toArray, List.set_cons_zero, List.set_cons_succ]
    refine takeYes 19 (some 30) (v := ?_) rfl (by kernel_rfl) (by kernel_rfl) (by kernel_rfl) (by rfl) (fun _ _ _ h => h) (by rfl) ?_ (by assumption) ?_
    rotate_left
    · intro w hSw; (try dsimp only at hSw); go_simp; try with_reducible rfl
    try simp only [Act.put, List.setIfInBounds_toArray, List.set_cons_zero, List.set_cons_succ]
    refine wpAnyH_ready (rs := [20]) (by kernel_rfl) (by simp) ?_
    refine AllReadyH.cons rfl (fun K hK => ?_) AllReadyH.nil
    go_simp
    refine hK.out _ _ (by first | assumption | exact StH.drew (by assumption) | exact StH.below (by assumption) (by assumption) | exact StH.alloc (by assumption) _ | exact HSET2.out _ _ (by assumption) | exact HSET3.out _ _ (by assumption)) (fun hHeld => ?_)
    clear hK K
    try simp only [Act.put, List.setIfInBounds_toArray, List.set_cons_zero, List.set_cons_succ]
    refine wpAnyH_done (by kernel_rfl) ?_ _
    have HRES := HFIN.out _ _ HUC.out HOV.out
    have HRH : Hid (OwnDevs ((wC.setCell ⟨G, k * 4 + 2, none⟩ (.slice a1' nl.length c1')).setCell ⟨G, k * 4 + 3, none⟩ (.slice none 0 0)) w.heap.size (.slice (some ⟨G, 0, none⟩) ds.length c1) (comU ds (k + 1)) ∧ Below w.heap.size w ((wC.setCell ⟨G, k * 4 + 2, none⟩ (.slice a1' nl.length c1')).setCell ⟨G, k * 4 + 3, none⟩ (.slice none 0 0))) := HRES
    clear HRES y2 y3 yf c2d c3d yk2 ykf yk3 ykf3
    go_wp2_with fail
    go_roundw
    case rel => exact ⟨k + 1, by omega, by go_num, HRH.out.1, HRH.out.2⟩
    case measure => simp [intOf]; omega

  ·
    go_simp
    refine hK.out _ _ (by first | assumption | exact StH.drew (by assumption) | exact StH.below (by assumption) (by assumption) | exact StH.alloc (by assumption) _ | exact HSET2.out _ _ (by assumption) | exact HSET3.out _ _ (by assumption)) (fun hHeld => ?_)
    clear hK K
    try simp only [Act.put, List.setIfInBounds_toArray, List.set_cons_zero, List.set_cons_succ]
    refine wpAnyH_ready (rs := [8]) (by kernel_rfl) (by simp) ?_
    refine AllReadyH.cons rfl (fun K hK => ?_) AllReadyH.nil
    go_simp
    refine hK.out _ _ (by first | assumption | exact StH.drew (by assumption) | exact StH.below (by assumption) (by assumption) | exact StH.alloc (by assumption) _ | exact HSET2.out _ _ (by assumption) | exact HSET3.out _ _ (by assumption)) (fun hHeld => ?_)
    clear hK K
    try simp only [Act.put, List.setIfInBounds_toArray, List.set_cons_zero, List.set_cons_succ]
    refine wpAnyH_ready (rs := [14]) (by kernel_rfl) (by simp) ?_
    refine AllReadyH.cons rfl (fun K hK => ?_) AllReadyH.nil
    go_simp
    (go_at_call 49; refine HJ.out.mono ?_; rintro e wC ⟨⟨v1, rfl, ho1⟩, hbC⟩; obtain ⟨a1', c1', rfl, _⟩ := ho1.segV; have HUC : Hid (Below wr.heap.size wr wC) := hbC; have HOV : Hid (OwnSegs wC w.heap.size (.slice a1' nl.length c1') nl) := ho1; have hSD : StH wr G (fun o => o = k * 4 + 2 ∨ o = k * 4 + 3) wC := StH.below hS hbC; obtain ⟨yu2, yk2⟩ := y2 wC hSD; have ykf := yf wC hSD; obtain ⟨yu3, yk3⟩ := y3 _ (HSET2.out wC (.slice a1' nl.length c1') hSD); have ykf3 := yf _ (HSET2.out wC (.slice a1' nl.length c1') hSD))
    refine hK.out _ _ (by first | assumption | exact StH.drew (by assumption) | exact StH.below (by assumption) (by assumption) | exact StH.alloc (by assumption) _ | exact HSET2.out _ _ (by assumption) | exact HSET3.out _ _ (by assumption)) (fun hHeld => ?_)
    clear hK K
    try simp only [Act.put, List.setIfInBounds_toArray, List.set_cons_zero, List.set_cons_succ]
    refine takeYes 15 (some 27) (v := ?_) rfl (by kernel_rfl) (by kernel_rfl) (by kernel_rfl) (by rfl) (fun _ _ _ h => h) (by rfl) ?_ (by assumption) ?_
    rotate_left
    · intro w hSw; (try dsimp only at hSw); go_simp; try with_reducible rfl
    try simp only [Act.put, List.setIfInBounds_toArray, List.set_cons_zero, List.set_cons_succ]
    refine takeYes 16 (some 28) (v := ?_) rfl (by kernel_rfl) (by kernel_rfl) (by kernel_rfl) (by rfl) (fun _ _ _ h => h) (by rfl) ?_ (by assumption) ?_
    rotate_left
    · intro w hSw; (try dsimp only at hSw); go_simp; try with_reducible rfl
    try simp only [Act.put, List.setIfInBounds_toArray, List.set_cons_zero, List.set_cons_succ]
    refine wpAnyH_ready (rs := [17]) (by kernel_rfl) (by simp) ?_
    refine AllReadyH.cons rfl (fun K hK => ?_) AllReadyH.nil
    go_simp
    refine hK.out _ _ (by first | assumption | exact StH.drew (by assumption) | exact StH.below (by assumption) (by assumption) | exact StH.alloc (by assumption) _ | exact HSET2.out _ _ (by assumption) | exact HSET3.out _ _ (by assumption)) (fun hHeld => ?_)
    clear hK K
    try simp only [Act.put, List.setIfInBounds_toArray, List.set_cons_zero, List.set_cons_succ]
    refine takeYes 18 (some 29) (v := ?_) rfl (by kernel_rfl) (by kernel_rfl) (by kernel_rfl) (by rfl) (fun _ _ _ h => h) (by rfl) ?_ (by assumption) ?_
    rotate_left
    · intro w hSw; (try dsimp only at hSw); go_simp; try with_reducible rfl
    try simp only [Act.put, List.setIfInBounds_toArray, List.set_cons_zero, List.set_cons_succ]
    refine takeYes 19 (some 30) (v := ?_) rfl (by kernel_rfl) (by kernel_rfl) (by kernel_rfl) (by rfl) (fun _ _ _ h => h) (by rfl) ?_ (by assumption) ?_
    rotate_left
    · intro w hSw; (try dsimp only at hSw); go_simp; try with_reducible rfl
    try simp only [Act.put, List.setIfInBounds_toArray, List.set_cons_zero, List.set_cons_succ]
    refine wpAnyH_ready (rs := [20]) (by kernel_rfl) (by simp) ?_
    refine AllReadyH.cons rfl (fun K hK => ?_) AllReadyH.nil
    go_simp
    refine hK.out _ _ (by first | assumption | exact StH.drew (by assumption) | exact StH.below (by assumption) (by assumption) | exact StH.alloc (by assumption) _ | exact HSET2.out _ _ (by assumption) | exact HSET3.out _ _ (by assumption)) (fun hHeld => ?_)
    clear hK K
    try simp only [Act.put, List.setIfInBounds_toArray, List.set_cons_zero, List.set_cons_succ]
    refine wpAnyH_done (by kernel_rfl) ?_ _
    have HRES := HFIN.out _ _ HUC.out HOV.out
    have HRH : Hid (OwnDevs ((wC.setCell ⟨G, k * 4 + 2, none⟩ (.slice a1' nl.length c1')).setCell ⟨G, k * 4 + 3, none⟩ (.slice none 0 0)) w.heap.size (.slice (some ⟨G, 0, none⟩) ds.length c1) (comU ds (k + 1)) ∧ Below w.heap.size w ((wC.setCell ⟨G, k * 4 + 2, none⟩ (.slice a1' nl.length c1')).setCell ⟨G, k * 4 + 3, none⟩ (.slice none 0 0))) := HRES
    clear HRES y2 y3 yf c2d c3d yk2 ykf yk3 ykf3
    go_wp2_with fail
    go_roundw
    case rel => exact ⟨k + 1, by omega, by go_num, HRH.out.1, HRH.out.2⟩
    case measure => simp [intOf]; omega

end Go.Proofs.Ytheomnafmjmpdaa

/- Sectors taken, by the page. -/
namespace Go.Proofs.Ytheomnafmjmpdaa
open Go.RowKit

def scF (ds : List DevD) (p : Int × Int) (k : Nat) : Int × Int := if p.2 < frC ds k then ((k : Int), frC ds k) else p
def scK (ds : List DevD) (L : List Nat) : Int × Int := L.foldl (scF ds) (-1, 0)
theorem sc_run (ds : List DevD) : ∀ (r : List Nat) (m : Nat), r.foldl (scF ds) ((m : Int), frC ds m) = (((bestF ds m r : Nat) : Int), frC ds (bestF ds m r))
  | [], m => rfl
  | k :: r, m => by
    rw [List.foldl_cons]
    unfold bestF
    by_cases h : frC ds m < frC ds k
    · rw [if_pos h, show scF ds ((m : Int), frC ds m) k = ((k : Int), frC ds k) from if_pos h]
      exact sc_run ds r k
    · rw [if_neg h, show scF ds ((m : Int), frC ds m) k = ((m : Int), frC ds m) from if_neg h]
      exact sc_run ds r m
theorem sc_two (ds : List DevD) : ∀ (r : List Nat) (m : Nat), frC ds m ≤ 0 → r.foldl (scF ds) (-1, 0) = (((bestF ds m r : Nat) : Int), frC ds (bestF ds m r)) ∨ frC ds (bestF ds m r) ≤ 0
  | [], m, h => .inr h
  | k :: r, m, h => by
    rw [List.foldl_cons]
    unfold bestF
    by_cases hk : 0 < frC ds k
    · rw [show scF ds (-1, 0) k = ((k : Int), frC ds k) from if_pos hk, if_pos (by omega)]
      exact .inl (sc_run ds r k)
    · rw [show scF ds (-1, 0) k = (-1, 0) from if_neg hk]
      exact sc_two ds r _ (by split <;> omega)
theorem sc_best {ds : List DevD} {L : List Nat} (hp : 0 < frC ds (bestK ds L)) (h0 : 0 < L.length) : scK ds L = (((bestK ds L : Nat) : Int), frC ds (bestK ds L)) := by
  unfold scK bestK at *
  cases L with
  | nil => simp at h0
  | cons x xs =>
    have e1 : (x :: xs).getD 0 0 = x := rfl
    have e2 : (x :: xs).drop 1 = xs := rfl
    rw [e1, e2] at hp ⊢
    rw [List.foldl_cons]
    by_cases hx : 0 < frC ds x
    · rw [show scF ds (-1, 0) x = ((x : Int), frC ds x) from if_pos hx]
      exact sc_run ds xs x
    · rw [show scF ds (-1, 0) x = (-1, 0) from if_neg hx]
      rcases sc_two ds xs x (by omega) with h | h
      · exact h
      · omega
theorem scK_snoc (ds : List DevD) (L : List Nat) (k : Nat) : scK ds (L ++ [k]) = scF ds (scK ds L) k := by
  unfold scK
  rw [List.foldl_append]
  rfl
theorem OwnDevs.other {w w' : World} {base B' s' m : Nat} {v u : Value} {ds : List DevD} {ys : List Value} (h : OwnDevs w base v ds) (hu : w.ownsRow B' 45 s' u m ys) (hg : w.grownBy w' u.ownBlock) : OwnDevs w' base v ds := by
  obtain ⟨gs, e, ho, ha⟩ := h
  exact ⟨gs, e, own_other ho hu (by decide) hg, fun y hy => ⟨own_other (ha y hy).1 hu (by decide) hg, own_other (ha y hy).2 hu (by decide) hg⟩⟩
theorem OwnPtrs.devs {w w' : World} {base base' g n c : Nat} {v : Value} {ps : List (Int × Int)} {ds : List DevD} (h : OwnPtrs w base v ps) (hd : OwnDevs w base' (.slice (some ⟨g, 0, none⟩) n c) ds) (hg : w.grownBy w' (some g)) : OwnPtrs w' base v ps := by
  obtain ⟨gs, e, ho, _⟩ := hd
  exact own_other h ho (by decide) hg

def RtakeR (ds : List DevD) (n id : Int) (base : Nat) (e : Ending) (w' : World) : Prop :=
  (cntN ds id < n ∧ e = .returned (.tuple #[.slice none 0 0, .slice none 0 0, .bool false])) ∨
  (n ≤ cntN ds id ∧ ∃ u v, e = .returned (.tuple #[u, v, .bool true]) ∧ OwnPtrs w' base u (takN ds (restK ds id (List.range ds.length)) n.toNat).1 ∧ OwnDevs w' base v (takN ds (restK ds id (List.range ds.length)) n.toNat).2)
set_option maxRecDepth 100000 in
set_option maxHeartbeats 8000000 in
theorem rtake_any (a : Option Addr) (ds : List DevD) (ca N : Nat) (id : Int) (w : World) (hd : DevsAt w a ds) (hok : DevsOk ds) (hN : N ≤ 384) :
    Calls Try.prog 25 #[.slice a ds.length ca, .int .i64 N, .int .i64 id] w fun e w' => RtakeR ds N id w.heap.size e w' ∧ Below w.heap.size w w' := by
  have HCT : Hid (Calls Try.prog 28 #[.slice a ds.length ca, .int .i64 id] w fun e w' => e = .returned (.int .i64 (cntN ds id)) ∧ Below w.heap.size w w') := rcount_any a ds ca id w hd hok
  have HC : Hid (∀ w', Below w.heap.size w w' → Calls Try.prog 8 #[.slice a ds.length ca] w' fun e w'' => (∃ v, e = .returned v ∧ OwnDevs w'' w'.heap.size v ds) ∧ Below w'.heap.size w' w'') := fun w' h => copyDevs_any a ds ca w' (hd.below h) hok.small
  have HOK : Hid (DevsOk ds) := hok
  have h6 := hok.1
  obtain ⟨ks, hks⟩ : ∃ ks, restK ds id (List.range ds.length) = ks := ⟨_, rfl⟩
  have HKS : Hid ((∀ k ∈ ks, k < ds.length) ∧ ks.Nodup) := by
    rw [← hks]
    exact ⟨restK_sub (range_lt _), rest_nodup _ _ _⟩
  have HKE : Hid (restK ds id (List.range ds.length) = ks) := hks
  obtain ⟨ct, hct⟩ : ∃ ct, cntN ds id = ct := ⟨_, rfl⟩
  have HCC : Hid (cntK ds ks = ct) := by show _ = _; rw [← hct, ← hks]; rfl
  have HNO : Hid (ct < (N : Int) → ∀ w', RtakeR ds N id w.heap.size (.returned (.tuple #[.slice none 0 0, .slice none 0 0, .bool false])) w') := fun h w' => .inl ⟨by rw [hct]; exact h, rfl⟩
  have HYS : Hid ((N : Int) ≤ ct → ∀ w' u v, OwnPtrs w' w.heap.size u (takN ds ks N).1 → OwnDevs w' w.heap.size v (takN ds ks N).2 → RtakeR ds N id w.heap.size (.returned (.tuple #[u, v, .bool true])) w') := fun h w' u v h1 h2 => .inr ⟨by rw [hct]; exact h, u, v, rfl, by rw [hks]; exact h1, by rw [hks]; exact h2⟩
  rw [hct] at HCT
  clear hd hok hks hct
  go_enter Try.func25, Try.ntmps25
  go_wp2_with fail
  refine HCT.out.mono ?_
  rintro e w1 ⟨rfl, hb1⟩
  have HB1 : Hid (Below w.heap.size w w1) := hb1
  clear hb1 HCT
  by_cases hlt : ct < (N : Int)
  · have HQ : Hid (∀ w', RtakeR ds N id w.heap.size (.returned (.tuple #[.slice none 0 0, .slice none 0 0, .bool false])) w') := HNO.out hlt
    clear HNO HYS
    go_wp2_with fail
    go_ret3
    exact ⟨HQ.out _, HB1.out⟩
  have hNc : (N : Int) ≤ ct := by omega
  have HY : Hid (∀ w' u v, OwnPtrs w' w.heap.size u (takN ds ks N).1 → OwnDevs w' w.heap.size v (takN ds ks N).2 → RtakeR ds N id w.heap.size (.returned (.tuple #[u, v, .bool true])) w') := HYS.out hNc
  have HNL : Hid ((N : Int) ≤ cntK ds ks) := by rw [HCC.out]; exact hNc
  clear HNO HYS
  go_wp2_with fail
  refine (HC.out w1 HB1.out).mono ?_
  rintro e w2 ⟨⟨v, rfl, ho⟩, hb2⟩
  obtain ⟨a1, c1, rfl, _⟩ := ho.at
  have HB2 : Hid (Below w.heap.size w w2) := nwT HB1.out hb2
  have HO2 : Hid (OwnDevs w2 w.heap.size (.slice a1 ds.length c1) (takN ds ks 0).2) := ho.le HB1.out.size
  have HP2 : Hid (OwnPtrs w2 w.heap.size (.slice none 0 0) (takN ds ks 0).1) := World.ownsRow_nil _ _ _ _
  obtain ⟨i0, hi, hz0, hz1, hz2⟩ := info_parts Try.info45
  clear ho hb2 HC
  go_wp2_with fail
  go_loopw [9, 10] (fun p i wr => ∃ (j : Nat), j ≤ N ∧ i = .int .i64 j ∧ Hid (OwnDevs wr w.heap.size (.slice a1 ds.length c1) (takN ds ks j).2) ∧ Hid (OwnPtrs wr w.heap.size p (takN ds ks j).1) ∧ Hid (Below w.heap.size w wr))
    (fun _ i _ => N - (intOf i).toNat)
  case atStart => exact ⟨0, by omega, rfl, HO2, HP2, HB2⟩
  case round =>
  obtain ⟨j, hj, rfl, HO, HP, HB⟩ := hrel
  by_cases hjn : j < N
  case neg =>
    have hjni : ¬ (j : Int) < (N : Int) := by omega
    have HOE : Hid (OwnDevs wr w.heap.size (.slice a1 ds.length c1) (takN ds ks N).2) := by have := HO.out; rw [show j = N from by omega] at this; exact this
    have HPE : Hid (OwnPtrs wr w.heap.size u9 (takN ds ks N).1) := by have := HP.out; rw [show j = N from by omega] at this; exact this
    have HQ : Hid (RtakeR ds N id w.heap.size (.returned (.tuple #[u9, .slice a1 ds.length c1, .bool true])) wr) := HY.out wr u9 _ HPE.out HOE.out
    obtain ⟨pa, pc, hpv⟩ := HPE.out.lit
    subst hpv
    go_wp2_with fail
    go_ret3
    exact ⟨HQ.out, HB.out⟩
  case pos =>
  have hjni : (j : Int) < (N : Int) := by omega
  obtain ⟨hinv, hpl⟩ := takN_inv HOK.out.allV HKS.out.1 HKS.out.2 j (by have := HNL.out; omega)
  obtain ⟨⟨hk0, hbl, hfl⟩, _⟩ := tinv_step hinv HKS.out.1 HKS.out.2 (by have := HNL.out; omega)
  have hpos := (best_pos (ds := (takN ds ks j).2) (ks := ks) (by rw [hinv.cnt]; have := HNL.out; omega)).2
  have HTS : Hid (takN ds ks (j + 1) = ((takN ds ks j).1 ++ [(((takN ds ks j).2.getD (bestK (takN ds ks j).2 ks) DZ).id, leastA ((takN ds ks j).2.getD (bestK (takN ds ks j).2 ks) DZ).free)], (takN ds ks j).2.set (bestK (takN ds ks j).2 ks) (setF ((takN ds ks j).2.getD (bestK (takN ds ks j).2 ks) DZ) (lessA ((takN ds ks j).2.getD (bestK (takN ds ks j).2 ks) DZ).free (leastA ((takN ds ks j).2.getD (bestK (takN ds ks j).2 ks) DZ).free))))) := rfl
  have hxs := hinv.small HOK.out.small
  have hxv := hinv.v
  have hxl := hinv.like.len
  have HRK : Hid (restK (takN ds ks j).2 id (List.range ds.length) = ks) := by
    have := rest_like hinv.like id
    rw [hxl] at this
    exact this.trans HKE.out
  generalize (takN ds ks j).2 = x at hinv hbl hfl hpos HTS hxs hxv hxl HO HRK
  generalize (takN ds ks j).1 = ps at hpl HTS HP
  have HSC : Hid (scK x ks = (((bestK x ks : Nat) : Int), frC x (bestK x ks))) := sc_best hpos hk0
  obtain ⟨b, hb⟩ : ∃ b, bestK x ks = b := ⟨_, rfl⟩
  rw [hb] at hbl hfl HTS HSC
  obtain ⟨G, rfl, hbG, hGl⟩ := HO.out.blk (by omega)
  have HGB : Hid (w.heap.size ≤ G ∧ G < wr.heap.size) := ⟨hbG, hGl⟩
  have HXA : Hid (∀ w', Below wr.heap.size wr w' → DevsAt w' (some ⟨G, 0, none⟩) x) := fun w' h => by
    obtain ⟨_, _, e, hd, _⟩ := HO.out.at
    injection e with e _ _
    subst e
    exact hd.below h
  have HXV : Hid (AllV x) := hxv
  have HXS : Hid (SmallL x) := hxs
  have HXL : Hid (x.length = ds.length) := hxl
  have HXB : Hid (0 < (x.getD b DZ).free.length ∧ vOk (x.getD b DZ).free = true ∧ SmallD (x.getD b DZ) ∧ b < x.length) := ⟨hfl, hxv b hbl, hxs.2 _ (getD_mem DZ hbl), hbl⟩
  have HPL : Hid (ps.length = j) := hpl
  have hbd : b < ds.length := by omega
  clear hinv hpl hk0 hbl hfl hpos hxs hxv hxl hb hbG hGl
  have HOO : Hid (∀ w', Below wr.heap.size wr w' → OwnDevs w' w.heap.size (.slice (some ⟨G, 0, none⟩) ds.length c1) x) := fun w' h => HO.out.below h
  have HPO : Hid (∀ w', Below wr.heap.size wr w' → OwnPtrs w' w.heap.size u9 ps) := fun w' h => own_below HP.out h
  go_wp2_with fail
  go_loopw [11, 12, 13] (fun s11 s12 s13 wi => ∃ (i : Nat) (q m : Int), i ≤ ds.length ∧ s11 = .int .i64 q ∧ s12 = .int .i64 m ∧ s13 = .int .i64 i ∧ Hid (scK x (restK x id (List.range i)) = (q, m)) ∧ Hid (Below wr.heap.size wr wi))
    (fun _ _ s13 _ => ds.length - (intOf s13).toNat)
  case atStart => exact ⟨0, -1, 0, by omega, rfl, rfl, rfl, rfl, nwR wr⟩
  case round =>
  obtain ⟨i, q, m, hil, rfl, rfl, rfl, HSK, HBI⟩ := hrel
  by_cases hid : i < ds.length
  case pos =>
    have hidi : (i : Int) < (ds.length : Int) := by omega
    have hi0 : (0 : Int) ≤ (i : Int) := by omega
    have hix : i < x.length := by have := HXL.out; omega
    obtain ⟨af, cf, al, cl, ⟨c0, d1, c2, d3⟩, hf, _⟩ := (HXA.out wr HBI.out).at0 hix
    have HCC2 : Hid (Calls Try.prog 48 #[.slice af (x.getD i DZ).free.length cf] wr fun e w' => e = .returned (.int .i64 (frC x i)) ∧ Below wr.heap.size wr w') := by
      have := refCount_any af (x.getD i DZ).free cf wr hf.1 (HXS.out.2 _ (getD_mem DZ hix)).1 (HXV.out i hix)
      rwa [show frC x i = sumLen (x.getD i DZ).free from if_pos (HXV.out i hix)]
    have HSN : Hid (restK x id (List.range (i + 1)) = restK x id (List.range i) ++ (if (x.getD i DZ).id = id then [] else [i])) := restK_snoc x id i
    have HC0 : Hid (∀ w', Below wr.heap.size wr w' → w'.cell? ⟨G, i * 4, none⟩ = some (.int .i64 (x.getD i DZ).id)) := fun w' h => (h.cell (p := ⟨G, i * 4, none⟩) (block_lt_of_cell c0)).trans c0
    clear hf d1 d3 hix
    generalize (x.getD i DZ).free.length = nf at c2 HCC2
    go_wp2_with fail
    refine HCC2.out.mono ?_
    rintro e w5 ⟨rfl, hb5⟩
    have HB5 := nwT HBI.out hb5
    have y0 := HC0.out w5 hb5
    have HFR : Hid (frC x i = frC x i) := rfl
    obtain ⟨fr, hfr⟩ : ∃ fr, frC x i = fr := ⟨_, rfl⟩
    have HFC : Hid (frC x i = fr) := hfr
    rw [hfr]
    clear c0 c2 hb5 HC0 HCC2 HFR hfr
    by_cases he : (x.getD i DZ).id = id
    · have HS2 : Hid (scK x (restK x id (List.range (i + 1))) = (q, m)) := by
        show _ = _
        rw [HSN.out, if_pos he, List.append_nil]; exact HSK.out
      rw [he] at y0
      clear he
      go_wp2_with fail
      go_roundw
      case rel => exact ⟨i + 1, q, m, by omega, rfl, rfl, by go_num, HS2, HB5⟩
      case measure => simp [intOf]; omega
    · have hef : ((x.getD i DZ).id != id) = true := by simpa using he
      have HS2 : Hid (scK x (restK x id (List.range (i + 1))) = (if m < fr then ((i : Int), fr) else (q, m))) := by
        show _ = _
        rw [HSN.out, if_neg he, scK_snoc, HSK.out]
        unfold scF
        rw [HFC.out]
      generalize (x.getD i DZ).id = did at y0 hef
      clear he
      by_cases hmf : m < fr
      · have HS3 : Hid (scK x (restK x id (List.range (i + 1))) = ((i : Int), fr)) := by have := HS2.out; rw [if_pos hmf] at this; exact this
        clear HS2
        go_wp2_with fail
        go_roundw
        case rel => exact ⟨i + 1, i, fr, by omega, rfl, rfl, by go_num, HS3, HB5⟩
        case measure => simp [intOf]; omega
      · have HS3 : Hid (scK x (restK x id (List.range (i + 1))) = (q, m)) := by have := HS2.out; rw [if_neg hmf] at this; exact this
        clear HS2
        go_wp2_with fail
        go_roundw
        case rel => exact ⟨i + 1, q, m, by omega, rfl, rfl, by go_num, HS3, HB5⟩
        case measure => simp [intOf]; omega
  case neg =>
  have hidi : ¬ (i : Int) < (ds.length : Int) := by omega
  have hqb : q = (b : Int) := by
    have h1 := HSK.out
    rw [show i = ds.length from by omega, HRK.out, HSC.out] at h1
    injection h1 with h1 _
    exact h1.symm
  subst hqb
  clear HSK HSC
  have hb0 : (0 : Int) ≤ (b : Int) := by omega
  have hbi : (b : Int) < (ds.length : Int) := by omega
  obtain ⟨af, cf, al, cl, ⟨c0, d1, c2, d3⟩, hf, _⟩ := (HXA.out wr HBI.out).at0 HXB.out.2.2.2
  obtain ⟨bf, of, rfl, s0, _⟩ := hf.1 0 HXB.out.1
  obtain ⟨at', hat⟩ : ∃ at', leastA (x.getD b DZ).free = at' := ⟨_, rfl⟩
  have s0' : wr.cell? ⟨bf, of, none⟩ = some (.int .i64 at') := by rw [← hat]; simpa [leastA] using s0
  have hfl : (0 : Int) < ((x.getD b DZ).free.length : Int) := by have := HXB.out.1; omega
  have HLO := least_ok HXB.out.2.1 HXB.out.1
  rw [hat] at HLO HTS
  have HVA : Hid (vOk [(at', 1)] = true) := HLO.2.1
  obtain ⟨bid, hbid⟩ : ∃ bid, (x.getD b DZ).id = bid := ⟨_, rfl⟩
  have HBID : Hid ((x.getD b DZ).id = bid) := hbid
  rw [hbid] at c0 HTS
  obtain ⟨fl, hfle⟩ : ∃ fl, (x.getD b DZ).free = fl := ⟨_, rfl⟩
  have HFLE : Hid ((x.getD b DZ).free = fl) := hfle
  rw [hfle] at c2 hfl
  have HPA : Hid (OwnPtrs (wr.alloc (.cells #[.int .i64 bid, .int .i64 at'] 45)) w.heap.size u9 ps) := HPO.out _ (nwA HBI.out _)
  have HOA : Hid (OwnDevs (wr.alloc (.cells #[.int .i64 bid, .int .i64 at'] 45)) w.heap.size (.slice (some ⟨G, 0, none⟩) ds.length c1) x) := HOO.out _ (nwA HBI.out _)
  have HBA : Hid (Below w.heap.size w (wr.alloc (.cells #[.int .i64 bid, .int .i64 at'] 45))) := nwA (nwT HB.out HBI.out) _
  have hsz : w.heap.size ≤ (wr.alloc (.cells #[.int .i64 bid, .int .i64 at'] 45)).heap.size := HBA.out.size
  have hpj := HPL.out
  have hc3 : ps.length + 1 ≤ maxLen := by unfold maxLen; omega
  have hc4 : (ps.length + 1) * 16 ≤ 140737488355328 := by omega
  clear d1 d3 hf s0 hat HLO hbid hfle hpj
  go_wp2_with (at_builtin; refine wpList_append_own _ rfl (.tmp 62) (.tmp 70) 30 rfl w.heap.size 45 i0 (.agg #[.int .i64 0, .int .i64 0]) 2 16 Try.underlying30 hi hz0 hz1 hz2 rfl (by decide) u9 ps.length (flat ps) rfl HPA.out ⟨wr.heap.size, 0, none⟩ 1 1 [.int .i64 bid, .int .i64 at'] rfl rfl (cell_two' _ _ _ _) (by simp [Value.oneCell']) hc3 hc4 hsz ?_; intro v' w10 hown hgrow _; refine unstop ?_)
  unfold Stop
  have HP10 : Hid (OwnPtrs w10 w.heap.size v' (ps ++ [(bid, at')])) := OwnPtrs.snoc hown
  have HO10 : Hid (OwnDevs w10 w.heap.size (.slice (some ⟨G, 0, none⟩) ds.length c1) x) := HOA.out.other HPA.out hgrow
  have HB10 : Hid (Below w.heap.size w w10) := HBA.out.grown hgrow hsz (fun q e => (World.ownsRow.lt HPA.out q e).1)
  clear hown hgrow HPA HOA HBA c0 c2 s0' hsz hfl HXA HPO HOO
  obtain ⟨af, cf, al, cl, cs, htag, hbG, _, _, c2, _, hseg⟩ := HO10.out.dev HXL.out.symm hbd
  rw [HFLE.out] at c2 hseg
  obtain ⟨nl, hnl⟩ : ∃ nl, lessA fl at' = nl := ⟨_, rfl⟩
  have HJ : Hid (Calls Try.prog 49 #[.slice af fl.length cf, .slice (some ⟨w10.heap.size, 0, none⟩) 1 1, .int .i64 1] (w10.alloc (.cells #[.int .i64 at', .int .i64 1] 67)) fun e w'' => (∃ v, e = .returned v ∧ OwnSegs w'' w.heap.size v nl) ∧ Below w10.heap.size w10 w'') := by
    have hg0 : w10.grownBy (w10.alloc (.cells #[.int .i64 at', .int .i64 1] 67)) (some G) := gbOf (nwA (nwR w10) _) _
    obtain ⟨h1, _⟩ := hseg _ hg0
    obtain ⟨_, _, e1, v1⟩ := h1.segV
    injection e1 with e1 _ _
    subst e1
    refine (refTwo1_any af (some ⟨w10.heap.size, 0, none⟩) fl [(at', 1)] cf 1 _ v1.1 (segs1 w10 at' 1 67) (by rw [← HFLE.out]; exact HXB.out.2.2.1.1) (by simp) (by rw [← HFLE.out]; exact HXB.out.2.1) HVA.out).mono ?_
    rintro e w'' ⟨v, rfl, ho, hb⟩
    rw [show segsOf (fun k => memS fl k && !memS [(at', 1)] k) = nl from hnl] at ho
    exact ⟨⟨v, rfl, own_le ho (by have := HB10.out.size; simp; omega)⟩, nwT (nwA (nwR w10) _) hb⟩
  have HFIN : Hid (∀ wD v1, Below w10.heap.size w10 wD → OwnSegs wD w.heap.size v1 nl → OwnDevs (wD.setCell ⟨G, b * 4 + 2, none⟩ v1) w.heap.size (.slice (some ⟨G, 0, none⟩) ds.length c1) (takN ds ks (j + 1)).2 ∧ OwnPtrs (wD.setCell ⟨G, b * 4 + 2, none⟩ v1) w.heap.size v' (takN ds ks (j + 1)).1 ∧ Below w.heap.size w (wD.setCell ⟨G, b * 4 + 2, none⟩ v1)) := fun wD v1 h hv => by
    have h0 := HO10.out.below h
    have h1 := h0.setF HXL.out.symm hbd hv
    have hp := OwnPtrs.devs (own_below HP10.out h) h0 (gb_setg (i := b * 4 + 2) (gbOf (nwR wD) _) v1)
    rw [HTS.out, HFLE.out, hnl]
    exact ⟨h1, hp, (nwT HB10.out h).setCell (p := ⟨G, b * 4 + 2, none⟩) hbG _⟩
  have HCL : Hid (∀ w', Below w10.heap.size w10 w' → w'.cell? ⟨G, b * 4 + 2, none⟩ = some (.slice af fl.length cf) ∧ w'.frozen? ⟨G, b * 4 + 2, none⟩ = false) := fun w' h =>
    ⟨(h.cell (p := ⟨G, b * 4 + 2, none⟩) (block_lt_of_cell c2)).trans c2, Lib.frozen_of_heap ((h.block _ (Array.getElem?_eq_some_iff.1 htag).1).trans htag) _⟩
  obtain ⟨c2, _⟩ := HCL.out (w10.alloc (.cells #[.int .i64 at', .int .i64 1] 67)) (nwA (nwR w10) _)
  obtain ⟨k2, _⟩ := HCL.out w10 (nwR w10)
  clear hseg htag hnl HO10 HP10 HB10
  go_wp2_with fail
  refine HJ.out.mono ?_
  rintro e w12 ⟨⟨v1, rfl, ho1⟩, hb12⟩
  obtain ⟨a1', c1', rfl, _⟩ := ho1.segV
  have HRES := HFIN.out w12 _ hb12 ho1
  obtain ⟨p2, pfz⟩ := HCL.out w12 hb12
  have HRH : Hid (OwnDevs (w12.setCell ⟨G, b * 4 + 2, none⟩ (.slice a1' nl.length c1')) w.heap.size (.slice (some ⟨G, 0, none⟩) ds.length c1) (takN ds ks (j + 1)).2 ∧ OwnPtrs (w12.setCell ⟨G, b * 4 + 2, none⟩ (.slice a1' nl.length c1')) w.heap.size v' (takN ds ks (j + 1)).1 ∧ Below w.heap.size w (w12.setCell ⟨G, b * 4 + 2, none⟩ (.slice a1' nl.length c1'))) := HRES
  clear HRES ho1 hb12 HJ HFIN HCL c2 k2
  go_wp2_with fail
  go_roundw
  case rel => exact ⟨j + 1, by omega, by go_num, HRH.out.1, HRH.out.2.1, HRH.out.2.2⟩
  case measure => simp [intOf]; omega

end Go.Proofs.Ytheomnafmjmpdaa
