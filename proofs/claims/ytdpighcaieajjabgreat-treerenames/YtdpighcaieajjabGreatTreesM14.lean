/- Laid together: Place, Vacant, Sortl, Putm, Relist, Addw, Putw. -/
import Derived.Test.YtdpighcaieajjabGreatTreesM13
import Derived.Sort.OwnSortedInts
import Derived.Maps.AppendAt
import Derived.Deep.RegionLaw
/- Where a link stands, or might stand, by the program. -/
namespace Go.Proofs.YtdpighcaieajjabGreat
open Go.RowKit

def lastN (L : List ByteArray) : ByteArray := L.getD (L.length - 1) ByteArray.empty
def PlaceIs (d : VolD) (r : Nat × Int) (last : ByteArray) (B : Nat) (e : Ending) (w' : World) : Prop :=
  ∃ v, e = .returned (.tuple #[v, .int .i64 r.2]) ∧ (r.2 = 0 → ∃ pv, NodeOf w' B d (.agg #[pv]) r.1 ∧ v = .agg #[pv, .string last]) ∧ (r.2 ≠ 0 → v = .agg #[.pointer none, .string ⟨#[]⟩])
theorem placeIs_no {d : VolD} {r : Nat × Int} {last : ByteArray} {B q : Nat} {w' : World} {er : Int} (h : r = (q, er)) (he : er ≠ 0) : PlaceIs d r last B (.returned (.tuple #[.agg #[.pointer none, .string ⟨#[]⟩], .int .i64 er])) w' := by
  subst h; exact ⟨_, rfl, fun h => absurd h he, fun _ => rfl⟩
theorem placeIs_yes {d : VolD} {r : Nat × Int} {last : ByteArray} {B q : Nat} {w' : World} {pv : Value} (h : r = (q, 0)) (hn : NodeOf w' B d (.agg #[pv]) q) : PlaceIs d r last B (.returned (.tuple #[.agg #[pv, .string last], .int .i64 0])) w' := by
  subst h; exact ⟨_, rfl, fun _ => ⟨pv, hn, rfl⟩, fun h => absurd rfl h⟩
theorem two_cells {w : World} {g : Nat} {c0 c1 : Value} {t : TypeId} (h : w.heap[g]? = some (.cells #[c0, c1] t (0, 0))) : w.cell? ⟨g, 0, none⟩ = some c0 ∧ w.cell? ⟨g, 1, none⟩ = some c1 ∧ ∀ o, w.frozen? ⟨g, o, none⟩ = false :=
  ⟨by rw [Lib.cell_of_heap h]; rfl, by rw [Lib.cell_of_heap h]; rfl, fun o => Lib.frozen_of_heap h o⟩
theorem two_read {w : World} {g : Nat} {c0 c1 d0 d1 : Value} {t : TypeId} (h : w.heap[g]? = some (.cells #[c0, c1] t (0, 0))) (ob : Obj) :
    let W := ((w.setCell ⟨g, 0, none⟩ d0).setCell ⟨g, 1, none⟩ d1).alloc ob
    W.cell? ⟨g, 0, none⟩ = some d0 ∧ W.cell? ⟨g, 1, none⟩ = some d1 := by
  intro W
  have h1 := heap_setCell_same w g 0 _ t d0 h
  have h2 := heap_setCell_same _ g 1 _ t d1 h1
  have h5 : ((w.setCell ⟨g, 0, none⟩ d0).setCell ⟨g, 1, none⟩ d1).heap[g]? = some (.cells #[d0, d1] t (0, 0)) := by simpa using h2
  have h6 : W.heap[g]? = some (.cells #[d0, d1] t (0, 0)) := (Lib.alloc_old _ _ _ (Array.getElem?_eq_some_iff.1 h5).1).trans h5
  obtain ⟨a0, a1, _⟩ := two_cells h6
  exact ⟨a0, a1⟩

set_option maxRecDepth 100000 in
set_option maxHeartbeats 4000000 in
theorem place_any (B : Nat) (d : VolD) (p : ByteArray) (L : List ByteArray) (w : World) (hv : VolAt w B d) (hs : SmallV d) (hsd : Sound d.files) (h1 : atI d.files 1 = some 0) (hp : pathN p = some L) (hL : 0 < L.length) :
    Calls Tryz.prog 77 #[.pointer (some ⟨B, 0, none⟩), .string p] w fun e w' => PlaceIs d (parF d.files L) (lastN L) B e w' ∧ Below w.heap.size w w' := by
  have HV : Hid (VolAt w B d) := hv
  have HS : Hid (SmallV d) := hs
  have HSD : Hid (Sound d.files) := hsd
  have HA1 : Hid (atI d.files 1 = some 0) := h1
  have hxs := pathN_some hp
  have HPO : Hid (parentO p = some (tx (L.take (L.length - 1)), lastN L)) := by
    show _ = _
    unfold parentO
    rw [hp]
    simp only
    rw [if_neg (by omega)]; rfl
  have HUP : Hid (pathN (tx (L.take (L.length - 1))) = some (L.take (L.length - 1))) := by
    show _ = _
    rw [pathN_tx (fun x hx => hxs.2.1 x (List.mem_of_mem_take hx)), if_pos]
    have := hxs.2.2; rw [List.length_take]; omega
  have HLE : Hid ((L.take (L.length - 1)).length ≤ 100000) := by show _ ≤ _; have := hxs.2.2; rw [List.length_take]; omega
  have HPF : Hid (parF d.files L = (if (findF d.files 0 (L.take (L.length - 1))).2 = 0 then (if (d.files.getD (findF d.files 0 (L.take (L.length - 1))).1 f0).dir then findF d.files 0 (L.take (L.length - 1)) else (0, 7)) else (0, (findF d.files 0 (L.take (L.length - 1))).2))) := rfl
  have hBl : B < w.heap.size := by obtain ⟨_, _, h, _⟩ := hv; exact (Array.getElem?_eq_some_iff.1 h).1
  clear hs hsd h1 hp hxs
  generalize lastN L = last at HPO
  generalize tx (L.take (L.length - 1)) = up at HPO HUP
  generalize L.take (L.length - 1) = U at HUP HLE HPF
  generalize parF d.files L = R at HPF
  go_enter Tryz.func77, Tryz.ntmps77
  go_wp2_with fail
  have HB0 : Hid (Below w.heap.size w (w.alloc (.cells #[.pointer none, .string ⟨#[]⟩] 103))) := nwA (nwR w) _
  have HR0 : Hid ((w.alloc (.cells #[.pointer none, .string ⟨#[]⟩] 103)).heap[w.heap.size]? = some (.cells #[.pointer none, .string ⟨#[]⟩] 103 (0, 0))) := heap_alloc_new w _
  refine (parent_any p _).mono ?_
  rintro e w1 ⟨rfl, hb1⟩
  have HB1 : Hid (Below w.heap.size w w1) := nwT HB0.out hb1
  have HR1 : Hid (w1.heap[w.heap.size]? = some (.cells #[.pointer none, .string ⟨#[]⟩] 103 (0, 0))) := (hb1.block _ (Array.getElem?_eq_some_iff.1 HR0.out).1).trans HR0.out
  rw [HPO.out]
  simp only [parentV]
  clear hb1 HB0 HR0 HPO
  go_wp2_with fail
  refine (findp_any B d up U _ (HV.out.below HB1.out) HS.out HSD.out HA1.out HUP.out HLE.out).mono ?_
  rintro e w2 ⟨⟨u, rfl, hyes, hnone⟩, hb2⟩
  have HB2 : Hid (Below w.heap.size w w2) := nwT HB1.out hb2
  have HR2 : Hid (w2.heap[w.heap.size]? = some (.cells #[.pointer none, .string ⟨#[]⟩] 103 (0, 0))) := (hb2.block _ (Array.getElem?_eq_some_iff.1 HR1.out).1).trans HR1.out
  have hrl := (Array.getElem?_eq_some_iff.1 HR2.out).1
  obtain ⟨r0, r1, rf⟩ := two_cells HR2.out
  clear hb2 HB1 HR1
  generalize findF d.files 0 U = r at hyes hnone HPF
  obtain ⟨q, er⟩ := r
  simp only at hyes hnone HPF
  by_cases her : er = 0
  · subst her
    have hno := hyes rfl
    have HNO : Hid (NodeOf w2 B d u q) := hno
    have hnv := hno.val (HV.out.below HB2.out)
    obtain ⟨b, o, rfl, hf⟩ := hnv
    obtain ⟨ab, cb, al, cl, ⟨_, c1, _, _, _⟩, _, _⟩ := hf
    have hbl := block_lt_of_cell c1
    clear hyes hnone hno
    cases hd : (d.files.getD q f0).dir
    · rw [hd] at c1
      have HR : Hid (R = (0, 7)) := by show _ = _; rw [HPF.out, hd]; rfl
      go_wp2_with fail
      obtain ⟨k0, k1⟩ := two_read (d0 := .pointer none) (d1 := .string ⟨#[]⟩) HR2.out (.cells #[.pointer (some ⟨b, o, none⟩)] 96)
      refine bodyPost_ret (v := .tuple #[.agg #[.pointer none, .string ⟨#[]⟩], .int .i64 7]) (by simp [results, Tryz.results77, go_sem, k0, k1]) rfl ⟨placeIs_no HR.out (by decide), ?_⟩
      exact nwA ((HB2.out.setCell (p := ⟨w.heap.size, 0, none⟩) (Nat.le_refl _) _).setCell (p := ⟨w.heap.size, 1, none⟩) (Nat.le_refl _) _) _
    · rw [hd] at c1
      have HR : Hid (R = (q, 0)) := by show _ = _; rw [HPF.out, hd]; rfl
      go_wp2_with fail
      obtain ⟨k0, k1⟩ := two_read (d0 := .pointer (some ⟨b, o, none⟩)) (d1 := .string last) HR2.out (.cells #[.pointer (some ⟨b, o, none⟩)] 96)
      refine bodyPost_ret (v := .tuple #[.agg #[.pointer (some ⟨b, o, none⟩), .string last], .int .i64 0]) (by simp [results, Tryz.results77, go_sem, k0, k1]) rfl ⟨placeIs_yes HR.out ?_, ?_⟩
      · obtain ⟨a', o', c', g1, g2, g3⟩ := HNO.out
        refine ⟨a', o', c', ?_, g2, g3⟩
        rw [Lib.alloc_old _ _ _ (by simp; exact (Array.getElem?_eq_some_iff.1 g1).1), Below.heap_setCell _ _ _ _ (by show B ≠ w.heap.size; omega), Below.heap_setCell _ _ _ _ (by show B ≠ w.heap.size; omega)]
        exact g1
      · exact nwA ((HB2.out.setCell (p := ⟨w.heap.size, 0, none⟩) (Nat.le_refl _) _).setCell (p := ⟨w.heap.size, 1, none⟩) (Nat.le_refl _) _) _
  · have hu := hnone her
    subst hu
    have HR : Hid (R = (0, er)) := by show _ = _; rw [HPF.out, if_neg her]
    clear hyes hnone
    go_wp2_with fail
    obtain ⟨k0, k1⟩ := two_read (d0 := .pointer none) (d1 := .string ⟨#[]⟩) HR2.out (.cells #[.pointer none] 96)
    refine bodyPost_ret (v := .tuple #[.agg #[.pointer none, .string ⟨#[]⟩], .int .i64 er]) (by simp [results, Tryz.results77, go_sem, k0, k1]) rfl ⟨placeIs_no HR.out her, ?_⟩
    exact nwA ((HB2.out.setCell (p := ⟨w.heap.size, 0, none⟩) (Nat.le_refl _) _).setCell (p := ⟨w.heap.size, 1, none⟩) (Nat.le_refl _) _) _

end Go.Proofs.YtdpighcaieajjabGreat

/- A place that nothing has, by the program. -/
namespace Go.Proofs.YtdpighcaieajjabGreat
open Go.RowKit

theorem linkedI_is (l : List LinkD) (s : ByteArray) : (linkedI l s).2 = (namedI l s).isSome := by
  unfold linkedI; cases namedI l s <;> rfl

set_option maxRecDepth 100000 in
set_option maxHeartbeats 1000000 in
theorem isTaken_any (pv : Value) (f : FileD) (s : ByteArray) (w : World) (hv : NodeVal w (.agg #[pv]) f) (hs : SmallF f) :
    Calls Tryz.prog 90 #[.agg #[pv, .string s]] w fun e w' => e = .returned (.bool (namedI f.list s).isSome) ∧ Below w.heap.size w w' := by
  have HV : Hid (NodeVal w (.agg #[pv]) f) := hv
  have HS : Hid (SmallF f) := hs
  obtain ⟨b, o, e, _⟩ := hv
  simp only [Value.agg.injEq, Array.mk.injEq, List.cons.injEq, and_true] at e
  subst e
  have HB : Hid (Below w.heap.size w (w.alloc (.cells #[.pointer (some ⟨b, o, none⟩), .string s] 103))) := nwA (nwR w) _
  have HC : Hid (Calls Tryz.prog 89 #[.agg #[.pointer (some ⟨b, o, none⟩)], .string s] (w.alloc (.cells #[.pointer (some ⟨b, o, none⟩), .string s] 103)) fun e w' => e = .returned (.tuple #[.int .i64 (linkedI f.list s).1, .bool (linkedI f.list s).2]) ∧ Below (w.alloc (.cells #[.pointer (some ⟨b, o, none⟩), .string s] 103)).heap.size (w.alloc (.cells #[.pointer (some ⟨b, o, none⟩), .string s] 103)) w') := linked_any _ f s _ (HV.out.below HB.out) HS.out
  have HI : Hid ((linkedI f.list s).2 = (namedI f.list s).isSome) := linkedI_is _ _
  generalize (namedI f.list s).isSome = t at HI
  generalize linkedI f.list s = r at HC HI
  obtain ⟨r1, r2⟩ := r
  simp only at HC HI
  clear hs
  go_enter Tryz.func90, Tryz.ntmps90
  go_wp2_with fail
  refine HC.out.mono ?_
  rintro e w1 ⟨rfl, hb1⟩
  have HB1 : Hid (Below w.heap.size w w1) := nwT HB.out hb1
  clear hb1
  go_wp2_with fail
  go_ret
  exact ⟨ret_bool HI.out, HB1.out⟩

set_option maxRecDepth 100000 in
set_option maxHeartbeats 1000000 in
theorem isFull_any (v : Value) (f : FileD) (w : World) (hv : NodeVal w v f) :
    Calls Tryz.prog 73 #[v] w fun e w' => e = .returned (.bool (decide (8 ≤ f.list.length))) ∧ Below w.heap.size w w' := by
  obtain ⟨b, o, rfl, hf⟩ := hv
  obtain ⟨ab, cb, al, cl, ⟨c0, c1, c2, c3, c4⟩, _, _, _⟩ := hf
  have hb : b < w.heap.size := block_lt_of_cell c4
  have HE : Hid (decide ((8 : Int) ≤ (f.list.length : Int)) = decide (8 ≤ f.list.length)) := by
    show _ = _
    rw [Bool.eq_iff_iff]; simp only [decide_eq_true_eq]; omega
  go_enter Tryz.func73, Tryz.ntmps73
  go_wp2_with fail
  go_ret
  exact ⟨ret_bool HE.out, nwA (nwR w) _⟩

def vacF (fs : List FileD) (L : List ByteArray) : Nat × Int :=
  if L.length = 0 then (0, 4) else if (parF fs L).2 = 0 then (if (namedI (fs.getD (parF fs L).1 f0).list (lastN L)).isSome then (0, 4) else parF fs L) else (0, (parF fs L).2)

set_option maxRecDepth 100000 in
set_option maxHeartbeats 4000000 in
theorem vacant_any (B : Nat) (d : VolD) (p : ByteArray) (L : List ByteArray) (w : World) (hv : VolAt w B d) (hs : SmallV d) (hsd : Sound d.files) (h1 : atI d.files 1 = some 0) (hp : pathN p = some L) :
    Calls Tryz.prog 72 #[.pointer (some ⟨B, 0, none⟩), .string p] w fun e w' => PlaceIs d (vacF d.files L) (lastN L) B e w' ∧ Below w.heap.size w w' := by
  have HV : Hid (VolAt w B d) := hv
  have HS : Hid (SmallV d) := hs
  have HB0 : Hid (Below w.heap.size w (w.alloc (.cells #[.pointer none, .string ⟨#[]⟩] 103))) := nwA (nwR w) _
  have HR0 : Hid ((w.alloc (.cells #[.pointer none, .string ⟨#[]⟩] 103)).heap[w.heap.size]? = some (.cells #[.pointer none, .string ⟨#[]⟩] 103 (0, 0))) := heap_alloc_new w _
  have hBl : B < w.heap.size := by obtain ⟨_, _, h, _⟩ := hv; exact (Array.getElem?_eq_some_iff.1 h).1
  by_cases hr : p.toList = [47]
  · have hL : L = [] := by have := pathN_root hr; rw [hp] at this; injection this
    have HR : Hid (vacF d.files L = (0, 4)) := by show _ = _; rw [hL]; rfl
    have hrb : (p.toList == [47]) = true := beq_iff_eq.2 hr
    clear hp hs hsd h1
    go_enter Tryz.func72, Tryz.ntmps72
    go_wp2_with fail
    refine bodyPost_ret (v := .tuple #[.agg #[.pointer none, .string ⟨#[]⟩], .int .i64 4]) (by simp [results, Tryz.results72, go_sem]) rfl ⟨placeIs_no HR.out (by decide), ?_⟩
    exact nwA (nwR w) _
  · have hrb : (p.toList == [47]) = false := beq_eq_false_iff_ne.2 hr
    have hL : 0 < L.length := by
      by_cases e : L.length = 0
      · have h0 := List.length_eq_zero_iff.1 e
        have h2 := (pathN_some hp).1
        rw [h0] at h2
        exact absurd (by rw [← h2, Lib.toList_data]; rfl) hr
      · omega
    have HVF : Hid (vacF d.files L = if (parF d.files L).2 = 0 then (if (namedI (d.files.getD (parF d.files L).1 f0).list (lastN L)).isSome then (0, 4) else parF d.files L) else (0, (parF d.files L).2)) := by
      show _ = _; unfold vacF; rw [if_neg (by omega)]
    have HPL : Hid (∀ w', Below w.heap.size w w' → Calls Tryz.prog 77 #[.pointer (some ⟨B, 0, none⟩), .string p] w' fun e w'' => PlaceIs d (parF d.files L) (lastN L) B e w'' ∧ Below w'.heap.size w' w'') := fun w' h => place_any B d p L w' (hv.below h) hs hsd h1 hp hL
    clear hp hs hsd h1 hr hL
    generalize vacF d.files L = V at HVF
    generalize lastN L = last at HVF HPL
    generalize parF d.files L = R at HVF HPL
    go_enter Tryz.func72, Tryz.ntmps72
    go_wp2_with fail
    refine (HPL.out _ HB0.out).mono ?_
    rintro e w2 ⟨⟨u, rfl, hyes, hnone⟩, hb2⟩
    have HB2 : Hid (Below w.heap.size w w2) := nwT HB0.out hb2
    have HR2 : Hid (w2.heap[w.heap.size]? = some (.cells #[.pointer none, .string ⟨#[]⟩] 103 (0, 0))) := (hb2.block _ (Array.getElem?_eq_some_iff.1 HR0.out).1).trans HR0.out
    have hrl := (Array.getElem?_eq_some_iff.1 HR2.out).1
    obtain ⟨r0, r1, rf⟩ := two_cells HR2.out
    clear hb2 HB0 HR0
    obtain ⟨q, er⟩ := R
    simp only at hyes hnone HVF
    by_cases her : er = 0
    · subst her
      obtain ⟨pv, hno, rfl⟩ := hyes rfl
      have HNO : Hid (NodeOf w2 B d (.agg #[pv]) q) := hno
      have hnv := hno.val (HV.out.below HB2.out)
      have hql : q < d.files.length := by obtain ⟨_, _, _, _, h, _⟩ := hno; exact h
      have HSM : Hid (SmallF (d.files.getD q f0)) := HS.out.2 _ (getD_mem hql)
      have HNV : Hid (NodeVal w2 (.agg #[pv]) (d.files.getD q f0)) := hnv
      obtain ⟨b, o, e, _⟩ := hnv
      simp only [Value.agg.injEq, Array.mk.injEq, List.cons.injEq, and_true] at e
      subst e
      have HB3 : Hid (Below w.heap.size w (w2.alloc (.cells #[.pointer (some ⟨b, o, none⟩), .string last] 103))) := nwA HB2.out _
      clear hyes hnone hno
      go_wp2_with fail
      refine (isTaken_any _ (d.files.getD q f0) last _ (HNV.out.below (nwA (nwR w2) _)) HSM.out).mono ?_
      rintro e w3 ⟨rfl, hb3⟩
      have HB4 : Hid (Below w.heap.size w w3) := nwT HB3.out hb3
      have HR3 : Hid (w3.heap[w.heap.size]? = some (.cells #[.pointer none, .string ⟨#[]⟩] 103 (0, 0))) := (hb3.block _ (by simp; omega)).trans ((Lib.alloc_old _ _ _ hrl).trans HR2.out)
      obtain ⟨s0, s1, sf⟩ := two_cells HR3.out
      obtain ⟨m0, m1, mf⟩ := two_cells ((hb3.block w2.heap.size (by simp)).trans (heap_alloc_new w2 (.cells #[.pointer (some ⟨b, o, none⟩), .string last] 103)))
      have HNO3 : Hid (NodeOf w3 B d (.agg #[.pointer (some ⟨b, o, none⟩)]) q) := HNO.out.below (nwT (nwA (nwR w2) _) hb3)
      clear hb3 r0 r1 rf
      cases ht : (namedI (d.files.getD q f0).list last).isSome
      · have HR : Hid (V = (q, 0)) := by show _ = _; rw [HVF.out, ht]; rfl
        go_wp2_with fail
        have h5 := heap_setCell_same _ w.heap.size 1 _ 103 (.string last) (heap_setCell_same w3 w.heap.size 0 _ 103 (.pointer (some ⟨b, o, none⟩)) HR3.out)
        have h6 : ((w3.setCell ⟨w.heap.size, 0, none⟩ (.pointer (some ⟨b, o, none⟩))).setCell ⟨w.heap.size, 1, none⟩ (.string last)).heap[w.heap.size]? = some (.cells #[.pointer (some ⟨b, o, none⟩), .string last] 103 (0, 0)) := by simpa using h5
        obtain ⟨k0, k1, _⟩ := two_cells h6
        refine bodyPost_ret (v := .tuple #[.agg #[.pointer (some ⟨b, o, none⟩), .string last], .int .i64 0]) (by simp [results, Tryz.results72, go_sem, k0, k1]) rfl ⟨placeIs_yes HR.out ?_, ?_⟩
        · obtain ⟨a', o', c', g1, g2, g3⟩ := HNO3.out
          refine ⟨a', o', c', ?_, g2, g3⟩
          rw [Below.heap_setCell _ _ _ _ (by show B ≠ w.heap.size; omega), Below.heap_setCell _ _ _ _ (by show B ≠ w.heap.size; omega)]
          exact g1
        · exact (HB4.out.setCell (p := ⟨w.heap.size, 0, none⟩) (Nat.le_refl _) _).setCell (p := ⟨w.heap.size, 1, none⟩) (Nat.le_refl _) _
      · have HR : Hid (V = (0, 4)) := by show _ = _; rw [HVF.out, ht]; rfl
        go_wp2_with fail
        have h5 := heap_setCell_same _ w.heap.size 1 _ 103 (.string ⟨#[]⟩) (heap_setCell_same w3 w.heap.size 0 _ 103 (.pointer none) HR3.out)
        have h6 : ((w3.setCell ⟨w.heap.size, 0, none⟩ (.pointer none)).setCell ⟨w.heap.size, 1, none⟩ (.string ⟨#[]⟩)).heap[w.heap.size]? = some (.cells #[.pointer none, .string ⟨#[]⟩] 103 (0, 0)) := by simpa using h5
        obtain ⟨k0, k1, _⟩ := two_cells h6
        refine bodyPost_ret (v := .tuple #[.agg #[.pointer none, .string ⟨#[]⟩], .int .i64 4]) (by simp [results, Tryz.results72, go_sem, k0, k1]) rfl ⟨placeIs_no HR.out (by decide), ?_⟩
        exact (HB4.out.setCell (p := ⟨w.heap.size, 0, none⟩) (Nat.le_refl _) _).setCell (p := ⟨w.heap.size, 1, none⟩) (Nat.le_refl _) _
    · have hu := hnone her
      subst hu
      have HR : Hid (V = (0, er)) := by show _ = _; rw [HVF.out, if_neg her]
      clear hyes hnone
      go_wp2_with fail
      obtain ⟨k0, k1⟩ := two_read (d0 := .pointer none) (d1 := .string ⟨#[]⟩) HR2.out (.cells #[.pointer none, .string ⟨#[]⟩] 103)
      refine bodyPost_ret (v := .tuple #[.agg #[.pointer none, .string ⟨#[]⟩], .int .i64 er]) (by simp [results, Tryz.results72, go_sem, k0, k1]) rfl ⟨placeIs_no HR.out her, ?_⟩
      exact nwA ((HB2.out.setCell (p := ⟨w.heap.size, 0, none⟩) (Nat.le_refl _) _).setCell (p := ⟨w.heap.size, 1, none⟩) (Nat.le_refl _) _) _

end Go.Proofs.YtdpighcaieajjabGreat

/- Links sorted by the library. -/
namespace Go.Proofs.YtdpighcaieajjabGreat
open Go.RowKit Go.Sort

theorem ltS_eq (a b : ByteArray) : ltS a b = decide (a.toList < b.toList) := by unfold ltS; exact bytesLess_eq _ _
theorem ltS_irrefl (a : ByteArray) : ltS a a = false := by rw [ltS_eq]; exact decide_eq_false (List.lt_irrefl _)
theorem ltS_trans {a b c : ByteArray} (h1 : ltS a b = true) (h2 : ltS b c = true) : ltS a c = true := by
  rw [ltS_eq] at *
  exact decide_eq_true (List.lt_trans (of_decide_eq_true h1) (of_decide_eq_true h2))
theorem ltS_total {a b : ByteArray} (h1 : ltS a b = false) (h2 : ltS b a = false) : a = b := by
  rw [ltS_eq] at *
  have h1 := of_decide_eq_false h1
  have h2 := of_decide_eq_false h2
  have e : a.toList = b.toList := List.le_antisymm (List.not_lt.1 h2) (List.not_lt.1 h1)
  have e1 := Lib.toList_data a; have e2 := Lib.toList_data b
  rw [e1, e2] at e
  cases a; cases b; simp at e; rw [e]
def cmpS (a b : ByteArray) : Int := if ltS a b then -1 else if ltS b a then 1 else 0

set_option maxRecDepth 100000 in
set_option maxHeartbeats 400000 in
theorem isNaN_any (s : ByteArray) (w : World) : Calls Tryz.prog 124 #[.string s] w fun e w' => e = .returned (.bool false) ∧ w' = w := by
  go_enter Tryz.func124, Tryz.ntmps124
  go_wp2_with fail
  go_ret
  exact ⟨by simp, rfl⟩

set_option maxRecDepth 100000 in
set_option maxHeartbeats 400000 in
theorem compare_any (a b : ByteArray) (w : World) : Calls Tryz.prog 110 #[.string a, .string b] w fun e w' => e = .returned (.int .i64 (cmpS a b)) ∧ w' = w := by
  cases h1 : ltS a b
  · have g1 : Op.bytesLess a.toList b.toList = false := h1
    cases h2 : ltS b a
    · have g2 : (a.toList == b.toList) = true := by rw [ltS_total h1 h2]; simp
      have HR : Hid (cmpS a b = 0) := by show _ = _; unfold cmpS; rw [h1, h2]; rfl
      go_enter Tryz.func110, Tryz.ntmps110
      go_wp2_with (go_at_call 124; refine (isNaN_any _ _).mono ?_; rintro e w' ⟨rfl, rfl⟩)
      go_ret
      exact ⟨ret_int HR.out.symm, rfl⟩
    · have g2 : (a.toList == b.toList) = false := beq_eq_false_iff_ne.2 (fun e => by
        rw [ltS_eq, e] at h2
        exact List.lt_irrefl _ (of_decide_eq_true h2))
      have HR : Hid (cmpS a b = 1) := by show _ = _; unfold cmpS; rw [h1, h2]; rfl
      go_enter Tryz.func110, Tryz.ntmps110
      go_wp2_with (go_at_call 124; refine (isNaN_any _ _).mono ?_; rintro e w' ⟨rfl, rfl⟩)
      go_ret
      exact ⟨ret_int HR.out.symm, rfl⟩
  · have g1 : Op.bytesLess a.toList b.toList = true := h1
    have HR : Hid (cmpS a b = -1) := by show _ = _; unfold cmpS; rw [h1]; rfl
    go_enter Tryz.func110, Tryz.ntmps110
    go_wp2_with (go_at_call 124; refine (isNaN_any _ _).mono ?_; rintro e w' ⟨rfl, rfl⟩)
    go_ret
    exact ⟨ret_int HR.out.symm, rfl⟩

instance : Inhabited LinkD := ⟨lk0⟩
def encL (x : LinkD) : List Value := [.string x.1, .int .i64 x.2]

set_option maxRecDepth 100000 in
set_option maxHeartbeats 400000 in
theorem closure_any (x y : LinkD) (W : World) : Calls Tryz.prog 109 #[.agg #[.string x.1, .int .i64 x.2], .agg #[.string y.1, .int .i64 y.2]] W fun e w' => e = .returned (.int .i64 (cmpS x.1 y.1)) ∧ ∃ q os', w' = grow (W.drewN q) os' := by
  go_enter Tryz.func109, Tryz.ntmps109
  go_wp2_with (go_at_call 110; refine (compare_any _ _ _).mono ?_; rintro e w' ⟨rfl, rfl⟩)
  go_ret
  exact ⟨rfl, 0, _, by rw [alloc_eq_grow, alloc_eq_grow, grow_grow]; rfl⟩
theorem hlen_any (n : Nat) (W : World) (h : n ≤ 12) : Calls Tryz.prog 123 #[.int .u64 n] W fun e w' => (∃ l : Int, e = .returned (.int .i64 l)) ∧ w' = W :=
  (Tryz.bits_Len n W (by omega) (by omega)).mono fun _ _ ⟨he, hw⟩ => ⟨⟨_, he⟩, hw⟩
theorem ltOf_cmp (x y : LinkD) : ltOf (fun a b : LinkD => cmpS a.1 b.1) x y = ltS x.1 y.1 := by
  show decide (cmpS x.1 y.1 < 0) = _
  unfold cmpS
  cases ltS x.1 y.1
  · cases ltS y.1 x.1 <;> rfl
  · rfl
theorem swo_cmp : SWO (ltOf (fun a b : LinkD => cmpS a.1 b.1)) := by
  refine ⟨fun x => by rw [ltOf_cmp]; exact ltS_irrefl _, fun x y z h1 h2 => ?_, fun x y z h1 h2 => ?_⟩
  · rw [ltOf_cmp] at *; exact ltS_trans h1 h2
  · rw [ltOf_cmp] at *
    rw [ltS_eq] at *
    have h1 := List.not_lt.1 (of_decide_eq_false h1)
    have h2 := List.not_lt.1 (of_decide_eq_false h2)
    exact decide_eq_false (List.not_lt.2 (List.le_trans h2 h1))
theorem flatK_lflat (l : List LinkD) : (flatK encL 2 l.toArray).toList = lflat l := by
  apply List.ext_getElem?
  intro j
  by_cases hj : j < l.length * 2
  · have hq : j / 2 < l.length := by omega
    obtain ⟨g0, g1⟩ := lflat_get l (j / 2) hq
    have e : l.toArray[j / 2]! = l.getD (j / 2) lk0 := by simp [hq, List.getD]
    rw [Array.getElem?_toList]
    have h2 : (flatK encL 2 l.toArray)[j]? = some ((encL l.toArray[j / 2]!)[j % 2]!) := by simp [flatK, hj]
    rw [h2, e]
    rcases Nat.mod_two_eq_zero_or_one j with hm | hm
    · have e2 : j / 2 * 2 = j := by omega
      rw [e2] at g0; rw [g0, hm]; rfl
    · have e2 : j / 2 * 2 + 1 = j := by omega
      rw [e2] at g1; rw [g1, hm]; rfl
  · rw [List.getElem?_eq_none (by simp [flatK]; omega), List.getElem?_eq_none (by rw [lflat_len]; omega)]

set_option maxRecDepth 100000 in
/-- links of one's own, sorted where they stand -/
theorem sort_any (base : Nat) (v : Value) (l : List LinkD) (w : World) (ho : OwnLinks w base v l) (hl : l.length ≤ 12) (hp : 0 < l.length) :
    Calls Tryz.prog 108 #[v, .func (.func 109) #[] #[]] w fun e w' => e = .returned (.tuple #[]) ∧ (∃ l' : List LinkD, l'.length = l.length ∧ l'.Perm l ∧ (∀ i j, i < j → j < l'.length → ltS (l'.getD j lk0).1 (l'.getD i lk0).1 = false) ∧ OwnLinks w' base v l') ∧ w.grownBy w' v.ownBlock := by
  have hlen := ho.1
  rcases ho.2 with ⟨_, h0⟩ | ⟨g, cap, cur, rfl, hb, hh, h1, h2, h3, h4⟩
  · omega
  have hg : g < w.heap.size := (Array.getElem?_eq_some_iff.1 hh).1
  have hcs : l.length * 2 ≤ cur.size := by omega
  have hH : HoldsK encL 2 w g 0 l.toArray := by
    intro j hj
    have hj' : j < l.length * 2 := by simpa using hj
    refine ⟨?_, by simp [World.frozen?, hh]⟩
    have e1 : (cur.toList.take (l.length * 2))[j]? = (lflat l)[j]? := by rw [h4]
    rw [List.getElem?_take_of_lt hj'] at e1
    have e2 : (flatK encL 2 l.toArray)[j]? = (lflat l)[j]? := by rw [← Array.getElem?_toList, flatK_lflat]
    have e3 : (flatK encL 2 l.toArray)[j]? = some (flatK encL 2 l.toArray)[j]! := by
      have hs : j < (flatK encL 2 l.toArray).size := by simpa using hj'
      rw [Array.getElem?_eq_getElem hs, getElem!_pos _ j hs]
    rw [Lib.cell_of_heap hh, Nat.zero_add]
    show cur[j]? = some _
    rw [← Array.getElem?_toList, e1, ← e2, e3]; rfl
  have eg : ∀ args w, (callFunc 109 args).run Tryz.prog w = .ok (.enter 109 args) w := enters_of Tryz.func109 (by kernel_rfl) rfl
  have hcon := AnyQ.slices_SortFunc_small_sorted Tryz.sortLk 2 Tryz.isAgg63 Tryz.sizeOf63 encL (fun _ => rfl) (fun x v hv => by simp [encL] at hv; rcases hv with rfl | rfl <;> rfl) (fun x y => cmpS x.1 y.1) 109 #[] swo_cmp g 0 cap l.toArray w eg (fun m os dk _ x y => closure_any x y _) hH hg (by simpa using hl) hlen_any
  have hcon2 : Calls Tryz.prog 108 #[.slice (some ⟨g, 0, none⟩) l.length cap, .func (.func 109) #[] #[]] w fun e w' => e = .returned (.tuple #[]) ∧ ∃ d' n os, PermIn 0 l.toArray.size l.toArray d' ∧ SortedIn (ltOf fun x y : LinkD => cmpS x.1 y.1) 0 l.toArray.size d' ∧ w' = sortWorldK encL 2 w g 0 n d' os := hcon
  refine hcon2.mono ?_
  rintro e w' ⟨rfl, d', n, os, ⟨p1, _, p3⟩, hsrt, rfl⟩
  have hd : d'.size = l.length := by simpa using p1
  have hde : d'.toList.length = l.length := by simpa using hd
  have hx : d' = d'.toList.toArray := by simp
  refine ⟨rfl, ⟨d'.toList, hde, ?_, ?_, ?_, .inr ⟨g, cap, putCells id 0 (flatK encL 2 d') cur, by rw [hde], hb, ?_, by omega, h2, by simp [putCells, h3], ?_⟩⟩, ?_⟩
  · have e1 : d'.extract 0 l.toArray.size = d' := by rw [← p1]; simp
    have e2 : l.toArray.extract 0 l.toArray.size = l.toArray := by simp
    rw [e1, e2] at p3
    simpa using p3
  · intro i j hij hj
    have := hsrt i j (Nat.zero_le _) hij (by simpa [hde] using hj)
    rw [ltOf_cmp] at this
    have hi2 : i < d'.toList.length := by omega
    have e1 : d'[j]! = d'.toList.getD j lk0 := by
      have hs : j < d'.size := by simpa using hj
      rw [getElem!_pos d' j hs]; simp [List.getD, hs]
    have e2 : d'[i]! = d'.toList.getD i lk0 := by
      have hs : i < d'.size := by simpa using hi2
      rw [getElem!_pos d' i hs]; simp [List.getD, hs]
    rw [← e1, ← e2]; exact this
  · rw [lflat_len]
  · unfold sortWorldK putRowK
    rw [heap_grow_old _ _ (by simpa using hg)]
    simp [putRow, mapBlock, Sort.ahead, Array.getElem?_modify, hh, onCells]
  · rw [hde]
    have e0 : lflat d'.toList = (flatK encL 2 d').toList := by
      have := flatK_lflat d'.toList
      rw [← hx] at this; exact this.symm
    rw [e0]
    have hfs : (flatK encL 2 d').size = l.length * 2 := by rw [size_flatK, hd]
    apply List.ext_getElem?
    intro j
    by_cases hj : j < l.length * 2
    · rw [List.getElem?_take_of_lt hj, Array.getElem?_toList, Array.getElem?_toList]
      have hs : j < (flatK encL 2 d').size := by omega
      have hc : j < cur.size := by omega
      rw [Array.getElem?_eq_getElem hs]
      simp only [putCells, Array.getElem?_mapIdx, Array.getElem?_eq_getElem hc, Option.map_some, Nat.zero_add, Nat.sub_zero, id]
      rw [if_pos ⟨Nat.zero_le _, hs⟩, getElem!_pos _ j hs]
    · rw [List.getElem?_take_eq_none (by omega), List.getElem?_eq_none (by simp; omega)]
  · refine ⟨rfl, rfl, rfl, ?_, fun k hk hne => ?_⟩
    · unfold sortWorldK putRowK; simp
    · unfold sortWorldK putRowK
      rw [heap_grow_old _ _ (by simpa using hk)]
      have : g ≠ k := fun e => hne (by rw [← e]; rfl)
      simp [putRow, mapBlock, Sort.ahead, Array.getElem?_modify, this]

end Go.Proofs.YtdpighcaieajjabGreat

/- A link more, in its order: plain mathematics; ownership where one list has turned. -/
namespace Go.Proofs.YtdpighcaieajjabGreat
open Go.RowKit Go.Sort

def StrictL (l : List LinkD) : Prop := ∀ i j, i < j → j < l.length → ltS (l.getD i lk0).1 (l.getD j lk0).1 = true
theorem NamesOk.strict {l : List LinkD} (h : NamesOk l) : StrictL l := by
  intro i j hij hj
  induction j with
  | zero => omega
  | succ j ih =>
    have h1 := (h.2 (j + 1) hj).2 (by omega)
    simp only [Nat.add_sub_cancel] at h1
    by_cases e : i = j
    · subst e; exact h1
    · exact ltS_trans (ih (by omega) (by omega)) h1
theorem StrictL.pair {l : List LinkD} (h : StrictL l) : l.Pairwise (fun a b => ltS a.1 b.1 = true) := by
  rw [List.pairwise_iff_getElem]
  intro i j hi hj hij
  have := h i j hij hj
  simpa [List.getD, hi, hj] using this
theorem pair_uniq : ∀ {a b : List LinkD}, a.Pairwise (fun a b => ltS a.1 b.1 = true) → b.Pairwise (fun a b => ltS b.1 a.1 = false) → b.Perm a → b = a := by
  intro a
  induction a with
  | nil => intro b _ _ hp; exact List.Perm.eq_nil hp
  | cons x a ih =>
    intro b ha hb hp
    cases b with
    | nil => exact absurd hp.length_eq (by simp)
    | cons y b =>
      rw [List.pairwise_cons] at ha hb
      have hxy : x = y := by
        by_cases e : x = y
        · exact e
        · have h1 : x ∈ b := by
            have : x ∈ y :: b := hp.mem_iff.2 (by simp)
            rcases List.mem_cons.1 this with h | h
            · exact absurd h e
            · exact h
          have h2 : y ∈ a := by
            have : y ∈ x :: a := hp.mem_iff.1 (by simp)
            rcases List.mem_cons.1 this with h | h
            · exact absurd h.symm e
            · exact h
          have h3 := hb.1 x h1
          have h4 := ha.1 y h2
          rw [h3] at h4; cases h4
      subst hxy
      rw [ih ha.2 hb.2 ((List.perm_cons x).1 hp)]
theorem putL_perm (l : List LinkD) (x : LinkD) : (putL l x).Perm (l ++ [x]) := by
  unfold putL
  have h : (l.take (posL l x.1) ++ [x] ++ l.drop (posL l x.1)).Perm (l.take (posL l x.1) ++ (l.drop (posL l x.1) ++ [x])) := by
    rw [List.append_assoc]
    exact List.Perm.append_left _ List.perm_append_comm
  rw [← List.append_assoc, List.take_append_drop] at h
  exact h
theorem posL_le (l : List LinkD) (n : ByteArray) : posL l n ≤ l.length := by unfold posL; exact List.IsPrefix.length_le (List.takeWhile_prefix _)
theorem take_pos (l : List LinkD) (n : ByteArray) : l.take (posL l n) = l.takeWhile fun x => ltS x.1 n := by
  unfold posL
  induction l with
  | nil => rfl
  | cons y l ih =>
    rw [List.takeWhile_cons]
    split
    · simp [ih]
    · simp
theorem drop_pos (l : List LinkD) (n : ByteArray) : l.drop (posL l n) = l.dropWhile fun x => ltS x.1 n := by
  unfold posL
  induction l with
  | nil => rfl
  | cons y l ih =>
    rw [List.takeWhile_cons, List.dropWhile_cons]
    split
    · simpa using ih
    · simp
theorem putL_pair {l : List LinkD} {x : LinkD} (h : l.Pairwise (fun a b => ltS a.1 b.1 = true)) (hn : ∀ y ∈ l, y.1 ≠ x.1) : (putL l x).Pairwise (fun a b => ltS a.1 b.1 = true) := by
  unfold putL
  rw [take_pos, drop_pos]
  induction l with
  | nil => simp
  | cons y l ih =>
    rw [List.pairwise_cons] at h
    have h2 := ih h.2 (fun z hz => hn z (by simp [hz]))
    rw [List.takeWhile_cons, List.dropWhile_cons]
    cases hy : ltS y.1 x.1
    · simp only [Bool.false_eq_true, if_false, List.nil_append, List.singleton_append, List.pairwise_cons]
      have hxy : ltS x.1 y.1 = true := by
        cases e : ltS x.1 y.1
        · exact absurd (ltS_total hy e) (hn y (by simp))
        · rfl
      refine ⟨fun z hz => ?_, h.1, h.2⟩
      rcases List.mem_cons.1 hz with rfl | hz
      · exact hxy
      · exact ltS_trans hxy (h.1 z hz)
    · simp only [if_true, List.cons_append, List.pairwise_cons]
      refine ⟨fun z hz => ?_, h2⟩
      rcases List.mem_append.1 hz with hz | hz
      · rcases List.mem_append.1 hz with hz | hz
        · exact h.1 z ((List.takeWhile_prefix _).subset hz)
        · simp at hz; subst hz; exact hy
      · exact h.1 z ((List.dropWhile_suffix _).subset hz)
theorem sorted_put {l b : List LinkD} {x : LinkD} (h : StrictL l) (hn : ∀ y ∈ l, y.1 ≠ x.1) (hp : b.Perm (l ++ [x])) (hs : ∀ i j, i < j → j < b.length → ltS (b.getD j lk0).1 (b.getD i lk0).1 = false) : b = putL l x := by
  refine pair_uniq (putL_pair h.pair hn) ?_ (hp.trans (putL_perm l x).symm)
  rw [List.pairwise_iff_getElem]
  intro i j hi hj hij
  have := hs i j hij hj
  simpa [List.getD, hi, hj] using this

theorem step_append_at {P : Program} {ops : Array Oper} {o : Oper} {a : Act} {w : World} {K : Act → World → Prop} {Q : Exit → Act → World → Prop} {E : Prop}
    (hg : o.guard = none) (s x : Operand) (t : TypeId) (hop : o.op = Op.call { callee := Callee.builtin Builtin.append, args := #[s, x], argTypes := #[t, t] })
    (base : Nat) (e : TypeId) (i : TypeInfo) (z : Value) (size bytes : Nat) (h1 : P.underlying t = some (.slice e)) (h2 : P.info? e = some i) (h3 : i.zero = some z) (h4 : i.size = size) (h5 : i.bytes = bytes) (h6 : z.cells.size = size) (h7 : 0 < size)
    (v : Value) (n : Nat) (xs : List Value) (hs : a.eval s = v) (hown : w.ownsRow base e size v n xs)
    (ad : Addr) (m c : Nat) (news : List Value) (hx : a.eval x = .slice (some ad) m c) (hn : news.length = m * size) (hc : ∀ j u, news[j]? = some u → w.cell? (ad.add j) = some u) (h1c : ∀ u ∈ news, u.oneCell' = true)
    (b1 : n + m ≤ maxLen) (b2 : (n + m) * bytes ≤ 140737488355328) (hbase : base ≤ w.heap.size)
    (hK : ∀ v' w', w'.ownsRow base e size v' (n + m) (xs ++ news) → w.grownBy w' v.ownBlock → (v'.ownBlock = v.ownBlock ∨ v'.ownBlock = some w.heap.size) → K (a.put o.dst v') w') :
    if Region.wanted o (yielded ops a.tmps) = true then Oper.wp P o a w K Q else E := by
  have hw : Region.wanted o (yielded ops a.tmps) = true := by simp [Region.wanted, hg]
  rw [if_pos hw]
  obtain ⟨v', w', hrun, r1, r2, _, r3⟩ := run_append_own_at (P := P) w base t o.type e i z size bytes h1 h2 h3 h4 h5 h6 h7 v n xs hown ad m c news hn hc h1c b1 b2 hbase
  unfold Oper.wp
  simp [execOp, hop, resolve, invoke, builtin, hs, hx, hrun, Result.andThen]
  exact hK _ _ r1 r2 r3

/-- blocks of other kinds than files and links are as they were -/
def KeepT (w w' : World) : Prop := w.heap.size ≤ w'.heap.size ∧ ∀ (k : Nat) (cs : Array Value) (t : TypeId) (fr : Nat × Nat), w.heap[k]? = some (Obj.cells cs t fr) → t ≠ 59 → t ≠ 63 → w'.heap[k]? = some (Obj.cells cs t fr)
theorem KeepT.trans {a b c : World} (h : KeepT a b) (k : KeepT b c) : KeepT a c := ⟨Nat.le_trans h.1 k.1, fun i cs t fr e h1 h2 => k.2 i cs t fr (h.2 i cs t fr e h1 h2) h1 h2⟩
theorem KeepT.of_below {w w' : World} (h : Below w.heap.size w w') : KeepT w w' := ⟨h.size, fun i _ _ _ e _ _ => (h.block i (Array.getElem?_eq_some_iff.1 e).1).trans e⟩
theorem KeepT.of_gb {w w' : World} {base e size n : Nat} {v : Value} {xs : List Value} (h : w.grownBy w' v.ownBlock) (ho : w.ownsRow base e size v n xs) (he : e = 59 ∨ e = 63) : KeepT w w' := by
  refine ⟨h.size, fun i cs t fr hi h1 h2 => (h.block i (Array.getElem?_eq_some_iff.1 hi).1 (fun eq => ?_)).trans hi⟩
  obtain ⟨cs', hk⟩ := own_tag ho i eq.symm
  rw [hk] at hi
  simp only [Option.some.injEq, Obj.cells.injEq] at hi
  rcases he with rfl | rfl
  · exact h1 hi.2.1.symm
  · exact h2 hi.2.1.symm
theorem KeepT.of_set {w : World} {g o : Nat} {cs : Array Value} {fr : Nat × Nat} {t : Nat} (v : Value) (hg : w.heap[g]? = some (.cells cs t fr)) (ht : t = 59 ∨ t = 63) : KeepT w (w.setCell ⟨g, o, none⟩ v) := by
  refine ⟨by simp, fun i cs' t' fr' hi h1 h2 => (heap_setCell_other w ⟨g, o, none⟩ i v (fun e => ?_)).trans hi⟩
  have e2 : i = g := e
  rw [e2, hg] at hi
  simp only [Option.some.injEq, Obj.cells.injEq] at hi
  rcases ht with rfl | rfl
  · exact h1 hi.2.1.symm
  · exact h2 hi.2.1.symm

end Go.Proofs.YtdpighcaieajjabGreat

/- A link more in a directory, by the program. -/
namespace Go.Proofs.YtdpighcaieajjabGreat
open Go.RowKit Go.Sort

theorem own_keep {w w' : World} {B e s n : Nat} {v : Value} {xs : List Value} {r : Option Nat} (h : w.ownsRow B e s v n xs) (hg : w.grownBy w' r) (hne : v.ownBlock = none ∨ v.ownBlock ≠ r) : w'.ownsRow B e s v n xs := h.kept hg hne
theorem ne_of_tags {w : World} {B B' e e' s s' n n' : Nat} {v v' : Value} {xs xs' : List Value} (h : w.ownsRow B e s v n xs) (h' : w.ownsRow B' e' s' v' n' xs') (hne : e ≠ e') : v.ownBlock = none ∨ v.ownBlock ≠ v'.ownBlock := by
  cases hv : v.ownBlock with
  | none => exact .inl rfl
  | some k =>
    refine .inr (fun eq => ?_)
    obtain ⟨c1, k1⟩ := own_tag h k hv
    obtain ⟨c2, k2⟩ := own_tag h' k eq.symm
    rw [k1] at k2
    simp only [Option.some.injEq, Obj.cells.injEq] at k2
    exact hne k2.2.1
/-- files of one's own, where the list of one has turned -/
theorem relist {w w3 w5 : World} {base g cap n q : Nat} {gs : List FV} {x : FV} {v' : Value} {l1 l2 : List LinkD}
    (hrow : w.ownsRow base 59 5 (.slice (some ⟨g, 0, none⟩) n cap) gs.length (fflat gs)) (hown : ∀ y ∈ gs, OwnFV w base y) (hap : Apart gs) (hx : gs[q]? = some x)
    (hg3 : w.grownBy w3 x.lv.ownBlock) (hv3 : w3.ownsRow base 63 2 v' l1.length (lflat l1)) (hat : v'.ownBlock = x.lv.ownBlock ∨ v'.ownBlock = some w.heap.size)
    (hg5 : (w3.setCell ⟨g, q * 5 + 4, none⟩ v').grownBy w5 v'.ownBlock) (hv5 : OwnLinks w5 base v' l2) :
    OwnFilesX w5 base (.slice (some ⟨g, 0, none⟩) n cap) ((gs.map FV.d).set q (withList x.d l2)) ∧ KeepT w w5 ∧ Below base w w5 := by
  obtain ⟨hq, rfl⟩ := List.getElem?_eq_some_iff.1 hx
  have hn : n = gs.length := by
    rcases hrow.2 with ⟨h1, _⟩ | ⟨g', cap', cur, h1, _⟩
    · simp at h1
    · simp at h1; exact h1.2.1
  subst hn
  have hqm : gs[q] ∈ gs := List.getElem_mem hq
  have hlq := (hown _ hqm).2
  have r3 := own_keep hrow hg3 (ne_of_tags hrow hlq (by decide))
  obtain ⟨cs3, hh3⟩ := own_tag r3 g rfl
  have r4 := (r3.stored (q * 5 + 4) v').1
  obtain ⟨cs4, hh4⟩ := own_tag r4 g rfl
  have v4 : (w3.setCell ⟨g, q * 5 + 4, none⟩ v').ownsRow base 63 2 v' l1.length (lflat l1) := rowset2 hv3 hh3 (by decide) _
  have r5 := own_keep r4 hg5 (ne_of_tags r4 v4 (by decide))
  have far : ∀ (j : Nat) (y : FV), j ≠ q → gs[j]? = some y → (y.lv.ownBlock = none ∨ y.lv.ownBlock ≠ gs[q].lv.ownBlock) ∧ (y.lv.ownBlock = none ∨ y.lv.ownBlock ≠ v'.ownBlock) := by
    intro j y hj hy
    have hym : y ∈ gs := List.mem_of_getElem? hy
    have a1 : y.lv.ownBlock = none ∨ y.lv.ownBlock ≠ gs[q].lv.ownBlock := by
      rcases Nat.lt_or_gt_of_ne hj with h | h
      · exact hap j q h y gs[q] hy (List.getElem?_eq_getElem hq)
      · rcases hap q j h gs[q] y (List.getElem?_eq_getElem hq) hy with e | e
        · cases hz : y.lv.ownBlock with
          | none => exact .inl rfl
          | some k => exact .inr (by rw [e]; simp)
        · exact .inr (fun e2 => e e2.symm)
    refine ⟨a1, ?_⟩
    rcases hat with e | e
    · rw [e]; exact a1
    · cases hz : y.lv.ownBlock with
      | none => exact .inl rfl
      | some k =>
        refine .inr (fun e2 => ?_)
        rw [e] at e2
        injection e2 with e2
        have := (World.ownsRow.lt (hown y hym).2 k hz).2
        omega
  have keepY : ∀ (j : Nat) (y : FV), j ≠ q → gs[j]? = some y → OwnFV w5 base y := by
    intro j y hj hy
    have hym : y ∈ gs := List.mem_of_getElem? hy
    obtain ⟨f1, f2⟩ := far j y hj hy
    have b1 := own_keep (hown y hym).1 hg3 (ne_of_tags (hown y hym).1 hlq (by decide))
    have b2 : OwnInts (w3.setCell ⟨g, q * 5 + 4, none⟩ v') base y.bv y.d.blocks := rowset2 b1 hh3 (by decide) _
    have c1 := own_keep (hown y hym).2 hg3 f1
    have c2 : OwnLinks (w3.setCell ⟨g, q * 5 + 4, none⟩ v') base y.lv y.d.list := rowset2 c1 hh3 (by decide) _
    exact ⟨own_keep b2 hg5 (ne_of_tags b2 v4 (by decide)), own_keep c2 hg5 f2⟩
  have hbq : OwnInts w5 base gs[q].bv gs[q].d.blocks := by
    have b1 := own_keep (hown _ hqm).1 hg3 (ne_of_tags (hown _ hqm).1 hlq (by decide))
    have b2 : OwnInts (w3.setCell ⟨g, q * 5 + 4, none⟩ v') base gs[q].bv gs[q].d.blocks := rowset2 b1 hh3 (by decide) _
    exact own_keep b2 hg5 (ne_of_tags b2 v4 (by decide))
  refine ⟨⟨gs.set q ⟨withList gs[q].d l2, gs[q].bv, v'⟩, ?_, ?_, ?_, ?_⟩, ?_, ?_⟩
  · rw [List.map_set]
  · have e := fflat_set gs q v' l2 hq
    have e2 : (⟨withList gs[q].d l2, gs[q].bv, v'⟩ : FV) = ⟨⟨gs[q].d.id, gs[q].d.dir, gs[q].d.size, gs[q].d.blocks, l2⟩, gs[q].bv, v'⟩ := rfl
    rw [e2, e, List.length_set]
    exact r5
  · intro y hy
    obtain ⟨j, hj, rfl⟩ := List.getElem_of_mem hy
    rw [List.length_set] at hj
    by_cases e : j = q
    · subst e
      rw [List.getElem_set_self]
      exact ⟨hbq, hv5⟩
    · rw [List.getElem_set_ne (by omega)]
      exact keepY j _ e (List.getElem?_eq_getElem hj)
  · intro i j hij a b ha hb
    by_cases e1 : i = q
    · subst e1
      rw [List.getElem?_set_self hq] at ha
      injection ha with ha
      rw [List.getElem?_set_ne (by omega)] at hb
      obtain ⟨_, f2⟩ := far j b (by omega) hb
      rw [← ha]
      rcases f2 with e | e
      · cases hz : v'.ownBlock with
        | none => exact .inl rfl
        | some k => exact .inr (by rw [e]; simp)
      · exact .inr (fun e2 => e e2.symm)
    · rw [List.getElem?_set_ne (by omega)] at ha
      by_cases e2 : j = q
      · subst e2
        rw [List.getElem?_set_self hq] at hb
        injection hb with hb
        obtain ⟨_, f2⟩ := far i a (by omega) ha
        rw [← hb]; exact f2
      · rw [List.getElem?_set_ne (by omega)] at hb
        exact hap i j hij a b ha hb
  · exact ((KeepT.of_gb hg3 hlq (.inr rfl)).trans (KeepT.of_set v' hh3 (.inl rfl))).trans (KeepT.of_gb hg5 v4 (.inr rfl))
  · have hgb : base ≤ g := (World.ownsRow.lt hrow g rfl).1
    have hbw : base ≤ w.heap.size := by have := (World.ownsRow.lt hrow g rfl).2; omega
    have h1 : Below base w w3 := (Below.refl _ _).grown hg3 hbw (fun k hk => (World.ownsRow.lt hlq k hk).1)
    have h2 : Below base w (w3.setCell ⟨g, q * 5 + 4, none⟩ v') := h1.setCell (p := ⟨g, q * 5 + 4, none⟩) hgb _
    have hsz : base ≤ (w3.setCell ⟨g, q * 5 + 4, none⟩ v').heap.size := by have := hg3.size; simp; omega
    exact h2.grown hg5 hsz (fun k hk => (World.ownsRow.lt v4 k hk).1)

end Go.Proofs.YtdpighcaieajjabGreat

/- A link more in a directory, by the program: the walk. -/
namespace Go.Proofs.YtdpighcaieajjabGreat
open Go.RowKit Go.Sort

set_option maxRecDepth 100000 in
set_option maxHeartbeats 4000000 in
theorem nadd_any (base g cap q lb : Nat) (fs : List FileD) (s : ByteArray) (id : Int) (W w : World) (hX : OwnFilesX W base (.slice (some ⟨g, 0, none⟩) fs.length cap) fs) (hW : Below W.heap.size W w) (hq : q < fs.length) (hl : (fs.getD q f0).list.length ≤ 11)
    (hst : StrictL (fs.getD q f0).list) (hnn : ∀ y ∈ (fs.getD q f0).list, y.1 ≠ s) (hlb : w.heap[lb]? = some (.cells #[.string s, .int .i64 id] 63 (0, 0))) :
    Calls Tryz.prog 91 #[.agg #[.pointer (some ⟨g, q * 5, none⟩)], .slice (some ⟨lb, 0, none⟩) 1 1] w fun e w' => e = .returned (.tuple #[]) ∧ OwnFilesX w' base (.slice (some ⟨g, 0, none⟩) fs.length cap) (fs.set q (withList (fs.getD q f0) (putL (fs.getD q f0).list (s, id)))) ∧ KeepT w w' ∧ Below base w w' := by
  obtain ⟨gs, hd, hrow, hown, hap⟩ := hX.below hW
  have hlen : gs.length = fs.length := by rw [← hd, List.length_map]
  obtain ⟨x, hx⟩ : ∃ x, gs[q]? = some x := ⟨gs[q]'(by omega), List.getElem?_eq_getElem (by omega)⟩
  have hxd : fs.getD q f0 = x.d := by
    rw [← hd]; obtain ⟨h1, h2⟩ := List.getElem?_eq_some_iff.1 hx; simp [List.getD, h1, h2]
  rw [hxd] at hl hst hnn ⊢
  have hxm : x ∈ gs := List.mem_of_getElem? hx
  have HB0 : Below w.heap.size w (w.alloc (.cells #[.pointer (some ⟨g, q * 5, none⟩)] 96)) := nwA (nwR w) _
  have HROW : Hid ((w.alloc (.cells #[.pointer (some ⟨g, q * 5, none⟩)] 96)).ownsRow base 59 5 (.slice (some ⟨g, 0, none⟩) fs.length cap) gs.length (fflat gs)) := own_below hrow HB0
  have HOWN : Hid (∀ y ∈ gs, OwnFV (w.alloc (.cells #[.pointer (some ⟨g, q * 5, none⟩)] 96)) base y) := fun y hy => (hown y hy).below HB0
  have HAP : Hid (Apart gs) := hap
  have HX : Hid (gs[q]? = some x) := hx
  have HD : Hid (gs.map FV.d = fs) := hd
  have HBX : Hid ((w.alloc (.cells #[.pointer (some ⟨g, q * 5, none⟩)] 96)).heap[w.heap.size]? = some (.cells #[.pointer (some ⟨g, q * 5, none⟩)] 96 (0, 0))) := heap_alloc_new w _
  have HLB : Hid ((w.alloc (.cells #[.pointer (some ⟨g, q * 5, none⟩)] 96)).heap[lb]? = some (.cells #[.string s, .int .i64 id] 63 (0, 0))) := (HB0.block _ (Array.getElem?_eq_some_iff.1 hlb).1).trans hlb
  have HK0 : Hid (KeepT w (w.alloc (.cells #[.pointer (some ⟨g, q * 5, none⟩)] 96))) := KeepT.of_below HB0
  have hbg := World.ownsRow.lt hrow g rfl
  have HBB : Hid (Below base w (w.alloc (.cells #[.pointer (some ⟨g, q * 5, none⟩)] 96))) := (Below.refl _ _).alloc (by omega) _
  have HST : Hid (StrictL x.d.list) := hst
  have HNN : Hid (∀ y ∈ x.d.list, y.1 ≠ s) := hnn
  obtain ⟨i0, hi, hz0, hz1, hz2⟩ := info_parts Tryz.info63
  clear hX hW hd hrow hown hap hx hlb hst hnn HB0
  go_enter Tryz.func91, Tryz.ntmps91
  go_wp2_with fail
  generalize hW0 : w.alloc (.cells #[.pointer (some ⟨g, q * 5, none⟩)] 96) = W0 at HROW HOWN HBX HLB HK0 HBB ⊢
  have hPl : w.heap.size < W0.heap.size := (Array.getElem?_eq_some_iff.1 HBX.out).1
  have hlbl : lb < W0.heap.size := (Array.getElem?_eq_some_iff.1 HLB.out).1
  clear hW0
  obtain ⟨_, _, _, _, f4⟩ := fflat_get gs q x HX.out
  have c4 : W0.cell? ⟨g, q * 5 + 4, none⟩ = some x.lv := by
    have := HROW.out.cells (g := g) rfl _ _ f4
    rw [Addr.add_lit, Nat.zero_add] at this
    exact this
  have HOL : Hid (OwnLinks W0 base x.lv x.d.list) := (HOWN.out x hxm).2
  have hol := HOL.out
  obtain ⟨al, cl, hlv, _, _⟩ := hol.at
  have HLV : Hid (x.lv = .slice al x.d.list.length cl) := hlv
  rw [hlv] at c4
  have hB1 : x.d.list.length + 1 ≤ maxLen := by unfold maxLen; omega
  have hB2 : (x.d.list.length + 1) * 24 ≤ 140737488355328 := by omega
  have HZB : Hid (∀ w' : World, w'.heap[w.heap.size]? = some (.cells #[.pointer (some ⟨g, q * 5, none⟩)] 96 (0, 0)) → w'.cell? ⟨w.heap.size, 0, none⟩ = some (.pointer (some ⟨g, q * 5, none⟩))) := fun w' h => (one_cell h).1
  have hS := HBX.out
  have HNE : Hid (¬ w.heap.size = g) := by show ¬ _; omega
  have HF4 : Hid ((fflat gs)[q * 5 + 4]? = some x.lv) := f4
  have HLE : Hid (gs.length = fs.length) := hlen
  clear hol hlv f4
  have b0 := (one_cell HBX.out).1
  go_region_law (first
    | (refine step_append_at (by rfl) (.tmp 10) (.tmp 11) 57 (by rfl) base 63 i0 (.agg #[.string ⟨#[]⟩, .int .i64 0]) 2 24 Tryz.underlying57 hi hz0 hz1 hz2 rfl (by decide) (.slice al x.d.list.length cl) x.d.list.length (lflat x.d.list) (by simp [Act.eval]) (by have h := HOL.out; rw [HLV.out] at h; exact h) ⟨lb, 0, none⟩ 1 1 [.string s, .int .i64 id] (by simp [Act.eval]) rfl (by intro j u hu; have h2 := two_cells HLB.out; rw [Addr.add_lit, Nat.zero_add]; match j, hu with | 0, hu => simp at hu; subst hu; exact h2.1 | 1, hu => simp at hu; subst hu; exact h2.2.1) (by simp [Value.oneCell']) hB1 hB2 (by show base ≤ W0.heap.size; omega) ?_; intro v1 w3 hown1 hgrow1 hat1; have hGR : W0.grownBy w3 x.lv.ownBlock := (by rw [HLV.out]; exact (gbOf (Below.drew (nwR W0)) _).trans hgrow1); have hS3 : w3.heap[w.heap.size]? = some (.cells #[.pointer (some ⟨g, q * 5, none⟩)] 96 (0, 0)) := (KeepT.of_gb hGR HOL.out (.inr rfl)).2 _ _ _ _ HBX.out (by decide) (by decide); have hR3 := own_keep HROW.out hGR (ne_of_tags HROW.out HOL.out (by decide)); have k4 : w3.cell? ⟨g, q * 5 + 4, none⟩ = some x.lv := (by have h := hR3.cells (g := g) rfl _ _ HF4.out; rw [Addr.add_lit, Nat.zero_add] at h; exact h); have kf : w3.frozen? ⟨g, q * 5 + 4, none⟩ = false := (by rw [HLE.out] at hR3; exact hR3.frozenAt _); obtain ⟨g1, cap1, rfl, hg1, _⟩ := slice_cells hown1 (Nat.succ_pos _); have b3 := (one_cell hS3).1)
    | fail)
  all_goals
    have HO3 : Hid (OwnLinks w3 base (.slice (some ⟨g1, 0, none⟩) (x.d.list.length + 1) cap1) (x.d.list ++ [(s, id)])) := OwnLinks.snoc hown1
    obtain ⟨cs3, hh3⟩ := own_tag hR3 g rfl
    have HO4 : Hid (OwnLinks (w3.setCell ⟨g, q * 5 + 4, none⟩ (.slice (some ⟨g1, 0, none⟩) (x.d.list.length + 1) cap1)) base (.slice (some ⟨g1, 0, none⟩) (x.d.list.length + 1) cap1) (x.d.list ++ [(s, id)])) := rowset2 HO3.out hh3 (by decide) _
    have hS4 : (w3.setCell ⟨g, q * 5 + 4, none⟩ (.slice (some ⟨g1, 0, none⟩) (x.d.list.length + 1) cap1)).heap[w.heap.size]? = some (.cells #[.pointer (some ⟨g, q * 5, none⟩)] 96 (0, 0)) := (KeepT.of_set _ hh3 (.inl rfl)).2 _ _ _ _ hS3 (by decide) (by decide)
    have hR4 : (w3.setCell ⟨g, q * 5 + 4, none⟩ (.slice (some ⟨g1, 0, none⟩) (x.d.list.length + 1) cap1)).cell? ⟨g, q * 5 + 4, none⟩ = some (.slice (some ⟨g1, 0, none⟩) (x.d.list.length + 1) cap1) := by
      have h := hR3
      rw [HLE.out] at h
      have h2 := (h.stored (q * 5 + 4) (.slice (some ⟨g1, 0, none⟩) (x.d.list.length + 1) cap1)).1.cells (g := g) rfl (q * 5 + 4) (.slice (some ⟨g1, 0, none⟩) (x.d.list.length + 1) cap1) (List.getElem?_set_self (List.getElem?_eq_some_iff.1 HF4.out).1)
      rw [Addr.add_lit, Nat.zero_add] at h2
      exact h2
    have b4 := (one_cell hS4).1
    have HGR : Hid (W0.grownBy w3 x.lv.ownBlock) := hGR
    have HAT : Hid ((Value.slice (some ⟨g1, 0, none⟩) (x.d.list.length + 1) cap1).ownBlock = x.lv.ownBlock ∨ (Value.slice (some ⟨g1, 0, none⟩) (x.d.list.length + 1) cap1).ownBlock = some W0.heap.size) := by rw [HLV.out]; exact hat1
    have HSO : Hid (Calls Tryz.prog 108 #[.slice (some ⟨g1, 0, none⟩) (x.d.list.length + 1) cap1, .func (.func 109) #[] #[]] (w3.setCell ⟨g, q * 5 + 4, none⟩ (.slice (some ⟨g1, 0, none⟩) (x.d.list.length + 1) cap1)) fun e w' => e = .returned (.tuple #[]) ∧ OwnLinks w' base (.slice (some ⟨g1, 0, none⟩) (x.d.list.length + 1) cap1) (putL x.d.list (s, id)) ∧ (w3.setCell ⟨g, q * 5 + 4, none⟩ (.slice (some ⟨g1, 0, none⟩) (x.d.list.length + 1) cap1)).grownBy w' (some g1)) := by
      refine (sort_any base _ (x.d.list ++ [(s, id)]) _ HO4.out (by rw [List.length_append, List.length_singleton]; omega) (by rw [List.length_append, List.length_singleton]; omega)).mono ?_
      rintro e w' ⟨h1, ⟨l2, _, hp, hsr, ho⟩, hgb⟩
      rw [sorted_put HST.out HNN.out hp hsr] at ho
      exact ⟨h1, ho, hgb⟩
    have HFIN : Hid (∀ w5, OwnLinks w5 base (.slice (some ⟨g1, 0, none⟩) (x.d.list.length + 1) cap1) (putL x.d.list (s, id)) → (w3.setCell ⟨g, q * 5 + 4, none⟩ (.slice (some ⟨g1, 0, none⟩) (x.d.list.length + 1) cap1)).grownBy w5 (some g1) → OwnFilesX w5 base (.slice (some ⟨g, 0, none⟩) fs.length cap) (fs.set q (withList x.d (putL x.d.list (s, id)))) ∧ KeepT w w5 ∧ Below base w w5) := fun w5 h1 h2 => by
      have h := relist HROW.out HOWN.out HAP.out HX.out HGR.out HO3.out HAT.out h2 h1
      rw [HD.out] at h
      have hbl := HBB.out
      exact ⟨h.1, HK0.out.trans h.2.1, hbl.trans h.2.2⟩
    clear hown1 hgrow1 hat1 hGR hS3 hR3 k4 kf b3 hh3 hS4 c4 b0 hS
    go_wp2_with (go_at_call 108; refine HSO.out.mono ?_; rintro e w5 ⟨rfl, ho5, hg5⟩; have HF5 := HFIN.out w5 ho5 hg5; clear ho5 hg5)
    go_end0
    exact ⟨rfl, HF5⟩

end Go.Proofs.YtdpighcaieajjabGreat

/- A place that comes to name a file, by the program. -/
namespace Go.Proofs.YtdpighcaieajjabGreat
open Go.RowKit Go.Sort

set_option maxRecDepth 100000 in
set_option maxHeartbeats 2000000 in
theorem pput_any (base g cap q : Nat) (fs : List FileD) (s : ByteArray) (id : Int) (w : World) (hX : OwnFilesX w base (.slice (some ⟨g, 0, none⟩) fs.length cap) fs) (hq : q < fs.length) (hl : (fs.getD q f0).list.length ≤ 11)
    (hst : StrictL (fs.getD q f0).list) (hnn : ∀ y ∈ (fs.getD q f0).list, y.1 ≠ s) :
    Calls Tryz.prog 74 #[.agg #[.pointer (some ⟨g, q * 5, none⟩), .string s], .int .i64 id] w fun e w' => e = .returned (.tuple #[]) ∧ OwnFilesX w' base (.slice (some ⟨g, 0, none⟩) fs.length cap) (fs.set q (withList (fs.getD q f0) (putL (fs.getD q f0).list (s, id)))) ∧ KeepT w w' ∧ Below base w w' := by
  have hbase : base ≤ w.heap.size := by
    obtain ⟨gs, _, hrow, _, _⟩ := hX
    have := World.ownsRow.lt hrow g rfl; omega
  have HB0 : Hid (Below w.heap.size w ((w.alloc (.cells #[.pointer (some ⟨g, q * 5, none⟩), .string s] 103)).alloc (.cells #[.string s, .int .i64 id] 63))) := nwA (nwA (nwR w) _) _
  have HBB : Hid (Below base w ((w.alloc (.cells #[.pointer (some ⟨g, q * 5, none⟩), .string s] 103)).alloc (.cells #[.string s, .int .i64 id] 63))) := ((Below.refl _ _).alloc hbase _).alloc (by simp; omega) _
  have HCA : Hid (Calls Tryz.prog 91 #[.agg #[.pointer (some ⟨g, q * 5, none⟩)], .slice (some ⟨w.heap.size + 1, 0, none⟩) 1 1] ((w.alloc (.cells #[.pointer (some ⟨g, q * 5, none⟩), .string s] 103)).alloc (.cells #[.string s, .int .i64 id] 63)) fun e w' => e = .returned (.tuple #[]) ∧ OwnFilesX w' base (.slice (some ⟨g, 0, none⟩) fs.length cap) (fs.set q (withList (fs.getD q f0) (putL (fs.getD q f0).list (s, id)))) ∧ KeepT ((w.alloc (.cells #[.pointer (some ⟨g, q * 5, none⟩), .string s] 103)).alloc (.cells #[.string s, .int .i64 id] 63)) w' ∧ Below base ((w.alloc (.cells #[.pointer (some ⟨g, q * 5, none⟩), .string s] 103)).alloc (.cells #[.string s, .int .i64 id] 63)) w') :=
    nadd_any base g cap q (w.heap.size + 1) fs s id w _ hX HB0.out hq hl hst hnn (heap_alloc_new2 w _ _)
  clear hX hl hst hnn
  go_enter Tryz.func74, Tryz.ntmps74
  go_wp2_with (go_at_call 91; refine HCA.out.mono ?_; rintro e w5 ⟨rfl, h1, h2, h3⟩; have HF : Hid (OwnFilesX w5 base (.slice (some ⟨g, 0, none⟩) fs.length cap) (fs.set q (withList (fs.getD q f0) (putL (fs.getD q f0).list (s, id)))) ∧ KeepT w w5 ∧ Below base w w5) := ⟨h1, (KeepT.of_below HB0.out).trans h2, HBB.out.trans h3⟩; clear h1 h2 h3)
  go_end0
  exact ⟨rfl, HF.out⟩

/-- blocks of other kinds than files, links and volumes are as they were -/
def KeepU (w w' : World) : Prop := w.heap.size ≤ w'.heap.size ∧ ∀ (k : Nat) (cs : Array Value) (t : TypeId) (fr : Nat × Nat), w.heap[k]? = some (Obj.cells cs t fr) → t ≠ 59 → t ≠ 63 → t ≠ 89 → w'.heap[k]? = some (Obj.cells cs t fr)
theorem KeepU.trans {a b c : World} (h : KeepU a b) (k : KeepU b c) : KeepU a c := ⟨Nat.le_trans h.1 k.1, fun i cs t fr e h1 h2 h3 => k.2 i cs t fr (h.2 i cs t fr e h1 h2 h3) h1 h2 h3⟩
theorem KeepT.u {w w' : World} (h : KeepT w w') : KeepU w w' := ⟨h.1, fun k cs t fr e h1 h2 _ => h.2 k cs t fr e h1 h2⟩
theorem KeepU.of_set {w : World} {g o : Nat} {cs : Array Value} {fr : Nat × Nat} (v : Value) (hg : w.heap[g]? = some (.cells cs 89 fr)) : KeepU w (w.setCell ⟨g, o, none⟩ v) := by
  refine ⟨by simp, fun i cs' t' fr' hi h1 h2 h3 => (heap_setCell_other w ⟨g, o, none⟩ i v (fun e => ?_)).trans hi⟩
  have e2 : i = g := e
  rw [e2, hg] at hi
  simp only [Option.some.injEq, Obj.cells.injEq] at hi
  exact h3 hi.2.1.symm
/-- the volume with a new file at a place -/
def newV (d : VolD) (q : Nat) (last : ByteArray) (dir : Bool) : VolD :=
  ⟨d.id, d.fr, d.snap, d.files.set q (withList (d.files.getD q f0) (putL (d.files.getD q f0).list (last, d.next))) ++ [⟨d.next, dir, 0, [], []⟩], d.next + 1⟩
/-- how making ends: the error, and the place -/
def makF (d : VolD) (L : List ByteArray) : Nat × Int :=
  if (vacF d.files L).2 = 0 then (if 16 ≤ d.files.length ∨ 8 ≤ (d.files.getD (vacF d.files L).1 f0).list.length ∨ 1073741824 ≤ d.next then (0, 2) else vacF d.files L) else (0, (vacF d.files L).2)

end Go.Proofs.YtdpighcaieajjabGreat
