/- A place that nothing has, by the program. -/
import Derived.Test.YtdpighcaieajjaaGreatPlace
namespace Go.Proofs.YtdpighcaieajjaaGreat
open Go.RowKit

theorem linkedI_is (l : List LinkD) (s : ByteArray) : (linkedI l s).2 = (namedI l s).isSome := by
  unfold linkedI; cases namedI l s <;> rfl

set_option maxRecDepth 100000 in
set_option maxHeartbeats 1000000 in
theorem isTaken_any (pv : Value) (f : FileD) (s : ByteArray) (w : World) (hv : NodeVal w (.agg #[pv]) f) (hs : SmallF f) :
    Calls Tryz.prog 103 #[.agg #[pv, .string s]] w fun e w' => e = .returned (.bool (namedI f.list s).isSome) ∧ Below w.heap.size w w' := by
  have HV : Hid (NodeVal w (.agg #[pv]) f) := hv
  have HS : Hid (SmallF f) := hs
  obtain ⟨b, o, e, _⟩ := hv
  simp only [Value.agg.injEq, Array.mk.injEq, List.cons.injEq, and_true] at e
  subst e
  have HB : Hid (Below w.heap.size w (w.alloc (.cells #[.pointer (some ⟨b, o, none⟩), .string s] 112))) := nwA (nwR w) _
  have HC : Hid (Calls Tryz.prog 82 #[.agg #[.pointer (some ⟨b, o, none⟩)], .string s] (w.alloc (.cells #[.pointer (some ⟨b, o, none⟩), .string s] 112)) fun e w' => e = .returned (.tuple #[.int .i64 (linkedI f.list s).1, .bool (linkedI f.list s).2]) ∧ Below (w.alloc (.cells #[.pointer (some ⟨b, o, none⟩), .string s] 112)).heap.size (w.alloc (.cells #[.pointer (some ⟨b, o, none⟩), .string s] 112)) w') := linked_any _ f s _ (HV.out.below HB.out) HS.out
  have HI : Hid ((linkedI f.list s).2 = (namedI f.list s).isSome) := linkedI_is _ _
  generalize (namedI f.list s).isSome = t at HI
  generalize linkedI f.list s = r at HC HI
  obtain ⟨r1, r2⟩ := r
  simp only at HC HI
  clear hs
  go_enter Tryz.func103, Tryz.ntmps103
  go_wp2_with fail
  refine HC.out.mono ?_
  rintro e w1 ⟨rfl, hb1⟩
  have HB1 : Hid (Below w.heap.size w w1) := nwT HB.out hb1
  clear hb1
  go_wp2_with fail
  go_ret
  exact ⟨ret_bool HI.out, HB1.out⟩

set_option maxRecDepth 100000 in
set_option maxHeartbeats 1000000 in
theorem isFull_any (v : Value) (f : FileD) (w : World) (hv : NodeVal w v f) :
    Calls Tryz.prog 85 #[v] w fun e w' => e = .returned (.bool (decide (8 ≤ f.list.length))) ∧ Below w.heap.size w w' := by
  obtain ⟨b, o, rfl, hf⟩ := hv
  obtain ⟨ab, cb, al, cl, ⟨c0, c1, c2, c3, c4⟩, _, _, _⟩ := hf
  have hb : b < w.heap.size := block_lt_of_cell c4
  have HE : Hid (decide ((8 : Int) ≤ (f.list.length : Int)) = decide (8 ≤ f.list.length)) := by
    show _ = _
    rw [Bool.eq_iff_iff]; simp only [decide_eq_true_eq]; omega
  go_enter Tryz.func85, Tryz.ntmps85
  go_wp2_with fail
  go_ret
  exact ⟨ret_bool HE.out, nwA (nwR w) _⟩

def vacF (fs : List FileD) (L : List ByteArray) : Nat × Int :=
  if L.length = 0 then (0, 4) else if (parF fs L).2 = 0 then (if (namedI (fs.getD (parF fs L).1 f0).list (lastN L)).isSome then (0, 4) else parF fs L) else (0, (parF fs L).2)

set_option maxRecDepth 100000 in
set_option maxHeartbeats 4000000 in
theorem vacant_any (B : Nat) (d : VolD) (p : ByteArray) (L : List ByteArray) (w : World) (hv : VolAt w B d) (hs : SmallV d) (hsd : Sound d.files) (h1 : atI d.files 1 = some 0) (hp : pathN p = some L) :
    Calls Tryz.prog 84 #[.pointer (some ⟨B, 0, none⟩), .string p] w fun e w' => PlaceIs d (vacF d.files L) (lastN L) B e w' ∧ Below w.heap.size w w' := by
  have HV : Hid (VolAt w B d) := hv
  have HS : Hid (SmallV d) := hs
  have HB0 : Hid (Below w.heap.size w (w.alloc (.cells #[.pointer none, .string ⟨#[]⟩] 112))) := nwA (nwR w) _
  have HR0 : Hid ((w.alloc (.cells #[.pointer none, .string ⟨#[]⟩] 112)).heap[w.heap.size]? = some (.cells #[.pointer none, .string ⟨#[]⟩] 112 (0, 0))) := heap_alloc_new w _
  have hBl : B < w.heap.size := by obtain ⟨_, _, h, _⟩ := hv; exact (Array.getElem?_eq_some_iff.1 h).1
  by_cases hr : p.toList = [47]
  · have hL : L = [] := by have := pathN_root hr; rw [hp] at this; injection this
    have HR : Hid (vacF d.files L = (0, 4)) := by show _ = _; rw [hL]; rfl
    have hrb : (p.toList == [47]) = true := beq_iff_eq.2 hr
    clear hp hs hsd h1
    go_enter Tryz.func84, Tryz.ntmps84
    go_wp2_with fail
    refine bodyPost_ret (v := .tuple #[.agg #[.pointer none, .string ⟨#[]⟩], .int .i64 4]) (by simp [results, Tryz.results84, go_sem]) rfl ⟨placeIs_no HR.out (by decide), ?_⟩
    exact nwA (nwR w) _
  · have hrb : (p.toList == [47]) = false := beq_eq_false_iff_ne.2 hr
    have hL : 0 < L.length := by
      by_cases e : L.length = 0
      · have h0 := List.length_eq_zero_iff.1 e
        have h2 := (pathN_some hp).1
        rw [h0] at h2
        exact absurd (by rw [← h2, Lib.toList_data]; rfl) hr
      · omega
    have HVF : Hid (vacF d.files L = if (parF d.files L).2 = 0 then (if (namedI (d.files.getD (parF d.files L).1 f0).list (lastN L)).isSome then (0, 4) else parF d.files L) else (0, (parF d.files L).2)) := by
      show _ = _; unfold vacF; rw [if_neg (by omega)]
    have HPL : Hid (∀ w', Below w.heap.size w w' → Calls Tryz.prog 89 #[.pointer (some ⟨B, 0, none⟩), .string p] w' fun e w'' => PlaceIs d (parF d.files L) (lastN L) B e w'' ∧ Below w'.heap.size w' w'') := fun w' h => place_any B d p L w' (hv.below h) hs hsd h1 hp hL
    clear hp hs hsd h1 hr hL
    generalize vacF d.files L = V at HVF
    generalize lastN L = last at HVF HPL
    generalize parF d.files L = R at HVF HPL
    go_enter Tryz.func84, Tryz.ntmps84
    go_wp2_with fail
    refine (HPL.out _ HB0.out).mono ?_
    rintro e w2 ⟨⟨u, rfl, hyes, hnone⟩, hb2⟩
    have HB2 : Hid (Below w.heap.size w w2) := nwT HB0.out hb2
    have HR2 : Hid (w2.heap[w.heap.size]? = some (.cells #[.pointer none, .string ⟨#[]⟩] 112 (0, 0))) := (hb2.block _ (Array.getElem?_eq_some_iff.1 HR0.out).1).trans HR0.out
    have hrl := (Array.getElem?_eq_some_iff.1 HR2.out).1
    obtain ⟨r0, r1, rf⟩ := two_cells HR2.out
    clear hb2 HB0 HR0
    obtain ⟨q, er⟩ := R
    simp only at hyes hnone HVF
    by_cases her : er = 0
    · subst her
      obtain ⟨pv, hno, rfl⟩ := hyes rfl
      have HNO : Hid (NodeOf w2 B d (.agg #[pv]) q) := hno
      have hnv := hno.val (HV.out.below HB2.out)
      have hql : q < d.files.length := by obtain ⟨_, _, _, _, h, _⟩ := hno; exact h
      have HSM : Hid (SmallF (d.files.getD q f0)) := HS.out.2 _ (getD_mem hql)
      have HNV : Hid (NodeVal w2 (.agg #[pv]) (d.files.getD q f0)) := hnv
      obtain ⟨b, o, e, _⟩ := hnv
      simp only [Value.agg.injEq, Array.mk.injEq, List.cons.injEq, and_true] at e
      subst e
      have HB3 : Hid (Below w.heap.size w (w2.alloc (.cells #[.pointer (some ⟨b, o, none⟩), .string last] 112))) := nwA HB2.out _
      clear hyes hnone hno
      go_wp2_with fail
      refine (isTaken_any _ (d.files.getD q f0) last _ (HNV.out.below (nwA (nwR w2) _)) HSM.out).mono ?_
      rintro e w3 ⟨rfl, hb3⟩
      have HB4 : Hid (Below w.heap.size w w3) := nwT HB3.out hb3
      have HR3 : Hid (w3.heap[w.heap.size]? = some (.cells #[.pointer none, .string ⟨#[]⟩] 112 (0, 0))) := (hb3.block _ (by simp; omega)).trans ((Lib.alloc_old _ _ _ hrl).trans HR2.out)
      obtain ⟨s0, s1, sf⟩ := two_cells HR3.out
      obtain ⟨m0, m1, mf⟩ := two_cells ((hb3.block w2.heap.size (by simp)).trans (heap_alloc_new w2 (.cells #[.pointer (some ⟨b, o, none⟩), .string last] 112)))
      have HNO3 : Hid (NodeOf w3 B d (.agg #[.pointer (some ⟨b, o, none⟩)]) q) := HNO.out.below (nwT (nwA (nwR w2) _) hb3)
      clear hb3 r0 r1 rf
      cases ht : (namedI (d.files.getD q f0).list last).isSome
      · have HR : Hid (V = (q, 0)) := by show _ = _; rw [HVF.out, ht]; rfl
        go_wp2_with fail
        have h5 := heap_setCell_same _ w.heap.size 1 _ 112 (.string last) (heap_setCell_same w3 w.heap.size 0 _ 112 (.pointer (some ⟨b, o, none⟩)) HR3.out)
        have h6 : ((w3.setCell ⟨w.heap.size, 0, none⟩ (.pointer (some ⟨b, o, none⟩))).setCell ⟨w.heap.size, 1, none⟩ (.string last)).heap[w.heap.size]? = some (.cells #[.pointer (some ⟨b, o, none⟩), .string last] 112 (0, 0)) := by simpa using h5
        obtain ⟨k0, k1, _⟩ := two_cells h6
        refine bodyPost_ret (v := .tuple #[.agg #[.pointer (some ⟨b, o, none⟩), .string last], .int .i64 0]) (by simp [results, Tryz.results84, go_sem, k0, k1]) rfl ⟨placeIs_yes HR.out ?_, ?_⟩
        · obtain ⟨a', o', c', g1, g2, g3⟩ := HNO3.out
          refine ⟨a', o', c', ?_, g2, g3⟩
          rw [Below.heap_setCell _ _ _ _ (by show B ≠ w.heap.size; omega), Below.heap_setCell _ _ _ _ (by show B ≠ w.heap.size; omega)]
          exact g1
        · exact (HB4.out.setCell (p := ⟨w.heap.size, 0, none⟩) (Nat.le_refl _) _).setCell (p := ⟨w.heap.size, 1, none⟩) (Nat.le_refl _) _
      · have HR : Hid (V = (0, 4)) := by show _ = _; rw [HVF.out, ht]; rfl
        go_wp2_with fail
        have h5 := heap_setCell_same _ w.heap.size 1 _ 112 (.string ⟨#[]⟩) (heap_setCell_same w3 w.heap.size 0 _ 112 (.pointer none) HR3.out)
        have h6 : ((w3.setCell ⟨w.heap.size, 0, none⟩ (.pointer none)).setCell ⟨w.heap.size, 1, none⟩ (.string ⟨#[]⟩)).heap[w.heap.size]? = some (.cells #[.pointer none, .string ⟨#[]⟩] 112 (0, 0)) := by simpa using h5
        obtain ⟨k0, k1, _⟩ := two_cells h6
        refine bodyPost_ret (v := .tuple #[.agg #[.pointer none, .string ⟨#[]⟩], .int .i64 4]) (by simp [results, Tryz.results84, go_sem, k0, k1]) rfl ⟨placeIs_no HR.out (by decide), ?_⟩
        exact (HB4.out.setCell (p := ⟨w.heap.size, 0, none⟩) (Nat.le_refl _) _).setCell (p := ⟨w.heap.size, 1, none⟩) (Nat.le_refl _) _
    · have hu := hnone her
      subst hu
      have HR : Hid (V = (0, er)) := by show _ = _; rw [HVF.out, if_neg her]
      clear hyes hnone
      go_wp2_with fail
      obtain ⟨k0, k1⟩ := two_read (d0 := .pointer none) (d1 := .string ⟨#[]⟩) HR2.out (.cells #[.pointer none, .string ⟨#[]⟩] 112)
      refine bodyPost_ret (v := .tuple #[.agg #[.pointer none, .string ⟨#[]⟩], .int .i64 er]) (by simp [results, Tryz.results84, go_sem, k0, k1]) rfl ⟨placeIs_no HR.out her, ?_⟩
      exact nwA ((HB2.out.setCell (p := ⟨w.heap.size, 0, none⟩) (Nat.le_refl _) _).setCell (p := ⟨w.heap.size, 1, none⟩) (Nat.le_refl _) _) _

end Go.Proofs.YtdpighcaieajjaaGreat
