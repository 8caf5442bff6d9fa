/- Where a link stands, or might stand, by the program. -/
import Derived.Test.YtdpighcaieajjaaGreatFacet
import Derived.Test.YtdpighcaieajjaaGreatPar
namespace Go.Proofs.YtdpighcaieajjaaGreat
open Go.RowKit

def lastN (L : List ByteArray) : ByteArray := L.getD (L.length - 1) ByteArray.empty
def PlaceIs (d : VolD) (r : Nat × Int) (last : ByteArray) (B : Nat) (e : Ending) (w' : World) : Prop :=
  ∃ v, e = .returned (.tuple #[v, .int .i64 r.2]) ∧ (r.2 = 0 → ∃ pv, NodeOf w' B d (.agg #[pv]) r.1 ∧ v = .agg #[pv, .string last]) ∧ (r.2 ≠ 0 → v = .agg #[.pointer none, .string ⟨#[]⟩])
theorem placeIs_no {d : VolD} {r : Nat × Int} {last : ByteArray} {B q : Nat} {w' : World} {er : Int} (h : r = (q, er)) (he : er ≠ 0) : PlaceIs d r last B (.returned (.tuple #[.agg #[.pointer none, .string ⟨#[]⟩], .int .i64 er])) w' := by
  subst h; exact ⟨_, rfl, fun h => absurd h he, fun _ => rfl⟩
theorem placeIs_yes {d : VolD} {r : Nat × Int} {last : ByteArray} {B q : Nat} {w' : World} {pv : Value} (h : r = (q, 0)) (hn : NodeOf w' B d (.agg #[pv]) q) : PlaceIs d r last B (.returned (.tuple #[.agg #[pv, .string last], .int .i64 0])) w' := by
  subst h; exact ⟨_, rfl, fun _ => ⟨pv, hn, rfl⟩, fun h => absurd rfl h⟩
theorem two_cells {w : World} {g : Nat} {c0 c1 : Value} {t : TypeId} (h : w.heap[g]? = some (.cells #[c0, c1] t (0, 0))) : w.cell? ⟨g, 0, none⟩ = some c0 ∧ w.cell? ⟨g, 1, none⟩ = some c1 ∧ ∀ o, w.frozen? ⟨g, o, none⟩ = false :=
  ⟨by rw [Lib.cell_of_heap h]; rfl, by rw [Lib.cell_of_heap h]; rfl, fun o => Lib.frozen_of_heap h o⟩
theorem two_read {w : World} {g : Nat} {c0 c1 d0 d1 : Value} {t : TypeId} (h : w.heap[g]? = some (.cells #[c0, c1] t (0, 0))) (ob : Obj) :
    let W := ((w.setCell ⟨g, 0, none⟩ d0).setCell ⟨g, 1, none⟩ d1).alloc ob
    W.cell? ⟨g, 0, none⟩ = some d0 ∧ W.cell? ⟨g, 1, none⟩ = some d1 := by
  intro W
  have h1 := heap_setCell_same w g 0 _ t d0 h
  have h2 := heap_setCell_same _ g 1 _ t d1 h1
  have h5 : ((w.setCell ⟨g, 0, none⟩ d0).setCell ⟨g, 1, none⟩ d1).heap[g]? = some (.cells #[d0, d1] t (0, 0)) := by simpa using h2
  have h6 : W.heap[g]? = some (.cells #[d0, d1] t (0, 0)) := (Lib.alloc_old _ _ _ (Array.getElem?_eq_some_iff.1 h5).1).trans h5
  obtain ⟨a0, a1, _⟩ := two_cells h6
  exact ⟨a0, a1⟩

set_option maxRecDepth 100000 in
set_option maxHeartbeats 4000000 in
theorem place_any (B : Nat) (d : VolD) (p : ByteArray) (L : List ByteArray) (w : World) (hv : VolAt w B d) (hs : SmallV d) (hsd : Sound d.files) (h1 : atI d.files 1 = some 0) (hp : pathN p = some L) (hL : 0 < L.length) :
    Calls Tryz.prog 89 #[.pointer (some ⟨B, 0, none⟩), .string p] w fun e w' => PlaceIs d (parF d.files L) (lastN L) B e w' ∧ Below w.heap.size w w' := by
  have HV : Hid (VolAt w B d) := hv
  have HS : Hid (SmallV d) := hs
  have HSD : Hid (Sound d.files) := hsd
  have HA1 : Hid (atI d.files 1 = some 0) := h1
  have hxs := pathN_some hp
  have HPO : Hid (parentO p = some (tx (L.take (L.length - 1)), lastN L)) := by
    show _ = _
    unfold parentO
    rw [hp]
    simp only
    rw [if_neg (by omega)]; rfl
  have HUP : Hid (pathN (tx (L.take (L.length - 1))) = some (L.take (L.length - 1))) := by
    show _ = _
    rw [pathN_tx (fun x hx => hxs.2.1 x (List.mem_of_mem_take hx)), if_pos]
    have := hxs.2.2; rw [List.length_take]; omega
  have HLE : Hid ((L.take (L.length - 1)).length ≤ 100000) := by show _ ≤ _; have := hxs.2.2; rw [List.length_take]; omega
  have HPF : Hid (parF d.files L = (if (findF d.files 0 (L.take (L.length - 1))).2 = 0 then (if (d.files.getD (findF d.files 0 (L.take (L.length - 1))).1 f0).dir then findF d.files 0 (L.take (L.length - 1)) else (0, 7)) else (0, (findF d.files 0 (L.take (L.length - 1))).2))) := rfl
  have hBl : B < w.heap.size := by obtain ⟨_, _, h, _⟩ := hv; exact (Array.getElem?_eq_some_iff.1 h).1
  clear hs hsd h1 hp hxs
  generalize lastN L = last at HPO
  generalize tx (L.take (L.length - 1)) = up at HPO HUP
  generalize L.take (L.length - 1) = U at HUP HLE HPF
  generalize parF d.files L = R at HPF
  go_enter Tryz.func89, Tryz.ntmps89
  go_wp2_with fail
  have HB0 : Hid (Below w.heap.size w (w.alloc (.cells #[.pointer none, .string ⟨#[]⟩] 112))) := nwA (nwR w) _
  have HR0 : Hid ((w.alloc (.cells #[.pointer none, .string ⟨#[]⟩] 112)).heap[w.heap.size]? = some (.cells #[.pointer none, .string ⟨#[]⟩] 112 (0, 0))) := heap_alloc_new w _
  refine (parent_any p _).mono ?_
  rintro e w1 ⟨rfl, hb1⟩
  have HB1 : Hid (Below w.heap.size w w1) := nwT HB0.out hb1
  have HR1 : Hid (w1.heap[w.heap.size]? = some (.cells #[.pointer none, .string ⟨#[]⟩] 112 (0, 0))) := (hb1.block _ (Array.getElem?_eq_some_iff.1 HR0.out).1).trans HR0.out
  rw [HPO.out]
  simp only [parentV]
  clear hb1 HB0 HR0 HPO
  go_wp2_with fail
  refine (findp_any B d up U _ (HV.out.below HB1.out) HS.out HSD.out HA1.out HUP.out HLE.out).mono ?_
  rintro e w2 ⟨⟨u, rfl, hyes, hnone⟩, hb2⟩
  have HB2 : Hid (Below w.heap.size w w2) := nwT HB1.out hb2
  have HR2 : Hid (w2.heap[w.heap.size]? = some (.cells #[.pointer none, .string ⟨#[]⟩] 112 (0, 0))) := (hb2.block _ (Array.getElem?_eq_some_iff.1 HR1.out).1).trans HR1.out
  have hrl := (Array.getElem?_eq_some_iff.1 HR2.out).1
  obtain ⟨r0, r1, rf⟩ := two_cells HR2.out
  clear hb2 HB1 HR1
  generalize findF d.files 0 U = r at hyes hnone HPF
  obtain ⟨q, er⟩ := r
  simp only at hyes hnone HPF
  by_cases her : er = 0
  · subst her
    have hno := hyes rfl
    have HNO : Hid (NodeOf w2 B d u q) := hno
    have hnv := hno.val (HV.out.below HB2.out)
    obtain ⟨b, o, rfl, hf⟩ := hnv
    obtain ⟨ab, cb, al, cl, ⟨_, c1, _, _, _⟩, _, _⟩ := hf
    have hbl := block_lt_of_cell c1
    clear hyes hnone hno
    cases hd : (d.files.getD q f0).dir
    · rw [hd] at c1
      have HR : Hid (R = (0, 7)) := by show _ = _; rw [HPF.out, hd]; rfl
      go_wp2_with fail
      obtain ⟨k0, k1⟩ := two_read (d0 := .pointer none) (d1 := .string ⟨#[]⟩) HR2.out (.cells #[.pointer (some ⟨b, o, none⟩)] 81)
      refine bodyPost_ret (v := .tuple #[.agg #[.pointer none, .string ⟨#[]⟩], .int .i64 7]) (by simp [results, Tryz.results89, go_sem, k0, k1]) rfl ⟨placeIs_no HR.out (by decide), ?_⟩
      exact nwA ((HB2.out.setCell (p := ⟨w.heap.size, 0, none⟩) (Nat.le_refl _) _).setCell (p := ⟨w.heap.size, 1, none⟩) (Nat.le_refl _) _) _
    · rw [hd] at c1
      have HR : Hid (R = (q, 0)) := by show _ = _; rw [HPF.out, hd]; rfl
      go_wp2_with fail
      obtain ⟨k0, k1⟩ := two_read (d0 := .pointer (some ⟨b, o, none⟩)) (d1 := .string last) HR2.out (.cells #[.pointer (some ⟨b, o, none⟩)] 81)
      refine bodyPost_ret (v := .tuple #[.agg #[.pointer (some ⟨b, o, none⟩), .string last], .int .i64 0]) (by simp [results, Tryz.results89, go_sem, k0, k1]) rfl ⟨placeIs_yes HR.out ?_, ?_⟩
      · obtain ⟨a', o', c', g1, g2, g3⟩ := HNO.out
        refine ⟨a', o', c', ?_, g2, g3⟩
        rw [Lib.alloc_old _ _ _ (by simp; exact (Array.getElem?_eq_some_iff.1 g1).1), Below.heap_setCell _ _ _ _ (by show B ≠ w.heap.size; omega), Below.heap_setCell _ _ _ _ (by show B ≠ w.heap.size; omega)]
        exact g1
      · exact nwA ((HB2.out.setCell (p := ⟨w.heap.size, 0, none⟩) (Nat.le_refl _) _).setCell (p := ⟨w.heap.size, 1, none⟩) (Nat.le_refl _) _) _
  · have hu := hnone her
    subst hu
    have HR : Hid (R = (0, er)) := by show _ = _; rw [HPF.out, if_neg her]
    clear hyes hnone
    go_wp2_with fail
    obtain ⟨k0, k1⟩ := two_read (d0 := .pointer none) (d1 := .string ⟨#[]⟩) HR2.out (.cells #[.pointer none] 81)
    refine bodyPost_ret (v := .tuple #[.agg #[.pointer none, .string ⟨#[]⟩], .int .i64 er]) (by simp [results, Tryz.results89, go_sem, k0, k1]) rfl ⟨placeIs_no HR.out her, ?_⟩
    exact nwA ((HB2.out.setCell (p := ⟨w.heap.size, 0, none⟩) (Nat.le_refl _) _).setCell (p := ⟨w.heap.size, 1, none⟩) (Nat.le_refl _) _) _

end Go.Proofs.YtdpighcaieajjaaGreat
