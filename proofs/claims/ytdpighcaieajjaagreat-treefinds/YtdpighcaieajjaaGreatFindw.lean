/- What a path finds, by the program: the walk. -/
import Derived.Test.YtdpighcaieajjaaGreatLinked
namespace Go.Proofs.YtdpighcaieajjaaGreat
open Go.RowKit

def FindIs (d : VolD) (r : Nat × Int) (B : Nat) (e : Ending) (w' : World) : Prop := ∃ v, e = .returned (.tuple #[v, .int .i64 r.2]) ∧ (r.2 = 0 → NodeOf w' B d v r.1) ∧ (r.2 ≠ 0 → v = .agg #[.pointer none])
theorem findIs_no {d : VolD} {r : Nat × Int} {B : Nat} {w' : World} {er : Int} (h : r = (0, er)) (he : er ≠ 0) : FindIs d r B (.returned (.tuple #[.agg #[.pointer none], .int .i64 er])) w' := by
  subst h; exact ⟨_, rfl, fun h => absurd h he, fun _ => rfl⟩
theorem findIs_yes {d : VolD} {r : Nat × Int} {B q : Nat} {w' : World} {v : Value} (h : r = (q, 0)) (hn : NodeOf w' B d v q) : FindIs d r B (.returned (.tuple #[v, .int .i64 0])) w' := by
  subst h; exact ⟨_, rfl, fun _ => hn, fun h => absurd rfl h⟩
theorem NodeOf.eq {w : World} {B q a o c : Nat} {d : VolD} {v : Value} (h : NodeOf w B d v q) (hB : w.heap[B]? = some (.cells #[.int .i64 d.id, .int .i64 d.fr, .bool d.snap, .slice (some ⟨a, o, none⟩) d.files.length c, .int .i64 d.next] 104 (0, 0))) : v = .agg #[.pointer (some ⟨a, o + q * 5, none⟩)] := by
  obtain ⟨a', o', c', h1, _, h3⟩ := h
  rw [hB] at h1
  simp only [Option.some.injEq, Obj.cells.injEq, Array.mk.injEq, List.cons.injEq, Value.slice.injEq, true_and, and_true, Addr.mk.injEq] at h1
  rw [h3, h1.1.1, h1.1.2]
theorem one_cell {w : World} {g : Nat} {c0 : Value} {t : TypeId} (h : w.heap[g]? = some (.cells #[c0] t (0, 0))) : w.cell? ⟨g, 0, none⟩ = some c0 ∧ w.frozen? ⟨g, 0, none⟩ = false :=
  ⟨by rw [Lib.cell_of_heap h]; rfl, Lib.frozen_of_heap h 0⟩
theorem one_set {w : World} {g : Nat} {c0 c1 : Value} {t : TypeId} (h : w.heap[g]? = some (.cells #[c0] t (0, 0))) : (w.setCell ⟨g, 0, none⟩ c1).heap[g]? = some (.cells #[c1] t (0, 0)) := by
  rw [heap_setCell_same w g 0 _ t _ h]; simp

set_option maxRecDepth 100000 in
set_option maxHeartbeats 4000000 in
theorem findp_any (B : Nat) (d : VolD) (p : ByteArray) (L : List ByteArray) (w : World) (hv : VolAt w B d) (hs : SmallV d) (hsd : Sound d.files) (h1 : atI d.files 1 = some 0) (hp : pathN p = some L) (hL : L.length ≤ 100000) :
    Calls Tryz.prog 48 #[.pointer (some ⟨B, 0, none⟩), .string p] w fun e w' => FindIs d (findF d.files 0 L) B e w' ∧ Below w.heap.size w w' := by
  have HV : Hid (VolAt w B d) := hv
  obtain ⟨av, cv, hB, hfs, _⟩ := hv
  obtain ⟨a, o, rfl, _⟩ := hfs.file hsd.1
  have HBK : Hid (w.heap[B]? = some (.cells #[.int .i64 d.id, .int .i64 d.fr, .bool d.snap, .slice (some ⟨a, o, none⟩) d.files.length cv, .int .i64 d.next] 104 (0, 0))) := hB
  have hBl := (Array.getElem?_eq_some_iff.1 hB).1
  have HF : Hid (FilesAt w (some ⟨a, o, none⟩) d.files) := hfs
  have HS : Hid (SmallV d) := hs
  have HSD : Hid (Sound d.files) := hsd
  have HA1 : Hid (atI d.files 1 = some 0) := h1
  have HP : Hid (pathN p = some L) := hp
  have hfl := hs.1
  clear hB hfs hs hsd h1 hp
  go_enter Tryz.func48, Tryz.ntmps48
  go_wp2_with fail
  have HB0 : Hid (Below w.heap.size w (w.alloc (.cells #[.pointer none] 81))) := nwA (nwR w) _
  have HR0 : Hid ((w.alloc (.cells #[.pointer none] 81)).heap[w.heap.size]? = some (.cells #[.pointer none] 81 (0, 0))) := heap_alloc_new w _
  refine (split_any p _).mono ?_
  rintro e w1 ⟨hsp, hb1⟩
  have HB1 : Hid (Below w.heap.size w w1) := nwT HB0.out hb1
  have HR1 : Hid (w1.heap[w.heap.size]? = some (.cells #[.pointer none] 81 (0, 0))) := (hb1.block _ (Array.getElem?_eq_some_iff.1 HR0.out).1).trans HR0.out
  rcases hsp with ⟨xs, sv, hpx, rfl, hos⟩ | ⟨hpx, _⟩
  case inr => rw [HP.out] at hpx; cases hpx
  rw [HP.out] at hpx
  injection hpx with hpx
  subst hpx
  obtain ⟨sa, sc, rfl, hsa⟩ := hos.at
  have HSA : Hid (StrsAt w1 sa L) := hsa
  clear hos hsa hb1 HB0 HR0
  go_wp2_with fail
  refine (file_any B d 1 0 _ (HV.out.below HB1.out) hfl HA1.out).mono ?_
  rintro e w2 ⟨⟨vv, rfl, hno⟩, hb2⟩
  have HB2 : Hid (Below w.heap.size w w2) := nwT HB1.out hb2
  have hve := hno.eq ((HB2.out.block _ hBl).trans HBK.out)
  subst hve
  have HR2 : Hid (w2.heap[w.heap.size]? = some (.cells #[.pointer none] 81 (0, 0))) := (hb2.block _ (Array.getElem?_eq_some_iff.1 HR1.out).1).trans HR1.out
  have HSA2 : Hid (StrsAt w2 sa L) := HSA.out.below hb2
  have hw2 : w.heap.size < w2.heap.size := (Array.getElem?_eq_some_iff.1 HR2.out).1
  clear hno hb2 HB1 HR1 HSA
  go_wp2_with fail
  have HN3 : Hid ((w2.alloc (.cells #[.pointer (some ⟨a, o + 0 * 5, none⟩)] 81)).heap[w2.heap.size]? = some (.cells #[.pointer (some ⟨a, o + 0 * 5, none⟩)] 81 (0, 0))) := heap_alloc_new w2 _
  have HB3 : Hid (Below w2.heap.size w2 (w2.alloc (.cells #[.pointer (some ⟨a, o + 0 * 5, none⟩)] 81))) := nwA (nwR w2) _
  have HZ : Hid (o + 0 * 5 = o) := by show _ = _; omega
  rw [HZ.out] at HN3 HB3
  generalize hW3 : w2.alloc (.cells #[.pointer (some ⟨a, o, none⟩)] 81) = W3 at HB3 HN3 ⊢
  clear hW3
  go_loopw [26] (fun i wr => ∃ (k q : Nat), k ≤ L.length ∧ i = .int .i64 k ∧ q < d.files.length ∧ Hid (findF d.files 0 L = findF d.files q (L.drop k)) ∧ Below w2.heap.size w2 wr ∧ Hid (wr.heap[w2.heap.size]? = some (.cells #[.pointer (some ⟨a, o + q * 5, none⟩)] 81 (0, 0))))
    (fun i _ => L.length - (intOf i).toNat)
  case atStart => exact ⟨0, 0, by omega, rfl, HSD.out.1, rfl, HB3.out, by rw [HZ.out]; exact HN3.out⟩
  case round =>
    obtain ⟨k, q, hk, rfl, hq, HE, hb, HN⟩ := hrel
    have HBW : Hid (Below w.heap.size w wr) := nwT HB2.out hb
    have HRW : Hid (wr.heap[w.heap.size]? = some (.cells #[.pointer none] 81 (0, 0))) := (hb.block _ hw2).trans HR2.out
    obtain ⟨r0, rf⟩ := one_cell HRW.out
    obtain ⟨n0, nf⟩ := one_cell HN.out
    have hne : ¬ w.heap.size = w2.heap.size := by omega
    have hn1 := block_lt_of_cell n0
    have hr1 := block_lt_of_cell r0
    by_cases hkl : k < L.length
    · have hkli : (k : Int) < (L.length : Int) := by omega
      obtain ⟨b2, o2, rfl, y1⟩ := (HSA2.out.below hb).cell hkl
      have HST : Hid (L.drop k = L.getD k ByteArray.empty :: L.drop (k + 1)) := by
        show _ = _
        rw [List.drop_eq_getElem_cons hkl]; simp [List.getD, hkl]
      have HSTEP : Hid (findF d.files q (L.drop k) = if (d.files.getD q f0).dir then (match namedI (d.files.getD q f0).list (L.getD k ByteArray.empty) with
          | none => (0, 3)
          | some j => findF d.files (placeOf d.files ((d.files.getD q f0).list.getD j lk0).2) (L.drop (k + 1))) else (0, 7)) := by
        show _ = _
        rw [HST.out]; rfl
      obtain ⟨b3, o3, e3, hfi⟩ := (HF.out.below HBW.out).file hq
      injection e3 with e3
      injection e3 with e31 e32
      subst e31; subst e32
      have HNV : Hid (NodeVal wr (.agg #[.pointer (some ⟨a, o + q * 5, none⟩)]) (d.files.getD q f0)) := ⟨_, _, rfl, hfi⟩
      obtain ⟨ab, cb, al, cl, ⟨_, c1, _, _, _⟩, _, _⟩ := hfi
      have HSM : Hid (SmallF (d.files.getD q f0)) := HS.out.2 _ (getD_mem hq)
      have HAT : Hid (∀ j, j < (d.files.getD q f0).list.length → ∃ p, atI d.files ((d.files.getD q f0).list.getD j lk0).2 = some p ∧ p < d.files.length) := fun j hj => HSD.out.at hq hj
      generalize L.getD k ByteArray.empty = nme at y1 HSTEP
      generalize d.files.getD q f0 = f at c1 HNV HSM HAT HSTEP
      clear HST
      cases hd : f.dir
      · have HR : Hid (findF d.files 0 L = (0, 7)) := by show _ = _; rw [HE.out, HSTEP.out, hd]; rfl
        rw [hd] at c1
        go_wp2_with fail
        refine bodyPost_ret (v := .tuple #[.agg #[.pointer none], .int .i64 7]) (by simp [results, Tryz.results48, go_sem, r0]) rfl ⟨findIs_no HR.out (by decide), ?_⟩
        exact HBW.out.setCell (p := ⟨w.heap.size, 0, none⟩) (Nat.le_refl _) _
      · rw [hd] at c1
        have HLK := linked_any _ f nme wr HNV.out HSM.out
        have HLC : Hid (Calls Tryz.prog 82 #[.agg #[.pointer (some ⟨a, o + q * 5, none⟩)], .string nme] wr fun e w' => e = .returned (.tuple #[.int .i64 (linkedI f.list nme).1, .bool (linkedI f.list nme).2]) ∧ Below wr.heap.size wr w') := HLK
        clear HLK
        cases hnm : namedI f.list nme with
        | none =>
          have HR : Hid (findF d.files 0 L = (0, 3)) := by show _ = _; rw [HE.out, HSTEP.out, hd, hnm]; rfl
          have hlk : linkedI f.list nme = (0, false) := by unfold linkedI; rw [hnm]
          rw [hlk] at HLC
          go_wp2_with fail
          refine HLC.out.mono ?_
          rintro e w4 ⟨rfl, hb4⟩
          have HB4 : Hid (Below w.heap.size w w4) := nwT HBW.out hb4
          obtain ⟨s0, sf⟩ := one_cell ((hb4.block _ (Array.getElem?_eq_some_iff.1 HRW.out).1).trans HRW.out)
          clear hb4 hlk
          go_wp2_with fail
          refine bodyPost_ret (v := .tuple #[.agg #[.pointer none], .int .i64 3]) (by simp [results, Tryz.results48, go_sem, s0]) rfl ⟨findIs_no HR.out (by decide), ?_⟩
          exact HB4.out.setCell (p := ⟨w.heap.size, 0, none⟩) (Nat.le_refl _) _
        | some j =>
          have hj := namedI_lt hnm
          obtain ⟨pp, hpp, hppl⟩ := HAT.out j hj
          have hlk : linkedI f.list nme = ((f.list.getD j lk0).2, true) := by unfold linkedI; rw [hnm]
          rw [hlk] at HLC
          have HR : Hid (findF d.files 0 L = findF d.files pp (L.drop (k + 1))) := by
            show _ = _
            rw [HE.out, HSTEP.out, hd, hnm]
            simp only [if_true, placeOf]
            rw [hpp]; rfl
          have HPP : Hid (atI d.files (f.list.getD j lk0).2 = some pp) := hpp
          generalize (f.list.getD j lk0).2 = y at HLC HPP
          clear hlk hpp HSTEP HAT
          go_wp2_with fail
          refine HLC.out.mono ?_
          rintro e w4 ⟨rfl, hb4⟩
          have HB4 : Hid (Below w2.heap.size w2 w4) := nwT hb hb4
          have HN4 : Hid (w4.heap[w2.heap.size]? = some (.cells #[.pointer (some ⟨a, o + q * 5, none⟩)] 81 (0, 0))) := (hb4.block _ (Array.getElem?_eq_some_iff.1 HN.out).1).trans HN.out
          clear hb4 r0 rf n0 nf y1 c1 HRW hn1 hr1
          go_wp2_with fail
          refine (file_any B d y pp _ (HV.out.below (nwT HB2.out HB4.out)) hfl HPP.out).mono ?_
          rintro e w5 ⟨⟨vv, rfl, hno⟩, hb5⟩
          have HB5 : Hid (Below w2.heap.size w2 w5) := nwT HB4.out hb5
          have hve := hno.eq (((nwT HB2.out HB5.out).block _ hBl).trans HBK.out)
          subst hve
          have HN5 : Hid (w5.heap[w2.heap.size]? = some (.cells #[.pointer (some ⟨a, o + q * 5, none⟩)] 81 (0, 0))) := (hb5.block _ (Array.getElem?_eq_some_iff.1 HN4.out).1).trans HN4.out
          obtain ⟨s0, sf⟩ := one_cell HN5.out
          have HN6 : Hid ((w5.setCell ⟨w2.heap.size, 0, none⟩ (.pointer (some ⟨a, o + pp * 5, none⟩))).heap[w2.heap.size]? = some (.cells #[.pointer (some ⟨a, o + pp * 5, none⟩)] 81 (0, 0))) := one_set HN5.out
          have HB6 : Hid (Below w2.heap.size w2 (w5.setCell ⟨w2.heap.size, 0, none⟩ (.pointer (some ⟨a, o + pp * 5, none⟩)))) := HB5.out.setCell (p := ⟨w2.heap.size, 0, none⟩) (Nat.le_refl _) _
          clear hno hb5
          go_wp2_with fail
          go_roundw
          case rel => exact ⟨k + 1, pp, by omega, by go_num, hppl, HR, HB6.out, HN6⟩
          case measure => simp [intOf]; omega
    · have hkli : ¬ (k : Int) < (L.length : Int) := by omega
      have HR : Hid (findF d.files 0 L = (q, 0)) := by show _ = _; rw [HE.out, List.drop_of_length_le (by omega)]; rfl
      go_wp2_with fail
      refine bodyPost_ret (v := .tuple #[.agg #[.pointer (some ⟨a, o + q * 5, none⟩)], .int .i64 0]) (by simp [results, Tryz.results48, go_sem, r0]) rfl ⟨findIs_yes HR.out ⟨a, o, cv, ?_, hq, rfl⟩, ?_⟩
      · exact (Below.heap_setCell _ _ _ _ (by show B ≠ w.heap.size; omega)).trans ((HBW.out.block B hBl).trans HBK.out)
      · exact HBW.out.setCell (p := ⟨w.heap.size, 0, none⟩) (Nat.le_refl _) _

end Go.Proofs.YtdpighcaieajjaaGreat
