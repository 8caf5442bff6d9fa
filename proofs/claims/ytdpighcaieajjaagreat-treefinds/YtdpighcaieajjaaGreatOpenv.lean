/- A volume opened by the program: checked, and copied. -/
import Derived.Test.YtdpighcaieajjaaGreatFindw
namespace Go.Proofs.YtdpighcaieajjaaGreat
open Go.RowKit

/-- a volume of one's own, at a block -/
def OwnPtr (w : World) (base B : Nat) (d : VolD) : Prop := base ≤ B ∧ ∃ fv, w.heap[B]? = some (.cells #[.int .i64 d.id, .int .i64 d.fr, .bool d.snap, fv, .int .i64 d.next] 104 (0, 0)) ∧ OwnFilesX w base fv d.files
theorem OwnPtr.at {w : World} {base B : Nat} {d : VolD} (h : OwnPtr w base B d) : VolAt w B d := by
  obtain ⟨_, fv, h1, h2⟩ := h
  obtain ⟨a, c, rfl, hf, hc⟩ := h2.plain.at
  exact ⟨a, c, h1, hf, hc⟩
theorem OwnPtr.below {w w' : World} {base B : Nat} {d : VolD} (h : OwnPtr w base B d) (hb : Below w.heap.size w w') : OwnPtr w' base B d := by
  obtain ⟨h0, fv, h1, h2⟩ := h
  exact ⟨h0, fv, (hb.block _ (Array.getElem?_eq_some_iff.1 h1).1).trans h1, h2.below hb⟩
theorem OwnPtr.le {w : World} {base base' B : Nat} {d : VolD} (h : OwnPtr w base B d) (hb : base' ≤ base) : OwnPtr w base' B d := by
  obtain ⟨h0, fv, h1, h2⟩ := h
  exact ⟨by omega, fv, h1, h2.le hb⟩
def PathsOk (ps : List ByteArray) : Prop := ∀ p ∈ ps, (pathN p).isSome = true
def OpenIs (d : VolD) (ps : List ByteArray) (base : Nat) (e : Ending) (w' : World) : Prop :=
  (VolOk d ∧ PathsOk ps ∧ ∃ B, e = .returned (.tuple #[.pointer (some ⟨B, 0, none⟩), .int .i64 0]) ∧ OwnPtr w' base B d) ∨ (¬ (VolOk d ∧ PathsOk ps) ∧ e = .returned (.tuple #[.pointer none, .int .i64 1]))

set_option maxRecDepth 100000 in
set_option maxHeartbeats 4000000 in
theorem open_any (v : Value) (d : VolD) (sa : Option Addr) (ps : List ByteArray) (sc : Nat) (w : World) (hv : VolVal w v d) (hs : SmallV d) (hp : StrsAt w sa ps) (hpl : ps.length ≤ 100000) :
    Calls Tryz.prog 47 #[v, .slice sa ps.length sc] w fun e w' => OpenIs d ps w.heap.size e w' ∧ Below w.heap.size w w' := by
  have HVV : Hid (VolVal w v d) := hv
  have HS : Hid (SmallV d) := hs
  have HPS : Hid (StrsAt w sa ps) := hp
  obtain ⟨a, ca, rfl, hfs, hcp⟩ := hv
  have HBX : Hid ((w.alloc (.cells #[.int .i64 d.id, .int .i64 d.fr, .bool d.snap, .slice a d.files.length ca, .int .i64 d.next] 24)).heap[w.heap.size]? = some (.cells #[.int .i64 d.id, .int .i64 d.fr, .bool d.snap, .slice a d.files.length ca, .int .i64 d.next] 24 (0, 0))) := heap_alloc_new w _
  have HB0 : Hid (Below w.heap.size w (w.alloc (.cells #[.int .i64 d.id, .int .i64 d.fr, .bool d.snap, .slice a d.files.length ca, .int .i64 d.next] 24))) := nwA (nwR w) _
  clear hfs hcp hs hp
  go_enter Tryz.func47, Tryz.ntmps47
  go_wp2_with fail
  refine (checkv_any _ d _ (HVV.out.below HB0.out) HS.out).mono ?_
  rintro e w1 ⟨⟨t, ht, rfl⟩, hb1⟩
  have HB1 : Hid (Below w.heap.size w w1) := nwT HB0.out hb1
  have HBX1 : Hid (w1.heap[w.heap.size]? = some (.cells #[.int .i64 d.id, .int .i64 d.fr, .bool d.snap, .slice a d.files.length ca, .int .i64 d.next] 24 (0, 0))) := (hb1.block _ (Array.getElem?_eq_some_iff.1 HBX.out).1).trans HBX.out
  clear hb1 HB0 HBX
  cases t
  · have HN : Hid (¬ (VolOk d ∧ PathsOk ps)) := fun h => by have := ht.2 h.1; cases this
    rw [errI_f]
    clear ht
    go_wp2_with fail
    go_ret2
    exact ⟨.inr ⟨HN.out, rfl⟩, HB1.out⟩
  · have HOK : Hid (VolOk d) := ht.1 rfl
    rw [errI_t]
    clear ht
    go_wp2_with fail
    go_loopw [17] (fun i wr => ∃ (k : Nat), k ≤ ps.length ∧ i = .int .i64 k ∧ Below w1.heap.size w1 wr ∧ Hid (∀ j, j < k → (pathN (ps.getD j ByteArray.empty)).isSome = true))
      (fun i _ => ps.length - (intOf i).toNat)
    case atStart => exact ⟨0, by omega, rfl, nwR w1, fun j hj => by omega⟩
    case round =>
      obtain ⟨k, hk, rfl, hb, HE⟩ := hrel
      have HBR : Hid (Below w.heap.size w wr) := nwT HB1.out hb
      by_cases hkl : k < ps.length
      · have hkli : (k : Int) < (ps.length : Int) := by omega
        obtain ⟨b2, o2, rfl, y1⟩ := (HPS.out.below HBR.out).cell hkl
        have HNO : Hid ((pathN (ps.getD k ByteArray.empty)).isSome = false → ¬ (VolOk d ∧ PathsOk ps)) := fun h hh => by
          have := hh.2 _ (by simp [List.getD, hkl] : ps.getD k ByteArray.empty ∈ ps)
          rw [h] at this; cases this
        have HK : Hid ((pathN (ps.getD k ByteArray.empty)).isSome = true → ∀ j, j < k + 1 → (pathN (ps.getD j ByteArray.empty)).isSome = true) := fun h j hj => by
          by_cases e : j = k
          · subst e; exact h
          · exact HE.out j (by omega)
        generalize ps.getD k ByteArray.empty = p at y1 HNO HK
        go_wp2_with fail
        refine (path_any p _).mono ?_
        rintro e w2 ⟨rfl, hb2⟩
        have HB2 : Hid (Below w1.heap.size w1 w2) := nwT hb hb2
        clear hb2 y1
        cases hpp : (pathN p).isSome
        · have HN := HNO.out hpp
          rw [errI_f]
          have HN2 : Hid (¬ (VolOk d ∧ PathsOk ps)) := HN
          clear HN HNO HK
          go_wp2_with fail
          go_ret2
          exact ⟨.inr ⟨HN2.out, rfl⟩, nwT HB1.out HB2.out⟩
        · have HR := HK.out hpp
          have HR2 : Hid (∀ j, j < k + 1 → (pathN (ps.getD j ByteArray.empty)).isSome = true) := HR
          rw [errI_t]
          clear HR HNO HK
          go_wp2_with fail
          go_roundw
          case rel => exact ⟨k + 1, by omega, by go_num, HB2.out, HR2⟩
          case measure => simp [intOf]; omega
      · have hkli : ¬ (k : Int) < (ps.length : Int) := by omega
        have HPK : Hid (PathsOk ps) := fun p hp => by
          obtain ⟨j, hj, rfl⟩ := List.getElem_of_mem hp
          have := HE.out j (by omega)
          simpa [List.getD, hj] using this
        obtain ⟨x0, x1, x2, x3, x4, _⟩ := five ((hb.block _ (Array.getElem?_eq_some_iff.1 HBX1.out).1).trans HBX1.out)
        have HPOS : Hid (0 < d.files.length) := HOK.out.2.1.1.1
        clear HE
        go_wp2_with fail
        refine (copyOf_any _ d _ (HVV.out.below HBR.out) HS.out HPOS.out).mono ?_
        rintro e w2 ⟨⟨u, rfl, fv, rfl, hof⟩, hb2⟩
        have HB2 : Hid (Below w.heap.size w w2) := nwT HBR.out hb2
        have HOF : Hid (OwnFilesX w2 w.heap.size fv d.files) := hof.le HBR.out.size
        have hwl : w.heap.size ≤ w2.heap.size := HB2.out.size
        obtain ⟨fa, fc, rfl, _, _⟩ := hof.plain.at
        clear hof hb2 x0 x1 x2 x3 x4
        go_wp2_with fail
        go_ret2
        exact ⟨.inl ⟨HOK.out, HPK.out, _, rfl, hwl, _, heap_alloc_new w2 _, HOF.out.below (nwA (nwR w2) _)⟩, nwA HB2.out _⟩

end Go.Proofs.YtdpighcaieajjaaGreat
