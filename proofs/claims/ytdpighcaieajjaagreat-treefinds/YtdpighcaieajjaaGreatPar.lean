/- The parent of a path, by the page. -/
import Derived.Test.YtdpighcaieajjaaGreatFind
import Derived.Test.YtdpighcaieajjaaGreatParent
namespace Go.Proofs.YtdpighcaieajjaaGreat
open Go.RowKit

theorem findF_lt {fs : List FileD} (h : Sound fs) (L : List ByteArray) : ∀ q, q < fs.length → (findF fs q L).1 < fs.length := by
  induction L with
  | nil => intro q hq; exact hq
  | cons n r ih =>
    intro q hq
    unfold findF
    split
    · split
      · exact h.1
      · rename_i k hk
        obtain ⟨j, hj, hjl⟩ := h.at hq (namedI_lt hk)
        have : placeOf fs ((fs.getD q f0).list.getD k lk0).2 = j := by unfold placeOf; rw [hj]; rfl
        rw [this]
        exact ih j hjl
    · exact h.1
def parF (fs : List FileD) (L : List ByteArray) : Nat × Int :=
  let r := findF fs 0 (L.take (L.length - 1))
  if r.2 = 0 then (if (fs.getD r.1 f0).dir then r else (0, 7)) else (0, r.2)

set_option maxRecDepth 100000 in
set_option maxHeartbeats 4000000 in
theorem parent_find (v : Value) (d : VolD) (a : Option Addr) (L : List ByteArray) (cL : Nat) (w : World) (hv : VolVal w v d) (hs : SmallV d) (hsd : Sound d.files) (hL : StrsAt w a L) (hl5 : L.length ≤ 4000) (hl1 : 0 < L.length) (hcL : L.length ≤ cL) :
    Calls Tryz.prog 66 #[v, .slice a L.length cL] w fun e w' => e = .returned (.tuple #[.int .i64 (parF d.files L).1, .int .i64 (parF d.files L).2]) ∧ Below w.heap.size w w' := by
  have HSV : Hid (SmallV d) := hs
  obtain ⟨av, ca, rfl, hfs, hcp⟩ := hv
  have HF : Hid (FilesAt w av d.files) := hfs
  have HN : Hid (StrsAt w a (L.take (L.length - 1))) := hL.take _
  clear hfs hs hL
  obtain ⟨vid, fr, snap, fs, next⟩ := d
  simp only at *
  have hl : fs.length ≤ 100000 := HSV.out.1
  have HSD : Hid (Sound fs) := hsd
  clear hsd
  have HVO : Hid (∀ w', FilesAt w' av fs → VolVal w' (.agg #[.int .i64 vid, .int .i64 fr, .bool snap, .slice av fs.length ca, .int .i64 next]) ⟨vid, fr, snap, fs, next⟩) := fun w' h => ⟨av, ca, rfl, h, hcp⟩
  obtain ⟨n, hn⟩ : ∃ n, L.length = n + 1 := ⟨L.length - 1, by omega⟩
  have hn1 : L.length - 1 = n := by omega
  have HPF : Hid (parF fs L = (if (findF fs 0 (L.take n)).2 = 0 then (if (fs.getD (findF fs 0 (L.take n)).1 f0).dir then findF fs 0 (L.take n) else (0, 7)) else (0, (findF fs 0 (L.take n)).2))) := by show _ = _; unfold parF; rw [hn1]
  rw [hn1] at HN
  have HNL : Hid ((L.take n).length = n) := by show _ = _; rw [List.length_take]; omega
  have HLT : Hid ((findF fs 0 (L.take n)).1 < fs.length) := findF_lt HSD.out _ 0 HSD.out.1
  clear hn1
  rw [hn] at hcL ⊢
  have HFD : Hid (∀ w' c, Below w.heap.size w w' → Calls Tryz.prog 16 #[.agg #[.int .i64 vid, .int .i64 fr, .bool snap, .slice av fs.length ca, .int .i64 next], .slice a n c] w' fun e w2 => e = .returned (.tuple #[.int .i64 (findF fs 0 (L.take n)).1, .int .i64 (findF fs 0 (L.take n)).2]) ∧ Below w'.heap.size w' w2) := fun w' c h => by
    have h2 := find_any _ ⟨vid, fr, snap, fs, next⟩ a (L.take n) c w' (HVO.out _ (HF.out.below h)) HSV.out HSD.out (HN.out.below h) (by rw [HNL.out]; omega)
    rw [HNL.out] at h2
    exact h2
  generalize findF fs 0 (L.take n) = R at HPF HLT HFD
  obtain ⟨r1, r2⟩ := R
  simp only at HPF HLT HFD
  clear HNL HN
  go_enter Tryz.func66, Tryz.ntmps66
  go_wp2_with fail
  obtain ⟨W0, hW0⟩ : ∃ W0, W0 = w.alloc (.cells #[.int .i64 vid, .int .i64 fr, .bool snap, .slice av fs.length ca, .int .i64 next] 24) := ⟨_, rfl⟩
  have HB0 : Hid (Below w.heap.size w W0) := by rw [hW0]; exact nwA (nwR w) _
  have HBX : Hid (W0.heap[w.heap.size]? = some (.cells #[.int .i64 vid, .int .i64 fr, .bool snap, .slice av fs.length ca, .int .i64 next] 24 (0, 0))) := by rw [hW0]; exact heap_alloc_new w _
  rw [← hW0]
  clear hW0
  have hS := nwR W0
  obtain ⟨x0, x1, x2, x3, x4, _⟩ := five HBX.out
  have z0 : ∀ w', Below W0.heap.size W0 w' → w'.cell? ⟨w.heap.size, 0, none⟩ = some (.int .i64 vid) := fun w' h => (h.cell (p := ⟨w.heap.size, 0, none⟩) (block_lt_of_cell x0)).trans x0
  have z1 : ∀ w', Below W0.heap.size W0 w' → w'.cell? ⟨w.heap.size, 1, none⟩ = some (.int .i64 fr) := fun w' h => (h.cell (p := ⟨w.heap.size, 1, none⟩) (block_lt_of_cell x1)).trans x1
  have z2 : ∀ w', Below W0.heap.size W0 w' → w'.cell? ⟨w.heap.size, 2, none⟩ = some (.bool snap) := fun w' h => (h.cell (p := ⟨w.heap.size, 2, none⟩) (block_lt_of_cell x2)).trans x2
  have z3 : ∀ w', Below W0.heap.size W0 w' → w'.cell? ⟨w.heap.size, 3, none⟩ = some (.slice av fs.length ca) := fun w' h => (h.cell (p := ⟨w.heap.size, 3, none⟩) (block_lt_of_cell x3)).trans x3
  have z4 : ∀ w', Below W0.heap.size W0 w' → w'.cell? ⟨w.heap.size, 4, none⟩ = some (.int .i64 next) := fun w' h => (h.cell (p := ⟨w.heap.size, 4, none⟩) (block_lt_of_cell x4)).trans x4
  have e1 : IntKind.i64.wrap ((n : Int) + 1 - 1) = (n : Int) := by rw [wrap_any (by omega) (by omega)]; omega
  have e3 : IntKind.i64.wrap (n : Int) = (n : Int) := wrap_any (by omega) (by omega)
  have e4 : (0 : Int) ≤ (n : Int) := by omega
  have e5 : (n : Int) ≤ (cL : Int) := by omega
  clear x0 x1 x2 x3 x4
  go_region_held3 (fun w' => Below W0.heap.size W0 w') (first | assumption | exact Below.drew (by assumption) | exact nwT (by assumption) (by assumption)) (first
    | (go_at_call 16; refine (HFD.out _ _ (nwT HB0.out (by assumption))).mono ?_; rintro e wT ⟨rfl, hbT⟩))
  have hbt : Below W0.heap.size W0 wT := by assumption
  have x3 := z3 wT hbt
  have HBT : Hid (Below w.heap.size w wT) := nwT HB0.out hbt
  clear z0 z1 z2 z3 z4 e1 e3
  by_cases h0 : r2 = 0
  · subst h0
    have hr1 : (r1 : Int) < (fs.length : Int) := by have := HLT.out; omega
    obtain ⟨b1, o1, rfl, hf⟩ := (HF.out.below HBT.out).file HLT.out
    obtain ⟨ab, cb, al, cl, ⟨_, c1, _, _, _⟩, _, _⟩ := hf
    cases hd : (fs.getD r1 f0).dir
    · rw [hd] at c1
      have HR : Hid (parF fs L = (0, 7)) := by show _ = _; rw [HPF.out, hd]; rfl
      go_wp2_with fail
      go_ret2
      exact ⟨by rw [HR.out]; rfl, HBT.out⟩
    · rw [hd] at c1
      have HR : Hid (parF fs L = (r1, 0)) := by show _ = _; rw [HPF.out, hd]; rfl
      go_wp2_with fail
      go_ret2
      exact ⟨by rw [HR.out]; rfl, HBT.out⟩
  · have HR : Hid (parF fs L = (0, r2)) := by show _ = _; rw [HPF.out, if_neg h0]
    have h0b : (r2 == 0) = false := beq_eq_false_iff_ne.2 h0
    go_wp2_with fail
    go_ret2
    exact ⟨by rw [HR.out]; rfl, HBT.out⟩

end Go.Proofs.YtdpighcaieajjaaGreat
