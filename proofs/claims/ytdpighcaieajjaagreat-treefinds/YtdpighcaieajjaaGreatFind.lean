/- What a path finds, by the page. -/
import Derived.Test.YtdpighcaieajjaaGreatLinks
namespace Go.Proofs.YtdpighcaieajjaaGreat
open Go.RowKit

def placeOf (fs : List FileD) (id : Int) : Nat := (atI fs id).getD 0
def findF (fs : List FileD) : Nat → List ByteArray → Nat × Int
  | at', [] => (at', 0)
  | at', n :: r => if (fs.getD at' f0).dir then (match namedI (fs.getD at' f0).list n with
      | none => (0, 3)
      | some k => findF fs (placeOf fs ((fs.getD at' f0).list.getD k lk0).2) r) else (0, 7)
/-- each link names a file that is there -/
def Sound (fs : List FileD) : Prop := 0 < fs.length ∧ ∀ f ∈ fs, ∀ l ∈ f.list, (atI fs l.2).isSome = true

theorem atI_lt {fs : List FileD} {id : Int} {k : Nat} (h : atI fs id = some k) : k < fs.length := by
  unfold atI at h
  exact (List.findIdx?_eq_some_iff_getElem.1 h).1
theorem namedI_lt {l : List LinkD} {n : ByteArray} {k : Nat} (h : namedI l n = some k) : k < l.length := by
  unfold namedI at h
  exact (List.findIdx?_eq_some_iff_getElem.1 h).1
theorem Sound.at {fs : List FileD} (h : Sound fs) {i k : Nat} (hi : i < fs.length) (hk : k < (fs.getD i f0).list.length) : ∃ j, atI fs ((fs.getD i f0).list.getD k lk0).2 = some j ∧ j < fs.length := by
  have hf : fs.getD i f0 ∈ fs := by simp [List.getD, hi]
  have hm : (fs.getD i f0).list.getD k lk0 ∈ (fs.getD i f0).list := by
    have : (fs.getD i f0).list.getD k lk0 = (fs.getD i f0).list[k] := by rw [List.getD, List.getElem?_eq_getElem hk]; rfl
    rw [this]; exact List.getElem_mem hk
  have := h.2 _ hf _ hm
  obtain ⟨j, hj⟩ := Option.isSome_iff_exists.1 this
  exact ⟨j, hj, atI_lt hj⟩

set_option maxRecDepth 100000 in
set_option maxHeartbeats 4000000 in
theorem find_any (v : Value) (d : VolD) (a : Option Addr) (L : List ByteArray) (cL : Nat) (w : World) (hv : VolVal w v d) (hs : SmallV d) (hsd : Sound d.files) (hL : StrsAt w a L) (hl5 : L.length ≤ 4000) :
    Calls Tryz.prog 16 #[v, .slice a L.length cL] w fun e w' => e = .returned (.tuple #[.int .i64 (findF d.files 0 L).1, .int .i64 (findF d.files 0 L).2]) ∧ Below w.heap.size w w' := by
  obtain ⟨av, ca, rfl, hfs, hcp⟩ := hv
  have HF : Hid (FilesAt w av d.files) := hfs
  have HN : Hid (StrsAt w a L) := hL
  clear hfs hL
  obtain ⟨vid, fr, snap, fs, next⟩ := d
  simp only [SmallV] at *
  obtain ⟨hl, hs2⟩ := hs
  have HS : Hid (∀ f ∈ fs, SmallF f) := hs2
  have HSD : Hid (Sound fs) := hsd
  clear hs2 hsd
  have HVO : Hid (∀ w', FilesAt w' av fs → VolVal w' (.agg #[.int .i64 vid, .int .i64 fr, .bool snap, .slice av fs.length ca, .int .i64 next]) ⟨vid, fr, snap, fs, next⟩) := fun w' h => ⟨av, ca, rfl, h, hcp⟩
  go_enter Tryz.func16, Tryz.ntmps16
  go_wp2_with fail
  obtain ⟨W0, hW0⟩ : ∃ W0, W0 = w.alloc (.cells #[.int .i64 vid, .int .i64 fr, .bool snap, .slice av fs.length ca, .int .i64 next] 24) := ⟨_, rfl⟩
  have HB0 : Hid (Below w.heap.size w W0) := by rw [hW0]; exact nwA (nwR w) _
  have HF0 : Hid (FilesAt W0 av fs) := HF.out.below HB0.out
  have HN0 : Hid (StrsAt W0 a L) := HN.out.below HB0.out
  have HBX : Hid (W0.heap[w.heap.size]? = some (.cells #[.int .i64 vid, .int .i64 fr, .bool snap, .slice av fs.length ca, .int .i64 next] 24 (0, 0))) := by rw [hW0]; exact heap_alloc_new w _
  rw [← hW0]
  clear hW0 HF HN
  go_loopw [6, 7] (fun p i wr => ∃ (k q : Nat), k ≤ L.length ∧ i = .int .i64 k ∧ p = .int .i64 q ∧ q < fs.length ∧ Hid (findF fs 0 L = findF fs q (L.drop k)) ∧ Below W0.heap.size W0 wr)
    (fun _ i _ => L.length - (intOf i).toNat)
  case atStart => exact ⟨0, 0, by omega, rfl, rfl, HSD.out.1, rfl, nwR W0⟩
  case round =>
    obtain ⟨k, q, hk, rfl, rfl, hq, HE, hb⟩ := hrel
    have hbw := nwT HB0.out hb
    obtain ⟨x0, x1, x2, x3, x4, _⟩ := five ((hb.block _ (Array.getElem?_eq_some_iff.1 HBX.out).1).trans HBX.out)
    by_cases hlt : k < L.length
    · have hlti : (k : Int) < (L.length : Int) := by omega
      have hqi : (q : Int) < (fs.length : Int) := by omega
      have HST : Hid (L.drop k = L.getD k ByteArray.empty :: L.drop (k + 1)) := by
        show _ = _
        rw [List.drop_eq_getElem_cons hlt]; simp [List.getD, hlt]
      obtain ⟨b1, o1, rfl, hf⟩ := (HF0.out.below hb).file hq
      obtain ⟨ab, cb, al, cl, ⟨_, c1, _, _, c4⟩, _, hli, _⟩ := hf
      obtain ⟨b2, o2, rfl, y1⟩ := (HN0.out.below hb).cell hlt
      have hsm := (HS.out (fs.getD q f0) (by simp [List.getD, hq])).2
      have HLI : Hid (LinksAt wr al (fs.getD q f0).list) := hli
      have HAT : Hid (∀ j, j < (fs.getD q f0).list.length → ∃ p, atI fs ((fs.getD q f0).list.getD j lk0).2 = some p ∧ p < fs.length) := fun j hj => HSD.out.at hq hj
      have HSTEP : Hid (findF fs q (L.drop k) = if (fs.getD q f0).dir then (match namedI (fs.getD q f0).list (L.getD k ByteArray.empty) with
          | none => (0, 3)
          | some j => findF fs (placeOf fs ((fs.getD q f0).list.getD j lk0).2) (L.drop (k + 1))) else (0, 7)) := by
        show _ = _
        rw [HST.out]; rfl
      generalize fs.getD q f0 = f at c1 c4 hsm HLI HAT HSTEP
      obtain ⟨fid, fdir, fsize, fbl, fli⟩ := f
      simp only at c1 c4 hsm HLI HAT HSTEP
      generalize L.getD k ByteArray.empty = nme at y1 HSTEP
      clear hli HST
      cases fdir
      · have HR : Hid (findF fs 0 L = (0, 7)) := by show _ = _; rw [HE.out, HSTEP.out]; rfl
        go_wp2_with fail
        go_ret2
        exact ⟨by rw [HR.out]; rfl, hbw⟩
      · have hS := nwR wr
        have z0 : ∀ w', Below wr.heap.size wr w' → w'.cell? ⟨w.heap.size, 0, none⟩ = some (.int .i64 vid) := fun w' h => (h.cell (p := ⟨w.heap.size, 0, none⟩) (block_lt_of_cell x0)).trans x0
        have z1 : ∀ w', Below wr.heap.size wr w' → w'.cell? ⟨w.heap.size, 1, none⟩ = some (.int .i64 fr) := fun w' h => (h.cell (p := ⟨w.heap.size, 1, none⟩) (block_lt_of_cell x1)).trans x1
        have z2 : ∀ w', Below wr.heap.size wr w' → w'.cell? ⟨w.heap.size, 2, none⟩ = some (.bool snap) := fun w' h => (h.cell (p := ⟨w.heap.size, 2, none⟩) (block_lt_of_cell x2)).trans x2
        have z3 : ∀ w', Below wr.heap.size wr w' → w'.cell? ⟨w.heap.size, 3, none⟩ = some (.slice (some ⟨b1, o1, none⟩) fs.length ca) := fun w' h => (h.cell (p := ⟨w.heap.size, 3, none⟩) (block_lt_of_cell x3)).trans x3
        have z4 : ∀ w', Below wr.heap.size wr w' → w'.cell? ⟨w.heap.size, 4, none⟩ = some (.int .i64 next) := fun w' h => (h.cell (p := ⟨w.heap.size, 4, none⟩) (block_lt_of_cell x4)).trans x4
        have z5 : ∀ w', Below wr.heap.size wr w' → w'.cell? ⟨b1, o1 + q * 5 + 4, none⟩ = some (.slice al fli.length cl) := fun w' h => (h.cell (p := ⟨b1, o1 + q * 5 + 4, none⟩) (block_lt_of_cell c4)).trans c4
        have z6 : ∀ w', Below wr.heap.size wr w' → w'.cell? ⟨b2, o2 + k, none⟩ = some (.string nme) := fun w' h => (h.cell (p := ⟨b2, o2 + k, none⟩) (block_lt_of_cell y1)).trans y1
        have hq0 : (0 : Int) ≤ (q : Int) := by omega
        have hk0 : (0 : Int) ≤ (k : Int) := by omega
        have HFW : Hid (FilesAt wr (some ⟨b1, o1, none⟩) fs) := HF0.out.below hb
        clear x0 x1 x2 x4 y1
        go_wp2_with fail
        clear x3 c1 c4
        go_region_held3 (fun w' => Below wr.heap.size wr w') (first | assumption | exact Below.drew (by assumption) | exact nwT (by assumption) (by assumption)) (first
          | (go_at_call 50; refine (named_any al fli cl nme _ (HLI.out.below (by assumption)) hsm).mono ?_; rintro e wT ⟨rfl, rfl⟩))
        cases hnm : namedI fli nme with
        | none =>
          have HR : Hid (findF fs 0 L = (0, 3)) := by show _ = _; rw [HE.out, HSTEP.out, hnm]; rfl
          simp only [optI]
          clear z0 z1 z2 z3 z4 z5 z6
          go_wp2_with fail
          go_ret2
          exact ⟨by rw [HR.out]; rfl, hbw.drew⟩
        | some j =>
          have hj := namedI_lt hnm
          have hji : (j : Int) < (fli.length : Int) := by omega
          have hj0 : (0 : Int) ≤ (j : Int) := by omega
          obtain ⟨p, hp, hpl⟩ := HAT.out j hj
          have HR : Hid (findF fs 0 L = findF fs p (L.drop (k + 1))) := by
            show _ = _
            rw [HE.out, HSTEP.out, hnm]
            simp only [if_true, placeOf]
            rw [hp]; rfl
          obtain ⟨b3, o3, rfl, _, d2⟩ := HLI.out.cell hj
          have HP : Hid (atI fs (fli.getD j lk0).2 = some p) := hp
          generalize (fli.getD j lk0).2 = z at d2 HP
          have z7 : ∀ w', Below wr.heap.size wr w' → w'.cell? ⟨b3, o3 + j * 2 + 1, none⟩ = some (.int .i64 z) := fun w' h => (h.cell (p := ⟨b3, o3 + j * 2 + 1, none⟩) (block_lt_of_cell d2)).trans d2
          simp only [optI]
          clear hp d2 HSTEP HAT
          go_wp2_with fail
          go_region_held3 (fun w' => Below wr.heap.size wr w') (first | assumption | exact Below.drew (by assumption) | exact nwT (by assumption) (by assumption)) (first
            | (go_at_call 51; refine (at_any _ ⟨vid, fr, snap, fs, next⟩ z _ (HVO.out _ (HFW.out.below (by assumption))) hl).mono ?_; rintro e wU ⟨rfl, hbU⟩))
          have hbu : Below wr.heap.size wr wU := by assumption
          simp only [HP.out, optI]
          clear z0 z1 z2 z3 z4 z5 z6 z7
          go_wp2_with fail
          go_roundw
          case rel => exact ⟨k + 1, p, by omega, by go_num, rfl, hpl, HR.out, nwT hb hbu⟩
          case measure => simp [intOf]; omega
    · have hlti : ¬ (k : Int) < (L.length : Int) := by omega
      have HR : Hid (findF fs 0 L = (q, 0)) := by show _ = _; rw [HE.out, List.drop_of_length_le (by omega)]; rfl
      go_wp2_with fail
      go_ret2
      exact ⟨by rw [HR.out]; rfl, hbw⟩

end Go.Proofs.YtdpighcaieajjaaGreat
