/- Whether all are reached, and how deep, by the program. -/
import Derived.Test.YtdpighcaieajjaaGreatMeas
namespace Go.Proofs.YtdpighcaieajjaaGreat
open Go.RowKit

theorem dirsOf_succ {fs : List FileD} {k : Nat} (h : k < fs.length) : dirsOf (fs.take (k + 1)) = dirsOf (fs.take k) + if (fs.getD k f0).dir then 1 else 0 := by
  unfold dirsOf
  rw [List.take_succ_eq_append_getElem h, List.filter_append, List.length_append]
  have e : fs.getD k f0 = fs[k] := by simp [List.getD, h]
  rw [e]
  cases hh : fs[k].dir <;> simp [hh]
theorem dirsOf_le (fs : List FileD) : dirsOf fs ≤ fs.length := List.length_filter_le _ _
def PathP (fs : List FileD) : Prop := (msr fs fs.length 0).1 = dirsOf fs ∧ (msr fs fs.length 0).2 ≤ 5

set_option maxRecDepth 100000 in
set_option maxHeartbeats 4000000 in
theorem pathsm_any (B : Nat) (d : VolD) (w : World) (hv : VolAt w B d) (hs : SmallV d) (hli : LinksIn d.files) (h1 : atI d.files 1 = some 0) (ht : Tame d.files d.files.length 0) (hm1 : (msr d.files d.files.length 0).1 ≤ 100000) (hm2 : (msr d.files d.files.length 0).2 ≤ 100000) :
    Calls Tryz.prog 97 #[.pointer (some ⟨B, 0, none⟩)] w fun e w' => SaysB e (PathP d.files) ∧ Below w.heap.size w w' := by
  have HV : Hid (VolAt w B d) := hv
  have HSV : Hid (SmallV d) := hs
  have HAT : Hid (atI d.files 1 = some 0) := h1
  have HT : Hid (Tame d.files d.files.length 0) := ht
  have HLI : Hid (LinksIn d.files) := hli
  have HM : Hid ((msr d.files d.files.length 0).1 ≤ 100000 ∧ (msr d.files d.files.length 0).2 ≤ 100000) := ⟨hm1, hm2⟩
  have HPP : Hid (PathP d.files ↔ ((msr d.files d.files.length 0).1 = dirsOf d.files ∧ (msr d.files d.files.length 0).2 ≤ 5)) := Iff.rfl
  have HME : Hid (∀ (v : Value) (w : World), VolAt w B d → NodeOf w B d v 0 → Calls Tryz.prog 109 #[.pointer (some ⟨B, 0, none⟩), v] w fun e w' => e = .returned (.tuple #[.int .i64 (msr d.files d.files.length 0).1, .int .i64 (msr d.files d.files.length 0).2]) ∧ Below w.heap.size w w') := fun v w h1 h2 => meas_any B d HSV.out HLI.out _ 0 v w h1 h2 HT.out hm1 hm2
  generalize PathP d.files = PP at HPP
  generalize msr d.files d.files.length 0 = mm at HPP HME
  obtain ⟨m1, m2⟩ := mm
  simp only at HPP HME
  obtain ⟨a, c, hB, hf, _⟩ := hv
  obtain ⟨x0, x1, x2, x3, x4, _⟩ := five hB
  have hlt := block_lt_of_cell x0
  simp only at hlt
  have HF : Hid (FilesAt w a d.files) := hf
  have hl := hs.1
  clear hf hB x0 x1 x2 x4 hs h1 ht hli hm1 hm2 HM HT HLI
  go_enter Tryz.func97, Tryz.ntmps97
  go_wp2_with fail
  clear x3
  go_loopw [3, 14] (fun n i wr => ∃ (k : Nat), k ≤ d.files.length ∧ i = .int .i64 k ∧ n = .int .i64 (dirsOf (d.files.take k)) ∧ Below w.heap.size w wr)
    (fun _ i _ => d.files.length - (intOf i).toNat)
  case atStart => exact ⟨0, by omega, rfl, rfl, nwR w⟩
  case round =>
    obtain ⟨k, hk, rfl, rfl, hb⟩ := hrel
    by_cases hkl : k < d.files.length
    · have hkli : (k : Int) < (d.files.length : Int) := by omega
      obtain ⟨b1, o1, rfl, hfi⟩ := (HF.out.below hb).file hkl
      obtain ⟨ab, cb, al, cl, ⟨c0, c1, c2, c3, c4⟩, _, _, _⟩ := hfi
      have HS : Hid (dirsOf (d.files.take (k + 1)) = dirsOf (d.files.take k) + if (d.files.getD k f0).dir then 1 else 0) := dirsOf_succ hkl
      have hle : dirsOf (d.files.take k) ≤ 100000 := by have := dirsOf_le (d.files.take k); rw [List.length_take] at this; omega
      generalize d.files.getD k f0 = f at c0 c1 c2 c3 c4 HS
      generalize dirsOf (d.files.take k) = D at HS hle
      obtain ⟨fid, fdir, fsize, fbl, fli⟩ := f
      simp only at c0 c1 c2 c3 c4 HS
      cases fdir
      · go_wp2_with fail
        go_roundw
        case rel => exact ⟨k + 1, by omega, by go_num, by rw [HS.out]; simp, nwA hb _⟩
        case measure => simp [intOf]; omega
      · go_wp2_with fail
        go_roundw
        case rel => exact ⟨k + 1, by omega, by go_num, by rw [HS.out]; simp, nwA hb _⟩
        case measure => simp [intOf]; omega
    · have hkli : ¬ (k : Int) < (d.files.length : Int) := by omega
      have e : d.files.take k = d.files := List.take_of_length_le (by omega)
      rw [e]
      have hle : dirsOf d.files ≤ 100000 := by have := dirsOf_le d.files; omega
      go_wp2_with fail
      refine (file_any B d 1 0 _ (HV.out.below hb) hl HAT.out).mono ?_
      rintro e w2 ⟨⟨vv, rfl, hno⟩, hb2⟩
      have HB3 : Hid (Below w.heap.size w w2) := nwT hb hb2
      have HNO : Hid (NodeOf w2 B d vv 0) := hno
      obtain ⟨ga2, go2, gc2, _, _, rfl⟩ := hno
      clear hb2 hb
      go_wp2_with fail
      refine (HME.out _ w2 (HV.out.below HB3.out) HNO.out).mono ?_
      rintro e w3 ⟨rfl, hb3⟩
      have HB4 : Hid (Below w.heap.size w w3) := nwT HB3.out hb3
      clear hb3 HNO
      generalize dirsOf d.files = D at HPP hle
      by_cases h1 : m1 = D
      · subst h1
        have HR : Hid ((decide ((m2 : Int) ≤ 5) = true) ↔ PP) := by
          show _ ↔ _
          rw [decide_eq_true_iff, HPP.out]
          constructor
          · intro h; exact ⟨rfl, by omega⟩
          · intro h; have := h.2; omega
        go_wp2_with fail
        go_ret
        exact ⟨⟨_, rfl, HR.out⟩, HB4.out⟩
      · have HN : Hid (¬ PP) := fun h => h1 (HPP.out.1 h).1
        have h1i : ((m1 : Int) == (D : Int)) = false := beq_eq_false_iff_ne.2 (by omega)
        go_wp2_with fail
        go_ret
        exact ⟨says_no HN.out, HB4.out⟩

end Go.Proofs.YtdpighcaieajjaaGreat
