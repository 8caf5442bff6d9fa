/- What a path finds, by the program. -/
import Derived.Test.YtdpighcaieajjaaGreatCopyw
import Derived.Test.YtdpighcaieajjaaGreatFace
namespace Go.Proofs.YtdpighcaieajjaaGreat
open Go.RowKit

def linkedI (l : List LinkD) (s : ByteArray) : Int × Bool := match namedI l s with
  | none => (0, false)
  | some k => ((l.getD k lk0).2, true)

set_option maxRecDepth 100000 in
set_option maxHeartbeats 1000000 in
theorem linked_any (v : Value) (f : FileD) (s : ByteArray) (w : World) (hv : NodeVal w v f) (hs : SmallF f) :
    Calls Tryz.prog 82 #[v, .string s] w fun e w' => e = .returned (.tuple #[.int .i64 (linkedI f.list s).1, .bool (linkedI f.list s).2]) ∧ Below w.heap.size w w' := by
  obtain ⟨b, o, rfl, hf⟩ := hv
  obtain ⟨ab, cb, al, cl, ⟨c0, c1, c2, c3, c4⟩, _, hli, _⟩ := hf
  obtain ⟨fid, fdir, fsize, fbl, fli⟩ := f
  simp only [SmallF] at *
  have hl := hs.2
  have HL : Hid (LinksAt w al fli) := hli
  clear hli hs
  have hb : b < w.heap.size := block_lt_of_cell c4
  go_enter Tryz.func82, Tryz.ntmps82
  go_wp2_with fail
  obtain ⟨W0, hW0⟩ : ∃ W0, W0 = w.alloc (.cells #[.pointer (some ⟨b, o, none⟩)] 81) := ⟨_, rfl⟩
  have HB0 : Hid (Below w.heap.size w W0) := by rw [hW0]; exact nwA (nwR w) _
  rw [← hW0]
  clear hW0 c0 c1 c2 c3 c4
  go_loopw [14] (fun i wr => ∃ (j : Nat), j ≤ fli.length ∧ i = .int .i64 j ∧ Below w.heap.size w wr ∧ Hid (∀ i, i < j → decide ((fli.getD i lk0).1 = s) = false))
    (fun i _ => fli.length - (intOf i).toNat)
  case atStart => exact ⟨0, by omega, rfl, HB0.out, fun j hj => by omega⟩
  case round =>
    obtain ⟨j, hj, rfl, hbr, HE⟩ := hrel
    by_cases hjl : j < fli.length
    · have hjli : (j : Int) < (fli.length : Int) := by omega
      obtain ⟨b2, o2, rfl, d1, d2⟩ := (HL.out.below hbr).cell hjl
      have HY : Hid ((fli.getD j lk0).1 = s → linkedI fli s = ((fli.getD j lk0).2, true)) := fun h => by
        have h2 : namedI fli s = some j := find_yes lk0 hjl (decide_eq_true h) (fun i hi => HE.out i hi)
        unfold linkedI; rw [h2]
      have HN : Hid (¬ (fli.getD j lk0).1 = s → ∀ i, i < j + 1 → decide ((fli.getD i lk0).1 = s) = false) := fun h i hi => by
        by_cases e : i = j
        · subst e; exact decide_eq_false h
        · exact HE.out i (by omega)
      generalize fli.getD j lk0 = x at d1 d2 HY HN
      obtain ⟨x1, x2⟩ := x
      simp only at d1 d2 HY HN
      by_cases he : x1 = s
      · have HR : Hid (linkedI fli s = (x2, true)) := HY.out he
        subst he
        go_wp2_with fail
        go_ret2
        exact ⟨by rw [HR.out]; rfl, nwA hbr _⟩
      · have HR := HN.out he
        have hel : (x1.toList == s.toList) = false := beq_eq_false_iff_ne.2 (fun h => he (by
          have h1 := Lib.toList_data x1; have h2 := Lib.toList_data s
          rw [h1, h2] at h
          cases x1; cases s; simp at h; rw [h]))
        clear he
        go_wp2_with fail
        go_roundw
        case rel => exact ⟨j + 1, by omega, by go_num, nwA hbr _, HR⟩
        case measure => simp [intOf]; omega
    · have hjli : ¬ (j : Int) < (fli.length : Int) := by omega
      have HR : Hid (linkedI fli s = (0, false)) := by
        have h2 : namedI fli s = none := find_no lk0 (fun i hi => HE.out i (by omega))
        show _ = _
        unfold linkedI; rw [h2]
      go_wp2_with fail
      go_ret2
      exact ⟨by rw [HR.out]; rfl, hbr⟩

end Go.Proofs.YtdpighcaieajjaaGreat
