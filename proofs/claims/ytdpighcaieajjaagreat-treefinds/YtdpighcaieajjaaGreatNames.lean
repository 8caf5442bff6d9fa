/- Which names a directory may have, by the program. -/
import Derived.Test.YtdpighcaieajjaaGreatNode
namespace Go.Proofs.YtdpighcaieajjaaGreat
open Go.RowKit

def NameOk (l : List LinkD) (k : Nat) : Prop := nm (l.getD k lk0).1 = true ∧ (0 < k → ltS (l.getD (k - 1) lk0).1 (l.getD k lk0).1 = true)
def NamesOk (l : List LinkD) : Prop := l.length ≤ 8 ∧ ∀ k, k < l.length → NameOk l k

theorem check_is (s : ByteArray) (w : World) (n : Int) (h : errI (nm s) = n) : Calls Tryz.prog 128 #[.string s] w fun e w' => e = .returned (.int .i64 n) ∧ w' = w := by
  rw [← h]; exact check_any s w

set_option maxRecDepth 100000 in
set_option maxHeartbeats 2000000 in
theorem names_any (v : Value) (f : FileD) (w : World) (hv : NodeVal w v f) (hs : SmallF f) :
    Calls Tryz.prog 124 #[v] w fun e w' => SaysB e (NamesOk f.list) ∧ Below w.heap.size w w' := by
  obtain ⟨b, o, rfl, hf⟩ := hv
  obtain ⟨ab, cb, al, cl, ⟨c0, c1, c2, c3, c4⟩, _, hli, _⟩ := hf
  obtain ⟨fid, fdir, fsize, fbl, fli⟩ := f
  simp only [SmallF] at *
  have hl := hs.2
  have HL : Hid (LinksAt w al fli) := hli
  clear hli hs c0 c1 c2 c3
  have hb : b < w.heap.size := block_lt_of_cell c4
  by_cases h8 : fli.length ≤ 8
  · have h8i : ¬ (8 : Int) < (fli.length : Int) := by omega
    have HX : Hid (NamesOk fli ↔ ∀ k, k < fli.length → NameOk fli k) := ⟨fun h => h.2, fun h => ⟨h8, h⟩⟩
    go_enter Tryz.func124, Tryz.ntmps124
    go_wp2_with fail
    obtain ⟨W0, hW0⟩ : ∃ W0, W0 = w.alloc (.cells #[.pointer (some ⟨b, o, none⟩)] 81) := ⟨_, rfl⟩
    have HB0 : Hid (Below w.heap.size w W0) := by rw [hW0]; exact nwA (nwR w) _
    have HP : Hid (W0.cell? ⟨w.heap.size, 0, none⟩ = some (.pointer (some ⟨b, o, none⟩))) := by rw [hW0]; show _ = _; simp
    have HC : Hid (W0.cell? ⟨b, o + 4, none⟩ = some (.slice al fli.length cl)) := (HB0.out.cell (p := ⟨b, o + 4, none⟩) hb).trans c4
    have HL0 : Hid (LinksAt W0 al fli) := HL.out.below HB0.out
    rw [← hW0]
    clear hW0 c4 HL
    go_loopw [18] (fun i wr => ∃ (k : Nat), k ≤ fli.length ∧ i = .int .i64 k ∧ Below W0.heap.size W0 wr ∧ Hid (∀ j, j < k → NameOk fli j))
      (fun i _ => fli.length - (intOf i).toNat)
    case atStart => exact ⟨0, by omega, rfl, nwR _, fun j hj => by omega⟩
    case round =>
      obtain ⟨k, hk, rfl, hbr, HE⟩ := hrel
      by_cases hlt : k < fli.length
      · have hlti : (k : Int) < (fli.length : Int) := by omega
        obtain ⟨b2, o2, rfl, d1, d2⟩ := (HL0.out.below hbr).cell hlt
        have HN2 : Hid (NameOk fli k → ∀ j, j < k + 1 → NameOk fli j) := fun h j hj => by
          by_cases e : j = k
          · subst e; exact h
          · exact HE.out j (by omega)
        have HNK : Hid (NameOk fli k ↔ (nm (fli.getD k lk0).1 = true ∧ (0 < k → ltS (fli.getD (k - 1) lk0).1 (fli.getD k lk0).1 = true))) := Iff.rfl
        have HLB : Hid (LinksAt wr (some ⟨b2, o2, none⟩) fli) := HL0.out.below hbr
        generalize fli.getD k lk0 = x at d1 d2 HNK
        obtain ⟨x1, x2⟩ := x
        simp only at d1 d2 HNK
        go_wp2_with fail
        obtain ⟨W1, hW1⟩ : ∃ W1, W1 = wr.alloc (.cells #[.string x1, .int .i64 x2] 87) := ⟨_, rfl⟩
        have HB1 : Hid (Below wr.heap.size wr W1) := by rw [hW1]; exact nwA (nwR wr) _
        have HBB : Hid (Below w.heap.size w W1) := nwT HB0.out (nwT hbr HB1.out)
        have HBW : Hid (Below W0.heap.size W0 W1) := nwT hbr HB1.out
        have y0 : W1.cell? ⟨wr.heap.size, 0, none⟩ = some (.string x1) := by rw [hW1]; simp
        have p0 : W1.cell? ⟨w.heap.size, 0, none⟩ = some (.pointer (some ⟨b, o, none⟩)) := (HBW.out.cell (p := ⟨w.heap.size, 0, none⟩) (block_lt_of_cell HP.out)).trans HP.out
        have q4 : W1.cell? ⟨b, o + 4, none⟩ = some (.slice (some ⟨b2, o2, none⟩) fli.length cl) := (HBW.out.cell (p := ⟨b, o + 4, none⟩) (block_lt_of_cell HC.out)).trans HC.out
        rw [← hW1]
        clear hW1 d1 d2
        cases hnm : nm x1
        · have HNO : Hid (¬ NamesOk fli) := fun h => by have := (HNK.out.1 (HX.out.1 h k hlt)).1; rw [hnm] at this; cases this
          have HE1 : Hid (errI (nm x1) = 1) := by rw [hnm]; rfl
          go_quiet (first | (go_at_call 128; exact Calls.quiet_of_same (check_is _ _ 1 HE1.out)) | fail)
          go_wp2_with fail
          go_ret
          exact ⟨says_no HNO.out, below_drewN HBB.out _⟩
        · have HE0 : Hid (errI (nm x1) = 0) := by rw [hnm]; rfl
          cases k with
          | zero =>
            have HOK : Hid (∀ j, j < 0 + 1 → NameOk fli j) := HN2.out (HNK.out.2 ⟨hnm, fun h => absurd h (by omega)⟩)
            have d0 : decide ((0 : Int) < ((0 : Nat) : Int)) = false := rfl
            go_quiet (first | (go_at_call 128; exact Calls.quiet_of_same (check_is _ _ 0 HE0.out)) | fail)
            go_wp2_with fail
            go_roundw
            case rel => exact ⟨0 + 1, by omega, by go_num, below_drewN HBW.out _, HOK⟩
            case measure => simp [intOf]; omega
          | succ m =>
            obtain ⟨b3, o3, e3, r1, _⟩ := HLB.out.cell (show m < fli.length by omega)
            injection e3 with e3
            injection e3 with e31 e32
            subst e31; subst e32
            have HNK2 : Hid (NameOk fli (m + 1) ↔ ltS (fli.getD m lk0).1 x1 = true) := ⟨fun h => by have := (HNK.out.1 h).2 (by omega); simpa using this, fun h => HNK.out.2 ⟨hnm, fun _ => by simpa using h⟩⟩
            have r0 : W1.cell? ⟨b2, o2 + m * 2, none⟩ = some (.string (fli.getD m lk0).1) := (HB1.out.cell (p := ⟨b2, o2 + m * 2, none⟩) (block_lt_of_cell r1)).trans r1
            clear r1 HLB
            generalize (fli.getD m lk0).1 = y at r0 HNK2
            have d0 : decide (0 < m + 1) = true := rfl
            have e1 : IntKind.i64.wrap ((m : Int) + 1 - 1) = (m : Int) := by rw [wrap_any (by omega) (by omega)]; omega
            have m0 : (0 : Int) ≤ (m : Int) := by omega
            have m1 : (m : Int) < (fli.length : Int) := by omega
            cases hlt2 : ltS y x1
            · have HNO : Hid (¬ NamesOk fli) := fun h => by have := HNK2.out.1 (HX.out.1 h (m + 1) hlt); rw [hlt2] at this; cases this
              have HLT : Hid (ltS y x1 = false) := hlt2
              have hlt3 : Op.bytesLess y.toList x1.toList = false := hlt2
              go_quiet (first | (go_at_call 128; exact Calls.quiet_of_same (check_is _ _ 0 HE0.out)) | fail)
              go_wp2_with fail
              go_ret
              exact ⟨says_no HNO.out, below_drewN HBB.out _⟩
            · have HOK : Hid (∀ j, j < m + 1 + 1 → NameOk fli j) := HN2.out (HNK2.out.2 hlt2)
              have hlt3 : Op.bytesLess y.toList x1.toList = true := hlt2
              go_quiet (first | (go_at_call 128; exact Calls.quiet_of_same (check_is _ _ 0 HE0.out)) | fail)
              go_wp2_with fail
              go_roundw
              case rel => exact ⟨m + 1 + 1, by omega, by go_num, below_drewN HBW.out _, HOK⟩
              case measure => simp [intOf]; omega
      · have hlti : ¬ (k : Int) < (fli.length : Int) := by omega
        have HY : Hid (NamesOk fli) := HX.out.2 (fun j hj => HE.out j (by omega))
        go_wp2_with fail
        go_ret
        exact ⟨says_yes HY.out, nwT HB0.out hbr⟩
  · have h8i : (8 : Int) < (fli.length : Int) := by omega
    have HNO : Hid (¬ NamesOk fli) := fun h => h8 h.1
    go_enter Tryz.func124, Tryz.ntmps124
    go_wp2_with fail
    go_ret
    exact ⟨says_no HNO.out, nwA (nwR w) _⟩

end Go.Proofs.YtdpighcaieajjaaGreat
