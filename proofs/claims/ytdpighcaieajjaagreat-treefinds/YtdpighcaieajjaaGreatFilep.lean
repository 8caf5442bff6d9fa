/- Which files may be, by the page: plain files. -/
import Derived.Test.YtdpighcaieajjaaGreatPut
import Derived.Test.YtdpighcaieajjaaGreatDeep
import Derived.Test.YtdpighcaieajjaaGreatNew
namespace Go.Proofs.YtdpighcaieajjaaGreat
open Go.RowKit

def LinkOk (fs : List FileD) (l : List LinkD) (k : Nat) : Prop := nm (l.getD k lk0).1 = true ∧ (0 < k → ltS (l.getD (k - 1) lk0).1 (l.getD k lk0).1 = true) ∧ (atI fs (l.getD k lk0).2).isSome = true
def PlainOk (f : FileD) : Prop := f.list.length = 0 ∧ numB f.size 200 = true ∧ (f.blocks.length : Int) = (f.size + 31) / 32 ∧ ∀ k, k < f.blocks.length → numB (f.blocks.getD k 0) 1073741823 = true
def DirOk (fs : List FileD) (f : FileD) : Prop := f.size = 0 ∧ f.blocks.length = 0 ∧ f.list.length ≤ 8 ∧ ∀ k, k < f.list.length → LinkOk fs f.list k
def SaysB (e : Ending) (P : Prop) : Prop := ∃ b : Bool, e = .returned (.bool b) ∧ (b = true ↔ P)
theorem says_no {P : Prop} (h : ¬ P) : SaysB (.returned (.bool false)) P := ⟨false, rfl, by simp [h]⟩
theorem says_yes {P : Prop} (h : P) : SaysB (.returned (.bool true)) P := ⟨true, rfl, by simp [h]⟩
theorem num_is (n most : Int) (w : World) (b : Bool) (h : numB n most = b) : Calls Tryz.prog 43 #[.int .i64 n, .int .i64 most] w fun e w' => e = .returned (.bool b) ∧ w' = w := by
  rw [← h]; exact num_in n most w

set_option maxRecDepth 100000 in
set_option maxHeartbeats 2000000 in
theorem file_plain (v u : Value) (d : VolD) (f : FileD) (w : World) (hv : VolVal w v d) (hu : FileVal w u f) (hs : SmallF f) (hd : f.dir = false) :
    Calls Tryz.prog 44 #[v, u] w fun e w' => SaysB e (PlainOk f) ∧ Below w.heap.size w w' := by
  obtain ⟨av, ca, rfl, _, _⟩ := hv
  obtain ⟨ab, cb, al, cl, rfl, ⟨hib, _⟩, _, _⟩ := hu
  obtain ⟨vid, fr, snap, fs, next⟩ := d
  obtain ⟨fid, fdir, fsize, fbl, fli⟩ := f
  simp only [SmallF, fcells] at *
  subst hd
  obtain ⟨hl1, hl2⟩ := hs
  have HI : Hid (IntsAt w ab fbl) := hib
  clear hib
  go_enter Tryz.func44, Tryz.ntmps44
  go_wp2_with fail
  obtain ⟨W0, hW0⟩ : ∃ W0, W0 = (w.alloc (.cells #[.int .i64 vid, .int .i64 fr, .bool snap, .slice av fs.length ca, .int .i64 next] 24)).alloc (.cells #[.int .i64 fid, .bool false, .int .i64 fsize, .slice ab fbl.length cb, .slice al fli.length cl] 39) := ⟨_, rfl⟩
  have HB0 : Hid (Below w.heap.size w W0) := by rw [hW0]; exact nwA (nwA (nwR w) _) _
  have HI0 : Hid (IntsAt W0 ab fbl) := HI.out.below HB0.out
  have HBX : Hid (W0.heap[w.heap.size + 1]? = some (.cells #[.int .i64 fid, .bool false, .int .i64 fsize, .slice ab fbl.length cb, .slice al fli.length cl] 39 (0, 0))) := by rw [hW0]; exact heap_alloc_new2 w _ _
  rw [← hW0]
  clear hW0 HI
  obtain ⟨x0, x1, x2, x3, x4, _⟩ := five HBX.out
  by_cases h1 : fli.length = 0
  · have d1 : decide (0 < fli.length) = false := decide_eq_false (by omega)
    cases h2 : numB fsize 200
    · have HNO : Hid (¬ PlainOk ⟨fid, false, fsize, fbl, fli⟩) := fun h => by have := h.2.1; simp [h2] at this
      go_quiet (first | (go_at_call 43; exact Calls.quiet_of_same (num_is _ _ _ _ h2)) | fail)
      go_wp2_with fail
      go_ret
      exact ⟨says_no HNO.out, below_drewN HB0.out _⟩
    · have hn0 : 0 ≤ fsize ∧ fsize ≤ 200 := by simpa [numB] using h2
      by_cases h3 : (fbl.length : Int) = (fsize + 31) / 32
      · have d3 : ((fbl.length : Int) == (fsize + 31) / 32) = true := by simpa using h3
        go_quiet (first | (go_at_call 43; exact Calls.quiet_of_same (num_is _ _ _ _ h2)) | (go_at_call 77; exact Calls.quiet_of_same (many_any _ _ hn0.1 hn0.2)) | fail)
        have HOK : Hid ((∀ k, k < fbl.length → numB (fbl.getD k 0) 1073741823 = true) → PlainOk ⟨fid, false, fsize, fbl, fli⟩) := fun h => ⟨h1, h2, h3, h⟩
        have HNO : Hid (PlainOk ⟨fid, false, fsize, fbl, fli⟩ → ∀ k, k < fbl.length → numB (fbl.getD k 0) 1073741823 = true) := fun h => h.2.2.2
        have HIW : Hid (IntsAt (W0.drewN nq) ab fbl) := HI0.out
        have HBW : Hid (Below w.heap.size w (W0.drewN nq)) := below_drewN HB0.out _
        have y3 : (W0.drewN nq).cell? ⟨w.heap.size + 1, 3, none⟩ = some (.slice ab fbl.length cb) := x3
        generalize W0.drewN nq = W at HIW HBW y3 ⊢
        clear x0 x1 x2 x3 x4 HBX HI0 HB0 d1 d3 h1 h2 h3 hn0
        go_wp2_with fail
        go_loop [6] (fun i => ∃ (k : Nat), k ≤ fbl.length ∧ i = .int .i64 k ∧ Hid (∀ j, j < k → numB (fbl.getD j 0) 1073741823 = true))
          (fun i => fbl.length - (intOf i).toNat)
        case atStart => exact ⟨0, by omega, rfl, fun j hj => by omega⟩
        case round =>
          obtain ⟨k, hk, rfl, HE⟩ := hrel
          by_cases hlt : k < fbl.length
          · have hlti : (k : Int) < (fbl.length : Int) := by omega
            obtain ⟨b1, o1, rfl, c0⟩ := HIW.out.cell hlt
            cases hz : numB (fbl.getD k 0) 1073741823
            · have HN2 : Hid (¬ PlainOk ⟨fid, false, fsize, fbl, fli⟩) := fun h => by have := HNO.out h k hlt; rw [hz] at this; cases this
              generalize fbl.getD k 0 = z at c0 hz
              go_wp2_with (go_at_call 43; refine (num_is _ _ _ _ hz).mono ?_; rintro e w' ⟨rfl, rfl⟩)
              go_ret
              exact ⟨says_no HN2.out, HBW.out⟩
            · have HN2 : Hid (∀ j, j < k + 1 → numB (fbl.getD j 0) 1073741823 = true) := fun j hj => by
                by_cases e : j = k
                · subst e; exact hz
                · exact HE.out j (by omega)
              generalize fbl.getD k 0 = z at c0 hz
              go_wp2_with (go_at_call 43; refine (num_is _ _ _ _ hz).mono ?_; rintro e w' ⟨rfl, rfl⟩)
              go_round
              case rel => exact ⟨k + 1, by omega, by go_num, HN2⟩
              case measure => simp [intOf]; omega
          · have hlti : ¬ (k : Int) < (fbl.length : Int) := by omega
            go_wp2_with fail
            go_ret
            exact ⟨says_yes (HOK.out fun j hj => HE.out j (by omega)), HBW.out⟩
      · have d3 : ((fbl.length : Int) == (fsize + 31) / 32) = false := by simpa using h3
        have HNO : Hid (¬ PlainOk ⟨fid, false, fsize, fbl, fli⟩) := fun h => h3 h.2.2.1
        go_quiet (first | (go_at_call 43; exact Calls.quiet_of_same (num_is _ _ _ _ h2)) | (go_at_call 77; exact Calls.quiet_of_same (many_any _ _ hn0.1 hn0.2)) | fail)
        go_wp2_with fail
        go_ret
        exact ⟨says_no HNO.out, below_drewN HB0.out _⟩
  · have d1 : decide (0 < fli.length) = true := decide_eq_true (by omega)
    have HNO : Hid (¬ PlainOk ⟨fid, false, fsize, fbl, fli⟩) := fun h => h1 h.1
    go_quiet (fail)
    go_wp2_with fail
    go_ret
    exact ⟨says_no HNO.out, below_drewN HB0.out _⟩

end Go.Proofs.YtdpighcaieajjaaGreat
