/- Which volumes may be, by the page. -/
import Derived.Test.YtdpighcaieajjaaGreatVolrm
import Derived.Deep.OwnRows
namespace Go.Proofs.YtdpighcaieajjaaGreat
open Go.RowKit

theorem Tryz.info4b : (Tryz.prog.info? 4).map (fun i => (i.zero, i.size, i.bytes)) = some (some (.bool false), 1, 1) := by kernel_rfl

set_option maxRecDepth 100000 in
set_option maxHeartbeats 8000000 in
theorem vol_head (v : Value) (d : VolD) (w : World) (hv : VolVal w v d) (hn : ¬ HeadR d) :
    Calls Tryz.prog 13 #[v] w fun e w' => SaysB e (VolOk d) ∧ Below w.heap.size w w' := by
  obtain ⟨av, ca, rfl, hfs, _⟩ := hv
  have HNO : Hid (¬ VolOk d) := fun h => hn ⟨h.1, h.2.1.1⟩
  generalize VolOk d = P at HNO
  obtain ⟨vid, fr, snap, fs, next⟩ := d
  simp only [HeadR, NumOk] at *
  have HF : Hid (FilesAt w av fs) := hfs
  have HB0 : Hid (Below w.heap.size w (w.alloc (.cells #[.int .i64 vid, .int .i64 fr, .bool snap, .slice av fs.length ca, .int .i64 next] 24))) := nwA (nwR w) _
  clear hfs
  cases hn1 : numB vid 1073741824
  case false =>
    clear hn
    go_enter Tryz.func13, Tryz.ntmps13
    go_wp2_with (first | (go_at_call 43; refine (num_in _ _ _).mono ?_; rintro e w' ⟨rfl, rfl⟩) | (go_at_call 23; refine (between_any _ _ _ _).mono ?_; rintro e w' ⟨rfl, rfl⟩))
    go_ret
    exact ⟨says_no HNO.out, HB0.out⟩
  case true =>
  cases hn2 : numB fr 1073741824
  case false =>
    clear hn
    go_enter Tryz.func13, Tryz.ntmps13
    go_wp2_with (first | (go_at_call 43; refine (num_in _ _ _).mono ?_; rintro e w' ⟨rfl, rfl⟩) | (go_at_call 23; refine (between_any _ _ _ _).mono ?_; rintro e w' ⟨rfl, rfl⟩))
    go_ret
    exact ⟨says_no HNO.out, HB0.out⟩
  case true =>
  cases hn3 : numB next 1073741824
  case false =>
    clear hn
    go_enter Tryz.func13, Tryz.ntmps13
    go_wp2_with (first | (go_at_call 43; refine (num_in _ _ _).mono ?_; rintro e w' ⟨rfl, rfl⟩) | (go_at_call 23; refine (between_any _ _ _ _).mono ?_; rintro e w' ⟨rfl, rfl⟩))
    go_ret
    exact ⟨says_no HNO.out, HB0.out⟩
  case true =>
  by_cases h4 : fr ≠ 0 → snap = true
  case neg =>
    have h4a : fr ≠ 0 := fun e => h4 (fun h => absurd e h)
    have h4b : snap = false := by cases snap; rfl; exact absurd (fun _ => rfl) h4
    have h4c : (fr == 0) = false := beq_eq_false_iff_ne.2 h4a
    subst h4b
    clear hn h4
    go_enter Tryz.func13, Tryz.ntmps13
    go_wp2_with (first | (go_at_call 43; refine (num_in _ _ _).mono ?_; rintro e w' ⟨rfl, rfl⟩) | (go_at_call 23; refine (between_any _ _ _ _).mono ?_; rintro e w' ⟨rfl, rfl⟩))
    go_ret
    exact ⟨says_no HNO.out, HB0.out⟩
  case pos =>
  cases hbt : betB (fs.length : Int) 1 16
  case false =>
    clear hn
    by_cases h4a : fr = 0
    · subst h4a
      go_enter Tryz.func13, Tryz.ntmps13
      go_wp2_with (first | (go_at_call 43; refine (num_in _ _ _).mono ?_; rintro e w' ⟨rfl, rfl⟩) | (go_at_call 23; refine (between_any _ _ _ _).mono ?_; rintro e w' ⟨rfl, rfl⟩))
      go_ret
      exact ⟨says_no HNO.out, HB0.out⟩
    · have h4b : snap = true := h4 h4a
      subst h4b
      clear h4
      go_enter Tryz.func13, Tryz.ntmps13
      go_wp2_with (first | (go_at_call 43; refine (num_in _ _ _).mono ?_; rintro e w' ⟨rfl, rfl⟩) | (go_at_call 23; refine (between_any _ _ _ _).mono ?_; rintro e w' ⟨rfl, rfl⟩))
      go_ret
      exact ⟨says_no HNO.out, HB0.out⟩
  case true =>
  have hb2 : 1 ≤ fs.length ∧ fs.length ≤ 16 := by have := hbt; simp only [betB, Bool.and_eq_true, decide_eq_true_eq] at this; omega
  have h0l : (0 : Nat) < fs.length := by omega
  have h0li : (0 : Int) < (fs.length : Int) := by omega
  obtain ⟨b0, o0, rfl, hfz⟩ := (HF.out.below HB0.out).file h0l
  obtain ⟨ab, cb, al, cl, ⟨c0, c1, _, _, _⟩, _, _⟩ := hfz
  rw [Nat.zero_mul, Nat.add_zero] at c0 c1
  have HC : Hid (¬ ((fs.getD 0 f0).id = 1 ∧ (fs.getD 0 f0).dir = true)) := fun h => hn ⟨⟨by first | rfl | assumption, by first | rfl | assumption, by first | rfl | assumption, h4⟩, hb2.1, hb2.2, h.1, h.2⟩
  generalize fs.getD 0 f0 = f at c0 c1 HC
  obtain ⟨fid, fdir, fsize, fbl, fli⟩ := f
  simp only at c0 c1 HC
  clear hn
  by_cases h4a : fr = 0
  · subst h4a
    clear h4
    by_cases h5 : fid = 1
    · subst h5
      have h6 : fdir = false := by cases fdir; rfl; exact absurd ⟨rfl, rfl⟩ HC.out
      subst h6
      go_enter Tryz.func13, Tryz.ntmps13
      go_wp2_with (first | (go_at_call 43; refine (num_in _ _ _).mono ?_; rintro e w' ⟨rfl, rfl⟩) | (go_at_call 23; refine (between_any _ _ _ _).mono ?_; rintro e w' ⟨rfl, rfl⟩))
      go_ret
      exact ⟨says_no HNO.out, HB0.out⟩
    · 
      go_enter Tryz.func13, Tryz.ntmps13
      go_wp2_with (first | (go_at_call 43; refine (num_in _ _ _).mono ?_; rintro e w' ⟨rfl, rfl⟩) | (go_at_call 23; refine (between_any _ _ _ _).mono ?_; rintro e w' ⟨rfl, rfl⟩))
      go_ret
      exact ⟨says_no HNO.out, HB0.out⟩
  · have h4b : snap = true := h4 h4a
    subst h4b
    clear h4
    by_cases h5 : fid = 1
    · subst h5
      have h6 : fdir = false := by cases fdir; rfl; exact absurd ⟨rfl, rfl⟩ HC.out
      subst h6
      go_enter Tryz.func13, Tryz.ntmps13
      go_wp2_with (first | (go_at_call 43; refine (num_in _ _ _).mono ?_; rintro e w' ⟨rfl, rfl⟩) | (go_at_call 23; refine (between_any _ _ _ _).mono ?_; rintro e w' ⟨rfl, rfl⟩))
      go_ret
      exact ⟨says_no HNO.out, HB0.out⟩
    · 
      go_enter Tryz.func13, Tryz.ntmps13
      go_wp2_with (first | (go_at_call 43; refine (num_in _ _ _).mono ?_; rintro e w' ⟨rfl, rfl⟩) | (go_at_call 23; refine (between_any _ _ _ _).mono ?_; rintro e w' ⟨rfl, rfl⟩))
      go_ret
      exact ⟨says_no HNO.out, HB0.out⟩

end Go.Proofs.YtdpighcaieajjaaGreat
