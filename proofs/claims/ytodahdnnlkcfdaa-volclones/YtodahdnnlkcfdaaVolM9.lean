/- Laid together: Volrm, Volrh, Volrr, Clone, Setl, Copyo. -/
import Derived.Test.YtodahdnnlkcfdaaVolM8
import Derived.Deep.OwnRows
import Derived.Lib.SliceRun
/- Which volumes may be, by the page: plain mathematics. -/
namespace Go.Proofs.Ytodahdnnlkcfdaa
open Go.RowKit

def FileR (fs : List FileD) (f : FileD) : Prop := if f.dir then DirOk fs f else PlainOk f
def RowR (next : Int) (fs : List FileD) (k : Nat) : Prop := (fs.getD k f0).id < next ∧ (0 < k → (fs.getD (k - 1) f0).id < (fs.getD k f0).id) ∧ FileR fs (fs.getD k f0)
def CntR (fs : List FileD) (k : Nat) : Prop := (k = 0 → linksN fs (fs.getD k f0).id = 0) ∧ (0 < k → linksN fs (fs.getD k f0).id ≠ 0 ∧ ((fs.getD k f0).dir = true → linksN fs (fs.getD k f0).id = 1))

theorem fileR_iff {fs : List FileD} {f : FileD} : FileR fs f ↔ NodeOk f ∧ ∀ i, i < f.list.length → (atI fs (f.list.getD i lk0).2).isSome = true := by
  unfold FileR NodeOk
  cases hd : f.dir
  · simp only [Bool.false_eq_true, if_false]
    constructor
    · rintro ⟨h1, h2, h3, h4⟩
      exact ⟨⟨h1, h2, h3, h4⟩, fun i hi => by omega⟩
    · rintro ⟨⟨h1, h2, h3, h4⟩, _⟩
      exact ⟨h1, h2, h3, h4⟩
  · simp only [if_true]
    constructor
    · rintro ⟨h1, h2, h3, h4⟩
      exact ⟨⟨h1, h2, h3, fun k hk => ⟨(h4 k hk).1, (h4 k hk).2.1⟩⟩, fun i hi => (h4 i hi).2.2⟩
    · rintro ⟨⟨h1, h2, h3, h4⟩, h5⟩
      exact ⟨h1, h2, h3, fun k hk => ⟨(h4 k hk).1, (h4 k hk).2, h5 k hk⟩⟩
theorem rows_iff {next : Int} {fs : List FileD} (hh : HeadOk fs) : (∀ k, k < fs.length → RowR next fs k) ↔ (∀ k, k < fs.length → IdOk next fs k ∧ NodeOk (fs.getD k f0)) ∧ LinksIn fs := by
  constructor
  · intro h
    refine ⟨fun k hk => ⟨⟨?_, ?_⟩, (fileR_iff.1 (h k hk).2.2).1⟩, linksIn_get (fun k hk => (fileR_iff.1 (h k hk).2.2).2)⟩
    · unfold lastI
      split
      · rename_i e; subst e; have := hh.2.2.1; omega
      · have := (h k hk).2.1 (by omega); omega
    · have := (h k hk).1; omega
  · rintro ⟨h1, h2⟩ k hk
    refine ⟨?_, fun h0 => ?_, fileR_iff.2 ⟨(h1 k hk).2, fun i hi => linksIn_at h2 hk hi⟩⟩
    · have := (h1 k hk).1.2; omega
    · have := (h1 k hk).1.1
      unfold lastI at this
      rw [if_neg (by omega)] at this
      omega
theorem counts_iff {fs : List FileD} (hr : Rising fs) (hh : HeadOk fs) : (∀ k, k < fs.length → CntR fs k) ↔ CountP fs := by
  have key : ∀ k, k < fs.length → ((fs.getD k f0).id = 1 ↔ k = 0) := fun k hk => by
    constructor
    · intro h
      by_cases e : k = 0
      · exact e
      · have := hr 0 k (by omega) hk
        have h1 := hh.2.2.1
        omega
    · intro e; subst e; exact hh.2.2.1
  constructor
  · intro h k hk
    refine ⟨fun e => (h k hk).1 ((key k hk).1 e), fun e => (h k hk).2 ?_⟩
    have : ¬ k = 0 := fun e2 => e ((key k hk).2 e2)
    omega
  · intro h k hk
    refine ⟨fun e => (h k hk).1 ((key k hk).2 e), fun e => (h k hk).2 (fun e2 => ?_)⟩
    have := (key k hk).1 e2
    omega
theorem file_is (v u : Value) (d : VolD) (f : FileD) (w : World) (b : Bool) (hv : VolVal w v d) (hu : FileVal w u f) (hs : SmallF f) (hl : d.files.length ≤ 100000) (hb : b = true ↔ FileR d.files f) :
    Calls Try.prog 55 #[v, u] w fun e w' => e = .returned (.bool b) ∧ Below w.heap.size w w' := by
  cases hd : f.dir
  · exact (file_plain v u d f w hv hu hs hd).mono fun _ _ ⟨h1, h2⟩ => ⟨says_is h1 (by rw [hb]; unfold FileR; rw [hd]; simp), h2⟩
  · exact (file_dir v u d f w hv hu hs hl hd).mono fun _ _ ⟨h1, h2⟩ => ⟨says_is h1 (by rw [hb]; unfold FileR; rw [hd]; simp), h2⟩
theorem between_is (n low high : Int) (w : World) (b : Bool) (h : betB n low high = b) : Calls Try.prog 37 #[.int .i64 n, .int .i64 low, .int .i64 high] w fun e w' => e = .returned (.bool b) ∧ w' = w := by
  rw [← h]; exact between_any n low high w
theorem reached_iff {fs : List FileD} {bs : List Bool} (hlen : bs.length = fs.length) (hm : MarkRel fs 0 (List.replicate fs.length false) bs) : (∀ i, i < bs.length → bs.getD i false = true) ↔ ∀ i, i < fs.length → Reach fs i := by
  obtain ⟨_, _, h0, hn⟩ := hm
  have hf : ∀ i, (List.replicate fs.length false).getD i false = false := fun i => by
    rw [List.getD_eq_getElem?_getD, List.getElem?_replicate]; split <;> rfl
  constructor
  · intro h i hi
    exact ((hn i (h i (by omega)) (hf i)).1).reach
  · intro h i hi
    have key : ∀ x, Reach fs x → bs.getD x false = true := by
      intro x hx
      induction hx with
      | root => exact h0
      | step _ hm ih => exact (hn _ ih (hf _)).2 _ hm
    exact key i (h i (by omega))
def HeadR (d : VolD) : Prop := NumOk d ∧ HeadOk d.files

end Go.Proofs.Ytodahdnnlkcfdaa

/- Which volumes may be, by the page. -/
namespace Go.Proofs.Ytodahdnnlkcfdaa
open Go.RowKit

theorem Try.info4b : (Try.prog.info? 4).map (fun i => (i.zero, i.size, i.bytes)) = some (some (.bool false), 1, 1) := by kernel_rfl

set_option maxRecDepth 100000 in
set_option maxHeartbeats 8000000 in
theorem vol_head (v : Value) (d : VolD) (w : World) (hv : VolVal w v d) (hn : ¬ HeadR d) :
    Calls Try.prog 38 #[v] w fun e w' => SaysB e (VolOk d) ∧ Below w.heap.size w w' := by
  obtain ⟨av, ca, rfl, hfs, _⟩ := hv
  have HNO : Hid (¬ VolOk d) := fun h => hn ⟨h.1, h.2.1.1⟩
  generalize VolOk d = P at HNO
  obtain ⟨vid, fr, snap, fs, next⟩ := d
  simp only [HeadR, NumOk] at *
  have HF : Hid (FilesAt w av fs) := hfs
  have HB0 : Hid (Below w.heap.size w (w.alloc (.cells #[.int .i64 vid, .int .i64 fr, .bool snap, .slice av fs.length ca, .int .i64 next] 32))) := nwA (nwR w) _
  clear hfs
  cases hn1 : numB vid 1073741824
  case false =>
    clear hn
    go_enter Try.func38, Try.ntmps38
    go_wp2_with (first | (go_at_call 54; refine (num_in _ _ _).mono ?_; rintro e w' ⟨rfl, rfl⟩) | (go_at_call 37; refine (between_any _ _ _ _).mono ?_; rintro e w' ⟨rfl, rfl⟩))
    go_ret
    exact ⟨says_no HNO.out, HB0.out⟩
  case true =>
  cases hn2 : numB fr 1073741824
  case false =>
    clear hn
    go_enter Try.func38, Try.ntmps38
    go_wp2_with (first | (go_at_call 54; refine (num_in _ _ _).mono ?_; rintro e w' ⟨rfl, rfl⟩) | (go_at_call 37; refine (between_any _ _ _ _).mono ?_; rintro e w' ⟨rfl, rfl⟩))
    go_ret
    exact ⟨says_no HNO.out, HB0.out⟩
  case true =>
  cases hn3 : numB next 1073741824
  case false =>
    clear hn
    go_enter Try.func38, Try.ntmps38
    go_wp2_with (first | (go_at_call 54; refine (num_in _ _ _).mono ?_; rintro e w' ⟨rfl, rfl⟩) | (go_at_call 37; refine (between_any _ _ _ _).mono ?_; rintro e w' ⟨rfl, rfl⟩))
    go_ret
    exact ⟨says_no HNO.out, HB0.out⟩
  case true =>
  by_cases h4 : fr ≠ 0 → snap = true
  case neg =>
    have h4a : fr ≠ 0 := fun e => h4 (fun h => absurd e h)
    have h4b : snap = false := by cases snap; rfl; exact absurd (fun _ => rfl) h4
    have h4c : (fr == 0) = false := beq_eq_false_iff_ne.2 h4a
    subst h4b
    clear hn h4
    go_enter Try.func38, Try.ntmps38
    go_wp2_with (first | (go_at_call 54; refine (num_in _ _ _).mono ?_; rintro e w' ⟨rfl, rfl⟩) | (go_at_call 37; refine (between_any _ _ _ _).mono ?_; rintro e w' ⟨rfl, rfl⟩))
    go_ret
    exact ⟨says_no HNO.out, HB0.out⟩
  case pos =>
  cases hbt : betB (fs.length : Int) 1 16
  case false =>
    clear hn
    by_cases h4a : fr = 0
    · subst h4a
      go_enter Try.func38, Try.ntmps38
      go_wp2_with (first | (go_at_call 54; refine (num_in _ _ _).mono ?_; rintro e w' ⟨rfl, rfl⟩) | (go_at_call 37; refine (between_any _ _ _ _).mono ?_; rintro e w' ⟨rfl, rfl⟩))
      go_ret
      exact ⟨says_no HNO.out, HB0.out⟩
    · have h4b : snap = true := h4 h4a
      subst h4b
      clear h4
      go_enter Try.func38, Try.ntmps38
      go_wp2_with (first | (go_at_call 54; refine (num_in _ _ _).mono ?_; rintro e w' ⟨rfl, rfl⟩) | (go_at_call 37; refine (between_any _ _ _ _).mono ?_; rintro e w' ⟨rfl, rfl⟩))
      go_ret
      exact ⟨says_no HNO.out, HB0.out⟩
  case true =>
  have hb2 : 1 ≤ fs.length ∧ fs.length ≤ 16 := by have := hbt; simp only [betB, Bool.and_eq_true, decide_eq_true_eq] at this; omega
  have h0l : (0 : Nat) < fs.length := by omega
  have h0li : (0 : Int) < (fs.length : Int) := by omega
  obtain ⟨b0, o0, rfl, hfz⟩ := (HF.out.below HB0.out).file h0l
  obtain ⟨ab, cb, al, cl, ⟨c0, c1, _, _, _⟩, _, _⟩ := hfz
  rw [Nat.zero_mul, Nat.add_zero] at c0 c1
  have HC : Hid (¬ ((fs.getD 0 f0).id = 1 ∧ (fs.getD 0 f0).dir = true)) := fun h => hn ⟨⟨by first | rfl | assumption, by first | rfl | assumption, by first | rfl | assumption, h4⟩, hb2.1, hb2.2, h.1, h.2⟩
  generalize fs.getD 0 f0 = f at c0 c1 HC
  obtain ⟨fid, fdir, fsize, fbl, fli⟩ := f
  simp only at c0 c1 HC
  clear hn
  by_cases h4a : fr = 0
  · subst h4a
    clear h4
    by_cases h5 : fid = 1
    · subst h5
      have h6 : fdir = false := by cases fdir; rfl; exact absurd ⟨rfl, rfl⟩ HC.out
      subst h6
      go_enter Try.func38, Try.ntmps38
      go_wp2_with (first | (go_at_call 54; refine (num_in _ _ _).mono ?_; rintro e w' ⟨rfl, rfl⟩) | (go_at_call 37; refine (between_any _ _ _ _).mono ?_; rintro e w' ⟨rfl, rfl⟩))
      go_ret
      exact ⟨says_no HNO.out, HB0.out⟩
    · 
      go_enter Try.func38, Try.ntmps38
      go_wp2_with (first | (go_at_call 54; refine (num_in _ _ _).mono ?_; rintro e w' ⟨rfl, rfl⟩) | (go_at_call 37; refine (between_any _ _ _ _).mono ?_; rintro e w' ⟨rfl, rfl⟩))
      go_ret
      exact ⟨says_no HNO.out, HB0.out⟩
  · have h4b : snap = true := h4 h4a
    subst h4b
    clear h4
    by_cases h5 : fid = 1
    · subst h5
      have h6 : fdir = false := by cases fdir; rfl; exact absurd ⟨rfl, rfl⟩ HC.out
      subst h6
      go_enter Try.func38, Try.ntmps38
      go_wp2_with (first | (go_at_call 54; refine (num_in _ _ _).mono ?_; rintro e w' ⟨rfl, rfl⟩) | (go_at_call 37; refine (between_any _ _ _ _).mono ?_; rintro e w' ⟨rfl, rfl⟩))
      go_ret
      exact ⟨says_no HNO.out, HB0.out⟩
    · 
      go_enter Try.func38, Try.ntmps38
      go_wp2_with (first | (go_at_call 54; refine (num_in _ _ _).mono ?_; rintro e w' ⟨rfl, rfl⟩) | (go_at_call 37; refine (between_any _ _ _ _).mono ?_; rintro e w' ⟨rfl, rfl⟩))
      go_ret
      exact ⟨says_no HNO.out, HB0.out⟩

end Go.Proofs.Ytodahdnnlkcfdaa

/- Which volumes may be, by the page: behind the head. -/
namespace Go.Proofs.Ytodahdnnlkcfdaa
open Go.RowKit

theorem made_row (w : World) (n : Nat) : Row (w.alloc (.cells (madeCells #[Value.bool false] n) 4)) w.heap.size (List.replicate n false) := by
  unfold Row
  rw [heap_alloc_new]
  congr 2
  apply Array.ext
  · simp [madeCells]
  · intro i h1 h2
    simp [madeCells, Nat.mod_one]

set_option maxRecDepth 100000 in
set_option maxHeartbeats 8000000 in
theorem vol_rest (v : Value) (d : VolD) (w : World) (hv : VolVal w v d) (hs : SmallV d) (hh : HeadR d) :
    Calls Try.prog 38 #[v] w fun e w' => SaysB e (VolOk d) ∧ Below w.heap.size w w' := by
  have HVV : Hid (VolVal w v d) := hv
  have HSV : Hid (SmallV d) := hs
  obtain ⟨av, ca, rfl, hfs, _⟩ := hv
  have HX : Hid (VolOk d ↔ (NumOk d ∧ FilesOk d.next d.files ∧ (LinksIn d.files ∧ CountP d.files) ∧ PathOk d.files)) := Iff.rfl
  have HHD : Hid (HeadR d) := hh
  have HNN : Hid (∀ k, k < d.files.length → ¬ RowR d.next d.files k → ¬ VolOk d) := fun k hk hn h => hn ((rows_iff h.2.1.1).2 ⟨h.2.1.2, h.2.2.1.1⟩ k hk)
  have HNC : Hid (∀ k, k < d.files.length → ¬ CntR d.files k → ¬ VolOk d) := fun k hk hn h => hn ((counts_iff (rising_of (fun k hk => (h.2.1.2 k hk).1)) h.2.1.1).2 h.2.2.1.2 k hk)
  obtain ⟨⟨hn1, hn2, hn3, h4⟩, hb1, hb2, h5, h6⟩ := hh
  obtain ⟨vid, fr, snap, fs, next⟩ := d
  simp only at *
  generalize hP : VolOk ⟨vid, fr, snap, fs, next⟩ = P at HX HNN HNC
  clear hP
  have hl := hs.1
  have HF : Hid (FilesAt w av fs) := hfs
  have HSF : Hid (∀ f ∈ fs, SmallF f) := hs.2
  have hbt : betB (fs.length : Int) 1 16 = true := by simp only [betB, Bool.and_eq_true, decide_eq_true_eq]; omega
  have hx0 : 0 ≤ next ∧ next ≤ 1073741824 := by simpa [numB] using hn3
  have HB0 : Hid (Below w.heap.size w (w.alloc (.cells #[.int .i64 vid, .int .i64 fr, .bool snap, .slice av fs.length ca, .int .i64 next] 32))) := nwA (nwR w) _
  have HBX0 : Hid ((w.alloc (.cells #[.int .i64 vid, .int .i64 fr, .bool snap, .slice av fs.length ca, .int .i64 next] 32)).heap[w.heap.size]? = some (.cells #[.int .i64 vid, .int .i64 fr, .bool snap, .slice av fs.length ca, .int .i64 next] 32 (0, 0))) := heap_alloc_new w _
  have h0l : (0 : Nat) < fs.length := by omega
  have h0li : (0 : Int) < (fs.length : Int) := by omega
  obtain ⟨b0, o0, rfl, hfz⟩ := (HF.out.below HB0.out).file h0l
  obtain ⟨ab, cb, al, cl, ⟨c0, c1, _, _, _⟩, _, _⟩ := hfz
  rw [Nat.zero_mul, Nat.add_zero] at c0 c1
  rw [h5] at c0
  rw [h6] at c1
  clear hfs hs h5 h6
  go_enter Try.func38, Try.ntmps38
  go_upto_region 1 with fail
  go_cut [56] from 8 to 55 (fun q wx => q = .bool false ∧ wx = w.alloc (.cells #[.int .i64 vid, .int .i64 fr, .bool snap, .slice (some ⟨b0, o0, none⟩) fs.length ca, .int .i64 next] 32))
  case first =>
    by_cases h4a : fr = 0
    · subst h4a
      clear h4
      go_wp2_with (first | (go_at_call 54; refine (num_in _ _ _).mono ?_; rintro e w' ⟨rfl, rfl⟩) | (go_at_call 37; refine (between_any _ _ _ _).mono ?_; rintro e w' ⟨rfl, rfl⟩))
      go_meet
      exact ⟨rfl, rfl⟩
    · have h4b : snap = true := h4 h4a
      subst h4b
      clear h4
      go_wp2_with (first | (go_at_call 54; refine (num_in _ _ _).mono ?_; rintro e w' ⟨rfl, rfl⟩) | (go_at_call 37; refine (between_any _ _ _ _).mono ?_; rintro e w' ⟨rfl, rfl⟩))
      go_meet
      exact ⟨rfl, rfl⟩
  case rest =>
    clear c0 c1
    obtain ⟨rfl, rfl⟩ := hcut
    obtain ⟨W0, hW0⟩ : ∃ W0, W0 = w.alloc (.cells #[.int .i64 vid, .int .i64 fr, .bool snap, .slice (some ⟨b0, o0, none⟩) fs.length ca, .int .i64 next] 32) := ⟨_, rfl⟩
    rw [← hW0] at HB0 HBX0 ⊢
    clear hW0
    go_wp2_with fail
    go_loopw [3] (fun i wr => ∃ (k : Nat), k ≤ fs.length ∧ i = .int .i64 k ∧ Below W0.heap.size W0 wr ∧ Hid (∀ j, j < k → RowR next fs j))
      (fun i _ => fs.length - (intOf i).toNat)
    case atStart => exact ⟨0, by omega, rfl, nwR _, fun j hj => by omega⟩
    case round =>
      obtain ⟨k, hk, rfl, hbr, HE⟩ := hrel
      obtain ⟨x0, x1, x2, x3, x4, _⟩ := five ((hbr.block _ (Array.getElem?_eq_some_iff.1 HBX0.out).1).trans HBX0.out)
      have hxl := block_lt_of_cell x0
      by_cases hkl : k < fs.length
      · have hkli : (k : Int) < (fs.length : Int) := by omega
        have hk0 : (0 : Int) ≤ (k : Int) := by omega
        obtain ⟨b1, o1, e1, hfi⟩ := (HF.out.below (nwT HB0.out hbr)).file hkl
        injection e1 with e1
        injection e1 with e11 e12
        subst e11; subst e12
        obtain ⟨ab2, cb2, al2, cl2, ⟨d0, d1, d2, d3, d4⟩, hib, hil⟩ := hfi
        have HNK : Hid (¬ RowR next fs k → ¬ P) := HNN.out k hkl
        have HN2 : Hid (RowR next fs k → ∀ j, j < k + 1 → RowR next fs j) := fun h j hj => by
          by_cases e : j = k
          · subst e; exact h
          · exact HE.out j (by omega)
        have HRW : Hid (RowR next fs k ↔ ((fs.getD k f0).id < next ∧ (0 < k → (fs.getD (k - 1) f0).id < (fs.getD k f0).id) ∧ FileR fs (fs.getD k f0))) := Iff.rfl
        have HSM : Hid (SmallF (fs.getD k f0)) := HSF.out _ (getD_mem hkl)
        have HVF : Hid (FileVal wr (.agg #[.int .i64 (fs.getD k f0).id, .bool (fs.getD k f0).dir, .int .i64 (fs.getD k f0).size, .slice ab2 (fs.getD k f0).blocks.length cb2, .slice al2 (fs.getD k f0).list.length cl2]) (fs.getD k f0)) := ⟨ab2, cb2, al2, cl2, rfl, hib, hil⟩
        generalize RowR next fs k = PR at HNK HN2 HRW
        generalize fs.getD k f0 = f at d0 d1 d2 d3 d4 HRW HSM HVF
        obtain ⟨fid, fdir, fsize, fbl, fli⟩ := f
        simp only at d0 d1 d2 d3 d4 HRW HVF
        clear hib hil
        go_wp2_with fail
        have HFC0 : Hid (∀ (b : Bool), (b = true ↔ FileR fs ⟨fid, fdir, fsize, fbl, fli⟩) → ∀ p : Kin wr, Calls Try.prog 55 #[.agg #[.int .i64 vid, .int .i64 fr, .bool snap, .slice (some ⟨b0, o0, none⟩) fs.length ca, .int .i64 next], .agg #[.int .i64 fid, .bool fdir, .int .i64 fsize, .slice ab2 fbl.length cb2, .slice al2 fli.length cl2]] p.u fun e w' => e = .returned (.bool b) ∧ Below p.u.heap.size p.u w') := fun b hb p => file_is _ _ ⟨vid, fr, snap, fs, next⟩ ⟨fid, fdir, fsize, fbl, fli⟩ p.u b (HVV.out.below (nwT HB0.out (nwT hbr p.h))) (HVF.out.below p.h) HSM.out hl hb
        have z0 : ∀ p : Kin wr, p.u.cell? ⟨w.heap.size, 0, none⟩ = some (.int .i64 vid) := fun p => kcell x0 p
        have z1 : ∀ p : Kin wr, p.u.cell? ⟨w.heap.size, 1, none⟩ = some (.int .i64 fr) := fun p => kcell x1 p
        have z2 : ∀ p : Kin wr, p.u.cell? ⟨w.heap.size, 2, none⟩ = some (.bool snap) := fun p => kcell x2 p
        have z3 : ∀ p : Kin wr, p.u.cell? ⟨w.heap.size, 3, none⟩ = some (.slice (some ⟨b0, o0, none⟩) fs.length ca) := fun p => kcell x3 p
        have z4 : ∀ p : Kin wr, p.u.cell? ⟨w.heap.size, 4, none⟩ = some (.int .i64 next) := fun p => kcell x4 p
        have y0 : ∀ p : Kin wr, p.u.cell? ⟨b0, o0 + k * 5, none⟩ = some (.int .i64 fid) := fun p => kcell d0 p
        have y1 : ∀ p : Kin wr, p.u.cell? ⟨b0, o0 + k * 5 + 1, none⟩ = some (.bool fdir) := fun p => kcell d1 p
        have y2 : ∀ p : Kin wr, p.u.cell? ⟨b0, o0 + k * 5 + 2, none⟩ = some (.int .i64 fsize) := fun p => kcell d2 p
        have y3 : ∀ p : Kin wr, p.u.cell? ⟨b0, o0 + k * 5 + 3, none⟩ = some (.slice ab2 fbl.length cb2) := fun p => kcell d3 p
        have y4 : ∀ p : Kin wr, p.u.cell? ⟨b0, o0 + k * 5 + 4, none⟩ = some (.slice al2 fli.length cl2) := fun p => kcell d4 p
        clear x0 x1 x2 x3 x4 d0 d1 d2 d3 d4 HVF HSM
        by_cases hid : fid < next
        case neg =>
          have HR : Hid (¬ P) := HNK.out (fun h => hid (HRW.out.1 h).1)
          have hid2 : decide (next ≤ fid) = true := decide_eq_true (by omega)
          refine wp_region_kin (by kernel_rfl) (by kernel_rfl) ?_
          repeat (first | go_big_quiet_step (fail) | quiet_step (fail))
          refine wpQuiet_nil ?_
          intro _ hw'
          obtain ⟨pq, hw''⟩ := hw'
          subst hw''
          clear z0 z1 z2 z3 z4 y0 y1 y2 y3 y4
          have HBQ : Hid (Below W0.heap.size W0 pq.u) := nwT hbr pq.h
          generalize pq.u = Wq at HBQ ⊢
          go_wp2_with fail
          go_ret
          exact ⟨says_no HR.out, nwT HB0.out HBQ.out⟩
        case pos =>
        have hid2 : decide (next ≤ fid) = false := decide_eq_false (by omega)
        by_cases hkz : 0 < k
        case neg =>
          have HKZ : Hid (¬ 0 < k) := hkz
          have hkd : decide (0 < k) = false := decide_eq_false hkz
          have HR3 : Hid (PR ↔ FileR fs ⟨fid, fdir, fsize, fbl, fli⟩) := ⟨fun h => (HRW.out.1 h).2.2, fun h => HRW.out.2 ⟨hid, fun e => absurd e HKZ.out, h⟩⟩
          by_cases hfr : FileR fs ⟨fid, fdir, fsize, fbl, fli⟩
          · have HFC : Hid (∀ p : Kin wr, Calls Try.prog 55 #[.agg #[.int .i64 vid, .int .i64 fr, .bool snap, .slice (some ⟨b0, o0, none⟩) fs.length ca, .int .i64 next], .agg #[.int .i64 fid, .bool fdir, .int .i64 fsize, .slice ab2 fbl.length cb2, .slice al2 fli.length cl2]] p.u fun e w' => e = .returned (.bool true) ∧ Below p.u.heap.size p.u w') := fun p => HFC0.out true (by simpa using hfr) p
            have HR := HN2.out (HR3.out.2 hfr)
            clear hfr
            refine wp_region_kin (by kernel_rfl) (by kernel_rfl) ?_
            repeat (first | go_big_quiet_step (first | (go_at_call 55; exact Calls.kin_of (HFC.out _)) | fail) | quiet_step (first | (go_at_call 55; exact Calls.kin_of (HFC.out _)) | fail))
            refine wpQuiet_nil ?_
            intro _ hw'
            obtain ⟨pq, hw''⟩ := hw'
            subst hw''
            clear z0 z1 z2 z3 z4 y0 y1 y2 y3 y4
            have HBQ : Hid (Below W0.heap.size W0 pq.u) := nwT hbr pq.h
            generalize pq.u = Wq at HBQ ⊢
            go_wp2_with fail
            go_roundw
            case rel => exact ⟨k + 1, by omega, by go_num, HBQ.out, HR⟩
            case measure => simp [intOf]; omega
          · have HFC : Hid (∀ p : Kin wr, Calls Try.prog 55 #[.agg #[.int .i64 vid, .int .i64 fr, .bool snap, .slice (some ⟨b0, o0, none⟩) fs.length ca, .int .i64 next], .agg #[.int .i64 fid, .bool fdir, .int .i64 fsize, .slice ab2 fbl.length cb2, .slice al2 fli.length cl2]] p.u fun e w' => e = .returned (.bool false) ∧ Below p.u.heap.size p.u w') := fun p => HFC0.out false (by simpa using hfr) p
            have HR : Hid (¬ P) := HNK.out (fun h => hfr (HR3.out.1 h))
            clear hfr
            refine wp_region_kin (by kernel_rfl) (by kernel_rfl) ?_
            repeat (first | go_big_quiet_step (first | (go_at_call 55; exact Calls.kin_of (HFC.out _)) | fail) | quiet_step (first | (go_at_call 55; exact Calls.kin_of (HFC.out _)) | fail))
            refine wpQuiet_nil ?_
            intro _ hw'
            obtain ⟨pq, hw''⟩ := hw'
            subst hw''
            clear z0 z1 z2 z3 z4 y0 y1 y2 y3 y4
            have HBQ : Hid (Below W0.heap.size W0 pq.u) := nwT hbr pq.h
            generalize pq.u = Wq at HBQ ⊢
            go_wp2_with fail
            go_ret
            exact ⟨says_no HR.out, nwT HB0.out HBQ.out⟩
        case pos =>
        obtain ⟨m, hkm⟩ : ∃ m, k = m + 1 := ⟨k - 1, by omega⟩
        have HKM : Hid (k = m + 1) := hkm
        obtain ⟨b3, o3, e3, hfm⟩ := (HF.out.below (nwT HB0.out hbr)).file (show m < fs.length by omega)
        injection e3 with e3
        injection e3 with e31 e32
        subst e31; subst e32
        obtain ⟨_, _, _, _, ⟨r0, _, _, _, _⟩, _, _⟩ := hfm
        have HR3 : Hid (PR ↔ ((fs.getD m f0).id < fid ∧ FileR fs ⟨fid, fdir, fsize, fbl, fli⟩)) := by
          have hk1 : k - 1 = m := by omega
          have h0 := HRW.out
          rw [hk1] at h0
          exact ⟨fun h => ⟨(h0.1 h).2.1 hkz, (h0.1 h).2.2⟩, fun h => h0.2 ⟨hid, fun _ => h.1, h.2⟩⟩
        have yp : ∀ p : Kin wr, p.u.cell? ⟨b0, o0 + m * 5, none⟩ = some (.int .i64 (fs.getD m f0).id) := fun p => kcell r0 p
        generalize (fs.getD m f0).id = pid at yp HR3
        have hkd : decide (0 < k) = true := decide_eq_true hkz
        have e1 : IntKind.i64.wrap ((k : Int) - 1) = (m : Int) := by rw [wrap_any (by omega) (by omega)]; omega
        have m0 : (0 : Int) ≤ (m : Int) := by omega
        have m1 : (m : Int) < (fs.length : Int) := by omega
        clear hkm r0 HRW
        by_cases hpd : pid < fid
        case neg =>
          have HR : Hid (¬ P) := HNK.out (fun h => hpd (HR3.out.1 h).1)
          have hpd2 : decide (fid ≤ pid) = true := decide_eq_true (by omega)
          refine wp_region_kin (by kernel_rfl) (by kernel_rfl) ?_
          repeat (first | go_big_quiet_step (fail) | quiet_step (fail))
          refine wpQuiet_nil ?_
          intro _ hw'
          obtain ⟨pq, hw''⟩ := hw'
          subst hw''
          clear z0 z1 z2 z3 z4 y0 y1 y2 y3 y4 yp
          have HBQ : Hid (Below W0.heap.size W0 pq.u) := nwT hbr pq.h
          generalize pq.u = Wq at HBQ ⊢
          go_wp2_with fail
          go_ret
          exact ⟨says_no HR.out, nwT HB0.out HBQ.out⟩
        case pos =>
        have hpd2 : decide (fid ≤ pid) = false := decide_eq_false (by omega)
        by_cases hfr : FileR fs ⟨fid, fdir, fsize, fbl, fli⟩
        · have HFC : Hid (∀ p : Kin wr, Calls Try.prog 55 #[.agg #[.int .i64 vid, .int .i64 fr, .bool snap, .slice (some ⟨b0, o0, none⟩) fs.length ca, .int .i64 next], .agg #[.int .i64 fid, .bool fdir, .int .i64 fsize, .slice ab2 fbl.length cb2, .slice al2 fli.length cl2]] p.u fun e w' => e = .returned (.bool true) ∧ Below p.u.heap.size p.u w') := fun p => HFC0.out true (by simpa using hfr) p
          have HR := HN2.out (HR3.out.2 ⟨hpd, hfr⟩)
          clear hfr
          refine wp_region_kin (by kernel_rfl) (by kernel_rfl) ?_
          repeat (first | go_big_quiet_step (first | (go_at_call 55; exact Calls.kin_of (HFC.out _)) | fail) | quiet_step (first | (go_at_call 55; exact Calls.kin_of (HFC.out _)) | fail))
          refine wpQuiet_nil ?_
          intro _ hw'
          obtain ⟨pq, hw''⟩ := hw'
          subst hw''
          clear z0 z1 z2 z3 z4 y0 y1 y2 y3 y4 yp
          have HBQ : Hid (Below W0.heap.size W0 pq.u) := nwT hbr pq.h
          generalize pq.u = Wq at HBQ ⊢
          go_wp2_with fail
          go_roundw
          case rel => exact ⟨k + 1, by omega, by go_num, HBQ.out, HR⟩
          case measure => simp [intOf]; omega
        · have HFC : Hid (∀ p : Kin wr, Calls Try.prog 55 #[.agg #[.int .i64 vid, .int .i64 fr, .bool snap, .slice (some ⟨b0, o0, none⟩) fs.length ca, .int .i64 next], .agg #[.int .i64 fid, .bool fdir, .int .i64 fsize, .slice ab2 fbl.length cb2, .slice al2 fli.length cl2]] p.u fun e w' => e = .returned (.bool false) ∧ Below p.u.heap.size p.u w') := fun p => HFC0.out false (by simpa using hfr) p
          have HR : Hid (¬ P) := HNK.out (fun h => hfr (HR3.out.1 h).2)
          clear hfr
          refine wp_region_kin (by kernel_rfl) (by kernel_rfl) ?_
          repeat (first | go_big_quiet_step (first | (go_at_call 55; exact Calls.kin_of (HFC.out _)) | fail) | quiet_step (first | (go_at_call 55; exact Calls.kin_of (HFC.out _)) | fail))
          refine wpQuiet_nil ?_
          intro _ hw'
          obtain ⟨pq, hw''⟩ := hw'
          subst hw''
          clear z0 z1 z2 z3 z4 y0 y1 y2 y3 y4 yp
          have HBQ : Hid (Below W0.heap.size W0 pq.u) := nwT hbr pq.h
          generalize pq.u = Wq at HBQ ⊢
          go_wp2_with fail
          go_ret
          exact ⟨says_no HR.out, nwT HB0.out HBQ.out⟩
      · have hkli : ¬ (k : Int) < (fs.length : Int) := by omega
        have HROWS : Hid (∀ j, j < fs.length → RowR next fs j) := fun j hj => HE.out j (by omega)
        clear HE HNN
        go_wp2_with fail
        clear x0 x1 x2 x3 x4
        generalize hWa : wr = Wa at hbr ⊢
        clear hWa
        go_loopw [4] (fun i wr => ∃ (k : Nat), k ≤ fs.length ∧ i = .int .i64 k ∧ Below W0.heap.size W0 wr ∧ Hid (∀ j, j < k → CntR fs j))
          (fun i _ => fs.length - (intOf i).toNat)
        case atStart => exact ⟨0, by omega, rfl, hbr, fun j hj => by omega⟩
        case round =>
          obtain ⟨k, hk, rfl, hbr, HE⟩ := hrel
          obtain ⟨x0, x1, x2, x3, x4, _⟩ := five ((hbr.block _ (Array.getElem?_eq_some_iff.1 HBX0.out).1).trans HBX0.out)
          have hxl := block_lt_of_cell x0
          by_cases hkl : k < fs.length
          · have hkli : (k : Int) < (fs.length : Int) := by omega
            have hk0 : (0 : Int) ≤ (k : Int) := by omega
            obtain ⟨b1, o1, e1, hfi⟩ := (HF.out.below (nwT HB0.out hbr)).file hkl
            injection e1 with e1
            injection e1 with e11 e12
            subst e11; subst e12
            obtain ⟨ab2, cb2, al2, cl2, ⟨d0, d1, _, _, _⟩, _, _⟩ := hfi
            have HNK : Hid (¬ CntR fs k → ¬ P) := HNC.out k hkl
            have HN2 : Hid (CntR fs k → ∀ j, j < k + 1 → CntR fs j) := fun h j hj => by
              by_cases e : j = k
              · subst e; exact h
              · exact HE.out j (by omega)
            have HRW : Hid (CntR fs k ↔ ((k = 0 → linksN fs (fs.getD k f0).id = 0) ∧ (0 < k → linksN fs (fs.getD k f0).id ≠ 0 ∧ ((fs.getD k f0).dir = true → linksN fs (fs.getD k f0).id = 1)))) := Iff.rfl
            generalize CntR fs k = PR at HNK HN2 HRW
            generalize fs.getD k f0 = f at d0 d1 HRW
            obtain ⟨fid, fdir, fsize, fbl, fli⟩ := f
            simp only at d0 d1 HRW
            go_wp2_with fail
            have HLC : Hid (∀ p : Kin wr, Calls Try.prog 56 #[.agg #[.int .i64 vid, .int .i64 fr, .bool snap, .slice (some ⟨b0, o0, none⟩) fs.length ca, .int .i64 next], .int .i64 fid] p.u fun e w' => e = .returned (.int .i64 (linksN fs fid)) ∧ Below p.u.heap.size p.u w') := fun p => links_any _ ⟨vid, fr, snap, fs, next⟩ fid p.u (HVV.out.below (nwT HB0.out (nwT hbr p.h))) HSV.out
            generalize linksN fs fid = M at HRW HLC
            have z0 : ∀ p : Kin wr, p.u.cell? ⟨w.heap.size, 0, none⟩ = some (.int .i64 vid) := fun p => kcell x0 p
            have z1 : ∀ p : Kin wr, p.u.cell? ⟨w.heap.size, 1, none⟩ = some (.int .i64 fr) := fun p => kcell x1 p
            have z2 : ∀ p : Kin wr, p.u.cell? ⟨w.heap.size, 2, none⟩ = some (.bool snap) := fun p => kcell x2 p
            have z3 : ∀ p : Kin wr, p.u.cell? ⟨w.heap.size, 3, none⟩ = some (.slice (some ⟨b0, o0, none⟩) fs.length ca) := fun p => kcell x3 p
            have z4 : ∀ p : Kin wr, p.u.cell? ⟨w.heap.size, 4, none⟩ = some (.int .i64 next) := fun p => kcell x4 p
            have y0 : ∀ p : Kin wr, p.u.cell? ⟨b0, o0 + k * 5, none⟩ = some (.int .i64 fid) := fun p => kcell d0 p
            have HD1 : Hid (∀ p : Kin wr, p.u.cell? ⟨b0, o0 + k * 5 + 1, none⟩ = some (.bool fdir)) := fun p => kcell d1 p
            clear x0 x1 x2 x3 x4 d0 d1
            refine wp_region_kin (by kernel_rfl) (by kernel_rfl) ?_
            repeat (first | go_big_quiet_step (first | (go_at_call 56; exact Calls.kin_of (HLC.out _)) | fail) | quiet_step (first | (go_at_call 56; exact Calls.kin_of (HLC.out _)) | fail))
            refine wpQuiet_nil ?_
            intro _ hw'
            obtain ⟨pq, hw''⟩ := hw'
            subst hw''
            have q3 := z3 pq
            have q1 := HD1.out pq
            have HBQ : Hid (Below W0.heap.size W0 pq.u) := nwT hbr pq.h
            clear z0 z1 z2 z3 z4 y0 HD1
            generalize pq.u = Wq at HBQ q3 q1 ⊢
            have hq3 := block_lt_of_cell q3
            by_cases hkz : 0 < k
            · have HKZ : Hid (0 < k) := hkz
              have hke : ((k : Int) == 0) = false := beq_eq_false_iff_ne.2 (by omega)
              have hkn : ¬ k = 0 := by omega
              have HR3 : Hid (PR ↔ (M ≠ 0 ∧ (fdir = true → M = 1))) := ⟨fun h => (HRW.out.1 h).2 HKZ.out, fun h => HRW.out.2 ⟨fun e => by have := HKZ.out; omega, fun _ => h⟩⟩
              by_cases hM0 : M = 0
              · subst hM0
                have HR : Hid (¬ P) := HNK.out (fun h => (HR3.out.1 h).1 rfl)
                go_wp2_with fail
                go_ret
                exact ⟨says_no HR.out, nwT HB0.out HBQ.out⟩
              · have hMe : ((M : Int) == 0) = false := beq_eq_false_iff_ne.2 (by omega)
                cases fdir
                · have HR := HN2.out (HR3.out.2 ⟨hM0, fun e => by cases e⟩)
                  go_wp2_with fail
                  go_roundw
                  case rel => exact ⟨k + 1, by omega, by go_num, HBQ.out, HR⟩
                  case measure => simp [intOf]; omega
                · by_cases hM1 : M = 1
                  · subst hM1
                    have HR := HN2.out (HR3.out.2 ⟨by omega, fun _ => rfl⟩)
                    go_wp2_with fail
                    go_roundw
                    case rel => exact ⟨k + 1, by omega, by go_num, HBQ.out, HR⟩
                    case measure => simp [intOf]; omega
                  · have HR : Hid (¬ P) := HNK.out (fun h => hM1 ((HR3.out.1 h).2 rfl))
                    have hMi : ¬ (M : Int) = 1 := by omega
                    go_wp2_with fail
                    go_ret
                    exact ⟨says_no HR.out, nwT HB0.out HBQ.out⟩
            · have HKZ : Hid (¬ 0 < k) := hkz
              have hke : ((k : Int) == 0) = true := beq_iff_eq.2 (by omega)
              have HR3 : Hid (PR ↔ M = 0) := ⟨fun h => (HRW.out.1 h).1 (by have := HKZ.out; omega), fun h => HRW.out.2 ⟨fun _ => h, fun e => absurd e HKZ.out⟩⟩
              by_cases hM0 : M = 0
              · subst hM0
                have HR := HN2.out (HR3.out.2 rfl)
                go_wp2_with fail
                go_roundw
                case rel => exact ⟨k + 1, by omega, by go_num, HBQ.out, HR⟩
                case measure => simp [intOf]; omega
              · have HR : Hid (¬ P) := HNK.out (fun h => hM0 (HR3.out.1 h))
                go_wp2_with fail
                go_ret
                exact ⟨says_no HR.out, nwT HB0.out HBQ.out⟩
          · have hkli : ¬ (k : Int) < (fs.length : Int) := by omega
            have HCNT : Hid (∀ j, j < fs.length → CntR fs j) := fun j hj => HE.out j (by omega)
            have HRI := (rows_iff HHD.out.2).1 HROWS.out
            have HFO : Hid (FilesOk next fs) := ⟨HHD.out.2, HRI.1⟩
            have HLI : Hid (LinksIn fs) := HRI.2
            have HRS : Hid (Rising fs) := rising_of (fun k hk => (HRI.1 k hk).1)
            have HCP : Hid (CountP fs) := (counts_iff HRS.out HHD.out.2).1 HCNT.out
            have HA1 : Hid (atI fs 1 = some 0) := by
              have := atI_self HRS.out h0l
              have h5 : (fs.getD 0 f0).id = 1 := HHD.out.2.2.2.1
              rw [h5] at this
              exact this
            have hmk := run_make_row' (P := Try.prog) 94 4 (.bool false) 1 Try.underlying94 Try.info4b rfl .i64 .i64 fs.length (by omega) (by omega)
            have HMK : Hid (Calls Try.prog 57 #[.agg #[.int .i64 vid, .int .i64 fr, .bool snap, .slice (some ⟨b0, o0, none⟩) fs.length ca, .int .i64 next], .int .i64 1, .slice (some ⟨wr.heap.size, 0, none⟩) fs.length fs.length] (wr.alloc (.cells (madeCells #[Value.bool false] fs.length) 4)) fun e w' => e = .returned (.tuple #[]) ∧ (∃ bs', Row w' wr.heap.size bs' ∧ MarkRel fs 0 (List.replicate fs.length false) bs') ∧ (wr.alloc (.cells (madeCells #[Value.bool false] fs.length) 4)).grownBy w' (some wr.heap.size)) := by
              have h := marks_any _ ⟨vid, fr, snap, fs, next⟩ wr (HVV.out.below (nwT HB0.out hbr)) HSV.out HLI.out wr.heap.size fs.length (Nat.le_refl _) fs.length (List.replicate fs.length false) 1 0 (wr.alloc (.cells (madeCells #[Value.bool false] fs.length) 4)) (by have := List.count_le_length (a := false) (l := List.replicate fs.length false); rw [List.length_replicate] at this; exact this) (nwA (nwR wr) _) (made_row wr fs.length) (by simp) HA1.out
              rw [List.length_replicate] at h
              exact h
            clear HRI HE HNC
            go_wp2_with fail
            refine HMK.out.mono ?_
            rintro e wT ⟨rfl, ⟨bs, hrow, hmr⟩, hgb⟩
            have HROW : Hid (Row wT wr.heap.size bs) := hrow
            have HBT : Hid (Below wr.heap.size wr wT) := gb_below (nwA (nwR wr) _) (Nat.le_refl _) hgb
            have HBX : Hid (wT.heap[w.heap.size]? = some (.cells #[.int .i64 vid, .int .i64 fr, .bool snap, .slice (some ⟨b0, o0, none⟩) fs.length ca, .int .i64 next] 32 (0, 0))) := (HBT.out.block _ hxl).trans ((hbr.block _ (Array.getElem?_eq_some_iff.1 HBX0.out).1).trans HBX0.out)
            have HBWT : Hid (Below w.heap.size w wT) := nwT (nwT HB0.out hbr) HBT.out
            have hblen : bs.length = fs.length := by have := hmr.1; rw [List.length_replicate] at this; exact this
            have HREA : Hid ((∀ i, i < bs.length → bs.getD i false = true) ↔ ∀ i, i < fs.length → Reach fs i) := reached_iff hblen hmr
            have HBL : Hid (bs.length = fs.length) := hblen
            generalize wr.heap.size = g at HROW ⊢
            clear hmk hrow hmr hgb x0 x1 x2 x3 x4 hblen
            go_wp2_with fail
            go_loop [7] (fun i => ∃ (k : Nat), k ≤ fs.length ∧ i = .int .i64 k ∧ Hid (∀ j, j < k → bs.getD j false = true))
              (fun i => fs.length - (intOf i).toNat)
            case atStart => exact ⟨0, by omega, rfl, fun j hj => by omega⟩
            case round =>
              obtain ⟨k2, hk2, rfl, HE⟩ := hrel
              by_cases hkl2 : k2 < fs.length
              · have hkli2 : (k2 : Int) < (fs.length : Int) := by omega
                have hk02 : (0 : Int) ≤ (k2 : Int) := by omega
                obtain ⟨r0, _⟩ := HROW.out.cell (i := k2) (by rw [HBL.out]; exact hkl2)
                cases hb : bs.getD k2 false
                · rw [hb] at r0
                  have HR : Hid (¬ P) := fun h => by
                    have h1 := HREA.out.2 (HX.out.1 h).2.2.2.1 k2 (by rw [HBL.out]; exact hkl2)
                    rw [hb] at h1; cases h1
                  go_wp2_with fail
                  go_ret
                  exact ⟨says_no HR.out, HBWT.out⟩
                · rw [hb] at r0
                  have HR : Hid (∀ j, j < k2 + 1 → bs.getD j false = true) := fun j hj => by
                    by_cases e : j = k2
                    · subst e; exact hb
                    · exact HE.out j (by omega)
                  go_wp2_with fail
                  go_round
                  case rel => exact ⟨k2 + 1, by omega, by go_num, HR⟩
                  case measure => simp [intOf]; omega
              · have hkli2 : ¬ (k2 : Int) < (fs.length : Int) := by omega
                have HALL : Hid (∀ i, i < fs.length → Reach fs i) := HREA.out.1 (fun i hi => HE.out i (by have := HBL.out; omega))
                have HDP : Hid (Calls Try.prog 58 #[.agg #[.int .i64 vid, .int .i64 fr, .bool snap, .slice (some ⟨b0, o0, none⟩) fs.length ca, .int .i64 next], .int .i64 1, .int .i64 5] wT fun e w' => e = .returned (.int .i64 (deepF fs 5 1)) ∧ Below wT.heap.size wT w') := deep_any _ ⟨vid, fr, snap, fs, next⟩ HSV.out ⟨h0l, HLI.out⟩ 5 (by omega) 1 wT (HVV.out.below HBWT.out) (by rw [HA1.out]; rfl)
                have HFIN : Hid (P ↔ deepF fs 5 1 ≤ 5) := by
                  show _ ↔ _
                  rw [HX.out]
                  exact ⟨fun h => h.2.2.2.2, fun h => ⟨HHD.out.1, HFO.out, ⟨HLI.out, HCP.out⟩, HALL.out, h⟩⟩
                have hdl : deepF fs 5 1 ≤ 11 := deepF_le fs 5 1
                generalize deepF fs 5 1 = D at HDP HFIN hdl
                obtain ⟨x0, x1, x2, x3, x4, _⟩ := five HBX.out
                have HR : Hid ((decide ((D : Int) ≤ 5) = true) ↔ P) := by
                  show _ ↔ _
                  rw [decide_eq_true_iff, HFIN.out]; omega
                go_wp2_with (go_at_call 58; refine HDP.out.mono ?_; rintro e wD ⟨rfl, hbD⟩; have HBD : Hid (Below w.heap.size w wD) := nwT HBWT.out hbD; clear hbD)
                go_ret
                exact ⟨⟨_, rfl, HR.out⟩, HBD.out⟩

end Go.Proofs.Ytodahdnnlkcfdaa

/- slices.Clone of files, numbers, links. -/
namespace Go.Proofs.Ytodahdnnlkcfdaa
open Go.RowKit

set_option maxRecDepth 100000 in
set_option maxHeartbeats 2000000 in
theorem clof_row (p : Addr) (n c : Nat) (xs : List Value) (w : World) (hx : xs.length = n * 5) (hbig : n * 72 ≤ 140737488355328) (hc : ∀ j u, xs[j]? = some u → w.cell? (p.add j) = some u) (h1 : ∀ u ∈ xs, u.oneCell' = true) :
    Calls Try.prog 75 #[.slice (some p) n c] w fun e w' => (∃ v', e = .returned v' ∧ w'.ownsRow w.heap.size 84 5 v' n xs) ∧ Below w.heap.size w w' := by
  obtain ⟨i0, hi, hz0, hz1, hz2⟩ := info_parts Try.info84
  have q22 : ∀ (w : World) (a : Option Addr) (n c n' c' : Nat), (binOp .eql 30 (.slice a n c) (.slice none n' c')).run Try.prog w = .ok (.bool a.isNone) w := fun w a n c n' c' => Lib.run_eql_slice_nil w _ _ a n c n' c' Try.underlying30
  have HC : Hid (∀ j u, xs[j]? = some u → w.cell? (p.add j) = some u) := hc
  have H1 : Hid (∀ u ∈ xs, u.oneCell' = true) := h1
  have HX : Hid (xs.length = n * 5) := hx
  clear hc h1 hx
  go_enter Try.func75, Try.ntmps75
  go_wp2_with (at_builtin; refine wpList_append_own _ rfl _ _ 30 rfl w.heap.size 84 i0 (.agg #[.int .i64 0, .bool false, .int .i64 0, .slice none 0 0, .slice none 0 0]) 5 72 Try.underlying30 hi hz0 hz1 hz2 rfl (by decide) _ _ _ rfl (World.ownsRow_made w #[] 0 (Nat.le_refl _) (Nat.zero_le _) rfl) p n c xs rfl ?qc1 ?qc2 ?qc3 ?qc4 ?qc5 ?qc6 ?_)
  case qc1 => have := HX.out; omega
  case qc2 => intro j u hj; exact Lib.cell?_alloc_some _ (HC.out j u hj)
  case qc3 => exact H1.out
  case qc4 => unfold maxLen; omega
  case qc5 => omega
  case qc6 => simp
  intro v' w1 hown hgrow hnil
  have HOW : Hid (w1.ownsRow w.heap.size 84 5 v' n xs) := by show World.ownsRow _ _ _ _ _ _ _; have := hown; simpa using this
  have HB : Hid (Below w.heap.size w w1) := ((Below.refl _ w).alloc (Nat.le_refl _) _).grown hgrow (by simp) (by intro k hk; simp [Value.ownBlock] at hk; omega)
  clear hown hgrow
  go_wp2_with fail
  go_ret
  exact ⟨⟨v', rfl, HOW.out⟩, HB.out⟩

set_option maxRecDepth 100000 in
set_option maxHeartbeats 1000000 in
theorem clof_nil (n c : Nat) (w : World) : Calls Try.prog 75 #[.slice none n c] w fun e w' => e = .returned (.slice none 0 0) ∧ w' = w := by
  have q22 : ∀ (w : World) (a : Option Addr) (n c n' c' : Nat), (binOp .eql 30 (.slice a n c) (.slice none n' c')).run Try.prog w = .ok (.bool a.isNone) w := fun w a n c n' c' => Lib.run_eql_slice_nil w _ _ a n c n' c' Try.underlying30
  go_enter Try.func75, Try.ntmps75
  go_wp2_with fail
  go_ret
  exact ⟨rfl, rfl⟩

set_option maxRecDepth 100000 in
set_option maxHeartbeats 2000000 in
theorem cloi_row (p : Addr) (n c : Nat) (xs : List Value) (w : World) (hx : xs.length = n * 1) (hbig : n * 8 ≤ 140737488355328) (hc : ∀ j u, xs[j]? = some u → w.cell? (p.add j) = some u) (h1 : ∀ u ∈ xs, u.oneCell' = true) :
    Calls Try.prog 76 #[.slice (some p) n c] w fun e w' => (∃ v', e = .returned v' ∧ w'.ownsRow w.heap.size 3 1 v' n xs) ∧ Below w.heap.size w w' := by
  obtain ⟨i0, hi, hz0, hz1, hz2⟩ := info_parts Try.info3
  have q22 : ∀ (w : World) (a : Option Addr) (n c n' c' : Nat), (binOp .eql 79 (.slice a n c) (.slice none n' c')).run Try.prog w = .ok (.bool a.isNone) w := fun w a n c n' c' => Lib.run_eql_slice_nil w _ _ a n c n' c' Try.underlying79
  have HC : Hid (∀ j u, xs[j]? = some u → w.cell? (p.add j) = some u) := hc
  have H1 : Hid (∀ u ∈ xs, u.oneCell' = true) := h1
  have HX : Hid (xs.length = n * 1) := hx
  clear hc h1 hx
  go_enter Try.func76, Try.ntmps76
  go_wp2_with (at_builtin; refine wpList_append_own _ rfl _ _ 79 rfl w.heap.size 3 i0 (.int .i64 0) 1 8 Try.underlying79 hi hz0 hz1 hz2 rfl (by decide) _ _ _ rfl (World.ownsRow_made w #[] 0 (Nat.le_refl _) (Nat.zero_le _) rfl) p n c xs rfl ?qc1 ?qc2 ?qc3 ?qc4 ?qc5 ?qc6 ?_)
  case qc1 => have := HX.out; omega
  case qc2 => intro j u hj; exact Lib.cell?_alloc_some _ (HC.out j u hj)
  case qc3 => exact H1.out
  case qc4 => unfold maxLen; omega
  case qc5 => omega
  case qc6 => simp
  intro v' w1 hown hgrow hnil
  have HOW : Hid (w1.ownsRow w.heap.size 3 1 v' n xs) := by show World.ownsRow _ _ _ _ _ _ _; have := hown; simpa using this
  have HB : Hid (Below w.heap.size w w1) := ((Below.refl _ w).alloc (Nat.le_refl _) _).grown hgrow (by simp) (by intro k hk; simp [Value.ownBlock] at hk; omega)
  clear hown hgrow
  go_wp2_with fail
  go_ret
  exact ⟨⟨v', rfl, HOW.out⟩, HB.out⟩

set_option maxRecDepth 100000 in
set_option maxHeartbeats 1000000 in
theorem cloi_nil (n c : Nat) (w : World) : Calls Try.prog 76 #[.slice none n c] w fun e w' => e = .returned (.slice none 0 0) ∧ w' = w := by
  have q22 : ∀ (w : World) (a : Option Addr) (n c n' c' : Nat), (binOp .eql 79 (.slice a n c) (.slice none n' c')).run Try.prog w = .ok (.bool a.isNone) w := fun w a n c n' c' => Lib.run_eql_slice_nil w _ _ a n c n' c' Try.underlying79
  go_enter Try.func76, Try.ntmps76
  go_wp2_with fail
  go_ret
  exact ⟨rfl, rfl⟩

set_option maxRecDepth 100000 in
set_option maxHeartbeats 2000000 in
theorem clol_row (p : Addr) (n c : Nat) (xs : List Value) (w : World) (hx : xs.length = n * 2) (hbig : n * 24 ≤ 140737488355328) (hc : ∀ j u, xs[j]? = some u → w.cell? (p.add j) = some u) (h1 : ∀ u ∈ xs, u.oneCell' = true) :
    Calls Try.prog 77 #[.slice (some p) n c] w fun e w' => (∃ v', e = .returned v' ∧ w'.ownsRow w.heap.size 87 2 v' n xs) ∧ Below w.heap.size w w' := by
  obtain ⟨i0, hi, hz0, hz1, hz2⟩ := info_parts Try.info87
  have q22 : ∀ (w : World) (a : Option Addr) (n c n' c' : Nat), (binOp .eql 82 (.slice a n c) (.slice none n' c')).run Try.prog w = .ok (.bool a.isNone) w := fun w a n c n' c' => Lib.run_eql_slice_nil w _ _ a n c n' c' Try.underlying82
  have HC : Hid (∀ j u, xs[j]? = some u → w.cell? (p.add j) = some u) := hc
  have H1 : Hid (∀ u ∈ xs, u.oneCell' = true) := h1
  have HX : Hid (xs.length = n * 2) := hx
  clear hc h1 hx
  go_enter Try.func77, Try.ntmps77
  go_wp2_with (at_builtin; refine wpList_append_own _ rfl _ _ 82 rfl w.heap.size 87 i0 (.agg #[.string ⟨#[]⟩, .int .i64 0]) 2 24 Try.underlying82 hi hz0 hz1 hz2 rfl (by decide) _ _ _ rfl (World.ownsRow_made w #[] 0 (Nat.le_refl _) (Nat.zero_le _) rfl) p n c xs rfl ?qc1 ?qc2 ?qc3 ?qc4 ?qc5 ?qc6 ?_)
  case qc1 => have := HX.out; omega
  case qc2 => intro j u hj; exact Lib.cell?_alloc_some _ (HC.out j u hj)
  case qc3 => exact H1.out
  case qc4 => unfold maxLen; omega
  case qc5 => omega
  case qc6 => simp
  intro v' w1 hown hgrow hnil
  have HOW : Hid (w1.ownsRow w.heap.size 87 2 v' n xs) := by show World.ownsRow _ _ _ _ _ _ _; have := hown; simpa using this
  have HB : Hid (Below w.heap.size w w1) := ((Below.refl _ w).alloc (Nat.le_refl _) _).grown hgrow (by simp) (by intro k hk; simp [Value.ownBlock] at hk; omega)
  clear hown hgrow
  go_wp2_with fail
  go_ret
  exact ⟨⟨v', rfl, HOW.out⟩, HB.out⟩

set_option maxRecDepth 100000 in
set_option maxHeartbeats 1000000 in
theorem clol_nil (n c : Nat) (w : World) : Calls Try.prog 77 #[.slice none n c] w fun e w' => e = .returned (.slice none 0 0) ∧ w' = w := by
  have q22 : ∀ (w : World) (a : Option Addr) (n c n' c' : Nat), (binOp .eql 82 (.slice a n c) (.slice none n' c')).run Try.prog w = .ok (.bool a.isNone) w := fun w a n c n' c' => Lib.run_eql_slice_nil w _ _ a n c n' c' Try.underlying82
  go_enter Try.func77, Try.ntmps77
  go_wp2_with fail
  go_ret
  exact ⟨rfl, rfl⟩

theorem cloi_any (a : Option Addr) (xs : List Int) (c : Nat) (w : World) (hx : IntsAt w a xs) (hc : CapOk a c xs.length) (hl : xs.length ≤ 100000) :
    Calls Try.prog 76 #[.slice a xs.length c] w fun e w' => (∃ v, e = .returned v ∧ OwnInts w' w.heap.size v xs) ∧ Below w.heap.size w w' := by
  cases a with
  | none =>
    have h0 : xs = [] := by have := hc.2.1 rfl; have := hc.1; exact List.length_eq_zero_iff.1 (by omega)
    subst h0
    exact (cloi_nil 0 c w).mono fun e w' ⟨h1, h2⟩ => ⟨⟨_, h1, by rw [h2]; exact World.ownsRow_nil _ _ _ _⟩, by rw [h2]; exact nwR w⟩
  | some p =>
    refine (cloi_row p xs.length c (xs.map (.int .i64)) w (by simp) (by omega) ?_ ?_).mono fun e w' h => h
    · intro j u hj
      rcases hx with rfl | ⟨b, o, e, hh⟩
      · simp at hj
      · injection e with e; subst e
        rw [Addr.add_lit]
        obtain ⟨h1, h2⟩ := List.getElem?_eq_some_iff.1 hj
        rw [List.length_map] at h1
        rw [hh j h1]
        simp only [List.getElem_map] at h2
        rw [← h2]; simp [List.getD, h1]
    · intro u hu; obtain ⟨x, _, rfl⟩ := List.mem_map.1 hu; rfl
theorem linksAt_cells {w : World} {a : Option Addr} {ls : List LinkD} {p : Addr} (hx : LinksAt w a ls) (ha : a = some p) : ∀ j u, (lflat ls)[j]? = some u → w.cell? (p.add j) = some u := by
  intro j u hj
  have hl := (List.getElem?_eq_some_iff.1 hj).1
  rw [lflat_len] at hl
  rcases hx with rfl | ⟨b, o, e, hh⟩
  · simp [lflat] at hj
  · rw [ha] at e; injection e with e; subst e
    rw [Addr.add_lit]
    have hq : j / 2 < ls.length := by omega
    obtain ⟨g1, g2⟩ := lflat_get ls (j / 2) hq
    obtain ⟨h1, h2⟩ := hh (j / 2) hq
    by_cases hm : j = j / 2 * 2
    · rw [hm] at hj ⊢
      rw [g1] at hj; injection hj with hj; subst hj
      exact h1
    · have hm2 : j = j / 2 * 2 + 1 := by omega
      rw [hm2] at hj ⊢
      rw [g2] at hj; injection hj with hj; subst hj
      rw [← Nat.add_assoc]; exact h2
theorem clol_any (a : Option Addr) (xs : List LinkD) (c : Nat) (w : World) (hx : LinksAt w a xs) (hc : CapOk a c xs.length) (hl : xs.length ≤ 100000) :
    Calls Try.prog 77 #[.slice a xs.length c] w fun e w' => (∃ v, e = .returned v ∧ OwnLinks w' w.heap.size v xs) ∧ Below w.heap.size w w' := by
  cases a with
  | none =>
    have h0 : xs = [] := by have := hc.2.1 rfl; have := hc.1; exact List.length_eq_zero_iff.1 (by omega)
    subst h0
    exact (clol_nil 0 c w).mono fun e w' ⟨h1, h2⟩ => ⟨⟨_, h1, by rw [h2]; exact World.ownsRow_nil _ _ _ _⟩, by rw [h2]; exact nwR w⟩
  | some p => exact clol_row p xs.length c (lflat xs) w (lflat_len xs) (by omega) (linksAt_cells hx rfl) (lflat_one xs)

end Go.Proofs.Ytodahdnnlkcfdaa

/- Another list laid into a file of a row of files of one's own. -/
namespace Go.Proofs.Ytodahdnnlkcfdaa
open Go.RowKit

theorem rowset2 {w : World} {base e e' size n g o : Nat} {v : Value} {xs : List Value} {cur : Array Value} (h : w.ownsRow base e size v n xs) (hg : w.heap[g]? = some (.cells cur e' (0, 0))) (hne : e' ≠ e) (u : Value) : (w.setCell ⟨g, o, none⟩ u).ownsRow base e size v n xs := by
  obtain ⟨h1, h2⟩ := h
  refine ⟨h1, ?_⟩
  rcases h2 with h2 | ⟨g', cap, cs, hv, hb, hh, h3, h4, h5, h6⟩
  · exact .inl h2
  · refine .inr ⟨g', cap, cs, hv, hb, ?_, h3, h4, h5, h6⟩
    rw [heap_setCell_other w ⟨g, o, none⟩ g' u (fun e => ?_)]
    · exact hh
    · have e2 : g' = g := e
      rw [e2, hg] at hh
      simp only [Option.some.injEq, Obj.cells.injEq] at hh
      exact hne hh.2.1
theorem fflat_set (gs : List FV) : ∀ (i : Nat) (lv : Value) (li : List LinkD) (hi : i < gs.length), fflat (gs.set i ⟨⟨gs[i].d.id, gs[i].d.dir, gs[i].d.size, gs[i].d.blocks, li⟩, gs[i].bv, lv⟩) = (fflat gs).set (i * 5 + 4) lv := by
  induction gs with
  | nil => intro i lv li hi; simp at hi
  | cons x xs ih =>
    intro i lv li hi
    have e : ∀ (y : FV) ys, fflat (y :: ys) = .int .i64 y.d.id :: .bool y.d.dir :: .int .i64 y.d.size :: y.bv :: y.lv :: fflat ys := fun y ys => by simp [fflat]
    cases i with
    | zero => simp [e]
    | succ i =>
      have h2 := ih i lv li (by simpa using hi)
      rw [show (i + 1) * 5 + 4 = (i * 5 + 4) + 1 + 1 + 1 + 1 + 1 from by omega]
      simp only [List.set_cons_succ, e, List.getElem_cons_succ]
      rw [h2]
def withList (f : FileD) (li : List LinkD) : FileD := ⟨f.id, f.dir, f.size, f.blocks, li⟩
theorem OwnFiles.setList {w : World} {base g cap n : Nat} {fs : List FileD} (h : OwnFiles w base (.slice (some ⟨g, 0, none⟩) n cap) fs) {i : Nat} (hi : i < fs.length) {lv : Value} {li : List LinkD} (hl : OwnLinks w base lv li) :
    OwnFiles (w.setCell ⟨g, i * 5 + 4, none⟩ lv) base (.slice (some ⟨g, 0, none⟩) n cap) (fs.set i (withList (fs.getD i f0) li)) ∧ w.frozen? ⟨g, i * 5 + 4, none⟩ = false ∧ base ≤ g := by
  obtain ⟨gs, rfl, ho, ha⟩ := h
  have hi2 : i < gs.length := by simpa using hi
  have hn : n = gs.length := by
    rcases ho.2 with ⟨h1, _⟩ | ⟨g', cap', cur, h1, _⟩
    · simp at h1
    · simp at h1; exact h1.2.1
  subst hn
  obtain ⟨g', cap', cur, hv, hb, hh, _⟩ : ∃ g' cap' cur, Value.slice (some ⟨g, 0, none⟩) gs.length cap = .slice (some ⟨g', 0, none⟩) gs.length cap' ∧ base ≤ g' ∧ w.heap[g']? = some (.cells cur 84 (0, 0)) ∧ True := by
    rcases ho.2 with ⟨h1, _⟩ | ⟨g', cap', cur, h1, h2, h3, _⟩
    · simp at h1
    · exact ⟨g', cap', cur, h1, h2, h3, trivial⟩
  have hgg : g = g' := by simp at hv; exact hv.1
  subst hgg
  refine ⟨⟨gs.set i ⟨⟨gs[i].d.id, gs[i].d.dir, gs[i].d.size, gs[i].d.blocks, li⟩, gs[i].bv, lv⟩, ?_, ?_, ?_⟩, ho.frozenAt _, hb⟩
  · rw [List.map_set]
    congr 1
    simp [withList, List.getD, hi2]
  · rw [fflat_set gs i lv li hi2, List.length_set]
    exact (ho.stored (i * 5 + 4) lv).1
  · intro x hx
    have hk : ∀ y : FV, OwnFV w base y → OwnFV (w.setCell ⟨g, i * 5 + 4, none⟩ lv) base y := fun y hy => ⟨rowset2 hy.1 hh (by decide) _, rowset2 hy.2 hh (by decide) _⟩
    rcases List.mem_or_eq_of_mem_set hx with h1 | rfl
    · exact hk x (ha x h1)
    · exact ⟨rowset2 (ha gs[i] (List.getElem_mem hi2)).1 hh (by decide) _, rowset2 hl hh (by decide) _⟩

end Go.Proofs.Ytodahdnnlkcfdaa

/- A volume copied by the program: data. -/
namespace Go.Proofs.Ytodahdnnlkcfdaa
open Go.RowKit

/-- a file's lists as they stand somewhere -/
def OrigFV (w : World) (g : FV) : Prop := ∃ ab cb al cl, g.bv = .slice ab g.d.blocks.length cb ∧ g.lv = .slice al g.d.list.length cl ∧ (IntsAt w ab g.d.blocks ∧ CapOk ab cb g.d.blocks.length) ∧ LinksAt w al g.d.list ∧ CapOk al cl g.d.list.length
theorem OrigFV.below {w w' : World} {g : FV} (h : OrigFV w g) (hb : Below w.heap.size w w') : OrigFV w' g := by
  obtain ⟨ab, cb, al, cl, e1, e2, ⟨h1, h2⟩, h3, h4⟩ := h
  exact ⟨ab, cb, al, cl, e1, e2, ⟨h1.below hb, h2⟩, h3.below hb, h4⟩
theorem fflat_len (gs : List FV) : (fflat gs).length = gs.length * 5 := by
  induction gs with
  | nil => rfl
  | cons x xs ih => simp only [fflat, List.flatMap_cons, List.length_append, List.length_cons, List.length_nil] at *; omega
theorem orig_of {w : World} {b : Nat} : ∀ (fs : List FileD) (o : Nat), (∀ i, i < fs.length → FileIn w b (o + i * 5) (fs.getD i f0)) → ∃ gs : List FV, gs.map FV.d = fs ∧ (∀ j u, (fflat gs)[j]? = some u → w.cell? ⟨b, o + j, none⟩ = some u) ∧ ∀ g ∈ gs, OrigFV w g := by
  intro fs
  induction fs with
  | nil => intro o _; exact ⟨[], rfl, fun j u h => by simp [fflat] at h, fun g hg => by simp at hg⟩
  | cons f fs ih =>
    intro o h
    obtain ⟨gs, h1, h2, h3⟩ := ih (o + 5) (fun i hi => by
      have := h (i + 1) (by simp; omega)
      rw [show o + (i + 1) * 5 = o + 5 + i * 5 from by omega] at this
      simpa using this)
    have h0 := h 0 (by simp)
    simp only [Nat.zero_mul, Nat.add_zero, List.getD_cons_zero] at h0
    obtain ⟨ab, cb, al, cl, ⟨c0, c1, c2, c3, c4⟩, hi, hl⟩ := h0
    refine ⟨⟨f, .slice ab f.blocks.length cb, .slice al f.list.length cl⟩ :: gs, by simp [h1], fun j u hj => ?_, fun g hg => ?_⟩
    · have e : fflat (⟨f, .slice ab f.blocks.length cb, .slice al f.list.length cl⟩ :: gs) = .int .i64 f.id :: .bool f.dir :: .int .i64 f.size :: .slice ab f.blocks.length cb :: .slice al f.list.length cl :: fflat gs := by simp [fflat]
      rw [e] at hj
      match j with
      | 0 => simp at hj; subst hj; exact c0
      | 1 => simp at hj; subst hj; exact c1
      | 2 => simp at hj; subst hj; exact c2
      | 3 => simp at hj; subst hj; exact c3
      | 4 => simp at hj; subst hj; exact c4
      | j + 5 =>
        simp only [List.getElem?_cons_succ] at hj
        have := h2 j u hj
        rw [show o + (j + 5) = o + 5 + j from by omega]
        exact this
    · rcases List.mem_cons.1 hg with rfl | hg
      · exact ⟨ab, cb, al, cl, rfl, rfl, hi, hl⟩
      · exact h3 g hg
theorem fflat_one {w : World} {gs : List FV} (h : ∀ g ∈ gs, OrigFV w g) : ∀ u ∈ fflat gs, u.oneCell' = true := by
  intro u hu
  unfold fflat at hu
  obtain ⟨g, hg, hm⟩ := List.mem_flatMap.1 hu
  obtain ⟨ab, cb, al, cl, e1, e2, _⟩ := h g hg
  rw [e1, e2] at hm
  simp at hm
  rcases hm with rfl | rfl | rfl | rfl | rfl <;> rfl
theorem fflat_setb (gs : List FV) : ∀ (i : Nat) (bv : Value) (hi : i < gs.length), fflat (gs.set i ⟨gs[i].d, bv, gs[i].lv⟩) = (fflat gs).set (i * 5 + 3) bv := by
  induction gs with
  | nil => intro i bv hi; simp at hi
  | cons x xs ih =>
    intro i bv hi
    have e : ∀ (y : FV) ys, fflat (y :: ys) = .int .i64 y.d.id :: .bool y.d.dir :: .int .i64 y.d.size :: y.bv :: y.lv :: fflat ys := fun y ys => by simp [fflat]
    cases i with
    | zero => simp [e]
    | succ i =>
      have h2 := ih i bv (by simpa using hi)
      rw [show (i + 1) * 5 + 3 = (i * 5 + 3) + 1 + 1 + 1 + 1 + 1 from by omega]
      simp only [List.set_cons_succ, e, List.getElem_cons_succ]
      rw [h2]
theorem fflat_setl (gs : List FV) : ∀ (i : Nat) (lv : Value) (hi : i < gs.length), fflat (gs.set i ⟨gs[i].d, gs[i].bv, lv⟩) = (fflat gs).set (i * 5 + 4) lv := by
  induction gs with
  | nil => intro i lv hi; simp at hi
  | cons x xs ih =>
    intro i lv hi
    have e : ∀ (y : FV) ys, fflat (y :: ys) = .int .i64 y.d.id :: .bool y.d.dir :: .int .i64 y.d.size :: y.bv :: y.lv :: fflat ys := fun y ys => by simp [fflat]
    cases i with
    | zero => simp [e]
    | succ i =>
      have h2 := ih i lv (by simpa using hi)
      rw [show (i + 1) * 5 + 4 = (i * 5 + 4) + 1 + 1 + 1 + 1 + 1 from by omega]
      simp only [List.set_cons_succ, e, List.getElem_cons_succ]
      rw [h2]
/-- lists in blocks of their own, each -/
def Apart (gs : List FV) : Prop := ∀ i j : Nat, i < j → ∀ x y : FV, gs[i]? = some x → gs[j]? = some y → x.lv.ownBlock = none ∨ x.lv.ownBlock ≠ y.lv.ownBlock
def OwnFilesX (w : World) (base : Nat) (v : Value) (fs : List FileD) : Prop := ∃ gs : List FV, gs.map FV.d = fs ∧ w.ownsRow base 84 5 v gs.length (fflat gs) ∧ (∀ g ∈ gs, OwnFV w base g) ∧ Apart gs
theorem OwnFilesX.plain {w : World} {base : Nat} {v : Value} {fs : List FileD} (h : OwnFilesX w base v fs) : OwnFiles w base v fs := by
  obtain ⟨gs, h1, h2, h3, _⟩ := h; exact ⟨gs, h1, h2, h3⟩
/-- half-way: so many files have lists of their own -/
structure Half (w : World) (base : Nat) (v : Value) (fs : List FileD) (gs0 gs : List FV) (k : Nat) : Prop where
  ds : gs.map FV.d = fs
  row : w.ownsRow base 84 5 v gs.length (fflat gs)
  own : ∀ (j : Nat) (g : FV), j < k → gs[j]? = some g → OwnFV w base g
  ap : ∀ i j : Nat, i < j → j < k → ∀ x y : FV, gs[i]? = some x → gs[j]? = some y → x.lv.ownBlock = none ∨ x.lv.ownBlock ≠ y.lv.ownBlock
  old : ∀ j : Nat, k ≤ j → gs[j]? = gs0[j]?
theorem Half.below {w w' : World} {base : Nat} {v : Value} {fs : List FileD} {gs0 gs : List FV} {k : Nat} (h : Half w base v fs gs0 gs k) (hb : Below w.heap.size w w') : Half w' base v fs gs0 gs k :=
  ⟨h.ds, own_below h.row hb, fun j g hj hg => (h.own j g hj hg).below hb, h.ap, h.old⟩
theorem Half.fin {w : World} {base : Nat} {v : Value} {fs : List FileD} {gs0 gs : List FV} {k : Nat} (h : Half w base v fs gs0 gs k) (hk : gs.length ≤ k) : OwnFilesX w base v fs := by
  refine ⟨gs, h.ds, h.row, fun g hg => ?_, ?_⟩
  · obtain ⟨j, hj, rfl⟩ := List.getElem_of_mem hg
    exact h.own j _ (by omega) (List.getElem?_eq_getElem hj)
  · intro i j hij x y hx hy
    have := (List.getElem?_eq_some_iff.1 hy).1
    exact h.ap i j hij (by omega) x y hx hy

end Go.Proofs.Ytodahdnnlkcfdaa
