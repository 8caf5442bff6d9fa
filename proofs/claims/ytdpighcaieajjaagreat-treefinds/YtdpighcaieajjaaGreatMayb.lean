/- Which volumes may be, by the program. -/
import Derived.Test.YtdpighcaieajjaaGreatNums
import Derived.Test.YtdpighcaieajjaaGreatFilesm
import Derived.Test.YtdpighcaieajjaaGreatPathsm
namespace Go.Proofs.YtdpighcaieajjaaGreat
open Go.RowKit

def PathOk (fs : List FileD) : Prop := (∀ i, i < fs.length → Reach fs i) ∧ deepF fs 5 1 ≤ 5
/-- which volumes may be -/
def VolOk (d : VolD) : Prop := NumOk d ∧ FilesOk d.next d.files ∧ (LinksIn d.files ∧ CountP d.files) ∧ PathOk d.files

theorem rising_of {next : Int} {fs : List FileD} (h : ∀ k, k < fs.length → IdOk next fs k) : Rising fs := by
  have step : ∀ k, k + 1 < fs.length → (fs.getD k f0).id < (fs.getD (k + 1) f0).id := fun k hk => by
    have := (h (k + 1) hk).1
    unfold lastI at this
    rw [if_neg (by omega)] at this
    simp only [Nat.add_sub_cancel] at this
    omega
  intro i j hij hj
  induction j with
  | zero => omega
  | succ j ih =>
    have h1 := step j hj
    by_cases e : i = j
    · subst e; exact h1
    · have := ih (by omega) (by omega)
      omega
theorem web_of {next : Int} {fs : List FileD} (hf : FilesOk next fs) (hl : LinksIn fs) (hc : CountP fs) : Web fs := by
  have hr : Rising fs := rising_of (fun k hk => (hf.2 k hk).1)
  refine ⟨hf.1.1, hf.1.2.2.2, hl, hr, ?_, ?_⟩
  · intro f hm hd
    obtain ⟨k, hk, rfl⟩ := List.getElem_of_mem hm
    have h2 := (hf.2 k hk).2
    have e : fs.getD k f0 = fs[k] := by simp [List.getD, hk]
    rw [e] at h2
    unfold NodeOk at h2
    rw [hd] at h2
    simp only [Bool.false_eq_true, if_false] at h2
    exact List.length_eq_zero_iff.1 h2.1
  · intro i hi
    have h2 := hc i hi
    have h1 := hf.1.2.2.1
    refine ⟨fun e => ?_, fun e => ?_⟩
    · subst e; exact h2.1 h1
    · have h3 := hr 0 i e hi
      exact h2.2 (by omega)
theorem msr_le (fs : List FileD) : ∀ n q, (msr fs n q).2 ≤ n := by
  intro n
  induction n with
  | zero => intro q; exact Nat.le_refl _
  | succ n ih =>
    intro q
    cases hd : dirAt fs q
    · rw [msr_leaf q (n + 1) hd]; exact Nat.zero_le _
    · rw [msr_deep q n hd]
      exact foldl_max_le _ (fun x => (msr fs n x).2 + 1) (n + 1) (fun x _ => by have := ih x; omega) 0 (by omega)
theorem msr_dirs {fs : List FileD} (W : Web fs) : (msr fs fs.length 0).1 ≤ fs.length := by
  rw [msr_dl]
  have hn := dl_nodup W fs.length 0 0 .root
  have := nodup_len (m := List.range fs.length) hn (fun x hx => by
    obtain ⟨k, hk⟩ := dl_sub _ _ _ hx
    refine List.mem_range.2 ?_
    cases hk with
    | self _ => exact W.pos
    | step _ hm _ => exact kids_lt W.lin hm)
  rw [List.length_range] at this
  exact this

set_option maxRecDepth 100000 in
set_option maxHeartbeats 2000000 in
theorem mayBe_any (B : Nat) (d : VolD) (w : World) (hv : VolAt w B d) (hs : SmallV d) :
    Calls Tryz.prog 75 #[.pointer (some ⟨B, 0, none⟩)] w fun e w' => SaysB e (VolOk d) ∧ Below w.heap.size w w' := by
  have HV : Hid (VolAt w B d) := hv
  have HS : Hid (SmallV d) := hs
  have HX : Hid (VolOk d ↔ (NumOk d ∧ FilesOk d.next d.files ∧ (LinksIn d.files ∧ CountP d.files) ∧ PathOk d.files)) := Iff.rfl
  clear hv hs
  generalize VolOk d = P at HX
  go_enter Tryz.func75, Tryz.ntmps75
  go_wp2_with fail
  refine (nums_any B d w HV.out).mono ?_
  rintro e w1 ⟨⟨t1, rfl, h1⟩, hb1⟩
  have HB1 : Hid (Below w.heap.size w w1) := hb1
  clear hb1
  cases t1
  · have HN : Hid (¬ P) := fun h => by have := h1.2 (HX.out.1 h).1; cases this
    clear h1
    go_wp2_with fail
    go_ret
    exact ⟨says_no HN.out, HB1.out⟩
  · have HNU : Hid (NumOk d) := h1.1 rfl
    have hnx : 0 ≤ d.next ∧ d.next ≤ 1073741824 := by have := HNU.out.2.2.1; simpa [numB] using this
    have HNX : Hid (0 ≤ d.next ∧ d.next ≤ 1073741824) := hnx
    clear h1 hnx
    go_wp2_with fail
    refine (filesm_any B d w1 (HV.out.below HB1.out) HS.out HNX.out.1 HNX.out.2).mono ?_
    rintro e w2 ⟨⟨t2, rfl, h2⟩, hb2⟩
    have HB2 : Hid (Below w.heap.size w w2) := nwT HB1.out hb2
    clear hb2
    cases t2
    · have HN : Hid (¬ P) := fun h => by have := h2.2 (HX.out.1 h).2.1; cases this
      clear h2
      go_wp2_with fail
      go_ret
      exact ⟨says_no HN.out, HB2.out⟩
    · have HFO : Hid (FilesOk d.next d.files) := h2.1 rfl
      clear h2
      go_wp2_with fail
      refine (linksm_any B d w2 (HV.out.below HB2.out) HS.out).mono ?_
      rintro e w3 ⟨⟨t3, rfl, h3⟩, hb3⟩
      have HB3 : Hid (Below w.heap.size w w3) := nwT HB2.out hb3
      clear hb3
      cases t3
      · have HN : Hid (¬ P) := fun h => by have := h3.2 (HX.out.1 h).2.2.1; cases this
        clear h3
        go_wp2_with fail
        go_ret
        exact ⟨says_no HN.out, HB3.out⟩
      · have HLC : Hid (LinksIn d.files ∧ CountP d.files) := h3.1 rfl
        have HW : Hid (Web d.files) := web_of HFO.out HLC.out.1 HLC.out.2
        have HA : Hid (atI d.files 1 = some 0) := by
          have := atI_self HW.out.ris HW.out.pos
          rw [HFO.out.1.2.2.1] at this
          exact this
        have HPB : Hid (PathP d.files ↔ PathOk d.files) := paths_both HW.out HFO.out.1.2.2.1
        have hlen : d.files.length ≤ 16 := HFO.out.1.2.1
        clear h3
        go_wp2_with fail
        refine (pathsm_any B d w3 (HV.out.below HB3.out) HS.out HLC.out.1 HA.out (tame_root HW.out) (by have := msr_dirs HW.out; omega) (by have := msr_le d.files d.files.length 0; omega)).mono ?_
        rintro e w4 ⟨⟨t4, rfl, h4⟩, hb4⟩
        have HB4 : Hid (Below w.heap.size w w4) := nwT HB3.out hb4
        have HR : Hid (t4 = true ↔ P) := by show _ ↔ _; rw [h4, HPB.out, HX.out]; exact ⟨fun h => ⟨HNU.out, HFO.out, HLC.out, h⟩, fun h => h.2.2.2⟩
        clear hb4 h4
        go_wp2_with fail
        go_ret
        exact ⟨⟨t4, rfl, HR.out⟩, HB4.out⟩

set_option maxRecDepth 100000 in
set_option maxHeartbeats 2000000 in
theorem checkv_any (v : Value) (d : VolD) (w : World) (hv : VolVal w v d) (hs : SmallV d) :
    Calls Tryz.prog 41 #[v] w fun e w' => (∃ b : Bool, (b = true ↔ VolOk d) ∧ e = .returned (.int .i64 (errI b))) ∧ Below w.heap.size w w' := by
  obtain ⟨a, ca, rfl, hfs, hcp⟩ := hv
  have HF : Hid (FilesAt w a d.files) := hfs
  have HS : Hid (SmallV d) := hs
  have HBW : Hid (Below w.heap.size w ((w.alloc (.cells #[.int .i64 d.id, .int .i64 d.fr, .bool d.snap, .slice a d.files.length ca, .int .i64 d.next] 24)).alloc (.cells #[.int .i64 d.id, .int .i64 d.fr, .bool d.snap, .slice a d.files.length ca, .int .i64 d.next] 104))) := nwA (nwA (nwR w) _) _
  have HVA : Hid (VolAt ((w.alloc (.cells #[.int .i64 d.id, .int .i64 d.fr, .bool d.snap, .slice a d.files.length ca, .int .i64 d.next] 24)).alloc (.cells #[.int .i64 d.id, .int .i64 d.fr, .bool d.snap, .slice a d.files.length ca, .int .i64 d.next] 104)) (w.heap.size + 1) d) := ⟨a, ca, heap_alloc_new2 w _ _, HF.out.below HBW.out, hcp⟩
  clear hfs hs hcp
  go_enter Tryz.func41, Tryz.ntmps41
  go_wp2_with fail
  refine (mayBe_any (w.heap.size + 1) d _ HVA.out HS.out).mono ?_
  rintro e w1 ⟨⟨t1, rfl, h1⟩, hb1⟩
  have HB1 : Hid (Below w.heap.size w w1) := nwT HBW.out hb1
  have HR : Hid (t1 = true ↔ VolOk d) := h1
  clear hb1 h1
  cases t1
  · go_wp2_with fail
    go_ret
    exact ⟨⟨false, HR.out, rfl⟩, HB1.out⟩
  · have HY : Hid (VolOk d) := HR.out.1 rfl
    clear HR
    go_wp2_with fail
    go_ret
    exact ⟨⟨true, ⟨fun _ => HY.out, fun _ => rfl⟩, rfl⟩, HB1.out⟩

end Go.Proofs.YtdpighcaieajjaaGreat
