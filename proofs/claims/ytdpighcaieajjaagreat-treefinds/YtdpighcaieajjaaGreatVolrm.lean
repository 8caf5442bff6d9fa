/- Which volumes may be, by the page: plain mathematics. -/
import Derived.Test.YtdpighcaieajjaaGreatFiled
namespace Go.Proofs.YtdpighcaieajjaaGreat
open Go.RowKit

def FileR (fs : List FileD) (f : FileD) : Prop := if f.dir then DirOk fs f else PlainOk f
def RowR (next : Int) (fs : List FileD) (k : Nat) : Prop := (fs.getD k f0).id < next ∧ (0 < k → (fs.getD (k - 1) f0).id < (fs.getD k f0).id) ∧ FileR fs (fs.getD k f0)
def CntR (fs : List FileD) (k : Nat) : Prop := (k = 0 → linksN fs (fs.getD k f0).id = 0) ∧ (0 < k → linksN fs (fs.getD k f0).id ≠ 0 ∧ ((fs.getD k f0).dir = true → linksN fs (fs.getD k f0).id = 1))

theorem fileR_iff {fs : List FileD} {f : FileD} : FileR fs f ↔ NodeOk f ∧ ∀ i, i < f.list.length → (atI fs (f.list.getD i lk0).2).isSome = true := by
  unfold FileR NodeOk
  cases hd : f.dir
  · simp only [Bool.false_eq_true, if_false]
    constructor
    · rintro ⟨h1, h2, h3, h4⟩
      exact ⟨⟨h1, h2, h3, h4⟩, fun i hi => by omega⟩
    · rintro ⟨⟨h1, h2, h3, h4⟩, _⟩
      exact ⟨h1, h2, h3, h4⟩
  · simp only [if_true]
    constructor
    · rintro ⟨h1, h2, h3, h4⟩
      exact ⟨⟨h1, h2, h3, fun k hk => ⟨(h4 k hk).1, (h4 k hk).2.1⟩⟩, fun i hi => (h4 i hi).2.2⟩
    · rintro ⟨⟨h1, h2, h3, h4⟩, h5⟩
      exact ⟨h1, h2, h3, fun k hk => ⟨(h4 k hk).1, (h4 k hk).2, h5 k hk⟩⟩
theorem rows_iff {next : Int} {fs : List FileD} (hh : HeadOk fs) : (∀ k, k < fs.length → RowR next fs k) ↔ (∀ k, k < fs.length → IdOk next fs k ∧ NodeOk (fs.getD k f0)) ∧ LinksIn fs := by
  constructor
  · intro h
    refine ⟨fun k hk => ⟨⟨?_, ?_⟩, (fileR_iff.1 (h k hk).2.2).1⟩, linksIn_get (fun k hk => (fileR_iff.1 (h k hk).2.2).2)⟩
    · unfold lastI
      split
      · rename_i e; subst e; have := hh.2.2.1; omega
      · have := (h k hk).2.1 (by omega); omega
    · have := (h k hk).1; omega
  · rintro ⟨h1, h2⟩ k hk
    refine ⟨?_, fun h0 => ?_, fileR_iff.2 ⟨(h1 k hk).2, fun i hi => linksIn_at h2 hk hi⟩⟩
    · have := (h1 k hk).1.2; omega
    · have := (h1 k hk).1.1
      unfold lastI at this
      rw [if_neg (by omega)] at this
      omega
theorem counts_iff {fs : List FileD} (hr : Rising fs) (hh : HeadOk fs) : (∀ k, k < fs.length → CntR fs k) ↔ CountP fs := by
  have key : ∀ k, k < fs.length → ((fs.getD k f0).id = 1 ↔ k = 0) := fun k hk => by
    constructor
    · intro h
      by_cases e : k = 0
      · exact e
      · have := hr 0 k (by omega) hk
        have h1 := hh.2.2.1
        omega
    · intro e; subst e; exact hh.2.2.1
  constructor
  · intro h k hk
    refine ⟨fun e => (h k hk).1 ((key k hk).1 e), fun e => (h k hk).2 ?_⟩
    have : ¬ k = 0 := fun e2 => e ((key k hk).2 e2)
    omega
  · intro h k hk
    refine ⟨fun e => (h k hk).1 ((key k hk).2 e), fun e => (h k hk).2 (fun e2 => ?_)⟩
    have := (key k hk).1 e2
    omega
theorem file_is (v u : Value) (d : VolD) (f : FileD) (w : World) (b : Bool) (hv : VolVal w v d) (hu : FileVal w u f) (hs : SmallF f) (hl : d.files.length ≤ 100000) (hb : b = true ↔ FileR d.files f) :
    Calls Tryz.prog 44 #[v, u] w fun e w' => e = .returned (.bool b) ∧ Below w.heap.size w w' := by
  cases hd : f.dir
  · exact (file_plain v u d f w hv hu hs hd).mono fun _ _ ⟨h1, h2⟩ => ⟨says_is h1 (by rw [hb]; unfold FileR; rw [hd]; simp), h2⟩
  · exact (file_dir v u d f w hv hu hs hl hd).mono fun _ _ ⟨h1, h2⟩ => ⟨says_is h1 (by rw [hb]; unfold FileR; rw [hd]; simp), h2⟩
theorem between_is (n low high : Int) (w : World) (b : Bool) (h : betB n low high = b) : Calls Tryz.prog 23 #[.int .i64 n, .int .i64 low, .int .i64 high] w fun e w' => e = .returned (.bool b) ∧ w' = w := by
  rw [← h]; exact between_any n low high w
theorem reached_iff {fs : List FileD} {bs : List Bool} (hlen : bs.length = fs.length) (hm : MarkRel fs 0 (List.replicate fs.length false) bs) : (∀ i, i < bs.length → bs.getD i false = true) ↔ ∀ i, i < fs.length → Reach fs i := by
  obtain ⟨_, _, h0, hn⟩ := hm
  have hf : ∀ i, (List.replicate fs.length false).getD i false = false := fun i => by
    rw [List.getD_eq_getElem?_getD, List.getElem?_replicate]; split <;> rfl
  constructor
  · intro h i hi
    exact ((hn i (h i (by omega)) (hf i)).1).reach
  · intro h i hi
    have key : ∀ x, Reach fs x → bs.getD x false = true := by
      intro x hx
      induction hx with
      | root => exact h0
      | step _ hm ih => exact (hn _ ih (hf _)).2 _ hm
    exact key i (h i (by omega))
def HeadR (d : VolD) : Prop := NumOk d ∧ HeadOk d.files

end Go.Proofs.YtdpighcaieajjaaGreat
