/- The argument of the laws, opened: rows of segments, numbers. -/
import Derived.Test.YtpkgoagoceddoaaRows
import Derived.Test.YtpkgoagoceddoaaOf
import Derived.ProofKit
import Derived.SizedLaws
import Derived.Deep.SlicePairs
import Derived.Lib.SmallJoins
namespace Go.Proofs.Ytpkgoagoceddoaa
open Go.ChangeShapes Go.WideShapes Go.ChangeAt Go.RowKit Go.Deep Go.Joins

theorem Try.own : ownKnob Try.prog.godebug = none := by kernel_rfl
theorem Try.laidOut : laidOutB Try.prog = true := by kernel_rfl
theorem Try.cells3 : Try.prog.cellsOf 3 = 1 := by kernel_rfl
theorem Try.cells25 : Try.prog.cellsOf 25 = 2 := by kernel_rfl
theorem Try.cells27 : Try.prog.cellsOf 27 = 1 := by kernel_rfl
theorem Try.cells57 : Try.prog.cellsOf 57 = 2 := by kernel_rfl
theorem Try.bytes3 : Try.prog.bytesOf 3 = 8 := by kernel_rfl
theorem Try.bytes27 : Try.prog.bytesOf 27 = 24 := by kernel_rfl
theorem Try.bytes57 : Try.prog.bytesOf 57 = 16 := by kernel_rfl

def LawOk (F : Nat) : Prop := ∀ (a : Option Addr) (ls : List RowV) (ca : Nat) (b : Option Addr) (ns : List Int) (cb : Nat) (w : World), RowsAt w a ls → IntsAt w b ns → ls.length ≤ 140737488351232 → ns.length ≤ 140737488351232 →
  (∀ i, i < ls.length → (ls.getD i row0).2.2.length ≤ 140737488351232) → (∀ z ∈ ns, (Lit.int .i64 z).wf = true) →
  Calls Try.prog F #[.agg #[.slice a ls.length ca, .slice b ns.length cb]] w fun e w' => e = .returned (.bool true) ∧ Below w.heap.size w w'

section
variable {H : Type} {enc : TypeId × Value → H} {W : World}

theorem open_row {n : Nat} {v : Value} {d : DataW H} {pl : List MemPlace} (h : DataW.trod enc Try.prog W 0 (fun _ => true) true n 27 [v] = some (d, pl)) :
    ∃ r : RowV, v = .slice r.1 r.2.2.length r.2.1 ∧ SegsAt W r.1 r.2.2 ∧ r.2.2.length ≤ maxLen ∧ ((∀ x ∈ d.weights Try.prog 27, x ≤ reachBytes) → r.2.2.length ≤ 140737488351232) := by
  rcases open_slice_pairs Try.underlying27 Try.underlying57 Try.cells57 rfl rfl Try.cells3 Try.cells3 h with ⟨hcs, _⟩ | ⟨a, len, cap, m, k, V0, V1, D0, D1, P0, P1, hcs, _, hl, hm, hmm, hx, hc⟩
  · refine ⟨(none, 0, []), by simpa using hcs, fun i hi => by simp at hi, by simp, fun _ => by simp⟩
  · have hlm : len ≤ m := by rw [hmm]; simp; omega
    obtain ⟨N0, hN0⟩ := choose_lt (α := Int) (n := m) (p := fun i z => V0 i = .int .i64 z) (fun i hi => by
      obtain ⟨z, hz, _⟩ := DataW.trod_int Try.underlying3 (hc i hi).2.2.1
      exact ⟨z, by simpa using hz⟩)
    obtain ⟨N1, hN1⟩ := choose_lt (α := Int) (n := m) (p := fun i z => V1 i = .int .i64 z) (fun i hi => by
      obtain ⟨z, hz, _⟩ := DataW.trod_int Try.underlying3 (hc i hi).2.2.2
      exact ⟨z, by simpa using hz⟩)
    refine ⟨(some a, cap, (List.range len).map fun i => (N0 i, N1 i)), by simpa using hcs, ?_, by simp; omega, ?_⟩
    · intro i hi
      simp only [List.length_map, List.length_range] at hi
      obtain ⟨c0, c1, _, _⟩ := hc i (by omega)
      obtain ⟨b, off, spot⟩ := a
      have hspot : spot = none := by
        have := World.cell?_spot (hc 0 (by omega)).1
        simpa [Addr.add] using this
      subst hspot
      refine ⟨b, off, rfl, ?_, ?_⟩
      · rw [Go.WideShapes.add_plain] at c0
        rw [c0, hN0 i (by omega)]
        simp [hi]
      · rw [Go.WideShapes.add_plain] at c1
        rw [← Nat.add_assoc] at c1
        rw [c1, hN1 i (by omega)]
        simp [hi]
    · intro hw
      simp only [Prod.mk.injEq] at hx
      have := hw ((len + (m - len)) * Try.prog.bytesOf 57) (by rw [hx.1]; simp [DataW.weights, Try.underlying27])
      rw [Try.bytes57] at this
      simp only [reachBytes] at this
      simp
      omega

theorem mem_all {P : Program} {e : TypeId} {x : Nat} (d : DataW H) : ∀ {ds : List (DataW H)}, d ∈ ds → x ∈ d.weights P e → x ∈ DataW.weightsAll P e ds
  | [], h, _ => by simp at h
  | d' :: r, h, hx => by
    simp only [DataW.weightsAll, List.mem_append]
    rcases List.mem_cons.1 h with rfl | h
    · exact Or.inl hx
    · exact Or.inr (mem_all d h hx)

theorem open_rows {n : Nat} {v : Value} {y : DataW H × List MemPlace} (h : DataW.trod enc Try.prog W 0 (fun _ => true) true n 22 [v] = some y) (hw : ∀ x ∈ y.1.weights Try.prog 22, x ≤ reachBytes) :
    ∃ (a : Option Addr) (ls : List RowV) (ca : Nat), v = .slice a ls.length ca ∧ RowsAt W a ls ∧ ls.length ≤ 140737488351232 ∧ (∀ i, i < ls.length → (ls.getD i row0).2.2.length ≤ 140737488351232) := by
  rcases open_slice1 Try.underlying22 Try.cells27 h with ⟨hcs, _⟩ | ⟨a, len, cap, m, k, V, D, Pl, hcs, _, hl, hm, hmm, hx, hc⟩
  · refine ⟨none, [], 0, by simpa using hcs, fun i hi => by simp at hi, by simp, fun i hi => by simp at hi⟩
  · have hlm : len ≤ m := by rw [hmm]; simp; omega
    obtain ⟨R, hR⟩ := choose_lt (α := RowV) (n := m) (p := fun i r => V i = .slice r.1 r.2.2.length r.2.1 ∧ SegsAt W r.1 r.2.2 ∧ r.2.2.length ≤ maxLen ∧ ((∀ x ∈ (D i).weights Try.prog 27, x ≤ reachBytes) → r.2.2.length ≤ 140737488351232))
      (fun i hi => open_row (hc i hi).2)
    have hx1 : y.1 = .slice ((List.range len).map D) ((List.range (m - len)).map fun j => D (len + j)) := by rw [hx]
    refine ⟨some a, (List.range len).map R, cap, by simpa using hcs, ?_, ?_, ?_⟩
    · intro i hi
      simp only [List.length_map, List.length_range] at hi
      have c0 := (hc i (by omega)).1
      obtain ⟨r1, r2, r3, _⟩ := hR i (by omega)
      obtain ⟨b, off, spot⟩ := a
      have hspot : spot = none := by
        have := World.cell?_spot (hc 0 (by omega)).1
        simpa [Addr.add] using this
      subst hspot
      have e : ((List.range len).map R).getD i row0 = R i := by simp [hi]
      rw [e]
      rw [Go.WideShapes.add_plain] at c0
      exact ⟨b, off, rfl, by rw [c0, r1], r2, r3⟩
    · have := hw ((len + (m - len)) * Try.prog.bytesOf 27) (by rw [hx1]; simp [DataW.weights, Try.underlying22])
      rw [Try.bytes27] at this
      simp only [reachBytes] at this
      simp
      omega
    · intro i hi
      simp only [List.length_map, List.length_range] at hi
      have e : ((List.range len).map R).getD i row0 = R i := by simp [hi]
      rw [e]
      refine (hR i (by omega)).2.2.2 fun x hxm => hw x ?_
      rw [hx1]
      simp only [DataW.weights, Try.underlying22, List.mem_cons, List.mem_append]
      refine Or.inr (Or.inl ?_)
      exact mem_all (D i) (by simp; exact ⟨i, hi, rfl⟩) hxm

theorem open_nums {n : Nat} {v : Value} {y : DataW H × List MemPlace} (h : DataW.trod enc Try.prog W 0 (fun _ => true) true n 23 [v] = some y) (hw : ∀ x ∈ y.1.weights Try.prog 23, x ≤ reachBytes) :
    ∃ (a : Option Addr) (ns : List Int) (ca : Nat), v = .slice a ns.length ca ∧ IntsAt W a ns ∧ ns.length ≤ 140737488351232 ∧ (∀ z ∈ ns, (Lit.int .i64 z).wf = true) := by
  rcases open_ints Try.underlying23 Try.underlying3 Try.cells3 h with ⟨hcs, _⟩ | ⟨a, len, cap, zs, hcs, _, hl, hm, hz, hx, hc, hwf⟩
  · refine ⟨none, [], 0, by simpa using hcs, fun i hi => by simp at hi, by simp, fun i hi => by simp at hi⟩
  · simp at hz
    have hx1 : y.1 = .slice (lits .i64 (zs.take len)) (lits .i64 (zs.drop len)) := by rw [hx]
    refine ⟨some a, zs.take len, cap, ?_, ?_, ?_, fun z hz' => hwf z (List.mem_of_mem_take hz')⟩
    · have : min len zs.length = len := by omega
      simpa [this] using hcs
    · intro i hi
      have hi' : i < len ∧ i < zs.length := by simpa [Nat.lt_min] using hi
      obtain ⟨b, off, rfl, hcc⟩ := ints_at hc (by omega)
      refine ⟨b, off, rfl, ?_⟩
      rw [hcc i hi'.2]
      simp [hi'.1]
    · have := hw ((len + (zs.length - len)) * Try.prog.bytesOf 3) (by rw [hx1]; simp [DataW.weights, Try.underlying23, lits, show min len zs.length = len from by omega])
      rw [Try.bytes3] at this
      simp only [reachBytes] at this
      simp
      omega
end

end Go.Proofs.Ytpkgoagoceddoaa
