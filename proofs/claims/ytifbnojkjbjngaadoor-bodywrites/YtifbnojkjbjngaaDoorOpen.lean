/- The argument of the laws, opened: texts, rows of texts, numbers. -/
import Derived.Test.YtifbnojkjbjngaaDoorCards
import Derived.Test.YtifbnojkjbjngaaDoorTie
import Derived.Test.YtifbnojkjbjngaaDoorHeavy
import Derived.ProofKit
import Derived.SizedLaws
import Derived.SliceStrings
import Derived.Lib.SmallJoins
import Derived.Deep.Slices
import Derived.Lay
import Derived.SevenTiedAt
namespace Go.Proofs.YtifbnojkjbjngaaDoor
open Go.ChangeShapes Go.WideShapes Go.ChangeAt Go.RowKit Go.Deep Go.Joins

theorem Tryd.own : ownKnob Tryd.prog.godebug = none := by kernel_rfl
theorem Tryd.laidOut : laidOutB Tryd.prog = true := by kernel_rfl
theorem Tryd.cells9 : Tryd.prog.cellsOf 9 = 1 := by kernel_rfl
theorem Tryd.cells3 : Tryd.prog.cellsOf 3 = 1 := by kernel_rfl
theorem Tryd.cells22 : Tryd.prog.cellsOf 22 = 1 := by kernel_rfl
theorem Tryd.cells26 : Tryd.prog.cellsOf 26 = 3 := by kernel_rfl
theorem Tryd.bytes9 : Tryd.prog.bytesOf 9 = 16 := by kernel_rfl
theorem Tryd.bytes3 : Tryd.prog.bytesOf 3 = 8 := by kernel_rfl
theorem Tryd.bytes22 : Tryd.prog.bytesOf 22 = 24 := by kernel_rfl

section
variable {H : Type} {P : Program}
theorem mem_all {P : Program} {e : TypeId} {x : Nat} (d : DataW H) : ∀ {ds : List (DataW H)}, d ∈ ds → x ∈ d.weights P e → x ∈ DataW.weightsAll P e ds
  | [], h, _ => by simp at h
  | d' :: r, h, hx => by
    simp only [DataW.weightsAll, List.mem_append]
    rcases List.mem_cons.1 h with rfl | h
    · exact Or.inl hx
    · exact Or.inr (mem_all d h hx)
end

section
variable {H : Type} {enc : TypeId × Value → H} {W : World}

theorem spot_plain {a : Addr} {v : Value} (h : W.cell? (a.add 0) = some v) : a.spot = none := by
  have := World.cell?_spot h
  simpa [Addr.add] using this

theorem open_texts {n : Nat} {v : Value} {y : DataW H × List MemPlace} (h : DataW.trod enc Tryd.prog W 0 (fun _ => true) true n 22 [v] = some y) (hw : ∀ x ∈ y.1.weights Tryd.prog 22, x ≤ reachBytes) :
    ∃ (a : Option Addr) (xs : List ByteArray) (ca : Nat), v = .slice a xs.length ca ∧ StrsAt W a xs ∧ CapOk a ca xs.length ∧ Small xs := by
  rcases open_strings Tryd.underlying22 Tryd.underlying9 Tryd.cells9 h with ⟨hcs, _⟩ | ⟨a, len, cap, ss, hcs, _, hl, hm, hz, hx, hc, hwf⟩
  · exact ⟨none, [], 0, by simpa using hcs, .inl rfl, ⟨Nat.le_refl _, fun _ => rfl, fun p e => by cases e⟩, by simp [Small]⟩
  · simp at hz
    have hx1 : y.1 = .slice (strs (ss.take len)) (strs (ss.drop len)) := by rw [hx]
    have hmin : min len ss.length = len := by omega
    refine ⟨some a, ss.take len, cap, ?_, ?_, ?_, ?_, ?_⟩
    · simpa [hmin] using hcs
    · by_cases h0 : len = 0
      · exact .inl (by rw [h0]; rfl)
      · have hs := spot_plain (hc 0 (by omega))
        obtain ⟨b, off, spot⟩ := a
        simp only at hs
        subst hs
        refine .inr ⟨b, off, rfl, fun i hi => ?_⟩
        rw [List.length_take, hmin] at hi
        have := hc i (by omega)
        rw [Go.WideShapes.add_plain] at this
        rw [this, getD_take hi]
    · refine ⟨by rw [List.length_take, hmin]; exact hl, (fun e => by cases e), fun p e hlt => ?_⟩
      injection e with e
      subst e
      rw [List.length_take, hmin] at hlt
      exact spot_plain (hc 0 (by omega))
    · have := hw ((len + (ss.length - len)) * Tryd.prog.bytesOf 9) (by rw [hx1]; simp [DataW.weights, Tryd.underlying22, strs, hmin])
      rw [Tryd.bytes9] at this
      simp only [reachBytes] at this
      simp
      omega
    · intro x hxm
      have := hw x.data.toList.length (by
        rw [hx1]
        simp only [DataW.weights, Tryd.underlying22, List.mem_cons, List.mem_append]
        refine Or.inr (Or.inl ?_)
        exact mem_all (.lit (.string x.data.toList)) (by simp only [strs, List.mem_map]; exact ⟨x, hxm, rfl⟩) (by simp [DataW.weights]))
      simp only [reachBytes] at this
      have e : x.data.toList.length = x.size := ls_size x
      omega

theorem open_nums {n : Nat} {v : Value} {y : DataW H × List MemPlace} (h : DataW.trod enc Tryd.prog W 0 (fun _ => true) true n 24 [v] = some y) (hw : ∀ x ∈ y.1.weights Tryd.prog 24, x ≤ reachBytes) :
    ∃ (a : Option Addr) (xs : List Int) (ca : Nat), v = .slice a xs.length ca ∧ IntsAt W a xs ∧ CapOk a ca xs.length ∧ xs.length ≤ 140737488351232 ∧ ∀ x ∈ xs, -9223372036854775808 ≤ x ∧ x ≤ 9223372036854775807 := by
  rcases open_ints Tryd.underlying24 Tryd.underlying3 Tryd.cells3 h with ⟨hcs, _⟩ | ⟨a, len, cap, ss, hcs, _, hl, hm, hz, hx, hc, hwf⟩
  · exact ⟨none, [], 0, by simpa using hcs, .inl rfl, ⟨Nat.le_refl _, fun _ => rfl, fun p e => by cases e⟩, by simp, by simp⟩
  · simp at hz
    have hx1 : y.1 = .slice (lits .i64 (ss.take len)) (lits .i64 (ss.drop len)) := by rw [hx]
    have hmin : min len ss.length = len := by omega
    refine ⟨some a, ss.take len, cap, ?_, ?_, ?_, ?_, ?_⟩
    · simpa [hmin] using hcs
    · by_cases h0 : len = 0
      · exact .inl (by rw [h0]; rfl)
      · have hs := spot_plain (hc 0 (by omega))
        obtain ⟨b, off, spot⟩ := a
        simp only at hs
        subst hs
        refine .inr ⟨b, off, rfl, fun i hi => ?_⟩
        rw [List.length_take, hmin] at hi
        have := hc i (by omega)
        rw [Go.WideShapes.add_plain] at this
        rw [this]
        simp [List.getD, hi]
    · refine ⟨by rw [List.length_take, hmin]; exact hl, (fun e => by cases e), fun p e hlt => ?_⟩
      injection e with e
      subst e
      rw [List.length_take, hmin] at hlt
      exact spot_plain (hc 0 (by omega))
    · have := hw ((len + (ss.length - len)) * Tryd.prog.bytesOf 3) (by rw [hx1]; simp [DataW.weights, Tryd.underlying24, lits, hmin])
      rw [Tryd.bytes3] at this
      simp only [reachBytes] at this
      simp
      omega
    · intro x hxm
      have := hwf x (List.mem_of_mem_take hxm)
      simpa [Lit.wf, IntKind.min, IntKind.max, IntKind.signed, IntKind.bits] using this

theorem open_rows {n : Nat} {v : Value} {y : DataW H × List MemPlace} (h : DataW.trod enc Tryd.prog W 0 (fun _ => true) true n 23 [v] = some y) (hw : ∀ x ∈ y.1.weights Tryd.prog 23, x ≤ reachBytes) :
    ∃ (a : Option Addr) (l : List (List ByteArray)) (ca : Nat), v = .slice a l.length ca ∧ RowsAt W a l ∧ CapOk a ca l.length ∧ l.length ≤ 140737488351232 ∧ ∀ x ∈ l, Small x := by
  rcases open_slice1 Tryd.underlying23 Tryd.cells22 h with ⟨hcs, _⟩ | ⟨a, len, cap, m, k, V, D, Pl, hcs, _, hl, hm, hmm, hx, hc⟩
  · exact ⟨none, [], 0, by simpa using hcs, .inl rfl, ⟨Nat.le_refl _, fun _ => rfl, fun p e => by cases e⟩, by simp, by simp⟩
  · simp only [if_true] at hmm
    subst hmm
    have hx1 : y.1 = .slice ((List.range len).map D) ((List.range (m - len)).map fun j => D (len + j)) := by rw [hx]
    have each : ∀ i, i < len → ∃ z : Option Addr × List ByteArray × Nat, V i = .slice z.1 z.2.1.length z.2.2 ∧ StrsAt W z.1 z.2.1 ∧ CapOk z.1 z.2.2 z.2.1.length ∧ Small z.2.1 := by
      intro i hi
      obtain ⟨a', xs, ca, h1, h2, h3, h4⟩ := open_texts (hc i (by omega)).2 (fun x hxw => hw x (by
        rw [hx1]
        simp only [DataW.weights, Tryd.underlying23, List.mem_cons, List.mem_append]
        refine Or.inr (Or.inl ?_)
        exact mem_all (D i) (List.mem_map.2 ⟨i, List.mem_range.2 hi, rfl⟩) hxw))
      exact ⟨(a', xs, ca), h1, h2, h3, h4⟩
    obtain ⟨z, hz⟩ := choose_lt each
    have hlen : ((List.range len).map fun i => (z i).2.1).length = len := by simp
    have hget : ∀ i, i < len → ((List.range len).map fun i => (z i).2.1).getD i [] = (z i).2.1 := by intro i hi; simp [List.getD, hi]
    refine ⟨some a, (List.range len).map fun i => (z i).2.1, m, ?_, ?_, ?_, ?_, ?_⟩
    · rw [hlen]; simpa using hcs
    · by_cases h0 : len = 0
      · exact .inl (by rw [h0]; rfl)
      · have hs := spot_plain (hc 0 (by omega)).1
        obtain ⟨b, off, spot⟩ := a
        simp only at hs
        subst hs
        refine .inr ⟨b, off, rfl, fun i hi => ?_⟩
        rw [hlen] at hi
        have h1 := (hc i (by omega)).1
        rw [Go.WideShapes.add_plain, (hz i hi).1] at h1
        rw [hget i hi]
        exact ⟨_, _, h1, (hz i hi).2.1, (hz i hi).2.2.1⟩
    · refine ⟨by rw [hlen]; exact hl, (fun e => by cases e), fun p e hlt => ?_⟩
      injection e with e
      subst e
      rw [hlen] at hlt
      exact spot_plain (hc 0 (by omega)).1
    · have := hw ((len + (m - len)) * Tryd.prog.bytesOf 22) (by rw [hx1]; simp [DataW.weights, Tryd.underlying23])
      rw [Tryd.bytes22] at this
      simp only [reachBytes] at this
      rw [hlen]; omega
    · intro x hxm
      obtain ⟨i, hi, rfl⟩ := List.mem_map.1 hxm
      exact (hz i (List.mem_range.1 hi)).2.2.2
end

end Go.Proofs.YtifbnojkjbjngaaDoor
