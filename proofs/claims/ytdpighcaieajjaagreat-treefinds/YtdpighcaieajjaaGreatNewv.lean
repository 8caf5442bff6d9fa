/- A new volume, by the program; what the laws share. -/
import Derived.Test.YtdpighcaieajjaaGreatMake
import Derived.Test.YtdpighcaieajjaaGreatVolrr
import Derived.Test.YtdpighcaieajjaaGreatWeight
namespace Go.Proofs.YtdpighcaieajjaaGreat
open Go.RowKit

def newD (id : Int) : VolD := ⟨id, 0, false, [⟨1, true, 0, [], []⟩], 2⟩
def NewR (id er : Int) (dd : VolD) : Prop := (withinB 1 1073741824 [id] = true ∧ er = 0 ∧ dd = newD id) ∨ (withinB 1 1073741824 [id] = false ∧ er = 1 ∧ dd = Go.Proofs.YtdpighcaieajjaaGreat.v0)

theorem own_one (X : World) (n base : Nat) (hn : X.heap.size = n) (hb : base ≤ n) : OwnFiles (X.alloc (.cells #[.int .i64 1, .bool true, .int .i64 0, .slice none 0 0, .slice none 0 0] 39)) base (.slice (some ⟨n, 0, none⟩) 1 1) [⟨1, true, 0, [], []⟩] := by
  subst hn
  refine ⟨[⟨⟨1, true, 0, [], []⟩, .slice none 0 0, .slice none 0 0⟩], rfl, ⟨rfl, .inr ⟨X.heap.size, 1, _, rfl, hb, heap_alloc_new X _, Nat.le_refl 1, by decide, rfl, rfl⟩⟩, fun g hg => ?_⟩
  obtain rfl : g = ⟨⟨1, true, 0, [], []⟩, .slice none 0 0, .slice none 0 0⟩ := by simpa using hg
  exact ⟨⟨rfl, .inl ⟨rfl, rfl⟩⟩, ⟨rfl, .inl ⟨rfl, rfl⟩⟩⟩
set_option maxRecDepth 100000 in
set_option maxHeartbeats 1000000 in
theorem newv_any (id : Int) (w : World) :
    Calls Tryz.prog 22 #[.int .i64 id] w fun e w' => (∃ u er dd, e = .returned (.tuple #[u, .int .i64 er]) ∧ OwnVol w' w.heap.size u dd ∧ NewR id er dd) ∧ Below w.heap.size w w' := by
  obtain ⟨W1, hW1⟩ : ∃ W1, W1 = (w.alloc (.cells #[.int .i64 0, .int .i64 0, .bool false, .slice none 0 0, .int .i64 0] 24)).alloc (.cells #[.int .i64 id] 3) := ⟨_, rfl⟩
  have HB1 : Hid (Below w.heap.size w W1) := by rw [hW1]; exact nwA (nwA (nwR w) _) _
  have HN1 : Hid (IntsAt W1 (some ⟨w.heap.size + 1, 0, none⟩) [id]) := by
    have := intsAt_new (w.alloc (.cells #[.int .i64 0, .int .i64 0, .bool false, .slice none 0 0, .int .i64 0] 24)) id
    show IntsAt _ _ _; rw [← hW1] at this; simpa using this
  have HR1 : Hid (W1.heap[w.heap.size]? = some (.cells #[.int .i64 0, .int .i64 0, .bool false, .slice none 0 0, .int .i64 0] 24 (0, 0))) := by
    rw [hW1]; exact (Lib.alloc_old _ _ _ (by simp)).trans (heap_alloc_new w _)
  cases hn : withinB 1 1073741824 [id]
  · have HW : Hid (withinB 1 1073741824 [id] = false) := hn
    clear hn
    go_enter Tryz.func22, Tryz.ntmps22
    go_wp2_with fail
    rw [← hW1]
    refine (within_is 1 1073741824 (some ⟨w.heap.size + 1, 0, none⟩) [id] 1 W1 false HN1.out (by simp) HW.out).mono ?_
    rintro e w' ⟨rfl, rfl⟩
    obtain ⟨r0, r1, r2, r3, r4, rf⟩ := five HR1.out
    clear hW1
    go_wp2_with fail
    refine bodyPost_ret (v := .tuple #[.agg #[.int .i64 0, .int .i64 0, .bool false, .slice none 0 0, .int .i64 0], .int .i64 1]) (by simp [results, Tryz.results22, go_sem, r0, r1, r2, r3, r4]) rfl ⟨⟨_, 1, _, rfl, ownVol_zero _ _, .inr ⟨HW.out, rfl, rfl⟩⟩, ?_⟩
    exact five_below HB1.out (Nat.le_refl _)
  · have HW : Hid (withinB 1 1073741824 [id] = true) := hn
    clear hn
    go_enter Tryz.func22, Tryz.ntmps22
    go_wp2_with fail
    rw [← hW1]
    refine (within_is 1 1073741824 (some ⟨w.heap.size + 1, 0, none⟩) [id] 1 W1 true HN1.out (by simp) HW.out).mono ?_
    rintro e w' ⟨rfl, rfl⟩
    have hlt := (Array.getElem?_eq_some_iff.1 HR1.out).1
    obtain ⟨r0, r1, r2, r3, r4, rf⟩ := five HR1.out
    clear hW1
    go_wp2_with fail
    obtain ⟨s0, s1, s2, s3, s4⟩ := five_read (d0 := .int .i64 id) (d1 := .int .i64 0) (d2 := .bool false) (d3 := .slice (some ⟨w'.heap.size, 0, none⟩) 1 1) (d4 := .int .i64 2) HR1.out (.cells #[.int .i64 1, .bool true, .int .i64 0, .slice none 0 0, .slice none 0 0] 39)
    refine bodyPost_ret (v := .tuple #[.agg #[.int .i64 id, .int .i64 0, .bool false, .slice (some ⟨w'.heap.size, 0, none⟩) 1 1, .int .i64 2], .int .i64 0]) (by simp [results, Tryz.results22, go_sem, s0, s1, s2, s3, s4]) rfl ⟨⟨_, 0, newD id, rfl, ⟨_, rfl, ?_⟩, .inl ⟨HW.out, rfl, rfl⟩⟩, ?_⟩
    · exact own_one _ w'.heap.size w.heap.size (by simp) (by omega)
    · exact nwA (five_below HB1.out (Nat.le_refl _)) _

set_option maxHeartbeats 400000 in
theorem errnum_any (n : Int) (w : World) : Calls Tryz.prog 17 #[.int .i64 n] w fun e w' => e = .returned (.int .i64 n) ∧ w' = w := by
  go_enter Tryz.func17, Tryz.ntmps17
  go_wp2_with fail
  go_ret
  exact ⟨rfl, rfl⟩
theorem errnum_w (n : Int) (w : World) : Calls Tryz.prog 17 #[.int .i64 n] w fun e w' => e = .returned (.int .i64 n) ∧ w = w' := (errnum_any n w).mono fun _ _ h => ⟨h.1, h.2.symm⟩

theorem vol_any (v : Value) (d : VolD) (w : World) (hv : VolVal w v d) (hs : SmallV d) :
    Calls Tryz.prog 13 #[v] w fun e w' => SaysB e (VolOk d) ∧ Below w.heap.size w w' := by
  by_cases h : HeadR d
  · exact vol_rest v d w hv hs h
  · exact vol_head v d w hv h

end Go.Proofs.YtdpighcaieajjaaGreat
