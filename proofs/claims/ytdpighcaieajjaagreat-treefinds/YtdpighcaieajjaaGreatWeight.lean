/- How much a volume is: what is not heavy is small. -/
import Derived.Test.YtdpighcaieajjaaGreatLinks
import Derived.Test.YtdpighcaieajjaaGreatParent
namespace Go.Proofs.YtdpighcaieajjaaGreat
open Go.RowKit

/-- as great as anything may be that comes in -/
def LooseF (f : FileD) : Prop := f.blocks.length ≤ 35184372088832 ∧ f.list.length ≤ 35184372088832 ∧ ∀ l ∈ f.list, l.1.size ≤ 140737488355328
def LooseV (d : VolD) : Prop := d.files.length ≤ 35184372088832 ∧ ∀ f ∈ d.files, LooseF f
def FitF (N : Nat) (f : FileD) : Prop := f.blocks.length + f.list.length ≤ N ∧ (N < 1048576 → ∀ l ∈ f.list, l.1.size / 4 ≤ N)
theorem FitF.mono {N M : Nat} {f : FileD} (h : FitF N f) (hM : N ≤ M) : FitF M f := ⟨by have := h.1; omega, fun hh l hl => by have := h.2 (by omega) l hl; omega⟩
def FitV (N : Nat) (d : VolD) : Prop := N ≤ 281474976710656 ∧ (N < 1048576 → d.files.length ≤ N ∧ ∀ f ∈ d.files, FitF N f)

set_option maxRecDepth 100000 in
set_option maxHeartbeats 2000000 in
theorem volWeight_any (v : Value) (d : VolD) (w : World) (hv : VolVal w v d) (hs : LooseV d) :
    Calls Tryz.prog 31 #[v] w fun e w' => (∃ N : Nat, e = .returned (.int .i64 N) ∧ Hid (FitV N d)) ∧ Below w.heap.size w w' := by
  obtain ⟨a, ca, rfl, hfs, _⟩ := hv
  have HF : Hid (FilesAt w a d.files) := hfs
  clear hfs
  obtain ⟨vid, fr, snap, fs, next⟩ := d
  simp only [LooseV] at *
  obtain ⟨hl, hs2⟩ := hs
  have HS : Hid (∀ f ∈ fs, LooseF f) := hs2
  clear hs2
  go_enter Tryz.func31, Tryz.ntmps31
  go_wp2_with fail
  obtain ⟨W0, hW0⟩ : ∃ W0, W0 = w.alloc (.cells #[.int .i64 vid, .int .i64 fr, .bool snap, .slice a fs.length ca, .int .i64 next] 24) := ⟨_, rfl⟩
  have HB0 : Hid (Below w.heap.size w W0) := by rw [hW0]; exact nwA (nwR w) _
  have HF0 : Hid (FilesAt W0 a fs) := HF.out.below HB0.out
  have HBX : Hid (W0.heap[w.heap.size]? = some (.cells #[.int .i64 vid, .int .i64 fr, .bool snap, .slice a fs.length ca, .int .i64 next] 24 (0, 0))) := by rw [hW0]; exact heap_alloc_new w _
  rw [← hW0]
  clear hW0 HF
  go_loopw [3, 4] (fun n i wr => ∃ (k N : Nat), k ≤ fs.length ∧ i = .int .i64 k ∧ n = .int .i64 N ∧ N ≤ 281474976710656 ∧ Hid (fs.length ≤ N ∧ ∀ j, j < k → FitF N (fs.getD j f0)) ∧ Below W0.heap.size W0 wr)
    (fun _ i _ => fs.length - (intOf i).toNat)
  case atStart => exact ⟨0, fs.length, by omega, rfl, rfl, by omega, ⟨by omega, fun j hj => by omega⟩, nwR W0⟩
  case round =>
    obtain ⟨k, N, hk, rfl, rfl, hN, HE, hb⟩ := hrel
    have HBW : Hid (Below w.heap.size w wr) := nwT HB0.out hb
    obtain ⟨_, _, _, x3, _, _⟩ := five ((hb.block _ (Array.getElem?_eq_some_iff.1 HBX.out).1).trans HBX.out)
    by_cases hlt : k < fs.length
    · have hlti : (k : Int) < (fs.length : Int) := by omega
      by_cases hN2 : N < 1048576
      · have hNi : (N : Int) < 1048576 := by omega
        obtain ⟨b1, o1, rfl, hf⟩ := (HF0.out.below hb).file hlt
        obtain ⟨ab, cb, al, cl, ⟨_, _, _, c3, c4⟩, _, hli, _⟩ := hf
        have hlo := HS.out (fs.getD k f0) (by simp [List.getD, hlt])
        have HLI : Hid (LinksAt wr al (fs.getD k f0).list) := hli
        have HFK : Hid (∀ M, N ≤ M → FitF M (fs.getD k f0) → fs.length ≤ M ∧ ∀ j, j < k + 1 → FitF M (fs.getD j f0)) := fun M hM h => ⟨by have := HE.out.1; omega, fun j hj => by
          by_cases e : j = k
          · subst e; exact h
          · exact (HE.out.2 j (by omega)).mono hM⟩
        generalize fs.getD k f0 = f at c3 c4 hlo HLI HFK
        obtain ⟨fid, fdir, fsize, fbl, fli⟩ := f
        simp only [LooseF] at c3 c4 hlo HLI
        obtain ⟨hl1, hl2, hl3⟩ := hlo
        have HSZ : Hid (∀ l ∈ fli, l.1.size ≤ 140737488355328) := hl3
        clear hli hl3
        go_wp2_with fail
        have e1 : IntKind.i64.wrap ((N : Int) + (fbl.length : Int)) = (N : Int) + (fbl.length : Int) := wrap_any (by omega) (by omega)
        have e2 : IntKind.i64.wrap ((N : Int) + (fbl.length : Int) + (fli.length : Int)) = (N : Int) + (fbl.length : Int) + (fli.length : Int) := wrap_any (by omega) (by omega)
        go_quiet (fail)
        clear e1 e2
        have eP : (N : Int) + (fbl.length : Int) + (fli.length : Int) = ((N + fbl.length + fli.length : Nat) : Int) := by omega
        rw [eP]
        clear eP
        generalize hP : N + fbl.length + fli.length = P
        have hP1 : N ≤ P := by omega
        have hP2 : fbl.length + fli.length ≤ P := by omega
        have hP3 : P ≤ 140737488355328 := by omega
        clear hP
        go_wp2_with fail
        go_loop [3, 5] (fun n i => ∃ (j M : Nat), j ≤ fli.length ∧ i = .int .i64 j ∧ n = .int .i64 M ∧ P ≤ M ∧ M ≤ 281474976710656 ∧ Hid (∀ t, t < j → (fli.getD t lk0).1.size / 4 ≤ M))
          (fun _ i => fli.length - (intOf i).toNat)
        case atStart => exact ⟨0, P, by omega, rfl, rfl, by omega, by omega, fun t ht => by omega⟩
        case round =>
          obtain ⟨j, M, hj, rfl, rfl, hM1, hM2, HT⟩ := hrel
          by_cases hjl : j < fli.length
          · have hjli : (j : Int) < (fli.length : Int) := by omega
            by_cases hM3 : M < 1048576
            · have hMi : (M : Int) < 1048576 := by omega
              obtain ⟨b2, o2, rfl, d1, _⟩ := HLI.out.cell hjl
              have hsz := HSZ.out (fli.getD j lk0) (by simp [List.getD, hjl])
              have HT2 : Hid (∀ t, t < j + 1 → (fli.getD t lk0).1.size / 4 ≤ M + (fli.getD j lk0).1.size / 4) := fun t ht => by
                by_cases e : t = j
                · subst e; omega
                · have := HT.out t (by omega); omega
              generalize (fli.getD j lk0).1 = nme at d1 hsz HT2
              go_wp2_with fail
              go_round
              case rel => exact ⟨j + 1, M + nme.size / 4, by omega, by go_num, by first | rfl | (congr 1; omega), by omega, by omega, HT2⟩
              case measure => simp [intOf]; omega
            · have hMi : ¬ (M : Int) < 1048576 := by omega
              go_wp2_with fail
              go_roundw
              case rel => exact ⟨k + 1, M, by omega, by go_num, rfl, hM2, HFK.out M (by omega) ⟨by show fbl.length + fli.length ≤ M; omega, fun h => absurd h hM3⟩, below_drewN hb _⟩
              case measure => simp [intOf]; omega
          · have hjli : ¬ (j : Int) < (fli.length : Int) := by omega
            go_wp2_with fail
            go_roundw
            case rel => exact ⟨k + 1, M, by omega, by go_num, rfl, hM2, HFK.out M (by omega) ⟨by show fbl.length + fli.length ≤ M; omega, fun _ l hl => by
              have hl2 : l ∈ fli := hl
              obtain ⟨t, ht, rfl⟩ := List.getElem_of_mem hl2
              have := HT.out t (by omega)
              simpa [List.getD, ht] using this⟩, below_drewN hb _⟩
            case measure => simp [intOf]; omega
      · have hNi : ¬ (N : Int) < 1048576 := by omega
        go_wp2_with fail
        go_ret
        exact ⟨⟨N, rfl, ⟨hN, fun h => absurd h hN2⟩⟩, HBW.out⟩
    · have hlti : ¬ (k : Int) < (fs.length : Int) := by omega
      go_wp2_with fail
      go_ret
      exact ⟨⟨N, rfl, ⟨hN, fun h => ⟨HE.out.1, fun f hf => by
        have hf2 : f ∈ fs := hf
        obtain ⟨j, hj, rfl⟩ := List.getElem_of_mem hf2
        have := HE.out.2 j (by omega)
        simpa [List.getD, hj] using this⟩⟩⟩, HBW.out⟩

theorem FitV.small {N : Nat} {d : VolD} (h : FitV N d) (hN : N ≤ 1500) : SmallV d := by
  obtain ⟨_, h2⟩ := h
  obtain ⟨h3, h4⟩ := h2 (by omega)
  refine ⟨by omega, fun f hf => ?_⟩
  have := (h4 f hf).1
  exact ⟨by omega, by omega⟩

/-- a number from 0 below n -/
def withinN (i : Int) (n : Nat) : Nat := (i % 18446744073709551616).toNat % n
set_option maxRecDepth 100000 in
set_option maxHeartbeats 400000 in
theorem lawWithin_any (i : Int) (w : World) :
    Calls Tryz.prog 33 #[.int .i64 i, .int .i64 7] w fun e w' => e = .returned (.int .i64 (withinN i 7)) ∧ w' = w := by
  go_enter Tryz.func33, Tryz.ntmps33
  go_wp2
  go_ret
  refine ⟨ret_int ?_, rfl⟩
  unfold withinN
  rw [IntKind.wrap_u64, Int.tmod_eq_emod_of_nonneg (by omega)]
  unfold wrap64
  omega

end Go.Proofs.YtdpighcaieajjaaGreat
