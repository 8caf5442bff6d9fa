/- The law NameBytes walked. -/
import Derived.Test.YtecfaebflmgcaaaHelp
import Derived.Test.YtecfaebflmgcaaaOpen
namespace Go.Proofs.Ytecfaebflmgcaaa
open Go.RowKit

theorem conv1 (w : World) (k : Nat) (hk : k < 256) : (convert 44 9 (.slice (some ⟨w.heap.size, 0, none⟩) 1 1)).run Try.prog (w.alloc (.cells #[.int .u8 k] 5)) = .ok (.string (bs [UInt8.ofNat k])) (w.alloc (.cells #[.int .u8 k] 5)) := by
  exact run_convert_bytes_back (P := Try.prog) (w.alloc (.cells #[.int .u8 k] 5)) 44 9 5 ⟨w.heap.size, 0, none⟩ 1 [UInt8.ofNat k] Try.underlying44 Try.underlying5 Try.underlying9 (fun j hj => by
    match j, hj with
    | 0, _ => simp [Addr.add, Nat.mod_eq_of_lt hk])

set_option maxRecDepth 100000 in
set_option maxHeartbeats 4000000 in
theorem bytes_walk : LawOk 5 := by
  intro a xs ca w _ hl _
  go_enter Try.func5, Try.ntmps5
  go_wp2_with fail
  obtain ⟨W0, hW0⟩ : ∃ W0, W0 = w.alloc (.cells #[.slice a xs.length ca] 24) := ⟨_, rfl⟩
  have HN0 : Hid (Below w.heap.size w W0) := by rw [hW0]; exact nwA (nwR w) _
  have HC0 : Hid (W0.cell? ⟨w.heap.size, 0, none⟩ = some (.slice a xs.length ca)) := by rw [hW0]; show _ = _; simp
  rw [← hW0]
  clear hW0
  go_loopw [3] (fun i wr => ∃ (k : Nat), k ≤ 256 ∧ i = .int .i64 k ∧ Below W0.heap.size W0 wr) (fun i _ => 256 - (intOf i).toNat)
  case atStart => exact ⟨0, by omega, rfl, nwR W0⟩
  case round =>
    obtain ⟨k, hk, rfl, hb⟩ := hrel
    by_cases hlt : k < 256
    · have hlti : (k : Int) < 256 := by omega
      go_wp2_with fail
      rw [conv1 wr k hlt]
      simp only [Result.andThen]
      rw [Oper.upon_value]
      have hsz : (bs [UInt8.ofNat k]).size = 1 := rfl
      generalize bs [UInt8.ofNat k] = S at hsz
      go_wp2_with fail
      obtain ⟨W1, hW1⟩ : ∃ W1, W1 = (wr.alloc (.cells #[.int .u8 k] 5)).alloc (.cells #[.string S, .string (⟨#[97]⟩ ++ S), .string (S ++ ⟨#[97]⟩), .string (⟨#[47]⟩ ++ S), .string (⟨#[47, 97]⟩ ++ S ++ ⟨#[98]⟩), .string (⟨#[47, 97, 47]⟩ ++ S)] 9) := ⟨_, rfl⟩
      have HB1 : Hid (Below W0.heap.size W0 W1) := by rw [hW1]; exact nwA (nwA hb _) _
      obtain ⟨ts, hts⟩ : ∃ ts : List ByteArray, ts = [S, ⟨#[97]⟩ ++ S, S ++ ⟨#[97]⟩, ⟨#[47]⟩ ++ S, ⟨#[47, 97]⟩ ++ S ++ ⟨#[98]⟩, ⟨#[47, 97, 47]⟩ ++ S] := ⟨_, rfl⟩
      have HT6 : Hid (ts.length = 6) := by rw [hts]; rfl
      have HT : Hid (StrsAt W1 (some ⟨wr.heap.size + 1, 0, none⟩) ts) := by
        rw [hW1, hts]
        have := StrsAt.of_alloc (w := wr.alloc (.cells #[.int .u8 k] 5)) (t := 9) (xs := [S, ⟨#[97]⟩ ++ S, S ++ ⟨#[97]⟩, ⟨#[47]⟩ ++ S, ⟨#[47, 97]⟩ ++ S ++ ⟨#[98]⟩, ⟨#[47, 97, 47]⟩ ++ S]) rfl
        show StrsAt _ _ _
        simpa using this
      rw [← hW1]
      clear hW1 hts
      generalize wr.heap.size + 1 = T at HT ⊢
      go_loopw [6] (fun i wq => ∃ (n : Nat), n ≤ 6 ∧ i = .int .i64 n ∧ Below W1.heap.size W1 wq) (fun i _ => 6 - (intOf i).toNat)
      case atStart => exact ⟨0, by omega, rfl, nwR W1⟩
      case round =>
        obtain ⟨n, hn, rfl, hq⟩ := hrel
        by_cases hn6 : n < 6
        · have hn6i : (n : Int) < 6 := by omega
          have hn0 : (0 : Int) ≤ (n : Int) := by omega
          obtain ⟨b1, o1, e1, hc⟩ := HT.out.cell (i := n) (by rw [HT6.out]; exact hn6)
          injection e1 with e1
          injection e1 with e1 e2
          subst e1; subst e2
          generalize ts.getD n ByteArray.empty = x at hc
          rw [Nat.zero_add] at hc
          have HC : Hid (W1.cell? ⟨T, n, none⟩ = some (.string x)) := hc
          have c1 : wr.cell? ⟨T, n, none⟩ = some (.string x) := (hq.cell (p := ⟨T, n, none⟩) (block_lt_of_cell hc)).trans hc
          clear hc
          go_wp2_with fail
          refine (rsplit_any x _).mono ?_
          rintro e w1 ⟨hR, hb1⟩
          have hq1 := nwT hq hb1
          have HE : Hid (∃ v ok, e = .returned (.tuple #[v, .bool ok]) ∧ (∃ a n c, v = .slice a n c) ∧ (pathN x).isSome = ok) := by
            rcases hR with ⟨ys, v, hp, rfl, ho⟩ | ⟨hp, a, n, c, rfl⟩
            · obtain ⟨aa, cc, hv, _⟩ := ho.at
              exact ⟨_, _, rfl, ⟨_, _, _, hv⟩, by rw [hp]; rfl⟩
            · exact ⟨_, _, rfl, ⟨_, _, _, rfl⟩, by rw [hp]; rfl⟩
          obtain ⟨v, ok, rfl, ⟨aa, nn, cc, rfl⟩, hok⟩ := HE.out
          clear HE hR hb1 c1 hq
          have k0 : ∀ w', Below w1.heap.size w1 w' → w'.cell? ⟨T, n, none⟩ = some (.string x) := fun w' h => ((nwT hq1 h).cell (p := ⟨T, n, none⟩) (block_lt_of_cell HC.out)).trans HC.out
          have hS := nwR w1
          have HOK : Hid ((pathN x).isSome = ok) := hok
          clear hok
          go_wp2_with fail
          cases hnm : nm x <;> cases ok
          all_goals
            go_region_held3 (fun w' => Below w1.heap.size w1 w') (first | assumption | exact Below.drew (by assumption) | exact nwT (by assumption) (by assumption)) (first
              | (go_at_call 13; refine (check_any _ _).mono ?_; rintro e w2 ⟨rfl, rfl⟩; rw [hnm]; first | rw [errI_t] | rw [errI_f])
              | (go_at_call 14; refine (name_any _ _).mono ?_; rintro e w2 ⟨rfl, rfl⟩; rw [hnm])
              | (go_at_call 15; refine (path_any _ _).mono ?_; rintro e w2 ⟨rfl, hb2⟩; rw [HOK.out]; first | rw [errI_t] | rw [errI_f])
              | (go_at_call 12; refine (num_any _ _).mono ?_; rintro e w2 ⟨rfl, rfl⟩))
          all_goals
            clear k0
            go_wp2_with fail
            go_roundw
            case rel => exact ⟨n + 1, by omega, by go_num, nwT hq1 (by assumption)⟩
            case measure => simp [intOf]; omega
        · have hn6i : ¬ (n : Int) < 6 := by omega
          go_wp2_with fail
          go_roundw
          case rel => exact ⟨k + 1, by omega, by go_num, nwT HB1.out hq⟩
          case measure => simp [intOf]; omega
    · have hlti : ¬ (k : Int) < 256 := by omega
      have c0 : wr.cell? ⟨w.heap.size, 0, none⟩ = some (.slice a xs.length ca) := (hb.cell (p := ⟨w.heap.size, 0, none⟩) (block_lt_of_cell HC0.out)).trans HC0.out
      have hl0 : (0 : Int) ≤ (xs.length : Int) := by omega
      go_wp2_with (go_at_call 19; refine (wakes_any _).mono ?_; rintro e w1 ⟨rfl, hb1⟩)
      go_ret
      exact ⟨rfl, nwT (nwT HN0.out hb) hb1⟩

end Go.Proofs.Ytecfaebflmgcaaa
