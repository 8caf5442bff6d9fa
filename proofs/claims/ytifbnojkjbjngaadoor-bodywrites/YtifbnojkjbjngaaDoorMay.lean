/- A text in pieces, as the program holds it: what may be, its bytes. -/
import Derived.Test.YtifbnojkjbjngaaDoorCut
namespace Go.Proofs.YtifbnojkjbjngaaDoor
open Go.RowKit

theorem ret_str {a b : ByteArray} (h : a = b) : Ending.returned (.string a) = .returned (.string b) := by rw [h]

set_option maxHeartbeats 1000000 in
theorem bytes_any (a : Option Addr) (xs : List ByteArray) (ca : Nat) (n : Int) (w : World) (hx : StrsAt w a xs) (hcap : xs.length ≤ ca) (hm : mayB n xs = true) :
    Calls Tryd.prog 34 #[.agg #[.slice a xs.length ca, .int .i64 n]] w fun e w' => e = .returned (.string (bs (tx n xs))) ∧ Below w.heap.size w w' := by
  obtain ⟨h0, h1, h2, _, _⟩ := mayB_parts hm
  obtain ⟨hl1, hl2, hl3⟩ := mayB_len hm
  have hN : xs.length ≤ 1000 := by omega
  obtain ⟨m, rfl⟩ : ∃ m : Nat, n = m := ⟨n.toNat, by omega⟩
  have HR : Hid ((bs (cat xs)).extract 0 m = bs (tx m xs)) := by show _ = _; rw [ext_left, ls_bs]; rfl
  have hS : (bs (cat xs)).size = (cat xs).length := bs_size _
  have hm2 : m ≤ (bs (cat xs)).size := by rw [hS]; simpa using hl2
  clear hm h2
  go_enter Tryd.func34, Tryd.ntmps34
  go_wp2_with fail
  have c0 : (w.alloc (.cells #[.slice a xs.length ca, .int .i64 m] 61)).cell? ⟨w.heap.size, 0, none⟩ = some (.slice a xs.length ca) := by simp
  have c1 : (w.alloc (.cells #[.slice a xs.length ca, .int .i64 m] 61)).cell? ⟨w.heap.size, 1, none⟩ = some (.int .i64 m) := by simp
  have hb0 := nwA (nwR w) (.cells #[.slice a xs.length ca, .int .i64 m] 61)
  generalize w.alloc (.cells #[.slice a xs.length ca, .int .i64 m] 61) = W1 at c0 c1 hb0 ⊢
  have z0 : ∀ p : Kin W1, p.u.cell? ⟨w.heap.size, 0, none⟩ = some (.slice a xs.length ca) := fun p => kcell c0 p
  have z1 : ∀ p : Kin W1, p.u.cell? ⟨w.heap.size, 1, none⟩ = some (.int .i64 m) := fun p => kcell c1 p
  have HA : Hid (∀ p : Kin W1, Calls Tryd.prog 41 #[.slice a xs.length ca] p.u fun e w' => e = .returned (.string (bs (cat xs))) ∧ Below p.u.heap.size p.u w') := fun p => all_any a xs ca p.u (hx.below (nwT hb0 p.h)) hcap hN (by omega)
  clear c0 c1 hx
  generalize bs (cat xs) = S at HA HR hm2 hS
  have hm3 : (m : Int) ≤ (S.size : Int) := by omega
  refine wp_region_kin (by kernel_rfl) (by kernel_rfl) ?_
  repeat (first | go_big_quiet_step (first | (go_at_call 41; exact Calls.kin_of (HA.out _)) | fail) | quiet_step (first | (go_at_call 41; exact Calls.kin_of (HA.out _)) | fail))
  refine wpQuiet_nil ?_
  intro _ hw'
  obtain ⟨pq, hw''⟩ := hw'
  subst hw''
  clear z0 z1
  have HBQ : Hid (Below w.heap.size w pq.u) := nwT hb0 pq.h
  generalize pq.u = Wq at HBQ ⊢
  go_wp2_with fail
  go_ret
  exact ⟨ret_str HR.out, HBQ.out⟩

set_option maxHeartbeats 1000000 in
theorem reaches_any (a : Option Addr) (k ca : Nat) (n x : Int) (w : World) :
    Calls Tryd.prog 35 #[.agg #[.slice a k ca, .int .i64 n], .int .i64 x] w fun e w' => e = .returned (.bool (numB x n)) ∧ Below w.heap.size w w' := by
  by_cases h : 0 ≤ x
  · go_enter Tryd.func35, Tryd.ntmps35
    go_wp2_with fail
    go_ret
    exact ⟨ret_bool (by unfold numB; rw [decide_eq_true h]; rfl), nwA (nwR w) _⟩
  · go_enter Tryd.func35, Tryd.ntmps35
    go_wp2_with fail
    go_ret
    exact ⟨ret_bool (num_no1 (by omega)).symm, nwA (nwR w) _⟩

end Go.Proofs.YtifbnojkjbjngaaDoor
