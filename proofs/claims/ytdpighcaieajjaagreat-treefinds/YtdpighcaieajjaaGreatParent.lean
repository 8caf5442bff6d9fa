/- Parent, by the program. -/
import Derived.Test.YtdpighcaieajjaaGreatUnder
namespace Go.Proofs.YtdpighcaieajjaaGreat
open Go.RowKit

def parentO (s : ByteArray) : Option (ByteArray × ByteArray) := match pathN s with
  | some xs => if xs.length = 0 then none else some (tx (xs.take (xs.length - 1)), xs.getD (xs.length - 1) ByteArray.empty)
  | none => none
def parentV (o : Option (ByteArray × ByteArray)) : Value := match o with
  | some t => .tuple #[.string t.1, .string t.2, .int .i64 0]
  | none => .tuple #[.string ⟨#[]⟩, .string ⟨#[]⟩, .int .i64 1]

theorem wrap_any {x : Int} (h0 : -1000000000000000000 ≤ x) (h1 : x ≤ 1000000000000000000) : IntKind.i64.wrap x = x := by
  rw [IntKind.wrap_i64]
  omega

set_option maxRecDepth 100000 in
set_option maxHeartbeats 2000000 in
theorem parent_any (s : ByteArray) (w : World) :
    Calls Tryz.prog 108 #[.string s] w fun e w' => e = .returned (parentV (parentO s)) ∧ Below w.heap.size w w' := by
  go_enter Tryz.func108, Tryz.ntmps108
  go_wp2_with fail
  refine (read_any s _).mono ?_
  rintro e w1 ⟨hR, hb1⟩
  have HB1 : Hid (Below w.heap.size w w1) := hb1
  rcases hR with ⟨xs, v, hp, rfl, ho⟩ | ⟨hp, rfl⟩
  · obtain ⟨htx, hnm, hx5⟩ := pathN_some hp
    obtain ⟨aa, ca, rfl, hsa, hca⟩ := ho.cap
    have HX : Hid (StrsAt w1 aa xs) := hsa
    by_cases h0 : xs.length = 0
    · have HU : Hid (parentO s = none) := by show _ = _; unfold parentO; rw [hp]; simp only; rw [if_pos h0]
      have hx0 : xs = [] := List.length_eq_zero_iff.1 h0
      subst hx0
      clear hp ho hsa hb1 htx hnm
      go_wp2_with fail
      exact bodyPost_ret (v := .tuple #[.string ⟨#[]⟩, .string ⟨#[]⟩, .int .i64 1]) (by simp [results, Tryz.results108, go_sem]) rfl ⟨by rw [HU.out]; rfl, nwA HB1.out _⟩
    · have HU : Hid (parentO s = some (tx (xs.take (xs.length - 1)), xs.getD (xs.length - 1) ByteArray.empty)) := by show _ = _; unfold parentO; rw [hp]; simp only; rw [if_neg h0]
      have HL : Hid ((flN (xs.take (xs.length - 1))).length ≤ 4000) := by
        have := flN_le (xs := xs) (xs.length - 1)
        have := (flN_len2 hnm).2
        show _ ≤ 4000; omega
      have hz : ((xs.length : Int) == 0) = false := beq_eq_false_iff_ne.2 (by omega)
      obtain ⟨n, hn⟩ : ∃ n, xs.length = n + 1 := ⟨xs.length - 1, by omega⟩
      have hn1 : xs.length - 1 = n := by omega
      obtain ⟨b1, o1, rfl, hc⟩ := hsa.cell (i := n) (by omega)
      rw [hn1] at HU HL
      have HC : Hid (w1.cell? ⟨b1, o1 + n, none⟩ = some (.string (xs.getD n ByteArray.empty))) := hc
      have HT : Hid (StrsAt w1 (some ⟨b1, o1, none⟩) (xs.take n)) := HX.out.take n
      have HTL : Hid ((xs.take n).length = n) := by show _ = _; rw [List.length_take]; omega
      clear hp ho hsa hb1 htx hnm hc h0 hn1
      rw [hn] at hz ⊢
      generalize xs.getD n ByteArray.empty = last at HU HC
      generalize xs.take n = up at HU HL HT HTL
      go_wp2_with fail
      obtain ⟨W, hW⟩ : ∃ W, W = (w1.alloc (.cells #[.slice (some ⟨b1, o1, none⟩) (n + 1) ca] 122)).alloc (.cells #[.slice (some ⟨b1, o1, none⟩) n ca] 122) := ⟨_, rfl⟩
      have HBW : Hid (Below w1.heap.size w1 W) := by rw [hW]; exact nwA (nwA (nwR _) _) _
      have HW0 : Hid (W.cell? ⟨w1.heap.size, 0, none⟩ = some (.slice (some ⟨b1, o1, none⟩) (n + 1) ca)) := by rw [hW]; show _ = _; simp
      have HW1 : Hid (W.cell? ⟨w1.heap.size + 1, 0, none⟩ = some (.slice (some ⟨b1, o1, none⟩) up.length ca)) := by
        rw [hW, HTL.out]; show _ = _
        simp
      have HW2 : Hid (W.cell? ⟨b1, o1 + n, none⟩ = some (.string last)) := (HBW.out.cell (p := ⟨b1, o1 + n, none⟩) (block_lt_of_cell HC.out)).trans HC.out
      have HUP : Hid (StrsAt W (some ⟨b1, o1, none⟩) up) := HT.out.below HBW.out
      have k0 : ∀ w', Below W.heap.size W w' → w'.cell? ⟨w1.heap.size, 0, none⟩ = some (.slice (some ⟨b1, o1, none⟩) (n + 1) ca) := fun w' h => (h.cell (p := ⟨w1.heap.size, 0, none⟩) (block_lt_of_cell HW0.out)).trans HW0.out
      have k1 : ∀ w', Below W.heap.size W w' → w'.cell? ⟨w1.heap.size + 1, 0, none⟩ = some (.slice (some ⟨b1, o1, none⟩) up.length ca) := fun w' h => (h.cell (p := ⟨w1.heap.size + 1, 0, none⟩) (block_lt_of_cell HW1.out)).trans HW1.out
      have k2 : ∀ w', Below W.heap.size W w' → w'.cell? ⟨b1, o1 + n, none⟩ = some (.string last) := fun w' h => (h.cell (p := ⟨b1, o1 + n, none⟩) (block_lt_of_cell HW2.out)).trans HW2.out
      have e1 : IntKind.i64.wrap ((n : Int) + 1 - 1) = (n : Int) := by rw [wrap_any (by omega) (by omega)]; omega
      have e2 : (n : Int) < (n : Int) + 1 := by omega
      have e3 : IntKind.i64.wrap (n : Int) = (n : Int) := wrap_any (by omega) (by omega)
      have e4 : (0 : Int) ≤ (n : Int) := by omega
      have hS := nwR W
      have HBB : Hid (Below w.heap.size w W) := nwT HB1.out HBW.out
      have hl4 : up.length ≤ 4000 := by rw [HTL.out]; omega
      rw [← hW]
      clear hW HBW HX HC HT HB1
      go_region_held3 (fun w' => Below W.heap.size W w') (first | assumption | exact Below.drew (by assumption) | exact nwT (by assumption) (by assumption)) (first
        | (go_at_call 121; refine (text_any _ (some ⟨b1, o1, none⟩) up ca _ (k1 _ (by assumption)) (HUP.out.below (by assumption)) hl4 HL.out).mono ?_; rintro e wT ⟨rfl, hbT⟩))
      have HBT : Hid (Below W.heap.size W wT) := by assumption
      clear k0 k1 k2
      go_wp2_with fail
      exact bodyPost_ret (v := .tuple #[.string (tx up), .string last, .int .i64 0]) (by simp [results, Tryz.results108, go_sem]) rfl ⟨by rw [HU.out]; rfl, nwT HBB.out HBT.out⟩
  · have HU : Hid (parentO s = none) := by show _ = _; unfold parentO; rw [hp]
    clear hp hb1
    go_wp2_with fail
    exact bodyPost_ret (v := .tuple #[.string ⟨#[]⟩, .string ⟨#[]⟩, .int .i64 1]) (by simp [results, Tryz.results108, go_sem]) rfl ⟨by rw [HU.out]; rfl, nwA HB1.out _⟩

end Go.Proofs.YtdpighcaieajjaaGreat
