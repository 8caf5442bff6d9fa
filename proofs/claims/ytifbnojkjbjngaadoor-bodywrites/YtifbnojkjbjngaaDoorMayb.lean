/- Whether a length and pieces are a text, by the program; the text that they are. -/
import Derived.Test.YtifbnojkjbjngaaDoorMay
namespace Go.Proofs.YtifbnojkjbjngaaDoor
open Go.RowKit

theorem trim_any (s : ByteArray) (w : World) (hs : s.size ≤ 9223372036854775807) :
    Calls Tryd.prog 49 #[.string s, .string ⟨#[0]⟩] w fun e w' => e = .returned (.string (bs (Lib.trimB (ls s) 0))) ∧ Below w.heap.size w w' := by
  refine (Tryd.strings_Trim_one s 0 (by decide) w hs).mono ?_
  rintro e w' ⟨rfl, rfl | rfl⟩
  · exact ⟨rfl, nwR _⟩
  · exact ⟨rfl, Below.drew (nwR _)⟩
theorem trim_test (l : List UInt8) : ((bs (Lib.trimB l 0)).toList == []) = zeroB l := by
  rw [Bool.eq_iff_iff, ← trim_zero, beq_iff_eq, Lib.toList_data]
  show ls (bs _) = [] ↔ _
  rw [ls_bs]

theorem mayB_no1 {n : Int} {xs : List ByteArray} (h : ¬ 0 ≤ n) : mayB n xs = false := by unfold mayB; rw [decide_eq_false h]; rfl
theorem mayB_no2 {n : Int} {xs : List ByteArray} (h : ¬ n ≤ 200) : mayB n xs = false := by unfold mayB; rw [decide_eq_false h]; simp
theorem mayB_no3 {n : Int} {xs : List ByteArray} (h : ¬ (xs.length : Int) = (n + 31) / 32) : mayB n xs = false := by unfold mayB; rw [decide_eq_false h]; simp
theorem mayB_no4 {n : Int} {xs : List ByteArray} (h : evenB xs = false) : mayB n xs = false := by unfold mayB; rw [h]; simp
theorem mayB_yes {n : Int} {xs : List ByteArray} (h0 : 0 ≤ n) (h1 : n ≤ 200) (h2 : (xs.length : Int) = (n + 31) / 32) (h3 : evenB xs = true) : mayB n xs = zeroB ((cat xs).drop n.toNat) := by
  unfold mayB; rw [decide_eq_true h0, decide_eq_true h1, decide_eq_true h2, h3]; simp

set_option maxHeartbeats 2000000 in
theorem mayBe_any (a : Option Addr) (xs : List ByteArray) (ca : Nat) (n : Int) (w : World) (hx : StrsAt w a xs) (hcap : xs.length ≤ ca) (hl : xs.length ≤ maxLen) :
    Calls Tryd.prog 40 #[.agg #[.slice a xs.length ca, .int .i64 n]] w fun e w' => e = .returned (.bool (mayB n xs)) ∧ Below w.heap.size w w' := by
  have hb0 := nwA (nwR w) (.cells #[.slice a xs.length ca, .int .i64 n] 61)
  by_cases h0 : 0 ≤ n
  case neg =>
    have HN : Hid (mayB n xs = false) := mayB_no1 h0
    have h0' : n < 0 := by omega
    go_enter Tryd.func40, Tryd.ntmps40
    go_wp2_with fail
    go_ret
    exact ⟨ret_bool HN.out.symm, hb0⟩
  by_cases h1 : n ≤ 200
  case neg =>
    have HN : Hid (mayB n xs = false) := mayB_no2 h1
    have h0' : ¬ n < 0 := by omega
    go_enter Tryd.func40, Tryd.ntmps40
    go_wp2_with fail
    go_ret
    exact ⟨ret_bool HN.out.symm, hb0⟩
  have h0' : ¬ n < 0 := by omega
  have h1' : ¬ 200 < n := by omega
  go_enter Tryd.func40, Tryd.ntmps40
  go_wp2_with fail
  have c0 : (w.alloc (.cells #[.slice a xs.length ca, .int .i64 n] 61)).cell? ⟨w.heap.size, 0, none⟩ = some (.slice a xs.length ca) := by simp
  have c1 : (w.alloc (.cells #[.slice a xs.length ca, .int .i64 n] 61)).cell? ⟨w.heap.size, 1, none⟩ = some (.int .i64 n) := by simp
  generalize w.alloc (.cells #[.slice a xs.length ca, .int .i64 n] 61) = W1 at c0 c1 hb0 ⊢
  have HX : Hid (StrsAt W1 a xs) := hx.below hb0
  have HC0 : Hid (W1.cell? ⟨w.heap.size, 0, none⟩ = some (.slice a xs.length ca)) := c0
  have HC1 : Hid (W1.cell? ⟨w.heap.size, 1, none⟩ = some (.int .i64 n)) := c1
  have z0 : ∀ p : Kin W1, p.u.cell? ⟨w.heap.size, 0, none⟩ = some (.slice a xs.length ca) := fun p => kcell c0 p
  have z1 : ∀ p : Kin W1, p.u.cell? ⟨w.heap.size, 1, none⟩ = some (.int .i64 n) := fun p => kcell c1 p
  have HP : Hid (∀ p : Kin W1, Calls Tryd.prog 37 #[.int .i64 n] p.u fun e w' => e = .returned (.int .i64 ((n + 31) / 32)) ∧ w' = p.u) := fun p => pieces_any n p.u h0 (by omega)
  have HE : Hid (∀ p : Kin W1, Calls Tryd.prog 48 #[.slice a xs.length ca] p.u fun e w' => e = .returned (.bool (evenB xs)) ∧ w' = p.u) := fun p => even_any a xs ca p.u (HX.out.below p.h) hl
  clear c0 c1 hx
  by_cases h2 : (xs.length : Int) = (n + 31) / 32
  case neg =>
    have HN : Hid (mayB n xs = false) := mayB_no3 h2
    have h2b : ((xs.length : Int) != (n + 31) / 32) = true := by rw [bne_iff_ne]; exact h2
    clear h2
    generalize (n + 31) / 32 = N at h2b HP
    refine wp_region_kin (by kernel_rfl) (by kernel_rfl) ?_
    repeat (first | go_big_quiet_step (first | (go_at_call 37; exact Calls.kin_same (HP.out _)) | (go_at_call 48; exact Calls.kin_same (HE.out _)) | fail) | quiet_step (first | (go_at_call 37; exact Calls.kin_same (HP.out _)) | (go_at_call 48; exact Calls.kin_same (HE.out _)) | fail))
    refine wpQuiet_nil ?_
    intro _ hw'
    obtain ⟨pq, hw''⟩ := hw'
    subst hw''
    clear z0 z1
    have HBQ : Hid (Below w.heap.size w pq.u) := nwT hb0 pq.h
    generalize pq.u = Wq at HBQ ⊢
    go_wp2_with fail
    go_ret
    exact ⟨ret_bool HN.out.symm, HBQ.out⟩
  have H2 : Hid ((xs.length : Int) = (n + 31) / 32) := h2
  have h2b : ((xs.length : Int) != (n + 31) / 32) = false := by rw [h2]; simp
  have hx7 : xs.length ≤ 7 := by omega
  clear h2
  cases hev : evenB xs
  · have HN : Hid (mayB n xs = false) := mayB_no4 hev
    rw [hev] at HE
    generalize (n + 31) / 32 = N at h2b HP
    refine wp_region_kin (by kernel_rfl) (by kernel_rfl) ?_
    repeat (first | go_big_quiet_step (first | (go_at_call 37; exact Calls.kin_same (HP.out _)) | (go_at_call 48; exact Calls.kin_same (HE.out _)) | fail) | quiet_step (first | (go_at_call 37; exact Calls.kin_same (HP.out _)) | (go_at_call 48; exact Calls.kin_same (HE.out _)) | fail))
    refine wpQuiet_nil ?_
    intro _ hw'
    obtain ⟨pq, hw''⟩ := hw'
    subst hw''
    clear z0 z1
    have HBQ : Hid (Below w.heap.size w pq.u) := nwT hb0 pq.h
    generalize pq.u = Wq at HBQ ⊢
    go_wp2_with fail
    go_ret
    exact ⟨ret_bool HN.out.symm, HBQ.out⟩
  · have HN : Hid (mayB n xs = zeroB ((cat xs).drop n.toNat)) := mayB_yes h0 h1 H2.out hev
    have hcl := cat_len (evenB_mem hev)
    have hclz : n ≤ ((cat xs).length : Int) := by have := H2.out; rw [hcl]; omega
    rw [hev] at HE
    generalize (n + 31) / 32 = N at h2b HP
    refine wp_region_kin (by kernel_rfl) (by kernel_rfl) ?_
    repeat (first | go_big_quiet_step (first | (go_at_call 37; exact Calls.kin_same (HP.out _)) | (go_at_call 48; exact Calls.kin_same (HE.out _)) | fail) | quiet_step (first | (go_at_call 37; exact Calls.kin_same (HP.out _)) | (go_at_call 48; exact Calls.kin_same (HE.out _)) | fail))
    refine wpQuiet_nil ?_
    intro _ hw'
    obtain ⟨pq, hw''⟩ := hw'
    subst hw''
    clear z0 z1
    have hbq : Below w.heap.size w pq.u := nwT hb0 pq.h
    have d0 := kcell HC0.out pq
    have d1 := kcell HC1.out pq
    have HXq : Hid (StrsAt pq.u a xs) := HX.out.below pq.h
    generalize pq.u = Wq at hbq d0 d1 HXq ⊢
    clear HX HC0 HC1 HP HE
    go_wp2_with fail
    have y0 : ∀ p : Kin Wq, p.u.cell? ⟨w.heap.size, 0, none⟩ = some (.slice a xs.length ca) := fun p => kcell d0 p
    have y1 : ∀ p : Kin Wq, p.u.cell? ⟨w.heap.size, 1, none⟩ = some (.int .i64 n) := fun p => kcell d1 p
    have HA : Hid (∀ p : Kin Wq, Calls Tryd.prog 41 #[.slice a xs.length ca] p.u fun e w' => e = .returned (.string (bs (cat xs))) ∧ Below p.u.heap.size p.u w') := fun p => all_any a xs ca p.u (HXq.out.below p.h) hcap (by omega) (by omega)
    have hS : (bs (cat xs)).size = (cat xs).length := bs_size _
    have hm3 : n ≤ ((bs (cat xs)).size : Int) := by rw [hS]; exact hclz
    have HT : Hid (∀ p : Kin Wq, Calls Tryd.prog 49 #[.string ((bs (cat xs)).extract n.toNat (bs (cat xs)).size), .string ⟨#[0]⟩] p.u fun e w' => e = .returned (.string (bs (Lib.trimB ((cat xs).drop n.toNat) 0))) ∧ Below p.u.heap.size p.u w') := fun p => by
      have := trim_any ((bs (cat xs)).extract n.toNat (bs (cat xs)).size) p.u (by rw [ext_right, bs_size, List.length_drop, ls_bs]; omega)
      rw [ext_right, ls_bs, ls_bs] at this
      rw [ext_right, ls_bs]; exact this
    have htt := trim_test ((cat xs).drop n.toNat)
    obtain ⟨m, rfl⟩ : ∃ m : Nat, n = m := ⟨n.toNat, by omega⟩
    rw [Int.toNat_natCast] at HN htt HT
    clear d0 d1 hclz hS hcl
    generalize bs (Lib.trimB ((cat xs).drop m) 0) = T at HT htt
    generalize bs (cat xs) = S at HA HT hm3
    refine wp_region_kin (by kernel_rfl) (by kernel_rfl) ?_
    repeat (first | go_big_quiet_step (first | (go_at_call 41; exact Calls.kin_of (HA.out _)) | (go_at_call 49; exact Calls.kin_of (HT.out _)) | fail) | quiet_step (first | (go_at_call 41; exact Calls.kin_of (HA.out _)) | (go_at_call 49; exact Calls.kin_of (HT.out _)) | fail))
    refine wpQuiet_nil ?_
    intro _ hw'
    obtain ⟨pq2, hw''⟩ := hw'
    subst hw''
    clear y0 y1
    have HBQ : Hid (Below w.heap.size w pq2.u) := nwT hbq pq2.h
    generalize pq2.u = Wz at HBQ ⊢
    go_wp2_with fail
    go_ret
    exact ⟨ret_bool HN.out.symm, HBQ.out⟩

end Go.Proofs.YtifbnojkjbjngaaDoor
