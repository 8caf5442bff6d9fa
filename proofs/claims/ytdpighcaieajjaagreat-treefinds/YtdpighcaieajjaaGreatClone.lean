/- slices.Clone of files, numbers, links. -/
import Derived.Test.YtdpighcaieajjaaGreatVolrr
import Derived.Lib.SliceRun
namespace Go.Proofs.YtdpighcaieajjaaGreat
open Go.RowKit

set_option maxRecDepth 100000 in
set_option maxHeartbeats 2000000 in
theorem clof_row (p : Addr) (n c : Nat) (xs : List Value) (w : World) (hx : xs.length = n * 5) (hbig : n * 72 ≤ 140737488355328) (hc : ∀ j u, xs[j]? = some u → w.cell? (p.add j) = some u) (h1 : ∀ u ∈ xs, u.oneCell' = true) :
    Calls Tryz.prog 99 #[.slice (some p) n c] w fun e w' => (∃ v', e = .returned v' ∧ w'.ownsRow w.heap.size 39 5 v' n xs) ∧ Below w.heap.size w w' := by
  obtain ⟨i0, hi, hz0, hz1, hz2⟩ := info_parts Tryz.info39
  have q22 : ∀ (w : World) (a : Option Addr) (n c n' c' : Nat), (binOp .eql 22 (.slice a n c) (.slice none n' c')).run Tryz.prog w = .ok (.bool a.isNone) w := fun w a n c n' c' => Lib.run_eql_slice_nil w _ _ a n c n' c' Tryz.underlying22
  have HC : Hid (∀ j u, xs[j]? = some u → w.cell? (p.add j) = some u) := hc
  have H1 : Hid (∀ u ∈ xs, u.oneCell' = true) := h1
  have HX : Hid (xs.length = n * 5) := hx
  clear hc h1 hx
  go_enter Tryz.func99, Tryz.ntmps99
  go_wp2_with (at_builtin; refine wpList_append_own _ rfl _ _ 22 rfl w.heap.size 39 i0 (.agg #[.int .i64 0, .bool false, .int .i64 0, .slice none 0 0, .slice none 0 0]) 5 72 Tryz.underlying22 hi hz0 hz1 hz2 rfl (by decide) _ _ _ rfl (World.ownsRow_made w #[] 0 (Nat.le_refl _) (Nat.zero_le _) rfl) p n c xs rfl ?qc1 ?qc2 ?qc3 ?qc4 ?qc5 ?qc6 ?_)
  case qc1 => have := HX.out; omega
  case qc2 => intro j u hj; exact Lib.cell?_alloc_some _ (HC.out j u hj)
  case qc3 => exact H1.out
  case qc4 => unfold maxLen; omega
  case qc5 => omega
  case qc6 => simp
  intro v' w1 hown hgrow hnil
  have HOW : Hid (w1.ownsRow w.heap.size 39 5 v' n xs) := by show World.ownsRow _ _ _ _ _ _ _; have := hown; simpa using this
  have HB : Hid (Below w.heap.size w w1) := ((Below.refl _ w).alloc (Nat.le_refl _) _).grown hgrow (by simp) (by intro k hk; simp [Value.ownBlock] at hk; omega)
  clear hown hgrow
  go_wp2_with fail
  go_ret
  exact ⟨⟨v', rfl, HOW.out⟩, HB.out⟩

set_option maxRecDepth 100000 in
set_option maxHeartbeats 1000000 in
theorem clof_nil (n c : Nat) (w : World) : Calls Tryz.prog 99 #[.slice none n c] w fun e w' => e = .returned (.slice none 0 0) ∧ w' = w := by
  have q22 : ∀ (w : World) (a : Option Addr) (n c n' c' : Nat), (binOp .eql 22 (.slice a n c) (.slice none n' c')).run Tryz.prog w = .ok (.bool a.isNone) w := fun w a n c n' c' => Lib.run_eql_slice_nil w _ _ a n c n' c' Tryz.underlying22
  go_enter Tryz.func99, Tryz.ntmps99
  go_wp2_with fail
  go_ret
  exact ⟨rfl, rfl⟩

set_option maxRecDepth 100000 in
set_option maxHeartbeats 2000000 in
theorem cloi_row (p : Addr) (n c : Nat) (xs : List Value) (w : World) (hx : xs.length = n * 1) (hbig : n * 8 ≤ 140737488355328) (hc : ∀ j u, xs[j]? = some u → w.cell? (p.add j) = some u) (h1 : ∀ u ∈ xs, u.oneCell' = true) :
    Calls Tryz.prog 100 #[.slice (some p) n c] w fun e w' => (∃ v', e = .returned v' ∧ w'.ownsRow w.heap.size 3 1 v' n xs) ∧ Below w.heap.size w w' := by
  obtain ⟨i0, hi, hz0, hz1, hz2⟩ := info_parts Tryz.info3
  have q22 : ∀ (w : World) (a : Option Addr) (n c n' c' : Nat), (binOp .eql 36 (.slice a n c) (.slice none n' c')).run Tryz.prog w = .ok (.bool a.isNone) w := fun w a n c n' c' => Lib.run_eql_slice_nil w _ _ a n c n' c' Tryz.underlying36
  have HC : Hid (∀ j u, xs[j]? = some u → w.cell? (p.add j) = some u) := hc
  have H1 : Hid (∀ u ∈ xs, u.oneCell' = true) := h1
  have HX : Hid (xs.length = n * 1) := hx
  clear hc h1 hx
  go_enter Tryz.func100, Tryz.ntmps100
  go_wp2_with (at_builtin; refine wpList_append_own _ rfl _ _ 36 rfl w.heap.size 3 i0 (.int .i64 0) 1 8 Tryz.underlying36 hi hz0 hz1 hz2 rfl (by decide) _ _ _ rfl (World.ownsRow_made w #[] 0 (Nat.le_refl _) (Nat.zero_le _) rfl) p n c xs rfl ?qc1 ?qc2 ?qc3 ?qc4 ?qc5 ?qc6 ?_)
  case qc1 => have := HX.out; omega
  case qc2 => intro j u hj; exact Lib.cell?_alloc_some _ (HC.out j u hj)
  case qc3 => exact H1.out
  case qc4 => unfold maxLen; omega
  case qc5 => omega
  case qc6 => simp
  intro v' w1 hown hgrow hnil
  have HOW : Hid (w1.ownsRow w.heap.size 3 1 v' n xs) := by show World.ownsRow _ _ _ _ _ _ _; have := hown; simpa using this
  have HB : Hid (Below w.heap.size w w1) := ((Below.refl _ w).alloc (Nat.le_refl _) _).grown hgrow (by simp) (by intro k hk; simp [Value.ownBlock] at hk; omega)
  clear hown hgrow
  go_wp2_with fail
  go_ret
  exact ⟨⟨v', rfl, HOW.out⟩, HB.out⟩

set_option maxRecDepth 100000 in
set_option maxHeartbeats 1000000 in
theorem cloi_nil (n c : Nat) (w : World) : Calls Tryz.prog 100 #[.slice none n c] w fun e w' => e = .returned (.slice none 0 0) ∧ w' = w := by
  have q22 : ∀ (w : World) (a : Option Addr) (n c n' c' : Nat), (binOp .eql 36 (.slice a n c) (.slice none n' c')).run Tryz.prog w = .ok (.bool a.isNone) w := fun w a n c n' c' => Lib.run_eql_slice_nil w _ _ a n c n' c' Tryz.underlying36
  go_enter Tryz.func100, Tryz.ntmps100
  go_wp2_with fail
  go_ret
  exact ⟨rfl, rfl⟩

set_option maxRecDepth 100000 in
set_option maxHeartbeats 2000000 in
theorem clol_row (p : Addr) (n c : Nat) (xs : List Value) (w : World) (hx : xs.length = n * 2) (hbig : n * 24 ≤ 140737488355328) (hc : ∀ j u, xs[j]? = some u → w.cell? (p.add j) = some u) (h1 : ∀ u ∈ xs, u.oneCell' = true) :
    Calls Tryz.prog 101 #[.slice (some p) n c] w fun e w' => (∃ v', e = .returned v' ∧ w'.ownsRow w.heap.size 87 2 v' n xs) ∧ Below w.heap.size w w' := by
  obtain ⟨i0, hi, hz0, hz1, hz2⟩ := info_parts Tryz.info87
  have q22 : ∀ (w : World) (a : Option Addr) (n c n' c' : Nat), (binOp .eql 37 (.slice a n c) (.slice none n' c')).run Tryz.prog w = .ok (.bool a.isNone) w := fun w a n c n' c' => Lib.run_eql_slice_nil w _ _ a n c n' c' Tryz.underlying37
  have HC : Hid (∀ j u, xs[j]? = some u → w.cell? (p.add j) = some u) := hc
  have H1 : Hid (∀ u ∈ xs, u.oneCell' = true) := h1
  have HX : Hid (xs.length = n * 2) := hx
  clear hc h1 hx
  go_enter Tryz.func101, Tryz.ntmps101
  go_wp2_with (at_builtin; refine wpList_append_own _ rfl _ _ 37 rfl w.heap.size 87 i0 (.agg #[.string ⟨#[]⟩, .int .i64 0]) 2 24 Tryz.underlying37 hi hz0 hz1 hz2 rfl (by decide) _ _ _ rfl (World.ownsRow_made w #[] 0 (Nat.le_refl _) (Nat.zero_le _) rfl) p n c xs rfl ?qc1 ?qc2 ?qc3 ?qc4 ?qc5 ?qc6 ?_)
  case qc1 => have := HX.out; omega
  case qc2 => intro j u hj; exact Lib.cell?_alloc_some _ (HC.out j u hj)
  case qc3 => exact H1.out
  case qc4 => unfold maxLen; omega
  case qc5 => omega
  case qc6 => simp
  intro v' w1 hown hgrow hnil
  have HOW : Hid (w1.ownsRow w.heap.size 87 2 v' n xs) := by show World.ownsRow _ _ _ _ _ _ _; have := hown; simpa using this
  have HB : Hid (Below w.heap.size w w1) := ((Below.refl _ w).alloc (Nat.le_refl _) _).grown hgrow (by simp) (by intro k hk; simp [Value.ownBlock] at hk; omega)
  clear hown hgrow
  go_wp2_with fail
  go_ret
  exact ⟨⟨v', rfl, HOW.out⟩, HB.out⟩

set_option maxRecDepth 100000 in
set_option maxHeartbeats 1000000 in
theorem clol_nil (n c : Nat) (w : World) : Calls Tryz.prog 101 #[.slice none n c] w fun e w' => e = .returned (.slice none 0 0) ∧ w' = w := by
  have q22 : ∀ (w : World) (a : Option Addr) (n c n' c' : Nat), (binOp .eql 37 (.slice a n c) (.slice none n' c')).run Tryz.prog w = .ok (.bool a.isNone) w := fun w a n c n' c' => Lib.run_eql_slice_nil w _ _ a n c n' c' Tryz.underlying37
  go_enter Tryz.func101, Tryz.ntmps101
  go_wp2_with fail
  go_ret
  exact ⟨rfl, rfl⟩

theorem cloi_any (a : Option Addr) (xs : List Int) (c : Nat) (w : World) (hx : IntsAt w a xs) (hc : CapOk a c xs.length) (hl : xs.length ≤ 100000) :
    Calls Tryz.prog 100 #[.slice a xs.length c] w fun e w' => (∃ v, e = .returned v ∧ OwnInts w' w.heap.size v xs) ∧ Below w.heap.size w w' := by
  cases a with
  | none =>
    have h0 : xs = [] := by have := hc.2.1 rfl; have := hc.1; exact List.length_eq_zero_iff.1 (by omega)
    subst h0
    exact (cloi_nil 0 c w).mono fun e w' ⟨h1, h2⟩ => ⟨⟨_, h1, by rw [h2]; exact World.ownsRow_nil _ _ _ _⟩, by rw [h2]; exact nwR w⟩
  | some p =>
    refine (cloi_row p xs.length c (xs.map (.int .i64)) w (by simp) (by omega) ?_ ?_).mono fun e w' h => h
    · intro j u hj
      rcases hx with rfl | ⟨b, o, e, hh⟩
      · simp at hj
      · injection e with e; subst e
        rw [Addr.add_lit]
        obtain ⟨h1, h2⟩ := List.getElem?_eq_some_iff.1 hj
        rw [List.length_map] at h1
        rw [hh j h1]
        simp only [List.getElem_map] at h2
        rw [← h2]; simp [List.getD, h1]
    · intro u hu; obtain ⟨x, _, rfl⟩ := List.mem_map.1 hu; rfl
theorem linksAt_cells {w : World} {a : Option Addr} {ls : List LinkD} {p : Addr} (hx : LinksAt w a ls) (ha : a = some p) : ∀ j u, (lflat ls)[j]? = some u → w.cell? (p.add j) = some u := by
  intro j u hj
  have hl := (List.getElem?_eq_some_iff.1 hj).1
  rw [lflat_len] at hl
  rcases hx with rfl | ⟨b, o, e, hh⟩
  · simp [lflat] at hj
  · rw [ha] at e; injection e with e; subst e
    rw [Addr.add_lit]
    have hq : j / 2 < ls.length := by omega
    obtain ⟨g1, g2⟩ := lflat_get ls (j / 2) hq
    obtain ⟨h1, h2⟩ := hh (j / 2) hq
    by_cases hm : j = j / 2 * 2
    · rw [hm] at hj ⊢
      rw [g1] at hj; injection hj with hj; subst hj
      exact h1
    · have hm2 : j = j / 2 * 2 + 1 := by omega
      rw [hm2] at hj ⊢
      rw [g2] at hj; injection hj with hj; subst hj
      rw [← Nat.add_assoc]; exact h2
theorem clol_any (a : Option Addr) (xs : List LinkD) (c : Nat) (w : World) (hx : LinksAt w a xs) (hc : CapOk a c xs.length) (hl : xs.length ≤ 100000) :
    Calls Tryz.prog 101 #[.slice a xs.length c] w fun e w' => (∃ v, e = .returned v ∧ OwnLinks w' w.heap.size v xs) ∧ Below w.heap.size w w' := by
  cases a with
  | none =>
    have h0 : xs = [] := by have := hc.2.1 rfl; have := hc.1; exact List.length_eq_zero_iff.1 (by omega)
    subst h0
    exact (clol_nil 0 c w).mono fun e w' ⟨h1, h2⟩ => ⟨⟨_, h1, by rw [h2]; exact World.ownsRow_nil _ _ _ _⟩, by rw [h2]; exact nwR w⟩
  | some p => exact clol_row p xs.length c (lflat xs) w (lflat_len xs) (by omega) (linksAt_cells hx rfl) (lflat_one xs)

end Go.Proofs.YtdpighcaieajjaaGreat
