/- Heavy; what wakes; numbers brought within; whether a number is among others. -/
import Derived.Test.YtifbnojkjbjngaaDoorHeavy
namespace Go.Proofs.YtifbnojkjbjngaaDoor
open Go.RowKit

def HvPost (d : AskD) (w : World) (e : Ending) (w' : World) : Prop := ∃ q : Bool, e = .returned (.bool q) ∧ Below w.heap.size w w' ∧ (q = false → Light d)

theorem light_of {d : AskD} {t : Nat} (h : hvy d.l (txs d.s d.s.length + d.n.length) = t) (ht : t ≤ 4000) : Light d := by
  have h1 := hvy_le d.l _ (by omega : hvy d.l (txs d.s d.s.length + d.n.length) ≤ 4000)
  have h2 := txs_le d.s d.s.length (by omega)
  unfold Light wgt; omega

set_option maxHeartbeats 2000000 in
theorem heavy_any (v : Value) (d : AskD) (w : World) (hv : AskVal w v d) : Calls Tryd.prog 8 #[v] w (HvPost d w) := by
  obtain ⟨aS, cS, aL, cL, aN, cN, rfl, ⟨hS, hcS, hzS⟩, ⟨hL, hcL, hlL, hzL⟩, ⟨hN, hcN, hlN, _⟩⟩ := hv
  have HPF : Hid (∀ t : Nat, hvy d.l (txs d.s d.s.length + d.n.length) = t → t ≤ 4000 → Light d) := fun t h h2 => light_of h h2
  obtain ⟨S, L, N⟩ := d
  simp only at *
  have hts := txs_bound S hzS.2 S.length (by have := hzS.1; omega)
  have HTS : Hid (∀ w', Below w.heap.size w w' → Calls Tryd.prog 30 #[.slice aS S.length cS] w' fun e w'' => e = .returned (.int .i64 (txs S S.length : Nat)) ∧ w'' = w') := fun w' h => texts_any aS S cS w' (hS.below h) hzS.1 hzS.2
  have HL : Hid (RowsAt w aL L) := hL
  have HZL : Hid (∀ x ∈ L, Small x) := hzL
  clear hS hL hzL hN hcS hcN hzS
  generalize txs S S.length = t0 at HTS hts HPF
  go_enter Tryd.func8, Tryd.ntmps8
  go_wp2_with fail
  have hb0 := nwA (nwR w) (.cells #[.slice aS S.length cS, .slice aL L.length cL, .slice aN N.length cN] 26)
  have c0 : (w.alloc (.cells #[.slice aS S.length cS, .slice aL L.length cL, .slice aN N.length cN] 26)).cell? ⟨w.heap.size, 0, none⟩ = some (.slice aS S.length cS) := by simp
  have c1 : (w.alloc (.cells #[.slice aS S.length cS, .slice aL L.length cL, .slice aN N.length cN] 26)).cell? ⟨w.heap.size, 1, none⟩ = some (.slice aL L.length cL) := by simp
  have c2 : (w.alloc (.cells #[.slice aS S.length cS, .slice aL L.length cL, .slice aN N.length cN] 26)).cell? ⟨w.heap.size, 2, none⟩ = some (.slice aN N.length cN) := by simp
  generalize w.alloc (.cells #[.slice aS S.length cS, .slice aL L.length cL, .slice aN N.length cN] 26) = W1 at hb0 c0 c1 c2 ⊢
  have HC1 : Hid (W1.cell? ⟨w.heap.size, 1, none⟩ = some (.slice aL L.length cL)) := c1
  have z0 : ∀ p : Kin W1, p.u.cell? ⟨w.heap.size, 0, none⟩ = some (.slice aS S.length cS) := fun p => kcell c0 p
  have z2 : ∀ p : Kin W1, p.u.cell? ⟨w.heap.size, 2, none⟩ = some (.slice aN N.length cN) := fun p => kcell c2 p
  have HA : Hid (∀ p : Kin W1, Calls Tryd.prog 30 #[.slice aS S.length cS] p.u fun e w' => e = .returned (.int .i64 (t0 : Nat)) ∧ w' = p.u) := fun p => HTS.out p.u (nwT hb0 p.h)
  have e1 : IntKind.i64.wrap ((t0 : Int) + (N.length : Int)) = ((t0 + N.length : Nat) : Int) := by rw [wrap_any (by omega) (by omega)]; omega
  clear c0 c1 c2
  refine wp_region_kin (by kernel_rfl) (by kernel_rfl) ?_
  repeat (first | go_big_quiet_step (first | (go_at_call 30; exact Calls.kin_same (HA.out _)) | fail) | quiet_step (first | (go_at_call 30; exact Calls.kin_same (HA.out _)) | fail))
  refine wpQuiet_nil ?_
  intro _ hw'
  obtain ⟨pq, hw''⟩ := hw'
  subst hw''
  clear z0 z2 e1
  have hbq : Below w.heap.size w pq.u := nwT hb0 pq.h
  have d1 := kcell HC1.out pq
  generalize pq.u = Wq at hbq d1 ⊢
  have HLq : Hid (RowsAt Wq aL L) := HL.out.below hbq
  clear HA HTS HL HC1
  have ht1 : t0 + N.length ≤ 1000000000000000 := by omega
  obtain ⟨T0, hT0⟩ : ∃ T0, t0 + N.length = T0 := ⟨_, rfl⟩
  rw [hT0] at HPF ht1
  have HT0 : Hid (t0 + N.length = T0) := hT0
  clear hT0
  go_wp2_with fail
  go_loopw [3, 4] (fun n i wr => ∃ (k t : Nat), wr = Wq ∧ k ≤ L.length ∧ i = .int .i64 k ∧ n = .int .i64 t ∧ t ≤ 2000000000000000 ∧ Hid (hvy (L.drop k) t = hvy L T0))
    (fun _ i _ => L.length - (intOf i).toNat)
  case atStart => exact ⟨0, T0, rfl, by omega, rfl, by rw [← HT0.out]; go_num, by omega, rfl⟩
  case round =>
    obtain ⟨k, t, rfl, hk, rfl, rfl, ht, HT⟩ := hrel
    by_cases hkl : k < L.length
    · have hkli : (k : Int) < (L.length : Int) := by omega
      have hdr : L.drop k = L.getD k [] :: L.drop (k + 1) := by rw [List.drop_eq_getElem_cons hkl]; simp [List.getD, hkl]
      by_cases ht2 : (t : Int) < 1048576
      · obtain ⟨b1, o1, rfl, a2, cc2, hc, hst, hcap⟩ := HLq.out.row hkl
        have hsm := HZL.out (L.getD k []) (by simp [List.getD, hkl])
        have HT' : Hid (hvy (L.drop (k + 1)) (t + txs (L.getD k []) (L.getD k []).length) = hvy L T0) := by
          have := HT.out
          rw [hdr, hvy, if_pos (by omega)] at this; exact this
        have htb := txs_bound (L.getD k []) hsm.2 (L.getD k []).length (by have := hsm.1; omega)
        have HTX : Hid (Calls Tryd.prog 30 #[.slice a2 (L.getD k []).length cc2] wr fun e w' => e = .returned (.int .i64 (txs (L.getD k []) (L.getD k []).length : Nat)) ∧ w' = wr) := texts_any _ _ _ _ hst hsm.1 hsm.2
        clear hdr hsm hst hcap
        generalize L.getD k [] = x at hc HT' htb HTX
        generalize txs x x.length = tx1 at HT' htb HTX
        go_wp2_with (go_at_call 30; refine HTX.out.mono ?_; rintro e w' ⟨rfl, rfl⟩)
        go_roundw
        case rel => exact ⟨k + 1, t + tx1, trivial, by omega, by go_num, by go_num, by omega, HT'⟩
        case measure => simp [intOf]; omega
      · have HE : Hid (4000 < t) := by show _ < _; omega
        go_wp2_with fail
        go_ret
        exact ⟨_, rfl, hbq, fun h => by have := HE.out; simp at h; omega⟩
    · have hkli : ¬ (k : Int) < (L.length : Int) := by omega
      have HE : Hid (t ≤ 4000 → Light ⟨S, L, N⟩) := by
        have := HT.out
        rw [List.drop_eq_nil_of_le (by omega)] at this
        exact fun h => HPF.out t this.symm h
      go_wp2_with fail
      go_ret
      exact ⟨_, rfl, hbq, fun h => HE.out (by simp at h; omega)⟩

end Go.Proofs.YtifbnojkjbjngaaDoor
