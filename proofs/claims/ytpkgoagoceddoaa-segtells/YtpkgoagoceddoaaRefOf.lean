/- hermitageref1.Of by its contract. -/
import Derived.Test.YtpkgoagoceddoaaRefSet
namespace Go.Proofs.Ytpkgoagoceddoaa
open Go.RowKit

def bf (p : Nat → Bool) (k : Nat) : List (Int × Int) := bfin (bstate p k)

theorem bf_miss {p : Nat → Bool} {k : Nat} (h : p k = false) : bf p (k + 1) = bf p k := by rw [bf, bf, bstate_miss h]

theorem bf_hit {p : Nat → Bool} {k : Nat} (hk : k ≤ 64) (h : p k = true) :
    (bf p k = [] ∧ bf p (k + 1) = [((k : Int), 1)]) ∨
    (∃ (d : List (Int × Int)) (a n : Int), bf p k = d ++ [(a, n)] ∧ 0 ≤ a ∧ 0 < n ∧ a + n ≤ k ∧ d.length ≤ 64 ∧ (((k : Int) = a + n ∧ bf p (k + 1) = d ++ [(a, n + 1)]) ∨ (¬ (k : Int) = a + n ∧ bf p (k + 1) = d ++ [(a, n)] ++ [((k : Int), 1)]))) := by
  have hb := bstate_bd p k
  have hi := bstate_inv p k hk
  unfold bf
  rw [bstate_hit h]
  generalize bstate p k = st at hb hi
  obtain ⟨d, a, n⟩ := st
  simp only at hb hi
  rcases hi with ⟨h1, h2, _⟩ | ⟨h1, _, h3, _⟩
  · subst h1; subst h2
    left
    refine ⟨rfl, ?_⟩
    simp [bstep, bfin]
  · right
    refine ⟨d, a, n, by simp [bfin, h1], by omega, h1, h3, by omega, ?_⟩
    by_cases e : (k : Int) = a + n
    · left
      refine ⟨e, ?_⟩
      have hs : bstep (d, a, n) k = (d, a, n + 1) := by simp only [bstep]; rw [if_pos ⟨h1, e⟩]
      rw [hs, bfin]
      simp only
      rw [if_pos (by omega)]
    · right
      refine ⟨e, ?_⟩
      have hs : bstep (d, a, n) k = (d ++ [(a, n)], (k : Int), 1) := by
        simp only [bstep, bfin]
        rw [if_neg (fun h => e h.2), if_pos h1]
      rw [hs, bfin]
      simp only
      rw [if_pos (by omega)]

theorem bf_len (p : Nat → Bool) (k : Nat) : (bf p k).length ≤ k := by
  have h := bstate_bd p k
  unfold bf bfin
  split
  · simp; omega
  · omega

theorem flat_set_last (d : List (Int × Int)) (a n m : Int) : (flat (d ++ [(a, n)])).set (d.length * 2 + 1) (.int .i64 m) = flat (d ++ [(a, m)]) := by
  have hl : (flat d).length = d.length * 2 := by
    induction d with
    | nil => rfl
    | cons s r ih => simp [flat] at ih ⊢; omega
  rw [flat_snoc, flat_snoc, List.set_append_right _ _ (by omega)]
  rw [show d.length * 2 + 1 - (flat d).length = 1 from by omega]
  rfl

set_option maxRecDepth 100000 in
set_option maxHeartbeats 2000000 in
theorem refOf_any (s : Nat → Bool) (w : World) :
    Calls Try.prog 27 #[.agg (setArr s)] w fun e w' => ∃ v, e = .returned v ∧ OwnSegs w' w.heap.size v (segsOf s) ∧ Below w.heap.size w w' := by
  obtain ⟨i0, hi, hz0, hz1, hz2⟩ := info_parts Try.info57
  go_enter Try.func27, Try.ntmps27
  go_wp2_with fail
  obtain ⟨W0, hW0⟩ : ∃ W0, W0 = w.alloc (.cells (setArr s) 50) := ⟨_, rfl⟩
  have HN0 : Hid (Below w.heap.size w W0) := by rw [hW0]; exact nwA (nwR w) _
  have HJ0 : Hid (SetJ W0 w.heap.size s) := by rw [hW0]; exact SetJ.new w s
  rw [← hW0]
  clear hW0
  have hsz0 : w.heap.size < W0.heap.size := HJ0.out.lt
  go_loopw [3, 4] (fun v i wr => ∃ (k : Nat), k ≤ 64 ∧ i = .int .i64 k ∧ OwnSegs wr W0.heap.size v (bf s k) ∧ Below W0.heap.size W0 wr)
    (fun _ i _ => 64 - (intOf i).toNat)
  case atStart => exact ⟨0, by omega, rfl, World.ownsRow_nil _ _ _ _, nwR W0⟩
  case round =>
    obtain ⟨k, hk, rfl, hO, hb⟩ := hrel
    have HO : Hid (OwnSegs wr W0.heap.size u3 (bf s k)) := hO
    clear hO
    by_cases hlt : k < 64
    · have hlt' : (k : Int) < 64 := by omega
      have c0 := (HJ0.out.below hb).cell hlt
      simp only [setRow] at c0
      cases hs : s k
      · rw [hs] at c0
        have HO2 : Hid (OwnSegs wr W0.heap.size u3 (bf s (k + 1))) := by rw [bf_miss hs]; exact HO.out
        go_wp2_with fail
        go_roundw
        case rel => exact ⟨k + 1, by omega, by go_num, HO2.out, hb⟩
        case measure => simp [intOf]; omega
      · rw [hs] at c0
        have hL := bf_len s k
        rcases bf_hit hk hs with ⟨e1, e2⟩ | ⟨d, a, n, e1, ha, hn, han, hd, hnext⟩
        · have HE : Hid (bf s (k + 1) = [((k : Int), 1)]) := e2
          rw [e1] at HO
          clear e1 e2 hL
          obtain ⟨ao, co, hv, _⟩ := HO.out.at
          subst hv
          have d1 : decide ((0 : Int) < ((0 : Nat) : Int)) = false := rfl
          have hc3 : 0 + 1 ≤ maxLen := by unfold maxLen; omega
          have hc4 : (0 + 1) * 16 ≤ 140737488355328 := by omega
          go_wp2_with fail
          go_quiet (fail)
          have hb2 : Below W0.heap.size W0 (wr.drewN nq) := below_drewN hb nq
          have HO2 : Hid (OwnSegs (wr.drewN nq) W0.heap.size (.slice ao 0 co) []) := HO.out
          generalize wr.drewN nq = w2 at hb2 HO2 ⊢
          clear hb HO c0
          have hsz : W0.heap.size ≤ (w2.alloc (.cells #[.int .i64 k, .int .i64 1] 57)).heap.size := (nwA hb2 _).size
          go_wp2_with (at_builtin; refine wpList_append_own _ rfl (.tmp 45) (.tmp 48) 27 rfl W0.heap.size 57 i0 (.agg #[.int .i64 0, .int .i64 0]) 2 16 Try.underlying27 hi hz0 hz1 hz2 rfl (by decide) (.slice ao 0 co) 0 (flat []) rfl (World.ownsRow.alloc HO2.out _) ⟨w2.heap.size, 0, none⟩ 1 1 [.int .i64 k, .int .i64 1] rfl rfl (cell_two' _ _ _ _) (by simp [Value.oneCell']) hc3 hc4 hsz ?_; intro v' w3 hown hgrow _)
          have HB3 : Hid (Below W0.heap.size W0 w3) := (nwA hb2 _).grown hgrow (nwA hb2 _).size (fun q e => (HO2.out.lt q e).1)
          have HO3 : Hid (OwnSegs w3 W0.heap.size v' (bf s (k + 1))) := by rw [HE.out]; exact OwnSegs.snoc (l := []) hown
          clear hown hgrow
          go_roundw
          case rel => exact ⟨k + 1, by omega, by go_num, HO3.out, HB3.out⟩
          case measure => simp [intOf]; omega
        · rw [e1] at HO
          have hdl : (d ++ [(a, n)]).length = d.length + 1 := by simp
          rcases HO.out.2 with ⟨_, h0⟩ | ⟨g2, co, cur, hv, hg2, _, _⟩
          · omega
          · rw [hdl] at hv
            subst hv
            have HOC : Hid (OwnSegs wr W0.heap.size (.slice (some ⟨g2, 0, none⟩) (d.length + 1) co) (d ++ [(a, n)])) := HO.out
            obtain ⟨ax, cx, hax, hsx⟩ := HO.out.at
            obtain ⟨b9, o9, hb9, z1, z2⟩ := hsx d.length (by omega)
            simp only [Value.slice.injEq] at hax
            rw [← hax.1] at hb9
            simp only [Option.some.injEq, Addr.mk.injEq, and_true] at hb9
            obtain ⟨rfl, rfl⟩ := hb9
            have hgd : (d ++ [(a, n)]).getD d.length (0, 0) = (a, n) := by simp
            rw [hgd] at z1 z2
            simp only [Nat.zero_add] at z1 z2
            clear hgd hsx hax HO e1 hL
            obtain ⟨M, hM⟩ : ∃ M, M = d.length := ⟨_, rfl⟩
            rw [← hM] at z1 z2 HOC ⊢
            have HM : Hid (M = d.length) := hM
            have hMd : M ≤ 64 := by omega
            clear hM hd
            have hw1 : IntKind.i64.wrap ((M : Int) + 1 - 1) = (M : Int) := by rw [wrap_any (by omega) (by omega)]; omega
            have hw2 : IntKind.i64.wrap (M : Int) = (M : Int) := wrap_any (by omega) (by omega)
            have hw3 : IntKind.i64.wrap (a + n) = a + n := wrap_any (by omega) (by omega)
            have hc3 : M + 1 + 1 ≤ maxLen := by unfold maxLen; omega
            have hc4 : (M + 1 + 1) * 16 ≤ 140737488355328 := by omega
            rcases hnext with ⟨e1, e2⟩ | ⟨e1, e2⟩
            · have HE : Hid (bf s (k + 1) = d ++ [(a, n + 1)]) := e2
              have d2 : (a + n == (k : Int)) = true := by rw [beq_iff_eq]; omega
              clear e1 e2
              go_wp2_with fail
              go_quiet (fail)
              have hb2 : Below W0.heap.size W0 (wr.drewN nq) := below_drewN hb nq
              have HO2 : Hid (OwnSegs (wr.drewN nq) W0.heap.size (.slice (some ⟨g2, 0, none⟩) (M + 1) co) (d ++ [(a, n)])) := HOC.out
              have z1' : (wr.drewN nq).cell? ⟨g2, M * 2, none⟩ = some (.int .i64 a) := z1
              have z2' : (wr.drewN nq).cell? ⟨g2, M * 2 + 1, none⟩ = some (.int .i64 n) := z2
              generalize wr.drewN nq = w2 at hb2 HO2 z1' z2' ⊢
              clear hb HOC c0 z1 z2
              have HO2' : Hid (w2.ownsRow W0.heap.size 57 2 (.slice (some ⟨g2, 0, none⟩) (M + 1) co) (M + 1) (flat (d ++ [(a, n)]))) := by
                have h := HO2.out
                unfold OwnSegs at h
                rw [hdl, ← HM.out] at h
                exact h
              have hfz := HO2'.out.frozenAt (M * 2 + 1)
              have HST := HO2'.out.stored (M * 2 + 1) (.int .i64 (n + 1))
              have HO3 : Hid (OwnSegs (w2.setCell ⟨g2, M * 2 + 1, none⟩ (.int .i64 (n + 1))) W0.heap.size (.slice (some ⟨g2, 0, none⟩) (M + 1) co) (bf s (k + 1))) := by
                rw [HE.out]
                have h := HST.1
                rw [HM.out, flat_set_last] at h
                unfold OwnSegs
                rw [show (d ++ [(a, n + 1)]).length = d.length + 1 from by simp, HM.out]
                exact h
              have HB3 : Hid (Below W0.heap.size W0 (w2.setCell ⟨g2, M * 2 + 1, none⟩ (.int .i64 (n + 1)))) := hb2.setCell (p := ⟨g2, M * 2 + 1, none⟩) hg2 _
              clear HST
              go_wp2_with fail
              go_roundw
              case rel => exact ⟨k + 1, by omega, by go_num, HO3.out, HB3.out⟩
              case measure => simp [intOf]; omega
            · have HE : Hid (bf s (k + 1) = d ++ [(a, n)] ++ [((k : Int), 1)]) := e2
              have d2 : (a + n == (k : Int)) = false := by rw [beq_eq_false_iff_ne]; omega
              clear e1 e2
              go_wp2_with fail
              go_quiet (fail)
              have hb2 : Below W0.heap.size W0 (wr.drewN nq) := below_drewN hb nq
              have HO2 : Hid (OwnSegs (wr.drewN nq) W0.heap.size (.slice (some ⟨g2, 0, none⟩) (M + 1) co) (d ++ [(a, n)])) := HOC.out
              generalize wr.drewN nq = w2 at hb2 HO2 ⊢
              clear hb HOC c0 z1 z2
              have hsz : W0.heap.size ≤ (w2.alloc (.cells #[.int .i64 k, .int .i64 1] 57)).heap.size := (nwA hb2 _).size
              have HO2' : Hid (w2.ownsRow W0.heap.size 57 2 (.slice (some ⟨g2, 0, none⟩) (M + 1) co) (M + 1) (flat (d ++ [(a, n)]))) := by
                have h := HO2.out
                unfold OwnSegs at h
                rw [hdl, ← HM.out] at h
                exact h
              go_wp2_with (at_builtin; refine wpList_append_own _ rfl (.tmp 45) (.tmp 48) 27 rfl W0.heap.size 57 i0 (.agg #[.int .i64 0, .int .i64 0]) 2 16 Try.underlying27 hi hz0 hz1 hz2 rfl (by decide) (.slice (some ⟨g2, 0, none⟩) (M + 1) co) (M + 1) (flat (d ++ [(a, n)])) rfl (World.ownsRow.alloc HO2'.out _) ⟨w2.heap.size, 0, none⟩ 1 1 [.int .i64 k, .int .i64 1] rfl rfl (cell_two' _ _ _ _) (by simp [Value.oneCell']) hc3 hc4 hsz ?_; intro v' w3 hown hgrow _)
              have HB3 : Hid (Below W0.heap.size W0 w3) := (nwA hb2 _).grown hgrow (nwA hb2 _).size (fun q e => (HO2.out.lt q e).1)
              have HO3 : Hid (OwnSegs w3 W0.heap.size v' (bf s (k + 1))) := by
                rw [HE.out]
                refine OwnSegs.snoc ?_
                rw [hdl, ← HM.out]
                exact hown
              clear hown hgrow
              go_roundw
              case rel => exact ⟨k + 1, by omega, by go_num, HO3.out, HB3.out⟩
              case measure => simp [intOf]; omega
    · have hk' : k = 64 := by omega
      subst hk'
      go_wp2_with fail
      go_ret
      exact ⟨_, rfl, ownsRow_base HO.out (Nat.le_of_lt hsz0), nwT HN0.out hb⟩

end Go.Proofs.Ytpkgoagoceddoaa
