/- Laid together: Join. -/
import Derived.Test.YtijldakgfgmbiaaTableM3
/- The last two entries made one, where the second goes on as the first. -/
namespace Go.Proofs.Ytijldakgfgmbiaa
open Go.RowKit

def growE (x : EntD) (m : Int) : EntD := ⟨x.frm, x.len + m, x.dev, x.tgt, x.stale⟩
def joinA (l : List EntD) (y : EntD) : List EntD := match l.getLast? with
  | some x => if onB x y then l.set (l.length - 1) (growE x y.len) else l ++ [y]
  | none => [y]
theorem eflat_grow (l : List EntD) : ∀ k m, k < l.length → (eflat l).set (k * 5 + 1) (.int .i64 ((l.getD k EZ).len + m)) = eflat (l.set k (growE (l.getD k EZ) m)) := by
  induction l with
  | nil => intro k m hk; simp at hk
  | cons x r ih =>
    intro k m hk
    cases k with
    | zero => simp [eflat_cons, growE]
    | succ k =>
      have := ih k m (by simpa using hk)
      rw [show (k + 1) * 5 + 1 = (k * 5 + 1) + 1 + 1 + 1 + 1 + 1 from by omega]
      rw [List.set_cons_succ, eflat_cons, eflat_cons]
      simp only [List.set_cons_succ]
      rw [show (x :: r).getD (k + 1) EZ = r.getD k EZ from by simp [List.getD], this]
theorem joinA_short {l : List EntD} {y : EntD} (h : l.length < 1) : joinA l y = l ++ [y] := by
  have : l = [] := List.length_eq_zero_iff.1 (by omega)
  subst this; rfl
theorem getLast_getD {l : List EntD} (h : 1 ≤ l.length) : l.getLast? = some (l.getD (l.length - 1) EZ) := by
  rw [List.getLast?_eq_getElem?, List.getD, List.getElem?_eq_getElem (by omega)]; rfl
theorem joinA_no {l : List EntD} {y : EntD} (h : 1 ≤ l.length) (hn : onB (l.getD (l.length - 1) EZ) y = false) : joinA l y = l ++ [y] := by
  unfold joinA; rw [getLast_getD h]; simp only [hn]; rfl
theorem joinA_yes {l : List EntD} {y : EntD} (h : 1 ≤ l.length) (hn : onB (l.getD (l.length - 1) EZ) y = true) : joinA l y = l.set (l.length - 1) (growE (l.getD (l.length - 1) EZ) y.len) := by
  unfold joinA; rw [getLast_getD h]; simp only [hn]; rfl
theorem own_take {w : World} {base g n cap m : Nat} {l : List EntD} (h : OwnEnts w base (.slice (some ⟨g, 0, none⟩) n cap) l) (hn : n = l.length) (hm : m ≤ n) : OwnEnts w base (.slice (some ⟨g, 0, none⟩) m cap) (l.take m) := by
  subst hn
  have h3 := own_shrink h hm
  unfold OwnEnts
  rw [eflat_take, List.length_take, Nat.min_eq_left hm]
  exact h3

set_option maxRecDepth 100000 in
set_option maxHeartbeats 8000000 in
theorem joinLast_any (W : World) (g : Nat) (a : Option Addr) (c : Nat) (d s : Int) (l0 : List EntD) (y : EntD) (w : World) (hbW : Below W.heap.size W w) (hg : W.heap.size ≤ g) (hs : ShAt w g (.slice a (l0 ++ [y]).length c) d s) (ho : OwnEnts w (g + 1) (.slice a (l0 ++ [y]).length c) (l0 ++ [y])) (hl : l0.length ≤ 1000) (hf : ∀ i, i < (l0 ++ [y]).length → Fair ((l0 ++ [y]).getD i EZ)) :
    Calls Try.prog 38 #[.pointer (some ⟨g, 0, none⟩)] w fun e w' => e = .returned (.tuple #[]) ∧ (∃ v, ShAt w' g v d s ∧ OwnEnts w' (g + 1) v (joinA l0 y)) ∧ Below W.heap.size W w' := by
  have hlen : (l0 ++ [y]).length = l0.length + 1 := by simp
  rw [hlen] at hs ho hf
  have HS : Hid (∀ w', Below w.heap.size w w' → ShAt w' g (.slice a (l0.length + 1) c) d s) := fun w' h => hs.below h
  have HO : Hid (∀ w', Below w.heap.size w w' → OwnEnts w' (g + 1) (.slice a (l0.length + 1) c) (l0 ++ [y])) := fun w' h => ho.below h
  have HBW : Hid (Below W.heap.size W w) := hbW
  have hgl := hs.lt
  have HZ := ho.zero.2 (by omega)
  obtain ⟨b, rfl, hgb⟩ := HZ
  have k0 : ∀ w', Below w.heap.size w w' → w'.cell? ⟨g, 0, none⟩ = some (.slice (some ⟨b, 0, none⟩) (l0.length + 1) c) := fun w' h => (three (hs.below h)).1
  have s0 := k0 w (nwR w)
  by_cases h1 : l0.length < 1
  case pos =>
    have HJ : Hid (joinA l0 y = l0 ++ [y]) := joinA_short h1
    have h0 : l0.length = 0 := by omega
    have e1 : IntKind.i64.wrap (((l0.length + 1 : Nat) : Int) - 1) = 0 := by rw [wrap_i] <;> omega
    have HS0 := HS.out w (nwR w)
    have HO0 := HO.out w (nwR w)
    clear hs ho h1 hf hlen
    obtain ⟨N, hN⟩ : ∃ N, N = l0.length + 1 := ⟨_, rfl⟩
    rw [← hN] at k0 s0 e1 HS0 HO0
    have hN1 : N = 1 := by omega
    subst hN1
    clear hN e1 h0
    go_enter Try.func38, Try.ntmps38
    go_wp2_with fail
    refine bodyPost_ret (results_none rfl _ _ _) rfl ?_
    exact ⟨rfl, ⟨_, HS0, by rw [HJ.out]; exact HO0⟩, HBW.out⟩
  case neg =>
  obtain ⟨k, hk⟩ : ∃ k, l0.length = k + 1 := ⟨l0.length - 1, by omega⟩
  obtain ⟨q, hq⟩ : ∃ q, q = k + 1 := ⟨_, rfl⟩
  obtain ⟨M, hM⟩ : ∃ M, M = l0.length + 1 := ⟨_, rfl⟩
  have hx1 : (l0 ++ [y]).getD k EZ = l0.getD k EZ := by simp [List.getD, List.getElem?_append_left (show k < l0.length by omega)]
  have hy1 : (l0 ++ [y]).getD q EZ = y := by simp [List.getD, show q = l0.length from by omega]
  obtain ⟨x, hx⟩ : ∃ x, x = l0.getD k EZ := ⟨_, rfl⟩
  have HJN : Hid (onB x y = false → joinA l0 y = l0 ++ [y]) := fun h => joinA_no (by omega) (by rw [show l0.length - 1 = k from by omega, ← hx]; exact h)
  have HJY : Hid (onB x y = true → joinA l0 y = l0.set k (growE x y.len)) := fun h => by
    have := joinA_yes (l := l0) (y := y) (by omega) (by rw [show l0.length - 1 = k from by omega, ← hx]; exact h)
    rw [this, show l0.length - 1 = k from by omega, ← hx]
  have fx : Fair x := by have := hf k (by omega); rw [hx1, ← hx] at this; exact this
  have fy : Fair y := by have := hf q (by omega); rw [hy1] at this; exact this
  have HEX : Hid (∀ w', Below w.heap.size w w' → EntAt w' b (k * 5) x ∧ EntAt w' b (q * 5) y) := fun w' h => by
    obtain ⟨_, _, e', hE, _⟩ := (HO.out w' h).at
    injection e' with e' _ _
    subst e'
    have h1 := hE.at (i := k) (by rw [hlen]; omega)
    have h2 := hE.at (i := q) (by rw [hlen]; omega)
    rw [Nat.zero_add, hx1, ← hx] at h1
    rw [Nat.zero_add, hy1] at h2
    exact ⟨h1, h2⟩
  have HA1 : Hid (∀ w', Calls Try.prog 50 #[.slice (some ⟨b, 0, none⟩) M c, .int .i64 (k : Int)] w' fun e w'' => e = .returned (.agg #[.pointer (some ⟨b, k * 5, none⟩)]) ∧ Below w'.heap.size w' w'') := fun w' => by
    have := at_any b 0 M c k w' (by omega); rwa [Nat.zero_add] at this
  have HA2 : Hid (∀ w', Calls Try.prog 50 #[.slice (some ⟨b, 0, none⟩) M c, .int .i64 (q : Int)] w' fun e w'' => e = .returned (.agg #[.pointer (some ⟨b, q * 5, none⟩)]) ∧ Below w'.heap.size w' w'') := fun w' => by
    have := at_any b 0 M c q w' (by omega); rwa [Nat.zero_add] at this
  have HGO : Hid (∀ w', Below w.heap.size w w' → Calls Try.prog 51 #[.agg #[.pointer (some ⟨b, k * 5, none⟩)], .agg #[.pointer (some ⟨b, q * 5, none⟩)]] w' fun e w'' => e = .returned (.bool (onB x y)) ∧ Below w'.heap.size w' w'') := fun w' h => goesOn_any b (k * 5) b (q * 5) x y w' (HEX.out w' h).1 (HEX.out w' h).2 fx fy
  have HQM : Hid (q = k + 1 ∧ M = k + 2 ∧ l0.length = k + 1) := ⟨hq, by omega, hk⟩
  have e1 : IntKind.i64.wrap ((M : Int) - 1) = (q : Int) := by rw [wrap_i] <;> omega
  have e2 : IntKind.i64.wrap ((q : Int) - 1) = (k : Int) := by rw [wrap_i] <;> omega
  have hq1 : ¬ (q : Int) < 1 := by omega
  have e3 : IntKind.i64.wrap (x.len + y.len) = x.len + y.len := wrap_i (by have := fx.l0; have := fy.l0; omega) (by have := fx.l1; have := fy.l1; omega)
  rw [← hM] at HS HO k0 s0
  have hqM : q ≤ M := by omega
  have hMc : M ≤ c := by
    rcases ho.2 with ⟨h1, _⟩ | ⟨g', cap', cur, h1, _, _, h4, _⟩
    · simp at h1
    · simp only [Value.slice.injEq] at h1; rw [hlen, ← hM] at h4; omega
  have hXL : Hid (x = l0.getD k EZ ∧ g + 1 ≤ b) := ⟨hx, hgb⟩
  clear hs ho h1 hf hlen hk hq hM hx1 hy1 hx fx fy
  go_enter Try.func38, Try.ntmps38
  go_upto_region 2 with fail
  go_cut [3, 4] from 13 to 25 (fun s3 s4 wx => ∃ p3 p4, s3 = .pointer (some ⟨p3, 0, none⟩) ∧ s4 = .pointer (some ⟨p4, 0, none⟩) ∧ Hid (Below w.heap.size w wx ∧ wx.heap[p3]? = some (.cells #[.pointer (some ⟨b, k * 5, none⟩)] 82 (0, 0)) ∧ wx.heap[p4]? = some (.cells #[.pointer (some ⟨b, q * 5, none⟩)] 82 (0, 0))))
  case first =>
    have hS := nwR w
    refine wp_region_held_drew (S := fun w' => Below w.heap.size w w') (by kernel_rfl) (by exact Below.drew (nwR w)) (fun hHeld => ?_)
    refine takeYes 0 (some 13) (v := ?_) rfl (by kernel_rfl) (by kernel_rfl) (by kernel_rfl) (by rfl) (fun _ _ _ h => h) (by rfl) ?_ (by assumption) ?_
    rotate_left
    · intro w hSw; (try dsimp only at hSw); go_simp; try with_reducible rfl
    try simp only [Act.put, List.setIfInBounds_toArray, List.set_cons_zero, List.set_cons_succ]
    refine takeYes 1 (some 14) (v := ?_) rfl (by kernel_rfl) (by kernel_rfl) (by kernel_rfl) (by rfl) (fun _ _ _ h => h) (by rfl) ?_ (by assumption) ?_
    rotate_left
    · intro w hSw; (try dsimp only at hSw); go_simp; try with_reducible rfl
    try simp only [Act.put, List.setIfInBounds_toArray, List.set_cons_zero, List.set_cons_succ]
    refine takeYes 2 (some 15) (v := ?_) rfl (by kernel_rfl) (by kernel_rfl) (by kernel_rfl) (by rfl) (fun _ _ _ h => h) (by rfl) ?_ (by assumption) ?_
    rotate_left
    · intro w hSw; (try dsimp only at hSw); go_simp; try with_reducible rfl
    try simp only [Act.put, List.setIfInBounds_toArray, List.set_cons_zero, List.set_cons_succ]
    refine takeYes 3 (some 16) (v := ?_) rfl (by kernel_rfl) (by kernel_rfl) (by kernel_rfl) (by rfl) (fun _ _ _ h => h) (by rfl) ?_ (by assumption) ?_
    rotate_left
    · intro w hSw; (try dsimp only at hSw); go_simp; try with_reducible rfl
    try simp only [Act.put, List.setIfInBounds_toArray, List.set_cons_zero, List.set_cons_succ]
    refine takeYes 4 (some 17) (v := ?_) rfl (by kernel_rfl) (by kernel_rfl) (by kernel_rfl) (by rfl) (fun _ _ _ h => h) (by rfl) ?_ (by assumption) ?_
    rotate_left
    · intro w hSw; (try dsimp only at hSw); go_simp; try with_reducible rfl
    try simp only [Act.put, List.setIfInBounds_toArray, List.set_cons_zero, List.set_cons_succ]
    refine takeYes 5 (some 18) (v := ?_) rfl (by kernel_rfl) (by kernel_rfl) (by kernel_rfl) (by rfl) (fun _ _ _ h => h) (by rfl) ?_ (by assumption) ?_
    rotate_left
    · intro w hSw; (try dsimp only at hSw); go_simp; try with_reducible rfl
    try simp only [Act.put, List.setIfInBounds_toArray, List.set_cons_zero, List.set_cons_succ]
    refine takeYes 7 (some 20) (v := ?_) rfl (by kernel_rfl) (by kernel_rfl) (by kernel_rfl) (by rfl) (fun _ _ _ h => h) (by rfl) ?_ (by assumption) ?_
    rotate_left
    · intro w hSw; (try dsimp only at hSw); go_simp; try with_reducible rfl
    try simp only [Act.put, List.setIfInBounds_toArray, List.set_cons_zero, List.set_cons_succ]
    refine takeYes 8 (some 21) (v := ?_) rfl (by kernel_rfl) (by kernel_rfl) (by kernel_rfl) (by rfl) (fun _ _ _ h => h) (by rfl) ?_ (by assumption) ?_
    rotate_left
    · intro w hSw; (try dsimp only at hSw); go_simp; try with_reducible rfl
    try simp only [Act.put, List.setIfInBounds_toArray, List.set_cons_zero, List.set_cons_succ]
    refine takeYes 9 (some 22) (v := ?_) rfl (by kernel_rfl) (by kernel_rfl) (by kernel_rfl) (by rfl) (fun _ _ _ h => h) (by rfl) ?_ (by assumption) ?_
    rotate_left
    · intro w hSw; (try dsimp only at hSw); go_simp; try with_reducible rfl
    try simp only [Act.put, List.setIfInBounds_toArray, List.set_cons_zero, List.set_cons_succ]
    refine takeYes 10 (some 23) (v := ?_) rfl (by kernel_rfl) (by kernel_rfl) (by kernel_rfl) (by rfl) (fun _ _ _ h => h) (by rfl) ?_ (by assumption) ?_
    rotate_left
    · intro w hSw; (try dsimp only at hSw); go_simp; try with_reducible rfl
    try simp only [Act.put, List.setIfInBounds_toArray, List.set_cons_zero, List.set_cons_succ]
    refine takeYes 11 (some 24) (v := ?_) rfl (by kernel_rfl) (by kernel_rfl) (by kernel_rfl) (by rfl) (fun _ _ _ h => h) (by rfl) ?_ (by assumption) ?_
    rotate_left
    · intro w hSw; (try dsimp only at hSw); go_simp; try with_reducible rfl
    try simp only [Act.put, List.setIfInBounds_toArray, List.set_cons_zero, List.set_cons_succ]
    have hF0 : Below w.heap.size w w.drew := Below.drew (nwR w)
    clear hHeld
    generalize w.drew = wd at hF0 ⊢
    refine wpAnyH_ready (rs := [6, 13, 14]) (by kernel_rfl) (by simp) ?_
    refine AllReadyH.cons rfl (fun K hK => ?_) (AllReadyH.cons rfl (fun K hK => ?_) (AllReadyH.cons rfl (fun K hK => ?_) AllReadyH.nil))
    ·
      go_simp
      go_at_call 50
      refine (HA1.out _).mono ?_
      rintro e w1_ ⟨rfl, hb1⟩
      have hF1 : Below w.heap.size w w1_ := nwT hF0 hb1
      refine hK.out _ _ hF1 (fun hHeld => ?_)
      clear hK K
      try simp only [Act.put, List.setIfInBounds_toArray, List.set_cons_zero, List.set_cons_succ]
      refine wpAnyH_ready (rs := [12, 13, 14]) (by kernel_rfl) (by simp) ?_
      refine AllReadyH.cons rfl (fun K hK => ?_) (AllReadyH.cons rfl (fun K hK => ?_) (AllReadyH.cons rfl (fun K hK => ?_) AllReadyH.nil))
      ·
        go_simp
        go_at_call 50
        refine (HA2.out _).mono ?_
        rintro e w2_ ⟨rfl, hb2⟩
        have hF2 : Below w.heap.size w w2_ := nwT hF1 hb2
        refine hK.out _ _ hF2 (fun hHeld => ?_)
        clear hK K
        try simp only [Act.put, List.setIfInBounds_toArray, List.set_cons_zero, List.set_cons_succ]
        refine wpAnyH_ready (rs := [13, 14]) (by kernel_rfl) (by simp) ?_
        refine AllReadyH.cons rfl (fun K hK => ?_) (AllReadyH.cons rfl (fun K hK => ?_) AllReadyH.nil)
        ·
          obtain ⟨w3_, hY3⟩ : ∃ Y, Y = World.alloc w2_ (.cells #[.pointer none] 82) := ⟨_, rfl⟩
          have hb3 : Below (World.heap w2_).size w2_ w3_ := by rw [hY3]; exact nwA (nwR _) _
          have hF3 : Below w.heap.size w w3_ := nwT hF2 hb3
          have h3_3 : w3_.heap[(World.heap w2_).size]? = some (.cells #[.pointer none] 82 (0, 0)) := by rw [hY3]; exact heap_alloc_new w2_ _
          go_simp
          rw [← hY3]
          refine hK.out _ _ hF3 (fun hHeld => ?_)
          clear hK K
          try simp only [Act.put, List.setIfInBounds_toArray, List.set_cons_zero, List.set_cons_succ]
          clear hY3
          refine wpAnyH_ready (rs := [14]) (by kernel_rfl) (by simp) ?_
          refine AllReadyH.cons rfl (fun K hK => ?_) AllReadyH.nil
          obtain ⟨w4_, hY4⟩ : ∃ Y, Y = World.alloc w3_ (.cells #[.pointer none] 82) := ⟨_, rfl⟩
          have hb4 : Below (World.heap w3_).size w3_ w4_ := by rw [hY4]; exact nwA (nwR _) _
          have hF4 : Below w.heap.size w w4_ := nwT hF3 hb4
          have h3_4 := (hb4.block _ (Array.getElem?_eq_some_iff.1 h3_3).1).trans h3_3
          have h4_4 : w4_.heap[(World.heap w3_).size]? = some (.cells #[.pointer none] 82 (0, 0)) := by rw [hY4]; exact heap_alloc_new w3_ _
          go_simp
          rw [← hY4]
          refine hK.out _ _ hF4 (fun hHeld => ?_)
          clear hK K
          try simp only [Act.put, List.setIfInBounds_toArray, List.set_cons_zero, List.set_cons_succ]
          clear hY4
          have HLE3 : w.heap.size ≤ (World.heap w2_).size := by first | exact (hF2).size | exact Nat.le_refl _
          have HLE4 : w.heap.size ≤ (World.heap w3_).size := by first | exact (hF3).size | exact Nat.le_refl _
          have HNE : (World.heap w2_).size ≠ (World.heap w3_).size := by have := (Array.getElem?_eq_some_iff.1 h3_3).1; omega
          refine wpAnyH_ready (rs := [15]) (by kernel_rfl) (by simp) ?_
          refine AllReadyH.cons rfl (fun K hK => ?_) AllReadyH.nil
          obtain ⟨w5_, hY5⟩ : ∃ Y, Y = World.setCell w4_ ⟨(World.heap w2_).size, 0, none⟩ (.pointer (some ⟨b, k * 5, none⟩)) := ⟨_, rfl⟩
          have hF5 : Below w.heap.size w w5_ := by rw [hY5]; exact hF4.setCell (p := ⟨(World.heap w2_).size, 0, none⟩) (by show w.heap.size ≤ (World.heap w2_).size; have := HLE3; omega) _
          have h3_5 : w5_.heap[(World.heap w2_).size]? = some (.cells #[.pointer (some ⟨b, k * 5, none⟩)] 82 (0, 0)) := by rw [hY5]; exact heap_setCell_same w4_ _ 0 _ 82 _ h3_4
          have h4_5 : w5_.heap[(World.heap w3_).size]? = some (.cells #[.pointer none] 82 (0, 0)) := by rw [hY5]; exact (heap_setCell_other w4_ ⟨(World.heap w2_).size, 0, none⟩ (World.heap w3_).size _ (by show (World.heap w3_).size ≠ (World.heap w2_).size; have := HNE; omega)).trans h4_4
          obtain ⟨c5, cf5⟩ := one h3_4
          go_simp
          rw [← hY5]
          refine hK.out _ _ hF5 (fun hHeld => ?_)
          clear hK K
          try simp only [Act.put, List.setIfInBounds_toArray, List.set_cons_zero, List.set_cons_succ]
          clear hY5 c5 cf5
          refine wpAnyH_ready (rs := [16]) (by kernel_rfl) (by simp) ?_
          refine AllReadyH.cons rfl (fun K hK => ?_) AllReadyH.nil
          obtain ⟨w6_, hY6⟩ : ∃ Y, Y = World.setCell w5_ ⟨(World.heap w3_).size, 0, none⟩ (.pointer (some ⟨b, q * 5, none⟩)) := ⟨_, rfl⟩
          have hF6 : Below w.heap.size w w6_ := by rw [hY6]; exact hF5.setCell (p := ⟨(World.heap w3_).size, 0, none⟩) (by show w.heap.size ≤ (World.heap w3_).size; have := HLE4; omega) _
          have h4_6 : w6_.heap[(World.heap w3_).size]? = some (.cells #[.pointer (some ⟨b, q * 5, none⟩)] 82 (0, 0)) := by rw [hY6]; exact heap_setCell_same w5_ _ 0 _ 82 _ h4_5
          have h3_6 : w6_.heap[(World.heap w2_).size]? = some (.cells #[.pointer (some ⟨b, k * 5, none⟩)] 82 (0, 0)) := by rw [hY6]; exact (heap_setCell_other w5_ ⟨(World.heap w3_).size, 0, none⟩ (World.heap w2_).size _ (by show (World.heap w2_).size ≠ (World.heap w3_).size; have := HNE; omega)).trans h3_5
          obtain ⟨c6, cf6⟩ := one h4_5
          go_simp
          rw [← hY6]
          refine hK.out _ _ hF6 (fun hHeld => ?_)
          clear hK K
          try simp only [Act.put, List.setIfInBounds_toArray, List.set_cons_zero, List.set_cons_succ]
          clear hY6 c6 cf6
          refine wpAnyH_done (by kernel_rfl) ?_ _
          go_wp2_with fail
          go_meet
          exact ⟨(World.heap w2_).size, (World.heap w3_).size, rfl, rfl, hF6, h3_6, h4_6⟩
        ·
          obtain ⟨w7_, hY7⟩ : ∃ Y, Y = World.alloc w2_ (.cells #[.pointer none] 82) := ⟨_, rfl⟩
          have hb7 : Below (World.heap w2_).size w2_ w7_ := by rw [hY7]; exact nwA (nwR _) _
          have hF7 : Below w.heap.size w w7_ := nwT hF2 hb7
          have h4_7 : w7_.heap[(World.heap w2_).size]? = some (.cells #[.pointer none] 82 (0, 0)) := by rw [hY7]; exact heap_alloc_new w2_ _
          go_simp
          rw [← hY7]
          refine hK.out _ _ hF7 (fun hHeld => ?_)
          clear hK K
          try simp only [Act.put, List.setIfInBounds_toArray, List.set_cons_zero, List.set_cons_succ]
          clear hY7
          refine wpAnyH_ready (rs := [13]) (by kernel_rfl) (by simp) ?_
          refine AllReadyH.cons rfl (fun K hK => ?_) AllReadyH.nil
          obtain ⟨w8_, hY8⟩ : ∃ Y, Y = World.alloc w7_ (.cells #[.pointer none] 82) := ⟨_, rfl⟩
          have hb8 : Below (World.heap w7_).size w7_ w8_ := by rw [hY8]; exact nwA (nwR _) _
          have hF8 : Below w.heap.size w w8_ := nwT hF7 hb8
          have h4_8 := (hb8.block _ (Array.getElem?_eq_some_iff.1 h4_7).1).trans h4_7
          have h3_8 : w8_.heap[(World.heap w7_).size]? = some (.cells #[.pointer none] 82 (0, 0)) := by rw [hY8]; exact heap_alloc_new w7_ _
          go_simp
          rw [← hY8]
          refine hK.out _ _ hF8 (fun hHeld => ?_)
          clear hK K
          try simp only [Act.put, List.setIfInBounds_toArray, List.set_cons_zero, List.set_cons_succ]
          clear hY8
          have HLE3 : w.heap.size ≤ (World.heap w7_).size := by first | exact (hF7).size | exact Nat.le_refl _
          have HLE4 : w.heap.size ≤ (World.heap w2_).size := by first | exact (hF2).size | exact Nat.le_refl _
          have HNE : (World.heap w7_).size ≠ (World.heap w2_).size := by have := (Array.getElem?_eq_some_iff.1 h4_7).1; omega
          refine wpAnyH_ready (rs := [15]) (by kernel_rfl) (by simp) ?_
          refine AllReadyH.cons rfl (fun K hK => ?_) AllReadyH.nil
          obtain ⟨w9_, hY9⟩ : ∃ Y, Y = World.setCell w8_ ⟨(World.heap w7_).size, 0, none⟩ (.pointer (some ⟨b, k * 5, none⟩)) := ⟨_, rfl⟩
          have hF9 : Below w.heap.size w w9_ := by rw [hY9]; exact hF8.setCell (p := ⟨(World.heap w7_).size, 0, none⟩) (by show w.heap.size ≤ (World.heap w7_).size; have := HLE3; omega) _
          have h3_9 : w9_.heap[(World.heap w7_).size]? = some (.cells #[.pointer (some ⟨b, k * 5, none⟩)] 82 (0, 0)) := by rw [hY9]; exact heap_setCell_same w8_ _ 0 _ 82 _ h3_8
          have h4_9 : w9_.heap[(World.heap w2_).size]? = some (.cells #[.pointer none] 82 (0, 0)) := by rw [hY9]; exact (heap_setCell_other w8_ ⟨(World.heap w7_).size, 0, none⟩ (World.heap w2_).size _ (by show (World.heap w2_).size ≠ (World.heap w7_).size; have := HNE; omega)).trans h4_8
          obtain ⟨c9, cf9⟩ := one h3_8
          go_simp
          rw [← hY9]
          refine hK.out _ _ hF9 (fun hHeld => ?_)
          clear hK K
          try simp only [Act.put, List.setIfInBounds_toArray, List.set_cons_zero, List.set_cons_succ]
          clear hY9 c9 cf9
          refine wpAnyH_ready (rs := [16]) (by kernel_rfl) (by simp) ?_
          refine AllReadyH.cons rfl (fun K hK => ?_) AllReadyH.nil
          obtain ⟨w10_, hY10⟩ : ∃ Y, Y = World.setCell w9_ ⟨(World.heap w2_).size, 0, none⟩ (.pointer (some ⟨b, q * 5, none⟩)) := ⟨_, rfl⟩
          have hF10 : Below w.heap.size w w10_ := by rw [hY10]; exact hF9.setCell (p := ⟨(World.heap w2_).size, 0, none⟩) (by show w.heap.size ≤ (World.heap w2_).size; have := HLE4; omega) _
          have h4_10 : w10_.heap[(World.heap w2_).size]? = some (.cells #[.pointer (some ⟨b, q * 5, none⟩)] 82 (0, 0)) := by rw [hY10]; exact heap_setCell_same w9_ _ 0 _ 82 _ h4_9
          have h3_10 : w10_.heap[(World.heap w7_).size]? = some (.cells #[.pointer (some ⟨b, k * 5, none⟩)] 82 (0, 0)) := by rw [hY10]; exact (heap_setCell_other w9_ ⟨(World.heap w2_).size, 0, none⟩ (World.heap w7_).size _ (by show (World.heap w7_).size ≠ (World.heap w2_).size; have := HNE; omega)).trans h3_9
          obtain ⟨c10, cf10⟩ := one h4_9
          go_simp
          rw [← hY10]
          refine hK.out _ _ hF10 (fun hHeld => ?_)
          clear hK K
          try simp only [Act.put, List.setIfInBounds_toArray, List.set_cons_zero, List.set_cons_succ]
          clear hY10 c10 cf10
          refine wpAnyH_done (by kernel_rfl) ?_ _
          go_wp2_with fail
          go_meet
          exact ⟨(World.heap w7_).size, (World.heap w2_).size, rfl, rfl, hF10, h3_10, h4_10⟩
      ·
        obtain ⟨w11_, hY11⟩ : ∃ Y, Y = World.alloc w1_ (.cells #[.pointer none] 82) := ⟨_, rfl⟩
        have hb11 : Below (World.heap w1_).size w1_ w11_ := by rw [hY11]; exact nwA (nwR _) _
        have hF11 : Below w.heap.size w w11_ := nwT hF1 hb11
        have h3_11 : w11_.heap[(World.heap w1_).size]? = some (.cells #[.pointer none] 82 (0, 0)) := by rw [hY11]; exact heap_alloc_new w1_ _
        go_simp
        rw [← hY11]
        refine hK.out _ _ hF11 (fun hHeld => ?_)
        clear hK K
        try simp only [Act.put, List.setIfInBounds_toArray, List.set_cons_zero, List.set_cons_succ]
        clear hY11
        refine wpAnyH_ready (rs := [12, 14]) (by kernel_rfl) (by simp) ?_
        refine AllReadyH.cons rfl (fun K hK => ?_) (AllReadyH.cons rfl (fun K hK => ?_) AllReadyH.nil)
        ·
          go_simp
          go_at_call 50
          refine (HA2.out _).mono ?_
          rintro e w12_ ⟨rfl, hb12⟩
          have hF12 : Below w.heap.size w w12_ := nwT hF11 hb12
          have h3_12 := (hb12.block _ (Array.getElem?_eq_some_iff.1 h3_11).1).trans h3_11
          refine hK.out _ _ hF12 (fun hHeld => ?_)
          clear hK K
          try simp only [Act.put, List.setIfInBounds_toArray, List.set_cons_zero, List.set_cons_succ]
          refine wpAnyH_ready (rs := [14]) (by kernel_rfl) (by simp) ?_
          refine AllReadyH.cons rfl (fun K hK => ?_) AllReadyH.nil
          obtain ⟨w13_, hY13⟩ : ∃ Y, Y = World.alloc w12_ (.cells #[.pointer none] 82) := ⟨_, rfl⟩
          have hb13 : Below (World.heap w12_).size w12_ w13_ := by rw [hY13]; exact nwA (nwR _) _
          have hF13 : Below w.heap.size w w13_ := nwT hF12 hb13
          have h3_13 := (hb13.block _ (Array.getElem?_eq_some_iff.1 h3_12).1).trans h3_12
          have h4_13 : w13_.heap[(World.heap w12_).size]? = some (.cells #[.pointer none] 82 (0, 0)) := by rw [hY13]; exact heap_alloc_new w12_ _
          go_simp
          rw [← hY13]
          refine hK.out _ _ hF13 (fun hHeld => ?_)
          clear hK K
          try simp only [Act.put, List.setIfInBounds_toArray, List.set_cons_zero, List.set_cons_succ]
          clear hY13
          have HLE3 : w.heap.size ≤ (World.heap w1_).size := by first | exact (hF1).size | exact Nat.le_refl _
          have HLE4 : w.heap.size ≤ (World.heap w12_).size := by first | exact (hF12).size | exact Nat.le_refl _
          have HNE : (World.heap w1_).size ≠ (World.heap w12_).size := by have := (Array.getElem?_eq_some_iff.1 h3_12).1; omega
          refine wpAnyH_ready (rs := [15]) (by kernel_rfl) (by simp) ?_
          refine AllReadyH.cons rfl (fun K hK => ?_) AllReadyH.nil
          obtain ⟨w14_, hY14⟩ : ∃ Y, Y = World.setCell w13_ ⟨(World.heap w1_).size, 0, none⟩ (.pointer (some ⟨b, k * 5, none⟩)) := ⟨_, rfl⟩
          have hF14 : Below w.heap.size w w14_ := by rw [hY14]; exact hF13.setCell (p := ⟨(World.heap w1_).size, 0, none⟩) (by show w.heap.size ≤ (World.heap w1_).size; have := HLE3; omega) _
          have h3_14 : w14_.heap[(World.heap w1_).size]? = some (.cells #[.pointer (some ⟨b, k * 5, none⟩)] 82 (0, 0)) := by rw [hY14]; exact heap_setCell_same w13_ _ 0 _ 82 _ h3_13
          have h4_14 : w14_.heap[(World.heap w12_).size]? = some (.cells #[.pointer none] 82 (0, 0)) := by rw [hY14]; exact (heap_setCell_other w13_ ⟨(World.heap w1_).size, 0, none⟩ (World.heap w12_).size _ (by show (World.heap w12_).size ≠ (World.heap w1_).size; have := HNE; omega)).trans h4_13
          obtain ⟨c14, cf14⟩ := one h3_13
          go_simp
          rw [← hY14]
          refine hK.out _ _ hF14 (fun hHeld => ?_)
          clear hK K
          try simp only [Act.put, List.setIfInBounds_toArray, List.set_cons_zero, List.set_cons_succ]
          clear hY14 c14 cf14
          refine wpAnyH_ready (rs := [16]) (by kernel_rfl) (by simp) ?_
          refine AllReadyH.cons rfl (fun K hK => ?_) AllReadyH.nil
          obtain ⟨w15_, hY15⟩ : ∃ Y, Y = World.setCell w14_ ⟨(World.heap w12_).size, 0, none⟩ (.pointer (some ⟨b, q * 5, none⟩)) := ⟨_, rfl⟩
          have hF15 : Below w.heap.size w w15_ := by rw [hY15]; exact hF14.setCell (p := ⟨(World.heap w12_).size, 0, none⟩) (by show w.heap.size ≤ (World.heap w12_).size; have := HLE4; omega) _
          have h4_15 : w15_.heap[(World.heap w12_).size]? = some (.cells #[.pointer (some ⟨b, q * 5, none⟩)] 82 (0, 0)) := by rw [hY15]; exact heap_setCell_same w14_ _ 0 _ 82 _ h4_14
          have h3_15 : w15_.heap[(World.heap w1_).size]? = some (.cells #[.pointer (some ⟨b, k * 5, none⟩)] 82 (0, 0)) := by rw [hY15]; exact (heap_setCell_other w14_ ⟨(World.heap w12_).size, 0, none⟩ (World.heap w1_).size _ (by show (World.heap w1_).size ≠ (World.heap w12_).size; have := HNE; omega)).trans h3_14
          obtain ⟨c15, cf15⟩ := one h4_14
          go_simp
          rw [← hY15]
          refine hK.out _ _ hF15 (fun hHeld => ?_)
          clear hK K
          try simp only [Act.put, List.setIfInBounds_toArray, List.set_cons_zero, List.set_cons_succ]
          clear hY15 c15 cf15
          refine wpAnyH_done (by kernel_rfl) ?_ _
          go_wp2_with fail
          go_meet
          exact ⟨(World.heap w1_).size, (World.heap w12_).size, rfl, rfl, hF15, h3_15, h4_15⟩
        ·
          obtain ⟨w16_, hY16⟩ : ∃ Y, Y = World.alloc w11_ (.cells #[.pointer none] 82) := ⟨_, rfl⟩
          have hb16 : Below (World.heap w11_).size w11_ w16_ := by rw [hY16]; exact nwA (nwR _) _
          have hF16 : Below w.heap.size w w16_ := nwT hF11 hb16
          have h3_16 := (hb16.block _ (Array.getElem?_eq_some_iff.1 h3_11).1).trans h3_11
          have h4_16 : w16_.heap[(World.heap w11_).size]? = some (.cells #[.pointer none] 82 (0, 0)) := by rw [hY16]; exact heap_alloc_new w11_ _
          go_simp
          rw [← hY16]
          refine hK.out _ _ hF16 (fun hHeld => ?_)
          clear hK K
          try simp only [Act.put, List.setIfInBounds_toArray, List.set_cons_zero, List.set_cons_succ]
          clear hY16
          refine wpAnyH_ready (rs := [12]) (by kernel_rfl) (by simp) ?_
          refine AllReadyH.cons rfl (fun K hK => ?_) AllReadyH.nil
          go_simp
          go_at_call 50
          refine (HA2.out _).mono ?_
          rintro e w17_ ⟨rfl, hb17⟩
          have hF17 : Below w.heap.size w w17_ := nwT hF16 hb17
          have h3_17 := (hb17.block _ (Array.getElem?_eq_some_iff.1 h3_16).1).trans h3_16
          have h4_17 := (hb17.block _ (Array.getElem?_eq_some_iff.1 h4_16).1).trans h4_16
          refine hK.out _ _ hF17 (fun hHeld => ?_)
          clear hK K
          try simp only [Act.put, List.setIfInBounds_toArray, List.set_cons_zero, List.set_cons_succ]
          have HLE3 : w.heap.size ≤ (World.heap w1_).size := by first | exact (hF1).size | exact Nat.le_refl _
          have HLE4 : w.heap.size ≤ (World.heap w11_).size := by first | exact (hF11).size | exact Nat.le_refl _
          have HNE : (World.heap w1_).size ≠ (World.heap w11_).size := by have := (Array.getElem?_eq_some_iff.1 h3_11).1; omega
          refine wpAnyH_ready (rs := [15]) (by kernel_rfl) (by simp) ?_
          refine AllReadyH.cons rfl (fun K hK => ?_) AllReadyH.nil
          obtain ⟨w18_, hY18⟩ : ∃ Y, Y = World.setCell w17_ ⟨(World.heap w1_).size, 0, none⟩ (.pointer (some ⟨b, k * 5, none⟩)) := ⟨_, rfl⟩
          have hF18 : Below w.heap.size w w18_ := by rw [hY18]; exact hF17.setCell (p := ⟨(World.heap w1_).size, 0, none⟩) (by show w.heap.size ≤ (World.heap w1_).size; have := HLE3; omega) _
          have h3_18 : w18_.heap[(World.heap w1_).size]? = some (.cells #[.pointer (some ⟨b, k * 5, none⟩)] 82 (0, 0)) := by rw [hY18]; exact heap_setCell_same w17_ _ 0 _ 82 _ h3_17
          have h4_18 : w18_.heap[(World.heap w11_).size]? = some (.cells #[.pointer none] 82 (0, 0)) := by rw [hY18]; exact (heap_setCell_other w17_ ⟨(World.heap w1_).size, 0, none⟩ (World.heap w11_).size _ (by show (World.heap w11_).size ≠ (World.heap w1_).size; have := HNE; omega)).trans h4_17
          obtain ⟨c18, cf18⟩ := one h3_17
          go_simp
          rw [← hY18]
          refine hK.out _ _ hF18 (fun hHeld => ?_)
          clear hK K
          try simp only [Act.put, List.setIfInBounds_toArray, List.set_cons_zero, List.set_cons_succ]
          clear hY18 c18 cf18
          refine wpAnyH_ready (rs := [16]) (by kernel_rfl) (by simp) ?_
          refine AllReadyH.cons rfl (fun K hK => ?_) AllReadyH.nil
          obtain ⟨w19_, hY19⟩ : ∃ Y, Y = World.setCell w18_ ⟨(World.heap w11_).size, 0, none⟩ (.pointer (some ⟨b, q * 5, none⟩)) := ⟨_, rfl⟩
          have hF19 : Below w.heap.size w w19_ := by rw [hY19]; exact hF18.setCell (p := ⟨(World.heap w11_).size, 0, none⟩) (by show w.heap.size ≤ (World.heap w11_).size; have := HLE4; omega) _
          have h4_19 : w19_.heap[(World.heap w11_).size]? = some (.cells #[.pointer (some ⟨b, q * 5, none⟩)] 82 (0, 0)) := by rw [hY19]; exact heap_setCell_same w18_ _ 0 _ 82 _ h4_18
          have h3_19 : w19_.heap[(World.heap w1_).size]? = some (.cells #[.pointer (some ⟨b, k * 5, none⟩)] 82 (0, 0)) := by rw [hY19]; exact (heap_setCell_other w18_ ⟨(World.heap w11_).size, 0, none⟩ (World.heap w1_).size _ (by show (World.heap w1_).size ≠ (World.heap w11_).size; have := HNE; omega)).trans h3_18
          obtain ⟨c19, cf19⟩ := one h4_18
          go_simp
          rw [← hY19]
          refine hK.out _ _ hF19 (fun hHeld => ?_)
          clear hK K
          try simp only [Act.put, List.setIfInBounds_toArray, List.set_cons_zero, List.set_cons_succ]
          clear hY19 c19 cf19
          refine wpAnyH_done (by kernel_rfl) ?_ _
          go_wp2_with fail
          go_meet
          exact ⟨(World.heap w1_).size, (World.heap w11_).size, rfl, rfl, hF19, h3_19, h4_19⟩
      ·
        obtain ⟨w20_, hY20⟩ : ∃ Y, Y = World.alloc w1_ (.cells #[.pointer none] 82) := ⟨_, rfl⟩
        have hb20 : Below (World.heap w1_).size w1_ w20_ := by rw [hY20]; exact nwA (nwR _) _
        have hF20 : Below w.heap.size w w20_ := nwT hF1 hb20
        have h4_20 : w20_.heap[(World.heap w1_).size]? = some (.cells #[.pointer none] 82 (0, 0)) := by rw [hY20]; exact heap_alloc_new w1_ _
        go_simp
        rw [← hY20]
        refine hK.out _ _ hF20 (fun hHeld => ?_)
        clear hK K
        try simp only [Act.put, List.setIfInBounds_toArray, List.set_cons_zero, List.set_cons_succ]
        clear hY20
        refine wpAnyH_ready (rs := [12, 13]) (by kernel_rfl) (by simp) ?_
        refine AllReadyH.cons rfl (fun K hK => ?_) (AllReadyH.cons rfl (fun K hK => ?_) AllReadyH.nil)
        ·
          go_simp
          go_at_call 50
          refine (HA2.out _).mono ?_
          rintro e w21_ ⟨rfl, hb21⟩
          have hF21 : Below w.heap.size w w21_ := nwT hF20 hb21
          have h4_21 := (hb21.block _ (Array.getElem?_eq_some_iff.1 h4_20).1).trans h4_20
          refine hK.out _ _ hF21 (fun hHeld => ?_)
          clear hK K
          try simp only [Act.put, List.setIfInBounds_toArray, List.set_cons_zero, List.set_cons_succ]
          refine wpAnyH_ready (rs := [13]) (by kernel_rfl) (by simp) ?_
          refine AllReadyH.cons rfl (fun K hK => ?_) AllReadyH.nil
          obtain ⟨w22_, hY22⟩ : ∃ Y, Y = World.alloc w21_ (.cells #[.pointer none] 82) := ⟨_, rfl⟩
          have hb22 : Below (World.heap w21_).size w21_ w22_ := by rw [hY22]; exact nwA (nwR _) _
          have hF22 : Below w.heap.size w w22_ := nwT hF21 hb22
          have h4_22 := (hb22.block _ (Array.getElem?_eq_some_iff.1 h4_21).1).trans h4_21
          have h3_22 : w22_.heap[(World.heap w21_).size]? = some (.cells #[.pointer none] 82 (0, 0)) := by rw [hY22]; exact heap_alloc_new w21_ _
          go_simp
          rw [← hY22]
          refine hK.out _ _ hF22 (fun hHeld => ?_)
          clear hK K
          try simp only [Act.put, List.setIfInBounds_toArray, List.set_cons_zero, List.set_cons_succ]
          clear hY22
          have HLE3 : w.heap.size ≤ (World.heap w21_).size := by first | exact (hF21).size | exact Nat.le_refl _
          have HLE4 : w.heap.size ≤ (World.heap w1_).size := by first | exact (hF1).size | exact Nat.le_refl _
          have HNE : (World.heap w21_).size ≠ (World.heap w1_).size := by have := (Array.getElem?_eq_some_iff.1 h4_21).1; omega
          refine wpAnyH_ready (rs := [15]) (by kernel_rfl) (by simp) ?_
          refine AllReadyH.cons rfl (fun K hK => ?_) AllReadyH.nil
          obtain ⟨w23_, hY23⟩ : ∃ Y, Y = World.setCell w22_ ⟨(World.heap w21_).size, 0, none⟩ (.pointer (some ⟨b, k * 5, none⟩)) := ⟨_, rfl⟩
          have hF23 : Below w.heap.size w w23_ := by rw [hY23]; exact hF22.setCell (p := ⟨(World.heap w21_).size, 0, none⟩) (by show w.heap.size ≤ (World.heap w21_).size; have := HLE3; omega) _
          have h3_23 : w23_.heap[(World.heap w21_).size]? = some (.cells #[.pointer (some ⟨b, k * 5, none⟩)] 82 (0, 0)) := by rw [hY23]; exact heap_setCell_same w22_ _ 0 _ 82 _ h3_22
          have h4_23 : w23_.heap[(World.heap w1_).size]? = some (.cells #[.pointer none] 82 (0, 0)) := by rw [hY23]; exact (heap_setCell_other w22_ ⟨(World.heap w21_).size, 0, none⟩ (World.heap w1_).size _ (by show (World.heap w1_).size ≠ (World.heap w21_).size; have := HNE; omega)).trans h4_22
          obtain ⟨c23, cf23⟩ := one h3_22
          go_simp
          rw [← hY23]
          refine hK.out _ _ hF23 (fun hHeld => ?_)
          clear hK K
          try simp only [Act.put, List.setIfInBounds_toArray, List.set_cons_zero, List.set_cons_succ]
          clear hY23 c23 cf23
          refine wpAnyH_ready (rs := [16]) (by kernel_rfl) (by simp) ?_
          refine AllReadyH.cons rfl (fun K hK => ?_) AllReadyH.nil
          obtain ⟨w24_, hY24⟩ : ∃ Y, Y = World.setCell w23_ ⟨(World.heap w1_).size, 0, none⟩ (.pointer (some ⟨b, q * 5, none⟩)) := ⟨_, rfl⟩
          have hF24 : Below w.heap.size w w24_ := by rw [hY24]; exact hF23.setCell (p := ⟨(World.heap w1_).size, 0, none⟩) (by show w.heap.size ≤ (World.heap w1_).size; have := HLE4; omega) _
          have h4_24 : w24_.heap[(World.heap w1_).size]? = some (.cells #[.pointer (some ⟨b, q * 5, none⟩)] 82 (0, 0)) := by rw [hY24]; exact heap_setCell_same w23_ _ 0 _ 82 _ h4_23
          have h3_24 : w24_.heap[(World.heap w21_).size]? = some (.cells #[.pointer (some ⟨b, k * 5, none⟩)] 82 (0, 0)) := by rw [hY24]; exact (heap_setCell_other w23_ ⟨(World.heap w1_).size, 0, none⟩ (World.heap w21_).size _ (by show (World.heap w21_).size ≠ (World.heap w1_).size; have := HNE; omega)).trans h3_23
          obtain ⟨c24, cf24⟩ := one h4_23
          go_simp
          rw [← hY24]
          refine hK.out _ _ hF24 (fun hHeld => ?_)
          clear hK K
          try simp only [Act.put, List.setIfInBounds_toArray, List.set_cons_zero, List.set_cons_succ]
          clear hY24 c24 cf24
          refine wpAnyH_done (by kernel_rfl) ?_ _
          go_wp2_with fail
          go_meet
          exact ⟨(World.heap w21_).size, (World.heap w1_).size, rfl, rfl, hF24, h3_24, h4_24⟩
        ·
          obtain ⟨w25_, hY25⟩ : ∃ Y, Y = World.alloc w20_ (.cells #[.pointer none] 82) := ⟨_, rfl⟩
          have hb25 : Below (World.heap w20_).size w20_ w25_ := by rw [hY25]; exact nwA (nwR _) _
          have hF25 : Below w.heap.size w w25_ := nwT hF20 hb25
          have h4_25 := (hb25.block _ (Array.getElem?_eq_some_iff.1 h4_20).1).trans h4_20
          have h3_25 : w25_.heap[(World.heap w20_).size]? = some (.cells #[.pointer none] 82 (0, 0)) := by rw [hY25]; exact heap_alloc_new w20_ _
          go_simp
          rw [← hY25]
          refine hK.out _ _ hF25 (fun hHeld => ?_)
          clear hK K
          try simp only [Act.put, List.setIfInBounds_toArray, List.set_cons_zero, List.set_cons_succ]
          clear hY25
          refine wpAnyH_ready (rs := [12]) (by kernel_rfl) (by simp) ?_
          refine AllReadyH.cons rfl (fun K hK => ?_) AllReadyH.nil
          go_simp
          go_at_call 50
          refine (HA2.out _).mono ?_
          rintro e w26_ ⟨rfl, hb26⟩
          have hF26 : Below w.heap.size w w26_ := nwT hF25 hb26
          have h4_26 := (hb26.block _ (Array.getElem?_eq_some_iff.1 h4_25).1).trans h4_25
          have h3_26 := (hb26.block _ (Array.getElem?_eq_some_iff.1 h3_25).1).trans h3_25
          refine hK.out _ _ hF26 (fun hHeld => ?_)
          clear hK K
          try simp only [Act.put, List.setIfInBounds_toArray, List.set_cons_zero, List.set_cons_succ]
          have HLE3 : w.heap.size ≤ (World.heap w20_).size := by first | exact (hF20).size | exact Nat.le_refl _
          have HLE4 : w.heap.size ≤ (World.heap w1_).size := by first | exact (hF1).size | exact Nat.le_refl _
          have HNE : (World.heap w20_).size ≠ (World.heap w1_).size := by have := (Array.getElem?_eq_some_iff.1 h4_20).1; omega
          refine wpAnyH_ready (rs := [15]) (by kernel_rfl) (by simp) ?_
          refine AllReadyH.cons rfl (fun K hK => ?_) AllReadyH.nil
          obtain ⟨w27_, hY27⟩ : ∃ Y, Y = World.setCell w26_ ⟨(World.heap w20_).size, 0, none⟩ (.pointer (some ⟨b, k * 5, none⟩)) := ⟨_, rfl⟩
          have hF27 : Below w.heap.size w w27_ := by rw [hY27]; exact hF26.setCell (p := ⟨(World.heap w20_).size, 0, none⟩) (by show w.heap.size ≤ (World.heap w20_).size; have := HLE3; omega) _
          have h3_27 : w27_.heap[(World.heap w20_).size]? = some (.cells #[.pointer (some ⟨b, k * 5, none⟩)] 82 (0, 0)) := by rw [hY27]; exact heap_setCell_same w26_ _ 0 _ 82 _ h3_26
          have h4_27 : w27_.heap[(World.heap w1_).size]? = some (.cells #[.pointer none] 82 (0, 0)) := by rw [hY27]; exact (heap_setCell_other w26_ ⟨(World.heap w20_).size, 0, none⟩ (World.heap w1_).size _ (by show (World.heap w1_).size ≠ (World.heap w20_).size; have := HNE; omega)).trans h4_26
          obtain ⟨c27, cf27⟩ := one h3_26
          go_simp
          rw [← hY27]
          refine hK.out _ _ hF27 (fun hHeld => ?_)
          clear hK K
          try simp only [Act.put, List.setIfInBounds_toArray, List.set_cons_zero, List.set_cons_succ]
          clear hY27 c27 cf27
          refine wpAnyH_ready (rs := [16]) (by kernel_rfl) (by simp) ?_
          refine AllReadyH.cons rfl (fun K hK => ?_) AllReadyH.nil
          obtain ⟨w28_, hY28⟩ : ∃ Y, Y = World.setCell w27_ ⟨(World.heap w1_).size, 0, none⟩ (.pointer (some ⟨b, q * 5, none⟩)) := ⟨_, rfl⟩
          have hF28 : Below w.heap.size w w28_ := by rw [hY28]; exact hF27.setCell (p := ⟨(World.heap w1_).size, 0, none⟩) (by show w.heap.size ≤ (World.heap w1_).size; have := HLE4; omega) _
          have h4_28 : w28_.heap[(World.heap w1_).size]? = some (.cells #[.pointer (some ⟨b, q * 5, none⟩)] 82 (0, 0)) := by rw [hY28]; exact heap_setCell_same w27_ _ 0 _ 82 _ h4_27
          have h3_28 : w28_.heap[(World.heap w20_).size]? = some (.cells #[.pointer (some ⟨b, k * 5, none⟩)] 82 (0, 0)) := by rw [hY28]; exact (heap_setCell_other w27_ ⟨(World.heap w1_).size, 0, none⟩ (World.heap w20_).size _ (by show (World.heap w20_).size ≠ (World.heap w1_).size; have := HNE; omega)).trans h3_27
          obtain ⟨c28, cf28⟩ := one h4_27
          go_simp
          rw [← hY28]
          refine hK.out _ _ hF28 (fun hHeld => ?_)
          clear hK K
          try simp only [Act.put, List.setIfInBounds_toArray, List.set_cons_zero, List.set_cons_succ]
          clear hY28 c28 cf28
          refine wpAnyH_done (by kernel_rfl) ?_ _
          go_wp2_with fail
          go_meet
          exact ⟨(World.heap w20_).size, (World.heap w1_).size, rfl, rfl, hF28, h3_28, h4_28⟩
    ·
      obtain ⟨w29_, hY29⟩ : ∃ Y, Y = World.alloc wd (.cells #[.pointer none] 82) := ⟨_, rfl⟩
      have hb29 : Below (World.heap wd).size wd w29_ := by rw [hY29]; exact nwA (nwR _) _
      have hF29 : Below w.heap.size w w29_ := nwT hF0 hb29
      have h3_29 : w29_.heap[(World.heap wd).size]? = some (.cells #[.pointer none] 82 (0, 0)) := by rw [hY29]; exact heap_alloc_new wd _
      go_simp
      rw [← hY29]
      refine hK.out _ _ hF29 (fun hHeld => ?_)
      clear hK K
      try simp only [Act.put, List.setIfInBounds_toArray, List.set_cons_zero, List.set_cons_succ]
      clear hY29
      refine wpAnyH_ready (rs := [6, 14]) (by kernel_rfl) (by simp) ?_
      refine AllReadyH.cons rfl (fun K hK => ?_) (AllReadyH.cons rfl (fun K hK => ?_) AllReadyH.nil)
      ·
        go_simp
        go_at_call 50
        refine (HA1.out _).mono ?_
        rintro e w30_ ⟨rfl, hb30⟩
        have hF30 : Below w.heap.size w w30_ := nwT hF29 hb30
        have h3_30 := (hb30.block _ (Array.getElem?_eq_some_iff.1 h3_29).1).trans h3_29
        refine hK.out _ _ hF30 (fun hHeld => ?_)
        clear hK K
        try simp only [Act.put, List.setIfInBounds_toArray, List.set_cons_zero, List.set_cons_succ]
        refine wpAnyH_ready (rs := [12, 14]) (by kernel_rfl) (by simp) ?_
        refine AllReadyH.cons rfl (fun K hK => ?_) (AllReadyH.cons rfl (fun K hK => ?_) AllReadyH.nil)
        ·
          go_simp
          go_at_call 50
          refine (HA2.out _).mono ?_
          rintro e w31_ ⟨rfl, hb31⟩
          have hF31 : Below w.heap.size w w31_ := nwT hF30 hb31
          have h3_31 := (hb31.block _ (Array.getElem?_eq_some_iff.1 h3_30).1).trans h3_30
          refine hK.out _ _ hF31 (fun hHeld => ?_)
          clear hK K
          try simp only [Act.put, List.setIfInBounds_toArray, List.set_cons_zero, List.set_cons_succ]
          refine wpAnyH_ready (rs := [14]) (by kernel_rfl) (by simp) ?_
          refine AllReadyH.cons rfl (fun K hK => ?_) AllReadyH.nil
          obtain ⟨w32_, hY32⟩ : ∃ Y, Y = World.alloc w31_ (.cells #[.pointer none] 82) := ⟨_, rfl⟩
          have hb32 : Below (World.heap w31_).size w31_ w32_ := by rw [hY32]; exact nwA (nwR _) _
          have hF32 : Below w.heap.size w w32_ := nwT hF31 hb32
          have h3_32 := (hb32.block _ (Array.getElem?_eq_some_iff.1 h3_31).1).trans h3_31
          have h4_32 : w32_.heap[(World.heap w31_).size]? = some (.cells #[.pointer none] 82 (0, 0)) := by rw [hY32]; exact heap_alloc_new w31_ _
          go_simp
          rw [← hY32]
          refine hK.out _ _ hF32 (fun hHeld => ?_)
          clear hK K
          try simp only [Act.put, List.setIfInBounds_toArray, List.set_cons_zero, List.set_cons_succ]
          clear hY32
          have HLE3 : w.heap.size ≤ (World.heap wd).size := by first | exact (hF0).size | exact Nat.le_refl _
          have HLE4 : w.heap.size ≤ (World.heap w31_).size := by first | exact (hF31).size | exact Nat.le_refl _
          have HNE : (World.heap wd).size ≠ (World.heap w31_).size := by have := (Array.getElem?_eq_some_iff.1 h3_31).1; omega
          refine wpAnyH_ready (rs := [15]) (by kernel_rfl) (by simp) ?_
          refine AllReadyH.cons rfl (fun K hK => ?_) AllReadyH.nil
          obtain ⟨w33_, hY33⟩ : ∃ Y, Y = World.setCell w32_ ⟨(World.heap wd).size, 0, none⟩ (.pointer (some ⟨b, k * 5, none⟩)) := ⟨_, rfl⟩
          have hF33 : Below w.heap.size w w33_ := by rw [hY33]; exact hF32.setCell (p := ⟨(World.heap wd).size, 0, none⟩) (by show w.heap.size ≤ (World.heap wd).size; have := HLE3; omega) _
          have h3_33 : w33_.heap[(World.heap wd).size]? = some (.cells #[.pointer (some ⟨b, k * 5, none⟩)] 82 (0, 0)) := by rw [hY33]; exact heap_setCell_same w32_ _ 0 _ 82 _ h3_32
          have h4_33 : w33_.heap[(World.heap w31_).size]? = some (.cells #[.pointer none] 82 (0, 0)) := by rw [hY33]; exact (heap_setCell_other w32_ ⟨(World.heap wd).size, 0, none⟩ (World.heap w31_).size _ (by show (World.heap w31_).size ≠ (World.heap wd).size; have := HNE; omega)).trans h4_32
          obtain ⟨c33, cf33⟩ := one h3_32
          go_simp
          rw [← hY33]
          refine hK.out _ _ hF33 (fun hHeld => ?_)
          clear hK K
          try simp only [Act.put, List.setIfInBounds_toArray, List.set_cons_zero, List.set_cons_succ]
          clear hY33 c33 cf33
          refine wpAnyH_ready (rs := [16]) (by kernel_rfl) (by simp) ?_
          refine AllReadyH.cons rfl (fun K hK => ?_) AllReadyH.nil
          obtain ⟨w34_, hY34⟩ : ∃ Y, Y = World.setCell w33_ ⟨(World.heap w31_).size, 0, none⟩ (.pointer (some ⟨b, q * 5, none⟩)) := ⟨_, rfl⟩
          have hF34 : Below w.heap.size w w34_ := by rw [hY34]; exact hF33.setCell (p := ⟨(World.heap w31_).size, 0, none⟩) (by show w.heap.size ≤ (World.heap w31_).size; have := HLE4; omega) _
          have h4_34 : w34_.heap[(World.heap w31_).size]? = some (.cells #[.pointer (some ⟨b, q * 5, none⟩)] 82 (0, 0)) := by rw [hY34]; exact heap_setCell_same w33_ _ 0 _ 82 _ h4_33
          have h3_34 : w34_.heap[(World.heap wd).size]? = some (.cells #[.pointer (some ⟨b, k * 5, none⟩)] 82 (0, 0)) := by rw [hY34]; exact (heap_setCell_other w33_ ⟨(World.heap w31_).size, 0, none⟩ (World.heap wd).size _ (by show (World.heap wd).size ≠ (World.heap w31_).size; have := HNE; omega)).trans h3_33
          obtain ⟨c34, cf34⟩ := one h4_33
          go_simp
          rw [← hY34]
          refine hK.out _ _ hF34 (fun hHeld => ?_)
          clear hK K
          try simp only [Act.put, List.setIfInBounds_toArray, List.set_cons_zero, List.set_cons_succ]
          clear hY34 c34 cf34
          refine wpAnyH_done (by kernel_rfl) ?_ _
          go_wp2_with fail
          go_meet
          exact ⟨(World.heap wd).size, (World.heap w31_).size, rfl, rfl, hF34, h3_34, h4_34⟩
        ·
          obtain ⟨w35_, hY35⟩ : ∃ Y, Y = World.alloc w30_ (.cells #[.pointer none] 82) := ⟨_, rfl⟩
          have hb35 : Below (World.heap w30_).size w30_ w35_ := by rw [hY35]; exact nwA (nwR _) _
          have hF35 : Below w.heap.size w w35_ := nwT hF30 hb35
          have h3_35 := (hb35.block _ (Array.getElem?_eq_some_iff.1 h3_30).1).trans h3_30
          have h4_35 : w35_.heap[(World.heap w30_).size]? = some (.cells #[.pointer none] 82 (0, 0)) := by rw [hY35]; exact heap_alloc_new w30_ _
          go_simp
          rw [← hY35]
          refine hK.out _ _ hF35 (fun hHeld => ?_)
          clear hK K
          try simp only [Act.put, List.setIfInBounds_toArray, List.set_cons_zero, List.set_cons_succ]
          clear hY35
          refine wpAnyH_ready (rs := [12]) (by kernel_rfl) (by simp) ?_
          refine AllReadyH.cons rfl (fun K hK => ?_) AllReadyH.nil
          go_simp
          go_at_call 50
          refine (HA2.out _).mono ?_
          rintro e w36_ ⟨rfl, hb36⟩
          have hF36 : Below w.heap.size w w36_ := nwT hF35 hb36
          have h3_36 := (hb36.block _ (Array.getElem?_eq_some_iff.1 h3_35).1).trans h3_35
          have h4_36 := (hb36.block _ (Array.getElem?_eq_some_iff.1 h4_35).1).trans h4_35
          refine hK.out _ _ hF36 (fun hHeld => ?_)
          clear hK K
          try simp only [Act.put, List.setIfInBounds_toArray, List.set_cons_zero, List.set_cons_succ]
          have HLE3 : w.heap.size ≤ (World.heap wd).size := by first | exact (hF0).size | exact Nat.le_refl _
          have HLE4 : w.heap.size ≤ (World.heap w30_).size := by first | exact (hF30).size | exact Nat.le_refl _
          have HNE : (World.heap wd).size ≠ (World.heap w30_).size := by have := (Array.getElem?_eq_some_iff.1 h3_30).1; omega
          refine wpAnyH_ready (rs := [15]) (by kernel_rfl) (by simp) ?_
          refine AllReadyH.cons rfl (fun K hK => ?_) AllReadyH.nil
          obtain ⟨w37_, hY37⟩ : ∃ Y, Y = World.setCell w36_ ⟨(World.heap wd).size, 0, none⟩ (.pointer (some ⟨b, k * 5, none⟩)) := ⟨_, rfl⟩
          have hF37 : Below w.heap.size w w37_ := by rw [hY37]; exact hF36.setCell (p := ⟨(World.heap wd).size, 0, none⟩) (by show w.heap.size ≤ (World.heap wd).size; have := HLE3; omega) _
          have h3_37 : w37_.heap[(World.heap wd).size]? = some (.cells #[.pointer (some ⟨b, k * 5, none⟩)] 82 (0, 0)) := by rw [hY37]; exact heap_setCell_same w36_ _ 0 _ 82 _ h3_36
          have h4_37 : w37_.heap[(World.heap w30_).size]? = some (.cells #[.pointer none] 82 (0, 0)) := by rw [hY37]; exact (heap_setCell_other w36_ ⟨(World.heap wd).size, 0, none⟩ (World.heap w30_).size _ (by show (World.heap w30_).size ≠ (World.heap wd).size; have := HNE; omega)).trans h4_36
          obtain ⟨c37, cf37⟩ := one h3_36
          go_simp
          rw [← hY37]
          refine hK.out _ _ hF37 (fun hHeld => ?_)
          clear hK K
          try simp only [Act.put, List.setIfInBounds_toArray, List.set_cons_zero, List.set_cons_succ]
          clear hY37 c37 cf37
          refine wpAnyH_ready (rs := [16]) (by kernel_rfl) (by simp) ?_
          refine AllReadyH.cons rfl (fun K hK => ?_) AllReadyH.nil
          obtain ⟨w38_, hY38⟩ : ∃ Y, Y = World.setCell w37_ ⟨(World.heap w30_).size, 0, none⟩ (.pointer (some ⟨b, q * 5, none⟩)) := ⟨_, rfl⟩
          have hF38 : Below w.heap.size w w38_ := by rw [hY38]; exact hF37.setCell (p := ⟨(World.heap w30_).size, 0, none⟩) (by show w.heap.size ≤ (World.heap w30_).size; have := HLE4; omega) _
          have h4_38 : w38_.heap[(World.heap w30_).size]? = some (.cells #[.pointer (some ⟨b, q * 5, none⟩)] 82 (0, 0)) := by rw [hY38]; exact heap_setCell_same w37_ _ 0 _ 82 _ h4_37
          have h3_38 : w38_.heap[(World.heap wd).size]? = some (.cells #[.pointer (some ⟨b, k * 5, none⟩)] 82 (0, 0)) := by rw [hY38]; exact (heap_setCell_other w37_ ⟨(World.heap w30_).size, 0, none⟩ (World.heap wd).size _ (by show (World.heap wd).size ≠ (World.heap w30_).size; have := HNE; omega)).trans h3_37
          obtain ⟨c38, cf38⟩ := one h4_37
          go_simp
          rw [← hY38]
          refine hK.out _ _ hF38 (fun hHeld => ?_)
          clear hK K
          try simp only [Act.put, List.setIfInBounds_toArray, List.set_cons_zero, List.set_cons_succ]
          clear hY38 c38 cf38
          refine wpAnyH_done (by kernel_rfl) ?_ _
          go_wp2_with fail
          go_meet
          exact ⟨(World.heap wd).size, (World.heap w30_).size, rfl, rfl, hF38, h3_38, h4_38⟩
      ·
        obtain ⟨w39_, hY39⟩ : ∃ Y, Y = World.alloc w29_ (.cells #[.pointer none] 82) := ⟨_, rfl⟩
        have hb39 : Below (World.heap w29_).size w29_ w39_ := by rw [hY39]; exact nwA (nwR _) _
        have hF39 : Below w.heap.size w w39_ := nwT hF29 hb39
        have h3_39 := (hb39.block _ (Array.getElem?_eq_some_iff.1 h3_29).1).trans h3_29
        have h4_39 : w39_.heap[(World.heap w29_).size]? = some (.cells #[.pointer none] 82 (0, 0)) := by rw [hY39]; exact heap_alloc_new w29_ _
        go_simp
        rw [← hY39]
        refine hK.out _ _ hF39 (fun hHeld => ?_)
        clear hK K
        try simp only [Act.put, List.setIfInBounds_toArray, List.set_cons_zero, List.set_cons_succ]
        clear hY39
        refine wpAnyH_ready (rs := [6]) (by kernel_rfl) (by simp) ?_
        refine AllReadyH.cons rfl (fun K hK => ?_) AllReadyH.nil
        go_simp
        go_at_call 50
        refine (HA1.out _).mono ?_
        rintro e w40_ ⟨rfl, hb40⟩
        have hF40 : Below w.heap.size w w40_ := nwT hF39 hb40
        have h3_40 := (hb40.block _ (Array.getElem?_eq_some_iff.1 h3_39).1).trans h3_39
        have h4_40 := (hb40.block _ (Array.getElem?_eq_some_iff.1 h4_39).1).trans h4_39
        refine hK.out _ _ hF40 (fun hHeld => ?_)
        clear hK K
        try simp only [Act.put, List.setIfInBounds_toArray, List.set_cons_zero, List.set_cons_succ]
        refine wpAnyH_ready (rs := [12]) (by kernel_rfl) (by simp) ?_
        refine AllReadyH.cons rfl (fun K hK => ?_) AllReadyH.nil
        go_simp
        go_at_call 50
        refine (HA2.out _).mono ?_
        rintro e w41_ ⟨rfl, hb41⟩
        have hF41 : Below w.heap.size w w41_ := nwT hF40 hb41
        have h3_41 := (hb41.block _ (Array.getElem?_eq_some_iff.1 h3_40).1).trans h3_40
        have h4_41 := (hb41.block _ (Array.getElem?_eq_some_iff.1 h4_40).1).trans h4_40
        refine hK.out _ _ hF41 (fun hHeld => ?_)
        clear hK K
        try simp only [Act.put, List.setIfInBounds_toArray, List.set_cons_zero, List.set_cons_succ]
        have HLE3 : w.heap.size ≤ (World.heap wd).size := by first | exact (hF0).size | exact Nat.le_refl _
        have HLE4 : w.heap.size ≤ (World.heap w29_).size := by first | exact (hF29).size | exact Nat.le_refl _
        have HNE : (World.heap wd).size ≠ (World.heap w29_).size := by have := (Array.getElem?_eq_some_iff.1 h3_29).1; omega
        refine wpAnyH_ready (rs := [15]) (by kernel_rfl) (by simp) ?_
        refine AllReadyH.cons rfl (fun K hK => ?_) AllReadyH.nil
        obtain ⟨w42_, hY42⟩ : ∃ Y, Y = World.setCell w41_ ⟨(World.heap wd).size, 0, none⟩ (.pointer (some ⟨b, k * 5, none⟩)) := ⟨_, rfl⟩
        have hF42 : Below w.heap.size w w42_ := by rw [hY42]; exact hF41.setCell (p := ⟨(World.heap wd).size, 0, none⟩) (by show w.heap.size ≤ (World.heap wd).size; have := HLE3; omega) _
        have h3_42 : w42_.heap[(World.heap wd).size]? = some (.cells #[.pointer (some ⟨b, k * 5, none⟩)] 82 (0, 0)) := by rw [hY42]; exact heap_setCell_same w41_ _ 0 _ 82 _ h3_41
        have h4_42 : w42_.heap[(World.heap w29_).size]? = some (.cells #[.pointer none] 82 (0, 0)) := by rw [hY42]; exact (heap_setCell_other w41_ ⟨(World.heap wd).size, 0, none⟩ (World.heap w29_).size _ (by show (World.heap w29_).size ≠ (World.heap wd).size; have := HNE; omega)).trans h4_41
        obtain ⟨c42, cf42⟩ := one h3_41
        go_simp
        rw [← hY42]
        refine hK.out _ _ hF42 (fun hHeld => ?_)
        clear hK K
        try simp only [Act.put, List.setIfInBounds_toArray, List.set_cons_zero, List.set_cons_succ]
        clear hY42 c42 cf42
        refine wpAnyH_ready (rs := [16]) (by kernel_rfl) (by simp) ?_
        refine AllReadyH.cons rfl (fun K hK => ?_) AllReadyH.nil
        obtain ⟨w43_, hY43⟩ : ∃ Y, Y = World.setCell w42_ ⟨(World.heap w29_).size, 0, none⟩ (.pointer (some ⟨b, q * 5, none⟩)) := ⟨_, rfl⟩
        have hF43 : Below w.heap.size w w43_ := by rw [hY43]; exact hF42.setCell (p := ⟨(World.heap w29_).size, 0, none⟩) (by show w.heap.size ≤ (World.heap w29_).size; have := HLE4; omega) _
        have h4_43 : w43_.heap[(World.heap w29_).size]? = some (.cells #[.pointer (some ⟨b, q * 5, none⟩)] 82 (0, 0)) := by rw [hY43]; exact heap_setCell_same w42_ _ 0 _ 82 _ h4_42
        have h3_43 : w43_.heap[(World.heap wd).size]? = some (.cells #[.pointer (some ⟨b, k * 5, none⟩)] 82 (0, 0)) := by rw [hY43]; exact (heap_setCell_other w42_ ⟨(World.heap w29_).size, 0, none⟩ (World.heap wd).size _ (by show (World.heap wd).size ≠ (World.heap w29_).size; have := HNE; omega)).trans h3_42
        obtain ⟨c43, cf43⟩ := one h4_42
        go_simp
        rw [← hY43]
        refine hK.out _ _ hF43 (fun hHeld => ?_)
        clear hK K
        try simp only [Act.put, List.setIfInBounds_toArray, List.set_cons_zero, List.set_cons_succ]
        clear hY43 c43 cf43
        refine wpAnyH_done (by kernel_rfl) ?_ _
        go_wp2_with fail
        go_meet
        exact ⟨(World.heap wd).size, (World.heap w29_).size, rfl, rfl, hF43, h3_43, h4_43⟩
    ·
      obtain ⟨w44_, hY44⟩ : ∃ Y, Y = World.alloc wd (.cells #[.pointer none] 82) := ⟨_, rfl⟩
      have hb44 : Below (World.heap wd).size wd w44_ := by rw [hY44]; exact nwA (nwR _) _
      have hF44 : Below w.heap.size w w44_ := nwT hF0 hb44
      have h4_44 : w44_.heap[(World.heap wd).size]? = some (.cells #[.pointer none] 82 (0, 0)) := by rw [hY44]; exact heap_alloc_new wd _
      go_simp
      rw [← hY44]
      refine hK.out _ _ hF44 (fun hHeld => ?_)
      clear hK K
      try simp only [Act.put, List.setIfInBounds_toArray, List.set_cons_zero, List.set_cons_succ]
      clear hY44
      refine wpAnyH_ready (rs := [6, 13]) (by kernel_rfl) (by simp) ?_
      refine AllReadyH.cons rfl (fun K hK => ?_) (AllReadyH.cons rfl (fun K hK => ?_) AllReadyH.nil)
      ·
        go_simp
        go_at_call 50
        refine (HA1.out _).mono ?_
        rintro e w45_ ⟨rfl, hb45⟩
        have hF45 : Below w.heap.size w w45_ := nwT hF44 hb45
        have h4_45 := (hb45.block _ (Array.getElem?_eq_some_iff.1 h4_44).1).trans h4_44
        refine hK.out _ _ hF45 (fun hHeld => ?_)
        clear hK K
        try simp only [Act.put, List.setIfInBounds_toArray, List.set_cons_zero, List.set_cons_succ]
        refine wpAnyH_ready (rs := [12, 13]) (by kernel_rfl) (by simp) ?_
        refine AllReadyH.cons rfl (fun K hK => ?_) (AllReadyH.cons rfl (fun K hK => ?_) AllReadyH.nil)
        ·
          go_simp
          go_at_call 50
          refine (HA2.out _).mono ?_
          rintro e w46_ ⟨rfl, hb46⟩
          have hF46 : Below w.heap.size w w46_ := nwT hF45 hb46
          have h4_46 := (hb46.block _ (Array.getElem?_eq_some_iff.1 h4_45).1).trans h4_45
          refine hK.out _ _ hF46 (fun hHeld => ?_)
          clear hK K
          try simp only [Act.put, List.setIfInBounds_toArray, List.set_cons_zero, List.set_cons_succ]
          refine wpAnyH_ready (rs := [13]) (by kernel_rfl) (by simp) ?_
          refine AllReadyH.cons rfl (fun K hK => ?_) AllReadyH.nil
          obtain ⟨w47_, hY47⟩ : ∃ Y, Y = World.alloc w46_ (.cells #[.pointer none] 82) := ⟨_, rfl⟩
          have hb47 : Below (World.heap w46_).size w46_ w47_ := by rw [hY47]; exact nwA (nwR _) _
          have hF47 : Below w.heap.size w w47_ := nwT hF46 hb47
          have h4_47 := (hb47.block _ (Array.getElem?_eq_some_iff.1 h4_46).1).trans h4_46
          have h3_47 : w47_.heap[(World.heap w46_).size]? = some (.cells #[.pointer none] 82 (0, 0)) := by rw [hY47]; exact heap_alloc_new w46_ _
          go_simp
          rw [← hY47]
          refine hK.out _ _ hF47 (fun hHeld => ?_)
          clear hK K
          try simp only [Act.put, List.setIfInBounds_toArray, List.set_cons_zero, List.set_cons_succ]
          clear hY47
          have HLE3 : w.heap.size ≤ (World.heap w46_).size := by first | exact (hF46).size | exact Nat.le_refl _
          have HLE4 : w.heap.size ≤ (World.heap wd).size := by first | exact (hF0).size | exact Nat.le_refl _
          have HNE : (World.heap w46_).size ≠ (World.heap wd).size := by have := (Array.getElem?_eq_some_iff.1 h4_46).1; omega
          refine wpAnyH_ready (rs := [15]) (by kernel_rfl) (by simp) ?_
          refine AllReadyH.cons rfl (fun K hK => ?_) AllReadyH.nil
          obtain ⟨w48_, hY48⟩ : ∃ Y, Y = World.setCell w47_ ⟨(World.heap w46_).size, 0, none⟩ (.pointer (some ⟨b, k * 5, none⟩)) := ⟨_, rfl⟩
          have hF48 : Below w.heap.size w w48_ := by rw [hY48]; exact hF47.setCell (p := ⟨(World.heap w46_).size, 0, none⟩) (by show w.heap.size ≤ (World.heap w46_).size; have := HLE3; omega) _
          have h3_48 : w48_.heap[(World.heap w46_).size]? = some (.cells #[.pointer (some ⟨b, k * 5, none⟩)] 82 (0, 0)) := by rw [hY48]; exact heap_setCell_same w47_ _ 0 _ 82 _ h3_47
          have h4_48 : w48_.heap[(World.heap wd).size]? = some (.cells #[.pointer none] 82 (0, 0)) := by rw [hY48]; exact (heap_setCell_other w47_ ⟨(World.heap w46_).size, 0, none⟩ (World.heap wd).size _ (by show (World.heap wd).size ≠ (World.heap w46_).size; have := HNE; omega)).trans h4_47
          obtain ⟨c48, cf48⟩ := one h3_47
          go_simp
          rw [← hY48]
          refine hK.out _ _ hF48 (fun hHeld => ?_)
          clear hK K
          try simp only [Act.put, List.setIfInBounds_toArray, List.set_cons_zero, List.set_cons_succ]
          clear hY48 c48 cf48
          refine wpAnyH_ready (rs := [16]) (by kernel_rfl) (by simp) ?_
          refine AllReadyH.cons rfl (fun K hK => ?_) AllReadyH.nil
          obtain ⟨w49_, hY49⟩ : ∃ Y, Y = World.setCell w48_ ⟨(World.heap wd).size, 0, none⟩ (.pointer (some ⟨b, q * 5, none⟩)) := ⟨_, rfl⟩
          have hF49 : Below w.heap.size w w49_ := by rw [hY49]; exact hF48.setCell (p := ⟨(World.heap wd).size, 0, none⟩) (by show w.heap.size ≤ (World.heap wd).size; have := HLE4; omega) _
          have h4_49 : w49_.heap[(World.heap wd).size]? = some (.cells #[.pointer (some ⟨b, q * 5, none⟩)] 82 (0, 0)) := by rw [hY49]; exact heap_setCell_same w48_ _ 0 _ 82 _ h4_48
          have h3_49 : w49_.heap[(World.heap w46_).size]? = some (.cells #[.pointer (some ⟨b, k * 5, none⟩)] 82 (0, 0)) := by rw [hY49]; exact (heap_setCell_other w48_ ⟨(World.heap wd).size, 0, none⟩ (World.heap w46_).size _ (by show (World.heap w46_).size ≠ (World.heap wd).size; have := HNE; omega)).trans h3_48
          obtain ⟨c49, cf49⟩ := one h4_48
          go_simp
          rw [← hY49]
          refine hK.out _ _ hF49 (fun hHeld => ?_)
          clear hK K
          try simp only [Act.put, List.setIfInBounds_toArray, List.set_cons_zero, List.set_cons_succ]
          clear hY49 c49 cf49
          refine wpAnyH_done (by kernel_rfl) ?_ _
          go_wp2_with fail
          go_meet
          exact ⟨(World.heap w46_).size, (World.heap wd).size, rfl, rfl, hF49, h3_49, h4_49⟩
        ·
          obtain ⟨w50_, hY50⟩ : ∃ Y, Y = World.alloc w45_ (.cells #[.pointer none] 82) := ⟨_, rfl⟩
          have hb50 : Below (World.heap w45_).size w45_ w50_ := by rw [hY50]; exact nwA (nwR _) _
          have hF50 : Below w.heap.size w w50_ := nwT hF45 hb50
          have h4_50 := (hb50.block _ (Array.getElem?_eq_some_iff.1 h4_45).1).trans h4_45
          have h3_50 : w50_.heap[(World.heap w45_).size]? = some (.cells #[.pointer none] 82 (0, 0)) := by rw [hY50]; exact heap_alloc_new w45_ _
          go_simp
          rw [← hY50]
          refine hK.out _ _ hF50 (fun hHeld => ?_)
          clear hK K
          try simp only [Act.put, List.setIfInBounds_toArray, List.set_cons_zero, List.set_cons_succ]
          clear hY50
          refine wpAnyH_ready (rs := [12]) (by kernel_rfl) (by simp) ?_
          refine AllReadyH.cons rfl (fun K hK => ?_) AllReadyH.nil
          go_simp
          go_at_call 50
          refine (HA2.out _).mono ?_
          rintro e w51_ ⟨rfl, hb51⟩
          have hF51 : Below w.heap.size w w51_ := nwT hF50 hb51
          have h4_51 := (hb51.block _ (Array.getElem?_eq_some_iff.1 h4_50).1).trans h4_50
          have h3_51 := (hb51.block _ (Array.getElem?_eq_some_iff.1 h3_50).1).trans h3_50
          refine hK.out _ _ hF51 (fun hHeld => ?_)
          clear hK K
          try simp only [Act.put, List.setIfInBounds_toArray, List.set_cons_zero, List.set_cons_succ]
          have HLE3 : w.heap.size ≤ (World.heap w45_).size := by first | exact (hF45).size | exact Nat.le_refl _
          have HLE4 : w.heap.size ≤ (World.heap wd).size := by first | exact (hF0).size | exact Nat.le_refl _
          have HNE : (World.heap w45_).size ≠ (World.heap wd).size := by have := (Array.getElem?_eq_some_iff.1 h4_45).1; omega
          refine wpAnyH_ready (rs := [15]) (by kernel_rfl) (by simp) ?_
          refine AllReadyH.cons rfl (fun K hK => ?_) AllReadyH.nil
          obtain ⟨w52_, hY52⟩ : ∃ Y, Y = World.setCell w51_ ⟨(World.heap w45_).size, 0, none⟩ (.pointer (some ⟨b, k * 5, none⟩)) := ⟨_, rfl⟩
          have hF52 : Below w.heap.size w w52_ := by rw [hY52]; exact hF51.setCell (p := ⟨(World.heap w45_).size, 0, none⟩) (by show w.heap.size ≤ (World.heap w45_).size; have := HLE3; omega) _
          have h3_52 : w52_.heap[(World.heap w45_).size]? = some (.cells #[.pointer (some ⟨b, k * 5, none⟩)] 82 (0, 0)) := by rw [hY52]; exact heap_setCell_same w51_ _ 0 _ 82 _ h3_51
          have h4_52 : w52_.heap[(World.heap wd).size]? = some (.cells #[.pointer none] 82 (0, 0)) := by rw [hY52]; exact (heap_setCell_other w51_ ⟨(World.heap w45_).size, 0, none⟩ (World.heap wd).size _ (by show (World.heap wd).size ≠ (World.heap w45_).size; have := HNE; omega)).trans h4_51
          obtain ⟨c52, cf52⟩ := one h3_51
          go_simp
          rw [← hY52]
          refine hK.out _ _ hF52 (fun hHeld => ?_)
          clear hK K
          try simp only [Act.put, List.setIfInBounds_toArray, List.set_cons_zero, List.set_cons_succ]
          clear hY52 c52 cf52
          refine wpAnyH_ready (rs := [16]) (by kernel_rfl) (by simp) ?_
          refine AllReadyH.cons rfl (fun K hK => ?_) AllReadyH.nil
          obtain ⟨w53_, hY53⟩ : ∃ Y, Y = World.setCell w52_ ⟨(World.heap wd).size, 0, none⟩ (.pointer (some ⟨b, q * 5, none⟩)) := ⟨_, rfl⟩
          have hF53 : Below w.heap.size w w53_ := by rw [hY53]; exact hF52.setCell (p := ⟨(World.heap wd).size, 0, none⟩) (by show w.heap.size ≤ (World.heap wd).size; have := HLE4; omega) _
          have h4_53 : w53_.heap[(World.heap wd).size]? = some (.cells #[.pointer (some ⟨b, q * 5, none⟩)] 82 (0, 0)) := by rw [hY53]; exact heap_setCell_same w52_ _ 0 _ 82 _ h4_52
          have h3_53 : w53_.heap[(World.heap w45_).size]? = some (.cells #[.pointer (some ⟨b, k * 5, none⟩)] 82 (0, 0)) := by rw [hY53]; exact (heap_setCell_other w52_ ⟨(World.heap wd).size, 0, none⟩ (World.heap w45_).size _ (by show (World.heap w45_).size ≠ (World.heap wd).size; have := HNE; omega)).trans h3_52
          obtain ⟨c53, cf53⟩ := one h4_52
          go_simp
          rw [← hY53]
          refine hK.out _ _ hF53 (fun hHeld => ?_)
          clear hK K
          try simp only [Act.put, List.setIfInBounds_toArray, List.set_cons_zero, List.set_cons_succ]
          clear hY53 c53 cf53
          refine wpAnyH_done (by kernel_rfl) ?_ _
          go_wp2_with fail
          go_meet
          exact ⟨(World.heap w45_).size, (World.heap wd).size, rfl, rfl, hF53, h3_53, h4_53⟩
      ·
        obtain ⟨w54_, hY54⟩ : ∃ Y, Y = World.alloc w44_ (.cells #[.pointer none] 82) := ⟨_, rfl⟩
        have hb54 : Below (World.heap w44_).size w44_ w54_ := by rw [hY54]; exact nwA (nwR _) _
        have hF54 : Below w.heap.size w w54_ := nwT hF44 hb54
        have h4_54 := (hb54.block _ (Array.getElem?_eq_some_iff.1 h4_44).1).trans h4_44
        have h3_54 : w54_.heap[(World.heap w44_).size]? = some (.cells #[.pointer none] 82 (0, 0)) := by rw [hY54]; exact heap_alloc_new w44_ _
        go_simp
        rw [← hY54]
        refine hK.out _ _ hF54 (fun hHeld => ?_)
        clear hK K
        try simp only [Act.put, List.setIfInBounds_toArray, List.set_cons_zero, List.set_cons_succ]
        clear hY54
        refine wpAnyH_ready (rs := [6]) (by kernel_rfl) (by simp) ?_
        refine AllReadyH.cons rfl (fun K hK => ?_) AllReadyH.nil
        go_simp
        go_at_call 50
        refine (HA1.out _).mono ?_
        rintro e w55_ ⟨rfl, hb55⟩
        have hF55 : Below w.heap.size w w55_ := nwT hF54 hb55
        have h4_55 := (hb55.block _ (Array.getElem?_eq_some_iff.1 h4_54).1).trans h4_54
        have h3_55 := (hb55.block _ (Array.getElem?_eq_some_iff.1 h3_54).1).trans h3_54
        refine hK.out _ _ hF55 (fun hHeld => ?_)
        clear hK K
        try simp only [Act.put, List.setIfInBounds_toArray, List.set_cons_zero, List.set_cons_succ]
        refine wpAnyH_ready (rs := [12]) (by kernel_rfl) (by simp) ?_
        refine AllReadyH.cons rfl (fun K hK => ?_) AllReadyH.nil
        go_simp
        go_at_call 50
        refine (HA2.out _).mono ?_
        rintro e w56_ ⟨rfl, hb56⟩
        have hF56 : Below w.heap.size w w56_ := nwT hF55 hb56
        have h4_56 := (hb56.block _ (Array.getElem?_eq_some_iff.1 h4_55).1).trans h4_55
        have h3_56 := (hb56.block _ (Array.getElem?_eq_some_iff.1 h3_55).1).trans h3_55
        refine hK.out _ _ hF56 (fun hHeld => ?_)
        clear hK K
        try simp only [Act.put, List.setIfInBounds_toArray, List.set_cons_zero, List.set_cons_succ]
        have HLE3 : w.heap.size ≤ (World.heap w44_).size := by first | exact (hF44).size | exact Nat.le_refl _
        have HLE4 : w.heap.size ≤ (World.heap wd).size := by first | exact (hF0).size | exact Nat.le_refl _
        have HNE : (World.heap w44_).size ≠ (World.heap wd).size := by have := (Array.getElem?_eq_some_iff.1 h4_44).1; omega
        refine wpAnyH_ready (rs := [15]) (by kernel_rfl) (by simp) ?_
        refine AllReadyH.cons rfl (fun K hK => ?_) AllReadyH.nil
        obtain ⟨w57_, hY57⟩ : ∃ Y, Y = World.setCell w56_ ⟨(World.heap w44_).size, 0, none⟩ (.pointer (some ⟨b, k * 5, none⟩)) := ⟨_, rfl⟩
        have hF57 : Below w.heap.size w w57_ := by rw [hY57]; exact hF56.setCell (p := ⟨(World.heap w44_).size, 0, none⟩) (by show w.heap.size ≤ (World.heap w44_).size; have := HLE3; omega) _
        have h3_57 : w57_.heap[(World.heap w44_).size]? = some (.cells #[.pointer (some ⟨b, k * 5, none⟩)] 82 (0, 0)) := by rw [hY57]; exact heap_setCell_same w56_ _ 0 _ 82 _ h3_56
        have h4_57 : w57_.heap[(World.heap wd).size]? = some (.cells #[.pointer none] 82 (0, 0)) := by rw [hY57]; exact (heap_setCell_other w56_ ⟨(World.heap w44_).size, 0, none⟩ (World.heap wd).size _ (by show (World.heap wd).size ≠ (World.heap w44_).size; have := HNE; omega)).trans h4_56
        obtain ⟨c57, cf57⟩ := one h3_56
        go_simp
        rw [← hY57]
        refine hK.out _ _ hF57 (fun hHeld => ?_)
        clear hK K
        try simp only [Act.put, List.setIfInBounds_toArray, List.set_cons_zero, List.set_cons_succ]
        clear hY57 c57 cf57
        refine wpAnyH_ready (rs := [16]) (by kernel_rfl) (by simp) ?_
        refine AllReadyH.cons rfl (fun K hK => ?_) AllReadyH.nil
        obtain ⟨w58_, hY58⟩ : ∃ Y, Y = World.setCell w57_ ⟨(World.heap wd).size, 0, none⟩ (.pointer (some ⟨b, q * 5, none⟩)) := ⟨_, rfl⟩
        have hF58 : Below w.heap.size w w58_ := by rw [hY58]; exact hF57.setCell (p := ⟨(World.heap wd).size, 0, none⟩) (by show w.heap.size ≤ (World.heap wd).size; have := HLE4; omega) _
        have h4_58 : w58_.heap[(World.heap wd).size]? = some (.cells #[.pointer (some ⟨b, q * 5, none⟩)] 82 (0, 0)) := by rw [hY58]; exact heap_setCell_same w57_ _ 0 _ 82 _ h4_57
        have h3_58 : w58_.heap[(World.heap w44_).size]? = some (.cells #[.pointer (some ⟨b, k * 5, none⟩)] 82 (0, 0)) := by rw [hY58]; exact (heap_setCell_other w57_ ⟨(World.heap wd).size, 0, none⟩ (World.heap w44_).size _ (by show (World.heap w44_).size ≠ (World.heap wd).size; have := HNE; omega)).trans h3_57
        obtain ⟨c58, cf58⟩ := one h4_57
        go_simp
        rw [← hY58]
        refine hK.out _ _ hF58 (fun hHeld => ?_)
        clear hK K
        try simp only [Act.put, List.setIfInBounds_toArray, List.set_cons_zero, List.set_cons_succ]
        clear hY58 c58 cf58
        refine wpAnyH_done (by kernel_rfl) ?_ _
        go_wp2_with fail
        go_meet
        exact ⟨(World.heap w44_).size, (World.heap wd).size, rfl, rfl, hF58, h3_58, h4_58⟩
  case rest =>
  obtain ⟨p3, p4, rfl, rfl, HC⟩ := hcut
  rename World => w1
  have HB1 : Hid (Below w.heap.size w w1) := HC.out.1
  obtain ⟨c3, _⟩ := one HC.out.2.1
  obtain ⟨c4, _⟩ := one HC.out.2.2
  have HGW := HGO.out w1 HB1.out
  clear HA1 HA2 HGO
  obtain ⟨p, hp⟩ : ∃ p, onB x y = p := ⟨_, rfl⟩
  rw [hp] at HGW HJN HJY
  clear hp
  go_wp2_with fail
  refine HGW.mono ?_
  rintro e w2 ⟨rfl, hb2⟩
  have HB2 : Hid (Below w.heap.size w w2) := nwT HB1.out hb2
  have HC2 : Hid (w2.heap[p3]? = some (.cells #[.pointer (some ⟨b, k * 5, none⟩)] 82 (0, 0)) ∧ w2.heap[p4]? = some (.cells #[.pointer (some ⟨b, q * 5, none⟩)] 82 (0, 0))) := ⟨(hb2.block _ (Array.getElem?_eq_some_iff.1 HC.out.2.1).1).trans HC.out.2.1, (hb2.block _ (Array.getElem?_eq_some_iff.1 HC.out.2.2).1).trans HC.out.2.2⟩
  clear hb2 HGW HC c3 c4
  have HFB : Hid (∀ w', Below w.heap.size w w' → Below W.heap.size W w') := fun w' h => HBW.out.trans (h.mono (by have := HBW.out.size; omega))
  cases p
  case false =>
    have HJ : Hid (joinA l0 y = l0 ++ [y]) := HJN.out rfl
    go_wp2_with fail
    refine bodyPost_end (results_none rfl _ _ _) rfl ?_
    exact ⟨rfl, ⟨_, HS.out w2 HB2.out, by rw [HJ.out]; exact HO.out w2 HB2.out⟩, HFB.out w2 HB2.out⟩
  case true =>
  have HJ : Hid (joinA l0 y = l0.set k (growE x y.len)) := HJY.out rfl
  clear HJN HJY
  obtain ⟨c3, _⟩ := one HC2.out.1
  obtain ⟨c4, _⟩ := one HC2.out.2
  have HXL : Hid (x = l0.getD k EZ ∧ g + 1 ≤ b) := hXL
  obtain ⟨⟨x0, x1, x2, x3, x4⟩, y0, y1, y2, y3, y4⟩ := HEX.out w2 HB2.out
  have HO2 : Hid (OwnEnts w2 (g + 1) (.slice (some ⟨b, 0, none⟩) M c) (l0 ++ [y])) := HO.out w2 HB2.out
  have hfr : ∀ o, w2.frozen? ⟨b, o, none⟩ = false := by
    rcases HO2.out.2 with ⟨hv, _⟩ | ⟨g', cap, cur, hv, _, hg', _⟩
    · cases hv
    · injection hv with hv _ _
      injection hv with hv
      injection hv with hv
      subst hv
      exact fun o => Lib.frozen_of_heap hg' o
  obtain ⟨g0, g1, g2, gf⟩ := three (HS.out w2 HB2.out)
  obtain ⟨W3, hW3⟩ : ∃ W3, W3 = w2.setCell ⟨b, k * 5 + 1, none⟩ (.int .i64 (x.len + y.len)) := ⟨_, rfl⟩
  have HS3 : Hid (ShAt W3 g (.slice (some ⟨b, 0, none⟩) M c) d s) := by
    rw [hW3]; exact (heap_setCell_other w2 ⟨b, k * 5 + 1, none⟩ g _ (by show g ≠ b; have := HXL.out; omega)).trans (HS.out w2 HB2.out)
  have HO3 : Hid (OwnEnts W3 (g + 1) (.slice (some ⟨b, 0, none⟩) q c) (l0.set k (growE x y.len))) := by
    have hxl := HXL.out
    have hqm := HQM.out
    have hln : (l0 ++ [y]).length = M := by rw [List.length_append]; simp; omega
    have h0 : w2.ownsRow (g + 1) 49 5 (.slice (some ⟨b, 0, none⟩) M c) M (eflat (l0 ++ [y])) := by
      have := HO2.out
      unfold OwnEnts at this
      rwa [hln] at this
    have h := (World.ownsRow.stored h0 (k * 5 + 1) (.int .i64 (x.len + y.len))).1
    have hg1 := eflat_grow (l0 ++ [y]) k y.len (by rw [List.length_append]; omega)
    rw [show (l0 ++ [y]).getD k EZ = x from by rw [hxl.1]; simp [List.getD, List.getElem?_append_left (show k < l0.length by omega)]] at hg1
    rw [hg1] at h
    have h2 : OwnEnts W3 (g + 1) (.slice (some ⟨b, 0, none⟩) M c) ((l0 ++ [y]).set k (growE x y.len)) := by
      rw [hW3]; unfold OwnEnts; rw [List.length_set, hln]; exact h
    have h3 := own_take h2 (by rw [List.length_set, List.length_append]; simp; omega) (show q ≤ M by omega)
    rw [List.set_append_left _ _ (by omega), List.take_append_of_le_length (by rw [List.length_set]; omega), List.take_of_length_le (by rw [List.length_set]; omega)] at h3
    exact h3
  have HB3 : Hid (Below W.heap.size W W3) := by rw [hW3]; exact (HFB.out w2 HB2.out).setCell (p := ⟨b, k * 5 + 1, none⟩) (by show W.heap.size ≤ b; have := HXL.out; omega) _
  go_wp2_with fail
  go_region
  all_goals (try go_wp2_with fail)
  all_goals
    refine bodyPost_end (results_none rfl _ _ _) rfl ?_
    refine ⟨rfl, ⟨.slice (some ⟨b, 0, none⟩) q c, ?_, ?_⟩, ?_⟩
    · rw [← hW3]
      exact heap_setCell_same W3 g 0 _ 78 _ HS3.out
    · rw [← hW3, HJ.out]
      exact own_below (rowset HO3.out 0 (by omega) _) (Below.drew (nwR _))
    · rw [← hW3]
      exact Below.drew (HB3.out.setCell (p := ⟨g, 0, none⟩) hg _)

end Go.Proofs.Ytijldakgfgmbiaa
