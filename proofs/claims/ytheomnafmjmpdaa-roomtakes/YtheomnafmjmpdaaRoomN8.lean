/- Laid together: Taked, Commd. -/
import Derived.Test.YtheomnafmjmpdaaRoomN7
/- A sector taken, and given, by the program. -/
namespace Go.Proofs.Ytheomnafmjmpdaa
open Go.RowKit

def lessA (l : List (Int × Int)) (at' : Int) : List (Int × Int) := segsOf (fun k => memS l k && !memS [(at', 1)] k)
def joinA (l : List (Int × Int)) (at' : Int) : List (Int × Int) := segsOf (fun k => memS l k || memS [(at', 1)] k)
theorem less_one (l : List (Int × Int)) (at' : Int) (hv : vOk l = true) (ha : vOk [(at', 1)] = true) : lessOf l [(at', 1)] = lessA l at' := by
  unfold lessOf
  rw [if_pos (by unfold twoOk; rw [hv, ha]; rfl)]
  rfl

set_option maxRecDepth 100000 in
set_option maxHeartbeats 8000000 in
theorem take_any (base g n cap k : Nat) (ds : List DevD) (at' : Int) (w : World) (hX : OwnDevs w base (.slice (some ⟨g, 0, none⟩) n cap) ds) (hn : n = ds.length) (hk : k < n) (hs : SmallD (ds.getD k DZ)) (hv : vOk (ds.getD k DZ).free = true) (hat : vOk [(at', 1)] = true) :
    Calls Try.prog 41 #[.agg #[.pointer (some ⟨g, k * 4, none⟩), .int .i64 at']] w fun e w' => e = .returned (.tuple #[]) ∧ OwnDevs w' base (.slice (some ⟨g, 0, none⟩) n cap) (ds.set k (setF (ds.getD k DZ) (lessA (ds.getD k DZ).free at'))) ∧ w.grownBy w' (some g) := by
  obtain ⟨W0, hW0⟩ : ∃ W0, W0 = w.alloc (.cells #[.pointer (some ⟨g, k * 4, none⟩), .int .i64 at'] 80) := ⟨_, rfl⟩
  have hb0 : Below w.heap.size w W0 := by rw [hW0]; exact nwA (nwR w) _
  have hx0 : W0.heap[w.heap.size]? = some (.cells #[.pointer (some ⟨g, k * 4, none⟩), .int .i64 at'] 80 (0, 0)) := by rw [hW0]; exact heap_alloc_new w _
  have HX0 : Hid (OwnDevs W0 base (.slice (some ⟨g, 0, none⟩) n cap) ds) := hX.below hb0
  have HB0 : Hid (Below w.heap.size w W0) := hb0
  obtain ⟨_, _, _, _, cs1, htag1, hbg, _, _, _, _, _⟩ := hX.dev hn hk
  have hgl : g < w.heap.size := (Array.getElem?_eq_some_iff.1 htag1).1
  have hgl0 : g < W0.heap.size := by have := hb0.size; omega
  obtain ⟨ao, co, _, _, cs, htag, _, _, _, c2, _, hseg⟩ := HX0.out.dev hn hk
  obtain ⟨d, hd⟩ : ∃ d, ds.getD k DZ = d := ⟨_, rfl⟩
  rw [hd] at c2 hseg hs hv
  rw [hd]
  have HSM : Hid (SmallD d) := hs
  have HSG : Hid (∀ w', Below W0.heap.size W0 w' → SegsAt w' ao d.free) := fun w' h => by
    have h1 := (hseg w' (gbOf h _)).1
    obtain ⟨_, _, e1, v1⟩ := h1.segV
    injection e1 with e1 _ _
    subst e1
    exact v1.1
  have hbw : base ≤ W0.heap.size := by omega
  have HN : Hid (n = ds.length ∧ k < n) := ⟨hn, hk⟩
  have hw0 : w.heap.size < W0.heap.size := (Array.getElem?_eq_some_iff.1 hx0).1
  have HV : Hid (vOk d.free = true ∧ vOk [(at', 1)] = true) := ⟨hv, hat⟩
  clear hX hseg hs htag1 hb0 hv hat
  obtain ⟨ob, hob⟩ : ∃ ob : Obj, ob = (.cells #[.pointer (some ⟨g, k * 4, none⟩), .int .i64 at'] 80 (0, 0)) := ⟨_, rfl⟩
  have hS : StG W0 g (fun o => o = k * 4 + 2) w.heap.size ob W0 := stG_start (by omega) (by rw [hob]; exact hx0) htag
  have x0 : ∀ w', StG W0 g (fun o => o = k * 4 + 2) w.heap.size ob w' → w'.cell? ⟨w.heap.size, 0, none⟩ = some (.pointer (some ⟨g, k * 4, none⟩)) := by rw [hob]; exact fun w' h => (two h.b0).1
  have x1 : ∀ w', StG W0 g (fun o => o = k * 4 + 2) w.heap.size ob w' → w'.cell? ⟨w.heap.size, 1, none⟩ = some (.int .i64 at') := by rw [hob]; exact fun w' h => (two h.b0).2.1
  have y2 : ∀ w', StG W0 g (fun o => o = k * 4 + 2) w.heap.size ob w' → ∃ u', w'.cell? ⟨g, k * 4 + 2, none⟩ = some u' := fun w' h => h.some c2
  have yf : ∀ w', StG W0 g (fun o => o = k * 4 + 2) w.heap.size ob w' → ∀ o, w'.frozen? ⟨g, o, none⟩ = false := fun w' h o => h.frz o
  have HSET : Hid (∀ w' v, StG W0 g (fun o => o = k * 4 + 2) w.heap.size ob w' → StG W0 g (fun o => o = k * 4 + 2) w.heap.size ob (w'.setCell ⟨g, k * 4 + 2, none⟩ v)) := fun w' v h => h.set _ rfl v
  have HA0 : Hid (Calls Try.prog 66 #[.agg #[.pointer (some ⟨g, k * 4, none⟩), .int .i64 at']] W0.drew fun e w' => (∃ g', e = .returned (.slice (some ⟨g', 0, none⟩) 1 1) ∧ SegsAt w' (some ⟨g', 0, none⟩) [(at', 1)]) ∧ Below W0.heap.size W0 w') := (alone_any _ at' W0.drew).mono fun e w' ⟨⟨g', h1, h2, _⟩, h3⟩ => ⟨⟨g', h1, h2⟩, nwT (Below.drew (nwR W0)) h3⟩
  obtain ⟨nl, hnl⟩ : ∃ nl, lessA d.free at' = nl := ⟨_, rfl⟩
  have HFIN : Hid (∀ wD v1, Below W0.heap.size W0 wD → OwnSegs wD base v1 nl → OwnDevs (wD.setCell ⟨g, k * 4 + 2, none⟩ v1) base (.slice (some ⟨g, 0, none⟩) n cap) (ds.set k (setF d nl)) ∧ w.grownBy (wD.setCell ⟨g, k * 4 + 2, none⟩ v1) (some g)) := fun wD v1 h hv => by
    have h1 := (HX0.out.below h).setF HN.out.1 HN.out.2 hv
    rw [hd] at h1
    exact ⟨h1, gb_setg (gbOf (nwT HB0.out h) _) _⟩
  have HLS : Hid (∀ w' g', Below W0.heap.size W0 w' → SegsAt w' (some ⟨g', 0, none⟩) [(at', 1)] → Calls Try.prog 65 #[.slice ao d.free.length co, .slice (some ⟨g', 0, none⟩) 1 1] w' fun e w'' => (∃ v er, e = .returned (.tuple #[v, .int .i64 er]) ∧ OwnSegs w'' base v nl) ∧ Below w'.heap.size w' w'') := fun w' g' h h2 => by
    refine (less_any ao (some ⟨g', 0, none⟩) d.free [(at', 1)] co 1 w' (HSG.out w' h) h2 (len_max HSM.out.1) (by simp [maxLen])).mono ?_
    rintro e w'' ⟨v, rfl, ho, hb⟩
    rw [less_one _ _ HV.out.1 HV.out.2, hnl] at ho
    exact ⟨⟨v, _, rfl, own_le ho (Nat.le_trans hbw h.size)⟩, hb⟩
  rw [hnl]
  clear hx0 htag hd hnl
  go_enter Try.func41, Try.ntmps41
  go_wp2_with fail
  rw [← hW0]
  clear hW0
  have c2d : W0.drew.cell? ⟨g, k * 4 + 2, none⟩ = some (.slice ao d.free.length co) := c2
  clear hob
  refine wp_region_held_drew (S := fun w' => StG W0 g (fun o => o = k * 4 + 2) w.heap.size ob w') (by kernel_rfl) (by first | assumption | exact StG.drew (by assumption) | exact StG.below (by assumption) (by assumption) | exact StG.alloc (by assumption) _ | exact HSET.out _ _ (by assumption)) (fun hHeld => ?_)
  refine takeYes 0 (some 3) (v := ?_) rfl (by kernel_rfl) (by kernel_rfl) (by kernel_rfl) (by rfl) (fun _ _ _ h => h) (by rfl) ?_ (by assumption) ?_
  rotate_left
  · intro w hSw; (try dsimp only at hSw); go_simp; try with_reducible rfl
  try simp only [Act.put, List.setIfInBounds_toArray, List.set_cons_zero, List.set_cons_succ]
  refine takeYes 1 (some 4) (v := ?_) rfl (by kernel_rfl) (by kernel_rfl) (by kernel_rfl) (by rfl) (fun _ _ _ h => h) (by rfl) ?_ (by assumption) ?_
  rotate_left
  · intro w hSw; (try dsimp only at hSw); go_simp; try with_reducible rfl
  try simp only [Act.put, List.setIfInBounds_toArray, List.set_cons_zero, List.set_cons_succ]
  refine takeYes 2 (some 5) (v := ?_) rfl (by kernel_rfl) (by kernel_rfl) (by kernel_rfl) (by rfl) (fun _ _ _ h => h) (by rfl) ?_ (by assumption) ?_
  rotate_left
  · intro w hSw; (try dsimp only at hSw); go_simp; try with_reducible rfl
  try simp only [Act.put, List.setIfInBounds_toArray, List.set_cons_zero, List.set_cons_succ]
  refine takeYes 3 (some 6) (v := ?_) rfl (by kernel_rfl) (by kernel_rfl) (by kernel_rfl) (by rfl) (fun _ _ _ h => h) (by rfl) ?_ (by assumption) ?_
  rotate_left
  · intro w hSw; (try dsimp only at hSw); go_simp; try with_reducible rfl
  try simp only [Act.put, List.setIfInBounds_toArray, List.set_cons_zero, List.set_cons_succ]
  refine takeYes 4 (some 7) (v := ?_) rfl (by kernel_rfl) (by kernel_rfl) (by kernel_rfl) (by rfl) (fun _ _ _ h => h) (by rfl) ?_ (by assumption) ?_
  rotate_left
  · intro w hSw; (try dsimp only at hSw); go_simp; try with_reducible rfl
  try simp only [Act.put, List.setIfInBounds_toArray, List.set_cons_zero, List.set_cons_succ]
  refine takeYes 5 (some 8) (v := ?_) rfl (by kernel_rfl) (by kernel_rfl) (by kernel_rfl) (by rfl) (fun _ _ _ h => h) (by rfl) ?_ (by assumption) ?_
  rotate_left
  · intro w hSw; (try dsimp only at hSw); go_simp; try with_reducible rfl
  try simp only [Act.put, List.setIfInBounds_toArray, List.set_cons_zero, List.set_cons_succ]
  refine takeYes 6 (some 9) (v := ?_) rfl (by kernel_rfl) (by kernel_rfl) (by kernel_rfl) (by rfl) (fun _ _ _ h => h) (by rfl) ?_ (by assumption) ?_
  rotate_left
  · intro w hSw; (try dsimp only at hSw); go_simp; try with_reducible rfl
  try simp only [Act.put, List.setIfInBounds_toArray, List.set_cons_zero, List.set_cons_succ]
  refine takeYes 7 (some 10) (v := ?_) rfl (by kernel_rfl) (by kernel_rfl) (by kernel_rfl) (by rfl) (fun _ _ _ h => h) (by rfl) ?_ (by assumption) ?_
  rotate_left
  · intro w hSw; (try dsimp only at hSw); go_simp; try with_reducible rfl
  try simp only [Act.put, List.setIfInBounds_toArray, List.set_cons_zero, List.set_cons_succ]
  refine takeYes 9 (some 12) (v := ?_) rfl (by kernel_rfl) (by kernel_rfl) (by kernel_rfl) (by rfl) (fun _ _ _ h => h) (by rfl) ?_ (by assumption) ?_
  rotate_left
  · intro w hSw; (try dsimp only at hSw); go_simp; try with_reducible rfl
  try simp only [Act.put, List.setIfInBounds_toArray, List.set_cons_zero, List.set_cons_succ]
  refine wpAnyH_ready (rs := [8, 10]) (by kernel_rfl) (by simp) ?_
  refine AllReadyH.cons rfl (fun K hK => ?_) (AllReadyH.cons rfl (fun K hK => ?_) AllReadyH.nil)
  ·
    go_simp
    refine hK.out _ _ (by first | assumption | exact StG.drew (by assumption) | exact StG.below (by assumption) (by assumption) | exact StG.alloc (by assumption) _ | exact HSET.out _ _ (by assumption)) (fun hHeld => ?_)
    clear hK K
    try simp only [Act.put, List.setIfInBounds_toArray, List.set_cons_zero, List.set_cons_succ]
    refine wpAnyH_ready (rs := [10]) (by kernel_rfl) (by simp) ?_
    refine AllReadyH.cons rfl (fun K hK => ?_) AllReadyH.nil
    go_simp
    (go_at_call 66; refine HA0.out.mono ?_; rintro e wC ⟨⟨g2, rfl, hsg⟩, hbC⟩; have HUC : Hid (Below W0.heap.size W0 wC) := hbC; have HSGC : Hid (SegsAt wC (some ⟨g2, 0, none⟩) [(at', 1)]) := hsg; have hSC : StG W0 g (fun o => o = k * 4 + 2) w.heap.size ob wC := StG.below hS hbC; have c2C : wC.cell? ⟨g, k * 4 + 2, none⟩ = some (.slice ao d.free.length co) := (hbC.cell (p := ⟨g, k * 4 + 2, none⟩) hgl0).trans c2; clear hbC hsg)
    refine hK.out _ _ (by first | assumption | exact StG.drew (by assumption) | exact StG.below (by assumption) (by assumption) | exact StG.alloc (by assumption) _ | exact HSET.out _ _ (by assumption)) (fun hHeld => ?_)
    clear hK K
    try simp only [Act.put, List.setIfInBounds_toArray, List.set_cons_zero, List.set_cons_succ]
    refine wpAnyH_ready (rs := [11]) (by kernel_rfl) (by simp) ?_
    refine AllReadyH.cons rfl (fun K hK => ?_) AllReadyH.nil
    go_simp
    (go_at_call 65; refine (HLS.out wC g2 HUC.out HSGC.out).mono ?_; rintro e wD ⟨⟨v1, er, rfl, ho1⟩, hbD⟩; obtain ⟨a1, c1', rfl, _⟩ := ho1.segV; have HUD : Hid (Below W0.heap.size W0 wD) := nwT HUC.out hbD; have HOV : Hid (OwnSegs wD base (.slice a1 nl.length c1') nl) := ho1; have hSD : StG W0 g (fun o => o = k * 4 + 2) w.heap.size ob wD := StG.below hSC hbD; obtain ⟨yu2, yk2⟩ := y2 wD hSD; have ykf := yf wD hSD)
    refine hK.out _ _ (by first | assumption | exact StG.drew (by assumption) | exact StG.below (by assumption) (by assumption) | exact StG.alloc (by assumption) _ | exact HSET.out _ _ (by assumption)) (fun hHeld => ?_)
    clear hK K
    try simp only [Act.put, List.setIfInBounds_toArray, List.set_cons_zero, List.set_cons_succ]
    refine takeYes 12 (some 2) (v := ?_) rfl (by kernel_rfl) (by kernel_rfl) (by kernel_rfl) (by rfl) (fun _ _ _ h => h) (by rfl) ?_ (by assumption) ?_
    rotate_left
    · intro w hSw; (try dsimp only at hSw); go_simp; try with_reducible rfl
    try simp only [Act.put, List.setIfInBounds_toArray, List.set_cons_zero, List.set_cons_succ]
    refine takeYes 13 (some 15) (v := ?_) rfl (by kernel_rfl) (by kernel_rfl) (by kernel_rfl) (by rfl) (fun _ _ _ h => h) (by rfl) ?_ (by assumption) ?_
    rotate_left
    · intro w hSw; (try dsimp only at hSw); go_simp; try with_reducible rfl
    try simp only [Act.put, List.setIfInBounds_toArray, List.set_cons_zero, List.set_cons_succ]
    refine takeYes 14 (some 16) (v := ?_) rfl (by kernel_rfl) (by kernel_rfl) (by kernel_rfl) (by rfl) (fun _ _ _ h => h) (by rfl) ?_ (by assumption) ?_
    rotate_left
    · intro w hSw; (try dsimp only at hSw); go_simp; try with_reducible rfl
    try simp only [Act.put, List.setIfInBounds_toArray, List.set_cons_zero, List.set_cons_succ]
    refine takeYes 15 (some 17) (v := ?_) rfl (by kernel_rfl) (by kernel_rfl) (by kernel_rfl) (by rfl) (fun _ _ _ h => h) (by rfl) ?_ (by assumption) ?_
    rotate_left
    · intro w hSw; (try dsimp only at hSw); go_simp; try with_reducible rfl
    try simp only [Act.put, List.setIfInBounds_toArray, List.set_cons_zero, List.set_cons_succ]
    refine takeYes 16 (some 18) (v := ?_) rfl (by kernel_rfl) (by kernel_rfl) (by kernel_rfl) (by rfl) (fun _ _ _ h => h) (by rfl) ?_ (by assumption) ?_
    rotate_left
    · intro w hSw; (try dsimp only at hSw); go_simp; try with_reducible rfl
    try simp only [Act.put, List.setIfInBounds_toArray, List.set_cons_zero, List.set_cons_succ]
    refine wpAnyH_ready (rs := [17]) (by kernel_rfl) (by simp) ?_
    refine AllReadyH.cons rfl (fun K hK => ?_) AllReadyH.nil
    go_simp
    refine hK.out _ _ (by first | assumption | exact StG.drew (by assumption) | exact StG.below (by assumption) (by assumption) | exact StG.alloc (by assumption) _ | exact HSET.out _ _ (by assumption)) (fun hHeld => ?_)
    clear hK K
    try simp only [Act.put, List.setIfInBounds_toArray, List.set_cons_zero, List.set_cons_succ]
    refine wpAnyH_done (by kernel_rfl) ?_ _
    have HRES := HFIN.out _ _ HUD.out HOV.out
    have HRH : Hid (OwnDevs (wD.setCell ⟨g, k * 4 + 2, none⟩ (.slice a1 nl.length c1')) base (.slice (some ⟨g, 0, none⟩) n cap) (ds.set k (setF d nl)) ∧ w.grownBy (wD.setCell ⟨g, k * 4 + 2, none⟩ (.slice a1 nl.length c1')) (some g)) := HRES
    clear HRES x0 y2 yf c2d
    go_wp2_with fail
    go_end0
    exact ⟨rfl, HRH.out.1, HRH.out.2⟩

  ·
    go_simp
    (go_at_call 66; refine HA0.out.mono ?_; rintro e wC ⟨⟨g2, rfl, hsg⟩, hbC⟩; have HUC : Hid (Below W0.heap.size W0 wC) := hbC; have HSGC : Hid (SegsAt wC (some ⟨g2, 0, none⟩) [(at', 1)]) := hsg; have hSC : StG W0 g (fun o => o = k * 4 + 2) w.heap.size ob wC := StG.below hS hbC; have c2C : wC.cell? ⟨g, k * 4 + 2, none⟩ = some (.slice ao d.free.length co) := (hbC.cell (p := ⟨g, k * 4 + 2, none⟩) hgl0).trans c2; clear hbC hsg)
    refine hK.out _ _ (by first | assumption | exact StG.drew (by assumption) | exact StG.below (by assumption) (by assumption) | exact StG.alloc (by assumption) _ | exact HSET.out _ _ (by assumption)) (fun hHeld => ?_)
    clear hK K
    try simp only [Act.put, List.setIfInBounds_toArray, List.set_cons_zero, List.set_cons_succ]
    refine wpAnyH_ready (rs := [8]) (by kernel_rfl) (by simp) ?_
    refine AllReadyH.cons rfl (fun K hK => ?_) AllReadyH.nil
    go_simp
    refine hK.out _ _ (by first | assumption | exact StG.drew (by assumption) | exact StG.below (by assumption) (by assumption) | exact StG.alloc (by assumption) _ | exact HSET.out _ _ (by assumption)) (fun hHeld => ?_)
    clear hK K
    try simp only [Act.put, List.setIfInBounds_toArray, List.set_cons_zero, List.set_cons_succ]
    refine wpAnyH_ready (rs := [11]) (by kernel_rfl) (by simp) ?_
    refine AllReadyH.cons rfl (fun K hK => ?_) AllReadyH.nil
    go_simp
    (go_at_call 65; refine (HLS.out wC g2 HUC.out HSGC.out).mono ?_; rintro e wD ⟨⟨v1, er, rfl, ho1⟩, hbD⟩; obtain ⟨a1, c1', rfl, _⟩ := ho1.segV; have HUD : Hid (Below W0.heap.size W0 wD) := nwT HUC.out hbD; have HOV : Hid (OwnSegs wD base (.slice a1 nl.length c1') nl) := ho1; have hSD : StG W0 g (fun o => o = k * 4 + 2) w.heap.size ob wD := StG.below hSC hbD; obtain ⟨yu2, yk2⟩ := y2 wD hSD; have ykf := yf wD hSD)
    refine hK.out _ _ (by first | assumption | exact StG.drew (by assumption) | exact StG.below (by assumption) (by assumption) | exact StG.alloc (by assumption) _ | exact HSET.out _ _ (by assumption)) (fun hHeld => ?_)
    clear hK K
    try simp only [Act.put, List.setIfInBounds_toArray, List.set_cons_zero, List.set_cons_succ]
    refine takeYes 12 (some 2) (v := ?_) rfl (by kernel_rfl) (by kernel_rfl) (by kernel_rfl) (by rfl) (fun _ _ _ h => h) (by rfl) ?_ (by assumption) ?_
    rotate_left
    · intro w hSw; (try dsimp only at hSw); go_simp; try with_reducible rfl
    try simp only [Act.put, List.setIfInBounds_toArray, List.set_cons_zero, List.set_cons_succ]
    refine takeYes 13 (some 15) (v := ?_) rfl (by kernel_rfl) (by kernel_rfl) (by kernel_rfl) (by rfl) (fun _ _ _ h => h) (by rfl) ?_ (by assumption) ?_
    rotate_left
    · intro w hSw; (try dsimp only at hSw); go_simp; try with_reducible rfl
    try simp only [Act.put, List.setIfInBounds_toArray, List.set_cons_zero, List.set_cons_succ]
    refine takeYes 14 (some 16) (v := ?_) rfl (by kernel_rfl) (by kernel_rfl) (by kernel_rfl) (by rfl) (fun _ _ _ h => h) (by rfl) ?_ (by assumption) ?_
    rotate_left
    · intro w hSw; (try dsimp only at hSw); go_simp; try with_reducible rfl
    try simp only [Act.put, List.setIfInBounds_toArray, List.set_cons_zero, List.set_cons_succ]
    refine takeYes 15 (some 17) (v := ?_) rfl (by kernel_rfl) (by kernel_rfl) (by kernel_rfl) (by rfl) (fun _ _ _ h => h) (by rfl) ?_ (by assumption) ?_
    rotate_left
    · intro w hSw; (try dsimp only at hSw); go_simp; try with_reducible rfl
    try simp only [Act.put, List.setIfInBounds_toArray, List.set_cons_zero, List.set_cons_succ]
    refine takeYes 16 (some 18) (v := ?_) rfl (by kernel_rfl) (by kernel_rfl) (by kernel_rfl) (by rfl) (fun _ _ _ h => h) (by rfl) ?_ (by assumption) ?_
    rotate_left
    · intro w hSw; (try dsimp only at hSw); go_simp; try with_reducible rfl
    try simp only [Act.put, List.setIfInBounds_toArray, List.set_cons_zero, List.set_cons_succ]
    refine wpAnyH_ready (rs := [17]) (by kernel_rfl) (by simp) ?_
    refine AllReadyH.cons rfl (fun K hK => ?_) AllReadyH.nil
    go_simp
    refine hK.out _ _ (by first | assumption | exact StG.drew (by assumption) | exact StG.below (by assumption) (by assumption) | exact StG.alloc (by assumption) _ | exact HSET.out _ _ (by assumption)) (fun hHeld => ?_)
    clear hK K
    try simp only [Act.put, List.setIfInBounds_toArray, List.set_cons_zero, List.set_cons_succ]
    refine wpAnyH_done (by kernel_rfl) ?_ _
    have HRES := HFIN.out _ _ HUD.out HOV.out
    have HRH : Hid (OwnDevs (wD.setCell ⟨g, k * 4 + 2, none⟩ (.slice a1 nl.length c1')) base (.slice (some ⟨g, 0, none⟩) n cap) (ds.set k (setF d nl)) ∧ w.grownBy (wD.setCell ⟨g, k * 4 + 2, none⟩ (.slice a1 nl.length c1')) (some g)) := HRES
    clear HRES x0 y2 yf c2d
    go_wp2_with fail
    go_end0
    exact ⟨rfl, HRH.out.1, HRH.out.2⟩

set_option maxRecDepth 100000 in
set_option maxHeartbeats 8000000 in
theorem give_any (base g n cap k : Nat) (ds : List DevD) (at' : Int) (w : World) (hX : OwnDevs w base (.slice (some ⟨g, 0, none⟩) n cap) ds) (hn : n = ds.length) (hk : k < n) (hs : SmallD (ds.getD k DZ)) (hv : vOk (ds.getD k DZ).late = true) (hat : vOk [(at', 1)] = true) :
    Calls Try.prog 44 #[.agg #[.pointer (some ⟨g, k * 4, none⟩), .int .i64 at']] w fun e w' => e = .returned (.tuple #[]) ∧ OwnDevs w' base (.slice (some ⟨g, 0, none⟩) n cap) (ds.set k (setL' (ds.getD k DZ) (joinA (ds.getD k DZ).late at'))) ∧ w.grownBy w' (some g) := by
  obtain ⟨W0, hW0⟩ : ∃ W0, W0 = w.alloc (.cells #[.pointer (some ⟨g, k * 4, none⟩), .int .i64 at'] 80) := ⟨_, rfl⟩
  have hb0 : Below w.heap.size w W0 := by rw [hW0]; exact nwA (nwR w) _
  have hx0 : W0.heap[w.heap.size]? = some (.cells #[.pointer (some ⟨g, k * 4, none⟩), .int .i64 at'] 80 (0, 0)) := by rw [hW0]; exact heap_alloc_new w _
  have HX0 : Hid (OwnDevs W0 base (.slice (some ⟨g, 0, none⟩) n cap) ds) := hX.below hb0
  have HB0 : Hid (Below w.heap.size w W0) := hb0
  obtain ⟨_, _, _, _, cs1, htag1, hbg, _, _, _, _, _⟩ := hX.dev hn hk
  have hgl : g < w.heap.size := (Array.getElem?_eq_some_iff.1 htag1).1
  have hgl0 : g < W0.heap.size := by have := hb0.size; omega
  obtain ⟨_, _, ao, co, cs, htag, _, _, _, _, c2, hseg⟩ := HX0.out.dev hn hk
  obtain ⟨d, hd⟩ : ∃ d, ds.getD k DZ = d := ⟨_, rfl⟩
  rw [hd] at c2 hseg hs hv
  rw [hd]
  have HSM : Hid (SmallD d) := hs
  have HSG : Hid (∀ w', Below W0.heap.size W0 w' → SegsAt w' ao d.late) := fun w' h => by
    have h1 := (hseg w' (gbOf h _)).2
    obtain ⟨_, _, e1, v1⟩ := h1.segV
    injection e1 with e1 _ _
    subst e1
    exact v1.1
  have hbw : base ≤ W0.heap.size := by omega
  have HN : Hid (n = ds.length ∧ k < n) := ⟨hn, hk⟩
  have hw0 : w.heap.size < W0.heap.size := (Array.getElem?_eq_some_iff.1 hx0).1
  have HV : Hid (vOk d.late = true ∧ vOk [(at', 1)] = true) := ⟨hv, hat⟩
  clear hX hseg hs htag1 hb0 hv hat
  obtain ⟨ob, hob⟩ : ∃ ob : Obj, ob = (.cells #[.pointer (some ⟨g, k * 4, none⟩), .int .i64 at'] 80 (0, 0)) := ⟨_, rfl⟩
  have hS : StG W0 g (fun o => o = k * 4 + 3) w.heap.size ob W0 := stG_start (by omega) (by rw [hob]; exact hx0) htag
  have x0 : ∀ w', StG W0 g (fun o => o = k * 4 + 3) w.heap.size ob w' → w'.cell? ⟨w.heap.size, 0, none⟩ = some (.pointer (some ⟨g, k * 4, none⟩)) := by rw [hob]; exact fun w' h => (two h.b0).1
  have x1 : ∀ w', StG W0 g (fun o => o = k * 4 + 3) w.heap.size ob w' → w'.cell? ⟨w.heap.size, 1, none⟩ = some (.int .i64 at') := by rw [hob]; exact fun w' h => (two h.b0).2.1
  have y2 : ∀ w', StG W0 g (fun o => o = k * 4 + 3) w.heap.size ob w' → ∃ u', w'.cell? ⟨g, k * 4 + 3, none⟩ = some u' := fun w' h => h.some c2
  have yf : ∀ w', StG W0 g (fun o => o = k * 4 + 3) w.heap.size ob w' → ∀ o, w'.frozen? ⟨g, o, none⟩ = false := fun w' h o => h.frz o
  have HSET : Hid (∀ w' v, StG W0 g (fun o => o = k * 4 + 3) w.heap.size ob w' → StG W0 g (fun o => o = k * 4 + 3) w.heap.size ob (w'.setCell ⟨g, k * 4 + 3, none⟩ v)) := fun w' v h => h.set _ rfl v
  have HA0 : Hid (Calls Try.prog 66 #[.agg #[.pointer (some ⟨g, k * 4, none⟩), .int .i64 at']] W0.drew fun e w' => (∃ g', e = .returned (.slice (some ⟨g', 0, none⟩) 1 1) ∧ SegsAt w' (some ⟨g', 0, none⟩) [(at', 1)]) ∧ Below W0.heap.size W0 w') := (alone_any _ at' W0.drew).mono fun e w' ⟨⟨g', h1, h2, _⟩, h3⟩ => ⟨⟨g', h1, h2⟩, nwT (Below.drew (nwR W0)) h3⟩
  obtain ⟨nl, hnl⟩ : ∃ nl, joinA d.late at' = nl := ⟨_, rfl⟩
  have HFIN : Hid (∀ wD v1, Below W0.heap.size W0 wD → OwnSegs wD base v1 nl → OwnDevs (wD.setCell ⟨g, k * 4 + 3, none⟩ v1) base (.slice (some ⟨g, 0, none⟩) n cap) (ds.set k (setL' d nl)) ∧ w.grownBy (wD.setCell ⟨g, k * 4 + 3, none⟩ v1) (some g)) := fun wD v1 h hv => by
    have h1 := (HX0.out.below h).setL HN.out.1 HN.out.2 hv
    rw [hd] at h1
    exact ⟨h1, gb_setg (gbOf (nwT HB0.out h) _) _⟩
  have HLS : Hid (∀ w' g', Below W0.heap.size W0 w' → SegsAt w' (some ⟨g', 0, none⟩) [(at', 1)] → Calls Try.prog 69 #[.slice (some ⟨w'.heap.size, 0, none⟩) 2 2] (w'.alloc (.cells #[.slice ao d.late.length co, .slice (some ⟨g', 0, none⟩) 1 1] 49)) fun e w'' => (∃ v er, e = .returned (.tuple #[v, .int .i64 er]) ∧ OwnSegs w'' base v nl) ∧ Below w'.heap.size w' w'') := fun w' g' h h2 => by
    refine (join_two ao (some ⟨g', 0, none⟩) co 1 d.late [(at', 1)] w' (HSG.out w' h) h2 (len_max HSM.out.2) (by simp [maxLen]) HV.out.1 HV.out.2).mono ?_
    rintro e w'' ⟨⟨v, rfl, ho⟩, hb⟩
    have ho2 : OwnSegs w'' w'.heap.size v nl := by rw [← hnl]; exact ho
    exact ⟨⟨v, _, rfl, own_le ho2 (Nat.le_trans hbw h.size)⟩, hb⟩
  rw [hnl]
  clear hx0 htag hd hnl
  go_enter Try.func44, Try.ntmps44
  go_wp2_with fail
  rw [← hW0]
  clear hW0
  have c2d : W0.drew.cell? ⟨g, k * 4 + 3, none⟩ = some (.slice ao d.late.length co) := c2
  clear hob
  refine wp_region_held_drew (S := fun w' => StG W0 g (fun o => o = k * 4 + 3) w.heap.size ob w') (by kernel_rfl) (by first | assumption | exact StG.drew (by assumption) | exact StG.below (by assumption) (by assumption) | exact StG.alloc (by assumption) _ | exact HSET.out _ _ (by assumption)) (fun hHeld => ?_)
  refine takeYes 0 (some 3) (v := ?_) rfl (by kernel_rfl) (by kernel_rfl) (by kernel_rfl) (by rfl) (fun _ _ _ h => h) (by rfl) ?_ (by assumption) ?_
  rotate_left
  · intro w hSw; (try dsimp only at hSw); go_simp; try with_reducible rfl
  try simp only [Act.put, List.setIfInBounds_toArray, List.set_cons_zero, List.set_cons_succ]
  refine takeYes 1 (some 4) (v := ?_) rfl (by kernel_rfl) (by kernel_rfl) (by kernel_rfl) (by rfl) (fun _ _ _ h => h) (by rfl) ?_ (by assumption) ?_
  rotate_left
  · intro w hSw; (try dsimp only at hSw); go_simp; try with_reducible rfl
  try simp only [Act.put, List.setIfInBounds_toArray, List.set_cons_zero, List.set_cons_succ]
  refine takeYes 2 (some 5) (v := ?_) rfl (by kernel_rfl) (by kernel_rfl) (by kernel_rfl) (by rfl) (fun _ _ _ h => h) (by rfl) ?_ (by assumption) ?_
  rotate_left
  · intro w hSw; (try dsimp only at hSw); go_simp; try with_reducible rfl
  try simp only [Act.put, List.setIfInBounds_toArray, List.set_cons_zero, List.set_cons_succ]
  refine takeYes 3 (some 6) (v := ?_) rfl (by kernel_rfl) (by kernel_rfl) (by kernel_rfl) (by rfl) (fun _ _ _ h => h) (by rfl) ?_ (by assumption) ?_
  rotate_left
  · intro w hSw; (try dsimp only at hSw); go_simp; try with_reducible rfl
  try simp only [Act.put, List.setIfInBounds_toArray, List.set_cons_zero, List.set_cons_succ]
  refine takeYes 4 (some 7) (v := ?_) rfl (by kernel_rfl) (by kernel_rfl) (by kernel_rfl) (by rfl) (fun _ _ _ h => h) (by rfl) ?_ (by assumption) ?_
  rotate_left
  · intro w hSw; (try dsimp only at hSw); go_simp; try with_reducible rfl
  try simp only [Act.put, List.setIfInBounds_toArray, List.set_cons_zero, List.set_cons_succ]
  refine takeYes 5 (some 8) (v := ?_) rfl (by kernel_rfl) (by kernel_rfl) (by kernel_rfl) (by rfl) (fun _ _ _ h => h) (by rfl) ?_ (by assumption) ?_
  rotate_left
  · intro w hSw; (try dsimp only at hSw); go_simp; try with_reducible rfl
  try simp only [Act.put, List.setIfInBounds_toArray, List.set_cons_zero, List.set_cons_succ]
  refine takeYes 6 (some 9) (v := ?_) rfl (by kernel_rfl) (by kernel_rfl) (by kernel_rfl) (by rfl) (fun _ _ _ h => h) (by rfl) ?_ (by assumption) ?_
  rotate_left
  · intro w hSw; (try dsimp only at hSw); go_simp; try with_reducible rfl
  try simp only [Act.put, List.setIfInBounds_toArray, List.set_cons_zero, List.set_cons_succ]
  refine takeYes 7 (some 10) (v := ?_) rfl (by kernel_rfl) (by kernel_rfl) (by kernel_rfl) (by rfl) (fun _ _ _ h => h) (by rfl) ?_ (by assumption) ?_
  rotate_left
  · intro w hSw; (try dsimp only at hSw); go_simp; try with_reducible rfl
  try simp only [Act.put, List.setIfInBounds_toArray, List.set_cons_zero, List.set_cons_succ]
  refine takeYes 9 (some 12) (v := ?_) rfl (by kernel_rfl) (by kernel_rfl) (by kernel_rfl) (by rfl) (fun _ _ _ h => h) (by rfl) ?_ (by assumption) ?_
  rotate_left
  · intro w hSw; (try dsimp only at hSw); go_simp; try with_reducible rfl
  try simp only [Act.put, List.setIfInBounds_toArray, List.set_cons_zero, List.set_cons_succ]
  refine wpAnyH_ready (rs := [8, 10]) (by kernel_rfl) (by simp) ?_
  refine AllReadyH.cons rfl (fun K hK => ?_) (AllReadyH.cons rfl (fun K hK => ?_) AllReadyH.nil)
  ·
    go_simp
    refine hK.out _ _ (by first | assumption | exact StG.drew (by assumption) | exact StG.below (by assumption) (by assumption) | exact StG.alloc (by assumption) _ | exact HSET.out _ _ (by assumption)) (fun hHeld => ?_)
    clear hK K
    try simp only [Act.put, List.setIfInBounds_toArray, List.set_cons_zero, List.set_cons_succ]
    refine wpAnyH_ready (rs := [10]) (by kernel_rfl) (by simp) ?_
    refine AllReadyH.cons rfl (fun K hK => ?_) AllReadyH.nil
    go_simp
    (go_at_call 66; refine HA0.out.mono ?_; rintro e wC ⟨⟨g2, rfl, hsg⟩, hbC⟩; have HUC : Hid (Below W0.heap.size W0 wC) := hbC; have HSGC : Hid (SegsAt wC (some ⟨g2, 0, none⟩) [(at', 1)]) := hsg; have hSC : StG W0 g (fun o => o = k * 4 + 3) w.heap.size ob wC := StG.below hS hbC; have c2C : wC.cell? ⟨g, k * 4 + 3, none⟩ = some (.slice ao d.late.length co) := (hbC.cell (p := ⟨g, k * 4 + 3, none⟩) hgl0).trans c2; clear hbC hsg)
    refine hK.out _ _ (by first | assumption | exact StG.drew (by assumption) | exact StG.below (by assumption) (by assumption) | exact StG.alloc (by assumption) _ | exact HSET.out _ _ (by assumption)) (fun hHeld => ?_)
    clear hK K
    try simp only [Act.put, List.setIfInBounds_toArray, List.set_cons_zero, List.set_cons_succ]
    refine wpAnyH_ready (rs := [11]) (by kernel_rfl) (by simp) ?_
    refine AllReadyH.cons rfl (fun K hK => ?_) AllReadyH.nil
    go_simp
    refine hK.out _ _ (by first | assumption | exact StG.drew (by assumption) | exact StG.below (by assumption) (by assumption) | exact StG.alloc (by assumption) _ | exact HSET.out _ _ (by assumption)) (fun hHeld => ?_)
    clear hK K
    try simp only [Act.put, List.setIfInBounds_toArray, List.set_cons_zero, List.set_cons_succ]
    refine wpAnyH_ready (rs := [12]) (by kernel_rfl) (by simp) ?_
    refine AllReadyH.cons rfl (fun K hK => ?_) AllReadyH.nil
    go_simp
    (go_at_call 69; refine (HLS.out wC g2 HUC.out HSGC.out).mono ?_; rintro e wD ⟨⟨v1, er, rfl, ho1⟩, hbD⟩; obtain ⟨a1, c1', rfl, _⟩ := ho1.segV; have HUD : Hid (Below W0.heap.size W0 wD) := nwT HUC.out hbD; have HOV : Hid (OwnSegs wD base (.slice a1 nl.length c1') nl) := ho1; have hSD : StG W0 g (fun o => o = k * 4 + 3) w.heap.size ob wD := StG.below hSC hbD; obtain ⟨yu2, yk2⟩ := y2 wD hSD; have ykf := yf wD hSD)
    refine hK.out _ _ (by first | assumption | exact StG.drew (by assumption) | exact StG.below (by assumption) (by assumption) | exact StG.alloc (by assumption) _ | exact HSET.out _ _ (by assumption)) (fun hHeld => ?_)
    clear hK K
    try simp only [Act.put, List.setIfInBounds_toArray, List.set_cons_zero, List.set_cons_succ]
    refine takeYes 13 (some 2) (v := ?_) rfl (by kernel_rfl) (by kernel_rfl) (by kernel_rfl) (by rfl) (fun _ _ _ h => h) (by rfl) ?_ (by assumption) ?_
    rotate_left
    · intro w hSw; (try dsimp only at hSw); go_simp; try with_reducible rfl
    try simp only [Act.put, List.setIfInBounds_toArray, List.set_cons_zero, List.set_cons_succ]
    refine takeYes 14 (some 16) (v := ?_) rfl (by kernel_rfl) (by kernel_rfl) (by kernel_rfl) (by rfl) (fun _ _ _ h => h) (by rfl) ?_ (by assumption) ?_
    rotate_left
    · intro w hSw; (try dsimp only at hSw); go_simp; try with_reducible rfl
    try simp only [Act.put, List.setIfInBounds_toArray, List.set_cons_zero, List.set_cons_succ]
    refine takeYes 15 (some 17) (v := ?_) rfl (by kernel_rfl) (by kernel_rfl) (by kernel_rfl) (by rfl) (fun _ _ _ h => h) (by rfl) ?_ (by assumption) ?_
    rotate_left
    · intro w hSw; (try dsimp only at hSw); go_simp; try with_reducible rfl
    try simp only [Act.put, List.setIfInBounds_toArray, List.set_cons_zero, List.set_cons_succ]
    refine takeYes 16 (some 18) (v := ?_) rfl (by kernel_rfl) (by kernel_rfl) (by kernel_rfl) (by rfl) (fun _ _ _ h => h) (by rfl) ?_ (by assumption) ?_
    rotate_left
    · intro w hSw; (try dsimp only at hSw); go_simp; try with_reducible rfl
    try simp only [Act.put, List.setIfInBounds_toArray, List.set_cons_zero, List.set_cons_succ]
    refine takeYes 17 (some 19) (v := ?_) rfl (by kernel_rfl) (by kernel_rfl) (by kernel_rfl) (by rfl) (fun _ _ _ h => h) (by rfl) ?_ (by assumption) ?_
    rotate_left
    · intro w hSw; (try dsimp only at hSw); go_simp; try with_reducible rfl
    try simp only [Act.put, List.setIfInBounds_toArray, List.set_cons_zero, List.set_cons_succ]
    refine wpAnyH_ready (rs := [18]) (by kernel_rfl) (by simp) ?_
    refine AllReadyH.cons rfl (fun K hK => ?_) AllReadyH.nil
    go_simp
    refine hK.out _ _ (by first | assumption | exact StG.drew (by assumption) | exact StG.below (by assumption) (by assumption) | exact StG.alloc (by assumption) _ | exact HSET.out _ _ (by assumption)) (fun hHeld => ?_)
    clear hK K
    try simp only [Act.put, List.setIfInBounds_toArray, List.set_cons_zero, List.set_cons_succ]
    refine wpAnyH_done (by kernel_rfl) ?_ _
    have HRES := HFIN.out _ _ HUD.out HOV.out
    have HRH : Hid (OwnDevs (wD.setCell ⟨g, k * 4 + 3, none⟩ (.slice a1 nl.length c1')) base (.slice (some ⟨g, 0, none⟩) n cap) (ds.set k (setL' d nl)) ∧ w.grownBy (wD.setCell ⟨g, k * 4 + 3, none⟩ (.slice a1 nl.length c1')) (some g)) := HRES
    clear HRES x0 y2 yf c2d
    go_wp2_with fail
    go_end0
    exact ⟨rfl, HRH.out.1, HRH.out.2⟩

  ·
    go_simp
    (go_at_call 66; refine HA0.out.mono ?_; rintro e wC ⟨⟨g2, rfl, hsg⟩, hbC⟩; have HUC : Hid (Below W0.heap.size W0 wC) := hbC; have HSGC : Hid (SegsAt wC (some ⟨g2, 0, none⟩) [(at', 1)]) := hsg; have hSC : StG W0 g (fun o => o = k * 4 + 3) w.heap.size ob wC := StG.below hS hbC; have c2C : wC.cell? ⟨g, k * 4 + 3, none⟩ = some (.slice ao d.late.length co) := (hbC.cell (p := ⟨g, k * 4 + 3, none⟩) hgl0).trans c2; clear hbC hsg)
    refine hK.out _ _ (by first | assumption | exact StG.drew (by assumption) | exact StG.below (by assumption) (by assumption) | exact StG.alloc (by assumption) _ | exact HSET.out _ _ (by assumption)) (fun hHeld => ?_)
    clear hK K
    try simp only [Act.put, List.setIfInBounds_toArray, List.set_cons_zero, List.set_cons_succ]
    refine wpAnyH_ready (rs := [8]) (by kernel_rfl) (by simp) ?_
    refine AllReadyH.cons rfl (fun K hK => ?_) AllReadyH.nil
    go_simp
    refine hK.out _ _ (by first | assumption | exact StG.drew (by assumption) | exact StG.below (by assumption) (by assumption) | exact StG.alloc (by assumption) _ | exact HSET.out _ _ (by assumption)) (fun hHeld => ?_)
    clear hK K
    try simp only [Act.put, List.setIfInBounds_toArray, List.set_cons_zero, List.set_cons_succ]
    refine wpAnyH_ready (rs := [11]) (by kernel_rfl) (by simp) ?_
    refine AllReadyH.cons rfl (fun K hK => ?_) AllReadyH.nil
    go_simp
    refine hK.out _ _ (by first | assumption | exact StG.drew (by assumption) | exact StG.below (by assumption) (by assumption) | exact StG.alloc (by assumption) _ | exact HSET.out _ _ (by assumption)) (fun hHeld => ?_)
    clear hK K
    try simp only [Act.put, List.setIfInBounds_toArray, List.set_cons_zero, List.set_cons_succ]
    refine wpAnyH_ready (rs := [12]) (by kernel_rfl) (by simp) ?_
    refine AllReadyH.cons rfl (fun K hK => ?_) AllReadyH.nil
    go_simp
    (go_at_call 69; refine (HLS.out wC g2 HUC.out HSGC.out).mono ?_; rintro e wD ⟨⟨v1, er, rfl, ho1⟩, hbD⟩; obtain ⟨a1, c1', rfl, _⟩ := ho1.segV; have HUD : Hid (Below W0.heap.size W0 wD) := nwT HUC.out hbD; have HOV : Hid (OwnSegs wD base (.slice a1 nl.length c1') nl) := ho1; have hSD : StG W0 g (fun o => o = k * 4 + 3) w.heap.size ob wD := StG.below hSC hbD; obtain ⟨yu2, yk2⟩ := y2 wD hSD; have ykf := yf wD hSD)
    refine hK.out _ _ (by first | assumption | exact StG.drew (by assumption) | exact StG.below (by assumption) (by assumption) | exact StG.alloc (by assumption) _ | exact HSET.out _ _ (by assumption)) (fun hHeld => ?_)
    clear hK K
    try simp only [Act.put, List.setIfInBounds_toArray, List.set_cons_zero, List.set_cons_succ]
    refine takeYes 13 (some 2) (v := ?_) rfl (by kernel_rfl) (by kernel_rfl) (by kernel_rfl) (by rfl) (fun _ _ _ h => h) (by rfl) ?_ (by assumption) ?_
    rotate_left
    · intro w hSw; (try dsimp only at hSw); go_simp; try with_reducible rfl
    try simp only [Act.put, List.setIfInBounds_toArray, List.set_cons_zero, List.set_cons_succ]
    refine takeYes 14 (some 16) (v := ?_) rfl (by kernel_rfl) (by kernel_rfl) (by kernel_rfl) (by rfl) (fun _ _ _ h => h) (by rfl) ?_ (by assumption) ?_
    rotate_left
    · intro w hSw; (try dsimp only at hSw); go_simp; try with_reducible rfl
    try simp only [Act.put, List.setIfInBounds_toArray, List.set_cons_zero, List.set_cons_succ]
    refine takeYes 15 (some 17) (v := ?_) rfl (by kernel_rfl) (by kernel_rfl) (by kernel_rfl) (by rfl) (fun _ _ _ h => h) (by rfl) ?_ (by assumption) ?_
    rotate_left
    · intro w hSw; (try dsimp only at hSw); go_simp; try with_reducible rfl
    try simp only [Act.put, List.setIfInBounds_toArray, List.set_cons_zero, List.set_cons_succ]
    refine takeYes 16 (some 18) (v := ?_) rfl (by kernel_rfl) (by kernel_rfl) (by kernel_rfl) (by rfl) (fun _ _ _ h => h) (by rfl) ?_ (by assumption) ?_
    rotate_left
    · intro w hSw; (try dsimp only at hSw); go_simp; try with_reducible rfl
    try simp only [Act.put, List.setIfInBounds_toArray, List.set_cons_zero, List.set_cons_succ]
    refine takeYes 17 (some 19) (v := ?_) rfl (by kernel_rfl) (by kernel_rfl) (by kernel_rfl) (by rfl) (fun _ _ _ h => h) (by rfl) ?_ (by assumption) ?_
    rotate_left
    · intro w hSw; (try dsimp only at hSw); go_simp; try with_reducible rfl
    try simp only [Act.put, List.setIfInBounds_toArray, List.set_cons_zero, List.set_cons_succ]
    refine wpAnyH_ready (rs := [18]) (by kernel_rfl) (by simp) ?_
    refine AllReadyH.cons rfl (fun K hK => ?_) AllReadyH.nil
    go_simp
    refine hK.out _ _ (by first | assumption | exact StG.drew (by assumption) | exact StG.below (by assumption) (by assumption) | exact StG.alloc (by assumption) _ | exact HSET.out _ _ (by assumption)) (fun hHeld => ?_)
    clear hK K
    try simp only [Act.put, List.setIfInBounds_toArray, List.set_cons_zero, List.set_cons_succ]
    refine wpAnyH_done (by kernel_rfl) ?_ _
    have HRES := HFIN.out _ _ HUD.out HOV.out
    have HRH : Hid (OwnDevs (wD.setCell ⟨g, k * 4 + 3, none⟩ (.slice a1 nl.length c1')) base (.slice (some ⟨g, 0, none⟩) n cap) (ds.set k (setL' d nl)) ∧ w.grownBy (wD.setCell ⟨g, k * 4 + 3, none⟩ (.slice a1 nl.length c1')) (some g)) := HRES
    clear HRES x0 y2 yf c2d
    go_wp2_with fail
    go_end0
    exact ⟨rfl, HRH.out.1, HRH.out.2⟩

end Go.Proofs.Ytheomnafmjmpdaa

/- Commit, by the program. -/
namespace Go.Proofs.Ytheomnafmjmpdaa
open Go.RowKit

theorem valid_len : ∀ (l : List (Int × Int)) (m : Int), 0 ≤ m → m ≤ 65 → validFrom m l = true → (l.length : Int) ≤ 65 - m := by
  intro l
  induction l with
  | nil => intro m h0 h1 _; simp; omega
  | cons s r ih =>
    intro m h0 h1 h
    simp only [validFrom, Bool.and_eq_true, Bool.not_eq_true', decide_eq_false_iff_not] at h
    obtain ⟨⟨ha, hb⟩, hc⟩ := h
    obtain ⟨m0, m1, m2, m3⟩ := mayB_of ha
    have := ih (s.1 + s.2 + 1) (by omega) (by omega) hc
    rw [List.length_cons]
    omega
theorem vOk_len {l : List (Int × Int)} (h : vOk l = true) : l.length ≤ 65 := by
  have := valid_len l 0 (by omega) (by omega) h
  omega
theorem segs_len65 (p : Nat → Bool) : (segsOf p).length ≤ 65 := vOk_len (segsOf_ok p).1
theorem DevOk.small {d : DevD} (h : DevOk d) : SmallD d := ⟨by have := vOk_len h.free; omega, by have := vOk_len h.late; omega⟩
theorem gb_below {w w' : World} {g base : Nat} (h : w.grownBy w' (some g)) (hg : base ≤ g) (hb : base ≤ w.heap.size) : Below base w w' :=
  ⟨h.os, h.tape, h.output, h.size, fun k hk => h.block k (by omega) (fun e => by injection e with e; omega)⟩
theorem StkAt.act {w w' : World} {base : Nat} {la ga : Option Addr} {lc gc G : Nat} {ds ds' : List DevD} (h : StkAt w base la ga lc gc G ds) (hla : la = some ⟨G, 0, none⟩) (hO : OwnDevs w' base (.slice (some ⟨G, 0, none⟩) ds.length lc) ds') (hl : ds'.length = ds.length) (hg : w.grownBy w' (some G)) : StkAt w' base la ga lc gc G ds' := by
  subst hla
  refine ⟨by rw [hl]; exact hO, .inr rfl, ?_, h.bg.1, Nat.lt_of_lt_of_le h.bg.2 hg.size⟩
  rw [hl]
  obtain ⟨gs, _, ho, _⟩ := h.list
  exact own_other h.grp ho (by decide) hg
theorem StkAt.base_le {w : World} {base : Nat} {la ga : Option Addr} {lc gc G : Nat} {ds : List DevD} (h : StkAt w base la ga lc gc G ds) (h0 : 0 < ds.length) : la = some ⟨G, 0, none⟩ ∧ base ≤ G ∧ G < w.heap.size := by
  rcases h.at' with h1 | h1
  · omega
  · subst h1
    obtain ⟨gs, _, ho, _⟩ := h.list
    exact ⟨rfl, (World.ownsRow.lt ho G rfl).1, (World.ownsRow.lt ho G rfl).2⟩
def comU (ds : List DevD) (k : Nat) : List DevD := (ds.take k).map comD ++ ds.drop k
theorem comU_len (ds : List DevD) (k : Nat) (hk : k ≤ ds.length) : (comU ds k).length = ds.length := by simp [comU]; omega
theorem comU_get (ds : List DevD) {k : Nat} (hk : k < ds.length) : (comU ds k).getD k DZ = ds.getD k DZ := by
  unfold comU
  have h1 : ((ds.take k).map comD).length = k := by rw [List.length_map, List.length_take]; omega
  simp only [List.getD]
  rw [List.getElem?_append_right (by omega), h1, List.getElem?_drop]
  simp
theorem comU_succ (ds : List DevD) {k : Nat} (hk : k < ds.length) : (comU ds k).set k (comD (ds.getD k DZ)) = comU ds (k + 1) := by
  unfold comU
  have h1 : ((ds.take k).map comD).length = k := by rw [List.length_map, List.length_take]; omega
  rw [List.set_append_right _ _ (by omega), h1, Nat.sub_self, List.take_succ_eq_append_getElem hk, List.map_append, List.append_assoc]
  congr 1
  have e : ds.drop k = ds[k] :: ds.drop (k + 1) := List.drop_eq_getElem_cons hk
  rw [e, List.set_cons_zero, show ds.getD k DZ = ds[k] from by simp [List.getD, hk]]
  rfl
theorem comU_zero (ds : List DevD) : comU ds 0 = ds := by simp [comU]
theorem comU_all (ds : List DevD) {k : Nat} (hk : ds.length ≤ k) : comU ds k = ds.map comD := by
  unfold comU
  rw [List.take_of_length_le hk, List.drop_of_length_le hk, List.append_nil]

set_option maxRecDepth 100000 in
set_option maxHeartbeats 2000000 in
theorem gcommit_any (base : Nat) (la ga : Option Addr) (lc gc G : Nat) (ds : List DevD) (w : World) (h : StkAt w base la ga lc gc G ds) (hok : DevsOk ds) :
    Calls Try.prog 36 #[.slice ga ds.length gc] w fun e w' => e = .returned (.tuple #[]) ∧ StkAt w' base la ga lc gc G (ds.map comD) ∧ w.grownBy w' (some G) := by
  have HS0 : Hid (StkAt w base la ga lc gc G (comU ds 0)) := by rw [comU_zero]; exact h
  have HOK : Hid (DevsOk ds) := hok
  have h6 := hok.1
  clear h hok
  go_enter Try.func36, Try.ntmps36
  go_wp2_with fail
  go_loopw [6] (fun i wr => ∃ (k : Nat), k ≤ ds.length ∧ i = .int .i64 k ∧ Hid (StkAt wr base la ga lc gc G (comU ds k)) ∧ Hid (w.grownBy wr (some G)))
    (fun i _ => ds.length - (intOf i).toNat)
  case atStart => exact ⟨0, by omega, rfl, HS0, gbOf (nwR w) _⟩
  case round =>
    obtain ⟨k, hk, rfl, HSr, HGr⟩ := hrel
    by_cases hkl : k < ds.length
    · have hkli : (k : Int) < (ds.length : Int) := by omega
      have hlen := comU_len ds k hk
      obtain ⟨hla, hbG, hGl⟩ := HSr.out.base_le (by omega)
      obtain ⟨hgA, _⟩ := HSr.out.grpAt
      rw [hlen] at hgA
      obtain ⟨g, q, rfl, hcell⟩ := hgA.cell (i := k) (by rw [List.length_range]; exact hkl)
      rw [range_getD hkl] at hcell
      have hcell' : wr.cell? ⟨g, q + k, none⟩ = some (.pointer (some ⟨G, k * 4, none⟩)) := by rw [hcell]; simp [ptrD]
      obtain ⟨W1, hW1⟩ : ∃ W1, W1 = wr.alloc (.cells #[.pointer (some ⟨G, k * 4, none⟩)] 78) := ⟨_, rfl⟩
      have hb1 : Below wr.heap.size wr W1 := by rw [hW1]; exact nwA (nwR wr) _
      obtain ⟨x0, _⟩ := one (show W1.heap[wr.heap.size]? = some (.cells #[.pointer (some ⟨G, k * 4, none⟩)] 78 (0, 0)) by rw [hW1]; exact heap_alloc_new wr _)
      have HS1 : Hid (StkAt W1 base la (some ⟨g, q, none⟩) lc gc G (comU ds k)) := HSr.out.below hb1
      have HG1 : Hid (w.grownBy W1 (some G)) := HGr.out.trans (gbOf hb1 _)
      have HLA : Hid (la = some ⟨G, 0, none⟩) := hla
      have HDC : Hid (Calls Try.prog 58 #[.agg #[.pointer (some ⟨G, k * 4, none⟩)]] W1 fun e w' => e = .returned (.tuple #[]) ∧ StkAt w' base la (some ⟨g, q, none⟩) lc gc G (comU ds (k + 1)) ∧ W1.grownBy w' (some G)) := by
        have hli := HS1.out.list
        rw [hla] at hli
        have hdk := HOK.out.2 k hkl
        refine (dcommit_any base G (comU ds k).length lc k (comU ds k) W1 hli rfl (by rw [hlen]; exact hkl) (by rw [comU_get ds hkl]; exact hdk.2.small) (by rw [comU_get ds hkl]; exact hdk.2)).mono ?_
        rintro e w' ⟨rfl, ho, hg⟩
        rw [comU_get ds hkl, comU_succ ds hkl] at ho
        exact ⟨rfl, HS1.out.act hla ho (by rw [comU_len ds (k + 1) (by omega), hlen]) hg, hg⟩
      rw [hW1] at x0
      clear hla hbG hGl hgA hcell hlen hb1 HSr
      go_wp2_with fail
      rw [← hW1]
      clear hW1 x0 hcell'
      refine HDC.out.mono ?_
      rintro e w2 ⟨rfl, hs2, hg2⟩
      have HS2 : Hid (StkAt w2 base la (some ⟨g, q, none⟩) lc gc G (comU ds (k + 1))) := hs2
      have HG2 : Hid (w.grownBy w2 (some G)) := HG1.out.trans hg2
      clear hs2 hg2 HDC
      go_wp2_with fail
      go_roundw
      case rel => exact ⟨k + 1, by omega, by go_num, HS2, HG2⟩
      case measure => simp [intOf]; omega
    · have hkli : ¬ (k : Int) < (ds.length : Int) := by omega
      have HF : Hid (StkAt wr base la ga lc gc G (ds.map comD)) := by have := HSr.out; rw [comU_all ds (by omega)] at this; exact this
      go_wp2_with fail
      go_end0
      exact ⟨rfl, HF.out, HGr.out⟩

def ActR (ds : List DevD) (r : List DevD) (base : Nat) (e : Ending) (w' : World) : Prop := (¬ DevsOk ds ∧ e = .returned (.tuple #[.slice none 0 0, .int .i64 1])) ∨ (DevsOk ds ∧ ∃ u, e = .returned (.tuple #[u, .int .i64 0]) ∧ OwnDevs w' base u r)
set_option maxRecDepth 100000 in
set_option maxHeartbeats 2000000 in
theorem commit_dev (a : Option Addr) (ds : List DevD) (ca : Nat) (w : World) (hd : DevsAt w a ds) (hn : NilOk a ca ds.length) (hs : SmallL ds) :
    Calls Try.prog 11 #[.slice a ds.length ca] w fun e w' => ActR ds (ds.map comD) w.heap.size e w' ∧ Below w.heap.size w w' := by
  have HO : Hid (Calls Try.prog 35 #[.slice a ds.length ca] w fun e w' => OpenR ds w.heap.size e w' ∧ Below w.heap.size w w') := open_any a ds ca w hd hn hs
  clear hd hn hs
  go_enter Try.func11, Try.ntmps11
  go_wp2_with fail
  refine HO.out.mono ?_
  rintro e w1 ⟨ho, hb1⟩
  have HB1 : Hid (Below w.heap.size w w1) := hb1
  clear HO hb1
  rcases ho with ⟨hno, rfl⟩ | ⟨hok, la, lc, ga, gc, G, rfl, hst⟩
  · have HQ : Hid (∀ w', ActR ds (ds.map comD) w.heap.size (.returned (.tuple #[.slice none 0 0, .int .i64 1])) w') := fun _ => .inl ⟨hno, rfl⟩
    clear hno
    go_wp2_with fail
    go_ret2
    exact ⟨HQ.out _, nwA HB1.out _⟩
  · have HOK : Hid (DevsOk ds) := hok
    obtain ⟨W2, hW2⟩ : ∃ W2, W2 = w1.alloc (.cells #[.slice ga ds.length gc, .slice la ds.length lc] 71) := ⟨_, rfl⟩
    have hb12 : Below w1.heap.size w1 W2 := by rw [hW2]; exact nwA (nwR w1) _
    have hx2 : W2.heap[w1.heap.size]? = some (.cells #[.slice ga ds.length gc, .slice la ds.length lc] 71 (0, 0)) := by rw [hW2]; exact heap_alloc_new w1 _
    have HB2 : Hid (Below w.heap.size w W2) := nwT HB1.out hb12
    have HX2 : Hid (W2.heap[w1.heap.size]? = some (.cells #[.slice ga ds.length gc, .slice la ds.length lc] 71 (0, 0))) := hx2
    have hst2 := hst.below hb12
    have HGC : Hid (Calls Try.prog 36 #[.slice ga ds.length gc] W2 fun e w' => e = .returned (.tuple #[]) ∧ StkAt w' w.heap.size la ga lc gc G (ds.map comD) ∧ Below w.heap.size W2 w' ∧ w'.heap[w1.heap.size]? = some (.cells #[.slice ga ds.length gc, .slice la ds.length lc] 71 (0, 0))) := by
      refine (gcommit_any w.heap.size la ga lc gc G ds W2 hst2 HOK.out).mono ?_
      rintro e w' ⟨rfl, h1, h2⟩
      have hw1 : w.heap.size ≤ w1.heap.size := HB1.out.size
      have hbg := hst.bg
      exact ⟨rfl, h1, gb_below h2 hbg.1 (by have := hb12.size; omega), (h2.block _ (Array.getElem?_eq_some_iff.1 HX2.out).1 (fun e => by injection e with e; omega)).trans HX2.out⟩
    obtain ⟨x0, x1, _⟩ := two hx2
    rw [hW2] at x0 x1
    clear hok hst hst2 hb12 hx2
    go_wp2_with fail
    rw [← hW2]
    clear hW2 x0 x1
    refine HGC.out.mono ?_
    rintro e w3 ⟨rfl, hs3, hb3, hx3⟩
    obtain ⟨x0, x1, _⟩ := two hx3
    have hli := hs3.list
    rw [List.length_map] at hli
    have HQ : Hid (ActR ds (ds.map comD) w.heap.size (.returned (.tuple #[.slice la ds.length lc, .int .i64 0])) w3) := .inr ⟨HOK.out, _, rfl, hli⟩
    have HB3 : Hid (Below w.heap.size w w3) := HB2.out.trans hb3
    clear hs3 hli hb3 HGC hx3
    go_wp2_with fail
    go_ret2
    exact ⟨HQ.out, HB3.out⟩

end Go.Proofs.Ytheomnafmjmpdaa
