/- The lengths and pieces that the laws look at. -/
import Derived.Test.YtifbnojkjbjngaaDoorRows2
import Derived.Test.YtifbnojkjbjngaaDoorGrows
namespace Go.Proofs.YtifbnojkjbjngaaDoor
open Go.RowKit

def TextsPost (w : World) (e : Ending) (w' : World) : Prop := ∃ (NN : List Int) (LL : List (List ByteArray)) (aN : Option Addr) (cN : Nat) (aL : Option Addr) (cL : Nat), e = .returned (.tuple #[.slice aN NN.length cN, .slice aL LL.length cL]) ∧ NN.length = LL.length ∧ NN.length ≤ 15 ∧ IntsAt w' aN NN ∧ RowsAt w' aL LL ∧ (∀ x ∈ LL, x.length ≤ 4000) ∧ Below w.heap.size w w'

def TxR (w : World) (NN : List Int) (LL : List (List ByteArray)) (v4 v5 : Value) (wr : World) : Prop := NN.length = LL.length ∧ OwnInts wr w.heap.size v4 NN ∧ OwnRows wr w.heap.size v5 LL ∧ (∀ x ∈ LL, x.length ≤ 4000) ∧ Below w.heap.size w wr

theorem wgt_le {x : List ByteArray} {l : List (List ByteArray)} (h : x ∈ l) : wgt x ≤ wgts l := by
  induction l with
  | nil => simp at h
  | cons y ys ih =>
    have e : wgts (y :: ys) = wgt y + wgts ys := by simp [wgts]
    rw [e]
    rcases List.mem_cons.1 h with rfl | h
    · omega
    · have := ih h; omega
theorem len_app {l m : List (List ByteArray)} (h1 : ∀ x ∈ l, x.length ≤ 4000) (h2 : ∀ x ∈ m, x.length ≤ 4000) : ∀ x ∈ l ++ m, x.length ≤ 4000 := by
  intro x hx
  rcases List.mem_append.1 hx with h | h
  · exact h1 x h
  · exact h2 x h
theorem OwnInts.snoc2 {w : World} {base : Nat} {v : Value} {ns : List Int} {x y : Int} (h : w.ownsRow base 3 1 v (ns.length + 2) (ns.map (.int .i64) ++ [.int .i64 x, .int .i64 y])) : OwnInts w base v (ns ++ [x, y]) := by
  unfold OwnInts
  rw [List.map_append, List.length_append]; exact h
theorem two_rows {w : World} {base : Nat} {u : Value} {X : List ByteArray} (h : RowVal w base u X) : ∀ j, j < [X, X].length → ∃ v, [u, u][j]? = some v ∧ RowVal w base v ([X, X].getD j []) := by
  intro j hj
  match j, hj with
  | 0, _ => exact ⟨u, rfl, h⟩
  | 1, _ => exact ⟨u, rfl, h⟩
theorem two_len {X : List ByteArray} (h : X.length ≤ 4000) : ∀ x ∈ [X, X], x.length ≤ 4000 := by
  intro x hx
  have : x = X := by simpa using hx
  rw [this]; exact h
theorem light_l {d : AskD} (h : Light d) : ∀ x ∈ d.l, x.length ≤ 4000 := by
  intro x hx
  have h1 : wgt x ≤ wgts d.l := by
    exact wgt_le hx
  unfold Light at h
  unfold wgt at h1
  omega

set_option maxRecDepth 100000 in
set_option maxHeartbeats 8000000 in
theorem texts_law (v : Value) (d : AskD) (w : World) (hv : AskVal w v d) (hli : Light d) : Calls Tryd.prog 13 #[v] w (TextsPost w) := by
  have HLL : Hid (∀ x ∈ d.l, x.length ≤ 4000) := light_l hli
  have HLS : Hid (∀ x ∈ d.s, x.size ≤ 4000) := light_s hli
  obtain ⟨aS, cS, aL, cL, aN, cN, rfl, ⟨hS, hcS, hzS⟩, ⟨hL, hcL, _, _⟩, ⟨hN, hcN, _, _⟩⟩ := hv
  have HS : Hid (StrsAt w aS d.s) := hS
  have HL : Hid (RowsAt w aL d.l) := hL
  have HN : Hid (IntsAt w aN d.n) := hN
  clear hS hL hN hcS hcL hcN hzS
  have hlS : d.s.length ≤ 4000 := by unfold Light wgt at hli; omega
  have hlN : d.n.length ≤ 4000 := by unfold Light wgt at hli; omega
  clear hli
  obtain ⟨S, L, N⟩ := d
  simp only at *
  obtain ⟨i3, hi3, hz30, hz31, hz32⟩ := info_parts Tryd.info3
  obtain ⟨i22, hi22, hz220, hz221, hz222⟩ := info_parts Tryd.info22
  go_enter Tryd.func13, Tryd.ntmps13
  go_wp2_with fail
  have hb0 := nwA (nwR w) (.cells #[.slice aS S.length cS, .slice aL L.length cL, .slice aN N.length cN] 26)
  have c0 : (w.alloc (.cells #[.slice aS S.length cS, .slice aL L.length cL, .slice aN N.length cN] 26)).cell? ⟨w.heap.size, 0, none⟩ = some (.slice aS S.length cS) := by simp
  have c1 : (w.alloc (.cells #[.slice aS S.length cS, .slice aL L.length cL, .slice aN N.length cN] 26)).cell? ⟨w.heap.size, 1, none⟩ = some (.slice aL L.length cL) := by simp
  have c2 : (w.alloc (.cells #[.slice aS S.length cS, .slice aL L.length cL, .slice aN N.length cN] 26)).cell? ⟨w.heap.size, 2, none⟩ = some (.slice aN N.length cN) := by simp
  generalize w.alloc (.cells #[.slice aS S.length cS, .slice aL L.length cL, .slice aN N.length cN] 26) = W1 at hb0 c0 c1 c2 ⊢
  have HB0 : Hid (Below w.heap.size w W1) := hb0
  generalize hgB : w.heap.size = gB at c0 c1 c2 ⊢
  have HC0 : Hid (∀ w', Below W1.heap.size W1 w' → w'.cell? ⟨gB, 0, none⟩ = some (.slice aS S.length cS)) := fun w' h => (h.cell (p := ⟨gB, 0, none⟩) (block_lt_of_cell c0)).trans c0
  have HC1 : Hid (∀ w', Below W1.heap.size W1 w' → w'.cell? ⟨gB, 1, none⟩ = some (.slice aL L.length cL)) := fun w' h => (h.cell (p := ⟨gB, 1, none⟩) (block_lt_of_cell c1)).trans c1
  have HC2 : Hid (∀ w', Below W1.heap.size W1 w' → w'.cell? ⟨gB, 2, none⟩ = some (.slice aN N.length cN)) := fun w' h => (h.cell (p := ⟨gB, 2, none⟩) (block_lt_of_cell c2)).trans c2
  have HS1 : Hid (StrsAt W1 aS S) := HS.out.below hb0
  have HL1 : Hid (RowsAt W1 aL L) := HL.out.below hb0
  have HN1 : Hid (IntsAt W1 aN N) := HN.out.below hb0
  clear c0 c1 c2 HS HL HN hb0 hgB
  go_loopw [4, 5, 6] (fun v4 v5 i wr => ∃ (k : Nat) (NN : List Int) (LL : List (List ByteArray)), k ≤ S.length ∧ k ≤ 5 ∧ i = .int .i64 k ∧ NN.length ≤ k ∧ TxR W1 NN LL v4 v5 wr) (fun _ _ i _ => S.length - (intOf i).toNat)
  case atStart => exact ⟨0, [], [], by omega, by omega, rfl, by simp, rfl, World.ownsRow_nil _ _ _ _, OwnRows.nil _ _, fun x hx => by simp at hx, nwR W1⟩
  case round =>
    obtain ⟨k, NN, LL, hk, hk5, rfl, hNl, hNL, hO4, hO5, hxl, hb⟩ := hrel
    have HO4 : Hid (OwnInts wr W1.heap.size u4 NN) := hO4
    have HO5 : Hid (OwnRows wr W1.heap.size u5 LL) := hO5
    have HXL : Hid (∀ x ∈ LL, x.length ≤ 4000) := hxl
    have HNL : Hid (NN.length = LL.length) := hNL
    have c0 := HC0.out _ hb
    clear hO4 hO5 hxl hNL
    by_cases hk1 : (k : Int) < (S.length : Int) ∧ (k : Int) < 5
    · obtain ⟨hk2, hk3⟩ := hk1
      have hkS : k < S.length := by omega
      obtain ⟨b1, o1, rfl, hc1⟩ := HS1.out.cell hkS
      have hc2 : wr.cell? ⟨b1, o1 + k, none⟩ = some (.string (S.getD k ByteArray.empty)) := (hb.cell (p := ⟨b1, o1 + k, none⟩) (block_lt_of_cell hc1)).trans hc1
      have HCS : Hid (∀ w', Below W1.heap.size W1 w' → w'.cell? ⟨b1, o1 + k, none⟩ = some (.string (S.getD k ByteArray.empty))) := fun w' h => (h.cell (p := ⟨b1, o1 + k, none⟩) (block_lt_of_cell hc1)).trans hc1
      have hs4 := HLS.out _ (mem_getD hkS)
      generalize S.getD k ByteArray.empty = s at hc2 hs4 HCS
      clear hc1
      by_cases hs2 : (s.size : Int) ≤ 200
      case neg =>
        go_wp2_with fail
        go_roundw
        case rel => exact ⟨k + 1, NN, LL, by omega, by omega, by go_num, by omega, HNL.out, HO4.out, HO5.out, HXL.out, hb⟩
        case measure => simp [intOf]; omega
      case pos =>
        have hsz : W1.heap.size ≤ (wr.alloc (.cells #[.int .i64 (s.size : Int)] 3)).heap.size := (nwA hb _).size
        have hc3 : NN.length + 1 ≤ maxLen := by unfold maxLen; omega
        have hc4 : (NN.length + 1) * 8 ≤ 140737488355328 := by omega
        go_wp2_with (at_builtin; refine wpList_append_own _ rfl (.tmp 27) (.tmp 34) 24 rfl W1.heap.size 3 i3 (.int .i64 0) 1 8 Tryd.underlying24 hi3 hz30 hz31 hz32 rfl (by decide) u4 NN.length (NN.map (.int .i64)) rfl (World.ownsRow.alloc HO4.out _) ⟨wr.heap.size, 0, none⟩ 1 1 [.int .i64 (s.size : Int)] rfl rfl (cells_new _ [.int .i64 (s.size : Int)] _) (by simp [Value.oneCell']) hc3 hc4 hsz ?_; intro v' w3 hown hgrow _; refine unstop ?_)
        unfold Stop
        have hb3 : Below W1.heap.size W1 w3 := (nwA hb _).grown hgrow (nwA hb _).size (fun q e => (HO4.out.lt q e).1)
        have HO4' : Hid (OwnInts w3 W1.heap.size v' (NN ++ [(s.size : Int)])) := OwnInts.snoc hown
        have HO5' : Hid (OwnRows w3 W1.heap.size u5 LL) := (HO5.out.below (nwA (nwR wr) _)).grownN (World.ownsRow.alloc HO4.out _) hgrow
        have c0' := HC0.out _ hb3
        have hc2' := HCS.out _ hb3
        clear hown hgrow HO4 HO5 c0 hc2
        go_wp2_with fail
        refine (rcut_any s _ (by omega)).mono ?_
        rintro e w4 ⟨⟨v8, rfl, ho8⟩, hb8⟩
        have hb4 : Below W1.heap.size W1 w4 := nwT hb3 hb8
        obtain ⟨a8, c8, rfl, hin8, hcap8⟩ := StrsIn.own (base := W1.heap.size) ho8
        have hpl : (pcs (ls s)).length ≤ 4000 := by rw [pcs_len, ls_size]; unfold many; omega
        have HIN8 : Hid (StrsIn w4 W1.heap.size a8 (pcs (ls s))) := hin8
        have HCP8 : Hid (CapOk a8 c8 (pcs (ls s)).length) := hcap8
        have HO4b : Hid (OwnInts w4 W1.heap.size v' (NN ++ [(s.size : Int)])) := own_below HO4'.out hb8
        have HO5b : Hid (OwnRows w4 W1.heap.size u5 LL) := HO5'.out.below hb8
        clear ho8 hin8 hcap8 hb8 HO4' HO5' c0' hc2' hb3
        generalize pcs (ls s) = X at HIN8 HCP8 hpl
        obtain ⟨vs, hr5, hx5⟩ := HO5b.out
        have HR5 : Hid (w4.ownsRow W1.heap.size 22 1 u5 LL.length vs) := hr5
        have HX5 : Hid (∀ j, j < LL.length → ∃ u, vs[j]? = some u ∧ RowVal w4 W1.heap.size u (LL.getD j [])) := hx5
        clear hr5 hx5
        have hsz2 : W1.heap.size ≤ (w4.alloc (.cells #[.slice a8 X.length c8] 22)).heap.size := (nwA hb4 _).size
        have hd3 : LL.length + 1 ≤ maxLen := by have := HNL.out; unfold maxLen; omega
        have hd4 : (LL.length + 1) * 24 ≤ 140737488355328 := by have := HNL.out; omega
        go_wp2_with (at_builtin; refine wpList_append_own _ rfl (.tmp 36) (.tmp 43) 23 rfl W1.heap.size 22 i22 (.slice none 0 0) 1 24 Tryd.underlying23 hi22 hz220 hz221 hz222 rfl (by decide) u5 LL.length vs rfl (World.ownsRow.alloc HR5.out _) ⟨w4.heap.size, 0, none⟩ 1 1 [.slice a8 X.length c8] rfl rfl (cells_new _ [.slice a8 X.length c8] _) (by simp [Value.oneCell']) hd3 hd4 hsz2 ?_; intro v5' w5 hown hgrow _; refine unstop ?_)
        unfold Stop
        have hb5 : Below W1.heap.size W1 w5 := (nwA hb4 _).grown hgrow (nwA hb4 _).size (fun q e => (HR5.out.lt q e).1)
        have hal := nwA (nwR w4) (.cells #[.slice a8 X.length c8] 22)
        have HO4c : Hid (OwnInts w5 W1.heap.size v' (NN ++ [(s.size : Int)])) := own_kept (own_below HO4b.out hal) (World.ownsRow.alloc HR5.out _) (by decide) hgrow
        have HO5c : Hid (OwnRows w5 W1.heap.size v5' (LL ++ [X])) := OwnRows.more (World.ownsRow.alloc HR5.out _) (fun j hj => by obtain ⟨u, hu, hv⟩ := HX5.out j hj; exact ⟨u, hu, hv.below hal⟩) hgrow hown (fun j hj => by
          have ej : j = 0 := by simpa using hj
          subst ej
          exact ⟨_, rfl, a8, c8, rfl, HIN8.out.below hal, HCP8.out⟩)
        clear hown hgrow hal HO4b HO5b HX5 HR5 hb4
        go_wp2_with fail
        go_roundw
        case rel => exact ⟨k + 1, NN ++ [(s.size : Int)], LL ++ [X], by omega, by omega, by go_num, by rw [List.length_append, List.length_singleton]; omega, by rw [List.length_append, List.length_append, HNL.out]; rfl, HO4c.out, HO5c.out, len_app HXL.out (fun x hx => by rw [List.mem_singleton.1 hx]; exact hpl), hb5⟩
        case measure => simp [intOf]; omega
    · by_cases hk2 : (k : Int) < (S.length : Int)
      · have hk5' : ¬ (k : Int) < 5 := fun h => hk1 ⟨hk2, h⟩
        clear hk1
        go_wp2_with fail
        go_loopw [4, 5, 7] (fun v4 v5 i wr => ∃ (m : Nat) (NN : List Int) (LL : List (List ByteArray)), m ≤ L.length ∧ m ≤ 5 ∧ i = .int .i64 m ∧ NN.length ≤ 5 + 2 * m ∧ TxR W1 NN LL v4 v5 wr) (fun _ _ i _ => L.length - (intOf i).toNat)
        case atStart => exact ⟨0, NN, LL, by omega, by omega, rfl, by omega, HNL.out, HO4.out, HO5.out, HXL.out, hb⟩
        case round =>
          clear HO4 HO5 HXL HNL c0 hNl hk hk5
          obtain ⟨m, NN, LL, hm, hm5, rfl, hNl, hNL, hO4, hO5, hxl, hb⟩ := hrel
          have HO4 : Hid (OwnInts wr W1.heap.size u4 NN) := hO4
          have HO5 : Hid (OwnRows wr W1.heap.size u5 LL) := hO5
          have HXL : Hid (∀ x ∈ LL, x.length ≤ 4000) := hxl
          have HNL : Hid (NN.length = LL.length) := hNL
          have c1 := HC1.out _ hb
          clear hO4 hO5 hxl hNL
          by_cases hm1 : (m : Int) < (L.length : Int) ∧ (m : Int) < 5
          · obtain ⟨hm2, hm3⟩ := hm1
            have hmL : m < L.length := by omega
            obtain ⟨b1, o1, rfl, aR, cR, hcR, hsR, hcapR⟩ := HL1.out.row hmL
            have HCR : Hid (∀ w', Below W1.heap.size W1 w' → w'.cell? ⟨b1, o1 + m, none⟩ = some (.slice aR (L.getD m []).length cR)) := fun w' h => (h.cell (p := ⟨b1, o1 + m, none⟩) (block_lt_of_cell hcR)).trans hcR
            have hlR := HLL.out (L.getD m []) (by simp [List.getD, hmL])
            have HSR : Hid (StrsIn W1 W1.heap.size aR (L.getD m [])) := StrsIn.old hsR rfl
            have HSC : Hid (CapOk aR cR (L.getD m []).length) := hcapR
            generalize L.getD m [] = X at HCR hlR HSR HSC
            clear hcR hsR hcapR
            have c2 := HC2.out _ hb
            by_cases hN0 : (0 : Int) < (N.length : Int)
            · obtain ⟨r, hr⟩ : ∃ r, m % N.length = r := ⟨_, rfl⟩
              have hrN : r < N.length := by rw [← hr]; exact Nat.mod_lt _ (by omega)
              have hrI : (m : Int).tmod (N.length : Int) = (r : Int) := by rw [Int.tmod_eq_emod_of_nonneg (by omega), ← hr]; omega
              obtain ⟨b2, o2, rfl, hcn⟩ := HN1.out.cell hrN
              have hcn2 : wr.cell? ⟨b2, o2 + r, none⟩ = some (.int .i64 (N.getD r 0)) := (hb.cell (p := ⟨b2, o2 + r, none⟩) (block_lt_of_cell hcn)).trans hcn
              generalize N.getD r 0 = x at hcn2
              clear hcn hr
              have hrNi : (r : Int) < (N.length : Int) := by omega
              have hNz : ¬ (N.length : Int) = 0 := by omega
              have hNn : ¬ N.length = 0 := by omega
              go_wp2_with fail
              have z2 : ∀ p : Kin wr, p.u.cell? ⟨gB, 2, none⟩ = some (.slice (some ⟨b2, o2, none⟩) N.length cN) := fun p => kcell c2 p
              have zn : ∀ p : Kin wr, p.u.cell? ⟨b2, o2 + r, none⟩ = some (.int .i64 x) := fun p => kcell hcn2 p
              refine wp_region_kin (by kernel_rfl) (by kernel_rfl) ?_
              repeat (first | go_big_quiet_step (fail) | quiet_step (fail))
              refine wpQuiet_nil ?_
              intro _ hw'
              obtain ⟨pq, hw''⟩ := hw'
              subst hw''
              clear z2 zn hrI hcn2 c1 c2
              have hbq := nwT hb pq.h
              have HO4q : Hid (OwnInts pq.u W1.heap.size u4 NN) := own_below HO4.out pq.h
              have HO5q : Hid (OwnRows pq.u W1.heap.size u5 LL) := HO5.out.below pq.h
              clear HO4 HO5 hb
              have hb := hbq
              have HO4 := HO4q
              have HO5 := HO5q
              clear hbq HO4q HO5q
              generalize pq.u = wr at hb HO4 HO5 ⊢
              have c1 := HC1.out _ hb
              have c2 := HC2.out _ hb
              have hsz : W1.heap.size ≤ (wr.alloc (.cells #[.int .i64 x, .int .i64 (32 * (X.length : Int))] 3)).heap.size := (nwA hb _).size
              have hc3 : NN.length + 2 ≤ maxLen := by unfold maxLen; omega
              have hc4 : (NN.length + 2) * 8 ≤ 140737488355328 := by omega
              have cR1 := HCR.out _ hb
              go_wp2_with (at_builtin; refine wpList_append_own _ rfl (.tmp 69) (.tmp 78) 24 rfl W1.heap.size 3 i3 (.int .i64 0) 1 8 Tryd.underlying24 hi3 hz30 hz31 hz32 rfl (by decide) u4 NN.length (NN.map (.int .i64)) rfl (World.ownsRow.alloc HO4.out _) ⟨wr.heap.size, 0, none⟩ 2 2 [.int .i64 x, .int .i64 (32 * (X.length : Int))] rfl rfl (cells_new _ [.int .i64 x, .int .i64 (32 * (X.length : Int))] _) (by simp [Value.oneCell']) hc3 hc4 hsz ?_; intro v' w3 hown hgrow _; refine unstop ?_)
              unfold Stop
              have hb3 : Below W1.heap.size W1 w3 := (nwA hb _).grown hgrow (nwA hb _).size (fun q e => (HO4.out.lt q e).1)
              have HO4' : Hid (OwnInts w3 W1.heap.size v' (NN ++ [x, 32 * (X.length : Int)])) := OwnInts.snoc2 hown
              have HO5' : Hid (OwnRows w3 W1.heap.size u5 LL) := (HO5.out.below (nwA (nwR wr) _)).grownN (World.ownsRow.alloc HO4.out _) hgrow
              clear hown hgrow HO4 HO5 c1 c2 cR1
              go_wp2_with fail
              obtain ⟨vs, hr5, hx5⟩ := HO5'.out
              have HR5 : Hid (w3.ownsRow W1.heap.size 22 1 u5 LL.length vs) := hr5
              have HX5 : Hid (∀ j, j < LL.length → ∃ u, vs[j]? = some u ∧ RowVal w3 W1.heap.size u (LL.getD j [])) := hx5
              clear hr5 hx5
              have hd3 : LL.length + 2 ≤ maxLen := by have := HNL.out; unfold maxLen; omega
              have hd4 : (LL.length + 2) * 24 ≤ 140737488355328 := by have := HNL.out; omega
              have y1 : ∀ w', Below W1.heap.size W1 w' → w'.cell? ⟨gB, 1, none⟩ = some (.slice (some ⟨b1, o1, none⟩) L.length cL) := fun w' h => HC1.out _ h
              have y2 : ∀ w', Below W1.heap.size W1 w' → w'.cell? ⟨b1, o1 + m, none⟩ = some (.slice aR X.length cR) := fun w' h => HCR.out _ h
              have hb3d := Below.drew hb3
              have HDW : Hid (Below w3.heap.size w3 (w3.alloc (.cells #[.slice aR X.length cR, .slice aR X.length cR] 22)).drew) := Below.drew (nwA (nwR _) _)
              have HDB : Hid (Below W1.heap.size W1 (w3.alloc (.cells #[.slice aR X.length cR, .slice aR X.length cR] 22)).drew) := Below.drew (nwA hb3 _)
              go_region_held3 (fun w' => Below W1.heap.size W1 w') (first | assumption | exact Below.drew (by assumption) | exact nwA (by assumption) _ | exact Below.drew (nwA (by assumption) _)) (first
                | (refine step_append_src (by rfl) (.tmp 80) (.tmp 91) 23 (by rfl) W1.heap.size 22 i22 (.slice none 0 0) 1 24 Tryd.underlying23 hi22 hz220 hz221 hz222 rfl (by decide) u5 LL.length vs (by simp [Act.eval]) (by exact own_below HR5.out HDW.out) (some ⟨w3.heap.size, 0, none⟩) 2 2 [.slice aR X.length cR, .slice aR X.length cR] (by simp [Act.eval]) rfl (fun e => by cases e) (by intro p e; injection e with e; subst e; exact cells_kept (Below.drew (nwR _)) (cells_new _ [.slice aR X.length cR, .slice aR X.length cR] _)) (by simp [Value.oneCell']) hd3 hd4 (by exact HDB.out.size) ?_; intro v5' w5 hown hgrow; have hb5 : Below W1.heap.size W1 w5 := HDB.out.grown hgrow HDB.out.size (fun q e => (HR5.out.lt q e).1); have HO4c : Hid (OwnInts w5 W1.heap.size v' (NN ++ [x, 32 * (X.length : Int)])) := own_kept (own_below HO4'.out HDW.out) (own_below HR5.out HDW.out) (by decide) hgrow; have HO5c : Hid (OwnRows w5 W1.heap.size v5' (LL ++ [X, X])) := OwnRows.more (own_below HR5.out HDW.out) (fun j hj => by obtain ⟨u, hu, hv⟩ := HX5.out j hj; exact ⟨u, hu, hv.below HDW.out⟩) hgrow hown (two_rows ⟨aR, cR, rfl, HSR.out.below HDB.out, HSC.out⟩); clear hown hgrow)
                | fail)
              clear y1 y2 HX5 HR5
              go_wp2_with fail
              go_roundw
              case rel => exact ⟨m + 1, NN ++ [x, 32 * (X.length : Int)], LL ++ [X, X], by omega, by omega, by go_num, by rw [List.length_append]; simp; omega, by rw [List.length_append, List.length_append, HNL.out]; rfl, HO4c.out, HO5c.out, len_app HXL.out (two_len hlR), hb5⟩
              case measure => simp [intOf]; omega
            · clear hm2
              have hm2 : (m : Int) < (L.length : Int) := by omega
              have hsz : W1.heap.size ≤ (wr.alloc (.cells #[.int .i64 0, .int .i64 (32 * (X.length : Int))] 3)).heap.size := (nwA hb _).size
              have hc3 : NN.length + 2 ≤ maxLen := by unfold maxLen; omega
              have hc4 : (NN.length + 2) * 8 ≤ 140737488355328 := by omega
              have cR1 := HCR.out _ hb
              go_wp2_with (at_builtin; refine wpList_append_own _ rfl (.tmp 69) (.tmp 78) 24 rfl W1.heap.size 3 i3 (.int .i64 0) 1 8 Tryd.underlying24 hi3 hz30 hz31 hz32 rfl (by decide) u4 NN.length (NN.map (.int .i64)) rfl (World.ownsRow.alloc HO4.out _) ⟨wr.heap.size, 0, none⟩ 2 2 [.int .i64 0, .int .i64 (32 * (X.length : Int))] rfl rfl (cells_new _ [.int .i64 0, .int .i64 (32 * (X.length : Int))] _) (by simp [Value.oneCell']) hc3 hc4 hsz ?_; intro v' w3 hown hgrow _; refine unstop ?_)
              unfold Stop
              have hb3 : Below W1.heap.size W1 w3 := (nwA hb _).grown hgrow (nwA hb _).size (fun q e => (HO4.out.lt q e).1)
              have HO4' : Hid (OwnInts w3 W1.heap.size v' (NN ++ [0, 32 * (X.length : Int)])) := OwnInts.snoc2 hown
              have HO5' : Hid (OwnRows w3 W1.heap.size u5 LL) := (HO5.out.below (nwA (nwR wr) _)).grownN (World.ownsRow.alloc HO4.out _) hgrow
              clear hown hgrow HO4 HO5 c1 c2 cR1
              go_wp2_with fail
              obtain ⟨vs, hr5, hx5⟩ := HO5'.out
              have HR5 : Hid (w3.ownsRow W1.heap.size 22 1 u5 LL.length vs) := hr5
              have HX5 : Hid (∀ j, j < LL.length → ∃ u, vs[j]? = some u ∧ RowVal w3 W1.heap.size u (LL.getD j [])) := hx5
              clear hr5 hx5
              have hd3 : LL.length + 2 ≤ maxLen := by have := HNL.out; unfold maxLen; omega
              have hd4 : (LL.length + 2) * 24 ≤ 140737488355328 := by have := HNL.out; omega
              have y1 : ∀ w', Below W1.heap.size W1 w' → w'.cell? ⟨gB, 1, none⟩ = some (.slice (some ⟨b1, o1, none⟩) L.length cL) := fun w' h => HC1.out _ h
              have y2 : ∀ w', Below W1.heap.size W1 w' → w'.cell? ⟨b1, o1 + m, none⟩ = some (.slice aR X.length cR) := fun w' h => HCR.out _ h
              have hb3d := Below.drew hb3
              have HDW : Hid (Below w3.heap.size w3 (w3.alloc (.cells #[.slice aR X.length cR, .slice aR X.length cR] 22)).drew) := Below.drew (nwA (nwR _) _)
              have HDB : Hid (Below W1.heap.size W1 (w3.alloc (.cells #[.slice aR X.length cR, .slice aR X.length cR] 22)).drew) := Below.drew (nwA hb3 _)
              go_region_held3 (fun w' => Below W1.heap.size W1 w') (first | assumption | exact Below.drew (by assumption) | exact nwA (by assumption) _ | exact Below.drew (nwA (by assumption) _)) (first
                | (refine step_append_src (by rfl) (.tmp 80) (.tmp 91) 23 (by rfl) W1.heap.size 22 i22 (.slice none 0 0) 1 24 Tryd.underlying23 hi22 hz220 hz221 hz222 rfl (by decide) u5 LL.length vs (by simp [Act.eval]) (by exact own_below HR5.out HDW.out) (some ⟨w3.heap.size, 0, none⟩) 2 2 [.slice aR X.length cR, .slice aR X.length cR] (by simp [Act.eval]) rfl (fun e => by cases e) (by intro p e; injection e with e; subst e; exact cells_kept (Below.drew (nwR _)) (cells_new _ [.slice aR X.length cR, .slice aR X.length cR] _)) (by simp [Value.oneCell']) hd3 hd4 (by exact HDB.out.size) ?_; intro v5' w5 hown hgrow; have hb5 : Below W1.heap.size W1 w5 := HDB.out.grown hgrow HDB.out.size (fun q e => (HR5.out.lt q e).1); have HO4c : Hid (OwnInts w5 W1.heap.size v' (NN ++ [0, 32 * (X.length : Int)])) := own_kept (own_below HO4'.out HDW.out) (own_below HR5.out HDW.out) (by decide) hgrow; have HO5c : Hid (OwnRows w5 W1.heap.size v5' (LL ++ [X, X])) := OwnRows.more (own_below HR5.out HDW.out) (fun j hj => by obtain ⟨u, hu, hv⟩ := HX5.out j hj; exact ⟨u, hu, hv.below HDW.out⟩) hgrow hown (two_rows ⟨aR, cR, rfl, HSR.out.below HDB.out, HSC.out⟩); clear hown hgrow)
                | fail)
              clear y1 y2 HX5 HR5
              go_wp2_with fail
              go_roundw
              case rel => exact ⟨m + 1, NN ++ [0, 32 * (X.length : Int)], LL ++ [X, X], by omega, by omega, by go_num, by rw [List.length_append]; simp; omega, by rw [List.length_append, List.length_append, HNL.out]; rfl, HO4c.out, HO5c.out, len_app HXL.out (two_len hlR), hb5⟩
              case measure => simp [intOf]; omega
          · have HOE4 := HO4.out
            have HOE5 := HO5.out
            obtain ⟨aN2, cN2, rfl, hat, _⟩ := HOE4.at
            obtain ⟨aL2, cL2, rfl, hrt⟩ := HOE5.rows
            have HAT : Hid (IntsAt wr aN2 NN) := hat
            have HRT : Hid (RowsAt wr aL2 LL) := hrt
            clear HOE4 HOE5 hat hrt HO4 HO5
            by_cases hk2' : (m : Int) < (L.length : Int)
            · have hk5'' : ¬ (m : Int) < 5 := fun h => hm1 ⟨hk2', h⟩
              clear hm1
              go_wp2_with fail
              go_ret2
              exact ⟨NN, LL, aN2, cN2, aL2, cL2, rfl, HNL.out, by omega, HAT.out, HRT.out, HXL.out, nwT HB0.out hb⟩
            · clear hm1
              go_wp2_with fail
              go_ret2
              exact ⟨NN, LL, aN2, cN2, aL2, cL2, rfl, HNL.out, by omega, HAT.out, HRT.out, HXL.out, nwT HB0.out hb⟩
      · clear hk1
        go_wp2_with fail
        go_loopw [4, 5, 7] (fun v4 v5 i wr => ∃ (m : Nat) (NN : List Int) (LL : List (List ByteArray)), m ≤ L.length ∧ m ≤ 5 ∧ i = .int .i64 m ∧ NN.length ≤ 5 + 2 * m ∧ TxR W1 NN LL v4 v5 wr) (fun _ _ i _ => L.length - (intOf i).toNat)
        case atStart => exact ⟨0, NN, LL, by omega, by omega, rfl, by omega, HNL.out, HO4.out, HO5.out, HXL.out, hb⟩
        case round =>
          clear HO4 HO5 HXL HNL c0 hNl hk hk5
          obtain ⟨m, NN, LL, hm, hm5, rfl, hNl, hNL, hO4, hO5, hxl, hb⟩ := hrel
          have HO4 : Hid (OwnInts wr W1.heap.size u4 NN) := hO4
          have HO5 : Hid (OwnRows wr W1.heap.size u5 LL) := hO5
          have HXL : Hid (∀ x ∈ LL, x.length ≤ 4000) := hxl
          have HNL : Hid (NN.length = LL.length) := hNL
          have c1 := HC1.out _ hb
          clear hO4 hO5 hxl hNL
          by_cases hm1 : (m : Int) < (L.length : Int) ∧ (m : Int) < 5
          · obtain ⟨hm2, hm3⟩ := hm1
            have hmL : m < L.length := by omega
            obtain ⟨b1, o1, rfl, aR, cR, hcR, hsR, hcapR⟩ := HL1.out.row hmL
            have HCR : Hid (∀ w', Below W1.heap.size W1 w' → w'.cell? ⟨b1, o1 + m, none⟩ = some (.slice aR (L.getD m []).length cR)) := fun w' h => (h.cell (p := ⟨b1, o1 + m, none⟩) (block_lt_of_cell hcR)).trans hcR
            have hlR := HLL.out (L.getD m []) (by simp [List.getD, hmL])
            have HSR : Hid (StrsIn W1 W1.heap.size aR (L.getD m [])) := StrsIn.old hsR rfl
            have HSC : Hid (CapOk aR cR (L.getD m []).length) := hcapR
            generalize L.getD m [] = X at HCR hlR HSR HSC
            clear hcR hsR hcapR
            have c2 := HC2.out _ hb
            by_cases hN0 : (0 : Int) < (N.length : Int)
            · obtain ⟨r, hr⟩ : ∃ r, m % N.length = r := ⟨_, rfl⟩
              have hrN : r < N.length := by rw [← hr]; exact Nat.mod_lt _ (by omega)
              have hrI : (m : Int).tmod (N.length : Int) = (r : Int) := by rw [Int.tmod_eq_emod_of_nonneg (by omega), ← hr]; omega
              obtain ⟨b2, o2, rfl, hcn⟩ := HN1.out.cell hrN
              have hcn2 : wr.cell? ⟨b2, o2 + r, none⟩ = some (.int .i64 (N.getD r 0)) := (hb.cell (p := ⟨b2, o2 + r, none⟩) (block_lt_of_cell hcn)).trans hcn
              generalize N.getD r 0 = x at hcn2
              clear hcn hr
              have hrNi : (r : Int) < (N.length : Int) := by omega
              have hNz : ¬ (N.length : Int) = 0 := by omega
              have hNn : ¬ N.length = 0 := by omega
              go_wp2_with fail
              have z2 : ∀ p : Kin wr, p.u.cell? ⟨gB, 2, none⟩ = some (.slice (some ⟨b2, o2, none⟩) N.length cN) := fun p => kcell c2 p
              have zn : ∀ p : Kin wr, p.u.cell? ⟨b2, o2 + r, none⟩ = some (.int .i64 x) := fun p => kcell hcn2 p
              refine wp_region_kin (by kernel_rfl) (by kernel_rfl) ?_
              repeat (first | go_big_quiet_step (fail) | quiet_step (fail))
              refine wpQuiet_nil ?_
              intro _ hw'
              obtain ⟨pq, hw''⟩ := hw'
              subst hw''
              clear z2 zn hrI hcn2 c1 c2
              have hbq := nwT hb pq.h
              have HO4q : Hid (OwnInts pq.u W1.heap.size u4 NN) := own_below HO4.out pq.h
              have HO5q : Hid (OwnRows pq.u W1.heap.size u5 LL) := HO5.out.below pq.h
              clear HO4 HO5 hb
              have hb := hbq
              have HO4 := HO4q
              have HO5 := HO5q
              clear hbq HO4q HO5q
              generalize pq.u = wr at hb HO4 HO5 ⊢
              have c1 := HC1.out _ hb
              have c2 := HC2.out _ hb
              have hsz : W1.heap.size ≤ (wr.alloc (.cells #[.int .i64 x, .int .i64 (32 * (X.length : Int))] 3)).heap.size := (nwA hb _).size
              have hc3 : NN.length + 2 ≤ maxLen := by unfold maxLen; omega
              have hc4 : (NN.length + 2) * 8 ≤ 140737488355328 := by omega
              have cR1 := HCR.out _ hb
              go_wp2_with (at_builtin; refine wpList_append_own _ rfl (.tmp 69) (.tmp 78) 24 rfl W1.heap.size 3 i3 (.int .i64 0) 1 8 Tryd.underlying24 hi3 hz30 hz31 hz32 rfl (by decide) u4 NN.length (NN.map (.int .i64)) rfl (World.ownsRow.alloc HO4.out _) ⟨wr.heap.size, 0, none⟩ 2 2 [.int .i64 x, .int .i64 (32 * (X.length : Int))] rfl rfl (cells_new _ [.int .i64 x, .int .i64 (32 * (X.length : Int))] _) (by simp [Value.oneCell']) hc3 hc4 hsz ?_; intro v' w3 hown hgrow _; refine unstop ?_)
              unfold Stop
              have hb3 : Below W1.heap.size W1 w3 := (nwA hb _).grown hgrow (nwA hb _).size (fun q e => (HO4.out.lt q e).1)
              have HO4' : Hid (OwnInts w3 W1.heap.size v' (NN ++ [x, 32 * (X.length : Int)])) := OwnInts.snoc2 hown
              have HO5' : Hid (OwnRows w3 W1.heap.size u5 LL) := (HO5.out.below (nwA (nwR wr) _)).grownN (World.ownsRow.alloc HO4.out _) hgrow
              clear hown hgrow HO4 HO5 c1 c2 cR1
              go_wp2_with fail
              obtain ⟨vs, hr5, hx5⟩ := HO5'.out
              have HR5 : Hid (w3.ownsRow W1.heap.size 22 1 u5 LL.length vs) := hr5
              have HX5 : Hid (∀ j, j < LL.length → ∃ u, vs[j]? = some u ∧ RowVal w3 W1.heap.size u (LL.getD j [])) := hx5
              clear hr5 hx5
              have hd3 : LL.length + 2 ≤ maxLen := by have := HNL.out; unfold maxLen; omega
              have hd4 : (LL.length + 2) * 24 ≤ 140737488355328 := by have := HNL.out; omega
              have y1 : ∀ w', Below W1.heap.size W1 w' → w'.cell? ⟨gB, 1, none⟩ = some (.slice (some ⟨b1, o1, none⟩) L.length cL) := fun w' h => HC1.out _ h
              have y2 : ∀ w', Below W1.heap.size W1 w' → w'.cell? ⟨b1, o1 + m, none⟩ = some (.slice aR X.length cR) := fun w' h => HCR.out _ h
              have hb3d := Below.drew hb3
              have HDW : Hid (Below w3.heap.size w3 (w3.alloc (.cells #[.slice aR X.length cR, .slice aR X.length cR] 22)).drew) := Below.drew (nwA (nwR _) _)
              have HDB : Hid (Below W1.heap.size W1 (w3.alloc (.cells #[.slice aR X.length cR, .slice aR X.length cR] 22)).drew) := Below.drew (nwA hb3 _)
              go_region_held3 (fun w' => Below W1.heap.size W1 w') (first | assumption | exact Below.drew (by assumption) | exact nwA (by assumption) _ | exact Below.drew (nwA (by assumption) _)) (first
                | (refine step_append_src (by rfl) (.tmp 80) (.tmp 91) 23 (by rfl) W1.heap.size 22 i22 (.slice none 0 0) 1 24 Tryd.underlying23 hi22 hz220 hz221 hz222 rfl (by decide) u5 LL.length vs (by simp [Act.eval]) (by exact own_below HR5.out HDW.out) (some ⟨w3.heap.size, 0, none⟩) 2 2 [.slice aR X.length cR, .slice aR X.length cR] (by simp [Act.eval]) rfl (fun e => by cases e) (by intro p e; injection e with e; subst e; exact cells_kept (Below.drew (nwR _)) (cells_new _ [.slice aR X.length cR, .slice aR X.length cR] _)) (by simp [Value.oneCell']) hd3 hd4 (by exact HDB.out.size) ?_; intro v5' w5 hown hgrow; have hb5 : Below W1.heap.size W1 w5 := HDB.out.grown hgrow HDB.out.size (fun q e => (HR5.out.lt q e).1); have HO4c : Hid (OwnInts w5 W1.heap.size v' (NN ++ [x, 32 * (X.length : Int)])) := own_kept (own_below HO4'.out HDW.out) (own_below HR5.out HDW.out) (by decide) hgrow; have HO5c : Hid (OwnRows w5 W1.heap.size v5' (LL ++ [X, X])) := OwnRows.more (own_below HR5.out HDW.out) (fun j hj => by obtain ⟨u, hu, hv⟩ := HX5.out j hj; exact ⟨u, hu, hv.below HDW.out⟩) hgrow hown (two_rows ⟨aR, cR, rfl, HSR.out.below HDB.out, HSC.out⟩); clear hown hgrow)
                | fail)
              clear y1 y2 HX5 HR5
              go_wp2_with fail
              go_roundw
              case rel => exact ⟨m + 1, NN ++ [x, 32 * (X.length : Int)], LL ++ [X, X], by omega, by omega, by go_num, by rw [List.length_append]; simp; omega, by rw [List.length_append, List.length_append, HNL.out]; rfl, HO4c.out, HO5c.out, len_app HXL.out (two_len hlR), hb5⟩
              case measure => simp [intOf]; omega
            · clear hm2
              have hm2 : (m : Int) < (L.length : Int) := by omega
              have hsz : W1.heap.size ≤ (wr.alloc (.cells #[.int .i64 0, .int .i64 (32 * (X.length : Int))] 3)).heap.size := (nwA hb _).size
              have hc3 : NN.length + 2 ≤ maxLen := by unfold maxLen; omega
              have hc4 : (NN.length + 2) * 8 ≤ 140737488355328 := by omega
              have cR1 := HCR.out _ hb
              go_wp2_with (at_builtin; refine wpList_append_own _ rfl (.tmp 69) (.tmp 78) 24 rfl W1.heap.size 3 i3 (.int .i64 0) 1 8 Tryd.underlying24 hi3 hz30 hz31 hz32 rfl (by decide) u4 NN.length (NN.map (.int .i64)) rfl (World.ownsRow.alloc HO4.out _) ⟨wr.heap.size, 0, none⟩ 2 2 [.int .i64 0, .int .i64 (32 * (X.length : Int))] rfl rfl (cells_new _ [.int .i64 0, .int .i64 (32 * (X.length : Int))] _) (by simp [Value.oneCell']) hc3 hc4 hsz ?_; intro v' w3 hown hgrow _; refine unstop ?_)
              unfold Stop
              have hb3 : Below W1.heap.size W1 w3 := (nwA hb _).grown hgrow (nwA hb _).size (fun q e => (HO4.out.lt q e).1)
              have HO4' : Hid (OwnInts w3 W1.heap.size v' (NN ++ [0, 32 * (X.length : Int)])) := OwnInts.snoc2 hown
              have HO5' : Hid (OwnRows w3 W1.heap.size u5 LL) := (HO5.out.below (nwA (nwR wr) _)).grownN (World.ownsRow.alloc HO4.out _) hgrow
              clear hown hgrow HO4 HO5 c1 c2 cR1
              go_wp2_with fail
              obtain ⟨vs, hr5, hx5⟩ := HO5'.out
              have HR5 : Hid (w3.ownsRow W1.heap.size 22 1 u5 LL.length vs) := hr5
              have HX5 : Hid (∀ j, j < LL.length → ∃ u, vs[j]? = some u ∧ RowVal w3 W1.heap.size u (LL.getD j [])) := hx5
              clear hr5 hx5
              have hd3 : LL.length + 2 ≤ maxLen := by have := HNL.out; unfold maxLen; omega
              have hd4 : (LL.length + 2) * 24 ≤ 140737488355328 := by have := HNL.out; omega
              have y1 : ∀ w', Below W1.heap.size W1 w' → w'.cell? ⟨gB, 1, none⟩ = some (.slice (some ⟨b1, o1, none⟩) L.length cL) := fun w' h => HC1.out _ h
              have y2 : ∀ w', Below W1.heap.size W1 w' → w'.cell? ⟨b1, o1 + m, none⟩ = some (.slice aR X.length cR) := fun w' h => HCR.out _ h
              have hb3d := Below.drew hb3
              have HDW : Hid (Below w3.heap.size w3 (w3.alloc (.cells #[.slice aR X.length cR, .slice aR X.length cR] 22)).drew) := Below.drew (nwA (nwR _) _)
              have HDB : Hid (Below W1.heap.size W1 (w3.alloc (.cells #[.slice aR X.length cR, .slice aR X.length cR] 22)).drew) := Below.drew (nwA hb3 _)
              go_region_held3 (fun w' => Below W1.heap.size W1 w') (first | assumption | exact Below.drew (by assumption) | exact nwA (by assumption) _ | exact Below.drew (nwA (by assumption) _)) (first
                | (refine step_append_src (by rfl) (.tmp 80) (.tmp 91) 23 (by rfl) W1.heap.size 22 i22 (.slice none 0 0) 1 24 Tryd.underlying23 hi22 hz220 hz221 hz222 rfl (by decide) u5 LL.length vs (by simp [Act.eval]) (by exact own_below HR5.out HDW.out) (some ⟨w3.heap.size, 0, none⟩) 2 2 [.slice aR X.length cR, .slice aR X.length cR] (by simp [Act.eval]) rfl (fun e => by cases e) (by intro p e; injection e with e; subst e; exact cells_kept (Below.drew (nwR _)) (cells_new _ [.slice aR X.length cR, .slice aR X.length cR] _)) (by simp [Value.oneCell']) hd3 hd4 (by exact HDB.out.size) ?_; intro v5' w5 hown hgrow; have hb5 : Below W1.heap.size W1 w5 := HDB.out.grown hgrow HDB.out.size (fun q e => (HR5.out.lt q e).1); have HO4c : Hid (OwnInts w5 W1.heap.size v' (NN ++ [0, 32 * (X.length : Int)])) := own_kept (own_below HO4'.out HDW.out) (own_below HR5.out HDW.out) (by decide) hgrow; have HO5c : Hid (OwnRows w5 W1.heap.size v5' (LL ++ [X, X])) := OwnRows.more (own_below HR5.out HDW.out) (fun j hj => by obtain ⟨u, hu, hv⟩ := HX5.out j hj; exact ⟨u, hu, hv.below HDW.out⟩) hgrow hown (two_rows ⟨aR, cR, rfl, HSR.out.below HDB.out, HSC.out⟩); clear hown hgrow)
                | fail)
              clear y1 y2 HX5 HR5
              go_wp2_with fail
              go_roundw
              case rel => exact ⟨m + 1, NN ++ [0, 32 * (X.length : Int)], LL ++ [X, X], by omega, by omega, by go_num, by rw [List.length_append]; simp; omega, by rw [List.length_append, List.length_append, HNL.out]; rfl, HO4c.out, HO5c.out, len_app HXL.out (two_len hlR), hb5⟩
              case measure => simp [intOf]; omega
          · have HOE4 := HO4.out
            have HOE5 := HO5.out
            obtain ⟨aN2, cN2, rfl, hat, _⟩ := HOE4.at
            obtain ⟨aL2, cL2, rfl, hrt⟩ := HOE5.rows
            have HAT : Hid (IntsAt wr aN2 NN) := hat
            have HRT : Hid (RowsAt wr aL2 LL) := hrt
            clear HOE4 HOE5 hat hrt HO4 HO5
            by_cases hk2' : (m : Int) < (L.length : Int)
            · have hk5'' : ¬ (m : Int) < 5 := fun h => hm1 ⟨hk2', h⟩
              clear hm1
              go_wp2_with fail
              go_ret2
              exact ⟨NN, LL, aN2, cN2, aL2, cL2, rfl, HNL.out, by omega, HAT.out, HRT.out, HXL.out, nwT HB0.out hb⟩
            · clear hm1
              go_wp2_with fail
              go_ret2
              exact ⟨NN, LL, aN2, cN2, aL2, cL2, rfl, HNL.out, by omega, HAT.out, HRT.out, HXL.out, nwT HB0.out hb⟩

end Go.Proofs.YtifbnojkjbjngaaDoor
