/- Laid together: Deli, Newer, Takev, Backm, Vbackm, Backp. -/
import Derived.Test.YtodahdnnlkcfdaaVolM13
/- The snapshots that came after one, by the program. -/
namespace Go.Proofs.Ytodahdnnlkcfdaa
open Go.RowKit

/-- the closure holds the snapshot, whatever is written to the row -/
def KeepsSnap (w : World) (r : Option Nat) (B : Nat) (sid : Int) : Prop := ∀ w', w.grownBy w' r → ∃ g o, w'.cell? ⟨B, 0, none⟩ = some (.pointer (some ⟨g, o, none⟩)) ∧ w'.cell? ⟨g, o, none⟩ = some (.int .i64 sid)
set_option maxRecDepth 100000 in
set_option maxHeartbeats 1000000 in
theorem clon_any (i sid : Int) (B g o : Nat) (w : World) (hc : w.cell? ⟨B, 0, none⟩ = some (.pointer (some ⟨g, o, none⟩))) (hi : w.cell? ⟨g, o, none⟩ = some (.int .i64 sid)) :
    Calls Try.prog 64 #[.int .i64 i, .pointer (some ⟨B, 0, none⟩)] w fun e w' => e = .returned (.bool (decide (i ≤ sid))) ∧ Below w.heap.size w w' := by
  go_enter Try.func64, Try.ntmps64
  go_wp2_with fail
  go_ret
  exact ⟨rfl, nwR w⟩

set_option maxRecDepth 100000 in
set_option maxHeartbeats 1000000 in
theorem idxi_any (a : Option Addr) (xs : List Int) (ca : Nat) (sid : Int) (B g o : Nat) (w : World) (hv : IntsAt w a xs) (hl : xs.length ≤ 100000) (hc : w.cell? ⟨B, 0, none⟩ = some (.pointer (some ⟨g, o, none⟩))) (hi : w.cell? ⟨g, o, none⟩ = some (.int .i64 sid)) :
    Calls Try.prog 80 #[.slice a xs.length ca, .func (.func 64) #[] #[.pointer (some ⟨B, 0, none⟩)]] w fun e w' => e = .returned (.int .i64 (optI (xs.findIdx? fun i => decide (i ≤ sid)))) ∧ Below w.heap.size w w' := by
  have HF : Hid (IntsAt w a xs) := hv
  have HC : Hid (w.cell? ⟨B, 0, none⟩ = some (.pointer (some ⟨g, o, none⟩))) := hc
  have HI : Hid (w.cell? ⟨g, o, none⟩ = some (.int .i64 sid)) := hi
  clear hv hc hi
  go_enter Try.func80, Try.ntmps80
  go_wp2_with fail
  go_loopw [8] (fun i wr => ∃ (k : Nat), k ≤ xs.length ∧ i = .int .i64 k ∧ Below w.heap.size w wr ∧ Hid (∀ j, j < k → decide (xs.getD j 0 ≤ sid) = false))
    (fun i _ => xs.length - (intOf i).toNat)
  case atStart => exact ⟨0, by omega, rfl, nwR w, fun j hj => by omega⟩
  case round =>
    obtain ⟨k, hk, rfl, hb, HE⟩ := hrel
    by_cases hlt : k < xs.length
    · obtain ⟨b1, o1, rfl, hc0⟩ := HF.out.cell hlt
      have hc1 : wr.cell? ⟨b1, o1 + k, none⟩ = some (.int .i64 (xs.getD k 0)) := (hb.cell (p := ⟨b1, o1 + k, none⟩) (block_lt_of_cell hc0)).trans hc0
      have hlti : (k : Int) < (xs.length : Int) := by omega
      have HCW : Hid (wr.cell? ⟨B, 0, none⟩ = some (.pointer (some ⟨g, o, none⟩))) := (hb.cell (p := ⟨B, 0, none⟩) (block_lt_of_cell HC.out)).trans HC.out
      have HIW : Hid (wr.cell? ⟨g, o, none⟩ = some (.int .i64 sid)) := (hb.cell (p := ⟨g, o, none⟩) (block_lt_of_cell HI.out)).trans HI.out
      have HK : Hid (decide (xs.getD k 0 ≤ sid) = false → ∀ j, j < k + 1 → decide (xs.getD j 0 ≤ sid) = false) := fun h j hj => by
        by_cases e : j = k
        · subst e; exact h
        · exact HE.out j (by omega)
      have HY : Hid (decide (xs.getD k 0 ≤ sid) = true → (xs.findIdx? fun i => decide (i ≤ sid)) = some k) := fun h => find_yes 0 hlt h (fun j hj => HE.out j hj)
      clear hc0
      generalize xs.getD k 0 = x at hc1 HK HY
      go_wp2_with fail
      refine (clon_any x sid B g o _ HCW.out HIW.out).mono ?_
      rintro e w2 ⟨rfl, hb2⟩
      have hbb := nwT hb hb2
      cases he : decide (x ≤ sid)
      · have HN := HK.out he
        clear he
        go_wp2_with fail
        go_roundw
        case rel => exact ⟨k + 1, by omega, by go_num, hbb, HN⟩
        case measure => simp [intOf]; omega
      · have HR2 : Hid ((xs.findIdx? fun i => decide (i ≤ sid)) = some k) := HY.out he
        clear he
        go_wp2_with fail
        go_ret
        exact ⟨ret_int (by rw [HR2.out]; rfl), hbb⟩
    · have hlti : ¬ (k : Int) < (xs.length : Int) := by omega
      have HY : Hid ((xs.findIdx? fun i => decide (i ≤ sid)) = none) := find_no 0 (fun j hj => HE.out j (by omega))
      go_wp2_with fail
      go_ret
      exact ⟨ret_int (by rw [HY.out]; rfl), hb⟩

/-- those of a row that came after -/
def afterI (sid : Int) (xs : List Int) : List Int := xs.filter fun i => !decide (i ≤ sid)
theorem afterI_le (sid : Int) (xs : List Int) : (afterI sid xs).length ≤ xs.length := List.length_filter_le _ _
theorem afterI_all {sid : Int} {xs : List Int} (h : (xs.findIdx? fun i => decide (i ≤ sid)) = none) : afterI sid xs = xs := by
  unfold afterI
  rw [List.filter_eq_self]
  intro d hd
  rw [List.findIdx?_eq_none_iff] at h
  rw [h d hd]; rfl
def RowI (w : World) (base g n cap : Nat) (xs : List Int) : Prop := w.ownsRow base 3 1 (.slice (some ⟨g, 0, none⟩) n cap) n (xs.map (.int .i64))
theorem RowI.cellAt {w : World} {base g n cap : Nat} {xs : List Int} (h : RowI w base g n cap xs) {i : Nat} {x : Int} (hx : xs[i]? = some x) : w.cell? ⟨g, i, none⟩ = some (.int .i64 x) := by
  have := World.ownsRow.cells h (g := g) rfl i (.int .i64 x) (by rw [List.getElem?_map, hx]; rfl)
  rwa [addr_add, Nat.zero_add] at this
theorem RowI.setAt {w : World} {base g n cap : Nat} {xs : List Int} (h : RowI w base g n cap xs) (i : Nat) (x : Int) : RowI (w.setCell ⟨g, i, none⟩ (.int .i64 x)) base g n cap (xs.set i x) := by
  have h1 := (World.ownsRow.stored h i (.int .i64 x)).1
  unfold RowI
  rw [List.map_set]
  exact h1
theorem OwnInts.sifted {w : World} {base g n cap m : Nat} {xs xs' : List Int} {sid : Int} {vs : List Value} (hs : Sift (fun i => !decide (i ≤ sid)) xs xs' m n) (hn : xs.length = n) (h : RowI w base g n cap xs') :
    OwnInts (w.setCells g m vs) base (.slice (some ⟨g, 0, none⟩) m cap) (afterI sid xs) := by
  obtain ⟨ys, h1, h2⟩ := own_setCells vs m w _ h
  have h3 := own_shrink h1 hs.ij
  have hf := hs.fin (by omega)
  have hle := hs.le hn
  unfold OwnInts afterI
  rw [hle, ← hf, List.map_take, ← h2]
  rw [Nat.mul_one] at h3
  exact h3

set_option maxRecDepth 100000 in
set_option maxHeartbeats 4000000 in
theorem delI_any (base B : Nat) (v : Value) (xs : List Int) (sid : Int) (w : World) (hX : OwnInts w base v xs) (hl : xs.length ≤ 100000) (hB : KeepsSnap w v.ownBlock B sid) :
    Calls Try.prog 63 #[v, .func (.func 64) #[] #[.pointer (some ⟨B, 0, none⟩)]] w fun e w' => ∃ v', e = .returned v' ∧ OwnInts w' base v' (afterI sid xs) ∧ w.grownBy w' v.ownBlock := by
  have hlen : ∀ n, n = xs.length → n ≤ 100000 := fun n h => by omega
  obtain ⟨a, cap, rfl, hat, _⟩ := id hX.at
  have HB : Hid (KeepsSnap w (Value.slice a xs.length cap).ownBlock B sid) := hB
  have HIX : Hid (Calls Try.prog 80 #[.slice a xs.length cap, .func (.func 64) #[] #[.pointer (some ⟨B, 0, none⟩)]] w fun e w' => e = .returned (.int .i64 (optI (xs.findIdx? fun i => decide (i ≤ sid)))) ∧ Below w.heap.size w w') := by
    obtain ⟨g', o', hc, hi⟩ := hB w (gbOf (nwR w) _)
    exact idxi_any _ xs cap sid B g' o' w hat hl hc hi
  cases hfi : xs.findIdx? fun i => decide (i ≤ sid) with
  | none =>
    have HX : Hid (∀ w1, Below w.heap.size w w1 → OwnInts w1 base (.slice a xs.length cap) xs) := fun w1 h => own_below hX h
    have HRA : Hid (afterI sid xs = xs) := afterI_all hfi
    have HI2 : Hid (Calls Try.prog 80 #[.slice a xs.length cap, .func (.func 64) #[] #[.pointer (some ⟨B, 0, none⟩)]] w fun e w' => e = .returned (.int .i64 (-1)) ∧ Below w.heap.size w w') := by
      have h := HIX.out; rw [hfi] at h; exact h
    clear hX HIX hfi hB hat
    rw [HRA.out]
    go_enter Try.func63, Try.ntmps63
    go_wp2_with fail
    refine HI2.out.mono ?_
    rintro e w1 ⟨rfl, hb1⟩
    go_wp2_with fail
    go_ret
    exact ⟨_, rfl, HX.out _ hb1, gbOf hb1 _⟩
  | some k =>
    have HI2 : Hid (Calls Try.prog 80 #[.slice a xs.length cap, .func (.func 64) #[] #[.pointer (some ⟨B, 0, none⟩)]] w fun e w' => e = .returned (.int .i64 (k : Int)) ∧ Below w.heap.size w w') := by
      have h := HIX.out; rw [hfi] at h; exact h
    rw [List.findIdx?_eq_some_iff_getElem] at hfi
    obtain ⟨hkl, hk1, hk2⟩ := hfi
    obtain ⟨g, rfl⟩ : ∃ g, a = some ⟨g, 0, none⟩ := by
      rcases hX.2 with ⟨h1, h2⟩ | ⟨g', cap', cur, h1, _⟩
      · omega
      · injection h1 with h1 _ _; exact ⟨g', h1⟩
    have HST : Hid (Sift (fun i => !decide (i ≤ sid)) xs xs k (k + 1)) := by
      refine sift_start (by omega) (fun t ht x hx => ?_) (fun x hx => ?_)
      · have := hk2 t ht
        have e2 := (List.getElem?_eq_some_iff.1 hx).2
        rw [← e2]
        simpa using this
      · have e2 := (List.getElem?_eq_some_iff.1 hx).2
        rw [← e2, hk1]; rfl
    have HO : Hid (RowI w base g xs.length cap xs) := hX
    have hcap : xs.length ≤ cap := by
      rcases hX.2 with ⟨h1, _⟩ | ⟨g', cap', cur, h1, _, _, h4, _⟩
      · simp at h1
      · simp only [Value.slice.injEq] at h1; omega
    have HB2 : Hid (KeepsSnap w (some g) B sid) := hB
    have HLN : Hid (xs.length = xs.length) := rfl
    clear hk1 hk2 hB hX HIX HB hat hlen
    have hk1 : ((k : Int) == -1) = false := beq_eq_false_iff_ne.2 (by omega)
    show Calls Try.prog 63 _ w fun e w' => ∃ v', e = .returned v' ∧ OwnInts w' base v' (afterI sid xs) ∧ w.grownBy w' (some g)
    have HN : Hid (∃ n, n = xs.length) := ⟨_, rfl⟩
    obtain ⟨n, hn⟩ := HN.out
    rw [← hn] at HI2 HO hcap hkl hl
    have HLX : Hid (xs.length = n) := hn.symm
    have hln1 : xs.length ≤ n := by omega
    have hln2 : n ≤ xs.length := by omega
    have hgoal : Calls Try.prog 63 #[.slice (some ⟨g, 0, none⟩) n cap, .func (.func 64) #[] #[.pointer (some ⟨B, 0, none⟩)]] w fun e w' => ∃ v', e = .returned v' ∧ OwnInts w' base v' (afterI sid xs) ∧ w.grownBy w' (some g) := by
      clear hn HLN HN
      go_enter Try.func63, Try.ntmps63
      go_wp2_with fail
      refine HI2.out.mono ?_
      rintro e w1 ⟨rfl, hb1⟩
      have HO1 : Hid (RowI w1 base g n cap xs) := own_below HO.out hb1
      have HG1 : Hid (w.grownBy w1 (some g)) := gbOf hb1 _
      clear hb1 HI2
      go_wp2_with fail
      go_loopw [5, 6] (fun s5 s6 wr => ∃ (m j : Nat), s5 = .int .i64 m ∧ s6 = .int .i64 j ∧ m < j ∧ j ≤ n ∧ Hid (∃ xs', Sift (fun i => !decide (i ≤ sid)) xs xs' m j ∧ RowI wr base g n cap xs') ∧ Hid (w.grownBy wr (some g)))
        (fun _ s6 _ => n - (intOf s6).toNat)
      case atStart => exact ⟨k, k + 1, rfl, by go_num, by omega, by omega, ⟨xs, HST.out, HO1.out⟩, HG1⟩
      case round =>
        obtain ⟨m, j, rfl, rfl, hmj, hjl, HOr, HGr⟩ := hrel
        obtain ⟨xs', hst, hro⟩ := HOr.out
        have HS : Hid (Sift (fun i => !decide (i ≤ sid)) xs xs' m j) := hst
        have HR : Hid (RowI wr base g n cap xs') := hro
        have HSL : Hid (xs'.length = n) := by show _ = _; have := hst.len; omega
        clear hst hro HOr
        by_cases hjn : j < n
        · have hjni : (j : Int) < (n : Int) := by omega
          have hmni : (m : Int) < (n : Int) := by omega
          obtain ⟨x, hx⟩ : ∃ x, xs[j]? = some x := ⟨_, List.getElem?_eq_getElem (by omega)⟩
          have hxs : xs'[j]? = some x := by rw [HS.out.get (Nat.le_refl _)]; exact hx
          have c0 := HR.out.cellAt hxs
          have HKP : Hid ((!decide (x ≤ sid)) = true → Sift (fun i => !decide (i ≤ sid)) xs (xs'.set m x) (m + 1) (j + 1)) := fun h => HS.out.keep hx h
          have HSK : Hid ((!decide (x ≤ sid)) = false → Sift (fun i => !decide (i ≤ sid)) xs xs' m (j + 1)) := fun h => HS.out.skip hx h
          clear hx hxs
          have HD1 : Hid (Calls Try.prog 64 #[.int .i64 x, .pointer (some ⟨B, 0, none⟩)] wr fun e w' => e = .returned (.bool (decide (x ≤ sid))) ∧ Below wr.heap.size wr w') := by
            obtain ⟨g', o', hc, hi⟩ := HB2.out _ HGr.out
            exact clon_any x sid B g' o' _ hc hi
          go_wp2_with fail
          refine HD1.out.mono ?_
          rintro e w2 ⟨rfl, hb2⟩
          have HO2 : Hid (RowI w2 base g n cap xs') := own_below HR.out hb2
          have HG2 : Hid (w.grownBy w2 (some g)) := HGr.out.trans (gbOf hb2 _)
          obtain ⟨y, hy⟩ : ∃ y, xs'[m]? = some y := ⟨_, List.getElem?_eq_getElem (by have := HSL.out; omega)⟩
          have t0 := HO2.out.cellAt hy
          have tf : ∀ o, w2.frozen? ⟨g, o, none⟩ = false := fun o => World.ownsRow.frozenAt HO2.out o
          clear c0 hy HD1
          cases hin : decide (x ≤ sid)
          case false =>
            have HN : Hid (Sift (fun i => !decide (i ≤ sid)) xs (xs'.set m x) (m + 1) (j + 1)) := HKP.out (by rw [hin]; rfl)
            clear hin
            go_wp2_with fail
            go_roundw
            case rel =>
              exact ⟨m + 1, j + 1, by go_num, by go_num, by omega, by omega, ⟨xs'.set m x, HN.out, HO2.out.setAt m x⟩, gb_setg HG2.out _⟩
            case measure => simp [intOf]; omega
          case true =>
            have HN : Hid (Sift (fun i => !decide (i ≤ sid)) xs xs' m (j + 1)) := HSK.out (by rw [hin]; rfl)
            clear hin
            go_wp2_with fail
            go_roundw
            case rel => exact ⟨m, j + 1, rfl, by go_num, by omega, by omega, ⟨xs', HN.out, HO2.out⟩, HG2⟩
            case measure => simp [intOf]; omega
        · have hjni : ¬ (j : Int) < (n : Int) := by omega
          have HJN : Hid (j = n) := by show _ = _; omega
          have tf : ∀ o, wr.frozen? ⟨g, o, none⟩ = false := fun o => World.ownsRow.frozenAt HR.out o
          obtain ⟨vs, hcl⟩ := clear_ints wr g m (n - m) (cap - m) (fun t ht => by
            have e : xs'[m + t]? = some (xs'[m + t]'(by have := HSL.out; omega)) := List.getElem?_eq_getElem _
            rw [HR.out.cellAt e]; rfl) tf
          go_wp2_with fail
          go_ret
          have HGE : w.grownBy (wr.setCells g m vs) (some g) := gb_setCells vs m wr HGr.out
          have hst := HS.out
          rw [HJN.out] at hst
          exact ⟨_, rfl, OwnInts.sifted hst HLX.out HR.out, HGE⟩
    rw [hn] at hgoal
    exact hgoal

end Go.Proofs.Ytodahdnnlkcfdaa

/- A volume takes a snapshot's files, by the program. -/
namespace Go.Proofs.Ytodahdnnlkcfdaa
open Go.RowKit

/-- the IDs of the snapshots after one -/
def newerF (ds : List VolD) (fr sid : Int) : List Int := afterI sid (snapsF ds fr)
set_option maxRecDepth 100000 in
set_option maxHeartbeats 2000000 in
theorem newer_any (g ca k : Nat) (ds : List VolD) (w : World) (hv : VolsAt w (some ⟨g, 0, none⟩) ds) (hl : ds.length ≤ 100000) (hk : k < ds.length) :
    Calls Try.prog 46 #[.slice (some ⟨g, 0, none⟩) ds.length ca, .agg #[.pointer (some ⟨g, k * 5, none⟩)]] w fun e w' => (∃ v, e = .returned v ∧ OwnInts w' w.heap.size v (newerF ds (ds.getD k VZ).fr (ds.getD k VZ).id)) ∧ Below w.heap.size w w' := by
  obtain ⟨W0, hW0⟩ : ∃ W0, W0 = w.alloc (.cells #[.pointer (some ⟨g, k * 5, none⟩)] 67) := ⟨_, rfl⟩
  have HB0 : Hid (Below w.heap.size w W0) := by rw [hW0]; exact nwA (nwR w) _
  have HX0 : Hid (W0.heap[w.heap.size]? = some (.cells #[.pointer (some ⟨g, k * 5, none⟩)] 67 (0, 0))) := by rw [hW0]; exact heap_alloc_new w _
  have HSZ : Hid (W0.heap.size = w.heap.size + 1) := by rw [hW0]; show _ = _; simp
  have HV0 : Hid (VolsAt W0 (some ⟨g, 0, none⟩) ds) := hv.below HB0.out
  obtain ⟨b1, o1, e, hvi⟩ := HV0.out.vol hk
  injection e with e
  injection e with e1 e2
  subst e1; subst e2
  rw [Nat.zero_add] at hvi
  obtain ⟨af, cf, ⟨c0, c1, _, _, _⟩, _⟩ := hvi
  clear hv
  have HAF : Hid (∀ l, newerF ds (ds.getD k VZ).fr (ds.getD k VZ).id = l → newerF ds (ds.getD k VZ).fr (ds.getD k VZ).id = l) := fun _ h => h
  have HLN : Hid ((snapsF ds (ds.getD k VZ).fr).length ≤ 100000) := Nat.le_trans (snapsF_le _ _) hl
  have HDF : Hid (newerF ds (ds.getD k VZ).fr (ds.getD k VZ).id = afterI (ds.getD k VZ).id (snapsF ds (ds.getD k VZ).fr)) := rfl
  generalize newerF ds (ds.getD k VZ).fr (ds.getD k VZ).id = res at HDF ⊢
  generalize (ds.getD k VZ).fr = fr at c1 HDF HLN
  generalize (ds.getD k VZ).id = sid at c0 HDF
  clear HAF
  have hgl0 := block_lt_of_cell c0
  simp only at hgl0
  have HC0 : Hid (W0.cell? ⟨g, k * 5, none⟩ = some (.int .i64 sid)) := c0
  rw [hW0] at c1
  go_enter Try.func46, Try.ntmps46
  go_wp2_with fail
  rw [← hW0]
  refine (snaps_any (some ⟨g, 0, none⟩) ds ca fr W0 HV0.out hl).mono ?_
  rintro e w1 ⟨⟨v, rfl, hv⟩, hb1⟩
  have HOV : Hid (OwnInts w1 W0.heap.size v (snapsF ds fr)) := hv
  have HB1 : Hid (Below w.heap.size w w1) := nwT HB0.out hb1
  have HK : Hid (KeepsSnap w1 v.ownBlock w.heap.size sid) := by
    intro w' hg
    have hlt : ∀ q, q < W0.heap.size → some q ≠ v.ownBlock := fun q hq e => by
      have := (World.ownsRow.lt hv q e.symm).1
      omega
    have hs1 := hb1.size
    have hx := (hg.block _ (by have := HSZ.out; omega) (hlt w.heap.size (by have := HSZ.out; omega))).trans ((hb1.block _ (by have := HSZ.out; omega)).trans HX0.out)
    refine ⟨g, k * 5, cell_of_blk hx, ?_⟩
    have e1 : w'.heap[g]? = W0.heap[g]? := (hg.block _ (by omega) (hlt g hgl0)).trans (hb1.block _ hgl0)
    have h0 := HC0.out
    simp only [World.cell?, e1] at h0 ⊢
    exact h0
  rw [← hW0] at c1
  clear hv hb1 c0 c1 hW0
  go_wp2_with fail
  refine (delI_any _ _ v (snapsF ds fr) sid w1 HOV.out HLN.out HK.out).mono ?_
  rintro e w2 ⟨v', rfl, ho, hg⟩
  have HB2 : Hid (Below w.heap.size w w2) := HB1.out.grown hg HB1.out.size (fun q e => by
    have := (World.ownsRow.lt HOV.out q e).1
    have := HSZ.out
    omega)
  have HO2 : Hid (OwnInts w2 w.heap.size v' res) := by rw [HDF.out]; exact own_le ho (by have := HSZ.out; omega)
  clear ho hg
  go_wp2_with fail
  go_ret
  exact ⟨⟨_, rfl, HO2.out⟩, HB2.out⟩

end Go.Proofs.Ytodahdnnlkcfdaa

/- A volume takes a snapshot's files, by the program. -/
namespace Go.Proofs.Ytodahdnnlkcfdaa
open Go.RowKit

theorem set_same {α : Type} {l : List α} {i : Nat} {v : α} (h : l[i]? = some v) : l.set i v = l := by
  apply List.ext_getElem?
  intro t
  rw [List.getElem?_set]
  by_cases e : i = t
  · subst e
    rw [if_pos rfl, h, if_pos (List.getElem?_eq_some_iff.1 h).1]
  · rw [if_neg e]
theorem vflat_set2 (gs : List VV) {k : Nat} {x : VV} (hx : gs[k]? = some x) (fs : List FileD) (nx : Int) (fv : Value) : vflat (gs.set k ⟨⟨x.d.id, x.d.fr, x.d.snap, fs, nx⟩, fv⟩) = ((vflat gs).set (k * 5 + 3) fv).set (k * 5 + 4) (.int .i64 nx) := by
  obtain ⟨c0, c1, c2, _, _⟩ := vflat_get gs k x hx
  rw [vflat_set5 gs k _ (List.getElem?_eq_some_iff.1 hx).1]
  simp only
  rw [set_same c0, set_same c1, set_same c2]
/-- what the volumes are when one has taken another's files -/
def tookF (ds : List VolD) (k j : Nat) : List VolD := ds.set k ⟨(ds.getD k VZ).id, (ds.getD k VZ).fr, (ds.getD k VZ).snap, (ds.getD j VZ).files, max (ds.getD k VZ).next (ds.getD j VZ).next⟩
theorem OwnVols.took {w wU : World} {base g cap k j : Nat} {ds : List VolD} {fv : Value} {nx : Int} (hX : OwnVols w base (.slice (some ⟨g, 0, none⟩) ds.length cap) ds) (hk : k < ds.length) (hb : Below w.heap.size w wU) (hfv : OwnFiles wU base fv (ds.getD j VZ).files) (hnx : nx = max (ds.getD k VZ).next (ds.getD j VZ).next) :
    OwnVols ((wU.setCell ⟨g, k * 5 + 3, none⟩ fv).setCell ⟨g, k * 5 + 4, none⟩ (.int .i64 nx)) base (.slice (some ⟨g, 0, none⟩) ds.length cap) (tookF ds k j) ∧ w.grownBy ((wU.setCell ⟨g, k * 5 + 3, none⟩ fv).setCell ⟨g, k * 5 + 4, none⟩ (.int .i64 nx)) (some g) := by
  obtain ⟨gs, hd, hrow, hall⟩ := hX
  have hlen : gs.length = ds.length := by rw [← hd, List.length_map]
  have hrU := own_below hrow hb
  have hg1 : wU.grownBy ((wU.setCell ⟨g, k * 5 + 3, none⟩ fv).setCell ⟨g, k * 5 + 4, none⟩ (.int .i64 nx)) (some g) := gb_setg (gb_setg (gbOf (nwR wU) _) _) _
  have hg : w.grownBy ((wU.setCell ⟨g, k * 5 + 3, none⟩ fv).setCell ⟨g, k * 5 + 4, none⟩ (.int .i64 nx)) (some g) := (gbOf hb _).trans hg1
  refine ⟨?_, hg⟩
  obtain ⟨x, hx⟩ : ∃ x, gs[k]? = some x := ⟨_, List.getElem?_eq_getElem (by omega)⟩
  have hxd : ds.getD k VZ = x.d := by rw [← hd]; simp [List.getD, hx]
  rw [hxd] at hnx
  refine ⟨gs.set k ⟨⟨x.d.id, x.d.fr, x.d.snap, (ds.getD j VZ).files, nx⟩, fv⟩, ?_, ?_, ?_⟩
  · rw [List.map_set, hd]
    unfold tookF
    rw [hxd, hnx]
  · rw [vflat_set2 gs hx, List.length_set]
    rw [hlen] at hrU ⊢
    exact (((hrU.stored (k * 5 + 3) fv).1).stored (k * 5 + 4) (.int .i64 nx)).1
  · intro y hy
    rcases List.mem_or_eq_of_mem_set hy with h | h
    · exact (hall y h).grown hrow hg
    · subst h
      exact hfv.grown hrU hg1

theorem cell_heap {w : World} {g o : Nat} {cs : Array Value} {t : TypeId} (h : w.heap[g]? = some (.cells cs t (0, 0))) : w.cell? ⟨g, o, none⟩ = cs[o]? := by
  simp [World.cell?, h]
/-- the state while a volume takes another's files -/
structure TkS (w : World) (g i : Nat) (p q : Value) (wr : World) : Prop where
  lt : g < w.heap.size
  b0 : wr.heap[w.heap.size]? = some (.cells #[p] 67 (0, 0))
  b1 : wr.heap[w.heap.size + 1]? = some (.cells #[q] 67 (0, 0))
  bg : ∃ cs cs', w.heap[g]? = some (.cells cs 32 (0, 0)) ∧ wr.heap[g]? = some (.cells cs' 32 (0, 0)) ∧ cs'.size = cs.size ∧ ∀ o, o ≠ i → cs'[o]? = cs[o]?
theorem TkS.below {w : World} {g i : Nat} {p q : Value} {wr w' : World} (h : TkS w g i p q wr) (hb : Below wr.heap.size wr w') : TkS w g i p q w' := by
  obtain ⟨cs, cs', h1, h2, h3, h4⟩ := h.bg
  exact ⟨h.lt, (hb.block _ (Array.getElem?_eq_some_iff.1 h.b0).1).trans h.b0, (hb.block _ (Array.getElem?_eq_some_iff.1 h.b1).1).trans h.b1, cs, cs', h1, (hb.block _ (Array.getElem?_eq_some_iff.1 h2).1).trans h2, h3, h4⟩
theorem TkS.drew {w : World} {g i : Nat} {p q : Value} {wr : World} (h : TkS w g i p q wr) : TkS w g i p q wr.drew := h.below (Below.drew (nwR wr))
theorem TkS.set {w : World} {g i : Nat} {p q : Value} {wr : World} (h : TkS w g i p q wr) (v : Value) : TkS w g i p q (wr.setCell ⟨g, i, none⟩ v) := by
  obtain ⟨cs, cs', h1, h2, h3, h4⟩ := h.bg
  have hl := h.lt
  refine ⟨h.lt, (Below.heap_setCell _ _ _ _ (by show w.heap.size ≠ g; omega)).trans h.b0, (Below.heap_setCell _ _ _ _ (by show w.heap.size + 1 ≠ g; omega)).trans h.b1, cs, cs'.setIfInBounds i v, h1, heap_setCell_same wr g i cs' 32 v h2, by simp [h3], fun o ho => ?_⟩
  rw [← h4 o ho]
  simp [Ne.symm ho]
theorem TkS.cell {w : World} {g i : Nat} {p q : Value} {wr : World} (h : TkS w g i p q wr) {o : Nat} (ho : o ≠ i) : wr.cell? ⟨g, o, none⟩ = w.cell? ⟨g, o, none⟩ := by
  obtain ⟨cs, cs', h1, h2, h3, h4⟩ := h.bg
  rw [cell_heap h1, cell_heap h2, h4 o ho]
theorem TkS.some {w : World} {g i : Nat} {p q u : Value} {wr : World} (h : TkS w g i p q wr) (hu : w.cell? ⟨g, i, none⟩ = Option.some u) : ∃ u', wr.cell? ⟨g, i, none⟩ = Option.some u' := by
  obtain ⟨cs, cs', h1, h2, h3, h4⟩ := h.bg
  rw [cell_heap h1] at hu
  have := (Array.getElem?_eq_some_iff.1 hu).1
  exact ⟨cs'[i]'(by omega), by rw [cell_heap h2]; exact Array.getElem?_eq_getElem _⟩
theorem TkS.frz {w : World} {g i : Nat} {p q : Value} {wr : World} (h : TkS w g i p q wr) (o : Nat) : wr.frozen? ⟨g, o, none⟩ = false := by
  obtain ⟨cs, cs', h1, h2, h3, h4⟩ := h.bg
  exact Lib.frozen_of_heap h2 o

set_option maxRecDepth 100000 in
set_option maxHeartbeats 4000000 in
theorem take_any (base g cap k j : Nat) (ds : List VolD) (w : World) (hX : OwnVols w base (.slice (some ⟨g, 0, none⟩) ds.length cap) ds) (hk : k < ds.length) (hj : j < ds.length) (hjk : j ≠ k) (hs : SmallV (ds.getD j VZ)) (hp : 0 < (ds.getD j VZ).files.length) :
    Calls Try.prog 44 #[.agg #[.pointer (some ⟨g, k * 5, none⟩)], .agg #[.pointer (some ⟨g, j * 5, none⟩)]] w fun e w' => e = .returned (.tuple #[]) ∧ OwnVols w' base (.slice (some ⟨g, 0, none⟩) ds.length cap) (tookF ds k j) ∧ w.grownBy w' (some g) := by
  have hva : VolsAt w (some ⟨g, 0, none⟩) ds := by
    obtain ⟨a', c', e, h, _⟩ := hX.at; injection e with e1 _ _; rw [e1]; exact h
  obtain ⟨_, _, e, hvk⟩ := hva.vol hk
  injection e with e
  injection e with e1 e2
  subst e1; subst e2
  obtain ⟨_, _, e, hvj⟩ := hva.vol hj
  injection e with e
  injection e with e1 e2
  subst e1; subst e2
  rw [Nat.zero_add] at hvk hvj
  obtain ⟨fa0, hrow0⟩ : ∃ cs, w.heap[g]? = some (.cells cs 32 (0, 0)) := by
    obtain ⟨gs, _, hrow, _⟩ := hX
    exact own_tag hrow g rfl
  have hbg : base ≤ g := by
    obtain ⟨gs, _, hrow, _⟩ := hX
    exact (World.ownsRow.lt hrow g rfl).1
  have HX : Hid (OwnVols w base (.slice (some ⟨g, 0, none⟩) ds.length cap) ds) := hX
  obtain ⟨ak, ck, ⟨k0, k1, k2, k3, k4⟩, _⟩ := hvk
  obtain ⟨aj, cj, ⟨j0, j1, j2, j3, j4⟩, hval⟩ := hvj.val
  have hgl := block_lt_of_cell k0
  simp only at hgl
  have hbw : base ≤ w.heap.size := by omega
  have HSM : Hid (SmallV (ds.getD j VZ)) := hs
  have HPF : Hid (0 < (ds.getD j VZ).files.length) := hp
  have HFIN : Hid (∀ wU fv nx, Below w.heap.size w wU → OwnFiles wU base fv (ds.getD j VZ).files → nx = max (ds.getD k VZ).next (ds.getD j VZ).next → OwnVols ((wU.setCell ⟨g, k * 5 + 3, none⟩ fv).setCell ⟨g, k * 5 + 4, none⟩ (.int .i64 nx)) base (.slice (some ⟨g, 0, none⟩) ds.length cap) (tookF ds k j) ∧ w.grownBy ((wU.setCell ⟨g, k * 5 + 3, none⟩ fv).setCell ⟨g, k * 5 + 4, none⟩ (.int .i64 nx)) (some g)) := fun wU fv nx h1 h2 h3 => hX.took hk h1 h2 h3
  obtain ⟨W0, hW0⟩ : ∃ W0, W0 = (w.alloc (.cells #[.pointer (some ⟨g, k * 5, none⟩)] 67)).alloc (.cells #[.pointer (some ⟨g, j * 5, none⟩)] 67) := ⟨_, rfl⟩
  have HB0 : Hid (Below w.heap.size w W0) := by rw [hW0]; exact nwA (nwA (nwR w) _) _
  have HX0 : Hid (W0.heap[w.heap.size]? = some (.cells #[.pointer (some ⟨g, k * 5, none⟩)] 67 (0, 0))) := by rw [hW0]; exact (Lib.alloc_old _ _ _ (by simp)).trans (heap_alloc_new w _)
  have HX1 : Hid (W0.heap[w.heap.size + 1]? = some (.cells #[.pointer (some ⟨g, j * 5, none⟩)] 67 (0, 0))) := by rw [hW0]; exact heap_alloc_new2 w _ _
  have HVL : Hid (VolVal W0 (.agg #[.int .i64 (ds.getD j VZ).id, .int .i64 (ds.getD j VZ).fr, .bool (ds.getD j VZ).snap, .slice aj (ds.getD j VZ).files.length cj, .int .i64 (ds.getD j VZ).next]) (ds.getD j VZ)) := hval.below HB0.out
  clear hX hs hp hval hvj hva
  generalize ds.getD k VZ = dk at k0 k1 k2 k3 k4 HFIN
  generalize ds.getD j VZ = dj at j0 j1 j2 j3 j4 HFIN HSM HPF HVL
  go_enter Try.func44, Try.ntmps44
  go_wp2_with fail
  rw [← hW0]
  clear hW0
  have hS : TkS w g (k * 5 + 3) (.pointer (some ⟨g, k * 5, none⟩)) (.pointer (some ⟨g, j * 5, none⟩)) W0 := ⟨hgl, HX0.out, HX1.out, fa0, fa0, hrow0, (HB0.out.block _ hgl).trans hrow0, rfl, fun _ _ => rfl⟩
  have x0 : ∀ w', TkS w g (k * 5 + 3) (.pointer (some ⟨g, k * 5, none⟩)) (.pointer (some ⟨g, j * 5, none⟩)) w' → w'.cell? ⟨w.heap.size, 0, none⟩ = some (.pointer (some ⟨g, k * 5, none⟩)) := fun w' h => cell_of_blk h.b0
  have x1 : ∀ w', TkS w g (k * 5 + 3) (.pointer (some ⟨g, k * 5, none⟩)) (.pointer (some ⟨g, j * 5, none⟩)) w' → w'.cell? ⟨w.heap.size + 1, 0, none⟩ = some (.pointer (some ⟨g, j * 5, none⟩)) := fun w' h => cell_of_blk h.b1
  have z0 : ∀ w', TkS w g (k * 5 + 3) (.pointer (some ⟨g, k * 5, none⟩)) (.pointer (some ⟨g, j * 5, none⟩)) w' → w'.cell? ⟨g, j * 5, none⟩ = some (.int .i64 dj.id) := fun w' h => (h.cell (o := j * 5) (by omega)).trans j0
  have z1 : ∀ w', TkS w g (k * 5 + 3) (.pointer (some ⟨g, k * 5, none⟩)) (.pointer (some ⟨g, j * 5, none⟩)) w' → w'.cell? ⟨g, j * 5 + 1, none⟩ = some (.int .i64 dj.fr) := fun w' h => (h.cell (o := j * 5 + 1) (by omega)).trans j1
  have z2 : ∀ w', TkS w g (k * 5 + 3) (.pointer (some ⟨g, k * 5, none⟩)) (.pointer (some ⟨g, j * 5, none⟩)) w' → w'.cell? ⟨g, j * 5 + 2, none⟩ = some (.bool dj.snap) := fun w' h => (h.cell (o := j * 5 + 2) (by omega)).trans j2
  have z3 : ∀ w', TkS w g (k * 5 + 3) (.pointer (some ⟨g, k * 5, none⟩)) (.pointer (some ⟨g, j * 5, none⟩)) w' → w'.cell? ⟨g, j * 5 + 3, none⟩ = some (.slice aj dj.files.length cj) := fun w' h => (h.cell (o := j * 5 + 3) (by omega)).trans j3
  have z4 : ∀ w', TkS w g (k * 5 + 3) (.pointer (some ⟨g, k * 5, none⟩)) (.pointer (some ⟨g, j * 5, none⟩)) w' → w'.cell? ⟨g, j * 5 + 4, none⟩ = some (.int .i64 dj.next) := fun w' h => (h.cell (o := j * 5 + 4) (by omega)).trans j4
  have y3 : ∀ w', TkS w g (k * 5 + 3) (.pointer (some ⟨g, k * 5, none⟩)) (.pointer (some ⟨g, j * 5, none⟩)) w' → ∃ u', w'.cell? ⟨g, k * 5 + 3, none⟩ = some u' := fun w' h => h.some k3
  have y4 : ∀ w', TkS w g (k * 5 + 3) (.pointer (some ⟨g, k * 5, none⟩)) (.pointer (some ⟨g, j * 5, none⟩)) w' → w'.cell? ⟨g, k * 5 + 4, none⟩ = some (.int .i64 dk.next) := fun w' h => (h.cell (o := k * 5 + 4) (by omega)).trans k4
  have yf : ∀ w', TkS w g (k * 5 + 3) (.pointer (some ⟨g, k * 5, none⟩)) (.pointer (some ⟨g, j * 5, none⟩)) w' → ∀ o, w'.frozen? ⟨g, o, none⟩ = false := fun w' h o => h.frz o
  clear j0 j1 j2 j3 j4 k0 k1 k2 k3 k4
  go_region_held3 (fun w' => TkS w g (k * 5 + 3) (.pointer (some ⟨g, k * 5, none⟩)) (.pointer (some ⟨g, j * 5, none⟩)) w') (first | assumption | exact TkS.drew (by assumption) | exact TkS.below (TkS.drew hS) (by assumption) | exact TkS.set (by assumption) _) (first
    | (go_at_call 59; refine (filesOf_any _ dj _ (HVL.out.below (Below.drew (nwR W0))) HSM.out HPF.out).mono ?_; rintro e wU ⟨⟨nv, rfl, hob⟩, hbU⟩; obtain ⟨afv, cfv, rfl, _⟩ := hob.at; have HUB : Hid (Below W0.heap.size W0 wU) := (nwT (Below.drew (nwR W0)) hbU); have hSU := TkS.below hS HUB.out; obtain ⟨yu, yk3⟩ := y3 wU hSU; have ykf := yf wU hSU))
  have HOB : Hid (OwnFiles wU base (.slice afv dj.files.length cfv) dj.files) := hob.le (Nat.le_trans hbw HB0.out.size)
  have HBB : Hid (Below w.heap.size w wU) := nwT HB0.out HUB.out
  have hS2 := hSU.set (.slice afv dj.files.length cfv)
  have hx0 := x0 _ hS2
  have hx1 := x1 _ hS2
  have hz4 := z4 _ hS2
  have hy4 := y4 _ hS2
  have hyf := yf _ hS2
  clear x0 x1 z0 z1 z2 z3 z4 y3 y4 yf yk3 ykf hob hbU
  go_wp2_with fail
  go_region
  all_goals
    go_wp2_with fail
    go_end0
    have hf := HFIN.out _ _ _ HBB.out HOB.out rfl
    first
      | exact ⟨rfl, hf⟩
      | exact ⟨rfl, hf.1.below (Below.drew (nwR _)), hf.2.trans (gbOf (Below.drew (nwR _)) _)⟩

end Go.Proofs.Ytodahdnnlkcfdaa

/- A volume gone back: what that is. -/
namespace Go.Proofs.Ytodahdnnlkcfdaa
open Go.RowKit

theorem ids_rise {ds : List VolD} {next : Int} (h : VolsOk ds next) : ∀ j i, i < j → j < ds.length → (ds.getD i VZ).id < (ds.getD j VZ).id := by
  intro j
  induction j with
  | zero => intro i hi; omega
  | succ j ih =>
    intro i hi hj
    have h1 := (h.2 (j + 1) hj).2.1.1
    unfold lastV at h1
    simp at h1
    by_cases e : i = j
    · subst e; exact h1
    · have := ih i (by omega) (by omega)
      simp only [List.getD] at h1 this ⊢
      omega
theorem ids_one {ds : List VolD} {next : Int} (h : VolsOk ds next) {i j : Nat} (hi : i < ds.length) (hj : j < ds.length) (e : (ds.getD i VZ).id = (ds.getD j VZ).id) : i = j := by
  rcases Nat.lt_trichotomy i j with h1 | h1 | h1
  · have := ids_rise h j i h1 hj; omega
  · exact h1
  · have := ids_rise h i j h1 hi; omega
/-- a volume that takes the files of another, if it is the one -/
def updV (fr : Int) (x : VolD) (d : VolD) : VolD := if d.id = fr then ⟨d.id, d.fr, d.snap, x.files, max d.next x.next⟩ else d
theorem updV_id (fr : Int) (x d : VolD) : (updV fr x d).id = d.id := by unfold updV; split <;> rfl
theorem updV_fr (fr : Int) (x d : VolD) : (updV fr x d).fr = d.fr := by unfold updV; split <;> rfl
theorem updV_snap (fr : Int) (x d : VolD) : (updV fr x d).snap = d.snap := by unfold updV; split <;> rfl
/-- a snapshot that came after -/
def lateV (fr sid : Int) (d : VolD) : Bool := d.snap && (d.fr == fr) && decide (sid < d.id)
/-- what the volumes are when one has gone back -/
def bakL (ds : List VolD) (x : VolD) : List VolD := (ds.filter fun d => !lateV x.fr x.id d).map (updV x.fr x)
def bakF (ds : List VolD) (id : Int) : Int × List VolD :=
  match atV ds id with
  | none => (3, [])
  | some j => if (ds.getD j VZ).snap = false then (9, []) else (0, bakL ds (ds.getD j VZ))
theorem tookF_map {ds : List VolD} {next : Int} (h : VolsOk ds next) {k j : Nat} (hk : k < ds.length) (e : (ds.getD k VZ).id = (ds.getD j VZ).fr) : tookF ds k j = ds.map (updV (ds.getD j VZ).fr (ds.getD j VZ)) := by
  unfold tookF
  apply List.ext_getElem?
  intro t
  rw [List.getElem?_set, List.getElem?_map]
  by_cases ht : t < ds.length
  · have hg : ds[t]? = some (ds.getD t VZ) := by simp [List.getD, ht]
    by_cases ek : k = t
    · subst ek
      rw [if_pos rfl, if_pos ht, hg]
      simp only [Option.map_some, updV, if_pos e]
    · rw [if_neg ek, hg]
      have hne : (ds.getD t VZ).id ≠ (ds.getD j VZ).fr := fun e2 => ek (ids_one h hk ht (e.trans e2.symm))
      simp only [Option.map_some, updV, if_neg hne]
  · have hg : ds[t]? = none := List.getElem?_eq_none (by omega)
    rw [hg]
    by_cases ek : k = t
    · subst ek; omega
    · rw [if_neg ek]; rfl
theorem newer_mem {ds : List VolD} {fr sid i : Int} : i ∈ newerF ds fr sid ↔ ∃ d ∈ ds, d.snap = true ∧ d.fr = fr ∧ sid < d.id ∧ d.id = i := by
  unfold newerF afterI snapsF
  simp only [List.mem_filter, List.mem_map, Bool.and_eq_true, beq_iff_eq, Bool.not_eq_true', decide_eq_false_iff_not]
  constructor
  · rintro ⟨⟨d, ⟨h1, h2, h3⟩, h4⟩, h5⟩
    exact ⟨d, h1, h2, h3, by omega, h4⟩
  · rintro ⟨d, h1, h2, h3, h4, h5⟩
    exact ⟨⟨d, ⟨h1, h2, h3⟩, h5⟩, by omega⟩
theorem mem_one {ds : List VolD} {next : Int} (h : VolsOk ds next) {a b : VolD} (ha : a ∈ ds) (hb : b ∈ ds) (e : a.id = b.id) : a = b := by
  obtain ⟨i, hi, rfl⟩ := List.getElem_of_mem ha
  obtain ⟨j, hj, rfl⟩ := List.getElem_of_mem hb
  have := ids_one h hi hj (by simpa [List.getD, hi, hj] using e)
  subst this; rfl
theorem back_eq {ds : List VolD} {next : Int} (h : VolsOk ds next) {k j : Nat} (hk : k < ds.length) (e : (ds.getD k VZ).id = (ds.getD j VZ).fr) :
    restW (newerF (tookF ds k j) (ds.getD j VZ).fr (ds.getD j VZ).id) (tookF ds k j) = bakL ds (ds.getD j VZ) := by
  rw [tookF_map h hk e]
  generalize ds.getD j VZ = x at *
  unfold restW bakL
  rw [List.filter_map]
  congr 1
  apply List.filter_congr
  intro d hd
  have key : decide (d.id ∈ newerF (ds.map (updV x.fr x)) x.fr x.id) = lateV x.fr x.id d := by
    rw [Bool.eq_iff_iff, decide_eq_true_iff, newer_mem]
    unfold lateV
    simp only [Bool.and_eq_true, beq_iff_eq, decide_eq_true_eq]
    constructor
    · rintro ⟨d', h1, h2, h3, h4, h5⟩
      obtain ⟨d0, h6, rfl⟩ := List.mem_map.1 h1
      rw [updV_id] at h4 h5
      rw [updV_snap] at h2
      rw [updV_fr] at h3
      have := mem_one h h6 hd h5
      subst this
      exact ⟨⟨h2, h3⟩, h4⟩
    · rintro ⟨⟨h2, h3⟩, h4⟩
      exact ⟨updV x.fr x d, List.mem_map.2 ⟨d, hd, rfl⟩, by rw [updV_snap]; exact h2, by rw [updV_fr]; exact h3, by rw [updV_id]; exact h4, updV_id _ _ _⟩
  simp only [Function.comp, updV_id]
  rw [key]

end Go.Proofs.Ytodahdnnlkcfdaa

/- A snapshot taken, gone back to, cloned and dropped: what the volumes are. -/
namespace Go.Proofs.Ytodahdnnlkcfdaa
open Go.RowKit

theorem snp_get {ds dd : List VolD} {next id : Int} {cl : Bool} (h : (0, dd) = snpF ds next id cl) : ∃ k, atV ds id = some k ∧ (ds.getD k VZ).snap = cl ∧ ds.length < 4 ∧ next < 1073741824 ∧ dd = ds ++ [⟨next, if cl then 0 else id, !cl, (ds.getD k VZ).files, (ds.getD k VZ).next⟩] := by
  unfold snpF at h
  cases hat : atV ds id with
  | none => rw [hat] at h; simp at h
  | some k =>
    rw [hat] at h
    simp only at h
    by_cases h1 : (ds.getD k VZ).snap = cl
    · rw [if_neg (fun h => h h1)] at h
      by_cases h2 : 4 ≤ ds.length ∨ 1073741824 ≤ next
      · rw [if_pos h2] at h; simp at h
      · rw [if_neg h2] at h
        refine ⟨k, rfl, h1, by omega, by omega, ?_⟩
        injection h
    · rw [if_pos h1] at h; simp at h
theorem atV_append {ds es : List VolD} {id : Int} {k : Nat} (h : atV ds id = some k) : atV (ds ++ es) id = some k := by
  unfold atV at *
  rw [List.findIdx?_append, h]; rfl
theorem getD_left {ds es : List VolD} {k : Nat} (h : k < ds.length) : (ds ++ es).getD k VZ = ds.getD k VZ := by
  simp only [List.getD]
  rw [List.getElem?_append_left h]
theorem getD_last (ds : List VolD) (s : VolD) : (ds ++ [s]).getD ds.length VZ = s := by simp [List.getD]
theorem ids_lt {ds : List VolD} {next : Int} (h : VolsOk ds next) : ∀ k, k < ds.length → (ds.getD k VZ).id < next ∧ 0 < (ds.getD k VZ).id := by
  intro k
  induction k with
  | zero => intro hk; have := (h.2 0 hk).2.1; unfold lastV at this; simp at this; exact ⟨this.2, this.1⟩
  | succ k ih =>
    intro hk
    have h1 := (h.2 (k + 1) hk).2.1
    unfold lastV at h1
    rw [if_neg (by omega), Nat.add_sub_cancel] at h1
    have := ih (by omega)
    exact ⟨h1.2, by omega⟩
/-- one more volume -/
theorem add_ok {ds : List VolD} {next : Int} {s : VolD} (h : VolsOk ds next) (hi : s.id = next) (hv : VolOk s) (hr : RootW (ds ++ [s]) s) (h4 : ds.length < 4) (hn : next < 1073741824) : VolsOk (ds ++ [s]) (next + 1) := by
  have h1 := h.1.2.1
  refine ⟨⟨by simp; omega, by omega, by omega⟩, fun j hj => ?_⟩
  have hj2 : j < ds.length ∨ j = ds.length := by simp at hj; omega
  rcases hj2 with hj2 | rfl
  · obtain ⟨e1, e2, e3⟩ := h.2 j hj2
    unfold EachW
    rw [getD_left hj2]
    refine ⟨e1, ⟨?_, by omega⟩, fun hsn => ?_⟩
    · have : lastV (ds ++ [s]) j = lastV ds j := by
        unfold lastV
        by_cases h0 : j = 0
        · rw [if_pos h0, if_pos h0]
        · rw [if_neg h0, if_neg h0, getD_left (by omega)]
      rw [this]; exact e2.1
    · obtain ⟨q, q1, q2⟩ := e3 hsn
      exact ⟨q, atV_append q1, by rw [getD_left (atV_lt q1)]; exact q2⟩
  · unfold EachW
    rw [getD_last]
    refine ⟨hv, ⟨?_, by omega⟩, hr⟩
    unfold lastV
    by_cases h0 : ds.length = 0
    · rw [if_pos h0]; omega
    · rw [if_neg h0, getD_left (by omega), hi]
      exact (ids_lt h _ (by omega)).1
theorem like_ok {d s : VolD} {next : Int} (h : VolOk d) (hf : s.files = d.files) (hx : s.next = d.next) (hi : s.id = next) (h0 : 0 ≤ next) (h1 : next ≤ 1073741824) (hfr : 0 ≤ s.fr ∧ s.fr ≤ 1073741824) (hs : s.fr ≠ 0 → s.snap = true) : VolOk s := by
  obtain ⟨⟨_, _, n3, _⟩, r⟩ := h
  refine ⟨⟨?_, ?_, by rw [hx]; exact n3, hs⟩, ?_⟩
  · unfold numB; simp; omega
  · unfold numB; simp; omega
  · rw [hf, hx]; exact r
theorem atV_last {ds : List VolD} {next : Int} {s : VolD} (h : VolsOk ds next) (hi : s.id = next) : atV (ds ++ [s]) next = some ds.length := by
  unfold atV
  have hn : ds.findIdx? (fun d => d.id == next) = none := by
    rw [List.findIdx?_eq_none_iff]
    intro d hd
    obtain ⟨i, hi, rfl⟩ := List.getElem_of_mem hd
    have := (ids_lt h i hi).1
    have e : ds.getD i VZ = ds[i] := by simp [List.getD, hi]
    rw [e] at this
    simp; omega
  rw [List.findIdx?_append, hn]
  simp [List.findIdx?_cons, hi]
theorem rest_last {ds : List VolD} {next : Int} {s : VolD} (h : VolsOk ds next) (hi : s.id = next) : restW [next] (ds ++ [s]) = ds := by
  unfold restW
  rw [List.filter_append]
  have h1 : ds.filter (fun d => !decide (d.id ∈ [next])) = ds := by
    rw [List.filter_eq_self]
    intro d hd
    obtain ⟨i, hi, rfl⟩ := List.getElem_of_mem hd
    have := (ids_lt h i hi).1
    have e : ds.getD i VZ = ds[i] := by simp [List.getD, hi]
    rw [e] at this
    simp; omega
  rw [h1]
  simp [hi]
/-- no snapshot of what is no volume, or a snapshot -/
theorem snaps_none {ds : List VolD} {next x : Int} (h : VolsOk ds next) (hx : ∀ q, q < ds.length → (ds.getD q VZ).id = x → (ds.getD q VZ).snap = true) : snapsF ds x = [] := by
  unfold snapsF
  rw [List.map_eq_nil_iff, List.filter_eq_nil_iff]
  intro d hd hc
  obtain ⟨i, hi, rfl⟩ := List.getElem_of_mem hd
  simp only [Bool.and_eq_true, beq_iff_eq] at hc
  have e : ds.getD i VZ = ds[i] := by simp [List.getD, hi]
  obtain ⟨q, q1, q2⟩ := (h.2 i hi).2.2 (by rw [e]; exact hc.1)
  rw [e, hc.2] at q1
  have := hx q (atV_lt q1) (atV_id q1)
  rw [q2] at this
  cases this
theorem at_self {ds : List VolD} {next : Int} (h : VolsOk ds next) {i : Nat} (hi : i < ds.length) {k : Nat} (hat : atV ds (ds.getD i VZ).id = some k) : k = i := ids_one h (atV_lt hat) hi (atV_id hat)
/-- gone back to the newest snapshot nothing changes -/
theorem back_newest {ds : List VolD} {next : Int} {s : VolD} {k : Nat} (h : VolsOk ds next) (hk : k < ds.length) (hi : s.id = next) (hf : s.fr = (ds.getD k VZ).id) (hfi : s.files = (ds.getD k VZ).files) (hx : s.next = (ds.getD k VZ).next) : bakL (ds ++ [s]) s = ds ++ [s] := by
  unfold bakL
  have hid : ∀ d ∈ ds ++ [s], d.id ≤ next := fun d hd => by
    rcases List.mem_append.1 hd with h1 | h1
    · obtain ⟨i, hi, rfl⟩ := List.getElem_of_mem h1
      have := (ids_lt h i hi).1
      have e : ds.getD i VZ = ds[i] := by simp [List.getD, hi]
      rw [e] at this; omega
    · simp at h1; rw [h1]; omega
  have h1 : (ds ++ [s]).filter (fun d => !lateV s.fr s.id d) = ds ++ [s] := by
    rw [List.filter_eq_self]
    intro d hd
    have := hid d hd
    unfold lateV
    rw [decide_eq_false (by omega : ¬ s.id < d.id)]
    simp
  rw [h1]
  apply List.ext_getElem
  · simp
  · intro i h2 h3
    rw [List.getElem_map]
    unfold updV
    by_cases e : (ds ++ [s])[i].id = s.fr
    · rw [if_pos e]
      have hlt := ids_lt h k hk
      have hil : i < ds.length := by
        have : i < (ds ++ [s]).length := h3
        have h5 : i ≠ ds.length := fun e2 => by
          subst e2
          simp at e
          omega
        simp at this; omega
      rw [List.getElem_append_left hil] at e ⊢
      have ek : i = k := ids_one h hil hk (by rw [← hf, ← e]; simp [List.getD, hil])
      subst ek
      have eg : ds.getD i VZ = ds[i] := by simp [List.getD, hil]
      rw [hfi, hx, eg]
      cases hq : ds[i]
      simp
    · rw [if_neg e]

theorem bak_last {ds : List VolD} {next : Int} {s : VolD} {k : Nat} (h : VolsOk ds next) (hk : k < ds.length) (hi : s.id = next) (hsn : s.snap = true) (hf : s.fr = (ds.getD k VZ).id) (hfi : s.files = (ds.getD k VZ).files) (hx : s.next = (ds.getD k VZ).next) : bakF (ds ++ [s]) next = (0, ds ++ [s]) := by
  unfold bakF
  rw [atV_last h hi]
  simp only
  rw [getD_last, if_neg (by rw [hsn]; simp), back_newest h hk hi hf hfi hx]
theorem drp_last {ds : List VolD} {next : Int} {s : VolD} (h : VolsOk ds next) (hi : s.id = next) (hn : ¬ (s.snap = true ∧ s.fr = next)) : drpF (ds ++ [s]) next = (0, ds) := by
  unfold drpF
  rw [atV_last h hi]
  simp only
  rw [snapsF_snoc, if_neg hn, snaps_none h (fun q hq e => absurd e (by have := (ids_lt h q hq).1; omega)), if_neg (by simp), rest_last h hi]
theorem drp_used {ds : List VolD} {s : VolD} {id : Int} {k : Nat} (hat : atV ds id = some k) (hsn : s.snap = true) (hf : s.fr = id) : drpF (ds ++ [s]) id = (8, []) := by
  unfold drpF
  rw [atV_append hat]
  simp only
  have e : (if s.snap = true ∧ s.fr = id then [s.id] else []) = [s.id] := if_pos ⟨hsn, hf⟩
  rw [snapsF_snoc, e, if_pos (by simp)]
theorem snap_small {ds : List VolD} {s : VolD} {k : Nat} (h : SmallW ds) (h4 : ds.length < 4) (hk : k < ds.length) (hf : s.files = (ds.getD k VZ).files) : SmallW (ds ++ [s]) := by
  refine ⟨by simp; omega, fun d hd => ?_⟩
  rcases List.mem_append.1 hd with h1 | h1
  · exact h.2 d h1
  · simp at h1; subst h1
    have := h.2 (ds.getD k VZ) (by simp [List.getD, hk])
    unfold SmallV at this ⊢
    rw [hf]; exact this

end Go.Proofs.Ytodahdnnlkcfdaa

/- A volume gone back to a snapshot, by the program. -/
namespace Go.Proofs.Ytodahdnnlkcfdaa
open Go.RowKit

theorem one_set {w : World} {g : Nat} {c d : Value} {t : TypeId} (h : w.heap[g]? = some (.cells #[c] t (0, 0))) : (w.setCell ⟨g, 0, none⟩ d).heap[g]? = some (.cells #[d] t (0, 0)) := by
  rw [heap_setCell_same w g 0 _ t _ h]; simp
theorem tookF_len (ds : List VolD) (k j : Nat) : (tookF ds k j).length = ds.length := by unfold tookF; rw [List.length_set]
theorem tookF_other {ds : List VolD} {k j : Nat} (h : j ≠ k) : (tookF ds k j).getD j VZ = ds.getD j VZ := by
  unfold tookF
  simp only [List.getD]
  rw [List.getElem?_set, if_neg (Ne.symm h)]
/-- the shelf, and the box of a volume, while they are only read -/
structure BkS (S P : Nat) (sh bx : Obj) (w : World) : Prop where
  s : w.heap[S]? = some sh
  p : w.heap[P]? = some bx
theorem BkS.below {S P : Nat} {sh bx : Obj} {w w' : World} (h : BkS S P sh bx w) (hb : Below w.heap.size w w') : BkS S P sh bx w' :=
  ⟨(hb.block _ (Array.getElem?_eq_some_iff.1 h.s).1).trans h.s, (hb.block _ (Array.getElem?_eq_some_iff.1 h.p).1).trans h.p⟩
theorem BkS.drew {S P : Nat} {sh bx : Obj} {w : World} (h : BkS S P sh bx w) : BkS S P sh bx w.drew := h.below (Below.drew (nwR w))
theorem BkS.grown {S P g : Nat} {sh bx : Obj} {w w' : World} (h : BkS S P sh bx w) (hS : S ≠ g) (hP : P ≠ g) (hg : w.grownBy w' (some g)) : BkS S P sh bx w' :=
  ⟨(hg.block _ (Array.getElem?_eq_some_iff.1 h.s).1 (by simpa using hS)).trans h.s, (hg.block _ (Array.getElem?_eq_some_iff.1 h.p).1 (by simpa using hP)).trans h.p⟩

set_option maxRecDepth 100000 in
set_option maxHeartbeats 4000000 in
theorem backp_any (a : Option Addr) (ds : List VolD) (ca : Nat) (next id : Int) (w : World) (hv : VolsAt w a ds) (hs : SmallW ds) :
    Calls Try.prog 17 #[.slice a ds.length ca, .int .i64 next, .int .i64 id] w fun e w' => TwoPost (bakF ds id) (VolsOk ds next) w.heap.size e w' ∧ Below w.heap.size w w' := by
  have HS : Hid (SmallW ds) := hs
  have HV : Hid (VolsAt w a ds) := hv
  clear hs hv
  go_enter Try.func17, Try.ntmps17
  go_wp2_with fail
  refine (open_any a ds ca next id w HV.out HS.out).mono ?_
  rintro e w1 ⟨ho, hb1⟩
  have HB1 : Hid (Below w.heap.size w w1) := hb1
  rcases ho with ⟨hno, rfl⟩ | ⟨hok, hat, rfl⟩ | ⟨j, S, g, cap, hok, hat, rfl, hsh⟩
  · have HQ : Hid (TwoPost (bakF ds id) (VolsOk ds next) w.heap.size (.returned (.tuple #[.slice none 0 0, .int .i64 1])) (w1.alloc (.cells #[.pointer none] 67))) := ⟨_, 1, [], rfl, ownVs_nil _ _, .inr ⟨hno, rfl, rfl⟩⟩
    clear hno
    go_wp2_with fail
    go_ret2
    exact ⟨HQ.out, nwA HB1.out _⟩
  · have HQ : Hid (TwoPost (bakF ds id) (VolsOk ds next) w.heap.size (.returned (.tuple #[.slice none 0 0, .int .i64 3])) (w1.alloc (.cells #[.pointer none] 67))) := ⟨_, 3, [], rfl, ownVs_nil _ _, .inl ⟨hok, by unfold bakF; rw [hat]⟩⟩
    clear hok hat
    go_wp2_with fail
    go_ret2
    exact ⟨HQ.out, nwA HB1.out _⟩
  · have HOK : Hid (VolsOk ds next) := hok
    have hl := HS.out.1
    have hjl := atV_lt hat
    have HUF : Hid (bakF ds id = if (ds.getD j VZ).snap = false then (9, []) else (0, bakL ds (ds.getD j VZ))) := by show _ = _; unfold bakF; simp only [hat]
    have HSM : Hid (SmallV (ds.getD j VZ)) := HS.out.2 _ (by simp [List.getD, hjl])
    have HPF : Hid (0 < (ds.getD j VZ).files.length) := hok.pos _ (by simp [List.getD, hjl])
    obtain ⟨W2, hW2⟩ : ∃ W2, W2 = w1.alloc (.cells #[.pointer (some ⟨g, j * 5, none⟩)] 67) := ⟨_, rfl⟩
    have HBA : Hid (Below w1.heap.size w1 W2) := by rw [hW2]; exact nwA (nwR w1) _
    have HSA : Hid (ShelfAt W2 w.heap.size S g cap ds next) := hsh.below HBA.out
    have HXA : Hid (W2.heap[w1.heap.size]? = some (.cells #[.pointer (some ⟨g, j * 5, none⟩)] 67 (0, 0))) := by rw [hW2]; exact heap_alloc_new w1 _
    have HB2 : Hid (Below w.heap.size w W2) := nwT HB1.out HBA.out
    have hva : VolsAt W2 (some ⟨g, 0, none⟩) ds := by
      obtain ⟨a', c', e, h, _⟩ := HSA.out.own.at; injection e with e1 _ _; rw [e1]; exact h
    have HVA : Hid (VolsAt W2 (some ⟨g, 0, none⟩) ds) := hva
    obtain ⟨_, _, e, hvi⟩ := hva.vol hjl
    injection e with e
    injection e with e1 e2
    subst e1; subst e2
    rw [Nat.zero_add] at hvi
    obtain ⟨_, _, ⟨c0, c1, c2, c3, c4⟩, _⟩ := hvi
    have hx0 := cell_of_blk HXA.out
    have HRT : Hid (RootW ds (ds.getD j VZ)) := (hok.2 j hjl).2.2
    cases hsn : (ds.getD j VZ).snap
    case false =>
      have HQ : Hid (∀ w', TwoPost (bakF ds id) (VolsOk ds next) w.heap.size (.returned (.tuple #[.slice none 0 0, .int .i64 9])) w') := fun w' => ⟨_, 9, [], rfl, ownVs_nil _ _, .inl ⟨HOK.out, by rw [HUF.out, if_pos hsn]⟩⟩
      rw [hsn, hW2] at c2
      clear hsn hok hat hsh hva c0 c1 c3 c4 hx0
      go_wp2_with fail
      rw [← hW2]
      go_ret2
      exact ⟨HQ.out _, HB2.out⟩
    case true =>
    obtain ⟨k, hak, hks⟩ := HRT.out hsn
    have hkl := atV_lt hak
    have hkj : j ≠ k := fun e => by subst e; rw [hsn] at hks; cases hks
    have hkid := atV_id hak
    have HBK : Hid (restW (newerF (tookF ds k j) (ds.getD j VZ).fr (ds.getD j VZ).id) (tookF ds k j) = bakL ds (ds.getD j VZ)) := back_eq hok hkl hkid
    have HUF2 : Hid (bakF ds id = (0, bakL ds (ds.getD j VZ))) := by show _ = _; rw [HUF.out, if_neg (by rw [hsn]; simp)]
    rw [hsn] at c2
    have HOT : Hid ((tookF ds k j).getD j VZ = ds.getD j VZ) := tookF_other hkj
    have HTL : Hid ((tookF ds k j).length = ds.length) := tookF_len ds k j
    have HAK : Hid (atV ds (ds.getD j VZ).fr = some k) := hak
    have HSG : Hid (S ≠ g ∧ w1.heap.size ≠ g ∧ S < W2.heap.size ∧ w1.heap.size < W2.heap.size ∧ g < W2.heap.size ∧ w.heap.size ≤ g) := by
      obtain ⟨gs, _, hrow, _⟩ := HSA.out.own
      obtain ⟨cs, h1⟩ := own_tag hrow g rfl
      have h2 := HSA.out.hp
      have h3 := HXA.out
      refine ⟨fun e => by rw [e, h1] at h2; simp at h2, fun e => by rw [e, h1] at h3; simp at h3, (Array.getElem?_eq_some_iff.1 h2).1, (Array.getElem?_eq_some_iff.1 h3).1, (Array.getElem?_eq_some_iff.1 h1).1, (World.ownsRow.lt hrow g rfl).1⟩
    clear hsn hok hat hsh hva hak hks hkid HUF HRT
    obtain ⟨s0, s1, _⟩ := two_cells HSA.out.hp
    generalize hfr : (ds.getD j VZ).fr = fr at c1 HBK HAK
    generalize hsid : (ds.getD j VZ).id = sid at c0 HBK
    have HFR : Hid (((tookF ds k j).getD j VZ).fr = fr ∧ ((tookF ds k j).getD j VZ).id = sid) := by show _ ∧ _; rw [HOT.out]; exact ⟨hfr, hsid⟩
    clear hfr hsid
    have hgl := HSG.out.2.2.2.2.1
    have hSl := HSG.out.2.2.1
    have hPl := HSG.out.2.2.2.1
    have hc2 := c2
    rw [hW2] at hc2
    go_upto_region 6 with fail
    rw [← hW2]
    have HP : Hid (w1.heap.size < W2.heap.size ∧ w.heap.size ≤ w1.heap.size) := ⟨hPl, HB1.out.size⟩
    generalize w1.heap.size = P at *
    clear hW2 hc2 HBA
    have hS := nwR W2
    have z0 : ∀ w', Below W2.heap.size W2 w' → w'.cell? ⟨S, 0, none⟩ = some (.slice (some ⟨g, 0, none⟩) ds.length cap) := fun w' h => (h.cell (p := ⟨S, 0, none⟩) hSl).trans s0
    have z1 : ∀ w', Below W2.heap.size W2 w' → w'.cell? ⟨P, 0, none⟩ = some (.pointer (some ⟨g, j * 5, none⟩)) := fun w' h => (h.cell (p := ⟨P, 0, none⟩) hPl).trans hx0
    have z2 : ∀ w', Below W2.heap.size W2 w' → w'.cell? ⟨g, j * 5 + 1, none⟩ = some (.int .i64 fr) := fun w' h => (h.cell (p := ⟨g, j * 5 + 1, none⟩) hgl).trans c1
    clear c0 c2 c3 c4
    go_cut [11] from 12 to 57 (fun p wx => ∃ B, p = .pointer (some ⟨B, 0, none⟩) ∧ Below W2.heap.size W2 wx ∧ wx.heap[B]? = some (.cells #[.pointer (some ⟨g, k * 5, none⟩)] 67 (0, 0)))
    case first =>
      go_region_with (first
        | (go_at_call 43; refine (vfind_any _ ds cap fr _ (HVA.out.below (Below.drew hS)) hl).mono ?_; rintro e wU ⟨rfl, hbU⟩; have hbu : Below W2.heap.size W2 wU := nwT (Below.drew hS) hbU; have k0 := z0 wU hbu; have k1 := z1 wU hbu; have k2 := z2 wU hbu; simp only [HAK.out, ptrV, Option.isSome, Nat.zero_add])
        | (go_at_call 43; refine (vfind_any _ ds cap fr _ (HVA.out.below (Below.drew (nwA hS _))) hl).mono ?_; rintro e wU ⟨rfl, hbU⟩; have hbu : Below W2.heap.size W2 wU := nwT (Below.drew (nwA hS _)) hbU; have tH := (hbU.block W2.heap.size (by simp)).trans (heap_alloc_new W2 _); have t0 := cell_of_blk tH; have tf : ∀ o, wU.frozen? ⟨W2.heap.size, o, none⟩ = false := fun o => Lib.frozen_of_heap tH o; have k0 := z0 wU hbu; have k1 := z1 wU hbu; have k2 := z2 wU hbu; simp only [HAK.out, ptrV, Option.isSome, Nat.zero_add])
        | fail)
      all_goals
        go_wp2_with fail
        go_meet
        refine ⟨_, by with_reducible rfl, ?_, ?_⟩
        · first | with_reducible exact nwA hbu _ | with_reducible exact hbu.setCell (p := ⟨W2.heap.size, 0, none⟩) (Nat.le_refl _) _
        · first | with_reducible exact heap_alloc_new _ _ | with_reducible exact one_set tH
    case rest =>
      obtain ⟨B, rfl, hbc, hB⟩ := hcut
      clear z0 z1 z2 s0 s1 c1 hx0 hS
      have HSC : Hid (ShelfAt wc w.heap.size S g cap ds next) := HSA.out.below hbc
      have HXC : Hid (wc.heap[P]? = some (.cells #[.pointer (some ⟨g, j * 5, none⟩)] 67 (0, 0))) := (hbc.block _ hPl).trans HXA.out
      have HBC : Hid (Below w.heap.size w wc) := nwT HB2.out hbc
      have t0 := cell_of_blk HXC.out
      have t1 := cell_of_blk hB
      clear hbc hB HSA HXA HVA
      go_wp2_with fail
      refine (take_any w.heap.size g cap k j ds wc HSC.out.own hkl hjl hkj HSM.out HPF.out).mono ?_
      rintro e w3 ⟨rfl, ho, hg⟩
      have HO3 : Hid (OwnVols w3 w.heap.size (.slice (some ⟨g, 0, none⟩) ds.length cap) (tookF ds k j)) := ho
      have hk0 : BkS S P (.cells #[.slice (some ⟨g, 0, none⟩) ds.length cap, .int .i64 next] 74 (0, 0)) (.cells #[.pointer (some ⟨g, j * 5, none⟩)] 67 (0, 0)) wc := ⟨HSC.out.hp, HXC.out⟩
      have hSg := HSG.out.1
      have hPg := HSG.out.2.1
      have hS := hk0.grown hSg hPg hg
      have HB3 : Hid (Below w.heap.size w w3) := HBC.out.grown hg HBC.out.size (fun q e => by injection e with e; subst e; exact HSG.out.2.2.2.2.2)
      clear ho hg hk0 t0 t1 HSC HXC HBC
      generalize tookF ds k j = ts at HO3 HBK HOT HTL HFR
      have HTK : Hid (ts.length = ds.length) := HTL.out
      have HJ : Hid (j < ts.length) := by show _ < _; rw [HTK.out]; exact hjl
      have HLT : Hid (ts.length ≤ 100000) := by show _ ≤ _; rw [HTK.out]; exact hl
      have HQ : Hid (∀ w', OwnVols w' w.heap.size (.slice (some ⟨g, 0, none⟩) (restW (newerF ts fr sid) ts).length cap) (restW (newerF ts fr sid) ts) → TwoPost (bakF ds id) (VolsOk ds next) w.heap.size (.returned (.tuple #[.slice (some ⟨g, 0, none⟩) (restW (newerF ts fr sid) ts).length cap, .int .i64 0])) w') := fun w' h => ⟨_, 0, _, rfl, h, .inl ⟨HOK.out, by rw [HUF2.out, HBK.out]⟩⟩
      have HNL : Hid ((newerF ts fr sid).length ≤ 100000) := by
        show _ ≤ _
        unfold newerF
        exact Nat.le_trans (Nat.le_trans (afterI_le _ _) (snapsF_le _ _)) HLT.out
      have HNEW : Hid (∀ w', VolsAt w' (some ⟨g, 0, none⟩) ts → Calls Try.prog 46 #[.slice (some ⟨g, 0, none⟩) ds.length cap, .agg #[.pointer (some ⟨g, j * 5, none⟩)]] w' fun e w'' => (∃ v, e = .returned v ∧ OwnInts w'' w'.heap.size v (newerF ts fr sid)) ∧ Below w'.heap.size w' w'') := fun w' h => by
        have h2 := newer_any g cap j ts w' h HLT.out HJ.out
        rw [HTK.out, HFR.out.1, HFR.out.2] at h2
        exact h2
      have HWIT : Hid (∀ w' b nv, OwnVols w' w.heap.size (.slice (some ⟨g, 0, none⟩) ds.length cap) ts → OwnInts w' b nv (newerF ts fr sid) → Calls Try.prog 45 #[.slice (some ⟨g, 0, none⟩) ds.length cap, nv] w' fun e w'' => e = .returned (.slice (some ⟨g, 0, none⟩) (restW (newerF ts fr sid) ts).length cap) ∧ OwnVols w'' w.heap.size (.slice (some ⟨g, 0, none⟩) (restW (newerF ts fr sid) ts).length cap) (restW (newerF ts fr sid) ts) ∧ w'.grownBy w'' (some g)) := fun w' b nv h1 h2 => by
        rw [← HTK.out] at h1 ⊢
        exact without_any w.heap.size b g cap ts nv _ w' h1 h2 HLT.out HNL.out
      have hvt : VolsAt w3 (some ⟨g, 0, none⟩) ts := by
        obtain ⟨a', c', e, h, _⟩ := HO3.out.at; injection e with e1 _ _; rw [e1]; exact h
      have HVT : Hid (VolsAt w3 (some ⟨g, 0, none⟩) ts) := hvt
      clear hvt HNL HLT HJ HOT HTL HBK HFR HUF2 HOK HAK
      generalize newerF ts fr sid = ns at HQ HNEW HWIT
      have z0 : ∀ w', BkS S P (.cells #[.slice (some ⟨g, 0, none⟩) ds.length cap, .int .i64 next] 74 (0, 0)) (.cells #[.pointer (some ⟨g, j * 5, none⟩)] 67 (0, 0)) w' → w'.cell? ⟨S, 0, none⟩ = some (.slice (some ⟨g, 0, none⟩) ds.length cap) := fun w' h => (two_cells h.s).1
      have z1 : ∀ w', BkS S P (.cells #[.slice (some ⟨g, 0, none⟩) ds.length cap, .int .i64 next] 74 (0, 0)) (.cells #[.pointer (some ⟨g, j * 5, none⟩)] 67 (0, 0)) w' → w'.cell? ⟨P, 0, none⟩ = some (.pointer (some ⟨g, j * 5, none⟩)) := fun w' h => cell_of_blk h.p
      go_wp2_with fail
      go_region_held3 (fun w' => BkS S P (.cells #[.slice (some ⟨g, 0, none⟩) ds.length cap, .int .i64 next] 74 (0, 0)) (.cells #[.pointer (some ⟨g, j * 5, none⟩)] 67 (0, 0)) w') (first | assumption | exact BkS.drew (by assumption) | exact BkS.below (BkS.drew hS) (by assumption) | exact BkS.grown (BkS.below (BkS.drew hS) (by assumption)) hSg hPg (by assumption)) (first
        | (go_at_call 46; refine (HNEW.out _ (HVT.out.below (Below.drew (nwR w3)))).mono ?_; rintro e wU ⟨⟨nv, rfl, hnv⟩, hbU⟩; obtain ⟨an, cn, e9, _, _⟩ := OwnInts.at hnv; subst e9)
        | (go_at_call 45; refine (HWIT.out _ _ _ (HO3.out.below (nwT (Below.drew (nwR w3)) hbU)) hnv).mono ?_; rintro e wV ⟨rfl, hoV, hgV⟩))
      have HB4 : Hid (Below w.heap.size w wU) := nwT HB3.out (nwT (Below.drew (nwR w3)) hbU)
      have HB5 : Hid (Below w.heap.size w wV) := HB4.out.grown hgV HB4.out.size (fun q e => by injection e with e; subst e; exact HSG.out.2.2.2.2.2)
      have HQ5 := HQ.out wV hoV
      clear z0 z1 hS hnv hbU
      go_wp2_with fail
      go_ret2
      exact ⟨HQ5, HB5.out⟩

end Go.Proofs.Ytodahdnnlkcfdaa
