/- Laid together: Maxd, Leastd, Takem, Taker, TellA. -/
import Derived.Test.YtheomnafmjmpdaaRoomN8
/- The emptiest device of a group, by the program. -/
namespace Go.Proofs.Ytheomnafmjmpdaa
open Go.RowKit

def frC (ds : List DevD) (k : Nat) : Int := cntOf (ds.getD k DZ).free
def bestF (ds : List DevD) : Nat → List Nat → Nat
  | m, [] => m
  | m, k :: r => bestF ds (if frC ds m < frC ds k then k else m) r
theorem bestF_snoc (ds : List DevD) (k : Nat) : ∀ (r : List Nat) (m : Nat), bestF ds m (r ++ [k]) = if frC ds (bestF ds m r) < frC ds k then k else bestF ds m r := by
  intro r
  induction r with
  | nil => intro m; rfl
  | cons x xs ih => intro m; exact ih _
def bestK (ds : List DevD) (ks : List Nat) : Nat := bestF ds (ks.getD 0 0) (ks.drop 1)
theorem bestF_mem (ds : List DevD) : ∀ (r : List Nat) (m : Nat), bestF ds m r = m ∨ bestF ds m r ∈ r := by
  intro r
  induction r with
  | nil => intro m; exact .inl rfl
  | cons x xs ih =>
    intro m
    unfold bestF
    rcases ih (if frC ds m < frC ds x then x else m) with h | h
    · rw [h]
      split
      · exact .inr (List.mem_cons_self ..)
      · exact .inl rfl
    · exact .inr (List.mem_cons_of_mem _ h)
theorem bestK_mem (ds : List DevD) {ks : List Nat} (h : 0 < ks.length) : bestK ds ks ∈ ks := by
  unfold bestK
  rcases bestF_mem ds (ks.drop 1) (ks.getD 0 0) with h1 | h1
  · rw [h1]; exact getD_mem 0 h
  · exact List.mem_of_mem_drop h1

set_option maxRecDepth 100000 in
set_option maxHeartbeats 400000 in
theorem cmpd_any (b o p : Nat) (d e : DevD) (w : World) (hd : DevIn w b o d) (he : DevIn w b p e) (hs : SmallD d) (ht : SmallD e) (hv : vOk d.free = true) (hx : vOk e.free = true) :
    Calls Try.prog 64 #[.agg #[.pointer (some ⟨b, o, none⟩)], .agg #[.pointer (some ⟨b, p, none⟩)]] w fun r w' => r = .returned (.int .i64 (cntOf d.free - cntOf e.free)) ∧ Below w.heap.size w w' := by
  obtain ⟨W0, hW0⟩ : ∃ W0, W0 = (w.alloc (.cells #[.pointer (some ⟨b, o, none⟩)] 78)).alloc (.cells #[.pointer (some ⟨b, p, none⟩)] 78) := ⟨_, rfl⟩
  have HB0 : Hid (Below w.heap.size w W0) := by rw [hW0]; exact nwA (nwA (nwR w) _) _
  have hx0 : W0.heap[w.heap.size]? = some (.cells #[.pointer (some ⟨b, o, none⟩)] 78 (0, 0)) := by rw [hW0]; exact (Lib.alloc_old _ _ _ (by simp)).trans (heap_alloc_new w _)
  have hx1 : W0.heap[w.heap.size + 1]? = some (.cells #[.pointer (some ⟨b, p, none⟩)] 78 (0, 0)) := by rw [hW0]; exact heap_alloc_new2 w _ _
  have q0 : ∀ w', Below W0.heap.size W0 w' → w'.cell? ⟨w.heap.size, 0, none⟩ = some (.pointer (some ⟨b, o, none⟩)) := fun w' h => (one ((h.block _ (Array.getElem?_eq_some_iff.1 hx0).1).trans hx0)).1
  have q1 : ∀ w', Below W0.heap.size W0 w' → w'.cell? ⟨w.heap.size + 1, 0, none⟩ = some (.pointer (some ⟨b, p, none⟩)) := fun w' h => (one ((h.block _ (Array.getElem?_eq_some_iff.1 hx1).1).trans hx1)).1
  have HC1 : Hid (∀ w', Below W0.heap.size W0 w' → Calls Try.prog 62 #[.agg #[.pointer (some ⟨b, o, none⟩)]] w' fun e w'' => e = .returned (.int .i64 (cntOf d.free)) ∧ Below w'.heap.size w' w'') := fun w' h => dfree_any b o d w' (hd.below (nwT HB0.out h)) hs
  have HC2 : Hid (∀ w', Below W0.heap.size W0 w' → Calls Try.prog 62 #[.agg #[.pointer (some ⟨b, p, none⟩)]] w' fun r w'' => r = .returned (.int .i64 (cntOf e.free)) ∧ Below w'.heap.size w' w'') := fun w' h => dfree_any b p e w' (he.below (nwT HB0.out h)) ht
  have h1 := cnt_bd hv
  have h2 := cnt_bd hx
  obtain ⟨x, hxx⟩ : ∃ x, cntOf d.free = x := ⟨_, rfl⟩
  obtain ⟨y, hyy⟩ : ∃ y, cntOf e.free = y := ⟨_, rfl⟩
  rw [hxx] at HC1 h1 ⊢
  rw [hyy] at HC2 h2 ⊢
  have e1 : IntKind.i64.wrap (x - y) = x - y := wrap_any (by omega) (by omega)
  have hS := nwR W0
  clear hd he hs ht hv hx hxx hyy hx0 hx1
  go_enter Try.func64, Try.ntmps64
  go_wp2_with fail
  rw [← hW0]
  clear hW0
  go_region_held3 (fun w' => Below W0.heap.size W0 w') (first | assumption | exact Below.drew (by assumption) | exact nwT (by assumption) (by assumption)) (first
    | (go_at_call_of 62 (Value.agg #[Value.pointer (some ⟨b, o, none⟩)]); refine (HC1.out _ (by first | assumption | exact Below.drew (by assumption))).mono ?_; rintro e wC ⟨rfl, hbC⟩)
    | (go_at_call_of 62 (Value.agg #[Value.pointer (some ⟨b, p, none⟩)]); refine (HC2.out _ (by first | assumption | exact Below.drew (by assumption))).mono ?_; rintro e wD ⟨rfl, hbD⟩)
    | fail)
  all_goals
    have hq : Below W0.heap.size W0 ‹World› := by assumption
    have HQ : Hid (Below w.heap.size w ‹World›) := nwT HB0.out hq
    go_wp2_with fail
    go_ret
    exact ⟨rfl, HQ.out⟩

theorem bestF_lt {ds : List DevD} {n m : Nat} {r : List Nat} (hm : m < n) (h : ∀ k ∈ r, k < n) : bestF ds m r < n := by
  rcases bestF_mem ds r m with h1 | h1
  · rw [h1]; exact hm
  · exact h _ h1
/-- the best of the first i -/
def bestI (ds : List DevD) (ks : List Nat) (i : Nat) : Nat := bestF ds (ks.getD 0 0) ((ks.take i).drop 1)
theorem bestI_mem (ds : List DevD) {ks : List Nat} {i : Nat} (hi : 0 < i) (h : 0 < ks.length) : bestI ds ks i ∈ ks.take i := by
  unfold bestI
  rcases bestF_mem ds ((ks.take i).drop 1) (ks.getD 0 0) with h1 | h1
  · rw [h1]
    have : (ks.take i).getD 0 0 = ks.getD 0 0 := by simp only [List.getD]; rw [List.getElem?_take_of_lt (by omega)]
    rw [← this]
    exact getD_mem 0 (by rw [List.length_take]; omega)
  · exact List.mem_of_mem_drop h1
theorem bestI_succ (ds : List DevD) {ks : List Nat} {i : Nat} (h0 : 0 < i) (hi : i < ks.length) : bestI ds ks (i + 1) = if frC ds (bestI ds ks i) < frC ds (ks.getD i 0) then ks.getD i 0 else bestI ds ks i := by
  unfold bestI
  have e : (ks.take (i + 1)).drop 1 = (ks.take i).drop 1 ++ [ks.getD i 0] := by
    rw [List.take_succ_eq_append_getElem hi, List.drop_append_of_le_length (by rw [List.length_take]; omega)]
    simp [List.getD, hi]
  rw [e, bestF_snoc]
theorem bestI_all (ds : List DevD) {ks : List Nat} {i : Nat} (hi : ks.length ≤ i) : bestI ds ks i = bestK ds ks := by
  unfold bestI bestK
  rw [List.take_of_length_le hi]

set_option maxRecDepth 100000 in
set_option maxHeartbeats 2000000 in
theorem maxg_any (ga : Option Addr) (gc G : Nat) (ks : List Nat) (ds : List DevD) (w : World) (hg : GrpAt w ga G 0 ks) (hd : DevsAt w (some ⟨G, 0, none⟩) ds) (hk : ∀ k ∈ ks, k < ds.length) (h0 : 0 < ks.length) (hl : ks.length ≤ 1000) (hs : SmallL ds) (hv : AllV ds) :
    Calls Try.prog 63 #[.slice ga ks.length gc, .func (.func 64) #[] #[]] w fun e w' => e = .returned (.agg #[.pointer (some ⟨G, bestK ds ks * 4, none⟩)]) ∧ Below w.heap.size w w' := by
  obtain ⟨g, q, rfl, hc0⟩ := hg.cell h0
  obtain ⟨W0, hW0⟩ : ∃ W0, W0 = (w.alloc (.cells #[.pointer none] 78)).alloc (.cells #[.pointer (some ⟨G, ks.getD 0 0 * 4, none⟩)] 78) := ⟨_, rfl⟩
  have hb0 : Below w.heap.size w W0 := by rw [hW0]; exact nwA (nwA (nwR w) _) _
  have HR0 : Hid (W0.heap[w.heap.size]? = some (.cells #[.pointer none] 78 (0, 0))) := by rw [hW0]; exact (Lib.alloc_old _ _ _ (by simp)).trans (heap_alloc_new w _)
  have HM0 : Hid (W0.heap[w.heap.size + 1]? = some (.cells #[.pointer (some ⟨G, ks.getD 0 0 * 4, none⟩)] 78 (0, 0))) := by rw [hW0]; exact heap_alloc_new2 w _ _
  have HB0 : Hid (Below w.heap.size w W0) := hb0
  have HG : Hid (∀ w', Below w.heap.size w w' → GrpAt w' (some ⟨g, q, none⟩) G 0 ks) := fun w' h => hg.below h
  have HD : Hid (∀ w', Below w.heap.size w w' → DevsAt w' (some ⟨G, 0, none⟩) ds) := fun w' h => hd.below h
  have HK : Hid (∀ k ∈ ks, k < ds.length) := hk
  have HKG : Hid (∀ i, i < ks.length → ks.getD i 0 < ds.length) := fun i hi => hk _ (getD_mem 0 hi)
  have HS : Hid (SmallL ds) := hs
  have HV : Hid (AllV ds) := hv
  have hc0' : w.cell? ⟨g, q + 0, none⟩ = some (.pointer (some ⟨G, ks.getD 0 0 * 4, none⟩)) := by rw [hc0]; simp [ptrD]
  rw [Nat.add_zero] at hc0'
  have hgl := block_lt_of_cell hc0'
  simp only at hgl
  have h0i : ¬ (ks.length : Int) < 1 := by omega
  have h0j : (0 : Int) < (ks.length : Int) := by omega
  clear hg hd hk hs hv hc0 hb0
  have HB1 : Hid (bestI ds ks 1 = ks.getD 0 0) := by
    show _ = _
    unfold bestI
    have : (ks.take 1).drop 1 = [] := by rw [List.drop_eq_nil_iff]; rw [List.length_take]; omega
    rw [this]; rfl
  generalize ks.getD 0 0 = k0 at hc0' hW0 HM0 HB1
  go_enter Try.func63, Try.ntmps63
  go_wp2_with fail
  rw [← hW0]
  clear hW0 hc0' h0i
  go_loopw [6] (fun i wr => ∃ (k : Nat), 1 ≤ k ∧ k ≤ ks.length ∧ i = .int .i64 k ∧ Hid (Below w.heap.size w wr) ∧ Hid (wr.heap[w.heap.size]? = some (.cells #[.pointer none] 78 (0, 0))) ∧ Hid (wr.heap[w.heap.size + 1]? = some (.cells #[.pointer (some ⟨G, bestI ds ks k * 4, none⟩)] 78 (0, 0))))
    (fun i _ => ks.length - (intOf i).toNat)
  case atStart => exact ⟨1, by omega, by omega, rfl, HB0, HR0, by rw [HB1.out]; exact HM0.out⟩
  case round =>
    obtain ⟨k, hk1, hk, rfl, HBr, HRr, HMr⟩ := hrel
    by_cases hkl : k < ks.length
    · have hkli : (k : Int) < (ks.length : Int) := by omega
      have hk0 : (0 : Int) ≤ (k : Int) := by omega
      obtain ⟨_, _, eg, hcell⟩ := (HG.out wr HBr.out).cell hkl
      simp only [Option.some.injEq, Addr.mk.injEq, and_true] at eg
      obtain ⟨rfl, rfl⟩ := eg
      have hcell' : wr.cell? ⟨g, q + k, none⟩ = some (.pointer (some ⟨G, ks.getD k 0 * 4, none⟩)) := by rw [hcell]; simp [ptrD]
      have hdx := (HD.out wr HBr.out).at0 (HKG.out k hkl)
      have hml : bestI ds ks k < ds.length := HK.out _ (List.mem_of_mem_take (bestI_mem ds hk1 h0))
      have hdm := (HD.out wr HBr.out).at0 hml
      have HSU : Hid (bestI ds ks (k + 1) = if frC ds (bestI ds ks k) < frC ds (ks.getD k 0) then ks.getD k 0 else bestI ds ks k) := bestI_succ ds hk1 hkl
      have hr0 := HRr.out
      have hm0 := HMr.out
      generalize bestI ds ks k = m at hml hdm HSU hm0 HMr
      have HCM : Hid (∀ w', Below wr.heap.size wr w' → Calls Try.prog 64 #[.agg #[.pointer (some ⟨G, ks.getD k 0 * 4, none⟩)], .agg #[.pointer (some ⟨G, m * 4, none⟩)]] w' fun r w'' => r = .returned (.int .i64 (frC ds (ks.getD k 0) - frC ds m)) ∧ Below w'.heap.size w' w'') := fun w' h =>
        cmpd_any G (ks.getD k 0 * 4) (m * 4) _ _ w' (hdx.below h) (hdm.below h) (HS.out.2 _ (getD_mem DZ (HKG.out k hkl))) (HS.out.2 _ (getD_mem DZ hml)) (HV.out _ (HKG.out k hkl)) (HV.out _ hml)
      have q0 : ∀ w', Below wr.heap.size wr w' → w'.cell? ⟨g, q + k, none⟩ = some (.pointer (some ⟨G, ks.getD k 0 * 4, none⟩)) := fun w' h => (h.cell (p := ⟨g, q + k, none⟩) (block_lt_of_cell hcell')).trans hcell'
      have HX0 : Hid (∀ w', Below wr.heap.size wr w' → w'.heap[w.heap.size + 1]? = some (.cells #[.pointer (some ⟨G, m * 4, none⟩)] 78 (0, 0)) ∧ w'.heap[w.heap.size]? = some (.cells #[.pointer none] 78 (0, 0))) := fun w' h => ⟨(h.block _ (Array.getElem?_eq_some_iff.1 hm0).1).trans hm0, (h.block _ (Array.getElem?_eq_some_iff.1 hr0).1).trans hr0⟩
      have q1 : ∀ w', Below wr.heap.size wr w' → w'.cell? ⟨w.heap.size + 1, 0, none⟩ = some (.pointer (some ⟨G, m * 4, none⟩)) := fun w' h => (one (HX0.out w' h).1).1
      have HQ0 : Hid (∀ w', Below wr.heap.size wr w' → w'.cell? ⟨g, q + k, none⟩ = some (.pointer (some ⟨G, ks.getD k 0 * 4, none⟩))) := q0
      generalize ks.getD k 0 = x at hcell' hdx HSU HCM q0 HQ0
      have HDF : Hid (∀ df, df = frC ds x - frC ds m → (0 < df ↔ frC ds m < frC ds x)) := fun df h => by omega
      obtain ⟨df, hdf⟩ : ∃ df, frC ds x - frC ds m = df := ⟨_, rfl⟩
      have HDG : Hid (0 < df ↔ frC ds m < frC ds x) := HDF.out df hdf.symm
      rw [hdf] at HCM
      have hS := nwR wr
      clear hdf HDF hdx hdm hml hr0 hm0 HRr HMr hcell hcell'
      by_cases hpos : 0 < df
      case pos =>
        have HNX : Hid (bestI ds ks (k + 1) = x) := by show _ = _; rw [HSU.out, if_pos (HDG.out.1 hpos)]
        go_wp2_with fail
        go_region_held3 (fun w' => Below wr.heap.size wr w') (first | assumption | exact Below.drew (by assumption) | exact nwT (by assumption) (by assumption)) (first
          | (go_at_call 64; refine (HCM.out _ (by first | assumption | exact Below.drew (by assumption))).mono ?_; rintro e wC ⟨rfl, hbC⟩)
          | fail)
        have hq : Below wr.heap.size wr wC := by assumption
        have HQ : Hid (Below wr.heap.size wr wC) := hq
        have hc3 := HQ0.out wC hq
        obtain ⟨hm3, hr3⟩ := HX0.out wC hq
        obtain ⟨m0, mf⟩ := one hm3
        have HFB : Hid (Below w.heap.size w (wC.setCell ⟨w.heap.size + 1, 0, none⟩ (.pointer (some ⟨G, x * 4, none⟩)))) := (nwT HBr.out HQ.out).setCell (show w.heap.size ≤ w.heap.size + 1 by omega) _
        have HFR : Hid ((wC.setCell ⟨w.heap.size + 1, 0, none⟩ (.pointer (some ⟨G, x * 4, none⟩))).heap[w.heap.size]? = some (.cells #[.pointer none] 78 (0, 0))) := (heap_setCell_other wC ⟨w.heap.size + 1, 0, none⟩ w.heap.size _ (by show w.heap.size ≠ w.heap.size + 1; omega)).trans hr3
        have HFM : Hid ((wC.setCell ⟨w.heap.size + 1, 0, none⟩ (.pointer (some ⟨G, x * 4, none⟩))).heap[w.heap.size + 1]? = some (.cells #[.pointer (some ⟨G, x * 4, none⟩)] 78 (0, 0))) := by
          show _ = _
          have := heap_setCell_same wC (w.heap.size + 1) 0 _ 78 (.pointer (some ⟨G, x * 4, none⟩)) hm3
          simpa using this
        clear q0 q1 hq hm3 hr3 HX0 HQ0 hbC
        go_wp2_with fail
        go_roundw
        case rel => exact ⟨k + 1, by omega, by omega, by go_num, HFB, HFR, by rw [HNX.out]; exact HFM.out⟩
        case measure => simp [intOf]; omega
      case neg =>
        have HNX : Hid (bestI ds ks (k + 1) = m) := by show _ = _; rw [HSU.out, if_neg (fun h => hpos (HDG.out.2 h))]
        go_wp2_with fail
        go_region_held3 (fun w' => Below wr.heap.size wr w') (first | assumption | exact Below.drew (by assumption) | exact nwT (by assumption) (by assumption)) (first
          | (go_at_call 64; refine (HCM.out _ (by first | assumption | exact Below.drew (by assumption))).mono ?_; rintro e wC ⟨rfl, hbC⟩)
          | fail)
        have hq : Below wr.heap.size wr wC := by assumption
        obtain ⟨hm3, hr3⟩ := HX0.out wC hq
        have HFB : Hid (Below w.heap.size w wC) := nwT HBr.out hq
        have HFR : Hid (wC.heap[w.heap.size]? = some (.cells #[.pointer none] 78 (0, 0))) := hr3
        have HFM : Hid (wC.heap[w.heap.size + 1]? = some (.cells #[.pointer (some ⟨G, m * 4, none⟩)] 78 (0, 0))) := hm3
        clear q0 q1 hq hm3 hr3 HX0 HQ0 hbC
        go_wp2_with fail
        go_roundw
        case rel => exact ⟨k + 1, by omega, by omega, by go_num, HFB, HFR, by rw [HNX.out]; exact HFM.out⟩
        case measure => simp [intOf]; omega
    · have hkli : ¬ (k : Int) < (ks.length : Int) := by omega
      have HF : Hid (bestI ds ks k = bestK ds ks) := bestI_all ds (by omega)
      obtain ⟨m0, mf⟩ := one HMr.out
      obtain ⟨r0, rf⟩ := one HRr.out
      rw [HF.out] at m0
      go_wp2_with fail
      have s0 : (wr.setCell ⟨w.heap.size, 0, none⟩ (.pointer (some ⟨G, bestK ds ks * 4, none⟩))).cell? ⟨w.heap.size, 0, none⟩ = some (.pointer (some ⟨G, bestK ds ks * 4, none⟩)) := by
        have h := heap_setCell_same _ w.heap.size 0 _ 78 (.pointer (some ⟨G, bestK ds ks * 4, none⟩)) HRr.out
        simp at h
        exact (one h).1
      exact bodyPost_ret (v := .agg #[.pointer (some ⟨G, bestK ds ks * 4, none⟩)]) (by simp [results, Try.results63, go_sem, s0]) rfl ⟨rfl, HBr.out.setCell (Nat.le_refl _) _⟩

set_option maxRecDepth 100000 in
set_option maxHeartbeats 1000000 in
theorem emptiest_any (ga : Option Addr) (gc G : Nat) (ks : List Nat) (ds : List DevD) (w : World) (hg : GrpAt w ga G 0 ks) (hd : DevsAt w (some ⟨G, 0, none⟩) ds) (hk : ∀ k ∈ ks, k < ds.length) (h0 : 0 < ks.length) (hl : ks.length ≤ 1000) (hs : SmallL ds) (hv : AllV ds) :
    Calls Try.prog 39 #[.slice ga ks.length gc] w fun e w' => e = .returned (.agg #[.pointer (some ⟨G, bestK ds ks * 4, none⟩)]) ∧ Below w.heap.size w w' := by
  obtain ⟨W0, hW0⟩ : ∃ W0, W0 = w.alloc (.cells #[.pointer none] 78) := ⟨_, rfl⟩
  have hb0 : Below w.heap.size w W0 := by rw [hW0]; exact nwA (nwR w) _
  have HR0 : Hid (W0.heap[w.heap.size]? = some (.cells #[.pointer none] 78 (0, 0))) := by rw [hW0]; exact heap_alloc_new w _
  have HB0 : Hid (Below w.heap.size w W0) := hb0
  have HMX : Hid (Calls Try.prog 63 #[.slice ga ks.length gc, .func (.func 64) #[] #[]] W0 fun e w' => e = .returned (.agg #[.pointer (some ⟨G, bestK ds ks * 4, none⟩)]) ∧ Below W0.heap.size W0 w') := maxg_any ga gc G ks ds W0 (hg.below hb0) (hd.below hb0) hk h0 hl hs hv
  clear hg hd hk hs hv hb0
  go_enter Try.func39, Try.ntmps39
  go_wp2_with fail
  rw [← hW0]
  clear hW0
  refine HMX.out.mono ?_
  rintro e w1 ⟨rfl, hb1⟩
  have hr1 := (hb1.block _ (Array.getElem?_eq_some_iff.1 HR0.out).1).trans HR0.out
  have HB1 : Hid (Below w.heap.size w w1) := nwT HB0.out hb1
  obtain ⟨r0, rf⟩ := one hr1
  clear HMX hb1
  go_wp2_with fail
  have s0 : (w1.setCell ⟨w.heap.size, 0, none⟩ (.pointer (some ⟨G, bestK ds ks * 4, none⟩))).cell? ⟨w.heap.size, 0, none⟩ = some (.pointer (some ⟨G, bestK ds ks * 4, none⟩)) := by
    have h := heap_setCell_same _ w.heap.size 0 _ 78 (.pointer (some ⟨G, bestK ds ks * 4, none⟩)) hr1
    simp at h
    exact (one h).1
  exact bodyPost_ret (v := .agg #[.pointer (some ⟨G, bestK ds ks * 4, none⟩)]) (by simp [results, Try.results39, go_sem, s0]) rfl ⟨rfl, HB1.out.setCell (Nat.le_refl _) _⟩

end Go.Proofs.Ytheomnafmjmpdaa

/- The least free sector, and a sector's place, by the program. -/
namespace Go.Proofs.Ytheomnafmjmpdaa
open Go.RowKit

set_option maxRecDepth 100000 in
set_option maxHeartbeats 2000000 in
theorem least_any (b o : Nat) (d : DevD) (w : World) (hd : DevIn w b o d) (h0 : 0 < d.free.length) :
    Calls Try.prog 40 #[.agg #[.pointer (some ⟨b, o, none⟩)]] w fun e w' => e = .returned (.agg #[.pointer (some ⟨b, o, none⟩), .int .i64 (d.free.getD 0 (0, 0)).1]) ∧ Below w.heap.size w w' := by
  have hlt := hd.lt
  obtain ⟨af, cf, al, cl, ⟨c0, c1, c2, c3⟩, hf, hl⟩ := hd
  obtain ⟨fb, fo, rfl, f1, f2⟩ := hf.1 0 h0
  have hfl := block_lt_of_cell f1
  simp only at hfl
  generalize (d.free.getD 0 (0, 0)).1 = at' at f1 ⊢
  generalize (d.free.getD 0 (0, 0)).2 = ln' at f2
  simp only [Nat.zero_mul, Nat.add_zero] at f1 f2
  obtain ⟨W0, hW0⟩ : ∃ W0, W0 = (w.alloc (.cells #[.pointer (some ⟨b, o, none⟩)] 78)).alloc (.cells #[.pointer none, .int .i64 0] 80) := ⟨_, rfl⟩
  have HB0 : Hid (Below w.heap.size w W0) := by rw [hW0]; exact nwA (nwA (nwR w) _) _
  have hx0 : W0.heap[w.heap.size]? = some (.cells #[.pointer (some ⟨b, o, none⟩)] 78 (0, 0)) := by rw [hW0]; exact (Lib.alloc_old _ _ _ (by simp)).trans (heap_alloc_new w _)
  have HX1 : Hid (W0.heap[w.heap.size + 1]? = some (.cells #[.pointer none, .int .i64 0] 80 (0, 0))) := by rw [hW0]; exact heap_alloc_new2 w _ _
  have k2 : W0.cell? ⟨b, o + 2, none⟩ = some (.slice (some ⟨fb, fo, none⟩) d.free.length cf) := (HB0.out.cell (p := ⟨b, o + 2, none⟩) hlt).trans c2
  have kf : W0.cell? ⟨fb, fo, none⟩ = some (.int .i64 at') := (HB0.out.cell (p := ⟨fb, fo, none⟩) hfl).trans f1
  obtain ⟨x0, _⟩ := one hx0
  obtain ⟨r0, r1, rf⟩ := two HX1.out
  have h0i : (0 : Int) < (d.free.length : Int) := by omega
  clear hf hl c0 c1 c2 c3 f1 f2 hx0
  go_enter Try.func40, Try.ntmps40
  go_upto_region 1 with fail
  rw [← hW0]
  clear hW0
  go_region
  all_goals
    have hx2 := heap_setCell_same _ (w.heap.size + 1) 1 _ 80 (.int .i64 at') (heap_setCell_same _ (w.heap.size + 1) 0 _ 80 (.pointer (some ⟨b, o, none⟩)) HX1.out)
    simp at hx2
    obtain ⟨s0, s1, _⟩ := two hx2
    go_wp2_with fail
    exact bodyPost_ret (v := .agg #[.pointer (some ⟨b, o, none⟩), .int .i64 at']) (by simp [results, Try.results40, go_sem, s0, s1]) rfl ⟨rfl, by first | exact Below.drew ((HB0.out.setCell (show w.heap.size ≤ w.heap.size + 1 by omega) _).setCell (show w.heap.size ≤ w.heap.size + 1 by omega) _)⟩

set_option maxRecDepth 100000 in
set_option maxHeartbeats 2000000 in
theorem place_any (b o : Nat) (d : DevD) (at' : Int) (w : World) (hd : DevIn w b o d) :
    Calls Try.prog 42 #[.agg #[.pointer (some ⟨b, o, none⟩), .int .i64 at']] w fun e w' => e = .returned (.agg #[.int .i64 d.id, .int .i64 at']) ∧ Below w.heap.size w w' := by
  have hlt := hd.lt
  obtain ⟨_, _, _, _, ⟨c0, _⟩, _⟩ := hd
  obtain ⟨W0, hW0⟩ : ∃ W0, W0 = (w.alloc (.cells #[.pointer (some ⟨b, o, none⟩), .int .i64 at'] 80)).alloc (.cells #[.int .i64 0, .int .i64 0] 45) := ⟨_, rfl⟩
  have HB0 : Hid (Below w.heap.size w W0) := by rw [hW0]; exact nwA (nwA (nwR w) _) _
  have hx0 : W0.heap[w.heap.size]? = some (.cells #[.pointer (some ⟨b, o, none⟩), .int .i64 at'] 80 (0, 0)) := by rw [hW0]; exact (Lib.alloc_old _ _ _ (by simp)).trans (heap_alloc_new w _)
  have HX1 : Hid (W0.heap[w.heap.size + 1]? = some (.cells #[.int .i64 0, .int .i64 0] 45 (0, 0))) := by rw [hW0]; exact heap_alloc_new2 w _ _
  have k0 : W0.cell? ⟨b, o, none⟩ = some (.int .i64 d.id) := (HB0.out.cell (p := ⟨b, o, none⟩) hlt).trans c0
  obtain ⟨x0, x1, _⟩ := two hx0
  obtain ⟨r0, r1, rf⟩ := two HX1.out
  clear c0 hx0
  go_enter Try.func42, Try.ntmps42
  go_upto_region 1 with fail
  rw [← hW0]
  clear hW0
  go_region
  all_goals
    have hx2 := heap_setCell_same _ (w.heap.size + 1) 1 _ 45 (.int .i64 at') (heap_setCell_same _ (w.heap.size + 1) 0 _ 45 (.int .i64 d.id) HX1.out)
    simp at hx2
    obtain ⟨s0, s1, _⟩ := two hx2
    go_wp2_with fail
    exact bodyPost_ret (v := .agg #[.int .i64 d.id, .int .i64 at']) (by simp [results, Try.results42, go_sem, s0, s1]) rfl ⟨rfl, by first | exact Below.drew ((HB0.out.setCell (show w.heap.size ≤ w.heap.size + 1 by omega) _).setCell (show w.heap.size ≤ w.heap.size + 1 by omega) _)⟩

end Go.Proofs.Ytheomnafmjmpdaa

/- Sectors taken, one by one: what that is. -/
namespace Go.Proofs.Ytheomnafmjmpdaa
open Go.RowKit

def leastA (f : List (Int × Int)) : Int := (f.getD 0 (0, 0)).1
theorem least_ok {f : List (Int × Int)} (h : vOk f = true) (h0 : 0 < f.length) : (0 ≤ leastA f ∧ leastA f < 64) ∧ vOk [(leastA f, 1)] = true ∧ memS f (leastA f).toNat = true := by
  cases f with
  | nil => simp at h0
  | cons s r =>
    simp only [vOk, validFrom, Bool.and_eq_true, Bool.not_eq_true', decide_eq_false_iff_not] at h
    obtain ⟨m0, m1, m2, m3⟩ := mayB_of h.1.1
    have e : leastA (s :: r) = s.1 := rfl
    rw [e]
    refine ⟨⟨m0, m1⟩, ?_, ?_⟩
    · simp [vOk, validFrom, mayB, m0, m1]; omega
    · simp only [memS, List.any_cons, Bool.or_eq_true]
      left
      simp [inSeg]; omega
theorem one_mem (a : Int) (k : Nat) : memS [(a, 1)] k = decide ((k : Int) = a) := by
  rw [memS_one]
  simp only [inSeg, decide_eq_decide]
  omega
theorem cnt_card {f : List (Int × Int)} (h : vOk f = true) : cntOf f = cardB (memS f) 64 := by
  unfold cntOf
  rw [if_pos h]
  exact sumLen_card f 0 (by omega) h
theorem cnt_segs (p : Nat → Bool) : cntOf (segsOf p) = cardB p 64 := by
  obtain ⟨h1, h2⟩ := segsOf_ok p
  rw [cnt_card h1]
  refine cardB_congr 64 (fun k hk => ?_)
  rw [h2 k]; simp [hk]
theorem card_one {a : Int} (h0 : 0 ≤ a) (h1 : a < 64) : cardB (memS [(a, 1)]) 64 = 1 := by
  have e : cardB (memS [(a, 1)]) 64 = cardB (inSeg (a, 1)) 64 := cardB_congr 64 (fun k _ => memS_one (a, 1) k)
  rw [e]
  obtain ⟨_, s2, s3⟩ := cardB_seg a 1 h0 (by omega) 64
  by_cases h : a + 1 < 64
  · exact s3 (by omega) (by omega)
  · rw [s2 (by omega) (by omega)]; omega
theorem lessA_ok {f : List (Int × Int)} (h : vOk f = true) (h0 : 0 < f.length) : vOk (lessA f (leastA f)) = true ∧ cntOf (lessA f (leastA f)) = cntOf f - 1 := by
  obtain ⟨⟨a0, a1⟩, _, hm⟩ := least_ok h h0
  refine ⟨(segsOf_ok _).1, ?_⟩
  unfold lessA
  rw [cnt_segs, cnt_card h]
  have hs := cardB_split (memS f) (memS [(leastA f, 1)]) 64
  have e : cardB (fun k => memS f k && memS [(leastA f, 1)] k) 64 = 1 := by
    refine (cardB_congr 64 (fun k _ => ?_)).trans (card_one a0 a1)
    rw [one_mem]
    by_cases hk : (k : Int) = leastA f
    · have : k = (leastA f).toNat := by omega
      rw [this, hm]; simp
    · simp [hk]
  omega
theorem cnt_pos {f : List (Int × Int)} (h : 0 < cntOf f) : 0 < f.length := by
  cases f with
  | nil => unfold cntOf at h; simp [sumLen, vOk, validFrom] at h
  | cons s r => simp

/- the best is the best -/
theorem bestF_max (ds : List DevD) : ∀ (r : List Nat) (m : Nat), frC ds m ≤ frC ds (bestF ds m r) ∧ ∀ k ∈ r, frC ds k ≤ frC ds (bestF ds m r) := by
  intro r
  induction r with
  | nil => intro m; exact ⟨Int.le_refl _, fun k hk => by simp at hk⟩
  | cons x xs ih =>
    intro m
    unfold bestF
    obtain ⟨h1, h2⟩ := ih (if frC ds m < frC ds x then x else m)
    have hmx : frC ds m ≤ frC ds (if frC ds m < frC ds x then x else m) ∧ frC ds x ≤ frC ds (if frC ds m < frC ds x then x else m) := by
      split
      · exact ⟨by omega, Int.le_refl _⟩
      · exact ⟨Int.le_refl _, by omega⟩
    refine ⟨Int.le_trans hmx.1 h1, fun k hk => ?_⟩
    rcases List.mem_cons.1 hk with rfl | hk
    · exact Int.le_trans hmx.2 h1
    · exact h2 k hk
theorem bestK_max (ds : List DevD) {ks : List Nat} : ∀ k ∈ ks, frC ds k ≤ frC ds (bestK ds ks) := by
  intro k hk
  unfold bestK
  cases ks with
  | nil => simp at hk
  | cons x xs =>
    obtain ⟨h1, h2⟩ := bestF_max ds xs x
    rcases List.mem_cons.1 hk with rfl | hk
    · exact h1
    · exact h2 k hk
theorem sum_le (ds : List DevD) : ∀ ks : List Nat, (∀ k ∈ ks, frC ds k ≤ 0) → cntK ds ks ≤ 0 := by
  intro ks
  induction ks with
  | nil => intro _; simp [cntK]
  | cons x xs ih =>
    intro h
    have h1 := ih (fun k hk => h k (List.mem_cons_of_mem _ hk))
    have h2 := h x (List.mem_cons_self ..)
    have e : cntK ds (x :: xs) = frC ds x + cntK ds xs := by simp [cntK, frC]
    omega
theorem best_pos {ds : List DevD} {ks : List Nat} (h : 0 < cntK ds ks) : 0 < ks.length ∧ 0 < frC ds (bestK ds ks) := by
  have hl : 0 < ks.length := by
    cases ks with
    | nil => simp [cntK] at h
    | cons x xs => simp
  refine ⟨hl, ?_⟩
  by_cases hn : 0 < frC ds (bestK ds ks)
  · exact hn
  · have := sum_le ds ks (fun k hk => Int.le_trans (bestK_max ds k hk) (by omega))
    omega
theorem cntK_set {ds : List DevD} {k : Nat} {d : DevD} (hkl : k < ds.length) : ∀ ks : List Nat, ks.Nodup → cntK (ds.set k d) ks = cntK ds ks + (if k ∈ ks then cntOf d.free - frC ds k else 0) := by
  intro ks
  induction ks with
  | nil => intro _; simp [cntK]
  | cons x xs ih =>
    intro hn
    obtain ⟨hx, hxs⟩ := List.nodup_cons.1 hn
    have h1 := ih hxs
    have e1 : cntK (ds.set k d) (x :: xs) = frC (ds.set k d) x + cntK (ds.set k d) xs := by simp [cntK, frC]
    have e2 : cntK ds (x :: xs) = frC ds x + cntK ds xs := by simp [cntK, frC]
    rw [e1, e2, h1]
    by_cases hxk : k = x
    · subst hxk
      have e3 : frC (ds.set k d) k = cntOf d.free := by unfold frC; simp [List.getD, hkl]
      rw [e3, if_neg hx, if_pos (List.mem_cons_self ..)]
      omega
    · have e3 : frC (ds.set k d) x = frC ds x := by unfold frC; simp [List.getD, List.getElem?_set_ne hxk]
      rw [e3]
      by_cases hm : k ∈ xs
      · rw [if_pos hm, if_pos (List.mem_cons_of_mem _ hm)]; omega
      · rw [if_neg hm, if_neg (fun h => by rcases List.mem_cons.1 h with h | h; exact hxk h; exact hm h)]; omega

/-- the sectors taken, and the devices behind it -/
def takN (ds : List DevD) (ks : List Nat) : Nat → List (Int × Int) × List DevD
  | 0 => ([], ds)
  | j + 1 =>
    let x := (takN ds ks j).2
    let k := bestK x ks
    ((takN ds ks j).1 ++ [((x.getD k DZ).id, leastA (x.getD k DZ).free)], x.set k (setF (x.getD k DZ) (lessA (x.getD k DZ).free (leastA (x.getD k DZ).free))))
/-- alike but for what is free -/
structure LikeF (ds x : List DevD) : Prop where
  len : x.length = ds.length
  id : ∀ k, (x.getD k DZ).id = (ds.getD k DZ).id
  size : ∀ k, (x.getD k DZ).size = (ds.getD k DZ).size
  late : ∀ k, (x.getD k DZ).late = (ds.getD k DZ).late
theorem LikeF.refl (ds : List DevD) : LikeF ds ds := ⟨rfl, fun _ => rfl, fun _ => rfl, fun _ => rfl⟩
theorem getD_set (x : List DevD) (k j : Nat) (d : DevD) : (x.set k d).getD j DZ = if k = j ∧ k < x.length then d else x.getD j DZ := by
  simp only [List.getD]
  rw [List.getElem?_set]
  by_cases h : k = j
  · subst h
    by_cases hl : k < x.length
    · simp [hl]
    · simp [hl]
  · simp [h]
theorem LikeF.set {ds x : List DevD} (h : LikeF ds x) (k : Nat) (f : List (Int × Int)) : LikeF ds (x.set k (setF (x.getD k DZ) f)) := by
  refine ⟨by rw [List.length_set]; exact h.len, fun j => ?_, fun j => ?_, fun j => ?_⟩
  all_goals
    rw [getD_set]
    split
    · rename_i hj
      obtain ⟨rfl, _⟩ := hj
      first | exact h.id k | exact h.size k | exact h.late k
    · first | exact h.id j | exact h.size j | exact h.late j
structure TInv (ds : List DevD) (ks : List Nat) (x : List DevD) (j : Nat) : Prop where
  like : LikeF ds x
  v : AllV x
  cnt : cntK x ks = cntK ds ks - j
theorem tinv_step {ds x : List DevD} {ks : List Nat} {j : Nat} (h : TInv ds ks x j) (hk : ∀ k ∈ ks, k < ds.length) (hn : ks.Nodup) (hj : (j : Int) < cntK ds ks) :
    (0 < ks.length ∧ bestK x ks < x.length ∧ 0 < (x.getD (bestK x ks) DZ).free.length) ∧ TInv ds ks (x.set (bestK x ks) (setF (x.getD (bestK x ks) DZ) (lessA (x.getD (bestK x ks) DZ).free (leastA (x.getD (bestK x ks) DZ).free)))) (j + 1) := by
  obtain ⟨hl, hp⟩ := best_pos (ds := x) (ks := ks) (by rw [h.cnt]; omega)
  have hm := bestK_mem x hl
  have hlt : bestK x ks < x.length := by rw [h.like.len]; exact hk _ hm
  have hf := cnt_pos hp
  have hv := h.v _ hlt
  obtain ⟨hv2, hc2⟩ := lessA_ok hv hf
  refine ⟨⟨hl, hlt, hf⟩, h.like.set _ _, fun q hq => ?_, ?_⟩
  · rw [List.length_set] at hq
    rw [getD_set]
    split
    · exact hv2
    · exact h.v q hq
  · rw [cntK_set hlt ks hn, if_pos hm, h.cnt]
    show _ + (cntOf (lessA _ _) - frC x (bestK x ks)) = _
    rw [hc2]
    unfold frC
    omega
theorem takN_inv {ds : List DevD} {ks : List Nat} (hv : AllV ds) (hk : ∀ k ∈ ks, k < ds.length) (hn : ks.Nodup) : ∀ j : Nat, (j : Int) ≤ cntK ds ks → TInv ds ks (takN ds ks j).2 j ∧ (takN ds ks j).1.length = j := by
  intro j
  induction j with
  | zero => intro _; exact ⟨⟨LikeF.refl ds, hv, by simp [takN]⟩, rfl⟩
  | succ j ih =>
    intro hj
    obtain ⟨h1, h2⟩ := ih (by omega)
    exact ⟨(tinv_step h1 hk hn (by omega)).2, by simp [takN, h2]⟩
theorem TInv.small {ds x : List DevD} {ks : List Nat} {j : Nat} (h : TInv ds ks x j) (hs : SmallL ds) : SmallL x := by
  refine ⟨by rw [h.like.len]; exact hs.1, fun d hd => ?_⟩
  obtain ⟨i, hi, rfl⟩ := List.getElem_of_mem hd
  have e : x.getD i DZ = x[i] := by simp [List.getD, hi]
  have hv := vOk_len (h.v i hi)
  have hl := h.like.late i
  have hi2 : i < ds.length := by rw [← h.like.len]; exact hi
  have hsd := hs.2 _ (getD_mem DZ hi2)
  rw [e] at hv hl
  exact ⟨by omega, by rw [hl]; exact hsd.2⟩
theorem rest_nodup (ds : List DevD) (id : Int) (n : Nat) : (restK ds id (List.range n)).Nodup := (List.nodup_range).filter _

end Go.Proofs.Ytheomnafmjmpdaa

/- Take, by the program. -/
namespace Go.Proofs.Ytheomnafmjmpdaa
open Go.RowKit

def OwnPtrs (w : World) (base : Nat) (v : Value) (ps : List (Int × Int)) : Prop := w.ownsRow base 45 2 v ps.length (flat ps)
theorem Try.info45 : (Try.prog.info? 45).map (fun i => (i.zero, i.size, i.bytes)) = some (some (.agg #[.int .i64 0, .int .i64 0]), 2, 16) := by kernel_rfl
theorem OwnPtrs.snoc {w : World} {base : Nat} {v : Value} {l : List (Int × Int)} {x y : Int} (h : w.ownsRow base 45 2 v (l.length + 1) (flat l ++ [.int .i64 x, .int .i64 y])) : OwnPtrs w base v (l ++ [(x, y)]) := by
  unfold OwnPtrs
  rw [List.length_append, flat_snoc]
  exact h
theorem OwnPtrs.lit {w : World} {base : Nat} {v : Value} {ps : List (Int × Int)} (h : OwnPtrs w base v ps) : ∃ a c, v = .slice a ps.length c := by
  rcases h.2 with ⟨hv, hn⟩ | ⟨g, cap, cur, hv, _⟩
  · exact ⟨none, 0, by rw [hv, hn]⟩
  · exact ⟨_, cap, hv⟩
def TakeR (ds : List DevD) (n id : Int) (base : Nat) (e : Ending) (w' : World) : Prop :=
  ((¬ DevsOk ds ∨ n < 0 ∨ 384 < n) ∧ e = .returned (.tuple #[.slice none 0 0, .slice none 0 0, .int .i64 1])) ∨
  ((DevsOk ds ∧ 0 ≤ n ∧ n ≤ 384 ∧ cntN ds id < n) ∧ e = .returned (.tuple #[.slice none 0 0, .slice none 0 0, .int .i64 5])) ∨
  ((DevsOk ds ∧ 0 ≤ n ∧ n ≤ 384 ∧ n ≤ cntN ds id) ∧ ∃ u v, e = .returned (.tuple #[u, v, .int .i64 0]) ∧ OwnPtrs w' base u (takN ds (restK ds id (List.range ds.length)) n.toNat).1 ∧ OwnDevs w' base v (takN ds (restK ds id (List.range ds.length)) n.toNat).2)
/-- what holds while sectors are taken -/
structure TkAt (W w : World) (base : Nat) (la ga : Option Addr) (lc gc G : Nat) (ov pv : Value) (ks : List Nat) (x : List DevD) (ps : List (Int × Int)) : Prop where
  stk : StkAt w base la ga lc gc G x
  oth : OwnGrp w base ov G 0 ks
  ptrs : OwnPtrs w W.heap.size pv ps
  gr : W.grownBy w (some G)
theorem TkAt.below {W w w' : World} {base : Nat} {la ga : Option Addr} {lc gc G : Nat} {ov pv : Value} {ks : List Nat} {x : List DevD} {ps : List (Int × Int)} (h : TkAt W w base la ga lc gc G ov pv ks x ps) (hb : Below w.heap.size w w') : TkAt W w' base la ga lc gc G ov pv ks x ps :=
  ⟨h.stk.below hb, own_below h.oth hb, own_below h.ptrs hb, h.gr.trans (gbOf hb _)⟩

theorem TkAt.app {W w w' : World} {base : Nat} {la ga : Option Addr} {lc gc G : Nat} {ov pv pv' : Value} {ks : List Nat} {x : List DevD} {ps ps' : List (Int × Int)} (h : TkAt W w base la ga lc gc G ov pv ks x ps) (hg : w.grownBy w' pv.ownBlock) (hown : OwnPtrs w' W.heap.size pv' ps') : TkAt W w' base la ga lc gc G ov pv' ks x ps' := by
  have hp := h.ptrs
  obtain ⟨gs, e, ho, ha⟩ := h.stk.list
  refine ⟨⟨⟨gs, e, own_other ho hp (by decide) hg, fun y hy => ⟨own_other (ha y hy).1 hp (by decide) hg, own_other (ha y hy).2 hp (by decide) hg⟩⟩, h.stk.at', own_other h.stk.grp hp (by decide) hg, h.stk.bg.1, Nat.lt_of_lt_of_le h.stk.bg.2 hg.size⟩, own_other h.oth hp (by decide) hg, hown, ?_⟩
  exact ⟨hg.os.trans h.gr.os, hg.tape.trans h.gr.tape, hg.output.trans h.gr.output, Nat.le_trans h.gr.size hg.size, fun k hk hne => (hg.block k (Nat.lt_of_lt_of_le hk h.gr.size) (fun e2 => by have := (World.ownsRow.lt hp k e2.symm).1; omega)).trans (h.gr.block k hk hne)⟩
theorem TkAt.act {W w w' : World} {base : Nat} {la ga : Option Addr} {lc gc G : Nat} {ov pv : Value} {ks : List Nat} {x x' : List DevD} {ps : List (Int × Int)} (h : TkAt W w base la ga lc gc G ov pv ks x ps) (hla : la = some ⟨G, 0, none⟩) (hO : OwnDevs w' base (.slice (some ⟨G, 0, none⟩) x.length lc) x') (hl : x'.length = x.length) (hg : w.grownBy w' (some G)) : TkAt W w' base la ga lc gc G ov pv ks x' ps := by
  obtain ⟨gs, e, ho, ha⟩ := h.stk.list
  rw [hla] at ho
  exact ⟨h.stk.act hla hO hl hg, own_other h.oth ho (by decide) hg, own_other h.ptrs ho (by decide) hg, h.gr.trans hg⟩

set_option maxRecDepth 100000 in
set_option maxHeartbeats 8000000 in
theorem take_dev (a : Option Addr) (ds : List DevD) (ca : Nat) (n id : Int) (w : World) (hd : DevsAt w a ds) (hn : NilOk a ca ds.length) (hs : SmallL ds) :
    Calls Try.prog 14 #[.slice a ds.length ca, .int .i64 n, .int .i64 id] w fun e w' => TakeR ds n id w.heap.size e w' ∧ Below w.heap.size w w' := by
  have HS : Hid (SmallL ds) := hs
  have HO : Hid (Calls Try.prog 35 #[.slice a ds.length ca] w fun e w' => OpenR ds w.heap.size e w' ∧ Below w.heap.size w w') := open_any a ds ca w hd hn hs
  have hln := hs.1
  clear hd hn hs
  go_enter Try.func14, Try.ntmps14
  go_wp2_with fail
  refine HO.out.mono ?_
  rintro e w1 ⟨ho, hb1⟩
  have HB1 : Hid (Below w.heap.size w w1) := hb1
  clear HO hb1
  rcases ho with ⟨hno, rfl⟩ | ⟨hok, la, lc, ga, gc, G, rfl, hst⟩
  · have HQ : Hid (∀ w', TakeR ds n id w.heap.size (.returned (.tuple #[.slice none 0 0, .slice none 0 0, .int .i64 1])) w') := fun _ => .inl ⟨.inl hno, rfl⟩
    clear hno
    go_wp2_with fail
    go_ret3
    exact ⟨HQ.out _, nwA HB1.out _⟩
  have HOK : Hid (DevsOk ds) := hok
  by_cases hr : n < 0 ∨ 384 < n
  · have HQ : Hid (∀ w', TakeR ds n id w.heap.size (.returned (.tuple #[.slice none 0 0, .slice none 0 0, .int .i64 1])) w') := fun _ => .inl ⟨.inr hr, rfl⟩
    clear hok hst
    rcases (show n < 0 ∨ (¬ n < 0 ∧ 384 < n) by omega) with h1 | ⟨h1, h2⟩
    · clear hr
      go_wp2_with fail
      go_ret3
      exact ⟨HQ.out _, nwA HB1.out _⟩
    · clear hr
      go_wp2_with fail
      go_ret3
      exact ⟨HQ.out _, nwA HB1.out _⟩
  have hr1 : ¬ n < 0 := by omega
  have hr2 : ¬ 384 < n := by omega
  obtain ⟨W2, hW2⟩ : ∃ W2, W2 = w1.alloc (.cells #[.slice ga ds.length gc, .slice la ds.length lc] 71) := ⟨_, rfl⟩
  have hb12 : Below w1.heap.size w1 W2 := by rw [hW2]; exact nwA (nwR w1) _
  have hx2 : W2.heap[w1.heap.size]? = some (.cells #[.slice ga ds.length gc, .slice la ds.length lc] 71 (0, 0)) := by rw [hW2]; exact heap_alloc_new w1 _
  have hst2 := hst.below hb12
  have HST : Hid (StkAt W2 w.heap.size la ga lc gc G ds) := hst2
  have HX2 : Hid (W2.heap[w1.heap.size]? = some (.cells #[.slice ga ds.length gc, .slice la ds.length lc] 71 (0, 0)) ∧ G ≠ w1.heap.size) := ⟨hx2, by have := hst.bg.2; omega⟩
  have HB2 : Hid (Below w.heap.size w W2) := nwT HB1.out hb12
  obtain ⟨ks, hks⟩ : ∃ ks, restK ds id (List.range ds.length) = ks := ⟨_, rfl⟩
  have HKS : Hid ((∀ k ∈ ks, k < ds.length) ∧ ks.Nodup ∧ ks.length ≤ 1000) := by
    rw [← hks]
    exact ⟨restK_sub (range_lt _), rest_nodup _ _ _, Nat.le_trans (restK_len _ _ _) (by rw [List.length_range]; omega)⟩
  have HCN : Hid (cntN ds id = cntK ds ks) := by show _ = _; unfold cntN; rw [hks]
  have HBS : Hid (Calls Try.prog 37 #[.slice ga ds.length gc, .int .i64 id] W2 fun e w' => (∃ v, e = .returned v ∧ OwnGrp w' W2.heap.size v G 0 ks) ∧ Below W2.heap.size W2 w') := by
    have h := besides_any ga gc G 0 (List.range ds.length) id ds W2 hst2.grpAt.1 hst2.grpAt.2 hst2.devs (range_lt _) (by rw [List.length_range]; omega)
    rw [List.length_range, hks] at h
    exact h
  obtain ⟨x0, x1, _⟩ := two hx2
  rw [hW2] at x0 x1
  clear hok hst hst2 hb12 hx2 hr
  go_wp2_with fail
  rw [← hW2]
  clear hW2 x0 x1
  refine HBS.out.mono ?_
  rintro e w3 ⟨⟨ov, rfl, hov⟩, hb3⟩
  obtain ⟨ra, rc, rfl, hrg, _⟩ := hov.at
  have HB3 : Hid (Below W2.heap.size W2 w3) := hb3
  have HOV : Hid (OwnGrp w3 w.heap.size (.slice ra ks.length rc) G 0 ks) := own_le hov HB2.out.size
  have HF : Hid (Calls Try.prog 38 #[.slice ra ks.length rc] w3 fun e w' => e = .returned (.int .i64 (cntK ds ks)) ∧ Below w3.heap.size w3 w') :=
    gfree_any ra rc G 0 ks ds w3 hrg (HST.out.devs.below hb3) HKS.out.1 HKS.out.2.2 HS.out HOK.out.allV
  have HQR : Hid (∀ (ct : Int), ct = cntK ds ks → ct < n → ∀ w', TakeR ds n id w.heap.size (.returned (.tuple #[.slice none 0 0, .slice none 0 0, .int .i64 5])) w') := fun ct h1 h2 w' => .inr (.inl ⟨⟨HOK.out, by omega, by omega, by rw [HCN.out, ← h1]; exact h2⟩, rfl⟩)
  obtain ⟨ct, hct⟩ : ∃ ct, cntK ds ks = ct := ⟨_, rfl⟩
  have HCT : Hid (cntK ds ks = ct) := hct
  rw [hct] at HF
  clear hov hrg hb3 HBS hct
  go_wp2_with fail
  refine HF.out.mono ?_
  rintro e w4 ⟨rfl, hb4⟩
  have HB4 : Hid (Below W2.heap.size W2 w4) := nwT HB3.out hb4
  have HOV4 : Hid (OwnGrp w4 w.heap.size (.slice ra ks.length rc) G 0 ks) := own_below HOV.out hb4
  clear hb4 HF
  by_cases hlt : ct < n
  · have HQ : Hid (∀ w', TakeR ds n id w.heap.size (.returned (.tuple #[.slice none 0 0, .slice none 0 0, .int .i64 5])) w') := HQR.out ct HCT.out.symm hlt
    go_wp2_with fail
    go_ret3
    exact ⟨HQ.out _, nwT HB2.out HB4.out⟩
  obtain ⟨N, hN⟩ : ∃ N : Nat, n = (N : Int) := ⟨n.toNat, by omega⟩
  have HRES : Hid (∀ w' u v, OwnPtrs w' w.heap.size u (takN ds ks N).1 → OwnDevs w' w.heap.size v (takN ds ks N).2 → TakeR ds n id w.heap.size (.returned (.tuple #[u, v, .int .i64 0])) w') := fun w' u v h1 h2 => .inr (.inr ⟨⟨HOK.out, by omega, by omega, by rw [HCN.out, HCT.out]; omega⟩, u, v, rfl, by rw [hks, hN]; exact h1, by rw [hks, hN]; exact h2⟩)
  have hNc : (N : Int) ≤ ct := by omega
  have hN4 : N ≤ 384 := by omega
  have HN : Hid (n = (N : Int)) := hN
  have HNL : Hid ((N : Int) ≤ cntK ds ks) := by rw [HCT.out]; exact hNc
  have HTK : Hid (TkAt W2 w4 w.heap.size la ga lc gc G (.slice ra ks.length rc) (.slice none 0 0) ks (takN ds ks 0).2 (takN ds ks 0).1) := ⟨HST.out.below HB4.out, HOV4.out, World.ownsRow_nil _ _ _ _, gbOf HB4.out _⟩
  subst hN
  obtain ⟨i0, hi, hz0, hz1, hz2⟩ := info_parts Try.info45
  clear HQR hks
  go_wp2_with fail
  go_loopw [6, 35] (fun p i wr => ∃ (j : Nat), j ≤ N ∧ i = .int .i64 j ∧ Hid (TkAt W2 wr w.heap.size la ga lc gc G (.slice ra ks.length rc) p ks (takN ds ks j).2 (takN ds ks j).1))
    (fun _ i _ => N - (intOf i).toNat)
  case atStart => exact ⟨0, by omega, rfl, HTK⟩
  case round =>
    obtain ⟨j, hj, rfl, HTr⟩ := hrel
    by_cases hjn : j < N
    · have hjni : (j : Int) < (N : Int) := by omega
      obtain ⟨hinv, hpl⟩ := takN_inv HOK.out.allV HKS.out.1 HKS.out.2.1 j (by have := HNL.out; omega)
      obtain ⟨⟨hk0, hbl, hfl⟩, hinv2⟩ := tinv_step hinv HKS.out.1 HKS.out.2.1 (by have := HNL.out; omega)
      have HTS : Hid (takN ds ks (j + 1) = ((takN ds ks j).1 ++ [(((takN ds ks j).2.getD (bestK (takN ds ks j).2 ks) DZ).id, leastA ((takN ds ks j).2.getD (bestK (takN ds ks j).2 ks) DZ).free)], (takN ds ks j).2.set (bestK (takN ds ks j).2 ks) (setF ((takN ds ks j).2.getD (bestK (takN ds ks j).2 ks) DZ) (lessA ((takN ds ks j).2.getD (bestK (takN ds ks j).2 ks) DZ).free (leastA ((takN ds ks j).2.getD (bestK (takN ds ks j).2 ks) DZ).free))))) := rfl
      have hxs := hinv.small HS.out
      have hxv := hinv.v
      have hxl := hinv.like.len
      generalize (takN ds ks j).2 = x at hinv hbl hfl hinv2 HTS hxs hxv hxl HTr
      generalize (takN ds ks j).1 = ps at hpl HTS HTr
      obtain ⟨b, hb⟩ : ∃ b, bestK x ks = b := ⟨_, rfl⟩
      rw [hb] at hbl hfl hinv2 HTS
      obtain ⟨hla, hbG, hGl⟩ := HTr.out.stk.base_le (by omega)
      have hdx := HTr.out.stk.devs.at0 hbl
      have hvb := hxv b hbl
      have hsb := hxs.2 _ (getD_mem DZ hbl)
      have HEM : Hid (Calls Try.prog 39 #[.slice ra ks.length rc] wr fun e w' => e = .returned (.agg #[.pointer (some ⟨G, b * 4, none⟩)]) ∧ Below wr.heap.size wr w') := by
        obtain ⟨ra2, rc2, e2, hga2, _⟩ := HTr.out.oth.at
        injection e2 with e3 _ _
        subst e3
        rw [← hb]
        exact emptiest_any ra rc G ks x wr hga2 HTr.out.stk.devs (fun k hk => by rw [hxl]; exact HKS.out.1 k hk) hk0 HKS.out.2.2 hxs hxv
      have HDX : Hid (∀ w', Below wr.heap.size wr w' → DevIn w' G (b * 4) (x.getD b DZ)) := fun w' h => hdx.below h
      have HXB : Hid (0 < (x.getD b DZ).free.length ∧ vOk (x.getD b DZ).free = true ∧ SmallD (x.getD b DZ) ∧ b < x.length) := ⟨hfl, hvb, hsb, hbl⟩
      have HLA : Hid (la = some ⟨G, 0, none⟩) := hla
      have HPL : Hid (ps.length = j) := hpl
      clear hinv hpl hk0 hbl hfl hinv2 hxs hxv hxl hb hla hbG hGl hdx hvb hsb
      go_wp2_with fail
      refine HEM.out.mono ?_
      rintro e w5 ⟨rfl, hb5⟩
      have HB5 : Hid (Below wr.heap.size wr w5) := hb5
      clear hb5 HEM
      go_wp2_with fail
      refine (least_any G (b * 4) (x.getD b DZ) w5 (HDX.out w5 HB5.out) HXB.out.1).mono ?_
      rintro e w6 ⟨rfl, hb6⟩
      obtain ⟨at', hat⟩ : ∃ at', leastA (x.getD b DZ).free = at' := ⟨_, rfl⟩
      have hat2 : ((x.getD b DZ).free.getD 0 (0, 0)).1 = at' := hat
      rw [hat2]
      have HB6 : Hid (Below wr.heap.size wr w6) := nwT HB5.out hb6
      obtain ⟨W7, hW7⟩ : ∃ W7, W7 = w6.alloc (.cells #[.pointer (some ⟨G, b * 4, none⟩), .int .i64 at'] 80) := ⟨_, rfl⟩
      have hb7 : Below wr.heap.size wr W7 := by rw [hW7]; exact nwA HB6.out _
      have hx7 : W7.heap[w6.heap.size]? = some (.cells #[.pointer (some ⟨G, b * 4, none⟩), .int .i64 at'] 80 (0, 0)) := by rw [hW7]; exact heap_alloc_new w6 _
      have HX7 : Hid (W7.heap[w6.heap.size]? = some (.cells #[.pointer (some ⟨G, b * 4, none⟩), .int .i64 at'] 80 (0, 0)) ∧ G ≠ w6.heap.size) := ⟨hx7, by have := HTr.out.stk.bg.2; have := HB6.out.size; omega⟩
      have HT7 : Hid (TkAt W2 W7 w.heap.size la ga lc gc G (.slice ra ks.length rc) u6 ks x ps) := HTr.out.below hb7
      have HTA : Hid (Calls Try.prog 41 #[.agg #[.pointer (some ⟨G, b * 4, none⟩), .int .i64 at']] W7 fun e w' => e = .returned (.tuple #[]) ∧ TkAt W2 w' w.heap.size la ga lc gc G (.slice ra ks.length rc) u6 ks (x.set b (setF (x.getD b DZ) (lessA (x.getD b DZ).free at'))) ps ∧ W7.grownBy w' (some G)) := by
        have hli := HT7.out.stk.list
        rw [HLA.out] at hli
        refine (take_any w.heap.size G x.length lc b x at' W7 hli rfl HXB.out.2.2.2 HXB.out.2.2.1 HXB.out.2.1 (by rw [← hat]; exact (least_ok HXB.out.2.1 HXB.out.1).2.1)).mono ?_
        rintro e w' ⟨rfl, ho, hg⟩
        exact ⟨rfl, HT7.out.act HLA.out ho (by rw [List.length_set]) hg, hg⟩
      have HNX : Hid (takN ds ks (j + 1) = (ps ++ [((x.getD b DZ).id, at')], x.set b (setF (x.getD b DZ) (lessA (x.getD b DZ).free at')))) := by rw [← hat]; exact HTS.out
      obtain ⟨z0, z1, _⟩ := two hx7
      rw [hW7] at z0 z1
      clear hb6 hb7 hx7 hat hat2 HTS HTr
      go_wp2_with fail
      rw [← hW7]
      clear hW7 z0 z1
      refine HTA.out.mono ?_
      rintro e w8 ⟨rfl, ht8, hg8⟩
      have HT8 : Hid (TkAt W2 w8 w.heap.size la ga lc gc G (.slice ra ks.length rc) u6 ks (x.set b (setF (x.getD b DZ) (lessA (x.getD b DZ).free at'))) ps) := ht8
      have hx8 := (hg8.block _ (Array.getElem?_eq_some_iff.1 HX7.out.1).1 (fun e => by injection e with e; exact HX7.out.2 e.symm)).trans HX7.out.1
      obtain ⟨z0, z1, _⟩ := two hx8
      have hd8 := ht8.stk.devs.at0 (i := b) (by rw [List.length_set]; exact HXB.out.2.2.2)
      rw [getD_set, if_pos ⟨rfl, HXB.out.2.2.2⟩] at hd8
      have HD8 : Hid (DevIn w8 G (b * 4) (setF (x.getD b DZ) (lessA (x.getD b DZ).free at'))) := hd8
      clear ht8 hg8 hx8 hd8 HTA
      go_wp2_with fail
      refine (place_any G (b * 4) _ at' w8 HD8.out).mono ?_
      rintro e w9 ⟨rfl, hb9⟩
      have HT9 : Hid (TkAt W2 w9 w.heap.size la ga lc gc G (.slice ra ks.length rc) u6 ks (x.set b (setF (x.getD b DZ) (lessA (x.getD b DZ).free at'))) ps) := HT8.out.below hb9
      obtain ⟨bid, hbid⟩ : ∃ bid, (x.getD b DZ).id = bid := ⟨_, rfl⟩
      have hbid2 : (setF (x.getD b DZ) (lessA (x.getD b DZ).free at')).id = bid := hbid
      rw [hbid2]
      rw [hbid] at HNX
      have HTA9 : Hid (TkAt W2 (w9.alloc (.cells #[.int .i64 bid, .int .i64 at'] 45)) w.heap.size la ga lc gc G (.slice ra ks.length rc) u6 ks (x.set b (setF (x.getD b DZ) (lessA (x.getD b DZ).free at'))) ps) := HT9.out.below (nwA (nwR w9) _)
      have hsz : W2.heap.size ≤ (w9.alloc (.cells #[.int .i64 bid, .int .i64 at'] 45)).heap.size := HTA9.out.gr.size
      have hpj := HPL.out
      have hc3 : ps.length + 1 ≤ maxLen := by unfold maxLen; omega
      have hc4 : (ps.length + 1) * 16 ≤ 140737488355328 := by omega
      have HPT : Hid ((w9.alloc (.cells #[.int .i64 bid, .int .i64 at'] 45)).ownsRow W2.heap.size 45 2 u6 ps.length (flat ps)) := HTA9.out.ptrs
      clear hb9 z0 z1 hbid hbid2 hpj
      go_wp2_with (at_builtin; refine wpList_append_own _ rfl (.tmp 42) (.tmp 45) 30 rfl W2.heap.size 45 i0 (.agg #[.int .i64 0, .int .i64 0]) 2 16 Try.underlying30 hi hz0 hz1 hz2 rfl (by decide) u6 ps.length (flat ps) rfl HPT.out ⟨w9.heap.size, 0, none⟩ 1 1 [.int .i64 bid, .int .i64 at'] rfl rfl (cell_two' _ _ _ _) (by simp [Value.oneCell']) hc3 hc4 hsz ?_; intro v' w10 hown hgrow _; refine unstop ?_)
      unfold Stop
      have HT10 : Hid (TkAt W2 w10 w.heap.size la ga lc gc G (.slice ra ks.length rc) v' ks (takN ds ks (j + 1)).2 (takN ds ks (j + 1)).1) := by
        rw [HNX.out]
        exact HTA9.out.app hgrow (OwnPtrs.snoc hown)
      clear hown hgrow
      go_wp2_with fail
      go_roundw
      case rel => exact ⟨j + 1, by omega, by go_num, HT10⟩
      case measure => simp [intOf]; omega
    · have hjni : ¬ (j : Int) < (N : Int) := by omega
      have HTE : Hid (TkAt W2 wr w.heap.size la ga lc gc G (.slice ra ks.length rc) u6 ks (takN ds ks N).2 (takN ds ks N).1) := by have := HTr.out; rw [show j = N from by omega] at this; exact this
      have hxe := (HTE.out.gr.block _ (Array.getElem?_eq_some_iff.1 HX2.out.1).1 (fun e => by injection e with e; exact HX2.out.2 e.symm)).trans HX2.out.1
      obtain ⟨z0, z1, _⟩ := two hxe
      have hlen : (takN ds ks N).2.length = ds.length := (takN_inv HOK.out.allV HKS.out.1 HKS.out.2.1 N HNL.out).1.like.len
      have hli := HTE.out.stk.list
      rw [hlen] at hli
      have HQ : Hid (∀ w', Below wr.heap.size wr w' → TakeR ds N id w.heap.size (.returned (.tuple #[u6, .slice la ds.length lc, .int .i64 0])) w') := fun w' h => HRES.out w' u6 _ (own_below (own_le HTE.out.ptrs HB2.out.size) h) (hli.below h)
      have HBE : Hid (Below w.heap.size w wr) := HB2.out.trans (gb_below HTE.out.gr HTE.out.stk.bg.1 HB2.out.size)
      clear hxe hlen hli
      obtain ⟨pa, pc, hpv⟩ := HTE.out.ptrs.lit
      subst hpv
      go_wp2_with fail
      go_quiet (fail)
      rename Nat => n1
      go_wp2_with fail
      go_ret3
      exact ⟨HQ.out _ (below_drewN (nwR _) n1), below_drewN HBE.out n1⟩

end Go.Proofs.Ytheomnafmjmpdaa

/- seg.Has; the reference's Num, Ends, Has, Not, List, Count; EqNumbers: by their contracts. -/
namespace Go.Proofs.Ytheomnafmjmpdaa
open Go.RowKit

def inSegI (s : Int × Int) (n : Int) : Bool := decide (s.1 ≤ n ∧ n < s.1 + s.2)
def hasI (l : List (Int × Int)) (n : Int) : Bool := l.any fun s => inSegI s n

set_option maxRecDepth 100000 in
set_option maxHeartbeats 400000 in
theorem runHas_any (x y n : Int) (w : World) (h0 : 0 ≤ x) (h1 : x ≤ 64) (h2 : 0 ≤ y) (h3 : y ≤ 64) :
    Calls Try.prog 90 #[.agg #[.int .i64 x, .int .i64 y], .int .i64 n] w fun e w' => e = .returned (.bool (inSegI (x, y) n)) ∧ Below w.heap.size w w' := by
  unfold inSegI
  by_cases c1 : x ≤ n
  · go_enter Try.func90, Try.ntmps90
    go_wp2_with fail
    refine (end_any _ _ _ h0 h1 h2 h3).mono ?_
    rintro e w1 ⟨rfl, hb1⟩
    go_wp2_with fail
    go_ret
    exact ⟨by simp [c1], nwT (nwA (nwR w) _) hb1⟩
  · go_enter Try.func90, Try.ntmps90
    go_wp2_with fail
    go_ret
    exact ⟨by simp; omega, nwA (nwR w) _⟩

set_option maxRecDepth 100000 in
set_option maxHeartbeats 400000 in
theorem has_any (a : Option Addr) (l : List (Int × Int)) (cap : Nat) (n : Int) (w : World) (hs : SegsAt w a l) (hl : l.length ≤ maxLen) :
    Calls Try.prog 83 #[.slice a l.length cap, .int .i64 n] w fun e w' => e = .returned (.tuple #[.bool (vOk l && hasI l n), .int .i64 (errOf (vOk l))]) ∧ Below w.heap.size w w' := by
  have HS : Hid (SegsAt w a l) := hs
  clear hs
  cases hv : vOk l
  · go_enter Try.func83, Try.ntmps83
    go_wp2_with fail
    refine (check_any a l cap _ HS.out hl).mono ?_
    rintro e w1 ⟨rfl, hb1⟩
    rw [show validFrom 0 l = false from hv, show errOf false = 1 from rfl]
    go_wp2_with fail
    go_ret2
    exact ⟨rfl, hb1⟩
  · have hl' := hl
    unfold maxLen at hl'
    go_enter Try.func83, Try.ntmps83
    go_wp2_with fail
    refine (check_any a l cap _ HS.out hl).mono ?_
    rintro e w1 ⟨rfl, hb1⟩
    rw [show validFrom 0 l = true from hv, show errOf true = 0 from rfl]
    go_wp2_with fail
    go_loopw [16] (fun i wr => ∃ (k : Nat), k ≤ l.length ∧ i = .int .i64 k ∧ Below w.heap.size w wr ∧ Hid (∀ j, j < k → inSegI (l.getD j (0, 0)) n = false))
      (fun i _ => l.length - (intOf i).toNat)
    case atStart => exact ⟨0, by omega, rfl, hb1, fun j hj => by omega⟩
    case round =>
      obtain ⟨k, hk, rfl, hb, HN⟩ := hrel
      by_cases hlt : k < l.length
      · obtain ⟨b, off, rfl, h1, h2⟩ := (HS.out.below hb (Nat.le_refl _)) k hlt
        have hm := mayB_of (valid_mem hv k hlt)
        have HY : Hid (inSegI (l.getD k (0, 0)) n = true → hasI l n = true) := fun h => by
          rw [hasI, List.any_eq_true]; exact ⟨l.getD k (0, 0), by simp [hlt], h⟩
        have HNN : Hid (inSegI (l.getD k (0, 0)) n = false → ∀ j, j < k + 1 → inSegI (l.getD j (0, 0)) n = false) := fun h j hj => by
          by_cases e : j = k
          · subst e; exact h
          · exact HN.out j (by omega)
        generalize l.getD k (0, 0) = s at h1 h2 hm HY HNN
        obtain ⟨x, y⟩ := s
        simp only at h1 h2 hm
        go_wp2_with fail
        refine (runHas_any x y n _ (by omega) (by omega) (by omega) (by omega)).mono ?_
        rintro e w2 ⟨rfl, hb2⟩
        have hb3 := nwT (nwA hb (.cells #[.int .i64 x, .int .i64 y] 67)) hb2
        cases hi : inSegI (x, y) n
        · have HN2 : Hid _ := HNN.out hi
          clear HNN HY
          go_wp2_with fail
          go_roundw
          case rel => exact ⟨k + 1, by omega, by go_num, hb3, HN2⟩
          case measure => simp [intOf]; omega
        · have HT : Hid (hasI l n = true) := HY.out hi
          clear HNN HY
          go_wp2_with fail
          go_ret2
          exact ⟨by rw [HT.out]; rfl, hb3⟩
      · have HT : Hid (hasI l n = false) := by
          show _ = _
          rw [hasI, List.any_eq_false]
          intro s hs
          obtain ⟨i, hi, rfl⟩ := List.getElem_of_mem hs
          have := HN.out i (by omega)
          simpa [hi] using this
        go_wp2_with fail
        go_ret2
        exact ⟨by rw [HT.out]; rfl, hb⟩

def numB (n most : Int) : Bool := decide (0 ≤ n) && decide (n ≤ most)

set_option maxRecDepth 100000 in
set_option maxHeartbeats 400000 in
theorem num2_any (n most : Int) (w : World) : Calls Try.prog 24 #[.int .i64 n, .int .i64 most] w fun e w' => e = .returned (.bool (numB n most)) ∧ w' = w := by
  unfold numB
  by_cases c1 : 0 ≤ n
  · go_enter Try.func24, Try.ntmps24
    go_wp2
    go_ret
    exact ⟨by simp [c1], rfl⟩
  · go_enter Try.func24, Try.ntmps24
    go_wp2
    go_ret
    exact ⟨by simp; omega, rfl⟩

set_option maxRecDepth 100000 in
set_option maxHeartbeats 1000000 in
theorem refEnds_any (a : Option Addr) (l : List (Int × Int)) (cap : Nat) (w : World) (hs : SegsAt w a l) (hl : l.length ≤ 1000) (hv : vOk l = true) :
    Calls Try.prog 72 #[.slice a l.length cap] w fun e w' => e = .returned (.int .i64 (endL l)) ∧ Below w.heap.size w w' := by
  have HS : Hid (SegsAt w a l) := hs
  clear hs
  by_cases hz : l.length = 0
  · have hne : l = [] := List.length_eq_zero_iff.1 hz
    subst hne
    go_enter Try.func72, Try.ntmps72
    go_wp2_with fail
    go_ret
    exact ⟨rfl, nwR w⟩
  · have hz' : ((l.length : Int) == 0) = false := by simpa using hz
    obtain ⟨b, off, rfl, h1, h2⟩ := HS.out (l.length - 1) (by omega)
    have hm := mayB_of (valid_mem hv (l.length - 1) (by omega))
    have HE : Hid (endL l = (l.getD (l.length - 1) (0, 0)).1 + (l.getD (l.length - 1) (0, 0)).2) := by
      show _ = _
      rw [endL, if_neg (fun e => hz (by rw [e]; rfl))]
    generalize l.getD (l.length - 1) (0, 0) = s at h1 h2 HE hm
    obtain ⟨x, y⟩ := s
    simp only at h1 h2 HE hm
    have hw1 : IntKind.i64.wrap ((l.length : Int) - 1) = ((l.length - 1 : Nat) : Int) := by rw [wrap_any (by omega) (by omega)]; omega
    have hw2 : IntKind.i64.wrap (x + y) = x + y := wrap_any (by omega) (by omega)
    have hNl : ((l.length - 1 : Nat) : Int) < (l.length : Int) := by omega
    generalize l.length - 1 = N at h1 h2 hw1 hNl
    go_enter Try.func72, Try.ntmps72
    go_wp2_with fail
    go_quiet (fail)
    go_wp2_with fail
    go_ret
    exact ⟨by rw [HE.out]; rfl, below_drewN (nwR w) _⟩

theorem hasI_mem {l : List (Int × Int)} (hv : vOk l = true) (n : Int) : hasI l n = (numB n 63 && memS l n.toNat) := by
  rw [Bool.eq_iff_iff]
  simp only [hasI, numB, memS, List.any_eq_true, Bool.and_eq_true, decide_eq_true_eq, inSegI, inSeg]
  constructor
  · rintro ⟨s, hs, h⟩
    obtain ⟨i, hi, rfl⟩ := List.getElem_of_mem hs
    have hm := mayB_of (valid_mem hv i hi)
    simp only [List.getD_eq_getElem?_getD, List.getElem?_eq_getElem hi, Option.getD_some] at hm
    refine ⟨⟨by omega, by omega⟩, l[i], hs, by omega⟩
  · rintro ⟨⟨h0, h1⟩, s, hs, h⟩
    exact ⟨s, hs, by omega⟩

set_option maxRecDepth 100000 in
set_option maxHeartbeats 400000 in
theorem refHas_any (a : Option Addr) (l : List (Int × Int)) (cap : Nat) (n : Int) (w : World) (hs : SegsAt w a l) (hl : l.length ≤ 1000) (hv : vOk l = true) :
    Calls Try.prog 50 #[.slice a l.length cap, .int .i64 n] w fun e w' => e = .returned (.bool (hasI l n)) ∧ Below w.heap.size w w' := by
  have HS : Hid (SegsAt w a l) := hs
  have HI : Hid (hasI l n = (numB n 63 && memS l n.toNat)) := hasI_mem hv n
  clear hs
  go_enter Try.func50, Try.ntmps50
  go_wp2_with fail
  refine (refSet_any a l cap _ HS.out hl hv).mono ?_
  rintro e w1 ⟨rfl, hb1⟩
  have HN : Hid (SetJ (w1.alloc (.cells (setArr fun _ => false) 110)) w1.heap.size (fun _ => false)) := SetJ.new w1 _
  go_wp2_with (first | (with_reducible refine wpList_alloc50 rfl rfl ?_) | (with_reducible refine stop_store50 rfl ?_))
  unfold Stop
  refine wpList_store50 rfl (.tmp 5) (.tmp 7) rfl w1.heap.size (memS l) _ rfl rfl HN.out ?_
  have HJ : Hid (SetJ ((w1.alloc (.cells (setArr fun _ => false) 110)).setRow w1.heap.size (setArr (memS l))) w1.heap.size (memS l)) := HN.out.setRow
  have HB : Hid (Below w.heap.size w ((w1.alloc (.cells (setArr fun _ => false) 110)).setRow w1.heap.size (setArr (memS l)))) := (nwA hb1 _).grown (gbSetRow _ _ _) (nwA hb1 _).size (fun q e => by have := Option.some.inj e; have := hb1.size; omega)
  generalize (w1.alloc (.cells (setArr fun _ => false) 110)).setRow w1.heap.size (setArr (memS l)) = w2 at HJ HB ⊢
  clear HN
  generalize w1.heap.size = g at HJ ⊢
  go_wp2_with fail
  refine (num2_any n 63 _).mono ?_
  rintro e w3 ⟨rfl, rfl⟩
  cases hn : numB n 63
  · go_wp2_with fail
    go_ret
    exact ⟨by rw [HI.out, hn]; rfl, HB.out⟩
  · have hn2 := hn
    simp only [numB, Bool.and_eq_true, decide_eq_true_eq] at hn2
    obtain ⟨k, hk⟩ := Int.eq_ofNat_of_zero_le hn2.1
    subst hk
    have hk64 : k < 64 := by omega
    have c0 := HJ.out.cell hk64
    simp only [setRow] at c0
    go_wp2_with fail
    go_ret
    exact ⟨by rw [HI.out, hn]; rfl, HB.out⟩

end Go.Proofs.Ytheomnafmjmpdaa
