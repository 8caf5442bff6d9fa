/- Laid together: Delg, Opend, Open, Countd. -/
import Derived.Test.YtheomnafmjmpdaaRoomN5
/- A group without one device, by the program. -/
namespace Go.Proofs.Ytheomnafmjmpdaa
open Go.RowKit

def keepK (ds : List DevD) (id : Int) (k : Nat) : Bool := !isN ds id k
theorem restK_all {ds : List DevD} {id : Int} {ks : List Nat} (h : ks.findIdx? (isN ds id) = none) : restK ds id ks = ks := by
  unfold restK
  rw [List.filter_eq_self]
  intro k hk
  rw [List.findIdx?_eq_none_iff] at h
  rw [h k hk]; rfl
theorem restK_sub {ds : List DevD} {id : Int} {ks : List Nat} {n : Nat} (h : ∀ k ∈ ks, k < n) : ∀ k ∈ restK ds id ks, k < n := fun k hk => h k (List.mem_filter.1 hk).1
theorem RowG.sifted {w : World} {base g n cap m b o : Nat} {ks ks' : List Nat} {ds : List DevD} {id : Int} {vs : List Value} (hs : Sift (keepK ds id) ks ks' m n) (hn : ks.length = n) (h : RowG w base g n cap b o ks') :
    RowG (w.setCells g m vs) base g m cap b o (restK ds id ks) := by
  obtain ⟨ys, h1, h2⟩ := own_setCells vs m w (ks'.map (ptrD b o)) h
  have h3 := own_shrink h1 hs.ij
  have hf := hs.fin (by omega)
  unfold RowG
  rw [show restK ds id ks = ks'.take m from hf.symm, List.map_take, ← h2]
  rw [Nat.mul_one] at h3
  exact h3

set_option maxRecDepth 100000 in
set_option maxHeartbeats 4000000 in
theorem delG_any (base g cap b o B : Nat) (ks : List Nat) (id : Int) (ds : List DevD) (W w : World) (hbW : Below W.heap.size W w) (hbs : W.heap.size ≤ base) (hd : DevsAt W (some ⟨b, o, none⟩) ds) (hc : W.cell? ⟨B, 0, none⟩ = some (.int .i64 id)) (hX : RowG w base g ks.length cap b o ks) (hk : ∀ k ∈ ks, k < ds.length) (hl : ks.length ≤ 1000) :
    Calls Try.prog 59 #[.slice (some ⟨g, 0, none⟩) ks.length cap, .func (.func 61) #[] #[.pointer (some ⟨B, 0, none⟩)]] w fun e w' => e = .returned (.slice (some ⟨g, 0, none⟩) (restK ds id ks).length cap) ∧ RowG w' base g (restK ds id ks).length cap b o (restK ds id ks) ∧ Below W.heap.size W w' := by
  have HDW : Hid (∀ w', Below W.heap.size W w' → DevsAt w' (some ⟨b, o, none⟩) ds) := fun w' h => hd.below h
  have HCW : Hid (∀ w', Below W.heap.size W w' → w'.cell? ⟨B, 0, none⟩ = some (.int .i64 id)) := fun w' h => (h.cell (p := ⟨B, 0, none⟩) (block_lt_of_cell hc)).trans hc
  have HKD : Hid (∀ k ∈ ks, k < ds.length) := hk
  have HBG : Hid (W.heap.size ≤ g) := Nat.le_trans hbs (World.ownsRow.lt hX g rfl).1
  have hcap : ks.length ≤ cap := by
    rcases hX.2 with ⟨h1, _⟩ | ⟨g', cap', cur, h1, _, _, h4, _⟩
    · simp at h1
    · simp only [Value.slice.injEq] at h1; omega
  have HIX : Hid (Calls Try.prog 78 #[.slice (some ⟨g, 0, none⟩) ks.length cap, .func (.func 61) #[] #[.pointer (some ⟨B, 0, none⟩)]] w fun e w' => e = .returned (.int .i64 (optI (ks.findIdx? (isN ds id)))) ∧ Below w.heap.size w w') := by
    have hO : OwnGrp w base (.slice (some ⟨g, 0, none⟩) ks.length cap) b o ks := hX
    obtain ⟨a, c, e, hat, _⟩ := hO.at
    simp only [Value.slice.injEq, true_and] at e
    obtain ⟨rfl, rfl⟩ := e
    exact idxg_any _ cap b o B ks id ds w hat (hd.below hbW) hk hl (HCW.out w hbW)
  cases hfi : ks.findIdx? (isN ds id) with
  | none =>
    have HX : Hid (∀ w1, Below w.heap.size w w1 → RowG w1 base g ks.length cap b o ks) := fun w1 h => own_below hX h
    have HRA : Hid (restK ds id ks = ks) := restK_all hfi
    have HI2 : Hid (Calls Try.prog 78 #[.slice (some ⟨g, 0, none⟩) ks.length cap, .func (.func 61) #[] #[.pointer (some ⟨B, 0, none⟩)]] w fun e w' => e = .returned (.int .i64 (-1)) ∧ Below w.heap.size w w') := by
      have h := HIX.out; rw [hfi] at h; exact h
    have HBW : Hid (Below W.heap.size W w) := hbW
    clear hX HIX hfi hbW hd hc hk
    rw [HRA.out]
    go_enter Try.func59, Try.ntmps59
    go_wp2_with fail
    refine HI2.out.mono ?_
    rintro e w1 ⟨rfl, hb1⟩
    go_wp2_with fail
    go_ret
    exact ⟨rfl, HX.out _ hb1, nwT HBW.out hb1⟩
  | some k =>
    have HI2 : Hid (Calls Try.prog 78 #[.slice (some ⟨g, 0, none⟩) ks.length cap, .func (.func 61) #[] #[.pointer (some ⟨B, 0, none⟩)]] w fun e w' => e = .returned (.int .i64 (k : Int)) ∧ Below w.heap.size w w') := by
      have h := HIX.out; rw [hfi] at h; exact h
    rw [List.findIdx?_eq_some_iff_getElem] at hfi
    obtain ⟨hkl, hk1, hk2⟩ := hfi
    have HST : Hid (Sift (keepK ds id) ks ks k (k + 1)) := by
      refine sift_start hkl (fun t ht x hx => ?_) (fun x hx => ?_)
      · have := hk2 t ht
        have e2 := (List.getElem?_eq_some_iff.1 hx).2
        unfold keepK
        rw [← e2]
        simpa using this
      · have e2 := (List.getElem?_eq_some_iff.1 hx).2
        unfold keepK
        rw [← e2, hk1]; rfl
    have HO : Hid (RowG w base g ks.length cap b o ks) := hX
    have HBW : Hid (Below W.heap.size W w) := hbW
    have HE : Hid (∀ m w', m = (restK ds id ks).length → RowG w' base g m cap b o (restK ds id ks) → Below W.heap.size W w' → (Ending.returned (.slice (some ⟨g, 0, none⟩) m cap) = .returned (.slice (some ⟨g, 0, none⟩) (restK ds id ks).length cap) ∧ RowG w' base g (restK ds id ks).length cap b o (restK ds id ks) ∧ Below W.heap.size W w')) := by
      intro m w' hm h1 h2
      subst hm
      exact ⟨rfl, h1, h2⟩
    have HLE : Hid (∀ m ks', Sift (keepK ds id) ks ks' m ks.length → m = (restK ds id ks).length) := fun m ks' h => (h.le rfl).symm
    clear hk1 hk2 hX HIX hbW hd hc hk
    have hk1 : ((k : Int) == -1) = false := beq_eq_false_iff_ne.2 (by omega)
    go_enter Try.func59, Try.ntmps59
    go_wp2_with fail
    refine HI2.out.mono ?_
    rintro e w1 ⟨rfl, hb1⟩
    have HO1 : Hid (RowG w1 base g ks.length cap b o ks) := own_below HO.out hb1
    have HB1 : Hid (Below W.heap.size W w1) := nwT HBW.out hb1
    clear hb1 HI2
    go_wp2_with fail
    go_loopw [5, 6] (fun s5 s6 wr => ∃ (m j : Nat), s5 = .int .i64 m ∧ s6 = .int .i64 j ∧ m < j ∧ j ≤ ks.length ∧ Hid (∃ ks', Sift (keepK ds id) ks ks' m j ∧ RowG wr base g ks.length cap b o ks') ∧ Hid (Below W.heap.size W wr))
      (fun _ s6 _ => ks.length - (intOf s6).toNat)
    case atStart => exact ⟨k, k + 1, rfl, by go_num, by omega, by omega, ⟨ks, HST.out, HO1.out⟩, HB1⟩
    case round =>
      obtain ⟨m, j, rfl, rfl, hmj, hjl, HOr, HBr⟩ := hrel
      obtain ⟨ks', hst, hro⟩ := HOr.out
      have HS : Hid (Sift (keepK ds id) ks ks' m j) := hst
      have HR : Hid (RowG wr base g ks.length cap b o ks') := hro
      have HSL : Hid (ks'.length = ks.length) := hst.len
      clear hst hro HOr
      by_cases hjn : j < ks.length
      · have hjni : (j : Int) < (ks.length : Int) := by omega
        have hmni : (m : Int) < (ks.length : Int) := by omega
        obtain ⟨x, hx⟩ : ∃ x, ks[j]? = some x := ⟨_, List.getElem?_eq_getElem (by omega)⟩
        have hxs : ks'[j]? = some x := by rw [HS.out.get (Nat.le_refl _)]; exact hx
        have c0 := HR.out.cellAt hxs
        have HKP : Hid (keepK ds id x = true → Sift (keepK ds id) ks (ks'.set m x) (m + 1) (j + 1)) := fun h => HS.out.keep hx h
        have HSK : Hid (keepK ds id x = false → Sift (keepK ds id) ks ks' m (j + 1)) := fun h => HS.out.skip hx h
        have hxl : x < ds.length := HKD.out x (List.mem_of_getElem? hx)
        have HBA : Hid (Below wr.heap.size wr (wr.alloc (.cells #[.pointer (some ⟨b, o + x * 4, none⟩)] 78))) := nwA (nwR wr) _
        have HB2 : Hid ((wr.alloc (.cells #[.pointer (some ⟨b, o + x * 4, none⟩)] 78)).heap[wr.heap.size]? = some (.cells #[.pointer (some ⟨b, o + x * 4, none⟩)] 78 (0, 0))) := heap_alloc_new wr _
        have HD1 : Hid (Calls Try.prog 61 #[.agg #[.pointer (some ⟨b, o + x * 4, none⟩)], .pointer (some ⟨B, 0, none⟩)] (wr.alloc (.cells #[.pointer (some ⟨b, o + x * 4, none⟩)] 78)) fun e w' => e = .returned (.bool (isN ds id x)) ∧ Below (wr.alloc (.cells #[.pointer (some ⟨b, o + x * 4, none⟩)] 78)).heap.size (wr.alloc (.cells #[.pointer (some ⟨b, o + x * 4, none⟩)] 78)) w') :=
          isnot_any b (o + x * 4) B (ds.getD x DZ) id _ ((HDW.out _ (nwT HBr.out HBA.out)).at hxl) (HCW.out _ (nwT HBr.out HBA.out))
        have HKE : Hid (keepK ds id x = !isN ds id x) := rfl
        clear hx hxs hxl
        generalize isN ds id x = hit at HD1 HKE
        go_wp2_with fail
        refine HD1.out.mono ?_
        rintro e w2 ⟨rfl, hb2⟩
        have hbw2 := nwT HBA.out hb2
        obtain ⟨d0, _⟩ := one ((hb2.block _ (Array.getElem?_eq_some_iff.1 HB2.out).1).trans HB2.out)
        have HO2 : Hid (RowG w2 base g ks.length cap b o ks') := own_below HR.out hbw2
        have HBW2 : Hid (Below W.heap.size W w2) := nwT HBr.out hbw2
        obtain ⟨y, hy⟩ : ∃ y, ks'[m]? = some y := ⟨_, List.getElem?_eq_getElem (by have := HSL.out; omega)⟩
        have t0 := HO2.out.cellAt hy
        have tf : ∀ o, w2.frozen? ⟨g, o, none⟩ = false := fun o => World.ownsRow.frozenAt HO2.out o
        clear c0 hy HD1 HB2 hbw2 hb2
        cases hit
        case false =>
          have HN : Hid (Sift (keepK ds id) ks (ks'.set m x) (m + 1) (j + 1)) := HKP.out HKE.out
          go_wp2_with fail
          go_roundw
          case rel =>
            exact ⟨m + 1, j + 1, by go_num, by go_num, by omega, by omega, ⟨ks'.set m x, HN.out, HO2.out.setAt x⟩, HBW2.out.setCell HBG.out _⟩
          case measure => simp [intOf]; omega
        case true =>
          have HN : Hid (Sift (keepK ds id) ks ks' m (j + 1)) := HSK.out HKE.out
          go_wp2_with fail
          go_roundw
          case rel => exact ⟨m, j + 1, rfl, by go_num, by omega, by omega, ⟨ks', HN.out, HO2.out⟩, HBW2⟩
          case measure => simp [intOf]; omega
      · have hjni : ¬ (j : Int) < (ks.length : Int) := by omega
        have HJN : Hid (j = ks.length) := by show _ = _; omega
        have tf : ∀ o, wr.frozen? ⟨g, o, none⟩ = false := fun o => World.ownsRow.frozenAt HR.out o
        obtain ⟨vs, hcl⟩ := clear_grp wr g m (ks.length - m) (cap - m) (fun t ht => by
          have hlt : m + t < ks'.length := by have := HSL.out; omega
          rw [HR.out.cellAt (List.getElem?_eq_getElem hlt)]; rfl) tf
        go_wp2_with fail
        go_ret
        have HGE : Below W.heap.size W (wr.setCells g m vs) := by
          have hg := gb_setCells vs m wr (gbOf (nwR wr) (some g))
          have hbg := HBG.out
          exact ⟨hg.os.trans HBr.out.os, hg.tape.trans HBr.out.tape, hg.output.trans HBr.out.output, Nat.le_trans HBr.out.size hg.size, fun q hq => (hg.block q (Nat.lt_of_lt_of_le hq HBr.out.size) (fun e => by injection e with e; omega)).trans (HBr.out.block q hq)⟩
        have hst := HS.out
        rw [HJN.out] at hst
        exact HE.out m _ (HLE.out m ks' hst) (RowG.sifted hst rfl HR.out) HGE

set_option maxRecDepth 100000 in
set_option maxHeartbeats 2000000 in
theorem besides_any (ga : Option Addr) (gc b o : Nat) (ks : List Nat) (id : Int) (ds : List DevD) (w : World) (hg : GrpAt w ga b o ks) (hn : NilOk ga gc ks.length) (hd : DevsAt w (some ⟨b, o, none⟩) ds) (hk : ∀ k ∈ ks, k < ds.length) (hl : ks.length ≤ 1000) :
    Calls Try.prog 37 #[.slice ga ks.length gc, .int .i64 id] w fun e w' => (∃ v, e = .returned v ∧ OwnGrp w' w.heap.size v b o (restK ds id ks)) ∧ Below w.heap.size w w' := by
  obtain ⟨W0, hW0⟩ : ∃ W0, W0 = w.alloc (.cells #[.int .i64 id] 3) := ⟨_, rfl⟩
  have HB0 : Hid (Below w.heap.size w W0) := by rw [hW0]; exact nwA (nwR w) _
  have hx0 : W0.heap[w.heap.size]? = some (.cells #[.int .i64 id] 3 (0, 0)) := by rw [hW0]; exact heap_alloc_new w _
  have HX0 : Hid (W0.cell? ⟨w.heap.size, 0, none⟩ = some (.int .i64 id)) := (one hx0).1
  have HG : Hid (GrpAt W0 ga b o ks) := hg.below HB0.out
  have HD : Hid (DevsAt W0 (some ⟨b, o, none⟩) ds) := hd.below HB0.out
  have HN : Hid (NilOk ga gc ks.length) := hn
  have HK : Hid (∀ k ∈ ks, k < ds.length) := hk
  clear hg hd hn hk hx0
  go_enter Try.func37, Try.ntmps37
  go_wp2_with fail
  rw [← hW0]
  clear hW0
  refine (clog_any ga gc b o ks W0 HG.out HN.out hl).mono ?_
  rintro e w1 ⟨⟨v, rfl, hv⟩, hb1⟩
  have HB1 : Hid (Below W0.heap.size W0 w1) := hb1
  have HV : Hid (OwnGrp w1 W0.heap.size v b o ks) := hv
  have HPO : Hid (Calls Try.prog 59 #[v, .func (.func 61) #[] #[.pointer (some ⟨w.heap.size, 0, none⟩)]] w1 fun e w' => (∃ v, e = .returned v ∧ OwnGrp w' w.heap.size v b o (restK ds id ks)) ∧ Below W0.heap.size W0 w') := by
    obtain ⟨a, c, rfl, hat, hno⟩ := hv.at
    cases a with
    | none =>
      have h0 : ks = [] := by have := hno.2 rfl; have := hno.1; exact List.length_eq_zero_iff.1 (by omega)
      subst h0
      have hc0 := hno.2 rfl
      subst hc0
      have HI : Hid (Calls Try.prog 78 #[.slice none 0 0, .func (.func 61) #[] #[.pointer (some ⟨w.heap.size, 0, none⟩)]] w1 fun e w' => e = .returned (.int .i64 (-1)) ∧ Below w1.heap.size w1 w') := idxg_any none 0 b o w.heap.size [] id ds w1 (.inl rfl) (HD.out.below HB1.out) (fun k hk => by simp at hk) (by simp) ((HB1.out.cell (p := ⟨w.heap.size, 0, none⟩) (block_lt_of_cell HX0.out)).trans HX0.out)
      clear hv hb1 hat hno
      show Calls Try.prog 59 #[.slice none 0 0, _] _ _
      go_enter Try.func59, Try.ntmps59
      go_wp2_with fail
      refine HI.out.mono ?_
      rintro e w2 ⟨rfl, hb2⟩
      go_wp2_with fail
      go_ret
      exact ⟨⟨_, rfl, World.ownsRow_nil _ _ _ _⟩, nwT HB1.out hb2⟩
    | some p =>
      rcases hv.2 with ⟨h, _⟩ | ⟨g, cap, cur, h, _⟩
      · simp at h
      · simp only [Value.slice.injEq, Option.some.injEq, true_and] at h
        obtain ⟨rfl, rfl⟩ := h
        refine (delG_any W0.heap.size g c b o w.heap.size ks id ds W0 w1 hb1 (Nat.le_refl _) HD.out HX0.out hv HK.out hl).mono ?_
        rintro e w2 ⟨rfl, hr, hb2⟩
        exact ⟨⟨_, rfl, own_le hr HB0.out.size⟩, hb2⟩
  obtain ⟨a, c, rfl, _, _⟩ := hv.at
  clear hv hb1
  go_wp2_with fail
  refine HPO.out.mono ?_
  rintro e w2 ⟨⟨u, rfl, hu⟩, hb2⟩
  have HU : Hid (OwnGrp w2 w.heap.size u b o (restK ds id ks)) := hu
  have HB2 : Hid (Below w.heap.size w w2) := nwT HB0.out hb2
  obtain ⟨a2, c2, rfl, _, _⟩ := hu.at
  clear hu hb2
  go_wp2_with fail
  go_ret
  exact ⟨⟨_, rfl, HU.out⟩, HB2.out⟩

end Go.Proofs.Ytheomnafmjmpdaa

/- The copy of devices that a call acts on: what it holds. -/
namespace Go.Proofs.Ytheomnafmjmpdaa
open Go.RowKit

def ReadDV (W : World) (x : DV) : Prop := ∃ af cf al cl, x.fv = .slice af x.d.free.length cf ∧ x.lv = .slice al x.d.late.length cl ∧ SegV W af cf x.d.free ∧ SegV W al cl x.d.late
theorem DevsAt.gs {w : World} {b o : Nat} {ds : List DevD} (h : DevsAt w (some ⟨b, o, none⟩) ds) : ∃ gs : List DV, gs.map DV.d = ds ∧ (∀ i x, gs[i]? = some x → w.cell? ⟨b, o + i * 4, none⟩ = some (.int .i64 x.d.id) ∧ w.cell? ⟨b, o + i * 4 + 1, none⟩ = some (.int .i64 x.d.size) ∧ w.cell? ⟨b, o + i * 4 + 2, none⟩ = some x.fv ∧ w.cell? ⟨b, o + i * 4 + 3, none⟩ = some x.lv) ∧ ∀ x ∈ gs, ReadDV w x := by
  have hd : ∀ i, i < ds.length → DevIn w b (o + i * 4) (ds.getD i DZ) := fun i hi => h.at hi
  clear h
  induction ds generalizing o with
  | nil => exact ⟨[], rfl, by simp, by simp⟩
  | cons d ds ih =>
    obtain ⟨af, cf, al, cl, ⟨c0, c1, c2, c3⟩, hf, hl⟩ := hd 0 (by simp)
    obtain ⟨gs, h3, h4, h5⟩ := ih (o := o + 4) (fun i hi => by
      have := hd (i + 1) (by simpa using hi)
      rw [show o + 4 + i * 4 = o + (i + 1) * 4 from by omega]
      simpa [List.getD] using this)
    simp only [Nat.zero_mul, Nat.add_zero, List.getD_cons_zero] at c0 c1 c2 c3 hf hl
    refine ⟨⟨d, .slice af d.free.length cf, .slice al d.late.length cl⟩ :: gs, by rw [List.map_cons, h3], ?_, ?_⟩
    · intro i x hx
      cases i with
      | zero =>
        simp at hx; subst hx
        simp only [Nat.zero_mul, Nat.add_zero]
        exact ⟨c0, c1, c2, c3⟩
      | succ i =>
        have := h4 i x (by simpa using hx)
        rw [show o + (i + 1) * 4 = o + 4 + i * 4 from by omega]
        exact this
    · intro x hx
      rcases List.mem_cons.1 hx with rfl | hx
      · exact ⟨af, cf, al, cl, rfl, rfl, hf, hl⟩
      · exact h5 x hx
theorem dflat_div {gs : List DV} {j : Nat} {u : Value} (h : (dflat gs)[j]? = some u) : ∃ i r x, j = i * 4 + r ∧ r < 4 ∧ gs[i]? = some x ∧ u = (#[Value.int .i64 x.d.id, .int .i64 x.d.size, x.fv, x.lv][r]!) := by
  have hl := (List.getElem?_eq_some_iff.1 h).1
  rw [dflat_len] at hl
  have hi : j / 4 < gs.length := by omega
  obtain ⟨c0, c1, c2, c3⟩ := dflat_get gs (j / 4) _ (List.getElem?_eq_getElem hi)
  refine ⟨j / 4, j % 4, gs[j / 4], by omega, Nat.mod_lt _ (by omega), List.getElem?_eq_getElem hi, ?_⟩
  have : j % 4 = 0 ∨ j % 4 = 1 ∨ j % 4 = 2 ∨ j % 4 = 3 := by omega
  rcases this with e | e | e | e
  · rw [e]; rw [show j = j / 4 * 4 from by omega, c0] at h; injection h with h; exact h.symm
  · rw [e]; rw [show j = j / 4 * 4 + 1 from by omega, c1] at h; injection h with h; exact h.symm
  · rw [e]; rw [show j = j / 4 * 4 + 2 from by omega, c2] at h; injection h with h; exact h.symm
  · rw [e]; rw [show j = j / 4 * 4 + 3 from by omega, c3] at h; injection h with h; exact h.symm
theorem DevsAt.cells {w : World} {b o : Nat} {ds : List DevD} (h : DevsAt w (some ⟨b, o, none⟩) ds) : ∃ gs : List DV, gs.map DV.d = ds ∧ (∀ j u, (dflat gs)[j]? = some u → w.cell? ((⟨b, o, none⟩ : Addr).add j) = some u) ∧ ∀ x ∈ gs, ReadDV w x := by
  obtain ⟨gs, h1, h2, h3⟩ := h.gs
  refine ⟨gs, h1, fun j u hu => ?_, h3⟩
  obtain ⟨i, r, x, rfl, hr, hx, rfl⟩ := dflat_div hu
  obtain ⟨c0, c1, c2, c3⟩ := h2 i x hx
  have e : (⟨b, o, none⟩ : Addr).add (i * 4 + r) = ⟨b, o + i * 4 + r, none⟩ := by unfold Addr.add; split <;> simp_all [Nat.add_assoc]
  rw [e]
  have : r = 0 ∨ r = 1 ∨ r = 2 ∨ r = 3 := by omega
  rcases this with rfl | rfl | rfl | rfl
  · exact c0
  · exact c1
  · exact c2
  · exact c3
theorem dflat_oneR {w : World} {gs : List DV} (h : ∀ x ∈ gs, ReadDV w x) : ∀ v ∈ dflat gs, v.oneCell' = true := by
  intro v hv
  unfold dflat at hv
  rw [List.mem_flatMap] at hv
  obtain ⟨x, hx, hv⟩ := hv
  obtain ⟨af, cf, al, cl, e1, e2, _⟩ := h x hx
  simp only [List.mem_cons, List.not_mem_nil, or_false] at hv
  rcases hv with rfl | rfl | rfl | rfl
  · rfl
  · rfl
  · rw [e1]; rfl
  · rw [e2]; rfl
theorem dflat_cons (y : DV) (ys : List DV) : dflat (y :: ys) = .int .i64 y.d.id :: .int .i64 y.d.size :: y.fv :: y.lv :: dflat ys := by simp [dflat]
theorem dflat_set2 (gs : List DV) : ∀ (k : Nat) (x : DV) (fv lv : Value) (f l : List (Int × Int)), gs[k]? = some x → dflat (gs.set k ⟨⟨x.d.id, x.d.size, f, l⟩, fv, lv⟩) = ((dflat gs).set (k * 4 + 2) fv).set (k * 4 + 3) lv := by
  induction gs with
  | nil => intro k x fv lv f l h; simp at h
  | cons y ys ih =>
    intro k x fv lv f l h
    cases k with
    | zero => simp at h; subst h; simp [dflat_cons]
    | succ k =>
      have h' : ys[k]? = some x := by simpa using h
      rw [List.set_cons_succ, dflat_cons, ih k x fv lv f l h', dflat_cons, show (k + 1) * 4 + 2 = k * 4 + 2 + 1 + 1 + 1 + 1 from by omega, show (k + 1) * 4 + 3 = k * 4 + 3 + 1 + 1 + 1 + 1 from by omega]
      simp
/-- the copy while it is made: the first k have their own segments -/
def OpRow (W w : World) (base g n cap k : Nat) (ds : List DevD) : Prop := ∃ gs : List DV, gs.map DV.d = ds ∧ w.ownsRow base 51 4 (.slice (some ⟨g, 0, none⟩) n cap) n (dflat gs) ∧ ∀ i x, gs[i]? = some x → (i < k → OwnDV w base x) ∧ (k ≤ i → ReadDV W x)
theorem OpRow.below {W w w' : World} {base g n cap k : Nat} {ds : List DevD} (h : OpRow W w base g n cap k ds) (hb : Below w.heap.size w w') : OpRow W w' base g n cap k ds := by
  obtain ⟨gs, e, ho, hg⟩ := h
  exact ⟨gs, e, own_below ho hb, fun i x hx => ⟨fun h => ((hg i x hx).1 h).below hb, (hg i x hx).2⟩⟩
theorem gb2 (w : World) (g i j : Nat) (u v : Value) : w.grownBy ((w.setCell ⟨g, i, none⟩ u).setCell ⟨g, j, none⟩ v) (some g) := gb_setg (gb_setg (gbOf (nwR w) _) _) _
theorem OpRow.step {W w : World} {base g n cap k : Nat} {ds : List DevD} {v1 v2 : Value} (h : OpRow W w base g n cap k ds) (h1 : OwnSegs w base v1 (ds.getD k DZ).free) (h2 : OwnSegs w base v2 (ds.getD k DZ).late) (hk : k < ds.length) :
    OpRow W ((w.setCell ⟨g, k * 4 + 2, none⟩ v1).setCell ⟨g, k * 4 + 3, none⟩ v2) base g n cap (k + 1) ds := by
  obtain ⟨gs, e, ho, hg⟩ := h
  have hlen : gs.length = ds.length := by rw [← e, List.length_map]
  have hgb := gb2 w g (k * 4 + 2) (k * 4 + 3) v1 v2
  obtain ⟨x, hx⟩ : ∃ x, gs[k]? = some x := ⟨_, List.getElem?_eq_getElem (by omega)⟩
  have hxd : ds.getD k DZ = x.d := by rw [← e]; simp [List.getD, hx]
  rw [hxd] at h1 h2
  refine ⟨gs.set k ⟨⟨x.d.id, x.d.size, x.d.free, x.d.late⟩, v1, v2⟩, ?_, ?_, ?_⟩
  · rw [List.map_set, e]
    apply List.ext_getElem?
    intro t
    rw [List.getElem?_set]
    by_cases et : k = t
    · subst et
      rw [if_pos rfl, if_pos hk, ← e, List.getElem?_map, hx]; rfl
    · rw [if_neg et]
  · rw [dflat_set2 gs k x v1 v2 _ _ hx]
    exact ((World.ownsRow.stored ho (k * 4 + 2) v1).1.stored (k * 4 + 3) v2).1
  · intro i y hy
    rw [List.getElem?_set] at hy
    by_cases ei : k = i
    · subst ei
      rw [if_pos rfl, if_pos (by omega)] at hy
      injection hy with hy
      subst hy
      exact ⟨fun _ => ⟨own_other h1 ho (by decide) hgb, own_other h2 ho (by decide) hgb⟩, fun h => by omega⟩
    · rw [if_neg ei] at hy
      exact ⟨fun h => ((hg i y hy).1 (by omega)).grown ho hgb, fun h => (hg i y hy).2 (by omega)⟩
theorem OpRow.fin {W w : World} {base g n cap k : Nat} {ds : List DevD} (h : OpRow W w base g n cap k ds) (hn : n = ds.length) (hk : n ≤ k) : OwnDevs w base (.slice (some ⟨g, 0, none⟩) n cap) ds := by
  obtain ⟨gs, e, ho, hg⟩ := h
  have hlen : gs.length = n := by rw [hn, ← e, List.length_map]
  refine ⟨gs, e, by rw [hlen]; exact ho, fun x hx => ?_⟩
  obtain ⟨i, hi, rfl⟩ := List.getElem_of_mem hx
  exact (hg i _ (List.getElem?_eq_getElem hi)).1 (by omega)
/-- a list of one's own while its segments are copied -/
def LstAt (W w : World) (base : Nat) (la : Option Addr) (lc k : Nat) (ds : List DevD) : Prop := (ds.length = 0 ∧ OwnDevs w base (.slice la ds.length lc) ds) ∨ ∃ g, la = some ⟨g, 0, none⟩ ∧ OpRow W w base g ds.length lc k ds
theorem LstAt.below {W w w' : World} {base : Nat} {la : Option Addr} {lc k : Nat} {ds : List DevD} (h : LstAt W w base la lc k ds) (hb : Below w.heap.size w w') : LstAt W w' base la lc k ds := by
  rcases h with ⟨h0, h⟩ | ⟨g, e, h⟩
  · exact .inl ⟨h0, h.below hb⟩
  · exact .inr ⟨g, e, h.below hb⟩
theorem clod_any (a : Option Addr) (ds : List DevD) (c : Nat) (w : World) (h : DevsAt w a ds) (hn : NilOk a c ds.length) (hl : ds.length ≤ 1000) :
    Calls Try.prog 56 #[.slice a ds.length c] w fun e w' => (∃ la lc, e = .returned (.slice la ds.length lc) ∧ LstAt w w' w.heap.size la lc 0 ds) ∧ Below w.heap.size w w' := by
  cases a with
  | none =>
    have h0 : ds = [] := by have := hn.2 rfl; have := hn.1; exact List.length_eq_zero_iff.1 (by omega)
    subst h0
    exact (clod_nil 0 c w).mono fun e w' ⟨h1, h2⟩ => ⟨⟨none, 0, h1, .inl ⟨rfl, ownD_nil _ _⟩⟩, by rw [h2]; exact nwR w⟩
  | some p =>
    by_cases h0 : ds = []
    · subst h0
      refine (clod_row p 0 c [] w rfl (by omega) (fun j u hj => by simp at hj) (fun u hu => by simp at hu)).mono ?_
      rintro e w' ⟨⟨v', rfl, ho⟩, hb⟩
      have hod : OwnDevs w' w.heap.size v' [] := ⟨[], rfl, ho, fun g hg => by simp at hg⟩
      obtain ⟨la, lc, rfl, _, _⟩ := id hod.at
      exact ⟨⟨la, lc, rfl, .inl ⟨rfl, hod⟩⟩, hb⟩
    · rcases h with h | ⟨b, o, e, hc⟩
      · exact absurd h h0
      · injection e with e
        subst e
        obtain ⟨gs, hg1, hg2, hg3⟩ := DevsAt.cells (ds := ds) (w := w) (b := b) (o := o) (.inr ⟨b, o, rfl, hc⟩)
        have hlen : gs.length = ds.length := by rw [← hg1, List.length_map]
        refine (clod_row _ ds.length c (dflat gs) w (by rw [dflat_len, hlen]) (by omega) hg2 (dflat_oneR hg3)).mono ?_
        rintro e w' ⟨⟨v', rfl, ho⟩, hb⟩
        rcases id ho.2 with ⟨_, h1⟩ | ⟨g, cap, cur, rfl, _⟩
        · exact absurd (List.length_eq_zero_iff.1 h1) h0
        · exact ⟨⟨_, cap, rfl, .inr ⟨g, rfl, gs, hg1, ho, fun i x hx => ⟨fun h => by omega, fun _ => hg3 x (List.mem_of_getElem? hx)⟩⟩⟩, hb⟩

/- the state while a block's cells are written -/
theorem cell_heap {w : World} {g o : Nat} {cs : Array Value} {t : TypeId} (h : w.heap[g]? = some (.cells cs t (0, 0))) : w.cell? ⟨g, o, none⟩ = cs[o]? := by
  simp [World.cell?, h]
structure StS (w0 w : World) (g : Nat) (I : Nat → Prop) (m : Nat) (ob : Obj) (wr : World) : Prop where
  low : Below w0.heap.size w0 wr
  gl : w0.heap.size ≤ g ∧ m ≠ g
  b0 : wr.heap[m]? = some ob
  bg : ∃ cs cs', w.heap[g]? = some (.cells cs 51 (0, 0)) ∧ wr.heap[g]? = some (.cells cs' 51 (0, 0)) ∧ cs'.size = cs.size ∧ ∀ o, ¬ I o → cs'[o]? = cs[o]?
theorem StS.below {w0 w : World} {g : Nat} {I : Nat → Prop} {m : Nat} {ob : Obj} {wr w' : World} (h : StS w0 w g I m ob wr) (hb : Below wr.heap.size wr w') : StS w0 w g I m ob w' := by
  obtain ⟨cs, cs', h1, h2, h3, h4⟩ := h.bg
  exact ⟨nwT h.low hb, h.gl, (hb.block _ (Array.getElem?_eq_some_iff.1 h.b0).1).trans h.b0, cs, cs', h1, (hb.block _ (Array.getElem?_eq_some_iff.1 h2).1).trans h2, h3, h4⟩
theorem StS.drew {w0 w : World} {g : Nat} {I : Nat → Prop} {m : Nat} {ob : Obj} {wr : World} (h : StS w0 w g I m ob wr) : StS w0 w g I m ob wr.drew := h.below (Below.drew (nwR wr))
theorem StS.set {w0 w : World} {g : Nat} {I : Nat → Prop} {m : Nat} {ob : Obj} {wr : World} (h : StS w0 w g I m ob wr) (i : Nat) (hi : I i) (v : Value) : StS w0 w g I m ob (wr.setCell ⟨g, i, none⟩ v) := by
  obtain ⟨cs, cs', h1, h2, h3, h4⟩ := h.bg
  refine ⟨h.low.setCell h.gl.1 _, h.gl, (Below.heap_setCell _ _ _ _ (by show m ≠ g; exact h.gl.2)).trans h.b0, cs, cs'.setIfInBounds i v, h1, heap_setCell_same wr g i cs' 51 v h2, by simp [h3], fun o ho => ?_⟩
  rw [← h4 o ho]
  have : i ≠ o := fun e => ho (e ▸ hi)
  simp [this]
theorem StS.cell {w0 w : World} {g : Nat} {I : Nat → Prop} {m : Nat} {ob : Obj} {wr : World} (h : StS w0 w g I m ob wr) {o : Nat} (ho : ¬ I o) : wr.cell? ⟨g, o, none⟩ = w.cell? ⟨g, o, none⟩ := by
  obtain ⟨cs, cs', h1, h2, h3, h4⟩ := h.bg
  rw [cell_heap h1, cell_heap h2, h4 o ho]
theorem StS.some {w0 w : World} {g : Nat} {I : Nat → Prop} {m : Nat} {ob : Obj} {wr : World} (h : StS w0 w g I m ob wr) {i : Nat} {u : Value} (hu : w.cell? ⟨g, i, none⟩ = Option.some u) : ∃ u', wr.cell? ⟨g, i, none⟩ = Option.some u' := by
  obtain ⟨cs, cs', h1, h2, h3, h4⟩ := h.bg
  rw [cell_heap h1] at hu
  have := (Array.getElem?_eq_some_iff.1 hu).1
  exact ⟨cs'[i]'(by omega), by rw [cell_heap h2]; exact Array.getElem?_eq_getElem _⟩
theorem StS.frz {w0 w : World} {g : Nat} {I : Nat → Prop} {m : Nat} {ob : Obj} {wr : World} (h : StS w0 w g I m ob wr) (o : Nat) : wr.frozen? ⟨g, o, none⟩ = false := by
  obtain ⟨cs, cs', h1, h2, h3, h4⟩ := h.bg
  exact Lib.frozen_of_heap h2 o
theorem stS_start {w0 w : World} {g : Nat} {I : Nat → Prop} {m : Nat} {ob : Obj} {cs : Array Value} (hl : Below w0.heap.size w0 w) (hg : w0.heap.size ≤ g) (hm : m ≠ g) (hb : w.heap[m]? = some ob) (hc : w.heap[g]? = some (.cells cs 51 (0, 0))) : StS w0 w g I m ob w := ⟨hl, ⟨hg, hm⟩, hb, cs, cs, hc, hc, rfl, fun _ _ => rfl⟩

end Go.Proofs.Ytheomnafmjmpdaa

/- The devices that a call acts on, by the program. -/
namespace Go.Proofs.Ytheomnafmjmpdaa
open Go.RowKit

/-- a copy of devices, and the group of them -/
structure StkAt (w : World) (base : Nat) (la ga : Option Addr) (lc gc G : Nat) (ds : List DevD) : Prop where
  list : OwnDevs w base (.slice la ds.length lc) ds
  at' : ds.length = 0 ∨ la = some ⟨G, 0, none⟩
  grp : OwnGrp w base (.slice ga ds.length gc) G 0 (List.range ds.length)
  bg : base ≤ G ∧ G < w.heap.size
def OpenR (ds : List DevD) (base : Nat) (e : Ending) (w' : World) : Prop :=
  (¬ DevsOk ds ∧ e = .returned (.tuple #[.agg #[.slice none 0 0, .slice none 0 0], .int .i64 1])) ∨ (DevsOk ds ∧ ∃ la lc ga gc G, e = .returned (.tuple #[.agg #[.slice ga ds.length gc, .slice la ds.length lc], .int .i64 0]) ∧ StkAt w' base la ga lc gc G ds)

set_option maxRecDepth 100000 in
set_option maxHeartbeats 4000000 in
theorem open_any (a : Option Addr) (ds : List DevD) (ca : Nat) (w : World) (hd : DevsAt w a ds) (hn : NilOk a ca ds.length) (hs : SmallL ds) :
    Calls Try.prog 35 #[.slice a ds.length ca] w fun e w' => OpenR ds w.heap.size e w' ∧ Below w.heap.size w w' := by
  obtain ⟨W0, hW0⟩ : ∃ W0, W0 = w.alloc (.cells #[.slice none 0 0, .slice none 0 0] 71) := ⟨_, rfl⟩
  have HB0 : Hid (Below w.heap.size w W0) := by rw [hW0]; exact nwA (nwR w) _
  have hx0 : W0.heap[w.heap.size]? = some (.cells #[.slice none 0 0, .slice none 0 0] 71 (0, 0)) := by rw [hW0]; exact heap_alloc_new w _
  have HX0 : Hid (∀ w', Below W0.heap.size W0 w' → w'.heap[w.heap.size]? = some (.cells #[.slice none 0 0, .slice none 0 0] 71 (0, 0))) := fun w' h => (h.block _ (Array.getElem?_eq_some_iff.1 hx0).1).trans hx0
  have HD : Hid (∀ w', Below W0.heap.size W0 w' → DevsAt w' a ds) := fun w' h => hd.below (nwT HB0.out h)
  have HN : Hid (NilOk a ca ds.length) := hn
  have HS : Hid (SmallL ds) := hs
  have hln := hs.1
  have hw0 : w.heap.size < W0.heap.size := (Array.getElem?_eq_some_iff.1 hx0).1
  clear hd hn hs hx0
  go_enter Try.func35, Try.ntmps35
  go_wp2_with fail
  rw [← hW0]
  clear hW0
  refine (rcheck_any a ds ca W0 (HD.out _ (nwR W0)) HS.out).mono ?_
  rintro e w1 ⟨⟨ok, hok, rfl⟩, hb1⟩
  have HOK : Hid (ok = true ↔ DevsOk ds) := hok
  have HB1 : Hid (Below W0.heap.size W0 w1) := hb1
  clear hok hb1
  cases ok
  case false =>
    have HNO : Hid (¬ DevsOk ds) := fun h => by have := HOK.out.2 h; cases this
    have hx1 := HX0.out _ HB1.out
    obtain ⟨r0, r1, rf⟩ := two hx1
    have e1 : errOf false = 1 := rfl
    rw [e1]
    go_wp2_with fail
    have hx2 := heap_setCell_same _ w.heap.size 1 _ 71 (.slice none 0 0) (heap_setCell_same _ w.heap.size 0 _ 71 (.slice none 0 0) hx1)
    simp at hx2
    obtain ⟨s0, s1, _⟩ := two hx2
    exact bodyPost_ret (v := .tuple #[.agg #[.slice none 0 0, .slice none 0 0], .int .i64 1]) (by simp [results, Try.results35, go_sem, s0, s1]) rfl ⟨.inl ⟨HNO.out, rfl⟩, ((nwT HB0.out HB1.out).setCell (Nat.le_refl _) _).setCell (Nat.le_refl _) _⟩
  case true =>
  have HYES : Hid (DevsOk ds) := HOK.out.1 rfl
  have e1 : errOf true = 0 := rfl
  rw [e1]
  clear HOK e1
  go_wp2_with fail
  refine (clod_any a ds ca w1 (HD.out _ HB1.out) HN.out hln).mono ?_
  rintro e w2 ⟨⟨la, lc, rfl, hls⟩, hb2⟩
  have HLS : Hid (LstAt w1 w2 w1.heap.size la lc 0 ds) := hls
  have HB2 : Hid (Below w1.heap.size w1 w2) := hb2
  clear hls hb2
  go_wp2_with fail
  go_loopw [18] (fun i wr => ∃ (k : Nat), k ≤ ds.length ∧ i = .int .i64 k ∧ Hid (LstAt w1 wr w1.heap.size la lc k ds) ∧ Hid (Below w1.heap.size w1 wr))
    (fun i _ => ds.length - (intOf i).toNat)
  case atStart => exact ⟨0, by omega, rfl, HLS, HB2⟩
  case round =>
    obtain ⟨k, hk, rfl, HLr, HBr⟩ := hrel
    by_cases hkl : k < ds.length
    · have hkli : (k : Int) < (ds.length : Int) := by omega
      have hk0 : (0 : Int) ≤ (k : Int) := by omega
      obtain ⟨g, rfl, hop⟩ : ∃ g, la = some ⟨g, 0, none⟩ ∧ OpRow w1 wr w1.heap.size g ds.length lc k ds := by
        rcases HLr.out with ⟨h, _⟩ | h
        · omega
        · exact h
      have HOP : Hid (OpRow w1 wr w1.heap.size g ds.length lc k ds) := hop
      obtain ⟨gs, hgs, hrow, hall⟩ := hop
      have hbg := (World.ownsRow.lt hrow g rfl).1
      obtain ⟨cs0, htag⟩ := own_tag hrow g rfl
      have hlen : gs.length = ds.length := by rw [← hgs, List.length_map]
      obtain ⟨x, hx⟩ : ∃ x, gs[k]? = some x := ⟨_, List.getElem?_eq_getElem (by omega)⟩
      have hxd : ds.getD k DZ = x.d := by rw [← hgs]; simp [List.getD, hx]
      obtain ⟨f0, f1, f2, f3⟩ := dflat_get gs k x hx
      have K : ∀ j u, (dflat gs)[j]? = some u → wr.cell? ⟨g, j, none⟩ = some u := fun j u hj => by
        have := World.ownsRow.cells hrow (g := g) rfl j u hj
        rwa [addr_add, Nat.zero_add] at this
      have c0 := K _ _ f0
      have c1 := K _ _ f1
      have c2 := K _ _ f2
      have c3 := K _ _ f3
      obtain ⟨af, cf, al, cl, ef, el, hsf, hsl⟩ := (hall k x hx).2 (Nat.le_refl _)
      rw [ef] at c2
      rw [el] at c3
      have HSD : Hid (SmallD x.d) := by show SmallD x.d; rw [← hxd]; exact HS.out.2 _ (getD_mem DZ hkl)
      have HCF : Hid (∀ w', Below w1.heap.size w1 w' → Calls Try.prog 57 #[.slice af x.d.free.length cf] w' fun e w'' => (∃ v, e = .returned v ∧ OwnSegs w'' w'.heap.size v (ds.getD k DZ).free) ∧ Below w'.heap.size w' w'') := fun w' h => by rw [hxd]; exact clos_any af cf x.d.free w' (hsf.below h) HSD.out.1
      have HCL : Hid (∀ w', Below w1.heap.size w1 w' → Calls Try.prog 57 #[.slice al x.d.late.length cl] w' fun e w'' => (∃ v, e = .returned v ∧ OwnSegs w'' w'.heap.size v (ds.getD k DZ).late) ∧ Below w'.heap.size w' w'') := fun w' h => by rw [hxd]; exact clos_any al cl x.d.late w' (hsl.below h) HSD.out.2
      clear hgs hrow hall hlen hx hxd f0 f1 f2 f3 K ef el hsf hsl HSD HLr
      obtain ⟨dk, hdk⟩ : ∃ dk, ds.getD k DZ = dk := ⟨_, rfl⟩
      rw [hdk] at HCF HCL
      have HDK : Hid (ds.getD k DZ = dk) := hdk
      clear hdk
      obtain ⟨xd, xf, xl⟩ := x
      simp only at c0 c1 c2 c3 HCF HCL
      obtain ⟨W2, hW2⟩ : ∃ W2, W2 = wr.alloc (.cells #[.int .i64 xd.id, .int .i64 xd.size, .slice af xd.free.length cf, .slice al xd.late.length cl] 51) := ⟨_, rfl⟩
      have hbr2 : Below wr.heap.size wr W2 := by rw [hW2]; exact nwA (nwR wr) _
      have hbx : W2.heap[wr.heap.size]? = some (.cells #[.int .i64 xd.id, .int .i64 xd.size, .slice af xd.free.length cf, .slice al xd.late.length cl] 51 (0, 0)) := by rw [hW2]; exact heap_alloc_new wr _
      have hgl : g < wr.heap.size := (Array.getElem?_eq_some_iff.1 htag).1
      have HOP2 : Hid (OpRow w1 W2 w1.heap.size g ds.length lc k ds) := HOP.out.below hbr2
      have htag2 : W2.heap[g]? = some (.cells cs0 51 (0, 0)) := (hbr2.block _ hgl).trans htag
      have hS : StS w1 W2 g (fun o => o = k * 4 + 2 ∨ o = k * 4 + 3) wr.heap.size (.cells #[.int .i64 xd.id, .int .i64 xd.size, .slice af xd.free.length cf, .slice al xd.late.length cl] 51 (0, 0)) W2 := stS_start (nwT HBr.out hbr2) hbg (by omega) hbx htag2
      have HB12 : Hid (Below w1.heap.size w1 W2) := nwT HBr.out hbr2
      have HGB : Hid (w1.heap.size ≤ g) := hbg
      have k2 : W2.cell? ⟨g, k * 4 + 2, none⟩ = some (.slice af xd.free.length cf) := (hbr2.cell (p := ⟨g, k * 4 + 2, none⟩) hgl).trans c2
      have k3 : W2.cell? ⟨g, k * 4 + 3, none⟩ = some (.slice al xd.late.length cl) := (hbr2.cell (p := ⟨g, k * 4 + 3, none⟩) hgl).trans c3
      go_upto_region 8 with fail
      rw [← hW2]
      clear hW2 c0 c1 c2 c3 htag htag2 hbx HOP hbg
      obtain ⟨ob, hob⟩ : ∃ ob : Obj, ob = (.cells #[.int .i64 xd.id, .int .i64 xd.size, .slice af xd.free.length cf, .slice al xd.late.length cl] 51 (0, 0)) := ⟨_, rfl⟩
      rw [← hob] at hS
      have HSL : Hid (∀ w', StS w1 W2 g (fun o => o = k * 4 + 2 ∨ o = k * 4 + 3) wr.heap.size ob w' → Below w1.heap.size w1 w') := fun w' h => h.low
      have z2 : ∀ w', StS w1 W2 g (fun o => o = k * 4 + 2 ∨ o = k * 4 + 3) wr.heap.size ob w' → w'.cell? ⟨wr.heap.size, 2, none⟩ = some (.slice af xd.free.length cf) := by rw [hob]; exact fun w' h => (four h.b0).2.2.1
      have z3 : ∀ w', StS w1 W2 g (fun o => o = k * 4 + 2 ∨ o = k * 4 + 3) wr.heap.size ob w' → w'.cell? ⟨wr.heap.size, 3, none⟩ = some (.slice al xd.late.length cl) := by rw [hob]; exact fun w' h => (four h.b0).2.2.2.1
      have y2 : ∀ w', StS w1 W2 g (fun o => o = k * 4 + 2 ∨ o = k * 4 + 3) wr.heap.size ob w' → ∃ u', w'.cell? ⟨g, k * 4 + 2, none⟩ = some u' := fun w' h => h.some k2
      have y3 : ∀ w', StS w1 W2 g (fun o => o = k * 4 + 2 ∨ o = k * 4 + 3) wr.heap.size ob w' → ∃ u', w'.cell? ⟨g, k * 4 + 3, none⟩ = some u' := fun w' h => h.some k3
      have yf : ∀ w', StS w1 W2 g (fun o => o = k * 4 + 2 ∨ o = k * 4 + 3) wr.heap.size ob w' → ∀ o, w'.frozen? ⟨g, o, none⟩ = false := fun w' h o => h.frz o
      clear k2 k3 hob
      go_region_held3 (fun w' => StS w1 W2 g (fun o => o = k * 4 + 2 ∨ o = k * 4 + 3) wr.heap.size ob w') (first | assumption | exact StS.drew (by assumption) | exact StS.below (by assumption) (by assumption) | exact StS.set (by assumption) _ (.inl rfl) _ | exact StS.set (by assumption) _ (.inr rfl) _) (first
        | (go_at_call 57; refine (HCF.out _ (HSL.out _ (by first | assumption | exact StS.drew (by assumption)))).mono ?_; rintro e wC ⟨⟨v1, rfl, ho1⟩, hbC⟩; obtain ⟨a1, c1, rfl, _⟩ := ho1.segV; have HU1 : Hid (Below W2.heap.size W2 wC) := (by first | exact hbC | exact nwT (Below.drew (nwR W2)) hbC); have HO1 : Hid (OwnSegs wC w1.heap.size (.slice a1 dk.free.length c1) dk.free) := own_le ho1 (Below.size (HSL.out _ (by first | assumption | exact StS.drew (by assumption)))))
        | (go_at_call 57; refine (HCL.out _ (HSL.out _ (by first | assumption | exact StS.drew (by assumption)))).mono ?_; rintro e wD ⟨⟨v2, rfl, ho2⟩, hbD⟩; obtain ⟨a2, c2, rfl, _⟩ := ho2.segV; have HU2 : Hid (Below wC.heap.size wC wD) := (by first | exact hbD | exact nwT (Below.drew (nwR wC)) hbD); have HO2 : Hid (OwnSegs wD w1.heap.size (.slice a2 dk.late.length c2) dk.late) := own_le ho2 (Below.size (HSL.out _ (by first | assumption | exact StS.drew (by assumption)))); have hSD : StS w1 W2 g (fun o => o = k * 4 + 2 ∨ o = k * 4 + 3) wr.heap.size ob wD := StS.below (by first | assumption | exact StS.drew (by assumption)) hbD; obtain ⟨yu2, yk2⟩ := y2 wD hSD; have ykf := yf wD hSD; obtain ⟨yu3, yk3⟩ := y3 _ (hSD.set (k * 4 + 2) (.inl rfl) (.slice a1 dk.free.length c1)); have ykf3 := yf _ (hSD.set (k * 4 + 2) (.inl rfl) (.slice a1 dk.free.length c1)))
        | fail)
      have HST : Hid (OpRow w1 ((wD.setCell ⟨g, k * 4 + 2, none⟩ (.slice a1 dk.free.length c1)).setCell ⟨g, k * 4 + 3, none⟩ (.slice a2 dk.late.length c2)) w1.heap.size g ds.length lc (k + 1) ds) :=
        OpRow.step (HOP2.out.below (nwT HU1.out HU2.out)) (by rw [HDK.out]; exact HO1.out.below HU2.out) (by rw [HDK.out]; exact HO2.out) hkl
      have HFB : Hid (Below w1.heap.size w1 ((wD.setCell ⟨g, k * 4 + 2, none⟩ (.slice a1 dk.free.length c1)).setCell ⟨g, k * 4 + 3, none⟩ (.slice a2 dk.late.length c2))) := ((nwT HB12.out (nwT HU1.out HU2.out)).setCell HGB.out _).setCell HGB.out _
      clear z2 z3 y2 y3 yf yk2 yk3 ykf ykf3 hSD ho1 ho2 hbC hbD hS
      go_wp2_with fail
      go_roundw
      case rel => exact ⟨k + 1, by omega, by go_num, .inr ⟨g, rfl, HST.out⟩, HFB⟩
      case measure => simp [intOf]; omega
    · have hkli : ¬ (k : Int) < (ds.length : Int) := by omega
      have hfin : OwnDevs wr w1.heap.size (.slice la ds.length lc) ds ∧ ∃ G, (ds.length = 0 ∨ la = some ⟨G, 0, none⟩) ∧ w.heap.size ≤ G ∧ G < wr.heap.size := by
        have hz1 := HB1.out.size
        have hz2 := HBr.out.size
        rcases HLr.out with ⟨h0, h⟩ | ⟨g, e, h⟩
        · exact ⟨h, w.heap.size, .inl h0, Nat.le_refl _, by omega⟩
        · subst e
          have hf := h.fin rfl (by omega)
          obtain ⟨gs, _, ho, _⟩ := id hf
          have hl := World.ownsRow.lt ho g rfl
          exact ⟨hf, g, .inr rfl, by omega, hl.2⟩
      obtain ⟨hown, G, hG, hbg⟩ := hfin
      have HBG : Hid (w.heap.size ≤ G ∧ G < wr.heap.size) := hbg
      have HOW : Hid (OwnDevs wr w.heap.size (.slice la ds.length lc) ds) := hown.le (nwT HB0.out HB1.out).size
      have HG : Hid (ds.length = 0 ∨ la = some ⟨G, 0, none⟩) := hG
      have HBW : Hid (Below W0.heap.size W0 wr) := nwT HB1.out HBr.out
      clear hown hG HLr
      go_wp2_with fail
      refine (groupOf_any la G 0 ds.length lc wr HG.out hln).mono ?_
      rintro e w3 ⟨⟨v, rfl, hv⟩, hb3⟩
      obtain ⟨ga, gc, e, _, _⟩ := id hv.at
      rw [List.length_range] at e
      subst e
      have hx3 := HX0.out _ (nwT HBW.out hb3)
      obtain ⟨r0, r1, rf⟩ := two hx3
      have HB3 : Hid (Below w.heap.size w w3) := nwT HB0.out (nwT HBW.out hb3)
      have HSK : Hid (StkAt ((w3.setCell ⟨w.heap.size, 0, none⟩ (.slice ga ds.length gc)).setCell ⟨w.heap.size, 1, none⟩ (.slice la ds.length lc)) w.heap.size la ga lc gc G ds) := by
        have ht : (71 : TypeId) ≠ 51 := by decide
        have ht2 : (71 : TypeId) ≠ 78 := by decide
        have ht3 : (71 : TypeId) ≠ 67 := by decide
        have hx4 : (w3.setCell ⟨w.heap.size, 0, none⟩ (.slice ga ds.length gc)).heap[w.heap.size]? = some (.cells #[.slice ga ds.length gc, .slice none 0 0] 71 (0, 0)) := by
          have := heap_setCell_same _ w.heap.size 0 _ 71 (.slice ga ds.length gc) hx3
          simpa using this
        have haside : ∀ {B : Nat} {e : TypeId} {s : Nat} {v : Value} {n : Nat} {xs : List Value}, w3.ownsRow B e s v n xs → (71 : TypeId) ≠ e → ((w3.setCell ⟨w.heap.size, 0, none⟩ (.slice ga ds.length gc)).setCell ⟨w.heap.size, 1, none⟩ (.slice la ds.length lc)).ownsRow B e s v n xs := fun h ht => own_aside (own_aside h hx3 ht 0 _) hx4 ht 1 _
        obtain ⟨gs, e, ho, ha⟩ := HOW.out.below hb3
        exact ⟨⟨gs, e, haside ho ht, fun x hx => ⟨haside (ha x hx).1 ht3, haside (ha x hx).2 ht3⟩⟩, HG.out, haside (own_le hv (Nat.le_trans (Nat.le_of_lt hw0) HBW.out.size)) ht2, HBG.out.1, by simp; have := HBG.out.2; have := hb3.size; omega⟩
      clear hv hb3
      go_wp2_with fail
      have hx5 := heap_setCell_same _ w.heap.size 1 _ 71 (.slice la ds.length lc) (heap_setCell_same _ w.heap.size 0 _ 71 (.slice ga ds.length gc) hx3)
      simp at hx5
      obtain ⟨s0, s1, _⟩ := two hx5
      exact bodyPost_ret (v := .tuple #[.agg #[.slice ga ds.length gc, .slice la ds.length lc], .int .i64 0]) (by simp [results, Try.results35, go_sem, s0, s1]) rfl ⟨.inr ⟨HYES.out, la, lc, ga, gc, G, rfl, HSK.out⟩, (HB3.out.setCell (Nat.le_refl _) _).setCell (Nat.le_refl _) _⟩

end Go.Proofs.Ytheomnafmjmpdaa

/- Count and Used, by the program. -/
namespace Go.Proofs.Ytheomnafmjmpdaa
open Go.RowKit

theorem DevsOk.allV {ds : List DevD} (h : DevsOk ds) : AllV ds := fun _ hk => (h.2 _ hk).2.free
theorem DevsAt.at0 {w : World} {b : Nat} {ds : List DevD} (h : DevsAt w (some ⟨b, 0, none⟩) ds) {i : Nat} (hi : i < ds.length) : DevIn w b (i * 4) (ds.getD i DZ) := by
  have := h.at hi
  rwa [Nat.zero_add] at this
def cntN (ds : List DevD) (id : Int) : Int := cntK ds (restK ds id (List.range ds.length))
theorem range_lt (n : Nat) : ∀ k ∈ List.range n, k < n := fun _ hk => List.mem_range.1 hk
theorem restK_len (ds : List DevD) (id : Int) (ks : List Nat) : (restK ds id ks).length ≤ ks.length := List.length_filter_le _ _
theorem StkAt.devs {w : World} {base : Nat} {la ga : Option Addr} {lc gc G : Nat} {ds : List DevD} (h : StkAt w base la ga lc gc G ds) : DevsAt w (some ⟨G, 0, none⟩) ds := by
  obtain ⟨a, c, e, hd, _⟩ := h.list.at
  injection e with e1 _ _
  subst e1
  rcases h.at' with h0 | h0
  · have : ds = [] := List.length_eq_zero_iff.1 h0
    subst this; exact .inl rfl
  · rw [h0] at hd; exact hd
theorem StkAt.grpAt {w : World} {base : Nat} {la ga : Option Addr} {lc gc G : Nat} {ds : List DevD} (h : StkAt w base la ga lc gc G ds) : GrpAt w ga G 0 (List.range ds.length) ∧ NilOk ga gc (List.range ds.length).length := by
  obtain ⟨a, c, e, hg, hn⟩ := h.grp.at
  rw [List.length_range] at e
  injection e with e1 _ e3
  subst e1
  subst e3
  exact ⟨hg, hn⟩
theorem StkAt.below {w w' : World} {base : Nat} {la ga : Option Addr} {lc gc G : Nat} {ds : List DevD} (h : StkAt w base la ga lc gc G ds) (hb : Below w.heap.size w w') : StkAt w' base la ga lc gc G ds := ⟨h.list.below hb, h.at', own_below h.grp hb, h.bg.1, Nat.lt_of_lt_of_le h.bg.2 hb.size⟩
theorem StkAt.le {w : World} {base base' : Nat} {la ga : Option Addr} {lc gc G : Nat} {ds : List DevD} (h : StkAt w base la ga lc gc G ds) (hb : base' ≤ base) : StkAt w base' la ga lc gc G ds := ⟨h.list.le hb, h.at', own_le h.grp hb, Nat.le_trans hb h.bg.1, h.bg.2⟩

def CountR (ds : List DevD) (id : Int) (e : Ending) : Prop := (¬ DevsOk ds ∧ e = .returned (.tuple #[.int .i64 0, .int .i64 1])) ∨ (DevsOk ds ∧ e = .returned (.tuple #[.int .i64 (cntN ds id), .int .i64 0]))
set_option maxRecDepth 100000 in
set_option maxHeartbeats 2000000 in
theorem count_dev (a : Option Addr) (ds : List DevD) (ca : Nat) (id : Int) (w : World) (hd : DevsAt w a ds) (hn : NilOk a ca ds.length) (hs : SmallL ds) :
    Calls Try.prog 13 #[.slice a ds.length ca, .int .i64 id] w fun e w' => CountR ds id e ∧ Below w.heap.size w w' := by
  have HS : Hid (SmallL ds) := hs
  have HO : Hid (Calls Try.prog 35 #[.slice a ds.length ca] w fun e w' => OpenR ds w.heap.size e w' ∧ Below w.heap.size w w') := open_any a ds ca w hd hn hs
  have hln := hs.1
  clear hd hn hs
  go_enter Try.func13, Try.ntmps13
  go_wp2_with fail
  refine HO.out.mono ?_
  rintro e w1 ⟨ho, hb1⟩
  have HB1 : Hid (Below w.heap.size w w1) := hb1
  clear HO hb1
  rcases ho with ⟨hno, rfl⟩ | ⟨hok, la, lc, ga, gc, G, rfl, hst⟩
  · have HQ : Hid (CountR ds id (.returned (.tuple #[.int .i64 0, .int .i64 1]))) := .inl ⟨hno, rfl⟩
    clear hno
    go_wp2_with fail
    go_ret2
    exact ⟨HQ.out, nwA HB1.out _⟩
  · have HOK : Hid (DevsOk ds) := hok
    obtain ⟨W2, hW2⟩ : ∃ W2, W2 = w1.alloc (.cells #[.slice ga ds.length gc, .slice la ds.length lc] 71) := ⟨_, rfl⟩
    have hb12 : Below w1.heap.size w1 W2 := by rw [hW2]; exact nwA (nwR w1) _
    have hx2 : W2.heap[w1.heap.size]? = some (.cells #[.slice ga ds.length gc, .slice la ds.length lc] 71 (0, 0)) := by rw [hW2]; exact heap_alloc_new w1 _
    have hst2 := hst.below hb12
    have HG : Hid (GrpAt W2 ga G 0 (List.range ds.length) ∧ NilOk ga gc (List.range ds.length).length) := hst2.grpAt
    have HD : Hid (∀ w', Below W2.heap.size W2 w' → DevsAt w' (some ⟨G, 0, none⟩) ds) := fun w' h => hst2.devs.below h
    have HB2 : Hid (Below w.heap.size w W2) := nwT HB1.out hb12
    have HBS : Hid (Calls Try.prog 37 #[.slice ga ds.length gc, .int .i64 id] W2 fun e w' => (∃ v, e = .returned v ∧ OwnGrp w' W2.heap.size v G 0 (restK ds id (List.range ds.length))) ∧ Below W2.heap.size W2 w') := by
      have h := besides_any ga gc G 0 (List.range ds.length) id ds W2 HG.out.1 HG.out.2 (HD.out _ (nwR W2)) (range_lt _) (by rw [List.length_range]; omega)
      rw [List.length_range] at h
      exact h
    obtain ⟨x0, x1, _⟩ := two hx2
    rw [hW2] at x0 x1
    clear hok hst hst2 hb12 hx2
    go_wp2_with fail
    rw [← hW2]
    clear hW2 x0 x1
    refine HBS.out.mono ?_
    rintro e w3 ⟨⟨v, rfl, hv⟩, hb3⟩
    obtain ⟨ra, rc, rfl, hrg, _⟩ := hv.at
    have HF : Hid (Calls Try.prog 38 #[.slice ra (restK ds id (List.range ds.length)).length rc] w3 fun e w' => e = .returned (.int .i64 (cntN ds id)) ∧ Below w3.heap.size w3 w') :=
      gfree_any ra rc G 0 _ ds w3 hrg (HD.out _ hb3) (restK_sub (range_lt _)) (Nat.le_trans (restK_len _ _ _) (by rw [List.length_range]; omega)) HS.out HOK.out.allV
    have HB3 : Hid (Below w.heap.size w w3) := nwT HB2.out hb3
    clear hv hrg hb3 HBS
    generalize (restK ds id (List.range ds.length)).length = rn at *
    go_wp2_with fail
    refine HF.out.mono ?_
    rintro e w4 ⟨rfl, hb4⟩
    have HB4 : Hid (Below w.heap.size w w4) := nwT HB3.out hb4
    clear hb4
    go_wp2_with fail
    go_ret2
    exact ⟨.inr ⟨HOK.out, rfl⟩, HB4.out⟩

def usedD (d : DevD) : Int := d.size - cntOf d.free - cntOf d.late
def UsedR (ds : List DevD) (id : Int) (e : Ending) : Prop := (¬ DevsOk ds ∧ e = .returned (.tuple #[.int .i64 0, .int .i64 1])) ∨ (DevsOk ds ∧ atD ds id = none ∧ e = .returned (.tuple #[.int .i64 0, .int .i64 3])) ∨ (∃ k, DevsOk ds ∧ atD ds id = some k ∧ e = .returned (.tuple #[.int .i64 (usedD (ds.getD k DZ)), .int .i64 0]))
set_option maxRecDepth 100000 in
set_option maxHeartbeats 2000000 in
theorem used_dev (a : Option Addr) (ds : List DevD) (ca : Nat) (id : Int) (w : World) (hd : DevsAt w a ds) (hn : NilOk a ca ds.length) (hs : SmallL ds) :
    Calls Try.prog 29 #[.slice a ds.length ca, .int .i64 id] w fun e w' => UsedR ds id e ∧ Below w.heap.size w w' := by
  have HS : Hid (SmallL ds) := hs
  have HO : Hid (Calls Try.prog 35 #[.slice a ds.length ca] w fun e w' => OpenR ds w.heap.size e w' ∧ Below w.heap.size w w') := open_any a ds ca w hd hn hs
  have hln := hs.1
  clear hd hn hs
  go_enter Try.func29, Try.ntmps29
  go_wp2_with fail
  refine HO.out.mono ?_
  rintro e w1 ⟨ho, hb1⟩
  have HB1 : Hid (Below w.heap.size w w1) := hb1
  clear HO hb1
  rcases ho with ⟨hno, rfl⟩ | ⟨hok, la, lc, ga, gc, G, rfl, hst⟩
  · have HQ : Hid (UsedR ds id (.returned (.tuple #[.int .i64 0, .int .i64 1]))) := .inl ⟨hno, rfl⟩
    clear hno
    go_wp2_with fail
    go_ret2
    exact ⟨HQ.out, nwA HB1.out _⟩
  · have HOK : Hid (DevsOk ds) := hok
    obtain ⟨W2, hW2⟩ : ∃ W2, W2 = w1.alloc (.cells #[.slice ga ds.length gc, .slice la ds.length lc] 71) := ⟨_, rfl⟩
    have hb12 : Below w1.heap.size w1 W2 := by rw [hW2]; exact nwA (nwR w1) _
    have hx2 : W2.heap[w1.heap.size]? = some (.cells #[.slice ga ds.length gc, .slice la ds.length lc] 71 (0, 0)) := by rw [hW2]; exact heap_alloc_new w1 _
    have hst2 := hst.below hb12
    have HD : Hid (∀ w', Below W2.heap.size W2 w' → DevsAt w' (some ⟨G, 0, none⟩) ds) := fun w' h => hst2.devs.below h
    have HB2 : Hid (Below w.heap.size w W2) := nwT HB1.out hb12
    have HFI : Hid (Calls Try.prog 51 #[.slice ga ds.length gc, .int .i64 id] W2 fun e w' => e = .returned (.tuple #[ptrO G 0 (atD ds id), .bool (atD ds id).isSome]) ∧ Below W2.heap.size W2 w') := gfind_any ga gc G 0 id ds W2 hst2.grpAt.1 hst2.devs hln
    obtain ⟨x0, x1, _⟩ := two hx2
    rw [hW2] at x0 x1
    clear hok hst hst2 hb12 hx2
    go_wp2_with fail
    rw [← hW2]
    clear hW2 x0 x1
    refine HFI.out.mono ?_
    rintro e w3 ⟨rfl, hb3⟩
    have HB3 : Hid (Below w.heap.size w w3) := nwT HB2.out hb3
    have HBF : Hid (Below W2.heap.size W2 w3) := hb3
    clear hb3 HFI
    cases hat : atD ds id
    case none =>
      have HQ : Hid (UsedR ds id (.returned (.tuple #[.int .i64 0, .int .i64 3]))) := .inr (.inl ⟨HOK.out, hat, rfl⟩)
      have e0 : ptrO G 0 none = .agg #[.pointer none] := rfl
      have e1 : (none : Option Nat).isSome = false := rfl
      rw [e0, e1]
      clear hat e0 e1
      go_wp2_with fail
      go_ret2
      exact ⟨HQ.out, nwA HB3.out _⟩
    case some k =>
      have hkl := atD_lt hat
      have HQ : Hid (UsedR ds id (.returned (.tuple #[.int .i64 (usedD (ds.getD k DZ)), .int .i64 0]))) := .inr (.inr ⟨k, HOK.out, hat, rfl⟩)
      have e0 : ptrO G 0 (some k) = .agg #[.pointer (some ⟨G, k * 4, none⟩)] := by simp [ptrO, ptrD]
      have e1 : (some k).isSome = true := rfl
      have HU : Hid (∀ w', Below w3.heap.size w3 w' → Calls Try.prog 52 #[.agg #[.pointer (some ⟨G, k * 4, none⟩)]] w' fun e w'' => e = .returned (.int .i64 (usedD (ds.getD k DZ))) ∧ Below w'.heap.size w' w'') := fun w' h =>
        dused_any G (k * 4) (ds.getD k DZ) w' ((HD.out _ (nwT HBF.out h)).at0 hkl) (HS.out.2 _ (getD_mem DZ hkl)) (HOK.out.2 k hkl).2
      obtain ⟨ux, hux⟩ : ∃ ux, usedD (ds.getD k DZ) = ux := ⟨_, rfl⟩
      rw [hux] at HQ HU
      rw [e0, e1]
      obtain ⟨W4, hW4⟩ : ∃ W4, W4 = w3.alloc (.cells #[.pointer (some ⟨G, k * 4, none⟩)] 78) := ⟨_, rfl⟩
      have hb34 : Below w3.heap.size w3 W4 := by rw [hW4]; exact nwA (nwR w3) _
      obtain ⟨x0, _⟩ := one (show W4.heap[w3.heap.size]? = some (.cells #[.pointer (some ⟨G, k * 4, none⟩)] 78 (0, 0)) by rw [hW4]; exact heap_alloc_new w3 _)
      have HU4 : Hid (Calls Try.prog 52 #[.agg #[.pointer (some ⟨G, k * 4, none⟩)]] W4 fun e w'' => e = .returned (.int .i64 ux) ∧ Below W4.heap.size W4 w'') := HU.out _ hb34
      have HB4 : Hid (Below w.heap.size w W4) := nwT HB3.out hb34
      rw [hW4] at x0
      clear hat e0 e1 hux hb34 HU
      go_wp2_with fail
      rw [← hW4]
      clear hW4 x0
      refine HU4.out.mono ?_
      rintro e w5 ⟨rfl, hb5⟩
      have HB5 : Hid (Below w.heap.size w w5) := nwT HB4.out hb5
      clear hb5
      go_wp2_with fail
      go_ret2
      exact ⟨HQ.out, HB5.out⟩

end Go.Proofs.Ytheomnafmjmpdaa
