/- Laid together: Delf, Dropw, Takew, Change, Make. -/
import Derived.Test.YtdpighcaieajjabGreatTreesM15
/- One file less in a volume, by the program. -/
namespace Go.Proofs.YtdpighcaieajjabGreat
open Go.RowKit Go.Sort

set_option maxRecDepth 100000 in
set_option maxHeartbeats 1000000 in
theorem take1_any (v : Value) (f : FileD) (id : Int) (B : Nat) (w : World) (hv : FileVal w v f) (hc : w.cell? ⟨B, 0, none⟩ = some (.int .i64 id)) :
    Calls Tryz.prog 94 #[v, .pointer (some ⟨B, 0, none⟩)] w fun e w' => e = .returned (.bool (f.id == id)) ∧ Below w.heap.size w w' := by
  obtain ⟨ab, cb, al, cl, rfl, _⟩ := hv
  obtain ⟨fid, fdir, fsize, fbl, fli⟩ := f
  simp only [fcells]
  have hB := block_lt_of_cell hc
  simp only at hB
  go_enter Tryz.func94, Tryz.ntmps94
  go_wp2_with fail
  go_ret
  exact ⟨rfl, nwA (nwR w) _⟩

set_option maxRecDepth 100000 in
set_option maxHeartbeats 1000000 in
theorem idxg_any (a : Option Addr) (fs : List FileD) (ca : Nat) (id : Int) (B : Nat) (w : World) (hv : FilesAt w a fs) (hl : fs.length ≤ 100000) (hc : w.cell? ⟨B, 0, none⟩ = some (.int .i64 id)) :
    Calls Tryz.prog 112 #[.slice a fs.length ca, .func (.func 94) #[] #[.pointer (some ⟨B, 0, none⟩)]] w fun e w' => e = .returned (.int .i64 (optI (atI fs id))) ∧ Below w.heap.size w w' := by
  have HF : Hid (FilesAt w a fs) := hv
  have HC : Hid (w.cell? ⟨B, 0, none⟩ = some (.int .i64 id)) := hc
  clear hv hc
  go_enter Tryz.func112, Tryz.ntmps112
  go_wp2_with fail
  go_loopw [8] (fun i wr => ∃ (k : Nat), k ≤ fs.length ∧ i = .int .i64 k ∧ Below w.heap.size w wr ∧ Hid (∀ j, j < k → ((fs.getD j f0).id == id) = false))
    (fun i _ => fs.length - (intOf i).toNat)
  case atStart => exact ⟨0, by omega, rfl, nwR w, fun j hj => by omega⟩
  case round =>
    obtain ⟨k, hk, rfl, hb, HE⟩ := hrel
    by_cases hlt : k < fs.length
    · obtain ⟨b1, o1, rfl, hf⟩ := (HF.out.below hb).file hlt
      obtain ⟨ab, cb, al, cl, ⟨c0, c1, c2, c3, c4⟩, hib, hil⟩ := hf
      have hlti : (k : Int) < (fs.length : Int) := by omega
      have HV : Hid (FileVal wr (.agg #[.int .i64 (fs.getD k f0).id, .bool (fs.getD k f0).dir, .int .i64 (fs.getD k f0).size, .slice ab (fs.getD k f0).blocks.length cb, .slice al (fs.getD k f0).list.length cl]) (fs.getD k f0)) := ⟨ab, cb, al, cl, rfl, hib, hil⟩
      have HCW : Hid (wr.cell? ⟨B, 0, none⟩ = some (.int .i64 id)) := (hb.cell (p := ⟨B, 0, none⟩) (block_lt_of_cell HC.out)).trans HC.out
      clear hib hil
      have HK : Hid (((fs.getD k f0).id == id) = false → ∀ j, j < k + 1 → ((fs.getD j f0).id == id) = false) := fun h j hj => by
        by_cases e : j = k
        · subst e; exact h
        · exact HE.out j (by omega)
      have HY : Hid (((fs.getD k f0).id == id) = true → atI fs id = some k) := fun h => find_yes f0 hlt h (fun j hj => HE.out j hj)
      generalize fs.getD k f0 = f at c0 c1 c2 c3 c4 HV HK HY
      go_wp2_with fail
      refine (take1_any _ f id B _ HV.out HCW.out).mono ?_
      rintro e w2 ⟨rfl, hb2⟩
      have hbb := nwT hb hb2
      cases he : (f.id == id)
      · have HN := HK.out he
        go_wp2_with fail
        go_roundw
        case rel => exact ⟨k + 1, by omega, by go_num, hbb, HN⟩
        case measure => simp [intOf]; omega
      · have HR : Hid (atI fs id = some k) := HY.out he
        go_wp2_with fail
        go_ret
        exact ⟨ret_int (by rw [HR.out]; rfl), hbb⟩
    · have hlti : ¬ (k : Int) < (fs.length : Int) := by omega
      have HY : Hid (atI fs id = none) := find_no f0 (fun j hj => HE.out j (by omega))
      go_wp2_with fail
      go_ret
      exact ⟨ret_int (by rw [HY.out]; rfl), hb⟩

def RowF (w : World) (base g n cap : Nat) (gs : List FV) : Prop := w.ownsRow base 59 5 (.slice (some ⟨g, 0, none⟩) n cap) n (fflat gs)
theorem RowF.cellAt {w : World} {base g n cap : Nat} {gs : List FV} (h : RowF w base g n cap gs) {i : Nat} {x : FV} (hx : gs[i]? = some x) : w.cell? ⟨g, i * 5, none⟩ = some (.int .i64 x.d.id) ∧ w.cell? ⟨g, i * 5 + 1, none⟩ = some (.bool x.d.dir) ∧ w.cell? ⟨g, i * 5 + 2, none⟩ = some (.int .i64 x.d.size) ∧ w.cell? ⟨g, i * 5 + 3, none⟩ = some x.bv ∧ w.cell? ⟨g, i * 5 + 4, none⟩ = some x.lv := by
  obtain ⟨c0, c1, c2, c3, c4⟩ := fflat_get gs i x hx
  have K : ∀ j u, (fflat gs)[j]? = some u → w.cell? ⟨g, j, none⟩ = some u := fun j u hj => by
    have := World.ownsRow.cells h (g := g) rfl j u hj
    rwa [Addr.add_lit, Nat.zero_add] at this
  exact ⟨K _ _ c0, K _ _ c1, K _ _ c2, K _ _ c3, K _ _ c4⟩
theorem RowF.setAt {w : World} {base g n cap : Nat} {gs : List FV} (h : RowF w base g n cap gs) {i : Nat} (x : FV) (hi : i < gs.length) : RowF (((((w.setCell ⟨g, i * 5, none⟩ (.int .i64 x.d.id)).setCell ⟨g, i * 5 + 1, none⟩ (.bool x.d.dir)).setCell ⟨g, i * 5 + 2, none⟩ (.int .i64 x.d.size)).setCell ⟨g, i * 5 + 3, none⟩ x.bv).setCell ⟨g, i * 5 + 4, none⟩ x.lv) base g n cap (gs.set i x) := by
  have h1 := (World.ownsRow.stored h (i * 5) (.int .i64 x.d.id)).1
  have h2 := (h1.stored (i * 5 + 1) (.bool x.d.dir)).1
  have h3 := (h2.stored (i * 5 + 2) (.int .i64 x.d.size)).1
  have h4 := (h3.stored (i * 5 + 3) x.bv).1
  have h5 := (h4.stored (i * 5 + 4) x.lv).1
  unfold RowF
  rw [fflat_set5 gs i x hi]
  exact h5
theorem lessF_map (gs : List FV) (k : Nat) : (gs.take k ++ gs.drop (k + 1)).map FV.d = lessF (gs.map FV.d) k := by simp [lessF]
theorem Apart.less {gs : List FV} (h : Apart gs) (k : Nat) : Apart (gs.take k ++ gs.drop (k + 1)) := by
  have key : ∀ (i : Nat) (a : FV), (gs.take k ++ gs.drop (k + 1))[i]? = some a → ∃ i', gs[i']? = some a ∧ i ≤ i' ∧ (i' = if i < k then i else i + 1) := by
    intro i a ha
    by_cases hk : k ≤ gs.length
    · have h1 : (gs.take k).length = k := by simp; omega
      by_cases hi : i < k
      · rw [List.getElem?_append_left (by omega), List.getElem?_take, if_pos hi] at ha
        exact ⟨i, ha, Nat.le_refl _, by rw [if_pos hi]⟩
      · rw [List.getElem?_append_right (by omega), h1, List.getElem?_drop] at ha
        exact ⟨i + 1, by rw [← ha]; congr 1; omega, by omega, by rw [if_neg hi]⟩
    · rw [List.take_of_length_le (by omega), List.drop_eq_nil_of_le (by omega), List.append_nil] at ha
      have hi := (List.getElem?_eq_some_iff.1 ha).1
      exact ⟨i, ha, Nat.le_refl _, by rw [if_pos (by omega)]⟩
  intro i j hij a b ha hb
  obtain ⟨i', h1, _, e1⟩ := key i a ha
  obtain ⟨j', h2, _, e2⟩ := key j b hb
  refine h i' j' ?_ a b h1 h2
  rw [e1, e2]
  split <;> split <;> omega

set_option maxRecDepth 100000 in
set_option maxHeartbeats 4000000 in
theorem delF_any (base g cap k B : Nat) (fs : List FileD) (id : Int) (w : World) (hX : OwnFilesX w base (.slice (some ⟨g, 0, none⟩) fs.length cap) fs) (hl : fs.length ≤ 100000) (hk : atI fs id = some k) (hu : ∀ j, k < j → j < fs.length → ((fs.getD j f0).id == id) = false) (hB : w.heap[B]? = some (.cells #[.int .i64 id] 3 (0, 0))) :
    Calls Tryz.prog 93 #[.slice (some ⟨g, 0, none⟩) fs.length cap, .func (.func 94) #[] #[.pointer (some ⟨B, 0, none⟩)]] w fun e w' => e = .returned (.slice (some ⟨g, 0, none⟩) (fs.length - 1) cap) ∧ OwnFilesX w' base (.slice (some ⟨g, 0, none⟩) (fs.length - 1) cap) (lessF fs k) ∧ w.grownBy w' (some g) := by
  have hkl := atI_lt hk
  have HIX : Hid (Calls Tryz.prog 112 #[.slice (some ⟨g, 0, none⟩) fs.length cap, .func (.func 94) #[] #[.pointer (some ⟨B, 0, none⟩)]] w fun e w' => e = .returned (.int .i64 (k : Int)) ∧ Below w.heap.size w w') := by
    obtain ⟨a, c, e, hat, _⟩ := hX.plain.at
    simp only [Value.slice.injEq, true_and] at e
    obtain ⟨rfl, rfl⟩ := e
    exact (idxg_any _ fs cap id B w hat hl (one_cell hB).1).mono fun e w' ⟨h1, h2⟩ => ⟨by rw [h1, hk]; rfl, h2⟩
  obtain ⟨gs, hd, hrow0, hown, hap⟩ := hX
  have hlen : gs.length = fs.length := by rw [← hd, List.length_map]
  have HU : Hid (∀ j, k < j → ∀ x, gs[j]? = some x → (x.d.id == id) = false) := fun j h1 x hx => by
    have hj := (List.getElem?_eq_some_iff.1 hx).1
    have := hu j h1 (by omega)
    rw [← hd] at this
    simpa [List.getD, hx] using this
  have HO : Hid (RowF w base g fs.length cap gs) := by show RowF _ _ _ _ _ _; unfold RowF; rw [hlen] at hrow0; exact hrow0
  have HOW : Hid (∀ w', w.grownBy w' (some g) → ∀ x ∈ gs, OwnFV w' base x) := fun w' h x hx => (hown x hx).grown hrow0 h
  have HAP : Hid (Apart (gs.take k ++ gs.drop (k + 1))) := hap.less k
  have HLS : Hid ((gs.take k ++ gs.drop (k + 1)).map FV.d = lessF fs k) := by show _ = _; rw [lessF_map, hd]
  have hcap : fs.length ≤ cap := by
    rcases hrow0.2 with ⟨h1, _⟩ | ⟨g', cap', cur, h1, _, _, h4, _⟩
    · simp at h1
    · simp only [Value.slice.injEq] at h1; omega
  have hne : B ≠ g := by
    intro e; subst e
    obtain ⟨cs, h1⟩ := own_tag hrow0 B rfl
    rw [h1] at hB
    simp at hB
  have HBC : Hid (w.heap[B]? = some (.cells #[.int .i64 id] 3 (0, 0))) := hB
  clear hk hu hB hrow0 hown hap hd
  have hk1 : ((k : Int) == -1) = false := beq_eq_false_iff_ne.2 (by omega)
  generalize fs.length = n at *
  go_enter Tryz.func93, Tryz.ntmps93
  go_wp2_with fail
  refine HIX.out.mono ?_
  rintro e w1 ⟨rfl, hb1⟩
  have HO1 : Hid (RowF w1 base g n cap gs) := own_below HO.out hb1
  have HG1 : Hid (w.grownBy w1 (some g)) := gbOf hb1 _
  clear hb1 HIX
  have HLN : Hid (gs.length = n) := hlen
  have hln1 : gs.length ≤ n := by omega
  have hln2 : n ≤ gs.length := by omega
  clear hlen
  go_wp2_with fail
  go_loopw [5, 6] (fun s5 s6 wr => ∃ (m j : Nat), s5 = .int .i64 m ∧ s6 = .int .i64 j ∧ Hid (j = m + 1) ∧ k ≤ m ∧ j ≤ n ∧ Hid (RowF wr base g n cap (shl gs k m)) ∧ Hid (w.grownBy wr (some g)))
    (fun _ s6 _ => n - (intOf s6).toNat)
  case atStart => exact ⟨k, k + 1, rfl, by go_num, (show Hid _ from rfl), Nat.le_refl _, by omega, by rw [shl_self]; exact HO1, HG1⟩
  case round =>
    obtain ⟨m, j, rfl, rfl, HJ, hkm, hjl, HOr, HGr⟩ := hrel
    have hj1 : j ≤ m + 1 := by have := HJ.out; omega
    have hj2 : m < j := by have := HJ.out; omega
    have HBr : Hid (wr.heap[B]? = some (.cells #[.int .i64 id] 3 (0, 0))) := (HGr.out.block _ (Array.getElem?_eq_some_iff.1 HBC.out).1 (by simpa using hne)).trans HBC.out
    have HSL : Hid ((shl gs k m).length = n) := by have := shl_len gs hkm (by omega : m < gs.length); show _ = _; omega
    by_cases hjn : j < n
    · have hjni : (j : Int) < (n : Int) := by omega
      have hmni : (m : Int) < (n : Int) := by omega
      obtain ⟨x, hx⟩ : ∃ x, gs[j]? = some x := ⟨_, List.getElem?_eq_getElem (by omega)⟩
      have hxs : (shl gs k m)[j]? = some x := by rw [shl_get gs hkm (by omega), if_neg (by omega), if_neg (by omega), hx]
      obtain ⟨c0, c1, c2, c3, c4⟩ := HOr.out.cellAt hxs
      have hxn := HU.out j (by omega) x hx
      have hox := HOW.out wr HGr.out x (List.mem_of_getElem? hx)
      have HFX : Hid (OwnFV wr base x) := hox
      have HSET : Hid ((shl gs k m).set m x = shl gs k (m + 1)) := shl_set gs hkm (by omega) (by rw [← HJ.out]; exact hx)
      have HJ2 : Hid (j + 1 = m + 1 + 1) := by have := HJ.out; show j + 1 = m + 1 + 1; omega
      obtain ⟨ab, cb, e1, _, _⟩ := hox.1.at
      obtain ⟨al, cl, e2, _, _⟩ := hox.2.at
      obtain ⟨xd, xb, xl⟩ := x
      simp only at e1 e2 c0 c1 c2 c3 c4 hxn
      subst e1; subst e2
      have HFV : Hid (FileVal wr (.agg #[.int .i64 xd.id, .bool xd.dir, .int .i64 xd.size, .slice ab xd.blocks.length cb, .slice al xd.list.length cl]) xd) := HFX.out.file
      clear hx hxs hox
      have hbA := nwA (nwR wr) (.cells #[.int .i64 xd.id, .bool xd.dir, .int .i64 xd.size, .slice ab xd.blocks.length cb, .slice al xd.list.length cl] 59)
      have HB2 : Hid ((wr.alloc (.cells #[.int .i64 xd.id, .bool xd.dir, .int .i64 xd.size, .slice ab xd.blocks.length cb, .slice al xd.list.length cl] 59)).heap[wr.heap.size]? = some (.cells #[.int .i64 xd.id, .bool xd.dir, .int .i64 xd.size, .slice ab xd.blocks.length cb, .slice al xd.list.length cl] 59 (0, 0))) := heap_alloc_new wr _
      have HD1 : Hid (Calls Tryz.prog 94 #[.agg #[.int .i64 xd.id, .bool xd.dir, .int .i64 xd.size, .slice ab xd.blocks.length cb, .slice al xd.list.length cl], .pointer (some ⟨B, 0, none⟩)] (wr.alloc (.cells #[.int .i64 xd.id, .bool xd.dir, .int .i64 xd.size, .slice ab xd.blocks.length cb, .slice al xd.list.length cl] 59)) fun e w' => e = .returned (.bool false) ∧ Below (wr.alloc (.cells #[.int .i64 xd.id, .bool xd.dir, .int .i64 xd.size, .slice ab xd.blocks.length cb, .slice al xd.list.length cl] 59)).heap.size (wr.alloc (.cells #[.int .i64 xd.id, .bool xd.dir, .int .i64 xd.size, .slice ab xd.blocks.length cb, .slice al xd.list.length cl] 59)) w') := by
        have h := take1_any _ xd id B _ (HFV.out.below hbA) (one_cell ((hbA.block _ (Array.getElem?_eq_some_iff.1 HBr.out).1).trans HBr.out)).1
        rw [hxn] at h; exact h
      clear hxn
      go_wp2_with fail
      refine HD1.out.mono ?_
      rintro e w2 ⟨rfl, hb2⟩
      have hbw2 := nwT hbA hb2
      obtain ⟨d0, d1, d2, d3, d4, _⟩ := five ((hb2.block _ (Array.getElem?_eq_some_iff.1 HB2.out).1).trans HB2.out)
      have HO2 : Hid (RowF w2 base g n cap (shl gs k m)) := own_below HOr.out hbw2
      have HG2 : Hid (w.grownBy w2 (some g)) := HGr.out.trans (gbOf hbw2 _)
      obtain ⟨y, hy⟩ : ∃ y, (shl gs k m)[m]? = some y := ⟨_, List.getElem?_eq_getElem (by have := HSL.out; omega)⟩
      obtain ⟨t0, t1, t2, t3, t4⟩ := HO2.out.cellAt hy
      have tf : ∀ o, w2.frozen? ⟨g, o, none⟩ = false := fun o => World.ownsRow.frozenAt HO2.out o
      clear c0 c1 c2 c3 c4 hy HD1 HB2
      go_wp2_with fail
      go_roundw
      case rel =>
        refine ⟨m + 1, j + 1, by go_num, by go_num, HJ2, by omega, by omega, ?_, gb_setg (gb_setg (gb_setg (gb_setg (gb_setg HG2.out _) _) _) _) _⟩
        have h2 := HO2.out.setAt ⟨xd, .slice ab xd.blocks.length cb, .slice al xd.list.length cl⟩ (i := m) (by have := HSL.out; omega)
        rw [HSET.out] at h2
        exact h2
      case measure => simp [intOf]; omega
    · have hjni : ¬ (j : Int) < (n : Int) := by omega
      have HN : Hid (m + 1 = n) := by show _ = _; omega
      obtain ⟨y, hy⟩ : ∃ y, (shl gs k m)[m]? = some y := ⟨_, List.getElem?_eq_getElem (by have := HSL.out; omega)⟩
      obtain ⟨t0, t1, t2, t3, t4⟩ := HOr.out.cellAt hy
      have tf : ∀ o, wr.frozen? ⟨g, o, none⟩ = false := fun o => World.ownsRow.frozenAt HOr.out o
      have hsub : n - m = 1 := by have := HN.out; omega
      have hcl := fun ty => clear_files wr ty g (m * 5) (cap - m) (fun j hj => by
        have : j = 0 ∨ j = 1 ∨ j = 2 ∨ j = 3 ∨ j = 4 := by omega
        rcases this with rfl | rfl | rfl | rfl | rfl
        · rw [Nat.add_zero, t0]; rfl
        · rw [t1]; rfl
        · rw [t2]; rfl
        · rw [t3]; rfl
        · rw [t4]; rfl) tf
      have HM1 : Hid (n - 1 = m) := by have := HN.out; show _ = _; omega
      clear hy t0 t1 t2 t3 t4
      go_wp2_with fail
      go_ret
      have HGE : w.grownBy (((((wr.setCell ⟨g, m * 5, none⟩ (.int .i64 0)).setCell ⟨g, m * 5 + 1, none⟩ (.bool false)).setCell ⟨g, m * 5 + 2, none⟩ (.int .i64 0)).setCell ⟨g, m * 5 + 3, none⟩ (.slice none 0 0)).setCell ⟨g, m * 5 + 4, none⟩ (.slice none 0 0)) (some g) := gb_setg (gb_setg (gb_setg (gb_setg (gb_setg HGr.out _) _) _) _) _
      refine ⟨by rw [HM1.out]; rfl, ?_, HGE⟩
      rw [HM1.out]
      have h2 := HOr.out.setAt ⟨f0, .slice none 0 0, .slice none 0 0⟩ (i := m) (by have := HSL.out; omega)
      have h3 := own_shrink h2 (m := m) (by omega)
      have e : ((shl gs k m).set m (⟨f0, .slice none 0 0, .slice none 0 0⟩ : FV)).take m = gs.take k ++ gs.drop (k + 1) := by
        rw [List.take_set_of_le (Nat.le_refl _), shl_take gs hkm (by have := HN.out; omega)]
      have e2 : (gs.take k ++ gs.drop (k + 1)).length = m := by rw [← e, List.length_take, List.length_set, HSL.out]; have := HN.out; omega
      refine ⟨gs.take k ++ gs.drop (k + 1), HLS.out, ?_, ?_, HAP.out⟩
      · rw [e2, ← e, fflat_take]
        exact h3
      · intro x hx
        refine HOW.out _ HGE x ?_
        rcases List.mem_append.1 hx with h | h
        · exact List.mem_of_mem_take h
        · exact List.mem_of_mem_drop h

end Go.Proofs.YtdpighcaieajjabGreat

/- A link less in a directory, and a place cleared, by the program. -/
namespace Go.Proofs.YtdpighcaieajjabGreat
open Go.RowKit Go.Sort

theorem strict_uniq {l : List LinkD} (h : StrictL l) {s : ByteArray} {k : Nat} (hk : namedI l s = some k) : ∀ j, k < j → j < l.length → (l.getD j lk0).1 ≠ s := by
  intro j hkj hj e
  have h1 : (l.getD k lk0).1 = s := by
    unfold namedI at hk
    obtain ⟨hk1, hk2, _⟩ := List.findIdx?_eq_some_iff_getElem.1 hk
    simpa [List.getD, hk1] using hk2
  have h2 := h k j hkj hj
  rw [h1, e] at h2
  rw [ltS_irrefl] at h2; cases h2

set_option maxRecDepth 100000 in
set_option maxHeartbeats 4000000 in
theorem ndrop_any (base g cap q k : Nat) (fs : List FileD) (s : ByteArray) (w : World) (hX : OwnFilesX w base (.slice (some ⟨g, 0, none⟩) fs.length cap) fs) (hq : q < fs.length) (hl : (fs.getD q f0).list.length ≤ 100000)
    (hst : StrictL (fs.getD q f0).list) (hk : namedI (fs.getD q f0).list s = some k) :
    Calls Tryz.prog 99 #[.agg #[.pointer (some ⟨g, q * 5, none⟩)], .string s] w fun e w' => e = .returned (.tuple #[]) ∧ OwnFilesX w' base (.slice (some ⟨g, 0, none⟩) fs.length cap) (fs.set q (withList (fs.getD q f0) (cutL (fs.getD q f0).list k))) ∧ KeepT w w' ∧ Below base w w' := by
  obtain ⟨gs, hd, hrow, hown, hap⟩ := hX
  have hlen : gs.length = fs.length := by rw [← hd, List.length_map]
  obtain ⟨x, hx⟩ : ∃ x, gs[q]? = some x := ⟨_, List.getElem?_eq_getElem (by omega)⟩
  have hxd : fs.getD q f0 = x.d := by
    rw [← hd]; obtain ⟨h1, h2⟩ := List.getElem?_eq_some_iff.1 hx; simp [List.getD, h1, h2]
  rw [hxd] at hl hst hk ⊢
  have hxm : x ∈ gs := List.mem_of_getElem? hx
  have hkl := namedI_lt hk
  obtain ⟨W0, hW0⟩ : ∃ W0, W0 = (w.alloc (.cells #[.pointer (some ⟨g, q * 5, none⟩)] 96)).alloc (.cells #[.string s] 9) := ⟨_, rfl⟩
  have HB0 : Below w.heap.size w W0 := by rw [hW0]; exact nwA (nwA (nwR w) _) _
  have HROW : Hid (W0.ownsRow base 59 5 (.slice (some ⟨g, 0, none⟩) fs.length cap) gs.length (fflat gs)) := own_below hrow HB0
  have HOWN : Hid (∀ y ∈ gs, OwnFV W0 base y) := fun y hy => (hown y hy).below HB0
  have HAP : Hid (Apart gs) := hap
  have HX : Hid (gs[q]? = some x) := hx
  have HD : Hid (gs.map FV.d = fs) := hd
  have HBX : Hid (W0.heap[w.heap.size]? = some (.cells #[.pointer (some ⟨g, q * 5, none⟩)] 96 (0, 0))) := by rw [hW0]; exact (Lib.alloc_old _ _ _ (by simp)).trans (heap_alloc_new w _)
  have HBS : Hid (W0.heap[w.heap.size + 1]? = some (.cells #[.string s] 9 (0, 0))) := by rw [hW0]; exact heap_alloc_new2 w _ _
  have HK0 : Hid (KeepT w W0) := KeepT.of_below HB0
  have hbg := World.ownsRow.lt hrow g rfl
  have HBB : Hid (Below base w W0) := HB0.mono (by omega)
  have HOL : Hid (OwnLinks W0 base x.lv x.d.list) := (HOWN.out x hxm).2
  obtain ⟨g1, cap1, hlv, _, _⟩ := slice_cells HOL.out (by omega)
  have HLV : Hid (x.lv = .slice (some ⟨g1, 0, none⟩) x.d.list.length cap1) := hlv
  have HOL2 : Hid (OwnLinks W0 base (.slice (some ⟨g1, 0, none⟩) x.d.list.length cap1) x.d.list) := by have h := HOL.out; rw [hlv] at h; exact h
  have HDEL : Hid (∀ W', Below W0.heap.size W0 W' → Calls Tryz.prog 117 #[.slice (some ⟨g1, 0, none⟩) x.d.list.length cap1, .func (.func 118) #[] #[.pointer (some ⟨w.heap.size + 1, 0, none⟩)]] W' fun e w' => e = .returned (.slice (some ⟨g1, 0, none⟩) (x.d.list.length - 1) cap1) ∧ OwnLinks w' base (.slice (some ⟨g1, 0, none⟩) (x.d.list.length - 1) cap1) (cutL x.d.list k) ∧ W'.grownBy w' (some g1)) := fun W' h =>
    delL_any base g1 cap1 k (w.heap.size + 1) x.d.list s W' (own_below HOL2.out h) hl hk (strict_uniq hst hk) ((h.block _ (Array.getElem?_eq_some_iff.1 HBS.out).1).trans HBS.out)
  obtain ⟨_, _, _, _, f4⟩ := fflat_get gs q x hx
  have HF4 : Hid ((fflat gs)[q * 5 + 4]? = some x.lv) := f4
  have c4 : W0.cell? ⟨g, q * 5 + 4, none⟩ = some x.lv := by
    have := HROW.out.cells (g := g) rfl _ _ f4
    rw [Addr.add_lit, Nat.zero_add] at this
    exact this
  rw [hlv] at c4
  have b0 := (one_cell HBX.out).1
  have HNE : Hid (w.heap.size ≠ g1) := by
    show w.heap.size ≠ g1
    intro e
    obtain ⟨cs, h1⟩ := own_tag HOL2.out g1 rfl
    have h2 := HBX.out
    rw [e, h1] at h2
    simp at h2
  have HLE : Hid (gs.length = fs.length) := hlen
  have HCL : Hid ((cutL x.d.list k).length = x.d.list.length - 1) := by show _ = _; simp [cutL]; omega
  clear hd hrow hown hap hx hst hk hlv f4
  go_enter Tryz.func99, Tryz.ntmps99
  go_wp2_with fail
  rw [← hW0]
  have hPl : w.heap.size < W0.heap.size := (Array.getElem?_eq_some_iff.1 HBX.out).1
  have hSl : w.heap.size + 1 < W0.heap.size := (Array.getElem?_eq_some_iff.1 HBS.out).1
  have hgl : g < W0.heap.size := (World.ownsRow.lt HROW.out g rfl).2
  clear hW0
  go_region_with (first
    | (go_at_call 117; refine (HDEL.out _ (Below.drew (nwR W0))).mono ?_; rintro e w3 ⟨rfl, ho3, hg3⟩; have hGR : W0.grownBy w3 (some g1) := (gbOf (Below.drew (nwR W0)) _).trans hg3; have b3 := (one_cell ((hGR.block _ hPl (by have := HNE.out; simpa using this)).trans HBX.out)).1; have hR3 := own_keep HROW.out hGR (by have h := ne_of_tags HROW.out HOL2.out (by decide); exact h); have k4 := (by have h := hR3.cells (g := g) rfl _ _ HF4.out; rw [Addr.add_lit, Nat.zero_add, HLV.out] at h; exact h : w3.cell? ⟨g, q * 5 + 4, none⟩ = some (.slice (some ⟨g1, 0, none⟩) x.d.list.length cap1)); have kf : ∀ o, w3.frozen? ⟨g, o, none⟩ = false := (fun o => by have h := hR3; rw [HLE.out] at h; exact h.frozenAt o))
    | fail)
  all_goals
    obtain ⟨cs3, hh3⟩ := own_tag hR3 g rfl
    have HV3 : Hid (w3.ownsRow base 63 2 (.slice (some ⟨g1, 0, none⟩) (x.d.list.length - 1) cap1) (cutL x.d.list k).length (lflat (cutL x.d.list k))) := ho3
    have HV5 : Hid (OwnLinks (w3.setCell ⟨g, q * 5 + 4, none⟩ (.slice (some ⟨g1, 0, none⟩) (x.d.list.length - 1) cap1)) base (.slice (some ⟨g1, 0, none⟩) (x.d.list.length - 1) cap1) (cutL x.d.list k)) := rowset2 ho3 hh3 (by decide) _
    have HGR : Hid (W0.grownBy w3 x.lv.ownBlock) := by rw [HLV.out]; exact hGR
    have HFIN : Hid (OwnFilesX (w3.setCell ⟨g, q * 5 + 4, none⟩ (.slice (some ⟨g1, 0, none⟩) (x.d.list.length - 1) cap1)) base (.slice (some ⟨g, 0, none⟩) fs.length cap) (fs.set q (withList x.d (cutL x.d.list k))) ∧ KeepT w (w3.setCell ⟨g, q * 5 + 4, none⟩ (.slice (some ⟨g1, 0, none⟩) (x.d.list.length - 1) cap1)) ∧ Below base w (w3.setCell ⟨g, q * 5 + 4, none⟩ (.slice (some ⟨g1, 0, none⟩) (x.d.list.length - 1) cap1))) := by
      have h := relist HROW.out HOWN.out HAP.out HX.out HGR.out HV3.out (.inl (by rw [HLV.out]; rfl)) (gbOf (nwR _) _) HV5.out
      rw [HD.out] at h
      exact ⟨h.1, HK0.out.trans h.2.1, HBB.out.trans h.2.2⟩
    clear ho3 hg3 hGR hR3 hh3
    go_wp2_with fail
    go_end0
    exact ⟨rfl, HFIN.out⟩

end Go.Proofs.YtdpighcaieajjabGreat

/- A place cleared, and what nothing names taken away, by the program. -/
namespace Go.Proofs.YtdpighcaieajjabGreat
open Go.RowKit Go.Sort

set_option maxRecDepth 100000 in
set_option maxHeartbeats 2000000 in
theorem pclear_any (base g cap q k : Nat) (fs : List FileD) (s : ByteArray) (w : World) (hX : OwnFilesX w base (.slice (some ⟨g, 0, none⟩) fs.length cap) fs) (hq : q < fs.length) (hl : (fs.getD q f0).list.length ≤ 100000)
    (hst : StrictL (fs.getD q f0).list) (hk : namedI (fs.getD q f0).list s = some k) :
    Calls Tryz.prog 79 #[.agg #[.pointer (some ⟨g, q * 5, none⟩), .string s]] w fun e w' => e = .returned (.tuple #[]) ∧ OwnFilesX w' base (.slice (some ⟨g, 0, none⟩) fs.length cap) (fs.set q (withList (fs.getD q f0) (cutL (fs.getD q f0).list k))) ∧ KeepT w w' ∧ Below base w w' := by
  have hbase : base ≤ w.heap.size := by
    obtain ⟨gs, _, hrow, _, _⟩ := hX
    have := World.ownsRow.lt hrow g rfl; omega
  have HB0 : Hid (Below w.heap.size w (w.alloc (.cells #[.pointer (some ⟨g, q * 5, none⟩), .string s] 103))) := nwA (nwR w) _
  have HCA : Hid (Calls Tryz.prog 99 #[.agg #[.pointer (some ⟨g, q * 5, none⟩)], .string s] (w.alloc (.cells #[.pointer (some ⟨g, q * 5, none⟩), .string s] 103)) fun e w' => e = .returned (.tuple #[]) ∧ OwnFilesX w' base (.slice (some ⟨g, 0, none⟩) fs.length cap) (fs.set q (withList (fs.getD q f0) (cutL (fs.getD q f0).list k))) ∧ KeepT (w.alloc (.cells #[.pointer (some ⟨g, q * 5, none⟩), .string s] 103)) w' ∧ Below base (w.alloc (.cells #[.pointer (some ⟨g, q * 5, none⟩), .string s] 103)) w') :=
    ndrop_any base g cap q k fs s _ (hX.below HB0.out) hq hl hst hk
  clear hX hl hst hk
  go_enter Tryz.func79, Tryz.ntmps79
  go_wp2_with (go_at_call 99; refine HCA.out.mono ?_; rintro e w5 ⟨rfl, h1, h2, h3⟩; have HF : Hid (OwnFilesX w5 base (.slice (some ⟨g, 0, none⟩) fs.length cap) (fs.set q (withList (fs.getD q f0) (cutL (fs.getD q f0).list k))) ∧ KeepT w w5 ∧ Below base w w5) := ⟨h1, (KeepT.of_below HB0.out).trans h2, (HB0.out.mono hbase).trans h3⟩; clear h1 h2 h3)
  go_end0
  exact ⟨rfl, HF.out⟩

theorem set_id (fs : List FileD) (q : Nat) (l : List LinkD) (j : Nat) : ((fs.set q (withList (fs.getD q f0) l)).getD j f0).id = (fs.getD j f0).id := by
  by_cases hj : j < fs.length
  · by_cases e : q = j
    · subst e; simp [List.getD, hj, withList]
    · simp [List.getD, List.getElem?_set_ne e]
  · have h1 : fs[j]? = none := List.getElem?_eq_none (by omega)
    have h2 : (fs.set q (withList (fs.getD q f0) l))[j]? = none := List.getElem?_eq_none (by rw [List.length_set]; omega)
    unfold List.getD at h2 ⊢
    rw [h1, h2]
theorem findIdx_congr {α : Type} (z : α) {l m : List α} {p : α → Bool} (hl : l.length = m.length) (h : ∀ j, j < l.length → p (l.getD j z) = p (m.getD j z)) : l.findIdx? p = m.findIdx? p := by
  cases hm : m.findIdx? p with
  | none =>
    refine find_no z (fun j hj => ?_)
    rw [h j hj]
    rw [List.findIdx?_eq_none_iff] at hm
    exact hm _ (by simp [List.getD, show j < m.length by omega])
  | some k =>
    obtain ⟨hk, h1, h2⟩ := List.findIdx?_eq_some_iff_getElem.1 hm
    refine find_yes z (by omega) ?_ (fun j hj => ?_)
    · rw [h k (by omega)]; simpa [List.getD, hk] using h1
    · rw [h j (by omega)]
      have := h2 j hj
      simpa [List.getD, show j < m.length by omega] using this
theorem atI_set (fs : List FileD) (q : Nat) (l : List LinkD) (id : Int) : atI (fs.set q (withList (fs.getD q f0) l)) id = atI fs id := by
  unfold atI
  refine findIdx_congr f0 (List.length_set ..) (fun j _ => ?_)
  rw [set_id]
theorem linkGet {l : List LinkD} {k : Nat} (h : k < l.length) : l.getD k lk0 ∈ l := by simp [List.getD, h]
theorem Rising.set {fs : List FileD} (h : Rising fs) (q : Nat) (l : List LinkD) : Rising (fs.set q (withList (fs.getD q f0) l)) := by
  intro i j hij hj
  rw [List.length_set] at hj
  rw [set_id, set_id]
  exact h i j hij hj
theorem Rising.uniq {fs : List FileD} (h : Rising fs) {id : Int} {k : Nat} (hk : atI fs id = some k) : ∀ j, k < j → j < fs.length → ((fs.getD j f0).id == id) = false := by
  intro j h1 h2
  have := h k j h1 h2
  rw [atI_id hk] at this
  rw [beq_eq_false_iff_ne]; omega
theorem SmallV.set {d : VolD} (h : SmallV d) (q : Nat) (l : List LinkD) (hl : l.length ≤ 100000) : SmallV ⟨d.id, d.fr, d.snap, d.files.set q (withList (d.files.getD q f0) l), d.next⟩ := by
  refine ⟨by simp only [List.length_set]; exact h.1, fun f hf => ?_⟩
  simp only at hf
  rcases List.mem_or_eq_of_mem_set hf with h1 | rfl
  · exact h.2 f h1
  · refine ⟨?_, hl⟩
    simp only [withList]
    by_cases hq : q < d.files.length
    · exact (h.2 _ (getD_mem hq)).1
    · rw [show d.files.getD q f0 = f0 from by simp [List.getD, List.getElem?_eq_none (show d.files.length ≤ q by omega)]]; simp [f0]
theorem cutL_le (l : List LinkD) (k : Nat) : (cutL l k).length ≤ l.length := by simp [cutL]; omega
/-- the files where a link is cut -/
def cutFs (fs : List FileD) (q k : Nat) : List FileD := fs.set q (withList (fs.getD q f0) (cutL (fs.getD q f0).list k))
def takeFs (fs : List FileD) (id : Int) : List FileD := if linksN fs id = 0 then lessF fs (placeOf fs id) else fs
/-- the volume without a link, and without its file, if nothing else names that -/
def takV (d : VolD) (q k : Nat) : VolD := ⟨d.id, d.fr, d.snap, takeFs (cutFs d.files q k) ((d.files.getD q f0).list.getD k lk0).2, d.next⟩

theorem VolOk.dirq {d : VolD} (h : VolOk d) {q : Nat} (hq : q < d.files.length) : (d.files.getD q f0).list.length ≤ 8 ∧ StrictL (d.files.getD q f0).list := by
  have hnodes := (h.2.1.2 q hq).2
  unfold NodeOk at hnodes
  split at hnodes
  · exact ⟨hnodes.2.2.1, hnodes.2.2.strict⟩
  · have e0 := List.length_eq_zero_iff.1 hnodes.1
    rw [e0]; exact ⟨by simp, fun i j _ h => by simp at h⟩
theorem OwnFilesX.slice_len {w : World} {base g n cap : Nat} {fs : List FileD} (h : OwnFilesX w base (.slice (some ⟨g, 0, none⟩) n cap) fs) : n = fs.length := by
  obtain ⟨gs, hd, hrow, _, _⟩ := h
  rcases hrow.2 with ⟨h1, _⟩ | ⟨g', cap', cur, h1, _⟩
  · simp at h1
  · simp at h1; rw [h1.2.1, ← hd, List.length_map]
theorem OwnFilesX.tag {w : World} {base g n cap : Nat} {fs : List FileD} (h : OwnFilesX w base (.slice (some ⟨g, 0, none⟩) n cap) fs) : ∃ m xs, w.ownsRow base 59 5 (.slice (some ⟨g, 0, none⟩) n cap) m xs := by
  obtain ⟨gs, _, hrow, _, _⟩ := h
  exact ⟨_, _, hrow⟩

set_option maxRecDepth 100000 in
set_option maxHeartbeats 4000000 in
theorem take_any (base B : Nat) (d : VolD) (p : ByteArray) (L : List ByteArray) (q k : Nat) (w : World) (ho : OwnPtr w base B d) (hok : VolOk d) (hs : SmallV d) (hp : pathN p = some L) (hL : 0 < L.length) (hpar : parF d.files L = (q, 0)) (hk : namedI (d.files.getD q f0).list (lastN L) = some k) :
    Calls Tryz.prog 75 #[.pointer (some ⟨B, 0, none⟩), .string p] w fun e w' => e = .returned (.int .i64 0) ∧ OwnPtr w' base B (takV d q k) ∧ KeepU w w' ∧ Below base w w' := by
  have hbB : base ≤ B := ho.1
  have hbw : base ≤ w.heap.size := by obtain ⟨_, fv, h1, _⟩ := ho; have := (Array.getElem?_eq_some_iff.1 h1).1; omega
  have hpos : 0 < d.files.length := hok.2.1.1.1
  have HPA : Hid (Calls Tryz.prog 77 #[.pointer (some ⟨B, 0, none⟩), .string p] w fun e w' => PlaceIs d (q, 0) (lastN L) B e w' ∧ Below w.heap.size w w') := by
    have h := place_any B d p L w ho.at hs hok.sound hok.one hp hL
    rw [hpar] at h; exact h
  have HO : Hid (OwnPtr w base B d) := ho
  have HS : Hid (SmallV d) := hs
  have HOK : Hid (VolOk d) := hok
  generalize lastN L = last at HPA hk
  have HK : Hid (namedI (d.files.getD q f0).list last = some k) := hk
  have HLI : Hid (linkedI (d.files.getD q f0).list last = (((d.files.getD q f0).list.getD k lk0).2, true)) := by show _ = _; unfold linkedI; rw [hk]
  have HTV : Hid (takV d q k = ⟨d.id, d.fr, d.snap, takeFs (cutFs d.files q k) ((d.files.getD q f0).list.getD k lk0).2, d.next⟩) := rfl
  generalize takV d q k = TV at HTV ⊢
  clear ho hs hok hp hL hpar hk
  go_enter Tryz.func75, Tryz.ntmps75
  go_wp2_with fail
  refine HPA.out.mono ?_
  rintro e w1 ⟨⟨u, rfl, hyes, _⟩, hb1⟩
  obtain ⟨pv, hno, rfl⟩ := hyes rfl
  simp only at hno ⊢
  have hql : q < d.files.length := by obtain ⟨_, _, _, _, h, _⟩ := hno; exact h
  have HO1 : Hid (OwnPtr w1 base B d) := HO.out.below hb1
  have HB1 : Hid (Below w.heap.size w w1) := hb1
  obtain ⟨g, cap, hB1, hX1⟩ := HO1.out.slice hpos
  have hpe := hno.eq hB1
  simp only [Value.agg.injEq, Array.mk.injEq, List.cons.injEq, and_true, Nat.zero_add] at hpe
  subst hpe
  have HNV : Hid (NodeVal w1 (.agg #[.pointer (some ⟨g, q * 5, none⟩)]) (d.files.getD q f0)) := hno.val HO1.out.at
  have HX1 : Hid (OwnFilesX w1 base (.slice (some ⟨g, 0, none⟩) d.files.length cap) d.files) := hX1
  have HBB1 : Hid (w1.heap[B]? = some (.cells #[.int .i64 d.id, .int .i64 d.fr, .bool d.snap, .slice (some ⟨g, 0, none⟩) d.files.length cap, .int .i64 d.next] 89 (0, 0))) := hB1
  clear hyes hb1 hno hX1 hB1 HPA HO HO1
  have hbA := nwA (nwR w1) (.cells #[.pointer (some ⟨g, q * 5, none⟩), .string last] 103)
  have HPL : Hid ((w1.alloc (.cells #[.pointer (some ⟨g, q * 5, none⟩), .string last] 103)).heap[w1.heap.size]? = some (.cells #[.pointer (some ⟨g, q * 5, none⟩), .string last] 103 (0, 0))) := heap_alloc_new w1 _
  have HLK : Hid (Calls Tryz.prog 89 #[.agg #[.pointer (some ⟨g, q * 5, none⟩)], .string last] (w1.alloc (.cells #[.pointer (some ⟨g, q * 5, none⟩), .string last] 103)) fun e w' => e = .returned (.tuple #[.int .i64 ((d.files.getD q f0).list.getD k lk0).2, .bool true]) ∧ Below (w1.alloc (.cells #[.pointer (some ⟨g, q * 5, none⟩), .string last] 103)).heap.size (w1.alloc (.cells #[.pointer (some ⟨g, q * 5, none⟩), .string last] 103)) w') := by
    have h := linked_any _ (d.files.getD q f0) last _ (HNV.out.below hbA) (HS.out.2 _ (getD_mem hql))
    rw [HLI.out] at h; exact h
  have HIS : Hid ((atI d.files ((d.files.getD q f0).list.getD k lk0).2).isSome = true) := HOK.out.2.2.1.1 _ (getD_mem hql) _ (linkGet (namedI_lt HK.out))
  generalize ((d.files.getD q f0).list.getD k lk0).2 = id at HLK HIS HTV
  go_wp2_with fail
  refine HLK.out.mono ?_
  rintro e w2 ⟨rfl, hb2⟩
  have hbw2 := nwT hbA hb2
  have HX2 : Hid (OwnFilesX (w2.alloc (.cells #[.int .i64 id] 3)) base (.slice (some ⟨g, 0, none⟩) d.files.length cap) d.files) := HX1.out.below (nwA hbw2 _)
  have HB2 : Hid (Below w.heap.size w (w2.alloc (.cells #[.int .i64 id] 3))) := nwT HB1.out (nwA hbw2 _)
  have HBB2 : Hid ((w2.alloc (.cells #[.int .i64 id] 3)).heap[B]? = some (.cells #[.int .i64 d.id, .int .i64 d.fr, .bool d.snap, .slice (some ⟨g, 0, none⟩) d.files.length cap, .int .i64 d.next] 89 (0, 0))) := ((nwA hbw2 _).block _ (Array.getElem?_eq_some_iff.1 HBB1.out).1).trans HBB1.out
  have HID2 : Hid ((w2.alloc (.cells #[.int .i64 id] 3)).heap[w2.heap.size]? = some (.cells #[.int .i64 id] 3 (0, 0))) := heap_alloc_new w2 _
  have hPLw2 := (hb2.block _ (Array.getElem?_eq_some_iff.1 HPL.out).1).trans HPL.out
  have hlt2 := (Array.getElem?_eq_some_iff.1 hPLw2).1
  obtain ⟨p0, p1, _⟩ := two_cells hPLw2
  have HDQ : Hid ((d.files.getD q f0).list.length ≤ 8 ∧ StrictL (d.files.getD q f0).list) := HOK.out.dirq hql
  have HCL : Hid (Calls Tryz.prog 79 #[.agg #[.pointer (some ⟨g, q * 5, none⟩), .string last]] (w2.alloc (.cells #[.int .i64 id] 3)) fun e w' => e = .returned (.tuple #[]) ∧ OwnFilesX w' base (.slice (some ⟨g, 0, none⟩) d.files.length cap) (cutFs d.files q k) ∧ KeepT (w2.alloc (.cells #[.int .i64 id] 3)) w' ∧ Below base (w2.alloc (.cells #[.int .i64 id] 3)) w') :=
    pclear_any base g cap q k d.files last _ HX2.out hql (by have := HDQ.out.1; omega) HDQ.out.2 HK.out
  have HCF : Hid (cutFs d.files q k = d.files.set q (withList (d.files.getD q f0) (cutL (d.files.getD q f0).list k))) := rfl
  have HSC : Hid (SmallV ⟨d.id, d.fr, d.snap, cutFs d.files q k, d.next⟩) := HS.out.set q _ (Nat.le_trans (cutL_le _ _) (by have := HDQ.out.1; omega))
  have HAT : Hid (∃ kf, atI (cutFs d.files q k) id = some kf) := by
    obtain ⟨kf, h⟩ := Option.isSome_iff_exists.1 HIS.out
    exact ⟨kf, by unfold cutFs; rw [atI_set]; exact h⟩
  have HRI : Hid (Rising (cutFs d.files q k)) := HOK.out.web.ris.set q _
  have HFL : Hid ((cutFs d.files q k).length = d.files.length) := by show _ = _; unfold cutFs; rw [List.length_set]
  clear hbA hb2 hbw2 hPLw2 HPL HLK HX1 HBB1 HNV HX2
  generalize cutFs d.files q k = fs1 at HTV HCL HSC HAT HRI HFL
  go_wp2_with fail
  refine HCL.out.mono ?_
  rintro e w3 ⟨rfl, hx3, hk3, hb3⟩
  have HX3 : Hid (OwnFilesX w3 base (.slice (some ⟨g, 0, none⟩) d.files.length cap) fs1) := hx3
  have HBB3 : Hid (w3.heap[B]? = some (.cells #[.int .i64 d.id, .int .i64 d.fr, .bool d.snap, .slice (some ⟨g, 0, none⟩) d.files.length cap, .int .i64 d.next] 89 (0, 0))) := hk3.2 _ _ _ _ HBB2.out (by decide) (by decide)
  have HID3 : Hid (w3.heap[w2.heap.size]? = some (.cells #[.int .i64 id] 3 (0, 0))) := hk3.2 _ _ _ _ HID2.out (by decide) (by decide)
  have HK3 : Hid (KeepU w w3) := ((KeepT.of_below HB2.out).trans hk3).u
  have HB3 : Hid (Below base w w3) := (HB2.out.mono hbw).trans hb3
  have HVA3 : Hid (VolAt w3 B ⟨d.id, d.fr, d.snap, fs1, d.next⟩) := by
    refine ⟨some ⟨g, 0, none⟩, cap, ?_, ?_⟩
    · simp only; rw [HFL.out]; exact HBB3.out
    · obtain ⟨a, c, e, h1, h2⟩ := hx3.plain.at
      simp only [Value.slice.injEq] at e
      obtain ⟨rfl, _, rfl⟩ := e
      exact ⟨h1, h2⟩
  obtain ⟨i0, _⟩ := one_cell HID3.out
  clear hx3 hk3 hb3 HBB2 HID2 HB2 HCL p0 p1
  go_wp2_with fail
  refine (vlinks_any B _ id _ HVA3.out HSC.out).mono ?_
  rintro e w4 ⟨rfl, hb4⟩
  simp only
  have HX4 : Hid (OwnFilesX w4 base (.slice (some ⟨g, 0, none⟩) d.files.length cap) fs1) := HX3.out.below hb4
  have HBB4 : Hid (w4.heap[B]? = some (.cells #[.int .i64 d.id, .int .i64 d.fr, .bool d.snap, .slice (some ⟨g, 0, none⟩) d.files.length cap, .int .i64 d.next] 89 (0, 0))) := (hb4.block _ (Array.getElem?_eq_some_iff.1 HBB3.out).1).trans HBB3.out
  have HID4 : Hid (w4.heap[w2.heap.size]? = some (.cells #[.int .i64 id] 3 (0, 0))) := (hb4.block _ (Array.getElem?_eq_some_iff.1 HID3.out).1).trans HID3.out
  have HK4 : Hid (KeepU w w4) := HK3.out.trans (KeepT.of_below hb4).u
  have HB4 : Hid (Below base w w4) := HB3.out.trans (hb4.mono (by have := HB3.out.size; omega))
  clear hb4 i0 HX3 HBB3 HID3 HK3 HB3 HVA3 HSC
  obtain ⟨y0, y1, y2, y3, y4, yf⟩ := five HBB4.out
  by_cases hz : linksN fs1 id = 0
  case neg =>
    have HT : Hid (TV = ⟨d.id, d.fr, d.snap, fs1, d.next⟩) := by show _ = _; rw [HTV.out]; unfold takeFs; rw [if_neg hz]
    have hzb : (((linksN fs1 id : Nat) : Int) == 0) = false := beq_eq_false_iff_ne.2 (by omega)
    have HPT : Hid (OwnPtr w4 base B TV) := by
      show OwnPtr _ _ _ _
      rw [HT.out]
      exact ⟨hbB, _, HBB4.out, HX4.out⟩
    clear hz
    go_wp2_with fail
    go_ret
    exact ⟨rfl, HPT.out, HK4.out, HB4.out⟩
  case pos =>
    obtain ⟨kf, hkf⟩ := HAT.out
    have HT : Hid (TV = ⟨d.id, d.fr, d.snap, lessF fs1 kf, d.next⟩) := by
      show _ = _; rw [HTV.out]; unfold takeFs; rw [if_pos hz]
      have : placeOf fs1 id = kf := by unfold placeOf; rw [hkf]; rfl
      rw [this]
    have hz2 : ((linksN fs1 id : Nat) : Int) = 0 := by omega
    rw [hz2]
    have hl5 := HS.out.1
    have HDF : Hid (Calls Tryz.prog 93 #[.slice (some ⟨g, 0, none⟩) d.files.length cap, .func (.func 94) #[] #[.pointer (some ⟨w2.heap.size, 0, none⟩)]] w4 fun e w' => e = .returned (.slice (some ⟨g, 0, none⟩) (d.files.length - 1) cap) ∧ OwnFilesX w' base (.slice (some ⟨g, 0, none⟩) (d.files.length - 1) cap) (lessF fs1 kf) ∧ w4.grownBy w' (some g)) := by
      have h := delF_any base g cap kf w2.heap.size fs1 id w4 (by rw [HFL.out]; exact HX4.out) (by rw [HFL.out]; exact hl5) hkf (HRI.out.uniq hkf) HID4.out
      rw [HFL.out] at h; exact h
    have HBG : Hid (base ≤ g ∧ B ≠ g) := by
      obtain ⟨m, xs, hr⟩ := HX4.out.tag
      refine ⟨(World.ownsRow.lt hr g rfl).1, fun e => ?_⟩
      obtain ⟨cs, h1⟩ := own_tag hr g rfl
      have h2 := HBB4.out
      rw [e, h1] at h2
      simp at h2
    clear hz hz2 hkf
    go_wp2_with fail
    refine HDF.out.mono ?_
    rintro e w5 ⟨rfl, hx5, hg5⟩
    have HX5 : Hid (OwnFilesX w5 base (.slice (some ⟨g, 0, none⟩) (d.files.length - 1) cap) (lessF fs1 kf)) := hx5
    have hB5 : w5.heap[B]? = some (.cells #[.int .i64 d.id, .int .i64 d.fr, .bool d.snap, .slice (some ⟨g, 0, none⟩) d.files.length cap, .int .i64 d.next] 89 (0, 0)) := (hg5.block _ (Array.getElem?_eq_some_iff.1 HBB4.out).1 (by have := HBG.out.2; simpa using this)).trans HBB4.out
    have HK5 : Hid (KeepU w w5) := by
      obtain ⟨m, xs, hr⟩ := HX4.out.tag
      exact HK4.out.trans (KeepT.of_gb (v := .slice (some ⟨g, 0, none⟩) d.files.length cap) hg5 hr (.inl rfl)).u
    have HB5 : Hid (Below base w w5) := HB4.out.grown hg5 (by have := HB4.out.size; omega) (fun k hk => by injection hk with hk; have := HBG.out.1; omega)
    have hB6 : (w5.setCell ⟨B, 3, none⟩ (.slice (some ⟨g, 0, none⟩) (d.files.length - 1) cap)).heap[B]? = some (.cells #[.int .i64 d.id, .int .i64 d.fr, .bool d.snap, .slice (some ⟨g, 0, none⟩) (d.files.length - 1) cap, .int .i64 d.next] 89 (0, 0)) := by
      rw [heap_setCell_same w5 B 3 _ 89 _ hB5]; simp
    have HPT : Hid (OwnPtr (w5.setCell ⟨B, 3, none⟩ (.slice (some ⟨g, 0, none⟩) (d.files.length - 1) cap)) base B TV) := by
      show OwnPtr _ _ _ _
      rw [HT.out]
      exact ⟨hbB, _, hB6, HX5.out.setT hB5 (by decide) (by decide) (by decide) _⟩
    have HK6 : Hid (KeepU w (w5.setCell ⟨B, 3, none⟩ (.slice (some ⟨g, 0, none⟩) (d.files.length - 1) cap))) := HK5.out.trans (KeepU.of_set _ hB5)
    obtain ⟨t0, t1, t2, t3, t4, tf⟩ := five hB5
    clear hx5 hg5 hB5 hB6 y0 y1 y2 y3 y4 yf HDF
    go_wp2_with fail
    go_ret
    exact ⟨rfl, HPT.out, HK6.out, HB5.out.setCell (p := ⟨B, 3, none⟩) hbB _⟩

end Go.Proofs.YtdpighcaieajjabGreat

/- A volume behind an act, by the program. -/
namespace Go.Proofs.YtdpighcaieajjabGreat
open Go.RowKit Go.Sort

theorem ownVol_zero (w : World) (base : Nat) : OwnVol w base (.agg #[.int .i64 0, .int .i64 0, .bool false, .slice none 0 0, .int .i64 0]) Go.Proofs.YtdpighcaieajjabGreat.v0 :=
  ⟨_, rfl, [], rfl, World.ownsRow_nil _ _ _ _, fun g hg => by simp at hg⟩
/-- how an act ends on a volume of one's own -/
def ActIs (G : Int → VolD → Prop) (base B : Nat) (e : Ending) (w' : World) : Prop :=
  (∃ d', e = .returned (.int .i64 0) ∧ OwnPtr w' base B d' ∧ G 0 d') ∨ (∃ er, er ≠ 0 ∧ e = .returned (.int .i64 er) ∧ G er Go.Proofs.YtdpighcaieajjabGreat.v0)
def ChangeR (G : Int → VolD → Prop) (d : VolD) (ps : List ByteArray) (er : Int) (dd : VolD) : Prop :=
  (VolOk d ∧ PathsOk ps ∧ d.snap = false ∧ G er dd) ∨ (VolOk d ∧ PathsOk ps ∧ d.snap = true ∧ er = 9 ∧ dd = Go.Proofs.YtdpighcaieajjabGreat.v0) ∨ (¬ (VolOk d ∧ PathsOk ps) ∧ er = 1 ∧ dd = Go.Proofs.YtdpighcaieajjabGreat.v0)

set_option maxRecDepth 100000 in
set_option maxHeartbeats 1000000 in
theorem change_any (G : Int → VolD → Prop) (K A : Nat) (eK : ∀ args w, (callFunc K args).run Tryz.prog w = .ok (.enter K args) w) (v : Value) (d : VolD) (sa : Option Addr) (ps : List ByteArray) (sc : Nat) (w : World) (hv : VolVal w v d) (hs : SmallV d) (hp : StrsAt w sa ps) (hpl : ps.length ≤ 100000)
    (hact : ∀ (w1 : World) (base B : Nat), Below w.heap.size w w1 → OwnPtr w1 base B d → VolOk d → PathsOk ps → d.snap = false → Calls Tryz.prog K #[.pointer (some ⟨B, 0, none⟩), .pointer (some ⟨A, 0, none⟩)] w1 fun e w2 => ActIs G base B e w2 ∧ KeepU w1 w2 ∧ Below base w1 w2) :
    Calls Tryz.prog 42 #[v, .func (.func K) #[] #[.pointer (some ⟨A, 0, none⟩)], .slice sa ps.length sc] w fun e w' => (∃ u er dd, e = .returned (.tuple #[u, .int .i64 er]) ∧ OwnVol w' w.heap.size u dd ∧ ChangeR G d ps er dd) ∧ Below w.heap.size w w' := by
  have HVV : Hid (VolVal w v d) := hv
  have HS : Hid (SmallV d) := hs
  have HACT : Hid (∀ (w1 : World) (base B : Nat), Below w.heap.size w w1 → OwnPtr w1 base B d → VolOk d → PathsOk ps → d.snap = false → Calls Tryz.prog K #[.pointer (some ⟨B, 0, none⟩), .pointer (some ⟨A, 0, none⟩)] w1 fun e w2 => ActIs G base B e w2 ∧ KeepU w1 w2 ∧ Below base w1 w2) := hact
  obtain ⟨a, ca, rfl, _, _⟩ := hv
  have HB0 : Hid (Below w.heap.size w ((w.alloc (.cells #[.int .i64 d.id, .int .i64 d.fr, .bool d.snap, .slice a d.files.length ca, .int .i64 d.next] 24)).alloc (.cells #[.int .i64 0, .int .i64 0, .bool false, .slice none 0 0, .int .i64 0] 24))) := nwA (nwA (nwR w) _) _
  have HR0 : Hid (((w.alloc (.cells #[.int .i64 d.id, .int .i64 d.fr, .bool d.snap, .slice a d.files.length ca, .int .i64 d.next] 24)).alloc (.cells #[.int .i64 0, .int .i64 0, .bool false, .slice none 0 0, .int .i64 0] 24)).heap[w.heap.size + 1]? = some (.cells #[.int .i64 0, .int .i64 0, .bool false, .slice none 0 0, .int .i64 0] 24 (0, 0))) := heap_alloc_new2 w _ _
  have HPS : Hid (StrsAt ((w.alloc (.cells #[.int .i64 d.id, .int .i64 d.fr, .bool d.snap, .slice a d.files.length ca, .int .i64 d.next] 24)).alloc (.cells #[.int .i64 0, .int .i64 0, .bool false, .slice none 0 0, .int .i64 0] 24)) sa ps) := hp.below HB0.out
  have HSZ : Hid (((w.alloc (.cells #[.int .i64 d.id, .int .i64 d.fr, .bool d.snap, .slice a d.files.length ca, .int .i64 d.next] 24)).alloc (.cells #[.int .i64 0, .int .i64 0, .bool false, .slice none 0 0, .int .i64 0] 24)).heap.size = w.heap.size + 2) := by show _ = _; simp
  clear hs hp hact
  go_enter Tryz.func42, Tryz.ntmps42
  go_wp2_with fail
  refine (open_any _ d sa ps sc _ (HVV.out.below HB0.out) HS.out HPS.out hpl).mono ?_
  rintro e w1 ⟨hop, hb1⟩
  have HB1 : Hid (Below w.heap.size w w1) := nwT HB0.out hb1
  have HR1 : Hid (w1.heap[w.heap.size + 1]? = some (.cells #[.int .i64 0, .int .i64 0, .bool false, .slice none 0 0, .int .i64 0] 24 (0, 0))) := (hb1.block _ (Array.getElem?_eq_some_iff.1 HR0.out).1).trans HR0.out
  clear hb1 HR0 HPS
  obtain ⟨r0, r1, r2, r3, r4, rf⟩ := five HR1.out
  rcases hop with ⟨hok, hpo, B, rfl, hown⟩ | ⟨hno, rfl⟩
  case inr =>
    have HNO : Hid (¬ (VolOk d ∧ PathsOk ps)) := hno
    clear hno
    go_wp2_with fail
    refine bodyPost_ret (v := .tuple #[.agg #[.int .i64 0, .int .i64 0, .bool false, .slice none 0 0, .int .i64 0], .int .i64 1]) (by simp [results, Tryz.results42, go_sem, r0, r1, r2, r3, r4]) rfl ⟨⟨_, 1, _, rfl, ownVol_zero _ _, .inr (.inr ⟨HNO.out, rfl, rfl⟩)⟩, ?_⟩
    exact five_below HB1.out (Nat.le_succ _)
  have HOK : Hid (VolOk d ∧ PathsOk ps) := ⟨hok, hpo⟩
  have HOW : Hid (OwnPtr w1 (w.heap.size + 2) B d) := by have h := hown; rw [HSZ.out] at h; exact h
  obtain ⟨hbB, fv, hB1, hX1⟩ := HOW.out
  obtain ⟨fa, fc, rfl, _, _⟩ := hX1.plain.at
  obtain ⟨y0, y1, y2, y3, y4, yf⟩ := five hB1
  clear hok hpo hown hX1 hB1
  cases hsn : d.snap
  case true =>
    rw [hsn] at y2
    have HSN : Hid (d.snap = true) := hsn
    clear hsn
    go_wp2_with fail
    refine bodyPost_ret (v := .tuple #[.agg #[.int .i64 0, .int .i64 0, .bool false, .slice none 0 0, .int .i64 0], .int .i64 9]) (by simp [results, Tryz.results42, go_sem, r0, r1, r2, r3, r4]) rfl ⟨⟨_, 9, _, rfl, ownVol_zero _ _, .inr (.inl ⟨HOK.out.1, HOK.out.2, HSN.out, rfl, rfl⟩)⟩, ?_⟩
    exact five_below HB1.out (Nat.le_succ _)
  case false =>
  rw [hsn] at y2
  have HSN : Hid (d.snap = false) := hsn
  have HCALL : Hid (Calls Tryz.prog K #[.pointer (some ⟨B, 0, none⟩), .pointer (some ⟨A, 0, none⟩)] w1 fun e w2 => ActIs G (w.heap.size + 2) B e w2 ∧ KeepU w1 w2 ∧ Below (w.heap.size + 2) w1 w2) := HACT.out w1 _ B HB1.out HOW.out HOK.out.1 HOK.out.2 hsn
  clear hsn
  go_wp2_with fail
  go_at_fn K
  refine HCALL.out.mono ?_
  rintro e w2 ⟨hai, hk2, hb2⟩
  have HB2 : Hid (Below w.heap.size w w2) := HB1.out.trans (hb2.mono (Nat.le_add_right _ _))
  have HR2 : Hid (w2.heap[w.heap.size + 1]? = some (.cells #[.int .i64 0, .int .i64 0, .bool false, .slice none 0 0, .int .i64 0] 24 (0, 0))) := (hb2.block _ (Nat.lt_succ_self _)).trans HR1.out
  clear hk2 hb2 HCALL HACT r0 r1 r2 r3 r4 rf y0 y1 y2 y3 y4 yf HOW HB1 HR1 HB0 HVV HS HSZ
  obtain ⟨q0, q1, q2, q3, q4, qf⟩ := five HR2.out
  rcases hai with ⟨d2, rfl, how2, hg2⟩ | ⟨er, hne, rfl, hg2⟩
  · have HG2 : Hid (G 0 d2) := hg2
    have HOW2 : Hid (OwnPtr w2 (w.heap.size + 2) B d2) := how2
    obtain ⟨_, fv2, hB2, hX2⟩ := HOW2.out
    have HX2 : Hid (OwnFiles w2 (w.heap.size + 2) fv2 d2.files) := hX2.plain
    obtain ⟨fa2, fc2, rfl, _, _⟩ := HX2.out.at
    obtain ⟨z0, z1, z2, z3, z4, zf⟩ := five hB2
    clear hg2 how2 hX2 hB2
    go_wp2_with fail
    obtain ⟨s0, s1, s2, s3, s4, _⟩ := five (five_set (d0 := .int .i64 d2.id) (d1 := .int .i64 d2.fr) (d2 := .bool d2.snap) (d3 := .slice fa2 d2.files.length fc2) (d4 := .int .i64 d2.next) HR2.out)
    refine bodyPost_ret (v := .tuple #[.agg #[.int .i64 d2.id, .int .i64 d2.fr, .bool d2.snap, .slice fa2 d2.files.length fc2, .int .i64 d2.next], .int .i64 0]) (by simp [results, Tryz.results42, go_sem, s0, s1, s2, s3, s4]) rfl ⟨⟨_, 0, d2, rfl, ⟨_, rfl, ?_⟩, .inl ⟨HOK.out.1, HOK.out.2, HSN.out, HG2.out⟩⟩, ?_⟩
    · exact (((((HX2.out.set 0 (Nat.lt_succ_self _) _).set 1 (Nat.lt_succ_self _) _).set 2 (Nat.lt_succ_self _) _).set 3 (Nat.lt_succ_self _) _).set 4 (Nat.lt_succ_self _) _).le (Nat.le_add_right _ _)
    · exact five_below HB2.out (Nat.le_succ _)
  · have HG2 : Hid (G er Go.Proofs.YtdpighcaieajjabGreat.v0) := hg2
    have hne1 : decide (er = 0) = false := decide_eq_false hne
    clear hg2
    go_wp2_with fail
    obtain ⟨s0, s1, s2, s3, s4, _⟩ := five (five_set (d0 := .int .i64 0) (d1 := .int .i64 0) (d2 := .bool false) (d3 := .slice none 0 0) (d4 := .int .i64 0) HR2.out)
    refine bodyPost_ret (v := .tuple #[.agg #[.int .i64 0, .int .i64 0, .bool false, .slice none 0 0, .int .i64 0], .int .i64 er]) (by simp [results, Tryz.results42, go_sem, s0, s1, s2, s3, s4]) rfl ⟨⟨_, er, _, rfl, ownVol_zero _ _, .inl ⟨HOK.out.1, HOK.out.2, HSN.out, HG2.out⟩⟩, ?_⟩
    exact five_below HB2.out (Nat.le_succ _)

end Go.Proofs.YtdpighcaieajjabGreat

/- A file and a directory made, by the program. -/
namespace Go.Proofs.YtdpighcaieajjabGreat
open Go.RowKit Go.Sort

/-- what making gives: the error and the volume -/
def MakeG (d : VolD) (p : ByteArray) (dir : Bool) (er : Int) (dd : VolD) : Prop :=
  ∃ L, pathN p = some L ∧ (((makF d L).2 = 0 ∧ er = 0 ∧ dd = newV d (makF d L).1 (lastN L) dir) ∨ ((makF d L).2 ≠ 0 ∧ er = (makF d L).2 ∧ dd = v0))
theorem CreateIs.act {d : VolD} {p : ByteArray} {L : List ByteArray} {dir : Bool} {base B : Nat} {e : Ending} {w' : World} (hp : pathN p = some L) (h : CreateIs d (makF d L) (lastN L) dir base B e w') : ActIs (MakeG d p dir) base B e w' := by
  rcases h with ⟨h1, h2, h3⟩ | ⟨h1, h2⟩
  · exact .inl ⟨_, h2, h3, L, hp, .inl ⟨h1, rfl, rfl⟩⟩
  · exact .inr ⟨_, h1, h2, L, hp, .inr ⟨h1, rfl, rfl⟩⟩

set_option maxRecDepth 100000 in
set_option maxHeartbeats 1000000 in
theorem make1_any (base B A : Nat) (d : VolD) (p : ByteArray) (L : List ByteArray) (w : World) (ho : OwnPtr w base B d) (hok : VolOk d) (hs : SmallV d) (hp : pathN p = some L) (hA : w.cell? ⟨A, 0, none⟩ = some (.string p)) :
    Calls Tryz.prog 43 #[.pointer (some ⟨B, 0, none⟩), .pointer (some ⟨A, 0, none⟩)] w fun e w' => ActIs (MakeG d p false) base B e w' ∧ KeepU w w' ∧ Below base w w' := by
  have HOK : Hid (VolOk d) := hok
  have HO : Hid (OwnPtr w base B d) := ho
  have HS : Hid (SmallV d) := hs
  have HP : Hid (pathN p = some L) := hp
  clear hok ho hs hp
  go_enter Tryz.func43, Tryz.ntmps43
  go_wp2_with fail
  refine (create_any base B d p L false _ HO.out HOK.out HS.out HP.out).mono ?_
  rintro e w1 ⟨hc, hk, hb⟩
  rcases hc.act HP.out with ⟨d', rfl, h1, h2⟩ | ⟨er, hne, rfl, h2⟩
  · have HA : Hid (ActIs (MakeG d p false) base B (.returned (.int .i64 0)) w1 ∧ KeepU w w1 ∧ Below base w w1) := ⟨.inl ⟨d', rfl, h1, h2⟩, hk, hb⟩
    clear h1 h2 hc hk hb
    go_wp2_with fail
    exact bodyPost_ret (v := .int .i64 0) (by simp [results, Tryz.results43, go_sem]) rfl HA.out
  · have HA : Hid (ActIs (MakeG d p false) base B (.returned (.int .i64 er)) w1 ∧ KeepU w w1 ∧ Below base w w1) := ⟨.inr ⟨er, hne, rfl, h2⟩, hk, hb⟩
    clear hne h2 hc hk hb
    go_wp2_with fail
    exact bodyPost_ret (v := .int .i64 er) (by simp [results, Tryz.results43, go_sem]) rfl HA.out

theorem four_at1 (w : World) (a b c d : Obj) : ((((w.alloc a).alloc b).alloc c).alloc d).heap[w.heap.size + 1]? = some b :=
  (Lib.alloc_old _ _ _ (by simp)).trans (three_1 w a b c)
theorem four_at2 (w : World) (a b c d : Obj) : ((((w.alloc a).alloc b).alloc c).alloc d).heap[w.heap.size + 2]? = some c :=
  (Lib.alloc_old _ _ _ (by simp)).trans (three_2 w a b c)
theorem size4 (w : World) (a b c d : Obj) : ((((w.alloc a).alloc b).alloc c).alloc d).heap.size = w.heap.size + 4 := by simp
theorem cell_of_block {w : World} {k : Nat} {v : Value} {t : TypeId} (h : w.heap[k]? = some (.cells #[v] t (0, 0))) : w.cell? ⟨k, 0, none⟩ = some v := by
  simp [World.cell?, h]

def makeP (w : World) (d : VolD) (a : Option Addr) (ca : Nat) (p : ByteArray) : World :=
  (((w.alloc (.cells #[.int .i64 d.id, .int .i64 d.fr, .bool d.snap, .slice a d.files.length ca, .int .i64 d.next] 24)).alloc (.cells #[.string p] 9)).alloc (.cells #[.int .i64 0, .int .i64 0, .bool false, .slice none 0 0, .int .i64 0] 24)).alloc (.cells #[.string p] 9)

set_option maxRecDepth 100000 in
set_option maxHeartbeats 1000000 in
theorem make_any (v : Value) (d : VolD) (p : ByteArray) (w : World) (hv : VolVal w v d) (hs : SmallV d) :
    Calls Tryz.prog 17 #[v, .string p] w fun e w' => (∃ u er dd, e = .returned (.tuple #[u, .int .i64 er]) ∧ OwnVol w' w.heap.size u dd ∧ ChangeR (MakeG d p false) d [p] er dd) ∧ Below w.heap.size w w' := by
  have HVV : Hid (VolVal w v d) := hv
  have HS : Hid (SmallV d) := hs
  obtain ⟨a, ca, rfl, _, _⟩ := hv
  have HB0 : Hid (Below w.heap.size w (makeP w d a ca p)) := nwA (nwA (nwA (nwA (nwR w) _) _) _) _
  have HR0 : Hid ((makeP w d a ca p).heap[w.heap.size + 2]? = some (.cells #[.int .i64 0, .int .i64 0, .bool false, .slice none 0 0, .int .i64 0] 24 (0, 0))) := four_at2 w _ _ _ _
  have HA0 : Hid ((makeP w d a ca p).heap[w.heap.size + 1]? = some (.cells #[.string p] 9 (0, 0))) := four_at1 w _ _ _ _
  have HSZ : Hid ((makeP w d a ca p).heap.size = w.heap.size + 4) := size4 w _ _ _ _
  have HST : Hid (StrsAt (makeP w d a ca p) (some ⟨w.heap.size + 3, 0, none⟩) [p]) := by
    have := StrsAt.of_alloc (w := ((w.alloc (.cells #[.int .i64 d.id, .int .i64 d.fr, .bool d.snap, .slice a d.files.length ca, .int .i64 d.next] 24)).alloc (.cells #[.string p] 9)).alloc (.cells #[.int .i64 0, .int .i64 0, .bool false, .slice none 0 0, .int .i64 0] 24)) (xs := [p]) (cs := #[.string p]) (t := 9) rfl
    rw [size3] at this
    exact this
  have eK : ∀ args w, (callFunc 43 args).run Tryz.prog w = .ok (.enter 43 args) w := enters_of Tryz.func43 (by kernel_rfl) rfl
  have HC : Hid (Calls Tryz.prog 42 #[.agg #[.int .i64 d.id, .int .i64 d.fr, .bool d.snap, .slice a d.files.length ca, .int .i64 d.next], .func (.func 43) #[] #[.pointer (some ⟨w.heap.size + 1, 0, none⟩)], .slice (some ⟨w.heap.size + 3, 0, none⟩) 1 1] (makeP w d a ca p) fun e w' => (∃ u er dd, e = .returned (.tuple #[u, .int .i64 er]) ∧ OwnVol w' (w.heap.size + 4) u dd ∧ ChangeR (MakeG d p false) d [p] er dd) ∧ Below (w.heap.size + 4) (makeP w d a ca p) w') := by
    have := change_any (MakeG d p false) 43 (w.heap.size + 1) eK _ d (some ⟨w.heap.size + 3, 0, none⟩) [p] 1 (makeP w d a ca p) (HVV.out.below HB0.out) HS.out HST.out (by simp) (fun w1 base B hb ho hok hps _ => by
      obtain ⟨L, hL⟩ := Option.isSome_iff_exists.1 (hps p (by simp))
      refine make1_any base B (w.heap.size + 1) d p L w1 ho hok HS.out hL (cell_of_block (t := 9) ?_)
      exact (hb.block _ (Array.getElem?_eq_some_iff.1 HA0.out).1).trans HA0.out)
    rw [HSZ.out] at this
    exact this
  unfold makeP at HC HB0 HR0
  clear hs HST HSZ HA0 HVV HS eK
  go_enter Tryz.func17, Tryz.ntmps17
  go_wp2_with fail
  refine HC.out.mono ?_
  rintro e w1 ⟨⟨u, er, dd, rfl, hu, hch⟩, hb1⟩
  have HB1 : Hid (Below w.heap.size w w1) := HB0.out.trans (hb1.mono (Nat.le_add_right _ _))
  have HR1 : Hid (w1.heap[w.heap.size + 2]? = some (.cells #[.int .i64 0, .int .i64 0, .bool false, .slice none 0 0, .int .i64 0] 24 (0, 0))) := (hb1.block _ (by omega)).trans HR0.out
  have HCH : Hid (ChangeR (MakeG d p false) d [p] er dd) := hch
  obtain ⟨fv, rfl, hfv⟩ := hu
  have HFV : Hid (OwnFiles w1 (w.heap.size + 4) fv dd.files) := hfv
  obtain ⟨fa, fc, rfl, _, _⟩ := hfv.at
  clear hb1 HB0 HR0 HC hch hfv
  obtain ⟨q0, q1, q2, q3, q4, qf⟩ := five HR1.out
  go_wp2_with fail
  obtain ⟨s0, s1, s2, s3, s4, _⟩ := five (five_set (d0 := .int .i64 dd.id) (d1 := .int .i64 dd.fr) (d2 := .bool dd.snap) (d3 := .slice fa dd.files.length fc) (d4 := .int .i64 dd.next) HR1.out)
  refine bodyPost_ret (v := .tuple #[.agg #[.int .i64 dd.id, .int .i64 dd.fr, .bool dd.snap, .slice fa dd.files.length fc, .int .i64 dd.next], .int .i64 er]) (by simp [results, Tryz.results17, go_sem, s0, s1, s2, s3, s4]) rfl ⟨⟨_, er, dd, rfl, ⟨_, rfl, ?_⟩, HCH.out⟩, ?_⟩
  · exact (((((HFV.out.set 0 (by omega) _).set 1 (by omega) _).set 2 (by omega) _).set 3 (by omega) _).set 4 (by omega) _).le (Nat.le_add_right _ _)
  · exact five_below HB1.out (by omega)

end Go.Proofs.YtdpighcaieajjabGreat
