/- A link more in a directory, by the program: the walk. -/
import Derived.Test.YtdpighcaieajjaaGreatRelist
import Derived.Deep.RegionLaw
namespace Go.Proofs.YtdpighcaieajjaaGreat
open Go.RowKit Go.Sort

set_option maxRecDepth 100000 in
set_option maxHeartbeats 4000000 in
theorem nadd_any (base g cap q lb : Nat) (fs : List FileD) (s : ByteArray) (id : Int) (W w : World) (hX : OwnFilesX W base (.slice (some ⟨g, 0, none⟩) fs.length cap) fs) (hW : Below W.heap.size W w) (hq : q < fs.length) (hl : (fs.getD q f0).list.length ≤ 11)
    (hst : StrictL (fs.getD q f0).list) (hnn : ∀ y ∈ (fs.getD q f0).list, y.1 ≠ s) (hlb : w.heap[lb]? = some (.cells #[.string s, .int .i64 id] 87 (0, 0))) :
    Calls Tryz.prog 104 #[.agg #[.pointer (some ⟨g, q * 5, none⟩)], .slice (some ⟨lb, 0, none⟩) 1 1] w fun e w' => e = .returned (.tuple #[]) ∧ OwnFilesX w' base (.slice (some ⟨g, 0, none⟩) fs.length cap) (fs.set q (withList (fs.getD q f0) (putL (fs.getD q f0).list (s, id)))) ∧ KeepT w w' ∧ Below base w w' := by
  obtain ⟨gs, hd, hrow, hown, hap⟩ := hX.below hW
  have hlen : gs.length = fs.length := by rw [← hd, List.length_map]
  obtain ⟨x, hx⟩ : ∃ x, gs[q]? = some x := ⟨gs[q]'(by omega), List.getElem?_eq_getElem (by omega)⟩
  have hxd : fs.getD q f0 = x.d := by
    rw [← hd]; obtain ⟨h1, h2⟩ := List.getElem?_eq_some_iff.1 hx; simp [List.getD, h1, h2]
  rw [hxd] at hl hst hnn ⊢
  have hxm : x ∈ gs := List.mem_of_getElem? hx
  have HB0 : Below w.heap.size w (w.alloc (.cells #[.pointer (some ⟨g, q * 5, none⟩)] 81)) := nwA (nwR w) _
  have HROW : Hid ((w.alloc (.cells #[.pointer (some ⟨g, q * 5, none⟩)] 81)).ownsRow base 39 5 (.slice (some ⟨g, 0, none⟩) fs.length cap) gs.length (fflat gs)) := own_below hrow HB0
  have HOWN : Hid (∀ y ∈ gs, OwnFV (w.alloc (.cells #[.pointer (some ⟨g, q * 5, none⟩)] 81)) base y) := fun y hy => (hown y hy).below HB0
  have HAP : Hid (Apart gs) := hap
  have HX : Hid (gs[q]? = some x) := hx
  have HD : Hid (gs.map FV.d = fs) := hd
  have HBX : Hid ((w.alloc (.cells #[.pointer (some ⟨g, q * 5, none⟩)] 81)).heap[w.heap.size]? = some (.cells #[.pointer (some ⟨g, q * 5, none⟩)] 81 (0, 0))) := heap_alloc_new w _
  have HLB : Hid ((w.alloc (.cells #[.pointer (some ⟨g, q * 5, none⟩)] 81)).heap[lb]? = some (.cells #[.string s, .int .i64 id] 87 (0, 0))) := (HB0.block _ (Array.getElem?_eq_some_iff.1 hlb).1).trans hlb
  have HK0 : Hid (KeepT w (w.alloc (.cells #[.pointer (some ⟨g, q * 5, none⟩)] 81))) := KeepT.of_below HB0
  have hbg := World.ownsRow.lt hrow g rfl
  have HBB : Hid (Below base w (w.alloc (.cells #[.pointer (some ⟨g, q * 5, none⟩)] 81))) := (Below.refl _ _).alloc (by omega) _
  have HST : Hid (StrictL x.d.list) := hst
  have HNN : Hid (∀ y ∈ x.d.list, y.1 ≠ s) := hnn
  obtain ⟨i0, hi, hz0, hz1, hz2⟩ := info_parts Tryz.info87
  clear hX hW hd hrow hown hap hx hlb hst hnn HB0
  go_enter Tryz.func104, Tryz.ntmps104
  go_wp2_with fail
  generalize hW0 : w.alloc (.cells #[.pointer (some ⟨g, q * 5, none⟩)] 81) = W0 at HROW HOWN HBX HLB HK0 HBB ⊢
  have hPl : w.heap.size < W0.heap.size := (Array.getElem?_eq_some_iff.1 HBX.out).1
  have hlbl : lb < W0.heap.size := (Array.getElem?_eq_some_iff.1 HLB.out).1
  clear hW0
  obtain ⟨_, _, _, _, f4⟩ := fflat_get gs q x HX.out
  have c4 : W0.cell? ⟨g, q * 5 + 4, none⟩ = some x.lv := by
    have := HROW.out.cells (g := g) rfl _ _ f4
    rw [Addr.add_lit, Nat.zero_add] at this
    exact this
  have HOL : Hid (OwnLinks W0 base x.lv x.d.list) := (HOWN.out x hxm).2
  have hol := HOL.out
  obtain ⟨al, cl, hlv, _, _⟩ := hol.at
  have HLV : Hid (x.lv = .slice al x.d.list.length cl) := hlv
  rw [hlv] at c4
  have hB1 : x.d.list.length + 1 ≤ maxLen := by unfold maxLen; omega
  have hB2 : (x.d.list.length + 1) * 24 ≤ 140737488355328 := by omega
  have HZB : Hid (∀ w' : World, w'.heap[w.heap.size]? = some (.cells #[.pointer (some ⟨g, q * 5, none⟩)] 81 (0, 0)) → w'.cell? ⟨w.heap.size, 0, none⟩ = some (.pointer (some ⟨g, q * 5, none⟩))) := fun w' h => (one_cell h).1
  have hS := HBX.out
  have HNE : Hid (¬ w.heap.size = g) := by show ¬ _; omega
  have HF4 : Hid ((fflat gs)[q * 5 + 4]? = some x.lv) := f4
  have HLE : Hid (gs.length = fs.length) := hlen
  clear hol hlv f4
  have b0 := (one_cell HBX.out).1
  go_region_law (first
    | (refine step_append_at (by rfl) (.tmp 10) (.tmp 11) 37 (by rfl) base 87 i0 (.agg #[.string ⟨#[]⟩, .int .i64 0]) 2 24 Tryz.underlying37 hi hz0 hz1 hz2 rfl (by decide) (.slice al x.d.list.length cl) x.d.list.length (lflat x.d.list) (by simp [Act.eval]) (by have h := HOL.out; rw [HLV.out] at h; exact h) ⟨lb, 0, none⟩ 1 1 [.string s, .int .i64 id] (by simp [Act.eval]) rfl (by intro j u hu; have h2 := two_cells HLB.out; rw [Addr.add_lit, Nat.zero_add]; match j, hu with | 0, hu => simp at hu; subst hu; exact h2.1 | 1, hu => simp at hu; subst hu; exact h2.2.1) (by simp [Value.oneCell']) hB1 hB2 (by show base ≤ W0.heap.size; omega) ?_; intro v1 w3 hown1 hgrow1 hat1; have hGR : W0.grownBy w3 x.lv.ownBlock := (by rw [HLV.out]; exact (gbOf (Below.drew (nwR W0)) _).trans hgrow1); have hS3 : w3.heap[w.heap.size]? = some (.cells #[.pointer (some ⟨g, q * 5, none⟩)] 81 (0, 0)) := (KeepT.of_gb hGR HOL.out (.inr rfl)).2 _ _ _ _ HBX.out (by decide) (by decide); have hR3 := own_keep HROW.out hGR (ne_of_tags HROW.out HOL.out (by decide)); have k4 : w3.cell? ⟨g, q * 5 + 4, none⟩ = some x.lv := (by have h := hR3.cells (g := g) rfl _ _ HF4.out; rw [Addr.add_lit, Nat.zero_add] at h; exact h); have kf : w3.frozen? ⟨g, q * 5 + 4, none⟩ = false := (by rw [HLE.out] at hR3; exact hR3.frozenAt _); obtain ⟨g1, cap1, rfl, hg1, _⟩ := slice_cells hown1 (Nat.succ_pos _); have b3 := (one_cell hS3).1)
    | fail)
  all_goals
    have HO3 : Hid (OwnLinks w3 base (.slice (some ⟨g1, 0, none⟩) (x.d.list.length + 1) cap1) (x.d.list ++ [(s, id)])) := OwnLinks.snoc hown1
    obtain ⟨cs3, hh3⟩ := own_tag hR3 g rfl
    have HO4 : Hid (OwnLinks (w3.setCell ⟨g, q * 5 + 4, none⟩ (.slice (some ⟨g1, 0, none⟩) (x.d.list.length + 1) cap1)) base (.slice (some ⟨g1, 0, none⟩) (x.d.list.length + 1) cap1) (x.d.list ++ [(s, id)])) := rowset2 HO3.out hh3 (by decide) _
    have hS4 : (w3.setCell ⟨g, q * 5 + 4, none⟩ (.slice (some ⟨g1, 0, none⟩) (x.d.list.length + 1) cap1)).heap[w.heap.size]? = some (.cells #[.pointer (some ⟨g, q * 5, none⟩)] 81 (0, 0)) := (KeepT.of_set _ hh3 (.inl rfl)).2 _ _ _ _ hS3 (by decide) (by decide)
    have hR4 : (w3.setCell ⟨g, q * 5 + 4, none⟩ (.slice (some ⟨g1, 0, none⟩) (x.d.list.length + 1) cap1)).cell? ⟨g, q * 5 + 4, none⟩ = some (.slice (some ⟨g1, 0, none⟩) (x.d.list.length + 1) cap1) := by
      have h := hR3
      rw [HLE.out] at h
      have h2 := (h.stored (q * 5 + 4) (.slice (some ⟨g1, 0, none⟩) (x.d.list.length + 1) cap1)).1.cells (g := g) rfl (q * 5 + 4) (.slice (some ⟨g1, 0, none⟩) (x.d.list.length + 1) cap1) (List.getElem?_set_self (List.getElem?_eq_some_iff.1 HF4.out).1)
      rw [Addr.add_lit, Nat.zero_add] at h2
      exact h2
    have b4 := (one_cell hS4).1
    have HGR : Hid (W0.grownBy w3 x.lv.ownBlock) := hGR
    have HAT : Hid ((Value.slice (some ⟨g1, 0, none⟩) (x.d.list.length + 1) cap1).ownBlock = x.lv.ownBlock ∨ (Value.slice (some ⟨g1, 0, none⟩) (x.d.list.length + 1) cap1).ownBlock = some W0.heap.size) := by rw [HLV.out]; exact hat1
    have HSO : Hid (Calls Tryz.prog 117 #[.slice (some ⟨g1, 0, none⟩) (x.d.list.length + 1) cap1, .func (.func 118) #[] #[]] (w3.setCell ⟨g, q * 5 + 4, none⟩ (.slice (some ⟨g1, 0, none⟩) (x.d.list.length + 1) cap1)) fun e w' => e = .returned (.tuple #[]) ∧ OwnLinks w' base (.slice (some ⟨g1, 0, none⟩) (x.d.list.length + 1) cap1) (putL x.d.list (s, id)) ∧ (w3.setCell ⟨g, q * 5 + 4, none⟩ (.slice (some ⟨g1, 0, none⟩) (x.d.list.length + 1) cap1)).grownBy w' (some g1)) := by
      refine (sort_any base _ (x.d.list ++ [(s, id)]) _ HO4.out (by rw [List.length_append, List.length_singleton]; omega) (by rw [List.length_append, List.length_singleton]; omega)).mono ?_
      rintro e w' ⟨h1, ⟨l2, _, hp, hsr, ho⟩, hgb⟩
      rw [sorted_put HST.out HNN.out hp hsr] at ho
      exact ⟨h1, ho, hgb⟩
    have HFIN : Hid (∀ w5, OwnLinks w5 base (.slice (some ⟨g1, 0, none⟩) (x.d.list.length + 1) cap1) (putL x.d.list (s, id)) → (w3.setCell ⟨g, q * 5 + 4, none⟩ (.slice (some ⟨g1, 0, none⟩) (x.d.list.length + 1) cap1)).grownBy w5 (some g1) → OwnFilesX w5 base (.slice (some ⟨g, 0, none⟩) fs.length cap) (fs.set q (withList x.d (putL x.d.list (s, id)))) ∧ KeepT w w5 ∧ Below base w w5) := fun w5 h1 h2 => by
      have h := relist HROW.out HOWN.out HAP.out HX.out HGR.out HO3.out HAT.out h2 h1
      rw [HD.out] at h
      have hbl := HBB.out
      exact ⟨h.1, HK0.out.trans h.2.1, hbl.trans h.2.2⟩
    clear hown1 hgrow1 hat1 hGR hS3 hR3 k4 kf b3 hh3 hS4 c4 b0 hS
    go_wp2_with (go_at_call 117; refine HSO.out.mono ?_; rintro e w5 ⟨rfl, ho5, hg5⟩; have HF5 := HFIN.out w5 ho5 hg5; clear ho5 hg5)
    go_end0
    exact ⟨rfl, HF5⟩

end Go.Proofs.YtdpighcaieajjaaGreat
