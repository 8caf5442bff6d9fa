/- How deep the deepest path below a file is, by the page. -/
import Derived.Test.YtdpighcaieajjaaGreatPar
import Derived.Deep.CutRange
namespace Go.Proofs.YtdpighcaieajjaaGreat
open Go.RowKit

def deepF (fs : List FileD) : Nat → Int → Nat
  | 0, id => if (fs.getD (placeOf fs id) f0).list.length = 0 then 0 else 6
  | n + 1, id => (fs.getD (placeOf fs id) f0).list.foldl (fun m l => max m (1 + deepF fs n l.2)) 0
theorem foldl_max_le {α : Type} (l : List α) (g : α → Nat) (B : Nat) (h : ∀ x ∈ l, g x ≤ B) : ∀ m, m ≤ B → l.foldl (fun m x => max m (g x)) m ≤ B := by
  induction l with
  | nil => intro m hm; exact hm
  | cons x r ih =>
    intro m hm
    have h1 := h x (by simp)
    exact ih (fun y hy => h y (by simp [hy])) (max m (g x)) (by omega)
theorem deepF_le (fs : List FileD) : ∀ n id, deepF fs n id ≤ n + 6 := by
  intro n
  induction n with
  | zero => intro id; unfold deepF; split <;> omega
  | succ n ih =>
    intro id
    unfold deepF
    exact foldl_max_le _ (fun (l : LinkD) => 1 + deepF fs n l.2) (n + 1 + 6) (fun l _ => by have := ih l.2; omega) 0 (by omega)

theorem five_below {a w : World} {g n : Nat} {c0 c1 c2 c3 c4 : Value} (h : Below n a w) (hg : n ≤ g) : Below n a (((((w.setCell ⟨g, 0, none⟩ c0).setCell ⟨g, 1, none⟩ c1).setCell ⟨g, 2, none⟩ c2).setCell ⟨g, 3, none⟩ c3).setCell ⟨g, 4, none⟩ c4) :=
  ((((h.setCell hg _).setCell hg _).setCell hg _).setCell hg _).setCell hg _
theorem five_set {w : World} {g : Nat} {c0 c1 c2 c3 c4 d0 d1 d2 d3 d4 : Value} {t : TypeId} (h : w.heap[g]? = some (.cells #[c0, c1, c2, c3, c4] t (0, 0))) : (((((w.setCell ⟨g, 0, none⟩ d0).setCell ⟨g, 1, none⟩ d1).setCell ⟨g, 2, none⟩ d2).setCell ⟨g, 3, none⟩ d3).setCell ⟨g, 4, none⟩ d4).heap[g]? = some (.cells #[d0, d1, d2, d3, d4] t (0, 0)) := by
  have h1 := heap_setCell_same w g 0 _ t d0 h
  have h2 := heap_setCell_same _ g 1 _ t d1 h1
  have h3 := heap_setCell_same _ g 2 _ t d2 h2
  have h4 := heap_setCell_same _ g 3 _ t d3 h3
  have h5 := heap_setCell_same _ g 4 _ t d4 h4
  simpa using h5

set_option maxRecDepth 100000 in
set_option maxHeartbeats 4000000 in
theorem deep_step (v : Value) (d : VolD) (hs : SmallV d) (hsd : Sound d.files) (n0 : Nat) (hn : n0 ≤ 1000) (ih : ∀ n, n0 = n + 1 → ∀ (id : Int) (w : World), VolVal w v d → (atI d.files id).isSome = true →
      Calls Tryz.prog 46 #[v, .int .i64 id, .int .i64 n] w fun e w' => e = .returned (.int .i64 (deepF d.files n id)) ∧ Below w.heap.size w w') : ∀ (id : Int) (w : World), VolVal w v d → (atI d.files id).isSome = true →
    Calls Tryz.prog 46 #[v, .int .i64 id, .int .i64 n0] w fun e w' => e = .returned (.int .i64 (deepF d.files n0 id)) ∧ Below w.heap.size w w' := by
    intro id w hv his
    have IH : Hid (∀ n, n0 = n + 1 → ∀ (id : Int) (w : World), VolVal w v d → (atI d.files id).isSome = true →
      Calls Tryz.prog 46 #[v, .int .i64 id, .int .i64 n] w fun e w' => e = .returned (.int .i64 (deepF d.files n id)) ∧ Below w.heap.size w w') := ih
    clear ih
    have hv2 := hv
    obtain ⟨av, ca, rfl, hfs, hcp⟩ := hv2
    have HF : Hid (FilesAt w av d.files) := hfs
    clear hfs hv
    obtain ⟨vid, fr, snap, fs, next⟩ := d
    simp only [SmallV] at *
    obtain ⟨hl, hs2⟩ := hs
    have HS : Hid (∀ f ∈ fs, SmallF f) := hs2
    have HSD : Hid (Sound fs) := hsd
    clear hs2 hsd
    have HVO : Hid (∀ w', FilesAt w' av fs → VolVal w' (.agg #[.int .i64 vid, .int .i64 fr, .bool snap, .slice av fs.length ca, .int .i64 next]) ⟨vid, fr, snap, fs, next⟩) := fun w' h => ⟨av, ca, rfl, h, hcp⟩
    obtain ⟨q, hat⟩ := Option.isSome_iff_exists.1 his
    have hq := atI_lt hat
    have HAT : Hid (atI fs id = some q) := hat
    have HQ : Hid (placeOf fs id = q) := by show _ = _; unfold placeOf; rw [hat]; rfl
    have HD : Hid (deepF fs n0 id = match (generalizing := false) n0 with
        | 0 => if (fs.getD q f0).list.length = 0 then 0 else 6
        | n + 1 => (fs.getD q f0).list.foldl (fun m l => max m (1 + deepF fs n l.2)) 0) := by
      show _ = _
      cases n0 <;> rw [deepF, HQ.out]
    clear his hat
    obtain ⟨m, hm⟩ : ∃ m : Int, m = ((n0 : Nat) : Int) := ⟨_, rfl⟩
    rw [← hm]
    have HM : Hid (m = ((n0 : Nat) : Int)) := hm
    clear hm
    go_enter Tryz.func46, Tryz.ntmps46
    go_wp2_with fail
    obtain ⟨W0, hW0⟩ : ∃ W0, W0 = w.alloc (.cells #[.int .i64 vid, .int .i64 fr, .bool snap, .slice av fs.length ca, .int .i64 next] 24) := ⟨_, rfl⟩
    have HB0 : Hid (Below w.heap.size w W0) := by rw [hW0]; exact nwA (nwR w) _
    have HF0 : Hid (FilesAt W0 av fs) := HF.out.below HB0.out
    have HBX : Hid (W0.heap[w.heap.size]? = some (.cells #[.int .i64 vid, .int .i64 fr, .bool snap, .slice av fs.length ca, .int .i64 next] 24 (0, 0))) := by rw [hW0]; exact heap_alloc_new w _
    rw [← hW0]
    clear hW0 HF
    have hS := nwR W0
    obtain ⟨x0, x1, x2, x3, x4, _⟩ := five HBX.out
    obtain ⟨b1, o1, rfl, hf⟩ := HF0.out.file hq
    obtain ⟨ab, cb, al, cl, ⟨c0, c1, c2, c3, c4⟩, _, hli, _⟩ := hf
    have hsm := (HS.out (fs.getD q f0) (by simp [List.getD, hq])).2
    have HLI : Hid (LinksAt W0 al (fs.getD q f0).list) := hli
    have HSO : Hid (∀ j, j < (fs.getD q f0).list.length → (atI fs ((fs.getD q f0).list.getD j lk0).2).isSome = true) := fun j hj => by
      obtain ⟨p, hp, _⟩ := HSD.out.at hq hj
      rw [hp]; rfl
    generalize fs.getD q f0 = f at c0 c1 c2 c3 c4 hsm HLI HSO HD
    obtain ⟨fid, fdir, fsize, fbl, fli⟩ := f
    simp only at c0 c1 c2 c3 c4 hsm HLI HSO HD
    clear hli
    have z0 : ∀ w', Below W0.heap.size W0 w' → w'.cell? ⟨w.heap.size, 0, none⟩ = some (.int .i64 vid) := fun w' h => (h.cell (p := ⟨w.heap.size, 0, none⟩) (block_lt_of_cell x0)).trans x0
    have z1 : ∀ w', Below W0.heap.size W0 w' → w'.cell? ⟨w.heap.size, 1, none⟩ = some (.int .i64 fr) := fun w' h => (h.cell (p := ⟨w.heap.size, 1, none⟩) (block_lt_of_cell x1)).trans x1
    have z2 : ∀ w', Below W0.heap.size W0 w' → w'.cell? ⟨w.heap.size, 2, none⟩ = some (.bool snap) := fun w' h => (h.cell (p := ⟨w.heap.size, 2, none⟩) (block_lt_of_cell x2)).trans x2
    have z3 : ∀ w', Below W0.heap.size W0 w' → w'.cell? ⟨w.heap.size, 3, none⟩ = some (.slice (some ⟨b1, o1, none⟩) fs.length ca) := fun w' h => (h.cell (p := ⟨w.heap.size, 3, none⟩) (block_lt_of_cell x3)).trans x3
    have z4 : ∀ w', Below W0.heap.size W0 w' → w'.cell? ⟨w.heap.size, 4, none⟩ = some (.int .i64 next) := fun w' h => (h.cell (p := ⟨w.heap.size, 4, none⟩) (block_lt_of_cell x4)).trans x4
    have y0 : ∀ w', Below W0.heap.size W0 w' → w'.cell? ⟨b1, o1 + q * 5, none⟩ = some (.int .i64 fid) := fun w' h => (h.cell (p := ⟨b1, o1 + q * 5, none⟩) (block_lt_of_cell c0)).trans c0
    have y1 : ∀ w', Below W0.heap.size W0 w' → w'.cell? ⟨b1, o1 + q * 5 + 1, none⟩ = some (.bool fdir) := fun w' h => (h.cell (p := ⟨b1, o1 + q * 5 + 1, none⟩) (block_lt_of_cell c1)).trans c1
    have y2 : ∀ w', Below W0.heap.size W0 w' → w'.cell? ⟨b1, o1 + q * 5 + 2, none⟩ = some (.int .i64 fsize) := fun w' h => (h.cell (p := ⟨b1, o1 + q * 5 + 2, none⟩) (block_lt_of_cell c2)).trans c2
    have y3 : ∀ w', Below W0.heap.size W0 w' → w'.cell? ⟨b1, o1 + q * 5 + 3, none⟩ = some (.slice ab fbl.length cb) := fun w' h => (h.cell (p := ⟨b1, o1 + q * 5 + 3, none⟩) (block_lt_of_cell c3)).trans c3
    have y4 : ∀ w', Below W0.heap.size W0 w' → w'.cell? ⟨b1, o1 + q * 5 + 4, none⟩ = some (.slice al fli.length cl) := fun w' h => (h.cell (p := ⟨b1, o1 + q * 5 + 4, none⟩) (block_lt_of_cell c4)).trans c4
    have hq0 : (0 : Int) ≤ (q : Int) := by omega
    have hqi : (q : Int) < (fs.length : Int) := by omega
    have xlt : w.heap.size < W0.heap.size := block_lt_of_cell x0
    have clt : b1 < W0.heap.size := block_lt_of_cell c0
    go_upto_region 2 with fail
    go_cut [8] from 9 to 39 (fun p wx => ∃ B, p = .pointer (some ⟨B, 0, none⟩) ∧ Below W0.heap.size W0 wx ∧ wx.heap[B]? = some (.cells #[.int .i64 fid, .bool fdir, .int .i64 fsize, .slice ab fbl.length cb, .slice al fli.length cl] 39 (0, 0)))
    case first =>
      go_region_with (first
        | (go_at_call 51; refine (at_any _ ⟨vid, fr, snap, fs, next⟩ id _ (HVO.out _ (HF0.out.below (Below.drew hS))) hl).mono ?_; rintro e wU ⟨rfl, hbU⟩; have hbu : Below W0.heap.size W0 wU := nwT (Below.drew hS) hbU; have k5 := z3 wU hbu; have klx : w.heap.size < wU.heap.size := block_lt_of_cell k5; have k0 := y0 wU hbu; have k1 := y1 wU hbu; have k2 := y2 wU hbu; have k3 := y3 wU hbu; have k4 := y4 wU hbu; have klt : b1 < wU.heap.size := block_lt_of_cell k0; simp only [HAT.out, optI])
        | (go_at_call 51; refine (at_any _ ⟨vid, fr, snap, fs, next⟩ id _ (HVO.out _ (HF0.out.below (Below.drew (nwA hS _)))) hl).mono ?_; rintro e wU ⟨rfl, hbU⟩; have hbu : Below W0.heap.size W0 wU := nwT (Below.drew (nwA hS _)) hbU; have tH := (hbU.block W0.heap.size (by simp)).trans (heap_alloc_new W0 _); obtain ⟨t0, t1, t2, t3, t4, tf⟩ := five (w := wU) tH; have k5 := z3 wU hbu; have klx : w.heap.size < wU.heap.size := block_lt_of_cell k5; have k0 := y0 wU hbu; have k1 := y1 wU hbu; have k2 := y2 wU hbu; have k3 := y3 wU hbu; have k4 := y4 wU hbu; simp only [HAT.out, optI])
        | fail)
      all_goals
        go_wp2_with fail
        go_meet
        refine ⟨_, by with_reducible rfl, ?_, ?_⟩
        · first | with_reducible exact nwA hbu _ | with_reducible exact five_below hbu (Nat.le_refl _)
        · first | with_reducible exact heap_alloc_new _ _ | with_reducible exact five_set tH
    case rest =>
      obtain ⟨B, rfl, hbc, hB⟩ := hcut
      clear z0 z1 z2 z3 z4 y0 y1 y2 y3 y4 x0 x1 x2 x3 x4 c0 c1 c2 c3 c4 xlt clt hS
      have HX : Hid (wc.heap[w.heap.size]? = some (.cells #[.int .i64 vid, .int .i64 fr, .bool snap, .slice (some ⟨b1, o1, none⟩) fs.length ca, .int .i64 next] 24 (0, 0))) := (hbc.block _ (Array.getElem?_eq_some_iff.1 HBX.out).1).trans HBX.out
      have HBL : Hid (wc.heap[B]? = some (.cells #[.int .i64 fid, .bool fdir, .int .i64 fsize, .slice ab fbl.length cb, .slice al fli.length cl] 39 (0, 0))) := hB
      have HFC : Hid (FilesAt wc (some ⟨b1, o1, none⟩) fs) := HF0.out.below hbc
      have HLC : Hid (LinksAt wc al fli) := HLI.out.below hbc
      have HBC : Hid (Below w.heap.size w wc) := nwT HB0.out hbc
      clear hbc hB HBX HF0 HLI
      cases n0 with
      | zero =>
        have HM0 : m = 0 := HM.out
        clear HM IH HSO HVO HS HSD HFC HLC HX
        have HD0 : Hid (deepF fs 0 id = if fli.length = 0 then 0 else 6) := HD.out
        clear HD
        obtain ⟨_, _, _, _, c4, _⟩ := five HBL.out
        subst HM0
        go_wp2_with fail
        go_loopw [7, 9] (fun m i wr => i = .int .i64 0 ∧ m = .int .i64 0 ∧ wr = wc) (fun _ _ _ => 0)
        case atStart => exact ⟨rfl, rfl, rfl⟩
        case round =>
          obtain ⟨rfl, rfl, rfl⟩ := hrel
          by_cases h : 0 < fli.length
          · have hi : (0 : Int) < (fli.length : Int) := by omega
            go_wp2_with fail
            go_ret
            exact ⟨by rw [HD0.out, if_neg (by omega)]; rfl, HBC.out⟩
          · have hi : ¬ (0 : Int) < (fli.length : Int) := by omega
            go_wp2_with fail
            go_ret
            exact ⟨by rw [HD0.out, if_pos (by omega)]; rfl, HBC.out⟩
      | succ n =>
        have IH2 : Hid (∀ (id : Int) (w : World), VolVal w (.agg #[.int .i64 vid, .int .i64 fr, .bool snap, .slice (some ⟨b1, o1, none⟩) fs.length ca, .int .i64 next]) ⟨vid, fr, snap, fs, next⟩ → (atI fs id).isSome = true →
          Calls Tryz.prog 46 #[.agg #[.int .i64 vid, .int .i64 fr, .bool snap, .slice (some ⟨b1, o1, none⟩) fs.length ca, .int .i64 next], .int .i64 id, .int .i64 n] w fun e w' => e = .returned (.int .i64 (deepF fs n id)) ∧ Below w.heap.size w w') := IH.out n rfl
        have HD1 : Hid (deepF fs (n + 1) id = fli.foldl (fun m l => max m (1 + deepF fs n l.2)) 0) := HD.out
        clear IH HD
        go_wp2_with fail
        go_loopw [7, 9] (fun m i wr => ∃ (k : Nat), k ≤ fli.length ∧ i = .int .i64 k ∧ m = .int .i64 ((fli.take k).foldl (fun m l => max m (1 + deepF fs n l.2)) 0 : Nat) ∧ Below wc.heap.size wc wr)
          (fun _ i _ => fli.length - (intOf i).toNat)
        case atStart => exact ⟨0, by omega, rfl, rfl, nwR wc⟩
        case round =>
          obtain ⟨k, hk, rfl, rfl, hb⟩ := hrel
          obtain ⟨x0, x1, x2, x3, x4, _⟩ := five ((hb.block _ (Array.getElem?_eq_some_iff.1 HX.out).1).trans HX.out)
          obtain ⟨_, _, _, _, c4, _⟩ := five ((hb.block _ (Array.getElem?_eq_some_iff.1 HBL.out).1).trans HBL.out)
          by_cases hlt : k < fli.length
          · have hlti : (k : Int) < (fli.length : Int) := by omega
            have hk0 : (0 : Int) ≤ (k : Int) := by omega
            obtain ⟨b3, o3, rfl, _, d2⟩ := (HLC.out.below hb).cell hlt
            have HIS : Hid ((atI fs (fli.getD k lk0).2).isSome = true) := HSO.out k hlt
            have HST : Hid ((fli.take (k + 1)).foldl (fun m l => max m (1 + deepF fs n l.2)) 0 = max ((fli.take k).foldl (fun m l => max m (1 + deepF fs n l.2)) 0) (1 + deepF fs n (fli.getD k lk0).2)) := by
              show _ = _
              rw [List.take_succ_eq_append_getElem hlt, List.foldl_append]
              simp [List.getD, hlt]
            have hM : (fli.take k).foldl (fun m l => max m (1 + deepF fs n l.2)) 0 ≤ n + 7 := foldl_max_le _ (fun (l : LinkD) => 1 + deepF fs n l.2) (n + 7) (fun l _ => by have := deepF_le fs n l.2; omega) 0 (by omega)
            have hD := deepF_le fs n (fli.getD k lk0).2
            generalize (fli.take k).foldl (fun m l => max m (1 + deepF fs n l.2)) 0 = M at HST hM
            generalize (fli.getD k lk0).2 = z at d2 HIS HST hD
            have hCALL := IH2.out z
            generalize deepF fs n z = D at HST hD hCALL
            have HCL : Hid (∀ w', Below wr.heap.size wr w' → Calls Tryz.prog 46 #[.agg #[.int .i64 vid, .int .i64 fr, .bool snap, .slice (some ⟨b1, o1, none⟩) fs.length ca, .int .i64 next], .int .i64 z, .int .i64 n] w' fun e w'' => e = .returned (.int .i64 D) ∧ Below w'.heap.size w' w'') := fun w' h => hCALL w' (HVO.out _ (HFC.out.below (nwT hb h))) HIS.out
            clear hCALL
            have hS := nwR wr
            have z0 : ∀ w', Below wr.heap.size wr w' → w'.cell? ⟨w.heap.size, 0, none⟩ = some (.int .i64 vid) := fun w' h => (h.cell (p := ⟨w.heap.size, 0, none⟩) (block_lt_of_cell x0)).trans x0
            have z1 : ∀ w', Below wr.heap.size wr w' → w'.cell? ⟨w.heap.size, 1, none⟩ = some (.int .i64 fr) := fun w' h => (h.cell (p := ⟨w.heap.size, 1, none⟩) (block_lt_of_cell x1)).trans x1
            have z2 : ∀ w', Below wr.heap.size wr w' → w'.cell? ⟨w.heap.size, 2, none⟩ = some (.bool snap) := fun w' h => (h.cell (p := ⟨w.heap.size, 2, none⟩) (block_lt_of_cell x2)).trans x2
            have z3 : ∀ w', Below wr.heap.size wr w' → w'.cell? ⟨w.heap.size, 3, none⟩ = some (.slice (some ⟨b1, o1, none⟩) fs.length ca) := fun w' h => (h.cell (p := ⟨w.heap.size, 3, none⟩) (block_lt_of_cell x3)).trans x3
            have z4 : ∀ w', Below wr.heap.size wr w' → w'.cell? ⟨w.heap.size, 4, none⟩ = some (.int .i64 next) := fun w' h => (h.cell (p := ⟨w.heap.size, 4, none⟩) (block_lt_of_cell x4)).trans x4
            have z5 : ∀ w', Below wr.heap.size wr w' → w'.cell? ⟨B, 4, none⟩ = some (.slice (some ⟨b3, o3, none⟩) fli.length cl) := fun w' h => (h.cell (p := ⟨B, 4, none⟩) (block_lt_of_cell c4)).trans c4
            have z6 : ∀ w', Below wr.heap.size wr w' → w'.cell? ⟨b3, o3 + k * 2 + 1, none⟩ = some (.int .i64 z) := fun w' h => (h.cell (p := ⟨b3, o3 + k * 2 + 1, none⟩) (block_lt_of_cell d2)).trans d2
            have e0 : (m == 0) = false := beq_eq_false_iff_ne.2 (by have := HM.out; omega)
            clear x0 x1 x2 x3 x4 d2
            go_wp2_with fail
            have e1 : IntKind.i64.wrap (m - 1) = (n : Int) := by have := HM.out; rw [wrap_any (by omega) (by omega)]; omega
            have e3 : IntKind.i64.wrap (n : Int) = (n : Int) := wrap_any (by omega) (by omega)
            have e4 : IntKind.i64.wrap (1 + (D : Int)) = 1 + (D : Int) := wrap_any (by omega) (by omega)
            clear c4
            go_region_held3 (fun w' => Below wr.heap.size wr w') (first | assumption | exact Below.drew (by assumption) | exact nwT (by assumption) (by assumption)) (first
              | (go_at_call 46; refine (HCL.out _ (by assumption)).mono ?_; rintro e wU ⟨rfl, hbU⟩)
              | fail)
            have hbu : Below wr.heap.size wr wU := by assumption
            clear z0 z1 z2 z3 z4 z5 z6 e1 e3 e4
            go_wp2_with fail
            go_roundw
            case rel => exact ⟨k + 1, by omega, by go_num, by rw [HST.out]; congr 1; omega, nwT hb hbu⟩
            case measure => simp [intOf]; omega
          · have hlti : ¬ (k : Int) < (fli.length : Int) := by omega
            have e : fli.take k = fli := List.take_of_length_le (by omega)
            rw [e]
            go_wp2_with fail
            go_ret
            exact ⟨by rw [HD1.out]; rfl, nwT HBC.out hb⟩

theorem deep_any (v : Value) (d : VolD) (hs : SmallV d) (hsd : Sound d.files) (n : Nat) (hn : n ≤ 1000) : ∀ (id : Int) (w : World), VolVal w v d → (atI d.files id).isSome = true →
    Calls Tryz.prog 46 #[v, .int .i64 id, .int .i64 n] w fun e w' => e = .returned (.int .i64 (deepF d.files n id)) ∧ Below w.heap.size w w' := by
  induction n with
  | zero => exact deep_step v d hs hsd 0 hn (fun n h => by omega)
  | succ n ih => exact deep_step v d hs hsd (n + 1) hn (fun k h => by
    have e : n = k := by omega
    subst e
    exact ih (by omega))

end Go.Proofs.YtdpighcaieajjaaGreat
