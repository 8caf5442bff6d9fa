/- Laid together: Deep, Treem, Put, New, Filep. -/
import Derived.Test.YtodahdnnlkcfdaaVolM3
import Derived.Deep.CutRange
/- How deep the deepest path below a file is, by the page. -/
namespace Go.Proofs.Ytodahdnnlkcfdaa
open Go.RowKit

def deepF (fs : List FileD) : Nat → Int → Nat
  | 0, id => if (fs.getD (placeOf fs id) f0).list.length = 0 then 0 else 6
  | n + 1, id => (fs.getD (placeOf fs id) f0).list.foldl (fun m l => max m (1 + deepF fs n l.2)) 0
theorem foldl_max_le {α : Type} (l : List α) (g : α → Nat) (B : Nat) (h : ∀ x ∈ l, g x ≤ B) : ∀ m, m ≤ B → l.foldl (fun m x => max m (g x)) m ≤ B := by
  induction l with
  | nil => intro m hm; exact hm
  | cons x r ih =>
    intro m hm
    have h1 := h x (by simp)
    exact ih (fun y hy => h y (by simp [hy])) (max m (g x)) (by omega)
theorem deepF_le (fs : List FileD) : ∀ n id, deepF fs n id ≤ n + 6 := by
  intro n
  induction n with
  | zero => intro id; unfold deepF; split <;> omega
  | succ n ih =>
    intro id
    unfold deepF
    exact foldl_max_le _ (fun (l : LinkD) => 1 + deepF fs n l.2) (n + 1 + 6) (fun l _ => by have := ih l.2; omega) 0 (by omega)

theorem five_below {a w : World} {g n : Nat} {c0 c1 c2 c3 c4 : Value} (h : Below n a w) (hg : n ≤ g) : Below n a (((((w.setCell ⟨g, 0, none⟩ c0).setCell ⟨g, 1, none⟩ c1).setCell ⟨g, 2, none⟩ c2).setCell ⟨g, 3, none⟩ c3).setCell ⟨g, 4, none⟩ c4) :=
  ((((h.setCell hg _).setCell hg _).setCell hg _).setCell hg _).setCell hg _
theorem five_set {w : World} {g : Nat} {c0 c1 c2 c3 c4 d0 d1 d2 d3 d4 : Value} {t : TypeId} (h : w.heap[g]? = some (.cells #[c0, c1, c2, c3, c4] t (0, 0))) : (((((w.setCell ⟨g, 0, none⟩ d0).setCell ⟨g, 1, none⟩ d1).setCell ⟨g, 2, none⟩ d2).setCell ⟨g, 3, none⟩ d3).setCell ⟨g, 4, none⟩ d4).heap[g]? = some (.cells #[d0, d1, d2, d3, d4] t (0, 0)) := by
  have h1 := heap_setCell_same w g 0 _ t d0 h
  have h2 := heap_setCell_same _ g 1 _ t d1 h1
  have h3 := heap_setCell_same _ g 2 _ t d2 h2
  have h4 := heap_setCell_same _ g 3 _ t d3 h3
  have h5 := heap_setCell_same _ g 4 _ t d4 h4
  simpa using h5

set_option maxRecDepth 100000 in
set_option maxHeartbeats 4000000 in
theorem deep_step (v : Value) (d : VolD) (hs : SmallV d) (hsd : Sound d.files) (n0 : Nat) (hn : n0 ≤ 1000) (ih : ∀ n, n0 = n + 1 → ∀ (id : Int) (w : World), VolVal w v d → (atI d.files id).isSome = true →
      Calls Try.prog 58 #[v, .int .i64 id, .int .i64 n] w fun e w' => e = .returned (.int .i64 (deepF d.files n id)) ∧ Below w.heap.size w w') : ∀ (id : Int) (w : World), VolVal w v d → (atI d.files id).isSome = true →
    Calls Try.prog 58 #[v, .int .i64 id, .int .i64 n0] w fun e w' => e = .returned (.int .i64 (deepF d.files n0 id)) ∧ Below w.heap.size w w' := by
    intro id w hv his
    have IH : Hid (∀ n, n0 = n + 1 → ∀ (id : Int) (w : World), VolVal w v d → (atI d.files id).isSome = true →
      Calls Try.prog 58 #[v, .int .i64 id, .int .i64 n] w fun e w' => e = .returned (.int .i64 (deepF d.files n id)) ∧ Below w.heap.size w w') := ih
    clear ih
    have hv2 := hv
    obtain ⟨av, ca, rfl, hfs, hcp⟩ := hv2
    have HF : Hid (FilesAt w av d.files) := hfs
    clear hfs hv
    obtain ⟨vid, fr, snap, fs, next⟩ := d
    simp only [SmallV] at *
    obtain ⟨hl, hs2⟩ := hs
    have HS : Hid (∀ f ∈ fs, SmallF f) := hs2
    have HSD : Hid (Sound fs) := hsd
    clear hs2 hsd
    have HVO : Hid (∀ w', FilesAt w' av fs → VolVal w' (.agg #[.int .i64 vid, .int .i64 fr, .bool snap, .slice av fs.length ca, .int .i64 next]) ⟨vid, fr, snap, fs, next⟩) := fun w' h => ⟨av, ca, rfl, h, hcp⟩
    obtain ⟨q, hat⟩ := Option.isSome_iff_exists.1 his
    have hq := atI_lt hat
    have HAT : Hid (atI fs id = some q) := hat
    have HQ : Hid (placeOf fs id = q) := by show _ = _; unfold placeOf; rw [hat]; rfl
    have HD : Hid (deepF fs n0 id = match (generalizing := false) n0 with
        | 0 => if (fs.getD q f0).list.length = 0 then 0 else 6
        | n + 1 => (fs.getD q f0).list.foldl (fun m l => max m (1 + deepF fs n l.2)) 0) := by
      show _ = _
      cases n0 <;> rw [deepF, HQ.out]
    clear his hat
    obtain ⟨m, hm⟩ : ∃ m : Int, m = ((n0 : Nat) : Int) := ⟨_, rfl⟩
    rw [← hm]
    have HM : Hid (m = ((n0 : Nat) : Int)) := hm
    clear hm
    go_enter Try.func58, Try.ntmps58
    go_wp2_with fail
    obtain ⟨W0, hW0⟩ : ∃ W0, W0 = w.alloc (.cells #[.int .i64 vid, .int .i64 fr, .bool snap, .slice av fs.length ca, .int .i64 next] 32) := ⟨_, rfl⟩
    have HB0 : Hid (Below w.heap.size w W0) := by rw [hW0]; exact nwA (nwR w) _
    have HF0 : Hid (FilesAt W0 av fs) := HF.out.below HB0.out
    have HBX : Hid (W0.heap[w.heap.size]? = some (.cells #[.int .i64 vid, .int .i64 fr, .bool snap, .slice av fs.length ca, .int .i64 next] 32 (0, 0))) := by rw [hW0]; exact heap_alloc_new w _
    rw [← hW0]
    clear hW0 HF
    have hS := nwR W0
    obtain ⟨x0, x1, x2, x3, x4, _⟩ := five HBX.out
    obtain ⟨b1, o1, rfl, hf⟩ := HF0.out.file hq
    obtain ⟨ab, cb, al, cl, ⟨c0, c1, c2, c3, c4⟩, _, hli, _⟩ := hf
    have hsm := (HS.out (fs.getD q f0) (by simp [List.getD, hq])).2
    have HLI : Hid (LinksAt W0 al (fs.getD q f0).list) := hli
    have HSO : Hid (∀ j, j < (fs.getD q f0).list.length → (atI fs ((fs.getD q f0).list.getD j lk0).2).isSome = true) := fun j hj => by
      obtain ⟨p, hp, _⟩ := HSD.out.at hq hj
      rw [hp]; rfl
    generalize fs.getD q f0 = f at c0 c1 c2 c3 c4 hsm HLI HSO HD
    obtain ⟨fid, fdir, fsize, fbl, fli⟩ := f
    simp only at c0 c1 c2 c3 c4 hsm HLI HSO HD
    clear hli
    have z0 : ∀ w', Below W0.heap.size W0 w' → w'.cell? ⟨w.heap.size, 0, none⟩ = some (.int .i64 vid) := fun w' h => (h.cell (p := ⟨w.heap.size, 0, none⟩) (block_lt_of_cell x0)).trans x0
    have z1 : ∀ w', Below W0.heap.size W0 w' → w'.cell? ⟨w.heap.size, 1, none⟩ = some (.int .i64 fr) := fun w' h => (h.cell (p := ⟨w.heap.size, 1, none⟩) (block_lt_of_cell x1)).trans x1
    have z2 : ∀ w', Below W0.heap.size W0 w' → w'.cell? ⟨w.heap.size, 2, none⟩ = some (.bool snap) := fun w' h => (h.cell (p := ⟨w.heap.size, 2, none⟩) (block_lt_of_cell x2)).trans x2
    have z3 : ∀ w', Below W0.heap.size W0 w' → w'.cell? ⟨w.heap.size, 3, none⟩ = some (.slice (some ⟨b1, o1, none⟩) fs.length ca) := fun w' h => (h.cell (p := ⟨w.heap.size, 3, none⟩) (block_lt_of_cell x3)).trans x3
    have z4 : ∀ w', Below W0.heap.size W0 w' → w'.cell? ⟨w.heap.size, 4, none⟩ = some (.int .i64 next) := fun w' h => (h.cell (p := ⟨w.heap.size, 4, none⟩) (block_lt_of_cell x4)).trans x4
    have y0 : ∀ w', Below W0.heap.size W0 w' → w'.cell? ⟨b1, o1 + q * 5, none⟩ = some (.int .i64 fid) := fun w' h => (h.cell (p := ⟨b1, o1 + q * 5, none⟩) (block_lt_of_cell c0)).trans c0
    have y1 : ∀ w', Below W0.heap.size W0 w' → w'.cell? ⟨b1, o1 + q * 5 + 1, none⟩ = some (.bool fdir) := fun w' h => (h.cell (p := ⟨b1, o1 + q * 5 + 1, none⟩) (block_lt_of_cell c1)).trans c1
    have y2 : ∀ w', Below W0.heap.size W0 w' → w'.cell? ⟨b1, o1 + q * 5 + 2, none⟩ = some (.int .i64 fsize) := fun w' h => (h.cell (p := ⟨b1, o1 + q * 5 + 2, none⟩) (block_lt_of_cell c2)).trans c2
    have y3 : ∀ w', Below W0.heap.size W0 w' → w'.cell? ⟨b1, o1 + q * 5 + 3, none⟩ = some (.slice ab fbl.length cb) := fun w' h => (h.cell (p := ⟨b1, o1 + q * 5 + 3, none⟩) (block_lt_of_cell c3)).trans c3
    have y4 : ∀ w', Below W0.heap.size W0 w' → w'.cell? ⟨b1, o1 + q * 5 + 4, none⟩ = some (.slice al fli.length cl) := fun w' h => (h.cell (p := ⟨b1, o1 + q * 5 + 4, none⟩) (block_lt_of_cell c4)).trans c4
    have hq0 : (0 : Int) ≤ (q : Int) := by omega
    have hqi : (q : Int) < (fs.length : Int) := by omega
    have xlt : w.heap.size < W0.heap.size := block_lt_of_cell x0
    have clt : b1 < W0.heap.size := block_lt_of_cell c0
    go_upto_region 2 with fail
    go_cut [8] from 9 to 39 (fun p wx => ∃ B, p = .pointer (some ⟨B, 0, none⟩) ∧ Below W0.heap.size W0 wx ∧ wx.heap[B]? = some (.cells #[.int .i64 fid, .bool fdir, .int .i64 fsize, .slice ab fbl.length cb, .slice al fli.length cl] 84 (0, 0)))
    case first =>
      go_region_with (first
        | (go_at_call 73; refine (at_any _ ⟨vid, fr, snap, fs, next⟩ id _ (HVO.out _ (HF0.out.below (Below.drew hS))) hl).mono ?_; rintro e wU ⟨rfl, hbU⟩; have hbu : Below W0.heap.size W0 wU := nwT (Below.drew hS) hbU; have k5 := z3 wU hbu; have klx : w.heap.size < wU.heap.size := block_lt_of_cell k5; have k0 := y0 wU hbu; have k1 := y1 wU hbu; have k2 := y2 wU hbu; have k3 := y3 wU hbu; have k4 := y4 wU hbu; have klt : b1 < wU.heap.size := block_lt_of_cell k0; simp only [HAT.out, optI])
        | (go_at_call 73; refine (at_any _ ⟨vid, fr, snap, fs, next⟩ id _ (HVO.out _ (HF0.out.below (Below.drew (nwA hS _)))) hl).mono ?_; rintro e wU ⟨rfl, hbU⟩; have hbu : Below W0.heap.size W0 wU := nwT (Below.drew (nwA hS _)) hbU; have tH := (hbU.block W0.heap.size (by simp)).trans (heap_alloc_new W0 _); obtain ⟨t0, t1, t2, t3, t4, tf⟩ := five (w := wU) tH; have k5 := z3 wU hbu; have klx : w.heap.size < wU.heap.size := block_lt_of_cell k5; have k0 := y0 wU hbu; have k1 := y1 wU hbu; have k2 := y2 wU hbu; have k3 := y3 wU hbu; have k4 := y4 wU hbu; simp only [HAT.out, optI])
        | fail)
      all_goals
        go_wp2_with fail
        go_meet
        refine ⟨_, by with_reducible rfl, ?_, ?_⟩
        · first | with_reducible exact nwA hbu _ | with_reducible exact five_below hbu (Nat.le_refl _)
        · first | with_reducible exact heap_alloc_new _ _ | with_reducible exact five_set tH
    case rest =>
      obtain ⟨B, rfl, hbc, hB⟩ := hcut
      clear z0 z1 z2 z3 z4 y0 y1 y2 y3 y4 x0 x1 x2 x3 x4 c0 c1 c2 c3 c4 xlt clt hS
      have HX : Hid (wc.heap[w.heap.size]? = some (.cells #[.int .i64 vid, .int .i64 fr, .bool snap, .slice (some ⟨b1, o1, none⟩) fs.length ca, .int .i64 next] 32 (0, 0))) := (hbc.block _ (Array.getElem?_eq_some_iff.1 HBX.out).1).trans HBX.out
      have HBL : Hid (wc.heap[B]? = some (.cells #[.int .i64 fid, .bool fdir, .int .i64 fsize, .slice ab fbl.length cb, .slice al fli.length cl] 84 (0, 0))) := hB
      have HFC : Hid (FilesAt wc (some ⟨b1, o1, none⟩) fs) := HF0.out.below hbc
      have HLC : Hid (LinksAt wc al fli) := HLI.out.below hbc
      have HBC : Hid (Below w.heap.size w wc) := nwT HB0.out hbc
      clear hbc hB HBX HF0 HLI
      cases n0 with
      | zero =>
        have HM0 : m = 0 := HM.out
        clear HM IH HSO HVO HS HSD HFC HLC HX
        have HD0 : Hid (deepF fs 0 id = if fli.length = 0 then 0 else 6) := HD.out
        clear HD
        obtain ⟨_, _, _, _, c4, _⟩ := five HBL.out
        subst HM0
        go_wp2_with fail
        go_loopw [7, 9] (fun m i wr => i = .int .i64 0 ∧ m = .int .i64 0 ∧ wr = wc) (fun _ _ _ => 0)
        case atStart => exact ⟨rfl, rfl, rfl⟩
        case round =>
          obtain ⟨rfl, rfl, rfl⟩ := hrel
          by_cases h : 0 < fli.length
          · have hi : (0 : Int) < (fli.length : Int) := by omega
            go_wp2_with fail
            go_ret
            exact ⟨by rw [HD0.out, if_neg (by omega)]; rfl, HBC.out⟩
          · have hi : ¬ (0 : Int) < (fli.length : Int) := by omega
            go_wp2_with fail
            go_ret
            exact ⟨by rw [HD0.out, if_pos (by omega)]; rfl, HBC.out⟩
      | succ n =>
        have IH2 : Hid (∀ (id : Int) (w : World), VolVal w (.agg #[.int .i64 vid, .int .i64 fr, .bool snap, .slice (some ⟨b1, o1, none⟩) fs.length ca, .int .i64 next]) ⟨vid, fr, snap, fs, next⟩ → (atI fs id).isSome = true →
          Calls Try.prog 58 #[.agg #[.int .i64 vid, .int .i64 fr, .bool snap, .slice (some ⟨b1, o1, none⟩) fs.length ca, .int .i64 next], .int .i64 id, .int .i64 n] w fun e w' => e = .returned (.int .i64 (deepF fs n id)) ∧ Below w.heap.size w w') := IH.out n rfl
        have HD1 : Hid (deepF fs (n + 1) id = fli.foldl (fun m l => max m (1 + deepF fs n l.2)) 0) := HD.out
        clear IH HD
        go_wp2_with fail
        go_loopw [7, 9] (fun m i wr => ∃ (k : Nat), k ≤ fli.length ∧ i = .int .i64 k ∧ m = .int .i64 ((fli.take k).foldl (fun m l => max m (1 + deepF fs n l.2)) 0 : Nat) ∧ Below wc.heap.size wc wr)
          (fun _ i _ => fli.length - (intOf i).toNat)
        case atStart => exact ⟨0, by omega, rfl, rfl, nwR wc⟩
        case round =>
          obtain ⟨k, hk, rfl, rfl, hb⟩ := hrel
          obtain ⟨x0, x1, x2, x3, x4, _⟩ := five ((hb.block _ (Array.getElem?_eq_some_iff.1 HX.out).1).trans HX.out)
          obtain ⟨_, _, _, _, c4, _⟩ := five ((hb.block _ (Array.getElem?_eq_some_iff.1 HBL.out).1).trans HBL.out)
          by_cases hlt : k < fli.length
          · have hlti : (k : Int) < (fli.length : Int) := by omega
            have hk0 : (0 : Int) ≤ (k : Int) := by omega
            obtain ⟨b3, o3, rfl, _, d2⟩ := (HLC.out.below hb).cell hlt
            have HIS : Hid ((atI fs (fli.getD k lk0).2).isSome = true) := HSO.out k hlt
            have HST : Hid ((fli.take (k + 1)).foldl (fun m l => max m (1 + deepF fs n l.2)) 0 = max ((fli.take k).foldl (fun m l => max m (1 + deepF fs n l.2)) 0) (1 + deepF fs n (fli.getD k lk0).2)) := by
              show _ = _
              rw [List.take_succ_eq_append_getElem hlt, List.foldl_append]
              simp [List.getD, hlt]
            have hM : (fli.take k).foldl (fun m l => max m (1 + deepF fs n l.2)) 0 ≤ n + 7 := foldl_max_le _ (fun (l : LinkD) => 1 + deepF fs n l.2) (n + 7) (fun l _ => by have := deepF_le fs n l.2; omega) 0 (by omega)
            have hD := deepF_le fs n (fli.getD k lk0).2
            generalize (fli.take k).foldl (fun m l => max m (1 + deepF fs n l.2)) 0 = M at HST hM
            generalize (fli.getD k lk0).2 = z at d2 HIS HST hD
            have hCALL := IH2.out z
            generalize deepF fs n z = D at HST hD hCALL
            have HCL : Hid (∀ w', Below wr.heap.size wr w' → Calls Try.prog 58 #[.agg #[.int .i64 vid, .int .i64 fr, .bool snap, .slice (some ⟨b1, o1, none⟩) fs.length ca, .int .i64 next], .int .i64 z, .int .i64 n] w' fun e w'' => e = .returned (.int .i64 D) ∧ Below w'.heap.size w' w'') := fun w' h => hCALL w' (HVO.out _ (HFC.out.below (nwT hb h))) HIS.out
            clear hCALL
            have hS := nwR wr
            have z0 : ∀ w', Below wr.heap.size wr w' → w'.cell? ⟨w.heap.size, 0, none⟩ = some (.int .i64 vid) := fun w' h => (h.cell (p := ⟨w.heap.size, 0, none⟩) (block_lt_of_cell x0)).trans x0
            have z1 : ∀ w', Below wr.heap.size wr w' → w'.cell? ⟨w.heap.size, 1, none⟩ = some (.int .i64 fr) := fun w' h => (h.cell (p := ⟨w.heap.size, 1, none⟩) (block_lt_of_cell x1)).trans x1
            have z2 : ∀ w', Below wr.heap.size wr w' → w'.cell? ⟨w.heap.size, 2, none⟩ = some (.bool snap) := fun w' h => (h.cell (p := ⟨w.heap.size, 2, none⟩) (block_lt_of_cell x2)).trans x2
            have z3 : ∀ w', Below wr.heap.size wr w' → w'.cell? ⟨w.heap.size, 3, none⟩ = some (.slice (some ⟨b1, o1, none⟩) fs.length ca) := fun w' h => (h.cell (p := ⟨w.heap.size, 3, none⟩) (block_lt_of_cell x3)).trans x3
            have z4 : ∀ w', Below wr.heap.size wr w' → w'.cell? ⟨w.heap.size, 4, none⟩ = some (.int .i64 next) := fun w' h => (h.cell (p := ⟨w.heap.size, 4, none⟩) (block_lt_of_cell x4)).trans x4
            have z5 : ∀ w', Below wr.heap.size wr w' → w'.cell? ⟨B, 4, none⟩ = some (.slice (some ⟨b3, o3, none⟩) fli.length cl) := fun w' h => (h.cell (p := ⟨B, 4, none⟩) (block_lt_of_cell c4)).trans c4
            have z6 : ∀ w', Below wr.heap.size wr w' → w'.cell? ⟨b3, o3 + k * 2 + 1, none⟩ = some (.int .i64 z) := fun w' h => (h.cell (p := ⟨b3, o3 + k * 2 + 1, none⟩) (block_lt_of_cell d2)).trans d2
            have e0 : (m == 0) = false := beq_eq_false_iff_ne.2 (by have := HM.out; omega)
            clear x0 x1 x2 x3 x4 d2
            go_wp2_with fail
            have e1 : IntKind.i64.wrap (m - 1) = (n : Int) := by have := HM.out; rw [wrap_any (by omega) (by omega)]; omega
            have e3 : IntKind.i64.wrap (n : Int) = (n : Int) := wrap_any (by omega) (by omega)
            have e4 : IntKind.i64.wrap (1 + (D : Int)) = 1 + (D : Int) := wrap_any (by omega) (by omega)
            clear c4
            go_region_held3 (fun w' => Below wr.heap.size wr w') (first | assumption | exact Below.drew (by assumption) | exact nwT (by assumption) (by assumption)) (first
              | (go_at_call 58; refine (HCL.out _ (by assumption)).mono ?_; rintro e wU ⟨rfl, hbU⟩)
              | fail)
            have hbu : Below wr.heap.size wr wU := by assumption
            clear z0 z1 z2 z3 z4 z5 z6 e1 e3 e4
            go_wp2_with fail
            go_roundw
            case rel => exact ⟨k + 1, by omega, by go_num, by rw [HST.out]; congr 1; omega, nwT hb hbu⟩
            case measure => simp [intOf]; omega
          · have hlti : ¬ (k : Int) < (fli.length : Int) := by omega
            have e : fli.take k = fli := List.take_of_length_le (by omega)
            rw [e]
            go_wp2_with fail
            go_ret
            exact ⟨by rw [HD1.out]; rfl, nwT HBC.out hb⟩

theorem deep_any (v : Value) (d : VolD) (hs : SmallV d) (hsd : Sound d.files) (n : Nat) (hn : n ≤ 1000) : ∀ (id : Int) (w : World), VolVal w v d → (atI d.files id).isSome = true →
    Calls Try.prog 58 #[v, .int .i64 id, .int .i64 n] w fun e w' => e = .returned (.int .i64 (deepF d.files n id)) ∧ Below w.heap.size w w' := by
  induction n with
  | zero => exact deep_step v d hs hsd 0 hn (fun n h => by omega)
  | succ n ih => exact deep_step v d hs hsd (n + 1) hn (fun k h => by
    have e : n = k := by omega
    subst e
    exact ih (by omega))

end Go.Proofs.Ytodahdnnlkcfdaa

/- The tree of a volume's files: how deep, and which are reached: plain mathematics. -/
namespace Go.Proofs.Ytodahdnnlkcfdaa
open Go.RowKit

/- lists of numbers -/
theorem nodup_len {l : List Nat} : ∀ {m : List Nat}, l.Nodup → (∀ x ∈ l, x ∈ m) → l.length ≤ m.length := by
  induction l with
  | nil => intro m _ _; simp
  | cons x l ih =>
    intro m hn hs
    rw [List.nodup_cons] at hn
    have hx := hs x (by simp)
    have h1 := ih (m := m.erase x) hn.2 (fun y hy => by
      have hyx : y ≠ x := fun e => hn.1 (e ▸ hy)
      exact (List.mem_erase_of_ne hyx).2 (hs y (by simp [hy])))
    have h2 := List.length_erase_of_mem hx
    have h3 : 0 < m.length := List.length_pos_of_mem hx
    simp only [List.length_cons]
    omega
theorem nodup_all {l m : List Nat} (hn : l.Nodup) (hs : ∀ x ∈ l, x ∈ m) (hl : m.length ≤ l.length) : ∀ x ∈ m, x ∈ l := by
  intro y hy
  by_cases h : y ∈ l
  · exact h
  · have := nodup_len (l := y :: l) (m := m) (List.nodup_cons.2 ⟨h, hn⟩) (fun x hx => by
      rcases List.mem_cons.1 hx with rfl | hx
      · exact hy
      · exact hs x hx)
    simp at this; omega
theorem sum_one {l : List Nat} : ∀ {i : Nat}, i < l.length → l.getD i 0 ≤ l.sum := by
  induction l with
  | nil => intro i h; simp at h
  | cons x l ih =>
    intro i h
    cases i with
    | zero => simp
    | succ i =>
      have := ih (i := i) (by simpa using h)
      simp only [List.getD_cons_succ, List.sum_cons]
      omega
theorem sum_two {l : List Nat} : ∀ {i j : Nat}, i < j → j < l.length → l.getD i 0 + l.getD j 0 ≤ l.sum := by
  induction l with
  | nil => intro i j _ h; simp at h
  | cons x l ih =>
    intro i j hij hj
    cases j with
    | zero => omega
    | succ j =>
      simp only [List.length_cons] at hj
      cases i with
      | zero =>
        have : l.getD j 0 ≤ l.sum := by
          have hj' : j < l.length := by omega
          exact sum_one hj'
        simp only [List.getD_cons_zero, List.getD_cons_succ, List.sum_cons]
        omega
      | succ i =>
        have := ih (i := i) (j := j) (by omega) (by omega)
        simp only [List.getD_cons_succ, List.sum_cons]
        omega
theorem sum_pos {l : List Nat} (h : 0 < l.sum) : ∃ i, i < l.length ∧ 0 < l.getD i 0 := by
  induction l with
  | nil => simp at h
  | cons x l ih =>
    by_cases hx : 0 < x
    · exact ⟨0, by simp, by simpa using hx⟩
    · obtain ⟨i, hi, h2⟩ := ih (by simp at h; omega)
      exact ⟨i + 1, by simp; omega, by simpa using h2⟩

/- the tree of a volume's files -/
def kids (fs : List FileD) (q : Nat) : List Nat := (fs.getD q f0).list.map fun l => placeOf fs l.2
def dirAt (fs : List FileD) (q : Nat) : Bool := (fs.getD q f0).dir
def LinksIn (fs : List FileD) : Prop := ∀ f ∈ fs, ∀ l ∈ f.list, (atI fs l.2).isSome = true
def Rising (fs : List FileD) : Prop := ∀ i j, i < j → j < fs.length → (fs.getD i f0).id < (fs.getD j f0).id
/-- plain files have no links -/
def Leafs (fs : List FileD) : Prop := ∀ f ∈ fs, f.dir = false → f.list = []
def CountOk (fs : List FileD) : Prop := ∀ i, i < fs.length → (i = 0 → linksN fs (fs.getD i f0).id = 0) ∧ (0 < i → linksN fs (fs.getD i f0).id ≠ 0 ∧ ((fs.getD i f0).dir = true → linksN fs (fs.getD i f0).id = 1))
structure Web (fs : List FileD) : Prop where
  pos : 0 < fs.length
  rdir : dirAt fs 0 = true
  lin : LinksIn fs
  ris : Rising fs
  leaf : Leafs fs
  cnt : CountOk fs

theorem getD_mem {fs : List FileD} {i : Nat} (h : i < fs.length) : fs.getD i f0 ∈ fs := by simp [List.getD, h]
theorem atI_self {fs : List FileD} (hr : Rising fs) {i : Nat} (h : i < fs.length) : atI fs (fs.getD i f0).id = some i := by
  unfold atI
  rw [List.findIdx?_eq_some_iff_getElem]
  refine ⟨h, by simp [List.getD, h], fun j hj => ?_⟩
  have := hr j i hj h
  have hj2 : j < fs.length := by omega
  simp only [List.getD, List.getElem?_eq_getElem hj2, List.getElem?_eq_getElem h, Option.getD_some] at this
  simp [List.getD, h]
  omega
theorem atI_id {fs : List FileD} {id : Int} {k : Nat} (h : atI fs id = some k) : (fs.getD k f0).id = id := by
  have hk := atI_lt h
  unfold atI at h
  have := (List.findIdx?_eq_some_iff_getElem.1 h).2.1
  simpa [List.getD, hk] using this
theorem placeOf_id {fs : List FileD} {id : Int} (h : (atI fs id).isSome = true) : placeOf fs id < fs.length ∧ (fs.getD (placeOf fs id) f0).id = id := by
  obtain ⟨k, hk⟩ := Option.isSome_iff_exists.1 h
  have e : placeOf fs id = k := by unfold placeOf; rw [hk]; rfl
  rw [e]
  exact ⟨atI_lt hk, atI_id hk⟩
theorem placeOf_self {fs : List FileD} (hr : Rising fs) {i : Nat} (h : i < fs.length) : placeOf fs (fs.getD i f0).id = i := by
  unfold placeOf; rw [atI_self hr h]; rfl
theorem kids_lt {fs : List FileD} (hl : LinksIn fs) {q x : Nat} (hx : x ∈ kids fs q) : x < fs.length := by
  unfold kids at hx
  obtain ⟨l, hm, rfl⟩ := List.mem_map.1 hx
  by_cases hq : q < fs.length
  · exact (placeOf_id (hl _ (getD_mem hq) l hm)).1
  · simp [List.getD, hq, f0] at hm
theorem kids_q {fs : List FileD} {q x : Nat} (hx : x ∈ kids fs q) : q < fs.length := by
  unfold kids at hx
  obtain ⟨l, hm, rfl⟩ := List.mem_map.1 hx
  by_cases hq : q < fs.length
  · exact hq
  · simp [List.getD, hq, f0] at hm
theorem kids_dir {fs : List FileD} (hf : Leafs fs) {q x : Nat} (hx : x ∈ kids fs q) : dirAt fs q = true := by
  have hq := kids_q hx
  unfold dirAt
  cases hd : (fs.getD q f0).dir
  · have := hf _ (getD_mem hq) hd
    unfold kids at hx
    rw [this] at hx; simp at hx
  · rfl
theorem filter_map_count {l : List LinkD} {p : LinkD → Bool} {g : LinkD → Nat} {x : Nat} (h : ∀ a ∈ l, (g a == x) = p a) : (l.map g).count x = (l.filter p).length := by
  induction l with
  | nil => rfl
  | cons a l ih =>
    have h1 := h a (by simp)
    have h2 := ih (fun b hb => h b (by simp [hb]))
    simp only [List.map_cons, List.count_cons, List.filter_cons, h1, h2]
    cases p a <;> simp
theorem count_kids {fs : List FileD} (hl : LinksIn fs) (hr : Rising fs) {q x : Nat} (hq : q < fs.length) (hx : x < fs.length) : (kids fs q).count x = cntL (fs.getD q f0).list (fs.getD x f0).id := by
  unfold kids cntL
  refine filter_map_count (fun l hm => ?_)
  obtain ⟨h1, h2⟩ := placeOf_id (hl _ (getD_mem hq) l hm)
  rw [Bool.eq_iff_iff]
  constructor
  · intro h
    have h : placeOf fs l.2 = x := by simpa using h
    rw [h] at h2
    rw [h2]; simp
  · intro h
    have h : l.2 = (fs.getD x f0).id := by simpa using h
    rw [h, placeOf_self hr hx]; simp
theorem linksN_sum (fs : List FileD) (id : Int) {q : Nat} (hq : q < fs.length) : (fs.map fun f => cntL f.list id).getD q 0 = cntL (fs.getD q f0).list id := by
  simp [List.getD, hq]
theorem one_parent {fs : List FileD} (W : Web fs) {p q x : Nat} (hp : x ∈ kids fs p) (hq : x ∈ kids fs q) (hd : dirAt fs x = true) : p = q := by
  have hx := kids_lt W.lin hp
  have hpl := kids_q hp
  have hql := kids_q hq
  have c1 : 0 < cntL (fs.getD p f0).list (fs.getD x f0).id := by rw [← count_kids W.lin W.ris hpl hx]; exact List.count_pos_iff.2 hp
  have c2 : 0 < cntL (fs.getD q f0).list (fs.getD x f0).id := by rw [← count_kids W.lin W.ris hql hx]; exact List.count_pos_iff.2 hq
  have hle : linksN fs (fs.getD x f0).id ≤ 1 := by
    have := W.cnt x hx
    by_cases h0 : x = 0
    · have := this.1 h0; omega
    · have := (this.2 (by omega)).2 hd; omega
  have key : ∀ i j, i < j → j < fs.length → 0 < cntL (fs.getD i f0).list (fs.getD x f0).id → 0 < cntL (fs.getD j f0).list (fs.getD x f0).id → False := by
    intro i j hij hj h1 h2
    have := sum_two (l := fs.map fun f => cntL f.list (fs.getD x f0).id) hij (by simpa using hj)
    rw [linksN_sum fs _ (by omega : i < fs.length), linksN_sum fs _ hj] at this
    unfold linksN at hle
    omega
  by_cases h : p = q
  · exact h
  · rcases Nat.lt_or_gt_of_ne h with h | h
    · exact (key p q h hql c1 c2).elim
    · exact (key q p h hpl c2 c1).elim
theorem one_link {fs : List FileD} (W : Web fs) {q x : Nat} (hd : dirAt fs x = true) : (kids fs q).count x ≤ 1 := by
  by_cases hm : x ∈ kids fs q
  · have hx := kids_lt W.lin hm
    have hq := kids_q hm
    rw [count_kids W.lin W.ris hq hx]
    have hle : linksN fs (fs.getD x f0).id ≤ 1 := by
      have := W.cnt x hx
      by_cases h0 : x = 0
      · have := this.1 h0; omega
      · have := (this.2 (by omega)).2 hd; omega
    have := sum_one (l := fs.map fun f => cntL f.list (fs.getD x f0).id) (i := q) (by simpa using hq)
    rw [linksN_sum fs _ hq] at this
    unfold linksN at hle
    omega
  · rw [List.count_eq_zero.2 hm]; omega
theorem root_none {fs : List FileD} (W : Web fs) {q : Nat} : 0 ∉ kids fs q := by
  intro hm
  have hq := kids_q hm
  have h1 := (W.cnt 0 W.pos).1 rfl
  have c1 : 0 < cntL (fs.getD q f0).list (fs.getD 0 f0).id := by rw [← count_kids W.lin W.ris hq W.pos]; exact List.count_pos_iff.2 hm
  have := sum_one (l := fs.map fun f => cntL f.list (fs.getD 0 f0).id) (i := q) (by simpa using hq)
  rw [linksN_sum fs _ hq] at this
  unfold linksN at h1
  omega

/-- x lies so many names below the root, by directories -/
inductive Lies (fs : List FileD) : Nat → Nat → Prop where
  | root : Lies fs 0 0
  | step {p k x : Nat} : Lies fs p k → x ∈ kids fs p → dirAt fs x = true → Lies fs x (k + 1)
theorem Lies.one {fs : List FileD} (W : Web fs) {x k : Nat} (h : Lies fs x k) : ∀ {j}, Lies fs x j → k = j := by
  induction h with
  | root =>
    intro j hj
    cases hj with
    | root => rfl
    | step _ hm _ => exact (root_none W hm).elim
  | step hp hm hd ih =>
    intro j hj
    cases hj with
    | root => exact (root_none W hm).elim
    | step hp2 hm2 hd2 =>
      have := one_parent W hm hm2 hd
      subst this
      rw [ih hp2]
theorem Lies.chain {fs : List FileD} (W : Web fs) {x k : Nat} (h : Lies fs x k) : ∃ l : List Nat, l.length = k + 1 ∧ l.Nodup ∧ ∀ y ∈ l, y < fs.length ∧ ∃ j, j ≤ k ∧ Lies fs y j := by
  induction h with
  | root => exact ⟨[0], rfl, by simp, fun y hy => by simp at hy; subst hy; exact ⟨W.pos, 0, Nat.le_refl _, .root⟩⟩
  | @step p k x hp hm hd ih =>
    obtain ⟨l, h1, h2, h3⟩ := ih
    refine ⟨x :: l, by simp [h1], List.nodup_cons.2 ⟨fun hx => ?_, h2⟩, fun y hy => ?_⟩
    · obtain ⟨_, j, hj, hl⟩ := h3 x hx
      have := (Lies.step hp hm hd).one W hl
      omega
    · rcases List.mem_cons.1 hy with rfl | hy
      · exact ⟨kids_lt W.lin hm, k + 1, Nat.le_refl _, .step hp hm hd⟩
      · obtain ⟨a, j, hj, hl⟩ := h3 y hy
        exact ⟨a, j, by omega, hl⟩
theorem Lies.lt {fs : List FileD} (W : Web fs) {x k : Nat} (h : Lies fs x k) : k < fs.length := by
  obtain ⟨l, h1, h2, h3⟩ := h.chain W
  have := nodup_len (m := List.range fs.length) h2 (fun y hy => List.mem_range.2 (h3 y hy).1)
  rw [List.length_range] at this
  omega

/-- so many steps down are enough -/
def Tame (fs : List FileD) : Nat → Nat → Prop
  | 0, q => dirAt fs q = false
  | n + 1, q => dirAt fs q = true → ∀ x ∈ kids fs q, Tame fs n x
theorem tame_of {fs : List FileD} (W : Web fs) : ∀ (n q : Nat), (dirAt fs q = true → ∃ k, Lies fs q k ∧ fs.length ≤ n + k) → Tame fs n q := by
  intro n
  induction n with
  | zero =>
    intro q h
    show dirAt fs q = false
    cases hd : dirAt fs q
    · rfl
    · obtain ⟨k, h1, h2⟩ := h hd
      have := h1.lt W
      omega
  | succ n ih =>
    intro q h hd x hx
    refine ih x (fun hdx => ?_)
    obtain ⟨k, h1, h2⟩ := h hd
    exact ⟨k + 1, .step h1 hx hdx, by omega⟩

def msr (fs : List FileD) : Nat → Nat → Nat × Nat
  | 0, _ => (0, 0)
  | n + 1, q => if dirAt fs q then (kids fs q).foldl (fun a x => (a.1 + (msr fs n x).1, max a.2 ((msr fs n x).2 + 1))) (1, 0) else (0, 0)
def dl (fs : List FileD) : Nat → Nat → List Nat
  | 0, _ => []
  | n + 1, q => if dirAt fs q then q :: (kids fs q).flatMap (dl fs n) else []
theorem foldl_pair {g h : Nat → Nat} (l : List Nat) : ∀ (a b : Nat), l.foldl (fun a x => (a.1 + g x, max a.2 (h x))) (a, b) = (a + (l.map g).sum, l.foldl (fun m x => max m (h x)) b) := by
  induction l with
  | nil => intro a b; simp
  | cons x l ih => intro a b; simp only [List.foldl_cons, ih, List.map_cons, List.sum_cons]; rw [Nat.add_assoc]
theorem msr_dl (fs : List FileD) : ∀ n q, (msr fs n q).1 = (dl fs n q).length := by
  intro n
  induction n with
  | zero => intro q; rfl
  | succ n ih =>
    intro q
    unfold msr dl
    by_cases hd : dirAt fs q = true
    · rw [if_pos hd, if_pos hd, foldl_pair (g := fun x => (msr fs n x).1) (h := fun x => (msr fs n x).2 + 1)]
      simp only [List.length_cons, List.length_flatMap]
      have : (kids fs q).map (fun x => (msr fs n x).1) = (kids fs q).map (fun x => (dl fs n x).length) := List.map_congr_left (fun x _ => ih x)
      rw [this]; omega
    · rw [if_neg hd, if_neg hd]; rfl
theorem foldl_max_ge {α : Type} (l : List α) (g : α → Nat) : ∀ m, m ≤ l.foldl (fun m x => max m (g x)) m ∧ ∀ x ∈ l, g x ≤ l.foldl (fun m x => max m (g x)) m := by
  induction l with
  | nil => intro m; simp
  | cons y r ih =>
    intro m
    obtain ⟨h1, h2⟩ := ih (max m (g y))
    simp only [List.foldl_cons]
    refine ⟨by omega, fun x hx => ?_⟩
    rcases List.mem_cons.1 hx with rfl | hx
    · omega
    · exact h2 x hx
theorem foldl_max_mem {α : Type} (l : List α) (g : α → Nat) : ∀ m, l.foldl (fun m x => max m (g x)) m = m ∨ ∃ x ∈ l, l.foldl (fun m x => max m (g x)) m = g x := by
  induction l with
  | nil => intro m; exact .inl rfl
  | cons y r ih =>
    intro m
    simp only [List.foldl_cons]
    rcases ih (max m (g y)) with h | ⟨x, hx, h⟩
    · rw [h]
      by_cases hm : g y ≤ m
      · exact .inl (by omega)
      · exact .inr ⟨y, by simp, by omega⟩
    · exact .inr ⟨x, by simp [hx], h⟩
theorem msr_deep {fs : List FileD} (q n : Nat) (hd : dirAt fs q = true) : (msr fs (n + 1) q).2 = (kids fs q).foldl (fun m x => max m ((msr fs n x).2 + 1)) 0 := by
  rw [msr, if_pos hd, foldl_pair (g := fun x => (msr fs n x).1) (h := fun x => (msr fs n x).2 + 1)]
theorem msr_leaf {fs : List FileD} (q n : Nat) (hd : dirAt fs q = false) : msr fs n q = (0, 0) := by
  cases n with
  | zero => rfl
  | succ n => unfold msr; rw [if_neg (by simp [hd])]
theorem foldl_map' {α β : Type} (l : List α) (f : α → β) (g : Nat → β → Nat) : ∀ m, (l.map f).foldl g m = l.foldl (fun m x => g m (f x)) m := by
  induction l with
  | nil => intro m; rfl
  | cons x l ih => intro m; simp [ih]
theorem foldl_congr' {α : Type} (l : List α) (f g : α → Nat) (h : ∀ x ∈ l, f x = g x) : ∀ m, l.foldl (fun m x => max m (f x)) m = l.foldl (fun m x => max m (g x)) m := by
  induction l with
  | nil => intro m; rfl
  | cons x l ih => intro m; simp only [List.foldl_cons]; rw [h x (by simp), ih (fun y hy => h y (by simp [hy]))]
/-- how deep, by both -/
theorem deep_both {fs : List FileD} (W : Web fs) : ∀ (m n : Nat) (q : Nat), q < fs.length → Tame fs n q →
    ((msr fs n q).2 ≤ m → deepF fs m (fs.getD q f0).id = (msr fs n q).2) ∧ (m < (msr fs n q).2 → m < deepF fs m (fs.getD q f0).id) := by
  intro m
  induction m with
  | zero =>
    intro n q hq ht
    unfold deepF
    rw [placeOf_self W.ris hq]
    cases hd : dirAt fs q
    · rw [msr_leaf q n hd, W.leaf _ (getD_mem hq) hd]; simp
    · cases n with
      | zero => rw [show dirAt fs q = false from ht] at hd; cases hd
      | succ n =>
        rw [msr_deep q n hd]
        by_cases he : (fs.getD q f0).list.length = 0
        · have : kids fs q = [] := by unfold kids; rw [List.length_eq_zero_iff.1 he]; rfl
          rw [if_pos he, this]; simp
        · rw [if_neg he]
          refine ⟨fun h => ?_, fun _ => by omega⟩
          obtain ⟨l, r, hlr⟩ : ∃ l r, (fs.getD q f0).list = l :: r := by
            cases hx : (fs.getD q f0).list with
            | nil => rw [hx] at he; simp at he
            | cons l r => exact ⟨l, r, rfl⟩
          have hm : placeOf fs l.2 ∈ kids fs q := by unfold kids; rw [hlr]; simp
          have := (foldl_max_ge (kids fs q) (fun x => (msr fs n x).2 + 1) 0).2 _ hm
          omega
  | succ m ih =>
    intro n q hq ht
    unfold deepF
    rw [placeOf_self W.ris hq]
    cases hd : dirAt fs q
    · rw [msr_leaf q n hd, W.leaf _ (getD_mem hq) hd]; simp
    · cases n with
      | zero => rw [show dirAt fs q = false from ht] at hd; cases hd
      | succ n =>
        rw [msr_deep q n hd]
        have hk : ∀ l ∈ (fs.getD q f0).list, placeOf fs l.2 < fs.length ∧ (fs.getD (placeOf fs l.2) f0).id = l.2 ∧ Tame fs n (placeOf fs l.2) := fun l hl => by
          obtain ⟨a, b⟩ := placeOf_id (W.lin _ (getD_mem hq) l hl)
          exact ⟨a, b, ht hd _ (by unfold kids; exact List.mem_map.2 ⟨l, hl, rfl⟩)⟩
        have hR : (kids fs q).foldl (fun m x => max m ((msr fs n x).2 + 1)) 0 = (fs.getD q f0).list.foldl (fun m l => max m ((msr fs n (placeOf fs l.2)).2 + 1)) 0 := by
          unfold kids; rw [foldl_map']
        rw [hR]
        constructor
        · intro h
          refine foldl_congr' _ _ _ (fun l hl => ?_) 0
          obtain ⟨a, b, c⟩ := hk l hl
          have h1 := (foldl_max_ge (fs.getD q f0).list (fun l => (msr fs n (placeOf fs l.2)).2 + 1) 0).2 l hl
          have h2 := (ih n _ a c).1 (by omega)
          rw [b] at h2
          rw [h2]; omega
        · intro h
          rcases foldl_max_mem (fs.getD q f0).list (fun l => (msr fs n (placeOf fs l.2)).2 + 1) 0 with h0 | ⟨l, hl, h0⟩
          · omega
          · obtain ⟨a, b, c⟩ := hk l hl
            have h2 := (ih n _ a c).2 (by omega)
            rw [b] at h2
            have h3 := (foldl_max_ge (fs.getD q f0).list (fun l => 1 + deepF fs m l.2) 0).2 l hl
            omega

/- which are reached -/
inductive Reach (fs : List FileD) : Nat → Prop where
  | root : Reach fs 0
  | step {p x : Nat} : Reach fs p → x ∈ kids fs p → Reach fs x
theorem Reach.lies {fs : List FileD} (W : Web fs) {x : Nat} (h : Reach fs x) : dirAt fs x = true → ∃ k, Lies fs x k := by
  induction h with
  | root => intro _; exact ⟨0, .root⟩
  | step hp hm ih =>
    intro hd
    obtain ⟨k, hk⟩ := ih (kids_dir W.leaf hm)
    exact ⟨k + 1, .step hk hm hd⟩
theorem Lies.reach {fs : List FileD} {x k : Nat} (h : Lies fs x k) : Reach fs x := by
  induction h with
  | root => exact .root
  | step _ hm _ ih => exact .step ih hm
/-- x lies so many below q -/
inductive Sub (fs : List FileD) (q : Nat) : Nat → Nat → Prop where
  | self : dirAt fs q = true → Sub fs q q 0
  | step {p k x : Nat} : Sub fs q p k → x ∈ kids fs p → dirAt fs x = true → Sub fs q x (k + 1)
theorem Sub.front {fs : List FileD} {q c x k : Nat} (h : Sub fs c x k) (hq : dirAt fs q = true) (hc : c ∈ kids fs q) : Sub fs q x (k + 1) := by
  induction h with
  | self hd => exact .step (.self hq) hc hd
  | step _ hm hd ih => exact .step ih hm hd
theorem Sub.lies {fs : List FileD} {q x k j : Nat} (h : Sub fs q x k) (hq : Lies fs q j) : Lies fs x (j + k) := by
  induction h with
  | self _ => exact hq
  | step _ hm hd ih => exact .step ih hm hd
theorem Sub.same {fs : List FileD} (W : Web fs) {c x k : Nat} (h : Sub fs c x k) : ∀ {c'}, Sub fs c' x k → c = c' := by
  induction h with
  | self _ => intro c' h'; cases h'; rfl
  | step _ hm hd ih =>
    intro c' h'
    cases h' with
    | step h2 hm2 _ =>
      have := one_parent W hm hm2 hd
      subst this
      exact ih h2
theorem dl_sub {fs : List FileD} : ∀ n q x, x ∈ dl fs n q → ∃ k, Sub fs q x k := by
  intro n
  induction n with
  | zero => intro q x h; simp [dl] at h
  | succ n ih =>
    intro q x h
    unfold dl at h
    by_cases hd : dirAt fs q = true
    · rw [if_pos hd] at h
      rcases List.mem_cons.1 h with rfl | h
      · exact ⟨0, .self hd⟩
      · obtain ⟨c, hc, hx⟩ := List.mem_flatMap.1 h
        obtain ⟨k, hk⟩ := ih c x hx
        exact ⟨k + 1, hk.front hd hc⟩
    · rw [if_neg hd] at h; simp at h
theorem dl_leaf {fs : List FileD} (n q : Nat) (hd : dirAt fs q = false) : dl fs n q = [] := by
  cases n with
  | zero => rfl
  | succ n => unfold dl; rw [if_neg (by simp [hd])]
theorem nodup_flatMap' {l : List Nat} {g : Nat → List Nat} (h1 : ∀ x ∈ l, (g x).Nodup) (h2 : ∀ x ∈ l, g x ≠ [] → l.count x ≤ 1) (h3 : ∀ x ∈ l, ∀ y ∈ l, x ≠ y → ∀ z, z ∈ g x → z ∉ g y) : (l.flatMap g).Nodup := by
  induction l with
  | nil => simp
  | cons x l ih =>
    rw [List.flatMap_cons, List.nodup_append]
    refine ⟨h1 x (by simp), ih (fun y hy => h1 y (by simp [hy])) (fun y hy hne => ?_) (fun a ha b hb => h3 a (by simp [ha]) b (by simp [hb])), ?_⟩
    · have := h2 y (by simp [hy]) hne
      rw [List.count_cons] at this
      split at this <;> omega
    · intro a ha b hb e
      subst e
      obtain ⟨y, hy, hz⟩ := List.mem_flatMap.1 hb
      by_cases e : x = y
      · subst e
        have := h2 x (by simp) (by intro e; rw [e] at ha; simp at ha)
        rw [List.count_cons_self] at this
        have h4 := List.count_pos_iff.2 hy
        omega
      · exact h3 x (by simp) y (by simp [hy]) e a ha hz
theorem dl_nodup {fs : List FileD} (W : Web fs) : ∀ n q j, Lies fs q j → (dl fs n q).Nodup := by
  intro n
  induction n with
  | zero => intro q j _; simp [dl]
  | succ n ih =>
    intro q j hq
    unfold dl
    by_cases hd : dirAt fs q = true
    · rw [if_pos hd, List.nodup_cons]
      have kd : ∀ c ∈ kids fs q, dirAt fs c = true → Lies fs c (j + 1) := fun c hc hdc => .step hq hc hdc
      refine ⟨fun h => ?_, nodup_flatMap' (fun c hc => ?_) (fun c hc hne => ?_) (fun c hc c' hc' hne z hz hz' => ?_)⟩
      · obtain ⟨c, hc, hx⟩ := List.mem_flatMap.1 h
        obtain ⟨k, hk⟩ := dl_sub n c q hx
        have := (hk.front hd hc).lies hq
        have := hq.one W this
        omega
      · cases hdc : dirAt fs c
        · rw [dl_leaf n c hdc]; simp
        · exact ih c (j + 1) (kd c hc hdc)
      · cases hdc : dirAt fs c
        · exact (hne (dl_leaf n c hdc)).elim
        · exact one_link W hdc
      · obtain ⟨k, hk⟩ := dl_sub n c z hz
        obtain ⟨k', hk'⟩ := dl_sub n c' z hz'
        have e1 := (hk.front hd hc).lies hq
        have e2 := (hk'.front hd hc').lies hq
        have := e1.one W e2
        have e : k = k' := by omega
        subst e
        exact hne (hk.same W hk')
    · rw [if_neg hd]; simp
theorem dl_closed {fs : List FileD} : ∀ n q, Tame fs n q → ∀ p x, p ∈ dl fs n q → x ∈ kids fs p → dirAt fs x = true → x ∈ dl fs n q := by
  intro n
  induction n with
  | zero => intro q _ p x h; simp [dl] at h
  | succ n ih =>
    intro q ht p x hp hx hd
    unfold dl at hp ⊢
    by_cases hdq : dirAt fs q = true
    · rw [if_pos hdq] at hp ⊢
      have step : ∀ c ∈ kids fs q, dirAt fs c = true → c ∈ dl fs n c := fun c hc hdc => by
        have := ht hdq c hc
        cases n with
        | zero => rw [show dirAt fs c = false from this] at hdc; cases hdc
        | succ n => unfold dl; rw [if_pos hdc]; simp
      rcases List.mem_cons.1 hp with rfl | hp
      · exact List.mem_cons_of_mem _ (List.mem_flatMap.2 ⟨x, hx, step x hx hd⟩)
      · obtain ⟨c, hc, hpc⟩ := List.mem_flatMap.1 hp
        exact List.mem_cons_of_mem _ (List.mem_flatMap.2 ⟨c, hc, ih c (ht hdq c hc) p x hpc hx hd⟩)
    · rw [if_neg hdq] at hp; simp at hp
def dirsOf (fs : List FileD) : Nat := (fs.filter fun f => f.dir).length
theorem dirsOf_range (fs : List FileD) : dirsOf fs = ((List.range fs.length).filter fun i => dirAt fs i).length := by
  unfold dirsOf
  have : fs = (List.range fs.length).map (fun i => fs.getD i f0) := by
    apply List.ext_getElem
    · simp
    · intro i h1 h2; simp [List.getD, h1]
  conv => lhs; rw [this]
  rw [List.filter_map, List.length_map]
  rfl
theorem tame_root {fs : List FileD} (W : Web fs) : Tame fs fs.length 0 := tame_of W _ _ (fun _ => ⟨0, .root, by omega⟩)
theorem reach_both {fs : List FileD} (W : Web fs) : (msr fs fs.length 0).1 = dirsOf fs ↔ ∀ i, i < fs.length → Reach fs i := by
  have ht := tame_root W
  have hn := dl_nodup W fs.length 0 0 .root
  have h0 : 0 ∈ dl fs fs.length 0 := by
    obtain ⟨n, hn⟩ : ∃ n, fs.length = n + 1 := ⟨fs.length - 1, by have := W.pos; omega⟩
    rw [hn]; unfold dl; rw [if_pos W.rdir]; simp
  have hr : ∀ x, Reach fs x → dirAt fs x = true → x ∈ dl fs fs.length 0 := by
    intro x h
    induction h with
    | root => intro _; exact h0
    | step hp hm ih => intro hd; exact dl_closed _ _ ht _ _ (ih (kids_dir W.leaf hm)) hm hd
  have hs : ∀ x ∈ dl fs fs.length 0, Reach fs x ∧ x < fs.length ∧ dirAt fs x = true := by
    intro x hx
    obtain ⟨k, hk⟩ := dl_sub _ _ _ hx
    have hl := hk.lies .root
    refine ⟨hl.reach, ?_, ?_⟩
    · cases hk with
      | self _ => exact W.pos
      | step _ hm _ => exact kids_lt W.lin hm
    · cases hk with
      | self h => exact h
      | step _ _ hd => exact hd
  rw [msr_dl, dirsOf_range]
  constructor
  · intro h i hi
    have hall := nodup_all hn (m := (List.range fs.length).filter fun i => dirAt fs i) (fun x hx => List.mem_filter.2 ⟨List.mem_range.2 (hs x hx).2.1, (hs x hx).2.2⟩) (by omega)
    have hdir : ∀ x, x < fs.length → dirAt fs x = true → Reach fs x := fun x hx hd => (hs x (hall x (List.mem_filter.2 ⟨List.mem_range.2 hx, hd⟩))).1
    by_cases h00 : i = 0
    · subst h00; exact .root
    · have hc := ((W.cnt i hi).2 (by omega)).1
      obtain ⟨p, hp, hpc⟩ := sum_pos (l := fs.map fun f => cntL f.list (fs.getD i f0).id) (by unfold linksN at hc; omega)
      have hp : p < fs.length := by simpa using hp
      rw [linksN_sum fs _ hp, ← count_kids W.lin W.ris hp hi] at hpc
      have hm := List.count_pos_iff.1 hpc
      exact .step (hdir p hp (kids_dir W.leaf hm)) hm
  · intro h
    have h1 := nodup_len hn (m := (List.range fs.length).filter fun i => dirAt fs i) (fun x hx => List.mem_filter.2 ⟨List.mem_range.2 (hs x hx).2.1, (hs x hx).2.2⟩)
    have h2 := nodup_len (l := (List.range fs.length).filter fun i => dirAt fs i) (m := dl fs fs.length 0) (List.nodup_range.filter _) (fun x hx => by
      obtain ⟨a, b⟩ := List.mem_filter.1 hx
      exact hr x (h x (List.mem_range.1 a)) b)
    omega
theorem paths_both {fs : List FileD} (W : Web fs) (h1 : (fs.getD 0 f0).id = 1) : ((msr fs fs.length 0).1 = dirsOf fs ∧ (msr fs fs.length 0).2 ≤ 5) ↔ ((∀ i, i < fs.length → Reach fs i) ∧ deepF fs 5 1 ≤ 5) := by
  have hd := deep_both W 5 fs.length 0 W.pos (tame_root W)
  rw [h1] at hd
  rw [reach_both W]
  constructor
  · rintro ⟨a, b⟩; exact ⟨a, by rw [hd.1 b]; exact b⟩
  · rintro ⟨a, b⟩
    refine ⟨a, ?_⟩
    by_cases h : (msr fs fs.length 0).2 ≤ 5
    · exact h
    · have := hd.2 (by omega); omega

end Go.Proofs.Ytodahdnnlkcfdaa

/- A link more, one less. -/
namespace Go.Proofs.Ytodahdnnlkcfdaa
open Go.RowKit

def ltS (a b : ByteArray) : Bool := Op.bytesLess a.toList b.toList
def posL (l : List LinkD) (n : ByteArray) : Nat := (l.takeWhile fun x => ltS x.1 n).length
def putL (l : List LinkD) (x : LinkD) : List LinkD := l.take (posL l x.1) ++ [x] ++ l.drop (posL l x.1)

theorem posL_eq {l : List LinkD} {n : ByteArray} {k : Nat} (hk : k ≤ l.length) (h : ∀ j, j < k → ltS (l.getD j lk0).1 n = true) (hn : k = l.length ∨ (k < l.length ∧ ltS (l.getD k lk0).1 n = false)) : posL l n = k := by
  unfold posL
  induction l generalizing k with
  | nil => simp at hk; subst hk; rfl
  | cons x xs ih =>
    cases k with
    | zero =>
      rcases hn with hn | ⟨_, hn⟩
      · simp at hn
      · have : ltS x.1 n = false := by simpa [List.getD] using hn
        rw [List.takeWhile_cons]; simp [this]
    | succ k =>
      have h0 : ltS x.1 n = true := by simpa [List.getD] using h 0 (by omega)
      rw [List.takeWhile_cons]
      simp only [h0, if_true, List.length_cons]
      rw [ih (k := k) (by simpa using hk) (fun j hj => by simpa [List.getD] using h (j + 1) (by omega)) (by
        rcases hn with hn | ⟨h1, hn⟩
        · left; simpa using hn
        · right; exact ⟨by simpa using h1, by simpa [List.getD] using hn⟩)]

theorem LinksAt.take {w : World} {a : Option Addr} {l : List LinkD} (h : LinksAt w a l) (k : Nat) : LinksAt w a (l.take k) := by
  rcases h with rfl | ⟨b, o, rfl, hc⟩
  · exact .inl (by simp)
  · refine .inr ⟨b, o, rfl, fun i hi => ?_⟩
    rw [List.length_take] at hi
    have e : (l.take k).getD i lk0 = l.getD i lk0 := by simp [List.getD, show i < k from by omega]
    rw [e]; exact hc i (by omega)
theorem lflat_append (a b : List LinkD) : lflat (a ++ b) = lflat a ++ lflat b := by simp [lflat]
theorem lflat_one (l : List LinkD) : ∀ u ∈ lflat l, u.oneCell' = true := by
  intro u hu
  obtain ⟨x, _, hx⟩ := List.mem_flatMap.1 hu
  simp at hx
  rcases hx with rfl | rfl <;> rfl
theorem lflat_drop (l : List LinkD) (k : Nat) : lflat (l.drop k) = (lflat l).drop (k * 2) := by
  induction l generalizing k with
  | nil => simp [lflat]
  | cons x xs ih =>
    cases k with
    | zero => simp
    | succ k =>
      have e : lflat (x :: xs) = .string x.1 :: .int .i64 x.2 :: lflat xs := by simp [lflat]
      rw [List.drop_succ_cons, ih k, e, show (k + 1) * 2 = k * 2 + 1 + 1 from by omega, List.drop_succ_cons, List.drop_succ_cons]
/-- the cells of links from one on -/
theorem LinksAt.cellsFrom {w : World} {b o : Nat} {l : List LinkD} (h : LinksAt w (some ⟨b, o, none⟩) l) (k : Nat) : ∀ j u, (lflat (l.drop k))[j]? = some u → w.cell? ((⟨b, o + k * 2, none⟩ : Addr).add j) = some u := by
  intro j u hu
  rw [lflat_drop, List.getElem?_drop] at hu
  have hlt : k * 2 + j < (lflat l).length := (List.getElem?_eq_some_iff.1 hu).1
  rw [lflat_len] at hlt
  have e : (⟨b, o + k * 2, none⟩ : Addr).add j = ⟨b, o + k * 2 + j, none⟩ := by unfold Addr.add; split <;> simp_all
  rw [e]
  have hi : (k * 2 + j) / 2 < l.length := by omega
  obtain ⟨b', o', e', hc0, hc1⟩ := h.cell hi
  injection e' with e'
  injection e' with e1 e2
  subst e1; subst e2
  obtain ⟨g0, g1⟩ := lflat_get l _ hi
  rcases Nat.mod_two_eq_zero_or_one (k * 2 + j) with hm | hm
  · have ee : (k * 2 + j) / 2 * 2 = k * 2 + j := by omega
    rw [ee] at g0 hc0
    rw [g0] at hu
    injection hu with hu
    subst hu
    rw [← Nat.add_assoc] at hc0; exact hc0
  · have ee : (k * 2 + j) / 2 * 2 + 1 = k * 2 + j := by omega
    rw [ee] at g1
    rw [g1] at hu
    injection hu with hu
    subst hu
    have : o + (k * 2 + j) / 2 * 2 + 1 = o + k * 2 + j := by omega
    rw [this] at hc1; exact hc1

theorem OwnLinks.app {w : World} {base : Nat} {v : Value} {a b : List LinkD} {m : Nat} (hm : b.length = m) (h : w.ownsRow base 87 2 v (a.length + m) (lflat a ++ lflat b)) : OwnLinks w base v (a ++ b) := by
  unfold OwnLinks
  rw [lflat_append, List.length_append, hm]; exact h
theorem cells_kept {X w : World} {p : Addr} {cs : List Value} (hb : Below X.heap.size X w) (h : ∀ j u, cs[j]? = some u → X.cell? (p.add j) = some u) : ∀ j u, cs[j]? = some u → w.cell? (p.add j) = some u :=
  fun j u hu => (hb.cell (p := p.add j) (block_lt_of_cell (h j u hu))).trans (h j u hu)

theorem step_append_src {P : Program} {ops : Array Oper} {o : Oper} {a : Act} {w : World} {K : Act → World → Prop} {Q : Exit → Act → World → Prop} {E : Prop}
    (hg : o.guard = none) (s x : Operand) (t : TypeId) (hop : o.op = Op.call { callee := Callee.builtin Builtin.append, args := #[s, x], argTypes := #[t, t] })
    (base : Nat) (e : TypeId) (i : TypeInfo) (z : Value) (size bytes : Nat) (h1 : P.underlying t = some (.slice e)) (h2 : P.info? e = some i) (h3 : i.zero = some z) (h4 : i.size = size) (h5 : i.bytes = bytes) (h6 : z.cells.size = size) (h7 : 0 < size)
    (v : Value) (n : Nat) (xs : List Value) (hs : a.eval s = v) (hown : w.ownsRow base e size v n xs)
    (ao : Option Addr) (m c : Nat) (news : List Value) (hx : a.eval x = .slice ao m c) (hn : news.length = m * size) (hnil : ao = none → m = 0 ∧ c = 0) (hc : ∀ p, ao = some p → ∀ j u, news[j]? = some u → w.cell? (p.add j) = some u) (h1c : ∀ u ∈ news, u.oneCell' = true)
    (b1 : n + m ≤ maxLen) (b2 : (n + m) * bytes ≤ 140737488355328) (hbase : base ≤ w.heap.size)
    (hK : ∀ v' w', w'.ownsRow base e size v' (n + m) (xs ++ news) → w.grownBy w' v.ownBlock → K (a.put o.dst v') w') :
    if Region.wanted o (yielded ops a.tmps) = true then Oper.wp P o a w K Q else E := by
  have hw : Region.wanted o (yielded ops a.tmps) = true := by simp [Region.wanted, hg]
  rw [if_pos hw]
  cases ao with
  | none =>
    obtain ⟨rfl, rfl⟩ := hnil rfl
    have hnews : news = [] := by simpa using hn
    subst hnews
    have hrun := run_append_owned_none (P := P) (w := w) base t o.type e i size h1 h2 v n xs hown
    unfold Oper.wp
    simp [execOp, hop, resolve, invoke, builtin, hs, hx, hrun, Result.andThen]
    exact hK _ _ (by simpa using hown) ⟨rfl, rfl, rfl, Nat.le_refl _, fun _ _ _ => rfl⟩
  | some ad =>
    obtain ⟨v', w', hrun, r1, r2, _⟩ := run_append_own (P := P) w base t o.type e i z size bytes h1 h2 h3 h4 h5 h6 h7 v n xs hown ad m c news hn (hc ad rfl) h1c b1 b2 hbase
    unfold Oper.wp
    simp [execOp, hop, resolve, invoke, builtin, hs, hx, hrun, Result.andThen]
    exact hK _ _ r1 r2

end Go.Proofs.Ytodahdnnlkcfdaa

/- A new volume, by the page. -/
namespace Go.Proofs.Ytodahdnnlkcfdaa
open Go.RowKit

theorem heap_alloc_new2 (w : World) (o1 o2 : Obj) : ((w.alloc o1).alloc o2).heap[w.heap.size + 1]? = some o2 := by
  have := heap_alloc_new (w.alloc o1) o2
  simpa using this

set_option maxRecDepth 100000 in
set_option maxHeartbeats 1000000 in
theorem new_any (id : Int) (w : World) :
    Calls Try.prog 36 #[.int .i64 id] w fun e w' => (∃ u, e = .returned u ∧ OwnVol w' w.heap.size u ⟨id, 0, false, [⟨1, true, 0, [], []⟩], 2⟩) ∧ Below w.heap.size w w' := by
  go_enter Try.func36, Try.ntmps36
  go_wp2
  refine bodyPost_ret (v := .agg #[.int .i64 id, .int .i64 0, .bool false, .slice (some ⟨w.heap.size + 1, 0, none⟩) 1 1, .int .i64 2]) (by simp [results, Try.results36, go_sem]) rfl ⟨⟨_, rfl, _, rfl, ?_⟩, ?_⟩
  · refine ⟨[⟨⟨1, true, 0, [], []⟩, .slice none 0 0, .slice none 0 0⟩], rfl, ⟨rfl, .inr ⟨w.heap.size + 1, 1, _, rfl, by omega, heap_alloc_new2 w _ _, Nat.le_refl 1, by decide, rfl, rfl⟩⟩, fun g hg => ?_⟩
    obtain rfl : g = ⟨⟨1, true, 0, [], []⟩, .slice none 0 0, .slice none 0 0⟩ := by simpa using hg
    exact ⟨⟨rfl, .inl ⟨rfl, rfl⟩⟩, ⟨rfl, .inl ⟨rfl, rfl⟩⟩⟩
  · exact nwA (nwA (nwR w) _) _

end Go.Proofs.Ytodahdnnlkcfdaa

/- Which files may be, by the page: plain files. -/
namespace Go.Proofs.Ytodahdnnlkcfdaa
open Go.RowKit

def LinkOk (fs : List FileD) (l : List LinkD) (k : Nat) : Prop := nm (l.getD k lk0).1 = true ∧ (0 < k → ltS (l.getD (k - 1) lk0).1 (l.getD k lk0).1 = true) ∧ (atI fs (l.getD k lk0).2).isSome = true
def PlainOk (f : FileD) : Prop := f.list.length = 0 ∧ numB f.size 200 = true ∧ (f.blocks.length : Int) = (f.size + 31) / 32 ∧ ∀ k, k < f.blocks.length → numB (f.blocks.getD k 0) 1073741823 = true
def DirOk (fs : List FileD) (f : FileD) : Prop := f.size = 0 ∧ f.blocks.length = 0 ∧ f.list.length ≤ 8 ∧ ∀ k, k < f.list.length → LinkOk fs f.list k
def SaysB (e : Ending) (P : Prop) : Prop := ∃ b : Bool, e = .returned (.bool b) ∧ (b = true ↔ P)
theorem says_no {P : Prop} (h : ¬ P) : SaysB (.returned (.bool false)) P := ⟨false, rfl, by simp [h]⟩
theorem says_yes {P : Prop} (h : P) : SaysB (.returned (.bool true)) P := ⟨true, rfl, by simp [h]⟩
theorem num_is (n most : Int) (w : World) (b : Bool) (h : numB n most = b) : Calls Try.prog 54 #[.int .i64 n, .int .i64 most] w fun e w' => e = .returned (.bool b) ∧ w' = w := by
  rw [← h]; exact num_in n most w

set_option maxRecDepth 100000 in
set_option maxHeartbeats 2000000 in
theorem file_plain (v u : Value) (d : VolD) (f : FileD) (w : World) (hv : VolVal w v d) (hu : FileVal w u f) (hs : SmallF f) (hd : f.dir = false) :
    Calls Try.prog 55 #[v, u] w fun e w' => SaysB e (PlainOk f) ∧ Below w.heap.size w w' := by
  obtain ⟨av, ca, rfl, _, _⟩ := hv
  obtain ⟨ab, cb, al, cl, rfl, ⟨hib, _⟩, _, _⟩ := hu
  obtain ⟨vid, fr, snap, fs, next⟩ := d
  obtain ⟨fid, fdir, fsize, fbl, fli⟩ := f
  simp only [SmallF, fcells] at *
  subst hd
  obtain ⟨hl1, hl2⟩ := hs
  have HI : Hid (IntsAt w ab fbl) := hib
  clear hib
  go_enter Try.func55, Try.ntmps55
  go_wp2_with fail
  obtain ⟨W0, hW0⟩ : ∃ W0, W0 = (w.alloc (.cells #[.int .i64 vid, .int .i64 fr, .bool snap, .slice av fs.length ca, .int .i64 next] 32)).alloc (.cells #[.int .i64 fid, .bool false, .int .i64 fsize, .slice ab fbl.length cb, .slice al fli.length cl] 84) := ⟨_, rfl⟩
  have HB0 : Hid (Below w.heap.size w W0) := by rw [hW0]; exact nwA (nwA (nwR w) _) _
  have HI0 : Hid (IntsAt W0 ab fbl) := HI.out.below HB0.out
  have HBX : Hid (W0.heap[w.heap.size + 1]? = some (.cells #[.int .i64 fid, .bool false, .int .i64 fsize, .slice ab fbl.length cb, .slice al fli.length cl] 84 (0, 0))) := by rw [hW0]; exact heap_alloc_new2 w _ _
  rw [← hW0]
  clear hW0 HI
  obtain ⟨x0, x1, x2, x3, x4, _⟩ := five HBX.out
  by_cases h1 : fli.length = 0
  · have d1 : decide (0 < fli.length) = false := decide_eq_false (by omega)
    cases h2 : numB fsize 200
    · have HNO : Hid (¬ PlainOk ⟨fid, false, fsize, fbl, fli⟩) := fun h => by have := h.2.1; simp [h2] at this
      go_quiet (first | (go_at_call 54; exact Calls.quiet_of_same (num_is _ _ _ _ h2)) | fail)
      go_wp2_with fail
      go_ret
      exact ⟨says_no HNO.out, below_drewN HB0.out _⟩
    · have hn0 : 0 ≤ fsize ∧ fsize ≤ 200 := by simpa [numB] using h2
      by_cases h3 : (fbl.length : Int) = (fsize + 31) / 32
      · have d3 : ((fbl.length : Int) == (fsize + 31) / 32) = true := by simpa using h3
        go_quiet (first | (go_at_call 54; exact Calls.quiet_of_same (num_is _ _ _ _ h2)) | (go_at_call 74; exact Calls.quiet_of_same (many_any _ _ hn0.1 hn0.2)) | fail)
        have HOK : Hid ((∀ k, k < fbl.length → numB (fbl.getD k 0) 1073741823 = true) → PlainOk ⟨fid, false, fsize, fbl, fli⟩) := fun h => ⟨h1, h2, h3, h⟩
        have HNO : Hid (PlainOk ⟨fid, false, fsize, fbl, fli⟩ → ∀ k, k < fbl.length → numB (fbl.getD k 0) 1073741823 = true) := fun h => h.2.2.2
        have HIW : Hid (IntsAt (W0.drewN nq) ab fbl) := HI0.out
        have HBW : Hid (Below w.heap.size w (W0.drewN nq)) := below_drewN HB0.out _
        have y3 : (W0.drewN nq).cell? ⟨w.heap.size + 1, 3, none⟩ = some (.slice ab fbl.length cb) := x3
        generalize W0.drewN nq = W at HIW HBW y3 ⊢
        clear x0 x1 x2 x3 x4 HBX HI0 HB0 d1 d3 h1 h2 h3 hn0
        go_wp2_with fail
        go_loop [6] (fun i => ∃ (k : Nat), k ≤ fbl.length ∧ i = .int .i64 k ∧ Hid (∀ j, j < k → numB (fbl.getD j 0) 1073741823 = true))
          (fun i => fbl.length - (intOf i).toNat)
        case atStart => exact ⟨0, by omega, rfl, fun j hj => by omega⟩
        case round =>
          obtain ⟨k, hk, rfl, HE⟩ := hrel
          by_cases hlt : k < fbl.length
          · have hlti : (k : Int) < (fbl.length : Int) := by omega
            obtain ⟨b1, o1, rfl, c0⟩ := HIW.out.cell hlt
            cases hz : numB (fbl.getD k 0) 1073741823
            · have HN2 : Hid (¬ PlainOk ⟨fid, false, fsize, fbl, fli⟩) := fun h => by have := HNO.out h k hlt; rw [hz] at this; cases this
              generalize fbl.getD k 0 = z at c0 hz
              go_wp2_with (go_at_call 54; refine (num_is _ _ _ _ hz).mono ?_; rintro e w' ⟨rfl, rfl⟩)
              go_ret
              exact ⟨says_no HN2.out, HBW.out⟩
            · have HN2 : Hid (∀ j, j < k + 1 → numB (fbl.getD j 0) 1073741823 = true) := fun j hj => by
                by_cases e : j = k
                · subst e; exact hz
                · exact HE.out j (by omega)
              generalize fbl.getD k 0 = z at c0 hz
              go_wp2_with (go_at_call 54; refine (num_is _ _ _ _ hz).mono ?_; rintro e w' ⟨rfl, rfl⟩)
              go_round
              case rel => exact ⟨k + 1, by omega, by go_num, HN2⟩
              case measure => simp [intOf]; omega
          · have hlti : ¬ (k : Int) < (fbl.length : Int) := by omega
            go_wp2_with fail
            go_ret
            exact ⟨says_yes (HOK.out fun j hj => HE.out j (by omega)), HBW.out⟩
      · have d3 : ((fbl.length : Int) == (fsize + 31) / 32) = false := by simpa using h3
        have HNO : Hid (¬ PlainOk ⟨fid, false, fsize, fbl, fli⟩) := fun h => h3 h.2.2.1
        go_quiet (first | (go_at_call 54; exact Calls.quiet_of_same (num_is _ _ _ _ h2)) | (go_at_call 74; exact Calls.quiet_of_same (many_any _ _ hn0.1 hn0.2)) | fail)
        go_wp2_with fail
        go_ret
        exact ⟨says_no HNO.out, below_drewN HB0.out _⟩
  · have d1 : decide (0 < fli.length) = true := decide_eq_true (by omega)
    have HNO : Hid (¬ PlainOk ⟨fid, false, fsize, fbl, fli⟩) := fun h => h1 h.1
    go_quiet (fail)
    go_wp2_with fail
    go_ret
    exact ⟨says_no HNO.out, below_drewN HB0.out _⟩

end Go.Proofs.Ytodahdnnlkcfdaa
