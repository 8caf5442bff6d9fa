/- Files and volumes held against each other. -/
import Derived.Test.YtdpighcaieajjaaGreatEqv
import Derived.Deep.RegionHeld3
namespace Go.Proofs.YtdpighcaieajjaaGreat
open Go.RowKit

set_option maxRecDepth 100000 in
set_option maxHeartbeats 1000000 in
theorem eqFile_any (u v : Value) (f g : FileD) (w : World) (hf : FileVal w u f) (hg : FileVal w v g) (hs : SmallF f) :
    Calls Tryz.prog 18 #[u, v] w fun e w' => e = .returned (.bool (decide (f = g))) ∧ Below w.heap.size w w' := by
  obtain ⟨ab, cb, al, cl, rfl, ⟨hib, _⟩, hil, _⟩ := hf
  obtain ⟨ab2, cb2, al2, cl2, rfl, ⟨hib2, _⟩, hil2, _⟩ := hg
  have HB : Hid (IntsAt w ab f.blocks) := hib
  have HL : Hid (LinksAt w al f.list) := hil
  have HB2 : Hid (IntsAt w ab2 g.blocks) := hib2
  have HL2 : Hid (LinksAt w al2 g.list) := hil2
  clear hib hil hib2 hil2
  obtain ⟨id, dir, size, bl, li⟩ := f
  obtain ⟨id2, dir2, size2, bl2, li2⟩ := g
  simp only [fcells] at *
  simp only [SmallF] at hs
  obtain ⟨hs1, hs2⟩ := hs
  have HBW : Hid (∀ o1 o2, Below w.heap.size w ((w.alloc o1).alloc o2)) := fun o1 o2 => nwA (nwA (nwR w) _) _
  by_cases h1 : id = id2
  · subst h1
    by_cases h2 : dir = dir2
    · subst h2
      by_cases h3 : size = size2
      · subst h3
        have HD : Hid (decide ((⟨id, dir, size, bl, li⟩ : FileD) = ⟨id, dir, size, bl2, li2⟩) = (decide (bl = bl2) && decide (li = li2))) := by
          show _ = _; rw [Bool.eq_iff_iff]; simp
        go_enter Tryz.func18, Tryz.ntmps18
        go_wp2_with fail
        refine (eqNums_any ab ab2 bl bl2 cb cb2 _ (HB.out.below (HBW.out _ _)) (HB2.out.below (HBW.out _ _)) (by unfold maxLen; omega)).mono ?_
        rintro e w1 ⟨rfl, q, rfl⟩
        generalize decide (bl = bl2) = t at HD
        cases t
        · go_wp2_with fail
          go_ret
          exact ⟨by rw [HD.out]; rfl, below_drewN (HBW.out _ _) _⟩
        · go_wp2_with fail
          refine (eqLinks_any al al2 li li2 cl cl2 _ ((HL.out.below (HBW.out _ _)).drewN _) ((HL2.out.below (HBW.out _ _)).drewN _) (by unfold maxLen; omega)).mono ?_
          rintro e w2 ⟨rfl, q2, rfl⟩
          generalize decide (li = li2) = t2 at HD
          go_wp2_with fail
          go_ret
          exact ⟨by rw [HD.out]; rfl, below_drewN (HBW.out _ _) _⟩
      · have HF : Hid (decide ((⟨id, dir, size, bl, li⟩ : FileD) = ⟨id, dir, size2, bl2, li2⟩) = false) := decide_eq_false (fun e => by injection e with e1 e2 e3; exact h3 e3)
        have hb3 : (size == size2) = false := beq_eq_false_iff_ne.2 h3
        go_enter Tryz.func18, Tryz.ntmps18
        go_wp2_with fail
        go_ret
        exact ⟨by rw [HF.out]; rfl, HBW.out _ _⟩
    · have HF : Hid (decide ((⟨id, dir, size, bl, li⟩ : FileD) = ⟨id, dir2, size2, bl2, li2⟩) = false) := decide_eq_false (fun e => by injection e with e1 e2 e3; exact h2 e2)
      have hb3 : (dir == dir2) = false := beq_eq_false_iff_ne.2 h2
      go_enter Tryz.func18, Tryz.ntmps18
      go_wp2_with fail
      go_ret
      exact ⟨by rw [HF.out]; rfl, HBW.out _ _⟩
  · have HF : Hid (decide ((⟨id, dir, size, bl, li⟩ : FileD) = ⟨id2, dir2, size2, bl2, li2⟩) = false) := decide_eq_false (fun e => by injection e with e1 e2 e3; exact h1 e1)
    have hb3 : (id == id2) = false := beq_eq_false_iff_ne.2 h1
    go_enter Tryz.func18, Tryz.ntmps18
    go_wp2_with fail
    go_ret
    exact ⟨by rw [HF.out]; rfl, HBW.out _ _⟩

theorem FileIn.val {w : World} {b o : Nat} {f : FileD} (h : FileIn w b o f) : ∃ ab cb al cl, (w.cell? ⟨b, o, none⟩ = some (.int .i64 f.id) ∧ w.cell? ⟨b, o + 1, none⟩ = some (.bool f.dir) ∧ w.cell? ⟨b, o + 2, none⟩ = some (.int .i64 f.size) ∧ w.cell? ⟨b, o + 3, none⟩ = some (.slice ab f.blocks.length cb) ∧ w.cell? ⟨b, o + 4, none⟩ = some (.slice al f.list.length cl)) ∧ FileVal w (.agg #[.int .i64 f.id, .bool f.dir, .int .i64 f.size, .slice ab f.blocks.length cb, .slice al f.list.length cl]) f := by
  obtain ⟨ab, cb, al, cl, hc, hi, hl⟩ := h
  exact ⟨ab, cb, al, cl, hc, ab, cb, al, cl, rfl, hi, hl⟩

set_option maxRecDepth 100000 in
set_option maxHeartbeats 2000000 in
theorem eqFiles_any (a b : Option Addr) (xs ys : List FileD) (ca cb : Nat) (w : World) (hx : FilesAt w a xs) (hy : FilesAt w b ys) (hl : xs.length ≤ 100000) (hs : ∀ f ∈ xs, SmallF f) :
    Calls Tryz.prog 27 #[.slice a xs.length ca, .slice b ys.length cb] w fun e w' => e = .returned (.bool (decide (xs = ys))) ∧ Below w.heap.size w w' := by
  have HX : Hid (FilesAt w a xs) := hx
  have HY : Hid (FilesAt w b ys) := hy
  have HS : Hid (∀ f ∈ xs, SmallF f) := hs
  clear hx hy hs
  by_cases hlen : xs.length = ys.length
  · have hlen' : ((xs.length : Int) != (ys.length : Int)) = false := by simp [hlen]
    have HL : Hid (xs.length = ys.length) := hlen
    clear hlen
    go_enter Tryz.func27, Tryz.ntmps27
    go_wp2_with fail
    go_loopw [5] (fun i wr => ∃ (k : Nat), k ≤ xs.length ∧ i = .int .i64 k ∧ Below w.heap.size w wr ∧ Hid (∀ j, j < k → xs.getD j f0 = ys.getD j f0))
      (fun i _ => xs.length - (intOf i).toNat)
    case atStart => exact ⟨0, by omega, rfl, nwR w, fun j hj => by omega⟩
    case round =>
      obtain ⟨k, hk, rfl, hb, HE⟩ := hrel
      by_cases hlt : k < xs.length
      · have hlty : k < ys.length := by have := HL.out; omega
        obtain ⟨b1, o1, rfl, x1⟩ := HX.out.file hlt
        obtain ⟨b2, o2, rfl, y1⟩ := HY.out.file hlty
        have HSM : Hid (SmallF (xs.getD k f0)) := HS.out _ (by simp [List.getD, hlt])
        obtain ⟨ab, cb', al, cl, ⟨c0, c1, c2, c3, c4⟩, hv1⟩ := (x1.below hb).val
        obtain ⟨ab2, cb2, al2, cl2, ⟨d0, d1, d2, d3, d4⟩, hv2⟩ := (y1.below hb).val
        generalize hxf : xs.getD k f0 = f at HSM c0 c1 c2 c3 c4 hv1
        generalize hyg : ys.getD k f0 = g at d0 d1 d2 d3 d4 hv2
        have HXF : Hid (xs.getD k f0 = f) := hxf
        have HYG : Hid (ys.getD k f0 = g) := hyg
        clear hxf hyg x1 y1
        have HV1 : Hid (FileVal wr (.agg #[.int .i64 f.id, .bool f.dir, .int .i64 f.size, .slice ab f.blocks.length cb', .slice al f.list.length cl]) f) := hv1
        have HV2 : Hid (FileVal wr (.agg #[.int .i64 g.id, .bool g.dir, .int .i64 g.size, .slice ab2 g.blocks.length cb2, .slice al2 g.list.length cl2]) g) := hv2
        have kc0 : ∀ w', Below wr.heap.size wr w' → w'.cell? ⟨b1, o1 + k * 5, none⟩ = some (.int .i64 f.id) := fun w' h => (h.cell (p := ⟨b1, o1 + k * 5, none⟩) (block_lt_of_cell c0)).trans c0
        have kc1 : ∀ w', Below wr.heap.size wr w' → w'.cell? ⟨b1, o1 + k * 5 + 1, none⟩ = some (.bool f.dir) := fun w' h => (h.cell (p := ⟨b1, o1 + k * 5 + 1, none⟩) (block_lt_of_cell c1)).trans c1
        have kc2 : ∀ w', Below wr.heap.size wr w' → w'.cell? ⟨b1, o1 + k * 5 + 2, none⟩ = some (.int .i64 f.size) := fun w' h => (h.cell (p := ⟨b1, o1 + k * 5 + 2, none⟩) (block_lt_of_cell c2)).trans c2
        have kc3 : ∀ w', Below wr.heap.size wr w' → w'.cell? ⟨b1, o1 + k * 5 + 3, none⟩ = some (.slice ab f.blocks.length cb') := fun w' h => (h.cell (p := ⟨b1, o1 + k * 5 + 3, none⟩) (block_lt_of_cell c3)).trans c3
        have kc4 : ∀ w', Below wr.heap.size wr w' → w'.cell? ⟨b1, o1 + k * 5 + 4, none⟩ = some (.slice al f.list.length cl) := fun w' h => (h.cell (p := ⟨b1, o1 + k * 5 + 4, none⟩) (block_lt_of_cell c4)).trans c4
        have kd0 : ∀ w', Below wr.heap.size wr w' → w'.cell? ⟨b2, o2 + k * 5, none⟩ = some (.int .i64 g.id) := fun w' h => (h.cell (p := ⟨b2, o2 + k * 5, none⟩) (block_lt_of_cell d0)).trans d0
        have kd1 : ∀ w', Below wr.heap.size wr w' → w'.cell? ⟨b2, o2 + k * 5 + 1, none⟩ = some (.bool g.dir) := fun w' h => (h.cell (p := ⟨b2, o2 + k * 5 + 1, none⟩) (block_lt_of_cell d1)).trans d1
        have kd2 : ∀ w', Below wr.heap.size wr w' → w'.cell? ⟨b2, o2 + k * 5 + 2, none⟩ = some (.int .i64 g.size) := fun w' h => (h.cell (p := ⟨b2, o2 + k * 5 + 2, none⟩) (block_lt_of_cell d2)).trans d2
        have kd3 : ∀ w', Below wr.heap.size wr w' → w'.cell? ⟨b2, o2 + k * 5 + 3, none⟩ = some (.slice ab2 g.blocks.length cb2) := fun w' h => (h.cell (p := ⟨b2, o2 + k * 5 + 3, none⟩) (block_lt_of_cell d3)).trans d3
        have kd4 : ∀ w', Below wr.heap.size wr w' → w'.cell? ⟨b2, o2 + k * 5 + 4, none⟩ = some (.slice al2 g.list.length cl2) := fun w' h => (h.cell (p := ⟨b2, o2 + k * 5 + 4, none⟩) (block_lt_of_cell d4)).trans d4
        have hS := nwR wr
        have hk1 : (k : Int) < (xs.length : Int) := by omega
        have hk2 : (k : Int) < (ys.length : Int) := by omega
        have hk0 : (0 : Int) ≤ (k : Int) := by omega
        clear c0 c1 c2 c3 c4 d0 d1 d2 d3 d4 hv1 hv2
        go_wp2_with fail
        go_region_held3 (fun w' => Below wr.heap.size wr w') (first | assumption | exact Below.drew (by assumption) | exact nwT (by assumption) (by assumption)) (first
          | (go_at_call 18; refine (eqFile_any _ _ f g _ (HV1.out.below (by assumption)) (HV2.out.below (by assumption)) HSM.out).mono ?_; rintro e wT ⟨rfl, hbT⟩))
        all_goals
          have hbt : Below wr.heap.size wr wT := by assumption
          have hbq := nwT hb hbt
          clear kc0 kc1 kc2 kc3 kc4 kd0 kd1 kd2 kd3 kd4
        by_cases he : f = g
        · rw [decide_eq_true he]
          go_wp2_with fail
          go_roundw
          case rel => exact ⟨k + 1, by omega, by go_num, hbq, fun j hj => by
            by_cases e : j = k
            · subst e; rw [HXF.out, HYG.out, he]
            · exact HE.out j (by omega)⟩
          case measure => simp [intOf]; omega
        · rw [decide_eq_false he]
          have HF : Hid (decide (xs = ys) = false) := decide_eq_false (fun e => he (by rw [← HXF.out, ← HYG.out, e]))
          go_wp2_with fail
          go_ret
          exact ⟨by rw [HF.out]; rfl, hbq⟩
      · have HF : Hid (decide (xs = ys) = true) := decide_eq_true (ext_getD' f0 HL.out (fun i hi => HE.out i (by omega)))
        go_wp2_with fail
        go_ret
        exact ⟨by rw [HF.out]; rfl, hb⟩
  · have hlen' : ((xs.length : Int) != (ys.length : Int)) = true := by rw [bne_iff_ne]; omega
    have HF : Hid (decide (xs = ys) = false) := decide_eq_false (fun e => hlen (by rw [e]))
    clear hlen
    go_enter Tryz.func27, Tryz.ntmps27
    go_wp2_with fail
    go_ret
    exact ⟨by rw [HF.out]; rfl, nwR w⟩

end Go.Proofs.YtdpighcaieajjaaGreat
