/- A volume by a pointer: where a file stands, how many links name it. -/
import Derived.Test.YtdpighcaieajjaaGreatSizes
namespace Go.Proofs.YtdpighcaieajjaaGreat
open Go.RowKit

/-- a volume at a block -/
def VolAt (w : World) (B : Nat) (d : VolD) : Prop := ∃ a c, w.heap[B]? = some (.cells #[.int .i64 d.id, .int .i64 d.fr, .bool d.snap, .slice a d.files.length c, .int .i64 d.next] 104 (0, 0)) ∧ FilesAt w a d.files ∧ CapOk a c d.files.length
theorem VolAt.below {w w' : World} {B : Nat} {d : VolD} (h : VolAt w B d) (hb : Below w.heap.size w w') : VolAt w' B d := by
  obtain ⟨a, c, h1, h2, h3⟩ := h
  exact ⟨a, c, (hb.block _ (Array.getElem?_eq_some_iff.1 h1).1).trans h1, h2.below hb, h3⟩

set_option maxRecDepth 100000 in
set_option maxHeartbeats 1000000 in
theorem idx1_any (v : Value) (f : FileD) (id : Int) (B : Nat) (w : World) (hv : FileVal w v f) (hc : w.cell? ⟨B, 0, none⟩ = some (.int .i64 id)) :
    Calls Tryz.prog 116 #[v, .pointer (some ⟨B, 0, none⟩)] w fun e w' => e = .returned (.bool (f.id == id)) ∧ Below w.heap.size w w' := by
  obtain ⟨ab, cb, al, cl, rfl, _⟩ := hv
  obtain ⟨fid, fdir, fsize, fbl, fli⟩ := f
  simp only [fcells]
  have hB := block_lt_of_cell hc
  simp only at hB
  go_enter Tryz.func116, Tryz.ntmps116
  go_wp2_with fail
  go_ret
  exact ⟨rfl, nwA (nwR w) _⟩

set_option maxRecDepth 100000 in
set_option maxHeartbeats 1000000 in
theorem idxf_any (a : Option Addr) (fs : List FileD) (ca : Nat) (id : Int) (B : Nat) (w : World) (hv : FilesAt w a fs) (hl : fs.length ≤ 100000) (hc : w.cell? ⟨B, 0, none⟩ = some (.int .i64 id)) :
    Calls Tryz.prog 115 #[.slice a fs.length ca, .func (.func 116) #[] #[.pointer (some ⟨B, 0, none⟩)]] w fun e w' => e = .returned (.int .i64 (optI (atI fs id))) ∧ Below w.heap.size w w' := by
  have HF : Hid (FilesAt w a fs) := hv
  have HC : Hid (w.cell? ⟨B, 0, none⟩ = some (.int .i64 id)) := hc
  clear hv hc
  go_enter Tryz.func115, Tryz.ntmps115
  go_wp2_with fail
  go_loopw [8] (fun i wr => ∃ (k : Nat), k ≤ fs.length ∧ i = .int .i64 k ∧ Below w.heap.size w wr ∧ Hid (∀ j, j < k → ((fs.getD j f0).id == id) = false))
    (fun i _ => fs.length - (intOf i).toNat)
  case atStart => exact ⟨0, by omega, rfl, nwR w, fun j hj => by omega⟩
  case round =>
    obtain ⟨k, hk, rfl, hb, HE⟩ := hrel
    by_cases hlt : k < fs.length
    · obtain ⟨b1, o1, rfl, hf⟩ := (HF.out.below hb).file hlt
      obtain ⟨ab, cb, al, cl, ⟨c0, c1, c2, c3, c4⟩, hib, hil⟩ := hf
      have hlti : (k : Int) < (fs.length : Int) := by omega
      have HV : Hid (FileVal wr (.agg #[.int .i64 (fs.getD k f0).id, .bool (fs.getD k f0).dir, .int .i64 (fs.getD k f0).size, .slice ab (fs.getD k f0).blocks.length cb, .slice al (fs.getD k f0).list.length cl]) (fs.getD k f0)) := ⟨ab, cb, al, cl, rfl, hib, hil⟩
      have HCW : Hid (wr.cell? ⟨B, 0, none⟩ = some (.int .i64 id)) := (hb.cell (p := ⟨B, 0, none⟩) (block_lt_of_cell HC.out)).trans HC.out
      clear hib hil
      have HK : Hid (((fs.getD k f0).id == id) = false → ∀ j, j < k + 1 → ((fs.getD j f0).id == id) = false) := fun h j hj => by
        by_cases e : j = k
        · subst e; exact h
        · exact HE.out j (by omega)
      have HY : Hid (((fs.getD k f0).id == id) = true → atI fs id = some k) := fun h => find_yes f0 hlt h (fun j hj => HE.out j hj)
      generalize fs.getD k f0 = f at c0 c1 c2 c3 c4 HV HK HY
      go_wp2_with fail
      refine (idx1_any _ f id B _ HV.out HCW.out).mono ?_
      rintro e w2 ⟨rfl, hb2⟩
      have hbb := nwT hb hb2
      cases he : (f.id == id)
      · have HN := HK.out he
        go_wp2_with fail
        go_roundw
        case rel => exact ⟨k + 1, by omega, by go_num, hbb, HN⟩
        case measure => simp [intOf]; omega
      · have HR : Hid (atI fs id = some k) := HY.out he
        go_wp2_with fail
        go_ret
        exact ⟨ret_int (by rw [HR.out]; rfl), hbb⟩
    · have hlti : ¬ (k : Int) < (fs.length : Int) := by omega
      have HY : Hid (atI fs id = none) := find_no f0 (fun j hj => HE.out j (by omega))
      go_wp2_with fail
      go_ret
      exact ⟨ret_int (by rw [HY.out]; rfl), hb⟩

set_option maxRecDepth 100000 in
set_option maxHeartbeats 1000000 in
theorem index_any (B : Nat) (d : VolD) (id : Int) (w : World) (hv : VolAt w B d) (hl : d.files.length ≤ 100000) :
    Calls Tryz.prog 102 #[.pointer (some ⟨B, 0, none⟩), .int .i64 id] w fun e w' => e = .returned (.int .i64 (optI (atI d.files id))) ∧ Below w.heap.size w w' := by
  obtain ⟨a, c, hB, hf, _⟩ := hv
  obtain ⟨vid, fr, snap, fs, next⟩ := d
  simp only at *
  obtain ⟨x0, x1, x2, x3, x4, _⟩ := five hB
  have hlt := block_lt_of_cell x0
  simp only at hlt
  have HF : Hid (FilesAt w a fs) := hf
  clear hf hB x0 x1 x2 x4
  go_enter Tryz.func102, Tryz.ntmps102
  go_wp2_with fail
  refine (idxf_any a fs c id w.heap.size _ (HF.out.below (nwA (nwR w) _)) hl (by simp)).mono ?_
  rintro e w2 ⟨rfl, hb2⟩
  go_wp2_with fail
  go_ret
  exact ⟨rfl, nwT (nwA (nwR w) _) hb2⟩

/-- the place of a file in a volume that is there -/
def NodeOf (w : World) (B : Nat) (d : VolD) (v : Value) (q : Nat) : Prop := ∃ a o c, w.heap[B]? = some (.cells #[.int .i64 d.id, .int .i64 d.fr, .bool d.snap, .slice (some ⟨a, o, none⟩) d.files.length c, .int .i64 d.next] 104 (0, 0)) ∧ q < d.files.length ∧ v = .agg #[.pointer (some ⟨a, o + q * 5, none⟩)]
theorem NodeOf.val {w : World} {B q : Nat} {d : VolD} {v : Value} (h : NodeOf w B d v q) (hv : VolAt w B d) : NodeVal w v (d.files.getD q f0) := by
  obtain ⟨a, o, c, h1, h2, h3⟩ := h
  obtain ⟨a', c', g1, g2, _⟩ := hv
  rw [g1] at h1
  simp only [Option.some.injEq, Obj.cells.injEq, Array.mk.injEq, List.cons.injEq, Value.slice.injEq, true_and, and_true] at h1
  obtain ⟨e1, e2⟩ := h1
  subst e1
  obtain ⟨b2, o2, e3, hf⟩ := g2.file h2
  injection e3 with e3
  injection e3 with e4 e5
  subst e4; subst e5
  exact ⟨_, _, h3, hf⟩
theorem NodeOf.below {w w' : World} {B q : Nat} {d : VolD} {v : Value} (h : NodeOf w B d v q) (hb : Below w.heap.size w w') : NodeOf w' B d v q := by
  obtain ⟨a, o, c, h1, h2, h3⟩ := h
  exact ⟨a, o, c, (hb.block _ (Array.getElem?_eq_some_iff.1 h1).1).trans h1, h2, h3⟩

set_option maxRecDepth 100000 in
set_option maxHeartbeats 2000000 in
theorem file_any (B : Nat) (d : VolD) (id : Int) (q : Nat) (w : World) (hv : VolAt w B d) (hl : d.files.length ≤ 100000) (hq : atI d.files id = some q) :
    Calls Tryz.prog 81 #[.pointer (some ⟨B, 0, none⟩), .int .i64 id] w fun e w' => (∃ v, e = .returned v ∧ NodeOf w' B d v q) ∧ Below w.heap.size w w' := by
  have HV : Hid (VolAt w B d) := hv
  have HQ : Hid (atI d.files id = some q) := hq
  obtain ⟨a, c, hB, hf, _⟩ := hv
  have hql := atI_lt hq
  obtain ⟨b1, o1, rfl, _⟩ := hf.file hql
  have HBK : Hid (w.heap[B]? = some (.cells #[.int .i64 d.id, .int .i64 d.fr, .bool d.snap, .slice (some ⟨b1, o1, none⟩) d.files.length c, .int .i64 d.next] 104 (0, 0))) := hB
  clear hf hq hB
  have hBl := (Array.getElem?_eq_some_iff.1 HBK.out).1
  go_enter Tryz.func81, Tryz.ntmps81
  go_wp2_with fail
  obtain ⟨W0, hW0⟩ : ∃ W0, W0 = w.alloc (.cells #[.pointer none] 81) := ⟨_, rfl⟩
  have HB0 : Hid (Below w.heap.size w W0) := by rw [hW0]; exact nwA (nwR w) _
  have hS := nwR W0
  obtain ⟨x0, x1, x2, x3, x4, _⟩ := five ((HB0.out.block _ hBl).trans HBK.out)
  have z3 : ∀ w', Below W0.heap.size W0 w' → w'.cell? ⟨B, 3, none⟩ = some (.slice (some ⟨b1, o1, none⟩) d.files.length c) := fun w' h => (h.cell (p := ⟨B, 3, none⟩) (block_lt_of_cell x3)).trans x3
  rw [← hW0]
  have HH0 : Hid (W0.heap[w.heap.size]? = some (.cells #[.pointer none] 81 (0, 0))) := by rw [hW0]; exact heap_alloc_new w _
  have hW0s : W0.heap.size = w.heap.size + 1 := by rw [hW0]; simp
  have HSZ : Hid (W0.heap.size = w.heap.size + 1) := hW0s
  clear hW0 hW0s x0 x1 x2 x4
  have hq0 : (0 : Int) ≤ (q : Int) := by omega
  have hqi : (q : Int) < (d.files.length : Int) := by omega
  have HI : Hid (∀ W, Below W0.heap.size W0 W → Calls Tryz.prog 102 #[.pointer (some ⟨B, 0, none⟩), .int .i64 id] W fun e w' => e = .returned (.int .i64 q) ∧ Below W0.heap.size W0 w') := fun W h =>
    (index_any B d id W (HV.out.below (nwT HB0.out h)) hl).mono fun e w' ⟨he, hb⟩ => ⟨by rw [he, HQ.out]; rfl, nwT h hb⟩
  have HK : Hid (∀ W, Below W0.heap.size W0 W → W.cell? ⟨w.heap.size, 0, none⟩ = some (.pointer none) ∧ W.frozen? ⟨w.heap.size, 0, none⟩ = false) := fun W h => by
    have kB := (h.block w.heap.size (by have := HSZ.out; omega)).trans HH0.out
    exact ⟨by rw [Lib.cell_of_heap kB]; rfl, Lib.frozen_of_heap kB 0⟩
  go_region_with (first
    | (go_at_call 102; refine (HI.out _ (Below.drew hS)).mono ?_; rintro e wU ⟨rfl, hbu⟩; have k3 := z3 wU hbu; obtain ⟨k0, kf⟩ := HK.out wU hbu)
    | fail)
  all_goals
    go_wp2_with fail
    have HB2 : Hid (Below w.heap.size w wU) := nwT HB0.out hbu
    refine bodyPost_ret (v := .agg #[.pointer (some ⟨b1, o1 + q * 5, none⟩)]) (by simp [results, Tryz.results81, go_sem, k0]) rfl ⟨⟨_, rfl, b1, o1, c, ?_, hql, rfl⟩, ?_⟩
    · exact (Below.heap_setCell _ _ _ _ (by show B ≠ w.heap.size; omega)).trans ((HB2.out.block B hBl).trans HBK.out)
    · exact HB2.out.setCell (p := ⟨w.heap.size, 0, none⟩) (Nat.le_refl _) _

set_option maxRecDepth 100000 in
set_option maxHeartbeats 1000000 in
theorem vlinks_any (B : Nat) (d : VolD) (id : Int) (w : World) (hv : VolAt w B d) (hs : SmallV d) :
    Calls Tryz.prog 54 #[.pointer (some ⟨B, 0, none⟩), .int .i64 id] w fun e w' => e = .returned (.int .i64 (linksN d.files id)) ∧ Below w.heap.size w w' := by
  obtain ⟨a, c, hB, hf, _⟩ := hv
  obtain ⟨vid, fr, snap, fs, next⟩ := d
  simp only [SmallV] at *
  obtain ⟨hl, hs2⟩ := hs
  have HS : Hid (∀ f ∈ fs, SmallF f) := hs2
  have HBK : Hid (w.heap[B]? = some (.cells #[.int .i64 vid, .int .i64 fr, .bool snap, .slice a fs.length c, .int .i64 next] 104 (0, 0))) := hB
  obtain ⟨x0, x1, x2, x3, x4, _⟩ := five hB
  have hlt := block_lt_of_cell x0
  simp only at hlt
  have HF : Hid (FilesAt w a fs) := hf
  clear hf hB x0 x1 x2 x4 hs2
  go_enter Tryz.func54, Tryz.ntmps54
  go_wp2_with fail
  clear x3
  go_loopw [5, 13] (fun n i wr => ∃ (k : Nat), k ≤ fs.length ∧ i = .int .i64 k ∧ n = .int .i64 (linksN (fs.take k) id) ∧ Below w.heap.size w wr)
    (fun _ i _ => fs.length - (intOf i).toNat)
  case atStart => exact ⟨0, by omega, rfl, rfl, nwR w⟩
  case round =>
    obtain ⟨k, hk, rfl, rfl, hb⟩ := hrel
    by_cases hkl : k < fs.length
    · have hkli : (k : Int) < (fs.length : Int) := by omega
      obtain ⟨b1, o1, rfl, hfi⟩ := (HF.out.below hb).file hkl
      have HN : Hid (NodeVal wr (.agg #[.pointer (some ⟨b1, o1 + k * 5, none⟩)]) (fs.getD k f0)) := ⟨_, _, rfl, hfi⟩
      have HSU : Hid (linksN (fs.take (k + 1)) id = linksN (fs.take k) id + cntL (fs.getD k f0).list id) := linksN_succ hkl id
      have hbd : linksN (fs.take k) id ≤ 10000000000 := by
        have h1 := linksN_le (fs := fs.take k) id (fun g hg => HS.out g (List.mem_of_mem_take hg))
        have h2 : (fs.take k).length ≤ 100000 := by rw [List.length_take]; omega
        have h3 : (fs.take k).length * 100000 ≤ 100000 * 100000 := Nat.mul_le_mul_right _ h2
        omega
      have HSM : Hid (SmallF (fs.getD k f0)) := HS.out (fs.getD k f0) (by simp [List.getD, hkl])
      have hcn : cntL (fs.getD k f0).list id ≤ 100000 := by have h1 := cntL_le (fs.getD k f0).list id; have h2 := HSM.out.2; omega
      obtain ⟨y0, y1, y2, y3, y4, _⟩ := five ((hb.block _ (Array.getElem?_eq_some_iff.1 HBK.out).1).trans HBK.out)
      clear hfi y0 y1 y2 y4
      generalize linksN (fs.take k) id = M at HSU hbd
      generalize fs.getD k f0 = f at HSU HSM HN hcn
      go_wp2_with fail
      refine (nlinks_any _ f id _ HN.out HSM.out).mono ?_
      rintro e w2 ⟨rfl, hb2⟩
      have HBB : Hid (Below w.heap.size w w2) := nwT hb hb2
      clear hb hb2 y3
      generalize cntL f.list id = C at HSU hcn
      go_wp2_with fail
      go_roundw
      case rel => exact ⟨k + 1, by omega, by go_num, by rw [HSU.out]; simp, HBB.out⟩
      case measure => simp [intOf]; omega
    · have hkli : ¬ (k : Int) < (fs.length : Int) := by omega
      have e : fs.take k = fs := List.take_of_length_le (by omega)
      rw [e]
      go_wp2_with fail
      go_ret
      exact ⟨rfl, hb⟩

def MayN (id : Int) (dir : Bool) (n : Nat) : Prop := (id = 1 → n = 0) ∧ (id ≠ 1 → n ≠ 0 ∧ (dir = true → n = 1))
set_option maxRecDepth 100000 in
set_option maxHeartbeats 1000000 in
theorem mayHave_any (v : Value) (f : FileD) (n : Nat) (w : World) (hv : FileVal w v f) :
    Calls Tryz.prog 112 #[v, .int .i64 n] w fun e w' => SaysB e (MayN f.id f.dir n) ∧ Below w.heap.size w w' := by
  obtain ⟨ab, cb, al, cl, rfl, _⟩ := hv
  obtain ⟨fid, fdir, fsize, fbl, fli⟩ := f
  simp only [fcells]
  have HB : Hid (Below w.heap.size w (w.alloc (.cells #[.int .i64 fid, .bool fdir, .int .i64 fsize, .slice ab fbl.length cb, .slice al fli.length cl] 39))) := nwA (nwR w) _
  by_cases h1 : fid = 1
  · subst h1
    have HR : Hid ((((n : Int) == 0) = true) ↔ MayN 1 fdir n) := by show _ ↔ _; unfold MayN; rw [beq_iff_eq]; constructor
                                                                    · intro h; exact ⟨fun _ => by omega, fun h => absurd rfl h⟩
                                                                    · intro h; have := h.1 rfl; omega
    go_enter Tryz.func112, Tryz.ntmps112
    go_wp2_with fail
    go_ret
    exact ⟨⟨_, rfl, HR.out⟩, HB.out⟩
  · have h1b : (fid == 1) = false := beq_eq_false_iff_ne.2 h1
    cases fdir
    · have HR : Hid ((decide (1 ≤ (n : Int)) = true) ↔ MayN fid false n) := by
        show _ ↔ _; unfold MayN; rw [decide_eq_true_iff]; constructor
        · intro h; exact ⟨fun e => absurd e h1, fun _ => ⟨by omega, fun e => by cases e⟩⟩
        · intro h; have := (h.2 h1).1; omega
      clear h1
      go_enter Tryz.func112, Tryz.ntmps112
      go_wp2_with fail
      go_ret
      exact ⟨⟨_, rfl, HR.out⟩, HB.out⟩
    · have HR : Hid ((((n : Int) == 1) = true) ↔ MayN fid true n) := by
        show _ ↔ _; unfold MayN; rw [beq_iff_eq]; constructor
        · intro h; exact ⟨fun e => absurd e h1, fun _ => ⟨by omega, fun e => by omega⟩⟩
        · intro h; have := (h.2 h1).2 rfl; omega
      clear h1
      go_enter Tryz.func112, Tryz.ntmps112
      go_wp2_with fail
      go_ret
      exact ⟨⟨_, rfl, HR.out⟩, HB.out⟩

end Go.Proofs.YtdpighcaieajjaaGreat
