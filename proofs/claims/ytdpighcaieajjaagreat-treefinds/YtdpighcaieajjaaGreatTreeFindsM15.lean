/- Laid together: Addw, Putw, Create, Change, Make, Newv, Wakem. -/
import Derived.Test.YtdpighcaieajjaaGreatTreeFindsM14
import Derived.Deep.RegionLaw
/- A link more in a directory, by the program: the walk. -/
namespace Go.Proofs.YtdpighcaieajjaaGreat
open Go.RowKit Go.Sort

set_option maxRecDepth 100000 in
set_option maxHeartbeats 4000000 in
theorem nadd_any (base g cap q lb : Nat) (fs : List FileD) (s : ByteArray) (id : Int) (W w : World) (hX : OwnFilesX W base (.slice (some ⟨g, 0, none⟩) fs.length cap) fs) (hW : Below W.heap.size W w) (hq : q < fs.length) (hl : (fs.getD q f0).list.length ≤ 11)
    (hst : StrictL (fs.getD q f0).list) (hnn : ∀ y ∈ (fs.getD q f0).list, y.1 ≠ s) (hlb : w.heap[lb]? = some (.cells #[.string s, .int .i64 id] 87 (0, 0))) :
    Calls Tryz.prog 104 #[.agg #[.pointer (some ⟨g, q * 5, none⟩)], .slice (some ⟨lb, 0, none⟩) 1 1] w fun e w' => e = .returned (.tuple #[]) ∧ OwnFilesX w' base (.slice (some ⟨g, 0, none⟩) fs.length cap) (fs.set q (withList (fs.getD q f0) (putL (fs.getD q f0).list (s, id)))) ∧ KeepT w w' ∧ Below base w w' := by
  obtain ⟨gs, hd, hrow, hown, hap⟩ := hX.below hW
  have hlen : gs.length = fs.length := by rw [← hd, List.length_map]
  obtain ⟨x, hx⟩ : ∃ x, gs[q]? = some x := ⟨gs[q]'(by omega), List.getElem?_eq_getElem (by omega)⟩
  have hxd : fs.getD q f0 = x.d := by
    rw [← hd]; obtain ⟨h1, h2⟩ := List.getElem?_eq_some_iff.1 hx; simp [List.getD, h1, h2]
  rw [hxd] at hl hst hnn ⊢
  have hxm : x ∈ gs := List.mem_of_getElem? hx
  have HB0 : Below w.heap.size w (w.alloc (.cells #[.pointer (some ⟨g, q * 5, none⟩)] 81)) := nwA (nwR w) _
  have HROW : Hid ((w.alloc (.cells #[.pointer (some ⟨g, q * 5, none⟩)] 81)).ownsRow base 39 5 (.slice (some ⟨g, 0, none⟩) fs.length cap) gs.length (fflat gs)) := own_below hrow HB0
  have HOWN : Hid (∀ y ∈ gs, OwnFV (w.alloc (.cells #[.pointer (some ⟨g, q * 5, none⟩)] 81)) base y) := fun y hy => (hown y hy).below HB0
  have HAP : Hid (Apart gs) := hap
  have HX : Hid (gs[q]? = some x) := hx
  have HD : Hid (gs.map FV.d = fs) := hd
  have HBX : Hid ((w.alloc (.cells #[.pointer (some ⟨g, q * 5, none⟩)] 81)).heap[w.heap.size]? = some (.cells #[.pointer (some ⟨g, q * 5, none⟩)] 81 (0, 0))) := heap_alloc_new w _
  have HLB : Hid ((w.alloc (.cells #[.pointer (some ⟨g, q * 5, none⟩)] 81)).heap[lb]? = some (.cells #[.string s, .int .i64 id] 87 (0, 0))) := (HB0.block _ (Array.getElem?_eq_some_iff.1 hlb).1).trans hlb
  have HK0 : Hid (KeepT w (w.alloc (.cells #[.pointer (some ⟨g, q * 5, none⟩)] 81))) := KeepT.of_below HB0
  have hbg := World.ownsRow.lt hrow g rfl
  have HBB : Hid (Below base w (w.alloc (.cells #[.pointer (some ⟨g, q * 5, none⟩)] 81))) := (Below.refl _ _).alloc (by omega) _
  have HST : Hid (StrictL x.d.list) := hst
  have HNN : Hid (∀ y ∈ x.d.list, y.1 ≠ s) := hnn
  obtain ⟨i0, hi, hz0, hz1, hz2⟩ := info_parts Tryz.info87
  clear hX hW hd hrow hown hap hx hlb hst hnn HB0
  go_enter Tryz.func104, Tryz.ntmps104
  go_wp2_with fail
  generalize hW0 : w.alloc (.cells #[.pointer (some ⟨g, q * 5, none⟩)] 81) = W0 at HROW HOWN HBX HLB HK0 HBB ⊢
  have hPl : w.heap.size < W0.heap.size := (Array.getElem?_eq_some_iff.1 HBX.out).1
  have hlbl : lb < W0.heap.size := (Array.getElem?_eq_some_iff.1 HLB.out).1
  clear hW0
  obtain ⟨_, _, _, _, f4⟩ := fflat_get gs q x HX.out
  have c4 : W0.cell? ⟨g, q * 5 + 4, none⟩ = some x.lv := by
    have := HROW.out.cells (g := g) rfl _ _ f4
    rw [Addr.add_lit, Nat.zero_add] at this
    exact this
  have HOL : Hid (OwnLinks W0 base x.lv x.d.list) := (HOWN.out x hxm).2
  have hol := HOL.out
  obtain ⟨al, cl, hlv, _, _⟩ := hol.at
  have HLV : Hid (x.lv = .slice al x.d.list.length cl) := hlv
  rw [hlv] at c4
  have hB1 : x.d.list.length + 1 ≤ maxLen := by unfold maxLen; omega
  have hB2 : (x.d.list.length + 1) * 24 ≤ 140737488355328 := by omega
  have HZB : Hid (∀ w' : World, w'.heap[w.heap.size]? = some (.cells #[.pointer (some ⟨g, q * 5, none⟩)] 81 (0, 0)) → w'.cell? ⟨w.heap.size, 0, none⟩ = some (.pointer (some ⟨g, q * 5, none⟩))) := fun w' h => (one_cell h).1
  have hS := HBX.out
  have HNE : Hid (¬ w.heap.size = g) := by show ¬ _; omega
  have HF4 : Hid ((fflat gs)[q * 5 + 4]? = some x.lv) := f4
  have HLE : Hid (gs.length = fs.length) := hlen
  clear hol hlv f4
  have b0 := (one_cell HBX.out).1
  go_region_law (first
    | (refine step_append_at (by rfl) (.tmp 10) (.tmp 11) 37 (by rfl) base 87 i0 (.agg #[.string ⟨#[]⟩, .int .i64 0]) 2 24 Tryz.underlying37 hi hz0 hz1 hz2 rfl (by decide) (.slice al x.d.list.length cl) x.d.list.length (lflat x.d.list) (by simp [Act.eval]) (by have h := HOL.out; rw [HLV.out] at h; exact h) ⟨lb, 0, none⟩ 1 1 [.string s, .int .i64 id] (by simp [Act.eval]) rfl (by intro j u hu; have h2 := two_cells HLB.out; rw [Addr.add_lit, Nat.zero_add]; match j, hu with | 0, hu => simp at hu; subst hu; exact h2.1 | 1, hu => simp at hu; subst hu; exact h2.2.1) (by simp [Value.oneCell']) hB1 hB2 (by show base ≤ W0.heap.size; omega) ?_; intro v1 w3 hown1 hgrow1 hat1; have hGR : W0.grownBy w3 x.lv.ownBlock := (by rw [HLV.out]; exact (gbOf (Below.drew (nwR W0)) _).trans hgrow1); have hS3 : w3.heap[w.heap.size]? = some (.cells #[.pointer (some ⟨g, q * 5, none⟩)] 81 (0, 0)) := (KeepT.of_gb hGR HOL.out (.inr rfl)).2 _ _ _ _ HBX.out (by decide) (by decide); have hR3 := own_keep HROW.out hGR (ne_of_tags HROW.out HOL.out (by decide)); have k4 : w3.cell? ⟨g, q * 5 + 4, none⟩ = some x.lv := (by have h := hR3.cells (g := g) rfl _ _ HF4.out; rw [Addr.add_lit, Nat.zero_add] at h; exact h); have kf : w3.frozen? ⟨g, q * 5 + 4, none⟩ = false := (by rw [HLE.out] at hR3; exact hR3.frozenAt _); obtain ⟨g1, cap1, rfl, hg1, _⟩ := slice_cells hown1 (Nat.succ_pos _); have b3 := (one_cell hS3).1)
    | fail)
  all_goals
    have HO3 : Hid (OwnLinks w3 base (.slice (some ⟨g1, 0, none⟩) (x.d.list.length + 1) cap1) (x.d.list ++ [(s, id)])) := OwnLinks.snoc hown1
    obtain ⟨cs3, hh3⟩ := own_tag hR3 g rfl
    have HO4 : Hid (OwnLinks (w3.setCell ⟨g, q * 5 + 4, none⟩ (.slice (some ⟨g1, 0, none⟩) (x.d.list.length + 1) cap1)) base (.slice (some ⟨g1, 0, none⟩) (x.d.list.length + 1) cap1) (x.d.list ++ [(s, id)])) := rowset2 HO3.out hh3 (by decide) _
    have hS4 : (w3.setCell ⟨g, q * 5 + 4, none⟩ (.slice (some ⟨g1, 0, none⟩) (x.d.list.length + 1) cap1)).heap[w.heap.size]? = some (.cells #[.pointer (some ⟨g, q * 5, none⟩)] 81 (0, 0)) := (KeepT.of_set _ hh3 (.inl rfl)).2 _ _ _ _ hS3 (by decide) (by decide)
    have hR4 : (w3.setCell ⟨g, q * 5 + 4, none⟩ (.slice (some ⟨g1, 0, none⟩) (x.d.list.length + 1) cap1)).cell? ⟨g, q * 5 + 4, none⟩ = some (.slice (some ⟨g1, 0, none⟩) (x.d.list.length + 1) cap1) := by
      have h := hR3
      rw [HLE.out] at h
      have h2 := (h.stored (q * 5 + 4) (.slice (some ⟨g1, 0, none⟩) (x.d.list.length + 1) cap1)).1.cells (g := g) rfl (q * 5 + 4) (.slice (some ⟨g1, 0, none⟩) (x.d.list.length + 1) cap1) (List.getElem?_set_self (List.getElem?_eq_some_iff.1 HF4.out).1)
      rw [Addr.add_lit, Nat.zero_add] at h2
      exact h2
    have b4 := (one_cell hS4).1
    have HGR : Hid (W0.grownBy w3 x.lv.ownBlock) := hGR
    have HAT : Hid ((Value.slice (some ⟨g1, 0, none⟩) (x.d.list.length + 1) cap1).ownBlock = x.lv.ownBlock ∨ (Value.slice (some ⟨g1, 0, none⟩) (x.d.list.length + 1) cap1).ownBlock = some W0.heap.size) := by rw [HLV.out]; exact hat1
    have HSO : Hid (Calls Tryz.prog 117 #[.slice (some ⟨g1, 0, none⟩) (x.d.list.length + 1) cap1, .func (.func 118) #[] #[]] (w3.setCell ⟨g, q * 5 + 4, none⟩ (.slice (some ⟨g1, 0, none⟩) (x.d.list.length + 1) cap1)) fun e w' => e = .returned (.tuple #[]) ∧ OwnLinks w' base (.slice (some ⟨g1, 0, none⟩) (x.d.list.length + 1) cap1) (putL x.d.list (s, id)) ∧ (w3.setCell ⟨g, q * 5 + 4, none⟩ (.slice (some ⟨g1, 0, none⟩) (x.d.list.length + 1) cap1)).grownBy w' (some g1)) := by
      refine (sort_any base _ (x.d.list ++ [(s, id)]) _ HO4.out (by rw [List.length_append, List.length_singleton]; omega) (by rw [List.length_append, List.length_singleton]; omega)).mono ?_
      rintro e w' ⟨h1, ⟨l2, _, hp, hsr, ho⟩, hgb⟩
      rw [sorted_put HST.out HNN.out hp hsr] at ho
      exact ⟨h1, ho, hgb⟩
    have HFIN : Hid (∀ w5, OwnLinks w5 base (.slice (some ⟨g1, 0, none⟩) (x.d.list.length + 1) cap1) (putL x.d.list (s, id)) → (w3.setCell ⟨g, q * 5 + 4, none⟩ (.slice (some ⟨g1, 0, none⟩) (x.d.list.length + 1) cap1)).grownBy w5 (some g1) → OwnFilesX w5 base (.slice (some ⟨g, 0, none⟩) fs.length cap) (fs.set q (withList x.d (putL x.d.list (s, id)))) ∧ KeepT w w5 ∧ Below base w w5) := fun w5 h1 h2 => by
      have h := relist HROW.out HOWN.out HAP.out HX.out HGR.out HO3.out HAT.out h2 h1
      rw [HD.out] at h
      have hbl := HBB.out
      exact ⟨h.1, HK0.out.trans h.2.1, hbl.trans h.2.2⟩
    clear hown1 hgrow1 hat1 hGR hS3 hR3 k4 kf b3 hh3 hS4 c4 b0 hS
    go_wp2_with (go_at_call 117; refine HSO.out.mono ?_; rintro e w5 ⟨rfl, ho5, hg5⟩; have HF5 := HFIN.out w5 ho5 hg5; clear ho5 hg5)
    go_end0
    exact ⟨rfl, HF5⟩

end Go.Proofs.YtdpighcaieajjaaGreat

/- A place that comes to name a file, by the program. -/
namespace Go.Proofs.YtdpighcaieajjaaGreat
open Go.RowKit Go.Sort

set_option maxRecDepth 100000 in
set_option maxHeartbeats 2000000 in
theorem pput_any (base g cap q : Nat) (fs : List FileD) (s : ByteArray) (id : Int) (w : World) (hX : OwnFilesX w base (.slice (some ⟨g, 0, none⟩) fs.length cap) fs) (hq : q < fs.length) (hl : (fs.getD q f0).list.length ≤ 11)
    (hst : StrictL (fs.getD q f0).list) (hnn : ∀ y ∈ (fs.getD q f0).list, y.1 ≠ s) :
    Calls Tryz.prog 86 #[.agg #[.pointer (some ⟨g, q * 5, none⟩), .string s], .int .i64 id] w fun e w' => e = .returned (.tuple #[]) ∧ OwnFilesX w' base (.slice (some ⟨g, 0, none⟩) fs.length cap) (fs.set q (withList (fs.getD q f0) (putL (fs.getD q f0).list (s, id)))) ∧ KeepT w w' ∧ Below base w w' := by
  have hbase : base ≤ w.heap.size := by
    obtain ⟨gs, _, hrow, _, _⟩ := hX
    have := World.ownsRow.lt hrow g rfl; omega
  have HB0 : Hid (Below w.heap.size w ((w.alloc (.cells #[.pointer (some ⟨g, q * 5, none⟩), .string s] 112)).alloc (.cells #[.string s, .int .i64 id] 87))) := nwA (nwA (nwR w) _) _
  have HBB : Hid (Below base w ((w.alloc (.cells #[.pointer (some ⟨g, q * 5, none⟩), .string s] 112)).alloc (.cells #[.string s, .int .i64 id] 87))) := ((Below.refl _ _).alloc hbase _).alloc (by simp; omega) _
  have HCA : Hid (Calls Tryz.prog 104 #[.agg #[.pointer (some ⟨g, q * 5, none⟩)], .slice (some ⟨w.heap.size + 1, 0, none⟩) 1 1] ((w.alloc (.cells #[.pointer (some ⟨g, q * 5, none⟩), .string s] 112)).alloc (.cells #[.string s, .int .i64 id] 87)) fun e w' => e = .returned (.tuple #[]) ∧ OwnFilesX w' base (.slice (some ⟨g, 0, none⟩) fs.length cap) (fs.set q (withList (fs.getD q f0) (putL (fs.getD q f0).list (s, id)))) ∧ KeepT ((w.alloc (.cells #[.pointer (some ⟨g, q * 5, none⟩), .string s] 112)).alloc (.cells #[.string s, .int .i64 id] 87)) w' ∧ Below base ((w.alloc (.cells #[.pointer (some ⟨g, q * 5, none⟩), .string s] 112)).alloc (.cells #[.string s, .int .i64 id] 87)) w') :=
    nadd_any base g cap q (w.heap.size + 1) fs s id w _ hX HB0.out hq hl hst hnn (heap_alloc_new2 w _ _)
  clear hX hl hst hnn
  go_enter Tryz.func86, Tryz.ntmps86
  go_wp2_with (go_at_call 104; refine HCA.out.mono ?_; rintro e w5 ⟨rfl, h1, h2, h3⟩; have HF : Hid (OwnFilesX w5 base (.slice (some ⟨g, 0, none⟩) fs.length cap) (fs.set q (withList (fs.getD q f0) (putL (fs.getD q f0).list (s, id)))) ∧ KeepT w w5 ∧ Below base w w5) := ⟨h1, (KeepT.of_below HB0.out).trans h2, HBB.out.trans h3⟩; clear h1 h2 h3)
  go_end0
  exact ⟨rfl, HF.out⟩

/-- blocks of other kinds than files, links and volumes are as they were -/
def KeepU (w w' : World) : Prop := w.heap.size ≤ w'.heap.size ∧ ∀ (k : Nat) (cs : Array Value) (t : TypeId) (fr : Nat × Nat), w.heap[k]? = some (Obj.cells cs t fr) → t ≠ 39 → t ≠ 87 → t ≠ 104 → w'.heap[k]? = some (Obj.cells cs t fr)
theorem KeepU.trans {a b c : World} (h : KeepU a b) (k : KeepU b c) : KeepU a c := ⟨Nat.le_trans h.1 k.1, fun i cs t fr e h1 h2 h3 => k.2 i cs t fr (h.2 i cs t fr e h1 h2 h3) h1 h2 h3⟩
theorem KeepT.u {w w' : World} (h : KeepT w w') : KeepU w w' := ⟨h.1, fun k cs t fr e h1 h2 _ => h.2 k cs t fr e h1 h2⟩
theorem KeepU.of_set {w : World} {g o : Nat} {cs : Array Value} {fr : Nat × Nat} (v : Value) (hg : w.heap[g]? = some (.cells cs 104 fr)) : KeepU w (w.setCell ⟨g, o, none⟩ v) := by
  refine ⟨by simp, fun i cs' t' fr' hi h1 h2 h3 => (heap_setCell_other w ⟨g, o, none⟩ i v (fun e => ?_)).trans hi⟩
  have e2 : i = g := e
  rw [e2, hg] at hi
  simp only [Option.some.injEq, Obj.cells.injEq] at hi
  exact h3 hi.2.1.symm
/-- the volume with a new file at a place -/
def newV (d : VolD) (q : Nat) (last : ByteArray) (dir : Bool) : VolD :=
  ⟨d.id, d.fr, d.snap, d.files.set q (withList (d.files.getD q f0) (putL (d.files.getD q f0).list (last, d.next))) ++ [⟨d.next, dir, 0, [], []⟩], d.next + 1⟩
/-- how making ends: the error, and the place -/
def makF (d : VolD) (L : List ByteArray) : Nat × Int :=
  if (vacF d.files L).2 = 0 then (if 16 ≤ d.files.length ∨ 8 ≤ (d.files.getD (vacF d.files L).1 f0).list.length ∨ 1073741824 ≤ d.next then (0, 2) else vacF d.files L) else (0, (vacF d.files L).2)

end Go.Proofs.YtdpighcaieajjaaGreat

/- A file more, by the program. -/
namespace Go.Proofs.YtdpighcaieajjaaGreat
open Go.RowKit Go.Sort

def CreateIs (d : VolD) (M : Nat × Int) (last : ByteArray) (dir : Bool) (base B : Nat) (e : Ending) (w' : World) : Prop :=
  (M.2 = 0 ∧ e = .returned (.int .i64 0) ∧ OwnPtr w' base B (newV d M.1 last dir)) ∨ (M.2 ≠ 0 ∧ e = .returned (.int .i64 M.2))
theorem createIs_no {d : VolD} {M : Nat × Int} {last : ByteArray} {dir : Bool} {base B q : Nat} {w' : World} {er : Int} (h : M = (q, er)) (he : er ≠ 0) : CreateIs d M last dir base B (.returned (.int .i64 er)) w' := by
  subst h; exact .inr ⟨he, rfl⟩
theorem createIs_yes {d : VolD} {M : Nat × Int} {last : ByteArray} {dir : Bool} {base B q : Nat} {w' : World} (h : M = (q, 0)) (ho : OwnPtr w' base B (newV d q last dir)) : CreateIs d M last dir base B (.returned (.int .i64 0)) w' := by
  subst h; exact .inl ⟨rfl, rfl, ho⟩
theorem OwnPtr.slice {w : World} {base B : Nat} {d : VolD} (h : OwnPtr w base B d) (hp : 0 < d.files.length) : ∃ g cap, w.heap[B]? = some (.cells #[.int .i64 d.id, .int .i64 d.fr, .bool d.snap, .slice (some ⟨g, 0, none⟩) d.files.length cap, .int .i64 d.next] 104 (0, 0)) ∧ OwnFilesX w base (.slice (some ⟨g, 0, none⟩) d.files.length cap) d.files := by
  obtain ⟨_, fv, h1, h2⟩ := h
  have h3 := h2
  obtain ⟨gs, hd, hrow, _, _⟩ := h3
  have hl : gs.length = d.files.length := by rw [← hd, List.length_map]
  obtain ⟨g, cap, e, _, _⟩ := slice_cells hrow (by omega)
  rw [hl] at e
  subst e
  exact ⟨g, cap, h1, h2⟩

structure CrS (P : Nat) (pl : Obj) (B : Nat) (vl : Obj) (w : World) : Prop where
  p : w.heap[P]? = some pl
  b : w.heap[B]? = some vl
theorem CrS.below {P B : Nat} {pl vl : Obj} {w w' : World} (h : CrS P pl B vl w) (hb : Below w.heap.size w w') : CrS P pl B vl w' :=
  ⟨(hb.block _ (Array.getElem?_eq_some_iff.1 h.p).1).trans h.p, (hb.block _ (Array.getElem?_eq_some_iff.1 h.b).1).trans h.b⟩
theorem OwnFV.setT {w : World} {base g o : Nat} {x : FV} {cs : Array Value} {t : Nat} (h : OwnFV w base x) (hg : w.heap[g]? = some (.cells cs t (0, 0))) (h1 : t ≠ 3) (h2 : t ≠ 87) (u : Value) : OwnFV (w.setCell ⟨g, o, none⟩ u) base x := ⟨rowset2 h.1 hg h1 u, rowset2 h.2 hg h2 u⟩
theorem OwnFilesX.setT {w : World} {base g o : Nat} {v : Value} {fs : List FileD} {cs : Array Value} {t : Nat} (h : OwnFilesX w base v fs) (hg : w.heap[g]? = some (.cells cs t (0, 0))) (h1 : t ≠ 3) (h2 : t ≠ 87) (h3 : t ≠ 39) (u : Value) : OwnFilesX (w.setCell ⟨g, o, none⟩ u) base v fs := by
  obtain ⟨gs, e, hr, ho, ha⟩ := h
  exact ⟨gs, e, rowset2 hr hg h3 u, fun y hy => (ho y hy).setT hg h1 h2 u, ha⟩
/-- a file more behind files of one's own -/
theorem OwnFilesX.snoc {w w5 : World} {base : Nat} {v v1 : Value} {gs : List FV} {f : FileD} (hrow : w.ownsRow base 39 5 v gs.length (fflat gs)) (hown : ∀ y ∈ gs, OwnFV w base y) (hap : Apart gs) (hf1 : f.blocks = []) (hf2 : f.list = [])
    (hr5 : w5.ownsRow base 39 5 v1 (gs.length + 1) (fflat gs ++ [.int .i64 f.id, .bool f.dir, .int .i64 f.size, .slice none 0 0, .slice none 0 0])) (hg : w.grownBy w5 v.ownBlock) : OwnFilesX w5 base v1 (gs.map FV.d ++ [f]) := by
  refine ⟨gs ++ [⟨f, .slice none 0 0, .slice none 0 0⟩], by simp, ?_, ?_, ?_⟩
  · rw [fflat_snoc, List.length_append]; exact hr5
  · intro y hy
    rcases List.mem_append.1 hy with hy | hy
    · exact (hown y hy).grown hrow hg
    · simp at hy; subst hy
      refine ⟨?_, ?_⟩
      · unfold OwnInts; simp only; rw [hf1]; exact World.ownsRow_nil _ _ _ _
      · unfold OwnLinks; simp only; rw [hf2]; exact World.ownsRow_nil _ _ _ _
  · intro i j hij a b ha hb
    by_cases hj : j < gs.length
    · rw [List.getElem?_append_left (by omega)] at ha
      rw [List.getElem?_append_left hj] at hb
      exact hap i j hij a b ha hb
    · have hj2 := (List.getElem?_eq_some_iff.1 hb).1
      rw [List.length_append, List.length_singleton] at hj2
      have e : j = gs.length := by omega
      subst e
      rw [List.getElem?_append_right (Nat.le_refl _)] at hb
      simp at hb; subst hb
      cases hz : a.lv.ownBlock with
      | none => exact .inl rfl
      | some k => exact .inr (by simp [Value.ownBlock])

set_option maxRecDepth 100000 in
set_option maxHeartbeats 4000000 in
theorem create_any (base B : Nat) (d : VolD) (p : ByteArray) (L : List ByteArray) (dir : Bool) (w : World) (ho : OwnPtr w base B d) (hok : VolOk d) (hs : SmallV d) (hp : pathN p = some L) :
    Calls Tryz.prog 58 #[.pointer (some ⟨B, 0, none⟩), .string p, .bool dir] w fun e w' => CreateIs d (makF d L) (lastN L) dir base B e w' ∧ KeepU w w' ∧ Below base w w' := by
  have HOK : Hid (VolOk d) := hok
  have HO : Hid (OwnPtr w base B d) := ho
  have hbB : base ≤ B := ho.1
  have HMF : Hid (makF d L = if (vacF d.files L).2 = 0 then (if 16 ≤ d.files.length ∨ 8 ≤ (d.files.getD (vacF d.files L).1 f0).list.length ∨ 1073741824 ≤ d.next then (0, 2) else vacF d.files L) else (0, (vacF d.files L).2)) := rfl
  have HVC := vacant_any B d p L w ho.at hs hok.sound hok.one hp
  have HVA : Hid (Calls Tryz.prog 84 #[.pointer (some ⟨B, 0, none⟩), .string p] w fun e w' => PlaceIs d (vacF d.files L) (lastN L) B e w' ∧ Below w.heap.size w w') := HVC
  have HSV : Hid (SmallV d) := hs
  have hnx : 0 ≤ d.next ∧ d.next ≤ 1073741824 := by have := hok.1.2.2.1; simpa [numB] using this
  have hbw : base ≤ w.heap.size := by obtain ⟨_, fv, h1, _⟩ := ho; have := (Array.getElem?_eq_some_iff.1 h1).1; omega
  have hNR : Hid (∀ q, (vacF d.files L).2 = 0 → q = (vacF d.files L).1 → ∀ y ∈ (d.files.getD q f0).list, y.1 ≠ lastN L) := fun q h0 hq y hy e => by
    have hv : vacF d.files L = if L.length = 0 then (0, 4) else if (parF d.files L).2 = 0 then (if (namedI (d.files.getD (parF d.files L).1 f0).list (lastN L)).isSome then (0, 4) else parF d.files L) else (0, (parF d.files L).2) := rfl
    rw [hv] at h0 hq
    split at h0
    · simp at h0
    · rename_i h1
      rw [if_neg h1] at hq
      split at h0
      · rename_i h2
        rw [if_pos h2] at hq
        split at h0
        · simp at h0
        · rename_i h3
          rw [if_neg h3] at hq
          subst hq
          apply h3
          unfold namedI
          rw [List.findIdx?_isSome]
          exact List.any_eq_true.2 ⟨y, hy, by simpa using e⟩
      · rename_i h2
        simp at h0
        exact absurd h0 h2
  clear HVC hok hs hp ho
  have hpos : 0 < d.files.length := HOK.out.2.1.1.1
  generalize makF d L = M at HMF ⊢
  generalize lastN L = last at HVA hNR ⊢
  generalize vacF d.files L = V at HMF HVA hNR
  obtain ⟨q, er⟩ := V
  simp only at HMF HVA hNR
  go_enter Tryz.func58, Tryz.ntmps58
  go_wp2_with fail
  refine HVA.out.mono ?_
  rintro e w1 ⟨⟨u, rfl, hyes, hnone⟩, hb1⟩
  have HB1 : Hid (Below w.heap.size w w1) := hb1
  have HO1 : Hid (OwnPtr w1 base B d) := HO.out.below hb1
  have hw1 : w.heap.size ≤ w1.heap.size := hb1.size
  clear hb1
  simp only at hyes hnone ⊢
  by_cases her : er = 0
  case neg =>
    have HR : Hid (M = (0, er)) := by show _ = _; rw [HMF.out, if_neg her]
    have hu := hnone her
    subst hu
    clear hyes hnone
    go_wp2_with fail
    go_ret
    exact ⟨createIs_no HR.out her, (KeepT.of_below (nwA HB1.out _)).u, (nwA HB1.out _).mono hbw⟩
  case pos =>
  subst her
  have HMF2 : Hid (M = if 16 ≤ d.files.length ∨ 8 ≤ (d.files.getD q f0).list.length ∨ 1073741824 ≤ d.next then (0, 2) else (q, 0)) := by show _ = _; rw [HMF.out, if_pos rfl]
  clear HMF
  obtain ⟨pv, hno, rfl⟩ := hyes rfl
  have hql : q < d.files.length := by obtain ⟨_, _, _, _, h, _⟩ := hno; exact h
  obtain ⟨g, cap, hB1, hX1⟩ := HO1.out.slice hpos
  have hpe := hno.eq hB1
  simp only [Value.agg.injEq, Array.mk.injEq, List.cons.injEq, and_true, Nat.zero_add] at hpe
  subst hpe
  have HNN : Hid (∀ y ∈ (d.files.getD q f0).list, y.1 ≠ last) := hNR.out q rfl rfl
  have hnodes := (HOK.out.2.1.2 q hql).2
  have hqd : (d.files.getD q f0).list.length ≤ 8 ∧ StrictL (d.files.getD q f0).list := by
    unfold NodeOk at hnodes
    split at hnodes
    · exact ⟨hnodes.2.2.1, hnodes.2.2.strict⟩
    · have e0 := List.length_eq_zero_iff.1 hnodes.1
      rw [e0]; exact ⟨by simp, fun i j _ h => by simp at h⟩
  have HQD : Hid ((d.files.getD q f0).list.length ≤ 8 ∧ StrictL (d.files.getD q f0).list) := hqd
  have HNV : Hid (NodeVal w1 (.agg #[.pointer (some ⟨g, q * 5, none⟩)]) (d.files.getD q f0)) := by
    have := hno.val HO1.out.at
    exact this
  have HB2 : Hid (Below w.heap.size w (w1.alloc (.cells #[.pointer (some ⟨g, q * 5, none⟩), .string last] 112))) := nwA HB1.out _
  have HPL : Hid ((w1.alloc (.cells #[.pointer (some ⟨g, q * 5, none⟩), .string last] 112)).heap[w1.heap.size]? = some (.cells #[.pointer (some ⟨g, q * 5, none⟩), .string last] 112 (0, 0))) := heap_alloc_new w1 _
  have HX2 : Hid (OwnFilesX (w1.alloc (.cells #[.pointer (some ⟨g, q * 5, none⟩), .string last] 112)) base (.slice (some ⟨g, 0, none⟩) d.files.length cap) d.files) := hX1.below (nwA (nwR w1) _)
  have HBV : Hid ((w1.alloc (.cells #[.pointer (some ⟨g, q * 5, none⟩), .string last] 112)).heap[B]? = some (.cells #[.int .i64 d.id, .int .i64 d.fr, .bool d.snap, .slice (some ⟨g, 0, none⟩) d.files.length cap, .int .i64 d.next] 104 (0, 0))) := (Lib.alloc_old _ _ _ (Array.getElem?_eq_some_iff.1 hB1).1).trans hB1
  have HNV2 : Hid (NodeVal (w1.alloc (.cells #[.pointer (some ⟨g, q * 5, none⟩), .string last] 112)) (.agg #[.pointer (some ⟨g, q * 5, none⟩)]) (d.files.getD q f0)) := HNV.out.below (nwA (nwR w1) _)
  obtain ⟨v0, v1, v2, v3, v4, vf⟩ := five HBV.out
  obtain ⟨p0, p1, pf⟩ := two_cells HPL.out
  clear hyes hnone hno hnodes hqd hX1 hB1 HNV
  by_cases h16 : 16 ≤ d.files.length
  case pos =>
    have HR : Hid (M = (0, 2)) := by show _ = _; rw [HMF2.out, if_pos (.inl h16)]
    have h16i : (16 : Int) ≤ (d.files.length : Int) := by omega
    go_wp2_with fail
    go_ret
    exact ⟨createIs_no HR.out (by decide), (KeepT.of_below HB2.out).u, HB2.out.mono hbw⟩
  case neg =>
  have h16i : ¬ (16 : Int) ≤ (d.files.length : Int) := by omega
  go_wp2_with fail
  generalize hW2 : w1.alloc (.cells #[.pointer (some ⟨g, q * 5, none⟩), .string last] 112) = W2 at HB2 HPL HX2 HBV HNV2 v0 v1 v2 v3 v4 vf p0 p1 pf ⊢
  clear hW2
  generalize w1.heap.size = P at HPL p0 p1 pf ⊢
  have hCS : Hid (CrS P (.cells #[.pointer (some ⟨g, q * 5, none⟩), .string last] 112 (0, 0)) B (.cells #[.int .i64 d.id, .int .i64 d.fr, .bool d.snap, .slice (some ⟨g, 0, none⟩) d.files.length cap, .int .i64 d.next] 104 (0, 0)) W2) := ⟨HPL.out, HBV.out⟩
  refine (isFull_any _ (d.files.getD q f0) _ HNV2.out).mono ?_
  rintro e w3 ⟨rfl, hb3⟩
  have HB3 : Hid (Below w.heap.size w w3) := nwT HB2.out hb3
  have HCS3 : Hid (CrS P (.cells #[.pointer (some ⟨g, q * 5, none⟩), .string last] 112 (0, 0)) B (.cells #[.int .i64 d.id, .int .i64 d.fr, .bool d.snap, .slice (some ⟨g, 0, none⟩) d.files.length cap, .int .i64 d.next] 104 (0, 0)) w3) := hCS.out.below hb3
  have HX3 : Hid (OwnFilesX w3 base (.slice (some ⟨g, 0, none⟩) d.files.length cap) d.files) := HX2.out.below hb3
  obtain ⟨y0, y1, y2, y3, y4, yf⟩ := five HCS3.out.b
  clear hb3 v0 v1 v2 v3 v4 vf p0 p1 pf
  cases h8 : decide (8 ≤ (d.files.getD q f0).list.length)
  case true =>
    have HR : Hid (M = (0, 2)) := by show _ = _; rw [HMF2.out, if_pos (.inr (.inl (of_decide_eq_true h8)))]
    go_wp2_with fail
    go_ret
    exact ⟨createIs_no HR.out (by decide), (KeepT.of_below HB3.out).u, HB3.out.mono hbw⟩
  case false =>
  have h8n := of_decide_eq_false h8
  by_cases hnm : 1073741824 ≤ d.next
  case pos =>
    have HR : Hid (M = (0, 2)) := by show _ = _; rw [HMF2.out, if_pos (.inr (.inr hnm))]
    go_wp2_with fail
    go_ret
    exact ⟨createIs_no HR.out (by decide), (KeepT.of_below HB3.out).u, HB3.out.mono hbw⟩
  case neg =>
  have HR : Hid (M = (q, 0)) := by show _ = _; rw [HMF2.out, if_neg]; rintro (h | h | h) <;> omega
  go_wp2_with fail
  have hS := HCS3.out
  have z0 : ∀ w', CrS P (.cells #[.pointer (some ⟨g, q * 5, none⟩), .string last] 112 (0, 0)) B (.cells #[.int .i64 d.id, .int .i64 d.fr, .bool d.snap, .slice (some ⟨g, 0, none⟩) d.files.length cap, .int .i64 d.next] 104 (0, 0)) w' → w'.cell? ⟨P, 0, none⟩ = some (.pointer (some ⟨g, q * 5, none⟩)) := fun w' h => (two_cells h.p).1
  have z1 : ∀ w', CrS P (.cells #[.pointer (some ⟨g, q * 5, none⟩), .string last] 112 (0, 0)) B (.cells #[.int .i64 d.id, .int .i64 d.fr, .bool d.snap, .slice (some ⟨g, 0, none⟩) d.files.length cap, .int .i64 d.next] 104 (0, 0)) w' → w'.cell? ⟨P, 1, none⟩ = some (.string last) := fun w' h => (two_cells h.p).2.1
  have z4 : ∀ w', CrS P (.cells #[.pointer (some ⟨g, q * 5, none⟩), .string last] 112 (0, 0)) B (.cells #[.int .i64 d.id, .int .i64 d.fr, .bool d.snap, .slice (some ⟨g, 0, none⟩) d.files.length cap, .int .i64 d.next] 104 (0, 0)) w' → w'.cell? ⟨B, 4, none⟩ = some (.int .i64 d.next) := fun w' h => (five h.b).2.2.2.2.1
  clear y0 y1 y2 y3 y4 yf
  go_region_held3 (fun w' => CrS P (.cells #[.pointer (some ⟨g, q * 5, none⟩), .string last] 112 (0, 0)) B (.cells #[.int .i64 d.id, .int .i64 d.fr, .bool d.snap, .slice (some ⟨g, 0, none⟩) d.files.length cap, .int .i64 d.next] 104 (0, 0)) w') (first | assumption | exact CrS.below (by assumption) (Below.drew (nwR _)) | exact hS4) (first
    | (go_at_call 86; refine (pput_any base g cap q d.files last d.next _ (HX3.out.below (Below.drew (nwR _))) hql (by have := HQD.out.1; omega) HQD.out.2 HNN.out).mono ?_; rintro e w4 ⟨rfl, hx4, hk4, hb4⟩; have hS4 : CrS P (.cells #[.pointer (some ⟨g, q * 5, none⟩), .string last] 112 (0, 0)) B (.cells #[.int .i64 d.id, .int .i64 d.fr, .bool d.snap, .slice (some ⟨g, 0, none⟩) d.files.length cap, .int .i64 d.next] 104 (0, 0)) w4 := ⟨hk4.2 _ _ _ _ hS.p (by decide) (by decide), hk4.2 _ _ _ _ hS.b (by decide) (by decide)⟩))
  have HX4 : Hid (OwnFilesX w4 base (.slice (some ⟨g, 0, none⟩) d.files.length cap) (d.files.set q (withList (d.files.getD q f0) (putL (d.files.getD q f0).list (last, d.next))))) := hx4
  have HK4 : Hid (KeepU w w4) := ((KeepT.of_below HB3.out).trans ((KeepT.of_below (Below.drew (nwR w3))).trans hk4)).u
  have HB4 : Hid (Below base w w4) := (HB3.out.mono hbw).trans ((Below.drew (Below.refl base w3)).trans hb4)
  have HS4 : Hid (CrS P (.cells #[.pointer (some ⟨g, q * 5, none⟩), .string last] 112 (0, 0)) B (.cells #[.int .i64 d.id, .int .i64 d.fr, .bool d.snap, .slice (some ⟨g, 0, none⟩) d.files.length cap, .int .i64 d.next] 104 (0, 0)) w4) := hS4
  clear z0 z1 z4 hS hx4 hk4 hb4 hS4 HX3 HCS3 HX2 HB2 hCS HPL HBV HNV2
  generalize hfs2 : d.files.set q (withList (d.files.getD q f0) (putL (d.files.getD q f0).list (last, d.next))) = fs2 at HX4
  have HF2 : Hid (d.files.set q (withList (d.files.getD q f0) (putL (d.files.getD q f0).list (last, d.next))) = fs2) := hfs2
  have hl2 : fs2.length = d.files.length := by rw [← hfs2, List.length_set]
  clear hfs2
  obtain ⟨gs, hgd, hrow, hgown, hgap⟩ := HX4.out
  have hgl : gs.length = d.files.length := by rw [← hl2, ← hgd, List.length_map]
  obtain ⟨i0, hi, hz0, hz1, hz2⟩ := info_parts Tryz.info39
  have HGD : Hid (gs.map FV.d = fs2) := hgd
  have HGO : Hid (∀ y ∈ gs, OwnFV w4 base y) := hgown
  have HGA : Hid (Apart gs) := hgap
  have HROW : Hid (w4.ownsRow base 39 5 (.slice (some ⟨g, 0, none⟩) d.files.length cap) d.files.length (fflat gs)) := by have h := hrow; rw [hgl] at h; exact h
  have hgw := World.ownsRow.lt hrow g rfl
  have HGL : Hid (gs.length = d.files.length) := hgl
  clear hgd hrow hgown hgap hgl hl2
  have hn16 : d.files.length ≤ 15 := by omega
  have hB1 : d.files.length + 1 ≤ maxLen := by unfold maxLen; omega
  have hB2 : (d.files.length + 1) * 72 ≤ 140737488355328 := by omega
  obtain ⟨y0, y1, y2, y3, y4, yf⟩ := five HS4.out.b
  have hBl := block_lt_of_cell y0
  go_wp2_with fail
  go_region_law (first
    | (refine step_append_at (by rfl) (.tmp 50) (.tmp 58) 22 (by rfl) base 39 i0 (.agg #[.int .i64 0, .bool false, .int .i64 0, .slice none 0 0, .slice none 0 0]) 5 72 Tryz.underlying22 hi hz0 hz1 hz2 rfl (by decide) (.slice (some ⟨g, 0, none⟩) d.files.length cap) d.files.length (fflat gs) (by simp [Act.eval]) (by exact World.ownsRow.alloc HROW.out _) ⟨w4.heap.size, 0, none⟩ 1 1 [.int .i64 d.next, .bool dir, .int .i64 0, .slice none 0 0, .slice none 0 0] (by simp [Act.eval]) rfl (by exact cells5 w4 _ _ _ _ _ _) (by simp [Value.oneCell']) hB1 hB2 (by simp; omega) ?_; intro fv w5 hown1 hgrow1 hat1; have hGR : w4.grownBy w5 (some g) := (gbOf (nwA (nwR w4) (.cells #[.int .i64 d.next, .bool dir, .int .i64 0, .slice none 0 0, .slice none 0 0] 39)) (some g)).trans ((gbOf (Below.drew (nwR _)) (some g)).trans hgrow1); have hB5 : w5.heap[B]? = some (.cells #[.int .i64 d.id, .int .i64 d.fr, .bool d.snap, .slice (some ⟨g, 0, none⟩) d.files.length cap, .int .i64 d.next] 104 (0, 0)) := (KeepT.of_gb (v := .slice (some ⟨g, 0, none⟩) d.files.length cap) hGR HROW.out (.inl rfl)).2 _ _ _ _ HS4.out.b (by decide) (by decide); obtain ⟨x0, x1, x2, x3, x4, xf⟩ := five hB5; obtain ⟨g1, cap1, rfl, hg1, _⟩ := slice_cells hown1 (Nat.succ_pos _))
    | fail)
  all_goals
    have HX5 : Hid (OwnFilesX w5 base (.slice (some ⟨g1, 0, none⟩) (d.files.length + 1) cap1) (fs2 ++ [⟨d.next, dir, 0, [], []⟩])) := by
      have h := OwnFilesX.snoc (f := ⟨d.next, dir, 0, [], []⟩) (w := w4) (v := .slice (some ⟨g, 0, none⟩) d.files.length cap) (by rw [HGL.out]; exact HROW.out) HGO.out HGA.out rfl rfl (by rw [HGL.out]; exact hown1) hGR
      rw [HGD.out] at h; exact h
    have hB6 : (w5.setCell ⟨B, 3, none⟩ (.slice (some ⟨g1, 0, none⟩) (d.files.length + 1) cap1)).heap[B]? = some (.cells #[.int .i64 d.id, .int .i64 d.fr, .bool d.snap, .slice (some ⟨g1, 0, none⟩) (d.files.length + 1) cap1, .int .i64 d.next] 104 (0, 0)) := by
      rw [heap_setCell_same w5 B 3 _ 104 _ hB5]; simp
    have HB7 : Hid (((w5.setCell ⟨B, 3, none⟩ (.slice (some ⟨g1, 0, none⟩) (d.files.length + 1) cap1)).setCell ⟨B, 4, none⟩ (.int .i64 (d.next + 1))).heap[B]? = some (.cells #[.int .i64 d.id, .int .i64 d.fr, .bool d.snap, .slice (some ⟨g1, 0, none⟩) (d.files.length + 1) cap1, .int .i64 (d.next + 1)] 104 (0, 0))) := by
      show _ = _
      rw [heap_setCell_same _ B 4 _ 104 _ hB6]; simp
    have HX7 : Hid (OwnFilesX ((w5.setCell ⟨B, 3, none⟩ (.slice (some ⟨g1, 0, none⟩) (d.files.length + 1) cap1)).setCell ⟨B, 4, none⟩ (.int .i64 (d.next + 1))) base (.slice (some ⟨g1, 0, none⟩) (d.files.length + 1) cap1) (fs2 ++ [⟨d.next, dir, 0, [], []⟩])) := (HX5.out.setT hB5 (by decide) (by decide) (by decide) _).setT hB6 (by decide) (by decide) (by decide) _
    have HK7 : Hid (KeepU w ((w5.setCell ⟨B, 3, none⟩ (.slice (some ⟨g1, 0, none⟩) (d.files.length + 1) cap1)).setCell ⟨B, 4, none⟩ (.int .i64 (d.next + 1)))) := HK4.out.trans (((KeepT.of_gb (v := .slice (some ⟨g, 0, none⟩) d.files.length cap) hGR HROW.out (.inl rfl)).u.trans (KeepU.of_set _ hB5)).trans (KeepU.of_set _ hB6))
    have HBL7 : Hid (Below base w ((w5.setCell ⟨B, 3, none⟩ (.slice (some ⟨g1, 0, none⟩) (d.files.length + 1) cap1)).setCell ⟨B, 4, none⟩ (.int .i64 (d.next + 1)))) := ((HB4.out.grown hGR (by omega) (fun k hk => by injection hk with hk; omega)).setCell (p := ⟨B, 3, none⟩) hbB _).setCell (p := ⟨B, 4, none⟩) hbB _
    obtain ⟨t0, t1, t2, t3, t4, tf⟩ := five hB6
    clear hown1 hgrow1 hat1 x0 x1 x2 x3 x4 xf y0 y1 y2 y3 y4 yf hGR hB5
    go_wp2_with fail
    go_ret
    exact ⟨createIs_yes HR.out ⟨hbB, _, HB7.out, by unfold newV; simp only; rw [HF2.out]; exact HX7.out⟩, HK7.out, HBL7.out⟩

end Go.Proofs.YtdpighcaieajjaaGreat

/- A volume behind an act, by the program. -/
namespace Go.Proofs.YtdpighcaieajjaaGreat
open Go.RowKit Go.Sort

theorem ownVol_zero (w : World) (base : Nat) : OwnVol w base (.agg #[.int .i64 0, .int .i64 0, .bool false, .slice none 0 0, .int .i64 0]) Go.Proofs.YtdpighcaieajjaaGreat.v0 :=
  ⟨_, rfl, [], rfl, World.ownsRow_nil _ _ _ _, fun g hg => by simp at hg⟩
/-- how an act ends on a volume of one's own -/
def ActIs (G : Int → VolD → Prop) (base B : Nat) (e : Ending) (w' : World) : Prop :=
  (∃ d', e = .returned (.int .i64 0) ∧ OwnPtr w' base B d' ∧ G 0 d') ∨ (∃ er, er ≠ 0 ∧ e = .returned (.int .i64 er) ∧ G er Go.Proofs.YtdpighcaieajjaaGreat.v0)
def ChangeR (G : Int → VolD → Prop) (d : VolD) (ps : List ByteArray) (er : Int) (dd : VolD) : Prop :=
  (VolOk d ∧ PathsOk ps ∧ d.snap = false ∧ G er dd) ∨ (VolOk d ∧ PathsOk ps ∧ d.snap = true ∧ er = 9 ∧ dd = Go.Proofs.YtdpighcaieajjaaGreat.v0) ∨ (¬ (VolOk d ∧ PathsOk ps) ∧ er = 1 ∧ dd = Go.Proofs.YtdpighcaieajjaaGreat.v0)

set_option maxRecDepth 100000 in
set_option maxHeartbeats 1000000 in
theorem change_any (G : Int → VolD → Prop) (K A : Nat) (eK : ∀ args w, (callFunc K args).run Tryz.prog w = .ok (.enter K args) w) (v : Value) (d : VolD) (sa : Option Addr) (ps : List ByteArray) (sc : Nat) (w : World) (hv : VolVal w v d) (hs : SmallV d) (hp : StrsAt w sa ps) (hpl : ps.length ≤ 100000)
    (hact : ∀ (w1 : World) (base B : Nat), Below w.heap.size w w1 → OwnPtr w1 base B d → VolOk d → PathsOk ps → d.snap = false → Calls Tryz.prog K #[.pointer (some ⟨B, 0, none⟩), .pointer (some ⟨A, 0, none⟩)] w1 fun e w2 => ActIs G base B e w2 ∧ KeepU w1 w2 ∧ Below base w1 w2) :
    Calls Tryz.prog 56 #[v, .func (.func K) #[] #[.pointer (some ⟨A, 0, none⟩)], .slice sa ps.length sc] w fun e w' => (∃ u er dd, e = .returned (.tuple #[u, .int .i64 er]) ∧ OwnVol w' w.heap.size u dd ∧ ChangeR G d ps er dd) ∧ Below w.heap.size w w' := by
  have HVV : Hid (VolVal w v d) := hv
  have HS : Hid (SmallV d) := hs
  have HACT : Hid (∀ (w1 : World) (base B : Nat), Below w.heap.size w w1 → OwnPtr w1 base B d → VolOk d → PathsOk ps → d.snap = false → Calls Tryz.prog K #[.pointer (some ⟨B, 0, none⟩), .pointer (some ⟨A, 0, none⟩)] w1 fun e w2 => ActIs G base B e w2 ∧ KeepU w1 w2 ∧ Below base w1 w2) := hact
  obtain ⟨a, ca, rfl, _, _⟩ := hv
  have HB0 : Hid (Below w.heap.size w ((w.alloc (.cells #[.int .i64 d.id, .int .i64 d.fr, .bool d.snap, .slice a d.files.length ca, .int .i64 d.next] 24)).alloc (.cells #[.int .i64 0, .int .i64 0, .bool false, .slice none 0 0, .int .i64 0] 24))) := nwA (nwA (nwR w) _) _
  have HR0 : Hid (((w.alloc (.cells #[.int .i64 d.id, .int .i64 d.fr, .bool d.snap, .slice a d.files.length ca, .int .i64 d.next] 24)).alloc (.cells #[.int .i64 0, .int .i64 0, .bool false, .slice none 0 0, .int .i64 0] 24)).heap[w.heap.size + 1]? = some (.cells #[.int .i64 0, .int .i64 0, .bool false, .slice none 0 0, .int .i64 0] 24 (0, 0))) := heap_alloc_new2 w _ _
  have HPS : Hid (StrsAt ((w.alloc (.cells #[.int .i64 d.id, .int .i64 d.fr, .bool d.snap, .slice a d.files.length ca, .int .i64 d.next] 24)).alloc (.cells #[.int .i64 0, .int .i64 0, .bool false, .slice none 0 0, .int .i64 0] 24)) sa ps) := hp.below HB0.out
  have HSZ : Hid (((w.alloc (.cells #[.int .i64 d.id, .int .i64 d.fr, .bool d.snap, .slice a d.files.length ca, .int .i64 d.next] 24)).alloc (.cells #[.int .i64 0, .int .i64 0, .bool false, .slice none 0 0, .int .i64 0] 24)).heap.size = w.heap.size + 2) := by show _ = _; simp
  clear hs hp hact
  go_enter Tryz.func56, Tryz.ntmps56
  go_wp2_with fail
  refine (open_any _ d sa ps sc _ (HVV.out.below HB0.out) HS.out HPS.out hpl).mono ?_
  rintro e w1 ⟨hop, hb1⟩
  have HB1 : Hid (Below w.heap.size w w1) := nwT HB0.out hb1
  have HR1 : Hid (w1.heap[w.heap.size + 1]? = some (.cells #[.int .i64 0, .int .i64 0, .bool false, .slice none 0 0, .int .i64 0] 24 (0, 0))) := (hb1.block _ (Array.getElem?_eq_some_iff.1 HR0.out).1).trans HR0.out
  clear hb1 HR0 HPS
  obtain ⟨r0, r1, r2, r3, r4, rf⟩ := five HR1.out
  rcases hop with ⟨hok, hpo, B, rfl, hown⟩ | ⟨hno, rfl⟩
  case inr =>
    have HNO : Hid (¬ (VolOk d ∧ PathsOk ps)) := hno
    clear hno
    go_wp2_with fail
    refine bodyPost_ret (v := .tuple #[.agg #[.int .i64 0, .int .i64 0, .bool false, .slice none 0 0, .int .i64 0], .int .i64 1]) (by simp [results, Tryz.results56, go_sem, r0, r1, r2, r3, r4]) rfl ⟨⟨_, 1, _, rfl, ownVol_zero _ _, .inr (.inr ⟨HNO.out, rfl, rfl⟩)⟩, ?_⟩
    exact five_below HB1.out (Nat.le_succ _)
  have HOK : Hid (VolOk d ∧ PathsOk ps) := ⟨hok, hpo⟩
  have HOW : Hid (OwnPtr w1 (w.heap.size + 2) B d) := by have h := hown; rw [HSZ.out] at h; exact h
  obtain ⟨hbB, fv, hB1, hX1⟩ := HOW.out
  obtain ⟨fa, fc, rfl, _, _⟩ := hX1.plain.at
  obtain ⟨y0, y1, y2, y3, y4, yf⟩ := five hB1
  clear hok hpo hown hX1 hB1
  cases hsn : d.snap
  case true =>
    rw [hsn] at y2
    have HSN : Hid (d.snap = true) := hsn
    clear hsn
    go_wp2_with fail
    refine bodyPost_ret (v := .tuple #[.agg #[.int .i64 0, .int .i64 0, .bool false, .slice none 0 0, .int .i64 0], .int .i64 9]) (by simp [results, Tryz.results56, go_sem, r0, r1, r2, r3, r4]) rfl ⟨⟨_, 9, _, rfl, ownVol_zero _ _, .inr (.inl ⟨HOK.out.1, HOK.out.2, HSN.out, rfl, rfl⟩)⟩, ?_⟩
    exact five_below HB1.out (Nat.le_succ _)
  case false =>
  rw [hsn] at y2
  have HSN : Hid (d.snap = false) := hsn
  have HCALL : Hid (Calls Tryz.prog K #[.pointer (some ⟨B, 0, none⟩), .pointer (some ⟨A, 0, none⟩)] w1 fun e w2 => ActIs G (w.heap.size + 2) B e w2 ∧ KeepU w1 w2 ∧ Below (w.heap.size + 2) w1 w2) := HACT.out w1 _ B HB1.out HOW.out HOK.out.1 HOK.out.2 hsn
  clear hsn
  go_wp2_with fail
  go_at_fn K
  refine HCALL.out.mono ?_
  rintro e w2 ⟨hai, hk2, hb2⟩
  have HB2 : Hid (Below w.heap.size w w2) := HB1.out.trans (hb2.mono (Nat.le_add_right _ _))
  have HR2 : Hid (w2.heap[w.heap.size + 1]? = some (.cells #[.int .i64 0, .int .i64 0, .bool false, .slice none 0 0, .int .i64 0] 24 (0, 0))) := (hb2.block _ (Nat.lt_succ_self _)).trans HR1.out
  clear hk2 hb2 HCALL HACT r0 r1 r2 r3 r4 rf y0 y1 y2 y3 y4 yf HOW HB1 HR1 HB0 HVV HS HSZ
  obtain ⟨q0, q1, q2, q3, q4, qf⟩ := five HR2.out
  rcases hai with ⟨d2, rfl, how2, hg2⟩ | ⟨er, hne, rfl, hg2⟩
  · have HG2 : Hid (G 0 d2) := hg2
    have HOW2 : Hid (OwnPtr w2 (w.heap.size + 2) B d2) := how2
    obtain ⟨_, fv2, hB2, hX2⟩ := HOW2.out
    have HX2 : Hid (OwnFiles w2 (w.heap.size + 2) fv2 d2.files) := hX2.plain
    obtain ⟨fa2, fc2, rfl, _, _⟩ := HX2.out.at
    obtain ⟨z0, z1, z2, z3, z4, zf⟩ := five hB2
    clear hg2 how2 hX2 hB2
    go_wp2_with fail
    obtain ⟨s0, s1, s2, s3, s4, _⟩ := five (five_set (d0 := .int .i64 d2.id) (d1 := .int .i64 d2.fr) (d2 := .bool d2.snap) (d3 := .slice fa2 d2.files.length fc2) (d4 := .int .i64 d2.next) HR2.out)
    refine bodyPost_ret (v := .tuple #[.agg #[.int .i64 d2.id, .int .i64 d2.fr, .bool d2.snap, .slice fa2 d2.files.length fc2, .int .i64 d2.next], .int .i64 0]) (by simp [results, Tryz.results56, go_sem, s0, s1, s2, s3, s4]) rfl ⟨⟨_, 0, d2, rfl, ⟨_, rfl, ?_⟩, .inl ⟨HOK.out.1, HOK.out.2, HSN.out, HG2.out⟩⟩, ?_⟩
    · exact (((((HX2.out.set 0 (Nat.lt_succ_self _) _).set 1 (Nat.lt_succ_self _) _).set 2 (Nat.lt_succ_self _) _).set 3 (Nat.lt_succ_self _) _).set 4 (Nat.lt_succ_self _) _).le (Nat.le_add_right _ _)
    · exact five_below HB2.out (Nat.le_succ _)
  · have HG2 : Hid (G er Go.Proofs.YtdpighcaieajjaaGreat.v0) := hg2
    have hne1 : decide (er = 0) = false := decide_eq_false hne
    clear hg2
    go_wp2_with fail
    obtain ⟨s0, s1, s2, s3, s4, _⟩ := five (five_set (d0 := .int .i64 0) (d1 := .int .i64 0) (d2 := .bool false) (d3 := .slice none 0 0) (d4 := .int .i64 0) HR2.out)
    refine bodyPost_ret (v := .tuple #[.agg #[.int .i64 0, .int .i64 0, .bool false, .slice none 0 0, .int .i64 0], .int .i64 er]) (by simp [results, Tryz.results56, go_sem, s0, s1, s2, s3, s4]) rfl ⟨⟨_, er, _, rfl, ownVol_zero _ _, .inl ⟨HOK.out.1, HOK.out.2, HSN.out, HG2.out⟩⟩, ?_⟩
    exact five_below HB2.out (Nat.le_succ _)

end Go.Proofs.YtdpighcaieajjaaGreat

/- A file and a directory made, by the program. -/
namespace Go.Proofs.YtdpighcaieajjaaGreat
open Go.RowKit Go.Sort

/-- what making gives: the error and the volume -/
def MakeG (d : VolD) (p : ByteArray) (dir : Bool) (er : Int) (dd : VolD) : Prop :=
  ∃ L, pathN p = some L ∧ (((makF d L).2 = 0 ∧ er = 0 ∧ dd = newV d (makF d L).1 (lastN L) dir) ∨ ((makF d L).2 ≠ 0 ∧ er = (makF d L).2 ∧ dd = v0))
theorem CreateIs.act {d : VolD} {p : ByteArray} {L : List ByteArray} {dir : Bool} {base B : Nat} {e : Ending} {w' : World} (hp : pathN p = some L) (h : CreateIs d (makF d L) (lastN L) dir base B e w') : ActIs (MakeG d p dir) base B e w' := by
  rcases h with ⟨h1, h2, h3⟩ | ⟨h1, h2⟩
  · exact .inl ⟨_, h2, h3, L, hp, .inl ⟨h1, rfl, rfl⟩⟩
  · exact .inr ⟨_, h1, h2, L, hp, .inr ⟨h1, rfl, rfl⟩⟩

set_option maxRecDepth 100000 in
set_option maxHeartbeats 1000000 in
theorem make1_any (base B A : Nat) (d : VolD) (p : ByteArray) (L : List ByteArray) (w : World) (ho : OwnPtr w base B d) (hok : VolOk d) (hs : SmallV d) (hp : pathN p = some L) (hA : w.cell? ⟨A, 0, none⟩ = some (.string p)) :
    Calls Tryz.prog 57 #[.pointer (some ⟨B, 0, none⟩), .pointer (some ⟨A, 0, none⟩)] w fun e w' => ActIs (MakeG d p false) base B e w' ∧ KeepU w w' ∧ Below base w w' := by
  have HOK : Hid (VolOk d) := hok
  have HO : Hid (OwnPtr w base B d) := ho
  have HS : Hid (SmallV d) := hs
  have HP : Hid (pathN p = some L) := hp
  clear hok ho hs hp
  go_enter Tryz.func57, Tryz.ntmps57
  go_wp2_with fail
  refine (create_any base B d p L false _ HO.out HOK.out HS.out HP.out).mono ?_
  rintro e w1 ⟨hc, hk, hb⟩
  rcases hc.act HP.out with ⟨d', rfl, h1, h2⟩ | ⟨er, hne, rfl, h2⟩
  · have HA : Hid (ActIs (MakeG d p false) base B (.returned (.int .i64 0)) w1 ∧ KeepU w w1 ∧ Below base w w1) := ⟨.inl ⟨d', rfl, h1, h2⟩, hk, hb⟩
    clear h1 h2 hc hk hb
    go_wp2_with fail
    exact bodyPost_ret (v := .int .i64 0) (by simp [results, Tryz.results57, go_sem]) rfl HA.out
  · have HA : Hid (ActIs (MakeG d p false) base B (.returned (.int .i64 er)) w1 ∧ KeepU w w1 ∧ Below base w w1) := ⟨.inr ⟨er, hne, rfl, h2⟩, hk, hb⟩
    clear hne h2 hc hk hb
    go_wp2_with fail
    exact bodyPost_ret (v := .int .i64 er) (by simp [results, Tryz.results57, go_sem]) rfl HA.out

theorem four_at1 (w : World) (a b c d : Obj) : ((((w.alloc a).alloc b).alloc c).alloc d).heap[w.heap.size + 1]? = some b :=
  (Lib.alloc_old _ _ _ (by simp)).trans (three_1 w a b c)
theorem four_at2 (w : World) (a b c d : Obj) : ((((w.alloc a).alloc b).alloc c).alloc d).heap[w.heap.size + 2]? = some c :=
  (Lib.alloc_old _ _ _ (by simp)).trans (three_2 w a b c)
theorem size4 (w : World) (a b c d : Obj) : ((((w.alloc a).alloc b).alloc c).alloc d).heap.size = w.heap.size + 4 := by simp
theorem cell_of_block {w : World} {k : Nat} {v : Value} {t : TypeId} (h : w.heap[k]? = some (.cells #[v] t (0, 0))) : w.cell? ⟨k, 0, none⟩ = some v := by
  simp [World.cell?, h]

def makeP (w : World) (d : VolD) (a : Option Addr) (ca : Nat) (p : ByteArray) : World :=
  (((w.alloc (.cells #[.int .i64 d.id, .int .i64 d.fr, .bool d.snap, .slice a d.files.length ca, .int .i64 d.next] 24)).alloc (.cells #[.string p] 9)).alloc (.cells #[.int .i64 0, .int .i64 0, .bool false, .slice none 0 0, .int .i64 0] 24)).alloc (.cells #[.string p] 9)

set_option maxRecDepth 100000 in
set_option maxHeartbeats 1000000 in
theorem make_any (v : Value) (d : VolD) (p : ByteArray) (w : World) (hv : VolVal w v d) (hs : SmallV d) :
    Calls Tryz.prog 25 #[v, .string p] w fun e w' => (∃ u er dd, e = .returned (.tuple #[u, .int .i64 er]) ∧ OwnVol w' w.heap.size u dd ∧ ChangeR (MakeG d p false) d [p] er dd) ∧ Below w.heap.size w w' := by
  have HVV : Hid (VolVal w v d) := hv
  have HS : Hid (SmallV d) := hs
  obtain ⟨a, ca, rfl, _, _⟩ := hv
  have HB0 : Hid (Below w.heap.size w (makeP w d a ca p)) := nwA (nwA (nwA (nwA (nwR w) _) _) _) _
  have HR0 : Hid ((makeP w d a ca p).heap[w.heap.size + 2]? = some (.cells #[.int .i64 0, .int .i64 0, .bool false, .slice none 0 0, .int .i64 0] 24 (0, 0))) := four_at2 w _ _ _ _
  have HA0 : Hid ((makeP w d a ca p).heap[w.heap.size + 1]? = some (.cells #[.string p] 9 (0, 0))) := four_at1 w _ _ _ _
  have HSZ : Hid ((makeP w d a ca p).heap.size = w.heap.size + 4) := size4 w _ _ _ _
  have HST : Hid (StrsAt (makeP w d a ca p) (some ⟨w.heap.size + 3, 0, none⟩) [p]) := by
    have := StrsAt.of_alloc (w := ((w.alloc (.cells #[.int .i64 d.id, .int .i64 d.fr, .bool d.snap, .slice a d.files.length ca, .int .i64 d.next] 24)).alloc (.cells #[.string p] 9)).alloc (.cells #[.int .i64 0, .int .i64 0, .bool false, .slice none 0 0, .int .i64 0] 24)) (xs := [p]) (cs := #[.string p]) (t := 9) rfl
    rw [size3] at this
    exact this
  have eK : ∀ args w, (callFunc 57 args).run Tryz.prog w = .ok (.enter 57 args) w := enters_of Tryz.func57 (by kernel_rfl) rfl
  have HC : Hid (Calls Tryz.prog 56 #[.agg #[.int .i64 d.id, .int .i64 d.fr, .bool d.snap, .slice a d.files.length ca, .int .i64 d.next], .func (.func 57) #[] #[.pointer (some ⟨w.heap.size + 1, 0, none⟩)], .slice (some ⟨w.heap.size + 3, 0, none⟩) 1 1] (makeP w d a ca p) fun e w' => (∃ u er dd, e = .returned (.tuple #[u, .int .i64 er]) ∧ OwnVol w' (w.heap.size + 4) u dd ∧ ChangeR (MakeG d p false) d [p] er dd) ∧ Below (w.heap.size + 4) (makeP w d a ca p) w') := by
    have := change_any (MakeG d p false) 57 (w.heap.size + 1) eK _ d (some ⟨w.heap.size + 3, 0, none⟩) [p] 1 (makeP w d a ca p) (HVV.out.below HB0.out) HS.out HST.out (by simp) (fun w1 base B hb ho hok hps _ => by
      obtain ⟨L, hL⟩ := Option.isSome_iff_exists.1 (hps p (by simp))
      refine make1_any base B (w.heap.size + 1) d p L w1 ho hok HS.out hL (cell_of_block (t := 9) ?_)
      exact (hb.block _ (Array.getElem?_eq_some_iff.1 HA0.out).1).trans HA0.out)
    rw [HSZ.out] at this
    exact this
  unfold makeP at HC HB0 HR0
  clear hs HST HSZ HA0 HVV HS eK
  go_enter Tryz.func25, Tryz.ntmps25
  go_wp2_with fail
  refine HC.out.mono ?_
  rintro e w1 ⟨⟨u, er, dd, rfl, hu, hch⟩, hb1⟩
  have HB1 : Hid (Below w.heap.size w w1) := HB0.out.trans (hb1.mono (Nat.le_add_right _ _))
  have HR1 : Hid (w1.heap[w.heap.size + 2]? = some (.cells #[.int .i64 0, .int .i64 0, .bool false, .slice none 0 0, .int .i64 0] 24 (0, 0))) := (hb1.block _ (by omega)).trans HR0.out
  have HCH : Hid (ChangeR (MakeG d p false) d [p] er dd) := hch
  obtain ⟨fv, rfl, hfv⟩ := hu
  have HFV : Hid (OwnFiles w1 (w.heap.size + 4) fv dd.files) := hfv
  obtain ⟨fa, fc, rfl, _, _⟩ := hfv.at
  clear hb1 HB0 HR0 HC hch hfv
  obtain ⟨q0, q1, q2, q3, q4, qf⟩ := five HR1.out
  go_wp2_with fail
  obtain ⟨s0, s1, s2, s3, s4, _⟩ := five (five_set (d0 := .int .i64 dd.id) (d1 := .int .i64 dd.fr) (d2 := .bool dd.snap) (d3 := .slice fa dd.files.length fc) (d4 := .int .i64 dd.next) HR1.out)
  refine bodyPost_ret (v := .tuple #[.agg #[.int .i64 dd.id, .int .i64 dd.fr, .bool dd.snap, .slice fa dd.files.length fc, .int .i64 dd.next], .int .i64 er]) (by simp [results, Tryz.results25, go_sem, s0, s1, s2, s3, s4]) rfl ⟨⟨_, er, dd, rfl, ⟨_, rfl, ?_⟩, HCH.out⟩, ?_⟩
  · exact (((((HFV.out.set 0 (by omega) _).set 1 (by omega) _).set 2 (by omega) _).set 3 (by omega) _).set 4 (by omega) _).le (Nat.le_add_right _ _)
  · exact five_below HB1.out (by omega)

end Go.Proofs.YtdpighcaieajjaaGreat

/- A new volume, by the program; what the laws share. -/
namespace Go.Proofs.YtdpighcaieajjaaGreat
open Go.RowKit

def newD (id : Int) : VolD := ⟨id, 0, false, [⟨1, true, 0, [], []⟩], 2⟩
def NewR (id er : Int) (dd : VolD) : Prop := (withinB 1 1073741824 [id] = true ∧ er = 0 ∧ dd = newD id) ∨ (withinB 1 1073741824 [id] = false ∧ er = 1 ∧ dd = Go.Proofs.YtdpighcaieajjaaGreat.v0)

theorem own_one (X : World) (n base : Nat) (hn : X.heap.size = n) (hb : base ≤ n) : OwnFiles (X.alloc (.cells #[.int .i64 1, .bool true, .int .i64 0, .slice none 0 0, .slice none 0 0] 39)) base (.slice (some ⟨n, 0, none⟩) 1 1) [⟨1, true, 0, [], []⟩] := by
  subst hn
  refine ⟨[⟨⟨1, true, 0, [], []⟩, .slice none 0 0, .slice none 0 0⟩], rfl, ⟨rfl, .inr ⟨X.heap.size, 1, _, rfl, hb, heap_alloc_new X _, Nat.le_refl 1, by decide, rfl, rfl⟩⟩, fun g hg => ?_⟩
  obtain rfl : g = ⟨⟨1, true, 0, [], []⟩, .slice none 0 0, .slice none 0 0⟩ := by simpa using hg
  exact ⟨⟨rfl, .inl ⟨rfl, rfl⟩⟩, ⟨rfl, .inl ⟨rfl, rfl⟩⟩⟩
set_option maxRecDepth 100000 in
set_option maxHeartbeats 1000000 in
theorem newv_any (id : Int) (w : World) :
    Calls Tryz.prog 22 #[.int .i64 id] w fun e w' => (∃ u er dd, e = .returned (.tuple #[u, .int .i64 er]) ∧ OwnVol w' w.heap.size u dd ∧ NewR id er dd) ∧ Below w.heap.size w w' := by
  obtain ⟨W1, hW1⟩ : ∃ W1, W1 = (w.alloc (.cells #[.int .i64 0, .int .i64 0, .bool false, .slice none 0 0, .int .i64 0] 24)).alloc (.cells #[.int .i64 id] 3) := ⟨_, rfl⟩
  have HB1 : Hid (Below w.heap.size w W1) := by rw [hW1]; exact nwA (nwA (nwR w) _) _
  have HN1 : Hid (IntsAt W1 (some ⟨w.heap.size + 1, 0, none⟩) [id]) := by
    have := intsAt_new (w.alloc (.cells #[.int .i64 0, .int .i64 0, .bool false, .slice none 0 0, .int .i64 0] 24)) id
    show IntsAt _ _ _; rw [← hW1] at this; simpa using this
  have HR1 : Hid (W1.heap[w.heap.size]? = some (.cells #[.int .i64 0, .int .i64 0, .bool false, .slice none 0 0, .int .i64 0] 24 (0, 0))) := by
    rw [hW1]; exact (Lib.alloc_old _ _ _ (by simp)).trans (heap_alloc_new w _)
  cases hn : withinB 1 1073741824 [id]
  · have HW : Hid (withinB 1 1073741824 [id] = false) := hn
    clear hn
    go_enter Tryz.func22, Tryz.ntmps22
    go_wp2_with fail
    rw [← hW1]
    refine (within_is 1 1073741824 (some ⟨w.heap.size + 1, 0, none⟩) [id] 1 W1 false HN1.out (by simp) HW.out).mono ?_
    rintro e w' ⟨rfl, rfl⟩
    obtain ⟨r0, r1, r2, r3, r4, rf⟩ := five HR1.out
    clear hW1
    go_wp2_with fail
    refine bodyPost_ret (v := .tuple #[.agg #[.int .i64 0, .int .i64 0, .bool false, .slice none 0 0, .int .i64 0], .int .i64 1]) (by simp [results, Tryz.results22, go_sem, r0, r1, r2, r3, r4]) rfl ⟨⟨_, 1, _, rfl, ownVol_zero _ _, .inr ⟨HW.out, rfl, rfl⟩⟩, ?_⟩
    exact five_below HB1.out (Nat.le_refl _)
  · have HW : Hid (withinB 1 1073741824 [id] = true) := hn
    clear hn
    go_enter Tryz.func22, Tryz.ntmps22
    go_wp2_with fail
    rw [← hW1]
    refine (within_is 1 1073741824 (some ⟨w.heap.size + 1, 0, none⟩) [id] 1 W1 true HN1.out (by simp) HW.out).mono ?_
    rintro e w' ⟨rfl, rfl⟩
    have hlt := (Array.getElem?_eq_some_iff.1 HR1.out).1
    obtain ⟨r0, r1, r2, r3, r4, rf⟩ := five HR1.out
    clear hW1
    go_wp2_with fail
    obtain ⟨s0, s1, s2, s3, s4⟩ := five_read (d0 := .int .i64 id) (d1 := .int .i64 0) (d2 := .bool false) (d3 := .slice (some ⟨w'.heap.size, 0, none⟩) 1 1) (d4 := .int .i64 2) HR1.out (.cells #[.int .i64 1, .bool true, .int .i64 0, .slice none 0 0, .slice none 0 0] 39)
    refine bodyPost_ret (v := .tuple #[.agg #[.int .i64 id, .int .i64 0, .bool false, .slice (some ⟨w'.heap.size, 0, none⟩) 1 1, .int .i64 2], .int .i64 0]) (by simp [results, Tryz.results22, go_sem, s0, s1, s2, s3, s4]) rfl ⟨⟨_, 0, newD id, rfl, ⟨_, rfl, ?_⟩, .inl ⟨HW.out, rfl, rfl⟩⟩, ?_⟩
    · exact own_one _ w'.heap.size w.heap.size (by simp) (by omega)
    · exact nwA (five_below HB1.out (Nat.le_refl _)) _

set_option maxHeartbeats 400000 in
theorem errnum_any (n : Int) (w : World) : Calls Tryz.prog 17 #[.int .i64 n] w fun e w' => e = .returned (.int .i64 n) ∧ w' = w := by
  go_enter Tryz.func17, Tryz.ntmps17
  go_wp2_with fail
  go_ret
  exact ⟨rfl, rfl⟩
theorem errnum_w (n : Int) (w : World) : Calls Tryz.prog 17 #[.int .i64 n] w fun e w' => e = .returned (.int .i64 n) ∧ w = w' := (errnum_any n w).mono fun _ _ h => ⟨h.1, h.2.symm⟩

theorem vol_any (v : Value) (d : VolD) (w : World) (hv : VolVal w v d) (hs : SmallV d) :
    Calls Tryz.prog 13 #[v] w fun e w' => SaysB e (VolOk d) ∧ Below w.heap.size w w' := by
  by_cases h : HeadR d
  · exact vol_rest v d w hv hs h
  · exact vol_head v d w hv h

end Go.Proofs.YtdpighcaieajjaaGreat

/- A file in a new volume: what making and finding it gives. -/
namespace Go.Proofs.YtdpighcaieajjaaGreat
open Go.RowKit

def pa : ByteArray := ⟨#[47, 97]⟩
def na : ByteArray := ⟨#[97]⟩
def wkD : VolD := ⟨5, 0, false, [⟨1, true, 0, [], [(na, 2)]⟩, ⟨2, false, 0, [], []⟩], 3⟩

theorem pa_path : pathN pa = some [na] := by decide +kernel
theorem new_ok : VolOk (newD 5) := by
  refine ⟨by unfold NumOk; decide +kernel, ⟨by unfold HeadOk; decide +kernel, fun k hk => ?_⟩, ⟨fun f hf l hl => ?_, fun k hk => ?_⟩, fun i hi => ?_, by decide +kernel⟩
  · have : k = 0 := by simp [newD] at hk; omega
    subst this
    refine ⟨by unfold IdOk; decide +kernel, ?_⟩
    unfold NodeOk
    exact ⟨by decide +kernel, by decide +kernel, by decide +kernel, fun k hk => by simp [newD, List.getD] at hk⟩
  · simp [newD] at hf; subst hf; simp at hl
  · have : k = 0 := by simp [newD] at hk; omega
    subst this
    exact ⟨fun _ => by decide +kernel, fun h => absurd (by decide +kernel) h⟩
  · have : i = 0 := by simp [newD] at hi; omega
    subst this; exact .root
theorem wk_ok : VolOk wkD := by
  refine ⟨by unfold NumOk; decide +kernel, ⟨by unfold HeadOk; decide +kernel, fun k hk => ?_⟩, ⟨fun f hf l hl => ?_, fun k hk => ?_⟩, fun i hi => ?_, by decide +kernel⟩
  · have : k = 0 ∨ k = 1 := by simp [wkD] at hk; omega
    rcases this with rfl | rfl
    · refine ⟨by unfold IdOk; decide +kernel, ?_⟩
      unfold NodeOk
      refine ⟨by decide +kernel, by decide +kernel, by decide +kernel, fun k hk => ?_⟩
      have : k = 0 := by simp [wkD, List.getD] at hk; omega
      subst this
      exact ⟨by decide +kernel, fun h => absurd h (by omega)⟩
    · refine ⟨by unfold IdOk; decide +kernel, ?_⟩
      unfold NodeOk
      exact ⟨by decide +kernel, by decide +kernel, by decide +kernel, fun k hk => by simp [wkD, List.getD] at hk⟩
  · have h : f = ⟨1, true, 0, [], [(na, 2)]⟩ ∨ f = ⟨2, false, 0, [], []⟩ := by simpa [wkD] using hf
    rcases h with rfl | rfl
    · simp at hl; subst hl; decide +kernel
    · simp at hl
  · have : k = 0 ∨ k = 1 := by simp [wkD] at hk; omega
    rcases this with rfl | rfl
    · exact ⟨fun _ => by decide +kernel, fun h => absurd (by decide +kernel) h⟩
    · exact ⟨fun h => absurd h (by decide +kernel), fun _ => ⟨by decide +kernel, fun h => absurd h (by decide +kernel)⟩⟩
  · have : i = 0 ∨ i = 1 := by simp [wkD] at hi; omega
    rcases this with rfl | rfl
    · exact .root
    · exact .step .root (by decide +kernel)
theorem wake1 {er : Int} {dd : VolD} (h : ChangeR (MakeG (newD 5) pa false) (newD 5) [pa] er dd) : er = 0 ∧ dd = wkD := by
  rcases h with ⟨_, _, _, L, hL, h⟩ | ⟨_, _, h, _⟩ | ⟨h, _⟩
  · rw [pa_path] at hL
    injection hL with hL
    subst hL
    have e : makF (newD 5) [na] = (0, 0) := by decide +kernel
    rw [e] at h
    rcases h with ⟨_, h1, h2⟩ | ⟨h1, _⟩
    · exact ⟨h1, by rw [h2]; decide +kernel⟩
    · exact absurd rfl h1
  · exact absurd h (by decide)
  · exact absurd ⟨new_ok, fun p hp => by simp at hp; subst hp; rw [pa_path]; rfl⟩ h
theorem wake2 {er : Int} {f : FileD} (h : FindR wkD pa er f) : er = 0 ∧ f.id = 2 := by
  rcases h with ⟨_, L, hL, h⟩ | ⟨h, _⟩
  · rw [pa_path] at hL
    injection hL with hL
    subst hL
    have e : findF wkD.files 0 [na] = (1, 0) := by decide +kernel
    rw [e] at h
    rcases h with ⟨_, h1, h2⟩ | ⟨h1, _⟩
    · exact ⟨h1, by rw [h2]; decide +kernel⟩
    · exact absurd rfl h1
  · exact absurd ⟨wk_ok, by rw [pa_path]; rfl⟩ h
theorem wake0 {er : Int} {dd : VolD} (h : NewR 5 er dd) : er = 0 ∧ dd = newD 5 := by
  rcases h with ⟨_, h1, h2⟩ | ⟨h, _⟩
  · exact ⟨h1, h2⟩
  · exact absurd h (by decide +kernel)
theorem small_new (id : Int) : SmallV (newD id) := ⟨by simp [newD], fun f hf => by simp [newD] at hf; subst hf; exact ⟨by simp, by simp⟩⟩
theorem small_wk : SmallV wkD := ⟨by simp [wkD], fun f hf => by
  have h : f = ⟨1, true, 0, [], [(na, 2)]⟩ ∨ f = ⟨2, false, 0, [], []⟩ := by simpa [wkD] using hf
  rcases h with rfl | rfl <;> exact ⟨by simp, by simp⟩⟩

end Go.Proofs.YtdpighcaieajjaaGreat
