/- Laid together: Rowv, Weight, Weightw, Heavy, Shelfb, Risem. -/
import Derived.Test.YtbaphgdlbeaenaaGreatReachNamedM2
import Derived.Shelf.Sort.Plain
import Derived.Shelf.Slices.CompactI
import Derived.Shelf.Slices.Cells
import Derived.Shelf.Slices.In.SortNone
import Derived.Shelf.SlGeneric
import Derived.Shelf.SlicesG.SearchI
import Derived.Shelf.Spec.SlicesGrow
import Derived.Test.YtbaphgdlbeaenaaGreatProg
import Derived.Lib.SlicesCompact
/- Rows of volumes in memory: read, and owned. -/
namespace Go.Proofs.YtbaphgdlbeaenaaGreat
open Go.RowKit

abbrev VZ : VolD := Go.Proofs.YtbaphgdlbeaenaaGreat.v0
def VolIn (w : World) (b o : Nat) (d : VolD) : Prop := ∃ a c, (w.cell? ⟨b, o, none⟩ = some (.int .i64 d.id) ∧ w.cell? ⟨b, o + 1, none⟩ = some (.int .i64 d.fr) ∧ w.cell? ⟨b, o + 2, none⟩ = some (.bool d.snap) ∧ w.cell? ⟨b, o + 3, none⟩ = some (.slice a d.files.length c) ∧ w.cell? ⟨b, o + 4, none⟩ = some (.int .i64 d.next)) ∧ FilesAt w a d.files ∧ CapOk a c d.files.length
def VolsAt (w : World) (a : Option Addr) (ds : List VolD) : Prop :=
  ds = [] ∨ ∃ b o, a = some ⟨b, o, none⟩ ∧ ∀ i, i < ds.length → VolIn w b (o + i * 5) (ds.getD i VZ)
theorem VolIn.below {w w' : World} {b o : Nat} {d : VolD} (h : VolIn w b o d) (hb : Below w.heap.size w w') : VolIn w' b o d := by
  obtain ⟨a, c, ⟨h0, h1, h2, h3, h4⟩, hf, hc⟩ := h
  have hlt := block_lt_of_cell h0
  exact ⟨a, c, ⟨(hb.cell (p := ⟨b, o, none⟩) hlt).trans h0, (hb.cell (p := ⟨b, o + 1, none⟩) hlt).trans h1, (hb.cell (p := ⟨b, o + 2, none⟩) hlt).trans h2, (hb.cell (p := ⟨b, o + 3, none⟩) hlt).trans h3, (hb.cell (p := ⟨b, o + 4, none⟩) hlt).trans h4⟩, hf.below hb, hc⟩
theorem VolsAt.vol {w : World} {a : Option Addr} {ds : List VolD} (h : VolsAt w a ds) {i : Nat} (hi : i < ds.length) : ∃ b o, a = some ⟨b, o, none⟩ ∧ VolIn w b (o + i * 5) (ds.getD i VZ) := by
  rcases h with rfl | ⟨b, o, rfl, hc⟩
  · simp at hi
  · exact ⟨b, o, rfl, hc i hi⟩
theorem VolsAt.below {w w' : World} {a : Option Addr} {ds : List VolD} (h : VolsAt w a ds) (hb : Below w.heap.size w w') : VolsAt w' a ds := by
  rcases h with rfl | ⟨b, o, rfl, hc⟩
  · exact .inl rfl
  · exact .inr ⟨b, o, rfl, fun i hi => (hc i hi).below hb⟩
theorem VolIn.val {w : World} {b o : Nat} {d : VolD} (h : VolIn w b o d) : ∃ a c, (w.cell? ⟨b, o, none⟩ = some (.int .i64 d.id) ∧ w.cell? ⟨b, o + 1, none⟩ = some (.int .i64 d.fr) ∧ w.cell? ⟨b, o + 2, none⟩ = some (.bool d.snap) ∧ w.cell? ⟨b, o + 3, none⟩ = some (.slice a d.files.length c) ∧ w.cell? ⟨b, o + 4, none⟩ = some (.int .i64 d.next)) ∧ VolVal w (.agg #[.int .i64 d.id, .int .i64 d.fr, .bool d.snap, .slice a d.files.length c, .int .i64 d.next]) d := by
  obtain ⟨a, c, hc, hf, hk⟩ := h
  exact ⟨a, c, hc, a, c, rfl, hf, hk⟩
theorem VolsAt.take {w : World} {a : Option Addr} {ds : List VolD} (h : VolsAt w a ds) (k : Nat) : VolsAt w a (ds.take k) := by
  rcases h with rfl | ⟨b, o, rfl, hc⟩
  · exact .inl (by simp)
  · refine .inr ⟨b, o, rfl, fun i hi => ?_⟩
    rw [List.length_take] at hi
    have e : (ds.take k).getD i VZ = ds.getD i VZ := by simp only [List.getD]; rw [List.getElem?_take_of_lt (by omega)]
    rw [e]; exact hc i (by omega)
theorem VolsAt.drop {w : World} {b o : Nat} {ds : List VolD} (h : VolsAt w (some ⟨b, o, none⟩) ds) (k : Nat) : VolsAt w (some ⟨b, o + k * 5, none⟩) (ds.drop k) := by
  rcases h with rfl | ⟨b', o', e, hc⟩
  · exact .inl (by simp)
  · injection e with e
    injection e with e1 e2
    subst e1; subst e2
    refine .inr ⟨b, o + k * 5, rfl, fun i hi => ?_⟩
    rw [List.length_drop] at hi
    have e : (ds.drop k).getD i VZ = ds.getD (k + i) VZ := by simp [List.getD]
    rw [e, show o + k * 5 + i * 5 = o + (k + i) * 5 from by omega]
    exact hc (k + i) (by omega)

structure VV where
  d : VolD
  fv : Value
def vflat (gs : List VV) : List Value := gs.flatMap fun g => [.int .i64 g.d.id, .int .i64 g.d.fr, .bool g.d.snap, g.fv, .int .i64 g.d.next]
/-- volumes in memory of one's own -/
def OwnVols (w : World) (base : Nat) (v : Value) (ds : List VolD) : Prop := ∃ gs : List VV, gs.map VV.d = ds ∧ w.ownsRow base 48 5 v gs.length (vflat gs) ∧ ∀ g ∈ gs, OwnFiles w base g.fv g.d.files
def SmallW (ds : List VolD) : Prop := ds.length ≤ 100000 ∧ ∀ d ∈ ds, SmallV d

theorem vflat_get (gs : List VV) : ∀ i g, gs[i]? = some g → (vflat gs)[i * 5]? = some (.int .i64 g.d.id) ∧ (vflat gs)[i * 5 + 1]? = some (.int .i64 g.d.fr) ∧ (vflat gs)[i * 5 + 2]? = some (.bool g.d.snap) ∧ (vflat gs)[i * 5 + 3]? = some g.fv ∧ (vflat gs)[i * 5 + 4]? = some (.int .i64 g.d.next) := by
  induction gs with
  | nil => intro i g h; simp at h
  | cons x xs ih =>
    intro i g h
    have e : vflat (x :: xs) = .int .i64 x.d.id :: .int .i64 x.d.fr :: .bool x.d.snap :: x.fv :: .int .i64 x.d.next :: vflat xs := by simp [vflat]
    rw [e]
    cases i with
    | zero => simp at h; subst h; simp
    | succ i =>
      have h' : xs[i]? = some g := by simpa using h
      have h2 := ih i g h'
      rw [show (i + 1) * 5 = i * 5 + 1 + 1 + 1 + 1 + 1 from by omega]
      simp only [List.getElem?_cons_succ]
      exact h2
theorem vflat_snoc (gs : List VV) (g : VV) : vflat (gs ++ [g]) = vflat gs ++ [.int .i64 g.d.id, .int .i64 g.d.fr, .bool g.d.snap, g.fv, .int .i64 g.d.next] := by simp [vflat]
theorem vflat_len (gs : List VV) : (vflat gs).length = gs.length * 5 := by
  induction gs with
  | nil => rfl
  | cons x xs ih => simp only [vflat, List.flatMap_cons, List.length_append, List.length_cons, List.length_nil] at *; omega
theorem OwnVols.below {w w' : World} {base : Nat} {v : Value} {ds : List VolD} (h : OwnVols w base v ds) (hb : Below w.heap.size w w') : OwnVols w' base v ds := by
  obtain ⟨gs, e, ho, hg⟩ := h
  exact ⟨gs, e, own_below ho hb, fun g hm => (hg g hm).below hb⟩
theorem OwnVols.le {w : World} {base base' : Nat} {v : Value} {ds : List VolD} (h : OwnVols w base v ds) (hb : base' ≤ base) : OwnVols w base' v ds := by
  obtain ⟨gs, e, ho, hg⟩ := h
  exact ⟨gs, e, own_le ho hb, fun g hm => (hg g hm).le hb⟩
theorem OwnVols.set {w : World} {base : Nat} {v : Value} {ds : List VolD} (h : OwnVols w base v ds) {g : Nat} (o : Nat) (hg : g < base) (u : Value) : OwnVols (w.setCell ⟨g, o, none⟩ u) base v ds := by
  obtain ⟨gs, e, ho, ha⟩ := h
  exact ⟨gs, e, rowset ho o hg u, fun x hx => (ha x hx).set o hg u⟩
theorem addr_add (g j : Nat) : (⟨g, 0, none⟩ : Addr).add j = ⟨g, 0 + j, none⟩ := by unfold Addr.add; split <;> simp_all
theorem OwnVols.at {w : World} {base : Nat} {v : Value} {ds : List VolD} (h : OwnVols w base v ds) : ∃ a cap, v = .slice a ds.length cap ∧ VolsAt w a ds ∧ CapOk a cap ds.length := by
  obtain ⟨gs, rfl, ho, hg⟩ := h
  have hh := ho
  rw [List.length_map]
  rcases ho.2 with ⟨hv, hn⟩ | ⟨g, cap, cur, hv, hb, _, hnc, _⟩
  · exact ⟨none, 0, by rw [hv, hn], .inl (by rw [List.length_eq_zero_iff.1 hn]; rfl), by omega, (fun _ => rfl), (fun p e => by cases e)⟩
  · refine ⟨_, cap, hv, .inr ⟨g, 0, rfl, fun i hi => ?_⟩, hnc, (fun e => by cases e), (fun p e _ => by injection e with e; rw [← e])⟩
    rw [List.length_map] at hi
    obtain ⟨c0, c1, c2, c3, c4⟩ := vflat_get gs i _ (List.getElem?_eq_getElem hi)
    have hm := hg gs[i] (List.getElem_mem hi)
    obtain ⟨ab, cb, eb, hib, kib⟩ := hm.at
    have hgd : (gs.map VV.d).getD i VZ = gs[i].d := by simp [List.getD, hi]
    rw [hgd]
    have K : ∀ j u, (vflat gs)[j]? = some u → w.cell? ⟨g, 0 + j, none⟩ = some u := fun j u hj => by
      have := hh.cells (g := g) (by rw [hv]; rfl) j u hj
      rwa [addr_add] at this
    rw [eb] at c3
    exact ⟨ab, cb, ⟨K _ _ c0, by have := K _ _ c1; rwa [← Nat.add_assoc] at this, by have := K _ _ c2; rwa [← Nat.add_assoc] at this, by have := K _ _ c3; rwa [← Nat.add_assoc] at this, by have := K _ _ c4; rwa [← Nat.add_assoc] at this⟩, hib, kib⟩
theorem OwnVols.snoc {w : World} {base : Nat} {v : Value} {gs : List VV} {g : VV} (hg : ∀ x ∈ gs, OwnFiles w base x.fv x.d.files) (h1 : OwnFiles w base g.fv g.d.files)
    (h : w.ownsRow base 48 5 v (gs.length + 1) (vflat gs ++ [.int .i64 g.d.id, .int .i64 g.d.fr, .bool g.d.snap, g.fv, .int .i64 g.d.next])) : OwnVols w base v (gs.map VV.d ++ [g.d]) := by
  refine ⟨gs ++ [g], by simp, ?_, ?_⟩
  · rw [vflat_snoc, List.length_append]; exact h
  · intro x hx
    rcases List.mem_append.1 hx with h2 | h2
    · exact hg x h2
    · simp at h2; subst h2; exact h1
theorem OwnFiles.grown {w w' : World} {base B' : Nat} {v : Value} {fs : List FileD} {m : Nat} {ys : List Value} {u : Value} (h : OwnFiles w base v fs) (hu : w.ownsRow B' 48 5 u m ys) (hg : w.grownBy w' u.ownBlock) : OwnFiles w' base v fs := by
  obtain ⟨gs, e, ho, ha⟩ := h
  exact ⟨gs, e, own_other ho hu (by decide) hg, fun x hx => ⟨own_other (ha x hx).1 hu (by decide) hg, own_other (ha x hx).2 hu (by decide) hg⟩⟩
theorem Tryz.info48 : (Tryz.prog.info? 48).map (fun i => (i.zero, i.size, i.bytes)) = some (some (.agg #[.int .i64 0, .int .i64 0, .bool false, .slice none 0 0, .int .i64 0]), 5, 56) := by kernel_rfl

end Go.Proofs.YtbaphgdlbeaenaaGreat

/- How much a volume is: what is not heavy is small. -/
namespace Go.Proofs.YtbaphgdlbeaenaaGreat
open Go.RowKit

/-- as great as anything may be that comes in -/
def LooseF (f : FileD) : Prop := f.blocks.length ≤ 35184372088832 ∧ f.list.length ≤ 35184372088832 ∧ ∀ l ∈ f.list, l.1.size ≤ 140737488355328
def LooseV (d : VolD) : Prop := d.files.length ≤ 35184372088832 ∧ ∀ f ∈ d.files, LooseF f
def FitF (N : Nat) (f : FileD) : Prop := f.blocks.length + f.list.length ≤ N ∧ (N < 1048576 → ∀ l ∈ f.list, l.1.size / 4 ≤ N)
theorem FitF.mono {N M : Nat} {f : FileD} (h : FitF N f) (hM : N ≤ M) : FitF M f := ⟨by have := h.1; omega, fun hh l hl => by have := h.2 (by omega) l hl; omega⟩
def FitV (N : Nat) (d : VolD) : Prop := N ≤ 281474976710656 ∧ (N < 1048576 → d.files.length ≤ N ∧ ∀ f ∈ d.files, FitF N f)

set_option maxRecDepth 100000 in
set_option maxHeartbeats 2000000 in
theorem volWeight_any (v : Value) (d : VolD) (w : World) (hv : VolVal w v d) (hs : LooseV d) :
    Calls Tryz.prog 38 #[v] w fun e w' => (∃ N : Nat, e = .returned (.int .i64 N) ∧ Hid (FitV N d)) ∧ Below w.heap.size w w' := by
  obtain ⟨a, ca, rfl, hfs, _⟩ := hv
  have HF : Hid (FilesAt w a d.files) := hfs
  clear hfs
  obtain ⟨vid, fr, snap, fs, next⟩ := d
  simp only [LooseV] at *
  obtain ⟨hl, hs2⟩ := hs
  have HS : Hid (∀ f ∈ fs, LooseF f) := hs2
  clear hs2
  go_enter Tryz.func38, Tryz.ntmps38
  go_wp2_with fail
  obtain ⟨W0, hW0⟩ : ∃ W0, W0 = w.alloc (.cells #[.int .i64 vid, .int .i64 fr, .bool snap, .slice a fs.length ca, .int .i64 next] 48) := ⟨_, rfl⟩
  have HB0 : Hid (Below w.heap.size w W0) := by rw [hW0]; exact nwA (nwR w) _
  have HF0 : Hid (FilesAt W0 a fs) := HF.out.below HB0.out
  have HBX : Hid (W0.heap[w.heap.size]? = some (.cells #[.int .i64 vid, .int .i64 fr, .bool snap, .slice a fs.length ca, .int .i64 next] 48 (0, 0))) := by rw [hW0]; exact heap_alloc_new w _
  rw [← hW0]
  clear hW0 HF
  go_loopw [3, 4] (fun n i wr => ∃ (k N : Nat), k ≤ fs.length ∧ i = .int .i64 k ∧ n = .int .i64 N ∧ N ≤ 281474976710656 ∧ Hid (fs.length ≤ N ∧ ∀ j, j < k → FitF N (fs.getD j f0)) ∧ Below W0.heap.size W0 wr)
    (fun _ i _ => fs.length - (intOf i).toNat)
  case atStart => exact ⟨0, fs.length, by omega, rfl, rfl, by omega, ⟨by omega, fun j hj => by omega⟩, nwR W0⟩
  case round =>
    obtain ⟨k, N, hk, rfl, rfl, hN, HE, hb⟩ := hrel
    have HBW : Hid (Below w.heap.size w wr) := nwT HB0.out hb
    obtain ⟨_, _, _, x3, _, _⟩ := five ((hb.block _ (Array.getElem?_eq_some_iff.1 HBX.out).1).trans HBX.out)
    by_cases hlt : k < fs.length
    · have hlti : (k : Int) < (fs.length : Int) := by omega
      by_cases hN2 : N < 1048576
      · have hNi : (N : Int) < 1048576 := by omega
        obtain ⟨b1, o1, rfl, hf⟩ := (HF0.out.below hb).file hlt
        obtain ⟨ab, cb, al, cl, ⟨_, _, _, c3, c4⟩, _, hli, _⟩ := hf
        have hlo := HS.out (fs.getD k f0) (by simp [List.getD, hlt])
        have HLI : Hid (LinksAt wr al (fs.getD k f0).list) := hli
        have HFK : Hid (∀ M, N ≤ M → FitF M (fs.getD k f0) → fs.length ≤ M ∧ ∀ j, j < k + 1 → FitF M (fs.getD j f0)) := fun M hM h => ⟨by have := HE.out.1; omega, fun j hj => by
          by_cases e : j = k
          · subst e; exact h
          · exact (HE.out.2 j (by omega)).mono hM⟩
        generalize fs.getD k f0 = f at c3 c4 hlo HLI HFK
        obtain ⟨fid, fdir, fsize, fbl, fli⟩ := f
        simp only [LooseF] at c3 c4 hlo HLI
        obtain ⟨hl1, hl2, hl3⟩ := hlo
        have HSZ : Hid (∀ l ∈ fli, l.1.size ≤ 140737488355328) := hl3
        clear hli hl3
        go_wp2_with fail
        have e1 : IntKind.i64.wrap ((N : Int) + (fbl.length : Int)) = (N : Int) + (fbl.length : Int) := wrap_any (by omega) (by omega)
        have e2 : IntKind.i64.wrap ((N : Int) + (fbl.length : Int) + (fli.length : Int)) = (N : Int) + (fbl.length : Int) + (fli.length : Int) := wrap_any (by omega) (by omega)
        go_quiet (fail)
        clear e1 e2
        have eP : (N : Int) + (fbl.length : Int) + (fli.length : Int) = ((N + fbl.length + fli.length : Nat) : Int) := by omega
        rw [eP]
        clear eP
        generalize hP : N + fbl.length + fli.length = P
        have hP1 : N ≤ P := by omega
        have hP2 : fbl.length + fli.length ≤ P := by omega
        have hP3 : P ≤ 140737488355328 := by omega
        clear hP
        go_wp2_with fail
        go_loop [3, 5] (fun n i => ∃ (j M : Nat), j ≤ fli.length ∧ i = .int .i64 j ∧ n = .int .i64 M ∧ P ≤ M ∧ M ≤ 281474976710656 ∧ Hid (∀ t, t < j → (fli.getD t lk0).1.size / 4 ≤ M))
          (fun _ i => fli.length - (intOf i).toNat)
        case atStart => exact ⟨0, P, by omega, rfl, rfl, by omega, by omega, fun t ht => by omega⟩
        case round =>
          obtain ⟨j, M, hj, rfl, rfl, hM1, hM2, HT⟩ := hrel
          by_cases hjl : j < fli.length
          · have hjli : (j : Int) < (fli.length : Int) := by omega
            by_cases hM3 : M < 1048576
            · have hMi : (M : Int) < 1048576 := by omega
              obtain ⟨b2, o2, rfl, d1, _⟩ := HLI.out.cell hjl
              have hsz := HSZ.out (fli.getD j lk0) (by simp [List.getD, hjl])
              have HT2 : Hid (∀ t, t < j + 1 → (fli.getD t lk0).1.size / 4 ≤ M + (fli.getD j lk0).1.size / 4) := fun t ht => by
                by_cases e : t = j
                · subst e; omega
                · have := HT.out t (by omega); omega
              generalize (fli.getD j lk0).1 = nme at d1 hsz HT2
              go_wp2_with fail
              go_round
              case rel => exact ⟨j + 1, M + nme.size / 4, by omega, by go_num, by first | rfl | (congr 1; omega), by omega, by omega, HT2⟩
              case measure => simp [intOf]; omega
            · have hMi : ¬ (M : Int) < 1048576 := by omega
              go_wp2_with fail
              go_roundw
              case rel => exact ⟨k + 1, M, by omega, by go_num, rfl, hM2, HFK.out M (by omega) ⟨by show fbl.length + fli.length ≤ M; omega, fun h => absurd h hM3⟩, below_drewN hb _⟩
              case measure => simp [intOf]; omega
          · have hjli : ¬ (j : Int) < (fli.length : Int) := by omega
            go_wp2_with fail
            go_roundw
            case rel => exact ⟨k + 1, M, by omega, by go_num, rfl, hM2, HFK.out M (by omega) ⟨by show fbl.length + fli.length ≤ M; omega, fun _ l hl => by
              have hl2 : l ∈ fli := hl
              obtain ⟨t, ht, rfl⟩ := List.getElem_of_mem hl2
              have := HT.out t (by omega)
              simpa [List.getD, ht] using this⟩, below_drewN hb _⟩
            case measure => simp [intOf]; omega
      · have hNi : ¬ (N : Int) < 1048576 := by omega
        go_wp2_with fail
        go_ret
        exact ⟨⟨N, rfl, ⟨hN, fun h => absurd h hN2⟩⟩, HBW.out⟩
    · have hlti : ¬ (k : Int) < (fs.length : Int) := by omega
      go_wp2_with fail
      go_ret
      exact ⟨⟨N, rfl, ⟨hN, fun h => ⟨HE.out.1, fun f hf => by
        have hf2 : f ∈ fs := hf
        obtain ⟨j, hj, rfl⟩ := List.getElem_of_mem hf2
        have := HE.out.2 j (by omega)
        simpa [List.getD, hj] using this⟩⟩⟩, HBW.out⟩

theorem FitV.small {N : Nat} {d : VolD} (h : FitV N d) (hN : N ≤ 1500) : SmallV d := by
  obtain ⟨_, h2⟩ := h
  obtain ⟨h3, h4⟩ := h2 (by omega)
  refine ⟨by omega, fun f hf => ?_⟩
  have := (h4 f hf).1
  exact ⟨by omega, by omega⟩

end Go.Proofs.YtbaphgdlbeaenaaGreat

/- How much volumes are. -/
namespace Go.Proofs.YtbaphgdlbeaenaaGreat
open Go.RowKit

def LooseW (ds : List VolD) : Prop := ds.length ≤ 35184372088832 ∧ ∀ d ∈ ds, LooseV d
def FitW (N : Nat) (ds : List VolD) : Prop := N ≤ 562949953421312 ∧ (N < 1048576 → ds.length ≤ N ∧ ∀ d ∈ ds, ∃ M, M ≤ N ∧ FitV M d)
theorem FitW.small {N : Nat} {ds : List VolD} (h : FitW N ds) (hN : N ≤ 1500) : SmallW ds := by
  obtain ⟨h1, h2⟩ := h.2 (by omega)
  refine ⟨by omega, fun d hd => ?_⟩
  obtain ⟨M, hM, hf⟩ := h2 d hd
  exact hf.small (by omega)

set_option maxRecDepth 100000 in
set_option maxHeartbeats 2000000 in
theorem volsWeight_any (a : Option Addr) (ds : List VolD) (ca : Nat) (w : World) (hv : VolsAt w a ds) (hs : LooseW ds) :
    Calls Tryz.prog 37 #[.slice a ds.length ca] w fun e w' => (∃ N : Nat, e = .returned (.int .i64 N) ∧ Hid (FitW N ds)) ∧ Below w.heap.size w w' := by
  have HV : Hid (VolsAt w a ds) := hv
  have HS : Hid (∀ d ∈ ds, LooseV d) := hs.2
  have hl := hs.1
  clear hv hs
  go_enter Tryz.func37, Tryz.ntmps37
  go_wp2_with fail
  go_loopw [3, 4] (fun n i wr => ∃ (k N : Nat), k ≤ ds.length ∧ i = .int .i64 k ∧ n = .int .i64 N ∧ N ≤ 562949953421312 ∧ Hid (ds.length ≤ N ∧ ∀ j, j < k → ∃ M, M ≤ N ∧ FitV M (ds.getD j VZ)) ∧ Below w.heap.size w wr)
    (fun _ i _ => ds.length - (intOf i).toNat)
  case atStart => exact ⟨0, ds.length, by omega, rfl, rfl, by omega, ⟨by omega, fun j hj => by omega⟩, nwR w⟩
  case round =>
    obtain ⟨k, N, hk, rfl, rfl, hN, HE, hb⟩ := hrel
    by_cases hlt : k < ds.length
    · have hlti : (k : Int) < (ds.length : Int) := by omega
      by_cases hN2 : N < 1048576
      · have hNi : (N : Int) < 1048576 := by omega
        obtain ⟨b1, o1, rfl, hf⟩ := (HV.out.below hb).vol hlt
        obtain ⟨af, cf, ⟨c0, c1, c2, c3, c4⟩, hvl⟩ := hf.val
        have HLO : Hid (LooseV (ds.getD k VZ)) := HS.out (ds.getD k VZ) (by simp [List.getD, hlt])
        have HVL : Hid (VolVal wr (.agg #[.int .i64 (ds.getD k VZ).id, .int .i64 (ds.getD k VZ).fr, .bool (ds.getD k VZ).snap, .slice af (ds.getD k VZ).files.length cf, .int .i64 (ds.getD k VZ).next]) (ds.getD k VZ)) := hvl
        have HFK : Hid (∀ A M, FitV M (ds.getD k VZ) → M ≤ A → N ≤ A → ds.length ≤ A ∧ ∀ j, j < k + 1 → ∃ M, M ≤ A ∧ FitV M (ds.getD j VZ)) := fun A M h hM hA => ⟨by have := HE.out.1; omega, fun j hj => by
          by_cases e : j = k
          · subst e; exact ⟨M, hM, h⟩
          · obtain ⟨M', h1, h2⟩ := HE.out.2 j (by omega)
            exact ⟨M', by omega, h2⟩⟩
        generalize ds.getD k VZ = d at c0 c1 c2 c3 c4 HLO HVL HFK
        clear hf hvl
        go_wp2_with fail
        refine (volWeight_any _ d wr HVL.out HLO.out).mono ?_
        rintro e w2 ⟨⟨M, rfl, HM⟩, hb2⟩
        have hbb := nwT hb hb2
        have hM1 := HM.out.1
        have e1 : IntKind.i64.wrap ((N : Int) + (M : Int)) = (N : Int) + (M : Int) := wrap_any (by omega) (by omega)
        have HFN := HFK.out (N + M) M HM.out (by omega) (by omega)
        have HFH : Hid (ds.length ≤ N + M ∧ ∀ j, j < k + 1 → ∃ M', M' ≤ N + M ∧ FitV M' (ds.getD j VZ)) := HFN
        clear HFN HM c0 c1 c2 c3 c4
        go_wp2_with fail
        go_roundw
        case rel => exact ⟨k + 1, N + M, by omega, by go_num, by go_num, by omega, HFH.out, hbb⟩
        case measure => simp [intOf]; omega
      · have hNi : ¬ (N : Int) < 1048576 := by omega
        have HQ : Hid (FitW N ds) := ⟨hN, fun h => absurd h hN2⟩
        go_wp2_with fail
        go_ret
        exact ⟨⟨N, rfl, HQ.out⟩, hb⟩
    · have hlti : ¬ (k : Int) < (ds.length : Int) := by omega
      have HQ : Hid (FitW N ds) := ⟨hN, fun _ => ⟨HE.out.1, fun d hd => by
        obtain ⟨j, hj, rfl⟩ := List.getElem_of_mem hd
        have := HE.out.2 j (by omega)
        rwa [show ds.getD j VZ = ds[j] from by simp [List.getD, hj]] at this⟩⟩
      go_wp2_with fail
      go_ret
      exact ⟨⟨N, rfl, HQ.out⟩, hb⟩

end Go.Proofs.YtbaphgdlbeaenaaGreat

/- Scripts of volumes: what is not heavy is small. -/
namespace Go.Proofs.YtbaphgdlbeaenaaGreat
open Go.RowKit

structure ActD where
  act : Int
  id : Int
  v : VolD
def act0 : ActD := ⟨0, 0, VZ⟩
def ActsAt (w : World) (a : Option Addr) (l : List ActD) : Prop :=
  l = [] ∨ ∃ b o, a = some ⟨b, o, none⟩ ∧ ∀ i, i < l.length → w.cell? ⟨b, o + i * 7, none⟩ = some (.int .i64 (l.getD i act0).act) ∧ w.cell? ⟨b, o + i * 7 + 1, none⟩ = some (.int .i64 (l.getD i act0).id) ∧ VolIn w b (o + i * 7 + 2) (l.getD i act0).v
theorem ActsAt.cell {w : World} {a : Option Addr} {l : List ActD} (h : ActsAt w a l) {i : Nat} (hi : i < l.length) : ∃ b o, a = some ⟨b, o, none⟩ ∧ w.cell? ⟨b, o + i * 7, none⟩ = some (.int .i64 (l.getD i act0).act) ∧ w.cell? ⟨b, o + i * 7 + 1, none⟩ = some (.int .i64 (l.getD i act0).id) ∧ VolIn w b (o + i * 7 + 2) (l.getD i act0).v := by
  rcases h with rfl | ⟨b, o, rfl, hc⟩
  · simp at hi
  · exact ⟨b, o, rfl, hc i hi⟩
theorem ActsAt.below {w w' : World} {a : Option Addr} {l : List ActD} (h : ActsAt w a l) (hb : Below w.heap.size w w') : ActsAt w' a l := by
  rcases h with rfl | ⟨b, o, rfl, hc⟩
  · exact .inl rfl
  · exact .inr ⟨b, o, rfl, fun i hi => ⟨(hb.cell (p := ⟨b, o + i * 7, none⟩) (block_lt_of_cell (hc i hi).1)).trans (hc i hi).1, (hb.cell (p := ⟨b, o + i * 7 + 1, none⟩) (block_lt_of_cell (hc i hi).2.1)).trans (hc i hi).2.1, (hc i hi).2.2.below hb⟩⟩
/-- a script: volumes, the next ID, acts -/
def ScrVal (w : World) (v : Value) (ds : List VolD) (next : Int) (l : List ActD) : Prop := ∃ av ca a c, v = .agg #[.slice av ds.length ca, .int .i64 next, .slice a l.length c] ∧ (VolsAt w av ds ∧ CapOk av ca ds.length) ∧ ActsAt w a l ∧ CapOk a c l.length
theorem ScrVal.below {w w' : World} {v : Value} {ds : List VolD} {next : Int} {l : List ActD} (h : ScrVal w v ds next l) (hb : Below w.heap.size w w') : ScrVal w' v ds next l := by
  obtain ⟨av, ca, a, c, e, h1, h2, h3⟩ := h
  exact ⟨av, ca, a, c, e, ⟨h1.1.below hb, h1.2⟩, h2.below hb, h3⟩
theorem tri {w : World} {g : Nat} {c0 c1 c2 : Value} {t : TypeId} (h : w.heap[g]? = some (.cells #[c0, c1, c2] t (0, 0))) :
    w.cell? ⟨g, 0, none⟩ = some c0 ∧ w.cell? ⟨g, 1, none⟩ = some c1 ∧ w.cell? ⟨g, 2, none⟩ = some c2 :=
  ⟨by rw [Lib.cell_of_heap h]; rfl, by rw [Lib.cell_of_heap h]; rfl, by rw [Lib.cell_of_heap h]; rfl⟩
def LooseA (l : List ActD) : Prop := l.length ≤ 3518437208883 ∧ ∀ x ∈ l, LooseV x.v
def LightA (l : List ActD) : Prop := l.length ≤ 1500 ∧ ∀ x ∈ l, SmallV x.v
def HvPost (ds : List VolD) (l : List ActD) (w : World) (e : Ending) (w' : World) : Prop := ∃ q : Bool, e = .returned (.bool q) ∧ Below w.heap.size w w' ∧ (q = false → SmallW ds ∧ LightA l)

set_option maxRecDepth 100000 in
set_option maxHeartbeats 2000000 in
theorem heavy_any (v : Value) (ds : List VolD) (next : Int) (l : List ActD) (w : World) (hv : ScrVal w v ds next l) (hd : LooseW ds) (hl : LooseA l) : Calls Tryz.prog 19 #[v] w (HvPost ds l w) := by
  obtain ⟨av, ca, aL, cL, rfl, ⟨hu, _⟩, hL, _⟩ := hv
  have HU : Hid (VolsAt w av ds) := hu
  have HL : Hid (ActsAt w aL l) := hL
  have HD : Hid (LooseW ds) := hd
  have hll := hl.1
  have HLA : Hid (∀ x ∈ l, LooseV x.v) := hl.2
  obtain ⟨W0, hW0⟩ : ∃ W0, W0 = w.alloc (.cells #[.slice av ds.length ca, .int .i64 next, .slice aL l.length cL] 25) := ⟨_, rfl⟩
  have HB0 : Hid (Below w.heap.size w W0) := by rw [hW0]; exact nwA (nwR w) _
  have HR0 : Hid (W0.heap[w.heap.size]? = some (.cells #[.slice av ds.length ca, .int .i64 next, .slice aL l.length cL] 25 (0, 0))) := by rw [hW0]; exact heap_alloc_new w _
  have HU0 : Hid (VolsAt W0 av ds) := HU.out.below HB0.out
  clear hL hd hl hu HU
  go_enter Tryz.func19, Tryz.ntmps19
  go_wp2_with fail
  rw [← hW0]
  clear hW0
  have hS := nwR W0
  have q0 : ∀ w', Below W0.heap.size W0 w' → w'.cell? ⟨w.heap.size, 0, none⟩ = some (.slice av ds.length ca) := fun w' h => (tri ((h.block _ (Array.getElem?_eq_some_iff.1 HR0.out).1).trans HR0.out)).1
  have q2 : ∀ w', Below W0.heap.size W0 w' → w'.cell? ⟨w.heap.size, 2, none⟩ = some (.slice aL l.length cL) := fun w' h => (tri ((h.block _ (Array.getElem?_eq_some_iff.1 HR0.out).1).trans HR0.out)).2.2
  go_region_held3 (fun w' => Below W0.heap.size W0 w') (first | assumption | exact Below.drew (by assumption) | exact nwT (by assumption) (by assumption)) (first
    | (go_at_call 37; refine (volsWeight_any _ ds ca _ (HU0.out.below (by assumption)) HD.out).mono ?_; rintro e w1 ⟨⟨N, rfl, HN⟩, hb1⟩; have hN := HN.out.1; have e1 : IntKind.i64.wrap ((N : Int) + (l.length : Int)) = (N : Int) + (l.length : Int) := wrap_any (by omega) (by omega); have hbq : Below W0.heap.size W0 w1 := nwT (by assumption) hb1)
    | fail)
  have HB1 : Hid (Below w.heap.size w w1) := nwT HB0.out hbq
  have HL1 : Hid (ActsAt w1 aL l) := HL.out.below HB1.out
  have HC5 : Hid (∀ w', Below w1.heap.size w1 w' → w'.cell? ⟨w.heap.size, 2, none⟩ = some (.slice aL l.length cL)) := fun w' h => q2 w' (nwT hbq h)
  have HNN : Hid (FitW N ds) := HN.out
  clear hb1 hbq q0 q2 HL HU0 hS HN e1
  go_wp2_with fail
  go_loopw [3, 4] (fun n i wr => ∃ (k M : Nat), k ≤ l.length ∧ i = .int .i64 k ∧ n = .int .i64 M ∧ M ≤ 1125899906842624 ∧ Hid (N + l.length ≤ M ∧ ∀ j, j < k → ∃ A, A ≤ M ∧ FitV A (l.getD j act0).v) ∧ Below w1.heap.size w1 wr)
    (fun _ i _ => l.length - (intOf i).toNat)
  case atStart => exact ⟨0, N + l.length, by omega, rfl, by go_num, by omega, ⟨by omega, fun j hj => by omega⟩, nwR w1⟩
  case round =>
    obtain ⟨k, M, hk, rfl, rfl, hM, HE, hb⟩ := hrel
    have HBW : Hid (Below w.heap.size w wr) := nwT HB1.out hb
    have x5 := HC5.out _ hb
    by_cases hkl : k < l.length
    · have hkli : (k : Int) < (l.length : Int) := by omega
      by_cases hM2 : M < 1048576
      · have hMi : (M : Int) < 1048576 := by omega
        obtain ⟨b1, o1, rfl, _, _, hvi⟩ := (HL1.out.below hb).cell hkl
        obtain ⟨af, cf, ⟨c0, c1, c2, c3, c4⟩, hvl⟩ := hvi.val
        have HLO : Hid (LooseV (l.getD k act0).v) := HLA.out (l.getD k act0) (by simp [List.getD, hkl])
        have HFK : Hid (∀ M' A, FitV A (l.getD k act0).v → A ≤ M' → M ≤ M' → N + l.length ≤ M' ∧ ∀ j, j < k + 1 → ∃ A, A ≤ M' ∧ FitV A (l.getD j act0).v) := fun M' A h hA hM' => by
          obtain ⟨h1, h3⟩ := HE.out
          refine ⟨by omega, fun j hj => ?_⟩
          by_cases e : j = k
          · subst e; exact ⟨A, hA, h⟩
          · obtain ⟨A', h4, h5⟩ := h3 j (by omega)
            exact ⟨A', by omega, h5⟩
        generalize (l.getD k act0).v = d at c0 c1 c2 c3 c4 hvl HLO HFK
        have HVL : Hid (VolVal wr (.agg #[.int .i64 d.id, .int .i64 d.fr, .bool d.snap, .slice af d.files.length cf, .int .i64 d.next]) d) := hvl
        clear hvi hvl
        go_wp2_with fail
        refine (volWeight_any _ d wr HVL.out HLO.out).mono ?_
        rintro e w2 ⟨⟨A, rfl, HA⟩, hb2⟩
        have hA1 := HA.out.1
        have hbb := nwT hb hb2
        have e1 : IntKind.i64.wrap ((M : Int) + (A : Int)) = (M : Int) + (A : Int) := wrap_any (by omega) (by omega)
        have HFH : Hid (N + l.length ≤ M + A ∧ ∀ j, j < k + 1 → ∃ A', A' ≤ M + A ∧ FitV A' (l.getD j act0).v) := HFK.out (M + A) A HA.out (by omega) (by omega)
        clear HA c0 c1 c2 c3 c4 HFK
        go_wp2_with fail
        go_roundw
        case rel => exact ⟨k + 1, M + A, by omega, by go_num, by go_num, by omega, HFH.out, hbb⟩
        case measure => simp [intOf]; omega
      · have hMi : ¬ (M : Int) < 1048576 := by omega
        go_wp2_with fail
        go_ret
        exact ⟨_, rfl, HBW.out, fun h => by simp at h; omega⟩
    · have hkli : ¬ (k : Int) < (l.length : Int) := by omega
      go_wp2_with fail
      go_ret
      refine ⟨_, rfl, HBW.out, fun h => ?_⟩
      have hM3 : M ≤ 1500 := by simp at h; omega
      obtain ⟨h1, h3⟩ := HE.out
      refine ⟨HNN.out.small (by omega), by omega, fun x hx => ?_⟩
      obtain ⟨j, hj, rfl⟩ := List.getElem_of_mem hx
      obtain ⟨A, hA, hf⟩ := h3 j (by omega)
      have e : l.getD j act0 = l[j] := by simp [List.getD, hj]
      rw [e] at hf
      exact hf.small (by omega)

end Go.Proofs.YtbaphgdlbeaenaaGreat

/- What the library's functions do that the program calls: a sort, equals taken out, a search: each by its contract, laid at this program. -/
namespace Go.Proofs
open Go.Shelf
def Tryz.lays189_ren : Go.Shelf.Ren := ⟨fun | 189 => 46 | 125 => 63 | 257 => 62 | 128 => 81 | 129 => 82 | 294 => 72 | 295 => 73 | 296 => 74 | 297 => 75 | 298 => 76 | 299 => 77 | 216 => 78 | 300 => 79 | 301 => 80 | 328 => 90 | 329 => 91 | 330 => 92 | 331 => 93 | 332 => 94 | 215 => 95 | 343 => 106 | n => n, fun | 28 => 32 | 3 => 3 | 46 => 107 | 0 => 0 | 51 => 125 | 53 => 127 | 4 => 4 | 183 => 119 | 182 => 118 | 131 => 89 | 5 => 5 | 9 => 9 | 218 => 132 | 222 => 136 | 228 => 146 | 229 => 143 | n => n, fun | n => n⟩
theorem Tryz.lays189 : Go.Proofs.Lays.n189 Tryz.prog Tryz.lays189_ren := {
  mixed := by kernel_rfl
  f125 := Tryz.func63.trans (congrArg some (by kernel_rfl))
  f128 := Tryz.func81.trans (congrArg some (by kernel_rfl))
  f129 := Tryz.func82.trans (congrArg some (by kernel_rfl))
  f189 := Tryz.func46.trans (congrArg some (by kernel_rfl))
  f215 := Tryz.func95.trans (congrArg some (by kernel_rfl))
  f216 := Tryz.func78.trans (congrArg some (by kernel_rfl))
  f257 := Tryz.func62.trans (congrArg some (by kernel_rfl))
  f294 := Tryz.func72.trans (congrArg some (by kernel_rfl))
  f295 := Tryz.func73.trans (congrArg some (by kernel_rfl))
  f296 := Tryz.func74.trans (congrArg some (by kernel_rfl))
  f297 := Tryz.func75.trans (congrArg some (by kernel_rfl))
  f298 := Tryz.func76.trans (congrArg some (by kernel_rfl))
  f299 := Tryz.func77.trans (congrArg some (by kernel_rfl))
  f300 := Tryz.func79.trans (congrArg some (by kernel_rfl))
  f301 := Tryz.func80.trans (congrArg some (by kernel_rfl))
  f328 := Tryz.func90.trans (congrArg some (by kernel_rfl))
  f329 := Tryz.func91.trans (congrArg some (by kernel_rfl))
  f330 := Tryz.func92.trans (congrArg some (by kernel_rfl))
  f331 := Tryz.func93.trans (congrArg some (by kernel_rfl))
  f332 := Tryz.func94.trans (congrArg some (by kernel_rfl))
  f343 := Tryz.func106.trans (congrArg some (by kernel_rfl))
  t0 := Tryz.underlying0
  a0 := Tryz.isAgg0
  z0 := Tryz.sizeOf0
  v0 := Tryz.zeroValue0
  t3 := Tryz.underlying3
  a3 := Tryz.isAgg3
  z3 := Tryz.sizeOf3
  v3 := Tryz.zeroValue3
  t4 := Tryz.underlying4
  a4 := Tryz.isAgg4
  z4 := Tryz.sizeOf4
  v4 := Tryz.zeroValue4
  t5 := Tryz.underlying5
  a5 := Tryz.isAgg5
  z5 := Tryz.sizeOf5
  v5 := Tryz.zeroValue5
  t9 := Tryz.underlying9
  a9 := Tryz.isAgg9
  z9 := Tryz.sizeOf9
  v9 := Tryz.zeroValue9
  t28 := Tryz.underlying32
  a28 := Tryz.isAgg32
  z28 := Tryz.sizeOf32
  v28 := Tryz.zeroValue32
  t46 := Tryz.underlying107
  a46 := Tryz.isAgg107
  z46 := Tryz.sizeOf107
  v46 := Tryz.zeroValue107
  t51 := Tryz.underlying125
  a51 := Tryz.isAgg125
  z51 := Tryz.sizeOf125
  v51 := Tryz.zeroValue125
  t53 := Tryz.underlying127
  a53 := Tryz.isAgg127
  z53 := Tryz.sizeOf127
  v53 := Tryz.zeroValue127
  t131 := Tryz.underlying89
  a131 := Tryz.isAgg89
  z131 := Tryz.sizeOf89
  v131 := Tryz.zeroValue89
  t182 := Tryz.underlying118
  a182 := Tryz.isAgg118
  z182 := Tryz.sizeOf118
  v182 := Tryz.zeroValue118
  t183 := Tryz.underlying119
  a183 := Tryz.isAgg119
  z183 := Tryz.sizeOf119
  v183 := Tryz.zeroValue119
  t218 := Tryz.underlying132
  a218 := Tryz.isAgg132
  z218 := Tryz.sizeOf132
  v218 := Tryz.zeroValue132
  t222 := Tryz.underlying136
  a222 := Tryz.isAgg136
  z222 := Tryz.sizeOf136
  v222 := Tryz.zeroValue136
  t228 := Tryz.underlying146
  a228 := Tryz.isAgg146
  z228 := Tryz.sizeOf146
  v228 := Tryz.zeroValue146
  t229 := Tryz.underlying143
  a229 := Tryz.isAgg143
  z229 := Tryz.sizeOf143
  v229 := Tryz.zeroValue143 }
open Go.Sort Go.RowKit in
theorem Tryz.slices_Sort_int (blk off cap : Nat) (zs : List Int) (w : World) (hH : Holds (Value.int .i64) w blk off zs.toArray) (hblk : blk < w.heap.size) (hsz : zs.length < 4611686018427387904) :
    Calls Tryz.prog 46 #[.slice (some ⟨blk, off, none⟩) zs.length cap] w fun e w' =>
      e = .returned (.tuple #[]) ∧ ∃ n os, w' = grow (putRow (Value.int .i64) (Sort.ahead w n) blk off (zs.mergeSort fun x y => decide (x ≤ y)).toArray) os := Any.slices_Sort_int Tryz.lays189 blk off cap zs w hH hblk hsz
def Tryz.laysNm220_ren : Go.Shelf.Ren := ⟨fun | 20 => 47 | n => n, fun | 22 => 32 | 3 => 3 | 4 => 4 | 0 => 0 | n => n, fun | n => n⟩
theorem Tryz.laysNm220 : Go.Proofs.Lays2.n20 Tryz.prog Tryz.laysNm220_ren := {
  mixed := by kernel_rfl
  f20 := Tryz.func47.trans (congrArg some (by kernel_rfl))
  t0 := Tryz.underlying0
  a0 := Tryz.isAgg0
  z0 := Tryz.sizeOf0
  v0 := Tryz.zeroValue0
  t3 := Tryz.underlying3
  a3 := Tryz.isAgg3
  z3 := Tryz.sizeOf3
  v3 := Tryz.zeroValue3
  t4 := Tryz.underlying4
  a4 := Tryz.isAgg4
  z4 := Tryz.sizeOf4
  v4 := Tryz.zeroValue4
  t22 := Tryz.underlying32
  a22 := Tryz.isAgg32
  z22 := Tryz.sizeOf32
  v22 := Tryz.zeroValue32
  i3 := by kernel_rfl }
open Go.RowKit Go.Lib Go.Sort in
theorem Tryz.slices_Compact_int (blk off cap : Nat) (zs : List Int) (w : World) (hH : Holds (Value.int .i64) w blk off zs.toArray) (hsz : zs.length ≤ 9223372036854775807) (hcap : zs.length ≤ cap) :
    Calls Tryz.prog 47 #[.slice (some ⟨blk, off, none⟩) zs.length cap] w fun e w' => e = .returned (.slice (some ⟨blk, off, none⟩) (Lib.compact zs).length cap) ∧ ∃ q, w' = putRow (Value.int .i64) (Sort.ahead w q) blk off (Lib.compact zs ++ List.replicate (zs.length - (Lib.compact zs).length) 0).toArray := Any.slices_Compact_int Tryz.laysNm220 blk off cap zs w hH hsz hcap
open Go.RowKit Go.Lib Go.Sort in
theorem Tryz.slices_Compact_int_empty (a : Option Addr) (cap : Nat) (w : World) :
    Calls Tryz.prog 47 #[.slice a 0 cap] w fun e w' => e = .returned (.slice a 0 cap) ∧ w' = w := Any.slices_Compact_int_empty Tryz.laysNm220 a cap w
open Go.RowKit Go.Lib Go.Sort in
theorem Tryz.slices_Compact_int_cells (b off n c : Nat) (zs : List Int) (w : World) (hz : n ≤ zs.length) (hbig : n ≤ 9223372036854775807) (hcap : n ≤ c) (hc : ∀ j, j < zs.length → w.cell? ⟨b, off + j, none⟩ = some (.int .i64 (zs.getD j 0))) (hf : ∀ j, j < n → w.frozen? ⟨b, off + j, none⟩ = false) :
    Calls Tryz.prog 47 #[.slice (some ⟨b, off, none⟩) n c] w fun e w' => e = .returned (.slice (some ⟨b, off, none⟩) (Lib.compact (zs.take n)).length c) ∧ ∃ q, w' = (w.drewN q).setCells b off ((Lib.compact (zs.take n) ++ List.replicate (n - (Lib.compact (zs.take n)).length) 0).map (Value.int .i64)) := Any.slices_Compact_int_cells Tryz.laysNm220 b off n c zs w hz hbig hcap hc hf
open Go.RowKit Go.Sort in
theorem Tryz.slices_Sort_int_none (p : Option Addr) (cap : Nat) (w : World) :
    Calls Tryz.prog 46 #[.slice p 0 cap] w fun e w' => e = .returned (.tuple #[]) ∧ w' = w := Any.slices_Sort_int_none Tryz.lays189 p cap w
def Tryz.laysN49_ren : Go.Shelf.Ren := ⟨fun | 49 => 64 | 59 => 78 | 60 => 83 | 68 => 95 | n => n, fun | 22 => 53 | 23 => 3 | 3 => 3 | 4 => 4 | 51 => 107 | 0 => 0 | n => n, fun | n => n⟩
theorem Tryz.laysN49 : Go.Proofs.SlLaysN.n49 Tryz.prog Tryz.laysN49_ren := {
  mixed := by kernel_rfl
  f49 := ⟨Tryz.f64.name, by decide, Tryz.func64.trans (congrArg some (by kernel_rfl))⟩
  f59 := ⟨Tryz.f78.name, by decide, Tryz.func78.trans (congrArg some (by kernel_rfl))⟩
  f60 := ⟨Tryz.f83.name, by decide, Tryz.func83.trans (congrArg some (by kernel_rfl))⟩
  f68 := ⟨Tryz.f95.name, by decide, Tryz.func95.trans (congrArg some (by kernel_rfl))⟩
  t0 := Tryz.underlying0
  a0 := Tryz.isAgg0
  z0 := Tryz.sizeOf0
  v0 := Tryz.zeroValue0
  t3 := Tryz.underlying3
  a3 := Tryz.isAgg3
  z3 := Tryz.sizeOf3
  v3 := Tryz.zeroValue3
  t4 := Tryz.underlying4
  a4 := Tryz.isAgg4
  z4 := Tryz.sizeOf4
  v4 := Tryz.zeroValue4
  t22 := Tryz.underlying53
  a22 := Tryz.isAgg53
  z22 := Tryz.sizeOf53
  v22 := Tryz.zeroValue53
  t23 := Tryz.underlying3
  a23 := Tryz.isAgg3
  z23 := Tryz.sizeOf3
  v23 := Tryz.zeroValue3
  t51 := Tryz.underlying107
  a51 := Tryz.isAgg107
  z51 := Tryz.sizeOf107
  v51 := Tryz.zeroValue107 }
open Go.RowKit in
theorem Tryz.slices_BinarySearch_int (b off n c : Nat) (zs : List Int) (x : Int) (w : World) (hz : n ≤ zs.length) (hbig : n < 4611686018427387904) (hc : ∀ j, j < zs.length → w.cell? ⟨b, off + j, none⟩ = some (.int .i64 (zs.getD j 0))) (hs : (zs.take n).Pairwise (· ≤ ·)) :
    Calls Tryz.prog 64 #[.slice (some ⟨b, off, none⟩) n c, .int .i64 x] w fun e w' => e = .returned (.tuple #[.int .i64 ((zs.take n).countP (· < x) : Nat), .bool ((zs.take n).contains x)]) ∧ ∃ q, w' = w.drewN q := AnyG.slices_BinarySearch_int Tryz.laysN49 b off n c zs x w hz hbig hc hs
def Tryz.growI_ren : Go.Shelf.Ren := ⟨fun | 4 => 52 | n => n, fun | 22 => 32 | 25 => 3 | 3 => 3 | 4 => 4 | 9 => 9 | 20 => 20 | 0 => 0 | n => n, fun | n => n⟩
theorem Tryz.growI : Go.Proofs.Lays8.n4 Tryz.prog Tryz.growI_ren := {
  mixed := by kernel_rfl
  f4 := ⟨Tryz.f52.name, by decide, Tryz.func52.trans (congrArg some (by kernel_rfl))⟩
  t0 := Tryz.underlying0
  a0 := Tryz.isAgg0
  z0 := Tryz.sizeOf0
  v0 := Tryz.zeroValue0
  t3 := Tryz.underlying3
  a3 := Tryz.isAgg3
  z3 := Tryz.sizeOf3
  v3 := Tryz.zeroValue3
  t4 := Tryz.underlying4
  a4 := Tryz.isAgg4
  z4 := Tryz.sizeOf4
  v4 := Tryz.zeroValue4
  t9 := Tryz.underlying9
  a9 := Tryz.isAgg9
  z9 := Tryz.sizeOf9
  v9 := Tryz.zeroValue9
  t20 := Tryz.underlying20
  a20 := Tryz.isAgg20
  z20 := Tryz.sizeOf20
  v20 := Tryz.zeroValue20
  t22 := Tryz.underlying32
  a22 := Tryz.isAgg32
  z22 := Tryz.sizeOf32
  v22 := Tryz.zeroValue32 }
end Go.Proofs

/- Numbers rising, each once: by inserting, and by sorting and taking equals out; how often each stands. -/
namespace Go.Proofs.YtbaphgdlbeaenaaGreat

theorem lt_ext : ∀ {a b : List Int}, a.Pairwise (· < ·) → b.Pairwise (· < ·) → (∀ x, x ∈ a ↔ x ∈ b) → a = b
  | [], [], _, _, _ => rfl
  | [], y :: r, _, _, h => by simpa using (h y).2 (by simp)
  | x :: r, [], _, _, h => by simpa using (h x).1 (by simp)
  | x :: r, y :: s, ha, hb, h => by
    rw [List.pairwise_cons] at ha hb
    have hxy : x = y := by
      rcases List.mem_cons.1 ((h x).1 (by simp)) with e | e
      · exact e
      · rcases List.mem_cons.1 ((h y).2 (by simp)) with e' | e'
        · exact e'.symm
        · have := hb.1 x e; have := ha.1 y e'; omega
    subst hxy
    have : r = s := lt_ext ha.2 hb.2 (fun z => by
      constructor
      · intro hz
        rcases List.mem_cons.1 ((h z).1 (List.mem_cons_of_mem _ hz)) with e | e
        · subst e; have := ha.1 z hz; omega
        · exact e
      · intro hz
        rcases List.mem_cons.1 ((h z).2 (List.mem_cons_of_mem _ hz)) with e | e
        · subst e; have := hb.1 z hz; omega
        · exact e)
    rw [this]

/-- a number put in its place, if it isn't there -/
def insN (x : Int) : List Int → List Int
  | [] => [x]
  | y :: r => if x < y then x :: y :: r else if x = y then y :: r else y :: insN x r
def risN (l : List Int) : List Int := l.foldl (fun acc x => insN x acc) []
theorem insN_mem (x z : Int) : ∀ l : List Int, z ∈ insN x l ↔ z = x ∨ z ∈ l
  | [] => by simp [insN]
  | y :: r => by
    unfold insN
    split
    · simp
    · split
      · rename_i h; subst h; simp
      · rw [List.mem_cons, insN_mem x z r, List.mem_cons]
        constructor
        · rintro (h | h | h)
          · exact .inr (.inl h)
          · exact .inl h
          · exact .inr (.inr h)
        · rintro (h | h | h)
          · exact .inr (.inl h)
          · exact .inl h
          · exact .inr (.inr h)
theorem insN_lt (x : Int) : ∀ {l : List Int}, l.Pairwise (· < ·) → (insN x l).Pairwise (· < ·)
  | [], _ => by simp [insN]
  | y :: r, h => by
    rw [List.pairwise_cons] at h
    unfold insN
    split
    · rw [List.pairwise_cons, List.pairwise_cons]
      exact ⟨fun z hz => by
        rcases List.mem_cons.1 hz with e | e
        · omega
        · have := h.1 z e; omega, h⟩
    · split
      · rw [List.pairwise_cons]; exact h
      · rw [List.pairwise_cons]
        exact ⟨fun z hz => by
          rcases (insN_mem x z r).1 hz with e | e
          · omega
          · exact h.1 z e, insN_lt x h.2⟩
theorem insN_len (x : Int) : ∀ l : List Int, (insN x l).length ≤ l.length + 1
  | [] => by simp [insN]
  | y :: r => by
    unfold insN
    split
    · simp
    · split
      · simp
      · have := insN_len x r; simp; omega
theorem risN_snoc (l : List Int) (x : Int) : risN (l ++ [x]) = insN x (risN l) := by simp [risN, List.foldl_append]
theorem ind_snoc {P : List Int → Prop} (h0 : P []) (h1 : ∀ l x, P l → P (l ++ [x])) : ∀ l, P l := fun l => by
  have : ∀ r : List Int, P r.reverse := fun r => by
    induction r with
    | nil => exact h0
    | cons x r ih => rw [List.reverse_cons]; exact h1 _ _ ih
  have h := this l.reverse
  rwa [List.reverse_reverse] at h
theorem risN_mem (l : List Int) (z : Int) : z ∈ risN l ↔ z ∈ l := by
  induction l using ind_snoc with
  | h0 => simp [risN]
  | h1 l x ih => rw [risN_snoc, insN_mem, ih]; simp [or_comm]
theorem risN_lt (l : List Int) : (risN l).Pairwise (· < ·) := by
  induction l using ind_snoc with
  | h0 => simp [risN]
  | h1 l x ih => rw [risN_snoc]; exact insN_lt x ih
theorem risN_len (l : List Int) : (risN l).length ≤ l.length := by
  induction l using ind_snoc with
  | h0 => simp [risN]
  | h1 l x ih => rw [risN_snoc]; have := insN_len x (risN l); simp; omega
theorem risN_eq {l s : List Int} (h : s.Pairwise (· < ·)) (hm : ∀ x, x ∈ s ↔ x ∈ l) : risN l = s := lt_ext (risN_lt l) h (fun x => by rw [risN_mem, hm])
theorem risN_congr {l m : List Int} (h : ∀ x, x ∈ l ↔ x ∈ m) : risN l = risN m := risN_eq (risN_lt m) (fun x => by rw [risN_mem, h])
/-- where a number goes -/
theorem insN_at (x : Int) : ∀ (l : List Int) (k : Nat), k ≤ l.length → (∀ j, j < k → l.getD j 0 < x) → (k < l.length → x ≤ l.getD k 0) → insN x l = if k < l.length ∧ l.getD k 0 = x then l else l.take k ++ x :: l.drop k
  | [], k, hk, _, _ => by
    have : k = 0 := by simpa using hk
    subst this; simp [insN]
  | y :: r, 0, _, _, h => by
    have h := h (by simp)
    simp [List.getD] at h
    unfold insN
    by_cases e : x = y
    · subst e; simp [List.getD]
    · rw [if_pos (by omega), if_neg (by simp [List.getD]; omega)]; simp
  | y :: r, k + 1, hk, hj, h => by
    have h0 := hj 0 (by omega)
    simp [List.getD] at h0
    have ih := insN_at x r k (by simpa using hk) (fun j hjk => by have := hj (j + 1) (by omega); simpa [List.getD] using this) (fun hkl => by have := h (by simpa using hkl); simpa [List.getD] using this)
    unfold insN
    rw [if_neg (by omega), if_neg (by omega), ih]
    have e1 : (y :: r).getD (k + 1) 0 = r.getD k 0 := by simp [List.getD]
    rw [e1]
    by_cases c : k < r.length ∧ r.getD k 0 = x
    · rw [if_pos c, if_pos ⟨by simpa using c.1, c.2⟩]
    · rw [if_neg c, if_neg (fun h => c ⟨by simpa using h.1, h.2⟩)]; simp

/- by sorting and taking equals out -/
theorem pair_le {l : List Int} (h : l.Pairwise (· ≤ ·)) {i j : Nat} (hij : i < j) (hj : j < l.length) : l[i]'(by omega) ≤ l[j] := List.pairwise_iff_getElem.1 h i j (by omega) hj hij
theorem compact_up {l : List Int} (h : l.Pairwise (· ≤ ·)) : ∀ m, m ≤ l.length → (Go.Lib.compactUpTo l.toArray m).Pairwise (· < ·) ∧ (∀ x, x ∈ Go.Lib.compactUpTo l.toArray m ↔ x ∈ l.take m)
  | 0, _ => by simp [Go.Lib.compactUpTo]
  | m + 1, hm => by
    obtain ⟨h1, h2⟩ := compact_up h m (by omega)
    have e : l.take (m + 1) = l.take m ++ [l[m]] := List.take_succ_eq_append_getElem (by omega)
    have em : l.toArray[m]! = l[m] := by simp [getElem!_pos, show m < l.length by omega]
    have low : ∀ x, x ∈ l.take m → x ≤ l[m] := fun x hx => by
      obtain ⟨i, hi, rfl⟩ := List.getElem_of_mem hx
      rw [List.length_take] at hi
      rw [List.getElem_take]
      exact pair_le h (by omega) (by omega)
    rw [Go.Lib.compactUpTo_succ]
    by_cases hk : Go.Lib.keeps l.toArray m = true
    · rw [if_pos hk, em]
      have hlt : ∀ x, x ∈ l.take m → x < l[m] := fun x hx => by
        obtain ⟨i, hi, rfl⟩ := List.getElem_of_mem hx
        rw [List.length_take] at hi
        rw [List.getElem_take]
        simp only [Go.Lib.keeps, decide_eq_true_eq] at hk
        rcases hk with hk | hk
        · omega
        · have em1 : l.toArray[m - 1]! = l[m - 1]'(by omega) := by simp [getElem!_pos, show m - 1 < l.length by omega]
          rw [em, em1] at hk
          have a1 : l[m - 1]'(by omega) ≤ l[m] := pair_le h (by omega) (by omega)
          have a2 : l[i]'(by omega) ≤ l[m - 1]'(by omega) := by
            by_cases e : i = m - 1
            · subst e; exact Int.le_refl _
            · exact pair_le h (by omega) (by omega)
          omega
      constructor
      · rw [List.pairwise_append]
        exact ⟨h1, by simp, fun x hx y hy => by
          simp at hy; subst hy
          exact hlt x ((h2 x).1 hx)⟩
      · intro x
        rw [e, List.mem_append, List.mem_append, h2]
    · rw [if_neg hk, List.append_nil]
      refine ⟨h1, fun x => ?_⟩
      rw [e, List.mem_append, h2]
      constructor
      · exact .inl
      · rintro (hx | hx)
        · exact hx
        · simp at hx; subst hx
          have hk2 : ¬ (m = 0 ∨ l.toArray[m]! ≠ l.toArray[m - 1]!) := fun hh => hk (by simpa [Go.Lib.keeps] using hh)
          have hm0 : m ≠ 0 := fun e => hk2 (.inl e)
          have he : l.toArray[m]! = l.toArray[m - 1]! := Classical.byContradiction fun hh => hk2 (.inr hh)
          have em1 : l.toArray[m - 1]! = l[m - 1]'(by omega) := by simp [getElem!_pos, show m - 1 < l.length by omega]
          rw [em, em1] at he
          rw [he]
          exact List.mem_take_iff_getElem.2 ⟨m - 1, by omega, rfl⟩
theorem compact_sort (l : List Int) : Go.Lib.compact (l.mergeSort fun x y => decide (x ≤ y)) = risN l := by
  have hs : (l.mergeSort fun x y => decide (x ≤ y)).Pairwise (· ≤ ·) := by
    have := List.pairwise_mergeSort (le := fun x y : Int => decide (x ≤ y)) (fun a b c h1 h2 => by simp at *; omega) (fun a b => by simp; omega) l
    exact this.imp (fun h => by simpa using h)
  obtain ⟨h1, h2⟩ := compact_up hs _ (Nat.le_refl _)
  symm
  refine risN_eq h1 (fun x => ?_)
  unfold Go.Lib.compact
  rw [h2, List.take_length, List.mem_mergeSort]

/- where a number of a rising list stands; how often each stands in another list -/
theorem lt_count {s : List Int} (hs : s.Pairwise (· < ·)) : ∀ {k : Nat} (hk : k < s.length), s.countP (· < s[k]) = k := by
  induction s with
  | nil => intro k hk; simp at hk
  | cons y r ih =>
    rw [List.pairwise_cons] at hs
    intro k hk
    cases k with
    | zero =>
      rw [List.countP_eq_zero]
      intro z hz
      simp
      rcases List.mem_cons.1 hz with e | e
      · omega
      · have := hs.1 z e; omega
    | succ k =>
      simp only [List.getElem_cons_succ]
      rw [List.countP_cons, ih hs.2 (by simpa using hk)]
      have : y < r[k]'(by simpa using hk) := hs.1 _ (List.getElem_mem _)
      simp [this]
theorem lt_find {s : List Int} (hs : s.Pairwise (· < ·)) {n : Int} (hn : n ∈ s) : ∃ hk : s.countP (· < n) < s.length, s[s.countP (· < n)] = n := by
  obtain ⟨k, hk, rfl⟩ := List.getElem_of_mem hn
  have := lt_count hs hk
  exact ⟨by omega, by simp only [this]⟩
def cntN (s m : List Int) : List Int := s.map fun x => ((m.count x : Nat) : Int)
theorem cntN_len (s m : List Int) : (cntN s m).length = s.length := by simp [cntN]
theorem cntN_nil (s : List Int) : cntN s [] = List.replicate s.length 0 := by
  unfold cntN
  rw [List.eq_replicate_iff]
  exact ⟨by simp, fun x hx => by simp at hx; exact hx.2.symm⟩
theorem cntN_get {s : List Int} (m : List Int) {k : Nat} (hk : k < s.length) : (cntN s m).getD k 0 = ((m.count s[k] : Nat) : Int) := by simp [cntN, List.getD, hk]
theorem cntN_bound (s m : List Int) (k : Nat) : 0 ≤ (cntN s m).getD k 0 ∧ (cntN s m).getD k 0 ≤ m.length := by
  by_cases hk : k < s.length
  · rw [cntN_get m hk]
    have := List.count_le_length (a := s[k]) (l := m)
    omega
  · have : (cntN s m).getD k 0 = 0 := by simp [List.getD, cntN, List.getElem?_eq_none (show s.length ≤ k by omega)]
    rw [this]; omega
theorem cntN_skip {s : List Int} (m : List Int) {n : Int} (hn : n ∉ s) : cntN s (m ++ [n]) = cntN s m := by
  unfold cntN
  apply List.map_congr_left
  intro x hx
  have : n ≠ x := fun e => hn (e ▸ hx)
  rw [List.count_append, List.count_singleton, if_neg (by simpa using this)]
  simp
theorem cntN_step {s : List Int} (hs : s.Pairwise (· < ·)) (m : List Int) {k : Nat} (hk : k < s.length) : cntN s (m ++ [s[k]]) = (cntN s m).set k ((cntN s m).getD k 0 + 1) := by
  rw [cntN_get m hk]
  apply List.ext_getElem
  · simp [cntN]
  · intro i h1 h2
    have hi : i < s.length := by simpa [cntN] using h1
    rw [List.getElem_set]
    by_cases e : k = i
    · subst e
      simp [cntN, List.count_append]
    · rw [if_neg e]
      have hne : s[k] ≠ s[i] := fun h => by
        have a := lt_count hs hk
        have b := lt_count hs hi
        rw [h] at a; omega
      simp [cntN, List.count_append, List.count_singleton, hne]

/- what is in none of some lists -/
def goneN (l : List Int) (ms : List (List Int)) : List Int := risN (l.filter fun x => !(ms.any fun m => m.contains x))
theorem goneN_eq (l : List Int) (ms : List (List Int)) : (risN l).filter (fun x => decide ((ms.flatten).count x = 0)) = goneN l ms := by
  unfold goneN
  symm
  refine risN_eq ((risN_lt l).filter _) (fun x => ?_)
  rw [List.mem_filter, List.mem_filter, risN_mem]
  simp only [decide_eq_true_eq, List.count_eq_zero, List.mem_flatten]
  constructor
  · rintro ⟨h1, h2⟩
    refine ⟨h1, ?_⟩
    simp only [Bool.not_eq_true', List.any_eq_false, List.contains_iff_mem]
    exact fun m hm hx => h2 ⟨m, hm, hx⟩
  · rintro ⟨h1, h2⟩
    simp only [Bool.not_eq_true', List.any_eq_false, List.contains_iff_mem] at h2
    exact ⟨h1, fun ⟨m, hm, hx⟩ => h2 m hm hx⟩
theorem goneN_congr {l l' : List Int} {ms ms' : List (List Int)} (h : ∀ x, x ∈ l ↔ x ∈ l') (hm : ∀ x, (∃ m ∈ ms, x ∈ m) ↔ ∃ m ∈ ms', x ∈ m) : goneN l ms = goneN l' ms' := by
  unfold goneN
  apply risN_congr
  intro x
  rw [List.mem_filter, List.mem_filter, h]
  have := hm x
  simp only [Bool.not_eq_true', List.any_eq_false, List.contains_iff_mem]
  constructor
  · rintro ⟨h1, h2⟩
    exact ⟨h1, fun m hmm hx => by
      obtain ⟨m', a, b⟩ := this.2 ⟨m, hmm, hx⟩
      exact h2 m' a b⟩
  · rintro ⟨h1, h2⟩
    exact ⟨h1, fun m hmm hx => by
      obtain ⟨m', a, b⟩ := this.1 ⟨m, hmm, hx⟩
      exact h2 m' a b⟩
theorem goneN_len (l : List Int) (ms : List (List Int)) : (goneN l ms).length ≤ l.length := by
  unfold goneN
  exact Nat.le_trans (risN_len _) (List.length_filter_le _ _)

end Go.Proofs.YtbaphgdlbeaenaaGreat
