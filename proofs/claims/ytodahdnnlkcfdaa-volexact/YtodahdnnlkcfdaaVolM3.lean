/- Laid together: Rowv, Weight, Weightw, Heavy, Open, Find. -/
import Derived.Test.YtodahdnnlkcfdaaVolM2
import Derived.Test.YtodahdnnlkcfdaaRows
import Derived.Test.YtodahdnnlkcfdaaChecked
import Derived.ProofKit
import Derived.SizedLaws
import Derived.Lib.SmallJoins
import Derived.Deep.Slices
/- Rows of volumes in memory: read, and owned. -/
namespace Go.Proofs.Ytodahdnnlkcfdaa
open Go.RowKit

abbrev VZ : VolD := Go.Proofs.Ytodahdnnlkcfdaa.v0
def VolIn (w : World) (b o : Nat) (d : VolD) : Prop := ∃ a c, (w.cell? ⟨b, o, none⟩ = some (.int .i64 d.id) ∧ w.cell? ⟨b, o + 1, none⟩ = some (.int .i64 d.fr) ∧ w.cell? ⟨b, o + 2, none⟩ = some (.bool d.snap) ∧ w.cell? ⟨b, o + 3, none⟩ = some (.slice a d.files.length c) ∧ w.cell? ⟨b, o + 4, none⟩ = some (.int .i64 d.next)) ∧ FilesAt w a d.files ∧ CapOk a c d.files.length
def VolsAt (w : World) (a : Option Addr) (ds : List VolD) : Prop :=
  ds = [] ∨ ∃ b o, a = some ⟨b, o, none⟩ ∧ ∀ i, i < ds.length → VolIn w b (o + i * 5) (ds.getD i VZ)
theorem VolIn.below {w w' : World} {b o : Nat} {d : VolD} (h : VolIn w b o d) (hb : Below w.heap.size w w') : VolIn w' b o d := by
  obtain ⟨a, c, ⟨h0, h1, h2, h3, h4⟩, hf, hc⟩ := h
  have hlt := block_lt_of_cell h0
  exact ⟨a, c, ⟨(hb.cell (p := ⟨b, o, none⟩) hlt).trans h0, (hb.cell (p := ⟨b, o + 1, none⟩) hlt).trans h1, (hb.cell (p := ⟨b, o + 2, none⟩) hlt).trans h2, (hb.cell (p := ⟨b, o + 3, none⟩) hlt).trans h3, (hb.cell (p := ⟨b, o + 4, none⟩) hlt).trans h4⟩, hf.below hb, hc⟩
theorem VolsAt.vol {w : World} {a : Option Addr} {ds : List VolD} (h : VolsAt w a ds) {i : Nat} (hi : i < ds.length) : ∃ b o, a = some ⟨b, o, none⟩ ∧ VolIn w b (o + i * 5) (ds.getD i VZ) := by
  rcases h with rfl | ⟨b, o, rfl, hc⟩
  · simp at hi
  · exact ⟨b, o, rfl, hc i hi⟩
theorem VolsAt.below {w w' : World} {a : Option Addr} {ds : List VolD} (h : VolsAt w a ds) (hb : Below w.heap.size w w') : VolsAt w' a ds := by
  rcases h with rfl | ⟨b, o, rfl, hc⟩
  · exact .inl rfl
  · exact .inr ⟨b, o, rfl, fun i hi => (hc i hi).below hb⟩
theorem VolIn.val {w : World} {b o : Nat} {d : VolD} (h : VolIn w b o d) : ∃ a c, (w.cell? ⟨b, o, none⟩ = some (.int .i64 d.id) ∧ w.cell? ⟨b, o + 1, none⟩ = some (.int .i64 d.fr) ∧ w.cell? ⟨b, o + 2, none⟩ = some (.bool d.snap) ∧ w.cell? ⟨b, o + 3, none⟩ = some (.slice a d.files.length c) ∧ w.cell? ⟨b, o + 4, none⟩ = some (.int .i64 d.next)) ∧ VolVal w (.agg #[.int .i64 d.id, .int .i64 d.fr, .bool d.snap, .slice a d.files.length c, .int .i64 d.next]) d := by
  obtain ⟨a, c, hc, hf, hk⟩ := h
  exact ⟨a, c, hc, a, c, rfl, hf, hk⟩
theorem VolsAt.take {w : World} {a : Option Addr} {ds : List VolD} (h : VolsAt w a ds) (k : Nat) : VolsAt w a (ds.take k) := by
  rcases h with rfl | ⟨b, o, rfl, hc⟩
  · exact .inl (by simp)
  · refine .inr ⟨b, o, rfl, fun i hi => ?_⟩
    rw [List.length_take] at hi
    have e : (ds.take k).getD i VZ = ds.getD i VZ := by simp only [List.getD]; rw [List.getElem?_take_of_lt (by omega)]
    rw [e]; exact hc i (by omega)
theorem VolsAt.drop {w : World} {b o : Nat} {ds : List VolD} (h : VolsAt w (some ⟨b, o, none⟩) ds) (k : Nat) : VolsAt w (some ⟨b, o + k * 5, none⟩) (ds.drop k) := by
  rcases h with rfl | ⟨b', o', e, hc⟩
  · exact .inl (by simp)
  · injection e with e
    injection e with e1 e2
    subst e1; subst e2
    refine .inr ⟨b, o + k * 5, rfl, fun i hi => ?_⟩
    rw [List.length_drop] at hi
    have e : (ds.drop k).getD i VZ = ds.getD (k + i) VZ := by simp [List.getD]
    rw [e, show o + k * 5 + i * 5 = o + (k + i) * 5 from by omega]
    exact hc (k + i) (by omega)

structure VV where
  d : VolD
  fv : Value
def vflat (gs : List VV) : List Value := gs.flatMap fun g => [.int .i64 g.d.id, .int .i64 g.d.fr, .bool g.d.snap, g.fv, .int .i64 g.d.next]
/-- volumes in memory of one's own -/
def OwnVols (w : World) (base : Nat) (v : Value) (ds : List VolD) : Prop := ∃ gs : List VV, gs.map VV.d = ds ∧ w.ownsRow base 32 5 v gs.length (vflat gs) ∧ ∀ g ∈ gs, OwnFiles w base g.fv g.d.files
def SmallW (ds : List VolD) : Prop := ds.length ≤ 100000 ∧ ∀ d ∈ ds, SmallV d

theorem vflat_get (gs : List VV) : ∀ i g, gs[i]? = some g → (vflat gs)[i * 5]? = some (.int .i64 g.d.id) ∧ (vflat gs)[i * 5 + 1]? = some (.int .i64 g.d.fr) ∧ (vflat gs)[i * 5 + 2]? = some (.bool g.d.snap) ∧ (vflat gs)[i * 5 + 3]? = some g.fv ∧ (vflat gs)[i * 5 + 4]? = some (.int .i64 g.d.next) := by
  induction gs with
  | nil => intro i g h; simp at h
  | cons x xs ih =>
    intro i g h
    have e : vflat (x :: xs) = .int .i64 x.d.id :: .int .i64 x.d.fr :: .bool x.d.snap :: x.fv :: .int .i64 x.d.next :: vflat xs := by simp [vflat]
    rw [e]
    cases i with
    | zero => simp at h; subst h; simp
    | succ i =>
      have h' : xs[i]? = some g := by simpa using h
      have h2 := ih i g h'
      rw [show (i + 1) * 5 = i * 5 + 1 + 1 + 1 + 1 + 1 from by omega]
      simp only [List.getElem?_cons_succ]
      exact h2
theorem vflat_snoc (gs : List VV) (g : VV) : vflat (gs ++ [g]) = vflat gs ++ [.int .i64 g.d.id, .int .i64 g.d.fr, .bool g.d.snap, g.fv, .int .i64 g.d.next] := by simp [vflat]
theorem vflat_len (gs : List VV) : (vflat gs).length = gs.length * 5 := by
  induction gs with
  | nil => rfl
  | cons x xs ih => simp only [vflat, List.flatMap_cons, List.length_append, List.length_cons, List.length_nil] at *; omega
theorem OwnVols.below {w w' : World} {base : Nat} {v : Value} {ds : List VolD} (h : OwnVols w base v ds) (hb : Below w.heap.size w w') : OwnVols w' base v ds := by
  obtain ⟨gs, e, ho, hg⟩ := h
  exact ⟨gs, e, own_below ho hb, fun g hm => (hg g hm).below hb⟩
theorem OwnVols.le {w : World} {base base' : Nat} {v : Value} {ds : List VolD} (h : OwnVols w base v ds) (hb : base' ≤ base) : OwnVols w base' v ds := by
  obtain ⟨gs, e, ho, hg⟩ := h
  exact ⟨gs, e, own_le ho hb, fun g hm => (hg g hm).le hb⟩
theorem OwnVols.set {w : World} {base : Nat} {v : Value} {ds : List VolD} (h : OwnVols w base v ds) {g : Nat} (o : Nat) (hg : g < base) (u : Value) : OwnVols (w.setCell ⟨g, o, none⟩ u) base v ds := by
  obtain ⟨gs, e, ho, ha⟩ := h
  exact ⟨gs, e, rowset ho o hg u, fun x hx => (ha x hx).set o hg u⟩
theorem addr_add (g j : Nat) : (⟨g, 0, none⟩ : Addr).add j = ⟨g, 0 + j, none⟩ := by unfold Addr.add; split <;> simp_all
theorem OwnVols.at {w : World} {base : Nat} {v : Value} {ds : List VolD} (h : OwnVols w base v ds) : ∃ a cap, v = .slice a ds.length cap ∧ VolsAt w a ds ∧ CapOk a cap ds.length := by
  obtain ⟨gs, rfl, ho, hg⟩ := h
  have hh := ho
  rw [List.length_map]
  rcases ho.2 with ⟨hv, hn⟩ | ⟨g, cap, cur, hv, hb, _, hnc, _⟩
  · exact ⟨none, 0, by rw [hv, hn], .inl (by rw [List.length_eq_zero_iff.1 hn]; rfl), by omega, (fun _ => rfl), (fun p e => by cases e)⟩
  · refine ⟨_, cap, hv, .inr ⟨g, 0, rfl, fun i hi => ?_⟩, hnc, (fun e => by cases e), (fun p e _ => by injection e with e; rw [← e])⟩
    rw [List.length_map] at hi
    obtain ⟨c0, c1, c2, c3, c4⟩ := vflat_get gs i _ (List.getElem?_eq_getElem hi)
    have hm := hg gs[i] (List.getElem_mem hi)
    obtain ⟨ab, cb, eb, hib, kib⟩ := hm.at
    have hgd : (gs.map VV.d).getD i VZ = gs[i].d := by simp [List.getD, hi]
    rw [hgd]
    have K : ∀ j u, (vflat gs)[j]? = some u → w.cell? ⟨g, 0 + j, none⟩ = some u := fun j u hj => by
      have := hh.cells (g := g) (by rw [hv]; rfl) j u hj
      rwa [addr_add] at this
    rw [eb] at c3
    exact ⟨ab, cb, ⟨K _ _ c0, by have := K _ _ c1; rwa [← Nat.add_assoc] at this, by have := K _ _ c2; rwa [← Nat.add_assoc] at this, by have := K _ _ c3; rwa [← Nat.add_assoc] at this, by have := K _ _ c4; rwa [← Nat.add_assoc] at this⟩, hib, kib⟩
theorem OwnVols.snoc {w : World} {base : Nat} {v : Value} {gs : List VV} {g : VV} (hg : ∀ x ∈ gs, OwnFiles w base x.fv x.d.files) (h1 : OwnFiles w base g.fv g.d.files)
    (h : w.ownsRow base 32 5 v (gs.length + 1) (vflat gs ++ [.int .i64 g.d.id, .int .i64 g.d.fr, .bool g.d.snap, g.fv, .int .i64 g.d.next])) : OwnVols w base v (gs.map VV.d ++ [g.d]) := by
  refine ⟨gs ++ [g], by simp, ?_, ?_⟩
  · rw [vflat_snoc, List.length_append]; exact h
  · intro x hx
    rcases List.mem_append.1 hx with h2 | h2
    · exact hg x h2
    · simp at h2; subst h2; exact h1
theorem OwnFiles.grown {w w' : World} {base B' : Nat} {v : Value} {fs : List FileD} {m : Nat} {ys : List Value} {u : Value} (h : OwnFiles w base v fs) (hu : w.ownsRow B' 32 5 u m ys) (hg : w.grownBy w' u.ownBlock) : OwnFiles w' base v fs := by
  obtain ⟨gs, e, ho, ha⟩ := h
  exact ⟨gs, e, own_other ho hu (by decide) hg, fun x hx => ⟨own_other (ha x hx).1 hu (by decide) hg, own_other (ha x hx).2 hu (by decide) hg⟩⟩
theorem Try.info32 : (Try.prog.info? 32).map (fun i => (i.zero, i.size, i.bytes)) = some (some (.agg #[.int .i64 0, .int .i64 0, .bool false, .slice none 0 0, .int .i64 0]), 5, 56) := by kernel_rfl

end Go.Proofs.Ytodahdnnlkcfdaa

/- How much a volume is: what is not heavy is small. -/
namespace Go.Proofs.Ytodahdnnlkcfdaa
open Go.RowKit

/-- as great as anything may be that comes in -/
def LooseF (f : FileD) : Prop := f.blocks.length ≤ 35184372088832 ∧ f.list.length ≤ 35184372088832 ∧ ∀ l ∈ f.list, l.1.size ≤ 140737488355328
def LooseV (d : VolD) : Prop := d.files.length ≤ 35184372088832 ∧ ∀ f ∈ d.files, LooseF f
def FitF (N : Nat) (f : FileD) : Prop := f.blocks.length + f.list.length ≤ N ∧ (N < 1048576 → ∀ l ∈ f.list, l.1.size / 4 ≤ N)
theorem FitF.mono {N M : Nat} {f : FileD} (h : FitF N f) (hM : N ≤ M) : FitF M f := ⟨by have := h.1; omega, fun hh l hl => by have := h.2 (by omega) l hl; omega⟩
def FitV (N : Nat) (d : VolD) : Prop := N ≤ 281474976710656 ∧ (N < 1048576 → d.files.length ≤ N ∧ ∀ f ∈ d.files, FitF N f)

set_option maxRecDepth 100000 in
set_option maxHeartbeats 2000000 in
theorem volWeight_any (v : Value) (d : VolD) (w : World) (hv : VolVal w v d) (hs : LooseV d) :
    Calls Try.prog 25 #[v] w fun e w' => (∃ N : Nat, e = .returned (.int .i64 N) ∧ Hid (FitV N d)) ∧ Below w.heap.size w w' := by
  obtain ⟨a, ca, rfl, hfs, _⟩ := hv
  have HF : Hid (FilesAt w a d.files) := hfs
  clear hfs
  obtain ⟨vid, fr, snap, fs, next⟩ := d
  simp only [LooseV] at *
  obtain ⟨hl, hs2⟩ := hs
  have HS : Hid (∀ f ∈ fs, LooseF f) := hs2
  clear hs2
  go_enter Try.func25, Try.ntmps25
  go_wp2_with fail
  obtain ⟨W0, hW0⟩ : ∃ W0, W0 = w.alloc (.cells #[.int .i64 vid, .int .i64 fr, .bool snap, .slice a fs.length ca, .int .i64 next] 32) := ⟨_, rfl⟩
  have HB0 : Hid (Below w.heap.size w W0) := by rw [hW0]; exact nwA (nwR w) _
  have HF0 : Hid (FilesAt W0 a fs) := HF.out.below HB0.out
  have HBX : Hid (W0.heap[w.heap.size]? = some (.cells #[.int .i64 vid, .int .i64 fr, .bool snap, .slice a fs.length ca, .int .i64 next] 32 (0, 0))) := by rw [hW0]; exact heap_alloc_new w _
  rw [← hW0]
  clear hW0 HF
  go_loopw [3, 4] (fun n i wr => ∃ (k N : Nat), k ≤ fs.length ∧ i = .int .i64 k ∧ n = .int .i64 N ∧ N ≤ 281474976710656 ∧ Hid (fs.length ≤ N ∧ ∀ j, j < k → FitF N (fs.getD j f0)) ∧ Below W0.heap.size W0 wr)
    (fun _ i _ => fs.length - (intOf i).toNat)
  case atStart => exact ⟨0, fs.length, by omega, rfl, rfl, by omega, ⟨by omega, fun j hj => by omega⟩, nwR W0⟩
  case round =>
    obtain ⟨k, N, hk, rfl, rfl, hN, HE, hb⟩ := hrel
    have HBW : Hid (Below w.heap.size w wr) := nwT HB0.out hb
    obtain ⟨_, _, _, x3, _, _⟩ := five ((hb.block _ (Array.getElem?_eq_some_iff.1 HBX.out).1).trans HBX.out)
    by_cases hlt : k < fs.length
    · have hlti : (k : Int) < (fs.length : Int) := by omega
      by_cases hN2 : N < 1048576
      · have hNi : (N : Int) < 1048576 := by omega
        obtain ⟨b1, o1, rfl, hf⟩ := (HF0.out.below hb).file hlt
        obtain ⟨ab, cb, al, cl, ⟨_, _, _, c3, c4⟩, _, hli, _⟩ := hf
        have hlo := HS.out (fs.getD k f0) (by simp [List.getD, hlt])
        have HLI : Hid (LinksAt wr al (fs.getD k f0).list) := hli
        have HFK : Hid (∀ M, N ≤ M → FitF M (fs.getD k f0) → fs.length ≤ M ∧ ∀ j, j < k + 1 → FitF M (fs.getD j f0)) := fun M hM h => ⟨by have := HE.out.1; omega, fun j hj => by
          by_cases e : j = k
          · subst e; exact h
          · exact (HE.out.2 j (by omega)).mono hM⟩
        generalize fs.getD k f0 = f at c3 c4 hlo HLI HFK
        obtain ⟨fid, fdir, fsize, fbl, fli⟩ := f
        simp only [LooseF] at c3 c4 hlo HLI
        obtain ⟨hl1, hl2, hl3⟩ := hlo
        have HSZ : Hid (∀ l ∈ fli, l.1.size ≤ 140737488355328) := hl3
        clear hli hl3
        go_wp2_with fail
        have e1 : IntKind.i64.wrap ((N : Int) + (fbl.length : Int)) = (N : Int) + (fbl.length : Int) := wrap_any (by omega) (by omega)
        have e2 : IntKind.i64.wrap ((N : Int) + (fbl.length : Int) + (fli.length : Int)) = (N : Int) + (fbl.length : Int) + (fli.length : Int) := wrap_any (by omega) (by omega)
        go_quiet (fail)
        clear e1 e2
        have eP : (N : Int) + (fbl.length : Int) + (fli.length : Int) = ((N + fbl.length + fli.length : Nat) : Int) := by omega
        rw [eP]
        clear eP
        generalize hP : N + fbl.length + fli.length = P
        have hP1 : N ≤ P := by omega
        have hP2 : fbl.length + fli.length ≤ P := by omega
        have hP3 : P ≤ 140737488355328 := by omega
        clear hP
        go_wp2_with fail
        go_loop [3, 5] (fun n i => ∃ (j M : Nat), j ≤ fli.length ∧ i = .int .i64 j ∧ n = .int .i64 M ∧ P ≤ M ∧ M ≤ 281474976710656 ∧ Hid (∀ t, t < j → (fli.getD t lk0).1.size / 4 ≤ M))
          (fun _ i => fli.length - (intOf i).toNat)
        case atStart => exact ⟨0, P, by omega, rfl, rfl, by omega, by omega, fun t ht => by omega⟩
        case round =>
          obtain ⟨j, M, hj, rfl, rfl, hM1, hM2, HT⟩ := hrel
          by_cases hjl : j < fli.length
          · have hjli : (j : Int) < (fli.length : Int) := by omega
            by_cases hM3 : M < 1048576
            · have hMi : (M : Int) < 1048576 := by omega
              obtain ⟨b2, o2, rfl, d1, _⟩ := HLI.out.cell hjl
              have hsz := HSZ.out (fli.getD j lk0) (by simp [List.getD, hjl])
              have HT2 : Hid (∀ t, t < j + 1 → (fli.getD t lk0).1.size / 4 ≤ M + (fli.getD j lk0).1.size / 4) := fun t ht => by
                by_cases e : t = j
                · subst e; omega
                · have := HT.out t (by omega); omega
              generalize (fli.getD j lk0).1 = nme at d1 hsz HT2
              go_wp2_with fail
              go_round
              case rel => exact ⟨j + 1, M + nme.size / 4, by omega, by go_num, by first | rfl | (congr 1; omega), by omega, by omega, HT2⟩
              case measure => simp [intOf]; omega
            · have hMi : ¬ (M : Int) < 1048576 := by omega
              go_wp2_with fail
              go_roundw
              case rel => exact ⟨k + 1, M, by omega, by go_num, rfl, hM2, HFK.out M (by omega) ⟨by show fbl.length + fli.length ≤ M; omega, fun h => absurd h hM3⟩, below_drewN hb _⟩
              case measure => simp [intOf]; omega
          · have hjli : ¬ (j : Int) < (fli.length : Int) := by omega
            go_wp2_with fail
            go_roundw
            case rel => exact ⟨k + 1, M, by omega, by go_num, rfl, hM2, HFK.out M (by omega) ⟨by show fbl.length + fli.length ≤ M; omega, fun _ l hl => by
              have hl2 : l ∈ fli := hl
              obtain ⟨t, ht, rfl⟩ := List.getElem_of_mem hl2
              have := HT.out t (by omega)
              simpa [List.getD, ht] using this⟩, below_drewN hb _⟩
            case measure => simp [intOf]; omega
      · have hNi : ¬ (N : Int) < 1048576 := by omega
        go_wp2_with fail
        go_ret
        exact ⟨⟨N, rfl, ⟨hN, fun h => absurd h hN2⟩⟩, HBW.out⟩
    · have hlti : ¬ (k : Int) < (fs.length : Int) := by omega
      go_wp2_with fail
      go_ret
      exact ⟨⟨N, rfl, ⟨hN, fun h => ⟨HE.out.1, fun f hf => by
        have hf2 : f ∈ fs := hf
        obtain ⟨j, hj, rfl⟩ := List.getElem_of_mem hf2
        have := HE.out.2 j (by omega)
        simpa [List.getD, hj] using this⟩⟩⟩, HBW.out⟩

theorem FitV.small {N : Nat} {d : VolD} (h : FitV N d) (hN : N ≤ 1500) : SmallV d := by
  obtain ⟨_, h2⟩ := h
  obtain ⟨h3, h4⟩ := h2 (by omega)
  refine ⟨by omega, fun f hf => ?_⟩
  have := (h4 f hf).1
  exact ⟨by omega, by omega⟩

/-- a number from 0 below n -/
def withinN (i : Int) (n : Nat) : Nat := (i % 18446744073709551616).toNat % n
set_option maxRecDepth 100000 in
set_option maxHeartbeats 400000 in
theorem lawWithin_any (i : Int) (w : World) :
    Calls Try.prog 27 #[.int .i64 i, .int .i64 7] w fun e w' => e = .returned (.int .i64 (withinN i 7)) ∧ w' = w := by
  go_enter Try.func27, Try.ntmps27
  go_wp2
  go_ret
  refine ⟨ret_int ?_, rfl⟩
  unfold withinN
  rw [IntKind.wrap_u64, Int.tmod_eq_emod_of_nonneg (by omega)]
  unfold wrap64
  omega

end Go.Proofs.Ytodahdnnlkcfdaa

/- How much volumes are. -/
namespace Go.Proofs.Ytodahdnnlkcfdaa
open Go.RowKit

def LooseW (ds : List VolD) : Prop := ds.length ≤ 35184372088832 ∧ ∀ d ∈ ds, LooseV d
def FitW (N : Nat) (ds : List VolD) : Prop := N ≤ 562949953421312 ∧ (N < 1048576 → ds.length ≤ N ∧ ∀ d ∈ ds, ∃ M, M ≤ N ∧ FitV M d)
theorem FitW.small {N : Nat} {ds : List VolD} (h : FitW N ds) (hN : N ≤ 1500) : SmallW ds := by
  obtain ⟨h1, h2⟩ := h.2 (by omega)
  refine ⟨by omega, fun d hd => ?_⟩
  obtain ⟨M, hM, hf⟩ := h2 d hd
  exact hf.small (by omega)

set_option maxRecDepth 100000 in
set_option maxHeartbeats 2000000 in
theorem volsWeight_any (a : Option Addr) (ds : List VolD) (ca : Nat) (w : World) (hv : VolsAt w a ds) (hs : LooseW ds) :
    Calls Try.prog 24 #[.slice a ds.length ca] w fun e w' => (∃ N : Nat, e = .returned (.int .i64 N) ∧ Hid (FitW N ds)) ∧ Below w.heap.size w w' := by
  have HV : Hid (VolsAt w a ds) := hv
  have HS : Hid (∀ d ∈ ds, LooseV d) := hs.2
  have hl := hs.1
  clear hv hs
  go_enter Try.func24, Try.ntmps24
  go_wp2_with fail
  go_loopw [3, 4] (fun n i wr => ∃ (k N : Nat), k ≤ ds.length ∧ i = .int .i64 k ∧ n = .int .i64 N ∧ N ≤ 562949953421312 ∧ Hid (ds.length ≤ N ∧ ∀ j, j < k → ∃ M, M ≤ N ∧ FitV M (ds.getD j VZ)) ∧ Below w.heap.size w wr)
    (fun _ i _ => ds.length - (intOf i).toNat)
  case atStart => exact ⟨0, ds.length, by omega, rfl, rfl, by omega, ⟨by omega, fun j hj => by omega⟩, nwR w⟩
  case round =>
    obtain ⟨k, N, hk, rfl, rfl, hN, HE, hb⟩ := hrel
    by_cases hlt : k < ds.length
    · have hlti : (k : Int) < (ds.length : Int) := by omega
      by_cases hN2 : N < 1048576
      · have hNi : (N : Int) < 1048576 := by omega
        obtain ⟨b1, o1, rfl, hf⟩ := (HV.out.below hb).vol hlt
        obtain ⟨af, cf, ⟨c0, c1, c2, c3, c4⟩, hvl⟩ := hf.val
        have HLO : Hid (LooseV (ds.getD k VZ)) := HS.out (ds.getD k VZ) (by simp [List.getD, hlt])
        have HVL : Hid (VolVal wr (.agg #[.int .i64 (ds.getD k VZ).id, .int .i64 (ds.getD k VZ).fr, .bool (ds.getD k VZ).snap, .slice af (ds.getD k VZ).files.length cf, .int .i64 (ds.getD k VZ).next]) (ds.getD k VZ)) := hvl
        have HFK : Hid (∀ A M, FitV M (ds.getD k VZ) → M ≤ A → N ≤ A → ds.length ≤ A ∧ ∀ j, j < k + 1 → ∃ M, M ≤ A ∧ FitV M (ds.getD j VZ)) := fun A M h hM hA => ⟨by have := HE.out.1; omega, fun j hj => by
          by_cases e : j = k
          · subst e; exact ⟨M, hM, h⟩
          · obtain ⟨M', h1, h2⟩ := HE.out.2 j (by omega)
            exact ⟨M', by omega, h2⟩⟩
        generalize ds.getD k VZ = d at c0 c1 c2 c3 c4 HLO HVL HFK
        clear hf hvl
        go_wp2_with fail
        refine (volWeight_any _ d wr HVL.out HLO.out).mono ?_
        rintro e w2 ⟨⟨M, rfl, HM⟩, hb2⟩
        have hbb := nwT hb hb2
        have hM1 := HM.out.1
        have e1 : IntKind.i64.wrap ((N : Int) + (M : Int)) = (N : Int) + (M : Int) := wrap_any (by omega) (by omega)
        have HFN := HFK.out (N + M) M HM.out (by omega) (by omega)
        have HFH : Hid (ds.length ≤ N + M ∧ ∀ j, j < k + 1 → ∃ M', M' ≤ N + M ∧ FitV M' (ds.getD j VZ)) := HFN
        clear HFN HM c0 c1 c2 c3 c4
        go_wp2_with fail
        go_roundw
        case rel => exact ⟨k + 1, N + M, by omega, by go_num, by go_num, by omega, HFH.out, hbb⟩
        case measure => simp [intOf]; omega
      · have hNi : ¬ (N : Int) < 1048576 := by omega
        have HQ : Hid (FitW N ds) := ⟨hN, fun h => absurd h hN2⟩
        go_wp2_with fail
        go_ret
        exact ⟨⟨N, rfl, HQ.out⟩, hb⟩
    · have hlti : ¬ (k : Int) < (ds.length : Int) := by omega
      have HQ : Hid (FitW N ds) := ⟨hN, fun _ => ⟨HE.out.1, fun d hd => by
        obtain ⟨j, hj, rfl⟩ := List.getElem_of_mem hd
        have := HE.out.2 j (by omega)
        rwa [show ds.getD j VZ = ds[j] from by simp [List.getD, hj]] at this⟩⟩
      go_wp2_with fail
      go_ret
      exact ⟨⟨N, rfl, HQ.out⟩, hb⟩

end Go.Proofs.Ytodahdnnlkcfdaa

/- Scripts of volumes: what is not heavy is small. -/
namespace Go.Proofs.Ytodahdnnlkcfdaa
open Go.RowKit

structure ActD where
  act : Int
  id : Int
  v : VolD
def act0 : ActD := ⟨0, 0, VZ⟩
def ActsAt (w : World) (a : Option Addr) (l : List ActD) : Prop :=
  l = [] ∨ ∃ b o, a = some ⟨b, o, none⟩ ∧ ∀ i, i < l.length → w.cell? ⟨b, o + i * 7, none⟩ = some (.int .i64 (l.getD i act0).act) ∧ w.cell? ⟨b, o + i * 7 + 1, none⟩ = some (.int .i64 (l.getD i act0).id) ∧ VolIn w b (o + i * 7 + 2) (l.getD i act0).v
theorem ActsAt.cell {w : World} {a : Option Addr} {l : List ActD} (h : ActsAt w a l) {i : Nat} (hi : i < l.length) : ∃ b o, a = some ⟨b, o, none⟩ ∧ w.cell? ⟨b, o + i * 7, none⟩ = some (.int .i64 (l.getD i act0).act) ∧ w.cell? ⟨b, o + i * 7 + 1, none⟩ = some (.int .i64 (l.getD i act0).id) ∧ VolIn w b (o + i * 7 + 2) (l.getD i act0).v := by
  rcases h with rfl | ⟨b, o, rfl, hc⟩
  · simp at hi
  · exact ⟨b, o, rfl, hc i hi⟩
theorem ActsAt.below {w w' : World} {a : Option Addr} {l : List ActD} (h : ActsAt w a l) (hb : Below w.heap.size w w') : ActsAt w' a l := by
  rcases h with rfl | ⟨b, o, rfl, hc⟩
  · exact .inl rfl
  · exact .inr ⟨b, o, rfl, fun i hi => ⟨(hb.cell (p := ⟨b, o + i * 7, none⟩) (block_lt_of_cell (hc i hi).1)).trans (hc i hi).1, (hb.cell (p := ⟨b, o + i * 7 + 1, none⟩) (block_lt_of_cell (hc i hi).2.1)).trans (hc i hi).2.1, (hc i hi).2.2.below hb⟩⟩
/-- a script: volumes, the next ID, acts -/
def ScrVal (w : World) (v : Value) (ds : List VolD) (next : Int) (l : List ActD) : Prop := ∃ av ca a c, v = .agg #[.slice av ds.length ca, .int .i64 next, .slice a l.length c] ∧ (VolsAt w av ds ∧ CapOk av ca ds.length) ∧ ActsAt w a l ∧ CapOk a c l.length
theorem ScrVal.below {w w' : World} {v : Value} {ds : List VolD} {next : Int} {l : List ActD} (h : ScrVal w v ds next l) (hb : Below w.heap.size w w') : ScrVal w' v ds next l := by
  obtain ⟨av, ca, a, c, e, h1, h2, h3⟩ := h
  exact ⟨av, ca, a, c, e, ⟨h1.1.below hb, h1.2⟩, h2.below hb, h3⟩
theorem tri {w : World} {g : Nat} {c0 c1 c2 : Value} {t : TypeId} (h : w.heap[g]? = some (.cells #[c0, c1, c2] t (0, 0))) :
    w.cell? ⟨g, 0, none⟩ = some c0 ∧ w.cell? ⟨g, 1, none⟩ = some c1 ∧ w.cell? ⟨g, 2, none⟩ = some c2 :=
  ⟨by rw [Lib.cell_of_heap h]; rfl, by rw [Lib.cell_of_heap h]; rfl, by rw [Lib.cell_of_heap h]; rfl⟩
def LooseA (l : List ActD) : Prop := l.length ≤ 3518437208883 ∧ ∀ x ∈ l, LooseV x.v
def LightA (l : List ActD) : Prop := l.length ≤ 1500 ∧ ∀ x ∈ l, SmallV x.v
def HvPost (ds : List VolD) (l : List ActD) (w : World) (e : Ending) (w' : World) : Prop := ∃ q : Bool, e = .returned (.bool q) ∧ Below w.heap.size w w' ∧ (q = false → SmallW ds ∧ LightA l)

set_option maxRecDepth 100000 in
set_option maxHeartbeats 2000000 in
theorem heavy_any (v : Value) (ds : List VolD) (next : Int) (l : List ActD) (w : World) (hv : ScrVal w v ds next l) (hd : LooseW ds) (hl : LooseA l) : Calls Try.prog 9 #[v] w (HvPost ds l w) := by
  obtain ⟨av, ca, aL, cL, rfl, ⟨hu, _⟩, hL, _⟩ := hv
  have HU : Hid (VolsAt w av ds) := hu
  have HL : Hid (ActsAt w aL l) := hL
  have HD : Hid (LooseW ds) := hd
  have hll := hl.1
  have HLA : Hid (∀ x ∈ l, LooseV x.v) := hl.2
  obtain ⟨W0, hW0⟩ : ∃ W0, W0 = w.alloc (.cells #[.slice av ds.length ca, .int .i64 next, .slice aL l.length cL] 25) := ⟨_, rfl⟩
  have HB0 : Hid (Below w.heap.size w W0) := by rw [hW0]; exact nwA (nwR w) _
  have HR0 : Hid (W0.heap[w.heap.size]? = some (.cells #[.slice av ds.length ca, .int .i64 next, .slice aL l.length cL] 25 (0, 0))) := by rw [hW0]; exact heap_alloc_new w _
  have HU0 : Hid (VolsAt W0 av ds) := HU.out.below HB0.out
  clear hL hd hl hu HU
  go_enter Try.func9, Try.ntmps9
  go_wp2_with fail
  rw [← hW0]
  clear hW0
  have hS := nwR W0
  have q0 : ∀ w', Below W0.heap.size W0 w' → w'.cell? ⟨w.heap.size, 0, none⟩ = some (.slice av ds.length ca) := fun w' h => (tri ((h.block _ (Array.getElem?_eq_some_iff.1 HR0.out).1).trans HR0.out)).1
  have q2 : ∀ w', Below W0.heap.size W0 w' → w'.cell? ⟨w.heap.size, 2, none⟩ = some (.slice aL l.length cL) := fun w' h => (tri ((h.block _ (Array.getElem?_eq_some_iff.1 HR0.out).1).trans HR0.out)).2.2
  go_region_held3 (fun w' => Below W0.heap.size W0 w') (first | assumption | exact Below.drew (by assumption) | exact nwT (by assumption) (by assumption)) (first
    | (go_at_call 24; refine (volsWeight_any _ ds ca _ (HU0.out.below (by assumption)) HD.out).mono ?_; rintro e w1 ⟨⟨N, rfl, HN⟩, hb1⟩; have hN := HN.out.1; have e1 : IntKind.i64.wrap ((N : Int) + (l.length : Int)) = (N : Int) + (l.length : Int) := wrap_any (by omega) (by omega); have hbq : Below W0.heap.size W0 w1 := nwT (by assumption) hb1)
    | fail)
  have HB1 : Hid (Below w.heap.size w w1) := nwT HB0.out hbq
  have HL1 : Hid (ActsAt w1 aL l) := HL.out.below HB1.out
  have HC5 : Hid (∀ w', Below w1.heap.size w1 w' → w'.cell? ⟨w.heap.size, 2, none⟩ = some (.slice aL l.length cL)) := fun w' h => q2 w' (nwT hbq h)
  have HNN : Hid (FitW N ds) := HN.out
  clear hb1 hbq q0 q2 HL HU0 hS HN e1
  go_wp2_with fail
  go_loopw [3, 4] (fun n i wr => ∃ (k M : Nat), k ≤ l.length ∧ i = .int .i64 k ∧ n = .int .i64 M ∧ M ≤ 1125899906842624 ∧ Hid (N + l.length ≤ M ∧ ∀ j, j < k → ∃ A, A ≤ M ∧ FitV A (l.getD j act0).v) ∧ Below w1.heap.size w1 wr)
    (fun _ i _ => l.length - (intOf i).toNat)
  case atStart => exact ⟨0, N + l.length, by omega, rfl, by go_num, by omega, ⟨by omega, fun j hj => by omega⟩, nwR w1⟩
  case round =>
    obtain ⟨k, M, hk, rfl, rfl, hM, HE, hb⟩ := hrel
    have HBW : Hid (Below w.heap.size w wr) := nwT HB1.out hb
    have x5 := HC5.out _ hb
    by_cases hkl : k < l.length
    · have hkli : (k : Int) < (l.length : Int) := by omega
      by_cases hM2 : M < 1048576
      · have hMi : (M : Int) < 1048576 := by omega
        obtain ⟨b1, o1, rfl, _, _, hvi⟩ := (HL1.out.below hb).cell hkl
        obtain ⟨af, cf, ⟨c0, c1, c2, c3, c4⟩, hvl⟩ := hvi.val
        have HLO : Hid (LooseV (l.getD k act0).v) := HLA.out (l.getD k act0) (by simp [List.getD, hkl])
        have HFK : Hid (∀ M' A, FitV A (l.getD k act0).v → A ≤ M' → M ≤ M' → N + l.length ≤ M' ∧ ∀ j, j < k + 1 → ∃ A, A ≤ M' ∧ FitV A (l.getD j act0).v) := fun M' A h hA hM' => by
          obtain ⟨h1, h3⟩ := HE.out
          refine ⟨by omega, fun j hj => ?_⟩
          by_cases e : j = k
          · subst e; exact ⟨A, hA, h⟩
          · obtain ⟨A', h4, h5⟩ := h3 j (by omega)
            exact ⟨A', by omega, h5⟩
        generalize (l.getD k act0).v = d at c0 c1 c2 c3 c4 hvl HLO HFK
        have HVL : Hid (VolVal wr (.agg #[.int .i64 d.id, .int .i64 d.fr, .bool d.snap, .slice af d.files.length cf, .int .i64 d.next]) d) := hvl
        clear hvi hvl
        go_wp2_with fail
        refine (volWeight_any _ d wr HVL.out HLO.out).mono ?_
        rintro e w2 ⟨⟨A, rfl, HA⟩, hb2⟩
        have hA1 := HA.out.1
        have hbb := nwT hb hb2
        have e1 : IntKind.i64.wrap ((M : Int) + (A : Int)) = (M : Int) + (A : Int) := wrap_any (by omega) (by omega)
        have HFH : Hid (N + l.length ≤ M + A ∧ ∀ j, j < k + 1 → ∃ A', A' ≤ M + A ∧ FitV A' (l.getD j act0).v) := HFK.out (M + A) A HA.out (by omega) (by omega)
        clear HA c0 c1 c2 c3 c4 HFK
        go_wp2_with fail
        go_roundw
        case rel => exact ⟨k + 1, M + A, by omega, by go_num, by go_num, by omega, HFH.out, hbb⟩
        case measure => simp [intOf]; omega
      · have hMi : ¬ (M : Int) < 1048576 := by omega
        go_wp2_with fail
        go_ret
        exact ⟨_, rfl, HBW.out, fun h => by simp at h; omega⟩
    · have hkli : ¬ (k : Int) < (l.length : Int) := by omega
      go_wp2_with fail
      go_ret
      refine ⟨_, rfl, HBW.out, fun h => ?_⟩
      have hM3 : M ≤ 1500 := by simp at h; omega
      obtain ⟨h1, h3⟩ := HE.out
      refine ⟨HNN.out.small (by omega), by omega, fun x hx => ?_⟩
      obtain ⟨j, hj, rfl⟩ := List.getElem_of_mem hx
      obtain ⟨A, hA, hf⟩ := h3 j (by omega)
      have e : l.getD j act0 = l[j] := by simp [List.getD, hj]
      rw [e] at hf
      exact hf.small (by omega)

end Go.Proofs.Ytodahdnnlkcfdaa

/- The argument of the laws, opened: volumes, the next ID, acts. -/
namespace Go.Proofs.Ytodahdnnlkcfdaa
open Go.ChangeShapes Go.WideShapes Go.ChangeAt Go.RowKit Go.Deep Go.Joins

theorem Try.own : ownKnob Try.prog.godebug = none := by kernel_rfl
theorem Try.laidOut : laidOutB Try.prog = true := by kernel_rfl
theorem Try.cells3 : Try.prog.cellsOf 3 = 1 := by kernel_rfl
theorem Try.cells4 : Try.prog.cellsOf 4 = 1 := by kernel_rfl
theorem Try.cells9 : Try.prog.cellsOf 9 = 1 := by kernel_rfl
theorem Try.cells30 : Try.prog.cellsOf 30 = 1 := by kernel_rfl
theorem Try.cells32 : Try.prog.cellsOf 32 = 5 := by kernel_rfl
theorem Try.cells79 : Try.prog.cellsOf 79 = 1 := by kernel_rfl
theorem Try.cells82 : Try.prog.cellsOf 82 = 1 := by kernel_rfl
theorem Try.cells84 : Try.prog.cellsOf 84 = 5 := by kernel_rfl
theorem Try.cells87 : Try.prog.cellsOf 87 = 2 := by kernel_rfl
theorem Try.cells22 : Try.prog.cellsOf 22 = 1 := by kernel_rfl
theorem Try.cells23 : Try.prog.cellsOf 23 = 1 := by kernel_rfl
theorem Try.cells25 : Try.prog.cellsOf 25 = 3 := by kernel_rfl
theorem Try.cells34 : Try.prog.cellsOf 34 = 7 := by kernel_rfl
theorem Try.bytes32 : Try.prog.bytesOf 32 = 56 := by kernel_rfl
theorem Try.bytes34 : Try.prog.bytesOf 34 = 72 := by kernel_rfl
theorem Try.bytes3 : Try.prog.bytesOf 3 = 8 := by kernel_rfl
theorem Try.bytes84 : Try.prog.bytesOf 84 = 72 := by kernel_rfl
theorem Try.bytes87 : Try.prog.bytesOf 87 = 24 := by kernel_rfl

section
variable {H : Type}
theorem mem_all {P : Program} {e : TypeId} {x : Nat} (d : DataW H) : ∀ {ds : List (DataW H)}, d ∈ ds → x ∈ d.weights P e → x ∈ DataW.weightsAll P e ds
  | [], h, _ => by simp at h
  | d' :: r, h, hx => by
    simp only [DataW.weightsAll, List.mem_append]
    rcases List.mem_cons.1 h with rfl | h
    · exact Or.inl hx
    · exact Or.inr (mem_all d h hx)
end

section
variable {H : Type} {enc : TypeId × Value → H} {W : World}

set_option maxRecDepth 100000 in
theorem open_rowG {α : Type} (z : α) {t e : TypeId} {k : Nat} (R : List Value → α → Prop) (ht : Try.prog.underlying t = some (.slice e)) (hk : Try.prog.cellsOf e = k) (hk0 : 0 < k)
    (hel : ∀ n cs y, DataW.trod enc Try.prog W 0 (fun _ => true) true n e cs = some y → (∀ x ∈ y.1.weights Try.prog e, x ≤ reachBytes) → ∃ x, R cs x)
    {n : Nat} {v : Value} {y : DataW H × List MemPlace} (h : DataW.trod enc Try.prog W 0 (fun _ => true) true n t [v] = some y) (hw : ∀ x ∈ y.1.weights Try.prog t, x ≤ reachBytes) :
    ∃ (a : Option Addr) (xs : List α) (ca : Nat), v = .slice a xs.length ca ∧ CapOk a ca xs.length ∧ xs.length * Try.prog.bytesOf e ≤ reachBytes ∧ (xs = [] ∨ ∃ b o, a = some ⟨b, o, none⟩ ∧ ∀ i, i < xs.length → ∃ cs, cs.length = k ∧ (∀ j, j < k → W.cell? ⟨b, o + i * k + j, none⟩ = cs[j]?) ∧ R cs (xs.getD i z)) := by
  rcases open_slice ht h with ⟨hcs, _⟩ | ⟨a, len, cap, m, n', D, Pl, hcs, _, hl, hm, hmm, hx, hc⟩
  · exact ⟨none, [], 0, by simpa using hcs, ⟨Nat.le_refl _, fun _ => rfl, fun p e => by cases e⟩, by simp, .inl rfl⟩
  · simp only [if_true] at hmm
    subst hmm
    have hx1 : y.1 = .slice ((List.range len).map D) ((List.range (m - len)).map fun j => D (len + j)) := by rw [hx]
    rw [hk] at hc
    haveI : Inhabited (List Value × α) := ⟨([], z)⟩
    have each : ∀ i, i < len → ∃ q : List Value × α, q.1.length = k ∧ (∀ j, j < k → W.cell? (a.add (i * k + j)) = q.1[j]?) ∧ R q.1 q.2 := by
      intro i hi
      obtain ⟨cs', h1, h2⟩ := hc i (by omega)
      obtain ⟨_, hlen, hcell⟩ := World.cells?_some h1
      obtain ⟨x, hx2⟩ := hel _ _ _ h2 (fun x hxw => hw x (by
        rw [hx1]
        simp only [DataW.weights, ht, List.mem_cons, List.mem_append]
        exact Or.inr (Or.inl (mem_all (D i) (List.mem_map.2 ⟨i, List.mem_range.2 hi, rfl⟩) hxw))))
      exact ⟨(cs', x), hlen, fun j hj => by rw [← add_add]; exact hcell j hj, hx2⟩
    obtain ⟨q, hq⟩ := choose_lt each
    have hlen : ((List.range len).map fun i => (q i).2).length = len := by simp
    have hspot : 0 < len → a.spot = none := fun h0 => by
      obtain ⟨h1, h2, _⟩ := hq 0 h0
      have h3 := h2 0 hk0
      rw [Nat.zero_mul, Nat.add_zero, List.getElem?_eq_getElem (show 0 < (q 0).1.length by omega)] at h3
      have := World.cell?_spot h3
      simpa [Addr.add] using this
    refine ⟨some a, (List.range len).map fun i => (q i).2, m, ?_, ?_, ?_, ?_⟩
    · rw [hlen]; simpa using hcs
    · refine ⟨by rw [hlen]; exact hl, (fun e => by cases e), fun p e hlt => ?_⟩
      injection e with e
      subst e
      rw [hlen] at hlt
      by_cases h0 : 0 < len
      · exact hspot h0
      · obtain ⟨cs', h1, _⟩ := hc 0 (by omega)
        obtain ⟨_, hln, hcell⟩ := World.cells?_some h1
        have h3 := hcell 0 hk0
        rw [List.getElem?_eq_getElem (show 0 < cs'.length by omega), add_add, Nat.zero_mul, Nat.add_zero] at h3
        have := World.cell?_spot h3
        simpa [Addr.add] using this
    · have := hw ((len + (m - len)) * Try.prog.bytesOf e) (by rw [hx1]; simp [DataW.weights, ht])
      rw [hlen]
      exact Nat.le_trans (Nat.mul_le_mul_right _ (by omega)) this
    · by_cases h0 : len = 0
      · exact .inl (by rw [h0]; rfl)
      · have hs := hspot (by omega)
        obtain ⟨b, off, spot⟩ := a
        simp only at hs
        subst hs
        refine .inr ⟨b, off, rfl, fun i hi => ?_⟩
        rw [hlen] at hi
        obtain ⟨h1, h2, h3⟩ := hq i hi
        refine ⟨(q i).1, h1, fun j hj => ?_, ?_⟩
        · have := h2 j hj
          rwa [Go.WideShapes.add_plain, ← Nat.add_assoc] at this
        · have e : ((List.range len).map fun i => (q i).2).getD i z = (q i).2 := by simp [List.getD, hi]
          rw [e]; exact h3

set_option maxRecDepth 100000 in
theorem open_str {n : Nat} {cs : List Value} {y : DataW H × List MemPlace} (h : DataW.trod enc Try.prog W 0 (fun _ => true) true n 9 cs = some y) (hw : ∀ x ∈ y.1.weights Try.prog 9, x ≤ reachBytes) : ∃ s : ByteArray, cs = [.string s] ∧ s.size ≤ 140737488355328 := by
  obtain ⟨s, rfl, rfl, hs⟩ := DataW.trod_string Try.underlying9 h
  refine ⟨s, rfl, ?_⟩
  have := hw s.data.toList.length (by simp [DataW.weights])
  have e : s.data.toList.length = s.size := ls_size s
  simp only [reachBytes] at this
  omega
set_option maxRecDepth 100000 in
theorem open_ints2 {n : Nat} {v : Value} {y : DataW H × List MemPlace} (h : DataW.trod enc Try.prog W 0 (fun _ => true) true n 79 [v] = some y) (hw : ∀ x ∈ y.1.weights Try.prog 79, x ≤ reachBytes) :
    ∃ (a : Option Addr) (xs : List Int) (ca : Nat), v = .slice a xs.length ca ∧ CapOk a ca xs.length ∧ xs.length ≤ 35184372088832 ∧ IntsAt W a xs := by
  obtain ⟨a, xs, ca, h1, h2, h3, h4⟩ := open_rowG (0 : Int) (fun cs x => cs = [.int .i64 x]) Try.underlying79 Try.cells3 (by omega) (fun n cs y h _ => by
    obtain ⟨x, hx, _⟩ := DataW.trod_int Try.underlying3 h
    exact ⟨x, hx⟩) h hw
  refine ⟨a, xs, ca, h1, h2, ?_, ?_⟩
  · rw [Try.bytes3] at h3; simp only [reachBytes] at h3; omega
  · rcases h4 with h4 | ⟨b, o, rfl, h5⟩
    · exact .inl h4
    · refine .inr ⟨b, o, rfl, fun i hi => ?_⟩
      obtain ⟨cs, _, h6, rfl⟩ := h5 i hi
      have := h6 0 (by omega)
      rw [Nat.mul_one, Nat.add_zero] at this
      exact this
set_option maxRecDepth 100000 in
theorem open_links {n : Nat} {v : Value} {y : DataW H × List MemPlace} (h : DataW.trod enc Try.prog W 0 (fun _ => true) true n 82 [v] = some y) (hw : ∀ x ∈ y.1.weights Try.prog 82, x ≤ reachBytes) :
    ∃ (a : Option Addr) (xs : List LinkD) (ca : Nat), v = .slice a xs.length ca ∧ CapOk a ca xs.length ∧ xs.length ≤ 35184372088832 ∧ LinksAt W a xs ∧ ∀ l ∈ xs, l.1.size ≤ 140737488355328 := by
  obtain ⟨a, xs, ca, h1, h2, h3, h4⟩ := open_rowG lk0 (fun cs x => cs = [.string x.1, .int .i64 x.2] ∧ x.1.size ≤ 140737488355328) Try.underlying82 Try.cells87 (by omega) (fun n cs y h hw => by
    obtain ⟨xs, k, _, rfl, hl, hxl, hf⟩ := DataW.trod_struct Try.underlying87 h
    rw [Try.cells87] at hl
    match xs, hxl, cs, hl with
    | [y0, y1], _, [v0, v1], _ =>
      have g0 := hf 0 _ rfl
      have g1 := hf 1 _ rfl
      simp [Try.cells9, Try.cells3] at g0 g1
      obtain ⟨s, hs, hsz⟩ := open_str g0 (fun x hx => hw x (by simp only [DataW.weights, DataW.weightsEach, Try.underlying87, List.map_cons, List.map_nil]; exact List.mem_append.2 (Or.inl hx)))
      obtain ⟨i, hi, _⟩ := DataW.trod_int Try.underlying3 g1
      simp only [List.cons.injEq, and_true] at hs hi
      subst hs; subst hi
      exact ⟨(s, i), rfl, hsz⟩) h hw
  refine ⟨a, xs, ca, h1, h2, ?_, ?_, ?_⟩
  · rw [Try.bytes87] at h3; simp only [reachBytes] at h3; omega
  · rcases h4 with h4 | ⟨b, o, rfl, h5⟩
    · exact .inl h4
    · refine .inr ⟨b, o, rfl, fun i hi => ?_⟩
      obtain ⟨cs, _, h6, rfl, _⟩ := h5 i hi
      have e0 := h6 0 (by omega)
      have e1 := h6 1 (by omega)
      exact ⟨e0, e1⟩
  · intro l hl
    rcases h4 with h4 | ⟨b, o, rfl, h5⟩
    · rw [h4] at hl; simp at hl
    · obtain ⟨i, hi, rfl⟩ := List.getElem_of_mem hl
      obtain ⟨cs, _, _, _, h6⟩ := h5 i hi
      simpa [List.getD, hi] using h6
set_option maxRecDepth 100000 in
theorem open_files {n : Nat} {v : Value} {y : DataW H × List MemPlace} (h : DataW.trod enc Try.prog W 0 (fun _ => true) true n 30 [v] = some y) (hw : ∀ x ∈ y.1.weights Try.prog 30, x ≤ reachBytes) :
    ∃ (a : Option Addr) (fs : List FileD) (ca : Nat), v = .slice a fs.length ca ∧ CapOk a ca fs.length ∧ fs.length ≤ 35184372088832 ∧ FilesAt W a fs ∧ ∀ f ∈ fs, LooseF f := by
  obtain ⟨a, xs, ca, h1, h2, h3, h4⟩ := open_rowG f0 (fun cs f => (∃ ab cb al cl, cs = fcells f ab cb al cl ∧ (IntsAt W ab f.blocks ∧ CapOk ab cb f.blocks.length) ∧ LinksAt W al f.list ∧ CapOk al cl f.list.length) ∧ LooseF f) Try.underlying30 Try.cells84 (by omega) (fun n cs y h hw => by
    obtain ⟨xs, k, _, rfl, hl, hxl, hf⟩ := DataW.trod_struct Try.underlying84 h
    rw [Try.cells84] at hl
    match xs, hxl, cs, hl with
    | [y0, y1, y2, y3, y4], _, [v0, v1, v2, v3, v4], _ =>
      have g0 := hf 0 _ rfl
      have g1 := hf 1 _ rfl
      have g2 := hf 2 _ rfl
      have g3 := hf 3 _ rfl
      have g4 := hf 4 _ rfl
      simp [Try.cells3, Try.cells4, Try.cells79, Try.cells82] at g0 g1 g2 g3 g4
      obtain ⟨id, hid, _⟩ := DataW.trod_int Try.underlying3 g0
      obtain ⟨dir, hdir, _⟩ := DataW.trod_bool Try.underlying4 g1
      obtain ⟨size, hsize, _⟩ := DataW.trod_int Try.underlying3 g2
      obtain ⟨ab, bl, cb, e3, q3, q4, q5⟩ := open_ints2 g3 (fun x hx => hw x (by simp only [DataW.weights, DataW.weightsEach, Try.underlying84, List.map_cons, List.map_nil]; exact List.mem_append.2 (Or.inr (List.mem_append.2 (Or.inr (List.mem_append.2 (Or.inr (List.mem_append.2 (Or.inl hx)))))))))
      obtain ⟨al, li, cl, e4, q6, q7, q8, q9⟩ := open_links g4 (fun x hx => hw x (by simp only [DataW.weights, DataW.weightsEach, Try.underlying84, List.map_cons, List.map_nil]; exact List.mem_append.2 (Or.inr (List.mem_append.2 (Or.inr (List.mem_append.2 (Or.inr (List.mem_append.2 (Or.inr (List.mem_append.2 (Or.inl hx)))))))))))
      simp only [List.cons.injEq, and_true] at hid hdir hsize
      subst hid; subst hdir; subst hsize; subst e3; subst e4
      exact ⟨⟨id, dir, size, bl, li⟩, ⟨ab, cb, al, cl, rfl, ⟨q5, q3⟩, q8, q6⟩, q4, q7, q9⟩) h hw
  refine ⟨a, xs, ca, h1, h2, ?_, ?_, ?_⟩
  · rw [Try.bytes84] at h3; simp only [reachBytes] at h3; omega
  · rcases h4 with h4 | ⟨b, o, rfl, h5⟩
    · exact .inl h4
    · refine .inr ⟨b, o, rfl, fun i hi => ?_⟩
      obtain ⟨cs, _, h6, ⟨ab, cb, al, cl, rfl, h7⟩, _⟩ := h5 i hi
      have e0 := h6 0 (by omega)
      have e1 := h6 1 (by omega)
      have e2 := h6 2 (by omega)
      have e3 := h6 3 (by omega)
      have e4 := h6 4 (by omega)
      exact ⟨ab, cb, al, cl, ⟨e0, e1, e2, e3, e4⟩, h7⟩
  · intro l hl
    rcases h4 with h4 | ⟨b, o, rfl, h5⟩
    · rw [h4] at hl; simp at hl
    · obtain ⟨i, hi, rfl⟩ := List.getElem_of_mem hl
      obtain ⟨cs, _, _, _, h6⟩ := h5 i hi
      simpa [List.getD, hi] using h6
set_option maxRecDepth 100000 in
theorem open_vol {n : Nat} {cs : List Value} {y : DataW H × List MemPlace} (h : DataW.trod enc Try.prog W 0 (fun _ => true) true n 32 cs = some y) (hw : ∀ x ∈ y.1.weights Try.prog 32, x ≤ reachBytes) :
    ∃ (d : VolD) (a : Option Addr) (c : Nat), cs = [.int .i64 d.id, .int .i64 d.fr, .bool d.snap, .slice a d.files.length c, .int .i64 d.next] ∧ FilesAt W a d.files ∧ CapOk a c d.files.length ∧ LooseV d := by
  obtain ⟨xs, k, _, rfl, hl, hxl, hf⟩ := DataW.trod_struct Try.underlying32 h
  rw [Try.cells32] at hl
  match xs, hxl, cs, hl with
  | [z0, z1, z2, z3, z4], _, [v0, v1, v2, v3, v4], _ =>
    have g0 := hf 0 _ rfl
    have g1 := hf 1 _ rfl
    have g2 := hf 2 _ rfl
    have g3 := hf 3 _ rfl
    have g4 := hf 4 _ rfl
    simp [Try.cells3, Try.cells4, Try.cells30] at g0 g1 g2 g3 g4
    obtain ⟨id, hid, _⟩ := DataW.trod_int Try.underlying3 g0
    obtain ⟨fr, hfr, _⟩ := DataW.trod_int Try.underlying3 g1
    obtain ⟨snap, hsn, _⟩ := DataW.trod_bool Try.underlying4 g2
    obtain ⟨next, hnx, _⟩ := DataW.trod_int Try.underlying3 g4
    obtain ⟨av, fs, ca, e3, q3, q4, q5, q6⟩ := open_files g3 (fun x hx => hw x (by simp only [DataW.weights, DataW.weightsEach, Try.underlying32, List.map_cons, List.map_nil]; exact List.mem_append.2 (Or.inr (List.mem_append.2 (Or.inr (List.mem_append.2 (Or.inr (List.mem_append.2 (Or.inl hx)))))))))
    simp only [List.cons.injEq, and_true] at hid hfr hsn hnx
    subst hid; subst hfr; subst hsn; subst hnx; subst e3
    exact ⟨⟨id, fr, snap, fs, next⟩, av, ca, rfl, q5, q3, q4, q6⟩
set_option maxRecDepth 100000 in
theorem open_vols {n : Nat} {v : Value} {y : DataW H × List MemPlace} (h : DataW.trod enc Try.prog W 0 (fun _ => true) true n 22 [v] = some y) (hw : ∀ x ∈ y.1.weights Try.prog 22, x ≤ reachBytes) :
    ∃ (a : Option Addr) (xs : List VolD) (ca : Nat), v = .slice a xs.length ca ∧ CapOk a ca xs.length ∧ VolsAt W a xs ∧ LooseW xs := by
  obtain ⟨a, xs, ca, h1, h2, h3, h4⟩ := open_rowG VZ (fun cs d => ∃ (a : Option Addr) (c : Nat), cs = [.int .i64 d.id, .int .i64 d.fr, .bool d.snap, .slice a d.files.length c, .int .i64 d.next] ∧ FilesAt W a d.files ∧ CapOk a c d.files.length ∧ LooseV d) Try.underlying22 Try.cells32 (by omega) (fun n cs y h hw => by
    obtain ⟨d, a, c, h1, h2, h3, h4⟩ := open_vol h hw
    exact ⟨d, a, c, h1, h2, h3, h4⟩) h hw
  refine ⟨a, xs, ca, h1, h2, ?_, ?_, ?_⟩
  · rcases h4 with h4 | ⟨b, o, rfl, h5⟩
    · exact .inl h4
    · refine .inr ⟨b, o, rfl, fun i hi => ?_⟩
      obtain ⟨cs, _, h6, a, c, rfl, h7, h8, _⟩ := h5 i hi
      have e0 := h6 0 (by omega)
      have e1 := h6 1 (by omega)
      have e2 := h6 2 (by omega)
      have e3 := h6 3 (by omega)
      have e4 := h6 4 (by omega)
      exact ⟨a, c, ⟨e0, e1, e2, e3, e4⟩, h7, h8⟩
  · rw [Try.bytes32] at h3; simp only [reachBytes] at h3; omega
  · intro d hd
    rcases h4 with h4 | ⟨b, o, rfl, h5⟩
    · rw [h4] at hd; simp at hd
    · obtain ⟨i, hi, rfl⟩ := List.getElem_of_mem hd
      obtain ⟨cs, _, _, a, c, _, _, _, h6⟩ := h5 i hi
      simpa [List.getD, hi] using h6
set_option maxRecDepth 100000 in
theorem open_acts {n : Nat} {v : Value} {y : DataW H × List MemPlace} (h : DataW.trod enc Try.prog W 0 (fun _ => true) true n 23 [v] = some y) (hw : ∀ x ∈ y.1.weights Try.prog 23, x ≤ reachBytes) :
    ∃ (a : Option Addr) (xs : List ActD) (ca : Nat), v = .slice a xs.length ca ∧ CapOk a ca xs.length ∧ ActsAt W a xs ∧ LooseA xs ∧ xs.length * 72 ≤ 140737488355328 := by
  obtain ⟨a, xs, ca, h1, h2, h3, h4⟩ := open_rowG act0 (fun cs x => ∃ (a : Option Addr) (c : Nat), cs = [.int .i64 x.act, .int .i64 x.id, .int .i64 x.v.id, .int .i64 x.v.fr, .bool x.v.snap, .slice a x.v.files.length c, .int .i64 x.v.next] ∧ FilesAt W a x.v.files ∧ CapOk a c x.v.files.length ∧ LooseV x.v) Try.underlying23 Try.cells34 (by omega) (fun n cs y h hw => by
    obtain ⟨xs, k, _, rfl, hl, hxl, hf⟩ := DataW.trod_struct Try.underlying34 h
    rw [Try.cells34] at hl
    match xs, hxl, cs, hl with
    | [y0, y1, y2], _, [v0, v1, v2, v3, v4, v5, v6], _ =>
      have g0 := hf 0 _ rfl
      have g1 := hf 1 _ rfl
      have g2 := hf 2 _ rfl
      simp [Try.cells3, Try.cells32] at g0 g1 g2
      obtain ⟨i, hi, _⟩ := DataW.trod_int Try.underlying3 g0
      obtain ⟨j, hj, _⟩ := DataW.trod_int Try.underlying3 g1
      obtain ⟨d, av, cv, hd, q1, q2, q3⟩ := open_vol g2 (fun x hx => hw x (by simp only [DataW.weights, DataW.weightsEach, Try.underlying34, List.map_cons, List.map_nil]; exact List.mem_append.2 (Or.inr (List.mem_append.2 (Or.inr (List.mem_append.2 (Or.inl hx)))))))
      simp only [List.cons.injEq, and_true] at hi hj hd
      obtain ⟨rfl, rfl, rfl, rfl, rfl⟩ := hd
      subst hi; subst hj
      exact ⟨⟨i, j, d⟩, av, cv, rfl, q1, q2, q3⟩) h hw
  refine ⟨a, xs, ca, h1, h2, ?_, ⟨?_, ?_⟩, by rw [Try.bytes34] at h3; simp only [reachBytes] at h3; omega⟩
  · rcases h4 with h4 | ⟨b, o, rfl, h5⟩
    · exact .inl h4
    · refine .inr ⟨b, o, rfl, fun i hi => ?_⟩
      obtain ⟨cs, _, h6, a, c, rfl, h7, h8, _⟩ := h5 i hi
      have e0 := h6 0 (by omega)
      have e1 := h6 1 (by omega)
      have e2 := h6 2 (by omega)
      have e3 := h6 3 (by omega)
      have e4 := h6 4 (by omega)
      have e5 := h6 5 (by omega)
      have e6 := h6 6 (by omega)
      exact ⟨e0, e1, a, c, ⟨e2, e3, e4, e5, e6⟩, h7, h8⟩
  · rw [Try.bytes34] at h3; simp only [reachBytes] at h3; omega
  · intro d hd
    rcases h4 with h4 | ⟨b, o, rfl, h5⟩
    · rw [h4] at hd; simp at hd
    · obtain ⟨i, hi, rfl⟩ := List.getElem_of_mem hd
      obtain ⟨cs, _, _, a, c, _, _, _, h6⟩ := h5 i hi
      simpa [List.getD, hi] using h6
set_option maxRecDepth 100000 in
theorem open_script72 {r : Go.Reach} {b0 : Nat} {v : Value} {d : DataW H} {p : List MemPlace} (hv : Value.okWide Try.prog W r b0 25 v) (h : DataW.Trod enc Try.prog W 0 (fun _ => true) true 25 v d p) (hw : ∀ x ∈ d.weights Try.prog 25, x ≤ reachBytes) :
    ∃ (ds : List VolD) (next : Int) (l : List ActD), ScrVal W v ds next l ∧ LooseW ds ∧ LooseA l ∧ l.length * 72 ≤ 140737488355328 := by
  obtain ⟨cs, rfl, hsz⟩ := okWide_struct Try.underlying25 hv
  rw [Try.cells25] at hsz
  obtain ⟨cl⟩ := cs
  obtain ⟨fuel, hf⟩ := h
  match cl, hsz with
  | [v0, v1, v2], _ =>
    obtain ⟨xs, k, _, hdp, hl, hxl, hq⟩ := DataW.trod_struct Try.underlying25 hf
    simp only [Prod.mk.injEq] at hdp
    obtain ⟨rfl, rfl⟩ := hdp
    match xs, hxl with
    | [z0, z1, z2], _ =>
      have g0 := hq 0 _ rfl
      have g1 := hq 1 _ rfl
      have g2 := hq 2 _ rfl
      simp [Value.cells, Try.cells3, Try.cells22, Try.cells23] at g0 g1 g2
      obtain ⟨av, ds, ca, e0, q1, q2, q3⟩ := open_vols g0 (fun x hx => hw x (by simp only [DataW.weights, DataW.weightsEach, Try.underlying25, List.map_cons, List.map_nil]; exact List.mem_append.2 (Or.inl hx)))
      obtain ⟨next, hnx, _⟩ := DataW.trod_int Try.underlying3 g1
      obtain ⟨aL, l, cL, e2, q4, q5, q6, q7⟩ := open_acts g2 (fun x hx => hw x (by simp only [DataW.weights, DataW.weightsEach, Try.underlying25, List.map_cons, List.map_nil]; exact List.mem_append.2 (Or.inr (List.mem_append.2 (Or.inr (List.mem_append.2 (Or.inl hx)))))))
      simp only [List.cons.injEq, and_true] at hnx
      subst hnx; subst e0; subst e2
      exact ⟨ds, next, l, ⟨av, ca, aL, cL, rfl, ⟨q2, q1⟩, q5, q4⟩, q3, q6, q7⟩
set_option maxRecDepth 100000 in
theorem open_script {r : Go.Reach} {b0 : Nat} {v : Value} {d : DataW H} {p : List MemPlace} (hv : Value.okWide Try.prog W r b0 25 v) (h : DataW.Trod enc Try.prog W 0 (fun _ => true) true 25 v d p) (hw : ∀ x ∈ d.weights Try.prog 25, x ≤ reachBytes) :
    ∃ (ds : List VolD) (next : Int) (l : List ActD), ScrVal W v ds next l ∧ LooseW ds ∧ LooseA l := by
  obtain ⟨ds, next, l, h1, h2, h3, _⟩ := open_script72 hv h hw
  exact ⟨ds, next, l, h1, h2, h3⟩
end

end Go.Proofs.Ytodahdnnlkcfdaa

/- What a path finds, by the page. -/
namespace Go.Proofs.Ytodahdnnlkcfdaa
open Go.RowKit

def placeOf (fs : List FileD) (id : Int) : Nat := (atI fs id).getD 0
def findF (fs : List FileD) : Nat → List ByteArray → Nat × Int
  | at', [] => (at', 0)
  | at', n :: r => if (fs.getD at' f0).dir then (match namedI (fs.getD at' f0).list n with
      | none => (0, 3)
      | some k => findF fs (placeOf fs ((fs.getD at' f0).list.getD k lk0).2) r) else (0, 7)
/-- each link names a file that is there -/
def Sound (fs : List FileD) : Prop := 0 < fs.length ∧ ∀ f ∈ fs, ∀ l ∈ f.list, (atI fs l.2).isSome = true

theorem atI_lt {fs : List FileD} {id : Int} {k : Nat} (h : atI fs id = some k) : k < fs.length := by
  unfold atI at h
  exact (List.findIdx?_eq_some_iff_getElem.1 h).1
theorem namedI_lt {l : List LinkD} {n : ByteArray} {k : Nat} (h : namedI l n = some k) : k < l.length := by
  unfold namedI at h
  exact (List.findIdx?_eq_some_iff_getElem.1 h).1
theorem Sound.at {fs : List FileD} (h : Sound fs) {i k : Nat} (hi : i < fs.length) (hk : k < (fs.getD i f0).list.length) : ∃ j, atI fs ((fs.getD i f0).list.getD k lk0).2 = some j ∧ j < fs.length := by
  have hf : fs.getD i f0 ∈ fs := by simp [List.getD, hi]
  have hm : (fs.getD i f0).list.getD k lk0 ∈ (fs.getD i f0).list := by
    have : (fs.getD i f0).list.getD k lk0 = (fs.getD i f0).list[k] := by rw [List.getD, List.getElem?_eq_getElem hk]; rfl
    rw [this]; exact List.getElem_mem hk
  have := h.2 _ hf _ hm
  obtain ⟨j, hj⟩ := Option.isSome_iff_exists.1 this
  exact ⟨j, hj, atI_lt hj⟩

end Go.Proofs.Ytodahdnnlkcfdaa
