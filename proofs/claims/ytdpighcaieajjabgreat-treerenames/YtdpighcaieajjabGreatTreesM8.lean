/- Laid together: Open, Laysort. -/
import Derived.Test.YtdpighcaieajjabGreatTreesM7
import Derived.Test.YtdpighcaieajjabGreatRows
import Derived.Test.YtdpighcaieajjabGreatChecked
import Derived.ProofKit
import Derived.SizedLaws
import Derived.Lib.SmallJoins
import Derived.Deep.Slices
import Derived.Shelf.SlSortCmp.SmallK
import Derived.Test.YtdpighcaieajjabGreatProg
/- The argument of the laws, opened: a volume and acts. -/
namespace Go.Proofs.YtdpighcaieajjabGreat
open Go.ChangeShapes Go.WideShapes Go.ChangeAt Go.RowKit Go.Deep Go.Joins

theorem Tryz.own : ownKnob Tryz.prog.godebug = none := by kernel_rfl
theorem Tryz.laidOut : laidOutB Tryz.prog = true := by kernel_rfl
theorem Tryz.cells3 : Tryz.prog.cellsOf 3 = 1 := by kernel_rfl
theorem Tryz.cells4 : Tryz.prog.cellsOf 4 = 1 := by kernel_rfl
theorem Tryz.cells9 : Tryz.prog.cellsOf 9 = 1 := by kernel_rfl
theorem Tryz.cells22 : Tryz.prog.cellsOf 22 = 1 := by kernel_rfl
theorem Tryz.cells24 : Tryz.prog.cellsOf 24 = 5 := by kernel_rfl
theorem Tryz.cells25 : Tryz.prog.cellsOf 25 = 1 := by kernel_rfl
theorem Tryz.cells27 : Tryz.prog.cellsOf 27 = 6 := by kernel_rfl
theorem Tryz.cells31 : Tryz.prog.cellsOf 31 = 3 := by kernel_rfl
theorem Tryz.cells56 : Tryz.prog.cellsOf 56 = 1 := by kernel_rfl
theorem Tryz.cells57 : Tryz.prog.cellsOf 57 = 1 := by kernel_rfl
theorem Tryz.cells59 : Tryz.prog.cellsOf 59 = 5 := by kernel_rfl
theorem Tryz.cells63 : Tryz.prog.cellsOf 63 = 2 := by kernel_rfl
theorem Tryz.bytes3 : Tryz.prog.bytesOf 3 = 8 := by kernel_rfl
theorem Tryz.bytes31 : Tryz.prog.bytesOf 31 = 40 := by kernel_rfl
theorem Tryz.bytes59 : Tryz.prog.bytesOf 59 = 72 := by kernel_rfl
theorem Tryz.bytes63 : Tryz.prog.bytesOf 63 = 24 := by kernel_rfl

section
variable {H : Type}
theorem mem_all {P : Program} {e : TypeId} {x : Nat} (d : DataW H) : ∀ {ds : List (DataW H)}, d ∈ ds → x ∈ d.weights P e → x ∈ DataW.weightsAll P e ds
  | [], h, _ => by simp at h
  | d' :: r, h, hx => by
    simp only [DataW.weightsAll, List.mem_append]
    rcases List.mem_cons.1 h with rfl | h
    · exact Or.inl hx
    · exact Or.inr (mem_all d h hx)
end

section
variable {H : Type} {enc : TypeId × Value → H} {W : World}

set_option maxRecDepth 100000 in
theorem open_rowG {α : Type} (z : α) {t e : TypeId} {k : Nat} (R : List Value → α → Prop) (ht : Tryz.prog.underlying t = some (.slice e)) (hk : Tryz.prog.cellsOf e = k) (hk0 : 0 < k)
    (hel : ∀ n cs y, DataW.trod enc Tryz.prog W 0 (fun _ => true) true n e cs = some y → (∀ x ∈ y.1.weights Tryz.prog e, x ≤ reachBytes) → ∃ x, R cs x)
    {n : Nat} {v : Value} {y : DataW H × List MemPlace} (h : DataW.trod enc Tryz.prog W 0 (fun _ => true) true n t [v] = some y) (hw : ∀ x ∈ y.1.weights Tryz.prog t, x ≤ reachBytes) :
    ∃ (a : Option Addr) (xs : List α) (ca : Nat), v = .slice a xs.length ca ∧ CapOk a ca xs.length ∧ xs.length * Tryz.prog.bytesOf e ≤ reachBytes ∧ (xs = [] ∨ ∃ b o, a = some ⟨b, o, none⟩ ∧ ∀ i, i < xs.length → ∃ cs, cs.length = k ∧ (∀ j, j < k → W.cell? ⟨b, o + i * k + j, none⟩ = cs[j]?) ∧ R cs (xs.getD i z)) := by
  rcases open_slice ht h with ⟨hcs, _⟩ | ⟨a, len, cap, m, n', D, Pl, hcs, _, hl, hm, hmm, hx, hc⟩
  · exact ⟨none, [], 0, by simpa using hcs, ⟨Nat.le_refl _, fun _ => rfl, fun p e => by cases e⟩, by simp, .inl rfl⟩
  · simp only [if_true] at hmm
    subst hmm
    have hx1 : y.1 = .slice ((List.range len).map D) ((List.range (m - len)).map fun j => D (len + j)) := by rw [hx]
    rw [hk] at hc
    haveI : Inhabited (List Value × α) := ⟨([], z)⟩
    have each : ∀ i, i < len → ∃ q : List Value × α, q.1.length = k ∧ (∀ j, j < k → W.cell? (a.add (i * k + j)) = q.1[j]?) ∧ R q.1 q.2 := by
      intro i hi
      obtain ⟨cs', h1, h2⟩ := hc i (by omega)
      obtain ⟨_, hlen, hcell⟩ := World.cells?_some h1
      obtain ⟨x, hx2⟩ := hel _ _ _ h2 (fun x hxw => hw x (by
        rw [hx1]
        simp only [DataW.weights, ht, List.mem_cons, List.mem_append]
        exact Or.inr (Or.inl (mem_all (D i) (List.mem_map.2 ⟨i, List.mem_range.2 hi, rfl⟩) hxw))))
      exact ⟨(cs', x), hlen, fun j hj => by rw [← add_add]; exact hcell j hj, hx2⟩
    obtain ⟨q, hq⟩ := choose_lt each
    have hlen : ((List.range len).map fun i => (q i).2).length = len := by simp
    have hspot : 0 < len → a.spot = none := fun h0 => by
      obtain ⟨h1, h2, _⟩ := hq 0 h0
      have h3 := h2 0 hk0
      rw [Nat.zero_mul, Nat.add_zero, List.getElem?_eq_getElem (show 0 < (q 0).1.length by omega)] at h3
      have := World.cell?_spot h3
      simpa [Addr.add] using this
    refine ⟨some a, (List.range len).map fun i => (q i).2, m, ?_, ?_, ?_, ?_⟩
    · rw [hlen]; simpa using hcs
    · refine ⟨by rw [hlen]; exact hl, (fun e => by cases e), fun p e hlt => ?_⟩
      injection e with e
      subst e
      rw [hlen] at hlt
      by_cases h0 : 0 < len
      · exact hspot h0
      · obtain ⟨cs', h1, _⟩ := hc 0 (by omega)
        obtain ⟨_, hln, hcell⟩ := World.cells?_some h1
        have h3 := hcell 0 hk0
        rw [List.getElem?_eq_getElem (show 0 < cs'.length by omega), add_add, Nat.zero_mul, Nat.add_zero] at h3
        have := World.cell?_spot h3
        simpa [Addr.add] using this
    · have := hw ((len + (m - len)) * Tryz.prog.bytesOf e) (by rw [hx1]; simp [DataW.weights, ht])
      rw [hlen]
      exact Nat.le_trans (Nat.mul_le_mul_right _ (by omega)) this
    · by_cases h0 : len = 0
      · exact .inl (by rw [h0]; rfl)
      · have hs := hspot (by omega)
        obtain ⟨b, off, spot⟩ := a
        simp only at hs
        subst hs
        refine .inr ⟨b, off, rfl, fun i hi => ?_⟩
        rw [hlen] at hi
        obtain ⟨h1, h2, h3⟩ := hq i hi
        refine ⟨(q i).1, h1, fun j hj => ?_, ?_⟩
        · have := h2 j hj
          rwa [Go.WideShapes.add_plain, ← Nat.add_assoc] at this
        · have e : ((List.range len).map fun i => (q i).2).getD i z = (q i).2 := by simp [List.getD, hi]
          rw [e]; exact h3

set_option maxRecDepth 100000 in
theorem open_str {n : Nat} {cs : List Value} {y : DataW H × List MemPlace} (h : DataW.trod enc Tryz.prog W 0 (fun _ => true) true n 9 cs = some y) (hw : ∀ x ∈ y.1.weights Tryz.prog 9, x ≤ reachBytes) : ∃ s : ByteArray, cs = [.string s] ∧ s.size ≤ 140737488355328 := by
  obtain ⟨s, rfl, rfl, hs⟩ := DataW.trod_string Tryz.underlying9 h
  refine ⟨s, rfl, ?_⟩
  have := hw s.data.toList.length (by simp [DataW.weights])
  have e : s.data.toList.length = s.size := ls_size s
  simp only [reachBytes] at this
  omega
set_option maxRecDepth 100000 in
theorem open_ints2 {n : Nat} {v : Value} {y : DataW H × List MemPlace} (h : DataW.trod enc Tryz.prog W 0 (fun _ => true) true n 56 [v] = some y) (hw : ∀ x ∈ y.1.weights Tryz.prog 56, x ≤ reachBytes) :
    ∃ (a : Option Addr) (xs : List Int) (ca : Nat), v = .slice a xs.length ca ∧ CapOk a ca xs.length ∧ xs.length ≤ 35184372088832 ∧ IntsAt W a xs := by
  obtain ⟨a, xs, ca, h1, h2, h3, h4⟩ := open_rowG (0 : Int) (fun cs x => cs = [.int .i64 x]) Tryz.underlying56 Tryz.cells3 (by omega) (fun n cs y h _ => by
    obtain ⟨x, hx, _⟩ := DataW.trod_int Tryz.underlying3 h
    exact ⟨x, hx⟩) h hw
  refine ⟨a, xs, ca, h1, h2, ?_, ?_⟩
  · rw [Tryz.bytes3] at h3; simp only [reachBytes] at h3; omega
  · rcases h4 with h4 | ⟨b, o, rfl, h5⟩
    · exact .inl h4
    · refine .inr ⟨b, o, rfl, fun i hi => ?_⟩
      obtain ⟨cs, _, h6, rfl⟩ := h5 i hi
      have := h6 0 (by omega)
      rw [Nat.mul_one, Nat.add_zero] at this
      exact this
set_option maxRecDepth 100000 in
theorem open_links {n : Nat} {v : Value} {y : DataW H × List MemPlace} (h : DataW.trod enc Tryz.prog W 0 (fun _ => true) true n 57 [v] = some y) (hw : ∀ x ∈ y.1.weights Tryz.prog 57, x ≤ reachBytes) :
    ∃ (a : Option Addr) (xs : List LinkD) (ca : Nat), v = .slice a xs.length ca ∧ CapOk a ca xs.length ∧ xs.length ≤ 35184372088832 ∧ LinksAt W a xs ∧ ∀ l ∈ xs, l.1.size ≤ 140737488355328 := by
  obtain ⟨a, xs, ca, h1, h2, h3, h4⟩ := open_rowG lk0 (fun cs x => cs = [.string x.1, .int .i64 x.2] ∧ x.1.size ≤ 140737488355328) Tryz.underlying57 Tryz.cells63 (by omega) (fun n cs y h hw => by
    obtain ⟨xs, k, _, rfl, hl, hxl, hf⟩ := DataW.trod_struct Tryz.underlying63 h
    rw [Tryz.cells63] at hl
    match xs, hxl, cs, hl with
    | [y0, y1], _, [v0, v1], _ =>
      have g0 := hf 0 _ rfl
      have g1 := hf 1 _ rfl
      simp [Tryz.cells9, Tryz.cells3] at g0 g1
      obtain ⟨s, hs, hsz⟩ := open_str g0 (fun x hx => hw x (by simp only [DataW.weights, DataW.weightsEach, Tryz.underlying63, List.map_cons, List.map_nil]; exact List.mem_append.2 (Or.inl hx)))
      obtain ⟨i, hi, _⟩ := DataW.trod_int Tryz.underlying3 g1
      simp only [List.cons.injEq, and_true] at hs hi
      subst hs; subst hi
      exact ⟨(s, i), rfl, hsz⟩) h hw
  refine ⟨a, xs, ca, h1, h2, ?_, ?_, ?_⟩
  · rw [Tryz.bytes63] at h3; simp only [reachBytes] at h3; omega
  · rcases h4 with h4 | ⟨b, o, rfl, h5⟩
    · exact .inl h4
    · refine .inr ⟨b, o, rfl, fun i hi => ?_⟩
      obtain ⟨cs, _, h6, rfl, _⟩ := h5 i hi
      have e0 := h6 0 (by omega)
      have e1 := h6 1 (by omega)
      exact ⟨e0, e1⟩
  · intro l hl
    rcases h4 with h4 | ⟨b, o, rfl, h5⟩
    · rw [h4] at hl; simp at hl
    · obtain ⟨i, hi, rfl⟩ := List.getElem_of_mem hl
      obtain ⟨cs, _, _, _, h6⟩ := h5 i hi
      simpa [List.getD, hi] using h6
set_option maxRecDepth 100000 in
theorem open_files {n : Nat} {v : Value} {y : DataW H × List MemPlace} (h : DataW.trod enc Tryz.prog W 0 (fun _ => true) true n 22 [v] = some y) (hw : ∀ x ∈ y.1.weights Tryz.prog 22, x ≤ reachBytes) :
    ∃ (a : Option Addr) (fs : List FileD) (ca : Nat), v = .slice a fs.length ca ∧ CapOk a ca fs.length ∧ fs.length ≤ 35184372088832 ∧ FilesAt W a fs ∧ ∀ f ∈ fs, LooseF f := by
  obtain ⟨a, xs, ca, h1, h2, h3, h4⟩ := open_rowG f0 (fun cs f => (∃ ab cb al cl, cs = fcells f ab cb al cl ∧ (IntsAt W ab f.blocks ∧ CapOk ab cb f.blocks.length) ∧ LinksAt W al f.list ∧ CapOk al cl f.list.length) ∧ LooseF f) Tryz.underlying22 Tryz.cells59 (by omega) (fun n cs y h hw => by
    obtain ⟨xs, k, _, rfl, hl, hxl, hf⟩ := DataW.trod_struct Tryz.underlying59 h
    rw [Tryz.cells59] at hl
    match xs, hxl, cs, hl with
    | [y0, y1, y2, y3, y4], _, [v0, v1, v2, v3, v4], _ =>
      have g0 := hf 0 _ rfl
      have g1 := hf 1 _ rfl
      have g2 := hf 2 _ rfl
      have g3 := hf 3 _ rfl
      have g4 := hf 4 _ rfl
      simp [Tryz.cells3, Tryz.cells4, Tryz.cells56, Tryz.cells57] at g0 g1 g2 g3 g4
      obtain ⟨id, hid, _⟩ := DataW.trod_int Tryz.underlying3 g0
      obtain ⟨dir, hdir, _⟩ := DataW.trod_bool Tryz.underlying4 g1
      obtain ⟨size, hsize, _⟩ := DataW.trod_int Tryz.underlying3 g2
      obtain ⟨ab, bl, cb, e3, q3, q4, q5⟩ := open_ints2 g3 (fun x hx => hw x (by simp only [DataW.weights, DataW.weightsEach, Tryz.underlying59, List.map_cons, List.map_nil]; exact List.mem_append.2 (Or.inr (List.mem_append.2 (Or.inr (List.mem_append.2 (Or.inr (List.mem_append.2 (Or.inl hx)))))))))
      obtain ⟨al, li, cl, e4, q6, q7, q8, q9⟩ := open_links g4 (fun x hx => hw x (by simp only [DataW.weights, DataW.weightsEach, Tryz.underlying59, List.map_cons, List.map_nil]; exact List.mem_append.2 (Or.inr (List.mem_append.2 (Or.inr (List.mem_append.2 (Or.inr (List.mem_append.2 (Or.inr (List.mem_append.2 (Or.inl hx)))))))))))
      simp only [List.cons.injEq, and_true] at hid hdir hsize
      subst hid; subst hdir; subst hsize; subst e3; subst e4
      exact ⟨⟨id, dir, size, bl, li⟩, ⟨ab, cb, al, cl, rfl, ⟨q5, q3⟩, q8, q6⟩, q4, q7, q9⟩) h hw
  refine ⟨a, xs, ca, h1, h2, ?_, ?_, ?_⟩
  · rw [Tryz.bytes59] at h3; simp only [reachBytes] at h3; omega
  · rcases h4 with h4 | ⟨b, o, rfl, h5⟩
    · exact .inl h4
    · refine .inr ⟨b, o, rfl, fun i hi => ?_⟩
      obtain ⟨cs, _, h6, ⟨ab, cb, al, cl, rfl, h7⟩, _⟩ := h5 i hi
      have e0 := h6 0 (by omega)
      have e1 := h6 1 (by omega)
      have e2 := h6 2 (by omega)
      have e3 := h6 3 (by omega)
      have e4 := h6 4 (by omega)
      exact ⟨ab, cb, al, cl, ⟨e0, e1, e2, e3, e4⟩, h7⟩
  · intro l hl
    rcases h4 with h4 | ⟨b, o, rfl, h5⟩
    · rw [h4] at hl; simp at hl
    · obtain ⟨i, hi, rfl⟩ := List.getElem_of_mem hl
      obtain ⟨cs, _, _, _, h6⟩ := h5 i hi
      simpa [List.getD, hi] using h6
set_option maxRecDepth 100000 in
theorem open_acts {n : Nat} {v : Value} {y : DataW H × List MemPlace} (h : DataW.trod enc Tryz.prog W 0 (fun _ => true) true n 25 [v] = some y) (hw : ∀ x ∈ y.1.weights Tryz.prog 25, x ≤ reachBytes) :
    ∃ (a : Option Addr) (xs : List ActD) (ca : Nat), v = .slice a xs.length ca ∧ CapOk a ca xs.length ∧ ActsAt W a xs ∧ LooseA xs := by
  obtain ⟨a, xs, ca, h1, h2, h3, h4⟩ := open_rowG act0 (fun cs x => cs = [.int .i64 x.act, .string x.p, .string x.q] ∧ x.p.size ≤ 140737488355328 ∧ x.q.size ≤ 140737488355328) Tryz.underlying25 Tryz.cells31 (by omega) (fun n cs y h hw => by
    obtain ⟨xs, k, _, rfl, hl, hxl, hf⟩ := DataW.trod_struct Tryz.underlying31 h
    rw [Tryz.cells31] at hl
    match xs, hxl, cs, hl with
    | [y0, y1, y2], _, [v0, v1, v2], _ =>
      have g0 := hf 0 _ rfl
      have g1 := hf 1 _ rfl
      have g2 := hf 2 _ rfl
      simp [Tryz.cells9, Tryz.cells3] at g0 g1 g2
      obtain ⟨i, hi, _⟩ := DataW.trod_int Tryz.underlying3 g0
      obtain ⟨p, hp, hpz⟩ := open_str g1 (fun x hx => hw x (by simp only [DataW.weights, DataW.weightsEach, Tryz.underlying31, List.map_cons, List.map_nil]; exact List.mem_append.2 (Or.inr (List.mem_append.2 (Or.inl hx)))))
      obtain ⟨q, hq, hqz⟩ := open_str g2 (fun x hx => hw x (by simp only [DataW.weights, DataW.weightsEach, Tryz.underlying31, List.map_cons, List.map_nil]; exact List.mem_append.2 (Or.inr (List.mem_append.2 (Or.inr (List.mem_append.2 (Or.inl hx)))))))
      simp only [List.cons.injEq, and_true] at hi hp hq
      subst hi; subst hp; subst hq
      exact ⟨⟨i, p, q⟩, rfl, hpz, hqz⟩) h hw
  refine ⟨a, xs, ca, h1, h2, ?_, ?_, ?_⟩
  · rcases h4 with h4 | ⟨b, o, rfl, h5⟩
    · exact .inl h4
    · refine .inr ⟨b, o, rfl, fun i hi => ?_⟩
      obtain ⟨cs, _, h6, rfl, _⟩ := h5 i hi
      have e0 := h6 0 (by omega)
      have e1 := h6 1 (by omega)
      have e2 := h6 2 (by omega)
      exact ⟨e0, e1, e2⟩
  · rw [Tryz.bytes31] at h3; simp only [reachBytes] at h3; omega
  · intro l hl
    rcases h4 with h4 | ⟨b, o, rfl, h5⟩
    · rw [h4] at hl; simp at hl
    · obtain ⟨i, hi, rfl⟩ := List.getElem_of_mem hl
      obtain ⟨cs, _, _, _, h6⟩ := h5 i hi
      simpa [List.getD, hi] using h6

set_option maxRecDepth 100000 in
theorem open_script {r : Go.Reach} {b0 : Nat} {v : Value} {d : DataW H} {p : List MemPlace} (hv : Value.okWide Tryz.prog W r b0 27 v) (h : DataW.Trod enc Tryz.prog W 0 (fun _ => true) true 27 v d p) (hw : ∀ x ∈ d.weights Tryz.prog 27, x ≤ reachBytes) :
    ∃ (e : VolD) (l : List ActD), ScrVal W v e l ∧ LooseV e ∧ LooseA l := by
  obtain ⟨cs, rfl, hsz⟩ := okWide_struct Tryz.underlying27 hv
  rw [Tryz.cells27] at hsz
  obtain ⟨cl⟩ := cs
  obtain ⟨fuel, hf⟩ := h
  match cl, hsz with
  | [v0, v1, v2, v3, v4, v5], _ =>
    obtain ⟨y0, y1, n, hx, _, h0, h1⟩ := trod_struct2 Tryz.underlying27 hf
    simp only [Prod.mk.injEq] at hx
    obtain ⟨rfl, rfl⟩ := hx
    simp [Value.cells, Tryz.cells24, Tryz.cells25] at h0 h1
    have hw0 : ∀ x ∈ y0.1.weights Tryz.prog 24, x ≤ reachBytes := fun x hx => hw x (by simp only [DataW.weights, DataW.weightsEach, Tryz.underlying27, List.map_cons, List.map_nil]; exact List.mem_append.2 (Or.inl hx))
    obtain ⟨aL, l, cL, rfl, hcL, hL, hlL⟩ := open_acts h1 (fun x hx => hw x (by simp only [DataW.weights, DataW.weightsEach, Tryz.underlying27, List.map_cons, List.map_nil]; exact List.mem_append.2 (Or.inr (List.mem_append.2 (Or.inl hx)))))
    obtain ⟨xs, k, _, rfl, hl, hxl, hf⟩ := DataW.trod_struct Tryz.underlying24 h0
    match xs, hxl with
    | [z0, z1, z2, z3, z4], _ =>
      have g0 := hf 0 _ rfl
      have g1 := hf 1 _ rfl
      have g2 := hf 2 _ rfl
      have g3 := hf 3 _ rfl
      have g4 := hf 4 _ rfl
      simp [Tryz.cells3, Tryz.cells4, Tryz.cells22] at g0 g1 g2 g3 g4
      obtain ⟨id, hid, _⟩ := DataW.trod_int Tryz.underlying3 g0
      obtain ⟨fr, hfr, _⟩ := DataW.trod_int Tryz.underlying3 g1
      obtain ⟨snap, hsn, _⟩ := DataW.trod_bool Tryz.underlying4 g2
      obtain ⟨next, hnx, _⟩ := DataW.trod_int Tryz.underlying3 g4
      obtain ⟨av, fs, ca, e3, q3, q4, q5, q6⟩ := open_files g3 (fun x hx => hw0 x (by simp only [DataW.weights, DataW.weightsEach, Tryz.underlying24, List.map_cons, List.map_nil]; exact List.mem_append.2 (Or.inr (List.mem_append.2 (Or.inr (List.mem_append.2 (Or.inr (List.mem_append.2 (Or.inl hx)))))))))
      simp only [List.cons.injEq, and_true] at hid hfr hsn hnx
      subst hid; subst hfr; subst hsn; subst hnx; subst e3
      exact ⟨⟨id, fr, snap, fs, next⟩, l, ⟨av, ca, aL, cL, rfl, ⟨av, ca, rfl, q5, q3⟩, hL, hcL⟩, ⟨q4, q6⟩, hlL⟩
end

end Go.Proofs.YtdpighcaieajjabGreat

/- The library's sort, laid at this program. -/
namespace Go.Proofs
open Go.Shelf

def Tryz.sortLk_ren : Go.Shelf.Ren := ⟨fun | 6 => 108 | 15 => 123 | 14 => 122 | 28 => 142 | 29 => 143 | 20 => 134 | 21 => 135 | 22 => 136 | 23 => 137 | 24 => 138 | 25 => 139 | 26 => 140 | 27 => 141 | 46 => 149 | 47 => 150 | 48 => 151 | 49 => 152 | 50 => 153 | 57 => 157 | n => n, fun | 22 => 57 | 24 => 63 | 25 => 133 | 3 => 3 | 39 => 66 | 0 => 0 | 53 => 167 | 55 => 169 | 4 => 4 | 46 => 161 | 45 => 160 | 50 => 114 | 5 => 5 | 9 => 9 | 66 => 172 | 70 => 176 | 76 => 181 | 77 => 78 | n => n, fun | n => n⟩
theorem Tryz.sortLk : Go.Proofs.SlLaysF0.n6 Tryz.prog Tryz.sortLk_ren := {
  mixed := by kernel_rfl
  f6 := ⟨Tryz.f108.name, by decide, Tryz.func108.trans (congrArg some (by kernel_rfl))⟩
  f14 := ⟨Tryz.f122.name, by decide, Tryz.func122.trans (congrArg some (by kernel_rfl))⟩
  f15 := Tryz.func123.trans (congrArg some (by kernel_rfl))
  f20 := ⟨Tryz.f134.name, by decide, Tryz.func134.trans (congrArg some (by kernel_rfl))⟩
  f21 := ⟨Tryz.f135.name, by decide, Tryz.func135.trans (congrArg some (by kernel_rfl))⟩
  f22 := ⟨Tryz.f136.name, by decide, Tryz.func136.trans (congrArg some (by kernel_rfl))⟩
  f23 := ⟨Tryz.f137.name, by decide, Tryz.func137.trans (congrArg some (by kernel_rfl))⟩
  f24 := ⟨Tryz.f138.name, by decide, Tryz.func138.trans (congrArg some (by kernel_rfl))⟩
  f25 := ⟨Tryz.f139.name, by decide, Tryz.func139.trans (congrArg some (by kernel_rfl))⟩
  f26 := ⟨Tryz.f140.name, by decide, Tryz.func140.trans (congrArg some (by kernel_rfl))⟩
  f27 := ⟨Tryz.f141.name, by decide, Tryz.func141.trans (congrArg some (by kernel_rfl))⟩
  f28 := Tryz.func142.trans (congrArg some (by kernel_rfl))
  f29 := Tryz.func143.trans (congrArg some (by kernel_rfl))
  f46 := ⟨Tryz.f149.name, by decide, Tryz.func149.trans (congrArg some (by kernel_rfl))⟩
  f47 := Tryz.func150.trans (congrArg some (by kernel_rfl))
  f48 := Tryz.func151.trans (congrArg some (by kernel_rfl))
  f49 := ⟨Tryz.f152.name, by decide, Tryz.func152.trans (congrArg some (by kernel_rfl))⟩
  f50 := ⟨Tryz.f153.name, by decide, Tryz.func153.trans (congrArg some (by kernel_rfl))⟩
  f57 := ⟨Tryz.f157.name, by decide, Tryz.func157.trans (congrArg some (by kernel_rfl))⟩
  t0 := Tryz.underlying0
  a0 := Tryz.isAgg0
  z0 := Tryz.sizeOf0
  v0 := Tryz.zeroValue0
  t3 := Tryz.underlying3
  a3 := Tryz.isAgg3
  z3 := Tryz.sizeOf3
  v3 := Tryz.zeroValue3
  t4 := Tryz.underlying4
  a4 := Tryz.isAgg4
  z4 := Tryz.sizeOf4
  v4 := Tryz.zeroValue4
  t5 := Tryz.underlying5
  a5 := Tryz.isAgg5
  z5 := Tryz.sizeOf5
  v5 := Tryz.zeroValue5
  t9 := Tryz.underlying9
  a9 := Tryz.isAgg9
  z9 := Tryz.sizeOf9
  v9 := Tryz.zeroValue9
  t22 := Tryz.underlying57
  a22 := Tryz.isAgg57
  z22 := Tryz.sizeOf57
  v22 := Tryz.zeroValue57
  t25 := Tryz.underlying133
  a25 := Tryz.isAgg133
  z25 := Tryz.sizeOf133
  v25 := Tryz.zeroValue133
  t39 := Tryz.underlying66
  a39 := Tryz.isAgg66
  z39 := Tryz.sizeOf66
  v39 := Tryz.zeroValue66
  t45 := Tryz.underlying160
  a45 := Tryz.isAgg160
  z45 := Tryz.sizeOf160
  v45 := Tryz.zeroValue160
  t46 := Tryz.underlying161
  a46 := Tryz.isAgg161
  z46 := Tryz.sizeOf161
  v46 := Tryz.zeroValue161
  t50 := Tryz.underlying114
  a50 := Tryz.isAgg114
  z50 := Tryz.sizeOf114
  v50 := Tryz.zeroValue114
  t53 := Tryz.underlying167
  a53 := Tryz.isAgg167
  z53 := Tryz.sizeOf167
  v53 := Tryz.zeroValue167
  t55 := Tryz.underlying169
  a55 := Tryz.isAgg169
  z55 := Tryz.sizeOf169
  v55 := Tryz.zeroValue169
  t66 := Tryz.underlying172
  a66 := Tryz.isAgg172
  z66 := Tryz.sizeOf172
  v66 := Tryz.zeroValue172
  t70 := Tryz.underlying176
  a70 := Tryz.isAgg176
  z70 := Tryz.sizeOf176
  v70 := Tryz.zeroValue176
  t76 := Tryz.underlying181
  a76 := Tryz.isAgg181
  z76 := Tryz.sizeOf181
  v76 := Tryz.zeroValue181
  t77 := Tryz.underlying78
  a77 := Tryz.isAgg78
  z77 := Tryz.sizeOf78
  v77 := Tryz.zeroValue78 }

end Go.Proofs
