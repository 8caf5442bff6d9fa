/- Laid together: Heavyd, Openg, Roomm, Wakesr, Roomc. -/
import Derived.Test.YtheomnafmjmpdaaRoomN10
import Derived.Test.YtheomnafmjmpdaaRows
import Derived.Test.YtheomnafmjmpdaaChecked
import Derived.ProofKit
import Derived.SizedLaws
import Derived.Lib.SmallJoins
import Derived.Deep.Slices
/- Scripts of devices: what is not heavy is small. -/
namespace Go.Proofs.Ytheomnafmjmpdaa
open Go.RowKit

def LooseD (d : DevD) : Prop := d.free.length ≤ 8796093022208 ∧ d.late.length ≤ 8796093022208
def LooseL (ds : List DevD) : Prop := ds.length ≤ 2199023255552 ∧ ∀ d ∈ ds, LooseD d
structure ActD where
  act : Int
  n : Int
  id : Int
  ps : List (Int × Int)
def act0 : ActD := ⟨0, 0, 0, []⟩
def ActIn (w : World) (b o : Nat) (x : ActD) : Prop := ∃ pa pc, (w.cell? ⟨b, o, none⟩ = some (.int .i64 x.act) ∧ w.cell? ⟨b, o + 1, none⟩ = some (.int .i64 x.n) ∧ w.cell? ⟨b, o + 2, none⟩ = some (.int .i64 x.id) ∧ w.cell? ⟨b, o + 3, none⟩ = some (.slice pa x.ps.length pc)) ∧ SegsAt w pa x.ps
def ActsAt (w : World) (a : Option Addr) (l : List ActD) : Prop := l = [] ∨ ∃ b o, a = some ⟨b, o, none⟩ ∧ ∀ i, i < l.length → ActIn w b (o + i * 4) (l.getD i act0)
theorem ActIn.below {w w' : World} {b o : Nat} {x : ActD} (h : ActIn w b o x) (hb : Below w.heap.size w w') : ActIn w' b o x := by
  obtain ⟨pa, pc, ⟨h0, h1, h2, h3⟩, hp⟩ := h
  have hlt := block_lt_of_cell h0
  exact ⟨pa, pc, ⟨(hb.cell (p := ⟨b, o, none⟩) hlt).trans h0, (hb.cell (p := ⟨b, o + 1, none⟩) hlt).trans h1, (hb.cell (p := ⟨b, o + 2, none⟩) hlt).trans h2, (hb.cell (p := ⟨b, o + 3, none⟩) hlt).trans h3⟩, hp.below hb (Nat.le_refl _)⟩
theorem ActsAt.below {w w' : World} {a : Option Addr} {l : List ActD} (h : ActsAt w a l) (hb : Below w.heap.size w w') : ActsAt w' a l := by
  rcases h with rfl | ⟨b, o, rfl, hc⟩
  · exact .inl rfl
  · exact .inr ⟨b, o, rfl, fun i hi => (hc i hi).below hb⟩
theorem ActsAt.act {w : World} {a : Option Addr} {l : List ActD} (h : ActsAt w a l) {i : Nat} (hi : i < l.length) : ∃ b o, a = some ⟨b, o, none⟩ ∧ ActIn w b (o + i * 4) (l.getD i act0) := by
  rcases h with rfl | ⟨b, o, rfl, hc⟩
  · simp at hi
  · exact ⟨b, o, rfl, hc i hi⟩
/-- a script: devices, acts -/
def ScrVal (w : World) (v : Value) (ds : List DevD) (l : List ActD) : Prop := ∃ da dc la lc, v = .agg #[.slice da ds.length dc, .slice la l.length lc] ∧ (DevsAt w da ds ∧ NilOk da dc ds.length) ∧ ActsAt w la l
theorem ScrVal.below {w w' : World} {v : Value} {ds : List DevD} {l : List ActD} (h : ScrVal w v ds l) (hb : Below w.heap.size w w') : ScrVal w' v ds l := by
  obtain ⟨da, dc, la, lc, e, h1, h2⟩ := h
  exact ⟨da, dc, la, lc, e, ⟨h1.1.below hb, h1.2⟩, h2.below hb⟩
def LooseA (l : List ActD) : Prop := l.length ≤ 2932031007402 ∧ ∀ x ∈ l, x.ps.length ≤ 8796093022208
def LightA (l : List ActD) : Prop := l.length ≤ 800 ∧ ∀ x ∈ l, x.ps.length ≤ 800
def FitL (N : Nat) (ds : List DevD) : Prop := N ≤ 1125899906842624 ∧ (N ≤ 800 → SmallL ds)

set_option maxRecDepth 100000 in
set_option maxHeartbeats 2000000 in
theorem weight_dev (a : Option Addr) (ds : List DevD) (ca : Nat) (w : World) (hd : DevsAt w a ds) (hl : LooseL ds) :
    Calls Try.prog 19 #[.slice a ds.length ca] w fun e w' => (∃ N : Nat, e = .returned (.int .i64 N) ∧ FitL N ds) ∧ Below w.heap.size w w' := by
  have HD : Hid (∀ w', Below w.heap.size w w' → DevsAt w' a ds) := fun w' h => hd.below h
  have HL : Hid (∀ d ∈ ds, LooseD d) := hl.2
  have hln := hl.1
  clear hd hl
  go_enter Try.func19, Try.ntmps19
  go_wp2_with fail
  go_loopw [3, 4] (fun n i wr => ∃ (k M : Nat), k ≤ ds.length ∧ i = .int .i64 k ∧ n = .int .i64 M ∧ M ≤ 1125899906842624 ∧ Hid (ds.length ≤ M ∧ ∀ j, j < k → (ds.getD j DZ).free.length + (ds.getD j DZ).late.length ≤ M) ∧ Below w.heap.size w wr)
    (fun _ i _ => ds.length - (intOf i).toNat)
  case atStart => exact ⟨0, ds.length, by omega, rfl, rfl, by omega, ⟨by omega, fun j hj => by omega⟩, nwR w⟩
  case round =>
    obtain ⟨k, M, hk, rfl, rfl, hM, HE, hb⟩ := hrel
    by_cases hkl : k < ds.length
    · have hkli : (k : Int) < (ds.length : Int) := by omega
      by_cases hM2 : M < 1048576
      · have hMi : (M : Int) < 1048576 := by omega
        have hk0 : (0 : Int) ≤ (k : Int) := by omega
        obtain ⟨b1, o1, rfl, hdv⟩ := (HD.out wr hb).dev hkl
        obtain ⟨af, cf, al, cl, ⟨c0, c1, c2, c3⟩, _⟩ := hdv
        obtain ⟨hf, hl2⟩ := HL.out _ (getD_mem DZ hkl)
        have HFK : Hid (∀ M', M + (ds.getD k DZ).free.length + (ds.getD k DZ).late.length = M' → ds.length ≤ M' ∧ ∀ j, j < k + 1 → (ds.getD j DZ).free.length + (ds.getD j DZ).late.length ≤ M') := fun M' h => by
          obtain ⟨h1, h2⟩ := HE.out
          refine ⟨by omega, fun j hj => ?_⟩
          by_cases e : j = k
          · subst e; omega
          · have := h2 j (by omega); omega
        generalize (ds.getD k DZ).free.length = F at c2 hf HFK
        generalize (ds.getD k DZ).late.length = L at c3 hl2 HFK
        have e1 : IntKind.i64.wrap ((M : Int) + (F : Int)) = (M : Int) + (F : Int) := wrap_any (by omega) (by omega)
        have e2 : IntKind.i64.wrap ((M : Int) + (F : Int) + (L : Int)) = (M : Int) + (F : Int) + (L : Int) := wrap_any (by omega) (by omega)
        have HFH := HFK.out (M + F + L) rfl
        have HFG : Hid (ds.length ≤ M + F + L ∧ ∀ j, j < k + 1 → (ds.getD j DZ).free.length + (ds.getD j DZ).late.length ≤ M + F + L) := HFH
        clear HFH HFK c0 c1
        go_wp2_with fail
        go_quiet (fail)
        rename Nat => n1
        go_wp2_with fail
        go_roundw
        case rel => exact ⟨k + 1, M + F + L, by omega, by go_num, by go_num, by omega, HFG, below_drewN hb n1⟩
        case measure => simp [intOf]; omega
      · have hMi : ¬ (M : Int) < 1048576 := by omega
        go_wp2_with fail
        go_ret
        exact ⟨⟨M, rfl, hM, fun h => by omega⟩, hb⟩
    · have hkli : ¬ (k : Int) < (ds.length : Int) := by omega
      go_wp2_with fail
      go_ret
      refine ⟨⟨M, rfl, hM, fun h => ?_⟩, hb⟩
      obtain ⟨h1, h2⟩ := HE.out
      refine ⟨by omega, fun d hd => ?_⟩
      obtain ⟨j, hj, rfl⟩ := List.getElem_of_mem hd
      have h3 := h2 j (by omega)
      have e : ds.getD j DZ = ds[j] := by simp [List.getD, hj]
      rw [e] at h3
      exact ⟨by omega, by omega⟩

def HvPostD (ds : List DevD) (l : List ActD) (w : World) (e : Ending) (w' : World) : Prop := ∃ q : Bool, e = .returned (.bool q) ∧ Below w.heap.size w w' ∧ (q = false → SmallL ds ∧ LightA l)
set_option maxRecDepth 100000 in
set_option maxHeartbeats 2000000 in
theorem heavy_any (v : Value) (ds : List DevD) (l : List ActD) (w : World) (hv : ScrVal w v ds l) (hd : LooseL ds) (hl : LooseA l) : Calls Try.prog 7 #[v] w (HvPostD ds l w) := by
  obtain ⟨av, ca, aL, cL, rfl, ⟨hu, _⟩, hL⟩ := hv
  have HU : Hid (DevsAt w av ds) := hu
  have HL : Hid (ActsAt w aL l) := hL
  have HD : Hid (LooseL ds) := hd
  have hll := hl.1
  have HLA : Hid (∀ x ∈ l, x.ps.length ≤ 8796093022208) := hl.2
  obtain ⟨W0, hW0⟩ : ∃ W0, W0 = w.alloc (.cells #[.slice av ds.length ca, .slice aL l.length cL] 25) := ⟨_, rfl⟩
  have HB0 : Hid (Below w.heap.size w W0) := by rw [hW0]; exact nwA (nwR w) _
  have HR0 : Hid (W0.heap[w.heap.size]? = some (.cells #[.slice av ds.length ca, .slice aL l.length cL] 25 (0, 0))) := by rw [hW0]; exact heap_alloc_new w _
  have HW : Hid (∀ w', Below W0.heap.size W0 w' → Calls Try.prog 19 #[.slice av ds.length ca] w' fun e w'' => (∃ N : Nat, e = .returned (.int .i64 N) ∧ FitL N ds) ∧ Below w'.heap.size w' w'') := fun w' h => weight_dev av ds ca w' (HU.out.below (nwT HB0.out h)) HD.out
  clear hL hd hl hu HU HD
  go_enter Try.func7, Try.ntmps7
  go_wp2_with fail
  rw [← hW0]
  clear hW0
  have hS := nwR W0
  have q0 : ∀ w', Below W0.heap.size W0 w' → w'.cell? ⟨w.heap.size, 0, none⟩ = some (.slice av ds.length ca) := fun w' h => (two ((h.block _ (Array.getElem?_eq_some_iff.1 HR0.out).1).trans HR0.out)).1
  have q2 : ∀ w', Below W0.heap.size W0 w' → w'.cell? ⟨w.heap.size, 1, none⟩ = some (.slice aL l.length cL) := fun w' h => (two ((h.block _ (Array.getElem?_eq_some_iff.1 HR0.out).1).trans HR0.out)).2.1
  go_region_held3 (fun w' => Below W0.heap.size W0 w') (first | assumption | exact Below.drew (by assumption) | exact nwT (by assumption) (by assumption)) (first
    | (go_at_call 19; refine (HW.out _ (by first | assumption | exact Below.drew (by assumption))).mono ?_; rintro e w1 ⟨⟨N, rfl, HN⟩, hb1⟩; have hN := HN.1; have HNN : Hid (FitL N ds) := HN; have e1 : IntKind.i64.wrap ((N : Int) + (l.length : Int)) = (N : Int) + (l.length : Int) := wrap_any (by omega) (by omega))
    | fail)
  have hbq : Below W0.heap.size W0 w1 := by assumption
  have HB1 : Hid (Below w.heap.size w w1) := nwT HB0.out hbq
  have HL1 : Hid (ActsAt w1 aL l) := HL.out.below HB1.out
  have HC5 : Hid (∀ w', Below w1.heap.size w1 w' → w'.cell? ⟨w.heap.size, 1, none⟩ = some (.slice aL l.length cL)) := fun w' h => q2 w' (nwT hbq h)
  clear hb1 hbq q0 q2 HL hS HN e1 HW
  go_wp2_with fail
  go_loopw [3, 4] (fun n i wr => ∃ (k M : Nat), k ≤ l.length ∧ i = .int .i64 k ∧ n = .int .i64 M ∧ M ≤ 2251799813685248 ∧ Hid (N + l.length ≤ M ∧ ∀ j, j < k → (l.getD j act0).ps.length ≤ M) ∧ Below w1.heap.size w1 wr)
    (fun _ i _ => l.length - (intOf i).toNat)
  case atStart => exact ⟨0, N + l.length, by omega, rfl, by go_num, by omega, ⟨by omega, fun j hj => by omega⟩, nwR w1⟩
  case round =>
    obtain ⟨k, M, hk, rfl, rfl, hM, HE, hb⟩ := hrel
    have HBW : Hid (Below w.heap.size w wr) := nwT HB1.out hb
    have x5 := HC5.out _ hb
    by_cases hkl : k < l.length
    · have hkli : (k : Int) < (l.length : Int) := by omega
      by_cases hM2 : M < 1048576
      · have hMi : (M : Int) < 1048576 := by omega
        have hk0 : (0 : Int) ≤ (k : Int) := by omega
        obtain ⟨b1, o1, rfl, pa, pc, ⟨c0, c1, c2, c3⟩, _⟩ := (HL1.out.below hb).act hkl
        have hpl := HLA.out _ (getD_mem act0 hkl)
        have HFK : Hid (∀ M', M + (l.getD k act0).ps.length = M' → N + l.length ≤ M' ∧ ∀ j, j < k + 1 → (l.getD j act0).ps.length ≤ M') := fun M' h => by
          obtain ⟨h1, h2⟩ := HE.out
          refine ⟨by omega, fun j hj => ?_⟩
          by_cases e : j = k
          · subst e; omega
          · have := h2 j (by omega); omega
        generalize (l.getD k act0).ps.length = A at c3 hpl HFK
        have e1 : IntKind.i64.wrap ((M : Int) + (A : Int)) = (M : Int) + (A : Int) := wrap_any (by omega) (by omega)
        have HFG : Hid (N + l.length ≤ M + A ∧ ∀ j, j < k + 1 → (l.getD j act0).ps.length ≤ M + A) := HFK.out (M + A) rfl
        clear HFK c0 c1 c2
        go_wp2_with fail
        go_roundw
        case rel => exact ⟨k + 1, M + A, by omega, by go_num, by go_num, by omega, HFG, hb⟩
        case measure => simp [intOf]; omega
      · have hMi : ¬ (M : Int) < 1048576 := by omega
        go_wp2_with fail
        go_ret
        exact ⟨_, rfl, HBW.out, fun h => by simp at h; omega⟩
    · have hkli : ¬ (k : Int) < (l.length : Int) := by omega
      go_wp2_with fail
      go_ret
      refine ⟨_, rfl, HBW.out, fun h => ?_⟩
      have hM3 : M ≤ 800 := by simp at h; omega
      obtain ⟨h1, h3⟩ := HE.out
      refine ⟨HNN.out.2 (by omega), by omega, fun x hx => ?_⟩
      obtain ⟨j, hj, rfl⟩ := List.getElem_of_mem hx
      have hf := h3 j (by omega)
      have e : l.getD j act0 = l[j] := by simp [List.getD, hj]
      rw [e] at hf
      omega

end Go.Proofs.Ytheomnafmjmpdaa

/- The argument of the laws, opened: devices, acts. -/
namespace Go.Proofs.Ytheomnafmjmpdaa
open Go.ChangeShapes Go.WideShapes Go.ChangeAt Go.RowKit Go.Deep Go.Joins

theorem Try.own : ownKnob Try.prog.godebug = none := by kernel_rfl
theorem Try.laidOut : laidOutB Try.prog = true := by kernel_rfl
theorem Try.cells3 : Try.prog.cellsOf 3 = 1 := by kernel_rfl
theorem Try.cells4 : Try.prog.cellsOf 4 = 1 := by kernel_rfl
theorem Try.cells22 : Try.prog.cellsOf 22 = 1 := by kernel_rfl
theorem Try.cells23 : Try.prog.cellsOf 23 = 1 := by kernel_rfl
theorem Try.cells25 : Try.prog.cellsOf 25 = 2 := by kernel_rfl
theorem Try.cells30 : Try.prog.cellsOf 30 = 1 := by kernel_rfl
theorem Try.cells32 : Try.prog.cellsOf 32 = 4 := by kernel_rfl
theorem Try.cells45 : Try.prog.cellsOf 45 = 2 := by kernel_rfl
theorem Try.cells49 : Try.prog.cellsOf 49 = 1 := by kernel_rfl
theorem Try.cells51 : Try.prog.cellsOf 51 = 4 := by kernel_rfl
theorem Try.cells67 : Try.prog.cellsOf 67 = 2 := by kernel_rfl
theorem Try.bytes32 : Try.prog.bytesOf 32 = 48 := by kernel_rfl
theorem Try.bytes45 : Try.prog.bytesOf 45 = 16 := by kernel_rfl
theorem Try.bytes67 : Try.prog.bytesOf 67 = 16 := by kernel_rfl
theorem Try.bytes51 : Try.prog.bytesOf 51 = 64 := by kernel_rfl
section
variable {H : Type}
theorem mem_all {P : Program} {e : TypeId} {x : Nat} (d : DataW H) : ∀ {ds : List (DataW H)}, d ∈ ds → x ∈ d.weights P e → x ∈ DataW.weightsAll P e ds
  | [], h, _ => by simp at h
  | d' :: r, h, hx => by
    simp only [DataW.weightsAll, List.mem_append]
    rcases List.mem_cons.1 h with rfl | h
    · exact Or.inl hx
    · exact Or.inr (mem_all d h hx)
end

section
variable {H : Type} {enc : TypeId × Value → H} {W : World}

set_option maxRecDepth 100000 in
theorem open_rowG {α : Type} (z : α) {t e : TypeId} {k : Nat} (R : List Value → α → Prop) (ht : Try.prog.underlying t = some (.slice e)) (hk : Try.prog.cellsOf e = k) (hk0 : 0 < k)
    (hel : ∀ n cs y, DataW.trod enc Try.prog W 0 (fun _ => true) true n e cs = some y → (∀ x ∈ y.1.weights Try.prog e, x ≤ reachBytes) → ∃ x, R cs x)
    {n : Nat} {v : Value} {y : DataW H × List MemPlace} (h : DataW.trod enc Try.prog W 0 (fun _ => true) true n t [v] = some y) (hw : ∀ x ∈ y.1.weights Try.prog t, x ≤ reachBytes) :
    ∃ (a : Option Addr) (xs : List α) (ca : Nat), v = .slice a xs.length ca ∧ NilOk a ca xs.length ∧ xs.length * Try.prog.bytesOf e ≤ reachBytes ∧ (xs = [] ∨ ∃ b o, a = some ⟨b, o, none⟩ ∧ ∀ i, i < xs.length → ∃ cs, cs.length = k ∧ (∀ j, j < k → W.cell? ⟨b, o + i * k + j, none⟩ = cs[j]?) ∧ R cs (xs.getD i z)) := by
  rcases open_slice ht h with ⟨hcs, _⟩ | ⟨a, len, cap, m, n', D, Pl, hcs, _, hl, hm, hmm, hx, hc⟩
  · exact ⟨none, [], 0, by simpa using hcs, ⟨Nat.le_refl _, fun _ => rfl⟩, by simp, .inl rfl⟩
  · simp only [if_true] at hmm
    subst hmm
    have hx1 : y.1 = .slice ((List.range len).map D) ((List.range (m - len)).map fun j => D (len + j)) := by rw [hx]
    rw [hk] at hc
    haveI : Inhabited (List Value × α) := ⟨([], z)⟩
    have each : ∀ i, i < len → ∃ q : List Value × α, q.1.length = k ∧ (∀ j, j < k → W.cell? (a.add (i * k + j)) = q.1[j]?) ∧ R q.1 q.2 := by
      intro i hi
      obtain ⟨cs', h1, h2⟩ := hc i (by omega)
      obtain ⟨_, hlen, hcell⟩ := World.cells?_some h1
      obtain ⟨x, hx2⟩ := hel _ _ _ h2 (fun x hxw => hw x (by
        rw [hx1]
        simp only [DataW.weights, ht, List.mem_cons, List.mem_append]
        exact Or.inr (Or.inl (mem_all (D i) (List.mem_map.2 ⟨i, List.mem_range.2 hi, rfl⟩) hxw))))
      exact ⟨(cs', x), hlen, fun j hj => by rw [← add_add]; exact hcell j hj, hx2⟩
    obtain ⟨q, hq⟩ := choose_lt each
    have hlen : ((List.range len).map fun i => (q i).2).length = len := by simp
    have hspot : 0 < len → a.spot = none := fun h0 => by
      obtain ⟨h1, h2, _⟩ := hq 0 h0
      have h3 := h2 0 hk0
      rw [Nat.zero_mul, Nat.add_zero, List.getElem?_eq_getElem (show 0 < (q 0).1.length by omega)] at h3
      have := World.cell?_spot h3
      simpa [Addr.add] using this
    refine ⟨some a, (List.range len).map fun i => (q i).2, m, ?_, ?_, ?_, ?_⟩
    · rw [hlen]; simpa using hcs
    · exact ⟨by rw [hlen]; exact hl, (fun e => by cases e)⟩
    · have := hw ((len + (m - len)) * Try.prog.bytesOf e) (by rw [hx1]; simp [DataW.weights, ht])
      rw [hlen]
      exact Nat.le_trans (Nat.mul_le_mul_right _ (by omega)) this
    · by_cases h0 : len = 0
      · exact .inl (by rw [h0]; rfl)
      · have hs := hspot (by omega)
        obtain ⟨b, off, spot⟩ := a
        simp only at hs
        subst hs
        refine .inr ⟨b, off, rfl, fun i hi => ?_⟩
        rw [hlen] at hi
        obtain ⟨h1, h2, h3⟩ := hq i hi
        refine ⟨(q i).1, h1, fun j hj => ?_, ?_⟩
        · have := h2 j hj
          rwa [Go.WideShapes.add_plain, ← Nat.add_assoc] at this
        · have e : ((List.range len).map fun i => (q i).2).getD i z = (q i).2 := by simp [List.getD, hi]
          rw [e]; exact h3

set_option maxRecDepth 100000 in
theorem open_segs {n : Nat} {v : Value} {y : DataW H × List MemPlace} (h : DataW.trod enc Try.prog W 0 (fun _ => true) true n 49 [v] = some y) (hw : ∀ x ∈ y.1.weights Try.prog 49, x ≤ reachBytes) :
    ∃ (a : Option Addr) (xs : List (Int × Int)) (ca : Nat), v = .slice a xs.length ca ∧ NilOk a ca xs.length ∧ xs.length ≤ 8796093022208 ∧ SegsAt W a xs := by
  obtain ⟨a, xs, ca, h1, h2, h3, h4⟩ := open_rowG ((0, 0) : Int × Int) (fun cs x => cs = [.int .i64 x.1, .int .i64 x.2]) Try.underlying49 Try.cells67 (by omega) (fun n cs y h hw => by
    obtain ⟨xs, k, _, rfl, hl, hxl, hf⟩ := DataW.trod_struct Try.underlying67 h
    rw [Try.cells67] at hl
    match xs, hxl, cs, hl with
    | [y0, y1], _, [v0, v1], _ =>
      have g0 := hf 0 _ rfl
      have g1 := hf 1 _ rfl
      simp [Try.cells3] at g0 g1
      obtain ⟨i, hi, _⟩ := DataW.trod_int Try.underlying3 g0
      obtain ⟨j, hj, _⟩ := DataW.trod_int Try.underlying3 g1
      simp only [List.cons.injEq, and_true] at hi hj
      subst hi; subst hj
      exact ⟨(i, j), rfl⟩) h hw
  refine ⟨a, xs, ca, h1, h2, ?_, ?_⟩
  · rw [Try.bytes67] at h3; simp only [reachBytes] at h3; omega
  · intro i hi
    rcases h4 with h4 | ⟨b, o, rfl, h5⟩
    · rw [h4] at hi; simp at hi
    · obtain ⟨cs, _, h6, rfl⟩ := h5 i hi
      exact ⟨b, o, rfl, h6 0 (by omega), h6 1 (by omega)⟩
set_option maxRecDepth 100000 in
theorem open_ptrs {n : Nat} {v : Value} {y : DataW H × List MemPlace} (h : DataW.trod enc Try.prog W 0 (fun _ => true) true n 30 [v] = some y) (hw : ∀ x ∈ y.1.weights Try.prog 30, x ≤ reachBytes) :
    ∃ (a : Option Addr) (xs : List (Int × Int)) (ca : Nat), v = .slice a xs.length ca ∧ NilOk a ca xs.length ∧ xs.length ≤ 8796093022208 ∧ SegsAt W a xs := by
  obtain ⟨a, xs, ca, h1, h2, h3, h4⟩ := open_rowG ((0, 0) : Int × Int) (fun cs x => cs = [.int .i64 x.1, .int .i64 x.2]) Try.underlying30 Try.cells45 (by omega) (fun n cs y h hw => by
    obtain ⟨xs, k, _, rfl, hl, hxl, hf⟩ := DataW.trod_struct Try.underlying45 h
    rw [Try.cells45] at hl
    match xs, hxl, cs, hl with
    | [y0, y1], _, [v0, v1], _ =>
      have g0 := hf 0 _ rfl
      have g1 := hf 1 _ rfl
      simp [Try.cells3] at g0 g1
      obtain ⟨i, hi, _⟩ := DataW.trod_int Try.underlying3 g0
      obtain ⟨j, hj, _⟩ := DataW.trod_int Try.underlying3 g1
      simp only [List.cons.injEq, and_true] at hi hj
      subst hi; subst hj
      exact ⟨(i, j), rfl⟩) h hw
  refine ⟨a, xs, ca, h1, h2, ?_, ?_⟩
  · rw [Try.bytes45] at h3; simp only [reachBytes] at h3; omega
  · intro i hi
    rcases h4 with h4 | ⟨b, o, rfl, h5⟩
    · rw [h4] at hi; simp at hi
    · obtain ⟨cs, _, h6, rfl⟩ := h5 i hi
      exact ⟨b, o, rfl, h6 0 (by omega), h6 1 (by omega)⟩
set_option maxRecDepth 100000 in
theorem open_dev {n : Nat} {cs : List Value} {y : DataW H × List MemPlace} (h : DataW.trod enc Try.prog W 0 (fun _ => true) true n 51 cs = some y) (hw : ∀ x ∈ y.1.weights Try.prog 51, x ≤ reachBytes) :
    ∃ (d : DevD) (af : Option Addr) (cf : Nat) (al : Option Addr) (cl : Nat), cs = [.int .i64 d.id, .int .i64 d.size, .slice af d.free.length cf, .slice al d.late.length cl] ∧ (SegV W af cf d.free ∧ SegV W al cl d.late) ∧ LooseD d := by
  obtain ⟨xs, k, _, rfl, hl, hxl, hf⟩ := DataW.trod_struct Try.underlying51 h
  rw [Try.cells51] at hl
  match xs, hxl, cs, hl with
  | [z0, z1, z2, z3], _, [v0, v1, v2, v3], _ =>
    have g0 := hf 0 _ rfl
    have g1 := hf 1 _ rfl
    have g2 := hf 2 _ rfl
    have g3 := hf 3 _ rfl
    simp [Try.cells3, Try.cells49] at g0 g1 g2 g3
    obtain ⟨id, hid, _⟩ := DataW.trod_int Try.underlying3 g0
    obtain ⟨size, hsz, _⟩ := DataW.trod_int Try.underlying3 g1
    obtain ⟨af, fr, cf, e2, q1, q2, q3⟩ := open_segs g2 (fun x hx => hw x (by simp only [DataW.weights, DataW.weightsEach, Try.underlying51, List.map_cons, List.map_nil]; exact List.mem_append.2 (Or.inr (List.mem_append.2 (Or.inr (List.mem_append.2 (Or.inl hx)))))))
    obtain ⟨al, lt, cl, e3, p1, p2, p3⟩ := open_segs g3 (fun x hx => hw x (by simp only [DataW.weights, DataW.weightsEach, Try.underlying51, List.map_cons, List.map_nil]; exact List.mem_append.2 (Or.inr (List.mem_append.2 (Or.inr (List.mem_append.2 (Or.inr (List.mem_append.2 (Or.inl hx)))))))))
    simp only [List.cons.injEq, and_true] at hid hsz
    subst hid; subst hsz; subst e2; subst e3
    exact ⟨⟨id, size, fr, lt⟩, af, cf, al, cl, rfl, ⟨⟨q3, q1⟩, p3, p1⟩, q2, p2⟩
set_option maxRecDepth 100000 in
theorem open_devs {n : Nat} {v : Value} {y : DataW H × List MemPlace} (h : DataW.trod enc Try.prog W 0 (fun _ => true) true n 22 [v] = some y) (hw : ∀ x ∈ y.1.weights Try.prog 22, x ≤ reachBytes) :
    ∃ (a : Option Addr) (xs : List DevD) (ca : Nat), v = .slice a xs.length ca ∧ NilOk a ca xs.length ∧ DevsAt W a xs ∧ LooseL xs := by
  obtain ⟨a, xs, ca, h1, h2, h3, h4⟩ := open_rowG DZ (fun cs d => ∃ (af : Option Addr) (cf : Nat) (al : Option Addr) (cl : Nat), cs = [.int .i64 d.id, .int .i64 d.size, .slice af d.free.length cf, .slice al d.late.length cl] ∧ (SegV W af cf d.free ∧ SegV W al cl d.late) ∧ LooseD d) Try.underlying22 Try.cells51 (by omega) (fun n cs y h hw => by
    obtain ⟨d, af, cf, al, cl, h1, h2, h3⟩ := open_dev h hw
    exact ⟨d, af, cf, al, cl, h1, h2, h3⟩) h hw
  refine ⟨a, xs, ca, h1, h2, ?_, ?_, ?_⟩
  · rcases h4 with h4 | ⟨b, o, rfl, h5⟩
    · exact .inl h4
    · refine .inr ⟨b, o, rfl, fun i hi => ?_⟩
      obtain ⟨cs, _, h6, af, cf, al, cl, rfl, ⟨h7, h8⟩, _⟩ := h5 i hi
      have e0 := h6 0 (by omega)
      have e1 := h6 1 (by omega)
      have e2 := h6 2 (by omega)
      have e3 := h6 3 (by omega)
      exact ⟨af, cf, al, cl, ⟨e0, e1, e2, e3⟩, h7, h8⟩
  · rw [Try.bytes51] at h3; simp only [reachBytes] at h3; omega
  · intro d hd
    rcases h4 with h4 | ⟨b, o, rfl, h5⟩
    · rw [h4] at hd; simp at hd
    · obtain ⟨i, hi, rfl⟩ := List.getElem_of_mem hd
      obtain ⟨cs, _, _, af, cf, al, cl, _, _, h6⟩ := h5 i hi
      simpa [List.getD, hi] using h6
set_option maxRecDepth 100000 in
theorem open_acts {n : Nat} {v : Value} {y : DataW H × List MemPlace} (h : DataW.trod enc Try.prog W 0 (fun _ => true) true n 23 [v] = some y) (hw : ∀ x ∈ y.1.weights Try.prog 23, x ≤ reachBytes) :
    ∃ (a : Option Addr) (xs : List ActD) (ca : Nat), v = .slice a xs.length ca ∧ NilOk a ca xs.length ∧ ActsAt W a xs ∧ LooseA xs ∧ xs.length * 48 ≤ 140737488355328 := by
  obtain ⟨a, xs, ca, h1, h2, h3, h4⟩ := open_rowG act0 (fun cs x => ∃ (a : Option Addr) (c : Nat), cs = [.int .i64 x.act, .int .i64 x.n, .int .i64 x.id, .slice a x.ps.length c] ∧ SegsAt W a x.ps ∧ x.ps.length ≤ 8796093022208) Try.underlying23 Try.cells32 (by omega) (fun n cs y h hw => by
    obtain ⟨xs, k, _, rfl, hl, hxl, hf⟩ := DataW.trod_struct Try.underlying32 h
    rw [Try.cells32] at hl
    match xs, hxl, cs, hl with
    | [y0, y1, y2, y3], _, [v0, v1, v2, v3], _ =>
      have g0 := hf 0 _ rfl
      have g1 := hf 1 _ rfl
      have g2 := hf 2 _ rfl
      have g3 := hf 3 _ rfl
      simp [Try.cells3, Try.cells30] at g0 g1 g2 g3
      obtain ⟨i, hi, _⟩ := DataW.trod_int Try.underlying3 g0
      obtain ⟨j, hj, _⟩ := DataW.trod_int Try.underlying3 g1
      obtain ⟨k, hk, _⟩ := DataW.trod_int Try.underlying3 g2
      obtain ⟨pa, ps, pc, e3, q1, q2, q3⟩ := open_ptrs g3 (fun x hx => hw x (by simp only [DataW.weights, DataW.weightsEach, Try.underlying32, List.map_cons, List.map_nil]; exact List.mem_append.2 (Or.inr (List.mem_append.2 (Or.inr (List.mem_append.2 (Or.inr (List.mem_append.2 (Or.inl hx)))))))))
      simp only [List.cons.injEq, and_true] at hi hj hk
      subst hi; subst hj; subst hk; subst e3
      exact ⟨⟨i, j, k, ps⟩, pa, pc, rfl, q3, q2⟩) h hw
  refine ⟨a, xs, ca, h1, h2, ?_, ⟨?_, ?_⟩, by rw [Try.bytes32] at h3; simp only [reachBytes] at h3; omega⟩
  · rcases h4 with h4 | ⟨b, o, rfl, h5⟩
    · exact .inl h4
    · refine .inr ⟨b, o, rfl, fun i hi => ?_⟩
      obtain ⟨cs, _, h6, a, c, rfl, h7, _⟩ := h5 i hi
      have e0 := h6 0 (by omega)
      have e1 := h6 1 (by omega)
      have e2 := h6 2 (by omega)
      have e3 := h6 3 (by omega)
      exact ⟨a, c, ⟨e0, e1, e2, e3⟩, h7⟩
  · rw [Try.bytes32] at h3; simp only [reachBytes] at h3; omega
  · intro d hd
    rcases h4 with h4 | ⟨b, o, rfl, h5⟩
    · rw [h4] at hd; simp at hd
    · obtain ⟨i, hi, rfl⟩ := List.getElem_of_mem hd
      obtain ⟨cs, _, _, a, c, _, _, h6⟩ := h5 i hi
      simpa [List.getD, hi] using h6
set_option maxRecDepth 100000 in
theorem open_script48 {r : Go.Reach} {b0 : Nat} {v : Value} {d : DataW H} {p : List MemPlace} (hv : Value.okWide Try.prog W r b0 25 v) (h : DataW.Trod enc Try.prog W 0 (fun _ => true) true 25 v d p) (hw : ∀ x ∈ d.weights Try.prog 25, x ≤ reachBytes) :
    ∃ (ds : List DevD) (l : List ActD), ScrVal W v ds l ∧ LooseL ds ∧ LooseA l ∧ l.length * 48 ≤ 140737488355328 := by
  obtain ⟨cs, rfl, hsz⟩ := okWide_struct Try.underlying25 hv
  rw [Try.cells25] at hsz
  obtain ⟨cl⟩ := cs
  obtain ⟨fuel, hf⟩ := h
  match cl, hsz with
  | [v0, v1], _ =>
    obtain ⟨xs, k, _, hdp, hl, hxl, hq⟩ := DataW.trod_struct Try.underlying25 hf
    simp only [Prod.mk.injEq] at hdp
    obtain ⟨rfl, rfl⟩ := hdp
    match xs, hxl with
    | [z0, z1], _ =>
      have g0 := hq 0 _ rfl
      have g1 := hq 1 _ rfl
      simp [Value.cells, Try.cells22, Try.cells23] at g0 g1
      obtain ⟨av, ds, ca, e0, q1, q2, q3⟩ := open_devs g0 (fun x hx => hw x (by simp only [DataW.weights, DataW.weightsEach, Try.underlying25, List.map_cons, List.map_nil]; exact List.mem_append.2 (Or.inl hx)))
      obtain ⟨aL, l, cL, e1, q4, q5, q6, q7⟩ := open_acts g1 (fun x hx => hw x (by simp only [DataW.weights, DataW.weightsEach, Try.underlying25, List.map_cons, List.map_nil]; exact List.mem_append.2 (Or.inr (List.mem_append.2 (Or.inl hx)))))
      subst e0; subst e1
      exact ⟨ds, l, ⟨av, ca, aL, cL, rfl, ⟨q2, q1⟩, q5⟩, q3, q6, q7⟩
set_option maxRecDepth 100000 in
theorem open_script {r : Go.Reach} {b0 : Nat} {v : Value} {d : DataW H} {p : List MemPlace} (hv : Value.okWide Try.prog W r b0 25 v) (h : DataW.Trod enc Try.prog W 0 (fun _ => true) true 25 v d p) (hw : ∀ x ∈ d.weights Try.prog 25, x ≤ reachBytes) :
    ∃ (ds : List DevD) (l : List ActD), ScrVal W v ds l ∧ LooseL ds ∧ LooseA l := by
  obtain ⟨ds, l, h1, h2, h3, _⟩ := open_script48 hv h hw
  exact ⟨ds, l, h1, h2, h3⟩
end

end Go.Proofs.Ytheomnafmjmpdaa

/- Taken, given back, committed: what that leaves. -/
namespace Go.Proofs.Ytheomnafmjmpdaa
open Go.RowKit

theorem each_mayB : ∀ (l : List (Int × Int)) (m : Int), validFrom m l = true → ∀ s ∈ l, mayB s.1 s.2 = true
  | [], _, _, s, h => by simp at h
  | t :: r, m, h, s, hs => by
    simp only [validFrom, Bool.and_eq_true] at h
    rcases List.mem_cons.1 hs with rfl | hs
    · exact h.1.1
    · exact each_mayB r _ h.2 s hs
theorem lastE_ge : ∀ (l : List (Int × Int)) (m : Int), validFrom m l = true → m ≤ lastE m l
  | [], m, _ => Int.le_refl m
  | s :: r, m, h => by
    simp only [validFrom, Bool.and_eq_true, Bool.not_eq_true', decide_eq_false_iff_not] at h
    have hm := mayB_of h.1.1
    have := lastE_ge r _ h.2
    rw [lastE]; omega
theorem mem_lastE : ∀ (l : List (Int × Int)) (m : Int) (k : Nat), validFrom m l = true → memS l k = true → (k : Int) + 1 < lastE m l
  | [], m, k, _, h => by simp [memS] at h
  | s :: r, m, k, h, hk => by
    simp only [validFrom, Bool.and_eq_true] at h
    rw [show s :: r = [s] ++ r from rfl, memS_append, memS_one, Bool.or_eq_true] at hk
    rw [lastE]
    have h1 := lastE_ge r _ h.2
    rcases hk with hk | hk
    · simp [inSeg] at hk; omega
    · exact mem_lastE r _ k h.2 hk
theorem endL_lastE {l : List (Int × Int)} (hne : l ≠ []) : endL l + 1 = lastE 0 l := by
  rw [endL, if_neg hne]
  obtain ⟨d, s, rfl⟩ : ∃ d s, l = d ++ [s] := ⟨l.dropLast, l.getLast hne, (List.dropLast_concat_getLast hne).symm⟩
  rw [lastE_snoc]
  simp
theorem mem_endL {l : List (Int × Int)} {k : Nat} (h : vOk l = true) (hk : memS l k = true) : (k : Int) < endL l := by
  have hne : l ≠ [] := fun e => by subst e; simp [memS] at hk
  have h1 := mem_lastE l 0 k h hk
  have h2 := endL_lastE hne
  omega
theorem mem_lt64 {l : List (Int × Int)} {k : Nat} (h : vOk l = true) (hk : memS l k = true) : k < 64 := by
  have h1 := mem_endL h hk
  have h2 := endL_bd h
  omega
theorem endL_le {l : List (Int × Int)} {s : Int} (h : vOk l = true) (h0 : 0 ≤ s) (hm : ∀ k : Nat, memS l k = true → (k : Int) < s) : endL l ≤ s := by
  by_cases hne : l = []
  · subst hne; simpa [endL] using h0
  · have hl := List.length_pos_iff.2 hne
    have hg : l.getD (l.length - 1) (0, 0) ∈ l := getD_mem (0, 0) (by omega)
    obtain ⟨m0, m1, m2, m3⟩ := mayB_of (each_mayB l 0 h _ hg)
    rw [endL, if_neg hne]
    generalize l.getD (l.length - 1) (0, 0) = t at hg m0 m1 m2 m3 ⊢
    have := hm (t.1 + t.2 - 1).toNat (by
      simp only [memS, List.any_eq_true]
      exact ⟨t, hg, by simp [inSeg]; omega⟩)
    omega

theorem ids_up {ds : List DevD} (hok : DevsOk ds) : ∀ (j i : Nat), i < j → j < ds.length → (ds.getD i DZ).id < (ds.getD j DZ).id
  | 0, i, hij, _ => by omega
  | j + 1, i, hij, hj => by
    have h1 := (hok.2 (j + 1) hj).1
    rw [lastI_succ] at h1
    by_cases e : i = j
    · subst e; exact h1
    · exact Int.lt_trans (ids_up hok j i (by omega) (by omega)) h1
theorem ids_ne {ds : List DevD} (hok : DevsOk ds) {i j : Nat} (hi : i < ds.length) (hj : j < ds.length) (h : i ≠ j) : (ds.getD i DZ).id ≠ (ds.getD j DZ).id := by
  rcases Nat.lt_or_gt_of_ne h with h1 | h1
  · have := ids_up hok j i h1 hj; omega
  · have := ids_up hok i j h1 hi; omega
theorem atD_of {ds : List DevD} {k : Nat} {id : Int} (hk : k < ds.length) (h1 : (ds.getD k DZ).id = id) (h2 : ∀ j, j < k → (ds.getD j DZ).id ≠ id) : atD ds id = some k := by
  unfold atD
  rw [List.findIdx?_eq_some_iff_getElem]
  refine ⟨hk, by simpa [List.getD, hk] using h1, fun j hj => ?_⟩
  have := h2 j hj
  have hj2 : j < ds.length := by omega
  simpa [List.getD, hj2] using this
theorem com_get (ds : List DevD) {k : Nat} (hk : k < ds.length) : (ds.map comD).getD k DZ = comD (ds.getD k DZ) := by simp [List.getD, hk]
theorem devOk_of {d e : DevD} (h : DevOk d) (hid : e.id = d.id) (hsz : e.size = d.size) (hf : vOk e.free = true) (hl : vOk e.late = true) (h1 : ∀ k : Nat, memS e.free k = true → (k : Int) < d.size) (h2 : ∀ k : Nat, memS e.late k = true → (k : Int) < d.size) (h3 : ∀ k : Nat, k < 64 → memS e.free k = true → memS e.late k = true → False) : DevOk e := by
  have hs := h.sz0
  refine ⟨by rw [hid]; exact h.id0, by rw [hid]; exact h.id1, by rw [hsz]; exact h.sz0, by rw [hsz]; exact h.sz1, hf, hl, by rw [hsz]; exact endL_le hf (by omega) h1, by rw [hsz]; exact endL_le hl (by omega) h2, ?_⟩
  rw [segsOf_none (fun k hk => ?_)]
  · rfl
  · by_cases ha : memS e.free k = true
    · by_cases hb : memS e.late k = true
      · exact (h3 k hk ha hb).elim
      · simp [hb]
    · simp [ha]
theorem com_ok {d : DevD} (h : DevOk d) : DevOk (comD d) := by
  refine devOk_of h rfl rfl (segsOf_ok _).1 rfl (fun k hk => ?_) (fun k hk => by simp [comD, memS] at hk) (fun k _ _ hk => by simp [comD, memS] at hk)
  simp only [comD] at hk
  rw [(segsOf_ok _).2 k] at hk
  simp only [Bool.and_eq_true, Bool.or_eq_true] at hk
  rcases hk.2 with h1 | h1
  · have := mem_endL h.free h1; have := h.ef; omega
  · have := mem_endL h.late h1; have := h.el; omega
theorem devsOk_of {ds es : List DevD} (h : DevsOk ds) (hl : es.length = ds.length) (hid : ∀ k, k < ds.length → (es.getD k DZ).id = (ds.getD k DZ).id) (hok : ∀ k, k < ds.length → DevOk (es.getD k DZ)) : DevsOk es := by
  refine ⟨by rw [hl]; exact h.1, fun k hk => ?_⟩
  rw [hl] at hk
  refine ⟨?_, hok k hk⟩
  have h1 := (h.2 k hk).1
  rw [hid k hk]
  cases k with
  | zero => exact h1
  | succ k => rw [lastI_succ] at h1 ⊢; rw [hid k (by omega)]; exact h1
theorem coms_ok {ds : List DevD} (h : DevsOk ds) : DevsOk (ds.map comD) :=
  devsOk_of h (by simp) (fun k hk => by rw [com_get ds hk]; rfl) (fun k hk => by rw [com_get ds hk]; exact com_ok (h.2 k hk).2)

/-- what taking leaves, by its sectors -/
structure TkS (l x : List DevD) (ps : List (Int × Int)) : Prop where
  like : LikeF l x
  v : AllV x
  mem : ∀ k, k < l.length → ∀ i : Nat, i < 64 → (memS (x.getD k DZ).free i = true ↔ memS (l.getD k DZ).free i = true ∧ ((l.getD k DZ).id, (i : Int)) ∉ ps)
  nd : ps.Nodup
  place : ∀ p ∈ ps, ∃ k, k < l.length ∧ p.1 = (l.getD k DZ).id ∧ 0 ≤ p.2 ∧ p.2 < 64 ∧ memS (l.getD k DZ).free p.2.toNat = true
theorem TkS.step {l x : List DevD} {ps : List (Int × Int)} (hok : DevsOk l) (h : TkS l x ps) {K : Nat} (hK : K < x.length) (hf : 0 < (x.getD K DZ).free.length) :
    TkS l (x.set K (setF (x.getD K DZ) (lessA (x.getD K DZ).free (leastA (x.getD K DZ).free)))) (ps ++ [((x.getD K DZ).id, leastA (x.getD K DZ).free)]) := by
  obtain ⟨⟨a0, a1⟩, _, hm⟩ := least_ok (h.v K hK) hf
  have hKl : K < l.length := by rw [← h.like.len]; exact hK
  have hid := h.like.id K
  have hmK := h.mem K hKl
  have hlike := h.like.set K (lessA (x.getD K DZ).free (leastA (x.getD K DZ).free))
  have hvK : vOk (lessA (x.getD K DZ).free (leastA (x.getD K DZ).free)) = true := (segsOf_ok _).1
  have hless : ∀ i : Nat, i < 64 → (memS (lessA (x.getD K DZ).free (leastA (x.getD K DZ).free)) i = true ↔ memS (x.getD K DZ).free i = true ∧ (i : Int) ≠ leastA (x.getD K DZ).free) := fun i hi => by
    unfold lessA
    rw [(segsOf_ok _).2 i, one_mem]
    simp [hi]
  have hn : (leastA (x.getD K DZ).free).toNat < 64 := by omega
  have hc : ((leastA (x.getD K DZ).free).toNat : Int) = leastA (x.getD K DZ).free := by omega
  obtain ⟨hl1, hl2⟩ := (hmK _ hn).1 hm
  rw [hc] at hl2
  rw [hid]
  generalize leastA (x.getD K DZ).free = a at hm hlike hvK hless hn hc hl1 hl2 a0 a1 ⊢
  refine ⟨hlike, fun q hq => ?_, fun k hk i hi => ?_, ?_, ?_⟩
  · rw [List.length_set] at hq
    rw [getD_set]
    split
    · exact hvK
    · exact h.v q hq
  · rw [getD_set]
    by_cases hkK : K = k
    · subst hkK
      rw [if_pos ⟨rfl, hK⟩]
      show memS (lessA _ _) i = true ↔ _
      rw [hless i hi, hmK i hi]
      simp only [List.mem_append, List.mem_singleton, Prod.mk.injEq, true_and, not_or]
      exact and_assoc
    · rw [if_neg (fun e => hkK e.1), h.mem k hk i hi]
      have := ids_ne hok hk hKl (fun e => hkK e.symm)
      simp only [List.mem_append, List.mem_singleton, Prod.mk.injEq, this, false_and, or_false]
  · rw [List.nodup_append]
    refine ⟨h.nd, by simp, fun p hp q hq => ?_⟩
    simp only [List.mem_singleton] at hq
    subst hq
    exact fun e => hl2 (e ▸ hp)
  · intro p hp
    rcases List.mem_append.1 hp with hp | hp
    · exact h.place p hp
    · simp only [List.mem_singleton] at hp
      subst hp
      exact ⟨K, hKl, rfl, a0, a1, hl1⟩
theorem takN_tks {l : List DevD} {ks : List Nat} (hok : DevsOk l) (hk : ∀ k ∈ ks, k < l.length) (hn : ks.Nodup) : ∀ j : Nat, (j : Int) ≤ cntK l ks → TkS l (takN l ks j).2 (takN l ks j).1 := by
  intro j
  induction j with
  | zero => intro _; exact ⟨LikeF.refl l, hok.allV, fun k _ i _ => by simp [takN], by simp [takN], fun p hp => by simp [takN] at hp⟩
  | succ j ih =>
    intro hj
    have h1 := ih (by omega)
    obtain ⟨h2, _⟩ := takN_inv hok.allV hk hn j (by omega)
    obtain ⟨⟨_, h4, h5⟩, _⟩ := tinv_step h2 hk hn (by omega)
    exact h1.step hok h4 h5

/-- what giving leaves, by its sectors -/
structure GvS (x y : List DevD) (done : List (Int × Int)) : Prop where
  inv : GvInv x y
  mem : ∀ k, k < x.length → ∀ i : Nat, i < 64 → (memS (y.getD k DZ).late i = true ↔ memS (x.getD k DZ).late i = true ∨ ((x.getD k DZ).id, (i : Int)) ∈ done)
theorem GvS.step {x y : List DevD} {done : List (Int × Int)} (hok : DevsOk x) (h : GvS x y done) {k : Nat} (hk : k < x.length) {n : Int} : GvS x (givD y k n) (done ++ [((x.getD k DZ).id, n)]) := by
  refine ⟨h.inv.step k n, fun j hj i hi => ?_⟩
  unfold givD
  have hky : k < y.length := by rw [h.inv.len]; exact hk
  rw [getD_set]
  by_cases e : k = j
  · subst e
    rw [if_pos ⟨rfl, hky⟩]
    show memS (joinA _ _) i = true ↔ _
    unfold joinA
    rw [(segsOf_ok _).2 i, one_mem]
    simp only [hi, decide_true, Bool.true_and, Bool.or_eq_true, decide_eq_true_eq]
    rw [h.mem k hj i hi]
    simp only [List.mem_append, List.mem_singleton, Prod.mk.injEq, true_and]
    exact or_assoc
  · rw [if_neg (fun e2 => e e2.1), h.mem j hj i hi]
    have := ids_ne hok hj hk (fun e2 => e e2.symm)
    simp only [List.mem_append, List.mem_singleton, Prod.mk.injEq, this, false_and, or_false]
def GoodP (x : List DevD) (p : Int × Int) : Prop := ∃ k, k < x.length ∧ p.1 = (x.getD k DZ).id ∧ 0 ≤ p.2 ∧ p.2 < (x.getD k DZ).size ∧ memS (x.getD k DZ).free p.2.toNat = false ∧ memS (x.getD k DZ).late p.2.toNat = false
theorem giv_all {x : List DevD} (hok : DevsOk x) : ∀ (rest done : List (Int × Int)) (y : List DevD), GvS x y done → (done ++ rest).Nodup → (∀ p ∈ rest, GoodP x p) → ∃ y', givN y rest = (0, y') ∧ GvS x y' (done ++ rest)
  | [], done, y, h, _, _ => ⟨y, rfl, by rw [List.append_nil]; exact h⟩
  | p :: r, done, y, h, hnd, hp => by
    obtain ⟨k, hk, e1, n0, n1, f1, f2⟩ := hp p (List.mem_cons_self ..)
    have hsz := (hok.2 k hk).2.sz1
    have hnot : p ∉ done := fun hd => by
      rw [List.nodup_append] at hnd
      exact hnd.2.2 p hd p (List.mem_cons_self ..) rfl
    have hc : ((p.2.toNat : Nat) : Int) = p.2 := by omega
    have hlate : memS (y.getD k DZ).late p.2.toNat = false := by
      rw [Bool.eq_false_iff]
      intro hm
      rcases (h.mem k hk p.2.toNat (by omega)).1 hm with h1 | h1
      · rw [f2] at h1; cases h1
      · rw [hc, ← e1] at h1; exact hnot h1
    have hky : k < y.length := by rw [h.inv.len]; exact hk
    have hat : atD y p.1 = some k := atD_of hky (by rw [h.inv.id k]; exact e1.symm) (fun j hj => by
      rw [h.inv.id j, e1]
      exact ids_ne hok (by omega) hk (by omega))
    have h1 : thereB (y.getD k DZ) p.2 = true := by
      unfold thereB
      rw [h.inv.size k, decide_eq_true n0, decide_eq_true n1]; rfl
    have h2 : usedB (y.getD k DZ) p.2 = true := by
      unfold usedB
      rw [hasI_mem (h.inv.allV hok k hky), hasI_mem (h.inv.late k hky), h.inv.free k, f1, hlate]
      simp
    have hpl : (placeF y p.1 p.2).2 = some k := by unfold placeF; rw [hat]; simp only [h1, h2, Bool.true_eq_false, if_false]
    have hst := h.step hok hk (n := p.2)
    rw [← e1] at hst
    obtain ⟨y', g1, g2⟩ := giv_all hok r (done ++ [p]) (givD y k p.2) hst (by rw [List.append_assoc]; exact hnd) (fun q hq => hp q (List.mem_cons_of_mem _ hq))
    refine ⟨y', ?_, by rw [List.append_assoc] at g2; exact g2⟩
    rw [givN, hpl]
    exact g1

theorem rest_like {l x : List DevD} (h : LikeF l x) (id : Int) : restK x id (List.range x.length) = restK l id (List.range l.length) := by
  rw [h.len]
  unfold restK
  refine List.filter_congr (fun k _ => ?_)
  unfold isN
  rw [h.id k]
theorem late_com {ds : List DevD} {k : Nat} (hk : k < ds.length) : ((ds.map comD).getD k DZ).late = [] := by rw [com_get ds hk]; rfl
def BackR (l : List DevD) (k : Nat) (ps : List (Int × Int)) (x : List DevD) : Prop := ps.length = k ∧ ps.Nodup ∧ DevsOk x ∧ cntN x 0 = cntN l 0 - k ∧ ∃ y, givN x ps = (0, y) ∧ DevsOk y ∧ y.map comD = l
theorem room_back {ds l : List DevD} (hds : DevsOk ds) (hl : l = ds.map comD) {k : Nat} (hk : (k : Int) ≤ cntN l 0) : BackR l k (takN l (restK l 0 (List.range l.length)) k).1 (takN l (restK l 0 (List.range l.length)) k).2 := by
  have hok : DevsOk l := by rw [hl]; exact coms_ok hds
  have hll : l.length = ds.length := by rw [hl]; simp
  have hlate : ∀ j, j < l.length → (l.getD j DZ).late = [] := fun j hj => by rw [hl]; exact late_com (by rw [← hll]; exact hj)
  have hks : ∀ j ∈ restK l 0 (List.range l.length), j < l.length := fun j hj => List.mem_range.1 (List.mem_filter.1 hj).1
  have hnd := rest_nodup l 0 l.length
  have hT := takN_tks hok hks hnd k hk
  obtain ⟨hI, hlen⟩ := takN_inv hok.allV hks hnd k hk
  generalize hx : (takN l (restK l 0 (List.range l.length)) k).2 = x at hT hI ⊢
  generalize hp : (takN l (restK l 0 (List.range l.length)) k).1 = ps at hT hlen ⊢
  have hxl : x.length = l.length := hI.like.len
  have hsub : ∀ j, j < l.length → ∀ i : Nat, memS (x.getD j DZ).free i = true → memS (l.getD j DZ).free i = true := fun j hj i hi => ((hT.mem j hj i (mem_lt64 (hT.v j (by omega)) hi)).1 hi).1
  have hxlate : ∀ j, j < l.length → (x.getD j DZ).late = [] := fun j hj => by rw [hI.like.late j]; exact hlate j hj
  have hxok : DevsOk x := devsOk_of hok hxl (fun j _ => hI.like.id j) (fun j hj => by
    refine devOk_of (hok.2 j hj).2 (hI.like.id j) (hI.like.size j) (hT.v j (by omega)) (by rw [hxlate j hj]; rfl) (fun i hi => ?_) (fun i hi => by rw [hxlate j hj] at hi; simp [memS] at hi) (fun i _ _ hi => by rw [hxlate j hj] at hi; simp [memS] at hi)
    have h1 := mem_endL (hok.allV j hj) (hsub j hj i hi)
    have h2 := (hok.2 j hj).2.ef
    omega)
  have hgood : ∀ p ∈ ps, GoodP x p := fun p hpp => by
    obtain ⟨j, hj, e1, p0, p1, hm⟩ := hT.place p hpp
    have hc : ((p.2.toNat : Nat) : Int) = p.2 := by omega
    refine ⟨j, by omega, by rw [hI.like.id j]; exact e1, p0, ?_, ?_, by rw [hxlate j hj]; rfl⟩
    · rw [hI.like.size j]
      have h1 := mem_endL (hok.allV j hj) hm
      have h2 := (hok.2 j hj).2.ef
      omega
    · rw [Bool.eq_false_iff]
      intro hm2
      have := ((hT.mem j hj p.2.toNat (by omega)).1 hm2).2
      rw [hc, ← e1] at this
      exact this hpp
  obtain ⟨y, hg1, hg2⟩ := giv_all hxok ps [] x ⟨gvinv_refl hxok, fun j _ i _ => by simp⟩ hT.nd hgood
  rw [List.nil_append] at hg2
  have hyl : y.length = l.length := by rw [hg2.inv.len, hxl]
  have hym : ∀ j, j < l.length → ∀ i : Nat, i < 64 → (memS (y.getD j DZ).late i = true ↔ ((l.getD j DZ).id, (i : Int)) ∈ ps) := fun j hj i hi => by
    rw [hg2.mem j (by omega) i hi, hxlate j hj, hI.like.id j]
    simp [memS]
  have hyok : DevsOk y := devsOk_of hok hyl (fun j _ => by rw [hg2.inv.id j, hI.like.id j]) (fun j hj => by
    refine devOk_of (hok.2 j hj).2 (by rw [hg2.inv.id j, hI.like.id j]) (by rw [hg2.inv.size j, hI.like.size j]) (by rw [hg2.inv.free j]; exact hT.v j (by omega)) (hg2.inv.late j (by omega)) (fun i hi => ?_) (fun i hi => ?_) (fun i hi h1 h2 => ?_)
    · rw [hg2.inv.free j] at hi
      have h1 := mem_endL (hok.allV j hj) (hsub j hj i hi)
      have h2 := (hok.2 j hj).2.ef
      omega
    · have h64 := mem_lt64 (hg2.inv.late j (by omega)) hi
      have hin := (hym j hj i h64).1 hi
      obtain ⟨j2, hj2, e1, p0, p1, hm⟩ := hT.place _ hin
      have : j = j2 := by
        by_cases e : j = j2
        · exact e
        · exact absurd e1 (ids_ne hok hj hj2 e)
      subst this
      have h1 := mem_endL (hok.allV j hj) hm
      have h2 := (hok.2 j hj).2.ef
      simp only [Int.toNat_natCast] at h1
      omega
    · rw [hg2.inv.free j] at h1
      exact ((hT.mem j hj i hi).1 h1).2 ((hym j hj i hi).1 h2))
  refine ⟨hlen, hT.nd, hxok, ?_, y, hg1, hyok, ?_⟩
  · unfold cntN
    rw [rest_like hI.like]
    exact hI.cnt
  · refine ext_getD' DZ (by rw [List.length_map, hyl]) (fun j hj => ?_)
    rw [List.length_map] at hj
    have hj2 : j < l.length := by omega
    rw [com_get y hj]
    have e1 : (y.getD j DZ).id = (l.getD j DZ).id := by rw [hg2.inv.id j, hI.like.id j]
    have e2 : (y.getD j DZ).size = (l.getD j DZ).size := by rw [hg2.inv.size j, hI.like.size j]
    have e3 : segsOf (fun i => memS (y.getD j DZ).free i || memS (y.getD j DZ).late i) = (l.getD j DZ).free := by
      refine segsOf_self (hok.allV j hj2) (fun i hi => ?_)
      rw [hg2.inv.free j]
      have h1 := hT.mem j hj2 i hi
      have h2 := hym j hj2 i hi
      rw [Bool.eq_iff_iff, Bool.or_eq_true, h1, h2]
      constructor
      · rintro (⟨h, _⟩ | h)
        · exact h
        · obtain ⟨j2, hj3, e1, p0, p1, hm⟩ := hT.place _ h
          have : j = j2 := by
            by_cases e : j = j2
            · exact e
            · exact absurd e1 (ids_ne hok hj2 hj3 e)
          subst this
          simpa using hm
      · intro h
        by_cases hin : ((l.getD j DZ).id, (i : Int)) ∈ ps
        · exact .inr hin
        · exact .inl ⟨h, hin⟩
    have e4 := hlate j hj2
    unfold comD
    rw [e1, e2, e3, ← e4]

end Go.Proofs.Ytheomnafmjmpdaa

/- From the larger one, the least sector: what each law asks at its end. -/
namespace Go.Proofs.Ytheomnafmjmpdaa
open Go.RowKit

theorem errnum_any (er : Int) (w : World) : Calls Try.prog 12 #[.int .i64 er] w fun e w' => e = .returned (.int .i64 er) ∧ w' = w := by
  go_enter Try.func12, Try.ntmps12
  go_wp2_with fail
  go_ret
  exact ⟨rfl, rfl⟩
theorem errnum_w (er : Int) (w : World) : Calls Try.prog 12 #[.int .i64 er] w fun e w' => e = .returned (.int .i64 er) ∧ w = w' := (errnum_any er w).mono fun _ _ h => ⟨h.1, h.2.symm⟩

def wkD : List DevD := [⟨1, 2, [(0, 2)], []⟩, ⟨2, 3, [(0, 3)], []⟩]
theorem wk_ok : DevsOk wkD := by
  refine ⟨by simp [wkD], fun k hk => ?_⟩
  have : k = 0 ∨ k = 1 := by simp [wkD] at hk; omega
  rcases this with rfl | rfl
  · exact ⟨by decide +kernel, (devB_ok _).1 (by decide +kernel)⟩
  · exact ⟨by decide +kernel, (devB_ok _).1 (by decide +kernel)⟩
theorem wk_cnt : cntN wkD 0 = 5 := by decide +kernel
theorem wk_take : (takN wkD (restK wkD 0 (List.range wkD.length)) 1).1 = [(2, 0)] := by decide +kernel
theorem wk_small : SmallL wkD := ⟨by simp [wkD], fun d hd => by
  have h : d = ⟨1, 2, [(0, 2)], []⟩ ∨ d = ⟨2, 3, [(0, 3)], []⟩ := by simpa [wkD] using hd
  rcases h with rfl | rfl <;> exact ⟨by simp, by simp⟩⟩

/-- where the builds of the walk lay it -/
def wkW (w : World) : World := ((w.alloc (.cells #[.int .i64 0, .int .i64 2] 67)).alloc (.cells #[.int .i64 0, .int .i64 3] 67)).alloc (.cells #[.int .i64 1, .int .i64 2, .slice (some ⟨w.heap.size, 0, none⟩) 1 1, .slice none 0 0, .int .i64 2, .int .i64 3, .slice (some ⟨w.heap.size + 1, 0, none⟩) 1 1, .slice none 0 0] 51)
theorem seg1_of {W : World} {g : Nat} {x y : Int} {t : TypeId} (h : W.heap[g]? = some (.cells #[.int .i64 x, .int .i64 y] t (0, 0))) : SegsAt W (some ⟨g, 0, none⟩) [(x, y)] := fun i hi => by
  have : i = 0 := by simpa using hi
  subst this
  exact ⟨g, 0, rfl, by rw [Lib.cell_of_heap h]; rfl, by rw [Lib.cell_of_heap h]; rfl⟩
theorem wkW_at (w : World) : DevsAt (wkW w) (some ⟨w.heap.size + 1 + 1, 0, none⟩) wkD := by
  unfold wkW
  have hA := heap_alloc_new w (.cells #[.int .i64 0, .int .i64 2] 67)
  have sA : (w.alloc (.cells #[.int .i64 0, .int .i64 2] 67)).heap.size = w.heap.size + 1 := by simp
  generalize w.alloc (.cells #[.int .i64 0, .int .i64 2] 67) = A at hA sA ⊢
  have hB := heap_alloc_new A (.cells #[.int .i64 0, .int .i64 3] 67)
  have bB : Below A.heap.size A (A.alloc (.cells #[.int .i64 0, .int .i64 3] 67)) := nwA (nwR A) _
  have sB : (A.alloc (.cells #[.int .i64 0, .int .i64 3] 67)).heap.size = w.heap.size + 1 + 1 := by simp [sA]
  rw [sA] at hB
  generalize A.alloc (.cells #[.int .i64 0, .int .i64 3] 67) = B at hB bB sB ⊢
  have hC := heap_alloc_new B (.cells #[.int .i64 1, .int .i64 2, .slice (some ⟨w.heap.size, 0, none⟩) 1 1, .slice none 0 0, .int .i64 2, .int .i64 3, .slice (some ⟨w.heap.size + 1, 0, none⟩) 1 1, .slice none 0 0] 51)
  have bC : Below B.heap.size B (B.alloc (.cells #[.int .i64 1, .int .i64 2, .slice (some ⟨w.heap.size, 0, none⟩) 1 1, .slice none 0 0, .int .i64 2, .int .i64 3, .slice (some ⟨w.heap.size + 1, 0, none⟩) 1 1, .slice none 0 0] 51)) := nwA (nwR B) _
  rw [sB] at hC
  have kA := (bC.block _ (by omega)).trans ((bB.block _ (by omega)).trans hA)
  have kB := (bC.block _ (by omega)).trans hB
  generalize B.alloc (.cells #[.int .i64 1, .int .i64 2, .slice (some ⟨w.heap.size, 0, none⟩) 1 1, .slice none 0 0, .int .i64 2, .int .i64 3, .slice (some ⟨w.heap.size + 1, 0, none⟩) 1 1, .slice none 0 0] 51) = W at hC kA kB ⊢
  refine .inr ⟨w.heap.size + 1 + 1, 0, rfl, fun i hi => ?_⟩
  have : i = 0 ∨ i = 1 := by simp [wkD] at hi; omega
  rcases this with rfl | rfl
  · exact ⟨some ⟨w.heap.size, 0, none⟩, 1, none, 0, ⟨by rw [Lib.cell_of_heap hC]; rfl, by rw [Lib.cell_of_heap hC]; rfl, by rw [Lib.cell_of_heap hC]; rfl, by rw [Lib.cell_of_heap hC]; rfl⟩, ⟨seg1_of kA, by simp [wkD], (fun e => by cases e)⟩, fun i hi => by simp [wkD] at hi, by simp [wkD], fun _ => rfl⟩
  · exact ⟨some ⟨w.heap.size + 1, 0, none⟩, 1, none, 0, ⟨by rw [Lib.cell_of_heap hC]; rfl, by rw [Lib.cell_of_heap hC]; rfl, by rw [Lib.cell_of_heap hC]; rfl, by rw [Lib.cell_of_heap hC]; rfl⟩, ⟨seg1_of kB, by simp [wkD], (fun e => by cases e)⟩, fun i hi => by simp [wkD] at hi, by simp [wkD], fun _ => rfl⟩
theorem OwnPtrs.segs {w : World} {base : Nat} {v : Value} {l : List (Int × Int)} (h : OwnPtrs w base v l) : ∃ a c, v = .slice a l.length c ∧ SegsAt w a l := by
  rcases h.2 with ⟨hv, hn⟩ | ⟨g, cap, cur, hv, _, _, hnc, _⟩
  · have : l = [] := List.length_eq_zero_iff.1 hn
    subst this
    exact ⟨none, 0, hv, fun i hi => by simp at hi⟩
  · refine ⟨_, cap, hv, ?_⟩
    intro i hi
    have hl := flat_get2 l i hi
    have k1 := World.ownsRow.cells h (g := g) (by rw [hv]; rfl) _ _ hl.1
    have k2 := World.ownsRow.cells h (g := g) (by rw [hv]; rfl) _ _ hl.2
    rw [addr_add] at k1 k2
    exact ⟨g, 0, rfl, k1, by rw [Nat.add_assoc]; exact k2⟩

set_option maxRecDepth 100000 in
set_option maxHeartbeats 4000000 in
theorem wakes_any (w : World) : Calls Try.prog 10 #[] w fun e w' => e = .returned (.bool true) ∧ Below w.heap.size w w' := by
  have HNA : Hid (Calls Try.prog 14 #[.slice (some ⟨w.heap.size + 1 + 1, 0, none⟩) 2 2, .int .i64 1, .int .i64 0] (wkW w) fun e w' => (∃ u v, e = .returned (.tuple #[u, v, .int .i64 0]) ∧ OwnPtrs w' (wkW w).heap.size u [(2, 0)]) ∧ Below (wkW w).heap.size (wkW w) w') := by
    refine (take_dev _ wkD 2 1 0 (wkW w) (wkW_at w) ⟨by simp [wkD], fun e => by cases e⟩ wk_small).mono ?_
    rintro e w' ⟨h | h | ⟨_, u, v, rfl, h1, _⟩, hb⟩
    · rcases h.1 with h | h | h
      · exact absurd wk_ok h
      · omega
      · omega
    · have := h.1.2.2.2; rw [wk_cnt] at this; omega
    · rw [show ((1 : Int).toNat) = 1 from rfl, wk_take] at h1
      exact ⟨⟨u, v, rfl, h1⟩, hb⟩
  have HB0 : Hid (Below w.heap.size w (wkW w)) := nwA (nwA (nwA (nwR w) _) _) _
  unfold wkW at HNA HB0
  go_enter Try.func10, Try.ntmps10
  go_wp2_with fail
  generalize ((w.alloc (.cells #[.int .i64 0, .int .i64 2] 67)).alloc (.cells #[.int .i64 0, .int .i64 3] 67)).alloc (.cells #[.int .i64 1, .int .i64 2, .slice (some ⟨w.heap.size, 0, none⟩) 1 1, .slice none 0 0, .int .i64 2, .int .i64 3, .slice (some ⟨w.heap.size + 1, 0, none⟩) 1 1, .slice none 0 0] 51) = W0 at HNA HB0 ⊢
  refine HNA.out.mono ?_
  rintro e w1 ⟨⟨u, v, rfl, ho⟩, hb⟩
  obtain ⟨au, cu, rfl, hau⟩ := id ho.segs
  have HB1 : Hid (Below w.heap.size w w1) := nwT HB0.out hb
  have HAU : Hid (SegsAt w1 au [(2, 0)]) := hau
  clear HNA hau ho hb
  go_wp2_with (go_at_call 12; refine (errnum_any _ _).mono ?_; rintro e w' ⟨rfl, rfl⟩)
  rename World => w2
  have HEQ : Hid (Calls Try.prog 32 #[.slice au 1 cu, .slice (some ⟨w2.heap.size, 0, none⟩) 1 1] (w2.alloc (.cells #[.int .i64 2, .int .i64 0] 45)) fun e w' => e = .returned (.bool true) ∧ Below (w2.alloc (.cells #[.int .i64 2, .int .i64 0] 45)).heap.size (w2.alloc (.cells #[.int .i64 2, .int .i64 0] 45)) w') := by
    refine (eqPtrs_any au _ [(2, 0)] [(2, 0)] cu 1 _ (HAU.out.below (nwA (nwR w2) _) (Nat.le_refl _)) (segs1 w2 2 0 45) (by simp [maxLen])).mono ?_
    rintro e w' ⟨rfl, h⟩
    exact ⟨rfl, h⟩
  have HB2 : Hid (Below w.heap.size w (w2.alloc (.cells #[.int .i64 2, .int .i64 0] 45))) := nwA HB1.out _
  refine HEQ.out.mono ?_
  rintro e w3 ⟨rfl, hb3⟩
  have HB3 : Hid (Below w.heap.size w w3) := nwT HB2.out hb3
  clear HEQ hb3 HB2
  go_wp2_with fail
  go_ret
  exact ⟨rfl, HB3.out⟩

end Go.Proofs.Ytheomnafmjmpdaa

/- The program's calls where the devices may be: what each tells. -/
namespace Go.Proofs.Ytheomnafmjmpdaa
open Go.RowKit

def LawOk (F : Nat) : Prop := ∀ (v : Value) (ds : List DevD) (l : List ActD) (w : World), ScrVal w v ds l → LooseL ds → LooseA l → Calls Try.prog F #[v] w fun e w' => e = .returned (.bool true) ∧ Below w.heap.size w w'
theorem DevsOk.small {ds : List DevD} (h : DevsOk ds) : SmallL ds := by
  refine ⟨by have := h.1; omega, fun d hd => ?_⟩
  obtain ⟨i, hi, rfl⟩ := List.getElem_of_mem hd
  have := (h.2 i hi).2.small
  have e : ds.getD i DZ = ds[i] := by simp [List.getD, hi]
  rwa [e] at this
theorem cntN_bd {ds : List DevD} (h : DevsOk ds) (id : Int) : 0 ≤ cntN ds id ∧ cntN ds id ≤ 384 := by
  have h1 := cntK_bd h.allV (restK ds id (List.range ds.length)) (fun k hk => List.mem_range.1 (List.mem_filter.1 hk).1)
  have h2 := restK_len ds id (List.range ds.length)
  rw [List.length_range] at h2
  have := h.1
  unfold cntN
  omega
theorem take_ok (a : Option Addr) (m : List DevD) (c k : Nat) (w : World) (hd : DevsAt w a m) (hn : NilOk a c m.length) (hok : DevsOk m) (hk : (k : Int) ≤ cntN m 0) {ps : List (Int × Int)} {x : List DevD} (hp : (takN m (restK m 0 (List.range m.length)) k).1 = ps) (hx : (takN m (restK m 0 (List.range m.length)) k).2 = x) :
    Calls Try.prog 14 #[.slice a m.length c, .int .i64 k, .int .i64 0] w fun e w' => (∃ pa pc va vc, e = .returned (.tuple #[.slice pa ps.length pc, .slice va x.length vc, .int .i64 0]) ∧ SegsAt w' pa ps ∧ DevsAt w' va x ∧ NilOk va vc x.length) ∧ Below w.heap.size w w' := by
  have hb := cntN_bd hok 0
  refine (take_dev a m c k 0 w hd hn hok.small).mono ?_
  rintro e w' ⟨h | h | ⟨_, u, v, rfl, h1, h2⟩, hb2⟩
  · rcases h.1 with h | h | h
    · exact absurd hok h
    · omega
    · omega
  · have := h.1.2.2.2; omega
  · rw [show ((k : Int)).toNat = k from by omega, hp] at h1
    rw [show ((k : Int)).toNat = k from by omega, hx] at h2
    obtain ⟨pa, pc, rfl, hs⟩ := h1.segs
    obtain ⟨va, vc, rfl, hv, hvn⟩ := h2.at
    exact ⟨⟨pa, pc, va, vc, rfl, hs, hv, hvn⟩, hb2⟩
theorem count_ok (a : Option Addr) (m : List DevD) (c : Nat) (id N : Int) (w : World) (hd : DevsAt w a m) (hn : NilOk a c m.length) (hok : DevsOk m) (hN : cntN m id = N) :
    Calls Try.prog 13 #[.slice a m.length c, .int .i64 id] w fun e w' => e = .returned (.tuple #[.int .i64 N, .int .i64 0]) ∧ Below w.heap.size w w' := by
  refine (count_dev a m c id w hd hn hok.small).mono ?_
  rintro e w' ⟨⟨h, _⟩ | ⟨_, rfl⟩, hb⟩
  · exact absurd hok h
  · rw [hN]; exact ⟨rfl, hb⟩
theorem give_ok (a : Option Addr) (m : List DevD) (c : Nat) (pa : Option Addr) (pc : Nat) (ps : List (Int × Int)) (w : World) (hd : DevsAt w a m) (hn : NilOk a c m.length) (hok : DevsOk m) (hp : SegsAt w pa ps) (hpl : ps.length ≤ 100000) {y : List DevD} (hy : givN m ps = (0, y)) :
    Calls Try.prog 15 #[.slice a m.length c, .slice pa ps.length pc] w fun e w' => (∃ ya yc, e = .returned (.tuple #[.slice ya y.length yc, .int .i64 0]) ∧ DevsAt w' ya y ∧ NilOk ya yc y.length) ∧ Below w.heap.size w w' := by
  refine (give_dev a m c pa pc ps w hd hn hok.small hp hpl).mono ?_
  rintro e w' ⟨⟨h, _⟩ | ⟨_, u, rfl, h1⟩, hb⟩
  · exact absurd hok h
  · rw [hy] at h1 ⊢
    obtain ⟨va, vc, rfl, hv, hvn⟩ := h1.at
    exact ⟨⟨va, vc, rfl, hv, hvn⟩, hb⟩
theorem commit_ok (a : Option Addr) (m : List DevD) (c : Nat) (w : World) (hd : DevsAt w a m) (hn : NilOk a c m.length) (hok : DevsOk m) {y : List DevD} (hy : m.map comD = y) :
    Calls Try.prog 11 #[.slice a m.length c] w fun e w' => (∃ ya yc, e = .returned (.tuple #[.slice ya y.length yc, .int .i64 0]) ∧ DevsAt w' ya y ∧ NilOk ya yc y.length) ∧ Below w.heap.size w w' := by
  refine (commit_dev a m c w hd hn hok.small).mono ?_
  rintro e w' ⟨⟨h, _⟩ | ⟨_, u, rfl, h1⟩, hb⟩
  · exact absurd hok h
  · rw [hy] at h1
    obtain ⟨va, vc, rfl, hv, hvn⟩ := h1.at
    exact ⟨⟨va, vc, rfl, hv, hvn⟩, hb⟩
theorem nil_ok (w : World) : Calls Try.prog 17 #[.slice none 0 0] w fun e w' => e = .returned (.bool true) ∧ Below w.heap.size w w' :=
  (refSegs_any none [] 0 w (fun i hi => by simp at hi) (by simp)).mono fun e w' ⟨h, hb⟩ => ⟨by rw [h]; rfl, hb⟩
theorem nodup_ne {ps : List (Int × Int)} (h : ps.Nodup) {i j : Nat} (hi : i < ps.length) (hj : j < ps.length) (hij : i ≠ j) : ps.getD i (0, 0) ≠ ps.getD j (0, 0) := by
  have e1 : ps.getD i (0, 0) = ps[i] := by simp [List.getD, hi]
  have e2 : ps.getD j (0, 0) = ps[j] := by simp [List.getD, hj]
  rw [e1, e2]
  have h1 := List.pairwise_iff_getElem.1 h
  rcases Nat.lt_or_gt_of_ne hij with h2 | h2
  · exact h1 i j hi hj h2
  · exact fun e => h1 j i hj hi h2 e.symm

end Go.Proofs.Ytheomnafmjmpdaa
