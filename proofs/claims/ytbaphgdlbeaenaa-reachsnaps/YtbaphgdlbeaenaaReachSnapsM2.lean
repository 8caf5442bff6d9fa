/- Laid together: Vols, Eqv, Eqw, Small, Links, Rowv, Weight, Weightw, Heavy, Shelfb. -/
import Derived.Test.YtbaphgdlbeaenaaReachSnapsM1
import Derived.Deep.RegionHeld3
import Derived.Shelf.Sort.Plain
import Derived.Shelf.Slices.CompactI
import Derived.Shelf.Slices.Cells
import Derived.Shelf.Slices.In.SortNone
import Derived.Shelf.SlGeneric
import Derived.Shelf.SlicesG.SearchI
import Derived.Shelf.Spec.SlicesGrow
import Derived.Test.YtbaphgdlbeaenaaProg
/- Rows of files copied; volumes copied. -/
namespace Go.Proofs.Ytbaphgdlbeaenaa
open Go.RowKit

theorem ownBlock_ne {w : World} {B : Nat} {e T : TypeId} {s : Nat} {v : Value} {n : Nat} {xs : List Value} {b : Nat} {cs : Array Value} {fr : Nat × Nat} (hown : w.ownsRow B e s v n xs) (hb : w.heap[b]? = some (.cells cs T fr)) (hTe : T ≠ e) : v.ownBlock ≠ some b := by
  rcases hown.2 with ⟨rfl, _⟩ | ⟨g, cap, cur, rfl, _, hg, _⟩
  · simp [Value.ownBlock]
  · intro h
    simp only [Value.ownBlock, Option.some.injEq] at h
    subst h
    rw [hg] at hb
    simp only [Option.some.injEq, Obj.cells.injEq] at hb
    exact hTe hb.2.1.symm
theorem own_tag {w : World} {B : Nat} {e : TypeId} {s : Nat} {v : Value} {n : Nat} {xs : List Value} (h : w.ownsRow B e s v n xs) : ∀ k, v.ownBlock = some k → ∃ cs, w.heap[k]? = some (.cells cs e (0, 0)) := by
  intro k hk
  rcases h.2 with ⟨rfl, _⟩ | ⟨g, cap, cur, rfl, _, hg, _⟩
  · simp [Value.ownBlock] at hk
  · simp only [Value.ownBlock, Option.some.injEq] at hk
    subst hk
    exact ⟨cur, hg⟩
/-- a row of one type is kept where a row of another type grows -/
theorem own_other {w w' : World} {B B' : Nat} {e T : TypeId} {s s' : Nat} {v u : Value} {n m : Nat} {xs ys : List Value} (h : w.ownsRow B e s v n xs) (hu : w.ownsRow B' T s' u m ys) (hT : T ≠ e) (hg : w.grownBy w' u.ownBlock) : w'.ownsRow B e s v n xs := by
  refine h.kept hg ?_
  cases hv : u.ownBlock with
  | none =>
    cases hvv : v.ownBlock with
    | none => exact .inl rfl
    | some k => exact .inr (by simp)
  | some k =>
    obtain ⟨cs, hk⟩ := own_tag hu k hv
    exact .inr (ownBlock_ne h hk hT)
theorem OwnFV.grown {w w' : World} {base B' : Nat} {g : FV} {u : Value} {m : Nat} {ys : List Value} (h : OwnFV w base g) (hu : w.ownsRow B' 61 5 u m ys) (hg : w.grownBy w' u.ownBlock) : OwnFV w' base g :=
  ⟨own_other h.1 hu (by decide) hg, own_other h.2 hu (by decide) hg⟩

theorem cells5 (w : World) (c0 c1 c2 c3 c4 : Value) (t : TypeId) : ∀ j u, [c0, c1, c2, c3, c4][j]? = some u → (w.alloc (.cells #[c0, c1, c2, c3, c4] t)).cell? ((⟨w.heap.size, 0, none⟩ : Addr).add j) = some u := cells_new w [c0, c1, c2, c3, c4] t

theorem OwnFiles.set {w : World} {base : Nat} {v : Value} {fs : List FileD} (h : OwnFiles w base v fs) {g : Nat} (o : Nat) (hg : g < base) (u : Value) : OwnFiles (w.setCell ⟨g, o, none⟩ u) base v fs := by
  obtain ⟨gs, e, ho, ha⟩ := h
  exact ⟨gs, e, rowset ho o hg u, fun x hx => (ha x hx).set o hg u⟩

end Go.Proofs.Ytbaphgdlbeaenaa

/- Volumes held against each other, by the page's own helpers. -/
namespace Go.Proofs.Ytbaphgdlbeaenaa
open Go.RowKit

theorem ext_getD' {α : Type} (z : α) {xs ys : List α} (hl : xs.length = ys.length) (h : ∀ i, i < xs.length → xs.getD i z = ys.getD i z) : xs = ys := by
  apply List.ext_getElem hl
  intro i h1 h2
  have := h i h1
  simpa [List.getD, h1, h2] using this

set_option maxRecDepth 100000 in
set_option maxHeartbeats 1000000 in
theorem eqNums_any (a b : Option Addr) (xs ys : List Int) (ca cb : Nat) (w : World) (hx : IntsAt w a xs) (hy : IntsAt w b ys) (hl : xs.length ≤ maxLen) :
    Calls Try.prog 8 #[.slice a xs.length ca, .slice b ys.length cb] w fun e w' => e = .returned (.bool (decide (xs = ys))) ∧ ∃ q, w' = w.drewN q := by
  unfold maxLen at hl
  have HX : Hid (IntsAt w a xs) := hx
  have HY : Hid (IntsAt w b ys) := hy
  clear hx hy
  by_cases hlen : xs.length = ys.length
  · have hlen' : ((xs.length : Int) != (ys.length : Int)) = false := by simp [hlen]
    have HL : Hid (xs.length = ys.length) := hlen
    clear hlen
    go_enter Try.func8, Try.ntmps8
    go_wp2_with fail
    go_loopw [5] (fun i wr => ∃ (k q : Nat), k ≤ xs.length ∧ i = .int .i64 k ∧ wr = w.drewN q ∧ Hid (∀ j, j < k → xs.getD j 0 = ys.getD j 0))
      (fun i _ => xs.length - (intOf i).toNat)
    case atStart => exact ⟨0, 0, by omega, rfl, rfl, fun j hj => by omega⟩
    case round =>
      obtain ⟨k, q, hk, rfl, rfl, HE⟩ := hrel
      by_cases hlt : k < xs.length
      · have hlty : k < ys.length := by have := HL.out; omega
        obtain ⟨b1, o1, rfl, x1⟩ := HX.out.cell hlt
        obtain ⟨b2, o2, rfl, y1⟩ := HY.out.cell hlty
        by_cases he : xs.getD k 0 = ys.getD k 0
        · have HEE : Hid (xs.getD k 0 = ys.getD k 0) := he
          rw [← he] at y1
          generalize xs.getD k 0 = s at x1 y1
          clear he
          go_wp2_with fail
          go_quiet (fail)
          go_wp2_with fail
          go_roundw
          case rel => exact ⟨k + 1, _, by omega, by go_num, rfl, fun j hj => by
            by_cases e : j = k
            · subst e; exact HEE.out
            · exact HE.out j (by omega)⟩
          case measure => simp [intOf]; omega
        · have HF : Hid (decide (xs = ys) = false) := decide_eq_false (fun e => he (by rw [e]))
          generalize xs.getD k 0 = s at x1 he
          generalize ys.getD k 0 = t at y1 he
          have he2 : (s == t) = false := beq_eq_false_iff_ne.2 he
          clear he
          go_wp2_with fail
          go_quiet (fail)
          go_wp2_with fail
          go_ret
          exact ⟨by rw [HF.out]; rfl, drewN_drewN _ _ _⟩
      · have HF : Hid (decide (xs = ys) = true) := decide_eq_true (ext_getD' 0 HL.out (fun i hi => HE.out i (by omega)))
        go_wp2_with fail
        go_ret
        exact ⟨by rw [HF.out]; rfl, _, rfl⟩
  · have hlen' : ((xs.length : Int) != (ys.length : Int)) = true := by rw [bne_iff_ne]; omega
    have HF : Hid (decide (xs = ys) = false) := decide_eq_false (fun e => hlen (by rw [e]))
    clear hlen
    go_enter Try.func8, Try.ntmps8
    go_wp2_with fail
    go_ret
    exact ⟨by rw [HF.out]; rfl, 0, rfl⟩

end Go.Proofs.Ytbaphgdlbeaenaa

/- Files and volumes held against each other. -/
namespace Go.Proofs.Ytbaphgdlbeaenaa
open Go.RowKit

theorem FileIn.val {w : World} {b o : Nat} {f : FileD} (h : FileIn w b o f) : ∃ ab cb al cl, (w.cell? ⟨b, o, none⟩ = some (.int .i64 f.id) ∧ w.cell? ⟨b, o + 1, none⟩ = some (.bool f.dir) ∧ w.cell? ⟨b, o + 2, none⟩ = some (.int .i64 f.size) ∧ w.cell? ⟨b, o + 3, none⟩ = some (.slice ab f.blocks.length cb) ∧ w.cell? ⟨b, o + 4, none⟩ = some (.slice al f.list.length cl)) ∧ FileVal w (.agg #[.int .i64 f.id, .bool f.dir, .int .i64 f.size, .slice ab f.blocks.length cb, .slice al f.list.length cl]) f := by
  obtain ⟨ab, cb, al, cl, hc, hi, hl⟩ := h
  exact ⟨ab, cb, al, cl, hc, ab, cb, al, cl, rfl, hi, hl⟩

end Go.Proofs.Ytbaphgdlbeaenaa

/- Volumes held against each other; places of files and of links; how many links. -/
namespace Go.Proofs.Ytbaphgdlbeaenaa
open Go.RowKit

def numB (n most : Int) : Bool := decide (0 ≤ n) && decide (n ≤ most)
theorem num_no1 {n most : Int} (h : ¬ 0 ≤ n) : numB n most = false := by unfold numB; rw [decide_eq_false h]; rfl

set_option maxRecDepth 100000 in
set_option maxHeartbeats 400000 in
theorem num_in (n most : Int) (w : World) : Calls Try.prog 40 #[.int .i64 n, .int .i64 most] w fun e w' => e = .returned (.bool (numB n most)) ∧ w' = w := by
  by_cases h : 0 ≤ n
  · go_enter Try.func40, Try.ntmps40
    go_wp2_with fail
    go_ret
    exact ⟨ret_bool (by unfold numB; rw [decide_eq_true h]; rfl), rfl⟩
  · go_enter Try.func40, Try.ntmps40
    go_wp2_with fail
    go_ret
    exact ⟨ret_bool (num_no1 (by omega)).symm, rfl⟩

def betB (n low high : Int) : Bool := decide (low ≤ n) && decide (n ≤ high)
set_option maxRecDepth 100000 in
set_option maxHeartbeats 400000 in
theorem between_any (n low high : Int) (w : World) : Calls Try.prog 24 #[.int .i64 n, .int .i64 low, .int .i64 high] w fun e w' => e = .returned (.bool (betB n low high)) ∧ w' = w := by
  by_cases h : low ≤ n
  · go_enter Try.func24, Try.ntmps24
    go_wp2_with fail
    go_ret
    exact ⟨ret_bool (by unfold betB; rw [decide_eq_true h]; rfl), rfl⟩
  · go_enter Try.func24, Try.ntmps24
    go_wp2_with fail
    go_ret
    exact ⟨ret_bool (by unfold betB; rw [decide_eq_false (by omega : ¬ low ≤ n)]; rfl), rfl⟩

set_option maxRecDepth 100000 in
set_option maxHeartbeats 400000 in
theorem many_any (n : Int) (w : World) (h0 : 0 ≤ n) (h1 : n ≤ 200) : Calls Try.prog 57 #[.int .i64 n] w fun e w' => e = .returned (.int .i64 ((n + 31) / 32)) ∧ w' = w := by
  go_enter Try.func57, Try.ntmps57
  go_wp2
  go_ret
  refine ⟨ret_int ?_, rfl⟩
  omega

/- places -/
def optI (o : Option Nat) : Int := match o with
  | some k => k
  | none => -1
def atI (fs : List FileD) (id : Int) : Option Nat := fs.findIdx? fun f => f.id == id
def namedI (l : List LinkD) (n : ByteArray) : Option Nat := l.findIdx? fun x => decide (x.1 = n)

theorem find_yes {α : Type} (z : α) {l : List α} {p : α → Bool} {k : Nat} (hk : k < l.length) (h : p (l.getD k z) = true) (hn : ∀ j, j < k → p (l.getD j z) = false) : l.findIdx? p = some k := by
  rw [List.findIdx?_eq_some_iff_getElem]
  refine ⟨hk, ?_, fun j hj => ?_⟩
  · simpa [List.getD, hk] using h
  · have := hn j hj
    have hj2 : j < l.length := by omega
    simp [List.getD, hj2] at this
    simpa using this
theorem find_no {α : Type} (z : α) {l : List α} {p : α → Bool} (hn : ∀ j, j < l.length → p (l.getD j z) = false) : l.findIdx? p = none := by
  rw [List.findIdx?_eq_none_iff]
  intro x hx
  obtain ⟨j, hj, rfl⟩ := List.getElem_of_mem hx
  have := hn j hj
  simpa [List.getD, hj] using this

set_option maxRecDepth 100000 in
set_option maxHeartbeats 1000000 in
theorem at_any (v : Value) (d : VolD) (id : Int) (w : World) (hv : VolVal w v d) (hl : d.files.length ≤ 100000) :
    Calls Try.prog 56 #[v, .int .i64 id] w fun e w' => e = .returned (.int .i64 (optI (atI d.files id))) ∧ Below w.heap.size w w' := by
  obtain ⟨a, ca, rfl, hfs, _⟩ := hv
  have HF : Hid (FilesAt w a d.files) := hfs
  clear hfs
  obtain ⟨vid, fr, snap, fs, next⟩ := d
  simp only at *
  have HB : Hid (Below w.heap.size w (w.alloc (.cells #[.int .i64 vid, .int .i64 fr, .bool snap, .slice a fs.length ca, .int .i64 next] 47))) := nwA (nwR w) _
  go_enter Try.func56, Try.ntmps56
  go_wp2_with fail
  go_loop [5] (fun i => ∃ (k : Nat), k ≤ fs.length ∧ i = .int .i64 k ∧ Hid (∀ j, j < k → ((fs.getD j f0).id == id) = false))
    (fun i => fs.length - (intOf i).toNat)
  case atStart => exact ⟨0, by omega, rfl, fun j hj => by omega⟩
  case round =>
    obtain ⟨k, hk, rfl, HE⟩ := hrel
    by_cases hlt : k < fs.length
    · obtain ⟨b1, o1, rfl, hf⟩ := (HF.out.below HB.out).file hlt
      obtain ⟨ab, cb, al, cl, ⟨c0, _, _, _, _⟩, _, _⟩ := hf
      have hlti : (k : Int) < (fs.length : Int) := by omega
      by_cases he : (fs.getD k f0).id = id
      · have HY : Hid (atI fs id = some k) := find_yes f0 hlt (by simpa using he) (fun j hj => HE.out j hj)
        rw [he] at c0
        go_wp2_with fail
        go_ret
        exact ⟨ret_int (by rw [HY.out]; rfl), HB.out⟩
      · have heb : ((fs.getD k f0).id == id) = false := beq_eq_false_iff_ne.2 he
        have HN : Hid (∀ j, j < k + 1 → ((fs.getD j f0).id == id) = false) := fun j hj => by
          by_cases e : j = k
          · subst e; exact heb
          · exact HE.out j (by omega)
        generalize (fs.getD k f0).id = z at c0 heb
        clear he
        go_wp2_with fail
        go_round
        case rel => exact ⟨k + 1, by omega, by go_num, HN⟩
        case measure => simp [intOf]; omega
    · have hlti : ¬ (k : Int) < (fs.length : Int) := by omega
      have HY : Hid (atI fs id = none) := find_no f0 (fun j hj => HE.out j (by omega))
      go_wp2_with fail
      go_ret
      exact ⟨ret_int (by rw [HY.out]; rfl), HB.out⟩

end Go.Proofs.Ytbaphgdlbeaenaa

/- How many links there are; what a path finds. -/
namespace Go.Proofs.Ytbaphgdlbeaenaa
open Go.RowKit

def cntL (l : List LinkD) (id : Int) : Nat := (l.filter fun x => x.2 == id).length
def linksN (fs : List FileD) (id : Int) : Nat := (fs.map fun f => cntL f.list id).sum
theorem cntL_le (l : List LinkD) (id : Int) : cntL l id ≤ l.length := List.length_filter_le _ _
theorem cntL_succ {l : List LinkD} {k : Nat} (h : k < l.length) (id : Int) : cntL (l.take (k + 1)) id = cntL (l.take k) id + if (l.getD k lk0).2 == id then 1 else 0 := by
  unfold cntL
  rw [List.take_succ_eq_append_getElem h, List.filter_append, List.length_append]
  have e : l.getD k lk0 = l[k] := by simp [List.getD, h]
  rw [e]
  by_cases hh : l[k].2 == id <;> simp [hh]
theorem linksN_succ {fs : List FileD} {k : Nat} (h : k < fs.length) (id : Int) : linksN (fs.take (k + 1)) id = linksN (fs.take k) id + cntL (fs.getD k f0).list id := by
  unfold linksN
  rw [List.take_succ_eq_append_getElem h, List.map_append, List.sum_append]
  simp [List.getD, h]
theorem linksN_le {fs : List FileD} (id : Int) (hs : ∀ f ∈ fs, SmallF f) : linksN fs id ≤ fs.length * 100000 := by
  induction fs with
  | nil => simp [linksN]
  | cons f fs ih =>
    have h1 := ih (fun g hg => hs g (by simp [hg]))
    have h2 := cntL_le f.list id
    have h3 := (hs f (by simp)).2
    unfold linksN at *
    simp only [List.map_cons, List.sum_cons, List.length_cons]
    omega

set_option maxRecDepth 100000 in
set_option maxHeartbeats 2000000 in
theorem links_any (v : Value) (d : VolD) (id : Int) (w : World) (hv : VolVal w v d) (hs : SmallV d) :
    Calls Try.prog 42 #[v, .int .i64 id] w fun e w' => e = .returned (.int .i64 (linksN d.files id)) ∧ Below w.heap.size w w' := by
  obtain ⟨a, ca, rfl, hfs, _⟩ := hv
  have HF : Hid (FilesAt w a d.files) := hfs
  clear hfs
  obtain ⟨vid, fr, snap, fs, next⟩ := d
  simp only [SmallV] at *
  obtain ⟨hl, hs2⟩ := hs
  have HS : Hid (∀ f ∈ fs, SmallF f) := hs2
  clear hs2
  have HB : Hid (Below w.heap.size w (w.alloc (.cells #[.int .i64 vid, .int .i64 fr, .bool snap, .slice a fs.length ca, .int .i64 next] 47))) := nwA (nwR w) _
  go_enter Try.func42, Try.ntmps42
  go_wp2_with fail
  go_loop [5, 6] (fun n i => ∃ (k : Nat), k ≤ fs.length ∧ i = .int .i64 k ∧ n = .int .i64 (linksN (fs.take k) id))
    (fun _ i => fs.length - (intOf i).toNat)
  case atStart => exact ⟨0, by omega, rfl, rfl⟩
  case round =>
    obtain ⟨k, hk, rfl, rfl⟩ := hrel
    by_cases hlt : k < fs.length
    · have hlti : (k : Int) < (fs.length : Int) := by omega
      obtain ⟨b1, o1, rfl, hf⟩ := (HF.out.below HB.out).file hlt
      obtain ⟨ab, cb, al, cl, ⟨_, _, _, _, c4⟩, _, hli, _⟩ := hf
      have HSU : Hid (linksN (fs.take (k + 1)) id = linksN (fs.take k) id + cntL (fs.getD k f0).list id) := linksN_succ hlt id
      have hbd : linksN (fs.take k) id ≤ 10000000000 := by
        have h1 := linksN_le (fs := fs.take k) id (fun g hg => HS.out g (List.mem_of_mem_take hg))
        have h2 : (fs.take k).length ≤ 100000 := by rw [List.length_take]; omega
        have h3 : (fs.take k).length * 100000 ≤ 100000 * 100000 := Nat.mul_le_mul_right _ h2
        omega
      have hsm := (HS.out (fs.getD k f0) (by simp [List.getD, hlt])).2
      have HLI : Hid (LinksAt (w.alloc (.cells #[.int .i64 vid, .int .i64 fr, .bool snap, .slice (some ⟨b1, o1, none⟩) fs.length ca, .int .i64 next] 47)) al (fs.getD k f0).list) := hli
      generalize linksN (fs.take k) id = N at HSU hbd
      generalize (fs.getD k f0).list = li at HSU hsm HLI c4
      clear hli
      go_wp2_with fail
      go_loop [5, 7] (fun n i => ∃ (j : Nat), j ≤ li.length ∧ i = .int .i64 j ∧ n = .int .i64 ((N + cntL (li.take j) id : Nat) : Int))
        (fun _ i => li.length - (intOf i).toNat)
      case atStart => exact ⟨0, by omega, rfl, rfl⟩
      case round =>
        obtain ⟨j, hj, rfl, rfl⟩ := hrel
        have hcn : cntL (li.take j) id ≤ 100000 := by have := cntL_le (li.take j) id; rw [List.length_take] at this; omega
        by_cases hjl : j < li.length
        · have hjli : (j : Int) < (li.length : Int) := by omega
          obtain ⟨b2, o2, rfl, _, d2⟩ := HLI.out.cell hjl
          have HCS : Hid (cntL (li.take (j + 1)) id = cntL (li.take j) id + if (li.getD j lk0).2 == id then 1 else 0) := cntL_succ hjl id
          generalize (li.getD j lk0).2 = z at d2 HCS
          generalize cntL (li.take j) id = C at HCS hcn
          by_cases he : z = id
          · subst he
            go_wp2_with fail
            go_round
            case rel => exact ⟨j + 1, by omega, by go_num, by rw [HCS.out]; simp; omega⟩
            case measure => simp [intOf]; omega
          · have heb : (z == id) = false := beq_eq_false_iff_ne.2 he
            clear he
            go_wp2_with fail
            go_round
            case rel => exact ⟨j + 1, by omega, by go_num, by rw [HCS.out, heb]; simp⟩
            case measure => simp [intOf]; omega
        · have hjli : ¬ (j : Int) < (li.length : Int) := by omega
          have e : li.take j = li := List.take_of_length_le (by omega)
          rw [e]
          go_wp2_with fail
          go_round
          case rel => exact ⟨k + 1, by omega, by go_num, by rw [HSU.out]⟩
          case measure => simp [intOf]; omega
    · have hlti : ¬ (k : Int) < (fs.length : Int) := by omega
      have e : fs.take k = fs := List.take_of_length_le (by omega)
      rw [e]
      go_wp2_with fail
      go_ret
      exact ⟨rfl, HB.out⟩

end Go.Proofs.Ytbaphgdlbeaenaa

/- Rows of volumes in memory: read, and owned. -/
namespace Go.Proofs.Ytbaphgdlbeaenaa
open Go.RowKit

abbrev VZ : VolD := Go.Proofs.Ytbaphgdlbeaenaa.v0
def VolIn (w : World) (b o : Nat) (d : VolD) : Prop := ∃ a c, (w.cell? ⟨b, o, none⟩ = some (.int .i64 d.id) ∧ w.cell? ⟨b, o + 1, none⟩ = some (.int .i64 d.fr) ∧ w.cell? ⟨b, o + 2, none⟩ = some (.bool d.snap) ∧ w.cell? ⟨b, o + 3, none⟩ = some (.slice a d.files.length c) ∧ w.cell? ⟨b, o + 4, none⟩ = some (.int .i64 d.next)) ∧ FilesAt w a d.files ∧ CapOk a c d.files.length
def VolsAt (w : World) (a : Option Addr) (ds : List VolD) : Prop :=
  ds = [] ∨ ∃ b o, a = some ⟨b, o, none⟩ ∧ ∀ i, i < ds.length → VolIn w b (o + i * 5) (ds.getD i VZ)
theorem VolIn.below {w w' : World} {b o : Nat} {d : VolD} (h : VolIn w b o d) (hb : Below w.heap.size w w') : VolIn w' b o d := by
  obtain ⟨a, c, ⟨h0, h1, h2, h3, h4⟩, hf, hc⟩ := h
  have hlt := block_lt_of_cell h0
  exact ⟨a, c, ⟨(hb.cell (p := ⟨b, o, none⟩) hlt).trans h0, (hb.cell (p := ⟨b, o + 1, none⟩) hlt).trans h1, (hb.cell (p := ⟨b, o + 2, none⟩) hlt).trans h2, (hb.cell (p := ⟨b, o + 3, none⟩) hlt).trans h3, (hb.cell (p := ⟨b, o + 4, none⟩) hlt).trans h4⟩, hf.below hb, hc⟩
theorem VolsAt.vol {w : World} {a : Option Addr} {ds : List VolD} (h : VolsAt w a ds) {i : Nat} (hi : i < ds.length) : ∃ b o, a = some ⟨b, o, none⟩ ∧ VolIn w b (o + i * 5) (ds.getD i VZ) := by
  rcases h with rfl | ⟨b, o, rfl, hc⟩
  · simp at hi
  · exact ⟨b, o, rfl, hc i hi⟩
theorem VolsAt.below {w w' : World} {a : Option Addr} {ds : List VolD} (h : VolsAt w a ds) (hb : Below w.heap.size w w') : VolsAt w' a ds := by
  rcases h with rfl | ⟨b, o, rfl, hc⟩
  · exact .inl rfl
  · exact .inr ⟨b, o, rfl, fun i hi => (hc i hi).below hb⟩
theorem VolIn.val {w : World} {b o : Nat} {d : VolD} (h : VolIn w b o d) : ∃ a c, (w.cell? ⟨b, o, none⟩ = some (.int .i64 d.id) ∧ w.cell? ⟨b, o + 1, none⟩ = some (.int .i64 d.fr) ∧ w.cell? ⟨b, o + 2, none⟩ = some (.bool d.snap) ∧ w.cell? ⟨b, o + 3, none⟩ = some (.slice a d.files.length c) ∧ w.cell? ⟨b, o + 4, none⟩ = some (.int .i64 d.next)) ∧ VolVal w (.agg #[.int .i64 d.id, .int .i64 d.fr, .bool d.snap, .slice a d.files.length c, .int .i64 d.next]) d := by
  obtain ⟨a, c, hc, hf, hk⟩ := h
  exact ⟨a, c, hc, a, c, rfl, hf, hk⟩
theorem VolsAt.take {w : World} {a : Option Addr} {ds : List VolD} (h : VolsAt w a ds) (k : Nat) : VolsAt w a (ds.take k) := by
  rcases h with rfl | ⟨b, o, rfl, hc⟩
  · exact .inl (by simp)
  · refine .inr ⟨b, o, rfl, fun i hi => ?_⟩
    rw [List.length_take] at hi
    have e : (ds.take k).getD i VZ = ds.getD i VZ := by simp only [List.getD]; rw [List.getElem?_take_of_lt (by omega)]
    rw [e]; exact hc i (by omega)
theorem VolsAt.drop {w : World} {b o : Nat} {ds : List VolD} (h : VolsAt w (some ⟨b, o, none⟩) ds) (k : Nat) : VolsAt w (some ⟨b, o + k * 5, none⟩) (ds.drop k) := by
  rcases h with rfl | ⟨b', o', e, hc⟩
  · exact .inl (by simp)
  · injection e with e
    injection e with e1 e2
    subst e1; subst e2
    refine .inr ⟨b, o + k * 5, rfl, fun i hi => ?_⟩
    rw [List.length_drop] at hi
    have e : (ds.drop k).getD i VZ = ds.getD (k + i) VZ := by simp [List.getD]
    rw [e, show o + k * 5 + i * 5 = o + (k + i) * 5 from by omega]
    exact hc (k + i) (by omega)

structure VV where
  d : VolD
  fv : Value
def vflat (gs : List VV) : List Value := gs.flatMap fun g => [.int .i64 g.d.id, .int .i64 g.d.fr, .bool g.d.snap, g.fv, .int .i64 g.d.next]
/-- volumes in memory of one's own -/
def OwnVols (w : World) (base : Nat) (v : Value) (ds : List VolD) : Prop := ∃ gs : List VV, gs.map VV.d = ds ∧ w.ownsRow base 47 5 v gs.length (vflat gs) ∧ ∀ g ∈ gs, OwnFiles w base g.fv g.d.files
def SmallW (ds : List VolD) : Prop := ds.length ≤ 100000 ∧ ∀ d ∈ ds, SmallV d

theorem vflat_get (gs : List VV) : ∀ i g, gs[i]? = some g → (vflat gs)[i * 5]? = some (.int .i64 g.d.id) ∧ (vflat gs)[i * 5 + 1]? = some (.int .i64 g.d.fr) ∧ (vflat gs)[i * 5 + 2]? = some (.bool g.d.snap) ∧ (vflat gs)[i * 5 + 3]? = some g.fv ∧ (vflat gs)[i * 5 + 4]? = some (.int .i64 g.d.next) := by
  induction gs with
  | nil => intro i g h; simp at h
  | cons x xs ih =>
    intro i g h
    have e : vflat (x :: xs) = .int .i64 x.d.id :: .int .i64 x.d.fr :: .bool x.d.snap :: x.fv :: .int .i64 x.d.next :: vflat xs := by simp [vflat]
    rw [e]
    cases i with
    | zero => simp at h; subst h; simp
    | succ i =>
      have h' : xs[i]? = some g := by simpa using h
      have h2 := ih i g h'
      rw [show (i + 1) * 5 = i * 5 + 1 + 1 + 1 + 1 + 1 from by omega]
      simp only [List.getElem?_cons_succ]
      exact h2
theorem vflat_snoc (gs : List VV) (g : VV) : vflat (gs ++ [g]) = vflat gs ++ [.int .i64 g.d.id, .int .i64 g.d.fr, .bool g.d.snap, g.fv, .int .i64 g.d.next] := by simp [vflat]
theorem vflat_len (gs : List VV) : (vflat gs).length = gs.length * 5 := by
  induction gs with
  | nil => rfl
  | cons x xs ih => simp only [vflat, List.flatMap_cons, List.length_append, List.length_cons, List.length_nil] at *; omega
theorem OwnVols.below {w w' : World} {base : Nat} {v : Value} {ds : List VolD} (h : OwnVols w base v ds) (hb : Below w.heap.size w w') : OwnVols w' base v ds := by
  obtain ⟨gs, e, ho, hg⟩ := h
  exact ⟨gs, e, own_below ho hb, fun g hm => (hg g hm).below hb⟩
theorem OwnVols.le {w : World} {base base' : Nat} {v : Value} {ds : List VolD} (h : OwnVols w base v ds) (hb : base' ≤ base) : OwnVols w base' v ds := by
  obtain ⟨gs, e, ho, hg⟩ := h
  exact ⟨gs, e, own_le ho hb, fun g hm => (hg g hm).le hb⟩
theorem OwnVols.set {w : World} {base : Nat} {v : Value} {ds : List VolD} (h : OwnVols w base v ds) {g : Nat} (o : Nat) (hg : g < base) (u : Value) : OwnVols (w.setCell ⟨g, o, none⟩ u) base v ds := by
  obtain ⟨gs, e, ho, ha⟩ := h
  exact ⟨gs, e, rowset ho o hg u, fun x hx => (ha x hx).set o hg u⟩
theorem addr_add (g j : Nat) : (⟨g, 0, none⟩ : Addr).add j = ⟨g, 0 + j, none⟩ := by unfold Addr.add; split <;> simp_all
theorem OwnVols.at {w : World} {base : Nat} {v : Value} {ds : List VolD} (h : OwnVols w base v ds) : ∃ a cap, v = .slice a ds.length cap ∧ VolsAt w a ds ∧ CapOk a cap ds.length := by
  obtain ⟨gs, rfl, ho, hg⟩ := h
  have hh := ho
  rw [List.length_map]
  rcases ho.2 with ⟨hv, hn⟩ | ⟨g, cap, cur, hv, hb, _, hnc, _⟩
  · exact ⟨none, 0, by rw [hv, hn], .inl (by rw [List.length_eq_zero_iff.1 hn]; rfl), by omega, (fun _ => rfl), (fun p e => by cases e)⟩
  · refine ⟨_, cap, hv, .inr ⟨g, 0, rfl, fun i hi => ?_⟩, hnc, (fun e => by cases e), (fun p e _ => by injection e with e; rw [← e])⟩
    rw [List.length_map] at hi
    obtain ⟨c0, c1, c2, c3, c4⟩ := vflat_get gs i _ (List.getElem?_eq_getElem hi)
    have hm := hg gs[i] (List.getElem_mem hi)
    obtain ⟨ab, cb, eb, hib, kib⟩ := hm.at
    have hgd : (gs.map VV.d).getD i VZ = gs[i].d := by simp [List.getD, hi]
    rw [hgd]
    have K : ∀ j u, (vflat gs)[j]? = some u → w.cell? ⟨g, 0 + j, none⟩ = some u := fun j u hj => by
      have := hh.cells (g := g) (by rw [hv]; rfl) j u hj
      rwa [addr_add] at this
    rw [eb] at c3
    exact ⟨ab, cb, ⟨K _ _ c0, by have := K _ _ c1; rwa [← Nat.add_assoc] at this, by have := K _ _ c2; rwa [← Nat.add_assoc] at this, by have := K _ _ c3; rwa [← Nat.add_assoc] at this, by have := K _ _ c4; rwa [← Nat.add_assoc] at this⟩, hib, kib⟩
theorem OwnVols.snoc {w : World} {base : Nat} {v : Value} {gs : List VV} {g : VV} (hg : ∀ x ∈ gs, OwnFiles w base x.fv x.d.files) (h1 : OwnFiles w base g.fv g.d.files)
    (h : w.ownsRow base 47 5 v (gs.length + 1) (vflat gs ++ [.int .i64 g.d.id, .int .i64 g.d.fr, .bool g.d.snap, g.fv, .int .i64 g.d.next])) : OwnVols w base v (gs.map VV.d ++ [g.d]) := by
  refine ⟨gs ++ [g], by simp, ?_, ?_⟩
  · rw [vflat_snoc, List.length_append]; exact h
  · intro x hx
    rcases List.mem_append.1 hx with h2 | h2
    · exact hg x h2
    · simp at h2; subst h2; exact h1
theorem OwnFiles.grown {w w' : World} {base B' : Nat} {v : Value} {fs : List FileD} {m : Nat} {ys : List Value} {u : Value} (h : OwnFiles w base v fs) (hu : w.ownsRow B' 47 5 u m ys) (hg : w.grownBy w' u.ownBlock) : OwnFiles w' base v fs := by
  obtain ⟨gs, e, ho, ha⟩ := h
  exact ⟨gs, e, own_other ho hu (by decide) hg, fun x hx => ⟨own_other (ha x hx).1 hu (by decide) hg, own_other (ha x hx).2 hu (by decide) hg⟩⟩
theorem Try.info47 : (Try.prog.info? 47).map (fun i => (i.zero, i.size, i.bytes)) = some (some (.agg #[.int .i64 0, .int .i64 0, .bool false, .slice none 0 0, .int .i64 0]), 5, 56) := by kernel_rfl

end Go.Proofs.Ytbaphgdlbeaenaa

/- How much a volume is: what is not heavy is small. -/
namespace Go.Proofs.Ytbaphgdlbeaenaa
open Go.RowKit

/-- as great as anything may be that comes in -/
def LooseF (f : FileD) : Prop := f.blocks.length ≤ 35184372088832 ∧ f.list.length ≤ 35184372088832 ∧ ∀ l ∈ f.list, l.1.size ≤ 140737488355328
def LooseV (d : VolD) : Prop := d.files.length ≤ 35184372088832 ∧ ∀ f ∈ d.files, LooseF f
def FitF (N : Nat) (f : FileD) : Prop := f.blocks.length + f.list.length ≤ N ∧ (N < 1048576 → ∀ l ∈ f.list, l.1.size / 4 ≤ N)
theorem FitF.mono {N M : Nat} {f : FileD} (h : FitF N f) (hM : N ≤ M) : FitF M f := ⟨by have := h.1; omega, fun hh l hl => by have := h.2 (by omega) l hl; omega⟩
def FitV (N : Nat) (d : VolD) : Prop := N ≤ 281474976710656 ∧ (N < 1048576 → d.files.length ≤ N ∧ ∀ f ∈ d.files, FitF N f)

set_option maxRecDepth 100000 in
set_option maxHeartbeats 2000000 in
theorem volWeight_any (v : Value) (d : VolD) (w : World) (hv : VolVal w v d) (hs : LooseV d) :
    Calls Try.prog 38 #[v] w fun e w' => (∃ N : Nat, e = .returned (.int .i64 N) ∧ Hid (FitV N d)) ∧ Below w.heap.size w w' := by
  obtain ⟨a, ca, rfl, hfs, _⟩ := hv
  have HF : Hid (FilesAt w a d.files) := hfs
  clear hfs
  obtain ⟨vid, fr, snap, fs, next⟩ := d
  simp only [LooseV] at *
  obtain ⟨hl, hs2⟩ := hs
  have HS : Hid (∀ f ∈ fs, LooseF f) := hs2
  clear hs2
  go_enter Try.func38, Try.ntmps38
  go_wp2_with fail
  obtain ⟨W0, hW0⟩ : ∃ W0, W0 = w.alloc (.cells #[.int .i64 vid, .int .i64 fr, .bool snap, .slice a fs.length ca, .int .i64 next] 47) := ⟨_, rfl⟩
  have HB0 : Hid (Below w.heap.size w W0) := by rw [hW0]; exact nwA (nwR w) _
  have HF0 : Hid (FilesAt W0 a fs) := HF.out.below HB0.out
  have HBX : Hid (W0.heap[w.heap.size]? = some (.cells #[.int .i64 vid, .int .i64 fr, .bool snap, .slice a fs.length ca, .int .i64 next] 47 (0, 0))) := by rw [hW0]; exact heap_alloc_new w _
  rw [← hW0]
  clear hW0 HF
  go_loopw [3, 4] (fun n i wr => ∃ (k N : Nat), k ≤ fs.length ∧ i = .int .i64 k ∧ n = .int .i64 N ∧ N ≤ 281474976710656 ∧ Hid (fs.length ≤ N ∧ ∀ j, j < k → FitF N (fs.getD j f0)) ∧ Below W0.heap.size W0 wr)
    (fun _ i _ => fs.length - (intOf i).toNat)
  case atStart => exact ⟨0, fs.length, by omega, rfl, rfl, by omega, ⟨by omega, fun j hj => by omega⟩, nwR W0⟩
  case round =>
    obtain ⟨k, N, hk, rfl, rfl, hN, HE, hb⟩ := hrel
    have HBW : Hid (Below w.heap.size w wr) := nwT HB0.out hb
    obtain ⟨_, _, _, x3, _, _⟩ := five ((hb.block _ (Array.getElem?_eq_some_iff.1 HBX.out).1).trans HBX.out)
    by_cases hlt : k < fs.length
    · have hlti : (k : Int) < (fs.length : Int) := by omega
      by_cases hN2 : N < 1048576
      · have hNi : (N : Int) < 1048576 := by omega
        obtain ⟨b1, o1, rfl, hf⟩ := (HF0.out.below hb).file hlt
        obtain ⟨ab, cb, al, cl, ⟨_, _, _, c3, c4⟩, _, hli, _⟩ := hf
        have hlo := HS.out (fs.getD k f0) (by simp [List.getD, hlt])
        have HLI : Hid (LinksAt wr al (fs.getD k f0).list) := hli
        have HFK : Hid (∀ M, N ≤ M → FitF M (fs.getD k f0) → fs.length ≤ M ∧ ∀ j, j < k + 1 → FitF M (fs.getD j f0)) := fun M hM h => ⟨by have := HE.out.1; omega, fun j hj => by
          by_cases e : j = k
          · subst e; exact h
          · exact (HE.out.2 j (by omega)).mono hM⟩
        generalize fs.getD k f0 = f at c3 c4 hlo HLI HFK
        obtain ⟨fid, fdir, fsize, fbl, fli⟩ := f
        simp only [LooseF] at c3 c4 hlo HLI
        obtain ⟨hl1, hl2, hl3⟩ := hlo
        have HSZ : Hid (∀ l ∈ fli, l.1.size ≤ 140737488355328) := hl3
        clear hli hl3
        go_wp2_with fail
        have e1 : IntKind.i64.wrap ((N : Int) + (fbl.length : Int)) = (N : Int) + (fbl.length : Int) := wrap_any (by omega) (by omega)
        have e2 : IntKind.i64.wrap ((N : Int) + (fbl.length : Int) + (fli.length : Int)) = (N : Int) + (fbl.length : Int) + (fli.length : Int) := wrap_any (by omega) (by omega)
        go_quiet (fail)
        clear e1 e2
        have eP : (N : Int) + (fbl.length : Int) + (fli.length : Int) = ((N + fbl.length + fli.length : Nat) : Int) := by omega
        rw [eP]
        clear eP
        generalize hP : N + fbl.length + fli.length = P
        have hP1 : N ≤ P := by omega
        have hP2 : fbl.length + fli.length ≤ P := by omega
        have hP3 : P ≤ 140737488355328 := by omega
        clear hP
        go_wp2_with fail
        go_loop [3, 5] (fun n i => ∃ (j M : Nat), j ≤ fli.length ∧ i = .int .i64 j ∧ n = .int .i64 M ∧ P ≤ M ∧ M ≤ 281474976710656 ∧ Hid (∀ t, t < j → (fli.getD t lk0).1.size / 4 ≤ M))
          (fun _ i => fli.length - (intOf i).toNat)
        case atStart => exact ⟨0, P, by omega, rfl, rfl, by omega, by omega, fun t ht => by omega⟩
        case round =>
          obtain ⟨j, M, hj, rfl, rfl, hM1, hM2, HT⟩ := hrel
          by_cases hjl : j < fli.length
          · have hjli : (j : Int) < (fli.length : Int) := by omega
            by_cases hM3 : M < 1048576
            · have hMi : (M : Int) < 1048576 := by omega
              obtain ⟨b2, o2, rfl, d1, _⟩ := HLI.out.cell hjl
              have hsz := HSZ.out (fli.getD j lk0) (by simp [List.getD, hjl])
              have HT2 : Hid (∀ t, t < j + 1 → (fli.getD t lk0).1.size / 4 ≤ M + (fli.getD j lk0).1.size / 4) := fun t ht => by
                by_cases e : t = j
                · subst e; omega
                · have := HT.out t (by omega); omega
              generalize (fli.getD j lk0).1 = nme at d1 hsz HT2
              go_wp2_with fail
              go_round
              case rel => exact ⟨j + 1, M + nme.size / 4, by omega, by go_num, by first | rfl | (congr 1; omega), by omega, by omega, HT2⟩
              case measure => simp [intOf]; omega
            · have hMi : ¬ (M : Int) < 1048576 := by omega
              go_wp2_with fail
              go_roundw
              case rel => exact ⟨k + 1, M, by omega, by go_num, rfl, hM2, HFK.out M (by omega) ⟨by show fbl.length + fli.length ≤ M; omega, fun h => absurd h hM3⟩, below_drewN hb _⟩
              case measure => simp [intOf]; omega
          · have hjli : ¬ (j : Int) < (fli.length : Int) := by omega
            go_wp2_with fail
            go_roundw
            case rel => exact ⟨k + 1, M, by omega, by go_num, rfl, hM2, HFK.out M (by omega) ⟨by show fbl.length + fli.length ≤ M; omega, fun _ l hl => by
              have hl2 : l ∈ fli := hl
              obtain ⟨t, ht, rfl⟩ := List.getElem_of_mem hl2
              have := HT.out t (by omega)
              simpa [List.getD, ht] using this⟩, below_drewN hb _⟩
            case measure => simp [intOf]; omega
      · have hNi : ¬ (N : Int) < 1048576 := by omega
        go_wp2_with fail
        go_ret
        exact ⟨⟨N, rfl, ⟨hN, fun h => absurd h hN2⟩⟩, HBW.out⟩
    · have hlti : ¬ (k : Int) < (fs.length : Int) := by omega
      go_wp2_with fail
      go_ret
      exact ⟨⟨N, rfl, ⟨hN, fun h => ⟨HE.out.1, fun f hf => by
        have hf2 : f ∈ fs := hf
        obtain ⟨j, hj, rfl⟩ := List.getElem_of_mem hf2
        have := HE.out.2 j (by omega)
        simpa [List.getD, hj] using this⟩⟩⟩, HBW.out⟩

theorem FitV.small {N : Nat} {d : VolD} (h : FitV N d) (hN : N ≤ 1500) : SmallV d := by
  obtain ⟨_, h2⟩ := h
  obtain ⟨h3, h4⟩ := h2 (by omega)
  refine ⟨by omega, fun f hf => ?_⟩
  have := (h4 f hf).1
  exact ⟨by omega, by omega⟩

end Go.Proofs.Ytbaphgdlbeaenaa

/- How much volumes are. -/
namespace Go.Proofs.Ytbaphgdlbeaenaa
open Go.RowKit

def LooseW (ds : List VolD) : Prop := ds.length ≤ 35184372088832 ∧ ∀ d ∈ ds, LooseV d
def FitW (N : Nat) (ds : List VolD) : Prop := N ≤ 562949953421312 ∧ (N < 1048576 → ds.length ≤ N ∧ ∀ d ∈ ds, ∃ M, M ≤ N ∧ FitV M d)
theorem FitW.small {N : Nat} {ds : List VolD} (h : FitW N ds) (hN : N ≤ 1500) : SmallW ds := by
  obtain ⟨h1, h2⟩ := h.2 (by omega)
  refine ⟨by omega, fun d hd => ?_⟩
  obtain ⟨M, hM, hf⟩ := h2 d hd
  exact hf.small (by omega)

set_option maxRecDepth 100000 in
set_option maxHeartbeats 2000000 in
theorem volsWeight_any (a : Option Addr) (ds : List VolD) (ca : Nat) (w : World) (hv : VolsAt w a ds) (hs : LooseW ds) :
    Calls Try.prog 37 #[.slice a ds.length ca] w fun e w' => (∃ N : Nat, e = .returned (.int .i64 N) ∧ Hid (FitW N ds)) ∧ Below w.heap.size w w' := by
  have HV : Hid (VolsAt w a ds) := hv
  have HS : Hid (∀ d ∈ ds, LooseV d) := hs.2
  have hl := hs.1
  clear hv hs
  go_enter Try.func37, Try.ntmps37
  go_wp2_with fail
  go_loopw [3, 4] (fun n i wr => ∃ (k N : Nat), k ≤ ds.length ∧ i = .int .i64 k ∧ n = .int .i64 N ∧ N ≤ 562949953421312 ∧ Hid (ds.length ≤ N ∧ ∀ j, j < k → ∃ M, M ≤ N ∧ FitV M (ds.getD j VZ)) ∧ Below w.heap.size w wr)
    (fun _ i _ => ds.length - (intOf i).toNat)
  case atStart => exact ⟨0, ds.length, by omega, rfl, rfl, by omega, ⟨by omega, fun j hj => by omega⟩, nwR w⟩
  case round =>
    obtain ⟨k, N, hk, rfl, rfl, hN, HE, hb⟩ := hrel
    by_cases hlt : k < ds.length
    · have hlti : (k : Int) < (ds.length : Int) := by omega
      by_cases hN2 : N < 1048576
      · have hNi : (N : Int) < 1048576 := by omega
        obtain ⟨b1, o1, rfl, hf⟩ := (HV.out.below hb).vol hlt
        obtain ⟨af, cf, ⟨c0, c1, c2, c3, c4⟩, hvl⟩ := hf.val
        have HLO : Hid (LooseV (ds.getD k VZ)) := HS.out (ds.getD k VZ) (by simp [List.getD, hlt])
        have HVL : Hid (VolVal wr (.agg #[.int .i64 (ds.getD k VZ).id, .int .i64 (ds.getD k VZ).fr, .bool (ds.getD k VZ).snap, .slice af (ds.getD k VZ).files.length cf, .int .i64 (ds.getD k VZ).next]) (ds.getD k VZ)) := hvl
        have HFK : Hid (∀ A M, FitV M (ds.getD k VZ) → M ≤ A → N ≤ A → ds.length ≤ A ∧ ∀ j, j < k + 1 → ∃ M, M ≤ A ∧ FitV M (ds.getD j VZ)) := fun A M h hM hA => ⟨by have := HE.out.1; omega, fun j hj => by
          by_cases e : j = k
          · subst e; exact ⟨M, hM, h⟩
          · obtain ⟨M', h1, h2⟩ := HE.out.2 j (by omega)
            exact ⟨M', by omega, h2⟩⟩
        generalize ds.getD k VZ = d at c0 c1 c2 c3 c4 HLO HVL HFK
        clear hf hvl
        go_wp2_with fail
        refine (volWeight_any _ d wr HVL.out HLO.out).mono ?_
        rintro e w2 ⟨⟨M, rfl, HM⟩, hb2⟩
        have hbb := nwT hb hb2
        have hM1 := HM.out.1
        have e1 : IntKind.i64.wrap ((N : Int) + (M : Int)) = (N : Int) + (M : Int) := wrap_any (by omega) (by omega)
        have HFN := HFK.out (N + M) M HM.out (by omega) (by omega)
        have HFH : Hid (ds.length ≤ N + M ∧ ∀ j, j < k + 1 → ∃ M', M' ≤ N + M ∧ FitV M' (ds.getD j VZ)) := HFN
        clear HFN HM c0 c1 c2 c3 c4
        go_wp2_with fail
        go_roundw
        case rel => exact ⟨k + 1, N + M, by omega, by go_num, by go_num, by omega, HFH.out, hbb⟩
        case measure => simp [intOf]; omega
      · have hNi : ¬ (N : Int) < 1048576 := by omega
        have HQ : Hid (FitW N ds) := ⟨hN, fun h => absurd h hN2⟩
        go_wp2_with fail
        go_ret
        exact ⟨⟨N, rfl, HQ.out⟩, hb⟩
    · have hlti : ¬ (k : Int) < (ds.length : Int) := by omega
      have HQ : Hid (FitW N ds) := ⟨hN, fun _ => ⟨HE.out.1, fun d hd => by
        obtain ⟨j, hj, rfl⟩ := List.getElem_of_mem hd
        have := HE.out.2 j (by omega)
        rwa [show ds.getD j VZ = ds[j] from by simp [List.getD, hj]] at this⟩⟩
      go_wp2_with fail
      go_ret
      exact ⟨⟨N, rfl, HQ.out⟩, hb⟩

end Go.Proofs.Ytbaphgdlbeaenaa

/- Scripts of volumes: what is not heavy is small. -/
namespace Go.Proofs.Ytbaphgdlbeaenaa
open Go.RowKit

structure ActD where
  act : Int
  id : Int
  v : VolD
def act0 : ActD := ⟨0, 0, VZ⟩
def ActsAt (w : World) (a : Option Addr) (l : List ActD) : Prop :=
  l = [] ∨ ∃ b o, a = some ⟨b, o, none⟩ ∧ ∀ i, i < l.length → w.cell? ⟨b, o + i * 7, none⟩ = some (.int .i64 (l.getD i act0).act) ∧ w.cell? ⟨b, o + i * 7 + 1, none⟩ = some (.int .i64 (l.getD i act0).id) ∧ VolIn w b (o + i * 7 + 2) (l.getD i act0).v
theorem ActsAt.cell {w : World} {a : Option Addr} {l : List ActD} (h : ActsAt w a l) {i : Nat} (hi : i < l.length) : ∃ b o, a = some ⟨b, o, none⟩ ∧ w.cell? ⟨b, o + i * 7, none⟩ = some (.int .i64 (l.getD i act0).act) ∧ w.cell? ⟨b, o + i * 7 + 1, none⟩ = some (.int .i64 (l.getD i act0).id) ∧ VolIn w b (o + i * 7 + 2) (l.getD i act0).v := by
  rcases h with rfl | ⟨b, o, rfl, hc⟩
  · simp at hi
  · exact ⟨b, o, rfl, hc i hi⟩
theorem ActsAt.below {w w' : World} {a : Option Addr} {l : List ActD} (h : ActsAt w a l) (hb : Below w.heap.size w w') : ActsAt w' a l := by
  rcases h with rfl | ⟨b, o, rfl, hc⟩
  · exact .inl rfl
  · exact .inr ⟨b, o, rfl, fun i hi => ⟨(hb.cell (p := ⟨b, o + i * 7, none⟩) (block_lt_of_cell (hc i hi).1)).trans (hc i hi).1, (hb.cell (p := ⟨b, o + i * 7 + 1, none⟩) (block_lt_of_cell (hc i hi).2.1)).trans (hc i hi).2.1, (hc i hi).2.2.below hb⟩⟩
/-- a script: volumes, the next ID, acts -/
def ScrVal (w : World) (v : Value) (ds : List VolD) (next : Int) (l : List ActD) : Prop := ∃ av ca a c, v = .agg #[.slice av ds.length ca, .int .i64 next, .slice a l.length c] ∧ (VolsAt w av ds ∧ CapOk av ca ds.length) ∧ ActsAt w a l ∧ CapOk a c l.length
theorem ScrVal.below {w w' : World} {v : Value} {ds : List VolD} {next : Int} {l : List ActD} (h : ScrVal w v ds next l) (hb : Below w.heap.size w w') : ScrVal w' v ds next l := by
  obtain ⟨av, ca, a, c, e, h1, h2, h3⟩ := h
  exact ⟨av, ca, a, c, e, ⟨h1.1.below hb, h1.2⟩, h2.below hb, h3⟩
theorem tri {w : World} {g : Nat} {c0 c1 c2 : Value} {t : TypeId} (h : w.heap[g]? = some (.cells #[c0, c1, c2] t (0, 0))) :
    w.cell? ⟨g, 0, none⟩ = some c0 ∧ w.cell? ⟨g, 1, none⟩ = some c1 ∧ w.cell? ⟨g, 2, none⟩ = some c2 :=
  ⟨by rw [Lib.cell_of_heap h]; rfl, by rw [Lib.cell_of_heap h]; rfl, by rw [Lib.cell_of_heap h]; rfl⟩
def LooseA (l : List ActD) : Prop := l.length ≤ 3518437208883 ∧ ∀ x ∈ l, LooseV x.v
def LightA (l : List ActD) : Prop := l.length ≤ 1500 ∧ ∀ x ∈ l, SmallV x.v
def HvPost (ds : List VolD) (l : List ActD) (w : World) (e : Ending) (w' : World) : Prop := ∃ q : Bool, e = .returned (.bool q) ∧ Below w.heap.size w w' ∧ (q = false → SmallW ds ∧ LightA l)

set_option maxRecDepth 100000 in
set_option maxHeartbeats 2000000 in
theorem heavy_any (v : Value) (ds : List VolD) (next : Int) (l : List ActD) (w : World) (hv : ScrVal w v ds next l) (hd : LooseW ds) (hl : LooseA l) : Calls Try.prog 18 #[v] w (HvPost ds l w) := by
  obtain ⟨av, ca, aL, cL, rfl, ⟨hu, _⟩, hL, _⟩ := hv
  have HU : Hid (VolsAt w av ds) := hu
  have HL : Hid (ActsAt w aL l) := hL
  have HD : Hid (LooseW ds) := hd
  have hll := hl.1
  have HLA : Hid (∀ x ∈ l, LooseV x.v) := hl.2
  obtain ⟨W0, hW0⟩ : ∃ W0, W0 = w.alloc (.cells #[.slice av ds.length ca, .int .i64 next, .slice aL l.length cL] 25) := ⟨_, rfl⟩
  have HB0 : Hid (Below w.heap.size w W0) := by rw [hW0]; exact nwA (nwR w) _
  have HR0 : Hid (W0.heap[w.heap.size]? = some (.cells #[.slice av ds.length ca, .int .i64 next, .slice aL l.length cL] 25 (0, 0))) := by rw [hW0]; exact heap_alloc_new w _
  have HU0 : Hid (VolsAt W0 av ds) := HU.out.below HB0.out
  clear hL hd hl hu HU
  go_enter Try.func18, Try.ntmps18
  go_wp2_with fail
  rw [← hW0]
  clear hW0
  have hS := nwR W0
  have q0 : ∀ w', Below W0.heap.size W0 w' → w'.cell? ⟨w.heap.size, 0, none⟩ = some (.slice av ds.length ca) := fun w' h => (tri ((h.block _ (Array.getElem?_eq_some_iff.1 HR0.out).1).trans HR0.out)).1
  have q2 : ∀ w', Below W0.heap.size W0 w' → w'.cell? ⟨w.heap.size, 2, none⟩ = some (.slice aL l.length cL) := fun w' h => (tri ((h.block _ (Array.getElem?_eq_some_iff.1 HR0.out).1).trans HR0.out)).2.2
  go_region_held3 (fun w' => Below W0.heap.size W0 w') (first | assumption | exact Below.drew (by assumption) | exact nwT (by assumption) (by assumption)) (first
    | (go_at_call 37; refine (volsWeight_any _ ds ca _ (HU0.out.below (by assumption)) HD.out).mono ?_; rintro e w1 ⟨⟨N, rfl, HN⟩, hb1⟩; have hN := HN.out.1; have e1 : IntKind.i64.wrap ((N : Int) + (l.length : Int)) = (N : Int) + (l.length : Int) := wrap_any (by omega) (by omega); have hbq : Below W0.heap.size W0 w1 := nwT (by assumption) hb1)
    | fail)
  have HB1 : Hid (Below w.heap.size w w1) := nwT HB0.out hbq
  have HL1 : Hid (ActsAt w1 aL l) := HL.out.below HB1.out
  have HC5 : Hid (∀ w', Below w1.heap.size w1 w' → w'.cell? ⟨w.heap.size, 2, none⟩ = some (.slice aL l.length cL)) := fun w' h => q2 w' (nwT hbq h)
  have HNN : Hid (FitW N ds) := HN.out
  clear hb1 hbq q0 q2 HL HU0 hS HN e1
  go_wp2_with fail
  go_loopw [3, 4] (fun n i wr => ∃ (k M : Nat), k ≤ l.length ∧ i = .int .i64 k ∧ n = .int .i64 M ∧ M ≤ 1125899906842624 ∧ Hid (N + l.length ≤ M ∧ ∀ j, j < k → ∃ A, A ≤ M ∧ FitV A (l.getD j act0).v) ∧ Below w1.heap.size w1 wr)
    (fun _ i _ => l.length - (intOf i).toNat)
  case atStart => exact ⟨0, N + l.length, by omega, rfl, by go_num, by omega, ⟨by omega, fun j hj => by omega⟩, nwR w1⟩
  case round =>
    obtain ⟨k, M, hk, rfl, rfl, hM, HE, hb⟩ := hrel
    have HBW : Hid (Below w.heap.size w wr) := nwT HB1.out hb
    have x5 := HC5.out _ hb
    by_cases hkl : k < l.length
    · have hkli : (k : Int) < (l.length : Int) := by omega
      by_cases hM2 : M < 1048576
      · have hMi : (M : Int) < 1048576 := by omega
        obtain ⟨b1, o1, rfl, _, _, hvi⟩ := (HL1.out.below hb).cell hkl
        obtain ⟨af, cf, ⟨c0, c1, c2, c3, c4⟩, hvl⟩ := hvi.val
        have HLO : Hid (LooseV (l.getD k act0).v) := HLA.out (l.getD k act0) (by simp [List.getD, hkl])
        have HFK : Hid (∀ M' A, FitV A (l.getD k act0).v → A ≤ M' → M ≤ M' → N + l.length ≤ M' ∧ ∀ j, j < k + 1 → ∃ A, A ≤ M' ∧ FitV A (l.getD j act0).v) := fun M' A h hA hM' => by
          obtain ⟨h1, h3⟩ := HE.out
          refine ⟨by omega, fun j hj => ?_⟩
          by_cases e : j = k
          · subst e; exact ⟨A, hA, h⟩
          · obtain ⟨A', h4, h5⟩ := h3 j (by omega)
            exact ⟨A', by omega, h5⟩
        generalize (l.getD k act0).v = d at c0 c1 c2 c3 c4 hvl HLO HFK
        have HVL : Hid (VolVal wr (.agg #[.int .i64 d.id, .int .i64 d.fr, .bool d.snap, .slice af d.files.length cf, .int .i64 d.next]) d) := hvl
        clear hvi hvl
        go_wp2_with fail
        refine (volWeight_any _ d wr HVL.out HLO.out).mono ?_
        rintro e w2 ⟨⟨A, rfl, HA⟩, hb2⟩
        have hA1 := HA.out.1
        have hbb := nwT hb hb2
        have e1 : IntKind.i64.wrap ((M : Int) + (A : Int)) = (M : Int) + (A : Int) := wrap_any (by omega) (by omega)
        have HFH : Hid (N + l.length ≤ M + A ∧ ∀ j, j < k + 1 → ∃ A', A' ≤ M + A ∧ FitV A' (l.getD j act0).v) := HFK.out (M + A) A HA.out (by omega) (by omega)
        clear HA c0 c1 c2 c3 c4 HFK
        go_wp2_with fail
        go_roundw
        case rel => exact ⟨k + 1, M + A, by omega, by go_num, by go_num, by omega, HFH.out, hbb⟩
        case measure => simp [intOf]; omega
      · have hMi : ¬ (M : Int) < 1048576 := by omega
        go_wp2_with fail
        go_ret
        exact ⟨_, rfl, HBW.out, fun h => by simp at h; omega⟩
    · have hkli : ¬ (k : Int) < (l.length : Int) := by omega
      go_wp2_with fail
      go_ret
      refine ⟨_, rfl, HBW.out, fun h => ?_⟩
      have hM3 : M ≤ 1500 := by simp at h; omega
      obtain ⟨h1, h3⟩ := HE.out
      refine ⟨HNN.out.small (by omega), by omega, fun x hx => ?_⟩
      obtain ⟨j, hj, rfl⟩ := List.getElem_of_mem hx
      obtain ⟨A, hA, hf⟩ := h3 j (by omega)
      have e : l.getD j act0 = l[j] := by simp [List.getD, hj]
      rw [e] at hf
      exact hf.small (by omega)

end Go.Proofs.Ytbaphgdlbeaenaa

/- What the library's functions do that the program calls: a sort, equals taken out, a search: each by its contract, laid at this program. -/
namespace Go.Proofs
open Go.Shelf
def Try.lays189_ren : Go.Shelf.Ren := ⟨fun | 189 => 46 | 125 => 61 | 257 => 60 | 128 => 77 | 129 => 78 | 294 => 69 | 295 => 70 | 296 => 71 | 297 => 72 | 298 => 73 | 299 => 74 | 216 => 66 | 300 => 75 | 301 => 76 | 328 => 84 | 329 => 85 | 330 => 86 | 331 => 87 | 332 => 88 | 215 => 79 | 343 => 96 | n => n, fun | 28 => 30 | 3 => 3 | 46 => 107 | 0 => 0 | 51 => 122 | 53 => 124 | 4 => 4 | 183 => 116 | 182 => 115 | 131 => 87 | 5 => 5 | 9 => 9 | 218 => 126 | 222 => 130 | 228 => 140 | 229 => 137 | n => n, fun | n => n⟩
theorem Try.lays189 : Go.Proofs.Lays.n189 Try.prog Try.lays189_ren := {
  mixed := by kernel_rfl
  f125 := Try.func61.trans (congrArg some (by kernel_rfl))
  f128 := Try.func77.trans (congrArg some (by kernel_rfl))
  f129 := Try.func78.trans (congrArg some (by kernel_rfl))
  f189 := Try.func46.trans (congrArg some (by kernel_rfl))
  f215 := Try.func79.trans (congrArg some (by kernel_rfl))
  f216 := Try.func66.trans (congrArg some (by kernel_rfl))
  f257 := Try.func60.trans (congrArg some (by kernel_rfl))
  f294 := Try.func69.trans (congrArg some (by kernel_rfl))
  f295 := Try.func70.trans (congrArg some (by kernel_rfl))
  f296 := Try.func71.trans (congrArg some (by kernel_rfl))
  f297 := Try.func72.trans (congrArg some (by kernel_rfl))
  f298 := Try.func73.trans (congrArg some (by kernel_rfl))
  f299 := Try.func74.trans (congrArg some (by kernel_rfl))
  f300 := Try.func75.trans (congrArg some (by kernel_rfl))
  f301 := Try.func76.trans (congrArg some (by kernel_rfl))
  f328 := Try.func84.trans (congrArg some (by kernel_rfl))
  f329 := Try.func85.trans (congrArg some (by kernel_rfl))
  f330 := Try.func86.trans (congrArg some (by kernel_rfl))
  f331 := Try.func87.trans (congrArg some (by kernel_rfl))
  f332 := Try.func88.trans (congrArg some (by kernel_rfl))
  f343 := Try.func96.trans (congrArg some (by kernel_rfl))
  t0 := Try.underlying0
  a0 := Try.isAgg0
  z0 := Try.sizeOf0
  v0 := Try.zeroValue0
  t3 := Try.underlying3
  a3 := Try.isAgg3
  z3 := Try.sizeOf3
  v3 := Try.zeroValue3
  t4 := Try.underlying4
  a4 := Try.isAgg4
  z4 := Try.sizeOf4
  v4 := Try.zeroValue4
  t5 := Try.underlying5
  a5 := Try.isAgg5
  z5 := Try.sizeOf5
  v5 := Try.zeroValue5
  t9 := Try.underlying9
  a9 := Try.isAgg9
  z9 := Try.sizeOf9
  v9 := Try.zeroValue9
  t28 := Try.underlying30
  a28 := Try.isAgg30
  z28 := Try.sizeOf30
  v28 := Try.zeroValue30
  t46 := Try.underlying107
  a46 := Try.isAgg107
  z46 := Try.sizeOf107
  v46 := Try.zeroValue107
  t51 := Try.underlying122
  a51 := Try.isAgg122
  z51 := Try.sizeOf122
  v51 := Try.zeroValue122
  t53 := Try.underlying124
  a53 := Try.isAgg124
  z53 := Try.sizeOf124
  v53 := Try.zeroValue124
  t131 := Try.underlying87
  a131 := Try.isAgg87
  z131 := Try.sizeOf87
  v131 := Try.zeroValue87
  t182 := Try.underlying115
  a182 := Try.isAgg115
  z182 := Try.sizeOf115
  v182 := Try.zeroValue115
  t183 := Try.underlying116
  a183 := Try.isAgg116
  z183 := Try.sizeOf116
  v183 := Try.zeroValue116
  t218 := Try.underlying126
  a218 := Try.isAgg126
  z218 := Try.sizeOf126
  v218 := Try.zeroValue126
  t222 := Try.underlying130
  a222 := Try.isAgg130
  z222 := Try.sizeOf130
  v222 := Try.zeroValue130
  t228 := Try.underlying140
  a228 := Try.isAgg140
  z228 := Try.sizeOf140
  v228 := Try.zeroValue140
  t229 := Try.underlying137
  a229 := Try.isAgg137
  z229 := Try.sizeOf137
  v229 := Try.zeroValue137 }
open Go.Sort Go.RowKit in
theorem Try.slices_Sort_int (blk off cap : Nat) (zs : List Int) (w : World) (hH : Holds (Value.int .i64) w blk off zs.toArray) (hblk : blk < w.heap.size) (hsz : zs.length < 4611686018427387904) :
    Calls Try.prog 46 #[.slice (some ⟨blk, off, none⟩) zs.length cap] w fun e w' =>
      e = .returned (.tuple #[]) ∧ ∃ n os, w' = grow (putRow (Value.int .i64) (Sort.ahead w n) blk off (zs.mergeSort fun x y => decide (x ≤ y)).toArray) os := Any.slices_Sort_int Try.lays189 blk off cap zs w hH hblk hsz
def Try.laysNm220_ren : Go.Shelf.Ren := ⟨fun | 20 => 47 | n => n, fun | 22 => 30 | 3 => 3 | 4 => 4 | 0 => 0 | n => n, fun | n => n⟩
theorem Try.laysNm220 : Go.Proofs.Lays2.n20 Try.prog Try.laysNm220_ren := {
  mixed := by kernel_rfl
  f20 := Try.func47.trans (congrArg some (by kernel_rfl))
  t0 := Try.underlying0
  a0 := Try.isAgg0
  z0 := Try.sizeOf0
  v0 := Try.zeroValue0
  t3 := Try.underlying3
  a3 := Try.isAgg3
  z3 := Try.sizeOf3
  v3 := Try.zeroValue3
  t4 := Try.underlying4
  a4 := Try.isAgg4
  z4 := Try.sizeOf4
  v4 := Try.zeroValue4
  t22 := Try.underlying30
  a22 := Try.isAgg30
  z22 := Try.sizeOf30
  v22 := Try.zeroValue30
  i3 := by kernel_rfl }
open Go.RowKit Go.Lib Go.Sort in
theorem Try.slices_Compact_int (blk off cap : Nat) (zs : List Int) (w : World) (hH : Holds (Value.int .i64) w blk off zs.toArray) (hsz : zs.length ≤ 9223372036854775807) (hcap : zs.length ≤ cap) :
    Calls Try.prog 47 #[.slice (some ⟨blk, off, none⟩) zs.length cap] w fun e w' => e = .returned (.slice (some ⟨blk, off, none⟩) (Lib.compact zs).length cap) ∧ ∃ q, w' = putRow (Value.int .i64) (Sort.ahead w q) blk off (Lib.compact zs ++ List.replicate (zs.length - (Lib.compact zs).length) 0).toArray := Any.slices_Compact_int Try.laysNm220 blk off cap zs w hH hsz hcap
open Go.RowKit Go.Lib Go.Sort in
theorem Try.slices_Compact_int_empty (a : Option Addr) (cap : Nat) (w : World) :
    Calls Try.prog 47 #[.slice a 0 cap] w fun e w' => e = .returned (.slice a 0 cap) ∧ w' = w := Any.slices_Compact_int_empty Try.laysNm220 a cap w
open Go.RowKit Go.Lib Go.Sort in
theorem Try.slices_Compact_int_cells (b off n c : Nat) (zs : List Int) (w : World) (hz : n ≤ zs.length) (hbig : n ≤ 9223372036854775807) (hcap : n ≤ c) (hc : ∀ j, j < zs.length → w.cell? ⟨b, off + j, none⟩ = some (.int .i64 (zs.getD j 0))) (hf : ∀ j, j < n → w.frozen? ⟨b, off + j, none⟩ = false) :
    Calls Try.prog 47 #[.slice (some ⟨b, off, none⟩) n c] w fun e w' => e = .returned (.slice (some ⟨b, off, none⟩) (Lib.compact (zs.take n)).length c) ∧ ∃ q, w' = (w.drewN q).setCells b off ((Lib.compact (zs.take n) ++ List.replicate (n - (Lib.compact (zs.take n)).length) 0).map (Value.int .i64)) := Any.slices_Compact_int_cells Try.laysNm220 b off n c zs w hz hbig hcap hc hf
open Go.RowKit Go.Sort in
theorem Try.slices_Sort_int_none (p : Option Addr) (cap : Nat) (w : World) :
    Calls Try.prog 46 #[.slice p 0 cap] w fun e w' => e = .returned (.tuple #[]) ∧ w' = w := Any.slices_Sort_int_none Try.lays189 p cap w
def Try.laysN49_ren : Go.Shelf.Ren := ⟨fun | 49 => 55 | 59 => 66 | 60 => 67 | 68 => 79 | n => n, fun | 22 => 50 | 23 => 3 | 3 => 3 | 4 => 4 | 51 => 107 | 0 => 0 | n => n, fun | n => n⟩
theorem Try.laysN49 : Go.Proofs.SlLaysN.n49 Try.prog Try.laysN49_ren := {
  mixed := by kernel_rfl
  f49 := ⟨Try.f55.name, by decide, Try.func55.trans (congrArg some (by kernel_rfl))⟩
  f59 := ⟨Try.f66.name, by decide, Try.func66.trans (congrArg some (by kernel_rfl))⟩
  f60 := ⟨Try.f67.name, by decide, Try.func67.trans (congrArg some (by kernel_rfl))⟩
  f68 := ⟨Try.f79.name, by decide, Try.func79.trans (congrArg some (by kernel_rfl))⟩
  t0 := Try.underlying0
  a0 := Try.isAgg0
  z0 := Try.sizeOf0
  v0 := Try.zeroValue0
  t3 := Try.underlying3
  a3 := Try.isAgg3
  z3 := Try.sizeOf3
  v3 := Try.zeroValue3
  t4 := Try.underlying4
  a4 := Try.isAgg4
  z4 := Try.sizeOf4
  v4 := Try.zeroValue4
  t22 := Try.underlying50
  a22 := Try.isAgg50
  z22 := Try.sizeOf50
  v22 := Try.zeroValue50
  t23 := Try.underlying3
  a23 := Try.isAgg3
  z23 := Try.sizeOf3
  v23 := Try.zeroValue3
  t51 := Try.underlying107
  a51 := Try.isAgg107
  z51 := Try.sizeOf107
  v51 := Try.zeroValue107 }
open Go.RowKit in
theorem Try.slices_BinarySearch_int (b off n c : Nat) (zs : List Int) (x : Int) (w : World) (hz : n ≤ zs.length) (hbig : n < 4611686018427387904) (hc : ∀ j, j < zs.length → w.cell? ⟨b, off + j, none⟩ = some (.int .i64 (zs.getD j 0))) (hs : (zs.take n).Pairwise (· ≤ ·)) :
    Calls Try.prog 55 #[.slice (some ⟨b, off, none⟩) n c, .int .i64 x] w fun e w' => e = .returned (.tuple #[.int .i64 ((zs.take n).countP (· < x) : Nat), .bool ((zs.take n).contains x)]) ∧ ∃ q, w' = w.drewN q := AnyG.slices_BinarySearch_int Try.laysN49 b off n c zs x w hz hbig hc hs
def Try.growI_ren : Go.Shelf.Ren := ⟨fun | 4 => 51 | n => n, fun | 22 => 30 | 25 => 3 | 3 => 3 | 4 => 4 | 9 => 9 | 20 => 20 | 0 => 0 | n => n, fun | n => n⟩
theorem Try.growI : Go.Proofs.Lays8.n4 Try.prog Try.growI_ren := {
  mixed := by kernel_rfl
  f4 := ⟨Try.f51.name, by decide, Try.func51.trans (congrArg some (by kernel_rfl))⟩
  t0 := Try.underlying0
  a0 := Try.isAgg0
  z0 := Try.sizeOf0
  v0 := Try.zeroValue0
  t3 := Try.underlying3
  a3 := Try.isAgg3
  z3 := Try.sizeOf3
  v3 := Try.zeroValue3
  t4 := Try.underlying4
  a4 := Try.isAgg4
  z4 := Try.sizeOf4
  v4 := Try.zeroValue4
  t9 := Try.underlying9
  a9 := Try.isAgg9
  z9 := Try.sizeOf9
  v9 := Try.zeroValue9
  t20 := Try.underlying20
  a20 := Try.isAgg20
  z20 := Try.sizeOf20
  v20 := Try.zeroValue20
  t22 := Try.underlying30
  a22 := Try.isAgg30
  z22 := Try.sizeOf30
  v22 := Try.zeroValue30 }
end Go.Proofs
