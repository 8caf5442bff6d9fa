/- Volumes in memory: rows of numbers, of links, of files; read, and owned. -/
import Derived.Test.YtdpighcaieajjaaGreatUnder
import Derived.Test.YtdpighcaieajjaaGreatSplit
namespace Go.Proofs.YtdpighcaieajjaaGreat
open Go.RowKit

abbrev LinkD := ByteArray × Int
def lk0 : LinkD := (ByteArray.empty, 0)
structure FileD where
  id : Int
  dir : Bool
  size : Int
  blocks : List Int
  list : List LinkD
deriving DecidableEq
def f0 : FileD := ⟨0, false, 0, [], []⟩
structure VolD where
  id : Int
  fr : Int
  snap : Bool
  files : List FileD
  next : Int
deriving DecidableEq
def v0 : VolD := ⟨0, 0, false, [], 0⟩

def IntsAt (w : World) (a : Option Addr) (ns : List Int) : Prop :=
  ns = [] ∨ ∃ b o, a = some ⟨b, o, none⟩ ∧ ∀ i, i < ns.length → w.cell? ⟨b, o + i, none⟩ = some (.int .i64 (ns.getD i 0))
def LinksAt (w : World) (a : Option Addr) (ls : List LinkD) : Prop :=
  ls = [] ∨ ∃ b o, a = some ⟨b, o, none⟩ ∧ ∀ i, i < ls.length → w.cell? ⟨b, o + i * 2, none⟩ = some (.string (ls.getD i lk0).1) ∧ w.cell? ⟨b, o + i * 2 + 1, none⟩ = some (.int .i64 (ls.getD i lk0).2)
/-- the five cells of a file -/
def fcells (f : FileD) (ab : Option Addr) (cb : Nat) (al : Option Addr) (cl : Nat) : List Value := [.int .i64 f.id, .bool f.dir, .int .i64 f.size, .slice ab f.blocks.length cb, .slice al f.list.length cl]
def CapOk (a : Option Addr) (c n : Nat) : Prop := n ≤ c ∧ (a = none → c = 0) ∧ ∀ p, a = some p → n < c → p.spot = none
def FileIn (w : World) (b o : Nat) (f : FileD) : Prop := ∃ ab cb al cl, (w.cell? ⟨b, o, none⟩ = some (.int .i64 f.id) ∧ w.cell? ⟨b, o + 1, none⟩ = some (.bool f.dir) ∧ w.cell? ⟨b, o + 2, none⟩ = some (.int .i64 f.size) ∧ w.cell? ⟨b, o + 3, none⟩ = some (.slice ab f.blocks.length cb) ∧ w.cell? ⟨b, o + 4, none⟩ = some (.slice al f.list.length cl)) ∧ (IntsAt w ab f.blocks ∧ CapOk ab cb f.blocks.length) ∧ LinksAt w al f.list ∧ CapOk al cl f.list.length
def FilesAt (w : World) (a : Option Addr) (fs : List FileD) : Prop :=
  fs = [] ∨ ∃ b o, a = some ⟨b, o, none⟩ ∧ ∀ i, i < fs.length → FileIn w b (o + i * 5) (fs.getD i f0)
def FileVal (w : World) (v : Value) (f : FileD) : Prop := ∃ ab cb al cl, v = .agg (fcells f ab cb al cl).toArray ∧ (IntsAt w ab f.blocks ∧ CapOk ab cb f.blocks.length) ∧ LinksAt w al f.list ∧ CapOk al cl f.list.length
def VolVal (w : World) (v : Value) (d : VolD) : Prop := ∃ a c, v = .agg #[.int .i64 d.id, .int .i64 d.fr, .bool d.snap, .slice a d.files.length c, .int .i64 d.next] ∧ FilesAt w a d.files ∧ CapOk a c d.files.length

theorem IntsAt.cell {w : World} {a : Option Addr} {ns : List Int} (h : IntsAt w a ns) {i : Nat} (hi : i < ns.length) : ∃ b o, a = some ⟨b, o, none⟩ ∧ w.cell? ⟨b, o + i, none⟩ = some (.int .i64 (ns.getD i 0)) := by
  rcases h with rfl | ⟨b, o, rfl, hc⟩
  · simp at hi
  · exact ⟨b, o, rfl, hc i hi⟩
theorem LinksAt.cell {w : World} {a : Option Addr} {ls : List LinkD} (h : LinksAt w a ls) {i : Nat} (hi : i < ls.length) : ∃ b o, a = some ⟨b, o, none⟩ ∧ w.cell? ⟨b, o + i * 2, none⟩ = some (.string (ls.getD i lk0).1) ∧ w.cell? ⟨b, o + i * 2 + 1, none⟩ = some (.int .i64 (ls.getD i lk0).2) := by
  rcases h with rfl | ⟨b, o, rfl, hc⟩
  · simp at hi
  · exact ⟨b, o, rfl, hc i hi⟩
theorem FilesAt.file {w : World} {a : Option Addr} {fs : List FileD} (h : FilesAt w a fs) {i : Nat} (hi : i < fs.length) : ∃ b o, a = some ⟨b, o, none⟩ ∧ FileIn w b (o + i * 5) (fs.getD i f0) := by
  rcases h with rfl | ⟨b, o, rfl, hc⟩
  · simp at hi
  · exact ⟨b, o, rfl, hc i hi⟩
theorem IntsAt.below {w w' : World} {a : Option Addr} {ns : List Int} (h : IntsAt w a ns) (hb : Below w.heap.size w w') : IntsAt w' a ns := by
  rcases h with rfl | ⟨b, o, rfl, hc⟩
  · exact .inl rfl
  · exact .inr ⟨b, o, rfl, fun i hi => (hb.cell (p := ⟨b, o + i, none⟩) (block_lt_of_cell (hc i hi))).trans (hc i hi)⟩
theorem LinksAt.below {w w' : World} {a : Option Addr} {ls : List LinkD} (h : LinksAt w a ls) (hb : Below w.heap.size w w') : LinksAt w' a ls := by
  rcases h with rfl | ⟨b, o, rfl, hc⟩
  · exact .inl rfl
  · exact .inr ⟨b, o, rfl, fun i hi => ⟨(hb.cell (p := ⟨b, o + i * 2, none⟩) (block_lt_of_cell (hc i hi).1)).trans (hc i hi).1, (hb.cell (p := ⟨b, o + i * 2 + 1, none⟩) (block_lt_of_cell (hc i hi).2)).trans (hc i hi).2⟩⟩
theorem FileIn.below {w w' : World} {b o : Nat} {f : FileD} (h : FileIn w b o f) (hb : Below w.heap.size w w') : FileIn w' b o f := by
  obtain ⟨ab, cb, al, cl, ⟨h0, h1, h2, h3, h4⟩, hi, hl⟩ := h
  have hlt := block_lt_of_cell h0
  exact ⟨ab, cb, al, cl, ⟨(hb.cell (p := ⟨b, o, none⟩) hlt).trans h0, (hb.cell (p := ⟨b, o + 1, none⟩) hlt).trans h1, (hb.cell (p := ⟨b, o + 2, none⟩) hlt).trans h2, (hb.cell (p := ⟨b, o + 3, none⟩) hlt).trans h3, (hb.cell (p := ⟨b, o + 4, none⟩) hlt).trans h4⟩, ⟨hi.1.below hb, hi.2⟩, hl.1.below hb, hl.2⟩
theorem FilesAt.below {w w' : World} {a : Option Addr} {fs : List FileD} (h : FilesAt w a fs) (hb : Below w.heap.size w w') : FilesAt w' a fs := by
  rcases h with rfl | ⟨b, o, rfl, hc⟩
  · exact .inl rfl
  · exact .inr ⟨b, o, rfl, fun i hi => (hc i hi).below hb⟩
theorem FileVal.below {w w' : World} {v : Value} {f : FileD} (h : FileVal w v f) (hb : Below w.heap.size w w') : FileVal w' v f := by
  obtain ⟨ab, cb, al, cl, e, hi, hl⟩ := h
  exact ⟨ab, cb, al, cl, e, ⟨hi.1.below hb, hi.2⟩, hl.1.below hb, hl.2⟩
theorem VolVal.below {w w' : World} {v : Value} {d : VolD} (h : VolVal w v d) (hb : Below w.heap.size w w') : VolVal w' v d := by
  obtain ⟨a, c, e, hf, hc⟩ := h
  exact ⟨a, c, e, hf.below hb, hc⟩
theorem IntsAt.drewN {w : World} {a : Option Addr} {ns : List Int} (h : IntsAt w a ns) (n : Nat) : IntsAt (w.drewN n) a ns := h
theorem LinksAt.drewN {w : World} {a : Option Addr} {ls : List LinkD} (h : LinksAt w a ls) (n : Nat) : LinksAt (w.drewN n) a ls := h
theorem FilesAt.drewN {w : World} {a : Option Addr} {fs : List FileD} (h : FilesAt w a fs) (n : Nat) : FilesAt (w.drewN n) a fs := h

/- owned rows -/
def OwnInts (w : World) (base : Nat) (v : Value) (ns : List Int) : Prop := w.ownsRow base 3 1 v ns.length (ns.map (.int .i64))
def lflat (ls : List LinkD) : List Value := ls.flatMap fun l => [.string l.1, .int .i64 l.2]
def OwnLinks (w : World) (base : Nat) (v : Value) (ls : List LinkD) : Prop := w.ownsRow base 87 2 v ls.length (lflat ls)

theorem OwnInts.at {w : World} {base : Nat} {v : Value} {ns : List Int} (h : OwnInts w base v ns) : ∃ a cap, v = .slice a ns.length cap ∧ IntsAt w a ns ∧ CapOk a cap ns.length := by
  have hh := h
  rcases h.2 with ⟨hv, hn⟩ | ⟨g, cap, cur, hv, hb, _, hnc, _⟩
  · exact ⟨none, 0, by rw [hv, hn], .inl (List.length_eq_zero_iff.1 hn), by omega, (fun _ => rfl), (fun p e => by cases e)⟩
  · refine ⟨_, cap, hv, .inr ⟨g, 0, rfl, fun i hi => ?_⟩, hnc, (fun e => by cases e), (fun p e _ => by injection e with e; rw [← e])⟩
    have := hh.cells (g := g) (by rw [hv]; rfl) i (.int .i64 (ns.getD i 0)) (by simp [hi])
    rw [show (⟨g, 0, none⟩ : Addr).add i = ⟨g, 0 + i, none⟩ from by unfold Addr.add; split <;> simp_all] at this
    exact this
theorem lflat_len (ls : List LinkD) : (lflat ls).length = ls.length * 2 := by
  induction ls with
  | nil => rfl
  | cons x xs ih => simp only [lflat, List.flatMap_cons, List.length_append, List.length_cons, List.length_nil] at *; omega
theorem lflat_get (ls : List LinkD) : ∀ i, i < ls.length → (lflat ls)[i * 2]? = some (.string (ls.getD i lk0).1) ∧ (lflat ls)[i * 2 + 1]? = some (.int .i64 (ls.getD i lk0).2) := by
  induction ls with
  | nil => intro i hi; simp at hi
  | cons x xs ih =>
    intro i hi
    have e : lflat (x :: xs) = .string x.1 :: .int .i64 x.2 :: lflat xs := by simp [lflat]
    rw [e]
    cases i with
    | zero => simp [List.getD]
    | succ i =>
      have hi' : i < xs.length := by simpa using hi
      have h := ih i hi'
      rw [show (i + 1) * 2 = i * 2 + 1 + 1 from by omega]
      simp only [List.getElem?_cons_succ]
      have e2 : (x :: xs).getD (i + 1) lk0 = xs.getD i lk0 := by simp [List.getD]
      rw [e2]; exact h
theorem OwnLinks.at {w : World} {base : Nat} {v : Value} {ls : List LinkD} (h : OwnLinks w base v ls) : ∃ a cap, v = .slice a ls.length cap ∧ LinksAt w a ls ∧ CapOk a cap ls.length := by
  have hh := h
  rcases h.2 with ⟨hv, hn⟩ | ⟨g, cap, cur, hv, hb, _, hnc, _⟩
  · exact ⟨none, 0, by rw [hv, hn], .inl (List.length_eq_zero_iff.1 hn), by omega, (fun _ => rfl), (fun p e => by cases e)⟩
  · refine ⟨_, cap, hv, .inr ⟨g, 0, rfl, fun i hi => ?_⟩, hnc, (fun e => by cases e), (fun p e _ => by injection e with e; rw [← e])⟩
    have hg := lflat_get ls i hi
    have h1 := hh.cells (g := g) (by rw [hv]; rfl) (i * 2) _ hg.1
    have h2 := hh.cells (g := g) (by rw [hv]; rfl) (i * 2 + 1) _ hg.2
    have e : ∀ j, (⟨g, 0, none⟩ : Addr).add j = ⟨g, 0 + j, none⟩ := fun j => by unfold Addr.add; split <;> simp_all
    rw [e] at h1 h2
    exact ⟨h1, by rw [Nat.add_assoc]; exact h2⟩
theorem own_below {w w' : World} {base : Nat} {e : TypeId} {size : Nat} {v : Value} {n : Nat} {xs : List Value} (h : w.ownsRow base e size v n xs) (hb : Below w.heap.size w w') : w'.ownsRow base e size v n xs :=
  h.kept (gbOf hb none) (by cases hv : v.ownBlock <;> simp)
theorem own_le {w : World} {base base' : Nat} {e : TypeId} {size : Nat} {v : Value} {n : Nat} {xs : List Value} (h : w.ownsRow base e size v n xs) (hb : base' ≤ base) : w.ownsRow base' e size v n xs := by
  refine ⟨h.1, ?_⟩
  rcases h.2 with hn | ⟨g, cap, cur, hv, hg, rest⟩
  · exact .inl hn
  · exact .inr ⟨g, cap, cur, hv, Nat.le_trans hb hg, rest⟩
theorem OwnInts.snoc {w : World} {base : Nat} {v : Value} {ns : List Int} {x : Int} (h : w.ownsRow base 3 1 v (ns.length + 1) (ns.map (.int .i64) ++ [.int .i64 x])) : OwnInts w base v (ns ++ [x]) := by
  unfold OwnInts
  rw [List.map_append, List.length_append]; exact h
theorem OwnLinks.snoc {w : World} {base : Nat} {v : Value} {ls : List LinkD} {x : LinkD} (h : w.ownsRow base 87 2 v (ls.length + 1) (lflat ls ++ [.string x.1, .int .i64 x.2])) : OwnLinks w base v (ls ++ [x]) := by
  unfold OwnLinks
  have e : lflat (ls ++ [x]) = lflat ls ++ [.string x.1, .int .i64 x.2] := by simp [lflat]
  rw [e, List.length_append]; exact h

theorem cells_new (w : World) (cs : List Value) (t : TypeId) : ∀ j u, cs[j]? = some u → (w.alloc (.cells cs.toArray t)).cell? ((⟨w.heap.size, 0, none⟩ : Addr).add j) = some u := by
  intro j u hu
  have e : (⟨w.heap.size, 0, none⟩ : Addr).add j = ⟨w.heap.size, 0 + j, none⟩ := by unfold Addr.add; split <;> simp_all
  rw [e, Nat.zero_add, World.cell?, heap_alloc_new]
  simpa using hu

theorem Tryz.info3 : (Tryz.prog.info? 3).map (fun i => (i.zero, i.size, i.bytes)) = some (some (.int .i64 0), 1, 8) := by kernel_rfl
theorem Tryz.info87 : (Tryz.prog.info? 87).map (fun i => (i.zero, i.size, i.bytes)) = some (some (.agg #[.string ⟨#[]⟩, .int .i64 0]), 2, 24) := by kernel_rfl
theorem Tryz.info39 : (Tryz.prog.info? 39).map (fun i => (i.zero, i.size, i.bytes)) = some (some (.agg #[.int .i64 0, .bool false, .int .i64 0, .slice none 0 0, .slice none 0 0]), 5, 72) := by kernel_rfl

end Go.Proofs.YtdpighcaieajjaaGreat
