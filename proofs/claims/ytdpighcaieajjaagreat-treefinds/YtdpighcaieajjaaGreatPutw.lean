/- A place that comes to name a file, by the program. -/
import Derived.Test.YtdpighcaieajjaaGreatAddw
namespace Go.Proofs.YtdpighcaieajjaaGreat
open Go.RowKit Go.Sort

set_option maxRecDepth 100000 in
set_option maxHeartbeats 2000000 in
theorem pput_any (base g cap q : Nat) (fs : List FileD) (s : ByteArray) (id : Int) (w : World) (hX : OwnFilesX w base (.slice (some ⟨g, 0, none⟩) fs.length cap) fs) (hq : q < fs.length) (hl : (fs.getD q f0).list.length ≤ 11)
    (hst : StrictL (fs.getD q f0).list) (hnn : ∀ y ∈ (fs.getD q f0).list, y.1 ≠ s) :
    Calls Tryz.prog 86 #[.agg #[.pointer (some ⟨g, q * 5, none⟩), .string s], .int .i64 id] w fun e w' => e = .returned (.tuple #[]) ∧ OwnFilesX w' base (.slice (some ⟨g, 0, none⟩) fs.length cap) (fs.set q (withList (fs.getD q f0) (putL (fs.getD q f0).list (s, id)))) ∧ KeepT w w' ∧ Below base w w' := by
  have hbase : base ≤ w.heap.size := by
    obtain ⟨gs, _, hrow, _, _⟩ := hX
    have := World.ownsRow.lt hrow g rfl; omega
  have HB0 : Hid (Below w.heap.size w ((w.alloc (.cells #[.pointer (some ⟨g, q * 5, none⟩), .string s] 112)).alloc (.cells #[.string s, .int .i64 id] 87))) := nwA (nwA (nwR w) _) _
  have HBB : Hid (Below base w ((w.alloc (.cells #[.pointer (some ⟨g, q * 5, none⟩), .string s] 112)).alloc (.cells #[.string s, .int .i64 id] 87))) := ((Below.refl _ _).alloc hbase _).alloc (by simp; omega) _
  have HCA : Hid (Calls Tryz.prog 104 #[.agg #[.pointer (some ⟨g, q * 5, none⟩)], .slice (some ⟨w.heap.size + 1, 0, none⟩) 1 1] ((w.alloc (.cells #[.pointer (some ⟨g, q * 5, none⟩), .string s] 112)).alloc (.cells #[.string s, .int .i64 id] 87)) fun e w' => e = .returned (.tuple #[]) ∧ OwnFilesX w' base (.slice (some ⟨g, 0, none⟩) fs.length cap) (fs.set q (withList (fs.getD q f0) (putL (fs.getD q f0).list (s, id)))) ∧ KeepT ((w.alloc (.cells #[.pointer (some ⟨g, q * 5, none⟩), .string s] 112)).alloc (.cells #[.string s, .int .i64 id] 87)) w' ∧ Below base ((w.alloc (.cells #[.pointer (some ⟨g, q * 5, none⟩), .string s] 112)).alloc (.cells #[.string s, .int .i64 id] 87)) w') :=
    nadd_any base g cap q (w.heap.size + 1) fs s id w _ hX HB0.out hq hl hst hnn (heap_alloc_new2 w _ _)
  clear hX hl hst hnn
  go_enter Tryz.func86, Tryz.ntmps86
  go_wp2_with (go_at_call 104; refine HCA.out.mono ?_; rintro e w5 ⟨rfl, h1, h2, h3⟩; have HF : Hid (OwnFilesX w5 base (.slice (some ⟨g, 0, none⟩) fs.length cap) (fs.set q (withList (fs.getD q f0) (putL (fs.getD q f0).list (s, id)))) ∧ KeepT w w5 ∧ Below base w w5) := ⟨h1, (KeepT.of_below HB0.out).trans h2, HBB.out.trans h3⟩; clear h1 h2 h3)
  go_end0
  exact ⟨rfl, HF.out⟩

/-- blocks of other kinds than files, links and volumes are as they were -/
def KeepU (w w' : World) : Prop := w.heap.size ≤ w'.heap.size ∧ ∀ (k : Nat) (cs : Array Value) (t : TypeId) (fr : Nat × Nat), w.heap[k]? = some (Obj.cells cs t fr) → t ≠ 39 → t ≠ 87 → t ≠ 104 → w'.heap[k]? = some (Obj.cells cs t fr)
theorem KeepU.trans {a b c : World} (h : KeepU a b) (k : KeepU b c) : KeepU a c := ⟨Nat.le_trans h.1 k.1, fun i cs t fr e h1 h2 h3 => k.2 i cs t fr (h.2 i cs t fr e h1 h2 h3) h1 h2 h3⟩
theorem KeepT.u {w w' : World} (h : KeepT w w') : KeepU w w' := ⟨h.1, fun k cs t fr e h1 h2 _ => h.2 k cs t fr e h1 h2⟩
theorem KeepU.of_set {w : World} {g o : Nat} {cs : Array Value} {fr : Nat × Nat} (v : Value) (hg : w.heap[g]? = some (.cells cs 104 fr)) : KeepU w (w.setCell ⟨g, o, none⟩ v) := by
  refine ⟨by simp, fun i cs' t' fr' hi h1 h2 h3 => (heap_setCell_other w ⟨g, o, none⟩ i v (fun e => ?_)).trans hi⟩
  have e2 : i = g := e
  rw [e2, hg] at hi
  simp only [Option.some.injEq, Obj.cells.injEq] at hi
  exact h3 hi.2.1.symm
/-- the volume with a new file at a place -/
def newV (d : VolD) (q : Nat) (last : ByteArray) (dir : Bool) : VolD :=
  ⟨d.id, d.fr, d.snap, d.files.set q (withList (d.files.getD q f0) (putL (d.files.getD q f0).list (last, d.next))) ++ [⟨d.next, dir, 0, [], []⟩], d.next + 1⟩
/-- how making ends: the error, and the place -/
def makF (d : VolD) (L : List ByteArray) : Nat × Int :=
  if (vacF d.files L).2 = 0 then (if 16 ≤ d.files.length ∨ 8 ≤ (d.files.getD (vacF d.files L).1 f0).list.length ∨ 1073741824 ≤ d.next then (0, 2) else vacF d.files L) else (0, (vacF d.files L).2)

end Go.Proofs.YtdpighcaieajjaaGreat
