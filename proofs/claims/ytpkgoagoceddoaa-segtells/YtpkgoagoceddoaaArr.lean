/- A set of 64 bools by value: laid, loaded, stored, handed back. -/
import Derived.Test.YtpkgoagoceddoaaPick
namespace Go.Proofs.Ytpkgoagoceddoaa
open Go.RowKit

def setArr (s : Nat → Bool) : Array Value := Array.ofFn (n := 64) fun k => .bool (s k.val)
theorem setArr_size (s : Nat → Bool) : (setArr s).size = 64 := by simp [setArr]
theorem setArr_get (s : Nat → Bool) (i : Nat) (h : i < 64) : (setArr s)[i]? = some (.bool (s i)) := by simp [setArr, h]
theorem setArr_one (s : Nat → Bool) : (setArr s).all (·.oneCell') = true := by
  rw [Array.all_eq_true]
  intro i hi
  simp [setArr, Value.oneCell']

theorem SetIs.row {w : World} {g : Nat} {s : Nat → Bool} (h : SetIs w g s) : w.heap[g]? = some (.cells (setArr s) 64 (0, 0)) := by
  obtain ⟨c, hb, hn, hc⟩ := h
  have e : c = setArr s := by
    apply Array.ext_getElem?
    intro i
    by_cases hi : i < 64
    · rw [hc i hi, setArr_get s i hi]; rfl
    · rw [Array.getElem?_eq_none (by omega), Array.getElem?_eq_none (by rw [setArr_size]; omega)]
  rw [hb, e]

theorem SetIs.of {w : World} {g : Nat} {s : Nat → Bool} (h : w.heap[g]? = some (.cells (setArr s) 64 (0, 0))) : SetIs w g s :=
  ⟨_, h, setArr_size s, fun i hi => setArr_get s i hi⟩

theorem setArr_congr {s t : Nat → Bool} (h : ∀ k, k < 64 → s k = t k) : setArr s = setArr t := by
  apply Array.ext_getElem?
  intro i
  by_cases hi : i < 64
  · rw [setArr_get s i hi, setArr_get t i hi, h i hi]
  · rw [Array.getElem?_eq_none (by rw [setArr_size]; omega), Array.getElem?_eq_none (by rw [setArr_size]; omega)]

theorem Try.size64 : (Try.prog.info? 64).map (·.size) = some 64 := by kernel_rfl

section
variable {ops : Array Oper} {rest : List Oper} {o : Oper} {a : Act} {w : World} {Q : Exit → Act → World → Prop}

theorem wpList_alloc64 (hgd : o.guard = none) (ho : o.op = .alloc 64)
    (h : wpList Try.prog ops Q rest (a.put o.dst (.pointer (some ⟨w.heap.size, 0, none⟩))) (w.alloc (.cells (setArr fun _ => false) 64))) : wpList Try.prog ops Q (o :: rest) a w := by
  refine wpList_plain hgd fun K hK => ?_
  unfold Oper.wp
  simp [execOp, ho, Instr.alloc, Sem.run_bind, newVar, Value.cells]
  exact hK _ _ h

theorem build64 (w : World) : (Instr.build 64 #[]).run Try.prog w = .ok (.agg (setArr fun _ => false)) w := by kernel_rfl

theorem wpList_build64 (hgd : o.guard = none) (ho : o.op = .build 64 #[])
    (h : wpList Try.prog ops Q rest (a.put o.dst (.agg (setArr fun _ => false))) w) : wpList Try.prog ops Q (o :: rest) a w := by
  refine wpList_plain hgd fun K hK => ?_
  have hr := build64 w
  unfold Oper.wp
  simp only [execOp, ho, Sem.run_bind, Sem.run_pure, Result.andThen_ok, Array.map_empty, hr]
  exact hK _ _ h

theorem wpList_store64 (hgd : o.guard = none) (x y : Operand) (ho : o.op = .store 64 x y) (g : Nat) (s s0 : Nat → Bool) (hx : a.eval x = .pointer (some ⟨g, 0, none⟩)) (hy : a.eval y = .agg (setArr s))
    (hg : SetIs w g s0) (h : wpList Try.prog ops Q rest (a.put o.dst undef) (w.setRow g (setArr s))) : wpList Try.prog ops Q (o :: rest) a w := by
  refine wpList_plain hgd fun K hK => ?_
  have hr := run_storeVar_row (P := Try.prog) w g 64 64 _ (setArr s) hg.row (by rw [setArr_size]; exact Try.size64) (by rw [setArr_size, setArr_size]) (setArr_one s)
  unfold Oper.wp execOp
  simp only [ho, hx, hy, Instr.storeAt, Instr.sureAddr, Sem.run_bind, Sem.run_pure, Result.andThen_ok, hr]
  exact hK _ _ h

theorem wpList_load64 (hgd : o.guard = none) (x : Operand) (ho : o.op = .load 64 x) (g : Nat) (s : Nat → Bool) (hx : a.eval x = .pointer (some ⟨g, 0, none⟩))
    (hg : SetIs w g s) (h : wpList Try.prog ops Q rest (a.put o.dst (.agg (setArr s))) w) : wpList Try.prog ops Q (o :: rest) a w :=
  wpList_load_row hgd 64 x ho g hx 64 (setArr s) (0, 0) _ hg.row Try.underlying64 rfl (by rw [setArr_size]; exact Try.size64) h
end

theorem SetIs.setRow {w : World} {g : Nat} {s0 s : Nat → Bool} (h : SetIs w g s0) : SetIs (w.setRow g (setArr s)) g s := SetIs.of (setRow_heap w g _ _ 64 _ h.row)
theorem SetIs.rowApart {w : World} {g b : Nat} {s s' : Nat → Bool} (h : SetIs w g s) (hn : g ≠ b) : SetIs (w.setRow b (setArr s')) g s := h.of_block (Go.setRow_other w b g _ hn)
theorem gbSetRow (w : World) (g : Nat) (cs : Array Value) : w.grownBy (w.setRow g cs) (some g) :=
  ⟨rfl, rfl, rfl, by simp, fun i _ hn => Go.setRow_other w g i cs (fun e => hn (by rw [e]))⟩
theorem SetIs.grown {w w' : World} {g b : Nat} {s : Nat → Bool} (h : SetIs w g s) (hg : w.grownBy w' (some b)) (hn : g ≠ b) : SetIs w' g s := h.of_block (hg.block g h.lt (fun e => hn (Option.some.inj e)))
theorem SetIs.new (w : World) : SetIs (w.alloc (.cells (setArr fun _ => false) 64)) w.heap.size (fun _ => false) := SetIs.of (heap_alloc_new _ _)

theorem results_set_tmp {fn : Func} {p q : Tmp} (h : fn.results = #[.cell p 64, .tmp q]) (tmps : Array Value) (w : World) (g : Nat) (s : Nat → Bool)
    (hp : tmps.getD p undef = .pointer (some ⟨g, 0, none⟩)) (hg : SetIs w g s) : (results fn tmps).run Try.prog w = .ok (.tuple #[.agg (setArr s), tmps.getD q undef]) w := by
  have hp' : tmps[p]?.getD undef = .pointer (some ⟨g, 0, none⟩) := by simpa using hp
  have hl := run_loadVar_row (P := Try.prog) w g 64 64 (setArr s) (0, 0) _ hg.row Try.underlying64 rfl (by rw [setArr_size]; exact Try.size64)
  simp [results, h, hp', asAddr, hl]

theorem results_set2_tmp {fn : Func} {p p2 q : Tmp} (h : fn.results = #[.cell p 64, .cell p2 64, .tmp q]) (tmps : Array Value) (w : World) (g g2 : Nat) (s s2 : Nat → Bool)
    (hp : tmps.getD p undef = .pointer (some ⟨g, 0, none⟩)) (hg : SetIs w g s) (hp2 : tmps.getD p2 undef = .pointer (some ⟨g2, 0, none⟩)) (hg2 : SetIs w g2 s2) :
    (results fn tmps).run Try.prog w = .ok (.tuple #[.agg (setArr s), .agg (setArr s2), tmps.getD q undef]) w := by
  have hp' : tmps[p]?.getD undef = .pointer (some ⟨g, 0, none⟩) := by simpa using hp
  have hp2' : tmps[p2]?.getD undef = .pointer (some ⟨g2, 0, none⟩) := by simpa using hp2
  have hl := run_loadVar_row (P := Try.prog) w g 64 64 (setArr s) (0, 0) _ hg.row Try.underlying64 rfl (by rw [setArr_size]; exact Try.size64)
  have hl2 := run_loadVar_row (P := Try.prog) w g2 64 64 (setArr s2) (0, 0) _ hg2.row Try.underlying64 rfl (by rw [setArr_size]; exact Try.size64)
  simp [results, h, hp', hp2', asAddr, hl, hl2]

end Go.Proofs.Ytpkgoagoceddoaa
