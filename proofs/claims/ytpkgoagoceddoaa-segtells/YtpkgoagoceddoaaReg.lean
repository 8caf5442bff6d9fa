/- A region of two loads and two stores of whole sets that draws its order: by hand. -/
import Derived.Test.YtpkgoagoceddoaaWakes
namespace Go.Proofs.Ytpkgoagoceddoaa
open Go.RowKit

section
variable {ops : Array Oper} {o : Oper} {a : Act} {w : World} {K : Act → World → Prop} {Q : Exit → Act → World → Prop} {E : Prop}

theorem step_load64 (hgd : o.guard = none) (x : Operand) (ho : o.op = .load 64 x) (g : Nat) (s : Nat → Bool) (hx : a.eval x = .pointer (some ⟨g, 0, none⟩)) (hg : SetIs w g s)
    (h : K (a.put o.dst (.agg (setArr s))) w) : if Region.wanted o (yielded ops a.tmps) = true then Oper.wp Try.prog o a w K Q else E := by
  have hw : Region.wanted o (yielded ops a.tmps) = true := by simp [Region.wanted, hgd]
  rw [if_pos hw]
  exact wp_load_row 64 x ho g hx 64 (setArr s) (0, 0) _ hg.row Try.underlying64 rfl (by rw [setArr_size]; exact Try.size64) h

theorem step_store64 (hgd : o.guard = none) (x y : Operand) (ho : o.op = .store 64 x y) (g : Nat) (s s0 : Nat → Bool) (hx : a.eval x = .pointer (some ⟨g, 0, none⟩)) (hy : a.eval y = .agg (setArr s)) (hg : SetIs w g s0)
    (h : K (a.put o.dst undef) (w.setRow g (setArr s))) : if Region.wanted o (yielded ops a.tmps) = true then Oper.wp Try.prog o a w K Q else E := by
  have hw : Region.wanted o (yielded ops a.tmps) = true := by simp [Region.wanted, hgd]
  rw [if_pos hw]
  have hr := run_storeVar_row (P := Try.prog) w g 64 64 _ (setArr s) hg.row (by rw [setArr_size]; exact Try.size64) (by rw [setArr_size, setArr_size]) (setArr_one s)
  unfold Oper.wp execOp
  simp only [ho, hx, hy, Instr.storeAt, Instr.sureAddr, Sem.run_bind, Sem.run_pure, Result.andThen_ok, hr]
  exact h

theorem step_assign (hgd : o.guard = none) (x : Operand) (ho : o.op = .assign x) (h : K (a.put o.dst (a.eval x)) w) : if Region.wanted o (yielded ops a.tmps) = true then Oper.wp Try.prog o a w K Q else E := by
  have hw : Region.wanted o (yielded ops a.tmps) = true := by simp [Region.wanted, hgd]
  rw [if_pos hw]
  unfold Oper.wp execOp
  simp only [ho]
  exact h
end

theorem eval_put_ne (a : Act) (d t : Nat) (v : Value) (h : t ≠ d) : (a.put (some d) v).eval (.tmp t) = a.eval (.tmp t) := by
  simp [Act.put, Act.eval, Ne.symm h]
theorem eval_put_eq (a : Act) (d : Nat) (v : Value) (h : d < a.tmps.size) : (a.put (some d) v).eval (.tmp d) = v := by
  simp [Act.put, Act.eval, h]
theorem put_comm (a : Act) (c d : Nat) (u v : Value) (h : c ≠ d) : (a.put (some c) u).put (some d) v = (a.put (some d) v).put (some c) u := by
  simp only [Act.put, Act.mk.injEq, and_true]
  exact Array.setIfInBounds_comm u v h

def lst (l : List Nat) : Array Bool := l.foldl (fun b i => b.setIfInBounds i true) (Array.replicate 5 false)
def readyAll (ops : Array Oper) : Bool :=
  (Region.ready .any ops (lst []) == [0, 1]) && (Region.ready .any ops (lst [0]) == [1, 2]) && (Region.ready .any ops (lst [0, 1]) == [2]) && (Region.ready .any ops (lst [0, 1, 2]) == [3]) &&
  (Region.ready .any ops (lst [0, 1, 2, 3]) == [4]) && (Region.ready .any ops (lst [0, 1, 2, 3, 4]) == []) && (Region.ready .any ops (lst [0, 2]) == [1]) && (Region.ready .any ops (lst [0, 2, 1]) == [3]) &&
  (Region.ready .any ops (lst [0, 2, 1, 3]) == [4]) && (Region.ready .any ops (lst [0, 2, 1, 3, 4]) == []) && (Region.ready .any ops (lst [1]) == [0]) && (Region.ready .any ops (lst [1, 0]) == [2]) &&
  (Region.ready .any ops (lst [1, 0, 2]) == [3]) && (Region.ready .any ops (lst [1, 0, 2, 3]) == [4]) && (Region.ready .any ops (lst [1, 0, 2, 3, 4]) == [])

theorem region_two {id : Nat} {ops : Array Oper} {o0 o1 o2 o3 o4 : Oper} {a : Act} {w : World} {Q : Exit → Act → World → Prop}
    (hf : Try.prog.follows .mixedOrders = true) (hsz : ops.size = 5) (hr : readyAll ops = true)
    (h0 : ops[0]? = some o0) (h1 : ops[1]? = some o1) (h2 : ops[2]? = some o2) (h3 : ops[3]? = some o3) (h4 : ops[4]? = some o4)
    (e0 : o0.guard = none ∧ o0.op = .load 64 (.tmp 7) ∧ o0.dst = some 32) (e1 : o1.guard = none ∧ o1.op = .load 64 (.tmp 9) ∧ o1.dst = some 33)
    (e2 : o2.guard = none ∧ o2.op = .store 64 (.tmp 4) (.tmp 32) ∧ o2.dst = none) (e3 : o3.guard = none ∧ o3.op = .store 64 (.tmp 5) (.tmp 33) ∧ o3.dst = none)
    (e4 : o4.guard = none ∧ o4.op = .assign (.const (.int .i64 0)) ∧ o4.dst = some 6)
    (ht : a.tmps.size = 34) (g4 g5 g7 g9 : Nat) (s t s4 s5 : Nat → Bool) (x4 : a.eval (.tmp 4) = .pointer (some ⟨g4, 0, none⟩)) (x5 : a.eval (.tmp 5) = .pointer (some ⟨g5, 0, none⟩))
    (x7 : a.eval (.tmp 7) = .pointer (some ⟨g7, 0, none⟩)) (x9 : a.eval (.tmp 9) = .pointer (some ⟨g9, 0, none⟩))
    (k4 : SetIs w g4 s4) (k5 : SetIs w g5 s5) (k7 : SetIs w g7 s) (k9 : SetIs w g9 t) (n1 : g4 ≠ g5) (n3 : g9 ≠ g4)
    (h : Q .normal (((a.put (some 32) (.agg (setArr s))).put (some 33) (.agg (setArr t))).put (some 6) (.int .i64 0)) ((w.drew.setRow g4 (setArr s)).setRow g5 (setArr t))) :
    (Code.region id ops true).wp Try.prog Q a w := by
  simp only [readyAll, Bool.and_eq_true, beq_iff_eq] at hr
  obtain ⟨⟨⟨⟨⟨⟨⟨⟨⟨⟨⟨⟨⟨⟨r0, r1⟩, r2⟩, r3⟩, r4⟩, r5⟩, r6⟩, r7⟩, r8⟩, r9⟩, r10⟩, r11⟩, r12⟩, r13⟩, r14⟩ := hr
  obtain ⟨u0, p0, d0⟩ := e0
  obtain ⟨u1, p1, d1⟩ := e1
  obtain ⟨u2, p2, d2⟩ := e2
  obtain ⟨u3, p3, d3⟩ := e3
  obtain ⟨u4, p4, d4⟩ := e4
  refine wp_region_any hf ?_
  rw [hsz]
  show wpAny Try.prog .any ops Q 5 (lst []) a w.drew
  have k4' : SetIs w.drew g4 s4 := k4
  have k5' : SetIs w.drew g5 s5 := k5
  have k7' : SetIs w.drew g7 s := k7
  have k9' : SetIs w.drew g9 t := k9
  generalize w.drew = W at *
  have tail : ∀ (L : List Nat) (A : Act) , Region.ready .any ops (lst L) = [3] → Region.ready .any ops ((lst L).setIfInBounds 3 true) = [4] → Region.ready .any ops (((lst L).setIfInBounds 3 true).setIfInBounds 4 true) = [] →
      A = (a.put (some 32) (.agg (setArr s))).put (some 33) (.agg (setArr t)) → wpAny Try.prog .any ops Q 2 (lst L) A (W.setRow g4 (setArr s)) := by
    intro L A q3 q4 q5 hA
    subst hA
    refine wpAny_ready q3 (by simp) (AllReady.cons h3 (fun K hK => ?_) AllReady.nil)
    refine step_store64 u3 (.tmp 5) (.tmp 33) p3 g5 t s5 ?_ ?_ (k5'.rowApart (Ne.symm n1)) ?_
    · rw [eval_put_ne _ _ _ _ (by decide), eval_put_ne _ _ _ _ (by decide), x5]
    · rw [eval_put_eq _ _ _ (by simp [Act.put, ht])]
    refine hK _ _ ?_
    rw [d3]
    refine wpAny_ready q4 (by simp) (AllReady.cons h4 (fun K hK => ?_) AllReady.nil)
    refine step_assign u4 _ p4 ?_
    refine hK _ _ ?_
    rw [d4]
    exact wpAny_done q5 h 0
  refine wpAny_ready r0 (by simp) (AllReady.cons h0 (fun K hK => ?_) (AllReady.cons h1 (fun K hK => ?_) AllReady.nil))
  · refine step_load64 u0 (.tmp 7) p0 g7 s x7 k7' (hK _ _ ?_)
    rw [d0]
    refine wpAny_ready r1 (by simp) (AllReady.cons h1 (fun K hK => ?_) (AllReady.cons h2 (fun K hK => ?_) AllReady.nil))
    · refine step_load64 u1 (.tmp 9) p1 g9 t (by rw [eval_put_ne _ _ _ _ (by decide), x9]) k9' (hK _ _ ?_)
      rw [d1]
      refine wpAny_ready r2 (by simp) (AllReady.cons h2 (fun K hK => ?_) AllReady.nil)
      refine step_store64 u2 (.tmp 4) (.tmp 32) p2 g4 s s4 ?_ ?_ k4' (hK _ _ ?_)
      · rw [eval_put_ne _ _ _ _ (by decide), eval_put_ne _ _ _ _ (by decide), x4]
      · rw [eval_put_ne _ _ _ _ (by decide), eval_put_eq _ _ _ (by omega)]
      rw [d2]
      exact tail [0, 1, 2] _ r3 r4 r5 rfl
    · refine step_store64 u2 (.tmp 4) (.tmp 32) p2 g4 s s4 ?_ ?_ k4' (hK _ _ ?_)
      · rw [eval_put_ne _ _ _ _ (by decide), x4]
      · rw [eval_put_eq _ _ _ (by omega)]
      rw [d2]
      refine wpAny_ready r6 (by simp) (AllReady.cons h1 (fun K hK => ?_) AllReady.nil)
      refine step_load64 u1 (.tmp 9) p1 g9 t ?_ (k9'.rowApart n3) (hK _ _ ?_)
      · show Act.eval (Act.put a (some 32) _) (.tmp 9) = _
        rw [eval_put_ne _ _ _ _ (by decide), x9]
      rw [d1]
      exact tail [0, 2, 1] _ r7 r8 r9 rfl
  · refine step_load64 u1 (.tmp 9) p1 g9 t x9 k9' (hK _ _ ?_)
    rw [d1]
    refine wpAny_ready r10 (by simp) (AllReady.cons h0 (fun K hK => ?_) AllReady.nil)
    refine step_load64 u0 (.tmp 7) p0 g7 s (by rw [eval_put_ne _ _ _ _ (by decide), x7]) k7' (hK _ _ ?_)
    rw [d0]
    refine wpAny_ready r11 (by simp) (AllReady.cons h2 (fun K hK => ?_) AllReady.nil)
    refine step_store64 u2 (.tmp 4) (.tmp 32) p2 g4 s s4 ?_ ?_ k4' (hK _ _ ?_)
    · rw [eval_put_ne _ _ _ _ (by decide), eval_put_ne _ _ _ _ (by decide), x4]
    · rw [eval_put_eq _ _ _ (by simp [Act.put, ht])]
    rw [d2]
    exact tail [1, 0, 2] _ r12 r13 r14 (put_comm _ _ _ _ _ (by decide))

end Go.Proofs.Ytpkgoagoceddoaa
