/- Laid together: Reg, Two, Less, Count, List, Of. -/
import Derived.Test.YtheomnafmjmpdaaRoomN1
/- A region of two loads and two stores of whole sets that draws its order: by hand. -/
namespace Go.Proofs.Ytheomnafmjmpdaa
open Go.RowKit

section
variable {ops : Array Oper} {o : Oper} {a : Act} {w : World} {K : Act → World → Prop} {Q : Exit → Act → World → Prop} {E : Prop}

theorem step_load64 (hgd : o.guard = none) (x : Operand) (ho : o.op = .load 116 x) (g : Nat) (s : Nat → Bool) (hx : a.eval x = .pointer (some ⟨g, 0, none⟩)) (hg : SetIs w g s)
    (h : K (a.put o.dst (.agg (setArr s))) w) : if Region.wanted o (yielded ops a.tmps) = true then Oper.wp Try.prog o a w K Q else E := by
  have hw : Region.wanted o (yielded ops a.tmps) = true := by simp [Region.wanted, hgd]
  rw [if_pos hw]
  exact wp_load_row 116 x ho g hx 116 (setArr s) (0, 0) _ hg.row Try.underlying116 rfl (by rw [setArr_size]; exact Try.size116) h

theorem step_store64 (hgd : o.guard = none) (x y : Operand) (ho : o.op = .store 116 x y) (g : Nat) (s s0 : Nat → Bool) (hx : a.eval x = .pointer (some ⟨g, 0, none⟩)) (hy : a.eval y = .agg (setArr s)) (hg : SetIs w g s0)
    (h : K (a.put o.dst undef) (w.setRow g (setArr s))) : if Region.wanted o (yielded ops a.tmps) = true then Oper.wp Try.prog o a w K Q else E := by
  have hw : Region.wanted o (yielded ops a.tmps) = true := by simp [Region.wanted, hgd]
  rw [if_pos hw]
  have hr := run_storeVar_row (P := Try.prog) w g 116 116 _ (setArr s) hg.row (by rw [setArr_size]; exact Try.size116) (by rw [setArr_size, setArr_size]) (setArr_one s)
  unfold Oper.wp execOp
  simp only [ho, hx, hy, Instr.storeAt, Instr.sureAddr, Sem.run_bind, Sem.run_pure, Result.andThen_ok, hr]
  exact h

theorem step_assign (hgd : o.guard = none) (x : Operand) (ho : o.op = .assign x) (h : K (a.put o.dst (a.eval x)) w) : if Region.wanted o (yielded ops a.tmps) = true then Oper.wp Try.prog o a w K Q else E := by
  have hw : Region.wanted o (yielded ops a.tmps) = true := by simp [Region.wanted, hgd]
  rw [if_pos hw]
  unfold Oper.wp execOp
  simp only [ho]
  exact h
end

theorem eval_put_ne (a : Act) (d t : Nat) (v : Value) (h : t ≠ d) : (a.put (some d) v).eval (.tmp t) = a.eval (.tmp t) := by
  simp [Act.put, Act.eval, Ne.symm h]
theorem eval_put_eq (a : Act) (d : Nat) (v : Value) (h : d < a.tmps.size) : (a.put (some d) v).eval (.tmp d) = v := by
  simp [Act.put, Act.eval, h]
theorem put_comm (a : Act) (c d : Nat) (u v : Value) (h : c ≠ d) : (a.put (some c) u).put (some d) v = (a.put (some d) v).put (some c) u := by
  simp only [Act.put, Act.mk.injEq, and_true]
  exact Array.setIfInBounds_comm u v h

def lst (l : List Nat) : Array Bool := l.foldl (fun b i => b.setIfInBounds i true) (Array.replicate 5 false)
def readyAll (ops : Array Oper) : Bool :=
  (Region.ready .any ops (lst []) == [0, 1]) && (Region.ready .any ops (lst [0]) == [1, 2]) && (Region.ready .any ops (lst [0, 1]) == [2]) && (Region.ready .any ops (lst [0, 1, 2]) == [3]) &&
  (Region.ready .any ops (lst [0, 1, 2, 3]) == [4]) && (Region.ready .any ops (lst [0, 1, 2, 3, 4]) == []) && (Region.ready .any ops (lst [0, 2]) == [1]) && (Region.ready .any ops (lst [0, 2, 1]) == [3]) &&
  (Region.ready .any ops (lst [0, 2, 1, 3]) == [4]) && (Region.ready .any ops (lst [0, 2, 1, 3, 4]) == []) && (Region.ready .any ops (lst [1]) == [0]) && (Region.ready .any ops (lst [1, 0]) == [2]) &&
  (Region.ready .any ops (lst [1, 0, 2]) == [3]) && (Region.ready .any ops (lst [1, 0, 2, 3]) == [4]) && (Region.ready .any ops (lst [1, 0, 2, 3, 4]) == [])

theorem region_two {id : Nat} {ops : Array Oper} {o0 o1 o2 o3 o4 : Oper} {a : Act} {w : World} {Q : Exit → Act → World → Prop}
    (hf : Try.prog.follows .mixedOrders = true) (hsz : ops.size = 5) (hr : readyAll ops = true)
    (h0 : ops[0]? = some o0) (h1 : ops[1]? = some o1) (h2 : ops[2]? = some o2) (h3 : ops[3]? = some o3) (h4 : ops[4]? = some o4)
    (e0 : o0.guard = none ∧ o0.op = .load 116 (.tmp 7) ∧ o0.dst = some 32) (e1 : o1.guard = none ∧ o1.op = .load 116 (.tmp 9) ∧ o1.dst = some 33)
    (e2 : o2.guard = none ∧ o2.op = .store 116 (.tmp 4) (.tmp 32) ∧ o2.dst = none) (e3 : o3.guard = none ∧ o3.op = .store 116 (.tmp 5) (.tmp 33) ∧ o3.dst = none)
    (e4 : o4.guard = none ∧ o4.op = .assign (.const (.int .i64 0)) ∧ o4.dst = some 6)
    (ht : a.tmps.size = 34) (g4 g5 g7 g9 : Nat) (s t s4 s5 : Nat → Bool) (x4 : a.eval (.tmp 4) = .pointer (some ⟨g4, 0, none⟩)) (x5 : a.eval (.tmp 5) = .pointer (some ⟨g5, 0, none⟩))
    (x7 : a.eval (.tmp 7) = .pointer (some ⟨g7, 0, none⟩)) (x9 : a.eval (.tmp 9) = .pointer (some ⟨g9, 0, none⟩))
    (k4 : SetIs w g4 s4) (k5 : SetIs w g5 s5) (k7 : SetIs w g7 s) (k9 : SetIs w g9 t) (n1 : g4 ≠ g5) (n3 : g9 ≠ g4)
    (h : Q .normal (((a.put (some 32) (.agg (setArr s))).put (some 33) (.agg (setArr t))).put (some 6) (.int .i64 0)) ((w.drew.setRow g4 (setArr s)).setRow g5 (setArr t))) :
    (Code.region id ops true).wp Try.prog Q a w := by
  simp only [readyAll, Bool.and_eq_true, beq_iff_eq] at hr
  obtain ⟨⟨⟨⟨⟨⟨⟨⟨⟨⟨⟨⟨⟨⟨r0, r1⟩, r2⟩, r3⟩, r4⟩, r5⟩, r6⟩, r7⟩, r8⟩, r9⟩, r10⟩, r11⟩, r12⟩, r13⟩, r14⟩ := hr
  obtain ⟨u0, p0, d0⟩ := e0
  obtain ⟨u1, p1, d1⟩ := e1
  obtain ⟨u2, p2, d2⟩ := e2
  obtain ⟨u3, p3, d3⟩ := e3
  obtain ⟨u4, p4, d4⟩ := e4
  refine wp_region_any hf ?_
  rw [hsz]
  show wpAny Try.prog .any ops Q 5 (lst []) a w.drew
  have k4' : SetIs w.drew g4 s4 := k4
  have k5' : SetIs w.drew g5 s5 := k5
  have k7' : SetIs w.drew g7 s := k7
  have k9' : SetIs w.drew g9 t := k9
  generalize w.drew = W at *
  have tail : ∀ (L : List Nat) (A : Act) , Region.ready .any ops (lst L) = [3] → Region.ready .any ops ((lst L).setIfInBounds 3 true) = [4] → Region.ready .any ops (((lst L).setIfInBounds 3 true).setIfInBounds 4 true) = [] →
      A = (a.put (some 32) (.agg (setArr s))).put (some 33) (.agg (setArr t)) → wpAny Try.prog .any ops Q 2 (lst L) A (W.setRow g4 (setArr s)) := by
    intro L A q3 q4 q5 hA
    subst hA
    refine wpAny_ready q3 (by simp) (AllReady.cons h3 (fun K hK => ?_) AllReady.nil)
    refine step_store64 u3 (.tmp 5) (.tmp 33) p3 g5 t s5 ?_ ?_ (k5'.rowApart (Ne.symm n1)) ?_
    · rw [eval_put_ne _ _ _ _ (by decide), eval_put_ne _ _ _ _ (by decide), x5]
    · rw [eval_put_eq _ _ _ (by simp [Act.put, ht])]
    refine hK _ _ ?_
    rw [d3]
    refine wpAny_ready q4 (by simp) (AllReady.cons h4 (fun K hK => ?_) AllReady.nil)
    refine step_assign u4 _ p4 ?_
    refine hK _ _ ?_
    rw [d4]
    exact wpAny_done q5 h 0
  refine wpAny_ready r0 (by simp) (AllReady.cons h0 (fun K hK => ?_) (AllReady.cons h1 (fun K hK => ?_) AllReady.nil))
  · refine step_load64 u0 (.tmp 7) p0 g7 s x7 k7' (hK _ _ ?_)
    rw [d0]
    refine wpAny_ready r1 (by simp) (AllReady.cons h1 (fun K hK => ?_) (AllReady.cons h2 (fun K hK => ?_) AllReady.nil))
    · refine step_load64 u1 (.tmp 9) p1 g9 t (by rw [eval_put_ne _ _ _ _ (by decide), x9]) k9' (hK _ _ ?_)
      rw [d1]
      refine wpAny_ready r2 (by simp) (AllReady.cons h2 (fun K hK => ?_) AllReady.nil)
      refine step_store64 u2 (.tmp 4) (.tmp 32) p2 g4 s s4 ?_ ?_ k4' (hK _ _ ?_)
      · rw [eval_put_ne _ _ _ _ (by decide), eval_put_ne _ _ _ _ (by decide), x4]
      · rw [eval_put_ne _ _ _ _ (by decide), eval_put_eq _ _ _ (by omega)]
      rw [d2]
      exact tail [0, 1, 2] _ r3 r4 r5 rfl
    · refine step_store64 u2 (.tmp 4) (.tmp 32) p2 g4 s s4 ?_ ?_ k4' (hK _ _ ?_)
      · rw [eval_put_ne _ _ _ _ (by decide), x4]
      · rw [eval_put_eq _ _ _ (by omega)]
      rw [d2]
      refine wpAny_ready r6 (by simp) (AllReady.cons h1 (fun K hK => ?_) AllReady.nil)
      refine step_load64 u1 (.tmp 9) p1 g9 t ?_ (k9'.rowApart n3) (hK _ _ ?_)
      · show Act.eval (Act.put a (some 32) _) (.tmp 9) = _
        rw [eval_put_ne _ _ _ _ (by decide), x9]
      rw [d1]
      exact tail [0, 2, 1] _ r7 r8 r9 rfl
  · refine step_load64 u1 (.tmp 9) p1 g9 t x9 k9' (hK _ _ ?_)
    rw [d1]
    refine wpAny_ready r10 (by simp) (AllReady.cons h0 (fun K hK => ?_) AllReady.nil)
    refine step_load64 u0 (.tmp 7) p0 g7 s (by rw [eval_put_ne _ _ _ _ (by decide), x7]) k7' (hK _ _ ?_)
    rw [d0]
    refine wpAny_ready r11 (by simp) (AllReady.cons h2 (fun K hK => ?_) AllReady.nil)
    refine step_store64 u2 (.tmp 4) (.tmp 32) p2 g4 s s4 ?_ ?_ k4' (hK _ _ ?_)
    · rw [eval_put_ne _ _ _ _ (by decide), eval_put_ne _ _ _ _ (by decide), x4]
    · rw [eval_put_eq _ _ _ (by simp [Act.put, ht])]
    rw [d2]
    exact tail [1, 0, 2] _ r12 r13 r14 (put_comm _ _ _ _ _ (by decide))

end Go.Proofs.Ytheomnafmjmpdaa

/- seg's gatherTwo, Less, Both by their contracts. -/
namespace Go.Proofs.Ytheomnafmjmpdaa
open Go.RowKit

def vOk (l : List (Int × Int)) : Bool := validFrom 0 l

theorem allOk_one (a : Option Addr) (c : Nat) (l : List (Int × Int)) : allOk [(a, c, l)] = vOk l := by simp [allOk, vOk]
theorem gset_one (a : Option Addr) (c : Nat) (l : List (Int × Int)) (h : vOk l = true) : gset [(a, c, l)] = memS l := by
  rw [gset, allOk_one, h]; funext k; simp [memAny]

theorem gather_one (a : Option Addr) (l : List (Int × Int)) (c cap : Nat) (w : World) (hs : SegsAt w a l) (hl : l.length ≤ maxLen) :
    Calls Try.prog 84 #[.slice (some ⟨w.heap.size, 0, none⟩) 1 cap] (w.alloc (.cells #[.slice a l.length c] 49)) fun e w' =>
      e = .returned (.tuple #[.agg (setArr (gset [(a, c, l)])), .int .i64 (errOf (vOk l))]) ∧ Below w.heap.size w w' := by
  refine (gather_any (some ⟨w.heap.size, 0, none⟩) [(a, c, l)] cap _ (rows1 c 49 hs hl) (by simp [maxLen])).mono ?_
  rintro e w1 ⟨rfl, hb⟩
  rw [allOk_one]
  exact ⟨rfl, nwT (nwA (nwR w) _) hb⟩

def twoOk (l m : List (Int × Int)) : Bool := vOk l && vOk m
def setL (l m : List (Int × Int)) : Nat → Bool := if twoOk l m then memS l else fun _ => false
def setM (l m : List (Int × Int)) : Nat → Bool := if twoOk l m then memS m else fun _ => false

set_option maxRecDepth 100000 in
set_option maxHeartbeats 400000 in
theorem gatherTwo_yes (a b : Option Addr) (l m : List (Int × Int)) (ca cb : Nat) (w : World) (ha : SegsAt w a l) (hb : SegsAt w b m) (hl : l.length ≤ maxLen) (hm : m.length ≤ maxLen) (ho : vOk l = true) (hp : vOk m = true) :
    Calls Try.prog 79 #[.slice a l.length ca, .slice b m.length cb] w fun e w' =>
      e = .returned (.tuple #[.agg (setArr (memS l)), .agg (setArr (memS m)), .int .i64 0]) ∧ Below w.heap.size w w' := by
  have HA : Hid (SegsAt w a l) := ha
  have HB : Hid (SegsAt w b m) := hb
  clear ha hb
  go_enter Try.func79, Try.ntmps79
  go_wp2_with (refine wpList_alloc64 rfl rfl ?_)
  have hs2 : ((w.alloc (.cells (setArr fun _ => false) 116)).alloc (.cells (setArr fun _ => false) 116)).heap.size = w.heap.size + 1 + 1 := by simp
  obtain ⟨W2, hW2⟩ : ∃ W2, W2 = (w.alloc (.cells (setArr fun _ => false) 116)).alloc (.cells (setArr fun _ => false) 116) := ⟨_, rfl⟩
  have HN2 : Hid (Below w.heap.size w W2) := by rw [hW2]; exact nwA (nwA (nwR w) _) _
  have HR4 : Hid (SetIs W2 w.heap.size (fun _ => false)) := by rw [hW2]; exact (SetIs.new w).alloc _
  have HR5 : Hid (SetIs W2 (w.heap.size + 1) (fun _ => false)) := by
    rw [hW2]
    have h := SetIs.new (w.alloc (.cells (setArr fun _ => false) 116))
    rw [show (w.alloc (.cells (setArr fun _ => false) 116)).heap.size = w.heap.size + 1 from by simp] at h
    exact h
  rw [← hW2] at hs2 ⊢
  rw [← hs2]
  clear hW2
  refine (gather_one a l ca 1 W2 (HA.out.below HN2.out (Nat.le_refl _)) hl).mono ?_
  rintro e w3 ⟨rfl, hb3⟩
  rw [ho, gset_one _ _ _ ho, show errOf true = 0 from rfl]
  have HN3 : Hid (SetIs (w3.alloc (.cells (setArr fun _ => false) 116)) w3.heap.size (fun _ => false)) := SetIs.new w3
  go_wp2_with (first | refine wpList_alloc64 rfl rfl ?_ | refine wpList_store64 rfl (.tmp 7) (.tmp 14) rfl w3.heap.size _ _ rfl rfl HN3.out ?_)
  obtain ⟨W4, hW4⟩ : ∃ W4, W4 = (w3.alloc (.cells (setArr fun _ => false) 116)).setRow w3.heap.size (setArr (memS l)) := ⟨_, rfl⟩
  have hs4 : W4.heap.size = w3.heap.size + 1 := by rw [hW4]; simp
  have hlt3 : w.heap.size + 1 < w3.heap.size := by have := hb3.size; omega
  have HG34 : Hid (w3.grownBy W4 (some w3.heap.size)) := by rw [hW4]; exact gbTrans (World.grownBy_alloc _ _ _) (gbSetRow _ _ _)
  have HN4 : Hid (Below w.heap.size w W4) := (nwT HN2.out hb3).grown HG34.out (nwT HN2.out hb3).size (fun k e => by have := Option.some.inj e; omega)
  have HS7 : Hid (SetIs W4 w3.heap.size (memS l)) := by rw [hW4]; exact HN3.out.setRow
  have HR4' : Hid (SetIs W4 w.heap.size (fun _ => false)) := (HR4.out.below hb3).grown HG34.out (by omega)
  have HR5' : Hid (SetIs W4 (w.heap.size + 1) (fun _ => false)) := (HR5.out.below hb3).grown HG34.out (by omega)
  rw [← hW4]
  rw [← hs4]
  clear hW4 HR4 HR5 HG34 HN3 hb3 HN2
  refine (gather_one b m cb 1 W4 (HB.out.below HN4.out (Nat.le_refl _)) hm).mono ?_
  rintro e w5 ⟨rfl, hb5⟩
  rw [hp, gset_one _ _ _ hp, show errOf true = 0 from rfl]
  have HN5 : Hid (SetIs (w5.alloc (.cells (setArr fun _ => false) 116)) w5.heap.size (fun _ => false)) := SetIs.new w5
  go_wp2_with (first | refine wpList_alloc64 rfl rfl ?_ | refine wpList_store64 rfl (.tmp 9) (.tmp 25) rfl w5.heap.size _ _ rfl rfl HN5.out ?_)
  obtain ⟨W6, hW6⟩ : ∃ W6, W6 = (w5.alloc (.cells (setArr fun _ => false) 116)).setRow w5.heap.size (setArr (memS m)) := ⟨_, rfl⟩
  have hlt5 : w3.heap.size < w5.heap.size := by have := hb5.size; omega
  have HG56 : Hid (w5.grownBy W6 (some w5.heap.size)) := by rw [hW6]; exact gbTrans (World.grownBy_alloc _ _ _) (gbSetRow _ _ _)
  have HN6 : Hid (Below w.heap.size w W6) := (nwT HN4.out hb5).grown HG56.out (nwT HN4.out hb5).size (fun k e => by have := Option.some.inj e; omega)
  have HS9 : Hid (SetIs W6 w5.heap.size (memS m)) := by rw [hW6]; exact HN5.out.setRow
  have HS7' : Hid (SetIs W6 w3.heap.size (memS l)) := (HS7.out.below hb5).grown HG56.out (by omega)
  have HS4 : Hid (SetIs W6 w.heap.size (fun _ => false)) := (HR4'.out.below hb5).grown HG56.out (by omega)
  have HS5 : Hid (SetIs W6 (w.heap.size + 1) (fun _ => false)) := (HR5'.out.below hb5).grown HG56.out (by omega)
  rw [← hW6]
  clear hW6 HR4' HR5' HG56 HN5 hb5 HN4 HS7
  have HF : Hid (SetIs ((W6.setRow w.heap.size (setArr (memS l))).setRow (w.heap.size + 1) (setArr (memS m))) w.heap.size (memS l) ∧
      SetIs ((W6.setRow w.heap.size (setArr (memS l))).setRow (w.heap.size + 1) (setArr (memS m))) (w.heap.size + 1) (memS m) ∧
      Below w.heap.size w ((W6.setRow w.heap.size (setArr (memS l))).setRow (w.heap.size + 1) (setArr (memS m)))) :=
    ⟨HS4.out.setRow.rowApart (by omega), (HS5.out.rowApart (by omega)).setRow,
      (HN6.out.grown (gbSetRow _ _ _) HN6.out.size (fun k e => by have := Option.some.inj e; omega)).grown (gbSetRow _ _ _) (by simp; exact HN6.out.size) (fun k e => by have := Option.some.inj e; omega)⟩
  refine region_two (by kernel_rfl) rfl (by kernel_rfl) rfl rfl rfl rfl rfl ⟨rfl, rfl, rfl⟩ ⟨rfl, rfl, rfl⟩ ⟨rfl, rfl, rfl⟩ ⟨rfl, rfl, rfl⟩ ⟨rfl, rfl, rfl⟩ rfl w.heap.size (w.heap.size + 1) w3.heap.size w5.heap.size
    (memS l) (memS m) (fun _ => false) (fun _ => false) rfl rfl rfl rfl HS4.out HS5.out HS7'.out HS9.out (by omega) (by omega) ?_
  go_wp2_with fail
  refine bodyPost_ret (results_set2_tmp rfl _ _ w.heap.size (w.heap.size + 1) (memS l) (memS m) rfl (by exact HF.out.1) rfl (by exact HF.out.2.1)) rfl ⟨rfl, ?_⟩
  exact ⟨HF.out.2.2.os, HF.out.2.2.tape, HF.out.2.2.output, HF.out.2.2.size, HF.out.2.2.block⟩

set_option maxRecDepth 100000 in
set_option maxHeartbeats 400000 in
theorem gatherTwo_no1 (a b : Option Addr) (l m : List (Int × Int)) (ca cb : Nat) (w : World) (ha : SegsAt w a l) (hl : l.length ≤ maxLen) (ho : vOk l = false) :
    Calls Try.prog 79 #[.slice a l.length ca, .slice b m.length cb] w fun e w' =>
      e = .returned (.tuple #[.agg (setArr fun _ => false), .agg (setArr fun _ => false), .int .i64 1]) ∧ Below w.heap.size w w' := by
  have HA : Hid (SegsAt w a l) := ha
  clear ha
  go_enter Try.func79, Try.ntmps79
  go_wp2_with (refine wpList_alloc64 rfl rfl ?_)
  have hs2 : ((w.alloc (.cells (setArr fun _ => false) 116)).alloc (.cells (setArr fun _ => false) 116)).heap.size = w.heap.size + 1 + 1 := by simp
  obtain ⟨W2, hW2⟩ : ∃ W2, W2 = (w.alloc (.cells (setArr fun _ => false) 116)).alloc (.cells (setArr fun _ => false) 116) := ⟨_, rfl⟩
  have HN2 : Hid (Below w.heap.size w W2) := by rw [hW2]; exact nwA (nwA (nwR w) _) _
  have HR4 : Hid (SetIs W2 w.heap.size (fun _ => false)) := by rw [hW2]; exact (SetIs.new w).alloc _
  have HR5 : Hid (SetIs W2 (w.heap.size + 1) (fun _ => false)) := by
    rw [hW2]
    have h := SetIs.new (w.alloc (.cells (setArr fun _ => false) 116))
    rw [show (w.alloc (.cells (setArr fun _ => false) 116)).heap.size = w.heap.size + 1 from by simp] at h
    exact h
  rw [← hW2] at hs2 ⊢
  rw [← hs2]
  clear hW2
  refine (gather_one a l ca 1 W2 (HA.out.below HN2.out (Nat.le_refl _)) hl).mono ?_
  rintro e w3 ⟨rfl, hb3⟩
  rw [ho, show errOf false = 1 from rfl]
  have HN3 : Hid (SetIs (w3.alloc (.cells (setArr fun _ => false) 116)) w3.heap.size (fun _ => false)) := SetIs.new w3
  have hlt3 : w.heap.size + 1 < w3.heap.size := by have := hb3.size; omega
  generalize gset [(a, ca, l)] = gs
  have HG34 : Hid (w3.grownBy ((w3.alloc (.cells (setArr fun _ => false) 116)).setRow w3.heap.size (setArr gs)) (some w3.heap.size)) := gbTrans (World.grownBy_alloc _ _ _) (gbSetRow _ _ _)
  have HR4' : Hid (SetIs ((w3.alloc (.cells (setArr fun _ => false) 116)).setRow w3.heap.size (setArr gs)) w.heap.size (fun _ => false)) := (HR4.out.below hb3).grown HG34.out (by omega)
  have HR5' : Hid (SetIs ((w3.alloc (.cells (setArr fun _ => false) 116)).setRow w3.heap.size (setArr gs)) (w.heap.size + 1) (fun _ => false)) := (HR5.out.below hb3).grown HG34.out (by omega)
  have HN4 : Hid (Below w.heap.size w ((w3.alloc (.cells (setArr fun _ => false) 116)).setRow w3.heap.size (setArr gs))) := (nwT HN2.out hb3).grown HG34.out (nwT HN2.out hb3).size (fun k e => by have := Option.some.inj e; omega)
  go_wp2_with (first | refine wpList_alloc64 rfl rfl ?_ | refine wpList_build64 rfl rfl ?_ | refine wpList_store64 rfl (.tmp 7) (.tmp 14) rfl w3.heap.size _ _ rfl rfl HN3.out ?_ | refine wpList_store64 rfl (.tmp 4) (.tmp 18) rfl w.heap.size _ _ rfl rfl HR4'.out ?_ | refine wpList_store64 rfl (.tmp 5) (.tmp 19) rfl (w.heap.size + 1) _ _ rfl rfl (HR5'.out.rowApart (by omega)) ?_)
  refine bodyPost_ret (results_set2_tmp rfl _ _ w.heap.size (w.heap.size + 1) (fun _ => false) (fun _ => false) rfl (by exact HR4'.out.setRow.rowApart (by omega)) rfl (by exact (HR5'.out.rowApart (by omega)).setRow)) rfl ⟨rfl, ?_⟩
  exact (HN4.out.grown (gbSetRow _ _ _) HN4.out.size (fun k e => by have := Option.some.inj e; omega)).grown (gbSetRow _ _ _) (by simp; omega) (fun k e => by have := Option.some.inj e; omega)

set_option maxRecDepth 100000 in
set_option maxHeartbeats 400000 in
theorem gatherTwo_no2 (a b : Option Addr) (l m : List (Int × Int)) (ca cb : Nat) (w : World) (ha : SegsAt w a l) (hb : SegsAt w b m) (hl : l.length ≤ maxLen) (hm : m.length ≤ maxLen) (ho : vOk l = true) (hp : vOk m = false) :
    Calls Try.prog 79 #[.slice a l.length ca, .slice b m.length cb] w fun e w' =>
      e = .returned (.tuple #[.agg (setArr fun _ => false), .agg (setArr fun _ => false), .int .i64 1]) ∧ Below w.heap.size w w' := by
  have HA : Hid (SegsAt w a l) := ha
  have HB : Hid (SegsAt w b m) := hb
  clear ha hb
  go_enter Try.func79, Try.ntmps79
  go_wp2_with (refine wpList_alloc64 rfl rfl ?_)
  have hs2 : ((w.alloc (.cells (setArr fun _ => false) 116)).alloc (.cells (setArr fun _ => false) 116)).heap.size = w.heap.size + 1 + 1 := by simp
  obtain ⟨W2, hW2⟩ : ∃ W2, W2 = (w.alloc (.cells (setArr fun _ => false) 116)).alloc (.cells (setArr fun _ => false) 116) := ⟨_, rfl⟩
  have HN2 : Hid (Below w.heap.size w W2) := by rw [hW2]; exact nwA (nwA (nwR w) _) _
  have HR4 : Hid (SetIs W2 w.heap.size (fun _ => false)) := by rw [hW2]; exact (SetIs.new w).alloc _
  have HR5 : Hid (SetIs W2 (w.heap.size + 1) (fun _ => false)) := by
    rw [hW2]
    have h := SetIs.new (w.alloc (.cells (setArr fun _ => false) 116))
    rw [show (w.alloc (.cells (setArr fun _ => false) 116)).heap.size = w.heap.size + 1 from by simp] at h
    exact h
  rw [← hW2] at hs2 ⊢
  rw [← hs2]
  clear hW2
  refine (gather_one a l ca 1 W2 (HA.out.below HN2.out (Nat.le_refl _)) hl).mono ?_
  rintro e w3 ⟨rfl, hb3⟩
  rw [ho, gset_one _ _ _ ho, show errOf true = 0 from rfl]
  have HN3 : Hid (SetIs (w3.alloc (.cells (setArr fun _ => false) 116)) w3.heap.size (fun _ => false)) := SetIs.new w3
  go_wp2_with (first | refine wpList_alloc64 rfl rfl ?_ | refine wpList_store64 rfl (.tmp 7) (.tmp 14) rfl w3.heap.size _ _ rfl rfl HN3.out ?_)
  obtain ⟨W4, hW4⟩ : ∃ W4, W4 = (w3.alloc (.cells (setArr fun _ => false) 116)).setRow w3.heap.size (setArr (memS l)) := ⟨_, rfl⟩
  have hs4 : W4.heap.size = w3.heap.size + 1 := by rw [hW4]; simp
  have hlt3 : w.heap.size + 1 < w3.heap.size := by have := hb3.size; omega
  have HG34 : Hid (w3.grownBy W4 (some w3.heap.size)) := by rw [hW4]; exact gbTrans (World.grownBy_alloc _ _ _) (gbSetRow _ _ _)
  have HN4 : Hid (Below w.heap.size w W4) := (nwT HN2.out hb3).grown HG34.out (nwT HN2.out hb3).size (fun k e => by have := Option.some.inj e; omega)
  have HS7 : Hid (SetIs W4 w3.heap.size (memS l)) := by rw [hW4]; exact HN3.out.setRow
  have HR4' : Hid (SetIs W4 w.heap.size (fun _ => false)) := (HR4.out.below hb3).grown HG34.out (by omega)
  have HR5' : Hid (SetIs W4 (w.heap.size + 1) (fun _ => false)) := (HR5.out.below hb3).grown HG34.out (by omega)
  rw [← hW4]
  rw [← hs4]
  clear hW4 HR4 HR5 HG34 HN3 hb3 HN2
  refine (gather_one b m cb 1 W4 (HB.out.below HN4.out (Nat.le_refl _)) hm).mono ?_
  rintro e w5 ⟨rfl, hb5⟩
  rw [hp, show errOf false = 1 from rfl]
  have HN5 : Hid (SetIs (w5.alloc (.cells (setArr fun _ => false) 116)) w5.heap.size (fun _ => false)) := SetIs.new w5
  have hlt5 : w3.heap.size < w5.heap.size := by have := hb5.size; omega
  generalize gset [(b, cb, m)] = gs
  have HG56 : Hid (w5.grownBy ((w5.alloc (.cells (setArr fun _ => false) 116)).setRow w5.heap.size (setArr gs)) (some w5.heap.size)) := gbTrans (World.grownBy_alloc _ _ _) (gbSetRow _ _ _)
  have HS4 : Hid (SetIs ((w5.alloc (.cells (setArr fun _ => false) 116)).setRow w5.heap.size (setArr gs)) w.heap.size (fun _ => false)) := (HR4'.out.below hb5).grown HG56.out (by omega)
  have HS5 : Hid (SetIs ((w5.alloc (.cells (setArr fun _ => false) 116)).setRow w5.heap.size (setArr gs)) (w.heap.size + 1) (fun _ => false)) := (HR5'.out.below hb5).grown HG56.out (by omega)
  have HN6 : Hid (Below w.heap.size w ((w5.alloc (.cells (setArr fun _ => false) 116)).setRow w5.heap.size (setArr gs))) := (nwT HN4.out hb5).grown HG56.out (nwT HN4.out hb5).size (fun k e => by have := Option.some.inj e; omega)
  go_wp2_with (first | refine wpList_alloc64 rfl rfl ?_ | refine wpList_build64 rfl rfl ?_ | refine wpList_store64 rfl (.tmp 9) (.tmp 25) rfl w5.heap.size _ _ rfl rfl HN5.out ?_ | refine wpList_store64 rfl (.tmp 4) (.tmp 29) rfl w.heap.size _ _ rfl rfl HS4.out ?_ | refine wpList_store64 rfl (.tmp 5) (.tmp 30) rfl (w.heap.size + 1) _ _ rfl rfl (HS5.out.rowApart (by omega)) ?_)
  refine bodyPost_ret (results_set2_tmp rfl _ _ w.heap.size (w.heap.size + 1) (fun _ => false) (fun _ => false) rfl (by exact HS4.out.setRow.rowApart (by omega)) rfl (by exact (HS5.out.rowApart (by omega)).setRow)) rfl ⟨rfl, ?_⟩
  exact (HN6.out.grown (gbSetRow _ _ _) HN6.out.size (fun k e => by have := Option.some.inj e; omega)).grown (gbSetRow _ _ _) (by simp; omega) (fun k e => by have := Option.some.inj e; omega)

theorem gatherTwo_any (a b : Option Addr) (l m : List (Int × Int)) (ca cb : Nat) (w : World) (ha : SegsAt w a l) (hb : SegsAt w b m) (hl : l.length ≤ maxLen) (hm : m.length ≤ maxLen) :
    Calls Try.prog 79 #[.slice a l.length ca, .slice b m.length cb] w fun e w' =>
      e = .returned (.tuple #[.agg (setArr (setL l m)), .agg (setArr (setM l m)), .int .i64 (errOf (twoOk l m))]) ∧ Below w.heap.size w w' := by
  cases ho : vOk l
  · have e : twoOk l m = false := by simp [twoOk, ho]
    rw [setL, setM, e]
    exact gatherTwo_no1 a b l m ca cb w ha hl ho
  · cases hp : vOk m
    · have e : twoOk l m = false := by simp [twoOk, hp]
      rw [setL, setM, e]
      exact gatherTwo_no2 a b l m ca cb w ha hb hl hm ho hp
    · have e : twoOk l m = true := by simp [twoOk, ho, hp]
      rw [setL, setM, e]
      exact gatherTwo_yes a b l m ca cb w ha hb hl hm ho hp

end Go.Proofs.Ytheomnafmjmpdaa

/- seg.Less and seg.Both by their contracts. -/
namespace Go.Proofs.Ytheomnafmjmpdaa
open Go.RowKit

set_option maxRecDepth 100000 in
set_option maxHeartbeats 400000 in
theorem less1_any (ga gb : Nat) (s t : Nat → Bool) (n : Nat) (w : World) (hs : SetIs w ga s) (ht : SetIs w gb t) (hn : n < 64) :
    Calls Try.prog 81 #[.int .i64 n, .pointer (some ⟨ga, 0, none⟩), .pointer (some ⟨gb, 0, none⟩)] w fun e w' => e = .returned (.bool (s n && !t n)) ∧ w' = w := by
  have HS : Hid (SetIs w ga s) := hs
  have HT : Hid (SetIs w gb t) := ht
  clear hs ht
  cases hv : s n
  · go_enter Try.func81, Try.ntmps81
    go_wp2_with fail
    refine (setHas_any ga s n _ HS.out hn).mono ?_
    rintro e w1 ⟨rfl, rfl⟩
    rw [hv]
    go_wp2_with fail
    go_ret
    exact ⟨rfl, rfl⟩
  · go_enter Try.func81, Try.ntmps81
    go_wp2_with fail
    refine (setHas_any ga s n _ HS.out hn).mono ?_
    rintro e w1 ⟨rfl, rfl⟩
    rw [hv]
    go_wp2_with fail
    refine (setHas_any gb t n _ HT.out hn).mono ?_
    rintro e w1 ⟨rfl, rfl⟩
    go_wp2_with fail
    go_ret
    exact ⟨by simp, rfl⟩

set_option maxRecDepth 100000 in
set_option maxHeartbeats 400000 in
theorem both1_any (ga gb : Nat) (s t : Nat → Bool) (n : Nat) (w : World) (hs : SetIs w ga s) (ht : SetIs w gb t) (hn : n < 64) :
    Calls Try.prog 96 #[.int .i64 n, .pointer (some ⟨ga, 0, none⟩), .pointer (some ⟨gb, 0, none⟩)] w fun e w' => e = .returned (.bool (s n && t n)) ∧ w' = w := by
  have HS : Hid (SetIs w ga s) := hs
  have HT : Hid (SetIs w gb t) := ht
  clear hs ht
  cases hv : s n
  · go_enter Try.func96, Try.ntmps96
    go_wp2_with fail
    refine (setHas_any ga s n _ HS.out hn).mono ?_
    rintro e w1 ⟨rfl, rfl⟩
    rw [hv]
    go_wp2_with fail
    go_ret
    exact ⟨rfl, rfl⟩
  · go_enter Try.func96, Try.ntmps96
    go_wp2_with fail
    refine (setHas_any ga s n _ HS.out hn).mono ?_
    rintro e w1 ⟨rfl, rfl⟩
    rw [hv]
    go_wp2_with fail
    refine (setHas_any gb t n _ HT.out hn).mono ?_
    rintro e w1 ⟨rfl, rfl⟩
    go_wp2_with fail
    go_ret
    exact ⟨by simp, rfl⟩

theorem new2 (w1 : World) : SetIs ((w1.alloc (.cells (setArr fun _ => false) 116)).alloc (.cells (setArr fun _ => false) 116)) (w1.heap.size + 1) (fun _ => false) := by
  have h := SetIs.new (w1.alloc (.cells (setArr fun _ => false) 116))
  rw [show (w1.alloc (.cells (setArr fun _ => false) 116)).heap.size = w1.heap.size + 1 from by simp] at h
  exact h

theorem two_new {w w1 : World} (hb1 : Below w.heap.size w w1) {c d : Array Value} {o o' : Obj} :
    Below w.heap.size w ((((w1.alloc o).alloc o').setRow w1.heap.size c).setRow (w1.heap.size + 1) d) :=
  ((nwA (nwA hb1 o) o').grown (gbSetRow _ _ _) (nwA (nwA hb1 o) o').size (fun k e => by have := Option.some.inj e; have := hb1.size; omega)).grown (gbSetRow _ _ _) (by have := hb1.size; simp; omega) (fun k e => by have := Option.some.inj e; have := hb1.size; omega)

def Stop (p : Prop) : Prop := p
theorem wpList_stop {ops : Array Oper} {rest : List Oper} {o : Oper} {a : Act} {w : World} {Q : Exit → Act → World → Prop} {x y : Operand} (_ : o.op = .store 116 x y) (h : Stop (wpList Try.prog ops Q (o :: rest) a w)) : wpList Try.prog ops Q (o :: rest) a w := h

def lessOf (l m : List (Int × Int)) : List (Int × Int) := if twoOk l m then segsOf (fun k => memS l k && !memS m k) else []

set_option maxRecDepth 100000 in
set_option maxHeartbeats 400000 in
theorem less_any (a b : Option Addr) (l m : List (Int × Int)) (ca cb : Nat) (w : World) (ha : SegsAt w a l) (hb : SegsAt w b m) (hl : l.length ≤ maxLen) (hm : m.length ≤ maxLen) :
    Calls Try.prog 65 #[.slice a l.length ca, .slice b m.length cb] w fun e w' =>
      ∃ v, e = .returned (.tuple #[v, .int .i64 (errOf (twoOk l m))]) ∧ OwnSegs w' w.heap.size v (lessOf l m) ∧ Below w.heap.size w w' := by
  have HA : Hid (SegsAt w a l) := ha
  have HB : Hid (SegsAt w b m) := hb
  clear ha hb
  cases hv : twoOk l m
  · go_enter Try.func65, Try.ntmps65
    go_wp2_with fail
    refine (gatherTwo_any a b l m ca cb _ HA.out HB.out hl hm).mono ?_
    rintro e w1 ⟨rfl, hb1⟩
    rw [hv, show errOf false = 1 from rfl]
    have HN : Hid (SetIs (w1.alloc (.cells (setArr fun _ => false) 116)) w1.heap.size (fun _ => false)) := SetIs.new w1
    have HM : Hid (SetIs ((w1.alloc (.cells (setArr fun _ => false) 116)).alloc (.cells (setArr fun _ => false) 116)) (w1.heap.size + 1) (fun _ => false)) := new2 w1
    have HN2 : Hid (SetIs ((w1.alloc (.cells (setArr fun _ => false) 116)).alloc (.cells (setArr fun _ => false) 116)) w1.heap.size (fun _ => false)) := HN.out.alloc _
    have HM2 : Hid (SetIs (((w1.alloc (.cells (setArr fun _ => false) 116)).alloc (.cells (setArr fun _ => false) 116)).setRow w1.heap.size (setArr (setL l m))) (w1.heap.size + 1) (fun _ => false)) := HM.out.rowApart (by omega)
    go_wp2_with (first | (with_reducible refine wpList_alloc64 rfl rfl ?_) | (with_reducible refine wpList_stop rfl ?_))
    unfold Stop
    refine wpList_store64 rfl (.tmp 6) (.tmp 13) rfl w1.heap.size (setL l m) _ rfl rfl HN2.out ?_
    go_wp2_with (with_reducible refine wpList_stop rfl ?_)
    unfold Stop
    refine wpList_store64 rfl (.tmp 7) (.tmp 14) rfl (w1.heap.size + 1) (setM l m) _ rfl rfl HM2.out ?_
    go_wp2_with fail
    go_ret2
    refine ⟨_, rfl, ?_, ?_⟩
    · rw [lessOf, hv]; exact World.ownsRow_nil _ _ _ _
    · exact two_new hb1
  · go_enter Try.func65, Try.ntmps65
    go_wp2_with fail
    refine (gatherTwo_any a b l m ca cb _ HA.out HB.out hl hm).mono ?_
    rintro e w1 ⟨rfl, hb1⟩
    rw [hv, show errOf true = 0 from rfl]
    have HN : Hid (SetIs (w1.alloc (.cells (setArr fun _ => false) 116)) w1.heap.size (fun _ => false)) := SetIs.new w1
    have HM : Hid (SetIs ((w1.alloc (.cells (setArr fun _ => false) 116)).alloc (.cells (setArr fun _ => false) 116)) (w1.heap.size + 1) (fun _ => false)) := new2 w1
    have HN2 : Hid (SetIs ((w1.alloc (.cells (setArr fun _ => false) 116)).alloc (.cells (setArr fun _ => false) 116)) w1.heap.size (fun _ => false)) := HN.out.alloc _
    have HM2 : Hid (SetIs (((w1.alloc (.cells (setArr fun _ => false) 116)).alloc (.cells (setArr fun _ => false) 116)).setRow w1.heap.size (setArr (setL l m))) (w1.heap.size + 1) (fun _ => false)) := HM.out.rowApart (by omega)
    go_wp2_with (first | (with_reducible refine wpList_alloc64 rfl rfl ?_) | (with_reducible refine wpList_stop rfl ?_))
    unfold Stop
    refine wpList_store64 rfl (.tmp 6) (.tmp 13) rfl w1.heap.size (setL l m) _ rfl rfl HN2.out ?_
    go_wp2_with (with_reducible refine wpList_stop rfl ?_)
    unfold Stop
    refine wpList_store64 rfl (.tmp 7) (.tmp 14) rfl (w1.heap.size + 1) (setM l m) _ rfl rfl HM2.out ?_
    go_wp2_with fail
    refine (pick_any 81 #[] #[.pointer (some ⟨w1.heap.size, 0, none⟩), .pointer (some ⟨w1.heap.size + 1, 0, none⟩)] (fun k => setL l m k && !setM l m k) _ Try.call81 (fun k w' hk hb => ?_)).mono ?_
    · exact (less1_any w1.heap.size (w1.heap.size + 1) (setL l m) (setM l m) k w' ((HN2.out.setRow.rowApart (by omega)).below hb) (HM2.out.setRow.below hb) hk).mono fun e w2 h => ⟨h.1, h.2 ▸ nwR w'⟩
    · rintro e w2 ⟨v, rfl, hown, hb2⟩
      have HO : Hid _ := hown
      clear hown
      go_wp2_with fail
      go_ret2
      refine ⟨_, rfl, ?_, ?_⟩
      · have e : lessOf l m = segsOf (fun k => setL l m k && !setM l m k) := by rw [lessOf, setL, setM, hv]; rfl
        rw [e]
        exact ownsRow_base HO.out (by have := hb1.size; simp; omega)
      · exact nwT (two_new hb1) hb2

def bothOf (l m : List (Int × Int)) : List (Int × Int) := if twoOk l m then segsOf (fun k => memS l k && memS m k) else []

set_option maxRecDepth 100000 in
set_option maxHeartbeats 400000 in
theorem both_any (a b : Option Addr) (l m : List (Int × Int)) (ca cb : Nat) (w : World) (ha : SegsAt w a l) (hb : SegsAt w b m) (hl : l.length ≤ maxLen) (hm : m.length ≤ maxLen) :
    Calls Try.prog 87 #[.slice a l.length ca, .slice b m.length cb] w fun e w' =>
      ∃ v, e = .returned (.tuple #[v, .int .i64 (errOf (twoOk l m))]) ∧ OwnSegs w' w.heap.size v (bothOf l m) ∧ Below w.heap.size w w' := by
  have HA : Hid (SegsAt w a l) := ha
  have HB : Hid (SegsAt w b m) := hb
  clear ha hb
  cases hv : twoOk l m
  · go_enter Try.func87, Try.ntmps87
    go_wp2_with fail
    refine (gatherTwo_any a b l m ca cb _ HA.out HB.out hl hm).mono ?_
    rintro e w1 ⟨rfl, hb1⟩
    rw [hv, show errOf false = 1 from rfl]
    have HN : Hid (SetIs (w1.alloc (.cells (setArr fun _ => false) 116)) w1.heap.size (fun _ => false)) := SetIs.new w1
    have HM : Hid (SetIs ((w1.alloc (.cells (setArr fun _ => false) 116)).alloc (.cells (setArr fun _ => false) 116)) (w1.heap.size + 1) (fun _ => false)) := new2 w1
    have HN2 : Hid (SetIs ((w1.alloc (.cells (setArr fun _ => false) 116)).alloc (.cells (setArr fun _ => false) 116)) w1.heap.size (fun _ => false)) := HN.out.alloc _
    have HM2 : Hid (SetIs (((w1.alloc (.cells (setArr fun _ => false) 116)).alloc (.cells (setArr fun _ => false) 116)).setRow w1.heap.size (setArr (setL l m))) (w1.heap.size + 1) (fun _ => false)) := HM.out.rowApart (by omega)
    go_wp2_with (first | (with_reducible refine wpList_alloc64 rfl rfl ?_) | (with_reducible refine wpList_stop rfl ?_))
    unfold Stop
    refine wpList_store64 rfl (.tmp 6) (.tmp 13) rfl w1.heap.size (setL l m) _ rfl rfl HN2.out ?_
    go_wp2_with (with_reducible refine wpList_stop rfl ?_)
    unfold Stop
    refine wpList_store64 rfl (.tmp 7) (.tmp 14) rfl (w1.heap.size + 1) (setM l m) _ rfl rfl HM2.out ?_
    go_wp2_with fail
    go_ret2
    refine ⟨_, rfl, ?_, ?_⟩
    · rw [bothOf, hv]; exact World.ownsRow_nil _ _ _ _
    · exact two_new hb1
  · go_enter Try.func87, Try.ntmps87
    go_wp2_with fail
    refine (gatherTwo_any a b l m ca cb _ HA.out HB.out hl hm).mono ?_
    rintro e w1 ⟨rfl, hb1⟩
    rw [hv, show errOf true = 0 from rfl]
    have HN : Hid (SetIs (w1.alloc (.cells (setArr fun _ => false) 116)) w1.heap.size (fun _ => false)) := SetIs.new w1
    have HM : Hid (SetIs ((w1.alloc (.cells (setArr fun _ => false) 116)).alloc (.cells (setArr fun _ => false) 116)) (w1.heap.size + 1) (fun _ => false)) := new2 w1
    have HN2 : Hid (SetIs ((w1.alloc (.cells (setArr fun _ => false) 116)).alloc (.cells (setArr fun _ => false) 116)) w1.heap.size (fun _ => false)) := HN.out.alloc _
    have HM2 : Hid (SetIs (((w1.alloc (.cells (setArr fun _ => false) 116)).alloc (.cells (setArr fun _ => false) 116)).setRow w1.heap.size (setArr (setL l m))) (w1.heap.size + 1) (fun _ => false)) := HM.out.rowApart (by omega)
    go_wp2_with (first | (with_reducible refine wpList_alloc64 rfl rfl ?_) | (with_reducible refine wpList_stop rfl ?_))
    unfold Stop
    refine wpList_store64 rfl (.tmp 6) (.tmp 13) rfl w1.heap.size (setL l m) _ rfl rfl HN2.out ?_
    go_wp2_with (with_reducible refine wpList_stop rfl ?_)
    unfold Stop
    refine wpList_store64 rfl (.tmp 7) (.tmp 14) rfl (w1.heap.size + 1) (setM l m) _ rfl rfl HM2.out ?_
    go_wp2_with fail
    refine (pick_any 96 #[] #[.pointer (some ⟨w1.heap.size, 0, none⟩), .pointer (some ⟨w1.heap.size + 1, 0, none⟩)] (fun k => setL l m k && setM l m k) _ Try.call96 (fun k w' hk hb => ?_)).mono ?_
    · exact (both1_any w1.heap.size (w1.heap.size + 1) (setL l m) (setM l m) k w' ((HN2.out.setRow.rowApart (by omega)).below hb) (HM2.out.setRow.below hb) hk).mono fun e w2 h => ⟨h.1, h.2 ▸ nwR w'⟩
    · rintro e w2 ⟨v, rfl, hown, hb2⟩
      have HO : Hid _ := hown
      clear hown
      go_wp2_with fail
      go_ret2
      refine ⟨_, rfl, ?_, ?_⟩
      · have e : bothOf l m = segsOf (fun k => setL l m k && setM l m k) := by rw [bothOf, setL, setM, hv]; rfl
        rw [e]
        exact ownsRow_base HO.out (by have := hb1.size; simp; omega)
      · exact nwT (two_new hb1) hb2

end Go.Proofs.Ytheomnafmjmpdaa

/- seg.Count, seg.List, seg.Of by their contracts. -/
namespace Go.Proofs.Ytheomnafmjmpdaa
open Go.RowKit

def sumLen : List (Int × Int) → Int
  | [] => 0
  | s :: r => s.2 + sumLen r

theorem sumLen_snoc (l : List (Int × Int)) (s : Int × Int) : sumLen (l ++ [s]) = sumLen l + s.2 := by
  induction l with
  | nil => simp [sumLen]
  | cons a r ih => simp [sumLen, ih]; omega

theorem sumLen_bd : ∀ (l : List (Int × Int)) (m : Int) (k : Nat), validFrom m l = true → 0 ≤ sumLen (l.take k) ∧ (sumLen (l.take k) = 0 ∨ sumLen (l.take k) ≤ 64 - m)
  | [], _, _, _ => by simp [sumLen]
  | s :: r, m, 0, _ => by simp [sumLen]
  | s :: r, m, k + 1, h => by
    simp only [validFrom, Bool.and_eq_true, Bool.not_eq_true', decide_eq_false_iff_not] at h
    obtain ⟨⟨h1, h2⟩, h3⟩ := h
    have hm := mayB_of h1
    have ih := sumLen_bd r _ k h3
    simp only [List.take_succ_cons, sumLen]
    omega

def cntOf (l : List (Int × Int)) : Int := if vOk l then sumLen l else 0

set_option maxRecDepth 100000 in
set_option maxHeartbeats 400000 in
theorem count_any (a : Option Addr) (l : List (Int × Int)) (cap : Nat) (w : World) (hs : SegsAt w a l) (hl : l.length ≤ maxLen) :
    Calls Try.prog 76 #[.slice a l.length cap] w fun e w' => e = .returned (.tuple #[.int .i64 (cntOf l), .int .i64 (errOf (vOk l))]) ∧ Below w.heap.size w w' := by
  have HS : Hid (SegsAt w a l) := hs
  clear hs
  cases hv : vOk l
  · go_enter Try.func76, Try.ntmps76
    go_wp2_with fail
    refine (check_any a l cap _ HS.out hl).mono ?_
    rintro e w1 ⟨rfl, hb1⟩
    rw [show validFrom 0 l = false from hv, show errOf false = 1 from rfl]
    go_wp2_with fail
    go_ret2
    exact ⟨by rw [cntOf, hv]; rfl, hb1⟩
  · have HB : Hid (∀ k, 0 ≤ sumLen (l.take k) ∧ sumLen (l.take k) ≤ 64) := fun k => by have := sumLen_bd l 0 k hv; omega
    have hl' := hl
    unfold maxLen at hl'
    go_enter Try.func76, Try.ntmps76
    go_wp2_with fail
    refine (check_any a l cap _ HS.out hl).mono ?_
    rintro e w1 ⟨rfl, hb1⟩
    rw [show validFrom 0 l = true from hv, show errOf true = 0 from rfl]
    go_wp2_with fail
    go_loopw [5, 15] (fun n i wr => ∃ (k : Nat), k ≤ l.length ∧ i = .int .i64 k ∧ n = .int .i64 (sumLen (l.take k)) ∧ Below w.heap.size w wr)
      (fun _ i _ => l.length - (intOf i).toNat)
    case atStart => exact ⟨0, by omega, rfl, rfl, hb1⟩
    case round =>
      obtain ⟨k, hk, rfl, rfl, hb⟩ := hrel
      by_cases hlt : k < l.length
      · obtain ⟨b, off, rfl, h1, h2⟩ := (HS.out.below hb (Nat.le_refl _)) k hlt
        have HT : Hid (sumLen (l.take (k + 1)) = sumLen (l.take k) + (l.getD k (0, 0)).2) := by
          show _ = _
          rw [take_snocD l (0, 0) k hlt, sumLen_snoc]
        have hb0 := HB.out k
        have hb2 : 0 ≤ sumLen (l.take k) + (l.getD k (0, 0)).2 ∧ sumLen (l.take k) + (l.getD k (0, 0)).2 ≤ 64 := by rw [← HT.out]; exact HB.out (k + 1)
        generalize l.getD k (0, 0) = s at h1 h2 HT hb2
        obtain ⟨x, y⟩ := s
        simp only at h1 h2 HT hb2
        generalize sumLen (l.take k) = q at HT hb0 hb2
        go_wp2_with fail
        go_roundw
        case rel => exact ⟨k + 1, by omega, by go_num, by rw [HT.out], nwA hb _⟩
        case measure => simp [intOf]; omega
      · have hk' : k = l.length := by omega
        subst hk'
        go_wp2_with fail
        go_ret2
        exact ⟨by rw [cntOf, hv, List.take_length]; rfl, hb⟩

end Go.Proofs.Ytheomnafmjmpdaa

/- seg.List, seg.Of by their contracts. -/
namespace Go.Proofs.Ytheomnafmjmpdaa
open Go.RowKit

/-- the numbers from x on, n of them -/
def ups (x : Int) (n : Nat) : List Int := (List.range n).map fun (i : Nat) => x + (i : Int)
theorem ups_snoc (x : Int) (n : Nat) : ups x (n + 1) = ups x n ++ [x + n] := by simp [ups, List.range_succ]
def listOf : List (Int × Int) → List Int
  | [] => []
  | s :: r => ups s.1 s.2.toNat ++ listOf r
theorem listOf_snoc (l : List (Int × Int)) (s : Int × Int) : listOf (l ++ [s]) = listOf l ++ ups s.1 s.2.toNat := by
  induction l with
  | nil => simp [listOf]
  | cons a r ih => simp [listOf, ih]
theorem listOf_len (l : List (Int × Int)) : ∀ m, validFrom m l = true → ((listOf l).length : Int) = sumLen l := by
  induction l with
  | nil => intro m _; rfl
  | cons s r ih =>
    intro m h
    simp only [validFrom, Bool.and_eq_true] at h
    have hm := mayB_of h.1.1
    have := ih _ h.2
    simp only [listOf, sumLen, List.length_append, ups, List.length_map, List.length_range]
    omega
theorem valid_take : ∀ (l : List (Int × Int)) (m : Int) (k : Nat), validFrom m l = true → validFrom m (l.take k) = true
  | [], _, _, _ => by simp [validFrom]
  | s :: r, m, 0, _ => by simp [validFrom]
  | s :: r, m, k + 1, h => by
    simp only [validFrom, Bool.and_eq_true, List.take_succ_cons] at h ⊢
    exact ⟨h.1, valid_take r _ k h.2⟩
theorem listOf_bd (l : List (Int × Int)) (k : Nat) (h : vOk l = true) : (listOf (l.take k)).length ≤ 64 := by
  have h1 := listOf_len (l.take k) 0 (valid_take l 0 k h)
  have h2 := sumLen_bd l 0 k h
  omega

theorem Try.info3 : (Try.prog.info? 3).map (fun i => (i.zero, i.size, i.bytes)) = some (some (.int .i64 0), 1, 8) := by kernel_rfl

def OwnInts (w : World) (base : Nat) (v : Value) (l : List Int) : Prop := w.ownsRow base 3 1 v l.length (l.map (Value.int .i64))
theorem OwnInts.below {w w' : World} {base : Nat} {v : Value} {l : List Int} (h : OwnInts w base v l) (hb : Below w.heap.size w w') : OwnInts w' base v l :=
  h.kept (gbOf hb none) (by cases hv : v.ownBlock <;> simp)
def numsOf (l : List (Int × Int)) : List Int := if vOk l then listOf l else []

theorem OwnInts.snoc {w : World} {base : Nat} {v : Value} {l : List Int} {x : Int} (h : w.ownsRow base 3 1 v (l.length + 1) (l.map (Value.int .i64) ++ [.int .i64 x])) : OwnInts w base v (l ++ [x]) := by
  unfold OwnInts
  have e : (l ++ [x]).length = l.length + 1 := by simp
  rw [e, List.map_append]
  exact h

theorem own_ne_box {w : World} {base g n : Nat} {v x y : Value} {xs : List Value} (h : w.ownsRow base 3 1 v n xs) (hb : w.heap[g]? = some (.cells #[x, y] 129 (0, 0))) : v.ownBlock ≠ some g := by
  intro e
  rcases h.2 with ⟨rfl, _⟩ | ⟨r, cap, cur, rfl, _, hg, _⟩
  · simp [Value.ownBlock] at e
  · simp [Value.ownBlock] at e
    subst e
    rw [hg] at hb
    simp at hb

theorem cell_one (w : World) (x : Value) (t : TypeId) : ∀ j u, [x][j]? = some u → (w.alloc (.cells #[x] t)).cell? ((⟨w.heap.size, 0, none⟩ : Addr).add j) = some u := by
  intro j u hu
  match j, hu with
  | 0, hu => simp at hu; subst hu; simp [Addr.add]

end Go.Proofs.Ytheomnafmjmpdaa

/- seg.Of by its contract. -/
namespace Go.Proofs.Ytheomnafmjmpdaa
open Go.RowKit

def IntsAt (w : World) (a : Option Addr) (l : List Int) : Prop :=
  ∀ i, i < l.length → ∃ b off, a = some ⟨b, off, none⟩ ∧ w.cell? ⟨b, off + i, none⟩ = some (.int .i64 (l.getD i 0))

theorem IntsAt.below {w w' : World} {a : Option Addr} {l : List Int} (h : IntsAt w a l) {B : Nat} (hb : Below B w w') (hB : w.heap.size ≤ B) : IntsAt w' a l := by
  intro i hi
  obtain ⟨b, off, ha, h1⟩ := h i hi
  have hlt : b < w.heap.size := block_lt_of_cell h1
  exact ⟨b, off, ha, (hb.cell (p := ⟨b, _, none⟩) (by show b < B; omega)).trans h1⟩

theorem OwnInts.at {w : World} {base : Nat} {v : Value} {l : List Int} (h : OwnInts w base v l) : ∃ a cap, v = .slice a l.length cap ∧ IntsAt w a l := by
  have hh := h
  rcases h.2 with ⟨hv, hn⟩ | ⟨g, cap, cur, hv, hb, hg, _⟩
  · refine ⟨none, 0, by rw [hv, hn], fun i hi => by omega⟩
  · refine ⟨_, cap, hv, fun i hi => ⟨g, 0, rfl, ?_⟩⟩
    have := hh.cells (g := g) (by rw [hv]; rfl) i (.int .i64 (l.getD i 0)) (by simp [hi])
    rw [show (⟨g, 0, none⟩ : Addr).add i = ⟨g, 0 + i, none⟩ from by unfold Addr.add; split <;> simp_all] at this
    exact this

def allIn (ns : List Int) : Bool := ns.all fun z => mayB z 1
def memI (ns : List Int) (k : Nat) : Bool := ns.any fun z => decide (z = k)
def ofSet (ns : List Int) : List (Int × Int) := if allIn ns then segsOf (memI ns) else []

theorem allIn_take (ns : List Int) (i : Nat) (h : i < ns.length) : allIn (ns.take (i + 1)) = (allIn (ns.take i) && mayB (ns.getD i 0) 1) := by
  rw [take_snocD ns 0 i h]; simp [allIn]
theorem memI_take (ns : List Int) (i k : Nat) (h : i < ns.length) : memI (ns.take (i + 1)) k = (memI (ns.take i) k || decide (ns.getD i 0 = k)) := by
  rw [take_snocD ns 0 i h]; simp [memI]
theorem allIn_false {ns : List Int} (i : Nat) (h : i < ns.length) (hv : mayB (ns.getD i 0) 1 = false) : allIn ns = false := by
  rw [allIn, List.all_eq_false]
  exact ⟨ns.getD i 0, by simp [h], by rw [hv]; simp⟩

end Go.Proofs.Ytheomnafmjmpdaa
