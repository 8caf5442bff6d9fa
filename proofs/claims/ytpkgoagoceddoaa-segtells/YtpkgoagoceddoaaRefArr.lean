/- The reference's arrays of 64 bools by value; CopySegs; the spoiling of an answer. -/
import Derived.Test.YtpkgoagoceddoaaRefSegs
namespace Go.Proofs.Ytpkgoagoceddoaa
open Go.RowKit

def SetJ (w : World) (g : Nat) (s : Nat → Bool) : Prop := w.rowIs g 50 64 (setRow s)

theorem SetJ.row {w : World} {g : Nat} {s : Nat → Bool} (h : SetJ w g s) : w.heap[g]? = some (.cells (setArr s) 50 (0, 0)) := by
  obtain ⟨c, hb, hn, hc⟩ := h
  have e : c = setArr s := by
    apply Array.ext_getElem?
    intro i
    by_cases hi : i < 64
    · rw [hc i hi, setArr_get s i hi]; rfl
    · rw [Array.getElem?_eq_none (by omega), Array.getElem?_eq_none (by rw [setArr_size]; omega)]
  rw [hb, e]
theorem SetJ.of {w : World} {g : Nat} {s : Nat → Bool} (h : w.heap[g]? = some (.cells (setArr s) 50 (0, 0))) : SetJ w g s :=
  ⟨_, h, setArr_size s, fun i hi => setArr_get s i hi⟩
theorem SetJ.below {w w' : World} {g : Nat} {s : Nat → Bool} (h : SetJ w g s) (hb : Below w.heap.size w w') : SetJ w' g s := h.of_block (hb.block g h.lt)
theorem SetJ.setRow {w : World} {g : Nat} {s0 s : Nat → Bool} (h : SetJ w g s0) : SetJ (w.setRow g (setArr s)) g s := SetJ.of (setRow_heap w g _ _ 50 _ h.row)
theorem SetJ.rowApart {w : World} {g b : Nat} {s s' : Nat → Bool} (h : SetJ w g s) (hn : g ≠ b) : SetJ (w.setRow b (setArr s')) g s := h.of_block (Go.setRow_other w b g _ hn)
theorem SetJ.grown {w w' : World} {g b : Nat} {s : Nat → Bool} (h : SetJ w g s) (hg : w.grownBy w' (some b)) (hn : g ≠ b) : SetJ w' g s := h.of_block (hg.block g h.lt (fun e => hn (Option.some.inj e)))
theorem SetJ.new (w : World) (s : Nat → Bool) : SetJ (w.alloc (.cells (setArr s) 50)) w.heap.size s := SetJ.of (heap_alloc_new _ _)

theorem Try.size50 : (Try.prog.info? 50).map (·.size) = some 64 := by kernel_rfl

section
variable {ops : Array Oper} {rest : List Oper} {o : Oper} {a : Act} {w : World} {Q : Exit → Act → World → Prop}

theorem wpList_alloc50 (hgd : o.guard = none) (ho : o.op = .alloc 50)
    (h : wpList Try.prog ops Q rest (a.put o.dst (.pointer (some ⟨w.heap.size, 0, none⟩))) (w.alloc (.cells (setArr fun _ => false) 50))) : wpList Try.prog ops Q (o :: rest) a w := by
  refine wpList_plain hgd fun K hK => ?_
  unfold Oper.wp
  simp [execOp, ho, Instr.alloc, Sem.run_bind, newVar, Value.cells]
  exact hK _ _ h

theorem wpList_store50 (hgd : o.guard = none) (x y : Operand) (ho : o.op = .store 50 x y) (g : Nat) (s s0 : Nat → Bool) (hx : a.eval x = .pointer (some ⟨g, 0, none⟩)) (hy : a.eval y = .agg (setArr s))
    (hg : SetJ w g s0) (h : wpList Try.prog ops Q rest (a.put o.dst undef) (w.setRow g (setArr s))) : wpList Try.prog ops Q (o :: rest) a w := by
  refine wpList_plain hgd fun K hK => ?_
  have hr := run_storeVar_row (P := Try.prog) w g 50 50 _ (setArr s) hg.row (by rw [setArr_size]; exact Try.size50) (by rw [setArr_size, setArr_size]) (setArr_one s)
  unfold Oper.wp execOp
  simp only [ho, hx, hy, Instr.storeAt, Instr.sureAddr, Sem.run_bind, Sem.run_pure, Result.andThen_ok, hr]
  exact hK _ _ h

theorem wpList_load50 (hgd : o.guard = none) (x : Operand) (ho : o.op = .load 50 x) (g : Nat) (s : Nat → Bool) (hx : a.eval x = .pointer (some ⟨g, 0, none⟩))
    (hg : SetJ w g s) (h : wpList Try.prog ops Q rest (a.put o.dst (.agg (setArr s))) w) : wpList Try.prog ops Q (o :: rest) a w :=
  wpList_load_row hgd 50 x ho g hx 50 (setArr s) (0, 0) _ hg.row Try.underlying50 rfl (by rw [setArr_size]; exact Try.size50) h

theorem stop_store50 {x y : Operand} (_ : o.op = .store 50 x y) (h : Stop (wpList Try.prog ops Q (o :: rest) a w)) : wpList Try.prog ops Q (o :: rest) a w := h
theorem stop_load50 {x : Operand} (_ : o.op = .load 50 x) (h : Stop (wpList Try.prog ops Q (o :: rest) a w)) : wpList Try.prog ops Q (o :: rest) a w := h
end

theorem results_setj {fn : Func} {p : Tmp} (h : fn.results = #[.cell p 50]) (tmps : Array Value) (w : World) (g : Nat) (s : Nat → Bool)
    (hp : tmps.getD p undef = .pointer (some ⟨g, 0, none⟩)) (hg : SetJ w g s) : (results fn tmps).run Try.prog w = .ok (.agg (setArr s)) w :=
  results_cell_row h tmps w g 50 (setArr s) (0, 0) _ hp hg.row Try.underlying50 rfl (by rw [setArr_size]; exact Try.size50)

theorem OwnSegs.snoc {w : World} {base : Nat} {v : Value} {l : List (Int × Int)} {x y : Int} (h : w.ownsRow base 57 2 v (l.length + 1) (flat l ++ [.int .i64 x, .int .i64 y])) : OwnSegs w base v (l ++ [(x, y)]) := by
  unfold OwnSegs
  have e : (l ++ [(x, y)]).length = l.length + 1 := by simp
  rw [e, flat_snoc]
  exact h

theorem cell_two' (w : World) (x y : Value) (t : TypeId) : ∀ j u, [x, y][j]? = some u → (w.alloc (.cells #[x, y] t)).cell? ((⟨w.heap.size, 0, none⟩ : Addr).add j) = some u := by
  intro j u hu
  match j, hu with
  | 0, hu => simp at hu; subst hu; simp [Addr.add]
  | 1, hu => simp at hu; subst hu; simp [Addr.add]

set_option maxHeartbeats 400000 in
theorem copySegs_any (a : Option Addr) (l : List (Int × Int)) (cap : Nat) (w : World) (hs : SegsAt w a l) (hl : l.length ≤ 500) :
    Calls Try.prog 9 #[.slice a l.length cap] w fun e w' => ∃ v, e = .returned v ∧ OwnSegs w' w.heap.size v l ∧ Below w.heap.size w w' := by
  obtain ⟨i0, hi, hz0, hz1, hz2⟩ := info_parts Try.info57
  have HS : Hid (SegsAt w a l) := hs
  clear hs
  go_enter Try.func9, Try.ntmps9
  go_wp2_with fail
  go_loopw [3, 4] (fun v i wr => ∃ (k : Nat), k ≤ l.length ∧ i = .int .i64 k ∧ OwnSegs wr w.heap.size v (l.take k) ∧ Below w.heap.size w wr)
    (fun _ i _ => l.length - (intOf i).toNat)
  case atStart => exact ⟨0, by omega, rfl, World.ownsRow_nil _ _ _ _, nwR w⟩
  case round =>
    obtain ⟨k, hk, rfl, hO, hb⟩ := hrel
    have HO : Hid (OwnSegs wr w.heap.size u3 (l.take k)) := hO
    clear hO
    by_cases hlt : k < l.length
    · obtain ⟨b, off, rfl, h1, h2⟩ := (HS.out.below hb (Nat.le_refl _)) k hlt
      have HT : Hid (l.take (k + 1) = l.take k ++ [l.getD k (0, 0)]) := take_snocD l (0, 0) k hlt
      have HL : Hid ((l.take k).length ≤ 500) := by show _ ≤ 500; rw [List.length_take]; omega
      generalize l.getD k (0, 0) = s at h1 h2 HT
      obtain ⟨x, y⟩ := s
      simp only at h1 h2
      generalize l.take k = L at HO HT HL
      have hsz : w.heap.size ≤ (wr.alloc (.cells #[.int .i64 x, .int .i64 y] 57)).heap.size := (nwA hb _).size
      have hc3 : L.length + 1 ≤ maxLen := by unfold maxLen; have := HL.out; omega
      have hc4 : (L.length + 1) * 16 ≤ 140737488355328 := by have := HL.out; omega
      go_wp2_with (at_builtin; refine wpList_append_own _ rfl (.tmp 11) (.tmp 16) 27 rfl w.heap.size 57 i0 (.agg #[.int .i64 0, .int .i64 0]) 2 16 Try.underlying27 hi hz0 hz1 hz2 rfl (by decide) u3 L.length (flat L) rfl (World.ownsRow.alloc HO.out _) ⟨wr.heap.size, 0, none⟩ 1 1 [.int .i64 x, .int .i64 y] rfl rfl (cell_two' _ _ _ _) (by simp [Value.oneCell']) hc3 hc4 hsz ?_; intro v' w3 hown hgrow _)
      have HB3 : Hid (Below w.heap.size w w3) := (nwA hb _).grown hgrow (nwA hb _).size (fun q e => (HO.out.lt q e).1)
      have HO3 : Hid (OwnSegs w3 w.heap.size v' (l.take (k + 1))) := by rw [HT.out]; exact OwnSegs.snoc hown
      clear hown hgrow
      go_roundw
      case rel => exact ⟨k + 1, by omega, by go_num, HO3.out, HB3.out⟩
      case measure => simp [intOf]; omega
    · have hk' : k = l.length := by omega
      subst hk'
      rw [List.take_length] at HO
      go_wp2_with fail
      go_ret
      exact ⟨_, rfl, HO.out, hb⟩

set_option maxHeartbeats 400000 in
theorem spoil_any (base : Nat) (v : Value) (l : List (Int × Int)) (w : World) (ho : OwnSegs w base v l) (hl : l.length ≤ maxLen) :
    Calls Try.prog 25 #[v] w fun e w' => e = .returned (.tuple #[]) ∧ w.grownBy w' v.ownBlock := by
  have ho2 := ho
  unfold maxLen at hl
  rcases ho.2 with ⟨rfl, hn⟩ | ⟨g, cap, cur, rfl, hbg, _, _⟩
  · go_enter Try.func25, Try.ntmps25
    go_wp2_with fail
    go_loopw [2] (fun i wr => i = .int .i64 0 ∧ wr = w) (fun _ _ => 0)
    case atStart => exact ⟨rfl, rfl⟩
    case round =>
      obtain ⟨rfl, rfl⟩ := hrel
      go_wp2_with fail
      go_end0
      exact ⟨rfl, gbRefl _ _⟩
  · have HO : Hid (OwnSegs w base (.slice (some ⟨g, 0, none⟩) l.length cap) l) := ho2
    clear ho ho2
    show Calls _ _ _ _ fun e w' => e = .returned (.tuple #[]) ∧ w.grownBy w' (some g)
    go_enter Try.func25, Try.ntmps25
    go_wp2_with fail
    go_loopw [2] (fun i wr => ∃ (k : Nat), k ≤ l.length ∧ i = .int .i64 k ∧ (∃ xs, wr.ownsRow base 57 2 (.slice (some ⟨g, 0, none⟩) l.length cap) l.length xs) ∧ w.grownBy wr (some g))
      (fun i _ => l.length - (intOf i).toNat)
    case atStart => exact ⟨0, by omega, rfl, ⟨_, HO.out⟩, gbRefl _ _⟩
    case round =>
      obtain ⟨k, hk, rfl, ⟨xs, hx⟩, hbq⟩ := hrel
      by_cases hlt : k < l.length
      · have hxl : xs.length = l.length * 2 := hx.1
        have q0 := hx.cellAt (k * 2) (by omega)
        have q1 := hx.cellAt (k * 2 + 1) (by omega)
        have f0 := hx.frozenAt (k * 2)
        have f1 := hx.frozenAt (k * 2 + 1)
        obtain ⟨z0, hz0⟩ : ∃ z, xs[k * 2]? = some z := ⟨_, List.getElem?_eq_getElem (by omega)⟩
        obtain ⟨z1, hz1⟩ : ∃ z, xs[k * 2 + 1]? = some z := ⟨_, List.getElem?_eq_getElem (by omega)⟩
        rw [hz0] at q0
        rw [hz1] at q1
        have HX : Hid (wr.ownsRow base 57 2 (.slice (some ⟨g, 0, none⟩) l.length cap) l.length xs) := hx
        clear hx hz0 hz1 hxl
        have S1 := HX.out.stored (k * 2) (.int .i64 (-9))
        have S2 := S1.1.stored (k * 2 + 1) (.int .i64 0)
        have HS : Hid (∃ ys, ((wr.setCell ⟨g, k * 2, none⟩ (.int .i64 (-9))).setCell ⟨g, k * 2 + 1, none⟩ (.int .i64 0)).ownsRow base 57 2 (.slice (some ⟨g, 0, none⟩) l.length cap) l.length ys) := ⟨_, S2.1⟩
        have HB : Hid (w.grownBy ((wr.setCell ⟨g, k * 2, none⟩ (.int .i64 (-9))).setCell ⟨g, k * 2 + 1, none⟩ (.int .i64 0)) (some g)) := gbTrans (gbTrans hbq S1.2) S2.2
        clear S1 S2
        go_wp2_with fail
        go_roundw
        case rel => exact ⟨k + 1, by omega, by go_num, HS.out, HB.out⟩
        case measure => simp [intOf]; omega
      · go_wp2_with fail
        go_end0
        exact ⟨rfl, hbq⟩

theorem OwnSegs.grown {w w' : World} {base : Nat} {v u : Value} {l : List (Int × Int)} (h : OwnSegs w base v l) (hg : w.grownBy w' u.ownBlock) (hu : ∀ k, u.ownBlock = some k → k < base) : OwnSegs w' base v l := by
  refine World.ownsRow.kept h hg ?_
  cases hv : v.ownBlock with
  | none => exact Or.inl rfl
  | some g =>
    right
    intro e
    have h1 := (h.lt g hv).1
    have h2 := hu g e.symm
    omega

end Go.Proofs.Ytpkgoagoceddoaa
