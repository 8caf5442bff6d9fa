/- Laid together: Leaf, Check, Set, Build, Pick, Arr, Gather, Join, Eq, Heavy, Wakes. -/
import Derived.Test.YtheomnafmjmpdaaProg
import Derived.WalkKit
import Derived.WalkSpells
import Derived.WalkLawsBesides
import Derived.Deep.OwnRows
import Derived.Deep.RegionLaw
import Derived.Deep.QuietTactic
import Derived.BigQuiet
import Derived.WalkSmall
/- The small methods of package seg, each by its contract. -/
namespace Go.Proofs.Ytheomnafmjmpdaa
open Go.RowKit

theorem nwT {a b c : World} (h : Below a.heap.size a b) (k : Below b.heap.size b c) : Below a.heap.size a c := h.trans (k.mono h.size)
theorem nwA {a w : World} (h : Below a.heap.size a w) (o : Obj) : Below a.heap.size a (w.alloc o) := h.alloc h.size o
theorem nwR (a : World) : Below a.heap.size a a := Below.refl _ _

def mayB (a n : Int) : Bool := decide (0 ≤ a) && decide (a < 64) && decide (1 ≤ n) && decide (n ≤ 64 - a)

set_option maxRecDepth 100000 in
set_option maxHeartbeats 400000 in
theorem end_any (a n : Int) (w : World) (h0 : 0 ≤ a) (h1 : a ≤ 64) (h2 : 0 ≤ n) (h3 : n ≤ 64) :
    Calls Try.prog 93 #[.agg #[.int .i64 a, .int .i64 n]] w fun e w' => e = .returned (.int .i64 (a + n)) ∧ Below w.heap.size w w' := by
  go_enter Try.func93, Try.ntmps93
  go_wp2
  go_ret
  exact ⟨rfl, (Below.refl _ _).alloc (Nat.le_refl _) _⟩

set_option maxRecDepth 100000 in
set_option maxHeartbeats 400000 in
theorem mayBe_any (a n : Int) (w : World) :
    Calls Try.prog 92 #[.agg #[.int .i64 a, .int .i64 n]] w fun e w' => e = .returned (.bool (mayB a n)) ∧ Below w.heap.size w w' := by
  unfold mayB
  by_cases h0 : 0 ≤ a
  · by_cases h1 : a < 64
    · by_cases h2 : 1 ≤ n
      · by_cases h3 : n ≤ 64 - a
        all_goals
          go_enter Try.func92, Try.ntmps92
          go_wp2
          go_ret
          exact ⟨(by simp [*] <;> omega), (Below.refl _ _).alloc (Nat.le_refl _) _⟩
      · go_enter Try.func92, Try.ntmps92
        go_wp2
        go_ret
        exact ⟨(by simp [*] <;> omega), (Below.refl _ _).alloc (Nat.le_refl _) _⟩
    · go_enter Try.func92, Try.ntmps92
      go_wp2
      go_ret
      exact ⟨(by simp [*] <;> omega), (Below.refl _ _).alloc (Nat.le_refl _) _⟩
  · go_enter Try.func92, Try.ntmps92
    go_wp2
    go_ret
    exact ⟨(by simp [*] <;> omega), (Below.refl _ _).alloc (Nat.le_refl _) _⟩

end Go.Proofs.Ytheomnafmjmpdaa

/- seg.Check by its contract. -/
namespace Go.Proofs.Ytheomnafmjmpdaa
open Go.RowKit

def validFrom (least : Int) : List (Int × Int) → Bool
  | [] => true
  | s :: r => mayB s.1 s.2 && !decide (s.1 < least) && validFrom (s.1 + s.2 + 1) r

def SegsAt (w : World) (a : Option Addr) (l : List (Int × Int)) : Prop :=
  ∀ i, i < l.length → ∃ b off, a = some ⟨b, off, none⟩ ∧ w.cell? ⟨b, off + i * 2, none⟩ = some (.int .i64 (l.getD i (0, 0)).1) ∧
    w.cell? ⟨b, off + i * 2 + 1, none⟩ = some (.int .i64 (l.getD i (0, 0)).2)

theorem SegsAt.below {w w' : World} {a : Option Addr} {l : List (Int × Int)} (h : SegsAt w a l) {B : Nat} (hb : Below B w w') (hB : w.heap.size ≤ B) : SegsAt w' a l := by
  intro i hi
  obtain ⟨b, off, ha, h1, h2⟩ := h i hi
  have hlt : b < w.heap.size := block_lt_of_cell h1
  exact ⟨b, off, ha, (hb.cell (p := ⟨b, _, none⟩) (by show b < B; omega)).trans h1, (hb.cell (p := ⟨b, _, none⟩) (by show b < B; omega)).trans h2⟩

theorem drop_getD {l : List (Int × Int)} {k : Nat} (h : k < l.length) : l.drop k = l.getD k (0, 0) :: l.drop (k + 1) := by
  rw [List.drop_eq_getElem_cons h]; simp [h]

theorem mayB_of {x y : Int} (h : mayB x y = true) : 0 ≤ x ∧ x < 64 ∧ 1 ≤ y ∧ y ≤ 64 - x := by
  simpa [mayB, and_assoc] using h

theorem bcell {W w1 : World} (hb : Below W.heap.size W w1) : (∀ b o, b < W.heap.size → w1.cell? ⟨b, o, none⟩ = W.cell? ⟨b, o, none⟩) ∧ (∀ b o, b < W.heap.size → w1.frozen? ⟨b, o, none⟩ = W.frozen? ⟨b, o, none⟩) :=
  ⟨fun b o h => hb.cell (p := ⟨b, o, none⟩) h, fun b o h => hb.frozen (p := ⟨b, o, none⟩) h⟩

def errOf (b : Bool) : Int := if b then 0 else 1

set_option maxRecDepth 100000 in
set_option maxHeartbeats 400000 in
theorem check_any (a : Option Addr) (l : List (Int × Int)) (cap : Nat) (w : World) (hs : SegsAt w a l) (hl : l.length ≤ maxLen) :
    Calls Try.prog 85 #[.slice a l.length cap] w fun e w' => e = .returned (.int .i64 (errOf (validFrom 0 l))) ∧ Below w.heap.size w w' := by
  unfold maxLen at hl
  go_enter Try.func85, Try.ntmps85
  go_wp2
  go_loopw [3, 9] (fun t i wr => ∃ (k : Nat) (m : Int), k ≤ l.length ∧ i = .int .i64 k ∧ t = .int .i64 m ∧ 0 ≤ m ∧ m ≤ 65 ∧ Hid (validFrom 0 l = validFrom m (l.drop k)) ∧ Below w.heap.size w wr)
    (fun _ i _ => l.length - (intOf i).toNat)
  case atStart => exact ⟨0, 0, Nat.zero_le _, rfl, rfl, by omega, by omega, rfl, Below.refl _ _⟩
  case round =>
    obtain ⟨k, m, hk, rfl, rfl, hm0, hm1, HV, hb⟩ := hrel
    by_cases hlt : k < l.length
    · have hs' := hs.below hb (Nat.le_refl _)
      obtain ⟨b, off, rfl, h1, h2⟩ := hs' k hlt
      have HD : Hid (l.drop k = l.getD k (0, 0) :: l.drop (k + 1)) := drop_getD hlt
      clear hs hs'
      generalize hq : l.getD k (0, 0) = s at h1 h2 HD
      clear hq
      obtain ⟨x, y⟩ := s
      cases hm : mayB x y
      · have HF : Hid (validFrom 0 l = false) := by
          show validFrom 0 l = false
          rw [HV.out, HD.out]; simp [validFrom, hm]
        go_wp2_with fail
        refine (mayBe_any _ _ _).mono ?_
        rintro e w1 ⟨rfl, hb1⟩
        rw [hm]
        obtain ⟨hc, hf⟩ := bcell hb1
        go_wp2_with fail
        go_ret
        exact ⟨by rw [HF.out]; rfl, nwT (nwA (nwA hb _) _) hb1⟩
      · obtain ⟨m0, m1, m2, m3⟩ := mayB_of hm
        by_cases hx : x < m
        · have HF : Hid (validFrom 0 l = false) := by
            show validFrom 0 l = false
            rw [HV.out, HD.out]; simp [validFrom, hx]
          go_wp2_with fail
          refine (mayBe_any _ _ _).mono ?_
          rintro e w1 ⟨rfl, hb1⟩
          rw [hm]
          obtain ⟨hc, hf⟩ := bcell hb1
          go_wp2_with fail
          go_ret
          exact ⟨by rw [HF.out]; rfl, nwT (nwA (nwA hb _) _) hb1⟩
        · have HN : Hid (validFrom 0 l = validFrom (x + y + 1) (l.drop (k + 1))) := by
            show validFrom 0 l = _
            rw [HV.out, HD.out]; simp [validFrom, hm]; omega
          go_wp2_with fail
          refine (mayBe_any _ _ _).mono ?_
          rintro e w1 ⟨rfl, hb1⟩
          rw [hm]
          obtain ⟨hc, hf⟩ := bcell hb1
          go_wp2_with fail
          refine (end_any _ _ _ (by omega) (by omega) (by omega) (by omega)).mono ?_
          rintro e w2 ⟨rfl, hb2⟩
          go_wp2_with fail
          go_roundw
          case rel => exact ⟨k + 1, x + y + 1, by omega, by go_num, by go_num, by omega, by omega, HN, nwT (nwT (nwA (nwA hb _) _) hb1) hb2⟩
          case measure => simp [intOf]; omega
    · have hkl : k = l.length := by omega
      have HF : Hid (validFrom 0 l = true) := by
        show validFrom 0 l = true
        rw [HV.out, List.drop_of_length_le (by omega)]; rfl
      go_wp2
      go_ret
      exact ⟨by rw [HF.out]; rfl, hb⟩

end Go.Proofs.Ytheomnafmjmpdaa

/- The methods of seg's set, by their contracts. -/
namespace Go.Proofs.Ytheomnafmjmpdaa
open Go.RowKit

def setRow (s : Nat → Bool) : Nat → Value := fun k => .bool (s k)
def SetIs (w : World) (g : Nat) (s : Nat → Bool) : Prop := w.rowIs g 116 64 (setRow s)

theorem gbRefl (w : World) (r : Option Nat) : w.grownBy w r := ⟨rfl, rfl, rfl, Nat.le_refl _, fun _ _ _ => rfl⟩
theorem gbTrans {a b c : World} {r : Option Nat} (h : a.grownBy b r) (k : b.grownBy c r) : a.grownBy c r :=
  ⟨k.os.trans h.os, k.tape.trans h.tape, k.output.trans h.output, Nat.le_trans h.size k.size, fun i hi hn => (k.block i (Nat.lt_of_lt_of_le hi h.size) hn).trans (h.block i hi hn)⟩
theorem gbOf {a b : World} (h : Below a.heap.size a b) (r : Option Nat) : a.grownBy b r := ⟨h.os, h.tape, h.output, h.size, fun i hi _ => h.block i hi⟩
theorem gbSet (w : World) (g o : Nat) (v : Value) : w.grownBy (w.setCell ⟨g, o, none⟩ v) (some g) :=
  ⟨rfl, rfl, rfl, by simp [World.setCell], fun i _ hn => Below.heap_setCell _ _ _ _ (fun e => hn (by rw [e]))⟩
theorem gbCell {w w' : World} {g b o : Nat} (h : w.grownBy w' (some g)) (hb : b < w.heap.size) (hn : b ≠ g) : w'.cell? ⟨b, o, none⟩ = w.cell? ⟨b, o, none⟩ :=
  World.cell?_of_block (w := w) (h.block b hb (fun e => hn (Option.some.inj e)))

theorem SetIs.below {w w' : World} {g : Nat} {s : Nat → Bool} (h : SetIs w g s) (hb : Below w.heap.size w w') : SetIs w' g s := h.of_block (hb.block g h.lt)

set_option maxRecDepth 100000 in
set_option maxHeartbeats 400000 in
theorem setHas_any (g : Nat) (s : Nat → Bool) (n : Nat) (w : World) (hs : SetIs w g s) (hn : n < 64) :
    Calls Try.prog 82 #[.pointer (some ⟨g, 0, none⟩), .int .i64 n] w fun e w' => e = .returned (.bool (s n)) ∧ w' = w := by
  have hc := hs.cell hn
  simp only [setRow] at hc
  go_enter Try.func82, Try.ntmps82
  go_wp2
  go_ret
  exact ⟨rfl, rfl⟩

theorem SetIs.step {w : World} {g : Nat} {s : Nat → Bool} {x : Int} {k : Nat} (h : SetIs w g fun j => s j || decide (x ≤ j ∧ (j : Int) < k)) (hx : x ≤ k) :
    SetIs (w.setCell ⟨g, k, none⟩ (.bool true)) g fun j => s j || decide (x ≤ j ∧ (j : Int) < (k + 1 : Nat)) := by
  refine (World.rowIs.set h k (.bool true)).congr fun j _ => ?_
  simp only [setRow]
  by_cases e : j = k
  · subst e; simp [hx]; omega
  · rw [if_neg e]
    congr 2
    simp only [decide_eq_decide]
    omega

set_option maxRecDepth 100000 in
set_option maxHeartbeats 400000 in
theorem setAdd_any (g : Nat) (s : Nat → Bool) (x y : Int) (w : World) (hs : SetIs w g s) (h0 : 0 ≤ x) (h1 : 1 ≤ y) (h2 : x + y ≤ 64) :
    Calls Try.prog 91 #[.pointer (some ⟨g, 0, none⟩), .agg #[.int .i64 x, .int .i64 y]] w fun e w' =>
      e = .returned (.tuple #[]) ∧ SetIs w' g (fun k => s k || decide (x ≤ k ∧ (k : Int) < x + y)) ∧ w.grownBy w' (some g) := by
  have hgl := hs.lt
  go_enter Try.func91, Try.ntmps91
  go_wp2
  go_loopw [4] (fun i wr => ∃ (k : Nat), x ≤ k ∧ k ≤ x + y ∧ i = .int .i64 k ∧ SetIs wr g (fun j => s j || decide (x ≤ j ∧ (j : Int) < k)) ∧ (w.alloc (.cells #[.int .i64 x, .int .i64 y] 129)).grownBy wr (some g))
    (fun i _ => (x + y - intOf i).toNat)
  case atStart =>
    obtain ⟨k, rfl⟩ := Int.eq_ofNat_of_zero_le h0
    exact ⟨k, by omega, by omega, rfl, (hs.alloc _).congr fun j _ => (by simp [setRow]; omega), gbRefl _ _⟩
  case round =>
    obtain ⟨k, hk0, hk1, rfl, hset, hgb⟩ := hrel
    have c0 : wr.cell? ⟨w.heap.size, 0, none⟩ = some (.int .i64 x) := (gbCell hgb (by simp) (by omega)).trans (by simp)
    have c1 : wr.cell? ⟨w.heap.size, 1, none⟩ = some (.int .i64 y) := (gbCell hgb (by simp) (by omega)).trans (by simp)
    by_cases hlt : (k : Int) < x + y
    · go_wp2_with fail
      refine (end_any _ _ _ (by omega) (by omega) (by omega) (by omega)).mono ?_
      rintro e w1 ⟨rfl, hb1⟩
      have hset1 := hset.below hb1
      have hold := hset1.cell (i := k) (by omega)
      have hfr := hset1.frozen k
      have hk64 : k < 64 := by omega
      simp only [setRow] at hold
      go_wp2_with fail
      go_roundw
      case rel => exact ⟨k + 1, by omega, by omega, by go_num, hset1.step hk0, gbTrans (gbTrans hgb (gbOf hb1 _)) (gbSet _ _ _ _)⟩
      case measure => simp [intOf]; omega
    · go_wp2_with fail
      refine (end_any _ _ _ (by omega) (by omega) (by omega) (by omega)).mono ?_
      rintro e w1 ⟨rfl, hb1⟩
      go_wp2_with fail
      go_end0
      exact ⟨rfl, (hset.below hb1).congr fun j _ => (by
        have : (k : Int) = x + y := by omega
        rw [this]), gbTrans (World.grownBy_alloc _ _ _) (gbTrans hgb (gbOf hb1 _))⟩

end Go.Proofs.Ytheomnafmjmpdaa

/- The methods of seg's builder, by their contracts. -/
namespace Go.Proofs.Ytheomnafmjmpdaa
open Go.RowKit

theorem step_append_own {P : Program} {ops : Array Oper} {o : Oper} {a : Act} {w : World} {K : Act → World → Prop} {Q : Exit → Act → World → Prop} {E : Prop}
    (hg : o.guard = none) (s x : Operand) (t : TypeId) (hop : o.op = Op.call { callee := Callee.builtin Builtin.append, args := #[s, x], argTypes := #[t, t] })
    (base : Nat) (e : TypeId) (i : TypeInfo) (z : Value) (size bytes : Nat) (h1 : P.underlying t = some (.slice e)) (h2 : P.info? e = some i) (h3 : i.zero = some z) (h4 : i.size = size) (h5 : i.bytes = bytes) (h6 : z.cells.size = size) (h7 : 0 < size)
    (v : Value) (n : Nat) (xs : List Value) (hs : a.eval s = v) (hown : w.ownsRow base e size v n xs)
    (ad : Addr) (m c : Nat) (news : List Value) (hx : a.eval x = .slice (some ad) m c) (hn : news.length = m * size) (hc : ∀ j u, news[j]? = some u → w.cell? (ad.add j) = some u) (h1c : ∀ u ∈ news, u.oneCell' = true)
    (b1 : n + m ≤ maxLen) (b2 : (n + m) * bytes ≤ 140737488355328) (hbase : base ≤ w.heap.size)
    (hK : ∀ v' w', w'.ownsRow base e size v' (n + m) (xs ++ news) → w.grownBy w' v.ownBlock → K (a.put o.dst v') w') :
    if Region.wanted o (yielded ops a.tmps) = true then Oper.wp P o a w K Q else E := by
  have hw : Region.wanted o (yielded ops a.tmps) = true := by simp [Region.wanted, hg]
  rw [if_pos hw]
  obtain ⟨v', w', hrun, r1, r2, _⟩ := run_append_own (P := P) w base t o.type e i z size bytes h1 h2 h3 h4 h5 h6 h7 v n xs hown ad m c news hn hc h1c b1 b2 hbase
  unfold Oper.wp
  simp [execOp, hop, resolve, invoke, builtin, hs, hx, hrun, Result.andThen]
  exact hK _ _ r1 r2

def flat (d : List (Int × Int)) : List Value := d.flatMap fun s => [.int .i64 s.1, .int .i64 s.2]

theorem Try.info67 : (Try.prog.info? 67).map (fun i => (i.zero, i.size, i.bytes)) = some (some (.agg #[.int .i64 0, .int .i64 0]), 2, 16) := by kernel_rfl

structure BuildIs (w : World) (g : Nat) (d : List (Int × Int)) (a n : Int) (ao : Option Addr) (cap : Nat) : Prop where
  blk : w.heap[g]? = some (.cells #[.int .i64 a, .int .i64 n, .slice ao d.length cap] 131 (0, 0))
  own : w.ownsRow (g + 1) 67 2 (.slice ao d.length cap) d.length (flat d)

theorem cell_two (w : World) (x y : Value) (t : TypeId) : ∀ j u, [x, y][j]? = some u → (w.alloc (.cells #[x, y] t)).drew.cell? ((⟨w.heap.size, 0, none⟩ : Addr).add j) = some u := by
  intro j u hu
  match j, hu with
  | 0, hu => simp at hu; subst hu; simp [Addr.add]
  | 1, hu => simp at hu; subst hu; simp [Addr.add]

theorem own_set_below {w : World} {base : Nat} {e : TypeId} {size : Nat} {v : Value} {n : Nat} {xs : List Value} (h : w.ownsRow base e size v n xs) {g o : Nat} (hg : g < base) (u : Value) :
    (w.setCell ⟨g, o, none⟩ u).ownsRow base e size v n xs := by
  refine ⟨h.1, ?_⟩
  rcases h.2 with hn | ⟨r, cap, cur, rfl, hb, hgg, rest⟩
  · exact .inl hn
  · refine .inr ⟨r, cap, cur, rfl, hb, ?_, rest⟩
    rw [Below.heap_setCell _ _ _ _ (by show r ≠ g; omega)]
    exact hgg

theorem own_not {w : World} {base : Nat} {e : TypeId} {size : Nat} {v : Value} {n : Nat} {xs : List Value} (h : w.ownsRow base e size v n xs) {g : Nat} (hg : g < base) : v.ownBlock ≠ some g := by
  intro e
  have := h.lt g e
  omega

theorem blk_cells {w : World} {g : Nat} {x y z : Value} (h : w.heap[g]? = some (.cells #[x, y, z] 131 (0, 0))) :
    w.cell? ⟨g, 0, none⟩ = some x ∧ w.cell? ⟨g, 1, none⟩ = some y ∧ w.cell? ⟨g, 2, none⟩ = some z ∧ ∀ o, w.frozen? ⟨g, o, none⟩ = false := by
  refine ⟨by simp [World.cell?, h], by simp [World.cell?, h], by simp [World.cell?, h], fun o => by simp [World.frozen?, h]⟩

theorem set3 {w : World} {g : Nat} {x y z x' y' z' : Value} (h : w.heap[g]? = some (.cells #[x, y, z] 131 (0, 0))) :
    (((w.setCell ⟨g, 2, none⟩ z').setCell ⟨g, 0, none⟩ x').setCell ⟨g, 1, none⟩ y').heap[g]? = some (.cells #[x', y', z'] 131 (0, 0)) := by
  have h1 := heap_setCell_same w g 2 _ 131 z' h
  have h2 := heap_setCell_same _ g 0 _ 131 x' h1
  have h3 := heap_setCell_same _ g 1 _ 131 y' h2
  rw [h3]
  simp

theorem flat_snoc (d : List (Int × Int)) (a n : Int) : flat (d ++ [(a, n)]) = flat d ++ [.int .i64 a, .int .i64 n] := by simp [flat]

theorem below_grown {g : Nat} {w w1 : World} {r : Option Nat} (hg : g ≤ w.heap.size) (hgrow : w.grownBy w1 r) (hr : ∀ k, r = some k → g ≤ k) : Below g w w1 := (Below.refl g w).grown hgrow hg hr

theorem below_set3 {g : Nat} {w : World} {x y z : Value} : Below g w (((w.setCell ⟨g, 2, none⟩ z).setCell ⟨g, 0, none⟩ x).setCell ⟨g, 1, none⟩ y) :=
  (((Below.refl g w).setCell (p := ⟨g, 2, none⟩) (Nat.le_refl _) _).setCell (p := ⟨g, 0, none⟩) (Nat.le_refl _) _).setCell (p := ⟨g, 1, none⟩) (Nat.le_refl _) _

/-- behind the append: the builder's block, the value's form -/
theorem app_facts {w w1 : World} {g : Nat} {d : List (Int × Int)} {a n : Int} {ao : Option Addr} {cap : Nat} {v' : Value} {o : Obj}
    (HB : Hid (w.heap[g]? = some (.cells #[.int .i64 a, .int .i64 n, .slice ao d.length cap] 131 (0, 0))))
    (hown : w.ownsRow (g + 1) 67 2 (.slice ao d.length cap) d.length (flat d))
    (hown' : w1.ownsRow (g + 1) 67 2 v' (d.length + 1) (flat d ++ [.int .i64 a, .int .i64 n])) (hgrow0 : (w.alloc o).drew.grownBy w1 (Value.slice ao d.length cap).ownBlock) :
    ∃ b cap', v' = .slice (some ⟨b, 0, none⟩) (d.length + 1) cap' ∧ w1.cell? ⟨g, 0, none⟩ = some (.int .i64 a) ∧ w1.cell? ⟨g, 1, none⟩ = some (.int .i64 n) ∧
      w1.cell? ⟨g, 2, none⟩ = some (.slice ao d.length cap) ∧ (∀ o, w1.frozen? ⟨g, o, none⟩ = false) ∧
      Hid (∀ wz, wz = ((w1.setCell ⟨g, 2, none⟩ (.slice (some ⟨b, 0, none⟩) (d.length + 1) cap')).setCell ⟨g, 0, none⟩ (.int .i64 0)).setCell ⟨g, 1, none⟩ (.int .i64 0) →
        BuildIs wz g (d ++ [(a, n)]) 0 0 (some ⟨b, 0, none⟩) cap' ∧ Below g w wz) := by
  have hblk := HB.out
  have hgrow : (w.alloc o).grownBy w1 (Value.slice ao d.length cap).ownBlock := ⟨hgrow0.os, hgrow0.tape, hgrow0.output, hgrow0.size, hgrow0.block⟩
  have hgl : g < w.heap.size := (Array.getElem?_eq_some_iff.1 hblk).1
  have hne := own_not hown (Nat.lt_succ_self g)
  have hb1 : w1.heap[g]? = some (.cells #[.int .i64 a, .int .i64 n, .slice ao d.length cap] 131 (0, 0)) := by
    rw [hgrow.block g (by simp; omega) (fun e => hne e.symm), Below.heap_alloc _ _ _ hgl]; exact hblk
  obtain ⟨q0, q1, q2, qf⟩ := blk_cells hb1
  rcases hown'.2 with ⟨_, h0⟩ | ⟨b, cap', _, hv, _⟩
  · omega
  · subst hv
    refine ⟨b, cap', rfl, q0, q1, q2, qf, ?_⟩
    intro wz hwz
    subst hwz
    refine ⟨⟨?_, ?_⟩, ?_⟩
    · rw [set3 hb1]; simp
    · have hl : (d ++ [(a, n)]).length = d.length + 1 := by simp
      rw [hl, flat_snoc]
      exact own_set_below (own_set_below (own_set_below hown' (by omega) _) (by omega) _) (by omega) _
    · refine Below.trans (below_grown (Nat.le_of_lt hgl) (gbTrans (World.grownBy_alloc w o _) hgrow) ?_) below_set3
      intro k hk
      have := hown.lt k hk
      omega

set_option maxRecDepth 100000 in
set_option maxHeartbeats 400000 in
theorem finish_yes (g : Nat) (d : List (Int × Int)) (a n : Int) (ao : Option Addr) (cap : Nat) (w : World) (hb : BuildIs w g d a n ao cap) (hn : 0 < n) (hd : d.length ≤ 64) :
    Calls Try.prog 89 #[.pointer (some ⟨g, 0, none⟩)] w fun e w' =>
      e = .returned (.tuple #[]) ∧ (∃ ao' cap', BuildIs w' g (d ++ [(a, n)]) 0 0 ao' cap') ∧ Below g w w' := by
  obtain ⟨i0, hi, hz0, hz1, hz2⟩ := info_parts Try.info67
  obtain ⟨hblk, hown⟩ := hb
  have hgl : g < w.heap.size := (Array.getElem?_eq_some_iff.1 hblk).1
  obtain ⟨c0, c1, c2, cf⟩ := blk_cells hblk
  have HB : Hid (w.heap[g]? = some (.cells #[.int .i64 a, .int .i64 n, .slice ao d.length cap] 131 (0, 0))) := hblk
  clear hblk
  have b1 : d.length + 1 ≤ maxLen := by unfold maxLen; omega
  have b2 : (d.length + 1) * 16 ≤ 140737488355328 := by omega
  go_enter Try.func89, Try.ntmps89
  go_wp2_with fail
  go_region_law (refine step_append_own rfl (.tmp 13) (.tmp 19) 49 rfl (g + 1) 67 i0 _ 2 16 Try.underlying49 hi hz0 hz1 hz2 rfl (by decide) _ d.length (flat d) (by simp [Act.eval]; rfl) (by exact hown.alloc _) ⟨w.heap.size, 0, none⟩ 1 1 [.int .i64 a, .int .i64 n] (by simp [Act.eval]) rfl (cell_two _ _ _ _) (by simp [Value.oneCell']) b1 b2 (by simp; omega) ?_; intro v' w1 hown' hgrow; obtain ⟨b, cap', rfl, q0, q1, q2, qf, Q⟩ := app_facts HB hown hown' hgrow; clear hown' hgrow)
  all_goals go_wp2
  all_goals go_end0
  all_goals exact ⟨rfl, ⟨_, _, (Q.out _ rfl).1⟩, (Q.out _ rfl).2⟩

end Go.Proofs.Ytheomnafmjmpdaa

/- seg's builder.add and pick, by their contracts. -/
namespace Go.Proofs.Ytheomnafmjmpdaa
open Go.RowKit

theorem BuildIs.below {w w' : World} {g : Nat} {d : List (Int × Int)} {a n : Int} {ao : Option Addr} {cap : Nat} (h : BuildIs w g d a n ao cap) (hb : Below w.heap.size w w') : BuildIs w' g d a n ao cap :=
  ⟨(hb.block g (Array.getElem?_eq_some_iff.1 h.blk).1).trans h.blk, h.own.kept (gbOf hb none) (by cases hv : (Value.slice ao d.length cap).ownBlock <;> simp)⟩

theorem set2 {w : World} {g : Nat} {x y z x' y' : Value} (h : w.heap[g]? = some (.cells #[x, y, z] 131 (0, 0))) :
    ((w.setCell ⟨g, 0, none⟩ x').setCell ⟨g, 1, none⟩ y').heap[g]? = some (.cells #[x', y', z] 131 (0, 0)) := by
  have h2 := heap_setCell_same _ g 0 _ 131 x' h
  have h3 := heap_setCell_same _ g 1 _ 131 y' h2
  rw [h3]
  simp

theorem BuildIs.set2 {w : World} {g : Nat} {d : List (Int × Int)} {a n a' n' : Int} {ao : Option Addr} {cap : Nat} (h : BuildIs w g d a n ao cap) :
    BuildIs ((w.setCell ⟨g, 0, none⟩ (.int .i64 a')).setCell ⟨g, 1, none⟩ (.int .i64 n')) g d a' n' ao cap ∧ Below g w ((w.setCell ⟨g, 0, none⟩ (.int .i64 a')).setCell ⟨g, 1, none⟩ (.int .i64 n')) :=
  ⟨⟨Ytheomnafmjmpdaa.set2 h.blk, own_set_below (own_set_below h.own (Nat.lt_succ_self g) _) (Nat.lt_succ_self g) _⟩,
    ((Below.refl g w).setCell (p := ⟨g, 0, none⟩) (Nat.le_refl _) _).setCell (p := ⟨g, 1, none⟩) (Nat.le_refl _) _⟩

theorem BuildIs.set1 {w : World} {g : Nat} {d : List (Int × Int)} {a n n' : Int} {ao : Option Addr} {cap : Nat} (h : BuildIs w g d a n ao cap) :
    BuildIs (w.setCell ⟨g, 1, none⟩ (.int .i64 n')) g d a n' ao cap ∧ Below g w (w.setCell ⟨g, 1, none⟩ (.int .i64 n')) := by
  refine ⟨⟨?_, own_set_below h.own (Nat.lt_succ_self g) _⟩, (Below.refl g w).setCell (p := ⟨g, 1, none⟩) (Nat.le_refl _) _⟩
  rw [heap_setCell_same _ g 1 _ 131 _ h.blk]
  simp

theorem BuildIs.lt {w : World} {g : Nat} {d : List (Int × Int)} {a n : Int} {ao : Option Addr} {cap : Nat} (h : BuildIs w g d a n ao cap) : g < w.heap.size := (Array.getElem?_eq_some_iff.1 h.blk).1

set_option maxRecDepth 100000 in
set_option maxHeartbeats 400000 in
theorem finish_no (g : Nat) (d : List (Int × Int)) (a n : Int) (ao : Option Addr) (cap : Nat) (w : World) (hb : BuildIs w g d a n ao cap) (hn : n ≤ 0) :
    Calls Try.prog 89 #[.pointer (some ⟨g, 0, none⟩)] w fun e w' =>
      e = .returned (.tuple #[]) ∧ (∃ ao' cap', BuildIs w' g d 0 0 ao' cap') ∧ Below g w w' := by
  obtain ⟨c0, c1, c2, cf⟩ := blk_cells hb.blk
  have hn' : ¬ 0 < n := by omega
  have hgl := hb.lt
  have H := hb.set2 (a' := 0) (n' := 0)
  have HH : Hid _ := H
  clear H hb
  go_enter Try.func89, Try.ntmps89
  go_wp2
  go_end0
  exact ⟨rfl, ⟨_, _, HH.out.1⟩, HH.out.2⟩

abbrev BSt := List (Int × Int) × Int × Int
def bfin (st : BSt) : List (Int × Int) := if 0 < st.2.2 then st.1 ++ [(st.2.1, st.2.2)] else st.1
def bstep (st : BSt) (k : Int) : BSt := if 0 < st.2.2 ∧ k = st.2.1 + st.2.2 then (st.1, st.2.1, st.2.2 + 1) else (bfin st, k, 1)
def BldIs (w : World) (g : Nat) (st : BSt) : Prop := ∃ ao cap, BuildIs w g st.1 st.2.1 st.2.2 ao cap

theorem finish_any (g : Nat) (st : BSt) (w : World) (hb : BldIs w g st) (hd : st.1.length ≤ 64) :
    Calls Try.prog 89 #[.pointer (some ⟨g, 0, none⟩)] w fun e w' => e = .returned (.tuple #[]) ∧ BldIs w' g (bfin st, 0, 0) ∧ Below g w w' := by
  obtain ⟨ao, cap, hb⟩ := hb
  unfold bfin
  split
  · exact finish_yes g _ _ _ ao cap w hb (by assumption) hd
  · exact finish_no g _ _ _ ao cap w hb (by omega)

set_option maxRecDepth 100000 in
set_option maxHeartbeats 400000 in
theorem badd_any (g : Nat) (st : BSt) (k : Int) (w : World) (hb : BldIs w g st) (hd : st.1.length ≤ 64) (h0 : 0 ≤ st.2.1) (h1 : st.2.1 ≤ 64) (h2 : 0 ≤ st.2.2) (h3 : st.2.2 ≤ 64) :
    Calls Try.prog 88 #[.pointer (some ⟨g, 0, none⟩), .int .i64 k] w fun e w' => e = .returned (.tuple #[]) ∧ BldIs w' g (bstep st k) ∧ Below g w w' := by
  obtain ⟨d, a, n⟩ := st
  simp only at hd h0 h1 h2 h3
  obtain ⟨ao, cap, hb⟩ := hb
  simp only at hb
  obtain ⟨c0, c1, c2, cf⟩ := blk_cells hb.blk
  have hgl := hb.lt
  have HB : Hid _ := hb
  clear hb
  by_cases hn : 0 < n
  · by_cases hk : k = a + n
    · have hk' : (k == a + n) = true := by simpa using hk
      have HK : Hid (k = a + n) := hk
      clear hk
      go_enter Try.func88, Try.ntmps88
      go_wp2_with fail
      refine (end_any _ _ _ (by omega) (by omega) (by omega) (by omega)).mono ?_
      rintro e w1 ⟨rfl, hb1⟩
      obtain ⟨d0, d1, d2, df⟩ := blk_cells (HB.out.below hb1).blk
      go_wp2_with fail
      refine bodyPost_ret (results_none rfl _ _ _) rfl ?_
      have H := (HB.out.below hb1).set1 (n' := n + 1)
      exact ⟨rfl, by rw [bstep, if_pos ⟨hn, HK.out⟩]; exact ⟨_, _, H.1⟩, (hb1.mono (Nat.le_of_lt hgl)).trans H.2⟩
    · have hk' : (k == a + n) = false := by simpa using hk
      go_enter Try.func88, Try.ntmps88
      go_wp2_with fail
      refine (end_any _ _ _ (by omega) (by omega) (by omega) (by omega)).mono ?_
      rintro e w1 ⟨rfl, hb1⟩
      have hB1 := HB.out.below hb1
      have HB1 : Hid _ := hB1
      clear hB1
      go_wp2_with fail
      refine (finish_any g (d, a, n) _ ⟨_, _, HB1.out⟩ hd).mono ?_
      rintro e w2 ⟨rfl, ⟨ao2, cap2, hB2⟩, hb2⟩
      obtain ⟨d0, d1, d2, df⟩ := blk_cells hB2.blk
      have H := hB2.set2 (a' := k) (n' := 1)
      have HH : Hid _ := H
      clear H hB2
      go_wp2_with fail
      go_end0
      exact ⟨rfl, by rw [bstep, if_neg (fun h => hk h.2)]; exact ⟨_, _, HH.out.1⟩, ((hb1.mono (Nat.le_of_lt hgl)).trans hb2).trans HH.out.2⟩
  · go_enter Try.func88, Try.ntmps88
    go_wp2_with fail
    refine (finish_any g (d, a, n) _ ⟨_, _, HB.out⟩ hd).mono ?_
    rintro e w2 ⟨rfl, ⟨ao2, cap2, hB2⟩, hb2⟩
    obtain ⟨d0, d1, d2, df⟩ := blk_cells hB2.blk
    have H := hB2.set2 (a' := k) (n' := 1)
    have HH : Hid _ := H
    clear H hB2
    go_wp2_with fail
    go_end0
    exact ⟨rfl, by rw [bstep, if_neg (fun h => by have := h.1; simp only at this; omega)]; exact ⟨_, _, HH.out.1⟩, hb2.trans HH.out.2⟩

def bstate (p : Nat → Bool) : Nat → BSt
  | 0 => ([], 0, 0)
  | k + 1 => if p k then bstep (bstate p k) k else bstate p k

def segsOf (p : Nat → Bool) : List (Int × Int) := bfin (bstate p 64)

theorem bstate_bd (p : Nat → Bool) : ∀ k : Nat, (bstate p k).1.length ≤ k ∧ 0 ≤ (bstate p k).2.1 ∧ (bstate p k).2.1 ≤ k ∧ 0 ≤ (bstate p k).2.2 ∧ (bstate p k).2.1 + (bstate p k).2.2 ≤ k
      ∧ (0 < (bstate p k).2.2 → (bstate p k).1.length + 1 ≤ k)
  | 0 => by simp [bstate]
  | k + 1 => by
    have ih := bstate_bd p k
    rw [bstate]
    split
    · rw [bstep]
      split
      · refine ⟨?_, ?_, ?_, ?_, ?_, ?_⟩ <;> simp only <;> omega
      · unfold bfin
        split
        · refine ⟨?_, ?_, ?_, ?_, ?_, ?_⟩ <;> simp <;> omega
        · refine ⟨?_, ?_, ?_, ?_, ?_, ?_⟩ <;> simp only <;> omega
    · omega

theorem bstate_miss {p : Nat → Bool} {k : Nat} (h : p k = false) : bstate p (k + 1) = bstate p k := by rw [bstate, h]; rfl
theorem bstate_hit {p : Nat → Bool} {k : Nat} (h : p k = true) : bstate p (k + 1) = bstep (bstate p k) k := by rw [bstate, h]; rfl

theorem ownsRow_base {w : World} {base base' : Nat} {e : TypeId} {size : Nat} {v : Value} {n : Nat} {xs : List Value} (h : w.ownsRow base e size v n xs) (hb : base' ≤ base) : w.ownsRow base' e size v n xs := by
  refine ⟨h.1, ?_⟩
  rcases h.2 with hn | ⟨r, cap, cur, hv, hbb, rest⟩
  · exact .inl hn
  · exact .inr ⟨r, cap, cur, hv, by omega, rest⟩

theorem BldIs.start (w : World) : BldIs (w.alloc (.cells #[.int .i64 0, .int .i64 0, .slice none 0 0] 131)) w.heap.size ([], 0, 0) :=
  ⟨none, 0, ⟨heap_alloc_new _ _, World.ownsRow_nil _ _ _ _⟩⟩
theorem BldIs.below {w w' : World} {g : Nat} {st : BSt} (h : BldIs w g st) (hb : Below w.heap.size w w') : BldIs w' g st := by
  obtain ⟨ao, cap, h⟩ := h
  exact ⟨ao, cap, h.below hb⟩

set_option maxRecDepth 100000 in
set_option maxHeartbeats 400000 in
theorem pick_any (K : Nat) (bs cs : Array Value) (p : Nat → Bool) (w : World) (hcf : ∀ args w', (callFunc K args).run Try.prog w' = .ok (.enter K args) w')
    (hf : ∀ (k : Nat) (w' : World), k < 64 → Below w.heap.size w w' → Calls Try.prog K (bs.push (.int .i64 k) ++ cs) w' fun e w'' => e = .returned (.bool (p k)) ∧ Below w'.heap.size w' w'') :
    Calls Try.prog 80 #[.func (.func K) bs cs] w fun e w' =>
      ∃ v, e = .returned v ∧ w'.ownsRow w.heap.size 67 2 v (segsOf p).length (flat (segsOf p)) ∧ Below w.heap.size w w' := by
  have HF : Hid _ := hf
  clear hf
  go_enter Try.func80, Try.ntmps80
  go_wp2
  go_loopw [5] (fun i wr => ∃ (k : Nat), k ≤ 64 ∧ i = .int .i64 k ∧ BldIs wr w.heap.size (bstate p k) ∧ Below w.heap.size w wr)
    (fun i _ => 64 - (intOf i).toNat)
  case atStart => exact ⟨0, by omega, rfl, BldIs.start w, nwA (nwR w) _⟩
  case round =>
    obtain ⟨k, hk, rfl, hB, hb⟩ := hrel
    have HB : Hid (BldIs wr w.heap.size (bstate p k)) := hB
    clear hB
    by_cases hlt : (k : Int) < 64
    · cases hp : p k
      · go_wp2_with fail
        refine (HF.out k _ (by omega) hb).mono ?_
        rintro e w1 ⟨rfl, hb1⟩
        rw [hp]
        go_wp2_with fail
        go_roundw
        case rel => exact ⟨k + 1, by omega, by go_num, by rw [bstate_miss hp]; exact HB.out.below hb1, nwT hb hb1⟩
        case measure => simp [intOf]; omega
      · have hbd := bstate_bd p k
        go_wp2_with fail
        refine (HF.out k _ (by omega) hb).mono ?_
        rintro e w1 ⟨rfl, hb1⟩
        rw [hp]
        go_wp2_with fail
        refine (badd_any w.heap.size (bstate p k) k _ (HB.out.below hb1) (by omega) (by omega) (by omega) (by omega) (by omega)).mono ?_
        rintro e w2 ⟨rfl, hB2, hb2⟩
        have HB2 : Hid (BldIs w2 w.heap.size (bstate p (k + 1))) := by rw [bstate_hit hp]; exact hB2
        clear hB2
        go_wp2_with fail
        go_roundw
        case rel => exact ⟨k + 1, by omega, by go_num, HB2.out, (nwT hb hb1).trans hb2⟩
        case measure => simp [intOf]; omega
    · have hk64 : k = 64 := by omega
      subst hk64
      have hbd := bstate_bd p 64
      go_wp2_with fail
      refine (finish_any w.heap.size (bstate p 64) _ HB.out (by omega)).mono ?_
      rintro e w1 ⟨rfl, ⟨ao, cap, hB1⟩, hb1⟩
      obtain ⟨c0, c1, c2, cf⟩ := blk_cells hB1.blk
      have HB1 : Hid _ := hB1
      clear hB1 hbd
      go_wp2_with fail
      go_ret
      exact ⟨_, rfl, ownsRow_base HB1.out.own (by omega), hb.trans hb1⟩

end Go.Proofs.Ytheomnafmjmpdaa

/- A set of 64 bools by value: laid, loaded, stored, handed back. -/
namespace Go.Proofs.Ytheomnafmjmpdaa
open Go.RowKit

def setArr (s : Nat → Bool) : Array Value := Array.ofFn (n := 64) fun k => .bool (s k.val)
theorem setArr_size (s : Nat → Bool) : (setArr s).size = 64 := by simp [setArr]
theorem setArr_get (s : Nat → Bool) (i : Nat) (h : i < 64) : (setArr s)[i]? = some (.bool (s i)) := by simp [setArr, h]
theorem setArr_one (s : Nat → Bool) : (setArr s).all (·.oneCell') = true := by
  rw [Array.all_eq_true]
  intro i hi
  simp [setArr, Value.oneCell']

theorem SetIs.row {w : World} {g : Nat} {s : Nat → Bool} (h : SetIs w g s) : w.heap[g]? = some (.cells (setArr s) 116 (0, 0)) := by
  obtain ⟨c, hb, hn, hc⟩ := h
  have e : c = setArr s := by
    apply Array.ext_getElem?
    intro i
    by_cases hi : i < 64
    · rw [hc i hi, setArr_get s i hi]; rfl
    · rw [Array.getElem?_eq_none (by omega), Array.getElem?_eq_none (by rw [setArr_size]; omega)]
  rw [hb, e]

theorem SetIs.of {w : World} {g : Nat} {s : Nat → Bool} (h : w.heap[g]? = some (.cells (setArr s) 116 (0, 0))) : SetIs w g s :=
  ⟨_, h, setArr_size s, fun i hi => setArr_get s i hi⟩

theorem setArr_congr {s t : Nat → Bool} (h : ∀ k, k < 64 → s k = t k) : setArr s = setArr t := by
  apply Array.ext_getElem?
  intro i
  by_cases hi : i < 64
  · rw [setArr_get s i hi, setArr_get t i hi, h i hi]
  · rw [Array.getElem?_eq_none (by rw [setArr_size]; omega), Array.getElem?_eq_none (by rw [setArr_size]; omega)]

theorem Try.size116 : (Try.prog.info? 116).map (·.size) = some 64 := by kernel_rfl

section
variable {ops : Array Oper} {rest : List Oper} {o : Oper} {a : Act} {w : World} {Q : Exit → Act → World → Prop}

theorem wpList_alloc64 (hgd : o.guard = none) (ho : o.op = .alloc 116)
    (h : wpList Try.prog ops Q rest (a.put o.dst (.pointer (some ⟨w.heap.size, 0, none⟩))) (w.alloc (.cells (setArr fun _ => false) 116))) : wpList Try.prog ops Q (o :: rest) a w := by
  refine wpList_plain hgd fun K hK => ?_
  unfold Oper.wp
  simp [execOp, ho, Instr.alloc, Sem.run_bind, newVar, Value.cells]
  exact hK _ _ h

theorem build64 (w : World) : (Instr.build 116 #[]).run Try.prog w = .ok (.agg (setArr fun _ => false)) w := by kernel_rfl

theorem wpList_build64 (hgd : o.guard = none) (ho : o.op = .build 116 #[])
    (h : wpList Try.prog ops Q rest (a.put o.dst (.agg (setArr fun _ => false))) w) : wpList Try.prog ops Q (o :: rest) a w := by
  refine wpList_plain hgd fun K hK => ?_
  have hr := build64 w
  unfold Oper.wp
  simp only [execOp, ho, Sem.run_bind, Sem.run_pure, Result.andThen_ok, Array.map_empty, hr]
  exact hK _ _ h

theorem wpList_store64 (hgd : o.guard = none) (x y : Operand) (ho : o.op = .store 116 x y) (g : Nat) (s s0 : Nat → Bool) (hx : a.eval x = .pointer (some ⟨g, 0, none⟩)) (hy : a.eval y = .agg (setArr s))
    (hg : SetIs w g s0) (h : wpList Try.prog ops Q rest (a.put o.dst undef) (w.setRow g (setArr s))) : wpList Try.prog ops Q (o :: rest) a w := by
  refine wpList_plain hgd fun K hK => ?_
  have hr := run_storeVar_row (P := Try.prog) w g 116 116 _ (setArr s) hg.row (by rw [setArr_size]; exact Try.size116) (by rw [setArr_size, setArr_size]) (setArr_one s)
  unfold Oper.wp execOp
  simp only [ho, hx, hy, Instr.storeAt, Instr.sureAddr, Sem.run_bind, Sem.run_pure, Result.andThen_ok, hr]
  exact hK _ _ h

theorem wpList_load64 (hgd : o.guard = none) (x : Operand) (ho : o.op = .load 116 x) (g : Nat) (s : Nat → Bool) (hx : a.eval x = .pointer (some ⟨g, 0, none⟩))
    (hg : SetIs w g s) (h : wpList Try.prog ops Q rest (a.put o.dst (.agg (setArr s))) w) : wpList Try.prog ops Q (o :: rest) a w :=
  wpList_load_row hgd 116 x ho g hx 116 (setArr s) (0, 0) _ hg.row Try.underlying116 rfl (by rw [setArr_size]; exact Try.size116) h
end

theorem SetIs.setRow {w : World} {g : Nat} {s0 s : Nat → Bool} (h : SetIs w g s0) : SetIs (w.setRow g (setArr s)) g s := SetIs.of (setRow_heap w g _ _ 116 _ h.row)
theorem SetIs.rowApart {w : World} {g b : Nat} {s s' : Nat → Bool} (h : SetIs w g s) (hn : g ≠ b) : SetIs (w.setRow b (setArr s')) g s := h.of_block (Go.setRow_other w b g _ hn)
theorem gbSetRow (w : World) (g : Nat) (cs : Array Value) : w.grownBy (w.setRow g cs) (some g) :=
  ⟨rfl, rfl, rfl, by simp, fun i _ hn => Go.setRow_other w g i cs (fun e => hn (by rw [e]))⟩
theorem SetIs.grown {w w' : World} {g b : Nat} {s : Nat → Bool} (h : SetIs w g s) (hg : w.grownBy w' (some b)) (hn : g ≠ b) : SetIs w' g s := h.of_block (hg.block g h.lt (fun e => hn (Option.some.inj e)))
theorem SetIs.new (w : World) : SetIs (w.alloc (.cells (setArr fun _ => false) 116)) w.heap.size (fun _ => false) := SetIs.of (heap_alloc_new _ _)

theorem results_set_tmp {fn : Func} {p q : Tmp} (h : fn.results = #[.cell p 116, .tmp q]) (tmps : Array Value) (w : World) (g : Nat) (s : Nat → Bool)
    (hp : tmps.getD p undef = .pointer (some ⟨g, 0, none⟩)) (hg : SetIs w g s) : (results fn tmps).run Try.prog w = .ok (.tuple #[.agg (setArr s), tmps.getD q undef]) w := by
  have hp' : tmps[p]?.getD undef = .pointer (some ⟨g, 0, none⟩) := by simpa using hp
  have hl := run_loadVar_row (P := Try.prog) w g 116 116 (setArr s) (0, 0) _ hg.row Try.underlying116 rfl (by rw [setArr_size]; exact Try.size116)
  simp [results, h, hp', asAddr, hl]

theorem results_set2_tmp {fn : Func} {p p2 q : Tmp} (h : fn.results = #[.cell p 116, .cell p2 116, .tmp q]) (tmps : Array Value) (w : World) (g g2 : Nat) (s s2 : Nat → Bool)
    (hp : tmps.getD p undef = .pointer (some ⟨g, 0, none⟩)) (hg : SetIs w g s) (hp2 : tmps.getD p2 undef = .pointer (some ⟨g2, 0, none⟩)) (hg2 : SetIs w g2 s2) :
    (results fn tmps).run Try.prog w = .ok (.tuple #[.agg (setArr s), .agg (setArr s2), tmps.getD q undef]) w := by
  have hp' : tmps[p]?.getD undef = .pointer (some ⟨g, 0, none⟩) := by simpa using hp
  have hp2' : tmps[p2]?.getD undef = .pointer (some ⟨g2, 0, none⟩) := by simpa using hp2
  have hl := run_loadVar_row (P := Try.prog) w g 116 116 (setArr s) (0, 0) _ hg.row Try.underlying116 rfl (by rw [setArr_size]; exact Try.size116)
  have hl2 := run_loadVar_row (P := Try.prog) w g2 116 116 (setArr s2) (0, 0) _ hg2.row Try.underlying116 rfl (by rw [setArr_size]; exact Try.size116)
  simp [results, h, hp', hp2', asAddr, hl, hl2]

end Go.Proofs.Ytheomnafmjmpdaa

/- seg's gather by its contract. -/
namespace Go.Proofs.Ytheomnafmjmpdaa
open Go.RowKit

abbrev RowV := Option Addr × Nat × List (Int × Int)
def row0 : RowV := (none, 0, [])
def RowsAt (w : World) (a : Option Addr) (ls : List RowV) : Prop :=
  ∀ i, i < ls.length → ∃ b off, a = some ⟨b, off, none⟩ ∧ w.cell? ⟨b, off + i, none⟩ = some (.slice (ls.getD i row0).1 (ls.getD i row0).2.2.length (ls.getD i row0).2.1) ∧
    SegsAt w (ls.getD i row0).1 (ls.getD i row0).2.2 ∧ (ls.getD i row0).2.2.length ≤ maxLen

theorem RowsAt.below {w w' : World} {a : Option Addr} {ls : List RowV} (h : RowsAt w a ls) {B : Nat} (hb : Below B w w') (hB : w.heap.size ≤ B) : RowsAt w' a ls := by
  intro i hi
  obtain ⟨b, off, ha, h1, h2, h3⟩ := h i hi
  have hlt : b < w.heap.size := block_lt_of_cell h1
  exact ⟨b, off, ha, (hb.cell (p := ⟨b, _, none⟩) (by show b < B; omega)).trans h1, h2.below hb hB, h3⟩

theorem RowsAt.segs {w : World} {a : Option Addr} {ls : List RowV} (h : RowsAt w a ls) {i : Nat} (hi : i < ls.length) : SegsAt w (ls.getD i row0).1 (ls.getD i row0).2.2 := by
  obtain ⟨_, _, _, _, h2, _⟩ := h i hi
  exact h2

def inSeg (s : Int × Int) (k : Nat) : Bool := decide (s.1 ≤ k ∧ (k : Int) < s.1 + s.2)
def memS (l : List (Int × Int)) (k : Nat) : Bool := l.any fun s => inSeg s k
def memAny (ls : List RowV) (k : Nat) : Bool := ls.any fun r => memS r.2.2 k
def allOk (ls : List RowV) : Bool := ls.all fun r => validFrom 0 r.2.2
def gset (ls : List RowV) : Nat → Bool := if allOk ls then memAny ls else fun _ => false

theorem valid_mem {l : List (Int × Int)} : ∀ {m : Int}, validFrom m l = true → ∀ j, j < l.length → mayB (l.getD j (0, 0)).1 (l.getD j (0, 0)).2 = true := by
  induction l with
  | nil => intro m _ j hj; simp at hj
  | cons s r ih =>
    intro m h j hj
    simp only [validFrom, Bool.and_eq_true] at h
    cases j with
    | zero => simpa using h.1.1
    | succ j => simpa using ih h.2 j (by simpa using hj)

theorem take_snocD {α : Type} (l : List α) (d : α) (k : Nat) (h : k < l.length) : l.take (k + 1) = l.take k ++ [l.getD k d] := by
  rw [List.take_succ_eq_append_getElem h]; simp [h]

theorem memS_take (l : List (Int × Int)) (j k : Nat) (h : j < l.length) : memS (l.take (j + 1)) k = (memS (l.take j) k || inSeg (l.getD j (0, 0)) k) := by
  rw [take_snocD l (0, 0) j h]; simp [memS]
theorem memAny_take (ls : List RowV) (i k : Nat) (h : i < ls.length) : memAny (ls.take (i + 1)) k = (memAny (ls.take i) k || memS (ls.getD i row0).2.2 k) := by
  rw [take_snocD ls row0 i h]; simp [memAny]
theorem allOk_false {ls : List RowV} (i : Nat) (h : i < ls.length) (hv : validFrom 0 (ls.getD i row0).2.2 = false) : allOk ls = false := by
  rw [allOk, List.all_eq_false]
  exact ⟨ls.getD i row0, by simp [h], by rw [hv]; simp⟩
theorem allOk_take (ls : List RowV) (i : Nat) (h : i < ls.length) : allOk (ls.take (i + 1)) = (allOk (ls.take i) && validFrom 0 (ls.getD i row0).2.2) := by
  rw [take_snocD ls row0 i h]; simp [allOk]

structure GInv (w wr : World) (s : Nat → Bool) : Prop where
  acc : SetIs wr (w.heap.size + 1) s
  res : SetIs wr w.heap.size (fun _ => false)
  nw : Below w.heap.size w wr

theorem GInv.start (w : World) (ls : List RowV) : GInv w ((w.alloc (.cells (setArr fun _ => false) 116)).alloc (.cells (setArr fun _ => false) 116)) (memAny (ls.take 0)) := by
  refine ⟨?_, (SetIs.new w).alloc _, nwA (nwA (nwR w) _) _⟩
  have h := SetIs.new (w.alloc (.cells (setArr fun _ => false) 116))
  have e : (w.alloc (.cells (setArr fun _ => false) 116)).heap.size = w.heap.size + 1 := by simp
  rw [e] at h
  exact h

theorem GInv.below {w wr w1 : World} {s : Nat → Bool} (h : GInv w wr s) (hb : Below wr.heap.size wr w1) : GInv w w1 s := ⟨h.acc.below hb, h.res.below hb, nwT h.nw hb⟩
theorem GInv.grown {w wr w1 : World} {s s' : Nat → Bool} (h : GInv w wr s) (hg : wr.grownBy w1 (some (w.heap.size + 1))) (hs : SetIs w1 (w.heap.size + 1) s') : GInv w w1 s' :=
  ⟨hs, h.res.grown hg (by omega), h.nw.grown hg h.nw.size (fun k e => by have := Option.some.inj e; omega)⟩
theorem GInv.congr {w wr : World} {s s' : Nat → Bool} (h : GInv w wr s) (e : ∀ k, s k = s' k) : GInv w wr s' := by
  have : s = s' := funext e
  rwa [← this]

set_option maxRecDepth 100000 in
set_option maxHeartbeats 1000000 in
theorem gather_any (a : Option Addr) (ls : List RowV) (cap : Nat) (w : World) (hs : RowsAt w a ls) (hl : ls.length ≤ maxLen) :
    Calls Try.prog 84 #[.slice a ls.length cap] w fun e w' =>
      e = .returned (.tuple #[.agg (setArr (gset ls)), .int .i64 (errOf (allOk ls))]) ∧ Below w.heap.size w w' := by
  unfold maxLen at hl
  go_enter Try.func84, Try.ntmps84
  go_wp2_with (refine wpList_alloc64 rfl rfl ?_)
  go_loopw [12] (fun i wr => ∃ (k : Nat), k ≤ ls.length ∧ i = .int .i64 k ∧ GInv w wr (memAny (ls.take k)) ∧ Hid (allOk (ls.take k) = true))
    (fun i _ => ls.length - (intOf i).toNat)
  case atStart => exact ⟨0, by omega, rfl, GInv.start w ls, rfl⟩
  case round =>
    obtain ⟨k, hk, rfl, hG, HA⟩ := hrel
    have HG : Hid (GInv w wr (memAny (ls.take k))) := hG
    clear hG
    by_cases hlt : k < ls.length
    · have h2 := hs.segs hlt
      obtain ⟨b, off, rfl, h1, _, h3⟩ := (hs.below HG.out.nw (Nat.le_refl _)) k hlt
      have HT1 : Hid (∀ q, memAny (ls.take (k + 1)) q = (memAny (ls.take k) q || memS (ls.getD k row0).2.2 q)) := fun q => memAny_take ls k q hlt
      have HT2 : Hid (allOk (ls.take (k + 1)) = (allOk (ls.take k) && validFrom 0 (ls.getD k row0).2.2)) := allOk_take ls k hlt
      have HT3 : Hid (validFrom 0 (ls.getD k row0).2.2 = false → allOk ls = false) := allOk_false k hlt
      generalize ls.getD k row0 = r at h1 h2 h3 HT1 HT2 HT3
      obtain ⟨ra, rc, l⟩ := r
      simp only at h1 h2 h3 HT1 HT2 HT3
      have HS : Hid (SegsAt w ra l) := h2
      clear h2 hs
      unfold maxLen at h3
      cases hv : validFrom 0 l
      · go_wp2_with fail
        refine (check_any ra l rc _ (HS.out.below HG.out.nw (Nat.le_refl _)) (by unfold maxLen; omega)).mono ?_
        rintro e w1 ⟨rfl, hb1⟩
        rw [hv, show errOf false = 1 from rfl]
        have HG1 : Hid (GInv w w1 (memAny (ls.take k))) := HG.out.below hb1
        have HR : Hid (SetIs w1 w.heap.size (fun _ => false)) := HG1.out.res
        go_wp2_with (first | refine wpList_build64 rfl rfl ?_ | refine wpList_store64 rfl (.tmp 2) (.tmp 20) rfl w.heap.size _ _ rfl rfl HR.out ?_)
        refine bodyPost_ret (results_set_tmp rfl _ _ w.heap.size _ rfl HR.out.setRow) rfl ⟨?_, ?_⟩
        · rw [gset, HT3.out hv]; rfl
        · exact HG1.out.nw.grown (gbSetRow _ _ _) HG1.out.nw.size (fun k e => by have := Option.some.inj e; omega)
      · go_wp2_with fail
        refine (check_any ra l rc _ (HS.out.below HG.out.nw (Nat.le_refl _)) (by unfold maxLen; omega)).mono ?_
        rintro e w1 ⟨rfl, hb1⟩
        rw [hv, show errOf true = 0 from rfl]
        have HG1 : Hid (GInv w w1 (memAny (ls.take k))) := HG.out.below hb1
        have hgl : w.heap.size + 1 < w1.heap.size := HG1.out.acc.lt
        clear HG hb1
        go_wp2_with fail
        go_loopw [24] (fun j wq => ∃ (n : Nat), n ≤ l.length ∧ j = .int .i64 n ∧ GInv w wq (fun q => memAny (ls.take k) q || memS (l.take n) q))
          (fun j _ => l.length - (intOf j).toNat)
        case atStart => exact ⟨0, by omega, rfl, HG1.out.congr (fun q => by simp [memS])⟩
        case round =>
          obtain ⟨n, hn, rfl, hG2⟩ := hrel
          have HG2 : Hid _ := hG2
          clear hG2
          have hgl2 : w.heap.size + 1 < wr.heap.size := HG2.out.acc.lt
          by_cases hnl : n < l.length
          · obtain ⟨b2, off2, rfl, g1, g2⟩ := (HS.out.below HG2.out.nw (Nat.le_refl _)) n hnl
            have hm := valid_mem hv n hnl
            have HM : Hid (∀ q, memS (l.take (n + 1)) q = (memS (l.take n) q || inSeg (l.getD n (0, 0)) q)) := fun q => memS_take l n q hnl
            generalize l.getD n (0, 0) = sg at g1 g2 hm HM
            obtain ⟨x, y⟩ := sg
            obtain ⟨m0, m1, m2, m3⟩ := mayB_of hm
            clear hm
            go_wp2_with fail
            refine (setAdd_any (w.heap.size + 1) _ x y _ (HG2.out.acc.alloc _) (by omega) (by omega) (by omega)).mono ?_
            rintro e w2 ⟨rfl, hset, hgb⟩
            have HG3 : Hid (GInv w w2 (fun q => memAny (ls.take k) q || memS (l.take (n + 1)) q)) := by
              refine ((HG2.out.below (nwA (nwR _) _)).grown hgb hset).congr (fun q => ?_)
              rw [HM.out q, Bool.or_assoc]; rfl
            clear hset hgb HG2
            go_wp2_with fail
            go_roundw
            case rel => exact ⟨n + 1, by omega, by go_num, HG3.out⟩
            case measure => simp [intOf]; omega
          · have hn' : n = l.length := by omega
            subst hn'
            have HG3 : Hid (GInv w wr (memAny (ls.take (k + 1)))) := by
              refine HG2.out.congr (fun q => ?_)
              rw [HT1.out q, List.take_length]
            have HA3 : Hid (allOk (ls.take (k + 1)) = true) := by
              show _ = true
              rw [HT2.out, HA.out, hv]; rfl
            clear HG2 HA
            go_wp2_with fail
            go_roundw
            case rel => exact ⟨k + 1, by omega, by go_num, HG3.out, HA3⟩
            case measure => simp [intOf]; omega
    · have hk' : k = ls.length := by omega
      subst hk'
      rw [List.take_length] at HG HA
      have HR : Hid (SetIs wr w.heap.size (fun _ => false)) := HG.out.res
      have HC : Hid (SetIs wr (w.heap.size + 1) (memAny ls)) := HG.out.acc
      go_wp2_with (first | refine wpList_load64 rfl (.tmp 4) rfl (w.heap.size + 1) _ rfl HC.out ?_ | refine wpList_store64 rfl (.tmp 2) (.tmp 33) rfl w.heap.size _ _ rfl rfl HR.out ?_)
      refine bodyPost_ret (results_set_tmp rfl _ _ w.heap.size _ rfl HR.out.setRow) rfl ⟨?_, ?_⟩
      · rw [gset, HA.out]; rfl
      · exact HG.out.nw.grown (gbSetRow _ _ _) HG.out.nw.size (fun k e => by have := Option.some.inj e; omega)

end Go.Proofs.Ytheomnafmjmpdaa

/- seg.Join by its contract. -/
namespace Go.Proofs.Ytheomnafmjmpdaa
open Go.RowKit

def OwnSegs (w : World) (base : Nat) (v : Value) (l : List (Int × Int)) : Prop := w.ownsRow base 67 2 v l.length (flat l)

theorem flat_get (l : List (Int × Int)) : ∀ i, i < l.length → (flat l)[i * 2]? = some (.int .i64 (l.getD i (0, 0)).1) ∧ (flat l)[i * 2 + 1]? = some (.int .i64 (l.getD i (0, 0)).2) := by
  induction l with
  | nil => intro i hi; simp at hi
  | cons s r ih =>
    intro i hi
    cases i with
    | zero => simp [flat]
    | succ i =>
      have h := ih i (by simpa using hi)
      have e : flat (s :: r) = .int .i64 s.1 :: .int .i64 s.2 :: flat r := by simp [flat]
      rw [e]
      have e1 : (i + 1) * 2 = i * 2 + 1 + 1 := by omega
      have e2 : (i + 1) * 2 + 1 = i * 2 + 1 + 1 + 1 := by omega
      rw [e1, List.getElem?_cons_succ, List.getElem?_cons_succ, List.getElem?_cons_succ]
      simpa using h

theorem OwnSegs.at {w : World} {base : Nat} {v : Value} {l : List (Int × Int)} (h : OwnSegs w base v l) : ∃ a cap, v = .slice a l.length cap ∧ SegsAt w a l := by
  have hh := h
  rcases h.2 with ⟨hv, hn⟩ | ⟨g, cap, cur, hv, hb, hg, _⟩
  · refine ⟨none, 0, by rw [hv, hn], fun i hi => by omega⟩
  · refine ⟨_, cap, hv, fun i hi => ⟨g, 0, rfl, ?_, ?_⟩⟩
    · have := hh.cells (g := g) (by rw [hv]; rfl) (i * 2) _ (flat_get l i hi).1
      rw [show (⟨g, 0, none⟩ : Addr).add (i * 2) = ⟨g, 0 + i * 2, none⟩ from by unfold Addr.add; split <;> simp_all] at this
      exact this
    · have := hh.cells (g := g) (by rw [hv]; rfl) (i * 2 + 1) _ (flat_get l i hi).2
      rw [show (⟨g, 0, none⟩ : Addr).add (i * 2 + 1) = ⟨g, 0 + i * 2 + 1, none⟩ from by unfold Addr.add; split <;> simp_all] at this
      exact this

theorem OwnSegs.below {w w' : World} {base : Nat} {v : Value} {l : List (Int × Int)} (h : OwnSegs w base v l) (hb : Below w.heap.size w w') : OwnSegs w' base v l :=
  h.kept (gbOf hb none) (by cases hv : v.ownBlock <;> simp)

def jset (ls : List RowV) : List (Int × Int) := if allOk ls then segsOf (memAny ls) else []

theorem segsOf_len (p : Nat → Bool) : (segsOf p).length ≤ 64 := by
  have h := bstate_bd p 64
  unfold segsOf bfin
  split
  · simp; omega
  · omega

set_option maxRecDepth 100000 in
set_option maxHeartbeats 400000 in
theorem join_any (a : Option Addr) (ls : List RowV) (cap : Nat) (w : World) (hs : RowsAt w a ls) (hl : ls.length ≤ maxLen) :
    Calls Try.prog 69 #[.slice a ls.length cap] w fun e w' =>
      ∃ v, e = .returned (.tuple #[v, .int .i64 (errOf (allOk ls))]) ∧ OwnSegs w' w.heap.size v (jset ls) ∧ Below w.heap.size w w' := by
  have HS : Hid _ := hs
  clear hs
  cases hv : allOk ls
  · go_enter Try.func69, Try.ntmps69
    go_wp2_with fail
    refine (gather_any a ls cap _ HS.out hl).mono ?_
    rintro e w1 ⟨rfl, hb1⟩
    rw [hv, show errOf false = 1 from rfl]
    have HN : Hid (SetIs (w1.alloc (.cells (setArr fun _ => false) 116)) w1.heap.size (fun _ => false)) := SetIs.new w1
    go_wp2_with (first | refine wpList_alloc64 rfl rfl ?_ | refine wpList_store64 rfl (.tmp 4) (.tmp 9) rfl w1.heap.size _ _ rfl rfl HN.out ?_)
    go_ret2
    refine ⟨_, rfl, ?_, ?_⟩
    · rw [jset, hv]; exact World.ownsRow_nil _ _ _ _
    · exact (nwA hb1 _).grown (gbSetRow _ _ _) (nwA hb1 _).size (fun k e => by have := Option.some.inj e; have := hb1.size; omega)
  · go_enter Try.func69, Try.ntmps69
    go_wp2_with fail
    refine (gather_any a ls cap _ HS.out hl).mono ?_
    rintro e w1 ⟨rfl, hb1⟩
    rw [hv, show errOf true = 0 from rfl]
    have HN : Hid (SetIs (w1.alloc (.cells (setArr fun _ => false) 116)) w1.heap.size (fun _ => false)) := SetIs.new w1
    go_wp2_with (first | refine wpList_alloc64 rfl rfl ?_ | refine wpList_store64 rfl (.tmp 4) (.tmp 9) rfl w1.heap.size _ _ rfl rfl HN.out ?_)
    refine (pick_any 82 #[.pointer (some ⟨w1.heap.size, 0, none⟩)] #[] (gset ls) _ Try.call82 (fun k w' hk hb => ?_)).mono ?_
    · exact (setHas_any w1.heap.size (gset ls) k w' ((HN.out.setRow).below hb) hk).mono fun e w2 h => ⟨h.1, h.2 ▸ nwR w'⟩
    · rintro e w2 ⟨v, rfl, hown, hb2⟩
      have HO : Hid _ := hown
      clear hown
      go_wp2_with fail
      go_ret2
      refine ⟨_, rfl, ?_, ?_⟩
      · have e : jset ls = segsOf (gset ls) := by rw [jset, gset, hv]; rfl
        rw [e]
        exact ownsRow_base HO.out (by have := hb1.size; simp; omega)
      · exact nwT ((nwA hb1 _).grown (gbSetRow _ _ _) (nwA hb1 _).size (fun k e => by have := Option.some.inj e; have := hb1.size; omega)) hb2

end Go.Proofs.Ytheomnafmjmpdaa

/- EqSegs, num, by their contracts. -/
namespace Go.Proofs.Ytheomnafmjmpdaa
open Go.RowKit

theorem eq_upto {l m : List (Int × Int)} (hl : l.length = m.length) (h : ∀ i, i < l.length → l.getD i (0, 0) = m.getD i (0, 0)) : l = m := by
  apply List.ext_getElem hl
  intro i h1 h2
  have := h i h1
  simpa [h1, h2] using this

set_option maxRecDepth 100000 in
set_option maxHeartbeats 400000 in
theorem eqSegs_any (a b : Option Addr) (l m : List (Int × Int)) (ca cb : Nat) (w : World) (ha : SegsAt w a l) (hb : SegsAt w b m) (hl : l.length ≤ maxLen) :
    Calls Try.prog 70 #[.slice a l.length ca, .slice b m.length cb] w fun e w' => e = .returned (.bool (decide (l = m))) ∧ Below w.heap.size w w' := by
  unfold maxLen at hl
  have HA : Hid (SegsAt w a l) := ha
  have HB : Hid (SegsAt w b m) := hb
  clear ha hb
  by_cases hlen : l.length = m.length
  · have hlen' : ((l.length : Int) != (m.length : Int)) = false := by simp [hlen]
    have HL : Hid (l.length = m.length) := hlen
    clear hlen
    go_enter Try.func70, Try.ntmps70
    go_wp2_with fail
    go_loopw [5] (fun i wr => ∃ (k : Nat), k ≤ l.length ∧ i = .int .i64 k ∧ Below w.heap.size w wr ∧ Hid (∀ j, j < k → l.getD j (0, 0) = m.getD j (0, 0)))
      (fun i _ => l.length - (intOf i).toNat)
    case atStart => exact ⟨0, by omega, rfl, nwR w, fun j hj => by omega⟩
    case round =>
      obtain ⟨k, hk, rfl, hbel, HE⟩ := hrel
      by_cases hlt : k < l.length
      · have hltm : k < m.length := by have := HL.out; omega
        obtain ⟨b1, o1, rfl, x1, y1⟩ := (HA.out.below hbel (Nat.le_refl _)) k hlt
        obtain ⟨b2, o2, rfl, x2, y2⟩ := (HB.out.below hbel (Nat.le_refl _)) k hltm
        by_cases he : l.getD k (0, 0) = m.getD k (0, 0)
        · rw [← he] at x2 y2
          generalize l.getD k (0, 0) = s at x1 y1 x2 y2
          obtain ⟨x, y⟩ := s
          have HEE : Hid (l.getD k (0, 0) = m.getD k (0, 0)) := he
          clear he
          go_wp2_with fail
          go_quiet (fail)
          go_wp2_with fail
          go_roundw
          case rel => exact ⟨k + 1, by omega, by go_num, below_drewN hbel _, fun j hj => by
            by_cases e : j = k
            · subst e; exact HEE.out
            · exact HE.out j (by omega)⟩
          case measure => simp [intOf]; omega
        · have HF : Hid (decide (l = m) = false) := decide_eq_false (fun e => he (by rw [e]))
          generalize l.getD k (0, 0) = s at x1 y1 he
          generalize m.getD k (0, 0) = t at x2 y2 he
          obtain ⟨x, y⟩ := s
          obtain ⟨x', y'⟩ := t
          by_cases hx : x = x'
          · subst hx
            have hy : (y == y') = false := by
              rw [beq_eq_false_iff_ne]; intro e; exact he (by rw [e])
            clear he
            go_wp2_with fail
            go_quiet (fail)
            go_wp2_with fail
            go_ret
            exact ⟨by rw [HF.out]; rfl, below_drewN hbel _⟩
          · have hx' : (x == x') = false := by
              rw [beq_eq_false_iff_ne]; exact hx
            clear he hx
            go_wp2_with fail
            go_quiet (fail)
            go_wp2_with fail
            go_ret
            exact ⟨by rw [HF.out]; rfl, below_drewN hbel _⟩
      · have HF : Hid (decide (l = m) = true) := decide_eq_true (eq_upto HL.out (fun i hi => HE.out i (by omega)))
        go_wp2_with fail
        go_ret
        exact ⟨by rw [HF.out]; rfl, hbel⟩
  · have hlen' : ((l.length : Int) != (m.length : Int)) = true := by rw [bne_iff_ne]; omega
    have HF : Hid (decide (l = m) = false) := decide_eq_false (fun e => hlen (by rw [e]))
    clear hlen
    go_enter Try.func70, Try.ntmps70
    go_wp2_with fail
    go_ret
    exact ⟨by rw [HF.out]; rfl, nwR w⟩

end Go.Proofs.Ytheomnafmjmpdaa

/- Heavy and wakes, by their contracts. -/
namespace Go.Proofs.Ytheomnafmjmpdaa
open Go.RowKit

def small (ls : List RowV) (nl : Nat) : Prop := ls.length + nl ≤ 500 ∧ ∀ i, i < ls.length → (ls.getD i row0).2.2.length ≤ 500

def HvPost (ls : List RowV) (nl : Nat) (w : World) (e : Ending) (w' : World) : Prop := ∃ q : Bool, e = .returned (.bool q) ∧ Below w.heap.size w w' ∧ (q = false → small ls nl)

end Go.Proofs.Ytheomnafmjmpdaa

/- Literal rows; wakes by its contract. -/
namespace Go.Proofs.Ytheomnafmjmpdaa
open Go.RowKit

theorem segs1 (w : World) (x y : Int) (t : TypeId) : SegsAt (w.alloc (.cells #[.int .i64 x, .int .i64 y] t)) (some ⟨w.heap.size, 0, none⟩) [(x, y)] := by
  intro i hi
  have : i = 0 := by simpa using hi
  subst this
  refine ⟨w.heap.size, 0, rfl, ?_, ?_⟩ <;> simp

theorem SegsAt.alloc {w : World} {a : Option Addr} {l : List (Int × Int)} (h : SegsAt w a l) (o : Obj) : SegsAt (w.alloc o) a l := h.below (nwA (nwR w) o) (Nat.le_refl _)

theorem rows1 {w : World} {a : Option Addr} {l : List (Int × Int)} (c : Nat) (t : TypeId) (h : SegsAt w a l) (hl : l.length ≤ maxLen) :
    RowsAt (w.alloc (.cells #[.slice a l.length c] t)) (some ⟨w.heap.size, 0, none⟩) [(a, c, l)] := by
  intro i hi
  have : i = 0 := by simpa using hi
  subst this
  exact ⟨w.heap.size, 0, rfl, by simp, h.alloc _, hl⟩

theorem rows2 {w : World} {a b : Option Addr} {l m : List (Int × Int)} (c d : Nat) (t : TypeId) (h : SegsAt w a l) (hl : l.length ≤ maxLen) (h' : SegsAt w b m) (hl' : m.length ≤ maxLen) :
    RowsAt (w.alloc (.cells #[.slice a l.length c, .slice b m.length d] t)) (some ⟨w.heap.size, 0, none⟩) [(a, c, l), (b, d, m)] := by
  intro i hi
  match i, hi with
  | 0, _ => exact ⟨w.heap.size, 0, rfl, by simp, h.alloc _, hl⟩
  | 1, _ => exact ⟨w.heap.size, 0, rfl, by simp, h'.alloc _, hl'⟩

theorem jset_wakes (a b : Option Addr) (c d : Nat) : allOk [(a, c, [(0, 2)]), (b, d, [(2, 2)])] = true ∧ jset [(a, c, [(0, 2)]), (b, d, [(2, 2)])] = [(0, 4)] := by
  refine ⟨rfl, ?_⟩
  show jset [(a, c, [(0, 2)]), (b, d, [(2, 2)])] = [(0, 4)]
  rfl

end Go.Proofs.Ytheomnafmjmpdaa
