/- How much there is to be played. -/
import Derived.Test.YtifbnojkjbjngaaDoorEqs
import Derived.Test.YtifbnojkjbjngaaDoorRead
namespace Go.Proofs.YtifbnojkjbjngaaDoor
open Go.RowKit

def txs : List ByteArray → Nat → Nat
  | [], n => n
  | x :: r, n => if n < 1048576 then txs r (n + x.size) else n
theorem txs_le (xs : List ByteArray) : ∀ n, txs xs n ≤ 4000 → n + (cat xs).length = txs xs n := by
  induction xs with
  | nil => intro n _; simp [txs, cat]
  | cons x xs ih =>
    intro n h
    unfold txs at h ⊢
    by_cases hn : n < 1048576
    · rw [if_pos hn] at h ⊢
      rw [← ih _ h, cat_cons, List.length_append, ls_size]; omega
    · rw [if_neg hn] at h; omega
theorem txs_bound (xs : List ByteArray) (hz : ∀ x ∈ xs, x.size ≤ 140737488351232) : ∀ n, n ≤ 500000000000000 → txs xs n ≤ 500000000000000 := by
  induction xs with
  | nil => intro n h; exact h
  | cons x xs ih =>
    intro n h
    unfold txs
    by_cases hn : n < 1048576
    · rw [if_pos hn]
      have := hz x (List.mem_cons_self ..)
      exact ih (fun y hy => hz y (List.mem_cons_of_mem _ hy)) _ (by omega)
    · rw [if_neg hn]; exact h

set_option maxHeartbeats 1000000 in
theorem texts_any (a : Option Addr) (xs : List ByteArray) (ca : Nat) (w : World) (hx : StrsAt w a xs) (hl : xs.length ≤ 140737488351232) (hz : ∀ x ∈ xs, x.size ≤ 140737488351232) :
    Calls Tryd.prog 30 #[.slice a xs.length ca] w fun e w' => e = .returned (.int .i64 (txs xs xs.length : Nat)) ∧ w' = w := by
  have HX : Hid (StrsAt w a xs) := hx
  have HZ : Hid (∀ x ∈ xs, x.size ≤ 140737488351232) := hz
  clear hx hz
  go_enter Tryd.func30, Tryd.ntmps30
  go_wp2_with fail
  go_loop [3, 4] (fun n i => ∃ (k t : Nat), k ≤ xs.length ∧ i = .int .i64 k ∧ n = .int .i64 t ∧ t ≤ 1000000000000000 ∧ Hid (txs (xs.drop k) t = txs xs xs.length))
    (fun _ i => xs.length - (intOf i).toNat)
  case atStart => exact ⟨0, xs.length, by omega, rfl, rfl, by omega, rfl⟩
  case round =>
    obtain ⟨k, t, hk, rfl, rfl, ht, HT⟩ := hrel
    by_cases hkl : k < xs.length
    · have hkli : (k : Int) < (xs.length : Int) := by omega
      have hdr : xs.drop k = xs.getD k ByteArray.empty :: xs.drop (k + 1) := by
        rw [List.drop_eq_getElem_cons hkl]; simp [List.getD, hkl]
      by_cases ht2 : (t : Int) < 1048576
      · obtain ⟨b1, o1, rfl, hc⟩ := HX.out.cell hkl
        have hq := HZ.out (xs.getD k ByteArray.empty) (by simp [List.getD, hkl])
        have HT' : Hid (txs (xs.drop (k + 1)) (t + (xs.getD k ByteArray.empty).size) = txs xs xs.length) := by
          have := HT.out
          rw [hdr, txs, if_pos (by omega)] at this; exact this
        clear hdr
        generalize xs.getD k ByteArray.empty = x at hc hq HT'
        go_wp2_with fail
        go_round
        case rel => exact ⟨k + 1, t + x.size, by omega, by go_num, by go_num, by omega, HT'⟩
        case measure => simp [intOf]; omega
      · have HE : Hid (t = txs xs xs.length) := by
          have := HT.out
          rw [hdr, txs, if_neg (by omega)] at this; exact this
        clear hdr
        go_wp2_with fail
        go_ret
        exact ⟨by rw [← HE.out]; rfl, rfl⟩
    · have hkli : ¬ (k : Int) < (xs.length : Int) := by omega
      have HE : Hid (t = txs xs xs.length) := by
        have := HT.out
        rw [List.drop_eq_nil_of_le (by omega)] at this; exact this
      go_wp2_with fail
      go_ret
      exact ⟨by rw [← HE.out]; rfl, rfl⟩

/- rows of rows of texts -/
def RowIn (w : World) (b o : Nat) (xs : List ByteArray) : Prop := ∃ a c, w.cell? ⟨b, o, none⟩ = some (.slice a xs.length c) ∧ StrsAt w a xs ∧ CapOk a c xs.length
def RowsAt (w : World) (a : Option Addr) (l : List (List ByteArray)) : Prop :=
  l = [] ∨ ∃ b o, a = some ⟨b, o, none⟩ ∧ ∀ i, i < l.length → RowIn w b (o + i) (l.getD i [])
theorem RowIn.below {w w' : World} {b o : Nat} {xs : List ByteArray} (h : RowIn w b o xs) (hb : Below w.heap.size w w') : RowIn w' b o xs := by
  obtain ⟨a, c, h1, h2, h3⟩ := h
  exact ⟨a, c, (hb.cell (p := ⟨b, o, none⟩) (block_lt_of_cell h1)).trans h1, h2.below hb, h3⟩
theorem RowsAt.below {w w' : World} {a : Option Addr} {l : List (List ByteArray)} (h : RowsAt w a l) (hb : Below w.heap.size w w') : RowsAt w' a l := by
  rcases h with rfl | ⟨b, o, rfl, hc⟩
  · exact .inl rfl
  · exact .inr ⟨b, o, rfl, fun i hi => (hc i hi).below hb⟩
theorem RowsAt.row {w : World} {a : Option Addr} {l : List (List ByteArray)} (h : RowsAt w a l) {i : Nat} (hi : i < l.length) : ∃ b o, a = some ⟨b, o, none⟩ ∧ RowIn w b (o + i) (l.getD i []) := by
  rcases h with rfl | ⟨b, o, rfl, hc⟩
  · simp at hi
  · exact ⟨b, o, rfl, hc i hi⟩
def Small (xs : List ByteArray) : Prop := xs.length ≤ 140737488351232 ∧ ∀ x ∈ xs, x.size ≤ 140737488351232

structure AskD where
  s : List ByteArray
  l : List (List ByteArray)
  n : List Int
def AskVal (w : World) (v : Value) (d : AskD) : Prop := ∃ aS cS aL cL aN cN, v = .agg #[.slice aS d.s.length cS, .slice aL d.l.length cL, .slice aN d.n.length cN] ∧ (StrsAt w aS d.s ∧ CapOk aS cS d.s.length ∧ Small d.s) ∧ (RowsAt w aL d.l ∧ CapOk aL cL d.l.length ∧ d.l.length ≤ 140737488351232 ∧ ∀ x ∈ d.l, Small x) ∧ (IntsAt w aN d.n ∧ CapOk aN cN d.n.length ∧ d.n.length ≤ 140737488351232 ∧ ∀ x ∈ d.n, -9223372036854775808 ≤ x ∧ x ≤ 9223372036854775807)
theorem AskVal.below {w w' : World} {v : Value} {d : AskD} (h : AskVal w v d) (hb : Below w.heap.size w w') : AskVal w' v d := by
  obtain ⟨aS, cS, aL, cL, aN, cN, rfl, ⟨h1, h2⟩, ⟨h3, h4⟩, ⟨h5, h6⟩⟩ := h
  exact ⟨aS, cS, aL, cL, aN, cN, rfl, ⟨h1.below hb, h2⟩, ⟨h3.below hb, h4⟩, ⟨h5.below hb, h6⟩⟩

def hvy : List (List ByteArray) → Nat → Nat
  | [], n => n
  | x :: r, n => if n < 1048576 then hvy r (n + txs x x.length) else n
def wgt (xs : List ByteArray) : Nat := xs.length + (cat xs).length
def wgts (l : List (List ByteArray)) : Nat := (l.map wgt).sum
theorem hvy_ge (l : List (List ByteArray)) : ∀ n, n ≤ hvy l n := by
  induction l with
  | nil => intro n; exact Nat.le_refl _
  | cons x l ih =>
    intro n
    unfold hvy
    by_cases hn : n < 1048576
    · rw [if_pos hn]; have := ih (n + txs x x.length); omega
    · rw [if_neg hn]; exact Nat.le_refl _
theorem hvy_le (l : List (List ByteArray)) : ∀ n, hvy l n ≤ 4000 → n + wgts l = hvy l n := by
  induction l with
  | nil => intro n _; simp [hvy, wgts]
  | cons x l ih =>
    intro n h
    unfold hvy at h ⊢
    by_cases hn : n < 1048576
    · rw [if_pos hn] at h ⊢
      have h1 := hvy_ge l (n + txs x x.length)
      have h2 := txs_le x x.length (by omega)
      rw [← ih _ h]
      have e : wgts (x :: l) = wgt x + wgts l := by simp [wgts]
      rw [e]; unfold wgt; omega
    · rw [if_neg hn] at h; omega
def Light (d : AskD) : Prop := wgt d.s + d.n.length + wgts d.l ≤ 4000

end Go.Proofs.YtifbnojkjbjngaaDoor
