/- Laid together: Filt, Delv, Delw, Withv, Dropv. -/
import Derived.Test.YtodahdnnlkcfdaaVolM11
import Derived.Lib.SliceRun
/- A row sifted in its place: step by step. -/
namespace Go.Proofs.Ytodahdnnlkcfdaa
open Go.RowKit

/-- j of the row are looked at, those that stay stand at its first i places -/
structure Sift {α : Type} (p : α → Bool) (l l' : List α) (i j : Nat) : Prop where
  len : l'.length = l.length
  ij : i ≤ j
  done : l'.take i = (l.take j).filter p
  rest : l'.drop j = l.drop j
theorem sift_start {α : Type} {p : α → Bool} {l : List α} {k : Nat} (hk : k < l.length) (h : ∀ t, t < k → ∀ x, l[t]? = some x → p x = true) (hn : ∀ x, l[k]? = some x → p x = false) : Sift p l l k (k + 1) := by
  refine ⟨rfl, by omega, ?_, rfl⟩
  rw [List.take_succ_eq_append_getElem hk, List.filter_append]
  have h1 : (l.take k).filter p = l.take k := by
    rw [List.filter_eq_self]
    intro x hx
    obtain ⟨t, ht, rfl⟩ := List.getElem_of_mem hx
    rw [List.length_take] at ht
    exact h t (by omega) _ (by rw [List.getElem_take]; exact List.getElem?_eq_getElem (by omega))
  have h2 : p l[k] = false := hn _ (List.getElem?_eq_getElem hk)
  rw [h1]; simp [h2]
theorem Sift.get {α : Type} {p : α → Bool} {l l' : List α} {i j : Nat} (h : Sift p l l' i j) {t : Nat} (ht : j ≤ t) : l'[t]? = l[t]? := by
  have := congrArg (fun x => x[t - j]?) h.rest
  simp only [List.getElem?_drop] at this
  rwa [show j + (t - j) = t from by omega] at this
theorem Sift.keep {α : Type} {p : α → Bool} {l l' : List α} {i j : Nat} (h : Sift p l l' i j) {x : α} (hx : l[j]? = some x) (hp : p x = true) : Sift p l (l'.set i x) (i + 1) (j + 1) := by
  have hj := (List.getElem?_eq_some_iff.1 hx).1
  have hjx := (List.getElem?_eq_some_iff.1 hx).2
  have hl := h.len
  have hij := h.ij
  refine ⟨by rw [List.length_set]; exact hl, by omega, ?_, ?_⟩
  · rw [List.take_succ_eq_append_getElem (by rw [List.length_set]; omega), List.take_set_of_le (Nat.le_refl _), h.done, List.take_succ_eq_append_getElem hj, List.filter_append, hjx]
    simp [hp]
  · apply List.ext_getElem?
    intro t
    rw [List.getElem?_drop, List.getElem?_drop, List.getElem?_set, if_neg (by omega), h.get (by omega)]
theorem Sift.skip {α : Type} {p : α → Bool} {l l' : List α} {i j : Nat} (h : Sift p l l' i j) {x : α} (hx : l[j]? = some x) (hp : p x = false) : Sift p l l' i (j + 1) := by
  have hj := (List.getElem?_eq_some_iff.1 hx).1
  have hjx := (List.getElem?_eq_some_iff.1 hx).2
  have hij := h.ij
  refine ⟨h.len, by omega, ?_, ?_⟩
  · rw [h.done, List.take_succ_eq_append_getElem hj, List.filter_append, hjx]
    simp [hp]
  · apply List.ext_getElem?
    intro t
    rw [List.getElem?_drop, List.getElem?_drop, h.get (by omega)]
theorem Sift.fin {α : Type} {p : α → Bool} {l l' : List α} {i j : Nat} (h : Sift p l l' i j) (hj : l.length ≤ j) : l'.take i = l.filter p := by
  rw [h.done, List.take_of_length_le hj]
theorem Sift.le {α : Type} {p : α → Bool} {l l' : List α} {i j : Nat} (h : Sift p l l' i j) (hj : l.length = j) : (l.filter p).length = i := by
  rw [← h.fin (by omega), List.length_take, h.len]
  have := h.ij
  omega

theorem gb_setg {w w' : World} {g i : Nat} (h : w.grownBy w' (some g)) (v : Value) : w.grownBy (w'.setCell ⟨g, i, none⟩ v) (some g) :=
  h.trans ⟨rfl, rfl, rfl, by simp, fun k _ hk => heap_setCell_other w' ⟨g, i, none⟩ k v (fun e => hk (by simp [e]))⟩
theorem own_shrink {w : World} {base e size g n cap m : Nat} {xs : List Value} (h : w.ownsRow base e size (.slice (some ⟨g, 0, none⟩) n cap) n xs) (hm : m ≤ n) : w.ownsRow base e size (.slice (some ⟨g, 0, none⟩) m cap) m (xs.take (m * size)) := by
  have hms : m * size ≤ n * size := Nat.mul_le_mul_right _ hm
  refine ⟨by rw [List.length_take, h.1]; omega, .inr ?_⟩
  rcases h.2 with ⟨h1, _⟩ | ⟨g', cap', cur, h1, h2, h3, h4, h5, h6, h7⟩
  · simp at h1
  · simp only [Value.slice.injEq, Option.some.injEq, Addr.mk.injEq, and_true, true_and] at h1
    obtain ⟨rfl, rfl⟩ := h1
    exact ⟨g, cap, cur, rfl, h2, h3, by omega, h5, h6, by rw [← h7, List.take_take, Nat.min_eq_left hms]⟩
theorem own_setCells {base e size g n cap : Nat} : ∀ (vs : List Value) (o : Nat) (w : World) (xs : List Value), w.ownsRow base e size (.slice (some ⟨g, 0, none⟩) n cap) n xs →
    ∃ ys, (w.setCells g o vs).ownsRow base e size (.slice (some ⟨g, 0, none⟩) n cap) n ys ∧ ys.take o = xs.take o := by
  intro vs
  induction vs with
  | nil => intro o w xs h; exact ⟨xs, h, rfl⟩
  | cons v r ih =>
    intro o w xs h
    obtain ⟨ys, h1, h2⟩ := ih (o + 1) _ _ (World.ownsRow.stored h o v).1
    refine ⟨ys, h1, ?_⟩
    have := congrArg (List.take o) h2
    rw [List.take_take, List.take_take, Nat.min_eq_left (by omega), List.take_set_of_le (Nat.le_refl _)] at this
    exact this
theorem gb_setCells {w0 : World} {g : Nat} : ∀ (vs : List Value) (o : Nat) (w : World), w0.grownBy w (some g) → w0.grownBy (w.setCells g o vs) (some g) := by
  intro vs
  induction vs with
  | nil => intro o w h; exact h
  | cons v r ih => intro o w h; exact ih (o + 1) _ (gb_setg h _)
theorem vflat_cons (y : VV) (ys : List VV) : vflat (y :: ys) = .int .i64 y.d.id :: .int .i64 y.d.fr :: .bool y.d.snap :: y.fv :: .int .i64 y.d.next :: vflat ys := by simp [vflat]
theorem vflat_set5 (gs : List VV) : ∀ (i : Nat) (x : VV), i < gs.length → vflat (gs.set i x) = (((((vflat gs).set (i * 5) (.int .i64 x.d.id)).set (i * 5 + 1) (.int .i64 x.d.fr)).set (i * 5 + 2) (.bool x.d.snap)).set (i * 5 + 3) x.fv).set (i * 5 + 4) (.int .i64 x.d.next) := by
  induction gs with
  | nil => intro i x h; simp at h
  | cons y l ih =>
    intro i x h
    cases i with
    | zero => simp [vflat_cons]
    | succ i =>
      have := ih i x (by simpa using h)
      rw [show (i + 1) * 5 = i * 5 + 1 + 1 + 1 + 1 + 1 from by omega, show i * 5 + 1 + 1 + 1 + 1 + 1 + 1 = (i * 5 + 1) + 1 + 1 + 1 + 1 + 1 from rfl, show i * 5 + 1 + 1 + 1 + 1 + 1 + 2 = (i * 5 + 2) + 1 + 1 + 1 + 1 + 1 from rfl, show i * 5 + 1 + 1 + 1 + 1 + 1 + 3 = (i * 5 + 3) + 1 + 1 + 1 + 1 + 1 from rfl, show i * 5 + 1 + 1 + 1 + 1 + 1 + 4 = (i * 5 + 4) + 1 + 1 + 1 + 1 + 1 from rfl]
      simp only [List.set_cons_succ, vflat_cons]
      rw [this]
theorem vflat_take (gs : List VV) (k : Nat) : vflat (gs.take k) = (vflat gs).take (k * 5) := by
  induction gs generalizing k with
  | nil => simp [vflat]
  | cons y l ih =>
    cases k with
    | zero => simp [vflat]
    | succ k =>
      rw [List.take_succ_cons, vflat_cons, vflat_cons, ih k, show (k + 1) * 5 = k * 5 + 1 + 1 + 1 + 1 + 1 from by omega]
      simp
def RowW (w : World) (base g n cap : Nat) (gs : List VV) : Prop := w.ownsRow base 32 5 (.slice (some ⟨g, 0, none⟩) n cap) n (vflat gs)
theorem RowW.cellAt {w : World} {base g n cap : Nat} {gs : List VV} (h : RowW w base g n cap gs) {i : Nat} {x : VV} (hx : gs[i]? = some x) : w.cell? ⟨g, i * 5, none⟩ = some (.int .i64 x.d.id) ∧ w.cell? ⟨g, i * 5 + 1, none⟩ = some (.int .i64 x.d.fr) ∧ w.cell? ⟨g, i * 5 + 2, none⟩ = some (.bool x.d.snap) ∧ w.cell? ⟨g, i * 5 + 3, none⟩ = some x.fv ∧ w.cell? ⟨g, i * 5 + 4, none⟩ = some (.int .i64 x.d.next) := by
  obtain ⟨c0, c1, c2, c3, c4⟩ := vflat_get gs i x hx
  have K : ∀ j u, (vflat gs)[j]? = some u → w.cell? ⟨g, j, none⟩ = some u := fun j u hj => by
    have := World.ownsRow.cells h (g := g) rfl j u hj
    rwa [addr_add, Nat.zero_add] at this
  exact ⟨K _ _ c0, K _ _ c1, K _ _ c2, K _ _ c3, K _ _ c4⟩
theorem RowW.setAt {w : World} {base g n cap : Nat} {gs : List VV} (h : RowW w base g n cap gs) {i : Nat} (x : VV) (hi : i < gs.length) : RowW (((((w.setCell ⟨g, i * 5, none⟩ (.int .i64 x.d.id)).setCell ⟨g, i * 5 + 1, none⟩ (.int .i64 x.d.fr)).setCell ⟨g, i * 5 + 2, none⟩ (.bool x.d.snap)).setCell ⟨g, i * 5 + 3, none⟩ x.fv).setCell ⟨g, i * 5 + 4, none⟩ (.int .i64 x.d.next)) base g n cap (gs.set i x) := by
  have h1 := (World.ownsRow.stored h (i * 5) (.int .i64 x.d.id)).1
  have h2 := (h1.stored (i * 5 + 1) (.int .i64 x.d.fr)).1
  have h3 := (h2.stored (i * 5 + 2) (.bool x.d.snap)).1
  have h4 := (h3.stored (i * 5 + 3) x.fv).1
  have h5 := (h4.stored (i * 5 + 4) (.int .i64 x.d.next)).1
  unfold RowW
  rw [vflat_set5 gs i x hi]
  exact h5
theorem zero5 {z0 z1 z2 z3 z4 : Value} (h : z0.oneCell' = true ∧ z1.oneCell' = true ∧ z2.oneCell' = true ∧ z3.oneCell' = true ∧ z4.oneCell' = true) (n : Nat) : ∀ v ∈ (Builtin.zeroCells #[z0, z1, z2, z3, z4] n).toList, v.oneCell' = true := by
  intro v hv
  simp only [Builtin.zeroCells, Array.toList_map, List.mem_map] at hv
  obtain ⟨i, _, rfl⟩ := hv
  have hi : i % 5 < 5 := Nat.mod_lt _ (by omega)
  show (#[z0, z1, z2, z3, z4][i % 5]!).oneCell' = true
  generalize i % 5 = m at hi
  have : m = 0 ∨ m = 1 ∨ m = 2 ∨ m = 3 ∨ m = 4 := by omega
  rcases this with rfl | rfl | rfl | rfl | rfl
  · exact h.1
  · exact h.2.1
  · exact h.2.2.1
  · exact h.2.2.2.1
  · exact h.2.2.2.2
theorem clear_vols (w : World) (b o n c : Nat) (hc : ∀ j, j < n * 5 → (w.cell? ⟨b, o + j, none⟩).isSome = true) (hf : ∀ j, w.frozen? ⟨b, j, none⟩ = false) :
    ∃ vs : List Value, ∀ ty, (Builtin.clear_ #[72] ty #[.slice (some ⟨b, o, none⟩) n c]).run Try.prog w = .ok (.tuple #[]) (w.setCells b o vs) := by
  cases n with
  | zero => exact ⟨[], fun ty => by simp [Builtin.clear_, run_underlying Try.underlying72, World.setCells]⟩
  | succ m =>
    have hv : (zeroValue 32).run Try.prog w = .ok (.agg #[.int .i64 0, .int .i64 0, .bool false, .slice none 0 0, .int .i64 0]) w := by kernel_rfl
    have hst := run_storeCells_cells (P := Try.prog) b o (Builtin.zeroCells #[.int .i64 0, .int .i64 0, .bool false, .slice none 0 0, .int .i64 0] (m + 1)).toList 0 w (fun j hj => by
      rw [Nat.add_zero]; exact hc j (by simpa [Builtin.zeroCells] using hj)) (fun j _ => hf _) (zero5 ⟨rfl, rfl, rfl, rfl, rfl⟩ _)
    simp only [Nat.add_zero] at hst
    refine ⟨(Builtin.zeroCells #[.int .i64 0, .int .i64 0, .bool false, .slice none 0 0, .int .i64 0] (m + 1)).toList, fun ty => ?_⟩
    have hz : (Value.agg #[.int .i64 0, .int .i64 0, .bool false, .slice none 0 0, .int .i64 0]).cells = #[.int .i64 0, .int .i64 0, .bool false, .slice none 0 0, .int .i64 0] := by kernel_rfl
    simp [Builtin.clear_, run_underlying Try.underlying72, hv, hz, hst]
theorem clear_ints (w : World) (b o n c : Nat) (hc : ∀ j, j < n → (w.cell? ⟨b, o + j, none⟩).isSome = true) (hf : ∀ j, w.frozen? ⟨b, j, none⟩ = false) :
    ∃ vs : List Value, ∀ ty, (Builtin.clear_ #[79] ty #[.slice (some ⟨b, o, none⟩) n c]).run Try.prog w = .ok (.tuple #[]) (w.setCells b o vs) := by
  cases n with
  | zero => exact ⟨[], fun ty => by simp [Builtin.clear_, run_underlying Try.underlying79, World.setCells]⟩
  | succ m =>
    exact ⟨_, fun ty => Lib.run_clear_slice (P := Try.prog) w 79 3 ty (.int .i64 0) Try.underlying79 (fun w => by kernel_rfl) (by kernel_rfl) rfl b o (m + 1) c (by omega) hc (fun j _ => hf _)⟩

end Go.Proofs.Ytodahdnnlkcfdaa

/- Volumes taken from a row, by the program. -/
namespace Go.Proofs.Ytodahdnnlkcfdaa
open Go.RowKit

set_option maxRecDepth 100000 in
set_option maxHeartbeats 1000000 in
theorem idx_any (a : Option Addr) (xs : List Int) (ca : Nat) (id : Int) (w : World) (hx : IntsAt w a xs) (hl : xs.length ≤ 100000) :
    Calls Try.prog 79 #[.slice a xs.length ca, .int .i64 id] w fun e w' => e = .returned (.int .i64 (optI (xs.findIdx? (· == id)))) ∧ Below w.heap.size w w' := by
  have HX : Hid (IntsAt w a xs) := hx
  clear hx
  go_enter Try.func79, Try.ntmps79
  go_wp2_with fail
  go_loopw [8] (fun i wr => ∃ (k : Nat), k ≤ xs.length ∧ i = .int .i64 k ∧ wr = w ∧ Hid (∀ j, j < k → (xs.getD j 0 == id) = false))
    (fun i _ => xs.length - (intOf i).toNat)
  case atStart => exact ⟨0, by omega, rfl, rfl, fun j hj => by omega⟩
  case round =>
    obtain ⟨k, hk, rfl, rfl, HE⟩ := hrel
    by_cases hlt : k < xs.length
    · obtain ⟨b1, o1, rfl, hf⟩ := HX.out.cell hlt
      have hlti : (k : Int) < (xs.length : Int) := by omega
      have HK : Hid ((xs.getD k 0 == id) = false → ∀ j, j < k + 1 → (xs.getD j 0 == id) = false) := fun h j hj => by
        by_cases e : j = k
        · subst e; exact h
        · exact HE.out j (by omega)
      have HY : Hid ((xs.getD k 0 == id) = true → xs.findIdx? (· == id) = some k) := fun h => find_yes 0 hlt h (fun j hj => HE.out j hj)
      generalize xs.getD k 0 = x at hf HK HY
      by_cases he : id = x
      · have HR : Hid (xs.findIdx? (· == id) = some k) := HY.out (by rw [he]; simp)
        subst he
        go_wp2_with fail
        go_ret
        exact ⟨ret_int (by rw [HR.out]; rfl), nwR _⟩
      · have he2 : (x == id) = false := beq_eq_false_iff_ne.2 (fun e => he e.symm)
        have HN := HK.out he2
        go_wp2_with fail
        go_roundw
        case rel => exact ⟨k + 1, by omega, by go_num, by first | rfl | trivial, HN⟩
        case measure => simp [intOf]; omega
    · have hlti : ¬ (k : Int) < (xs.length : Int) := by omega
      have HY : Hid (xs.findIdx? (· == id) = none) := find_no 0 (fun j hj => HE.out j (by omega))
      go_wp2_with fail
      go_ret
      exact ⟨ret_int (by rw [HY.out]; rfl), nwR _⟩

theorem optI_find (xs : List Int) (id : Int) : decide (optI (xs.findIdx? (· == id)) ≥ 0) = xs.contains id := by
  cases h : xs.findIdx? (· == id) with
  | none =>
    rw [List.findIdx?_eq_none_iff] at h
    have : ¬ id ∈ xs := fun hm => by simpa using h id hm
    simp [optI, this]
  | some k =>
    rw [List.findIdx?_eq_some_iff_getElem] at h
    obtain ⟨hk, h2, _⟩ := h
    have : id ∈ xs := by
      have e : xs[k] = id := by simpa using h2
      rw [← e]; exact List.getElem_mem hk
    simp [optI, this]
set_option maxRecDepth 100000 in
set_option maxHeartbeats 1000000 in
theorem cont_any (a : Option Addr) (xs : List Int) (ca : Nat) (id : Int) (w : World) (hx : IntsAt w a xs) (hl : xs.length ≤ 100000) :
    Calls Try.prog 62 #[.slice a xs.length ca, .int .i64 id] w fun e w' => e = .returned (.bool (decide (id ∈ xs))) ∧ Below w.heap.size w w' := by
  have HX : Hid (IntsAt w a xs) := hx
  clear hx
  have HC : Hid (∀ i : Int, i = optI (xs.findIdx? (· == id)) → decide (i ≥ 0) = decide (id ∈ xs)) := fun i e => by rw [e, optI_find xs id]; simp
  go_enter Try.func62, Try.ntmps62
  go_wp2_with fail
  refine (idx_any a xs ca id w HX.out hl).mono ?_
  rintro e w1 ⟨rfl, hb⟩
  generalize hg : optI (xs.findIdx? (· == id)) = i
  have hh := HC.out i hg.symm
  clear hg HC
  go_wp2_with fail
  go_ret
  first | exact ⟨rfl, hb⟩ | exact ⟨by simp, hb⟩

/-- the closure holds these IDs, whatever is written to the row -/
def KeepsIds (w : World) (r : Option Nat) (B : Nat) (ids : List Int) : Prop := ∀ w', w.grownBy w' r → ∃ ai ci, w'.cell? ⟨B, 0, none⟩ = some (.slice ai ids.length ci) ∧ IntsAt w' ai ids
theorem KeepsIds.trans {w w1 : World} {r : Option Nat} {B : Nat} {ids : List Int} (h : KeepsIds w r B ids) (hg : w.grownBy w1 r) : KeepsIds w1 r B ids := fun w' h' => h w' (hg.trans h')
set_option maxRecDepth 100000 in
set_option maxHeartbeats 1000000 in
theorem clov_any (v : Value) (d : VolD) (ids : List Int) (B : Nat) (ai : Option Addr) (ci : Nat) (w : World) (hv : VolVal w v d) (hl : ids.length ≤ 100000) (hc : w.cell? ⟨B, 0, none⟩ = some (.slice ai ids.length ci)) (hi : IntsAt w ai ids) :
    Calls Try.prog 61 #[v, .pointer (some ⟨B, 0, none⟩)] w fun e w' => e = .returned (.bool (decide (d.id ∈ ids))) ∧ Below w.heap.size w w' := by
  obtain ⟨av, cv, rfl, _, _⟩ := hv
  obtain ⟨id, fr, snap, fs, next⟩ := d
  have hB := block_lt_of_cell hc
  have HI : Hid (∀ w', Below w.heap.size w w' → IntsAt w' ai ids) := fun w' h => hi.below h
  clear hi
  simp only at hB ⊢
  go_enter Try.func61, Try.ntmps61
  go_wp2_with fail
  refine (cont_any ai ids ci id _ (HI.out _ (nwA (nwR w) _)) hl).mono ?_
  rintro e w1 ⟨rfl, hb1⟩
  have hb := nwT (nwA (nwR w) _) hb1
  clear hb1
  go_wp2_with fail
  go_ret
  exact ⟨rfl, hb⟩

set_option maxRecDepth 100000 in
set_option maxHeartbeats 1000000 in
theorem idxv_any (a : Option Addr) (ds : List VolD) (ca : Nat) (ids : List Int) (B : Nat) (ai : Option Addr) (ci : Nat) (w : World) (hv : VolsAt w a ds) (hl : ds.length ≤ 100000) (hli : ids.length ≤ 100000) (hc : w.cell? ⟨B, 0, none⟩ = some (.slice ai ids.length ci)) (hi : IntsAt w ai ids) :
    Calls Try.prog 78 #[.slice a ds.length ca, .func (.func 61) #[] #[.pointer (some ⟨B, 0, none⟩)]] w fun e w' => e = .returned (.int .i64 (optI (ds.findIdx? fun d => decide (d.id ∈ ids)))) ∧ Below w.heap.size w w' := by
  have HF : Hid (VolsAt w a ds) := hv
  have HC : Hid (w.cell? ⟨B, 0, none⟩ = some (.slice ai ids.length ci)) := hc
  have HI : Hid (∀ w', Below w.heap.size w w' → IntsAt w' ai ids) := fun w' h => hi.below h
  clear hv hc hi
  go_enter Try.func78, Try.ntmps78
  go_wp2_with fail
  go_loopw [8] (fun i wr => ∃ (k : Nat), k ≤ ds.length ∧ i = .int .i64 k ∧ Below w.heap.size w wr ∧ Hid (∀ j, j < k → decide ((ds.getD j VZ).id ∈ ids) = false))
    (fun i _ => ds.length - (intOf i).toNat)
  case atStart => exact ⟨0, by omega, rfl, nwR w, fun j hj => by omega⟩
  case round =>
    obtain ⟨k, hk, rfl, hb, HE⟩ := hrel
    by_cases hlt : k < ds.length
    · obtain ⟨b1, o1, rfl, hf⟩ := (HF.out.below hb).vol hlt
      obtain ⟨af, cf, ⟨c0, c1, c2, c3, c4⟩, hvv⟩ := hf.val
      have hlti : (k : Int) < (ds.length : Int) := by omega
      have HV : Hid (VolVal wr (.agg #[.int .i64 (ds.getD k VZ).id, .int .i64 (ds.getD k VZ).fr, .bool (ds.getD k VZ).snap, .slice af (ds.getD k VZ).files.length cf, .int .i64 (ds.getD k VZ).next]) (ds.getD k VZ)) := hvv
      have HCW : Hid (wr.cell? ⟨B, 0, none⟩ = some (.slice ai ids.length ci)) := (hb.cell (p := ⟨B, 0, none⟩) (block_lt_of_cell HC.out)).trans HC.out
      clear hf hvv
      have HK : Hid (decide ((ds.getD k VZ).id ∈ ids) = false → ∀ j, j < k + 1 → decide ((ds.getD j VZ).id ∈ ids) = false) := fun h j hj => by
        by_cases e : j = k
        · subst e; exact h
        · exact HE.out j (by omega)
      have HY : Hid (decide ((ds.getD k VZ).id ∈ ids) = true → (ds.findIdx? fun d => decide (d.id ∈ ids)) = some k) := fun h => find_yes VZ hlt h (fun j hj => HE.out j hj)
      generalize ds.getD k VZ = d at c0 c1 c2 c3 c4 HV HK HY
      go_wp2_with fail
      refine (clov_any _ d ids B ai ci _ HV.out hli HCW.out (HI.out _ hb)).mono ?_
      rintro e w2 ⟨rfl, hb2⟩
      have hbb := nwT hb hb2
      cases he : decide (d.id ∈ ids)
      · have HN := HK.out he
        clear he
        go_wp2_with fail
        go_roundw
        case rel => exact ⟨k + 1, by omega, by go_num, hbb, HN⟩
        case measure => simp [intOf]; omega
      · have HR := HY.out he
        have HR2 : Hid ((ds.findIdx? fun d => decide (d.id ∈ ids)) = some k) := HR
        clear he HR
        go_wp2_with fail
        go_ret
        exact ⟨ret_int (by rw [HR2.out]; rfl), hbb⟩
    · have hlti : ¬ (k : Int) < (ds.length : Int) := by omega
      have HY : Hid ((ds.findIdx? fun d => decide (d.id ∈ ids)) = none) := find_no VZ (fun j hj => HE.out j (by omega))
      go_wp2_with fail
      go_ret
      exact ⟨ret_int (by rw [HY.out]; rfl), hb⟩

end Go.Proofs.Ytodahdnnlkcfdaa

/- Volumes taken from a row: those that stay. -/
namespace Go.Proofs.Ytodahdnnlkcfdaa
open Go.RowKit

/-- those of a row that bear none of these IDs -/
def restW (ids : List Int) (ds : List VolD) : List VolD := ds.filter fun d => !decide (d.id ∈ ids)
def stayV (ids : List Int) (x : VV) : Bool := !decide (x.d.id ∈ ids)
theorem restW_map (ids : List Int) (gs : List VV) : (gs.filter (stayV ids)).map VV.d = restW ids (gs.map VV.d) := by
  unfold restW
  rw [List.filter_map]
  rfl
theorem restW_le (ids : List Int) (ds : List VolD) : (restW ids ds).length ≤ ds.length := List.length_filter_le _ _
theorem restW_all {ids : List Int} {ds : List VolD} (h : (ds.findIdx? fun d => decide (d.id ∈ ids)) = none) : restW ids ds = ds := by
  unfold restW
  rw [List.filter_eq_self]
  intro d hd
  rw [List.findIdx?_eq_none_iff] at h
  rw [h d hd]; rfl
theorem OwnVols.sifted {w : World} {base g n cap m : Nat} {gs gs' : List VV} {ids : List Int} {vs : List Value} (hs : Sift (stayV ids) gs gs' m n) (hn : gs.length = n) (h : RowW w base g n cap gs') (hO : ∀ x ∈ gs, OwnFiles (w.setCells g (m * 5) vs) base x.fv x.d.files) :
    OwnVols (w.setCells g (m * 5) vs) base (.slice (some ⟨g, 0, none⟩) m cap) (restW ids (gs.map VV.d)) := by
  obtain ⟨ys, h1, h2⟩ := own_setCells vs (m * 5) w (vflat gs') h
  have h3 := own_shrink h1 hs.ij
  have hf := hs.fin (by omega)
  have hle := hs.le hn
  refine ⟨gs.filter (stayV ids), restW_map ids gs, ?_, fun x hx => hO x (List.mem_filter.1 hx).1⟩
  rw [hle, ← hf, vflat_take, ← h2]
  exact h3

set_option maxRecDepth 100000 in
set_option maxHeartbeats 4000000 in
theorem delV_any (base g cap B : Nat) (ds : List VolD) (ids : List Int) (w : World) (hX : OwnVols w base (.slice (some ⟨g, 0, none⟩) ds.length cap) ds) (hl : ds.length ≤ 100000) (hli : ids.length ≤ 100000) (hB : KeepsIds w (some g) B ids) :
    Calls Try.prog 60 #[.slice (some ⟨g, 0, none⟩) ds.length cap, .func (.func 61) #[] #[.pointer (some ⟨B, 0, none⟩)]] w fun e w' => e = .returned (.slice (some ⟨g, 0, none⟩) (restW ids ds).length cap) ∧ OwnVols w' base (.slice (some ⟨g, 0, none⟩) (restW ids ds).length cap) (restW ids ds) ∧ w.grownBy w' (some g) := by
  have HB : Hid (KeepsIds w (some g) B ids) := hB
  have HIX : Hid (Calls Try.prog 78 #[.slice (some ⟨g, 0, none⟩) ds.length cap, .func (.func 61) #[] #[.pointer (some ⟨B, 0, none⟩)]] w fun e w' => e = .returned (.int .i64 (optI (ds.findIdx? fun d => decide (d.id ∈ ids)))) ∧ Below w.heap.size w w') := by
    obtain ⟨a, c, e, hat, _⟩ := hX.at
    simp only [Value.slice.injEq, true_and] at e
    obtain ⟨rfl, rfl⟩ := e
    obtain ⟨ai, ci, hc, hi⟩ := hB w (gbOf (nwR w) _)
    exact idxv_any _ ds cap ids B ai ci w hat hl hli hc hi
  cases hfi : ds.findIdx? fun d => decide (d.id ∈ ids) with
  | none =>
    have HX : Hid (∀ w1, Below w.heap.size w w1 → OwnVols w1 base (.slice (some ⟨g, 0, none⟩) ds.length cap) ds) := fun w1 h => hX.below h
    have HRA : Hid (restW ids ds = ds) := restW_all hfi
    have HI2 : Hid (Calls Try.prog 78 #[.slice (some ⟨g, 0, none⟩) ds.length cap, .func (.func 61) #[] #[.pointer (some ⟨B, 0, none⟩)]] w fun e w' => e = .returned (.int .i64 (-1)) ∧ Below w.heap.size w w') := by
      have h := HIX.out; rw [hfi] at h; exact h
    clear hX HIX hfi hB
    rw [HRA.out]
    go_enter Try.func60, Try.ntmps60
    go_wp2_with fail
    refine HI2.out.mono ?_
    rintro e w1 ⟨rfl, hb1⟩
    go_wp2_with fail
    go_ret
    exact ⟨rfl, HX.out _ hb1, gbOf hb1 _⟩
  | some k =>
    have HI2 : Hid (Calls Try.prog 78 #[.slice (some ⟨g, 0, none⟩) ds.length cap, .func (.func 61) #[] #[.pointer (some ⟨B, 0, none⟩)]] w fun e w' => e = .returned (.int .i64 (k : Int)) ∧ Below w.heap.size w w') := by
      have h := HIX.out; rw [hfi] at h; exact h
    rw [List.findIdx?_eq_some_iff_getElem] at hfi
    obtain ⟨hkl, hk1, hk2⟩ := hfi
    obtain ⟨gs, hd, hrow0, hown⟩ := hX
    have hlen : gs.length = ds.length := by rw [← hd, List.length_map]
    have HST : Hid (Sift (stayV ids) gs gs k (k + 1)) := by
      refine sift_start (by omega) (fun t ht x hx => ?_) (fun x hx => ?_)
      · have := hk2 t ht
        have e : ds[t]? = some x.d := by rw [← hd, List.getElem?_map, hx]; rfl
        have e2 := (List.getElem?_eq_some_iff.1 e).2
        unfold stayV
        rw [← e2]
        simpa using this
      · have e : ds[k]? = some x.d := by rw [← hd, List.getElem?_map, hx]; rfl
        have e2 := (List.getElem?_eq_some_iff.1 e).2
        unfold stayV
        rw [← e2, hk1]; rfl
    have HO : Hid (RowW w base g ds.length cap gs) := by show RowW _ _ _ _ _ _; unfold RowW; rw [hlen] at hrow0; exact hrow0
    have HOW : Hid (∀ w', w.grownBy w' (some g) → ∀ x ∈ gs, OwnFiles w' base x.fv x.d.files) := fun w' h x hx => (hown x hx).grown hrow0 h
    have hcap : ds.length ≤ cap := by
      rcases hrow0.2 with ⟨h1, _⟩ | ⟨g', cap', cur, h1, _, _, h4, _⟩
      · simp at h1
      · simp only [Value.slice.injEq] at h1; omega
    have HE : Hid (∀ m w', m = (restW ids ds).length → OwnVols w' base (.slice (some ⟨g, 0, none⟩) m cap) (restW ids (gs.map VV.d)) → w.grownBy w' (some g) → (Ending.returned (.slice (some ⟨g, 0, none⟩) m cap) = .returned (.slice (some ⟨g, 0, none⟩) (restW ids ds).length cap) ∧ OwnVols w' base (.slice (some ⟨g, 0, none⟩) (restW ids ds).length cap) (restW ids ds) ∧ w.grownBy w' (some g))) := by
      intro m w' hm h1 h2
      subst hm
      rw [hd] at h1
      exact ⟨rfl, h1, h2⟩
    have HLE : Hid (∀ m gs', Sift (stayV ids) gs gs' m gs.length → m = (restW ids ds).length) := by
      intro m gs' h
      have := h.le rfl
      rw [← hd, ← restW_map, List.length_map, this]
    clear hk1 hk2 hB hrow0 hown hd HIX
    have hk1 : ((k : Int) == -1) = false := beq_eq_false_iff_ne.2 (by omega)
    generalize (restW ids ds).length = rl at *
    generalize restW ids ds = rs at *
    generalize ds.length = n at *
    go_enter Try.func60, Try.ntmps60
    go_wp2_with fail
    refine HI2.out.mono ?_
    rintro e w1 ⟨rfl, hb1⟩
    have HO1 : Hid (RowW w1 base g n cap gs) := own_below HO.out hb1
    have HG1 : Hid (w.grownBy w1 (some g)) := gbOf hb1 _
    clear hb1 HI2
    have HLN : Hid (gs.length = n) := hlen
    have hln1 : gs.length ≤ n := by omega
    have hln2 : n ≤ gs.length := by omega
    clear hlen
    go_wp2_with fail
    go_loopw [5, 6] (fun s5 s6 wr => ∃ (m j : Nat), s5 = .int .i64 m ∧ s6 = .int .i64 j ∧ m < j ∧ j ≤ n ∧ Hid (∃ gs', Sift (stayV ids) gs gs' m j ∧ RowW wr base g n cap gs') ∧ Hid (w.grownBy wr (some g)))
      (fun _ s6 _ => n - (intOf s6).toNat)
    case atStart => exact ⟨k, k + 1, rfl, by go_num, by omega, by omega, ⟨gs, HST.out, HO1.out⟩, HG1⟩
    case round =>
      obtain ⟨m, j, rfl, rfl, hmj, hjl, HOr, HGr⟩ := hrel
      obtain ⟨gs', hst, hro⟩ := HOr.out
      have HS : Hid (Sift (stayV ids) gs gs' m j) := hst
      have HR : Hid (RowW wr base g n cap gs') := hro
      have HSL : Hid (gs'.length = n) := by show _ = _; have := hst.len; omega
      clear hst hro HOr
      by_cases hjn : j < n
      · have hjni : (j : Int) < (n : Int) := by omega
        have hmni : (m : Int) < (n : Int) := by omega
        obtain ⟨x, hx⟩ : ∃ x, gs[j]? = some x := ⟨_, List.getElem?_eq_getElem (by omega)⟩
        have hxs : gs'[j]? = some x := by rw [HS.out.get (Nat.le_refl _)]; exact hx
        obtain ⟨c0, c1, c2, c3, c4⟩ := HR.out.cellAt hxs
        have HFX : Hid (OwnFiles wr base x.fv x.d.files) := HOW.out wr HGr.out x (List.mem_of_getElem? hx)
        have HKP : Hid (stayV ids x = true → Sift (stayV ids) gs (gs'.set m x) (m + 1) (j + 1)) := fun h => HS.out.keep hx h
        have HSK : Hid (stayV ids x = false → Sift (stayV ids) gs gs' m (j + 1)) := fun h => HS.out.skip hx h
        obtain ⟨af, cf, e1, hfa, hck⟩ := HFX.out.at
        obtain ⟨xd, xf⟩ := x
        simp only at e1 c0 c1 c2 c3 c4
        subst e1
        have HFV : Hid (VolVal wr (.agg #[.int .i64 xd.id, .int .i64 xd.fr, .bool xd.snap, .slice af xd.files.length cf, .int .i64 xd.next]) xd) := ⟨af, cf, rfl, hfa, hck⟩
        clear hx hxs hfa hck HFX
        have HBA : Hid (Below wr.heap.size wr (wr.alloc (.cells #[.int .i64 xd.id, .int .i64 xd.fr, .bool xd.snap, .slice af xd.files.length cf, .int .i64 xd.next] 32))) := nwA (nwR wr) _
        have HB2 : Hid ((wr.alloc (.cells #[.int .i64 xd.id, .int .i64 xd.fr, .bool xd.snap, .slice af xd.files.length cf, .int .i64 xd.next] 32)).heap[wr.heap.size]? = some (.cells #[.int .i64 xd.id, .int .i64 xd.fr, .bool xd.snap, .slice af xd.files.length cf, .int .i64 xd.next] 32 (0, 0))) := heap_alloc_new wr _
        have HD1 : Hid (Calls Try.prog 61 #[.agg #[.int .i64 xd.id, .int .i64 xd.fr, .bool xd.snap, .slice af xd.files.length cf, .int .i64 xd.next], .pointer (some ⟨B, 0, none⟩)] (wr.alloc (.cells #[.int .i64 xd.id, .int .i64 xd.fr, .bool xd.snap, .slice af xd.files.length cf, .int .i64 xd.next] 32)) fun e w' => e = .returned (.bool (decide (xd.id ∈ ids))) ∧ Below (wr.alloc (.cells #[.int .i64 xd.id, .int .i64 xd.fr, .bool xd.snap, .slice af xd.files.length cf, .int .i64 xd.next] 32)).heap.size (wr.alloc (.cells #[.int .i64 xd.id, .int .i64 xd.fr, .bool xd.snap, .slice af xd.files.length cf, .int .i64 xd.next] 32)) w') := by
          obtain ⟨ai, ci, hc, hi⟩ := HB.out _ (HGr.out.trans (gbOf HBA.out _))
          exact clov_any _ xd ids B ai ci _ (HFV.out.below HBA.out) hli hc hi
        go_wp2_with fail
        refine HD1.out.mono ?_
        rintro e w2 ⟨rfl, hb2⟩
        have hbw2 := nwT HBA.out hb2
        obtain ⟨d0, d1, d2, d3, d4, _⟩ := five ((hb2.block _ (Array.getElem?_eq_some_iff.1 HB2.out).1).trans HB2.out)
        have HO2 : Hid (RowW w2 base g n cap gs') := own_below HR.out hbw2
        have HG2 : Hid (w.grownBy w2 (some g)) := HGr.out.trans (gbOf hbw2 _)
        obtain ⟨y, hy⟩ : ∃ y, gs'[m]? = some y := ⟨_, List.getElem?_eq_getElem (by have := HSL.out; omega)⟩
        obtain ⟨t0, t1, t2, t3, t4⟩ := HO2.out.cellAt hy
        have tf : ∀ o, w2.frozen? ⟨g, o, none⟩ = false := fun o => World.ownsRow.frozenAt HO2.out o
        clear c0 c1 c2 c3 c4 hy HD1 HB2
        cases hin : decide (xd.id ∈ ids)
        case false =>
          have HN : Hid (Sift (stayV ids) gs (gs'.set m ⟨xd, .slice af xd.files.length cf⟩) (m + 1) (j + 1)) := HKP.out (by unfold stayV; simp only; rw [hin]; rfl)
          clear hin
          go_wp2_with fail
          go_roundw
          case rel =>
            refine ⟨m + 1, j + 1, by go_num, by go_num, by omega, by omega, ⟨gs'.set m ⟨xd, .slice af xd.files.length cf⟩, HN.out, ?_⟩, gb_setg (gb_setg (gb_setg (gb_setg (gb_setg HG2.out _) _) _) _) _⟩
            exact HO2.out.setAt ⟨xd, .slice af xd.files.length cf⟩ (i := m) (by have := HSL.out; omega)
          case measure => simp [intOf]; omega
        case true =>
          have HN : Hid (Sift (stayV ids) gs gs' m (j + 1)) := HSK.out (by unfold stayV; simp only; rw [hin]; rfl)
          clear hin
          go_wp2_with fail
          go_roundw
          case rel => exact ⟨m, j + 1, rfl, by go_num, by omega, by omega, ⟨gs', HN.out, HO2.out⟩, HG2⟩
          case measure => simp [intOf]; omega
      · have hjni : ¬ (j : Int) < (n : Int) := by omega
        have HJN : Hid (j = n) := by show _ = _; omega
        have tf : ∀ o, wr.frozen? ⟨g, o, none⟩ = false := fun o => World.ownsRow.frozenAt HR.out o
        obtain ⟨vs, hcl⟩ := clear_vols wr g (m * 5) (n - m) (cap - m) (fun t ht => by
          have e : (vflat gs')[m * 5 + t]? = some ((vflat gs')[m * 5 + t]'(by rw [vflat_len]; have := HSL.out; omega)) := List.getElem?_eq_getElem _
          have := World.ownsRow.cells HR.out (g := g) rfl _ _ e
          rw [addr_add, Nat.zero_add] at this
          rw [this]; rfl) tf
        go_wp2_with fail
        go_ret
        have HGE : w.grownBy (wr.setCells g (m * 5) vs) (some g) := gb_setCells vs (m * 5) wr HGr.out
        have hst := HS.out
        rw [HJN.out] at hst
        exact HE.out m _ (HLE.out m gs' (by rw [HLN.out]; exact hst)) (OwnVols.sifted hst HLN.out HR.out (HOW.out _ HGE)) HGE

end Go.Proofs.Ytodahdnnlkcfdaa

/- Volumes without some, and the snapshots of one, by the program. -/
namespace Go.Proofs.Ytodahdnnlkcfdaa
open Go.RowKit

set_option maxRecDepth 100000 in
set_option maxHeartbeats 1000000 in
theorem without_any (base base' g cap : Nat) (ds : List VolD) (u : Value) (ids : List Int) (w : World) (hX : OwnVols w base (.slice (some ⟨g, 0, none⟩) ds.length cap) ds) (hu : OwnInts w base' u ids) (hl : ds.length ≤ 100000) (hli : ids.length ≤ 100000) :
    Calls Try.prog 45 #[.slice (some ⟨g, 0, none⟩) ds.length cap, u] w fun e w' => e = .returned (.slice (some ⟨g, 0, none⟩) (restW ids ds).length cap) ∧ OwnVols w' base (.slice (some ⟨g, 0, none⟩) (restW ids ds).length cap) (restW ids ds) ∧ w.grownBy w' (some g) := by
  obtain ⟨ai, ci, rfl, _, _⟩ := id hu.at
  obtain ⟨W0, hW0⟩ : ∃ W0, W0 = w.alloc (.cells #[.slice ai ids.length ci] 79) := ⟨_, rfl⟩
  have hb0 : Below w.heap.size w W0 := by rw [hW0]; exact nwA (nwR w) _
  have hB0 : W0.heap[w.heap.size]? = some (.cells #[.slice ai ids.length ci] 79 (0, 0)) := by rw [hW0]; exact heap_alloc_new w _
  have HG0 : Hid (w.grownBy W0 (some g)) := gbOf hb0 _
  have hX0 := hX.below hb0
  have HX0 : Hid (OwnVols W0 base (.slice (some ⟨g, 0, none⟩) ds.length cap) ds) := hX0
  have HK : Hid (KeepsIds W0 (some g) w.heap.size ids) := by
    intro w' hg
    obtain ⟨gs, _, hrow, _⟩ := hX0
    have hne : w.heap.size ≠ g := by
      intro e
      obtain ⟨cs, h1⟩ := own_tag hrow g rfl
      rw [← e, hB0] at h1
      simp at h1
    have h2 := (hg.block _ (Array.getElem?_eq_some_iff.1 hB0).1 (by simpa using hne)).trans hB0
    have h3 : OwnInts w' base' (.slice ai ids.length ci) ids := own_other (own_below hu hb0) hrow (by decide) hg
    obtain ⟨ai', ci', e, h4, _⟩ := h3.at
    injection e with e1 _ e2
    subst e1; subst e2
    exact ⟨_, _, cell_of_blk h2, h4⟩
  clear hX hu hX0 hB0 hb0
  go_enter Try.func45, Try.ntmps45
  go_wp2_with fail
  rw [← hW0]
  clear hW0
  refine (delV_any base g cap _ ds ids W0 HX0.out hl hli HK.out).mono ?_
  rintro e w1 ⟨rfl, ho, hg⟩
  have HO : Hid (OwnVols w1 base (.slice (some ⟨g, 0, none⟩) (restW ids ds).length cap) (restW ids ds)) := ho
  have HG : Hid (w.grownBy w1 (some g)) := HG0.out.trans hg
  clear ho hg HG0 HK HX0
  go_wp2_with fail
  go_ret
  exact ⟨rfl, HO.out, HG.out⟩

/-- the IDs of a volume's snapshots -/
def snapsF (ds : List VolD) (id : Int) : List Int := (ds.filter fun d => d.snap && (d.fr == id)).map VolD.id
theorem snapsF_snoc (ds : List VolD) (d : VolD) (id : Int) : snapsF (ds ++ [d]) id = snapsF ds id ++ (if d.snap = true ∧ d.fr = id then [d.id] else []) := by
  unfold snapsF
  rw [List.filter_append, List.map_append]
  congr 1
  by_cases h1 : d.snap = true
  · by_cases h2 : d.fr = id
    · simp [h1, h2]
    · simp [h1, h2]
  · simp [h1]
theorem snapsF_le (ds : List VolD) (id : Int) : (snapsF ds id).length ≤ ds.length := by
  unfold snapsF; rw [List.length_map]; exact List.length_filter_le _ _

set_option maxRecDepth 100000 in
set_option maxHeartbeats 2000000 in
theorem snaps_any (a : Option Addr) (ds : List VolD) (ca : Nat) (id : Int) (w : World) (hv : VolsAt w a ds) (hl : ds.length ≤ 100000) :
    Calls Try.prog 49 #[.slice a ds.length ca, .int .i64 id] w fun e w' => (∃ v, e = .returned v ∧ OwnInts w' w.heap.size v (snapsF ds id)) ∧ Below w.heap.size w w' := by
  have HF : Hid (VolsAt w a ds) := hv
  clear hv
  obtain ⟨i0, hi, hz0, hz1, hz2⟩ := info_parts Try.info3
  go_enter Try.func49, Try.ntmps49
  go_wp2_with fail
  go_loopw [5, 10] (fun v i wr => ∃ (k : Nat), k ≤ ds.length ∧ i = .int .i64 k ∧ OwnInts wr w.heap.size v (snapsF (ds.take k) id) ∧ Below w.heap.size w wr)
    (fun _ i _ => ds.length - (intOf i).toNat)
  case atStart => exact ⟨0, by omega, rfl, World.ownsRow_nil _ _ _ _, nwR w⟩
  case round =>
    obtain ⟨k, hk, rfl, hO, hb⟩ := hrel
    have HO : Hid (OwnInts wr w.heap.size u5 (snapsF (ds.take k) id)) := hO
    clear hO
    by_cases hkl : k < ds.length
    · have hkli : (k : Int) < (ds.length : Int) := by omega
      obtain ⟨b1, o1, rfl, hf⟩ := (HF.out.below hb).vol hkl
      obtain ⟨af, cf, ⟨c0, c1, c2, c3, c4⟩, hvv⟩ := hf.val
      have HS : Hid (snapsF (ds.take (k + 1)) id = snapsF (ds.take k) id ++ (if (ds.getD k VZ).snap = true ∧ (ds.getD k VZ).fr = id then [(ds.getD k VZ).id] else [])) := by
        show _ = _
        rw [← snapsF_snoc, List.take_succ_eq_append_getElem hkl]; simp [List.getD, hkl]
      have hlt : (snapsF (ds.take k) id).length ≤ 100000 := by
        have := snapsF_le (ds.take k) id
        rw [List.length_take] at this; omega
      generalize ds.getD k VZ = d at c0 c1 c2 c3 c4 HS hvv
      generalize snapsF (ds.take k) id = ys at HO HS hlt
      clear hf hvv
      have HBA : Hid (Below w.heap.size w (wr.alloc (.cells #[.int .i64 d.id, .int .i64 d.fr, .bool d.snap, .slice af d.files.length cf, .int .i64 d.next] 32))) := nwA hb _
      have HOA : Hid (OwnInts (wr.alloc (.cells #[.int .i64 d.id, .int .i64 d.fr, .bool d.snap, .slice af d.files.length cf, .int .i64 d.next] 32)) w.heap.size u5 ys) := own_below HO.out (nwA (nwR wr) _)
      cases hsn : d.snap
      case false =>
        have HN : Hid (snapsF (ds.take (k + 1)) id = ys) := by show _ = _; rw [HS.out, if_neg (by rw [hsn]; simp), List.append_nil]
        rw [hsn] at c2 HBA HOA
        clear hsn
        go_wp2_with fail
        go_roundw
        case rel => exact ⟨k + 1, by omega, by go_num, by rw [HN.out]; exact HOA.out, HBA.out⟩
        case measure => simp [intOf]; omega
      case true =>
      rw [hsn] at c2 HBA HOA
      by_cases hfr : d.fr = id
      case neg =>
        have HN : Hid (snapsF (ds.take (k + 1)) id = ys) := by show _ = _; rw [HS.out, if_neg (fun h => hfr h.2), List.append_nil]
        have hfr2 : (d.fr == id) = false := beq_eq_false_iff_ne.2 hfr
        clear hsn hfr
        go_wp2_with fail
        go_roundw
        case rel => exact ⟨k + 1, by omega, by go_num, by rw [HN.out]; exact HOA.out, HBA.out⟩
        case measure => simp [intOf]; omega
      case pos =>
        have HN : Hid (snapsF (ds.take (k + 1)) id = ys ++ [d.id]) := by show _ = _; rw [HS.out, if_pos ⟨hsn, hfr⟩]
        have hfr2 : (d.fr == id) = true := by rw [hfr]; simp
        clear hsn hfr
        have hsz : w.heap.size ≤ ((wr.alloc (.cells #[.int .i64 d.id, .int .i64 d.fr, .bool true, .slice af d.files.length cf, .int .i64 d.next] 32)).alloc (.cells #[.int .i64 d.id] 3)).heap.size := (nwA HBA.out _).size
        have HC : Hid (∀ j u, [Value.int .i64 d.id][j]? = some u → ((wr.alloc (.cells #[.int .i64 d.id, .int .i64 d.fr, .bool true, .slice af d.files.length cf, .int .i64 d.next] 32)).alloc (.cells #[.int .i64 d.id] 3)).cell? ((⟨wr.heap.size + 1, 0, none⟩ : Addr).add j) = some u) := by
          have h := cells_new (wr.alloc (.cells #[.int .i64 d.id, .int .i64 d.fr, .bool true, .slice af d.files.length cf, .int .i64 d.next] 32)) [.int .i64 d.id] 3
          rw [show (wr.alloc (.cells #[.int .i64 d.id, .int .i64 d.fr, .bool true, .slice af d.files.length cf, .int .i64 d.next] 32)).heap.size = wr.heap.size + 1 from by simp] at h
          exact h
        have hc3 : ys.length + 1 ≤ maxLen := by unfold maxLen; omega
        have hc4 : (ys.length + 1) * 8 ≤ 140737488355328 := by omega
        go_wp2_with (at_builtin; refine wpList_append_own _ rfl (.tmp 22) (.tmp 25) 79 rfl w.heap.size 3 i0 (.int .i64 0) 1 8 Try.underlying79 hi hz0 hz1 hz2 rfl (by decide) u5 ys.length (ys.map (.int .i64)) rfl (World.ownsRow.alloc HOA.out _) ⟨wr.heap.size + 1, 0, none⟩ 1 1 [.int .i64 d.id] rfl rfl HC.out (by simp [Value.oneCell']) hc3 hc4 hsz ?_; intro v' w3 hown hgrow _; refine unstop ?_)
        unfold Stop
        have HB3 : Hid (Below w.heap.size w w3) := (nwA HBA.out _).grown hgrow (nwA HBA.out _).size (fun q e => (HOA.out.lt q e))
        have HO3 : Hid (OwnInts w3 w.heap.size v' (snapsF (ds.take (k + 1)) id)) := by rw [HN.out]; exact OwnInts.snoc hown
        clear hown hgrow
        go_wp2_with fail
        go_roundw
        case rel => exact ⟨k + 1, by omega, by go_num, HO3.out, HB3.out⟩
        case measure => simp [intOf]; omega
    · have hkli : ¬ (k : Int) < (ds.length : Int) := by omega
      have HOE : Hid (OwnInts wr w.heap.size u5 (snapsF ds id)) := by have := HO.out; rw [List.take_of_length_le (by omega)] at this; exact this
      clear HO
      have h := HOE.out
      obtain ⟨av, cv, rfl, _⟩ := h.at
      go_wp2_with fail
      go_ret
      exact ⟨⟨_, rfl, HOE.out⟩, hb⟩

end Go.Proofs.Ytodahdnnlkcfdaa

/- A volume dropped, by the program. -/
namespace Go.Proofs.Ytodahdnnlkcfdaa
open Go.RowKit

theorem ownInts_one (w : World) (x : Int) {base : Nat} (hb : base ≤ w.heap.size) : OwnInts (w.alloc (.cells #[.int .i64 x] 3)) base (.slice (some ⟨w.heap.size, 0, none⟩) 1 1) [x] := by
  exact ⟨rfl, .inr ⟨w.heap.size, 1, #[.int .i64 x], rfl, hb, heap_alloc_new w _, Nat.le_refl _, by unfold maxLen; omega, rfl, rfl⟩⟩

/-- what a drop gives: the error, and the volumes -/
def drpF (ds : List VolD) (id : Int) : Int × List VolD :=
  match atV ds id with
  | none => (3, [])
  | some _ => if 0 < (snapsF ds id).length then (8, []) else (0, restW [id] ds)
def TwoPost (r : Int × List VolD) (ok : Prop) (base : Nat) (e : Ending) (w' : World) : Prop :=
  ∃ u er dd, e = .returned (.tuple #[u, .int .i64 er]) ∧ OwnVols w' base u dd ∧ ProgR ok r er dd

set_option maxRecDepth 100000 in
set_option maxHeartbeats 4000000 in
theorem dropp_any (a : Option Addr) (ds : List VolD) (ca : Nat) (next id : Int) (w : World) (hv : VolsAt w a ds) (hs : SmallW ds) :
    Calls Try.prog 22 #[.slice a ds.length ca, .int .i64 next, .int .i64 id] w fun e w' => TwoPost (drpF ds id) (VolsOk ds next) w.heap.size e w' ∧ Below w.heap.size w w' := by
  have HS : Hid (SmallW ds) := hs
  have HV : Hid (VolsAt w a ds) := hv
  clear hs hv
  go_enter Try.func22, Try.ntmps22
  go_wp2_with fail
  refine (open_any a ds ca next id w HV.out HS.out).mono ?_
  rintro e w1 ⟨ho, hb1⟩
  have HB1 : Hid (Below w.heap.size w w1) := hb1
  rcases ho with ⟨hno, rfl⟩ | ⟨hok, hat, rfl⟩ | ⟨k, S, g, cap, hok, hat, rfl, hsh⟩
  · have HQ : Hid (TwoPost (drpF ds id) (VolsOk ds next) w.heap.size (.returned (.tuple #[.slice none 0 0, .int .i64 1])) (w1.alloc (.cells #[.pointer none] 67))) := ⟨_, 1, [], rfl, ownVs_nil _ _, .inr ⟨hno, rfl, rfl⟩⟩
    clear hno
    go_wp2_with fail
    go_ret2
    exact ⟨HQ.out, nwA HB1.out _⟩
  · have HQ : Hid (TwoPost (drpF ds id) (VolsOk ds next) w.heap.size (.returned (.tuple #[.slice none 0 0, .int .i64 3])) (w1.alloc (.cells #[.pointer none] 67))) := ⟨_, 3, [], rfl, ownVs_nil _ _, .inl ⟨hok, by unfold drpF; rw [hat]⟩⟩
    clear hok hat
    go_wp2_with fail
    go_ret2
    exact ⟨HQ.out, nwA HB1.out _⟩
  · have HOK : Hid (VolsOk ds next) := hok
    have hl := HS.out.1
    have HUF : Hid (drpF ds id = if 0 < (snapsF ds id).length then (8, []) else (0, restW [id] ds)) := by show _ = _; unfold drpF; simp only [hat]
    have HSH : Hid (ShelfAt w1 w.heap.size S g cap ds next) := hsh
    have HBA : Hid (Below w1.heap.size w1 (w1.alloc (.cells #[.pointer (some ⟨g, k * 5, none⟩)] 67))) := nwA (nwR w1) _
    have HSA : Hid (ShelfAt (w1.alloc (.cells #[.pointer (some ⟨g, k * 5, none⟩)] 67)) w.heap.size S g cap ds next) := HSH.out.below HBA.out
    have HB2 : Hid (Below w.heap.size w (w1.alloc (.cells #[.pointer (some ⟨g, k * 5, none⟩)] 67))) := nwA HB1.out _
    have hva : VolsAt (w1.alloc (.cells #[.pointer (some ⟨g, k * 5, none⟩)] 67)) (some ⟨g, 0, none⟩) ds := by
      obtain ⟨a', c', e, h, _⟩ := HSA.out.own.at; injection e with e1 _ _; rw [e1]; exact h
    have HVA : Hid (VolsAt (w1.alloc (.cells #[.pointer (some ⟨g, k * 5, none⟩)] 67)) (some ⟨g, 0, none⟩) ds) := hva
    obtain ⟨s0, s1, _⟩ := two_cells HSA.out.hp
    clear hok hat hsh hva
    go_wp2_with fail
    refine (snaps_any (some ⟨g, 0, none⟩) ds cap id _ HVA.out hl).mono ?_
    rintro e w2 ⟨⟨v, rfl, hv⟩, hb2⟩
    have HB3 : Hid (Below w.heap.size w w2) := nwT HB2.out hb2
    have HS3 : Hid (ShelfAt w2 w.heap.size S g cap ds next) := HSA.out.below hb2
    obtain ⟨av, cv, rfl, _, _⟩ := hv.at
    clear hv hb2 HVA HSA HBA HSH
    by_cases hsn : 0 < (snapsF ds id).length
    · have hsni : (0 : Int) < ((snapsF ds id).length : Int) := by omega
      have HQ : Hid (∀ w', TwoPost (drpF ds id) (VolsOk ds next) w.heap.size (.returned (.tuple #[.slice none 0 0, .int .i64 8])) w') := fun w' => ⟨_, 8, [], rfl, ownVs_nil _ _, .inl ⟨HOK.out, by rw [HUF.out, if_pos hsn]⟩⟩
      generalize (snapsF ds id).length = sl at hsni ⊢
      clear hsn
      go_wp2_with fail
      go_ret2
      exact ⟨HQ.out _, HB3.out⟩
    · have hsni : ¬ (0 : Int) < ((snapsF ds id).length : Int) := by omega
      have HUF2 : Hid (drpF ds id = (0, restW [id] ds)) := by show _ = _; rw [HUF.out, if_neg hsn]
      generalize (snapsF ds id).length = sl at hsni ⊢
      obtain ⟨t0, t1, _⟩ := two_cells HS3.out.hp
      have hle := HB3.out.size
      have HOI : Hid (OwnInts (w2.alloc (.cells #[.int .i64 id] 3)) w.heap.size (.slice (some ⟨w2.heap.size, 0, none⟩) 1 1) [id]) := ownInts_one w2 id hle
      have HOV : Hid (OwnVols (w2.alloc (.cells #[.int .i64 id] 3)) w.heap.size (.slice (some ⟨g, 0, none⟩) ds.length cap) ds) := HS3.out.own.below (nwA (nwR w2) _)
      have HB4 : Hid (Below w.heap.size w (w2.alloc (.cells #[.int .i64 id] 3))) := nwA HB3.out _
      clear hsn HUF hle
      go_wp2_with fail
      refine (without_any w.heap.size w.heap.size g cap ds _ [id] _ HOV.out HOI.out hl (by simp)).mono ?_
      rintro e w3 ⟨rfl, ho, hg⟩
      have HQ : Hid (TwoPost (drpF ds id) (VolsOk ds next) w.heap.size (.returned (.tuple #[.slice (some ⟨g, 0, none⟩) (restW [id] ds).length cap, .int .i64 0])) w3) := ⟨_, 0, _, rfl, ho, .inl ⟨HOK.out, HUF2.out.symm⟩⟩
      have HB5 : Hid (Below w.heap.size w w3) := HB4.out.grown hg HB4.out.size (fun q e => by
        injection e with e; subst e
        obtain ⟨gs, _, hrow, _⟩ := HOV.out
        exact (World.ownsRow.lt hrow _ rfl).1)
      clear ho hg
      go_wp2_with fail
      go_ret2
      exact ⟨HQ.out, HB5.out⟩

end Go.Proofs.Ytodahdnnlkcfdaa
