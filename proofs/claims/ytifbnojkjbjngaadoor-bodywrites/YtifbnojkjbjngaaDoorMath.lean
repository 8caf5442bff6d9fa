/- Plain mathematics: texts in pieces (no program is named). -/
import Derived.Lib.Strings
import Derived.Lib.Join
import Derived.Lib.Repeat
import Derived.Lib.TrimByte
namespace Go.Proofs.YtifbnojkjbjngaaDoor

def ls (x : ByteArray) : List UInt8 := x.data.toList
def bs (l : List UInt8) : ByteArray := ⟨l.toArray⟩
theorem ls_bs (l : List UInt8) : ls (bs l) = l := by simp [ls, bs]
theorem bs_ls (x : ByteArray) : bs (ls x) = x := by cases x; simp [ls, bs]
theorem ls_size (x : ByteArray) : (ls x).length = x.size := by simp [ls]
theorem bs_size (l : List UInt8) : (bs l).size = l.length := by rw [← ls_size, ls_bs]
theorem ls_inj {x y : ByteArray} (h : ls x = ls y) : x = y := by rw [← bs_ls x, h, bs_ls]
theorem bs_inj {x y : List UInt8} (h : bs x = bs y) : x = y := by rw [← ls_bs x, h, ls_bs]
def zs (n : Nat) : List UInt8 := List.replicate n 0
theorem zs_len (n : Nat) : (zs n).length = n := by simp [zs]
theorem zs_add (a b : Nat) : zs a ++ zs b = zs (a + b) := by simp [zs, List.replicate_append_replicate]
theorem zs_drop (a b : Nat) : (zs a).drop b = zs (a - b) := by simp [zs]
theorem zs_take (a b : Nat) : (zs a).take b = zs (min b a) := by simp [zs]
def many (n : Nat) : Nat := (n + 31) / 32
def pc (l : List UInt8) : ByteArray := bs (l.take 32 ++ zs (32 - l.length))
theorem pc_size (l : List UInt8) : (pc l).size = 32 := by
  unfold pc; rw [bs_size, List.length_append, List.length_take, zs_len]; omega
def pcs (l : List UInt8) : List ByteArray := if l = [] then [] else pc l :: pcs (l.drop 32)
termination_by l.length
decreasing_by
  rename_i h
  have : l.length ≠ 0 := fun e => h (List.length_eq_zero_iff.1 e)
  rw [List.length_drop]; omega
theorem pcs_nil : pcs [] = [] := by rw [pcs]; rfl
theorem pcs_cons {l : List UInt8} (h : l ≠ []) : pcs l = pc l :: pcs (l.drop 32) := by rw [pcs, if_neg h]
theorem pcs_pos {l : List UInt8} (h : 0 < l.length) : pcs l = pc l :: pcs (l.drop 32) := pcs_cons (fun e => by rw [e] at h; simp at h)
theorem pcs_len (l : List UInt8) : (pcs l).length = many l.length := by
  induction hn : l.length using Nat.strongRecOn generalizing l with
  | ind n ih =>
    by_cases h : l = []
    · subst h; rw [pcs_nil]; simp at hn; subst hn; rfl
    · have : l.length ≠ 0 := fun e => h (List.length_eq_zero_iff.1 e)
      have hd : (l.drop 32).length = n - 32 := by rw [List.length_drop]; omega
      rw [pcs_cons h, List.length_cons, ih (n - 32) (by omega) (l.drop 32) hd]
      unfold many; omega
theorem pcs_size (l : List UInt8) : ∀ x ∈ pcs l, x.size = 32 := by
  induction hn : l.length using Nat.strongRecOn generalizing l with
  | ind n ih =>
    intro x hx
    by_cases h : l = []
    · subst h; rw [pcs_nil] at hx; simp at hx
    · have : l.length ≠ 0 := fun e => h (List.length_eq_zero_iff.1 e)
      have hd : (l.drop 32).length = n - 32 := by rw [List.length_drop]; omega
      rw [pcs_cons h] at hx
      rcases List.mem_cons.1 hx with rfl | hx
      · exact pc_size l
      · exact ih (n - 32) (by omega) (l.drop 32) hd x hx
def cat (xs : List ByteArray) : List UInt8 := (xs.map ls).flatten
theorem cat_nil : cat [] = [] := rfl
theorem cat_cons (x : ByteArray) (xs : List ByteArray) : cat (x :: xs) = ls x ++ cat xs := by simp [cat]
theorem cat_append (xs ys : List ByteArray) : cat (xs ++ ys) = cat xs ++ cat ys := by simp [cat]
theorem cat_len {xs : List ByteArray} (h : ∀ x ∈ xs, x.size = 32) : (cat xs).length = 32 * xs.length := by
  induction xs with
  | nil => rfl
  | cons x xs ih =>
    rw [cat_cons, List.length_append, ls_size, h x (List.mem_cons_self ..), ih (fun y hy => h y (List.mem_cons_of_mem _ hy)), List.length_cons]; omega
theorem cat_pcs (l : List UInt8) : cat (pcs l) = l ++ zs (32 * many l.length - l.length) := by
  induction hn : l.length using Nat.strongRecOn generalizing l with
  | ind n ih =>
    by_cases h : l = []
    · subst h; simp at hn; subst hn; rw [pcs_nil]; rfl
    · have h0 : l.length ≠ 0 := fun e => h (List.length_eq_zero_iff.1 e)
      have hd : (l.drop 32).length = n - 32 := by rw [List.length_drop]; omega
      rw [pcs_cons h, cat_cons, ih (n - 32) (by omega) (l.drop 32) hd]
      unfold pc
      rw [ls_bs]
      by_cases h32 : n ≤ 32
      · have e1 : l.drop 32 = [] := List.drop_eq_nil_of_le (by omega)
        have e2 : l.take 32 = l := List.take_of_length_le (by omega)
        rw [e1, e2]
        have e3 : 32 * many (n - 32) - (n - 32) = 0 := by unfold many; omega
        have e4 : 32 * many n - n = 32 - l.length := by unfold many; omega
        rw [e3, e4]; simp [zs]
      · have e3 : 32 - l.length = 0 := by omega
        have e4 : 32 * many (n - 32) - (n - 32) = 32 * many n - n := by unfold many; omega
        rw [e3, e4]
        simp only [zs, List.replicate_zero, List.append_nil]
        rw [← List.append_assoc, List.take_append_drop]
theorem cat_inj {xs ys : List ByteArray} (hx : ∀ x ∈ xs, x.size = 32) (hy : ∀ x ∈ ys, x.size = 32) (h : cat xs = cat ys) : xs = ys := by
  induction xs generalizing ys with
  | nil =>
    have := congrArg List.length h
    rw [cat_len hy, cat_nil, List.length_nil] at this
    exact (List.length_eq_zero_iff.1 (by omega)).symm
  | cons x xs ih =>
    cases ys with
    | nil =>
      have := congrArg List.length h
      rw [cat_len hx] at this
      simp [cat] at this
    | cons y ys =>
      rw [cat_cons, cat_cons] at h
      have hl : (ls x).length = (ls y).length := by rw [ls_size, ls_size, hx x (List.mem_cons_self ..), hy y (List.mem_cons_self ..)]
      obtain ⟨h1, h2⟩ := List.append_inj h hl
      rw [ls_inj h1, ih (fun z hz => hx z (List.mem_cons_of_mem _ hz)) (fun z hz => hy z (List.mem_cons_of_mem _ hz)) h2]

def evenB (xs : List ByteArray) : Bool := xs.all fun x => decide (x.size = 32)
theorem evenB_mem {xs : List ByteArray} (h : evenB xs = true) : ∀ x ∈ xs, x.size = 32 := by
  intro x hx
  simpa using List.all_eq_true.1 h x hx
def zeroB (l : List UInt8) : Bool := l.all fun c => c == 0
theorem zeroB_eq {l : List UInt8} (h : zeroB l = true) : l = zs l.length := by
  unfold zeroB at h
  rw [List.all_eq_true] at h
  exact List.eq_replicate_iff.2 ⟨rfl, fun b hb => by simpa using h b hb⟩
theorem zeroB_zs (n : Nat) : zeroB (zs n) = true := by
  unfold zeroB; rw [List.all_eq_true]; intro x hx
  have := (List.mem_replicate.1 hx).2; simp [this]
def mayB (n : Int) (xs : List ByteArray) : Bool := decide (0 ≤ n) && decide (n ≤ 200) && decide ((xs.length : Int) = (n + 31) / 32) && evenB xs && zeroB ((cat xs).drop n.toNat)
def tx (n : Int) (xs : List ByteArray) : List UInt8 := (cat xs).take n.toNat
theorem mayB_parts {n : Int} {xs : List ByteArray} (h : mayB n xs = true) : 0 ≤ n ∧ n ≤ 200 ∧ (xs.length : Int) = (n + 31) / 32 ∧ evenB xs = true ∧ zeroB ((cat xs).drop n.toNat) = true := by
  simpa [mayB, and_assoc] using h
theorem mayB_len {n : Int} {xs : List ByteArray} (h : mayB n xs = true) : (cat xs).length = 32 * xs.length ∧ n.toNat ≤ (cat xs).length ∧ (cat xs).length ≤ 224 := by
  obtain ⟨h0, h1, h2, h3, h4⟩ := mayB_parts h
  have := cat_len (evenB_mem h3)
  refine ⟨this, ?_, ?_⟩
  · rw [this]; omega
  · rw [this]; omega
theorem tx_len {n : Int} {xs : List ByteArray} (h : mayB n xs = true) : (tx n xs).length = n.toNat := by
  unfold tx; rw [List.length_take]; have := (mayB_len h).2.1; omega
theorem may_eq {n : Int} {xs : List ByteArray} (h : mayB n xs = true) : xs = pcs (tx n xs) := by
  obtain ⟨h0, h1, h2, h3, h4⟩ := mayB_parts h
  refine cat_inj (evenB_mem h3) (pcs_size _) ?_
  rw [cat_pcs, tx_len h]
  have e := zeroB_eq h4
  have hl := (mayB_len h).1
  rw [List.length_drop] at e
  have e2 : 32 * many n.toNat - n.toNat = (cat xs).length - n.toNat := by rw [hl]; unfold many; omega
  rw [e2, ← e]
  exact (List.take_append_drop n.toNat (cat xs)).symm
theorem may_pcs {l : List UInt8} (h : l.length ≤ 200) : mayB l.length (pcs l) = true := by
  have e : (cat (pcs l)).drop l.length = zs (32 * many l.length - l.length) := by rw [cat_pcs, List.drop_left']; rfl
  have he : evenB (pcs l) = true := by unfold evenB; rw [List.all_eq_true]; intro x hx; simpa using pcs_size l x hx
  unfold mayB
  rw [Int.toNat_natCast, e, zeroB_zs, he, pcs_len]
  unfold many
  simp; omega
theorem tx_pcs (l : List UInt8) : tx l.length (pcs l) = l := by
  unfold tx; rw [Int.toNat_natCast, cat_pcs, List.take_left']; rfl

/- a piece by its place -/
theorem pcs_get (l : List UInt8) (j : Nat) (h : j < many l.length) : (pcs l).getD j ByteArray.empty = pc (l.drop (32 * j)) := by
  induction j generalizing l with
  | zero =>
    have : l ≠ [] := fun e => by subst e; simp [many] at h
    rw [pcs_cons this]; simp [List.getD]
  | succ j ih =>
    have h0 : l ≠ [] := fun e => by subst e; simp [many] at h
    rw [pcs_cons h0]
    have e : (pc l :: pcs (l.drop 32)).getD (j + 1) ByteArray.empty = (pcs (l.drop 32)).getD j ByteArray.empty := by simp [List.getD]
    rw [e, ih (l.drop 32) (by rw [List.length_drop]; unfold many at *; omega), List.drop_drop]
    congr 2
    omega

/- numbers from a on below b -/
def numL (a b : Nat) : List Int := (List.range (b - a)).map fun i => ((a + i : Nat) : Int)
theorem numL_nil {a b : Nat} (h : b ≤ a) : numL a b = [] := by unfold numL; rw [Nat.sub_eq_zero_of_le h]; rfl
theorem numL_succ {a b : Nat} (h : a ≤ b) : numL a (b + 1) = numL a b ++ [(b : Int)] := by
  unfold numL
  rw [show b + 1 - a = (b - a) + 1 from by omega, List.range_succ, List.map_append]
  congr 1
  simp; omega
theorem numL_len (a b : Nat) : (numL a b).length = b - a := by simp [numL]
theorem numL_mem {a b : Nat} {j : Int} : j ∈ numL a b ↔ (a : Int) ≤ j ∧ j < b := by
  unfold numL
  simp only [List.mem_map, List.mem_range]
  constructor
  · rintro ⟨i, hi, rfl⟩; omega
  · rintro ⟨h1, h2⟩; exact ⟨(j - a).toNat, by omega, by omega⟩

/- a text with another in it -/
def wrt (l : List UInt8) (at' : Nat) (t : List UInt8) : List UInt8 := l.take at' ++ t ++ l.drop (at' + t.length)
theorem wrt_len {l : List UInt8} {a : Nat} {t : List UInt8} (h : a ≤ l.length) : (wrt l a t).length = max l.length (a + t.length) := by
  unfold wrt; rw [List.length_append, List.length_append, List.length_take, List.length_drop]; omega
theorem wrt_min {l : List UInt8} {a : Nat} {t : List UInt8} : l.drop (min (a + t.length) l.length) = l.drop (a + t.length) := by
  by_cases h : a + t.length ≤ l.length
  · rw [Nat.min_eq_left h]
  · rw [Nat.min_eq_right (by omega), List.drop_eq_nil_of_le (Nat.le_refl _), List.drop_eq_nil_of_le (by omega)]
def frs (a : Nat) (t : List UInt8) : List Int := if t = [] then [] else numL (a / 32) (many (a + t.length))
def siz (l : List UInt8) (m : Nat) : List UInt8 := l.take m ++ zs (m - l.length)
theorem siz_len (l : List UInt8) (m : Nat) : (siz l m).length = m := by
  unfold siz; rw [List.length_append, List.length_take, zs_len]; omega
def frz (l : List UInt8) (m : Nat) : List Int := if l.length ≤ m then numL (many l.length) (many m) else numL (m / 32) (many m)

theorem dw_nil {p : UInt8 → Bool} {l : List UInt8} : l.dropWhile p = [] ↔ ∀ x ∈ l, p x = true := by
  induction l with
  | nil => simp
  | cons a l ih =>
    by_cases h : p a = true
    · rw [List.dropWhile_cons_of_pos h, ih]; simp [h]
    · rw [List.dropWhile_cons_of_neg h]; simp [h]
theorem dw_head {p : UInt8 → Bool} {l : List UInt8} {a : UInt8} {r : List UInt8} (h : l.dropWhile p = a :: r) : p a = false := by
  induction l with
  | nil => simp at h
  | cons b l ih =>
    by_cases hb : p b = true
    · rw [List.dropWhile_cons_of_pos hb] at h; exact ih h
    · rw [List.dropWhile_cons_of_neg hb] at h
      injection h with h1 h2
      subst h1; simpa using hb
theorem trim_zero (l : List UInt8) : (Lib.trimB l 0 = []) ↔ zeroB l = true := by
  unfold Lib.trimB Lib.trimLeftB Lib.trimRightB zeroB
  constructor
  · intro h
    rw [dw_nil] at h
    rw [List.all_eq_true]
    intro x hx
    cases he : l.reverse.dropWhile (· == 0) with
    | nil => rw [dw_nil] at he; exact he x (List.mem_reverse.2 hx)
    | cons a r =>
      have h1 := dw_head he
      rw [he] at h
      have h2 := h a (by simp)
      rw [h1] at h2; cases h2
  · intro h
    rw [List.all_eq_true] at h
    have : l.reverse.dropWhile (· == 0) = [] := dw_nil.2 (fun x hx => h x (List.mem_reverse.1 hx))
    rw [this]; rfl
theorem rep_zero (n : Nat) : Lib.repeatL [0] n = zs n := by
  induction n with
  | zero => rfl
  | succ n ih => rw [Lib.repeatL, ih]; rfl
theorem join_cat (xs : List ByteArray) : Lib.join (xs.map (·.data.toList)) [] = cat xs := by
  unfold Lib.join cat ls
  induction xs with
  | nil => rfl
  | cons x xs ih =>
    cases xs with
    | nil => simp [List.intercalate]
    | cons y ys =>
      rw [List.map_cons, List.flatten_cons, ← ih]
      simp [List.intercalate]

end Go.Proofs.YtifbnojkjbjngaaDoor
