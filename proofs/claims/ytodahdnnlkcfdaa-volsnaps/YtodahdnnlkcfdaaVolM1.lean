/- Laid together: Shelf, Math, Leaf, Strs, Name, Few, Data, Copy. -/
import Derived.Shelf.Small.Strs
import Derived.Test.YtodahdnnlkcfdaaProg
import Derived.Lib.Bytealg
import Derived.Lib.Strings
import Derived.WalkKit
import Derived.WalkSpells
import Derived.WalkLawsBesides
import Derived.BigQuiet
import Derived.Deep.QuietTactic
import Derived.Deep.RegionHeld3
import Derived.Lib.AppendStr
/- What the library's functions do that the program calls: each by its contract, laid at this program. -/
namespace Go.Proofs
open Go.Shelf

def Try.lays137_ren : Go.Shelf.Ren := ⟨fun | 137 => 102 | 217 => 103 | 266 => 104 | n => n, fun | 9 => 9 | 5 => 5 | 3 => 3 | n => n, fun | n => n⟩

theorem Try.lays137 : Go.Proofs.Lays.n137 Try.prog Try.lays137_ren := {
  mixed := by kernel_rfl
  f137 := Try.func102.trans (congrArg some (by kernel_rfl))
  f217 := Try.func103.trans (congrArg some (by kernel_rfl))
  f266 := Try.func104.trans (congrArg some (by kernel_rfl))
  t3 := Try.underlying3
  a3 := Try.isAgg3
  z3 := Try.sizeOf3
  v3 := Try.zeroValue3
  t5 := Try.underlying5
  a5 := Try.isAgg5
  z5 := Try.sizeOf5
  v5 := Try.zeroValue5
  t9 := Try.underlying9
  a9 := Try.isAgg9
  z9 := Try.sizeOf9
  v9 := Try.zeroValue9 }

open Go.RowKit in
theorem Try.strings_IndexByte (s : ByteArray) (c : Int) (w : World) :
    Calls Try.prog 102 #[.string s, .int .u8 c] w fun e w' => e = .returned (.int .i64 (Lib.indexByte s.data.toList c.toNat.toUInt8)) ∧ w' = w := Any.strings_IndexByte Try.lays137 s c w

end Go.Proofs

/- Plain mathematics: names, paths, their texts (no program is named). -/
namespace Go.Proofs.Ytodahdnnlkcfdaa

def byI (c : Int) : Bool := (decide (97 ≤ c) && decide (c ≤ 122)) || (decide (48 ≤ c) && decide (c ≤ 57)) || decide (c = 46) || decide (c = 95) || decide (c = 45)
def nmL (l : List UInt8) : Bool := decide (1 ≤ l.length) && decide (l.length ≤ 8) && !decide (l = [46]) && !decide (l = [46, 46]) && l.all fun c => byI c.toNat
def fl (xs : List (List UInt8)) : List UInt8 := xs.flatMap fun x => 47 :: x

def sp : List (List UInt8) → List UInt8 → List UInt8 → Option (List (List UInt8))
  | acc, cur, [] => if nmL cur then some (acc ++ [cur]) else none
  | acc, cur, c :: r => if c = 47 then (if nmL cur then sp (acc ++ [cur]) [] r else none) else sp acc (cur ++ [c]) r
def spR (acc : List (List UInt8)) : List UInt8 → Option (List (List UInt8))
  | [] => some acc
  | c :: r => if c = 47 then sp acc [] r else none
def few (o : Option (List (List UInt8))) : Option (List (List UInt8)) := o.filter fun xs => decide (xs.length ≤ 5)
def pathL (l : List UInt8) : Option (List (List UInt8)) :=
  if l = [47] then some [] else if l = [] ∨ 45 < l.length then none else few (spR [] l)
def txL (xs : List (List UInt8)) : List UInt8 := if xs = [] then [47] else fl xs

theorem fl_nil : fl [] = [] := rfl
theorem fl_cons (x : List UInt8) (xs : List (List UInt8)) : fl (x :: xs) = 47 :: x ++ fl xs := by simp [fl]
theorem fl_append (xs ys : List (List UInt8)) : fl (xs ++ ys) = fl xs ++ fl ys := by simp [fl]
theorem fl_snoc (xs : List (List UInt8)) (x : List UInt8) : fl (xs ++ [x]) = fl xs ++ 47 :: x := by simp [fl]

def noS (l : List UInt8) : Prop := ∀ c ∈ l, c ≠ 47
theorem nmL_len {l : List UInt8} (h : nmL l = true) : 1 ≤ l.length ∧ l.length ≤ 8 := by
  simp only [nmL, Bool.and_eq_true, decide_eq_true_eq] at h; exact ⟨h.1.1.1.1, h.1.1.1.2⟩
theorem nmL_noS {l : List UInt8} (h : nmL l = true) : noS l := by
  simp only [nmL, Bool.and_eq_true, List.all_eq_true] at h
  intro c hc e
  have := h.2 c hc
  subst e
  revert this; decide

theorem sp_take (r : List UInt8) : ∀ acc cur, sp acc cur r = if nmL (cur ++ r.takeWhile (· ≠ 47)) then spR (acc ++ [cur ++ r.takeWhile (· ≠ 47)]) (r.dropWhile (· ≠ 47)) else none := by
  induction r with
  | nil => intro acc cur; simp [sp, spR]
  | cons c r ih =>
    intro acc cur
    by_cases hc : c = 47
    · subst hc; simp [sp, spR]
    · simp [sp, hc, ih]
theorem spR_take (acc : List (List UInt8)) (r : List UInt8) : spR acc (47 :: r) = if nmL (r.takeWhile (· ≠ 47)) then spR (acc ++ [r.takeWhile (· ≠ 47)]) (r.dropWhile (· ≠ 47)) else none := by
  show (if (47 : UInt8) = 47 then sp acc [] r else none) = _
  rw [if_pos rfl, sp_take]; simp only [List.nil_append]

theorem tw_noS {l : List UInt8} (h : noS l) (r : List UInt8) : (l ++ 47 :: r).takeWhile (· ≠ 47) = l ∧ (l ++ 47 :: r).dropWhile (· ≠ 47) = 47 :: r := by
  induction l with
  | nil => simp
  | cons c l ih =>
    have hc : c ≠ 47 := h c (by simp)
    have := ih (fun d hd => h d (by simp [hd]))
    constructor
    · rw [List.cons_append, List.takeWhile_cons]; simp [hc]; simpa using this.1
    · rw [List.cons_append, List.dropWhile_cons]; simp [hc]; simpa using this.2
theorem tw_noS_end {l : List UInt8} (h : noS l) : l.takeWhile (· ≠ 47) = l ∧ l.dropWhile (· ≠ 47) = [] := by
  induction l with
  | nil => simp
  | cons c l ih =>
    have hc : c ≠ 47 := h c (by simp)
    have := ih (fun d hd => h d (by simp [hd]))
    constructor
    · rw [List.takeWhile_cons]; simp [hc]; simpa using this.1
    · rw [List.dropWhile_cons]; simp [hc]; simpa using this.2

theorem spR_fl (ys : List (List UInt8)) : ∀ acc, (∀ y ∈ ys, nmL y = true) → spR acc (fl ys) = some (acc ++ ys) := by
  induction ys with
  | nil => intro acc _; simp [fl, spR]
  | cons y ys ih =>
    intro acc h
    have hy := h y (by simp)
    have ih' := ih (acc ++ [y]) (fun z hz => h z (by simp [hz]))
    rw [fl_cons, List.cons_append, spR_take]
    have key : (y ++ fl ys).takeWhile (· ≠ 47) = y ∧ (y ++ fl ys).dropWhile (· ≠ 47) = fl ys := by
      cases ys with
      | nil => simpa [fl] using tw_noS_end (nmL_noS hy)
      | cons z zs => rw [fl_cons, List.cons_append]; exact tw_noS (nmL_noS hy) _
    rw [key.1, key.2, if_pos hy, ih']
    simp

theorem sp_some (r : List UInt8) : ∀ acc cur xs, sp acc cur r = some xs → fl xs = fl acc ++ 47 :: cur ++ r ∧ ((∀ x ∈ acc, nmL x = true) → ∀ x ∈ xs, nmL x = true) := by
  induction r with
  | nil =>
    intro acc cur xs h
    simp only [sp] at h
    split at h
    · rename_i hc
      injection h with h; subst h
      refine ⟨by simp [fl_snoc], fun ha x hx => ?_⟩
      rcases List.mem_append.1 hx with hx | hx
      · exact ha x hx
      · simp at hx; subst hx; exact hc
    · cases h
  | cons c r ih =>
    intro acc cur xs h
    simp only [sp] at h
    split at h
    · rename_i hc; subst hc
      split at h
      · rename_i hn
        obtain ⟨h1, h2⟩ := ih _ _ _ h
        refine ⟨by rw [h1, fl_snoc]; simp, fun ha => h2 (fun x hx => ?_)⟩
        rcases List.mem_append.1 hx with hx | hx
        · exact ha x hx
        · simp at hx; subst hx; exact hn
      · cases h
    · obtain ⟨h1, h2⟩ := ih _ _ _ h
      exact ⟨by rw [h1]; simp, h2⟩
theorem spR_some {acc : List (List UInt8)} {r : List UInt8} {xs : List (List UInt8)} (h : spR acc r = some xs) : fl xs = fl acc ++ r ∧ ((∀ x ∈ acc, nmL x = true) → ∀ x ∈ xs, nmL x = true) := by
  cases r with
  | nil => simp only [spR] at h; injection h with h; subst h; exact ⟨by simp, fun h => h⟩
  | cons c r =>
    simp only [spR] at h
    split at h
    · rename_i hc; subst hc
      obtain ⟨h1, h2⟩ := sp_some _ _ _ _ h
      exact ⟨by rw [h1]; simp, h2⟩
    · cases h

theorem fl_len_le (xs : List (List UInt8)) (h : ∀ x ∈ xs, nmL x = true) : 2 * xs.length ≤ (fl xs).length ∧ (fl xs).length ≤ 9 * xs.length := by
  induction xs with
  | nil => simp [fl]
  | cons x xs ih =>
    have h1 := nmL_len (h x (by simp))
    have h2 := ih (fun z hz => h z (by simp [hz]))
    rw [fl_cons]; simp only [List.length_append, List.length_cons]; omega

theorem few_some {o : Option (List (List UInt8))} {xs : List (List UInt8)} (h : few o = some xs) : o = some xs ∧ xs.length ≤ 5 := by
  unfold few at h
  simpa [Option.filter_eq_some_iff] using h

theorem pathL_some {l : List UInt8} {xs : List (List UInt8)} (h : pathL l = some xs) : txL xs = l ∧ (∀ x ∈ xs, nmL x = true) ∧ xs.length ≤ 5 := by
  unfold pathL at h
  split at h
  · rename_i e; injection h with h; subst h; exact ⟨by simp [txL, e], by simp, by simp⟩
  · split at h
    · cases h
    · rename_i h1 h2
      obtain ⟨h3, h4⟩ := few_some h
      obtain ⟨h5, h6⟩ := spR_some h3
      refine ⟨?_, h6 (by simp), h4⟩
      have : xs ≠ [] := by
        intro e; subst e; simp [fl] at h5; exact h2 (.inl h5)
      simp [txL, this]; simpa [fl] using h5

theorem pathL_tx (xs : List (List UInt8)) (h : ∀ x ∈ xs, nmL x = true) : pathL (txL xs) = if xs.length ≤ 5 then some xs else none := by
  cases hx : xs with
  | nil => simp [txL, pathL]
  | cons y ys =>
    rw [← hx]
    have hne : xs ≠ [] := by rw [hx]; simp
    have hl := fl_len_le xs h
    have hpos : 1 ≤ xs.length := by rw [hx]; simp
    have e : txL xs = fl xs := by simp [txL, hne]
    rw [e]; unfold pathL
    have e1 : fl xs ≠ [47] := by intro e; rw [e] at hl; simp at hl; omega
    have e2 : fl xs ≠ [] := by intro e; rw [e] at hl; simp at hl; omega
    rw [if_neg e1]
    by_cases h5 : xs.length ≤ 5
    · rw [if_neg (by simp [e2]; omega), spR_fl xs [] h, if_pos h5]
      simp [few, Option.filter, h5]
    · rw [if_neg h5]
      by_cases h45 : 45 < (fl xs).length
      · rw [if_pos (.inr h45)]
      · rw [if_neg (by simp [e2]; omega), spR_fl xs [] h]
        simp [few, Option.filter, h5]

theorem tx_inj {xs ys : List (List UInt8)} (hx : ∀ x ∈ xs, nmL x = true) (hy : ∀ x ∈ ys, nmL x = true) (h5 : xs.length ≤ 5) (h : txL xs = txL ys) : xs = ys := by
  have h1 := pathL_tx xs hx
  have h2 := pathL_tx ys hy
  rw [h, h2, if_pos h5] at h1
  split at h1
  · injection h1 with h1; exact h1.symm
  · cases h1

def bs (l : List UInt8) : ByteArray := ⟨l.toArray⟩
def ls (x : ByteArray) : List UInt8 := x.data.toList
theorem bs_ls (x : ByteArray) : bs (ls x) = x := by cases x; simp [bs, ls]
theorem ls_bs (l : List UInt8) : ls (bs l) = l := by simp [bs, ls]
theorem ls_size (x : ByteArray) : (ls x).length = x.size := by simp [ls]
theorem map_bs_ls (xs : List ByteArray) : (xs.map ls).map bs = xs := by
  rw [List.map_map]
  exact (List.map_congr_left fun x _ => bs_ls x).trans (List.map_id xs)
theorem map_ls_bs (xs : List (List UInt8)) : (xs.map bs).map ls = xs := by
  rw [List.map_map]
  exact (List.map_congr_left fun x _ => ls_bs x).trans (List.map_id xs)
theorem bs_eq {l : List UInt8} {x : ByteArray} (h : l = ls x) : bs l = x := by rw [h, bs_ls]
theorem ls_inj {x y : ByteArray} (h : ls x = ls y) : x = y := by rw [← bs_ls x, h, bs_ls]

def nm (x : ByteArray) : Bool := nmL (ls x)
def pathN (s : ByteArray) : Option (List ByteArray) := (pathL (ls s)).map (·.map bs)
def tx (xs : List ByteArray) : ByteArray := bs (txL (xs.map ls))
def un (a b : List ByteArray) : Bool := decide (b.take a.length = a)

theorem pathN_some {s : ByteArray} {xs : List ByteArray} (h : pathN s = some xs) : tx xs = s ∧ (∀ x ∈ xs, nm x = true) ∧ xs.length ≤ 5 := by
  unfold pathN at h
  cases hp : pathL (ls s) with
  | none => rw [hp] at h; cases h
  | some ys =>
    rw [hp] at h; simp at h; subst h
    obtain ⟨h1, h2, h3⟩ := pathL_some hp
    refine ⟨?_, ?_, by simpa using h3⟩
    · unfold tx; rw [map_ls_bs, h1, bs_ls]
    · intro x hx
      obtain ⟨y, hy, rfl⟩ := List.mem_map.1 hx
      unfold nm; rw [ls_bs]; exact h2 y hy
theorem pathN_tx {xs : List ByteArray} (h : ∀ x ∈ xs, nm x = true) : pathN (tx xs) = if xs.length ≤ 5 then some xs else none := by
  unfold pathN tx
  rw [ls_bs, pathL_tx]
  · rw [List.length_map]
    split
    · simp only [Option.map_some]; rw [map_bs_ls]
    · rfl
  · intro x hx
    obtain ⟨y, hy, rfl⟩ := List.mem_map.1 hx
    exact h y hy
theorem nm_len {x : ByteArray} (h : nm x = true) : 1 ≤ x.size ∧ x.size ≤ 8 := by
  have := nmL_len h
  rw [ls_size] at this; exact this

/-- the reader's step -/
theorem idx (r : List UInt8) : (Lib.indexByte r 47 < 0 → r.takeWhile (· ≠ 47) = r ∧ r.dropWhile (· ≠ 47) = []) ∧
    (0 ≤ Lib.indexByte r 47 → (Lib.indexByte r 47).toNat ≤ r.length ∧ r.takeWhile (· ≠ 47) = r.take (Lib.indexByte r 47).toNat ∧ r.dropWhile (· ≠ 47) = r.drop (Lib.indexByte r 47).toNat) := by
  induction r with
  | nil => simp [Lib.indexByte]
  | cons c r ih =>
    by_cases hc : c = 47
    · subst hc; simp [Lib.indexByte]
    · have hb : (c == 47) = false := by simpa using hc
      have hge := Lib.indexByte_ge r 47
      unfold Lib.indexByte
      rw [hb]
      by_cases hm : Lib.indexByte r 47 = -1
      · have h1 := ih.1 (by omega)
        simp [hm, hc]
        exact ⟨by simpa using h1.1, by simpa using h1.2⟩
      · have h0 : 0 ≤ Lib.indexByte r 47 := by omega
        obtain ⟨h1, h2, h3⟩ := ih.2 h0
        have hm' : (Lib.indexByte r 47 == -1) = false := by simpa using hm
        rw [hm']
        simp only [Bool.false_eq_true, if_false]
        refine ⟨fun h => by omega, fun _ => ?_⟩
        have e : (Lib.indexByte r 47 + 1).toNat = (Lib.indexByte r 47).toNat + 1 := by omega
        rw [e, List.takeWhile_cons, List.dropWhile_cons, List.take_succ_cons, List.drop_succ_cons]
        have hd : decide (c ≠ 47) = true := by simpa using hc
        simp only [hd, if_true]
        refine ⟨by simp only [List.length_cons]; omega, by rw [h2], h3⟩

/-- the page's loop -/
def spI (acc : List (List UInt8)) (f i : Nat) (l : List UInt8) : Option (List (List UInt8)) :=
  if i ≤ l.length then sp acc ((l.drop f).take (i - f)) (l.drop i) else some acc
def cut (l : List UInt8) (f i : Nat) : List UInt8 := (l.drop f).take (i - f)

theorem spI_start (t : List UInt8) : spI [] 1 1 (47 :: t) = spR [] (47 :: t) := by
  simp [spI, spR]
theorem spI_slash {acc : List (List UInt8)} {f i : Nat} {l : List UInt8} (hi : i < l.length) (hc : l[i] = 47) :
    spI acc f i l = if nmL (cut l f i) then spI (acc ++ [cut l f i]) (i + 1) (i + 1) l else none := by
  unfold spI cut
  rw [if_pos (Nat.le_of_lt hi), if_pos (show i + 1 ≤ l.length from hi), List.drop_eq_getElem_cons hi, hc]
  simp [sp]
theorem spI_other {acc : List (List UInt8)} {f i : Nat} {l : List UInt8} (hf : f ≤ i) (hi : i < l.length) (hc : l[i] ≠ 47) :
    spI acc f i l = spI acc f (i + 1) l := by
  unfold spI
  rw [if_pos (Nat.le_of_lt hi), if_pos (show i + 1 ≤ l.length from hi)]
  conv => lhs; rw [List.drop_eq_getElem_cons hi]
  simp only [sp, if_neg hc]
  congr 1
  have e : i + 1 - f = (i - f) + 1 := by omega
  rw [e, List.take_add_one]
  congr 1
  rw [List.getElem?_drop, show f + (i - f) = i from by omega, List.getElem?_eq_getElem hi]
  rfl
theorem spI_end {acc : List (List UInt8)} {f : Nat} {l : List UInt8} :
    spI acc f l.length l = if nmL (cut l f l.length) then spI (acc ++ [cut l f l.length]) (l.length + 1) (l.length + 1) l else none := by
  have e : spI (acc ++ [cut l f l.length]) (l.length + 1) (l.length + 1) l = some (acc ++ [cut l f l.length]) := by
    unfold spI; rw [if_neg (by omega)]
  rw [e]
  unfold spI cut
  rw [if_pos (Nat.le_refl _)]
  simp [sp]
theorem spI_out {acc : List (List UInt8)} {f i : Nat} {l : List UInt8} (h : l.length < i) : spI acc f i l = some acc := by
  unfold spI; rw [if_neg (by omega)]

end Go.Proofs.Ytodahdnnlkcfdaa

/- The leaves: which bytes may stand in a name; what a name is, by the program and by the page. -/
namespace Go.Proofs.Ytodahdnnlkcfdaa
open Go.RowKit

theorem nwT {a b c : World} (h : Below a.heap.size a b) (k : Below b.heap.size b c) : Below a.heap.size a c := h.trans (k.mono h.size)
theorem nwA {a w : World} (h : Below a.heap.size a w) (o : Obj) : Below a.heap.size a (w.alloc o) := h.alloc h.size o
theorem nwR (a : World) : Below a.heap.size a a := Below.refl _ _

def Stop (p : Prop) : Prop := p
theorem unstop {p : Prop} (h : Stop p) : p := h

theorem idx3 (c : UInt8) : (0 ≤ Lib.indexByte [46, 95, 45] c) ↔ ((c.toNat : Int) = 46 ∨ (c.toNat : Int) = 95 ∨ (c.toNat : Int) = 45) := by
  have e : ∀ k : UInt8, (k == c) = decide ((c.toNat : Int) = (k.toNat : Int)) := by
    intro k; rw [Bool.eq_iff_iff]; simp [← UInt8.toNat_inj]; omega
  simp only [Lib.indexByte, e]
  have k1 : ((46 : UInt8).toNat : Int) = 46 := rfl
  have k2 : ((95 : UInt8).toNat : Int) = 95 := rfl
  have k3 : ((45 : UInt8).toNat : Int) = 45 := rfl
  rw [k1, k2, k3]
  by_cases h1 : (c.toNat : Int) = 46
  · simp [h1]
  · by_cases h2 : (c.toNat : Int) = 95
    · simp [h2]
    · by_cases h3 : (c.toNat : Int) = 45
      · simp [h3]
      · simp [h1, h2, h3]

theorem ret_bool {a b : Bool} (h : a = b) : Ending.returned (.bool a) = .returned (.bool b) := by rw [h]
theorem ret_int {k : IntKind} {a b : Int} (h : a = b) : Ending.returned (.int k a) = .returned (.int k b) := by rw [h]

set_option maxRecDepth 100000 in
set_option maxHeartbeats 400000 in
theorem mayStand_any (c : UInt8) (w : World) :
    Calls Try.prog 101 #[.int .u8 c.toNat] w fun e w' => e = .returned (.bool (byI c.toNat)) ∧ w' = w := by
  have H3 : Hid ((0 ≤ Lib.indexByte [46, 95, 45] c) ↔ ((c.toNat : Int) = 46 ∨ (c.toNat : Int) = 95 ∨ (c.toNat : Int) = 45)) := idx3 c
  go_enter Try.func101, Try.ntmps101
  go_wp2_with (go_at_call 102; refine (Try.strings_IndexByte _ _ _).mono ?_; rintro e w' ⟨rfl, rfl⟩)
  all_goals go_ret
  all_goals have h3 := H3.out
  all_goals
    refine ⟨ret_bool ?_, rfl⟩
    rw [Bool.eq_iff_iff]
    simp [byI, h3]
    try omega

def errI (b : Bool) : Int := if b then 0 else 1
theorem errI_t : errI true = 0 := rfl
theorem errI_f : errI false = 1 := rfl

def okTo (s : ByteArray) (k : Nat) : Bool := ((ls s).take k).all fun c => byI c.toNat
theorem okTo_succ (s : ByteArray) (k : Nat) (h : k < s.size) : okTo s (k + 1) = (okTo s k && byI s[k].toNat) := by
  unfold okTo
  have hl : k < (ls s).length := by rw [ls_size]; exact h
  rw [List.take_succ_eq_append_getElem hl, List.all_append]
  simp [ls]; rfl
theorem okTo_le (s : ByteArray) {k n : Nat} (hk : k ≤ n) (h : okTo s k = false) : okTo s n = false := by
  unfold okTo at *
  rw [List.all_eq_false] at *
  obtain ⟨x, hx, hb⟩ := h
  exact ⟨x, (List.take_subset_take_left (ls s) hk) hx, hb⟩
theorem nm_eq (s : ByteArray) : nm s = (decide (1 ≤ s.size) && decide (s.size ≤ 8) && !decide (s.toList = [46]) && !decide (s.toList = [46, 46]) && okTo s s.size) := by
  unfold nm nmL okTo
  rw [ls_size, List.take_of_length_le (by rw [ls_size]; exact Nat.le_refl _), Lib.toList_data]; rfl

theorem nm_no {s : ByteArray} (h : s.size < 1 ∨ 8 < s.size ∨ s.toList = [46] ∨ s.toList = [46, 46]) : nm s = false := by
  rw [nm_eq]
  rcases h with h | h | h | h
  · rw [decide_eq_false (by omega : ¬ 1 ≤ s.size)]; rfl
  · rw [decide_eq_false (by omega : ¬ s.size ≤ 8)]; simp
  · rw [h]; simp
  · rw [h]; simp
theorem nm_yes {s : ByteArray} (h1 : ¬ s.size < 1) (h2 : ¬ 8 < s.size) (h3 : ¬ s.toList = [46]) (h4 : ¬ s.toList = [46, 46]) : nm s = okTo s s.size := by
  rw [nm_eq, decide_eq_true (by omega : 1 ≤ s.size), decide_eq_true (by omega : s.size ≤ 8), decide_eq_false h3, decide_eq_false h4]; simp

set_option maxRecDepth 100000 in
set_option maxHeartbeats 400000 in
theorem check_any (s : ByteArray) (w : World) :
    Calls Try.prog 100 #[.string s] w fun e w' => e = .returned (.int .i64 (errI (nm s))) ∧ w' = w := by
  by_cases hh : s.size < 1 ∨ 8 < s.size ∨ s.toList = [46] ∨ s.toList = [46, 46]
  · have HN : Hid (nm s = false) := nm_no hh
    rcases hh with h | h | h | h
    · have h1 : (s.size : Int) < 1 := by omega
      go_enter Try.func100, Try.ntmps100
      go_wp2_with fail
      go_ret
      exact ⟨ret_int (by rw [HN.out]; rfl), rfl⟩
    · have h1 : (8 : Int) < s.size := by omega
      have h2 : ¬ (s.size : Int) < 1 := by omega
      go_enter Try.func100, Try.ntmps100
      go_wp2_with fail
      go_ret
      exact ⟨ret_int (by rw [HN.out]; rfl), rfl⟩
    · have h1 : s.size = 1 := by rw [← ls_size, ls, ← Lib.toList_data, h]; rfl
      have h2 : (s.size : Int) = 1 := by omega
      go_enter Try.func100, Try.ntmps100
      go_wp2_with fail
      all_goals go_ret
      all_goals exact ⟨ret_int (by rw [HN.out]; rfl), rfl⟩
    · have h1 : s.size = 2 := by rw [← ls_size, ls, ← Lib.toList_data, h]; rfl
      have h2 : (s.size : Int) = 2 := by omega
      have h3 : ¬ s.toList = [46] := by rw [h]; decide
      go_enter Try.func100, Try.ntmps100
      go_wp2_with fail
      all_goals go_ret
      all_goals exact ⟨ret_int (by rw [HN.out]; rfl), rfl⟩
  · have h1 : ¬ s.size < 1 := fun h => hh (.inl h)
    have h2 : ¬ 8 < s.size := fun h => hh (.inr (.inl h))
    have h3 : ¬ s.toList = [46] := fun h => hh (.inr (.inr (.inl h)))
    have h4 : ¬ s.toList = [46, 46] := fun h => hh (.inr (.inr (.inr h)))
    have HN : Hid (nm s = okTo s s.size) := nm_yes h1 h2 h3 h4
    have g1 : ¬ (s.size : Int) < 1 := by omega
    have g2 : ¬ (8 : Int) < s.size := by omega
    have g3 : (s.toList == [46]) = false := by simpa using h3
    have g4 : (s.toList == [46, 46]) = false := by simpa using h4
    clear hh h3 h4
    go_enter Try.func100, Try.ntmps100
    go_wp2_with fail
    go_loop [22] (fun i => ∃ k : Nat, k ≤ s.size ∧ i = .int .i64 k ∧ okTo s k = true) (fun i => s.size - (intOf i).toNat)
    case atStart => exact ⟨0, Nat.zero_le _, rfl, by simp [okTo]⟩
    case round =>
      obtain ⟨k, hk, rfl, hok⟩ := hrel
      have HO : Hid (okTo s k = true) := hok
      clear hok
      by_cases hlt : k < s.size
      · have HS : Hid (okTo s (k + 1) = (okTo s k && byI s[k].toNat)) := okTo_succ s k hlt
        cases hb : byI s[k].toNat
        all_goals
          go_wp2_with (go_at_call 101; refine (mayStand_any _ _).mono ?_; rintro e w' ⟨rfl, rfl⟩)
        · go_ret
          refine ⟨ret_int ?_, rfl⟩
          rw [HN.out, okTo_le s (k := k + 1) hlt (by rw [HS.out, hb]; simp)]; rfl
        · go_round
          case rel => exact ⟨k + 1, hlt, by go_num, by rw [HS.out, HO.out, hb]; rfl⟩
          case measure => simp [intOf]; omega
      · have hke : k = s.size := by omega
        go_wp2_with fail
        go_ret
        refine ⟨ret_int ?_, rfl⟩
        rw [HN.out, ← hke, HO.out]; rfl

end Go.Proofs.Ytodahdnnlkcfdaa

/- Rows of texts in memory. -/
namespace Go.Proofs.Ytodahdnnlkcfdaa
open Go.RowKit

def StrsAt (w : World) (a : Option Addr) (xs : List ByteArray) : Prop :=
  xs = [] ∨ ∃ b o, a = some ⟨b, o, none⟩ ∧ ∀ i, i < xs.length → w.cell? ⟨b, o + i, none⟩ = some (.string (xs.getD i ByteArray.empty))
def OwnStrs (w : World) (base : Nat) (v : Value) (xs : List ByteArray) : Prop := w.ownsRow base 9 1 v xs.length (xs.map .string)

theorem StrsAt.cell {w : World} {a : Option Addr} {xs : List ByteArray} (h : StrsAt w a xs) {i : Nat} (hi : i < xs.length) : ∃ b o, a = some ⟨b, o, none⟩ ∧ w.cell? ⟨b, o + i, none⟩ = some (.string (xs.getD i ByteArray.empty)) := by
  rcases h with rfl | ⟨b, o, rfl, hc⟩
  · simp at hi
  · exact ⟨b, o, rfl, hc i hi⟩
theorem StrsAt.below {w w' : World} {a : Option Addr} {xs : List ByteArray} (h : StrsAt w a xs) (hb : Below w.heap.size w w') : StrsAt w' a xs := by
  rcases h with rfl | ⟨b, o, rfl, hc⟩
  · exact .inl rfl
  · exact .inr ⟨b, o, rfl, fun i hi => (hb.cell (p := ⟨b, o + i, none⟩) (block_lt_of_cell (hc i hi))).trans (hc i hi)⟩
theorem StrsAt.drewN {w : World} {a : Option Addr} {xs : List ByteArray} (h : StrsAt w a xs) (n : Nat) : StrsAt (w.drewN n) a xs := by
  rcases h with rfl | ⟨b, o, rfl, hc⟩
  · exact .inl rfl
  · exact .inr ⟨b, o, rfl, fun i hi => hc i hi⟩
theorem getD_take {xs : List ByteArray} {k i : Nat} (h : i < k) : (xs.take k).getD i ByteArray.empty = xs.getD i ByteArray.empty := by
  simp [List.getD, h]
theorem StrsAt.take {w : World} {a : Option Addr} {xs : List ByteArray} (h : StrsAt w a xs) (k : Nat) : StrsAt w a (xs.take k) := by
  rcases h with rfl | ⟨b, o, rfl, hc⟩
  · exact .inl (by simp)
  · refine .inr ⟨b, o, rfl, fun i hi => ?_⟩
    rw [List.length_take] at hi
    rw [getD_take (by omega)]
    exact hc i (by omega)
theorem StrsAt.drop {w : World} {b o : Nat} {xs : List ByteArray} (h : StrsAt w (some ⟨b, o, none⟩) xs) (k : Nat) : StrsAt w (some ⟨b, o + k, none⟩) (xs.drop k) := by
  rcases h with rfl | ⟨b', o', e, hc⟩
  · exact .inl (by simp)
  · injection e with e; injection e with e1 e2; subst e1; subst e2
    refine .inr ⟨b, o + k, rfl, fun i hi => ?_⟩
    rw [List.length_drop] at hi
    have := hc (k + i) (by omega)
    rw [show o + k + i = o + (k + i) from by omega, this]
    simp [List.getD]
theorem StrsAt.of_alloc {w : World} {xs : List ByteArray} {cs : Array Value} {t : TypeId} (h : cs = (xs.map .string).toArray) : StrsAt (w.alloc (.cells cs t)) (some ⟨w.heap.size, 0, none⟩) xs := by
  subst h
  refine .inr ⟨_, _, rfl, fun i hi => ?_⟩
  simp [hi]

theorem OwnStrs.at {w : World} {base : Nat} {v : Value} {xs : List ByteArray} (h : OwnStrs w base v xs) : ∃ a cap, v = .slice a xs.length cap ∧ StrsAt w a xs := by
  have hh := h
  rcases h.2 with ⟨hv, hn⟩ | ⟨g, cap, cur, hv, hb, _, _⟩
  · exact ⟨none, 0, by rw [hv, hn], .inl (List.length_eq_zero_iff.1 hn)⟩
  · refine ⟨_, cap, hv, .inr ⟨g, 0, rfl, fun i hi => ?_⟩⟩
    have := hh.cells (g := g) (by rw [hv]; rfl) i (.string (xs.getD i ByteArray.empty)) (by simp [hi])
    rw [show (⟨g, 0, none⟩ : Addr).add i = ⟨g, 0 + i, none⟩ from by unfold Addr.add; split <;> simp_all] at this
    exact this

theorem gbOf {w w' : World} (h : Below w.heap.size w w') (r : Option Nat) : w.grownBy w' r := ⟨h.os, h.tape, h.output, h.size, fun k hk _ => h.block k hk⟩
theorem OwnStrs.below {w w' : World} {base : Nat} {v : Value} {xs : List ByteArray} (h : OwnStrs w base v xs) (hb : Below w.heap.size w w') : OwnStrs w' base v xs :=
  World.ownsRow.kept h (gbOf hb none) (by cases hv : v.ownBlock <;> simp)
theorem OwnStrs.le {w : World} {base base' : Nat} {v : Value} {xs : List ByteArray} (h : OwnStrs w base v xs) (hb : base' ≤ base) : OwnStrs w base' v xs := by
  refine ⟨h.1, ?_⟩
  rcases h.2 with hn | ⟨g, cap, cur, hv, hg, rest⟩
  · exact .inl hn
  · exact .inr ⟨g, cap, cur, hv, Nat.le_trans hb hg, rest⟩
theorem OwnStrs.snoc {w : World} {base : Nat} {v : Value} {xs : List ByteArray} {x : ByteArray} (h : w.ownsRow base 9 1 v (xs.length + 1) (xs.map .string ++ [.string x])) : OwnStrs w base v (xs ++ [x]) := by
  unfold OwnStrs
  have e : (xs ++ [x]).length = xs.length + 1 := by simp
  rw [e, List.map_append]
  exact h
theorem Try.info9 : (Try.prog.info? 9).map (fun i => (i.zero, i.size, i.bytes)) = some (some (.string ⟨#[]⟩), 1, 16) := by kernel_rfl

end Go.Proofs.Ytodahdnnlkcfdaa

/- What a name is, by the page. -/
namespace Go.Proofs.Ytodahdnnlkcfdaa
open Go.RowKit

theorem byI_yes {n : Int} (h : (97 ≤ n ∧ n ≤ 122) ∨ (48 ≤ n ∧ n ≤ 57) ∨ n = 46 ∨ n = 95 ∨ n = 45) : byI n = true := by
  simp only [byI, Bool.or_eq_true, Bool.and_eq_true, decide_eq_true_eq]; omega
theorem byI_no {n : Int} (h : ¬ ((97 ≤ n ∧ n ≤ 122) ∨ (48 ≤ n ∧ n ≤ 57) ∨ n = 46 ∨ n = 95 ∨ n = 45)) : byI n = false := by
  cases e : byI n
  · rfl
  · simp only [byI, Bool.or_eq_true, Bool.and_eq_true, decide_eq_true_eq] at e; omega

set_option maxRecDepth 100000 in
set_option maxHeartbeats 1000000 in
theorem name_any (s : ByteArray) (w : World) :
    Calls Try.prog 72 #[.string s] w fun e w' => e = .returned (.bool (nm s)) ∧ w' = w := by
  by_cases hh : s.size < 1 ∨ 8 < s.size ∨ s.toList = [46] ∨ s.toList = [46, 46]
  · have HN : Hid (nm s = false) := nm_no hh
    rcases hh with h | h | h | h
    · have h1 : s.size = 0 := by omega
      go_enter Try.func72, Try.ntmps72
      go_wp2_with fail
      go_ret
      exact ⟨ret_bool (by rw [HN.out]), rfl⟩
    · have h1 : (8 : Int) < s.size := by omega
      have h2 : ¬ s.size = 0 := by omega
      go_enter Try.func72, Try.ntmps72
      go_wp2_with fail
      go_ret
      exact ⟨ret_bool (by rw [HN.out]), rfl⟩
    · have h1 : s.size = 1 := by rw [← ls_size, ls, ← Lib.toList_data, h]; rfl
      have h2 : (s.size : Int) = 1 := by omega
      go_enter Try.func72, Try.ntmps72
      go_wp2_with fail
      all_goals go_ret
      all_goals exact ⟨ret_bool (by rw [HN.out]), rfl⟩
    · have h1 : s.size = 2 := by rw [← ls_size, ls, ← Lib.toList_data, h]; rfl
      have h2 : (s.size : Int) = 2 := by omega
      have h3 : ¬ s.toList = [46] := by rw [h]; decide
      go_enter Try.func72, Try.ntmps72
      go_wp2_with fail
      all_goals go_ret
      all_goals exact ⟨ret_bool (by rw [HN.out]), rfl⟩
  · have h1 : ¬ s.size < 1 := fun h => hh (.inl h)
    have h2 : ¬ 8 < s.size := fun h => hh (.inr (.inl h))
    have h3 : ¬ s.toList = [46] := fun h => hh (.inr (.inr (.inl h)))
    have h4 : ¬ s.toList = [46, 46] := fun h => hh (.inr (.inr (.inr h)))
    have HN : Hid (nm s = okTo s s.size) := nm_yes h1 h2 h3 h4
    have g1 : ¬ s.size = 0 := by omega
    have g2 : ¬ (8 : Int) < s.size := by omega
    have g3 : (s.toList == [46]) = false := by simpa using h3
    have g4 : (s.toList == [46, 46]) = false := by simpa using h4
    clear hh h3 h4
    go_enter Try.func72, Try.ntmps72
    go_wp2_with fail
    go_loop [3] (fun i => ∃ k : Nat, k ≤ s.size ∧ i = .int .i64 k ∧ okTo s k = true) (fun i => s.size - (intOf i).toNat)
    case atStart => exact ⟨0, Nat.zero_le _, rfl, by simp [okTo]⟩
    case round =>
      obtain ⟨k, hk, rfl, hok⟩ := hrel
      have HO : Hid (okTo s k = true) := hok
      clear hok
      by_cases hlt : k < s.size
      · have HS : Hid (okTo s (k + 1) = (okTo s k && byI s[k].toNat)) := okTo_succ s k hlt
        have HY : Hid (byI s[k].toNat = true → okTo s (k + 1) = true) := fun hb => by rw [HS.out, HO.out, hb]; rfl
        have HX : Hid (byI s[k].toNat = false → nm s = false) := fun hb => by rw [HN.out, okTo_le s (k := k + 1) hlt (by rw [HS.out, hb]; simp)]
        by_cases a1 : 97 ≤ (s[k].toNat : Int)
        · by_cases a2 : (s[k].toNat : Int) ≤ 122
          · go_wp2_with fail
            go_round
            case rel => exact ⟨k + 1, hlt, by go_num, HY.out (byI_yes (by omega))⟩
            case measure => simp [intOf]; omega
          · have a3 : ¬ (s[k].toNat : Int) ≤ 57 := by omega
            have a4 : ¬ (s[k].toNat : Int) = 46 := by omega
            have a5 : ¬ (s[k].toNat : Int) = 95 := by omega
            have a6 : ¬ (s[k].toNat : Int) = 45 := by omega
            have a7 : 48 ≤ (s[k].toNat : Int) := by omega
            have HX2 : Hid (nm s = false) := HX.out (byI_no (by omega))
            have b2 : ((s[k].toNat : Int) == 46) = false := by simpa using a4
            have b3 : ((s[k].toNat : Int) == 95) = false := by simpa using a5
            have b4 : ((s[k].toNat : Int) == 45) = false := by simpa using a6
            go_wp2_with fail
            go_ret
            exact ⟨ret_bool HX2.out.symm, rfl⟩
        · by_cases a7 : 48 ≤ (s[k].toNat : Int)
          · by_cases a3 : (s[k].toNat : Int) ≤ 57
            · go_wp2_with fail
              go_round
              case rel => exact ⟨k + 1, hlt, by go_num, HY.out (byI_yes (by omega))⟩
              case measure => simp [intOf]; omega
            · have a8 : ¬ (s[k].toNat : Int) = 46 := by omega
              by_cases a4 : (s[k].toNat : Int) = 46
              · go_wp2_with fail
                go_round
                case rel => exact ⟨k + 1, hlt, by go_num, HY.out (byI_yes (by omega))⟩
                case measure => simp [intOf]; omega
              · by_cases a5 : (s[k].toNat : Int) = 95
                · have b2 : ((s[k].toNat : Int) == 46) = false := by simpa using a4
                  go_wp2_with fail
                  go_round
                  case rel => exact ⟨k + 1, hlt, by go_num, HY.out (byI_yes (by omega))⟩
                  case measure => simp [intOf]; omega
                · by_cases a6 : (s[k].toNat : Int) = 45
                  · have b2 : ((s[k].toNat : Int) == 46) = false := by simpa using a4
                    have b3 : ((s[k].toNat : Int) == 95) = false := by simpa using a5
                    go_wp2_with fail
                    go_round
                    case rel => exact ⟨k + 1, hlt, by go_num, HY.out (byI_yes (by omega))⟩
                    case measure => simp [intOf]; omega
                  · have HX2 : Hid (nm s = false) := HX.out (byI_no (by omega))
                    have b2 : ((s[k].toNat : Int) == 46) = false := by simpa using a4
                    have b3 : ((s[k].toNat : Int) == 95) = false := by simpa using a5
                    have b4 : ((s[k].toNat : Int) == 45) = false := by simpa using a6
                    go_wp2_with fail
                    go_ret
                    exact ⟨ret_bool HX2.out.symm, rfl⟩
          · by_cases a4 : (s[k].toNat : Int) = 46
            · go_wp2_with fail
              go_round
              case rel => exact ⟨k + 1, hlt, by go_num, HY.out (byI_yes (by omega))⟩
              case measure => simp [intOf]; omega
            · by_cases a5 : (s[k].toNat : Int) = 95
              · have b2 : ((s[k].toNat : Int) == 46) = false := by simpa using a4
                go_wp2_with fail
                go_round
                case rel => exact ⟨k + 1, hlt, by go_num, HY.out (byI_yes (by omega))⟩
                case measure => simp [intOf]; omega
              · by_cases a6 : (s[k].toNat : Int) = 45
                · have b2 : ((s[k].toNat : Int) == 46) = false := by simpa using a4
                  have b3 : ((s[k].toNat : Int) == 95) = false := by simpa using a5
                  go_wp2_with fail
                  go_round
                  case rel => exact ⟨k + 1, hlt, by go_num, HY.out (byI_yes (by omega))⟩
                  case measure => simp [intOf]; omega
                · have HX2 : Hid (nm s = false) := HX.out (byI_no (by omega))
                  have b2 : ((s[k].toNat : Int) == 46) = false := by simpa using a4
                  have b3 : ((s[k].toNat : Int) == 95) = false := by simpa using a5
                  have b4 : ((s[k].toNat : Int) == 45) = false := by simpa using a6
                  go_wp2_with fail
                  go_ret
                  exact ⟨ret_bool HX2.out.symm, rfl⟩
      · have hke : k = s.size := by omega
        go_wp2_with fail
        go_ret
        refine ⟨ret_bool ?_, rfl⟩
        rw [HN.out, ← hke, HO.out]

end Go.Proofs.Ytodahdnnlkcfdaa

/- Small facts. -/
namespace Go.Proofs.Ytodahdnnlkcfdaa
open Go.RowKit

theorem ext_getD {xs ys : List ByteArray} (hl : xs.length = ys.length) (h : ∀ i, i < xs.length → xs.getD i ByteArray.empty = ys.getD i ByteArray.empty) : xs = ys := by
  apply List.ext_getElem hl
  intro i h1 h2
  have := h i h1
  simpa [List.getD, h1, h2] using this
theorem drewN_drewN (w : World) (a b : Nat) : ∃ q, (w.drewN a).drewN b = w.drewN q := ⟨_, World.drewN_drewN w a b⟩
theorem below_drewN {a : Nat} {w w' : World} (h : Below a w w') (q : Nat) : Below a w (w'.drewN q) := ⟨h.os, h.tape, h.output, h.size, h.block⟩
theorem cell_one' (w : World) (x : Value) (t : TypeId) : ∀ j u, [x][j]? = some u → (w.alloc (.cells #[x] t)).cell? ((⟨w.heap.size, 0, none⟩ : Addr).add j) = some u := by
  intro j u hu
  match j, hu with
  | 0, hu => simp at hu; subst hu; simp [Addr.add]
theorem cell_one (w : World) (x : Value) (t : TypeId) : ∀ j u, [x][j]? = some u → (w.alloc (.cells #[x] t)).cell? ((⟨w.heap.size, 0, none⟩ : Addr).add j) = some u := cell_one' w x t
theorem wrap_any {x : Int} (h0 : -1000000000000000000 ≤ x) (h1 : x ≤ 1000000000000000000) : IntKind.i64.wrap x = x := by
  rw [IntKind.wrap_i64]
  omega

end Go.Proofs.Ytodahdnnlkcfdaa

/- Volumes in memory: rows of numbers, of links, of files; read, and owned. -/
namespace Go.Proofs.Ytodahdnnlkcfdaa
open Go.RowKit

abbrev LinkD := ByteArray × Int
def lk0 : LinkD := (ByteArray.empty, 0)
structure FileD where
  id : Int
  dir : Bool
  size : Int
  blocks : List Int
  list : List LinkD
deriving DecidableEq
def f0 : FileD := ⟨0, false, 0, [], []⟩
structure VolD where
  id : Int
  fr : Int
  snap : Bool
  files : List FileD
  next : Int
deriving DecidableEq
def v0 : VolD := ⟨0, 0, false, [], 0⟩

def IntsAt (w : World) (a : Option Addr) (ns : List Int) : Prop :=
  ns = [] ∨ ∃ b o, a = some ⟨b, o, none⟩ ∧ ∀ i, i < ns.length → w.cell? ⟨b, o + i, none⟩ = some (.int .i64 (ns.getD i 0))
def LinksAt (w : World) (a : Option Addr) (ls : List LinkD) : Prop :=
  ls = [] ∨ ∃ b o, a = some ⟨b, o, none⟩ ∧ ∀ i, i < ls.length → w.cell? ⟨b, o + i * 2, none⟩ = some (.string (ls.getD i lk0).1) ∧ w.cell? ⟨b, o + i * 2 + 1, none⟩ = some (.int .i64 (ls.getD i lk0).2)
/-- the five cells of a file -/
def fcells (f : FileD) (ab : Option Addr) (cb : Nat) (al : Option Addr) (cl : Nat) : List Value := [.int .i64 f.id, .bool f.dir, .int .i64 f.size, .slice ab f.blocks.length cb, .slice al f.list.length cl]
def CapOk (a : Option Addr) (c n : Nat) : Prop := n ≤ c ∧ (a = none → c = 0) ∧ ∀ p, a = some p → n < c → p.spot = none
def FileIn (w : World) (b o : Nat) (f : FileD) : Prop := ∃ ab cb al cl, (w.cell? ⟨b, o, none⟩ = some (.int .i64 f.id) ∧ w.cell? ⟨b, o + 1, none⟩ = some (.bool f.dir) ∧ w.cell? ⟨b, o + 2, none⟩ = some (.int .i64 f.size) ∧ w.cell? ⟨b, o + 3, none⟩ = some (.slice ab f.blocks.length cb) ∧ w.cell? ⟨b, o + 4, none⟩ = some (.slice al f.list.length cl)) ∧ (IntsAt w ab f.blocks ∧ CapOk ab cb f.blocks.length) ∧ LinksAt w al f.list ∧ CapOk al cl f.list.length
def FilesAt (w : World) (a : Option Addr) (fs : List FileD) : Prop :=
  fs = [] ∨ ∃ b o, a = some ⟨b, o, none⟩ ∧ ∀ i, i < fs.length → FileIn w b (o + i * 5) (fs.getD i f0)
def FileVal (w : World) (v : Value) (f : FileD) : Prop := ∃ ab cb al cl, v = .agg (fcells f ab cb al cl).toArray ∧ (IntsAt w ab f.blocks ∧ CapOk ab cb f.blocks.length) ∧ LinksAt w al f.list ∧ CapOk al cl f.list.length
def VolVal (w : World) (v : Value) (d : VolD) : Prop := ∃ a c, v = .agg #[.int .i64 d.id, .int .i64 d.fr, .bool d.snap, .slice a d.files.length c, .int .i64 d.next] ∧ FilesAt w a d.files ∧ CapOk a c d.files.length

theorem IntsAt.cell {w : World} {a : Option Addr} {ns : List Int} (h : IntsAt w a ns) {i : Nat} (hi : i < ns.length) : ∃ b o, a = some ⟨b, o, none⟩ ∧ w.cell? ⟨b, o + i, none⟩ = some (.int .i64 (ns.getD i 0)) := by
  rcases h with rfl | ⟨b, o, rfl, hc⟩
  · simp at hi
  · exact ⟨b, o, rfl, hc i hi⟩
theorem LinksAt.cell {w : World} {a : Option Addr} {ls : List LinkD} (h : LinksAt w a ls) {i : Nat} (hi : i < ls.length) : ∃ b o, a = some ⟨b, o, none⟩ ∧ w.cell? ⟨b, o + i * 2, none⟩ = some (.string (ls.getD i lk0).1) ∧ w.cell? ⟨b, o + i * 2 + 1, none⟩ = some (.int .i64 (ls.getD i lk0).2) := by
  rcases h with rfl | ⟨b, o, rfl, hc⟩
  · simp at hi
  · exact ⟨b, o, rfl, hc i hi⟩
theorem FilesAt.file {w : World} {a : Option Addr} {fs : List FileD} (h : FilesAt w a fs) {i : Nat} (hi : i < fs.length) : ∃ b o, a = some ⟨b, o, none⟩ ∧ FileIn w b (o + i * 5) (fs.getD i f0) := by
  rcases h with rfl | ⟨b, o, rfl, hc⟩
  · simp at hi
  · exact ⟨b, o, rfl, hc i hi⟩
theorem IntsAt.below {w w' : World} {a : Option Addr} {ns : List Int} (h : IntsAt w a ns) (hb : Below w.heap.size w w') : IntsAt w' a ns := by
  rcases h with rfl | ⟨b, o, rfl, hc⟩
  · exact .inl rfl
  · exact .inr ⟨b, o, rfl, fun i hi => (hb.cell (p := ⟨b, o + i, none⟩) (block_lt_of_cell (hc i hi))).trans (hc i hi)⟩
theorem LinksAt.below {w w' : World} {a : Option Addr} {ls : List LinkD} (h : LinksAt w a ls) (hb : Below w.heap.size w w') : LinksAt w' a ls := by
  rcases h with rfl | ⟨b, o, rfl, hc⟩
  · exact .inl rfl
  · exact .inr ⟨b, o, rfl, fun i hi => ⟨(hb.cell (p := ⟨b, o + i * 2, none⟩) (block_lt_of_cell (hc i hi).1)).trans (hc i hi).1, (hb.cell (p := ⟨b, o + i * 2 + 1, none⟩) (block_lt_of_cell (hc i hi).2)).trans (hc i hi).2⟩⟩
theorem FileIn.below {w w' : World} {b o : Nat} {f : FileD} (h : FileIn w b o f) (hb : Below w.heap.size w w') : FileIn w' b o f := by
  obtain ⟨ab, cb, al, cl, ⟨h0, h1, h2, h3, h4⟩, hi, hl⟩ := h
  have hlt := block_lt_of_cell h0
  exact ⟨ab, cb, al, cl, ⟨(hb.cell (p := ⟨b, o, none⟩) hlt).trans h0, (hb.cell (p := ⟨b, o + 1, none⟩) hlt).trans h1, (hb.cell (p := ⟨b, o + 2, none⟩) hlt).trans h2, (hb.cell (p := ⟨b, o + 3, none⟩) hlt).trans h3, (hb.cell (p := ⟨b, o + 4, none⟩) hlt).trans h4⟩, ⟨hi.1.below hb, hi.2⟩, hl.1.below hb, hl.2⟩
theorem FilesAt.below {w w' : World} {a : Option Addr} {fs : List FileD} (h : FilesAt w a fs) (hb : Below w.heap.size w w') : FilesAt w' a fs := by
  rcases h with rfl | ⟨b, o, rfl, hc⟩
  · exact .inl rfl
  · exact .inr ⟨b, o, rfl, fun i hi => (hc i hi).below hb⟩
theorem FileVal.below {w w' : World} {v : Value} {f : FileD} (h : FileVal w v f) (hb : Below w.heap.size w w') : FileVal w' v f := by
  obtain ⟨ab, cb, al, cl, e, hi, hl⟩ := h
  exact ⟨ab, cb, al, cl, e, ⟨hi.1.below hb, hi.2⟩, hl.1.below hb, hl.2⟩
theorem VolVal.below {w w' : World} {v : Value} {d : VolD} (h : VolVal w v d) (hb : Below w.heap.size w w') : VolVal w' v d := by
  obtain ⟨a, c, e, hf, hc⟩ := h
  exact ⟨a, c, e, hf.below hb, hc⟩
theorem IntsAt.drewN {w : World} {a : Option Addr} {ns : List Int} (h : IntsAt w a ns) (n : Nat) : IntsAt (w.drewN n) a ns := h
theorem LinksAt.drewN {w : World} {a : Option Addr} {ls : List LinkD} (h : LinksAt w a ls) (n : Nat) : LinksAt (w.drewN n) a ls := h
theorem FilesAt.drewN {w : World} {a : Option Addr} {fs : List FileD} (h : FilesAt w a fs) (n : Nat) : FilesAt (w.drewN n) a fs := h

/- owned rows -/
def OwnInts (w : World) (base : Nat) (v : Value) (ns : List Int) : Prop := w.ownsRow base 3 1 v ns.length (ns.map (.int .i64))
def lflat (ls : List LinkD) : List Value := ls.flatMap fun l => [.string l.1, .int .i64 l.2]
def OwnLinks (w : World) (base : Nat) (v : Value) (ls : List LinkD) : Prop := w.ownsRow base 87 2 v ls.length (lflat ls)

theorem OwnInts.at {w : World} {base : Nat} {v : Value} {ns : List Int} (h : OwnInts w base v ns) : ∃ a cap, v = .slice a ns.length cap ∧ IntsAt w a ns ∧ CapOk a cap ns.length := by
  have hh := h
  rcases h.2 with ⟨hv, hn⟩ | ⟨g, cap, cur, hv, hb, _, hnc, _⟩
  · exact ⟨none, 0, by rw [hv, hn], .inl (List.length_eq_zero_iff.1 hn), by omega, (fun _ => rfl), (fun p e => by cases e)⟩
  · refine ⟨_, cap, hv, .inr ⟨g, 0, rfl, fun i hi => ?_⟩, hnc, (fun e => by cases e), (fun p e _ => by injection e with e; rw [← e])⟩
    have := hh.cells (g := g) (by rw [hv]; rfl) i (.int .i64 (ns.getD i 0)) (by simp [hi])
    rw [show (⟨g, 0, none⟩ : Addr).add i = ⟨g, 0 + i, none⟩ from by unfold Addr.add; split <;> simp_all] at this
    exact this
theorem lflat_len (ls : List LinkD) : (lflat ls).length = ls.length * 2 := by
  induction ls with
  | nil => rfl
  | cons x xs ih => simp only [lflat, List.flatMap_cons, List.length_append, List.length_cons, List.length_nil] at *; omega
theorem lflat_get (ls : List LinkD) : ∀ i, i < ls.length → (lflat ls)[i * 2]? = some (.string (ls.getD i lk0).1) ∧ (lflat ls)[i * 2 + 1]? = some (.int .i64 (ls.getD i lk0).2) := by
  induction ls with
  | nil => intro i hi; simp at hi
  | cons x xs ih =>
    intro i hi
    have e : lflat (x :: xs) = .string x.1 :: .int .i64 x.2 :: lflat xs := by simp [lflat]
    rw [e]
    cases i with
    | zero => simp [List.getD]
    | succ i =>
      have hi' : i < xs.length := by simpa using hi
      have h := ih i hi'
      rw [show (i + 1) * 2 = i * 2 + 1 + 1 from by omega]
      simp only [List.getElem?_cons_succ]
      have e2 : (x :: xs).getD (i + 1) lk0 = xs.getD i lk0 := by simp [List.getD]
      rw [e2]; exact h
theorem OwnLinks.at {w : World} {base : Nat} {v : Value} {ls : List LinkD} (h : OwnLinks w base v ls) : ∃ a cap, v = .slice a ls.length cap ∧ LinksAt w a ls ∧ CapOk a cap ls.length := by
  have hh := h
  rcases h.2 with ⟨hv, hn⟩ | ⟨g, cap, cur, hv, hb, _, hnc, _⟩
  · exact ⟨none, 0, by rw [hv, hn], .inl (List.length_eq_zero_iff.1 hn), by omega, (fun _ => rfl), (fun p e => by cases e)⟩
  · refine ⟨_, cap, hv, .inr ⟨g, 0, rfl, fun i hi => ?_⟩, hnc, (fun e => by cases e), (fun p e _ => by injection e with e; rw [← e])⟩
    have hg := lflat_get ls i hi
    have h1 := hh.cells (g := g) (by rw [hv]; rfl) (i * 2) _ hg.1
    have h2 := hh.cells (g := g) (by rw [hv]; rfl) (i * 2 + 1) _ hg.2
    have e : ∀ j, (⟨g, 0, none⟩ : Addr).add j = ⟨g, 0 + j, none⟩ := fun j => by unfold Addr.add; split <;> simp_all
    rw [e] at h1 h2
    exact ⟨h1, by rw [Nat.add_assoc]; exact h2⟩
theorem own_below {w w' : World} {base : Nat} {e : TypeId} {size : Nat} {v : Value} {n : Nat} {xs : List Value} (h : w.ownsRow base e size v n xs) (hb : Below w.heap.size w w') : w'.ownsRow base e size v n xs :=
  h.kept (gbOf hb none) (by cases hv : v.ownBlock <;> simp)
theorem own_le {w : World} {base base' : Nat} {e : TypeId} {size : Nat} {v : Value} {n : Nat} {xs : List Value} (h : w.ownsRow base e size v n xs) (hb : base' ≤ base) : w.ownsRow base' e size v n xs := by
  refine ⟨h.1, ?_⟩
  rcases h.2 with hn | ⟨g, cap, cur, hv, hg, rest⟩
  · exact .inl hn
  · exact .inr ⟨g, cap, cur, hv, Nat.le_trans hb hg, rest⟩
theorem OwnInts.snoc {w : World} {base : Nat} {v : Value} {ns : List Int} {x : Int} (h : w.ownsRow base 3 1 v (ns.length + 1) (ns.map (.int .i64) ++ [.int .i64 x])) : OwnInts w base v (ns ++ [x]) := by
  unfold OwnInts
  rw [List.map_append, List.length_append]; exact h
theorem OwnLinks.snoc {w : World} {base : Nat} {v : Value} {ls : List LinkD} {x : LinkD} (h : w.ownsRow base 87 2 v (ls.length + 1) (lflat ls ++ [.string x.1, .int .i64 x.2])) : OwnLinks w base v (ls ++ [x]) := by
  unfold OwnLinks
  have e : lflat (ls ++ [x]) = lflat ls ++ [.string x.1, .int .i64 x.2] := by simp [lflat]
  rw [e, List.length_append]; exact h

theorem cells_new (w : World) (cs : List Value) (t : TypeId) : ∀ j u, cs[j]? = some u → (w.alloc (.cells cs.toArray t)).cell? ((⟨w.heap.size, 0, none⟩ : Addr).add j) = some u := by
  intro j u hu
  have e : (⟨w.heap.size, 0, none⟩ : Addr).add j = ⟨w.heap.size, 0 + j, none⟩ := by unfold Addr.add; split <;> simp_all
  rw [e, Nat.zero_add, World.cell?, heap_alloc_new]
  simpa using hu

theorem Try.info3 : (Try.prog.info? 3).map (fun i => (i.zero, i.size, i.bytes)) = some (some (.int .i64 0), 1, 8) := by kernel_rfl
theorem Try.info87 : (Try.prog.info? 87).map (fun i => (i.zero, i.size, i.bytes)) = some (some (.agg #[.string ⟨#[]⟩, .int .i64 0]), 2, 24) := by kernel_rfl
theorem Try.info84 : (Try.prog.info? 84).map (fun i => (i.zero, i.size, i.bytes)) = some (some (.agg #[.int .i64 0, .bool false, .int .i64 0, .slice none 0 0, .slice none 0 0]), 5, 72) := by kernel_rfl

end Go.Proofs.Ytodahdnnlkcfdaa

/- Copies, by the page's own helpers. -/
namespace Go.Proofs.Ytodahdnnlkcfdaa
open Go.RowKit

set_option maxRecDepth 100000 in
set_option maxHeartbeats 1000000 in
theorem copyNums_any (a : Option Addr) (xs : List Int) (ca : Nat) (w : World) (hx : IntsAt w a xs) (hl : xs.length ≤ 100000) :
    Calls Try.prog 81 #[.slice a xs.length ca] w fun e w' => (∃ v, e = .returned v ∧ OwnInts w' w.heap.size v xs) ∧ Below w.heap.size w w' := by
  have HX : Hid (IntsAt w a xs) := hx
  clear hx
  obtain ⟨i0, hi, hz0, hz1, hz2⟩ := info_parts Try.info3
  go_enter Try.func81, Try.ntmps81
  go_wp2_with fail
  go_loopw [3, 4] (fun v i wr => ∃ (k : Nat), k ≤ xs.length ∧ i = .int .i64 k ∧ OwnInts wr w.heap.size v (xs.take k) ∧ Below w.heap.size w wr)
    (fun _ i _ => xs.length - (intOf i).toNat)
  case atStart => exact ⟨0, by omega, rfl, World.ownsRow_nil _ _ _ _, nwR w⟩
  case round =>
    obtain ⟨k, hk, rfl, hO, hb⟩ := hrel
    have HO : Hid (OwnInts wr w.heap.size u3 (xs.take k)) := hO
    clear hO
    by_cases hkl : k < xs.length
    · have hkli : (k : Int) < (xs.length : Int) := by omega
      obtain ⟨b1, o1, rfl, hc0⟩ := HX.out.cell hkl
      have hc : wr.cell? ⟨b1, o1 + k, none⟩ = some (.int .i64 (xs.getD k 0)) := (hb.cell (p := ⟨b1, o1 + k, none⟩) (block_lt_of_cell hc0)).trans hc0
      have HS : Hid (xs.take (k + 1) = xs.take k ++ [xs.getD k 0]) := by
        show _ = _
        rw [List.take_succ_eq_append_getElem hkl]; simp [List.getD, hkl]
      have hlt : (xs.take k).length ≤ 100000 := by rw [List.length_take]; omega
      generalize xs.getD k 0 = x at hc HS
      generalize xs.take k = ys at HO HS hlt
      clear hc0
      have hsz : w.heap.size ≤ (wr.alloc (.cells #[.int .i64 x] 3)).heap.size := (nwA hb _).size
      have hc3 : ys.length + 1 ≤ maxLen := by unfold maxLen; omega
      have hc4 : (ys.length + 1) * 8 ≤ 140737488355328 := by omega
      go_wp2_with (at_builtin; refine wpList_append_own _ rfl (.tmp 11) (.tmp 16) 79 rfl w.heap.size 3 i0 (.int .i64 0) 1 8 Try.underlying79 hi hz0 hz1 hz2 rfl (by decide) u3 ys.length (ys.map (.int .i64)) rfl (World.ownsRow.alloc HO.out _) ⟨wr.heap.size, 0, none⟩ 1 1 [.int .i64 x] rfl rfl (cells_new _ [.int .i64 x] _) (by simp [Value.oneCell']) hc3 hc4 hsz ?_; intro v' w3 hown hgrow _; refine unstop ?_)
      unfold Stop
      have HB3 : Hid (Below w.heap.size w w3) := (nwA hb _).grown hgrow (nwA hb _).size (fun q e => (HO.out.lt q e).1)
      have HO3 : Hid (OwnInts w3 w.heap.size v' (xs.take (k + 1))) := by rw [HS.out]; exact OwnInts.snoc hown
      clear hown hgrow
      go_wp2_with fail
      go_roundw
      case rel => exact ⟨k + 1, by omega, by go_num, HO3.out, HB3.out⟩
      case measure => simp [intOf]; omega
    · have hkli : ¬ (k : Int) < (xs.length : Int) := by omega
      have HOE : Hid (OwnInts wr w.heap.size u3 xs) := by have := HO.out; rw [List.take_of_length_le (by omega)] at this; exact this
      clear HO
      have h := HOE.out
      obtain ⟨av, cv, rfl, _⟩ := h.at
      go_wp2_with fail
      go_ret
      exact ⟨⟨_, rfl, HOE.out⟩, hb⟩

set_option maxRecDepth 100000 in
set_option maxHeartbeats 1000000 in
theorem copyLinks_any (a : Option Addr) (xs : List LinkD) (ca : Nat) (w : World) (hx : LinksAt w a xs) (hl : xs.length ≤ 100000) :
    Calls Try.prog 82 #[.slice a xs.length ca] w fun e w' => (∃ v, e = .returned v ∧ OwnLinks w' w.heap.size v xs) ∧ Below w.heap.size w w' := by
  have HX : Hid (LinksAt w a xs) := hx
  clear hx
  obtain ⟨i0, hi, hz0, hz1, hz2⟩ := info_parts Try.info87
  go_enter Try.func82, Try.ntmps82
  go_wp2_with fail
  go_loopw [3, 4] (fun v i wr => ∃ (k : Nat), k ≤ xs.length ∧ i = .int .i64 k ∧ OwnLinks wr w.heap.size v (xs.take k) ∧ Below w.heap.size w wr)
    (fun _ i _ => xs.length - (intOf i).toNat)
  case atStart => exact ⟨0, by omega, rfl, World.ownsRow_nil _ _ _ _, nwR w⟩
  case round =>
    obtain ⟨k, hk, rfl, hO, hb⟩ := hrel
    have HO : Hid (OwnLinks wr w.heap.size u3 (xs.take k)) := hO
    clear hO
    by_cases hkl : k < xs.length
    · have hkli : (k : Int) < (xs.length : Int) := by omega
      obtain ⟨b1, o1, rfl, hc0, hd0⟩ := HX.out.cell hkl
      have hc : wr.cell? ⟨b1, o1 + k * 2, none⟩ = some (.string (xs.getD k lk0).1) := (hb.cell (p := ⟨b1, o1 + k * 2, none⟩) (block_lt_of_cell hc0)).trans hc0
      have hd : wr.cell? ⟨b1, o1 + k * 2 + 1, none⟩ = some (.int .i64 (xs.getD k lk0).2) := (hb.cell (p := ⟨b1, o1 + k * 2 + 1, none⟩) (block_lt_of_cell hd0)).trans hd0
      have HS : Hid (xs.take (k + 1) = xs.take k ++ [xs.getD k lk0]) := by
        show _ = _
        rw [List.take_succ_eq_append_getElem hkl]; simp [List.getD, hkl]
      have hlt : (xs.take k).length ≤ 100000 := by rw [List.length_take]; omega
      generalize xs.getD k lk0 = x at hc hd HS
      generalize xs.take k = ys at HO HS hlt
      clear hc0 hd0
      obtain ⟨x1, x2⟩ := x
      simp only at hc hd
      have hsz : w.heap.size ≤ (wr.alloc (.cells #[.string x1, .int .i64 x2] 87)).heap.size := (nwA hb _).size
      have hc3 : ys.length + 1 ≤ maxLen := by unfold maxLen; omega
      have hc4 : (ys.length + 1) * 24 ≤ 140737488355328 := by omega
      go_wp2_with (at_builtin; refine wpList_append_own _ rfl (.tmp 11) (.tmp 16) 82 rfl w.heap.size 87 i0 (.agg #[.string ⟨#[]⟩, .int .i64 0]) 2 24 Try.underlying82 hi hz0 hz1 hz2 rfl (by decide) u3 ys.length (lflat ys) rfl (World.ownsRow.alloc HO.out _) ⟨wr.heap.size, 0, none⟩ 1 1 [.string x1, .int .i64 x2] rfl rfl (cells_new _ [.string x1, .int .i64 x2] _) (by simp [Value.oneCell']) hc3 hc4 hsz ?_; intro v' w3 hown hgrow _; refine unstop ?_)
      unfold Stop
      have HB3 : Hid (Below w.heap.size w w3) := (nwA hb _).grown hgrow (nwA hb _).size (fun q e => (HO.out.lt q e).1)
      have HO3 : Hid (OwnLinks w3 w.heap.size v' (xs.take (k + 1))) := by rw [HS.out]; exact OwnLinks.snoc hown
      clear hown hgrow
      go_wp2_with fail
      go_roundw
      case rel => exact ⟨k + 1, by omega, by go_num, HO3.out, HB3.out⟩
      case measure => simp [intOf]; omega
    · have hkli : ¬ (k : Int) < (xs.length : Int) := by omega
      have HOE : Hid (OwnLinks wr w.heap.size u3 xs) := by have := HO.out; rw [List.take_of_length_le (by omega)] at this; exact this
      clear HO
      have h := HOE.out
      obtain ⟨av, cv, rfl, _⟩ := h.at
      go_wp2_with fail
      go_ret
      exact ⟨⟨_, rfl, HOE.out⟩, hb⟩

end Go.Proofs.Ytodahdnnlkcfdaa
