/- Plain mathematics: names, paths, their texts (no program is named). -/
import Derived.Lib.Bytealg
import Derived.Lib.Strings
namespace Go.Proofs.YtdpighcaieajjaaGreat

def byI (c : Int) : Bool := (decide (97 ≤ c) && decide (c ≤ 122)) || (decide (48 ≤ c) && decide (c ≤ 57)) || decide (c = 46) || decide (c = 95) || decide (c = 45)
def nmL (l : List UInt8) : Bool := decide (1 ≤ l.length) && decide (l.length ≤ 8) && !decide (l = [46]) && !decide (l = [46, 46]) && l.all fun c => byI c.toNat
def fl (xs : List (List UInt8)) : List UInt8 := xs.flatMap fun x => 47 :: x

def sp : List (List UInt8) → List UInt8 → List UInt8 → Option (List (List UInt8))
  | acc, cur, [] => if nmL cur then some (acc ++ [cur]) else none
  | acc, cur, c :: r => if c = 47 then (if nmL cur then sp (acc ++ [cur]) [] r else none) else sp acc (cur ++ [c]) r
def spR (acc : List (List UInt8)) : List UInt8 → Option (List (List UInt8))
  | [] => some acc
  | c :: r => if c = 47 then sp acc [] r else none
def few (o : Option (List (List UInt8))) : Option (List (List UInt8)) := o.filter fun xs => decide (xs.length ≤ 5)
def pathL (l : List UInt8) : Option (List (List UInt8)) :=
  if l = [47] then some [] else if l = [] ∨ 45 < l.length then none else few (spR [] l)
def txL (xs : List (List UInt8)) : List UInt8 := if xs = [] then [47] else fl xs

theorem fl_nil : fl [] = [] := rfl
theorem fl_cons (x : List UInt8) (xs : List (List UInt8)) : fl (x :: xs) = 47 :: x ++ fl xs := by simp [fl]
theorem fl_append (xs ys : List (List UInt8)) : fl (xs ++ ys) = fl xs ++ fl ys := by simp [fl]
theorem fl_snoc (xs : List (List UInt8)) (x : List UInt8) : fl (xs ++ [x]) = fl xs ++ 47 :: x := by simp [fl]

def noS (l : List UInt8) : Prop := ∀ c ∈ l, c ≠ 47
theorem nmL_len {l : List UInt8} (h : nmL l = true) : 1 ≤ l.length ∧ l.length ≤ 8 := by
  simp only [nmL, Bool.and_eq_true, decide_eq_true_eq] at h; exact ⟨h.1.1.1.1, h.1.1.1.2⟩
theorem nmL_noS {l : List UInt8} (h : nmL l = true) : noS l := by
  simp only [nmL, Bool.and_eq_true, List.all_eq_true] at h
  intro c hc e
  have := h.2 c hc
  subst e
  revert this; decide

theorem sp_take (r : List UInt8) : ∀ acc cur, sp acc cur r = if nmL (cur ++ r.takeWhile (· ≠ 47)) then spR (acc ++ [cur ++ r.takeWhile (· ≠ 47)]) (r.dropWhile (· ≠ 47)) else none := by
  induction r with
  | nil => intro acc cur; simp [sp, spR]
  | cons c r ih =>
    intro acc cur
    by_cases hc : c = 47
    · subst hc; simp [sp, spR]
    · simp [sp, hc, ih]
theorem spR_take (acc : List (List UInt8)) (r : List UInt8) : spR acc (47 :: r) = if nmL (r.takeWhile (· ≠ 47)) then spR (acc ++ [r.takeWhile (· ≠ 47)]) (r.dropWhile (· ≠ 47)) else none := by
  show (if (47 : UInt8) = 47 then sp acc [] r else none) = _
  rw [if_pos rfl, sp_take]; simp only [List.nil_append]

theorem tw_noS {l : List UInt8} (h : noS l) (r : List UInt8) : (l ++ 47 :: r).takeWhile (· ≠ 47) = l ∧ (l ++ 47 :: r).dropWhile (· ≠ 47) = 47 :: r := by
  induction l with
  | nil => simp
  | cons c l ih =>
    have hc : c ≠ 47 := h c (by simp)
    have := ih (fun d hd => h d (by simp [hd]))
    constructor
    · rw [List.cons_append, List.takeWhile_cons]; simp [hc]; simpa using this.1
    · rw [List.cons_append, List.dropWhile_cons]; simp [hc]; simpa using this.2
theorem tw_noS_end {l : List UInt8} (h : noS l) : l.takeWhile (· ≠ 47) = l ∧ l.dropWhile (· ≠ 47) = [] := by
  induction l with
  | nil => simp
  | cons c l ih =>
    have hc : c ≠ 47 := h c (by simp)
    have := ih (fun d hd => h d (by simp [hd]))
    constructor
    · rw [List.takeWhile_cons]; simp [hc]; simpa using this.1
    · rw [List.dropWhile_cons]; simp [hc]; simpa using this.2

theorem spR_fl (ys : List (List UInt8)) : ∀ acc, (∀ y ∈ ys, nmL y = true) → spR acc (fl ys) = some (acc ++ ys) := by
  induction ys with
  | nil => intro acc _; simp [fl, spR]
  | cons y ys ih =>
    intro acc h
    have hy := h y (by simp)
    have ih' := ih (acc ++ [y]) (fun z hz => h z (by simp [hz]))
    rw [fl_cons, List.cons_append, spR_take]
    have key : (y ++ fl ys).takeWhile (· ≠ 47) = y ∧ (y ++ fl ys).dropWhile (· ≠ 47) = fl ys := by
      cases ys with
      | nil => simpa [fl] using tw_noS_end (nmL_noS hy)
      | cons z zs => rw [fl_cons, List.cons_append]; exact tw_noS (nmL_noS hy) _
    rw [key.1, key.2, if_pos hy, ih']
    simp

theorem sp_some (r : List UInt8) : ∀ acc cur xs, sp acc cur r = some xs → fl xs = fl acc ++ 47 :: cur ++ r ∧ ((∀ x ∈ acc, nmL x = true) → ∀ x ∈ xs, nmL x = true) := by
  induction r with
  | nil =>
    intro acc cur xs h
    simp only [sp] at h
    split at h
    · rename_i hc
      injection h with h; subst h
      refine ⟨by simp [fl_snoc], fun ha x hx => ?_⟩
      rcases List.mem_append.1 hx with hx | hx
      · exact ha x hx
      · simp at hx; subst hx; exact hc
    · cases h
  | cons c r ih =>
    intro acc cur xs h
    simp only [sp] at h
    split at h
    · rename_i hc; subst hc
      split at h
      · rename_i hn
        obtain ⟨h1, h2⟩ := ih _ _ _ h
        refine ⟨by rw [h1, fl_snoc]; simp, fun ha => h2 (fun x hx => ?_)⟩
        rcases List.mem_append.1 hx with hx | hx
        · exact ha x hx
        · simp at hx; subst hx; exact hn
      · cases h
    · obtain ⟨h1, h2⟩ := ih _ _ _ h
      exact ⟨by rw [h1]; simp, h2⟩
theorem spR_some {acc : List (List UInt8)} {r : List UInt8} {xs : List (List UInt8)} (h : spR acc r = some xs) : fl xs = fl acc ++ r ∧ ((∀ x ∈ acc, nmL x = true) → ∀ x ∈ xs, nmL x = true) := by
  cases r with
  | nil => simp only [spR] at h; injection h with h; subst h; exact ⟨by simp, fun h => h⟩
  | cons c r =>
    simp only [spR] at h
    split at h
    · rename_i hc; subst hc
      obtain ⟨h1, h2⟩ := sp_some _ _ _ _ h
      exact ⟨by rw [h1]; simp, h2⟩
    · cases h

theorem fl_len_le (xs : List (List UInt8)) (h : ∀ x ∈ xs, nmL x = true) : 2 * xs.length ≤ (fl xs).length ∧ (fl xs).length ≤ 9 * xs.length := by
  induction xs with
  | nil => simp [fl]
  | cons x xs ih =>
    have h1 := nmL_len (h x (by simp))
    have h2 := ih (fun z hz => h z (by simp [hz]))
    rw [fl_cons]; simp only [List.length_append, List.length_cons]; omega

theorem few_some {o : Option (List (List UInt8))} {xs : List (List UInt8)} (h : few o = some xs) : o = some xs ∧ xs.length ≤ 5 := by
  unfold few at h
  simpa [Option.filter_eq_some_iff] using h

theorem pathL_some {l : List UInt8} {xs : List (List UInt8)} (h : pathL l = some xs) : txL xs = l ∧ (∀ x ∈ xs, nmL x = true) ∧ xs.length ≤ 5 := by
  unfold pathL at h
  split at h
  · rename_i e; injection h with h; subst h; exact ⟨by simp [txL, e], by simp, by simp⟩
  · split at h
    · cases h
    · rename_i h1 h2
      obtain ⟨h3, h4⟩ := few_some h
      obtain ⟨h5, h6⟩ := spR_some h3
      refine ⟨?_, h6 (by simp), h4⟩
      have : xs ≠ [] := by
        intro e; subst e; simp [fl] at h5; exact h2 (.inl h5)
      simp [txL, this]; simpa [fl] using h5

theorem pathL_tx (xs : List (List UInt8)) (h : ∀ x ∈ xs, nmL x = true) : pathL (txL xs) = if xs.length ≤ 5 then some xs else none := by
  cases hx : xs with
  | nil => simp [txL, pathL]
  | cons y ys =>
    rw [← hx]
    have hne : xs ≠ [] := by rw [hx]; simp
    have hl := fl_len_le xs h
    have hpos : 1 ≤ xs.length := by rw [hx]; simp
    have e : txL xs = fl xs := by simp [txL, hne]
    rw [e]; unfold pathL
    have e1 : fl xs ≠ [47] := by intro e; rw [e] at hl; simp at hl; omega
    have e2 : fl xs ≠ [] := by intro e; rw [e] at hl; simp at hl; omega
    rw [if_neg e1]
    by_cases h5 : xs.length ≤ 5
    · rw [if_neg (by simp [e2]; omega), spR_fl xs [] h, if_pos h5]
      simp [few, Option.filter, h5]
    · rw [if_neg h5]
      by_cases h45 : 45 < (fl xs).length
      · rw [if_pos (.inr h45)]
      · rw [if_neg (by simp [e2]; omega), spR_fl xs [] h]
        simp [few, Option.filter, h5]

theorem tx_inj {xs ys : List (List UInt8)} (hx : ∀ x ∈ xs, nmL x = true) (hy : ∀ x ∈ ys, nmL x = true) (h5 : xs.length ≤ 5) (h : txL xs = txL ys) : xs = ys := by
  have h1 := pathL_tx xs hx
  have h2 := pathL_tx ys hy
  rw [h, h2, if_pos h5] at h1
  split at h1
  · injection h1 with h1; exact h1.symm
  · cases h1

def bs (l : List UInt8) : ByteArray := ⟨l.toArray⟩
def ls (x : ByteArray) : List UInt8 := x.data.toList
theorem bs_ls (x : ByteArray) : bs (ls x) = x := by cases x; simp [bs, ls]
theorem ls_bs (l : List UInt8) : ls (bs l) = l := by simp [bs, ls]
theorem ls_size (x : ByteArray) : (ls x).length = x.size := by simp [ls]
theorem map_bs_ls (xs : List ByteArray) : (xs.map ls).map bs = xs := by
  rw [List.map_map]
  exact (List.map_congr_left fun x _ => bs_ls x).trans (List.map_id xs)
theorem map_ls_bs (xs : List (List UInt8)) : (xs.map bs).map ls = xs := by
  rw [List.map_map]
  exact (List.map_congr_left fun x _ => ls_bs x).trans (List.map_id xs)
theorem bs_eq {l : List UInt8} {x : ByteArray} (h : l = ls x) : bs l = x := by rw [h, bs_ls]
theorem ls_inj {x y : ByteArray} (h : ls x = ls y) : x = y := by rw [← bs_ls x, h, bs_ls]

def nm (x : ByteArray) : Bool := nmL (ls x)
def pathN (s : ByteArray) : Option (List ByteArray) := (pathL (ls s)).map (·.map bs)
def tx (xs : List ByteArray) : ByteArray := bs (txL (xs.map ls))
def un (a b : List ByteArray) : Bool := decide (b.take a.length = a)

theorem pathN_some {s : ByteArray} {xs : List ByteArray} (h : pathN s = some xs) : tx xs = s ∧ (∀ x ∈ xs, nm x = true) ∧ xs.length ≤ 5 := by
  unfold pathN at h
  cases hp : pathL (ls s) with
  | none => rw [hp] at h; cases h
  | some ys =>
    rw [hp] at h; simp at h; subst h
    obtain ⟨h1, h2, h3⟩ := pathL_some hp
    refine ⟨?_, ?_, by simpa using h3⟩
    · unfold tx; rw [map_ls_bs, h1, bs_ls]
    · intro x hx
      obtain ⟨y, hy, rfl⟩ := List.mem_map.1 hx
      unfold nm; rw [ls_bs]; exact h2 y hy
theorem pathN_tx {xs : List ByteArray} (h : ∀ x ∈ xs, nm x = true) : pathN (tx xs) = if xs.length ≤ 5 then some xs else none := by
  unfold pathN tx
  rw [ls_bs, pathL_tx]
  · rw [List.length_map]
    split
    · simp only [Option.map_some]; rw [map_bs_ls]
    · rfl
  · intro x hx
    obtain ⟨y, hy, rfl⟩ := List.mem_map.1 hx
    exact h y hy
theorem nm_len {x : ByteArray} (h : nm x = true) : 1 ≤ x.size ∧ x.size ≤ 8 := by
  have := nmL_len h
  rw [ls_size] at this; exact this

/-- the reader's step -/
theorem idx (r : List UInt8) : (Lib.indexByte r 47 < 0 → r.takeWhile (· ≠ 47) = r ∧ r.dropWhile (· ≠ 47) = []) ∧
    (0 ≤ Lib.indexByte r 47 → (Lib.indexByte r 47).toNat ≤ r.length ∧ r.takeWhile (· ≠ 47) = r.take (Lib.indexByte r 47).toNat ∧ r.dropWhile (· ≠ 47) = r.drop (Lib.indexByte r 47).toNat) := by
  induction r with
  | nil => simp [Lib.indexByte]
  | cons c r ih =>
    by_cases hc : c = 47
    · subst hc; simp [Lib.indexByte]
    · have hb : (c == 47) = false := by simpa using hc
      have hge := Lib.indexByte_ge r 47
      unfold Lib.indexByte
      rw [hb]
      by_cases hm : Lib.indexByte r 47 = -1
      · have h1 := ih.1 (by omega)
        simp [hm, hc]
        exact ⟨by simpa using h1.1, by simpa using h1.2⟩
      · have h0 : 0 ≤ Lib.indexByte r 47 := by omega
        obtain ⟨h1, h2, h3⟩ := ih.2 h0
        have hm' : (Lib.indexByte r 47 == -1) = false := by simpa using hm
        rw [hm']
        simp only [Bool.false_eq_true, if_false]
        refine ⟨fun h => by omega, fun _ => ?_⟩
        have e : (Lib.indexByte r 47 + 1).toNat = (Lib.indexByte r 47).toNat + 1 := by omega
        rw [e, List.takeWhile_cons, List.dropWhile_cons, List.take_succ_cons, List.drop_succ_cons]
        have hd : decide (c ≠ 47) = true := by simpa using hc
        simp only [hd, if_true]
        refine ⟨by simp only [List.length_cons]; omega, by rw [h2], h3⟩

/-- the page's loop -/
def spI (acc : List (List UInt8)) (f i : Nat) (l : List UInt8) : Option (List (List UInt8)) :=
  if i ≤ l.length then sp acc ((l.drop f).take (i - f)) (l.drop i) else some acc
def cut (l : List UInt8) (f i : Nat) : List UInt8 := (l.drop f).take (i - f)

theorem spI_start (t : List UInt8) : spI [] 1 1 (47 :: t) = spR [] (47 :: t) := by
  simp [spI, spR]
theorem spI_slash {acc : List (List UInt8)} {f i : Nat} {l : List UInt8} (hi : i < l.length) (hc : l[i] = 47) :
    spI acc f i l = if nmL (cut l f i) then spI (acc ++ [cut l f i]) (i + 1) (i + 1) l else none := by
  unfold spI cut
  rw [if_pos (Nat.le_of_lt hi), if_pos (show i + 1 ≤ l.length from hi), List.drop_eq_getElem_cons hi, hc]
  simp [sp]
theorem spI_other {acc : List (List UInt8)} {f i : Nat} {l : List UInt8} (hf : f ≤ i) (hi : i < l.length) (hc : l[i] ≠ 47) :
    spI acc f i l = spI acc f (i + 1) l := by
  unfold spI
  rw [if_pos (Nat.le_of_lt hi), if_pos (show i + 1 ≤ l.length from hi)]
  conv => lhs; rw [List.drop_eq_getElem_cons hi]
  simp only [sp, if_neg hc]
  congr 1
  have e : i + 1 - f = (i - f) + 1 := by omega
  rw [e, List.take_add_one]
  congr 1
  rw [List.getElem?_drop, show f + (i - f) = i from by omega, List.getElem?_eq_getElem hi]
  rfl
theorem spI_end {acc : List (List UInt8)} {f : Nat} {l : List UInt8} :
    spI acc f l.length l = if nmL (cut l f l.length) then spI (acc ++ [cut l f l.length]) (l.length + 1) (l.length + 1) l else none := by
  have e : spI (acc ++ [cut l f l.length]) (l.length + 1) (l.length + 1) l = some (acc ++ [cut l f l.length]) := by
    unfold spI; rw [if_neg (by omega)]
  rw [e]
  unfold spI cut
  rw [if_pos (Nat.le_refl _)]
  simp [sp]
theorem spI_out {acc : List (List UInt8)} {f i : Nat} {l : List UInt8} (h : l.length < i) : spI acc f i l = some acc := by
  unfold spI; rw [if_neg (by omega)]

end Go.Proofs.YtdpighcaieajjaaGreat
