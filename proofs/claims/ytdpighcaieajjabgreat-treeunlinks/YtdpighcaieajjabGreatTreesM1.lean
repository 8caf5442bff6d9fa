/- Laid together: Shelf, Math, Leaf, Write, Strs, Eqs, Text. -/
import Derived.Shelf.Strings.Builder1
import Derived.Shelf.Small.Strs
import Derived.Shelf.Small.Wraps
import Derived.Shelf.Small.Bits
import Derived.Shelf.LaysM
import Derived.Shelf.Strconv.Clone
import Derived.Shelf.Slices.Equal
import Derived.Shelf.Slices.Empties2
import Derived.Test.YtdpighcaieajjabGreatProg
import Derived.Lib.Bytealg
import Derived.Lib.Strings
import Derived.WalkKit
import Derived.WalkSpells
import Derived.WalkLawsBesides
import Derived.Lib.AppendStr
import Derived.Deep.QuietTactic
import Derived.BigQuiet
/- What the library's functions do that the program calls: each by its contract, laid at this program. -/
namespace Go.Proofs
open Go.Shelf

def Tryz.lays169_ren : Go.Shelf.Ren := ⟨fun | 169 => 132 | n => n, fun | 70 => 149 | 9 => 9 | 0 => 0 | 72 => 152 | 37 => 150 | 127 => 171 | 3 => 3 | 5 => 5 | n => n, fun | n => n⟩

theorem Tryz.lays169 : Go.Proofs.Lays.n169 Tryz.prog Tryz.lays169_ren := {
  mixed := by kernel_rfl
  f169 := Tryz.func132.trans (congrArg some (by kernel_rfl))
  t0 := Tryz.underlying0
  a0 := Tryz.isAgg0
  z0 := Tryz.sizeOf0
  v0 := Tryz.zeroValue0
  t3 := Tryz.underlying3
  a3 := Tryz.isAgg3
  z3 := Tryz.sizeOf3
  v3 := Tryz.zeroValue3
  t9 := Tryz.underlying9
  a9 := Tryz.isAgg9
  z9 := Tryz.sizeOf9
  v9 := Tryz.zeroValue9
  t37 := Tryz.underlying150
  a37 := Tryz.isAgg150
  z37 := Tryz.sizeOf150
  v37 := Tryz.zeroValue150
  t70 := Tryz.underlying149
  a70 := Tryz.isAgg149
  z70 := Tryz.sizeOf149
  v70 := Tryz.zeroValue149
  t72 := Tryz.underlying152
  a72 := Tryz.isAgg152
  z72 := Tryz.sizeOf152
  v72 := Tryz.zeroValue152
  t127 := Tryz.underlying171
  a127 := Tryz.isAgg171
  z127 := Tryz.sizeOf171
  v127 := Tryz.zeroValue171 }

theorem Tryz.Builder_Extra_169 : Builder.Extra Tryz.prog Tryz.lays169_ren := {
  sizeBuilder := by kernel_rfl
  liesBuilder := by kernel_rfl
  t5 := Tryz.underlying5
  a5 := Tryz.isAgg5
  z5 := Tryz.sizeOf5
  v5 := Tryz.zeroValue5
  infoByte := by kernel_rfl
  cellsByte := by kernel_rfl
  sizeByte := by kernel_rfl
  neB5 := by decide }

open Go.RowKit in
theorem Tryz.Builder_String_any (B b : Nat) (l : List UInt8) (w : World) (h : Lib.IsBuilder 152 5 B b (Lib.byteCells l) w) (hBw : B ≤ w.heap.size) :
    Calls Tryz.prog 132 #[.pointer (some ⟨b, 0, none⟩)] w fun e w' => e = .returned (.string ⟨l.toArray⟩) ∧ Below B w w' := Any.Builder_String_any Tryz.lays169 Tryz.Builder_Extra_169 B b l w h hBw

def Tryz.lays125_ren : Go.Shelf.Ren := ⟨fun | 125 => 123 | 128 => 142 | 129 => 143 | n => n, fun | 46 => 66 | 3 => 3 | 51 => 167 | 53 => 169 | 4 => 4 | 5 => 5 | 9 => 9 | n => n, fun | n => n⟩

theorem Tryz.lays125 : Go.Proofs.Lays.n125 Tryz.prog Tryz.lays125_ren := {
  mixed := by kernel_rfl
  f125 := Tryz.func123.trans (congrArg some (by kernel_rfl))
  f128 := Tryz.func142.trans (congrArg some (by kernel_rfl))
  f129 := Tryz.func143.trans (congrArg some (by kernel_rfl))
  t3 := Tryz.underlying3
  a3 := Tryz.isAgg3
  z3 := Tryz.sizeOf3
  v3 := Tryz.zeroValue3
  t4 := Tryz.underlying4
  a4 := Tryz.isAgg4
  z4 := Tryz.sizeOf4
  v4 := Tryz.zeroValue4
  t5 := Tryz.underlying5
  a5 := Tryz.isAgg5
  z5 := Tryz.sizeOf5
  v5 := Tryz.zeroValue5
  t9 := Tryz.underlying9
  a9 := Tryz.isAgg9
  z9 := Tryz.sizeOf9
  v9 := Tryz.zeroValue9
  t46 := Tryz.underlying66
  a46 := Tryz.isAgg66
  z46 := Tryz.sizeOf66
  v46 := Tryz.zeroValue66
  t51 := Tryz.underlying167
  a51 := Tryz.isAgg167
  z51 := Tryz.sizeOf167
  v51 := Tryz.zeroValue167
  t53 := Tryz.underlying169
  a53 := Tryz.isAgg169
  z53 := Tryz.sizeOf169
  v53 := Tryz.zeroValue169 }

theorem Tryz.bits_Len (x : Int) (w : World) (h0 : 0 ≤ x) (h1 : x ≤ 18446744073709551615) :
    Calls Tryz.prog 123 #[.int .u64 x] w fun e w' => e = .returned (.int .i64 (Lib.bitLen x.toNat)) ∧ w' = w := Any.bits_Len Tryz.lays125 x w h0 h1

def Tryz.lays137_ren : Go.Shelf.Ren := ⟨fun | 137 => 126 | 217 => 145 | 266 => 155 | n => n, fun | 9 => 9 | 5 => 5 | 3 => 3 | n => n, fun | n => n⟩

theorem Tryz.lays137 : Go.Proofs.Lays.n137 Tryz.prog Tryz.lays137_ren := {
  mixed := by kernel_rfl
  f137 := Tryz.func126.trans (congrArg some (by kernel_rfl))
  f217 := Tryz.func145.trans (congrArg some (by kernel_rfl))
  f266 := Tryz.func155.trans (congrArg some (by kernel_rfl))
  t3 := Tryz.underlying3
  a3 := Tryz.isAgg3
  z3 := Tryz.sizeOf3
  v3 := Tryz.zeroValue3
  t5 := Tryz.underlying5
  a5 := Tryz.isAgg5
  z5 := Tryz.sizeOf5
  v5 := Tryz.zeroValue5
  t9 := Tryz.underlying9
  a9 := Tryz.isAgg9
  z9 := Tryz.sizeOf9
  v9 := Tryz.zeroValue9 }

open Go.RowKit in
theorem Tryz.strings_IndexByte (s : ByteArray) (c : Int) (w : World) :
    Calls Tryz.prog 126 #[.string s, .int .u8 c] w fun e w' => e = .returned (.int .i64 (Lib.indexByte s.data.toList c.toNat.toUInt8)) ∧ w' = w := Any.strings_IndexByte Tryz.lays137 s c w

def Tryz.lays103_ren : Go.Shelf.Ren := ⟨fun | 103 => 125 | 210 => 144 | 206 => 154 | n => n, fun | 9 => 9 | 4 => 4 | 24 => 144 | 3 => 3 | n => n, fun | n => n⟩

theorem Tryz.lays103 : Go.Proofs.Lays.n103 Tryz.prog Tryz.lays103_ren := {
  mixed := by kernel_rfl
  f103 := Tryz.func125.trans (congrArg some (by kernel_rfl))
  f206 := Tryz.func154.trans (congrArg some (by kernel_rfl))
  f210 := Tryz.func144.trans (congrArg some (by kernel_rfl))
  t3 := Tryz.underlying3
  a3 := Tryz.isAgg3
  z3 := Tryz.sizeOf3
  v3 := Tryz.zeroValue3
  t4 := Tryz.underlying4
  a4 := Tryz.isAgg4
  z4 := Tryz.sizeOf4
  v4 := Tryz.zeroValue4
  t9 := Tryz.underlying9
  a9 := Tryz.isAgg9
  z9 := Tryz.sizeOf9
  v9 := Tryz.zeroValue9
  t24 := Tryz.underlying144
  a24 := Tryz.isAgg144
  z24 := Tryz.sizeOf144
  v24 := Tryz.zeroValue144 }

open Go.RowKit in
theorem Tryz.strings_CutPrefix (s p : ByteArray) (w : World) :
    Calls Tryz.prog 125 #[.string s, .string p] w fun e w' => e = .returned (.tuple #[.string ⟨(Lib.trimPrefix s.data.toList p.data.toList).toArray⟩, .bool (Lib.hasPrefix s.data.toList p.data.toList)]) ∧ w' = w := Any.strings_CutPrefix Tryz.lays103 s p w

def Tryz.laysM316_ren : Go.Shelf.Ren := ⟨fun | 316 => 147 | n => n, fun | 9 => 9 | 3 => 3 | 4 => 4 | 37 => 150 | 0 => 0 | 127 => 171 | 5 => 5 | n => n, fun | n => n⟩

theorem Tryz.laysM316 : Go.Proofs.LaysM.n316 Tryz.prog Tryz.laysM316_ren := {
  mixed := by kernel_rfl
  f316 := Tryz.func147.trans (congrArg some (by kernel_rfl))
  t0 := Tryz.underlying0
  a0 := Tryz.isAgg0
  z0 := Tryz.sizeOf0
  v0 := Tryz.zeroValue0
  t3 := Tryz.underlying3
  a3 := Tryz.isAgg3
  z3 := Tryz.sizeOf3
  v3 := Tryz.zeroValue3
  t4 := Tryz.underlying4
  a4 := Tryz.isAgg4
  z4 := Tryz.sizeOf4
  v4 := Tryz.zeroValue4
  t9 := Tryz.underlying9
  a9 := Tryz.isAgg9
  z9 := Tryz.sizeOf9
  v9 := Tryz.zeroValue9
  t37 := Tryz.underlying150
  a37 := Tryz.isAgg150
  z37 := Tryz.sizeOf150
  v37 := Tryz.zeroValue150
  t127 := Tryz.underlying171
  a127 := Tryz.isAgg171
  z127 := Tryz.sizeOf171
  v127 := Tryz.zeroValue171
  t5 := Tryz.underlying5
  a5 := Tryz.isAgg5
  z5 := Tryz.sizeOf5
  v5 := Tryz.zeroValue5
  i0 := by kernel_rfl
  i3 := by kernel_rfl
  i4 := by kernel_rfl
  i5 := by kernel_rfl
  i9 := by kernel_rfl
  i37 := by kernel_rfl
  i127 := by kernel_rfl }

open Go.RowKit in
theorem Tryz.stringslite_Clone (s : ByteArray) (w : World) (hlim : s.size ≤ 281474976710656) :
    Calls Tryz.prog 147 #[.string s] w fun e w' => e = .returned (.string s) ∧ Below w.heap.size w w' := Any.stringslite_Clone Tryz.laysM316 s w hlim

def Tryz.lays193_ren : Go.Shelf.Ren := ⟨fun | 193 => 115 | n => n, fun | 31 => 38 | 9 => 9 | 4 => 4 | 3 => 3 | 0 => 0 | n => n, fun | n => n⟩

theorem Tryz.lays193 : Go.Proofs.Lays.n193 Tryz.prog Tryz.lays193_ren := {
  mixed := by kernel_rfl
  f193 := Tryz.func115.trans (congrArg some (by kernel_rfl))
  t0 := Tryz.underlying0
  a0 := Tryz.isAgg0
  z0 := Tryz.sizeOf0
  v0 := Tryz.zeroValue0
  t3 := Tryz.underlying3
  a3 := Tryz.isAgg3
  z3 := Tryz.sizeOf3
  v3 := Tryz.zeroValue3
  t4 := Tryz.underlying4
  a4 := Tryz.isAgg4
  z4 := Tryz.sizeOf4
  v4 := Tryz.zeroValue4
  t9 := Tryz.underlying9
  a9 := Tryz.isAgg9
  z9 := Tryz.sizeOf9
  v9 := Tryz.zeroValue9
  t31 := Tryz.underlying38
  a31 := Tryz.isAgg38
  z31 := Tryz.sizeOf38
  v31 := Tryz.zeroValue38 }
open Go.RowKit Go.Lib in

theorem Tryz.slices_Equal_string (b1 o1 n c b2 o2 m d : Nat) (xs ys : List ByteArray) (w : World) (hx : n ≤ xs.length) (hy : m ≤ ys.length) (hbig : n ≤ 9223372036854775807) (hbig2 : m ≤ 9223372036854775807) (hc1 : ∀ j, j < xs.length → w.cell? ⟨b1, o1 + j, none⟩ = some (.string (xs.getD j ByteArray.empty))) (hc2 : ∀ j, j < ys.length → w.cell? ⟨b2, o2 + j, none⟩ = some (.string (ys.getD j ByteArray.empty))) :
    Calls Tryz.prog 115 #[.slice (some ⟨b1, o1, none⟩) n c, .slice (some ⟨b2, o2, none⟩) m d] w fun e w' => e = .returned (.bool (decide (xs.take n = ys.take m))) ∧ ∃ q, w' = w.drewN q := Any.slices_Equal_string Tryz.lays193 b1 o1 n c b2 o2 m d xs ys w hx hy hbig hbig2 hc1 hc2
open Go.RowKit Go.Lib in

theorem Tryz.slices_Equal_string_empty (a1 a2 : Option Addr) (c m d : Nat) (w : World) (hbig2 : m ≤ 9223372036854775807) :
    Calls Tryz.prog 115 #[.slice a1 0 c, .slice a2 m d] w fun e w' => e = .returned (.bool (decide (m = 0))) ∧ w' = w := Any.slices_Equal_string_empty Tryz.lays193 a1 a2 c m d w hbig2

theorem Tryz.slices_Equal_string_lens (a1 a2 : Option Addr) (n c m d : Nat) (w : World) (hnm : n ≠ m) :
    Calls Tryz.prog 115 #[.slice a1 n c, .slice a2 m d] w fun e w' => e = .returned (.bool false) ∧ w' = w := Any.slices_Equal_string_lens Tryz.lays193 a1 a2 n c m d w hnm

end Go.Proofs

/- Plain mathematics: names, paths, their texts (no program is named). -/
namespace Go.Proofs.YtdpighcaieajjabGreat

def byI (c : Int) : Bool := (decide (97 ≤ c) && decide (c ≤ 122)) || (decide (48 ≤ c) && decide (c ≤ 57)) || decide (c = 46) || decide (c = 95) || decide (c = 45)
def nmL (l : List UInt8) : Bool := decide (1 ≤ l.length) && decide (l.length ≤ 8) && !decide (l = [46]) && !decide (l = [46, 46]) && l.all fun c => byI c.toNat
def fl (xs : List (List UInt8)) : List UInt8 := xs.flatMap fun x => 47 :: x

def sp : List (List UInt8) → List UInt8 → List UInt8 → Option (List (List UInt8))
  | acc, cur, [] => if nmL cur then some (acc ++ [cur]) else none
  | acc, cur, c :: r => if c = 47 then (if nmL cur then sp (acc ++ [cur]) [] r else none) else sp acc (cur ++ [c]) r
def spR (acc : List (List UInt8)) : List UInt8 → Option (List (List UInt8))
  | [] => some acc
  | c :: r => if c = 47 then sp acc [] r else none
def few (o : Option (List (List UInt8))) : Option (List (List UInt8)) := o.filter fun xs => decide (xs.length ≤ 5)
def pathL (l : List UInt8) : Option (List (List UInt8)) :=
  if l = [47] then some [] else if l = [] ∨ 45 < l.length then none else few (spR [] l)
def txL (xs : List (List UInt8)) : List UInt8 := if xs = [] then [47] else fl xs

theorem fl_nil : fl [] = [] := rfl
theorem fl_cons (x : List UInt8) (xs : List (List UInt8)) : fl (x :: xs) = 47 :: x ++ fl xs := by simp [fl]
theorem fl_append (xs ys : List (List UInt8)) : fl (xs ++ ys) = fl xs ++ fl ys := by simp [fl]
theorem fl_snoc (xs : List (List UInt8)) (x : List UInt8) : fl (xs ++ [x]) = fl xs ++ 47 :: x := by simp [fl]

def noS (l : List UInt8) : Prop := ∀ c ∈ l, c ≠ 47
theorem nmL_len {l : List UInt8} (h : nmL l = true) : 1 ≤ l.length ∧ l.length ≤ 8 := by
  simp only [nmL, Bool.and_eq_true, decide_eq_true_eq] at h; exact ⟨h.1.1.1.1, h.1.1.1.2⟩
theorem nmL_noS {l : List UInt8} (h : nmL l = true) : noS l := by
  simp only [nmL, Bool.and_eq_true, List.all_eq_true] at h
  intro c hc e
  have := h.2 c hc
  subst e
  revert this; decide

theorem sp_take (r : List UInt8) : ∀ acc cur, sp acc cur r = if nmL (cur ++ r.takeWhile (· ≠ 47)) then spR (acc ++ [cur ++ r.takeWhile (· ≠ 47)]) (r.dropWhile (· ≠ 47)) else none := by
  induction r with
  | nil => intro acc cur; simp [sp, spR]
  | cons c r ih =>
    intro acc cur
    by_cases hc : c = 47
    · subst hc; simp [sp, spR]
    · simp [sp, hc, ih]
theorem spR_take (acc : List (List UInt8)) (r : List UInt8) : spR acc (47 :: r) = if nmL (r.takeWhile (· ≠ 47)) then spR (acc ++ [r.takeWhile (· ≠ 47)]) (r.dropWhile (· ≠ 47)) else none := by
  show (if (47 : UInt8) = 47 then sp acc [] r else none) = _
  rw [if_pos rfl, sp_take]; simp only [List.nil_append]

theorem tw_noS {l : List UInt8} (h : noS l) (r : List UInt8) : (l ++ 47 :: r).takeWhile (· ≠ 47) = l ∧ (l ++ 47 :: r).dropWhile (· ≠ 47) = 47 :: r := by
  induction l with
  | nil => simp
  | cons c l ih =>
    have hc : c ≠ 47 := h c (by simp)
    have := ih (fun d hd => h d (by simp [hd]))
    constructor
    · rw [List.cons_append, List.takeWhile_cons]; simp [hc]; simpa using this.1
    · rw [List.cons_append, List.dropWhile_cons]; simp [hc]; simpa using this.2
theorem tw_noS_end {l : List UInt8} (h : noS l) : l.takeWhile (· ≠ 47) = l ∧ l.dropWhile (· ≠ 47) = [] := by
  induction l with
  | nil => simp
  | cons c l ih =>
    have hc : c ≠ 47 := h c (by simp)
    have := ih (fun d hd => h d (by simp [hd]))
    constructor
    · rw [List.takeWhile_cons]; simp [hc]; simpa using this.1
    · rw [List.dropWhile_cons]; simp [hc]; simpa using this.2

theorem spR_fl (ys : List (List UInt8)) : ∀ acc, (∀ y ∈ ys, nmL y = true) → spR acc (fl ys) = some (acc ++ ys) := by
  induction ys with
  | nil => intro acc _; simp [fl, spR]
  | cons y ys ih =>
    intro acc h
    have hy := h y (by simp)
    have ih' := ih (acc ++ [y]) (fun z hz => h z (by simp [hz]))
    rw [fl_cons, List.cons_append, spR_take]
    have key : (y ++ fl ys).takeWhile (· ≠ 47) = y ∧ (y ++ fl ys).dropWhile (· ≠ 47) = fl ys := by
      cases ys with
      | nil => simpa [fl] using tw_noS_end (nmL_noS hy)
      | cons z zs => rw [fl_cons, List.cons_append]; exact tw_noS (nmL_noS hy) _
    rw [key.1, key.2, if_pos hy, ih']
    simp

theorem sp_some (r : List UInt8) : ∀ acc cur xs, sp acc cur r = some xs → fl xs = fl acc ++ 47 :: cur ++ r ∧ ((∀ x ∈ acc, nmL x = true) → ∀ x ∈ xs, nmL x = true) := by
  induction r with
  | nil =>
    intro acc cur xs h
    simp only [sp] at h
    split at h
    · rename_i hc
      injection h with h; subst h
      refine ⟨by simp [fl_snoc], fun ha x hx => ?_⟩
      rcases List.mem_append.1 hx with hx | hx
      · exact ha x hx
      · simp at hx; subst hx; exact hc
    · cases h
  | cons c r ih =>
    intro acc cur xs h
    simp only [sp] at h
    split at h
    · rename_i hc; subst hc
      split at h
      · rename_i hn
        obtain ⟨h1, h2⟩ := ih _ _ _ h
        refine ⟨by rw [h1, fl_snoc]; simp, fun ha => h2 (fun x hx => ?_)⟩
        rcases List.mem_append.1 hx with hx | hx
        · exact ha x hx
        · simp at hx; subst hx; exact hn
      · cases h
    · obtain ⟨h1, h2⟩ := ih _ _ _ h
      exact ⟨by rw [h1]; simp, h2⟩
theorem spR_some {acc : List (List UInt8)} {r : List UInt8} {xs : List (List UInt8)} (h : spR acc r = some xs) : fl xs = fl acc ++ r ∧ ((∀ x ∈ acc, nmL x = true) → ∀ x ∈ xs, nmL x = true) := by
  cases r with
  | nil => simp only [spR] at h; injection h with h; subst h; exact ⟨by simp, fun h => h⟩
  | cons c r =>
    simp only [spR] at h
    split at h
    · rename_i hc; subst hc
      obtain ⟨h1, h2⟩ := sp_some _ _ _ _ h
      exact ⟨by rw [h1]; simp, h2⟩
    · cases h

theorem fl_len_le (xs : List (List UInt8)) (h : ∀ x ∈ xs, nmL x = true) : 2 * xs.length ≤ (fl xs).length ∧ (fl xs).length ≤ 9 * xs.length := by
  induction xs with
  | nil => simp [fl]
  | cons x xs ih =>
    have h1 := nmL_len (h x (by simp))
    have h2 := ih (fun z hz => h z (by simp [hz]))
    rw [fl_cons]; simp only [List.length_append, List.length_cons]; omega

theorem few_some {o : Option (List (List UInt8))} {xs : List (List UInt8)} (h : few o = some xs) : o = some xs ∧ xs.length ≤ 5 := by
  unfold few at h
  simpa [Option.filter_eq_some_iff] using h

theorem pathL_some {l : List UInt8} {xs : List (List UInt8)} (h : pathL l = some xs) : txL xs = l ∧ (∀ x ∈ xs, nmL x = true) ∧ xs.length ≤ 5 := by
  unfold pathL at h
  split at h
  · rename_i e; injection h with h; subst h; exact ⟨by simp [txL, e], by simp, by simp⟩
  · split at h
    · cases h
    · rename_i h1 h2
      obtain ⟨h3, h4⟩ := few_some h
      obtain ⟨h5, h6⟩ := spR_some h3
      refine ⟨?_, h6 (by simp), h4⟩
      have : xs ≠ [] := by
        intro e; subst e; simp [fl] at h5; exact h2 (.inl h5)
      simp [txL, this]; simpa [fl] using h5

theorem pathL_tx (xs : List (List UInt8)) (h : ∀ x ∈ xs, nmL x = true) : pathL (txL xs) = if xs.length ≤ 5 then some xs else none := by
  cases hx : xs with
  | nil => simp [txL, pathL]
  | cons y ys =>
    rw [← hx]
    have hne : xs ≠ [] := by rw [hx]; simp
    have hl := fl_len_le xs h
    have hpos : 1 ≤ xs.length := by rw [hx]; simp
    have e : txL xs = fl xs := by simp [txL, hne]
    rw [e]; unfold pathL
    have e1 : fl xs ≠ [47] := by intro e; rw [e] at hl; simp at hl; omega
    have e2 : fl xs ≠ [] := by intro e; rw [e] at hl; simp at hl; omega
    rw [if_neg e1]
    by_cases h5 : xs.length ≤ 5
    · rw [if_neg (by simp [e2]; omega), spR_fl xs [] h, if_pos h5]
      simp [few, Option.filter, h5]
    · rw [if_neg h5]
      by_cases h45 : 45 < (fl xs).length
      · rw [if_pos (.inr h45)]
      · rw [if_neg (by simp [e2]; omega), spR_fl xs [] h]
        simp [few, Option.filter, h5]

theorem tx_inj {xs ys : List (List UInt8)} (hx : ∀ x ∈ xs, nmL x = true) (hy : ∀ x ∈ ys, nmL x = true) (h5 : xs.length ≤ 5) (h : txL xs = txL ys) : xs = ys := by
  have h1 := pathL_tx xs hx
  have h2 := pathL_tx ys hy
  rw [h, h2, if_pos h5] at h1
  split at h1
  · injection h1 with h1; exact h1.symm
  · cases h1

def bs (l : List UInt8) : ByteArray := ⟨l.toArray⟩
def ls (x : ByteArray) : List UInt8 := x.data.toList
theorem bs_ls (x : ByteArray) : bs (ls x) = x := by cases x; simp [bs, ls]
theorem ls_bs (l : List UInt8) : ls (bs l) = l := by simp [bs, ls]
theorem ls_size (x : ByteArray) : (ls x).length = x.size := by simp [ls]
theorem map_bs_ls (xs : List ByteArray) : (xs.map ls).map bs = xs := by
  rw [List.map_map]
  exact (List.map_congr_left fun x _ => bs_ls x).trans (List.map_id xs)
theorem map_ls_bs (xs : List (List UInt8)) : (xs.map bs).map ls = xs := by
  rw [List.map_map]
  exact (List.map_congr_left fun x _ => ls_bs x).trans (List.map_id xs)
theorem bs_eq {l : List UInt8} {x : ByteArray} (h : l = ls x) : bs l = x := by rw [h, bs_ls]
theorem ls_inj {x y : ByteArray} (h : ls x = ls y) : x = y := by rw [← bs_ls x, h, bs_ls]

def nm (x : ByteArray) : Bool := nmL (ls x)
def pathN (s : ByteArray) : Option (List ByteArray) := (pathL (ls s)).map (·.map bs)
def tx (xs : List ByteArray) : ByteArray := bs (txL (xs.map ls))
def un (a b : List ByteArray) : Bool := decide (b.take a.length = a)

theorem pathN_some {s : ByteArray} {xs : List ByteArray} (h : pathN s = some xs) : tx xs = s ∧ (∀ x ∈ xs, nm x = true) ∧ xs.length ≤ 5 := by
  unfold pathN at h
  cases hp : pathL (ls s) with
  | none => rw [hp] at h; cases h
  | some ys =>
    rw [hp] at h; simp at h; subst h
    obtain ⟨h1, h2, h3⟩ := pathL_some hp
    refine ⟨?_, ?_, by simpa using h3⟩
    · unfold tx; rw [map_ls_bs, h1, bs_ls]
    · intro x hx
      obtain ⟨y, hy, rfl⟩ := List.mem_map.1 hx
      unfold nm; rw [ls_bs]; exact h2 y hy
theorem pathN_tx {xs : List ByteArray} (h : ∀ x ∈ xs, nm x = true) : pathN (tx xs) = if xs.length ≤ 5 then some xs else none := by
  unfold pathN tx
  rw [ls_bs, pathL_tx]
  · rw [List.length_map]
    split
    · simp only [Option.map_some]; rw [map_bs_ls]
    · rfl
  · intro x hx
    obtain ⟨y, hy, rfl⟩ := List.mem_map.1 hx
    exact h y hy
theorem nm_len {x : ByteArray} (h : nm x = true) : 1 ≤ x.size ∧ x.size ≤ 8 := by
  have := nmL_len h
  rw [ls_size] at this; exact this

/-- the reader's step -/
theorem idx (r : List UInt8) : (Lib.indexByte r 47 < 0 → r.takeWhile (· ≠ 47) = r ∧ r.dropWhile (· ≠ 47) = []) ∧
    (0 ≤ Lib.indexByte r 47 → (Lib.indexByte r 47).toNat ≤ r.length ∧ r.takeWhile (· ≠ 47) = r.take (Lib.indexByte r 47).toNat ∧ r.dropWhile (· ≠ 47) = r.drop (Lib.indexByte r 47).toNat) := by
  induction r with
  | nil => simp [Lib.indexByte]
  | cons c r ih =>
    by_cases hc : c = 47
    · subst hc; simp [Lib.indexByte]
    · have hb : (c == 47) = false := by simpa using hc
      have hge := Lib.indexByte_ge r 47
      unfold Lib.indexByte
      rw [hb]
      by_cases hm : Lib.indexByte r 47 = -1
      · have h1 := ih.1 (by omega)
        simp [hm, hc]
        exact ⟨by simpa using h1.1, by simpa using h1.2⟩
      · have h0 : 0 ≤ Lib.indexByte r 47 := by omega
        obtain ⟨h1, h2, h3⟩ := ih.2 h0
        have hm' : (Lib.indexByte r 47 == -1) = false := by simpa using hm
        rw [hm']
        simp only [Bool.false_eq_true, if_false]
        refine ⟨fun h => by omega, fun _ => ?_⟩
        have e : (Lib.indexByte r 47 + 1).toNat = (Lib.indexByte r 47).toNat + 1 := by omega
        rw [e, List.takeWhile_cons, List.dropWhile_cons, List.take_succ_cons, List.drop_succ_cons]
        have hd : decide (c ≠ 47) = true := by simpa using hc
        simp only [hd, if_true]
        refine ⟨by simp only [List.length_cons]; omega, by rw [h2], h3⟩

/-- the page's loop -/
def spI (acc : List (List UInt8)) (f i : Nat) (l : List UInt8) : Option (List (List UInt8)) :=
  if i ≤ l.length then sp acc ((l.drop f).take (i - f)) (l.drop i) else some acc
def cut (l : List UInt8) (f i : Nat) : List UInt8 := (l.drop f).take (i - f)

theorem spI_start (t : List UInt8) : spI [] 1 1 (47 :: t) = spR [] (47 :: t) := by
  simp [spI, spR]
theorem spI_slash {acc : List (List UInt8)} {f i : Nat} {l : List UInt8} (hi : i < l.length) (hc : l[i] = 47) :
    spI acc f i l = if nmL (cut l f i) then spI (acc ++ [cut l f i]) (i + 1) (i + 1) l else none := by
  unfold spI cut
  rw [if_pos (Nat.le_of_lt hi), if_pos (show i + 1 ≤ l.length from hi), List.drop_eq_getElem_cons hi, hc]
  simp [sp]
theorem spI_other {acc : List (List UInt8)} {f i : Nat} {l : List UInt8} (hf : f ≤ i) (hi : i < l.length) (hc : l[i] ≠ 47) :
    spI acc f i l = spI acc f (i + 1) l := by
  unfold spI
  rw [if_pos (Nat.le_of_lt hi), if_pos (show i + 1 ≤ l.length from hi)]
  conv => lhs; rw [List.drop_eq_getElem_cons hi]
  simp only [sp, if_neg hc]
  congr 1
  have e : i + 1 - f = (i - f) + 1 := by omega
  rw [e, List.take_add_one]
  congr 1
  rw [List.getElem?_drop, show f + (i - f) = i from by omega, List.getElem?_eq_getElem hi]
  rfl
theorem spI_end {acc : List (List UInt8)} {f : Nat} {l : List UInt8} :
    spI acc f l.length l = if nmL (cut l f l.length) then spI (acc ++ [cut l f l.length]) (l.length + 1) (l.length + 1) l else none := by
  have e : spI (acc ++ [cut l f l.length]) (l.length + 1) (l.length + 1) l = some (acc ++ [cut l f l.length]) := by
    unfold spI; rw [if_neg (by omega)]
  rw [e]
  unfold spI cut
  rw [if_pos (Nat.le_refl _)]
  simp [sp]
theorem spI_out {acc : List (List UInt8)} {f i : Nat} {l : List UInt8} (h : l.length < i) : spI acc f i l = some acc := by
  unfold spI; rw [if_neg (by omega)]

end Go.Proofs.YtdpighcaieajjabGreat

/- The leaves: which bytes may stand in a name; what a name is, by the program and by the page. -/
namespace Go.Proofs.YtdpighcaieajjabGreat
open Go.RowKit

theorem nwT {a b c : World} (h : Below a.heap.size a b) (k : Below b.heap.size b c) : Below a.heap.size a c := h.trans (k.mono h.size)
theorem nwA {a w : World} (h : Below a.heap.size a w) (o : Obj) : Below a.heap.size a (w.alloc o) := h.alloc h.size o
theorem nwR (a : World) : Below a.heap.size a a := Below.refl _ _

def Stop (p : Prop) : Prop := p
theorem unstop {p : Prop} (h : Stop p) : p := h

theorem idx3 (c : UInt8) : (0 ≤ Lib.indexByte [46, 95, 45] c) ↔ ((c.toNat : Int) = 46 ∨ (c.toNat : Int) = 95 ∨ (c.toNat : Int) = 45) := by
  have e : ∀ k : UInt8, (k == c) = decide ((c.toNat : Int) = (k.toNat : Int)) := by
    intro k; rw [Bool.eq_iff_iff]; simp [← UInt8.toNat_inj]; omega
  simp only [Lib.indexByte, e]
  have k1 : ((46 : UInt8).toNat : Int) = 46 := rfl
  have k2 : ((95 : UInt8).toNat : Int) = 95 := rfl
  have k3 : ((45 : UInt8).toNat : Int) = 45 := rfl
  rw [k1, k2, k3]
  by_cases h1 : (c.toNat : Int) = 46
  · simp [h1]
  · by_cases h2 : (c.toNat : Int) = 95
    · simp [h2]
    · by_cases h3 : (c.toNat : Int) = 45
      · simp [h3]
      · simp [h1, h2, h3]

theorem ret_bool {a b : Bool} (h : a = b) : Ending.returned (.bool a) = .returned (.bool b) := by rw [h]
theorem ret_int {k : IntKind} {a b : Int} (h : a = b) : Ending.returned (.int k a) = .returned (.int k b) := by rw [h]

set_option maxRecDepth 100000 in
set_option maxHeartbeats 400000 in
theorem mayStand_any (c : UInt8) (w : World) :
    Calls Tryz.prog 146 #[.int .u8 c.toNat] w fun e w' => e = .returned (.bool (byI c.toNat)) ∧ w' = w := by
  have H3 : Hid ((0 ≤ Lib.indexByte [46, 95, 45] c) ↔ ((c.toNat : Int) = 46 ∨ (c.toNat : Int) = 95 ∨ (c.toNat : Int) = 45)) := idx3 c
  go_enter Tryz.func146, Tryz.ntmps146
  go_wp2_with (go_at_call 126; refine (Tryz.strings_IndexByte _ _ _).mono ?_; rintro e w' ⟨rfl, rfl⟩)
  all_goals go_ret
  all_goals have h3 := H3.out
  all_goals
    refine ⟨ret_bool ?_, rfl⟩
    rw [Bool.eq_iff_iff]
    simp [byI, h3]
    try omega

def errI (b : Bool) : Int := if b then 0 else 1
theorem errI_t : errI true = 0 := rfl
theorem errI_f : errI false = 1 := rfl

def okTo (s : ByteArray) (k : Nat) : Bool := ((ls s).take k).all fun c => byI c.toNat
theorem okTo_succ (s : ByteArray) (k : Nat) (h : k < s.size) : okTo s (k + 1) = (okTo s k && byI s[k].toNat) := by
  unfold okTo
  have hl : k < (ls s).length := by rw [ls_size]; exact h
  rw [List.take_succ_eq_append_getElem hl, List.all_append]
  simp [ls]; rfl
theorem okTo_le (s : ByteArray) {k n : Nat} (hk : k ≤ n) (h : okTo s k = false) : okTo s n = false := by
  unfold okTo at *
  rw [List.all_eq_false] at *
  obtain ⟨x, hx, hb⟩ := h
  exact ⟨x, (List.take_subset_take_left (ls s) hk) hx, hb⟩
theorem nm_eq (s : ByteArray) : nm s = (decide (1 ≤ s.size) && decide (s.size ≤ 8) && !decide (s.toList = [46]) && !decide (s.toList = [46, 46]) && okTo s s.size) := by
  unfold nm nmL okTo
  rw [ls_size, List.take_of_length_le (by rw [ls_size]; exact Nat.le_refl _), Lib.toList_data]; rfl

theorem nm_no {s : ByteArray} (h : s.size < 1 ∨ 8 < s.size ∨ s.toList = [46] ∨ s.toList = [46, 46]) : nm s = false := by
  rw [nm_eq]
  rcases h with h | h | h | h
  · rw [decide_eq_false (by omega : ¬ 1 ≤ s.size)]; rfl
  · rw [decide_eq_false (by omega : ¬ s.size ≤ 8)]; simp
  · rw [h]; simp
  · rw [h]; simp
theorem nm_yes {s : ByteArray} (h1 : ¬ s.size < 1) (h2 : ¬ 8 < s.size) (h3 : ¬ s.toList = [46]) (h4 : ¬ s.toList = [46, 46]) : nm s = okTo s s.size := by
  rw [nm_eq, decide_eq_true (by omega : 1 ≤ s.size), decide_eq_true (by omega : s.size ≤ 8), decide_eq_false h3, decide_eq_false h4]; simp

set_option maxRecDepth 100000 in
set_option maxHeartbeats 400000 in
theorem check_any (s : ByteArray) (w : World) :
    Calls Tryz.prog 127 #[.string s] w fun e w' => e = .returned (.int .i64 (errI (nm s))) ∧ w' = w := by
  by_cases hh : s.size < 1 ∨ 8 < s.size ∨ s.toList = [46] ∨ s.toList = [46, 46]
  · have HN : Hid (nm s = false) := nm_no hh
    rcases hh with h | h | h | h
    · have h1 : (s.size : Int) < 1 := by omega
      go_enter Tryz.func127, Tryz.ntmps127
      go_wp2_with fail
      go_ret
      exact ⟨ret_int (by rw [HN.out]; rfl), rfl⟩
    · have h1 : (8 : Int) < s.size := by omega
      have h2 : ¬ (s.size : Int) < 1 := by omega
      go_enter Tryz.func127, Tryz.ntmps127
      go_wp2_with fail
      go_ret
      exact ⟨ret_int (by rw [HN.out]; rfl), rfl⟩
    · have h1 : s.size = 1 := by rw [← ls_size, ls, ← Lib.toList_data, h]; rfl
      have h2 : (s.size : Int) = 1 := by omega
      go_enter Tryz.func127, Tryz.ntmps127
      go_wp2_with fail
      all_goals go_ret
      all_goals exact ⟨ret_int (by rw [HN.out]; rfl), rfl⟩
    · have h1 : s.size = 2 := by rw [← ls_size, ls, ← Lib.toList_data, h]; rfl
      have h2 : (s.size : Int) = 2 := by omega
      have h3 : ¬ s.toList = [46] := by rw [h]; decide
      go_enter Tryz.func127, Tryz.ntmps127
      go_wp2_with fail
      all_goals go_ret
      all_goals exact ⟨ret_int (by rw [HN.out]; rfl), rfl⟩
  · have h1 : ¬ s.size < 1 := fun h => hh (.inl h)
    have h2 : ¬ 8 < s.size := fun h => hh (.inr (.inl h))
    have h3 : ¬ s.toList = [46] := fun h => hh (.inr (.inr (.inl h)))
    have h4 : ¬ s.toList = [46, 46] := fun h => hh (.inr (.inr (.inr h)))
    have HN : Hid (nm s = okTo s s.size) := nm_yes h1 h2 h3 h4
    have g1 : ¬ (s.size : Int) < 1 := by omega
    have g2 : ¬ (8 : Int) < s.size := by omega
    have g3 : (s.toList == [46]) = false := by simpa using h3
    have g4 : (s.toList == [46, 46]) = false := by simpa using h4
    clear hh h3 h4
    go_enter Tryz.func127, Tryz.ntmps127
    go_wp2_with fail
    go_loop [22] (fun i => ∃ k : Nat, k ≤ s.size ∧ i = .int .i64 k ∧ okTo s k = true) (fun i => s.size - (intOf i).toNat)
    case atStart => exact ⟨0, Nat.zero_le _, rfl, by simp [okTo]⟩
    case round =>
      obtain ⟨k, hk, rfl, hok⟩ := hrel
      have HO : Hid (okTo s k = true) := hok
      clear hok
      by_cases hlt : k < s.size
      · have HS : Hid (okTo s (k + 1) = (okTo s k && byI s[k].toNat)) := okTo_succ s k hlt
        cases hb : byI s[k].toNat
        all_goals
          go_wp2_with (go_at_call 146; refine (mayStand_any _ _).mono ?_; rintro e w' ⟨rfl, rfl⟩)
        · go_ret
          refine ⟨ret_int ?_, rfl⟩
          rw [HN.out, okTo_le s (k := k + 1) hlt (by rw [HS.out, hb]; simp)]; rfl
        · go_round
          case rel => exact ⟨k + 1, hlt, by go_num, by rw [HS.out, HO.out, hb]; rfl⟩
          case measure => simp [intOf]; omega
      · have hke : k = s.size := by omega
        go_wp2_with fail
        go_ret
        refine ⟨ret_int ?_, rfl⟩
        rw [HN.out, ← hke, HO.out]; rfl

end Go.Proofs.YtdpighcaieajjabGreat

/- strings.Builder as package name uses it: made by the call itself, written byte by byte and text by text. -/
namespace Go.Proofs.YtdpighcaieajjabGreat
open Go.RowKit

abbrev Bd (B b : Nat) (l : List Value) (w : World) : Prop := Lib.IsBuilder 152 5 B b l w
theorem Tryz.info5 : (Tryz.prog.info? 5).map (fun i => (i.zero, i.size, i.bytes)) = some (some (.int .u8 0), 1, 1) := by kernel_rfl
theorem Tryz.info152s : (Tryz.prog.info? 152).map (·.size) = some 2 := by kernel_rfl
theorem Tryz.lies152 : liesAt Tryz.prog Tryz.prog.depth 152 (2 / Tryz.prog.cellsOf 152) 0 152 1 = true := by kernel_rfl

set_option maxRecDepth 100000 in
set_option maxHeartbeats 1000000 in
theorem copy_used (b : Nat) (w : World) (h0 : w.cell? ⟨b, 0, none⟩ = some (.pointer (some ⟨b, 0, none⟩))) :
    Calls Tryz.prog 148 #[.pointer (some ⟨b, 0, none⟩)] w fun e w' => e = .returned (.tuple #[]) ∧ w' = w := by
  obtain ⟨j, hj, _⟩ := Option.map_eq_some_iff.1 Tryz.info152s
  go_enter Tryz.func148, Tryz.ntmps148
  go_wp2
  rw [Lib.run_neq_ptr_same w _ Tryz.underlying149 hj]
  go_wp2
  go_end0
  exact ⟨rfl, rfl⟩

set_option maxRecDepth 100000 in
set_option maxHeartbeats 1000000 in
theorem copy_fresh (b : Nat) (w : World) (h0 : w.cell? ⟨b, 0, none⟩ = some (.pointer none)) (hsh : w.shape? b = some (152, 2)) (hfz : w.frozen? ⟨b, 0, none⟩ = false) :
    Calls Tryz.prog 148 #[.pointer (some ⟨b, 0, none⟩)] w fun e w' => e = .returned (.tuple #[]) ∧ w' = w.setCell ⟨b, 0, none⟩ (.pointer (some ⟨b, 0, none⟩)) := by
  obtain ⟨j, hj, hjs⟩ := Option.map_eq_some_iff.1 Tryz.info152s
  go_enter Tryz.func148, Tryz.ntmps148
  go_wp2
  rw [Lib.run_to_unsafe w ⟨b, 0, none⟩ Tryz.underlying149 Tryz.underlying179 hj (by rw [hjs]; decide) hsh (Nat.zero_lt_succ 1)]
  simp only [Result.andThen]
  rw [Oper.upon_value]
  go_wp2
  rw [run_callFunc_extern Tryz.func156 (by kernel_rfl) (by kernel_rfl) (by kernel_rfl) (e := Extern.AbiNoEscape.same) (by kernel_rfl), Lib.run_noEscape]
  simp only [Result.andThen]
  rw [Oper.upon_value]
  go_wp2
  rw [Lib.run_from_unsafe w ⟨b, 0, none⟩ Tryz.underlying179 Tryz.underlying149 hj hsh Tryz.lies152]
  simp only [Result.andThen]
  rw [Oper.upon_value]
  go_wp2
  go_end0
  exact ⟨rfl, rfl⟩

theorem copy_any (B b : Nat) (l : List Value) (w : World) (h : Bd B b l w) :
    Calls Tryz.prog 148 #[.pointer (some ⟨b, 0, none⟩)] w fun e w' => e = .returned (.tuple #[]) ∧ Lib.BuilderAt 152 5 B b (.pointer (some ⟨b, 0, none⟩)) l w' ∧ Below B w w' := by
  rcases h with h | h
  · refine (copy_fresh b w h.cell0 h.shape h.frozen0).mono ?_
    rintro e w' ⟨rfl, rfl⟩
    exact ⟨rfl, h.used _, (Below.refl B w).setCell (p := ⟨b, 0, none⟩) h.1 _⟩
  · refine (copy_used b w h.cell0).mono ?_
    rintro e w' ⟨rfl, rfl⟩
    exact ⟨rfl, h, Below.refl B _⟩

theorem cell_one' (w : World) (x : Value) (t : TypeId) : ∀ j u, [x][j]? = some u → (w.alloc (.cells #[x] t)).cell? ((⟨w.heap.size, 0, none⟩ : Addr).add j) = some u := by
  intro j u hu
  match j, hu with
  | 0, hu => simp at hu; subst hu; simp [Addr.add]

/-- behind an append the builder's own block is what it was -/
theorem bd_after {B b : Nat} {v : Value} {l : List Value} {w1 w2 wa : World} (hbk : w1.heap[b]? = some (.cells #[.pointer (some ⟨b, 0, none⟩), v] 152 (0, 0))) (hown : w1.ownsRow B 5 1 v l.length l) (hne : v.ownBlock ≠ some b)
    (hwa : wa = w1 ∨ ∃ o, wa = w1.alloc o) (hgrow : wa.grownBy w2 v.ownBlock) :
    w2.heap[b]? = some (.cells #[.pointer (some ⟨b, 0, none⟩), v] 152 (0, 0)) := by
  have hlt : b < w1.heap.size := by
    rcases Nat.lt_or_ge b w1.heap.size with h' | h'
    · exact h'
    · simp [Array.getElem?_eq_none h'] at hbk
  rcases hwa with rfl | ⟨o, rfl⟩
  · rw [hgrow.block b hlt (fun e => hne e.symm)]; exact hbk
  · rw [hgrow.block b (by simp; omega) (fun e => hne e.symm), Lib.alloc_old w1 _ b hlt]; exact hbk

set_option maxRecDepth 100000 in
set_option maxHeartbeats 2000000 in
theorem wbyte_any (B b : Nat) (l : List Value) (c : Int) (w : World) (h : Bd B b l w) (hlen : l.length + 1 ≤ 140737488355328) (hBw : B ≤ w.heap.size) :
    Calls Tryz.prog 130 #[.pointer (some ⟨b, 0, none⟩), .int .u8 c] w fun e w' => e = .returned .nilIface ∧ Bd B b (l ++ [.int .u8 c]) w' ∧ Below B w w' := by
  obtain ⟨i0, hi, hz0, hz1, hz2⟩ := info_parts Tryz.info5
  go_enter Tryz.func130, Tryz.ntmps130
  go_wp2_with (go_at_call 148; refine (copy_any B b l _ h).mono ?_)
  rintro e w1 ⟨rfl, ⟨hB, v, hbk, hown, hne⟩, hb1⟩
  have c1 : w1.cell? ⟨b, 1, none⟩ = some v := by rw [Lib.cell_of_heap hbk]; rfl
  have HB : Hid (w1.heap[b]? = some (.cells #[.pointer (some ⟨b, 0, none⟩), v] 152 (0, 0))) := hbk
  have hc3 : l.length + 1 ≤ maxLen := by unfold maxLen; omega
  have hc4 : (l.length + 1) * 1 ≤ 140737488355328 := by omega
  have hc5 : B ≤ (w1.alloc (.cells #[.int .u8 c] 5)).heap.size := by have := hb1.size; simp; omega
  have HO : Hid (w1.ownsRow B 5 1 v l.length l) := hown
  clear hbk hown
  go_wp2_with (at_builtin; refine wpList_append_own _ rfl (.tmp 11) (.tmp 13) 150 rfl B 5 i0 (.int .u8 0) 1 1 Tryz.underlying150 hi hz0 hz1 hz2 rfl (by decide) v l.length l rfl (HO.out.alloc _) ⟨w1.heap.size, 0, none⟩ 1 1 [.int .u8 c] rfl rfl (cell_one' _ _ _) (by simp [Value.oneCell']) hc3 hc4 hc5 ?_; intro v' w2 hown' hgrow _; refine unstop ?_)
  unfold Stop
  have hb2 := bd_after HB.out HO.out hne (.inr ⟨_, rfl⟩) hgrow
  have d1 : w2.cell? ⟨b, 1, none⟩ = some v := by rw [Lib.cell_of_heap hb2]; rfl
  have f1 : w2.frozen? ⟨b, 1, none⟩ = false := Lib.frozen_of_heap hb2 1
  obtain ⟨g, cap, rfl⟩ : ∃ g cap, v' = .slice (some ⟨g, 0, none⟩) (l.length + 1) cap := by
    rcases hown'.2 with ⟨_, h0⟩ | ⟨g, cap, cur, hv, _⟩
    · omega
    · exact ⟨g, cap, hv⟩
  have HB2 : Hid (w2.heap[b]? = some (.cells #[.pointer (some ⟨b, 0, none⟩), v] 152 (0, 0))) := hb2
  have HO2 : Hid (w2.ownsRow B 5 1 (.slice (some ⟨g, 0, none⟩) (l.length + 1) cap) (l.length + 1) (l ++ [.int .u8 c])) := hown'
  have HBE : Hid (Below B w w2) := (hb1.alloc (by have := hb1.size; omega) _).grown hgrow (by have := hb1.size; simp; omega) (fun k hk => (HO.out.lt k hk).1)
  clear hb2 hown' hgrow c1
  go_wp2
  go_ret
  exact ⟨rfl, .inr (Lib.BuilderAt.put hB HB2.out (bs' := l ++ [.int .u8 c]) (by simpa using HO2.out) (by decide)), HBE.out.setCell (p := ⟨b, 1, none⟩) hB _⟩

set_option maxRecDepth 100000 in
set_option maxHeartbeats 2000000 in
theorem wstr_any (B b : Nat) (l : List Value) (s : ByteArray) (w : World) (h : Bd B b l w) (hlen : l.length + s.size ≤ 140737488355328) (hBw : B ≤ w.heap.size) :
    Calls Tryz.prog 131 #[.pointer (some ⟨b, 0, none⟩), .string s] w fun e w' => e = .returned (.tuple #[.int .i64 s.size, .nilIface]) ∧ Bd B b (l ++ Lib.strCells s) w' ∧ Below B w w' := by
  obtain ⟨i0, hi, hz0, hz1, hz2⟩ := info_parts Tryz.info5
  go_enter Tryz.func131, Tryz.ntmps131
  go_wp2_with (go_at_call 148; refine (copy_any B b l _ h).mono ?_)
  rintro e w1 ⟨rfl, ⟨hB, v, hbk, hown, hne⟩, hb1⟩
  have c1 : w1.cell? ⟨b, 1, none⟩ = some v := by rw [Lib.cell_of_heap hbk]; rfl
  have HB : Hid (w1.heap[b]? = some (.cells #[.pointer (some ⟨b, 0, none⟩), v] 152 (0, 0))) := hbk
  have hc3 : l.length + s.size ≤ maxLen := by unfold maxLen; omega
  have hc5 : B ≤ w1.heap.size := by have := hb1.size; omega
  have HO : Hid (w1.ownsRow B 5 1 v l.length l) := hown
  clear hbk hown
  go_wp2_with (at_builtin; refine Lib.wpList_append_own_string _ rfl (.tmp 12) (.tmp 13) 150 9 rfl B 5 i0 Tryz.underlying150 Tryz.underlying9 hi hz0 hz1 hz2 v l.length l rfl HO.out s rfl hc3 hlen hc5 ?_; intro v' w2 hown' hgrow _; refine unstop ?_)
  unfold Stop
  have hb2 := bd_after HB.out HO.out hne (.inl rfl) hgrow
  have d1 : w2.cell? ⟨b, 1, none⟩ = some v := by rw [Lib.cell_of_heap hb2]; rfl
  have f1 : w2.frozen? ⟨b, 1, none⟩ = false := Lib.frozen_of_heap hb2 1
  obtain ⟨ao, n', cap, rfl⟩ : ∃ ao n' cap, v' = .slice ao n' cap := by
    rcases hown'.2 with ⟨hv, _⟩ | ⟨g, cap, cur, hv, _⟩
    · exact ⟨_, _, _, hv⟩
    · exact ⟨_, _, _, hv⟩
  have HB2 : Hid (w2.heap[b]? = some (.cells #[.pointer (some ⟨b, 0, none⟩), v] 152 (0, 0))) := hb2
  have HO2 : Hid (w2.ownsRow B 5 1 (.slice ao n' cap) (l.length + s.size) (l ++ Lib.strCells s)) := hown'
  have HBE : Hid (Below B w w2) := hb1.grown hgrow hc5 (fun k hk => (HO.out.lt k hk).1)
  clear hb2 hown' hgrow c1
  go_wp2
  go_ret2
  exact ⟨rfl, .inr (Lib.BuilderAt.put hB HB2.out (bs' := l ++ Lib.strCells s) (by simpa [Lib.strCells_length] using HO2.out) (by decide)), HBE.out.setCell (p := ⟨b, 1, none⟩) hB _⟩

end Go.Proofs.YtdpighcaieajjabGreat

/- Rows of texts in memory. -/
namespace Go.Proofs.YtdpighcaieajjabGreat
open Go.RowKit

def StrsAt (w : World) (a : Option Addr) (xs : List ByteArray) : Prop :=
  xs = [] ∨ ∃ b o, a = some ⟨b, o, none⟩ ∧ ∀ i, i < xs.length → w.cell? ⟨b, o + i, none⟩ = some (.string (xs.getD i ByteArray.empty))
def OwnStrs (w : World) (base : Nat) (v : Value) (xs : List ByteArray) : Prop := w.ownsRow base 9 1 v xs.length (xs.map .string)

theorem StrsAt.cell {w : World} {a : Option Addr} {xs : List ByteArray} (h : StrsAt w a xs) {i : Nat} (hi : i < xs.length) : ∃ b o, a = some ⟨b, o, none⟩ ∧ w.cell? ⟨b, o + i, none⟩ = some (.string (xs.getD i ByteArray.empty)) := by
  rcases h with rfl | ⟨b, o, rfl, hc⟩
  · simp at hi
  · exact ⟨b, o, rfl, hc i hi⟩
theorem StrsAt.below {w w' : World} {a : Option Addr} {xs : List ByteArray} (h : StrsAt w a xs) (hb : Below w.heap.size w w') : StrsAt w' a xs := by
  rcases h with rfl | ⟨b, o, rfl, hc⟩
  · exact .inl rfl
  · exact .inr ⟨b, o, rfl, fun i hi => (hb.cell (p := ⟨b, o + i, none⟩) (block_lt_of_cell (hc i hi))).trans (hc i hi)⟩
theorem StrsAt.drewN {w : World} {a : Option Addr} {xs : List ByteArray} (h : StrsAt w a xs) (n : Nat) : StrsAt (w.drewN n) a xs := by
  rcases h with rfl | ⟨b, o, rfl, hc⟩
  · exact .inl rfl
  · exact .inr ⟨b, o, rfl, fun i hi => hc i hi⟩
theorem getD_take {xs : List ByteArray} {k i : Nat} (h : i < k) : (xs.take k).getD i ByteArray.empty = xs.getD i ByteArray.empty := by
  simp [List.getD, h]
theorem StrsAt.take {w : World} {a : Option Addr} {xs : List ByteArray} (h : StrsAt w a xs) (k : Nat) : StrsAt w a (xs.take k) := by
  rcases h with rfl | ⟨b, o, rfl, hc⟩
  · exact .inl (by simp)
  · refine .inr ⟨b, o, rfl, fun i hi => ?_⟩
    rw [List.length_take] at hi
    rw [getD_take (by omega)]
    exact hc i (by omega)
theorem StrsAt.drop {w : World} {b o : Nat} {xs : List ByteArray} (h : StrsAt w (some ⟨b, o, none⟩) xs) (k : Nat) : StrsAt w (some ⟨b, o + k, none⟩) (xs.drop k) := by
  rcases h with rfl | ⟨b', o', e, hc⟩
  · exact .inl (by simp)
  · injection e with e; injection e with e1 e2; subst e1; subst e2
    refine .inr ⟨b, o + k, rfl, fun i hi => ?_⟩
    rw [List.length_drop] at hi
    have := hc (k + i) (by omega)
    rw [show o + k + i = o + (k + i) from by omega, this]
    simp [List.getD]
theorem StrsAt.of_alloc {w : World} {xs : List ByteArray} {cs : Array Value} {t : TypeId} (h : cs = (xs.map .string).toArray) : StrsAt (w.alloc (.cells cs t)) (some ⟨w.heap.size, 0, none⟩) xs := by
  subst h
  refine .inr ⟨_, _, rfl, fun i hi => ?_⟩
  simp [hi]

theorem OwnStrs.at {w : World} {base : Nat} {v : Value} {xs : List ByteArray} (h : OwnStrs w base v xs) : ∃ a cap, v = .slice a xs.length cap ∧ StrsAt w a xs := by
  have hh := h
  rcases h.2 with ⟨hv, hn⟩ | ⟨g, cap, cur, hv, hb, _, _⟩
  · exact ⟨none, 0, by rw [hv, hn], .inl (List.length_eq_zero_iff.1 hn)⟩
  · refine ⟨_, cap, hv, .inr ⟨g, 0, rfl, fun i hi => ?_⟩⟩
    have := hh.cells (g := g) (by rw [hv]; rfl) i (.string (xs.getD i ByteArray.empty)) (by simp [hi])
    rw [show (⟨g, 0, none⟩ : Addr).add i = ⟨g, 0 + i, none⟩ from by unfold Addr.add; split <;> simp_all] at this
    exact this

theorem gbOf {w w' : World} (h : Below w.heap.size w w') (r : Option Nat) : w.grownBy w' r := ⟨h.os, h.tape, h.output, h.size, fun k hk _ => h.block k hk⟩
theorem OwnStrs.below {w w' : World} {base : Nat} {v : Value} {xs : List ByteArray} (h : OwnStrs w base v xs) (hb : Below w.heap.size w w') : OwnStrs w' base v xs :=
  World.ownsRow.kept h (gbOf hb none) (by cases hv : v.ownBlock <;> simp)
theorem OwnStrs.le {w : World} {base base' : Nat} {v : Value} {xs : List ByteArray} (h : OwnStrs w base v xs) (hb : base' ≤ base) : OwnStrs w base' v xs := by
  refine ⟨h.1, ?_⟩
  rcases h.2 with hn | ⟨g, cap, cur, hv, hg, rest⟩
  · exact .inl hn
  · exact .inr ⟨g, cap, cur, hv, Nat.le_trans hb hg, rest⟩
theorem OwnStrs.snoc {w : World} {base : Nat} {v : Value} {xs : List ByteArray} {x : ByteArray} (h : w.ownsRow base 9 1 v (xs.length + 1) (xs.map .string ++ [.string x])) : OwnStrs w base v (xs ++ [x]) := by
  unfold OwnStrs
  have e : (xs ++ [x]).length = xs.length + 1 := by simp
  rw [e, List.map_append]
  exact h
theorem Tryz.info9 : (Tryz.prog.info? 9).map (fun i => (i.zero, i.size, i.bytes)) = some (some (.string ⟨#[]⟩), 1, 16) := by kernel_rfl

end Go.Proofs.YtdpighcaieajjabGreat

/- Rows of texts held against each other: by the page, by the library. -/
namespace Go.Proofs.YtdpighcaieajjabGreat
open Go.RowKit

theorem ext_getD {xs ys : List ByteArray} (hl : xs.length = ys.length) (h : ∀ i, i < xs.length → xs.getD i ByteArray.empty = ys.getD i ByteArray.empty) : xs = ys := by
  apply List.ext_getElem hl
  intro i h1 h2
  have := h i h1
  simpa [List.getD, h1, h2] using this
theorem drewN_drewN (w : World) (a b : Nat) : ∃ q, (w.drewN a).drewN b = w.drewN q := ⟨_, World.drewN_drewN w a b⟩

set_option maxRecDepth 100000 in
set_option maxHeartbeats 1000000 in
theorem eqs_any (a b : Option Addr) (xs ys : List ByteArray) (ca cb : Nat) (w : World) (hx : StrsAt w a xs) (hy : StrsAt w b ys) (hl : xs.length ≤ maxLen) :
    Calls Tryz.prog 60 #[.slice a xs.length ca, .slice b ys.length cb] w fun e w' => e = .returned (.bool (decide (xs = ys))) ∧ ∃ q, w' = w.drewN q := by
  unfold maxLen at hl
  have HX : Hid (StrsAt w a xs) := hx
  have HY : Hid (StrsAt w b ys) := hy
  clear hx hy
  by_cases hlen : xs.length = ys.length
  · have hlen' : ((xs.length : Int) != (ys.length : Int)) = false := by simp [hlen]
    have HL : Hid (xs.length = ys.length) := hlen
    clear hlen
    go_enter Tryz.func60, Tryz.ntmps60
    go_wp2_with fail
    go_loopw [5] (fun i wr => ∃ (k q : Nat), k ≤ xs.length ∧ i = .int .i64 k ∧ wr = w.drewN q ∧ Hid (∀ j, j < k → xs.getD j ByteArray.empty = ys.getD j ByteArray.empty))
      (fun i _ => xs.length - (intOf i).toNat)
    case atStart => exact ⟨0, 0, by omega, rfl, rfl, fun j hj => by omega⟩
    case round =>
      obtain ⟨k, q, hk, rfl, rfl, HE⟩ := hrel
      by_cases hlt : k < xs.length
      · have hlty : k < ys.length := by have := HL.out; omega
        obtain ⟨b1, o1, rfl, x1⟩ := HX.out.cell hlt
        obtain ⟨b2, o2, rfl, y1⟩ := HY.out.cell hlty
        by_cases he : xs.getD k ByteArray.empty = ys.getD k ByteArray.empty
        · have HEE : Hid (xs.getD k ByteArray.empty = ys.getD k ByteArray.empty) := he
          rw [← he] at y1
          generalize xs.getD k ByteArray.empty = s at x1 y1
          clear he
          go_wp2_with fail
          go_quiet (fail)
          go_wp2_with fail
          go_roundw
          case rel => exact ⟨k + 1, _, by omega, by go_num, rfl, fun j hj => by
            by_cases e : j = k
            · subst e; exact HEE.out
            · exact HE.out j (by omega)⟩
          case measure => simp [intOf]; omega
        · have HF : Hid (decide (xs = ys) = false) := decide_eq_false (fun e => he (by rw [e]))
          generalize xs.getD k ByteArray.empty = s at x1 he
          generalize ys.getD k ByteArray.empty = t at y1 he
          have he2 : (s.toList == t.toList) = false := by
            rw [beq_eq_false_iff_ne, Lib.toList_data, Lib.toList_data]; intro e; exact he (ls_inj e)
          clear he
          go_wp2_with fail
          go_quiet (fail)
          go_wp2_with fail
          go_ret
          exact ⟨by rw [HF.out]; rfl, drewN_drewN _ _ _⟩
      · have HF : Hid (decide (xs = ys) = true) := decide_eq_true (ext_getD HL.out (fun i hi => HE.out i (by omega)))
        go_wp2_with fail
        go_ret
        exact ⟨by rw [HF.out]; rfl, _, rfl⟩
  · have hlen' : ((xs.length : Int) != (ys.length : Int)) = true := by rw [bne_iff_ne]; omega
    have HF : Hid (decide (xs = ys) = false) := decide_eq_false (fun e => hlen (by rw [e]))
    clear hlen
    go_enter Tryz.func60, Tryz.ntmps60
    go_wp2_with fail
    go_ret
    exact ⟨by rw [HF.out]; rfl, 0, rfl⟩

theorem un_no_len {xs ys : List ByteArray} (h : ys.length < xs.length) : un xs ys = false := by
  unfold un; rw [decide_eq_false]
  intro e
  have := congrArg List.length e
  rw [List.length_take] at this; omega
theorem un_no_at {xs ys : List ByteArray} {k : Nat} (h1 : k < xs.length) (he : ¬ xs.getD k ByteArray.empty = ys.getD k ByteArray.empty) : un xs ys = false := by
  unfold un; rw [decide_eq_false]
  intro e
  apply he
  have h2 := getD_take (xs := ys) (k := xs.length) h1
  rw [e] at h2; exact h2
theorem un_yes {xs ys : List ByteArray} (h : ∀ j, j < xs.length → j < ys.length ∧ xs.getD j ByteArray.empty = ys.getD j ByteArray.empty) : un xs ys = true := by
  unfold un; rw [decide_eq_true]
  have hl : xs.length ≤ ys.length := by
    rcases Nat.eq_zero_or_pos xs.length with h0 | h0
    · omega
    · have := (h (xs.length - 1) (by omega)).1; omega
  refine ext_getD (by rw [List.length_take]; omega) (fun i hi => ?_)
  rw [List.length_take] at hi
  rw [getD_take (by omega), (h i (by omega)).2]

set_option maxRecDepth 100000 in
set_option maxHeartbeats 1000000 in
theorem runder_any (a b : Option Addr) (xs ys : List ByteArray) (ca cb : Nat) (w : World) (hx : StrsAt w a xs) (hy : StrsAt w b ys) (hl : xs.length ≤ maxLen) :
    Calls Tryz.prog 61 #[.slice a xs.length ca, .slice b ys.length cb] w fun e w' => e = .returned (.bool (un xs ys)) ∧ ∃ q, w' = w.drewN q := by
  unfold maxLen at hl
  have HX : Hid (StrsAt w a xs) := hx
  have HY : Hid (StrsAt w b ys) := hy
  clear hx hy
  go_enter Tryz.func61, Tryz.ntmps61
  go_wp2_with fail
  go_loopw [5] (fun i wr => ∃ (k q : Nat), k ≤ xs.length ∧ i = .int .i64 k ∧ wr = w.drewN q ∧ Hid (∀ j, j < k → j < ys.length ∧ xs.getD j ByteArray.empty = ys.getD j ByteArray.empty))
    (fun i _ => xs.length - (intOf i).toNat)
  case atStart => exact ⟨0, 0, by omega, rfl, rfl, fun j hj => by omega⟩
  case round =>
    obtain ⟨k, q, hk, rfl, rfl, HE⟩ := hrel
    by_cases hlt : k < xs.length
    · by_cases hlty : k < ys.length
      · have hd : decide ((ys.length : Int) ≤ (k : Int)) = false := decide_eq_false (by omega)
        obtain ⟨b1, o1, rfl, x1⟩ := HX.out.cell hlt
        obtain ⟨b2, o2, rfl, y1⟩ := HY.out.cell hlty
        by_cases he : xs.getD k ByteArray.empty = ys.getD k ByteArray.empty
        · have HEE : Hid (xs.getD k ByteArray.empty = ys.getD k ByteArray.empty) := he
          rw [← he] at y1
          generalize xs.getD k ByteArray.empty = s at x1 y1
          clear he
          go_wp2_with fail
          go_quiet (fail)
          go_wp2_with fail
          go_roundw
          case rel => exact ⟨k + 1, _, by omega, by go_num, rfl, fun j hj => by
            by_cases e : j = k
            · subst e; exact ⟨hlty, HEE.out⟩
            · exact HE.out j (by omega)⟩
          case measure => simp [intOf]; omega
        · have HF : Hid (un xs ys = false) := un_no_at hlt he
          generalize xs.getD k ByteArray.empty = s at x1 he
          generalize ys.getD k ByteArray.empty = t at y1 he
          have he2 : (s.toList == t.toList) = false := by
            rw [beq_eq_false_iff_ne, Lib.toList_data, Lib.toList_data]; intro e; exact he (ls_inj e)
          clear he
          go_wp2_with fail
          go_quiet (fail)
          go_wp2_with fail
          go_ret
          exact ⟨by rw [HF.out]; rfl, drewN_drewN _ _ _⟩
      · have hd : decide ((ys.length : Int) ≤ (k : Int)) = true := decide_eq_true (by omega)
        have HF : Hid (un xs ys = false) := un_no_len (by omega)
        go_wp2_with fail
        go_quiet (fail)
        go_wp2_with fail
        go_ret
        exact ⟨by rw [HF.out]; rfl, _, rfl⟩
    · have HF : Hid (un xs ys = true) := un_yes (fun i hi => HE.out i (by omega))
      go_wp2_with fail
      go_ret
      exact ⟨by rw [HF.out]; rfl, _, rfl⟩

end Go.Proofs.YtdpighcaieajjabGreat

/- The text of names: by the program (a builder) and by the page. -/
namespace Go.Proofs.YtdpighcaieajjabGreat
open Go.RowKit

def flN (xs : List ByteArray) : List UInt8 := fl (xs.map ls)
theorem flN_snoc (xs : List ByteArray) (x : ByteArray) : flN (xs ++ [x]) = flN xs ++ 47 :: ls x := by simp [flN, fl_snoc]
theorem flN_succ {xs : List ByteArray} {k : Nat} (h : k < xs.length) : flN (xs.take (k + 1)) = flN (xs.take k) ++ 47 :: ls (xs.getD k ByteArray.empty) := by
  rw [List.take_succ_eq_append_getElem h, flN_snoc]; simp [List.getD, h]
theorem flN_le {xs : List ByteArray} (k : Nat) : (flN (xs.take k)).length ≤ (flN xs).length := by
  have e : flN xs = flN (xs.take k) ++ flN (xs.drop k) := by
    unfold flN; rw [← fl_append, ← List.map_append, List.take_append_drop]
  rw [e, List.length_append]; omega
theorem tx_cons {xs : List ByteArray} (h : xs ≠ []) : tx xs = bs (flN xs) := by
  unfold tx txL flN
  rw [if_neg (by simpa using h)]
theorem bcells (l : List UInt8) (s : ByteArray) : Lib.byteCells l ++ [.int .u8 47] ++ Lib.strCells s = Lib.byteCells (l ++ 47 :: ls s) := by
  simp [Lib.byteCells, Lib.strCells, ls]
theorem bcells_len (l : List UInt8) : (Lib.byteCells l).length = l.length := by simp [Lib.byteCells]

set_option maxRecDepth 100000 in
set_option maxHeartbeats 1000000 in
theorem text_any (g : Nat) (a : Option Addr) (xs : List ByteArray) (cap : Nat) (w : World) (hg : w.cell? ⟨g, 0, none⟩ = some (.slice a xs.length cap)) (hx : StrsAt w a xs) (hl : xs.length ≤ 4000) (ht : (flN xs).length ≤ 4000) :
    Calls Tryz.prog 116 #[.pointer (some ⟨g, 0, none⟩)] w fun e w' => e = .returned (.string (tx xs)) ∧ Below w.heap.size w w' := by
  have HX : Hid (StrsAt w a xs) := hx
  clear hx
  by_cases h0 : xs.length = 0
  · have e0 : xs = [] := List.length_eq_zero_iff.1 h0
    subst e0
    simp only [List.length_nil] at hg
    go_enter Tryz.func116, Tryz.ntmps116
    go_wp2_with fail
    go_ret
    exact ⟨rfl, nwR w⟩
  · have HT : Hid (tx xs = bs (flN xs)) := tx_cons (by intro e; exact h0 (by simp [e]))
    have hh0 : ((xs.length : Int) == 0) = false := beq_eq_false_iff_ne.2 (by omega)
    have hgl : g < w.heap.size := block_lt_of_cell hg
    go_enter Tryz.func116, Tryz.ntmps116
    go_wp2_with fail
    obtain ⟨W0, hW0⟩ : ∃ W0, W0 = w.alloc (.cells #[.pointer none, .slice none 0 0] 152) := ⟨_, rfl⟩
    have hb0 : Below w.heap.size w W0 := by rw [hW0]; exact nwA (nwR w) _
    have HB0 : Hid (Bd w.heap.size w.heap.size [] W0) := by rw [hW0]; exact Lib.fresh_isBuilder 152 5 w
    rw [← hW0]
    clear hW0
    go_loopw [17] (fun i wr => ∃ (k : Nat), k ≤ xs.length ∧ i = .int .i64 k ∧ Bd w.heap.size w.heap.size (Lib.byteCells (flN (xs.take k))) wr ∧ Below w.heap.size w wr)
      (fun i _ => xs.length - (intOf i).toNat)
    case atStart => exact ⟨0, by omega, rfl, HB0.out, hb0⟩
    case round =>
      obtain ⟨k, hk, rfl, hbd, hb⟩ := hrel
      have HBD : Hid (Bd w.heap.size w.heap.size (Lib.byteCells (flN (xs.take k))) wr) := hbd
      clear hbd
      by_cases hlt : k < xs.length
      · have hlti : (k : Int) < (xs.length : Int) := by omega
        obtain ⟨b1, o1, rfl, hc⟩ := HX.out.cell hlt
        have hc1 : wr.cell? ⟨b1, o1 + k, none⟩ = some (.string (xs.getD k ByteArray.empty)) := (hb.cell (p := ⟨b1, o1 + k, none⟩) (block_lt_of_cell hc)).trans hc
        have HS : Hid (flN (xs.take (k + 1)) = flN (xs.take k) ++ 47 :: ls (xs.getD k ByteArray.empty)) := flN_succ hlt
        have hle : (flN (xs.take k)).length + 1 + (xs.getD k ByteArray.empty).size ≤ 4000 := by
          have h1 := flN_le (xs := xs) (k + 1)
          rw [HS.out, List.length_append, List.length_cons, ls_size] at h1
          omega
        clear hc
        generalize xs.getD k ByteArray.empty = x at hc1 HS hle
        generalize flN (xs.take k) = L at HBD HS hle
        go_wp2_with fail
        refine (wbyte_any _ _ _ _ _ HBD.out (by rw [bcells_len]; omega) hb.size).mono ?_
        rintro e w1 ⟨rfl, hbd1, hb1⟩
        have hb1' := hb.trans hb1
        have HB1 : Hid (Bd w.heap.size w.heap.size (Lib.byteCells L ++ [.int .u8 47]) w1) := hbd1
        clear hbd1 hb1 HBD hc1
        go_wp2_with fail
        refine (wstr_any _ _ _ _ _ HB1.out (by rw [List.length_append, bcells_len, List.length_singleton]; omega) hb1'.size).mono ?_
        rintro e w2 ⟨rfl, hbd2, hb2⟩
        have hb2' := hb1'.trans hb2
        have HB2 : Hid (Bd w.heap.size w.heap.size (Lib.byteCells (flN (xs.take (k + 1)))) w2) := by
          rw [HS.out, ← bcells]; exact hbd2
        clear hbd2 hb2 HB1
        go_wp2_with fail
        go_roundw
        case rel => exact ⟨k + 1, by omega, by go_num, HB2.out, hb2'⟩
        case measure => simp [intOf]; omega
      · have hke : xs.take k = xs := List.take_of_length_le (by omega)
        have hlti : ¬ (k : Int) < (xs.length : Int) := by omega
        rw [hke] at HBD
        go_wp2_with fail
        refine (Tryz.Builder_String_any _ _ _ _ HBD.out hb.size).mono ?_
        rintro e w1 ⟨rfl, hb1⟩
        go_wp2_with fail
        go_ret
        exact ⟨by rw [HT.out]; rfl, hb.trans hb1⟩

/-- does it fit? -/
def fitB (xs : List ByteArray) : Bool := decide (xs.length ≤ 5) && decide ((tx xs).size ≤ 45)

set_option maxRecDepth 100000 in
set_option maxHeartbeats 1000000 in
theorem fits_any (g : Nat) (a : Option Addr) (xs : List ByteArray) (cap : Nat) (w : World) (hg : w.cell? ⟨g, 0, none⟩ = some (.slice a xs.length cap)) (hx : StrsAt w a xs) (hl : xs.length ≤ 4000) (ht : (flN xs).length ≤ 4000) :
    Calls Tryz.prog 114 #[.pointer (some ⟨g, 0, none⟩)] w fun e w' => e = .returned (.bool (fitB xs)) ∧ Below w.heap.size w w' := by
  have HX : Hid (StrsAt w a xs) := hx
  have HG : Hid (w.cell? ⟨g, 0, none⟩ = some (.slice a xs.length cap)) := hg
  clear hx
  by_cases h5 : xs.length ≤ 5
  · have h5i : (xs.length : Int) ≤ 5 := by omega
    go_enter Tryz.func114, Tryz.ntmps114
    go_wp2_with fail
    refine (text_any g a xs cap _ HG.out HX.out hl ht).mono ?_
    rintro e w1 ⟨rfl, hb1⟩
    have HF : Hid (fitB xs = decide (((tx xs).size : Int) ≤ 45)) := by
      show _ = _
      unfold fitB; rw [decide_eq_true h5, Bool.true_and, Bool.eq_iff_iff]; simp; omega
    generalize tx xs = t at HF
    go_wp2_with fail
    go_ret
    exact ⟨ret_bool HF.out.symm, hb1⟩
  · have h5i : ¬ (xs.length : Int) ≤ 5 := by omega
    have HF : Hid (fitB xs = false) := by show _ = _; unfold fitB; rw [decide_eq_false h5]; rfl
    go_enter Tryz.func114, Tryz.ntmps114
    go_wp2_with fail
    go_ret
    exact ⟨ret_bool HF.out.symm, nwR w⟩

theorem bs_app (l : List UInt8) (x : ByteArray) : bs l ++ bs [47] ++ x = bs (l ++ 47 :: ls x) := by
  apply ls_inj
  have h : ∀ a b : ByteArray, ls (a ++ b) = ls a ++ ls b := fun a b => by simp [ls]
  rw [h, h, ls_bs, ls_bs, ls_bs]; simp

end Go.Proofs.YtdpighcaieajjabGreat
