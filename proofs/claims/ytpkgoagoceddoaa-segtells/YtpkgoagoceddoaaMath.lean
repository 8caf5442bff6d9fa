/- Plain mathematics of segments: what is built is valid, has the wanted members, and is the only such list. -/
import Derived.Test.YtpkgoagoceddoaaOf
namespace Go.Proofs.Ytpkgoagoceddoaa

def lastE (m : Int) : List (Int × Int) → Int
  | [] => m
  | s :: r => lastE (s.1 + s.2 + 1) r

theorem validFrom_snoc (s : Int × Int) : ∀ (d : List (Int × Int)) (m : Int), validFrom m (d ++ [s]) = (validFrom m d && mayB s.1 s.2 && !decide (s.1 < lastE m d))
  | [], m => by simp [validFrom, lastE]; rfl
  | x :: r, m => by
    simp only [List.cons_append, validFrom, lastE, validFrom_snoc s r, Bool.and_assoc]
    rfl

theorem lastE_snoc (s : Int × Int) : ∀ (d : List (Int × Int)) (m : Int), lastE m (d ++ [s]) = s.1 + s.2 + 1
  | [], m => by simp [lastE]
  | x :: r, m => by simp only [List.cons_append, lastE, lastE_snoc s r]

theorem memS_append (d e : List (Int × Int)) (k : Nat) : memS (d ++ e) k = (memS d k || memS e k) := by simp [memS]
theorem memS_one (s : Int × Int) (k : Nat) : memS [s] k = inSeg s k := by simp [memS]

theorem bstate_inv (p : Nat → Bool) : ∀ k : Nat, k ≤ 64 →
    ((bstate p k).2.2 = 0 ∧ (bstate p k).1 = [] ∧ ∀ j, j < k → p j = false) ∨
    (0 < (bstate p k).2.2 ∧ validFrom 0 ((bstate p k).1 ++ [((bstate p k).2.1, (bstate p k).2.2)]) = true ∧ (bstate p k).2.1 + (bstate p k).2.2 ≤ k ∧
      ∀ j : Nat, memS ((bstate p k).1 ++ [((bstate p k).2.1, (bstate p k).2.2)]) j = (decide (j < k) && p j))
  | 0, _ => by left; simp [bstate]
  | k + 1, hk => by
    have ih := bstate_inv p k (by omega)
    rw [bstate]
    generalize bstate p k = st at ih
    obtain ⟨d, a, n⟩ := st
    simp only at ih
    cases hp : p k
    · simp only [Bool.false_eq_true, if_false]
      rcases ih with ⟨h1, h2, h3⟩ | ⟨h1, h2, h3, h4⟩
      · left
        refine ⟨h1, h2, fun j hj => ?_⟩
        by_cases e : j = k
        · subst e; exact hp
        · exact h3 j (by omega)
      · right
        refine ⟨h1, h2, by omega, fun j => ?_⟩
        rw [h4 j]
        by_cases e : j = k
        · subst e; simp [hp]
        · have : decide (j < k) = decide (j < k + 1) := by rw [decide_eq_decide]; omega
          rw [this]
    · simp only [if_true]
      rcases ih with ⟨h1, h2, h3⟩ | ⟨h1, h2, h3, h4⟩
      · subst h1; subst h2
        right
        simp only [bstep, bfin, Int.lt_irrefl, false_and, if_false, List.nil_append]
        refine ⟨by omega, ?_, by omega, fun j => ?_⟩
        · simp [validFrom, mayB]; omega
        · rw [memS_one]
          by_cases e : j = k
          · subst e; simp [inSeg, hp]; omega
          · by_cases e2 : j < k
            · rw [h3 j e2]; simp [inSeg]; omega
            · have e3 : decide (j < k + 1) = false := by simp; omega
              rw [e3]; simp [inSeg]; omega
      · right
        by_cases hx : 0 < n ∧ (k : Int) = a + n
        · simp only [bstep, hx, and_self, if_true]
          rw [validFrom_snoc] at h2 ⊢
          simp only [Bool.and_eq_true] at h2 ⊢
          have hm := mayB_of h2.1.2
          refine ⟨by omega, ⟨⟨h2.1.1, ?_⟩, h2.2⟩, by omega, fun j => ?_⟩
          · simp [mayB]; omega
          · have h5 := h4 j
            rw [memS_append, memS_one] at h5 ⊢
            by_cases e : j = k
            · subst e
              have : inSeg (a, n + 1) j = true := by simp [inSeg]; omega
              rw [this, hp]; simp
            · have e1 : inSeg (a, n + 1) j = inSeg (a, n) j := by simp only [inSeg, decide_eq_decide]; omega
              have e2 : decide (j < k) = decide (j < k + 1) := by rw [decide_eq_decide]; omega
              rw [e1, h5, e2]
        · have hb : bstep (d, a, n) k = (d ++ [(a, n)], (k : Int), 1) := by
            simp only [bstep, bfin]
            rw [if_neg hx, if_pos h1]
          rw [hb]
          simp only
          refine ⟨by omega, ?_, by omega, fun j => ?_⟩
          · rw [validFrom_snoc, h2, lastE_snoc]
            simp [mayB]; omega
          · rw [memS_append, h4 j, memS_one]
            by_cases e : j = k
            · subst e
              have : inSeg ((j : Int), 1) j = true := by simp [inSeg]; omega
              rw [this, hp]; simp
            · have e1 : inSeg ((k : Int), 1) j = false := by simp [inSeg]; omega
              have e2 : decide (j < k) = decide (j < k + 1) := by rw [decide_eq_decide]; omega
              rw [e1, e2]; simp

theorem segsOf_ok (p : Nat → Bool) : vOk (segsOf p) = true ∧ ∀ j : Nat, memS (segsOf p) j = (decide (j < 64) && p j) := by
  have h := bstate_inv p 64 (by omega)
  unfold segsOf bfin
  rcases h with ⟨h1, h2, h3⟩ | ⟨h1, h2, h3, h4⟩
  · rw [if_neg (by omega), h2]
    refine ⟨rfl, fun j => ?_⟩
    by_cases e : j < 64
    · simp [memS, h3 j e]
    · simp [memS, e]
  · rw [if_pos h1]
    exact ⟨h2, h4⟩

theorem valid_ge {l : List (Int × Int)} : ∀ {m : Int} {k : Nat}, validFrom m l = true → memS l k = true → m ≤ k ∧ k < 64 := by
  induction l with
  | nil => intro m k _ h; simp [memS] at h
  | cons s r ih =>
    intro m k h hk
    simp only [validFrom, Bool.and_eq_true, Bool.not_eq_true', decide_eq_false_iff_not] at h
    have hm := mayB_of h.1.1
    rw [show s :: r = [s] ++ r from rfl, memS_append, memS_one, Bool.or_eq_true] at hk
    rcases hk with hk | hk
    · simp [inSeg] at hk; omega
    · have := ih h.2 hk; omega

theorem valid_ext : ∀ (l l' : List (Int × Int)) (m : Int), 0 ≤ m → validFrom m l = true → validFrom m l' = true → (∀ k : Nat, memS l k = memS l' k) → l = l'
  | [], [], _, _, _, _, _ => rfl
  | [], s :: r, m, hm0, _, h', hk => by
    simp only [validFrom, Bool.and_eq_true] at h'
    have hm := mayB_of h'.1.1
    have := hk s.1.toNat
    rw [show s :: r = [s] ++ r from rfl, memS_append, memS_one, show inSeg s s.1.toNat = true from by simp [inSeg]; omega] at this
    simp [memS] at this
  | s :: r, [], m, hm0, h, _, hk => by
    simp only [validFrom, Bool.and_eq_true] at h
    have hm := mayB_of h.1.1
    have := hk s.1.toNat
    rw [show s :: r = [s] ++ r from rfl, memS_append, memS_one, show inSeg s s.1.toNat = true from by simp [inSeg]; omega] at this
    simp [memS] at this
  | s :: r, s' :: r', m, hm0, h, h', hk => by
    simp only [validFrom, Bool.and_eq_true] at h h'
    have hm := mayB_of h.1.1
    have hm' := mayB_of h'.1.1
    have hk2 : ∀ k : Nat, (inSeg s k || memS r k) = (inSeg s' k || memS r' k) := fun k => by
      have := hk k
      rwa [show s :: r = [s] ++ r from rfl, show s' :: r' = [s'] ++ r' from rfl, memS_append, memS_append, memS_one, memS_one] at this
    have g1 : ∀ k : Nat, memS r k = true → s.1 + s.2 + 1 ≤ k := fun k hx => (valid_ge h.2 hx).1
    have g2 : ∀ k : Nat, memS r' k = true → s'.1 + s'.2 + 1 ≤ k := fun k hx => (valid_ge h'.2 hx).1
    have in1 : ∀ k : Nat, inSeg s k = true ↔ s.1 ≤ k ∧ (k : Int) < s.1 + s.2 := fun k => by simp [inSeg]
    have in2 : ∀ k : Nat, inSeg s' k = true ↔ s'.1 ≤ k ∧ (k : Int) < s'.1 + s'.2 := fun k => by simp [inSeg]
    have e1 : s.1 = s'.1 := by
      have a1 := hk2 s.1.toNat
      have a2 := hk2 s'.1.toNat
      have b1 := (in1 s.1.toNat).2 (by omega)
      have b2 := (in2 s'.1.toNat).2 (by omega)
      rw [b1, Bool.true_or] at a1
      rw [b2, Bool.true_or] at a2
      rcases Bool.or_eq_true _ _ ▸ a1.symm with c | c
      · rcases Bool.or_eq_true _ _ ▸ a2 with d | d
        · have := (in2 _).1 c; have := (in1 _).1 d; omega
        · have := (in2 _).1 c; have := g1 _ d; omega
      · rcases Bool.or_eq_true _ _ ▸ a2 with d | d
        · have := g2 _ c; have := (in1 _).1 d; omega
        · have := g2 _ c; have := g1 _ d; omega
    have e2 : s.2 = s'.2 := by
      rcases Int.lt_trichotomy s.2 s'.2 with c | c | c
      · have a1 := hk2 (s.1 + s.2).toNat
        rw [(in2 (s.1 + s.2).toNat).2 (by omega), Bool.true_or] at a1
        rcases Bool.or_eq_true _ _ ▸ a1 with d | d
        · have := (in1 _).1 d; omega
        · have := g1 _ d; omega
      · exact c
      · have a1 := hk2 (s'.1 + s'.2).toNat
        rw [(in1 (s'.1 + s'.2).toNat).2 (by omega), Bool.true_or] at a1
        rcases Bool.or_eq_true _ _ ▸ a1.symm with d | d
        · have := (in2 _).1 d; omega
        · have := g2 _ d; omega
    have es : s = s' := Prod.ext e1 e2
    subst es
    rw [valid_ext r r' _ (by omega) h.2 h'.2 (fun k => by
      have := hk2 k
      cases hi : inSeg s k
      · simpa [hi] using this
      · have hi' := (in1 k).1 hi
        have n1 : memS r k = false := by
          cases hx : memS r k
          · rfl
          · have := g1 k hx; omega
        have n2 : memS r' k = false := by
          cases hx : memS r' k
          · rfl
          · have := g2 k hx; omega
        rw [n1, n2])]

theorem ext0 {l l' : List (Int × Int)} (h : vOk l = true) (h' : vOk l' = true) (hk : ∀ k : Nat, k < 64 → memS l k = memS l' k) : l = l' :=
  valid_ext l l' 0 (Int.le_refl 0) h h' (fun k => by
    by_cases e : k < 64
    · exact hk k e
    · have n1 : memS l k = false := by
        cases hx : memS l k
        · rfl
        · have := (valid_ge h hx).2; omega
      have n2 : memS l' k = false := by
        cases hx : memS l' k
        · rfl
        · have := (valid_ge h' hx).2; omega
      rw [n1, n2])

theorem segsOf_self {l : List (Int × Int)} {p : Nat → Bool} (h : vOk l = true) (hp : ∀ k : Nat, k < 64 → p k = memS l k) : segsOf p = l :=
  ext0 (segsOf_ok p).1 h (fun k hk => by rw [(segsOf_ok p).2 k, hp k hk]; simp [hk])

theorem segsOf_congr {p q : Nat → Bool} (h : ∀ k : Nat, k < 64 → p k = q k) : segsOf p = segsOf q :=
  segsOf_self (segsOf_ok q).1 (fun k hk => by rw [(segsOf_ok q).2 k, h k hk]; simp [hk])

theorem segsOf_none {p : Nat → Bool} (h : ∀ k : Nat, k < 64 → p k = false) : segsOf p = [] := segsOf_self (l := []) rfl (fun k hk => by rw [h k hk]; simp [memS])

/-- how many sectors below q -/
def b2i : Bool → Int
  | true => 1
  | false => 0
def cardB (p : Nat → Bool) : Nat → Int
  | 0 => 0
  | q + 1 => cardB p q + b2i (p q)

theorem cardB_congr {p p' : Nat → Bool} : ∀ q : Nat, (∀ k, k < q → p k = p' k) → cardB p q = cardB p' q
  | 0, _ => rfl
  | q + 1, h => by rw [cardB, cardB, cardB_congr q (fun k hk => h k (by omega)), h q (by omega)]

theorem cardB_split (p q : Nat → Bool) : ∀ n, cardB (fun k => p k && !q k) n + cardB (fun k => p k && q k) n = cardB p n
  | 0 => rfl
  | n + 1 => by
    have := cardB_split p q n
    simp only [cardB]
    cases p n <;> cases q n <;> simp [b2i] <;> omega

theorem cardB_seg (a n : Int) (h0 : 0 ≤ a) (h1 : 0 ≤ n) : ∀ q : Nat, ((q : Int) ≤ a → cardB (inSeg (a, n)) q = 0) ∧ (a < q → (q : Int) ≤ a + n → cardB (inSeg (a, n)) q = q - a) ∧ (a < q → a + n < q → cardB (inSeg (a, n)) q = n)
  | 0 => by
    refine ⟨fun _ => rfl, fun h => by omega, fun h => by omega⟩
  | q + 1 => by
    have ih := cardB_seg a n h0 h1 q
    rw [cardB]
    by_cases c1 : (q : Int) < a
    · have e : inSeg (a, n) q = false := by simp [inSeg]; omega
      rw [e, ih.1 (by omega)]
      refine ⟨fun _ => rfl, fun h => by omega, fun h => by omega⟩
    · by_cases c2 : (q : Int) < a + n
      · have e : inSeg (a, n) q = true := by simp [inSeg]; omega
        rw [e]
        refine ⟨fun h => by omega, fun _ _ => ?_, fun _ h => by omega⟩
        by_cases c3 : (q : Int) = a
        · rw [ih.1 (by omega)]; simp only [b2i]; omega
        · rw [ih.2.1 (by omega) (by omega)]; simp only [b2i]; omega
      · have e : inSeg (a, n) q = false := by simp [inSeg]; omega
        rw [e]
        refine ⟨fun h => by omega, fun _ h => by omega, fun _ _ => ?_⟩
        by_cases c3 : (q : Int) = a
        · rw [ih.1 (by omega)]; simp only [b2i]; omega
        · by_cases c4 : (q : Int) = a + n
          · rw [ih.2.1 (by omega) (by omega)]; simp only [b2i]; omega
          · rw [ih.2.2 (by omega) (by omega)]; simp only [b2i]; omega

theorem cardB_or (p q : Nat → Bool) (h : ∀ k, p k = true → q k = false) : ∀ n, cardB (fun k => p k || q k) n = cardB p n + cardB q n
  | 0 => rfl
  | n + 1 => by
    have := cardB_or p q h n
    have hn := h n
    simp only [cardB]
    cases hp : p n <;> cases hq : q n <;> simp_all [b2i] <;> omega

theorem sumLen_card : ∀ (l : List (Int × Int)) (m : Int), 0 ≤ m → validFrom m l = true → sumLen l = cardB (memS l) 64
  | [], _, _, _ => by
    have : ∀ n, cardB (memS []) n = 0 := fun n => by
      induction n with
      | zero => rfl
      | succ n ih => rw [cardB, ih]; simp [memS, b2i]
    rw [this]; rfl
  | s :: r, m, hm0, h => by
    simp only [validFrom, Bool.and_eq_true] at h
    have hm := mayB_of h.1.1
    have ih := sumLen_card r _ (by omega) h.2
    have e : memS (s :: r) = fun k => inSeg s k || memS r k := by
      funext k
      rw [show s :: r = [s] ++ r from rfl, memS_append, memS_one]
    rw [sumLen, ih, e, cardB_or _ _ (fun k hk => by
      cases hx : memS r k
      · rfl
      · have := (valid_ge h.2 hx).1
        simp [inSeg] at hk; omega)]
    have h3 := cardB_seg s.1 s.2 (by omega) (by omega) 64
    have h4 : cardB (inSeg s) 64 = s.2 := by
      rw [show s = (s.1, s.2) from rfl]
      by_cases c : s.1 + s.2 = 64
      · rw [h3.2.1 (by omega) (by omega)]; omega
      · exact h3.2.2 (by omega) (by omega)
    rw [h4]

theorem memI_append (a b : List Int) (k : Nat) : memI (a ++ b) k = (memI a k || memI b k) := by simp [memI]
theorem memI_ups (x : Int) (n : Nat) (k : Nat) : memI (ups x n) k = inSeg (x, n) k := by
  rw [Bool.eq_iff_iff]
  simp only [memI, ups, List.any_eq_true, List.mem_map, List.mem_range, decide_eq_true_eq, inSeg]
  constructor
  · rintro ⟨z, ⟨i, hi, rfl⟩, hz⟩; omega
  · intro h
    exact ⟨(k : Int), ⟨(k - x).toNat, by omega, by omega⟩, rfl⟩
theorem memI_listOf : ∀ (l : List (Int × Int)) (m : Int), validFrom m l = true → ∀ k, memI (listOf l) k = memS l k
  | [], _, _, _ => rfl
  | s :: r, m, h, k => by
    simp only [validFrom, Bool.and_eq_true] at h
    have hm := mayB_of h.1.1
    rw [listOf, memI_append, memI_ups, memI_listOf r _ h.2 k, show s :: r = [s] ++ r from rfl, memS_append, memS_one]
    congr 1
    simp only [inSeg, decide_eq_decide]
    omega
theorem allIn_listOf : ∀ (l : List (Int × Int)) (m : Int), validFrom m l = true → allIn (listOf l) = true
  | [], _, _ => rfl
  | s :: r, m, h => by
    simp only [validFrom, Bool.and_eq_true] at h
    have hm := mayB_of h.1.1
    have ih := allIn_listOf r _ h.2
    simp only [allIn, listOf, List.all_append, Bool.and_eq_true] at ih ⊢
    refine ⟨?_, ih⟩
    simp only [ups, List.all_eq_true, List.mem_map, List.mem_range]
    rintro z ⟨i, hi, rfl⟩
    simp [mayB]; omega

end Go.Proofs.Ytpkgoagoceddoaa
