/- Laid together: Math, Parts, RefSegs, RefArr, RefSet, RefOf. -/
import Derived.Test.YtheomnafmjmpdaaRoomN2
/- Plain mathematics of segments: what is built is valid, has the wanted members, and is the only such list. -/
namespace Go.Proofs.Ytheomnafmjmpdaa

def lastE (m : Int) : List (Int × Int) → Int
  | [] => m
  | s :: r => lastE (s.1 + s.2 + 1) r

theorem validFrom_snoc (s : Int × Int) : ∀ (d : List (Int × Int)) (m : Int), validFrom m (d ++ [s]) = (validFrom m d && mayB s.1 s.2 && !decide (s.1 < lastE m d))
  | [], m => by simp [validFrom, lastE]; rfl
  | x :: r, m => by
    simp only [List.cons_append, validFrom, lastE, validFrom_snoc s r, Bool.and_assoc]
    rfl

theorem lastE_snoc (s : Int × Int) : ∀ (d : List (Int × Int)) (m : Int), lastE m (d ++ [s]) = s.1 + s.2 + 1
  | [], m => by simp [lastE]
  | x :: r, m => by simp only [List.cons_append, lastE, lastE_snoc s r]

theorem memS_append (d e : List (Int × Int)) (k : Nat) : memS (d ++ e) k = (memS d k || memS e k) := by simp [memS]
theorem memS_one (s : Int × Int) (k : Nat) : memS [s] k = inSeg s k := by simp [memS]

theorem bstate_inv (p : Nat → Bool) : ∀ k : Nat, k ≤ 64 →
    ((bstate p k).2.2 = 0 ∧ (bstate p k).1 = [] ∧ ∀ j, j < k → p j = false) ∨
    (0 < (bstate p k).2.2 ∧ validFrom 0 ((bstate p k).1 ++ [((bstate p k).2.1, (bstate p k).2.2)]) = true ∧ (bstate p k).2.1 + (bstate p k).2.2 ≤ k ∧
      ∀ j : Nat, memS ((bstate p k).1 ++ [((bstate p k).2.1, (bstate p k).2.2)]) j = (decide (j < k) && p j))
  | 0, _ => by left; simp [bstate]
  | k + 1, hk => by
    have ih := bstate_inv p k (by omega)
    rw [bstate]
    generalize bstate p k = st at ih
    obtain ⟨d, a, n⟩ := st
    simp only at ih
    cases hp : p k
    · simp only [Bool.false_eq_true, if_false]
      rcases ih with ⟨h1, h2, h3⟩ | ⟨h1, h2, h3, h4⟩
      · left
        refine ⟨h1, h2, fun j hj => ?_⟩
        by_cases e : j = k
        · subst e; exact hp
        · exact h3 j (by omega)
      · right
        refine ⟨h1, h2, by omega, fun j => ?_⟩
        rw [h4 j]
        by_cases e : j = k
        · subst e; simp [hp]
        · have : decide (j < k) = decide (j < k + 1) := by rw [decide_eq_decide]; omega
          rw [this]
    · simp only [if_true]
      rcases ih with ⟨h1, h2, h3⟩ | ⟨h1, h2, h3, h4⟩
      · subst h1; subst h2
        right
        simp only [bstep, bfin, Int.lt_irrefl, false_and, if_false, List.nil_append]
        refine ⟨by omega, ?_, by omega, fun j => ?_⟩
        · simp [validFrom, mayB]; omega
        · rw [memS_one]
          by_cases e : j = k
          · subst e; simp [inSeg, hp]; omega
          · by_cases e2 : j < k
            · rw [h3 j e2]; simp [inSeg]; omega
            · have e3 : decide (j < k + 1) = false := by simp; omega
              rw [e3]; simp [inSeg]; omega
      · right
        by_cases hx : 0 < n ∧ (k : Int) = a + n
        · simp only [bstep, hx, and_self, if_true]
          rw [validFrom_snoc] at h2 ⊢
          simp only [Bool.and_eq_true] at h2 ⊢
          have hm := mayB_of h2.1.2
          refine ⟨by omega, ⟨⟨h2.1.1, ?_⟩, h2.2⟩, by omega, fun j => ?_⟩
          · simp [mayB]; omega
          · have h5 := h4 j
            rw [memS_append, memS_one] at h5 ⊢
            by_cases e : j = k
            · subst e
              have : inSeg (a, n + 1) j = true := by simp [inSeg]; omega
              rw [this, hp]; simp
            · have e1 : inSeg (a, n + 1) j = inSeg (a, n) j := by simp only [inSeg, decide_eq_decide]; omega
              have e2 : decide (j < k) = decide (j < k + 1) := by rw [decide_eq_decide]; omega
              rw [e1, h5, e2]
        · have hb : bstep (d, a, n) k = (d ++ [(a, n)], (k : Int), 1) := by
            simp only [bstep, bfin]
            rw [if_neg hx, if_pos h1]
          rw [hb]
          simp only
          refine ⟨by omega, ?_, by omega, fun j => ?_⟩
          · rw [validFrom_snoc, h2, lastE_snoc]
            simp [mayB]; omega
          · rw [memS_append, h4 j, memS_one]
            by_cases e : j = k
            · subst e
              have : inSeg ((j : Int), 1) j = true := by simp [inSeg]; omega
              rw [this, hp]; simp
            · have e1 : inSeg ((k : Int), 1) j = false := by simp [inSeg]; omega
              have e2 : decide (j < k) = decide (j < k + 1) := by rw [decide_eq_decide]; omega
              rw [e1, e2]; simp

theorem segsOf_ok (p : Nat → Bool) : vOk (segsOf p) = true ∧ ∀ j : Nat, memS (segsOf p) j = (decide (j < 64) && p j) := by
  have h := bstate_inv p 64 (by omega)
  unfold segsOf bfin
  rcases h with ⟨h1, h2, h3⟩ | ⟨h1, h2, h3, h4⟩
  · rw [if_neg (by omega), h2]
    refine ⟨rfl, fun j => ?_⟩
    by_cases e : j < 64
    · simp [memS, h3 j e]
    · simp [memS, e]
  · rw [if_pos h1]
    exact ⟨h2, h4⟩

theorem valid_ge {l : List (Int × Int)} : ∀ {m : Int} {k : Nat}, validFrom m l = true → memS l k = true → m ≤ k ∧ k < 64 := by
  induction l with
  | nil => intro m k _ h; simp [memS] at h
  | cons s r ih =>
    intro m k h hk
    simp only [validFrom, Bool.and_eq_true, Bool.not_eq_true', decide_eq_false_iff_not] at h
    have hm := mayB_of h.1.1
    rw [show s :: r = [s] ++ r from rfl, memS_append, memS_one, Bool.or_eq_true] at hk
    rcases hk with hk | hk
    · simp [inSeg] at hk; omega
    · have := ih h.2 hk; omega

theorem valid_ext : ∀ (l l' : List (Int × Int)) (m : Int), 0 ≤ m → validFrom m l = true → validFrom m l' = true → (∀ k : Nat, memS l k = memS l' k) → l = l'
  | [], [], _, _, _, _, _ => rfl
  | [], s :: r, m, hm0, _, h', hk => by
    simp only [validFrom, Bool.and_eq_true] at h'
    have hm := mayB_of h'.1.1
    have := hk s.1.toNat
    rw [show s :: r = [s] ++ r from rfl, memS_append, memS_one, show inSeg s s.1.toNat = true from by simp [inSeg]; omega] at this
    simp [memS] at this
  | s :: r, [], m, hm0, h, _, hk => by
    simp only [validFrom, Bool.and_eq_true] at h
    have hm := mayB_of h.1.1
    have := hk s.1.toNat
    rw [show s :: r = [s] ++ r from rfl, memS_append, memS_one, show inSeg s s.1.toNat = true from by simp [inSeg]; omega] at this
    simp [memS] at this
  | s :: r, s' :: r', m, hm0, h, h', hk => by
    simp only [validFrom, Bool.and_eq_true] at h h'
    have hm := mayB_of h.1.1
    have hm' := mayB_of h'.1.1
    have hk2 : ∀ k : Nat, (inSeg s k || memS r k) = (inSeg s' k || memS r' k) := fun k => by
      have := hk k
      rwa [show s :: r = [s] ++ r from rfl, show s' :: r' = [s'] ++ r' from rfl, memS_append, memS_append, memS_one, memS_one] at this
    have g1 : ∀ k : Nat, memS r k = true → s.1 + s.2 + 1 ≤ k := fun k hx => (valid_ge h.2 hx).1
    have g2 : ∀ k : Nat, memS r' k = true → s'.1 + s'.2 + 1 ≤ k := fun k hx => (valid_ge h'.2 hx).1
    have in1 : ∀ k : Nat, inSeg s k = true ↔ s.1 ≤ k ∧ (k : Int) < s.1 + s.2 := fun k => by simp [inSeg]
    have in2 : ∀ k : Nat, inSeg s' k = true ↔ s'.1 ≤ k ∧ (k : Int) < s'.1 + s'.2 := fun k => by simp [inSeg]
    have e1 : s.1 = s'.1 := by
      have a1 := hk2 s.1.toNat
      have a2 := hk2 s'.1.toNat
      have b1 := (in1 s.1.toNat).2 (by omega)
      have b2 := (in2 s'.1.toNat).2 (by omega)
      rw [b1, Bool.true_or] at a1
      rw [b2, Bool.true_or] at a2
      rcases Bool.or_eq_true _ _ ▸ a1.symm with c | c
      · rcases Bool.or_eq_true _ _ ▸ a2 with d | d
        · have := (in2 _).1 c; have := (in1 _).1 d; omega
        · have := (in2 _).1 c; have := g1 _ d; omega
      · rcases Bool.or_eq_true _ _ ▸ a2 with d | d
        · have := g2 _ c; have := (in1 _).1 d; omega
        · have := g2 _ c; have := g1 _ d; omega
    have e2 : s.2 = s'.2 := by
      rcases Int.lt_trichotomy s.2 s'.2 with c | c | c
      · have a1 := hk2 (s.1 + s.2).toNat
        rw [(in2 (s.1 + s.2).toNat).2 (by omega), Bool.true_or] at a1
        rcases Bool.or_eq_true _ _ ▸ a1 with d | d
        · have := (in1 _).1 d; omega
        · have := g1 _ d; omega
      · exact c
      · have a1 := hk2 (s'.1 + s'.2).toNat
        rw [(in1 (s'.1 + s'.2).toNat).2 (by omega), Bool.true_or] at a1
        rcases Bool.or_eq_true _ _ ▸ a1.symm with d | d
        · have := (in2 _).1 d; omega
        · have := g2 _ d; omega
    have es : s = s' := Prod.ext e1 e2
    subst es
    rw [valid_ext r r' _ (by omega) h.2 h'.2 (fun k => by
      have := hk2 k
      cases hi : inSeg s k
      · simpa [hi] using this
      · have hi' := (in1 k).1 hi
        have n1 : memS r k = false := by
          cases hx : memS r k
          · rfl
          · have := g1 k hx; omega
        have n2 : memS r' k = false := by
          cases hx : memS r' k
          · rfl
          · have := g2 k hx; omega
        rw [n1, n2])]

theorem ext0 {l l' : List (Int × Int)} (h : vOk l = true) (h' : vOk l' = true) (hk : ∀ k : Nat, k < 64 → memS l k = memS l' k) : l = l' :=
  valid_ext l l' 0 (Int.le_refl 0) h h' (fun k => by
    by_cases e : k < 64
    · exact hk k e
    · have n1 : memS l k = false := by
        cases hx : memS l k
        · rfl
        · have := (valid_ge h hx).2; omega
      have n2 : memS l' k = false := by
        cases hx : memS l' k
        · rfl
        · have := (valid_ge h' hx).2; omega
      rw [n1, n2])

theorem segsOf_self {l : List (Int × Int)} {p : Nat → Bool} (h : vOk l = true) (hp : ∀ k : Nat, k < 64 → p k = memS l k) : segsOf p = l :=
  ext0 (segsOf_ok p).1 h (fun k hk => by rw [(segsOf_ok p).2 k, hp k hk]; simp [hk])

theorem segsOf_congr {p q : Nat → Bool} (h : ∀ k : Nat, k < 64 → p k = q k) : segsOf p = segsOf q :=
  segsOf_self (segsOf_ok q).1 (fun k hk => by rw [(segsOf_ok q).2 k, h k hk]; simp [hk])

theorem segsOf_none {p : Nat → Bool} (h : ∀ k : Nat, k < 64 → p k = false) : segsOf p = [] := segsOf_self (l := []) rfl (fun k hk => by rw [h k hk]; simp [memS])

/-- how many sectors below q -/
def b2i : Bool → Int
  | true => 1
  | false => 0
def cardB (p : Nat → Bool) : Nat → Int
  | 0 => 0
  | q + 1 => cardB p q + b2i (p q)

theorem cardB_congr {p p' : Nat → Bool} : ∀ q : Nat, (∀ k, k < q → p k = p' k) → cardB p q = cardB p' q
  | 0, _ => rfl
  | q + 1, h => by rw [cardB, cardB, cardB_congr q (fun k hk => h k (by omega)), h q (by omega)]

theorem cardB_split (p q : Nat → Bool) : ∀ n, cardB (fun k => p k && !q k) n + cardB (fun k => p k && q k) n = cardB p n
  | 0 => rfl
  | n + 1 => by
    have := cardB_split p q n
    simp only [cardB]
    cases p n <;> cases q n <;> simp [b2i] <;> omega

theorem cardB_seg (a n : Int) (h0 : 0 ≤ a) (h1 : 0 ≤ n) : ∀ q : Nat, ((q : Int) ≤ a → cardB (inSeg (a, n)) q = 0) ∧ (a < q → (q : Int) ≤ a + n → cardB (inSeg (a, n)) q = q - a) ∧ (a < q → a + n < q → cardB (inSeg (a, n)) q = n)
  | 0 => by
    refine ⟨fun _ => rfl, fun h => by omega, fun h => by omega⟩
  | q + 1 => by
    have ih := cardB_seg a n h0 h1 q
    rw [cardB]
    by_cases c1 : (q : Int) < a
    · have e : inSeg (a, n) q = false := by simp [inSeg]; omega
      rw [e, ih.1 (by omega)]
      refine ⟨fun _ => rfl, fun h => by omega, fun h => by omega⟩
    · by_cases c2 : (q : Int) < a + n
      · have e : inSeg (a, n) q = true := by simp [inSeg]; omega
        rw [e]
        refine ⟨fun h => by omega, fun _ _ => ?_, fun _ h => by omega⟩
        by_cases c3 : (q : Int) = a
        · rw [ih.1 (by omega)]; simp only [b2i]; omega
        · rw [ih.2.1 (by omega) (by omega)]; simp only [b2i]; omega
      · have e : inSeg (a, n) q = false := by simp [inSeg]; omega
        rw [e]
        refine ⟨fun h => by omega, fun _ h => by omega, fun _ _ => ?_⟩
        by_cases c3 : (q : Int) = a
        · rw [ih.1 (by omega)]; simp only [b2i]; omega
        · by_cases c4 : (q : Int) = a + n
          · rw [ih.2.1 (by omega) (by omega)]; simp only [b2i]; omega
          · rw [ih.2.2 (by omega) (by omega)]; simp only [b2i]; omega

theorem cardB_or (p q : Nat → Bool) (h : ∀ k, p k = true → q k = false) : ∀ n, cardB (fun k => p k || q k) n = cardB p n + cardB q n
  | 0 => rfl
  | n + 1 => by
    have := cardB_or p q h n
    have hn := h n
    simp only [cardB]
    cases hp : p n <;> cases hq : q n <;> simp_all [b2i] <;> omega

theorem sumLen_card : ∀ (l : List (Int × Int)) (m : Int), 0 ≤ m → validFrom m l = true → sumLen l = cardB (memS l) 64
  | [], _, _, _ => by
    have : ∀ n, cardB (memS []) n = 0 := fun n => by
      induction n with
      | zero => rfl
      | succ n ih => rw [cardB, ih]; simp [memS, b2i]
    rw [this]; rfl
  | s :: r, m, hm0, h => by
    simp only [validFrom, Bool.and_eq_true] at h
    have hm := mayB_of h.1.1
    have ih := sumLen_card r _ (by omega) h.2
    have e : memS (s :: r) = fun k => inSeg s k || memS r k := by
      funext k
      rw [show s :: r = [s] ++ r from rfl, memS_append, memS_one]
    rw [sumLen, ih, e, cardB_or _ _ (fun k hk => by
      cases hx : memS r k
      · rfl
      · have := (valid_ge h.2 hx).1
        simp [inSeg] at hk; omega)]
    have h3 := cardB_seg s.1 s.2 (by omega) (by omega) 64
    have h4 : cardB (inSeg s) 64 = s.2 := by
      rw [show s = (s.1, s.2) from rfl]
      by_cases c : s.1 + s.2 = 64
      · rw [h3.2.1 (by omega) (by omega)]; omega
      · exact h3.2.2 (by omega) (by omega)
    rw [h4]

theorem memI_append (a b : List Int) (k : Nat) : memI (a ++ b) k = (memI a k || memI b k) := by simp [memI]
theorem memI_ups (x : Int) (n : Nat) (k : Nat) : memI (ups x n) k = inSeg (x, n) k := by
  rw [Bool.eq_iff_iff]
  simp only [memI, ups, List.any_eq_true, List.mem_map, List.mem_range, decide_eq_true_eq, inSeg]
  constructor
  · rintro ⟨z, ⟨i, hi, rfl⟩, hz⟩; omega
  · intro h
    exact ⟨(k : Int), ⟨(k - x).toNat, by omega, by omega⟩, rfl⟩
theorem memI_listOf : ∀ (l : List (Int × Int)) (m : Int), validFrom m l = true → ∀ k, memI (listOf l) k = memS l k
  | [], _, _, _ => rfl
  | s :: r, m, h, k => by
    simp only [validFrom, Bool.and_eq_true] at h
    have hm := mayB_of h.1.1
    rw [listOf, memI_append, memI_ups, memI_listOf r _ h.2 k, show s :: r = [s] ++ r from rfl, memS_append, memS_one]
    congr 1
    simp only [inSeg, decide_eq_decide]
    omega
theorem allIn_listOf : ∀ (l : List (Int × Int)) (m : Int), validFrom m l = true → allIn (listOf l) = true
  | [], _, _ => rfl
  | s :: r, m, h => by
    simp only [validFrom, Bool.and_eq_true] at h
    have hm := mayB_of h.1.1
    have ih := allIn_listOf r _ h.2
    simp only [allIn, listOf, List.all_append, Bool.and_eq_true] at ih ⊢
    refine ⟨?_, ih⟩
    simp only [ups, List.all_eq_true, List.mem_map, List.mem_range]
    rintro z ⟨i, hi, rfl⟩
    simp [mayB]; omega

end Go.Proofs.Ytheomnafmjmpdaa

/- The law SegParts walked. -/
namespace Go.Proofs.Ytheomnafmjmpdaa
open Go.RowKit

theorem memAny_two (r1 r2 : RowV) (k : Nat) : memAny [r1, r2] k = (memS r1.2.2 k || memS r2.2.2 k) := by simp [memAny]
theorem allOk_two (r1 r2 : RowV) : allOk [r1, r2] = (vOk r1.2.2 && vOk r2.2.2) := by simp [allOk, vOk]

/-- what SegParts asks of two valid lists -/
theorem parts_math {l m : List (Int × Int)} (hl : vOk l = true) (hm : vOk m = true) :
    twoOk l m = true ∧ vOk (lessOf l m) = true ∧ vOk (bothOf l m) = true ∧
    (∀ a b c d, jset [(a, c, bothOf l m), (b, d, lessOf l m)] = l) ∧ bothOf (lessOf l m) m = [] ∧ allIn (listOf l) = true ∧ ofSet (listOf l) = l ∧
    cntOf (lessOf l m) + cntOf (bothOf l m) = ((listOf l).length : Int) := by
  have h2 : twoOk l m = true := by simp [twoOk, hl, hm]
  have e1 : lessOf l m = segsOf (fun k => memS l k && !memS m k) := by rw [lessOf, h2]; rfl
  have e2 : bothOf l m = segsOf (fun k => memS l k && memS m k) := by rw [bothOf, h2]; rfl
  have v1 : vOk (lessOf l m) = true := by rw [e1]; exact (segsOf_ok _).1
  have v2 : vOk (bothOf l m) = true := by rw [e2]; exact (segsOf_ok _).1
  have m1 : ∀ k, k < 64 → memS (lessOf l m) k = (memS l k && !memS m k) := fun k hk => by rw [e1, (segsOf_ok _).2 k]; simp [hk]
  have m2 : ∀ k, k < 64 → memS (bothOf l m) k = (memS l k && memS m k) := fun k hk => by rw [e2, (segsOf_ok _).2 k]; simp [hk]
  refine ⟨h2, v1, v2, fun a b c d => ?_, ?_, allIn_listOf l 0 hl, ?_, ?_⟩
  · rw [jset, allOk_two]
    simp only [v1, v2, Bool.and_self, if_true]
    refine segsOf_self hl (fun k hk => ?_)
    rw [memAny_two, m1 k hk, m2 k hk]
    cases memS l k <;> cases memS m k <;> rfl
  · have h3 : twoOk (lessOf l m) m = true := by simp [twoOk, v1, hm]
    rw [bothOf, h3]
    refine segsOf_none (fun k hk => ?_)
    rw [m1 k hk]
    cases memS l k <;> cases memS m k <;> rfl
  · rw [ofSet, allIn_listOf l 0 hl]
    exact segsOf_self hl (fun k _ => memI_listOf l 0 hl k)
  · rw [cntOf, cntOf, v1, v2, listOf_len l 0 hl]
    simp only [if_true]
    rw [sumLen_card _ 0 (Int.le_refl 0) v1, sumLen_card _ 0 (Int.le_refl 0) v2, sumLen_card _ 0 (Int.le_refl 0) hl, cardB_congr 64 m1, cardB_congr 64 m2]
    exact cardB_split _ _ 64

structure PM (l m X Y : List (Int × Int)) (S : List Int) : Prop where
  two : twoOk l m = true
  vx : vOk X = true
  vy : vOk Y = true
  join : ∀ a b c d, jset [(a, c, Y), (b, d, X)] = l
  both : bothOf X m = []
  allin : allIn S = true
  of : ofSet S = l
  cnt : cntOf X + cntOf Y = (S.length : Int)

theorem pm_of {l m : List (Int × Int)} (hl : vOk l = true) (hm : vOk m = true) : PM l m (lessOf l m) (bothOf l m) (listOf l) := by
  obtain ⟨h1, h2, h3, h4, h5, h6, h7, h8⟩ := parts_math hl hm
  exact ⟨h1, h2, h3, h4, h5, h6, h7, h8⟩

theorem cnt_bd {X : List (Int × Int)} (h : vOk X = true) : 0 ≤ cntOf X ∧ cntOf X ≤ 64 := by
  have := sumLen_bd X 0 X.length h
  rw [List.take_length] at this
  rw [cntOf, h]
  simp only [if_true]
  omega

theorem wrap_small {x : Int} (h0 : 0 ≤ x) (h1 : x ≤ 1000000000000000000) : IntKind.i64.wrap x = x := by
  rw [IntKind.wrap_i64]
  omega

theorem len_of_own {w : World} {base : Nat} {v : Value} {l : List (Int × Int)} (h : OwnSegs w base v l) : l.length ≤ maxLen := by
  rcases h.2 with ⟨_, hn⟩ | ⟨g, cap, cur, _, _, _, hn, hm, _⟩
  · rw [hn]; exact Nat.zero_le _
  · omega

end Go.Proofs.Ytheomnafmjmpdaa

/- hermitageref1.Segs by its contract. -/
namespace Go.Proofs.Ytheomnafmjmpdaa
open Go.RowKit

theorem wrap_any {x : Int} (h0 : -1000000000000000000 ≤ x) (h1 : x ≤ 1000000000000000000) : IntKind.i64.wrap x = x := by
  rw [IntKind.wrap_i64]
  omega

/-- what the reference has seen ahead of round k: the lower end that the next segment must keep -/
def ahead (l : List (Int × Int)) (k : Nat) : Int := if k = 0 then 0 else (l.getD (k - 1) (0, 0)).1 + (l.getD (k - 1) (0, 0)).2 + 1

theorem vf_step {l : List (Int × Int)} {k : Nat} (hk : k < l.length) (hv : vOk l = validFrom (ahead l k) (l.drop k)) :
    vOk l = (mayB (l.getD k (0, 0)).1 (l.getD k (0, 0)).2 && !decide ((l.getD k (0, 0)).1 < ahead l k) && validFrom (ahead l (k + 1)) (l.drop (k + 1))) := by
  rw [hv, drop_getD hk]
  simp only [validFrom, ahead]
  simp

set_option maxRecDepth 100000 in
set_option maxHeartbeats 4000000 in
theorem refSegs_any (a : Option Addr) (l : List (Int × Int)) (cap : Nat) (w : World) (hs : SegsAt w a l) (hl : l.length ≤ 140737488351232) :
    Calls Try.prog 17 #[.slice a l.length cap] w fun e w' => e = .returned (.bool (vOk l)) ∧ Below w.heap.size w w' := by
  have HS : Hid (SegsAt w a l) := hs
  clear hs
  go_enter Try.func17, Try.ntmps17
  go_wp2_with fail
  go_loopw [3] (fun i wr => ∃ (k : Nat), k ≤ l.length ∧ i = .int .i64 k ∧ Below w.heap.size w wr ∧ Hid (vOk l = validFrom (ahead l k) (l.drop k)) ∧ Hid (∀ j, j < k → mayB (l.getD j (0, 0)).1 (l.getD j (0, 0)).2 = true))
    (fun i _ => l.length - (intOf i).toNat)
  case atStart => exact ⟨0, by omega, rfl, nwR w, rfl, fun j hj => by omega⟩
  case round =>
    obtain ⟨k, hk, rfl, hb, HV, HM⟩ := hrel
    by_cases hlt : k < l.length
    · have hki : (k : Int) < (l.length : Int) := by omega
      have hk0 : (0 : Int) ≤ (k : Int) := by omega
      have HST : Hid _ := vf_step hlt HV.out
      have HSS := HS.out.below hb (Nat.le_refl _)
      have HSS' : Hid (SegsAt wr a l) := HSS
      clear HSS
      obtain ⟨b, off, rfl, h1, h2⟩ := HSS'.out k hlt
      have HMK : Hid (mayB (l.getD k (0, 0)).1 (l.getD k (0, 0)).2 = true → ∀ j, j < k + 1 → mayB (l.getD j (0, 0)).1 (l.getD j (0, 0)).2 = true) := fun h j hj => by
        by_cases e : j = k
        · subst e; exact h
        · exact HM.out j (by omega)
      have HX : Hid (l.getD k (0, 0) = l.getD k (0, 0)) := rfl
      generalize hs : l.getD k (0, 0) = s at h1 h2 HST HMK
      clear hs HX
      obtain ⟨x, y⟩ := s
      simp only at h1 h2 HST HMK
      by_cases c1 : x < 0
      · have HF : Hid (vOk l = false) := by
          show _ = _
          rw [HST.out, show mayB x y = false from by simp [mayB]; omega]; rfl
        have d1 : decide (x < 0) = true := decide_eq_true c1
        go_wp2_with fail
        go_quiet (fail)
        go_wp2_with fail
        go_ret
        exact ⟨by rw [HF.out]; rfl, below_drewN hb _⟩
      · have d1 : decide (x < 0) = false := decide_eq_false c1
        by_cases c2 : y < 1
        · have HF : Hid (vOk l = false) := by
            show _ = _
            rw [HST.out, show mayB x y = false from by simp [mayB]; omega]; rfl
          have d2 : decide (y < 1) = true := decide_eq_true c2
          go_wp2_with fail
          go_quiet (fail)
          go_wp2_with fail
          go_ret
          exact ⟨by rw [HF.out]; rfl, below_drewN hb _⟩
        · have d2 : decide (y < 1) = false := decide_eq_false c2
          have hw4 : 0 ≤ x → x ≤ 64 → IntKind.i64.wrap (64 - x) = 64 - x := fun _ _ => wrap_any (by omega) (by omega)
          by_cases c3 : 64 < x
          · have HF : Hid (vOk l = false) := by
              show _ = _
              rw [HST.out, show mayB x y = false from by simp [mayB]; omega]; rfl
            have d3 : decide (64 < x) = true := decide_eq_true c3
            clear hw4
            go_wp2_with fail
            go_quiet (fail)
            go_wp2_with fail
            go_ret
            exact ⟨by rw [HF.out]; rfl, below_drewN hb _⟩
          · have d3 : decide (64 < x) = false := decide_eq_false c3
            have hw : IntKind.i64.wrap (64 - x) = 64 - x := hw4 (by omega) (by omega)
            clear hw4
            by_cases c4 : 64 - x < y
            · have HF : Hid (vOk l = false) := by
                show _ = _
                rw [HST.out, show mayB x y = false from by simp [mayB]; omega]; rfl
              have d4 : decide (64 - x < y) = true := decide_eq_true c4
              go_wp2_with fail
              go_quiet (fail)
              go_wp2_with fail
              go_ret
              exact ⟨by rw [HF.out]; rfl, below_drewN hb _⟩
            · have d4 : decide (64 - x < y) = false := decide_eq_false c4
              have HMY : Hid (mayB x y = true) := by show _ = _; simp [mayB]; omega
              by_cases c5 : k = 0
              · have d5 : decide (0 < k) = false := decide_eq_false (by omega)
                have HV2 : Hid (vOk l = validFrom (ahead l (k + 1)) (l.drop (k + 1))) := by
                  show _ = _
                  rw [HST.out, HMY.out, show ahead l k = 0 from by rw [ahead, if_pos c5], decide_eq_false c1]
                  simp
                clear HST c5
                go_wp2_with fail
                go_quiet (fail)
                go_wp2_with fail
                go_roundw
                case rel => exact ⟨k + 1, by omega, by go_num, below_drewN hb _, HV2, HMK.out HMY.out⟩
                case measure => simp [intOf]; omega
              · have d5 : decide (0 < k) = true := decide_eq_true (by omega)
                have d5' : 0 < k := by omega
                have HMP := mayB_of (HM.out (k - 1) (by omega))
                obtain ⟨b', off', hbo, h3, h4⟩ := HSS'.out (k - 1) (by omega)
                simp only [Option.some.injEq, Addr.mk.injEq, and_true] at hbo
                obtain ⟨rfl, rfl⟩ := hbo
                have HAH : Hid (ahead l k = (l.getD (k - 1) (0, 0)).1 + (l.getD (k - 1) (0, 0)).2 + 1) := by show _ = _; rw [ahead, if_neg c5]
                generalize l.getD (k - 1) (0, 0) = pq at h3 h4 HAH HMP
                obtain ⟨px, py⟩ := pq
                simp only at h3 h4 HAH HMP
                have hw1 : IntKind.i64.wrap ((k : Int) - 1) = ((k - 1 : Nat) : Int) := by rw [wrap_any (by omega) (by omega)]; omega
                have hj1 : ((k - 1 : Nat) : Int) < (l.length : Int) := by omega
                generalize k - 1 = j at h3 h4 hw1 hj1
                have hw2 : IntKind.i64.wrap (px + py) = px + py := wrap_any (by omega) (by omega)
                clear c5
                by_cases c6 : x ≤ px + py
                · have HF : Hid (vOk l = false) := by
                    show _ = _
                    rw [HST.out, HAH.out, decide_eq_true (show x < px + py + 1 by omega)]; simp
                  have d6 : decide (x ≤ px + py) = true := decide_eq_true c6
                  clear HST HAH
                  go_wp2_with fail
                  go_quiet (fail)
                  go_wp2_with fail
                  go_ret
                  exact ⟨by rw [HF.out]; rfl, below_drewN hb _⟩
                · have HV2 : Hid (vOk l = validFrom (ahead l (k + 1)) (l.drop (k + 1))) := by
                    show _ = _
                    rw [HST.out, HMY.out, HAH.out, decide_eq_false (show ¬ x < px + py + 1 by omega)]
                    simp
                  have d6 : decide (x ≤ px + py) = false := decide_eq_false c6
                  clear HST HAH
                  go_wp2_with fail
                  go_quiet (fail)
                  go_wp2_with fail
                  go_roundw
                  case rel => exact ⟨k + 1, by omega, by go_num, below_drewN hb _, HV2, HMK.out HMY.out⟩
                  case measure => simp [intOf]; omega
    · have HF : Hid (vOk l = true) := by
        show _ = _
        rw [HV.out, List.drop_of_length_le (by omega)]; rfl
      go_wp2_with fail
      go_ret
      exact ⟨by rw [HF.out]; rfl, hb⟩

end Go.Proofs.Ytheomnafmjmpdaa

/- The reference's arrays of 64 bools by value; CopySegs; the spoiling of an answer. -/
namespace Go.Proofs.Ytheomnafmjmpdaa
open Go.RowKit

def SetJ (w : World) (g : Nat) (s : Nat → Bool) : Prop := w.rowIs g 110 64 (setRow s)

theorem SetJ.row {w : World} {g : Nat} {s : Nat → Bool} (h : SetJ w g s) : w.heap[g]? = some (.cells (setArr s) 110 (0, 0)) := by
  obtain ⟨c, hb, hn, hc⟩ := h
  have e : c = setArr s := by
    apply Array.ext_getElem?
    intro i
    by_cases hi : i < 64
    · rw [hc i hi, setArr_get s i hi]; rfl
    · rw [Array.getElem?_eq_none (by omega), Array.getElem?_eq_none (by rw [setArr_size]; omega)]
  rw [hb, e]
theorem SetJ.of {w : World} {g : Nat} {s : Nat → Bool} (h : w.heap[g]? = some (.cells (setArr s) 110 (0, 0))) : SetJ w g s :=
  ⟨_, h, setArr_size s, fun i hi => setArr_get s i hi⟩
theorem SetJ.below {w w' : World} {g : Nat} {s : Nat → Bool} (h : SetJ w g s) (hb : Below w.heap.size w w') : SetJ w' g s := h.of_block (hb.block g h.lt)
theorem SetJ.setRow {w : World} {g : Nat} {s0 s : Nat → Bool} (h : SetJ w g s0) : SetJ (w.setRow g (setArr s)) g s := SetJ.of (setRow_heap w g _ _ 110 _ h.row)
theorem SetJ.rowApart {w : World} {g b : Nat} {s s' : Nat → Bool} (h : SetJ w g s) (hn : g ≠ b) : SetJ (w.setRow b (setArr s')) g s := h.of_block (Go.setRow_other w b g _ hn)
theorem SetJ.grown {w w' : World} {g b : Nat} {s : Nat → Bool} (h : SetJ w g s) (hg : w.grownBy w' (some b)) (hn : g ≠ b) : SetJ w' g s := h.of_block (hg.block g h.lt (fun e => hn (Option.some.inj e)))
theorem SetJ.new (w : World) (s : Nat → Bool) : SetJ (w.alloc (.cells (setArr s) 110)) w.heap.size s := SetJ.of (heap_alloc_new _ _)

theorem Try.size50 : (Try.prog.info? 110).map (·.size) = some 64 := by kernel_rfl

section
variable {ops : Array Oper} {rest : List Oper} {o : Oper} {a : Act} {w : World} {Q : Exit → Act → World → Prop}

theorem wpList_alloc50 (hgd : o.guard = none) (ho : o.op = .alloc 110)
    (h : wpList Try.prog ops Q rest (a.put o.dst (.pointer (some ⟨w.heap.size, 0, none⟩))) (w.alloc (.cells (setArr fun _ => false) 110))) : wpList Try.prog ops Q (o :: rest) a w := by
  refine wpList_plain hgd fun K hK => ?_
  unfold Oper.wp
  simp [execOp, ho, Instr.alloc, Sem.run_bind, newVar, Value.cells]
  exact hK _ _ h

theorem wpList_store50 (hgd : o.guard = none) (x y : Operand) (ho : o.op = .store 110 x y) (g : Nat) (s s0 : Nat → Bool) (hx : a.eval x = .pointer (some ⟨g, 0, none⟩)) (hy : a.eval y = .agg (setArr s))
    (hg : SetJ w g s0) (h : wpList Try.prog ops Q rest (a.put o.dst undef) (w.setRow g (setArr s))) : wpList Try.prog ops Q (o :: rest) a w := by
  refine wpList_plain hgd fun K hK => ?_
  have hr := run_storeVar_row (P := Try.prog) w g 110 110 _ (setArr s) hg.row (by rw [setArr_size]; exact Try.size50) (by rw [setArr_size, setArr_size]) (setArr_one s)
  unfold Oper.wp execOp
  simp only [ho, hx, hy, Instr.storeAt, Instr.sureAddr, Sem.run_bind, Sem.run_pure, Result.andThen_ok, hr]
  exact hK _ _ h

theorem wpList_load50 (hgd : o.guard = none) (x : Operand) (ho : o.op = .load 110 x) (g : Nat) (s : Nat → Bool) (hx : a.eval x = .pointer (some ⟨g, 0, none⟩))
    (hg : SetJ w g s) (h : wpList Try.prog ops Q rest (a.put o.dst (.agg (setArr s))) w) : wpList Try.prog ops Q (o :: rest) a w :=
  wpList_load_row hgd 110 x ho g hx 110 (setArr s) (0, 0) _ hg.row Try.underlying110 rfl (by rw [setArr_size]; exact Try.size50) h

theorem stop_store50 {x y : Operand} (_ : o.op = .store 110 x y) (h : Stop (wpList Try.prog ops Q (o :: rest) a w)) : wpList Try.prog ops Q (o :: rest) a w := h
theorem stop_load50 {x : Operand} (_ : o.op = .load 110 x) (h : Stop (wpList Try.prog ops Q (o :: rest) a w)) : wpList Try.prog ops Q (o :: rest) a w := h
end

theorem results_setj {fn : Func} {p : Tmp} (h : fn.results = #[.cell p 110]) (tmps : Array Value) (w : World) (g : Nat) (s : Nat → Bool)
    (hp : tmps.getD p undef = .pointer (some ⟨g, 0, none⟩)) (hg : SetJ w g s) : (results fn tmps).run Try.prog w = .ok (.agg (setArr s)) w :=
  results_cell_row h tmps w g 110 (setArr s) (0, 0) _ hp hg.row Try.underlying110 rfl (by rw [setArr_size]; exact Try.size50)

theorem OwnSegs.snoc {w : World} {base : Nat} {v : Value} {l : List (Int × Int)} {x y : Int} (h : w.ownsRow base 67 2 v (l.length + 1) (flat l ++ [.int .i64 x, .int .i64 y])) : OwnSegs w base v (l ++ [(x, y)]) := by
  unfold OwnSegs
  have e : (l ++ [(x, y)]).length = l.length + 1 := by simp
  rw [e, flat_snoc]
  exact h

theorem cell_two' (w : World) (x y : Value) (t : TypeId) : ∀ j u, [x, y][j]? = some u → (w.alloc (.cells #[x, y] t)).cell? ((⟨w.heap.size, 0, none⟩ : Addr).add j) = some u := by
  intro j u hu
  match j, hu with
  | 0, hu => simp at hu; subst hu; simp [Addr.add]
  | 1, hu => simp at hu; subst hu; simp [Addr.add]

set_option maxRecDepth 100000 in
set_option maxHeartbeats 400000 in
theorem copySegs_any (a : Option Addr) (l : List (Int × Int)) (cap : Nat) (w : World) (hs : SegsAt w a l) (hl : l.length ≤ 1000) :
    Calls Try.prog 46 #[.slice a l.length cap] w fun e w' => ∃ v, e = .returned v ∧ OwnSegs w' w.heap.size v l ∧ Below w.heap.size w w' := by
  obtain ⟨i0, hi, hz0, hz1, hz2⟩ := info_parts Try.info67
  have HS : Hid (SegsAt w a l) := hs
  clear hs
  go_enter Try.func46, Try.ntmps46
  go_wp2_with fail
  go_loopw [3, 4] (fun v i wr => ∃ (k : Nat), k ≤ l.length ∧ i = .int .i64 k ∧ OwnSegs wr w.heap.size v (l.take k) ∧ Below w.heap.size w wr)
    (fun _ i _ => l.length - (intOf i).toNat)
  case atStart => exact ⟨0, by omega, rfl, World.ownsRow_nil _ _ _ _, nwR w⟩
  case round =>
    obtain ⟨k, hk, rfl, hO, hb⟩ := hrel
    have HO : Hid (OwnSegs wr w.heap.size u3 (l.take k)) := hO
    clear hO
    by_cases hlt : k < l.length
    · obtain ⟨b, off, rfl, h1, h2⟩ := (HS.out.below hb (Nat.le_refl _)) k hlt
      have HT : Hid (l.take (k + 1) = l.take k ++ [l.getD k (0, 0)]) := take_snocD l (0, 0) k hlt
      have HL : Hid ((l.take k).length ≤ 1000) := by show _ ≤ 1000; rw [List.length_take]; omega
      generalize l.getD k (0, 0) = s at h1 h2 HT
      obtain ⟨x, y⟩ := s
      simp only at h1 h2
      generalize l.take k = L at HO HT HL
      have hsz : w.heap.size ≤ (wr.alloc (.cells #[.int .i64 x, .int .i64 y] 67)).heap.size := (nwA hb _).size
      have hc3 : L.length + 1 ≤ maxLen := by unfold maxLen; have := HL.out; omega
      have hc4 : (L.length + 1) * 16 ≤ 140737488355328 := by have := HL.out; omega
      go_wp2_with (at_builtin; refine wpList_append_own _ rfl (.tmp 11) (.tmp 16) 49 rfl w.heap.size 67 i0 (.agg #[.int .i64 0, .int .i64 0]) 2 16 Try.underlying49 hi hz0 hz1 hz2 rfl (by decide) u3 L.length (flat L) rfl (World.ownsRow.alloc HO.out _) ⟨wr.heap.size, 0, none⟩ 1 1 [.int .i64 x, .int .i64 y] rfl rfl (cell_two' _ _ _ _) (by simp [Value.oneCell']) hc3 hc4 hsz ?_; intro v' w3 hown hgrow _)
      have HB3 : Hid (Below w.heap.size w w3) := (nwA hb _).grown hgrow (nwA hb _).size (fun q e => (HO.out.lt q e).1)
      have HO3 : Hid (OwnSegs w3 w.heap.size v' (l.take (k + 1))) := by rw [HT.out]; exact OwnSegs.snoc hown
      clear hown hgrow
      go_roundw
      case rel => exact ⟨k + 1, by omega, by go_num, HO3.out, HB3.out⟩
      case measure => simp [intOf]; omega
    · have hk' : k = l.length := by omega
      subst hk'
      rw [List.take_length] at HO
      go_wp2_with fail
      go_ret
      exact ⟨_, rfl, HO.out, hb⟩

set_option maxRecDepth 100000 in
set_option maxHeartbeats 400000 in
theorem spoil_any (base : Nat) (v : Value) (l : List (Int × Int)) (w : World) (ho : OwnSegs w base v l) (hl : l.length ≤ maxLen) :
    Calls Try.prog 55 #[v] w fun e w' => e = .returned (.tuple #[]) ∧ w.grownBy w' v.ownBlock := by
  have ho2 := ho
  unfold maxLen at hl
  rcases ho.2 with ⟨rfl, hn⟩ | ⟨g, cap, cur, rfl, hbg, _, _⟩
  · go_enter Try.func55, Try.ntmps55
    go_wp2_with fail
    go_loopw [2] (fun i wr => i = .int .i64 0 ∧ wr = w) (fun _ _ => 0)
    case atStart => exact ⟨rfl, rfl⟩
    case round =>
      obtain ⟨rfl, rfl⟩ := hrel
      go_wp2_with fail
      go_end0
      exact ⟨rfl, gbRefl _ _⟩
  · have HO : Hid (OwnSegs w base (.slice (some ⟨g, 0, none⟩) l.length cap) l) := ho2
    clear ho ho2
    show Calls _ _ _ _ fun e w' => e = .returned (.tuple #[]) ∧ w.grownBy w' (some g)
    go_enter Try.func55, Try.ntmps55
    go_wp2_with fail
    go_loopw [2] (fun i wr => ∃ (k : Nat), k ≤ l.length ∧ i = .int .i64 k ∧ (∃ xs, wr.ownsRow base 67 2 (.slice (some ⟨g, 0, none⟩) l.length cap) l.length xs) ∧ w.grownBy wr (some g))
      (fun i _ => l.length - (intOf i).toNat)
    case atStart => exact ⟨0, by omega, rfl, ⟨_, HO.out⟩, gbRefl _ _⟩
    case round =>
      obtain ⟨k, hk, rfl, ⟨xs, hx⟩, hbq⟩ := hrel
      by_cases hlt : k < l.length
      · have hxl : xs.length = l.length * 2 := hx.1
        have q0 := hx.cellAt (k * 2) (by omega)
        have q1 := hx.cellAt (k * 2 + 1) (by omega)
        have f0 := hx.frozenAt (k * 2)
        have f1 := hx.frozenAt (k * 2 + 1)
        obtain ⟨z0, hz0⟩ : ∃ z, xs[k * 2]? = some z := ⟨_, List.getElem?_eq_getElem (by omega)⟩
        obtain ⟨z1, hz1⟩ : ∃ z, xs[k * 2 + 1]? = some z := ⟨_, List.getElem?_eq_getElem (by omega)⟩
        rw [hz0] at q0
        rw [hz1] at q1
        have HX : Hid (wr.ownsRow base 67 2 (.slice (some ⟨g, 0, none⟩) l.length cap) l.length xs) := hx
        clear hx hz0 hz1 hxl
        have S1 := HX.out.stored (k * 2) (.int .i64 (-9))
        have S2 := S1.1.stored (k * 2 + 1) (.int .i64 0)
        have HS : Hid (∃ ys, ((wr.setCell ⟨g, k * 2, none⟩ (.int .i64 (-9))).setCell ⟨g, k * 2 + 1, none⟩ (.int .i64 0)).ownsRow base 67 2 (.slice (some ⟨g, 0, none⟩) l.length cap) l.length ys) := ⟨_, S2.1⟩
        have HB : Hid (w.grownBy ((wr.setCell ⟨g, k * 2, none⟩ (.int .i64 (-9))).setCell ⟨g, k * 2 + 1, none⟩ (.int .i64 0)) (some g)) := gbTrans (gbTrans hbq S1.2) S2.2
        clear S1 S2
        go_wp2_with fail
        go_roundw
        case rel => exact ⟨k + 1, by omega, by go_num, HS.out, HB.out⟩
        case measure => simp [intOf]; omega
      · go_wp2_with fail
        go_end0
        exact ⟨rfl, hbq⟩

theorem OwnSegs.grown {w w' : World} {base : Nat} {v u : Value} {l : List (Int × Int)} (h : OwnSegs w base v l) (hg : w.grownBy w' u.ownBlock) (hu : ∀ k, u.ownBlock = some k → k < base) : OwnSegs w' base v l := by
  refine World.ownsRow.kept h hg ?_
  cases hv : v.ownBlock with
  | none => exact Or.inl rfl
  | some g =>
    right
    intro e
    have h1 := (h.lt g hv).1
    have h2 := hu g e.symm
    omega

end Go.Proofs.Ytheomnafmjmpdaa

/- hermitageref1.Set by its contract. -/
namespace Go.Proofs.Ytheomnafmjmpdaa
open Go.RowKit

structure GJ (w wr : World) (s : Nat → Bool) : Prop where
  acc : SetJ wr (w.heap.size + 1) s
  res : SetJ wr w.heap.size (fun _ => false)
  nw : Below w.heap.size w wr

theorem GJ.start (w : World) (s : Nat → Bool) (hs : ∀ k, s k = false) : GJ w ((w.alloc (.cells (setArr fun _ => false) 110)).alloc (.cells (setArr fun _ => false) 110)) s := by
  have e : s = fun _ => false := funext hs
  subst e
  refine ⟨?_, (SetJ.new w _).alloc _, nwA (nwA (nwR w) _) _⟩
  have h := SetJ.new (w.alloc (.cells (setArr fun _ => false) 110)) (fun _ => false)
  have e : (w.alloc (.cells (setArr fun _ => false) 110)).heap.size = w.heap.size + 1 := by simp
  rw [e] at h
  exact h
theorem GJ.drewN {w wr : World} {s : Nat → Bool} (h : GJ w wr s) (n : Nat) : GJ w (wr.drewN n) s := ⟨h.acc, h.res, below_drewN h.nw n⟩
theorem GJ.congr {w wr : World} {s s' : Nat → Bool} (h : GJ w wr s) (e : ∀ k, s k = s' k) : GJ w wr s' := by
  have : s = s' := funext e
  rwa [← this]
theorem GJ.set {w wr : World} {s : Nat → Bool} {x : Int} {q : Nat} (h : GJ w wr fun j => s j || decide (x ≤ j ∧ (j : Int) < q)) (hx : x ≤ q) :
    GJ w (wr.setCell ⟨w.heap.size + 1, q, none⟩ (.bool true)) (fun j => s j || decide (x ≤ j ∧ (j : Int) < (q + 1 : Nat))) := by
  refine ⟨?_, World.rowIs.setOther h.res (by show w.heap.size ≠ w.heap.size + 1; omega) _, h.nw.setCell (p := ⟨w.heap.size + 1, q, none⟩) (by show w.heap.size ≤ w.heap.size + 1; omega) _⟩
  refine (World.rowIs.set h.acc q (.bool true)).congr fun j _ => ?_
  simp only [Ytheomnafmjmpdaa.setRow]
  by_cases e : j = q
  · subst e; simp [hx]; omega
  · rw [if_neg e]
    congr 2
    simp only [decide_eq_decide]
    omega

set_option maxRecDepth 100000 in
set_option maxHeartbeats 1000000 in
theorem refSet_any (a : Option Addr) (l : List (Int × Int)) (cap : Nat) (w : World) (hs : SegsAt w a l) (hl : l.length ≤ 1000) (hv : vOk l = true) :
    Calls Try.prog 74 #[.slice a l.length cap] w fun e w' => e = .returned (.agg (setArr (memS l))) ∧ Below w.heap.size w w' := by
  have HS : Hid (SegsAt w a l) := hs
  clear hs
  go_enter Try.func74, Try.ntmps74
  go_wp2_with (with_reducible refine wpList_alloc50 rfl rfl ?_)
  go_loopw [4] (fun i wr => ∃ (n : Nat), n ≤ l.length ∧ i = .int .i64 n ∧ GJ w wr (memS (l.take n)))
    (fun i _ => l.length - (intOf i).toNat)
  case atStart => exact ⟨0, by omega, rfl, GJ.start w _ (fun k => by simp [memS])⟩
  case round =>
    obtain ⟨n, hn, rfl, hG⟩ := hrel
    have HG : Hid (GJ w wr (memS (l.take n))) := hG
    clear hG
    by_cases hnl : n < l.length
    · obtain ⟨b, off, rfl, h1, h2⟩ := (HS.out.below HG.out.nw (Nat.le_refl _)) n hnl
      have HSG : Hid (SegsAt w (some ⟨b, off, none⟩) l) := HS.out
      have HX1 : Hid (w.cell? ⟨b, off + n * 2, none⟩ = some (.int .i64 (l.getD n (0, 0)).1) ∧ w.cell? ⟨b, off + n * 2 + 1, none⟩ = some (.int .i64 (l.getD n (0, 0)).2)) := by
        obtain ⟨b', off', hbo, g1, g2⟩ := HSG.out n hnl
        simp only [Option.some.injEq, Addr.mk.injEq, and_true] at hbo
        obtain ⟨rfl, rfl⟩ := hbo
        exact ⟨g1, g2⟩
      have hm := valid_mem hv n hnl
      have HM : Hid (∀ q, memS (l.take (n + 1)) q = (memS (l.take n) q || inSeg (l.getD n (0, 0)) q)) := fun q => memS_take l n q hnl
      have hni : (n : Int) < (l.length : Int) := by omega
      generalize l.getD n (0, 0) = sg at h1 h2 hm HM HX1
      obtain ⟨x, y⟩ := sg
      obtain ⟨m0, m1, m2, m3⟩ := mayB_of hm
      clear hm HSG
      simp only at h1 h2 HX1
      have hwr : IntKind.i64.wrap (x + y) = x + y := wrap_any (by omega) (by omega)
      go_wp2_with fail
      go_loopw [5] (fun j wq => ∃ (q : Nat), x ≤ q ∧ (q : Int) ≤ x + y ∧ j = .int .i64 q ∧ GJ w wq (fun k => memS (l.take n) k || decide (x ≤ k ∧ (k : Int) < q)))
        (fun j _ => (x + y - intOf j).toNat)
      case atStart =>
        obtain ⟨q, rfl⟩ := Int.eq_ofNat_of_zero_le m0
        exact ⟨q, by omega, by omega, rfl, HG.out.congr (fun k => by
          have : decide ((q : Int) ≤ k ∧ (k : Int) < q) = false := by rw [decide_eq_false_iff_not]; omega
          rw [this, Bool.or_false])⟩
      case round =>
        obtain ⟨q, hq0, hq1, rfl, hG2⟩ := hrel
        have HG2 : Hid _ := hG2
        clear h1 h2 hG2
        have h1 : wr.cell? ⟨b, off + n * 2, none⟩ = some (.int .i64 x) := (HG2.out.nw.cell (p := ⟨b, off + n * 2, none⟩) (block_lt_of_cell HX1.out.1)).trans HX1.out.1
        have h2 : wr.cell? ⟨b, off + n * 2 + 1, none⟩ = some (.int .i64 y) := (HG2.out.nw.cell (p := ⟨b, off + n * 2 + 1, none⟩) (block_lt_of_cell HX1.out.2)).trans HX1.out.2
        by_cases hlt : (q : Int) < x + y
        · have d1 : decide ((q : Int) < x + y) = true := decide_eq_true hlt
          have hold := HG2.out.acc.cell (i := q) (by omega)
          have hfr := HG2.out.acc.frozen q
          have hq64 : q < 64 := by omega
          have hgl := HG2.out.acc.lt
          simp only [setRow] at hold
          go_wp2_with fail
          go_quiet (fail)
          go_wp2_with fail
          go_roundw
          case rel => exact ⟨q + 1, by omega, by omega, by go_num, (HG2.out.drewN _).set hq0⟩
          case measure => simp [intOf]; omega
        · have d1 : decide ((q : Int) < x + y) = false := decide_eq_false hlt
          have HG3 : Hid (GJ w wr (memS (l.take (n + 1)))) := HG2.out.congr (fun k => by
            rw [HM.out k, inSeg]
            have : (q : Int) = x + y := by omega
            rw [this])
          go_wp2_with fail
          go_quiet (fail)
          go_wp2_with fail
          go_roundw
          case rel => exact ⟨n + 1, by omega, by go_num, HG3.out.drewN _⟩
          case measure => simp [intOf]; omega
    · have hn' : n = l.length := by omega
      subst hn'
      rw [List.take_length] at HG
      have HC : Hid (SetJ wr (w.heap.size + 1) (memS l)) := HG.out.acc
      have HR : Hid (SetJ wr w.heap.size (fun _ => false)) := HG.out.res
      go_wp2_with (with_reducible refine stop_load50 rfl ?_)
      unfold Stop
      refine wpList_load50 rfl (.tmp 3) rfl (w.heap.size + 1) _ rfl HC.out ?_
      go_wp2_with (with_reducible refine stop_store50 rfl ?_)
      unfold Stop
      refine wpList_store50 rfl (.tmp 2) (.tmp 34) rfl w.heap.size _ _ rfl rfl HR.out ?_
      go_wp2_with fail
      refine bodyPost_ret (results_setj rfl _ _ w.heap.size (memS l) rfl HR.out.setRow) rfl ⟨rfl, ?_⟩
      exact HG.out.nw.grown (gbSetRow _ _ _) HG.out.nw.size (fun k e => by have := Option.some.inj e; omega)

end Go.Proofs.Ytheomnafmjmpdaa

/- hermitageref1.Of by its contract. -/
namespace Go.Proofs.Ytheomnafmjmpdaa
open Go.RowKit

def bf (p : Nat → Bool) (k : Nat) : List (Int × Int) := bfin (bstate p k)

theorem bf_miss {p : Nat → Bool} {k : Nat} (h : p k = false) : bf p (k + 1) = bf p k := by rw [bf, bf, bstate_miss h]

theorem bf_hit {p : Nat → Bool} {k : Nat} (hk : k ≤ 64) (h : p k = true) :
    (bf p k = [] ∧ bf p (k + 1) = [((k : Int), 1)]) ∨
    (∃ (d : List (Int × Int)) (a n : Int), bf p k = d ++ [(a, n)] ∧ 0 ≤ a ∧ 0 < n ∧ a + n ≤ k ∧ d.length ≤ 64 ∧ (((k : Int) = a + n ∧ bf p (k + 1) = d ++ [(a, n + 1)]) ∨ (¬ (k : Int) = a + n ∧ bf p (k + 1) = d ++ [(a, n)] ++ [((k : Int), 1)]))) := by
  have hb := bstate_bd p k
  have hi := bstate_inv p k hk
  unfold bf
  rw [bstate_hit h]
  generalize bstate p k = st at hb hi
  obtain ⟨d, a, n⟩ := st
  simp only at hb hi
  rcases hi with ⟨h1, h2, _⟩ | ⟨h1, _, h3, _⟩
  · subst h1; subst h2
    left
    refine ⟨rfl, ?_⟩
    simp [bstep, bfin]
  · right
    refine ⟨d, a, n, by simp [bfin, h1], by omega, h1, h3, by omega, ?_⟩
    by_cases e : (k : Int) = a + n
    · left
      refine ⟨e, ?_⟩
      have hs : bstep (d, a, n) k = (d, a, n + 1) := by simp only [bstep]; rw [if_pos ⟨h1, e⟩]
      rw [hs, bfin]
      simp only
      rw [if_pos (by omega)]
    · right
      refine ⟨e, ?_⟩
      have hs : bstep (d, a, n) k = (d ++ [(a, n)], (k : Int), 1) := by
        simp only [bstep, bfin]
        rw [if_neg (fun h => e h.2), if_pos h1]
      rw [hs, bfin]
      simp only
      rw [if_pos (by omega)]

theorem bf_len (p : Nat → Bool) (k : Nat) : (bf p k).length ≤ k := by
  have h := bstate_bd p k
  unfold bf bfin
  split
  · simp; omega
  · omega

theorem flat_set_last (d : List (Int × Int)) (a n m : Int) : (flat (d ++ [(a, n)])).set (d.length * 2 + 1) (.int .i64 m) = flat (d ++ [(a, m)]) := by
  have hl : (flat d).length = d.length * 2 := by
    induction d with
    | nil => rfl
    | cons s r ih => simp [flat] at ih ⊢; omega
  rw [flat_snoc, flat_snoc, List.set_append_right _ _ (by omega)]
  rw [show d.length * 2 + 1 - (flat d).length = 1 from by omega]
  rfl

set_option maxRecDepth 100000 in
set_option maxHeartbeats 2000000 in
theorem refOf_any (s : Nat → Bool) (w : World) :
    Calls Try.prog 75 #[.agg (setArr s)] w fun e w' => ∃ v, e = .returned v ∧ OwnSegs w' w.heap.size v (segsOf s) ∧ Below w.heap.size w w' := by
  obtain ⟨i0, hi, hz0, hz1, hz2⟩ := info_parts Try.info67
  go_enter Try.func75, Try.ntmps75
  go_wp2_with fail
  obtain ⟨W0, hW0⟩ : ∃ W0, W0 = w.alloc (.cells (setArr s) 110) := ⟨_, rfl⟩
  have HN0 : Hid (Below w.heap.size w W0) := by rw [hW0]; exact nwA (nwR w) _
  have HJ0 : Hid (SetJ W0 w.heap.size s) := by rw [hW0]; exact SetJ.new w s
  rw [← hW0]
  clear hW0
  have hsz0 : w.heap.size < W0.heap.size := HJ0.out.lt
  go_loopw [3, 4] (fun v i wr => ∃ (k : Nat), k ≤ 64 ∧ i = .int .i64 k ∧ OwnSegs wr W0.heap.size v (bf s k) ∧ Below W0.heap.size W0 wr)
    (fun _ i _ => 64 - (intOf i).toNat)
  case atStart => exact ⟨0, by omega, rfl, World.ownsRow_nil _ _ _ _, nwR W0⟩
  case round =>
    obtain ⟨k, hk, rfl, hO, hb⟩ := hrel
    have HO : Hid (OwnSegs wr W0.heap.size u3 (bf s k)) := hO
    clear hO
    by_cases hlt : k < 64
    · have hlt' : (k : Int) < 64 := by omega
      have c0 := (HJ0.out.below hb).cell hlt
      simp only [setRow] at c0
      cases hs : s k
      · rw [hs] at c0
        have HO2 : Hid (OwnSegs wr W0.heap.size u3 (bf s (k + 1))) := by rw [bf_miss hs]; exact HO.out
        go_wp2_with fail
        go_roundw
        case rel => exact ⟨k + 1, by omega, by go_num, HO2.out, hb⟩
        case measure => simp [intOf]; omega
      · rw [hs] at c0
        have hL := bf_len s k
        rcases bf_hit hk hs with ⟨e1, e2⟩ | ⟨d, a, n, e1, ha, hn, han, hd, hnext⟩
        · have HE : Hid (bf s (k + 1) = [((k : Int), 1)]) := e2
          rw [e1] at HO
          clear e1 e2 hL
          obtain ⟨ao, co, hv, _⟩ := HO.out.at
          subst hv
          have d1 : decide ((0 : Int) < ((0 : Nat) : Int)) = false := rfl
          have hc3 : 0 + 1 ≤ maxLen := by unfold maxLen; omega
          have hc4 : (0 + 1) * 16 ≤ 140737488355328 := by omega
          go_wp2_with fail
          go_quiet (fail)
          have hb2 : Below W0.heap.size W0 (wr.drewN nq) := below_drewN hb nq
          have HO2 : Hid (OwnSegs (wr.drewN nq) W0.heap.size (.slice ao 0 co) []) := HO.out
          generalize wr.drewN nq = w2 at hb2 HO2 ⊢
          clear hb HO c0
          have hsz : W0.heap.size ≤ (w2.alloc (.cells #[.int .i64 k, .int .i64 1] 67)).heap.size := (nwA hb2 _).size
          go_wp2_with (at_builtin; refine wpList_append_own _ rfl (.tmp 45) (.tmp 48) 49 rfl W0.heap.size 67 i0 (.agg #[.int .i64 0, .int .i64 0]) 2 16 Try.underlying49 hi hz0 hz1 hz2 rfl (by decide) (.slice ao 0 co) 0 (flat []) rfl (World.ownsRow.alloc HO2.out _) ⟨w2.heap.size, 0, none⟩ 1 1 [.int .i64 k, .int .i64 1] rfl rfl (cell_two' _ _ _ _) (by simp [Value.oneCell']) hc3 hc4 hsz ?_; intro v' w3 hown hgrow _)
          have HB3 : Hid (Below W0.heap.size W0 w3) := (nwA hb2 _).grown hgrow (nwA hb2 _).size (fun q e => (HO2.out.lt q e).1)
          have HO3 : Hid (OwnSegs w3 W0.heap.size v' (bf s (k + 1))) := by rw [HE.out]; exact OwnSegs.snoc (l := []) hown
          clear hown hgrow
          go_roundw
          case rel => exact ⟨k + 1, by omega, by go_num, HO3.out, HB3.out⟩
          case measure => simp [intOf]; omega
        · rw [e1] at HO
          have hdl : (d ++ [(a, n)]).length = d.length + 1 := by simp
          rcases HO.out.2 with ⟨_, h0⟩ | ⟨g2, co, cur, hv, hg2, _, _⟩
          · omega
          · rw [hdl] at hv
            subst hv
            have HOC : Hid (OwnSegs wr W0.heap.size (.slice (some ⟨g2, 0, none⟩) (d.length + 1) co) (d ++ [(a, n)])) := HO.out
            obtain ⟨ax, cx, hax, hsx⟩ := HO.out.at
            obtain ⟨b9, o9, hb9, z1, z2⟩ := hsx d.length (by omega)
            simp only [Value.slice.injEq] at hax
            rw [← hax.1] at hb9
            simp only [Option.some.injEq, Addr.mk.injEq, and_true] at hb9
            obtain ⟨rfl, rfl⟩ := hb9
            have hgd : (d ++ [(a, n)]).getD d.length (0, 0) = (a, n) := by simp
            rw [hgd] at z1 z2
            simp only [Nat.zero_add] at z1 z2
            clear hgd hsx hax HO e1 hL
            obtain ⟨M, hM⟩ : ∃ M, M = d.length := ⟨_, rfl⟩
            rw [← hM] at z1 z2 HOC ⊢
            have HM : Hid (M = d.length) := hM
            have hMd : M ≤ 64 := by omega
            clear hM hd
            have hw1 : IntKind.i64.wrap ((M : Int) + 1 - 1) = (M : Int) := by rw [wrap_any (by omega) (by omega)]; omega
            have hw2 : IntKind.i64.wrap (M : Int) = (M : Int) := wrap_any (by omega) (by omega)
            have hw3 : IntKind.i64.wrap (a + n) = a + n := wrap_any (by omega) (by omega)
            have hc3 : M + 1 + 1 ≤ maxLen := by unfold maxLen; omega
            have hc4 : (M + 1 + 1) * 16 ≤ 140737488355328 := by omega
            rcases hnext with ⟨e1, e2⟩ | ⟨e1, e2⟩
            · have HE : Hid (bf s (k + 1) = d ++ [(a, n + 1)]) := e2
              have d2 : (a + n == (k : Int)) = true := by rw [beq_iff_eq]; omega
              clear e1 e2
              go_wp2_with fail
              go_quiet (fail)
              have hb2 : Below W0.heap.size W0 (wr.drewN nq) := below_drewN hb nq
              have HO2 : Hid (OwnSegs (wr.drewN nq) W0.heap.size (.slice (some ⟨g2, 0, none⟩) (M + 1) co) (d ++ [(a, n)])) := HOC.out
              have z1' : (wr.drewN nq).cell? ⟨g2, M * 2, none⟩ = some (.int .i64 a) := z1
              have z2' : (wr.drewN nq).cell? ⟨g2, M * 2 + 1, none⟩ = some (.int .i64 n) := z2
              generalize wr.drewN nq = w2 at hb2 HO2 z1' z2' ⊢
              clear hb HOC c0 z1 z2
              have HO2' : Hid (w2.ownsRow W0.heap.size 67 2 (.slice (some ⟨g2, 0, none⟩) (M + 1) co) (M + 1) (flat (d ++ [(a, n)]))) := by
                have h := HO2.out
                unfold OwnSegs at h
                rw [hdl, ← HM.out] at h
                exact h
              have hfz := HO2'.out.frozenAt (M * 2 + 1)
              have HST := HO2'.out.stored (M * 2 + 1) (.int .i64 (n + 1))
              have HO3 : Hid (OwnSegs (w2.setCell ⟨g2, M * 2 + 1, none⟩ (.int .i64 (n + 1))) W0.heap.size (.slice (some ⟨g2, 0, none⟩) (M + 1) co) (bf s (k + 1))) := by
                rw [HE.out]
                have h := HST.1
                rw [HM.out, flat_set_last] at h
                unfold OwnSegs
                rw [show (d ++ [(a, n + 1)]).length = d.length + 1 from by simp, HM.out]
                exact h
              have HB3 : Hid (Below W0.heap.size W0 (w2.setCell ⟨g2, M * 2 + 1, none⟩ (.int .i64 (n + 1)))) := hb2.setCell (p := ⟨g2, M * 2 + 1, none⟩) hg2 _
              clear HST
              go_wp2_with fail
              go_roundw
              case rel => exact ⟨k + 1, by omega, by go_num, HO3.out, HB3.out⟩
              case measure => simp [intOf]; omega
            · have HE : Hid (bf s (k + 1) = d ++ [(a, n)] ++ [((k : Int), 1)]) := e2
              have d2 : (a + n == (k : Int)) = false := by rw [beq_eq_false_iff_ne]; omega
              clear e1 e2
              go_wp2_with fail
              go_quiet (fail)
              have hb2 : Below W0.heap.size W0 (wr.drewN nq) := below_drewN hb nq
              have HO2 : Hid (OwnSegs (wr.drewN nq) W0.heap.size (.slice (some ⟨g2, 0, none⟩) (M + 1) co) (d ++ [(a, n)])) := HOC.out
              generalize wr.drewN nq = w2 at hb2 HO2 ⊢
              clear hb HOC c0 z1 z2
              have hsz : W0.heap.size ≤ (w2.alloc (.cells #[.int .i64 k, .int .i64 1] 67)).heap.size := (nwA hb2 _).size
              have HO2' : Hid (w2.ownsRow W0.heap.size 67 2 (.slice (some ⟨g2, 0, none⟩) (M + 1) co) (M + 1) (flat (d ++ [(a, n)]))) := by
                have h := HO2.out
                unfold OwnSegs at h
                rw [hdl, ← HM.out] at h
                exact h
              go_wp2_with (at_builtin; refine wpList_append_own _ rfl (.tmp 45) (.tmp 48) 49 rfl W0.heap.size 67 i0 (.agg #[.int .i64 0, .int .i64 0]) 2 16 Try.underlying49 hi hz0 hz1 hz2 rfl (by decide) (.slice (some ⟨g2, 0, none⟩) (M + 1) co) (M + 1) (flat (d ++ [(a, n)])) rfl (World.ownsRow.alloc HO2'.out _) ⟨w2.heap.size, 0, none⟩ 1 1 [.int .i64 k, .int .i64 1] rfl rfl (cell_two' _ _ _ _) (by simp [Value.oneCell']) hc3 hc4 hsz ?_; intro v' w3 hown hgrow _)
              have HB3 : Hid (Below W0.heap.size W0 w3) := (nwA hb2 _).grown hgrow (nwA hb2 _).size (fun q e => (HO2.out.lt q e).1)
              have HO3 : Hid (OwnSegs w3 W0.heap.size v' (bf s (k + 1))) := by
                rw [HE.out]
                refine OwnSegs.snoc ?_
                rw [hdl, ← HM.out]
                exact hown
              clear hown hgrow
              go_roundw
              case rel => exact ⟨k + 1, by omega, by go_num, HO3.out, HB3.out⟩
              case measure => simp [intOf]; omega
    · have hk' : k = 64 := by omega
      subst hk'
      go_wp2_with fail
      go_ret
      exact ⟨_, rfl, ownsRow_base HO.out (Nat.le_of_lt hsz0), nwT HN0.out hb⟩

end Go.Proofs.Ytheomnafmjmpdaa
