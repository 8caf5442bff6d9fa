/- Laid together: TellB, Gived, Giver, Gives, Eqd. -/
import Derived.Test.YtheomnafmjmpdaaRoomN9
/- The reference's List, Count, Not; EqNumbers: by their contracts. -/
namespace Go.Proofs.Ytheomnafmjmpdaa
open Go.RowKit

def rlist (s : Nat → Bool) (k : Nat) : List Int := ((List.range k).filter s).map fun (j : Nat) => (j : Int)
theorem rlist_hit {s : Nat → Bool} {k : Nat} (h : s k = true) : rlist s (k + 1) = rlist s k ++ [(k : Int)] := by
  simp [rlist, List.range_succ, List.filter_append, h]
theorem rlist_miss {s : Nat → Bool} {k : Nat} (h : s k = false) : rlist s (k + 1) = rlist s k := by
  simp [rlist, List.range_succ, List.filter_append, h]
theorem rlist_len (s : Nat → Bool) (k : Nat) : (rlist s k).length ≤ k := by
  have := List.length_filter_le s (List.range k)
  simp [rlist] at this ⊢
  exact this

theorem inc_ext : ∀ (a b : List Int), a.Pairwise (· < ·) → b.Pairwise (· < ·) → (∀ z, z ∈ a ↔ z ∈ b) → a = b
  | [], [], _, _, _ => rfl
  | [], y :: b, _, _, h => by have := (h y).2 (by simp); simp at this
  | x :: a, [], _, _, h => by have := (h x).1 (by simp); simp at this
  | x :: a, y :: b, ha, hb, h => by
    rw [List.pairwise_cons] at ha hb
    have e : x = y := by
      have h1 := (h x).1 (by simp)
      have h2 := (h y).2 (by simp)
      rcases List.mem_cons.1 h1 with c | c
      · exact c
      · rcases List.mem_cons.1 h2 with d | d
        · exact d.symm
        · have := hb.1 x c; have := ha.1 y d; omega
    subst e
    rw [inc_ext a b ha.2 hb.2 (fun z => by
      have hz := h z
      constructor
      · intro hm
        have := ha.1 z hm
        rcases List.mem_cons.1 (hz.1 (by simp [hm])) with c | c
        · omega
        · exact c
      · intro hm
        have := hb.1 z hm
        rcases List.mem_cons.1 (hz.2 (by simp [hm])) with c | c
        · omega
        · exact c)]

theorem ups_mem (x : Int) (n : Nat) (z : Int) : z ∈ ups x n ↔ x ≤ z ∧ z < x + n := by
  simp only [ups, List.mem_map, List.mem_range]
  constructor
  · rintro ⟨i, hi, rfl⟩; omega
  · intro h; exact ⟨(z - x).toNat, by omega, by omega⟩
theorem ups_inc (x : Int) (n : Nat) : (ups x n).Pairwise (· < ·) := by
  rw [ups, List.pairwise_map]
  exact List.Pairwise.imp (fun h => by omega) List.pairwise_lt_range
theorem listOf_inc : ∀ (l : List (Int × Int)) (m : Int), validFrom m l = true → (listOf l).Pairwise (· < ·) ∧ ∀ z ∈ listOf l, m ≤ z
  | [], _, _ => by simp [listOf]
  | s :: r, m, h => by
    simp only [validFrom, Bool.and_eq_true, Bool.not_eq_true', decide_eq_false_iff_not] at h
    have hm := mayB_of h.1.1
    have ih := listOf_inc r _ h.2
    rw [listOf, List.pairwise_append]
    refine ⟨⟨ups_inc _ _, ih.1, fun a ha b hb => ?_⟩, fun z hz => ?_⟩
    · have := (ups_mem _ _ _).1 ha
      have := ih.2 b hb
      omega
    · rcases List.mem_append.1 hz with c | c
      · have := (ups_mem _ _ _).1 c; omega
      · have := ih.2 z c; omega
theorem listOf_rlist {l : List (Int × Int)} (hv : vOk l = true) : listOf l = rlist (memS l) 64 := by
  have hi := listOf_inc l 0 hv
  refine inc_ext _ _ hi.1 ?_ (fun z => ?_)
  · rw [rlist, List.pairwise_map]
    refine List.Pairwise.imp (fun h => ?_) (List.Pairwise.filter _ List.pairwise_lt_range)
    omega
  · have hm : ∀ k : Nat, ((k : Int) ∈ listOf l ↔ memS l k = true) := fun k => by
      rw [← memI_listOf l 0 hv k, memI, List.any_eq_true]
      constructor
      · intro h; exact ⟨_, h, by simp⟩
      · rintro ⟨z, hz, h⟩
        have : z = (k : Int) := of_decide_eq_true h
        rwa [← this]
    simp only [rlist, List.mem_map, List.mem_filter, List.mem_range]
    constructor
    · intro h
      obtain ⟨k, rfl⟩ := Int.eq_ofNat_of_zero_le (hi.2 z h)
      have h2 := (hm k).1 h
      exact ⟨k, ⟨(valid_ge hv h2).2, h2⟩, rfl⟩
    · rintro ⟨k, ⟨_, h2⟩, rfl⟩
      exact (hm k).2 h2

set_option maxRecDepth 100000 in
set_option maxHeartbeats 1000000 in
theorem refList_any (a : Option Addr) (l : List (Int × Int)) (cap : Nat) (w : World) (hs : SegsAt w a l) (hl : l.length ≤ 1000) (hv : vOk l = true) :
    Calls Try.prog 73 #[.slice a l.length cap] w fun e w' => ∃ v, e = .returned v ∧ OwnInts w' w.heap.size v (listOf l) ∧ Below w.heap.size w w' := by
  obtain ⟨i0, hi, hz0, hz1, hz2⟩ := info_parts Try.info3
  have HS : Hid (SegsAt w a l) := hs
  have HE : Hid (listOf l = rlist (memS l) 64) := listOf_rlist hv
  clear hs
  go_enter Try.func73, Try.ntmps73
  go_wp2_with fail
  refine (refSet_any a l cap _ HS.out hl hv).mono ?_
  rintro e w1 ⟨rfl, hb1⟩
  have HN : Hid (SetJ (w1.alloc (.cells (setArr fun _ => false) 110)) w1.heap.size (fun _ => false)) := SetJ.new w1 _
  go_wp2_with (first | (with_reducible refine wpList_alloc50 rfl rfl ?_) | (with_reducible refine stop_store50 rfl ?_))
  unfold Stop
  refine wpList_store50 rfl (.tmp 4) (.tmp 7) rfl w1.heap.size (memS l) _ rfl rfl HN.out ?_
  go_wp2_with fail
  have HJ : Hid (SetJ ((w1.alloc (.cells (setArr fun _ => false) 110)).setRow w1.heap.size (setArr (memS l))) w1.heap.size (memS l)) := HN.out.setRow
  have HB : Hid (Below w.heap.size w ((w1.alloc (.cells (setArr fun _ => false) 110)).setRow w1.heap.size (setArr (memS l)))) := (nwA hb1 _).grown (gbSetRow _ _ _) (nwA hb1 _).size (fun q e => by have := Option.some.inj e; have := hb1.size; omega)
  generalize (w1.alloc (.cells (setArr fun _ => false) 110)).setRow w1.heap.size (setArr (memS l)) = w2 at HJ HB ⊢
  clear HN hb1 HS
  generalize w1.heap.size = g at HJ ⊢
  generalize memS l = s at HJ HE
  go_loopw [3, 5] (fun v i wr => ∃ (k : Nat), k ≤ 64 ∧ i = .int .i64 k ∧ OwnInts wr w2.heap.size v (rlist s k) ∧ Below w2.heap.size w2 wr)
    (fun _ i _ => 64 - (intOf i).toNat)
  case atStart => exact ⟨0, by omega, rfl, World.ownsRow_nil _ _ _ _, nwR w2⟩
  case round =>
    obtain ⟨k, hk, rfl, hO, hb⟩ := hrel
    have HO : Hid (OwnInts wr w2.heap.size u3 (rlist s k)) := hO
    clear hO
    by_cases hlt : k < 64
    · have hlt' : (k : Int) < 64 := by omega
      have c0 := (HJ.out.below hb).cell hlt
      simp only [setRow] at c0
      cases hs : s k
      · rw [hs] at c0
        have HO2 : Hid (OwnInts wr w2.heap.size u3 (rlist s (k + 1))) := by rw [rlist_miss hs]; exact HO.out
        go_wp2_with fail
        go_roundw
        case rel => exact ⟨k + 1, by omega, by go_num, HO2.out, hb⟩
        case measure => simp [intOf]; omega
      · rw [hs] at c0
        have HU : Hid (rlist s (k + 1) = rlist s k ++ [(k : Int)]) := rlist_hit hs
        have HL : Hid ((rlist s k).length ≤ 64) := by have := rlist_len s k; show _ ≤ 64; omega
        generalize rlist s k = L at HO HU HL
        have hsz : w2.heap.size ≤ (wr.alloc (.cells #[.int .i64 (k : Int)] 3)).heap.size := (nwA hb _).size
        have hc3 : L.length + 1 ≤ maxLen := by unfold maxLen; have := HL.out; omega
        have hc4 : (L.length + 1) * 8 ≤ 140737488355328 := by have := HL.out; omega
        go_wp2_with (at_builtin; refine wpList_append_own _ rfl (.tmp 15) (.tmp 17) 87 rfl w2.heap.size 3 i0 (.int .i64 0) 1 8 Try.underlying87 hi hz0 hz1 hz2 rfl (by decide) u3 L.length (L.map (Value.int .i64)) rfl (World.ownsRow.alloc HO.out _) ⟨wr.heap.size, 0, none⟩ 1 1 [.int .i64 (k : Int)] rfl rfl (cell_one _ _ _) (by simp [Value.oneCell']) hc3 hc4 hsz ?_; intro v' w3 hown hgrow _)
        have HB3 : Hid (Below w2.heap.size w2 w3) := (nwA hb _).grown hgrow (nwA hb _).size (fun q e => (HO.out.lt q e).1)
        have HO3 : Hid (OwnInts w3 w2.heap.size v' (rlist s (k + 1))) := by rw [HU.out]; exact OwnInts.snoc hown
        clear hown hgrow
        go_roundw
        case rel => exact ⟨k + 1, by omega, by go_num, HO3.out, HB3.out⟩
        case measure => simp [intOf]; omega
    · have hk' : k = 64 := by omega
      subst hk'
      go_wp2_with fail
      go_ret
      exact ⟨_, rfl, by rw [HE.out]; exact ownsRow_base HO.out HB.out.size, nwT HB.out hb⟩

set_option maxRecDepth 100000 in
set_option maxHeartbeats 400000 in
theorem refCount_any (a : Option Addr) (l : List (Int × Int)) (cap : Nat) (w : World) (hs : SegsAt w a l) (hl : l.length ≤ 1000) (hv : vOk l = true) :
    Calls Try.prog 48 #[.slice a l.length cap] w fun e w' => e = .returned (.int .i64 (sumLen l)) ∧ Below w.heap.size w w' := by
  have HE : Hid (((listOf l).length : Int) = sumLen l) := listOf_len l 0 hv
  go_enter Try.func48, Try.ntmps48
  go_wp2_with fail
  refine (refList_any a l cap _ hs hl hv).mono ?_
  rintro e w1 ⟨v, rfl, ho, hb1⟩
  obtain ⟨aL, cL, rfl, _⟩ := ho.at
  clear ho
  go_wp2_with fail
  go_ret
  exact ⟨by rw [← HE.out]; rfl, hb1⟩

theorem eq_ints {l m : List Int} (hl : l.length = m.length) (h : ∀ i, i < l.length → l.getD i 0 = m.getD i 0) : l = m := by
  apply List.ext_getElem hl
  intro i h1 h2
  have := h i h1
  simpa [h1, h2] using this

theorem notOf_two {l : List (Int × Int)} {n : Int} (h : notOk l n = true) (hn : n ≠ 0) :
    vOk [((0 : Int), n)] = true ∧ segsOf (fun k => memS [((0 : Int), n)] k && !memS l k) = notOf l n := by
  have h' := h
  simp only [notOk, Bool.and_eq_true, decide_eq_true_eq] at h'
  refine ⟨by simp [vOk, validFrom, mayB]; omega, ?_⟩
  rw [notOf, h]
  simp only [if_true]
  refine segsOf_congr (fun k _ => ?_)
  rw [memS_one]
  congr 1
  simp only [inSeg, decide_eq_decide]
  omega
theorem notOf_zero {l : List (Int × Int)} (h : notOk l 0 = true) : notOf l 0 = [] := by
  rw [notOf, h]
  exact segsOf_none (fun k _ => by
    have : ¬ ((k : Int) < 0) := by omega
    simp [this])

end Go.Proofs.Ytheomnafmjmpdaa

/- A place asked, by the program. -/
namespace Go.Proofs.Ytheomnafmjmpdaa
open Go.RowKit

def thereB (d : DevD) (n : Int) : Bool := decide (0 ≤ n) && decide (n < d.size)
def usedB (d : DevD) (n : Int) : Bool := !hasI d.free n && !hasI d.late n
set_option maxRecDepth 100000 in
set_option maxHeartbeats 2000000 in
theorem isThere_any (b o : Nat) (d : DevD) (n : Int) (w : World) (hd : DevIn w b o d) :
    Calls Try.prog 67 #[.agg #[.pointer (some ⟨b, o, none⟩), .int .i64 n]] w fun e w' => e = .returned (.bool (thereB d n)) ∧ Below w.heap.size w w' := by
  have hlt := hd.lt
  obtain ⟨_, _, _, _, ⟨_, c1, _⟩, _⟩ := hd
  obtain ⟨W0, hW0⟩ : ∃ W0, W0 = w.alloc (.cells #[.pointer (some ⟨b, o, none⟩), .int .i64 n] 80) := ⟨_, rfl⟩
  have HB0 : Hid (Below w.heap.size w W0) := by rw [hW0]; exact nwA (nwR w) _
  obtain ⟨x0, x1, _⟩ := two (show W0.heap[w.heap.size]? = some (.cells #[.pointer (some ⟨b, o, none⟩), .int .i64 n] 80 (0, 0)) by rw [hW0]; exact heap_alloc_new w _)
  have k1 : W0.cell? ⟨b, o + 1, none⟩ = some (.int .i64 d.size) := (HB0.out.cell (p := ⟨b, o + 1, none⟩) hlt).trans c1
  have HT : Hid (∀ q, decide (0 ≤ n) = q → thereB d n = (q && decide (n < d.size))) := fun q h => by unfold thereB; rw [h]
  clear c1
  by_cases h0 : 0 ≤ n
  · have HE : Hid (thereB d n = decide (n < d.size)) := by show _ = _; have := HT.out true (decide_eq_true h0); simpa using this
    go_enter Try.func67, Try.ntmps67
    go_upto_region 1 with fail
    rw [← hW0]
    clear hW0 HT
    go_quiet (fail)
    rename Nat => n1
    go_wp2_with fail
    go_ret
    exact ⟨by rw [HE.out]; rfl, below_drewN HB0.out n1⟩
  · have HE : Hid (thereB d n = false) := by show _ = _; have := HT.out false (decide_eq_false h0); simpa using this
    have h0d : decide (0 ≤ n) = false := decide_eq_false h0
    go_enter Try.func67, Try.ntmps67
    go_upto_region 1 with fail
    rw [← hW0]
    clear hW0 HT
    go_quiet (fail)
    rename Nat => n1
    go_wp2_with fail
    go_ret
    exact ⟨by rw [HE.out]; rfl, below_drewN HB0.out n1⟩

set_option maxRecDepth 100000 in
set_option maxHeartbeats 2000000 in
theorem isUsed_any (b o : Nat) (d : DevD) (n : Int) (w : World) (hd : DevIn w b o d) (hs : SmallD d) (hv : vOk d.free = true) (hx : vOk d.late = true) :
    Calls Try.prog 68 #[.agg #[.pointer (some ⟨b, o, none⟩), .int .i64 n]] w fun e w' => e = .returned (.bool (usedB d n)) ∧ Below w.heap.size w w' := by
  have hlt := hd.lt
  obtain ⟨af, cf, al, cl, ⟨_, _, c2, c3⟩, hf, hl⟩ := hd
  obtain ⟨W0, hW0⟩ : ∃ W0, W0 = w.alloc (.cells #[.pointer (some ⟨b, o, none⟩), .int .i64 n] 80) := ⟨_, rfl⟩
  have HB0 : Hid (Below w.heap.size w W0) := by rw [hW0]; exact nwA (nwR w) _
  have hx0 : W0.heap[w.heap.size]? = some (.cells #[.pointer (some ⟨b, o, none⟩), .int .i64 n] 80 (0, 0)) := by rw [hW0]; exact heap_alloc_new w _
  have HX : Hid (∀ w', Below W0.heap.size W0 w' → w'.cell? ⟨w.heap.size, 0, none⟩ = some (.pointer (some ⟨b, o, none⟩)) ∧ w'.cell? ⟨w.heap.size, 1, none⟩ = some (.int .i64 n) ∧ w'.cell? ⟨b, o + 2, none⟩ = some (.slice af d.free.length cf) ∧ w'.cell? ⟨b, o + 3, none⟩ = some (.slice al d.late.length cl)) := fun w' h => by
    obtain ⟨h1, h2, _⟩ := two ((h.block _ (Array.getElem?_eq_some_iff.1 hx0).1).trans hx0)
    exact ⟨h1, h2, ((nwT HB0.out h).cell (p := ⟨b, o + 2, none⟩) hlt).trans c2, ((nwT HB0.out h).cell (p := ⟨b, o + 3, none⟩) hlt).trans c3⟩
  have HH1 : Hid (∀ w', Below W0.heap.size W0 w' → Calls Try.prog 83 #[.slice af d.free.length cf, .int .i64 n] w' fun e w'' => e = .returned (.tuple #[.bool (hasI d.free n), .int .i64 0]) ∧ Below w'.heap.size w' w'') := fun w' h => by
    have := has_any af d.free cf n w' ((hf.below (nwT HB0.out h)).1) (len_max hs.1)
    rw [hv] at this
    exact this
  have HH2 : Hid (∀ w', Below W0.heap.size W0 w' → Calls Try.prog 83 #[.slice al d.late.length cl, .int .i64 n] w' fun e w'' => e = .returned (.tuple #[.bool (hasI d.late n), .int .i64 0]) ∧ Below w'.heap.size w' w'') := fun w' h => by
    have := has_any al d.late cl n w' ((hl.below (nwT HB0.out h)).1) (len_max hs.2)
    rw [hx] at this
    exact this
  have HU : Hid (∀ p q, hasI d.free n = p → hasI d.late n = q → usedB d n = (!p && !q)) := fun p q h1 h2 => by unfold usedB; rw [h1, h2]
  obtain ⟨p, hp⟩ : ∃ p, hasI d.free n = p := ⟨_, rfl⟩
  obtain ⟨q, hq⟩ : ∃ q, hasI d.late n = q := ⟨_, rfl⟩
  have HUS : Hid (usedB d n = (!p && !q)) := HU.out p q hp hq
  rw [hp] at HH1
  rw [hq] at HH2
  have q0 : ∀ w', Below W0.heap.size W0 w' → w'.cell? ⟨w.heap.size, 0, none⟩ = some (.pointer (some ⟨b, o, none⟩)) := fun w' h => (HX.out w' h).1
  have q1 : ∀ w', Below W0.heap.size W0 w' → w'.cell? ⟨w.heap.size, 1, none⟩ = some (.int .i64 n) := fun w' h => (HX.out w' h).2.1
  have q2 : ∀ w', Below W0.heap.size W0 w' → w'.cell? ⟨b, o + 2, none⟩ = some (.slice af d.free.length cf) := fun w' h => (HX.out w' h).2.2.1
  have q3 : ∀ w', Below W0.heap.size W0 w' → w'.cell? ⟨b, o + 3, none⟩ = some (.slice al d.late.length cl) := fun w' h => (HX.out w' h).2.2.2
  have hS := nwR W0
  clear hf hl c2 c3 hx0 hp hq HU hs hv hx
  go_enter Try.func68, Try.ntmps68
  go_wp2_with fail
  rw [← hW0]
  clear hW0
  go_region_held3 (fun w' => Below W0.heap.size W0 w') (first | assumption | exact Below.drew (by assumption) | exact nwT (by assumption) (by assumption)) (first
    | (go_at_call 83; refine (HH1.out _ (by first | assumption | exact Below.drew (by assumption))).mono ?_; rintro e wC ⟨rfl, hbC⟩)
    | fail)
  have hq1 : Below W0.heap.size W0 wC := by assumption
  go_wp2_with fail
  go_region_held3 (fun w' => Below W0.heap.size W0 w') (first | assumption | exact Below.drew (by assumption) | exact nwT (by assumption) (by assumption)) (first
    | (go_at_call 83; refine (HH2.out _ (by first | assumption | exact Below.drew (by assumption))).mono ?_; rintro e wD ⟨rfl, hbD⟩)
    | fail)
  have hq2 : Below W0.heap.size W0 wD := by assumption
  have HQ : Hid (Below w.heap.size w wD) := nwT HB0.out hq2
  clear q0 q1 q2 q3 hS hbC hbD hq1 hq2 HX HH1 HH2
  cases p
  all_goals
    go_wp2_with fail
    go_ret
    exact ⟨by rw [HUS.out]; rfl, HQ.out⟩

end Go.Proofs.Ytheomnafmjmpdaa

/- Give, by the program. -/
namespace Go.Proofs.Ytheomnafmjmpdaa
open Go.RowKit

/-- what a place is: the error, and which device -/
def placeF (ds : List DevD) (dev n : Int) : Int × Option Nat :=
  match atD ds dev with
  | none => (3, none)
  | some k => if thereB (ds.getD k DZ) n = false then (1, none) else if usedB (ds.getD k DZ) n = false then (4, none) else (0, some k)
def secO (G : Nat) (n : Int) (r : Option Nat) : Value := match r with
  | some k => .agg #[.pointer (some ⟨G, k * 4, none⟩), .int .i64 n]
  | none => .agg #[.pointer none, .int .i64 0]
def LateV (ds : List DevD) : Prop := ∀ k, k < ds.length → vOk (ds.getD k DZ).late = true

set_option maxRecDepth 100000 in
set_option maxHeartbeats 4000000 in
theorem usedAt_any (ga : Option Addr) (gc G : Nat) (dev n : Int) (ds : List DevD) (w : World) (hg : GrpAt w ga G 0 (List.range ds.length)) (hd : DevsAt w (some ⟨G, 0, none⟩) ds) (hs : SmallL ds) (hv : AllV ds) (hx : LateV ds) :
    Calls Try.prog 43 #[.slice ga ds.length gc, .agg #[.int .i64 dev, .int .i64 n]] w fun e w' => e = .returned (.tuple #[secO G n (placeF ds dev n).2, .int .i64 (placeF ds dev n).1]) ∧ Below w.heap.size w w' := by
  obtain ⟨W0, hW0⟩ : ∃ W0, W0 = (w.alloc (.cells #[.int .i64 dev, .int .i64 n] 45)).alloc (.cells #[.pointer none, .int .i64 0] 80) := ⟨_, rfl⟩
  have hb0 : Below w.heap.size w W0 := by rw [hW0]; exact nwA (nwA (nwR w) _) _
  have HB0 : Hid (Below w.heap.size w W0) := hb0
  have hx0 : W0.heap[w.heap.size]? = some (.cells #[.int .i64 dev, .int .i64 n] 45 (0, 0)) := by rw [hW0]; exact (Lib.alloc_old _ _ _ (by simp)).trans (heap_alloc_new w _)
  have hr0 : W0.heap[w.heap.size + 1]? = some (.cells #[.pointer none, .int .i64 0] 80 (0, 0)) := by rw [hW0]; exact heap_alloc_new2 w _ _
  have HXR : Hid (∀ w', Below W0.heap.size W0 w' → w'.heap[w.heap.size]? = some (.cells #[.int .i64 dev, .int .i64 n] 45 (0, 0)) ∧ w'.heap[w.heap.size + 1]? = some (.cells #[.pointer none, .int .i64 0] 80 (0, 0))) := fun w' h => ⟨(h.block _ (Array.getElem?_eq_some_iff.1 hx0).1).trans hx0, (h.block _ (Array.getElem?_eq_some_iff.1 hr0).1).trans hr0⟩
  have HD : Hid (∀ w', Below W0.heap.size W0 w' → DevsAt w' (some ⟨G, 0, none⟩) ds) := fun w' h => hd.below (nwT hb0 h)
  have HFI : Hid (Calls Try.prog 51 #[.slice ga ds.length gc, .int .i64 dev] W0 fun e w' => e = .returned (.tuple #[ptrO G 0 (atD ds dev), .bool (atD ds dev).isSome]) ∧ Below W0.heap.size W0 w') := gfind_any ga gc G 0 dev ds W0 (hg.below hb0) (hd.below hb0) hs.1
  have HSM : Hid (∀ k, k < ds.length → SmallD (ds.getD k DZ) ∧ vOk (ds.getD k DZ).free = true ∧ vOk (ds.getD k DZ).late = true) := fun k hk => ⟨hs.2 _ (getD_mem DZ hk), hv k hk, hx k hk⟩
  have HERR : Hid (∀ (w1 : World) (er : Int), Below W0.heap.size W0 w1 → placeF ds dev n = (er, none) → (w1.setCell ⟨w.heap.size + 1, 0, none⟩ (.pointer none)).heap.size = w1.heap.size ∧ Below w.heap.size w ((w1.setCell ⟨w.heap.size + 1, 0, none⟩ (.pointer none)).setCell ⟨w.heap.size + 1, 1, none⟩ (.int .i64 0)) ∧ ((w1.setCell ⟨w.heap.size + 1, 0, none⟩ (.pointer none)).setCell ⟨w.heap.size + 1, 1, none⟩ (.int .i64 0)).heap[w.heap.size + 1]? = some (.cells #[.pointer none, .int .i64 0] 80 (0, 0))) := fun w1 er h1 _ => by
    have h2 := heap_setCell_same _ (w.heap.size + 1) 1 _ 80 (.int .i64 0) (heap_setCell_same _ (w.heap.size + 1) 0 _ 80 (.pointer none) (HXR.out w1 h1).2)
    simp at h2
    exact ⟨by simp, ((nwT HB0.out h1).setCell (show w.heap.size ≤ w.heap.size + 1 by omega) _).setCell (show w.heap.size ≤ w.heap.size + 1 by omega) _, h2⟩
  obtain ⟨x0, x1, _⟩ := two hx0
  rw [hW0] at x0 x1
  clear hg hd hs hv hx hx0 hr0 hb0
  go_enter Try.func43, Try.ntmps43
  go_wp2_with fail
  rw [← hW0]
  clear hW0 x0 x1
  refine HFI.out.mono ?_
  rintro e w1 ⟨rfl, hb1⟩
  have HB1 : Hid (Below W0.heap.size W0 w1) := hb1
  clear hb1 HFI
  cases hat : atD ds dev
  case none =>
    have HP : Hid (placeF ds dev n = (3, none)) := by show _ = _; unfold placeF; rw [hat]
    have e0 : ptrO G 0 none = .agg #[.pointer none] := rfl
    have e1 : (none : Option Nat).isSome = false := rfl
    rw [e0, e1]
    have hbA : Below W0.heap.size W0 (w1.alloc (.cells #[.pointer none] 78)) := nwA HB1.out _
    obtain ⟨r0, r1, rf⟩ := two (HXR.out _ hbA).2
    have HEE := HERR.out _ 3 hbA HP.out
    have HE2 : Hid (Below w.heap.size w (((w1.alloc (.cells #[.pointer none] 78)).setCell ⟨w.heap.size + 1, 0, none⟩ (.pointer none)).setCell ⟨w.heap.size + 1, 1, none⟩ (.int .i64 0)) ∧ (((w1.alloc (.cells #[.pointer none] 78)).setCell ⟨w.heap.size + 1, 0, none⟩ (.pointer none)).setCell ⟨w.heap.size + 1, 1, none⟩ (.int .i64 0)).heap[w.heap.size + 1]? = some (.cells #[.pointer none, .int .i64 0] 80 (0, 0))) := HEE.2
    clear hat e0 e1 HEE hbA
    go_wp2_with fail
    obtain ⟨s0, s1, _⟩ := two HE2.out.2
    exact bodyPost_ret (v := .tuple #[.agg #[.pointer none, .int .i64 0], .int .i64 3]) (by simp [results, Try.results43, go_sem, s0, s1]) rfl ⟨by rw [HP.out]; rfl, HE2.out.1⟩
  case some k =>
    have hkl := atD_lt hat
    have HP : Hid (placeF ds dev n = if thereB (ds.getD k DZ) n = false then (1, none) else if usedB (ds.getD k DZ) n = false then (4, none) else (0, some k)) := by show _ = _; unfold placeF; rw [hat]
    have e0 : ptrO G 0 (some k) = .agg #[.pointer (some ⟨G, k * 4, none⟩)] := by simp [ptrO, ptrD]
    have e1 : (some k).isSome = true := rfl
    rw [e0, e1]
    obtain ⟨hsd, hvd, hxd⟩ := HSM.out k hkl
    have HDK : Hid (∀ w', Below W0.heap.size W0 w' → DevIn w' G (k * 4) (ds.getD k DZ)) := fun w' h => (HD.out w' h).at0 hkl
    have HSK : Hid (SmallD (ds.getD k DZ) ∧ vOk (ds.getD k DZ).free = true ∧ vOk (ds.getD k DZ).late = true) := ⟨hsd, hvd, hxd⟩
    generalize ds.getD k DZ = d at HP HDK HSK
    obtain ⟨W3, hW3⟩ : ∃ W3, W3 = (w1.alloc (.cells #[.pointer (some ⟨G, k * 4, none⟩)] 78)).alloc (.cells #[.pointer (some ⟨G, k * 4, none⟩), .int .i64 n] 80) := ⟨_, rfl⟩
    have hb13 : Below w1.heap.size w1 W3 := by rw [hW3]; exact nwA (nwA (nwR w1) _) _
    have hz3 : W3.heap[w1.heap.size + 1]? = some (.cells #[.pointer (some ⟨G, k * 4, none⟩), .int .i64 n] 80 (0, 0)) := by rw [hW3]; exact heap_alloc_new2 w1 _ _
    have HB3 : Hid (Below W0.heap.size W0 W3) := nwT HB1.out hb13
    have HZ3 : Hid (∀ w', Below W3.heap.size W3 w' → w'.heap[w1.heap.size + 1]? = some (.cells #[.pointer (some ⟨G, k * 4, none⟩), .int .i64 n] 80 (0, 0))) := fun w' h => (h.block _ (Array.getElem?_eq_some_iff.1 hz3).1).trans hz3
    obtain ⟨x0, x1, _⟩ := two (HXR.out _ (nwA HB1.out (.cells #[.pointer (some ⟨G, k * 4, none⟩)] 78))).1
    obtain ⟨d0, _⟩ := one (heap_alloc_new w1 (.cells #[.pointer (some ⟨G, k * 4, none⟩)] 78))
    obtain ⟨z0, z1, _⟩ := two hz3
    rw [hW3] at z0 z1
    clear hat hkl e0 e1 hsd hvd hxd hb13 hz3
    go_wp2_with fail
    rw [← hW3]
    clear hW3 x0 x1 d0 z0 z1
    refine (isThere_any G (k * 4) d n W3 (HDK.out W3 HB3.out)).mono ?_
    rintro e w4 ⟨rfl, hb4⟩
    have HB4 : Hid (Below W0.heap.size W0 w4) := nwT HB3.out hb4
    have HB34 : Hid (Below W3.heap.size W3 w4) := hb4
    clear hb4
    cases hth : thereB d n
    case false =>
      have HP1 : Hid (placeF ds dev n = (1, none)) := by show _ = _; rw [HP.out, if_pos hth]
      obtain ⟨r0, r1, rf⟩ := two (HXR.out _ HB4.out).2
      have HEE := HERR.out _ 1 HB4.out HP1.out
      have HE2 : Hid (Below w.heap.size w ((w4.setCell ⟨w.heap.size + 1, 0, none⟩ (.pointer none)).setCell ⟨w.heap.size + 1, 1, none⟩ (.int .i64 0)) ∧ ((w4.setCell ⟨w.heap.size + 1, 0, none⟩ (.pointer none)).setCell ⟨w.heap.size + 1, 1, none⟩ (.int .i64 0)).heap[w.heap.size + 1]? = some (.cells #[.pointer none, .int .i64 0] 80 (0, 0))) := HEE.2
      clear hth HEE HP
      go_wp2_with fail
      obtain ⟨s0, s1, _⟩ := two HE2.out.2
      exact bodyPost_ret (v := .tuple #[.agg #[.pointer none, .int .i64 0], .int .i64 1]) (by simp [results, Try.results43, go_sem, s0, s1]) rfl ⟨by rw [HP1.out]; rfl, HE2.out.1⟩
    case true =>
    have HP2 : Hid (placeF ds dev n = if usedB d n = false then (4, none) else (0, some k)) := by show _ = _; rw [HP.out, if_neg (by rw [hth]; simp)]
    obtain ⟨z0, z1, _⟩ := two (HZ3.out w4 HB34.out)
    clear hth HP
    go_wp2_with fail
    refine (isUsed_any G (k * 4) d n w4 (HDK.out w4 HB4.out) HSK.out.1 HSK.out.2.1 HSK.out.2.2).mono ?_
    rintro e w5 ⟨rfl, hb5⟩
    have HB5 : Hid (Below W0.heap.size W0 w5) := nwT HB4.out hb5
    have HB35 : Hid (Below W3.heap.size W3 w5) := nwT HB34.out hb5
    obtain ⟨r0, r1, rf⟩ := two (HXR.out _ HB5.out).2
    clear hb5 z0 z1
    cases hus : usedB d n
    case false =>
      have HP1 : Hid (placeF ds dev n = (4, none)) := by show _ = _; rw [HP2.out, if_pos hus]
      have HEE := HERR.out _ 4 HB5.out HP1.out
      have HE2 : Hid (Below w.heap.size w ((w5.setCell ⟨w.heap.size + 1, 0, none⟩ (.pointer none)).setCell ⟨w.heap.size + 1, 1, none⟩ (.int .i64 0)) ∧ ((w5.setCell ⟨w.heap.size + 1, 0, none⟩ (.pointer none)).setCell ⟨w.heap.size + 1, 1, none⟩ (.int .i64 0)).heap[w.heap.size + 1]? = some (.cells #[.pointer none, .int .i64 0] 80 (0, 0))) := HEE.2
      clear hus HEE HP2
      go_wp2_with fail
      obtain ⟨s0, s1, _⟩ := two HE2.out.2
      exact bodyPost_ret (v := .tuple #[.agg #[.pointer none, .int .i64 0], .int .i64 4]) (by simp [results, Try.results43, go_sem, s0, s1]) rfl ⟨by rw [HP1.out]; rfl, HE2.out.1⟩
    case true =>
    have HP1 : Hid (placeF ds dev n = (0, some k)) := by show _ = _; rw [HP2.out, if_neg (by rw [hus]; simp)]
    obtain ⟨z0, z1, _⟩ := two (HZ3.out w5 HB35.out)
    have HE2 : Hid (Below w.heap.size w ((w5.setCell ⟨w.heap.size + 1, 0, none⟩ (.pointer (some ⟨G, k * 4, none⟩))).setCell ⟨w.heap.size + 1, 1, none⟩ (.int .i64 n)) ∧ ((w5.setCell ⟨w.heap.size + 1, 0, none⟩ (.pointer (some ⟨G, k * 4, none⟩))).setCell ⟨w.heap.size + 1, 1, none⟩ (.int .i64 n)).heap[w.heap.size + 1]? = some (.cells #[.pointer (some ⟨G, k * 4, none⟩), .int .i64 n] 80 (0, 0))) := by
      have h2 := heap_setCell_same _ (w.heap.size + 1) 1 _ 80 (.int .i64 n) (heap_setCell_same _ (w.heap.size + 1) 0 _ 80 (.pointer (some ⟨G, k * 4, none⟩)) (HXR.out w5 HB5.out).2)
      simp at h2
      exact ⟨((nwT HB0.out HB5.out).setCell (show w.heap.size ≤ w.heap.size + 1 by omega) _).setCell (show w.heap.size ≤ w.heap.size + 1 by omega) _, h2⟩
    clear hus HP2
    go_wp2_with fail
    obtain ⟨s0, s1, _⟩ := two HE2.out.2
    exact bodyPost_ret (v := .tuple #[.agg #[.pointer (some ⟨G, k * 4, none⟩), .int .i64 n], .int .i64 0]) (by simp [results, Try.results43, go_sem, s0, s1]) rfl ⟨by rw [HP1.out]; rfl, HE2.out.1⟩

end Go.Proofs.Ytheomnafmjmpdaa

/- Give, by the program: place by place. -/
namespace Go.Proofs.Ytheomnafmjmpdaa
open Go.RowKit

def givD (ds : List DevD) (k : Nat) (n : Int) : List DevD := ds.set k (setL' (ds.getD k DZ) (joinA (ds.getD k DZ).late n))
def givN (ds : List DevD) : List (Int × Int) → Int × List DevD
  | [] => (0, ds)
  | p :: r => match (placeF ds p.1 p.2).2 with
    | none => ((placeF ds p.1 p.2).1, [])
    | some k => givN (givD ds k p.2) r
theorem placeF_some {ds : List DevD} {dev n : Int} {k : Nat} (h : (placeF ds dev n).2 = some k) : (placeF ds dev n).1 = 0 ∧ k < ds.length ∧ thereB (ds.getD k DZ) n = true ∧ usedB (ds.getD k DZ) n = true ∧ atD ds dev = some k := by
  unfold placeF at h ⊢
  cases hat : atD ds dev with
  | none => rw [hat] at h; simp at h
  | some j =>
    rw [hat] at h
    simp only at h ⊢
    split at h
    · simp at h
    · rename_i h1
      split at h
      · simp at h
      · rename_i h2
        simp at h
        subst h
        rw [if_neg h1, if_neg h2]
        exact ⟨rfl, atD_lt hat, by simpa using h1, by simpa using h2, rfl⟩
theorem placeF_none {ds : List DevD} {dev n : Int} (h : (placeF ds dev n).2 = none) : (placeF ds dev n).1 ≠ 0 := by
  unfold placeF at h ⊢
  cases hat : atD ds dev with
  | none => simp
  | some j =>
    rw [hat] at h
    simp only at h ⊢
    split
    · simp
    · rename_i h1
      rw [if_neg h1] at h
      split
      · simp
      · rename_i h2
        rw [if_neg h2] at h
        simp at h
structure GvInv (ds x : List DevD) : Prop where
  len : x.length = ds.length
  id : ∀ k, (x.getD k DZ).id = (ds.getD k DZ).id
  size : ∀ k, (x.getD k DZ).size = (ds.getD k DZ).size
  free : ∀ k, (x.getD k DZ).free = (ds.getD k DZ).free
  late : LateV x
theorem gvinv_refl {ds : List DevD} (h : DevsOk ds) : GvInv ds ds := ⟨rfl, fun _ => rfl, fun _ => rfl, fun _ => rfl, fun k hk => (h.2 k hk).2.late⟩
theorem GvInv.step {ds x : List DevD} (h : GvInv ds x) (k : Nat) (n : Int) : GvInv ds (givD x k n) := by
  unfold givD
  refine ⟨by rw [List.length_set]; exact h.len, fun j => ?_, fun j => ?_, fun j => ?_, fun j hj => ?_⟩
  · rw [getD_set]; split
    · rename_i hj; obtain ⟨rfl, _⟩ := hj; exact h.id k
    · exact h.id j
  · rw [getD_set]; split
    · rename_i hj; obtain ⟨rfl, _⟩ := hj; exact h.size k
    · exact h.size j
  · rw [getD_set]; split
    · rename_i hj; obtain ⟨rfl, _⟩ := hj; exact h.free k
    · exact h.free j
  · rw [List.length_set] at hj
    rw [getD_set]
    split
    · exact (segsOf_ok _).1
    · exact h.late j hj
theorem GvInv.allV {ds x : List DevD} (h : GvInv ds x) (hok : DevsOk ds) : AllV x := fun k hk => by
  rw [h.free k]; exact (hok.2 k (by rw [← h.len]; exact hk)).2.free
theorem GvInv.small {ds x : List DevD} (h : GvInv ds x) (hok : DevsOk ds) : SmallL x := by
  refine ⟨by rw [h.len]; have := hok.1; omega, fun d hd => ?_⟩
  obtain ⟨i, hi, rfl⟩ := List.getElem_of_mem hd
  have e : x.getD i DZ = x[i] := by simp [List.getD, hi]
  have h1 := vOk_len (h.allV hok i hi)
  have h2 := vOk_len (h.late i hi)
  rw [e] at h1 h2
  exact ⟨by omega, by omega⟩
def GiveR (ds : List DevD) (ps : List (Int × Int)) (base : Nat) (e : Ending) (w' : World) : Prop := (¬ DevsOk ds ∧ e = .returned (.tuple #[.slice none 0 0, .int .i64 1])) ∨ (DevsOk ds ∧ ∃ u, e = .returned (.tuple #[u, .int .i64 (givN ds ps).1]) ∧ OwnDevs w' base u (givN ds ps).2)

set_option maxRecDepth 100000 in
set_option maxHeartbeats 8000000 in
theorem give_dev (a : Option Addr) (ds : List DevD) (ca : Nat) (pa : Option Addr) (pc : Nat) (ps : List (Int × Int)) (w : World) (hd : DevsAt w a ds) (hn : NilOk a ca ds.length) (hs : SmallL ds) (hp : SegsAt w pa ps) (hpl : ps.length ≤ 100000) :
    Calls Try.prog 15 #[.slice a ds.length ca, .slice pa ps.length pc] w fun e w' => GiveR ds ps w.heap.size e w' ∧ Below w.heap.size w w' := by
  have HP : Hid (∀ w', Below w.heap.size w w' → SegsAt w' pa ps) := fun w' h => hp.below h (Nat.le_refl _)
  have HO : Hid (Calls Try.prog 35 #[.slice a ds.length ca] w fun e w' => OpenR ds w.heap.size e w' ∧ Below w.heap.size w w') := open_any a ds ca w hd hn hs
  clear hd hn hs hp
  go_enter Try.func15, Try.ntmps15
  go_wp2_with fail
  refine HO.out.mono ?_
  rintro e w1 ⟨ho, hb1⟩
  have HB1 : Hid (Below w.heap.size w w1) := hb1
  clear HO hb1
  rcases ho with ⟨hno, rfl⟩ | ⟨hok, la, lc, ga, gc, G, rfl, hst⟩
  · have HQ : Hid (∀ w', GiveR ds ps w.heap.size (.returned (.tuple #[.slice none 0 0, .int .i64 1])) w') := fun _ => .inl ⟨hno, rfl⟩
    clear hno
    go_wp2_with fail
    go_ret2
    exact ⟨HQ.out _, nwA HB1.out _⟩
  have HOK : Hid (DevsOk ds) := hok
  obtain ⟨W2, hW2⟩ : ∃ W2, W2 = w1.alloc (.cells #[.slice ga ds.length gc, .slice la ds.length lc] 71) := ⟨_, rfl⟩
  have hb12 : Below w1.heap.size w1 W2 := by rw [hW2]; exact nwA (nwR w1) _
  have hx2 : W2.heap[w1.heap.size]? = some (.cells #[.slice ga ds.length gc, .slice la ds.length lc] 71 (0, 0)) := by rw [hW2]; exact heap_alloc_new w1 _
  have HST : Hid (StkAt W2 w.heap.size la ga lc gc G ds) := hst.below hb12
  have HX2 : Hid (∀ w', W2.grownBy w' (some G) → w'.heap[w1.heap.size]? = some (.cells #[.slice ga ds.length gc, .slice la ds.length lc] 71 (0, 0))) := fun w' h => (h.block _ (Array.getElem?_eq_some_iff.1 hx2).1 (fun e => by injection e with e; have := hst.bg.2; omega)).trans hx2
  have HB2 : Hid (Below w.heap.size w W2) := nwT HB1.out hb12
  have HGW : Hid (∀ w', W2.grownBy w' (some G) → Below w.heap.size w w') := fun w' h => HB2.out.trans (gb_below h hst.bg.1 HB2.out.size)
  have HG0 : Hid (GvInv ds ds) := gvinv_refl hok
  obtain ⟨x0, x1, _⟩ := two hx2
  rw [hW2] at x0 x1
  clear hok hst hb12 hx2
  go_upto_block 0 with fail
  rw [← hW2]
  clear hW2 x0 x1
  go_wp2_with fail
  go_loopw [22] (fun i wr => ∃ (j : Nat) (x : List DevD), j ≤ ps.length ∧ i = .int .i64 j ∧ Hid (StkAt wr w.heap.size la ga lc gc G x) ∧ Hid (GvInv ds x) ∧ Hid (givN ds ps = givN x (ps.drop j)) ∧ Hid (W2.grownBy wr (some G)))
    (fun i _ => ps.length - (intOf i).toNat)
  case atStart => exact ⟨0, ds, by omega, rfl, HST, HG0, by rfl, gbOf (nwR W2) _⟩
  case round =>
    obtain ⟨j, x, hj, rfl, HSr, HIr, HNr, HGr⟩ := hrel
    have HBr : Hid (Below w.heap.size w wr) := HGW.out wr HGr.out
    have hxl := HIr.out.len
    by_cases hjl : j < ps.length
    · have hjli : (j : Int) < (ps.length : Int) := by omega
      have hj0 : (0 : Int) ≤ (j : Int) := by omega
      obtain ⟨pb, po, rfl, p1, p2⟩ := (HP.out wr HBr.out) j hjl
      have HD : Hid (ps.drop j = ps.getD j (0, 0) :: ps.drop (j + 1)) := drop_getD hjl
      obtain ⟨q, hq⟩ : ∃ q, ps.getD j (0, 0) = q := ⟨_, rfl⟩
      rw [hq] at p1 p2 HD
      obtain ⟨dev, n⟩ := q
      simp only at p1 p2
      have HNX : Hid (givN ds ps = match (placeF x dev n).2 with | none => ((placeF x dev n).1, []) | some k => givN (givD x k n) (ps.drop (j + 1))) := by show _ = _; rw [HNr.out, HD.out]; rfl
      obtain ⟨W3, hW3⟩ : ∃ W3, W3 = wr.alloc (.cells #[.int .i64 dev, .int .i64 n] 45) := ⟨_, rfl⟩
      have hb3 : Below wr.heap.size wr W3 := by rw [hW3]; exact nwA (nwR wr) _
      obtain ⟨y0, y1, _⟩ := two (show W3.heap[wr.heap.size]? = some (.cells #[.int .i64 dev, .int .i64 n] 45 (0, 0)) by rw [hW3]; exact heap_alloc_new wr _)
      have HS3 : Hid (StkAt W3 w.heap.size la ga lc gc G x) := HSr.out.below hb3
      have HG3 : Hid (W2.grownBy W3 (some G)) := HGr.out.trans (gbOf hb3 _)
      obtain ⟨x0, x1, _⟩ := two (HX2.out W3 HG3.out)
      have HUA : Hid (Calls Try.prog 43 #[.slice ga ds.length gc, .agg #[.int .i64 dev, .int .i64 n]] W3 fun e w' => e = .returned (.tuple #[secO G n (placeF x dev n).2, .int .i64 (placeF x dev n).1]) ∧ Below W3.heap.size W3 w') := by
        rw [← hxl]
        exact usedAt_any ga gc G dev n x W3 HS3.out.grpAt.1 HS3.out.devs (HIr.out.small HOK.out) (HIr.out.allV HOK.out) HIr.out.late
      rw [hW3] at y0 y1 x0 x1
      clear hb3 hq HSr HGr HNr
      go_wp2_with fail
      rw [← hW3]
      clear hW3 y0 y1 x0 x1 p1 p2
      refine HUA.out.mono ?_
      rintro e w4 ⟨rfl, hb4⟩
      have HS4 : Hid (StkAt w4 w.heap.size la ga lc gc G x) := HS3.out.below hb4
      have HG4 : Hid (W2.grownBy w4 (some G)) := HG3.out.trans (gbOf hb4 _)
      clear hb4 HUA
      cases hpl2 : (placeF x dev n).2
      case none =>
        have hne := placeF_none hpl2
        have HQ : Hid (∀ w', GiveR ds ps w.heap.size (.returned (.tuple #[.slice none 0 0, .int .i64 (placeF x dev n).1])) w') := fun w' => .inr ⟨HOK.out, _, by rw [HNX.out, hpl2], by rw [HNX.out, hpl2]; exact ownD_nil _ _⟩
        obtain ⟨er, her⟩ : ∃ er, (placeF x dev n).1 = er := ⟨_, rfl⟩
        rw [her] at HQ hne ⊢
        have h1 : (er == 0) = false := beq_eq_false_iff_ne.2 hne
        have h2 : (er != 0) = true := bne_iff_ne.2 hne
        have h3 : decide (er = 0) = false := decide_eq_false hne
        have e0 : secO G n none = .agg #[.pointer none, .int .i64 0] := rfl
        rw [e0]
        have HBE : Hid (Below w.heap.size w w4) := HGW.out w4 HG4.out
        clear hpl2 her e0 HNX
        go_wp2_with fail
        go_ret2
        exact ⟨HQ.out _, nwA HBE.out _⟩
      case some k =>
        obtain ⟨he0, hkl, hth, _, _⟩ := placeF_some hpl2
        have HNK : Hid (givN ds ps = givN (givD x k n) (ps.drop (j + 1))) := by show _ = _; rw [HNX.out, hpl2]
        rw [he0]
        have e0 : secO G n (some k) = .agg #[.pointer (some ⟨G, k * 4, none⟩), .int .i64 n] := rfl
        rw [e0]
        obtain ⟨W5, hW5⟩ : ∃ W5, W5 = w4.alloc (.cells #[.pointer (some ⟨G, k * 4, none⟩), .int .i64 n] 80) := ⟨_, rfl⟩
        have hb5 : Below w4.heap.size w4 W5 := by rw [hW5]; exact nwA (nwR w4) _
        obtain ⟨z0, z1, _⟩ := two (show W5.heap[w4.heap.size]? = some (.cells #[.pointer (some ⟨G, k * 4, none⟩), .int .i64 n] 80 (0, 0)) by rw [hW5]; exact heap_alloc_new w4 _)
        have HS5 : Hid (StkAt W5 w.heap.size la ga lc gc G x) := HS4.out.below hb5
        have HG5 : Hid (W2.grownBy W5 (some G)) := HG4.out.trans (gbOf hb5 _)
        have HGV : Hid (Calls Try.prog 44 #[.agg #[.pointer (some ⟨G, k * 4, none⟩), .int .i64 n]] W5 fun e w' => e = .returned (.tuple #[]) ∧ StkAt w' w.heap.size la ga lc gc G (givD x k n) ∧ W5.grownBy w' (some G)) := by
          obtain ⟨hla, _, _⟩ := HS5.out.base_le (by omega)
          have hli := HS5.out.list
          rw [hla] at hli
          have hsz := HIr.out.size k
          have hs64 := (HOK.out.2 k (by omega)).2.sz1
          have hv1 : vOk [(n, 1)] = true := by
            unfold thereB at hth
            simp only [Bool.and_eq_true, decide_eq_true_eq] at hth
            simp [vOk, validFrom, mayB]; omega
          refine (give_any w.heap.size G x.length lc k x n W5 hli rfl hkl ((HIr.out.small HOK.out).2 _ (getD_mem DZ hkl)) (HIr.out.late k hkl) hv1).mono ?_
          rintro e w' ⟨rfl, ho, hg⟩
          exact ⟨rfl, HS5.out.act hla ho (by unfold givD; rw [List.length_set]) hg, hg⟩
        have HI5 : Hid (GvInv ds (givD x k n)) := HIr.out.step k n
        rw [hW5] at z0 z1
        clear hpl2 he0 hkl hth e0 hb5 HNX
        go_wp2_with fail
        rw [← hW5]
        clear hW5 z0 z1
        refine HGV.out.mono ?_
        rintro e w6 ⟨rfl, hs6, hg6⟩
        have HS6 : Hid (StkAt w6 w.heap.size la ga lc gc G (givD x k n)) := hs6
        have HG6 : Hid (W2.grownBy w6 (some G)) := HG5.out.trans hg6
        clear hs6 hg6 HGV
        go_wp2_with fail
        go_roundw
        case rel => exact ⟨j + 1, givD x k n, by omega, by go_num, HS6, HI5, HNK, HG6⟩
        case measure => simp [intOf]; omega
    · have hjli : ¬ (j : Int) < (ps.length : Int) := by omega
      have HNE : Hid (givN ds ps = (0, x)) := by show _ = _; rw [HNr.out, List.drop_of_length_le (by omega)]; rfl
      obtain ⟨x0, x1, _⟩ := two (HX2.out wr HGr.out)
      have hli := HSr.out.list
      rw [hxl] at hli
      have HQ : Hid (GiveR ds ps w.heap.size (.returned (.tuple #[.slice la ds.length lc, .int .i64 0])) wr) := .inr ⟨HOK.out, _, by rw [HNE.out], by rw [HNE.out]; exact hli⟩
      clear hli
      go_wp2_with fail
      go_ret2
      exact ⟨HQ.out, HBr.out⟩

end Go.Proofs.Ytheomnafmjmpdaa

/- Devices, and places, compared, by the page. -/
namespace Go.Proofs.Ytheomnafmjmpdaa
open Go.RowKit

set_option maxRecDepth 100000 in
set_option maxHeartbeats 400000 in
theorem eqPtrs_any (a b : Option Addr) (l m : List (Int × Int)) (ca cb : Nat) (w : World) (ha : SegsAt w a l) (hb : SegsAt w b m) (hl : l.length ≤ maxLen) :
    Calls Try.prog 32 #[.slice a l.length ca, .slice b m.length cb] w fun e w' => e = .returned (.bool (decide (l = m))) ∧ Below w.heap.size w w' := by
  unfold maxLen at hl
  have HA : Hid (SegsAt w a l) := ha
  have HB : Hid (SegsAt w b m) := hb
  clear ha hb
  by_cases hlen : l.length = m.length
  · have hlen' : ((l.length : Int) != (m.length : Int)) = false := by simp [hlen]
    have HL : Hid (l.length = m.length) := hlen
    clear hlen
    go_enter Try.func32, Try.ntmps32
    go_wp2_with fail
    go_loopw [5] (fun i wr => ∃ (k : Nat), k ≤ l.length ∧ i = .int .i64 k ∧ Below w.heap.size w wr ∧ Hid (∀ j, j < k → l.getD j (0, 0) = m.getD j (0, 0)))
      (fun i _ => l.length - (intOf i).toNat)
    case atStart => exact ⟨0, by omega, rfl, nwR w, fun j hj => by omega⟩
    case round =>
      obtain ⟨k, hk, rfl, hbel, HE⟩ := hrel
      by_cases hlt : k < l.length
      · have hltm : k < m.length := by have := HL.out; omega
        obtain ⟨b1, o1, rfl, x1, y1⟩ := (HA.out.below hbel (Nat.le_refl _)) k hlt
        obtain ⟨b2, o2, rfl, x2, y2⟩ := (HB.out.below hbel (Nat.le_refl _)) k hltm
        by_cases he : l.getD k (0, 0) = m.getD k (0, 0)
        · rw [← he] at x2 y2
          generalize l.getD k (0, 0) = s at x1 y1 x2 y2
          obtain ⟨x, y⟩ := s
          have HEE : Hid (l.getD k (0, 0) = m.getD k (0, 0)) := he
          clear he
          go_wp2_with fail
          go_quiet (fail)
          go_wp2_with fail
          go_roundw
          case rel => exact ⟨k + 1, by omega, by go_num, below_drewN hbel _, fun j hj => by
            by_cases e : j = k
            · subst e; exact HEE.out
            · exact HE.out j (by omega)⟩
          case measure => simp [intOf]; omega
        · have HF : Hid (decide (l = m) = false) := decide_eq_false (fun e => he (by rw [e]))
          generalize l.getD k (0, 0) = s at x1 y1 he
          generalize m.getD k (0, 0) = t at x2 y2 he
          obtain ⟨x, y⟩ := s
          obtain ⟨x', y'⟩ := t
          by_cases hx : x = x'
          · subst hx
            have hy : (y == y') = false := by
              rw [beq_eq_false_iff_ne]; intro e; exact he (by rw [e])
            clear he
            go_wp2_with fail
            go_quiet (fail)
            go_wp2_with fail
            go_ret
            exact ⟨by rw [HF.out]; rfl, below_drewN hbel _⟩
          · have hx' : (x == x') = false := by
              rw [beq_eq_false_iff_ne]; exact hx
            clear he hx
            go_wp2_with fail
            go_quiet (fail)
            go_wp2_with fail
            go_ret
            exact ⟨by rw [HF.out]; rfl, below_drewN hbel _⟩
      · have HF : Hid (decide (l = m) = true) := decide_eq_true (eq_upto HL.out (fun i hi => HE.out i (by omega)))
        go_wp2_with fail
        go_ret
        exact ⟨by rw [HF.out]; rfl, hbel⟩
  · have hlen' : ((l.length : Int) != (m.length : Int)) = true := by rw [bne_iff_ne]; omega
    have HF : Hid (decide (l = m) = false) := decide_eq_false (fun e => hlen (by rw [e]))
    clear hlen
    go_enter Try.func32, Try.ntmps32
    go_wp2_with fail
    go_ret
    exact ⟨by rw [HF.out]; rfl, nwR w⟩

set_option maxRecDepth 100000 in
set_option maxHeartbeats 2000000 in
theorem eqDev_any (u v : Value) (d e : DevD) (w : World) (hu : DevVal w u d) (hv : DevVal w v e) (hs : SmallD d) :
    Calls Try.prog 45 #[u, v] w fun r w' => r = .returned (.bool (decide (d = e))) ∧ Below w.heap.size w w' := by
  obtain ⟨af, cf, al, cl, rfl, hf, hl⟩ := hu
  obtain ⟨bf, df, bl, dl, rfl, gf, gl⟩ := hv
  obtain ⟨W0, hW0⟩ : ∃ W0, W0 = (w.alloc (.cells #[.int .i64 d.id, .int .i64 d.size, .slice af d.free.length cf, .slice al d.late.length cl] 51)).alloc (.cells #[.int .i64 e.id, .int .i64 e.size, .slice bf e.free.length df, .slice bl e.late.length dl] 51) := ⟨_, rfl⟩
  have hb0 : Below w.heap.size w W0 := by rw [hW0]; exact nwA (nwA (nwR w) _) _
  have HB0 : Hid (Below w.heap.size w W0) := hb0
  have hx0 : W0.heap[w.heap.size]? = some (.cells #[.int .i64 d.id, .int .i64 d.size, .slice af d.free.length cf, .slice al d.late.length cl] 51 (0, 0)) := by rw [hW0]; exact (Lib.alloc_old _ _ _ (by simp)).trans (heap_alloc_new w _)
  have hx1 : W0.heap[w.heap.size + 1]? = some (.cells #[.int .i64 e.id, .int .i64 e.size, .slice bf e.free.length df, .slice bl e.late.length dl] 51 (0, 0)) := by rw [hW0]; exact heap_alloc_new2 w _ _
  have HXX : Hid (∀ w', Below W0.heap.size W0 w' → w'.heap[w.heap.size]? = some (.cells #[.int .i64 d.id, .int .i64 d.size, .slice af d.free.length cf, .slice al d.late.length cl] 51 (0, 0)) ∧ w'.heap[w.heap.size + 1]? = some (.cells #[.int .i64 e.id, .int .i64 e.size, .slice bf e.free.length df, .slice bl e.late.length dl] 51 (0, 0))) := fun w' h => ⟨(h.block _ (Array.getElem?_eq_some_iff.1 hx0).1).trans hx0, (h.block _ (Array.getElem?_eq_some_iff.1 hx1).1).trans hx1⟩
  have HE1 : Hid (Calls Try.prog 70 #[.slice af d.free.length cf, .slice bf e.free.length df] W0 fun r w' => r = .returned (.bool (decide (d.free = e.free))) ∧ Below W0.heap.size W0 w') := eqSegs_any af bf d.free e.free cf df W0 (hf.below hb0).1 (gf.below hb0).1 (len_max hs.1)
  have HE2 : Hid (∀ w', Below W0.heap.size W0 w' → Calls Try.prog 70 #[.slice al d.late.length cl, .slice bl e.late.length dl] w' fun r w'' => r = .returned (.bool (decide (d.late = e.late))) ∧ Below w'.heap.size w' w'') := fun w' h => eqSegs_any al bl d.late e.late cl dl w' (hl.below (nwT hb0 h)).1 (gl.below (nwT hb0 h)).1 (len_max hs.2)
  have HD : Hid (∀ p q, decide (d.free = e.free) = p → decide (d.late = e.late) = q → d.id = e.id → d.size = e.size → decide (d = e) = (p && q)) := fun p q h1 h2 h3 h4 => by
    subst h1; subst h2
    obtain ⟨i1, s1, f1, l1⟩ := d
    obtain ⟨i2, s2, f2, l2⟩ := e
    simp only at h3 h4
    subst h3; subst h4
    rw [Bool.eq_iff_iff]; simp
  have HN : Hid (d.id ≠ e.id ∨ d.size ≠ e.size → decide (d = e) = false) := fun h => decide_eq_false (fun e2 => by subst e2; rcases h with h | h <;> exact h rfl)
  obtain ⟨a0, a1, a2, a3, _⟩ := four hx0
  obtain ⟨b0, b1, b2, b3, _⟩ := four hx1
  obtain ⟨p, hp⟩ : ∃ p, decide (d.free = e.free) = p := ⟨_, rfl⟩
  obtain ⟨q, hq⟩ : ∃ q, decide (d.late = e.late) = q := ⟨_, rfl⟩
  have HPQ : Hid (d.id = e.id → d.size = e.size → decide (d = e) = (p && q)) := HD.out p q hp hq
  rw [hp] at HE1
  rw [hq] at HE2
  clear hf hl gf gl hs hx0 hx1 hb0 hp hq HD
  generalize decide (d = e) = res at HPQ HN ⊢
  rw [hW0] at a0 a1 a2 a3 b0 b1 b2 b3
  by_cases h1 : d.id = e.id
  case neg =>
    have HR : Hid (res = false) := HN.out (.inl h1)
    have h1b : (d.id == e.id) = false := beq_eq_false_iff_ne.2 h1
    go_enter Try.func45, Try.ntmps45
    go_wp2_with fail
    go_ret
    exact ⟨by rw [HR.out]; rfl, nwA (nwA (nwR w) _) _⟩
  case pos =>
  by_cases h2 : d.size = e.size
  case neg =>
    have HR : Hid (res = false) := HN.out (.inr h2)
    have h1b : (d.id == e.id) = true := beq_iff_eq.2 h1
    have h2b : (d.size == e.size) = false := beq_eq_false_iff_ne.2 h2
    clear h1
    go_enter Try.func45, Try.ntmps45
    go_wp2_with fail
    go_ret
    exact ⟨by rw [HR.out]; rfl, nwA (nwA (nwR w) _) _⟩
  case pos =>
  have HR : Hid (res = (p && q)) := HPQ.out h1 h2
  have h1b : (d.id == e.id) = true := beq_iff_eq.2 h1
  have h2b : (d.size == e.size) = true := beq_iff_eq.2 h2
  clear h1 h2
  go_enter Try.func45, Try.ntmps45
  go_wp2_with fail
  rw [← hW0]
  clear hW0 a0 a1 a2 a3 b0 b1 b2 b3
  refine HE1.out.mono ?_
  rintro r w1 ⟨rfl, hb1⟩
  have HB1 : Hid (Below W0.heap.size W0 w1) := hb1
  obtain ⟨hy0, hy1⟩ := HXX.out w1 hb1
  obtain ⟨a0, a1, a2, a3, _⟩ := four hy0
  obtain ⟨b0, b1, b2, b3, _⟩ := four hy1
  clear hb1 hy0 hy1 HE1
  cases p
  · go_wp2_with fail
    go_ret
    exact ⟨by rw [HR.out]; rfl, nwT HB0.out HB1.out⟩
  · go_wp2_with fail
    refine (HE2.out w1 HB1.out).mono ?_
    rintro r w2 ⟨rfl, hb2⟩
    have HB2 : Hid (Below w.heap.size w w2) := nwT HB0.out (nwT HB1.out hb2)
    clear hb2 a0 a1 a2 a3 b0 b1 b2 b3
    go_wp2_with fail
    go_ret
    exact ⟨by rw [HR.out]; rfl, HB2.out⟩

theorem ext_getD' {α : Type} (z : α) {xs ys : List α} (hl : xs.length = ys.length) (h : ∀ i, i < xs.length → xs.getD i z = ys.getD i z) : xs = ys := by
  apply List.ext_getElem hl
  intro i h1 h2
  have := h i h1
  simpa [List.getD, h1, h2] using this

set_option maxRecDepth 100000 in
set_option maxHeartbeats 2000000 in
theorem eqDevs_any (a b : Option Addr) (xs ys : List DevD) (ca cb : Nat) (w : World) (hx : DevsAt w a xs) (hy : DevsAt w b ys) (hs : SmallL xs) :
    Calls Try.prog 16 #[.slice a xs.length ca, .slice b ys.length cb] w fun e w' => e = .returned (.bool (decide (xs = ys))) ∧ Below w.heap.size w w' := by
  have HX : Hid (DevsAt w a xs) := hx
  have HY : Hid (DevsAt w b ys) := hy
  have HS : Hid (SmallL xs) := hs
  have hl := hs.1
  clear hx hy hs
  by_cases hlen : xs.length = ys.length
  · have hlen' : ((xs.length : Int) != (ys.length : Int)) = false := by simp [hlen]
    have HL : Hid (xs.length = ys.length) := hlen
    clear hlen
    go_enter Try.func16, Try.ntmps16
    go_wp2_with fail
    go_loopw [5] (fun i wr => ∃ (k : Nat), k ≤ xs.length ∧ i = .int .i64 k ∧ Below w.heap.size w wr ∧ Hid (∀ j, j < k → xs.getD j DZ = ys.getD j DZ))
      (fun i _ => xs.length - (intOf i).toNat)
    case atStart => exact ⟨0, by omega, rfl, nwR w, fun j hj => by omega⟩
    case round =>
      obtain ⟨k, hk, rfl, hb, HE⟩ := hrel
      by_cases hlt : k < xs.length
      · have hlty : k < ys.length := by have := HL.out; omega
        obtain ⟨b1, o1, rfl, x1⟩ := HX.out.dev hlt
        obtain ⟨b2, o2, rfl, y1⟩ := HY.out.dev hlty
        have HSM : Hid (SmallD (xs.getD k DZ)) := HS.out.2 _ (getD_mem DZ hlt)
        obtain ⟨af, cf, al, cl, ⟨c0, c1, c2, c3⟩, hv1⟩ := (x1.below hb).val
        obtain ⟨bf, df, bl, dl, ⟨d0, d1, d2, d3⟩, hv2⟩ := (y1.below hb).val
        generalize hxf : xs.getD k DZ = f at HSM c0 c1 c2 c3 hv1
        generalize hyg : ys.getD k DZ = g at d0 d1 d2 d3 hv2
        have HXF : Hid (xs.getD k DZ = f) := hxf
        have HYG : Hid (ys.getD k DZ = g) := hyg
        clear hxf hyg x1 y1
        have HEQ : Hid (∀ w', Below wr.heap.size wr w' → Calls Try.prog 45 #[.agg #[.int .i64 f.id, .int .i64 f.size, .slice af f.free.length cf, .slice al f.late.length cl], .agg #[.int .i64 g.id, .int .i64 g.size, .slice bf g.free.length df, .slice bl g.late.length dl]] w' fun r w'' => r = .returned (.bool (decide (f = g))) ∧ Below w'.heap.size w' w'') := fun w' h => eqDev_any _ _ f g w' (hv1.below h) (hv2.below h) HSM.out
        have kc0 : ∀ w', Below wr.heap.size wr w' → w'.cell? ⟨b1, o1 + k * 4, none⟩ = some (.int .i64 f.id) := fun w' h => (h.cell (p := ⟨b1, o1 + k * 4, none⟩) (block_lt_of_cell c0)).trans c0
        have kc1 : ∀ w', Below wr.heap.size wr w' → w'.cell? ⟨b1, o1 + k * 4 + 1, none⟩ = some (.int .i64 f.size) := fun w' h => (h.cell (p := ⟨b1, o1 + k * 4 + 1, none⟩) (block_lt_of_cell c1)).trans c1
        have kc2 : ∀ w', Below wr.heap.size wr w' → w'.cell? ⟨b1, o1 + k * 4 + 2, none⟩ = some (.slice af f.free.length cf) := fun w' h => (h.cell (p := ⟨b1, o1 + k * 4 + 2, none⟩) (block_lt_of_cell c2)).trans c2
        have kc3 : ∀ w', Below wr.heap.size wr w' → w'.cell? ⟨b1, o1 + k * 4 + 3, none⟩ = some (.slice al f.late.length cl) := fun w' h => (h.cell (p := ⟨b1, o1 + k * 4 + 3, none⟩) (block_lt_of_cell c3)).trans c3
        have kd0 : ∀ w', Below wr.heap.size wr w' → w'.cell? ⟨b2, o2 + k * 4, none⟩ = some (.int .i64 g.id) := fun w' h => (h.cell (p := ⟨b2, o2 + k * 4, none⟩) (block_lt_of_cell d0)).trans d0
        have kd1 : ∀ w', Below wr.heap.size wr w' → w'.cell? ⟨b2, o2 + k * 4 + 1, none⟩ = some (.int .i64 g.size) := fun w' h => (h.cell (p := ⟨b2, o2 + k * 4 + 1, none⟩) (block_lt_of_cell d1)).trans d1
        have kd2 : ∀ w', Below wr.heap.size wr w' → w'.cell? ⟨b2, o2 + k * 4 + 2, none⟩ = some (.slice bf g.free.length df) := fun w' h => (h.cell (p := ⟨b2, o2 + k * 4 + 2, none⟩) (block_lt_of_cell d2)).trans d2
        have kd3 : ∀ w', Below wr.heap.size wr w' → w'.cell? ⟨b2, o2 + k * 4 + 3, none⟩ = some (.slice bl g.late.length dl) := fun w' h => (h.cell (p := ⟨b2, o2 + k * 4 + 3, none⟩) (block_lt_of_cell d3)).trans d3
        have hS := nwR wr
        have hk1 : (k : Int) < (xs.length : Int) := by omega
        have hk2 : (k : Int) < (ys.length : Int) := by omega
        have hk0 : (0 : Int) ≤ (k : Int) := by omega
        clear c0 c1 c2 c3 d0 d1 d2 d3 hv1 hv2
        go_wp2_with fail
        go_region_held3 (fun w' => Below wr.heap.size wr w') (first | assumption | exact Below.drew (by assumption) | exact nwT (by assumption) (by assumption)) (first
          | (go_at_call 45; refine (HEQ.out _ (by first | assumption | exact Below.drew (by assumption))).mono ?_; rintro e wT ⟨rfl, hbT⟩)
          | fail)
        all_goals
          have hbt : Below wr.heap.size wr wT := by assumption
          have hbq := nwT hb hbt
          clear kc0 kc1 kc2 kc3 kd0 kd1 kd2 kd3
        by_cases he : f = g
        · rw [decide_eq_true he]
          go_wp2_with fail
          go_roundw
          case rel => exact ⟨k + 1, by omega, by go_num, hbq, fun j hj => by
            by_cases e : j = k
            · subst e; rw [HXF.out, HYG.out, he]
            · exact HE.out j (by omega)⟩
          case measure => simp [intOf]; omega
        · rw [decide_eq_false he]
          have HF : Hid (decide (xs = ys) = false) := decide_eq_false (fun e => he (by rw [← HXF.out, ← HYG.out, e]))
          go_wp2_with fail
          go_ret
          exact ⟨by rw [HF.out]; rfl, hbq⟩
      · have hlti : ¬ (k : Int) < (xs.length : Int) := by omega
        have HF : Hid (decide (xs = ys) = true) := decide_eq_true (ext_getD' DZ HL.out (fun i hi => HE.out i (by omega)))
        go_wp2_with fail
        go_ret
        exact ⟨by rw [HF.out]; rfl, hb⟩
  · have hlen' : ((xs.length : Int) != (ys.length : Int)) = true := by rw [bne_iff_ne]; omega
    have HF : Hid (decide (xs = ys) = false) := decide_eq_false (fun e => hlen (by rw [e]))
    clear hlen
    go_enter Try.func16, Try.ntmps16
    go_wp2_with fail
    go_ret
    exact ⟨by rw [HF.out]; rfl, nwR w⟩

end Go.Proofs.Ytheomnafmjmpdaa
