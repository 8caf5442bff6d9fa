/- The reference's List, Count, Not; EqNumbers: by their contracts. -/
import Derived.Test.YtpkgoagoceddoaaTellA
namespace Go.Proofs.Ytpkgoagoceddoaa
open Go.RowKit

def rlist (s : Nat → Bool) (k : Nat) : List Int := ((List.range k).filter s).map fun (j : Nat) => (j : Int)
theorem rlist_hit {s : Nat → Bool} {k : Nat} (h : s k = true) : rlist s (k + 1) = rlist s k ++ [(k : Int)] := by
  simp [rlist, List.range_succ, List.filter_append, h]
theorem rlist_miss {s : Nat → Bool} {k : Nat} (h : s k = false) : rlist s (k + 1) = rlist s k := by
  simp [rlist, List.range_succ, List.filter_append, h]
theorem rlist_len (s : Nat → Bool) (k : Nat) : (rlist s k).length ≤ k := by
  have := List.length_filter_le s (List.range k)
  simp [rlist] at this ⊢
  exact this

theorem inc_ext : ∀ (a b : List Int), a.Pairwise (· < ·) → b.Pairwise (· < ·) → (∀ z, z ∈ a ↔ z ∈ b) → a = b
  | [], [], _, _, _ => rfl
  | [], y :: b, _, _, h => by have := (h y).2 (by simp); simp at this
  | x :: a, [], _, _, h => by have := (h x).1 (by simp); simp at this
  | x :: a, y :: b, ha, hb, h => by
    rw [List.pairwise_cons] at ha hb
    have e : x = y := by
      have h1 := (h x).1 (by simp)
      have h2 := (h y).2 (by simp)
      rcases List.mem_cons.1 h1 with c | c
      · exact c
      · rcases List.mem_cons.1 h2 with d | d
        · exact d.symm
        · have := hb.1 x c; have := ha.1 y d; omega
    subst e
    rw [inc_ext a b ha.2 hb.2 (fun z => by
      have hz := h z
      constructor
      · intro hm
        have := ha.1 z hm
        rcases List.mem_cons.1 (hz.1 (by simp [hm])) with c | c
        · omega
        · exact c
      · intro hm
        have := hb.1 z hm
        rcases List.mem_cons.1 (hz.2 (by simp [hm])) with c | c
        · omega
        · exact c)]

theorem ups_mem (x : Int) (n : Nat) (z : Int) : z ∈ ups x n ↔ x ≤ z ∧ z < x + n := by
  simp only [ups, List.mem_map, List.mem_range]
  constructor
  · rintro ⟨i, hi, rfl⟩; omega
  · intro h; exact ⟨(z - x).toNat, by omega, by omega⟩
theorem ups_inc (x : Int) (n : Nat) : (ups x n).Pairwise (· < ·) := by
  rw [ups, List.pairwise_map]
  exact List.Pairwise.imp (fun h => by omega) List.pairwise_lt_range
theorem listOf_inc : ∀ (l : List (Int × Int)) (m : Int), validFrom m l = true → (listOf l).Pairwise (· < ·) ∧ ∀ z ∈ listOf l, m ≤ z
  | [], _, _ => by simp [listOf]
  | s :: r, m, h => by
    simp only [validFrom, Bool.and_eq_true, Bool.not_eq_true', decide_eq_false_iff_not] at h
    have hm := mayB_of h.1.1
    have ih := listOf_inc r _ h.2
    rw [listOf, List.pairwise_append]
    refine ⟨⟨ups_inc _ _, ih.1, fun a ha b hb => ?_⟩, fun z hz => ?_⟩
    · have := (ups_mem _ _ _).1 ha
      have := ih.2 b hb
      omega
    · rcases List.mem_append.1 hz with c | c
      · have := (ups_mem _ _ _).1 c; omega
      · have := ih.2 z c; omega
theorem listOf_rlist {l : List (Int × Int)} (hv : vOk l = true) : listOf l = rlist (memS l) 64 := by
  have hi := listOf_inc l 0 hv
  refine inc_ext _ _ hi.1 ?_ (fun z => ?_)
  · rw [rlist, List.pairwise_map]
    refine List.Pairwise.imp (fun h => ?_) (List.Pairwise.filter _ List.pairwise_lt_range)
    omega
  · have hm : ∀ k : Nat, ((k : Int) ∈ listOf l ↔ memS l k = true) := fun k => by
      rw [← memI_listOf l 0 hv k, memI, List.any_eq_true]
      constructor
      · intro h; exact ⟨_, h, by simp⟩
      · rintro ⟨z, hz, h⟩
        have : z = (k : Int) := of_decide_eq_true h
        rwa [← this]
    simp only [rlist, List.mem_map, List.mem_filter, List.mem_range]
    constructor
    · intro h
      obtain ⟨k, rfl⟩ := Int.eq_ofNat_of_zero_le (hi.2 z h)
      have h2 := (hm k).1 h
      exact ⟨k, ⟨(valid_ge hv h2).2, h2⟩, rfl⟩
    · rintro ⟨k, ⟨_, h2⟩, rfl⟩
      exact (hm k).2 h2

set_option maxHeartbeats 1000000 in
theorem refList_any (a : Option Addr) (l : List (Int × Int)) (cap : Nat) (w : World) (hs : SegsAt w a l) (hl : l.length ≤ 500) (hv : vOk l = true) :
    Calls Try.prog 14 #[.slice a l.length cap] w fun e w' => ∃ v, e = .returned v ∧ OwnInts w' w.heap.size v (listOf l) ∧ Below w.heap.size w w' := by
  obtain ⟨i0, hi, hz0, hz1, hz2⟩ := info_parts Try.info3
  have HS : Hid (SegsAt w a l) := hs
  have HE : Hid (listOf l = rlist (memS l) 64) := listOf_rlist hv
  clear hs
  go_enter Try.func14, Try.ntmps14
  go_wp2_with fail
  refine (refSet_any a l cap _ HS.out hl hv).mono ?_
  rintro e w1 ⟨rfl, hb1⟩
  have HN : Hid (SetJ (w1.alloc (.cells (setArr fun _ => false) 50)) w1.heap.size (fun _ => false)) := SetJ.new w1 _
  go_wp2_with (first | (with_reducible refine wpList_alloc50 rfl rfl ?_) | (with_reducible refine stop_store50 rfl ?_))
  unfold Stop
  refine wpList_store50 rfl (.tmp 4) (.tmp 7) rfl w1.heap.size (memS l) _ rfl rfl HN.out ?_
  go_wp2_with fail
  have HJ : Hid (SetJ ((w1.alloc (.cells (setArr fun _ => false) 50)).setRow w1.heap.size (setArr (memS l))) w1.heap.size (memS l)) := HN.out.setRow
  have HB : Hid (Below w.heap.size w ((w1.alloc (.cells (setArr fun _ => false) 50)).setRow w1.heap.size (setArr (memS l)))) := (nwA hb1 _).grown (gbSetRow _ _ _) (nwA hb1 _).size (fun q e => by have := Option.some.inj e; have := hb1.size; omega)
  generalize (w1.alloc (.cells (setArr fun _ => false) 50)).setRow w1.heap.size (setArr (memS l)) = w2 at HJ HB ⊢
  clear HN hb1 HS
  generalize w1.heap.size = g at HJ ⊢
  generalize memS l = s at HJ HE
  go_loopw [3, 5] (fun v i wr => ∃ (k : Nat), k ≤ 64 ∧ i = .int .i64 k ∧ OwnInts wr w2.heap.size v (rlist s k) ∧ Below w2.heap.size w2 wr)
    (fun _ i _ => 64 - (intOf i).toNat)
  case atStart => exact ⟨0, by omega, rfl, World.ownsRow_nil _ _ _ _, nwR w2⟩
  case round =>
    obtain ⟨k, hk, rfl, hO, hb⟩ := hrel
    have HO : Hid (OwnInts wr w2.heap.size u3 (rlist s k)) := hO
    clear hO
    by_cases hlt : k < 64
    · have hlt' : (k : Int) < 64 := by omega
      have c0 := (HJ.out.below hb).cell hlt
      simp only [setRow] at c0
      cases hs : s k
      · rw [hs] at c0
        have HO2 : Hid (OwnInts wr w2.heap.size u3 (rlist s (k + 1))) := by rw [rlist_miss hs]; exact HO.out
        go_wp2_with fail
        go_roundw
        case rel => exact ⟨k + 1, by omega, by go_num, HO2.out, hb⟩
        case measure => simp [intOf]; omega
      · rw [hs] at c0
        have HU : Hid (rlist s (k + 1) = rlist s k ++ [(k : Int)]) := rlist_hit hs
        have HL : Hid ((rlist s k).length ≤ 64) := by have := rlist_len s k; show _ ≤ 64; omega
        generalize rlist s k = L at HO HU HL
        have hsz : w2.heap.size ≤ (wr.alloc (.cells #[.int .i64 (k : Int)] 3)).heap.size := (nwA hb _).size
        have hc3 : L.length + 1 ≤ maxLen := by unfold maxLen; have := HL.out; omega
        have hc4 : (L.length + 1) * 8 ≤ 140737488355328 := by have := HL.out; omega
        go_wp2_with (at_builtin; refine wpList_append_own _ rfl (.tmp 15) (.tmp 17) 23 rfl w2.heap.size 3 i0 (.int .i64 0) 1 8 Try.underlying23 hi hz0 hz1 hz2 rfl (by decide) u3 L.length (L.map (Value.int .i64)) rfl (World.ownsRow.alloc HO.out _) ⟨wr.heap.size, 0, none⟩ 1 1 [.int .i64 (k : Int)] rfl rfl (cell_one _ _ _) (by simp [Value.oneCell']) hc3 hc4 hsz ?_; intro v' w3 hown hgrow _)
        have HB3 : Hid (Below w2.heap.size w2 w3) := (nwA hb _).grown hgrow (nwA hb _).size (fun q e => (HO.out.lt q e).1)
        have HO3 : Hid (OwnInts w3 w2.heap.size v' (rlist s (k + 1))) := by rw [HU.out]; exact OwnInts.snoc hown
        clear hown hgrow
        go_roundw
        case rel => exact ⟨k + 1, by omega, by go_num, HO3.out, HB3.out⟩
        case measure => simp [intOf]; omega
    · have hk' : k = 64 := by omega
      subst hk'
      go_wp2_with fail
      go_ret
      exact ⟨_, rfl, by rw [HE.out]; exact ownsRow_base HO.out HB.out.size, nwT HB.out hb⟩

set_option maxHeartbeats 400000 in
theorem refCount_any (a : Option Addr) (l : List (Int × Int)) (cap : Nat) (w : World) (hs : SegsAt w a l) (hl : l.length ≤ 500) (hv : vOk l = true) :
    Calls Try.prog 13 #[.slice a l.length cap] w fun e w' => e = .returned (.int .i64 (sumLen l)) ∧ Below w.heap.size w w' := by
  have HE : Hid (((listOf l).length : Int) = sumLen l) := listOf_len l 0 hv
  go_enter Try.func13, Try.ntmps13
  go_wp2_with fail
  refine (refList_any a l cap _ hs hl hv).mono ?_
  rintro e w1 ⟨v, rfl, ho, hb1⟩
  obtain ⟨aL, cL, rfl, _⟩ := ho.at
  clear ho
  go_wp2_with fail
  go_ret
  exact ⟨by rw [← HE.out]; rfl, hb1⟩

theorem eq_ints {l m : List Int} (hl : l.length = m.length) (h : ∀ i, i < l.length → l.getD i 0 = m.getD i 0) : l = m := by
  apply List.ext_getElem hl
  intro i h1 h2
  have := h i h1
  simpa [h1, h2] using this

set_option maxHeartbeats 400000 in
theorem eqInts_any (a b : Option Addr) (l m : List Int) (ca cb : Nat) (w : World) (ha : IntsAt w a l) (hb : IntsAt w b m) (hl : l.length ≤ maxLen) :
    Calls Try.prog 17 #[.slice a l.length ca, .slice b m.length cb] w fun e w' => e = .returned (.bool (decide (l = m))) ∧ Below w.heap.size w w' := by
  unfold maxLen at hl
  have HA : Hid (IntsAt w a l) := ha
  have HB : Hid (IntsAt w b m) := hb
  clear ha hb
  by_cases hlen : l.length = m.length
  · have hlen' : ((l.length : Int) != (m.length : Int)) = false := by simp [hlen]
    have HL : Hid (l.length = m.length) := hlen
    clear hlen
    go_enter Try.func17, Try.ntmps17
    go_wp2_with fail
    go_loopw [5] (fun i wr => ∃ (k : Nat), k ≤ l.length ∧ i = .int .i64 k ∧ Below w.heap.size w wr ∧ Hid (∀ j, j < k → l.getD j 0 = m.getD j 0))
      (fun i _ => l.length - (intOf i).toNat)
    case atStart => exact ⟨0, by omega, rfl, nwR w, fun j hj => by omega⟩
    case round =>
      obtain ⟨k, hk, rfl, hbel, HE⟩ := hrel
      by_cases hlt : k < l.length
      · have hltm : k < m.length := by have := HL.out; omega
        obtain ⟨b1, o1, rfl, x1⟩ := (HA.out.below hbel (Nat.le_refl _)) k hlt
        obtain ⟨b2, o2, rfl, x2⟩ := (HB.out.below hbel (Nat.le_refl _)) k hltm
        by_cases he : l.getD k 0 = m.getD k 0
        · rw [← he] at x2
          generalize l.getD k 0 = x at x1 x2
          have HEE : Hid (l.getD k 0 = m.getD k 0) := he
          clear he
          go_wp2_with fail
          go_quiet (fail)
          go_wp2_with fail
          go_roundw
          case rel => exact ⟨k + 1, by omega, by go_num, below_drewN hbel _, fun j hj => by
            by_cases e : j = k
            · subst e; exact HEE.out
            · exact HE.out j (by omega)⟩
          case measure => simp [intOf]; omega
        · have HF : Hid (decide (l = m) = false) := decide_eq_false (fun e => he (by rw [e]))
          generalize l.getD k 0 = x at x1 he
          generalize m.getD k 0 = x' at x2 he
          have hx' : (x != x') = true := by rw [bne_iff_ne]; exact he
          clear he
          go_wp2_with fail
          go_quiet (fail)
          go_wp2_with fail
          go_ret
          exact ⟨by rw [HF.out]; rfl, below_drewN hbel _⟩
      · have HF : Hid (decide (l = m) = true) := decide_eq_true (eq_ints HL.out (fun i hi => HE.out i (by omega)))
        go_wp2_with fail
        go_ret
        exact ⟨by rw [HF.out]; rfl, hbel⟩
  · have hlen' : ((l.length : Int) != (m.length : Int)) = true := by rw [bne_iff_ne]; omega
    have HF : Hid (decide (l = m) = false) := decide_eq_false (fun e => hlen (by rw [e]))
    clear hlen
    go_enter Try.func17, Try.ntmps17
    go_wp2_with fail
    go_ret
    exact ⟨by rw [HF.out]; rfl, nwR w⟩

theorem notOf_two {l : List (Int × Int)} {n : Int} (h : notOk l n = true) (hn : n ≠ 0) :
    vOk [((0 : Int), n)] = true ∧ segsOf (fun k => memS [((0 : Int), n)] k && !memS l k) = notOf l n := by
  have h' := h
  simp only [notOk, Bool.and_eq_true, decide_eq_true_eq] at h'
  refine ⟨by simp [vOk, validFrom, mayB]; omega, ?_⟩
  rw [notOf, h]
  simp only [if_true]
  refine segsOf_congr (fun k _ => ?_)
  rw [memS_one]
  congr 1
  simp only [inSeg, decide_eq_decide]
  omega
theorem notOf_zero {l : List (Int × Int)} (h : notOk l 0 = true) : notOf l 0 = [] := by
  rw [notOf, h]
  exact segsOf_none (fun k _ => by
    have : ¬ ((k : Int) < 0) := by omega
    simp [this])

set_option maxHeartbeats 400000 in
theorem refNot_any (a : Option Addr) (l : List (Int × Int)) (cap : Nat) (n : Int) (w : World) (hs : SegsAt w a l) (hl : l.length ≤ 500) (hv : vOk l = true) (hok : notOk l n = true) :
    Calls Try.prog 23 #[.slice a l.length cap, .int .i64 n] w fun e w' => ∃ v, e = .returned v ∧ OwnSegs w' w.heap.size v (notOf l n) ∧ Below w.heap.size w w' := by
  have HS : Hid (SegsAt w a l) := hs
  clear hs
  by_cases hn : n = 0
  · subst hn
    have HZ : Hid (notOf l 0 = []) := notOf_zero hok
    clear hok
    go_enter Try.func23, Try.ntmps23
    go_wp2_with fail
    go_ret
    exact ⟨.slice none 0 0, rfl, by rw [HZ.out]; exact World.ownsRow_nil _ _ _ _, nwR w⟩
  · have hn' : (n == 0) = false := by rw [beq_eq_false_iff_ne]; exact hn
    have HT : Hid (vOk [((0 : Int), n)] = true ∧ segsOf (fun k => memS [((0 : Int), n)] k && !memS l k) = notOf l n) := notOf_two hok hn
    clear hn hok
    go_enter Try.func23, Try.ntmps23
    go_wp2_with fail
    refine (refTwo1_any (some ⟨w.heap.size, 0, none⟩) a [((0 : Int), n)] l 1 cap _ (segs1 w 0 n 57) (HS.out.alloc _) (by simp) hl HT.out.1 hv).mono ?_
    rintro e w1 ⟨v, rfl, ho, hb1⟩
    rw [HT.out.2] at ho
    have HO : Hid _ := ho
    clear ho
    go_wp2_with fail
    go_ret
    exact ⟨_, rfl, ownsRow_base HO.out (by simp), nwT (nwA (nwR w) _) hb1⟩

end Go.Proofs.Ytpkgoagoceddoaa
