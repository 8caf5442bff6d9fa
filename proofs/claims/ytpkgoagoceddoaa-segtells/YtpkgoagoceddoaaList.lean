/- seg.List, seg.Of by their contracts. -/
import Derived.Test.YtpkgoagoceddoaaCount
namespace Go.Proofs.Ytpkgoagoceddoaa
open Go.RowKit

/-- the numbers from x on, n of them -/
def ups (x : Int) (n : Nat) : List Int := (List.range n).map fun (i : Nat) => x + (i : Int)
theorem ups_snoc (x : Int) (n : Nat) : ups x (n + 1) = ups x n ++ [x + n] := by simp [ups, List.range_succ]
def listOf : List (Int × Int) → List Int
  | [] => []
  | s :: r => ups s.1 s.2.toNat ++ listOf r
theorem listOf_snoc (l : List (Int × Int)) (s : Int × Int) : listOf (l ++ [s]) = listOf l ++ ups s.1 s.2.toNat := by
  induction l with
  | nil => simp [listOf]
  | cons a r ih => simp [listOf, ih]
theorem listOf_len (l : List (Int × Int)) : ∀ m, validFrom m l = true → ((listOf l).length : Int) = sumLen l := by
  induction l with
  | nil => intro m _; rfl
  | cons s r ih =>
    intro m h
    simp only [validFrom, Bool.and_eq_true] at h
    have hm := mayB_of h.1.1
    have := ih _ h.2
    simp only [listOf, sumLen, List.length_append, ups, List.length_map, List.length_range]
    omega
theorem valid_take : ∀ (l : List (Int × Int)) (m : Int) (k : Nat), validFrom m l = true → validFrom m (l.take k) = true
  | [], _, _, _ => by simp [validFrom]
  | s :: r, m, 0, _ => by simp [validFrom]
  | s :: r, m, k + 1, h => by
    simp only [validFrom, Bool.and_eq_true, List.take_succ_cons] at h ⊢
    exact ⟨h.1, valid_take r _ k h.2⟩
theorem listOf_bd (l : List (Int × Int)) (k : Nat) (h : vOk l = true) : (listOf (l.take k)).length ≤ 64 := by
  have h1 := listOf_len (l.take k) 0 (valid_take l 0 k h)
  have h2 := sumLen_bd l 0 k h
  omega

theorem Try.info3 : (Try.prog.info? 3).map (fun i => (i.zero, i.size, i.bytes)) = some (some (.int .i64 0), 1, 8) := by kernel_rfl

def OwnInts (w : World) (base : Nat) (v : Value) (l : List Int) : Prop := w.ownsRow base 3 1 v l.length (l.map (Value.int .i64))
theorem OwnInts.below {w w' : World} {base : Nat} {v : Value} {l : List Int} (h : OwnInts w base v l) (hb : Below w.heap.size w w') : OwnInts w' base v l :=
  h.kept (gbOf hb none) (by cases hv : v.ownBlock <;> simp)
def numsOf (l : List (Int × Int)) : List Int := if vOk l then listOf l else []

theorem OwnInts.snoc {w : World} {base : Nat} {v : Value} {l : List Int} {x : Int} (h : w.ownsRow base 3 1 v (l.length + 1) (l.map (Value.int .i64) ++ [.int .i64 x])) : OwnInts w base v (l ++ [x]) := by
  unfold OwnInts
  have e : (l ++ [x]).length = l.length + 1 := by simp
  rw [e, List.map_append]
  exact h

theorem own_ne_box {w : World} {base g n : Nat} {v x y : Value} {xs : List Value} (h : w.ownsRow base 3 1 v n xs) (hb : w.heap[g]? = some (.cells #[x, y] 59 (0, 0))) : v.ownBlock ≠ some g := by
  intro e
  rcases h.2 with ⟨rfl, _⟩ | ⟨r, cap, cur, rfl, _, hg, _⟩
  · simp [Value.ownBlock] at e
  · simp [Value.ownBlock] at e
    subst e
    rw [hg] at hb
    simp at hb

theorem cell_one (w : World) (x : Value) (t : TypeId) : ∀ j u, [x][j]? = some u → (w.alloc (.cells #[x] t)).cell? ((⟨w.heap.size, 0, none⟩ : Addr).add j) = some u := by
  intro j u hu
  match j, hu with
  | 0, hu => simp at hu; subst hu; simp [Addr.add]

set_option maxHeartbeats 1000000 in
theorem list_any (a : Option Addr) (l : List (Int × Int)) (cap : Nat) (w : World) (hs : SegsAt w a l) (hl : l.length ≤ maxLen) :
    Calls Try.prog 12 #[.slice a l.length cap] w fun e w' => ∃ v, e = .returned (.tuple #[v, .int .i64 (errOf (vOk l))]) ∧ OwnInts w' w.heap.size v (numsOf l) ∧ Below w.heap.size w w' := by
  have HS : Hid (SegsAt w a l) := hs
  clear hs
  cases hv : vOk l
  · go_enter Try.func12, Try.ntmps12
    go_wp2_with fail
    refine (check_any a l cap _ HS.out hl).mono ?_
    rintro e w1 ⟨rfl, hb1⟩
    rw [show validFrom 0 l = false from hv, show errOf false = 1 from rfl]
    go_wp2_with fail
    go_ret2
    exact ⟨_, rfl, by rw [numsOf, hv]; exact World.ownsRow_nil _ _ _ _, hb1⟩
  · have hl' := hl
    unfold maxLen at hl'
    obtain ⟨i0, hi, hz0, hz1, hz2⟩ := info_parts Try.info3
    go_enter Try.func12, Try.ntmps12
    go_wp2_with fail
    refine (check_any a l cap _ HS.out hl).mono ?_
    rintro e w1 ⟨rfl, hb1⟩
    rw [show validFrom 0 l = true from hv, show errOf true = 0 from rfl]
    go_wp2_with fail
    go_loopw [5, 17] (fun v i wr => ∃ (k : Nat), k ≤ l.length ∧ i = .int .i64 k ∧ OwnInts wr w.heap.size v (listOf (l.take k)) ∧ Below w.heap.size w wr)
      (fun _ i _ => l.length - (intOf i).toNat)
    case atStart => exact ⟨0, by omega, rfl, World.ownsRow_nil _ _ _ _, hb1⟩
    case round =>
      obtain ⟨k, hk, rfl, hO, hb⟩ := hrel
      have HO : Hid (OwnInts wr w.heap.size u5 (listOf (l.take k))) := hO
      clear hO
      by_cases hlt : k < l.length
      · obtain ⟨b, off, rfl, h1, h2⟩ := (HS.out.below hb (Nat.le_refl _)) k hlt
        have hm := valid_mem hv k hlt
        have HT : Hid (listOf (l.take (k + 1)) = listOf (l.take k) ++ ups (l.getD k (0, 0)).1 (l.getD k (0, 0)).2.toNat) := by
          show _ = _
          rw [take_snocD l (0, 0) k hlt, listOf_snoc]
        have HBD : Hid ((listOf (l.take (k + 1))).length ≤ 64) := listOf_bd l (k + 1) hv
        generalize l.getD k (0, 0) = s at h1 h2 HT hm
        obtain ⟨x, y⟩ := s
        obtain ⟨m0, m1, m2, m3⟩ := mayB_of hm
        clear hm
        simp only at h1 h2 HT
        go_wp2_with fail
        have HX : Hid (((wr.alloc (.cells #[.int .i64 x, .int .i64 y] 57)).alloc (.cells #[.int .i64 x, .int .i64 y] 59)).heap[wr.heap.size + 1]? = some (.cells #[.int .i64 x, .int .i64 y] 59 (0, 0))) := heap_alloc2_new _ _ _
        generalize wr.heap.size = B at HX ⊢
        go_loopw [5, 9] (fun v j wq => ∃ (n : Nat), (n : Int) ≤ y ∧ j = .int .i64 (x + n) ∧ OwnInts wq w.heap.size v (listOf (l.take k) ++ ups x n) ∧ Hid (wq.heap[B + 1]? = some (.cells #[.int .i64 x, .int .i64 y] 59 (0, 0))) ∧ Below w.heap.size w wq)
          (fun _ j _ => (x + y - intOf j).toNat)
        case atStart => exact ⟨0, by omega, by go_num, by simpa [ups] using HO.out.below (nwA (nwA (nwR _) _) _), HX, nwA (nwA hb _) _⟩
        case round =>
          obtain ⟨n, hn, rfl, hO2, HX2, hbq⟩ := hrel
          have HO2 : Hid (OwnInts wr w.heap.size u5 (listOf (l.take k) ++ ups x n)) := hO2
          clear hO2
          have c0 : wr.cell? ⟨B + 1, 0, none⟩ = some (.int .i64 x) := by simp [World.cell?, HX2.out]
          have c1 : wr.cell? ⟨B + 1, 1, none⟩ = some (.int .i64 y) := by simp [World.cell?, HX2.out]
          by_cases hny : (n : Int) < y
          · have HU : Hid (listOf (l.take k) ++ ups x (n + 1) = listOf (l.take k) ++ ups x n ++ [x + n]) := by
              show _ = _
              rw [ups_snoc, List.append_assoc]
            have HL : Hid ((listOf (l.take k) ++ ups x n).length + 1 ≤ 64) := by
              have h64 := HBD.out
              rw [HT.out] at h64
              simp only [List.length_append, ups, List.length_map, List.length_range] at h64 ⊢
              show _ + 1 ≤ 64
              omega
            go_wp2_with fail
            refine (end_any _ _ _ (by omega) (by omega) (by omega) (by omega)).mono ?_
            rintro e w2 ⟨rfl, hb2⟩
            have HO3 : Hid (OwnInts w2 w.heap.size u5 (listOf (l.take k) ++ ups x n)) := HO2.out.below hb2
            have HX3 : Hid (w2.heap[B + 1]? = some (.cells #[.int .i64 x, .int .i64 y] 59 (0, 0))) := by
              show _ = _
              rw [hb2.block _ (Array.getElem?_eq_some_iff.1 HX2.out).1]; exact HX2.out
            generalize listOf (l.take k) ++ ups x n = ns at HO3 HU HL HO2
            have hsz : w.heap.size ≤ (w2.alloc (.cells #[.int .i64 (x + n)] 3)).heap.size := (nwA (nwT hbq hb2) _).size
            have hc3 : ns.length + 1 ≤ maxLen := by unfold maxLen; have := HL.out; omega
            have hc4 : (ns.length + 1) * 8 ≤ 140737488355328 := by have := HL.out; omega
            go_wp2_with (at_builtin; refine wpList_append_own _ rfl (.tmp 32) (.tmp 34) 23 rfl w.heap.size 3 i0 (.int .i64 0) 1 8 Try.underlying23 hi hz0 hz1 hz2 rfl (by decide) u5 ns.length (ns.map (Value.int .i64)) rfl (World.ownsRow.alloc HO3.out _) ⟨w2.heap.size, 0, none⟩ 1 1 [.int .i64 (x + n)] rfl rfl (cell_one _ _ _) (by simp [Value.oneCell']) hc3 hc4 hsz ?_; intro v' w3 hown hgrow _)
            have hne := own_ne_box HO3.out HX3.out
            have HB3 : Hid (Below w.heap.size w w3) := (nwA (nwT hbq hb2) _).grown hgrow (nwA (nwT hbq hb2) _).size (fun q e => (HO3.out.lt q e).1)
            have HX4 : Hid (w3.heap[B + 1]? = some (.cells #[.int .i64 x, .int .i64 y] 59 (0, 0))) := by
              show _ = _
              have hlt2 := (Array.getElem?_eq_some_iff.1 HX3.out).1
              rw [hgrow.block _ (by simp; omega) (fun e => hne e.symm), Below.heap_alloc _ _ _ hlt2]; exact HX3.out
            go_roundw
            case rel => exact ⟨n + 1, by omega, by go_num, by rw [HU.out]; exact OwnInts.snoc hown, HX4, HB3.out⟩
            case measure => simp [intOf]; omega
          · have hny' : (n : Int) = y := by omega
            have HO4 : Hid (OwnInts wr w.heap.size u5 (listOf (l.take (k + 1)))) := by
              rw [HT.out]
              have e : y.toNat = n := by omega
              rw [e]; exact HO2.out
            clear hny' HO2
            go_wp2_with fail
            refine (end_any _ _ _ (by omega) (by omega) (by omega) (by omega)).mono ?_
            rintro e w2 ⟨rfl, hb2⟩
            go_wp2_with fail
            go_roundw
            case rel => exact ⟨k + 1, by omega, by go_num, HO4.out.below hb2, nwT hbq hb2⟩
            case measure => simp [intOf]; omega
      · have hk' : k = l.length := by omega
        subst hk'
        go_wp2_with fail
        go_ret2
        exact ⟨_, rfl, by rw [numsOf, hv]; rw [List.take_length] at HO; exact HO.out, hb⟩

end Go.Proofs.Ytpkgoagoceddoaa
