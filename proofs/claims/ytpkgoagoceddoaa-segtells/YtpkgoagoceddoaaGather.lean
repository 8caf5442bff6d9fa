/- seg's gather by its contract. -/
import Derived.Test.YtpkgoagoceddoaaArr
namespace Go.Proofs.Ytpkgoagoceddoaa
open Go.RowKit

abbrev RowV := Option Addr × Nat × List (Int × Int)
def row0 : RowV := (none, 0, [])
def RowsAt (w : World) (a : Option Addr) (ls : List RowV) : Prop :=
  ∀ i, i < ls.length → ∃ b off, a = some ⟨b, off, none⟩ ∧ w.cell? ⟨b, off + i, none⟩ = some (.slice (ls.getD i row0).1 (ls.getD i row0).2.2.length (ls.getD i row0).2.1) ∧
    SegsAt w (ls.getD i row0).1 (ls.getD i row0).2.2 ∧ (ls.getD i row0).2.2.length ≤ maxLen

theorem RowsAt.below {w w' : World} {a : Option Addr} {ls : List RowV} (h : RowsAt w a ls) {B : Nat} (hb : Below B w w') (hB : w.heap.size ≤ B) : RowsAt w' a ls := by
  intro i hi
  obtain ⟨b, off, ha, h1, h2, h3⟩ := h i hi
  have hlt : b < w.heap.size := block_lt_of_cell h1
  exact ⟨b, off, ha, (hb.cell (p := ⟨b, _, none⟩) (by show b < B; omega)).trans h1, h2.below hb hB, h3⟩

theorem RowsAt.segs {w : World} {a : Option Addr} {ls : List RowV} (h : RowsAt w a ls) {i : Nat} (hi : i < ls.length) : SegsAt w (ls.getD i row0).1 (ls.getD i row0).2.2 := by
  obtain ⟨_, _, _, _, h2, _⟩ := h i hi
  exact h2

def inSeg (s : Int × Int) (k : Nat) : Bool := decide (s.1 ≤ k ∧ (k : Int) < s.1 + s.2)
def memS (l : List (Int × Int)) (k : Nat) : Bool := l.any fun s => inSeg s k
def memAny (ls : List RowV) (k : Nat) : Bool := ls.any fun r => memS r.2.2 k
def allOk (ls : List RowV) : Bool := ls.all fun r => validFrom 0 r.2.2
def gset (ls : List RowV) : Nat → Bool := if allOk ls then memAny ls else fun _ => false

theorem valid_mem {l : List (Int × Int)} : ∀ {m : Int}, validFrom m l = true → ∀ j, j < l.length → mayB (l.getD j (0, 0)).1 (l.getD j (0, 0)).2 = true := by
  induction l with
  | nil => intro m _ j hj; simp at hj
  | cons s r ih =>
    intro m h j hj
    simp only [validFrom, Bool.and_eq_true] at h
    cases j with
    | zero => simpa using h.1.1
    | succ j => simpa using ih h.2 j (by simpa using hj)

theorem take_snocD {α : Type} (l : List α) (d : α) (k : Nat) (h : k < l.length) : l.take (k + 1) = l.take k ++ [l.getD k d] := by
  rw [List.take_succ_eq_append_getElem h]; simp [h]

theorem memS_take (l : List (Int × Int)) (j k : Nat) (h : j < l.length) : memS (l.take (j + 1)) k = (memS (l.take j) k || inSeg (l.getD j (0, 0)) k) := by
  rw [take_snocD l (0, 0) j h]; simp [memS]
theorem memAny_take (ls : List RowV) (i k : Nat) (h : i < ls.length) : memAny (ls.take (i + 1)) k = (memAny (ls.take i) k || memS (ls.getD i row0).2.2 k) := by
  rw [take_snocD ls row0 i h]; simp [memAny]
theorem allOk_false {ls : List RowV} (i : Nat) (h : i < ls.length) (hv : validFrom 0 (ls.getD i row0).2.2 = false) : allOk ls = false := by
  rw [allOk, List.all_eq_false]
  exact ⟨ls.getD i row0, by simp [h], by rw [hv]; simp⟩
theorem allOk_take (ls : List RowV) (i : Nat) (h : i < ls.length) : allOk (ls.take (i + 1)) = (allOk (ls.take i) && validFrom 0 (ls.getD i row0).2.2) := by
  rw [take_snocD ls row0 i h]; simp [allOk]

structure GInv (w wr : World) (s : Nat → Bool) : Prop where
  acc : SetIs wr (w.heap.size + 1) s
  res : SetIs wr w.heap.size (fun _ => false)
  nw : Below w.heap.size w wr

theorem GInv.start (w : World) (ls : List RowV) : GInv w ((w.alloc (.cells (setArr fun _ => false) 64)).alloc (.cells (setArr fun _ => false) 64)) (memAny (ls.take 0)) := by
  refine ⟨?_, (SetIs.new w).alloc _, nwA (nwA (nwR w) _) _⟩
  have h := SetIs.new (w.alloc (.cells (setArr fun _ => false) 64))
  have e : (w.alloc (.cells (setArr fun _ => false) 64)).heap.size = w.heap.size + 1 := by simp
  rw [e] at h
  exact h

theorem GInv.below {w wr w1 : World} {s : Nat → Bool} (h : GInv w wr s) (hb : Below wr.heap.size wr w1) : GInv w w1 s := ⟨h.acc.below hb, h.res.below hb, nwT h.nw hb⟩
theorem GInv.grown {w wr w1 : World} {s s' : Nat → Bool} (h : GInv w wr s) (hg : wr.grownBy w1 (some (w.heap.size + 1))) (hs : SetIs w1 (w.heap.size + 1) s') : GInv w w1 s' :=
  ⟨hs, h.res.grown hg (by omega), h.nw.grown hg h.nw.size (fun k e => by have := Option.some.inj e; omega)⟩
theorem GInv.congr {w wr : World} {s s' : Nat → Bool} (h : GInv w wr s) (e : ∀ k, s k = s' k) : GInv w wr s' := by
  have : s = s' := funext e
  rwa [← this]

set_option maxHeartbeats 1000000 in
theorem gather_any (a : Option Addr) (ls : List RowV) (cap : Nat) (w : World) (hs : RowsAt w a ls) (hl : ls.length ≤ maxLen) :
    Calls Try.prog 37 #[.slice a ls.length cap] w fun e w' =>
      e = .returned (.tuple #[.agg (setArr (gset ls)), .int .i64 (errOf (allOk ls))]) ∧ Below w.heap.size w w' := by
  unfold maxLen at hl
  go_enter Try.func37, Try.ntmps37
  go_wp2_with (refine wpList_alloc64 rfl rfl ?_)
  go_loopw [12] (fun i wr => ∃ (k : Nat), k ≤ ls.length ∧ i = .int .i64 k ∧ GInv w wr (memAny (ls.take k)) ∧ Hid (allOk (ls.take k) = true))
    (fun i _ => ls.length - (intOf i).toNat)
  case atStart => exact ⟨0, by omega, rfl, GInv.start w ls, rfl⟩
  case round =>
    obtain ⟨k, hk, rfl, hG, HA⟩ := hrel
    have HG : Hid (GInv w wr (memAny (ls.take k))) := hG
    clear hG
    by_cases hlt : k < ls.length
    · have h2 := hs.segs hlt
      obtain ⟨b, off, rfl, h1, _, h3⟩ := (hs.below HG.out.nw (Nat.le_refl _)) k hlt
      have HT1 : Hid (∀ q, memAny (ls.take (k + 1)) q = (memAny (ls.take k) q || memS (ls.getD k row0).2.2 q)) := fun q => memAny_take ls k q hlt
      have HT2 : Hid (allOk (ls.take (k + 1)) = (allOk (ls.take k) && validFrom 0 (ls.getD k row0).2.2)) := allOk_take ls k hlt
      have HT3 : Hid (validFrom 0 (ls.getD k row0).2.2 = false → allOk ls = false) := allOk_false k hlt
      generalize ls.getD k row0 = r at h1 h2 h3 HT1 HT2 HT3
      obtain ⟨ra, rc, l⟩ := r
      simp only at h1 h2 h3 HT1 HT2 HT3
      have HS : Hid (SegsAt w ra l) := h2
      clear h2 hs
      unfold maxLen at h3
      cases hv : validFrom 0 l
      · go_wp2_with fail
        refine (check_any ra l rc _ (HS.out.below HG.out.nw (Nat.le_refl _)) (by unfold maxLen; omega)).mono ?_
        rintro e w1 ⟨rfl, hb1⟩
        rw [hv, show errOf false = 1 from rfl]
        have HG1 : Hid (GInv w w1 (memAny (ls.take k))) := HG.out.below hb1
        have HR : Hid (SetIs w1 w.heap.size (fun _ => false)) := HG1.out.res
        go_wp2_with (first | refine wpList_build64 rfl rfl ?_ | refine wpList_store64 rfl (.tmp 2) (.tmp 20) rfl w.heap.size _ _ rfl rfl HR.out ?_)
        refine bodyPost_ret (results_set_tmp rfl _ _ w.heap.size _ rfl HR.out.setRow) rfl ⟨?_, ?_⟩
        · rw [gset, HT3.out hv]; rfl
        · exact HG1.out.nw.grown (gbSetRow _ _ _) HG1.out.nw.size (fun k e => by have := Option.some.inj e; omega)
      · go_wp2_with fail
        refine (check_any ra l rc _ (HS.out.below HG.out.nw (Nat.le_refl _)) (by unfold maxLen; omega)).mono ?_
        rintro e w1 ⟨rfl, hb1⟩
        rw [hv, show errOf true = 0 from rfl]
        have HG1 : Hid (GInv w w1 (memAny (ls.take k))) := HG.out.below hb1
        have hgl : w.heap.size + 1 < w1.heap.size := HG1.out.acc.lt
        clear HG hb1
        go_wp2_with fail
        go_loopw [24] (fun j wq => ∃ (n : Nat), n ≤ l.length ∧ j = .int .i64 n ∧ GInv w wq (fun q => memAny (ls.take k) q || memS (l.take n) q))
          (fun j _ => l.length - (intOf j).toNat)
        case atStart => exact ⟨0, by omega, rfl, HG1.out.congr (fun q => by simp [memS])⟩
        case round =>
          obtain ⟨n, hn, rfl, hG2⟩ := hrel
          have HG2 : Hid _ := hG2
          clear hG2
          have hgl2 : w.heap.size + 1 < wr.heap.size := HG2.out.acc.lt
          by_cases hnl : n < l.length
          · obtain ⟨b2, off2, rfl, g1, g2⟩ := (HS.out.below HG2.out.nw (Nat.le_refl _)) n hnl
            have hm := valid_mem hv n hnl
            have HM : Hid (∀ q, memS (l.take (n + 1)) q = (memS (l.take n) q || inSeg (l.getD n (0, 0)) q)) := fun q => memS_take l n q hnl
            generalize l.getD n (0, 0) = sg at g1 g2 hm HM
            obtain ⟨x, y⟩ := sg
            obtain ⟨m0, m1, m2, m3⟩ := mayB_of hm
            clear hm
            go_wp2_with fail
            refine (setAdd_any (w.heap.size + 1) _ x y _ (HG2.out.acc.alloc _) (by omega) (by omega) (by omega)).mono ?_
            rintro e w2 ⟨rfl, hset, hgb⟩
            have HG3 : Hid (GInv w w2 (fun q => memAny (ls.take k) q || memS (l.take (n + 1)) q)) := by
              refine ((HG2.out.below (nwA (nwR _) _)).grown hgb hset).congr (fun q => ?_)
              rw [HM.out q, Bool.or_assoc]; rfl
            clear hset hgb HG2
            go_wp2_with fail
            go_roundw
            case rel => exact ⟨n + 1, by omega, by go_num, HG3.out⟩
            case measure => simp [intOf]; omega
          · have hn' : n = l.length := by omega
            subst hn'
            have HG3 : Hid (GInv w wr (memAny (ls.take (k + 1)))) := by
              refine HG2.out.congr (fun q => ?_)
              rw [HT1.out q, List.take_length]
            have HA3 : Hid (allOk (ls.take (k + 1)) = true) := by
              show _ = true
              rw [HT2.out, HA.out, hv]; rfl
            clear HG2 HA
            go_wp2_with fail
            go_roundw
            case rel => exact ⟨k + 1, by omega, by go_num, HG3.out, HA3⟩
            case measure => simp [intOf]; omega
    · have hk' : k = ls.length := by omega
      subst hk'
      rw [List.take_length] at HG HA
      have HR : Hid (SetIs wr w.heap.size (fun _ => false)) := HG.out.res
      have HC : Hid (SetIs wr (w.heap.size + 1) (memAny ls)) := HG.out.acc
      go_wp2_with (first | refine wpList_load64 rfl (.tmp 4) rfl (w.heap.size + 1) _ rfl HC.out ?_ | refine wpList_store64 rfl (.tmp 2) (.tmp 33) rfl w.heap.size _ _ rfl rfl HR.out ?_)
      refine bodyPost_ret (results_set_tmp rfl _ _ w.heap.size _ rfl HR.out.setRow) rfl ⟨?_, ?_⟩
      · rw [gset, HA.out]; rfl
      · exact HG.out.nw.grown (gbSetRow _ _ _) HG.out.nw.size (fun k e => by have := Option.some.inj e; omega)

end Go.Proofs.Ytpkgoagoceddoaa
