/- hermitageref1.Set by its contract. -/
import Derived.Test.YtpkgoagoceddoaaRefArr
namespace Go.Proofs.Ytpkgoagoceddoaa
open Go.RowKit

structure GJ (w wr : World) (s : Nat → Bool) : Prop where
  acc : SetJ wr (w.heap.size + 1) s
  res : SetJ wr w.heap.size (fun _ => false)
  nw : Below w.heap.size w wr

theorem GJ.start (w : World) (s : Nat → Bool) (hs : ∀ k, s k = false) : GJ w ((w.alloc (.cells (setArr fun _ => false) 50)).alloc (.cells (setArr fun _ => false) 50)) s := by
  have e : s = fun _ => false := funext hs
  subst e
  refine ⟨?_, (SetJ.new w _).alloc _, nwA (nwA (nwR w) _) _⟩
  have h := SetJ.new (w.alloc (.cells (setArr fun _ => false) 50)) (fun _ => false)
  have e : (w.alloc (.cells (setArr fun _ => false) 50)).heap.size = w.heap.size + 1 := by simp
  rw [e] at h
  exact h
theorem GJ.drewN {w wr : World} {s : Nat → Bool} (h : GJ w wr s) (n : Nat) : GJ w (wr.drewN n) s := ⟨h.acc, h.res, below_drewN h.nw n⟩
theorem GJ.congr {w wr : World} {s s' : Nat → Bool} (h : GJ w wr s) (e : ∀ k, s k = s' k) : GJ w wr s' := by
  have : s = s' := funext e
  rwa [← this]
theorem GJ.set {w wr : World} {s : Nat → Bool} {x : Int} {q : Nat} (h : GJ w wr fun j => s j || decide (x ≤ j ∧ (j : Int) < q)) (hx : x ≤ q) :
    GJ w (wr.setCell ⟨w.heap.size + 1, q, none⟩ (.bool true)) (fun j => s j || decide (x ≤ j ∧ (j : Int) < (q + 1 : Nat))) := by
  refine ⟨?_, World.rowIs.setOther h.res (by show w.heap.size ≠ w.heap.size + 1; omega) _, h.nw.setCell (p := ⟨w.heap.size + 1, q, none⟩) (by show w.heap.size ≤ w.heap.size + 1; omega) _⟩
  refine (World.rowIs.set h.acc q (.bool true)).congr fun j _ => ?_
  simp only [Ytpkgoagoceddoaa.setRow]
  by_cases e : j = q
  · subst e; simp [hx]; omega
  · rw [if_neg e]
    congr 2
    simp only [decide_eq_decide]
    omega

set_option maxRecDepth 100000 in
set_option maxHeartbeats 1000000 in
theorem refSet_any (a : Option Addr) (l : List (Int × Int)) (cap : Nat) (w : World) (hs : SegsAt w a l) (hl : l.length ≤ 500) (hv : vOk l = true) :
    Calls Try.prog 34 #[.slice a l.length cap] w fun e w' => e = .returned (.agg (setArr (memS l))) ∧ Below w.heap.size w w' := by
  have HS : Hid (SegsAt w a l) := hs
  clear hs
  go_enter Try.func34, Try.ntmps34
  go_wp2_with (with_reducible refine wpList_alloc50 rfl rfl ?_)
  go_loopw [4] (fun i wr => ∃ (n : Nat), n ≤ l.length ∧ i = .int .i64 n ∧ GJ w wr (memS (l.take n)))
    (fun i _ => l.length - (intOf i).toNat)
  case atStart => exact ⟨0, by omega, rfl, GJ.start w _ (fun k => by simp [memS])⟩
  case round =>
    obtain ⟨n, hn, rfl, hG⟩ := hrel
    have HG : Hid (GJ w wr (memS (l.take n))) := hG
    clear hG
    by_cases hnl : n < l.length
    · obtain ⟨b, off, rfl, h1, h2⟩ := (HS.out.below HG.out.nw (Nat.le_refl _)) n hnl
      have HSG : Hid (SegsAt w (some ⟨b, off, none⟩) l) := HS.out
      have HX1 : Hid (w.cell? ⟨b, off + n * 2, none⟩ = some (.int .i64 (l.getD n (0, 0)).1) ∧ w.cell? ⟨b, off + n * 2 + 1, none⟩ = some (.int .i64 (l.getD n (0, 0)).2)) := by
        obtain ⟨b', off', hbo, g1, g2⟩ := HSG.out n hnl
        simp only [Option.some.injEq, Addr.mk.injEq, and_true] at hbo
        obtain ⟨rfl, rfl⟩ := hbo
        exact ⟨g1, g2⟩
      have hm := valid_mem hv n hnl
      have HM : Hid (∀ q, memS (l.take (n + 1)) q = (memS (l.take n) q || inSeg (l.getD n (0, 0)) q)) := fun q => memS_take l n q hnl
      have hni : (n : Int) < (l.length : Int) := by omega
      generalize l.getD n (0, 0) = sg at h1 h2 hm HM HX1
      obtain ⟨x, y⟩ := sg
      obtain ⟨m0, m1, m2, m3⟩ := mayB_of hm
      clear hm HSG
      simp only at h1 h2 HX1
      have hwr : IntKind.i64.wrap (x + y) = x + y := wrap_any (by omega) (by omega)
      go_wp2_with fail
      go_loopw [5] (fun j wq => ∃ (q : Nat), x ≤ q ∧ (q : Int) ≤ x + y ∧ j = .int .i64 q ∧ GJ w wq (fun k => memS (l.take n) k || decide (x ≤ k ∧ (k : Int) < q)))
        (fun j _ => (x + y - intOf j).toNat)
      case atStart =>
        obtain ⟨q, rfl⟩ := Int.eq_ofNat_of_zero_le m0
        exact ⟨q, by omega, by omega, rfl, HG.out.congr (fun k => by
          have : decide ((q : Int) ≤ k ∧ (k : Int) < q) = false := by rw [decide_eq_false_iff_not]; omega
          rw [this, Bool.or_false])⟩
      case round =>
        obtain ⟨q, hq0, hq1, rfl, hG2⟩ := hrel
        have HG2 : Hid _ := hG2
        clear h1 h2 hG2
        have h1 : wr.cell? ⟨b, off + n * 2, none⟩ = some (.int .i64 x) := (HG2.out.nw.cell (p := ⟨b, off + n * 2, none⟩) (block_lt_of_cell HX1.out.1)).trans HX1.out.1
        have h2 : wr.cell? ⟨b, off + n * 2 + 1, none⟩ = some (.int .i64 y) := (HG2.out.nw.cell (p := ⟨b, off + n * 2 + 1, none⟩) (block_lt_of_cell HX1.out.2)).trans HX1.out.2
        by_cases hlt : (q : Int) < x + y
        · have d1 : decide ((q : Int) < x + y) = true := decide_eq_true hlt
          have hold := HG2.out.acc.cell (i := q) (by omega)
          have hfr := HG2.out.acc.frozen q
          have hq64 : q < 64 := by omega
          have hgl := HG2.out.acc.lt
          simp only [setRow] at hold
          go_wp2_with fail
          go_quiet (fail)
          go_wp2_with fail
          go_roundw
          case rel => exact ⟨q + 1, by omega, by omega, by go_num, (HG2.out.drewN _).set hq0⟩
          case measure => simp [intOf]; omega
        · have d1 : decide ((q : Int) < x + y) = false := decide_eq_false hlt
          have HG3 : Hid (GJ w wr (memS (l.take (n + 1)))) := HG2.out.congr (fun k => by
            rw [HM.out k, inSeg]
            have : (q : Int) = x + y := by omega
            rw [this])
          go_wp2_with fail
          go_quiet (fail)
          go_wp2_with fail
          go_roundw
          case rel => exact ⟨n + 1, by omega, by go_num, HG3.out.drewN _⟩
          case measure => simp [intOf]; omega
    · have hn' : n = l.length := by omega
      subst hn'
      rw [List.take_length] at HG
      have HC : Hid (SetJ wr (w.heap.size + 1) (memS l)) := HG.out.acc
      have HR : Hid (SetJ wr w.heap.size (fun _ => false)) := HG.out.res
      go_wp2_with (with_reducible refine stop_load50 rfl ?_)
      unfold Stop
      refine wpList_load50 rfl (.tmp 3) rfl (w.heap.size + 1) _ rfl HC.out ?_
      go_wp2_with (with_reducible refine stop_store50 rfl ?_)
      unfold Stop
      refine wpList_store50 rfl (.tmp 2) (.tmp 34) rfl w.heap.size _ _ rfl rfl HR.out ?_
      go_wp2_with fail
      refine bodyPost_ret (results_setj rfl _ _ w.heap.size (memS l) rfl HR.out.setRow) rfl ⟨rfl, ?_⟩
      exact HG.out.nw.grown (gbSetRow _ _ _) HG.out.nw.size (fun k e => by have := Option.some.inj e; omega)

end Go.Proofs.Ytpkgoagoceddoaa
