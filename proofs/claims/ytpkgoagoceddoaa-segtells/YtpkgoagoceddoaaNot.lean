/- seg.Not by its contract. -/
import Derived.Test.YtpkgoagoceddoaaMath
import Derived.Deep.RegionWith
namespace Go.Proofs.Ytpkgoagoceddoaa
open Go.RowKit

def endL (l : List (Int × Int)) : Int := if l = [] then 0 else (l.getD (l.length - 1) (0, 0)).1 + (l.getD (l.length - 1) (0, 0)).2

theorem endL_bd {l : List (Int × Int)} (h : vOk l = true) : 0 ≤ endL l ∧ endL l ≤ 64 := by
  unfold endL
  split
  · omega
  · rename_i hne
    have hp : 0 < l.length := List.length_pos_iff.2 hne
    have hm := mayB_of (valid_mem h (l.length - 1) (by omega))
    omega

set_option maxHeartbeats 400000 in
theorem endOf_any (a : Option Addr) (l : List (Int × Int)) (cap : Nat) (w : World) (hs : SegsAt w a l) (hl : l.length ≤ maxLen) (hv : vOk l = true) :
    Calls Try.prog 38 #[.slice a l.length cap] w fun e w' => e = .returned (.int .i64 (endL l)) ∧ Below w.heap.size w w' := by
  have HS : Hid (SegsAt w a l) := hs
  clear hs
  unfold maxLen at hl
  by_cases hz : l.length = 0
  · have hne : l = [] := List.length_eq_zero_iff.1 hz
    subst hne
    go_enter Try.func38, Try.ntmps38
    go_wp2_with fail
    go_ret
    exact ⟨rfl, nwR w⟩
  · have hz' : ((l.length : Int) == 0) = false := by simpa using hz
    obtain ⟨b, off, rfl, h1, h2⟩ := HS.out (l.length - 1) (by omega)
    have hm := mayB_of (valid_mem hv (l.length - 1) (by omega))
    have HE : Hid (endL l = (l.getD (l.length - 1) (0, 0)).1 + (l.getD (l.length - 1) (0, 0)).2) := by
      show _ = _
      rw [endL, if_neg (fun e => hz (by rw [e]; rfl))]
    generalize l.getD (l.length - 1) (0, 0) = s at h1 h2 HE hm
    obtain ⟨x, y⟩ := s
    simp only at h1 h2 HE hm
    have hidx : (l.length : Int) - 1 = ((l.length - 1 : Nat) : Int) := by omega
    generalize hN : l.length - 1 = N at h1 h2 hidx
    have hNl : (N : Int) < (l.length : Int) := by omega
    clear hN
    go_enter Try.func38, Try.ntmps38
    go_wp2_with fail
    refine (end_any _ _ _ (by omega) (by omega) (by omega) (by omega)).mono ?_
    rintro e w1 ⟨rfl, hb1⟩
    go_wp2_with fail
    go_ret
    exact ⟨by rw [HE.out]; rfl, hb1⟩

set_option maxHeartbeats 400000 in
theorem not1_any (gn g : Nat) (n : Int) (s : Nat → Bool) (k : Nat) (w : World) (hn : w.cell? ⟨gn, 0, none⟩ = some (.int .i64 n)) (hs : SetIs w g s) (hk : k < 64) :
    Calls Try.prog 40 #[.int .i64 k, .pointer (some ⟨gn, 0, none⟩), .pointer (some ⟨g, 0, none⟩)] w fun e w' => e = .returned (.bool (decide ((k : Int) < n) && !s k)) ∧ w' = w := by
  have HS : Hid (SetIs w g s) := hs
  clear hs
  by_cases hlt : (k : Int) < n
  · go_enter Try.func40, Try.ntmps40
    go_wp2_with fail
    refine (setHas_any g s k _ HS.out hk).mono ?_
    rintro e w1 ⟨rfl, rfl⟩
    go_wp2_with fail
    go_ret
    exact ⟨by simp [hlt], rfl⟩
  · go_enter Try.func40, Try.ntmps40
    go_wp2_with fail
    go_ret
    exact ⟨by simp; omega, rfl⟩

theorem nw_drew {a b : World} (h : Below a.drew.heap.size a.drew b) : Below a.heap.size a b := ⟨h.os, h.tape, h.output, h.size, h.block⟩

def notOk (l : List (Int × Int)) (n : Int) : Bool := vOk l && (decide (0 ≤ n) && (decide (n ≤ 64) && decide (endL l ≤ n)))
def notOf (l : List (Int × Int)) (n : Int) : List (Int × Int) := if notOk l n then segsOf (fun k => decide ((k : Int) < n) && !memS l k) else []

set_option maxHeartbeats 1000000 in
theorem not_any (a : Option Addr) (l : List (Int × Int)) (cap : Nat) (n : Int) (w : World) (hs : SegsAt w a l) (hl : l.length ≤ maxLen) :
    Calls Try.prog 20 #[.slice a l.length cap, .int .i64 n] w fun e w' =>
      ∃ v, e = .returned (.tuple #[v, .int .i64 (errOf (notOk l n))]) ∧ OwnSegs w' w.heap.size v (notOf l n) ∧ Below w.heap.size w w' := by
  have HS : Hid (SegsAt w a l) := hs
  clear hs
  cases hv : vOk l
  · have HF : Hid (notOk l n = false) := by show _ = _; rw [notOk, hv]; rfl
    go_enter Try.func20, Try.ntmps20
    go_wp2_with fail
    obtain ⟨W1, hW1⟩ : ∃ W1, W1 = w.alloc (.cells #[.int .i64 n] 3) := ⟨_, rfl⟩
    have hs1 : W1.heap.size = w.heap.size + 1 := by rw [hW1]; simp
    have HN1 : Hid (Below w.heap.size w W1) := by rw [hW1]; exact nwA (nwR w) _
    have HC1 : Hid (W1.cell? ⟨w.heap.size, 0, none⟩ = some (.int .i64 n)) := by rw [hW1]; show _ = _; simp
    rw [← hW1, ← hs1]
    clear hW1
    refine (gather_one a l cap 1 W1 (HS.out.below HN1.out (Nat.le_refl _)) hl).mono ?_
    rintro e w3 ⟨rfl, hb3⟩
    rw [hv, show errOf false = 1 from rfl]
    have HN3 : Hid (SetIs (w3.alloc (.cells (setArr fun _ => false) 64)) w3.heap.size (fun _ => false)) := SetIs.new w3
    go_wp2_with (first | (with_reducible refine wpList_alloc64 rfl rfl ?_) | (with_reducible refine wpList_stop rfl ?_))
    unfold Stop
    refine wpList_store64 rfl (.tmp 6) (.tmp 12) rfl w3.heap.size _ _ rfl rfl HN3.out ?_
    go_wp2_with fail
    go_ret2
    have hb4 := nwT HN1.out hb3
    refine ⟨.slice none 0 0, by rw [HF.out]; rfl, ?_, ?_⟩
    · rw [notOf, HF.out]; exact World.ownsRow_nil _ _ _ _
    · exact (nwA hb4 _).grown (gbSetRow _ _ _) (nwA hb4 _).size (fun k e => by have := Option.some.inj e; have := hb4.size; omega)
  · have hbd := endL_bd hv
    go_enter Try.func20, Try.ntmps20
    go_wp2_with fail
    obtain ⟨W1, hW1⟩ : ∃ W1, W1 = w.alloc (.cells #[.int .i64 n] 3) := ⟨_, rfl⟩
    have hs1 : W1.heap.size = w.heap.size + 1 := by rw [hW1]; simp
    have HN1 : Hid (Below w.heap.size w W1) := by rw [hW1]; exact nwA (nwR w) _
    have HC1 : Hid (W1.cell? ⟨w.heap.size, 0, none⟩ = some (.int .i64 n)) := by rw [hW1]; show _ = _; simp
    rw [← hW1, ← hs1]
    clear hW1
    refine (gather_one a l cap 1 W1 (HS.out.below HN1.out (Nat.le_refl _)) hl).mono ?_
    rintro e w3 ⟨rfl, hb3⟩
    rw [hv, gset_one _ _ _ hv, show errOf true = 0 from rfl]
    have HN3 : Hid (SetIs (w3.alloc (.cells (setArr fun _ => false) 64)) w3.heap.size (fun _ => false)) := SetIs.new w3
    go_wp2_with (first | (with_reducible refine wpList_alloc64 rfl rfl ?_) | (with_reducible refine wpList_stop rfl ?_))
    unfold Stop
    refine wpList_store64 rfl (.tmp 6) (.tmp 12) rfl w3.heap.size _ _ rfl rfl HN3.out ?_
    have hb4 := nwT HN1.out hb3
    have HB5 : Hid (Below w.heap.size w ((w3.alloc (.cells (setArr fun _ => false) 64)).setRow w3.heap.size (setArr (memS l)))) :=
      (nwA hb4 _).grown (gbSetRow _ _ _) (nwA hb4 _).size (fun k e => by have := Option.some.inj e; have := hb4.size; omega)
    have HS5 : Hid (SetIs ((w3.alloc (.cells (setArr fun _ => false) 64)).setRow w3.heap.size (setArr (memS l))) w3.heap.size (memS l)) := HN3.out.setRow
    have hlt3 : w.heap.size < w3.heap.size := by have := hb3.size; omega
    have hc5 : ((w3.alloc (.cells (setArr fun _ => false) 64)).setRow w3.heap.size (setArr (memS l))).cell? ⟨w.heap.size, 0, none⟩ = some (.int .i64 n) := by
      have hg : w3.grownBy ((w3.alloc (.cells (setArr fun _ => false) 64)).setRow w3.heap.size (setArr (memS l))) (some w3.heap.size) := gbTrans (World.grownBy_alloc _ _ _) (gbSetRow _ _ _)
      rw [gbCell hg hlt3 (by omega), hb3.cell (p := ⟨w.heap.size, 0, none⟩) (by show w.heap.size < W1.heap.size; omega)]
      exact HC1.out
    have HSG : Hid (SegsAt ((w3.alloc (.cells (setArr fun _ => false) 64)).setRow w3.heap.size (setArr (memS l))) a l) := HS.out.below HB5.out (Nat.le_refl _)
    generalize ((w3.alloc (.cells (setArr fun _ => false) 64)).setRow w3.heap.size (setArr (memS l))) = w5 at HB5 HS5 hc5 HSG ⊢
    clear HN3 hb3 hb4 HN1 HC1 HS
    generalize w3.heap.size = g at *
    by_cases h0 : n < 0
    · have HF : Hid (notOk l n = false) := by
        show _ = _
        rw [notOk, hv, decide_eq_false (show ¬ 0 ≤ n by omega)]; rfl
      have hd0 : decide (n < 0) = true := decide_eq_true h0
      go_wp2_with fail
      go_quiet (fail)
      go_wp2_with fail
      go_ret2
      refine ⟨.slice none 0 0, by rw [HF.out]; rfl, ?_, below_drewN HB5.out _⟩
      rw [notOf, HF.out]; exact World.ownsRow_nil _ _ _ _
    · by_cases h6 : 64 < n
      · have HF : Hid (notOk l n = false) := by
          show _ = _
          rw [notOk, hv, decide_eq_false (show ¬ n ≤ 64 by omega)]; simp
        have hd0 : decide (n < 0) = false := decide_eq_false h0
        go_wp2_with fail
        go_quiet (fail)
        go_wp2_with fail
        go_ret2
        refine ⟨.slice none 0 0, by rw [HF.out]; rfl, ?_, below_drewN HB5.out _⟩
        rw [notOf, HF.out]; exact World.ownsRow_nil _ _ _ _
      · have hd0 : decide (n < 0) = false := decide_eq_false h0
        have hd6 : decide (64 < n) = false := decide_eq_false h6
        by_cases he : n < endL l
        · have HF : Hid (notOk l n = false) := by
            show _ = _
            rw [notOk, decide_eq_false (show ¬ endL l ≤ n by omega)]; simp
          go_wp2_with fail
          go_region_with (go_at_call 38; refine (endOf_any a l cap _ (by exact HSG.out) hl hv).mono ?_; rintro e w6 ⟨rfl, hb6⟩; have hc6 : w6.cell? ⟨w.heap.size, 0, none⟩ = some (.int .i64 n) := (hb6.cell (p := ⟨w.heap.size, 0, none⟩) (block_lt_of_cell hc5)).trans hc5)
          all_goals go_wp2_with fail
          all_goals go_ret2
          all_goals (refine ⟨.slice none 0 0, by rw [HF.out]; rfl, by rw [notOf, HF.out]; exact World.ownsRow_nil _ _ _ _, nwT HB5.out (nw_drew hb6)⟩)
        · have HF : Hid (notOk l n = true) := by
            show _ = _
            rw [notOk, hv, decide_eq_true (show endL l ≤ n by omega), decide_eq_true (show 0 ≤ n by omega), decide_eq_true (show n ≤ 64 by omega)]; rfl
          go_wp2_with fail
          go_region_with (go_at_call 38; refine (endOf_any a l cap _ (by exact HSG.out) hl hv).mono ?_; rintro e w6 ⟨rfl, hb6⟩; have hc6 : w6.cell? ⟨w.heap.size, 0, none⟩ = some (.int .i64 n) := (hb6.cell (p := ⟨w.heap.size, 0, none⟩) (block_lt_of_cell hc5)).trans hc5)
          all_goals
            go_wp2_with fail
            refine (pick_any 40 #[] #[.pointer (some ⟨w.heap.size, 0, none⟩), .pointer (some ⟨g, 0, none⟩)] (fun k => decide ((k : Int) < n) && !memS l k) _ Try.call40 (fun k w' hk hb => ?_)).mono ?_
            · exact (not1_any w.heap.size g n (memS l) k w' ((hb.cell (p := ⟨w.heap.size, 0, none⟩) (block_lt_of_cell hc6)).trans hc6) ((HS5.out.below (nw_drew hb6)).below hb) hk).mono fun e w2 h => ⟨h.1, h.2 ▸ nwR w'⟩
            · rintro e w7 ⟨v, rfl, hown, hb7⟩
              have HO : Hid _ := hown
              clear hown
              go_wp2_with fail
              go_ret2
              refine ⟨_, by rw [HF.out]; rfl, ?_, nwT (nwT HB5.out (nw_drew hb6)) hb7⟩
              have e : notOf l n = segsOf (fun k => decide ((k : Int) < n) && !memS l k) := by rw [notOf, HF.out]; rfl
              rw [e]
              exact ownsRow_base HO.out (nwT HB5.out (nw_drew hb6)).size

end Go.Proofs.Ytpkgoagoceddoaa
