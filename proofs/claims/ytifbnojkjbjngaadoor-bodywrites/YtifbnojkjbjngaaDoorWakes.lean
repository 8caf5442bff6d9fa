/- What wakes. -/
import Derived.Test.YtifbnojkjbjngaaDoorWrite
import Derived.Test.YtifbnojkjbjngaaDoorHvy
namespace Go.Proofs.YtifbnojkjbjngaaDoor
open Go.RowKit

/-- Join of a text's own pieces. -/
theorem bjoin_pcs (a : Option Addr) (l : List UInt8) (ca m : Nat) (n : Int) (w : World) (hx : StrsAt w a (pcs l)) (hm : (pcs l).length = m) (hcap : m ≤ ca) (hl : l.length ≤ 200) (hn : n = l.length) :
    Calls Tryd.prog 16 #[.int .i64 n, .slice a m ca] w fun e w' => e = .returned (.tuple #[.string (bs l), .int .i64 0]) ∧ Below w.heap.size w w' := by
  subst hm hn
  refine (bjoin_any a (pcs l) ca l.length w hx hcap (by rw [pcs_len]; unfold many maxLen; omega)).mono ?_
  rintro e w' ⟨rfl, hb⟩
  refine ⟨?_, hb⟩
  unfold joined; rw [if_pos (may_pcs hl), tx_pcs]

theorem cap_of {w : World} {base : Nat} {v : Value} {xs : List ByteArray} (h : OwnStrs w base v xs) : ∃ a cap, v = .slice a xs.length cap ∧ StrsAt w a xs ∧ CapOk a cap xs.length := by
  have hh := h
  rcases h.2 with ⟨hv, hn⟩ | ⟨g, cap, cur, hv, hb, _, hnc, _⟩
  · exact ⟨none, 0, by rw [hv, hn], .inl (List.length_eq_zero_iff.1 hn), by omega, (fun _ => rfl), (fun p e => by cases e)⟩
  · obtain ⟨a, c, e, hs⟩ := hh.at
    rw [hv] at e
    injection e with e1 e2 e3
    subst e1 e3
    exact ⟨_, cap, hv, hs, hnc, (fun e => by cases e), (fun p e _ => by injection e with e; rw [← e])⟩

set_option maxHeartbeats 1000000 in
theorem wakes_any (w : World) : Calls Tryd.prog 20 #[] w fun e w' => e = .returned (.bool true) ∧ Below w.heap.size w w' := by
  go_enter Tryd.func20, Tryd.ntmps20
  go_wp2_with fail
  refine (bcut_any ⟨#[97]⟩ w).mono ?_
  rintro e w1 ⟨⟨v, rfl, ho⟩, hb1⟩
  rw [if_pos (by decide)] at ho ⊢
  obtain ⟨av, cv, rfl, hs, hc⟩ := cap_of ho
  have HS : Hid (StrsAt w1 av (pcs (ls ⟨#[97]⟩))) := hs
  clear ho hs
  have hl1 : (pcs (ls ⟨#[97]⟩)).length = 1 := by rw [pcs_len]; rfl
  rw [hl1] at hc ⊢
  go_wp2_with fail
  refine (bjoin_pcs av (ls ⟨#[97]⟩) cv 1 1 _ HS.out hl1 hc.1 (by decide) rfl).mono ?_
  rintro e w2 ⟨rfl, hb2⟩
  rw [bs_ls]
  go_wp2_with (go_at_call 11; refine (num_any _ _).mono ?_; rintro e w' ⟨rfl, rfl⟩)
  go_ret
  exact ⟨rfl, nwT hb1 hb2⟩

end Go.Proofs.YtifbnojkjbjngaaDoor
