/- Under: a path held against another one, by the program. -/
import Derived.Test.YtdpighcaieajjaaGreatEqs
import Derived.Test.YtdpighcaieajjaaGreatRead
namespace Go.Proofs.YtdpighcaieajjaaGreat
open Go.RowKit

theorem equal_any (a b : Option Addr) (xs ys : List ByteArray) (ca cb : Nat) (w : World) (hx : StrsAt w a xs) (hy : StrsAt w b ys) (hl : xs.length ≤ maxLen) (hl2 : ys.length ≤ maxLen) :
    Calls Tryz.prog 120 #[.slice a xs.length ca, .slice b ys.length cb] w fun e w' => e = .returned (.bool (decide (xs = ys))) ∧ ∃ q, w' = w.drewN q := by
  unfold maxLen at hl hl2
  by_cases hlen : xs.length = ys.length
  · rcases hx with rfl | ⟨b1, o1, rfl, hc1⟩
    · have hy0 : ys = [] := List.length_eq_zero_iff.1 hlen.symm
      subst hy0
      refine (Tryz.slices_Equal_string_empty a b ca 0 cb w (by omega)).mono ?_
      rintro e w' ⟨rfl, rfl⟩
      exact ⟨by simp, 0, rfl⟩
    · rcases hy with rfl | ⟨b2, o2, rfl, hc2⟩
      · have hx0 : xs = [] := List.length_eq_zero_iff.1 hlen
        subst hx0
        refine (Tryz.slices_Equal_string_empty _ b ca 0 cb w (by omega)).mono ?_
        rintro e w' ⟨rfl, rfl⟩
        exact ⟨by simp, 0, rfl⟩
      · refine (Tryz.slices_Equal_string b1 o1 xs.length ca b2 o2 ys.length cb xs ys w (Nat.le_refl _) (Nat.le_refl _) (by omega) (by omega) hc1 hc2).mono ?_
        rintro e w' ⟨rfl, hq⟩
        exact ⟨by rw [List.take_length, List.take_length], hq⟩
  · refine (Tryz.slices_Equal_string_lens a b xs.length ca ys.length cb w hlen).mono ?_
    rintro e w' ⟨rfl, rfl⟩
    exact ⟨by rw [decide_eq_false (fun e => hlen (by rw [e]))], 0, rfl⟩

theorem below_drewN {a : Nat} {w w' : World} (h : Below a w w') (q : Nat) : Below a w (w'.drewN q) := ⟨h.os, h.tape, h.output, h.size, h.block⟩
theorem OwnStrs.cap {w : World} {base : Nat} {v : Value} {xs : List ByteArray} (h : OwnStrs w base v xs) : ∃ a cap, v = .slice a xs.length cap ∧ StrsAt w a xs ∧ xs.length ≤ cap := by
  have hh := h
  rcases h.2 with ⟨hv, hn⟩ | ⟨g, cap, cur, hv, hb, hg, hnc, _⟩
  · exact ⟨none, 0, by rw [hv, hn], .inl (List.length_eq_zero_iff.1 hn), by omega⟩
  · obtain ⟨a, cap', e, hs⟩ := hh.at
    rw [hv] at e
    injection e with e1 e2 e3
    subst e1; subst e3
    exact ⟨_, _, hv, hs, hnc⟩

set_option maxRecDepth 100000 in
set_option maxHeartbeats 1000000 in
theorem begins_any (g : Nat) (a b : Option Addr) (xs ys : List ByteArray) (ca cb : Nat) (w : World) (hg : w.cell? ⟨g, 0, none⟩ = some (.slice a ys.length ca)) (hy : StrsAt w a ys) (hx : StrsAt w b xs) (hl : xs.length ≤ 4000) (hca : ys.length ≤ ca) :
    Calls Tryz.prog 107 #[.pointer (some ⟨g, 0, none⟩), .slice b xs.length cb] w fun e w' => e = .returned (.bool (un xs ys)) ∧ ∃ q, w' = w.drewN q := by
  have HX : Hid (StrsAt w b xs) := hx
  have HY : Hid (StrsAt w a ys) := hy
  clear hx hy
  by_cases hlen : xs.length ≤ ys.length
  · have h1 : (xs.length : Int) ≤ (ys.length : Int) := by omega
    have h2 : (xs.length : Int) ≤ (ca : Int) := by omega
    have HT : Hid (StrsAt w a (ys.take xs.length)) := HY.out.take _
    have HL : Hid ((ys.take xs.length).length = xs.length) := by show _ = _; rw [List.length_take]; omega
    go_enter Tryz.func107, Tryz.ntmps107
    go_wp2_with fail
    have hq := equal_any a b (ys.take xs.length) xs ca cb w HT.out HX.out (by rw [HL.out]; unfold maxLen; omega) (by unfold maxLen; omega)
    rw [HL.out] at hq
    refine hq.mono ?_
    rintro e w1 ⟨rfl, q, rfl⟩
    have HU : Hid (un xs ys = decide (ys.take xs.length = xs)) := rfl
    generalize decide (ys.take xs.length = xs) = t at HU
    clear hq
    go_wp2_with fail
    go_ret
    exact ⟨by rw [HU.out]; rfl, q, rfl⟩
  · have h1 : ¬ (xs.length : Int) ≤ (ys.length : Int) := by omega
    have HF : Hid (un xs ys = false) := un_no_len (by omega)
    go_enter Tryz.func107, Tryz.ntmps107
    go_wp2_with fail
    go_ret
    exact ⟨by rw [HF.out]; rfl, 0, rfl⟩

/-- whether one path is under another: told, or refused -/
def underO (a b : ByteArray) : Option Bool := match pathN a, pathN b with
  | some xs, some ys => some (un xs ys)
  | _, _ => none
def underV (o : Option Bool) : Value := match o with
  | some t => .tuple #[.bool t, .int .i64 0]
  | none => .tuple #[.bool false, .int .i64 1]

set_option maxRecDepth 100000 in
set_option maxHeartbeats 1000000 in
theorem under_any (a b : ByteArray) (w : World) :
    Calls Tryz.prog 88 #[.string a, .string b] w fun e w' => e = .returned (underV (underO a b)) ∧ Below w.heap.size w w' := by
  go_enter Tryz.func88, Tryz.ntmps88
  go_wp2_with fail
  refine (read_any a _).mono ?_
  rintro e w1 ⟨hR, hb1⟩
  have HB1 : Hid (Below w.heap.size w w1) := hb1
  rcases hR with ⟨xs, v, hp, rfl, ho⟩ | ⟨hp, rfl⟩
  · have hx5 := (pathN_some hp).2.2
    have HP : Hid (pathN a = some xs) := hp
    obtain ⟨aa, ca, rfl, hsa, _⟩ := ho.cap
    have HX : Hid (StrsAt w1 aa xs) := hsa
    clear hp ho hsa hb1
    go_wp2_with fail
    obtain ⟨W1, hW1⟩ : ∃ W1, W1 = w1.alloc (.cells #[.slice aa xs.length ca] 122) := ⟨_, rfl⟩
    have HX1 : Hid (StrsAt W1 aa xs) := by rw [hW1]; exact HX.out.below (nwA (nwR _) _)
    have HC1 : Hid (W1.cell? ⟨w1.heap.size, 0, none⟩ = some (.slice aa xs.length ca)) := by rw [hW1]; show _ = _; simp
    have HBW : Hid (Below w.heap.size w W1) := by rw [hW1]; exact nwA HB1.out _
    rw [← hW1]
    clear hW1 HX HB1
    refine (read_any b _).mono ?_
    rintro e w2 ⟨hR, hb2⟩
    have HBW2 : Hid (Below w.heap.size w w2) := nwT HBW.out hb2
    rcases hR with ⟨ys, v, hq, rfl, ho⟩ | ⟨hq, rfl⟩
    · have HU : Hid (underO a b = some (un xs ys)) := by show _ = _; unfold underO; rw [HP.out, hq]
      obtain ⟨ab, cb, rfl, hsb, hcb⟩ := ho.cap
      have HY : Hid (StrsAt w2 ab ys) := hsb
      have HX2 : Hid (StrsAt w2 aa xs) := HX1.out.below hb2
      have c1 : w2.cell? ⟨w1.heap.size, 0, none⟩ = some (.slice aa xs.length ca) := (hb2.cell (p := ⟨w1.heap.size, 0, none⟩) (block_lt_of_cell HC1.out)).trans HC1.out
      have l1 : w1.heap.size < w2.heap.size := block_lt_of_cell c1
      clear hq ho hsb hb2 HX1 HC1 HBW
      go_wp2_with fail
      refine (begins_any _ ab aa xs ys cb ca _ (by simp) (HY.out.below (nwA (nwR _) _)) (HX2.out.below (nwA (nwR _) _)) (by omega) hcb).mono ?_
      rintro e w3 ⟨rfl, q, rfl⟩
      generalize un xs ys = t at HU
      go_wp2_with fail
      go_ret2
      exact ⟨by rw [HU.out]; rfl, below_drewN (nwA HBW2.out _) _⟩
    · have HU : Hid (underO a b = none) := by show _ = _; unfold underO; rw [HP.out, hq]
      clear hq hb2
      go_wp2_with fail
      go_ret2
      exact ⟨by rw [HU.out]; rfl, nwA HBW2.out _⟩
  · have HU : Hid (underO a b = none) := by show _ = _; unfold underO; rw [hp]
    clear hp hb1
    go_wp2_with fail
    go_ret2
    exact ⟨by rw [HU.out]; rfl, nwA HB1.out _⟩

end Go.Proofs.YtdpighcaieajjaaGreat
