/- Volumes held against each other, by the page's own helpers. -/
import Derived.Test.YtdpighcaieajjaaGreatVols
namespace Go.Proofs.YtdpighcaieajjaaGreat
open Go.RowKit

theorem ext_getD' {α : Type} (z : α) {xs ys : List α} (hl : xs.length = ys.length) (h : ∀ i, i < xs.length → xs.getD i z = ys.getD i z) : xs = ys := by
  apply List.ext_getElem hl
  intro i h1 h2
  have := h i h1
  simpa [List.getD, h1, h2] using this

set_option maxRecDepth 100000 in
set_option maxHeartbeats 1000000 in
theorem eqNums_any (a b : Option Addr) (xs ys : List Int) (ca cb : Nat) (w : World) (hx : IntsAt w a xs) (hy : IntsAt w b ys) (hl : xs.length ≤ maxLen) :
    Calls Tryz.prog 52 #[.slice a xs.length ca, .slice b ys.length cb] w fun e w' => e = .returned (.bool (decide (xs = ys))) ∧ ∃ q, w' = w.drewN q := by
  unfold maxLen at hl
  have HX : Hid (IntsAt w a xs) := hx
  have HY : Hid (IntsAt w b ys) := hy
  clear hx hy
  by_cases hlen : xs.length = ys.length
  · have hlen' : ((xs.length : Int) != (ys.length : Int)) = false := by simp [hlen]
    have HL : Hid (xs.length = ys.length) := hlen
    clear hlen
    go_enter Tryz.func52, Tryz.ntmps52
    go_wp2_with fail
    go_loopw [5] (fun i wr => ∃ (k q : Nat), k ≤ xs.length ∧ i = .int .i64 k ∧ wr = w.drewN q ∧ Hid (∀ j, j < k → xs.getD j 0 = ys.getD j 0))
      (fun i _ => xs.length - (intOf i).toNat)
    case atStart => exact ⟨0, 0, by omega, rfl, rfl, fun j hj => by omega⟩
    case round =>
      obtain ⟨k, q, hk, rfl, rfl, HE⟩ := hrel
      by_cases hlt : k < xs.length
      · have hlty : k < ys.length := by have := HL.out; omega
        obtain ⟨b1, o1, rfl, x1⟩ := HX.out.cell hlt
        obtain ⟨b2, o2, rfl, y1⟩ := HY.out.cell hlty
        by_cases he : xs.getD k 0 = ys.getD k 0
        · have HEE : Hid (xs.getD k 0 = ys.getD k 0) := he
          rw [← he] at y1
          generalize xs.getD k 0 = s at x1 y1
          clear he
          go_wp2_with fail
          go_quiet (fail)
          go_wp2_with fail
          go_roundw
          case rel => exact ⟨k + 1, _, by omega, by go_num, rfl, fun j hj => by
            by_cases e : j = k
            · subst e; exact HEE.out
            · exact HE.out j (by omega)⟩
          case measure => simp [intOf]; omega
        · have HF : Hid (decide (xs = ys) = false) := decide_eq_false (fun e => he (by rw [e]))
          generalize xs.getD k 0 = s at x1 he
          generalize ys.getD k 0 = t at y1 he
          have he2 : (s == t) = false := beq_eq_false_iff_ne.2 he
          clear he
          go_wp2_with fail
          go_quiet (fail)
          go_wp2_with fail
          go_ret
          exact ⟨by rw [HF.out]; rfl, drewN_drewN _ _ _⟩
      · have HF : Hid (decide (xs = ys) = true) := decide_eq_true (ext_getD' 0 HL.out (fun i hi => HE.out i (by omega)))
        go_wp2_with fail
        go_ret
        exact ⟨by rw [HF.out]; rfl, _, rfl⟩
  · have hlen' : ((xs.length : Int) != (ys.length : Int)) = true := by rw [bne_iff_ne]; omega
    have HF : Hid (decide (xs = ys) = false) := decide_eq_false (fun e => hlen (by rw [e]))
    clear hlen
    go_enter Tryz.func52, Tryz.ntmps52
    go_wp2_with fail
    go_ret
    exact ⟨by rw [HF.out]; rfl, 0, rfl⟩

set_option maxRecDepth 100000 in
set_option maxHeartbeats 1000000 in
theorem eqLinks_any (a b : Option Addr) (xs ys : List LinkD) (ca cb : Nat) (w : World) (hx : LinksAt w a xs) (hy : LinksAt w b ys) (hl : xs.length ≤ maxLen) :
    Calls Tryz.prog 53 #[.slice a xs.length ca, .slice b ys.length cb] w fun e w' => e = .returned (.bool (decide (xs = ys))) ∧ ∃ q, w' = w.drewN q := by
  unfold maxLen at hl
  have HX : Hid (LinksAt w a xs) := hx
  have HY : Hid (LinksAt w b ys) := hy
  clear hx hy
  by_cases hlen : xs.length = ys.length
  · have hlen' : ((xs.length : Int) != (ys.length : Int)) = false := by simp [hlen]
    have HL : Hid (xs.length = ys.length) := hlen
    clear hlen
    go_enter Tryz.func53, Tryz.ntmps53
    go_wp2_with fail
    go_loopw [5] (fun i wr => ∃ (k q : Nat), k ≤ xs.length ∧ i = .int .i64 k ∧ wr = w.drewN q ∧ Hid (∀ j, j < k → xs.getD j lk0 = ys.getD j lk0))
      (fun i _ => xs.length - (intOf i).toNat)
    case atStart => exact ⟨0, 0, by omega, rfl, rfl, fun j hj => by omega⟩
    case round =>
      obtain ⟨k, q, hk, rfl, rfl, HE⟩ := hrel
      by_cases hlt : k < xs.length
      · have hlty : k < ys.length := by have := HL.out; omega
        obtain ⟨b1, o1, rfl, x1, x2⟩ := HX.out.cell hlt
        obtain ⟨b2, o2, rfl, y1, y2⟩ := HY.out.cell hlty
        by_cases he : xs.getD k lk0 = ys.getD k lk0
        · have HEE : Hid (xs.getD k lk0 = ys.getD k lk0) := he
          rw [← he] at y1 y2
          generalize xs.getD k lk0 = s at x1 y1 x2 y2
          obtain ⟨s1, s2⟩ := s
          clear he
          go_wp2_with fail
          go_quiet (fail)
          go_wp2_with fail
          go_roundw
          case rel => exact ⟨k + 1, _, by omega, by go_num, rfl, fun j hj => by
            by_cases e : j = k
            · subst e; exact HEE.out
            · exact HE.out j (by omega)⟩
          case measure => simp [intOf]; omega
        · have HF : Hid (decide (xs = ys) = false) := decide_eq_false (fun e => he (by rw [e]))
          generalize xs.getD k lk0 = s at x1 x2 he
          generalize ys.getD k lk0 = t at y1 y2 he
          obtain ⟨s1, s2⟩ := s
          obtain ⟨t1, t2⟩ := t
          by_cases h1 : s1 = t1
          · subst h1
            have he2 : (s2 == t2) = false := beq_eq_false_iff_ne.2 (fun e => he (by rw [e]))
            clear he
            go_wp2_with fail
            go_quiet (fail)
            go_wp2_with fail
            go_ret
            exact ⟨by rw [HF.out]; rfl, drewN_drewN _ _ _⟩
          · have he2 : (s1.toList == t1.toList) = false := by
              rw [beq_eq_false_iff_ne, Lib.toList_data, Lib.toList_data]; intro e; exact h1 (ls_inj e)
            clear he h1
            go_wp2_with fail
            go_quiet (fail)
            go_wp2_with fail
            go_ret
            exact ⟨by rw [HF.out]; rfl, drewN_drewN _ _ _⟩
      · have HF : Hid (decide (xs = ys) = true) := decide_eq_true (ext_getD' lk0 HL.out (fun i hi => HE.out i (by omega)))
        go_wp2_with fail
        go_ret
        exact ⟨by rw [HF.out]; rfl, _, rfl⟩
  · have hlen' : ((xs.length : Int) != (ys.length : Int)) = true := by rw [bne_iff_ne]; omega
    have HF : Hid (decide (xs = ys) = false) := decide_eq_false (fun e => hlen (by rw [e]))
    clear hlen
    go_enter Tryz.func53, Tryz.ntmps53
    go_wp2_with fail
    go_ret
    exact ⟨by rw [HF.out]; rfl, 0, rfl⟩

end Go.Proofs.YtdpighcaieajjaaGreat
