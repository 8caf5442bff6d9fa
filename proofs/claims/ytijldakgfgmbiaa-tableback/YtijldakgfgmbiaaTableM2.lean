/- Laid together: Tok, Concat, Opn, Tokm, Look. -/
import Derived.Test.YtijldakgfgmbiaaTableM1
import Derived.Shelf.Spec.SlicesGrow
/- May a table be, by the program? -/
namespace Go.Proofs.Ytijldakgfgmbiaa
open Go.RowKit

def okFrom (d s : Int) : Int → List EntD → Bool
  | _, [] => true
  | m, x :: r => decide (m ≤ x.frm) && (mayB d s x && okFrom d s (x.frm + x.len) r)
def tokB (t : TabD) : Bool := idB t.dev && (decide (1 ≤ t.size) && (decide (t.size ≤ 64) && okFrom t.dev t.size 0 t.list))
theorem okFrom_step (d s m : Int) {l : List EntD} {k : Nat} (hk : k < l.length) : okFrom d s m (l.drop k) = (decide (m ≤ (l.getD k EZ).frm) && (mayB d s (l.getD k EZ) && okFrom d s ((l.getD k EZ).frm + (l.getD k EZ).len) (l.drop (k + 1)))) := by
  have e : l.drop k = l.getD k EZ :: l.drop (k + 1) := by
    rw [List.drop_eq_getElem_cons hk]; simp [List.getD, hk]
  rw [e]; rfl
theorem okFrom_end (d s m : Int) {l : List EntD} {k : Nat} (hk : l.length ≤ k) : okFrom d s m (l.drop k) = true := by
  rw [List.drop_of_length_le hk]; rfl
structure InE (d s : Int) (x : EntD) : Prop where
  f0 : 0 ≤ x.frm
  l0 : 1 ≤ x.len
  fl : x.frm + x.len ≤ s
  t0 : 0 ≤ x.tgt
  tl : x.tgt + x.len ≤ 64
  d0 : 1 ≤ x.dev
  d1 : x.dev ≤ 40
  dn : x.dev ≠ d
  s0 : 0 ≤ x.stale
  sl : x.stale ≤ x.len
theorem inE_of {d s : Int} {x : EntD} (h : mayB d s x = true) : InE d s x := by
  simp only [mayB, fitsB, idB, Bool.and_eq_true, decide_eq_true_eq, bne_iff_ne] at h
  obtain ⟨⟨⟨h1, h2⟩, h3⟩, ⟨⟨h4, _⟩, h5⟩, ⟨h6, h7⟩, h8, h9, h10⟩ := h
  exact ⟨h1, h2, by omega, h4, by omega, h6, h7, h8, h9, h10⟩
theorem InE.may {d s : Int} {x : EntD} (h : InE d s x) : mayB d s x = true := by
  have h1 := h.f0; have h2 := h.l0; have h3 := h.fl; have h4 := h.t0; have h5 := h.tl; have h6 := h.d0; have h7 := h.d1; have h8 := h.dn; have h9 := h.s0; have h10 := h.sl
  simp only [mayB, fitsB, idB, Bool.and_eq_true, decide_eq_true_eq, bne_iff_ne]
  exact ⟨⟨⟨h1, h2⟩, by omega⟩, ⟨⟨h4, h2⟩, by omega⟩, ⟨h6, h7⟩, h8, h9, h10⟩
theorem InE.fair {d s : Int} {x : EntD} (h : InE d s x) (hs : s ≤ 64) : Fair x := by
  have h1 := h.f0; have h2 := h.l0; have h3 := h.fl; have h4 := h.t0; have h5 := h.tl
  exact ⟨by omega, by omega, by omega, by omega, by omega, by omega⟩

set_option maxRecDepth 100000 in
set_option maxHeartbeats 1000000 in
theorem at_any (b o n c k : Nat) (w : World) (hk : k < n) : Calls Try.prog 50 #[.slice (some ⟨b, o, none⟩) n c, .int .i64 k] w fun e w' => e = .returned (PV b (o + k * 5)) ∧ Below w.heap.size w w' := by
  have hki : (k : Int) < (n : Int) := by omega
  unfold PV
  go_enter Try.func50, Try.ntmps50
  go_wp2_with fail
  refine bodyPost_ret (v := .agg #[.pointer (some ⟨b, o + k * 5, none⟩)]) (by simp [results, Try.results50, go_sem]) rfl ⟨rfl, ?_⟩
  exact nwA (nwR w) _

set_option maxRecDepth 100000 in
set_option maxHeartbeats 1000000 in
theorem sheetOf_any (d s : Int) (v : Value) (n c : Nat) (a : Option Addr) (w : World) (hv : v = .slice a n c) : Calls Try.prog 47 #[.agg #[.int .i64 d, .int .i64 s, v]] w fun e w' => (∃ g, e = .returned (.pointer (some ⟨g, 0, none⟩)) ∧ w.heap.size ≤ g ∧ ShAt w' g v d s) ∧ Below w.heap.size w w' := by
  subst hv
  go_enter Try.func47, Try.ntmps47
  go_wp2_with fail
  go_ret
  refine ⟨⟨w.heap.size + 1, rfl, by omega, ?_⟩, nwA (nwA (nwR w) _) _⟩
  exact heap_alloc_new2 w _ _

structure RngL (l : List EntD) : Prop where
  len : l.length ≤ 1000
  rng : ∀ i, i < l.length → RngE (l.getD i EZ)
set_option maxRecDepth 100000 in
set_option maxHeartbeats 8000000 in
theorem mayBe_any (g : Nat) (a : Option Addr) (c : Nat) (t : TabD) (w : World) (hs : ShAt w g (.slice a t.list.length c) t.dev t.size) (hx : EntsAt w a t.list) (hr : RngL t.list) :
    Calls Try.prog 48 #[.pointer (some ⟨g, 0, none⟩)] w fun e w' => e = .returned (.bool (tokB t)) ∧ Below w.heap.size w w' := by
  obtain ⟨d, s, l⟩ := t
  simp only at hs hx hr
  have HS : Hid (∀ w', Below w.heap.size w w' → ShAt w' g (.slice a l.length c) d s) := fun w' h => hs.below h
  have HX : Hid (∀ w', Below w.heap.size w w' → EntsAt w' a l) := fun w' h => hx.below h
  have HR : Hid (RngL l) := hr
  have hl := hr.len
  have HT : Hid (∀ p1 p2 p3, idB d = p1 → decide (1 ≤ s) = p2 → decide (s ≤ 64) = p3 → tokB ⟨d, s, l⟩ = (p1 && (p2 && (p3 && okFrom d s 0 l)))) := fun p1 p2 p3 h1 h2 h3 => by subst h1; subst h2; subst h3; rfl
  have HI : Hid (Calls Try.prog 56 #[.int .i64 d] w fun e w' => e = .returned (.bool (idB d)) ∧ w' = w) := isID_any d w
  generalize tokB ⟨d, s, l⟩ = res at HT ⊢
  obtain ⟨a0, a1, a2, _⟩ := three hs
  clear hs hx hr
  generalize idB d = p1 at HT HI
  by_cases h2 : 1 ≤ s
  case neg =>
    have HQ : Hid (res = false) := by
      show _ = _
      rw [HT.out p1 false _ rfl (decide_eq_false h2) rfl]; cases p1 <;> rfl
    clear HT
    have h2' : s < 1 := by omega
    clear h2
    go_enter Try.func48, Try.ntmps48
    go_wp2_with fail
    refine HI.out.mono ?_
    rintro e w1 ⟨rfl, rfl⟩
    cases p1
    · go_wp2_with fail
      go_ret
      exact ⟨by rw [HQ.out]; rfl, nwR _⟩
    · go_wp2_with fail
      go_ret
      exact ⟨by rw [HQ.out]; rfl, nwR _⟩
  case pos =>
  by_cases h3 : s ≤ 64
  case neg =>
    have HQ : Hid (res = false) := by
      show _ = _
      rw [HT.out p1 true false rfl (decide_eq_true h2) (decide_eq_false h3)]; cases p1 <;> rfl
    clear HT
    have h3' : 64 < s := by omega
    clear h3
    go_enter Try.func48, Try.ntmps48
    go_wp2_with fail
    refine HI.out.mono ?_
    rintro e w1 ⟨rfl, rfl⟩
    cases p1
    · go_wp2_with fail
      go_ret
      exact ⟨by rw [HQ.out]; rfl, nwR _⟩
    · go_wp2_with fail
      go_ret
      exact ⟨by rw [HQ.out]; rfl, nwR _⟩
  case pos =>
  have HQ : Hid (res = (p1 && okFrom d s 0 l)) := by
    show _ = _
    rw [HT.out p1 true true rfl (decide_eq_true h2) (decide_eq_true h3)]; cases p1 <;> rfl
  clear HT
  go_enter Try.func48, Try.ntmps48
  go_wp2_with fail
  refine HI.out.mono ?_
  rintro e w1 ⟨rfl, rfl⟩
  rename World => w
  clear HI
  cases p1
  · go_wp2_with fail
    go_ret
    exact ⟨by rw [HQ.out]; rfl, nwR _⟩
  have HQ2 : Hid (res = okFrom d s 0 l) := HQ.out
  clear HQ
  go_wp2_with fail
  go_loopw [3, 31] (fun m i wr => ∃ (k : Nat) (mm : Int), k ≤ l.length ∧ m = .int .i64 mm ∧ i = .int .i64 k ∧ Hid (0 ≤ mm ∧ okFrom d s 0 l = okFrom d s mm (l.drop k)) ∧ Below w.heap.size w wr)
    (fun _ i _ => l.length - (intOf i).toNat)
  case atStart => exact ⟨0, 0, by omega, rfl, rfl, ⟨by omega, rfl⟩, nwR _⟩
  case round =>
    obtain ⟨k, mm, hk, rfl, rfl, HM, hb⟩ := hrel
    obtain ⟨a0, a1, a2, _⟩ := three (HS.out wr hb)
    by_cases hkl : k < l.length
    case neg =>
      have hkli : ¬ (k : Int) < (l.length : Int) := by omega
      have HZ : Hid (res = true) := by
        show _ = _
        rw [HQ2.out, HM.out.2, okFrom_end d s mm (by omega)]
      go_wp2_with fail
      go_ret
      exact ⟨by rw [HZ.out]; rfl, hb⟩
    case pos =>
    have hkli : (k : Int) < (l.length : Int) := by omega
    obtain ⟨b1, o1, rfl, hE⟩ := (HX.out wr hb).ent hkl
    have HRX := HR.out.rng k hkl
    have HST : Hid (okFrom d s 0 l = (decide (mm ≤ (l.getD k EZ).frm) && (mayB d s (l.getD k EZ) && okFrom d s ((l.getD k EZ).frm + (l.getD k EZ).len) (l.drop (k + 1))))) := by
      show _ = _
      rw [HM.out.2, okFrom_step d s mm hkl]
    have HAT : Hid (Calls Try.prog 50 #[.slice (some ⟨b1, o1, none⟩) l.length c, .int .i64 k] wr fun e w' => e = .returned (.agg #[.pointer (some ⟨b1, o1 + k * 5, none⟩)]) ∧ Below wr.heap.size wr w') := at_any b1 o1 l.length c k wr hkl
    generalize l.getD k EZ = x at hE HRX HST
    have HE : Hid (∀ w', Below wr.heap.size wr w' → EntAt w' b1 (o1 + k * 5) x) := fun w' h => hE.below h
    have HRE : Hid (RngE x) := HRX
    clear hE HRX
    go_wp2_with fail
    refine HAT.out.mono ?_
    rintro e w1 ⟨rfl, hb1⟩
    have HW1 : Hid (Below wr.heap.size wr w1) := hb1
    clear hb1 HAT a0 a1 a2
    obtain ⟨W2, hW2⟩ : ∃ W2, W2 = w1.alloc (.cells #[.pointer (some ⟨b1, o1 + k * 5, none⟩)] 82) := ⟨_, rfl⟩
    have HW2 : Hid (Below wr.heap.size wr W2) := by rw [hW2]; exact nwA HW1.out _
    have hx2 : W2.heap[w1.heap.size]? = some (.cells #[.pointer (some ⟨b1, o1 + k * 5, none⟩)] 82 (0, 0)) := by rw [hW2]; exact heap_alloc_new w1 _
    have HX2 : Hid (∀ w', Below W2.heap.size W2 w' → w'.heap[w1.heap.size]? = some (.cells #[.pointer (some ⟨b1, o1 + k * 5, none⟩)] 82 (0, 0))) := fun w' h => (h.block _ (Array.getElem?_eq_some_iff.1 hx2).1).trans hx2
    have hS2 := HS.out W2 (nwT hb HW2.out)
    obtain ⟨e0, e1, e2, e3, e4⟩ := HE.out W2 HW2.out
    obtain ⟨x0, _⟩ := one hx2
    rw [hW2] at e0 e1 e2 e3 e4 x0
    have HMH : Hid (Calls Try.prog 57 #[.pointer (some ⟨g, 0, none⟩), .agg #[.pointer (some ⟨b1, o1 + k * 5, none⟩)]] W2 fun e w' => e = .returned (.bool (mayB d s x)) ∧ Below W2.heap.size W2 w') := mayHave_any g b1 (o1 + k * 5) _ d s x W2 hS2 (HE.out W2 HW2.out) HRE.out (by omega) (by omega)
    clear hS2 hx2
    by_cases hm : mm ≤ x.frm
    case neg =>
      have hm' : x.frm < mm := by omega
      have HZ : Hid (res = false) := by
        show _ = _
        rw [HQ2.out, HST.out, decide_eq_false hm]; rfl
      clear hm HST
      go_wp2_with fail
      go_ret
      exact ⟨by rw [HZ.out]; rfl, nwT hb (by rw [← hW2]; exact HW2.out)⟩
    case pos =>
    have hm' : ¬ x.frm < mm := by omega
    have HST2 : Hid (res = (mayB d s x && okFrom d s (x.frm + x.len) (l.drop (k + 1)))) := by
      show _ = _
      rw [HQ2.out, HST.out, decide_eq_true hm]; rfl
    have HST3 : Hid (mayB d s x = true → InE d s x) := fun h => inE_of h
    have HEQ : Hid (res = okFrom d s 0 l) := HQ2.out
    clear HST hm
    go_wp2_with fail
    rw [← hW2]
    clear hW2 e0 e1 e2 e3 e4 x0
    refine HMH.out.mono ?_
    rintro e w3 ⟨rfl, hb3⟩
    have HW3 : Hid (Below wr.heap.size wr w3) := nwT HW2.out hb3
    obtain ⟨x0, _⟩ := one (HX2.out w3 hb3)
    generalize mayB d s x = p5 at HST2 HST3
    cases p5
    case false =>
      have HZ : Hid (res = false) := HST2.out
      go_wp2_with fail
      go_ret
      exact ⟨by rw [HZ.out]; rfl, nwT hb HW3.out⟩
    case true =>
    have HIN := HST3.out rfl
    have HB4 : Hid (0 ≤ x.frm + x.len) := by have := HIN.f0; have := HIN.l0; show (0 : Int) ≤ _; omega
    have HEE : Hid (Calls Try.prog 58 #[.agg #[.pointer (some ⟨b1, o1 + k * 5, none⟩)]] w3 fun e w' => e = .returned (.int .i64 (x.frm + x.len)) ∧ Below w3.heap.size w3 w') := end_any b1 (o1 + k * 5) x w3 (HE.out w3 HW3.out) (by have := HIN.f0; have := HIN.l0; omega) (by have := HIN.fl; omega)
    have HNX : Hid (okFrom d s 0 l = okFrom d s (x.frm + x.len) (l.drop (k + 1))) := by
      show _ = _
      rw [← HEQ.out, HST2.out]; rfl
    clear hb3 HMH HST2 HST3 HIN
    generalize x.frm + x.len = xe at HB4 HEE HNX
    go_wp2_with fail
    refine HEE.out.mono ?_
    rintro e w4 ⟨rfl, hb4⟩
    have HW4 : Hid (Below w.heap.size w w4) := nwT hb (nwT HW3.out hb4)
    clear hb4 HEE x0
    go_wp2_with fail
    go_roundw
    case rel => exact ⟨k + 1, xe, by omega, rfl, by go_num, ⟨HB4.out, HNX.out⟩, HW4.out⟩
    case measure => simp [intOf]; omega

set_option maxRecDepth 100000 in
set_option maxHeartbeats 2000000 in
theorem check_any (v : Value) (t : TabD) (w : World) (hv : TabVal w v t) (hr : RngL t.list) :
    Calls Try.prog 35 #[v] w fun e w' => e = .returned (.int .i64 (if tokB t then 0 else 1)) ∧ Below w.heap.size w w' := by
  obtain ⟨a, c, rfl, hx, hn⟩ := hv
  obtain ⟨W0, hW0⟩ : ∃ W0, W0 = w.alloc (.cells #[.int .i64 t.dev, .int .i64 t.size, .slice a t.list.length c] 24) := ⟨_, rfl⟩
  have HB0 : Hid (Below w.heap.size w W0) := by rw [hW0]; exact nwA (nwR w) _
  have HSO : Hid (Calls Try.prog 47 #[.agg #[.int .i64 t.dev, .int .i64 t.size, .slice a t.list.length c]] W0 fun e w' => (∃ g, e = .returned (.pointer (some ⟨g, 0, none⟩)) ∧ W0.heap.size ≤ g ∧ ShAt w' g (.slice a t.list.length c) t.dev t.size) ∧ Below W0.heap.size W0 w') := sheetOf_any t.dev t.size _ t.list.length c a W0 rfl
  have HMB : Hid (∀ g w', Below W0.heap.size W0 w' → ShAt w' g (.slice a t.list.length c) t.dev t.size → Calls Try.prog 48 #[.pointer (some ⟨g, 0, none⟩)] w' fun e w'' => e = .returned (.bool (tokB t)) ∧ Below w'.heap.size w' w'') := fun g w' h1 h2 => mayBe_any g a c t w' h2 (hx.below (nwT HB0.out h1)) hr
  clear hx hr
  generalize tokB t = p at HMB ⊢
  go_enter Try.func35, Try.ntmps35
  go_wp2_with fail
  rw [← hW0]
  clear hW0
  refine HSO.out.mono ?_
  rintro e w1 ⟨⟨g, rfl, _, hs⟩, hb1⟩
  have HM := HMB.out g w1 hb1 hs
  have HB1 : Hid (Below w.heap.size w w1) := nwT HB0.out hb1
  clear hs hb1 HMB HSO
  go_wp2_with fail
  refine HM.mono ?_
  rintro e w2 ⟨rfl, hb2⟩
  have HB2 : Hid (Below w.heap.size w w2) := nwT HB1.out hb2
  clear HM hb2
  cases p
  all_goals
    go_wp2_with fail
    go_ret
    exact ⟨rfl, HB2.out⟩

end Go.Proofs.Ytijldakgfgmbiaa

/- Two rows of entries, one behind the other, by the library, in new memory. -/
namespace Go.Proofs
open Go.Shelf
def Try.growE_ren : Go.Shelf.Ren := ⟨fun | 4 => 59 | n => n, fun | 22 => 76 | 25 => 49 | 3 => 3 | 4 => 4 | 9 => 9 | 20 => 20 | 0 => 0 | n => n, fun | n => n⟩
theorem Try.growE : Go.Proofs.Lays8.n4 Try.prog Try.growE_ren := {
  mixed := by kernel_rfl
  f4 := ⟨Try.f59.name, by decide, Try.func59.trans (congrArg some (by kernel_rfl))⟩
  t0 := Try.underlying0
  a0 := Try.isAgg0
  z0 := Try.sizeOf0
  v0 := Try.zeroValue0
  t3 := Try.underlying3
  a3 := Try.isAgg3
  z3 := Try.sizeOf3
  v3 := Try.zeroValue3
  t4 := Try.underlying4
  a4 := Try.isAgg4
  z4 := Try.sizeOf4
  v4 := Try.zeroValue4
  t9 := Try.underlying9
  a9 := Try.isAgg9
  z9 := Try.sizeOf9
  v9 := Try.zeroValue9
  t20 := Try.underlying20
  a20 := Try.isAgg20
  z20 := Try.sizeOf20
  v20 := Try.zeroValue20
  t22 := Try.underlying76
  a22 := Try.isAgg76
  z22 := Try.sizeOf76
  v22 := Try.zeroValue76 }
end Go.Proofs
namespace Go.Proofs.Ytijldakgfgmbiaa
open Go.RowKit

theorem zeroCells_size (n : Nat) : (Builtin.zeroCells (Value.cells (.agg #[.int .i64 0, .int .i64 0, .int .i64 0, .int .i64 0, .int .i64 0])) n).size = n * 5 := by
  simp [Builtin.zeroCells, Value.cells]

set_option maxRecDepth 100000 in
theorem grow_any (n : Nat) (w : World) (hn : n ≤ 100000) :
    Calls Try.prog 59 #[.slice none 0 0, .int .i64 n] w fun e w' => (∃ v, e = .returned v ∧ OwnEnts w' w.heap.size v []) ∧ Below w.heap.size w w' := by
  by_cases h0 : n = 0
  · refine (Any8.slices_Grow_room Try.growE none 0 0 n w (by omega) (by omega) (by omega) (by omega)).mono ?_
    rintro e w' ⟨rfl, rfl⟩
    exact ⟨⟨_, rfl, World.ownsRow_nil _ _ _ _⟩, nwR _⟩
  · obtain ⟨i0, hi, hz0, hz1, hz2⟩ := info_parts Try.info49
    have h := Any8.slices_Grow_grow Try.growE i0 (.agg #[.int .i64 0, .int .i64 0, .int .i64 0, .int .i64 0, .int .i64 0]) hi hz0 (by omega) none 0 0 n [] w (by omega) (by omega) (by rw [hz2]; omega) (by omega) (by simp) (fun _ => rfl) (fun a h => by cases h)
    have hG := grownCap_ge w (0 + n) 0 49
    have hG2 := grownCap_le_maxLen w (0 + n) 0 49 (by unfold maxLen; omega)
    change Calls Try.prog 59 #[.slice none 0 0, .int .i64 n] w (fun e w' => e = .returned (.slice (some ⟨w.heap.size, 0, none⟩) 0 (grownCap w (0 + n) 0 49)) ∧ w' = w.drew.alloc (.cells (([] : List Value).toArray ++ Builtin.zeroCells (Value.cells (.agg #[.int .i64 0, .int .i64 0, .int .i64 0, .int .i64 0, .int .i64 0])) (0 + n - 0) ++ Builtin.zeroCells (Value.cells (.agg #[.int .i64 0, .int .i64 0, .int .i64 0, .int .i64 0, .int .i64 0])) (grownCap w (0 + n) 0 49 - (0 + n))) 49)) at h
    generalize grownCap w (0 + n) 0 49 = G at h hG hG2
    refine h.mono ?_
    rintro e w' ⟨rfl, rfl⟩
    refine ⟨⟨_, rfl, by simp [eflat], .inr ⟨w.heap.size, G, _, rfl, Nat.le_refl _, heap_alloc_new _ _, by simp, hG2, ?_, by simp [eflat]⟩⟩, nwA (Below.drew (nwR w)) _⟩
    simp only [Array.size_append, zeroCells_size, List.size_toArray, List.length_nil]
    omega

abbrev RowD := Option Addr × Nat × List EntD
def rw0 : RowD := (none, 0, [])
def rowV (r : RowD) : Value := .slice r.1 r.2.2.length r.2.1
def RowOk (w : World) (r : RowD) : Prop := EntsAt w r.1 r.2.2 ∧ (r.1 = none → r.2.1 = 0)
def RowsAt (w : World) (a : Option Addr) (rs : List RowD) : Prop :=
  rs = [] ∨ ∃ b o, a = some ⟨b, o, none⟩ ∧ ∀ i, i < rs.length → w.cell? ⟨b, o + i, none⟩ = some (rowV (rs.getD i rw0)) ∧ RowOk w (rs.getD i rw0)
theorem RowOk.below {w w' : World} {r : RowD} (h : RowOk w r) (hb : Below w.heap.size w w') : RowOk w' r := ⟨h.1.below hb, h.2⟩
theorem RowsAt.below {w w' : World} {a : Option Addr} {rs : List RowD} (h : RowsAt w a rs) (hb : Below w.heap.size w w') : RowsAt w' a rs := by
  rcases h with rfl | ⟨b, o, rfl, hc⟩
  · exact .inl rfl
  · exact .inr ⟨b, o, rfl, fun i hi => ⟨(hb.cell (p := ⟨b, o + i, none⟩) (block_lt_of_cell (hc i hi).1)).trans (hc i hi).1, (hc i hi).2.below hb⟩⟩
theorem RowsAt.row {w : World} {a : Option Addr} {rs : List RowD} (h : RowsAt w a rs) {i : Nat} (hi : i < rs.length) : ∃ b o, a = some ⟨b, o, none⟩ ∧ w.cell? ⟨b, o + i, none⟩ = some (rowV (rs.getD i rw0)) ∧ RowOk w (rs.getD i rw0) := by
  rcases h with rfl | ⟨b, o, rfl, hc⟩
  · simp at hi
  · exact ⟨b, o, rfl, hc i hi⟩
/-- all entries of them -/
def allN (rs : List RowD) : List EntD := (rs.map fun r => r.2.2).flatten
theorem allN_snoc (rs : List RowD) (r : RowD) : allN (rs ++ [r]) = allN rs ++ r.2.2 := by simp [allN]
theorem allN_take {rs : List RowD} {k : Nat} (hk : k < rs.length) : allN (rs.take (k + 1)) = allN (rs.take k) ++ (rs.getD k rw0).2.2 := by
  rw [← allN_snoc]
  congr 1
  rw [List.take_succ_eq_append_getElem hk]; simp [List.getD, hk]
theorem allN_take_le (rs : List RowD) (k : Nat) : (allN (rs.take k)).length ≤ (allN rs).length := by
  have e : allN rs = allN (rs.take k) ++ allN (rs.drop k) := by
    unfold allN
    rw [← List.flatten_append, ← List.map_append, List.take_append_drop]
  rw [e, List.length_append]; omega

theorem wpList_append_ents {P : Program} (w : World) {ops : Array Oper} {rest : List Oper} {o : Oper} {a : Act} {Q : Exit → Act → World → Prop} (hgd : o.guard = none) (s x : Operand) (t : TypeId)
    (ho : o.op = .call { callee := .builtin .append, args := #[s, x], argTypes := #[t, t] })
    (base : Nat) (i : TypeInfo) (z : Value) (ht : P.underlying t = some (.slice 49)) (hi : P.info? 49 = some i) (hz : i.zero = some z)
    (hsize : i.size = 5) (hby : i.bytes = 40) (hzs : z.cells.size = 5)
    (v : Value) (xs : List EntD) (hs : a.eval s = v) (hown : OwnEnts w base v xs)
    (ao : Option Addr) (c : Nat) (ys : List EntD) (hx : a.eval x = .slice ao ys.length c) (hi2 : EntsAt w ao ys) (hc : ao = none → c = 0)
    (hbytes : xs.length + ys.length ≤ 100000) (hbase : base ≤ w.heap.size)
    (h : ∀ v' w', OwnEnts w' base v' (xs ++ ys) → w.grownBy w' v.ownBlock → wpList P ops Q rest (a.put o.dst v') w') : wpList P ops Q (o :: rest) a w := by
  cases ao with
  | none =>
    have h0 : ys = [] := by
      rcases hi2 with h | ⟨b, o', e, _⟩
      · exact h
      · cases e
    subst h0
    have hc0 := hc rfl
    subst hc0
    refine wpList_append_own_none hgd s x t ho base 49 i 5 ht hi v xs.length (eflat xs) hs hown hx ?_
    exact h v w (by simpa using hown) ⟨rfl, rfl, rfl, Nat.le_refl _, fun _ _ _ => rfl⟩
  | some ad =>
    refine wpList_append_own w hgd s x t ho base 49 i z 5 40 ht hi hz hsize hby hzs (by decide) v xs.length (eflat xs) hs hown ad ys.length c (eflat ys) hx (eflat_len ys) hi2.cells (eflat_one ys) (by unfold maxLen; omega) (by omega) hbase ?_
    intro v' w' h2 h3 _
    exact h v' w' (OwnEnts.app rfl h2) h3

set_option maxRecDepth 100000 in
set_option maxHeartbeats 4000000 in
theorem concat_any (a : Option Addr) (rs : List RowD) (ca : Nat) (w : World) (hr : RowsAt w a rs) (hl : rs.length ≤ 10000) (hn : (allN rs).length ≤ 10000) :
    Calls Try.prog 49 #[.slice a rs.length ca] w fun e w' => (∃ v, e = .returned v ∧ OwnEnts w' w.heap.size v (allN rs)) ∧ Below w.heap.size w w' := by
  have HR : Hid (RowsAt w a rs) := hr
  have HN : Hid ((allN rs).length ≤ 10000) := hn
  clear hr hn
  obtain ⟨i0, hi, hz0, hz1, hz2⟩ := info_parts Try.info49
  go_enter Try.func49, Try.ntmps49
  go_wp2_with fail
  go_loopw [3, 11] (fun s i wr => ∃ (k m : Nat), k ≤ rs.length ∧ i = .int .i64 k ∧ s = .int .i64 m ∧ Hid (m = (allN (rs.take k)).length) ∧ m ≤ 10000 ∧ wr = w)
    (fun _ i _ => rs.length - (intOf i).toNat)
  case atStart => exact ⟨0, 0, by omega, rfl, rfl, rfl, by omega, rfl⟩
  case round =>
    obtain ⟨k, m, hk, rfl, rfl, HM, hm, hwe⟩ := hrel
    obtain rfl := hwe.symm
    by_cases hkl : k < rs.length
    · have hkli : (k : Int) < (rs.length : Int) := by omega
      obtain ⟨b1, o1, rfl, hc, _⟩ := HR.out.row hkl
      have HS : Hid (m + (rs.getD k rw0).2.2.length = (allN (rs.take (k + 1))).length) := by
        show _ = _
        rw [allN_take hkl, List.length_append, HM.out]
      have hle : m + (rs.getD k rw0).2.2.length ≤ 10000 := by
        rw [HS.out]; exact Nat.le_trans (allN_take_le rs _) HN.out
      generalize rs.getD k rw0 = r at hc HS hle
      obtain ⟨ar, cr, xs⟩ := r
      simp only [rowV] at hc hle
      simp only at HS
      clear HM
      go_wp2_with fail
      go_roundw
      case rel => exact ⟨k + 1, m + xs.length, by omega, by go_num, by go_num, HS, by omega, by first | rfl | trivial⟩
      case measure => simp [intOf]; omega
    · have hkli : ¬ (k : Int) < (rs.length : Int) := by omega
      clear HM
      go_wp2_with fail
      refine (grow_any m _ (by omega)).mono ?_
      rintro e w1 ⟨⟨v1, rfl, hO1⟩, hb1⟩
      have HO1 : Hid (OwnEnts w1 w.heap.size v1 []) := hO1
      have HB1 : Hid (Below w.heap.size w w1) := hb1
      clear hO1 hb1
      go_wp2_with fail
      go_loopw [6, 27] (fun v i w2 => ∃ (j : Nat), j ≤ rs.length ∧ i = .int .i64 j ∧ OwnEnts w2 w.heap.size v (allN (rs.take j)) ∧ Below w.heap.size w w2)
        (fun _ i _ => rs.length - (intOf i).toNat)
      case atStart => exact ⟨0, by omega, rfl, HO1.out, HB1.out⟩
      case round =>
        obtain ⟨j, hj, rfl, hO, hb⟩ := hrel
        have HO : Hid (OwnEnts wr w.heap.size u6 (allN (rs.take j))) := hO
        clear hO HO1 HB1
        by_cases hjl : j < rs.length
        · have hjli : (j : Int) < (rs.length : Int) := by omega
          obtain ⟨b1, o1, rfl, hc, hok, hcap⟩ := (HR.out.below hb).row hjl
          have HS : Hid (allN (rs.take j) ++ (rs.getD j rw0).2.2 = allN (rs.take (j + 1))) := (allN_take hjl).symm
          have hle : (allN (rs.take j)).length + (rs.getD j rw0).2.2.length ≤ 10000 := by
            rw [← List.length_append, HS.out]; exact Nat.le_trans (allN_take_le rs _) HN.out
          generalize rs.getD j rw0 = r at hc HS hle hok hcap
          obtain ⟨ar, cr, xs⟩ := r
          simp only [rowV] at hc hle hok hcap
          simp only at HS
          have HX : Hid (EntsAt wr ar xs) := hok
          clear hok
          go_wp2_with (at_builtin; refine wpList_append_ents _ rfl (.tmp 31) (.tmp 32) 76 rfl w.heap.size i0 _ Try.underlying76 hi hz0 hz1 hz2 rfl u6 (allN (rs.take j)) rfl HO.out ar cr xs rfl HX.out hcap (by omega) hb.size ?_; intro v' w3 hown hgrow; refine unstop ?_)
          unfold Stop
          have HB3 : Hid (Below w.heap.size w w3) := hb.grown hgrow hb.size (fun q e => (World.ownsRow.lt HO.out q e).1)
          have HO3 : Hid (OwnEnts w3 w.heap.size v' (allN (rs.take (j + 1)))) := by rw [← HS.out]; exact hown
          clear hown hgrow
          go_wp2_with fail
          go_roundw
          case rel => exact ⟨j + 1, by omega, by go_num, HO3.out, HB3.out⟩
          case measure => simp [intOf]; omega
        · have hjli : ¬ (j : Int) < (rs.length : Int) := by omega
          have HOE : Hid (OwnEnts wr w.heap.size u6 (allN rs)) := by have := HO.out; rw [List.take_of_length_le (by omega)] at this; exact this
          clear HO
          obtain ⟨av, cv, rfl, _⟩ := HOE.out.at
          go_wp2_with fail
          go_ret
          exact ⟨⟨_, rfl, HOE.out⟩, hb⟩

end Go.Proofs.Ytijldakgfgmbiaa

/- A table opened: a sheet of one's own, with more entries; the entry that a sector is in; the table that a sheet is. -/
namespace Go.Proofs.Ytijldakgfgmbiaa
open Go.RowKit

theorem RngL.left {l m : List EntD} (h : RngL (l ++ m)) : RngL l := by
  refine ⟨by have := h.len; rw [List.length_append] at this; omega, fun i hi => ?_⟩
  have := h.rng i (by rw [List.length_append]; omega)
  simpa [List.getD, List.getElem?_append_left hi] using this
/-- a sheet of one's own: its block, ahead of its row's -/
def ShOwn (w : World) (base g : Nat) (t : TabD) : Prop := base ≤ g ∧ ∃ v, ShAt w g v t.dev t.size ∧ OwnEnts w (g + 1) v t.list
theorem ShOwn.below {w w' : World} {base g : Nat} {t : TabD} (h : ShOwn w base g t) (hb : Below w.heap.size w w') : ShOwn w' base g t := by
  obtain ⟨h0, v, h1, h2⟩ := h
  exact ⟨h0, v, h1.below hb, h2.below hb⟩
def moreT (t : TabD) (m : List EntD) : TabD := ⟨t.dev, t.size, t.list ++ m⟩
def OpenR (t : TabD) (m : List EntD) (base : Nat) (e : Ending) (w' : World) : Prop :=
  ((tokB t = false ∨ tokB (moreT t m) = false) ∧ e = .returned (.tuple #[.pointer none, .int .i64 1])) ∨
  ((tokB t = true ∧ tokB (moreT t m) = true) ∧ ∃ g, e = .returned (.tuple #[.pointer (some ⟨g, 0, none⟩), .int .i64 0]) ∧ ShOwn w' base g (moreT t m))
theorem rows2 {w : World} {g : Nat} {a b : Option Addr} {ca cb : Nat} {l m : List EntD} (hh : w.heap[g]? = some (.cells #[.slice a l.length ca, .slice b m.length cb] 76 (0, 0))) (hl : EntsAt w a l) (hm : EntsAt w b m) (ha : a = none → ca = 0) (hb : b = none → cb = 0) : RowsAt w (some ⟨g, 0, none⟩) [(a, ca, l), (b, cb, m)] := by
  refine .inr ⟨g, 0, rfl, fun i hi => ?_⟩
  obtain ⟨c0, c1, _⟩ := two hh
  match i, hi with
  | 0, _ => exact ⟨c0, hl, ha⟩
  | 1, _ => exact ⟨c1, hm, hb⟩
set_option maxRecDepth 100000 in
set_option maxHeartbeats 4000000 in
theorem open_any (v : Value) (t : TabD) (ma : Option Addr) (mc : Nat) (m : List EntD) (w : World) (hv : TabVal w v t) (hm : EntsAt w ma m) (hmn : ma = none → mc = 0) (hr : RngL (t.list ++ m)) :
    Calls Try.prog 37 #[v, .slice ma m.length mc] w fun e w' => OpenR t m w.heap.size e w' ∧ Below w.heap.size w w' := by
  have HV : Hid (∀ w', Below w.heap.size w w' → TabVal w' v t) := fun w' h => hv.below h
  obtain ⟨a, c, rfl, hx, hn⟩ := hv
  obtain ⟨W0, hW0⟩ : ∃ W0, W0 = w.alloc (.cells #[.int .i64 t.dev, .int .i64 t.size, .slice a t.list.length c] 24) := ⟨_, rfl⟩
  have hb0 : Below w.heap.size w W0 := by rw [hW0]; exact nwA (nwR w) _
  have HB0 : Hid (Below w.heap.size w W0) := hb0
  have hx0 : W0.heap[w.heap.size]? = some (.cells #[.int .i64 t.dev, .int .i64 t.size, .slice a t.list.length c] 24 (0, 0)) := by rw [hW0]; exact heap_alloc_new w _
  have HX0 : Hid (∀ w', Below W0.heap.size W0 w' → w'.heap[w.heap.size]? = some (.cells #[.int .i64 t.dev, .int .i64 t.size, .slice a t.list.length c] 24 (0, 0))) := fun w' h => (h.block _ (Array.getElem?_eq_some_iff.1 hx0).1).trans hx0
  have HC : Hid (Calls Try.prog 35 #[.agg #[.int .i64 t.dev, .int .i64 t.size, .slice a t.list.length c]] W0 fun e w' => e = .returned (.int .i64 (if tokB t then 0 else 1)) ∧ Below W0.heap.size W0 w') := check_any _ t W0 (HV.out W0 hb0) hr.left
  have HSO : Hid (∀ w', Calls Try.prog 47 #[.agg #[.int .i64 t.dev, .int .i64 t.size, .slice a t.list.length c]] w' fun e w'' => (∃ g, e = .returned (.pointer (some ⟨g, 0, none⟩)) ∧ w'.heap.size ≤ g ∧ ShAt w'' g (.slice a t.list.length c) t.dev t.size) ∧ Below w'.heap.size w' w'') := fun w' => sheetOf_any t.dev t.size _ t.list.length c a w' rfl
  have HE : Hid (∀ w', Below w.heap.size w w' → EntsAt w' a t.list ∧ EntsAt w' ma m) := fun w' h => ⟨hx.below h, hm.below h⟩
  have HN : Hid ((a = none → c = 0) ∧ (ma = none → mc = 0)) := ⟨hn.2, hmn⟩
  have HR : Hid (RngL (t.list ++ m)) := hr
  have HO : Hid (∀ p, tokB t = p → p = false → OpenR t m w.heap.size (.returned (.tuple #[.pointer none, .int .i64 1])) = fun _ => True) := fun p h1 h2 => by
    subst h2
    funext w'
    simp [OpenR, h1]
  clear hx hm hmn hr hn hb0 hx0 HV
  obtain ⟨p, hp⟩ : ∃ p, tokB t = p := ⟨_, rfl⟩
  have HPT : Hid (tokB t = p) := hp
  rw [hp] at HC
  clear hp HO
  go_enter Try.func37, Try.ntmps37
  go_wp2_with fail
  rw [← hW0]
  clear hW0
  refine HC.out.mono ?_
  rintro e w1 ⟨rfl, hb1⟩
  have HB1 : Hid (Below W0.heap.size W0 w1) := hb1
  clear hb1 HC
  cases p
  case false =>
    go_wp2_with fail
    go_ret2
    exact ⟨.inl ⟨.inl HPT.out, rfl⟩, nwT HB0.out HB1.out⟩
  case true =>
  obtain ⟨x0, x1, x2, _⟩ := three (HX0.out w1 HB1.out)
  go_wp2_with fail
  refine (HSO.out w1).mono ?_
  rintro e w2 ⟨⟨g, rfl, hg, hs⟩, hb2⟩
  have HB2 : Hid (Below w.heap.size w w2) := nwT HB0.out (nwT HB1.out hb2)
  have HG : Hid (w.heap.size ≤ g ∧ g + 1 ≤ w2.heap.size) := ⟨Nat.le_trans (nwT HB0.out HB1.out).size hg, hs.lt⟩
  have HS : Hid (ShAt w2 g (.slice a t.list.length c) t.dev t.size) := hs
  obtain ⟨W3, hW3⟩ : ∃ W3, W3 = w2.alloc (.cells #[.slice a t.list.length c, .slice ma m.length mc] 76) := ⟨_, rfl⟩
  have HB3 : Hid (Below w2.heap.size w2 W3) := by rw [hW3]; exact nwA (nwR w2) _
  have h3 : W3.heap[w2.heap.size]? = some (.cells #[.slice a t.list.length c, .slice ma m.length mc] 76 (0, 0)) := by rw [hW3]; exact heap_alloc_new w2 _
  have HCC : Hid (Calls Try.prog 49 #[.slice (some ⟨w2.heap.size, 0, none⟩) 2 2] W3 fun e w' => (∃ v, e = .returned v ∧ OwnEnts w' W3.heap.size v (t.list ++ m)) ∧ Below W3.heap.size W3 w') := by
    have hE := HE.out W3 (nwT HB2.out HB3.out)
    have := concat_any (some ⟨w2.heap.size, 0, none⟩) [(a, c, t.list), (ma, mc, m)] 2 W3 (rows2 h3 hE.1 hE.2 HN.out.1 HN.out.2) (by simp) (by have := HR.out.len; simp [allN] at this ⊢; omega)
    show Calls _ _ _ _ _
    simpa [allN] using this
  clear hs hb2 x0 x1 x2 h3 hg
  obtain ⟨s0, s1, s2, _⟩ := three HS.out
  go_wp2_with fail
  rw [← hW3]
  clear hW3
  refine HCC.out.mono ?_
  rintro e w4 ⟨⟨v4, rfl, ho4⟩, hb4⟩
  have HB4 : Hid (Below w.heap.size w w4) := nwT HB2.out (nwT HB3.out hb4)
  have HS4 : Hid (ShAt w4 g (.slice a t.list.length c) t.dev t.size) := HS.out.below (nwT HB3.out hb4)
  have HO4 : Hid (OwnEnts w4 (g + 1) v4 (t.list ++ m)) := ho4.le (Nat.le_trans HG.out.2 HB3.out.size)
  obtain ⟨av, cv, rfl, _⟩ := ho4.at
  obtain ⟨N, hN⟩ : ∃ N, N = (t.list ++ m).length := ⟨_, rfl⟩
  have HNN : Hid (N = (t.list ++ m).length) := hN
  rw [← hN] at HO4 ⊢
  clear hN
  clear s0 s1 s2 ho4 hb4 HCC
  obtain ⟨s0, s1, s2, sf⟩ := three HS4.out
  obtain ⟨W5, hW5⟩ : ∃ W5, W5 = w4.setCell ⟨g, 0, none⟩ (.slice av N cv) := ⟨_, rfl⟩
  have HB5 : Hid (Below w.heap.size w W5) := by rw [hW5]; exact HB4.out.setCell (p := ⟨g, 0, none⟩) HG.out.1 _
  have HS5 : Hid (ShAt W5 g (.slice av N cv) t.dev t.size) := by rw [hW5]; exact heap_setCell_same w4 g 0 _ 78 _ HS4.out
  have HO5 : Hid (OwnEnts W5 (g + 1) (.slice av N cv) (t.list ++ m)) := by rw [hW5]; exact rowset HO4.out 0 (by omega) _
  have HMB : Hid (Calls Try.prog 48 #[.pointer (some ⟨g, 0, none⟩)] W5 fun e w' => e = .returned (.bool (tokB (moreT t m))) ∧ Below W5.heap.size W5 w') := by
    obtain ⟨a5, c5, e5, h5, _⟩ := HO5.out.at
    injection e5 with e5 _ e6
    subst e5; subst e6
    have h6 := HS5.out
    rw [HNN.out] at h6
    exact mayBe_any g av cv (moreT t m) W5 h6 h5 HR.out
  obtain ⟨p, hp⟩ : ∃ p, tokB (moreT t m) = p := ⟨_, rfl⟩
  have HPM : Hid (tokB (moreT t m) = p) := hp
  rw [hp] at HMB
  clear hp
  go_wp2_with fail
  rw [← hW5]
  clear hW5 s0 s1 s2 sf
  refine HMB.out.mono ?_
  rintro e w6 ⟨rfl, hb6⟩
  have HB6 : Hid (Below w.heap.size w w6) := nwT HB5.out hb6
  have HSO6 : Hid (ShOwn w6 w.heap.size g (moreT t m)) := ⟨HG.out.1, _, HS5.out.below hb6, HO5.out.below hb6⟩
  clear hb6 HMB
  cases p
  case false =>
    go_wp2_with fail
    go_ret2
    exact ⟨.inl ⟨.inr HPM.out, rfl⟩, HB6.out⟩
  case true =>
    go_wp2_with fail
    go_ret2
    exact ⟨.inr ⟨⟨HPT.out, HPM.out⟩, g, rfl, HSO6.out⟩, HB6.out⟩

def inT (l : List EntD) (n : Int) : Option Nat := l.findIdx? (hasB · n)
def ptrO (b o : Nat) (k : Option Nat) : Value := .agg #[.pointer (k.map fun k => ⟨b, o + k * 5, none⟩)]
set_option maxRecDepth 100000 in
set_option maxHeartbeats 4000000 in
theorem find_any (a : Option Addr) (c : Nat) (l : List EntD) (n : Int) (w : World) (hx : EntsAt w a l) (hf : ∀ i, i < l.length → Fair (l.getD i EZ)) (hl : l.length ≤ 1000) :
    Calls Try.prog 53 #[.slice a l.length c, .int .i64 n] w fun e w' => (inT l n = none ∧ e = .returned (.tuple #[.agg #[.pointer none], .bool false]) ∨ ∃ b o k, a = some ⟨b, o, none⟩ ∧ inT l n = some k ∧ k < l.length ∧ e = .returned (.tuple #[PV b (o + k * 5), .bool true])) ∧ Below w.heap.size w w' := by
  obtain ⟨W0, hW0⟩ : ∃ W0, W0 = w.alloc (.cells #[.pointer none] 82) := ⟨_, rfl⟩
  have HB0 : Hid (Below w.heap.size w W0) := by rw [hW0]; exact nwA (nwR w) _
  have HR0 : Hid (W0.heap[w.heap.size]? = some (.cells #[.pointer none] 82 (0, 0))) := by rw [hW0]; exact heap_alloc_new w _
  have HX : Hid (∀ w', Below W0.heap.size W0 w' → EntsAt w' a l) := fun w' h => hx.below (nwT HB0.out h)
  have HF : Hid (∀ i, i < l.length → Fair (l.getD i EZ)) := hf
  have HRR : Hid (∀ w', Below W0.heap.size W0 w' → w'.heap[w.heap.size]? = some (.cells #[.pointer none] 82 (0, 0))) := fun w' h => (h.block _ (Array.getElem?_eq_some_iff.1 HR0.out).1).trans HR0.out
  clear hx hf
  go_enter Try.func53, Try.ntmps53
  go_wp2_with fail
  rw [← hW0]
  clear hW0
  go_loopw [10] (fun i wr => ∃ (k : Nat), k ≤ l.length ∧ i = .int .i64 k ∧ Hid (∀ j, j < k → hasB (l.getD j EZ) n = false) ∧ Below W0.heap.size W0 wr)
    (fun i _ => l.length - (intOf i).toNat)
  case atStart => exact ⟨0, by omega, rfl, fun j hj => by omega, nwR W0⟩
  case round =>
    obtain ⟨k, hk, rfl, HE, hb⟩ := hrel
    have HRW : Hid (wr.heap[w.heap.size]? = some (.cells #[.pointer none] 82 (0, 0))) := HRR.out wr hb
    by_cases hkl : k < l.length
    case neg =>
      have hkli : ¬ (k : Int) < (l.length : Int) := by omega
      have HR : Hid (inT l n = none) := find_no EZ (fun j hj => HE.out j (by omega))
      obtain ⟨r0, rf⟩ := one HRW.out
      go_wp2_with fail
      have s0 : (wr.setCell ⟨w.heap.size, 0, none⟩ (.pointer none)).cell? ⟨w.heap.size, 0, none⟩ = some (.pointer none) := by
        have h := heap_setCell_same _ w.heap.size 0 _ 82 (.pointer none) HRW.out
        simp at h
        exact (one h).1
      exact bodyPost_ret (v := .tuple #[.agg #[.pointer none], .bool false]) (by simp [results, Try.results53, go_sem, s0]) rfl ⟨.inl ⟨HR.out, rfl⟩, (nwT HB0.out hb).setCell (Nat.le_refl _) _⟩
    case pos =>
    have hkli : (k : Int) < (l.length : Int) := by omega
    obtain ⟨b, o, rfl, hE⟩ := (HX.out wr hb).ent hkl
    have HFX := HF.out k hkl
    have HK : Hid (hasB (l.getD k EZ) n = false → ∀ j, j < k + 1 → hasB (l.getD j EZ) n = false) := fun h j hj => by
      by_cases e : j = k
      · subst e; exact h
      · exact HE.out j (by omega)
    have HY : Hid (hasB (l.getD k EZ) n = true → inT l n = some k) := fun h => find_yes EZ hkl h (fun j hj => HE.out j hj)
    have HAT : Hid (Calls Try.prog 50 #[.slice (some ⟨b, o, none⟩) l.length c, .int .i64 k] wr fun e w' => e = .returned (.agg #[.pointer (some ⟨b, o + k * 5, none⟩)]) ∧ Below wr.heap.size wr w') := at_any b o l.length c k wr hkl
    generalize l.getD k EZ = x at hE HFX HK HY
    have HH : Hid (∀ w', Below wr.heap.size wr w' → Calls Try.prog 60 #[.agg #[.pointer (some ⟨b, o + k * 5, none⟩)], .int .i64 n] w' fun e w'' => e = .returned (.bool (hasB x n)) ∧ Below w'.heap.size w' w'') := fun w' h => has_any b (o + k * 5) x n w' (hE.below h) (by have := HFX.f0; have := HFX.l0; omega) (by have := HFX.f1; have := HFX.l1; omega)
    clear hE HFX
    generalize hasB x n = p at HK HY HH
    go_wp2_with fail
    refine HAT.out.mono ?_
    rintro e w1 ⟨rfl, hb1⟩
    have HW1 : Hid (Below W0.heap.size W0 w1) := nwT hb hb1
    have HHW : Hid (Calls Try.prog 60 #[.agg #[.pointer (some ⟨b, o + k * 5, none⟩)], .int .i64 n] (w1.alloc (.cells #[.pointer (some ⟨b, o + k * 5, none⟩)] 82)) fun e w'' => e = .returned (.bool p) ∧ Below (w1.alloc (.cells #[.pointer (some ⟨b, o + k * 5, none⟩)] 82)).heap.size (w1.alloc (.cells #[.pointer (some ⟨b, o + k * 5, none⟩)] 82)) w'') := HH.out _ (nwA hb1 _)
    clear hb1 HAT HH
    go_wp2_with fail
    refine HHW.out.mono ?_
    rintro e w2 ⟨rfl, hb2⟩
    have HW2 : Hid (Below W0.heap.size W0 w2) := nwT (nwA HW1.out _) hb2
    have hc : w2.heap[w1.heap.size]? = some (.cells #[.pointer (some ⟨b, o + k * 5, none⟩)] 82 (0, 0)) := (hb2.block _ (by simp)).trans (heap_alloc_new w1 _)
    obtain ⟨c0, _⟩ := one hc
    clear hc hb2 HHW
    cases p
    case false =>
      have HN : Hid (∀ j, j < k + 1 → hasB (l.getD j EZ) n = false) := HK.out rfl
      clear HY HK
      go_wp2_with fail
      go_roundw
      case rel => exact ⟨k + 1, by omega, by go_num, HN, HW2.out⟩
      case measure => simp [intOf]; omega
    case true =>
      have HR : Hid (inT l n = some k) := HY.out rfl
      have HR2 : Hid (w2.heap[w.heap.size]? = some (.cells #[.pointer none] 82 (0, 0))) := HRR.out w2 HW2.out
      obtain ⟨r0, rf⟩ := one HR2.out
      clear HY HK
      go_wp2_with fail
      have s0 : (w2.setCell ⟨w.heap.size, 0, none⟩ (.pointer (some ⟨b, o + k * 5, none⟩))).cell? ⟨w.heap.size, 0, none⟩ = some (.pointer (some ⟨b, o + k * 5, none⟩)) := by
        have h := heap_setCell_same _ w.heap.size 0 _ 82 (.pointer (some ⟨b, o + k * 5, none⟩)) HR2.out
        simp at h
        exact (one h).1
      exact bodyPost_ret (v := .tuple #[.agg #[.pointer (some ⟨b, o + k * 5, none⟩)], .bool true]) (by simp [results, Try.results53, go_sem, s0]) rfl ⟨.inr ⟨b, o, k, rfl, HR.out, hkl, rfl⟩, (nwT HB0.out HW2.out).setCell (Nat.le_refl _) _⟩

end Go.Proofs.Ytijldakgfgmbiaa

/- What holds of a table that may be. -/
namespace Go.Proofs.Ytijldakgfgmbiaa
open Go.RowKit

theorem okFrom_cons {d s m : Int} {x : EntD} {r : List EntD} : okFrom d s m (x :: r) = true ↔ m ≤ x.frm ∧ InE d s x ∧ okFrom d s (x.frm + x.len) r = true := by
  show (decide (m ≤ x.frm) && (mayB d s x && okFrom d s (x.frm + x.len) r)) = true ↔ _
  simp only [Bool.and_eq_true, decide_eq_true_eq]
  constructor
  · rintro ⟨h1, h2, h3⟩; exact ⟨h1, inE_of h2, h3⟩
  · rintro ⟨h1, h2, h3⟩; exact ⟨h1, h2.may, h3⟩
theorem okFrom_in {d s : Int} : ∀ {l : List EntD} {m : Int}, okFrom d s m l = true → ∀ x ∈ l, InE d s x ∧ m ≤ x.frm := by
  intro l
  induction l with
  | nil => intro m _ x hx; simp at hx
  | cons y r ih =>
    intro m h x hx
    obtain ⟨h1, h2, h3⟩ := okFrom_cons.1 h
    rcases List.mem_cons.1 hx with rfl | hx
    · exact ⟨h2, h1⟩
    · have := ih h3 x hx
      have h4 := h2.l0
      exact ⟨this.1, by omega⟩
theorem okFrom_len {d s : Int} : ∀ {l : List EntD} {m : Int}, okFrom d s m l = true → l ≠ [] → m + l.length ≤ s := by
  intro l
  induction l with
  | nil => intro m _ h; exact absurd rfl h
  | cons y r ih =>
    intro m h _
    obtain ⟨h1, h2, h3⟩ := okFrom_cons.1 h
    have h4 := h2.l0
    have h5 := h2.fl
    by_cases hr : r = []
    · subst hr; simp; omega
    · have := ih h3 hr
      simp only [List.length_cons]; omega
structure TokP (t : TabD) : Prop where
  d0 : 1 ≤ t.dev
  d1 : t.dev ≤ 40
  s0 : 1 ≤ t.size
  s1 : t.size ≤ 64
  ok : okFrom t.dev t.size 0 t.list = true
theorem tok_iff {t : TabD} : tokB t = true ↔ TokP t := by
  unfold tokB idB
  simp only [Bool.and_eq_true, decide_eq_true_eq]
  constructor
  · rintro ⟨⟨h1, h2⟩, h3, h4, h5⟩; exact ⟨h1, h2, h3, h4, h5⟩
  · rintro ⟨h1, h2, h3, h4, h5⟩; exact ⟨⟨h1, h2⟩, h3, h4, h5⟩
theorem TokP.len {t : TabD} (h : TokP t) : t.list.length ≤ 64 := by
  by_cases hn : t.list = []
  · rw [hn]; simp
  · have := okFrom_len h.ok hn
    have := h.s1
    omega
theorem TokP.inE {t : TabD} (h : TokP t) {i : Nat} (hi : i < t.list.length) : InE t.dev t.size (t.list.getD i EZ) := (okFrom_in h.ok _ (getD_mem EZ hi)).1
theorem TokP.fair {t : TabD} (h : TokP t) {i : Nat} (hi : i < t.list.length) : Fair (t.list.getD i EZ) := (h.inE hi).fair h.s1
theorem InE.rng {d s : Int} {x : EntD} (h : InE d s x) (hs : s ≤ 64) : RngE x := by
  have h1 := h.f0; have h2 := h.l0; have h3 := h.fl; have h4 := h.t0; have h5 := h.tl; have h6 := h.d0; have h7 := h.d1; have h9 := h.s0; have h10 := h.sl
  exact ⟨⟨by omega, by omega⟩, ⟨by omega, by omega⟩, ⟨by omega, by omega⟩, ⟨by omega, by omega⟩, by omega, by omega⟩
theorem TokP.rng {t : TabD} (h : TokP t) : RngL t.list := ⟨by have := h.len; omega, fun _ hi => (h.inE hi).rng h.s1⟩
/-- where the last entry ends -/
def endT (l : List EntD) : Int := match l.getLast? with | some x => x.frm + x.len | none => 0
theorem okFrom_snoc {d s : Int} {x : EntD} : ∀ {l : List EntD} {m : Int}, okFrom d s m (l ++ [x]) = true ↔ okFrom d s m l = true ∧ (match l.getLast? with | some y => y.frm + y.len | none => m) ≤ x.frm ∧ InE d s x := by
  intro l
  induction l with
  | nil =>
    intro m
    show okFrom d s m [x] = true ↔ okFrom d s m [] = true ∧ m ≤ x.frm ∧ InE d s x
    rw [okFrom_cons]
    constructor
    · rintro ⟨h1, h2, _⟩; exact ⟨rfl, h1, h2⟩
    · rintro ⟨_, h1, h2⟩; exact ⟨h1, h2, rfl⟩
  | cons y r ih =>
    intro m
    rw [List.cons_append, okFrom_cons, okFrom_cons, ih]
    have e : (match (y :: r).getLast? with | some z => z.frm + z.len | none => m) = (match r.getLast? with | some z => z.frm + z.len | none => y.frm + y.len) := by
      rw [List.getLast?_cons]
      cases hr : r.getLast? with
      | none => simp
      | some z => simp
    rw [e]
    constructor
    · rintro ⟨h1, h2, h3, h4, h5⟩; exact ⟨⟨h1, h2, h3⟩, h4, h5⟩
    · rintro ⟨⟨h1, h2, h3⟩, h4, h5⟩; exact ⟨h1, h2, h3, h4, h5⟩
def newE (n d a : Int) : EntD := ⟨n, 1, d, a, 0⟩
theorem tok_new {t : TabD} (h : TokP t) (n d a : Int) : tokB (moreT t [newE n d a]) = true ↔ endT t.list ≤ n ∧ n ≤ t.size - 1 ∧ 1 ≤ d ∧ d ≤ 40 ∧ d ≠ t.dev ∧ 0 ≤ a ∧ a ≤ 63 := by
  rw [tok_iff]
  have hE : (0 : Int) ≤ endT t.list := by
    unfold endT
    cases hl : t.list.getLast? with
    | none => exact Int.le_refl _
    | some x =>
      have := (okFrom_in h.ok x (List.mem_of_getLast? hl)).1
      have h1 := this.f0; have h2 := this.l0
      show 0 ≤ x.frm + x.len
      omega
  constructor
  · intro k
    have := (okFrom_snoc.1 k.ok).2
    obtain ⟨h1, h2⟩ := this
    have h3 := h2.fl; have h4 := h2.d0; have h5 := h2.d1; have h6 := h2.dn; have h7 := h2.t0; have h8 := h2.tl
    simp only [newE, moreT] at h1 h3 h4 h5 h6 h7 h8
    exact ⟨h1, by omega, h4, h5, h6, h7, by omega⟩
  · rintro ⟨h1, h2, h3, h4, h5, h6, h7⟩
    refine ⟨h.d0, h.d1, h.s0, h.s1, ?_⟩
    refine okFrom_snoc.2 ⟨h.ok, h1, ?_⟩
    have h9 := h.s1
    exact ⟨by simp only [newE]; omega, by simp [newE], by simp only [newE, moreT]; omega, h6, by simp only [newE]; omega, h3, h4, h5, by simp [newE], by simp [newE]⟩

end Go.Proofs.Ytijldakgfgmbiaa

/- A table opened at a sector; where a sector lies. -/
namespace Go.Proofs.Ytijldakgfgmbiaa
open Go.RowKit

theorem OwnEnts.zero {w : World} {base n c : Nat} {a : Option Addr} {l : List EntD} (h : OwnEnts w base (.slice a n c) l) : n = l.length ∧ (0 < l.length → ∃ b, a = some ⟨b, 0, none⟩ ∧ base ≤ b) := by
  rcases h.2 with ⟨hv, hn⟩ | ⟨g, cap, cur, hv, hb, _⟩
  · injection hv with h1 h2 _
    exact ⟨by omega, fun h => by omega⟩
  · injection hv with h1 h2 _
    exact ⟨h2, fun _ => ⟨g, h1, hb⟩⟩
def OpenAtR (t : TabD) (n : Int) (base : Nat) (e : Ending) (w' : World) : Prop :=
  (tokB t = false ∧ e = .returned (.tuple #[.pointer none, .agg #[.pointer none], .int .i64 1])) ∨
  (tokB t = true ∧ inT t.list n = none ∧ e = .returned (.tuple #[.pointer none, .agg #[.pointer none], .int .i64 3])) ∨
  (tokB t = true ∧ ∃ k g b c, inT t.list n = some k ∧ k < t.list.length ∧ e = .returned (.tuple #[.pointer (some ⟨g, 0, none⟩), .agg #[.pointer (some ⟨b, k * 5, none⟩)], .int .i64 0]) ∧ base ≤ g ∧ ShAt w' g (.slice (some ⟨b, 0, none⟩) t.list.length c) t.dev t.size ∧ OwnEnts w' (g + 1) (.slice (some ⟨b, 0, none⟩) t.list.length c) t.list)
theorem moreT_nil (t : TabD) : moreT t [] = t := by unfold moreT; rw [List.append_nil]
theorem open_one {v : Value} {t : TabD} {w : World} (hv : TabVal w v t) (hr : RngL t.list) :
    Calls Try.prog 37 #[v, .slice none 0 0] w fun e w' => ((tokB t = false ∧ e = .returned (.tuple #[.pointer none, .int .i64 1])) ∨ (tokB t = true ∧ ∃ g, e = .returned (.tuple #[.pointer (some ⟨g, 0, none⟩), .int .i64 0]) ∧ ShOwn w' w.heap.size g t)) ∧ Below w.heap.size w w' := by
  refine (open_any v t none 0 [] w hv (.inl rfl) (fun _ => rfl) (by rw [List.append_nil]; exact hr)).mono ?_
  rintro e w' ⟨h, hb⟩
  refine ⟨?_, hb⟩
  rcases h with ⟨h, rfl⟩ | ⟨⟨h, _⟩, g, rfl, hs⟩
  · rw [moreT_nil] at h
    exact .inl ⟨h.elim id id, rfl⟩
  · rw [moreT_nil] at hs
    exact .inr ⟨h, g, rfl, hs⟩

set_option maxRecDepth 100000 in
set_option maxHeartbeats 4000000 in
theorem openAt_any (v : Value) (t : TabD) (n : Int) (w : World) (hv : TabVal w v t) (hr : RngL t.list) :
    Calls Try.prog 41 #[v, .int .i64 n] w fun e w' => OpenAtR t n w.heap.size e w' ∧ Below w.heap.size w w' := by
  have HV : Hid (∀ w', Below w.heap.size w w' → TabVal w' v t) := fun w' h => hv.below h
  obtain ⟨a, c, rfl, hx, hn⟩ := hv
  obtain ⟨W0, hW0⟩ : ∃ W0, W0 = (w.alloc (.cells #[.int .i64 t.dev, .int .i64 t.size, .slice a t.list.length c] 24)).alloc (.cells #[.pointer none] 82) := ⟨_, rfl⟩
  have hb0 : Below w.heap.size w W0 := by rw [hW0]; exact nwA (nwA (nwR w) _) _
  have HSZ : Hid (W0.heap.size = w.heap.size + 2) := by show _ = _; rw [hW0]; simp
  have HB0 : Hid (Below w.heap.size w W0) := hb0
  have hz0 : W0.heap[w.heap.size + 1]? = some (.cells #[.pointer none] 82 (0, 0)) := by rw [hW0]; exact heap_alloc_new2 w _ _
  have HZ0 : Hid (∀ w', Below W0.heap.size W0 w' → w'.heap[w.heap.size + 1]? = some (.cells #[.pointer none] 82 (0, 0))) := fun w' h => (h.block _ (Array.getElem?_eq_some_iff.1 hz0).1).trans hz0
  have HO : Hid (Calls Try.prog 37 #[.agg #[.int .i64 t.dev, .int .i64 t.size, .slice a t.list.length c], .slice none 0 0] W0 fun e w' => ((tokB t = false ∧ e = .returned (.tuple #[.pointer none, .int .i64 1])) ∨ (tokB t = true ∧ ∃ g, e = .returned (.tuple #[.pointer (some ⟨g, 0, none⟩), .int .i64 0]) ∧ ShOwn w' W0.heap.size g t)) ∧ Below W0.heap.size W0 w') := open_one (HV.out W0 hb0) hr
  clear hx hr hn hb0 hz0 HV
  go_enter Try.func41, Try.ntmps41
  go_wp2_with fail
  rw [← hW0]
  clear hW0
  refine HO.out.mono ?_
  rintro e w1 ⟨hor, hb1⟩
  have HB1 : Hid (Below W0.heap.size W0 w1) := hb1
  have HZ1 : Hid (w1.heap[w.heap.size + 1]? = some (.cells #[.pointer none] 82 (0, 0))) := HZ0.out w1 hb1
  clear hb1 HO
  obtain ⟨z0, zf⟩ := one HZ1.out
  rcases hor with ⟨ht, rfl⟩ | ⟨ht, g, rfl, hg, u, hs, ho⟩
  · go_wp2_with fail
    refine bodyPost_ret (v := .tuple #[.pointer none, .agg #[.pointer none], .int .i64 1]) (by simp [results, Try.results41, go_sem, z0]) rfl ⟨.inl ⟨ht, rfl⟩, ?_⟩
    exact (nwT HB0.out HB1.out).setCell (p := ⟨w.heap.size + 1, 0, none⟩) (Nat.le_succ _) _
  · have hT := tok_iff.1 ht
    have HT : Hid (tokB t = true) := ht
    obtain ⟨av, cv, rfl, hxe, _⟩ := ho.at
    have HS1 : Hid (ShAt w1 g (.slice av t.list.length cv) t.dev t.size) := hs
    have HO1 : Hid (OwnEnts w1 (g + 1) (.slice av t.list.length cv) t.list) := ho
    have HG : Hid (W0.heap.size ≤ g) := hg
    have HF : Hid (Calls Try.prog 53 #[.slice av t.list.length cv, .int .i64 n] w1 fun e w' => (inT t.list n = none ∧ e = .returned (.tuple #[.agg #[.pointer none], .bool false]) ∨ ∃ b o k, av = some ⟨b, o, none⟩ ∧ inT t.list n = some k ∧ k < t.list.length ∧ e = .returned (.tuple #[PV b (o + k * 5), .bool true])) ∧ Below w1.heap.size w1 w') := find_any av cv t.list n w1 hxe (fun i hi => hT.fair hi) (by have := hT.len; omega)
    obtain ⟨s0, s1, s2, _⟩ := three hs
    clear ht hT hxe hs ho hg
    go_wp2_with fail
    refine HF.out.mono ?_
    rintro e w2 ⟨hor, hb2⟩
    have HB2 : Hid (Below W0.heap.size W0 w2) := nwT HB1.out hb2
    have HZ2 : Hid (w2.heap[w.heap.size + 1]? = some (.cells #[.pointer none] 82 (0, 0))) := HZ0.out w2 HB2.out
    have HS2 : Hid (ShAt w2 g (.slice av t.list.length cv) t.dev t.size) := HS1.out.below hb2
    have HO2 : Hid (OwnEnts w2 (g + 1) (.slice av t.list.length cv) t.list) := HO1.out.below hb2
    clear s0 s1 s2 z0 zf hb2 HF HS1 HO1
    rcases hor with ⟨hin, rfl⟩ | ⟨b, o, k, rfl, hin, hk, rfl⟩
    · have HIN : Hid (inT t.list n = none) := hin
      clear hin
      have HZ3 : Hid ((w2.alloc (.cells #[.pointer none] 82)).heap[w.heap.size + 1]? = some (.cells #[.pointer none] 82 (0, 0))) := HZ0.out _ (nwA HB2.out _)
      obtain ⟨z0, zf⟩ := one HZ3.out
      go_wp2_with fail
      refine bodyPost_ret (v := .tuple #[.pointer none, .agg #[.pointer none], .int .i64 3]) (by simp [results, Try.results41, go_sem, z0]) rfl ⟨.inr (.inl ⟨HT.out, HIN.out, rfl⟩), ?_⟩
      exact (nwA (nwT HB0.out HB2.out) _).setCell (p := ⟨w.heap.size + 1, 0, none⟩) (Nat.le_succ _) _
    · have HIN : Hid (inT t.list n = some k ∧ k < t.list.length) := ⟨hin, hk⟩
      obtain ⟨b', e', _⟩ := HO2.out.zero.2 (by omega)
      injection e' with e'
      injection e' with e1 e2
      subst e1; subst e2
      clear hin hk
      simp only [PV, Nat.zero_add]
      have HZ3 : Hid ((w2.alloc (.cells #[.pointer (some ⟨b, k * 5, none⟩)] 82)).heap[w.heap.size + 1]? = some (.cells #[.pointer none] 82 (0, 0))) := HZ0.out _ (nwA HB2.out _)
      have HZ4 : Hid ((w2.alloc (.cells #[.pointer (some ⟨b, k * 5, none⟩)] 82)).heap[w2.heap.size]? = some (.cells #[.pointer (some ⟨b, k * 5, none⟩)] 82 (0, 0))) := heap_alloc_new w2 _
      obtain ⟨z0, zf⟩ := one HZ3.out
      obtain ⟨y0, yf⟩ := one HZ4.out
      go_wp2_with fail
      go_region
      all_goals (try go_wp2_with fail)
      all_goals
        have HZD := heap_setCell_same (w2.alloc (.cells #[.pointer (some ⟨b, k * 5, none⟩)] 82)) (w.heap.size + 1) 0 _ 82 (.pointer (some ⟨b, k * 5, none⟩)) HZ3.out
        have s0 := (one HZD).1
        refine bodyPost_ret (v := .tuple #[.pointer (some ⟨g, 0, none⟩), .agg #[.pointer (some ⟨b, k * 5, none⟩)], .int .i64 0]) (by simp [results, Try.results41, go_sem, s0]) rfl ⟨.inr (.inr ⟨HT.out, k, g, b, cv, HIN.out.1, HIN.out.2, rfl, ?_, ?_, ?_⟩), ?_⟩
        · have := HSZ.out; have := HG.out; omega
        · exact (heap_setCell_other _ ⟨w.heap.size + 1, 0, none⟩ g _ (by show g ≠ w.heap.size + 1; have := HSZ.out; have := HG.out; omega)).trans ((Lib.alloc_old _ _ _ HS2.out.lt).trans HS2.out)
        · exact own_below (rowset (HO2.out.below (nwA (nwR w2) _)) 0 (by have := HSZ.out; have := HG.out; omega) _) (Below.drew (nwR _))
        · exact Below.drew ((nwA (nwT HB0.out HB2.out) _).setCell (p := ⟨w.heap.size + 1, 0, none⟩) (Nat.le_succ _) _)

set_option maxRecDepth 100000 in
set_option maxHeartbeats 4000000 in
theorem tableOf_any (g : Nat) (a : Option Addr) (n c : Nat) (d s : Int) (w : World) (hs : ShAt w g (.slice a n c) d s) :
    Calls Try.prog 39 #[.pointer (some ⟨g, 0, none⟩)] w fun e w' => e = .returned (.agg #[.int .i64 d, .int .i64 s, .slice a n c]) ∧ Below w.heap.size w w' := by
  have hlt := hs.lt
  obtain ⟨a0, a1, a2, _⟩ := three hs
  go_enter Try.func39, Try.ntmps39
  go_wp2_with fail
  go_region
  all_goals (try go_wp2_with fail)
  all_goals
    refine bodyPost_ret (v := .agg #[.int .i64 d, .int .i64 s, .slice a n c]) (by simp [results, Try.results39, go_sem]) rfl ⟨rfl, ?_⟩
    exact Below.drew (nwA (nwR w) _)

theorem hasB_iff {x : EntD} {n : Int} : hasB x n = true ↔ x.frm ≤ n ∧ n < x.frm + x.len := by unfold hasB; simp
def lookR (t : TabD) (n : Int) : Value :=
  if tokB t then match inT t.list n with
    | some k => .tuple #[ptrV (t.list.getD k EZ).dev (plc (t.list.getD k EZ) n), .int .i64 0]
    | none => .tuple #[ptrV 0 0, .int .i64 3]
  else .tuple #[ptrV 0 0, .int .i64 1]
set_option maxRecDepth 100000 in
set_option maxHeartbeats 4000000 in
theorem look_any (v : Value) (t : TabD) (n : Int) (w : World) (hv : TabVal w v t) (hr : RngL t.list) :
    Calls Try.prog 16 #[v, .int .i64 n] w fun e w' => e = .returned (lookR t n) ∧ Below w.heap.size w w' := by
  have HV : Hid (∀ w', Below w.heap.size w w' → TabVal w' v t) := fun w' h => hv.below h
  obtain ⟨a, c, rfl, hx, hn⟩ := hv
  obtain ⟨W0, hW0⟩ : ∃ W0, W0 = (w.alloc (.cells #[.int .i64 t.dev, .int .i64 t.size, .slice a t.list.length c] 24)).alloc (.cells #[.int .i64 0, .int .i64 0] 33) := ⟨_, rfl⟩
  have hb0 : Below w.heap.size w W0 := by rw [hW0]; exact nwA (nwA (nwR w) _) _
  have HB0 : Hid (Below w.heap.size w W0) := hb0
  have hz0 : W0.heap[w.heap.size + 1]? = some (.cells #[.int .i64 0, .int .i64 0] 33 (0, 0)) := by rw [hW0]; exact heap_alloc_new2 w _ _
  have HZ0 : Hid (∀ w', Below W0.heap.size W0 w' → w'.heap[w.heap.size + 1]? = some (.cells #[.int .i64 0, .int .i64 0] 33 (0, 0))) := fun w' h => (h.block _ (Array.getElem?_eq_some_iff.1 hz0).1).trans hz0
  have HO : Hid (Calls Try.prog 41 #[.agg #[.int .i64 t.dev, .int .i64 t.size, .slice a t.list.length c], .int .i64 n] W0 fun e w' => OpenAtR t n W0.heap.size e w' ∧ Below W0.heap.size W0 w') := openAt_any _ t n W0 (HV.out W0 hb0) hr
  have HQ : Hid (∀ p, tokB t = p → ∀ q, inT t.list n = q → lookR t n = if p then match q with | some k => .tuple #[ptrV (t.list.getD k EZ).dev (plc (t.list.getD k EZ) n), .int .i64 0] | none => .tuple #[ptrV 0 0, .int .i64 3] else .tuple #[ptrV 0 0, .int .i64 1]) := fun p h q h2 => by subst h; subst h2; rfl
  generalize lookR t n = res at HQ ⊢
  clear hx hr hn hb0 hz0 HV
  go_enter Try.func16, Try.ntmps16
  go_wp2_with fail
  rw [← hW0]
  clear hW0
  refine HO.out.mono ?_
  rintro e w1 ⟨hor, hb1⟩
  have HB1 : Hid (Below W0.heap.size W0 w1) := hb1
  clear hb1 HO
  rcases hor with ⟨ht, rfl⟩ | ⟨ht, hin, rfl⟩ | ⟨ht, k, g, b, cc, hin, hk, rfl, _, _, ho⟩
  · have HR : Hid (res = .tuple #[ptrV 0 0, .int .i64 1]) := HQ.out false ht _ rfl
    obtain ⟨z0, z1, zf⟩ := two (HZ0.out _ (nwA HB1.out (.cells #[.pointer none] 82)))
    clear HQ ht
    go_wp2_with fail
    refine bodyPost_ret (v := .tuple #[.agg #[.int .i64 0, .int .i64 0], .int .i64 1]) (by simp [results, Try.results16, go_sem, z0, z1]) rfl ⟨by rw [HR.out]; rfl, ?_⟩
    exact ((nwA (nwT HB0.out HB1.out) _).setCell (p := ⟨w.heap.size + 1, 0, none⟩) (Nat.le_succ _) _).setCell (p := ⟨w.heap.size + 1, 1, none⟩) (Nat.le_succ _) _
  · have HR : Hid (res = .tuple #[ptrV 0 0, .int .i64 3]) := by
      show _ = _
      rw [HQ.out true ht none hin]; rfl
    obtain ⟨z0, z1, zf⟩ := two (HZ0.out _ (nwA HB1.out (.cells #[.pointer none] 82)))
    clear HQ ht hin
    go_wp2_with fail
    refine bodyPost_ret (v := .tuple #[.agg #[.int .i64 0, .int .i64 0], .int .i64 3]) (by simp [results, Try.results16, go_sem, z0, z1]) rfl ⟨by rw [HR.out]; rfl, ?_⟩
    exact ((nwA (nwT HB0.out HB1.out) _).setCell (p := ⟨w.heap.size + 1, 0, none⟩) (Nat.le_succ _) _).setCell (p := ⟨w.heap.size + 1, 1, none⟩) (Nat.le_succ _) _
  · have HR : Hid (res = .tuple #[ptrV (t.list.getD k EZ).dev (plc (t.list.getD k EZ) n), .int .i64 0]) := by
      show _ = _
      rw [HQ.out true ht (some k) hin]; rfl
    have hT := tok_iff.1 ht
    have hF := hT.fair hk
    have hhas : hasB (t.list.getD k EZ) n = true := by
      have := List.findIdx?_eq_some_iff_getElem.1 hin
      obtain ⟨h1, h2, _⟩ := this
      simpa [List.getD, h1] using h2
    obtain ⟨_, _, e', hE, _⟩ := ho.at
    injection e' with e' _ e''
    subst e'; subst e''
    have hEk := hE.at hk
    rw [Nat.zero_add] at hEk
    have HP : Hid (∀ w', Below w1.heap.size w1 w' → Calls Try.prog 42 #[.agg #[.pointer (some ⟨b, k * 5, none⟩)], .int .i64 n] w' fun e w'' => e = .returned (.agg #[.int .i64 (t.list.getD k EZ).dev, .int .i64 (plc (t.list.getD k EZ) n)]) ∧ Below w'.heap.size w' w'') := fun w' h => place_any b (k * 5) _ n w' (hEk.below h) (by have := hF.f0; omega) (by have := hF.f1; omega) (by have := hF.t0; omega) (by have := hF.t1; omega) (by have := hasB_iff.1 hhas; have := hF.f0; omega) (by have := hasB_iff.1 hhas; have := hF.f1; have := hF.l1; omega)
    clear HQ ht hin hT hF hhas ho hE hEk hk
    generalize plc (t.list.getD k EZ) n = pl at HR HP
    generalize (t.list.getD k EZ).dev = pd at HR HP
    obtain ⟨W2, hW2⟩ : ∃ W2, W2 = w1.alloc (.cells #[.pointer (some ⟨b, k * 5, none⟩)] 82) := ⟨_, rfl⟩
    have HB2 : Hid (Below w1.heap.size w1 W2) := by rw [hW2]; exact nwA (nwR w1) _
    have HPW := HP.out W2 HB2.out
    go_wp2_with fail
    rw [← hW2]
    clear hW2
    refine HPW.mono ?_
    rintro e w3 ⟨rfl, hb3⟩
    have HB3 : Hid (Below W0.heap.size W0 w3) := nwT HB1.out (nwT HB2.out hb3)
    obtain ⟨z0, z1, zf⟩ := two (HZ0.out _ HB3.out)
    clear HPW hb3 HP
    go_wp2_with fail
    refine bodyPost_ret (v := .tuple #[.agg #[.int .i64 pd, .int .i64 pl], .int .i64 0]) (by simp [results, Try.results16, go_sem, z0, z1]) rfl ⟨by rw [HR.out]; rfl, ?_⟩
    exact ((nwT HB0.out HB3.out).setCell (p := ⟨w.heap.size + 1, 0, none⟩) (Nat.le_succ _) _).setCell (p := ⟨w.heap.size + 1, 1, none⟩) (Nat.le_succ _) _

end Go.Proofs.Ytijldakgfgmbiaa
