/- A file more, by the program. -/
import Derived.Test.YtdpighcaieajjaaGreatPutw
import Derived.Deep.RegionLaw
namespace Go.Proofs.YtdpighcaieajjaaGreat
open Go.RowKit Go.Sort

def CreateIs (d : VolD) (M : Nat × Int) (last : ByteArray) (dir : Bool) (base B : Nat) (e : Ending) (w' : World) : Prop :=
  (M.2 = 0 ∧ e = .returned (.int .i64 0) ∧ OwnPtr w' base B (newV d M.1 last dir)) ∨ (M.2 ≠ 0 ∧ e = .returned (.int .i64 M.2))
theorem createIs_no {d : VolD} {M : Nat × Int} {last : ByteArray} {dir : Bool} {base B q : Nat} {w' : World} {er : Int} (h : M = (q, er)) (he : er ≠ 0) : CreateIs d M last dir base B (.returned (.int .i64 er)) w' := by
  subst h; exact .inr ⟨he, rfl⟩
theorem createIs_yes {d : VolD} {M : Nat × Int} {last : ByteArray} {dir : Bool} {base B q : Nat} {w' : World} (h : M = (q, 0)) (ho : OwnPtr w' base B (newV d q last dir)) : CreateIs d M last dir base B (.returned (.int .i64 0)) w' := by
  subst h; exact .inl ⟨rfl, rfl, ho⟩
theorem OwnPtr.slice {w : World} {base B : Nat} {d : VolD} (h : OwnPtr w base B d) (hp : 0 < d.files.length) : ∃ g cap, w.heap[B]? = some (.cells #[.int .i64 d.id, .int .i64 d.fr, .bool d.snap, .slice (some ⟨g, 0, none⟩) d.files.length cap, .int .i64 d.next] 104 (0, 0)) ∧ OwnFilesX w base (.slice (some ⟨g, 0, none⟩) d.files.length cap) d.files := by
  obtain ⟨_, fv, h1, h2⟩ := h
  have h3 := h2
  obtain ⟨gs, hd, hrow, _, _⟩ := h3
  have hl : gs.length = d.files.length := by rw [← hd, List.length_map]
  obtain ⟨g, cap, e, _, _⟩ := slice_cells hrow (by omega)
  rw [hl] at e
  subst e
  exact ⟨g, cap, h1, h2⟩

structure CrS (P : Nat) (pl : Obj) (B : Nat) (vl : Obj) (w : World) : Prop where
  p : w.heap[P]? = some pl
  b : w.heap[B]? = some vl
theorem CrS.below {P B : Nat} {pl vl : Obj} {w w' : World} (h : CrS P pl B vl w) (hb : Below w.heap.size w w') : CrS P pl B vl w' :=
  ⟨(hb.block _ (Array.getElem?_eq_some_iff.1 h.p).1).trans h.p, (hb.block _ (Array.getElem?_eq_some_iff.1 h.b).1).trans h.b⟩
theorem OwnFV.setT {w : World} {base g o : Nat} {x : FV} {cs : Array Value} {t : Nat} (h : OwnFV w base x) (hg : w.heap[g]? = some (.cells cs t (0, 0))) (h1 : t ≠ 3) (h2 : t ≠ 87) (u : Value) : OwnFV (w.setCell ⟨g, o, none⟩ u) base x := ⟨rowset2 h.1 hg h1 u, rowset2 h.2 hg h2 u⟩
theorem OwnFilesX.setT {w : World} {base g o : Nat} {v : Value} {fs : List FileD} {cs : Array Value} {t : Nat} (h : OwnFilesX w base v fs) (hg : w.heap[g]? = some (.cells cs t (0, 0))) (h1 : t ≠ 3) (h2 : t ≠ 87) (h3 : t ≠ 39) (u : Value) : OwnFilesX (w.setCell ⟨g, o, none⟩ u) base v fs := by
  obtain ⟨gs, e, hr, ho, ha⟩ := h
  exact ⟨gs, e, rowset2 hr hg h3 u, fun y hy => (ho y hy).setT hg h1 h2 u, ha⟩
/-- a file more behind files of one's own -/
theorem OwnFilesX.snoc {w w5 : World} {base : Nat} {v v1 : Value} {gs : List FV} {f : FileD} (hrow : w.ownsRow base 39 5 v gs.length (fflat gs)) (hown : ∀ y ∈ gs, OwnFV w base y) (hap : Apart gs) (hf1 : f.blocks = []) (hf2 : f.list = [])
    (hr5 : w5.ownsRow base 39 5 v1 (gs.length + 1) (fflat gs ++ [.int .i64 f.id, .bool f.dir, .int .i64 f.size, .slice none 0 0, .slice none 0 0])) (hg : w.grownBy w5 v.ownBlock) : OwnFilesX w5 base v1 (gs.map FV.d ++ [f]) := by
  refine ⟨gs ++ [⟨f, .slice none 0 0, .slice none 0 0⟩], by simp, ?_, ?_, ?_⟩
  · rw [fflat_snoc, List.length_append]; exact hr5
  · intro y hy
    rcases List.mem_append.1 hy with hy | hy
    · exact (hown y hy).grown hrow hg
    · simp at hy; subst hy
      refine ⟨?_, ?_⟩
      · unfold OwnInts; simp only; rw [hf1]; exact World.ownsRow_nil _ _ _ _
      · unfold OwnLinks; simp only; rw [hf2]; exact World.ownsRow_nil _ _ _ _
  · intro i j hij a b ha hb
    by_cases hj : j < gs.length
    · rw [List.getElem?_append_left (by omega)] at ha
      rw [List.getElem?_append_left hj] at hb
      exact hap i j hij a b ha hb
    · have hj2 := (List.getElem?_eq_some_iff.1 hb).1
      rw [List.length_append, List.length_singleton] at hj2
      have e : j = gs.length := by omega
      subst e
      rw [List.getElem?_append_right (Nat.le_refl _)] at hb
      simp at hb; subst hb
      cases hz : a.lv.ownBlock with
      | none => exact .inl rfl
      | some k => exact .inr (by simp [Value.ownBlock])

set_option maxRecDepth 100000 in
set_option maxHeartbeats 4000000 in
theorem create_any (base B : Nat) (d : VolD) (p : ByteArray) (L : List ByteArray) (dir : Bool) (w : World) (ho : OwnPtr w base B d) (hok : VolOk d) (hs : SmallV d) (hp : pathN p = some L) :
    Calls Tryz.prog 58 #[.pointer (some ⟨B, 0, none⟩), .string p, .bool dir] w fun e w' => CreateIs d (makF d L) (lastN L) dir base B e w' ∧ KeepU w w' ∧ Below base w w' := by
  have HOK : Hid (VolOk d) := hok
  have HO : Hid (OwnPtr w base B d) := ho
  have hbB : base ≤ B := ho.1
  have HMF : Hid (makF d L = if (vacF d.files L).2 = 0 then (if 16 ≤ d.files.length ∨ 8 ≤ (d.files.getD (vacF d.files L).1 f0).list.length ∨ 1073741824 ≤ d.next then (0, 2) else vacF d.files L) else (0, (vacF d.files L).2)) := rfl
  have HVC := vacant_any B d p L w ho.at hs hok.sound hok.one hp
  have HVA : Hid (Calls Tryz.prog 84 #[.pointer (some ⟨B, 0, none⟩), .string p] w fun e w' => PlaceIs d (vacF d.files L) (lastN L) B e w' ∧ Below w.heap.size w w') := HVC
  have HSV : Hid (SmallV d) := hs
  have hnx : 0 ≤ d.next ∧ d.next ≤ 1073741824 := by have := hok.1.2.2.1; simpa [numB] using this
  have hbw : base ≤ w.heap.size := by obtain ⟨_, fv, h1, _⟩ := ho; have := (Array.getElem?_eq_some_iff.1 h1).1; omega
  have hNR : Hid (∀ q, (vacF d.files L).2 = 0 → q = (vacF d.files L).1 → ∀ y ∈ (d.files.getD q f0).list, y.1 ≠ lastN L) := fun q h0 hq y hy e => by
    have hv : vacF d.files L = if L.length = 0 then (0, 4) else if (parF d.files L).2 = 0 then (if (namedI (d.files.getD (parF d.files L).1 f0).list (lastN L)).isSome then (0, 4) else parF d.files L) else (0, (parF d.files L).2) := rfl
    rw [hv] at h0 hq
    split at h0
    · simp at h0
    · rename_i h1
      rw [if_neg h1] at hq
      split at h0
      · rename_i h2
        rw [if_pos h2] at hq
        split at h0
        · simp at h0
        · rename_i h3
          rw [if_neg h3] at hq
          subst hq
          apply h3
          unfold namedI
          rw [List.findIdx?_isSome]
          exact List.any_eq_true.2 ⟨y, hy, by simpa using e⟩
      · rename_i h2
        simp at h0
        exact absurd h0 h2
  clear HVC hok hs hp ho
  have hpos : 0 < d.files.length := HOK.out.2.1.1.1
  generalize makF d L = M at HMF ⊢
  generalize lastN L = last at HVA hNR ⊢
  generalize vacF d.files L = V at HMF HVA hNR
  obtain ⟨q, er⟩ := V
  simp only at HMF HVA hNR
  go_enter Tryz.func58, Tryz.ntmps58
  go_wp2_with fail
  refine HVA.out.mono ?_
  rintro e w1 ⟨⟨u, rfl, hyes, hnone⟩, hb1⟩
  have HB1 : Hid (Below w.heap.size w w1) := hb1
  have HO1 : Hid (OwnPtr w1 base B d) := HO.out.below hb1
  have hw1 : w.heap.size ≤ w1.heap.size := hb1.size
  clear hb1
  simp only at hyes hnone ⊢
  by_cases her : er = 0
  case neg =>
    have HR : Hid (M = (0, er)) := by show _ = _; rw [HMF.out, if_neg her]
    have hu := hnone her
    subst hu
    clear hyes hnone
    go_wp2_with fail
    go_ret
    exact ⟨createIs_no HR.out her, (KeepT.of_below (nwA HB1.out _)).u, (nwA HB1.out _).mono hbw⟩
  case pos =>
  subst her
  have HMF2 : Hid (M = if 16 ≤ d.files.length ∨ 8 ≤ (d.files.getD q f0).list.length ∨ 1073741824 ≤ d.next then (0, 2) else (q, 0)) := by show _ = _; rw [HMF.out, if_pos rfl]
  clear HMF
  obtain ⟨pv, hno, rfl⟩ := hyes rfl
  have hql : q < d.files.length := by obtain ⟨_, _, _, _, h, _⟩ := hno; exact h
  obtain ⟨g, cap, hB1, hX1⟩ := HO1.out.slice hpos
  have hpe := hno.eq hB1
  simp only [Value.agg.injEq, Array.mk.injEq, List.cons.injEq, and_true, Nat.zero_add] at hpe
  subst hpe
  have HNN : Hid (∀ y ∈ (d.files.getD q f0).list, y.1 ≠ last) := hNR.out q rfl rfl
  have hnodes := (HOK.out.2.1.2 q hql).2
  have hqd : (d.files.getD q f0).list.length ≤ 8 ∧ StrictL (d.files.getD q f0).list := by
    unfold NodeOk at hnodes
    split at hnodes
    · exact ⟨hnodes.2.2.1, hnodes.2.2.strict⟩
    · have e0 := List.length_eq_zero_iff.1 hnodes.1
      rw [e0]; exact ⟨by simp, fun i j _ h => by simp at h⟩
  have HQD : Hid ((d.files.getD q f0).list.length ≤ 8 ∧ StrictL (d.files.getD q f0).list) := hqd
  have HNV : Hid (NodeVal w1 (.agg #[.pointer (some ⟨g, q * 5, none⟩)]) (d.files.getD q f0)) := by
    have := hno.val HO1.out.at
    exact this
  have HB2 : Hid (Below w.heap.size w (w1.alloc (.cells #[.pointer (some ⟨g, q * 5, none⟩), .string last] 112))) := nwA HB1.out _
  have HPL : Hid ((w1.alloc (.cells #[.pointer (some ⟨g, q * 5, none⟩), .string last] 112)).heap[w1.heap.size]? = some (.cells #[.pointer (some ⟨g, q * 5, none⟩), .string last] 112 (0, 0))) := heap_alloc_new w1 _
  have HX2 : Hid (OwnFilesX (w1.alloc (.cells #[.pointer (some ⟨g, q * 5, none⟩), .string last] 112)) base (.slice (some ⟨g, 0, none⟩) d.files.length cap) d.files) := hX1.below (nwA (nwR w1) _)
  have HBV : Hid ((w1.alloc (.cells #[.pointer (some ⟨g, q * 5, none⟩), .string last] 112)).heap[B]? = some (.cells #[.int .i64 d.id, .int .i64 d.fr, .bool d.snap, .slice (some ⟨g, 0, none⟩) d.files.length cap, .int .i64 d.next] 104 (0, 0))) := (Lib.alloc_old _ _ _ (Array.getElem?_eq_some_iff.1 hB1).1).trans hB1
  have HNV2 : Hid (NodeVal (w1.alloc (.cells #[.pointer (some ⟨g, q * 5, none⟩), .string last] 112)) (.agg #[.pointer (some ⟨g, q * 5, none⟩)]) (d.files.getD q f0)) := HNV.out.below (nwA (nwR w1) _)
  obtain ⟨v0, v1, v2, v3, v4, vf⟩ := five HBV.out
  obtain ⟨p0, p1, pf⟩ := two_cells HPL.out
  clear hyes hnone hno hnodes hqd hX1 hB1 HNV
  by_cases h16 : 16 ≤ d.files.length
  case pos =>
    have HR : Hid (M = (0, 2)) := by show _ = _; rw [HMF2.out, if_pos (.inl h16)]
    have h16i : (16 : Int) ≤ (d.files.length : Int) := by omega
    go_wp2_with fail
    go_ret
    exact ⟨createIs_no HR.out (by decide), (KeepT.of_below HB2.out).u, HB2.out.mono hbw⟩
  case neg =>
  have h16i : ¬ (16 : Int) ≤ (d.files.length : Int) := by omega
  go_wp2_with fail
  generalize hW2 : w1.alloc (.cells #[.pointer (some ⟨g, q * 5, none⟩), .string last] 112) = W2 at HB2 HPL HX2 HBV HNV2 v0 v1 v2 v3 v4 vf p0 p1 pf ⊢
  clear hW2
  generalize w1.heap.size = P at HPL p0 p1 pf ⊢
  have hCS : Hid (CrS P (.cells #[.pointer (some ⟨g, q * 5, none⟩), .string last] 112 (0, 0)) B (.cells #[.int .i64 d.id, .int .i64 d.fr, .bool d.snap, .slice (some ⟨g, 0, none⟩) d.files.length cap, .int .i64 d.next] 104 (0, 0)) W2) := ⟨HPL.out, HBV.out⟩
  refine (isFull_any _ (d.files.getD q f0) _ HNV2.out).mono ?_
  rintro e w3 ⟨rfl, hb3⟩
  have HB3 : Hid (Below w.heap.size w w3) := nwT HB2.out hb3
  have HCS3 : Hid (CrS P (.cells #[.pointer (some ⟨g, q * 5, none⟩), .string last] 112 (0, 0)) B (.cells #[.int .i64 d.id, .int .i64 d.fr, .bool d.snap, .slice (some ⟨g, 0, none⟩) d.files.length cap, .int .i64 d.next] 104 (0, 0)) w3) := hCS.out.below hb3
  have HX3 : Hid (OwnFilesX w3 base (.slice (some ⟨g, 0, none⟩) d.files.length cap) d.files) := HX2.out.below hb3
  obtain ⟨y0, y1, y2, y3, y4, yf⟩ := five HCS3.out.b
  clear hb3 v0 v1 v2 v3 v4 vf p0 p1 pf
  cases h8 : decide (8 ≤ (d.files.getD q f0).list.length)
  case true =>
    have HR : Hid (M = (0, 2)) := by show _ = _; rw [HMF2.out, if_pos (.inr (.inl (of_decide_eq_true h8)))]
    go_wp2_with fail
    go_ret
    exact ⟨createIs_no HR.out (by decide), (KeepT.of_below HB3.out).u, HB3.out.mono hbw⟩
  case false =>
  have h8n := of_decide_eq_false h8
  by_cases hnm : 1073741824 ≤ d.next
  case pos =>
    have HR : Hid (M = (0, 2)) := by show _ = _; rw [HMF2.out, if_pos (.inr (.inr hnm))]
    go_wp2_with fail
    go_ret
    exact ⟨createIs_no HR.out (by decide), (KeepT.of_below HB3.out).u, HB3.out.mono hbw⟩
  case neg =>
  have HR : Hid (M = (q, 0)) := by show _ = _; rw [HMF2.out, if_neg]; rintro (h | h | h) <;> omega
  go_wp2_with fail
  have hS := HCS3.out
  have z0 : ∀ w', CrS P (.cells #[.pointer (some ⟨g, q * 5, none⟩), .string last] 112 (0, 0)) B (.cells #[.int .i64 d.id, .int .i64 d.fr, .bool d.snap, .slice (some ⟨g, 0, none⟩) d.files.length cap, .int .i64 d.next] 104 (0, 0)) w' → w'.cell? ⟨P, 0, none⟩ = some (.pointer (some ⟨g, q * 5, none⟩)) := fun w' h => (two_cells h.p).1
  have z1 : ∀ w', CrS P (.cells #[.pointer (some ⟨g, q * 5, none⟩), .string last] 112 (0, 0)) B (.cells #[.int .i64 d.id, .int .i64 d.fr, .bool d.snap, .slice (some ⟨g, 0, none⟩) d.files.length cap, .int .i64 d.next] 104 (0, 0)) w' → w'.cell? ⟨P, 1, none⟩ = some (.string last) := fun w' h => (two_cells h.p).2.1
  have z4 : ∀ w', CrS P (.cells #[.pointer (some ⟨g, q * 5, none⟩), .string last] 112 (0, 0)) B (.cells #[.int .i64 d.id, .int .i64 d.fr, .bool d.snap, .slice (some ⟨g, 0, none⟩) d.files.length cap, .int .i64 d.next] 104 (0, 0)) w' → w'.cell? ⟨B, 4, none⟩ = some (.int .i64 d.next) := fun w' h => (five h.b).2.2.2.2.1
  clear y0 y1 y2 y3 y4 yf
  go_region_held3 (fun w' => CrS P (.cells #[.pointer (some ⟨g, q * 5, none⟩), .string last] 112 (0, 0)) B (.cells #[.int .i64 d.id, .int .i64 d.fr, .bool d.snap, .slice (some ⟨g, 0, none⟩) d.files.length cap, .int .i64 d.next] 104 (0, 0)) w') (first | assumption | exact CrS.below (by assumption) (Below.drew (nwR _)) | exact hS4) (first
    | (go_at_call 86; refine (pput_any base g cap q d.files last d.next _ (HX3.out.below (Below.drew (nwR _))) hql (by have := HQD.out.1; omega) HQD.out.2 HNN.out).mono ?_; rintro e w4 ⟨rfl, hx4, hk4, hb4⟩; have hS4 : CrS P (.cells #[.pointer (some ⟨g, q * 5, none⟩), .string last] 112 (0, 0)) B (.cells #[.int .i64 d.id, .int .i64 d.fr, .bool d.snap, .slice (some ⟨g, 0, none⟩) d.files.length cap, .int .i64 d.next] 104 (0, 0)) w4 := ⟨hk4.2 _ _ _ _ hS.p (by decide) (by decide), hk4.2 _ _ _ _ hS.b (by decide) (by decide)⟩))
  have HX4 : Hid (OwnFilesX w4 base (.slice (some ⟨g, 0, none⟩) d.files.length cap) (d.files.set q (withList (d.files.getD q f0) (putL (d.files.getD q f0).list (last, d.next))))) := hx4
  have HK4 : Hid (KeepU w w4) := ((KeepT.of_below HB3.out).trans ((KeepT.of_below (Below.drew (nwR w3))).trans hk4)).u
  have HB4 : Hid (Below base w w4) := (HB3.out.mono hbw).trans ((Below.drew (Below.refl base w3)).trans hb4)
  have HS4 : Hid (CrS P (.cells #[.pointer (some ⟨g, q * 5, none⟩), .string last] 112 (0, 0)) B (.cells #[.int .i64 d.id, .int .i64 d.fr, .bool d.snap, .slice (some ⟨g, 0, none⟩) d.files.length cap, .int .i64 d.next] 104 (0, 0)) w4) := hS4
  clear z0 z1 z4 hS hx4 hk4 hb4 hS4 HX3 HCS3 HX2 HB2 hCS HPL HBV HNV2
  generalize hfs2 : d.files.set q (withList (d.files.getD q f0) (putL (d.files.getD q f0).list (last, d.next))) = fs2 at HX4
  have HF2 : Hid (d.files.set q (withList (d.files.getD q f0) (putL (d.files.getD q f0).list (last, d.next))) = fs2) := hfs2
  have hl2 : fs2.length = d.files.length := by rw [← hfs2, List.length_set]
  clear hfs2
  obtain ⟨gs, hgd, hrow, hgown, hgap⟩ := HX4.out
  have hgl : gs.length = d.files.length := by rw [← hl2, ← hgd, List.length_map]
  obtain ⟨i0, hi, hz0, hz1, hz2⟩ := info_parts Tryz.info39
  have HGD : Hid (gs.map FV.d = fs2) := hgd
  have HGO : Hid (∀ y ∈ gs, OwnFV w4 base y) := hgown
  have HGA : Hid (Apart gs) := hgap
  have HROW : Hid (w4.ownsRow base 39 5 (.slice (some ⟨g, 0, none⟩) d.files.length cap) d.files.length (fflat gs)) := by have h := hrow; rw [hgl] at h; exact h
  have hgw := World.ownsRow.lt hrow g rfl
  have HGL : Hid (gs.length = d.files.length) := hgl
  clear hgd hrow hgown hgap hgl hl2
  have hn16 : d.files.length ≤ 15 := by omega
  have hB1 : d.files.length + 1 ≤ maxLen := by unfold maxLen; omega
  have hB2 : (d.files.length + 1) * 72 ≤ 140737488355328 := by omega
  obtain ⟨y0, y1, y2, y3, y4, yf⟩ := five HS4.out.b
  have hBl := block_lt_of_cell y0
  go_wp2_with fail
  go_region_law (first
    | (refine step_append_at (by rfl) (.tmp 50) (.tmp 58) 22 (by rfl) base 39 i0 (.agg #[.int .i64 0, .bool false, .int .i64 0, .slice none 0 0, .slice none 0 0]) 5 72 Tryz.underlying22 hi hz0 hz1 hz2 rfl (by decide) (.slice (some ⟨g, 0, none⟩) d.files.length cap) d.files.length (fflat gs) (by simp [Act.eval]) (by exact World.ownsRow.alloc HROW.out _) ⟨w4.heap.size, 0, none⟩ 1 1 [.int .i64 d.next, .bool dir, .int .i64 0, .slice none 0 0, .slice none 0 0] (by simp [Act.eval]) rfl (by exact cells5 w4 _ _ _ _ _ _) (by simp [Value.oneCell']) hB1 hB2 (by simp; omega) ?_; intro fv w5 hown1 hgrow1 hat1; have hGR : w4.grownBy w5 (some g) := (gbOf (nwA (nwR w4) (.cells #[.int .i64 d.next, .bool dir, .int .i64 0, .slice none 0 0, .slice none 0 0] 39)) (some g)).trans ((gbOf (Below.drew (nwR _)) (some g)).trans hgrow1); have hB5 : w5.heap[B]? = some (.cells #[.int .i64 d.id, .int .i64 d.fr, .bool d.snap, .slice (some ⟨g, 0, none⟩) d.files.length cap, .int .i64 d.next] 104 (0, 0)) := (KeepT.of_gb (v := .slice (some ⟨g, 0, none⟩) d.files.length cap) hGR HROW.out (.inl rfl)).2 _ _ _ _ HS4.out.b (by decide) (by decide); obtain ⟨x0, x1, x2, x3, x4, xf⟩ := five hB5; obtain ⟨g1, cap1, rfl, hg1, _⟩ := slice_cells hown1 (Nat.succ_pos _))
    | fail)
  all_goals
    have HX5 : Hid (OwnFilesX w5 base (.slice (some ⟨g1, 0, none⟩) (d.files.length + 1) cap1) (fs2 ++ [⟨d.next, dir, 0, [], []⟩])) := by
      have h := OwnFilesX.snoc (f := ⟨d.next, dir, 0, [], []⟩) (w := w4) (v := .slice (some ⟨g, 0, none⟩) d.files.length cap) (by rw [HGL.out]; exact HROW.out) HGO.out HGA.out rfl rfl (by rw [HGL.out]; exact hown1) hGR
      rw [HGD.out] at h; exact h
    have hB6 : (w5.setCell ⟨B, 3, none⟩ (.slice (some ⟨g1, 0, none⟩) (d.files.length + 1) cap1)).heap[B]? = some (.cells #[.int .i64 d.id, .int .i64 d.fr, .bool d.snap, .slice (some ⟨g1, 0, none⟩) (d.files.length + 1) cap1, .int .i64 d.next] 104 (0, 0)) := by
      rw [heap_setCell_same w5 B 3 _ 104 _ hB5]; simp
    have HB7 : Hid (((w5.setCell ⟨B, 3, none⟩ (.slice (some ⟨g1, 0, none⟩) (d.files.length + 1) cap1)).setCell ⟨B, 4, none⟩ (.int .i64 (d.next + 1))).heap[B]? = some (.cells #[.int .i64 d.id, .int .i64 d.fr, .bool d.snap, .slice (some ⟨g1, 0, none⟩) (d.files.length + 1) cap1, .int .i64 (d.next + 1)] 104 (0, 0))) := by
      show _ = _
      rw [heap_setCell_same _ B 4 _ 104 _ hB6]; simp
    have HX7 : Hid (OwnFilesX ((w5.setCell ⟨B, 3, none⟩ (.slice (some ⟨g1, 0, none⟩) (d.files.length + 1) cap1)).setCell ⟨B, 4, none⟩ (.int .i64 (d.next + 1))) base (.slice (some ⟨g1, 0, none⟩) (d.files.length + 1) cap1) (fs2 ++ [⟨d.next, dir, 0, [], []⟩])) := (HX5.out.setT hB5 (by decide) (by decide) (by decide) _).setT hB6 (by decide) (by decide) (by decide) _
    have HK7 : Hid (KeepU w ((w5.setCell ⟨B, 3, none⟩ (.slice (some ⟨g1, 0, none⟩) (d.files.length + 1) cap1)).setCell ⟨B, 4, none⟩ (.int .i64 (d.next + 1)))) := HK4.out.trans (((KeepT.of_gb (v := .slice (some ⟨g, 0, none⟩) d.files.length cap) hGR HROW.out (.inl rfl)).u.trans (KeepU.of_set _ hB5)).trans (KeepU.of_set _ hB6))
    have HBL7 : Hid (Below base w ((w5.setCell ⟨B, 3, none⟩ (.slice (some ⟨g1, 0, none⟩) (d.files.length + 1) cap1)).setCell ⟨B, 4, none⟩ (.int .i64 (d.next + 1)))) := ((HB4.out.grown hGR (by omega) (fun k hk => by injection hk with hk; omega)).setCell (p := ⟨B, 3, none⟩) hbB _).setCell (p := ⟨B, 4, none⟩) hbB _
    obtain ⟨t0, t1, t2, t3, t4, tf⟩ := five hB6
    clear hown1 hgrow1 hat1 x0 x1 x2 x3 x4 xf y0 y1 y2 y3 y4 yf hGR hB5
    go_wp2_with fail
    go_ret
    exact ⟨createIs_yes HR.out ⟨hbB, _, HB7.out, by unfold newV; simp only; rw [HF2.out]; exact HX7.out⟩, HK7.out, HBL7.out⟩

end Go.Proofs.YtdpighcaieajjaaGreat
