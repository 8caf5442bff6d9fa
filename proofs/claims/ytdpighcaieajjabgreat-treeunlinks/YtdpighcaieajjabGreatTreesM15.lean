/- Laid together: Create, Cut, Less, Shift, Dell. -/
import Derived.Test.YtdpighcaieajjabGreatTreesM14
import Derived.Deep.RegionLaw
import Derived.Lib.SliceRun
/- A file more, by the program. -/
namespace Go.Proofs.YtdpighcaieajjabGreat
open Go.RowKit Go.Sort

def CreateIs (d : VolD) (M : Nat × Int) (last : ByteArray) (dir : Bool) (base B : Nat) (e : Ending) (w' : World) : Prop :=
  (M.2 = 0 ∧ e = .returned (.int .i64 0) ∧ OwnPtr w' base B (newV d M.1 last dir)) ∨ (M.2 ≠ 0 ∧ e = .returned (.int .i64 M.2))
theorem createIs_no {d : VolD} {M : Nat × Int} {last : ByteArray} {dir : Bool} {base B q : Nat} {w' : World} {er : Int} (h : M = (q, er)) (he : er ≠ 0) : CreateIs d M last dir base B (.returned (.int .i64 er)) w' := by
  subst h; exact .inr ⟨he, rfl⟩
theorem createIs_yes {d : VolD} {M : Nat × Int} {last : ByteArray} {dir : Bool} {base B q : Nat} {w' : World} (h : M = (q, 0)) (ho : OwnPtr w' base B (newV d q last dir)) : CreateIs d M last dir base B (.returned (.int .i64 0)) w' := by
  subst h; exact .inl ⟨rfl, rfl, ho⟩
theorem OwnPtr.slice {w : World} {base B : Nat} {d : VolD} (h : OwnPtr w base B d) (hp : 0 < d.files.length) : ∃ g cap, w.heap[B]? = some (.cells #[.int .i64 d.id, .int .i64 d.fr, .bool d.snap, .slice (some ⟨g, 0, none⟩) d.files.length cap, .int .i64 d.next] 89 (0, 0)) ∧ OwnFilesX w base (.slice (some ⟨g, 0, none⟩) d.files.length cap) d.files := by
  obtain ⟨_, fv, h1, h2⟩ := h
  have h3 := h2
  obtain ⟨gs, hd, hrow, _, _⟩ := h3
  have hl : gs.length = d.files.length := by rw [← hd, List.length_map]
  obtain ⟨g, cap, e, _, _⟩ := slice_cells hrow (by omega)
  rw [hl] at e
  subst e
  exact ⟨g, cap, h1, h2⟩

structure CrS (P : Nat) (pl : Obj) (B : Nat) (vl : Obj) (w : World) : Prop where
  p : w.heap[P]? = some pl
  b : w.heap[B]? = some vl
theorem CrS.below {P B : Nat} {pl vl : Obj} {w w' : World} (h : CrS P pl B vl w) (hb : Below w.heap.size w w') : CrS P pl B vl w' :=
  ⟨(hb.block _ (Array.getElem?_eq_some_iff.1 h.p).1).trans h.p, (hb.block _ (Array.getElem?_eq_some_iff.1 h.b).1).trans h.b⟩
theorem OwnFV.setT {w : World} {base g o : Nat} {x : FV} {cs : Array Value} {t : Nat} (h : OwnFV w base x) (hg : w.heap[g]? = some (.cells cs t (0, 0))) (h1 : t ≠ 3) (h2 : t ≠ 63) (u : Value) : OwnFV (w.setCell ⟨g, o, none⟩ u) base x := ⟨rowset2 h.1 hg h1 u, rowset2 h.2 hg h2 u⟩
theorem OwnFilesX.setT {w : World} {base g o : Nat} {v : Value} {fs : List FileD} {cs : Array Value} {t : Nat} (h : OwnFilesX w base v fs) (hg : w.heap[g]? = some (.cells cs t (0, 0))) (h1 : t ≠ 3) (h2 : t ≠ 63) (h3 : t ≠ 59) (u : Value) : OwnFilesX (w.setCell ⟨g, o, none⟩ u) base v fs := by
  obtain ⟨gs, e, hr, ho, ha⟩ := h
  exact ⟨gs, e, rowset2 hr hg h3 u, fun y hy => (ho y hy).setT hg h1 h2 u, ha⟩
/-- a file more behind files of one's own -/
theorem OwnFilesX.snoc {w w5 : World} {base : Nat} {v v1 : Value} {gs : List FV} {f : FileD} (hrow : w.ownsRow base 59 5 v gs.length (fflat gs)) (hown : ∀ y ∈ gs, OwnFV w base y) (hap : Apart gs) (hf1 : f.blocks = []) (hf2 : f.list = [])
    (hr5 : w5.ownsRow base 59 5 v1 (gs.length + 1) (fflat gs ++ [.int .i64 f.id, .bool f.dir, .int .i64 f.size, .slice none 0 0, .slice none 0 0])) (hg : w.grownBy w5 v.ownBlock) : OwnFilesX w5 base v1 (gs.map FV.d ++ [f]) := by
  refine ⟨gs ++ [⟨f, .slice none 0 0, .slice none 0 0⟩], by simp, ?_, ?_, ?_⟩
  · rw [fflat_snoc, List.length_append]; exact hr5
  · intro y hy
    rcases List.mem_append.1 hy with hy | hy
    · exact (hown y hy).grown hrow hg
    · simp at hy; subst hy
      refine ⟨?_, ?_⟩
      · unfold OwnInts; simp only; rw [hf1]; exact World.ownsRow_nil _ _ _ _
      · unfold OwnLinks; simp only; rw [hf2]; exact World.ownsRow_nil _ _ _ _
  · intro i j hij a b ha hb
    by_cases hj : j < gs.length
    · rw [List.getElem?_append_left (by omega)] at ha
      rw [List.getElem?_append_left hj] at hb
      exact hap i j hij a b ha hb
    · have hj2 := (List.getElem?_eq_some_iff.1 hb).1
      rw [List.length_append, List.length_singleton] at hj2
      have e : j = gs.length := by omega
      subst e
      rw [List.getElem?_append_right (Nat.le_refl _)] at hb
      simp at hb; subst hb
      cases hz : a.lv.ownBlock with
      | none => exact .inl rfl
      | some k => exact .inr (by simp [Value.ownBlock])

set_option maxRecDepth 100000 in
set_option maxHeartbeats 4000000 in
theorem create_any (base B : Nat) (d : VolD) (p : ByteArray) (L : List ByteArray) (dir : Bool) (w : World) (ho : OwnPtr w base B d) (hok : VolOk d) (hs : SmallV d) (hp : pathN p = some L) :
    Calls Tryz.prog 44 #[.pointer (some ⟨B, 0, none⟩), .string p, .bool dir] w fun e w' => CreateIs d (makF d L) (lastN L) dir base B e w' ∧ KeepU w w' ∧ Below base w w' := by
  have HOK : Hid (VolOk d) := hok
  have HO : Hid (OwnPtr w base B d) := ho
  have hbB : base ≤ B := ho.1
  have HMF : Hid (makF d L = if (vacF d.files L).2 = 0 then (if 16 ≤ d.files.length ∨ 8 ≤ (d.files.getD (vacF d.files L).1 f0).list.length ∨ 1073741824 ≤ d.next then (0, 2) else vacF d.files L) else (0, (vacF d.files L).2)) := rfl
  have HVC := vacant_any B d p L w ho.at hs hok.sound hok.one hp
  have HVA : Hid (Calls Tryz.prog 72 #[.pointer (some ⟨B, 0, none⟩), .string p] w fun e w' => PlaceIs d (vacF d.files L) (lastN L) B e w' ∧ Below w.heap.size w w') := HVC
  have HSV : Hid (SmallV d) := hs
  have hnx : 0 ≤ d.next ∧ d.next ≤ 1073741824 := by have := hok.1.2.2.1; simpa [numB] using this
  have hbw : base ≤ w.heap.size := by obtain ⟨_, fv, h1, _⟩ := ho; have := (Array.getElem?_eq_some_iff.1 h1).1; omega
  have hNR : Hid (∀ q, (vacF d.files L).2 = 0 → q = (vacF d.files L).1 → ∀ y ∈ (d.files.getD q f0).list, y.1 ≠ lastN L) := fun q h0 hq y hy e => by
    have hv : vacF d.files L = if L.length = 0 then (0, 4) else if (parF d.files L).2 = 0 then (if (namedI (d.files.getD (parF d.files L).1 f0).list (lastN L)).isSome then (0, 4) else parF d.files L) else (0, (parF d.files L).2) := rfl
    rw [hv] at h0 hq
    split at h0
    · simp at h0
    · rename_i h1
      rw [if_neg h1] at hq
      split at h0
      · rename_i h2
        rw [if_pos h2] at hq
        split at h0
        · simp at h0
        · rename_i h3
          rw [if_neg h3] at hq
          subst hq
          apply h3
          unfold namedI
          rw [List.findIdx?_isSome]
          exact List.any_eq_true.2 ⟨y, hy, by simpa using e⟩
      · rename_i h2
        simp at h0
        exact absurd h0 h2
  clear HVC hok hs hp ho
  have hpos : 0 < d.files.length := HOK.out.2.1.1.1
  generalize makF d L = M at HMF ⊢
  generalize lastN L = last at HVA hNR ⊢
  generalize vacF d.files L = V at HMF HVA hNR
  obtain ⟨q, er⟩ := V
  simp only at HMF HVA hNR
  go_enter Tryz.func44, Tryz.ntmps44
  go_wp2_with fail
  refine HVA.out.mono ?_
  rintro e w1 ⟨⟨u, rfl, hyes, hnone⟩, hb1⟩
  have HB1 : Hid (Below w.heap.size w w1) := hb1
  have HO1 : Hid (OwnPtr w1 base B d) := HO.out.below hb1
  have hw1 : w.heap.size ≤ w1.heap.size := hb1.size
  clear hb1
  simp only at hyes hnone ⊢
  by_cases her : er = 0
  case neg =>
    have HR : Hid (M = (0, er)) := by show _ = _; rw [HMF.out, if_neg her]
    have hu := hnone her
    subst hu
    clear hyes hnone
    go_wp2_with fail
    go_ret
    exact ⟨createIs_no HR.out her, (KeepT.of_below (nwA HB1.out _)).u, (nwA HB1.out _).mono hbw⟩
  case pos =>
  subst her
  have HMF2 : Hid (M = if 16 ≤ d.files.length ∨ 8 ≤ (d.files.getD q f0).list.length ∨ 1073741824 ≤ d.next then (0, 2) else (q, 0)) := by show _ = _; rw [HMF.out, if_pos rfl]
  clear HMF
  obtain ⟨pv, hno, rfl⟩ := hyes rfl
  have hql : q < d.files.length := by obtain ⟨_, _, _, _, h, _⟩ := hno; exact h
  obtain ⟨g, cap, hB1, hX1⟩ := HO1.out.slice hpos
  have hpe := hno.eq hB1
  simp only [Value.agg.injEq, Array.mk.injEq, List.cons.injEq, and_true, Nat.zero_add] at hpe
  subst hpe
  have HNN : Hid (∀ y ∈ (d.files.getD q f0).list, y.1 ≠ last) := hNR.out q rfl rfl
  have hnodes := (HOK.out.2.1.2 q hql).2
  have hqd : (d.files.getD q f0).list.length ≤ 8 ∧ StrictL (d.files.getD q f0).list := by
    unfold NodeOk at hnodes
    split at hnodes
    · exact ⟨hnodes.2.2.1, hnodes.2.2.strict⟩
    · have e0 := List.length_eq_zero_iff.1 hnodes.1
      rw [e0]; exact ⟨by simp, fun i j _ h => by simp at h⟩
  have HQD : Hid ((d.files.getD q f0).list.length ≤ 8 ∧ StrictL (d.files.getD q f0).list) := hqd
  have HNV : Hid (NodeVal w1 (.agg #[.pointer (some ⟨g, q * 5, none⟩)]) (d.files.getD q f0)) := by
    have := hno.val HO1.out.at
    exact this
  have HB2 : Hid (Below w.heap.size w (w1.alloc (.cells #[.pointer (some ⟨g, q * 5, none⟩), .string last] 103))) := nwA HB1.out _
  have HPL : Hid ((w1.alloc (.cells #[.pointer (some ⟨g, q * 5, none⟩), .string last] 103)).heap[w1.heap.size]? = some (.cells #[.pointer (some ⟨g, q * 5, none⟩), .string last] 103 (0, 0))) := heap_alloc_new w1 _
  have HX2 : Hid (OwnFilesX (w1.alloc (.cells #[.pointer (some ⟨g, q * 5, none⟩), .string last] 103)) base (.slice (some ⟨g, 0, none⟩) d.files.length cap) d.files) := hX1.below (nwA (nwR w1) _)
  have HBV : Hid ((w1.alloc (.cells #[.pointer (some ⟨g, q * 5, none⟩), .string last] 103)).heap[B]? = some (.cells #[.int .i64 d.id, .int .i64 d.fr, .bool d.snap, .slice (some ⟨g, 0, none⟩) d.files.length cap, .int .i64 d.next] 89 (0, 0))) := (Lib.alloc_old _ _ _ (Array.getElem?_eq_some_iff.1 hB1).1).trans hB1
  have HNV2 : Hid (NodeVal (w1.alloc (.cells #[.pointer (some ⟨g, q * 5, none⟩), .string last] 103)) (.agg #[.pointer (some ⟨g, q * 5, none⟩)]) (d.files.getD q f0)) := HNV.out.below (nwA (nwR w1) _)
  obtain ⟨v0, v1, v2, v3, v4, vf⟩ := five HBV.out
  obtain ⟨p0, p1, pf⟩ := two_cells HPL.out
  clear hyes hnone hno hnodes hqd hX1 hB1 HNV
  by_cases h16 : 16 ≤ d.files.length
  case pos =>
    have HR : Hid (M = (0, 2)) := by show _ = _; rw [HMF2.out, if_pos (.inl h16)]
    have h16i : (16 : Int) ≤ (d.files.length : Int) := by omega
    go_wp2_with fail
    go_ret
    exact ⟨createIs_no HR.out (by decide), (KeepT.of_below HB2.out).u, HB2.out.mono hbw⟩
  case neg =>
  have h16i : ¬ (16 : Int) ≤ (d.files.length : Int) := by omega
  go_wp2_with fail
  generalize hW2 : w1.alloc (.cells #[.pointer (some ⟨g, q * 5, none⟩), .string last] 103) = W2 at HB2 HPL HX2 HBV HNV2 v0 v1 v2 v3 v4 vf p0 p1 pf ⊢
  clear hW2
  generalize w1.heap.size = P at HPL p0 p1 pf ⊢
  have hCS : Hid (CrS P (.cells #[.pointer (some ⟨g, q * 5, none⟩), .string last] 103 (0, 0)) B (.cells #[.int .i64 d.id, .int .i64 d.fr, .bool d.snap, .slice (some ⟨g, 0, none⟩) d.files.length cap, .int .i64 d.next] 89 (0, 0)) W2) := ⟨HPL.out, HBV.out⟩
  refine (isFull_any _ (d.files.getD q f0) _ HNV2.out).mono ?_
  rintro e w3 ⟨rfl, hb3⟩
  have HB3 : Hid (Below w.heap.size w w3) := nwT HB2.out hb3
  have HCS3 : Hid (CrS P (.cells #[.pointer (some ⟨g, q * 5, none⟩), .string last] 103 (0, 0)) B (.cells #[.int .i64 d.id, .int .i64 d.fr, .bool d.snap, .slice (some ⟨g, 0, none⟩) d.files.length cap, .int .i64 d.next] 89 (0, 0)) w3) := hCS.out.below hb3
  have HX3 : Hid (OwnFilesX w3 base (.slice (some ⟨g, 0, none⟩) d.files.length cap) d.files) := HX2.out.below hb3
  obtain ⟨y0, y1, y2, y3, y4, yf⟩ := five HCS3.out.b
  clear hb3 v0 v1 v2 v3 v4 vf p0 p1 pf
  cases h8 : decide (8 ≤ (d.files.getD q f0).list.length)
  case true =>
    have HR : Hid (M = (0, 2)) := by show _ = _; rw [HMF2.out, if_pos (.inr (.inl (of_decide_eq_true h8)))]
    go_wp2_with fail
    go_ret
    exact ⟨createIs_no HR.out (by decide), (KeepT.of_below HB3.out).u, HB3.out.mono hbw⟩
  case false =>
  have h8n := of_decide_eq_false h8
  by_cases hnm : 1073741824 ≤ d.next
  case pos =>
    have HR : Hid (M = (0, 2)) := by show _ = _; rw [HMF2.out, if_pos (.inr (.inr hnm))]
    go_wp2_with fail
    go_ret
    exact ⟨createIs_no HR.out (by decide), (KeepT.of_below HB3.out).u, HB3.out.mono hbw⟩
  case neg =>
  have HR : Hid (M = (q, 0)) := by show _ = _; rw [HMF2.out, if_neg]; rintro (h | h | h) <;> omega
  go_wp2_with fail
  have hS := HCS3.out
  have z0 : ∀ w', CrS P (.cells #[.pointer (some ⟨g, q * 5, none⟩), .string last] 103 (0, 0)) B (.cells #[.int .i64 d.id, .int .i64 d.fr, .bool d.snap, .slice (some ⟨g, 0, none⟩) d.files.length cap, .int .i64 d.next] 89 (0, 0)) w' → w'.cell? ⟨P, 0, none⟩ = some (.pointer (some ⟨g, q * 5, none⟩)) := fun w' h => (two_cells h.p).1
  have z1 : ∀ w', CrS P (.cells #[.pointer (some ⟨g, q * 5, none⟩), .string last] 103 (0, 0)) B (.cells #[.int .i64 d.id, .int .i64 d.fr, .bool d.snap, .slice (some ⟨g, 0, none⟩) d.files.length cap, .int .i64 d.next] 89 (0, 0)) w' → w'.cell? ⟨P, 1, none⟩ = some (.string last) := fun w' h => (two_cells h.p).2.1
  have z4 : ∀ w', CrS P (.cells #[.pointer (some ⟨g, q * 5, none⟩), .string last] 103 (0, 0)) B (.cells #[.int .i64 d.id, .int .i64 d.fr, .bool d.snap, .slice (some ⟨g, 0, none⟩) d.files.length cap, .int .i64 d.next] 89 (0, 0)) w' → w'.cell? ⟨B, 4, none⟩ = some (.int .i64 d.next) := fun w' h => (five h.b).2.2.2.2.1
  clear y0 y1 y2 y3 y4 yf
  go_region_held3 (fun w' => CrS P (.cells #[.pointer (some ⟨g, q * 5, none⟩), .string last] 103 (0, 0)) B (.cells #[.int .i64 d.id, .int .i64 d.fr, .bool d.snap, .slice (some ⟨g, 0, none⟩) d.files.length cap, .int .i64 d.next] 89 (0, 0)) w') (first | assumption | exact CrS.below (by assumption) (Below.drew (nwR _)) | exact hS4) (first
    | (go_at_call 74; refine (pput_any base g cap q d.files last d.next _ (HX3.out.below (Below.drew (nwR _))) hql (by have := HQD.out.1; omega) HQD.out.2 HNN.out).mono ?_; rintro e w4 ⟨rfl, hx4, hk4, hb4⟩; have hS4 : CrS P (.cells #[.pointer (some ⟨g, q * 5, none⟩), .string last] 103 (0, 0)) B (.cells #[.int .i64 d.id, .int .i64 d.fr, .bool d.snap, .slice (some ⟨g, 0, none⟩) d.files.length cap, .int .i64 d.next] 89 (0, 0)) w4 := ⟨hk4.2 _ _ _ _ hS.p (by decide) (by decide), hk4.2 _ _ _ _ hS.b (by decide) (by decide)⟩))
  have HX4 : Hid (OwnFilesX w4 base (.slice (some ⟨g, 0, none⟩) d.files.length cap) (d.files.set q (withList (d.files.getD q f0) (putL (d.files.getD q f0).list (last, d.next))))) := hx4
  have HK4 : Hid (KeepU w w4) := ((KeepT.of_below HB3.out).trans ((KeepT.of_below (Below.drew (nwR w3))).trans hk4)).u
  have HB4 : Hid (Below base w w4) := (HB3.out.mono hbw).trans ((Below.drew (Below.refl base w3)).trans hb4)
  have HS4 : Hid (CrS P (.cells #[.pointer (some ⟨g, q * 5, none⟩), .string last] 103 (0, 0)) B (.cells #[.int .i64 d.id, .int .i64 d.fr, .bool d.snap, .slice (some ⟨g, 0, none⟩) d.files.length cap, .int .i64 d.next] 89 (0, 0)) w4) := hS4
  clear z0 z1 z4 hS hx4 hk4 hb4 hS4 HX3 HCS3 HX2 HB2 hCS HPL HBV HNV2
  generalize hfs2 : d.files.set q (withList (d.files.getD q f0) (putL (d.files.getD q f0).list (last, d.next))) = fs2 at HX4
  have HF2 : Hid (d.files.set q (withList (d.files.getD q f0) (putL (d.files.getD q f0).list (last, d.next))) = fs2) := hfs2
  have hl2 : fs2.length = d.files.length := by rw [← hfs2, List.length_set]
  clear hfs2
  obtain ⟨gs, hgd, hrow, hgown, hgap⟩ := HX4.out
  have hgl : gs.length = d.files.length := by rw [← hl2, ← hgd, List.length_map]
  obtain ⟨i0, hi, hz0, hz1, hz2⟩ := info_parts Tryz.info59
  have HGD : Hid (gs.map FV.d = fs2) := hgd
  have HGO : Hid (∀ y ∈ gs, OwnFV w4 base y) := hgown
  have HGA : Hid (Apart gs) := hgap
  have HROW : Hid (w4.ownsRow base 59 5 (.slice (some ⟨g, 0, none⟩) d.files.length cap) d.files.length (fflat gs)) := by have h := hrow; rw [hgl] at h; exact h
  have hgw := World.ownsRow.lt hrow g rfl
  have HGL : Hid (gs.length = d.files.length) := hgl
  clear hgd hrow hgown hgap hgl hl2
  have hn16 : d.files.length ≤ 15 := by omega
  have hB1 : d.files.length + 1 ≤ maxLen := by unfold maxLen; omega
  have hB2 : (d.files.length + 1) * 72 ≤ 140737488355328 := by omega
  obtain ⟨y0, y1, y2, y3, y4, yf⟩ := five HS4.out.b
  have hBl := block_lt_of_cell y0
  go_wp2_with fail
  go_region_law (first
    | (refine step_append_at (by rfl) (.tmp 50) (.tmp 58) 22 (by rfl) base 59 i0 (.agg #[.int .i64 0, .bool false, .int .i64 0, .slice none 0 0, .slice none 0 0]) 5 72 Tryz.underlying22 hi hz0 hz1 hz2 rfl (by decide) (.slice (some ⟨g, 0, none⟩) d.files.length cap) d.files.length (fflat gs) (by simp [Act.eval]) (by exact World.ownsRow.alloc HROW.out _) ⟨w4.heap.size, 0, none⟩ 1 1 [.int .i64 d.next, .bool dir, .int .i64 0, .slice none 0 0, .slice none 0 0] (by simp [Act.eval]) rfl (by exact cells5 w4 _ _ _ _ _ _) (by simp [Value.oneCell']) hB1 hB2 (by simp; omega) ?_; intro fv w5 hown1 hgrow1 hat1; have hGR : w4.grownBy w5 (some g) := (gbOf (nwA (nwR w4) (.cells #[.int .i64 d.next, .bool dir, .int .i64 0, .slice none 0 0, .slice none 0 0] 59)) (some g)).trans ((gbOf (Below.drew (nwR _)) (some g)).trans hgrow1); have hB5 : w5.heap[B]? = some (.cells #[.int .i64 d.id, .int .i64 d.fr, .bool d.snap, .slice (some ⟨g, 0, none⟩) d.files.length cap, .int .i64 d.next] 89 (0, 0)) := (KeepT.of_gb (v := .slice (some ⟨g, 0, none⟩) d.files.length cap) hGR HROW.out (.inl rfl)).2 _ _ _ _ HS4.out.b (by decide) (by decide); obtain ⟨x0, x1, x2, x3, x4, xf⟩ := five hB5; obtain ⟨g1, cap1, rfl, hg1, _⟩ := slice_cells hown1 (Nat.succ_pos _))
    | fail)
  all_goals
    have HX5 : Hid (OwnFilesX w5 base (.slice (some ⟨g1, 0, none⟩) (d.files.length + 1) cap1) (fs2 ++ [⟨d.next, dir, 0, [], []⟩])) := by
      have h := OwnFilesX.snoc (f := ⟨d.next, dir, 0, [], []⟩) (w := w4) (v := .slice (some ⟨g, 0, none⟩) d.files.length cap) (by rw [HGL.out]; exact HROW.out) HGO.out HGA.out rfl rfl (by rw [HGL.out]; exact hown1) hGR
      rw [HGD.out] at h; exact h
    have hB6 : (w5.setCell ⟨B, 3, none⟩ (.slice (some ⟨g1, 0, none⟩) (d.files.length + 1) cap1)).heap[B]? = some (.cells #[.int .i64 d.id, .int .i64 d.fr, .bool d.snap, .slice (some ⟨g1, 0, none⟩) (d.files.length + 1) cap1, .int .i64 d.next] 89 (0, 0)) := by
      rw [heap_setCell_same w5 B 3 _ 89 _ hB5]; simp
    have HB7 : Hid (((w5.setCell ⟨B, 3, none⟩ (.slice (some ⟨g1, 0, none⟩) (d.files.length + 1) cap1)).setCell ⟨B, 4, none⟩ (.int .i64 (d.next + 1))).heap[B]? = some (.cells #[.int .i64 d.id, .int .i64 d.fr, .bool d.snap, .slice (some ⟨g1, 0, none⟩) (d.files.length + 1) cap1, .int .i64 (d.next + 1)] 89 (0, 0))) := by
      show _ = _
      rw [heap_setCell_same _ B 4 _ 89 _ hB6]; simp
    have HX7 : Hid (OwnFilesX ((w5.setCell ⟨B, 3, none⟩ (.slice (some ⟨g1, 0, none⟩) (d.files.length + 1) cap1)).setCell ⟨B, 4, none⟩ (.int .i64 (d.next + 1))) base (.slice (some ⟨g1, 0, none⟩) (d.files.length + 1) cap1) (fs2 ++ [⟨d.next, dir, 0, [], []⟩])) := (HX5.out.setT hB5 (by decide) (by decide) (by decide) _).setT hB6 (by decide) (by decide) (by decide) _
    have HK7 : Hid (KeepU w ((w5.setCell ⟨B, 3, none⟩ (.slice (some ⟨g1, 0, none⟩) (d.files.length + 1) cap1)).setCell ⟨B, 4, none⟩ (.int .i64 (d.next + 1)))) := HK4.out.trans (((KeepT.of_gb (v := .slice (some ⟨g, 0, none⟩) d.files.length cap) hGR HROW.out (.inl rfl)).u.trans (KeepU.of_set _ hB5)).trans (KeepU.of_set _ hB6))
    have HBL7 : Hid (Below base w ((w5.setCell ⟨B, 3, none⟩ (.slice (some ⟨g1, 0, none⟩) (d.files.length + 1) cap1)).setCell ⟨B, 4, none⟩ (.int .i64 (d.next + 1)))) := ((HB4.out.grown hGR (by omega) (fun k hk => by injection hk with hk; omega)).setCell (p := ⟨B, 3, none⟩) hbB _).setCell (p := ⟨B, 4, none⟩) hbB _
    obtain ⟨t0, t1, t2, t3, t4, tf⟩ := five hB6
    clear hown1 hgrow1 hat1 x0 x1 x2 x3 x4 xf y0 y1 y2 y3 y4 yf hGR hB5
    go_wp2_with fail
    go_ret
    exact ⟨createIs_yes HR.out ⟨hbB, _, HB7.out, by unfold newV; simp only; rw [HF2.out]; exact HX7.out⟩, HK7.out, HBL7.out⟩

end Go.Proofs.YtdpighcaieajjabGreat

/- A link less. -/
namespace Go.Proofs.YtdpighcaieajjabGreat
open Go.RowKit

def cutL (l : List LinkD) (k : Nat) : List LinkD := l.take k ++ l.drop (k + 1)

set_option maxRecDepth 100000 in
set_option maxHeartbeats 4000000 in
theorem cut_room (b1 o1 : Nat) (l : List LinkD) (ca k : Nat) (n : ByteArray) (w : World) (hv : LinksAt w (some ⟨b1, o1, none⟩) l) (hl : l.length ≤ 100000) (hk : namedI l n = some k) (hkc : k + 1 < ca) :
    Calls Tryz.prog 54 #[.slice (some ⟨b1, o1, none⟩) l.length ca, .string n] w fun e w' => (∃ v, e = .returned v ∧ OwnLinks w' w.heap.size v (cutL l k)) ∧ Below w.heap.size w w' := by
  have hkl := namedI_lt hk
  have HL : Hid (LinksAt w (some ⟨b1, o1, none⟩) l) := hv
  have HK : Hid (namedI l n = some k) := hk
  clear hv hk
  go_enter Tryz.func54, Tryz.ntmps54
  go_wp2_with (go_at_call 46; refine (named_any _ l ca n _ HL.out hl).mono ?_; rintro e w' ⟨rfl, hw⟩; rw [hw, HK.out]; clear hw)
  simp only [optI]
  have hS := nwR w
  have HTL : Hid ((l.take k).length = k) := by show _ = _; rw [List.length_take]; omega
  have HCP : Hid (∀ w' c, Below w.heap.size w w' → Calls Tryz.prog 69 #[.slice (some ⟨b1, o1, none⟩) k c] w' fun e w2 => (∃ v, e = .returned v ∧ OwnLinks w2 w'.heap.size v (l.take k)) ∧ Below w'.heap.size w' w2) := fun w' c h => by
    have h2 := copyLinks_any (some ⟨b1, o1, none⟩) (l.take k) c w' ((HL.out.take k).below h) (by rw [HTL.out]; omega)
    rw [HTL.out] at h2
    exact h2
  obtain ⟨i0, hi, hz0, hz1, hz2⟩ := info_parts Tryz.info63
  have hB3 : (l.take k).length + (l.length - (k + 1)) ≤ maxLen := by rw [HTL.out]; unfold maxLen; omega
  have hB4 : ((l.take k).length + (l.length - (k + 1))) * 24 ≤ 140737488355328 := by rw [HTL.out]; omega
  have hne : ¬ ca = k + 1 := by omega
  have g1 : (k : Int) ≤ (ca : Int) := by omega
  have g2 : (k : Int) ≤ (l.length : Int) := by omega
  have g3 : (0 : Int) ≤ (k : Int) := by omega
  have g4 : (k : Int) + 1 ≤ (ca : Int) := by omega
  have g5 : (k : Int) + 1 ≤ (l.length : Int) := by omega
  have g6 : (0 : Int) ≤ (k : Int) + 1 := by omega
  have e1 : IntKind.i64.wrap ((k : Int) + 1) = (k : Int) + 1 := wrap_any (by omega) (by omega)
  go_wp2_with fail
  go_region_held3 (fun w' => Below w.heap.size w w') (first | assumption | exact Below.drew (by assumption) | exact nwT (by assumption) (by assumption)) (first
    | (go_at_call 69; refine (HCP.out _ _ (by assumption)).mono ?_; rintro e wC ⟨⟨vC, rfl, hoC⟩, hbC⟩; have HOC : Hid (OwnLinks wC w.heap.size vC (l.take k)) := own_le hoC (Below.size (by assumption)); have hbC0 : Below w.heap.size w wC := (nwT (by assumption) hbC); clear hoC)
    | (refine step_append_src (by rfl) (.tmp 12) (.tmp 16) 57 (by rfl) w.heap.size 63 i0 (.agg #[.string ⟨#[]⟩, .int .i64 0]) 2 24 Tryz.underlying57 hi hz0 hz1 hz2 rfl (by decide) vC (l.take k).length (lflat (l.take k)) (by simp [Act.eval]) (by exact HOC.out) (some ⟨b1, o1 + (k + 1) * 2, none⟩) (l.length - (k + 1)) (ca - (k + 1)) (lflat (l.drop (k + 1))) (by simp [Act.eval]) (by rw [lflat_len, List.length_drop]) (fun e => by cases e) (by intro p e; injection e with e; subst e; exact (HL.out.below hbC0).cellsFrom (k + 1)) (lflat_one _) hB3 hB4 (by exact hbC0.size) ?_; intro v2 w4 hown2 hgrow2; have hb4 : Below w.heap.size w w4 := hbC0.grown hgrow2 hbC0.size (fun q e => (HOC.out.lt q e).1); have HO4 : Hid (OwnLinks w4 w.heap.size v2 (cutL l k)) := OwnLinks.app List.length_drop hown2; clear hown2 hgrow2)
    | fail)
  all_goals
    obtain ⟨a2, c2, rfl, _⟩ := HO4.out.at
    go_wp2_with fail
    go_ret
    exact ⟨⟨_, rfl, HO4.out⟩, hb4⟩

set_option maxRecDepth 100000 in
set_option maxHeartbeats 4000000 in
theorem cut_full (b1 o1 : Nat) (l : List LinkD) (k : Nat) (n : ByteArray) (w : World) (hv : LinksAt w (some ⟨b1, o1, none⟩) l) (hl : l.length ≤ 100000) (hk : namedI l n = some k) (hle : l.length ≤ k + 1) :
    Calls Tryz.prog 54 #[.slice (some ⟨b1, o1, none⟩) l.length (k + 1), .string n] w fun e w' => (∃ v, e = .returned v ∧ OwnLinks w' w.heap.size v (cutL l k)) ∧ Below w.heap.size w w' := by
  have hkl := namedI_lt hk
  have HL : Hid (LinksAt w (some ⟨b1, o1, none⟩) l) := hv
  have HK : Hid (namedI l n = some k) := hk
  clear hv hk
  go_enter Tryz.func54, Tryz.ntmps54
  go_wp2_with (go_at_call 46; refine (named_any _ l (k + 1) n _ HL.out hl).mono ?_; rintro e w' ⟨rfl, hw⟩; rw [hw, HK.out]; clear hw)
  simp only [optI]
  have hS := nwR w
  have HTL : Hid ((l.take k).length = k) := by show _ = _; rw [List.length_take]; omega
  have HCP : Hid (∀ w' c, Below w.heap.size w w' → Calls Tryz.prog 69 #[.slice (some ⟨b1, o1, none⟩) k c] w' fun e w2 => (∃ v, e = .returned v ∧ OwnLinks w2 w'.heap.size v (l.take k)) ∧ Below w'.heap.size w' w2) := fun w' c h => by
    have h2 := copyLinks_any (some ⟨b1, o1, none⟩) (l.take k) c w' ((HL.out.take k).below h) (by rw [HTL.out]; omega)
    rw [HTL.out] at h2
    exact h2
  obtain ⟨i0, hi, hz0, hz1, hz2⟩ := info_parts Tryz.info63
  have hB3 : (l.take k).length + 0 ≤ maxLen := by rw [HTL.out]; unfold maxLen; omega
  have hB4 : ((l.take k).length + 0) * 24 ≤ 140737488355328 := by rw [HTL.out]; omega
  have hdk : l.length - (k + 1) = 0 := by omega
  have g1 : (k : Int) ≤ ((k : Int) + 1) := by omega
  have g2 : (k : Int) ≤ (l.length : Int) := by omega
  have g3 : (0 : Int) ≤ (k : Int) := by omega
  have g5 : (k : Int) + 1 ≤ (l.length : Int) := by omega
  have g6 : (0 : Int) ≤ (k : Int) + 1 := by omega
  have e1 : IntKind.i64.wrap ((k : Int) + 1) = (k : Int) + 1 := wrap_any (by omega) (by omega)
  go_wp2_with fail
  go_region_held3 (fun w' => Below w.heap.size w w') (first | assumption | exact Below.drew (by assumption) | exact nwT (by assumption) (by assumption)) (first
    | (go_at_call 69; refine (HCP.out _ _ (by assumption)).mono ?_; rintro e wC ⟨⟨vC, rfl, hoC⟩, hbC⟩; have HOC : Hid (OwnLinks wC w.heap.size vC (l.take k)) := own_le hoC (Below.size (by assumption)); have hbC0 : Below w.heap.size w wC := (nwT (by assumption) hbC); clear hoC)
    | (refine step_append_src (by rfl) (.tmp 12) (.tmp 16) 57 (by rfl) w.heap.size 63 i0 (.agg #[.string ⟨#[]⟩, .int .i64 0]) 2 24 Tryz.underlying57 hi hz0 hz1 hz2 rfl (by decide) vC (l.take k).length (lflat (l.take k)) (by simp [Act.eval]) (by exact HOC.out) (some ⟨b1, o1, none⟩) 0 0 (lflat (l.drop (k + 1))) (by simp [Act.eval]) (by rw [lflat_len, List.length_drop, hdk]) (fun e => by cases e) (by intro p _ j u hu; rw [List.drop_of_length_le (by omega)] at hu; simp [lflat] at hu) (lflat_one _) hB3 hB4 (by exact hbC0.size) ?_; intro v2 w4 hown2 hgrow2; have hb4 : Below w.heap.size w w4 := hbC0.grown hgrow2 hbC0.size (fun q e => (HOC.out.lt q e).1); have HO4 : Hid (OwnLinks w4 w.heap.size v2 (cutL l k)) := OwnLinks.app (by rw [List.length_drop, hdk]) hown2; clear hown2 hgrow2)
    | fail)
  all_goals
    obtain ⟨a2, c2, rfl, _⟩ := HO4.out.at
    go_wp2_with fail
    go_ret
    exact ⟨⟨_, rfl, HO4.out⟩, hb4⟩

theorem cut_any (a : Option Addr) (l : List LinkD) (ca k : Nat) (n : ByteArray) (w : World) (hv : LinksAt w a l) (hl : l.length ≤ 100000) (hca : l.length ≤ ca) (hk : namedI l n = some k) :
    Calls Tryz.prog 54 #[.slice a l.length ca, .string n] w fun e w' => (∃ v, e = .returned v ∧ OwnLinks w' w.heap.size v (cutL l k)) ∧ Below w.heap.size w w' := by
  have hkl := namedI_lt hk
  obtain ⟨b, o, rfl, _⟩ := hv.cell hkl
  by_cases h : k + 1 < ca
  · exact cut_room b o l ca k n w hv hl hk h
  · have e : ca = k + 1 := by omega
    subst e
    exact cut_full b o l k n w hv hl hk hca

end Go.Proofs.YtdpighcaieajjabGreat

/- A file less. -/
namespace Go.Proofs.YtdpighcaieajjabGreat
open Go.RowKit

def lessF (fs : List FileD) (k : Nat) : List FileD := fs.take k ++ fs.drop (k + 1)
theorem fflat_lenL (gs : List FV) : (fflat gs).length = gs.length * 5 := by
  induction gs with
  | nil => rfl
  | cons x xs ih => simp only [fflat, List.flatMap_cons, List.length_append, List.length_cons, List.length_nil] at *; omega
theorem fflat_append (a b : List FV) : fflat (a ++ b) = fflat a ++ fflat b := by simp [fflat]
theorem fflat_drop (gs : List FV) (k : Nat) : fflat (gs.drop k) = (fflat gs).drop (k * 5) := by
  induction gs generalizing k with
  | nil => simp [fflat]
  | cons x xs ih =>
    cases k with
    | zero => simp
    | succ k =>
      have e : fflat (x :: xs) = .int .i64 x.d.id :: .bool x.d.dir :: .int .i64 x.d.size :: x.bv :: x.lv :: fflat xs := by simp [fflat]
      rw [List.drop_succ_cons, ih k, e, show (k + 1) * 5 = k * 5 + 1 + 1 + 1 + 1 + 1 from by omega]
      simp only [List.drop_succ_cons]
theorem fflat_oneL {w : World} {base : Nat} {gs : List FV} (h : ∀ g ∈ gs, OwnFV w base g) : ∀ u ∈ fflat gs, u.oneCell' = true := by
  intro u hu
  obtain ⟨x, hx, hm⟩ := List.mem_flatMap.1 hu
  obtain ⟨_, _, e1, _⟩ := (h x hx).1.at
  obtain ⟨_, _, e2, _⟩ := (h x hx).2.at
  simp at hm
  rcases hm with rfl | rfl | rfl | rfl | rfl
  · rfl
  · rfl
  · rfl
  · rw [e1]; rfl
  · rw [e2]; rfl
theorem FilesAt.take {w : World} {a : Option Addr} {l : List FileD} (h : FilesAt w a l) (k : Nat) : FilesAt w a (l.take k) := by
  rcases h with rfl | ⟨b, o, rfl, hc⟩
  · exact .inl (by simp)
  · refine .inr ⟨b, o, rfl, fun i hi => ?_⟩
    rw [List.length_take] at hi
    have e : (l.take k).getD i f0 = l.getD i f0 := by simp [List.getD, show i < k from by omega]
    rw [e]; exact hc i (by omega)

theorem less_own {w : World} {base B : Nat} {v : Value} {gs hs : List FV} {m : Nat} (hm : hs.length = m) (h : w.ownsRow B 59 5 v (gs.length + m) (fflat gs ++ fflat hs)) (hB : base ≤ B) (h1 : ∀ g ∈ gs, OwnFV w base g) (h2 : ∀ g ∈ hs, OwnFV w base g) : OwnFiles w base v (gs.map FV.d ++ hs.map FV.d) := by
  refine ⟨gs ++ hs, by simp, own_le ?_ hB, fun g hg => ?_⟩
  · rw [fflat_append, List.length_append, hm]; exact h
  · rcases List.mem_append.1 hg with hg | hg
    · exact h1 g hg
    · exact h2 g hg

theorem rowFrom {w : World} {base g n cap : Nat} {gs : List FV} (h : w.ownsRow base 59 5 (.slice (some ⟨g, 0, none⟩) n cap) n (fflat gs)) (k : Nat) : ∀ j u, (fflat (gs.drop k))[j]? = some u → w.cell? ((⟨g, k * 5, none⟩ : Addr).add j) = some u := by
  intro j u hu
  rw [fflat_drop, List.getElem?_drop] at hu
  have h1 := h.cells (g := g) rfl (k * 5 + j) u hu
  have e : ∀ o j, (⟨g, o, none⟩ : Addr).add j = ⟨g, o + j, none⟩ := fun o j => by unfold Addr.add; split <;> simp_all
  rw [e] at h1 ⊢
  rw [Nat.zero_add] at h1
  exact h1

theorem less_pre {w X wC : World} {vC : Value} {fs : List FileD} {k : Nat} (hX : Below w.heap.size w X) (hbC : Below X.heap.size X wC) (h : OwnFiles wC X.heap.size vC fs) (hl : fs.length = k) :
    ∃ gC : List FV, gC.length = k ∧ Hid (gC.map FV.d = fs) ∧ Hid (wC.ownsRow w.heap.size 59 5 vC gC.length (fflat gC)) ∧ Hid (∀ x ∈ gC, OwnFV wC w.heap.size x) ∧ Below w.heap.size w wC := by
  obtain ⟨gC, e, ho, ha⟩ := h
  exact ⟨gC, by rw [← hl, ← e, List.length_map], e, own_le ho hX.size, fun x hx => (ha x hx).le hX.size, nwT hX hbC⟩

set_option maxRecDepth 100000 in
set_option maxHeartbeats 4000000 in
theorem less_any (v : Value) (fs : List FileD) (base k : Nat) (w : World) (ho : OwnFiles w base v fs) (hb : base ≤ w.heap.size) (hl : fs.length ≤ 100000) (hs : ∀ f ∈ fs, SmallF f) (hk : k < fs.length) :
    Calls Tryz.prog 55 #[v, .int .i64 k] w fun e w' => (∃ v', e = .returned v' ∧ OwnFiles w' base v' (lessF fs k)) ∧ Below w.heap.size w w' := by
  have HS : Hid (∀ f ∈ fs.take k, SmallF f) := fun f hf => hs f (List.mem_of_mem_take hf)
  obtain ⟨a, ca, hva, hfa, hcap⟩ := ho.at
  obtain ⟨gs, hgs, hrow, hall⟩ := ho
  have hgl : gs.length = fs.length := by rw [← hgs, List.length_map]
  rcases hrow.2 with ⟨_, hn⟩ | ⟨g, cap, cur, hv, _, _, hnc, _⟩
  · omega
  · rw [hv] at hva
    injection hva with ea eb ec
    clear eb
    subst ea; subst ec; subst hv
    have HROW : Hid (w.ownsRow base 59 5 (.slice (some ⟨g, 0, none⟩) gs.length cap) gs.length (fflat gs)) := hrow
    have HALL : Hid (∀ x ∈ gs, OwnFV w base x) := hall
    have HFA : Hid (FilesAt w (some ⟨g, 0, none⟩) (fs.take k)) := hfa.take k
    have HTL : Hid ((fs.take k).length = k) := by show _ = _; rw [List.length_take]; omega
    have HLD : Hid (lessF fs k = fs.take k ++ (gs.drop (k + 1)).map FV.d) := by show _ = _; unfold lessF; rw [← hgs, List.map_drop]
    have HCP : Hid (∀ w' c, Below w.heap.size w w' → Calls Tryz.prog 13 #[.slice (some ⟨g, 0, none⟩) k c] w' fun e w2 => (∃ v, e = .returned v ∧ OwnFiles w2 w'.heap.size v (fs.take k)) ∧ Below w'.heap.size w' w2) := fun w' c h => by
      have h2 := copyFiles_any (some ⟨g, 0, none⟩) (fs.take k) c w' (HFA.out.below h) (by rw [HTL.out]; omega) HS.out
      rw [HTL.out] at h2
      exact h2
    have hk2 : k < gs.length := by omega
    have hgs2 : gs.length ≤ 100000 := by omega
    clear hrow hall hfa hgs hcap hs hl hk hgl
    obtain ⟨i0, hi, hz0, hz1, hz2⟩ := info_parts Tryz.info59
    have hS := nwR w
    by_cases hcc : cap = k + 1
    · subst hcc
      have hdk : gs.length - (k + 1) = 0 := by omega
      go_enter Tryz.func55, Tryz.ntmps55
      go_wp2_with fail
      have g1 : (k : Int) ≤ ((k : Int) + 1) := by omega
      have g2 : (k : Int) ≤ (gs.length : Int) := by omega
      have g3 : (0 : Int) ≤ (k : Int) := by omega
      have g4 : (k : Int) + 1 ≤ ((k : Int) + 1) := by omega
      have g5 : (k : Int) + 1 ≤ (gs.length : Int) := by omega
      have g6 : (0 : Int) ≤ (k : Int) + 1 := by omega
      have e1 : IntKind.i64.wrap ((k : Int) + 1) = (k : Int) + 1 := wrap_any (by omega) (by omega)
      go_region_held3 (fun w' => Below w.heap.size w w') (first | assumption | exact Below.drew (by assumption) | exact nwT (by assumption) (by assumption)) (first
        | (go_at_call 13; refine (HCP.out _ _ (by assumption)).mono ?_; rintro e wC ⟨⟨vC, rfl, hoC⟩, hbC⟩; obtain ⟨gC, hgCl, HGC, HOC, HAC, hbC0⟩ := less_pre (by assumption) hbC hoC HTL.out; clear hoC)
        | (refine step_append_src (by rfl) (.tmp 8) (.tmp 12) 22 (by rfl) w.heap.size 59 i0 (.agg #[.int .i64 0, .bool false, .int .i64 0, .slice none 0 0, .slice none 0 0]) 5 72 Tryz.underlying22 hi hz0 hz1 hz2 rfl (by decide) vC gC.length (fflat gC) (by simp [Act.eval]) (by exact HOC.out) (some ⟨g, 0, none⟩) 0 0 (fflat (gs.drop (k + 1))) (by simp [Act.eval]) (by rw [fflat_lenL, List.length_drop, hdk]) (fun e => by cases e) (by intro p _ j u hu; rw [List.drop_of_length_le (by omega)] at hu; simp [fflat] at hu) (fflat_oneL (fun x hx => HALL.out x (List.mem_of_mem_drop hx))) (by unfold maxLen; omega) (by omega) (by exact hbC0.size) ?_; intro v2 w4 hown2 hgrow2; have hb4 : Below w.heap.size w w4 := hbC0.grown hgrow2 hbC0.size (fun q e => (HOC.out.lt q e).1); have HO4 : Hid (OwnFiles w4 base v2 (lessF fs k)) := (by rw [HLD.out, ← HGC.out]; exact less_own (by rw [List.length_drop]; exact hdk) hown2 hb (fun x hx => ((HAC.out x hx).grown HOC.out hgrow2).le hb) (fun x hx => ((HALL.out x (List.mem_of_mem_drop hx)).below hbC0).grown HOC.out hgrow2)); clear hown2 hgrow2)
        | fail)
      all_goals
        obtain ⟨a2, c2, rfl, _⟩ := HO4.out.at
        go_wp2_with fail
        go_ret
        exact ⟨⟨_, rfl, HO4.out⟩, hb4⟩
    · have hne : ¬ cap = k + 1 := hcc
      go_enter Tryz.func55, Tryz.ntmps55
      go_wp2_with fail
      have g1 : (k : Int) ≤ (cap : Int) := by omega
      have g2 : (k : Int) ≤ (gs.length : Int) := by omega
      have g3 : (0 : Int) ≤ (k : Int) := by omega
      have g4 : (k : Int) + 1 ≤ (cap : Int) := by omega
      have g5 : (k : Int) + 1 ≤ (gs.length : Int) := by omega
      have g6 : (0 : Int) ≤ (k : Int) + 1 := by omega
      have e1 : IntKind.i64.wrap ((k : Int) + 1) = (k : Int) + 1 := wrap_any (by omega) (by omega)
      go_region_held3 (fun w' => Below w.heap.size w w') (first | assumption | exact Below.drew (by assumption) | exact nwT (by assumption) (by assumption)) (first
        | (go_at_call 13; refine (HCP.out _ _ (by assumption)).mono ?_; rintro e wC ⟨⟨vC, rfl, hoC⟩, hbC⟩; obtain ⟨gC, hgCl, HGC, HOC, HAC, hbC0⟩ := less_pre (by assumption) hbC hoC HTL.out; clear hoC)
        | (refine step_append_src (by rfl) (.tmp 8) (.tmp 12) 22 (by rfl) w.heap.size 59 i0 (.agg #[.int .i64 0, .bool false, .int .i64 0, .slice none 0 0, .slice none 0 0]) 5 72 Tryz.underlying22 hi hz0 hz1 hz2 rfl (by decide) vC gC.length (fflat gC) (by simp [Act.eval]) (by exact HOC.out) (some ⟨g, (k + 1) * 5, none⟩) (gs.length - (k + 1)) (cap - (k + 1)) (fflat (gs.drop (k + 1))) (by simp [Act.eval]) (by rw [fflat_lenL, List.length_drop]) (fun e => by cases e) (by intro p e; injection e with e; subst e; exact rowFrom (own_below HROW.out hbC0) (k + 1)) (fflat_oneL (fun x hx => HALL.out x (List.mem_of_mem_drop hx))) (by unfold maxLen; omega) (by omega) (by exact hbC0.size) ?_; intro v2 w4 hown2 hgrow2; have hb4 : Below w.heap.size w w4 := hbC0.grown hgrow2 hbC0.size (fun q e => (HOC.out.lt q e).1); have HO4 : Hid (OwnFiles w4 base v2 (lessF fs k)) := (by rw [HLD.out, ← HGC.out]; exact less_own (by rw [List.length_drop]) hown2 hb (fun x hx => ((HAC.out x hx).grown HOC.out hgrow2).le hb) (fun x hx => ((HALL.out x (List.mem_of_mem_drop hx)).below hbC0).grown HOC.out hgrow2)); clear hown2 hgrow2)
        | fail)
      all_goals
        obtain ⟨a2, c2, rfl, _⟩ := HO4.out.at
        go_wp2_with fail
        go_ret
        exact ⟨⟨_, rfl, HO4.out⟩, hb4⟩

end Go.Proofs.YtdpighcaieajjabGreat

/- One element less in a row: the row shifted, step by step. -/
namespace Go.Proofs.YtdpighcaieajjabGreat
open Go.RowKit Go.Sort

/-- the row where the elements behind k, up to m, stand one place ahead -/
def shl {α : Type} (l : List α) (k m : Nat) : List α := l.take k ++ (l.drop (k + 1)).take (m - k) ++ l.drop m
theorem shl_self {α : Type} (l : List α) (k : Nat) : shl l k k = l := by simp [shl]
theorem shl_len {α : Type} (l : List α) {k m : Nat} (hk : k ≤ m) (hm : m < l.length) : (shl l k m).length = l.length := by
  simp [shl]; omega
theorem shl_get {α : Type} (l : List α) {k m : Nat} (hk : k ≤ m) (hm : m < l.length) (t : Nat) : (shl l k m)[t]? = if t < k then l[t]? else if t < m then l[t + 1]? else l[t]? := by
  have h1 : (l.take k).length = k := by simp; omega
  have h2 : ((l.drop (k + 1)).take (m - k)).length = m - k := by simp; omega
  unfold shl
  by_cases a : t < k
  · rw [List.append_assoc, List.getElem?_append_left (by omega), if_pos a, List.getElem?_take, if_pos a]
  · rw [if_neg a]
    by_cases b : t < m
    · rw [List.getElem?_append_left (by rw [List.length_append]; omega), List.getElem?_append_right (by omega), if_pos b, h1, List.getElem?_take, if_pos (by omega), List.getElem?_drop]
      congr 1; omega
    · rw [List.getElem?_append_right (by rw [List.length_append]; omega), if_neg b, List.length_append, h1, h2, List.getElem?_drop]
      congr 1; omega
theorem shl_set {α : Type} (l : List α) {k m : Nat} (hk : k ≤ m) (hm : m + 1 < l.length) {x : α} (hx : l[m + 1]? = some x) : (shl l k m).set m x = shl l k (m + 1) := by
  apply List.ext_getElem?
  intro t
  rw [List.getElem?_set, shl_get l hk (by omega), shl_get l (by omega : k ≤ m + 1) hm, shl_len l hk (by omega)]
  by_cases e : m = t
  · subst e
    rw [if_pos rfl, if_pos (by omega), if_neg (by omega), if_pos (by omega), hx]
  · rw [if_neg e]
    by_cases a : t < k
    · rw [if_pos a, if_pos a]
    · rw [if_neg a, if_neg a]
      by_cases b : t < m
      · rw [if_pos b, if_pos (by omega)]
      · rw [if_neg b, if_neg (by omega)]
theorem shl_take {α : Type} (l : List α) {k m : Nat} (hk : k ≤ m) (hm : m + 1 = l.length) : (shl l k m).take m = l.take k ++ l.drop (k + 1) := by
  unfold shl
  rw [List.take_append_of_le_length (by simp; omega)]
  have e : (l.drop (k + 1)).take (m - k) = l.drop (k + 1) := List.take_of_length_le (by simp; omega)
  rw [e, List.take_of_length_le (by simp; omega)]
theorem own_shrink {w : World} {base e size g n cap m : Nat} {xs : List Value} (h : w.ownsRow base e size (.slice (some ⟨g, 0, none⟩) n cap) n xs) (hm : m ≤ n) : w.ownsRow base e size (.slice (some ⟨g, 0, none⟩) m cap) m (xs.take (m * size)) := by
  have hms : m * size ≤ n * size := Nat.mul_le_mul_right _ hm
  refine ⟨by rw [List.length_take, h.1]; omega, .inr ?_⟩
  rcases h.2 with ⟨h1, _⟩ | ⟨g', cap', cur, h1, h2, h3, h4, h5, h6, h7⟩
  · simp at h1
  · simp only [Value.slice.injEq, Option.some.injEq, Addr.mk.injEq, and_true, true_and] at h1
    obtain ⟨rfl, rfl⟩ := h1
    exact ⟨g, cap, cur, rfl, h2, h3, by omega, h5, h6, by rw [← h7, List.take_take, Nat.min_eq_left hms]⟩
theorem lflat_cons (x : LinkD) (xs : List LinkD) : lflat (x :: xs) = .string x.1 :: .int .i64 x.2 :: lflat xs := by simp [lflat]
theorem lflat_set (l : List LinkD) : ∀ (i : Nat) (x : LinkD), i < l.length → lflat (l.set i x) = ((lflat l).set (i * 2) (.string x.1)).set (i * 2 + 1) (.int .i64 x.2) := by
  induction l with
  | nil => intro i x h; simp at h
  | cons y l ih =>
    intro i x h
    cases i with
    | zero => simp [lflat_cons]
    | succ i =>
      have := ih i x (by simpa using h)
      rw [show (i + 1) * 2 = i * 2 + 1 + 1 from by omega, show i * 2 + 1 + 1 + 1 = (i * 2 + 1) + 1 + 1 from rfl]
      simp only [List.set_cons_succ, lflat_cons]
      rw [this]
theorem lflat_take (l : List LinkD) (k : Nat) : lflat (l.take k) = (lflat l).take (k * 2) := by
  induction l generalizing k with
  | nil => simp [lflat]
  | cons y l ih =>
    cases k with
    | zero => simp [lflat]
    | succ k =>
      rw [List.take_succ_cons, lflat_cons, lflat_cons, ih k, show (k + 1) * 2 = k * 2 + 1 + 1 from by omega]
      simp
theorem fflat_cons (y : FV) (ys : List FV) : fflat (y :: ys) = .int .i64 y.d.id :: .bool y.d.dir :: .int .i64 y.d.size :: y.bv :: y.lv :: fflat ys := by simp [fflat]
theorem fflat_set5 (gs : List FV) : ∀ (i : Nat) (x : FV), i < gs.length → fflat (gs.set i x) = (((((fflat gs).set (i * 5) (.int .i64 x.d.id)).set (i * 5 + 1) (.bool x.d.dir)).set (i * 5 + 2) (.int .i64 x.d.size)).set (i * 5 + 3) x.bv).set (i * 5 + 4) x.lv := by
  induction gs with
  | nil => intro i x h; simp at h
  | cons y l ih =>
    intro i x h
    cases i with
    | zero => simp [fflat_cons]
    | succ i =>
      have := ih i x (by simpa using h)
      rw [show (i + 1) * 5 = i * 5 + 1 + 1 + 1 + 1 + 1 from by omega, show i * 5 + 1 + 1 + 1 + 1 + 1 + 1 = (i * 5 + 1) + 1 + 1 + 1 + 1 + 1 from rfl, show i * 5 + 1 + 1 + 1 + 1 + 1 + 2 = (i * 5 + 2) + 1 + 1 + 1 + 1 + 1 from rfl, show i * 5 + 1 + 1 + 1 + 1 + 1 + 3 = (i * 5 + 3) + 1 + 1 + 1 + 1 + 1 from rfl, show i * 5 + 1 + 1 + 1 + 1 + 1 + 4 = (i * 5 + 4) + 1 + 1 + 1 + 1 + 1 from rfl]
      simp only [List.set_cons_succ, fflat_cons]
      rw [this]
theorem fflat_take (gs : List FV) (k : Nat) : fflat (gs.take k) = (fflat gs).take (k * 5) := by
  induction gs generalizing k with
  | nil => simp [fflat]
  | cons y l ih =>
    cases k with
    | zero => simp [fflat]
    | succ k =>
      rw [List.take_succ_cons, fflat_cons, fflat_cons, ih k, show (k + 1) * 5 = k * 5 + 1 + 1 + 1 + 1 + 1 from by omega]
      simp

theorem clear_links (w : World) (ty b o c : Nat) (h0 : (w.cell? ⟨b, o, none⟩).isSome = true) (h1 : (w.cell? ⟨b, o + 1, none⟩).isSome = true) (hf : ∀ j, w.frozen? ⟨b, j, none⟩ = false) :
    (Builtin.clear_ #[57] ty #[.slice (some ⟨b, o, none⟩) 1 c]).run Tryz.prog w = .ok (.tuple #[]) ((w.setCell ⟨b, o, none⟩ (.string ⟨#[]⟩)).setCell ⟨b, o + 1, none⟩ (.int .i64 0)) := by
  have hst := run_storeCells_cells (P := Tryz.prog) b o [.string ⟨#[]⟩, .int .i64 0] 0 w (fun j hj => by
    have : j = 0 ∨ j = 1 := by simp at hj; omega
    rcases this with rfl | rfl
    · exact h0
    · exact h1) (fun j _ => hf _) (by simp [Value.oneCell'])
  simp only [Nat.add_zero, World.setCells] at hst
  have hv : (zeroValue 63).run Tryz.prog w = .ok (.agg #[.string ⟨#[]⟩, .int .i64 0]) w := by kernel_rfl
  have hz : (Builtin.zeroCells (Value.agg #[.string ⟨#[]⟩, .int .i64 0]).cells 1).toList = [.string ⟨#[]⟩, .int .i64 0] := by kernel_rfl
  simp [Builtin.clear_, run_underlying Tryz.underlying57, hv, hz, hst]
theorem clear_files (w : World) (ty b o c : Nat) (hc : ∀ j, j < 5 → (w.cell? ⟨b, o + j, none⟩).isSome = true) (hf : ∀ j, w.frozen? ⟨b, j, none⟩ = false) :
    (Builtin.clear_ #[22] ty #[.slice (some ⟨b, o, none⟩) 1 c]).run Tryz.prog w = .ok (.tuple #[]) (((((w.setCell ⟨b, o, none⟩ (.int .i64 0)).setCell ⟨b, o + 1, none⟩ (.bool false)).setCell ⟨b, o + 2, none⟩ (.int .i64 0)).setCell ⟨b, o + 3, none⟩ (.slice none 0 0)).setCell ⟨b, o + 4, none⟩ (.slice none 0 0)) := by
  have hst := run_storeCells_cells (P := Tryz.prog) b o [.int .i64 0, .bool false, .int .i64 0, .slice none 0 0, .slice none 0 0] 0 w (fun j hj => by
    rw [Nat.add_zero]; exact hc j (by simpa using hj)) (fun j _ => hf _) (by simp [Value.oneCell'])
  simp only [Nat.add_zero, World.setCells] at hst
  have hv : (zeroValue 59).run Tryz.prog w = .ok (.agg #[.int .i64 0, .bool false, .int .i64 0, .slice none 0 0, .slice none 0 0]) w := by kernel_rfl
  have hz : (Builtin.zeroCells (Value.agg #[.int .i64 0, .bool false, .int .i64 0, .slice none 0 0, .slice none 0 0]).cells 1).toList = [.int .i64 0, .bool false, .int .i64 0, .slice none 0 0, .slice none 0 0] := by kernel_rfl
  simp [Builtin.clear_, run_underlying Tryz.underlying22, hv, hz, hst]

end Go.Proofs.YtdpighcaieajjabGreat

/- One link less in a directory's list, by the program. -/
namespace Go.Proofs.YtdpighcaieajjabGreat
open Go.RowKit Go.Sort

theorem toList_ne {a b : ByteArray} (h : a ≠ b) : (a.toList == b.toList) = false := by
  rw [beq_eq_false_iff_ne, Lib.toList_data, Lib.toList_data]; intro e; exact h (ls_inj e)
set_option maxRecDepth 100000 in
set_option maxHeartbeats 1000000 in
theorem drop1_any (x : LinkD) (s : ByteArray) (B : Nat) (w : World) (hc : w.cell? ⟨B, 0, none⟩ = some (.string s)) :
    Calls Tryz.prog 118 #[.agg #[.string x.1, .int .i64 x.2], .pointer (some ⟨B, 0, none⟩)] w fun e w' => e = .returned (.bool (decide (x.1 = s))) ∧ Below w.heap.size w w' := by
  obtain ⟨n, id⟩ := x
  simp only
  have hB := block_lt_of_cell hc
  simp only at hB
  by_cases h : n = s
  · subst h
    rw [decide_eq_true rfl]
    go_enter Tryz.func118, Tryz.ntmps118
    go_wp2_with fail
    go_ret
    exact ⟨by simp, nwA (nwR w) _⟩
  · have h2 := toList_ne h
    rw [decide_eq_false h]
    go_enter Tryz.func118, Tryz.ntmps118
    go_wp2_with fail
    go_ret
    exact ⟨by simp, nwA (nwR w) _⟩

set_option maxRecDepth 100000 in
set_option maxHeartbeats 1000000 in
theorem idxl_any (a : Option Addr) (l : List LinkD) (ca : Nat) (s : ByteArray) (B : Nat) (w : World) (hv : LinksAt w a l) (hl : l.length ≤ 100000) (hc : w.cell? ⟨B, 0, none⟩ = some (.string s)) :
    Calls Tryz.prog 133 #[.slice a l.length ca, .func (.func 118) #[] #[.pointer (some ⟨B, 0, none⟩)]] w fun e w' => e = .returned (.int .i64 (optI (namedI l s))) ∧ Below w.heap.size w w' := by
  have HF : Hid (LinksAt w a l) := hv
  have HC : Hid (w.cell? ⟨B, 0, none⟩ = some (.string s)) := hc
  clear hv hc
  go_enter Tryz.func133, Tryz.ntmps133
  go_wp2_with fail
  go_loopw [8] (fun i wr => ∃ (k : Nat), k ≤ l.length ∧ i = .int .i64 k ∧ Below w.heap.size w wr ∧ Hid (∀ j, j < k → decide ((l.getD j lk0).1 = s) = false))
    (fun i _ => l.length - (intOf i).toNat)
  case atStart => exact ⟨0, by omega, rfl, nwR w, fun j hj => by omega⟩
  case round =>
    obtain ⟨k, hk, rfl, hb, HE⟩ := hrel
    by_cases hlt : k < l.length
    · obtain ⟨b1, o1, rfl, c0, c1⟩ := (HF.out.below hb).cell hlt
      have hlti : (k : Int) < (l.length : Int) := by omega
      have HCW : Hid (wr.cell? ⟨B, 0, none⟩ = some (.string s)) := (hb.cell (p := ⟨B, 0, none⟩) (block_lt_of_cell HC.out)).trans HC.out
      have HK : Hid (decide ((l.getD k lk0).1 = s) = false → ∀ j, j < k + 1 → decide ((l.getD j lk0).1 = s) = false) := fun h j hj => by
        by_cases e : j = k
        · subst e; exact h
        · exact HE.out j (by omega)
      have HY : Hid (decide ((l.getD k lk0).1 = s) = true → namedI l s = some k) := fun h => find_yes lk0 hlt h (fun j hj => HE.out j hj)
      generalize l.getD k lk0 = x at c0 c1 HK HY
      go_wp2_with fail
      refine (drop1_any x s B _ HCW.out).mono ?_
      rintro e w2 ⟨rfl, hb2⟩
      have hbb := nwT hb hb2
      cases he : decide (x.1 = s)
      · have HN : Hid (∀ j, j < k + 1 → decide ((l.getD j lk0).1 = s) = false) := HK.out he
        clear HK HY he
        go_wp2_with fail
        go_roundw
        case rel => exact ⟨k + 1, by omega, by go_num, hbb, HN⟩
        case measure => simp [intOf]; omega
      · have HR : Hid (namedI l s = some k) := HY.out he
        clear HK HY he
        go_wp2_with fail
        go_ret
        exact ⟨ret_int (by rw [HR.out]; rfl), hbb⟩
    · have hlti : ¬ (k : Int) < (l.length : Int) := by omega
      have HY : Hid (namedI l s = none) := find_no lk0 (fun j hj => HE.out j (by omega))
      go_wp2_with fail
      go_ret
      exact ⟨ret_int (by rw [HY.out]; rfl), hb⟩

theorem OwnLinks.cellAt {w : World} {base g n cap : Nat} {l : List LinkD} (h : OwnLinks w base (.slice (some ⟨g, 0, none⟩) n cap) l) {i : Nat} {x : LinkD} (hx : l[i]? = some x) : w.cell? ⟨g, i * 2, none⟩ = some (.string x.1) ∧ w.cell? ⟨g, i * 2 + 1, none⟩ = some (.int .i64 x.2) := by
  obtain ⟨hi, rfl⟩ := List.getElem?_eq_some_iff.1 hx
  obtain ⟨c0, c1⟩ := lflat_get l i hi
  have e : l.getD i lk0 = l[i] := by simp [List.getD, hi]
  rw [e] at c0 c1
  have a0 := h.cells (g := g) rfl _ _ c0
  have a1 := h.cells (g := g) rfl _ _ c1
  rw [Addr.add_lit, Nat.zero_add] at a0 a1
  exact ⟨a0, a1⟩
theorem OwnLinks.setAt {w : World} {base g cap : Nat} {l : List LinkD} (h : OwnLinks w base (.slice (some ⟨g, 0, none⟩) l.length cap) l) {i : Nat} (x : LinkD) (hi : i < l.length) : OwnLinks ((w.setCell ⟨g, i * 2, none⟩ (.string x.1)).setCell ⟨g, i * 2 + 1, none⟩ (.int .i64 x.2)) base (.slice (some ⟨g, 0, none⟩) l.length cap) (l.set i x) := by
  have h1 := (h.stored (i * 2) (.string x.1)).1
  have h2 := (h1.stored (i * 2 + 1) (.int .i64 x.2)).1
  unfold OwnLinks
  rw [lflat_set l i x hi, List.length_set]
  exact h2
theorem gb_setg {w w' : World} {g i : Nat} (h : w.grownBy w' (some g)) (v : Value) : w.grownBy (w'.setCell ⟨g, i, none⟩ v) (some g) :=
  h.trans ⟨rfl, rfl, rfl, by simp, fun k _ hk => heap_setCell_other w' ⟨g, i, none⟩ k v (fun e => hk (by simp [e]))⟩

set_option maxRecDepth 100000 in
set_option maxHeartbeats 4000000 in
theorem delL_any (base g cap k B : Nat) (l : List LinkD) (s : ByteArray) (w : World) (ho : OwnLinks w base (.slice (some ⟨g, 0, none⟩) l.length cap) l) (hl : l.length ≤ 100000) (hk : namedI l s = some k) (hu : ∀ j, k < j → j < l.length → (l.getD j lk0).1 ≠ s) (hB : w.heap[B]? = some (.cells #[.string s] 9 (0, 0))) :
    Calls Tryz.prog 117 #[.slice (some ⟨g, 0, none⟩) l.length cap, .func (.func 118) #[] #[.pointer (some ⟨B, 0, none⟩)]] w fun e w' => e = .returned (.slice (some ⟨g, 0, none⟩) (l.length - 1) cap) ∧ OwnLinks w' base (.slice (some ⟨g, 0, none⟩) (l.length - 1) cap) (cutL l k) ∧ w.grownBy w' (some g) := by
  have hkl := namedI_lt hk
  have HU : Hid (∀ j, k < j → j < l.length → (l.getD j lk0).1 ≠ s) := hu
  have HO : Hid (OwnLinks w base (.slice (some ⟨g, 0, none⟩) l.length cap) l) := ho
  have hcap : l.length ≤ cap := by
    rcases ho.2 with ⟨h1, _⟩ | ⟨g', cap', cur, h1, _, _, h4, _⟩
    · simp at h1
    · simp only [Value.slice.injEq, true_and] at h1; omega
  have hne : B ≠ g := by
    intro e; subst e
    obtain ⟨cs, h1⟩ := own_tag ho B rfl
    rw [h1] at hB
    simp at hB
  have HBC : Hid (w.heap[B]? = some (.cells #[.string s] 9 (0, 0))) := hB
  have HIX : Hid (Calls Tryz.prog 133 #[.slice (some ⟨g, 0, none⟩) l.length cap, .func (.func 118) #[] #[.pointer (some ⟨B, 0, none⟩)]] w fun e w' => e = .returned (.int .i64 (k : Int)) ∧ Below w.heap.size w w') := by
    obtain ⟨a, c, e, hat, _⟩ := ho.at
    simp only [Value.slice.injEq, true_and] at e
    obtain ⟨rfl, rfl⟩ := e
    refine (idxl_any _ l cap s B w hat hl ?_).mono fun e w' ⟨h1, h2⟩ => ⟨by rw [h1, hk]; rfl, h2⟩
    exact (one_cell hB).1
  clear ho hk hu hB
  have hk1 : ((k : Int) == -1) = false := beq_eq_false_iff_ne.2 (by omega)
  go_enter Tryz.func117, Tryz.ntmps117
  go_wp2_with fail
  refine HIX.out.mono ?_
  rintro e w1 ⟨rfl, hb1⟩
  have HO1 : Hid (OwnLinks w1 base (.slice (some ⟨g, 0, none⟩) l.length cap) l) := own_below HO.out hb1
  have HG1 : Hid (w.grownBy w1 (some g)) := gbOf hb1 _
  clear hb1 HIX
  go_wp2_with fail
  go_loopw [5, 6] (fun s5 s6 wr => ∃ (m j : Nat), s5 = .int .i64 m ∧ s6 = .int .i64 j ∧ Hid (j = m + 1) ∧ k ≤ m ∧ j ≤ l.length ∧ Hid (OwnLinks wr base (.slice (some ⟨g, 0, none⟩) l.length cap) (shl l k m)) ∧ Hid (w.grownBy wr (some g)))
    (fun _ s6 _ => l.length - (intOf s6).toNat)
  case atStart => exact ⟨k, k + 1, rfl, by go_num, (show Hid _ from rfl), Nat.le_refl _, by omega, by rw [shl_self]; exact HO1, HG1⟩
  case round =>
    obtain ⟨m, j, rfl, rfl, HJ, hkm, hjl, HOr, HGr⟩ := hrel
    have hj1 : j ≤ m + 1 := by have := HJ.out; omega
    have hj2 : m < j := by have := HJ.out; omega
    have HBr : Hid (wr.heap[B]? = some (.cells #[.string s] 9 (0, 0))) := (HGr.out.block _ (Array.getElem?_eq_some_iff.1 HBC.out).1 (by simpa using hne)).trans HBC.out
    have hlen := shl_len l hkm (by omega : m < l.length)
    by_cases hjn : j < l.length
    · have hjni : (j : Int) < (l.length : Int) := by omega
      have hmni : (m : Int) < (l.length : Int) := by omega
      obtain ⟨x, hx⟩ : ∃ x, l[j]? = some x := ⟨_, List.getElem?_eq_getElem hjn⟩
      have hxs : (shl l k m)[j]? = some x := by rw [shl_get l hkm (by omega), if_neg (by omega), if_neg (by omega), hx]
      obtain ⟨c0, c1⟩ := HOr.out.cellAt hxs
      have hxn : decide (x.1 = s) = false := decide_eq_false (by
        have := HU.out j (by omega) hjn
        rw [show l.getD j lk0 = x from by simp [List.getD, hx]] at this
        exact this)
      have HSET : Hid ((shl l k m).set m x = shl l k (m + 1)) := shl_set l hkm (by omega) (by rw [← HJ.out]; exact hx)
      have HJ2 : Hid (j + 1 = m + 1 + 1) := by have := HJ.out; show j + 1 = m + 1 + 1; omega
      clear hx hxs
      go_wp2_with fail
      have HB2 : Hid ((wr.alloc (.cells #[.string x.1, .int .i64 x.2] 63)).heap[wr.heap.size]? = some (.cells #[.string x.1, .int .i64 x.2] 63 (0, 0))) := heap_alloc_new wr _
      have hbA := nwA (nwR wr) (.cells #[.string x.1, .int .i64 x.2] 63)
      have HD1 : Hid (Calls Tryz.prog 118 #[.agg #[.string x.1, .int .i64 x.2], .pointer (some ⟨B, 0, none⟩)] (wr.alloc (.cells #[.string x.1, .int .i64 x.2] 63)) fun e w' => e = .returned (.bool false) ∧ Below (wr.alloc (.cells #[.string x.1, .int .i64 x.2] 63)).heap.size (wr.alloc (.cells #[.string x.1, .int .i64 x.2] 63)) w') := by
        have h := drop1_any x s B (wr.alloc (.cells #[.string x.1, .int .i64 x.2] 63)) (one_cell ((hbA.block _ (Array.getElem?_eq_some_iff.1 HBr.out).1).trans HBr.out)).1
        rw [hxn] at h; exact h
      refine HD1.out.mono ?_
      rintro e w2 ⟨rfl, hb2⟩
      have hbw2 := nwT hbA hb2
      obtain ⟨d0, d1, _⟩ := two_cells ((hb2.block _ (Array.getElem?_eq_some_iff.1 HB2.out).1).trans HB2.out)
      have HO2 : Hid (OwnLinks w2 base (.slice (some ⟨g, 0, none⟩) l.length cap) (shl l k m)) := own_below HOr.out hbw2
      have HG2 : Hid (w.grownBy w2 (some g)) := HGr.out.trans (gbOf hbw2 _)
      obtain ⟨y, hy⟩ : ∃ y, (shl l k m)[m]? = some y := ⟨_, List.getElem?_eq_getElem (by omega)⟩
      obtain ⟨t0, t1⟩ := HO2.out.cellAt hy
      have tf : ∀ o, w2.frozen? ⟨g, o, none⟩ = false := fun o => by have h := HO2.out; unfold OwnLinks at h; rw [hlen] at h; exact h.frozenAt o
      clear c0 c1 hy hxn HD1 HB2
      go_wp2_with fail
      go_roundw
      case rel =>
        refine ⟨m + 1, j + 1, by go_num, by go_num, HJ2, by omega, by omega, ?_, gb_setg (gb_setg HG2.out _) _⟩
        have h := HO2.out
        rw [← hlen] at h
        have h2 := h.setAt x (i := m) (by omega)
        rw [HSET.out, hlen] at h2
        exact h2
      case measure => simp [intOf]; omega
    · have hjni : ¬ (j : Int) < (l.length : Int) := by omega
      have HN : Hid (m + 1 = l.length) := by show _ = _; omega
      obtain ⟨y, hy⟩ : ∃ y, (shl l k m)[m]? = some y := ⟨_, List.getElem?_eq_getElem (by omega)⟩
      obtain ⟨t0, t1⟩ := HOr.out.cellAt hy
      have tf : ∀ o, wr.frozen? ⟨g, o, none⟩ = false := fun o => by have h := HOr.out; unfold OwnLinks at h; rw [hlen] at h; exact h.frozenAt o
      have hsub : l.length - m = 1 := by have := HN.out; omega
      have hcl := fun ty => clear_links wr ty g (m * 2) (cap - m) (by rw [t0]; rfl) (by rw [t1]; rfl) tf
      have HM1 : Hid (l.length - 1 = m) := by have := HN.out; show _ = _; omega
      go_wp2_with fail
      go_ret
      refine ⟨by rw [HM1.out]; rfl, ?_, gb_setg (gb_setg HGr.out _) _⟩
      rw [HM1.out]
      have h := HOr.out
      rw [← hlen] at h
      have h2 := h.setAt (⟨#[]⟩, 0) (i := m) (by omega)
      rw [hlen] at h2
      unfold OwnLinks at h2
      rw [List.length_set, hlen] at h2
      have h3 := own_shrink h2 (m := m) (by omega)
      have e : ((shl l k m).set m ((⟨#[]⟩, 0) : LinkD)).take m = cutL l k := by
        rw [List.take_set_of_le (Nat.le_refl _), shl_take l hkm HN.out]; rfl
      have e2 : (cutL l k).length = m := by rw [← e, List.length_take, List.length_set, hlen]; omega
      unfold OwnLinks
      rw [e2, ← e, lflat_take]
      exact h3

end Go.Proofs.YtdpighcaieajjabGreat
