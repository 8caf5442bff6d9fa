/- Laid together: Roomon, Roomkd, Kind, Refd, Refdd, Refds. -/
import Derived.Test.YtheomnafmjmpdaaRoomN11
import Derived.Deep.QuietTactic
import Derived.BigQuiet
import Derived.Deep.RegionHeld3
/- Acts of given kinds: the law on them, where the law stands for any. -/
namespace Go.Proofs.Ytheomnafmjmpdaa
open Go.RowKit

theorem IntsAt.cell {w : World} {a : Option Addr} {xs : List Int} (h : IntsAt w a xs) {i : Nat} (hi : i < xs.length) : ∃ b o, a = some ⟨b, o, none⟩ ∧ w.cell? ⟨b, o + i, none⟩ = some (.int .i64 (xs.getD i 0)) := h i hi
def kindA (ks : List Int) (i : Nat) (a : ActD) : ActD := ⟨ks.getD (i % ks.length) 0, a.n, a.id, a.ps⟩
def onlyL (ks : List Int) (l : List ActD) : List ActD := l.mapIdx (kindA ks)
theorem onlyL_len (ks : List Int) (l : List ActD) : (onlyL ks l).length = l.length := by simp [onlyL]
theorem onlyL_get (ks : List Int) (l : List ActD) {k : Nat} (hk : k < l.length) : (onlyL ks l).take (k + 1) = (onlyL ks l).take k ++ [kindA ks k (l.getD k act0)] := by
  rw [List.take_succ_eq_append_getElem (by rw [onlyL_len]; exact hk)]
  simp [onlyL, List.getD, hk]
theorem onlyL_loose {ks : List Int} {l : List ActD} (h : LooseA l) : LooseA (onlyL ks l) := by
  refine ⟨by rw [onlyL_len]; exact h.1, fun x hx => ?_⟩
  obtain ⟨i, hi, rfl⟩ := List.getElem_of_mem hx
  rw [onlyL_len] at hi
  have hm := h.2 l[i] (List.getElem_mem hi)
  simp only [onlyL, List.getElem_mapIdx, kindA]
  exact hm
structure AV where
  d : ActD
  fv : Value
def aflat (gs : List AV) : List Value := gs.flatMap fun g => [.int .i64 g.d.act, .int .i64 g.d.n, .int .i64 g.d.id, g.fv]
def ReadA (w : World) (x : AV) : Prop := ∃ a c, x.fv = .slice a x.d.ps.length c ∧ SegsAt w a x.d.ps
theorem ReadA.below {w w' : World} {x : AV} (h : ReadA w x) (hb : Below w.heap.size w w') : ReadA w' x := by
  obtain ⟨a, c, e, hf⟩ := h; exact ⟨a, c, e, hf.below hb (Nat.le_refl _)⟩
theorem aflat_get (gs : List AV) : ∀ i g, gs[i]? = some g → (aflat gs)[i * 4]? = some (.int .i64 g.d.act) ∧ (aflat gs)[i * 4 + 1]? = some (.int .i64 g.d.n) ∧ (aflat gs)[i * 4 + 2]? = some (.int .i64 g.d.id) ∧ (aflat gs)[i * 4 + 3]? = some g.fv := by
  induction gs with
  | nil => intro i g h; simp at h
  | cons x xs ih =>
    intro i g h
    have e : aflat (x :: xs) = .int .i64 x.d.act :: .int .i64 x.d.n :: .int .i64 x.d.id :: x.fv :: aflat xs := by simp [aflat]
    rw [e]
    cases i with
    | zero => simp at h; subst h; simp
    | succ i =>
      have h' : xs[i]? = some g := by simpa using h
      have h2 := ih i g h'
      rw [show (i + 1) * 4 = i * 4 + 1 + 1 + 1 + 1 from by omega]
      simp only [List.getElem?_cons_succ]
      exact h2
theorem aflat_snoc (gs : List AV) (g : AV) : aflat (gs ++ [g]) = aflat gs ++ [.int .i64 g.d.act, .int .i64 g.d.n, .int .i64 g.d.id, g.fv] := by simp [aflat]
def MixA (w : World) (base : Nat) (v : Value) (ls : List ActD) : Prop := ∃ gs : List AV, gs.map AV.d = ls ∧ w.ownsRow base 32 4 v gs.length (aflat gs) ∧ ∀ x ∈ gs, ReadA w x
theorem MixA.at {w : World} {base : Nat} {v : Value} {ls : List ActD} (h : MixA w base v ls) : ∃ a cap, v = .slice a ls.length cap ∧ ActsAt w a ls := by
  obtain ⟨gs, rfl, ho, hg⟩ := h
  have hh := ho
  rw [List.length_map]
  rcases ho.2 with ⟨hv, hn⟩ | ⟨g, cap, cur, hv, hb, _, hnc, _⟩
  · exact ⟨none, 0, by rw [hv, hn], .inl (by rw [List.length_eq_zero_iff.1 hn]; rfl)⟩
  · refine ⟨_, cap, hv, .inr ⟨g, 0, rfl, fun i hi => ?_⟩⟩
    rw [List.length_map] at hi
    obtain ⟨c0, c1, c2, c3⟩ := aflat_get gs i _ (List.getElem?_eq_getElem hi)
    obtain ⟨ab, cb, eb, hib⟩ := hg gs[i] (List.getElem_mem hi)
    have hgd : (gs.map AV.d).getD i act0 = gs[i].d := by simp [List.getD, hi]
    rw [hgd, Nat.zero_add]
    have K : ∀ j u, (aflat gs)[j]? = some u → w.cell? ⟨g, j, none⟩ = some u := fun j u hj => by
      have := hh.cells (g := g) (by rw [hv]; rfl) j u hj
      rwa [addr_add, Nat.zero_add] at this
    rw [eb] at c3
    exact ⟨ab, cb, ⟨K _ _ c0, K _ _ c1, K _ _ c2, K _ _ c3⟩, hib⟩
theorem Try.info32 : (Try.prog.info? 32).map (fun i => (i.zero, i.size, i.bytes)) = some (some (.agg #[.int .i64 0, .int .i64 0, .int .i64 0, .slice none 0 0]), 4, 48) := by kernel_rfl

/-- the same, the places read in a world before -/
def MixB (w0 w : World) (base : Nat) (v : Value) (ls : List ActD) : Prop := ∃ gs : List AV, gs.map AV.d = ls ∧ w.ownsRow base 32 4 v gs.length (aflat gs) ∧ ∀ x ∈ gs, ReadA w0 x
theorem MixB.mixA {w0 w : World} {base : Nat} {v : Value} {ls : List ActD} (h : MixB w0 w base v ls) (hb : Below w0.heap.size w0 w) : MixA w base v ls := by
  obtain ⟨gs, e, ho, hg⟩ := h
  exact ⟨gs, e, ho, fun x hx => (hg x hx).below hb⟩
theorem MixB.below {w0 w w' : World} {base : Nat} {v : Value} {ls : List ActD} (h : MixB w0 w base v ls) (hb : Below w.heap.size w w') : MixB w0 w' base v ls := by
  obtain ⟨gs, e, ho, hg⟩ := h
  exact ⟨gs, e, own_below ho hb, hg⟩
theorem MixB.set {w0 w : World} {base : Nat} {v : Value} {ls : List ActD} (h : MixB w0 w base v ls) {g : Nat} (o : Nat) (hg : g < base) (u : Value) : MixB w0 (w.setCell ⟨g, o, none⟩ u) base v ls := by
  obtain ⟨gs, e, ho, ha⟩ := h
  exact ⟨gs, e, rowset ho o hg u, ha⟩
theorem MixB.snoc {w0 w : World} {base : Nat} {v : Value} {gs : List AV} {g : AV} (hg : ∀ x ∈ gs, ReadA w0 x) (h1 : ReadA w0 g)
    (h : w.ownsRow base 32 4 v (gs.length + 1) (aflat gs ++ [.int .i64 g.d.act, .int .i64 g.d.n, .int .i64 g.d.id, g.fv])) : MixB w0 w base v (gs.map AV.d ++ [g.d]) := by
  refine ⟨gs ++ [g], by simp, ?_, ?_⟩
  · rw [aflat_snoc, List.length_append]; exact h
  · intro x hx
    rcases List.mem_append.1 hx with h2 | h2
    · exact hg x h2
    · simp at h2; subst h2; exact h1
theorem tmodL (k n : Nat) : Int.tmod (k : Int) (n : Int) = ((k % n : Nat) : Int) := by rw [Int.tmod_eq_emod_of_nonneg (by omega)]; omega
theorem two_set {w : World} {g : Nat} {c0 c1 u : Value} {t : TypeId} (h : w.heap[g]? = some (.cells #[c0, c1] t (0, 0))) : (w.setCell ⟨g, 1, none⟩ u).heap[g]? = some (.cells #[c0, u] t (0, 0)) :=
  heap_setCell_same w g 1 _ t u h

set_option maxRecDepth 100000 in
set_option maxHeartbeats 8000000 in
theorem onlyk_any (H : LawOk 3) (v : Value) (ds : List DevD) (l : List ActD) (ak : Option Addr) (ks : List Int) (ck : Nat) (w : World) (hv : ScrVal w v ds l) (hd : LooseL ds) (hl : LooseA l) (hks : IntsAt w ak ks) (hk0 : 0 < ks.length) (hk9 : ks.length ≤ 9) (h48 : l.length * 48 ≤ 140737488355328) :
    Calls Try.prog 18 #[v, .slice ak ks.length ck] w fun e w' => e = .returned (.bool true) ∧ Below w.heap.size w w' := by
  have HH : Hid (LawOk 3) := H
  have HD : Hid (LooseL ds) := hd
  have HLA : Hid (LooseA l) := hl
  have hll := hl.1
  obtain ⟨av, ca, aL, cL, rfl, hV, hL⟩ := hv
  have HV : Hid (DevsAt w av ds ∧ NilOk av ca ds.length) := hV
  have HL : Hid (ActsAt w aL l) := hL
  have HKS : Hid (IntsAt w ak ks) := hks
  obtain ⟨W0, hW0⟩ : ∃ W0, W0 = (w.alloc (.cells #[.slice av ds.length ca, .slice aL l.length cL] 25)).alloc (.cells #[.slice av ds.length ca, .slice none 0 0] 25) := ⟨_, rfl⟩
  have HB0 : Hid (Below w.heap.size w W0) := by rw [hW0]; exact nwA (nwA (nwR w) _) _
  have HS0 : Hid (W0.heap[w.heap.size]? = some (.cells #[.slice av ds.length ca, .slice aL l.length cL] 25 (0, 0))) := by rw [hW0]; exact (Lib.alloc_old _ _ _ (by simp)).trans (heap_alloc_new w _)
  have HQ0 : Hid (W0.heap[w.heap.size + 1]? = some (.cells #[.slice av ds.length ca, .slice none 0 0] 25 (0, 0))) := by rw [hW0]; exact heap_alloc_new2 w _ _
  obtain ⟨i0, hi, hz0, hz1, hz2⟩ := info_parts Try.info32
  clear hV hL hd hl hks H
  go_enter Try.func18, Try.ntmps18
  go_wp2_with fail
  rw [← hW0]
  clear hW0
  obtain ⟨n0, hn0⟩ : ∃ n0, n0 = w.heap.size := ⟨_, rfl⟩
  have HLZ : Hid (∀ wz, Below n0 w wz → ActsAt wz aL l) := fun wz h => HL.out.below (by rw [hn0] at h; exact h)
  have HVZ : Hid (∀ wz, Below n0 w wz → DevsAt wz av ds ∧ NilOk av ca ds.length) := fun wz h => ⟨HV.out.1.below (by rw [hn0] at h; exact h), HV.out.2⟩
  have HKZ : Hid (∀ wz, Below n0 w wz → IntsAt wz ak ks) := fun wz h => HKS.out.below (by rw [hn0] at h; exact h) (Nat.le_refl _)
  have HCE : Hid (∀ k, k < l.length → ∃ b o af cf, aL = some ⟨b, o, none⟩ ∧ SegsAt w af (l.getD k act0).ps ∧ ∀ wz, Below n0 w wz → wz.cell? ⟨b, o + k * 4, none⟩ = some (.int .i64 (l.getD k act0).act) ∧ wz.cell? ⟨b, o + k * 4 + 1, none⟩ = some (.int .i64 (l.getD k act0).n) ∧ wz.cell? ⟨b, o + k * 4 + 2, none⟩ = some (.int .i64 (l.getD k act0).id) ∧ wz.cell? ⟨b, o + k * 4 + 3, none⟩ = some (.slice af (l.getD k act0).ps.length cf)) := fun k hk => by
    obtain ⟨b, o, e, af, cf, ⟨a0, a1, a2, a3⟩, hfd⟩ := HL.out.act hk
    refine ⟨b, o, af, cf, e, hfd, fun wz h => ?_⟩
    rw [hn0] at h
    have hl := block_lt_of_cell a0
    exact ⟨(h.cell (p := ⟨b, o + k * 4, none⟩) hl).trans a0, (h.cell (p := ⟨b, o + k * 4 + 1, none⟩) hl).trans a1, (h.cell (p := ⟨b, o + k * 4 + 2, none⟩) hl).trans a2, (h.cell (p := ⟨b, o + k * 4 + 3, none⟩) hl).trans a3⟩
  have HFIN : Hid (∀ wz, Below n0 w wz → Below w.heap.size w wz) := fun wz h => by rw [hn0] at h; exact h
  rw [← hn0] at HB0 HS0 HQ0 ⊢
  clear hn0 HL HV HKS
  go_loopw [6] (fun i wr => ∃ (k : Nat), k ≤ l.length ∧ i = .int .i64 k ∧ Hid (Below n0 w wr) ∧ wr.heap[n0]? = some (.cells #[.slice av ds.length ca, .slice aL l.length cL] 25 (0, 0)) ∧ ∃ qv, wr.heap[n0 + 1]? = some (.cells #[.slice av ds.length ca, qv] 25 (0, 0)) ∧ Hid (MixB w wr (n0 + 2) qv ((onlyL ks l).take k))) (fun i _ => l.length - (intOf i).toNat)
  case atStart => exact ⟨0, by omega, rfl, HB0, HS0.out, _, HQ0.out, ⟨[], rfl, World.ownsRow_nil _ _ _ _, fun x hx => by simp at hx⟩⟩
  case round =>
    obtain ⟨k, hk, rfl, HBr, hSr, qv, hQr, HOr⟩ := hrel
    have HSr : Hid (wr.heap[n0]? = some (.cells #[.slice av ds.length ca, .slice aL l.length cL] 25 (0, 0))) := hSr
    have HQr : Hid (wr.heap[n0 + 1]? = some (.cells #[.slice av ds.length ca, qv] 25 (0, 0))) := hQr
    clear hSr hQr
    obtain ⟨x0, x1, _⟩ := two HSr.out
    by_cases hkl : k < l.length
    case neg =>
      have hkli : ¬ (k : Int) < (l.length : Int) := by omega
      have HOE : Hid (MixA wr (n0 + 2) qv (onlyL ks l)) := by have h := HOr.out.mixA (HFIN.out _ HBr.out); rw [List.take_of_length_le (by rw [onlyL_len]; omega)] at h; exact h
      obtain ⟨aq, cq, rfl, hq1⟩ := HOE.out.at
      have HEX : Hid (Calls Try.prog 3 #[.agg #[.slice av ds.length ca, .slice aq (onlyL ks l).length cq]] wr fun e w' => e = .returned (.bool true) ∧ Below wr.heap.size wr w') :=
        HH.out _ ds (onlyL ks l) wr ⟨_, _, _, _, rfl, HVZ.out _ HBr.out, hq1⟩ HD.out (onlyL_loose HLA.out)
      obtain ⟨y0, y1, _⟩ := two HQr.out
      have hn0l := (Array.getElem?_eq_some_iff.1 HSr.out).1
      clear hq1 HOr
      go_wp2_with fail
      refine HEX.out.mono ?_
      rintro e wz ⟨rfl, hbz⟩
      go_wp2_with fail
      go_ret
      exact ⟨rfl, HFIN.out _ (HBr.out.trans (hbz.mono (Nat.le_of_lt hn0l)))⟩
    case pos =>
    have hkli : (k : Int) < (l.length : Int) := by omega
    have hk0i : (0 : Int) ≤ (k : Int) := by omega
    obtain ⟨b1, o1, af, cf, rfl, hfc, hce⟩ := HCE.out k hkl
    obtain ⟨a0, a1, a2, a3⟩ := hce _ HBr.out
    clear hce
    have HTK : Hid ((onlyL ks l).take (k + 1) = (onlyL ks l).take k ++ [kindA ks k (l.getD k act0)]) := onlyL_get ks l hkl
    obtain ⟨m, hmd⟩ : ∃ m, m = k % ks.length := ⟨_, rfl⟩
    have hm : m < ks.length := by rw [hmd]; exact Nat.mod_lt _ hk0
    have em : Int.tmod (k : Int) (ks.length : Int) = (m : Int) := by rw [hmd]; exact tmodL k ks.length
    obtain ⟨bk, ok, rfl, hkc⟩ := (HKZ.out _ HBr.out).cell hm
    obtain ⟨kd, hkd⟩ : ∃ kd, kd = ks.getD m 0 := ⟨_, rfl⟩
    have HKA : Hid (∀ A : ActD, kindA ks k A = ⟨kd, A.n, A.id, A.ps⟩) := fun A => by unfold kindA; rw [hkd, hmd]
    clear hmd
    rw [← hkd] at hkc
    clear hkd
    generalize l.getD k act0 = A at a0 a1 a2 a3 hfc HTK
    obtain ⟨aact, an, aid, ps⟩ := A
    simp only at a0 a1 a2 a3 hfc
    rw [HKA.out] at HTK
    have HFD : Hid (SegsAt w af ps) := hfc
    clear hfc HKA
    have hmi : (m : Int) < (ks.length : Int) := by omega
    have hmi0 : (0 : Int) ≤ (m : Int) := by omega
    have hnz : ¬ (ks.length : Int) = 0 := by omega
    have hnz2 : ¬ ks.length = 0 := by omega
    have hnil : ¬ ks = [] := fun h => by rw [h] at hnz2; exact hnz2 rfl
    have hkc2 : (wr.alloc (.cells #[.int .i64 aact, .int .i64 an, .int .i64 aid, .slice af ps.length cf] 32)).cell? ⟨bk, ok + m, none⟩ = some (.int .i64 kd) := ((nwA (nwR wr) _).cell (p := ⟨bk, ok + m, none⟩) (block_lt_of_cell hkc)).trans hkc
    go_upto_region 7 with fail
    have HBA : Hid (Below wr.heap.size wr (wr.alloc (.cells #[.int .i64 kd, .int .i64 an, .int .i64 aid, .slice af ps.length cf] 32))) := nwA (nwR wr) _
    have HQA : Hid ((wr.alloc (.cells #[.int .i64 kd, .int .i64 an, .int .i64 aid, .slice af ps.length cf] 32)).heap[n0 + 1]? = some (.cells #[.slice av ds.length ca, qv] 25 (0, 0))) := (HBA.out.block _ (Array.getElem?_eq_some_iff.1 HQr.out).1).trans HQr.out
    have HSA : Hid ((wr.alloc (.cells #[.int .i64 kd, .int .i64 an, .int .i64 aid, .slice af ps.length cf] 32)).heap[n0]? = some (.cells #[.slice av ds.length ca, .slice (some ⟨b1, o1, none⟩) l.length cL] 25 (0, 0))) := (HBA.out.block _ (Array.getElem?_eq_some_iff.1 HSr.out).1).trans HSr.out
    have HOA : Hid (MixB w (wr.alloc (.cells #[.int .i64 kd, .int .i64 an, .int .i64 aid, .slice af ps.length cf] 32)) (n0 + 2) qv ((onlyL ks l).take k)) := HOr.out.below HBA.out
    have HLT : Hid (n0 + 1 < wr.heap.size) := (Array.getElem?_eq_some_iff.1 HQr.out).1
    have HC : Hid ((wr.alloc (.cells #[.int .i64 kd, .int .i64 an, .int .i64 aid, .slice af ps.length cf] 32)).heap[wr.heap.size]? = some (.cells #[.int .i64 kd, .int .i64 an, .int .i64 aid, .slice af ps.length cf] 32 (0, 0))) := heap_alloc_new wr _
    have HBA2 : Hid (Below n0 w (wr.alloc (.cells #[.int .i64 kd, .int .i64 an, .int .i64 aid, .slice af ps.length cf] 32))) := HBr.out.trans (HBA.out.mono (by have := HLT.out; omega))
    have HSZ : Hid ((wr.alloc (.cells #[.int .i64 kd, .int .i64 an, .int .i64 aid, .slice af ps.length cf] 32)).heap.size = wr.heap.size + 1) := by show _ = _; simp
    clear x0 x1 a0 a1 a2 a3 hkc hkc2 HBA HOr HSr HQr HBr em hmi hmi0 hnz hnz2 hnil
    generalize wr.alloc (.cells #[.int .i64 kd, .int .i64 an, .int .i64 aid, .slice af ps.length cf] 32) = W1 at HQA HSA HOA HC HBA2 HSZ ⊢
    generalize hgw : wr.heap.size = gA at HC HLT HSZ ⊢
    clear hgw
    obtain ⟨c0, c1, c2, c3, _⟩ := four HC.out
    obtain ⟨y0, y1, _⟩ := two HQA.out
    have hgl0 : ((onlyL ks l).take k).length = k := by rw [List.length_take, onlyL_len]; omega
    obtain ⟨aq, cq, rfl, _⟩ := id (HOA.out.mixA (HFIN.out _ HBA2.out)).at
    obtain ⟨gs, hgs, hown0, hall⟩ := HOA.out
    have hgl : gs.length = k := by have := congrArg List.length hgs; rw [List.length_map, hgl0] at this; exact this
    have HOW : Hid (W1.ownsRow (n0 + 2) 32 4 (.slice aq k cq) k (aflat gs)) := by have h := hown0; rw [hgl, hgl0] at h; exact h
    have HGS : Hid (gs.map AV.d = (onlyL ks l).take k) := hgs
    have HALL : Hid (∀ x ∈ gs, ReadA w x) := hall
    have HGL : Hid (gs.length = k) := hgl
    rw [hgl0] at HQA y1
    clear hgs hown0 hall hgl
    have hc3 : k + 1 ≤ maxLen := by unfold maxLen; omega
    have hc4 : (k + 1) * 48 ≤ 140737488355328 := by omega
    have hsz : n0 + 2 ≤ (W1.alloc (.cells #[.int .i64 kd, .int .i64 an, .int .i64 aid, .slice af ps.length cf] 32)).heap.size := by have h1 := (nwA (nwR W1) (.cells #[.int .i64 kd, .int .i64 an, .int .i64 aid, .slice af ps.length cf] 32)).size; have h2 := HSZ.out; have h3 := HLT.out; omega
    go_wp2_with (at_builtin; refine wpList_append_own _ rfl (.tmp 32) (.tmp 34) 23 rfl (n0 + 2) 32 i0 (.agg #[.int .i64 0, .int .i64 0, .int .i64 0, .slice none 0 0]) 4 48 Try.underlying23 hi hz0 hz1 hz2 rfl (by decide) (.slice aq k cq) k (aflat gs) rfl (World.ownsRow.alloc HOW.out _) ⟨W1.heap.size, 0, none⟩ 1 1 [.int .i64 kd, .int .i64 an, .int .i64 aid, .slice af ps.length cf] rfl rfl (cells4 _ _ _ _ _ _) (by simp [Value.oneCell']) hc3 hc4 hsz ?_; intro v' w3 hown hgrow _; refine unstop ?_)
    unfold Stop
    have hw1 : n0 + 2 ≤ W1.heap.size := by have h2 := HSZ.out; have h3 := HLT.out; omega
    have hbx : Below (n0 + 2) W1 (W1.alloc (.cells #[.int .i64 kd, .int .i64 an, .int .i64 aid, .slice af ps.length cf] 32)) := (Below.refl (n0 + 2) W1).alloc hw1 _
    have hb13 : Below (n0 + 2) W1 w3 := hbx.grown hgrow hsz (fun q e => (HOW.out.lt q e).1)
    have HB3 : Hid (Below n0 w w3) := HBA2.out.trans (hb13.mono (by omega))
    have HG3 : Hid (MixB w w3 (n0 + 2) v' ((onlyL ks l).take (k + 1))) := by
      rw [HTK.out, ← HGS.out]
      exact MixB.snoc (g := ⟨⟨kd, an, aid, ps⟩, .slice af ps.length cf⟩) HALL.out ⟨af, cf, rfl, HFD.out⟩ (by rw [HGL.out]; exact hown)
    obtain ⟨a9, c9, rfl, _⟩ := id (HG3.out.mixA (HFIN.out _ HB3.out)).at
    have hgl2 : ((onlyL ks l).take (k + 1)).length = k + 1 := by rw [List.length_take, onlyL_len]; omega
    rw [hgl2] at HG3
    have HS3 : Hid (w3.heap[n0]? = some (.cells #[.slice av ds.length ca, .slice (some ⟨b1, o1, none⟩) l.length cL] 25 (0, 0))) := (hb13.block _ (by omega)).trans HSA.out
    have HQ3 : Hid (w3.heap[n0 + 1]? = some (.cells #[.slice av ds.length ca, .slice aq k cq] 25 (0, 0))) := (hb13.block _ (by omega)).trans HQA.out
    clear hown hgrow hb13 hbx y0 y1 c0 c1 c2 c3 hsz HOW HOA HQA HSA
    obtain ⟨y0, y1, _⟩ := two HQ3.out
    have yf : ∀ o, w3.frozen? ⟨n0 + 1, o, none⟩ = false := fun o => Lib.frozen_of_heap HQ3.out o
    go_wp2_with fail
    go_roundw
    case rel =>
      refine ⟨k + 1, by omega, by go_num, HB3.out.setCell (p := ⟨n0 + 1, 1, none⟩) (by show n0 ≤ n0 + 1; omega) _, ?_, _, two_set HQ3.out, ?_⟩
      · rw [heap_setCell_other _ ⟨n0 + 1, 1, none⟩ _ _ (by show n0 ≠ n0 + 1; omega)]; exact HS3.out
      · exact HG3.out.set 1 (by omega) _
    case measure => simp [intOf]; omega

end Go.Proofs.Ytheomnafmjmpdaa

/- The laws of some kinds, where the law stands for any. -/
namespace Go.Proofs.Ytheomnafmjmpdaa
open Go.RowKit

def LawOk48 (F : Nat) : Prop := ∀ (v : Value) (ds : List DevD) (l : List ActD) (w : World), ScrVal w v ds l → LooseL ds → LooseA l → l.length * 48 ≤ 140737488355328 → Calls Try.prog F #[v] w fun e w' => e = .returned (.bool true) ∧ Below w.heap.size w w'
theorem ints_lit (w : World) (ks : List Int) : IntsAt (w.alloc (.cells (ks.map (fun k => Value.int .i64 k)).toArray 3)) (some ⟨w.heap.size, 0, none⟩) ks := by
  refine fun i hi => ⟨w.heap.size, 0, rfl, ?_⟩
  rw [Lib.cell_of_heap (heap_alloc_new w _)]
  simp [List.getD, hi]

set_option maxRecDepth 100000 in
set_option maxHeartbeats 1000000 in
theorem takes_of (H : LawOk 3) : LawOk48 5 := by
  intro v ds l w hv hd hl h48
  have HV : Hid (ScrVal w v ds l) := hv
  have HD : Hid (LooseL ds) := hd
  have HLA : Hid (LooseA l) := hl
  have HH : Hid (LawOk 3) := H
  obtain ⟨av, ca, aL, cL, rfl, _, _⟩ := hv
  clear hd hl H
  go_enter Try.func5, Try.ntmps5
  go_wp2_with fail
  have HB1 : Hid (Below w.heap.size w (w.alloc (.cells #[.slice av ds.length ca, .slice aL l.length cL] 25))) := nwA (nwR w) _
  have HB2 : Hid (Below w.heap.size w ((w.alloc (.cells #[.slice av ds.length ca, .slice aL l.length cL] 25)).alloc (.cells #[.int .i64 0, .int .i64 0, .int .i64 4] 3))) := nwA HB1.out _
  have hi := ints_lit (w.alloc (.cells #[.slice av ds.length ca, .slice aL l.length cL] 25)) [0, 0, 4]
  have hsz : (w.alloc (.cells #[.slice av ds.length ca, .slice aL l.length cL] 25)).heap.size = w.heap.size + 1 := by simp
  rw [hsz] at hi
  have HC : Hid (Calls Try.prog 18 #[.agg #[.slice av ds.length ca, .slice aL l.length cL], .slice (some ⟨w.heap.size + 1, 0, none⟩) 3 3] ((w.alloc (.cells #[.slice av ds.length ca, .slice aL l.length cL] 25)).alloc (.cells #[.int .i64 0, .int .i64 0, .int .i64 4] 3)) fun e w' => e = .returned (.bool true) ∧ Below ((w.alloc (.cells #[.slice av ds.length ca, .slice aL l.length cL] 25)).alloc (.cells #[.int .i64 0, .int .i64 0, .int .i64 4] 3)).heap.size ((w.alloc (.cells #[.slice av ds.length ca, .slice aL l.length cL] 25)).alloc (.cells #[.int .i64 0, .int .i64 0, .int .i64 4] 3)) w') :=
    onlyk_any HH.out _ ds l (some ⟨w.heap.size + 1, 0, none⟩) [0, 0, 4] 3 _ (HV.out.below HB2.out) HD.out HLA.out hi (by simp) (by simp) h48
  clear hi hsz h48
  refine HC.out.mono ?_
  rintro e w1 ⟨rfl, hb1⟩
  have HB3 : Hid (Below w.heap.size w w1) := nwT HB2.out hb1
  clear hb1 HB1 HB2 HC
  go_wp2_with fail
  go_ret
  exact ⟨rfl, HB3.out⟩

set_option maxRecDepth 100000 in
set_option maxHeartbeats 1000000 in
theorem gives_of (H : LawOk 3) : LawOk48 6 := by
  intro v ds l w hv hd hl h48
  have HV : Hid (ScrVal w v ds l) := hv
  have HD : Hid (LooseL ds) := hd
  have HLA : Hid (LooseA l) := hl
  have HH : Hid (LawOk 3) := H
  obtain ⟨av, ca, aL, cL, rfl, _, _⟩ := hv
  clear hd hl H
  go_enter Try.func6, Try.ntmps6
  go_wp2_with fail
  have HB1 : Hid (Below w.heap.size w (w.alloc (.cells #[.slice av ds.length ca, .slice aL l.length cL] 25))) := nwA (nwR w) _
  have HB2 : Hid (Below w.heap.size w ((w.alloc (.cells #[.slice av ds.length ca, .slice aL l.length cL] 25)).alloc (.cells #[.int .i64 2, .int .i64 0, .int .i64 2, .int .i64 4] 3))) := nwA HB1.out _
  have hi := ints_lit (w.alloc (.cells #[.slice av ds.length ca, .slice aL l.length cL] 25)) [2, 0, 2, 4]
  have hsz : (w.alloc (.cells #[.slice av ds.length ca, .slice aL l.length cL] 25)).heap.size = w.heap.size + 1 := by simp
  rw [hsz] at hi
  have HC : Hid (Calls Try.prog 18 #[.agg #[.slice av ds.length ca, .slice aL l.length cL], .slice (some ⟨w.heap.size + 1, 0, none⟩) 4 4] ((w.alloc (.cells #[.slice av ds.length ca, .slice aL l.length cL] 25)).alloc (.cells #[.int .i64 2, .int .i64 0, .int .i64 2, .int .i64 4] 3)) fun e w' => e = .returned (.bool true) ∧ Below ((w.alloc (.cells #[.slice av ds.length ca, .slice aL l.length cL] 25)).alloc (.cells #[.int .i64 2, .int .i64 0, .int .i64 2, .int .i64 4] 3)).heap.size ((w.alloc (.cells #[.slice av ds.length ca, .slice aL l.length cL] 25)).alloc (.cells #[.int .i64 2, .int .i64 0, .int .i64 2, .int .i64 4] 3)) w') :=
    onlyk_any HH.out _ ds l (some ⟨w.heap.size + 1, 0, none⟩) [2, 0, 2, 4] 4 _ (HV.out.below HB2.out) HD.out HLA.out hi (by simp) (by simp) h48
  clear hi hsz h48
  refine HC.out.mono ?_
  rintro e w1 ⟨rfl, hb1⟩
  have HB3 : Hid (Below w.heap.size w w1) := nwT HB2.out hb1
  clear hb1 HB1 HB2 HC
  go_wp2_with fail
  go_ret
  exact ⟨rfl, HB3.out⟩

end Go.Proofs.Ytheomnafmjmpdaa

/- A region that draws its order, whose operations read what was there, and whose callees make memory: walked once. -/
namespace Go.Proofs.Ytheomnafmjmpdaa
open Go.RowKit

structure Kin (w : World) where
  u : World
  h : Below w.heap.size w u
instance (w : World) : Inhabited (Kin w) := ⟨⟨w, nwR w⟩⟩
theorem wp_region_kin {P : Program} {id : Nat} {Q : Exit → Act → World → Prop} {a : Act} {w : World} {l : List Oper} (hm : P.follows .mixedOrders = true) (hB : Region.lexB .any l.toArray = true)
    (h : wpQuiet P l.toArray (fun w' => ∃ p : Kin w, w' = p.u) (fun a' => ∀ w', (∃ p : Kin w, w' = p.u) → Q .normal a' w') l a) : (Code.region id l.toArray true).wp P Q a w :=
  wp_region_quiet (C := fun w' => ∃ p : Kin w, w' = p.u) hm hB ⟨⟨_, Below.drew (nwR w)⟩, rfl⟩ (by simpa using h)
theorem Calls.kin_of {P : Program} {f : FuncId} {args : Array Value} {w : World} {p : Kin w} {v : Value}
    (h : Calls P f args p.u fun e w' => e = .returned v ∧ Below p.u.heap.size p.u w') : Calls P f args p.u fun e w'' => e = .returned v ∧ ∃ p' : Kin w, w'' = p'.u :=
  h.mono fun _ _ ⟨he, hb⟩ => ⟨he, ⟨_, nwT p.h hb⟩, rfl⟩
theorem Calls.kin_same {P : Program} {f : FuncId} {args : Array Value} {w : World} {p : Kin w} {v : Value}
    (h : Calls P f args p.u fun e w' => e = .returned v ∧ w' = p.u) : Calls P f args p.u fun e w'' => e = .returned v ∧ ∃ p' : Kin w, w'' = p'.u :=
  h.mono fun _ _ ⟨he, hb⟩ => ⟨he, p, hb⟩
theorem kcell {w : World} {b o : Nat} {v : Value} (h : w.cell? ⟨b, o, none⟩ = some v) (p : Kin w) : p.u.cell? ⟨b, o, none⟩ = some v := (p.h.cell (p := ⟨b, o, none⟩) (block_lt_of_cell h)).trans h
theorem bool_of (p : Prop) : ∃ b : Bool, b = true ↔ p := by
  by_cases h : p
  · exact ⟨true, by simp [h]⟩
  · exact ⟨false, by simp [h]⟩

end Go.Proofs.Ytheomnafmjmpdaa

/- The page's: which device, how much is free, how much is used. -/
namespace Go.Proofs.Ytheomnafmjmpdaa
open Go.RowKit

def atZ (ds : List DevD) (id : Int) : Int := match atD ds id with | some k => (k : Int) | none => -1
theorem atZ_some {ds : List DevD} {id : Int} {k : Nat} (h : atD ds id = some k) : atZ ds id = k := by unfold atZ; rw [h]
theorem atZ_none {ds : List DevD} {id : Int} (h : atD ds id = none) : atZ ds id = -1 := by unfold atZ; rw [h]
set_option maxRecDepth 100000 in
set_option maxHeartbeats 1000000 in
theorem rat_any (a : Option Addr) (ds : List DevD) (ca : Nat) (id : Int) (w : World) (hd : DevsAt w a ds) (hl : ds.length ≤ 1000) :
    Calls Try.prog 30 #[.slice a ds.length ca, .int .i64 id] w fun e w' => e = .returned (.int .i64 (atZ ds id)) ∧ Below w.heap.size w w' := by
  have HD : Hid (∀ w', Below w.heap.size w w' → DevsAt w' a ds) := fun w' h => hd.below h
  clear hd
  go_enter Try.func30, Try.ntmps30
  go_wp2_with fail
  go_loopw [5] (fun i wr => ∃ (k : Nat), k ≤ ds.length ∧ i = .int .i64 k ∧ Below w.heap.size w wr ∧ Hid (∀ j, j < k → ((ds.getD j DZ).id == id) = false))
    (fun i _ => ds.length - (intOf i).toNat)
  case atStart => exact ⟨0, by omega, rfl, nwR w, fun j hj => by omega⟩
  case round =>
    obtain ⟨k, hk, rfl, hb, HE⟩ := hrel
    by_cases hlt : k < ds.length
    · have hlti : (k : Int) < (ds.length : Int) := by omega
      obtain ⟨b1, o1, rfl, hdi⟩ := (HD.out wr hb).dev hlt
      obtain ⟨_, _, _, _, ⟨c0, _⟩, _⟩ := hdi
      by_cases he : (ds.getD k DZ).id = id
      · have HZ : Hid (atZ ds id = k) := atZ_some (find_yes DZ hlt (by simpa using he) (fun j hj => HE.out j hj))
        rw [he] at c0
        go_wp2_with fail
        go_ret
        exact ⟨by rw [HZ.out]; rfl, hb⟩
      · have HK : Hid (∀ j, j < k + 1 → ((ds.getD j DZ).id == id) = false) := fun j hj => by
          by_cases e : j = k
          · subst e; simpa using he
          · exact HE.out j (by omega)
        have hef : ((ds.getD k DZ).id == id) = false := by simpa using he
        generalize (ds.getD k DZ).id = did at c0 hef
        clear he
        go_wp2_with fail
        go_roundw
        case rel => exact ⟨k + 1, by omega, by go_num, hb, HK⟩
        case measure => simp [intOf]; omega
    · have hlti : ¬ (k : Int) < (ds.length : Int) := by omega
      have HZ : Hid (atZ ds id = -1) := atZ_none (find_no DZ (fun j hj => HE.out j (by omega)))
      go_wp2_with fail
      go_ret
      exact ⟨by rw [HZ.out]; rfl, hb⟩

theorem restK_snoc (ds : List DevD) (id : Int) (k : Nat) : restK ds id (List.range (k + 1)) = restK ds id (List.range k) ++ (if (ds.getD k DZ).id = id then [] else [k]) := by
  unfold restK
  rw [List.range_succ, List.filter_append]
  congr 1
  simp only [List.filter_cons, List.filter_nil, isN]
  by_cases h : (ds.getD k DZ).id = id
  · simp only [h, beq_self_eq_true, Bool.not_true, if_true, Bool.false_eq_true, if_false]
  · have : ((ds.getD k DZ).id == id) = false := by simpa using h
    simp only [this, Bool.not_false, if_true, if_neg h]
set_option maxRecDepth 100000 in
set_option maxHeartbeats 2000000 in
theorem rcount_any (a : Option Addr) (ds : List DevD) (ca : Nat) (id : Int) (w : World) (hd : DevsAt w a ds) (hok : DevsOk ds) :
    Calls Try.prog 28 #[.slice a ds.length ca, .int .i64 id] w fun e w' => e = .returned (.int .i64 (cntN ds id)) ∧ Below w.heap.size w w' := by
  have HD : Hid (∀ w', Below w.heap.size w w' → DevsAt w' a ds) := fun w' h => hd.below h
  have HOK : Hid (DevsOk ds) := hok
  have hl := hok.1
  clear hd hok
  go_enter Try.func28, Try.ntmps28
  go_wp2_with fail
  go_loopw [5, 6] (fun n i wr => ∃ (k : Nat) (c : Int), k ≤ ds.length ∧ i = .int .i64 k ∧ n = .int .i64 c ∧ Hid (c = cntK ds (restK ds id (List.range k))) ∧ Below w.heap.size w wr)
    (fun _ i _ => ds.length - (intOf i).toNat)
  case atStart => exact ⟨0, 0, by omega, rfl, rfl, rfl, nwR w⟩
  case round =>
    obtain ⟨k, c, hk, rfl, rfl, HC, hb⟩ := hrel
    by_cases hlt : k < ds.length
    · have hlti : (k : Int) < (ds.length : Int) := by omega
      obtain ⟨b1, o1, rfl, hdi⟩ := (HD.out wr hb).dev hlt
      obtain ⟨af, cf, al, cl, ⟨c0, c1, c2, c3⟩, hf, _⟩ := hdi
      have HOD := (HOK.out.2 k hlt).2
      have hbd : 0 ≤ c ∧ c ≤ 384 := by
        have := cntK_bd HOK.out.allV (restK ds id (List.range k)) (fun j hj => by have := List.mem_range.1 (List.mem_filter.1 hj).1; omega)
        have h2 := restK_len ds id (List.range k)
        rw [List.length_range] at h2
        rw [HC.out]; omega
      have hcb := cnt_bd HOD.free
      have HSN : Hid (restK ds id (List.range (k + 1)) = restK ds id (List.range k) ++ (if (ds.getD k DZ).id = id then [] else [k])) := restK_snoc ds id k
      by_cases he : (ds.getD k DZ).id = id
      · have HC2 : Hid (c = cntK ds (restK ds id (List.range (k + 1)))) := by
          show _ = _
          rw [HSN.out, if_pos he, List.append_nil]; exact HC.out
        rw [he] at c0
        clear HOD hf he
        go_wp2_with fail
        go_roundw
        case rel => exact ⟨k + 1, c, by omega, by go_num, rfl, HC2, hb⟩
        case measure => simp [intOf]; omega
      · have HC2 : Hid (c + cntOf (ds.getD k DZ).free = cntK ds (restK ds id (List.range (k + 1)))) := by
          show _ = _
          rw [HSN.out, if_neg he, cntK_snoc, ← HC.out]
        have hef : ((ds.getD k DZ).id != id) = true := by simpa using he
        have HCC : Hid (Calls Try.prog 48 #[.slice af (ds.getD k DZ).free.length cf] wr fun e w' => e = .returned (.int .i64 (cntOf (ds.getD k DZ).free)) ∧ Below wr.heap.size wr w') := by
          have := refCount_any af (ds.getD k DZ).free cf wr hf.1 HOD.small.1 HOD.free
          rwa [show cntOf (ds.getD k DZ).free = sumLen (ds.getD k DZ).free from if_pos HOD.free]
        generalize cntOf (ds.getD k DZ).free = m at hcb HC2 HCC
        generalize (ds.getD k DZ).id = did at c0 hef
        generalize (ds.getD k DZ).free = fr at c2 HCC
        clear HOD hf he c3 HC
        go_wp2_with fail
        refine HCC.out.mono ?_
        rintro e w2 ⟨rfl, hb2⟩
        have hbq := nwT hb hb2
        clear hb2 c0 c1 c2 HCC
        go_wp2_with fail
        go_roundw
        case rel => exact ⟨k + 1, c + m, by omega, by go_num, by go_num, HC2, hbq⟩
        case measure => simp [intOf]; omega
    · have hlti : ¬ (k : Int) < (ds.length : Int) := by omega
      have HZ : Hid (c = cntN ds id) := by
        show _ = _
        rw [HC.out, show k = ds.length from by omega]; rfl
      clear HC
      go_wp2_with fail
      go_ret
      exact ⟨by rw [HZ.out]; rfl, hb⟩

set_option maxRecDepth 100000 in
set_option maxHeartbeats 2000000 in
theorem rused_any (v : Value) (d : DevD) (w : World) (hv : DevVal w v d) (hok : DevOk d) :
    Calls Try.prog 31 #[v] w fun e w' => e = .returned (.int .i64 (usedD d)) ∧ Below w.heap.size w w' := by
  obtain ⟨af, cf, al, cl, rfl, hf, hl⟩ := hv
  obtain ⟨W0, hW0⟩ : ∃ W0, W0 = w.alloc (.cells #[.int .i64 d.id, .int .i64 d.size, .slice af d.free.length cf, .slice al d.late.length cl] 51) := ⟨_, rfl⟩
  have HB : Hid (Below w.heap.size w W0) := by rw [hW0]; exact nwA (nwR w) _
  have hx : W0.heap[w.heap.size]? = some (.cells #[.int .i64 d.id, .int .i64 d.size, .slice af d.free.length cf, .slice al d.late.length cl] 51 (0, 0)) := by rw [hW0]; exact heap_alloc_new w _
  have HX : Hid (∀ w', Below W0.heap.size W0 w' → w'.heap[w.heap.size]? = some (.cells #[.int .i64 d.id, .int .i64 d.size, .slice af d.free.length cf, .slice al d.late.length cl] 51 (0, 0))) := fun w' h => (h.block _ (Array.getElem?_eq_some_iff.1 hx).1).trans hx
  have HF : Hid (∀ w', Below W0.heap.size W0 w' → Calls Try.prog 48 #[.slice af d.free.length cf] w' fun e w'' => e = .returned (.int .i64 (cntOf d.free)) ∧ Below w'.heap.size w' w'') := fun w' h => by
    have := refCount_any af d.free cf w' (hf.below (nwT HB.out h)).1 hok.small.1 hok.free
    rwa [show cntOf d.free = sumLen d.free from if_pos hok.free]
  have HL : Hid (∀ w', Below W0.heap.size W0 w' → Calls Try.prog 48 #[.slice al d.late.length cl] w' fun e w'' => e = .returned (.int .i64 (cntOf d.late)) ∧ Below w'.heap.size w' w'') := fun w' h => by
    have := refCount_any al d.late cl w' (hl.below (nwT HB.out h)).1 hok.small.2 hok.late
    rwa [show cntOf d.late = sumLen d.late from if_pos hok.late]
  have hb1 := cnt_bd hok.free
  have hb2 := cnt_bd hok.late
  have h1 := hok.sz0
  have h2 := hok.sz1
  have HU : Hid (usedD d = d.size - cntOf d.free - cntOf d.late) := rfl
  have e1 : IntKind.i64.wrap (d.size - cntOf d.free) = d.size - cntOf d.free := wrap_any (by omega) (by omega)
  have e2 : IntKind.i64.wrap (d.size - cntOf d.free - cntOf d.late) = d.size - cntOf d.free - cntOf d.late := wrap_any (by omega) (by omega)
  have q1 : ∀ w', Below W0.heap.size W0 w' → w'.cell? ⟨w.heap.size, 1, none⟩ = some (.int .i64 d.size) := fun w' h => (four (HX.out w' h)).2.1
  have q2 : ∀ w', Below W0.heap.size W0 w' → w'.cell? ⟨w.heap.size, 2, none⟩ = some (.slice af d.free.length cf) := fun w' h => (four (HX.out w' h)).2.2.1
  have q3 : ∀ w', Below W0.heap.size W0 w' → w'.cell? ⟨w.heap.size, 3, none⟩ = some (.slice al d.late.length cl) := fun w' h => (four (HX.out w' h)).2.2.2.1
  have hS := nwR W0
  generalize cntOf d.free = cfr at HF e1 e2 HU
  generalize cntOf d.late = cla at HL e2 HU
  clear hok hf hl hx hb1 hb2
  go_enter Try.func31, Try.ntmps31
  go_wp2_with fail
  rw [← hW0]
  clear hW0
  go_region_held3 (fun w' => Below W0.heap.size W0 w') (first | assumption | exact Below.drew (by assumption) | exact nwT (by assumption) (by assumption)) (first
    | (go_at_call_of 48 (Value.slice af d.free.length cf); refine (HF.out _ (by first | assumption | exact Below.drew (by assumption))).mono ?_; rintro e wC ⟨rfl, hbC⟩)
    | (go_at_call_of 48 (Value.slice al d.late.length cl); refine (HL.out _ (by first | assumption | exact Below.drew (by assumption))).mono ?_; rintro e wD ⟨rfl, hbD⟩)
    | fail)
  all_goals
    have hq : Below W0.heap.size W0 ‹World› := by assumption
    have HQ : Hid (Below w.heap.size w ‹World›) := nwT HB.out hq
    go_wp2_with fail
    go_ret
    exact ⟨by rw [HU.out]; rfl, HQ.out⟩

end Go.Proofs.Ytheomnafmjmpdaa

/- The page's: whether devices may be. -/
namespace Go.Proofs.Ytheomnafmjmpdaa
open Go.RowKit

def betB (x lo hi : Int) : Bool := decide (lo ≤ x) && decide (x ≤ hi)
set_option maxRecDepth 100000 in
set_option maxHeartbeats 400000 in
theorem between_any (x lo hi : Int) (w : World) : Calls Try.prog 71 #[.int .i64 x, .int .i64 lo, .int .i64 hi] w fun e w' => e = .returned (.bool (betB x lo hi)) ∧ w' = w := by
  unfold betB
  by_cases c1 : lo ≤ x
  · go_enter Try.func71, Try.ntmps71
    go_wp2
    go_ret
    exact ⟨by simp [c1], rfl⟩
  · go_enter Try.func71, Try.ntmps71
    go_wp2
    go_ret
    exact ⟨by simp; omega, rfl⟩
theorem between_is (x lo hi : Int) (b : Bool) (w : World) (h : betB x lo hi = b) : Calls Try.prog 71 #[.int .i64 x, .int .i64 lo, .int .i64 hi] w fun e w' => e = .returned (.bool b) ∧ w' = w := by
  subst h; exact between_any x lo hi w

theorem bet_iff (x lo hi : Int) : betB x lo hi = true ↔ lo ≤ x ∧ x ≤ hi := by unfold betB; simp
theorem devOk_iff (d : DevD) : DevOk d ↔ (betB d.id 1 40 = true ∧ betB d.size 1 64 = true ∧ vOk d.free = true ∧ vOk d.late = true ∧ endL d.free ≤ d.size ∧ endL d.late ≤ d.size ∧ (segsOf fun k => memS d.free k && memS d.late k).length = 0) := by
  rw [bet_iff, bet_iff]
  constructor
  · rintro ⟨h1, h2, h3, h4, h5, h6, h7, h8, h9⟩
    exact ⟨⟨h1, h2⟩, ⟨h3, h4⟩, h5, h6, h7, h8, h9⟩
  · rintro ⟨⟨h1, h2⟩, ⟨h3, h4⟩, h5, h6, h7, h8, h9⟩
    exact ⟨h1, h2, h3, h4, h5, h6, h7, h8, h9⟩

set_option maxRecDepth 100000 in
set_option maxHeartbeats 8000000 in
theorem rdev_any (v : Value) (d : DevD) (w : World) (hv : DevVal w v d) (hs : SmallD d) :
    Calls Try.prog 47 #[v] w fun e w' => SaysB e (DevOk d) ∧ Below w.heap.size w w' := by
  obtain ⟨af, cf, al, cl, rfl, hf, hl⟩ := hv
  obtain ⟨W0, hW0⟩ : ∃ W0, W0 = w.alloc (.cells #[.int .i64 d.id, .int .i64 d.size, .slice af d.free.length cf, .slice al d.late.length cl] 51) := ⟨_, rfl⟩
  have HB : Hid (Below w.heap.size w W0) := by rw [hW0]; exact nwA (nwR w) _
  have hx : W0.heap[w.heap.size]? = some (.cells #[.int .i64 d.id, .int .i64 d.size, .slice af d.free.length cf, .slice al d.late.length cl] 51 (0, 0)) := by rw [hW0]; exact heap_alloc_new w _
  have HX : Hid (∀ w', Below W0.heap.size W0 w' → w'.heap[w.heap.size]? = some (.cells #[.int .i64 d.id, .int .i64 d.size, .slice af d.free.length cf, .slice al d.late.length cl] 51 (0, 0))) := fun w' h => (h.block _ (Array.getElem?_eq_some_iff.1 hx).1).trans hx
  have HSF : Hid (∀ w', Below W0.heap.size W0 w' → SegsAt w' af d.free) := fun w' h => (hf.below (nwT HB.out h)).1
  have HSL : Hid (∀ w', Below W0.heap.size W0 w' → SegsAt w' al d.late) := fun w' h => (hl.below (nwT HB.out h)).1
  have HSM : Hid (SmallD d) := hs
  have HIF : Hid (DevOk d ↔ (betB d.id 1 40 = true ∧ betB d.size 1 64 = true ∧ vOk d.free = true ∧ vOk d.late = true ∧ endL d.free ≤ d.size ∧ endL d.late ≤ d.size ∧ (segsOf fun k => memS d.free k && memS d.late k).length = 0)) := devOk_iff d
  have HVF : Hid (∀ b, vOk d.free = b → ∀ p : Kin W0, Calls Try.prog 17 #[.slice af d.free.length cf] p.u fun e w' => e = .returned (.bool b) ∧ Below p.u.heap.size p.u w') := fun b hb p => by subst hb; exact refSegs_any af d.free cf p.u (HSF.out p.u p.h) (by have := HSM.out.1; omega)
  have HVL : Hid (∀ b, vOk d.late = b → ∀ p : Kin W0, Calls Try.prog 17 #[.slice al d.late.length cl] p.u fun e w' => e = .returned (.bool b) ∧ Below p.u.heap.size p.u w') := fun b hb p => by subst hb; exact refSegs_any al d.late cl p.u (HSL.out p.u p.h) (by have := HSM.out.2; omega)
  have HEF : Hid (vOk d.free = true → ∀ p : Kin W0, Calls Try.prog 72 #[.slice af d.free.length cf] p.u fun e w' => e = .returned (.int .i64 (endL d.free)) ∧ Below p.u.heap.size p.u w') := fun hv p => refEnds_any af d.free cf p.u (HSF.out p.u p.h) HSM.out.1 hv
  have HEL : Hid (vOk d.late = true → ∀ p : Kin W0, Calls Try.prog 72 #[.slice al d.late.length cl] p.u fun e w' => e = .returned (.int .i64 (endL d.late)) ∧ Below p.u.heap.size p.u w') := fun hv p => refEnds_any al d.late cl p.u (HSL.out p.u p.h) HSM.out.2 hv
  have HTW : Hid (vOk d.free = true → vOk d.late = true → ∀ w', Below W0.heap.size W0 w' → Calls Try.prog 49 #[.slice af d.free.length cf, .slice al d.late.length cl, .int .i64 2] w' fun e w'' => (∃ a n c, e = .returned (.slice a n c) ∧ n = (segsOf fun k => memS d.free k && memS d.late k).length) ∧ Below w'.heap.size w' w'') := fun h1 h2 w' hb => by
    refine (refTwo2_any af al d.free d.late cf cl w' (HSF.out w' hb) (HSL.out w' hb) HSM.out.1 HSM.out.2 h1 h2).mono ?_
    rintro e w'' ⟨v, rfl, ho, hbb⟩
    obtain ⟨a, c, rfl, _⟩ := ho.segV
    exact ⟨⟨a, _, c, rfl, rfl⟩, hbb⟩
  have q0 : ∀ p : Kin W0, p.u.cell? ⟨w.heap.size, 0, none⟩ = some (.int .i64 d.id) := fun p => (four (HX.out _ p.h)).1
  have q1 : ∀ p : Kin W0, p.u.cell? ⟨w.heap.size, 1, none⟩ = some (.int .i64 d.size) := fun p => (four (HX.out _ p.h)).2.1
  have q2 : ∀ p : Kin W0, p.u.cell? ⟨w.heap.size, 2, none⟩ = some (.slice af d.free.length cf) := fun p => (four (HX.out _ p.h)).2.2.1
  have q3 : ∀ p : Kin W0, p.u.cell? ⟨w.heap.size, 3, none⟩ = some (.slice al d.late.length cl) := fun p => (four (HX.out _ p.h)).2.2.2.1
  clear hf hl hs hx
  go_enter Try.func47, Try.ntmps47
  go_upto_region 1 with fail
  rw [← hW0]
  clear hW0
  generalize hb1 : betB d.id 1 40 = b1 at HIF
  have HB1 : Hid (∀ p : Kin W0, Calls Try.prog 71 #[.int .i64 d.id, .int .i64 1, .int .i64 40] p.u fun e w' => e = .returned (.bool b1) ∧ w' = p.u) := fun p => between_is _ _ _ _ _ hb1
  clear hb1
  generalize hb2 : betB d.size 1 64 = b2 at HIF
  have HB2 : Hid (∀ p : Kin W0, Calls Try.prog 71 #[.int .i64 d.size, .int .i64 1, .int .i64 64] p.u fun e w' => e = .returned (.bool b2) ∧ w' = p.u) := fun p => between_is _ _ _ _ _ hb2
  clear hb2
  cases b1
  case false =>
    have HN : Hid (¬ DevOk d) := fun h => by have := (HIF.out.1 h).1; cases this
    refine wp_region_kin (by kernel_rfl) (by kernel_rfl) ?_
    repeat (first | go_big_quiet_step (first | (go_at_call 71; first | with_reducible exact Calls.kin_same (HB1.out _) | with_reducible exact Calls.kin_same (HB2.out _)) | fail) | quiet_step (first | (go_at_call 71; first | with_reducible exact Calls.kin_same (HB1.out _) | with_reducible exact Calls.kin_same (HB2.out _)) | fail))
    refine wpQuiet_nil ?_
    intro _ hw'
    obtain ⟨pq, hw''⟩ := hw'
    subst hw''
    go_wp2_with fail
    go_ret
    exact ⟨says_no HN.out, nwT HB.out pq.h⟩
  case true =>
  cases b2
  case false =>
    have HN : Hid (¬ DevOk d) := fun h => by have := (HIF.out.1 h).2.1; cases this
    refine wp_region_kin (by kernel_rfl) (by kernel_rfl) ?_
    repeat (first | go_big_quiet_step (first | (go_at_call 71; first | with_reducible exact Calls.kin_same (HB1.out _) | with_reducible exact Calls.kin_same (HB2.out _)) | fail) | quiet_step (first | (go_at_call 71; first | with_reducible exact Calls.kin_same (HB1.out _) | with_reducible exact Calls.kin_same (HB2.out _)) | fail))
    refine wpQuiet_nil ?_
    intro _ hw'
    obtain ⟨pq, hw''⟩ := hw'
    subst hw''
    go_wp2_with fail
    go_ret
    exact ⟨says_no HN.out, nwT HB.out pq.h⟩
  case true =>
  obtain ⟨b3, hb3⟩ : ∃ b, vOk d.free = b := ⟨_, rfl⟩
  have HV1 : Hid (∀ p : Kin W0, Calls Try.prog 17 #[.slice af d.free.length cf] p.u fun e w' => e = .returned (.bool b3) ∧ Below p.u.heap.size p.u w') := HVF.out b3 hb3
  cases b3
  case false =>
    have HN : Hid (¬ DevOk d) := fun h => by have := h.free; rw [hb3] at this; cases this
    clear hb3
    refine wp_region_kin (by kernel_rfl) (by kernel_rfl) ?_
    repeat (first | go_big_quiet_step (first | (go_at_call 71; first | with_reducible exact Calls.kin_same (HB1.out _) | with_reducible exact Calls.kin_same (HB2.out _)) | (go_at_call 17; with_reducible exact Calls.kin_of (HV1.out _)) | fail) | quiet_step (first | (go_at_call 71; first | with_reducible exact Calls.kin_same (HB1.out _) | with_reducible exact Calls.kin_same (HB2.out _)) | (go_at_call 17; with_reducible exact Calls.kin_of (HV1.out _)) | fail))
    refine wpQuiet_nil ?_
    intro _ hw'
    obtain ⟨pq, hw''⟩ := hw'
    subst hw''
    go_wp2_with fail
    go_ret
    exact ⟨says_no HN.out, nwT HB.out pq.h⟩
  case true =>
  obtain ⟨b4, hb4⟩ : ∃ b, vOk d.late = b := ⟨_, rfl⟩
  have HV2 : Hid (∀ p : Kin W0, Calls Try.prog 17 #[.slice al d.late.length cl] p.u fun e w' => e = .returned (.bool b4) ∧ Below p.u.heap.size p.u w') := HVL.out b4 hb4
  cases b4
  case false =>
    have HN : Hid (¬ DevOk d) := fun h => by have := h.late; rw [hb4] at this; cases this
    clear hb3 hb4
    refine wp_region_kin (by kernel_rfl) (by kernel_rfl) ?_
    repeat (first | go_big_quiet_step (first | (go_at_call 71; first | with_reducible exact Calls.kin_same (HB1.out _) | with_reducible exact Calls.kin_same (HB2.out _)) | (go_at_call 17; first | with_reducible exact Calls.kin_of (HV1.out _) | with_reducible exact Calls.kin_of (HV2.out _)) | fail) | quiet_step (first | (go_at_call 71; first | with_reducible exact Calls.kin_same (HB1.out _) | with_reducible exact Calls.kin_same (HB2.out _)) | (go_at_call 17; first | with_reducible exact Calls.kin_of (HV1.out _) | with_reducible exact Calls.kin_of (HV2.out _)) | fail))
    refine wpQuiet_nil ?_
    intro _ hw'
    obtain ⟨pq, hw''⟩ := hw'
    subst hw''
    go_wp2_with fail
    go_ret
    exact ⟨says_no HN.out, nwT HB.out pq.h⟩
  case true =>
  have HE1 : Hid (∀ p : Kin W0, Calls Try.prog 72 #[.slice af d.free.length cf] p.u fun e w' => e = .returned (.int .i64 (endL d.free)) ∧ Below p.u.heap.size p.u w') := HEF.out hb3
  have HE2 : Hid (∀ p : Kin W0, Calls Try.prog 72 #[.slice al d.late.length cl] p.u fun e w' => e = .returned (.int .i64 (endL d.late)) ∧ Below p.u.heap.size p.u w') := HEL.out hb4
  have HT2 : Hid (∀ w', Below W0.heap.size W0 w' → Calls Try.prog 49 #[.slice af d.free.length cf, .slice al d.late.length cl, .int .i64 2] w' fun e w'' => (∃ a n c, e = .returned (.slice a n c) ∧ n = (segsOf fun k => memS d.free k && memS d.late k).length) ∧ Below w'.heap.size w' w'') := HTW.out hb3 hb4
  have HI2 : Hid (DevOk d ↔ (endL d.free ≤ d.size ∧ endL d.late ≤ d.size ∧ (segsOf fun k => memS d.free k && memS d.late k).length = 0)) := by
    show _ ↔ _
    rw [HIF.out, hb3, hb4]
    simp
  clear hb3 hb4 HVF HVL HEF HEL HTW HIF HSF HSL
  generalize endL d.free = ef at HE1 HI2
  generalize endL d.late = el at HE2 HI2
  generalize (segsOf fun k => memS d.free k && memS d.late k).length = nb at HT2 HI2
  by_cases h5 : ef ≤ d.size
  case neg =>
    have h5' : decide (ef ≤ d.size) = false := decide_eq_false h5
    have HN : Hid (¬ DevOk d) := fun h => h5 (HI2.out.1 h).1
    clear h5
    refine wp_region_kin (by kernel_rfl) (by kernel_rfl) ?_
    repeat (first | go_big_quiet_step (first | (go_at_call 71; first | with_reducible exact Calls.kin_same (HB1.out _) | with_reducible exact Calls.kin_same (HB2.out _)) | (go_at_call 17; first | with_reducible exact Calls.kin_of (HV1.out _) | with_reducible exact Calls.kin_of (HV2.out _)) | (go_at_call 72; with_reducible exact Calls.kin_of (HE1.out _)) | fail) | quiet_step (first | (go_at_call 71; first | with_reducible exact Calls.kin_same (HB1.out _) | with_reducible exact Calls.kin_same (HB2.out _)) | (go_at_call 17; first | with_reducible exact Calls.kin_of (HV1.out _) | with_reducible exact Calls.kin_of (HV2.out _)) | (go_at_call 72; with_reducible exact Calls.kin_of (HE1.out _)) | fail))
    refine wpQuiet_nil ?_
    intro _ hw'
    obtain ⟨pq, hw''⟩ := hw'
    subst hw''
    go_wp2_with fail
    go_ret
    exact ⟨says_no HN.out, nwT HB.out pq.h⟩
  case pos =>
  have h5' : decide (ef ≤ d.size) = true := decide_eq_true h5
  by_cases h6 : el ≤ d.size
  case neg =>
    have h6' : decide (el ≤ d.size) = false := decide_eq_false h6
    have HN : Hid (¬ DevOk d) := fun h => h6 (HI2.out.1 h).2.1
    clear h5 h6
    refine wp_region_kin (by kernel_rfl) (by kernel_rfl) ?_
    repeat (first | go_big_quiet_step (first | (go_at_call 71; first | with_reducible exact Calls.kin_same (HB1.out _) | with_reducible exact Calls.kin_same (HB2.out _)) | (go_at_call 17; first | with_reducible exact Calls.kin_of (HV1.out _) | with_reducible exact Calls.kin_of (HV2.out _)) | (go_at_call 72; first | with_reducible exact Calls.kin_of (HE1.out _) | with_reducible exact Calls.kin_of (HE2.out _)) | fail) | quiet_step (first | (go_at_call 71; first | with_reducible exact Calls.kin_same (HB1.out _) | with_reducible exact Calls.kin_same (HB2.out _)) | (go_at_call 17; first | with_reducible exact Calls.kin_of (HV1.out _) | with_reducible exact Calls.kin_of (HV2.out _)) | (go_at_call 72; first | with_reducible exact Calls.kin_of (HE1.out _) | with_reducible exact Calls.kin_of (HE2.out _)) | fail))
    refine wpQuiet_nil ?_
    intro _ hw'
    obtain ⟨pq, hw''⟩ := hw'
    subst hw''
    go_wp2_with fail
    go_ret
    exact ⟨says_no HN.out, nwT HB.out pq.h⟩
  case pos =>
  have h6' : decide (el ≤ d.size) = true := decide_eq_true h6
  have HI3 : Hid (nb = 0 ↔ DevOk d) := by show _ ↔ _; rw [HI2.out]; simp [h5, h6]
  have HC1 : Hid (∀ w', Below W0.heap.size W0 w' → Calls Try.prog 71 #[.int .i64 d.id, .int .i64 1, .int .i64 40] w' fun e w'' => e = .returned (.bool true) ∧ w'' = w') := fun w' h => HB1.out ⟨w', h⟩
  have HC2 : Hid (∀ w', Below W0.heap.size W0 w' → Calls Try.prog 71 #[.int .i64 d.size, .int .i64 1, .int .i64 64] w' fun e w'' => e = .returned (.bool true) ∧ w'' = w') := fun w' h => HB2.out ⟨w', h⟩
  have HC3 : Hid (∀ w', Below W0.heap.size W0 w' → Calls Try.prog 17 #[.slice af d.free.length cf] w' fun e w'' => e = .returned (.bool true) ∧ Below w'.heap.size w' w'') := fun w' h => HV1.out ⟨w', h⟩
  have HC4 : Hid (∀ w', Below W0.heap.size W0 w' → Calls Try.prog 17 #[.slice al d.late.length cl] w' fun e w'' => e = .returned (.bool true) ∧ Below w'.heap.size w' w'') := fun w' h => HV2.out ⟨w', h⟩
  have HC5 : Hid (∀ w', Below W0.heap.size W0 w' → Calls Try.prog 72 #[.slice af d.free.length cf] w' fun e w'' => e = .returned (.int .i64 ef) ∧ Below w'.heap.size w' w'') := fun w' h => HE1.out ⟨w', h⟩
  have HC6 : Hid (∀ w', Below W0.heap.size W0 w' → Calls Try.prog 72 #[.slice al d.late.length cl] w' fun e w'' => e = .returned (.int .i64 el) ∧ Below w'.heap.size w' w'') := fun w' h => HE2.out ⟨w', h⟩
  have z0 : ∀ w', Below W0.heap.size W0 w' → w'.cell? ⟨w.heap.size, 0, none⟩ = some (.int .i64 d.id) := fun w' h => q0 ⟨w', h⟩
  have z1 : ∀ w', Below W0.heap.size W0 w' → w'.cell? ⟨w.heap.size, 1, none⟩ = some (.int .i64 d.size) := fun w' h => q1 ⟨w', h⟩
  have z2 : ∀ w', Below W0.heap.size W0 w' → w'.cell? ⟨w.heap.size, 2, none⟩ = some (.slice af d.free.length cf) := fun w' h => q2 ⟨w', h⟩
  have z3 : ∀ w', Below W0.heap.size W0 w' → w'.cell? ⟨w.heap.size, 3, none⟩ = some (.slice al d.late.length cl) := fun w' h => q3 ⟨w', h⟩
  have hS := nwR W0
  clear q0 q1 q2 q3 h5 h6 HI2
  go_region_held3 (fun w' => Below W0.heap.size W0 w') (first | assumption | exact Below.drew (by assumption) | exact nwT (by assumption) (by assumption)) (first
    | (go_at_call_of 71 (Value.int IntKind.i64 d.id); refine (HC1.out _ (by first | assumption | exact Below.drew (by assumption))).mono ?_; rintro e w' ⟨rfl, rfl⟩)
    | (go_at_call_of 71 (Value.int IntKind.i64 d.size); refine (HC2.out _ (by first | assumption | exact Below.drew (by assumption))).mono ?_; rintro e w' ⟨rfl, rfl⟩)
    | (go_at_call_of 17 (Value.slice af d.free.length cf); refine (HC3.out _ (by first | assumption | exact Below.drew (by assumption))).mono ?_; rintro e wC ⟨rfl, hbC⟩)
    | (go_at_call_of 17 (Value.slice al d.late.length cl); refine (HC4.out _ (by first | assumption | exact Below.drew (by assumption))).mono ?_; rintro e wD ⟨rfl, hbD⟩)
    | (go_at_call_of 72 (Value.slice af d.free.length cf); refine (HC5.out _ (by first | assumption | exact Below.drew (by assumption))).mono ?_; rintro e wE ⟨rfl, hbE⟩)
    | (go_at_call_of 72 (Value.slice al d.late.length cl); refine (HC6.out _ (by first | assumption | exact Below.drew (by assumption))).mono ?_; rintro e wF ⟨rfl, hbF⟩)
    | (go_at_call 49; refine (HT2.out _ (by first | assumption | exact Below.drew (by assumption))).mono ?_; rintro e wG ⟨⟨a2, n2, c2, rfl, hn2⟩, hbG⟩)
    | fail)
  all_goals
    have hq : Below W0.heap.size W0 ‹World› := by assumption
    have HQ : Hid (Below w.heap.size w ‹World›) := nwT HB.out hq
    have HNE : Hid (n2 = nb) := hn2
    clear hn2
    go_wp2_with fail
    go_ret
    refine ⟨⟨_, rfl, ?_⟩, HQ.out⟩
    rw [← HI3.out, ← HNE.out]
    simp
    try omega

end Go.Proofs.Ytheomnafmjmpdaa

/- The page's: whether a list of devices may be. -/
namespace Go.Proofs.Ytheomnafmjmpdaa
open Go.RowKit

theorem lastI_pos {ds : List DevD} {k : Nat} (h : 0 < k) : lastI ds k = (ds.getD (k - 1) DZ).id := by unfold lastI; rw [if_neg (by omega)]
set_option maxRecDepth 100000 in
set_option maxHeartbeats 8000000 in
theorem rdevs_any (a : Option Addr) (ds : List DevD) (ca : Nat) (w : World) (hd : DevsAt w a ds) (hs : SmallL ds) :
    Calls Try.prog 22 #[.slice a ds.length ca] w fun e w' => SaysB e (DevsOk ds) ∧ Below w.heap.size w w' := by
  have HD : Hid (∀ w', Below w.heap.size w w' → DevsAt w' a ds) := fun w' h => hd.below h
  have HS : Hid (SmallL ds) := hs
  have hln := hs.1
  clear hd hs
  by_cases h6 : (ds.length : Int) > 6
  · have HN : Hid (¬ DevsOk ds) := fun h => by have := h.1; omega
    go_enter Try.func22, Try.ntmps22
    go_wp2_with fail
    go_ret
    exact ⟨says_no HN.out, nwR w⟩
  have h6n : ds.length ≤ 6 := by omega
  go_enter Try.func22, Try.ntmps22
  go_wp2_with fail
  go_loopw [3] (fun i wr => ∃ (k : Nat), k ≤ ds.length ∧ i = .int .i64 k ∧ Below w.heap.size w wr ∧ Hid (∀ j, j < k → EachD ds j))
    (fun i _ => ds.length - (intOf i).toNat)
  case atStart => exact ⟨0, by omega, rfl, nwR w, fun j hj => by omega⟩
  case round =>
    obtain ⟨k, hk, rfl, hb, HE⟩ := hrel
    by_cases hlt : k < ds.length
    case neg =>
      have hlti : ¬ (k : Int) < (ds.length : Int) := by omega
      have HY : Hid (DevsOk ds) := ⟨h6n, fun j hj => HE.out j (by omega)⟩
      go_wp2_with fail
      go_ret
      exact ⟨says_yes HY.out, hb⟩
    case pos =>
    have hlti : (k : Int) < (ds.length : Int) := by omega
    have hk0 : (0 : Int) ≤ (k : Int) := by omega
    obtain ⟨b1, o1, rfl, hdi⟩ := (HD.out wr hb).dev hlt
    obtain ⟨af, cf, al, cl, ⟨c0, c1, c2, c3⟩, hval⟩ := hdi.val
    have HPV : Hid (0 < k → wr.cell? ⟨b1, o1 + (k - 1) * 4, none⟩ = some (.int .i64 (ds.getD (k - 1) DZ).id)) := fun h0 => by
      obtain ⟨_, _, _, _, ⟨p0, _⟩, _⟩ := (HD.out wr hb).at (i := k - 1) (by omega)
      exact p0
    have HSM : Hid (SmallD (ds.getD k DZ)) := HS.out.2 _ (getD_mem DZ hlt)
    have HEK : Hid (EachD ds k ↔ (DevOk (ds.getD k DZ) ∧ (0 < k → (ds.getD (k - 1) DZ).id < (ds.getD k DZ).id))) := by
      show _ ↔ _
      unfold EachD
      by_cases h0 : 0 < k
      · rw [lastI_pos h0]; exact ⟨fun h => ⟨h.2, fun _ => h.1⟩, fun h => ⟨h.2 h0, h.1⟩⟩
      · have : k = 0 := by omega
        subst this
        exact ⟨fun h => ⟨h.2, fun h => absurd h (by omega)⟩, fun h => ⟨by have := h.1.id0; show (0 : Int) < _; omega, h.1⟩⟩
    have HNO : Hid (¬ EachD ds k → ¬ DevsOk ds) := fun h h2 => h (h2.2 k hlt)
    have HYE : Hid (EachD ds k → ∀ j, j < k + 1 → EachD ds j) := fun h j hj => by
      by_cases e : j = k
      · subst e; exact h
      · exact HE.out j (by omega)
    generalize ds.getD k DZ = d at c0 c1 c2 c3 hval HSM HEK
    generalize (ds.getD (k - 1) DZ).id = pid at HPV HEK
    have HVA : Hid (DevVal wr (.agg #[.int .i64 d.id, .int .i64 d.size, .slice af d.free.length cf, .slice al d.late.length cl]) d) := hval
    clear hval hdi
    obtain ⟨b3, hb3⟩ := bool_of (DevOk d)
    have HVC : Hid (∀ p : Kin wr, Calls Try.prog 47 #[.agg #[.int .i64 d.id, .int .i64 d.size, .slice af d.free.length cf, .slice al d.late.length cl]] p.u fun e w' => e = .returned (.bool b3) ∧ Below p.u.heap.size p.u w') := fun p =>
      (rdev_any _ d p.u (HVA.out.below p.h) HSM.out).mono fun e w' ⟨⟨b, h1, h2⟩, h3⟩ => ⟨by rw [h1, show b = b3 from by rw [Bool.eq_iff_iff, h2, hb3]], h3⟩
    have HB3 : Hid (b3 = true ↔ DevOk d) := hb3
    clear hb3
    go_upto_region 6 with fail
    have z0 : ∀ p : Kin wr, p.u.cell? ⟨b1, o1 + k * 4, none⟩ = some (.int .i64 d.id) := fun p => kcell c0 p
    have z1 : ∀ p : Kin wr, p.u.cell? ⟨b1, o1 + k * 4 + 1, none⟩ = some (.int .i64 d.size) := fun p => kcell c1 p
    have z2 : ∀ p : Kin wr, p.u.cell? ⟨b1, o1 + k * 4 + 2, none⟩ = some (.slice af d.free.length cf) := fun p => kcell c2 p
    have z3 : ∀ p : Kin wr, p.u.cell? ⟨b1, o1 + k * 4 + 3, none⟩ = some (.slice al d.late.length cl) := fun p => kcell c3 p
    clear c0 c1 c2 c3
    cases b3
    case false =>
      have HN : Hid (¬ DevsOk ds) := HNO.out (fun h => by have := HB3.out.2 (HEK.out.1 h).1; cases this)
      refine wp_region_kin (by kernel_rfl) (by kernel_rfl) ?_
      repeat (first | go_big_quiet_step (first | (go_at_call 47; exact Calls.kin_of (HVC.out _)) | fail) | quiet_step (first | (go_at_call 47; exact Calls.kin_of (HVC.out _)) | fail))
      refine wpQuiet_nil ?_
      intro _ hw'
      obtain ⟨pq, hw''⟩ := hw'
      subst hw''
      have HBP : Hid (Below w.heap.size w pq.u) := nwT hb pq.h
      go_wp2_with fail
      go_ret
      exact ⟨says_no HN.out, HBP.out⟩
    case true =>
    have HDO : Hid (DevOk d) := HB3.out.1 rfl
    by_cases h0 : 0 < k
    case neg =>
      have hk1i : decide ((0 : Int) < (k : Int)) = false := decide_eq_false (by omega)
      have HNX : Hid (∀ j, j < k + 1 → EachD ds j) := HYE.out (HEK.out.2 ⟨HDO.out, fun h => absurd h h0⟩)
      refine wp_region_kin (by kernel_rfl) (by kernel_rfl) ?_
      repeat (first | go_big_quiet_step (first | (go_at_call 47; exact Calls.kin_of (HVC.out _)) | fail) | quiet_step (first | (go_at_call 47; exact Calls.kin_of (HVC.out _)) | fail))
      refine wpQuiet_nil ?_
      intro _ hw'
      obtain ⟨pq, hw''⟩ := hw'
      subst hw''
      have HBP : Hid (Below w.heap.size w pq.u) := nwT hb pq.h
      go_wp2_with fail
      go_roundw
      case rel => exact ⟨k + 1, by omega, by go_num, HBP.out, HNX⟩
      case measure => simp [intOf]; omega
    case pos =>
    have hk1i : decide ((0 : Int) < (k : Int)) = true := decide_eq_true (by omega)
    have p0 := HPV.out h0
    have z5 : ∀ p : Kin wr, p.u.cell? ⟨b1, o1 + (k - 1) * 4, none⟩ = some (.int .i64 pid) := fun p => kcell p0 p
    have e1 : IntKind.i64.wrap ((k : Int) - 1) = ((k - 1 : Nat) : Int) := by rw [wrap_any (by omega) (by omega)]; omega
    have e2 : ((k - 1 : Nat) : Int) < (ds.length : Int) := by omega
    have e3 : (0 : Int) ≤ ((k - 1 : Nat) : Int) := by omega
    clear p0
    generalize k - 1 = m at z5 e1 e2 e3
    by_cases hp : d.id ≤ pid
    case pos =>
      have hp1 : decide (d.id ≤ pid) = true := decide_eq_true hp
      have HN : Hid (¬ DevsOk ds) := HNO.out (fun h => by have := (HEK.out.1 h).2 h0; omega)
      refine wp_region_kin (by kernel_rfl) (by kernel_rfl) ?_
      repeat (first | go_big_quiet_step (first | (go_at_call 47; exact Calls.kin_of (HVC.out _)) | fail) | quiet_step (first | (go_at_call 47; exact Calls.kin_of (HVC.out _)) | fail))
      refine wpQuiet_nil ?_
      intro _ hw'
      obtain ⟨pq, hw''⟩ := hw'
      subst hw''
      have HBP : Hid (Below w.heap.size w pq.u) := nwT hb pq.h
      go_wp2_with fail
      go_ret
      exact ⟨says_no HN.out, HBP.out⟩
    case neg =>
      have hp1 : decide (d.id ≤ pid) = false := decide_eq_false hp
      have HNX : Hid (∀ j, j < k + 1 → EachD ds j) := HYE.out (HEK.out.2 ⟨HDO.out, fun _ => by omega⟩)
      refine wp_region_kin (by kernel_rfl) (by kernel_rfl) ?_
      repeat (first | go_big_quiet_step (first | (go_at_call 47; exact Calls.kin_of (HVC.out _)) | fail) | quiet_step (first | (go_at_call 47; exact Calls.kin_of (HVC.out _)) | fail))
      refine wpQuiet_nil ?_
      intro _ hw'
      obtain ⟨pq, hw''⟩ := hw'
      subst hw''
      have HBP : Hid (Below w.heap.size w pq.u) := nwT hb pq.h
      go_wp2_with fail
      go_roundw
      case rel => exact ⟨k + 1, by omega, by go_num, HBP.out, HNX⟩
      case measure => simp [intOf]; omega

end Go.Proofs.Ytheomnafmjmpdaa
