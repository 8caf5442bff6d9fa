/- Scripts: a volume and acts; what is not heavy is small. -/
import Derived.Test.YtdpighcaieajjaaGreatWeight
import Derived.Test.YtdpighcaieajjaaGreatKin
namespace Go.Proofs.YtdpighcaieajjaaGreat
open Go.RowKit

structure ActD where
  act : Int
  p : ByteArray
  q : ByteArray
def act0 : ActD := ⟨0, ByteArray.empty, ByteArray.empty⟩
def ActsAt (w : World) (a : Option Addr) (l : List ActD) : Prop :=
  l = [] ∨ ∃ b o, a = some ⟨b, o, none⟩ ∧ ∀ i, i < l.length → w.cell? ⟨b, o + i * 3, none⟩ = some (.int .i64 (l.getD i act0).act) ∧ w.cell? ⟨b, o + i * 3 + 1, none⟩ = some (.string (l.getD i act0).p) ∧ w.cell? ⟨b, o + i * 3 + 2, none⟩ = some (.string (l.getD i act0).q)
theorem ActsAt.cell {w : World} {a : Option Addr} {l : List ActD} (h : ActsAt w a l) {i : Nat} (hi : i < l.length) : ∃ b o, a = some ⟨b, o, none⟩ ∧ w.cell? ⟨b, o + i * 3, none⟩ = some (.int .i64 (l.getD i act0).act) ∧ w.cell? ⟨b, o + i * 3 + 1, none⟩ = some (.string (l.getD i act0).p) ∧ w.cell? ⟨b, o + i * 3 + 2, none⟩ = some (.string (l.getD i act0).q) := by
  rcases h with rfl | ⟨b, o, rfl, hc⟩
  · simp at hi
  · exact ⟨b, o, rfl, hc i hi⟩
theorem ActsAt.below {w w' : World} {a : Option Addr} {l : List ActD} (h : ActsAt w a l) (hb : Below w.heap.size w w') : ActsAt w' a l := by
  rcases h with rfl | ⟨b, o, rfl, hc⟩
  · exact .inl rfl
  · exact .inr ⟨b, o, rfl, fun i hi => ⟨(hb.cell (p := ⟨b, o + i * 3, none⟩) (block_lt_of_cell (hc i hi).1)).trans (hc i hi).1, (hb.cell (p := ⟨b, o + i * 3 + 1, none⟩) (block_lt_of_cell (hc i hi).2.1)).trans (hc i hi).2.1, (hb.cell (p := ⟨b, o + i * 3 + 2, none⟩) (block_lt_of_cell (hc i hi).2.2)).trans (hc i hi).2.2⟩⟩
def ScrVal (w : World) (v : Value) (d : VolD) (l : List ActD) : Prop := ∃ av ca a c, v = .agg #[.int .i64 d.id, .int .i64 d.fr, .bool d.snap, .slice av d.files.length ca, .int .i64 d.next, .slice a l.length c] ∧ VolVal w (.agg #[.int .i64 d.id, .int .i64 d.fr, .bool d.snap, .slice av d.files.length ca, .int .i64 d.next]) d ∧ ActsAt w a l ∧ CapOk a c l.length
theorem ScrVal.below {w w' : World} {v : Value} {d : VolD} {l : List ActD} (h : ScrVal w v d l) (hb : Below w.heap.size w w') : ScrVal w' v d l := by
  obtain ⟨av, ca, a, c, e, h1, h2, h3⟩ := h
  exact ⟨av, ca, a, c, e, h1.below hb, h2.below hb, h3⟩
theorem six {w : World} {g : Nat} {c0 c1 c2 c3 c4 c5 : Value} {t : TypeId} (h : w.heap[g]? = some (.cells #[c0, c1, c2, c3, c4, c5] t (0, 0))) :
    w.cell? ⟨g, 0, none⟩ = some c0 ∧ w.cell? ⟨g, 1, none⟩ = some c1 ∧ w.cell? ⟨g, 2, none⟩ = some c2 ∧ w.cell? ⟨g, 3, none⟩ = some c3 ∧ w.cell? ⟨g, 4, none⟩ = some c4 ∧ w.cell? ⟨g, 5, none⟩ = some c5 :=
  ⟨by rw [Lib.cell_of_heap h]; rfl, by rw [Lib.cell_of_heap h]; rfl, by rw [Lib.cell_of_heap h]; rfl, by rw [Lib.cell_of_heap h]; rfl, by rw [Lib.cell_of_heap h]; rfl, by rw [Lib.cell_of_heap h]; rfl⟩
def LooseA (l : List ActD) : Prop := l.length ≤ 35184372088832 ∧ ∀ x ∈ l, x.p.size ≤ 140737488355328 ∧ x.q.size ≤ 140737488355328
def LightA (l : List ActD) : Prop := l.length ≤ 1500 ∧ ∀ x ∈ l, x.p.size ≤ 6004 ∧ x.q.size ≤ 6004
def HvPost (d : VolD) (l : List ActD) (w : World) (e : Ending) (w' : World) : Prop := ∃ q : Bool, e = .returned (.bool q) ∧ Below w.heap.size w w' ∧ (q = false → SmallV d ∧ LightA l)

set_option maxRecDepth 100000 in
set_option maxHeartbeats 2000000 in
theorem heavy_any (v : Value) (d : VolD) (l : List ActD) (w : World) (hv : ScrVal w v d l) (hd : LooseV d) (hl : LooseA l) : Calls Tryz.prog 9 #[v] w (HvPost d l w) := by
  obtain ⟨av, ca, aL, cL, rfl, hu, hL, _⟩ := hv
  have HU : Hid (VolVal w (.agg #[.int .i64 d.id, .int .i64 d.fr, .bool d.snap, .slice av d.files.length ca, .int .i64 d.next]) d) := hu
  have HL : Hid (ActsAt w aL l) := hL
  have HD : Hid (LooseV d) := hd
  have hll := hl.1
  have HLA : Hid (∀ x ∈ l, x.p.size ≤ 140737488355328 ∧ x.q.size ≤ 140737488355328) := hl.2
  have HB0 : Hid (Below w.heap.size w (w.alloc (.cells #[.int .i64 d.id, .int .i64 d.fr, .bool d.snap, .slice av d.files.length ca, .int .i64 d.next, .slice aL l.length cL] 27))) := nwA (nwR w) _
  have HR0 : Hid ((w.alloc (.cells #[.int .i64 d.id, .int .i64 d.fr, .bool d.snap, .slice av d.files.length ca, .int .i64 d.next, .slice aL l.length cL] 27)).heap[w.heap.size]? = some (.cells #[.int .i64 d.id, .int .i64 d.fr, .bool d.snap, .slice av d.files.length ca, .int .i64 d.next, .slice aL l.length cL] 27 (0, 0))) := heap_alloc_new w _
  clear hL hd hl hu
  go_enter Tryz.func9, Tryz.ntmps9
  go_wp2_with fail
  refine (volWeight_any _ d _ (HU.out.below HB0.out) HD.out).mono ?_
  rintro e w1 ⟨⟨N, rfl, HN⟩, hb1⟩
  have hN := HN.out.1
  have HB1 : Hid (Below w.heap.size w w1) := nwT HB0.out hb1
  have HL1 : Hid (ActsAt w1 aL l) := HL.out.below HB1.out
  have HC5 : Hid (∀ w', Below w1.heap.size w1 w' → w'.cell? ⟨w.heap.size, 5, none⟩ = some (.slice aL l.length cL)) := fun w' h => (six ((nwT hb1 h).block _ (Array.getElem?_eq_some_iff.1 HR0.out).1 |>.trans HR0.out)).2.2.2.2.2
  clear hb1 HL HU
  go_wp2_with fail
  go_loopw [3, 4] (fun n i wr => ∃ (k M : Nat), k ≤ l.length ∧ i = .int .i64 k ∧ n = .int .i64 M ∧ M ≤ 562949953421312 ∧ Hid (N ≤ M ∧ k ≤ M ∧ ∀ j, j < k → ((l.getD j act0).p.size + (l.getD j act0).q.size) / 4 ≤ M) ∧ Below w1.heap.size w1 wr)
    (fun _ i _ => l.length - (intOf i).toNat)
  case atStart => exact ⟨0, N, by omega, rfl, rfl, by omega, ⟨by omega, by omega, fun j hj => by omega⟩, nwR w1⟩
  case round =>
    obtain ⟨k, M, hk, rfl, rfl, hM, HE, hb⟩ := hrel
    have HBW : Hid (Below w.heap.size w wr) := nwT HB1.out hb
    have x5 := HC5.out _ hb
    by_cases hkl : k < l.length
    · have hkli : (k : Int) < (l.length : Int) := by omega
      by_cases hM2 : M < 1048576
      · have hMi : (M : Int) < 1048576 := by omega
        obtain ⟨b1, o1, rfl, _, c1, c2⟩ := (HL1.out.below hb).cell hkl
        obtain ⟨hp, hq⟩ := HLA.out (l.getD k act0) (by simp [List.getD, hkl])
        have HFK : Hid (∀ M', M + 1 + ((l.getD k act0).p.size + (l.getD k act0).q.size) / 4 = M' → N ≤ M' ∧ k + 1 ≤ M' ∧ ∀ j, j < k + 1 → ((l.getD j act0).p.size + (l.getD j act0).q.size) / 4 ≤ M') := fun M' h => by
          obtain ⟨h1, h2, h3⟩ := HE.out
          refine ⟨by omega, by omega, fun j hj => ?_⟩
          by_cases e : j = k
          · subst e; omega
          · have := h3 j (by omega); omega
        generalize (l.getD k act0).p = p at c1 hp HFK
        generalize (l.getD k act0).q = q at c2 hq HFK
        go_wp2_with fail
        have e1 : IntKind.i64.wrap ((M : Int) + 1) = (M : Int) + 1 := wrap_any (by omega) (by omega)
        have e2 : IntKind.i64.wrap ((p.size : Int) + (q.size : Int)) = (p.size : Int) + (q.size : Int) := wrap_any (by omega) (by omega)
        have e3 : IntKind.i64.wrap (((p.size : Int) + (q.size : Int)).tdiv 4) = (((p.size + q.size) / 4 : Nat) : Int) := by
          rw [Int.tdiv_eq_ediv_of_nonneg (by omega), wrap_any (by omega) (by omega)]; omega
        obtain ⟨z, hz⟩ : ∃ z, (p.size + q.size) / 4 = z := ⟨_, rfl⟩
        rw [hz] at e3 HFK
        have hzl : z ≤ 70368744177664 := by omega
        clear hz
        have e4 : IntKind.i64.wrap ((M : Int) + 1 + (z : Int)) = (M : Int) + 1 + (z : Int) := wrap_any (by omega) (by omega)
        go_quiet (fail)
        clear e1 e2 e3 e4
        go_wp2_with fail
        go_roundw
        case rel => exact ⟨k + 1, M + 1 + z, by omega, by go_num, by first | rfl | go_num, by omega, HFK.out _ rfl, below_drewN hb _⟩
        case measure => simp [intOf]; omega
      · have hMi : ¬ (M : Int) < 1048576 := by omega
        go_wp2_with fail
        go_ret
        exact ⟨_, rfl, HBW.out, fun h => by simp at h; omega⟩
    · have hkli : ¬ (k : Int) < (l.length : Int) := by omega
      go_wp2_with fail
      go_ret
      refine ⟨_, rfl, HBW.out, fun h => ?_⟩
      have hM3 : M ≤ 1500 := by simp at h; omega
      obtain ⟨h1, h2, h3⟩ := HE.out
      refine ⟨HN.out.small (by omega), by omega, fun x hx => ?_⟩
      obtain ⟨j, hj, rfl⟩ := List.getElem_of_mem hx
      have := h3 j (by omega)
      have e : l.getD j act0 = l[j] := by simp [List.getD, hj]
      rw [e] at this
      omega

end Go.Proofs.YtdpighcaieajjaaGreat
