/- seg.Of by its contract. -/
import Derived.Test.YtpkgoagoceddoaaList
namespace Go.Proofs.Ytpkgoagoceddoaa
open Go.RowKit

def IntsAt (w : World) (a : Option Addr) (l : List Int) : Prop :=
  ∀ i, i < l.length → ∃ b off, a = some ⟨b, off, none⟩ ∧ w.cell? ⟨b, off + i, none⟩ = some (.int .i64 (l.getD i 0))

theorem IntsAt.below {w w' : World} {a : Option Addr} {l : List Int} (h : IntsAt w a l) {B : Nat} (hb : Below B w w') (hB : w.heap.size ≤ B) : IntsAt w' a l := by
  intro i hi
  obtain ⟨b, off, ha, h1⟩ := h i hi
  have hlt : b < w.heap.size := block_lt_of_cell h1
  exact ⟨b, off, ha, (hb.cell (p := ⟨b, _, none⟩) (by show b < B; omega)).trans h1⟩

theorem OwnInts.at {w : World} {base : Nat} {v : Value} {l : List Int} (h : OwnInts w base v l) : ∃ a cap, v = .slice a l.length cap ∧ IntsAt w a l := by
  have hh := h
  rcases h.2 with ⟨hv, hn⟩ | ⟨g, cap, cur, hv, hb, hg, _⟩
  · refine ⟨none, 0, by rw [hv, hn], fun i hi => by omega⟩
  · refine ⟨_, cap, hv, fun i hi => ⟨g, 0, rfl, ?_⟩⟩
    have := hh.cells (g := g) (by rw [hv]; rfl) i (.int .i64 (l.getD i 0)) (by simp [hi])
    rw [show (⟨g, 0, none⟩ : Addr).add i = ⟨g, 0 + i, none⟩ from by unfold Addr.add; split <;> simp_all] at this
    exact this

def allIn (ns : List Int) : Bool := ns.all fun z => mayB z 1
def memI (ns : List Int) (k : Nat) : Bool := ns.any fun z => decide (z = k)
def ofSet (ns : List Int) : List (Int × Int) := if allIn ns then segsOf (memI ns) else []

theorem allIn_take (ns : List Int) (i : Nat) (h : i < ns.length) : allIn (ns.take (i + 1)) = (allIn (ns.take i) && mayB (ns.getD i 0) 1) := by
  rw [take_snocD ns 0 i h]; simp [allIn]
theorem memI_take (ns : List Int) (i k : Nat) (h : i < ns.length) : memI (ns.take (i + 1)) k = (memI (ns.take i) k || decide (ns.getD i 0 = k)) := by
  rw [take_snocD ns 0 i h]; simp [memI]
theorem allIn_false {ns : List Int} (i : Nat) (h : i < ns.length) (hv : mayB (ns.getD i 0) 1 = false) : allIn ns = false := by
  rw [allIn, List.all_eq_false]
  exact ⟨ns.getD i 0, by simp [h], by rw [hv]; simp⟩

set_option maxHeartbeats 1000000 in
theorem of_any (a : Option Addr) (ns : List Int) (cap : Nat) (w : World) (hs : IntsAt w a ns) (hl : ns.length ≤ maxLen) :
    Calls Try.prog 26 #[.slice a ns.length cap] w fun e w' => ∃ v, e = .returned (.tuple #[v, .int .i64 (errOf (allIn ns))]) ∧ OwnSegs w' w.heap.size v (ofSet ns) ∧ Below w.heap.size w w' := by
  have HS : Hid (IntsAt w a ns) := hs
  clear hs
  unfold maxLen at hl
  go_enter Try.func26, Try.ntmps26
  go_wp2_with (with_reducible refine wpList_alloc64 rfl rfl ?_)
  go_loopw [10] (fun i wr => ∃ (k : Nat), k ≤ ns.length ∧ i = .int .i64 k ∧ SetIs wr w.heap.size (memI (ns.take k)) ∧ Below w.heap.size w wr ∧ Hid (allIn (ns.take k) = true))
    (fun i _ => ns.length - (intOf i).toNat)
  case atStart => exact ⟨0, by omega, rfl, SetIs.new w, nwA (nwR w) _, rfl⟩
  case round =>
    obtain ⟨k, hk, rfl, hset, hb, HA⟩ := hrel
    have HT : Hid (SetIs wr w.heap.size (memI (ns.take k))) := hset
    clear hset
    by_cases hlt : k < ns.length
    · obtain ⟨b, off, rfl, h1⟩ := (HS.out.below hb (Nat.le_refl _)) k hlt
      have HT1 : Hid (∀ q, memI (ns.take (k + 1)) q = (memI (ns.take k) q || decide (ns.getD k 0 = q))) := fun q => memI_take ns k q hlt
      have HT2 : Hid (allIn (ns.take (k + 1)) = (allIn (ns.take k) && mayB (ns.getD k 0) 1)) := allIn_take ns k hlt
      have HT3 : Hid (mayB (ns.getD k 0) 1 = false → allIn ns = false) := allIn_false k hlt
      generalize ns.getD k 0 = z at h1 HT1 HT2 HT3
      have hwl := HT.out.lt
      cases hm : mayB z 1
      · go_wp2_with fail
        refine (mayBe_any _ _ _).mono ?_
        rintro e w1 ⟨rfl, hb1⟩
        rw [hm]
        go_wp2_with fail
        go_ret2
        have HF := HT3.out hm
        refine ⟨.slice none 0 0, by rw [HF]; rfl, ?_, nwT (nwA hb _) hb1⟩
        rw [ofSet, HF]
        exact World.ownsRow_nil _ _ _ _
      · obtain ⟨m0, m1, _, _⟩ := mayB_of hm
        go_wp2_with fail
        refine (mayBe_any _ _ _).mono ?_
        rintro e w1 ⟨rfl, hb1⟩
        rw [hm]
        obtain ⟨hc, hf⟩ := bcell hb1
        go_wp2_with fail
        refine (setAdd_any w.heap.size _ z 1 _ (SetIs.below (HT.out.alloc _) hb1) (by omega) (by omega) (by omega)).mono ?_
        rintro e w2 ⟨rfl, hset2, hgb⟩
        have HS2 : Hid (SetIs w2 w.heap.size (memI (ns.take (k + 1)))) := by
          refine World.rowIs.congr hset2 fun q _ => ?_
          show Value.bool _ = Value.bool _
          rw [HT1.out q]
          have e : decide (z ≤ (q : Int) ∧ (q : Int) < z + 1) = decide (z = (q : Int)) := by rw [decide_eq_decide]; omega
          rw [← e]
        have HB2 : Hid (Below w.heap.size w w2) := (nwT (nwA hb _) hb1).grown hgb (nwT (nwA hb _) hb1).size (fun q e => by have := Option.some.inj e; omega)
        have HA2 : Hid (allIn (ns.take (k + 1)) = true) := by
          show _ = true
          rw [HT2.out, HA.out, hm]; rfl
        clear hset2 hgb hc hf
        go_wp2_with fail
        go_roundw
        case rel => exact ⟨k + 1, by omega, by go_num, HS2.out, HB2.out, HA2⟩
        case measure => simp [intOf]; omega
    · have hk' : k = ns.length := by omega
      subst hk'
      rw [List.take_length] at HT HA
      go_wp2_with fail
      refine (pick_any 41 #[.pointer (some ⟨w.heap.size, 0, none⟩)] #[] (memI ns) _ Try.call41 (fun k w' hk hb => ?_)).mono ?_
      · exact (setHas_any w.heap.size (memI ns) k w' (HT.out.below hb) hk).mono fun e w2 h => ⟨h.1, h.2 ▸ nwR w'⟩
      · rintro e w2 ⟨v, rfl, hown, hb2⟩
        have HO : Hid _ := hown
        clear hown
        go_wp2_with fail
        go_ret2
        refine ⟨_, by rw [HA.out]; rfl, ?_, nwT hb hb2⟩
        have e : ofSet ns = segsOf (memI ns) := by rw [ofSet, HA.out]; rfl
        rw [e]
        exact ownsRow_base HO.out hb.size

end Go.Proofs.Ytpkgoagoceddoaa
