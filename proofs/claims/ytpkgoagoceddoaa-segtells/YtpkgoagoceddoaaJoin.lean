/- seg.Join by its contract. -/
import Derived.Test.YtpkgoagoceddoaaGather
namespace Go.Proofs.Ytpkgoagoceddoaa
open Go.RowKit

def OwnSegs (w : World) (base : Nat) (v : Value) (l : List (Int × Int)) : Prop := w.ownsRow base 57 2 v l.length (flat l)

theorem flat_get (l : List (Int × Int)) : ∀ i, i < l.length → (flat l)[i * 2]? = some (.int .i64 (l.getD i (0, 0)).1) ∧ (flat l)[i * 2 + 1]? = some (.int .i64 (l.getD i (0, 0)).2) := by
  induction l with
  | nil => intro i hi; simp at hi
  | cons s r ih =>
    intro i hi
    cases i with
    | zero => simp [flat]
    | succ i =>
      have h := ih i (by simpa using hi)
      have e : flat (s :: r) = .int .i64 s.1 :: .int .i64 s.2 :: flat r := by simp [flat]
      rw [e]
      have e1 : (i + 1) * 2 = i * 2 + 1 + 1 := by omega
      have e2 : (i + 1) * 2 + 1 = i * 2 + 1 + 1 + 1 := by omega
      rw [e1, List.getElem?_cons_succ, List.getElem?_cons_succ, List.getElem?_cons_succ]
      simpa using h

theorem OwnSegs.at {w : World} {base : Nat} {v : Value} {l : List (Int × Int)} (h : OwnSegs w base v l) : ∃ a cap, v = .slice a l.length cap ∧ SegsAt w a l := by
  have hh := h
  rcases h.2 with ⟨hv, hn⟩ | ⟨g, cap, cur, hv, hb, hg, _⟩
  · refine ⟨none, 0, by rw [hv, hn], fun i hi => by omega⟩
  · refine ⟨_, cap, hv, fun i hi => ⟨g, 0, rfl, ?_, ?_⟩⟩
    · have := hh.cells (g := g) (by rw [hv]; rfl) (i * 2) _ (flat_get l i hi).1
      rw [show (⟨g, 0, none⟩ : Addr).add (i * 2) = ⟨g, 0 + i * 2, none⟩ from by unfold Addr.add; split <;> simp_all] at this
      exact this
    · have := hh.cells (g := g) (by rw [hv]; rfl) (i * 2 + 1) _ (flat_get l i hi).2
      rw [show (⟨g, 0, none⟩ : Addr).add (i * 2 + 1) = ⟨g, 0 + i * 2 + 1, none⟩ from by unfold Addr.add; split <;> simp_all] at this
      exact this

theorem OwnSegs.below {w w' : World} {base : Nat} {v : Value} {l : List (Int × Int)} (h : OwnSegs w base v l) (hb : Below w.heap.size w w') : OwnSegs w' base v l :=
  h.kept (gbOf hb none) (by cases hv : v.ownBlock <;> simp)

def jset (ls : List RowV) : List (Int × Int) := if allOk ls then segsOf (memAny ls) else []

theorem segsOf_len (p : Nat → Bool) : (segsOf p).length ≤ 64 := by
  have h := bstate_bd p 64
  unfold segsOf bfin
  split
  · simp; omega
  · omega

set_option maxHeartbeats 400000 in
theorem join_any (a : Option Addr) (ls : List RowV) (cap : Nat) (w : World) (hs : RowsAt w a ls) (hl : ls.length ≤ maxLen) :
    Calls Try.prog 31 #[.slice a ls.length cap] w fun e w' =>
      ∃ v, e = .returned (.tuple #[v, .int .i64 (errOf (allOk ls))]) ∧ OwnSegs w' w.heap.size v (jset ls) ∧ Below w.heap.size w w' := by
  have HS : Hid _ := hs
  clear hs
  cases hv : allOk ls
  · go_enter Try.func31, Try.ntmps31
    go_wp2_with fail
    refine (gather_any a ls cap _ HS.out hl).mono ?_
    rintro e w1 ⟨rfl, hb1⟩
    rw [hv, show errOf false = 1 from rfl]
    have HN : Hid (SetIs (w1.alloc (.cells (setArr fun _ => false) 64)) w1.heap.size (fun _ => false)) := SetIs.new w1
    go_wp2_with (first | refine wpList_alloc64 rfl rfl ?_ | refine wpList_store64 rfl (.tmp 4) (.tmp 9) rfl w1.heap.size _ _ rfl rfl HN.out ?_)
    go_ret2
    refine ⟨_, rfl, ?_, ?_⟩
    · rw [jset, hv]; exact World.ownsRow_nil _ _ _ _
    · exact (nwA hb1 _).grown (gbSetRow _ _ _) (nwA hb1 _).size (fun k e => by have := Option.some.inj e; have := hb1.size; omega)
  · go_enter Try.func31, Try.ntmps31
    go_wp2_with fail
    refine (gather_any a ls cap _ HS.out hl).mono ?_
    rintro e w1 ⟨rfl, hb1⟩
    rw [hv, show errOf true = 0 from rfl]
    have HN : Hid (SetIs (w1.alloc (.cells (setArr fun _ => false) 64)) w1.heap.size (fun _ => false)) := SetIs.new w1
    go_wp2_with (first | refine wpList_alloc64 rfl rfl ?_ | refine wpList_store64 rfl (.tmp 4) (.tmp 9) rfl w1.heap.size _ _ rfl rfl HN.out ?_)
    refine (pick_any 41 #[.pointer (some ⟨w1.heap.size, 0, none⟩)] #[] (gset ls) _ Try.call41 (fun k w' hk hb => ?_)).mono ?_
    · exact (setHas_any w1.heap.size (gset ls) k w' ((HN.out.setRow).below hb) hk).mono fun e w2 h => ⟨h.1, h.2 ▸ nwR w'⟩
    · rintro e w2 ⟨v, rfl, hown, hb2⟩
      have HO : Hid _ := hown
      clear hown
      go_wp2_with fail
      go_ret2
      refine ⟨_, rfl, ?_, ?_⟩
      · have e : jset ls = segsOf (gset ls) := by rw [jset, gset, hv]; rfl
        rw [e]
        exact ownsRow_base HO.out (by have := hb1.size; simp; omega)
      · exact nwT ((nwA hb1 _).grown (gbSetRow _ _ _) (nwA hb1 _).size (fun k e => by have := Option.some.inj e; have := hb1.size; omega)) hb2

end Go.Proofs.Ytpkgoagoceddoaa
