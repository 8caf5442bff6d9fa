/- A file of a volume, by the program: what may be of it by itself; its links. -/
import Derived.Test.YtdpighcaieajjaaGreatTreem
import Derived.Test.YtdpighcaieajjaaGreatFilep
namespace Go.Proofs.YtdpighcaieajjaaGreat
open Go.RowKit

def withinB (lo hi : Int) (ns : List Int) : Bool := ns.all fun n => decide (lo ≤ n) && decide (n ≤ hi)
theorem withinB_no {lo hi : Int} {ns : List Int} {k : Nat} (hk : k < ns.length) (h : ¬ (lo ≤ ns.getD k 0 ∧ ns.getD k 0 ≤ hi)) : withinB lo hi ns = false := by
  unfold withinB
  rw [List.all_eq_false]
  refine ⟨ns.getD k 0, by simp [List.getD, hk], ?_⟩
  simpa using h
theorem withinB_yes {lo hi : Int} {ns : List Int} (h : ∀ k, k < ns.length → lo ≤ ns.getD k 0 ∧ ns.getD k 0 ≤ hi) : withinB lo hi ns = true := by
  unfold withinB
  rw [List.all_eq_true]
  intro x hx
  obtain ⟨k, hk, rfl⟩ := List.getElem_of_mem hx
  have := h k hk
  simp only [List.getD, List.getElem?_eq_getElem hk, Option.getD_some] at this
  simpa using this

set_option maxRecDepth 100000 in
set_option maxHeartbeats 1000000 in
theorem within_any (lo hi : Int) (a : Option Addr) (ns : List Int) (c : Nat) (w : World) (hv : IntsAt w a ns) (hl : ns.length ≤ 100000) :
    Calls Tryz.prog 55 #[.int .i64 lo, .int .i64 hi, .slice a ns.length c] w fun e w' => e = .returned (.bool (withinB lo hi ns)) ∧ w' = w := by
  have HF : Hid (IntsAt w a ns) := hv
  clear hv
  go_enter Tryz.func55, Tryz.ntmps55
  go_wp2_with fail
  go_loop [11] (fun i => ∃ (k : Nat), k ≤ ns.length ∧ i = .int .i64 k ∧ Hid (∀ j, j < k → lo ≤ ns.getD j 0 ∧ ns.getD j 0 ≤ hi))
    (fun i => ns.length - (intOf i).toNat)
  case atStart => exact ⟨0, by omega, rfl, fun j hj => by omega⟩
  case round =>
    obtain ⟨k, hk, rfl, HE⟩ := hrel
    by_cases hlt : k < ns.length
    · obtain ⟨b1, o1, rfl, c0⟩ := HF.out.cell hlt
      have hlti : (k : Int) < (ns.length : Int) := by omega
      by_cases he : lo ≤ ns.getD k 0 ∧ ns.getD k 0 ≤ hi
      · have HN : Hid (∀ j, j < k + 1 → lo ≤ ns.getD j 0 ∧ ns.getD j 0 ≤ hi) := fun j hj => by
          by_cases e : j = k
          · subst e; exact he
          · exact HE.out j (by omega)
        obtain ⟨h1, h2⟩ := he
        generalize ns.getD k 0 = z at c0 h1 h2
        have h1' : ¬ z < lo := by omega
        have h2' : ¬ hi < z := by omega
        go_wp2_with fail
        go_round
        case rel => exact ⟨k + 1, by omega, by go_num, HN⟩
        case measure => simp [intOf]; omega
      · have HN : Hid (withinB lo hi ns = false) := withinB_no hlt he
        generalize ns.getD k 0 = z at c0 he
        by_cases h1 : z < lo
        · go_wp2_with fail
          go_ret
          exact ⟨ret_bool HN.out.symm, rfl⟩
        · have h2 : hi < z := by omega
          clear he
          go_wp2_with fail
          go_ret
          exact ⟨ret_bool HN.out.symm, rfl⟩
    · have hlti : ¬ (k : Int) < (ns.length : Int) := by omega
      have HN : Hid (withinB lo hi ns = true) := withinB_yes (fun j hj => HE.out j (by omega))
      go_wp2_with fail
      go_ret
      exact ⟨ret_bool HN.out.symm, rfl⟩

/-- a file where it stands -/
def NodeVal (w : World) (v : Value) (f : FileD) : Prop := ∃ b o, v = .agg #[.pointer (some ⟨b, o, none⟩)] ∧ FileIn w b o f
theorem NodeVal.below {w w' : World} {v : Value} {f : FileD} (h : NodeVal w v f) (hb : Below w.heap.size w w') : NodeVal w' v f := by
  obtain ⟨b, o, e, hf⟩ := h
  exact ⟨b, o, e, hf.below hb⟩

set_option maxRecDepth 100000 in
set_option maxHeartbeats 1000000 in
theorem nlinks_any (v : Value) (f : FileD) (id : Int) (w : World) (hv : NodeVal w v f) (hs : SmallF f) :
    Calls Tryz.prog 83 #[v, .int .i64 id] w fun e w' => e = .returned (.int .i64 (cntL f.list id)) ∧ Below w.heap.size w w' := by
  obtain ⟨b, o, rfl, hf⟩ := hv
  obtain ⟨ab, cb, al, cl, ⟨c0, c1, c2, c3, c4⟩, _, hli, _⟩ := hf
  obtain ⟨fid, fdir, fsize, fbl, fli⟩ := f
  simp only [SmallF] at *
  have hl := hs.2
  have HL : Hid (LinksAt w al fli) := hli
  clear hli hs
  have hb : b < w.heap.size := block_lt_of_cell c4
  go_enter Tryz.func83, Tryz.ntmps83
  go_wp2_with fail
  obtain ⟨W0, hW0⟩ : ∃ W0, W0 = w.alloc (.cells #[.pointer (some ⟨b, o, none⟩)] 81) := ⟨_, rfl⟩
  have HB0 : Hid (Below w.heap.size w W0) := by rw [hW0]; exact nwA (nwR w) _
  rw [← hW0]
  clear hW0
  go_loopw [5, 14] (fun n i wr => ∃ (j : Nat), j ≤ fli.length ∧ i = .int .i64 j ∧ n = .int .i64 (cntL (fli.take j) id) ∧ Below w.heap.size w wr)
    (fun _ i _ => fli.length - (intOf i).toNat)
  case atStart => exact ⟨0, by omega, rfl, rfl, HB0.out⟩
  case round =>
    obtain ⟨j, hj, rfl, rfl, hbr⟩ := hrel
    have hcn : cntL (fli.take j) id ≤ 100000 := by have := cntL_le (fli.take j) id; rw [List.length_take] at this; omega
    by_cases hjl : j < fli.length
    · have hjli : (j : Int) < (fli.length : Int) := by omega
      obtain ⟨b2, o2, rfl, d1, d2⟩ := (HL.out.below hbr).cell hjl
      have HCS : Hid (cntL (fli.take (j + 1)) id = cntL (fli.take j) id + if (fli.getD j lk0).2 == id then 1 else 0) := cntL_succ hjl id
      generalize fli.getD j lk0 = x at d1 d2 HCS
      obtain ⟨x1, x2⟩ := x
      simp only at d1 d2 HCS
      generalize cntL (fli.take j) id = C at HCS hcn
      by_cases he : x2 = id
      · subst he
        go_wp2_with fail
        go_roundw
        case rel => exact ⟨j + 1, by omega, by go_num, by rw [HCS.out]; simp, nwA hbr _⟩
        case measure => simp [intOf]; omega
      · have heb : (x2 == id) = false := beq_eq_false_iff_ne.2 he
        clear he
        go_wp2_with fail
        go_roundw
        case rel => exact ⟨j + 1, by omega, by go_num, by rw [HCS.out, heb]; simp, nwA hbr _⟩
        case measure => simp [intOf]; omega
    · have hjli : ¬ (j : Int) < (fli.length : Int) := by omega
      have e : fli.take j = fli := List.take_of_length_le (by omega)
      rw [e]
      go_wp2_with fail
      go_ret
      exact ⟨rfl, hbr⟩

end Go.Proofs.YtdpighcaieajjaaGreat
