/- Laid together: Node, Names, Sizes, Vptr, Kin. -/
import Derived.Test.YtodahdnnlkcfdaaVolM4
import Derived.Deep.QuietTactic
import Derived.BigQuiet
import Derived.Deep.RegionHeld3
/- A file of a volume, by the program: what may be of it by itself; its links. -/
namespace Go.Proofs.Ytodahdnnlkcfdaa
open Go.RowKit

def withinB (lo hi : Int) (ns : List Int) : Bool := ns.all fun n => decide (lo ≤ n) && decide (n ≤ hi)
theorem withinB_no {lo hi : Int} {ns : List Int} {k : Nat} (hk : k < ns.length) (h : ¬ (lo ≤ ns.getD k 0 ∧ ns.getD k 0 ≤ hi)) : withinB lo hi ns = false := by
  unfold withinB
  rw [List.all_eq_false]
  refine ⟨ns.getD k 0, by simp [List.getD, hk], ?_⟩
  simpa using h
theorem withinB_yes {lo hi : Int} {ns : List Int} (h : ∀ k, k < ns.length → lo ≤ ns.getD k 0 ∧ ns.getD k 0 ≤ hi) : withinB lo hi ns = true := by
  unfold withinB
  rw [List.all_eq_true]
  intro x hx
  obtain ⟨k, hk, rfl⟩ := List.getElem_of_mem hx
  have := h k hk
  simp only [List.getD, List.getElem?_eq_getElem hk, Option.getD_some] at this
  simpa using this

set_option maxRecDepth 100000 in
set_option maxHeartbeats 1000000 in
theorem within_any (lo hi : Int) (a : Option Addr) (ns : List Int) (c : Nat) (w : World) (hv : IntsAt w a ns) (hl : ns.length ≤ 100000) :
    Calls Try.prog 88 #[.int .i64 lo, .int .i64 hi, .slice a ns.length c] w fun e w' => e = .returned (.bool (withinB lo hi ns)) ∧ w' = w := by
  have HF : Hid (IntsAt w a ns) := hv
  clear hv
  go_enter Try.func88, Try.ntmps88
  go_wp2_with fail
  go_loop [11] (fun i => ∃ (k : Nat), k ≤ ns.length ∧ i = .int .i64 k ∧ Hid (∀ j, j < k → lo ≤ ns.getD j 0 ∧ ns.getD j 0 ≤ hi))
    (fun i => ns.length - (intOf i).toNat)
  case atStart => exact ⟨0, by omega, rfl, fun j hj => by omega⟩
  case round =>
    obtain ⟨k, hk, rfl, HE⟩ := hrel
    by_cases hlt : k < ns.length
    · obtain ⟨b1, o1, rfl, c0⟩ := HF.out.cell hlt
      have hlti : (k : Int) < (ns.length : Int) := by omega
      by_cases he : lo ≤ ns.getD k 0 ∧ ns.getD k 0 ≤ hi
      · have HN : Hid (∀ j, j < k + 1 → lo ≤ ns.getD j 0 ∧ ns.getD j 0 ≤ hi) := fun j hj => by
          by_cases e : j = k
          · subst e; exact he
          · exact HE.out j (by omega)
        obtain ⟨h1, h2⟩ := he
        generalize ns.getD k 0 = z at c0 h1 h2
        have h1' : ¬ z < lo := by omega
        have h2' : ¬ hi < z := by omega
        go_wp2_with fail
        go_round
        case rel => exact ⟨k + 1, by omega, by go_num, HN⟩
        case measure => simp [intOf]; omega
      · have HN : Hid (withinB lo hi ns = false) := withinB_no hlt he
        generalize ns.getD k 0 = z at c0 he
        by_cases h1 : z < lo
        · go_wp2_with fail
          go_ret
          exact ⟨ret_bool HN.out.symm, rfl⟩
        · have h2 : hi < z := by omega
          clear he
          go_wp2_with fail
          go_ret
          exact ⟨ret_bool HN.out.symm, rfl⟩
    · have hlti : ¬ (k : Int) < (ns.length : Int) := by omega
      have HN : Hid (withinB lo hi ns = true) := withinB_yes (fun j hj => HE.out j (by omega))
      go_wp2_with fail
      go_ret
      exact ⟨ret_bool HN.out.symm, rfl⟩

/-- a file where it stands -/
def NodeVal (w : World) (v : Value) (f : FileD) : Prop := ∃ b o, v = .agg #[.pointer (some ⟨b, o, none⟩)] ∧ FileIn w b o f
theorem NodeVal.below {w w' : World} {v : Value} {f : FileD} (h : NodeVal w v f) (hb : Below w.heap.size w w') : NodeVal w' v f := by
  obtain ⟨b, o, e, hf⟩ := h
  exact ⟨b, o, e, hf.below hb⟩

set_option maxRecDepth 100000 in
set_option maxHeartbeats 1000000 in
theorem nlinks_any (v : Value) (f : FileD) (id : Int) (w : World) (hv : NodeVal w v f) (hs : SmallF f) :
    Calls Try.prog 99 #[v, .int .i64 id] w fun e w' => e = .returned (.int .i64 (cntL f.list id)) ∧ Below w.heap.size w w' := by
  obtain ⟨b, o, rfl, hf⟩ := hv
  obtain ⟨ab, cb, al, cl, ⟨c0, c1, c2, c3, c4⟩, _, hli, _⟩ := hf
  obtain ⟨fid, fdir, fsize, fbl, fli⟩ := f
  simp only [SmallF] at *
  have hl := hs.2
  have HL : Hid (LinksAt w al fli) := hli
  clear hli hs
  have hb : b < w.heap.size := block_lt_of_cell c4
  go_enter Try.func99, Try.ntmps99
  go_wp2_with fail
  obtain ⟨W0, hW0⟩ : ∃ W0, W0 = w.alloc (.cells #[.pointer (some ⟨b, o, none⟩)] 120) := ⟨_, rfl⟩
  have HB0 : Hid (Below w.heap.size w W0) := by rw [hW0]; exact nwA (nwR w) _
  rw [← hW0]
  clear hW0
  go_loopw [5, 14] (fun n i wr => ∃ (j : Nat), j ≤ fli.length ∧ i = .int .i64 j ∧ n = .int .i64 (cntL (fli.take j) id) ∧ Below w.heap.size w wr)
    (fun _ i _ => fli.length - (intOf i).toNat)
  case atStart => exact ⟨0, by omega, rfl, rfl, HB0.out⟩
  case round =>
    obtain ⟨j, hj, rfl, rfl, hbr⟩ := hrel
    have hcn : cntL (fli.take j) id ≤ 100000 := by have := cntL_le (fli.take j) id; rw [List.length_take] at this; omega
    by_cases hjl : j < fli.length
    · have hjli : (j : Int) < (fli.length : Int) := by omega
      obtain ⟨b2, o2, rfl, d1, d2⟩ := (HL.out.below hbr).cell hjl
      have HCS : Hid (cntL (fli.take (j + 1)) id = cntL (fli.take j) id + if (fli.getD j lk0).2 == id then 1 else 0) := cntL_succ hjl id
      generalize fli.getD j lk0 = x at d1 d2 HCS
      obtain ⟨x1, x2⟩ := x
      simp only at d1 d2 HCS
      generalize cntL (fli.take j) id = C at HCS hcn
      by_cases he : x2 = id
      · subst he
        go_wp2_with fail
        go_roundw
        case rel => exact ⟨j + 1, by omega, by go_num, by rw [HCS.out]; simp, nwA hbr _⟩
        case measure => simp [intOf]; omega
      · have heb : (x2 == id) = false := beq_eq_false_iff_ne.2 he
        clear he
        go_wp2_with fail
        go_roundw
        case rel => exact ⟨j + 1, by omega, by go_num, by rw [HCS.out, heb]; simp, nwA hbr _⟩
        case measure => simp [intOf]; omega
    · have hjli : ¬ (j : Int) < (fli.length : Int) := by omega
      have e : fli.take j = fli := List.take_of_length_le (by omega)
      rw [e]
      go_wp2_with fail
      go_ret
      exact ⟨rfl, hbr⟩

end Go.Proofs.Ytodahdnnlkcfdaa

/- Which names a directory may have, by the program. -/
namespace Go.Proofs.Ytodahdnnlkcfdaa
open Go.RowKit

def NameOk (l : List LinkD) (k : Nat) : Prop := nm (l.getD k lk0).1 = true ∧ (0 < k → ltS (l.getD (k - 1) lk0).1 (l.getD k lk0).1 = true)
def NamesOk (l : List LinkD) : Prop := l.length ≤ 8 ∧ ∀ k, k < l.length → NameOk l k

theorem check_is (s : ByteArray) (w : World) (n : Int) (h : errI (nm s) = n) : Calls Try.prog 100 #[.string s] w fun e w' => e = .returned (.int .i64 n) ∧ w' = w := by
  rw [← h]; exact check_any s w

set_option maxRecDepth 100000 in
set_option maxHeartbeats 2000000 in
theorem names_any (v : Value) (f : FileD) (w : World) (hv : NodeVal w v f) (hs : SmallF f) :
    Calls Try.prog 95 #[v] w fun e w' => SaysB e (NamesOk f.list) ∧ Below w.heap.size w w' := by
  obtain ⟨b, o, rfl, hf⟩ := hv
  obtain ⟨ab, cb, al, cl, ⟨c0, c1, c2, c3, c4⟩, _, hli, _⟩ := hf
  obtain ⟨fid, fdir, fsize, fbl, fli⟩ := f
  simp only [SmallF] at *
  have hl := hs.2
  have HL : Hid (LinksAt w al fli) := hli
  clear hli hs c0 c1 c2 c3
  have hb : b < w.heap.size := block_lt_of_cell c4
  by_cases h8 : fli.length ≤ 8
  · have h8i : ¬ (8 : Int) < (fli.length : Int) := by omega
    have HX : Hid (NamesOk fli ↔ ∀ k, k < fli.length → NameOk fli k) := ⟨fun h => h.2, fun h => ⟨h8, h⟩⟩
    go_enter Try.func95, Try.ntmps95
    go_wp2_with fail
    obtain ⟨W0, hW0⟩ : ∃ W0, W0 = w.alloc (.cells #[.pointer (some ⟨b, o, none⟩)] 120) := ⟨_, rfl⟩
    have HB0 : Hid (Below w.heap.size w W0) := by rw [hW0]; exact nwA (nwR w) _
    have HP : Hid (W0.cell? ⟨w.heap.size, 0, none⟩ = some (.pointer (some ⟨b, o, none⟩))) := by rw [hW0]; show _ = _; simp
    have HC : Hid (W0.cell? ⟨b, o + 4, none⟩ = some (.slice al fli.length cl)) := (HB0.out.cell (p := ⟨b, o + 4, none⟩) hb).trans c4
    have HL0 : Hid (LinksAt W0 al fli) := HL.out.below HB0.out
    rw [← hW0]
    clear hW0 c4 HL
    go_loopw [18] (fun i wr => ∃ (k : Nat), k ≤ fli.length ∧ i = .int .i64 k ∧ Below W0.heap.size W0 wr ∧ Hid (∀ j, j < k → NameOk fli j))
      (fun i _ => fli.length - (intOf i).toNat)
    case atStart => exact ⟨0, by omega, rfl, nwR _, fun j hj => by omega⟩
    case round =>
      obtain ⟨k, hk, rfl, hbr, HE⟩ := hrel
      by_cases hlt : k < fli.length
      · have hlti : (k : Int) < (fli.length : Int) := by omega
        obtain ⟨b2, o2, rfl, d1, d2⟩ := (HL0.out.below hbr).cell hlt
        have HN2 : Hid (NameOk fli k → ∀ j, j < k + 1 → NameOk fli j) := fun h j hj => by
          by_cases e : j = k
          · subst e; exact h
          · exact HE.out j (by omega)
        have HNK : Hid (NameOk fli k ↔ (nm (fli.getD k lk0).1 = true ∧ (0 < k → ltS (fli.getD (k - 1) lk0).1 (fli.getD k lk0).1 = true))) := Iff.rfl
        have HLB : Hid (LinksAt wr (some ⟨b2, o2, none⟩) fli) := HL0.out.below hbr
        generalize fli.getD k lk0 = x at d1 d2 HNK
        obtain ⟨x1, x2⟩ := x
        simp only at d1 d2 HNK
        go_wp2_with fail
        obtain ⟨W1, hW1⟩ : ∃ W1, W1 = wr.alloc (.cells #[.string x1, .int .i64 x2] 87) := ⟨_, rfl⟩
        have HB1 : Hid (Below wr.heap.size wr W1) := by rw [hW1]; exact nwA (nwR wr) _
        have HBB : Hid (Below w.heap.size w W1) := nwT HB0.out (nwT hbr HB1.out)
        have HBW : Hid (Below W0.heap.size W0 W1) := nwT hbr HB1.out
        have y0 : W1.cell? ⟨wr.heap.size, 0, none⟩ = some (.string x1) := by rw [hW1]; simp
        have p0 : W1.cell? ⟨w.heap.size, 0, none⟩ = some (.pointer (some ⟨b, o, none⟩)) := (HBW.out.cell (p := ⟨w.heap.size, 0, none⟩) (block_lt_of_cell HP.out)).trans HP.out
        have q4 : W1.cell? ⟨b, o + 4, none⟩ = some (.slice (some ⟨b2, o2, none⟩) fli.length cl) := (HBW.out.cell (p := ⟨b, o + 4, none⟩) (block_lt_of_cell HC.out)).trans HC.out
        rw [← hW1]
        clear hW1 d1 d2
        cases hnm : nm x1
        · have HNO : Hid (¬ NamesOk fli) := fun h => by have := (HNK.out.1 (HX.out.1 h k hlt)).1; rw [hnm] at this; cases this
          have HE1 : Hid (errI (nm x1) = 1) := by rw [hnm]; rfl
          go_quiet (first | (go_at_call 100; exact Calls.quiet_of_same (check_is _ _ 1 HE1.out)) | fail)
          go_wp2_with fail
          go_ret
          exact ⟨says_no HNO.out, below_drewN HBB.out _⟩
        · have HE0 : Hid (errI (nm x1) = 0) := by rw [hnm]; rfl
          cases k with
          | zero =>
            have HOK : Hid (∀ j, j < 0 + 1 → NameOk fli j) := HN2.out (HNK.out.2 ⟨hnm, fun h => absurd h (by omega)⟩)
            have d0 : decide ((0 : Int) < ((0 : Nat) : Int)) = false := rfl
            go_quiet (first | (go_at_call 100; exact Calls.quiet_of_same (check_is _ _ 0 HE0.out)) | fail)
            go_wp2_with fail
            go_roundw
            case rel => exact ⟨0 + 1, by omega, by go_num, below_drewN HBW.out _, HOK⟩
            case measure => simp [intOf]; omega
          | succ m =>
            obtain ⟨b3, o3, e3, r1, _⟩ := HLB.out.cell (show m < fli.length by omega)
            injection e3 with e3
            injection e3 with e31 e32
            subst e31; subst e32
            have HNK2 : Hid (NameOk fli (m + 1) ↔ ltS (fli.getD m lk0).1 x1 = true) := ⟨fun h => by have := (HNK.out.1 h).2 (by omega); simpa using this, fun h => HNK.out.2 ⟨hnm, fun _ => by simpa using h⟩⟩
            have r0 : W1.cell? ⟨b2, o2 + m * 2, none⟩ = some (.string (fli.getD m lk0).1) := (HB1.out.cell (p := ⟨b2, o2 + m * 2, none⟩) (block_lt_of_cell r1)).trans r1
            clear r1 HLB
            generalize (fli.getD m lk0).1 = y at r0 HNK2
            have d0 : decide (0 < m + 1) = true := rfl
            have e1 : IntKind.i64.wrap ((m : Int) + 1 - 1) = (m : Int) := by rw [wrap_any (by omega) (by omega)]; omega
            have m0 : (0 : Int) ≤ (m : Int) := by omega
            have m1 : (m : Int) < (fli.length : Int) := by omega
            cases hlt2 : ltS y x1
            · have HNO : Hid (¬ NamesOk fli) := fun h => by have := HNK2.out.1 (HX.out.1 h (m + 1) hlt); rw [hlt2] at this; cases this
              have HLT : Hid (ltS y x1 = false) := hlt2
              have hlt3 : Op.bytesLess y.toList x1.toList = false := hlt2
              go_quiet (first | (go_at_call 100; exact Calls.quiet_of_same (check_is _ _ 0 HE0.out)) | fail)
              go_wp2_with fail
              go_ret
              exact ⟨says_no HNO.out, below_drewN HBB.out _⟩
            · have HOK : Hid (∀ j, j < m + 1 + 1 → NameOk fli j) := HN2.out (HNK2.out.2 hlt2)
              have hlt3 : Op.bytesLess y.toList x1.toList = true := hlt2
              go_quiet (first | (go_at_call 100; exact Calls.quiet_of_same (check_is _ _ 0 HE0.out)) | fail)
              go_wp2_with fail
              go_roundw
              case rel => exact ⟨m + 1 + 1, by omega, by go_num, below_drewN HBW.out _, HOK⟩
              case measure => simp [intOf]; omega
      · have hlti : ¬ (k : Int) < (fli.length : Int) := by omega
        have HY : Hid (NamesOk fli) := HX.out.2 (fun j hj => HE.out j (by omega))
        go_wp2_with fail
        go_ret
        exact ⟨says_yes HY.out, nwT HB0.out hbr⟩
  · have h8i : (8 : Int) < (fli.length : Int) := by omega
    have HNO : Hid (¬ NamesOk fli) := fun h => h8 h.1
    go_enter Try.func95, Try.ntmps95
    go_wp2_with fail
    go_ret
    exact ⟨says_no HNO.out, nwA (nwR w) _⟩

end Go.Proofs.Ytodahdnnlkcfdaa

/- Which sizes a file may have; which files may be by themselves, by the program. -/
namespace Go.Proofs.Ytodahdnnlkcfdaa
open Go.RowKit

def SizeOk (f : FileD) : Prop := numB f.size 200 = true ∧ (f.blocks.length : Int) = (f.size + 31) / 32 ∧ ∀ k, k < f.blocks.length → numB (f.blocks.getD k 0) 1073741823 = true
theorem withinB_one (lo hi n : Int) : withinB lo hi [n] = (decide (lo ≤ n) && decide (n ≤ hi)) := by simp [withinB]
theorem within_is (lo hi : Int) (a : Option Addr) (ns : List Int) (c : Nat) (w : World) (b : Bool) (hv : IntsAt w a ns) (hl : ns.length ≤ 100000) (h : withinB lo hi ns = b) :
    Calls Try.prog 88 #[.int .i64 lo, .int .i64 hi, .slice a ns.length c] w fun e w' => e = .returned (.bool b) ∧ w' = w := by
  rw [← h]; exact within_any lo hi a ns c w hv hl
theorem withinB_all {lo hi : Int} {ns : List Int} : withinB lo hi ns = true ↔ ∀ k, k < ns.length → lo ≤ ns.getD k 0 ∧ ns.getD k 0 ≤ hi := by
  refine ⟨fun h k hk => ?_, withinB_yes⟩
  by_cases hn : lo ≤ ns.getD k 0 ∧ ns.getD k 0 ≤ hi
  · exact hn
  · rw [withinB_no hk hn] at h; cases h
theorem intsAt_new (w : World) (n : Int) : IntsAt (w.alloc (.cells #[.int .i64 n] 3)) (some ⟨w.heap.size, 0, none⟩) [n] :=
  .inr ⟨w.heap.size, 0, rfl, fun i hi => by
    have : i = 0 := by simpa using hi
    subst this
    simp⟩

set_option maxRecDepth 100000 in
set_option maxHeartbeats 2000000 in
theorem size_any (v : Value) (f : FileD) (w : World) (hv : NodeVal w v f) (hs : SmallF f) :
    Calls Try.prog 96 #[v] w fun e w' => SaysB e (SizeOk f) ∧ Below w.heap.size w w' := by
  obtain ⟨b, o, rfl, hf⟩ := hv
  obtain ⟨ab, cb, al, cl, ⟨c0, c1, c2, c3, c4⟩, ⟨hib, _⟩, _, _⟩ := hf
  obtain ⟨fid, fdir, fsize, fbl, fli⟩ := f
  simp only [SmallF] at *
  have hl := hs.1
  have HI : Hid (IntsAt w ab fbl) := hib
  clear hib hs c0 c1 c4
  have hb : b < w.heap.size := block_lt_of_cell c3
  obtain ⟨W1, hW1⟩ : ∃ W1, W1 = (w.alloc (.cells #[.pointer (some ⟨b, o, none⟩)] 120)).alloc (.cells #[.int .i64 fsize] 3) := ⟨_, rfl⟩
  have HB1 : Hid (Below w.heap.size w W1) := by rw [hW1]; exact nwA (nwA (nwR w) _) _
  have HN1 : Hid (IntsAt W1 (some ⟨w.heap.size + 1, 0, none⟩) [fsize]) := by
    have := intsAt_new (w.alloc (.cells #[.pointer (some ⟨b, o, none⟩)] 120)) fsize
    show IntsAt _ _ _; rw [← hW1] at this; simpa using this
  have HP : Hid (W1.cell? ⟨w.heap.size, 0, none⟩ = some (.pointer (some ⟨b, o, none⟩))) := by rw [hW1]; show _ = _; simp
  cases hn : numB fsize 200
  · have HNO : Hid (¬ SizeOk ⟨fid, fdir, fsize, fbl, fli⟩) := fun h => by have := h.1; simp only at this; rw [hn] at this; cases this
    have HW : Hid (withinB 0 200 [fsize] = false) := by rw [withinB_one]; exact hn
    go_enter Try.func96, Try.ntmps96
    go_wp2_with fail
    rw [← hW1]
    refine (within_is 0 200 (some ⟨w.heap.size + 1, 0, none⟩) [fsize] 1 W1 false HN1.out (by simp) HW.out).mono ?_
    rintro e w' ⟨rfl, rfl⟩
    clear hW1
    go_wp2_with fail
    go_ret
    exact ⟨says_no HNO.out, HB1.out⟩
  · have HW : Hid (withinB 0 200 [fsize] = true) := by rw [withinB_one]; exact hn
    have hn0 : 0 ≤ fsize ∧ fsize ≤ 200 := by simpa [numB] using hn
    obtain ⟨n0, n1⟩ := hn0
    have HNUM : Hid (numB fsize 200 = true) := hn
    have q2 : W1.cell? ⟨b, o + 2, none⟩ = some (.int .i64 fsize) := (HB1.out.cell (p := ⟨b, o + 2, none⟩) hb).trans c2
    have q3 : W1.cell? ⟨b, o + 3, none⟩ = some (.slice ab fbl.length cb) := (HB1.out.cell (p := ⟨b, o + 3, none⟩) hb).trans c3
    have HI1 : Hid (IntsAt W1 ab fbl) := HI.out.below HB1.out
    clear HI hn
    go_enter Try.func96, Try.ntmps96
    go_wp2_with fail
    rw [← hW1]
    refine (within_is 0 200 (some ⟨w.heap.size + 1, 0, none⟩) [fsize] 1 W1 true HN1.out (by simp) HW.out).mono ?_
    rintro e w' ⟨rfl, rfl⟩
    have p0 := HP.out
    have e1 : IntKind.i64.wrap (fsize + 32) = fsize + 32 := wrap_any (by omega) (by omega)
    have e2 : IntKind.i64.wrap (fsize + 32 - 1) = fsize + 32 - 1 := wrap_any (by omega) (by omega)
    have e3 : IntKind.i64.wrap ((fsize + 32 - 1).tdiv 32) = (fsize + 31) / 32 := by
      rw [show fsize + 32 - 1 = fsize + 31 from by omega, Int.tdiv_eq_ediv_of_nonneg (by omega)]
      exact wrap_any (by omega) (by omega)
    clear hW1 c2 c3
    by_cases h3 : (fbl.length : Int) = (fsize + 31) / 32
    · have d3 : ((fbl.length : Int) == (fsize + 31) / 32) = true := by simpa using h3
      have HH3 : Hid ((fbl.length : Int) = (fsize + 31) / 32) := h3
      clear h3
      cases hw : withinB 0 1073741823 fbl
      · have HNO : Hid (¬ SizeOk ⟨fid, fdir, fsize, fbl, fli⟩) := fun h => by
          have h2 : withinB 0 1073741823 fbl = true := withinB_yes (fun k hk => by have := h.2.2 k hk; simpa [numB] using this)
          rw [hw] at h2; cases h2
        go_wp2_with fail
        go_quiet (first | (go_at_call 88; exact Calls.quiet_of_same (within_is _ _ _ _ _ _ false HI1.out hl hw)) | fail)
        go_wp2_with fail
        go_ret
        exact ⟨says_no HNO.out, below_drewN HB1.out _⟩
      · have HYES : Hid (SizeOk ⟨fid, fdir, fsize, fbl, fli⟩) := ⟨HNUM.out, HH3.out, fun k hk => by have := withinB_all.1 hw k hk; simpa [numB] using this⟩
        go_wp2_with fail
        go_quiet (first | (go_at_call 88; exact Calls.quiet_of_same (within_is _ _ _ _ _ _ true HI1.out hl hw)) | fail)
        go_wp2_with fail
        go_ret
        exact ⟨says_yes HYES.out, below_drewN HB1.out _⟩
    · have HNO : Hid (¬ SizeOk ⟨fid, fdir, fsize, fbl, fli⟩) := fun h => h3 h.2.1
      have d3 : ((fbl.length : Int) == (fsize + 31) / 32) = false := by simpa using h3
      clear h3
      go_wp2_with fail
      go_quiet (fail)
      go_wp2_with fail
      go_ret
      exact ⟨says_no HNO.out, below_drewN HB1.out _⟩

def NodeOk (f : FileD) : Prop := if f.dir then f.size = 0 ∧ f.blocks.length = 0 ∧ NamesOk f.list else f.list.length = 0 ∧ SizeOk f

set_option maxRecDepth 100000 in
set_option maxHeartbeats 2000000 in
theorem nmay_any (v : Value) (f : FileD) (w : World) (hv : NodeVal w v f) (hs : SmallF f) :
    Calls Try.prog 89 #[v] w fun e w' => SaysB e (NodeOk f) ∧ Below w.heap.size w w' := by
  have HV : Hid (NodeVal w v f) := hv
  have HS : Hid (SmallF f) := hs
  obtain ⟨b, o, rfl, hf⟩ := hv
  obtain ⟨ab, cb, al, cl, ⟨c0, c1, c2, c3, c4⟩, _, _, _⟩ := hf
  have hb : b < w.heap.size := block_lt_of_cell c4
  have HB1 : Hid (Below w.heap.size w (w.alloc (.cells #[.pointer (some ⟨b, o, none⟩)] 120))) := nwA (nwR w) _
  have HNM : Hid (Calls Try.prog 95 #[.agg #[.pointer (some ⟨b, o, none⟩)]] (w.alloc (.cells #[.pointer (some ⟨b, o, none⟩)] 120)) fun e w' => SaysB e (NamesOk f.list) ∧ Below (w.alloc (.cells #[.pointer (some ⟨b, o, none⟩)] 120)).heap.size (w.alloc (.cells #[.pointer (some ⟨b, o, none⟩)] 120)) w') := names_any _ f _ (HV.out.below HB1.out) HS.out
  have HSZ : Hid (Calls Try.prog 96 #[.agg #[.pointer (some ⟨b, o, none⟩)]] (w.alloc (.cells #[.pointer (some ⟨b, o, none⟩)] 120)) fun e w' => SaysB e (SizeOk f) ∧ Below (w.alloc (.cells #[.pointer (some ⟨b, o, none⟩)] 120)).heap.size (w.alloc (.cells #[.pointer (some ⟨b, o, none⟩)] 120)) w') := size_any _ f _ (HV.out.below HB1.out) HS.out
  have HOK : Hid (NodeOk f ↔ if f.dir then f.size = 0 ∧ f.blocks.length = 0 ∧ NamesOk f.list else f.list.length = 0 ∧ SizeOk f) := Iff.rfl
  generalize NamesOk f.list = PN at HOK HNM
  generalize SizeOk f = PS at HOK HSZ
  generalize NodeOk f = PO at HOK
  clear HV HS
  obtain ⟨fid, fdir, fsize, fbl, fli⟩ := f
  simp only at *
  cases fdir
  · by_cases h1 : fli.length = 0
    · have d1 : ((fli.length : Int) == 0) = true := beq_iff_eq.2 (by omega)
      go_enter Try.func89, Try.ntmps89
      go_wp2_with fail
      refine HSZ.out.mono ?_
      rintro e w' ⟨⟨bb, rfl, hbb⟩, hb2⟩
      have HR : Hid (bb = true ↔ PO) := by show _ ↔ _; rw [hbb]; have := HOK.out; simp [h1] at this; exact this.symm
      have HBB : Hid (Below w.heap.size w w') := nwT HB1.out hb2
      clear hbb hb2
      go_wp2_with fail
      go_ret
      exact ⟨⟨bb, rfl, HR.out⟩, HBB.out⟩
    · have d1 : ((fli.length : Int) == 0) = false := beq_eq_false_iff_ne.2 (by omega)
      have HNO : Hid (¬ PO) := fun h => by have := HOK.out.1 h; simp at this; exact h1 (by simp [this.1])
      clear h1
      go_enter Try.func89, Try.ntmps89
      go_wp2_with fail
      go_ret
      exact ⟨says_no HNO.out, HB1.out⟩
  · by_cases h1 : fsize = 0
    · subst h1
      by_cases h2 : fbl.length = 0
      · have d1 : ((fbl.length : Int) == 0) = true := beq_iff_eq.2 (by omega)
        go_enter Try.func89, Try.ntmps89
        go_wp2_with fail
        refine HNM.out.mono ?_
        rintro e w' ⟨⟨bb, rfl, hbb⟩, hb2⟩
        have HR : Hid (bb = true ↔ PO) := by show _ ↔ _; rw [hbb]; have := HOK.out; simp [h2] at this; exact this.symm
        have HBB : Hid (Below w.heap.size w w') := nwT HB1.out hb2
        clear hbb hb2
        go_wp2_with fail
        go_ret
        exact ⟨⟨bb, rfl, HR.out⟩, HBB.out⟩
      · have d1 : ((fbl.length : Int) == 0) = false := beq_eq_false_iff_ne.2 (by omega)
        have HNO : Hid (¬ PO) := fun h => by have := HOK.out.1 h; simp at this; exact h2 (by simp [this.1])
        clear h2
        go_enter Try.func89, Try.ntmps89
        go_wp2_with fail
        go_ret
        exact ⟨says_no HNO.out, HB1.out⟩
    · have d1 : (fsize == 0) = false := beq_eq_false_iff_ne.2 h1
      have HNO : Hid (¬ PO) := fun h => by have := HOK.out.1 h; simp at this; exact h1 this.1
      clear h1
      go_enter Try.func89, Try.ntmps89
      go_wp2_with fail
      go_ret
      exact ⟨says_no HNO.out, HB1.out⟩

end Go.Proofs.Ytodahdnnlkcfdaa

/- A volume by a pointer: where a file stands, how many links name it. -/
namespace Go.Proofs.Ytodahdnnlkcfdaa
open Go.RowKit

/-- a volume at a block -/
def VolAt (w : World) (B : Nat) (d : VolD) : Prop := ∃ a c, w.heap[B]? = some (.cells #[.int .i64 d.id, .int .i64 d.fr, .bool d.snap, .slice a d.files.length c, .int .i64 d.next] 115 (0, 0)) ∧ FilesAt w a d.files ∧ CapOk a c d.files.length
theorem VolAt.below {w w' : World} {B : Nat} {d : VolD} (h : VolAt w B d) (hb : Below w.heap.size w w') : VolAt w' B d := by
  obtain ⟨a, c, h1, h2, h3⟩ := h
  exact ⟨a, c, (hb.block _ (Array.getElem?_eq_some_iff.1 h1).1).trans h1, h2.below hb, h3⟩

set_option maxRecDepth 100000 in
set_option maxHeartbeats 1000000 in
theorem idx1_any (v : Value) (f : FileD) (id : Int) (B : Nat) (w : World) (hv : FileVal w v f) (hc : w.cell? ⟨B, 0, none⟩ = some (.int .i64 id)) :
    Calls Try.prog 98 #[v, .pointer (some ⟨B, 0, none⟩)] w fun e w' => e = .returned (.bool (f.id == id)) ∧ Below w.heap.size w w' := by
  obtain ⟨ab, cb, al, cl, rfl, _⟩ := hv
  obtain ⟨fid, fdir, fsize, fbl, fli⟩ := f
  simp only [fcells]
  have hB := block_lt_of_cell hc
  simp only at hB
  go_enter Try.func98, Try.ntmps98
  go_wp2_with fail
  go_ret
  exact ⟨rfl, nwA (nwR w) _⟩

set_option maxRecDepth 100000 in
set_option maxHeartbeats 1000000 in
theorem idxf_any (a : Option Addr) (fs : List FileD) (ca : Nat) (id : Int) (B : Nat) (w : World) (hv : FilesAt w a fs) (hl : fs.length ≤ 100000) (hc : w.cell? ⟨B, 0, none⟩ = some (.int .i64 id)) :
    Calls Try.prog 97 #[.slice a fs.length ca, .func (.func 98) #[] #[.pointer (some ⟨B, 0, none⟩)]] w fun e w' => e = .returned (.int .i64 (optI (atI fs id))) ∧ Below w.heap.size w w' := by
  have HF : Hid (FilesAt w a fs) := hv
  have HC : Hid (w.cell? ⟨B, 0, none⟩ = some (.int .i64 id)) := hc
  clear hv hc
  go_enter Try.func97, Try.ntmps97
  go_wp2_with fail
  go_loopw [8] (fun i wr => ∃ (k : Nat), k ≤ fs.length ∧ i = .int .i64 k ∧ Below w.heap.size w wr ∧ Hid (∀ j, j < k → ((fs.getD j f0).id == id) = false))
    (fun i _ => fs.length - (intOf i).toNat)
  case atStart => exact ⟨0, by omega, rfl, nwR w, fun j hj => by omega⟩
  case round =>
    obtain ⟨k, hk, rfl, hb, HE⟩ := hrel
    by_cases hlt : k < fs.length
    · obtain ⟨b1, o1, rfl, hf⟩ := (HF.out.below hb).file hlt
      obtain ⟨ab, cb, al, cl, ⟨c0, c1, c2, c3, c4⟩, hib, hil⟩ := hf
      have hlti : (k : Int) < (fs.length : Int) := by omega
      have HV : Hid (FileVal wr (.agg #[.int .i64 (fs.getD k f0).id, .bool (fs.getD k f0).dir, .int .i64 (fs.getD k f0).size, .slice ab (fs.getD k f0).blocks.length cb, .slice al (fs.getD k f0).list.length cl]) (fs.getD k f0)) := ⟨ab, cb, al, cl, rfl, hib, hil⟩
      have HCW : Hid (wr.cell? ⟨B, 0, none⟩ = some (.int .i64 id)) := (hb.cell (p := ⟨B, 0, none⟩) (block_lt_of_cell HC.out)).trans HC.out
      clear hib hil
      have HK : Hid (((fs.getD k f0).id == id) = false → ∀ j, j < k + 1 → ((fs.getD j f0).id == id) = false) := fun h j hj => by
        by_cases e : j = k
        · subst e; exact h
        · exact HE.out j (by omega)
      have HY : Hid (((fs.getD k f0).id == id) = true → atI fs id = some k) := fun h => find_yes f0 hlt h (fun j hj => HE.out j hj)
      generalize fs.getD k f0 = f at c0 c1 c2 c3 c4 HV HK HY
      go_wp2_with fail
      refine (idx1_any _ f id B _ HV.out HCW.out).mono ?_
      rintro e w2 ⟨rfl, hb2⟩
      have hbb := nwT hb hb2
      cases he : (f.id == id)
      · have HN := HK.out he
        go_wp2_with fail
        go_roundw
        case rel => exact ⟨k + 1, by omega, by go_num, hbb, HN⟩
        case measure => simp [intOf]; omega
      · have HR : Hid (atI fs id = some k) := HY.out he
        go_wp2_with fail
        go_ret
        exact ⟨ret_int (by rw [HR.out]; rfl), hbb⟩
    · have hlti : ¬ (k : Int) < (fs.length : Int) := by omega
      have HY : Hid (atI fs id = none) := find_no f0 (fun j hj => HE.out j (by omega))
      go_wp2_with fail
      go_ret
      exact ⟨ret_int (by rw [HY.out]; rfl), hb⟩

set_option maxRecDepth 100000 in
set_option maxHeartbeats 1000000 in
theorem index_any (B : Nat) (d : VolD) (id : Int) (w : World) (hv : VolAt w B d) (hl : d.files.length ≤ 100000) :
    Calls Try.prog 90 #[.pointer (some ⟨B, 0, none⟩), .int .i64 id] w fun e w' => e = .returned (.int .i64 (optI (atI d.files id))) ∧ Below w.heap.size w w' := by
  obtain ⟨a, c, hB, hf, _⟩ := hv
  obtain ⟨vid, fr, snap, fs, next⟩ := d
  simp only at *
  obtain ⟨x0, x1, x2, x3, x4, _⟩ := five hB
  have hlt := block_lt_of_cell x0
  simp only at hlt
  have HF : Hid (FilesAt w a fs) := hf
  clear hf hB x0 x1 x2 x4
  go_enter Try.func90, Try.ntmps90
  go_wp2_with fail
  refine (idxf_any a fs c id w.heap.size _ (HF.out.below (nwA (nwR w) _)) hl (by simp)).mono ?_
  rintro e w2 ⟨rfl, hb2⟩
  go_wp2_with fail
  go_ret
  exact ⟨rfl, nwT (nwA (nwR w) _) hb2⟩

/-- the place of a file in a volume that is there -/
def NodeOf (w : World) (B : Nat) (d : VolD) (v : Value) (q : Nat) : Prop := ∃ a o c, w.heap[B]? = some (.cells #[.int .i64 d.id, .int .i64 d.fr, .bool d.snap, .slice (some ⟨a, o, none⟩) d.files.length c, .int .i64 d.next] 115 (0, 0)) ∧ q < d.files.length ∧ v = .agg #[.pointer (some ⟨a, o + q * 5, none⟩)]
theorem NodeOf.val {w : World} {B q : Nat} {d : VolD} {v : Value} (h : NodeOf w B d v q) (hv : VolAt w B d) : NodeVal w v (d.files.getD q f0) := by
  obtain ⟨a, o, c, h1, h2, h3⟩ := h
  obtain ⟨a', c', g1, g2, _⟩ := hv
  rw [g1] at h1
  simp only [Option.some.injEq, Obj.cells.injEq, Array.mk.injEq, List.cons.injEq, Value.slice.injEq, true_and, and_true] at h1
  obtain ⟨e1, e2⟩ := h1
  subst e1
  obtain ⟨b2, o2, e3, hf⟩ := g2.file h2
  injection e3 with e3
  injection e3 with e4 e5
  subst e4; subst e5
  exact ⟨_, _, h3, hf⟩
theorem NodeOf.below {w w' : World} {B q : Nat} {d : VolD} {v : Value} (h : NodeOf w B d v q) (hb : Below w.heap.size w w') : NodeOf w' B d v q := by
  obtain ⟨a, o, c, h1, h2, h3⟩ := h
  exact ⟨a, o, c, (hb.block _ (Array.getElem?_eq_some_iff.1 h1).1).trans h1, h2, h3⟩

set_option maxRecDepth 100000 in
set_option maxHeartbeats 2000000 in
theorem file_any (B : Nat) (d : VolD) (id : Int) (q : Nat) (w : World) (hv : VolAt w B d) (hl : d.files.length ≤ 100000) (hq : atI d.files id = some q) :
    Calls Try.prog 94 #[.pointer (some ⟨B, 0, none⟩), .int .i64 id] w fun e w' => (∃ v, e = .returned v ∧ NodeOf w' B d v q) ∧ Below w.heap.size w w' := by
  have HV : Hid (VolAt w B d) := hv
  have HQ : Hid (atI d.files id = some q) := hq
  obtain ⟨a, c, hB, hf, _⟩ := hv
  have hql := atI_lt hq
  obtain ⟨b1, o1, rfl, _⟩ := hf.file hql
  have HBK : Hid (w.heap[B]? = some (.cells #[.int .i64 d.id, .int .i64 d.fr, .bool d.snap, .slice (some ⟨b1, o1, none⟩) d.files.length c, .int .i64 d.next] 115 (0, 0))) := hB
  clear hf hq hB
  have hBl := (Array.getElem?_eq_some_iff.1 HBK.out).1
  go_enter Try.func94, Try.ntmps94
  go_wp2_with fail
  obtain ⟨W0, hW0⟩ : ∃ W0, W0 = w.alloc (.cells #[.pointer none] 120) := ⟨_, rfl⟩
  have HB0 : Hid (Below w.heap.size w W0) := by rw [hW0]; exact nwA (nwR w) _
  have hS := nwR W0
  obtain ⟨x0, x1, x2, x3, x4, _⟩ := five ((HB0.out.block _ hBl).trans HBK.out)
  have z3 : ∀ w', Below W0.heap.size W0 w' → w'.cell? ⟨B, 3, none⟩ = some (.slice (some ⟨b1, o1, none⟩) d.files.length c) := fun w' h => (h.cell (p := ⟨B, 3, none⟩) (block_lt_of_cell x3)).trans x3
  rw [← hW0]
  have HH0 : Hid (W0.heap[w.heap.size]? = some (.cells #[.pointer none] 120 (0, 0))) := by rw [hW0]; exact heap_alloc_new w _
  have hW0s : W0.heap.size = w.heap.size + 1 := by rw [hW0]; simp
  have HSZ : Hid (W0.heap.size = w.heap.size + 1) := hW0s
  clear hW0 hW0s x0 x1 x2 x4
  have hq0 : (0 : Int) ≤ (q : Int) := by omega
  have hqi : (q : Int) < (d.files.length : Int) := by omega
  have HI : Hid (∀ W, Below W0.heap.size W0 W → Calls Try.prog 90 #[.pointer (some ⟨B, 0, none⟩), .int .i64 id] W fun e w' => e = .returned (.int .i64 q) ∧ Below W0.heap.size W0 w') := fun W h =>
    (index_any B d id W (HV.out.below (nwT HB0.out h)) hl).mono fun e w' ⟨he, hb⟩ => ⟨by rw [he, HQ.out]; rfl, nwT h hb⟩
  have HK : Hid (∀ W, Below W0.heap.size W0 W → W.cell? ⟨w.heap.size, 0, none⟩ = some (.pointer none) ∧ W.frozen? ⟨w.heap.size, 0, none⟩ = false) := fun W h => by
    have kB := (h.block w.heap.size (by have := HSZ.out; omega)).trans HH0.out
    exact ⟨by rw [Lib.cell_of_heap kB]; rfl, Lib.frozen_of_heap kB 0⟩
  go_region_with (first
    | (go_at_call 90; refine (HI.out _ (Below.drew hS)).mono ?_; rintro e wU ⟨rfl, hbu⟩; have k3 := z3 wU hbu; obtain ⟨k0, kf⟩ := HK.out wU hbu)
    | fail)
  all_goals
    go_wp2_with fail
    have HB2 : Hid (Below w.heap.size w wU) := nwT HB0.out hbu
    refine bodyPost_ret (v := .agg #[.pointer (some ⟨b1, o1 + q * 5, none⟩)]) (by simp [results, Try.results94, go_sem, k0]) rfl ⟨⟨_, rfl, b1, o1, c, ?_, hql, rfl⟩, ?_⟩
    · exact (Below.heap_setCell _ _ _ _ (by show B ≠ w.heap.size; omega)).trans ((HB2.out.block B hBl).trans HBK.out)
    · exact HB2.out.setCell (p := ⟨w.heap.size, 0, none⟩) (Nat.le_refl _) _

set_option maxRecDepth 100000 in
set_option maxHeartbeats 1000000 in
theorem vlinks_any (B : Nat) (d : VolD) (id : Int) (w : World) (hv : VolAt w B d) (hs : SmallV d) :
    Calls Try.prog 92 #[.pointer (some ⟨B, 0, none⟩), .int .i64 id] w fun e w' => e = .returned (.int .i64 (linksN d.files id)) ∧ Below w.heap.size w w' := by
  obtain ⟨a, c, hB, hf, _⟩ := hv
  obtain ⟨vid, fr, snap, fs, next⟩ := d
  simp only [SmallV] at *
  obtain ⟨hl, hs2⟩ := hs
  have HS : Hid (∀ f ∈ fs, SmallF f) := hs2
  have HBK : Hid (w.heap[B]? = some (.cells #[.int .i64 vid, .int .i64 fr, .bool snap, .slice a fs.length c, .int .i64 next] 115 (0, 0))) := hB
  obtain ⟨x0, x1, x2, x3, x4, _⟩ := five hB
  have hlt := block_lt_of_cell x0
  simp only at hlt
  have HF : Hid (FilesAt w a fs) := hf
  clear hf hB x0 x1 x2 x4 hs2
  go_enter Try.func92, Try.ntmps92
  go_wp2_with fail
  clear x3
  go_loopw [5, 13] (fun n i wr => ∃ (k : Nat), k ≤ fs.length ∧ i = .int .i64 k ∧ n = .int .i64 (linksN (fs.take k) id) ∧ Below w.heap.size w wr)
    (fun _ i _ => fs.length - (intOf i).toNat)
  case atStart => exact ⟨0, by omega, rfl, rfl, nwR w⟩
  case round =>
    obtain ⟨k, hk, rfl, rfl, hb⟩ := hrel
    by_cases hkl : k < fs.length
    · have hkli : (k : Int) < (fs.length : Int) := by omega
      obtain ⟨b1, o1, rfl, hfi⟩ := (HF.out.below hb).file hkl
      have HN : Hid (NodeVal wr (.agg #[.pointer (some ⟨b1, o1 + k * 5, none⟩)]) (fs.getD k f0)) := ⟨_, _, rfl, hfi⟩
      have HSU : Hid (linksN (fs.take (k + 1)) id = linksN (fs.take k) id + cntL (fs.getD k f0).list id) := linksN_succ hkl id
      have hbd : linksN (fs.take k) id ≤ 10000000000 := by
        have h1 := linksN_le (fs := fs.take k) id (fun g hg => HS.out g (List.mem_of_mem_take hg))
        have h2 : (fs.take k).length ≤ 100000 := by rw [List.length_take]; omega
        have h3 : (fs.take k).length * 100000 ≤ 100000 * 100000 := Nat.mul_le_mul_right _ h2
        omega
      have HSM : Hid (SmallF (fs.getD k f0)) := HS.out (fs.getD k f0) (by simp [List.getD, hkl])
      have hcn : cntL (fs.getD k f0).list id ≤ 100000 := by have h1 := cntL_le (fs.getD k f0).list id; have h2 := HSM.out.2; omega
      obtain ⟨y0, y1, y2, y3, y4, _⟩ := five ((hb.block _ (Array.getElem?_eq_some_iff.1 HBK.out).1).trans HBK.out)
      clear hfi y0 y1 y2 y4
      generalize linksN (fs.take k) id = M at HSU hbd
      generalize fs.getD k f0 = f at HSU HSM HN hcn
      go_wp2_with fail
      refine (nlinks_any _ f id _ HN.out HSM.out).mono ?_
      rintro e w2 ⟨rfl, hb2⟩
      have HBB : Hid (Below w.heap.size w w2) := nwT hb hb2
      clear hb hb2 y3
      generalize cntL f.list id = C at HSU hcn
      go_wp2_with fail
      go_roundw
      case rel => exact ⟨k + 1, by omega, by go_num, by rw [HSU.out]; simp, HBB.out⟩
      case measure => simp [intOf]; omega
    · have hkli : ¬ (k : Int) < (fs.length : Int) := by omega
      have e : fs.take k = fs := List.take_of_length_le (by omega)
      rw [e]
      go_wp2_with fail
      go_ret
      exact ⟨rfl, hb⟩

def MayN (id : Int) (dir : Bool) (n : Nat) : Prop := (id = 1 → n = 0) ∧ (id ≠ 1 → n ≠ 0 ∧ (dir = true → n = 1))
set_option maxRecDepth 100000 in
set_option maxHeartbeats 1000000 in
theorem mayHave_any (v : Value) (f : FileD) (n : Nat) (w : World) (hv : FileVal w v f) :
    Calls Try.prog 91 #[v, .int .i64 n] w fun e w' => SaysB e (MayN f.id f.dir n) ∧ Below w.heap.size w w' := by
  obtain ⟨ab, cb, al, cl, rfl, _⟩ := hv
  obtain ⟨fid, fdir, fsize, fbl, fli⟩ := f
  simp only [fcells]
  have HB : Hid (Below w.heap.size w (w.alloc (.cells #[.int .i64 fid, .bool fdir, .int .i64 fsize, .slice ab fbl.length cb, .slice al fli.length cl] 84))) := nwA (nwR w) _
  by_cases h1 : fid = 1
  · subst h1
    have HR : Hid ((((n : Int) == 0) = true) ↔ MayN 1 fdir n) := by show _ ↔ _; unfold MayN; rw [beq_iff_eq]; constructor
                                                                    · intro h; exact ⟨fun _ => by omega, fun h => absurd rfl h⟩
                                                                    · intro h; have := h.1 rfl; omega
    go_enter Try.func91, Try.ntmps91
    go_wp2_with fail
    go_ret
    exact ⟨⟨_, rfl, HR.out⟩, HB.out⟩
  · have h1b : (fid == 1) = false := beq_eq_false_iff_ne.2 h1
    cases fdir
    · have HR : Hid ((decide (1 ≤ (n : Int)) = true) ↔ MayN fid false n) := by
        show _ ↔ _; unfold MayN; rw [decide_eq_true_iff]; constructor
        · intro h; exact ⟨fun e => absurd e h1, fun _ => ⟨by omega, fun e => by cases e⟩⟩
        · intro h; have := (h.2 h1).1; omega
      clear h1
      go_enter Try.func91, Try.ntmps91
      go_wp2_with fail
      go_ret
      exact ⟨⟨_, rfl, HR.out⟩, HB.out⟩
    · have HR : Hid ((((n : Int) == 1) = true) ↔ MayN fid true n) := by
        show _ ↔ _; unfold MayN; rw [beq_iff_eq]; constructor
        · intro h; exact ⟨fun e => absurd e h1, fun _ => ⟨by omega, fun e => by omega⟩⟩
        · intro h; have := (h.2 h1).2 rfl; omega
      clear h1
      go_enter Try.func91, Try.ntmps91
      go_wp2_with fail
      go_ret
      exact ⟨⟨_, rfl, HR.out⟩, HB.out⟩

end Go.Proofs.Ytodahdnnlkcfdaa

/- A region that draws its order, whose operations read what was there, and whose callees make memory: walked once. -/
namespace Go.Proofs.Ytodahdnnlkcfdaa
open Go.RowKit

structure Kin (w : World) where
  u : World
  h : Below w.heap.size w u
instance (w : World) : Inhabited (Kin w) := ⟨⟨w, nwR w⟩⟩
theorem wp_region_kin {P : Program} {id : Nat} {Q : Exit → Act → World → Prop} {a : Act} {w : World} {l : List Oper} (hm : P.follows .mixedOrders = true) (hB : Region.lexB .any l.toArray = true)
    (h : wpQuiet P l.toArray (fun w' => ∃ p : Kin w, w' = p.u) (fun a' => ∀ w', (∃ p : Kin w, w' = p.u) → Q .normal a' w') l a) : (Code.region id l.toArray true).wp P Q a w :=
  wp_region_quiet (C := fun w' => ∃ p : Kin w, w' = p.u) hm hB ⟨⟨_, Below.drew (nwR w)⟩, rfl⟩ (by simpa using h)
theorem Calls.kin_of {P : Program} {f : FuncId} {args : Array Value} {w : World} {p : Kin w} {v : Value}
    (h : Calls P f args p.u fun e w' => e = .returned v ∧ Below p.u.heap.size p.u w') : Calls P f args p.u fun e w'' => e = .returned v ∧ ∃ p' : Kin w, w'' = p'.u :=
  h.mono fun _ _ ⟨he, hb⟩ => ⟨he, ⟨_, nwT p.h hb⟩, rfl⟩
theorem Calls.kin_same {P : Program} {f : FuncId} {args : Array Value} {w : World} {p : Kin w} {v : Value}
    (h : Calls P f args p.u fun e w' => e = .returned v ∧ w' = p.u) : Calls P f args p.u fun e w'' => e = .returned v ∧ ∃ p' : Kin w, w'' = p'.u :=
  h.mono fun _ _ ⟨he, hb⟩ => ⟨he, p, hb⟩
theorem kcell {w : World} {b o : Nat} {v : Value} (h : w.cell? ⟨b, o, none⟩ = some v) (p : Kin w) : p.u.cell? ⟨b, o, none⟩ = some v := (p.h.cell (p := ⟨b, o, none⟩) (block_lt_of_cell h)).trans h

/- a region step by step: the place that a step writes is named -/
theorem takeYes {P : Program} {md : Region.Mode} {ops : Array Oper} {Q : Exit → Act → World → Prop} {S : World → Prop} (i : Nat) (dst : Option Tmp) {oi : Oper} {v : Value} {fuel : Nat} {listed : Array Bool} {a : Act} {w : World} (hi : ops[i]? = some oi)
    (hs : Region.noSelect ops = true) (hf : Region.free md ops listed i = true) (hr : (Region.ready md ops listed).contains i = true) (hd : oi.dst = dst)
    (hQ : ∀ c a w, Q (.panic c) (a.put dst v) w → Q (.panic c) a w) (hw : Region.wanted oi (yielded ops a.tmps) = true) (hy : ∀ w, S w → (execOp a.eval oi).run P w = .ok (.value v) w) (hS : S w)
    (h : wpAnyH P md ops Q S fuel (listed.setIfInBounds i true) (a.put dst v) w) : wpAnyH P md ops Q S (fuel + 1) listed a w := by
  subst hd
  exact wpAnyH_take hi hs hf hr hQ (Or.inl ⟨hw, hy⟩) hS h
theorem takeNo {P : Program} {md : Region.Mode} {ops : Array Oper} {Q : Exit → Act → World → Prop} {S : World → Prop} (i : Nat) (dst : Option Tmp) {oi : Oper} {fuel : Nat} {listed : Array Bool} {a : Act} {w : World} (hi : ops[i]? = some oi)
    (hs : Region.noSelect ops = true) (hf : Region.free md ops listed i = true) (hr : (Region.ready md ops listed).contains i = true) (hd : oi.dst = dst)
    (hQ : ∀ c a w, Q (.panic c) (a.put dst undef) w → Q (.panic c) a w) (hw : Region.wanted oi (yielded ops a.tmps) = false) (hS : S w)
    (h : wpAnyH P md ops Q S fuel (listed.setIfInBounds i true) (a.put dst undef) w) : wpAnyH P md ops Q S (fuel + 1) listed a w := by
  subst hd
  exact wpAnyH_take hi hs hf hr hQ (Or.inr ⟨hw, rfl⟩) hS h

end Go.Proofs.Ytodahdnnlkcfdaa
