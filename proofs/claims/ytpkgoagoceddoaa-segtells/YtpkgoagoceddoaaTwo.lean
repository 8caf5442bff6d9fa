/- seg's gatherTwo, Less, Both by their contracts. -/
import Derived.Test.YtpkgoagoceddoaaReg
namespace Go.Proofs.Ytpkgoagoceddoaa
open Go.RowKit

def vOk (l : List (Int × Int)) : Bool := validFrom 0 l

theorem allOk_one (a : Option Addr) (c : Nat) (l : List (Int × Int)) : allOk [(a, c, l)] = vOk l := by simp [allOk, vOk]
theorem gset_one (a : Option Addr) (c : Nat) (l : List (Int × Int)) (h : vOk l = true) : gset [(a, c, l)] = memS l := by
  rw [gset, allOk_one, h]; funext k; simp [memAny]

theorem gather_one (a : Option Addr) (l : List (Int × Int)) (c cap : Nat) (w : World) (hs : SegsAt w a l) (hl : l.length ≤ maxLen) :
    Calls Try.prog 37 #[.slice (some ⟨w.heap.size, 0, none⟩) 1 cap] (w.alloc (.cells #[.slice a l.length c] 27)) fun e w' =>
      e = .returned (.tuple #[.agg (setArr (gset [(a, c, l)])), .int .i64 (errOf (vOk l))]) ∧ Below w.heap.size w w' := by
  refine (gather_any (some ⟨w.heap.size, 0, none⟩) [(a, c, l)] cap _ (rows1 c 27 hs hl) (by simp [maxLen])).mono ?_
  rintro e w1 ⟨rfl, hb⟩
  rw [allOk_one]
  exact ⟨rfl, nwT (nwA (nwR w) _) hb⟩

def twoOk (l m : List (Int × Int)) : Bool := vOk l && vOk m
def setL (l m : List (Int × Int)) : Nat → Bool := if twoOk l m then memS l else fun _ => false
def setM (l m : List (Int × Int)) : Nat → Bool := if twoOk l m then memS m else fun _ => false

set_option maxHeartbeats 400000 in
theorem gatherTwo_yes (a b : Option Addr) (l m : List (Int × Int)) (ca cb : Nat) (w : World) (ha : SegsAt w a l) (hb : SegsAt w b m) (hl : l.length ≤ maxLen) (hm : m.length ≤ maxLen) (ho : vOk l = true) (hp : vOk m = true) :
    Calls Try.prog 43 #[.slice a l.length ca, .slice b m.length cb] w fun e w' =>
      e = .returned (.tuple #[.agg (setArr (memS l)), .agg (setArr (memS m)), .int .i64 0]) ∧ Below w.heap.size w w' := by
  have HA : Hid (SegsAt w a l) := ha
  have HB : Hid (SegsAt w b m) := hb
  clear ha hb
  go_enter Try.func43, Try.ntmps43
  go_wp2_with (refine wpList_alloc64 rfl rfl ?_)
  have hs2 : ((w.alloc (.cells (setArr fun _ => false) 64)).alloc (.cells (setArr fun _ => false) 64)).heap.size = w.heap.size + 1 + 1 := by simp
  obtain ⟨W2, hW2⟩ : ∃ W2, W2 = (w.alloc (.cells (setArr fun _ => false) 64)).alloc (.cells (setArr fun _ => false) 64) := ⟨_, rfl⟩
  have HN2 : Hid (Below w.heap.size w W2) := by rw [hW2]; exact nwA (nwA (nwR w) _) _
  have HR4 : Hid (SetIs W2 w.heap.size (fun _ => false)) := by rw [hW2]; exact (SetIs.new w).alloc _
  have HR5 : Hid (SetIs W2 (w.heap.size + 1) (fun _ => false)) := by
    rw [hW2]
    have h := SetIs.new (w.alloc (.cells (setArr fun _ => false) 64))
    rw [show (w.alloc (.cells (setArr fun _ => false) 64)).heap.size = w.heap.size + 1 from by simp] at h
    exact h
  rw [← hW2] at hs2 ⊢
  rw [← hs2]
  clear hW2
  refine (gather_one a l ca 1 W2 (HA.out.below HN2.out (Nat.le_refl _)) hl).mono ?_
  rintro e w3 ⟨rfl, hb3⟩
  rw [ho, gset_one _ _ _ ho, show errOf true = 0 from rfl]
  have HN3 : Hid (SetIs (w3.alloc (.cells (setArr fun _ => false) 64)) w3.heap.size (fun _ => false)) := SetIs.new w3
  go_wp2_with (first | refine wpList_alloc64 rfl rfl ?_ | refine wpList_store64 rfl (.tmp 7) (.tmp 14) rfl w3.heap.size _ _ rfl rfl HN3.out ?_)
  obtain ⟨W4, hW4⟩ : ∃ W4, W4 = (w3.alloc (.cells (setArr fun _ => false) 64)).setRow w3.heap.size (setArr (memS l)) := ⟨_, rfl⟩
  have hs4 : W4.heap.size = w3.heap.size + 1 := by rw [hW4]; simp
  have hlt3 : w.heap.size + 1 < w3.heap.size := by have := hb3.size; omega
  have HG34 : Hid (w3.grownBy W4 (some w3.heap.size)) := by rw [hW4]; exact gbTrans (World.grownBy_alloc _ _ _) (gbSetRow _ _ _)
  have HN4 : Hid (Below w.heap.size w W4) := (nwT HN2.out hb3).grown HG34.out (nwT HN2.out hb3).size (fun k e => by have := Option.some.inj e; omega)
  have HS7 : Hid (SetIs W4 w3.heap.size (memS l)) := by rw [hW4]; exact HN3.out.setRow
  have HR4' : Hid (SetIs W4 w.heap.size (fun _ => false)) := (HR4.out.below hb3).grown HG34.out (by omega)
  have HR5' : Hid (SetIs W4 (w.heap.size + 1) (fun _ => false)) := (HR5.out.below hb3).grown HG34.out (by omega)
  rw [← hW4]
  rw [← hs4]
  clear hW4 HR4 HR5 HG34 HN3 hb3 HN2
  refine (gather_one b m cb 1 W4 (HB.out.below HN4.out (Nat.le_refl _)) hm).mono ?_
  rintro e w5 ⟨rfl, hb5⟩
  rw [hp, gset_one _ _ _ hp, show errOf true = 0 from rfl]
  have HN5 : Hid (SetIs (w5.alloc (.cells (setArr fun _ => false) 64)) w5.heap.size (fun _ => false)) := SetIs.new w5
  go_wp2_with (first | refine wpList_alloc64 rfl rfl ?_ | refine wpList_store64 rfl (.tmp 9) (.tmp 25) rfl w5.heap.size _ _ rfl rfl HN5.out ?_)
  obtain ⟨W6, hW6⟩ : ∃ W6, W6 = (w5.alloc (.cells (setArr fun _ => false) 64)).setRow w5.heap.size (setArr (memS m)) := ⟨_, rfl⟩
  have hlt5 : w3.heap.size < w5.heap.size := by have := hb5.size; omega
  have HG56 : Hid (w5.grownBy W6 (some w5.heap.size)) := by rw [hW6]; exact gbTrans (World.grownBy_alloc _ _ _) (gbSetRow _ _ _)
  have HN6 : Hid (Below w.heap.size w W6) := (nwT HN4.out hb5).grown HG56.out (nwT HN4.out hb5).size (fun k e => by have := Option.some.inj e; omega)
  have HS9 : Hid (SetIs W6 w5.heap.size (memS m)) := by rw [hW6]; exact HN5.out.setRow
  have HS7' : Hid (SetIs W6 w3.heap.size (memS l)) := (HS7.out.below hb5).grown HG56.out (by omega)
  have HS4 : Hid (SetIs W6 w.heap.size (fun _ => false)) := (HR4'.out.below hb5).grown HG56.out (by omega)
  have HS5 : Hid (SetIs W6 (w.heap.size + 1) (fun _ => false)) := (HR5'.out.below hb5).grown HG56.out (by omega)
  rw [← hW6]
  clear hW6 HR4' HR5' HG56 HN5 hb5 HN4 HS7
  have HF : Hid (SetIs ((W6.setRow w.heap.size (setArr (memS l))).setRow (w.heap.size + 1) (setArr (memS m))) w.heap.size (memS l) ∧
      SetIs ((W6.setRow w.heap.size (setArr (memS l))).setRow (w.heap.size + 1) (setArr (memS m))) (w.heap.size + 1) (memS m) ∧
      Below w.heap.size w ((W6.setRow w.heap.size (setArr (memS l))).setRow (w.heap.size + 1) (setArr (memS m)))) :=
    ⟨HS4.out.setRow.rowApart (by omega), (HS5.out.rowApart (by omega)).setRow,
      (HN6.out.grown (gbSetRow _ _ _) HN6.out.size (fun k e => by have := Option.some.inj e; omega)).grown (gbSetRow _ _ _) (by simp; exact HN6.out.size) (fun k e => by have := Option.some.inj e; omega)⟩
  refine region_two (by kernel_rfl) rfl (by kernel_rfl) rfl rfl rfl rfl rfl ⟨rfl, rfl, rfl⟩ ⟨rfl, rfl, rfl⟩ ⟨rfl, rfl, rfl⟩ ⟨rfl, rfl, rfl⟩ ⟨rfl, rfl, rfl⟩ rfl w.heap.size (w.heap.size + 1) w3.heap.size w5.heap.size
    (memS l) (memS m) (fun _ => false) (fun _ => false) rfl rfl rfl rfl HS4.out HS5.out HS7'.out HS9.out (by omega) (by omega) ?_
  go_wp2_with fail
  refine bodyPost_ret (results_set2_tmp rfl _ _ w.heap.size (w.heap.size + 1) (memS l) (memS m) rfl (by exact HF.out.1) rfl (by exact HF.out.2.1)) rfl ⟨rfl, ?_⟩
  exact ⟨HF.out.2.2.os, HF.out.2.2.tape, HF.out.2.2.output, HF.out.2.2.size, HF.out.2.2.block⟩

set_option maxHeartbeats 400000 in
theorem gatherTwo_no1 (a b : Option Addr) (l m : List (Int × Int)) (ca cb : Nat) (w : World) (ha : SegsAt w a l) (hl : l.length ≤ maxLen) (ho : vOk l = false) :
    Calls Try.prog 43 #[.slice a l.length ca, .slice b m.length cb] w fun e w' =>
      e = .returned (.tuple #[.agg (setArr fun _ => false), .agg (setArr fun _ => false), .int .i64 1]) ∧ Below w.heap.size w w' := by
  have HA : Hid (SegsAt w a l) := ha
  clear ha
  go_enter Try.func43, Try.ntmps43
  go_wp2_with (refine wpList_alloc64 rfl rfl ?_)
  have hs2 : ((w.alloc (.cells (setArr fun _ => false) 64)).alloc (.cells (setArr fun _ => false) 64)).heap.size = w.heap.size + 1 + 1 := by simp
  obtain ⟨W2, hW2⟩ : ∃ W2, W2 = (w.alloc (.cells (setArr fun _ => false) 64)).alloc (.cells (setArr fun _ => false) 64) := ⟨_, rfl⟩
  have HN2 : Hid (Below w.heap.size w W2) := by rw [hW2]; exact nwA (nwA (nwR w) _) _
  have HR4 : Hid (SetIs W2 w.heap.size (fun _ => false)) := by rw [hW2]; exact (SetIs.new w).alloc _
  have HR5 : Hid (SetIs W2 (w.heap.size + 1) (fun _ => false)) := by
    rw [hW2]
    have h := SetIs.new (w.alloc (.cells (setArr fun _ => false) 64))
    rw [show (w.alloc (.cells (setArr fun _ => false) 64)).heap.size = w.heap.size + 1 from by simp] at h
    exact h
  rw [← hW2] at hs2 ⊢
  rw [← hs2]
  clear hW2
  refine (gather_one a l ca 1 W2 (HA.out.below HN2.out (Nat.le_refl _)) hl).mono ?_
  rintro e w3 ⟨rfl, hb3⟩
  rw [ho, show errOf false = 1 from rfl]
  have HN3 : Hid (SetIs (w3.alloc (.cells (setArr fun _ => false) 64)) w3.heap.size (fun _ => false)) := SetIs.new w3
  have hlt3 : w.heap.size + 1 < w3.heap.size := by have := hb3.size; omega
  generalize gset [(a, ca, l)] = gs
  have HG34 : Hid (w3.grownBy ((w3.alloc (.cells (setArr fun _ => false) 64)).setRow w3.heap.size (setArr gs)) (some w3.heap.size)) := gbTrans (World.grownBy_alloc _ _ _) (gbSetRow _ _ _)
  have HR4' : Hid (SetIs ((w3.alloc (.cells (setArr fun _ => false) 64)).setRow w3.heap.size (setArr gs)) w.heap.size (fun _ => false)) := (HR4.out.below hb3).grown HG34.out (by omega)
  have HR5' : Hid (SetIs ((w3.alloc (.cells (setArr fun _ => false) 64)).setRow w3.heap.size (setArr gs)) (w.heap.size + 1) (fun _ => false)) := (HR5.out.below hb3).grown HG34.out (by omega)
  have HN4 : Hid (Below w.heap.size w ((w3.alloc (.cells (setArr fun _ => false) 64)).setRow w3.heap.size (setArr gs))) := (nwT HN2.out hb3).grown HG34.out (nwT HN2.out hb3).size (fun k e => by have := Option.some.inj e; omega)
  go_wp2_with (first | refine wpList_alloc64 rfl rfl ?_ | refine wpList_build64 rfl rfl ?_ | refine wpList_store64 rfl (.tmp 7) (.tmp 14) rfl w3.heap.size _ _ rfl rfl HN3.out ?_ | refine wpList_store64 rfl (.tmp 4) (.tmp 18) rfl w.heap.size _ _ rfl rfl HR4'.out ?_ | refine wpList_store64 rfl (.tmp 5) (.tmp 19) rfl (w.heap.size + 1) _ _ rfl rfl (HR5'.out.rowApart (by omega)) ?_)
  refine bodyPost_ret (results_set2_tmp rfl _ _ w.heap.size (w.heap.size + 1) (fun _ => false) (fun _ => false) rfl (by exact HR4'.out.setRow.rowApart (by omega)) rfl (by exact (HR5'.out.rowApart (by omega)).setRow)) rfl ⟨rfl, ?_⟩
  exact (HN4.out.grown (gbSetRow _ _ _) HN4.out.size (fun k e => by have := Option.some.inj e; omega)).grown (gbSetRow _ _ _) (by simp; omega) (fun k e => by have := Option.some.inj e; omega)

set_option maxHeartbeats 400000 in
theorem gatherTwo_no2 (a b : Option Addr) (l m : List (Int × Int)) (ca cb : Nat) (w : World) (ha : SegsAt w a l) (hb : SegsAt w b m) (hl : l.length ≤ maxLen) (hm : m.length ≤ maxLen) (ho : vOk l = true) (hp : vOk m = false) :
    Calls Try.prog 43 #[.slice a l.length ca, .slice b m.length cb] w fun e w' =>
      e = .returned (.tuple #[.agg (setArr fun _ => false), .agg (setArr fun _ => false), .int .i64 1]) ∧ Below w.heap.size w w' := by
  have HA : Hid (SegsAt w a l) := ha
  have HB : Hid (SegsAt w b m) := hb
  clear ha hb
  go_enter Try.func43, Try.ntmps43
  go_wp2_with (refine wpList_alloc64 rfl rfl ?_)
  have hs2 : ((w.alloc (.cells (setArr fun _ => false) 64)).alloc (.cells (setArr fun _ => false) 64)).heap.size = w.heap.size + 1 + 1 := by simp
  obtain ⟨W2, hW2⟩ : ∃ W2, W2 = (w.alloc (.cells (setArr fun _ => false) 64)).alloc (.cells (setArr fun _ => false) 64) := ⟨_, rfl⟩
  have HN2 : Hid (Below w.heap.size w W2) := by rw [hW2]; exact nwA (nwA (nwR w) _) _
  have HR4 : Hid (SetIs W2 w.heap.size (fun _ => false)) := by rw [hW2]; exact (SetIs.new w).alloc _
  have HR5 : Hid (SetIs W2 (w.heap.size + 1) (fun _ => false)) := by
    rw [hW2]
    have h := SetIs.new (w.alloc (.cells (setArr fun _ => false) 64))
    rw [show (w.alloc (.cells (setArr fun _ => false) 64)).heap.size = w.heap.size + 1 from by simp] at h
    exact h
  rw [← hW2] at hs2 ⊢
  rw [← hs2]
  clear hW2
  refine (gather_one a l ca 1 W2 (HA.out.below HN2.out (Nat.le_refl _)) hl).mono ?_
  rintro e w3 ⟨rfl, hb3⟩
  rw [ho, gset_one _ _ _ ho, show errOf true = 0 from rfl]
  have HN3 : Hid (SetIs (w3.alloc (.cells (setArr fun _ => false) 64)) w3.heap.size (fun _ => false)) := SetIs.new w3
  go_wp2_with (first | refine wpList_alloc64 rfl rfl ?_ | refine wpList_store64 rfl (.tmp 7) (.tmp 14) rfl w3.heap.size _ _ rfl rfl HN3.out ?_)
  obtain ⟨W4, hW4⟩ : ∃ W4, W4 = (w3.alloc (.cells (setArr fun _ => false) 64)).setRow w3.heap.size (setArr (memS l)) := ⟨_, rfl⟩
  have hs4 : W4.heap.size = w3.heap.size + 1 := by rw [hW4]; simp
  have hlt3 : w.heap.size + 1 < w3.heap.size := by have := hb3.size; omega
  have HG34 : Hid (w3.grownBy W4 (some w3.heap.size)) := by rw [hW4]; exact gbTrans (World.grownBy_alloc _ _ _) (gbSetRow _ _ _)
  have HN4 : Hid (Below w.heap.size w W4) := (nwT HN2.out hb3).grown HG34.out (nwT HN2.out hb3).size (fun k e => by have := Option.some.inj e; omega)
  have HS7 : Hid (SetIs W4 w3.heap.size (memS l)) := by rw [hW4]; exact HN3.out.setRow
  have HR4' : Hid (SetIs W4 w.heap.size (fun _ => false)) := (HR4.out.below hb3).grown HG34.out (by omega)
  have HR5' : Hid (SetIs W4 (w.heap.size + 1) (fun _ => false)) := (HR5.out.below hb3).grown HG34.out (by omega)
  rw [← hW4]
  rw [← hs4]
  clear hW4 HR4 HR5 HG34 HN3 hb3 HN2
  refine (gather_one b m cb 1 W4 (HB.out.below HN4.out (Nat.le_refl _)) hm).mono ?_
  rintro e w5 ⟨rfl, hb5⟩
  rw [hp, show errOf false = 1 from rfl]
  have HN5 : Hid (SetIs (w5.alloc (.cells (setArr fun _ => false) 64)) w5.heap.size (fun _ => false)) := SetIs.new w5
  have hlt5 : w3.heap.size < w5.heap.size := by have := hb5.size; omega
  generalize gset [(b, cb, m)] = gs
  have HG56 : Hid (w5.grownBy ((w5.alloc (.cells (setArr fun _ => false) 64)).setRow w5.heap.size (setArr gs)) (some w5.heap.size)) := gbTrans (World.grownBy_alloc _ _ _) (gbSetRow _ _ _)
  have HS4 : Hid (SetIs ((w5.alloc (.cells (setArr fun _ => false) 64)).setRow w5.heap.size (setArr gs)) w.heap.size (fun _ => false)) := (HR4'.out.below hb5).grown HG56.out (by omega)
  have HS5 : Hid (SetIs ((w5.alloc (.cells (setArr fun _ => false) 64)).setRow w5.heap.size (setArr gs)) (w.heap.size + 1) (fun _ => false)) := (HR5'.out.below hb5).grown HG56.out (by omega)
  have HN6 : Hid (Below w.heap.size w ((w5.alloc (.cells (setArr fun _ => false) 64)).setRow w5.heap.size (setArr gs))) := (nwT HN4.out hb5).grown HG56.out (nwT HN4.out hb5).size (fun k e => by have := Option.some.inj e; omega)
  go_wp2_with (first | refine wpList_alloc64 rfl rfl ?_ | refine wpList_build64 rfl rfl ?_ | refine wpList_store64 rfl (.tmp 9) (.tmp 25) rfl w5.heap.size _ _ rfl rfl HN5.out ?_ | refine wpList_store64 rfl (.tmp 4) (.tmp 29) rfl w.heap.size _ _ rfl rfl HS4.out ?_ | refine wpList_store64 rfl (.tmp 5) (.tmp 30) rfl (w.heap.size + 1) _ _ rfl rfl (HS5.out.rowApart (by omega)) ?_)
  refine bodyPost_ret (results_set2_tmp rfl _ _ w.heap.size (w.heap.size + 1) (fun _ => false) (fun _ => false) rfl (by exact HS4.out.setRow.rowApart (by omega)) rfl (by exact (HS5.out.rowApart (by omega)).setRow)) rfl ⟨rfl, ?_⟩
  exact (HN6.out.grown (gbSetRow _ _ _) HN6.out.size (fun k e => by have := Option.some.inj e; omega)).grown (gbSetRow _ _ _) (by simp; omega) (fun k e => by have := Option.some.inj e; omega)

theorem gatherTwo_any (a b : Option Addr) (l m : List (Int × Int)) (ca cb : Nat) (w : World) (ha : SegsAt w a l) (hb : SegsAt w b m) (hl : l.length ≤ maxLen) (hm : m.length ≤ maxLen) :
    Calls Try.prog 43 #[.slice a l.length ca, .slice b m.length cb] w fun e w' =>
      e = .returned (.tuple #[.agg (setArr (setL l m)), .agg (setArr (setM l m)), .int .i64 (errOf (twoOk l m))]) ∧ Below w.heap.size w w' := by
  cases ho : vOk l
  · have e : twoOk l m = false := by simp [twoOk, ho]
    rw [setL, setM, e]
    exact gatherTwo_no1 a b l m ca cb w ha hl ho
  · cases hp : vOk m
    · have e : twoOk l m = false := by simp [twoOk, hp]
      rw [setL, setM, e]
      exact gatherTwo_no2 a b l m ca cb w ha hb hl hm ho hp
    · have e : twoOk l m = true := by simp [twoOk, ho, hp]
      rw [setL, setM, e]
      exact gatherTwo_yes a b l m ca cb w ha hb hl hm ho hp

end Go.Proofs.Ytpkgoagoceddoaa
