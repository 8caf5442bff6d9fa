/- Volumes held against each other; places of files and of links; how many links. -/
import Derived.Test.YtdpighcaieajjaaGreatEqw
namespace Go.Proofs.YtdpighcaieajjaaGreat
open Go.RowKit

set_option maxRecDepth 100000 in
set_option maxHeartbeats 1000000 in
theorem eqVol_any (u v : Value) (d e : VolD) (w : World) (hu : VolVal w u d) (hv : VolVal w v e) (hs : SmallV d) :
    Calls Tryz.prog 19 #[u, v] w fun r w' => r = .returned (.bool (decide (d = e))) ∧ Below w.heap.size w w' := by
  obtain ⟨a, ca, rfl, hfs, _⟩ := hu
  obtain ⟨b, cb, rfl, hgs, _⟩ := hv
  have HF : Hid (FilesAt w a d.files) := hfs
  have HG : Hid (FilesAt w b e.files) := hgs
  clear hfs hgs
  obtain ⟨id, fr, snap, fs, next⟩ := d
  obtain ⟨id2, fr2, snap2, gs, next2⟩ := e
  simp only at *
  simp only [SmallV] at hs
  obtain ⟨hs1, hs2⟩ := hs
  have HS : Hid (∀ f ∈ fs, SmallF f) := hs2
  clear hs2
  have HBW : Hid (∀ o1 o2, Below w.heap.size w ((w.alloc o1).alloc o2)) := fun o1 o2 => nwA (nwA (nwR w) _) _
  by_cases h1 : id = id2
  · subst h1
    by_cases h2 : fr = fr2
    · subst h2
      by_cases h3 : snap = snap2
      · subst h3
        have HD : Hid (decide ((⟨id, fr, snap, fs, next⟩ : VolD) = ⟨id, fr, snap, gs, next2⟩) = (decide (fs = gs) && (next == next2))) := by
          show _ = _; rw [Bool.eq_iff_iff]; simp
        go_enter Tryz.func19, Tryz.ntmps19
        go_wp2_with fail
        refine (eqFiles_any a b fs gs ca cb _ (HF.out.below (HBW.out _ _)) (HG.out.below (HBW.out _ _)) hs1 HS.out).mono ?_
        rintro r w1 ⟨rfl, hb1⟩
        have c1 : w1.cell? ⟨w.heap.size, 4, none⟩ = some (.int .i64 next) := (hb1.cell (p := ⟨w.heap.size, 4, none⟩) (by simp; omega)).trans (by simp)
        have c2 : w1.cell? ⟨w.heap.size + 1, 4, none⟩ = some (.int .i64 next2) := (hb1.cell (p := ⟨w.heap.size + 1, 4, none⟩) (by simp)).trans (by simp)
        have HB1 : Hid (Below w.heap.size w w1) := nwT (HBW.out _ _) hb1
        clear hb1
        generalize decide (fs = gs) = t at HD
        cases t
        · go_wp2_with fail
          go_ret
          exact ⟨by rw [HD.out]; rfl, HB1.out⟩
        · by_cases h4 : next = next2
          · subst h4
            go_wp2_with fail
            go_ret
            exact ⟨by rw [HD.out]; simp, HB1.out⟩
          · have h5 : (next == next2) = false := beq_eq_false_iff_ne.2 h4
            go_wp2_with fail
            go_ret
            exact ⟨by rw [HD.out, h5]; rfl, HB1.out⟩
      · have HF2 : Hid (decide ((⟨id, fr, snap, fs, next⟩ : VolD) = ⟨id, fr, snap2, gs, next2⟩) = false) := decide_eq_false (fun e => by injection e with e1 e2 e3; exact h3 e3)
        have hb3 : (snap == snap2) = false := beq_eq_false_iff_ne.2 h3
        go_enter Tryz.func19, Tryz.ntmps19
        go_wp2_with fail
        go_ret
        exact ⟨by rw [HF2.out]; rfl, HBW.out _ _⟩
    · have HF2 : Hid (decide ((⟨id, fr, snap, fs, next⟩ : VolD) = ⟨id, fr2, snap2, gs, next2⟩) = false) := decide_eq_false (fun e => by injection e with e1 e2 e3; exact h2 e2)
      have hb3 : (fr == fr2) = false := beq_eq_false_iff_ne.2 h2
      go_enter Tryz.func19, Tryz.ntmps19
      go_wp2_with fail
      go_ret
      exact ⟨by rw [HF2.out]; rfl, HBW.out _ _⟩
  · have HF2 : Hid (decide ((⟨id, fr, snap, fs, next⟩ : VolD) = ⟨id2, fr2, snap2, gs, next2⟩) = false) := decide_eq_false (fun e => by injection e with e1 e2 e3; exact h1 e1)
    have hb3 : (id == id2) = false := beq_eq_false_iff_ne.2 h1
    go_enter Tryz.func19, Tryz.ntmps19
    go_wp2_with fail
    go_ret
    exact ⟨by rw [HF2.out]; rfl, HBW.out _ _⟩

def numB (n most : Int) : Bool := decide (0 ≤ n) && decide (n ≤ most)
theorem num_no1 {n most : Int} (h : ¬ 0 ≤ n) : numB n most = false := by unfold numB; rw [decide_eq_false h]; rfl

set_option maxRecDepth 100000 in
set_option maxHeartbeats 400000 in
theorem num_in (n most : Int) (w : World) : Calls Tryz.prog 43 #[.int .i64 n, .int .i64 most] w fun e w' => e = .returned (.bool (numB n most)) ∧ w' = w := by
  by_cases h : 0 ≤ n
  · go_enter Tryz.func43, Tryz.ntmps43
    go_wp2_with fail
    go_ret
    exact ⟨ret_bool (by unfold numB; rw [decide_eq_true h]; rfl), rfl⟩
  · go_enter Tryz.func43, Tryz.ntmps43
    go_wp2_with fail
    go_ret
    exact ⟨ret_bool (num_no1 (by omega)).symm, rfl⟩

def betB (n low high : Int) : Bool := decide (low ≤ n) && decide (n ≤ high)
set_option maxRecDepth 100000 in
set_option maxHeartbeats 400000 in
theorem between_any (n low high : Int) (w : World) : Calls Tryz.prog 23 #[.int .i64 n, .int .i64 low, .int .i64 high] w fun e w' => e = .returned (.bool (betB n low high)) ∧ w' = w := by
  by_cases h : low ≤ n
  · go_enter Tryz.func23, Tryz.ntmps23
    go_wp2_with fail
    go_ret
    exact ⟨ret_bool (by unfold betB; rw [decide_eq_true h]; rfl), rfl⟩
  · go_enter Tryz.func23, Tryz.ntmps23
    go_wp2_with fail
    go_ret
    exact ⟨ret_bool (by unfold betB; rw [decide_eq_false (by omega : ¬ low ≤ n)]; rfl), rfl⟩

set_option maxRecDepth 100000 in
set_option maxHeartbeats 400000 in
theorem many_any (n : Int) (w : World) (h0 : 0 ≤ n) (h1 : n ≤ 200) : Calls Tryz.prog 77 #[.int .i64 n] w fun e w' => e = .returned (.int .i64 ((n + 31) / 32)) ∧ w' = w := by
  go_enter Tryz.func77, Tryz.ntmps77
  go_wp2
  go_ret
  refine ⟨ret_int ?_, rfl⟩
  omega

/- places -/
def optI (o : Option Nat) : Int := match o with
  | some k => k
  | none => -1
def atI (fs : List FileD) (id : Int) : Option Nat := fs.findIdx? fun f => f.id == id
def namedI (l : List LinkD) (n : ByteArray) : Option Nat := l.findIdx? fun x => decide (x.1 = n)

theorem find_yes {α : Type} (z : α) {l : List α} {p : α → Bool} {k : Nat} (hk : k < l.length) (h : p (l.getD k z) = true) (hn : ∀ j, j < k → p (l.getD j z) = false) : l.findIdx? p = some k := by
  rw [List.findIdx?_eq_some_iff_getElem]
  refine ⟨hk, ?_, fun j hj => ?_⟩
  · simpa [List.getD, hk] using h
  · have := hn j hj
    have hj2 : j < l.length := by omega
    simp [List.getD, hj2] at this
    simpa using this
theorem find_no {α : Type} (z : α) {l : List α} {p : α → Bool} (hn : ∀ j, j < l.length → p (l.getD j z) = false) : l.findIdx? p = none := by
  rw [List.findIdx?_eq_none_iff]
  intro x hx
  obtain ⟨j, hj, rfl⟩ := List.getElem_of_mem hx
  have := hn j hj
  simpa [List.getD, hj] using this

set_option maxRecDepth 100000 in
set_option maxHeartbeats 1000000 in
theorem at_any (v : Value) (d : VolD) (id : Int) (w : World) (hv : VolVal w v d) (hl : d.files.length ≤ 100000) :
    Calls Tryz.prog 51 #[v, .int .i64 id] w fun e w' => e = .returned (.int .i64 (optI (atI d.files id))) ∧ Below w.heap.size w w' := by
  obtain ⟨a, ca, rfl, hfs, _⟩ := hv
  have HF : Hid (FilesAt w a d.files) := hfs
  clear hfs
  obtain ⟨vid, fr, snap, fs, next⟩ := d
  simp only at *
  have HB : Hid (Below w.heap.size w (w.alloc (.cells #[.int .i64 vid, .int .i64 fr, .bool snap, .slice a fs.length ca, .int .i64 next] 24))) := nwA (nwR w) _
  go_enter Tryz.func51, Tryz.ntmps51
  go_wp2_with fail
  go_loop [5] (fun i => ∃ (k : Nat), k ≤ fs.length ∧ i = .int .i64 k ∧ Hid (∀ j, j < k → ((fs.getD j f0).id == id) = false))
    (fun i => fs.length - (intOf i).toNat)
  case atStart => exact ⟨0, by omega, rfl, fun j hj => by omega⟩
  case round =>
    obtain ⟨k, hk, rfl, HE⟩ := hrel
    by_cases hlt : k < fs.length
    · obtain ⟨b1, o1, rfl, hf⟩ := (HF.out.below HB.out).file hlt
      obtain ⟨ab, cb, al, cl, ⟨c0, _, _, _, _⟩, _, _⟩ := hf
      have hlti : (k : Int) < (fs.length : Int) := by omega
      by_cases he : (fs.getD k f0).id = id
      · have HY : Hid (atI fs id = some k) := find_yes f0 hlt (by simpa using he) (fun j hj => HE.out j hj)
        rw [he] at c0
        go_wp2_with fail
        go_ret
        exact ⟨ret_int (by rw [HY.out]; rfl), HB.out⟩
      · have heb : ((fs.getD k f0).id == id) = false := beq_eq_false_iff_ne.2 he
        have HN : Hid (∀ j, j < k + 1 → ((fs.getD j f0).id == id) = false) := fun j hj => by
          by_cases e : j = k
          · subst e; exact heb
          · exact HE.out j (by omega)
        generalize (fs.getD k f0).id = z at c0 heb
        clear he
        go_wp2_with fail
        go_round
        case rel => exact ⟨k + 1, by omega, by go_num, HN⟩
        case measure => simp [intOf]; omega
    · have hlti : ¬ (k : Int) < (fs.length : Int) := by omega
      have HY : Hid (atI fs id = none) := find_no f0 (fun j hj => HE.out j (by omega))
      go_wp2_with fail
      go_ret
      exact ⟨ret_int (by rw [HY.out]; rfl), HB.out⟩

set_option maxRecDepth 100000 in
set_option maxHeartbeats 1000000 in
theorem named_any (a : Option Addr) (l : List LinkD) (ca : Nat) (n : ByteArray) (w : World) (hv : LinksAt w a l) (hl : l.length ≤ 100000) :
    Calls Tryz.prog 50 #[.slice a l.length ca, .string n] w fun e w' => e = .returned (.int .i64 (optI (namedI l n))) ∧ w' = w := by
  have HF : Hid (LinksAt w a l) := hv
  clear hv
  go_enter Tryz.func50, Tryz.ntmps50
  go_wp2_with fail
  go_loop [5] (fun i => ∃ (k : Nat), k ≤ l.length ∧ i = .int .i64 k ∧ Hid (∀ j, j < k → decide ((l.getD j lk0).1 = n) = false))
    (fun i => l.length - (intOf i).toNat)
  case atStart => exact ⟨0, by omega, rfl, fun j hj => by omega⟩
  case round =>
    obtain ⟨k, hk, rfl, HE⟩ := hrel
    by_cases hlt : k < l.length
    · obtain ⟨b1, o1, rfl, c0, _⟩ := HF.out.cell hlt
      have hlti : (k : Int) < (l.length : Int) := by omega
      by_cases he : (l.getD k lk0).1 = n
      · have HY : Hid (namedI l n = some k) := find_yes lk0 hlt (decide_eq_true he) (fun j hj => HE.out j hj)
        rw [he] at c0
        go_wp2_with fail
        go_ret
        exact ⟨ret_int (by rw [HY.out]; rfl), rfl⟩
      · have heb : decide ((l.getD k lk0).1 = n) = false := decide_eq_false he
        have HN : Hid (∀ j, j < k + 1 → decide ((l.getD j lk0).1 = n) = false) := fun j hj => by
          by_cases e : j = k
          · subst e; exact heb
          · exact HE.out j (by omega)
        generalize (l.getD k lk0).1 = z at c0 he
        have he2 : (z.toList == n.toList) = false := by
          rw [beq_eq_false_iff_ne, Lib.toList_data, Lib.toList_data]; intro e; exact he (ls_inj e)
        clear he heb
        go_wp2_with fail
        go_round
        case rel => exact ⟨k + 1, by omega, by go_num, HN⟩
        case measure => simp [intOf]; omega
    · have hlti : ¬ (k : Int) < (l.length : Int) := by omega
      have HY : Hid (namedI l n = none) := find_no lk0 (fun j hj => HE.out j (by omega))
      go_wp2_with fail
      go_ret
      exact ⟨ret_int (by rw [HY.out]; rfl), rfl⟩

end Go.Proofs.YtdpighcaieajjaaGreat
