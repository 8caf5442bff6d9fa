/- Laid together: Small, Links, Parent, Weight, Find, Par. -/
import Derived.Test.YtdpighcaieajjabGreatTreesM3
/- Volumes held against each other; places of files and of links; how many links. -/
namespace Go.Proofs.YtdpighcaieajjabGreat
open Go.RowKit

set_option maxRecDepth 100000 in
set_option maxHeartbeats 1000000 in
theorem eqVol_any (u v : Value) (d e : VolD) (w : World) (hu : VolVal w u d) (hv : VolVal w v e) (hs : SmallV d) :
    Calls Tryz.prog 29 #[u, v] w fun r w' => r = .returned (.bool (decide (d = e))) ∧ Below w.heap.size w w' := by
  obtain ⟨a, ca, rfl, hfs, _⟩ := hu
  obtain ⟨b, cb, rfl, hgs, _⟩ := hv
  have HF : Hid (FilesAt w a d.files) := hfs
  have HG : Hid (FilesAt w b e.files) := hgs
  clear hfs hgs
  obtain ⟨id, fr, snap, fs, next⟩ := d
  obtain ⟨id2, fr2, snap2, gs, next2⟩ := e
  simp only at *
  simp only [SmallV] at hs
  obtain ⟨hs1, hs2⟩ := hs
  have HS : Hid (∀ f ∈ fs, SmallF f) := hs2
  clear hs2
  have HBW : Hid (∀ o1 o2, Below w.heap.size w ((w.alloc o1).alloc o2)) := fun o1 o2 => nwA (nwA (nwR w) _) _
  by_cases h1 : id = id2
  · subst h1
    by_cases h2 : fr = fr2
    · subst h2
      by_cases h3 : snap = snap2
      · subst h3
        have HD : Hid (decide ((⟨id, fr, snap, fs, next⟩ : VolD) = ⟨id, fr, snap, gs, next2⟩) = (decide (fs = gs) && (next == next2))) := by
          show _ = _; rw [Bool.eq_iff_iff]; simp
        go_enter Tryz.func29, Tryz.ntmps29
        go_wp2_with fail
        refine (eqFiles_any a b fs gs ca cb _ (HF.out.below (HBW.out _ _)) (HG.out.below (HBW.out _ _)) hs1 HS.out).mono ?_
        rintro r w1 ⟨rfl, hb1⟩
        have c1 : w1.cell? ⟨w.heap.size, 4, none⟩ = some (.int .i64 next) := (hb1.cell (p := ⟨w.heap.size, 4, none⟩) (by simp; omega)).trans (by simp)
        have c2 : w1.cell? ⟨w.heap.size + 1, 4, none⟩ = some (.int .i64 next2) := (hb1.cell (p := ⟨w.heap.size + 1, 4, none⟩) (by simp)).trans (by simp)
        have HB1 : Hid (Below w.heap.size w w1) := nwT (HBW.out _ _) hb1
        clear hb1
        generalize decide (fs = gs) = t at HD
        cases t
        · go_wp2_with fail
          go_ret
          exact ⟨by rw [HD.out]; rfl, HB1.out⟩
        · by_cases h4 : next = next2
          · subst h4
            go_wp2_with fail
            go_ret
            exact ⟨by rw [HD.out]; simp, HB1.out⟩
          · have h5 : (next == next2) = false := beq_eq_false_iff_ne.2 h4
            go_wp2_with fail
            go_ret
            exact ⟨by rw [HD.out, h5]; rfl, HB1.out⟩
      · have HF2 : Hid (decide ((⟨id, fr, snap, fs, next⟩ : VolD) = ⟨id, fr, snap2, gs, next2⟩) = false) := decide_eq_false (fun e => by injection e with e1 e2 e3; exact h3 e3)
        have hb3 : (snap == snap2) = false := beq_eq_false_iff_ne.2 h3
        go_enter Tryz.func29, Tryz.ntmps29
        go_wp2_with fail
        go_ret
        exact ⟨by rw [HF2.out]; rfl, HBW.out _ _⟩
    · have HF2 : Hid (decide ((⟨id, fr, snap, fs, next⟩ : VolD) = ⟨id, fr2, snap2, gs, next2⟩) = false) := decide_eq_false (fun e => by injection e with e1 e2 e3; exact h2 e2)
      have hb3 : (fr == fr2) = false := beq_eq_false_iff_ne.2 h2
      go_enter Tryz.func29, Tryz.ntmps29
      go_wp2_with fail
      go_ret
      exact ⟨by rw [HF2.out]; rfl, HBW.out _ _⟩
  · have HF2 : Hid (decide ((⟨id, fr, snap, fs, next⟩ : VolD) = ⟨id2, fr2, snap2, gs, next2⟩) = false) := decide_eq_false (fun e => by injection e with e1 e2 e3; exact h1 e1)
    have hb3 : (id == id2) = false := beq_eq_false_iff_ne.2 h1
    go_enter Tryz.func29, Tryz.ntmps29
    go_wp2_with fail
    go_ret
    exact ⟨by rw [HF2.out]; rfl, HBW.out _ _⟩

def numB (n most : Int) : Bool := decide (0 ≤ n) && decide (n ≤ most)
theorem num_no1 {n most : Int} (h : ¬ 0 ≤ n) : numB n most = false := by unfold numB; rw [decide_eq_false h]; rfl

set_option maxRecDepth 100000 in
set_option maxHeartbeats 400000 in
theorem num_in (n most : Int) (w : World) : Calls Tryz.prog 36 #[.int .i64 n, .int .i64 most] w fun e w' => e = .returned (.bool (numB n most)) ∧ w' = w := by
  by_cases h : 0 ≤ n
  · go_enter Tryz.func36, Tryz.ntmps36
    go_wp2_with fail
    go_ret
    exact ⟨ret_bool (by unfold numB; rw [decide_eq_true h]; rfl), rfl⟩
  · go_enter Tryz.func36, Tryz.ntmps36
    go_wp2_with fail
    go_ret
    exact ⟨ret_bool (num_no1 (by omega)).symm, rfl⟩

def betB (n low high : Int) : Bool := decide (low ≤ n) && decide (n ≤ high)
set_option maxRecDepth 100000 in
set_option maxHeartbeats 400000 in
theorem between_any (n low high : Int) (w : World) : Calls Tryz.prog 37 #[.int .i64 n, .int .i64 low, .int .i64 high] w fun e w' => e = .returned (.bool (betB n low high)) ∧ w' = w := by
  by_cases h : low ≤ n
  · go_enter Tryz.func37, Tryz.ntmps37
    go_wp2_with fail
    go_ret
    exact ⟨ret_bool (by unfold betB; rw [decide_eq_true h]; rfl), rfl⟩
  · go_enter Tryz.func37, Tryz.ntmps37
    go_wp2_with fail
    go_ret
    exact ⟨ret_bool (by unfold betB; rw [decide_eq_false (by omega : ¬ low ≤ n)]; rfl), rfl⟩

set_option maxRecDepth 100000 in
set_option maxHeartbeats 400000 in
theorem many_any (n : Int) (w : World) (h0 : 0 ≤ n) (h1 : n ≤ 200) : Calls Tryz.prog 71 #[.int .i64 n] w fun e w' => e = .returned (.int .i64 ((n + 31) / 32)) ∧ w' = w := by
  go_enter Tryz.func71, Tryz.ntmps71
  go_wp2
  go_ret
  refine ⟨ret_int ?_, rfl⟩
  omega

/- places -/
def optI (o : Option Nat) : Int := match o with
  | some k => k
  | none => -1
def atI (fs : List FileD) (id : Int) : Option Nat := fs.findIdx? fun f => f.id == id
def namedI (l : List LinkD) (n : ByteArray) : Option Nat := l.findIdx? fun x => decide (x.1 = n)

theorem find_yes {α : Type} (z : α) {l : List α} {p : α → Bool} {k : Nat} (hk : k < l.length) (h : p (l.getD k z) = true) (hn : ∀ j, j < k → p (l.getD j z) = false) : l.findIdx? p = some k := by
  rw [List.findIdx?_eq_some_iff_getElem]
  refine ⟨hk, ?_, fun j hj => ?_⟩
  · simpa [List.getD, hk] using h
  · have := hn j hj
    have hj2 : j < l.length := by omega
    simp [List.getD, hj2] at this
    simpa using this
theorem find_no {α : Type} (z : α) {l : List α} {p : α → Bool} (hn : ∀ j, j < l.length → p (l.getD j z) = false) : l.findIdx? p = none := by
  rw [List.findIdx?_eq_none_iff]
  intro x hx
  obtain ⟨j, hj, rfl⟩ := List.getElem_of_mem hx
  have := hn j hj
  simpa [List.getD, hj] using this

set_option maxRecDepth 100000 in
set_option maxHeartbeats 1000000 in
theorem at_any (v : Value) (d : VolD) (id : Int) (w : World) (hv : VolVal w v d) (hl : d.files.length ≤ 100000) :
    Calls Tryz.prog 70 #[v, .int .i64 id] w fun e w' => e = .returned (.int .i64 (optI (atI d.files id))) ∧ Below w.heap.size w w' := by
  obtain ⟨a, ca, rfl, hfs, _⟩ := hv
  have HF : Hid (FilesAt w a d.files) := hfs
  clear hfs
  obtain ⟨vid, fr, snap, fs, next⟩ := d
  simp only at *
  have HB : Hid (Below w.heap.size w (w.alloc (.cells #[.int .i64 vid, .int .i64 fr, .bool snap, .slice a fs.length ca, .int .i64 next] 24))) := nwA (nwR w) _
  go_enter Tryz.func70, Tryz.ntmps70
  go_wp2_with fail
  go_loop [5] (fun i => ∃ (k : Nat), k ≤ fs.length ∧ i = .int .i64 k ∧ Hid (∀ j, j < k → ((fs.getD j f0).id == id) = false))
    (fun i => fs.length - (intOf i).toNat)
  case atStart => exact ⟨0, by omega, rfl, fun j hj => by omega⟩
  case round =>
    obtain ⟨k, hk, rfl, HE⟩ := hrel
    by_cases hlt : k < fs.length
    · obtain ⟨b1, o1, rfl, hf⟩ := (HF.out.below HB.out).file hlt
      obtain ⟨ab, cb, al, cl, ⟨c0, _, _, _, _⟩, _, _⟩ := hf
      have hlti : (k : Int) < (fs.length : Int) := by omega
      by_cases he : (fs.getD k f0).id = id
      · have HY : Hid (atI fs id = some k) := find_yes f0 hlt (by simpa using he) (fun j hj => HE.out j hj)
        rw [he] at c0
        go_wp2_with fail
        go_ret
        exact ⟨ret_int (by rw [HY.out]; rfl), HB.out⟩
      · have heb : ((fs.getD k f0).id == id) = false := beq_eq_false_iff_ne.2 he
        have HN : Hid (∀ j, j < k + 1 → ((fs.getD j f0).id == id) = false) := fun j hj => by
          by_cases e : j = k
          · subst e; exact heb
          · exact HE.out j (by omega)
        generalize (fs.getD k f0).id = z at c0 heb
        clear he
        go_wp2_with fail
        go_round
        case rel => exact ⟨k + 1, by omega, by go_num, HN⟩
        case measure => simp [intOf]; omega
    · have hlti : ¬ (k : Int) < (fs.length : Int) := by omega
      have HY : Hid (atI fs id = none) := find_no f0 (fun j hj => HE.out j (by omega))
      go_wp2_with fail
      go_ret
      exact ⟨ret_int (by rw [HY.out]; rfl), HB.out⟩

set_option maxRecDepth 100000 in
set_option maxHeartbeats 1000000 in
theorem named_any (a : Option Addr) (l : List LinkD) (ca : Nat) (n : ByteArray) (w : World) (hv : LinksAt w a l) (hl : l.length ≤ 100000) :
    Calls Tryz.prog 46 #[.slice a l.length ca, .string n] w fun e w' => e = .returned (.int .i64 (optI (namedI l n))) ∧ w' = w := by
  have HF : Hid (LinksAt w a l) := hv
  clear hv
  go_enter Tryz.func46, Tryz.ntmps46
  go_wp2_with fail
  go_loop [5] (fun i => ∃ (k : Nat), k ≤ l.length ∧ i = .int .i64 k ∧ Hid (∀ j, j < k → decide ((l.getD j lk0).1 = n) = false))
    (fun i => l.length - (intOf i).toNat)
  case atStart => exact ⟨0, by omega, rfl, fun j hj => by omega⟩
  case round =>
    obtain ⟨k, hk, rfl, HE⟩ := hrel
    by_cases hlt : k < l.length
    · obtain ⟨b1, o1, rfl, c0, _⟩ := HF.out.cell hlt
      have hlti : (k : Int) < (l.length : Int) := by omega
      by_cases he : (l.getD k lk0).1 = n
      · have HY : Hid (namedI l n = some k) := find_yes lk0 hlt (decide_eq_true he) (fun j hj => HE.out j hj)
        rw [he] at c0
        go_wp2_with fail
        go_ret
        exact ⟨ret_int (by rw [HY.out]; rfl), rfl⟩
      · have heb : decide ((l.getD k lk0).1 = n) = false := decide_eq_false he
        have HN : Hid (∀ j, j < k + 1 → decide ((l.getD j lk0).1 = n) = false) := fun j hj => by
          by_cases e : j = k
          · subst e; exact heb
          · exact HE.out j (by omega)
        generalize (l.getD k lk0).1 = z at c0 he
        have he2 : (z.toList == n.toList) = false := by
          rw [beq_eq_false_iff_ne, Lib.toList_data, Lib.toList_data]; intro e; exact he (ls_inj e)
        clear he heb
        go_wp2_with fail
        go_round
        case rel => exact ⟨k + 1, by omega, by go_num, HN⟩
        case measure => simp [intOf]; omega
    · have hlti : ¬ (k : Int) < (l.length : Int) := by omega
      have HY : Hid (namedI l n = none) := find_no lk0 (fun j hj => HE.out j (by omega))
      go_wp2_with fail
      go_ret
      exact ⟨ret_int (by rw [HY.out]; rfl), rfl⟩

end Go.Proofs.YtdpighcaieajjabGreat

/- How many links there are; what a path finds. -/
namespace Go.Proofs.YtdpighcaieajjabGreat
open Go.RowKit

def cntL (l : List LinkD) (id : Int) : Nat := (l.filter fun x => x.2 == id).length
def linksN (fs : List FileD) (id : Int) : Nat := (fs.map fun f => cntL f.list id).sum
theorem cntL_le (l : List LinkD) (id : Int) : cntL l id ≤ l.length := List.length_filter_le _ _
theorem cntL_succ {l : List LinkD} {k : Nat} (h : k < l.length) (id : Int) : cntL (l.take (k + 1)) id = cntL (l.take k) id + if (l.getD k lk0).2 == id then 1 else 0 := by
  unfold cntL
  rw [List.take_succ_eq_append_getElem h, List.filter_append, List.length_append]
  have e : l.getD k lk0 = l[k] := by simp [List.getD, h]
  rw [e]
  by_cases hh : l[k].2 == id <;> simp [hh]
theorem linksN_succ {fs : List FileD} {k : Nat} (h : k < fs.length) (id : Int) : linksN (fs.take (k + 1)) id = linksN (fs.take k) id + cntL (fs.getD k f0).list id := by
  unfold linksN
  rw [List.take_succ_eq_append_getElem h, List.map_append, List.sum_append]
  simp [List.getD, h]
theorem linksN_le {fs : List FileD} (id : Int) (hs : ∀ f ∈ fs, SmallF f) : linksN fs id ≤ fs.length * 100000 := by
  induction fs with
  | nil => simp [linksN]
  | cons f fs ih =>
    have h1 := ih (fun g hg => hs g (by simp [hg]))
    have h2 := cntL_le f.list id
    have h3 := (hs f (by simp)).2
    unfold linksN at *
    simp only [List.map_cons, List.sum_cons, List.length_cons]
    omega

set_option maxRecDepth 100000 in
set_option maxHeartbeats 2000000 in
theorem links_any (v : Value) (d : VolD) (id : Int) (w : World) (hv : VolVal w v d) (hs : SmallV d) :
    Calls Tryz.prog 39 #[v, .int .i64 id] w fun e w' => e = .returned (.int .i64 (linksN d.files id)) ∧ Below w.heap.size w w' := by
  obtain ⟨a, ca, rfl, hfs, _⟩ := hv
  have HF : Hid (FilesAt w a d.files) := hfs
  clear hfs
  obtain ⟨vid, fr, snap, fs, next⟩ := d
  simp only [SmallV] at *
  obtain ⟨hl, hs2⟩ := hs
  have HS : Hid (∀ f ∈ fs, SmallF f) := hs2
  clear hs2
  have HB : Hid (Below w.heap.size w (w.alloc (.cells #[.int .i64 vid, .int .i64 fr, .bool snap, .slice a fs.length ca, .int .i64 next] 24))) := nwA (nwR w) _
  go_enter Tryz.func39, Tryz.ntmps39
  go_wp2_with fail
  go_loop [5, 6] (fun n i => ∃ (k : Nat), k ≤ fs.length ∧ i = .int .i64 k ∧ n = .int .i64 (linksN (fs.take k) id))
    (fun _ i => fs.length - (intOf i).toNat)
  case atStart => exact ⟨0, by omega, rfl, rfl⟩
  case round =>
    obtain ⟨k, hk, rfl, rfl⟩ := hrel
    by_cases hlt : k < fs.length
    · have hlti : (k : Int) < (fs.length : Int) := by omega
      obtain ⟨b1, o1, rfl, hf⟩ := (HF.out.below HB.out).file hlt
      obtain ⟨ab, cb, al, cl, ⟨_, _, _, _, c4⟩, _, hli, _⟩ := hf
      have HSU : Hid (linksN (fs.take (k + 1)) id = linksN (fs.take k) id + cntL (fs.getD k f0).list id) := linksN_succ hlt id
      have hbd : linksN (fs.take k) id ≤ 10000000000 := by
        have h1 := linksN_le (fs := fs.take k) id (fun g hg => HS.out g (List.mem_of_mem_take hg))
        have h2 : (fs.take k).length ≤ 100000 := by rw [List.length_take]; omega
        have h3 : (fs.take k).length * 100000 ≤ 100000 * 100000 := Nat.mul_le_mul_right _ h2
        omega
      have hsm := (HS.out (fs.getD k f0) (by simp [List.getD, hlt])).2
      have HLI : Hid (LinksAt (w.alloc (.cells #[.int .i64 vid, .int .i64 fr, .bool snap, .slice (some ⟨b1, o1, none⟩) fs.length ca, .int .i64 next] 24)) al (fs.getD k f0).list) := hli
      generalize linksN (fs.take k) id = N at HSU hbd
      generalize (fs.getD k f0).list = li at HSU hsm HLI c4
      clear hli
      go_wp2_with fail
      go_loop [5, 7] (fun n i => ∃ (j : Nat), j ≤ li.length ∧ i = .int .i64 j ∧ n = .int .i64 ((N + cntL (li.take j) id : Nat) : Int))
        (fun _ i => li.length - (intOf i).toNat)
      case atStart => exact ⟨0, by omega, rfl, rfl⟩
      case round =>
        obtain ⟨j, hj, rfl, rfl⟩ := hrel
        have hcn : cntL (li.take j) id ≤ 100000 := by have := cntL_le (li.take j) id; rw [List.length_take] at this; omega
        by_cases hjl : j < li.length
        · have hjli : (j : Int) < (li.length : Int) := by omega
          obtain ⟨b2, o2, rfl, _, d2⟩ := HLI.out.cell hjl
          have HCS : Hid (cntL (li.take (j + 1)) id = cntL (li.take j) id + if (li.getD j lk0).2 == id then 1 else 0) := cntL_succ hjl id
          generalize (li.getD j lk0).2 = z at d2 HCS
          generalize cntL (li.take j) id = C at HCS hcn
          by_cases he : z = id
          · subst he
            go_wp2_with fail
            go_round
            case rel => exact ⟨j + 1, by omega, by go_num, by rw [HCS.out]; simp; omega⟩
            case measure => simp [intOf]; omega
          · have heb : (z == id) = false := beq_eq_false_iff_ne.2 he
            clear he
            go_wp2_with fail
            go_round
            case rel => exact ⟨j + 1, by omega, by go_num, by rw [HCS.out, heb]; simp⟩
            case measure => simp [intOf]; omega
        · have hjli : ¬ (j : Int) < (li.length : Int) := by omega
          have e : li.take j = li := List.take_of_length_le (by omega)
          rw [e]
          go_wp2_with fail
          go_round
          case rel => exact ⟨k + 1, by omega, by go_num, by rw [HSU.out]⟩
          case measure => simp [intOf]; omega
    · have hlti : ¬ (k : Int) < (fs.length : Int) := by omega
      have e : fs.take k = fs := List.take_of_length_le (by omega)
      rw [e]
      go_wp2_with fail
      go_ret
      exact ⟨rfl, HB.out⟩

end Go.Proofs.YtdpighcaieajjabGreat

/- Parent, by the program. -/
namespace Go.Proofs.YtdpighcaieajjabGreat
open Go.RowKit

def parentO (s : ByteArray) : Option (ByteArray × ByteArray) := match pathN s with
  | some xs => if xs.length = 0 then none else some (tx (xs.take (xs.length - 1)), xs.getD (xs.length - 1) ByteArray.empty)
  | none => none
def parentV (o : Option (ByteArray × ByteArray)) : Value := match o with
  | some t => .tuple #[.string t.1, .string t.2, .int .i64 0]
  | none => .tuple #[.string ⟨#[]⟩, .string ⟨#[]⟩, .int .i64 1]

theorem wrap_any {x : Int} (h0 : -1000000000000000000 ≤ x) (h1 : x ≤ 1000000000000000000) : IntKind.i64.wrap x = x := by
  rw [IntKind.wrap_i64]
  omega

set_option maxRecDepth 100000 in
set_option maxHeartbeats 2000000 in
theorem parent_any (s : ByteArray) (w : World) :
    Calls Tryz.prog 97 #[.string s] w fun e w' => e = .returned (parentV (parentO s)) ∧ Below w.heap.size w w' := by
  go_enter Tryz.func97, Tryz.ntmps97
  go_wp2_with fail
  refine (read_any s _).mono ?_
  rintro e w1 ⟨hR, hb1⟩
  have HB1 : Hid (Below w.heap.size w w1) := hb1
  rcases hR with ⟨xs, v, hp, rfl, ho⟩ | ⟨hp, rfl⟩
  · obtain ⟨htx, hnm, hx5⟩ := pathN_some hp
    obtain ⟨aa, ca, rfl, hsa, hca⟩ := ho.cap
    have HX : Hid (StrsAt w1 aa xs) := hsa
    by_cases h0 : xs.length = 0
    · have HU : Hid (parentO s = none) := by show _ = _; unfold parentO; rw [hp]; simp only; rw [if_pos h0]
      have hx0 : xs = [] := List.length_eq_zero_iff.1 h0
      subst hx0
      clear hp ho hsa hb1 htx hnm
      go_wp2_with fail
      exact bodyPost_ret (v := .tuple #[.string ⟨#[]⟩, .string ⟨#[]⟩, .int .i64 1]) (by simp [results, Tryz.results97, go_sem]) rfl ⟨by rw [HU.out]; rfl, nwA HB1.out _⟩
    · have HU : Hid (parentO s = some (tx (xs.take (xs.length - 1)), xs.getD (xs.length - 1) ByteArray.empty)) := by show _ = _; unfold parentO; rw [hp]; simp only; rw [if_neg h0]
      have HL : Hid ((flN (xs.take (xs.length - 1))).length ≤ 4000) := by
        have := flN_le (xs := xs) (xs.length - 1)
        have := (flN_len2 hnm).2
        show _ ≤ 4000; omega
      have hz : ((xs.length : Int) == 0) = false := beq_eq_false_iff_ne.2 (by omega)
      obtain ⟨n, hn⟩ : ∃ n, xs.length = n + 1 := ⟨xs.length - 1, by omega⟩
      have hn1 : xs.length - 1 = n := by omega
      obtain ⟨b1, o1, rfl, hc⟩ := hsa.cell (i := n) (by omega)
      rw [hn1] at HU HL
      have HC : Hid (w1.cell? ⟨b1, o1 + n, none⟩ = some (.string (xs.getD n ByteArray.empty))) := hc
      have HT : Hid (StrsAt w1 (some ⟨b1, o1, none⟩) (xs.take n)) := HX.out.take n
      have HTL : Hid ((xs.take n).length = n) := by show _ = _; rw [List.length_take]; omega
      clear hp ho hsa hb1 htx hnm hc h0 hn1
      rw [hn] at hz ⊢
      generalize xs.getD n ByteArray.empty = last at HU HC
      generalize xs.take n = up at HU HL HT HTL
      go_wp2_with fail
      obtain ⟨W, hW⟩ : ∃ W, W = (w1.alloc (.cells #[.slice (some ⟨b1, o1, none⟩) (n + 1) ca] 120)).alloc (.cells #[.slice (some ⟨b1, o1, none⟩) n ca] 120) := ⟨_, rfl⟩
      have HBW : Hid (Below w1.heap.size w1 W) := by rw [hW]; exact nwA (nwA (nwR _) _) _
      have HW0 : Hid (W.cell? ⟨w1.heap.size, 0, none⟩ = some (.slice (some ⟨b1, o1, none⟩) (n + 1) ca)) := by rw [hW]; show _ = _; simp
      have HW1 : Hid (W.cell? ⟨w1.heap.size + 1, 0, none⟩ = some (.slice (some ⟨b1, o1, none⟩) up.length ca)) := by
        rw [hW, HTL.out]; show _ = _
        simp
      have HW2 : Hid (W.cell? ⟨b1, o1 + n, none⟩ = some (.string last)) := (HBW.out.cell (p := ⟨b1, o1 + n, none⟩) (block_lt_of_cell HC.out)).trans HC.out
      have HUP : Hid (StrsAt W (some ⟨b1, o1, none⟩) up) := HT.out.below HBW.out
      have k0 : ∀ w', Below W.heap.size W w' → w'.cell? ⟨w1.heap.size, 0, none⟩ = some (.slice (some ⟨b1, o1, none⟩) (n + 1) ca) := fun w' h => (h.cell (p := ⟨w1.heap.size, 0, none⟩) (block_lt_of_cell HW0.out)).trans HW0.out
      have k1 : ∀ w', Below W.heap.size W w' → w'.cell? ⟨w1.heap.size + 1, 0, none⟩ = some (.slice (some ⟨b1, o1, none⟩) up.length ca) := fun w' h => (h.cell (p := ⟨w1.heap.size + 1, 0, none⟩) (block_lt_of_cell HW1.out)).trans HW1.out
      have k2 : ∀ w', Below W.heap.size W w' → w'.cell? ⟨b1, o1 + n, none⟩ = some (.string last) := fun w' h => (h.cell (p := ⟨b1, o1 + n, none⟩) (block_lt_of_cell HW2.out)).trans HW2.out
      have e1 : IntKind.i64.wrap ((n : Int) + 1 - 1) = (n : Int) := by rw [wrap_any (by omega) (by omega)]; omega
      have e2 : (n : Int) < (n : Int) + 1 := by omega
      have e3 : IntKind.i64.wrap (n : Int) = (n : Int) := wrap_any (by omega) (by omega)
      have e4 : (0 : Int) ≤ (n : Int) := by omega
      have hS := nwR W
      have HBB : Hid (Below w.heap.size w W) := nwT HB1.out HBW.out
      have hl4 : up.length ≤ 4000 := by rw [HTL.out]; omega
      rw [← hW]
      clear hW HBW HX HC HT HB1
      go_region_held3 (fun w' => Below W.heap.size W w') (first | assumption | exact Below.drew (by assumption) | exact nwT (by assumption) (by assumption)) (first
        | (go_at_call 116; refine (text_any _ (some ⟨b1, o1, none⟩) up ca _ (k1 _ (by assumption)) (HUP.out.below (by assumption)) hl4 HL.out).mono ?_; rintro e wT ⟨rfl, hbT⟩))
      have HBT : Hid (Below W.heap.size W wT) := by assumption
      clear k0 k1 k2
      go_wp2_with fail
      exact bodyPost_ret (v := .tuple #[.string (tx up), .string last, .int .i64 0]) (by simp [results, Tryz.results97, go_sem]) rfl ⟨by rw [HU.out]; rfl, nwT HBB.out HBT.out⟩
  · have HU : Hid (parentO s = none) := by show _ = _; unfold parentO; rw [hp]
    clear hp hb1
    go_wp2_with fail
    exact bodyPost_ret (v := .tuple #[.string ⟨#[]⟩, .string ⟨#[]⟩, .int .i64 1]) (by simp [results, Tryz.results97, go_sem]) rfl ⟨by rw [HU.out]; rfl, nwA HB1.out _⟩

end Go.Proofs.YtdpighcaieajjabGreat

/- How much a volume is: what is not heavy is small. -/
namespace Go.Proofs.YtdpighcaieajjabGreat
open Go.RowKit

/-- as great as anything may be that comes in -/
def LooseF (f : FileD) : Prop := f.blocks.length ≤ 35184372088832 ∧ f.list.length ≤ 35184372088832 ∧ ∀ l ∈ f.list, l.1.size ≤ 140737488355328
def LooseV (d : VolD) : Prop := d.files.length ≤ 35184372088832 ∧ ∀ f ∈ d.files, LooseF f
def FitF (N : Nat) (f : FileD) : Prop := f.blocks.length + f.list.length ≤ N ∧ (N < 1048576 → ∀ l ∈ f.list, l.1.size / 4 ≤ N)
theorem FitF.mono {N M : Nat} {f : FileD} (h : FitF N f) (hM : N ≤ M) : FitF M f := ⟨by have := h.1; omega, fun hh l hl => by have := h.2 (by omega) l hl; omega⟩
def FitV (N : Nat) (d : VolD) : Prop := N ≤ 281474976710656 ∧ (N < 1048576 → d.files.length ≤ N ∧ ∀ f ∈ d.files, FitF N f)

set_option maxRecDepth 100000 in
set_option maxHeartbeats 2000000 in
theorem volWeight_any (v : Value) (d : VolD) (w : World) (hv : VolVal w v d) (hs : LooseV d) :
    Calls Tryz.prog 12 #[v] w fun e w' => (∃ N : Nat, e = .returned (.int .i64 N) ∧ Hid (FitV N d)) ∧ Below w.heap.size w w' := by
  obtain ⟨a, ca, rfl, hfs, _⟩ := hv
  have HF : Hid (FilesAt w a d.files) := hfs
  clear hfs
  obtain ⟨vid, fr, snap, fs, next⟩ := d
  simp only [LooseV] at *
  obtain ⟨hl, hs2⟩ := hs
  have HS : Hid (∀ f ∈ fs, LooseF f) := hs2
  clear hs2
  go_enter Tryz.func12, Tryz.ntmps12
  go_wp2_with fail
  obtain ⟨W0, hW0⟩ : ∃ W0, W0 = w.alloc (.cells #[.int .i64 vid, .int .i64 fr, .bool snap, .slice a fs.length ca, .int .i64 next] 24) := ⟨_, rfl⟩
  have HB0 : Hid (Below w.heap.size w W0) := by rw [hW0]; exact nwA (nwR w) _
  have HF0 : Hid (FilesAt W0 a fs) := HF.out.below HB0.out
  have HBX : Hid (W0.heap[w.heap.size]? = some (.cells #[.int .i64 vid, .int .i64 fr, .bool snap, .slice a fs.length ca, .int .i64 next] 24 (0, 0))) := by rw [hW0]; exact heap_alloc_new w _
  rw [← hW0]
  clear hW0 HF
  go_loopw [3, 4] (fun n i wr => ∃ (k N : Nat), k ≤ fs.length ∧ i = .int .i64 k ∧ n = .int .i64 N ∧ N ≤ 281474976710656 ∧ Hid (fs.length ≤ N ∧ ∀ j, j < k → FitF N (fs.getD j f0)) ∧ Below W0.heap.size W0 wr)
    (fun _ i _ => fs.length - (intOf i).toNat)
  case atStart => exact ⟨0, fs.length, by omega, rfl, rfl, by omega, ⟨by omega, fun j hj => by omega⟩, nwR W0⟩
  case round =>
    obtain ⟨k, N, hk, rfl, rfl, hN, HE, hb⟩ := hrel
    have HBW : Hid (Below w.heap.size w wr) := nwT HB0.out hb
    obtain ⟨_, _, _, x3, _, _⟩ := five ((hb.block _ (Array.getElem?_eq_some_iff.1 HBX.out).1).trans HBX.out)
    by_cases hlt : k < fs.length
    · have hlti : (k : Int) < (fs.length : Int) := by omega
      by_cases hN2 : N < 1048576
      · have hNi : (N : Int) < 1048576 := by omega
        obtain ⟨b1, o1, rfl, hf⟩ := (HF0.out.below hb).file hlt
        obtain ⟨ab, cb, al, cl, ⟨_, _, _, c3, c4⟩, _, hli, _⟩ := hf
        have hlo := HS.out (fs.getD k f0) (by simp [List.getD, hlt])
        have HLI : Hid (LinksAt wr al (fs.getD k f0).list) := hli
        have HFK : Hid (∀ M, N ≤ M → FitF M (fs.getD k f0) → fs.length ≤ M ∧ ∀ j, j < k + 1 → FitF M (fs.getD j f0)) := fun M hM h => ⟨by have := HE.out.1; omega, fun j hj => by
          by_cases e : j = k
          · subst e; exact h
          · exact (HE.out.2 j (by omega)).mono hM⟩
        generalize fs.getD k f0 = f at c3 c4 hlo HLI HFK
        obtain ⟨fid, fdir, fsize, fbl, fli⟩ := f
        simp only [LooseF] at c3 c4 hlo HLI
        obtain ⟨hl1, hl2, hl3⟩ := hlo
        have HSZ : Hid (∀ l ∈ fli, l.1.size ≤ 140737488355328) := hl3
        clear hli hl3
        go_wp2_with fail
        have e1 : IntKind.i64.wrap ((N : Int) + (fbl.length : Int)) = (N : Int) + (fbl.length : Int) := wrap_any (by omega) (by omega)
        have e2 : IntKind.i64.wrap ((N : Int) + (fbl.length : Int) + (fli.length : Int)) = (N : Int) + (fbl.length : Int) + (fli.length : Int) := wrap_any (by omega) (by omega)
        go_quiet (fail)
        clear e1 e2
        have eP : (N : Int) + (fbl.length : Int) + (fli.length : Int) = ((N + fbl.length + fli.length : Nat) : Int) := by omega
        rw [eP]
        clear eP
        generalize hP : N + fbl.length + fli.length = P
        have hP1 : N ≤ P := by omega
        have hP2 : fbl.length + fli.length ≤ P := by omega
        have hP3 : P ≤ 140737488355328 := by omega
        clear hP
        go_wp2_with fail
        go_loop [3, 5] (fun n i => ∃ (j M : Nat), j ≤ fli.length ∧ i = .int .i64 j ∧ n = .int .i64 M ∧ P ≤ M ∧ M ≤ 281474976710656 ∧ Hid (∀ t, t < j → (fli.getD t lk0).1.size / 4 ≤ M))
          (fun _ i => fli.length - (intOf i).toNat)
        case atStart => exact ⟨0, P, by omega, rfl, rfl, by omega, by omega, fun t ht => by omega⟩
        case round =>
          obtain ⟨j, M, hj, rfl, rfl, hM1, hM2, HT⟩ := hrel
          by_cases hjl : j < fli.length
          · have hjli : (j : Int) < (fli.length : Int) := by omega
            by_cases hM3 : M < 1048576
            · have hMi : (M : Int) < 1048576 := by omega
              obtain ⟨b2, o2, rfl, d1, _⟩ := HLI.out.cell hjl
              have hsz := HSZ.out (fli.getD j lk0) (by simp [List.getD, hjl])
              have HT2 : Hid (∀ t, t < j + 1 → (fli.getD t lk0).1.size / 4 ≤ M + (fli.getD j lk0).1.size / 4) := fun t ht => by
                by_cases e : t = j
                · subst e; omega
                · have := HT.out t (by omega); omega
              generalize (fli.getD j lk0).1 = nme at d1 hsz HT2
              go_wp2_with fail
              go_round
              case rel => exact ⟨j + 1, M + nme.size / 4, by omega, by go_num, by first | rfl | (congr 1; omega), by omega, by omega, HT2⟩
              case measure => simp [intOf]; omega
            · have hMi : ¬ (M : Int) < 1048576 := by omega
              go_wp2_with fail
              go_roundw
              case rel => exact ⟨k + 1, M, by omega, by go_num, rfl, hM2, HFK.out M (by omega) ⟨by show fbl.length + fli.length ≤ M; omega, fun h => absurd h hM3⟩, below_drewN hb _⟩
              case measure => simp [intOf]; omega
          · have hjli : ¬ (j : Int) < (fli.length : Int) := by omega
            go_wp2_with fail
            go_roundw
            case rel => exact ⟨k + 1, M, by omega, by go_num, rfl, hM2, HFK.out M (by omega) ⟨by show fbl.length + fli.length ≤ M; omega, fun _ l hl => by
              have hl2 : l ∈ fli := hl
              obtain ⟨t, ht, rfl⟩ := List.getElem_of_mem hl2
              have := HT.out t (by omega)
              simpa [List.getD, ht] using this⟩, below_drewN hb _⟩
            case measure => simp [intOf]; omega
      · have hNi : ¬ (N : Int) < 1048576 := by omega
        go_wp2_with fail
        go_ret
        exact ⟨⟨N, rfl, ⟨hN, fun h => absurd h hN2⟩⟩, HBW.out⟩
    · have hlti : ¬ (k : Int) < (fs.length : Int) := by omega
      go_wp2_with fail
      go_ret
      exact ⟨⟨N, rfl, ⟨hN, fun h => ⟨HE.out.1, fun f hf => by
        have hf2 : f ∈ fs := hf
        obtain ⟨j, hj, rfl⟩ := List.getElem_of_mem hf2
        have := HE.out.2 j (by omega)
        simpa [List.getD, hj] using this⟩⟩⟩, HBW.out⟩

theorem FitV.small {N : Nat} {d : VolD} (h : FitV N d) (hN : N ≤ 1500) : SmallV d := by
  obtain ⟨_, h2⟩ := h
  obtain ⟨h3, h4⟩ := h2 (by omega)
  refine ⟨by omega, fun f hf => ?_⟩
  have := (h4 f hf).1
  exact ⟨by omega, by omega⟩

/-- a number from 0 below n -/
def withinN (i : Int) (n : Nat) : Nat := (i % 18446744073709551616).toNat % n
set_option maxRecDepth 100000 in
set_option maxHeartbeats 400000 in
theorem lawWithin_any (i : Int) (w : World) :
    Calls Tryz.prog 15 #[.int .i64 i, .int .i64 7] w fun e w' => e = .returned (.int .i64 (withinN i 7)) ∧ w' = w := by
  go_enter Tryz.func15, Tryz.ntmps15
  go_wp2
  go_ret
  refine ⟨ret_int ?_, rfl⟩
  unfold withinN
  rw [IntKind.wrap_u64, Int.tmod_eq_emod_of_nonneg (by omega)]
  unfold wrap64
  omega

end Go.Proofs.YtdpighcaieajjabGreat

/- What a path finds, by the page. -/
namespace Go.Proofs.YtdpighcaieajjabGreat
open Go.RowKit

def placeOf (fs : List FileD) (id : Int) : Nat := (atI fs id).getD 0
def findF (fs : List FileD) : Nat → List ByteArray → Nat × Int
  | at', [] => (at', 0)
  | at', n :: r => if (fs.getD at' f0).dir then (match namedI (fs.getD at' f0).list n with
      | none => (0, 3)
      | some k => findF fs (placeOf fs ((fs.getD at' f0).list.getD k lk0).2) r) else (0, 7)
/-- each link names a file that is there -/
def Sound (fs : List FileD) : Prop := 0 < fs.length ∧ ∀ f ∈ fs, ∀ l ∈ f.list, (atI fs l.2).isSome = true

theorem atI_lt {fs : List FileD} {id : Int} {k : Nat} (h : atI fs id = some k) : k < fs.length := by
  unfold atI at h
  exact (List.findIdx?_eq_some_iff_getElem.1 h).1
theorem namedI_lt {l : List LinkD} {n : ByteArray} {k : Nat} (h : namedI l n = some k) : k < l.length := by
  unfold namedI at h
  exact (List.findIdx?_eq_some_iff_getElem.1 h).1
theorem Sound.at {fs : List FileD} (h : Sound fs) {i k : Nat} (hi : i < fs.length) (hk : k < (fs.getD i f0).list.length) : ∃ j, atI fs ((fs.getD i f0).list.getD k lk0).2 = some j ∧ j < fs.length := by
  have hf : fs.getD i f0 ∈ fs := by simp [List.getD, hi]
  have hm : (fs.getD i f0).list.getD k lk0 ∈ (fs.getD i f0).list := by
    have : (fs.getD i f0).list.getD k lk0 = (fs.getD i f0).list[k] := by rw [List.getD, List.getElem?_eq_getElem hk]; rfl
    rw [this]; exact List.getElem_mem hk
  have := h.2 _ hf _ hm
  obtain ⟨j, hj⟩ := Option.isSome_iff_exists.1 this
  exact ⟨j, hj, atI_lt hj⟩

set_option maxRecDepth 100000 in
set_option maxHeartbeats 4000000 in
theorem find_any (v : Value) (d : VolD) (a : Option Addr) (L : List ByteArray) (cL : Nat) (w : World) (hv : VolVal w v d) (hs : SmallV d) (hsd : Sound d.files) (hL : StrsAt w a L) (hl5 : L.length ≤ 4000) :
    Calls Tryz.prog 51 #[v, .slice a L.length cL] w fun e w' => e = .returned (.tuple #[.int .i64 (findF d.files 0 L).1, .int .i64 (findF d.files 0 L).2]) ∧ Below w.heap.size w w' := by
  obtain ⟨av, ca, rfl, hfs, hcp⟩ := hv
  have HF : Hid (FilesAt w av d.files) := hfs
  have HN : Hid (StrsAt w a L) := hL
  clear hfs hL
  obtain ⟨vid, fr, snap, fs, next⟩ := d
  simp only [SmallV] at *
  obtain ⟨hl, hs2⟩ := hs
  have HS : Hid (∀ f ∈ fs, SmallF f) := hs2
  have HSD : Hid (Sound fs) := hsd
  clear hs2 hsd
  have HVO : Hid (∀ w', FilesAt w' av fs → VolVal w' (.agg #[.int .i64 vid, .int .i64 fr, .bool snap, .slice av fs.length ca, .int .i64 next]) ⟨vid, fr, snap, fs, next⟩) := fun w' h => ⟨av, ca, rfl, h, hcp⟩
  go_enter Tryz.func51, Tryz.ntmps51
  go_wp2_with fail
  obtain ⟨W0, hW0⟩ : ∃ W0, W0 = w.alloc (.cells #[.int .i64 vid, .int .i64 fr, .bool snap, .slice av fs.length ca, .int .i64 next] 24) := ⟨_, rfl⟩
  have HB0 : Hid (Below w.heap.size w W0) := by rw [hW0]; exact nwA (nwR w) _
  have HF0 : Hid (FilesAt W0 av fs) := HF.out.below HB0.out
  have HN0 : Hid (StrsAt W0 a L) := HN.out.below HB0.out
  have HBX : Hid (W0.heap[w.heap.size]? = some (.cells #[.int .i64 vid, .int .i64 fr, .bool snap, .slice av fs.length ca, .int .i64 next] 24 (0, 0))) := by rw [hW0]; exact heap_alloc_new w _
  rw [← hW0]
  clear hW0 HF HN
  go_loopw [6, 7] (fun p i wr => ∃ (k q : Nat), k ≤ L.length ∧ i = .int .i64 k ∧ p = .int .i64 q ∧ q < fs.length ∧ Hid (findF fs 0 L = findF fs q (L.drop k)) ∧ Below W0.heap.size W0 wr)
    (fun _ i _ => L.length - (intOf i).toNat)
  case atStart => exact ⟨0, 0, by omega, rfl, rfl, HSD.out.1, rfl, nwR W0⟩
  case round =>
    obtain ⟨k, q, hk, rfl, rfl, hq, HE, hb⟩ := hrel
    have hbw := nwT HB0.out hb
    obtain ⟨x0, x1, x2, x3, x4, _⟩ := five ((hb.block _ (Array.getElem?_eq_some_iff.1 HBX.out).1).trans HBX.out)
    by_cases hlt : k < L.length
    · have hlti : (k : Int) < (L.length : Int) := by omega
      have hqi : (q : Int) < (fs.length : Int) := by omega
      have HST : Hid (L.drop k = L.getD k ByteArray.empty :: L.drop (k + 1)) := by
        show _ = _
        rw [List.drop_eq_getElem_cons hlt]; simp [List.getD, hlt]
      obtain ⟨b1, o1, rfl, hf⟩ := (HF0.out.below hb).file hq
      obtain ⟨ab, cb, al, cl, ⟨_, c1, _, _, c4⟩, _, hli, _⟩ := hf
      obtain ⟨b2, o2, rfl, y1⟩ := (HN0.out.below hb).cell hlt
      have hsm := (HS.out (fs.getD q f0) (by simp [List.getD, hq])).2
      have HLI : Hid (LinksAt wr al (fs.getD q f0).list) := hli
      have HAT : Hid (∀ j, j < (fs.getD q f0).list.length → ∃ p, atI fs ((fs.getD q f0).list.getD j lk0).2 = some p ∧ p < fs.length) := fun j hj => HSD.out.at hq hj
      have HSTEP : Hid (findF fs q (L.drop k) = if (fs.getD q f0).dir then (match namedI (fs.getD q f0).list (L.getD k ByteArray.empty) with
          | none => (0, 3)
          | some j => findF fs (placeOf fs ((fs.getD q f0).list.getD j lk0).2) (L.drop (k + 1))) else (0, 7)) := by
        show _ = _
        rw [HST.out]; rfl
      generalize fs.getD q f0 = f at c1 c4 hsm HLI HAT HSTEP
      obtain ⟨fid, fdir, fsize, fbl, fli⟩ := f
      simp only at c1 c4 hsm HLI HAT HSTEP
      generalize L.getD k ByteArray.empty = nme at y1 HSTEP
      clear hli HST
      cases fdir
      · have HR : Hid (findF fs 0 L = (0, 7)) := by show _ = _; rw [HE.out, HSTEP.out]; rfl
        go_wp2_with fail
        go_ret2
        exact ⟨by rw [HR.out]; rfl, hbw⟩
      · have hS := nwR wr
        have z0 : ∀ w', Below wr.heap.size wr w' → w'.cell? ⟨w.heap.size, 0, none⟩ = some (.int .i64 vid) := fun w' h => (h.cell (p := ⟨w.heap.size, 0, none⟩) (block_lt_of_cell x0)).trans x0
        have z1 : ∀ w', Below wr.heap.size wr w' → w'.cell? ⟨w.heap.size, 1, none⟩ = some (.int .i64 fr) := fun w' h => (h.cell (p := ⟨w.heap.size, 1, none⟩) (block_lt_of_cell x1)).trans x1
        have z2 : ∀ w', Below wr.heap.size wr w' → w'.cell? ⟨w.heap.size, 2, none⟩ = some (.bool snap) := fun w' h => (h.cell (p := ⟨w.heap.size, 2, none⟩) (block_lt_of_cell x2)).trans x2
        have z3 : ∀ w', Below wr.heap.size wr w' → w'.cell? ⟨w.heap.size, 3, none⟩ = some (.slice (some ⟨b1, o1, none⟩) fs.length ca) := fun w' h => (h.cell (p := ⟨w.heap.size, 3, none⟩) (block_lt_of_cell x3)).trans x3
        have z4 : ∀ w', Below wr.heap.size wr w' → w'.cell? ⟨w.heap.size, 4, none⟩ = some (.int .i64 next) := fun w' h => (h.cell (p := ⟨w.heap.size, 4, none⟩) (block_lt_of_cell x4)).trans x4
        have z5 : ∀ w', Below wr.heap.size wr w' → w'.cell? ⟨b1, o1 + q * 5 + 4, none⟩ = some (.slice al fli.length cl) := fun w' h => (h.cell (p := ⟨b1, o1 + q * 5 + 4, none⟩) (block_lt_of_cell c4)).trans c4
        have z6 : ∀ w', Below wr.heap.size wr w' → w'.cell? ⟨b2, o2 + k, none⟩ = some (.string nme) := fun w' h => (h.cell (p := ⟨b2, o2 + k, none⟩) (block_lt_of_cell y1)).trans y1
        have hq0 : (0 : Int) ≤ (q : Int) := by omega
        have hk0 : (0 : Int) ≤ (k : Int) := by omega
        have HFW : Hid (FilesAt wr (some ⟨b1, o1, none⟩) fs) := HF0.out.below hb
        clear x0 x1 x2 x4 y1
        go_wp2_with fail
        clear x3 c1 c4
        go_region_held3 (fun w' => Below wr.heap.size wr w') (first | assumption | exact Below.drew (by assumption) | exact nwT (by assumption) (by assumption)) (first
          | (go_at_call 46; refine (named_any al fli cl nme _ (HLI.out.below (by assumption)) hsm).mono ?_; rintro e wT ⟨rfl, rfl⟩))
        cases hnm : namedI fli nme with
        | none =>
          have HR : Hid (findF fs 0 L = (0, 3)) := by show _ = _; rw [HE.out, HSTEP.out, hnm]; rfl
          simp only [optI]
          clear z0 z1 z2 z3 z4 z5 z6
          go_wp2_with fail
          go_ret2
          exact ⟨by rw [HR.out]; rfl, hbw.drew⟩
        | some j =>
          have hj := namedI_lt hnm
          have hji : (j : Int) < (fli.length : Int) := by omega
          have hj0 : (0 : Int) ≤ (j : Int) := by omega
          obtain ⟨p, hp, hpl⟩ := HAT.out j hj
          have HR : Hid (findF fs 0 L = findF fs p (L.drop (k + 1))) := by
            show _ = _
            rw [HE.out, HSTEP.out, hnm]
            simp only [if_true, placeOf]
            rw [hp]; rfl
          obtain ⟨b3, o3, rfl, _, d2⟩ := HLI.out.cell hj
          have HP : Hid (atI fs (fli.getD j lk0).2 = some p) := hp
          generalize (fli.getD j lk0).2 = z at d2 HP
          have z7 : ∀ w', Below wr.heap.size wr w' → w'.cell? ⟨b3, o3 + j * 2 + 1, none⟩ = some (.int .i64 z) := fun w' h => (h.cell (p := ⟨b3, o3 + j * 2 + 1, none⟩) (block_lt_of_cell d2)).trans d2
          simp only [optI]
          clear hp d2 HSTEP HAT
          go_wp2_with fail
          go_region_held3 (fun w' => Below wr.heap.size wr w') (first | assumption | exact Below.drew (by assumption) | exact nwT (by assumption) (by assumption)) (first
            | (go_at_call 70; refine (at_any _ ⟨vid, fr, snap, fs, next⟩ z _ (HVO.out _ (HFW.out.below (by assumption))) hl).mono ?_; rintro e wU ⟨rfl, hbU⟩))
          have hbu : Below wr.heap.size wr wU := by assumption
          simp only [HP.out, optI]
          clear z0 z1 z2 z3 z4 z5 z6 z7
          go_wp2_with fail
          go_roundw
          case rel => exact ⟨k + 1, p, by omega, by go_num, rfl, hpl, HR.out, nwT hb hbu⟩
          case measure => simp [intOf]; omega
    · have hlti : ¬ (k : Int) < (L.length : Int) := by omega
      have HR : Hid (findF fs 0 L = (q, 0)) := by show _ = _; rw [HE.out, List.drop_of_length_le (by omega)]; rfl
      go_wp2_with fail
      go_ret2
      exact ⟨by rw [HR.out]; rfl, hbw⟩

end Go.Proofs.YtdpighcaieajjabGreat

/- The parent of a path, by the page. -/
namespace Go.Proofs.YtdpighcaieajjabGreat
open Go.RowKit

theorem findF_lt {fs : List FileD} (h : Sound fs) (L : List ByteArray) : ∀ q, q < fs.length → (findF fs q L).1 < fs.length := by
  induction L with
  | nil => intro q hq; exact hq
  | cons n r ih =>
    intro q hq
    unfold findF
    split
    · split
      · exact h.1
      · rename_i k hk
        obtain ⟨j, hj, hjl⟩ := h.at hq (namedI_lt hk)
        have : placeOf fs ((fs.getD q f0).list.getD k lk0).2 = j := by unfold placeOf; rw [hj]; rfl
        rw [this]
        exact ih j hjl
    · exact h.1
def parF (fs : List FileD) (L : List ByteArray) : Nat × Int :=
  let r := findF fs 0 (L.take (L.length - 1))
  if r.2 = 0 then (if (fs.getD r.1 f0).dir then r else (0, 7)) else (0, r.2)

set_option maxRecDepth 100000 in
set_option maxHeartbeats 4000000 in
theorem parent_find (v : Value) (d : VolD) (a : Option Addr) (L : List ByteArray) (cL : Nat) (w : World) (hv : VolVal w v d) (hs : SmallV d) (hsd : Sound d.files) (hL : StrsAt w a L) (hl5 : L.length ≤ 4000) (hl1 : 0 < L.length) (hcL : L.length ≤ cL) :
    Calls Tryz.prog 45 #[v, .slice a L.length cL] w fun e w' => e = .returned (.tuple #[.int .i64 (parF d.files L).1, .int .i64 (parF d.files L).2]) ∧ Below w.heap.size w w' := by
  have HSV : Hid (SmallV d) := hs
  obtain ⟨av, ca, rfl, hfs, hcp⟩ := hv
  have HF : Hid (FilesAt w av d.files) := hfs
  have HN : Hid (StrsAt w a (L.take (L.length - 1))) := hL.take _
  clear hfs hs hL
  obtain ⟨vid, fr, snap, fs, next⟩ := d
  simp only at *
  have hl : fs.length ≤ 100000 := HSV.out.1
  have HSD : Hid (Sound fs) := hsd
  clear hsd
  have HVO : Hid (∀ w', FilesAt w' av fs → VolVal w' (.agg #[.int .i64 vid, .int .i64 fr, .bool snap, .slice av fs.length ca, .int .i64 next]) ⟨vid, fr, snap, fs, next⟩) := fun w' h => ⟨av, ca, rfl, h, hcp⟩
  obtain ⟨n, hn⟩ : ∃ n, L.length = n + 1 := ⟨L.length - 1, by omega⟩
  have hn1 : L.length - 1 = n := by omega
  have HPF : Hid (parF fs L = (if (findF fs 0 (L.take n)).2 = 0 then (if (fs.getD (findF fs 0 (L.take n)).1 f0).dir then findF fs 0 (L.take n) else (0, 7)) else (0, (findF fs 0 (L.take n)).2))) := by show _ = _; unfold parF; rw [hn1]
  rw [hn1] at HN
  have HNL : Hid ((L.take n).length = n) := by show _ = _; rw [List.length_take]; omega
  have HLT : Hid ((findF fs 0 (L.take n)).1 < fs.length) := findF_lt HSD.out _ 0 HSD.out.1
  clear hn1
  rw [hn] at hcL ⊢
  have HFD : Hid (∀ w' c, Below w.heap.size w w' → Calls Tryz.prog 51 #[.agg #[.int .i64 vid, .int .i64 fr, .bool snap, .slice av fs.length ca, .int .i64 next], .slice a n c] w' fun e w2 => e = .returned (.tuple #[.int .i64 (findF fs 0 (L.take n)).1, .int .i64 (findF fs 0 (L.take n)).2]) ∧ Below w'.heap.size w' w2) := fun w' c h => by
    have h2 := find_any _ ⟨vid, fr, snap, fs, next⟩ a (L.take n) c w' (HVO.out _ (HF.out.below h)) HSV.out HSD.out (HN.out.below h) (by rw [HNL.out]; omega)
    rw [HNL.out] at h2
    exact h2
  generalize findF fs 0 (L.take n) = R at HPF HLT HFD
  obtain ⟨r1, r2⟩ := R
  simp only at HPF HLT HFD
  clear HNL HN
  go_enter Tryz.func45, Tryz.ntmps45
  go_wp2_with fail
  obtain ⟨W0, hW0⟩ : ∃ W0, W0 = w.alloc (.cells #[.int .i64 vid, .int .i64 fr, .bool snap, .slice av fs.length ca, .int .i64 next] 24) := ⟨_, rfl⟩
  have HB0 : Hid (Below w.heap.size w W0) := by rw [hW0]; exact nwA (nwR w) _
  have HBX : Hid (W0.heap[w.heap.size]? = some (.cells #[.int .i64 vid, .int .i64 fr, .bool snap, .slice av fs.length ca, .int .i64 next] 24 (0, 0))) := by rw [hW0]; exact heap_alloc_new w _
  rw [← hW0]
  clear hW0
  have hS := nwR W0
  obtain ⟨x0, x1, x2, x3, x4, _⟩ := five HBX.out
  have z0 : ∀ w', Below W0.heap.size W0 w' → w'.cell? ⟨w.heap.size, 0, none⟩ = some (.int .i64 vid) := fun w' h => (h.cell (p := ⟨w.heap.size, 0, none⟩) (block_lt_of_cell x0)).trans x0
  have z1 : ∀ w', Below W0.heap.size W0 w' → w'.cell? ⟨w.heap.size, 1, none⟩ = some (.int .i64 fr) := fun w' h => (h.cell (p := ⟨w.heap.size, 1, none⟩) (block_lt_of_cell x1)).trans x1
  have z2 : ∀ w', Below W0.heap.size W0 w' → w'.cell? ⟨w.heap.size, 2, none⟩ = some (.bool snap) := fun w' h => (h.cell (p := ⟨w.heap.size, 2, none⟩) (block_lt_of_cell x2)).trans x2
  have z3 : ∀ w', Below W0.heap.size W0 w' → w'.cell? ⟨w.heap.size, 3, none⟩ = some (.slice av fs.length ca) := fun w' h => (h.cell (p := ⟨w.heap.size, 3, none⟩) (block_lt_of_cell x3)).trans x3
  have z4 : ∀ w', Below W0.heap.size W0 w' → w'.cell? ⟨w.heap.size, 4, none⟩ = some (.int .i64 next) := fun w' h => (h.cell (p := ⟨w.heap.size, 4, none⟩) (block_lt_of_cell x4)).trans x4
  have e1 : IntKind.i64.wrap ((n : Int) + 1 - 1) = (n : Int) := by rw [wrap_any (by omega) (by omega)]; omega
  have e3 : IntKind.i64.wrap (n : Int) = (n : Int) := wrap_any (by omega) (by omega)
  have e4 : (0 : Int) ≤ (n : Int) := by omega
  have e5 : (n : Int) ≤ (cL : Int) := by omega
  clear x0 x1 x2 x3 x4
  go_region_held3 (fun w' => Below W0.heap.size W0 w') (first | assumption | exact Below.drew (by assumption) | exact nwT (by assumption) (by assumption)) (first
    | (go_at_call 51; refine (HFD.out _ _ (nwT HB0.out (by assumption))).mono ?_; rintro e wT ⟨rfl, hbT⟩))
  have hbt : Below W0.heap.size W0 wT := by assumption
  have x3 := z3 wT hbt
  have HBT : Hid (Below w.heap.size w wT) := nwT HB0.out hbt
  clear z0 z1 z2 z3 z4 e1 e3
  by_cases h0 : r2 = 0
  · subst h0
    have hr1 : (r1 : Int) < (fs.length : Int) := by have := HLT.out; omega
    obtain ⟨b1, o1, rfl, hf⟩ := (HF.out.below HBT.out).file HLT.out
    obtain ⟨ab, cb, al, cl, ⟨_, c1, _, _, _⟩, _, _⟩ := hf
    cases hd : (fs.getD r1 f0).dir
    · rw [hd] at c1
      have HR : Hid (parF fs L = (0, 7)) := by show _ = _; rw [HPF.out, hd]; rfl
      go_wp2_with fail
      go_ret2
      exact ⟨by rw [HR.out]; rfl, HBT.out⟩
    · rw [hd] at c1
      have HR : Hid (parF fs L = (r1, 0)) := by show _ = _; rw [HPF.out, hd]; rfl
      go_wp2_with fail
      go_ret2
      exact ⟨by rw [HR.out]; rfl, HBT.out⟩
  · have HR : Hid (parF fs L = (0, r2)) := by show _ = _; rw [HPF.out, if_neg h0]
    have h0b : (r2 == 0) = false := beq_eq_false_iff_ne.2 h0
    go_wp2_with fail
    go_ret2
    exact ⟨by rw [HR.out]; rfl, HBT.out⟩

end Go.Proofs.YtdpighcaieajjabGreat
