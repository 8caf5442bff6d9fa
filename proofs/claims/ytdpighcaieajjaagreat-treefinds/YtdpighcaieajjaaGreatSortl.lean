/- Links sorted by the library. -/
import Derived.Test.YtdpighcaieajjaaGreatLaysort
import Derived.Test.YtdpighcaieajjaaGreatVacant
import Derived.Sort.OwnSortedInts
namespace Go.Proofs.YtdpighcaieajjaaGreat
open Go.RowKit Go.Sort

theorem ltS_eq (a b : ByteArray) : ltS a b = decide (a.toList < b.toList) := by unfold ltS; exact bytesLess_eq _ _
theorem ltS_irrefl (a : ByteArray) : ltS a a = false := by rw [ltS_eq]; exact decide_eq_false (List.lt_irrefl _)
theorem ltS_trans {a b c : ByteArray} (h1 : ltS a b = true) (h2 : ltS b c = true) : ltS a c = true := by
  rw [ltS_eq] at *
  exact decide_eq_true (List.lt_trans (of_decide_eq_true h1) (of_decide_eq_true h2))
theorem ltS_total {a b : ByteArray} (h1 : ltS a b = false) (h2 : ltS b a = false) : a = b := by
  rw [ltS_eq] at *
  have h1 := of_decide_eq_false h1
  have h2 := of_decide_eq_false h2
  have e : a.toList = b.toList := List.le_antisymm (List.not_lt.1 h2) (List.not_lt.1 h1)
  have e1 := Lib.toList_data a; have e2 := Lib.toList_data b
  rw [e1, e2] at e
  cases a; cases b; simp at e; rw [e]
def cmpS (a b : ByteArray) : Int := if ltS a b then -1 else if ltS b a then 1 else 0

set_option maxRecDepth 100000 in
set_option maxHeartbeats 400000 in
theorem isNaN_any (s : ByteArray) (w : World) : Calls Tryz.prog 133 #[.string s] w fun e w' => e = .returned (.bool false) ∧ w' = w := by
  go_enter Tryz.func133, Tryz.ntmps133
  go_wp2_with fail
  go_ret
  exact ⟨by simp, rfl⟩

set_option maxRecDepth 100000 in
set_option maxHeartbeats 400000 in
theorem compare_any (a b : ByteArray) (w : World) : Calls Tryz.prog 119 #[.string a, .string b] w fun e w' => e = .returned (.int .i64 (cmpS a b)) ∧ w' = w := by
  cases h1 : ltS a b
  · have g1 : Op.bytesLess a.toList b.toList = false := h1
    cases h2 : ltS b a
    · have g2 : (a.toList == b.toList) = true := by rw [ltS_total h1 h2]; simp
      have HR : Hid (cmpS a b = 0) := by show _ = _; unfold cmpS; rw [h1, h2]; rfl
      go_enter Tryz.func119, Tryz.ntmps119
      go_wp2_with (go_at_call 133; refine (isNaN_any _ _).mono ?_; rintro e w' ⟨rfl, rfl⟩)
      go_ret
      exact ⟨ret_int HR.out.symm, rfl⟩
    · have g2 : (a.toList == b.toList) = false := beq_eq_false_iff_ne.2 (fun e => by
        rw [ltS_eq, e] at h2
        exact List.lt_irrefl _ (of_decide_eq_true h2))
      have HR : Hid (cmpS a b = 1) := by show _ = _; unfold cmpS; rw [h1, h2]; rfl
      go_enter Tryz.func119, Tryz.ntmps119
      go_wp2_with (go_at_call 133; refine (isNaN_any _ _).mono ?_; rintro e w' ⟨rfl, rfl⟩)
      go_ret
      exact ⟨ret_int HR.out.symm, rfl⟩
  · have g1 : Op.bytesLess a.toList b.toList = true := h1
    have HR : Hid (cmpS a b = -1) := by show _ = _; unfold cmpS; rw [h1]; rfl
    go_enter Tryz.func119, Tryz.ntmps119
    go_wp2_with (go_at_call 133; refine (isNaN_any _ _).mono ?_; rintro e w' ⟨rfl, rfl⟩)
    go_ret
    exact ⟨ret_int HR.out.symm, rfl⟩

instance : Inhabited LinkD := ⟨lk0⟩
def encL (x : LinkD) : List Value := [.string x.1, .int .i64 x.2]

set_option maxRecDepth 100000 in
set_option maxHeartbeats 400000 in
theorem closure_any (x y : LinkD) (W : World) : Calls Tryz.prog 118 #[.agg #[.string x.1, .int .i64 x.2], .agg #[.string y.1, .int .i64 y.2]] W fun e w' => e = .returned (.int .i64 (cmpS x.1 y.1)) ∧ ∃ q os', w' = grow (W.drewN q) os' := by
  go_enter Tryz.func118, Tryz.ntmps118
  go_wp2_with (go_at_call 119; refine (compare_any _ _ _).mono ?_; rintro e w' ⟨rfl, rfl⟩)
  go_ret
  exact ⟨rfl, 0, _, by rw [alloc_eq_grow, alloc_eq_grow, grow_grow]; rfl⟩
theorem hlen_any (n : Nat) (W : World) (h : n ≤ 12) : Calls Tryz.prog 132 #[.int .u64 n] W fun e w' => (∃ l : Int, e = .returned (.int .i64 l)) ∧ w' = W :=
  (Tryz.bits_Len n W (by omega) (by omega)).mono fun _ _ ⟨he, hw⟩ => ⟨⟨_, he⟩, hw⟩
theorem ltOf_cmp (x y : LinkD) : ltOf (fun a b : LinkD => cmpS a.1 b.1) x y = ltS x.1 y.1 := by
  show decide (cmpS x.1 y.1 < 0) = _
  unfold cmpS
  cases ltS x.1 y.1
  · cases ltS y.1 x.1 <;> rfl
  · rfl
theorem swo_cmp : SWO (ltOf (fun a b : LinkD => cmpS a.1 b.1)) := by
  refine ⟨fun x => by rw [ltOf_cmp]; exact ltS_irrefl _, fun x y z h1 h2 => ?_, fun x y z h1 h2 => ?_⟩
  · rw [ltOf_cmp] at *; exact ltS_trans h1 h2
  · rw [ltOf_cmp] at *
    rw [ltS_eq] at *
    have h1 := List.not_lt.1 (of_decide_eq_false h1)
    have h2 := List.not_lt.1 (of_decide_eq_false h2)
    exact decide_eq_false (List.not_lt.2 (List.le_trans h2 h1))
theorem flatK_lflat (l : List LinkD) : (flatK encL 2 l.toArray).toList = lflat l := by
  apply List.ext_getElem?
  intro j
  by_cases hj : j < l.length * 2
  · have hq : j / 2 < l.length := by omega
    obtain ⟨g0, g1⟩ := lflat_get l (j / 2) hq
    have e : l.toArray[j / 2]! = l.getD (j / 2) lk0 := by simp [hq, List.getD]
    rw [Array.getElem?_toList]
    have h2 : (flatK encL 2 l.toArray)[j]? = some ((encL l.toArray[j / 2]!)[j % 2]!) := by simp [flatK, hj]
    rw [h2, e]
    rcases Nat.mod_two_eq_zero_or_one j with hm | hm
    · have e2 : j / 2 * 2 = j := by omega
      rw [e2] at g0; rw [g0, hm]; rfl
    · have e2 : j / 2 * 2 + 1 = j := by omega
      rw [e2] at g1; rw [g1, hm]; rfl
  · rw [List.getElem?_eq_none (by simp [flatK]; omega), List.getElem?_eq_none (by rw [lflat_len]; omega)]

set_option maxRecDepth 100000 in
/-- links of one's own, sorted where they stand -/
theorem sort_any (base : Nat) (v : Value) (l : List LinkD) (w : World) (ho : OwnLinks w base v l) (hl : l.length ≤ 12) (hp : 0 < l.length) :
    Calls Tryz.prog 117 #[v, .func (.func 118) #[] #[]] w fun e w' => e = .returned (.tuple #[]) ∧ (∃ l' : List LinkD, l'.length = l.length ∧ l'.Perm l ∧ (∀ i j, i < j → j < l'.length → ltS (l'.getD j lk0).1 (l'.getD i lk0).1 = false) ∧ OwnLinks w' base v l') ∧ w.grownBy w' v.ownBlock := by
  have hlen := ho.1
  rcases ho.2 with ⟨_, h0⟩ | ⟨g, cap, cur, rfl, hb, hh, h1, h2, h3, h4⟩
  · omega
  have hg : g < w.heap.size := (Array.getElem?_eq_some_iff.1 hh).1
  have hcs : l.length * 2 ≤ cur.size := by omega
  have hH : HoldsK encL 2 w g 0 l.toArray := by
    intro j hj
    have hj' : j < l.length * 2 := by simpa using hj
    refine ⟨?_, by simp [World.frozen?, hh]⟩
    have e1 : (cur.toList.take (l.length * 2))[j]? = (lflat l)[j]? := by rw [h4]
    rw [List.getElem?_take_of_lt hj'] at e1
    have e2 : (flatK encL 2 l.toArray)[j]? = (lflat l)[j]? := by rw [← Array.getElem?_toList, flatK_lflat]
    have e3 : (flatK encL 2 l.toArray)[j]? = some (flatK encL 2 l.toArray)[j]! := by
      have hs : j < (flatK encL 2 l.toArray).size := by simpa using hj'
      rw [Array.getElem?_eq_getElem hs, getElem!_pos _ j hs]
    rw [Lib.cell_of_heap hh, Nat.zero_add]
    show cur[j]? = some _
    rw [← Array.getElem?_toList, e1, ← e2, e3]; rfl
  have eg : ∀ args w, (callFunc 118 args).run Tryz.prog w = .ok (.enter 118 args) w := enters_of Tryz.func118 (by kernel_rfl) rfl
  have hcon := AnyQ.slices_SortFunc_small_sorted Tryz.sortLk 2 Tryz.isAgg87 Tryz.sizeOf87 encL (fun _ => rfl) (fun x v hv => by simp [encL] at hv; rcases hv with rfl | rfl <;> rfl) (fun x y => cmpS x.1 y.1) 118 #[] swo_cmp g 0 cap l.toArray w eg (fun m os dk _ x y => closure_any x y _) hH hg (by simpa using hl) hlen_any
  have hcon2 : Calls Tryz.prog 117 #[.slice (some ⟨g, 0, none⟩) l.length cap, .func (.func 118) #[] #[]] w fun e w' => e = .returned (.tuple #[]) ∧ ∃ d' n os, PermIn 0 l.toArray.size l.toArray d' ∧ SortedIn (ltOf fun x y : LinkD => cmpS x.1 y.1) 0 l.toArray.size d' ∧ w' = sortWorldK encL 2 w g 0 n d' os := hcon
  refine hcon2.mono ?_
  rintro e w' ⟨rfl, d', n, os, ⟨p1, _, p3⟩, hsrt, rfl⟩
  have hd : d'.size = l.length := by simpa using p1
  have hde : d'.toList.length = l.length := by simpa using hd
  have hx : d' = d'.toList.toArray := by simp
  refine ⟨rfl, ⟨d'.toList, hde, ?_, ?_, ?_, .inr ⟨g, cap, putCells id 0 (flatK encL 2 d') cur, by rw [hde], hb, ?_, by omega, h2, by simp [putCells, h3], ?_⟩⟩, ?_⟩
  · have e1 : d'.extract 0 l.toArray.size = d' := by rw [← p1]; simp
    have e2 : l.toArray.extract 0 l.toArray.size = l.toArray := by simp
    rw [e1, e2] at p3
    simpa using p3
  · intro i j hij hj
    have := hsrt i j (Nat.zero_le _) hij (by simpa [hde] using hj)
    rw [ltOf_cmp] at this
    have hi2 : i < d'.toList.length := by omega
    have e1 : d'[j]! = d'.toList.getD j lk0 := by
      have hs : j < d'.size := by simpa using hj
      rw [getElem!_pos d' j hs]; simp [List.getD, hs]
    have e2 : d'[i]! = d'.toList.getD i lk0 := by
      have hs : i < d'.size := by simpa using hi2
      rw [getElem!_pos d' i hs]; simp [List.getD, hs]
    rw [← e1, ← e2]; exact this
  · rw [lflat_len]
  · unfold sortWorldK putRowK
    rw [heap_grow_old _ _ (by simpa using hg)]
    simp [putRow, mapBlock, Sort.ahead, Array.getElem?_modify, hh, onCells]
  · rw [hde]
    have e0 : lflat d'.toList = (flatK encL 2 d').toList := by
      have := flatK_lflat d'.toList
      rw [← hx] at this; exact this.symm
    rw [e0]
    have hfs : (flatK encL 2 d').size = l.length * 2 := by rw [size_flatK, hd]
    apply List.ext_getElem?
    intro j
    by_cases hj : j < l.length * 2
    · rw [List.getElem?_take_of_lt hj, Array.getElem?_toList, Array.getElem?_toList]
      have hs : j < (flatK encL 2 d').size := by omega
      have hc : j < cur.size := by omega
      rw [Array.getElem?_eq_getElem hs]
      simp only [putCells, Array.getElem?_mapIdx, Array.getElem?_eq_getElem hc, Option.map_some, Nat.zero_add, Nat.sub_zero, id]
      rw [if_pos ⟨Nat.zero_le _, hs⟩, getElem!_pos _ j hs]
    · rw [List.getElem?_take_eq_none (by omega), List.getElem?_eq_none (by simp; omega)]
  · refine ⟨rfl, rfl, rfl, ?_, fun k hk hne => ?_⟩
    · unfold sortWorldK putRowK; simp
    · unfold sortWorldK putRowK
      rw [heap_grow_old _ _ (by simpa using hk)]
      have : g ≠ k := fun e => hne (by rw [← e]; rfl)
      simp [putRow, mapBlock, Sort.ahead, Array.getElem?_modify, this]

end Go.Proofs.YtdpighcaieajjaaGreat
