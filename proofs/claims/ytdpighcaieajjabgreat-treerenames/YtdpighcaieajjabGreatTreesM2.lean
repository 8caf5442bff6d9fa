/- Laid together: Step, Next, Read, Under, Face, Name, Split. -/
import Derived.Test.YtdpighcaieajjabGreatTreesM1
import Derived.Deep.RegionHeld3
/- The reader's steps: a name more in its row; a name read. -/
namespace Go.Proofs.YtdpighcaieajjabGreat
open Go.RowKit

structure RdIs (w : World) (g : Nat) (acc : List ByteArray) (rest : ByteArray) (v : Value) : Prop where
  blk : w.heap[g]? = some (.cells #[v, .string rest] 136 (0, 0))
  own : OwnStrs w (g + 1) v acc

theorem RdIs.lt {w : World} {g : Nat} {acc : List ByteArray} {rest : ByteArray} {v : Value} (h : RdIs w g acc rest v) : g < w.heap.size := (Array.getElem?_eq_some_iff.1 h.blk).1
theorem RdIs.below {w w' : World} {g : Nat} {acc : List ByteArray} {rest : ByteArray} {v : Value} (h : RdIs w g acc rest v) (hb : Below w.heap.size w w') : RdIs w' g acc rest v :=
  ⟨(hb.block g h.lt).trans h.blk, h.own.below hb⟩
theorem RdIs.ne {w : World} {g : Nat} {acc : List ByteArray} {rest : ByteArray} {v : Value} (h : RdIs w g acc rest v) : v.ownBlock ≠ some g := by
  intro e; have := h.own.lt g e; omega

theorem own_set {w : World} {base : Nat} {v : Value} {xs : List ByteArray} (h : OwnStrs w base v xs) {g : Nat} (o : Nat) (hg : g < base) (u : Value) : OwnStrs (w.setCell ⟨g, o, none⟩ u) base v xs := by
  refine ⟨h.1, ?_⟩
  rcases h.2 with hn | ⟨r, cap, cur, hv, hb, hgg, rest⟩
  · exact .inl hn
  · refine .inr ⟨r, cap, cur, hv, hb, ?_, rest⟩
    rw [Below.heap_setCell _ _ _ _ (by show r ≠ g; omega)]
    exact hgg

set_option maxRecDepth 100000 in
set_option maxHeartbeats 1000000 in
theorem add_any (g : Nat) (acc : List ByteArray) (rest : ByteArray) (v : Value) (q c : Nat) (x : ByteArray) (w : World) (h : RdIs w g acc rest v) (hq : w.cell? ⟨q, 0, none⟩ = some (.string x)) (hl : acc.length ≤ 4000) :
    Calls Tryz.prog 128 #[.pointer (some ⟨g, 0, none⟩), .slice (some ⟨q, 0, none⟩) 1 c] w fun e w' => e = .returned (.tuple #[]) ∧ (∃ v', RdIs w' g (acc ++ [x]) rest v') ∧ Below g w w' := by
  obtain ⟨i0, hi, hz0, hz1, hz2⟩ := info_parts Tryz.info9
  have hgl := h.lt
  have hne := h.ne
  obtain ⟨hbk, hown⟩ := h
  have c0 : w.cell? ⟨g, 0, none⟩ = some v := by rw [Lib.cell_of_heap hbk]; rfl
  have HB : Hid (w.heap[g]? = some (.cells #[v, .string rest] 136 (0, 0))) := hbk
  have HO : Hid (w.ownsRow (g + 1) 9 1 v acc.length (acc.map .string)) := hown
  have HQ : Hid (∀ j u, [Value.string x][j]? = some u → w.cell? ((⟨q, 0, none⟩ : Addr).add j) = some u) := by
    intro j u hu
    match j, hu with
    | 0, hu => simp at hu; subst hu; simpa [Addr.add] using hq
  have hc3 : acc.length + 1 ≤ maxLen := by unfold maxLen; omega
  have hc4 : (acc.length + 1) * 16 ≤ 140737488355328 := by omega
  have hc5 : g + 1 ≤ w.heap.size := hgl
  clear hbk hown hq
  go_enter Tryz.func128, Tryz.ntmps128
  go_wp2_with (at_builtin; refine wpList_append_own _ rfl (.tmp 8) (.tmp 9) 38 rfl (g + 1) 9 i0 (.string ⟨#[]⟩) 1 16 Tryz.underlying38 hi hz0 hz1 hz2 rfl (by decide) v acc.length (acc.map .string) rfl HO.out ⟨q, 0, none⟩ 1 c [.string x] rfl rfl HQ.out (by simp [Value.oneCell']) hc3 hc4 hc5 ?_; intro v' w2 hown' hgrow _; refine unstop ?_)
  unfold Stop
  have hb2 : w2.heap[g]? = some (.cells #[v, .string rest] 136 (0, 0)) := by rw [hgrow.block g hgl (fun e => hne e.symm)]; exact HB.out
  have d1 : w2.cell? ⟨g, 0, none⟩ = some v := by rw [Lib.cell_of_heap hb2]; rfl
  have f1 : w2.frozen? ⟨g, 0, none⟩ = false := Lib.frozen_of_heap hb2 0
  obtain ⟨r, cap, rfl⟩ : ∃ r cap, v' = .slice (some ⟨r, 0, none⟩) (acc.length + 1) cap := by
    rcases hown'.2 with ⟨_, h0⟩ | ⟨r, cap, cur, hv, _⟩
    · omega
    · exact ⟨r, cap, hv⟩
  have HB2 : Hid (w2.heap[g]? = some (.cells #[v, .string rest] 136 (0, 0))) := hb2
  have HO2 : Hid (OwnStrs w2 (g + 1) (.slice (some ⟨r, 0, none⟩) (acc.length + 1) cap) (acc ++ [x])) := OwnStrs.snoc hown'
  have HBE : Hid (Below g w w2) := (Below.refl g w).grown hgrow (Nat.le_of_lt hgl) (fun k hk => Nat.le_of_succ_le (HO.out.lt k hk).1)
  clear hb2 hown' hgrow c0
  go_wp2
  go_end0
  refine ⟨rfl, ⟨_, ?_, own_set HO2.out 0 (Nat.lt_succ_self g) _⟩, HBE.out.setCell (p := ⟨g, 0, none⟩) (Nat.le_refl _) _⟩
  rw [heap_setCell_same w2 g 0 _ 136 _ HB2.out]; simp

set_option maxRecDepth 100000 in
set_option maxHeartbeats 1000000 in
theorem clone_any (s : ByteArray) (w : World) (hs : s.size ≤ 4000) :
    Calls Tryz.prog 129 #[.string s] w fun e w' => e = .returned (.string s) ∧ Below w.heap.size w w' := by
  go_enter Tryz.func129, Tryz.ntmps129
  go_wp2_with fail
  refine (Tryz.stringslite_Clone s _ (by omega)).mono ?_
  rintro e w1 ⟨rfl, hb⟩
  go_wp2_with fail
  go_ret
  exact ⟨rfl, hb⟩

end Go.Proofs.YtdpighcaieajjabGreat

/- The reader reads one name, with the slash ahead of it. -/
namespace Go.Proofs.YtdpighcaieajjabGreat
open Go.RowKit

def twL (r : List UInt8) : List UInt8 := r.takeWhile (· ≠ 47)
def dwL (r : List UInt8) : List UInt8 := r.dropWhile (· ≠ 47)
theorem tw_dw (r : List UInt8) : twL r ++ dwL r = r := List.takeWhile_append_dropWhile
theorem idx2 (r : List UInt8) : (Lib.indexByte r 47 = -1 ∧ (twL r).length = r.length) ∨ (Lib.indexByte r 47 = ((twL r).length : Int) ∧ (twL r).length ≤ r.length) := by
  have h := idx r
  have hge := Lib.indexByte_ge r 47
  by_cases h0 : Lib.indexByte r 47 < 0
  · exact .inl ⟨by omega, by rw [twL, (h.1 h0).1]⟩
  · obtain ⟨h1, h2, _⟩ := h.2 (by omega)
    right
    have e : (twL r).length = (Lib.indexByte r 47).toNat := by rw [twL, h2, List.length_take]; omega
    rw [e]; omega
theorem cut_tw (r : List UInt8) : (bs r).extract 0 (twL r).length = bs (twL r) := by
  apply ls_inj
  show ((bs r).extract 0 (twL r).length).data.toList = _
  rw [← Lib.toList_data, Lib.extract_toList, ls_bs]
  show ((ls (bs r)).drop 0).take _ = _
  rw [ls_bs, List.drop_zero, Nat.sub_zero]
  exact (congrArg (List.take (twL r).length) (tw_dw r)).symm.trans (by simp)
theorem cut_dw (r : List UInt8) : (bs r).extract (twL r).length (bs r).size = bs (dwL r) := by
  apply ls_inj
  show ((bs r).extract _ _).data.toList = _
  rw [← Lib.toList_data, Lib.extract_toList, ls_bs]
  show ((ls (bs r)).drop _).take _ = _
  rw [ls_bs, ← ls_size, ls_bs, List.take_of_length_le (by simp)]
  exact (congrArg (List.drop (twL r).length) (tw_dw r)).symm.trans (by simp)
theorem bs_size (l : List UInt8) : (bs l).size = l.length := by rw [← ls_size, ls_bs]

set_option maxRecDepth 100000 in
set_option maxHeartbeats 1000000 in
theorem next_no1 (g : Nat) (acc : List ByteArray) (rest : ByteArray) (v : Value) (w : World) (h : RdIs w g acc rest v) (hh : Lib.hasPrefix (ls rest) [47] = false) :
    Calls Tryz.prog 113 #[.pointer (some ⟨g, 0, none⟩)] w fun e w' => e = .returned (.bool false) ∧ w' = w := by
  have c1 : w.cell? ⟨g, 1, none⟩ = some (.string rest) := by rw [Lib.cell_of_heap h.blk]; rfl
  have hh' : Lib.hasPrefix rest.data.toList [47] = false := hh
  go_enter Tryz.func113, Tryz.ntmps113
  go_wp2_with (go_at_call 125; refine (Tryz.strings_CutPrefix _ _ _).mono ?_; rintro e w' ⟨rfl, rfl⟩)
  go_ret
  exact ⟨rfl, rfl⟩

set_option maxRecDepth 100000 in
set_option maxHeartbeats 1000000 in
theorem next_no2 (g : Nat) (acc : List ByteArray) (rest : ByteArray) (v : Value) (r : List UInt8) (w : World) (h : RdIs w g acc rest v) (hr : ls rest = 47 :: r) (hs : r.length ≤ 4000) (hn : nmL (twL r) = false) :
    Calls Tryz.prog 113 #[.pointer (some ⟨g, 0, none⟩)] w fun e w' => e = .returned (.bool false) ∧ w' = w := by
  have c1 : w.cell? ⟨g, 1, none⟩ = some (.string rest) := by rw [Lib.cell_of_heap h.blk]; rfl
  have hp : Lib.hasPrefix rest.data.toList [47] = true := by show Lib.hasPrefix (ls rest) [47] = true; rw [hr]; rfl
  have ht : Lib.trimPrefix rest.data.toList [47] = r := by show Lib.trimPrefix (ls rest) [47] = r; rw [hr]; rfl
  have HN : Hid (nm ((bs r).extract 0 (twL r).length) = false) := by show nm _ = false; rw [cut_tw]; unfold nm; rw [ls_bs]; exact hn
  have hT : (bs r).size ≤ 4000 := by rw [bs_size]; exact hs
  have hi := idx2 r
  rw [← bs_size r] at hi
  clear hn hr
  go_enter Tryz.func113, Tryz.ntmps113
  go_wp2_with (go_at_call 125; refine (Tryz.strings_CutPrefix _ _ _).mono ?_; rintro e w' ⟨rfl, rfl⟩; rw [show (⟨#[47]⟩ : ByteArray).data.toList = [47] from rfl, ht, hp, show (⟨r.toArray⟩ : ByteArray) = bs r from rfl])
  refine (Tryz.strings_IndexByte _ _ _).mono ?_
  rintro e w' ⟨rfl, rfl⟩
  rw [show (bs r).data.toList = r from ls_bs r, show (47 : Int).toNat.toUInt8 = 47 from rfl]
  generalize bs r = T at HN hT hi
  generalize Lib.indexByte r 47 = ix at hi
  generalize (twL r).length = n at HN hi
  clear hp ht
  rcases hi with ⟨rfl, rfl⟩ | ⟨rfl, hn⟩
  · have HN' : Hid (nm T = false) := by have := HN.out; rwa [show T.extract 0 T.size = T from by simp] at this
    go_wp2_with (go_at_call 127; refine (check_any _ _).mono ?_; rintro e w' ⟨rfl, rfl⟩; rw [HN'.out, errI_f])
    go_ret
    exact ⟨rfl, rfl⟩
  · have h1 : (n : Int) ≤ (T.size : Int) := by omega
    go_wp2_with (go_at_call 127; refine (check_any _ _).mono ?_; rintro e w' ⟨rfl, rfl⟩; rw [HN.out, errI_f])
    go_ret
    exact ⟨rfl, rfl⟩

theorem RdIs.put {w : World} {g : Nat} {acc : List ByteArray} {rest : ByteArray} {v : Value} (h : RdIs w g acc rest v) (y : ByteArray) : RdIs (w.setCell ⟨g, 1, none⟩ (.string y)) g acc y v :=
  ⟨by rw [heap_setCell_same w g 1 _ 136 _ h.blk]; simp, own_set h.own 1 (Nat.lt_succ_self g) _⟩

set_option maxRecDepth 100000 in
set_option maxHeartbeats 2000000 in
theorem next_yes (g : Nat) (acc : List ByteArray) (rest : ByteArray) (v : Value) (r : List UInt8) (w : World) (h : RdIs w g acc rest v) (hr : ls rest = 47 :: r) (hs : r.length ≤ 4000) (hl : acc.length ≤ 4000) (hn : nmL (twL r) = true) :
    Calls Tryz.prog 113 #[.pointer (some ⟨g, 0, none⟩)] w fun e w' => e = .returned (.bool true) ∧ (∃ v', RdIs w' g (acc ++ [bs (twL r)]) (bs (dwL r)) v') ∧ Below g w w' := by
  have c1 : w.cell? ⟨g, 1, none⟩ = some (.string rest) := by rw [Lib.cell_of_heap h.blk]; rfl
  have hp : Lib.hasPrefix rest.data.toList [47] = true := by show Lib.hasPrefix (ls rest) [47] = true; rw [hr]; rfl
  have ht : Lib.trimPrefix rest.data.toList [47] = r := by show Lib.trimPrefix (ls rest) [47] = r; rw [hr]; rfl
  have HN : Hid (nm ((bs r).extract 0 (twL r).length) = true) := by show nm _ = true; rw [cut_tw]; unfold nm; rw [ls_bs]; exact hn
  have HR : Hid (RdIs w g acc rest v) := h
  have hT : (bs r).size ≤ 4000 := by rw [bs_size]; exact hs
  have HC1 : Hid ((bs r).extract 0 (twL r).length = bs (twL r)) := cut_tw r
  have HC2 : Hid ((bs r).extract (twL r).length (bs r).size = bs (dwL r)) := cut_dw r
  have hi := idx2 r
  have hz : (twL r).length ≤ 8 := (nmL_len hn).2
  rw [← bs_size r] at hi
  clear hn hr h
  go_enter Tryz.func113, Tryz.ntmps113
  go_wp2_with (go_at_call 125; refine (Tryz.strings_CutPrefix _ _ _).mono ?_; rintro e w' ⟨rfl, rfl⟩; rw [show (⟨#[47]⟩ : ByteArray).data.toList = [47] from rfl, ht, hp, show (⟨r.toArray⟩ : ByteArray) = bs r from rfl])
  refine (Tryz.strings_IndexByte _ _ _).mono ?_
  rintro e w' ⟨rfl, rfl⟩
  rw [show (bs r).data.toList = r from ls_bs r, show (47 : Int).toNat.toUInt8 = 47 from rfl]
  generalize hX0 : bs (twL r) = X at HC1
  generalize hY0 : bs (dwL r) = Y at HC2
  have HX0 : Hid (bs (twL r) = X) := hX0
  have HY0 : Hid (bs (dwL r) = Y) := hY0
  clear hX0 hY0
  generalize bs r = T at HN hT hi HC1 HC2
  generalize Lib.indexByte r 47 = ix at hi
  generalize (twL r).length = n at HN hi HC1 HC2 hz
  clear hp ht
  have hgl : g < w'.heap.size := HR.out.lt
  rcases hi with ⟨rfl, rfl⟩ | ⟨rfl, hn⟩
  · have e1 : T.extract 0 T.size = T := by simp
    rw [HC1.out] at HN
    have e2 : T = X := by rw [← HC1.out, e1]
    subst e2
    have hx : T.size ≤ 4000 := hT
    have e3 : Y = ByteArray.empty := by rw [← HC2.out]; simp
    subst e3
    go_wp2_with (go_at_call 127; refine (check_any _ _).mono ?_; rintro e w' ⟨rfl, rfl⟩; rw [HN.out, errI_t])
    go_region_held3 (fun _ => True) (trivial) (first
      | (go_at_call 129; refine (clone_any _ _ hx).mono ?_; rintro e wC ⟨rfl, hbC0⟩; have hbC : Below w'.heap.size w' wC := (Below.drew (nwR w')).trans hbC0; clear hbC0)
      | (go_at_call 128; refine (add_any g acc rest v _ _ T _ (HR.out.below (nwA hbC _)) (by simp) hl).mono ?_; rintro e wA ⟨rfl, ⟨vA, hA⟩, hbA⟩))
    have d1 : wA.cell? ⟨g, 1, none⟩ = some (.string rest) := by rw [Lib.cell_of_heap hA.blk]; rfl
    have f1 : wA.frozen? ⟨g, 1, none⟩ = false := Lib.frozen_of_heap hA.blk 1
    have HA : Hid (RdIs wA g (acc ++ [T]) rest vA) := hA
    have HB : Hid (Below g w' wA) := ((nwA hbC _).mono (Nat.le_of_lt hgl)).trans hbA
    clear hA hbA hbC c1
    go_wp2_with fail
    go_ret
    exact ⟨rfl, ⟨_, by rw [HX0.out, HY0.out]; exact HA.out.put _⟩, HB.out.setCell (p := ⟨g, 1, none⟩) (Nat.le_refl _) _⟩
  · have h1 : (n : Int) ≤ (T.size : Int) := by omega
    rw [HC1.out] at HN
    go_wp2_with (go_at_call 127; rw [HC1.out]; refine (check_any _ _).mono ?_; rintro e w' ⟨rfl, rfl⟩; rw [HN.out, errI_t])
    have hx : X.size ≤ 4000 := by rw [← HC1.out]; simp; omega
    go_region_held3 (fun _ => True) (trivial) (first
      | (go_at_call 129; rw [HC1.out]; refine (clone_any _ _ hx).mono ?_; rintro e wC ⟨rfl, hbC0⟩; have hbC : Below w'.heap.size w' wC := (Below.drew (nwR w')).trans hbC0; clear hbC0)
      | (go_at_call 128; refine (add_any g acc rest v _ _ X _ (HR.out.below (nwA hbC _)) (by simp) hl).mono ?_; rintro e wA ⟨rfl, ⟨vA, hA⟩, hbA⟩))
    have d1 : wA.cell? ⟨g, 1, none⟩ = some (.string rest) := by rw [Lib.cell_of_heap hA.blk]; rfl
    have f1 : wA.frozen? ⟨g, 1, none⟩ = false := Lib.frozen_of_heap hA.blk 1
    have HA : Hid (RdIs wA g (acc ++ [X]) rest vA) := hA
    have HB : Hid (Below g w' wA) := ((nwA hbC _).mono (Nat.le_of_lt hgl)).trans hbA
    clear hA hbA hbC c1
    go_wp2_with fail
    go_ret
    exact ⟨rfl, ⟨_, by rw [HX0.out, HY0.out, HC2.out]; exact HA.out.put _⟩, HB.out.setCell (p := ⟨g, 1, none⟩) (Nat.le_refl _) _⟩

end Go.Proofs.YtdpighcaieajjabGreat

/- A path read: its names, or none. -/
namespace Go.Proofs.YtdpighcaieajjabGreat
open Go.RowKit

def ReadIs (s : ByteArray) (w : World) (e : Ending) (w' : World) : Prop :=
  (∃ xs v, pathN s = some xs ∧ e = .returned (.tuple #[.agg #[v], .int .i64 0]) ∧ OwnStrs w' w.heap.size v xs) ∨
  (pathN s = none ∧ e = .returned (.tuple #[.agg #[.slice none 0 0], .int .i64 1]))

def restLen (g : Nat) (w : World) : Nat := match w.cell? ⟨g, 1, none⟩ with
  | some (.string r) => r.size
  | _ => 0
theorem restLen_is {w : World} {g : Nat} {acc : List ByteArray} {rest : ByteArray} {v : Value} (h : RdIs w g acc rest v) : restLen g w = rest.size := by
  have : w.cell? ⟨g, 1, none⟩ = some (.string rest) := by rw [Lib.cell_of_heap h.blk]; rfl
  simp [restLen, this]

/-- what holds while it reads -/
structure Going (s : ByteArray) (W0 : World) (g : Nat) (wr : World) (acc : List ByteArray) (rest : ByteArray) (v : Value) : Prop where
  rd : RdIs wr g acc rest v
  sp : spR [] (ls s) = spR (acc.map ls) (ls rest)
  tx : flN acc ++ ls rest = ls s
  nm : ∀ x ∈ acc, nm x = true
  be : Below g W0 wr

theorem pathN_root {s : ByteArray} (h : s.toList = [47]) : pathN s = some [] := by
  unfold pathN pathL
  rw [show ls s = [47] from by rw [ls, ← Lib.toList_data]; exact h]; simp
theorem pathN_bad {s : ByteArray} (h : ¬ s.toList = [47]) (h2 : s.size = 0 ∨ 45 < s.size) : pathN s = none := by
  unfold pathN pathL
  have h' : ¬ ls s = [47] := by rw [ls, ← Lib.toList_data]; exact h
  rw [if_neg h', if_pos]
  · rfl
  · rw [ls_size]
    rcases h2 with h2 | h2
    · exact .inl (List.length_eq_zero_iff.1 (by rw [ls_size]; exact h2))
    · exact .inr h2
theorem pathN_go {s : ByteArray} (h : ¬ s.toList = [47]) (h1 : ¬ s.size = 0) (h2 : ¬ 45 < s.size) : pathN s = (few (spR [] (ls s))).map (·.map bs) := by
  unfold pathN pathL
  have h' : ¬ ls s = [47] := by rw [ls, ← Lib.toList_data]; exact h
  rw [if_neg h', if_neg]
  rw [ls_size]
  intro h3
  rcases h3 with h3 | h3
  · exact h1 (by rw [← ls_size, h3]; rfl)
  · exact h2 h3

theorem nil_yes {s : ByteArray} (h : s.size = 0) : (s.toList == []) = true := by
  rw [Lib.toList_data, beq_iff_eq]
  exact List.length_eq_zero_iff.1 (by rw [← h, ← ls_size]; rfl)
theorem nil_no {s : ByteArray} (h : ¬ s.size = 0) : (s.toList == []) = false := by
  rw [Lib.toList_data, beq_eq_false_iff_ne]
  intro e
  exact h (by rw [← ls_size, ls, e]; rfl)
theorem ls_nil {s : ByteArray} (h : s.size = 0) : ls s = [] := List.length_eq_zero_iff.1 (by rw [ls_size]; exact h)

theorem cells_of {w : World} {g : Nat} {acc : List ByteArray} {rest : ByteArray} {v : Value} (h : RdIs w g acc rest v) : w.cell? ⟨g, 0, none⟩ = some v ∧ w.cell? ⟨g, 1, none⟩ = some (.string rest) :=
  ⟨by rw [Lib.cell_of_heap h.blk]; rfl, by rw [Lib.cell_of_heap h.blk]; rfl⟩

theorem flN_len2 {acc : List ByteArray} (h : ∀ x ∈ acc, nm x = true) : 2 * acc.length ≤ (flN acc).length ∧ (flN acc).length ≤ 9 * acc.length := by
  have := fl_len_le (acc.map ls) (fun x hx => by obtain ⟨y, hy, rfl⟩ := List.mem_map.1 hx; exact h y hy)
  rw [List.length_map] at this; exact this

/-- one name more -/
theorem Going.step {s : ByteArray} {W0 : World} {g : Nat} {wr w2 : World} {acc : List ByteArray} {rest : ByteArray} {v v' : Value} {r : List UInt8} (h : Going s W0 g wr acc rest v) (hr : ls rest = 47 :: r) (hn : nmL (twL r) = true)
    (h2 : RdIs w2 g (acc ++ [bs (twL r)]) (bs (dwL r)) v') (hb : Below g wr w2) : Going s W0 g w2 (acc ++ [bs (twL r)]) (bs (dwL r)) v' := by
  refine ⟨h2, ?_, ?_, ?_, h.be.trans hb⟩
  · rw [h.sp, hr, spR_take, ls_bs, List.map_append, List.map_singleton, ls_bs]
    exact if_pos hn
  · rw [flN_snoc, ls_bs, ls_bs, ← h.tx, hr, List.append_assoc, List.cons_append, tw_dw]
  · intro x hx
    rcases List.mem_append.1 hx with hx | hx
    · exact h.nm x hx
    · simp at hx; subst hx; unfold YtdpighcaieajjabGreat.nm; rw [ls_bs]; exact hn

theorem few_no : few none = none := rfl
theorem Going.none1 {s : ByteArray} {W0 : World} {g : Nat} {wr : World} {acc : List ByteArray} {rest : ByteArray} {v : Value} (h : Going s W0 g wr acc rest v) (hr : ¬ rest.size = 0) (hp : Lib.hasPrefix (ls rest) [47] = false) : spR [] (ls s) = none := by
  rw [h.sp]
  cases hl : ls rest with
  | nil => exact absurd (by rw [← ls_size, hl]; rfl) hr
  | cons c r =>
    rw [hl] at hp
    simp only [spR]
    rw [if_neg]
    intro e; subst e; simp [Lib.hasPrefix] at hp
theorem Going.none2 {s : ByteArray} {W0 : World} {g : Nat} {wr : World} {acc : List ByteArray} {rest : ByteArray} {v : Value} {r : List UInt8} (h : Going s W0 g wr acc rest v) (hr : ls rest = 47 :: r) (hn : nmL (twL r) = false) : spR [] (ls s) = none := by
  rw [h.sp, hr, spR_take, if_neg]
  rw [show List.takeWhile (fun x => decide (x ≠ 47)) r = twL r from rfl, hn]; simp
theorem prefix_yes {rest : ByteArray} (hp : Lib.hasPrefix (ls rest) [47] = true) : ∃ r, ls rest = 47 :: r := by
  cases hl : ls rest with
  | nil => rw [hl] at hp; simp [Lib.hasPrefix] at hp
  | cons c r =>
    rw [hl] at hp
    simp [Lib.hasPrefix] at hp
    exact ⟨r, by rw [hp]⟩
/-- at the end -/
theorem Going.done {s : ByteArray} {W0 : World} {g : Nat} {wr : World} {acc : List ByteArray} {rest : ByteArray} {v : Value} (h : Going s W0 g wr acc rest v) (hs : ¬ s.size = 0) (h45 : ¬ 45 < s.size) (hr : rest.size = 0)
    (HP : pathN s = (few (spR [] (ls s))).map (·.map bs)) : pathN s = (if fitB acc = true then some acc else none) := by
  have h1 := h.sp
  have h2 := h.tx
  rw [ls_nil hr] at h1 h2
  rw [List.append_nil] at h2
  have hne : acc ≠ [] := by
    intro e; subst e
    exact hs (by rw [← ls_size, ← h2]; rfl)
  have htx : YtdpighcaieajjabGreat.tx acc = s := by rw [tx_cons hne, h2, bs_ls]
  have hf : fitB acc = decide (acc.length ≤ 5) := by
    unfold fitB; rw [htx, decide_eq_true (by omega : s.size ≤ 45), Bool.and_true]
  rw [HP, h1, hf]
  simp only [spR, few, Option.filter]
  by_cases h5 : acc.length ≤ 5
  · simp [h5, List.map_map]
    exact (List.map_congr_left fun x _ => bs_ls x).trans (List.map_id acc)
  · simp [h5]

theorem cell_set {w : World} {g : Nat} {x : Value} (h : w.cell? ⟨g, 0, none⟩ = some x) (y : Value) : (w.setCell ⟨g, 0, none⟩ y).cell? ⟨g, 0, none⟩ = some y := World.cell?_setCell_same' _ _ _ (by rw [h]; rfl)

set_option maxRecDepth 100000 in
set_option maxHeartbeats 2000000 in
theorem read_any (s : ByteArray) (w : World) :
    Calls Tryz.prog 95 #[.string s] w fun e w' => ReadIs s w e w' ∧ Below w.heap.size w w' := by
  by_cases hA : s.toList = [47]
  · have HP : Hid (pathN s = some []) := pathN_root hA
    have hA' : (s.toList == [47]) = true := by simpa using hA
    go_enter Tryz.func95, Tryz.ntmps95
    go_wp2_with fail
    exact bodyPost_ret (v := .tuple #[.agg #[.slice none 0 0], .int .i64 0]) (by simp [results, Tryz.results95, go_sem]) rfl ⟨.inl ⟨[], _, HP.out, rfl, World.ownsRow_nil _ _ _ _⟩, nwA (nwR w) _⟩
  · have hA' : (s.toList == [47]) = false := by simpa using hA
    by_cases hB : s.size = 0 ∨ 45 < s.size
    · have HP : Hid (pathN s = none) := pathN_bad hA hB
      rcases hB with hB | hB
      · have b1 := nil_yes hB
        go_enter Tryz.func95, Tryz.ntmps95
        go_wp2_with fail
        exact bodyPost_ret (v := .tuple #[.agg #[.slice none 0 0], .int .i64 1]) (by simp [results, Tryz.results95, go_sem]) rfl ⟨.inr ⟨HP.out, rfl⟩, nwA (nwR w) _⟩
      · have b1 := nil_no (s := s) (by omega)
        have b2 : (45 : Int) < s.size := by omega
        go_enter Tryz.func95, Tryz.ntmps95
        go_wp2_with fail
        exact bodyPost_ret (v := .tuple #[.agg #[.slice none 0 0], .int .i64 1]) (by simp [results, Tryz.results95, go_sem]) rfl ⟨.inr ⟨HP.out, rfl⟩, nwA (nwR w) _⟩
    · have h1 : ¬ s.size = 0 := fun h => hB (.inl h)
      have h2 : ¬ 45 < s.size := fun h => hB (.inr h)
      have HP : Hid (pathN s = (few (spR [] (ls s))).map (·.map bs)) := pathN_go hA h1 h2
      have b1 : (s.toList == []) = false := nil_no h1
      have b2 : ¬ (45 : Int) < s.size := by omega
      clear hA hB
      go_enter Tryz.func95, Tryz.ntmps95
      go_wp2_with fail
      obtain ⟨W0, hW0⟩ : ∃ W0, W0 = (w.alloc (.cells #[.slice none 0 0] 120)).alloc (.cells #[.slice none 0 0, .string s] 136) := ⟨_, rfl⟩
      have HB0 : Hid (Below w.heap.size w W0) := by rw [hW0]; exact nwA (nwA (nwR w) _) _
      have HZ0 : Hid (W0.cell? ⟨w.heap.size, 0, none⟩ = some (.slice none 0 0) ∧ W0.frozen? ⟨w.heap.size, 0, none⟩ = false) := by rw [hW0]; show _ ∧ _; simp
      have HG0 : Hid (Going s W0 (w.heap.size + 1) W0 [] s (.slice none 0 0)) := by
        rw [hW0]
        refine ⟨⟨?_, World.ownsRow_nil _ _ _ _⟩, rfl, rfl, by simp, Below.refl _ _⟩
        have := heap_alloc_new (w.alloc (.cells #[.slice none 0 0] 120)) (.cells #[.slice none 0 0, .string s] 136)
        simpa using this
      rw [← hW0]
      clear hW0
      go_loopw [3] (fun e wr => e = .int .i64 0 ∧ ∃ acc rest v, Going s W0 (w.heap.size + 1) wr acc rest v) (fun _ wr => restLen (w.heap.size + 1) wr)
      case atStart => exact ⟨rfl, _, _, _, HG0.out⟩
      case round =>
        obtain ⟨rfl, acc, rest, v, hG⟩ := hrel
        have HG : Hid (Going s W0 (w.heap.size + 1) wr acc rest v) := hG
        obtain ⟨c0, c1⟩ := cells_of hG.rd
        have HZ : Hid (wr.cell? ⟨w.heap.size, 0, none⟩ = some (.slice none 0 0) ∧ wr.frozen? ⟨w.heap.size, 0, none⟩ = false) := ⟨(hG.be.cell (p := ⟨w.heap.size, 0, none⟩) (Nat.lt_succ_self _)).trans HZ0.out.1, (hG.be.frozen (p := ⟨w.heap.size, 0, none⟩) (Nat.lt_succ_self _)).trans HZ0.out.2⟩
        have HBW : Hid (Below w.heap.size w wr) := HB0.out.trans (hG.be.mono (Nat.le_succ _))
        have HL : Hid (acc.length ≤ 45 ∧ rest.size ≤ 45 ∧ (flN acc).length ≤ 45) := by
          have q1 := flN_len2 hG.nm
          have q2 := congrArg List.length hG.tx
          rw [List.length_append, ls_size, ls_size] at q2
          exact ⟨by omega, by omega, by omega⟩
        clear hG
        by_cases hr0 : rest.size = 0
        · have b3 := nil_yes hr0
          have HD : Hid (pathN s = (if fitB acc = true then some acc else none)) := HG.out.done h1 h2 hr0 HP.out
          have HO : Hid (OwnStrs wr (w.heap.size + 1) v acc) := HG.out.rd.own.le (by omega)
          obtain ⟨a, cap, rfl, hst⟩ := HG.out.rd.own.at
          have HST : Hid (StrsAt wr a acc) := hst
          have HC0 : Hid (wr.cell? ⟨w.heap.size + 1, 0, none⟩ = some (.slice a acc.length cap)) := c0
          clear hst HG
          go_wp2_with fail
          refine (fits_any (w.heap.size + 1) a acc cap _ HC0.out HST.out (by have := HL.out.1; omega) (by have := HL.out.2.2; omega)).mono ?_
          rintro e w1 ⟨rfl, hb1⟩
          have hlt : w.heap.size + 1 < wr.heap.size := block_lt_of_cell c0
          have HZ1 : Hid (w1.cell? ⟨w.heap.size, 0, none⟩ = some (.slice none 0 0) ∧ w1.frozen? ⟨w.heap.size, 0, none⟩ = false) := ⟨(hb1.cell (p := ⟨w.heap.size, 0, none⟩) (by show w.heap.size < _; omega)).trans HZ.out.1, (hb1.frozen (p := ⟨w.heap.size, 0, none⟩) (by show w.heap.size < _; omega)).trans HZ.out.2⟩
          have HC1 : Hid (w1.cell? ⟨w.heap.size + 1, 0, none⟩ = some (.slice a acc.length cap)) := (hb1.cell (p := ⟨w.heap.size + 1, 0, none⟩) hlt).trans HC0.out
          have HO1 : Hid (OwnStrs w1 (w.heap.size + 1) (.slice a acc.length cap) acc) := HO.out.below hb1
          have HBW1 : Hid (Below w.heap.size w w1) := HBW.out.trans (hb1.mono (by omega))
          clear hb1 HZ HC0 HO HBW HST c0 c1
          obtain ⟨z0, z1⟩ := HZ1.out
          have z3 := HC1.out
          cases hf : fitB acc
          · have HN : Hid (pathN s = none) := by show _ = _; rw [HD.out, hf]; rfl
            go_wp2_with fail
            have z2 := cell_set z0 (.slice none 0 0)
            exact bodyPost_ret (v := .tuple #[.agg #[.slice none 0 0], .int .i64 1]) (by simp [results, Tryz.results95, go_sem, z2]) rfl ⟨.inr ⟨HN.out, rfl⟩, HBW1.out.setCell (p := ⟨w.heap.size, 0, none⟩) (Nat.le_refl _) _⟩
          · have HY : Hid (pathN s = some acc) := by show _ = _; rw [HD.out, hf]; rfl
            go_wp2_with fail
            have z2 := cell_set z0 (.slice a acc.length cap)
            exact bodyPost_ret (v := .tuple #[.agg #[.slice a acc.length cap], .int .i64 0]) (by simp [results, Tryz.results95, go_sem, z2]) rfl ⟨.inl ⟨acc, _, HY.out, rfl, (own_set HO1.out 0 (Nat.lt_succ_self _) _).le (Nat.le_succ _)⟩, HBW1.out.setCell (p := ⟨w.heap.size, 0, none⟩) (Nat.le_refl _) _⟩
        · have b3 := nil_no hr0
          cases hp : Lib.hasPrefix (ls rest) [47]
          · have HN : Hid (pathN s = none) := by show _ = _; rw [HP.out, HG.out.none1 hr0 hp]; rfl
            go_wp2_with fail
            refine (next_no1 _ acc rest v _ HG.out.rd hp).mono ?_
            rintro e w' ⟨rfl, rfl⟩
            obtain ⟨z0, z1⟩ := HZ.out
            go_wp2_with fail
            have z2 := cell_set z0 (.slice none 0 0)
            exact bodyPost_ret (v := .tuple #[.agg #[.slice none 0 0], .int .i64 1]) (by simp [results, Tryz.results95, go_sem, z2]) rfl ⟨.inr ⟨HN.out, rfl⟩, HBW.out.setCell (p := ⟨w.heap.size, 0, none⟩) (Nat.le_refl _) _⟩
          · obtain ⟨r, hr⟩ := prefix_yes hp
            cases hn : nmL (twL r)
            · have HN : Hid (pathN s = none) := by show _ = _; rw [HP.out, HG.out.none2 hr hn]; rfl
              have HR : Hid (ls rest = 47 :: r) := hr
              have hrl : r.length ≤ 4000 := by have := congrArg List.length hr; rw [ls_size, List.length_cons] at this; have := HL.out.2.1; omega
              clear hr hp
              go_wp2_with fail
              refine (next_no2 _ acc rest v r _ HG.out.rd HR.out hrl hn).mono ?_
              rintro e w' ⟨rfl, rfl⟩
              obtain ⟨z0, z1⟩ := HZ.out
              go_wp2_with fail
              have z2 := cell_set z0 (.slice none 0 0)
              exact bodyPost_ret (v := .tuple #[.agg #[.slice none 0 0], .int .i64 1]) (by simp [results, Tryz.results95, go_sem, z2]) rfl ⟨.inr ⟨HN.out, rfl⟩, HBW.out.setCell (p := ⟨w.heap.size, 0, none⟩) (Nat.le_refl _) _⟩
            · have HR : Hid (ls rest = 47 :: r) := hr
              have hrl : r.length ≤ 4000 := by have := congrArg List.length hr; rw [ls_size, List.length_cons] at this; have := HL.out.2.1; omega
              have HD : Hid ((bs (dwL r)).size < rest.size) := by
                show _ < _
                have q := congrArg List.length (tw_dw r)
                rw [List.length_append] at q
                rw [bs_size, ← ls_size rest, hr, List.length_cons]; omega
              clear hr hp
              go_wp2_with fail
              refine (next_yes _ acc rest v r _ HG.out.rd HR.out hrl (by have := HL.out.1; omega) hn).mono ?_
              rintro e w2 ⟨rfl, ⟨v2, hv2⟩, hb2⟩
              have HG2 : Hid (Going s W0 (w.heap.size + 1) w2 (acc ++ [bs (twL r)]) (bs (dwL r)) v2) := HG.out.step HR.out hn hv2 hb2
              clear hv2 hb2
              go_wp2_with fail
              go_roundw
              case rel => exact ⟨rfl, _, _, _, HG2.out⟩
              case measure =>
                rw [restLen_is HG2.out.rd, restLen_is HG.out.rd]; exact HD.out

end Go.Proofs.YtdpighcaieajjabGreat

/- Under: a path held against another one, by the program. -/
namespace Go.Proofs.YtdpighcaieajjabGreat
open Go.RowKit

theorem equal_any (a b : Option Addr) (xs ys : List ByteArray) (ca cb : Nat) (w : World) (hx : StrsAt w a xs) (hy : StrsAt w b ys) (hl : xs.length ≤ maxLen) (hl2 : ys.length ≤ maxLen) :
    Calls Tryz.prog 115 #[.slice a xs.length ca, .slice b ys.length cb] w fun e w' => e = .returned (.bool (decide (xs = ys))) ∧ ∃ q, w' = w.drewN q := by
  unfold maxLen at hl hl2
  by_cases hlen : xs.length = ys.length
  · rcases hx with rfl | ⟨b1, o1, rfl, hc1⟩
    · have hy0 : ys = [] := List.length_eq_zero_iff.1 hlen.symm
      subst hy0
      refine (Tryz.slices_Equal_string_empty a b ca 0 cb w (by omega)).mono ?_
      rintro e w' ⟨rfl, rfl⟩
      exact ⟨by simp, 0, rfl⟩
    · rcases hy with rfl | ⟨b2, o2, rfl, hc2⟩
      · have hx0 : xs = [] := List.length_eq_zero_iff.1 hlen
        subst hx0
        refine (Tryz.slices_Equal_string_empty _ b ca 0 cb w (by omega)).mono ?_
        rintro e w' ⟨rfl, rfl⟩
        exact ⟨by simp, 0, rfl⟩
      · refine (Tryz.slices_Equal_string b1 o1 xs.length ca b2 o2 ys.length cb xs ys w (Nat.le_refl _) (Nat.le_refl _) (by omega) (by omega) hc1 hc2).mono ?_
        rintro e w' ⟨rfl, hq⟩
        exact ⟨by rw [List.take_length, List.take_length], hq⟩
  · refine (Tryz.slices_Equal_string_lens a b xs.length ca ys.length cb w hlen).mono ?_
    rintro e w' ⟨rfl, rfl⟩
    exact ⟨by rw [decide_eq_false (fun e => hlen (by rw [e]))], 0, rfl⟩

theorem below_drewN {a : Nat} {w w' : World} (h : Below a w w') (q : Nat) : Below a w (w'.drewN q) := ⟨h.os, h.tape, h.output, h.size, h.block⟩
theorem OwnStrs.cap {w : World} {base : Nat} {v : Value} {xs : List ByteArray} (h : OwnStrs w base v xs) : ∃ a cap, v = .slice a xs.length cap ∧ StrsAt w a xs ∧ xs.length ≤ cap := by
  have hh := h
  rcases h.2 with ⟨hv, hn⟩ | ⟨g, cap, cur, hv, hb, hg, hnc, _⟩
  · exact ⟨none, 0, by rw [hv, hn], .inl (List.length_eq_zero_iff.1 hn), by omega⟩
  · obtain ⟨a, cap', e, hs⟩ := hh.at
    rw [hv] at e
    injection e with e1 e2 e3
    subst e1; subst e3
    exact ⟨_, _, hv, hs, hnc⟩

set_option maxRecDepth 100000 in
set_option maxHeartbeats 1000000 in
theorem begins_any (g : Nat) (a b : Option Addr) (xs ys : List ByteArray) (ca cb : Nat) (w : World) (hg : w.cell? ⟨g, 0, none⟩ = some (.slice a ys.length ca)) (hy : StrsAt w a ys) (hx : StrsAt w b xs) (hl : xs.length ≤ 4000) (hca : ys.length ≤ ca) :
    Calls Tryz.prog 96 #[.pointer (some ⟨g, 0, none⟩), .slice b xs.length cb] w fun e w' => e = .returned (.bool (un xs ys)) ∧ ∃ q, w' = w.drewN q := by
  have HX : Hid (StrsAt w b xs) := hx
  have HY : Hid (StrsAt w a ys) := hy
  clear hx hy
  by_cases hlen : xs.length ≤ ys.length
  · have h1 : (xs.length : Int) ≤ (ys.length : Int) := by omega
    have h2 : (xs.length : Int) ≤ (ca : Int) := by omega
    have HT : Hid (StrsAt w a (ys.take xs.length)) := HY.out.take _
    have HL : Hid ((ys.take xs.length).length = xs.length) := by show _ = _; rw [List.length_take]; omega
    go_enter Tryz.func96, Tryz.ntmps96
    go_wp2_with fail
    have hq := equal_any a b (ys.take xs.length) xs ca cb w HT.out HX.out (by rw [HL.out]; unfold maxLen; omega) (by unfold maxLen; omega)
    rw [HL.out] at hq
    refine hq.mono ?_
    rintro e w1 ⟨rfl, q, rfl⟩
    have HU : Hid (un xs ys = decide (ys.take xs.length = xs)) := rfl
    generalize decide (ys.take xs.length = xs) = t at HU
    clear hq
    go_wp2_with fail
    go_ret
    exact ⟨by rw [HU.out]; rfl, q, rfl⟩
  · have h1 : ¬ (xs.length : Int) ≤ (ys.length : Int) := by omega
    have HF : Hid (un xs ys = false) := un_no_len (by omega)
    go_enter Tryz.func96, Tryz.ntmps96
    go_wp2_with fail
    go_ret
    exact ⟨by rw [HF.out]; rfl, 0, rfl⟩

/-- whether one path is under another: told, or refused -/
def underO (a b : ByteArray) : Option Bool := match pathN a, pathN b with
  | some xs, some ys => some (un xs ys)
  | _, _ => none
def underV (o : Option Bool) : Value := match o with
  | some t => .tuple #[.bool t, .int .i64 0]
  | none => .tuple #[.bool false, .int .i64 1]

set_option maxRecDepth 100000 in
set_option maxHeartbeats 1000000 in
theorem under_any (a b : ByteArray) (w : World) :
    Calls Tryz.prog 76 #[.string a, .string b] w fun e w' => e = .returned (underV (underO a b)) ∧ Below w.heap.size w w' := by
  go_enter Tryz.func76, Tryz.ntmps76
  go_wp2_with fail
  refine (read_any a _).mono ?_
  rintro e w1 ⟨hR, hb1⟩
  have HB1 : Hid (Below w.heap.size w w1) := hb1
  rcases hR with ⟨xs, v, hp, rfl, ho⟩ | ⟨hp, rfl⟩
  · have hx5 := (pathN_some hp).2.2
    have HP : Hid (pathN a = some xs) := hp
    obtain ⟨aa, ca, rfl, hsa, _⟩ := ho.cap
    have HX : Hid (StrsAt w1 aa xs) := hsa
    clear hp ho hsa hb1
    go_wp2_with fail
    obtain ⟨W1, hW1⟩ : ∃ W1, W1 = w1.alloc (.cells #[.slice aa xs.length ca] 120) := ⟨_, rfl⟩
    have HX1 : Hid (StrsAt W1 aa xs) := by rw [hW1]; exact HX.out.below (nwA (nwR _) _)
    have HC1 : Hid (W1.cell? ⟨w1.heap.size, 0, none⟩ = some (.slice aa xs.length ca)) := by rw [hW1]; show _ = _; simp
    have HBW : Hid (Below w.heap.size w W1) := by rw [hW1]; exact nwA HB1.out _
    rw [← hW1]
    clear hW1 HX HB1
    refine (read_any b _).mono ?_
    rintro e w2 ⟨hR, hb2⟩
    have HBW2 : Hid (Below w.heap.size w w2) := nwT HBW.out hb2
    rcases hR with ⟨ys, v, hq, rfl, ho⟩ | ⟨hq, rfl⟩
    · have HU : Hid (underO a b = some (un xs ys)) := by show _ = _; unfold underO; rw [HP.out, hq]
      obtain ⟨ab, cb, rfl, hsb, hcb⟩ := ho.cap
      have HY : Hid (StrsAt w2 ab ys) := hsb
      have HX2 : Hid (StrsAt w2 aa xs) := HX1.out.below hb2
      have c1 : w2.cell? ⟨w1.heap.size, 0, none⟩ = some (.slice aa xs.length ca) := (hb2.cell (p := ⟨w1.heap.size, 0, none⟩) (block_lt_of_cell HC1.out)).trans HC1.out
      have l1 : w1.heap.size < w2.heap.size := block_lt_of_cell c1
      clear hq ho hsb hb2 HX1 HC1 HBW
      go_wp2_with fail
      refine (begins_any _ ab aa xs ys cb ca _ (by simp) (HY.out.below (nwA (nwR _) _)) (HX2.out.below (nwA (nwR _) _)) (by omega) hcb).mono ?_
      rintro e w3 ⟨rfl, q, rfl⟩
      generalize un xs ys = t at HU
      go_wp2_with fail
      go_ret2
      exact ⟨by rw [HU.out]; rfl, below_drewN (nwA HBW2.out _) _⟩
    · have HU : Hid (underO a b = none) := by show _ = _; unfold underO; rw [HP.out, hq]
      clear hq hb2
      go_wp2_with fail
      go_ret2
      exact ⟨by rw [HU.out]; rfl, nwA HBW2.out _⟩
  · have HU : Hid (underO a b = none) := by show _ = _; unfold underO; rw [hp]
    clear hp hb1
    go_wp2_with fail
    go_ret2
    exact ⟨by rw [HU.out]; rfl, nwA HB1.out _⟩

end Go.Proofs.YtdpighcaieajjabGreat

/- The face of package name, by its contracts: Split, Path. -/
namespace Go.Proofs.YtdpighcaieajjabGreat
open Go.RowKit

def SplitIs (s : ByteArray) (w : World) (e : Ending) (w' : World) : Prop :=
  (∃ xs v, pathN s = some xs ∧ e = .returned (.tuple #[v, .int .i64 0]) ∧ OwnStrs w' w.heap.size v xs) ∨
  (pathN s = none ∧ e = .returned (.tuple #[.slice none 0 0, .int .i64 1]))

set_option maxRecDepth 100000 in
set_option maxHeartbeats 1000000 in
theorem split_any (s : ByteArray) (w : World) :
    Calls Tryz.prog 87 #[.string s] w fun e w' => SplitIs s w e w' ∧ Below w.heap.size w w' := by
  go_enter Tryz.func87, Tryz.ntmps87
  go_wp2_with fail
  refine (read_any s _).mono ?_
  rintro e w1 ⟨hR, hb⟩
  have HB : Hid (Below w.heap.size w w1) := hb
  rcases hR with ⟨xs, v, hp, rfl, ho⟩ | ⟨hp, rfl⟩
  · have HP : Hid (pathN s = some xs) := hp
    have HO : Hid (OwnStrs w1 w.heap.size v xs) := ho
    obtain ⟨a, cap, rfl, _⟩ := ho.at
    clear hp ho hb
    go_wp2_with fail
    go_ret2
    exact ⟨.inl ⟨xs, _, HP.out, rfl, HO.out.below (nwA (nwR _) _)⟩, nwA HB.out _⟩
  · have HP : Hid (pathN s = none) := hp
    clear hp hb
    go_wp2_with fail
    go_ret2
    exact ⟨.inr ⟨HP.out, rfl⟩, nwA HB.out _⟩

set_option maxRecDepth 100000 in
set_option maxHeartbeats 1000000 in
theorem path_any (s : ByteArray) (w : World) :
    Calls Tryz.prog 85 #[.string s] w fun e w' => e = .returned (.int .i64 (errI (pathN s).isSome)) ∧ Below w.heap.size w w' := by
  go_enter Tryz.func85, Tryz.ntmps85
  go_wp2_with fail
  refine (read_any s _).mono ?_
  rintro e w1 ⟨hR, hb⟩
  have HB : Hid (Below w.heap.size w w1) := hb
  rcases hR with ⟨xs, v, hp, rfl, ho⟩ | ⟨hp, rfl⟩
  · have HP : Hid (pathN s = some xs) := hp
    obtain ⟨a, cap, rfl, _⟩ := ho.at
    clear hp ho hb
    go_wp2_with fail
    go_ret
    exact ⟨ret_int (by rw [HP.out]; rfl), nwA HB.out _⟩
  · have HP : Hid (pathN s = none) := hp
    clear hp hb
    go_wp2_with fail
    go_ret
    exact ⟨ret_int (by rw [HP.out]; rfl), nwA HB.out _⟩

end Go.Proofs.YtdpighcaieajjabGreat

/- What a name is, by the page. -/
namespace Go.Proofs.YtdpighcaieajjabGreat
open Go.RowKit

theorem byI_yes {n : Int} (h : (97 ≤ n ∧ n ≤ 122) ∨ (48 ≤ n ∧ n ≤ 57) ∨ n = 46 ∨ n = 95 ∨ n = 45) : byI n = true := by
  simp only [byI, Bool.or_eq_true, Bool.and_eq_true, decide_eq_true_eq]; omega
theorem byI_no {n : Int} (h : ¬ ((97 ≤ n ∧ n ≤ 122) ∨ (48 ≤ n ∧ n ≤ 57) ∨ n = 46 ∨ n = 95 ∨ n = 45)) : byI n = false := by
  cases e : byI n
  · rfl
  · simp only [byI, Bool.or_eq_true, Bool.and_eq_true, decide_eq_true_eq] at e; omega

set_option maxRecDepth 100000 in
set_option maxHeartbeats 1000000 in
theorem name_any (s : ByteArray) (w : World) :
    Calls Tryz.prog 35 #[.string s] w fun e w' => e = .returned (.bool (nm s)) ∧ w' = w := by
  by_cases hh : s.size < 1 ∨ 8 < s.size ∨ s.toList = [46] ∨ s.toList = [46, 46]
  · have HN : Hid (nm s = false) := nm_no hh
    rcases hh with h | h | h | h
    · have h1 : s.size = 0 := by omega
      go_enter Tryz.func35, Tryz.ntmps35
      go_wp2_with fail
      go_ret
      exact ⟨ret_bool (by rw [HN.out]), rfl⟩
    · have h1 : (8 : Int) < s.size := by omega
      have h2 : ¬ s.size = 0 := by omega
      go_enter Tryz.func35, Tryz.ntmps35
      go_wp2_with fail
      go_ret
      exact ⟨ret_bool (by rw [HN.out]), rfl⟩
    · have h1 : s.size = 1 := by rw [← ls_size, ls, ← Lib.toList_data, h]; rfl
      have h2 : (s.size : Int) = 1 := by omega
      go_enter Tryz.func35, Tryz.ntmps35
      go_wp2_with fail
      all_goals go_ret
      all_goals exact ⟨ret_bool (by rw [HN.out]), rfl⟩
    · have h1 : s.size = 2 := by rw [← ls_size, ls, ← Lib.toList_data, h]; rfl
      have h2 : (s.size : Int) = 2 := by omega
      have h3 : ¬ s.toList = [46] := by rw [h]; decide
      go_enter Tryz.func35, Tryz.ntmps35
      go_wp2_with fail
      all_goals go_ret
      all_goals exact ⟨ret_bool (by rw [HN.out]), rfl⟩
  · have h1 : ¬ s.size < 1 := fun h => hh (.inl h)
    have h2 : ¬ 8 < s.size := fun h => hh (.inr (.inl h))
    have h3 : ¬ s.toList = [46] := fun h => hh (.inr (.inr (.inl h)))
    have h4 : ¬ s.toList = [46, 46] := fun h => hh (.inr (.inr (.inr h)))
    have HN : Hid (nm s = okTo s s.size) := nm_yes h1 h2 h3 h4
    have g1 : ¬ s.size = 0 := by omega
    have g2 : ¬ (8 : Int) < s.size := by omega
    have g3 : (s.toList == [46]) = false := by simpa using h3
    have g4 : (s.toList == [46, 46]) = false := by simpa using h4
    clear hh h3 h4
    go_enter Tryz.func35, Tryz.ntmps35
    go_wp2_with fail
    go_loop [3] (fun i => ∃ k : Nat, k ≤ s.size ∧ i = .int .i64 k ∧ okTo s k = true) (fun i => s.size - (intOf i).toNat)
    case atStart => exact ⟨0, Nat.zero_le _, rfl, by simp [okTo]⟩
    case round =>
      obtain ⟨k, hk, rfl, hok⟩ := hrel
      have HO : Hid (okTo s k = true) := hok
      clear hok
      by_cases hlt : k < s.size
      · have HS : Hid (okTo s (k + 1) = (okTo s k && byI s[k].toNat)) := okTo_succ s k hlt
        have HY : Hid (byI s[k].toNat = true → okTo s (k + 1) = true) := fun hb => by rw [HS.out, HO.out, hb]; rfl
        have HX : Hid (byI s[k].toNat = false → nm s = false) := fun hb => by rw [HN.out, okTo_le s (k := k + 1) hlt (by rw [HS.out, hb]; simp)]
        by_cases a1 : 97 ≤ (s[k].toNat : Int)
        · by_cases a2 : (s[k].toNat : Int) ≤ 122
          · go_wp2_with fail
            go_round
            case rel => exact ⟨k + 1, hlt, by go_num, HY.out (byI_yes (by omega))⟩
            case measure => simp [intOf]; omega
          · have a3 : ¬ (s[k].toNat : Int) ≤ 57 := by omega
            have a4 : ¬ (s[k].toNat : Int) = 46 := by omega
            have a5 : ¬ (s[k].toNat : Int) = 95 := by omega
            have a6 : ¬ (s[k].toNat : Int) = 45 := by omega
            have a7 : 48 ≤ (s[k].toNat : Int) := by omega
            have HX2 : Hid (nm s = false) := HX.out (byI_no (by omega))
            have b2 : ((s[k].toNat : Int) == 46) = false := by simpa using a4
            have b3 : ((s[k].toNat : Int) == 95) = false := by simpa using a5
            have b4 : ((s[k].toNat : Int) == 45) = false := by simpa using a6
            go_wp2_with fail
            go_ret
            exact ⟨ret_bool HX2.out.symm, rfl⟩
        · by_cases a7 : 48 ≤ (s[k].toNat : Int)
          · by_cases a3 : (s[k].toNat : Int) ≤ 57
            · go_wp2_with fail
              go_round
              case rel => exact ⟨k + 1, hlt, by go_num, HY.out (byI_yes (by omega))⟩
              case measure => simp [intOf]; omega
            · have a8 : ¬ (s[k].toNat : Int) = 46 := by omega
              by_cases a4 : (s[k].toNat : Int) = 46
              · go_wp2_with fail
                go_round
                case rel => exact ⟨k + 1, hlt, by go_num, HY.out (byI_yes (by omega))⟩
                case measure => simp [intOf]; omega
              · by_cases a5 : (s[k].toNat : Int) = 95
                · have b2 : ((s[k].toNat : Int) == 46) = false := by simpa using a4
                  go_wp2_with fail
                  go_round
                  case rel => exact ⟨k + 1, hlt, by go_num, HY.out (byI_yes (by omega))⟩
                  case measure => simp [intOf]; omega
                · by_cases a6 : (s[k].toNat : Int) = 45
                  · have b2 : ((s[k].toNat : Int) == 46) = false := by simpa using a4
                    have b3 : ((s[k].toNat : Int) == 95) = false := by simpa using a5
                    go_wp2_with fail
                    go_round
                    case rel => exact ⟨k + 1, hlt, by go_num, HY.out (byI_yes (by omega))⟩
                    case measure => simp [intOf]; omega
                  · have HX2 : Hid (nm s = false) := HX.out (byI_no (by omega))
                    have b2 : ((s[k].toNat : Int) == 46) = false := by simpa using a4
                    have b3 : ((s[k].toNat : Int) == 95) = false := by simpa using a5
                    have b4 : ((s[k].toNat : Int) == 45) = false := by simpa using a6
                    go_wp2_with fail
                    go_ret
                    exact ⟨ret_bool HX2.out.symm, rfl⟩
          · by_cases a4 : (s[k].toNat : Int) = 46
            · go_wp2_with fail
              go_round
              case rel => exact ⟨k + 1, hlt, by go_num, HY.out (byI_yes (by omega))⟩
              case measure => simp [intOf]; omega
            · by_cases a5 : (s[k].toNat : Int) = 95
              · have b2 : ((s[k].toNat : Int) == 46) = false := by simpa using a4
                go_wp2_with fail
                go_round
                case rel => exact ⟨k + 1, hlt, by go_num, HY.out (byI_yes (by omega))⟩
                case measure => simp [intOf]; omega
              · by_cases a6 : (s[k].toNat : Int) = 45
                · have b2 : ((s[k].toNat : Int) == 46) = false := by simpa using a4
                  have b3 : ((s[k].toNat : Int) == 95) = false := by simpa using a5
                  go_wp2_with fail
                  go_round
                  case rel => exact ⟨k + 1, hlt, by go_num, HY.out (byI_yes (by omega))⟩
                  case measure => simp [intOf]; omega
                · have HX2 : Hid (nm s = false) := HX.out (byI_no (by omega))
                  have b2 : ((s[k].toNat : Int) == 46) = false := by simpa using a4
                  have b3 : ((s[k].toNat : Int) == 95) = false := by simpa using a5
                  have b4 : ((s[k].toNat : Int) == 45) = false := by simpa using a6
                  go_wp2_with fail
                  go_ret
                  exact ⟨ret_bool HX2.out.symm, rfl⟩
      · have hke : k = s.size := by omega
        go_wp2_with fail
        go_ret
        refine ⟨ret_bool ?_, rfl⟩
        rw [HN.out, ← hke, HO.out]

end Go.Proofs.YtdpighcaieajjabGreat

/- A path's names by the page. -/
namespace Go.Proofs.YtdpighcaieajjabGreat
open Go.RowKit

def RSplitIs (s : ByteArray) (w : World) (e : Ending) (w' : World) : Prop :=
  (∃ xs v, pathN s = some xs ∧ e = .returned (.tuple #[v, .bool true]) ∧ OwnStrs w' w.heap.size v xs) ∨
  (pathN s = none ∧ ∃ a n c, e = .returned (.tuple #[.slice a n c, .bool false]))

theorem head_cons {s : ByteArray} (h : ¬ s.size = 0) : ∃ t, ls s = s[0] :: t := by
  cases hl : ls s with
  | nil => exact absurd (by rw [← ls_size, hl]; rfl) h
  | cons c t =>
    refine ⟨t, ?_⟩
    have : s[0] = c := by
      have h0 : (ls s)[0]? = some c := by rw [hl]; rfl
      have h1 : (ls s)[0]? = some s[0] := by
        rw [List.getElem?_eq_getElem (by rw [ls_size]; omega)]; rfl
      rw [h0] at h1; injection h1 with h1; exact h1.symm
    rw [this]

theorem ls_get {s : ByteArray} {i : Nat} (h : i < s.size) : (ls s)[i]'(by rw [ls_size]; exact h) = s[i] := rfl
theorem cut_ext (s : ByteArray) (f i : Nat) : ls (s.extract f i) = cut (ls s) f i := by
  show (s.extract f i).data.toList = _
  rw [← Lib.toList_data, Lib.extract_toList]; rfl

/-- what holds while the page reads -/
structure Pg (s : ByteArray) (acc : List ByteArray) (f i : Nat) : Prop where
  sp : spR [] (ls s) = spI (acc.map ls) f i (ls s)
  f1 : 1 ≤ f
  fi : f ≤ i
  il : i ≤ s.size + 1
  al : acc.length ≤ f
theorem u8_47 {c : UInt8} : ((c.toNat : Int) = 47) ↔ c = 47 := by
  rw [← UInt8.toNat_inj]; simp; omega

theorem Pg.other {s : ByteArray} {acc : List ByteArray} {f i : Nat} (h : Pg s acc f i) (hi : i < s.size) (hc : ¬ (s[i].toNat : Int) = 47) : Pg s acc f (i + 1) := by
  refine ⟨?_, h.f1, Nat.le_succ_of_le h.fi, by omega, h.al⟩
  rw [h.sp]
  exact spI_other h.fi (by rw [ls_size]; exact hi) (by rw [ls_get hi]; intro e; exact hc (u8_47.2 e))
theorem Pg.slash {s : ByteArray} {acc : List ByteArray} {f i : Nat} (h : Pg s acc f i) (hi : i < s.size) (hc : (s[i].toNat : Int) = 47) : (nm (s.extract f i) = false → spR [] (ls s) = none) ∧ (nm (s.extract f i) = true → Pg s (acc ++ [s.extract f i]) (i + 1) (i + 1)) := by
  have e := spI_slash (acc := acc.map ls) (f := f) (i := i) (l := ls s) (by rw [ls_size]; exact hi) (by rw [ls_get hi]; exact u8_47.1 hc)
  rw [← cut_ext] at e
  have hn : nm (s.extract f i) = nmL (ls (s.extract f i)) := rfl
  constructor
  · intro h0
    rw [h.sp, e, ← hn, h0]; rfl
  · intro h0
    have := h.f1; have := h.fi; have := h.al
    refine ⟨?_, by omega, Nat.le_refl _, by omega, by rw [List.length_append, List.length_singleton]; omega⟩
    rw [h.sp, e, ← hn, h0, List.map_append]; rfl
theorem Pg.last {s : ByteArray} {acc : List ByteArray} {f : Nat} (h : Pg s acc f s.size) : (nm (s.extract f s.size) = false → spR [] (ls s) = none) ∧ (nm (s.extract f s.size) = true → Pg s (acc ++ [s.extract f s.size]) (s.size + 1) (s.size + 1)) := by
  have e := spI_end (acc := acc.map ls) (f := f) (l := ls s)
  rw [ls_size, ← cut_ext] at e
  have hn : nm (s.extract f s.size) = nmL (ls (s.extract f s.size)) := rfl
  constructor
  · intro h0
    rw [h.sp, e, ← hn, h0]; rfl
  · intro h0
    have := h.f1; have := h.fi; have := h.al
    refine ⟨?_, by omega, Nat.le_refl _, by omega, by rw [List.length_append, List.length_singleton]; omega⟩
    rw [h.sp, e, ← hn, h0, List.map_append]; rfl
theorem Pg.done {s : ByteArray} {acc : List ByteArray} {f i : Nat} (h : Pg s acc f i) (hi : s.size < i) (HP : pathN s = (few (spR [] (ls s))).map (·.map bs)) : pathN s = (if acc.length ≤ 5 then some acc else none) := by
  rw [HP, h.sp, spI_out (by rw [ls_size]; exact hi)]
  simp only [few, Option.filter]
  by_cases h5 : acc.length ≤ 5
  · simp [h5, List.map_map]
    exact (List.map_congr_left fun x _ => bs_ls x).trans (List.map_id acc)
  · simp [h5]

theorem cell_one (w : World) (x : Value) (t : TypeId) : ∀ j u, [x][j]? = some u → (w.alloc (.cells #[x] t)).cell? ((⟨w.heap.size, 0, none⟩ : Addr).add j) = some u := cell_one' w x t

set_option maxRecDepth 100000 in
set_option maxHeartbeats 4000000 in
theorem rsplit_any (s : ByteArray) (w : World) :
    Calls Tryz.prog 14 #[.string s] w fun e w' => RSplitIs s w e w' ∧ Below w.heap.size w w' := by
  by_cases hA : s.toList = [47]
  · have HP : Hid (pathN s = some []) := pathN_root hA
    have hA' : (s.toList == [47]) = true := by simpa using hA
    go_enter Tryz.func14, Tryz.ntmps14
    go_wp2_with fail
    go_ret2
    exact ⟨.inl ⟨[], _, HP.out, rfl, World.ownsRow_nil _ _ _ _⟩, nwR w⟩
  · have hA' : (s.toList == [47]) = false := by simpa using hA
    by_cases hB : s.size = 0 ∨ 45 < s.size
    · have HP : Hid (pathN s = none) := pathN_bad hA hB
      rcases hB with hB | hB
      · go_enter Tryz.func14, Tryz.ntmps14
        go_wp2_with fail
        go_ret2
        exact ⟨.inr ⟨HP.out, _, _, _, rfl⟩, nwR w⟩
      · have b1 : ¬ s.size = 0 := by omega
        have b2 : (45 : Int) < s.size := by omega
        go_enter Tryz.func14, Tryz.ntmps14
        go_wp2_with fail
        go_ret2
        exact ⟨.inr ⟨HP.out, _, _, _, rfl⟩, nwR w⟩
    · have h1 : ¬ s.size = 0 := fun h => hB (.inl h)
      have h2 : ¬ 45 < s.size := fun h => hB (.inr h)
      have HP : Hid (pathN s = (few (spR [] (ls s))).map (·.map bs)) := pathN_go hA h1 h2
      obtain ⟨t, ht⟩ := head_cons h1
      have b2 : ¬ (45 : Int) < s.size := by omega
      have b3 : ((s.size : Int) == 0) = false := beq_eq_false_iff_ne.2 (by omega)
      have b4 : 0 < s.size := by omega
      clear hA hB
      by_cases hc : (s[0].toNat : Int) = 47
      · have HPg : Hid (Pg s [] 1 1) := by
          refine ⟨?_, Nat.le_refl _, Nat.le_refl _, by omega, by simp⟩
          rw [ht, show s[0] = 47 from u8_47.1 hc]
          exact (spI_start t).symm
        obtain ⟨i0, hi, hz0, hz1, hz2⟩ := info_parts Tryz.info9
        clear ht
        go_enter Tryz.func14, Tryz.ntmps14
        go_wp2_with fail
        go_loopw [4, 5, 6] (fun l f i wr => ∃ (acc : List ByteArray) (fn n : Nat), Pg s acc fn n ∧ f = .int .i64 fn ∧ i = .int .i64 n ∧ OwnStrs wr w.heap.size l acc ∧ Below w.heap.size w wr)
          (fun _ _ i _ => s.size + 1 - (intOf i).toNat)
        case atStart => exact ⟨[], 1, 1, HPg.out, rfl, rfl, World.ownsRow_nil _ _ _ _, nwR w⟩
        case round =>
          obtain ⟨acc, f, i, hpg, rfl, rfl, hO, hb⟩ := hrel
          have HG : Hid (Pg s acc f i) := hpg
          have HO : Hid (OwnStrs wr w.heap.size u4 acc) := hO
          have g1 := hpg.f1
          have g2 := hpg.fi
          have g3 := hpg.il
          have g4 := hpg.al
          clear hpg hO
          by_cases hin : i ≤ s.size
          · have hini : (i : Int) ≤ (s.size : Int) := by omega
            have hfi : (f : Int) ≤ (i : Int) := by omega
            by_cases hie : i = s.size
            · subst hie
              have HL := HG.out.last
              have HL1 : Hid (nm (s.extract f s.size) = false → spR [] (ls s) = none) := HL.1
              have HL2 : Hid (nm (s.extract f s.size) = true → Pg s (acc ++ [s.extract f s.size]) (s.size + 1) (s.size + 1)) := HL.2
              clear HL HG
              generalize hX : s.extract f s.size = X at HL1 HL2
              have HX : Hid (s.extract f s.size = X) := hX
              clear hX
              cases hn : nm X
              · have HN : Hid (pathN s = none) := by show _ = _; rw [HP.out, HL1.out hn]; rfl
                go_wp2_with (go_at_call 35; rw [HX.out]; refine (name_any _ _).mono ?_; rintro e w' ⟨rfl, rfl⟩; rw [hn])
                go_ret2
                exact ⟨.inr ⟨HN.out, _, _, _, rfl⟩, hb⟩
              · have HNX : Hid (Pg s (acc ++ [X]) (s.size + 1) (s.size + 1)) := HL2.out hn
                have hsz : w.heap.size ≤ (wr.alloc (.cells #[.string (s.extract f s.size)] 9)).heap.size := (nwA hb _).size
                have hc3 : acc.length + 1 ≤ maxLen := by unfold maxLen; omega
                have hc4 : (acc.length + 1) * 16 ≤ 140737488355328 := by omega
                go_wp2_with (first
                  | (go_at_call 35; rw [HX.out]; refine (name_any _ _).mono ?_; rintro e w' ⟨rfl, rfl⟩; rw [hn])
                  | (at_builtin; refine wpList_append_own _ rfl (.tmp 44) (.tmp 49) 38 rfl w.heap.size 9 i0 (.string ⟨#[]⟩) 1 16 Tryz.underlying38 hi hz0 hz1 hz2 rfl (by decide) u4 acc.length (acc.map .string) rfl (World.ownsRow.alloc HO.out _) ⟨w'.heap.size, 0, none⟩ 1 1 [.string (s.extract f s.size)] rfl rfl (cell_one _ _ _) (by simp [Value.oneCell']) hc3 hc4 hsz ?_; intro v' w3 hown hgrow _; refine unstop ?_))
                unfold Stop
                have HB3 : Hid (Below w.heap.size w w3) := (nwA hb _).grown hgrow (nwA hb _).size (fun q e => (HO.out.lt q e).1)
                have HO3 : Hid (OwnStrs w3 w.heap.size v' (acc ++ [s.extract f s.size])) := OwnStrs.snoc hown
                clear hown hgrow
                go_wp2_with fail
                go_roundw
                case rel => exact ⟨acc ++ [s.extract f s.size], (s.size + 1), (s.size + 1), by rw [HX.out]; exact HNX.out, by go_num, by go_num, HO3.out, HB3.out⟩
                case measure => simp [intOf]
            · have hlt : i < s.size := by omega
              have hne : ((i : Int) == (s.size : Int)) = false := beq_eq_false_iff_ne.2 (by omega)
              by_cases hc9 : (s[i].toNat : Int) = 47
              · have HL := HG.out.slash hlt hc9
                have HL1 : Hid (nm (s.extract f i) = false → spR [] (ls s) = none) := HL.1
                have HL2 : Hid (nm (s.extract f i) = true → Pg s (acc ++ [s.extract f i]) (i + 1) (i + 1)) := HL.2
                clear HL HG
                generalize hX : s.extract f i = X at HL1 HL2
                have HX : Hid (s.extract f i = X) := hX
                clear hX
                cases hn : nm X
                · have HN : Hid (pathN s = none) := by show _ = _; rw [HP.out, HL1.out hn]; rfl
                  go_wp2_with (go_at_call 35; rw [HX.out]; refine (name_any _ _).mono ?_; rintro e w' ⟨rfl, rfl⟩; rw [hn])
                  go_ret2
                  exact ⟨.inr ⟨HN.out, _, _, _, rfl⟩, hb⟩
                · have HNX : Hid (Pg s (acc ++ [X]) (i + 1) (i + 1)) := HL2.out hn
                  have hsz : w.heap.size ≤ (wr.alloc (.cells #[.string (s.extract f i)] 9)).heap.size := (nwA hb _).size
                  have hc3 : acc.length + 1 ≤ maxLen := by unfold maxLen; omega
                  have hc4 : (acc.length + 1) * 16 ≤ 140737488355328 := by omega
                  go_wp2_with (first
                    | (go_at_call 35; rw [HX.out]; refine (name_any _ _).mono ?_; rintro e w' ⟨rfl, rfl⟩; rw [hn])
                    | (at_builtin; refine wpList_append_own _ rfl (.tmp 44) (.tmp 49) 38 rfl w.heap.size 9 i0 (.string ⟨#[]⟩) 1 16 Tryz.underlying38 hi hz0 hz1 hz2 rfl (by decide) u4 acc.length (acc.map .string) rfl (World.ownsRow.alloc HO.out _) ⟨w'.heap.size, 0, none⟩ 1 1 [.string (s.extract f i)] rfl rfl (cell_one _ _ _) (by simp [Value.oneCell']) hc3 hc4 hsz ?_; intro v' w3 hown hgrow _; refine unstop ?_))
                  unfold Stop
                  have HB3 : Hid (Below w.heap.size w w3) := (nwA hb _).grown hgrow (nwA hb _).size (fun q e => (HO.out.lt q e).1)
                  have HO3 : Hid (OwnStrs w3 w.heap.size v' (acc ++ [s.extract f i])) := OwnStrs.snoc hown
                  clear hown hgrow
                  go_wp2_with fail
                  go_roundw
                  case rel => exact ⟨acc ++ [s.extract f i], (i + 1), (i + 1), by rw [HX.out]; exact HNX.out, by go_num, by go_num, HO3.out, HB3.out⟩
                  case measure => simp [intOf]; omega
              · have HNX : Hid (Pg s acc f (i + 1)) := HG.out.other hlt hc9
                have hc8 : ((s[i].toNat : Int) == 47) = false := beq_eq_false_iff_ne.2 hc9
                go_wp2_with fail
                go_roundw
                case rel => exact ⟨acc, f, i + 1, HNX.out, rfl, by go_num, HO.out, hb⟩
                case measure => simp [intOf]; omega
          · have hini : ¬ (i : Int) ≤ (s.size : Int) := by omega
            have HD : Hid (pathN s = (if acc.length ≤ 5 then some acc else none)) := HG.out.done (by omega) HP.out
            have HO1 := HO.out
            obtain ⟨a, cap, rfl, _⟩ := HO1.at
            by_cases h5 : acc.length ≤ 5
            · have HY : Hid (pathN s = some acc) := by show _ = _; rw [HD.out, if_pos h5]
              have h5i : (acc.length : Int) ≤ 5 := by omega
              clear HO1
              go_wp2_with fail
              go_ret2
              exact ⟨.inl ⟨acc, _, HY.out, rfl, HO.out⟩, hb⟩
            · have HY : Hid (pathN s = none) := by show _ = _; rw [HD.out, if_neg h5]
              have h5i : ¬ (acc.length : Int) ≤ 5 := by omega
              clear HO1
              go_wp2_with fail
              go_ret2
              exact ⟨.inr ⟨HY.out, _, _, _, rfl⟩, hb⟩
      · have HN : Hid (pathN s = none) := by
          show _ = _
          rw [HP.out, ht]
          simp only [spR]
          rw [if_neg (fun e => hc (u8_47.2 e))]; rfl
        go_enter Tryz.func14, Tryz.ntmps14
        go_wp2_with fail
        go_ret2
        exact ⟨.inr ⟨HN.out, _, _, _, rfl⟩, nwR w⟩

end Go.Proofs.YtdpighcaieajjabGreat
