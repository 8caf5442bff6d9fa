/- The reader reads one name, with the slash ahead of it. -/
import Derived.Test.YtdpighcaieajjaaGreatStep
namespace Go.Proofs.YtdpighcaieajjaaGreat
open Go.RowKit

def twL (r : List UInt8) : List UInt8 := r.takeWhile (· ≠ 47)
def dwL (r : List UInt8) : List UInt8 := r.dropWhile (· ≠ 47)
theorem tw_dw (r : List UInt8) : twL r ++ dwL r = r := List.takeWhile_append_dropWhile
theorem idx2 (r : List UInt8) : (Lib.indexByte r 47 = -1 ∧ (twL r).length = r.length) ∨ (Lib.indexByte r 47 = ((twL r).length : Int) ∧ (twL r).length ≤ r.length) := by
  have h := idx r
  have hge := Lib.indexByte_ge r 47
  by_cases h0 : Lib.indexByte r 47 < 0
  · exact .inl ⟨by omega, by rw [twL, (h.1 h0).1]⟩
  · obtain ⟨h1, h2, _⟩ := h.2 (by omega)
    right
    have e : (twL r).length = (Lib.indexByte r 47).toNat := by rw [twL, h2, List.length_take]; omega
    rw [e]; omega
theorem cut_tw (r : List UInt8) : (bs r).extract 0 (twL r).length = bs (twL r) := by
  apply ls_inj
  show ((bs r).extract 0 (twL r).length).data.toList = _
  rw [← Lib.toList_data, Lib.extract_toList, ls_bs]
  show ((ls (bs r)).drop 0).take _ = _
  rw [ls_bs, List.drop_zero, Nat.sub_zero]
  exact (congrArg (List.take (twL r).length) (tw_dw r)).symm.trans (by simp)
theorem cut_dw (r : List UInt8) : (bs r).extract (twL r).length (bs r).size = bs (dwL r) := by
  apply ls_inj
  show ((bs r).extract _ _).data.toList = _
  rw [← Lib.toList_data, Lib.extract_toList, ls_bs]
  show ((ls (bs r)).drop _).take _ = _
  rw [ls_bs, ← ls_size, ls_bs, List.take_of_length_le (by simp)]
  exact (congrArg (List.drop (twL r).length) (tw_dw r)).symm.trans (by simp)
theorem bs_size (l : List UInt8) : (bs l).size = l.length := by rw [← ls_size, ls_bs]

set_option maxRecDepth 100000 in
set_option maxHeartbeats 1000000 in
theorem next_no1 (g : Nat) (acc : List ByteArray) (rest : ByteArray) (v : Value) (w : World) (h : RdIs w g acc rest v) (hh : Lib.hasPrefix (ls rest) [47] = false) :
    Calls Tryz.prog 113 #[.pointer (some ⟨g, 0, none⟩)] w fun e w' => e = .returned (.bool false) ∧ w' = w := by
  have c1 : w.cell? ⟨g, 1, none⟩ = some (.string rest) := by rw [Lib.cell_of_heap h.blk]; rfl
  have hh' : Lib.hasPrefix rest.data.toList [47] = false := hh
  go_enter Tryz.func113, Tryz.ntmps113
  go_wp2_with (go_at_call 126; refine (Tryz.strings_CutPrefix _ _ _).mono ?_; rintro e w' ⟨rfl, rfl⟩)
  go_ret
  exact ⟨rfl, rfl⟩

set_option maxRecDepth 100000 in
set_option maxHeartbeats 1000000 in
theorem next_no2 (g : Nat) (acc : List ByteArray) (rest : ByteArray) (v : Value) (r : List UInt8) (w : World) (h : RdIs w g acc rest v) (hr : ls rest = 47 :: r) (hs : r.length ≤ 4000) (hn : nmL (twL r) = false) :
    Calls Tryz.prog 113 #[.pointer (some ⟨g, 0, none⟩)] w fun e w' => e = .returned (.bool false) ∧ w' = w := by
  have c1 : w.cell? ⟨g, 1, none⟩ = some (.string rest) := by rw [Lib.cell_of_heap h.blk]; rfl
  have hp : Lib.hasPrefix rest.data.toList [47] = true := by show Lib.hasPrefix (ls rest) [47] = true; rw [hr]; rfl
  have ht : Lib.trimPrefix rest.data.toList [47] = r := by show Lib.trimPrefix (ls rest) [47] = r; rw [hr]; rfl
  have HN : Hid (nm ((bs r).extract 0 (twL r).length) = false) := by show nm _ = false; rw [cut_tw]; unfold nm; rw [ls_bs]; exact hn
  have hT : (bs r).size ≤ 4000 := by rw [bs_size]; exact hs
  have hi := idx2 r
  rw [← bs_size r] at hi
  clear hn hr
  go_enter Tryz.func113, Tryz.ntmps113
  go_wp2_with (go_at_call 126; refine (Tryz.strings_CutPrefix _ _ _).mono ?_; rintro e w' ⟨rfl, rfl⟩; rw [show (⟨#[47]⟩ : ByteArray).data.toList = [47] from rfl, ht, hp, show (⟨r.toArray⟩ : ByteArray) = bs r from rfl])
  refine (Tryz.strings_IndexByte _ _ _).mono ?_
  rintro e w' ⟨rfl, rfl⟩
  rw [show (bs r).data.toList = r from ls_bs r, show (47 : Int).toNat.toUInt8 = 47 from rfl]
  generalize bs r = T at HN hT hi
  generalize Lib.indexByte r 47 = ix at hi
  generalize (twL r).length = n at HN hi
  clear hp ht
  rcases hi with ⟨rfl, rfl⟩ | ⟨rfl, hn⟩
  · have HN' : Hid (nm T = false) := by have := HN.out; rwa [show T.extract 0 T.size = T from by simp] at this
    go_wp2_with (go_at_call 128; refine (check_any _ _).mono ?_; rintro e w' ⟨rfl, rfl⟩; rw [HN'.out, errI_f])
    go_ret
    exact ⟨rfl, rfl⟩
  · have h1 : (n : Int) ≤ (T.size : Int) := by omega
    go_wp2_with (go_at_call 128; refine (check_any _ _).mono ?_; rintro e w' ⟨rfl, rfl⟩; rw [HN.out, errI_f])
    go_ret
    exact ⟨rfl, rfl⟩

theorem RdIs.put {w : World} {g : Nat} {acc : List ByteArray} {rest : ByteArray} {v : Value} (h : RdIs w g acc rest v) (y : ByteArray) : RdIs (w.setCell ⟨g, 1, none⟩ (.string y)) g acc y v :=
  ⟨by rw [heap_setCell_same w g 1 _ 135 _ h.blk]; simp, own_set h.own 1 (Nat.lt_succ_self g) _⟩

set_option maxRecDepth 100000 in
set_option maxHeartbeats 2000000 in
theorem next_yes (g : Nat) (acc : List ByteArray) (rest : ByteArray) (v : Value) (r : List UInt8) (w : World) (h : RdIs w g acc rest v) (hr : ls rest = 47 :: r) (hs : r.length ≤ 4000) (hl : acc.length ≤ 4000) (hn : nmL (twL r) = true) :
    Calls Tryz.prog 113 #[.pointer (some ⟨g, 0, none⟩)] w fun e w' => e = .returned (.bool true) ∧ (∃ v', RdIs w' g (acc ++ [bs (twL r)]) (bs (dwL r)) v') ∧ Below g w w' := by
  have c1 : w.cell? ⟨g, 1, none⟩ = some (.string rest) := by rw [Lib.cell_of_heap h.blk]; rfl
  have hp : Lib.hasPrefix rest.data.toList [47] = true := by show Lib.hasPrefix (ls rest) [47] = true; rw [hr]; rfl
  have ht : Lib.trimPrefix rest.data.toList [47] = r := by show Lib.trimPrefix (ls rest) [47] = r; rw [hr]; rfl
  have HN : Hid (nm ((bs r).extract 0 (twL r).length) = true) := by show nm _ = true; rw [cut_tw]; unfold nm; rw [ls_bs]; exact hn
  have HR : Hid (RdIs w g acc rest v) := h
  have hT : (bs r).size ≤ 4000 := by rw [bs_size]; exact hs
  have HC1 : Hid ((bs r).extract 0 (twL r).length = bs (twL r)) := cut_tw r
  have HC2 : Hid ((bs r).extract (twL r).length (bs r).size = bs (dwL r)) := cut_dw r
  have hi := idx2 r
  have hz : (twL r).length ≤ 8 := (nmL_len hn).2
  rw [← bs_size r] at hi
  clear hn hr h
  go_enter Tryz.func113, Tryz.ntmps113
  go_wp2_with (go_at_call 126; refine (Tryz.strings_CutPrefix _ _ _).mono ?_; rintro e w' ⟨rfl, rfl⟩; rw [show (⟨#[47]⟩ : ByteArray).data.toList = [47] from rfl, ht, hp, show (⟨r.toArray⟩ : ByteArray) = bs r from rfl])
  refine (Tryz.strings_IndexByte _ _ _).mono ?_
  rintro e w' ⟨rfl, rfl⟩
  rw [show (bs r).data.toList = r from ls_bs r, show (47 : Int).toNat.toUInt8 = 47 from rfl]
  generalize hX0 : bs (twL r) = X at HC1
  generalize hY0 : bs (dwL r) = Y at HC2
  have HX0 : Hid (bs (twL r) = X) := hX0
  have HY0 : Hid (bs (dwL r) = Y) := hY0
  clear hX0 hY0
  generalize bs r = T at HN hT hi HC1 HC2
  generalize Lib.indexByte r 47 = ix at hi
  generalize (twL r).length = n at HN hi HC1 HC2 hz
  clear hp ht
  have hgl : g < w'.heap.size := HR.out.lt
  rcases hi with ⟨rfl, rfl⟩ | ⟨rfl, hn⟩
  · have e1 : T.extract 0 T.size = T := by simp
    rw [HC1.out] at HN
    have e2 : T = X := by rw [← HC1.out, e1]
    subst e2
    have hx : T.size ≤ 4000 := hT
    have e3 : Y = ByteArray.empty := by rw [← HC2.out]; simp
    subst e3
    go_wp2_with (go_at_call 128; refine (check_any _ _).mono ?_; rintro e w' ⟨rfl, rfl⟩; rw [HN.out, errI_t])
    go_region_held3 (fun _ => True) (trivial) (first
      | (go_at_call 130; refine (clone_any _ _ hx).mono ?_; rintro e wC ⟨rfl, hbC0⟩; have hbC : Below w'.heap.size w' wC := (Below.drew (nwR w')).trans hbC0; clear hbC0)
      | (go_at_call 129; refine (add_any g acc rest v _ _ T _ (HR.out.below (nwA hbC _)) (by simp) hl).mono ?_; rintro e wA ⟨rfl, ⟨vA, hA⟩, hbA⟩))
    have d1 : wA.cell? ⟨g, 1, none⟩ = some (.string rest) := by rw [Lib.cell_of_heap hA.blk]; rfl
    have f1 : wA.frozen? ⟨g, 1, none⟩ = false := Lib.frozen_of_heap hA.blk 1
    have HA : Hid (RdIs wA g (acc ++ [T]) rest vA) := hA
    have HB : Hid (Below g w' wA) := ((nwA hbC _).mono (Nat.le_of_lt hgl)).trans hbA
    clear hA hbA hbC c1
    go_wp2_with fail
    go_ret
    exact ⟨rfl, ⟨_, by rw [HX0.out, HY0.out]; exact HA.out.put _⟩, HB.out.setCell (p := ⟨g, 1, none⟩) (Nat.le_refl _) _⟩
  · have h1 : (n : Int) ≤ (T.size : Int) := by omega
    rw [HC1.out] at HN
    go_wp2_with (go_at_call 128; rw [HC1.out]; refine (check_any _ _).mono ?_; rintro e w' ⟨rfl, rfl⟩; rw [HN.out, errI_t])
    have hx : X.size ≤ 4000 := by rw [← HC1.out]; simp; omega
    go_region_held3 (fun _ => True) (trivial) (first
      | (go_at_call 130; rw [HC1.out]; refine (clone_any _ _ hx).mono ?_; rintro e wC ⟨rfl, hbC0⟩; have hbC : Below w'.heap.size w' wC := (Below.drew (nwR w')).trans hbC0; clear hbC0)
      | (go_at_call 129; refine (add_any g acc rest v _ _ X _ (HR.out.below (nwA hbC _)) (by simp) hl).mono ?_; rintro e wA ⟨rfl, ⟨vA, hA⟩, hbA⟩))
    have d1 : wA.cell? ⟨g, 1, none⟩ = some (.string rest) := by rw [Lib.cell_of_heap hA.blk]; rfl
    have f1 : wA.frozen? ⟨g, 1, none⟩ = false := Lib.frozen_of_heap hA.blk 1
    have HA : Hid (RdIs wA g (acc ++ [X]) rest vA) := hA
    have HB : Hid (Below g w' wA) := ((nwA hbC _).mono (Nat.le_of_lt hgl)).trans hbA
    clear hA hbA hbC c1
    go_wp2_with fail
    go_ret
    exact ⟨rfl, ⟨_, by rw [HX0.out, HY0.out, HC2.out]; exact HA.out.put _⟩, HB.out.setCell (p := ⟨g, 1, none⟩) (Nat.le_refl _) _⟩

end Go.Proofs.YtdpighcaieajjaaGreat
