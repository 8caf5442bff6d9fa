/- A path read: its names, or none. -/
import Derived.Test.YtdpighcaieajjaaGreatNext
namespace Go.Proofs.YtdpighcaieajjaaGreat
open Go.RowKit

def ReadIs (s : ByteArray) (w : World) (e : Ending) (w' : World) : Prop :=
  (∃ xs v, pathN s = some xs ∧ e = .returned (.tuple #[.agg #[v], .int .i64 0]) ∧ OwnStrs w' w.heap.size v xs) ∨
  (pathN s = none ∧ e = .returned (.tuple #[.agg #[.slice none 0 0], .int .i64 1]))

def restLen (g : Nat) (w : World) : Nat := match w.cell? ⟨g, 1, none⟩ with
  | some (.string r) => r.size
  | _ => 0
theorem restLen_is {w : World} {g : Nat} {acc : List ByteArray} {rest : ByteArray} {v : Value} (h : RdIs w g acc rest v) : restLen g w = rest.size := by
  have : w.cell? ⟨g, 1, none⟩ = some (.string rest) := by rw [Lib.cell_of_heap h.blk]; rfl
  simp [restLen, this]

/-- what holds while it reads -/
structure Going (s : ByteArray) (W0 : World) (g : Nat) (wr : World) (acc : List ByteArray) (rest : ByteArray) (v : Value) : Prop where
  rd : RdIs wr g acc rest v
  sp : spR [] (ls s) = spR (acc.map ls) (ls rest)
  tx : flN acc ++ ls rest = ls s
  nm : ∀ x ∈ acc, nm x = true
  be : Below g W0 wr

theorem pathN_root {s : ByteArray} (h : s.toList = [47]) : pathN s = some [] := by
  unfold pathN pathL
  rw [show ls s = [47] from by rw [ls, ← Lib.toList_data]; exact h]; simp
theorem pathN_bad {s : ByteArray} (h : ¬ s.toList = [47]) (h2 : s.size = 0 ∨ 45 < s.size) : pathN s = none := by
  unfold pathN pathL
  have h' : ¬ ls s = [47] := by rw [ls, ← Lib.toList_data]; exact h
  rw [if_neg h', if_pos]
  · rfl
  · rw [ls_size]
    rcases h2 with h2 | h2
    · exact .inl (List.length_eq_zero_iff.1 (by rw [ls_size]; exact h2))
    · exact .inr h2
theorem pathN_go {s : ByteArray} (h : ¬ s.toList = [47]) (h1 : ¬ s.size = 0) (h2 : ¬ 45 < s.size) : pathN s = (few (spR [] (ls s))).map (·.map bs) := by
  unfold pathN pathL
  have h' : ¬ ls s = [47] := by rw [ls, ← Lib.toList_data]; exact h
  rw [if_neg h', if_neg]
  rw [ls_size]
  intro h3
  rcases h3 with h3 | h3
  · exact h1 (by rw [← ls_size, h3]; rfl)
  · exact h2 h3

theorem nil_yes {s : ByteArray} (h : s.size = 0) : (s.toList == []) = true := by
  rw [Lib.toList_data, beq_iff_eq]
  exact List.length_eq_zero_iff.1 (by rw [← h, ← ls_size]; rfl)
theorem nil_no {s : ByteArray} (h : ¬ s.size = 0) : (s.toList == []) = false := by
  rw [Lib.toList_data, beq_eq_false_iff_ne]
  intro e
  exact h (by rw [← ls_size, ls, e]; rfl)
theorem ls_nil {s : ByteArray} (h : s.size = 0) : ls s = [] := List.length_eq_zero_iff.1 (by rw [ls_size]; exact h)

theorem cells_of {w : World} {g : Nat} {acc : List ByteArray} {rest : ByteArray} {v : Value} (h : RdIs w g acc rest v) : w.cell? ⟨g, 0, none⟩ = some v ∧ w.cell? ⟨g, 1, none⟩ = some (.string rest) :=
  ⟨by rw [Lib.cell_of_heap h.blk]; rfl, by rw [Lib.cell_of_heap h.blk]; rfl⟩

theorem flN_len2 {acc : List ByteArray} (h : ∀ x ∈ acc, nm x = true) : 2 * acc.length ≤ (flN acc).length ∧ (flN acc).length ≤ 9 * acc.length := by
  have := fl_len_le (acc.map ls) (fun x hx => by obtain ⟨y, hy, rfl⟩ := List.mem_map.1 hx; exact h y hy)
  rw [List.length_map] at this; exact this

/-- one name more -/
theorem Going.step {s : ByteArray} {W0 : World} {g : Nat} {wr w2 : World} {acc : List ByteArray} {rest : ByteArray} {v v' : Value} {r : List UInt8} (h : Going s W0 g wr acc rest v) (hr : ls rest = 47 :: r) (hn : nmL (twL r) = true)
    (h2 : RdIs w2 g (acc ++ [bs (twL r)]) (bs (dwL r)) v') (hb : Below g wr w2) : Going s W0 g w2 (acc ++ [bs (twL r)]) (bs (dwL r)) v' := by
  refine ⟨h2, ?_, ?_, ?_, h.be.trans hb⟩
  · rw [h.sp, hr, spR_take, ls_bs, List.map_append, List.map_singleton, ls_bs]
    exact if_pos hn
  · rw [flN_snoc, ls_bs, ls_bs, ← h.tx, hr, List.append_assoc, List.cons_append, tw_dw]
  · intro x hx
    rcases List.mem_append.1 hx with hx | hx
    · exact h.nm x hx
    · simp at hx; subst hx; unfold YtdpighcaieajjaaGreat.nm; rw [ls_bs]; exact hn

theorem few_no : few none = none := rfl
theorem Going.none1 {s : ByteArray} {W0 : World} {g : Nat} {wr : World} {acc : List ByteArray} {rest : ByteArray} {v : Value} (h : Going s W0 g wr acc rest v) (hr : ¬ rest.size = 0) (hp : Lib.hasPrefix (ls rest) [47] = false) : spR [] (ls s) = none := by
  rw [h.sp]
  cases hl : ls rest with
  | nil => exact absurd (by rw [← ls_size, hl]; rfl) hr
  | cons c r =>
    rw [hl] at hp
    simp only [spR]
    rw [if_neg]
    intro e; subst e; simp [Lib.hasPrefix] at hp
theorem Going.none2 {s : ByteArray} {W0 : World} {g : Nat} {wr : World} {acc : List ByteArray} {rest : ByteArray} {v : Value} {r : List UInt8} (h : Going s W0 g wr acc rest v) (hr : ls rest = 47 :: r) (hn : nmL (twL r) = false) : spR [] (ls s) = none := by
  rw [h.sp, hr, spR_take, if_neg]
  rw [show List.takeWhile (fun x => decide (x ≠ 47)) r = twL r from rfl, hn]; simp
theorem prefix_yes {rest : ByteArray} (hp : Lib.hasPrefix (ls rest) [47] = true) : ∃ r, ls rest = 47 :: r := by
  cases hl : ls rest with
  | nil => rw [hl] at hp; simp [Lib.hasPrefix] at hp
  | cons c r =>
    rw [hl] at hp
    simp [Lib.hasPrefix] at hp
    exact ⟨r, by rw [hp]⟩
/-- at the end -/
theorem Going.done {s : ByteArray} {W0 : World} {g : Nat} {wr : World} {acc : List ByteArray} {rest : ByteArray} {v : Value} (h : Going s W0 g wr acc rest v) (hs : ¬ s.size = 0) (h45 : ¬ 45 < s.size) (hr : rest.size = 0)
    (HP : pathN s = (few (spR [] (ls s))).map (·.map bs)) : pathN s = (if fitB acc = true then some acc else none) := by
  have h1 := h.sp
  have h2 := h.tx
  rw [ls_nil hr] at h1 h2
  rw [List.append_nil] at h2
  have hne : acc ≠ [] := by
    intro e; subst e
    exact hs (by rw [← ls_size, ← h2]; rfl)
  have htx : YtdpighcaieajjaaGreat.tx acc = s := by rw [tx_cons hne, h2, bs_ls]
  have hf : fitB acc = decide (acc.length ≤ 5) := by
    unfold fitB; rw [htx, decide_eq_true (by omega : s.size ≤ 45), Bool.and_true]
  rw [HP, h1, hf]
  simp only [spR, few, Option.filter]
  by_cases h5 : acc.length ≤ 5
  · simp [h5, List.map_map]
    exact (List.map_congr_left fun x _ => bs_ls x).trans (List.map_id acc)
  · simp [h5]

theorem cell_set {w : World} {g : Nat} {x : Value} (h : w.cell? ⟨g, 0, none⟩ = some x) (y : Value) : (w.setCell ⟨g, 0, none⟩ y).cell? ⟨g, 0, none⟩ = some y := World.cell?_setCell_same' _ _ _ (by rw [h]; rfl)

set_option maxRecDepth 100000 in
set_option maxHeartbeats 2000000 in
theorem read_any (s : ByteArray) (w : World) :
    Calls Tryz.prog 98 #[.string s] w fun e w' => ReadIs s w e w' ∧ Below w.heap.size w w' := by
  by_cases hA : s.toList = [47]
  · have HP : Hid (pathN s = some []) := pathN_root hA
    have hA' : (s.toList == [47]) = true := by simpa using hA
    go_enter Tryz.func98, Tryz.ntmps98
    go_wp2_with fail
    exact bodyPost_ret (v := .tuple #[.agg #[.slice none 0 0], .int .i64 0]) (by simp [results, Tryz.results98, go_sem]) rfl ⟨.inl ⟨[], _, HP.out, rfl, World.ownsRow_nil _ _ _ _⟩, nwA (nwR w) _⟩
  · have hA' : (s.toList == [47]) = false := by simpa using hA
    by_cases hB : s.size = 0 ∨ 45 < s.size
    · have HP : Hid (pathN s = none) := pathN_bad hA hB
      rcases hB with hB | hB
      · have b1 := nil_yes hB
        go_enter Tryz.func98, Tryz.ntmps98
        go_wp2_with fail
        exact bodyPost_ret (v := .tuple #[.agg #[.slice none 0 0], .int .i64 1]) (by simp [results, Tryz.results98, go_sem]) rfl ⟨.inr ⟨HP.out, rfl⟩, nwA (nwR w) _⟩
      · have b1 := nil_no (s := s) (by omega)
        have b2 : (45 : Int) < s.size := by omega
        go_enter Tryz.func98, Tryz.ntmps98
        go_wp2_with fail
        exact bodyPost_ret (v := .tuple #[.agg #[.slice none 0 0], .int .i64 1]) (by simp [results, Tryz.results98, go_sem]) rfl ⟨.inr ⟨HP.out, rfl⟩, nwA (nwR w) _⟩
    · have h1 : ¬ s.size = 0 := fun h => hB (.inl h)
      have h2 : ¬ 45 < s.size := fun h => hB (.inr h)
      have HP : Hid (pathN s = (few (spR [] (ls s))).map (·.map bs)) := pathN_go hA h1 h2
      have b1 : (s.toList == []) = false := nil_no h1
      have b2 : ¬ (45 : Int) < s.size := by omega
      clear hA hB
      go_enter Tryz.func98, Tryz.ntmps98
      go_wp2_with fail
      obtain ⟨W0, hW0⟩ : ∃ W0, W0 = (w.alloc (.cells #[.slice none 0 0] 122)).alloc (.cells #[.slice none 0 0, .string s] 135) := ⟨_, rfl⟩
      have HB0 : Hid (Below w.heap.size w W0) := by rw [hW0]; exact nwA (nwA (nwR w) _) _
      have HZ0 : Hid (W0.cell? ⟨w.heap.size, 0, none⟩ = some (.slice none 0 0) ∧ W0.frozen? ⟨w.heap.size, 0, none⟩ = false) := by rw [hW0]; show _ ∧ _; simp
      have HG0 : Hid (Going s W0 (w.heap.size + 1) W0 [] s (.slice none 0 0)) := by
        rw [hW0]
        refine ⟨⟨?_, World.ownsRow_nil _ _ _ _⟩, rfl, rfl, by simp, Below.refl _ _⟩
        have := heap_alloc_new (w.alloc (.cells #[.slice none 0 0] 122)) (.cells #[.slice none 0 0, .string s] 135)
        simpa using this
      rw [← hW0]
      clear hW0
      go_loopw [3] (fun e wr => e = .int .i64 0 ∧ ∃ acc rest v, Going s W0 (w.heap.size + 1) wr acc rest v) (fun _ wr => restLen (w.heap.size + 1) wr)
      case atStart => exact ⟨rfl, _, _, _, HG0.out⟩
      case round =>
        obtain ⟨rfl, acc, rest, v, hG⟩ := hrel
        have HG : Hid (Going s W0 (w.heap.size + 1) wr acc rest v) := hG
        obtain ⟨c0, c1⟩ := cells_of hG.rd
        have HZ : Hid (wr.cell? ⟨w.heap.size, 0, none⟩ = some (.slice none 0 0) ∧ wr.frozen? ⟨w.heap.size, 0, none⟩ = false) := ⟨(hG.be.cell (p := ⟨w.heap.size, 0, none⟩) (Nat.lt_succ_self _)).trans HZ0.out.1, (hG.be.frozen (p := ⟨w.heap.size, 0, none⟩) (Nat.lt_succ_self _)).trans HZ0.out.2⟩
        have HBW : Hid (Below w.heap.size w wr) := HB0.out.trans (hG.be.mono (Nat.le_succ _))
        have HL : Hid (acc.length ≤ 45 ∧ rest.size ≤ 45 ∧ (flN acc).length ≤ 45) := by
          have q1 := flN_len2 hG.nm
          have q2 := congrArg List.length hG.tx
          rw [List.length_append, ls_size, ls_size] at q2
          exact ⟨by omega, by omega, by omega⟩
        clear hG
        by_cases hr0 : rest.size = 0
        · have b3 := nil_yes hr0
          have HD : Hid (pathN s = (if fitB acc = true then some acc else none)) := HG.out.done h1 h2 hr0 HP.out
          have HO : Hid (OwnStrs wr (w.heap.size + 1) v acc) := HG.out.rd.own.le (by omega)
          obtain ⟨a, cap, rfl, hst⟩ := HG.out.rd.own.at
          have HST : Hid (StrsAt wr a acc) := hst
          have HC0 : Hid (wr.cell? ⟨w.heap.size + 1, 0, none⟩ = some (.slice a acc.length cap)) := c0
          clear hst HG
          go_wp2_with fail
          refine (fits_any (w.heap.size + 1) a acc cap _ HC0.out HST.out (by have := HL.out.1; omega) (by have := HL.out.2.2; omega)).mono ?_
          rintro e w1 ⟨rfl, hb1⟩
          have hlt : w.heap.size + 1 < wr.heap.size := block_lt_of_cell c0
          have HZ1 : Hid (w1.cell? ⟨w.heap.size, 0, none⟩ = some (.slice none 0 0) ∧ w1.frozen? ⟨w.heap.size, 0, none⟩ = false) := ⟨(hb1.cell (p := ⟨w.heap.size, 0, none⟩) (by show w.heap.size < _; omega)).trans HZ.out.1, (hb1.frozen (p := ⟨w.heap.size, 0, none⟩) (by show w.heap.size < _; omega)).trans HZ.out.2⟩
          have HC1 : Hid (w1.cell? ⟨w.heap.size + 1, 0, none⟩ = some (.slice a acc.length cap)) := (hb1.cell (p := ⟨w.heap.size + 1, 0, none⟩) hlt).trans HC0.out
          have HO1 : Hid (OwnStrs w1 (w.heap.size + 1) (.slice a acc.length cap) acc) := HO.out.below hb1
          have HBW1 : Hid (Below w.heap.size w w1) := HBW.out.trans (hb1.mono (by omega))
          clear hb1 HZ HC0 HO HBW HST c0 c1
          obtain ⟨z0, z1⟩ := HZ1.out
          have z3 := HC1.out
          cases hf : fitB acc
          · have HN : Hid (pathN s = none) := by show _ = _; rw [HD.out, hf]; rfl
            go_wp2_with fail
            have z2 := cell_set z0 (.slice none 0 0)
            exact bodyPost_ret (v := .tuple #[.agg #[.slice none 0 0], .int .i64 1]) (by simp [results, Tryz.results98, go_sem, z2]) rfl ⟨.inr ⟨HN.out, rfl⟩, HBW1.out.setCell (p := ⟨w.heap.size, 0, none⟩) (Nat.le_refl _) _⟩
          · have HY : Hid (pathN s = some acc) := by show _ = _; rw [HD.out, hf]; rfl
            go_wp2_with fail
            have z2 := cell_set z0 (.slice a acc.length cap)
            exact bodyPost_ret (v := .tuple #[.agg #[.slice a acc.length cap], .int .i64 0]) (by simp [results, Tryz.results98, go_sem, z2]) rfl ⟨.inl ⟨acc, _, HY.out, rfl, (own_set HO1.out 0 (Nat.lt_succ_self _) _).le (Nat.le_succ _)⟩, HBW1.out.setCell (p := ⟨w.heap.size, 0, none⟩) (Nat.le_refl _) _⟩
        · have b3 := nil_no hr0
          cases hp : Lib.hasPrefix (ls rest) [47]
          · have HN : Hid (pathN s = none) := by show _ = _; rw [HP.out, HG.out.none1 hr0 hp]; rfl
            go_wp2_with fail
            refine (next_no1 _ acc rest v _ HG.out.rd hp).mono ?_
            rintro e w' ⟨rfl, rfl⟩
            obtain ⟨z0, z1⟩ := HZ.out
            go_wp2_with fail
            have z2 := cell_set z0 (.slice none 0 0)
            exact bodyPost_ret (v := .tuple #[.agg #[.slice none 0 0], .int .i64 1]) (by simp [results, Tryz.results98, go_sem, z2]) rfl ⟨.inr ⟨HN.out, rfl⟩, HBW.out.setCell (p := ⟨w.heap.size, 0, none⟩) (Nat.le_refl _) _⟩
          · obtain ⟨r, hr⟩ := prefix_yes hp
            cases hn : nmL (twL r)
            · have HN : Hid (pathN s = none) := by show _ = _; rw [HP.out, HG.out.none2 hr hn]; rfl
              have HR : Hid (ls rest = 47 :: r) := hr
              have hrl : r.length ≤ 4000 := by have := congrArg List.length hr; rw [ls_size, List.length_cons] at this; have := HL.out.2.1; omega
              clear hr hp
              go_wp2_with fail
              refine (next_no2 _ acc rest v r _ HG.out.rd HR.out hrl hn).mono ?_
              rintro e w' ⟨rfl, rfl⟩
              obtain ⟨z0, z1⟩ := HZ.out
              go_wp2_with fail
              have z2 := cell_set z0 (.slice none 0 0)
              exact bodyPost_ret (v := .tuple #[.agg #[.slice none 0 0], .int .i64 1]) (by simp [results, Tryz.results98, go_sem, z2]) rfl ⟨.inr ⟨HN.out, rfl⟩, HBW.out.setCell (p := ⟨w.heap.size, 0, none⟩) (Nat.le_refl _) _⟩
            · have HR : Hid (ls rest = 47 :: r) := hr
              have hrl : r.length ≤ 4000 := by have := congrArg List.length hr; rw [ls_size, List.length_cons] at this; have := HL.out.2.1; omega
              have HD : Hid ((bs (dwL r)).size < rest.size) := by
                show _ < _
                have q := congrArg List.length (tw_dw r)
                rw [List.length_append] at q
                rw [bs_size, ← ls_size rest, hr, List.length_cons]; omega
              clear hr hp
              go_wp2_with fail
              refine (next_yes _ acc rest v r _ HG.out.rd HR.out hrl (by have := HL.out.1; omega) hn).mono ?_
              rintro e w2 ⟨rfl, ⟨v2, hv2⟩, hb2⟩
              have HG2 : Hid (Going s W0 (w.heap.size + 1) w2 (acc ++ [bs (twL r)]) (bs (dwL r)) v2) := HG.out.step HR.out hn hv2 hb2
              clear hv2 hb2
              go_wp2_with fail
              go_roundw
              case rel => exact ⟨rfl, _, _, _, HG2.out⟩
              case measure =>
                rw [restLen_is HG2.out.rd, restLen_is HG.out.rd]; exact HD.out

end Go.Proofs.YtdpighcaieajjaaGreat
