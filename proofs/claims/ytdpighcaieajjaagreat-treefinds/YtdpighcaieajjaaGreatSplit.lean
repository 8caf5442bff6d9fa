/- A path's names by the page. -/
import Derived.Test.YtdpighcaieajjaaGreatFace
import Derived.Test.YtdpighcaieajjaaGreatName
namespace Go.Proofs.YtdpighcaieajjaaGreat
open Go.RowKit

def RSplitIs (s : ByteArray) (w : World) (e : Ending) (w' : World) : Prop :=
  (∃ xs v, pathN s = some xs ∧ e = .returned (.tuple #[v, .bool true]) ∧ OwnStrs w' w.heap.size v xs) ∨
  (pathN s = none ∧ ∃ a n c, e = .returned (.tuple #[.slice a n c, .bool false]))

theorem head_cons {s : ByteArray} (h : ¬ s.size = 0) : ∃ t, ls s = s[0] :: t := by
  cases hl : ls s with
  | nil => exact absurd (by rw [← ls_size, hl]; rfl) h
  | cons c t =>
    refine ⟨t, ?_⟩
    have : s[0] = c := by
      have h0 : (ls s)[0]? = some c := by rw [hl]; rfl
      have h1 : (ls s)[0]? = some s[0] := by
        rw [List.getElem?_eq_getElem (by rw [ls_size]; omega)]; rfl
      rw [h0] at h1; injection h1 with h1; exact h1.symm
    rw [this]

theorem ls_get {s : ByteArray} {i : Nat} (h : i < s.size) : (ls s)[i]'(by rw [ls_size]; exact h) = s[i] := rfl
theorem cut_ext (s : ByteArray) (f i : Nat) : ls (s.extract f i) = cut (ls s) f i := by
  show (s.extract f i).data.toList = _
  rw [← Lib.toList_data, Lib.extract_toList]; rfl

/-- what holds while the page reads -/
structure Pg (s : ByteArray) (acc : List ByteArray) (f i : Nat) : Prop where
  sp : spR [] (ls s) = spI (acc.map ls) f i (ls s)
  f1 : 1 ≤ f
  fi : f ≤ i
  il : i ≤ s.size + 1
  al : acc.length ≤ f
theorem u8_47 {c : UInt8} : ((c.toNat : Int) = 47) ↔ c = 47 := by
  rw [← UInt8.toNat_inj]; simp; omega

theorem Pg.other {s : ByteArray} {acc : List ByteArray} {f i : Nat} (h : Pg s acc f i) (hi : i < s.size) (hc : ¬ (s[i].toNat : Int) = 47) : Pg s acc f (i + 1) := by
  refine ⟨?_, h.f1, Nat.le_succ_of_le h.fi, by omega, h.al⟩
  rw [h.sp]
  exact spI_other h.fi (by rw [ls_size]; exact hi) (by rw [ls_get hi]; intro e; exact hc (u8_47.2 e))
theorem Pg.slash {s : ByteArray} {acc : List ByteArray} {f i : Nat} (h : Pg s acc f i) (hi : i < s.size) (hc : (s[i].toNat : Int) = 47) : (nm (s.extract f i) = false → spR [] (ls s) = none) ∧ (nm (s.extract f i) = true → Pg s (acc ++ [s.extract f i]) (i + 1) (i + 1)) := by
  have e := spI_slash (acc := acc.map ls) (f := f) (i := i) (l := ls s) (by rw [ls_size]; exact hi) (by rw [ls_get hi]; exact u8_47.1 hc)
  rw [← cut_ext] at e
  have hn : nm (s.extract f i) = nmL (ls (s.extract f i)) := rfl
  constructor
  · intro h0
    rw [h.sp, e, ← hn, h0]; rfl
  · intro h0
    have := h.f1; have := h.fi; have := h.al
    refine ⟨?_, by omega, Nat.le_refl _, by omega, by rw [List.length_append, List.length_singleton]; omega⟩
    rw [h.sp, e, ← hn, h0, List.map_append]; rfl
theorem Pg.last {s : ByteArray} {acc : List ByteArray} {f : Nat} (h : Pg s acc f s.size) : (nm (s.extract f s.size) = false → spR [] (ls s) = none) ∧ (nm (s.extract f s.size) = true → Pg s (acc ++ [s.extract f s.size]) (s.size + 1) (s.size + 1)) := by
  have e := spI_end (acc := acc.map ls) (f := f) (l := ls s)
  rw [ls_size, ← cut_ext] at e
  have hn : nm (s.extract f s.size) = nmL (ls (s.extract f s.size)) := rfl
  constructor
  · intro h0
    rw [h.sp, e, ← hn, h0]; rfl
  · intro h0
    have := h.f1; have := h.fi; have := h.al
    refine ⟨?_, by omega, Nat.le_refl _, by omega, by rw [List.length_append, List.length_singleton]; omega⟩
    rw [h.sp, e, ← hn, h0, List.map_append]; rfl
theorem Pg.done {s : ByteArray} {acc : List ByteArray} {f i : Nat} (h : Pg s acc f i) (hi : s.size < i) (HP : pathN s = (few (spR [] (ls s))).map (·.map bs)) : pathN s = (if acc.length ≤ 5 then some acc else none) := by
  rw [HP, h.sp, spI_out (by rw [ls_size]; exact hi)]
  simp only [few, Option.filter]
  by_cases h5 : acc.length ≤ 5
  · simp [h5, List.map_map]
    exact (List.map_congr_left fun x _ => bs_ls x).trans (List.map_id acc)
  · simp [h5]

theorem cell_one (w : World) (x : Value) (t : TypeId) : ∀ j u, [x][j]? = some u → (w.alloc (.cells #[x] t)).cell? ((⟨w.heap.size, 0, none⟩ : Addr).add j) = some u := cell_one' w x t

set_option maxRecDepth 100000 in
set_option maxHeartbeats 4000000 in
theorem rsplit_any (s : ByteArray) (w : World) :
    Calls Tryz.prog 15 #[.string s] w fun e w' => RSplitIs s w e w' ∧ Below w.heap.size w w' := by
  by_cases hA : s.toList = [47]
  · have HP : Hid (pathN s = some []) := pathN_root hA
    have hA' : (s.toList == [47]) = true := by simpa using hA
    go_enter Tryz.func15, Tryz.ntmps15
    go_wp2_with fail
    go_ret2
    exact ⟨.inl ⟨[], _, HP.out, rfl, World.ownsRow_nil _ _ _ _⟩, nwR w⟩
  · have hA' : (s.toList == [47]) = false := by simpa using hA
    by_cases hB : s.size = 0 ∨ 45 < s.size
    · have HP : Hid (pathN s = none) := pathN_bad hA hB
      rcases hB with hB | hB
      · go_enter Tryz.func15, Tryz.ntmps15
        go_wp2_with fail
        go_ret2
        exact ⟨.inr ⟨HP.out, _, _, _, rfl⟩, nwR w⟩
      · have b1 : ¬ s.size = 0 := by omega
        have b2 : (45 : Int) < s.size := by omega
        go_enter Tryz.func15, Tryz.ntmps15
        go_wp2_with fail
        go_ret2
        exact ⟨.inr ⟨HP.out, _, _, _, rfl⟩, nwR w⟩
    · have h1 : ¬ s.size = 0 := fun h => hB (.inl h)
      have h2 : ¬ 45 < s.size := fun h => hB (.inr h)
      have HP : Hid (pathN s = (few (spR [] (ls s))).map (·.map bs)) := pathN_go hA h1 h2
      obtain ⟨t, ht⟩ := head_cons h1
      have b2 : ¬ (45 : Int) < s.size := by omega
      have b3 : ((s.size : Int) == 0) = false := beq_eq_false_iff_ne.2 (by omega)
      have b4 : 0 < s.size := by omega
      clear hA hB
      by_cases hc : (s[0].toNat : Int) = 47
      · have HPg : Hid (Pg s [] 1 1) := by
          refine ⟨?_, Nat.le_refl _, Nat.le_refl _, by omega, by simp⟩
          rw [ht, show s[0] = 47 from u8_47.1 hc]
          exact (spI_start t).symm
        obtain ⟨i0, hi, hz0, hz1, hz2⟩ := info_parts Tryz.info9
        clear ht
        go_enter Tryz.func15, Tryz.ntmps15
        go_wp2_with fail
        go_loopw [4, 5, 6] (fun l f i wr => ∃ (acc : List ByteArray) (fn n : Nat), Pg s acc fn n ∧ f = .int .i64 fn ∧ i = .int .i64 n ∧ OwnStrs wr w.heap.size l acc ∧ Below w.heap.size w wr)
          (fun _ _ i _ => s.size + 1 - (intOf i).toNat)
        case atStart => exact ⟨[], 1, 1, HPg.out, rfl, rfl, World.ownsRow_nil _ _ _ _, nwR w⟩
        case round =>
          obtain ⟨acc, f, i, hpg, rfl, rfl, hO, hb⟩ := hrel
          have HG : Hid (Pg s acc f i) := hpg
          have HO : Hid (OwnStrs wr w.heap.size u4 acc) := hO
          have g1 := hpg.f1
          have g2 := hpg.fi
          have g3 := hpg.il
          have g4 := hpg.al
          clear hpg hO
          by_cases hin : i ≤ s.size
          · have hini : (i : Int) ≤ (s.size : Int) := by omega
            have hfi : (f : Int) ≤ (i : Int) := by omega
            by_cases hie : i = s.size
            · subst hie
              have HL := HG.out.last
              have HL1 : Hid (nm (s.extract f s.size) = false → spR [] (ls s) = none) := HL.1
              have HL2 : Hid (nm (s.extract f s.size) = true → Pg s (acc ++ [s.extract f s.size]) (s.size + 1) (s.size + 1)) := HL.2
              clear HL HG
              generalize hX : s.extract f s.size = X at HL1 HL2
              have HX : Hid (s.extract f s.size = X) := hX
              clear hX
              cases hn : nm X
              · have HN : Hid (pathN s = none) := by show _ = _; rw [HP.out, HL1.out hn]; rfl
                go_wp2_with (go_at_call 49; rw [HX.out]; refine (name_any _ _).mono ?_; rintro e w' ⟨rfl, rfl⟩; rw [hn])
                go_ret2
                exact ⟨.inr ⟨HN.out, _, _, _, rfl⟩, hb⟩
              · have HNX : Hid (Pg s (acc ++ [X]) (s.size + 1) (s.size + 1)) := HL2.out hn
                have hsz : w.heap.size ≤ (wr.alloc (.cells #[.string (s.extract f s.size)] 9)).heap.size := (nwA hb _).size
                have hc3 : acc.length + 1 ≤ maxLen := by unfold maxLen; omega
                have hc4 : (acc.length + 1) * 16 ≤ 140737488355328 := by omega
                go_wp2_with (first
                  | (go_at_call 49; rw [HX.out]; refine (name_any _ _).mono ?_; rintro e w' ⟨rfl, rfl⟩; rw [hn])
                  | (at_builtin; refine wpList_append_own _ rfl (.tmp 44) (.tmp 49) 43 rfl w.heap.size 9 i0 (.string ⟨#[]⟩) 1 16 Tryz.underlying43 hi hz0 hz1 hz2 rfl (by decide) u4 acc.length (acc.map .string) rfl (World.ownsRow.alloc HO.out _) ⟨w'.heap.size, 0, none⟩ 1 1 [.string (s.extract f s.size)] rfl rfl (cell_one _ _ _) (by simp [Value.oneCell']) hc3 hc4 hsz ?_; intro v' w3 hown hgrow _; refine unstop ?_))
                unfold Stop
                have HB3 : Hid (Below w.heap.size w w3) := (nwA hb _).grown hgrow (nwA hb _).size (fun q e => (HO.out.lt q e).1)
                have HO3 : Hid (OwnStrs w3 w.heap.size v' (acc ++ [s.extract f s.size])) := OwnStrs.snoc hown
                clear hown hgrow
                go_wp2_with fail
                go_roundw
                case rel => exact ⟨acc ++ [s.extract f s.size], (s.size + 1), (s.size + 1), by rw [HX.out]; exact HNX.out, by go_num, by go_num, HO3.out, HB3.out⟩
                case measure => simp [intOf]
            · have hlt : i < s.size := by omega
              have hne : ((i : Int) == (s.size : Int)) = false := beq_eq_false_iff_ne.2 (by omega)
              by_cases hc9 : (s[i].toNat : Int) = 47
              · have HL := HG.out.slash hlt hc9
                have HL1 : Hid (nm (s.extract f i) = false → spR [] (ls s) = none) := HL.1
                have HL2 : Hid (nm (s.extract f i) = true → Pg s (acc ++ [s.extract f i]) (i + 1) (i + 1)) := HL.2
                clear HL HG
                generalize hX : s.extract f i = X at HL1 HL2
                have HX : Hid (s.extract f i = X) := hX
                clear hX
                cases hn : nm X
                · have HN : Hid (pathN s = none) := by show _ = _; rw [HP.out, HL1.out hn]; rfl
                  go_wp2_with (go_at_call 49; rw [HX.out]; refine (name_any _ _).mono ?_; rintro e w' ⟨rfl, rfl⟩; rw [hn])
                  go_ret2
                  exact ⟨.inr ⟨HN.out, _, _, _, rfl⟩, hb⟩
                · have HNX : Hid (Pg s (acc ++ [X]) (i + 1) (i + 1)) := HL2.out hn
                  have hsz : w.heap.size ≤ (wr.alloc (.cells #[.string (s.extract f i)] 9)).heap.size := (nwA hb _).size
                  have hc3 : acc.length + 1 ≤ maxLen := by unfold maxLen; omega
                  have hc4 : (acc.length + 1) * 16 ≤ 140737488355328 := by omega
                  go_wp2_with (first
                    | (go_at_call 49; rw [HX.out]; refine (name_any _ _).mono ?_; rintro e w' ⟨rfl, rfl⟩; rw [hn])
                    | (at_builtin; refine wpList_append_own _ rfl (.tmp 44) (.tmp 49) 43 rfl w.heap.size 9 i0 (.string ⟨#[]⟩) 1 16 Tryz.underlying43 hi hz0 hz1 hz2 rfl (by decide) u4 acc.length (acc.map .string) rfl (World.ownsRow.alloc HO.out _) ⟨w'.heap.size, 0, none⟩ 1 1 [.string (s.extract f i)] rfl rfl (cell_one _ _ _) (by simp [Value.oneCell']) hc3 hc4 hsz ?_; intro v' w3 hown hgrow _; refine unstop ?_))
                  unfold Stop
                  have HB3 : Hid (Below w.heap.size w w3) := (nwA hb _).grown hgrow (nwA hb _).size (fun q e => (HO.out.lt q e).1)
                  have HO3 : Hid (OwnStrs w3 w.heap.size v' (acc ++ [s.extract f i])) := OwnStrs.snoc hown
                  clear hown hgrow
                  go_wp2_with fail
                  go_roundw
                  case rel => exact ⟨acc ++ [s.extract f i], (i + 1), (i + 1), by rw [HX.out]; exact HNX.out, by go_num, by go_num, HO3.out, HB3.out⟩
                  case measure => simp [intOf]; omega
              · have HNX : Hid (Pg s acc f (i + 1)) := HG.out.other hlt hc9
                have hc8 : ((s[i].toNat : Int) == 47) = false := beq_eq_false_iff_ne.2 hc9
                go_wp2_with fail
                go_roundw
                case rel => exact ⟨acc, f, i + 1, HNX.out, rfl, by go_num, HO.out, hb⟩
                case measure => simp [intOf]; omega
          · have hini : ¬ (i : Int) ≤ (s.size : Int) := by omega
            have HD : Hid (pathN s = (if acc.length ≤ 5 then some acc else none)) := HG.out.done (by omega) HP.out
            have HO1 := HO.out
            obtain ⟨a, cap, rfl, _⟩ := HO1.at
            by_cases h5 : acc.length ≤ 5
            · have HY : Hid (pathN s = some acc) := by show _ = _; rw [HD.out, if_pos h5]
              have h5i : (acc.length : Int) ≤ 5 := by omega
              clear HO1
              go_wp2_with fail
              go_ret2
              exact ⟨.inl ⟨acc, _, HY.out, rfl, HO.out⟩, hb⟩
            · have HY : Hid (pathN s = none) := by show _ = _; rw [HD.out, if_neg h5]
              have h5i : ¬ (acc.length : Int) ≤ 5 := by omega
              clear HO1
              go_wp2_with fail
              go_ret2
              exact ⟨.inr ⟨HY.out, _, _, _, rfl⟩, hb⟩
      · have HN : Hid (pathN s = none) := by
          show _ = _
          rw [HP.out, ht]
          simp only [spR]
          rw [if_neg (fun e => hc (u8_47.2 e))]; rfl
        go_enter Tryz.func15, Tryz.ntmps15
        go_wp2_with fail
        go_ret2
        exact ⟨.inr ⟨HN.out, _, _, _, rfl⟩, nwR w⟩

end Go.Proofs.YtdpighcaieajjaaGreat
