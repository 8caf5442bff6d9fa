/- The law BodyGrows walked. -/
import Derived.Test.YtifbnojkjbjngaaDoorWakes
namespace Go.Proofs.YtifbnojkjbjngaaDoor
open Go.RowKit

def LawOk (F : Nat) : Prop := ∀ (v : Value) (d : AskD) (w : World), AskVal w v d → Calls Tryd.prog F #[v] w fun e w' => e = .returned (.bool true) ∧ Below w.heap.size w w'

theorem size_le_wgt {xs : List ByteArray} {x : ByteArray} (h : x ∈ xs) : x.size ≤ (cat xs).length := by
  induction xs with
  | nil => simp at h
  | cons y ys ih =>
    rw [cat_cons, List.length_append, ls_size]
    rcases List.mem_cons.1 h with rfl | h
    · omega
    · have := ih h; omega
theorem mem_getD {xs : List ByteArray} {k : Nat} (h : k < xs.length) : xs.getD k ByteArray.empty ∈ xs := by simp [List.getD, h]
theorem light_s {d : AskD} (h : Light d) : ∀ x ∈ d.s, x.size ≤ 4000 := by
  intro x hx
  have := size_le_wgt hx
  unfold Light wgt at h; omega

theorem grown_yes (A t : ByteArray) (h : A.size + t.size ≤ 200) : written A.size (pcs (ls A)) A.size t = (((A ++ t).size : Int), pcs (ls (A ++ t)), frs A.size (ls t), 0) := by
  have hA : (ls A).length = A.size := ls_size A
  have hm : mayB (A.size : Int) (pcs (ls A)) = true := by rw [← hA]; exact may_pcs (by omega)
  have ht : tx (A.size : Int) (pcs (ls A)) = ls A := by rw [← hA]; exact tx_pcs _
  have hn : numB (A.size : Int) (A.size : Int) = true := by unfold numB; simp
  have hs : (A ++ t).size = A.size + t.size := by rw [bs_app, bs_size, List.length_append, ls_size, ls_size]
  unfold written
  rw [hm, hn, if_pos (by rfl), if_pos (by omega), ht, Int.toNat_natCast, hs]
  have hw : wrt (ls A) A.size (ls t) = ls (A ++ t) := by
    unfold wrt
    rw [List.take_of_length_le (by omega), List.drop_eq_nil_of_le (by omega), List.append_nil, bs_app, ls_bs]
  rw [hw]
  congr 1
  omega
theorem grown_no (A t : ByteArray) (hA2 : A.size ≤ 200) (h : ¬ A.size + t.size ≤ 200) : written A.size (pcs (ls A)) A.size t = (0, [], [], 2) := by
  have hA : (ls A).length = A.size := ls_size A
  have hm : mayB (A.size : Int) (pcs (ls A)) = true := by rw [← hA]; exact may_pcs (by omega)
  have hn : numB (A.size : Int) (A.size : Int) = true := by unfold numB; simp
  unfold written
  rw [hm, hn, if_pos (by rfl), if_neg (by omega)]
theorem shrunk (A : ByteArray) (m : Nat) (h : A.size ≤ 200) (hm : m ≤ A.size) : sized A.size (pcs (ls A)) m = ((m : Int), pcs ((ls A).take m), frz (ls A) m, 0) := by
  have hA : (ls A).length = A.size := ls_size A
  have h1 : mayB (A.size : Int) (pcs (ls A)) = true := by rw [← hA]; exact may_pcs (by omega)
  have ht : tx (A.size : Int) (pcs (ls A)) = ls A := by rw [← hA]; exact tx_pcs _
  unfold sized
  rw [h1, decide_eq_true (by omega), if_pos (by rfl), if_pos (by omega), ht, Int.toNat_natCast]
  unfold siz
  rw [show m - (ls A).length = 0 from by omega]
  simp [zs]
theorem pcs_small {l : List UInt8} (h : l.length ≤ 200) : (pcs l).length ≤ maxLen := by rw [pcs_len]; unfold many maxLen; omega
theorem gbsize (A t : ByteArray) : (A ++ t).size = A.size + t.size := by rw [bs_app, bs_size, List.length_append, ls_size, ls_size]

def GrowR (A : ByteArray) (v : Value) (wr : World) : Prop := ∃ a c, v = .slice a (pcs (ls A)).length c ∧ StrsAt wr a (pcs (ls A)) ∧ (pcs (ls A)).length ≤ c

set_option maxRecDepth 100000 in
set_option maxHeartbeats 4000000 in
theorem grows_walk : LawOk 7 := by
  intro v d w hv
  have HV : Hid (AskVal w v d) := hv
  obtain ⟨aS, cS, aL, cL, aN, cN, rfl, ⟨hS, hcS, hzS⟩, _, _⟩ := hv
  have HS : Hid (StrsAt w aS d.s) := hS
  have hlS := hzS.1
  clear hS hcS hzS
  obtain ⟨S, L, N⟩ := d
  simp only at *
  go_enter Tryd.func7, Tryd.ntmps7
  go_wp2_with fail
  have hb0 := nwA (nwR w) (.cells #[.slice aS S.length cS, .slice aL L.length cL, .slice aN N.length cN] 26)
  refine (heavy_any _ ⟨S, L, N⟩ _ (HV.out.below hb0)).mono ?_
  rintro e w1 ⟨q, rfl, hb1, hq⟩
  have c0 : w1.cell? ⟨w.heap.size, 0, none⟩ = some (.slice aS S.length cS) := (hb1.cell (p := ⟨w.heap.size, 0, none⟩) (by simp)).trans (by simp)
  have HB1 : Hid (Below w.heap.size w w1) := nwT hb0 hb1
  clear hb0 hb1 HV
  cases q
  case true =>
    go_wp2_with fail
    go_ret
    exact ⟨rfl, HB1.out⟩
  case false =>
    have HLT : Hid (∀ x ∈ S, x.size ≤ 4000) := light_s (hq rfl)
    have HS1 : Hid (StrsAt w1 aS S) := HS.out.below HB1.out
    clear hq HS
    have HC0 : Hid (w1.cell? ⟨w.heap.size, 0, none⟩ = some (.slice aS S.length cS)) := c0
    clear c0
    generalize hgB : w.heap.size = gB at HC0 ⊢
    go_wp2_with fail
    go_loopw [3, 4, 5, 6] (fun n t l i wr => ∃ (k : Nat) (A : ByteArray), k ≤ S.length ∧ k ≤ 8 ∧ A.size ≤ 200 ∧ i = .int .i64 k ∧ t = .string A ∧ n = .int .i64 A.size ∧ GrowR A l wr ∧ Below w1.heap.size w1 wr)
      (fun _ _ _ i _ => S.length - (intOf i).toNat)
    case atStart => exact ⟨0, ⟨#[]⟩, by omega, by omega, by decide, rfl, rfl, rfl, ⟨none, 0, by rw [show pcs (ls ⟨#[]⟩) = [] from pcs_nil]; rfl, .inl pcs_nil, by rw [show pcs (ls ⟨#[]⟩) = [] from pcs_nil]; exact Nat.le_refl _⟩, nwR w1⟩
    case round =>
      obtain ⟨k, A, hk, hk8, hA, rfl, rfl, rfl, hG, hb⟩ := hrel
      obtain ⟨al, cl, rfl, hst, hcap⟩ := hG
      have HST : Hid (StrsAt wr al (pcs (ls A))) := hst
      have c0 : wr.cell? ⟨gB, 0, none⟩ = some (.slice aS S.length cS) := (hb.cell (p := ⟨gB, 0, none⟩) (block_lt_of_cell HC0.out)).trans HC0.out
      clear hst
      by_cases hk1 : k < S.length ∧ k < 8
      · obtain ⟨hk2, hk3⟩ := hk1
        have hk2i : (k : Int) < (S.length : Int) := by omega
        obtain ⟨b1, o1, rfl, hc1⟩ := HS1.out.cell hk2
        have hc2 : wr.cell? ⟨b1, o1 + k, none⟩ = some (.string (S.getD k ByteArray.empty)) := (hb.cell (p := ⟨b1, o1 + k, none⟩) (block_lt_of_cell hc1)).trans hc1
        have ht4 := HLT.out _ (mem_getD hk2)
        generalize S.getD k ByteArray.empty = t at hc2 ht4
        clear hc1
        go_wp2_with fail
        refine (write_any al (pcs (ls A)) cl A.size A.size t _ HST.out hcap (pcs_small (by rw [ls_size]; exact hA)) (by omega)).mono ?_
        rintro e w2 ⟨⟨v1, v2, rfl, ho1, ho2⟩, hb2⟩
        have hb3 := nwT hb hb2
        by_cases hfit : A.size + t.size ≤ 200
        · rw [grown_yes A t hfit] at ho1 ⊢
          simp only at ho1 ⊢
          obtain ⟨a2, c2, rfl, hst2, hcap2⟩ := cap_of ho1
          have HST2 : Hid (StrsAt w2 a2 (pcs (ls (A ++ t)))) := hst2
          have hcp := hcap2.1
          have hA2 : (A ++ t).size ≤ 200 := by rw [gbsize]; exact hfit
          have hc3 : w2.cell? ⟨b1, o1 + k, none⟩ = some (.string t) := (hb2.cell (p := ⟨b1, o1 + k, none⟩) (block_lt_of_cell hc2)).trans hc2
          have c3 : w2.cell? ⟨gB, 0, none⟩ = some (.slice (some ⟨b1, o1, none⟩) S.length cS) := (hb2.cell (p := ⟨gB, 0, none⟩) (block_lt_of_cell c0)).trans c0
          have hfi : ¬ 9223372036854775807 < A.size + t.size := by omega
          clear ho1 ho2 hst2 hcap2 hb2 HST
          obtain ⟨A2, hAA⟩ : ∃ A2, A ++ t = A2 := ⟨_, rfl⟩
          rw [hAA] at HST2 hcp hA2 ⊢
          go_wp2_with (go_at_call 11; refine (num_any _ _).mono ?_; rintro e w' ⟨rfl, rfl⟩)
          refine (bjoin_pcs a2 (ls A2) c2 _ _ _ HST2.out rfl hcp (by rw [ls_size]; exact hA2) (by rw [ls_size])).mono ?_
          rintro e w3 ⟨rfl, hb4⟩
          rw [bs_ls]
          have hb5 := nwT hb3 hb4
          have HST3 : Hid (StrsAt w3 a2 (pcs (ls A2))) := HST2.out.below hb4
          clear hb4 HST2 hc3 c3 hc2 c0
          go_wp2_with (go_at_call 11; refine (num_any _ _).mono ?_; rintro e w' ⟨rfl, rfl⟩)
          go_roundw
          case rel => exact ⟨k + 1, A2, by omega, by omega, hA2, by go_num, rfl, rfl, ⟨a2, c2, rfl, HST3.out, hcp⟩, hb5⟩
          case measure => simp [intOf]; omega
        · rw [grown_no A t hA hfit]
          simp only
          clear ho1 ho2
          have HST2 : Hid (StrsAt w2 al (pcs (ls A))) := HST.out.below hb2
          go_wp2_with (go_at_call 11; refine (num_any _ _).mono ?_; rintro e w' ⟨rfl, rfl⟩)
          go_roundw
          case rel => exact ⟨k + 1, A, by omega, by omega, hA, by go_num, rfl, rfl, ⟨al, cl, rfl, HST2.out, hcap⟩, hb3⟩
          case measure => simp [intOf]; omega
      · have HBW := nwT HB1.out hb
        have hpl := pcs_small (l := ls A) (by rw [ls_size]; exact hA)
        clear HC0 HS1 HLT hb
        by_cases hk2 : k < S.length
        · have hk2i : (k : Int) < (S.length : Int) := by omega
          have hk3 : ¬ (k : Int) < 8 := by omega
          clear hk1
          go_wp2_with fail
          go_loopw [13] (fun i wr2 => ∃ (m : Int), i = .int .i64 m ∧ m ≤ (A.size : Int) ∧ -7 ≤ m ∧ Below wr.heap.size wr wr2) (fun i _ => (intOf i + 7).toNat)
          case atStart => exact ⟨A.size, rfl, by omega, by omega, nwR _⟩
          case round =>
            obtain ⟨m, rfl, hm1, hm2, hbm⟩ := hrel
            by_cases hm0 : 0 ≤ m
            · obtain ⟨j, rfl⟩ : ∃ j : Nat, m = j := ⟨m.toNat, by omega⟩
              have HSTm := HST.out.below hbm
              go_wp2_with fail
              refine (size_any al (pcs (ls A)) cl A.size j _ HSTm hcap hpl).mono ?_
              rintro e w2 ⟨⟨v1, v2, rfl, ho1, ho2⟩, hb2⟩
              rw [shrunk A j hA (by omega)] at ho1 ho2 ⊢
              simp only at ho1 ho2 ⊢
              obtain ⟨a2, c2, rfl, hst2, hcap2⟩ := cap_of ho1
              obtain ⟨a3, c3, rfl, _⟩ := OwnInts.at ho2
              have hbm2 := nwT hbm hb2
              have hjl : ((ls A).take j).length = j := by rw [List.length_take, ls_size]; omega
              have HST2 : Hid (StrsAt w2 a2 (pcs ((ls A).take j))) := hst2
              have hcp := hcap2.1
              have HTK : Hid (A.extract 0 j = bs ((ls A).take j)) := ext_left A j
              have HJL : Hid (((ls A).take j).length = j) := hjl
              clear ho1 ho2 hst2 hcap2 hb2 HSTm hjl
              generalize (ls A).take j = TK at HST2 hcp HTK HJL
              have hjA : (j : Int) ≤ (A.size : Int) := hm1
              go_wp2_with fail
              refine (bjoin_pcs a2 TK c2 _ _ _ HST2.out rfl hcp (by rw [HJL.out]; omega) (by rw [HJL.out])).mono ?_
              rintro e w3 ⟨rfl, hb4⟩
              have hbm3 := nwT hbm2 hb4
              rw [← HTK.out]
              go_wp2_with (go_at_call 11; refine (num_any _ _).mono ?_; rintro e w' ⟨rfl, rfl⟩)
              go_roundw
              case rel => exact ⟨(j : Int) - 7, by go_num, by omega, by omega, hbm3⟩
              case measure => simp [intOf]; omega
            · go_wp2_with fail
              refine (wakes_any _).mono ?_
              rintro e w2 ⟨rfl, hb2⟩
              go_wp2_with fail
              go_ret
              exact ⟨rfl, nwT (nwT HBW hbm) hb2⟩
        · have hk2i : ¬ (k : Int) < (S.length : Int) := by omega
          clear hk1
          go_wp2_with fail
          go_loopw [13] (fun i wr2 => ∃ (m : Int), i = .int .i64 m ∧ m ≤ (A.size : Int) ∧ -7 ≤ m ∧ Below wr.heap.size wr wr2) (fun i _ => (intOf i + 7).toNat)
          case atStart => exact ⟨A.size, rfl, by omega, by omega, nwR _⟩
          case round =>
            obtain ⟨m, rfl, hm1, hm2, hbm⟩ := hrel
            by_cases hm0 : 0 ≤ m
            · obtain ⟨j, rfl⟩ : ∃ j : Nat, m = j := ⟨m.toNat, by omega⟩
              have HSTm := HST.out.below hbm
              go_wp2_with fail
              refine (size_any al (pcs (ls A)) cl A.size j _ HSTm hcap hpl).mono ?_
              rintro e w2 ⟨⟨v1, v2, rfl, ho1, ho2⟩, hb2⟩
              rw [shrunk A j hA (by omega)] at ho1 ho2 ⊢
              simp only at ho1 ho2 ⊢
              obtain ⟨a2, c2, rfl, hst2, hcap2⟩ := cap_of ho1
              obtain ⟨a3, c3, rfl, _⟩ := OwnInts.at ho2
              have hbm2 := nwT hbm hb2
              have hjl : ((ls A).take j).length = j := by rw [List.length_take, ls_size]; omega
              have HST2 : Hid (StrsAt w2 a2 (pcs ((ls A).take j))) := hst2
              have hcp := hcap2.1
              have HTK : Hid (A.extract 0 j = bs ((ls A).take j)) := ext_left A j
              have HJL : Hid (((ls A).take j).length = j) := hjl
              clear ho1 ho2 hst2 hcap2 hb2 HSTm hjl
              generalize (ls A).take j = TK at HST2 hcp HTK HJL
              have hjA : (j : Int) ≤ (A.size : Int) := hm1
              go_wp2_with fail
              refine (bjoin_pcs a2 TK c2 _ _ _ HST2.out rfl hcp (by rw [HJL.out]; omega) (by rw [HJL.out])).mono ?_
              rintro e w3 ⟨rfl, hb4⟩
              have hbm3 := nwT hbm2 hb4
              rw [← HTK.out]
              go_wp2_with (go_at_call 11; refine (num_any _ _).mono ?_; rintro e w' ⟨rfl, rfl⟩)
              go_roundw
              case rel => exact ⟨(j : Int) - 7, by go_num, by omega, by omega, hbm3⟩
              case measure => simp [intOf]; omega
            · go_wp2_with fail
              refine (wakes_any _).mono ?_
              rintro e w2 ⟨rfl, hb2⟩
              go_wp2_with fail
              go_ret
              exact ⟨rfl, nwT (nwT HBW hbm) hb2⟩

end Go.Proofs.YtifbnojkjbjngaaDoor
