/- The law SegMany walked. -/
import Derived.Test.YtpkgoagoceddoaaRefSegs
import Derived.Laws.AppendOwnNone
namespace Go.Proofs.Ytpkgoagoceddoaa
open Go.RowKit

def rowV (r : RowV) : Value := .slice r.1 r.2.2.length r.2.1
def OwnRows (w : World) (base : Nat) (v : Value) (rs : List RowV) : Prop := w.ownsRow base 27 1 v rs.length (rs.map rowV)
def GoodRows (w : World) (rs : List RowV) : Prop := ∀ r ∈ rs, SegsAt w r.1 r.2.2 ∧ r.2.2.length ≤ maxLen

theorem OwnRows.below {w w' : World} {base : Nat} {v : Value} {rs : List RowV} (h : OwnRows w base v rs) (hb : Below w.heap.size w w') : OwnRows w' base v rs :=
  h.kept (gbOf hb none) (by cases hv : v.ownBlock <;> simp)
theorem GoodRows.below {w w' : World} {rs : List RowV} (h : GoodRows w rs) (hb : Below w.heap.size w w') : GoodRows w' rs :=
  fun r hr => ⟨(h r hr).1.below hb (Nat.le_refl _), (h r hr).2⟩

theorem OwnRows.at {w : World} {base : Nat} {v : Value} {rs : List RowV} (h : OwnRows w base v rs) (hg : GoodRows w rs) : ∃ a cap, v = .slice a rs.length cap ∧ RowsAt w a rs := by
  have hh := h
  rcases h.2 with ⟨hv, hn⟩ | ⟨g, cap, cur, hv, hb, _, _⟩
  · refine ⟨none, 0, by rw [hv, hn], fun i hi => by omega⟩
  · refine ⟨_, cap, hv, fun i hi => ⟨g, 0, rfl, ?_, ?_, ?_⟩⟩
    · have := hh.cells (g := g) (by rw [hv]; rfl) i (rowV (rs.getD i row0)) (by simp [hi])
      rw [show (⟨g, 0, none⟩ : Addr).add i = ⟨g, 0 + i, none⟩ from by unfold Addr.add; split <;> simp_all] at this
      exact this
    · exact (hg _ (by simp [hi])).1
    · exact (hg _ (by simp [hi])).2

theorem Try.info27 : (Try.prog.info? 27).map (fun i => (i.zero, i.size, i.bytes)) = some (some (.slice none 0 0), 1, 24) := by kernel_rfl

theorem wpList_append_rows {P : Program} (w : World) {ops : Array Oper} {rest : List Oper} {o : Oper} {a : Act} {Q : Exit → Act → World → Prop} (hgd : o.guard = none) (s x : Operand) (t : TypeId)
    (ho : o.op = .call { callee := .builtin .append, args := #[s, x], argTypes := #[t, t] })
    (base : Nat) (e : TypeId) (i : TypeInfo) (z : Value) (size bytes : Nat) (ht : P.underlying t = some (.slice e)) (hi : P.info? e = some i) (hz : i.zero = some z)
    (hsize : i.size = size) (hby : i.bytes = bytes) (hzs : z.cells.size = size) (hsz : 0 < size)
    (v : Value) (n : Nat) (xs : List Value) (hs : a.eval s = v) (hown : w.ownsRow base e size v n xs)
    (u : Value) (base2 m : Nat) (news : List Value) (hx : a.eval x = u) (hu : w.ownsRow base2 e size u m news) (h1 : ∀ u ∈ news, u.oneCell' = true)
    (h63 : n + m ≤ maxLen) (hbytes : (n + m) * bytes ≤ 140737488355328) (hbase : base ≤ w.heap.size)
    (h : ∀ v' w', w'.ownsRow base e size v' (n + m) (xs ++ news) → w.grownBy w' v.ownBlock → wpList P ops Q rest (a.put o.dst v') w') : wpList P ops Q (o :: rest) a w := by
  have hu0 := hu
  rcases hu.2 with ⟨rfl, rfl⟩ | ⟨g, cap, cur, rfl, _, _⟩
  · have hnil : news = [] := by
      have := hu.1
      simpa using this
    subst hnil
    refine wpList_append_own_none hgd s x t ho base e i size ht hi v n xs hs hown hx ?_
    exact h v w (by simpa using hown) (gbRefl _ _)
  · refine wpList_append_own w hgd s x t ho base e i z size bytes ht hi hz hsize hby hzs hsz v n xs hs hown ⟨g, 0, none⟩ m cap news hx hu.1 (hu0.cells rfl) h1 h63 hbytes hbase ?_
    intro v' w' h2 h3 _
    exact h v' w' h2 h3

def fil (ls : List RowV) (k : Nat) : List RowV := (ls.take k).filter fun r => vOk r.2.2
theorem fil_yes {ls : List RowV} {k : Nat} (h : k < ls.length) (hv : vOk (ls.getD k row0).2.2 = true) : fil ls (k + 1) = fil ls k ++ [ls.getD k row0] := by
  rw [fil, take_snocD ls row0 k h, List.filter_append, List.filter_cons, if_pos hv]
  rfl
theorem fil_no {ls : List RowV} {k : Nat} (h : k < ls.length) (hv : vOk (ls.getD k row0).2.2 = false) : fil ls (k + 1) = fil ls k := by
  rw [fil, take_snocD ls row0 k h, List.filter_append, List.filter_cons, if_neg (by rw [hv]; decide)]
  simp [fil]
theorem fil_len (ls : List RowV) (k : Nat) : (fil ls k).length ≤ k := by
  have h1 := List.length_filter_le (fun r : RowV => vOk r.2.2) (ls.take k)
  have h2 := List.length_take_le k ls
  unfold fil; omega
theorem fil_ok (ls : List RowV) (k : Nat) : allOk (fil ls k) = true := by
  rw [allOk, List.all_eq_true]
  intro r hr
  exact (List.mem_filter.1 hr).2
theorem fil_good {w : World} {a : Option Addr} {ls : List RowV} (h : RowsAt w a ls) (k : Nat) : GoodRows w (fil ls k) := by
  intro r hr
  have hm := List.mem_of_mem_take (List.mem_filter.1 hr).1
  obtain ⟨i, hi, rfl⟩ := List.getElem_of_mem hm
  obtain ⟨_, _, _, _, h2, h3⟩ := h i hi
  have e : ls.getD i row0 = ls[i] := by simp [hi]
  rw [e] at h2 h3
  exact ⟨h2, h3⟩

def ones (rs : List RowV) (k : Nat) : List (Int × Int) := segsOf (memAny (rs.take k))
theorem ones_zero (rs : List RowV) : ones rs 0 = [] := segsOf_none (fun k _ => by simp [memAny])
theorem ones_step {rs : List RowV} (h : allOk rs = true) {k : Nat} (hk : k < rs.length) (a b : Option Addr) (c d : Nat) :
    allOk [(a, c, ones rs k), (b, d, (rs.getD k row0).2.2)] = true ∧ jset [(a, c, ones rs k), (b, d, (rs.getD k row0).2.2)] = ones rs (k + 1) := by
  have hv : vOk (rs.getD k row0).2.2 = true := by
    rw [allOk, List.all_eq_true] at h
    exact h _ (by simp [hk])
  have hok : allOk [(a, c, ones rs k), (b, d, (rs.getD k row0).2.2)] = true := by
    rw [allOk_two]
    simp only [hv, ones, (segsOf_ok _).1]; rfl
  refine ⟨hok, ?_⟩
  rw [jset, hok]
  simp only [if_true]
  rw [ones]
  refine segsOf_congr (fun q hq => ?_)
  rw [memAny_two, memAny_take rs k q hk]
  simp only [(segsOf_ok _).2 q, hq, decide_true, Bool.true_and]
theorem ones_all {rs : List RowV} (h : allOk rs = true) : ones rs rs.length = jset rs := by rw [ones, jset, h, List.take_length]; rfl
theorem jset_twice {rs : List RowV} (h : allOk rs = true) : allOk (rs ++ rs) = true ∧ jset (rs ++ rs) = jset rs := by
  have h2 : allOk (rs ++ rs) = true := by
    simp only [allOk, List.all_append, Bool.and_eq_true] at h ⊢
    exact ⟨h, h⟩
  refine ⟨h2, ?_⟩
  rw [jset, jset, h, h2]
  simp only [if_true]
  exact segsOf_congr (fun q _ => by simp [memAny])

theorem OwnRows.snoc {w : World} {base : Nat} {v : Value} {rs : List RowV} {r : RowV} (h : w.ownsRow base 27 1 v (rs.length + 1) (rs.map rowV ++ [rowV r])) : OwnRows w base v (rs ++ [r]) := by
  unfold OwnRows
  have e : (rs ++ [r]).length = rs.length + 1 := by simp
  rw [e, List.map_append]
  exact h

theorem unstop {p : Prop} (h : Stop p) : p := h

theorem rows_one (rs : List RowV) : ∀ u ∈ rs.map rowV, u.oneCell' = true := by
  intro u hu
  obtain ⟨r, _, rfl⟩ := List.mem_map.1 hu
  rfl

theorem OwnRows.kept {w w' : World} {base : Nat} {v : Value} {rs : List RowV} {row : Option Nat} (h : OwnRows w base v rs) (hg : w.grownBy w' row) (hr : ∀ k, row = some k → w.heap.size ≤ k) : OwnRows w' base v rs := by
  refine World.ownsRow.kept h hg ?_
  cases hv : v.ownBlock with
  | none => exact Or.inl rfl
  | some g =>
    right
    intro e
    have h1 := (h.lt g hv).2
    have h2 := hr g e.symm
    omega

theorem GoodRows.grown {w w' : World} {rs : List RowV} {row : Option Nat} (h : GoodRows w rs) (hg : w.grownBy w' row) (hr : ∀ k, row = some k → w.heap.size ≤ k) : GoodRows w' rs :=
  h.below ((Below.refl _ w).grown hg (Nat.le_refl _) hr)

set_option maxRecDepth 100000 in
set_option maxHeartbeats 4000000 in
theorem many_walk : LawOk 6 := by
  intro a ls ca b ns cb w hrows _ hl hn hr _
  have HR : Hid (RowsAt w a ls) := hrows
  have HRL : Hid (∀ i, i < ls.length → (ls.getD i row0).2.2.length ≤ 140737488351232) := hr
  clear hrows hr
  obtain ⟨i0, hi, hz0, hz1, hz2⟩ := info_parts Try.info27
  go_enter Try.func6, Try.ntmps6
  go_wp2_with fail
  obtain ⟨W0, hW0⟩ : ∃ W0, W0 = w.alloc (.cells #[.slice a ls.length ca, .slice b ns.length cb] 25) := ⟨_, rfl⟩
  have HN0 : Hid (Below w.heap.size w W0) := by rw [hW0]; exact nwA (nwR w) _
  have HR0 : Hid (RowsAt W0 a ls) := HR.out.below HN0.out (Nat.le_refl _)
  have HC0 : Hid (W0.cell? ⟨w.heap.size, 0, none⟩ = some (.slice a ls.length ca)) := by rw [hW0]; show _ = _; simp
  have HZ0 : Hid (w.heap.size < W0.heap.size) := by rw [hW0]; show _ < _; simp
  rw [← hW0]
  clear hW0 HR
  refine (heavy_any a b ls ca ns.length cb _ HR0.out hl hn HRL.out).mono ?_
  rintro e w1 ⟨q, rfl, hb1, hq⟩
  cases q
  · clear hq
    go_wp2_with fail
    go_loopw [3, 4] (fun v i wr => ∃ (k : Nat), k ≤ ls.length ∧ k ≤ 8 ∧ i = .int .i64 k ∧ OwnRows wr W0.heap.size v (fil ls k) ∧ Below W0.heap.size W0 wr)
      (fun _ i _ => ls.length - (intOf i).toNat)
    case atStart => exact ⟨0, by omega, by omega, rfl, World.ownsRow_nil _ _ _ _, hb1⟩
    case round =>
      obtain ⟨k, hk, hk8, rfl, hO, hb⟩ := hrel
      have HO : Hid (OwnRows wr W0.heap.size u3 (fil ls k)) := hO
      clear hO
      have c0 : wr.cell? ⟨w.heap.size, 0, none⟩ = some (.slice a ls.length ca) := (hb.cell (p := ⟨w.heap.size, 0, none⟩) HZ0.out).trans HC0.out
      by_cases hk1 : (k : Int) < (ls.length : Int) ∧ (k : Int) < 8
      · obtain ⟨hk1, hk5⟩ := hk1
        have hkn : k < ls.length := by omega
        have hrl := HRL.out k hkn
        have HA : Hid (SegsAt W0 (ls.getD k row0).1 (ls.getD k row0).2.2) := HR0.out.segs hkn
        obtain ⟨b1, o1, rfl, x1, _, _⟩ := HR0.out k hkn
        have HX1 : Hid (W0.cell? ⟨b1, o1 + k, none⟩ = some (.slice (ls.getD k row0).1 (ls.getD k row0).2.2.length (ls.getD k row0).2.1)) := x1
        clear x1
        have HFY : Hid (vOk (ls.getD k row0).2.2 = true → fil ls (k + 1) = fil ls k ++ [ls.getD k row0]) := fil_yes hkn
        have HFN : Hid (vOk (ls.getD k row0).2.2 = false → fil ls (k + 1) = fil ls k) := fil_no hkn
        have HFL : Hid ((fil ls k).length ≤ 8) := by have := fil_len ls k; show _ ≤ 8; omega
        generalize ls.getD k row0 = r1 at HX1 HA hrl HFY HFN
        obtain ⟨ra, rca, l⟩ := r1
        simp only at HX1 HA hrl HFY HFN
        have x1 : wr.cell? ⟨b1, o1 + k, none⟩ = some (.slice ra l.length rca) := (hb.cell (p := ⟨b1, o1 + k, none⟩) (block_lt_of_cell HX1.out)).trans HX1.out
        go_wp2_with fail
        refine (refSegs_any ra l rca _ (HA.out.below hb (Nat.le_refl _)) hrl).mono ?_
        rintro e w2 ⟨rfl, hb2⟩
        have hbq := nwT hb hb2
        have HO2 : Hid (OwnRows w2 W0.heap.size u3 (fil ls k)) := HO.out.below hb2
        clear c0 x1 HO hb
        cases hv : vOk l
        · have HF := HFN.out hv
          have HO3 : Hid (OwnRows w2 W0.heap.size u3 (fil ls (k + 1))) := by rw [HF]; exact HO2.out
          clear HF HFY HFN HO2
          go_wp2_with fail
          go_roundw
          case rel => exact ⟨k + 1, by omega, by omega, by go_num, HO3.out, hbq⟩
          case measure => simp [intOf]; omega
        · have HF : Hid _ := HFY.out hv
          clear HFY HFN
          have c0 : w2.cell? ⟨w.heap.size, 0, none⟩ = some (.slice (some ⟨b1, o1, none⟩) ls.length ca) := (hbq.cell (p := ⟨w.heap.size, 0, none⟩) HZ0.out).trans HC0.out
          have x1 : w2.cell? ⟨b1, o1 + k, none⟩ = some (.slice ra l.length rca) := (hbq.cell (p := ⟨b1, o1 + k, none⟩) (block_lt_of_cell HX1.out)).trans HX1.out
          generalize fil ls k = FS at HO2 HF HFL
          have hsz : W0.heap.size ≤ (w2.alloc (.cells #[.slice ra l.length rca] 27)).heap.size := (nwA hbq _).size
          have hc3 : FS.length + 1 ≤ maxLen := by unfold maxLen; have := HFL.out; omega
          have hc4 : (FS.length + 1) * 24 ≤ 140737488355328 := by have := HFL.out; omega
          go_wp2_with (at_builtin; refine wpList_append_own _ rfl (.tmp 32) (.tmp 38) 22 rfl W0.heap.size 27 i0 (.slice none 0 0) 1 24 Try.underlying22 hi hz0 hz1 hz2 rfl (by decide) u3 FS.length (FS.map rowV) rfl (World.ownsRow.alloc HO2.out _) ⟨w2.heap.size, 0, none⟩ 1 1 [.slice ra l.length rca] rfl rfl (cell_one _ _ _) (by simp [Value.oneCell']) hc3 hc4 hsz ?_; intro v' w3 hown hgrow _)
          have HB3 : Hid (Below W0.heap.size W0 w3) := (nwA hbq _).grown hgrow (nwA hbq _).size (fun q e => (HO2.out.lt q e).1)
          have HO3 : Hid (OwnRows w3 W0.heap.size v' (fil ls (k + 1))) := by rw [HF.out]; exact OwnRows.snoc hown
          clear hown hgrow
          go_roundw
          case rel => exact ⟨k + 1, by omega, by omega, by go_num, HO3.out, HB3.out⟩
          case measure => simp [intOf]; omega
      · have HG : Hid (GoodRows wr (fil ls k)) := (fil_good HR0.out k).below hb
        have HOK : Hid (allOk (fil ls k) = true) := fil_ok ls k
        have HFL : Hid ((fil ls k).length ≤ 8) := by have := fil_len ls k; show _ ≤ 8; omega
        generalize fil ls k = FS at HO HG HOK HFL
        obtain ⟨av, cv, rfl, hrw⟩ := HO.out.at HG.out
        have HRW : Hid (RowsAt wr av FS) := hrw
        clear hrw
        have hf8 := HFL.out
        have hbw := nwT HN0.out hb
        clear HN0 HR0 HRL hb1 hb
        by_cases hk2 : (k : Int) < (ls.length : Int)
        all_goals
          have hk3 : (k : Int) < (ls.length : Int) → ¬ (k : Int) < 8 := fun h h' => hk1 ⟨h, h'⟩
          have hk4 : ¬ ((k : Int) < (ls.length : Int)) ∨ ¬ (k : Int) < 8 := by omega
          clear hk1 hk3
          try (have hk5 : ¬ (k : Int) < 8 := by omega)
          clear hk4
          go_wp2_with fail
          clear c0
          refine (join_any av FS cv _ HRW.out (by unfold maxLen; omega)).mono ?_
          rintro e w2 ⟨va, rfl, hoa, hb2⟩
          rw [HOK.out, show errOf true = 0 from rfl]
          obtain ⟨aa, cc, rfl, hsa⟩ := hoa.at
          have hla := len_of_own hoa
          have HA2 : Hid (SegsAt w2 aa (jset FS)) := hsa
          have HO2 : Hid (OwnRows w2 W0.heap.size (.slice av FS.length cv) FS) := HO.out.below hb2
          have HG2 : Hid (GoodRows w2 FS) := HG.out.below hb2
          have HRW2 : Hid (RowsAt w2 av FS) := HRW.out.below hb2 (Nat.le_refl _)
          have hbw2 := nwT hbw hb2
          clear hsa hoa hb2 hbw HO HG HRW
          have HD : Hid ((w2.alloc (.cells #[] 27)).ownsRow w2.heap.size 27 1 (.slice (some ⟨w2.heap.size, 0, none⟩) 0 0) 0 []) := World.ownsRow_made w2 #[] 0 (Nat.le_refl _) (Nat.zero_le _) rfl
          have HS2 : Hid (OwnRows (w2.alloc (.cells #[] 27)) W0.heap.size (.slice av FS.length cv) FS) := HO2.out.below (nwA (nwR _) _)
          have hc3 : 0 + FS.length ≤ maxLen := by unfold maxLen; omega
          have hc4 : (0 + FS.length) * 24 ≤ 140737488355328 := by omega
          have hc5 : w2.heap.size ≤ (w2.alloc (.cells #[] 27)).heap.size := by simp
          go_wp2_with (at_builtin; refine wpList_append_rows _ rfl (.tmp 46) (.tmp 47) 22 rfl w2.heap.size 27 i0 (.slice none 0 0) 1 24 Try.underlying22 hi hz0 hz1 hz2 rfl (by decide) (.slice (some ⟨w2.heap.size, 0, none⟩) 0 0) 0 [] rfl HD.out (.slice av FS.length cv) W0.heap.size FS.length (FS.map rowV) rfl HS2.out (rows_one FS) hc3 hc4 hc5 ?_; intro v1 w3 hown1 hgrow1; refine unstop ?_)
          unfold Stop
          have HB3 : Hid (Below w2.heap.size w2 w3) := (nwA (nwR w2) _).grown hgrow1 (nwA (nwR w2) _).size (fun q e => by simp [Value.ownBlock] at e; omega)
          have HO3 : Hid (OwnRows w3 W0.heap.size (.slice av FS.length cv) FS) := HO2.out.below HB3.out
          have HD1 : Hid (w3.ownsRow w2.heap.size 27 1 v1 FS.length (FS.map rowV)) := by
            have h := hown1
            simp only [Nat.zero_add, List.nil_append] at h
            exact h
          clear hown1 hgrow1 HS2 HD hc3 hc4 hc5
          have hc3 : FS.length + FS.length ≤ maxLen := by unfold maxLen; omega
          have hc4 : (FS.length + FS.length) * 24 ≤ 140737488355328 := by omega
          have hc5 : w2.heap.size ≤ w3.heap.size := HB3.out.size
          go_wp2_with (at_builtin; refine wpList_append_rows _ rfl (.tmp 48) (.tmp 49) 22 rfl w2.heap.size 27 i0 (.slice none 0 0) 1 24 Try.underlying22 hi hz0 hz1 hz2 rfl (by decide) v1 FS.length (FS.map rowV) rfl HD1.out (.slice av FS.length cv) W0.heap.size FS.length (FS.map rowV) rfl HO3.out (rows_one FS) hc3 hc4 hc5 ?_; intro v2 w4 hown2 hgrow2; refine unstop ?_)
          unfold Stop
          have HB4 : Hid (Below w2.heap.size w2 w4) := HB3.out.grown hgrow2 HB3.out.size (fun q e => (HD1.out.lt q e).1)
          have HT : Hid (OwnRows w4 w2.heap.size v2 (FS ++ FS)) := by
            show World.ownsRow _ _ _ _ _ _ _
            rw [List.length_append, List.map_append]; exact hown2
          have HGT : Hid (GoodRows w4 (FS ++ FS)) := fun r hr => (HG2.out.below HB4.out) r (by simpa using hr)
          clear hown2 hgrow2 HO3 HD1 HB3 hc3 hc4 hc5
          obtain ⟨at2, ct2, rfl, hrt⟩ := HT.out.at HGT.out
          have HRT : Hid (RowsAt w4 at2 (FS ++ FS)) := hrt
          clear hrt HT HGT
          have hft : (FS ++ FS).length ≤ maxLen := by simp only [List.length_append]; unfold maxLen; omega
          have HJT : Hid (allOk (FS ++ FS) = true ∧ jset (FS ++ FS) = jset FS) := jset_twice HOK.out
          generalize FS ++ FS = FT at HRT hft HJT
          go_wp2_with fail
          refine (join_any at2 FT ct2 _ HRT.out hft).mono ?_
          rintro e w5 ⟨vt, rfl, hot, hb5⟩
          rw [HJT.out.1, show errOf true = 0 from rfl]
          rw [HJT.out.2] at hot
          obtain ⟨a5, c5, rfl, hs5⟩ := hot.at
          have hb25 := nwT HB4.out hb5
          have HT5 : Hid (SegsAt w5 a5 (jset FS)) := hs5
          have HA5 : Hid (SegsAt w5 aa (jset FS)) := HA2.out.below hb25 (Nat.le_refl _)
          have HRW5 : Hid (RowsAt w5 av FS) := HRW2.out.below hb25 (Nat.le_refl _)
          have HG5 : Hid (GoodRows w5 FS) := HG2.out.below hb25
          have hbw5 := nwT hbw2 hb25
          clear hs5 hot hb5 HB4 hb25 HA2 HRW2 HG2 hbw2 HRT HJT hft HO2
          go_wp2_with fail
          go_loopw [9, 10] (fun v j wq => ∃ (n : Nat) (ao : Option Addr) (co : Nat), n ≤ FS.length ∧ j = .int .i64 n ∧ v = .slice ao (ones FS n).length co ∧ SegsAt wq ao (ones FS n) ∧ Below w5.heap.size w5 wq)
            (fun _ j _ => FS.length - (intOf j).toNat)
          case atStart => exact ⟨0, none, 0, by omega, rfl, by rw [ones_zero]; rfl, by rw [ones_zero]; intro i hi; simp at hi, nwR w5⟩
          case round =>
            obtain ⟨n, ao, co, hn', rfl, rfl, hso, hbq⟩ := hrel
            have HSO : Hid (SegsAt wr ao (ones FS n)) := hso
            have hlo : (ones FS n).length ≤ maxLen := by have := segsOf_len (memAny (FS.take n)); unfold maxLen; show (segsOf _).length ≤ _; omega
            clear hso
            by_cases hnl : n < FS.length
            · have hni : (n : Int) < (FS.length : Int) := by omega
              have HST : Hid (∀ (a b : Option Addr) (c d : Nat), allOk [(a, c, ones FS n), (b, d, (FS.getD n row0).2.2)] = true ∧ jset [(a, c, ones FS n), (b, d, (FS.getD n row0).2.2)] = ones FS (n + 1)) := fun a b c d => ones_step HOK.out hnl a b c d
              have HSR : Hid (SegsAt w5 (FS.getD n row0).1 (FS.getD n row0).2.2) := HRW5.out.segs hnl
              obtain ⟨b2, o2, rfl, y1, _, hlr⟩ := (HRW5.out.below hbq (Nat.le_refl _)) n hnl
              generalize FS.getD n row0 = r2 at y1 hlr HST HSR
              obtain ⟨ra, rca, l⟩ := r2
              simp only at y1 hlr HST HSR
              generalize ones FS n = O at HSO hlo HST
              go_wp2_with fail
              refine (join_any _ [(ao, co, O), (ra, rca, l)] 2 _ (rows2 co rca 27 HSO.out hlo (HSR.out.below hbq (Nat.le_refl _)) hlr) (by simp [maxLen])).mono ?_
              rintro e w6 ⟨vo, rfl, hoo, hb6⟩
              rw [(HST.out ao ra co rca).1, show errOf true = 0 from rfl]
              rw [(HST.out ao ra co rca).2] at hoo
              obtain ⟨an, cn, rfl, hsn⟩ := hoo.at
              have HSN : Hid (SegsAt w6 an (ones FS (n + 1))) := hsn
              have hbq6 := nwT hbq (nwT (nwA (nwR _) _) hb6)
              clear hsn hoo hb6 y1 HST HSO hbq
              go_wp2_with (go_at_call 15; refine (num_any _ _).mono ?_; rintro e w7 ⟨rfl, rfl⟩)
              go_roundw
              case rel => exact ⟨n + 1, an, cn, by omega, by go_num, rfl, HSN.out, hbq6⟩
              case measure => simp [intOf]; omega
            · have hnn : n = FS.length := by omega
              subst hnn
              rw [ones_all HOK.out] at HSO ⊢
              generalize jset FS = J at HSO HA5 HT5 hla
              have HA6 : Hid (SegsAt wr aa J) := HA5.out.below hbq (Nat.le_refl _)
              have HT6 : Hid (SegsAt wr a5 J) := HT5.out.below hbq (Nat.le_refl _)
              have hbw6 := nwT hbw5 hbq
              clear HA5 HT5 hbq hbw5
              go_wp2_with (go_at_call 15; refine (num_any _ _).mono ?_; rintro e w7 ⟨rfl, rfl⟩)
              refine (eqSegs_any aa ao J J cc co _ HA6.out HSO.out hla).mono ?_
              rintro e w8 ⟨rfl, hb8⟩
              rw [decide_eq_true (rfl : J = J)]
              go_wp2_with fail
              refine (eqSegs_any aa a5 J J cc c5 _ (HA6.out.below hb8 (Nat.le_refl _)) (HT6.out.below hb8 (Nat.le_refl _)) hla).mono ?_
              rintro e w9 ⟨rfl, hb9⟩
              rw [decide_eq_true (rfl : J = J)]
              go_wp2_with fail
              refine (wakes_any _).mono ?_
              rintro e w10 ⟨rfl, hb10⟩
              go_wp2_with fail
              go_ret
              exact ⟨rfl, nwT (nwT (nwT hbw6 hb8) hb9) hb10⟩
  · go_wp2_with fail
    go_ret
    exact ⟨rfl, nwT HN0.out hb1⟩

end Go.Proofs.Ytpkgoagoceddoaa
