/- Laid together: Unlw, Linkw, Changeg. -/
import Derived.Test.YtdpighcaieajjabGreatTreesM16
/- A link, and an empty directory, taken away by the program. -/
namespace Go.Proofs.YtdpighcaieajjabGreat
open Go.RowKit Go.Sort

theorem findF_snoc (fs : List FileD) (n : ByteArray) : ∀ (xs : List ByteArray) (a : Nat), findF fs a (xs ++ [n]) = if (findF fs a xs).2 = 0 then findF fs (findF fs a xs).1 [n] else (0, (findF fs a xs).2) := by
  intro xs
  induction xs with
  | nil => intro a; simp [findF]
  | cons m r ih =>
    intro a
    rw [List.cons_append]
    conv => lhs; unfold findF
    conv => rhs; rw [findF]
    by_cases hd : (fs.getD a f0).dir = true
    · rw [if_pos hd, if_pos hd]
      cases hn : namedI (fs.getD a f0).list m with
      | none => simp
      | some k => simp only; rw [ih]
    · rw [if_neg hd, if_neg hd]; simp
theorem last_split {L : List ByteArray} (h : 0 < L.length) : L = L.take (L.length - 1) ++ [lastN L] := by
  have h1 : L.length - 1 < L.length := by omega
  have h2 := List.take_succ_eq_append_getElem h1
  rw [show L.length - 1 + 1 = L.length from by omega, List.take_length] at h2
  conv => lhs; rw [h2]
  simp [lastN, List.getD, h1]
theorem find_par {fs : List FileD} {L : List ByteArray} {q : Nat} (hL : 0 < L.length) (h : findF fs 0 L = (q, 0)) : ∃ qp k, parF fs L = (qp, 0) ∧ (fs.getD qp f0).dir = true ∧ namedI (fs.getD qp f0).list (lastN L) = some k ∧ q = placeOf fs ((fs.getD qp f0).list.getD k lk0).2 := by
  rw [last_split hL, findF_snoc] at h
  have hp : parF fs L = if (findF fs 0 (L.take (L.length - 1))).2 = 0 then (if (fs.getD (findF fs 0 (L.take (L.length - 1))).1 f0).dir then findF fs 0 (L.take (L.length - 1)) else (0, 7)) else (0, (findF fs 0 (L.take (L.length - 1))).2) := rfl
  generalize findF fs 0 (L.take (L.length - 1)) = r at h hp
  obtain ⟨qp, er⟩ := r
  simp only at h hp
  by_cases he : er = 0
  · subst he
    rw [if_pos rfl] at h hp
    unfold findF at h
    by_cases hd : (fs.getD qp f0).dir = true
    · rw [if_pos hd] at h hp
      cases hn : namedI (fs.getD qp f0).list (lastN L) with
      | none => rw [hn] at h; simp at h
      | some k =>
        rw [hn] at h
        simp only [findF, Prod.mk.injEq, and_true] at h
        exact ⟨qp, k, hp, hd, hn, h.symm⟩
    · rw [if_neg hd] at h; simp at h
  · rw [if_neg he] at h
    simp only [Prod.mk.injEq] at h
    exact absurd h.2 he

/-- the volume without what a path names -/
def cutR (d : VolD) (L : List ByteArray) : VolD := takV d (parF d.files L).1 ((namedI (d.files.getD (parF d.files L).1 f0).list (lastN L)).getD 0)
def unlR (d : VolD) (L : List ByteArray) : Int × VolD :=
  if (findF d.files 0 L).2 = 0 then (if (d.files.getD (findF d.files 0 L).1 f0).dir then (6, Go.Proofs.YtdpighcaieajjabGreat.v0) else (0, cutR d L)) else ((findF d.files 0 L).2, Go.Proofs.YtdpighcaieajjabGreat.v0)
def rmdR (d : VolD) (L : List ByteArray) : Int × VolD :=
  if L.length = 0 then (8, Go.Proofs.YtdpighcaieajjabGreat.v0) else if (findF d.files 0 L).2 = 0 then (if (d.files.getD (findF d.files 0 L).1 f0).dir then (if 0 < (d.files.getD (findF d.files 0 L).1 f0).list.length then (8, Go.Proofs.YtdpighcaieajjabGreat.v0) else (0, cutR d L)) else (7, Go.Proofs.YtdpighcaieajjabGreat.v0)) else ((findF d.files 0 L).2, Go.Proofs.YtdpighcaieajjabGreat.v0)
def ActG (R : VolD → List ByteArray → Int × VolD) (d : VolD) (L : List ByteArray) (er : Int) (dd : VolD) : Prop := (er, dd) = R d L

theorem take_cut (base B : Nat) (d : VolD) (p : ByteArray) (L : List ByteArray) (q : Nat) (w : World) (ho : OwnPtr w base B d) (hok : VolOk d) (hs : SmallV d) (hp : pathN p = some L) (hL : 0 < L.length) (hf : findF d.files 0 L = (q, 0)) :
    Calls Tryz.prog 75 #[.pointer (some ⟨B, 0, none⟩), .string p] w fun e w' => e = .returned (.int .i64 0) ∧ OwnPtr w' base B (cutR d L) ∧ KeepU w w' ∧ Below base w w' := by
  obtain ⟨qp, k, h1, _, h2, _⟩ := find_par hL hf
  have h := take_any base B d p L qp k w ho hok hs hp hL h1 h2
  have e : cutR d L = takV d qp k := by unfold cutR; rw [h1]; simp only; rw [h2]; rfl
  rw [e]; exact h
theorem path_pos {p : ByteArray} {L : List ByteArray} (hp : pathN p = some L) (hr : ¬ p.toList = [47]) : 0 < L.length := by
  by_cases e : L.length = 0
  · have h0 := List.length_eq_zero_iff.1 e
    have h2 := (pathN_some hp).1
    rw [h0] at h2
    exact absurd (by rw [← h2, Lib.toList_data]; rfl) hr
  · omega

set_option maxRecDepth 100000 in
set_option maxHeartbeats 4000000 in
theorem unlink_any (base B : Nat) (d : VolD) (p : ByteArray) (L : List ByteArray) (w : World) (ho : OwnPtr w base B d) (hok : VolOk d) (hs : SmallV d) (hp : pathN p = some L) :
    Calls Tryz.prog 53 #[.pointer (some ⟨B, 0, none⟩), .string p] w fun e w' => ActIs (ActG unlR d L) base B e w' ∧ KeepU w w' ∧ Below base w w' := by
  have hbw : base ≤ w.heap.size := by obtain ⟨h0, fv, h1, _⟩ := ho; have := (Array.getElem?_eq_some_iff.1 h1).1; omega
  have HO : Hid (OwnPtr w base B d) := ho
  have HS : Hid (SmallV d) := hs
  have HOK : Hid (VolOk d) := hok
  have HP : Hid (pathN p = some L) := hp
  have HFP : Hid (Calls Tryz.prog 67 #[.pointer (some ⟨B, 0, none⟩), .string p] w fun e w' => FindIs d (findF d.files 0 L) B e w' ∧ Below w.heap.size w w') := findp_any B d p L w ho.at hs hok.sound hok.one hp (by have := (pathN_some hp).2.2; omega)
  have HUR : Hid (unlR d L = if (findF d.files 0 L).2 = 0 then (if (d.files.getD (findF d.files 0 L).1 f0).dir then (6, Go.Proofs.YtdpighcaieajjabGreat.v0) else (0, cutR d L)) else ((findF d.files 0 L).2, Go.Proofs.YtdpighcaieajjabGreat.v0)) := rfl
  have HPS : Hid (∀ q, findF d.files 0 L = (q, 0) → (d.files.getD q f0).dir = false → 0 < L.length) := fun q h1 h2 => by
    by_cases e : L.length = 0
    · rw [List.length_eq_zero_iff.1 e] at h1
      simp only [findF, Prod.mk.injEq, and_true] at h1
      subst h1
      have := hok.2.1.1.2.2.2
      rw [this] at h2; cases h2
    · omega
  clear ho hs hok hp
  go_enter Tryz.func53, Tryz.ntmps53
  go_wp2_with fail
  refine HFP.out.mono ?_
  rintro e w1 ⟨⟨u, rfl, hyes, hnone⟩, hb1⟩
  have HB1 : Hid (Below w.heap.size w w1) := hb1
  have HO1 : Hid (OwnPtr w1 base B d) := HO.out.below hb1
  have HFR : Hid (findF d.files 0 L = findF d.files 0 L) := rfl
  generalize hr : findF d.files 0 L = r at hyes hnone HUR ⊢
  have HR : Hid (findF d.files 0 L = r) := hr
  clear hr HFR hb1
  obtain ⟨q, er⟩ := r
  simp only at hyes hnone HUR ⊢
  by_cases her : er = 0
  case neg =>
    have hu := hnone her
    subst hu
    have HG : Hid (ActG unlR d L er Go.Proofs.YtdpighcaieajjabGreat.v0) := by show _ = _; rw [HUR.out, if_neg her]
    have hd1 : decide (er = 0) = false := decide_eq_false her
    have hd2 : (er == 0) = false := beq_eq_false_iff_ne.2 her
    clear hyes hnone
    go_wp2_with fail
    go_ret
    exact ⟨.inr ⟨er, her, rfl, HG.out⟩, (KeepT.of_below (nwA HB1.out _)).u, (nwA HB1.out _).mono hbw⟩
  case pos =>
  subst her
  obtain ⟨b, o, bv, lv, rfl, ⟨c0, c1, c2, c3, c4⟩, _⟩ := HO1.out.node (hyes rfl)
  have hbl := block_lt_of_cell c1
  simp only at hbl
  clear hyes hnone
  cases hdir : (d.files.getD q f0).dir
  case true =>
    have HG : Hid (ActG unlR d L 6 Go.Proofs.YtdpighcaieajjabGreat.v0) := by show _ = _; rw [HUR.out, if_pos rfl, if_pos hdir]
    rw [hdir] at c1
    go_wp2_with fail
    go_ret
    exact ⟨.inr ⟨6, by decide, rfl, HG.out⟩, (KeepT.of_below (nwA HB1.out _)).u, (nwA HB1.out _).mono hbw⟩
  case false =>
    have HG : Hid (ActG unlR d L 0 (cutR d L)) := by show _ = _; rw [HUR.out, if_pos rfl, hdir]; rfl
    have HTK : Hid (Calls Tryz.prog 75 #[.pointer (some ⟨B, 0, none⟩), .string p] (w1.alloc (.cells #[.pointer (some ⟨b, o, none⟩)] 96)) fun e w' => e = .returned (.int .i64 0) ∧ OwnPtr w' base B (cutR d L) ∧ KeepU (w1.alloc (.cells #[.pointer (some ⟨b, o, none⟩)] 96)) w' ∧ Below base (w1.alloc (.cells #[.pointer (some ⟨b, o, none⟩)] 96)) w') :=
      take_cut base B d p L q _ (HO1.out.below (nwA (nwR w1) _)) HOK.out HS.out HP.out (HPS.out q HR.out hdir) HR.out
    rw [hdir] at c1
    go_wp2_with fail
    refine HTK.out.mono ?_
    rintro e w2 ⟨rfl, h1, h2, h3⟩
    have HF : Hid (ActIs (ActG unlR d L) base B (.returned (.int .i64 0)) w2 ∧ KeepU w w2 ∧ Below base w w2) := ⟨.inl ⟨_, rfl, h1, HG.out⟩, (KeepT.of_below (nwA HB1.out _)).u.trans h2, ((nwA HB1.out _).mono hbw).trans h3⟩
    clear h1 h2 h3
    go_wp2_with fail
    go_ret
    exact HF.out

set_option maxRecDepth 100000 in
set_option maxHeartbeats 4000000 in
theorem rmdir_any (base B : Nat) (d : VolD) (p : ByteArray) (L : List ByteArray) (w : World) (ho : OwnPtr w base B d) (hok : VolOk d) (hs : SmallV d) (hp : pathN p = some L) :
    Calls Tryz.prog 57 #[.pointer (some ⟨B, 0, none⟩), .string p] w fun e w' => ActIs (ActG rmdR d L) base B e w' ∧ KeepU w w' ∧ Below base w w' := by
  have hbw : base ≤ w.heap.size := by obtain ⟨h0, fv, h1, _⟩ := ho; have := (Array.getElem?_eq_some_iff.1 h1).1; omega
  have HO : Hid (OwnPtr w base B d) := ho
  have HS : Hid (SmallV d) := hs
  have HOK : Hid (VolOk d) := hok
  have HP : Hid (pathN p = some L) := hp
  have HFP : Hid (Calls Tryz.prog 67 #[.pointer (some ⟨B, 0, none⟩), .string p] w fun e w' => FindIs d (findF d.files 0 L) B e w' ∧ Below w.heap.size w w') := findp_any B d p L w ho.at hs hok.sound hok.one hp (by have := (pathN_some hp).2.2; omega)
  by_cases hrt : p.toList = [47]
  · have hL : L = [] := by have := pathN_root hrt; rw [hp] at this; injection this
    have HG : Hid (ActG rmdR d L 8 Go.Proofs.YtdpighcaieajjabGreat.v0) := by show _ = _; rw [hL]; rfl
    have hrb : (p.toList == [47]) = true := beq_iff_eq.2 hrt
    clear ho hs hok hp
    go_enter Tryz.func57, Tryz.ntmps57
    go_wp2_with fail
    go_ret
    exact ⟨.inr ⟨8, by decide, rfl, HG.out⟩, (KeepT.of_below (nwR w)).u, (nwR w).mono hbw⟩
  have hrb : (p.toList == [47]) = false := beq_eq_false_iff_ne.2 hrt
  have hLp := path_pos hp hrt
  have HUR : Hid (rmdR d L = if (findF d.files 0 L).2 = 0 then (if (d.files.getD (findF d.files 0 L).1 f0).dir then (if 0 < (d.files.getD (findF d.files 0 L).1 f0).list.length then (8, Go.Proofs.YtdpighcaieajjabGreat.v0) else (0, cutR d L)) else (7, Go.Proofs.YtdpighcaieajjabGreat.v0)) else ((findF d.files 0 L).2, Go.Proofs.YtdpighcaieajjabGreat.v0)) := by
    show _ = _; unfold rmdR; rw [if_neg (by omega)]
  clear ho hs hok hp hrt
  go_enter Tryz.func57, Tryz.ntmps57
  go_wp2_with fail
  refine HFP.out.mono ?_
  rintro e w1 ⟨⟨u, rfl, hyes, hnone⟩, hb1⟩
  have HB1 : Hid (Below w.heap.size w w1) := hb1
  have HO1 : Hid (OwnPtr w1 base B d) := HO.out.below hb1
  generalize hr : findF d.files 0 L = r at hyes hnone HUR ⊢
  have HR : Hid (findF d.files 0 L = r) := hr
  clear hr hb1
  obtain ⟨q, er⟩ := r
  simp only at hyes hnone HUR ⊢
  by_cases her : er = 0
  case neg =>
    have hu := hnone her
    subst hu
    have HG : Hid (ActG rmdR d L er Go.Proofs.YtdpighcaieajjabGreat.v0) := by show _ = _; rw [HUR.out, if_neg her]
    have hd1 : decide (er = 0) = false := decide_eq_false her
    have hd2 : (er == 0) = false := beq_eq_false_iff_ne.2 her
    clear hyes hnone
    go_wp2_with fail
    go_ret
    exact ⟨.inr ⟨er, her, rfl, HG.out⟩, (KeepT.of_below (nwA HB1.out _)).u, (nwA HB1.out _).mono hbw⟩
  case pos =>
  subst her
  obtain ⟨b, o, bv, lv, rfl, ⟨c0, c1, c2, c3, c4⟩, hfv⟩ := HO1.out.node (hyes rfl)
  obtain ⟨al, cl, e2, _, _⟩ := hfv.2.at
  simp only at e2
  subst e2
  have hbl := block_lt_of_cell c1
  simp only at hbl
  clear hyes hnone hfv
  cases hdir : (d.files.getD q f0).dir
  case false =>
    have HG : Hid (ActG rmdR d L 7 Go.Proofs.YtdpighcaieajjabGreat.v0) := by show _ = _; rw [HUR.out, if_pos rfl, hdir]; rfl
    rw [hdir] at c1
    go_wp2_with fail
    go_ret
    exact ⟨.inr ⟨7, by decide, rfl, HG.out⟩, (KeepT.of_below (nwA HB1.out _)).u, (nwA HB1.out _).mono hbw⟩
  case true =>
  rw [hdir] at c1
  by_cases hll : 0 < (d.files.getD q f0).list.length
  case pos =>
    have HG : Hid (ActG rmdR d L 8 Go.Proofs.YtdpighcaieajjabGreat.v0) := by show _ = _; rw [HUR.out, if_pos rfl, if_pos hdir, if_pos hll]
    clear hdir
    go_wp2_with fail
    go_ret
    exact ⟨.inr ⟨8, by decide, rfl, HG.out⟩, (KeepT.of_below (nwA HB1.out _)).u, (nwA HB1.out _).mono hbw⟩
  case neg =>
    have HG : Hid (ActG rmdR d L 0 (cutR d L)) := by show _ = _; rw [HUR.out, if_pos rfl, if_pos hdir, if_neg hll]
    have HTK : Hid (Calls Tryz.prog 75 #[.pointer (some ⟨B, 0, none⟩), .string p] (w1.alloc (.cells #[.pointer (some ⟨b, o, none⟩)] 96)) fun e w' => e = .returned (.int .i64 0) ∧ OwnPtr w' base B (cutR d L) ∧ KeepU (w1.alloc (.cells #[.pointer (some ⟨b, o, none⟩)] 96)) w' ∧ Below base (w1.alloc (.cells #[.pointer (some ⟨b, o, none⟩)] 96)) w') :=
      take_cut base B d p L q _ (HO1.out.below (nwA (nwR w1) _)) HOK.out HS.out HP.out hLp HR.out
    have hl0 : (d.files.getD q f0).list.length = 0 := by omega
    rw [hl0] at c4
    clear hdir hll hl0
    go_wp2_with fail
    refine HTK.out.mono ?_
    rintro e w2 ⟨rfl, h1, h2, h3⟩
    have HF : Hid (ActIs (ActG rmdR d L) base B (.returned (.int .i64 0)) w2 ∧ KeepU w w2 ∧ Below base w w2) := ⟨.inl ⟨_, rfl, h1, HG.out⟩, (KeepT.of_below (nwA HB1.out _)).u.trans h2, ((nwA HB1.out _).mono hbw).trans h3⟩
    clear h1 h2 h3
    go_wp2_with fail
    go_ret
    exact HF.out

end Go.Proofs.YtdpighcaieajjabGreat

/- Another name for a file, by the program. -/
namespace Go.Proofs.YtdpighcaieajjabGreat
open Go.RowKit Go.Sort

/-- the volume with a link more -/
def putV (d : VolD) (q : Nat) (x : LinkD) : VolD := ⟨d.id, d.fr, d.snap, d.files.set q (withList (d.files.getD q f0) (putL (d.files.getD q f0).list x)), d.next⟩
def linkR (d : VolD) (L M : List ByteArray) : Int × VolD :=
  if (findF d.files 0 L).2 = 0 then (if (d.files.getD (findF d.files 0 L).1 f0).dir then (6, Go.Proofs.YtdpighcaieajjabGreat.v0) else if (vacF d.files M).2 = 0 then (if 8 ≤ (d.files.getD (vacF d.files M).1 f0).list.length then (2, Go.Proofs.YtdpighcaieajjabGreat.v0) else (0, putV d (vacF d.files M).1 (lastN M, (d.files.getD (findF d.files 0 L).1 f0).id))) else ((vacF d.files M).2, Go.Proofs.YtdpighcaieajjabGreat.v0)) else ((findF d.files 0 L).2, Go.Proofs.YtdpighcaieajjabGreat.v0)
def Act2G (R : VolD → List ByteArray → List ByteArray → Int × VolD) (d : VolD) (L M : List ByteArray) (er : Int) (dd : VolD) : Prop := (er, dd) = R d L M
theorem vac_new {fs : List FileD} {L : List ByteArray} {q : Nat} (h : vacF fs L = (q, 0)) : ∀ y ∈ (fs.getD q f0).list, y.1 ≠ lastN L := by
  intro y hy e
  have hv : vacF fs L = if L.length = 0 then (0, 4) else if (parF fs L).2 = 0 then (if (namedI (fs.getD (parF fs L).1 f0).list (lastN L)).isSome then (0, 4) else parF fs L) else (0, (parF fs L).2) := rfl
  rw [hv] at h
  split at h
  · simp at h
  · split at h
    · split at h
      · simp at h
      · rename_i h3
        rw [h] at h3
        apply h3
        unfold namedI
        rw [List.findIdx?_isSome]
        exact List.any_eq_true.2 ⟨y, hy, by simpa using e⟩
    · rename_i h2
      simp only [Prod.mk.injEq] at h
      exact absurd h.2 h2

structure LkS (P X b o : Nat) (pl xl : Obj) (v : Value) (w : World) : Prop where
  p : w.heap[P]? = some pl
  x : w.heap[X]? = some xl
  i : w.cell? ⟨b, o, none⟩ = some v
theorem LkS.below {P X b o : Nat} {pl xl : Obj} {v : Value} {w w' : World} (h : LkS P X b o pl xl v w) (hb : Below w.heap.size w w') : LkS P X b o pl xl v w' :=
  ⟨(hb.block _ (Array.getElem?_eq_some_iff.1 h.p).1).trans h.p, (hb.block _ (Array.getElem?_eq_some_iff.1 h.x).1).trans h.x, (hb.cell (p := ⟨b, o, none⟩) (block_lt_of_cell h.i)).trans h.i⟩
theorem OwnFilesX.idAt {w : World} {base g n cap q : Nat} {fs : List FileD} (h : OwnFilesX w base (.slice (some ⟨g, 0, none⟩) n cap) fs) (hq : q < fs.length) : w.cell? ⟨g, q * 5, none⟩ = some (.int .i64 (fs.getD q f0).id) := by
  obtain ⟨gs, hd, hrow, _, _⟩ := h
  have hl : gs.length = fs.length := by rw [← hd, List.length_map]
  obtain ⟨x, hgq⟩ : ∃ x, gs[q]? = some x := ⟨_, List.getElem?_eq_getElem (by omega)⟩
  have c0 := (fflat_get gs q _ hgq).1
  have := World.ownsRow.cells hrow (g := g) rfl _ _ c0
  rw [Addr.add_lit, Nat.zero_add] at this
  rw [this, ← hd]
  simp [List.getD, hgq]

set_option maxRecDepth 100000 in
set_option maxHeartbeats 4000000 in
theorem link_any (base B : Nat) (d : VolD) (p : ByteArray) (L : List ByteArray) (p2 : ByteArray) (M : List ByteArray) (w : World) (ho : OwnPtr w base B d) (hok : VolOk d) (hs : SmallV d) (hp : pathN p = some L) (hp2 : pathN p2 = some M) :
    Calls Tryz.prog 50 #[.pointer (some ⟨B, 0, none⟩), .string p, .string p2] w fun e w' => ActIs (Act2G linkR d L M) base B e w' ∧ KeepU w w' ∧ Below base w w' := by
  have hbw : base ≤ w.heap.size := by obtain ⟨h0, fv, h1, _⟩ := ho; have := (Array.getElem?_eq_some_iff.1 h1).1; omega
  have hbB : base ≤ B := ho.1
  have hpos : 0 < d.files.length := hok.2.1.1.1
  have HO : Hid (OwnPtr w base B d) := ho
  have HS : Hid (SmallV d) := hs
  have HOK : Hid (VolOk d) := hok
  have HFP : Hid (Calls Tryz.prog 67 #[.pointer (some ⟨B, 0, none⟩), .string p] w fun e w' => FindIs d (findF d.files 0 L) B e w' ∧ Below w.heap.size w w') := findp_any B d p L w ho.at hs hok.sound hok.one hp (by have := (pathN_some hp).2.2; omega)
  have HVC : Hid (∀ w', Below w.heap.size w w' → Calls Tryz.prog 72 #[.pointer (some ⟨B, 0, none⟩), .string p2] w' fun e w'' => PlaceIs d (vacF d.files M) (lastN M) B e w'' ∧ Below w'.heap.size w' w'') := fun w' h => vacant_any B d p2 M w' (ho.below h).at hs hok.sound hok.one hp2
  have HUR : Hid (linkR d L M = if (findF d.files 0 L).2 = 0 then (if (d.files.getD (findF d.files 0 L).1 f0).dir then (6, Go.Proofs.YtdpighcaieajjabGreat.v0) else if (vacF d.files M).2 = 0 then (if 8 ≤ (d.files.getD (vacF d.files M).1 f0).list.length then (2, Go.Proofs.YtdpighcaieajjabGreat.v0) else (0, putV d (vacF d.files M).1 (lastN M, (d.files.getD (findF d.files 0 L).1 f0).id))) else ((vacF d.files M).2, Go.Proofs.YtdpighcaieajjabGreat.v0)) else ((findF d.files 0 L).2, Go.Proofs.YtdpighcaieajjabGreat.v0)) := rfl
  have HNW : Hid (∀ q, vacF d.files M = (q, 0) → ∀ y ∈ (d.files.getD q f0).list, y.1 ≠ lastN M) := fun q h => vac_new h
  generalize lastN M = last at HVC HUR HNW
  clear ho hs hok hp hp2
  go_enter Tryz.func50, Tryz.ntmps50
  go_wp2_with fail
  refine HFP.out.mono ?_
  rintro e w1 ⟨⟨u, rfl, hyes, hnone⟩, hb1⟩
  have HB1 : Hid (Below w.heap.size w w1) := hb1
  have HO1 : Hid (OwnPtr w1 base B d) := HO.out.below hb1
  generalize hr : findF d.files 0 L = r at hyes hnone HUR ⊢
  clear hr hb1
  obtain ⟨qf, er⟩ := r
  simp only at hyes hnone HUR ⊢
  by_cases her : er = 0
  case neg =>
    have hu := hnone her
    subst hu
    have HG : Hid (Act2G linkR d L M er Go.Proofs.YtdpighcaieajjabGreat.v0) := by show _ = _; rw [HUR.out, if_neg her]
    have hd1 : decide (er = 0) = false := decide_eq_false her
    have hd2 : (er == 0) = false := beq_eq_false_iff_ne.2 her
    clear hyes hnone
    go_wp2_with fail
    go_ret
    exact ⟨.inr ⟨er, her, rfl, HG.out⟩, (KeepT.of_below (nwA HB1.out _)).u, (nwA HB1.out _).mono hbw⟩
  case pos =>
  subst her
  obtain ⟨g, cap, hB1, hX1⟩ := HO1.out.slice hpos
  have hno := hyes rfl
  have hqf : qf < d.files.length := by obtain ⟨_, _, _, _, h, _⟩ := hno; exact h
  obtain ⟨b, o, bv, lv, hu, ⟨c0, c1, _, _, _⟩, _⟩ := HO1.out.node hno
  have hpe := hno.eq hB1
  rw [hu] at hpe
  simp only [Value.agg.injEq, Array.mk.injEq, List.cons.injEq, and_true, Nat.zero_add, Value.pointer.injEq, Option.some.injEq, Addr.mk.injEq] at hpe
  obtain ⟨rfl, rfl⟩ := hpe
  subst hu
  have HBV : Hid (w1.heap[B]? = some (.cells #[.int .i64 d.id, .int .i64 d.fr, .bool d.snap, .slice (some ⟨b, 0, none⟩) d.files.length cap, .int .i64 d.next] 89 (0, 0))) := hB1
  have HX1 : Hid (OwnFilesX w1 base (.slice (some ⟨b, 0, none⟩) d.files.length cap) d.files) := hX1
  have hbl := block_lt_of_cell c1
  simp only at hbl
  clear hyes hnone hno hB1 hX1
  cases hdir : (d.files.getD qf f0).dir
  case true =>
    have HG : Hid (Act2G linkR d L M 6 Go.Proofs.YtdpighcaieajjabGreat.v0) := by show _ = _; rw [HUR.out, if_pos rfl, if_pos hdir]
    rw [hdir] at c1
    go_wp2_with fail
    go_ret
    exact ⟨.inr ⟨6, by decide, rfl, HG.out⟩, (KeepT.of_below (nwA HB1.out _)).u, (nwA HB1.out _).mono hbw⟩
  case false =>
  have HUR2 : Hid (linkR d L M = if (vacF d.files M).2 = 0 then (if 8 ≤ (d.files.getD (vacF d.files M).1 f0).list.length then (2, Go.Proofs.YtdpighcaieajjabGreat.v0) else (0, putV d (vacF d.files M).1 (last, (d.files.getD qf f0).id))) else ((vacF d.files M).2, Go.Proofs.YtdpighcaieajjabGreat.v0)) := by show _ = _; rw [HUR.out, if_pos rfl, hdir]; rfl
  rw [hdir] at c1
  have hbA := nwA (nwR w1) (.cells #[.pointer (some ⟨b, qf * 5, none⟩)] 96)
  have HBXA : Hid ((w1.alloc (.cells #[.pointer (some ⟨b, qf * 5, none⟩)] 96)).heap[w1.heap.size]? = some (.cells #[.pointer (some ⟨b, qf * 5, none⟩)] 96 (0, 0))) := heap_alloc_new w1 _
  have HC0 : Hid (w1.cell? ⟨b, qf * 5, none⟩ = some (.int .i64 (d.files.getD qf f0).id)) := c0
  have HVC1 : Hid (Calls Tryz.prog 72 #[.pointer (some ⟨B, 0, none⟩), .string p2] (w1.alloc (.cells #[.pointer (some ⟨b, qf * 5, none⟩)] 96)) fun e w'' => PlaceIs d (vacF d.files M) last B e w'' ∧ Below (w1.alloc (.cells #[.pointer (some ⟨b, qf * 5, none⟩)] 96)).heap.size (w1.alloc (.cells #[.pointer (some ⟨b, qf * 5, none⟩)] 96)) w'') := HVC.out _ (nwT HB1.out hbA)
  clear hdir c0 HUR HVC
  go_wp2_with fail
  refine HVC1.out.mono ?_
  rintro e w3 ⟨⟨u, rfl, hyes, hnone⟩, hb3⟩
  have hb13 := nwT hbA hb3
  have HB3 : Hid (Below w.heap.size w w3) := nwT HB1.out hb13
  have HX3 : Hid (OwnFilesX w3 base (.slice (some ⟨b, 0, none⟩) d.files.length cap) d.files) := HX1.out.below hb13
  have HBV3 : Hid (w3.heap[B]? = some (.cells #[.int .i64 d.id, .int .i64 d.fr, .bool d.snap, .slice (some ⟨b, 0, none⟩) d.files.length cap, .int .i64 d.next] 89 (0, 0))) := (hb13.block _ (Array.getElem?_eq_some_iff.1 HBV.out).1).trans HBV.out
  have HBX3 : Hid (w3.heap[w1.heap.size]? = some (.cells #[.pointer (some ⟨b, qf * 5, none⟩)] 96 (0, 0))) := (hb3.block _ (Array.getElem?_eq_some_iff.1 HBXA.out).1).trans HBXA.out
  have HC3 : Hid (w3.cell? ⟨b, qf * 5, none⟩ = some (.int .i64 (d.files.getD qf f0).id)) := (hb13.cell (p := ⟨b, qf * 5, none⟩) (block_lt_of_cell HC0.out)).trans HC0.out
  generalize hr : vacF d.files M = r at hyes hnone HUR2 ⊢
  have HR : Hid (vacF d.files M = r) := hr
  clear hr hbA hb3 hb13 HBV HX1 HBXA HC0 HVC1 c1 hbl
  obtain ⟨qv, er⟩ := r
  simp only at hyes hnone HUR2 ⊢
  by_cases her : er = 0
  case neg =>
    have hu := hnone her
    subst hu
    have HG : Hid (Act2G linkR d L M er Go.Proofs.YtdpighcaieajjabGreat.v0) := by show _ = _; rw [HUR2.out, if_neg her]
    have hd1 : decide (er = 0) = false := decide_eq_false her
    have hd2 : (er == 0) = false := beq_eq_false_iff_ne.2 her
    clear hyes hnone
    go_wp2_with fail
    go_ret
    exact ⟨.inr ⟨er, her, rfl, HG.out⟩, (KeepT.of_below (nwA HB3.out _)).u, (nwA HB3.out _).mono hbw⟩
  case pos =>
  subst her
  have HUR3 : Hid (linkR d L M = if 8 ≤ (d.files.getD qv f0).list.length then (2, Go.Proofs.YtdpighcaieajjabGreat.v0) else (0, putV d qv (last, (d.files.getD qf f0).id))) := by show _ = _; rw [HUR2.out, if_pos rfl]
  clear HUR2
  obtain ⟨pv, hno, rfl⟩ := hyes rfl
  have hqv : qv < d.files.length := by obtain ⟨_, _, _, _, h, _⟩ := hno; exact h
  have hpe := hno.eq HBV3.out
  simp only [Value.agg.injEq, Array.mk.injEq, List.cons.injEq, and_true, Nat.zero_add] at hpe
  subst hpe
  have HNV : Hid (NodeVal w3 (.agg #[.pointer (some ⟨b, qv * 5, none⟩)]) (d.files.getD qv f0)) := hno.val (by
    obtain ⟨a, c, e, h1, h2⟩ := HX3.out.plain.at
    simp only [Value.slice.injEq] at e
    obtain ⟨rfl, _, rfl⟩ := e
    exact ⟨_, _, HBV3.out, h1, h2⟩)
  have HNN : Hid (∀ y ∈ (d.files.getD qv f0).list, y.1 ≠ last) := HNW.out qv HR.out
  have HQD : Hid ((d.files.getD qv f0).list.length ≤ 8 ∧ StrictL (d.files.getD qv f0).list) := HOK.out.dirq hqv
  have hbA := nwA (nwR w3) (.cells #[.pointer (some ⟨b, qv * 5, none⟩), .string last] 103)
  have HPL : Hid ((w3.alloc (.cells #[.pointer (some ⟨b, qv * 5, none⟩), .string last] 103)).heap[w3.heap.size]? = some (.cells #[.pointer (some ⟨b, qv * 5, none⟩), .string last] 103 (0, 0))) := heap_alloc_new w3 _
  have HIF : Hid (Calls Tryz.prog 73 #[.agg #[.pointer (some ⟨b, qv * 5, none⟩)]] (w3.alloc (.cells #[.pointer (some ⟨b, qv * 5, none⟩), .string last] 103)) fun e w' => e = .returned (.bool (decide (8 ≤ (d.files.getD qv f0).list.length))) ∧ Below (w3.alloc (.cells #[.pointer (some ⟨b, qv * 5, none⟩), .string last] 103)).heap.size (w3.alloc (.cells #[.pointer (some ⟨b, qv * 5, none⟩), .string last] 103)) w') := isFull_any _ _ _ (HNV.out.below hbA)
  have hx1l := (Array.getElem?_eq_some_iff.1 HBX3.out).1
  clear hyes hnone hno
  go_wp2_with fail
  refine HIF.out.mono ?_
  rintro e w4 ⟨rfl, hb4⟩
  have hb34 := nwT hbA hb4
  have HB4 : Hid (Below w.heap.size w w4) := nwT HB3.out hb34
  cases h8 : decide (8 ≤ (d.files.getD qv f0).list.length)
  case true =>
    have HG : Hid (Act2G linkR d L M 2 Go.Proofs.YtdpighcaieajjabGreat.v0) := by show _ = _; rw [HUR3.out, if_pos (of_decide_eq_true h8)]
    go_wp2_with fail
    go_ret
    exact ⟨.inr ⟨2, by decide, rfl, HG.out⟩, (KeepT.of_below HB4.out).u, HB4.out.mono hbw⟩
  case false =>
  have HG : Hid (Act2G linkR d L M 0 (putV d qv (last, (d.files.getD qf f0).id))) := by show _ = _; rw [HUR3.out, if_neg (of_decide_eq_false h8)]
  have HX4 : Hid (OwnFilesX w4 base (.slice (some ⟨b, 0, none⟩) d.files.length cap) d.files) := HX3.out.below hb34
  have HBV4 : Hid (w4.heap[B]? = some (.cells #[.int .i64 d.id, .int .i64 d.fr, .bool d.snap, .slice (some ⟨b, 0, none⟩) d.files.length cap, .int .i64 d.next] 89 (0, 0))) := (hb34.block _ (Array.getElem?_eq_some_iff.1 HBV3.out).1).trans HBV3.out
  have HP4 : Hid (w4.heap[w3.heap.size]? = some (.cells #[.pointer (some ⟨b, qv * 5, none⟩), .string last] 103 (0, 0))) := (hb4.block _ (Array.getElem?_eq_some_iff.1 HPL.out).1).trans HPL.out
  have HX84 : Hid (w4.heap[w1.heap.size]? = some (.cells #[.pointer (some ⟨b, qf * 5, none⟩)] 96 (0, 0))) := (hb34.block _ hx1l).trans HBX3.out
  obtain ⟨p0, p1, _⟩ := two_cells HP4.out
  obtain ⟨x0, _⟩ := one_cell HX84.out
  have i0 := (hb34.cell (p := ⟨b, qf * 5, none⟩) (block_lt_of_cell HC3.out)).trans HC3.out
  clear h8 hbA hb4 hb34 HPL HIF HNV HX3 HBV3 HBX3 HC3 hx1l
  go_wp2_with fail
  generalize hfid : (d.files.getD qf f0).id = fid at i0 HG HUR3
  have HFID : Hid ((d.files.getD qf f0).id = fid) := hfid
  have hS : LkS w3.heap.size w1.heap.size b (qf * 5) (.cells #[.pointer (some ⟨b, qv * 5, none⟩), .string last] 103 (0, 0)) (.cells #[.pointer (some ⟨b, qf * 5, none⟩)] 96 (0, 0)) (.int .i64 fid) w4 := ⟨HP4.out, HX84.out, i0⟩
  have z0 : ∀ w', LkS w3.heap.size w1.heap.size b (qf * 5) (.cells #[.pointer (some ⟨b, qv * 5, none⟩), .string last] 103 (0, 0)) (.cells #[.pointer (some ⟨b, qf * 5, none⟩)] 96 (0, 0)) (.int .i64 fid) w' → w'.cell? ⟨w3.heap.size, 0, none⟩ = some (.pointer (some ⟨b, qv * 5, none⟩)) := fun w' h => (two_cells h.p).1
  have z1 : ∀ w', LkS w3.heap.size w1.heap.size b (qf * 5) (.cells #[.pointer (some ⟨b, qv * 5, none⟩), .string last] 103 (0, 0)) (.cells #[.pointer (some ⟨b, qf * 5, none⟩)] 96 (0, 0)) (.int .i64 fid) w' → w'.cell? ⟨w3.heap.size, 1, none⟩ = some (.string last) := fun w' h => (two_cells h.p).2.1
  have z2 : ∀ w', LkS w3.heap.size w1.heap.size b (qf * 5) (.cells #[.pointer (some ⟨b, qv * 5, none⟩), .string last] 103 (0, 0)) (.cells #[.pointer (some ⟨b, qf * 5, none⟩)] 96 (0, 0)) (.int .i64 fid) w' → w'.cell? ⟨w1.heap.size, 0, none⟩ = some (.pointer (some ⟨b, qf * 5, none⟩)) := fun w' h => (one_cell h.x).1
  have z3 : ∀ w', LkS w3.heap.size w1.heap.size b (qf * 5) (.cells #[.pointer (some ⟨b, qv * 5, none⟩), .string last] 103 (0, 0)) (.cells #[.pointer (some ⟨b, qf * 5, none⟩)] 96 (0, 0)) (.int .i64 fid) w' → w'.cell? ⟨b, qf * 5, none⟩ = some (.int .i64 fid) := fun w' h => h.i
  clear p0 p1 x0 i0 hfid
  go_region_held3 (fun w' => LkS w3.heap.size w1.heap.size b (qf * 5) (.cells #[.pointer (some ⟨b, qv * 5, none⟩), .string last] 103 (0, 0)) (.cells #[.pointer (some ⟨b, qf * 5, none⟩)] 96 (0, 0)) (.int .i64 fid) w') (first | assumption | exact LkS.below (by assumption) (Below.drew (nwR _)) | exact hS5) (first
    | (go_at_call 74; refine (pput_any base b cap qv d.files last fid _ (HX4.out.below (Below.drew (nwR _))) hqv (by have := HQD.out.1; omega) HQD.out.2 HNN.out).mono ?_; rintro e w5 ⟨rfl, hx5, hk5, hb5⟩; have hS5 : LkS w3.heap.size w1.heap.size b (qf * 5) (.cells #[.pointer (some ⟨b, qv * 5, none⟩), .string last] 103 (0, 0)) (.cells #[.pointer (some ⟨b, qf * 5, none⟩)] 96 (0, 0)) (.int .i64 fid) w5 := ⟨hk5.2 _ _ _ _ hS.p (by decide) (by decide), hk5.2 _ _ _ _ hS.x (by decide) (by decide), (by have h := hx5.idAt (q := qf) (by rw [List.length_set]; exact hqf); rw [set_id, HFID.out] at h; exact h)⟩)
    | fail)
  have HPT : Hid (OwnPtr w5 base B (putV d qv (last, fid))) := by
    refine ⟨hbB, _, hk5.2 _ _ _ _ HBV4.out (by decide) (by decide) |>.trans ?_, hx5⟩
    rfl
  have HK5 : Hid (KeepU w w5) := ((KeepT.of_below HB4.out).trans ((KeepT.of_below (Below.drew (nwR w4))).trans hk5)).u
  have HB5 : Hid (Below base w w5) := (HB4.out.mono hbw).trans ((Below.drew (Below.refl base w4)).trans hb5)
  clear z0 z1 z2 z3 hS hS5 hx5 hk5 hb5
  go_wp2_with fail
  go_ret
  exact ⟨.inl ⟨_, rfl, HPT.out, HG.out⟩, HK5.out, HB5.out⟩

end Go.Proofs.YtdpighcaieajjabGreat

/- A volume behind an act that holds any values, by the program. -/
namespace Go.Proofs.YtdpighcaieajjabGreat
open Go.RowKit Go.Sort

set_option maxRecDepth 100000 in
set_option maxHeartbeats 1000000 in
theorem change_gen (G : Int → VolD → Prop) (K : Nat) (cs : Array Value) (eK : ∀ args w, (callFunc K args).run Tryz.prog w = .ok (.enter K args) w) (v : Value) (d : VolD) (sa : Option Addr) (ps : List ByteArray) (sc : Nat) (w : World) (hv : VolVal w v d) (hs : SmallV d) (hp : StrsAt w sa ps) (hpl : ps.length ≤ 100000)
    (hact : ∀ (w1 : World) (base B : Nat), Below w.heap.size w w1 → OwnPtr w1 base B d → VolOk d → PathsOk ps → d.snap = false → Calls Tryz.prog K (#[.pointer (some ⟨B, 0, none⟩)] ++ cs) w1 fun e w2 => ActIs G base B e w2 ∧ KeepU w1 w2 ∧ Below base w1 w2) :
    Calls Tryz.prog 42 #[v, .func (.func K) #[] cs, .slice sa ps.length sc] w fun e w' => (∃ u er dd, e = .returned (.tuple #[u, .int .i64 er]) ∧ OwnVol w' w.heap.size u dd ∧ ChangeR G d ps er dd) ∧ Below w.heap.size w w' := by
  have HVV : Hid (VolVal w v d) := hv
  have HS : Hid (SmallV d) := hs
  have HACT : Hid (∀ (w1 : World) (base B : Nat), Below w.heap.size w w1 → OwnPtr w1 base B d → VolOk d → PathsOk ps → d.snap = false → Calls Tryz.prog K (#[.pointer (some ⟨B, 0, none⟩)] ++ cs) w1 fun e w2 => ActIs G base B e w2 ∧ KeepU w1 w2 ∧ Below base w1 w2) := hact
  obtain ⟨a, ca, rfl, _, _⟩ := hv
  have HB0 : Hid (Below w.heap.size w ((w.alloc (.cells #[.int .i64 d.id, .int .i64 d.fr, .bool d.snap, .slice a d.files.length ca, .int .i64 d.next] 24)).alloc (.cells #[.int .i64 0, .int .i64 0, .bool false, .slice none 0 0, .int .i64 0] 24))) := nwA (nwA (nwR w) _) _
  have HR0 : Hid (((w.alloc (.cells #[.int .i64 d.id, .int .i64 d.fr, .bool d.snap, .slice a d.files.length ca, .int .i64 d.next] 24)).alloc (.cells #[.int .i64 0, .int .i64 0, .bool false, .slice none 0 0, .int .i64 0] 24)).heap[w.heap.size + 1]? = some (.cells #[.int .i64 0, .int .i64 0, .bool false, .slice none 0 0, .int .i64 0] 24 (0, 0))) := heap_alloc_new2 w _ _
  have HPS : Hid (StrsAt ((w.alloc (.cells #[.int .i64 d.id, .int .i64 d.fr, .bool d.snap, .slice a d.files.length ca, .int .i64 d.next] 24)).alloc (.cells #[.int .i64 0, .int .i64 0, .bool false, .slice none 0 0, .int .i64 0] 24)) sa ps) := hp.below HB0.out
  have HSZ : Hid (((w.alloc (.cells #[.int .i64 d.id, .int .i64 d.fr, .bool d.snap, .slice a d.files.length ca, .int .i64 d.next] 24)).alloc (.cells #[.int .i64 0, .int .i64 0, .bool false, .slice none 0 0, .int .i64 0] 24)).heap.size = w.heap.size + 2) := by show _ = _; simp
  clear hs hp hact
  go_enter Tryz.func42, Tryz.ntmps42
  go_wp2_with fail
  refine (open_any _ d sa ps sc _ (HVV.out.below HB0.out) HS.out HPS.out hpl).mono ?_
  rintro e w1 ⟨hop, hb1⟩
  have HB1 : Hid (Below w.heap.size w w1) := nwT HB0.out hb1
  have HR1 : Hid (w1.heap[w.heap.size + 1]? = some (.cells #[.int .i64 0, .int .i64 0, .bool false, .slice none 0 0, .int .i64 0] 24 (0, 0))) := (hb1.block _ (Array.getElem?_eq_some_iff.1 HR0.out).1).trans HR0.out
  clear hb1 HR0 HPS
  obtain ⟨r0, r1, r2, r3, r4, rf⟩ := five HR1.out
  rcases hop with ⟨hok, hpo, B, rfl, hown⟩ | ⟨hno, rfl⟩
  case inr =>
    have HNO : Hid (¬ (VolOk d ∧ PathsOk ps)) := hno
    clear hno
    go_wp2_with fail
    refine bodyPost_ret (v := .tuple #[.agg #[.int .i64 0, .int .i64 0, .bool false, .slice none 0 0, .int .i64 0], .int .i64 1]) (by simp [results, Tryz.results42, go_sem, r0, r1, r2, r3, r4]) rfl ⟨⟨_, 1, _, rfl, ownVol_zero _ _, .inr (.inr ⟨HNO.out, rfl, rfl⟩)⟩, ?_⟩
    exact five_below HB1.out (Nat.le_succ _)
  have HOK : Hid (VolOk d ∧ PathsOk ps) := ⟨hok, hpo⟩
  have HOW : Hid (OwnPtr w1 (w.heap.size + 2) B d) := by have h := hown; rw [HSZ.out] at h; exact h
  obtain ⟨hbB, fv, hB1, hX1⟩ := HOW.out
  obtain ⟨fa, fc, rfl, _, _⟩ := hX1.plain.at
  obtain ⟨y0, y1, y2, y3, y4, yf⟩ := five hB1
  clear hok hpo hown hX1 hB1
  cases hsn : d.snap
  case true =>
    rw [hsn] at y2
    have HSN : Hid (d.snap = true) := hsn
    clear hsn
    go_wp2_with fail
    refine bodyPost_ret (v := .tuple #[.agg #[.int .i64 0, .int .i64 0, .bool false, .slice none 0 0, .int .i64 0], .int .i64 9]) (by simp [results, Tryz.results42, go_sem, r0, r1, r2, r3, r4]) rfl ⟨⟨_, 9, _, rfl, ownVol_zero _ _, .inr (.inl ⟨HOK.out.1, HOK.out.2, HSN.out, rfl, rfl⟩)⟩, ?_⟩
    exact five_below HB1.out (Nat.le_succ _)
  case false =>
  rw [hsn] at y2
  have HSN : Hid (d.snap = false) := hsn
  have HCALL : Hid (Calls Tryz.prog K (#[.pointer (some ⟨B, 0, none⟩)] ++ cs) w1 fun e w2 => ActIs G (w.heap.size + 2) B e w2 ∧ KeepU w1 w2 ∧ Below (w.heap.size + 2) w1 w2) := HACT.out w1 _ B HB1.out HOW.out HOK.out.1 HOK.out.2 hsn
  clear hsn
  go_wp2_with fail
  go_at_fn K
  refine HCALL.out.mono ?_
  rintro e w2 ⟨hai, hk2, hb2⟩
  have HB2 : Hid (Below w.heap.size w w2) := HB1.out.trans (hb2.mono (Nat.le_add_right _ _))
  have HR2 : Hid (w2.heap[w.heap.size + 1]? = some (.cells #[.int .i64 0, .int .i64 0, .bool false, .slice none 0 0, .int .i64 0] 24 (0, 0))) := (hb2.block _ (Nat.lt_succ_self _)).trans HR1.out
  clear hk2 hb2 HCALL HACT r0 r1 r2 r3 r4 rf y0 y1 y2 y3 y4 yf HOW HB1 HR1 HB0 HVV HS HSZ
  obtain ⟨q0, q1, q2, q3, q4, qf⟩ := five HR2.out
  rcases hai with ⟨d2, rfl, how2, hg2⟩ | ⟨er, hne, rfl, hg2⟩
  · have HG2 : Hid (G 0 d2) := hg2
    have HOW2 : Hid (OwnPtr w2 (w.heap.size + 2) B d2) := how2
    obtain ⟨_, fv2, hB2, hX2⟩ := HOW2.out
    have HX2 : Hid (OwnFiles w2 (w.heap.size + 2) fv2 d2.files) := hX2.plain
    obtain ⟨fa2, fc2, rfl, _, _⟩ := HX2.out.at
    obtain ⟨z0, z1, z2, z3, z4, zf⟩ := five hB2
    clear hg2 how2 hX2 hB2
    go_wp2_with fail
    obtain ⟨s0, s1, s2, s3, s4, _⟩ := five (five_set (d0 := .int .i64 d2.id) (d1 := .int .i64 d2.fr) (d2 := .bool d2.snap) (d3 := .slice fa2 d2.files.length fc2) (d4 := .int .i64 d2.next) HR2.out)
    refine bodyPost_ret (v := .tuple #[.agg #[.int .i64 d2.id, .int .i64 d2.fr, .bool d2.snap, .slice fa2 d2.files.length fc2, .int .i64 d2.next], .int .i64 0]) (by simp [results, Tryz.results42, go_sem, s0, s1, s2, s3, s4]) rfl ⟨⟨_, 0, d2, rfl, ⟨_, rfl, ?_⟩, .inl ⟨HOK.out.1, HOK.out.2, HSN.out, HG2.out⟩⟩, ?_⟩
    · exact (((((HX2.out.set 0 (Nat.lt_succ_self _) _).set 1 (Nat.lt_succ_self _) _).set 2 (Nat.lt_succ_self _) _).set 3 (Nat.lt_succ_self _) _).set 4 (Nat.lt_succ_self _) _).le (Nat.le_add_right _ _)
    · exact five_below HB2.out (Nat.le_succ _)
  · have HG2 : Hid (G er Go.Proofs.YtdpighcaieajjabGreat.v0) := hg2
    have hne1 : decide (er = 0) = false := decide_eq_false hne
    clear hg2
    go_wp2_with fail
    obtain ⟨s0, s1, s2, s3, s4, _⟩ := five (five_set (d0 := .int .i64 0) (d1 := .int .i64 0) (d2 := .bool false) (d3 := .slice none 0 0) (d4 := .int .i64 0) HR2.out)
    refine bodyPost_ret (v := .tuple #[.agg #[.int .i64 0, .int .i64 0, .bool false, .slice none 0 0, .int .i64 0], .int .i64 er]) (by simp [results, Tryz.results42, go_sem, s0, s1, s2, s3, s4]) rfl ⟨⟨_, er, _, rfl, ownVol_zero _ _, .inl ⟨HOK.out.1, HOK.out.2, HSN.out, HG2.out⟩⟩, ?_⟩
    exact five_below HB2.out (Nat.le_succ _)

end Go.Proofs.YtdpighcaieajjabGreat
