/- Laid together: Deepw, Renw, Renf, Stepm. -/
import Derived.Test.YtdpighcaieajjabGreatTreesM18
import Derived.Deep.CutRange
/- Whether a path would come to be too deep, by the program. -/
namespace Go.Proofs.YtdpighcaieajjabGreat
open Go.RowKit Go.Sort

def deepN (fs : List FileD) (q : Nat) : Nat := (msr fs fs.length q).2
theorem VolOk.tame {d : VolD} (h : VolOk d) {q : Nat} (hq : q < d.files.length) : Tame d.files d.files.length q :=
  tame_of h.web _ _ (fun hd => by
    obtain ⟨k, hk⟩ := (h.2.2.2.1 q hq).lies h.web hd
    exact ⟨k, hk, by omega⟩)
theorem Lies.inside {fs : List FileD} {x k : Nat} (h : Lies fs x k) (W : Web fs) : x < fs.length := by
  cases h with
  | root => exact W.pos
  | step _ hm _ => exact kids_lt W.lin hm
theorem VolOk.many {d : VolD} (h : VolOk d) {q : Nat} (hq : q < d.files.length) : (msr d.files d.files.length q).1 ≤ d.files.length := by
  cases hd : dirAt d.files q
  · rw [msr_leaf q _ hd]; exact Nat.zero_le _
  · obtain ⟨k, hk⟩ := (h.2.2.2.1 q hq).lies h.web hd
    rw [msr_dl]
    have h1 := dl_nodup h.web d.files.length q k hk
    have h2 := nodup_len (m := List.range d.files.length) h1 (fun x hx => by
      obtain ⟨j, hj⟩ := dl_sub _ _ _ hx
      have := (hj.lies hk).inside h.web
      exact List.mem_range.2 this)
    rwa [List.length_range] at h2

set_option maxRecDepth 100000 in
set_option maxHeartbeats 2000000 in
theorem tooDeep_any (B : Nat) (d : VolD) (v : Value) (qf : Nat) (p2 : ByteArray) (M : List ByteArray) (w : World) (hv : VolAt w B d) (hn : NodeOf w B d v qf) (hok : VolOk d) (hs : SmallV d) (hp : pathN p2 = some M) :
    Calls Tryz.prog 78 #[.pointer (some ⟨B, 0, none⟩), v, .string p2] w fun e w' => e = .returned (.bool (decide (5 < M.length + deepN d.files qf))) ∧ Below w.heap.size w w' := by
  have hql : qf < d.files.length := by obtain ⟨_, _, _, _, h, _⟩ := hn; exact h
  have hM := (pathN_some hp).2.2
  have hd5 : deepN d.files qf ≤ 16 := by have h1 := msr_le d.files d.files.length qf; have h2 := hok.2.1.1.2.1; unfold deepN; omega
  have HV : Hid (VolAt w B d) := hv
  have HN : Hid (NodeOf w B d v qf) := hn
  have HME : Hid (∀ w', Below w.heap.size w w' → Calls Tryz.prog 98 #[.pointer (some ⟨B, 0, none⟩), v] w' fun e w'' => (∃ n : Int, e = .returned (.tuple #[.int .i64 n, .int .i64 (deepN d.files qf : Nat)])) ∧ Below w'.heap.size w' w'') := fun w' h =>
    (meas_any B d hs hok.2.2.1.1 d.files.length qf v w' (hv.below h) (hn.below h) (hok.tame hql) (by have h1 := hok.many hql; have h2 := hok.2.1.1.2.1; omega) (by have h1 := msr_le d.files d.files.length qf; have h2 := hok.2.1.1.2.1; omega)).mono fun e w'' ⟨h1, h2⟩ => ⟨⟨_, h1⟩, h2⟩
  have HP : Hid (pathN p2 = some M) := hp
  obtain ⟨a, o, c, _, _, rfl⟩ := hn
  generalize deepN d.files qf = D at hd5 HME
  clear hv hok hs hp
  have hbA := nwA (nwR w) (.cells #[.pointer (some ⟨a, o + qf * 5, none⟩)] 96)
  have HBX : Hid ((w.alloc (.cells #[.pointer (some ⟨a, o + qf * 5, none⟩)] 96)).heap[w.heap.size]? = some (.cells #[.pointer (some ⟨a, o + qf * 5, none⟩)] 96 (0, 0))) := heap_alloc_new w _
  go_enter Tryz.func78, Tryz.ntmps78
  go_wp2_with fail
  refine (split_any p2 _).mono ?_
  rintro e w1 ⟨hsp, hb1⟩
  have HB1 : Hid (Below w.heap.size w w1) := nwT hbA hb1
  obtain ⟨x0, _⟩ := one_cell ((hb1.block _ (Array.getElem?_eq_some_iff.1 HBX.out).1).trans HBX.out)
  rcases hsp with ⟨xs, v2, h1, rfl, h2⟩ | ⟨h1, _⟩
  · have e : xs = M := by rw [HP.out] at h1; injection h1 with h1; exact h1.symm
    subst e
    obtain ⟨sa, sc, rfl, _⟩ := h2.at
    clear h1 h2 hb1 hbA
    go_wp2_with fail
    refine (HME.out _ HB1.out).mono ?_
    rintro e w2 ⟨⟨n, rfl⟩, hb2⟩
    have HB2 : Hid (Below w.heap.size w w2) := nwT HB1.out hb2
    clear hb2 x0 HME
    have HDE : Hid (decide (5 < (xs.length : Int) + (D : Int)) = decide (5 < xs.length + D)) := by
      show _ = _
      rw [decide_eq_decide]; omega
    go_wp2_with fail
    go_ret
    refine ⟨?_, HB2.out⟩
    rw [← HDE.out]
    rfl
  · rw [HP.out] at h1; cases h1

end Go.Proofs.YtdpighcaieajjabGreat

/- Another name in the place of a name, by the program. -/
namespace Go.Proofs.YtdpighcaieajjabGreat
open Go.RowKit Go.Sort

theorem StrictL.of_pair {l : List LinkD} (h : l.Pairwise (fun a b => ltS a.1 b.1 = true)) : StrictL l := by
  intro i j hij hj
  rw [List.pairwise_iff_getElem] at h
  have := h i j (by omega) hj hij
  simpa [List.getD, hj, show i < l.length by omega] using this
theorem cutL_sub (l : List LinkD) (k : Nat) : (cutL l k).Sublist l := by
  have h : (l.take k ++ l.drop (k + 1)).Sublist (l.take k ++ l.drop k) := List.Sublist.append_left (by
    rw [show l.drop (k + 1) = (l.drop k).drop 1 from by rw [List.drop_drop]]
    exact List.drop_sublist _ _) _
  rwa [List.take_append_drop] at h
theorem StrictL.cut {l : List LinkD} (h : StrictL l) (k : Nat) : StrictL (cutL l k) := StrictL.of_pair (h.pair.sublist (cutL_sub l k))
theorem cutFs_list (fs : List FileD) (qa k qv : Nat) (hq : qv < fs.length) : ((cutFs fs qa k).getD qv f0).list = if qa = qv then cutL (fs.getD qv f0).list k else (fs.getD qv f0).list := by
  unfold cutFs
  by_cases e : qa = qv
  · subst e; rw [if_pos rfl]; simp [List.getD, hq, withList]
  · rw [if_neg e]; simp [List.getD, List.getElem?_set_ne e]
/-- the volume where a link has moved -/
def movV (d : VolD) (qa k qv : Nat) (x : LinkD) : VolD := putV ⟨d.id, d.fr, d.snap, cutFs d.files qa k, d.next⟩ qv x
def renR (d : VolD) (L M : List ByteArray) : Int × VolD :=
  if L.length = 0 ∨ M.length = 0 then (8, Go.Proofs.YtdpighcaieajjabGreat.v0) else if (findF d.files 0 L).2 = 0 then (if L = M then (0, d) else if ((d.files.getD (findF d.files 0 L).1 f0).dir && un L M) = true then (8, Go.Proofs.YtdpighcaieajjabGreat.v0) else if (vacF d.files M).2 = 0 then (if (8 ≤ (d.files.getD (vacF d.files M).1 f0).list.length ∧ (vacF d.files M).1 ≠ (parF d.files L).1) ∨ 5 < M.length + deepN d.files (findF d.files 0 L).1 then (2, Go.Proofs.YtdpighcaieajjabGreat.v0) else (0, movV d (parF d.files L).1 ((namedI (d.files.getD (parF d.files L).1 f0).list (lastN L)).getD 0) (vacF d.files M).1 (lastN M, (d.files.getD (findF d.files 0 L).1 f0).id))) else ((vacF d.files M).2, Go.Proofs.YtdpighcaieajjabGreat.v0)) else ((findF d.files 0 L).2, Go.Proofs.YtdpighcaieajjabGreat.v0)
theorem path_eq {p q : ByteArray} {L M : List ByteArray} (hp : pathN p = some L) (hq : pathN q = some M) : p = q ↔ L = M := by
  constructor
  · intro e; subst e; rw [hp] at hq; injection hq
  · intro e; subst e; rw [← (pathN_some hp).1, ← (pathN_some hq).1]
structure RnS (P X b o : Nat) (pl xl : Obj) (v : Value) (w : World) : Prop where
  p : w.heap[P]? = some pl
  x : w.heap[X]? = some xl
  i : w.cell? ⟨b, o, none⟩ = some v
theorem RnS.below {P X b o : Nat} {pl xl : Obj} {v : Value} {w w' : World} (h : RnS P X b o pl xl v w) (hb : Below w.heap.size w w') : RnS P X b o pl xl v w' :=
  ⟨(hb.block _ (Array.getElem?_eq_some_iff.1 h.p).1).trans h.p, (hb.block _ (Array.getElem?_eq_some_iff.1 h.x).1).trans h.x, (hb.cell (p := ⟨b, o, none⟩) (block_lt_of_cell h.i)).trans h.i⟩
theorem toList_eqb {a b : ByteArray} (h : a = b) : (a.toList == b.toList) = true := by subst h; simp

set_option maxRecDepth 100000 in
set_option maxHeartbeats 8000000 in
theorem rename_any (base B : Nat) (d : VolD) (p : ByteArray) (L : List ByteArray) (p2 : ByteArray) (M : List ByteArray) (w : World) (ho : OwnPtr w base B d) (hok : VolOk d) (hs : SmallV d) (hp : pathN p = some L) (hp2 : pathN p2 = some M) :
    Calls Tryz.prog 59 #[.pointer (some ⟨B, 0, none⟩), .string p, .string p2] w fun e w' => ActIs (Act2G renR d L M) base B e w' ∧ KeepU w w' ∧ Below base w w' := by
  have hbw : base ≤ w.heap.size := by obtain ⟨h0, fv, h1, _⟩ := ho; have := (Array.getElem?_eq_some_iff.1 h1).1; omega
  have hbB : base ≤ B := ho.1
  have hpos : 0 < d.files.length := hok.2.1.1.1
  have HO : Hid (OwnPtr w base B d) := ho
  have HS : Hid (SmallV d) := hs
  have HOK : Hid (VolOk d) := hok
  have HP2 : Hid (pathN p2 = some M) := hp2
  by_cases hr1 : p.toList = [47] ∨ p2.toList = [47]
  · have HG : Hid (Act2G renR d L M 8 Go.Proofs.YtdpighcaieajjabGreat.v0) := by
      have hz : L.length = 0 ∨ M.length = 0 := by
        rcases hr1 with h | h
        · left; have := pathN_root h; rw [hp] at this; injection this with this; rw [this]; rfl
        · right; have := pathN_root h; rw [hp2] at this; injection this with this; rw [this]; rfl
      show _ = _; unfold renR; rw [if_pos hz]
    clear ho hs hok hp hp2
    by_cases h1 : p.toList = [47]
    · have hrb : (p.toList == [47]) = true := beq_iff_eq.2 h1
      clear hr1 h1
      go_enter Tryz.func59, Tryz.ntmps59
      go_wp2_with fail
      go_ret
      exact ⟨.inr ⟨8, by decide, rfl, HG.out⟩, (KeepT.of_below (nwR w)).u, (nwR w).mono hbw⟩
    · have hrb : (p.toList == [47]) = false := beq_eq_false_iff_ne.2 h1
      have hrb2 : (p2.toList == [47]) = true := beq_iff_eq.2 (by rcases hr1 with h | h; exact absurd h h1; exact h)
      clear hr1 h1
      go_enter Tryz.func59, Tryz.ntmps59
      go_wp2_with fail
      go_ret
      exact ⟨.inr ⟨8, by decide, rfl, HG.out⟩, (KeepT.of_below (nwR w)).u, (nwR w).mono hbw⟩
  have hrb : (p.toList == [47]) = false := beq_eq_false_iff_ne.2 (fun h => hr1 (.inl h))
  have hrb2 : (p2.toList == [47]) = false := beq_eq_false_iff_ne.2 (fun h => hr1 (.inr h))
  have hLp := path_pos hp (fun h => hr1 (.inl h))
  have hMp := path_pos hp2 (fun h => hr1 (.inr h))
  have HUR : Hid (renR d L M = if (findF d.files 0 L).2 = 0 then (if L = M then (0, d) else if ((d.files.getD (findF d.files 0 L).1 f0).dir && un L M) = true then (8, Go.Proofs.YtdpighcaieajjabGreat.v0) else if (vacF d.files M).2 = 0 then (if (8 ≤ (d.files.getD (vacF d.files M).1 f0).list.length ∧ (vacF d.files M).1 ≠ (parF d.files L).1) ∨ 5 < M.length + deepN d.files (findF d.files 0 L).1 then (2, Go.Proofs.YtdpighcaieajjabGreat.v0) else (0, movV d (parF d.files L).1 ((namedI (d.files.getD (parF d.files L).1 f0).list (lastN L)).getD 0) (vacF d.files M).1 (lastN M, (d.files.getD (findF d.files 0 L).1 f0).id))) else ((vacF d.files M).2, Go.Proofs.YtdpighcaieajjabGreat.v0)) else ((findF d.files 0 L).2, Go.Proofs.YtdpighcaieajjabGreat.v0)) := by
    show _ = _; unfold renR; rw [if_neg (by omega)]
  have HFP : Hid (Calls Tryz.prog 67 #[.pointer (some ⟨B, 0, none⟩), .string p] w fun e w' => FindIs d (findF d.files 0 L) B e w' ∧ Below w.heap.size w w') := findp_any B d p L w ho.at hs hok.sound hok.one hp (by have := (pathN_some hp).2.2; omega)
  have HVC : Hid (∀ w', Below w.heap.size w w' → Calls Tryz.prog 72 #[.pointer (some ⟨B, 0, none⟩), .string p2] w' fun e w'' => PlaceIs d (vacF d.files M) (lastN M) B e w'' ∧ Below w'.heap.size w' w'') := fun w' h => vacant_any B d p2 M w' (ho.below h).at hs hok.sound hok.one hp2
  have HPL : Hid (∀ w', Below w.heap.size w w' → Calls Tryz.prog 77 #[.pointer (some ⟨B, 0, none⟩), .string p] w' fun e w'' => PlaceIs d (parF d.files L) (lastN L) B e w'' ∧ Below w'.heap.size w' w'') := fun w' h => place_any B d p L w' (ho.below h).at hs hok.sound hok.one hp hLp
  have HUN : Hid (∀ w', Calls Tryz.prog 76 #[.string p, .string p2] w' fun e w'' => e = .returned (.tuple #[.bool (un L M), .int .i64 0]) ∧ Below w'.heap.size w' w'') := fun w' => (under_any p p2 w').mono fun e w'' ⟨h1, h2⟩ => ⟨by rw [h1]; unfold underO; rw [hp, hp2]; rfl, h2⟩
  have HNW : Hid (∀ q, vacF d.files M = (q, 0) → ∀ y ∈ (d.files.getD q f0).list, y.1 ≠ lastN M) := fun q h => vac_new h
  have HFPR : Hid (∀ q, findF d.files 0 L = (q, 0) → ∃ qp k, parF d.files L = (qp, 0) ∧ (d.files.getD qp f0).dir = true ∧ namedI (d.files.getD qp f0).list (lastN L) = some k ∧ q = placeOf d.files ((d.files.getD qp f0).list.getD k lk0).2) := fun q h => find_par hLp h
  have HPE : Hid (p = p2 ↔ L = M) := path_eq hp hp2
  have HTD : Hid (∀ (w' : World) (v : Value) (q : Nat), VolAt w' B d → NodeOf w' B d v q → Calls Tryz.prog 78 #[.pointer (some ⟨B, 0, none⟩), v, .string p2] w' fun e w'' => e = .returned (.bool (decide (5 < M.length + deepN d.files q))) ∧ Below w'.heap.size w' w'') := fun w' v q h1 h2 => tooDeep_any B d v q p2 M w' h1 h2 hok hs hp2
  generalize lastN M = lastq at HVC HUR HNW
  generalize lastN L = lastp at HPL HUR HFPR
  generalize un L M = U at HUN HUR
  clear ho hs hok hp hp2 hr1 hLp hMp
  go_enter Tryz.func59, Tryz.ntmps59
  go_wp2_with fail
  refine HFP.out.mono ?_
  rintro e w1 ⟨⟨u, rfl, hyes, hnone⟩, hb1⟩
  have HB1 : Hid (Below w.heap.size w w1) := hb1
  have HO1 : Hid (OwnPtr w1 base B d) := HO.out.below hb1
  generalize hr : findF d.files 0 L = r at hyes hnone HUR HFPR ⊢
  clear hr hb1
  obtain ⟨qf, er⟩ := r
  simp only at hyes hnone HUR ⊢
  by_cases her : er = 0
  case neg =>
    have hu := hnone her
    subst hu
    have HG : Hid (Act2G renR d L M er Go.Proofs.YtdpighcaieajjabGreat.v0) := by show _ = _; rw [HUR.out, if_neg her]
    have hd1 : decide (er = 0) = false := decide_eq_false her
    have hd2 : (er == 0) = false := beq_eq_false_iff_ne.2 her
    clear hyes hnone
    go_wp2_with fail
    go_ret
    exact ⟨.inr ⟨er, her, rfl, HG.out⟩, (KeepT.of_below (nwA HB1.out _)).u, (nwA HB1.out _).mono hbw⟩
  case pos =>
  subst her
  obtain ⟨qa, k, hpar, hpd, hnk, hqq⟩ := HFPR.out qf rfl
  have HUR1 : Hid (renR d L M = if L = M then (0, d) else if ((d.files.getD qf f0).dir && U) = true then (8, Go.Proofs.YtdpighcaieajjabGreat.v0) else if (vacF d.files M).2 = 0 then (if (8 ≤ (d.files.getD (vacF d.files M).1 f0).list.length ∧ (vacF d.files M).1 ≠ qa) ∨ 5 < M.length + deepN d.files qf then (2, Go.Proofs.YtdpighcaieajjabGreat.v0) else (0, movV d qa k (vacF d.files M).1 (lastq, (d.files.getD qf f0).id))) else ((vacF d.files M).2, Go.Proofs.YtdpighcaieajjabGreat.v0)) := by
    have h := HUR.out
    rw [if_pos rfl, hpar] at h
    simp only at h
    rw [hnk] at h
    exact h
  have HNK : Hid (namedI (d.files.getD qa f0).list lastp = some k) := hnk
  have HPL1 : Hid (∀ w', Below w.heap.size w w' → Calls Tryz.prog 77 #[.pointer (some ⟨B, 0, none⟩), .string p] w' fun e w'' => PlaceIs d (qa, 0) lastp B e w'' ∧ Below w'.heap.size w' w'') := fun w' h => by have h2 := HPL.out w' h; rw [hpar] at h2; exact h2
  clear HUR HFPR HPL hpar hpd hnk hqq HFP
  obtain ⟨g, cap, hB1, hX1⟩ := HO1.out.slice hpos
  have hno := hyes rfl
  have hqf : qf < d.files.length := by obtain ⟨_, _, _, _, h, _⟩ := hno; exact h
  obtain ⟨b, o, bv, lv, hu, ⟨c0, c1, _, _, _⟩, _⟩ := HO1.out.node hno
  have HNO : Hid (NodeOf w1 B d u qf) := hno
  have hpe := hno.eq hB1
  rw [hu] at hpe
  simp only [Value.agg.injEq, Array.mk.injEq, List.cons.injEq, and_true, Nat.zero_add, Value.pointer.injEq, Option.some.injEq, Addr.mk.injEq] at hpe
  obtain ⟨rfl, rfl⟩ := hpe
  subst hu
  have HBV : Hid (w1.heap[B]? = some (.cells #[.int .i64 d.id, .int .i64 d.fr, .bool d.snap, .slice (some ⟨b, 0, none⟩) d.files.length cap, .int .i64 d.next] 89 (0, 0))) := hB1
  have HX1 : Hid (OwnFilesX w1 base (.slice (some ⟨b, 0, none⟩) d.files.length cap) d.files) := hX1
  clear hyes hnone hno hB1 hX1
  have hbA := nwA (nwR w1) (.cells #[.pointer (some ⟨b, qf * 5, none⟩)] 96)
  by_cases heq : p = p2
  case pos =>
    have HG : Hid (Act2G renR d L M 0 d) := by show _ = _; rw [HUR1.out, if_pos (HPE.out.1 heq)]
    have hqb := toList_eqb heq
    clear heq
    go_wp2_with fail
    go_ret
    exact ⟨.inl ⟨d, rfl, HO1.out.below hbA, HG.out⟩, (KeepT.of_below (nwA HB1.out _)).u, (nwA HB1.out _).mono hbw⟩
  case neg =>
  have HUR2 : Hid (renR d L M = if ((d.files.getD qf f0).dir && U) = true then (8, Go.Proofs.YtdpighcaieajjabGreat.v0) else if (vacF d.files M).2 = 0 then (if (8 ≤ (d.files.getD (vacF d.files M).1 f0).list.length ∧ (vacF d.files M).1 ≠ qa) ∨ 5 < M.length + deepN d.files qf then (2, Go.Proofs.YtdpighcaieajjabGreat.v0) else (0, movV d qa k (vacF d.files M).1 (lastq, (d.files.getD qf f0).id))) else ((vacF d.files M).2, Go.Proofs.YtdpighcaieajjabGreat.v0)) := by
    show _ = _; rw [HUR1.out, if_neg (fun h => heq (HPE.out.2 h))]
  have hqb := toList_ne heq
  have HBXA : Hid ((w1.alloc (.cells #[.pointer (some ⟨b, qf * 5, none⟩)] 96)).heap[w1.heap.size]? = some (.cells #[.pointer (some ⟨b, qf * 5, none⟩)] 96 (0, 0))) := heap_alloc_new w1 _
  have HC0 : Hid (w1.cell? ⟨b, qf * 5, none⟩ = some (.int .i64 (d.files.getD qf f0).id)) := c0
  have HC1 : Hid (w1.cell? ⟨b, qf * 5 + 1, none⟩ = some (.bool (d.files.getD qf f0).dir)) := c1
  clear heq c0 c1 HUR1 HPE
  go_wp2_with fail
  refine (HUN.out _).mono ?_
  rintro e w2 ⟨rfl, hb2⟩
  have hb12 := nwT hbA hb2
  have HB2 : Hid (Below w.heap.size w w2) := nwT HB1.out hb12
  have HBX2 : Hid (w2.heap[w1.heap.size]? = some (.cells #[.pointer (some ⟨b, qf * 5, none⟩)] 96 (0, 0))) := (hb2.block _ (Array.getElem?_eq_some_iff.1 HBXA.out).1).trans HBXA.out
  have c1 := (hb12.cell (p := ⟨b, qf * 5 + 1, none⟩) (block_lt_of_cell HC1.out)).trans HC1.out
  obtain ⟨x0, _⟩ := one_cell HBX2.out
  generalize (d.files.getD qf f0).dir = D at c1 HUR2
  have HB12 : Hid (Below w1.heap.size w1 w2) := hb12
  clear hb2 hb12 hbA HC1 HBXA HUN hqb
  go_upto_region 9 with fail
  go_cut [48] from 41 to 47 (fun s48 wx => s48 = .bool (D && U) ∧ wx = w2)
  case first =>
    cases D
    · go_wp2_with fail
      go_meet
      exact ⟨by simp, rfl⟩
    · go_wp2_with fail
      go_meet
      exact ⟨by simp, rfl⟩
  case rest =>
  obtain ⟨rfl, rfl⟩ := hcut
  clear x0 c1
  cases hDU : (D && U)
  case true =>
    have HG : Hid (Act2G renR d L M 8 Go.Proofs.YtdpighcaieajjabGreat.v0) := by show _ = _; rw [HUR2.out, if_pos hDU]
    clear hDU
    go_wp2_with fail
    go_ret
    exact ⟨.inr ⟨8, by decide, rfl, HG.out⟩, (KeepT.of_below HB2.out).u, HB2.out.mono hbw⟩
  case false =>
  have HUR3 : Hid (renR d L M = if (vacF d.files M).2 = 0 then (if (8 ≤ (d.files.getD (vacF d.files M).1 f0).list.length ∧ (vacF d.files M).1 ≠ qa) ∨ 5 < M.length + deepN d.files qf then (2, Go.Proofs.YtdpighcaieajjabGreat.v0) else (0, movV d qa k (vacF d.files M).1 (lastq, (d.files.getD qf f0).id))) else ((vacF d.files M).2, Go.Proofs.YtdpighcaieajjabGreat.v0)) := by
    show _ = _; rw [HUR2.out, hDU]; rfl
  clear hDU HUR2
  rename World => w2
  go_wp2_with fail
  refine (HPL1.out _ HB2.out).mono ?_
  rintro e wp ⟨⟨u, rfl, hyes, _⟩, hbp⟩
  obtain ⟨pv, hno, rfl⟩ := hyes rfl
  simp only at hno ⊢
  have hqa : qa < d.files.length := by obtain ⟨_, _, _, _, h, _⟩ := hno; exact h
  have hb1p := nwT HB12.out hbp
  have hpe := hno.eq ((hb1p.block _ (Array.getElem?_eq_some_iff.1 HBV.out).1).trans HBV.out)
  simp only [Value.agg.injEq, Array.mk.injEq, List.cons.injEq, and_true, Nat.zero_add] at hpe
  subst hpe
  have HBP : Hid (Below w1.heap.size w1 wp) := hb1p
  have HBXP : Hid (wp.heap[w1.heap.size]? = some (.cells #[.pointer (some ⟨b, qf * 5, none⟩)] 96 (0, 0))) := (hbp.block _ (Array.getElem?_eq_some_iff.1 HBX2.out).1).trans HBX2.out
  have HPFA : Hid ((wp.alloc (.cells #[.pointer (some ⟨b, qa * 5, none⟩), .string lastp] 103)).heap[wp.heap.size]? = some (.cells #[.pointer (some ⟨b, qa * 5, none⟩), .string lastp] 103 (0, 0))) := heap_alloc_new wp _
  have hbPA := nwA (nwR wp) (.cells #[.pointer (some ⟨b, qa * 5, none⟩), .string lastp] 103)
  have hVC := HVC.out _ (nwT HB1.out (nwT hb1p hbPA))
  have HVC1 : Hid (Calls Tryz.prog 72 #[.pointer (some ⟨B, 0, none⟩), .string p2] (wp.alloc (.cells #[.pointer (some ⟨b, qa * 5, none⟩), .string lastp] 103)) fun e w'' => PlaceIs d (vacF d.files M) lastq B e w'' ∧ Below (wp.alloc (.cells #[.pointer (some ⟨b, qa * 5, none⟩), .string lastp] 103)).heap.size (wp.alloc (.cells #[.pointer (some ⟨b, qa * 5, none⟩), .string lastp] 103)) w'') := hVC
  clear hyes hno hb1p hbp HBX2 HB12 HB2 HPL1 HVC hVC
  go_wp2_with fail
  refine HVC1.out.mono ?_
  rintro e w3 ⟨⟨u, rfl, hyes, hnone⟩, hb3⟩
  have hbp3 := nwT hbPA hb3
  have hb13 := nwT HBP.out hbp3
  have HB3 : Hid (Below w.heap.size w w3) := nwT HB1.out hb13
  have HX3 : Hid (OwnFilesX w3 base (.slice (some ⟨b, 0, none⟩) d.files.length cap) d.files) := HX1.out.below hb13
  have HBV3 : Hid (w3.heap[B]? = some (.cells #[.int .i64 d.id, .int .i64 d.fr, .bool d.snap, .slice (some ⟨b, 0, none⟩) d.files.length cap, .int .i64 d.next] 89 (0, 0))) := (hb13.block _ (Array.getElem?_eq_some_iff.1 HBV.out).1).trans HBV.out
  have HBX3 : Hid (w3.heap[w1.heap.size]? = some (.cells #[.pointer (some ⟨b, qf * 5, none⟩)] 96 (0, 0))) := (hbp3.block _ (Array.getElem?_eq_some_iff.1 HBXP.out).1).trans HBXP.out
  have HPF3 : Hid (w3.heap[wp.heap.size]? = some (.cells #[.pointer (some ⟨b, qa * 5, none⟩), .string lastp] 103 (0, 0))) := (hb3.block _ (Array.getElem?_eq_some_iff.1 HPFA.out).1).trans HPFA.out
  have HNO3 : Hid (NodeOf w3 B d (.agg #[.pointer (some ⟨b, qf * 5, none⟩)]) qf) := HNO.out.below hb13
  generalize hr : vacF d.files M = r at hyes hnone HUR3 HNW ⊢
  clear hr hbPA hb3 hbp3 hb13 HBV HX1 HPFA HC0 HVC1 HBP HBXP HNO HO1
  obtain ⟨qv, er⟩ := r
  simp only at hyes hnone HUR3 ⊢
  by_cases her : er = 0
  case neg =>
    have hu := hnone her
    subst hu
    have HG : Hid (Act2G renR d L M er Go.Proofs.YtdpighcaieajjabGreat.v0) := by show _ = _; rw [HUR3.out, if_neg her]
    have hd1 : decide (er = 0) = false := decide_eq_false her
    have hd2 : (er == 0) = false := beq_eq_false_iff_ne.2 her
    clear hyes hnone
    go_wp2_with fail
    go_ret
    exact ⟨.inr ⟨er, her, rfl, HG.out⟩, (KeepT.of_below (nwA HB3.out _)).u, (nwA HB3.out _).mono hbw⟩
  case pos =>
  subst her
  have HUR4 : Hid (renR d L M = if (8 ≤ (d.files.getD qv f0).list.length ∧ qv ≠ qa) ∨ 5 < M.length + deepN d.files qf then (2, Go.Proofs.YtdpighcaieajjabGreat.v0) else (0, movV d qa k qv (lastq, (d.files.getD qf f0).id))) := by show _ = _; rw [HUR3.out, if_pos rfl]
  obtain ⟨pv, hno, rfl⟩ := hyes rfl
  have hqv : qv < d.files.length := by obtain ⟨_, _, _, _, h, _⟩ := hno; exact h
  have hpe := hno.eq HBV3.out
  simp only [Value.agg.injEq, Array.mk.injEq, List.cons.injEq, and_true, Nat.zero_add] at hpe
  subst hpe
  have HVA3 : Hid (VolAt w3 B d) := by
    obtain ⟨a, c, e, h1, h2⟩ := HX3.out.plain.at
    simp only [Value.slice.injEq] at e
    obtain ⟨rfl, _, rfl⟩ := e
    exact ⟨_, _, HBV3.out, h1, h2⟩
  have HNV : Hid (NodeVal w3 (.agg #[.pointer (some ⟨b, qv * 5, none⟩)]) (d.files.getD qv f0)) := hno.val HVA3.out
  have HNN : Hid (∀ y ∈ (d.files.getD qv f0).list, y.1 ≠ lastq) := HNW.out qv rfl
  have HQV : Hid ((d.files.getD qv f0).list.length ≤ 8 ∧ StrictL (d.files.getD qv f0).list) := HOK.out.dirq hqv
  have HQA : Hid ((d.files.getD qa f0).list.length ≤ 8 ∧ StrictL (d.files.getD qa f0).list) := HOK.out.dirq hqa
  have HIDS : Hid ((d.files.getD qv f0).id = (d.files.getD qa f0).id ↔ qv = qa) := by
    constructor
    · intro h
      have h1 := placeOf_self HOK.out.web.ris hqv
      have h2 := placeOf_self HOK.out.web.ris hqa
      rw [h, h2] at h1; exact h1.symm
    · intro h; rw [h]
  clear hyes hnone hno HUR3 HNW
  have hbA := nwA (nwR w3) (.cells #[.pointer (some ⟨b, qv * 5, none⟩), .string lastq] 103)
  have HPTA : Hid ((w3.alloc (.cells #[.pointer (some ⟨b, qv * 5, none⟩), .string lastq] 103)).heap[w3.heap.size]? = some (.cells #[.pointer (some ⟨b, qv * 5, none⟩), .string lastq] 103 (0, 0))) := heap_alloc_new w3 _
  have HB4 : Hid (Below w.heap.size w (w3.alloc (.cells #[.pointer (some ⟨b, qv * 5, none⟩), .string lastq] 103))) := nwT HB3.out hbA
  have HX4 : Hid (OwnFilesX (w3.alloc (.cells #[.pointer (some ⟨b, qv * 5, none⟩), .string lastq] 103)) base (.slice (some ⟨b, 0, none⟩) d.files.length cap) d.files) := HX3.out.below hbA
  have HBV4 : Hid ((w3.alloc (.cells #[.pointer (some ⟨b, qv * 5, none⟩), .string lastq] 103)).heap[B]? = some (.cells #[.int .i64 d.id, .int .i64 d.fr, .bool d.snap, .slice (some ⟨b, 0, none⟩) d.files.length cap, .int .i64 d.next] 89 (0, 0))) := (hbA.block _ (Array.getElem?_eq_some_iff.1 HBV3.out).1).trans HBV3.out
  have HBX4 : Hid ((w3.alloc (.cells #[.pointer (some ⟨b, qv * 5, none⟩), .string lastq] 103)).heap[w1.heap.size]? = some (.cells #[.pointer (some ⟨b, qf * 5, none⟩)] 96 (0, 0))) := (hbA.block _ (Array.getElem?_eq_some_iff.1 HBX3.out).1).trans HBX3.out
  have HPF4 : Hid ((w3.alloc (.cells #[.pointer (some ⟨b, qv * 5, none⟩), .string lastq] 103)).heap[wp.heap.size]? = some (.cells #[.pointer (some ⟨b, qa * 5, none⟩), .string lastp] 103 (0, 0))) := (hbA.block _ (Array.getElem?_eq_some_iff.1 HPF3.out).1).trans HPF3.out
  have HNV4 : Hid (NodeVal (w3.alloc (.cells #[.pointer (some ⟨b, qv * 5, none⟩), .string lastq] 103)) (.agg #[.pointer (some ⟨b, qv * 5, none⟩)]) (d.files.getD qv f0)) := HNV.out.below hbA
  have HVA4 : Hid (VolAt (w3.alloc (.cells #[.pointer (some ⟨b, qv * 5, none⟩), .string lastq] 103)) B d) := HVA3.out.below hbA
  have HNO4 : Hid (NodeOf (w3.alloc (.cells #[.pointer (some ⟨b, qv * 5, none⟩), .string lastq] 103)) B d (.agg #[.pointer (some ⟨b, qf * 5, none⟩)]) qf) := HNO3.out.below hbA
  clear hbA HB3 HX3 HBV3 HBX3 HPF3 HNV HVA3 HNO3
  go_upto_region 17 with fail
  generalize w3.alloc (.cells #[.pointer (some ⟨b, qv * 5, none⟩), .string lastq] 103) = W4 at HPTA HB4 HX4 HBV4 HBX4 HPF4 HNV4 HVA4 HNO4 ⊢
  obtain ⟨F8, hF8⟩ : ∃ F8, decide (8 ≤ (d.files.getD qv f0).list.length) = F8 := ⟨_, rfl⟩
  obtain ⟨DD, hDD⟩ : ∃ DD, decide (5 < M.length + deepN d.files qf) = DD := ⟨_, rfl⟩
  obtain ⟨EE, hEE⟩ : ∃ EE, decide (qv = qa) = EE := ⟨_, rfl⟩
  have HIF : Hid (∀ p : Kin W4, Calls Tryz.prog 73 #[.agg #[.pointer (some ⟨b, qv * 5, none⟩)]] p.u fun e w' => e = .returned (.bool F8) ∧ Below p.u.heap.size p.u w') := fun p => by
    have h := isFull_any _ _ _ (HNV4.out.below p.h); rw [hF8] at h; exact h
  have HTD4 : Hid (∀ p : Kin W4, Calls Tryz.prog 78 #[.pointer (some ⟨B, 0, none⟩), .agg #[.pointer (some ⟨b, qf * 5, none⟩)], .string p2] p.u fun e w' => e = .returned (.bool DD) ∧ Below p.u.heap.size p.u w') := fun p => by
    have h := HTD.out p.u _ qf (HVA4.out.below p.h) (HNO4.out.below p.h); rw [hDD] at h; exact h
  have HGG : Hid ((F8 && !EE || DD) = true ↔ ((8 ≤ (d.files.getD qv f0).list.length ∧ qv ≠ qa) ∨ 5 < M.length + deepN d.files qf)) := by
    show _ ↔ _
    rw [← hF8, ← hEE, ← hDD]
    simp
  obtain ⟨p0, p1, _⟩ := two_cells HPTA.out
  obtain ⟨r0, r1, _⟩ := two_cells HPF4.out
  obtain ⟨x0, _⟩ := one_cell HBX4.out
  have iv := HX4.out.idAt hqv
  have ia := HX4.out.idAt hqa
  have HIQ : Hid ((d.files.getD qv f0).id = (d.files.getD qa f0).id ↔ EE = true) := by
    rw [← hEE]; show _ ↔ _; rw [decide_eq_true_iff]; exact HIDS.out
  clear hF8 hDD hEE HTD HNV4 HVA4 HNO4 HIDS
  go_cut [90] from 67 to 89 (fun s90 wx => s90 = .bool (F8 && !EE || DD) ∧ Below W4.heap.size W4 wx)
  case first =>
    generalize (d.files.getD qv f0).id = idv at iv HIQ
    generalize (d.files.getD qa f0).id = ida at ia HIQ
    have z0 : ∀ p : Kin W4, p.u.cell? ⟨w3.heap.size, 0, none⟩ = some (.pointer (some ⟨b, qv * 5, none⟩)) := fun p => kcell p0 p
    have z2 : ∀ p : Kin W4, p.u.cell? ⟨wp.heap.size, 0, none⟩ = some (.pointer (some ⟨b, qa * 5, none⟩)) := fun p => kcell r0 p
    have z3 : ∀ p : Kin W4, p.u.cell? ⟨w1.heap.size, 0, none⟩ = some (.pointer (some ⟨b, qf * 5, none⟩)) := fun p => kcell x0 p
    have z4 : ∀ p : Kin W4, p.u.cell? ⟨b, qv * 5, none⟩ = some (.int .i64 idv) := fun p => kcell iv p
    clear p0 p1 r0 r1 x0 iv
    cases EE
    · have hne : ¬ idv = ida := fun h => by have := HIQ.out.1 h; cases this
      have hn1 : (idv == ida) = false := beq_eq_false_iff_ne.2 hne
      have hn2 : decide (idv = ida) = false := decide_eq_false hne
      have hn3 : (idv != ida) = true := bne_iff_ne.2 hne
      have hn4 : (!decide (idv = ida)) = true := by rw [hn2]; rfl
      have z5 : ∀ p : Kin W4, p.u.cell? ⟨b, qa * 5, none⟩ = some (.int .i64 ida) := fun p => kcell ia p
      clear ia HIQ
      cases F8
      · refine wp_region_kin (by kernel_rfl) (by kernel_rfl) ?_
        repeat (first | go_big_quiet_step (first | (go_at_call 73; exact Calls.kin_of (HIF.out _)) | (go_at_call 78; exact Calls.kin_of (HTD4.out _)) | fail) | quiet_step (first | (go_at_call 73; exact Calls.kin_of (HIF.out _)) | (go_at_call 78; exact Calls.kin_of (HTD4.out _)) | fail))
        refine wpQuiet_nil ?_
        intro _ hw'
        obtain ⟨pq, hw''⟩ := hw'
        subst hw''
        go_wp2_with fail
        go_meet
        exact ⟨by simp, pq.h⟩
      · refine wp_region_kin (by kernel_rfl) (by kernel_rfl) ?_
        repeat (first | go_big_quiet_step (first | (go_at_call 73; exact Calls.kin_of (HIF.out _)) | (go_at_call 78; exact Calls.kin_of (HTD4.out _)) | fail) | quiet_step (first | (go_at_call 73; exact Calls.kin_of (HIF.out _)) | (go_at_call 78; exact Calls.kin_of (HTD4.out _)) | fail))
        refine wpQuiet_nil ?_
        intro _ hw'
        obtain ⟨pq, hw''⟩ := hw'
        subst hw''
        go_wp2_with fail
        go_meet
        exact ⟨by simp, pq.h⟩
    · have he : idv = ida := HIQ.out.2 rfl
      subst he
      have z5 : ∀ p : Kin W4, p.u.cell? ⟨b, qa * 5, none⟩ = some (.int .i64 idv) := fun p => kcell ia p
      clear ia HIQ
      cases F8
      · refine wp_region_kin (by kernel_rfl) (by kernel_rfl) ?_
        repeat (first | go_big_quiet_step (first | (go_at_call 73; exact Calls.kin_of (HIF.out _)) | (go_at_call 78; exact Calls.kin_of (HTD4.out _)) | fail) | quiet_step (first | (go_at_call 73; exact Calls.kin_of (HIF.out _)) | (go_at_call 78; exact Calls.kin_of (HTD4.out _)) | fail))
        refine wpQuiet_nil ?_
        intro _ hw'
        obtain ⟨pq, hw''⟩ := hw'
        subst hw''
        go_wp2_with fail
        go_meet
        exact ⟨by simp, pq.h⟩
      · refine wp_region_kin (by kernel_rfl) (by kernel_rfl) ?_
        repeat (first | go_big_quiet_step (first | (go_at_call 73; exact Calls.kin_of (HIF.out _)) | (go_at_call 78; exact Calls.kin_of (HTD4.out _)) | fail) | quiet_step (first | (go_at_call 73; exact Calls.kin_of (HIF.out _)) | (go_at_call 78; exact Calls.kin_of (HTD4.out _)) | fail))
        refine wpQuiet_nil ?_
        intro _ hw'
        obtain ⟨pq, hw''⟩ := hw'
        subst hw''
        go_wp2_with fail
        go_meet
        exact ⟨by simp, pq.h⟩
  case rest =>
  obtain ⟨rfl, hb5⟩ := hcut
  rename World => w5
  have HX5 : Hid (OwnFilesX w5 base (.slice (some ⟨b, 0, none⟩) d.files.length cap) d.files) := HX4.out.below hb5
  have HBV5 : Hid (w5.heap[B]? = some (.cells #[.int .i64 d.id, .int .i64 d.fr, .bool d.snap, .slice (some ⟨b, 0, none⟩) d.files.length cap, .int .i64 d.next] 89 (0, 0))) := (hb5.block _ (Array.getElem?_eq_some_iff.1 HBV4.out).1).trans HBV4.out
  have HBX5 : Hid (w5.heap[w1.heap.size]? = some (.cells #[.pointer (some ⟨b, qf * 5, none⟩)] 96 (0, 0))) := (hb5.block _ (Array.getElem?_eq_some_iff.1 HBX4.out).1).trans HBX4.out
  have HPF5 : Hid (w5.heap[wp.heap.size]? = some (.cells #[.pointer (some ⟨b, qa * 5, none⟩), .string lastp] 103 (0, 0))) := (hb5.block _ (Array.getElem?_eq_some_iff.1 HPF4.out).1).trans HPF4.out
  have HPT5 : Hid (w5.heap[w3.heap.size]? = some (.cells #[.pointer (some ⟨b, qv * 5, none⟩), .string lastq] 103 (0, 0))) := (hb5.block _ (Array.getElem?_eq_some_iff.1 HPTA.out).1).trans HPTA.out
  have HB5 : Hid (Below w.heap.size w w5) := nwT HB4.out hb5
  clear hb5 p0 p1 r0 r1 x0 iv ia HIF HTD4 HIQ HX4 HBV4 HBX4 HPF4 HPTA HB4
  cases hGG : (F8 && !EE || DD)
  case true =>
    have HG : Hid (Act2G renR d L M 2 Go.Proofs.YtdpighcaieajjabGreat.v0) := by show _ = _; rw [HUR4.out, if_pos (HGG.out.1 hGG)]
    clear hGG
    go_wp2_with fail
    go_ret
    exact ⟨.inr ⟨2, by decide, rfl, HG.out⟩, (KeepT.of_below HB5.out).u, HB5.out.mono hbw⟩
  case false =>
  have HG : Hid (Act2G renR d L M 0 (movV d qa k qv (lastq, (d.files.getD qf f0).id))) := by
    show _ = _; rw [HUR4.out, if_neg (fun h => by have := HGG.out.2 h; rw [hGG] at this; cases this)]
  clear hGG HUR4 HGG
  have HCL : Hid (Calls Tryz.prog 79 #[.agg #[.pointer (some ⟨b, qa * 5, none⟩), .string lastp]] w5 fun e w' => e = .returned (.tuple #[]) ∧ OwnFilesX w' base (.slice (some ⟨b, 0, none⟩) d.files.length cap) (cutFs d.files qa k) ∧ KeepT w5 w' ∧ Below base w5 w') :=
    pclear_any base b cap qa k d.files lastp _ HX5.out hqa (by have := HQA.out.1; omega) HQA.out.2 HNK.out
  have HLS : Hid (((cutFs d.files qa k).getD qv f0).list.length ≤ 8 ∧ StrictL ((cutFs d.files qa k).getD qv f0).list ∧ ∀ y ∈ ((cutFs d.files qa k).getD qv f0).list, y.1 ≠ lastq) := by
    rw [cutFs_list _ _ _ _ hqv]
    split
    · exact ⟨Nat.le_trans (cutL_le _ _) HQV.out.1, HQV.out.2.cut k, fun y hy => HNN.out y ((cutL_sub _ _).subset hy)⟩
    · exact ⟨HQV.out.1, HQV.out.2, HNN.out⟩
  have HFL : Hid ((cutFs d.files qa k).length = d.files.length) := by show _ = _; unfold cutFs; rw [List.length_set]
  have HFI : Hid (((cutFs d.files qa k).getD qf f0).id = (d.files.getD qf f0).id) := by show _ = _; unfold cutFs; rw [set_id]
  have HMV : Hid (∀ x, movV d qa k qv x = ⟨d.id, d.fr, d.snap, (cutFs d.files qa k).set qv (withList ((cutFs d.files qa k).getD qv f0) (putL ((cutFs d.files qa k).getD qv f0).list x)), d.next⟩) := fun x => rfl
  generalize cutFs d.files qa k = fs1 at HCL HLS HFL HFI HMV
  generalize (d.files.getD qf f0).id = fid at HFI HG
  obtain ⟨r0, r1, _⟩ := two_cells HPF5.out
  go_wp2_with fail
  refine HCL.out.mono ?_
  rintro e w6 ⟨rfl, hx6, hk6, hb6⟩
  have HX6 : Hid (OwnFilesX w6 base (.slice (some ⟨b, 0, none⟩) d.files.length cap) fs1) := hx6
  have HBV6 : Hid (w6.heap[B]? = some (.cells #[.int .i64 d.id, .int .i64 d.fr, .bool d.snap, .slice (some ⟨b, 0, none⟩) d.files.length cap, .int .i64 d.next] 89 (0, 0))) := hk6.2 _ _ _ _ HBV5.out (by decide) (by decide)
  have HBX6 : Hid (w6.heap[w1.heap.size]? = some (.cells #[.pointer (some ⟨b, qf * 5, none⟩)] 96 (0, 0))) := hk6.2 _ _ _ _ HBX5.out (by decide) (by decide)
  have HPT6 : Hid (w6.heap[w3.heap.size]? = some (.cells #[.pointer (some ⟨b, qv * 5, none⟩), .string lastq] 103 (0, 0))) := hk6.2 _ _ _ _ HPT5.out (by decide) (by decide)
  have HK6 : Hid (KeepU w w6) := ((KeepT.of_below HB5.out).trans hk6).u
  have HB6 : Hid (Below base w w6) := (HB5.out.mono hbw).trans hb6
  have i0 : w6.cell? ⟨b, qf * 5, none⟩ = some (.int .i64 fid) := by
    have h := HX6.out.idAt (q := qf) (by rw [HFL.out]; exact hqf)
    rw [HFI.out] at h; exact h
  have HPP : Hid (∀ W', Below w6.heap.size w6 W' → Calls Tryz.prog 74 #[.agg #[.pointer (some ⟨b, qv * 5, none⟩), .string lastq], .int .i64 fid] W' fun e w' => e = .returned (.tuple #[]) ∧ OwnFilesX w' base (.slice (some ⟨b, 0, none⟩) d.files.length cap) (fs1.set qv (withList (fs1.getD qv f0) (putL (fs1.getD qv f0).list (lastq, fid)))) ∧ KeepT W' w' ∧ Below base W' w') := fun W' h => by
    have h2 := pput_any base b cap qv fs1 lastq fid W' (by rw [HFL.out]; exact HX6.out.below h) (by rw [HFL.out]; exact hqv) (by have := HLS.out.1; omega) HLS.out.2.1 HLS.out.2.2
    rw [HFL.out] at h2; exact h2
  have hS : RnS w3.heap.size w1.heap.size b (qf * 5) (.cells #[.pointer (some ⟨b, qv * 5, none⟩), .string lastq] 103 (0, 0)) (.cells #[.pointer (some ⟨b, qf * 5, none⟩)] 96 (0, 0)) (.int .i64 fid) w6 := ⟨HPT6.out, HBX6.out, i0⟩
  obtain ⟨q0, q1, _⟩ := two_cells HPT6.out
  obtain ⟨x0, _⟩ := one_cell HBX6.out
  clear r0 r1 hx6 hk6 hb6 HCL HX5 HBV5 HBX5 HPF5 HPT5 HB5
  go_wp2_with fail
  have z0 : ∀ w', RnS w3.heap.size w1.heap.size b (qf * 5) (.cells #[.pointer (some ⟨b, qv * 5, none⟩), .string lastq] 103 (0, 0)) (.cells #[.pointer (some ⟨b, qf * 5, none⟩)] 96 (0, 0)) (.int .i64 fid) w' → w'.cell? ⟨w3.heap.size, 0, none⟩ = some (.pointer (some ⟨b, qv * 5, none⟩)) := fun w' h => (two_cells h.p).1
  have z1 : ∀ w', RnS w3.heap.size w1.heap.size b (qf * 5) (.cells #[.pointer (some ⟨b, qv * 5, none⟩), .string lastq] 103 (0, 0)) (.cells #[.pointer (some ⟨b, qf * 5, none⟩)] 96 (0, 0)) (.int .i64 fid) w' → w'.cell? ⟨w3.heap.size, 1, none⟩ = some (.string lastq) := fun w' h => (two_cells h.p).2.1
  have z2 : ∀ w', RnS w3.heap.size w1.heap.size b (qf * 5) (.cells #[.pointer (some ⟨b, qv * 5, none⟩), .string lastq] 103 (0, 0)) (.cells #[.pointer (some ⟨b, qf * 5, none⟩)] 96 (0, 0)) (.int .i64 fid) w' → w'.cell? ⟨w1.heap.size, 0, none⟩ = some (.pointer (some ⟨b, qf * 5, none⟩)) := fun w' h => (one_cell h.x).1
  have z3 : ∀ w', RnS w3.heap.size w1.heap.size b (qf * 5) (.cells #[.pointer (some ⟨b, qv * 5, none⟩), .string lastq] 103 (0, 0)) (.cells #[.pointer (some ⟨b, qf * 5, none⟩)] 96 (0, 0)) (.int .i64 fid) w' → w'.cell? ⟨b, qf * 5, none⟩ = some (.int .i64 fid) := fun w' h => h.i
  clear q0 q1 x0 i0
  go_region_held3 (fun w' => RnS w3.heap.size w1.heap.size b (qf * 5) (.cells #[.pointer (some ⟨b, qv * 5, none⟩), .string lastq] 103 (0, 0)) (.cells #[.pointer (some ⟨b, qf * 5, none⟩)] 96 (0, 0)) (.int .i64 fid) w') (first | assumption | exact RnS.below (by assumption) (Below.drew (nwR _)) | exact hS5) (first
    | (go_at_call 74; refine (HPP.out _ (Below.drew (nwR _))).mono ?_; rintro e w7 ⟨rfl, hx7, hk7, hb7⟩; have hS5 : RnS w3.heap.size w1.heap.size b (qf * 5) (.cells #[.pointer (some ⟨b, qv * 5, none⟩), .string lastq] 103 (0, 0)) (.cells #[.pointer (some ⟨b, qf * 5, none⟩)] 96 (0, 0)) (.int .i64 fid) w7 := ⟨hk7.2 _ _ _ _ hS.p (by decide) (by decide), hk7.2 _ _ _ _ hS.x (by decide) (by decide), (by have h := hx7.idAt (q := qf) (by rw [List.length_set, HFL.out]; exact hqf); rw [set_id, HFI.out] at h; exact h)⟩)
    | fail)
  have HPT : Hid (OwnPtr w7 base B (movV d qa k qv (lastq, fid))) := by
    show OwnPtr _ _ _ _
    rw [HMV.out]
    refine ⟨hbB, _, hk7.2 _ _ _ _ HBV6.out (by decide) (by decide) |>.trans ?_, hx7⟩
    rfl
  have HK7 : Hid (KeepU w w7) := HK6.out.trans ((KeepT.of_below (Below.drew (nwR w6))).trans hk7).u
  have HB7 : Hid (Below base w w7) := HB6.out.trans ((Below.drew (Below.refl base w6)).trans hb7)
  clear z0 z1 z2 z3 hS hS5 hx7 hk7 hb7
  go_wp2_with fail
  go_ret
  exact ⟨.inl ⟨_, rfl, HPT.out, HG.out⟩, HK7.out, HB7.out⟩

end Go.Proofs.YtdpighcaieajjabGreat

/- Other names in the place of names, by the program's face. -/
namespace Go.Proofs.YtdpighcaieajjabGreat
open Go.RowKit Go.Sort

set_option maxRecDepth 100000 in
set_option maxHeartbeats 1000000 in
theorem trename1_any (base B A A2 : Nat) (d : VolD) (p q : ByteArray) (L M : List ByteArray) (w : World) (ho : OwnPtr w base B d) (hok : VolOk d) (hs : SmallV d) (hp : pathN p = some L) (hq : pathN q = some M) (hA : w.cell? ⟨A, 0, none⟩ = some (.string p)) (hA2 : w.cell? ⟨A2, 0, none⟩ = some (.string q)) :
    Calls Tryz.prog 58 #[.pointer (some ⟨B, 0, none⟩), .pointer (some ⟨A, 0, none⟩), .pointer (some ⟨A2, 0, none⟩)] w fun e w' => ActIs (U2G renR d p q) base B e w' ∧ KeepU w w' ∧ Below base w w' := by
  have HOK : Hid (VolOk d) := hok
  have HO : Hid (OwnPtr w base B d) := ho
  have HS : Hid (SmallV d) := hs
  have HP : Hid (pathN p = some L) := hp
  have HQ : Hid (pathN q = some M) := hq
  clear hok ho hs hp hq
  go_enter Tryz.func58, Tryz.ntmps58
  go_wp2_with fail
  refine (rename_any base B d p L q M _ HO.out HOK.out HS.out HP.out HQ.out).mono ?_
  rintro e w1 ⟨hc, hk, hb⟩
  rcases hc.u2g HP.out HQ.out with ⟨d', rfl, h1, h2⟩ | ⟨er, hne, rfl, h2⟩
  · have HA : Hid (ActIs (U2G renR d p q) base B (.returned (.int .i64 0)) w1 ∧ KeepU w w1 ∧ Below base w w1) := ⟨.inl ⟨d', rfl, h1, h2⟩, hk, hb⟩
    clear h1 h2 hc hk hb
    go_wp2_with fail
    exact bodyPost_ret (v := .int .i64 0) (by simp [results, Tryz.results58, go_sem]) rfl HA.out
  · have HA : Hid (ActIs (U2G renR d p q) base B (.returned (.int .i64 er)) w1 ∧ KeepU w w1 ∧ Below base w w1) := ⟨.inr ⟨er, hne, rfl, h2⟩, hk, hb⟩
    clear hne h2 hc hk hb
    go_wp2_with fail
    exact bodyPost_ret (v := .int .i64 er) (by simp [results, Tryz.results58, go_sem]) rfl HA.out

set_option maxRecDepth 100000 in
set_option maxHeartbeats 1000000 in
theorem trename_any (v : Value) (d : VolD) (p q : ByteArray) (w : World) (hv : VolVal w v d) (hs : SmallV d) :
    Calls Tryz.prog 26 #[v, .string p, .string q] w fun e w' => (∃ u er dd, e = .returned (.tuple #[u, .int .i64 er]) ∧ OwnVol w' w.heap.size u dd ∧ ChangeR (U2G renR d p q) d [p, q] er dd) ∧ Below w.heap.size w w' := by
  have HVV : Hid (VolVal w v d) := hv
  have HS : Hid (SmallV d) := hs
  obtain ⟨a, ca, rfl, _, _⟩ := hv
  have HB0 : Hid (Below w.heap.size w (linkP w d a ca p q)) := nwA (nwA (nwA (nwA (nwA (nwR w) _) _) _) _) _
  have HR0 : Hid ((linkP w d a ca p q).heap[w.heap.size + 3]? = some (.cells #[.int .i64 0, .int .i64 0, .bool false, .slice none 0 0, .int .i64 0] 24 (0, 0))) := five_at3 w _ _ _ _ _
  have HA0 : Hid ((linkP w d a ca p q).heap[w.heap.size + 1]? = some (.cells #[.string p] 9 (0, 0))) := five_at1 w _ _ _ _ _
  have HA1 : Hid ((linkP w d a ca p q).heap[w.heap.size + 2]? = some (.cells #[.string q] 9 (0, 0))) := five_at2 w _ _ _ _ _
  have HSZ : Hid ((linkP w d a ca p q).heap.size = w.heap.size + 5) := size5 w _ _ _ _ _
  have HST : Hid (StrsAt (linkP w d a ca p q) (some ⟨w.heap.size + 4, 0, none⟩) [p, q]) := by
    have := StrsAt.of_alloc (w := (((w.alloc (.cells #[.int .i64 d.id, .int .i64 d.fr, .bool d.snap, .slice a d.files.length ca, .int .i64 d.next] 24)).alloc (.cells #[.string p] 9)).alloc (.cells #[.string q] 9)).alloc (.cells #[.int .i64 0, .int .i64 0, .bool false, .slice none 0 0, .int .i64 0] 24)) (xs := [p, q]) (cs := #[.string p, .string q]) (t := 9) rfl
    rw [size4] at this
    exact this
  have eK : ∀ args w, (callFunc 58 args).run Tryz.prog w = .ok (.enter 58 args) w := enters_of Tryz.func58 (by kernel_rfl) rfl
  have HC : Hid (Calls Tryz.prog 42 #[.agg #[.int .i64 d.id, .int .i64 d.fr, .bool d.snap, .slice a d.files.length ca, .int .i64 d.next], .func (.func 58) #[] #[.pointer (some ⟨w.heap.size + 1, 0, none⟩), .pointer (some ⟨w.heap.size + 2, 0, none⟩)], .slice (some ⟨w.heap.size + 4, 0, none⟩) 2 2] (linkP w d a ca p q) fun e w' => (∃ u er dd, e = .returned (.tuple #[u, .int .i64 er]) ∧ OwnVol w' (w.heap.size + 5) u dd ∧ ChangeR (U2G renR d p q) d [p, q] er dd) ∧ Below (w.heap.size + 5) (linkP w d a ca p q) w') := by
    have := change_gen (U2G renR d p q) 58 #[.pointer (some ⟨w.heap.size + 1, 0, none⟩), .pointer (some ⟨w.heap.size + 2, 0, none⟩)] eK _ d (some ⟨w.heap.size + 4, 0, none⟩) [p, q] 2 (linkP w d a ca p q) (HVV.out.below HB0.out) HS.out HST.out (by simp) (fun w1 base B hb ho hok hps _ => by
      obtain ⟨L, hL⟩ := Option.isSome_iff_exists.1 (hps p (by simp))
      obtain ⟨M, hM⟩ := Option.isSome_iff_exists.1 (hps q (by simp))
      refine trename1_any base B (w.heap.size + 1) (w.heap.size + 2) d p q L M w1 ho hok HS.out hL hM (cell_of_block (t := 9) ?_) (cell_of_block (t := 9) ?_)
      · exact (hb.block _ (Array.getElem?_eq_some_iff.1 HA0.out).1).trans HA0.out
      · exact (hb.block _ (Array.getElem?_eq_some_iff.1 HA1.out).1).trans HA1.out)
    rw [HSZ.out] at this
    exact this
  unfold linkP at HC HB0 HR0
  clear hs HST HSZ HA0 HA1 HVV HS eK
  go_enter Tryz.func26, Tryz.ntmps26
  go_wp2_with fail
  refine HC.out.mono ?_
  rintro e w1 ⟨⟨u, er, dd, rfl, hu, hch⟩, hb1⟩
  have HB1 : Hid (Below w.heap.size w w1) := HB0.out.trans (hb1.mono (Nat.le_add_right _ _))
  have HR1 : Hid (w1.heap[w.heap.size + 3]? = some (.cells #[.int .i64 0, .int .i64 0, .bool false, .slice none 0 0, .int .i64 0] 24 (0, 0))) := (hb1.block _ (by omega)).trans HR0.out
  have HCH : Hid (ChangeR (U2G renR d p q) d [p, q] er dd) := hch
  obtain ⟨fv, rfl, hfv⟩ := hu
  have HFV : Hid (OwnFiles w1 (w.heap.size + 5) fv dd.files) := hfv
  obtain ⟨fa, fc, rfl, _, _⟩ := hfv.at
  clear hb1 HB0 HR0 HC hch hfv
  obtain ⟨q0, q1, q2, q3, q4, qf⟩ := five HR1.out
  go_wp2_with fail
  obtain ⟨s0, s1, s2, s3, s4, _⟩ := five (five_set (d0 := .int .i64 dd.id) (d1 := .int .i64 dd.fr) (d2 := .bool dd.snap) (d3 := .slice fa dd.files.length fc) (d4 := .int .i64 dd.next) HR1.out)
  refine bodyPost_ret (v := .tuple #[.agg #[.int .i64 dd.id, .int .i64 dd.fr, .bool dd.snap, .slice fa dd.files.length fc, .int .i64 dd.next], .int .i64 er]) (by simp [results, Tryz.results26, go_sem, s0, s1, s2, s3, s4]) rfl ⟨⟨_, er, dd, rfl, ⟨_, rfl, ?_⟩, HCH.out⟩, ?_⟩
  · exact (((((HFV.out.set 0 (by omega) _).set 1 (by omega) _).set 2 (by omega) _).set 3 (by omega) _).set 4 (by omega) _).le (Nat.le_add_right _ _)
  · exact five_below HB1.out (by omega)

end Go.Proofs.YtdpighcaieajjabGreat

/- What an act tells, by the program and by the page, is one. -/
namespace Go.Proofs.YtdpighcaieajjabGreat
open Go.RowKit Go.Sort

theorem UG.of_make {d : VolD} {p : ByteArray} {dir : Bool} {er : Int} {dd : VolD} (h : MakeG d p dir er dd) : UG (fun d L => mkR d L dir) d p er dd := by
  obtain ⟨L, hp, h⟩ := h
  refine ⟨L, hp, ?_⟩
  show (er, dd) = mkR d L dir
  unfold mkR
  rcases h with ⟨h1, h2, h3⟩ | ⟨h1, h2, h3⟩
  · rw [if_pos h1, h2, h3]
  · rw [if_neg h1, h2, h3]
theorem ChangeR.imp {G G' : Int → VolD → Prop} {d : VolD} {ps : List ByteArray} {er : Int} {dd : VolD} (h : ChangeR G d ps er dd) (hg : ∀ er dd, G er dd → G' er dd) : ChangeR G' d ps er dd := by
  rcases h with ⟨h1, h2, h3, h4⟩ | h | h
  · exact .inl ⟨h1, h2, h3, hg _ _ h4⟩
  · exact .inr (.inl h)
  · exact .inr (.inr h)
theorem pathsOk_one {p : ByteArray} : PathsOk [p] ↔ (pathN p).isSome = true := by unfold PathsOk; simp
theorem pathsOk_two {p q : ByteArray} : PathsOk [p, q] ↔ (pathN p).isSome = true ∧ (pathN q).isSome = true := by unfold PathsOk; simp
theorem change_bad {G : Int → VolD → Prop} {d : VolD} {ps : List ByteArray} {er : Int} {dd : VolD} (h : ChangeR G d ps er dd) (hb : ¬ (VolOk d ∧ PathsOk ps)) : er = 1 ∧ dd = Go.Proofs.YtdpighcaieajjabGreat.v0 := by
  rcases h with ⟨h1, h2, _⟩ | ⟨h1, h2, _⟩ | ⟨_, h2⟩
  · exact absurd ⟨h1, h2⟩ hb
  · exact absurd ⟨h1, h2⟩ hb
  · exact h2
theorem agree1 {R : VolD → List ByteArray → Int × VolD} {d : VolD} {p : ByteArray} {L : List ByteArray} {er er2 : Int} {dd dd2 : VolD} (hok : VolOk d) (hp : pathN p = some L) (h : ChangeR (UG R d p) d [p] er dd) (h2 : SnapR d (R d L) er2 dd2) : er2 = er ∧ dd2 = dd := by
  rcases h with ⟨_, _, hs, L', hp', hr⟩ | ⟨_, _, hs, rfl, rfl⟩ | ⟨hn, _⟩
  · rw [hp] at hp'
    injection hp' with hp'
    subst hp'
    rcases h2 with ⟨hs2, _⟩ | ⟨_, hr2⟩
    · rw [hs] at hs2; cases hs2
    · rw [← hr] at hr2
      injection hr2 with h1 h2
      exact ⟨h1, h2⟩
  · rcases h2 with ⟨_, h1, h2⟩ | ⟨hs2, _⟩
    · exact ⟨h1, h2⟩
    · rw [hs] at hs2; cases hs2
  · exact absurd ⟨hok, pathsOk_one.2 (by rw [hp]; rfl)⟩ hn
theorem agree2 {R : VolD → List ByteArray → List ByteArray → Int × VolD} {d : VolD} {p q : ByteArray} {L M : List ByteArray} {er er2 : Int} {dd dd2 : VolD} (hok : VolOk d) (hp : pathN p = some L) (hq : pathN q = some M) (h : ChangeR (U2G R d p q) d [p, q] er dd) (h2 : SnapR d (R d L M) er2 dd2) : er2 = er ∧ dd2 = dd := by
  rcases h with ⟨_, _, hs, L', M', hp', hq', hr⟩ | ⟨_, _, hs, rfl, rfl⟩ | ⟨hn, _⟩
  · rw [hp] at hp'
    injection hp' with hp'
    subst hp'
    rw [hq] at hq'
    injection hq' with hq'
    subst hq'
    rcases h2 with ⟨hs2, _⟩ | ⟨_, hr2⟩
    · rw [hs] at hs2; cases hs2
    · rw [← hr] at hr2
      injection hr2 with h1 h2
      exact ⟨h1, h2⟩
  · rcases h2 with ⟨_, h1, h2⟩ | ⟨hs2, _⟩
    · exact ⟨h1, h2⟩
    · rw [hs] at hs2; cases hs2
  · exact absurd ⟨hok, pathsOk_two.2 ⟨by rw [hp]; rfl, by rw [hq]; rfl⟩⟩ hn

/- what comes is small -/
theorem small_v0 : SmallV Go.Proofs.YtdpighcaieajjabGreat.v0 := ⟨by simp [v0], fun f hf => by simp [v0] at hf⟩
theorem VolOk.list8 {d : VolD} (h : VolOk d) (q : Nat) : (d.files.getD q f0).list.length ≤ 8 := by
  by_cases hq : q < d.files.length
  · exact (h.dirq hq).1
  · rw [show d.files.getD q f0 = f0 from by simp [List.getD, List.getElem?_eq_none (show d.files.length ≤ q by omega)]]; simp [f0]
theorem putL_len (l : List LinkD) (x : LinkD) : (putL l x).length = l.length + 1 := by
  unfold putL
  simp only [List.length_append, List.length_take, List.length_drop, List.length_cons, List.length_nil]
  omega
theorem small_putV {d : VolD} (hs : SmallV d) {q : Nat} (h8 : (d.files.getD q f0).list.length ≤ 8) (x : LinkD) : SmallV (putV d q x) :=
  hs.set q _ (by rw [putL_len]; omega)
theorem small_less {fs : List FileD} (h : fs.length ≤ 100000 ∧ ∀ f ∈ fs, SmallF f) (k : Nat) : (lessF fs k).length ≤ 100000 ∧ ∀ f ∈ lessF fs k, SmallF f := by
  constructor
  · unfold lessF; rw [List.length_append, List.length_take, List.length_drop]; omega
  · intro f hf
    unfold lessF at hf
    rcases List.mem_append.1 hf with h1 | h1
    · exact h.2 f (List.mem_of_mem_take h1)
    · exact h.2 f (List.mem_of_mem_drop h1)
theorem small_cut {d : VolD} (hok : VolOk d) (hs : SmallV d) (q k : Nat) : SmallV ⟨d.id, d.fr, d.snap, cutFs d.files q k, d.next⟩ :=
  hs.set q _ (Nat.le_trans (cutL_le _ _) (by have := hok.list8 q; omega))
theorem small_take {d : VolD} (hok : VolOk d) (hs : SmallV d) (q k : Nat) : SmallV (takV d q k) := by
  have h := small_cut hok hs q k
  unfold takV takeFs
  split
  · exact small_less h _
  · exact h
theorem small_mkR {d : VolD} (hok : VolOk d) (hs : SmallV d) (L : List ByteArray) (dir : Bool) : SmallV (mkR d L dir).2 := by
  unfold mkR
  split
  · have h := small_putV hs (hok.list8 (makF d L).1) (lastN L, d.next)
    have h16 := hok.2.1.1.2.1
    refine ⟨?_, fun f hf => ?_⟩
    · simp only [newV, List.length_append, List.length_set, List.length_cons, List.length_nil]; omega
    · simp only [newV] at hf
      rcases List.mem_append.1 hf with h1 | h1
      · exact h.2 f h1
      · simp at h1; subst h1; exact ⟨by simp, by simp⟩
  · exact small_v0
theorem small_linkR {d : VolD} (hok : VolOk d) (hs : SmallV d) (L M : List ByteArray) : SmallV (linkR d L M).2 := by
  unfold linkR
  repeat' split
  all_goals first | exact small_v0 | exact small_putV hs (hok.list8 _) _
theorem small_unlR {d : VolD} (hok : VolOk d) (hs : SmallV d) (L : List ByteArray) : SmallV (unlR d L).2 := by
  unfold unlR
  repeat' split
  all_goals first | exact small_v0 | exact small_take hok hs _ _
theorem small_rmdR {d : VolD} (hok : VolOk d) (hs : SmallV d) (L : List ByteArray) : SmallV (rmdR d L).2 := by
  unfold rmdR
  repeat' split
  all_goals first | exact small_v0 | exact small_take hok hs _ _
theorem small_renR {d : VolD} (hok : VolOk d) (hs : SmallV d) (L M : List ByteArray) : SmallV (renR d L M).2 := by
  have hm : ∀ qa k qv x, SmallV (movV d qa k qv x) := fun qa k qv x => by
    unfold movV
    refine small_putV (small_cut hok hs qa k) ?_ x
    simp only
    unfold cutFs
    by_cases h : qa = qv
    · subst h
      by_cases hq : qa < d.files.length
      · have e : (d.files.set qa (withList (d.files.getD qa f0) (cutL (d.files.getD qa f0).list k))).getD qa f0 = withList (d.files.getD qa f0) (cutL (d.files.getD qa f0).list k) := by simp [List.getD, hq]
        rw [e]
        exact Nat.le_trans (cutL_le _ _) (hok.list8 qa)
      · rw [show (d.files.set qa (withList (d.files.getD qa f0) (cutL (d.files.getD qa f0).list k))).getD qa f0 = f0 from by simp [List.getD, List.getElem?_eq_none (show (d.files.set qa _).length ≤ qa by simp; omega)]]
        simp [f0]
    · have e : (d.files.set qa (withList (d.files.getD qa f0) (cutL (d.files.getD qa f0).list k))).getD qv f0 = d.files.getD qv f0 := by simp [List.getD, List.getElem?_set_ne h]
      rw [e]
      exact hok.list8 qv
  unfold renR
  repeat' split
  all_goals first | exact small_v0 | exact hs | exact hm _ _ _ _
theorem snap_small {d : VolD} {r : Int × VolD} {er : Int} {dd : VolD} (h : SnapR d r er dd) (hr : SmallV r.2) : SmallV dd := by
  rcases h with ⟨_, _, rfl⟩ | ⟨_, h⟩
  · exact small_v0
  · rw [← h] at hr; exact hr

/- a path split, in one -/
def SplU (s : ByteArray) (w : World) (a : Option Addr) (n c : Nat) (ok : Bool) : Prop :=
  (ok = true ∧ ∃ L, pathN s = some L ∧ n = L.length ∧ StrsAt w a L ∧ L.length ≤ c ∧ L.length ≤ 5) ∨ (ok = false ∧ pathN s = none)
theorem rsplit_u (s : ByteArray) (w : World) : Calls Tryz.prog 14 #[.string s] w fun e w' => (∃ a n c ok, e = .returned (.tuple #[.slice a n c, .bool ok]) ∧ SplU s w' a n c ok) ∧ Below w.heap.size w w' := by
  refine (rsplit_any s w).mono ?_
  rintro e w' ⟨h, hb⟩
  refine ⟨?_, hb⟩
  rcases h with ⟨xs, v, h1, rfl, h2⟩ | ⟨h1, a, n, c, rfl⟩
  · obtain ⟨a, c, e, h3⟩ := h2.at
    subst e
    have h5 := (pathN_some h1).2.2
    have hc : xs.length ≤ c := by
      rcases h2.2 with ⟨hv, hn⟩ | ⟨g, cap, cur, hv, _, _, hnc, _⟩
      · injection hv with _ _ e; omega
      · injection hv with _ _ e; subst e; exact hnc
    exact ⟨a, xs.length, c, true, rfl, .inl ⟨rfl, xs, h1, rfl, h3, hc, h5⟩⟩
  · exact ⟨a, n, c, false, rfl, .inr ⟨rfl, h1⟩⟩
theorem SplU.some {s : ByteArray} {w : World} {a : Option Addr} {n c : Nat} (h : SplU s w a n c true) : ∃ L, pathN s = some L ∧ n = L.length ∧ StrsAt w a L ∧ L.length ≤ c ∧ L.length ≤ 5 := by
  rcases h with ⟨_, h⟩ | ⟨h, _⟩
  · exact h
  · cases h
theorem SplU.none {s : ByteArray} {w : World} {a : Option Addr} {n c : Nat} (h : SplU s w a n c false) : pathN s = Option.none := by
  rcases h with ⟨h, _⟩ | ⟨_, h⟩
  · cases h
  · exact h
theorem SplU.below {s : ByteArray} {w w' : World} {a : Option Addr} {n c : Nat} {ok : Bool} (h : SplU s w a n c ok) (hb : Below w.heap.size w w') : SplU s w' a n c ok := by
  rcases h with ⟨h, L, h1, h2, h3, h4⟩ | h
  · exact .inl ⟨h, L, h1, h2, h3.below hb, h4⟩
  · exact .inr h

end Go.Proofs.YtdpighcaieajjabGreat
