/- A volume behind an act, by the program. -/
import Derived.Test.YtdpighcaieajjaaGreatCreate
namespace Go.Proofs.YtdpighcaieajjaaGreat
open Go.RowKit Go.Sort

theorem ownVol_zero (w : World) (base : Nat) : OwnVol w base (.agg #[.int .i64 0, .int .i64 0, .bool false, .slice none 0 0, .int .i64 0]) Go.Proofs.YtdpighcaieajjaaGreat.v0 :=
  ⟨_, rfl, [], rfl, World.ownsRow_nil _ _ _ _, fun g hg => by simp at hg⟩
/-- how an act ends on a volume of one's own -/
def ActIs (G : Int → VolD → Prop) (base B : Nat) (e : Ending) (w' : World) : Prop :=
  (∃ d', e = .returned (.int .i64 0) ∧ OwnPtr w' base B d' ∧ G 0 d') ∨ (∃ er, er ≠ 0 ∧ e = .returned (.int .i64 er) ∧ G er Go.Proofs.YtdpighcaieajjaaGreat.v0)
def ChangeR (G : Int → VolD → Prop) (d : VolD) (ps : List ByteArray) (er : Int) (dd : VolD) : Prop :=
  (VolOk d ∧ PathsOk ps ∧ d.snap = false ∧ G er dd) ∨ (VolOk d ∧ PathsOk ps ∧ d.snap = true ∧ er = 9 ∧ dd = Go.Proofs.YtdpighcaieajjaaGreat.v0) ∨ (¬ (VolOk d ∧ PathsOk ps) ∧ er = 1 ∧ dd = Go.Proofs.YtdpighcaieajjaaGreat.v0)

set_option maxRecDepth 100000 in
set_option maxHeartbeats 1000000 in
theorem change_any (G : Int → VolD → Prop) (K A : Nat) (eK : ∀ args w, (callFunc K args).run Tryz.prog w = .ok (.enter K args) w) (v : Value) (d : VolD) (sa : Option Addr) (ps : List ByteArray) (sc : Nat) (w : World) (hv : VolVal w v d) (hs : SmallV d) (hp : StrsAt w sa ps) (hpl : ps.length ≤ 100000)
    (hact : ∀ (w1 : World) (base B : Nat), Below w.heap.size w w1 → OwnPtr w1 base B d → VolOk d → PathsOk ps → d.snap = false → Calls Tryz.prog K #[.pointer (some ⟨B, 0, none⟩), .pointer (some ⟨A, 0, none⟩)] w1 fun e w2 => ActIs G base B e w2 ∧ KeepU w1 w2 ∧ Below base w1 w2) :
    Calls Tryz.prog 56 #[v, .func (.func K) #[] #[.pointer (some ⟨A, 0, none⟩)], .slice sa ps.length sc] w fun e w' => (∃ u er dd, e = .returned (.tuple #[u, .int .i64 er]) ∧ OwnVol w' w.heap.size u dd ∧ ChangeR G d ps er dd) ∧ Below w.heap.size w w' := by
  have HVV : Hid (VolVal w v d) := hv
  have HS : Hid (SmallV d) := hs
  have HACT : Hid (∀ (w1 : World) (base B : Nat), Below w.heap.size w w1 → OwnPtr w1 base B d → VolOk d → PathsOk ps → d.snap = false → Calls Tryz.prog K #[.pointer (some ⟨B, 0, none⟩), .pointer (some ⟨A, 0, none⟩)] w1 fun e w2 => ActIs G base B e w2 ∧ KeepU w1 w2 ∧ Below base w1 w2) := hact
  obtain ⟨a, ca, rfl, _, _⟩ := hv
  have HB0 : Hid (Below w.heap.size w ((w.alloc (.cells #[.int .i64 d.id, .int .i64 d.fr, .bool d.snap, .slice a d.files.length ca, .int .i64 d.next] 24)).alloc (.cells #[.int .i64 0, .int .i64 0, .bool false, .slice none 0 0, .int .i64 0] 24))) := nwA (nwA (nwR w) _) _
  have HR0 : Hid (((w.alloc (.cells #[.int .i64 d.id, .int .i64 d.fr, .bool d.snap, .slice a d.files.length ca, .int .i64 d.next] 24)).alloc (.cells #[.int .i64 0, .int .i64 0, .bool false, .slice none 0 0, .int .i64 0] 24)).heap[w.heap.size + 1]? = some (.cells #[.int .i64 0, .int .i64 0, .bool false, .slice none 0 0, .int .i64 0] 24 (0, 0))) := heap_alloc_new2 w _ _
  have HPS : Hid (StrsAt ((w.alloc (.cells #[.int .i64 d.id, .int .i64 d.fr, .bool d.snap, .slice a d.files.length ca, .int .i64 d.next] 24)).alloc (.cells #[.int .i64 0, .int .i64 0, .bool false, .slice none 0 0, .int .i64 0] 24)) sa ps) := hp.below HB0.out
  have HSZ : Hid (((w.alloc (.cells #[.int .i64 d.id, .int .i64 d.fr, .bool d.snap, .slice a d.files.length ca, .int .i64 d.next] 24)).alloc (.cells #[.int .i64 0, .int .i64 0, .bool false, .slice none 0 0, .int .i64 0] 24)).heap.size = w.heap.size + 2) := by show _ = _; simp
  clear hs hp hact
  go_enter Tryz.func56, Tryz.ntmps56
  go_wp2_with fail
  refine (open_any _ d sa ps sc _ (HVV.out.below HB0.out) HS.out HPS.out hpl).mono ?_
  rintro e w1 ⟨hop, hb1⟩
  have HB1 : Hid (Below w.heap.size w w1) := nwT HB0.out hb1
  have HR1 : Hid (w1.heap[w.heap.size + 1]? = some (.cells #[.int .i64 0, .int .i64 0, .bool false, .slice none 0 0, .int .i64 0] 24 (0, 0))) := (hb1.block _ (Array.getElem?_eq_some_iff.1 HR0.out).1).trans HR0.out
  clear hb1 HR0 HPS
  obtain ⟨r0, r1, r2, r3, r4, rf⟩ := five HR1.out
  rcases hop with ⟨hok, hpo, B, rfl, hown⟩ | ⟨hno, rfl⟩
  case inr =>
    have HNO : Hid (¬ (VolOk d ∧ PathsOk ps)) := hno
    clear hno
    go_wp2_with fail
    refine bodyPost_ret (v := .tuple #[.agg #[.int .i64 0, .int .i64 0, .bool false, .slice none 0 0, .int .i64 0], .int .i64 1]) (by simp [results, Tryz.results56, go_sem, r0, r1, r2, r3, r4]) rfl ⟨⟨_, 1, _, rfl, ownVol_zero _ _, .inr (.inr ⟨HNO.out, rfl, rfl⟩)⟩, ?_⟩
    exact five_below HB1.out (Nat.le_succ _)
  have HOK : Hid (VolOk d ∧ PathsOk ps) := ⟨hok, hpo⟩
  have HOW : Hid (OwnPtr w1 (w.heap.size + 2) B d) := by have h := hown; rw [HSZ.out] at h; exact h
  obtain ⟨hbB, fv, hB1, hX1⟩ := HOW.out
  obtain ⟨fa, fc, rfl, _, _⟩ := hX1.plain.at
  obtain ⟨y0, y1, y2, y3, y4, yf⟩ := five hB1
  clear hok hpo hown hX1 hB1
  cases hsn : d.snap
  case true =>
    rw [hsn] at y2
    have HSN : Hid (d.snap = true) := hsn
    clear hsn
    go_wp2_with fail
    refine bodyPost_ret (v := .tuple #[.agg #[.int .i64 0, .int .i64 0, .bool false, .slice none 0 0, .int .i64 0], .int .i64 9]) (by simp [results, Tryz.results56, go_sem, r0, r1, r2, r3, r4]) rfl ⟨⟨_, 9, _, rfl, ownVol_zero _ _, .inr (.inl ⟨HOK.out.1, HOK.out.2, HSN.out, rfl, rfl⟩)⟩, ?_⟩
    exact five_below HB1.out (Nat.le_succ _)
  case false =>
  rw [hsn] at y2
  have HSN : Hid (d.snap = false) := hsn
  have HCALL : Hid (Calls Tryz.prog K #[.pointer (some ⟨B, 0, none⟩), .pointer (some ⟨A, 0, none⟩)] w1 fun e w2 => ActIs G (w.heap.size + 2) B e w2 ∧ KeepU w1 w2 ∧ Below (w.heap.size + 2) w1 w2) := HACT.out w1 _ B HB1.out HOW.out HOK.out.1 HOK.out.2 hsn
  clear hsn
  go_wp2_with fail
  go_at_fn K
  refine HCALL.out.mono ?_
  rintro e w2 ⟨hai, hk2, hb2⟩
  have HB2 : Hid (Below w.heap.size w w2) := HB1.out.trans (hb2.mono (Nat.le_add_right _ _))
  have HR2 : Hid (w2.heap[w.heap.size + 1]? = some (.cells #[.int .i64 0, .int .i64 0, .bool false, .slice none 0 0, .int .i64 0] 24 (0, 0))) := (hb2.block _ (Nat.lt_succ_self _)).trans HR1.out
  clear hk2 hb2 HCALL HACT r0 r1 r2 r3 r4 rf y0 y1 y2 y3 y4 yf HOW HB1 HR1 HB0 HVV HS HSZ
  obtain ⟨q0, q1, q2, q3, q4, qf⟩ := five HR2.out
  rcases hai with ⟨d2, rfl, how2, hg2⟩ | ⟨er, hne, rfl, hg2⟩
  · have HG2 : Hid (G 0 d2) := hg2
    have HOW2 : Hid (OwnPtr w2 (w.heap.size + 2) B d2) := how2
    obtain ⟨_, fv2, hB2, hX2⟩ := HOW2.out
    have HX2 : Hid (OwnFiles w2 (w.heap.size + 2) fv2 d2.files) := hX2.plain
    obtain ⟨fa2, fc2, rfl, _, _⟩ := HX2.out.at
    obtain ⟨z0, z1, z2, z3, z4, zf⟩ := five hB2
    clear hg2 how2 hX2 hB2
    go_wp2_with fail
    obtain ⟨s0, s1, s2, s3, s4, _⟩ := five (five_set (d0 := .int .i64 d2.id) (d1 := .int .i64 d2.fr) (d2 := .bool d2.snap) (d3 := .slice fa2 d2.files.length fc2) (d4 := .int .i64 d2.next) HR2.out)
    refine bodyPost_ret (v := .tuple #[.agg #[.int .i64 d2.id, .int .i64 d2.fr, .bool d2.snap, .slice fa2 d2.files.length fc2, .int .i64 d2.next], .int .i64 0]) (by simp [results, Tryz.results56, go_sem, s0, s1, s2, s3, s4]) rfl ⟨⟨_, 0, d2, rfl, ⟨_, rfl, ?_⟩, .inl ⟨HOK.out.1, HOK.out.2, HSN.out, HG2.out⟩⟩, ?_⟩
    · exact (((((HX2.out.set 0 (Nat.lt_succ_self _) _).set 1 (Nat.lt_succ_self _) _).set 2 (Nat.lt_succ_self _) _).set 3 (Nat.lt_succ_self _) _).set 4 (Nat.lt_succ_self _) _).le (Nat.le_add_right _ _)
    · exact five_below HB2.out (Nat.le_succ _)
  · have HG2 : Hid (G er Go.Proofs.YtdpighcaieajjaaGreat.v0) := hg2
    have hne1 : decide (er = 0) = false := decide_eq_false hne
    clear hg2
    go_wp2_with fail
    obtain ⟨s0, s1, s2, s3, s4, _⟩ := five (five_set (d0 := .int .i64 0) (d1 := .int .i64 0) (d2 := .bool false) (d3 := .slice none 0 0) (d4 := .int .i64 0) HR2.out)
    refine bodyPost_ret (v := .tuple #[.agg #[.int .i64 0, .int .i64 0, .bool false, .slice none 0 0, .int .i64 0], .int .i64 er]) (by simp [results, Tryz.results56, go_sem, s0, s1, s2, s3, s4]) rfl ⟨⟨_, er, _, rfl, ownVol_zero _ _, .inl ⟨HOK.out.1, HOK.out.2, HSN.out, HG2.out⟩⟩, ?_⟩
    exact five_below HB2.out (Nat.le_succ _)

end Go.Proofs.YtdpighcaieajjaaGreat
