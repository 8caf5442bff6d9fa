/- A file and a directory made, by the program. -/
import Derived.Test.YtdpighcaieajjaaGreatChange
namespace Go.Proofs.YtdpighcaieajjaaGreat
open Go.RowKit Go.Sort

/-- what making gives: the error and the volume -/
def MakeG (d : VolD) (p : ByteArray) (dir : Bool) (er : Int) (dd : VolD) : Prop :=
  ∃ L, pathN p = some L ∧ (((makF d L).2 = 0 ∧ er = 0 ∧ dd = newV d (makF d L).1 (lastN L) dir) ∨ ((makF d L).2 ≠ 0 ∧ er = (makF d L).2 ∧ dd = v0))
theorem CreateIs.act {d : VolD} {p : ByteArray} {L : List ByteArray} {dir : Bool} {base B : Nat} {e : Ending} {w' : World} (hp : pathN p = some L) (h : CreateIs d (makF d L) (lastN L) dir base B e w') : ActIs (MakeG d p dir) base B e w' := by
  rcases h with ⟨h1, h2, h3⟩ | ⟨h1, h2⟩
  · exact .inl ⟨_, h2, h3, L, hp, .inl ⟨h1, rfl, rfl⟩⟩
  · exact .inr ⟨_, h1, h2, L, hp, .inr ⟨h1, rfl, rfl⟩⟩

set_option maxRecDepth 100000 in
set_option maxHeartbeats 1000000 in
theorem make1_any (base B A : Nat) (d : VolD) (p : ByteArray) (L : List ByteArray) (w : World) (ho : OwnPtr w base B d) (hok : VolOk d) (hs : SmallV d) (hp : pathN p = some L) (hA : w.cell? ⟨A, 0, none⟩ = some (.string p)) :
    Calls Tryz.prog 57 #[.pointer (some ⟨B, 0, none⟩), .pointer (some ⟨A, 0, none⟩)] w fun e w' => ActIs (MakeG d p false) base B e w' ∧ KeepU w w' ∧ Below base w w' := by
  have HOK : Hid (VolOk d) := hok
  have HO : Hid (OwnPtr w base B d) := ho
  have HS : Hid (SmallV d) := hs
  have HP : Hid (pathN p = some L) := hp
  clear hok ho hs hp
  go_enter Tryz.func57, Tryz.ntmps57
  go_wp2_with fail
  refine (create_any base B d p L false _ HO.out HOK.out HS.out HP.out).mono ?_
  rintro e w1 ⟨hc, hk, hb⟩
  rcases hc.act HP.out with ⟨d', rfl, h1, h2⟩ | ⟨er, hne, rfl, h2⟩
  · have HA : Hid (ActIs (MakeG d p false) base B (.returned (.int .i64 0)) w1 ∧ KeepU w w1 ∧ Below base w w1) := ⟨.inl ⟨d', rfl, h1, h2⟩, hk, hb⟩
    clear h1 h2 hc hk hb
    go_wp2_with fail
    exact bodyPost_ret (v := .int .i64 0) (by simp [results, Tryz.results57, go_sem]) rfl HA.out
  · have HA : Hid (ActIs (MakeG d p false) base B (.returned (.int .i64 er)) w1 ∧ KeepU w w1 ∧ Below base w w1) := ⟨.inr ⟨er, hne, rfl, h2⟩, hk, hb⟩
    clear hne h2 hc hk hb
    go_wp2_with fail
    exact bodyPost_ret (v := .int .i64 er) (by simp [results, Tryz.results57, go_sem]) rfl HA.out

theorem four_at1 (w : World) (a b c d : Obj) : ((((w.alloc a).alloc b).alloc c).alloc d).heap[w.heap.size + 1]? = some b :=
  (Lib.alloc_old _ _ _ (by simp)).trans (three_1 w a b c)
theorem four_at2 (w : World) (a b c d : Obj) : ((((w.alloc a).alloc b).alloc c).alloc d).heap[w.heap.size + 2]? = some c :=
  (Lib.alloc_old _ _ _ (by simp)).trans (three_2 w a b c)
theorem size4 (w : World) (a b c d : Obj) : ((((w.alloc a).alloc b).alloc c).alloc d).heap.size = w.heap.size + 4 := by simp
theorem cell_of_block {w : World} {k : Nat} {v : Value} {t : TypeId} (h : w.heap[k]? = some (.cells #[v] t (0, 0))) : w.cell? ⟨k, 0, none⟩ = some v := by
  simp [World.cell?, h]

def makeP (w : World) (d : VolD) (a : Option Addr) (ca : Nat) (p : ByteArray) : World :=
  (((w.alloc (.cells #[.int .i64 d.id, .int .i64 d.fr, .bool d.snap, .slice a d.files.length ca, .int .i64 d.next] 24)).alloc (.cells #[.string p] 9)).alloc (.cells #[.int .i64 0, .int .i64 0, .bool false, .slice none 0 0, .int .i64 0] 24)).alloc (.cells #[.string p] 9)

set_option maxRecDepth 100000 in
set_option maxHeartbeats 1000000 in
theorem make_any (v : Value) (d : VolD) (p : ByteArray) (w : World) (hv : VolVal w v d) (hs : SmallV d) :
    Calls Tryz.prog 25 #[v, .string p] w fun e w' => (∃ u er dd, e = .returned (.tuple #[u, .int .i64 er]) ∧ OwnVol w' w.heap.size u dd ∧ ChangeR (MakeG d p false) d [p] er dd) ∧ Below w.heap.size w w' := by
  have HVV : Hid (VolVal w v d) := hv
  have HS : Hid (SmallV d) := hs
  obtain ⟨a, ca, rfl, _, _⟩ := hv
  have HB0 : Hid (Below w.heap.size w (makeP w d a ca p)) := nwA (nwA (nwA (nwA (nwR w) _) _) _) _
  have HR0 : Hid ((makeP w d a ca p).heap[w.heap.size + 2]? = some (.cells #[.int .i64 0, .int .i64 0, .bool false, .slice none 0 0, .int .i64 0] 24 (0, 0))) := four_at2 w _ _ _ _
  have HA0 : Hid ((makeP w d a ca p).heap[w.heap.size + 1]? = some (.cells #[.string p] 9 (0, 0))) := four_at1 w _ _ _ _
  have HSZ : Hid ((makeP w d a ca p).heap.size = w.heap.size + 4) := size4 w _ _ _ _
  have HST : Hid (StrsAt (makeP w d a ca p) (some ⟨w.heap.size + 3, 0, none⟩) [p]) := by
    have := StrsAt.of_alloc (w := ((w.alloc (.cells #[.int .i64 d.id, .int .i64 d.fr, .bool d.snap, .slice a d.files.length ca, .int .i64 d.next] 24)).alloc (.cells #[.string p] 9)).alloc (.cells #[.int .i64 0, .int .i64 0, .bool false, .slice none 0 0, .int .i64 0] 24)) (xs := [p]) (cs := #[.string p]) (t := 9) rfl
    rw [size3] at this
    exact this
  have eK : ∀ args w, (callFunc 57 args).run Tryz.prog w = .ok (.enter 57 args) w := enters_of Tryz.func57 (by kernel_rfl) rfl
  have HC : Hid (Calls Tryz.prog 56 #[.agg #[.int .i64 d.id, .int .i64 d.fr, .bool d.snap, .slice a d.files.length ca, .int .i64 d.next], .func (.func 57) #[] #[.pointer (some ⟨w.heap.size + 1, 0, none⟩)], .slice (some ⟨w.heap.size + 3, 0, none⟩) 1 1] (makeP w d a ca p) fun e w' => (∃ u er dd, e = .returned (.tuple #[u, .int .i64 er]) ∧ OwnVol w' (w.heap.size + 4) u dd ∧ ChangeR (MakeG d p false) d [p] er dd) ∧ Below (w.heap.size + 4) (makeP w d a ca p) w') := by
    have := change_any (MakeG d p false) 57 (w.heap.size + 1) eK _ d (some ⟨w.heap.size + 3, 0, none⟩) [p] 1 (makeP w d a ca p) (HVV.out.below HB0.out) HS.out HST.out (by simp) (fun w1 base B hb ho hok hps _ => by
      obtain ⟨L, hL⟩ := Option.isSome_iff_exists.1 (hps p (by simp))
      refine make1_any base B (w.heap.size + 1) d p L w1 ho hok HS.out hL (cell_of_block (t := 9) ?_)
      exact (hb.block _ (Array.getElem?_eq_some_iff.1 HA0.out).1).trans HA0.out)
    rw [HSZ.out] at this
    exact this
  unfold makeP at HC HB0 HR0
  clear hs HST HSZ HA0 HVV HS eK
  go_enter Tryz.func25, Tryz.ntmps25
  go_wp2_with fail
  refine HC.out.mono ?_
  rintro e w1 ⟨⟨u, er, dd, rfl, hu, hch⟩, hb1⟩
  have HB1 : Hid (Below w.heap.size w w1) := HB0.out.trans (hb1.mono (Nat.le_add_right _ _))
  have HR1 : Hid (w1.heap[w.heap.size + 2]? = some (.cells #[.int .i64 0, .int .i64 0, .bool false, .slice none 0 0, .int .i64 0] 24 (0, 0))) := (hb1.block _ (by omega)).trans HR0.out
  have HCH : Hid (ChangeR (MakeG d p false) d [p] er dd) := hch
  obtain ⟨fv, rfl, hfv⟩ := hu
  have HFV : Hid (OwnFiles w1 (w.heap.size + 4) fv dd.files) := hfv
  obtain ⟨fa, fc, rfl, _, _⟩ := hfv.at
  clear hb1 HB0 HR0 HC hch hfv
  obtain ⟨q0, q1, q2, q3, q4, qf⟩ := five HR1.out
  go_wp2_with fail
  obtain ⟨s0, s1, s2, s3, s4, _⟩ := five (five_set (d0 := .int .i64 dd.id) (d1 := .int .i64 dd.fr) (d2 := .bool dd.snap) (d3 := .slice fa dd.files.length fc) (d4 := .int .i64 dd.next) HR1.out)
  refine bodyPost_ret (v := .tuple #[.agg #[.int .i64 dd.id, .int .i64 dd.fr, .bool dd.snap, .slice fa dd.files.length fc, .int .i64 dd.next], .int .i64 er]) (by simp [results, Tryz.results25, go_sem, s0, s1, s2, s3, s4]) rfl ⟨⟨_, er, dd, rfl, ⟨_, rfl, ?_⟩, HCH.out⟩, ?_⟩
  · exact (((((HFV.out.set 0 (by omega) _).set 1 (by omega) _).set 2 (by omega) _).set 3 (by omega) _).set 4 (by omega) _).le (Nat.le_add_right _ _)
  · exact five_below HB1.out (by omega)

end Go.Proofs.YtdpighcaieajjaaGreat
