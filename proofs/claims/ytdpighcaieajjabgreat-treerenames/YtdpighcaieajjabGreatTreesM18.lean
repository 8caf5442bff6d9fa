/- Laid together: Faces, Rmake. -/
import Derived.Test.YtdpighcaieajjabGreatTreesM17
/- Directories made, links and directories taken away, other names, by the program's face. -/
namespace Go.Proofs.YtdpighcaieajjabGreat
open Go.RowKit Go.Sort

def UG (R : VolD → List ByteArray → Int × VolD) (d : VolD) (p : ByteArray) (er : Int) (dd : VolD) : Prop := ∃ L, pathN p = some L ∧ (er, dd) = R d L
def U2G (R : VolD → List ByteArray → List ByteArray → Int × VolD) (d : VolD) (p q : ByteArray) (er : Int) (dd : VolD) : Prop := ∃ L M, pathN p = some L ∧ pathN q = some M ∧ (er, dd) = R d L M
theorem ActIs.ug {R : VolD → List ByteArray → Int × VolD} {d : VolD} {p : ByteArray} {L : List ByteArray} {base B : Nat} {e : Ending} {w' : World} (hp : pathN p = some L) (h : ActIs (ActG R d L) base B e w') : ActIs (UG R d p) base B e w' := by
  rcases h with ⟨d', h1, h2, h3⟩ | ⟨er, h1, h2, h3⟩
  · exact .inl ⟨d', h1, h2, L, hp, h3⟩
  · exact .inr ⟨er, h1, h2, L, hp, h3⟩
theorem ActIs.u2g {R : VolD → List ByteArray → List ByteArray → Int × VolD} {d : VolD} {p q : ByteArray} {L M : List ByteArray} {base B : Nat} {e : Ending} {w' : World} (hp : pathN p = some L) (hq : pathN q = some M) (h : ActIs (Act2G R d L M) base B e w') : ActIs (U2G R d p q) base B e w' := by
  rcases h with ⟨d', h1, h2, h3⟩ | ⟨er, h1, h2, h3⟩
  · exact .inl ⟨d', h1, h2, L, M, hp, hq, h3⟩
  · exact .inr ⟨er, h1, h2, L, M, hp, hq, h3⟩

set_option maxRecDepth 100000 in
set_option maxHeartbeats 1000000 in
theorem dir1_any (base B A : Nat) (d : VolD) (p : ByteArray) (L : List ByteArray) (w : World) (ho : OwnPtr w base B d) (hok : VolOk d) (hs : SmallV d) (hp : pathN p = some L) (hA : w.cell? ⟨A, 0, none⟩ = some (.string p)) :
    Calls Tryz.prog 48 #[.pointer (some ⟨B, 0, none⟩), .pointer (some ⟨A, 0, none⟩)] w fun e w' => ActIs (MakeG d p true) base B e w' ∧ KeepU w w' ∧ Below base w w' := by
  have HOK : Hid (VolOk d) := hok
  have HO : Hid (OwnPtr w base B d) := ho
  have HS : Hid (SmallV d) := hs
  have HP : Hid (pathN p = some L) := hp
  clear hok ho hs hp
  go_enter Tryz.func48, Tryz.ntmps48
  go_wp2_with fail
  refine (create_any base B d p L true _ HO.out HOK.out HS.out HP.out).mono ?_
  rintro e w1 ⟨hc, hk, hb⟩
  rcases hc.act HP.out with ⟨d', rfl, h1, h2⟩ | ⟨er, hne, rfl, h2⟩
  · have HA : Hid (ActIs (MakeG d p true) base B (.returned (.int .i64 0)) w1 ∧ KeepU w w1 ∧ Below base w w1) := ⟨.inl ⟨d', rfl, h1, h2⟩, hk, hb⟩
    clear h1 h2 hc hk hb
    go_wp2_with fail
    exact bodyPost_ret (v := .int .i64 0) (by simp [results, Tryz.results48, go_sem]) rfl HA.out
  · have HA : Hid (ActIs (MakeG d p true) base B (.returned (.int .i64 er)) w1 ∧ KeepU w w1 ∧ Below base w w1) := ⟨.inr ⟨er, hne, rfl, h2⟩, hk, hb⟩
    clear hne h2 hc hk hb
    go_wp2_with fail
    exact bodyPost_ret (v := .int .i64 er) (by simp [results, Tryz.results48, go_sem]) rfl HA.out

set_option maxRecDepth 100000 in
set_option maxHeartbeats 1000000 in
theorem dir_any (v : Value) (d : VolD) (p : ByteArray) (w : World) (hv : VolVal w v d) (hs : SmallV d) :
    Calls Tryz.prog 19 #[v, .string p] w fun e w' => (∃ u er dd, e = .returned (.tuple #[u, .int .i64 er]) ∧ OwnVol w' w.heap.size u dd ∧ ChangeR (MakeG d p true) d [p] er dd) ∧ Below w.heap.size w w' := by
  have HVV : Hid (VolVal w v d) := hv
  have HS : Hid (SmallV d) := hs
  obtain ⟨a, ca, rfl, _, _⟩ := hv
  have HB0 : Hid (Below w.heap.size w (makeP w d a ca p)) := nwA (nwA (nwA (nwA (nwR w) _) _) _) _
  have HR0 : Hid ((makeP w d a ca p).heap[w.heap.size + 2]? = some (.cells #[.int .i64 0, .int .i64 0, .bool false, .slice none 0 0, .int .i64 0] 24 (0, 0))) := four_at2 w _ _ _ _
  have HA0 : Hid ((makeP w d a ca p).heap[w.heap.size + 1]? = some (.cells #[.string p] 9 (0, 0))) := four_at1 w _ _ _ _
  have HSZ : Hid ((makeP w d a ca p).heap.size = w.heap.size + 4) := size4 w _ _ _ _
  have HST : Hid (StrsAt (makeP w d a ca p) (some ⟨w.heap.size + 3, 0, none⟩) [p]) := by
    have := StrsAt.of_alloc (w := ((w.alloc (.cells #[.int .i64 d.id, .int .i64 d.fr, .bool d.snap, .slice a d.files.length ca, .int .i64 d.next] 24)).alloc (.cells #[.string p] 9)).alloc (.cells #[.int .i64 0, .int .i64 0, .bool false, .slice none 0 0, .int .i64 0] 24)) (xs := [p]) (cs := #[.string p]) (t := 9) rfl
    rw [size3] at this
    exact this
  have eK : ∀ args w, (callFunc 48 args).run Tryz.prog w = .ok (.enter 48 args) w := enters_of Tryz.func48 (by kernel_rfl) rfl
  have HC : Hid (Calls Tryz.prog 42 #[.agg #[.int .i64 d.id, .int .i64 d.fr, .bool d.snap, .slice a d.files.length ca, .int .i64 d.next], .func (.func 48) #[] #[.pointer (some ⟨w.heap.size + 1, 0, none⟩)], .slice (some ⟨w.heap.size + 3, 0, none⟩) 1 1] (makeP w d a ca p) fun e w' => (∃ u er dd, e = .returned (.tuple #[u, .int .i64 er]) ∧ OwnVol w' (w.heap.size + 4) u dd ∧ ChangeR (MakeG d p true) d [p] er dd) ∧ Below (w.heap.size + 4) (makeP w d a ca p) w') := by
    have := change_any (MakeG d p true) 48 (w.heap.size + 1) eK _ d (some ⟨w.heap.size + 3, 0, none⟩) [p] 1 (makeP w d a ca p) (HVV.out.below HB0.out) HS.out HST.out (by simp) (fun w1 base B hb ho hok hps _ => by
      obtain ⟨L, hL⟩ := Option.isSome_iff_exists.1 (hps p (by simp))
      refine dir1_any base B (w.heap.size + 1) d p L w1 ho hok HS.out hL (cell_of_block (t := 9) ?_)
      exact (hb.block _ (Array.getElem?_eq_some_iff.1 HA0.out).1).trans HA0.out)
    rw [HSZ.out] at this
    exact this
  unfold makeP at HC HB0 HR0
  clear hs HST HSZ HA0 HVV HS eK
  go_enter Tryz.func19, Tryz.ntmps19
  go_wp2_with fail
  refine HC.out.mono ?_
  rintro e w1 ⟨⟨u, er, dd, rfl, hu, hch⟩, hb1⟩
  have HB1 : Hid (Below w.heap.size w w1) := HB0.out.trans (hb1.mono (Nat.le_add_right _ _))
  have HR1 : Hid (w1.heap[w.heap.size + 2]? = some (.cells #[.int .i64 0, .int .i64 0, .bool false, .slice none 0 0, .int .i64 0] 24 (0, 0))) := (hb1.block _ (by omega)).trans HR0.out
  have HCH : Hid (ChangeR (MakeG d p true) d [p] er dd) := hch
  obtain ⟨fv, rfl, hfv⟩ := hu
  have HFV : Hid (OwnFiles w1 (w.heap.size + 4) fv dd.files) := hfv
  obtain ⟨fa, fc, rfl, _, _⟩ := hfv.at
  clear hb1 HB0 HR0 HC hch hfv
  obtain ⟨q0, q1, q2, q3, q4, qf⟩ := five HR1.out
  go_wp2_with fail
  obtain ⟨s0, s1, s2, s3, s4, _⟩ := five (five_set (d0 := .int .i64 dd.id) (d1 := .int .i64 dd.fr) (d2 := .bool dd.snap) (d3 := .slice fa dd.files.length fc) (d4 := .int .i64 dd.next) HR1.out)
  refine bodyPost_ret (v := .tuple #[.agg #[.int .i64 dd.id, .int .i64 dd.fr, .bool dd.snap, .slice fa dd.files.length fc, .int .i64 dd.next], .int .i64 er]) (by simp [results, Tryz.results19, go_sem, s0, s1, s2, s3, s4]) rfl ⟨⟨_, er, dd, rfl, ⟨_, rfl, ?_⟩, HCH.out⟩, ?_⟩
  · exact (((((HFV.out.set 0 (by omega) _).set 1 (by omega) _).set 2 (by omega) _).set 3 (by omega) _).set 4 (by omega) _).le (Nat.le_add_right _ _)
  · exact five_below HB1.out (by omega)

set_option maxRecDepth 100000 in
set_option maxHeartbeats 1000000 in
theorem tunlink1_any (base B A : Nat) (d : VolD) (p : ByteArray) (L : List ByteArray) (w : World) (ho : OwnPtr w base B d) (hok : VolOk d) (hs : SmallV d) (hp : pathN p = some L) (hA : w.cell? ⟨A, 0, none⟩ = some (.string p)) :
    Calls Tryz.prog 52 #[.pointer (some ⟨B, 0, none⟩), .pointer (some ⟨A, 0, none⟩)] w fun e w' => ActIs (UG unlR d p) base B e w' ∧ KeepU w w' ∧ Below base w w' := by
  have HOK : Hid (VolOk d) := hok
  have HO : Hid (OwnPtr w base B d) := ho
  have HS : Hid (SmallV d) := hs
  have HP : Hid (pathN p = some L) := hp
  clear hok ho hs hp
  go_enter Tryz.func52, Tryz.ntmps52
  go_wp2_with fail
  refine (unlink_any base B d p L _ HO.out HOK.out HS.out HP.out).mono ?_
  rintro e w1 ⟨hc, hk, hb⟩
  rcases hc.ug HP.out with ⟨d', rfl, h1, h2⟩ | ⟨er, hne, rfl, h2⟩
  · have HA : Hid (ActIs (UG unlR d p) base B (.returned (.int .i64 0)) w1 ∧ KeepU w w1 ∧ Below base w w1) := ⟨.inl ⟨d', rfl, h1, h2⟩, hk, hb⟩
    clear h1 h2 hc hk hb
    go_wp2_with fail
    exact bodyPost_ret (v := .int .i64 0) (by simp [results, Tryz.results52, go_sem]) rfl HA.out
  · have HA : Hid (ActIs (UG unlR d p) base B (.returned (.int .i64 er)) w1 ∧ KeepU w w1 ∧ Below base w w1) := ⟨.inr ⟨er, hne, rfl, h2⟩, hk, hb⟩
    clear hne h2 hc hk hb
    go_wp2_with fail
    exact bodyPost_ret (v := .int .i64 er) (by simp [results, Tryz.results52, go_sem]) rfl HA.out

set_option maxRecDepth 100000 in
set_option maxHeartbeats 1000000 in
theorem tunlink_any (v : Value) (d : VolD) (p : ByteArray) (w : World) (hv : VolVal w v d) (hs : SmallV d) :
    Calls Tryz.prog 22 #[v, .string p] w fun e w' => (∃ u er dd, e = .returned (.tuple #[u, .int .i64 er]) ∧ OwnVol w' w.heap.size u dd ∧ ChangeR (UG unlR d p) d [p] er dd) ∧ Below w.heap.size w w' := by
  have HVV : Hid (VolVal w v d) := hv
  have HS : Hid (SmallV d) := hs
  obtain ⟨a, ca, rfl, _, _⟩ := hv
  have HB0 : Hid (Below w.heap.size w (makeP w d a ca p)) := nwA (nwA (nwA (nwA (nwR w) _) _) _) _
  have HR0 : Hid ((makeP w d a ca p).heap[w.heap.size + 2]? = some (.cells #[.int .i64 0, .int .i64 0, .bool false, .slice none 0 0, .int .i64 0] 24 (0, 0))) := four_at2 w _ _ _ _
  have HA0 : Hid ((makeP w d a ca p).heap[w.heap.size + 1]? = some (.cells #[.string p] 9 (0, 0))) := four_at1 w _ _ _ _
  have HSZ : Hid ((makeP w d a ca p).heap.size = w.heap.size + 4) := size4 w _ _ _ _
  have HST : Hid (StrsAt (makeP w d a ca p) (some ⟨w.heap.size + 3, 0, none⟩) [p]) := by
    have := StrsAt.of_alloc (w := ((w.alloc (.cells #[.int .i64 d.id, .int .i64 d.fr, .bool d.snap, .slice a d.files.length ca, .int .i64 d.next] 24)).alloc (.cells #[.string p] 9)).alloc (.cells #[.int .i64 0, .int .i64 0, .bool false, .slice none 0 0, .int .i64 0] 24)) (xs := [p]) (cs := #[.string p]) (t := 9) rfl
    rw [size3] at this
    exact this
  have eK : ∀ args w, (callFunc 52 args).run Tryz.prog w = .ok (.enter 52 args) w := enters_of Tryz.func52 (by kernel_rfl) rfl
  have HC : Hid (Calls Tryz.prog 42 #[.agg #[.int .i64 d.id, .int .i64 d.fr, .bool d.snap, .slice a d.files.length ca, .int .i64 d.next], .func (.func 52) #[] #[.pointer (some ⟨w.heap.size + 1, 0, none⟩)], .slice (some ⟨w.heap.size + 3, 0, none⟩) 1 1] (makeP w d a ca p) fun e w' => (∃ u er dd, e = .returned (.tuple #[u, .int .i64 er]) ∧ OwnVol w' (w.heap.size + 4) u dd ∧ ChangeR (UG unlR d p) d [p] er dd) ∧ Below (w.heap.size + 4) (makeP w d a ca p) w') := by
    have := change_any (UG unlR d p) 52 (w.heap.size + 1) eK _ d (some ⟨w.heap.size + 3, 0, none⟩) [p] 1 (makeP w d a ca p) (HVV.out.below HB0.out) HS.out HST.out (by simp) (fun w1 base B hb ho hok hps _ => by
      obtain ⟨L, hL⟩ := Option.isSome_iff_exists.1 (hps p (by simp))
      refine tunlink1_any base B (w.heap.size + 1) d p L w1 ho hok HS.out hL (cell_of_block (t := 9) ?_)
      exact (hb.block _ (Array.getElem?_eq_some_iff.1 HA0.out).1).trans HA0.out)
    rw [HSZ.out] at this
    exact this
  unfold makeP at HC HB0 HR0
  clear hs HST HSZ HA0 HVV HS eK
  go_enter Tryz.func22, Tryz.ntmps22
  go_wp2_with fail
  refine HC.out.mono ?_
  rintro e w1 ⟨⟨u, er, dd, rfl, hu, hch⟩, hb1⟩
  have HB1 : Hid (Below w.heap.size w w1) := HB0.out.trans (hb1.mono (Nat.le_add_right _ _))
  have HR1 : Hid (w1.heap[w.heap.size + 2]? = some (.cells #[.int .i64 0, .int .i64 0, .bool false, .slice none 0 0, .int .i64 0] 24 (0, 0))) := (hb1.block _ (by omega)).trans HR0.out
  have HCH : Hid (ChangeR (UG unlR d p) d [p] er dd) := hch
  obtain ⟨fv, rfl, hfv⟩ := hu
  have HFV : Hid (OwnFiles w1 (w.heap.size + 4) fv dd.files) := hfv
  obtain ⟨fa, fc, rfl, _, _⟩ := hfv.at
  clear hb1 HB0 HR0 HC hch hfv
  obtain ⟨q0, q1, q2, q3, q4, qf⟩ := five HR1.out
  go_wp2_with fail
  obtain ⟨s0, s1, s2, s3, s4, _⟩ := five (five_set (d0 := .int .i64 dd.id) (d1 := .int .i64 dd.fr) (d2 := .bool dd.snap) (d3 := .slice fa dd.files.length fc) (d4 := .int .i64 dd.next) HR1.out)
  refine bodyPost_ret (v := .tuple #[.agg #[.int .i64 dd.id, .int .i64 dd.fr, .bool dd.snap, .slice fa dd.files.length fc, .int .i64 dd.next], .int .i64 er]) (by simp [results, Tryz.results22, go_sem, s0, s1, s2, s3, s4]) rfl ⟨⟨_, er, dd, rfl, ⟨_, rfl, ?_⟩, HCH.out⟩, ?_⟩
  · exact (((((HFV.out.set 0 (by omega) _).set 1 (by omega) _).set 2 (by omega) _).set 3 (by omega) _).set 4 (by omega) _).le (Nat.le_add_right _ _)
  · exact five_below HB1.out (by omega)

set_option maxRecDepth 100000 in
set_option maxHeartbeats 1000000 in
theorem trmdir1_any (base B A : Nat) (d : VolD) (p : ByteArray) (L : List ByteArray) (w : World) (ho : OwnPtr w base B d) (hok : VolOk d) (hs : SmallV d) (hp : pathN p = some L) (hA : w.cell? ⟨A, 0, none⟩ = some (.string p)) :
    Calls Tryz.prog 56 #[.pointer (some ⟨B, 0, none⟩), .pointer (some ⟨A, 0, none⟩)] w fun e w' => ActIs (UG rmdR d p) base B e w' ∧ KeepU w w' ∧ Below base w w' := by
  have HOK : Hid (VolOk d) := hok
  have HO : Hid (OwnPtr w base B d) := ho
  have HS : Hid (SmallV d) := hs
  have HP : Hid (pathN p = some L) := hp
  clear hok ho hs hp
  go_enter Tryz.func56, Tryz.ntmps56
  go_wp2_with fail
  refine (rmdir_any base B d p L _ HO.out HOK.out HS.out HP.out).mono ?_
  rintro e w1 ⟨hc, hk, hb⟩
  rcases hc.ug HP.out with ⟨d', rfl, h1, h2⟩ | ⟨er, hne, rfl, h2⟩
  · have HA : Hid (ActIs (UG rmdR d p) base B (.returned (.int .i64 0)) w1 ∧ KeepU w w1 ∧ Below base w w1) := ⟨.inl ⟨d', rfl, h1, h2⟩, hk, hb⟩
    clear h1 h2 hc hk hb
    go_wp2_with fail
    exact bodyPost_ret (v := .int .i64 0) (by simp [results, Tryz.results56, go_sem]) rfl HA.out
  · have HA : Hid (ActIs (UG rmdR d p) base B (.returned (.int .i64 er)) w1 ∧ KeepU w w1 ∧ Below base w w1) := ⟨.inr ⟨er, hne, rfl, h2⟩, hk, hb⟩
    clear hne h2 hc hk hb
    go_wp2_with fail
    exact bodyPost_ret (v := .int .i64 er) (by simp [results, Tryz.results56, go_sem]) rfl HA.out

set_option maxRecDepth 100000 in
set_option maxHeartbeats 1000000 in
theorem trmdir_any (v : Value) (d : VolD) (p : ByteArray) (w : World) (hv : VolVal w v d) (hs : SmallV d) :
    Calls Tryz.prog 24 #[v, .string p] w fun e w' => (∃ u er dd, e = .returned (.tuple #[u, .int .i64 er]) ∧ OwnVol w' w.heap.size u dd ∧ ChangeR (UG rmdR d p) d [p] er dd) ∧ Below w.heap.size w w' := by
  have HVV : Hid (VolVal w v d) := hv
  have HS : Hid (SmallV d) := hs
  obtain ⟨a, ca, rfl, _, _⟩ := hv
  have HB0 : Hid (Below w.heap.size w (makeP w d a ca p)) := nwA (nwA (nwA (nwA (nwR w) _) _) _) _
  have HR0 : Hid ((makeP w d a ca p).heap[w.heap.size + 2]? = some (.cells #[.int .i64 0, .int .i64 0, .bool false, .slice none 0 0, .int .i64 0] 24 (0, 0))) := four_at2 w _ _ _ _
  have HA0 : Hid ((makeP w d a ca p).heap[w.heap.size + 1]? = some (.cells #[.string p] 9 (0, 0))) := four_at1 w _ _ _ _
  have HSZ : Hid ((makeP w d a ca p).heap.size = w.heap.size + 4) := size4 w _ _ _ _
  have HST : Hid (StrsAt (makeP w d a ca p) (some ⟨w.heap.size + 3, 0, none⟩) [p]) := by
    have := StrsAt.of_alloc (w := ((w.alloc (.cells #[.int .i64 d.id, .int .i64 d.fr, .bool d.snap, .slice a d.files.length ca, .int .i64 d.next] 24)).alloc (.cells #[.string p] 9)).alloc (.cells #[.int .i64 0, .int .i64 0, .bool false, .slice none 0 0, .int .i64 0] 24)) (xs := [p]) (cs := #[.string p]) (t := 9) rfl
    rw [size3] at this
    exact this
  have eK : ∀ args w, (callFunc 56 args).run Tryz.prog w = .ok (.enter 56 args) w := enters_of Tryz.func56 (by kernel_rfl) rfl
  have HC : Hid (Calls Tryz.prog 42 #[.agg #[.int .i64 d.id, .int .i64 d.fr, .bool d.snap, .slice a d.files.length ca, .int .i64 d.next], .func (.func 56) #[] #[.pointer (some ⟨w.heap.size + 1, 0, none⟩)], .slice (some ⟨w.heap.size + 3, 0, none⟩) 1 1] (makeP w d a ca p) fun e w' => (∃ u er dd, e = .returned (.tuple #[u, .int .i64 er]) ∧ OwnVol w' (w.heap.size + 4) u dd ∧ ChangeR (UG rmdR d p) d [p] er dd) ∧ Below (w.heap.size + 4) (makeP w d a ca p) w') := by
    have := change_any (UG rmdR d p) 56 (w.heap.size + 1) eK _ d (some ⟨w.heap.size + 3, 0, none⟩) [p] 1 (makeP w d a ca p) (HVV.out.below HB0.out) HS.out HST.out (by simp) (fun w1 base B hb ho hok hps _ => by
      obtain ⟨L, hL⟩ := Option.isSome_iff_exists.1 (hps p (by simp))
      refine trmdir1_any base B (w.heap.size + 1) d p L w1 ho hok HS.out hL (cell_of_block (t := 9) ?_)
      exact (hb.block _ (Array.getElem?_eq_some_iff.1 HA0.out).1).trans HA0.out)
    rw [HSZ.out] at this
    exact this
  unfold makeP at HC HB0 HR0
  clear hs HST HSZ HA0 HVV HS eK
  go_enter Tryz.func24, Tryz.ntmps24
  go_wp2_with fail
  refine HC.out.mono ?_
  rintro e w1 ⟨⟨u, er, dd, rfl, hu, hch⟩, hb1⟩
  have HB1 : Hid (Below w.heap.size w w1) := HB0.out.trans (hb1.mono (Nat.le_add_right _ _))
  have HR1 : Hid (w1.heap[w.heap.size + 2]? = some (.cells #[.int .i64 0, .int .i64 0, .bool false, .slice none 0 0, .int .i64 0] 24 (0, 0))) := (hb1.block _ (by omega)).trans HR0.out
  have HCH : Hid (ChangeR (UG rmdR d p) d [p] er dd) := hch
  obtain ⟨fv, rfl, hfv⟩ := hu
  have HFV : Hid (OwnFiles w1 (w.heap.size + 4) fv dd.files) := hfv
  obtain ⟨fa, fc, rfl, _, _⟩ := hfv.at
  clear hb1 HB0 HR0 HC hch hfv
  obtain ⟨q0, q1, q2, q3, q4, qf⟩ := five HR1.out
  go_wp2_with fail
  obtain ⟨s0, s1, s2, s3, s4, _⟩ := five (five_set (d0 := .int .i64 dd.id) (d1 := .int .i64 dd.fr) (d2 := .bool dd.snap) (d3 := .slice fa dd.files.length fc) (d4 := .int .i64 dd.next) HR1.out)
  refine bodyPost_ret (v := .tuple #[.agg #[.int .i64 dd.id, .int .i64 dd.fr, .bool dd.snap, .slice fa dd.files.length fc, .int .i64 dd.next], .int .i64 er]) (by simp [results, Tryz.results24, go_sem, s0, s1, s2, s3, s4]) rfl ⟨⟨_, er, dd, rfl, ⟨_, rfl, ?_⟩, HCH.out⟩, ?_⟩
  · exact (((((HFV.out.set 0 (by omega) _).set 1 (by omega) _).set 2 (by omega) _).set 3 (by omega) _).set 4 (by omega) _).le (Nat.le_add_right _ _)
  · exact five_below HB1.out (by omega)

theorem five_at1 (w : World) (a b c d e : Obj) : (((((w.alloc a).alloc b).alloc c).alloc d).alloc e).heap[w.heap.size + 1]? = some b :=
  (Lib.alloc_old _ _ _ (by simp)).trans (four_at1 w a b c d)
theorem five_at2 (w : World) (a b c d e : Obj) : (((((w.alloc a).alloc b).alloc c).alloc d).alloc e).heap[w.heap.size + 2]? = some c :=
  (Lib.alloc_old _ _ _ (by simp)).trans (four_at2 w a b c d)
theorem five_at3 (w : World) (a b c d e : Obj) : (((((w.alloc a).alloc b).alloc c).alloc d).alloc e).heap[w.heap.size + 3]? = some d := by
  refine (Lib.alloc_old _ _ _ (by simp)).trans ?_
  have := heap_alloc_new (((w.alloc a).alloc b).alloc c) d
  rw [size3] at this
  exact this
theorem size5 (w : World) (a b c d e : Obj) : (((((w.alloc a).alloc b).alloc c).alloc d).alloc e).heap.size = w.heap.size + 5 := by simp
def linkP (w : World) (d : VolD) (a : Option Addr) (ca : Nat) (p q : ByteArray) : World :=
  ((((w.alloc (.cells #[.int .i64 d.id, .int .i64 d.fr, .bool d.snap, .slice a d.files.length ca, .int .i64 d.next] 24)).alloc (.cells #[.string p] 9)).alloc (.cells #[.string q] 9)).alloc (.cells #[.int .i64 0, .int .i64 0, .bool false, .slice none 0 0, .int .i64 0] 24)).alloc (.cells #[.string p, .string q] 9)

set_option maxRecDepth 100000 in
set_option maxHeartbeats 1000000 in
theorem tlink1_any (base B A A2 : Nat) (d : VolD) (p q : ByteArray) (L M : List ByteArray) (w : World) (ho : OwnPtr w base B d) (hok : VolOk d) (hs : SmallV d) (hp : pathN p = some L) (hq : pathN q = some M) (hA : w.cell? ⟨A, 0, none⟩ = some (.string p)) (hA2 : w.cell? ⟨A2, 0, none⟩ = some (.string q)) :
    Calls Tryz.prog 49 #[.pointer (some ⟨B, 0, none⟩), .pointer (some ⟨A, 0, none⟩), .pointer (some ⟨A2, 0, none⟩)] w fun e w' => ActIs (U2G linkR d p q) base B e w' ∧ KeepU w w' ∧ Below base w w' := by
  have HOK : Hid (VolOk d) := hok
  have HO : Hid (OwnPtr w base B d) := ho
  have HS : Hid (SmallV d) := hs
  have HP : Hid (pathN p = some L) := hp
  have HQ : Hid (pathN q = some M) := hq
  clear hok ho hs hp hq
  go_enter Tryz.func49, Tryz.ntmps49
  go_wp2_with fail
  refine (link_any base B d p L q M _ HO.out HOK.out HS.out HP.out HQ.out).mono ?_
  rintro e w1 ⟨hc, hk, hb⟩
  rcases hc.u2g HP.out HQ.out with ⟨d', rfl, h1, h2⟩ | ⟨er, hne, rfl, h2⟩
  · have HA : Hid (ActIs (U2G linkR d p q) base B (.returned (.int .i64 0)) w1 ∧ KeepU w w1 ∧ Below base w w1) := ⟨.inl ⟨d', rfl, h1, h2⟩, hk, hb⟩
    clear h1 h2 hc hk hb
    go_wp2_with fail
    exact bodyPost_ret (v := .int .i64 0) (by simp [results, Tryz.results49, go_sem]) rfl HA.out
  · have HA : Hid (ActIs (U2G linkR d p q) base B (.returned (.int .i64 er)) w1 ∧ KeepU w w1 ∧ Below base w w1) := ⟨.inr ⟨er, hne, rfl, h2⟩, hk, hb⟩
    clear hne h2 hc hk hb
    go_wp2_with fail
    exact bodyPost_ret (v := .int .i64 er) (by simp [results, Tryz.results49, go_sem]) rfl HA.out

set_option maxRecDepth 100000 in
set_option maxHeartbeats 1000000 in
theorem tlink_any (v : Value) (d : VolD) (p q : ByteArray) (w : World) (hv : VolVal w v d) (hs : SmallV d) :
    Calls Tryz.prog 20 #[v, .string p, .string q] w fun e w' => (∃ u er dd, e = .returned (.tuple #[u, .int .i64 er]) ∧ OwnVol w' w.heap.size u dd ∧ ChangeR (U2G linkR d p q) d [p, q] er dd) ∧ Below w.heap.size w w' := by
  have HVV : Hid (VolVal w v d) := hv
  have HS : Hid (SmallV d) := hs
  obtain ⟨a, ca, rfl, _, _⟩ := hv
  have HB0 : Hid (Below w.heap.size w (linkP w d a ca p q)) := nwA (nwA (nwA (nwA (nwA (nwR w) _) _) _) _) _
  have HR0 : Hid ((linkP w d a ca p q).heap[w.heap.size + 3]? = some (.cells #[.int .i64 0, .int .i64 0, .bool false, .slice none 0 0, .int .i64 0] 24 (0, 0))) := five_at3 w _ _ _ _ _
  have HA0 : Hid ((linkP w d a ca p q).heap[w.heap.size + 1]? = some (.cells #[.string p] 9 (0, 0))) := five_at1 w _ _ _ _ _
  have HA1 : Hid ((linkP w d a ca p q).heap[w.heap.size + 2]? = some (.cells #[.string q] 9 (0, 0))) := five_at2 w _ _ _ _ _
  have HSZ : Hid ((linkP w d a ca p q).heap.size = w.heap.size + 5) := size5 w _ _ _ _ _
  have HST : Hid (StrsAt (linkP w d a ca p q) (some ⟨w.heap.size + 4, 0, none⟩) [p, q]) := by
    have := StrsAt.of_alloc (w := (((w.alloc (.cells #[.int .i64 d.id, .int .i64 d.fr, .bool d.snap, .slice a d.files.length ca, .int .i64 d.next] 24)).alloc (.cells #[.string p] 9)).alloc (.cells #[.string q] 9)).alloc (.cells #[.int .i64 0, .int .i64 0, .bool false, .slice none 0 0, .int .i64 0] 24)) (xs := [p, q]) (cs := #[.string p, .string q]) (t := 9) rfl
    rw [size4] at this
    exact this
  have eK : ∀ args w, (callFunc 49 args).run Tryz.prog w = .ok (.enter 49 args) w := enters_of Tryz.func49 (by kernel_rfl) rfl
  have HC : Hid (Calls Tryz.prog 42 #[.agg #[.int .i64 d.id, .int .i64 d.fr, .bool d.snap, .slice a d.files.length ca, .int .i64 d.next], .func (.func 49) #[] #[.pointer (some ⟨w.heap.size + 1, 0, none⟩), .pointer (some ⟨w.heap.size + 2, 0, none⟩)], .slice (some ⟨w.heap.size + 4, 0, none⟩) 2 2] (linkP w d a ca p q) fun e w' => (∃ u er dd, e = .returned (.tuple #[u, .int .i64 er]) ∧ OwnVol w' (w.heap.size + 5) u dd ∧ ChangeR (U2G linkR d p q) d [p, q] er dd) ∧ Below (w.heap.size + 5) (linkP w d a ca p q) w') := by
    have := change_gen (U2G linkR d p q) 49 #[.pointer (some ⟨w.heap.size + 1, 0, none⟩), .pointer (some ⟨w.heap.size + 2, 0, none⟩)] eK _ d (some ⟨w.heap.size + 4, 0, none⟩) [p, q] 2 (linkP w d a ca p q) (HVV.out.below HB0.out) HS.out HST.out (by simp) (fun w1 base B hb ho hok hps _ => by
      obtain ⟨L, hL⟩ := Option.isSome_iff_exists.1 (hps p (by simp))
      obtain ⟨M, hM⟩ := Option.isSome_iff_exists.1 (hps q (by simp))
      refine tlink1_any base B (w.heap.size + 1) (w.heap.size + 2) d p q L M w1 ho hok HS.out hL hM (cell_of_block (t := 9) ?_) (cell_of_block (t := 9) ?_)
      · exact (hb.block _ (Array.getElem?_eq_some_iff.1 HA0.out).1).trans HA0.out
      · exact (hb.block _ (Array.getElem?_eq_some_iff.1 HA1.out).1).trans HA1.out)
    rw [HSZ.out] at this
    exact this
  unfold linkP at HC HB0 HR0
  clear hs HST HSZ HA0 HA1 HVV HS eK
  go_enter Tryz.func20, Tryz.ntmps20
  go_wp2_with fail
  refine HC.out.mono ?_
  rintro e w1 ⟨⟨u, er, dd, rfl, hu, hch⟩, hb1⟩
  have HB1 : Hid (Below w.heap.size w w1) := HB0.out.trans (hb1.mono (Nat.le_add_right _ _))
  have HR1 : Hid (w1.heap[w.heap.size + 3]? = some (.cells #[.int .i64 0, .int .i64 0, .bool false, .slice none 0 0, .int .i64 0] 24 (0, 0))) := (hb1.block _ (by omega)).trans HR0.out
  have HCH : Hid (ChangeR (U2G linkR d p q) d [p, q] er dd) := hch
  obtain ⟨fv, rfl, hfv⟩ := hu
  have HFV : Hid (OwnFiles w1 (w.heap.size + 5) fv dd.files) := hfv
  obtain ⟨fa, fc, rfl, _, _⟩ := hfv.at
  clear hb1 HB0 HR0 HC hch hfv
  obtain ⟨q0, q1, q2, q3, q4, qf⟩ := five HR1.out
  go_wp2_with fail
  obtain ⟨s0, s1, s2, s3, s4, _⟩ := five (five_set (d0 := .int .i64 dd.id) (d1 := .int .i64 dd.fr) (d2 := .bool dd.snap) (d3 := .slice fa dd.files.length fc) (d4 := .int .i64 dd.next) HR1.out)
  refine bodyPost_ret (v := .tuple #[.agg #[.int .i64 dd.id, .int .i64 dd.fr, .bool dd.snap, .slice fa dd.files.length fc, .int .i64 dd.next], .int .i64 er]) (by simp [results, Tryz.results20, go_sem, s0, s1, s2, s3, s4]) rfl ⟨⟨_, er, dd, rfl, ⟨_, rfl, ?_⟩, HCH.out⟩, ?_⟩
  · exact (((((HFV.out.set 0 (by omega) _).set 1 (by omega) _).set 2 (by omega) _).set 3 (by omega) _).set 4 (by omega) _).le (Nat.le_add_right _ _)
  · exact five_below HB1.out (by omega)

end Go.Proofs.YtdpighcaieajjabGreat

/- A file and a directory made, by the page. -/
namespace Go.Proofs.YtdpighcaieajjabGreat
open Go.RowKit Go.Sort

/-- what the page tells of an act: nothing is done to snapshots -/
def SnapR (d : VolD) (r : Int × VolD) (er : Int) (dd : VolD) : Prop := (d.snap = true ∧ er = 9 ∧ dd = Go.Proofs.YtdpighcaieajjabGreat.v0) ∨ (d.snap = false ∧ (er, dd) = r)
theorem five_aside {w : World} {g k : Nat} {c0 c1 c2 c3 c4 : Value} {o : Obj} (h : w.heap[k]? = some o) (hk : k ≠ g) : (((((w.setCell ⟨g, 0, none⟩ c0).setCell ⟨g, 1, none⟩ c1).setCell ⟨g, 2, none⟩ c2).setCell ⟨g, 3, none⟩ c3).setCell ⟨g, 4, none⟩ c4).heap[k]? = some o := by
  rw [heap_setCell_other _ ⟨g, 4, none⟩ k _ hk, heap_setCell_other _ ⟨g, 3, none⟩ k _ hk, heap_setCell_other _ ⟨g, 2, none⟩ k _ hk, heap_setCell_other _ ⟨g, 1, none⟩ k _ hk, heap_setCell_other _ ⟨g, 0, none⟩ k _ hk, h]
theorem parF_lt {fs : List FileD} (h : Sound fs) {L : List ByteArray} {q : Nat} (hq : parF fs L = (q, 0)) : q < fs.length := by
  have hp : parF fs L = if (findF fs 0 (L.take (L.length - 1))).2 = 0 then (if (fs.getD (findF fs 0 (L.take (L.length - 1))).1 f0).dir then findF fs 0 (L.take (L.length - 1)) else (0, 7)) else (0, (findF fs 0 (L.take (L.length - 1))).2) := rfl
  have hl := findF_lt h (L.take (L.length - 1)) 0 h.1
  rw [hp] at hq
  split at hq
  · split at hq
    · rw [hq] at hl; exact hl
    · simp at hq
  · rename_i h2; simp only [Prod.mk.injEq] at hq; exact absurd hq.2 h2
def RPost (d : VolD) (r : Int × VolD) (w : World) (e : Ending) (w' : World) : Prop := (∃ u er dd, e = .returned (.tuple #[u, .int .i64 er]) ∧ OwnVol w' w.heap.size u dd ∧ SnapR d r er dd) ∧ Below w.heap.size w w'
def mkR (d : VolD) (L : List ByteArray) (dir : Bool) : Int × VolD := if (makF d L).2 = 0 then (0, newV d (makF d L).1 (lastN L) dir) else ((makF d L).2, Go.Proofs.YtdpighcaieajjabGreat.v0)
set_option maxRecDepth 100000 in
set_option maxHeartbeats 8000000 in
theorem rmake_any (v : Value) (d : VolD) (a : Option Addr) (L : List ByteArray) (cL : Nat) (dir : Bool) (w : World) (hv : VolVal w v d) (hs : SmallV d) (hok : VolOk d) (hL : StrsAt w a L) (hcL : L.length ≤ cL) (hl5 : L.length ≤ 5) :
    Calls Tryz.prog 18 #[v, .slice a L.length cL, .bool dir] w (RPost d (mkR d L dir) w) := by
  have HS : Hid (SmallV d) := hs
  have HOK : Hid (VolOk d) := hok
  have HVV : Hid (VolVal w v d) := hv
  have hpos : 0 < d.files.length := hok.2.1.1.1
  have h16 : d.files.length ≤ 16 := hok.2.1.1.2.1
  have HL : Hid (StrsAt w a L) := hL
  clear hL
  obtain ⟨av, ca, rfl, _, _⟩ := hv
  have HB0 : Hid (Below w.heap.size w ((w.alloc (.cells #[.int .i64 d.id, .int .i64 d.fr, .bool d.snap, .slice av d.files.length ca, .int .i64 d.next] 24)).alloc (.cells #[.int .i64 0, .int .i64 0, .bool false, .slice none 0 0, .int .i64 0] 24))) := nwA (nwA (nwR w) _) _
  have HR0 : Hid (((w.alloc (.cells #[.int .i64 d.id, .int .i64 d.fr, .bool d.snap, .slice av d.files.length ca, .int .i64 d.next] 24)).alloc (.cells #[.int .i64 0, .int .i64 0, .bool false, .slice none 0 0, .int .i64 0] 24)).heap[w.heap.size + 1]? = some (.cells #[.int .i64 0, .int .i64 0, .bool false, .slice none 0 0, .int .i64 0] 24 (0, 0))) := heap_alloc_new2 w _ _
  have HG0 : Hid (((w.alloc (.cells #[.int .i64 d.id, .int .i64 d.fr, .bool d.snap, .slice av d.files.length ca, .int .i64 d.next] 24)).alloc (.cells #[.int .i64 0, .int .i64 0, .bool false, .slice none 0 0, .int .i64 0] 24)).heap[w.heap.size]? = some (.cells #[.int .i64 d.id, .int .i64 d.fr, .bool d.snap, .slice av d.files.length ca, .int .i64 d.next] 24 (0, 0))) := (Lib.alloc_old _ _ _ (by simp)).trans (heap_alloc_new w _)
  have HSZ : Hid (((w.alloc (.cells #[.int .i64 d.id, .int .i64 d.fr, .bool d.snap, .slice av d.files.length ca, .int .i64 d.next] 24)).alloc (.cells #[.int .i64 0, .int .i64 0, .bool false, .slice none 0 0, .int .i64 0] 24)).heap.size = w.heap.size + 2) := by show _ = _; simp
  clear hs hok
  go_enter Tryz.func18, Tryz.ntmps18
  go_wp2_with fail
  refine (copyVol_any _ d _ (HVV.out.below HB0.out) HS.out).mono ?_
  rintro e w1 ⟨⟨u, rfl, hu⟩, hb1⟩
  rw [HSZ.out] at hu
  obtain ⟨fv, rfl, hfv⟩ := hu
  obtain ⟨gs0, hgs0, hrow0, _⟩ := id hfv
  obtain ⟨g, cap, hfe, _, _⟩ := slice_cells hrow0 (by rw [show gs0.length = d.files.length from by rw [← hgs0, List.length_map]]; exact hpos)
  rw [show gs0.length = d.files.length from by rw [← hgs0, List.length_map]] at hfe
  subst hfe
  have HF1 : Hid (OwnFiles w1 (w.heap.size + 2) (.slice (some ⟨g, 0, none⟩) d.files.length cap) d.files) := hfv
  have HB1 : Hid (Below w.heap.size w w1) := nwT HB0.out hb1
  have HR1 : Hid (w1.heap[w.heap.size + 1]? = some (.cells #[.int .i64 0, .int .i64 0, .bool false, .slice none 0 0, .int .i64 0] 24 (0, 0))) := (hb1.block _ (Array.getElem?_eq_some_iff.1 HR0.out).1).trans HR0.out
  have HG1 : Hid (w1.heap[w.heap.size]? = some (.cells #[.int .i64 d.id, .int .i64 d.fr, .bool d.snap, .slice av d.files.length ca, .int .i64 d.next] 24 (0, 0))) := (hb1.block _ (Array.getElem?_eq_some_iff.1 HG0.out).1).trans HG0.out
  clear hb1 hfv hrow0 hgs0 HR0 HG0 HB0 HSZ
  obtain ⟨q0, q1, q2, q3, q4, qf⟩ := five HG1.out
  obtain ⟨r0, r1, r2, r3, r4, rf⟩ := five HR1.out
  obtain ⟨sn, hsn⟩ : ∃ sn, d.snap = sn := ⟨_, rfl⟩
  rw [hsn]
  have HSN : Hid (d.snap = sn) := hsn
  clear hsn
  cases sn
  case true =>
    have HQ : Hid (SnapR d (mkR d L dir) 9 Go.Proofs.YtdpighcaieajjabGreat.v0) := .inl ⟨HSN.out, rfl, rfl⟩
    go_wp2_with fail
    have HR2 : Hid ((((((w1.setCell ⟨w.heap.size, 0, none⟩ (.int .i64 d.id)).setCell ⟨w.heap.size, 1, none⟩ (.int .i64 d.fr)).setCell ⟨w.heap.size, 2, none⟩ (.bool true)).setCell ⟨w.heap.size, 3, none⟩ (.slice (some ⟨g, 0, none⟩) d.files.length cap)).setCell ⟨w.heap.size, 4, none⟩ (.int .i64 d.next)).heap[w.heap.size + 1]? = some (.cells #[.int .i64 0, .int .i64 0, .bool false, .slice none 0 0, .int .i64 0] 24 (0, 0))) := five_aside HR1.out (Nat.succ_ne_self _)
    have HB2 : Hid (Below w.heap.size w (((((w1.setCell ⟨w.heap.size, 0, none⟩ (.int .i64 d.id)).setCell ⟨w.heap.size, 1, none⟩ (.int .i64 d.fr)).setCell ⟨w.heap.size, 2, none⟩ (.bool true)).setCell ⟨w.heap.size, 3, none⟩ (.slice (some ⟨g, 0, none⟩) d.files.length cap)).setCell ⟨w.heap.size, 4, none⟩ (.int .i64 d.next))) := five_below HB1.out (Nat.le_refl _)
    generalize ((((w1.setCell ⟨w.heap.size, 0, none⟩ (.int .i64 d.id)).setCell ⟨w.heap.size, 1, none⟩ (.int .i64 d.fr)).setCell ⟨w.heap.size, 2, none⟩ (.bool true)).setCell ⟨w.heap.size, 3, none⟩ (.slice (some ⟨g, 0, none⟩) d.files.length cap)).setCell ⟨w.heap.size, 4, none⟩ (.int .i64 d.next) = W1 at HR2 HB2 ⊢
    obtain ⟨s0, s1, s2, s3, s4, _⟩ := five (five_set (d0 := .int .i64 0) (d1 := .int .i64 0) (d2 := .bool false) (d3 := .slice none 0 0) (d4 := .int .i64 0) HR2.out)
    refine bodyPost_ret (v := .tuple #[.agg #[.int .i64 0, .int .i64 0, .bool false, .slice none 0 0, .int .i64 0], .int .i64 9]) (by simp [results, Tryz.results18, go_sem, s0, s1, s2, s3, s4]) rfl ⟨⟨_, 9, _, rfl, ownVol_zero _ _, HQ.out⟩, ?_⟩
    exact five_below HB2.out (Nat.le_succ _)
  case false =>
  have HF2 : Hid (OwnFiles (((((w1.setCell ⟨w.heap.size, 0, none⟩ (.int .i64 d.id)).setCell ⟨w.heap.size, 1, none⟩ (.int .i64 d.fr)).setCell ⟨w.heap.size, 2, none⟩ (.bool false)).setCell ⟨w.heap.size, 3, none⟩ (.slice (some ⟨g, 0, none⟩) d.files.length cap)).setCell ⟨w.heap.size, 4, none⟩ (.int .i64 d.next)) (w.heap.size + 2) (.slice (some ⟨g, 0, none⟩) d.files.length cap) d.files) := ((((HF1.out.set 0 (by omega) _).set 1 (by omega) _).set 2 (by omega) _).set 3 (by omega) _).set 4 (by omega) _
  have HG2 : Hid ((((((w1.setCell ⟨w.heap.size, 0, none⟩ (.int .i64 d.id)).setCell ⟨w.heap.size, 1, none⟩ (.int .i64 d.fr)).setCell ⟨w.heap.size, 2, none⟩ (.bool false)).setCell ⟨w.heap.size, 3, none⟩ (.slice (some ⟨g, 0, none⟩) d.files.length cap)).setCell ⟨w.heap.size, 4, none⟩ (.int .i64 d.next)).heap[w.heap.size]? = some (.cells #[.int .i64 d.id, .int .i64 d.fr, .bool false, .slice (some ⟨g, 0, none⟩) d.files.length cap, .int .i64 d.next] 24 (0, 0))) := five_set HG1.out
  have HR2 : Hid ((((((w1.setCell ⟨w.heap.size, 0, none⟩ (.int .i64 d.id)).setCell ⟨w.heap.size, 1, none⟩ (.int .i64 d.fr)).setCell ⟨w.heap.size, 2, none⟩ (.bool false)).setCell ⟨w.heap.size, 3, none⟩ (.slice (some ⟨g, 0, none⟩) d.files.length cap)).setCell ⟨w.heap.size, 4, none⟩ (.int .i64 d.next)).heap[w.heap.size + 1]? = some (.cells #[.int .i64 0, .int .i64 0, .bool false, .slice none 0 0, .int .i64 0] 24 (0, 0))) := five_aside HR1.out (Nat.succ_ne_self _)
  have HB2 : Hid (Below w.heap.size w (((((w1.setCell ⟨w.heap.size, 0, none⟩ (.int .i64 d.id)).setCell ⟨w.heap.size, 1, none⟩ (.int .i64 d.fr)).setCell ⟨w.heap.size, 2, none⟩ (.bool false)).setCell ⟨w.heap.size, 3, none⟩ (.slice (some ⟨g, 0, none⟩) d.files.length cap)).setCell ⟨w.heap.size, 4, none⟩ (.int .i64 d.next))) := five_below HB1.out (Nat.le_refl _)
  clear HR1 HG1 HB1 HF1 r0 r1 r2 r3 r4 rf
  by_cases hL0 : L.length = 0
  case pos =>
    have hLb : ((L.length : Int) == 0) = true := beq_iff_eq.2 (by omega)
    have HQ : Hid (SnapR d (mkR d L dir) 4 Go.Proofs.YtdpighcaieajjabGreat.v0) := .inr ⟨HSN.out, by unfold mkR; rw [show makF d L = (0, 4) from by unfold makF; rw [show vacF d.files L = (0, 4) from by unfold vacF; rw [if_pos hL0]]; rfl]; rfl⟩
    obtain ⟨r0, r1, r2, r3, r4, rf⟩ := five HR2.out
    go_wp2_with fail
    generalize ((((w1.setCell ⟨w.heap.size, 0, none⟩ (.int .i64 d.id)).setCell ⟨w.heap.size, 1, none⟩ (.int .i64 d.fr)).setCell ⟨w.heap.size, 2, none⟩ (.bool false)).setCell ⟨w.heap.size, 3, none⟩ (.slice (some ⟨g, 0, none⟩) d.files.length cap)).setCell ⟨w.heap.size, 4, none⟩ (.int .i64 d.next) = W1 at HF2 HG2 HR2 HB2 ⊢
    obtain ⟨s0, s1, s2, s3, s4, _⟩ := five (five_set (d0 := .int .i64 0) (d1 := .int .i64 0) (d2 := .bool false) (d3 := .slice none 0 0) (d4 := .int .i64 0) HR2.out)
    refine bodyPost_ret (v := .tuple #[.agg #[.int .i64 0, .int .i64 0, .bool false, .slice none 0 0, .int .i64 0], .int .i64 4]) (by simp [results, Tryz.results18, go_sem, s0, s1, s2, s3, s4]) rfl (And.intro (Exists.intro (.agg #[.int .i64 0, .int .i64 0, .bool false, .slice none 0 0, .int .i64 0]) (Exists.intro 4 (Exists.intro Go.Proofs.YtdpighcaieajjabGreat.v0 (And.intro rfl (And.intro (ownVol_zero _ _) HQ.out))))) ?_)
    exact five_below HB2.out (Nat.le_succ _)
  case neg =>
  have hLb : ((L.length : Int) == 0) = false := beq_eq_false_iff_ne.2 (by omega)
  have HMK : Hid (makF d L = if (parF d.files L).2 = 0 then (if (namedI (d.files.getD (parF d.files L).1 f0).list (lastN L)).isSome then (0, 4) else if 16 ≤ d.files.length ∨ 8 ≤ (d.files.getD (parF d.files L).1 f0).list.length ∨ 1073741824 ≤ d.next then (0, 2) else parF d.files L) else (0, (parF d.files L).2)) := by
    show _ = _
    unfold makF
    have hv : vacF d.files L = if (parF d.files L).2 = 0 then (if (namedI (d.files.getD (parF d.files L).1 f0).list (lastN L)).isSome then (0, 4) else parF d.files L) else (0, (parF d.files L).2) := by unfold vacF; rw [if_neg hL0]
    rw [hv]
    by_cases h1 : (parF d.files L).2 = 0
    · cases h2 : (namedI (d.files.getD (parF d.files L).1 f0).list (lastN L)).isSome
      · simp [h1]
      · simp [h1]
    · simp [h1]
  have HPL : Hid (∀ q, parF d.files L = (q, 0) → q < d.files.length) := fun q h => parF_lt HOK.out.sound h
  go_wp2_with fail
  generalize ((((w1.setCell ⟨w.heap.size, 0, none⟩ (.int .i64 d.id)).setCell ⟨w.heap.size, 1, none⟩ (.int .i64 d.fr)).setCell ⟨w.heap.size, 2, none⟩ (.bool false)).setCell ⟨w.heap.size, 3, none⟩ (.slice (some ⟨g, 0, none⟩) d.files.length cap)).setCell ⟨w.heap.size, 4, none⟩ (.int .i64 d.next) = W1 at HF2 HG2 HR2 HB2 ⊢
  have HV2 : Hid (VolVal W1 (.agg #[.int .i64 d.id, .int .i64 d.fr, .bool d.snap, .slice (some ⟨g, 0, none⟩) d.files.length cap, .int .i64 d.next]) d) := by
    obtain ⟨a', c', e, h1, h2⟩ := HF2.out.at
    simp only [Value.slice.injEq, true_and] at e
    obtain ⟨rfl, rfl⟩ := e
    exact ⟨_, _, rfl, h1, h2⟩
  have HPA : Hid (Calls Tryz.prog 45 #[.agg #[.int .i64 d.id, .int .i64 d.fr, .bool false, .slice (some ⟨g, 0, none⟩) d.files.length cap, .int .i64 d.next], .slice a L.length cL] W1 fun e w' => e = .returned (.tuple #[.int .i64 (parF d.files L).1, .int .i64 (parF d.files L).2]) ∧ Below W1.heap.size W1 w') := by
    have h := parent_find _ d a L cL W1 HV2.out HS.out HOK.out.sound (HL.out.below HB2.out) (by omega) (by omega) hcL
    rw [HSN.out] at h; exact h
  refine HPA.out.mono ?_
  rintro e w2 ⟨rfl, hb2⟩
  have HF3 : Hid (OwnFiles w2 (w.heap.size + 2) (.slice (some ⟨g, 0, none⟩) d.files.length cap) d.files) := HF2.out.below hb2
  have HG3 : Hid (w2.heap[w.heap.size]? = some (.cells #[.int .i64 d.id, .int .i64 d.fr, .bool false, .slice (some ⟨g, 0, none⟩) d.files.length cap, .int .i64 d.next] 24 (0, 0))) := (hb2.block _ (Array.getElem?_eq_some_iff.1 HG2.out).1).trans HG2.out
  have HR3 : Hid (w2.heap[w.heap.size + 1]? = some (.cells #[.int .i64 0, .int .i64 0, .bool false, .slice none 0 0, .int .i64 0] 24 (0, 0))) := (hb2.block _ (Array.getElem?_eq_some_iff.1 HR2.out).1).trans HR2.out
  have HB3 : Hid (Below w.heap.size w w2) := nwT HB2.out hb2
  generalize parF d.files L = r at HMK HPL ⊢
  obtain ⟨q, er⟩ := r
  simp only at HMK HPL ⊢
  obtain ⟨r0, r1, r2, r3, r4, rf⟩ := five HR3.out
  clear hb2 HPA HV2 HF2 HG2 HR2 HB2
  by_cases her : er = 0
  case neg =>
    have HQ : Hid (SnapR d (mkR d L dir) er Go.Proofs.YtdpighcaieajjabGreat.v0) := .inr ⟨HSN.out, by unfold mkR; rw [HMK.out, if_neg her]; simp [her]⟩
    have hd1 : decide (er = 0) = false := decide_eq_false her
    have hd2 : (er == 0) = false := beq_eq_false_iff_ne.2 her
    go_wp2_with fail
    obtain ⟨s0, s1, s2, s3, s4, _⟩ := five (five_set (d0 := .int .i64 0) (d1 := .int .i64 0) (d2 := .bool false) (d3 := .slice none 0 0) (d4 := .int .i64 0) HR3.out)
    refine bodyPost_ret (v := .tuple #[.agg #[.int .i64 0, .int .i64 0, .bool false, .slice none 0 0, .int .i64 0], .int .i64 er]) (by simp [results, Tryz.results18, go_sem, s0, s1, s2, s3, s4]) rfl (And.intro (Exists.intro (.agg #[.int .i64 0, .int .i64 0, .bool false, .slice none 0 0, .int .i64 0]) (Exists.intro er (Exists.intro Go.Proofs.YtdpighcaieajjabGreat.v0 (And.intro rfl (And.intro (ownVol_zero _ _) HQ.out))))) ?_)
    exact five_below HB3.out (Nat.le_succ _)
  case pos =>
  subst her
  have hql : q < d.files.length := HPL.out q rfl
  have hqi : (q : Int) < (d.files.length : Int) := by omega
  have hq0 : (0 : Int) ≤ (q : Int) := by omega
  obtain ⟨gs, hgd, hrow, hown⟩ := HF3.out
  have hgl : gs.length = d.files.length := by rw [← hgd, List.length_map]
  obtain ⟨x, hx⟩ : ∃ x, gs[q]? = some x := ⟨_, List.getElem?_eq_getElem (by omega)⟩
  have hxd : d.files.getD q f0 = x.d := by rw [← hgd]; obtain ⟨h1, h2⟩ := List.getElem?_eq_some_iff.1 hx; simp [List.getD, h1, h2]
  obtain ⟨_, _, _, _, f4⟩ := fflat_get gs q x hx
  have c4 : w2.cell? ⟨g, q * 5 + 4, none⟩ = some x.lv := by
    have := World.ownsRow.cells hrow (g := g) rfl _ _ f4
    rwa [Addr.add_lit, Nat.zero_add] at this
  obtain ⟨al, cl, hlv, hla, hlc⟩ := (hown x (List.mem_of_getElem? hx)).2.at
  rw [hlv] at c4
  have HXD : Hid (d.files.getD q f0 = x.d) := hxd
  have hsl : x.d.list.length ≤ 8 := by have := (HOK.out.dirq hql).1; rwa [hxd] at this
  have HLA : Hid (LinksAt w2 al x.d.list ∧ CapOk al cl x.d.list.length) := ⟨hla, hlc⟩
  have HMK1 : Hid (makF d L = if (namedI x.d.list (lastN L)).isSome then (0, 4) else if 16 ≤ d.files.length ∨ 8 ≤ x.d.list.length ∨ 1073741824 ≤ d.next then (0, 2) else (q, 0)) := by show _ = _; rw [HMK.out, if_pos rfl, hxd]
  clear HMK
  obtain ⟨sb, so, rfl, sc⟩ := (HL.out.below HB3.out).cell (show L.length - 1 < L.length by omega)
  have HLN : Hid (L.getD (L.length - 1) ByteArray.empty = lastN L) := rfl
  rw [HLN.out] at sc
  obtain ⟨last, hlast⟩ : ∃ last, lastN L = last := ⟨_, rfl⟩
  rw [hlast] at sc HMK1
  have HLS : Hid (lastN L = last) := hlast
  clear hlast
  have e1 : IntKind.i64.wrap ((L.length : Int) - 1) = ((L.length - 1 : Nat) : Int) := by rw [wrap_any (by omega) (by omega)]; omega
  have hl1 : ((L.length - 1 : Nat) : Int) < (L.length : Int) := by omega
  have hl2 : (0 : Int) ≤ ((L.length - 1 : Nat) : Int) := by omega
  generalize hm1 : L.length - 1 = m1 at sc e1 hl1 hl2
  clear hm1 hgd hrow hown hx f4 hlv hla hlc
  obtain ⟨t0, t1, t2, t3, t4, tf⟩ := five HG3.out
  go_wp2_with fail
  have HNA : Hid (Calls Tryz.prog 46 #[.slice al x.d.list.length cl, .string last] w2 fun e w' => e = .returned (.int .i64 (optI (namedI x.d.list last))) ∧ w2 = w') := (named_any al x.d.list cl last w2 HLA.out.1 (by omega)).mono fun _ _ h => ⟨h.1, h.2.symm⟩
  refine HNA.out.mono ?_
  rintro e w' ⟨rfl, rfl⟩
  clear HNA
  cases hn : namedI x.d.list last with
  | some kk =>
    have HQ : Hid (SnapR d (mkR d L dir) 4 Go.Proofs.YtdpighcaieajjabGreat.v0) := .inr ⟨HSN.out, by unfold mkR; rw [HMK1.out, hn]; rfl⟩
    simp only [optI]
    have hk0 : (0 : Int) ≤ (kk : Int) := by omega
    clear hn
    go_wp2_with fail
    obtain ⟨s0, s1, s2, s3, s4, _⟩ := five (five_set (d0 := .int .i64 0) (d1 := .int .i64 0) (d2 := .bool false) (d3 := .slice none 0 0) (d4 := .int .i64 0) HR3.out)
    refine bodyPost_ret (v := .tuple #[.agg #[.int .i64 0, .int .i64 0, .bool false, .slice none 0 0, .int .i64 0], .int .i64 4]) (by simp [results, Tryz.results18, go_sem, s0, s1, s2, s3, s4]) rfl (And.intro (Exists.intro (.agg #[.int .i64 0, .int .i64 0, .bool false, .slice none 0 0, .int .i64 0]) (Exists.intro 4 (Exists.intro Go.Proofs.YtdpighcaieajjabGreat.v0 (And.intro rfl (And.intro (ownVol_zero _ _) HQ.out))))) ?_)
    exact five_below HB3.out (Nat.le_succ _)
  | none =>
  have HMK2 : Hid (makF d L = if 16 ≤ d.files.length ∨ 8 ≤ x.d.list.length ∨ 1073741824 ≤ d.next then (0, 2) else (q, 0)) := by show _ = _; rw [HMK1.out, hn]; rfl
  simp only [optI]
  clear hn HMK1
  by_cases hlim : 16 ≤ d.files.length ∨ 8 ≤ x.d.list.length ∨ 1073741824 ≤ d.next
  case pos =>
    have HQ : Hid (SnapR d (mkR d L dir) 2 Go.Proofs.YtdpighcaieajjabGreat.v0) := .inr ⟨HSN.out, by unfold mkR; rw [HMK2.out, if_pos hlim]; rfl⟩
    by_cases h1 : 16 ≤ d.files.length
    · have h1i : (16 : Int) ≤ (d.files.length : Int) := by omega
      clear hlim
      go_wp2_with fail
      obtain ⟨s0, s1, s2, s3, s4, _⟩ := five (five_set (d0 := .int .i64 0) (d1 := .int .i64 0) (d2 := .bool false) (d3 := .slice none 0 0) (d4 := .int .i64 0) HR3.out)
      refine bodyPost_ret (v := .tuple #[.agg #[.int .i64 0, .int .i64 0, .bool false, .slice none 0 0, .int .i64 0], .int .i64 2]) (by simp [results, Tryz.results18, go_sem, s0, s1, s2, s3, s4]) rfl (And.intro (Exists.intro (.agg #[.int .i64 0, .int .i64 0, .bool false, .slice none 0 0, .int .i64 0]) (Exists.intro 2 (Exists.intro Go.Proofs.YtdpighcaieajjabGreat.v0 (And.intro rfl (And.intro (ownVol_zero _ _) HQ.out))))) ?_)
      exact five_below HB3.out (Nat.le_succ _)
    · have h1i : ¬ (16 : Int) ≤ (d.files.length : Int) := by omega
      by_cases h2 : 8 ≤ x.d.list.length
      · have h2i : (8 : Int) ≤ (x.d.list.length : Int) := by omega
        clear hlim
        go_wp2_with fail
        obtain ⟨s0, s1, s2, s3, s4, _⟩ := five (five_set (d0 := .int .i64 0) (d1 := .int .i64 0) (d2 := .bool false) (d3 := .slice none 0 0) (d4 := .int .i64 0) HR3.out)
        refine bodyPost_ret (v := .tuple #[.agg #[.int .i64 0, .int .i64 0, .bool false, .slice none 0 0, .int .i64 0], .int .i64 2]) (by simp [results, Tryz.results18, go_sem, s0, s1, s2, s3, s4]) rfl (And.intro (Exists.intro (.agg #[.int .i64 0, .int .i64 0, .bool false, .slice none 0 0, .int .i64 0]) (Exists.intro 2 (Exists.intro Go.Proofs.YtdpighcaieajjabGreat.v0 (And.intro rfl (And.intro (ownVol_zero _ _) HQ.out))))) ?_)
        exact five_below HB3.out (Nat.le_succ _)
      · have h2i : ¬ (8 : Int) ≤ (x.d.list.length : Int) := by omega
        have h3 : 1073741824 ≤ d.next := by rcases hlim with h | h | h; exact absurd h h1; exact absurd h h2; exact h
        clear hlim
        go_wp2_with fail
        obtain ⟨s0, s1, s2, s3, s4, _⟩ := five (five_set (d0 := .int .i64 0) (d1 := .int .i64 0) (d2 := .bool false) (d3 := .slice none 0 0) (d4 := .int .i64 0) HR3.out)
        refine bodyPost_ret (v := .tuple #[.agg #[.int .i64 0, .int .i64 0, .bool false, .slice none 0 0, .int .i64 0], .int .i64 2]) (by simp [results, Tryz.results18, go_sem, s0, s1, s2, s3, s4]) rfl (And.intro (Exists.intro (.agg #[.int .i64 0, .int .i64 0, .bool false, .slice none 0 0, .int .i64 0]) (Exists.intro 2 (Exists.intro Go.Proofs.YtdpighcaieajjabGreat.v0 (And.intro rfl (And.intro (ownVol_zero _ _) HQ.out))))) ?_)
        exact five_below HB3.out (Nat.le_succ _)
  case neg =>
  have h1i : ¬ (16 : Int) ≤ (d.files.length : Int) := fun h => hlim (.inl (by omega))
  have h2i : ¬ (8 : Int) ≤ (x.d.list.length : Int) := fun h => hlim (.inr (.inl (by omega)))
  have h3i : ¬ 1073741824 ≤ d.next := fun h => hlim (.inr (.inr h))
  have HQ : Hid (SnapR d (mkR d L dir) 0 (newV d q last dir)) := .inr ⟨HSN.out, by unfold mkR; rw [HMK2.out, if_neg hlim, HLS.out]; rfl⟩
  have hnx : 0 ≤ d.next ∧ d.next ≤ 1073741824 := by have := HOK.out.1.2.2.1; simpa [numB] using this
  have HPUT : Hid (∀ W', Below w2.heap.size w2 W' → Calls Tryz.prog 47 #[.slice al x.d.list.length cl, .agg #[.string last, .int .i64 d.next]] W' fun e w' => (∃ v, e = .returned v ∧ OwnLinks w' (w.heap.size + 2) v (putL x.d.list (last, d.next))) ∧ Below W'.heap.size W' w') := fun W' h =>
    (put_any al x.d.list cl (last, d.next) W' (HLA.out.1.below h) (by omega) HLA.out.2.1 HLA.out.2.2.1 HLA.out.2.2.2).mono fun e w' ⟨⟨v, h1, h2⟩, h3⟩ => ⟨⟨v, h1, own_le h2 (by have h4 := h.size; have h5 := (Array.getElem?_eq_some_iff.1 HR3.out).1; omega)⟩, h3⟩
  have HGG : Hid (g < w2.heap.size ∧ w.heap.size + 2 ≤ g) := by
    obtain ⟨gs', _, hr', _⟩ := HF3.out
    exact ⟨(World.ownsRow.lt hr' g rfl).2, (World.ownsRow.lt hr' g rfl).1⟩
  have hgl2 := HGG.out.1
  have hGl : w.heap.size < w2.heap.size := (Array.getElem?_eq_some_iff.1 HG3.out).1
  clear hlim r0 r1 r2 r3 r4 rf
  go_upto_region 14 with fail
  go_cut [10] from 66 to 81 (fun s10 wx => s10 = .string last ∧ Hid (OwnFiles wx (w.heap.size + 2) (.slice (some ⟨g, 0, none⟩) d.files.length cap) (d.files.set q (withList (d.files.getD q f0) (putL x.d.list (last, d.next))))) ∧ Hid (Below w.heap.size w wx) ∧ wx.heap[w.heap.size]? = some (.cells #[.int .i64 d.id, .int .i64 d.fr, .bool false, .slice (some ⟨g, 0, none⟩) d.files.length cap, .int .i64 d.next] 24 (0, 0)) ∧ wx.heap[w.heap.size + 1]? = some (.cells #[.int .i64 0, .int .i64 0, .bool false, .slice none 0 0, .int .i64 0] 24 (0, 0)))
  case first =>
    go_region_with (first
      | (go_at_call 47; refine (HPUT.out _ (Below.drew (nwR w2))).mono ?_; rintro e wU ⟨⟨lv2, rfl, ho2⟩, hbU⟩; obtain ⟨a2, c2, rfl, _, _⟩ := id ho2.at; have hbu : Below w2.heap.size w2 wU := nwT (Below.drew (nwR w2)) hbU; obtain ⟨k0, k1, k2, k3, k4, kf⟩ := five ((hbu.block _ hGl).trans HG3.out); have kc4 := (hbu.cell (p := ⟨g, q * 5 + 4, none⟩) hgl2).trans c4; have kfz : ∀ o, wU.frozen? ⟨g, o, none⟩ = false := (fun o => by obtain ⟨gs', h1', hr', _⟩ := HF3.out.below hbu; rw [show gs'.length = d.files.length from by rw [← h1', List.length_map]] at hr'; exact hr'.frozenAt o); have HBU : Hid (Below w2.heap.size w2 wU) := hbu; have HO2 : Hid (OwnLinks wU (w.heap.size + 2) (.slice a2 (putL x.d.list (last, d.next)).length c2) (putL x.d.list (last, d.next))) := ho2; clear hbU ho2 hbu)
      | fail)
    all_goals
      have HF4 : Hid (OwnFiles (wU.setCell ⟨g, q * 5 + 4, none⟩ (.slice a2 (putL x.d.list (last, d.next)).length c2)) (w.heap.size + 2) (.slice (some ⟨g, 0, none⟩) d.files.length cap) (d.files.set q (withList (d.files.getD q f0) (putL x.d.list (last, d.next))))) := (OwnFiles.setList (HF3.out.below HBU.out) hql HO2.out).1
      have HB4 : Hid (Below w.heap.size w (wU.setCell ⟨g, q * 5 + 4, none⟩ (.slice a2 (putL x.d.list (last, d.next)).length c2))) := (nwT HB3.out HBU.out).setCell (p := ⟨g, q * 5 + 4, none⟩) (by show w.heap.size ≤ g; have := HGG.out.2; omega) _
      have HG4 : Hid ((wU.setCell ⟨g, q * 5 + 4, none⟩ (.slice a2 (putL x.d.list (last, d.next)).length c2)).heap[w.heap.size]? = some (.cells #[.int .i64 d.id, .int .i64 d.fr, .bool false, .slice (some ⟨g, 0, none⟩) d.files.length cap, .int .i64 d.next] 24 (0, 0))) := by
        show _ = _
        rw [heap_setCell_other _ ⟨g, q * 5 + 4, none⟩ _ _ (by show w.heap.size ≠ g; have := HGG.out.2; omega)]
        exact (HBU.out.block _ hGl).trans HG3.out
      have HR4 : Hid ((wU.setCell ⟨g, q * 5 + 4, none⟩ (.slice a2 (putL x.d.list (last, d.next)).length c2)).heap[w.heap.size + 1]? = some (.cells #[.int .i64 0, .int .i64 0, .bool false, .slice none 0 0, .int .i64 0] 24 (0, 0))) := by
        show _ = _
        rw [heap_setCell_other _ ⟨g, q * 5 + 4, none⟩ _ _ (by show w.heap.size + 1 ≠ g; have := HGG.out.2; omega)]
        exact (HBU.out.block _ (Array.getElem?_eq_some_iff.1 HR3.out).1).trans HR3.out
      go_wp2_with fail
      go_meet
      exact ⟨rfl, HF4, HB4, HG4.out, HR4.out⟩
  case rest =>
  obtain ⟨rfl, HF4, HB4, hG4, hR4⟩ := hcut
  have HG4 : Hid (wc.heap[w.heap.size]? = some (.cells #[.int .i64 d.id, .int .i64 d.fr, .bool false, .slice (some ⟨g, 0, none⟩) d.files.length cap, .int .i64 d.next] 24 (0, 0))) := hG4
  have HR4 : Hid (wc.heap[w.heap.size + 1]? = some (.cells #[.int .i64 0, .int .i64 0, .bool false, .slice none 0 0, .int .i64 0] 24 (0, 0))) := hR4
  obtain ⟨gs, hgd, hrow, hown⟩ := HF4.out
  have hgl : gs.length = d.files.length := by have := congrArg List.length hgd; rw [List.length_map, List.length_set] at this; exact this
  rw [hgl] at hrow
  have HROW : Hid (wc.ownsRow (w.heap.size + 2) 59 5 (.slice (some ⟨g, 0, none⟩) d.files.length cap) d.files.length (fflat gs)) := hrow
  have HOWN : Hid (∀ y ∈ gs, OwnFV wc (w.heap.size + 2) y) := hown
  have HGD : Hid (gs.map FV.d = (d.files.set q (withList (d.files.getD q f0) (putL x.d.list (last, d.next))))) := hgd
  have HGL : Hid (gs.length = d.files.length) := hgl
  have HFL : Hid (newV d q last dir = ⟨d.id, d.fr, d.snap, (d.files.set q (withList (d.files.getD q f0) (putL x.d.list (last, d.next)))) ++ [⟨d.next, dir, 0, [], []⟩], d.next + 1⟩) := by show _ = _; unfold newV; rw [HXD.out]
  obtain ⟨i0, hi, hz0, hz1, hz2⟩ := info_parts Tryz.info59
  have hc3 : d.files.length + 1 ≤ maxLen := by unfold maxLen; omega
  have hc4 : (d.files.length + 1) * 72 ≤ 140737488355328 := by omega
  have hsz : w.heap.size + 2 ≤ (wc.alloc (.cells #[.int .i64 d.next, .bool dir, .int .i64 0, .slice none 0 0, .slice none 0 0] 59)).heap.size := by have := (Array.getElem?_eq_some_iff.1 hR4).1; simp; omega
  obtain ⟨t0, t1, t2, t3, t4, tf⟩ := five hG4
  have hGl4 := (Array.getElem?_eq_some_iff.1 hG4).1
  have hwn : IntKind.i64.wrap (d.next + 1) = d.next + 1 := wrap_any (by omega) (by omega)
  clear hgd hrow hown hG4 hR4 hgl
  go_wp2_with (at_builtin; refine wpList_append_own _ rfl (.tmp 83) (.tmp 88) 22 rfl (w.heap.size + 2) 59 i0 (.agg #[.int .i64 0, .bool false, .int .i64 0, .slice none 0 0, .slice none 0 0]) 5 72 Tryz.underlying22 hi hz0 hz1 hz2 rfl (by decide) (.slice (some ⟨g, 0, none⟩) d.files.length cap) d.files.length (fflat gs) rfl (World.ownsRow.alloc HROW.out _) ⟨wc.heap.size, 0, none⟩ 1 1 [.int .i64 d.next, .bool dir, .int .i64 0, .slice none 0 0, .slice none 0 0] rfl rfl (cells5 _ _ _ _ _ _ _) (by simp [Value.oneCell']) hc3 hc4 hsz ?_; intro v' w3 hown hgrow _; refine unstop ?_)
  unfold Stop
  obtain ⟨g3, cap3, hv3, _, _⟩ := slice_cells hown (by omega)
  subst hv3
  have hgA := gbOf (nwA (nwR wc) (.cells #[.int .i64 d.next, .bool dir, .int .i64 0, .slice none 0 0, .slice none 0 0] 59)) (some g)
  have hGW : wc.grownBy w3 (some g) := hgA.trans hgrow
  have HF5 : Hid (OwnFiles w3 (w.heap.size + 2) (.slice (some ⟨g3, 0, none⟩) (d.files.length + 1) cap3) ((d.files.set q (withList (d.files.getD q f0) (putL x.d.list (last, d.next)))) ++ [⟨d.next, dir, 0, [], []⟩])) := by
    have h := OwnFiles.snoc (g := ⟨⟨d.next, dir, 0, [], []⟩, .slice none 0 0, .slice none 0 0⟩) (gs := gs) (w := w3) (base := w.heap.size + 2) (v := .slice (some ⟨g3, 0, none⟩) (d.files.length + 1) cap3) (fun y hy => (HOWN.out y hy).grown HROW.out hGW) ⟨World.ownsRow_nil _ _ _ _, World.ownsRow_nil _ _ _ _⟩ (by rw [HGL.out]; exact hown)
    rw [HGD.out] at h; exact h
  have hgb := (World.ownsRow.lt HROW.out g rfl).1
  have HB5 : Hid (Below w.heap.size w w3) := HB4.out.grown hGW (by have := HB4.out.size; omega) (fun k hk => by injection hk with hk; omega)
  have hG5 : w3.heap[w.heap.size]? = some (.cells #[.int .i64 d.id, .int .i64 d.fr, .bool false, .slice (some ⟨g, 0, none⟩) d.files.length cap, .int .i64 d.next] 24 (0, 0)) := (hGW.block _ (Array.getElem?_eq_some_iff.1 HG4.out).1 (by simp; omega)).trans HG4.out
  have hR5 : w3.heap[w.heap.size + 1]? = some (.cells #[.int .i64 0, .int .i64 0, .bool false, .slice none 0 0, .int .i64 0] 24 (0, 0)) := (hGW.block _ (Array.getElem?_eq_some_iff.1 HR4.out).1 (by simp; omega)).trans HR4.out
  have HR5 : Hid (w3.heap[w.heap.size + 1]? = some (.cells #[.int .i64 0, .int .i64 0, .bool false, .slice none 0 0, .int .i64 0] 24 (0, 0))) := hR5
  have HG5 : Hid (w3.heap[w.heap.size]? = some (.cells #[.int .i64 d.id, .int .i64 d.fr, .bool false, .slice (some ⟨g, 0, none⟩) d.files.length cap, .int .i64 d.next] 24 (0, 0))) := hG5
  obtain ⟨t0, t1, t2, t3, t4, tf⟩ := five hG5
  obtain ⟨r0, r1, r2, r3, r4, rf⟩ := five hR5
  clear hown hgrow hgA hGW hG5 hR5
  go_wp2_with fail
  have HR6 : Hid (((w3.setCell ⟨w.heap.size, 3, none⟩ (.slice (some ⟨g3, 0, none⟩) (d.files.length + 1) cap3)).setCell ⟨w.heap.size, 4, none⟩ (.int .i64 (d.next + 1))).heap[w.heap.size + 1]? = some (.cells #[.int .i64 0, .int .i64 0, .bool false, .slice none 0 0, .int .i64 0] 24 (0, 0))) := by
    show _ = _
    rw [heap_setCell_other _ ⟨w.heap.size, 4, none⟩ _ _ (Nat.succ_ne_self _), heap_setCell_other _ ⟨w.heap.size, 3, none⟩ _ _ (Nat.succ_ne_self _)]
    exact HR5.out
  have HF6 : Hid (OwnFiles ((w3.setCell ⟨w.heap.size, 3, none⟩ (.slice (some ⟨g3, 0, none⟩) (d.files.length + 1) cap3)).setCell ⟨w.heap.size, 4, none⟩ (.int .i64 (d.next + 1))) (w.heap.size + 2) (.slice (some ⟨g3, 0, none⟩) (d.files.length + 1) cap3) ((d.files.set q (withList (d.files.getD q f0) (putL x.d.list (last, d.next)))) ++ [⟨d.next, dir, 0, [], []⟩])) := (HF5.out.set 3 (by omega) _).set 4 (by omega) _
  have HB6 : Hid (Below w.heap.size w ((w3.setCell ⟨w.heap.size, 3, none⟩ (.slice (some ⟨g3, 0, none⟩) (d.files.length + 1) cap3)).setCell ⟨w.heap.size, 4, none⟩ (.int .i64 (d.next + 1)))) := (HB5.out.setCell (p := ⟨w.heap.size, 3, none⟩) (Nat.le_refl _) _).setCell (p := ⟨w.heap.size, 4, none⟩) (Nat.le_refl _) _
  generalize ((w3.setCell ⟨w.heap.size, 3, none⟩ (.slice (some ⟨g3, 0, none⟩) (d.files.length + 1) cap3)).setCell ⟨w.heap.size, 4, none⟩ (.int .i64 (d.next + 1))) = W5 at HR6 HF6 HB6 ⊢
  obtain ⟨s0, s1, s2, s3, s4, _⟩ := five (five_set (d0 := .int .i64 d.id) (d1 := .int .i64 d.fr) (d2 := .bool false) (d3 := .slice (some ⟨g3, 0, none⟩) (d.files.length + 1) cap3) (d4 := .int .i64 (d.next + 1)) HR6.out)
  refine bodyPost_ret (v := .tuple #[.agg #[.int .i64 d.id, .int .i64 d.fr, .bool false, .slice (some ⟨g3, 0, none⟩) (d.files.length + 1) cap3, .int .i64 (d.next + 1)], .int .i64 0]) (by simp [results, Tryz.results18, go_sem, s0, s1, s2, s3, s4]) rfl ⟨⟨_, 0, newV d q last dir, rfl, ⟨.slice (some ⟨g3, 0, none⟩) (d.files.length + 1) cap3, ?_, ?_⟩, HQ.out⟩, ?_⟩
  · rw [HFL.out, HSN.out]
  · rw [HFL.out]
    exact (((((HF6.out.set 0 (by omega) _).set 1 (by omega) _).set 2 (by omega) _).set 3 (by omega) _).set 4 (by omega) _).le (Nat.le_add_right _ _)
  · exact five_below HB6.out (Nat.le_succ _)

end Go.Proofs.YtdpighcaieajjabGreat
