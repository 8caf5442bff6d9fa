/- Rows of files copied; volumes copied. -/
import Derived.Test.YtdpighcaieajjaaGreatFiles
namespace Go.Proofs.YtdpighcaieajjaaGreat
open Go.RowKit

theorem ownBlock_ne {w : World} {B : Nat} {e T : TypeId} {s : Nat} {v : Value} {n : Nat} {xs : List Value} {b : Nat} {cs : Array Value} {fr : Nat × Nat} (hown : w.ownsRow B e s v n xs) (hb : w.heap[b]? = some (.cells cs T fr)) (hTe : T ≠ e) : v.ownBlock ≠ some b := by
  rcases hown.2 with ⟨rfl, _⟩ | ⟨g, cap, cur, rfl, _, hg, _⟩
  · simp [Value.ownBlock]
  · intro h
    simp only [Value.ownBlock, Option.some.injEq] at h
    subst h
    rw [hg] at hb
    simp only [Option.some.injEq, Obj.cells.injEq] at hb
    exact hTe hb.2.1.symm
theorem own_tag {w : World} {B : Nat} {e : TypeId} {s : Nat} {v : Value} {n : Nat} {xs : List Value} (h : w.ownsRow B e s v n xs) : ∀ k, v.ownBlock = some k → ∃ cs, w.heap[k]? = some (.cells cs e (0, 0)) := by
  intro k hk
  rcases h.2 with ⟨rfl, _⟩ | ⟨g, cap, cur, rfl, _, hg, _⟩
  · simp [Value.ownBlock] at hk
  · simp only [Value.ownBlock, Option.some.injEq] at hk
    subst hk
    exact ⟨cur, hg⟩
/-- a row of one type is kept where a row of another type grows -/
theorem own_other {w w' : World} {B B' : Nat} {e T : TypeId} {s s' : Nat} {v u : Value} {n m : Nat} {xs ys : List Value} (h : w.ownsRow B e s v n xs) (hu : w.ownsRow B' T s' u m ys) (hT : T ≠ e) (hg : w.grownBy w' u.ownBlock) : w'.ownsRow B e s v n xs := by
  refine h.kept hg ?_
  cases hv : u.ownBlock with
  | none =>
    cases hvv : v.ownBlock with
    | none => exact .inl rfl
    | some k => exact .inr (by simp)
  | some k =>
    obtain ⟨cs, hk⟩ := own_tag hu k hv
    exact .inr (ownBlock_ne h hk hT)
theorem OwnFV.grown {w w' : World} {base B' : Nat} {g : FV} {u : Value} {m : Nat} {ys : List Value} (h : OwnFV w base g) (hu : w.ownsRow B' 39 5 u m ys) (hg : w.grownBy w' u.ownBlock) : OwnFV w' base g :=
  ⟨own_other h.1 hu (by decide) hg, own_other h.2 hu (by decide) hg⟩

theorem cells5 (w : World) (c0 c1 c2 c3 c4 : Value) (t : TypeId) : ∀ j u, [c0, c1, c2, c3, c4][j]? = some u → (w.alloc (.cells #[c0, c1, c2, c3, c4] t)).cell? ((⟨w.heap.size, 0, none⟩ : Addr).add j) = some u := cells_new w [c0, c1, c2, c3, c4] t

set_option maxRecDepth 100000 in
set_option maxHeartbeats 1000000 in
theorem copyFiles_any (a : Option Addr) (fs : List FileD) (ca : Nat) (w : World) (hx : FilesAt w a fs) (hl : fs.length ≤ 100000) (hs : ∀ f ∈ fs, SmallF f) :
    Calls Tryz.prog 32 #[.slice a fs.length ca] w fun e w' => (∃ v, e = .returned v ∧ OwnFiles w' w.heap.size v fs) ∧ Below w.heap.size w w' := by
  have HX : Hid (FilesAt w a fs) := hx
  have HS : Hid (∀ f ∈ fs, SmallF f) := hs
  clear hx hs
  obtain ⟨i0, hi, hz0, hz1, hz2⟩ := info_parts Tryz.info39
  go_enter Tryz.func32, Tryz.ntmps32
  go_wp2_with fail
  go_loopw [3, 4] (fun v i wr => ∃ (k : Nat), k ≤ fs.length ∧ i = .int .i64 k ∧ OwnFiles wr w.heap.size v (fs.take k) ∧ Below w.heap.size w wr)
    (fun _ i _ => fs.length - (intOf i).toNat)
  case atStart => exact ⟨0, by omega, rfl, ⟨[], rfl, World.ownsRow_nil _ _ _ _, by simp⟩, nwR w⟩
  case round =>
    obtain ⟨k, hk, rfl, hO, hb⟩ := hrel
    have HO : Hid (OwnFiles wr w.heap.size u3 (fs.take k)) := hO
    clear hO
    by_cases hkl : k < fs.length
    · have hkli : (k : Int) < (fs.length : Int) := by omega
      obtain ⟨b1, o1, rfl, hf⟩ := HX.out.file hkl
      have HSM : Hid (SmallF (fs.getD k f0)) := HS.out _ (by simp [List.getD, hkl])
      have HT : Hid (fs.take (k + 1) = fs.take k ++ [fs.getD k f0]) := by
        show _ = _
        rw [List.take_succ_eq_append_getElem hkl]; simp [List.getD, hkl]
      have hlt : (fs.take k).length ≤ 100000 := by rw [List.length_take]; omega
      obtain ⟨ab, cb, al, cl, ⟨h0, h1, h2, h3, h4⟩, hib, hil⟩ := hf.below hb
      generalize fs.getD k f0 = f at HSM HT h0 h1 h2 h3 h4 hib hil
      have HV : Hid (FileVal wr (.agg #[.int .i64 f.id, .bool f.dir, .int .i64 f.size, .slice ab f.blocks.length cb, .slice al f.list.length cl]) f) := ⟨ab, cb, al, cl, rfl, hib, hil⟩
      clear hf hib hil
      go_wp2_with fail
      refine (copyFile_any _ f _ HV.out HSM.out).mono ?_
      rintro e w2 ⟨⟨u, rfl, bv, lv, rfl, hfv⟩, hb2⟩
      have hbq := nwT hb hb2
      have HFV : Hid (OwnFV w2 w.heap.size ⟨f, bv, lv⟩) := hfv.le hb.size
      have HO2 : Hid (OwnFiles w2 w.heap.size u3 (fs.take k)) := HO.out.below hb2
      clear hfv hb2 HO h0 h1 h2 h3 h4 HV
      obtain ⟨gs, hgs, hown, hall⟩ := HO2.out
      have HOW : Hid (w2.ownsRow w.heap.size 39 5 u3 gs.length (fflat gs)) := hown
      have HALL : Hid (∀ g ∈ gs, OwnFV w2 w.heap.size g) := hall
      have HGS : Hid (gs.map FV.d = fs.take k) := hgs
      have hgl : gs.length ≤ 100000 := by have := congrArg List.length hgs; rw [List.length_map] at this; omega
      obtain ⟨abv, cbv, eb, _⟩ := HFV.out.1.at
      obtain ⟨alv, clv, el, _⟩ := HFV.out.2.at
      simp only at eb el
      subst eb; subst el
      clear hown hall hgs HO2
      have hsz : w.heap.size ≤ (w2.alloc (.cells #[.int .i64 f.id, .bool f.dir, .int .i64 f.size, .slice abv f.blocks.length cbv, .slice alv f.list.length clv] 39)).heap.size := (nwA hbq _).size
      have hc3 : gs.length + 1 ≤ maxLen := by unfold maxLen; omega
      have hc4 : (gs.length + 1) * 72 ≤ 140737488355328 := by omega
      go_wp2_with (at_builtin; refine wpList_append_own _ rfl (.tmp 11) (.tmp 17) 22 rfl w.heap.size 39 i0 (.agg #[.int .i64 0, .bool false, .int .i64 0, .slice none 0 0, .slice none 0 0]) 5 72 Tryz.underlying22 hi hz0 hz1 hz2 rfl (by decide) u3 gs.length (fflat gs) rfl (World.ownsRow.alloc HOW.out _) ⟨w2.heap.size, 0, none⟩ 1 1 [.int .i64 f.id, .bool f.dir, .int .i64 f.size, .slice abv f.blocks.length cbv, .slice alv f.list.length clv] rfl rfl (cells5 _ _ _ _ _ _ _) (by simp [Value.oneCell']) hc3 hc4 hsz ?_; intro v' w3 hown hgrow _; refine unstop ?_)
      unfold Stop
      have HB3 : Hid (Below w.heap.size w w3) := (nwA hbq _).grown hgrow (nwA hbq _).size (fun q e => (HOW.out.lt q e).1)
      have HO3 : Hid (OwnFiles w3 w.heap.size v' (fs.take (k + 1))) := by
        rw [HT.out, ← HGS.out]
        have hrow := World.ownsRow.alloc HOW.out (.cells #[.int .i64 f.id, .bool f.dir, .int .i64 f.size, .slice abv f.blocks.length cbv, .slice alv f.list.length clv] 39)
        exact OwnFiles.snoc (g := ⟨f, .slice abv f.blocks.length cbv, .slice alv f.list.length clv⟩) (fun x hx => ((HALL.out x hx).below (nwA (nwR _) _)).grown hrow hgrow) ((HFV.out.below (nwA (nwR _) _)).grown hrow hgrow) hown
      clear hown hgrow
      go_wp2_with fail
      go_roundw
      case rel => exact ⟨k + 1, by omega, by go_num, HO3.out, HB3.out⟩
      case measure => simp [intOf]; omega
    · have hkli : ¬ (k : Int) < (fs.length : Int) := by omega
      have HOE : Hid (OwnFiles wr w.heap.size u3 fs) := by have := HO.out; rw [List.take_of_length_le (by omega)] at this; exact this
      clear HO
      have h := HOE.out
      obtain ⟨av, cv, rfl, _⟩ := h.at
      go_wp2_with fail
      go_ret
      exact ⟨⟨_, rfl, HOE.out⟩, hb⟩

theorem OwnFiles.set {w : World} {base : Nat} {v : Value} {fs : List FileD} (h : OwnFiles w base v fs) {g : Nat} (o : Nat) (hg : g < base) (u : Value) : OwnFiles (w.setCell ⟨g, o, none⟩ u) base v fs := by
  obtain ⟨gs, e, ho, ha⟩ := h
  exact ⟨gs, e, rowset ho o hg u, fun x hx => (ha x hx).set o hg u⟩

set_option maxRecDepth 100000 in
set_option maxHeartbeats 1000000 in
theorem copyVol_any (v : Value) (d : VolD) (w : World) (hv : VolVal w v d) (hs : SmallV d) :
    Calls Tryz.prog 10 #[v] w fun e w' => (∃ u, e = .returned u ∧ OwnVol w' w.heap.size u d) ∧ Below w.heap.size w w' := by
  obtain ⟨a, ca, rfl, hfs, _⟩ := hv
  have HF : Hid (FilesAt w a d.files) := hfs
  clear hfs
  obtain ⟨id, fr, snap, fs, next⟩ := d
  simp only at *
  simp only [SmallV] at hs
  obtain ⟨hs1, hs2⟩ := hs
  have HS : Hid (∀ f ∈ fs, SmallF f) := hs2
  clear hs2
  go_enter Tryz.func10, Tryz.ntmps10
  go_wp2_with fail
  have HBW : Hid (Below w.heap.size w (((w.alloc (.cells #[.int .i64 id, .int .i64 fr, .bool snap, .slice a fs.length ca, .int .i64 next] 24)).alloc (.cells #[.int .i64 0, .int .i64 0, .bool false, .slice none 0 0, .int .i64 0] 24)).alloc (.cells #[.int .i64 id, .int .i64 fr, .bool snap, .slice a fs.length ca, .int .i64 next] 24))) := nwA (nwA (nwA (nwR w) _) _) _
  refine (copyFiles_any a fs ca _ (HF.out.below HBW.out) hs1 HS.out).mono ?_
  rintro e w1 ⟨⟨fv, rfl, hob⟩, hb1⟩
  have HO1 : Hid (OwnFiles w1 (w.heap.size + 3) fv fs) := by have := hob; rw [size3] at this; exact this
  have HB1 : Hid (Below w.heap.size w w1) := nwT HBW.out hb1
  obtain ⟨r0, r1, r2, r3, r4, rf⟩ := five ((hb1.block _ (by simp)).trans (three_1 w _ _ _))
  obtain ⟨q0, q1, q2, q3, q4, qf⟩ := five ((hb1.block _ (by simp)).trans (three_2 w _ _ _))
  clear hob hb1 HBW
  obtain ⟨av, cv, rfl, _⟩ := HO1.out.at
  go_wp2_with fail
  refine bodyPost_ret (v := .agg #[.int .i64 id, .int .i64 fr, .bool snap, .slice av fs.length cv, .int .i64 next]) (by simp [results, Tryz.results10, go_sem, r0, r1, r2, r3, r4]) rfl ⟨⟨_, rfl, _, rfl, ?_⟩, ?_⟩
  · exact ((((((HO1.out.set 3 (g := w.heap.size + 1 + 1) (by omega) _).set 0 (g := w.heap.size + 1) (by omega) _).set 1 (by omega) _).set 2 (by omega) _).set 3 (by omega) _).set 4 (by omega) _).le (by omega)
  · exact (((((HB1.out.setCell (p := ⟨w.heap.size + 1 + 1, 3, none⟩) (by show w.heap.size ≤ w.heap.size + 1 + 1; omega) _).setCell (p := ⟨w.heap.size + 1, 0, none⟩) (Nat.le_succ _) _).setCell (p := ⟨w.heap.size + 1, 1, none⟩) (Nat.le_succ _) _).setCell (p := ⟨w.heap.size + 1, 2, none⟩) (Nat.le_succ _) _).setCell (p := ⟨w.heap.size + 1, 3, none⟩) (Nat.le_succ _) _).setCell (p := ⟨w.heap.size + 1, 4, none⟩) (Nat.le_succ _) _

end Go.Proofs.YtdpighcaieajjaaGreat
