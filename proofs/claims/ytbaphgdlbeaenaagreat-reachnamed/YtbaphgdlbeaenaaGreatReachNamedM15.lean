/- Laid together: Getp, Dropm, Withi, Only, Onlyp. -/
import Derived.Test.YtbaphgdlbeaenaaGreatReachNamedM14
/- A volume told, by the program. -/
namespace Go.Proofs.YtbaphgdlbeaenaaGreat
open Go.RowKit

def GetR (ds : List VolD) (next id : Int) (er : Int) (d : VolD) : Prop := (¬ VolsOk ds next ∧ er = 1 ∧ d = VZ) ∨ (VolsOk ds next ∧ atV ds id = none ∧ er = 3 ∧ d = VZ) ∨ ∃ k, VolsOk ds next ∧ atV ds id = some k ∧ er = 0 ∧ d = ds.getD k VZ
def GetPost (ds : List VolD) (next id : Int) (base : Nat) (e : Ending) (w' : World) : Prop := ∃ u er d, e = .returned (.tuple #[u, .int .i64 er]) ∧ OwnVol w' base u d ∧ GetR ds next id er d
theorem ownV_zero (w : World) (base : Nat) : OwnVol w base (.agg #[.int .i64 0, .int .i64 0, .bool false, .slice none 0 0, .int .i64 0]) VZ :=
  ⟨.slice none 0 0, rfl, [], rfl, World.ownsRow_nil _ _ _ _, fun g hg => by simp at hg⟩

set_option maxRecDepth 100000 in
set_option maxHeartbeats 4000000 in
theorem getp_any (a : Option Addr) (ds : List VolD) (ca : Nat) (next id : Int) (w : World) (hv : VolsAt w a ds) (hs : SmallW ds) :
    Calls Tryz.prog 32 #[.slice a ds.length ca, .int .i64 next, .int .i64 id] w fun e w' => GetPost ds next id w.heap.size e w' ∧ Below w.heap.size w w' := by
  have HS : Hid (SmallW ds) := hs
  obtain ⟨W0, hW0⟩ : ∃ W0, W0 = w.alloc (.cells #[.int .i64 0, .int .i64 0, .bool false, .slice none 0 0, .int .i64 0] 48) := ⟨_, rfl⟩
  have HB0 : Hid (Below w.heap.size w W0) := by rw [hW0]; exact nwA (nwR w) _
  have HR0 : Hid (W0.heap[w.heap.size]? = some (.cells #[.int .i64 0, .int .i64 0, .bool false, .slice none 0 0, .int .i64 0] 48 (0, 0))) := by rw [hW0]; exact heap_alloc_new w _
  have HV : Hid (VolsAt W0 a ds) := hv.below HB0.out
  clear hs hv
  go_enter Tryz.func32, Tryz.ntmps32
  go_wp2_with fail
  rw [← hW0]
  clear hW0
  refine (open_any a ds ca next id W0 HV.out HS.out).mono ?_
  rintro e w1 ⟨ho, hb1⟩
  have HB1 : Hid (Below w.heap.size w w1) := nwT HB0.out hb1
  have HR1 : Hid (∀ ob, (w1.alloc ob).heap[w.heap.size]? = some (.cells #[.int .i64 0, .int .i64 0, .bool false, .slice none 0 0, .int .i64 0] 48 (0, 0))) := fun ob => ((nwT hb1 (nwA (nwR w1) ob)).block _ (Array.getElem?_eq_some_iff.1 HR0.out).1).trans HR0.out
  rcases ho with ⟨hno, rfl⟩ | ⟨hok, hat, rfl⟩ | ⟨k, S, g, cap, hok, hat, rfl, hsh⟩
  · have HQ : Hid (∀ w', GetPost ds next id w.heap.size (.returned (.tuple #[.agg #[.int .i64 0, .int .i64 0, .bool false, .slice none 0 0, .int .i64 0], .int .i64 1])) w') := fun w' => ⟨_, 1, _, rfl, ownV_zero _ _, .inl ⟨hno, rfl, rfl⟩⟩
    clear hno
    obtain ⟨r0, r1, r2, r3, r4, rf⟩ := five (HR1.out (.cells #[.pointer none] 95))
    go_wp2_with fail
    obtain ⟨s0, s1, s2, s3, s4, _⟩ := five (five_set (d0 := .int .i64 0) (d1 := .int .i64 0) (d2 := .bool false) (d3 := .slice none 0 0) (d4 := .int .i64 0) (HR1.out (.cells #[.pointer none] 95)))
    refine bodyPost_ret (v := .tuple #[.agg #[.int .i64 0, .int .i64 0, .bool false, .slice none 0 0, .int .i64 0], .int .i64 1]) (by simp [results, Tryz.results32, go_sem, s0, s1, s2, s3, s4]) rfl ⟨HQ.out _, five_below (nwA HB1.out _) (Nat.le_refl _)⟩
  · have HQ : Hid (∀ w', GetPost ds next id w.heap.size (.returned (.tuple #[.agg #[.int .i64 0, .int .i64 0, .bool false, .slice none 0 0, .int .i64 0], .int .i64 3])) w') := fun w' => ⟨_, 3, _, rfl, ownV_zero _ _, .inr (.inl ⟨hok, hat, rfl, rfl⟩)⟩
    clear hok hat
    obtain ⟨r0, r1, r2, r3, r4, rf⟩ := five (HR1.out (.cells #[.pointer none] 95))
    go_wp2_with fail
    obtain ⟨s0, s1, s2, s3, s4, _⟩ := five (five_set (d0 := .int .i64 0) (d1 := .int .i64 0) (d2 := .bool false) (d3 := .slice none 0 0) (d4 := .int .i64 0) (HR1.out (.cells #[.pointer none] 95)))
    refine bodyPost_ret (v := .tuple #[.agg #[.int .i64 0, .int .i64 0, .bool false, .slice none 0 0, .int .i64 0], .int .i64 3]) (by simp [results, Tryz.results32, go_sem, s0, s1, s2, s3, s4]) rfl ⟨HQ.out _, five_below (nwA HB1.out _) (Nat.le_refl _)⟩
  · have hkl := atV_lt hat
    have HQ : Hid (∀ w' u, OwnVol w' w.heap.size u (ds.getD k VZ) → GetPost ds next id w.heap.size (.returned (.tuple #[u, .int .i64 0])) w') := fun w' u h => ⟨u, 0, _, rfl, h, .inr (.inr ⟨k, hok, hat, rfl, rfl⟩)⟩
    have HRA := HR1.out (.cells #[.pointer (some ⟨g, k * 5, none⟩)] 95)
    obtain ⟨W2, hW2⟩ : ∃ W2, W2 = w1.alloc (.cells #[.pointer (some ⟨g, k * 5, none⟩)] 95) := ⟨_, rfl⟩
    rw [← hW2] at HRA
    have HRH : Hid (W2.heap[w.heap.size]? = some (.cells #[.int .i64 0, .int .i64 0, .bool false, .slice none 0 0, .int .i64 0] 48 (0, 0))) := HRA
    have hBA : Below w1.heap.size w1 W2 := by rw [hW2]; exact nwA (nwR w1) _
    have HB2 : Hid (Below w.heap.size w W2) := nwT HB1.out hBA
    have hsh2 := hsh.below hBA
    have hlt0 := (Array.getElem?_eq_some_iff.1 HR0.out).1
    obtain ⟨gs, hgs, hrow, hall⟩ := hsh2.own
    have hgl : gs.length = ds.length := by rw [← hgs, List.length_map]
    rw [hgl] at hrow
    have hrow' : RowW W2 W0.heap.size g ds.length cap gs := hrow
    obtain ⟨x, hx⟩ : ∃ x, gs[k]? = some x := ⟨_, List.getElem?_eq_getElem (by omega)⟩
    have hxd : ds.getD k VZ = x.d := by rw [← hgs]; simp [List.getD, hx]
    obtain ⟨c0, c1, c2, c3, c4⟩ := hrow'.cellAt hx
    have hof := hall x (List.mem_of_getElem? hx)
    rw [hxd] at HQ
    obtain ⟨xd, xf⟩ := x
    simp only at c0 c1 c2 c3 c4 hof HQ
    obtain ⟨af, cf, rfl, _, _⟩ := hof.at
    have HOF : Hid (OwnFiles W2 W0.heap.size (.slice af xd.files.length cf) xd.files) := hof
    obtain ⟨r0, r1, r2, r3, r4, rf⟩ := five HRH.out
    clear hok hat hsh hsh2 hgs hrow hrow' hall hx hxd hof HRA hBA HR1 hb1
    rw [hW2] at c0 c1 c2 c3 c4 r0 r1 r2 r3 r4 rf
    go_wp2_with fail
    rw [← hW2]
    obtain ⟨s0, s1, s2, s3, s4, _⟩ := five (five_set (d0 := .int .i64 xd.id) (d1 := .int .i64 xd.fr) (d2 := .bool xd.snap) (d3 := .slice af xd.files.length cf) (d4 := .int .i64 xd.next) HRH.out)
    refine bodyPost_ret (v := .tuple #[.agg #[.int .i64 xd.id, .int .i64 xd.fr, .bool xd.snap, .slice af xd.files.length cf, .int .i64 xd.next], .int .i64 0]) (by simp [results, Tryz.results32, go_sem, s0, s1, s2, s3, s4]) rfl ⟨HQ.out _ _ ⟨_, rfl, ?_⟩, five_below HB2.out (Nat.le_refl _)⟩
    exact (((((HOF.out.set 0 hlt0 _).set 1 hlt0 _).set 2 hlt0 _).set 3 hlt0 _).set 4 hlt0 _).le HB0.out.size

end Go.Proofs.YtbaphgdlbeaenaaGreat

/- A row of volumes with borrowed ones, and one less, by the page. -/
namespace Go.Proofs.YtbaphgdlbeaenaaGreat
open Go.RowKit

def ReadFV (w : World) (x : VV) : Prop := ∃ a c, x.fv = .slice a x.d.files.length c ∧ FilesAt w a x.d.files ∧ CapOk a c x.d.files.length
/-- a row of one's own of volumes whose files may be someone else's -/
def MixV (w : World) (base : Nat) (v : Value) (ds : List VolD) : Prop := ∃ gs : List VV, gs.map VV.d = ds ∧ w.ownsRow base 48 5 v ds.length (vflat gs) ∧ ∀ x ∈ gs, ReadFV w x
theorem VolsAt.gs {w : World} {b o : Nat} {ds : List VolD} (h : VolsAt w (some ⟨b, o, none⟩) ds) : ∃ gs : List VV, gs.map VV.d = ds ∧ (∀ i x, gs[i]? = some x → w.cell? ⟨b, o + i * 5, none⟩ = some (.int .i64 x.d.id) ∧ w.cell? ⟨b, o + i * 5 + 1, none⟩ = some (.int .i64 x.d.fr) ∧ w.cell? ⟨b, o + i * 5 + 2, none⟩ = some (.bool x.d.snap) ∧ w.cell? ⟨b, o + i * 5 + 3, none⟩ = some x.fv ∧ w.cell? ⟨b, o + i * 5 + 4, none⟩ = some (.int .i64 x.d.next)) ∧ ∀ x ∈ gs, ReadFV w x := by
  induction ds generalizing o with
  | nil => exact ⟨[], rfl, by simp, by simp⟩
  | cons d ds ih =>
    obtain ⟨_, _, e, a, c, ⟨c0, c1, c2, c3, c4⟩, hf, hc⟩ := h.vol (i := 0) (by simp)
    injection e with e
    injection e with e1 e2
    subst e1; subst e2
    have h2 := h.drop 1
    simp only [Nat.one_mul, List.drop_succ_cons, List.drop_zero] at h2
    obtain ⟨gs, h3, h4, h5⟩ := ih h2
    simp only [Nat.zero_mul, Nat.add_zero, List.getD_cons_zero] at c0 c1 c2 c3 c4 hf hc
    refine ⟨⟨d, .slice a d.files.length c⟩ :: gs, by rw [List.map_cons, h3], ?_, ?_⟩
    · intro i x hx
      cases i with
      | zero =>
        simp at hx; subst hx
        simp only [Nat.zero_mul, Nat.add_zero]
        exact ⟨c0, c1, c2, c3, c4⟩
      | succ i =>
        have := h4 i x (by simpa using hx)
        rw [show o + (i + 1) * 5 = o + 5 + i * 5 from by omega]
        exact this
    · intro x hx
      rcases List.mem_cons.1 hx with rfl | hx
      · exact ⟨a, c, rfl, hf, hc⟩
      · exact h5 x hx
theorem vflat_div {gs : List VV} {j : Nat} {u : Value} (h : (vflat gs)[j]? = some u) : ∃ i r x, j = i * 5 + r ∧ r < 5 ∧ gs[i]? = some x ∧ u = (#[Value.int .i64 x.d.id, .int .i64 x.d.fr, .bool x.d.snap, x.fv, .int .i64 x.d.next][r]!) := by
  have hl := (List.getElem?_eq_some_iff.1 h).1
  rw [vflat_len] at hl
  have hi : j / 5 < gs.length := by omega
  obtain ⟨c0, c1, c2, c3, c4⟩ := vflat_get gs (j / 5) _ (List.getElem?_eq_getElem hi)
  refine ⟨j / 5, j % 5, gs[j / 5], by omega, Nat.mod_lt _ (by omega), List.getElem?_eq_getElem hi, ?_⟩
  have : j % 5 = 0 ∨ j % 5 = 1 ∨ j % 5 = 2 ∨ j % 5 = 3 ∨ j % 5 = 4 := by omega
  rcases this with e | e | e | e | e
  · rw [e]; rw [show j = j / 5 * 5 from by omega, c0] at h; injection h with h; exact h.symm
  · rw [e]; rw [show j = j / 5 * 5 + 1 from by omega, c1] at h; injection h with h; exact h.symm
  · rw [e]; rw [show j = j / 5 * 5 + 2 from by omega, c2] at h; injection h with h; exact h.symm
  · rw [e]; rw [show j = j / 5 * 5 + 3 from by omega, c3] at h; injection h with h; exact h.symm
  · rw [e]; rw [show j = j / 5 * 5 + 4 from by omega, c4] at h; injection h with h; exact h.symm
/-- the cells of a row that is read, one after the other -/
theorem VolsAt.cells {w : World} {b o : Nat} {ds : List VolD} (h : VolsAt w (some ⟨b, o, none⟩) ds) : ∃ gs : List VV, gs.map VV.d = ds ∧ (∀ j u, (vflat gs)[j]? = some u → w.cell? ((⟨b, o, none⟩ : Addr).add j) = some u) ∧ ∀ x ∈ gs, ReadFV w x := by
  obtain ⟨gs, h1, h2, h3⟩ := h.gs
  refine ⟨gs, h1, fun j u hu => ?_, h3⟩
  obtain ⟨i, r, x, rfl, hr, hx, rfl⟩ := vflat_div hu
  obtain ⟨c0, c1, c2, c3, c4⟩ := h2 i x hx
  have e : (⟨b, o, none⟩ : Addr).add (i * 5 + r) = ⟨b, o + i * 5 + r, none⟩ := by unfold Addr.add; split <;> simp_all [Nat.add_assoc]
  rw [e]
  have : r = 0 ∨ r = 1 ∨ r = 2 ∨ r = 3 ∨ r = 4 := by omega
  rcases this with rfl | rfl | rfl | rfl | rfl
  · exact c0
  · exact c1
  · exact c2
  · exact c3
  · exact c4
theorem vflat_oneR {w : World} {gs : List VV} (h : ∀ x ∈ gs, ReadFV w x) : ∀ v ∈ vflat gs, v.oneCell' = true := by
  intro v hv
  unfold vflat at hv
  rw [List.mem_flatMap] at hv
  obtain ⟨x, hx, hv⟩ := hv
  obtain ⟨a, c, e, _⟩ := h x hx
  simp only [List.mem_cons, List.not_mem_nil, or_false] at hv
  rcases hv with rfl | rfl | rfl | rfl | rfl
  · rfl
  · rfl
  · rfl
  · rw [e]; rfl
  · rfl
theorem ReadFV.below {w w' : World} {x : VV} (h : ReadFV w x) (hb : Below w.heap.size w w') : ReadFV w' x := by
  obtain ⟨a, c, e, hf, hc⟩ := h
  exact ⟨a, c, e, hf.below hb, hc⟩
theorem OwnFiles.readFV {w : World} {base : Nat} {x : VV} (h : OwnFiles w base x.fv x.d.files) : ReadFV w x := by
  obtain ⟨a, c, e, h1, h2⟩ := h.at
  exact ⟨a, c, e, h1, h2⟩
theorem MixV.at {w : World} {base : Nat} {v : Value} {ds : List VolD} (h : MixV w base v ds) : ∃ a c, v = .slice a ds.length c ∧ VolsAt w a ds ∧ CapOk a c ds.length := by
  obtain ⟨gs, rfl, ho, ha⟩ := h
  have hh := ho
  rw [List.length_map] at ho hh ⊢
  rcases ho.2 with ⟨hv, hn⟩ | ⟨g, cap, cur, hv, hb, _, hnc, _⟩
  · exact ⟨none, 0, by rw [hv, hn], .inl (by rw [List.length_eq_zero_iff.1 hn]; rfl), by omega, (fun _ => rfl), (fun p e => by cases e)⟩
  · subst hv
    have hrw : RowW w base g gs.length cap gs := hh
    refine ⟨_, cap, rfl, .inr ⟨g, 0, rfl, fun i hi => ?_⟩, hnc, (fun e => by cases e), (fun p e _ => by injection e with e; rw [← e])⟩
    rw [List.length_map] at hi
    obtain ⟨c0, c1, c2, c3, c4⟩ := hrw.cellAt (List.getElem?_eq_getElem hi)
    obtain ⟨a, c, e, hf, hc⟩ := ha gs[i] (List.getElem_mem hi)
    have hgd : (gs.map VV.d).getD i VZ = gs[i].d := by simp [List.getD, hi]
    rw [hgd, Nat.zero_add]
    rw [e] at c3
    exact ⟨a, c, ⟨c0, c1, c2, c3, c4⟩, hf, hc⟩

end Go.Proofs.YtbaphgdlbeaenaaGreat

/- Volumes but one, by the program. -/
namespace Go.Proofs.YtbaphgdlbeaenaaGreat
open Go.RowKit

/-- the closure holds the ID, whatever is written to the row -/
def KeepsInt (w : World) (r : Option Nat) (B : Nat) (id : Int) : Prop := ∀ w', w.grownBy w' r → w'.cell? ⟨B, 0, none⟩ = some (.int .i64 id)
set_option maxRecDepth 100000 in
set_option maxHeartbeats 1000000 in
theorem clow_any (v : Value) (d : VolD) (id : Int) (B : Nat) (w : World) (hv : VolVal w v d) (hc : w.cell? ⟨B, 0, none⟩ = some (.int .i64 id)) :
    Calls Tryz.prog 55 #[v, .pointer (some ⟨B, 0, none⟩)] w fun e w' => e = .returned (.bool (decide (d.id = id))) ∧ Below w.heap.size w w' := by
  obtain ⟨av, cv, rfl, _, _⟩ := hv
  obtain ⟨i, fr, snap, fs, next⟩ := d
  have hB := block_lt_of_cell hc
  simp only at hB ⊢
  by_cases he : i = id
  · have he2 : (i == id) = true := by rw [he]; simp
    have hd : decide (i = id) = true := decide_eq_true he
    rw [hd]
    clear he hd
    go_enter Tryz.func55, Tryz.ntmps55
    go_wp2_with fail
    go_ret
    exact ⟨rfl, nwA (nwR w) _⟩
  · have he2 : (i == id) = false := beq_eq_false_iff_ne.2 he
    have hd : decide (i = id) = false := decide_eq_false he
    rw [hd]
    clear he hd
    go_enter Tryz.func55, Tryz.ntmps55
    go_wp2_with fail
    go_ret
    exact ⟨rfl, nwA (nwR w) _⟩

set_option maxRecDepth 100000 in
set_option maxHeartbeats 1000000 in
theorem idxw_any (a : Option Addr) (ds : List VolD) (ca : Nat) (id : Int) (B : Nat) (w : World) (hv : VolsAt w a ds) (hl : ds.length ≤ 100000) (hc : w.cell? ⟨B, 0, none⟩ = some (.int .i64 id)) :
    Calls Tryz.prog 68 #[.slice a ds.length ca, .func (.func 55) #[] #[.pointer (some ⟨B, 0, none⟩)]] w fun e w' => e = .returned (.int .i64 (optI (ds.findIdx? fun d => decide (d.id = id)))) ∧ Below w.heap.size w w' := by
  have HF : Hid (VolsAt w a ds) := hv
  have HC : Hid (w.cell? ⟨B, 0, none⟩ = some (.int .i64 id)) := hc
  clear hv hc
  go_enter Tryz.func68, Tryz.ntmps68
  go_wp2_with fail
  go_loopw [8] (fun i wr => ∃ (k : Nat), k ≤ ds.length ∧ i = .int .i64 k ∧ Below w.heap.size w wr ∧ Hid (∀ j, j < k → decide ((ds.getD j VZ).id = id) = false))
    (fun i _ => ds.length - (intOf i).toNat)
  case atStart => exact ⟨0, by omega, rfl, nwR w, fun j hj => by omega⟩
  case round =>
    obtain ⟨k, hk, rfl, hb, HE⟩ := hrel
    by_cases hlt : k < ds.length
    · obtain ⟨b1, o1, rfl, hf⟩ := (HF.out.below hb).vol hlt
      obtain ⟨af, cf, ⟨c0, c1, c2, c3, c4⟩, hvv⟩ := hf.val
      have hlti : (k : Int) < (ds.length : Int) := by omega
      have HV : Hid (VolVal wr (.agg #[.int .i64 (ds.getD k VZ).id, .int .i64 (ds.getD k VZ).fr, .bool (ds.getD k VZ).snap, .slice af (ds.getD k VZ).files.length cf, .int .i64 (ds.getD k VZ).next]) (ds.getD k VZ)) := hvv
      have HCW : Hid (wr.cell? ⟨B, 0, none⟩ = some (.int .i64 id)) := (hb.cell (p := ⟨B, 0, none⟩) (block_lt_of_cell HC.out)).trans HC.out
      clear hf hvv
      have HK : Hid (decide ((ds.getD k VZ).id = id) = false → ∀ j, j < k + 1 → decide ((ds.getD j VZ).id = id) = false) := fun h j hj => by
        by_cases e : j = k
        · subst e; exact h
        · exact HE.out j (by omega)
      have HY : Hid (decide ((ds.getD k VZ).id = id) = true → (ds.findIdx? fun d => decide (d.id = id)) = some k) := fun h => find_yes VZ hlt h (fun j hj => HE.out j hj)
      generalize ds.getD k VZ = d at c0 c1 c2 c3 c4 HV HK HY
      go_wp2_with fail
      refine (clow_any _ d id B _ HV.out HCW.out).mono ?_
      rintro e w2 ⟨rfl, hb2⟩
      have hbb := nwT hb hb2
      cases he : decide (d.id = id)
      · have HN := HK.out he
        clear he
        go_wp2_with fail
        go_roundw
        case rel => exact ⟨k + 1, by omega, by go_num, hbb, HN⟩
        case measure => simp [intOf]; omega
      · have HR := HY.out he
        have HR2 : Hid ((ds.findIdx? fun d => decide (d.id = id)) = some k) := HR
        clear he HR
        go_wp2_with fail
        go_ret
        exact ⟨ret_int (by rw [HR2.out]; rfl), hbb⟩
    · have hlti : ¬ (k : Int) < (ds.length : Int) := by omega
      have HY : Hid ((ds.findIdx? fun d => decide (d.id = id)) = none) := find_no VZ (fun j hj => HE.out j (by omega))
      go_wp2_with fail
      go_ret
      exact ⟨ret_int (by rw [HY.out]; rfl), hb⟩


theorem clear_volsw (w : World) (b o n c : Nat) (hc : ∀ j, j < n * 5 → (w.cell? ⟨b, o + j, none⟩).isSome = true) (hf : ∀ j, w.frozen? ⟨b, j, none⟩ = false) :
    ∃ vs : List Value, ∀ ty, (Builtin.clear_ #[22] ty #[.slice (some ⟨b, o, none⟩) n c]).run Tryz.prog w = .ok (.tuple #[]) (w.setCells b o vs) := by
  cases n with
  | zero => exact ⟨[], fun ty => by simp [Builtin.clear_, run_underlying Tryz.underlying22, World.setCells]⟩
  | succ m =>
    have hv : (zeroValue 48).run Tryz.prog w = .ok (.agg #[.int .i64 0, .int .i64 0, .bool false, .slice none 0 0, .int .i64 0]) w := by kernel_rfl
    have hst := run_storeCells_cells (P := Tryz.prog) b o (Builtin.zeroCells #[.int .i64 0, .int .i64 0, .bool false, .slice none 0 0, .int .i64 0] (m + 1)).toList 0 w (fun j hj => by
      rw [Nat.add_zero]; exact hc j (by simpa [Builtin.zeroCells] using hj)) (fun j _ => hf _) (zero5 ⟨rfl, rfl, rfl, rfl, rfl⟩ _)
    simp only [Nat.add_zero] at hst
    refine ⟨(Builtin.zeroCells #[.int .i64 0, .int .i64 0, .bool false, .slice none 0 0, .int .i64 0] (m + 1)).toList, fun ty => ?_⟩
    have hz : (Value.agg #[.int .i64 0, .int .i64 0, .bool false, .slice none 0 0, .int .i64 0]).cells = #[.int .i64 0, .int .i64 0, .bool false, .slice none 0 0, .int .i64 0] := by kernel_rfl
    simp [Builtin.clear_, run_underlying Tryz.underlying22, hv, hz, hst]

def restI (id : Int) (ds : List VolD) : List VolD := ds.filter fun d => !decide (d.id = id)
def stayI (id : Int) (x : VV) : Bool := !decide (x.d.id = id)
theorem restI_map (id : Int) (gs : List VV) : (gs.filter (stayI id)).map VV.d = restI id (gs.map VV.d) := by
  unfold restI stayI
  rw [List.filter_map]; rfl
theorem restI_le (id : Int) (ds : List VolD) : (restI id ds).length ≤ ds.length := List.length_filter_le _ _
theorem restI_all {id : Int} {ds : List VolD} (h : (ds.findIdx? fun d => decide (d.id = id)) = none) : restI id ds = ds := by
  unfold restI
  rw [List.filter_eq_self]
  intro d hd
  rw [List.findIdx?_eq_none_iff] at h
  rw [h d hd]; rfl
theorem MixV.sifted {w : World} {base g n cap m : Nat} {gs gs' : List VV} {id : Int} {vs : List Value} (hs : Sift (stayI id) gs gs' m n) (hn : gs.length = n) (h : RowW w base g n cap gs') (hO : ∀ x ∈ gs, ReadFV (w.setCells g (m * 5) vs) x) :
    MixV (w.setCells g (m * 5) vs) base (.slice (some ⟨g, 0, none⟩) m cap) (restI id (gs.map VV.d)) := by
  obtain ⟨ys, h1, h2⟩ := own_setCells vs (m * 5) w (vflat gs') h
  have h3 := own_shrink h1 hs.ij
  have hf := hs.fin (by omega)
  have hle := hs.le hn
  refine ⟨gs.filter (stayI id), restI_map id gs, ?_, fun x hx => hO x (List.mem_filter.1 hx).1⟩
  rw [← restI_map, List.length_map, hle, ← hf, vflat_take, ← h2]
  exact h3

set_option maxRecDepth 100000 in
set_option maxHeartbeats 4000000 in
theorem delW_any (base g cap B : Nat) (ds : List VolD) (id : Int) (w0 w : World) (hb0 : Below w0.heap.size w0 w) (hg0 : w0.heap.size ≤ g) (hX : ∃ gs : List VV, gs.map VV.d = ds ∧ w.ownsRow base 48 5 (.slice (some ⟨g, 0, none⟩) ds.length cap) gs.length (vflat gs) ∧ ∀ x ∈ gs, ReadFV w0 x) (hl : ds.length ≤ 100000) (hB : KeepsInt w (some g) B id) :
    Calls Tryz.prog 53 #[.slice (some ⟨g, 0, none⟩) ds.length cap, .func (.func 55) #[] #[.pointer (some ⟨B, 0, none⟩)]] w fun e w' => e = .returned (.slice (some ⟨g, 0, none⟩) (restI id ds).length cap) ∧ MixV w' base (.slice (some ⟨g, 0, none⟩) (restI id ds).length cap) (restI id ds) ∧ w.grownBy w' (some g) := by
  have HB : Hid (KeepsInt w (some g) B id) := hB
  have HIX : Hid (Calls Tryz.prog 68 #[.slice (some ⟨g, 0, none⟩) ds.length cap, .func (.func 55) #[] #[.pointer (some ⟨B, 0, none⟩)]] w fun e w' => e = .returned (.int .i64 (optI (ds.findIdx? fun d => decide (d.id = id)))) ∧ Below w.heap.size w w') := by
    obtain ⟨gs, h1, h2, h3⟩ := hX
    have hM : MixV w base (.slice (some ⟨g, 0, none⟩) ds.length cap) ds := ⟨gs, h1, by rw [show ds.length = gs.length from by rw [← h1, List.length_map]]; rw [show ds.length = gs.length from by rw [← h1, List.length_map]] at h2; exact h2, fun x hx => (h3 x hx).below hb0⟩
    obtain ⟨a, c, e, hat, _⟩ := hM.at
    simp only [Value.slice.injEq, true_and] at e
    obtain ⟨rfl, rfl⟩ := e
    exact idxw_any _ ds cap id B w hat hl (hB w (gbOf (nwR w) _))
  cases hfi : ds.findIdx? fun d => decide (d.id = id) with
  | none =>
    have HX : Hid (∀ w1, Below w.heap.size w w1 → MixV w1 base (.slice (some ⟨g, 0, none⟩) ds.length cap) ds) := fun w1 h => by
      obtain ⟨gs, h1, h2, h3⟩ := hX
      have e : ds.length = gs.length := by rw [← h1, List.length_map]
      refine ⟨gs, h1, ?_, fun x hx => (h3 x hx).below (hb0.trans (h.mono hb0.size))⟩
      rw [e] at h2 ⊢
      exact own_below h2 h
    have HRA : Hid (restI id ds = ds) := restI_all hfi
    have HI2 : Hid (Calls Tryz.prog 68 #[.slice (some ⟨g, 0, none⟩) ds.length cap, .func (.func 55) #[] #[.pointer (some ⟨B, 0, none⟩)]] w fun e w' => e = .returned (.int .i64 (-1)) ∧ Below w.heap.size w w') := by
      have h := HIX.out; rw [hfi] at h; exact h
    clear hX HIX hfi hB
    rw [HRA.out]
    go_enter Tryz.func53, Tryz.ntmps53
    go_wp2_with fail
    refine HI2.out.mono ?_
    rintro e w1 ⟨rfl, hb1⟩
    go_wp2_with fail
    go_ret
    exact ⟨rfl, HX.out _ hb1, gbOf hb1 _⟩
  | some k =>
    have HI2 : Hid (Calls Tryz.prog 68 #[.slice (some ⟨g, 0, none⟩) ds.length cap, .func (.func 55) #[] #[.pointer (some ⟨B, 0, none⟩)]] w fun e w' => e = .returned (.int .i64 (k : Int)) ∧ Below w.heap.size w w') := by
      have h := HIX.out; rw [hfi] at h; exact h
    rw [List.findIdx?_eq_some_iff_getElem] at hfi
    obtain ⟨hkl, hk1, hk2⟩ := hfi
    obtain ⟨gs, hd, hrow0, hown⟩ := hX
    have hlen : gs.length = ds.length := by rw [← hd, List.length_map]
    have HST : Hid (Sift (stayI id) gs gs k (k + 1)) := by
      refine sift_start (by omega) (fun t ht x hx => ?_) (fun x hx => ?_)
      · have := hk2 t ht
        have e : ds[t]? = some x.d := by rw [← hd, List.getElem?_map, hx]; rfl
        have e2 := (List.getElem?_eq_some_iff.1 e).2
        unfold stayI
        rw [← e2]
        simpa using this
      · have e : ds[k]? = some x.d := by rw [← hd, List.getElem?_map, hx]; rfl
        have e2 := (List.getElem?_eq_some_iff.1 e).2
        unfold stayI
        rw [← e2, hk1]; rfl
    have HO : Hid (RowW w base g ds.length cap gs) := by show RowW _ _ _ _ _ _; unfold RowW; rw [hlen] at hrow0; exact hrow0
    have HOW : Hid (∀ w', w.grownBy w' (some g) → ∀ x ∈ gs, ReadFV w' x) := fun w' h x hx => (hown x hx).below (hb0.grown h hb0.size (fun k e => by injection e with e; omega))
    have hcap : ds.length ≤ cap := by
      rcases hrow0.2 with ⟨h1, _⟩ | ⟨g', cap', cur, h1, _, _, h4, _⟩
      · simp at h1
      · simp only [Value.slice.injEq] at h1; omega
    have HE : Hid (∀ m w', m = (restI id ds).length → MixV w' base (.slice (some ⟨g, 0, none⟩) m cap) (restI id (gs.map VV.d)) → w.grownBy w' (some g) → (Ending.returned (.slice (some ⟨g, 0, none⟩) m cap) = .returned (.slice (some ⟨g, 0, none⟩) (restI id ds).length cap) ∧ MixV w' base (.slice (some ⟨g, 0, none⟩) (restI id ds).length cap) (restI id ds) ∧ w.grownBy w' (some g))) := by
      intro m w' hm h1 h2
      subst hm
      rw [hd] at h1
      exact ⟨rfl, h1, h2⟩
    have HLE : Hid (∀ m gs', Sift (stayI id) gs gs' m gs.length → m = (restI id ds).length) := by
      intro m gs' h
      have := h.le rfl
      rw [← hd, ← restI_map, List.length_map, this]
    clear hk1 hk2 hB hrow0 hown hd HIX
    have hk1 : ((k : Int) == -1) = false := beq_eq_false_iff_ne.2 (by omega)
    generalize (restI id ds).length = rl at *
    generalize restI id ds = rs at *
    generalize ds.length = n at *
    go_enter Tryz.func53, Tryz.ntmps53
    go_wp2_with fail
    refine HI2.out.mono ?_
    rintro e w1 ⟨rfl, hb1⟩
    have HO1 : Hid (RowW w1 base g n cap gs) := own_below HO.out hb1
    have HG1 : Hid (w.grownBy w1 (some g)) := gbOf hb1 _
    clear hb1 HI2
    have HLN : Hid (gs.length = n) := hlen
    have hln1 : gs.length ≤ n := by omega
    have hln2 : n ≤ gs.length := by omega
    clear hlen
    go_wp2_with fail
    go_loopw [5, 6] (fun s5 s6 wr => ∃ (m j : Nat), s5 = .int .i64 m ∧ s6 = .int .i64 j ∧ m < j ∧ j ≤ n ∧ Hid (∃ gs', Sift (stayI id) gs gs' m j ∧ RowW wr base g n cap gs') ∧ Hid (w.grownBy wr (some g)))
      (fun _ s6 _ => n - (intOf s6).toNat)
    case atStart => exact ⟨k, k + 1, rfl, by go_num, by omega, by omega, ⟨gs, HST.out, HO1.out⟩, HG1⟩
    case round =>
      obtain ⟨m, j, rfl, rfl, hmj, hjl, HOr, HGr⟩ := hrel
      obtain ⟨gs', hst, hro⟩ := HOr.out
      have HS : Hid (Sift (stayI id) gs gs' m j) := hst
      have HR : Hid (RowW wr base g n cap gs') := hro
      have HSL : Hid (gs'.length = n) := by show _ = _; have := hst.len; omega
      clear hst hro HOr
      by_cases hjn : j < n
      · have hjni : (j : Int) < (n : Int) := by omega
        have hmni : (m : Int) < (n : Int) := by omega
        obtain ⟨x, hx⟩ : ∃ x, gs[j]? = some x := ⟨_, List.getElem?_eq_getElem (by omega)⟩
        have hxs : gs'[j]? = some x := by rw [HS.out.get (Nat.le_refl _)]; exact hx
        obtain ⟨c0, c1, c2, c3, c4⟩ := HR.out.cellAt hxs
        have HFX : Hid (ReadFV wr x) := HOW.out wr HGr.out x (List.mem_of_getElem? hx)
        have HKP : Hid (stayI id x = true → Sift (stayI id) gs (gs'.set m x) (m + 1) (j + 1)) := fun h => HS.out.keep hx h
        have HSK : Hid (stayI id x = false → Sift (stayI id) gs gs' m (j + 1)) := fun h => HS.out.skip hx h
        obtain ⟨af, cf, e1, hfa, hck⟩ := HFX.out
        obtain ⟨xd, xf⟩ := x
        simp only at e1 c0 c1 c2 c3 c4
        subst e1
        have HFV : Hid (VolVal wr (.agg #[.int .i64 xd.id, .int .i64 xd.fr, .bool xd.snap, .slice af xd.files.length cf, .int .i64 xd.next]) xd) := ⟨af, cf, rfl, hfa, hck⟩
        clear hx hxs hfa hck HFX
        have HBA : Hid (Below wr.heap.size wr (wr.alloc (.cells #[.int .i64 xd.id, .int .i64 xd.fr, .bool xd.snap, .slice af xd.files.length cf, .int .i64 xd.next] 48))) := nwA (nwR wr) _
        have HB2 : Hid ((wr.alloc (.cells #[.int .i64 xd.id, .int .i64 xd.fr, .bool xd.snap, .slice af xd.files.length cf, .int .i64 xd.next] 48)).heap[wr.heap.size]? = some (.cells #[.int .i64 xd.id, .int .i64 xd.fr, .bool xd.snap, .slice af xd.files.length cf, .int .i64 xd.next] 48 (0, 0))) := heap_alloc_new wr _
        have HD1 : Hid (Calls Tryz.prog 55 #[.agg #[.int .i64 xd.id, .int .i64 xd.fr, .bool xd.snap, .slice af xd.files.length cf, .int .i64 xd.next], .pointer (some ⟨B, 0, none⟩)] (wr.alloc (.cells #[.int .i64 xd.id, .int .i64 xd.fr, .bool xd.snap, .slice af xd.files.length cf, .int .i64 xd.next] 48)) fun e w' => e = .returned (.bool (decide (xd.id = id))) ∧ Below (wr.alloc (.cells #[.int .i64 xd.id, .int .i64 xd.fr, .bool xd.snap, .slice af xd.files.length cf, .int .i64 xd.next] 48)).heap.size (wr.alloc (.cells #[.int .i64 xd.id, .int .i64 xd.fr, .bool xd.snap, .slice af xd.files.length cf, .int .i64 xd.next] 48)) w') := by
          exact clow_any _ xd id B _ (HFV.out.below HBA.out) (HB.out _ (HGr.out.trans (gbOf HBA.out _)))
        go_wp2_with fail
        refine HD1.out.mono ?_
        rintro e w2 ⟨rfl, hb2⟩
        have hbw2 := nwT HBA.out hb2
        obtain ⟨d0, d1, d2, d3, d4, _⟩ := five ((hb2.block _ (Array.getElem?_eq_some_iff.1 HB2.out).1).trans HB2.out)
        have HO2 : Hid (RowW w2 base g n cap gs') := own_below HR.out hbw2
        have HG2 : Hid (w.grownBy w2 (some g)) := HGr.out.trans (gbOf hbw2 _)
        obtain ⟨y, hy⟩ : ∃ y, gs'[m]? = some y := ⟨_, List.getElem?_eq_getElem (by have := HSL.out; omega)⟩
        obtain ⟨t0, t1, t2, t3, t4⟩ := HO2.out.cellAt hy
        have tf : ∀ o, w2.frozen? ⟨g, o, none⟩ = false := fun o => World.ownsRow.frozenAt HO2.out o
        clear c0 c1 c2 c3 c4 hy HD1 HB2
        cases hin : decide (xd.id = id)
        case false =>
          have HN : Hid (Sift (stayI id) gs (gs'.set m ⟨xd, .slice af xd.files.length cf⟩) (m + 1) (j + 1)) := HKP.out (by unfold stayI; simp only; rw [hin]; rfl)
          clear hin
          go_wp2_with fail
          go_roundw
          case rel =>
            refine ⟨m + 1, j + 1, by go_num, by go_num, by omega, by omega, ⟨gs'.set m ⟨xd, .slice af xd.files.length cf⟩, HN.out, ?_⟩, gb_setg (gb_setg (gb_setg (gb_setg (gb_setg HG2.out _) _) _) _) _⟩
            exact HO2.out.setAt ⟨xd, .slice af xd.files.length cf⟩ (i := m) (by have := HSL.out; omega)
          case measure => simp [intOf]; omega
        case true =>
          have HN : Hid (Sift (stayI id) gs gs' m (j + 1)) := HSK.out (by unfold stayI; simp only; rw [hin]; rfl)
          clear hin
          go_wp2_with fail
          go_roundw
          case rel => exact ⟨m, j + 1, rfl, by go_num, by omega, by omega, ⟨gs', HN.out, HO2.out⟩, HG2⟩
          case measure => simp [intOf]; omega
      · have hjni : ¬ (j : Int) < (n : Int) := by omega
        have HJN : Hid (j = n) := by show _ = _; omega
        have tf : ∀ o, wr.frozen? ⟨g, o, none⟩ = false := fun o => World.ownsRow.frozenAt HR.out o
        obtain ⟨vs, hcl⟩ := clear_volsw wr g (m * 5) (n - m) (cap - m) (fun t ht => by
          have e : (vflat gs')[m * 5 + t]? = some ((vflat gs')[m * 5 + t]'(by rw [vflat_len]; have := HSL.out; omega)) := List.getElem?_eq_getElem _
          have := World.ownsRow.cells HR.out (g := g) rfl _ _ e
          rw [addr_add, Nat.zero_add] at this
          rw [this]; rfl) tf
        go_wp2_with fail
        go_ret
        have HGE : w.grownBy (wr.setCells g (m * 5) vs) (some g) := gb_setCells vs (m * 5) wr HGr.out
        have hst := HS.out
        rw [HJN.out] at hst
        exact HE.out m _ (HLE.out m gs' (by rw [HLN.out]; exact hst)) (MixV.sifted hst HLN.out HR.out (HOW.out _ HGE)) HGE


theorem atV_restI {ds : List VolD} {id : Int} {k : Nat} (h : atV ds id = some k) : 0 < ds.length := by have := atV_lt h; omega
set_option maxRecDepth 100000 in
set_option maxHeartbeats 4000000 in
theorem withouti_any (a : Option Addr) (ds : List VolD) (ca : Nat) (id : Int) (w : World) (hv : VolsAt w a ds) (hl : ds.length ≤ 100000) (hp : 0 < ds.length) :
    Calls Tryz.prog 35 #[.slice a ds.length ca, .int .i64 id] w fun e w' => (∃ u, e = .returned u ∧ MixV w' w.heap.size u (restI id ds)) ∧ Below w.heap.size w w' := by
  obtain ⟨b, o, rfl, _⟩ := hv.vol hp
  obtain ⟨gs, hd, hce, hrd⟩ := hv.cells
  have hlen : gs.length = ds.length := by rw [← hd, List.length_map]
  have HB0 : Hid (Below w.heap.size w (w.alloc (.cells #[.int .i64 id] 3))) := nwA (nwR w) _
  have HX0 : Hid ((w.alloc (.cells #[.int .i64 id] 3)).heap[w.heap.size]? = some (.cells #[.int .i64 id] 3 (0, 0))) := heap_alloc_new w _
  have HCL : Hid (Calls Tryz.prog 54 #[.slice (some ⟨b, o, none⟩) ds.length ca] (w.alloc (.cells #[.int .i64 id] 3)) fun e w' => (∃ v', e = .returned v' ∧ w'.ownsRow (w.alloc (.cells #[.int .i64 id] 3)).heap.size 48 5 v' ds.length (vflat gs)) ∧ Below (w.alloc (.cells #[.int .i64 id] 3)).heap.size (w.alloc (.cells #[.int .i64 id] 3)) w') :=
    clov_row ⟨b, o, none⟩ ds.length ca (vflat gs) _ (by rw [vflat_len, hlen]) (by omega) (fun j u hj => cells_kept HB0.out hce j u hj) (vflat_oneR hrd)
  have HD : Hid (gs.map VV.d = ds) := hd
  have HRD : Hid (∀ x ∈ gs, ReadFV w x) := hrd
  have HLN : Hid (gs.length = ds.length) := hlen
  clear hv hd hce hrd hlen
  go_enter Tryz.func35, Tryz.ntmps35
  go_wp2_with fail
  have hsz : (w.alloc (.cells #[.int .i64 id] 3)).heap.size = w.heap.size + 1 := by simp
  generalize w.alloc (.cells #[.int .i64 id] 3) = W0 at HB0 HX0 HCL hsz ⊢
  refine HCL.out.mono ?_
  rintro e w1 ⟨⟨v1, rfl, ho⟩, hb1⟩
  obtain ⟨g, cap, rfl, hg1, hg2⟩ := slice_cells ho hp
  have HB1 : Hid (Below w.heap.size w w1) := nwT HB0.out hb1
  have hX1 : w1.heap[w.heap.size]? = some (.cells #[.int .i64 id] 3 (0, 0)) := (hb1.block _ (Array.getElem?_eq_some_iff.1 HX0.out).1).trans HX0.out
  have hge : w.heap.size ≤ g := by omega
  have HDE : Hid (Calls Tryz.prog 53 #[.slice (some ⟨g, 0, none⟩) ds.length cap, .func (.func 55) #[] #[.pointer (some ⟨w.heap.size, 0, none⟩)]] w1 fun e w' => e = .returned (.slice (some ⟨g, 0, none⟩) (restI id ds).length cap) ∧ MixV w' w.heap.size (.slice (some ⟨g, 0, none⟩) (restI id ds).length cap) (restI id ds) ∧ w1.grownBy w' (some g)) :=
    delW_any w.heap.size g cap w.heap.size ds id w w1 HB1.out hge ⟨gs, HD.out, by rw [HLN.out]; exact own_le ho (by omega), HRD.out⟩ hl (fun w' hg => by
      have h := (hg.block _ (Array.getElem?_eq_some_iff.1 hX1).1 (by simp; omega)).trans hX1
      exact cell_of_blk h)
  clear ho hb1 hX1 HCL HX0 HB0
  go_wp2_with fail
  refine HDE.out.mono ?_
  rintro e w2 ⟨rfl, hm, hg⟩
  have HM : Hid (MixV w2 w.heap.size (.slice (some ⟨g, 0, none⟩) (restI id ds).length cap) (restI id ds)) := hm
  have HB2 : Hid (Below w.heap.size w w2) := HB1.out.grown hg HB1.out.size (fun k e => by injection e with e; omega)
  clear hm hg HDE
  go_wp2_with fail
  go_ret
  exact ⟨⟨_, rfl, HM.out⟩, HB2.out⟩

end Go.Proofs.YtbaphgdlbeaenaaGreat

/- Which blocks one volume alone names, by the program. -/
namespace Go.Proofs.YtbaphgdlbeaenaaGreat
open Go.RowKit

/-- which blocks the k-th volume alone has -/
def onlyN (ds : List VolD) (id : Int) (k : Nat) : List Int := goneN (placesW [ds.getD k VZ]) (rowsW (restI id ds))
def OnlyR (ds : List VolD) (next id : Int) (er : Int) (ys : List Int) : Prop := (¬ VolsOk ds next ∧ er = 1 ∧ ys = []) ∨ (VolsOk ds next ∧ atV ds id = none ∧ er = 3 ∧ ys = []) ∨ ∃ k, VolsOk ds next ∧ atV ds id = some k ∧ er = 0 ∧ ys = onlyN ds id k
def OnlyPost (ds : List VolD) (next id : Int) (base : Nat) (e : Ending) (w' : World) : Prop := ∃ u er ys, e = .returned (.tuple #[u, .int .i64 er]) ∧ OwnInts w' base u ys ∧ OnlyR ds next id er ys

theorem VolVal.one {w : World} {d : VolD} {av : Option Addr} {c : Nat} (h : VolVal w (.agg #[.int .i64 d.id, .int .i64 d.fr, .bool d.snap, .slice av d.files.length c, .int .i64 d.next]) d) : VolsAt (w.alloc (.cells #[.int .i64 d.id, .int .i64 d.fr, .bool d.snap, .slice av d.files.length c, .int .i64 d.next] 48)) (some ⟨w.heap.size, 0, none⟩) [d] := by
  obtain ⟨a', c', e, hf, hc⟩ := h
  simp only [Value.agg.injEq, Array.mk.injEq, List.cons.injEq, Value.slice.injEq, true_and, and_true] at e
  obtain ⟨rfl, rfl⟩ := e
  refine .inr ⟨w.heap.size, 0, rfl, fun i hi => ?_⟩
  have : i = 0 := by simpa using hi
  subst this
  exact ⟨av, c, ⟨by simp, by simp, by simp, by simp, by simp⟩, hf.below (nwA (nwR w) _), hc⟩
theorem OwnVol.lit {w : World} {base : Nat} {v : Value} {d : VolD} (h : OwnVol w base v d) : ∃ fa fc, v = .agg #[.int .i64 d.id, .int .i64 d.fr, .bool d.snap, .slice fa d.files.length fc, .int .i64 d.next] ∧ VolVal w (.agg #[.int .i64 d.id, .int .i64 d.fr, .bool d.snap, .slice fa d.files.length fc, .int .i64 d.next]) d := by
  have hv := h.val
  obtain ⟨fv, rfl, hfv⟩ := h
  obtain ⟨fa, fc, rfl, _, _⟩ := hfv.at
  exact ⟨fa, fc, rfl, hv⟩
theorem restI_mem {id : Int} {ds : List VolD} {d : VolD} (h : d ∈ restI id ds) : d ∈ ds := (List.mem_filter.1 h).1

set_option maxRecDepth 100000 in
set_option maxHeartbeats 8000000 in
theorem only_any (a : Option Addr) (ds : List VolD) (ca : Nat) (next id : Int) (w : World) (hv : VolsAt w a ds) (hs : SmallW ds) :
    Calls Tryz.prog 14 #[.slice a ds.length ca, .int .i64 next, .int .i64 id] w fun e w' => OnlyPost ds next id w.heap.size e w' ∧ Below w.heap.size w w' := by
  have HV : Hid (VolsAt w a ds) := hv
  have HS : Hid (SmallW ds) := hs
  clear hv hs
  go_enter Tryz.func14, Tryz.ntmps14
  go_wp2_with fail
  refine (getp_any a ds ca next id w HV.out HS.out).mono ?_
  rintro e w1 ⟨⟨u, er, d, rfl, hu, hr⟩, hb1⟩
  obtain ⟨fa, fc, rfl, hval⟩ := hu.lit
  have HB1 : Hid (Below w.heap.size w w1) := hb1
  have HVL : Hid (VolVal w1 (.agg #[.int .i64 d.id, .int .i64 d.fr, .bool d.snap, .slice fa d.files.length fc, .int .i64 d.next]) d) := hval
  have HGR : Hid (GetR ds next id er d) := hr
  clear hb1 hval hu hr
  have HBA : Hid (Below w1.heap.size w1 (w1.alloc (.cells #[.int .i64 d.id, .int .i64 d.fr, .bool d.snap, .slice fa d.files.length fc, .int .i64 d.next] 48))) := nwA (nwR w1) _
  have HXA : Hid ((w1.alloc (.cells #[.int .i64 d.id, .int .i64 d.fr, .bool d.snap, .slice fa d.files.length fc, .int .i64 d.next] 48)).heap[w1.heap.size]? = some (.cells #[.int .i64 d.id, .int .i64 d.fr, .bool d.snap, .slice fa d.files.length fc, .int .i64 d.next] 48 (0, 0))) := heap_alloc_new w1 _
  by_cases her : er = 0
  case neg =>
    have her2 : (er == 0) = false := beq_eq_false_iff_ne.2 her
    have HQ1 : OnlyR ds next id er [] := by
      rcases HGR.out with ⟨h1, h2, _⟩ | ⟨h1, h2, h3, _⟩ | ⟨k, _, _, h3, _⟩
      · exact .inl ⟨h1, h2, rfl⟩
      · exact .inr (.inl ⟨h1, h2, h3, rfl⟩)
      · exact absurd h3 her
    have HQ : Hid (∀ w', OnlyPost ds next id w.heap.size (.returned (.tuple #[.slice none 0 0, .int .i64 er])) w') := fun w' => ⟨_, _, [], rfl, World.ownsRow_nil _ _ _ _, HQ1⟩
    clear her HQ1
    go_wp2_with fail
    go_ret2
    exact ⟨HQ.out _, nwT HB1.out HBA.out⟩
  case pos =>
    obtain ⟨k, hok, hat, hd⟩ : ∃ k, VolsOk ds next ∧ atV ds id = some k ∧ d = ds.getD k VZ := by
      rcases HGR.out with ⟨_, h2, _⟩ | ⟨_, _, h3, _⟩ | ⟨k, h1, h2, _, h4⟩
      · omega
      · omega
      · exact ⟨k, h1, h2, h4⟩
    subst her
    have hkl := atV_lt hat
    have HD : Hid (d = ds.getD k VZ) := hd
    have HOK : Hid (VolsOk ds next ∧ atV ds id = some k) := ⟨hok, hat⟩
    have hvo : VolOk d := by rw [hd]; exact (hok.2 k hkl).1
    have HF1 : Hid (FewW [d]) := few_of (by simp) (fun x hx => by simp at hx; rw [hx]; exact hvo)
    have HF2 : Hid (FewW (restI id ds)) := few_of (by have := restI_le id ds; have := hok.1.1; omega) (fun x hx => hok.vol x (restI_mem hx))
    have hdl : ds.length ≤ 100000 := HS.out.1
    have hdp : 0 < ds.length := by omega
    clear hd hok hat hvo hkl HGR
    obtain ⟨x0, x1, x2, x3, x4, _⟩ := five HXA.out
    have hsz : (w1.alloc (.cells #[.int .i64 d.id, .int .i64 d.fr, .bool d.snap, .slice fa d.files.length fc, .int .i64 d.next] 48)).heap.size = w1.heap.size + 1 := by simp
    have HVO : Hid (VolsAt ((w1.alloc (.cells #[.int .i64 d.id, .int .i64 d.fr, .bool d.snap, .slice fa d.files.length fc, .int .i64 d.next] 48)).alloc (.cells #[.int .i64 d.id, .int .i64 d.fr, .bool d.snap, .slice fa d.files.length fc, .int .i64 d.next] 48)) (some ⟨w1.heap.size + 1, 0, none⟩) [d]) := by
      have h := VolVal.one (HVL.out.below HBA.out)
      rw [hsz] at h
      exact h
    have HB3 : Hid (Below w.heap.size w ((w1.alloc (.cells #[.int .i64 d.id, .int .i64 d.fr, .bool d.snap, .slice fa d.files.length fc, .int .i64 d.next] 48)).alloc (.cells #[.int .i64 d.id, .int .i64 d.fr, .bool d.snap, .slice fa d.files.length fc, .int .i64 d.next] 48))) := nwA (nwT HB1.out HBA.out) _
    have HBL : Hid (Calls Tryz.prog 25 #[.slice (some ⟨w1.heap.size + 1, 0, none⟩) 1 1] ((w1.alloc (.cells #[.int .i64 d.id, .int .i64 d.fr, .bool d.snap, .slice fa d.files.length fc, .int .i64 d.next] 48)).alloc (.cells #[.int .i64 d.id, .int .i64 d.fr, .bool d.snap, .slice fa d.files.length fc, .int .i64 d.next] 48)) fun e w' => ∃ v rs, e = .returned v ∧ RowsR ((w1.alloc (.cells #[.int .i64 d.id, .int .i64 d.fr, .bool d.snap, .slice fa d.files.length fc, .int .i64 d.next] 48)).alloc (.cells #[.int .i64 d.id, .int .i64 d.fr, .bool d.snap, .slice fa d.files.length fc, .int .i64 d.next] 48)) w' v rs (rowsW [d])) := blocks_any _ [d] 1 _ HVO.out HF1.out.vols (by have := HF1.out.rows; omega) HF1.out.files
    clear HVO HVL hsz HBA HXA
    go_wp2_with fail
    generalize (w1.alloc (.cells #[.int .i64 d.id, .int .i64 d.fr, .bool d.snap, .slice fa d.files.length fc, .int .i64 d.next] 48)).alloc (.cells #[.int .i64 d.id, .int .i64 d.fr, .bool d.snap, .slice fa d.files.length fc, .int .i64 d.next] 48) = W3 at HB3 HBL ⊢
    refine HBL.out.mono ?_
    rintro e w4 ⟨v4, rs, rfl, hr4⟩
    have HR4 : Hid (RowsR W3 w4 v4 rs (rowsW [d])) := hr4
    have HB4 : Hid (Below w.heap.size w w4) := nwT HB3.out hr4.bel
    obtain ⟨a4, c4, rfl, hat4, _⟩ := hr4.at
    have HCO : Hid (Calls Tryz.prog 34 #[.slice a4 rs.length c4] w4 fun e w' => (∃ v, e = .returned v ∧ OwnInts w' w4.heap.size v (allN rs)) ∧ Below w4.heap.size w4 w') := concat_any a4 rs c4 w4 hat4 (by rw [hr4.len]; have := HF1.out.rows; omega) (by rw [hr4.all]; exact Nat.le_trans HF1.out.all (by omega))
    clear hr4 hat4 HBL
    go_wp2_with fail
    refine HCO.out.mono ?_
    rintro e w5 ⟨⟨v5, rfl, ho5⟩, hb5⟩
    have HO5 : Hid (OwnInts w5 w4.heap.size v5 (placesW [d])) := by rw [HR4.out.all] at ho5; exact ho5
    have HB5 : Hid (Below w.heap.size w w5) := nwT HB4.out hb5
    have HWI : Hid (Calls Tryz.prog 35 #[.slice a ds.length ca, .int .i64 id] w5 fun e w' => (∃ u, e = .returned u ∧ MixV w' w5.heap.size u (restI id ds)) ∧ Below w5.heap.size w5 w') := withouti_any a ds ca id w5 (HV.out.below HB5.out) hdl hdp
    clear ho5 hb5 HCO HR4
    go_wp2_with fail
    refine HWI.out.mono ?_
    rintro e w6 ⟨⟨u6, rfl, hm6⟩, hb6⟩
    have HO6 : Hid (OwnInts w6 w4.heap.size v5 (placesW [d])) := own_below HO5.out hb6
    have HB6 : Hid (Below w.heap.size w w6) := nwT HB5.out hb6
    obtain ⟨a6, c6, rfl, hat6, _⟩ := hm6.at
    have HBL : Hid (Calls Tryz.prog 25 #[.slice a6 (restI id ds).length c6] w6 fun e w' => ∃ v rs, e = .returned v ∧ RowsR w6 w' v rs (rowsW (restI id ds))) := blocks_any _ _ c6 _ hat6 HF2.out.vols (by have := HF2.out.rows; omega) HF2.out.files
    clear hm6 hb6 hat6 HWI HO5
    go_wp2_with fail
    refine HBL.out.mono ?_
    rintro e w7 ⟨v7, rs7, rfl, hr7⟩
    have HO7 : Hid (OwnInts w7 w4.heap.size v5 (placesW [d])) := own_below HO6.out hr7.bel
    have HB7 : Hid (Below w.heap.size w w7) := nwT HB6.out hr7.bel
    obtain ⟨a7, c7, rfl, hat7, _⟩ := hr7.at
    obtain ⟨a5, c5, rfl, hat5, hcap5⟩ := HO7.out.at
    have HGO : Hid (Calls Tryz.prog 33 #[.slice a5 (placesW [d]).length c5, .slice a7 rs7.length c7] w7 fun e w' => (∃ u, e = .returned u ∧ OwnInts w' w7.heap.size u (goneN (placesW [d]) (rs7.map fun r => r.2.2))) ∧ Below w7.heap.size w7 w') :=
      gone_any a5 _ c5 a7 rs7 c7 w7 hat5 hcap5.2.1 (Nat.le_trans HF1.out.all (by omega)) hat7 (by rw [hr7.len]; have := HF2.out.rows; omega) (by rw [hr7.all]; exact Nat.le_trans HF2.out.all (by omega))
    have HI7 : Hid (rs7.map (fun r => r.2.2) = rowsW (restI id ds)) := hr7.is
    clear hr7 hat7 hat5 hcap5 HBL HO6 HO7
    go_wp2_with fail
    refine HGO.out.mono ?_
    rintro e w8 ⟨⟨u8, rfl, ho8⟩, hb8⟩
    have HO8 : Hid (OwnInts w8 w.heap.size u8 (onlyN ds id k)) := by
      rw [HI7.out] at ho8
      show OwnInts _ _ _ _
      unfold onlyN
      rw [← HD.out]
      exact own_le ho8 HB7.out.size
    have HB8 : Hid (Below w.heap.size w w8) := nwT HB7.out hb8
    obtain ⟨a8, c8, rfl, _⟩ := _root_.id HO8.out.at
    clear ho8 hb8 HGO
    go_wp2_with fail
    go_ret2
    exact ⟨⟨_, _, _, rfl, HO8.out, .inr (.inr ⟨k, HOK.out.1, HOK.out.2, rfl, rfl⟩)⟩, HB8.out⟩

end Go.Proofs.YtbaphgdlbeaenaaGreat

/- Which blocks one volume alone names, by the page. -/
namespace Go.Proofs.YtbaphgdlbeaenaaGreat
open Go.RowKit

def othersN (ds : List VolD) (id : Int) : List (List Int) := (ds.filter fun d => !decide (d.id = id)).map fun d => plF d.files
theorem othersN_take {ds : List VolD} (id : Int) {k : Nat} (hk : k < ds.length) : othersN (ds.take (k + 1)) id = othersN (ds.take k) id ++ (if (ds.getD k VZ).id = id then [] else [plF (ds.getD k VZ).files]) := by
  unfold othersN
  have e : ds.getD k VZ = ds[k] := by simp [List.getD, hk]
  rw [List.take_succ_eq_append_getElem hk, List.filter_append, List.map_append, e]
  congr 1
  rw [List.filter_cons]
  by_cases h : ds[k].id = id
  · rw [if_neg (by simp [h]), if_pos h]; rfl
  · rw [if_pos (by simp [h]), if_neg h]; rfl
theorem othersN_len (ds : List VolD) (id : Int) : (othersN ds id).length ≤ ds.length := by
  unfold othersN
  rw [List.length_map]; exact List.length_filter_le _ _
theorem plF_le_all {ds : List VolD} {d : VolD} (h : d ∈ ds) : (plF d.files).length ≤ (placesW ds).length := by
  obtain ⟨i, hi, rfl⟩ := List.getElem_of_mem h
  have h1 := placesW_take hi
  have h2 := placesW_take_le ds (i + 1)
  rw [h1, List.length_append] at h2
  have e : ds.getD i VZ = ds[i] := by simp [List.getD, hi]
  rw [e] at h2; omega
theorem onlyN_others (ds : List VolD) (id : Int) (k : Nat) : goneN (plF (ds.getD k VZ).files) (othersN ds id) = onlyN ds id k := by
  unfold onlyN
  refine goneN_congr (fun x => by rw [plF_one]) (fun x => ?_)
  unfold othersN rowsW restI
  simp only [List.mem_map, List.mem_flatMap]
  constructor
  · rintro ⟨m, ⟨d, hd, rfl⟩, hx⟩
    unfold plF at hx
    obtain ⟨m2, hm2, hx2⟩ := List.mem_flatten.1 hx
    exact ⟨m2, ⟨d, hd, hm2⟩, hx2⟩
  · rintro ⟨m, ⟨d, hd, hm⟩, hx⟩
    exact ⟨_, ⟨d, hd, rfl⟩, List.mem_flatten.2 ⟨m, hm, hx⟩⟩

/-- rows of the call's own, of rows of its own -/
structure RowsO (w w' : World) (v : Value) (rs : List RowD) (ls : List (List Int)) : Prop where
  own : OwnRows w' w.heap.size v rs
  ok : ∀ r ∈ rs, OwnInts w' w.heap.size (rowV r) r.2.2
  is : rs.map (fun r => r.2.2) = ls
  bel : Below w.heap.size w w'
theorem RowsO.len {w w' : World} {v : Value} {rs : List RowD} {ls : List (List Int)} (h : RowsO w w' v rs ls) : rs.length = ls.length := by rw [← h.is, List.length_map]
theorem RowsO.below {w w' w2 : World} {v : Value} {rs : List RowD} {ls : List (List Int)} (h : RowsO w w' v rs ls) (hb : Below w'.heap.size w' w2) : RowsO w w2 v rs ls :=
  ⟨own_below h.own hb, fun r hr => own_below (h.ok r hr) hb, h.is, nwT h.bel hb⟩
theorem OwnInts.rowOk {w : World} {base : Nat} {r : RowD} (h : OwnInts w base (rowV r) r.2.2) : RowOk w r := by
  obtain ⟨a, c, e, h1, h2⟩ := h.at
  obtain ⟨ra, rc, xs⟩ := r
  simp only [rowV, Value.slice.injEq, true_and] at e
  obtain ⟨rfl, rfl⟩ := e
  exact ⟨h1, h2.2.1⟩
theorem RowsO.at {w w' : World} {v : Value} {rs : List RowD} {ls : List (List Int)} (h : RowsO w w' v rs ls) : ∃ a cap, v = .slice a rs.length cap ∧ RowsAt w' a rs ∧ CapOk a cap rs.length := h.own.at fun r hr => (h.ok r hr).rowOk

set_option maxRecDepth 100000 in
set_option maxHeartbeats 8000000 in
theorem onlyP_any (a : Option Addr) (ds : List VolD) (ca : Nat) (id : Int) (k : Nat) (w : World) (hv : VolsAt w a ds) (hf : FewW ds) (hat : atV ds id = some k) :
    Calls Tryz.prog 16 #[.slice a ds.length ca, .int .i64 id] w fun e w' => (∃ u, e = .returned u ∧ OwnInts w' w.heap.size u (onlyN ds id k)) ∧ Below w.heap.size w w' := by
  have HV : Hid (VolsAt w a ds) := hv
  have HF : Hid (FewW ds) := hf
  have hl := hf.vols
  have hkl := atV_lt hat
  have HAT : Hid (atV ds id = some k) := hat
  have HON : Hid (goneN (plF (ds.getD k VZ).files) (othersN ds id) = onlyN ds id k) := onlyN_others ds id k
  clear hv hf hat
  obtain ⟨i0, hi, hz0, hz1, hz2⟩ := info_parts Tryz.info32
  go_enter Tryz.func16, Tryz.ntmps16
  go_wp2_with fail
  go_loopw [5, 6] (fun v i wr => ∃ (j : Nat) (rs : List RowD), j ≤ ds.length ∧ i = .int .i64 j ∧ Hid (RowsO w wr v rs (othersN (ds.take j) id)))
    (fun _ i _ => ds.length - (intOf i).toNat)
  case atStart => exact ⟨0, [], by omega, rfl, World.ownsRow_nil _ _ _ _, by simp, by simp [othersN], nwR w⟩
  case round =>
    obtain ⟨j, rs, hj, rfl, HR⟩ := hrel
    by_cases hjl : j < ds.length
    · have hjli : (j : Int) < (ds.length : Int) := by omega
      have hj0 : (0 : Int) ≤ (j : Int) := by omega
      obtain ⟨b1, o1, rfl, hvi⟩ := (HV.out.below HR.out.bel).vol hjl
      obtain ⟨af, cf, ⟨c0, c1, c2, c3, c4⟩, hvl⟩ := hvi.val
      have HS : Hid (othersN (ds.take (j + 1)) id = othersN (ds.take j) id ++ (if (ds.getD j VZ).id = id then [] else [plF (ds.getD j VZ).files])) := othersN_take id hjl
      have hfl : (ds.getD j VZ).files.length ≤ 100000 := HF.out.files _ (by simp [List.getD, hjl])
      have hpl : (plF (ds.getD j VZ).files).length ≤ 10000 := Nat.le_trans (plF_le_all (by simp [List.getD, hjl])) HF.out.all
      have HPL : Hid (Calls Tryz.prog 28 #[.agg #[.int .i64 (ds.getD j VZ).id, .int .i64 (ds.getD j VZ).fr, .bool (ds.getD j VZ).snap, .slice af (ds.getD j VZ).files.length cf, .int .i64 (ds.getD j VZ).next]] wr fun e w' => (∃ u, e = .returned u ∧ OwnInts w' wr.heap.size u (plF (ds.getD j VZ).files)) ∧ Below wr.heap.size wr w') := placesP_any _ _ wr hvl hfl (by omega)
      have hrl : rs.length ≤ 100000 := by rw [HR.out.len]; exact Nat.le_trans (othersN_len _ _) (by rw [List.length_take]; omega)
      clear hvi hvl
      generalize ds.getD j VZ = d at c0 c1 c2 c3 c4 HS hpl HPL
      by_cases he : d.id = id
      · have he2 : (d.id == id) = true := by rw [he]; simp
        have HS2 : Hid (RowsO w wr u5 rs (othersN (ds.take (j + 1)) id)) := by
          rw [HS.out, if_pos he, List.append_nil]; exact HR.out
        have hne : ¬ d.id ≠ id := fun h => h he
        clear HR HPL HS c1 c2 c3 c4
        subst he
        go_wp2_with fail
        go_roundw
        case rel => exact ⟨j + 1, rs, by omega, by go_num, HS2⟩
        case measure => simp [intOf]; omega
      · have he2 : (d.id == id) = false := beq_eq_false_iff_ne.2 he
        have HS2 : Hid (othersN (ds.take (j + 1)) id = othersN (ds.take j) id ++ [plF d.files]) := by show _ = _; rw [HS.out, if_neg he]
        clear HS
        generalize plF d.files = pl at HPL HS2 hpl
        rename World => wA
        go_wp2_with fail
        refine HPL.out.mono ?_
        rintro e w2 ⟨⟨u2, rfl, ho2⟩, hb2⟩
        obtain ⟨a2, cc2, rfl, _⟩ := _root_.id ho2.at
        have HO2 : Hid (OwnInts w2 w.heap.size (.slice a2 pl.length cc2) pl) := own_le ho2 HR.out.bel.size
        have HA2 : Hid (RowsO w (w2.alloc (.cells #[.slice a2 pl.length cc2] 32)) u5 rs (othersN (ds.take j) id)) := HR.out.below (nwA hb2 _)
        have HO3 : Hid (OwnInts (w2.alloc (.cells #[.slice a2 pl.length cc2] 32)) w.heap.size (.slice a2 pl.length cc2) pl) := own_below HO2.out (nwA (nwR w2) _)
        have hsz : w.heap.size ≤ (w2.alloc (.cells #[.slice a2 pl.length cc2] 32)).heap.size := HA2.out.bel.size
        have hc3 : rs.length + 1 ≤ maxLen := by unfold maxLen; omega
        have hc4 : (rs.length + 1) * 24 ≤ 140737488355328 := by omega
        clear ho2 hb2 HPL HR c0 c1 c2 c3 c4 HO2
        go_wp2_with (at_builtin; refine wpList_append_own _ rfl (.tmp 20) (.tmp 26) 26 rfl w.heap.size 32 i0 (.slice none 0 0) 1 24 Tryz.underlying26 hi hz0 hz1 hz2 rfl (by decide) u5 rs.length (rs.map rowV) rfl HA2.out.own ⟨w2.heap.size, 0, none⟩ 1 1 [.slice a2 pl.length cc2] rfl rfl (cells_new _ [.slice a2 pl.length cc2] _) (by simp [Value.oneCell']) hc3 hc4 hsz ?_; intro v' w3 hown hgrow _; refine unstop ?_)
        unfold Stop
        have HR3 : Hid (RowsO w w3 v' (rs ++ [(a2, cc2, pl)]) (othersN (ds.take (j + 1)) id)) := by
          refine ⟨OwnRows.snoc hown, fun r hr => ?_, ?_, HA2.out.bel.grown hgrow hsz (fun q e => (World.ownsRow.lt HA2.out.own q e).1)⟩
          · rcases List.mem_append.1 hr with h | h
            · exact own_other (HA2.out.ok r h) HA2.out.own (by decide) hgrow
            · simp only [List.mem_singleton] at h
              subst h
              exact own_other HO3.out HA2.out.own (by decide) hgrow
          · rw [HS2.out, ← HA2.out.is, List.map_append]; rfl
        clear hown hgrow HA2
        go_wp2_with fail
        go_roundw
        case rel => exact ⟨j + 1, _, by omega, by go_num, HR3⟩
        case measure => simp [intOf]; omega
    · have hjli : ¬ (j : Int) < (ds.length : Int) := by omega
      have HE : Hid (RowsO w wr u5 rs (othersN ds id)) := by have := HR.out; rw [List.take_of_length_le (by omega)] at this; exact this
      clear HR
      have HAC : Hid (Calls Tryz.prog 15 #[.slice a ds.length ca, .int .i64 id] wr fun e w' => e = .returned (.int .i64 (k : Int)) ∧ wr = w') := by
        refine (atv_any a ds ca id wr (HV.out.below HE.out.bel) hl).mono ?_
        rintro e w' ⟨h1, h2⟩
        rw [HAT.out] at h1
        exact ⟨h1, h2.symm⟩
      have hkli : (k : Int) < (ds.length : Int) := by omega
      have hk0 : (0 : Int) ≤ (k : Int) := by omega
      obtain ⟨b1, o1, rfl, hvi⟩ := (HV.out.below HE.out.bel).vol hkl
      obtain ⟨af, cf, ⟨c0, c1, c2, c3, c4⟩, hvl⟩ := hvi.val
      have hfl : (ds.getD k VZ).files.length ≤ 100000 := HF.out.files _ (by simp [List.getD, hkl])
      have hpl : (plF (ds.getD k VZ).files).length ≤ 10000 := Nat.le_trans (plF_le_all (by simp [List.getD, hkl])) HF.out.all
      have HPL : Hid (Calls Tryz.prog 28 #[.agg #[.int .i64 (ds.getD k VZ).id, .int .i64 (ds.getD k VZ).fr, .bool (ds.getD k VZ).snap, .slice af (ds.getD k VZ).files.length cf, .int .i64 (ds.getD k VZ).next]] wr fun e w' => (∃ u, e = .returned u ∧ OwnInts w' wr.heap.size u (plF (ds.getD k VZ).files)) ∧ Below wr.heap.size wr w') := placesP_any _ _ wr hvl hfl (by omega)
      clear hvi hvl HAT
      generalize ds.getD k VZ = d at c0 c1 c2 c3 c4 hpl HPL HON
      generalize plF d.files = pl at HPL hpl HON
      go_wp2_with fail
      refine HAC.out.mono ?_
      rintro e w1 ⟨rfl, rfl⟩
      clear HAC
      go_wp2_with fail
      refine HPL.out.mono ?_
      rintro e w2 ⟨⟨u2, rfl, ho2⟩, hb2⟩
      obtain ⟨a2, cc2, rfl, ha2, _⟩ := ho2.at
      have HE2 : Hid (RowsO w w2 u5 rs (othersN ds id)) := HE.out.below hb2
      obtain ⟨a5, c5, rfl, ha5, _⟩ := HE2.out.at
      have HGP : Hid (Calls Tryz.prog 36 #[.slice a2 pl.length cc2, .slice a5 rs.length c5] w2 fun e w'' => (∃ u, e = .returned u ∧ OwnInts w'' w2.heap.size u (goneN pl (rs.map fun r => r.2.2))) ∧ Below w2.heap.size w2 w'') :=
        goneP_any a2 pl cc2 a5 rs c5 w2 ha2 (by omega) ha5 (by rw [HE2.out.len]; exact Nat.le_trans (othersN_len _ _) (by omega)) (fun r hr => by
          have h : r.2.2 ∈ othersN ds id := by rw [← HE2.out.is]; exact List.mem_map.2 ⟨r, hr, rfl⟩
          unfold othersN at h
          obtain ⟨d, hd, h⟩ := List.mem_map.1 h
          rw [← h]
          exact Nat.le_trans (plF_le_all (List.mem_filter.1 hd).1) (Nat.le_trans HF.out.all (by omega)))
      have HI2 : Hid (rs.map (fun r => r.2.2) = othersN ds id) := HE2.out.is
      have HB2 : Hid (Below w.heap.size w w2) := HE2.out.bel
      clear c0 c1 c2 c3 c4 ho2 hb2 ha2 ha5 HPL HE HE2
      go_wp2_with fail
      refine HGP.out.mono ?_
      rintro e w3 ⟨⟨u3, rfl, ho3⟩, hb3⟩
      have HO3 : Hid (OwnInts w3 w.heap.size u3 (onlyN ds id k)) := by
        rw [HI2.out, HON.out] at ho3
        exact own_le ho3 HB2.out.size
      have HB3 : Hid (Below w.heap.size w w3) := nwT HB2.out hb3
      clear ho3 hb3 HGP
      go_wp2_with fail
      go_ret
      exact ⟨⟨_, rfl, HO3.out⟩, HB3.out⟩

end Go.Proofs.YtbaphgdlbeaenaaGreat
