/- Laid together: Getp, Wakes, Volsp, Vbackc, Onlyk, Kindsv. -/
import Derived.Test.YtodahdnnlkcfdaaVolM14
import Derived.BigQuiet
import Derived.Deep.QuietTactic
/- A volume told, by the program. -/
namespace Go.Proofs.Ytodahdnnlkcfdaa
open Go.RowKit

def GetR (ds : List VolD) (next id : Int) (er : Int) (d : VolD) : Prop := (¬ VolsOk ds next ∧ er = 1 ∧ d = VZ) ∨ (VolsOk ds next ∧ atV ds id = none ∧ er = 3 ∧ d = VZ) ∨ ∃ k, VolsOk ds next ∧ atV ds id = some k ∧ er = 0 ∧ d = ds.getD k VZ
def GetPost (ds : List VolD) (next id : Int) (base : Nat) (e : Ending) (w' : World) : Prop := ∃ u er d, e = .returned (.tuple #[u, .int .i64 er]) ∧ OwnVol w' base u d ∧ GetR ds next id er d
theorem ownV_zero (w : World) (base : Nat) : OwnVol w base (.agg #[.int .i64 0, .int .i64 0, .bool false, .slice none 0 0, .int .i64 0]) VZ :=
  ⟨.slice none 0 0, rfl, [], rfl, World.ownsRow_nil _ _ _ _, fun g hg => by simp at hg⟩

set_option maxRecDepth 100000 in
set_option maxHeartbeats 4000000 in
theorem getp_any (a : Option Addr) (ds : List VolD) (ca : Nat) (next id : Int) (w : World) (hv : VolsAt w a ds) (hs : SmallW ds) :
    Calls Try.prog 16 #[.slice a ds.length ca, .int .i64 next, .int .i64 id] w fun e w' => GetPost ds next id w.heap.size e w' ∧ Below w.heap.size w w' := by
  have HS : Hid (SmallW ds) := hs
  obtain ⟨W0, hW0⟩ : ∃ W0, W0 = w.alloc (.cells #[.int .i64 0, .int .i64 0, .bool false, .slice none 0 0, .int .i64 0] 32) := ⟨_, rfl⟩
  have HB0 : Hid (Below w.heap.size w W0) := by rw [hW0]; exact nwA (nwR w) _
  have HR0 : Hid (W0.heap[w.heap.size]? = some (.cells #[.int .i64 0, .int .i64 0, .bool false, .slice none 0 0, .int .i64 0] 32 (0, 0))) := by rw [hW0]; exact heap_alloc_new w _
  have HV : Hid (VolsAt W0 a ds) := hv.below HB0.out
  clear hs hv
  go_enter Try.func16, Try.ntmps16
  go_wp2_with fail
  rw [← hW0]
  clear hW0
  refine (open_any a ds ca next id W0 HV.out HS.out).mono ?_
  rintro e w1 ⟨ho, hb1⟩
  have HB1 : Hid (Below w.heap.size w w1) := nwT HB0.out hb1
  have HR1 : Hid (∀ ob, (w1.alloc ob).heap[w.heap.size]? = some (.cells #[.int .i64 0, .int .i64 0, .bool false, .slice none 0 0, .int .i64 0] 32 (0, 0))) := fun ob => ((nwT hb1 (nwA (nwR w1) ob)).block _ (Array.getElem?_eq_some_iff.1 HR0.out).1).trans HR0.out
  rcases ho with ⟨hno, rfl⟩ | ⟨hok, hat, rfl⟩ | ⟨k, S, g, cap, hok, hat, rfl, hsh⟩
  · have HQ : Hid (∀ w', GetPost ds next id w.heap.size (.returned (.tuple #[.agg #[.int .i64 0, .int .i64 0, .bool false, .slice none 0 0, .int .i64 0], .int .i64 1])) w') := fun w' => ⟨_, 1, _, rfl, ownV_zero _ _, .inl ⟨hno, rfl, rfl⟩⟩
    clear hno
    obtain ⟨r0, r1, r2, r3, r4, rf⟩ := five (HR1.out (.cells #[.pointer none] 67))
    go_wp2_with fail
    obtain ⟨s0, s1, s2, s3, s4, _⟩ := five (five_set (d0 := .int .i64 0) (d1 := .int .i64 0) (d2 := .bool false) (d3 := .slice none 0 0) (d4 := .int .i64 0) (HR1.out (.cells #[.pointer none] 67)))
    refine bodyPost_ret (v := .tuple #[.agg #[.int .i64 0, .int .i64 0, .bool false, .slice none 0 0, .int .i64 0], .int .i64 1]) (by simp [results, Try.results16, go_sem, s0, s1, s2, s3, s4]) rfl ⟨HQ.out _, five_below (nwA HB1.out _) (Nat.le_refl _)⟩
  · have HQ : Hid (∀ w', GetPost ds next id w.heap.size (.returned (.tuple #[.agg #[.int .i64 0, .int .i64 0, .bool false, .slice none 0 0, .int .i64 0], .int .i64 3])) w') := fun w' => ⟨_, 3, _, rfl, ownV_zero _ _, .inr (.inl ⟨hok, hat, rfl, rfl⟩)⟩
    clear hok hat
    obtain ⟨r0, r1, r2, r3, r4, rf⟩ := five (HR1.out (.cells #[.pointer none] 67))
    go_wp2_with fail
    obtain ⟨s0, s1, s2, s3, s4, _⟩ := five (five_set (d0 := .int .i64 0) (d1 := .int .i64 0) (d2 := .bool false) (d3 := .slice none 0 0) (d4 := .int .i64 0) (HR1.out (.cells #[.pointer none] 67)))
    refine bodyPost_ret (v := .tuple #[.agg #[.int .i64 0, .int .i64 0, .bool false, .slice none 0 0, .int .i64 0], .int .i64 3]) (by simp [results, Try.results16, go_sem, s0, s1, s2, s3, s4]) rfl ⟨HQ.out _, five_below (nwA HB1.out _) (Nat.le_refl _)⟩
  · have hkl := atV_lt hat
    have HQ : Hid (∀ w' u, OwnVol w' w.heap.size u (ds.getD k VZ) → GetPost ds next id w.heap.size (.returned (.tuple #[u, .int .i64 0])) w') := fun w' u h => ⟨u, 0, _, rfl, h, .inr (.inr ⟨k, hok, hat, rfl, rfl⟩)⟩
    have HRA := HR1.out (.cells #[.pointer (some ⟨g, k * 5, none⟩)] 67)
    obtain ⟨W2, hW2⟩ : ∃ W2, W2 = w1.alloc (.cells #[.pointer (some ⟨g, k * 5, none⟩)] 67) := ⟨_, rfl⟩
    rw [← hW2] at HRA
    have HRH : Hid (W2.heap[w.heap.size]? = some (.cells #[.int .i64 0, .int .i64 0, .bool false, .slice none 0 0, .int .i64 0] 32 (0, 0))) := HRA
    have hBA : Below w1.heap.size w1 W2 := by rw [hW2]; exact nwA (nwR w1) _
    have HB2 : Hid (Below w.heap.size w W2) := nwT HB1.out hBA
    have hsh2 := hsh.below hBA
    have hlt0 := (Array.getElem?_eq_some_iff.1 HR0.out).1
    obtain ⟨gs, hgs, hrow, hall⟩ := hsh2.own
    have hgl : gs.length = ds.length := by rw [← hgs, List.length_map]
    rw [hgl] at hrow
    have hrow' : RowW W2 W0.heap.size g ds.length cap gs := hrow
    obtain ⟨x, hx⟩ : ∃ x, gs[k]? = some x := ⟨_, List.getElem?_eq_getElem (by omega)⟩
    have hxd : ds.getD k VZ = x.d := by rw [← hgs]; simp [List.getD, hx]
    obtain ⟨c0, c1, c2, c3, c4⟩ := hrow'.cellAt hx
    have hof := hall x (List.mem_of_getElem? hx)
    rw [hxd] at HQ
    obtain ⟨xd, xf⟩ := x
    simp only at c0 c1 c2 c3 c4 hof HQ
    obtain ⟨af, cf, rfl, _, _⟩ := hof.at
    have HOF : Hid (OwnFiles W2 W0.heap.size (.slice af xd.files.length cf) xd.files) := hof
    obtain ⟨r0, r1, r2, r3, r4, rf⟩ := five HRH.out
    clear hok hat hsh hsh2 hgs hrow hrow' hall hx hxd hof HRA hBA HR1 hb1
    rw [hW2] at c0 c1 c2 c3 c4 r0 r1 r2 r3 r4 rf
    go_wp2_with fail
    rw [← hW2]
    obtain ⟨s0, s1, s2, s3, s4, _⟩ := five (five_set (d0 := .int .i64 xd.id) (d1 := .int .i64 xd.fr) (d2 := .bool xd.snap) (d3 := .slice af xd.files.length cf) (d4 := .int .i64 xd.next) HRH.out)
    refine bodyPost_ret (v := .tuple #[.agg #[.int .i64 xd.id, .int .i64 xd.fr, .bool xd.snap, .slice af xd.files.length cf, .int .i64 xd.next], .int .i64 0]) (by simp [results, Try.results16, go_sem, s0, s1, s2, s3, s4]) rfl ⟨HQ.out _ _ ⟨_, rfl, ?_⟩, five_below HB2.out (Nat.le_refl _)⟩
    exact (((((HOF.out.set 0 hlt0 _).set 1 hlt0 _).set 2 hlt0 _).set 3 hlt0 _).set 4 hlt0 _).le HB0.out.size

end Go.Proofs.Ytodahdnnlkcfdaa

/- A snapshot of a new volume: what each law asks at its end. -/
namespace Go.Proofs.Ytodahdnnlkcfdaa
open Go.RowKit

theorem VolVal.one {w : World} {d : VolD} {av : Option Addr} {c : Nat} (h : VolVal w (.agg #[.int .i64 d.id, .int .i64 d.fr, .bool d.snap, .slice av d.files.length c, .int .i64 d.next]) d) : VolsAt (w.alloc (.cells #[.int .i64 d.id, .int .i64 d.fr, .bool d.snap, .slice av d.files.length c, .int .i64 d.next] 32)) (some ⟨w.heap.size, 0, none⟩) [d] := by
  obtain ⟨a', c', e, hf, hc⟩ := h
  simp only [Value.agg.injEq, Array.mk.injEq, List.cons.injEq, Value.slice.injEq, true_and, and_true] at e
  obtain ⟨rfl, rfl⟩ := e
  refine .inr ⟨w.heap.size, 0, rfl, fun i hi => ?_⟩
  have : i = 0 := by simpa using hi
  subst this
  exact ⟨av, c, ⟨by simp, by simp, by simp, by simp, by simp⟩, hf.below (nwA (nwR w) _), hc⟩
theorem OwnVol.lit {w : World} {base : Nat} {v : Value} {d : VolD} (h : OwnVol w base v d) : ∃ fa fc, v = .agg #[.int .i64 d.id, .int .i64 d.fr, .bool d.snap, .slice fa d.files.length fc, .int .i64 d.next] ∧ VolVal w (.agg #[.int .i64 d.id, .int .i64 d.fr, .bool d.snap, .slice fa d.files.length fc, .int .i64 d.next]) d := by
  have hv := h.val
  obtain ⟨fv, rfl, hfv⟩ := h
  obtain ⟨fa, fc, rfl, _, _⟩ := hfv.at
  exact ⟨fa, fc, rfl, hv⟩
def nwD : VolD := ⟨1, 0, false, [⟨1, true, 0, [], []⟩], 2⟩
theorem nw_ok : VolOk nwD := by
  refine ⟨by unfold NumOk; decide +kernel, ⟨by unfold HeadOk; decide +kernel, fun k hk => ?_⟩, ⟨fun f hf l hl => ?_, fun k hk => ?_⟩, fun i hi => ?_, by decide +kernel⟩
  · have : k = 0 := by simp [nwD] at hk; omega
    subst this
    refine ⟨by unfold IdOk; decide +kernel, ?_⟩
    unfold NodeOk
    exact ⟨by decide +kernel, by decide +kernel, by decide +kernel, fun k hk => by simp [nwD, List.getD] at hk⟩
  · simp [nwD] at hf; subst hf; simp at hl
  · have : k = 0 := by simp [nwD] at hk; omega
    subst this
    exact ⟨fun _ => by decide +kernel, fun h => absurd (by decide +kernel) h⟩
  · have : i = 0 := by simp [nwD] at hi; omega
    subst this; exact .root
theorem nws_ok : VolsOk [nwD] 2 := by
  refine ⟨⟨by simp, by omega, by omega⟩, fun k hk => ?_⟩
  have : k = 0 := by simpa using hk
  subst this
  exact ⟨nw_ok, ⟨by decide +kernel, by decide +kernel⟩, fun h => absurd h (by decide +kernel)⟩
theorem nws_small : SmallW [nwD] := ⟨by simp, fun d hd => by
  simp at hd; subst hd
  exact ⟨by simp [nwD], fun f hf => by simp [nwD] at hf; subst hf; exact ⟨by simp, by simp⟩⟩⟩
def nsD : VolD := ⟨2, 1, true, [⟨1, true, 0, [], []⟩], 2⟩
theorem nws_snap : snpF [nwD] 2 1 false = (0, [nwD, nsD]) := by decide +kernel
theorem errnum_any (er : Int) (w : World) : Calls Try.prog 15 #[.int .i64 er] w fun e w' => e = .returned (.int .i64 er) ∧ w' = w := by
  go_enter Try.func15, Try.ntmps15
  go_wp2_with fail
  go_ret
  exact ⟨rfl, rfl⟩

set_option maxRecDepth 100000 in
set_option maxHeartbeats 4000000 in
theorem wakes_any (w : World) : Calls Try.prog 12 #[] w fun e w' => e = .returned (.bool true) ∧ Below w.heap.size w w' := by
  go_enter Try.func12, Try.ntmps12
  go_wp2_with fail
  refine (new_any 1 w).mono ?_
  rintro e w1 ⟨⟨u, rfl, hu⟩, hb1⟩
  obtain ⟨fa, fc, rfl, hval⟩ := hu.lit
  have HSN : Hid (Calls Try.prog 14 #[.slice (some ⟨w1.heap.size, 0, none⟩) 1 1, .int .i64 2, .int .i64 1] (w1.alloc (.cells #[.int .i64 1, .int .i64 0, .bool false, .slice fa 1 fc, .int .i64 2] 32)) fun e w' => (∃ u, e = .returned (.tuple #[u, .int .i64 3, .int .i64 0]) ∧ OwnVols w' (w1.alloc (.cells #[.int .i64 1, .int .i64 0, .bool false, .slice fa 1 fc, .int .i64 2] 32)).heap.size u [nwD, nsD]) ∧ Below (w1.alloc (.cells #[.int .i64 1, .int .i64 0, .bool false, .slice fa 1 fc, .int .i64 2] 32)).heap.size (w1.alloc (.cells #[.int .i64 1, .int .i64 0, .bool false, .slice fa 1 fc, .int .i64 2] 32)) w') := by
    refine (snapp_any _ [nwD] 1 2 1 _ (VolVal.one (d := nwD) hval) nws_small).mono ?_
    rintro e w' ⟨⟨u, n, er, dd, rfl, h1, h2, rfl⟩, hb⟩
    rcases h2 with ⟨_, h2⟩ | ⟨h2, _⟩
    · rw [nws_snap] at h2
      injection h2 with h2 h3
      subst h2; subst h3
      exact ⟨⟨u, rfl, h1⟩, hb⟩
    · exact absurd nws_ok h2
  have HB2 : Hid (Below w.heap.size w (w1.alloc (.cells #[.int .i64 1, .int .i64 0, .bool false, .slice fa 1 fc, .int .i64 2] 32))) := nwA hb1 _
  clear hval hu hb1
  go_wp2_with fail
  generalize w1.alloc (.cells #[.int .i64 1, .int .i64 0, .bool false, .slice fa 1 fc, .int .i64 2] 32) = W2 at HSN HB2 ⊢
  refine HSN.out.mono ?_
  rintro e w3 ⟨⟨u3, rfl, ho3⟩, hb3⟩
  obtain ⟨a3, c3, rfl, ha3, _⟩ := ho3.at
  obtain ⟨b1, o1, rfl, _, _, ⟨_, t1, t2, _, _⟩, _⟩ := ha3.vol (i := 1) (by simp)
  have s1 : w3.cell? ⟨b1, o1 + 5 + 1, none⟩ = some (.int .i64 1) := t1
  have s2 : w3.cell? ⟨b1, o1 + 5 + 2, none⟩ = some (.bool true) := t2
  have HB3 : Hid (Below w.heap.size w w3) := nwT HB2.out hb3
  clear ho3 ha3 hb3 t1 t2 HSN
  go_wp2_with (go_at_call 15; refine (errnum_any _ _).mono ?_; rintro e w' ⟨rfl, rfl⟩)
  go_ret
  exact ⟨by simp, HB3.out⟩

end Go.Proofs.Ytodahdnnlkcfdaa

/- Whether volumes may be, by the page. -/
namespace Go.Proofs.Ytodahdnnlkcfdaa
open Go.RowKit

theorem vol_any (v : Value) (d : VolD) (w : World) (hv : VolVal w v d) (hs : SmallV d) :
    Calls Try.prog 38 #[v] w fun e w' => SaysB e (VolOk d) ∧ Below w.heap.size w w' := by
  by_cases h : HeadR d
  · exact vol_rest v d w hv hs h
  · exact vol_head v d w hv h
/-- what the page asks of a volume by itself -/
def NearW (ds : List VolD) (next : Int) (k : Nat) : Prop := VolOk (ds.getD k VZ) ∧ 1 ≤ (ds.getD k VZ).id ∧ (ds.getD k VZ).id < next ∧ (0 < k → (ds.getD (k - 1) VZ).id < (ds.getD k VZ).id)
theorem near_each {ds : List VolD} {next : Int} {k : Nat} (h : ∀ j, j < k → EachW ds next j) : EachW ds next k ↔ (NearW ds next k ∧ RootW ds (ds.getD k VZ)) := by
  unfold EachW NearW lastV
  by_cases h0 : k = 0
  · subst h0
    simp only [if_pos]
    constructor
    · rintro ⟨a, ⟨b, c⟩, r⟩; exact ⟨⟨a, by omega, c, fun h => by omega⟩, r⟩
    · rintro ⟨⟨a, b, c, _⟩, r⟩; exact ⟨a, ⟨by omega, c⟩, r⟩
  · simp only [if_neg h0]
    have hp : ∀ j, j < k → 1 ≤ (ds.getD j VZ).id := by
      intro j
      induction j with
      | zero => intro hj; have := (h 0 hj).2.1.1; unfold lastV at this; rw [if_pos rfl] at this; omega
      | succ j ih =>
        intro hj
        have h1 := ih (by omega)
        have h2 := (h (j + 1) hj).2.1.1
        unfold lastV at h2
        rw [if_neg (by omega)] at h2
        simp only [Nat.add_sub_cancel] at h2
        omega
    have h1 := hp (k - 1) (by omega)
    constructor
    · rintro ⟨a, ⟨b, c⟩, r⟩; exact ⟨⟨a, by omega, c, fun _ => b⟩, r⟩
    · rintro ⟨⟨a, b, c, d⟩, r⟩; exact ⟨a, ⟨d (by omega), c⟩, r⟩

set_option maxRecDepth 100000 in
set_option maxHeartbeats 4000000 in
theorem rvols_any (a : Option Addr) (ds : List VolD) (ca : Nat) (next : Int) (w : World) (hv : VolsAt w a ds) (hs : SmallW ds) :
    Calls Try.prog 13 #[.slice a ds.length ca, .int .i64 next] w fun e w' => SaysB e (VolsOk ds next) ∧ Below w.heap.size w w' := by
  have HV : Hid (VolsAt w a ds) := hv
  have HS : Hid (SmallW ds) := hs
  have hl := hs.1
  clear hv hs
  obtain ⟨bt, hbt⟩ : ∃ bt, betB next 1 1073741824 = bt := ⟨_, rfl⟩
  have HBT : Hid (bt = true ↔ (1 ≤ next ∧ next ≤ 1073741824)) := by show _ ↔ _; rw [← hbt]; unfold betB; simp
  have HBC : Hid (Calls Try.prog 37 #[.int .i64 next, .int .i64 1, .int .i64 1073741824] w fun e w'' => e = .returned (.bool bt) ∧ w = w'') := (between_any next 1 1073741824 w).mono fun e w'' ⟨h1, h2⟩ => ⟨by rw [h1, hbt], h2.symm⟩
  clear hbt
  by_cases h1 : (4 : Int) < (ds.length : Int)
  case pos =>
    have HN : Hid (¬ VolsOk ds next) := fun h => by have := h.1.1; omega
    clear HBC
    go_enter Try.func13, Try.ntmps13
    go_wp2_with fail
    go_ret
    exact ⟨says_no HN.out, nwR w⟩
  case neg =>
  cases bt
  case false =>
    have HN : Hid (¬ VolsOk ds next) := fun h => by have := HBT.out.2 h.1.2; cases this
    go_enter Try.func13, Try.ntmps13
    go_wp2_with (first | (go_at_call 37; refine HBC.out.mono ?_; rintro e w' ⟨rfl, rfl⟩) | fail)
    go_ret
    exact ⟨says_no HN.out, nwR w⟩
  case true =>
  have HH : Hid (ds.length ≤ 4 ∧ 1 ≤ next ∧ next ≤ 1073741824) := ⟨by omega, HBT.out.1 rfl⟩
  go_enter Try.func13, Try.ntmps13
  go_wp2_with (first | (go_at_call 37; refine HBC.out.mono ?_; rintro e w' ⟨rfl, rfl⟩) | fail)
  clear HBC HBT
  go_loopw [5] (fun i wr => ∃ (k : Nat), k ≤ ds.length ∧ i = .int .i64 k ∧ Below w.heap.size w wr ∧ Hid (∀ j, j < k → EachW ds next j))
    (fun i _ => ds.length - (intOf i).toNat)
  case atStart => exact ⟨0, by omega, rfl, nwR w, fun j hj => by omega⟩
  case round =>
    obtain ⟨k, hk, rfl, hb, HE⟩ := hrel
    by_cases hlt : k < ds.length
    case neg =>
      have hlti : ¬ (k : Int) < (ds.length : Int) := by omega
      have HY : Hid (VolsOk ds next) := ⟨HH.out, fun j hj => HE.out j (by omega)⟩
      go_wp2_with fail
      go_ret
      exact ⟨⟨true, rfl, by simp; exact HY.out⟩, hb⟩
    case pos =>
    have hlti : (k : Int) < (ds.length : Int) := by omega
    have hk0 : (0 : Int) ≤ (k : Int) := by omega
    obtain ⟨b1, o1, rfl, hvi⟩ := HV.out.vol hlt
    obtain ⟨af, cf, ⟨c0, c1, c2, c3, c4⟩, hval⟩ := (hvi.below hb).val
    have HPV : Hid (0 < k → wr.cell? ⟨b1, o1 + (k - 1) * 5, none⟩ = some (.int .i64 (ds.getD (k - 1) VZ).id)) := fun h0 => by
      obtain ⟨b2, o2, e, hvi2⟩ := HV.out.vol (show k - 1 < ds.length by omega)
      injection e with e
      injection e with e1 e2
      subst e1; subst e2
      obtain ⟨_, _, ⟨p0, _⟩, _⟩ := (hvi2.below hb).val
      exact p0
    have HSM : Hid (SmallV (ds.getD k VZ)) := HS.out.2 _ (by simp [List.getD, hlt])
    have HEK : Hid (EachW ds next k ↔ (NearW ds next k ∧ RootW ds (ds.getD k VZ))) := near_each HE.out
    have HNK : Hid (NearW ds next k ↔ (VolOk (ds.getD k VZ) ∧ 1 ≤ (ds.getD k VZ).id ∧ (ds.getD k VZ).id < next ∧ (0 < k → (ds.getD (k - 1) VZ).id < (ds.getD k VZ).id))) := Iff.rfl
    have HRO : Hid (RootW ds (ds.getD k VZ) ↔ ((ds.getD k VZ).snap = true → ∃ j, atV ds (ds.getD k VZ).fr = some j ∧ (ds.getD j VZ).snap = false)) := Iff.rfl
    generalize ds.getD k VZ = d at c0 c1 c2 c3 c4 hval HSM HEK HNK HRO
    generalize (ds.getD (k - 1) VZ).id = pid at HPV HNK
    have HVA : Hid (VolVal wr (.agg #[.int .i64 d.id, .int .i64 d.fr, .bool d.snap, .slice af d.files.length cf, .int .i64 d.next]) d) := hval
    clear hval hvi
    obtain ⟨b3, hb3⟩ := bool_of (VolOk d)
    have HVC : Hid (∀ p : Kin wr, Calls Try.prog 38 #[.agg #[.int .i64 d.id, .int .i64 d.fr, .bool d.snap, .slice af d.files.length cf, .int .i64 d.next]] p.u fun e w' => e = .returned (.bool b3) ∧ Below p.u.heap.size p.u w') := fun p =>
      (vol_any _ d p.u (HVA.out.below p.h) HSM.out).mono fun e w' ⟨⟨b, h1, h2⟩, h3⟩ => ⟨by rw [h1, show b = b3 from by rw [Bool.eq_iff_iff, h2, hb3]], h3⟩
    obtain ⟨bad, hbad⟩ : ∃ b : Bool, b = (!b3 || decide (d.id < 1) || decide (next ≤ d.id) || (decide (0 < k) && decide (d.id ≤ pid))) := ⟨_, rfl⟩
    have HBAD : Hid (bad = (!b3 || decide (d.id < 1) || decide (next ≤ d.id) || (decide (0 < k) && decide (d.id ≤ pid)))) := hbad
    have HEB : Hid (bad = false ↔ NearW ds next k) := by
      show _ ↔ _
      rw [HNK.out, ← hb3, hbad]
      cases b3
      · simp
      · simp only [Bool.not_true, Bool.false_or, Bool.or_eq_false_iff, Bool.and_eq_false_iff, decide_eq_false_iff_not, true_and]
        constructor
        · rintro ⟨⟨x, y⟩, z⟩; exact ⟨by omega, by omega, fun h => by rcases z with z | z <;> omega⟩
        · rintro ⟨x, y, z⟩
          refine ⟨⟨by omega, by omega⟩, ?_⟩
          by_cases h0 : 0 < k
          · right; have := z h0; omega
          · left; exact h0
    clear hbad hb3
    go_upto_region 6 with fail
    go_cut [61] from 15 to 82 (fun s61 wx => s61 = .bool bad ∧ Below wr.heap.size wr wx)
    case first =>
      have z0 : ∀ p : Kin wr, p.u.cell? ⟨b1, o1 + k * 5, none⟩ = some (.int .i64 d.id) := fun p => kcell c0 p
      have z1 : ∀ p : Kin wr, p.u.cell? ⟨b1, o1 + k * 5 + 1, none⟩ = some (.int .i64 d.fr) := fun p => kcell c1 p
      have z2 : ∀ p : Kin wr, p.u.cell? ⟨b1, o1 + k * 5 + 2, none⟩ = some (.bool d.snap) := fun p => kcell c2 p
      have z3 : ∀ p : Kin wr, p.u.cell? ⟨b1, o1 + k * 5 + 3, none⟩ = some (.slice af d.files.length cf) := fun p => kcell c3 p
      have z4 : ∀ p : Kin wr, p.u.cell? ⟨b1, o1 + k * 5 + 4, none⟩ = some (.int .i64 d.next) := fun p => kcell c4 p
      clear c0 c1 c2 c3 c4
      cases b3
      · have HBD : Hid (bad = true) := by show _ = _; rw [HBAD.out]; rfl
        refine wp_region_kin (by kernel_rfl) (by kernel_rfl) ?_
        repeat (first | go_big_quiet_step (first | (go_at_call 38; exact Calls.kin_of (HVC.out _)) | fail) | quiet_step (first | (go_at_call 38; exact Calls.kin_of (HVC.out _)) | fail))
        refine wpQuiet_nil ?_
        intro _ hw'
        obtain ⟨pq, hw''⟩ := hw'
        subst hw''
        go_wp2_with fail
        go_meet
        exact ⟨by rw [HBD.out], pq.h⟩
      · by_cases ha : d.id < 1
        · have ha1 : decide (d.id < 1) = true := decide_eq_true ha
          have HBD : Hid (bad = true) := by show _ = _; rw [HBAD.out, ha1]; rfl
          refine wp_region_kin (by kernel_rfl) (by kernel_rfl) ?_
          repeat (first | go_big_quiet_step (first | (go_at_call 38; exact Calls.kin_of (HVC.out _)) | fail) | quiet_step (first | (go_at_call 38; exact Calls.kin_of (HVC.out _)) | fail))
          refine wpQuiet_nil ?_
          intro _ hw'
          obtain ⟨pq, hw''⟩ := hw'
          subst hw''
          go_wp2_with fail
          go_meet
          exact ⟨by rw [HBD.out], pq.h⟩
        · have ha1 : decide (d.id < 1) = false := decide_eq_false ha
          by_cases hc : next ≤ d.id
          · have hc1 : decide (next ≤ d.id) = true := decide_eq_true hc
            have HBD : Hid (bad = true) := by show _ = _; rw [HBAD.out, ha1, hc1]; rfl
            refine wp_region_kin (by kernel_rfl) (by kernel_rfl) ?_
            repeat (first | go_big_quiet_step (first | (go_at_call 38; exact Calls.kin_of (HVC.out _)) | fail) | quiet_step (first | (go_at_call 38; exact Calls.kin_of (HVC.out _)) | fail))
            refine wpQuiet_nil ?_
            intro _ hw'
            obtain ⟨pq, hw''⟩ := hw'
            subst hw''
            go_wp2_with fail
            go_meet
            exact ⟨by rw [HBD.out], pq.h⟩
          · have hc1 : decide (next ≤ d.id) = false := decide_eq_false hc
            have HBA2 : Hid (bad = (decide (0 < k) && decide (d.id ≤ pid))) := by show _ = _; rw [HBAD.out, ha1, hc1]; rfl
            by_cases h0 : 0 < k
            · have hk1 : decide (0 < k) = true := decide_eq_true h0
              have hk1i : decide ((0 : Int) < (k : Int)) = true := decide_eq_true (by omega)
              have p0 := HPV.out h0
              have z5 : ∀ p : Kin wr, p.u.cell? ⟨b1, o1 + (k - 1) * 5, none⟩ = some (.int .i64 pid) := fun p => kcell p0 p
              have e1 : IntKind.i64.wrap ((k : Int) - 1) = ((k - 1 : Nat) : Int) := by rw [wrap_any (by omega) (by omega)]; omega
              have e2 : ((k - 1 : Nat) : Int) < (ds.length : Int) := by omega
              have e3 : (0 : Int) ≤ ((k - 1 : Nat) : Int) := by omega
              clear p0
              generalize k - 1 = m at z5 e1 e2 e3
              by_cases hp : d.id ≤ pid
              · have hp1 : decide (d.id ≤ pid) = true := decide_eq_true hp
                have HBD : Hid (bad = true) := by show _ = _; rw [HBA2.out, hk1, hp1]; rfl
                refine wp_region_kin (by kernel_rfl) (by kernel_rfl) ?_
                repeat (first | go_big_quiet_step (first | (go_at_call 38; exact Calls.kin_of (HVC.out _)) | fail) | quiet_step (first | (go_at_call 38; exact Calls.kin_of (HVC.out _)) | fail))
                refine wpQuiet_nil ?_
                intro _ hw'
                obtain ⟨pq, hw''⟩ := hw'
                subst hw''
                go_wp2_with fail
                go_meet
                exact ⟨by rw [HBD.out], pq.h⟩
              · have hp1 : decide (d.id ≤ pid) = false := decide_eq_false hp
                have HBD : Hid (bad = false) := by show _ = _; rw [HBA2.out, hk1, hp1]; rfl
                refine wp_region_kin (by kernel_rfl) (by kernel_rfl) ?_
                repeat (first | go_big_quiet_step (first | (go_at_call 38; exact Calls.kin_of (HVC.out _)) | fail) | quiet_step (first | (go_at_call 38; exact Calls.kin_of (HVC.out _)) | fail))
                refine wpQuiet_nil ?_
                intro _ hw'
                obtain ⟨pq, hw''⟩ := hw'
                subst hw''
                go_wp2_with fail
                go_meet
                exact ⟨by rw [HBD.out], pq.h⟩
            · have hk1 : decide (0 < k) = false := decide_eq_false h0
              have hk1i : decide ((0 : Int) < (k : Int)) = false := decide_eq_false (by omega)
              have HBD : Hid (bad = false) := by show _ = _; rw [HBA2.out, hk1]; rfl
              refine wp_region_kin (by kernel_rfl) (by kernel_rfl) ?_
              repeat (first | go_big_quiet_step (first | (go_at_call 38; exact Calls.kin_of (HVC.out _)) | fail) | quiet_step (first | (go_at_call 38; exact Calls.kin_of (HVC.out _)) | fail))
              refine wpQuiet_nil ?_
              intro _ hw'
              obtain ⟨pq, hw''⟩ := hw'
              subst hw''
              go_wp2_with fail
              go_meet
              exact ⟨by rw [HBD.out], pq.h⟩
    case rest =>
    obtain ⟨rfl, hbc⟩ := hcut
    rename World => wc
    have hbW := nwT hb hbc
    have HVC2 : Hid (VolsAt wc (some ⟨b1, o1, none⟩) ds) := HV.out.below hbW
    have d2 := (hbc.cell (p := ⟨b1, o1 + k * 5 + 2, none⟩) (block_lt_of_cell c2)).trans c2
    have d1 := (hbc.cell (p := ⟨b1, o1 + k * 5 + 1, none⟩) (block_lt_of_cell c1)).trans c1
    clear c0 c1 c2 c3 c4 hbc HVC HPV
    cases bad
    case true =>
      have HN : Hid (¬ VolsOk ds next) := fun h => by have := HEB.out.2 (HEK.out.1 (h.2 k hlt)).1; cases this
      go_wp2_with fail
      go_ret
      exact ⟨says_no HN.out, hbW⟩
    case false =>
    have HNE : Hid (RootW ds d → EachW ds next k) := fun h => HEK.out.2 ⟨HEB.out.1 rfl, h⟩
    have HNO : Hid (¬ RootW ds d → ¬ VolsOk ds next) := fun hn h => hn (HEK.out.1 (h.2 k hlt)).2
    have HNX : Hid (EachW ds next k → ∀ j, j < k + 1 → EachW ds next j) := fun h j hj => by
      by_cases e : j = k
      · subst e; exact h
      · exact HE.out j (by omega)
    clear HEB HEK HNK HBAD
    cases hsn : d.snap
    case false =>
      have HY : Hid (∀ j, j < k + 1 → EachW ds next j) := HNX.out (HNE.out (fun h => by rw [hsn] at h; cases h))
      rw [hsn] at d2
      clear hsn
      go_wp2_with fail
      go_roundw
      case rel => exact ⟨k + 1, by omega, by go_num, hbW, HY⟩
      case measure => simp [intOf]; omega
    case true =>
    have HR2 : Hid (RootW ds d ↔ ∃ j, atV ds d.fr = some j ∧ (ds.getD j VZ).snap = false) := by show _ ↔ _; rw [HRO.out, hsn]; simp
    rw [hsn] at d2
    clear hsn HRO
    have HAT : Hid (Calls Try.prog 32 #[.slice (some ⟨b1, o1, none⟩) ds.length ca, .int .i64 d.fr] wc fun e w' => e = .returned (.int .i64 (optI (atV ds d.fr))) ∧ wc = w') := (atv_any _ ds ca d.fr wc HVC2.out hl).mono fun _ _ h => ⟨h.1, h.2.symm⟩
    go_wp2_with fail
    refine HAT.out.mono ?_
    rintro e w' ⟨rfl, rfl⟩
    clear HAT
    cases hat : atV ds d.fr with
    | none =>
      have HN : Hid (¬ VolsOk ds next) := HNO.out (fun h => by obtain ⟨j, h1, _⟩ := HR2.out.1 h; rw [hat] at h1; cases h1)
      simp only [optI]
      clear hat
      go_wp2_with fail
      go_ret
      exact ⟨says_no HN.out, hbW⟩
    | some j =>
      have hjl := atV_lt hat
      obtain ⟨b2, o2, e, _, _, ⟨_, _, q2, _, _⟩, _⟩ := HVC2.out.vol hjl
      injection e with e
      injection e with e1 e2
      subst e1; subst e2
      simp only [optI]
      have hj0 : ¬ (j : Int) < 0 := by omega
      have hj1 : (0 : Int) ≤ (j : Int) := by omega
      have hj2 : (j : Int) < (ds.length : Int) := by omega
      have HRJ : Hid (RootW ds d ↔ (ds.getD j VZ).snap = false) := by
        show _ ↔ _
        rw [HR2.out]
        constructor
        · rintro ⟨i, h1, h2⟩; rw [hat] at h1; injection h1 with h1; subst h1; exact h2
        · intro h; exact ⟨j, hat, h⟩
      generalize (ds.getD j VZ).snap = s at q2 HRJ
      clear hat HR2
      cases s
      · have HY : Hid (∀ j, j < k + 1 → EachW ds next j) := HNX.out (HNE.out (HRJ.out.2 rfl))
        go_wp2_with fail
        go_roundw
        case rel => exact ⟨k + 1, by omega, by go_num, hbW, HY⟩
        case measure => simp [intOf]; omega
      · have HN : Hid (¬ VolsOk ds next) := HNO.out (fun h => by have := HRJ.out.1 h; cases this)
        go_wp2_with fail
        go_ret
        exact ⟨says_no HN.out, hbW⟩

end Go.Proofs.Ytodahdnnlkcfdaa

/- The page's calls where the volumes may be: what each tells. -/
namespace Go.Proofs.Ytodahdnnlkcfdaa
open Go.RowKit

def LawOk (F : Nat) : Prop := ∀ (v : Value) (ds : List VolD) (next : Int) (l : List ActD) (w : World), ScrVal w v ds next l → LooseW ds → LooseA l → Calls Try.prog F #[v] w fun e w' => e = .returned (.bool true) ∧ Below w.heap.size w w'
theorem get_is (a : Option Addr) (ds : List VolD) (ca : Nat) (next id : Int) (w : World) (hv : VolsAt w a ds) (hs : SmallW ds) (hok : VolsOk ds next) {k : Nat} (hat : atV ds id = some k) (d : VolD) (hd : ds.getD k VZ = d) :
    Calls Try.prog 16 #[.slice a ds.length ca, .int .i64 next, .int .i64 id] w fun e w' => (∃ fa fc, e = .returned (.tuple #[.agg #[.int .i64 d.id, .int .i64 d.fr, .bool d.snap, .slice fa d.files.length fc, .int .i64 d.next], .int .i64 0]) ∧ VolVal w' (.agg #[.int .i64 d.id, .int .i64 d.fr, .bool d.snap, .slice fa d.files.length fc, .int .i64 d.next]) d) ∧ Below w.heap.size w w' := by
  refine (getp_any a ds ca next id w hv hs).mono ?_
  rintro e w' ⟨⟨u, er, d', rfl, hu, h⟩, hb⟩
  rcases h with ⟨h, _⟩ | ⟨_, h, _⟩ | ⟨j, _, h, rfl, rfl⟩
  · exact absurd hok h
  · rw [hat] at h; cases h
  · rw [hat] at h; injection h with h; subst h; rw [hd] at hu
    obtain ⟨fa, fc, rfl, hv⟩ := hu.lit
    exact ⟨⟨fa, fc, rfl, hv⟩, hb⟩
theorem back_is (a : Option Addr) (ds : List VolD) (ca : Nat) (next id : Int) (w : World) (hv : VolsAt w a ds) (hs : SmallW ds) (hok : VolsOk ds next) {er : Int} {dd : List VolD} (h : bakF ds id = (er, dd)) :
    Calls Try.prog 17 #[.slice a ds.length ca, .int .i64 next, .int .i64 id] w fun e w' => (∃ u, e = .returned (.tuple #[u, .int .i64 er]) ∧ OwnVols w' w.heap.size u dd) ∧ Below w.heap.size w w' := by
  refine (backp_any a ds ca next id w hv hs).mono ?_
  rintro e w' ⟨⟨u, er', dd', rfl, h1, h2⟩, hb⟩
  rcases h2 with ⟨_, h2⟩ | ⟨h2, _⟩
  · rw [h] at h2; injection h2 with h2 h3; subst h2; subst h3; exact ⟨⟨u, rfl, h1⟩, hb⟩
  · exact absurd hok h2
theorem drop_is (a : Option Addr) (ds : List VolD) (ca : Nat) (next id : Int) (w : World) (hv : VolsAt w a ds) (hs : SmallW ds) (hok : VolsOk ds next) {er : Int} {dd : List VolD} (h : drpF ds id = (er, dd)) :
    Calls Try.prog 22 #[.slice a ds.length ca, .int .i64 next, .int .i64 id] w fun e w' => (∃ u, e = .returned (.tuple #[u, .int .i64 er]) ∧ OwnVols w' w.heap.size u dd) ∧ Below w.heap.size w w' := by
  refine (dropp_any a ds ca next id w hv hs).mono ?_
  rintro e w' ⟨⟨u, er', dd', rfl, h1, h2⟩, hb⟩
  rcases h2 with ⟨_, h2⟩ | ⟨h2, _⟩
  · rw [h] at h2; injection h2 with h2 h3; subst h2; subst h3; exact ⟨⟨u, rfl, h1⟩, hb⟩
  · exact absurd hok h2
theorem VolVal.files {w : World} {x y z : Int} {b : Bool} {n : Nat} {a : Option Addr} {c : Nat} {d : VolD} (h : VolVal w (.agg #[.int .i64 x, .int .i64 y, .bool b, .slice a n c, .int .i64 z]) d) : FilesAt w a d.files := by
  obtain ⟨a', c', e, hf, hc⟩ := h
  simp only [Value.agg.injEq, Array.mk.injEq, List.cons.injEq, Value.slice.injEq] at e
  obtain ⟨_, _, _, ⟨rfl, _⟩, _⟩ := e
  exact hf

end Go.Proofs.Ytodahdnnlkcfdaa

/- Acts of given kinds: the law on them, where the law stands for any. -/
namespace Go.Proofs.Ytodahdnnlkcfdaa
open Go.RowKit

/-- the same, the files read in a world before -/
def MixB (w0 w : World) (base : Nat) (v : Value) (ls : List ActD) : Prop := ∃ gs : List AV, gs.map AV.d = ls ∧ w.ownsRow base 34 7 v gs.length (aflat gs) ∧ ∀ x ∈ gs, ReadA w0 x
theorem MixB.mixA {w0 w : World} {base : Nat} {v : Value} {ls : List ActD} (h : MixB w0 w base v ls) (hb : Below w0.heap.size w0 w) : MixA w base v ls := by
  obtain ⟨gs, e, ho, hg⟩ := h
  exact ⟨gs, e, ho, fun x hx => (hg x hx).below hb⟩
theorem MixB.below {w0 w w' : World} {base : Nat} {v : Value} {ls : List ActD} (h : MixB w0 w base v ls) (hb : Below w.heap.size w w') : MixB w0 w' base v ls := by
  obtain ⟨gs, e, ho, hg⟩ := h
  exact ⟨gs, e, own_below ho hb, hg⟩
theorem MixB.set {w0 w : World} {base : Nat} {v : Value} {ls : List ActD} (h : MixB w0 w base v ls) {g : Nat} (o : Nat) (hg : g < base) (u : Value) : MixB w0 (w.setCell ⟨g, o, none⟩ u) base v ls := by
  obtain ⟨gs, e, ho, ha⟩ := h
  exact ⟨gs, e, rowset ho o hg u, ha⟩
theorem MixB.snoc {w0 w : World} {base : Nat} {v : Value} {gs : List AV} {g : AV} (hg : ∀ x ∈ gs, ReadA w0 x) (h1 : ReadA w0 g)
    (h : w.ownsRow base 34 7 v (gs.length + 1) (aflat gs ++ [.int .i64 g.d.act, .int .i64 g.d.id, .int .i64 g.d.v.id, .int .i64 g.d.v.fr, .bool g.d.v.snap, g.fv, .int .i64 g.d.v.next])) : MixB w0 w base v (gs.map AV.d ++ [g.d]) := by
  refine ⟨gs ++ [g], by simp, ?_, ?_⟩
  · rw [aflat_snoc, List.length_append]; exact h
  · intro x hx
    rcases List.mem_append.1 hx with h2 | h2
    · exact hg x h2
    · simp at h2; subst h2; exact h1
theorem MixA.below {w w' : World} {base : Nat} {v : Value} {ls : List ActD} (h : MixA w base v ls) (hb : Below w.heap.size w w') : MixA w' base v ls := by
  obtain ⟨gs, e, ho, hg⟩ := h
  exact ⟨gs, e, own_below ho hb, fun x hx => (hg x hx).below hb⟩
theorem tmodL (k n : Nat) : Int.tmod (k : Int) (n : Int) = ((k % n : Nat) : Int) := by rw [Int.tmod_eq_emod_of_nonneg (by omega)]; omega
theorem tri_set {w : World} {g : Nat} {c0 c1 c2 u : Value} {t : TypeId} (h : w.heap[g]? = some (.cells #[c0, c1, c2] t (0, 0))) : (w.setCell ⟨g, 2, none⟩ u).heap[g]? = some (.cells #[c0, c1, u] t (0, 0)) :=
  heap_setCell_same w g 2 _ t u h
theorem seven {w : World} {g : Nat} {c0 c1 c2 c3 c4 c5 c6 : Value} {t : TypeId} (h : w.heap[g]? = some (.cells #[c0, c1, c2, c3, c4, c5, c6] t (0, 0))) :
    w.cell? ⟨g, 0, none⟩ = some c0 ∧ w.cell? ⟨g, 1, none⟩ = some c1 ∧ w.cell? ⟨g, 2, none⟩ = some c2 ∧ w.cell? ⟨g, 3, none⟩ = some c3 ∧ w.cell? ⟨g, 4, none⟩ = some c4 ∧ w.cell? ⟨g, 5, none⟩ = some c5 ∧ w.cell? ⟨g, 6, none⟩ = some c6 :=
  ⟨by rw [Lib.cell_of_heap h]; rfl, by rw [Lib.cell_of_heap h]; rfl, by rw [Lib.cell_of_heap h]; rfl, by rw [Lib.cell_of_heap h]; rfl, by rw [Lib.cell_of_heap h]; rfl, by rw [Lib.cell_of_heap h]; rfl, by rw [Lib.cell_of_heap h]; rfl⟩

set_option maxRecDepth 100000 in
set_option maxHeartbeats 8000000 in
theorem onlyk_any (H : LawOk 3) (v : Value) (ds : List VolD) (next : Int) (l : List ActD) (ak : Option Addr) (ks : List Int) (ck : Nat) (w : World) (hv : ScrVal w v ds next l) (hd : LooseW ds) (hl : LooseA l) (hks : IntsAt w ak ks) (hk0 : 0 < ks.length) (hk9 : ks.length ≤ 9) (h72 : l.length * 72 ≤ 140737488355328) :
    Calls Try.prog 23 #[v, .slice ak ks.length ck] w fun e w' => e = .returned (.bool true) ∧ Below w.heap.size w w' := by
  have HH : Hid (LawOk 3) := H
  have HD : Hid (LooseW ds) := hd
  have HLA : Hid (LooseA l) := hl
  have hll := hl.1
  obtain ⟨av, ca, aL, cL, rfl, hV, hL, _⟩ := hv
  have HV : Hid (VolsAt w av ds ∧ CapOk av ca ds.length) := hV
  have HL : Hid (ActsAt w aL l) := hL
  have HKS : Hid (IntsAt w ak ks) := hks
  obtain ⟨W0, hW0⟩ : ∃ W0, W0 = (w.alloc (.cells #[.slice av ds.length ca, .int .i64 next, .slice aL l.length cL] 25)).alloc (.cells #[.slice av ds.length ca, .int .i64 next, .slice none 0 0] 25) := ⟨_, rfl⟩
  have HB0 : Hid (Below w.heap.size w W0) := by rw [hW0]; exact nwA (nwA (nwR w) _) _
  have HS0 : Hid (W0.heap[w.heap.size]? = some (.cells #[.slice av ds.length ca, .int .i64 next, .slice aL l.length cL] 25 (0, 0))) := by rw [hW0]; exact (Lib.alloc_old _ _ _ (by simp)).trans (heap_alloc_new w _)
  have HQ0 : Hid (W0.heap[w.heap.size + 1]? = some (.cells #[.slice av ds.length ca, .int .i64 next, .slice none 0 0] 25 (0, 0))) := by rw [hW0]; exact heap_alloc_new2 w _ _
  obtain ⟨i0, hi, hz0, hz1, hz2⟩ := info_parts Try.info34
  clear hV hL hd hl hks H
  go_enter Try.func23, Try.ntmps23
  go_wp2_with fail
  rw [← hW0]
  clear hW0
  obtain ⟨n0, hn0⟩ : ∃ n0, n0 = w.heap.size := ⟨_, rfl⟩
  have HLZ : Hid (∀ wz, Below n0 w wz → ActsAt wz aL l) := fun wz h => HL.out.below (by rw [hn0] at h; exact h)
  have HVZ : Hid (∀ wz, Below n0 w wz → VolsAt wz av ds ∧ CapOk av ca ds.length) := fun wz h => ⟨HV.out.1.below (by rw [hn0] at h; exact h), HV.out.2⟩
  have HKZ : Hid (∀ wz, Below n0 w wz → IntsAt wz ak ks) := fun wz h => HKS.out.below (by rw [hn0] at h; exact h)
  have HCE : Hid (∀ k, k < l.length → ∃ b o af cf, aL = some ⟨b, o, none⟩ ∧ (FilesAt w af (l.getD k act0).v.files ∧ CapOk af cf (l.getD k act0).v.files.length) ∧ ∀ wz, Below n0 w wz → wz.cell? ⟨b, o + k * 7, none⟩ = some (.int .i64 (l.getD k act0).act) ∧ wz.cell? ⟨b, o + k * 7 + 1, none⟩ = some (.int .i64 (l.getD k act0).id) ∧ wz.cell? ⟨b, o + k * 7 + 2, none⟩ = some (.int .i64 (l.getD k act0).v.id) ∧ wz.cell? ⟨b, o + k * 7 + 3, none⟩ = some (.int .i64 (l.getD k act0).v.fr) ∧ wz.cell? ⟨b, o + k * 7 + 4, none⟩ = some (.bool (l.getD k act0).v.snap) ∧ wz.cell? ⟨b, o + k * 7 + 5, none⟩ = some (.slice af (l.getD k act0).v.files.length cf) ∧ wz.cell? ⟨b, o + k * 7 + 6, none⟩ = some (.int .i64 (l.getD k act0).v.next)) := fun k hk => by
    obtain ⟨b, o, e, a0, a1, af, cf, ⟨e0, e1, e2, e3, e4⟩, hfd, hcd⟩ := HL.out.cell hk
    rw [Nat.add_assoc] at e1 e2 e3 e4
    refine ⟨b, o, af, cf, e, ⟨hfd, hcd⟩, fun wz h => ?_⟩
    rw [hn0] at h
    have hl := block_lt_of_cell a0
    exact ⟨(h.cell (p := ⟨b, o + k * 7, none⟩) hl).trans a0, (h.cell (p := ⟨b, o + k * 7 + 1, none⟩) hl).trans a1, (h.cell (p := ⟨b, o + k * 7 + 2, none⟩) hl).trans e0, (h.cell (p := ⟨b, o + k * 7 + 3, none⟩) hl).trans e1, (h.cell (p := ⟨b, o + k * 7 + 4, none⟩) hl).trans e2, (h.cell (p := ⟨b, o + k * 7 + 5, none⟩) hl).trans e3, (h.cell (p := ⟨b, o + k * 7 + 6, none⟩) hl).trans e4⟩
  have HFIN : Hid (∀ wz, Below n0 w wz → Below w.heap.size w wz) := fun wz h => by rw [hn0] at h; exact h
  rw [← hn0] at HB0 HS0 HQ0 ⊢
  clear hn0 HL HV HKS
  go_loopw [6] (fun i wr => ∃ (k : Nat), k ≤ l.length ∧ i = .int .i64 k ∧ Hid (Below n0 w wr) ∧ wr.heap[n0]? = some (.cells #[.slice av ds.length ca, .int .i64 next, .slice aL l.length cL] 25 (0, 0)) ∧ ∃ qv, wr.heap[n0 + 1]? = some (.cells #[.slice av ds.length ca, .int .i64 next, qv] 25 (0, 0)) ∧ Hid (MixB w wr (n0 + 2) qv ((onlyL ks l).take k))) (fun i _ => l.length - (intOf i).toNat)
  case atStart => exact ⟨0, by omega, rfl, HB0, HS0.out, _, HQ0.out, ⟨[], rfl, World.ownsRow_nil _ _ _ _, fun x hx => by simp at hx⟩⟩
  case round =>
    obtain ⟨k, hk, rfl, HBr, hSr, qv, hQr, HOr⟩ := hrel
    have HSr : Hid (wr.heap[n0]? = some (.cells #[.slice av ds.length ca, .int .i64 next, .slice aL l.length cL] 25 (0, 0))) := hSr
    have HQr : Hid (wr.heap[n0 + 1]? = some (.cells #[.slice av ds.length ca, .int .i64 next, qv] 25 (0, 0))) := hQr
    clear hSr hQr
    obtain ⟨x0, x1, x2⟩ := tri HSr.out
    by_cases hkl : k < l.length
    case neg =>
      have hkli : ¬ (k : Int) < (l.length : Int) := by omega
      have HOE : Hid (MixA wr (n0 + 2) qv (onlyL ks l)) := by have h := HOr.out.mixA (HFIN.out _ HBr.out); rw [List.take_of_length_le (by rw [onlyL_len]; omega)] at h; exact h
      obtain ⟨aq, cq, rfl, hq1, hq2⟩ := HOE.out.at
      have HEX : Hid (Calls Try.prog 3 #[.agg #[.slice av ds.length ca, .int .i64 next, .slice aq (onlyL ks l).length cq]] wr fun e w' => e = .returned (.bool true) ∧ Below wr.heap.size wr w') :=
        HH.out _ ds next (onlyL ks l) wr ⟨_, _, _, _, rfl, HVZ.out _ HBr.out, hq1, hq2⟩ HD.out (onlyL_loose HLA.out)
      obtain ⟨y0, y1, y2⟩ := tri HQr.out
      have hn0l := (Array.getElem?_eq_some_iff.1 HSr.out).1
      clear hq1 hq2 HOr
      go_wp2_with fail
      refine HEX.out.mono ?_
      rintro e wz ⟨rfl, hbz⟩
      go_wp2_with fail
      go_ret
      exact ⟨rfl, HFIN.out _ (HBr.out.trans (hbz.mono (Nat.le_of_lt hn0l)))⟩
    case pos =>
    have hkli : (k : Int) < (l.length : Int) := by omega
    have hk0i : (0 : Int) ≤ (k : Int) := by omega
    obtain ⟨b1, o1, af, cf, rfl, hfc, hce⟩ := HCE.out k hkl
    obtain ⟨a0, a1, e0, e1, e2, e3, e4⟩ := hce _ HBr.out
    clear hce
    have HTK : Hid ((onlyL ks l).take (k + 1) = (onlyL ks l).take k ++ [kindA ks k (l.getD k act0)]) := onlyL_get ks l hkl
    obtain ⟨m, hmd⟩ : ∃ m, m = k % ks.length := ⟨_, rfl⟩
    have hm : m < ks.length := by rw [hmd]; exact Nat.mod_lt _ hk0
    have em : Int.tmod (k : Int) (ks.length : Int) = (m : Int) := by rw [hmd]; exact tmodL k ks.length
    obtain ⟨bk, ok, rfl, hkc⟩ := (HKZ.out _ HBr.out).cell hm
    obtain ⟨kd, hkd⟩ : ∃ kd, kd = ks.getD m 0 := ⟨_, rfl⟩
    have HKA : Hid (∀ A : ActD, kindA ks k A = ⟨kd, A.id, A.v⟩) := fun A => by unfold kindA; rw [hkd, hmd]
    clear hmd
    rw [← hkd] at hkc
    clear hkd
    generalize l.getD k act0 = A at a0 a1 e0 e1 e2 e3 e4 hfc HTK
    obtain ⟨aact, aid, d⟩ := A
    simp only at a0 a1 e0 e1 e2 e3 e4 hfc
    rw [HKA.out] at HTK
    have HFD : Hid (FilesAt w af d.files ∧ CapOk af cf d.files.length) := hfc
    clear hfc HKA
    have hmi : (m : Int) < (ks.length : Int) := by omega
    have hmi0 : (0 : Int) ≤ (m : Int) := by omega
    have hnz : ¬ (ks.length : Int) = 0 := by omega
    have hnz2 : ¬ ks.length = 0 := by omega
    have hnil : ¬ ks = [] := fun h => by rw [h] at hnz2; exact hnz2 rfl
    have hkc2 : (wr.alloc (.cells #[.int .i64 aact, .int .i64 aid, .int .i64 d.id, .int .i64 d.fr, .bool d.snap, .slice af d.files.length cf, .int .i64 d.next] 34)).cell? ⟨bk, ok + m, none⟩ = some (.int .i64 kd) := ((nwA (nwR wr) _).cell (p := ⟨bk, ok + m, none⟩) (block_lt_of_cell hkc)).trans hkc
    go_upto_region 8 with fail
    have HBA : Hid (Below wr.heap.size wr (wr.alloc (.cells #[.int .i64 kd, .int .i64 aid, .int .i64 d.id, .int .i64 d.fr, .bool d.snap, .slice af d.files.length cf, .int .i64 d.next] 34))) := nwA (nwR wr) _
    have HQA : Hid ((wr.alloc (.cells #[.int .i64 kd, .int .i64 aid, .int .i64 d.id, .int .i64 d.fr, .bool d.snap, .slice af d.files.length cf, .int .i64 d.next] 34)).heap[n0 + 1]? = some (.cells #[.slice av ds.length ca, .int .i64 next, qv] 25 (0, 0))) := (HBA.out.block _ (Array.getElem?_eq_some_iff.1 HQr.out).1).trans HQr.out
    have HSA : Hid ((wr.alloc (.cells #[.int .i64 kd, .int .i64 aid, .int .i64 d.id, .int .i64 d.fr, .bool d.snap, .slice af d.files.length cf, .int .i64 d.next] 34)).heap[n0]? = some (.cells #[.slice av ds.length ca, .int .i64 next, .slice (some ⟨b1, o1, none⟩) l.length cL] 25 (0, 0))) := (HBA.out.block _ (Array.getElem?_eq_some_iff.1 HSr.out).1).trans HSr.out
    have HOA : Hid (MixB w (wr.alloc (.cells #[.int .i64 kd, .int .i64 aid, .int .i64 d.id, .int .i64 d.fr, .bool d.snap, .slice af d.files.length cf, .int .i64 d.next] 34)) (n0 + 2) qv ((onlyL ks l).take k)) := HOr.out.below HBA.out
    have HLT : Hid (n0 + 1 < wr.heap.size) := (Array.getElem?_eq_some_iff.1 HQr.out).1
    have HC : Hid ((wr.alloc (.cells #[.int .i64 kd, .int .i64 aid, .int .i64 d.id, .int .i64 d.fr, .bool d.snap, .slice af d.files.length cf, .int .i64 d.next] 34)).heap[wr.heap.size]? = some (.cells #[.int .i64 kd, .int .i64 aid, .int .i64 d.id, .int .i64 d.fr, .bool d.snap, .slice af d.files.length cf, .int .i64 d.next] 34 (0, 0))) := heap_alloc_new wr _
    have HBA2 : Hid (Below n0 w (wr.alloc (.cells #[.int .i64 kd, .int .i64 aid, .int .i64 d.id, .int .i64 d.fr, .bool d.snap, .slice af d.files.length cf, .int .i64 d.next] 34))) := HBr.out.trans (HBA.out.mono (by have := HLT.out; omega))
    have HSZ : Hid ((wr.alloc (.cells #[.int .i64 kd, .int .i64 aid, .int .i64 d.id, .int .i64 d.fr, .bool d.snap, .slice af d.files.length cf, .int .i64 d.next] 34)).heap.size = wr.heap.size + 1) := by show _ = _; simp
    clear x0 x1 x2 a0 a1 e0 e1 e2 e3 e4 hkc hkc2 HBA HOr HSr HQr HBr em hmi hmi0 hnz hnz2 hnil
    generalize wr.alloc (.cells #[.int .i64 kd, .int .i64 aid, .int .i64 d.id, .int .i64 d.fr, .bool d.snap, .slice af d.files.length cf, .int .i64 d.next] 34) = W1 at HQA HSA HOA HC HBA2 HSZ ⊢
    generalize hgw : wr.heap.size = gA at HC HLT HSZ ⊢
    clear hgw
    obtain ⟨c0, c1, c2, c3, c4, c5, c6⟩ := seven HC.out
    obtain ⟨y0, y1, y2⟩ := tri HQA.out
    have hgl0 : ((onlyL ks l).take k).length = k := by rw [List.length_take, onlyL_len]; omega
    obtain ⟨aq, cq, rfl, _, _⟩ := id (HOA.out.mixA (HFIN.out _ HBA2.out)).at
    obtain ⟨gs, hgs, hown0, hall⟩ := HOA.out
    have hgl : gs.length = k := by have := congrArg List.length hgs; rw [List.length_map, hgl0] at this; exact this
    have HOW : Hid (W1.ownsRow (n0 + 2) 34 7 (.slice aq k cq) k (aflat gs)) := by have h := hown0; rw [hgl, hgl0] at h; exact h
    have HGS : Hid (gs.map AV.d = (onlyL ks l).take k) := hgs
    have HALL : Hid (∀ x ∈ gs, ReadA w x) := hall
    have HGL : Hid (gs.length = k) := hgl
    rw [hgl0] at HQA y2
    clear hgs hown0 hall hgl
    have hc3 : k + 1 ≤ maxLen := by unfold maxLen; omega
    have hc4 : (k + 1) * 72 ≤ 140737488355328 := by omega
    have hsz : n0 + 2 ≤ (W1.alloc (.cells #[.int .i64 kd, .int .i64 aid, .int .i64 d.id, .int .i64 d.fr, .bool d.snap, .slice af d.files.length cf, .int .i64 d.next] 34)).heap.size := by have h1 := (nwA (nwR W1) (.cells #[.int .i64 kd, .int .i64 aid, .int .i64 d.id, .int .i64 d.fr, .bool d.snap, .slice af d.files.length cf, .int .i64 d.next] 34)).size; have h2 := HSZ.out; have h3 := HLT.out; omega
    go_wp2_with (at_builtin; refine wpList_append_own _ rfl (.tmp 31) (.tmp 33) 23 rfl (n0 + 2) 34 i0 (.agg #[.int .i64 0, .int .i64 0, .int .i64 0, .int .i64 0, .bool false, .slice none 0 0, .int .i64 0]) 7 72 Try.underlying23 hi hz0 hz1 hz2 rfl (by decide) (.slice aq k cq) k (aflat gs) rfl (World.ownsRow.alloc HOW.out _) ⟨W1.heap.size, 0, none⟩ 1 1 [.int .i64 kd, .int .i64 aid, .int .i64 d.id, .int .i64 d.fr, .bool d.snap, .slice af d.files.length cf, .int .i64 d.next] rfl rfl (cells_new W1 [.int .i64 kd, .int .i64 aid, .int .i64 d.id, .int .i64 d.fr, .bool d.snap, .slice af d.files.length cf, .int .i64 d.next] 34) (by simp [Value.oneCell']) hc3 hc4 hsz ?_; intro v' w3 hown hgrow _; refine unstop ?_)
    unfold Stop
    have hw1 : n0 + 2 ≤ W1.heap.size := by have h2 := HSZ.out; have h3 := HLT.out; omega
    have hbx : Below (n0 + 2) W1 (W1.alloc (.cells #[.int .i64 kd, .int .i64 aid, .int .i64 d.id, .int .i64 d.fr, .bool d.snap, .slice af d.files.length cf, .int .i64 d.next] 34)) := (Below.refl (n0 + 2) W1).alloc hw1 _
    have hb13 : Below (n0 + 2) W1 w3 := hbx.grown hgrow hsz (fun q e => (HOW.out.lt q e).1)
    have HB3 : Hid (Below n0 w w3) := HBA2.out.trans (hb13.mono (by omega))
    have HG3 : Hid (MixB w w3 (n0 + 2) v' ((onlyL ks l).take (k + 1))) := by
      rw [HTK.out, ← HGS.out]
      exact MixB.snoc (g := ⟨⟨kd, aid, d⟩, .slice af d.files.length cf⟩) HALL.out ⟨af, cf, rfl, HFD.out⟩ (by rw [HGL.out]; exact hown)
    obtain ⟨a9, c9, rfl, _, _⟩ := id (HG3.out.mixA (HFIN.out _ HB3.out)).at
    have hgl2 : ((onlyL ks l).take (k + 1)).length = k + 1 := by rw [List.length_take, onlyL_len]; omega
    rw [hgl2] at HG3
    have HS3 : Hid (w3.heap[n0]? = some (.cells #[.slice av ds.length ca, .int .i64 next, .slice (some ⟨b1, o1, none⟩) l.length cL] 25 (0, 0))) := (hb13.block _ (by omega)).trans HSA.out
    have HQ3 : Hid (w3.heap[n0 + 1]? = some (.cells #[.slice av ds.length ca, .int .i64 next, .slice aq k cq] 25 (0, 0))) := (hb13.block _ (by omega)).trans HQA.out
    clear hown hgrow hb13 hbx y0 y1 y2 c0 c1 c2 c3 c4 c5 c6 hsz HOW HOA HQA HSA
    obtain ⟨y0, y1, y2⟩ := tri HQ3.out
    have yf : ∀ o, w3.frozen? ⟨n0 + 1, o, none⟩ = false := fun o => Lib.frozen_of_heap HQ3.out o
    go_wp2_with fail
    go_roundw
    case rel =>
      refine ⟨k + 1, by omega, by go_num, HB3.out.setCell (p := ⟨n0 + 1, 2, none⟩) (by show n0 ≤ n0 + 1; omega) _, ?_, _, tri_set HQ3.out, ?_⟩
      · rw [heap_setCell_other _ ⟨n0 + 1, 2, none⟩ _ _ (by show n0 ≠ n0 + 1; omega)]; exact HS3.out
      · exact HG3.out.set 2 (by omega) _
    case measure => simp [intOf]; omega

end Go.Proofs.Ytodahdnnlkcfdaa

/- The laws of some kinds, where the law stands for any. -/
namespace Go.Proofs.Ytodahdnnlkcfdaa
open Go.RowKit

def LawOk72 (F : Nat) : Prop := ∀ (v : Value) (ds : List VolD) (next : Int) (l : List ActD) (w : World), ScrVal w v ds next l → LooseW ds → LooseA l → l.length * 72 ≤ 140737488355328 → Calls Try.prog F #[v] w fun e w' => e = .returned (.bool true) ∧ Below w.heap.size w w'
theorem ints_lit (w : World) (ks : List Int) : IntsAt (w.alloc (.cells (ks.map (fun k => Value.int .i64 k)).toArray 3)) (some ⟨w.heap.size, 0, none⟩) ks := by
  refine .inr ⟨w.heap.size, 0, rfl, fun i hi => ?_⟩
  rw [Lib.cell_of_heap (heap_alloc_new w _)]
  simp [List.getD, hi]

set_option maxRecDepth 100000 in
set_option maxHeartbeats 1000000 in
theorem snaps_of (H : LawOk 3) : LawOk72 5 := by
  intro v ds next l w hv hd hl h72
  have HV : Hid (ScrVal w v ds next l) := hv
  have HD : Hid (LooseW ds) := hd
  have HLA : Hid (LooseA l) := hl
  have HH : Hid (LawOk 3) := H
  obtain ⟨av, ca, aL, cL, rfl, _, _, _⟩ := hv
  clear hd hl H
  go_enter Try.func5, Try.ntmps5
  go_wp2_with fail
  have HB1 : Hid (Below w.heap.size w (w.alloc (.cells #[.slice av ds.length ca, .int .i64 next, .slice aL l.length cL] 25))) := nwA (nwR w) _
  have HB2 : Hid (Below w.heap.size w ((w.alloc (.cells #[.slice av ds.length ca, .int .i64 next, .slice aL l.length cL] 25)).alloc (.cells #[.int .i64 0, .int .i64 1, .int .i64 7] 3))) := nwA HB1.out _
  have hi := ints_lit (w.alloc (.cells #[.slice av ds.length ca, .int .i64 next, .slice aL l.length cL] 25)) [0, 1, 7]
  have hsz : (w.alloc (.cells #[.slice av ds.length ca, .int .i64 next, .slice aL l.length cL] 25)).heap.size = w.heap.size + 1 := by simp
  rw [hsz] at hi
  have HC : Hid (Calls Try.prog 23 #[.agg #[.slice av ds.length ca, .int .i64 next, .slice aL l.length cL], .slice (some ⟨w.heap.size + 1, 0, none⟩) 3 3] ((w.alloc (.cells #[.slice av ds.length ca, .int .i64 next, .slice aL l.length cL] 25)).alloc (.cells #[.int .i64 0, .int .i64 1, .int .i64 7] 3)) fun e w' => e = .returned (.bool true) ∧ Below ((w.alloc (.cells #[.slice av ds.length ca, .int .i64 next, .slice aL l.length cL] 25)).alloc (.cells #[.int .i64 0, .int .i64 1, .int .i64 7] 3)).heap.size ((w.alloc (.cells #[.slice av ds.length ca, .int .i64 next, .slice aL l.length cL] 25)).alloc (.cells #[.int .i64 0, .int .i64 1, .int .i64 7] 3)) w') :=
    onlyk_any HH.out _ ds next l (some ⟨w.heap.size + 1, 0, none⟩) [0, 1, 7] 3 _ (HV.out.below HB2.out) HD.out HLA.out hi (by simp) (by simp) h72
  clear hi hsz h72
  refine HC.out.mono ?_
  rintro e w1 ⟨rfl, hb1⟩
  have HB3 : Hid (Below w.heap.size w w1) := nwT HB2.out hb1
  clear hb1 HB1 HB2 HC
  go_wp2_with fail
  go_ret
  exact ⟨rfl, HB3.out⟩

set_option maxRecDepth 100000 in
set_option maxHeartbeats 1000000 in
theorem clones_of (H : LawOk 3) : LawOk72 6 := by
  intro v ds next l w hv hd hl h72
  have HV : Hid (ScrVal w v ds next l) := hv
  have HD : Hid (LooseW ds) := hd
  have HLA : Hid (LooseA l) := hl
  have HH : Hid (LawOk 3) := H
  obtain ⟨av, ca, aL, cL, rfl, _, _, _⟩ := hv
  clear hd hl H
  go_enter Try.func6, Try.ntmps6
  go_wp2_with fail
  have HB1 : Hid (Below w.heap.size w (w.alloc (.cells #[.slice av ds.length ca, .int .i64 next, .slice aL l.length cL] 25))) := nwA (nwR w) _
  have HB2 : Hid (Below w.heap.size w ((w.alloc (.cells #[.slice av ds.length ca, .int .i64 next, .slice aL l.length cL] 25)).alloc (.cells #[.int .i64 0, .int .i64 2, .int .i64 3] 3))) := nwA HB1.out _
  have hi := ints_lit (w.alloc (.cells #[.slice av ds.length ca, .int .i64 next, .slice aL l.length cL] 25)) [0, 2, 3]
  have hsz : (w.alloc (.cells #[.slice av ds.length ca, .int .i64 next, .slice aL l.length cL] 25)).heap.size = w.heap.size + 1 := by simp
  rw [hsz] at hi
  have HC : Hid (Calls Try.prog 23 #[.agg #[.slice av ds.length ca, .int .i64 next, .slice aL l.length cL], .slice (some ⟨w.heap.size + 1, 0, none⟩) 3 3] ((w.alloc (.cells #[.slice av ds.length ca, .int .i64 next, .slice aL l.length cL] 25)).alloc (.cells #[.int .i64 0, .int .i64 2, .int .i64 3] 3)) fun e w' => e = .returned (.bool true) ∧ Below ((w.alloc (.cells #[.slice av ds.length ca, .int .i64 next, .slice aL l.length cL] 25)).alloc (.cells #[.int .i64 0, .int .i64 2, .int .i64 3] 3)).heap.size ((w.alloc (.cells #[.slice av ds.length ca, .int .i64 next, .slice aL l.length cL] 25)).alloc (.cells #[.int .i64 0, .int .i64 2, .int .i64 3] 3)) w') :=
    onlyk_any HH.out _ ds next l (some ⟨w.heap.size + 1, 0, none⟩) [0, 2, 3] 3 _ (HV.out.below HB2.out) HD.out HLA.out hi (by simp) (by simp) h72
  clear hi hsz h72
  refine HC.out.mono ?_
  rintro e w1 ⟨rfl, hb1⟩
  have HB3 : Hid (Below w.heap.size w w1) := nwT HB2.out hb1
  clear hb1 HB1 HB2 HC
  go_wp2_with fail
  go_ret
  exact ⟨rfl, HB3.out⟩

set_option maxRecDepth 100000 in
set_option maxHeartbeats 1000000 in
theorem drops_of (H : LawOk 3) : LawOk72 7 := by
  intro v ds next l w hv hd hl h72
  have HV : Hid (ScrVal w v ds next l) := hv
  have HD : Hid (LooseW ds) := hd
  have HLA : Hid (LooseA l) := hl
  have HH : Hid (LawOk 3) := H
  obtain ⟨av, ca, aL, cL, rfl, _, _, _⟩ := hv
  clear hd hl H
  go_enter Try.func7, Try.ntmps7
  go_wp2_with fail
  have HB1 : Hid (Below w.heap.size w (w.alloc (.cells #[.slice av ds.length ca, .int .i64 next, .slice aL l.length cL] 25))) := nwA (nwR w) _
  have HB2 : Hid (Below w.heap.size w ((w.alloc (.cells #[.slice av ds.length ca, .int .i64 next, .slice aL l.length cL] 25)).alloc (.cells #[.int .i64 0, .int .i64 4, .int .i64 2, .int .i64 4] 3))) := nwA HB1.out _
  have hi := ints_lit (w.alloc (.cells #[.slice av ds.length ca, .int .i64 next, .slice aL l.length cL] 25)) [0, 4, 2, 4]
  have hsz : (w.alloc (.cells #[.slice av ds.length ca, .int .i64 next, .slice aL l.length cL] 25)).heap.size = w.heap.size + 1 := by simp
  rw [hsz] at hi
  have HC : Hid (Calls Try.prog 23 #[.agg #[.slice av ds.length ca, .int .i64 next, .slice aL l.length cL], .slice (some ⟨w.heap.size + 1, 0, none⟩) 4 4] ((w.alloc (.cells #[.slice av ds.length ca, .int .i64 next, .slice aL l.length cL] 25)).alloc (.cells #[.int .i64 0, .int .i64 4, .int .i64 2, .int .i64 4] 3)) fun e w' => e = .returned (.bool true) ∧ Below ((w.alloc (.cells #[.slice av ds.length ca, .int .i64 next, .slice aL l.length cL] 25)).alloc (.cells #[.int .i64 0, .int .i64 4, .int .i64 2, .int .i64 4] 3)).heap.size ((w.alloc (.cells #[.slice av ds.length ca, .int .i64 next, .slice aL l.length cL] 25)).alloc (.cells #[.int .i64 0, .int .i64 4, .int .i64 2, .int .i64 4] 3)) w') :=
    onlyk_any HH.out _ ds next l (some ⟨w.heap.size + 1, 0, none⟩) [0, 4, 2, 4] 4 _ (HV.out.below HB2.out) HD.out HLA.out hi (by simp) (by simp) h72
  clear hi hsz h72
  refine HC.out.mono ?_
  rintro e w1 ⟨rfl, hb1⟩
  have HB3 : Hid (Below w.heap.size w w1) := nwT HB2.out hb1
  clear hb1 HB1 HB2 HC
  go_wp2_with fail
  go_ret
  exact ⟨rfl, HB3.out⟩

set_option maxRecDepth 100000 in
set_option maxHeartbeats 1000000 in
theorem backs_of (H : LawOk 3) : LawOk72 8 := by
  intro v ds next l w hv hd hl h72
  have HV : Hid (ScrVal w v ds next l) := hv
  have HD : Hid (LooseW ds) := hd
  have HLA : Hid (LooseA l) := hl
  have HH : Hid (LawOk 3) := H
  obtain ⟨av, ca, aL, cL, rfl, _, _, _⟩ := hv
  clear hd hl H
  go_enter Try.func8, Try.ntmps8
  go_wp2_with fail
  have HB1 : Hid (Below w.heap.size w (w.alloc (.cells #[.slice av ds.length ca, .int .i64 next, .slice aL l.length cL] 25))) := nwA (nwR w) _
  have HB2 : Hid (Below w.heap.size w ((w.alloc (.cells #[.slice av ds.length ca, .int .i64 next, .slice aL l.length cL] 25)).alloc (.cells #[.int .i64 0, .int .i64 6, .int .i64 5, .int .i64 0, .int .i64 5] 3))) := nwA HB1.out _
  have hi := ints_lit (w.alloc (.cells #[.slice av ds.length ca, .int .i64 next, .slice aL l.length cL] 25)) [0, 6, 5, 0, 5]
  have hsz : (w.alloc (.cells #[.slice av ds.length ca, .int .i64 next, .slice aL l.length cL] 25)).heap.size = w.heap.size + 1 := by simp
  rw [hsz] at hi
  have HC : Hid (Calls Try.prog 23 #[.agg #[.slice av ds.length ca, .int .i64 next, .slice aL l.length cL], .slice (some ⟨w.heap.size + 1, 0, none⟩) 5 5] ((w.alloc (.cells #[.slice av ds.length ca, .int .i64 next, .slice aL l.length cL] 25)).alloc (.cells #[.int .i64 0, .int .i64 6, .int .i64 5, .int .i64 0, .int .i64 5] 3)) fun e w' => e = .returned (.bool true) ∧ Below ((w.alloc (.cells #[.slice av ds.length ca, .int .i64 next, .slice aL l.length cL] 25)).alloc (.cells #[.int .i64 0, .int .i64 6, .int .i64 5, .int .i64 0, .int .i64 5] 3)).heap.size ((w.alloc (.cells #[.slice av ds.length ca, .int .i64 next, .slice aL l.length cL] 25)).alloc (.cells #[.int .i64 0, .int .i64 6, .int .i64 5, .int .i64 0, .int .i64 5] 3)) w') :=
    onlyk_any HH.out _ ds next l (some ⟨w.heap.size + 1, 0, none⟩) [0, 6, 5, 0, 5] 5 _ (HV.out.below HB2.out) HD.out HLA.out hi (by simp) (by simp) h72
  clear hi hsz h72
  refine HC.out.mono ?_
  rintro e w1 ⟨rfl, hb1⟩
  have HB3 : Hid (Below w.heap.size w w1) := nwT HB2.out hb1
  clear hb1 HB1 HB2 HC
  go_wp2_with fail
  go_ret
  exact ⟨rfl, HB3.out⟩

end Go.Proofs.Ytodahdnnlkcfdaa
