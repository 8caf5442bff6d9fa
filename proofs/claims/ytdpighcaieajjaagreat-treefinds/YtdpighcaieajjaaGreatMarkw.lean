/- Which files are reached, by the page: the walk. -/
import Derived.Test.YtdpighcaieajjaaGreatMarks
namespace Go.Proofs.YtdpighcaieajjaaGreat
open Go.RowKit

def BoxS (W : World) (B : Nat) (o : Obj) (w : World) : Prop := Below W.heap.size W w ∧ w.heap[B]? = some o
theorem BoxS.drew {W : World} {B : Nat} {o : Obj} {w : World} (h : BoxS W B o w) : BoxS W B o w.drew := ⟨Below.drew h.1, h.2⟩
theorem BoxS.five {W : World} {B : Nat} {c0 c1 c2 c3 c4 : Value} {t : TypeId} {w : World} (h : BoxS W B (.cells #[c0, c1, c2, c3, c4] t (0, 0)) w) : w.cell? ⟨B, 0, none⟩ = some c0 ∧ w.cell? ⟨B, 1, none⟩ = some c1 ∧ w.cell? ⟨B, 2, none⟩ = some c2 ∧ w.cell? ⟨B, 3, none⟩ = some c3 ∧ w.cell? ⟨B, 4, none⟩ = some c4 :=
  have f := YtdpighcaieajjaaGreat.five h.2
  ⟨f.1, f.2.1, f.2.2.1, f.2.2.2.1, f.2.2.2.2.1⟩
theorem BoxS.old {W : World} {B : Nat} {ob : Obj} {w : World} (h : BoxS W B ob w) {b o : Nat} {v : Value} (hc : W.cell? ⟨b, o, none⟩ = some v) : w.cell? ⟨b, o, none⟩ = some v := (h.1.cell (p := ⟨b, o, none⟩) (block_lt_of_cell hc)).trans hc
theorem BoxS.gb {W : World} {B g : Nat} {o : Obj} {w w' : World} (h : BoxS W B o w) (hg : W.heap.size ≤ g) (hne : B ≠ g) (k : w.grownBy w' (some g)) : BoxS W B o w' :=
  ⟨gb_below h.1 hg k, (k.block B (Array.getElem?_eq_some_iff.1 h.2).1 (fun e => hne (by injection e))).trans h.2⟩

set_option maxRecDepth 100000 in
set_option maxHeartbeats 4000000 in
theorem marks_step (v : Value) (d : VolD) (W : World) (hv : VolVal W v d) (hs : SmallV d) (hli : LinksIn d.files) (g cN m : Nat) (hg : W.heap.size ≤ g)
    (ih : ∀ (bs : List Bool) (id : Int) (q : Nat) (w : World), bs.count false < m → Below W.heap.size W w → Row w g bs → bs.length = d.files.length → atI d.files id = some q →
      Calls Tryz.prog 45 #[v, .int .i64 id, .slice (some ⟨g, 0, none⟩) bs.length cN] w fun e w' => e = .returned (.tuple #[]) ∧ (∃ bs', Row w' g bs' ∧ MarkRel d.files q bs bs') ∧ w.grownBy w' (some g))
    (bs : List Bool) (id : Int) (q : Nat) (w : World) (hm : bs.count false = m) (hW : Below W.heap.size W w) (hr : Row w g bs) (hlen : bs.length = d.files.length) (hat : atI d.files id = some q) :
    Calls Tryz.prog 45 #[v, .int .i64 id, .slice (some ⟨g, 0, none⟩) bs.length cN] w fun e w' => e = .returned (.tuple #[]) ∧ (∃ bs', Row w' g bs' ∧ MarkRel d.files q bs bs') ∧ w.grownBy w' (some g) := by
  have HIH : Hid (∀ (bs : List Bool) (id : Int) (q : Nat) (w : World), bs.count false < m → Below W.heap.size W w → Row w g bs → bs.length = d.files.length → atI d.files id = some q →
      Calls Tryz.prog 45 #[v, .int .i64 id, .slice (some ⟨g, 0, none⟩) bs.length cN] w fun e w' => e = .returned (.tuple #[]) ∧ (∃ bs', Row w' g bs' ∧ MarkRel d.files q bs bs') ∧ w.grownBy w' (some g)) := ih
  have HVV : Hid (VolVal W v d) := hv
  obtain ⟨av, ca, rfl, hfs, hcp⟩ := hv
  have HF : Hid (FilesAt W av d.files) := hfs
  have hl := hs.1
  have HSV : Hid (SmallV d) := hs
  have HLI : Hid (LinksIn d.files) := hli
  have HAT : Hid (atI d.files id = some q) := hat
  have hql := atI_lt hat
  have HW : Hid (Below W.heap.size W w) := hW
  have HR : Hid (Row w g bs) := hr
  have hgl : g < w.heap.size := (Array.getElem?_eq_some_iff.1 hr).1
  have HLEN : Hid (bs.length = d.files.length) := hlen
  have HM : Hid (bs.count false = m) := hm
  have hbl : bs.length ≤ 100000 := by omega
  have hqb : q < bs.length := by omega
  have hq0 : (0 : Int) ≤ (q : Int) := by omega
  have hqi : (q : Int) < (bs.length : Int) := by omega
  have hqf : (q : Int) < (d.files.length : Int) := by omega
  clear ih hfs hcp hli hat hW hr hlen hm hs
  go_enter Tryz.func45, Tryz.ntmps45
  go_wp2_with fail
  have HB0 : Hid (Below w.heap.size w (w.alloc (.cells #[.int .i64 d.id, .int .i64 d.fr, .bool d.snap, .slice av d.files.length ca, .int .i64 d.next] 24))) := nwA (nwR w) _
  have HBX0 : Hid ((w.alloc (.cells #[.int .i64 d.id, .int .i64 d.fr, .bool d.snap, .slice av d.files.length ca, .int .i64 d.next] 24)).heap[w.heap.size]? = some (.cells #[.int .i64 d.id, .int .i64 d.fr, .bool d.snap, .slice av d.files.length ca, .int .i64 d.next] 24 (0, 0))) := heap_alloc_new w _
  refine (at_any _ d id _ (HVV.out.below (nwT HW.out HB0.out)) hl).mono ?_
  rintro e w1 ⟨rfl, hb1⟩
  have HB1 : Hid (Below w.heap.size w w1) := nwT HB0.out hb1
  have HBX1 : Hid (w1.heap[w.heap.size]? = some (.cells #[.int .i64 d.id, .int .i64 d.fr, .bool d.snap, .slice av d.files.length ca, .int .i64 d.next] 24 (0, 0))) := (hb1.block _ (Array.getElem?_eq_some_iff.1 HBX0.out).1).trans HBX0.out
  have HR1 : Hid (Row w1 g bs) := HR.out.grown HB1.out
  clear hb1 HB0 HBX0
  simp only [HAT.out, optI]
  obtain ⟨r0, r1⟩ := HR1.out.cell hqb
  cases hbq : bs.getD q false
  · rw [hbq] at r0
    have HST : Hid (Row (w1.setCell ⟨g, q, none⟩ (.bool true)) g (bs.set q true)) := HR1.out.set q
    have HG1 : Hid (w.grownBy (w1.setCell ⟨g, q, none⟩ (.bool true)) (some g)) := (gbOf HB1.out (some g)).trans (gb_set _)
    have HBS : Hid (BoxS W w.heap.size (.cells #[.int .i64 d.id, .int .i64 d.fr, .bool d.snap, .slice av d.files.length ca, .int .i64 d.next] 24 (0, 0)) (w1.setCell ⟨g, q, none⟩ (.bool true))) := BoxS.gb (w := w1) ⟨nwT HW.out HB1.out, HBX1.out⟩ hg (by omega) (gb_set _)
    have HCT : Hid ((bs.set q true).count false < m) := by show _ < _; have := falses_set hqb hbq; have := HM.out; omega
    go_wp2_with fail
    generalize w1.setCell ⟨g, q, none⟩ (.bool true) = W1 at HST HG1 HBS ⊢
    clear r0 r1 HR1 HBX1 HB1
    go_loopw [7] (fun i wr => ∃ (k : Nat) (b2 : List Bool), k ≤ (d.files.getD q f0).list.length ∧ i = .int .i64 k ∧ Hid (Row wr g b2) ∧ Hid (LoopRel d.files q k (bs.set q true) b2) ∧ Hid (W1.grownBy wr (some g)))
      (fun i _ => (d.files.getD q f0).list.length - (intOf i).toNat)
    case atStart => exact ⟨0, _, by omega, rfl, HST.out, LoopRel.start _ _ _, World.grownBy.refl _ _⟩
    case round =>
      obtain ⟨k, b2, hk, rfl, HRK, HLR, HGK⟩ := hrel
      have HBK : Hid (BoxS W w.heap.size (.cells #[.int .i64 d.id, .int .i64 d.fr, .bool d.snap, .slice av d.files.length ca, .int .i64 d.next] 24 (0, 0)) wr) := HBS.out.gb hg (by omega) HGK.out
      obtain ⟨x0, x1, x2, x3, x4⟩ := HBK.out.five
      obtain ⟨b1, o1, rfl, hfi⟩ := HF.out.file hql
      obtain ⟨ab, cb, al, cl, ⟨_, _, _, _, c40⟩, _, hil, _⟩ := hfi
      have c4 := HBK.out.old c40
      have HLI2 : Hid (LinksAt W al (d.files.getD q f0).list) := hil
      have HKL : Hid ((kids d.files q).length = (d.files.getD q f0).list.length) := kids_len _ _
      have hsm := (HSV.out.2 _ (getD_mem hql)).2
      clear hil
      by_cases hkl : k < (d.files.getD q f0).list.length
      · have HKG : Hid ((kids d.files q)[k]? = some (placeOf d.files ((d.files.getD q f0).list.getD k lk0).2)) := kids_get _ _ _ hkl
        obtain ⟨p, hp⟩ := Option.isSome_iff_exists.1 (linksIn_at HLI.out hql hkl)
        have hpe : placeOf d.files ((d.files.getD q f0).list.getD k lk0).2 = p := by unfold placeOf; rw [hp]; rfl
        rw [hpe] at HKG
        obtain ⟨b3, o3, rfl, _, d2⟩ := HLI2.out.cell hkl
        have HD2 : Hid (W.cell? ⟨b3, o3 + k * 2 + 1, none⟩ = some (.int .i64 ((d.files.getD q f0).list.getD k lk0).2)) := d2
        have HC4 : Hid (W.cell? ⟨b1, o1 + q * 5 + 4, none⟩ = some (.slice (some ⟨b3, o3, none⟩) (d.files.getD q f0).list.length cl)) := c40
        clear d2 c40
        have HP : Hid (atI d.files ((d.files.getD q f0).list.getD k lk0).2 = some p) := hp
        clear hp hpe
        generalize ((d.files.getD q f0).list.getD k lk0).2 = y at HD2 HP
        generalize (d.files.getD q f0).list.length = LL at *
        have hkli : (k : Int) < (LL : Int) := by omega
        have hk0 : (0 : Int) ≤ (k : Int) := by omega
        have HLB : Hid (b2.length = bs.length) := by have := HLR.out.1; rw [List.length_set] at this; exact this
        have HCL : Hid (Calls Tryz.prog 45 #[.agg #[.int .i64 d.id, .int .i64 d.fr, .bool d.snap, .slice (some ⟨b1, o1, none⟩) d.files.length ca, .int .i64 d.next], .int .i64 y, .slice (some ⟨g, 0, none⟩) bs.length cN] wr.drew fun e w' => e = .returned (.tuple #[]) ∧ (∃ bs', Row w' g bs' ∧ MarkRel d.files p b2 bs') ∧ wr.grownBy w' (some g)) := by
          have h := HIH.out b2 y p wr.drew (by
            have h1 := falses_le HLR.out.1 HLR.out.2.1
            have h2 := HCT.out
            omega) (Below.drew HBK.out.1) HRK.out (by rw [HLB.out]; exact HLEN.out) HP.out
          rw [HLB.out] at h
          exact h.mono fun e w' ⟨h1, h2, h3⟩ => ⟨h1, h2, (gbOf (Below.drew (nwR wr)) (some g)).trans h3⟩
        have hS : BoxS W w.heap.size (.cells #[.int .i64 d.id, .int .i64 d.fr, .bool d.snap, .slice (some ⟨b1, o1, none⟩) d.files.length ca, .int .i64 d.next] 24 (0, 0)) wr := HBK.out
        have z0 : ∀ w', BoxS W w.heap.size (.cells #[.int .i64 d.id, .int .i64 d.fr, .bool d.snap, .slice (some ⟨b1, o1, none⟩) d.files.length ca, .int .i64 d.next] 24 (0, 0)) w' → w'.cell? ⟨w.heap.size, 0, none⟩ = some (.int .i64 d.id) := fun w' h => h.five.1
        have z1 : ∀ w', BoxS W w.heap.size (.cells #[.int .i64 d.id, .int .i64 d.fr, .bool d.snap, .slice (some ⟨b1, o1, none⟩) d.files.length ca, .int .i64 d.next] 24 (0, 0)) w' → w'.cell? ⟨w.heap.size, 1, none⟩ = some (.int .i64 d.fr) := fun w' h => h.five.2.1
        have z2 : ∀ w', BoxS W w.heap.size (.cells #[.int .i64 d.id, .int .i64 d.fr, .bool d.snap, .slice (some ⟨b1, o1, none⟩) d.files.length ca, .int .i64 d.next] 24 (0, 0)) w' → w'.cell? ⟨w.heap.size, 2, none⟩ = some (.bool d.snap) := fun w' h => h.five.2.2.1
        have z3 : ∀ w', BoxS W w.heap.size (.cells #[.int .i64 d.id, .int .i64 d.fr, .bool d.snap, .slice (some ⟨b1, o1, none⟩) d.files.length ca, .int .i64 d.next] 24 (0, 0)) w' → w'.cell? ⟨w.heap.size, 3, none⟩ = some (.slice (some ⟨b1, o1, none⟩) d.files.length ca) := fun w' h => h.five.2.2.2.1
        have z4 : ∀ w', BoxS W w.heap.size (.cells #[.int .i64 d.id, .int .i64 d.fr, .bool d.snap, .slice (some ⟨b1, o1, none⟩) d.files.length ca, .int .i64 d.next] 24 (0, 0)) w' → w'.cell? ⟨w.heap.size, 4, none⟩ = some (.int .i64 d.next) := fun w' h => h.five.2.2.2.2
        have z5 : ∀ w', BoxS W w.heap.size (.cells #[.int .i64 d.id, .int .i64 d.fr, .bool d.snap, .slice (some ⟨b1, o1, none⟩) d.files.length ca, .int .i64 d.next] 24 (0, 0)) w' → w'.cell? ⟨b1, o1 + q * 5 + 4, none⟩ = some (.slice (some ⟨b3, o3, none⟩) LL cl) := fun w' h => h.old HC4.out
        have z6 : ∀ w', BoxS W w.heap.size (.cells #[.int .i64 d.id, .int .i64 d.fr, .bool d.snap, .slice (some ⟨b1, o1, none⟩) d.files.length ca, .int .i64 d.next] 24 (0, 0)) w' → w'.cell? ⟨b3, o3 + k * 2 + 1, none⟩ = some (.int .i64 y) := fun w' h => h.old HD2.out
        go_wp2_with fail
        clear x0 x1 x2 x3 x4 c4
        go_region_held3 (fun w' => BoxS W w.heap.size (.cells #[.int .i64 d.id, .int .i64 d.fr, .bool d.snap, .slice (some ⟨b1, o1, none⟩) d.files.length ca, .int .i64 d.next] 24 (0, 0)) w') (first | assumption | exact BoxS.drew (by assumption) | exact BoxS.gb hS hg (by omega) (by assumption)) (first
          | (go_at_call 45; refine HCL.out.mono ?_; rintro e wT ⟨rfl, ⟨b4, hr4, hm4⟩, hg4⟩))
        have HR4 : Hid (Row wT g b4) := hr4
        have HL4 : Hid (LoopRel d.files q (k + 1) (bs.set q true) b4) := HLR.out.next HKG.out hm4
        have HG4 : Hid (W1.grownBy wT (some g)) := HGK.out.trans hg4
        clear z0 z1 z2 z3 z4 z5 z6 hr4 hm4 hg4
        go_wp2_with fail
        go_roundw
        case rel => exact ⟨k + 1, b4, by omega, by go_num, HR4, HL4, HG4⟩
        case measure => simp [intOf]; omega
      · have hkli : ¬ (k : Int) < ((d.files.getD q f0).list.length : Int) := by omega
        have HLF : Hid (LoopRel d.files q (kids d.files q).length (bs.set q true) b2) := by
          have e : k = (kids d.files q).length := by rw [HKL.out]; omega
          rw [← e]; exact HLR.out
        have HMR : Hid (MarkRel d.files q bs b2) := HLF.out.fin hqb
        generalize (d.files.getD q f0).list.length = LL at *
        go_wp2_with fail
        go_end0
        exact ⟨rfl, ⟨b2, HRK.out, HMR.out⟩, HG1.out.trans HGK.out⟩
  · rw [hbq] at r0
    have HMR : Hid (MarkRel d.files q bs bs) := MarkRel.same hbq
    go_wp2_with fail
    (try simp only [Exit.inBlock, Exit.then]); refine bodyPost_ret (results_none rfl _ _ _) rfl ?_
    exact ⟨rfl, ⟨bs, HR1.out, HMR.out⟩, gbOf HB1.out _⟩

theorem marks_any (v : Value) (d : VolD) (W : World) (hv : VolVal W v d) (hs : SmallV d) (hli : LinksIn d.files) (g cN : Nat) (hg : W.heap.size ≤ g) : ∀ (m : Nat) (bs : List Bool) (id : Int) (q : Nat) (w : World), bs.count false ≤ m → Below W.heap.size W w → Row w g bs → bs.length = d.files.length → atI d.files id = some q →
      Calls Tryz.prog 45 #[v, .int .i64 id, .slice (some ⟨g, 0, none⟩) bs.length cN] w fun e w' => e = .returned (.tuple #[]) ∧ (∃ bs', Row w' g bs' ∧ MarkRel d.files q bs bs') ∧ w.grownBy w' (some g) := by
  intro m
  induction m with
  | zero => intro bs id q w hm; exact marks_step v d W hv hs hli g cN (bs.count false) hg (fun b2 _ _ _ h => by omega) bs id q w rfl
  | succ m ih => intro bs id q w hm; exact marks_step v d W hv hs hli g cN (bs.count false) hg (fun b2 i2 q2 w2 h => ih b2 i2 q2 w2 (by omega)) bs id q w rfl

end Go.Proofs.YtdpighcaieajjaaGreat
