/- Laid together: Blocks, Named, Wakes, Spoil, Gonelaw, Delv, Delw. -/
import Derived.Test.YtbaphgdlbeaenaaReachSnapsM12
/- The rows of blocks that volumes' files have, by the program. -/
namespace Go.Proofs.Ytbaphgdlbeaenaa
open Go.RowKit

def OwnRows (w : World) (base : Nat) (v : Value) (rs : List RowD) : Prop := w.ownsRow base 30 1 v rs.length (rs.map rowV)
/-- the files' rows of blocks -/
def rowsV (d : VolD) : List (List Int) := d.files.map FileD.blocks
def rowsW (ds : List VolD) : List (List Int) := ds.flatMap rowsV
theorem rowsW_take {ds : List VolD} {k : Nat} (hk : k < ds.length) : rowsW (ds.take (k + 1)) = rowsW (ds.take k) ++ rowsV (ds.getD k VZ) := by
  unfold rowsW
  rw [List.take_succ_eq_append_getElem hk, List.flatMap_append]; simp [List.getD, hk]
theorem rowsW_take_le (ds : List VolD) (k : Nat) : (rowsW (ds.take k)).length ≤ (rowsW ds).length := by
  have e : rowsW ds = rowsW (ds.take k) ++ rowsW (ds.drop k) := by
    unfold rowsW
    rw [← List.flatMap_append, List.take_append_drop]
  rw [e, List.length_append]; omega
theorem Try.info30 : (Try.prog.info? 30).map (fun i => (i.zero, i.size, i.bytes)) = some (some (.slice none 0 0), 1, 24) := by kernel_rfl
theorem OwnRows.at {w : World} {base : Nat} {v : Value} {rs : List RowD} (h : OwnRows w base v rs) (hg : ∀ r ∈ rs, RowOk w r) : ∃ a cap, v = .slice a rs.length cap ∧ RowsAt w a rs ∧ CapOk a cap rs.length := by
  have hh := h
  rcases h.2 with ⟨hv, hn⟩ | ⟨g, cap, cur, hv, hb, _, hnc, _⟩
  · exact ⟨none, 0, by rw [hv, hn], .inl (List.length_eq_zero_iff.1 hn), by omega, (fun _ => rfl), (fun p e => by cases e)⟩
  · refine ⟨_, cap, hv, .inr ⟨g, 0, rfl, fun i hi => ⟨?_, ?_⟩⟩, hnc, (fun e => by cases e), (fun p e _ => by injection e with e; rw [← e])⟩
    · have := World.ownsRow.cells hh (g := g) (by rw [hv]; rfl) i (rowV (rs.getD i rw0)) (by simp [hi])
      rwa [addr_add] at this
    · exact hg _ (by simp [List.getD, hi])
theorem OwnRows.snoc {w : World} {base : Nat} {v : Value} {rs : List RowD} {r : RowD} (h : w.ownsRow base 30 1 v (rs.length + 1) (rs.map rowV ++ [rowV r])) : OwnRows w base v (rs ++ [r]) := by
  unfold OwnRows
  rw [List.map_append, List.length_append]; exact h
/-- rows made by the call, that lead to memory that is there -/
structure RowsR (w w' : World) (v : Value) (rs : List RowD) (ls : List (List Int)) : Prop where
  own : OwnRows w' w.heap.size v rs
  ok : ∀ r ∈ rs, RowOk w r
  is : rs.map (fun r => r.2.2) = ls
  bel : Below w.heap.size w w'
theorem RowsR.len {w w' : World} {v : Value} {rs : List RowD} {ls : List (List Int)} (h : RowsR w w' v rs ls) : rs.length = ls.length := by rw [← h.is, List.length_map]
theorem RowsR.below {w w' w2 : World} {v : Value} {rs : List RowD} {ls : List (List Int)} (h : RowsR w w' v rs ls) (hb : Below w'.heap.size w' w2) : RowsR w w2 v rs ls :=
  ⟨own_below h.own hb, h.ok, h.is, nwT h.bel hb⟩
theorem RowsR.at {w w' : World} {v : Value} {rs : List RowD} {ls : List (List Int)} (h : RowsR w w' v rs ls) : ∃ a cap, v = .slice a rs.length cap ∧ RowsAt w' a rs ∧ CapOk a cap rs.length := h.own.at fun r hr => (h.ok r hr).below h.bel

set_option maxRecDepth 100000 in
set_option maxHeartbeats 4000000 in
theorem blocks_any (a : Option Addr) (ds : List VolD) (ca : Nat) (w : World) (hv : VolsAt w a ds) (hl : ds.length ≤ 100000) (hn : (rowsW ds).length ≤ 1000000) (hs : ∀ d ∈ ds, d.files.length ≤ 100000) :
    Calls Try.prog 29 #[.slice a ds.length ca] w fun e w' => ∃ v rs, e = .returned v ∧ RowsR w w' v rs (rowsW ds) := by
  have HF : Hid (VolsAt w a ds) := hv
  have HN : Hid ((rowsW ds).length ≤ 1000000) := hn
  have HS : Hid (∀ d ∈ ds, d.files.length ≤ 100000) := hs
  clear hv hn hs
  obtain ⟨i0, hi, hz0, hz1, hz2⟩ := info_parts Try.info30
  go_enter Try.func29, Try.ntmps29
  go_wp2_with fail
  go_loopw [3, 10] (fun v i wr => ∃ (k : Nat) (rs : List RowD), k ≤ ds.length ∧ i = .int .i64 k ∧ Hid (RowsR w wr v rs (rowsW (ds.take k))))
    (fun _ i _ => ds.length - (intOf i).toNat)
  case atStart => exact ⟨0, [], by omega, rfl, World.ownsRow_nil _ _ _ _, by simp, by simp [rowsW], nwR w⟩
  case round =>
    obtain ⟨k, rs, hk, rfl, HR⟩ := hrel
    by_cases hkl : k < ds.length
    · have hkli : (k : Int) < (ds.length : Int) := by omega
      obtain ⟨b1, o1, rfl, hf⟩ := HF.out.vol hkl
      obtain ⟨af, cf, ⟨e0, e1, e2, e3, e4⟩, hfs, _⟩ := hf
      have c0 := (HR.out.bel.cell (p := ⟨b1, o1 + k * 5, none⟩) (block_lt_of_cell e0)).trans e0
      have c1 := (HR.out.bel.cell (p := ⟨b1, o1 + k * 5 + 1, none⟩) (block_lt_of_cell e1)).trans e1
      have c2 := (HR.out.bel.cell (p := ⟨b1, o1 + k * 5 + 2, none⟩) (block_lt_of_cell e2)).trans e2
      have c3 := (HR.out.bel.cell (p := ⟨b1, o1 + k * 5 + 3, none⟩) (block_lt_of_cell e3)).trans e3
      have c4 := (HR.out.bel.cell (p := ⟨b1, o1 + k * 5 + 4, none⟩) (block_lt_of_cell e4)).trans e4
      have HFS : Hid (FilesAt w af (ds.getD k VZ).files) := hfs
      clear e0 e1 e2 e3 e4
      have HT : Hid (rowsW (ds.take (k + 1)) = rowsW (ds.take k) ++ rowsV (ds.getD k VZ)) := rowsW_take hkl
      have hle : (rowsW (ds.take k)).length + (rowsV (ds.getD k VZ)).length ≤ 1000000 := by
        rw [← List.length_append, ← HT.out]; exact Nat.le_trans (rowsW_take_le ds _) HN.out
      have hfl : (ds.getD k VZ).files.length ≤ 100000 := HS.out _ (by simp [List.getD, hkl])
      generalize ds.getD k VZ = d at c0 c1 c2 c3 c4 HFS HT hle hfl
      generalize rowsW (ds.take k) = pre at HR HT hle
      obtain ⟨vid, fr, sn, fs, nx⟩ := d
      simp only [rowsV] at *
      clear hfs
      have HRA : Hid (RowsR w (wr.alloc (.cells #[.int .i64 vid, .int .i64 fr, .bool sn, .slice af fs.length cf, .int .i64 nx] 47)) u3 rs (pre ++ (fs.take 0).map FileD.blocks)) := by
        show RowsR _ _ _ _ _
        rw [List.take_zero, List.map_nil, List.append_nil]
        exact HR.out.below (nwA (nwR wr) _)
      clear HR
      go_wp2_with fail
      go_loopw [3, 17] (fun v i wr => ∃ (j : Nat) (rs : List RowD), j ≤ fs.length ∧ i = .int .i64 j ∧ Hid (RowsR w wr v rs (pre ++ (fs.take j).map FileD.blocks)))
        (fun _ i _ => fs.length - (intOf i).toNat)
      case atStart => exact ⟨0, rs, by omega, rfl, HRA⟩
      case round =>
        obtain ⟨j, rs, hj, rfl, HI⟩ := hrel
        clear HRA c0 c1 c2 c3 c4
        by_cases hjl : j < fs.length
        · have hjli : (j : Int) < (fs.length : Int) := by omega
          obtain ⟨b2, o2, rfl, ab, cb, al, cl, ⟨e0, e1, e2, e3, e4⟩, ⟨hib, hcb⟩, _⟩ := HFS.out.file hjl
          have d0 := (HI.out.bel.cell (p := ⟨b2, o2 + j * 5, none⟩) (block_lt_of_cell e0)).trans e0
          have d1 := (HI.out.bel.cell (p := ⟨b2, o2 + j * 5 + 1, none⟩) (block_lt_of_cell e1)).trans e1
          have d2 := (HI.out.bel.cell (p := ⟨b2, o2 + j * 5 + 2, none⟩) (block_lt_of_cell e2)).trans e2
          have d3 := (HI.out.bel.cell (p := ⟨b2, o2 + j * 5 + 3, none⟩) (block_lt_of_cell e3)).trans e3
          have d4 := (HI.out.bel.cell (p := ⟨b2, o2 + j * 5 + 4, none⟩) (block_lt_of_cell e4)).trans e4
          clear e0 e1 e2 e3 e4
          have HT2 : Hid (pre ++ (fs.take (j + 1)).map FileD.blocks = (pre ++ (fs.take j).map FileD.blocks) ++ [(fs.getD j f0).blocks]) := by
            show _ = _
            rw [List.take_succ_eq_append_getElem hjl, List.map_append, List.append_assoc]; simp [List.getD, hjl]
          have hrl : rs.length ≤ 1000000 := by
            rw [HI.out.len, List.length_append, List.length_map, List.length_take]
            simp at hle
            omega
          generalize fs.getD j f0 = f at d0 d1 d2 d3 d4 hib hcb HT2
          obtain ⟨fid, dir, size, bl, li⟩ := f
          simp only at *
          have HIB : Hid (IntsAt w ab bl) := hib
          have HCB : Hid (ab = none → cb = 0) := hcb.2.1
          clear hib hcb
          have hsz : w.heap.size ≤ ((wr.alloc (.cells #[.int .i64 fid, .bool dir, .int .i64 size, .slice ab bl.length cb, .slice al li.length cl] 61)).alloc (.cells #[.slice ab bl.length cb] 30)).heap.size := (nwA (nwA HI.out.bel _) _).size
          have HC : Hid (∀ j u, [Value.slice ab bl.length cb][j]? = some u → ((wr.alloc (.cells #[.int .i64 fid, .bool dir, .int .i64 size, .slice ab bl.length cb, .slice al li.length cl] 61)).alloc (.cells #[.slice ab bl.length cb] 30)).cell? ((⟨wr.heap.size + 1, 0, none⟩ : Addr).add j) = some u) := by
            have h := cells_new (wr.alloc (.cells #[.int .i64 fid, .bool dir, .int .i64 size, .slice ab bl.length cb, .slice al li.length cl] 61)) [.slice ab bl.length cb] 30
            rw [show (wr.alloc (.cells #[.int .i64 fid, .bool dir, .int .i64 size, .slice ab bl.length cb, .slice al li.length cl] 61)).heap.size = wr.heap.size + 1 from by simp] at h
            exact h
          have hc3 : rs.length + 1 ≤ maxLen := by unfold maxLen; omega
          have hc4 : (rs.length + 1) * 24 ≤ 140737488355328 := by omega
          have HA2 : Hid (RowsR w ((wr.alloc (.cells #[.int .i64 fid, .bool dir, .int .i64 size, .slice ab bl.length cb, .slice al li.length cl] 61)).alloc (.cells #[.slice ab bl.length cb] 30)) u3 rs (pre ++ (fs.take j).map FileD.blocks)) := HI.out.below (nwA (nwA (nwR wr) _) _)
          go_wp2_with (at_builtin; refine wpList_append_own _ rfl (.tmp 21) (.tmp 24) 26 rfl w.heap.size 30 i0 (.slice none 0 0) 1 24 Try.underlying26 hi hz0 hz1 hz2 rfl (by decide) u3 rs.length (rs.map rowV) rfl HA2.out.own ⟨wr.heap.size + 1, 0, none⟩ 1 1 [.slice ab bl.length cb] rfl rfl HC.out (by simp [Value.oneCell']) hc3 hc4 hsz ?_; intro v' w3 hown hgrow _; refine unstop ?_)
          unfold Stop
          have HR3 : Hid (RowsR w w3 v' (rs ++ [(ab, cb, bl)]) (pre ++ (fs.take (j + 1)).map FileD.blocks)) := by
            refine ⟨OwnRows.snoc hown, fun r hr => ?_, ?_, HA2.out.bel.grown hgrow hsz (fun q e => (World.ownsRow.lt HA2.out.own q e).1)⟩
            · rcases List.mem_append.1 hr with h | h
              · exact HA2.out.ok r h
              · simp only [List.mem_singleton] at h
                subst h
                exact ⟨HIB.out, HCB.out⟩
            · rw [HT2.out, ← HA2.out.is, List.map_append]; rfl
          clear hown hgrow HA2
          go_wp2_with fail
          go_roundw
          case rel => exact ⟨j + 1, _, by omega, by go_num, HR3⟩
          case measure => simp [intOf]; omega
        · have hjli : ¬ (j : Int) < (fs.length : Int) := by omega
          have HE : Hid (RowsR w wr u3 rs (rowsW (ds.take (k + 1)))) := by
            have := HI.out
            rw [List.take_of_length_le (by omega), ← HT.out] at this
            exact this
          clear HI
          go_wp2_with fail
          go_roundw
          case rel => exact ⟨k + 1, _, by omega, by go_num, HE⟩
          case measure => simp [intOf]; omega
    · have hkli : ¬ (k : Int) < (ds.length : Int) := by omega
      have HE : Hid (RowsR w wr u3 rs (rowsW ds)) := by have := HR.out; rw [List.take_of_length_le (by omega)] at this; exact this
      clear HR
      obtain ⟨av, cv, rfl, _⟩ := id HE.out.at
      go_wp2_with fail
      go_ret
      exact ⟨_, rfl, _, HE.out⟩

end Go.Proofs.Ytbaphgdlbeaenaa

/- Which blocks volumes name, by the program. -/
namespace Go.Proofs.Ytbaphgdlbeaenaa
open Go.RowKit

/-- all blocks' IDs, in order, as often as they stand -/
def placesW (ds : List VolD) : List Int := (rowsW ds).flatten
theorem RowsR.all {w w' : World} {v : Value} {rs : List RowD} {ls : List (List Int)} (h : RowsR w w' v rs ls) : allN rs = ls.flatten := by unfold allN; rw [h.is]
theorem nodeOk_blocks {f : FileD} (h : NodeOk f) : f.blocks.length ≤ 7 := by
  unfold NodeOk at h
  split at h
  · have := h.2.1; omega
  · obtain ⟨_, h1, h2, _⟩ := h
    unfold numB at h1
    simp at h1
    omega
theorem flat_le : ∀ (ls : List (List Int)) (n : Nat), (∀ l ∈ ls, l.length ≤ n) → ls.flatten.length ≤ ls.length * n
  | [], n, _ => by simp
  | l :: ls, n, h => by
    have h1 := h l (by simp)
    have h2 := flat_le ls n (fun x hx => h x (by simp [hx]))
    rw [List.flatten_cons, List.length_append, List.length_cons, Nat.succ_mul]
    omega
theorem flatMap_le {α : Type} {β : Type} (f : α → List β) : ∀ (ls : List α) (n : Nat), (∀ l ∈ ls, (f l).length ≤ n) → (ls.flatMap f).length ≤ ls.length * n
  | [], n, _ => by simp
  | l :: ls, n, h => by
    have h1 := h l (by simp)
    have h2 := flatMap_le f ls n (fun x hx => h x (by simp [hx]))
    rw [List.flatMap_cons, List.length_append, List.length_cons, Nat.succ_mul]
    omega
theorem VolOk.files {d : VolD} (h : VolOk d) : d.files.length ≤ 16 ∧ ∀ f ∈ d.files, f.blocks.length ≤ 7 := by
  obtain ⟨_, ⟨⟨_, h1, _⟩, h2⟩, _⟩ := h
  refine ⟨h1, fun f hf => ?_⟩
  obtain ⟨i, hi, rfl⟩ := List.getElem_of_mem hf
  have := nodeOk_blocks (h2 i hi).2
  simpa [List.getD, hi] using this
theorem VolsOk.vol {ds : List VolD} {next : Int} (h : VolsOk ds next) : ∀ d ∈ ds, VolOk d := fun d hd => by
  obtain ⟨i, hi, rfl⟩ := List.getElem_of_mem hd
  have := (h.2 i hi).1
  simpa [List.getD, hi] using this
/-- few enough -/
structure FewW (ds : List VolD) : Prop where
  vols : ds.length ≤ 100000
  files : ∀ d ∈ ds, d.files.length ≤ 100000
  rows : (rowsW ds).length ≤ 1000
  all : (placesW ds).length ≤ 10000
theorem few_of {ds : List VolD} (h4 : ds.length ≤ 5) (h : ∀ d ∈ ds, VolOk d) : FewW ds := by
  have h1 : (rowsW ds).length ≤ ds.length * 16 := flatMap_le rowsV ds 16 (fun d hd => by unfold rowsV; rw [List.length_map]; exact (h d hd).files.1)
  have h2 : (placesW ds).length ≤ (rowsW ds).length * 7 := flat_le _ 7 (fun l hl => by
    unfold rowsW at hl
    obtain ⟨d, hd, hl⟩ := List.mem_flatMap.1 hl
    unfold rowsV at hl
    obtain ⟨f, hf, rfl⟩ := List.mem_map.1 hl
    exact (h d hd).files.2 f hf)
  exact ⟨by omega, fun d hd => by have := (h d hd).files.1; omega, by omega, by omega⟩
theorem VolsOk.few {ds : List VolD} {next : Int} (h : VolsOk ds next) : FewW ds := few_of (by have := h.1.1; omega) h.vol

/-- what a call that takes volumes tells: the error, and numbers -/
def TellR (ok : Prop) (xs : List Int) (base : Nat) (e : Ending) (w' : World) : Prop := ∃ u er ys, e = .returned (.tuple #[u, .int .i64 er]) ∧ OwnInts w' base u ys ∧ ((ok ∧ er = 0 ∧ ys = xs) ∨ (¬ ok ∧ er = 1 ∧ ys = []))

set_option maxRecDepth 100000 in
set_option maxHeartbeats 4000000 in
theorem named_any (a : Option Addr) (ds : List VolD) (ca : Nat) (next : Int) (w : World) (hv : VolsAt w a ds) (hs : SmallW ds) :
    Calls Try.prog 14 #[.slice a ds.length ca, .int .i64 next] w fun e w' => TellR (VolsOk ds next) (risN (placesW ds)) w.heap.size e w' ∧ Below w.heap.size w w' := by
  have HV : Hid (VolsAt w a ds) := hv
  have HS : Hid (SmallW ds) := hs
  clear hv hs
  go_enter Try.func14, Try.ntmps14
  go_wp2_with fail
  refine (vcheck_any a ds ca next w HV.out HS.out).mono ?_
  rintro e w1 ⟨⟨b, hb, rfl⟩, hb1⟩
  have HB1 : Hid (Below w.heap.size w w1) := hb1
  cases b
  case false =>
    have HQ : Hid (TellR (VolsOk ds next) (risN (placesW ds)) w.heap.size (.returned (.tuple #[.slice none 0 0, .int .i64 1])) w1) := ⟨_, _, [], rfl, World.ownsRow_nil _ _ _ _, .inr ⟨fun h => by simpa using hb.2 h, rfl, rfl⟩⟩
    simp only [errI_f]
    clear hb hb1
    go_wp2_with fail
    go_ret2
    exact ⟨HQ.out, HB1.out⟩
  case true =>
    have hok := hb.1 rfl
    have HOK : Hid (VolsOk ds next) := hok
    have hf := hok.few
    have HBL : Hid (Calls Try.prog 29 #[.slice a ds.length ca] w1 fun e w' => ∃ v rs, e = .returned v ∧ RowsR w1 w' v rs (rowsW ds)) := blocks_any a ds ca w1 (HV.out.below hb1) hf.vols (by have := hf.rows; omega) hf.files
    have HF : Hid (FewW ds) := hf
    simp only [errI_t]
    clear hb hb1 hok hf
    go_wp2_with fail
    refine HBL.out.mono ?_
    rintro e w2 ⟨v, rs, rfl, hr⟩
    have HR : Hid (RowsR w1 w2 v rs (rowsW ds)) := hr
    obtain ⟨av, cv, rfl, hat, _⟩ := hr.at
    have HSO : Hid (Calls Try.prog 28 #[.slice av rs.length cv] w2 fun e w' => (∃ v, e = .returned v ∧ OwnInts w' w2.heap.size v (risN (allN rs))) ∧ Below w2.heap.size w2 w') := setOf_any av rs cv w2 hat (by rw [HR.out.len]; have := HF.out.rows; omega) (by rw [HR.out.all]; exact Nat.le_trans HF.out.all (by omega))
    clear hat HBL
    go_wp2_with fail
    refine HSO.out.mono ?_
    rintro e w3 ⟨⟨u, rfl, hO⟩, hb3⟩
    have hb13 : Below w.heap.size w w3 := nwT (nwT HB1.out HR.out.bel) hb3
    have HB3 : Hid (Below w.heap.size w w3) := hb13
    have HO3 : Hid (OwnInts w3 w.heap.size u (risN (placesW ds))) := by
      rw [HR.out.all] at hO
      exact own_le hO (nwT HB1.out HR.out.bel).size
    have HQ : Hid (TellR (VolsOk ds next) (risN (placesW ds)) w.heap.size (.returned (.tuple #[u, .int .i64 0])) w3) := ⟨_, _, _, rfl, HO3.out, .inl ⟨HOK.out, rfl, rfl⟩⟩
    obtain ⟨au, cu, rfl, _⟩ := id HO3.out.at
    clear hO hb3 hb13 HSO
    go_wp2_with fail
    go_ret2
    exact ⟨HQ.out, HB3.out⟩

end Go.Proofs.Ytbaphgdlbeaenaa

/- A volume of one file with one block names that block: what each law asks at its end. -/
namespace Go.Proofs.Ytbaphgdlbeaenaa
open Go.RowKit

def na : ByteArray := ⟨#[97]⟩
def wkD : VolD := ⟨1, 0, false, [⟨1, true, 0, [], [(na, 2)]⟩, ⟨2, false, 1, [7], []⟩], 3⟩
theorem wk_ok : VolOk wkD := by
  refine ⟨by unfold NumOk; decide +kernel, ⟨by unfold HeadOk; decide +kernel, fun k hk => ?_⟩, ⟨fun f hf l hl => ?_, fun k hk => ?_⟩, fun i hi => ?_, by decide +kernel⟩
  · have : k = 0 ∨ k = 1 := by simp [wkD] at hk; omega
    rcases this with rfl | rfl
    · refine ⟨by unfold IdOk; decide +kernel, ?_⟩
      unfold NodeOk
      refine ⟨by decide +kernel, by decide +kernel, by decide +kernel, fun k hk => ?_⟩
      have : k = 0 := by simp [wkD, List.getD] at hk; omega
      subst this
      exact ⟨by decide +kernel, fun h => absurd h (by omega)⟩
    · refine ⟨by unfold IdOk; decide +kernel, ?_⟩
      unfold NodeOk
      refine ⟨by decide +kernel, by decide +kernel, by decide +kernel, fun k hk => ?_⟩
      have : k = 0 := by simp [wkD, List.getD] at hk; omega
      subst this
      decide +kernel
  · have h : f = ⟨1, true, 0, [], [(na, 2)]⟩ ∨ f = ⟨2, false, 1, [7], []⟩ := by simpa [wkD] using hf
    rcases h with rfl | rfl
    · simp at hl; subst hl; decide +kernel
    · simp at hl
  · have : k = 0 ∨ k = 1 := by simp [wkD] at hk; omega
    rcases this with rfl | rfl
    · exact ⟨fun _ => by decide +kernel, fun h => absurd (by decide +kernel) h⟩
    · exact ⟨fun h => absurd h (by decide +kernel), fun _ => ⟨by decide +kernel, fun h => absurd h (by decide +kernel)⟩⟩
  · have : i = 0 ∨ i = 1 := by simp [wkD] at hi; omega
    rcases this with rfl | rfl
    · exact .root
    · exact .step .root (by decide +kernel)
theorem wks_ok : VolsOk [wkD] 2 := by
  refine ⟨⟨by simp, by omega, by omega⟩, fun k hk => ?_⟩
  have : k = 0 := by simpa using hk
  subst this
  exact ⟨wk_ok, ⟨by decide +kernel, by decide +kernel⟩, fun h => absurd h (by decide +kernel)⟩
theorem wks_small : SmallW [wkD] := ⟨by simp, fun d hd => by
  simp at hd; subst hd
  exact ⟨by simp [wkD], fun f hf => by
    have h : f = ⟨1, true, 0, [], [(na, 2)]⟩ ∨ f = ⟨2, false, 1, [7], []⟩ := by simpa [wkD] using hf
    rcases h with rfl | rfl <;> exact ⟨by simp, by simp⟩⟩⟩
theorem wks_named : risN (placesW [wkD]) = [7] := by decide +kernel

theorem errnum_any (er : Int) (w : World) : Calls Try.prog 15 #[.int .i64 er] w fun e w' => e = .returned (.int .i64 er) ∧ w' = w := by
  go_enter Try.func15, Try.ntmps15
  go_wp2_with fail
  go_ret
  exact ⟨rfl, rfl⟩
theorem errnum_is (er r : Int) (h : er = r) (w : World) : Calls Try.prog 15 #[.int .i64 er] w fun e w' => e = .returned (.int .i64 r) ∧ w' = w := by
  subst h; exact errnum_any er w
theorem eqNums_is (a b : Option Addr) (xs ys : List Int) (ca cb : Nat) (r : Bool) (w : World) (hx : IntsAt w a xs) (hy : IntsAt w b ys) (hl : xs.length ≤ maxLen) (hr : decide (xs = ys) = r) :
    Calls Try.prog 8 #[.slice a xs.length ca, .slice b ys.length cb] w fun e w' => e = .returned (.bool r) ∧ ∃ q, w' = w.drewN q := by
  rw [← hr]; exact eqNums_any a b xs ys ca cb w hx hy hl

/-- where the builds of the walk lay it -/
def wkW (w : World) : World := (((w.alloc (.cells #[.string ⟨#[97]⟩, .int .i64 2] 58)).alloc (.cells #[.int .i64 7] 3)).alloc (.cells #[.int .i64 1, .bool true, .int .i64 0, .slice none 0 0, .slice (some ⟨w.heap.size, 0, none⟩) 1 1, .int .i64 2, .bool false, .int .i64 1, .slice (some ⟨w.heap.size + 1, 0, none⟩) 1 1, .slice none 0 0] 61)).alloc (.cells #[.int .i64 1, .int .i64 0, .bool false, .slice (some ⟨w.heap.size + 1 + 1, 0, none⟩) 2 2, .int .i64 3] 47)
theorem wkW_blocks (w : World) : (wkW w).heap[w.heap.size]? = some (.cells #[.string ⟨#[97]⟩, .int .i64 2] 58 (0, 0)) ∧ (wkW w).heap[w.heap.size + 1]? = some (.cells #[.int .i64 7] 3 (0, 0)) ∧ (wkW w).heap[w.heap.size + 1 + 1]? = some (.cells #[.int .i64 1, .bool true, .int .i64 0, .slice none 0 0, .slice (some ⟨w.heap.size, 0, none⟩) 1 1, .int .i64 2, .bool false, .int .i64 1, .slice (some ⟨w.heap.size + 1, 0, none⟩) 1 1, .slice none 0 0] 61 (0, 0)) ∧ (wkW w).heap[w.heap.size + 1 + 1 + 1]? = some (.cells #[.int .i64 1, .int .i64 0, .bool false, .slice (some ⟨w.heap.size + 1 + 1, 0, none⟩) 2 2, .int .i64 3] 47 (0, 0)) := by
  unfold wkW
  have hA := heap_alloc_new w (.cells #[.string ⟨#[97]⟩, .int .i64 2] 58)
  have sA : (w.alloc (.cells #[.string ⟨#[97]⟩, .int .i64 2] 58)).heap.size = w.heap.size + 1 := by simp
  generalize w.alloc (.cells #[.string ⟨#[97]⟩, .int .i64 2] 58) = A at hA sA ⊢
  have hB := heap_alloc_new A (.cells #[.int .i64 7] 3)
  have bB : Below A.heap.size A (A.alloc (.cells #[.int .i64 7] 3)) := nwA (nwR A) _
  have sB : (A.alloc (.cells #[.int .i64 7] 3)).heap.size = w.heap.size + 1 + 1 := by simp [sA]
  rw [sA] at hB
  generalize A.alloc (.cells #[.int .i64 7] 3) = B at hB bB sB ⊢
  have hC := heap_alloc_new B (.cells #[.int .i64 1, .bool true, .int .i64 0, .slice none 0 0, .slice (some ⟨w.heap.size, 0, none⟩) 1 1, .int .i64 2, .bool false, .int .i64 1, .slice (some ⟨w.heap.size + 1, 0, none⟩) 1 1, .slice none 0 0] 61)
  have bC : Below B.heap.size B (B.alloc (.cells #[.int .i64 1, .bool true, .int .i64 0, .slice none 0 0, .slice (some ⟨w.heap.size, 0, none⟩) 1 1, .int .i64 2, .bool false, .int .i64 1, .slice (some ⟨w.heap.size + 1, 0, none⟩) 1 1, .slice none 0 0] 61)) := nwA (nwR B) _
  have sC : (B.alloc (.cells #[.int .i64 1, .bool true, .int .i64 0, .slice none 0 0, .slice (some ⟨w.heap.size, 0, none⟩) 1 1, .int .i64 2, .bool false, .int .i64 1, .slice (some ⟨w.heap.size + 1, 0, none⟩) 1 1, .slice none 0 0] 61)).heap.size = w.heap.size + 1 + 1 + 1 := by simp [sB]
  rw [sB] at hC
  generalize B.alloc (.cells #[.int .i64 1, .bool true, .int .i64 0, .slice none 0 0, .slice (some ⟨w.heap.size, 0, none⟩) 1 1, .int .i64 2, .bool false, .int .i64 1, .slice (some ⟨w.heap.size + 1, 0, none⟩) 1 1, .slice none 0 0] 61) = C at hC bC sC ⊢
  have hD := heap_alloc_new C (.cells #[.int .i64 1, .int .i64 0, .bool false, .slice (some ⟨w.heap.size + 1 + 1, 0, none⟩) 2 2, .int .i64 3] 47)
  have bD : Below C.heap.size C (C.alloc (.cells #[.int .i64 1, .int .i64 0, .bool false, .slice (some ⟨w.heap.size + 1 + 1, 0, none⟩) 2 2, .int .i64 3] 47)) := nwA (nwR C) _
  rw [sC] at hD
  refine ⟨?_, ?_, ?_, hD⟩
  · exact (bD.block _ (by omega)).trans ((bC.block _ (by omega)).trans ((bB.block _ (by omega)).trans hA))
  · exact (bD.block _ (by omega)).trans ((bC.block _ (by omega)).trans hB)
  · exact (bD.block _ (by omega)).trans hC
theorem wkW_at (w : World) : VolsAt (wkW w) (some ⟨w.heap.size + 1 + 1 + 1, 0, none⟩) [wkD] := by
  obtain ⟨hA, hB, hC, hD⟩ := wkW_blocks w
  generalize wkW w = W at hA hB hC hD ⊢
  refine .inr ⟨w.heap.size + 1 + 1 + 1, 0, rfl, fun i hi => ?_⟩
  have : i = 0 := by simpa using hi
  subst this
  refine ⟨some ⟨w.heap.size + 1 + 1, 0, none⟩, 2, ⟨by rw [Lib.cell_of_heap hD]; rfl, by rw [Lib.cell_of_heap hD]; rfl, by rw [Lib.cell_of_heap hD]; rfl, by rw [Lib.cell_of_heap hD]; rfl, by rw [Lib.cell_of_heap hD]; rfl⟩, ?_, ?_⟩
  · refine .inr ⟨w.heap.size + 1 + 1, 0, rfl, fun i hi => ?_⟩
    have : i = 0 ∨ i = 1 := by simp [wkD] at hi; omega
    rcases this with rfl | rfl
    · refine ⟨none, 0, some ⟨w.heap.size, 0, none⟩, 1, ⟨by rw [Lib.cell_of_heap hC]; rfl, by rw [Lib.cell_of_heap hC]; rfl, by rw [Lib.cell_of_heap hC]; rfl, by rw [Lib.cell_of_heap hC]; rfl, by rw [Lib.cell_of_heap hC]; rfl⟩, ⟨.inl rfl, ?_⟩, ?_, ?_⟩
      · exact ⟨by simp [wkD], fun _ => rfl, fun p e => (by cases e)⟩
      · refine .inr ⟨w.heap.size, 0, rfl, fun i hi => ?_⟩
        have : i = 0 := by simpa [wkD] using hi
        subst this
        exact ⟨by rw [Lib.cell_of_heap hA]; rfl, by rw [Lib.cell_of_heap hA]; rfl⟩
      · exact ⟨by simp [wkD], fun e => (by cases e), fun p e h => (by injection e with e; rw [← e])⟩
    · refine ⟨some ⟨w.heap.size + 1, 0, none⟩, 1, none, 0, ⟨by rw [Lib.cell_of_heap hC]; rfl, by rw [Lib.cell_of_heap hC]; rfl, by rw [Lib.cell_of_heap hC]; rfl, by rw [Lib.cell_of_heap hC]; rfl, by rw [Lib.cell_of_heap hC]; rfl⟩, ⟨?_, ?_⟩, .inl rfl, ?_⟩
      · refine .inr ⟨w.heap.size + 1, 0, rfl, fun i hi => ?_⟩
        have : i = 0 := by simpa [wkD] using hi
        subst this
        rw [Lib.cell_of_heap hB]; rfl
      · exact ⟨by simp [wkD], fun e => (by cases e), fun p e h => (by injection e with e; rw [← e])⟩
      · exact ⟨by simp [wkD], fun _ => rfl, fun p e => (by cases e)⟩
  · exact ⟨by simp [wkD], fun e => (by cases e), fun p e h => (by injection e with e; rw [← e])⟩

set_option maxRecDepth 100000 in
set_option maxHeartbeats 4000000 in
theorem wakes_any (w : World) : Calls Try.prog 12 #[] w fun e w' => e = .returned (.bool true) ∧ Below w.heap.size w w' := by
  have HNA : Hid (Calls Try.prog 14 #[.slice (some ⟨w.heap.size + 1 + 1 + 1, 0, none⟩) 1 1, .int .i64 2] (wkW w) fun e w' => (∃ u, e = .returned (.tuple #[u, .int .i64 0]) ∧ OwnInts w' (wkW w).heap.size u [7]) ∧ Below (wkW w).heap.size (wkW w) w') := by
    refine (named_any _ [wkD] 1 2 (wkW w) (wkW_at w) wks_small).mono ?_
    rintro e w' ⟨⟨u, er, ys, rfl, h1, ⟨_, rfl, rfl⟩ | ⟨h, _⟩⟩, hb⟩
    · rw [wks_named] at h1
      exact ⟨⟨u, rfl, h1⟩, hb⟩
    · exact absurd wks_ok h
  have HB0 : Hid (Below w.heap.size w (wkW w)) := nwA (nwA (nwA (nwA (nwR w) _) _) _) _
  unfold wkW at HNA HB0
  go_enter Try.func12, Try.ntmps12
  go_wp2_with fail
  generalize (((w.alloc (.cells #[.string ⟨#[97]⟩, .int .i64 2] 58)).alloc (.cells #[.int .i64 7] 3)).alloc (.cells #[.int .i64 1, .bool true, .int .i64 0, .slice none 0 0, .slice (some ⟨w.heap.size, 0, none⟩) 1 1, .int .i64 2, .bool false, .int .i64 1, .slice (some ⟨w.heap.size + 1, 0, none⟩) 1 1, .slice none 0 0] 61)).alloc (.cells #[.int .i64 1, .int .i64 0, .bool false, .slice (some ⟨w.heap.size + 1 + 1, 0, none⟩) 2 2, .int .i64 3] 47) = W0 at HNA HB0 ⊢
  refine HNA.out.mono ?_
  rintro e w1 ⟨⟨u, rfl, ho⟩, hb⟩
  obtain ⟨au, cu, rfl, hau, _⟩ := id ho.at
  have HB1 : Hid (Below w.heap.size w w1) := nwT HB0.out hb
  have HAU : Hid (IntsAt w1 au [7]) := hau
  clear HNA hau ho hb
  go_wp2_with (go_at_call 15; refine (errnum_any _ _).mono ?_; rintro e w' ⟨rfl, rfl⟩)
  rename World => w2
  have HEQ : Hid (Calls Try.prog 8 #[.slice au 1 cu, .slice (some ⟨w2.heap.size, 0, none⟩) 1 1] (w2.alloc (.cells #[.int .i64 7] 3)) fun e w' => e = .returned (.bool true) ∧ ∃ q, w' = (w2.alloc (.cells #[.int .i64 7] 3)).drewN q) :=
    eqNums_is au _ [7] [7] cu 1 true _ (HAU.out.below (nwA (nwR w2) _)) (.inr ⟨w2.heap.size, 0, rfl, fun i hi => by
      have : i = 0 := by simpa using hi
      subst this; simp⟩) (by decide) (by decide)
  have HB2 : Hid (Below w.heap.size w (w2.alloc (.cells #[.int .i64 7] 3))) := nwA HB1.out _
  refine HEQ.out.mono ?_
  rintro e w3 ⟨rfl, q, rfl⟩
  clear HEQ
  go_wp2_with fail
  go_ret
  exact ⟨rfl, below_drewN HB2.out q⟩

end Go.Proofs.Ytbaphgdlbeaenaa

/- An answer written over. -/
namespace Go.Proofs.Ytbaphgdlbeaenaa
open Go.RowKit

/-- a row of one's own, of any content -/
def RowX (w : World) (base top : Nat) (e : TypeId) (size : Nat) (v : Value) (n : Nat) : Prop :=
  (v = .slice none 0 0 ∧ n = 0) ∨ ∃ g cap cur, v = .slice (some ⟨g, 0, none⟩) n cap ∧ (base ≤ g ∧ g < top) ∧ w.heap[g]? = some (.cells cur e (0, 0)) ∧ n * size ≤ cur.size
theorem RowX.of_own {w : World} {base : Nat} {e : TypeId} {size : Nat} {v : Value} {n : Nat} {xs : List Value} (h : w.ownsRow base e size v n xs) : RowX w base w.heap.size e size v n := by
  rcases h.2 with h1 | ⟨g, cap, cur, hv, hb, hh, hnc, _, hcs, _⟩
  · exact .inl h1
  · exact .inr ⟨g, cap, cur, hv, ⟨hb, (Array.getElem?_eq_some_iff.1 hh).1⟩, hh, by rw [hcs]; exact Nat.mul_le_mul_right _ hnc⟩
theorem RowX.setCell {w : World} {base top : Nat} {e : TypeId} {size : Nat} {v : Value} {n : Nat} (h : RowX w base top e size v n) (g j : Nat) (u : Value) : RowX (w.setCell ⟨g, j, none⟩ u) base top e size v n := by
  rcases h with h | ⟨g', cap, cur, hv, hb, hh, hc⟩
  · exact .inl h
  · by_cases hg : g' = g
    · subst hg
      exact .inr ⟨g', cap, cur.setIfInBounds j u, hv, hb, heap_setCell_same w g' j cur e u hh, by simpa using hc⟩
    · exact .inr ⟨g', cap, cur, hv, hb, by rw [heap_setCell_other w ⟨g, j, none⟩ g' u hg]; exact hh, hc⟩
theorem RowX.below {w w' : World} {base top : Nat} {e : TypeId} {size : Nat} {v : Value} {n : Nat} (h : RowX w base top e size v n) (hb : Below w.heap.size w w') : RowX w' base top e size v n := by
  rcases h with h | ⟨g', cap, cur, hv, hb', hh, hc⟩
  · exact .inl h
  · exact .inr ⟨g', cap, cur, hv, hb', (hb.block _ (Array.getElem?_eq_some_iff.1 hh).1).trans hh, hc⟩
theorem RowX.lit {w : World} {base top : Nat} {e : TypeId} {size : Nat} {v : Value} {n : Nat} (h : RowX w base top e size v n) : ∃ a cap, v = .slice a n cap ∧ RowX w base top e size (.slice a n cap) n := by
  rcases id h with ⟨rfl, rfl⟩ | ⟨g', cap, cur, rfl, _⟩
  · exact ⟨none, 0, rfl, h⟩
  · exact ⟨_, _, rfl, h⟩
theorem RowX.cell {w : World} {base top : Nat} {e : TypeId} {size : Nat} {a : Option Addr} {n cap : Nat} (h : RowX w base top e size (.slice a n cap) n) (hn : 0 < n) :
    ∃ g cur, a = some ⟨g, 0, none⟩ ∧ (base ≤ g ∧ g < top) ∧ w.heap[g]? = some (.cells cur e (0, 0)) ∧ (∀ i, i < n * size → ∃ u, w.cell? ⟨g, i, none⟩ = some u) ∧ ∀ i, w.frozen? ⟨g, i, none⟩ = false := by
  rcases h with ⟨_, h⟩ | ⟨g', cap', cur, hv, hb', hh, hc⟩
  · omega
  · injection hv with h1 h2 h3
    refine ⟨g', cur, h1, hb', hh, fun i hi => ?_, fun i => Lib.frozen_of_heap hh i⟩
    exact ⟨cur[i]'(by omega), by rw [Lib.cell_of_heap hh]; exact Array.getElem?_eq_getElem (by omega)⟩
/-- what writing into rows of one type leaves -/
structure Wk (T : TypeId) (base top : Nat) (w w' : World) : Prop where
  below : Below base w w'
  rows : ∀ (e : TypeId) (size : Nat) (v : Value) (n : Nat), RowX w base top e size v n → RowX w' base top e size v n
  other : ∀ (k : Nat) (cur : Array Value) (t : TypeId) (fz : Nat × Nat), w.heap[k]? = some (Obj.cells cur t fz) → t ≠ T → w'.heap[k]? = some (Obj.cells cur t fz)
  out : ∀ k : Nat, top ≤ k → k < w.heap.size → w'.heap[k]? = w.heap[k]?
theorem Wk.refl (T : TypeId) (base top : Nat) (w : World) : Wk T base top w w := ⟨Below.refl _ _, fun _ _ _ _ h => h, fun _ _ _ _ h _ => h, fun _ _ _ => rfl⟩
theorem Wk.store {T : TypeId} {base top : Nat} {w w' : World} (h : Wk T base top w w') {g : Nat} {cur : Array Value} (hg : w'.heap[g]? = some (.cells cur T (0, 0))) (hb : base ≤ g ∧ g < top) (j : Nat) (u : Value) : Wk T base top w (w'.setCell ⟨g, j, none⟩ u) := by
  refine ⟨h.below.setCell (p := ⟨g, j, none⟩) hb.1 u, fun e size v n hr => (h.rows e size v n hr).setCell g j u, fun k cur' t fz hk ht => ?_, fun k h1 h2 => ?_⟩
  · have h1 := h.other k cur' t fz hk ht
    rw [heap_setCell_other w' ⟨g, j, none⟩ k u (fun e => ?_)]
    · exact h1
    · have e2 : k = g := e
      rw [e2, hg] at h1
      simp only [Option.some.injEq, Obj.cells.injEq] at h1
      exact ht h1.2.1.symm
  · rw [heap_setCell_other w' ⟨g, j, none⟩ k u (fun e => by have e2 : k = g := e; omega)]
    exact h.out k h1 h2
/-- what of the files is not yet written over -/
def RestX (w : World) (base top g n i : Nat) : Prop := ∀ j, i ≤ j → j < n → ∃ ab nb cb al nl cl, w.cell? ⟨g, j * 5 + 3, none⟩ = some (.slice ab nb cb) ∧ w.cell? ⟨g, j * 5 + 4, none⟩ = some (.slice al nl cl) ∧ RowX w base top 3 1 (.slice ab nb cb) nb ∧ RowX w base top 58 2 (.slice al nl cl) nl ∧ nb ≤ 100000 ∧ nl ≤ 100000
/-- files that may be written over -/
def SpoilX (w : World) (base top : Nat) (fa : Option Addr) (n : Nat) : Prop := n ≤ 100000 ∧ (n = 0 ∨ ∃ g cur, fa = some ⟨g, 0, none⟩ ∧ (base ≤ g ∧ g < top) ∧ w.heap[g]? = some (.cells cur 61 (0, 0)) ∧ n * 5 ≤ cur.size ∧ RestX w base top g n 0)
theorem SpoilX.below {w w' : World} {base top : Nat} {fa : Option Addr} {n : Nat} (h : SpoilX w base top fa n) (hb : Below w.heap.size w w') : SpoilX w' base top fa n := by
  obtain ⟨h0, h⟩ := h
  refine ⟨h0, ?_⟩
  rcases h with h | ⟨g, cur, h1, h2, h3, h4, h5⟩
  · exact .inl h
  · refine .inr ⟨g, cur, h1, h2, (hb.block _ (Array.getElem?_eq_some_iff.1 h3).1).trans h3, h4, fun j hj1 hj2 => ?_⟩
    obtain ⟨ab, nb, cb, al, nl, cl, c3, c4, r3, r4, hn⟩ := h5 j hj1 hj2
    exact ⟨ab, nb, cb, al, nl, cl, (hb.cell (p := ⟨g, j * 5 + 3, none⟩) (block_lt_of_cell c3)).trans c3, (hb.cell (p := ⟨g, j * 5 + 4, none⟩) (block_lt_of_cell c4)).trans c4, r3.below hb, r4.below hb, hn⟩
theorem SpoilX.set {w : World} {base top : Nat} {fa : Option Addr} {n : Nat} (h : SpoilX w base top fa n) {k : Nat} (o : Nat) (hk : k < base) (u : Value) : SpoilX (w.setCell ⟨k, o, none⟩ u) base top fa n := by
  obtain ⟨h0, h⟩ := h
  refine ⟨h0, ?_⟩
  rcases h with h | ⟨g, cur, h1, h2, h3, h4, h5⟩
  · exact .inl h
  · have hne : g ≠ k := by omega
    have h3' : (w.setCell ⟨k, o, none⟩ u).heap[g]? = some (.cells cur 61 (0, 0)) := (heap_setCell_other w ⟨k, o, none⟩ g u hne).trans h3
    refine .inr ⟨g, cur, h1, h2, h3', h4, fun j hj1 hj2 => ?_⟩
    obtain ⟨ab, nb, cb, al, nl, cl, c3, c4, r3, r4, hn⟩ := h5 j hj1 hj2
    refine ⟨ab, nb, cb, al, nl, cl, ?_, ?_, r3.setCell _ _ _, r4.setCell _ _ _, hn⟩
    · rw [Lib.cell_of_heap h3']; rw [Lib.cell_of_heap h3] at c3; exact c3
    · rw [Lib.cell_of_heap h3']; rw [Lib.cell_of_heap h3] at c4; exact c4
theorem OwnFiles.kept {w w' : World} {base : Nat} {v : Value} {fs : List FileD} (h : OwnFiles w base v fs) (hk : ∀ k, base ≤ k → k < w.heap.size → w'.heap[k]? = w.heap[k]?) : OwnFiles w' base v fs := by
  have hr : ∀ {e : TypeId} {size : Nat} {v : Value} {n : Nat} {xs : List Value}, w.ownsRow base e size v n xs → w'.ownsRow base e size v n xs := by
    intro e size v n xs h
    refine ⟨h.1, ?_⟩
    rcases h.2 with h | ⟨g, cap, cur, hv, hb, hh, rest⟩
    · exact .inl h
    · exact .inr ⟨g, cap, cur, hv, hb, (hk g hb (Array.getElem?_eq_some_iff.1 hh).1).trans hh, rest⟩
  obtain ⟨gs, e, ho, ha⟩ := h
  exact ⟨gs, e, hr ho, fun g hg => ⟨hr (ha g hg).1, hr (ha g hg).2⟩⟩

set_option maxRecDepth 100000 in
set_option maxHeartbeats 1000000 in
theorem nums_spoil (a : Option Addr) (n ca base top : Nat) (w : World) (hr : RowX w base top 3 1 (.slice a n ca) n) (hn : n ≤ 100000) :
    Calls Try.prog 10 #[.slice a n ca] w fun e w' => e = .returned (.tuple #[]) ∧ Wk 3 base top w w' := by
  have HR : Hid (RowX w base top 3 1 (.slice a n ca) n) := hr
  clear hr
  go_enter Try.func10, Try.ntmps10
  go_wp2_with fail
  go_loopw [2] (fun ii wr => ∃ (i : Nat), i ≤ n ∧ ii = .int .i64 i ∧ Wk 3 base top w wr) (fun ii _ => n - (intOf ii).toNat)
  case atStart => exact ⟨0, by omega, rfl, Wk.refl _ _ _ _⟩
  case round =>
    obtain ⟨i, hi, rfl, hk⟩ := hrel
    have HK : Hid (Wk 3 base top w wr) := hk
    clear hk
    by_cases hin : (i : Int) < (n : Int)
    · obtain ⟨g, cur, rfl, hbg, hg, hc, hf⟩ := (HK.out.rows _ _ _ _ HR.out).cell (by omega)
      obtain ⟨u, c1⟩ := hc i (by omega)
      have f1 := hf i
      have HK3 : Hid (Wk 3 base top w (wr.setCell ⟨g, i, none⟩ (.int .i64 (-99)))) := HK.out.store hg hbg i _
      clear hc hf hg
      go_wp2_with fail
      first
        | exact ⟨⟨i + 1, by omega, by go_num, HK3.out⟩, by simp [intOf]; omega⟩
        | (go_roundw
           case rel => exact ⟨i + 1, by omega, by go_num, HK3.out⟩
           case measure => simp [intOf]; omega)
    · go_wp2_with fail
      go_end0
      exact ⟨rfl, HK.out⟩

theorem RestX.wk {T : TypeId} {w w' : World} {base top g n i : Nat} {cur : Array Value} (h : RestX w base top g n i) (hk : Wk T base top w w') (hg : w.heap[g]? = some (.cells cur 61 (0, 0))) (ht : (61 : TypeId) ≠ T) : RestX w' base top g n i := by
  intro j h1 h2
  obtain ⟨ab, nb, cb, al, nl, cl, c3, c4, r3, r4, hn⟩ := h j h1 h2
  have hg' := hk.other _ _ _ _ hg ht
  refine ⟨ab, nb, cb, al, nl, cl, ?_, ?_, hk.rows _ _ _ _ r3, hk.rows _ _ _ _ r4, hn⟩
  · rw [Lib.cell_of_heap hg']; rw [Lib.cell_of_heap hg] at c3; exact c3
  · rw [Lib.cell_of_heap hg']; rw [Lib.cell_of_heap hg] at c4; exact c4
theorem five_ne {cur : Array Value} {a b c d e j : Nat} {v0 v1 v2 v3 v4 : Value} (h0 : a ≠ j) (h1 : b ≠ j) (h2 : c ≠ j) (h3 : d ≠ j) (h4 : e ≠ j) : (((((cur.setIfInBounds a v0).setIfInBounds b v1).setIfInBounds c v2).setIfInBounds d v3).setIfInBounds e v4)[j]? = cur[j]? := by
  rw [Array.getElem?_setIfInBounds_ne h4, Array.getElem?_setIfInBounds_ne h3, Array.getElem?_setIfInBounds_ne h2, Array.getElem?_setIfInBounds_ne h1, Array.getElem?_setIfInBounds_ne h0]
theorem RestX.file {w : World} {base top g n i : Nat} {v0 v1 v2 v3 v4 : Value} {cur : Array Value} (h : RestX w base top g n i) (hg : w.heap[g]? = some (.cells cur 61 (0, 0))) :
    RestX (((((w.setCell ⟨g, i * 5, none⟩ v0).setCell ⟨g, i * 5 + 1, none⟩ v1).setCell ⟨g, i * 5 + 2, none⟩ v2).setCell ⟨g, i * 5 + 3, none⟩ v3).setCell ⟨g, i * 5 + 4, none⟩ v4) base top g n (i + 1) := by
  intro j h1 h2
  obtain ⟨ab, nb, cb, al, nl, cl, c3, c4, r3, r4, hn⟩ := h j (by omega) h2
  have e1 := heap_setCell_same w g (i * 5) _ 61 v0 hg
  have e2 := heap_setCell_same _ g (i * 5 + 1) _ 61 v1 e1
  have e3 := heap_setCell_same _ g (i * 5 + 2) _ 61 v2 e2
  have e4 := heap_setCell_same _ g (i * 5 + 3) _ 61 v3 e3
  have e5 := heap_setCell_same _ g (i * 5 + 4) _ 61 v4 e4
  refine ⟨ab, nb, cb, al, nl, cl, ?_, ?_, ((((r3.setCell _ _ _).setCell _ _ _).setCell _ _ _).setCell _ _ _).setCell _ _ _, ((((r4.setCell _ _ _).setCell _ _ _).setCell _ _ _).setCell _ _ _).setCell _ _ _, hn⟩
  · rw [Lib.cell_of_heap e5]
    rw [Lib.cell_of_heap hg] at c3
    rw [five_ne (by omega) (by omega) (by omega) (by omega) (by omega)]
    exact c3
  · rw [Lib.cell_of_heap e5]
    rw [Lib.cell_of_heap hg] at c4
    rw [five_ne (by omega) (by omega) (by omega) (by omega) (by omega)]
    exact c4
theorem SpoilX.of_own {w : World} {base n cap : Nat} {fa : Option Addr} {fs : List FileD} (h : OwnFiles w base (.slice fa n cap) fs) (hl : fs.length ≤ 100000) (hs : ∀ f ∈ fs, SmallF f) : SpoilX w base w.heap.size fa n := by
  obtain ⟨gs, rfl, ho, ha⟩ := h
  rw [List.length_map] at hl
  have ho2 := ho
  rcases ho2.2 with ⟨h1, h2⟩ | ⟨g, cap', cur, h1, h2, h3, h4, h5, h6, _⟩
  · injection h1 with _ h1 _
    exact ⟨by omega, .inl h1⟩
  · injection h1 with h1 hn _
    subst h1
    subst hn
    refine ⟨hl, .inr ⟨g, cur, rfl, ⟨h2, (Array.getElem?_eq_some_iff.1 h3).1⟩, h3, by rw [h6]; exact Nat.mul_le_mul_right _ h4, fun j _ hj => ?_⟩⟩
    have hm := ha gs[j] (List.getElem_mem hj)
    obtain ⟨_, _, _, c3, c4⟩ := fflat_get gs j _ (List.getElem?_eq_getElem hj)
    obtain ⟨ab, cb, eb, _, _⟩ := hm.1.at
    obtain ⟨al, cl, el, _, _⟩ := hm.2.at
    have h3 := RowX.of_own hm.1
    have h4 := RowX.of_own hm.2
    have hsf := hs gs[j].d (List.mem_map.2 ⟨_, List.getElem_mem hj, rfl⟩)
    rw [eb] at c3 h3
    rw [el] at c4 h4
    have e : ∀ j, (⟨g, 0, none⟩ : Addr).add j = ⟨g, 0 + j, none⟩ := fun j => by unfold Addr.add; split <;> simp_all
    have K : ∀ j u, (fflat gs)[j]? = some u → w.cell? ⟨g, j, none⟩ = some u := fun j u hj => by
      have := ho.cells (g := g) rfl j u hj
      rwa [e, Nat.zero_add] at this
    exact ⟨ab, _, cb, al, _, cl, K _ _ c3, K _ _ c4, h3, h4, hsf.1, hsf.2⟩

end Go.Proofs.Ytbaphgdlbeaenaa

/- The law ReachGone walked. -/
namespace Go.Proofs.Ytbaphgdlbeaenaa
open Go.RowKit

def LawOk (F : Nat) : Prop := ∀ (v : Value) (ds : List VolD) (next : Int) (l : List ActD) (rs : List RowD) (w : World), AskVal w v ds next l rs → LooseW ds → LooseA l → LooseR rs → Calls Try.prog F #[v] w fun e w' => e = .returned (.bool true) ∧ Below w.heap.size w w'
theorem RowsAt.take {w : World} {a : Option Addr} {rs : List RowD} (h : RowsAt w a rs) (k : Nat) : RowsAt w a (rs.take k) := by
  rcases h with rfl | ⟨b, o, rfl, hc⟩
  · exact .inl (by simp)
  · refine .inr ⟨b, o, rfl, fun i hi => ?_⟩
    rw [List.length_take] at hi
    have e : (rs.take k).getD i rw0 = rs.getD i rw0 := by simp only [List.getD]; rw [List.getElem?_take_of_lt (by omega)]
    rw [e]; exact hc i (by omega)
theorem row_le_all {rs : List RowD} {r : RowD} (h : r ∈ rs) : r.2.2.length ≤ (allN rs).length := by
  obtain ⟨i, hi, rfl⟩ := List.getElem_of_mem h
  have h1 := allN_take hi
  have h2 := allN_take_le rs (i + 1)
  rw [h1, List.length_append] at h2
  have e : rs.getD i rw0 = rs[i] := by simp [List.getD, hi]
  rw [e] at h2
  omega

set_option maxRecDepth 100000 in
set_option maxHeartbeats 8000000 in
theorem gone_walk : LawOk 3 := by
  intro v ds next l rs w hv hd hl hr
  have HVA : Hid (AskVal w v ds next l rs) := hv
  obtain ⟨av, ca, aL, cL, ar, cr, rfl, _, _, hR, hRc⟩ := id hv
  have HHV : Hid (∀ w', Below w.heap.size w w' → Calls Try.prog 5 #[.agg #[.slice av ds.length ca, .int .i64 next, .slice aL l.length cL, .slice ar rs.length cr]] w' (HvPostR ds l rs w')) := fun w' hb => by
    obtain ⟨av', ca', aL', cL', ar', cr', e, h1, h2, h3, h4⟩ := HVA.out
    exact heavyr_any _ ds next l rs w' ⟨av', ca', aL', cL', ar', cr', e, ⟨h1.1.below hb, h1.2⟩, ⟨h2.1.below hb, h2.2⟩, h3.below hb, h4⟩ hd hl hr
  have HR : Hid (RowsAt w ar rs) := hR
  have HB0 : Hid (Below w.heap.size w (w.alloc (.cells #[.slice av ds.length ca, .int .i64 next, .slice aL l.length cL, .slice ar rs.length cr] 28))) := nwA (nwR w) _
  have HX0 : Hid ((w.alloc (.cells #[.slice av ds.length ca, .int .i64 next, .slice aL l.length cL, .slice ar rs.length cr] 28)).heap[w.heap.size]? = some (.cells #[.slice av ds.length ca, .int .i64 next, .slice aL l.length cL, .slice ar rs.length cr] 28 (0, 0))) := heap_alloc_new w _
  clear hv hd hl hr hR HVA
  obtain ⟨x0, x1, x2, x3⟩ := quad HX0.out
  go_enter Try.func3, Try.ntmps3
  go_wp2_with fail
  generalize w.alloc (.cells #[.slice av ds.length ca, .int .i64 next, .slice aL l.length cL, .slice ar rs.length cr] 28) = WB at HB0 HX0 x0 x1 x2 x3 ⊢
  refine (HHV.out WB HB0.out).mono ?_
  rintro e w1 ⟨q, rfl, hb1, h1⟩
  have HB1 : Hid (Below w.heap.size w w1) := nwT HB0.out hb1
  have HX1 : Hid (w1.heap[w.heap.size]? = some (.cells #[.slice av ds.length ca, .int .i64 next, .slice aL l.length cL, .slice ar rs.length cr] 28 (0, 0))) := (hb1.block _ (Array.getElem?_eq_some_iff.1 HX0.out).1).trans HX0.out
  clear x0 x1 x2 x3 hb1 HHV HX0 HB0
  cases q
  case true =>
    clear h1
    go_wp2_with fail
    go_ret
    exact ⟨rfl, HB1.out⟩
  case false =>
  obtain ⟨_, _, hsm⟩ := h1 rfl
  have HRW : Hid (∀ r ∈ rs, r.2.2.length ≤ 1000) := fun r hr => by have := row_le_all hr; omega
  have HAN : Hid ((allN rs).length ≤ 1000) := by show _ ≤ _; omega
  have hrl : rs.length ≤ 1000 := by omega
  have HR1 : Hid (RowsAt w1 ar rs) := HR.out.below HB1.out
  have HXX : Hid (∀ w', Below w1.heap.size w1 w' → w'.cell? ⟨w.heap.size, 3, none⟩ = some (.slice ar rs.length cr)) := fun w' h => (quad ((h.block _ (Array.getElem?_eq_some_iff.1 HX1.out).1).trans HX1.out)).2.2.2
  have HWK : Hid (∀ w', Calls Try.prog 12 #[] w' fun e w'' => e = .returned (.bool true) ∧ Below w'.heap.size w' w'') := wakes_any
  have HNM : Hid (∀ w', Calls Try.prog 11 #[.string ⟨#[97]⟩] w' fun e w'' => e = .returned (.bool true) ∧ w'' = w') := fun w' => name_is ⟨#[97]⟩ w' true (by decide +kernel)
  clear h1 hsm HX1
  go_wp2_with fail
  go_loopw [3] (fun s3 wr => ∃ (i : Nat), i ≤ rs.length ∧ s3 = .int .i64 i ∧ Hid (Below w1.heap.size w1 wr))
    (fun s3 _ => rs.length - (intOf s3).toNat)
  case atStart => exact ⟨0, by omega, rfl, nwR w1⟩
  case round =>
    obtain ⟨i, hi, rfl, HBR⟩ := hrel
    have x3 := HXX.out _ HBR.out
    by_cases hil : i < rs.length
    case neg =>
      have hili : ¬ (i : Int) < (rs.length : Int) := by omega
      have HBE : Hid (Below w.heap.size w wr) := nwT HB1.out HBR.out
      go_wp2_with (go_at_call 11; refine (HNM.out _).mono ?_; rintro e w' ⟨rfl, rfl⟩)
      rename World => wE
      refine (HWK.out wE).mono ?_
      rintro e wF ⟨rfl, hbF⟩
      have HBF : Hid (Below w.heap.size w wF) := nwT HBE.out hbF
      clear hbF
      go_wp2_with fail
      go_ret
      exact ⟨rfl, HBF.out⟩
    case pos =>
    have hili : (i : Int) < (rs.length : Int) := by omega
    by_cases hi6 : i < 6
    case neg =>
      have hi6i : ¬ (i : Int) < 6 := by omega
      have HBE : Hid (Below w.heap.size w wr) := nwT HB1.out HBR.out
      go_wp2_with (go_at_call 11; refine (HNM.out _).mono ?_; rintro e w' ⟨rfl, rfl⟩)
      rename World => wE
      refine (HWK.out wE).mono ?_
      rintro e wF ⟨rfl, hbF⟩
      have HBF : Hid (Below w.heap.size w wF) := nwT HBE.out hbF
      clear hbF
      go_wp2_with fail
      go_ret
      exact ⟨rfl, HBF.out⟩
    case pos =>
    have hi6i : (i : Int) < 6 := by omega
    obtain ⟨b1, o1, rfl, hc1, hok1⟩ := HR1.out.row hil
    have hxl : (rs.getD i rw0).2.2.length ≤ 1000 := HRW.out _ (by simp [List.getD, hil])
    generalize rs.getD i rw0 = r at hc1 hok1 hxl
    obtain ⟨ai, ci, xs⟩ := r
    simp only [rowV] at hc1 hok1 hxl
    have HC1 : Hid (w1.cell? ⟨b1, o1 + i, none⟩ = some (.slice ai xs.length ci)) := hc1
    have HIX : Hid (IntsAt w1 ai xs) := hok1.1
    clear hc1 hok1
    go_wp2_with fail
    go_loopw [4] (fun s4 wr => ∃ (n : Nat), n ≤ rs.length + 1 ∧ n ≤ 6 ∧ s4 = .int .i64 n ∧ Hid (Below w1.heap.size w1 wr))
      (fun s4 _ => 6 - (intOf s4).toNat)
    case atStart => exact ⟨0, by omega, by omega, rfl, HBR⟩
    case round =>
      obtain ⟨n, hn, hn6, rfl, HBS⟩ := hrel
      clear x3
      have x3 := HXX.out _ HBS.out
      by_cases hnl : n ≤ rs.length
      case neg =>
        have hnli : ¬ (n : Int) ≤ (rs.length : Int) := by omega
        go_wp2_with fail
        go_roundw
        case rel => exact ⟨i + 1, by omega, by go_num, HBS⟩
        case measure => simp [intOf]; omega
      case pos =>
      have hnli : (n : Int) ≤ (rs.length : Int) := by omega
      by_cases hn6b : n < 6
      case neg =>
        have hn6i : ¬ (n : Int) < 6 := by omega
        go_wp2_with fail
        go_roundw
        case rel => exact ⟨i + 1, by omega, by go_num, HBS⟩
        case measure => simp [intOf]; omega
      case pos =>
      have hn6i : (n : Int) < 6 := by omega
      have hcr : rs.length ≤ cr := hRc.1
      have hncr : (n : Int) ≤ (cr : Int) := by omega
      have hn0 : (0 : Int) ≤ (n : Int) := by omega
      have hi0 : (0 : Int) ≤ (i : Int) := by omega
      have c1 := (HBS.out.cell (p := ⟨b1, o1 + i, none⟩) (block_lt_of_cell HC1.out)).trans HC1.out
      have HCO : Hid (Calls Try.prog 6 #[.slice ai xs.length ci] wr fun e w' => (∃ v, e = .returned v ∧ OwnInts w' wr.heap.size v xs) ∧ Below wr.heap.size wr w') := copyNums_any ai xs ci wr (HIX.out.below HBS.out) (by omega)
      have HCE : Hid (∀ w', Below w1.heap.size w1 w' → w'.cell? ⟨b1, o1 + i, none⟩ = some (.slice ai xs.length ci)) := fun w' h => (h.cell (p := ⟨b1, o1 + i, none⟩) (block_lt_of_cell HC1.out)).trans HC1.out
      have htl : (rs.take n).length = n := by rw [List.length_take]; omega
      have hal : (allN (rs.take n)).length ≤ 1000 := Nat.le_trans (allN_take_le rs n) HAN.out
      have hrt : ∀ r ∈ rs.take n, r.2.2.length ≤ 1000000 := fun r hr => by have := HRW.out r (List.mem_of_mem_take hr); omega
      have HGP : Hid (∀ w', Below w1.heap.size w1 w' → Calls Try.prog 9 #[.slice ai xs.length ci, .slice (some ⟨b1, o1, none⟩) n cr] w' fun e w'' => (∃ u, e = .returned u ∧ OwnInts w'' w'.heap.size u (goneN xs ((rs.take n).map fun r => r.2.2))) ∧ Below w'.heap.size w' w'') := fun w' hb => by
        have h := goneP_any ai xs ci (some ⟨b1, o1, none⟩) (rs.take n) cr w' (HIX.out.below hb) (by omega) ((HR1.out.below hb).take n) (by omega) hrt
        rw [htl] at h; exact h
      have HGQ : Hid (∀ a5 c5 w', Below w1.heap.size w1 w' → IntsAt w' a5 xs → (a5 = none → c5 = 0) → Calls Try.prog 7 #[.slice a5 xs.length c5, .slice (some ⟨b1, o1, none⟩) n cr] w' fun e w'' => (∃ u, e = .returned u ∧ OwnInts w'' w'.heap.size u (goneN xs ((rs.take n).map fun r => r.2.2))) ∧ Below w'.heap.size w' w'') := fun a5 c5 w' hb h5 hc5 => by
        have h := gone_any a5 xs c5 (some ⟨b1, o1, none⟩) (rs.take n) cr w' h5 hc5 (by omega) ((HR1.out.below hb).take n) (by omega) (by omega)
        rw [htl] at h; exact h
      have hyl : (goneN xs ((rs.take n).map fun r => r.2.2)).length ≤ 1000 := Nat.le_trans (goneN_len _ _) hxl
      clear htl hal hrt
      generalize goneN xs ((rs.take n).map fun r => r.2.2) = ys at HGP HGQ hyl
      go_wp2_with fail
      refine HCO.out.mono ?_
      rintro e w2 ⟨⟨v5, rfl, ho5⟩, hb2⟩
      obtain ⟨a5, c5, rfl, ha5, hcap5⟩ := ho5.at
      have HB2 : Hid (Below w1.heap.size w1 w2) := nwT HBS.out hb2
      have HA5 : Hid (IntsAt w2 a5 xs) := ha5
      have HGO : Hid (Calls Try.prog 7 #[.slice a5 xs.length c5, .slice (some ⟨b1, o1, none⟩) n cr] w2 fun e w'' => (∃ u, e = .returned u ∧ OwnInts w'' w2.heap.size u ys) ∧ Below w2.heap.size w2 w'') := HGQ.out a5 c5 w2 HB2.out ha5 hcap5.2.1
      clear x3 c1 ho5 hb2 ha5 hcap5 HCO HGQ
      have x3 := HXX.out _ HB2.out
      go_wp2_with fail
      refine HGO.out.mono ?_
      rintro e w3 ⟨⟨v6, rfl, ho6⟩, hb3⟩
      obtain ⟨a6, c6, rfl, ha6, _⟩ := id ho6.at
      have HO6 : Hid (OwnInts w3 w2.heap.size (.slice a6 ys.length c6) ys) := ho6
      have HA6 : Hid (IntsAt w3 a6 ys) := ha6
      have HB23 : Hid (Below w2.heap.size w2 w3) := hb3
      have HB3 : Hid (Below w1.heap.size w1 w3) := nwT HB2.out hb3
      clear x3 ho6 ha6 hb3 HGO
      have q3 : ∀ w', Below w3.heap.size w3 w' → w'.cell? ⟨w.heap.size, 3, none⟩ = some (.slice (some ⟨b1, o1, none⟩) rs.length cr) := fun w' h => HXX.out _ (nwT HB3.out h)
      have q1 : ∀ w', Below w3.heap.size w3 w' → w'.cell? ⟨b1, o1 + i, none⟩ = some (.slice ai xs.length ci) := fun w' h => HCE.out _ (nwT HB3.out h)
      have hS : Below w3.heap.size w3 w3 := nwR w3
      have HA53 : Hid (IntsAt w3 a5 xs) := HA5.out.below HB23.out
      have HIX3 : Hid (IntsAt w3 ai xs) := HIX.out.below HB3.out
      have hyl2 : ys.length ≤ maxLen := by unfold maxLen; omega
      have hxl2 : xs.length ≤ maxLen := by unfold maxLen; omega
      have HGR : Hid (∀ w', Below w3.heap.size w3 w' → Calls Try.prog 9 #[.slice ai xs.length ci, .slice (some ⟨b1, o1, none⟩) n cr] w' fun e w'' => (∃ u, e = .returned u ∧ OwnInts w'' w'.heap.size u ys) ∧ Below w'.heap.size w' w'') := fun w' h => HGP.out _ (nwT HB3.out h)
      go_wp2_with fail
      go_region_held3 (fun w' => Below w3.heap.size w3 w') (first | assumption | exact below_drewN (nwT (Below.drew hS) hb9) _ | exact nwT (Below.drew hS) hb9 | exact Below.drew (by assumption) | exact nwT (by assumption) (by assumption)) (first
        | (go_at_call 9; refine (HGR.out _ (by assumption)).mono ?_; rintro e wP ⟨⟨u9, rfl, ho9⟩, hb9⟩; obtain ⟨a9, c9, e9, ha9, _⟩ := OwnInts.at ho9; subst e9)
        | (go_at_call_of 8 a6; refine (eqNums_is a6 a9 ys ys c6 c9 true _ (HA6.out.below (nwT (Below.drew hS) hb9)) ha9 hyl2 (by simp)).mono ?_; rintro e wQ ⟨rfl, qa, rfl⟩)
        | (go_at_call_of 8 a5; refine (eqNums_is a5 ai xs xs c5 ci true _ (HA53.out.below (below_drewN (nwT (Below.drew hS) hb9) qa)) (HIX3.out.below (below_drewN (nwT (Below.drew hS) hb9) qa)) hxl2 (by simp)).mono ?_; rintro e wR ⟨rfl, qb, rfl⟩)
        | fail)
      have HBP : Hid (Below w3.heap.size w3 (wP.drewN (qa + qb))) := below_drewN (nwT (Below.drew hS) hb9) _
      generalize wP.drewN (qa + qb) = w4 at HBP ⊢
      have HO4 : Hid (OwnInts w4 w2.heap.size (.slice a6 ys.length c6) ys) := own_below HO6.out HBP.out
      have HB24 : Hid (Below w2.heap.size w2 w4) := nwT HB23.out HBP.out
      have HB4 : Hid (Below w1.heap.size w1 w4) := nwT HB3.out HBP.out
      have HSP : Hid (Calls Try.prog 10 #[.slice a6 ys.length c6] w4 fun e w' => e = .returned (.tuple #[]) ∧ Wk 3 w2.heap.size w4.heap.size w4 w') := nums_spoil a6 ys.length c6 w2.heap.size w4.heap.size w4 (RowX.of_own HO4.out) (by omega)
      clear q3 q1 hS ho9 hb9 ha9 HGR HBP HO4 HO6 HA6 HA53 HIX3 hyl2
      go_wp2_with fail
      refine HSP.out.mono ?_
      rintro e w5 ⟨rfl, hwk⟩
      have HB25 : Hid (Below w2.heap.size w2 w5) := HB24.out.trans hwk.below
      have HB5 : Hid (Below w1.heap.size w1 w5) := nwT HB2.out HB25.out
      have x3 := HXX.out _ HB5.out
      have c1 := HCE.out _ HB5.out
      have HEQ : Hid (Calls Try.prog 8 #[.slice a5 xs.length c5, .slice ai xs.length ci] w5 fun e w' => e = .returned (.bool true) ∧ ∃ q, w' = w5.drewN q) := eqNums_is a5 ai xs xs c5 ci true _ (HA5.out.below HB25.out) (HIX.out.below HB5.out) hxl2 (by simp)
      clear hwk HSP
      go_wp2_with fail
      refine HEQ.out.mono ?_
      rintro e w6 ⟨rfl, qc, rfl⟩
      have HB6 : Hid (Below w1.heap.size w1 (w5.drewN qc)) := below_drewN HB5.out qc
      clear HEQ x3 c1
      go_wp2_with fail
      go_roundw
      case rel => exact ⟨n + 1, by omega, by omega, by go_num, HB6⟩
      case measure => simp [intOf]; omega

end Go.Proofs.Ytbaphgdlbeaenaa

/- Volumes taken from a row, by the program. -/
namespace Go.Proofs.Ytbaphgdlbeaenaa
open Go.RowKit

end Go.Proofs.Ytbaphgdlbeaenaa

/- Volumes taken from a row: those that stay. -/
namespace Go.Proofs.Ytbaphgdlbeaenaa
open Go.RowKit

/-- those of a row that bear none of these IDs -/
def restW (ids : List Int) (ds : List VolD) : List VolD := ds.filter fun d => !decide (d.id ∈ ids)
def stayV (ids : List Int) (x : VV) : Bool := !decide (x.d.id ∈ ids)
theorem restW_map (ids : List Int) (gs : List VV) : (gs.filter (stayV ids)).map VV.d = restW ids (gs.map VV.d) := by
  unfold restW
  rw [List.filter_map]
  rfl
theorem restW_le (ids : List Int) (ds : List VolD) : (restW ids ds).length ≤ ds.length := List.length_filter_le _ _
theorem restW_all {ids : List Int} {ds : List VolD} (h : (ds.findIdx? fun d => decide (d.id ∈ ids)) = none) : restW ids ds = ds := by
  unfold restW
  rw [List.filter_eq_self]
  intro d hd
  rw [List.findIdx?_eq_none_iff] at h
  rw [h d hd]; rfl
theorem OwnVols.sifted {w : World} {base g n cap m : Nat} {gs gs' : List VV} {ids : List Int} {vs : List Value} (hs : Sift (stayV ids) gs gs' m n) (hn : gs.length = n) (h : RowW w base g n cap gs') (hO : ∀ x ∈ gs, OwnFiles (w.setCells g (m * 5) vs) base x.fv x.d.files) :
    OwnVols (w.setCells g (m * 5) vs) base (.slice (some ⟨g, 0, none⟩) m cap) (restW ids (gs.map VV.d)) := by
  obtain ⟨ys, h1, h2⟩ := own_setCells vs (m * 5) w (vflat gs') h
  have h3 := own_shrink h1 hs.ij
  have hf := hs.fin (by omega)
  have hle := hs.le hn
  refine ⟨gs.filter (stayV ids), restW_map ids gs, ?_, fun x hx => hO x (List.mem_filter.1 hx).1⟩
  rw [hle, ← hf, vflat_take, ← h2]
  exact h3

end Go.Proofs.Ytbaphgdlbeaenaa
