/- How many links there are; what a path finds. -/
import Derived.Test.YtdpighcaieajjaaGreatSmall
namespace Go.Proofs.YtdpighcaieajjaaGreat
open Go.RowKit

def cntL (l : List LinkD) (id : Int) : Nat := (l.filter fun x => x.2 == id).length
def linksN (fs : List FileD) (id : Int) : Nat := (fs.map fun f => cntL f.list id).sum
theorem cntL_le (l : List LinkD) (id : Int) : cntL l id ≤ l.length := List.length_filter_le _ _
theorem cntL_succ {l : List LinkD} {k : Nat} (h : k < l.length) (id : Int) : cntL (l.take (k + 1)) id = cntL (l.take k) id + if (l.getD k lk0).2 == id then 1 else 0 := by
  unfold cntL
  rw [List.take_succ_eq_append_getElem h, List.filter_append, List.length_append]
  have e : l.getD k lk0 = l[k] := by simp [List.getD, h]
  rw [e]
  by_cases hh : l[k].2 == id <;> simp [hh]
theorem linksN_succ {fs : List FileD} {k : Nat} (h : k < fs.length) (id : Int) : linksN (fs.take (k + 1)) id = linksN (fs.take k) id + cntL (fs.getD k f0).list id := by
  unfold linksN
  rw [List.take_succ_eq_append_getElem h, List.map_append, List.sum_append]
  simp [List.getD, h]
theorem linksN_le {fs : List FileD} (id : Int) (hs : ∀ f ∈ fs, SmallF f) : linksN fs id ≤ fs.length * 100000 := by
  induction fs with
  | nil => simp [linksN]
  | cons f fs ih =>
    have h1 := ih (fun g hg => hs g (by simp [hg]))
    have h2 := cntL_le f.list id
    have h3 := (hs f (by simp)).2
    unfold linksN at *
    simp only [List.map_cons, List.sum_cons, List.length_cons]
    omega

set_option maxRecDepth 100000 in
set_option maxHeartbeats 2000000 in
theorem links_any (v : Value) (d : VolD) (id : Int) (w : World) (hv : VolVal w v d) (hs : SmallV d) :
    Calls Tryz.prog 21 #[v, .int .i64 id] w fun e w' => e = .returned (.int .i64 (linksN d.files id)) ∧ Below w.heap.size w w' := by
  obtain ⟨a, ca, rfl, hfs, _⟩ := hv
  have HF : Hid (FilesAt w a d.files) := hfs
  clear hfs
  obtain ⟨vid, fr, snap, fs, next⟩ := d
  simp only [SmallV] at *
  obtain ⟨hl, hs2⟩ := hs
  have HS : Hid (∀ f ∈ fs, SmallF f) := hs2
  clear hs2
  have HB : Hid (Below w.heap.size w (w.alloc (.cells #[.int .i64 vid, .int .i64 fr, .bool snap, .slice a fs.length ca, .int .i64 next] 24))) := nwA (nwR w) _
  go_enter Tryz.func21, Tryz.ntmps21
  go_wp2_with fail
  go_loop [5, 6] (fun n i => ∃ (k : Nat), k ≤ fs.length ∧ i = .int .i64 k ∧ n = .int .i64 (linksN (fs.take k) id))
    (fun _ i => fs.length - (intOf i).toNat)
  case atStart => exact ⟨0, by omega, rfl, rfl⟩
  case round =>
    obtain ⟨k, hk, rfl, rfl⟩ := hrel
    by_cases hlt : k < fs.length
    · have hlti : (k : Int) < (fs.length : Int) := by omega
      obtain ⟨b1, o1, rfl, hf⟩ := (HF.out.below HB.out).file hlt
      obtain ⟨ab, cb, al, cl, ⟨_, _, _, _, c4⟩, _, hli, _⟩ := hf
      have HSU : Hid (linksN (fs.take (k + 1)) id = linksN (fs.take k) id + cntL (fs.getD k f0).list id) := linksN_succ hlt id
      have hbd : linksN (fs.take k) id ≤ 10000000000 := by
        have h1 := linksN_le (fs := fs.take k) id (fun g hg => HS.out g (List.mem_of_mem_take hg))
        have h2 : (fs.take k).length ≤ 100000 := by rw [List.length_take]; omega
        have h3 : (fs.take k).length * 100000 ≤ 100000 * 100000 := Nat.mul_le_mul_right _ h2
        omega
      have hsm := (HS.out (fs.getD k f0) (by simp [List.getD, hlt])).2
      have HLI : Hid (LinksAt (w.alloc (.cells #[.int .i64 vid, .int .i64 fr, .bool snap, .slice (some ⟨b1, o1, none⟩) fs.length ca, .int .i64 next] 24)) al (fs.getD k f0).list) := hli
      generalize linksN (fs.take k) id = N at HSU hbd
      generalize (fs.getD k f0).list = li at HSU hsm HLI c4
      clear hli
      go_wp2_with fail
      go_loop [5, 7] (fun n i => ∃ (j : Nat), j ≤ li.length ∧ i = .int .i64 j ∧ n = .int .i64 ((N + cntL (li.take j) id : Nat) : Int))
        (fun _ i => li.length - (intOf i).toNat)
      case atStart => exact ⟨0, by omega, rfl, rfl⟩
      case round =>
        obtain ⟨j, hj, rfl, rfl⟩ := hrel
        have hcn : cntL (li.take j) id ≤ 100000 := by have := cntL_le (li.take j) id; rw [List.length_take] at this; omega
        by_cases hjl : j < li.length
        · have hjli : (j : Int) < (li.length : Int) := by omega
          obtain ⟨b2, o2, rfl, _, d2⟩ := HLI.out.cell hjl
          have HCS : Hid (cntL (li.take (j + 1)) id = cntL (li.take j) id + if (li.getD j lk0).2 == id then 1 else 0) := cntL_succ hjl id
          generalize (li.getD j lk0).2 = z at d2 HCS
          generalize cntL (li.take j) id = C at HCS hcn
          by_cases he : z = id
          · subst he
            go_wp2_with fail
            go_round
            case rel => exact ⟨j + 1, by omega, by go_num, by rw [HCS.out]; simp; omega⟩
            case measure => simp [intOf]; omega
          · have heb : (z == id) = false := beq_eq_false_iff_ne.2 he
            clear he
            go_wp2_with fail
            go_round
            case rel => exact ⟨j + 1, by omega, by go_num, by rw [HCS.out, heb]; simp⟩
            case measure => simp [intOf]; omega
        · have hjli : ¬ (j : Int) < (li.length : Int) := by omega
          have e : li.take j = li := List.take_of_length_le (by omega)
          rw [e]
          go_wp2_with fail
          go_round
          case rel => exact ⟨k + 1, by omega, by go_num, by rw [HSU.out]⟩
          case measure => simp [intOf]; omega
    · have hlti : ¬ (k : Int) < (fs.length : Int) := by omega
      have e : fs.take k = fs := List.take_of_length_le (by omega)
      rw [e]
      go_wp2_with fail
      go_ret
      exact ⟨rfl, HB.out⟩

end Go.Proofs.YtdpighcaieajjaaGreat
