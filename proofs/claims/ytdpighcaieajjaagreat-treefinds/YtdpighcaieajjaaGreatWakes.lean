/- What wakes. -/
import Derived.Test.YtdpighcaieajjaaGreatWakem
namespace Go.Proofs.YtdpighcaieajjaaGreat
open Go.RowKit

set_option maxRecDepth 100000 in
set_option maxHeartbeats 2000000 in
theorem wakes_any (w : World) : Calls Tryz.prog 12 #[] w fun e w' => e = .returned (.bool true) ∧ Below w.heap.size w w' := by
  go_enter Tryz.func12, Tryz.ntmps12
  go_wp2_with fail
  refine (newv_any 5 _).mono ?_
  rintro e w1 ⟨⟨u, er, dd, rfl, hu, hr⟩, hb1⟩
  obtain ⟨rfl, rfl⟩ := wake0 hr
  have HU : Hid (OwnVol w1 w.heap.size u (newD 5)) := hu
  obtain ⟨fv, rfl, hfv⟩ := hu
  obtain ⟨fa, fc, rfl, _, _⟩ := hfv.at
  have HB1 : Hid (Below w.heap.size w w1) := hb1
  clear hr hfv hb1
  have HB2 : Hid (Below w1.heap.size w1 (w1.alloc (.cells #[.int .i64 5, .int .i64 0, .bool false, .slice fa 1 fc, .int .i64 2] 24))) := nwA (nwR w1) _
  go_wp2_with fail
  refine (make_any _ (newD 5) pa _ (HU.out.val.below HB2.out) (small_new 5)).mono ?_
  rintro e w2 ⟨⟨u2, er2, dd2, rfl, hu2, hr2⟩, hb2⟩
  obtain ⟨rfl, rfl⟩ := wake1 hr2
  have HU2 : Hid (OwnVol w2 (w1.alloc (.cells #[.int .i64 5, .int .i64 0, .bool false, .slice fa 1 fc, .int .i64 2] 24)).heap.size u2 wkD) := hu2
  obtain ⟨fv2, rfl, hfv2⟩ := hu2
  obtain ⟨fa2, fc2, rfl, _, _⟩ := hfv2.at
  have HBX : Hid (Below w.heap.size w w2) := nwT HB1.out (nwT HB2.out hb2)
  clear hr2 hfv2 hb2
  have HB3 : Hid (Below w2.heap.size w2 (w2.alloc (.cells #[.int .i64 5, .int .i64 0, .bool false, .slice fa2 2 fc2, .int .i64 3] 24))) := nwA (nwR w2) _
  have HR3 : Hid ((w2.alloc (.cells #[.int .i64 5, .int .i64 0, .bool false, .slice fa2 2 fc2, .int .i64 3] 24)).heap[w2.heap.size]? = some (.cells #[.int .i64 5, .int .i64 0, .bool false, .slice fa2 2 fc2, .int .i64 3] 24 (0, 0))) := heap_alloc_new w2 _
  go_wp2_with fail
  refine (tfind_any _ wkD pa _ (HU2.out.val.below HB3.out) small_wk (fun L hL => by have := (pathN_some hL).2.2; omega)).mono ?_
  rintro e w3 ⟨⟨u3, er3, f, rfl, hu3, hr3⟩, hb3⟩
  obtain ⟨rfl, hid⟩ := wake2 hr3
  obtain ⟨ab, cb, al, cl, rfl, _⟩ := hu3
  have HBY : Hid (Below w.heap.size w w3) := nwT HBX.out (nwT HB3.out hb3)
  obtain ⟨_, _, _, _, x4, _⟩ := five ((hb3.block _ (Array.getElem?_eq_some_iff.1 HR3.out).1).trans HR3.out)
  have hlt := block_lt_of_cell x4
  simp only at hlt
  clear hr3 hb3
  obtain ⟨fid, fdir, fsize, fbl, fli⟩ := f
  simp only at hid
  subst hid
  simp only [fcells]
  go_wp2_with (go_at_call 17; refine (errnum_w _ _).mono ?_; rintro e w' ⟨rfl, rfl⟩)
  go_ret
  exact ⟨rfl, nwA HBY.out _⟩

end Go.Proofs.YtdpighcaieajjaaGreat
