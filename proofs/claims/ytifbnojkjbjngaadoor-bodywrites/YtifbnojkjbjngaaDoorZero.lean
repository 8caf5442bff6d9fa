/- Bytes that the call makes; so many bytes 0 by the page. -/
import Derived.Test.YtifbnojkjbjngaaDoorIs
import Derived.Laws.BytesArg
import Derived.Laws.OwnMore
namespace Go.Proofs.YtifbnojkjbjngaaDoor
open Go.RowKit

theorem Tryd.info5 : (Tryd.prog.info? 5).map (fun i => (i.zero, i.size, i.bytes)) = some (some (.int .u8 0), 1, 1) := by kernel_rfl
def OwnBytes (w : World) (base : Nat) (v : Value) (n : Nat) (xs : List Int) : Prop := w.ownsRow base 5 1 v n (xs.map (.int .u8))
theorem OwnBytes.conv {w : World} {base g n cap : Nat} {xs : List Int} (h : OwnBytes w base (.slice (some ⟨g, 0, none⟩) n cap) n xs) (hl : xs.length = n) :
    (convert 54 9 (.slice (some ⟨g, 0, none⟩) n cap)).run Tryd.prog w = .ok (.string (strOfNums xs)) w := by
  refine run_convert_bytes_arg w 54 5 Tryd.underlying54 Tryd.underlying5 g 0 n cap xs hl (fun i hi => ?_) 9 Tryd.underlying9
  have := h.cells (g := g) rfl i (.int .u8 (xs.getD i 0)) (by simp [List.getD, hl, hi])
  rw [show (⟨g, 0, none⟩ : Addr).add i = ⟨g, 0 + i, none⟩ from by unfold Addr.add; split <;> simp_all] at this
  exact this
theorem made_zero (n : Nat) : (madeCells (Value.int .u8 0).cells (n * 1)).toList = (List.replicate n (0 : Int)).map (.int .u8) := by
  rw [show (Value.int IntKind.u8 0).cells = #[Value.int .u8 0] from rfl, toList_madeCells_one]; simp
theorem nums_zero (n : Nat) : strOfNums (List.replicate n (0 : Int)) = bs (zs n) := by
  unfold strOfNums bs zs
  simp

set_option maxHeartbeats 1000000 in
theorem zeros_any (c : Int) (w : World) (h0 : 0 ≤ c) (h1 : c ≤ 1000) :
    Calls Tryd.prog 32 #[.int .i64 c] w fun e w' => e = .returned (.string (bs (zs c.toNat))) ∧ Below w.heap.size w w' := by
  obtain ⟨n, rfl⟩ : ∃ n : Nat, c = n := ⟨c.toNat, by omega⟩
  rw [Int.toNat_natCast]
  obtain ⟨i0, hi, hz0, hz1, hz2⟩ := info_parts Tryd.info5
  have hb : i0.bytes * n ≤ 281474976710656 := by rw [hz2]; omega
  have hm : n ≤ maxLen := by unfold maxLen; omega
  go_enter Tryd.func32, Tryd.ntmps32
  go_wp2_with (at_make; refine wpList_make_full w rfl (.tmp 3) (.tmp 3) 54 rfl w.heap.size 5 i0 (.int .u8 0) 1 Tryd.underlying54 hi hz0 hz1 .i64 .i64 n n n rfl rfl rfl rfl hb hm (Nat.le_refl _) ?_; intro w2 hown hgr; refine unstop ?_)
  unfold Stop
  have hO : OwnBytes w2 w.heap.size (.slice (some ⟨w.heap.size, 0, none⟩) n n) n (List.replicate n 0) := by unfold OwnBytes; rw [← made_zero]; exact hown
  have hc := hO.conv (by simp)
  rw [nums_zero] at hc
  have hbw : Below w.heap.size w w2 := (nwR w).grown hgr (Nat.le_refl _) (fun q e => by cases e)
  clear hown hgr hO
  go_wp2_with fail
  go_ret
  exact ⟨rfl, hbw⟩

end Go.Proofs.YtifbnojkjbjngaaDoor
