/- Read by the program. -/
import Derived.Test.YtifbnojkjbjngaaDoorRead
namespace Go.Proofs.YtifbnojkjbjngaaDoor
open Go.RowKit

def readOk (n : Int) (xs : List ByteArray) (x many : Int) : Bool := mayB n xs && numB x n && decide (0 ≤ many)
def readed (n : Int) (xs : List ByteArray) (x many : Int) : Array Value := if readOk n xs x many then #[.string (bs (((tx n xs).drop x.toNat).take many.toNat)), .int .i64 0] else #[.string ⟨#[]⟩, .int .i64 1]
theorem readed_no {n : Int} {xs : List ByteArray} {x many : Int} (h : readOk n xs x many = false) : readed n xs x many = #[.string ⟨#[]⟩, .int .i64 1] := by unfold readed; rw [h]; rfl
theorem box_two {W w1 : World} {c0 c1 : Value} (hb : Below (W.alloc (.cells #[c0, c1] 61)).heap.size (W.alloc (.cells #[c0, c1] 61)) w1) : w1.cell? ⟨W.heap.size, 0, none⟩ = some c0 ∧ w1.cell? ⟨W.heap.size, 1, none⟩ = some c1 :=
  ⟨(hb.cell (p := ⟨W.heap.size, 0, none⟩) (by simp)).trans (by simp), (hb.cell (p := ⟨W.heap.size, 1, none⟩) (by simp)).trans (by simp)⟩

set_option maxHeartbeats 2000000 in
theorem bread_any (a : Option Addr) (xs : List ByteArray) (ca : Nat) (n x many : Int) (w : World) (hx : StrsAt w a xs) (hcap : xs.length ≤ ca) (hl : xs.length ≤ maxLen) :
    Calls Tryd.prog 18 #[.int .i64 n, .slice a xs.length ca, .int .i64 x, .int .i64 many] w fun e w' => e = .returned (.tuple (readed n xs x many)) ∧ Below w.heap.size w w' := by
  cases hM : mayB n xs
  · have HV : Hid (readed n xs x many = #[.string ⟨#[]⟩, .int .i64 1]) := readed_no (by unfold readOk; rw [hM]; rfl)
    have HW : Hid (opened n a xs ca = #[.agg #[.slice none 0 0, .int .i64 0], .int .i64 1]) := by show _ = _; unfold opened; rw [hM]; rfl
    go_enter Tryd.func18, Tryd.ntmps18
    go_wp2_with fail
    refine (open_any a xs ca n _ hx hcap hl).mono ?_
    rintro e w1 ⟨rfl, hb1⟩
    rw [HW.out]
    go_wp2_with fail
    go_ret2
    exact ⟨by rw [HV.out]; rfl, nwA hb1 _⟩
  · have HM : Hid (mayB n xs = true) := hM
    have HW : Hid (opened n a xs ca = #[.agg #[.slice a xs.length ca, .int .i64 n], .int .i64 0]) := by show _ = _; unfold opened; rw [hM]; rfl
    go_enter Tryd.func18, Tryd.ntmps18
    go_wp2_with fail
    refine (open_any a xs ca n _ hx hcap hl).mono ?_
    rintro e w1 ⟨rfl, hb1⟩
    rw [HW.out]
    go_wp2_with fail
    have hb2 := nwA hb1 (.cells #[.slice a xs.length ca, .int .i64 n] 61)
    refine (reaches_any a xs.length ca n x _).mono ?_
    rintro e w2 ⟨rfl, hb3⟩
    obtain ⟨d0, d1⟩ := box_two hb3
    have hb4 := nwT hb2 hb3
    clear hb3
    cases hN : numB x n
    · have HV : Hid (readed n xs x many = #[.string ⟨#[]⟩, .int .i64 1]) := readed_no (by unfold readOk; rw [hM, hN]; rfl)
      go_wp2_with fail
      go_ret2
      exact ⟨by rw [HV.out]; rfl, hb4⟩
    · by_cases hm0 : many < 0
      · have HV : Hid (readed n xs x many = #[.string ⟨#[]⟩, .int .i64 1]) := readed_no (by unfold readOk; rw [hM, hN, decide_eq_false (by omega)]; rfl)
        go_wp2_with fail
        go_ret2
        exact ⟨by rw [HV.out]; rfl, hb4⟩
      · have HX4 : Hid (StrsAt w2 a xs) := hx.below hb4
        have HV : Hid (readed n xs x many = #[.string (bs (((tx n xs).drop x.toNat).take many.toNat)), .int .i64 0]) := by
          show _ = _; unfold readed readOk; rw [hM, hN, decide_eq_true (by omega)]; rfl
        have hxn : 0 ≤ x ∧ x ≤ n := by simpa [numB] using hN
        go_wp2_with fail
        refine (bytes_any a xs ca n _ HX4.out hcap HM.out).mono ?_
        rintro e w3 ⟨rfl, hb5⟩
        have hb6 := nwT hb4 hb5
        have htl := tx_len HM.out
        obtain ⟨k, rfl⟩ : ∃ k : Nat, x = k := ⟨x.toNat, by omega⟩
        obtain ⟨m, rfl⟩ : ∃ m : Nat, many = m := ⟨many.toNat, by omega⟩
        have hk : (k : Int) ≤ ((bs (tx n xs)).size : Int) := by rw [bs_size, htl]; omega
        have hsz : ((bs (tx n xs)).extract k (bs (tx n xs)).size).size = (tx n xs).length - k := by rw [ext_right, bs_size, List.length_drop, ls_bs]
        have HR : Hid (∀ r : Nat, r = min m ((bs (tx n xs)).extract k (bs (tx n xs)).size).size → ((bs (tx n xs)).extract k (bs (tx n xs)).size).extract 0 r = bs (((tx n xs).drop k).take m)) := by
          intro r hr
          rw [ext_left, ext_right, ls_bs, ls_bs, hr, ext_right, bs_size, ls_bs]
          congr 1
          rw [List.take_eq_take_iff]
          omega
        rw [Int.toNat_natCast, Int.toNat_natCast] at HV
        generalize ((tx n xs).drop k).take m = Z at HR HV
        clear hb5 htl hsz hM
        generalize bs (tx n xs) = T at hk HR
        go_wp2_with fail
        have hrr := HR.out (min (m : Int) ((T.size - k : Nat) : Int)).toNat (by rw [ext_right, bs_size, List.length_drop, ls_size]; omega)
        go_ret2
        refine ⟨?_, hb6⟩
        rw [HV.out, ← hrr]; rfl

end Go.Proofs.YtifbnojkjbjngaaDoor
