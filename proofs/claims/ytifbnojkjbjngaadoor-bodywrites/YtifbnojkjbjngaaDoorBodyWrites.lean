/- PROVED: for every input of type Ask, hermitagelaw4.BodyWrites returns true at commit 073317981ef0b9957b076d98e887aad2b3ebe913 and leaves its argument as it read before, where the two listed tables of Go's unicode/utf8 hold what the program's text lays (the card ties them); no other condition beside the form's own reach. -/
import Derived.Test.YtifbnojkjbjngaaDoorOpen
import Derived.Test.YtifbnojkjbjngaaDoorWrites
namespace Go.Proofs.YtifbnojkjbjngaaDoor
open Go.ChangeShapes Go.WideShapes Go.ChangeAt Go.RowKit Go.Deep Go.Joins

set_option maxRecDepth 100000 in
theorem bodyWrites_lifted (os : Os) (started : os.Started) (H : Type) (enc : TypeId × Value → H) :
    ReturnsInHanded {} Tryd.checked os 4 .any (fun w args => (Rows.bodyWritesSpec.pre enc Tryd.prog Tryd.f4 Rows.bodyWritesRow.domain false w args ∧ laidMetH Tryd.prog Rows.bodyWritesRow.laid w) ∧ sizedMet enc Tryd.prog Tryd.f4 (OpenSpec.ofChange Rows.bodyWritesSpec) false w args)
      (Rows.bodyWritesSpec.post enc Tryd.prog Tryd.f4 false true false false) := by
  refine returnsInHanded_of_change_and (C := Tryd.checked) (X := fun w _ => laidMetH Tryd.prog Rows.bodyWritesRow.laid w) (fun _ _ _ hh h => h.of_heap hh) Tryd.own started (by kernel_rfl) Tryd.func4
    (ChangeSpec.witness_shaped (enc := enc) (C := Tryd.checked) (os := os) (X := fun w _ => laidMetH Tryd.prog Rows.bodyWritesRow.laid w) false (World.laidAll Tryd.prog os Rows.bodyWritesRow.laid) #[.agg #[.slice none 0 0, .slice none 0 0, .slice none 0 0]] 8 (World.laidAll_os _ _ _)
      (World.shaped_of_ZipB (by kernel_rfl) (by kernel_rfl)) (by kernel_rfl) (by kernel_rfl) (by kernel_rfl)
      (by rw [MakeChecks.laidMetH_plain _ _ _ (by kernel_rfl)]; exact laidMet_laidAll _ (by kernel_rfl) (by kernel_rfl))) ?_
  intro W base args ds gs before hval0 hW _ hsz0 _ _
  have hsz : (DataW.weightsEach Tryd.prog (Tryd.f4.params.toList ++ Rows.bodyWritesSpec.plain.varTypes Tryd.prog) (ds ++ gs)).all (· ≤ reachBytes) = true := hsz0
  clear hsz0
  have hval : ∀ (j : Nat) t v, Tryd.f4.params[j]? = some t → args[j]? = some v → Value.okWide Tryd.prog W .any base t v := hval0
  have hW' := hW
  obtain ⟨p, q, hA0, hV, rfl, hfz, hnd⟩ := hW
  have hA : DataW.TrodAll enc Tryd.prog W 0 (fun _ => true) true Tryd.f4.params.toList args.toList ds p := hA0
  rw [Tryd.params4] at hA hval hsz
  obtain ⟨v0, d0, rfl, rfl, h0⟩ := trodAll_one hA
  obtain ⟨rfl, rfl⟩ := trodVars_none hV
  have k0 := h0
  obtain ⟨c0, c1, c2, y0, y1, y2, n, rfl, rfl, rfl, t0, t1, t2⟩ := open_agg3 Tryd.underlying26 (by kernel_rfl) Tryd.cells26 (hval 0 26 v0 rfl rfl) h0
  have hwt : ∀ x ∈ (DataW.agg [y0.1, y1.1, y2.1] : DataW H).weights Tryd.prog 26, x ≤ reachBytes := fun x hx => by
    have := List.all_eq_true.1 hsz x (DataW.weights_mem_each (j := 0) (t := 26) rfl rfl x hx)
    simpa using this
  obtain ⟨aS, S, cS, rfl, hS⟩ := open_texts t0 (fun x hx => hwt x (by simp only [DataW.weights, DataW.weightsEach, Tryd.underlying26, List.map_cons, List.map_nil]; exact List.mem_append.2 (Or.inl hx)))
  obtain ⟨aL, L, cL, rfl, hL⟩ := open_rows t1 (fun x hx => hwt x (by simp only [DataW.weights, DataW.weightsEach, Tryd.underlying26, List.map_cons, List.map_nil]; exact List.mem_append.2 (Or.inr (List.mem_append.2 (Or.inl hx)))))
  obtain ⟨aN, N, cN, rfl, hN⟩ := open_nums t2 (fun x hx => hwt x (by simp only [DataW.weights, DataW.weightsEach, Tryd.underlying26, List.map_cons, List.map_nil]; exact List.mem_append.2 (Or.inr (List.mem_append.2 (Or.inr (List.mem_append.2 (Or.inl hx)))))))
  have lt0 : ∀ x ∈ y0.2 ++ (y1.2 ++ y2.2), x.block < W.heap.size := by obtain ⟨m, hm⟩ := k0; exact DataW.trod_lt m _ _ (DataW.agg [y0.1, y1.1, y2.1], y0.2 ++ (y1.2 ++ y2.2)) hm
  clear hA0 hval0
  refine (writes_walk _ ⟨S, L, N⟩ W ⟨aS, cS, aL, cL, aN, cN, rfl, hS, hL, hN⟩).mono fun e W' ⟨he, bel⟩ => ?_
  subst he
  exact ⟨_, rfl, _, _, _, [], _, [], hW', trodAll_mk1 (shut_bool Tryd.underlying4 _), trodAll_mk1 (Below.trod Tryd.laidOut (by kernel_rfl) (of_decide_eq_true (by kernel_rfl)) k0 bel lt0), rfl, bel.frame _, fun h => by cases h⟩

theorem bodyWrites_said : Rows.BodyWritesSaid :=
  OpenClaim.holds_of_wide 4 Tryd.f4 rfl rfl rfl rfl rfl rfl rfl ⟨rfl, rfl, rfl, rfl, rfl⟩ rfl rfl rfl rfl rfl (by kernel_rfl) Tryd.func4 (by kernel_rfl)
    (of_decide_eq_true (by kernel_rfl)) (by unfold Func.isWrapper; first | (rw [if_pos (by decide +kernel)]; kernel_rfl) | (rw [if_neg (by decide +kernel)]; exact ⟨rfl, rfl⟩))
    (fun os started H enc _ => bodyWrites_lifted os started H enc)

theorem bodyWrites_plain (f : FuncId) (fn : Func) (hf : Tryd.pinned.checked.prog.funcNamed "hermitage/hermitagelaw4.BodyWrites" = some f) (hfn : Tryd.pinned.checked.prog.funcs[f]? = some fn) :
    false = Tryd.pinned.checked.prog.looks [] ∧ ∀ (j : Nat) t, fn.params[j]? = some t → Tryd.pinned.checked.prog.wantsStandIn t = false := by
  obtain rfl : f = 4 := Option.some.inj ((show Tryd.prog.funcNamed "hermitage/hermitagelaw4.BodyWrites" = some 4 by kernel_rfl).symm.trans hf) |>.symm
  obtain rfl : fn = Tryd.f4 := (Option.some.inj (Tryd.func4.symm.trans hfn)).symm
  refine ⟨by kernel_rfl, fun j t ht => ?_⟩
  rw [Tryd.params4] at ht
  obtain rfl : t = 26 := by simpa using Array.mem_of_getElem? ht
  exact (show Tryd.prog.wantsStandIn 26 = false by kernel_rfl)

theorem bodyWrites_card : Rows.BodyWritesCardSaid :=
  Claim7.holds_tied_plain_at .later [] _ _ _ _ bodyWrites_said (fun _ h => by cases h) (by kernel_rfl) (fun _ h => by cases h) bodyWrites_row_tie rfl ⟨rfl, rfl⟩ (by kernel_rfl) rfl bodyWrites_plain (by kernel_rfl)

end Go.Proofs.YtifbnojkjbjngaaDoor
