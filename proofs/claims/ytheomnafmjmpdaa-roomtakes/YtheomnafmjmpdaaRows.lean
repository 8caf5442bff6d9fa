/-
  No cell of these rows narrows 'for every input' (looked for: loops, veiled, ifaces, maps, wideKeys, modest, calm, conditions, laid).
  DERIVED. THE GIVEN ROWS OF THIS SEAT. 4 by the template 'for every input the law returns true; each argument reads behind the call as it read before'; 0 by the template 'total and deterministic' (their statements: YtheomnafmjmpdaaTotals.lean).
  GIVEN WITH THE SEED: the statements are not yours to turn. If you find one false, say at which input.
  Laid BY PROGRAM, IN A SANDBOX (cutbox-rows.mjs): the forced cells as the released guide's own fill.sh prints them over the translation a3d92feae9d895b9… (all of the seat's roots in one cut). By AI agents, Wed Nov 11 2026. No macro, syntax, notation, axiom, sorry.
-/
import Derived.Test.YtheomnafmjmpdaaChecked
import GoSem.Claim
import GoSem.ClaimJoined
import GoSem.ClaimMapViews
import Derived.JoinedTies
import Derived.KernelRfl
namespace Go.Proofs.Ytheomnafmjmpdaa
/- THE CELL 'sum', in the pinned program and in every row, IS THE sha256 OF THE DUMP (.gsa) THAT YtheomnafmjmpdaaProg.lean LOADS. Nothing in Lean hashes anything: it is a label: what it is worth is what the hold of that sum in a sandbox is worth. -/
noncomputable def Try.pinned : Pinned := { name := "ytheomnafmjmpdaa", sum := "a3d92feae9d895b98e568f154694c576b48163ffca95dbd9065ba002bcbf1ad1", checked := Try.checked }
namespace Rows
def none {H : Type} : Left H := { results := [], args := [] }

/-- 'hermitagelaw7.RoomExact': WHATEVER THE INPUT: true; the input reads as it did. -/
def roomExactSpec : ChangeSpec := { name := "roomExact", fn := fun _ => fun
  | [d] => { results := [.lit (.bool true)], args := [d] }
  | _ => none }
def roomExactRow : OpenClaim := { program := "ytheomnafmjmpdaa", sum := "a3d92feae9d895b98e568f154694c576b48163ffca95dbd9065ba002bcbf1ad1", func := "hermitage/hermitagelaw7.RoomExact", spec := "roomExact", unfollowed := true, recurses := true, apart := false }
def RoomExactSaid : Prop := roomExactRow.holds Try.pinned (OpenSpec.ofChange roomExactSpec)

/-- ITS FALSE NEIGHBOUR: 'it returns false'. Refute it at one input. -/
def roomExactWrong : ChangeSpec := { name := "roomExact", fn := fun _ => fun
  | [d] => { results := [.lit (.bool false)], args := [d] }
  | _ => none }
def RoomExactWrongFalsely : Prop := roomExactRow.holds Try.pinned (OpenSpec.ofChange roomExactWrong)

/-- 'hermitagelaw7.RoomBack': WHATEVER THE INPUT: true; the input reads as it did. -/
def roomBackSpec : ChangeSpec := { name := "roomBack", fn := fun _ => fun
  | [d] => { results := [.lit (.bool true)], args := [d] }
  | _ => none }
def roomBackRow : OpenClaim := { program := "ytheomnafmjmpdaa", sum := "a3d92feae9d895b98e568f154694c576b48163ffca95dbd9065ba002bcbf1ad1", func := "hermitage/hermitagelaw7.RoomBack", spec := "roomBack", unfollowed := true, recurses := true, apart := false }
def RoomBackSaid : Prop := roomBackRow.holds Try.pinned (OpenSpec.ofChange roomBackSpec)

/-- ITS FALSE NEIGHBOUR: 'it returns false'. Refute it at one input. -/
def roomBackWrong : ChangeSpec := { name := "roomBack", fn := fun _ => fun
  | [d] => { results := [.lit (.bool false)], args := [d] }
  | _ => none }
def RoomBackWrongFalsely : Prop := roomBackRow.holds Try.pinned (OpenSpec.ofChange roomBackWrong)

/-- 'hermitagelaw7.RoomTakes': WHATEVER THE INPUT: true; the input reads as it did. -/
def roomTakesSpec : ChangeSpec := { name := "roomTakes", fn := fun _ => fun
  | [d] => { results := [.lit (.bool true)], args := [d] }
  | _ => none }
def roomTakesRow : OpenClaim := { program := "ytheomnafmjmpdaa", sum := "a3d92feae9d895b98e568f154694c576b48163ffca95dbd9065ba002bcbf1ad1", func := "hermitage/hermitagelaw7.RoomTakes", spec := "roomTakes", unfollowed := true, recurses := true, apart := false }
def RoomTakesSaid : Prop := roomTakesRow.holds Try.pinned (OpenSpec.ofChange roomTakesSpec)

/-- ITS FALSE NEIGHBOUR: 'it returns false'. Refute it at one input. -/
def roomTakesWrong : ChangeSpec := { name := "roomTakes", fn := fun _ => fun
  | [d] => { results := [.lit (.bool false)], args := [d] }
  | _ => none }
def RoomTakesWrongFalsely : Prop := roomTakesRow.holds Try.pinned (OpenSpec.ofChange roomTakesWrong)

/-- 'hermitagelaw7.RoomGives': WHATEVER THE INPUT: true; the input reads as it did. -/
def roomGivesSpec : ChangeSpec := { name := "roomGives", fn := fun _ => fun
  | [d] => { results := [.lit (.bool true)], args := [d] }
  | _ => none }
def roomGivesRow : OpenClaim := { program := "ytheomnafmjmpdaa", sum := "a3d92feae9d895b98e568f154694c576b48163ffca95dbd9065ba002bcbf1ad1", func := "hermitage/hermitagelaw7.RoomGives", spec := "roomGives", unfollowed := true, recurses := true, apart := false }
def RoomGivesSaid : Prop := roomGivesRow.holds Try.pinned (OpenSpec.ofChange roomGivesSpec)

/-- ITS FALSE NEIGHBOUR: 'it returns false'. Refute it at one input. -/
def roomGivesWrong : ChangeSpec := { name := "roomGives", fn := fun _ => fun
  | [d] => { results := [.lit (.bool false)], args := [d] }
  | _ => none }
def RoomGivesWrongFalsely : Prop := roomGivesRow.holds Try.pinned (OpenSpec.ofChange roomGivesWrong)

/- THE SECOND FORM. 'bulk': how many values and letters a reading holds, each counted each time it is reached (what is shared counts as often as it is met; a slice's spare places count too). A statement '..UptoSaid' is the law's where the arguments, and the package variables that the reading takes, are together of bulk at most 1048576: NARROWER than '..Said'. Prove '..Said' where nothing that the law and all that it calls make is longer than what came in: it says more and counts as full. Else prove '..UptoSaid'. A law counts once. -/
mutual
def uptoBulk {H : Type} : DataW H → Nat
  | .lit (.string bytes) => bytes.length + 1
  | .lit _ => 1
  | .nil => 1
  | .ptr d => uptoBulk d + 1
  | .slice elems spare => uptoBulkAll elems + uptoBulkAll spare + 1
  | .agg parts => uptoBulkAll parts + 1
  | .iface _ d => uptoBulk d + 1
  | .map entries => uptoBulkEntries entries + 1
  | .held _ => 1
def uptoBulkAll {H : Type} : List (DataW H) → Nat
  | [] => 0
  | d :: r => uptoBulk d + uptoBulkAll r
def uptoBulkEntries {H : Type} : List (Lit × DataW H) → Nat
  | [] => 0
  | x :: r => uptoBulkEntry x + uptoBulkEntries r
def uptoBulkEntry {H : Type} : Lit × DataW H → Nat
  | (.string bytes, d) => bytes.length + uptoBulk d + 1
  | (_, d) => uptoBulk d + 1
 end
def uptoSmall : (H : Type) → List (DataW H) → Bool := fun _ ds => decide (uptoBulkAll ds ≤ 1048576)
def OpenSpec.upto (s : _root_.Go.ChangeSpec) : _root_.Go.OpenSpec := { _root_.Go.OpenSpec.ofChange s with cond := some uptoSmall }

/-- 'hermitagelaw7.RoomExact', WHERE WHAT IT READS IS OF BULK AT MOST 1048576: true; the input reads as it did. -/
def roomExactUptoRow : OpenClaim := { program := "ytheomnafmjmpdaa", sum := "a3d92feae9d895b98e568f154694c576b48163ffca95dbd9065ba002bcbf1ad1", func := "hermitage/hermitagelaw7.RoomExact", spec := "roomExact", unfollowed := true, recurses := true, apart := false, narrowed := true }
def RoomExactUptoSaid : Prop := roomExactUptoRow.holds Try.pinned (OpenSpec.upto roomExactSpec)

/-- 'hermitagelaw7.RoomBack', WHERE WHAT IT READS IS OF BULK AT MOST 1048576: true; the input reads as it did. -/
def roomBackUptoRow : OpenClaim := { program := "ytheomnafmjmpdaa", sum := "a3d92feae9d895b98e568f154694c576b48163ffca95dbd9065ba002bcbf1ad1", func := "hermitage/hermitagelaw7.RoomBack", spec := "roomBack", unfollowed := true, recurses := true, apart := false, narrowed := true }
def RoomBackUptoSaid : Prop := roomBackUptoRow.holds Try.pinned (OpenSpec.upto roomBackSpec)

/-- 'hermitagelaw7.RoomTakes', WHERE WHAT IT READS IS OF BULK AT MOST 1048576: true; the input reads as it did. -/
def roomTakesUptoRow : OpenClaim := { program := "ytheomnafmjmpdaa", sum := "a3d92feae9d895b98e568f154694c576b48163ffca95dbd9065ba002bcbf1ad1", func := "hermitage/hermitagelaw7.RoomTakes", spec := "roomTakes", unfollowed := true, recurses := true, apart := false, narrowed := true }
def RoomTakesUptoSaid : Prop := roomTakesUptoRow.holds Try.pinned (OpenSpec.upto roomTakesSpec)

/-- 'hermitagelaw7.RoomGives', WHERE WHAT IT READS IS OF BULK AT MOST 1048576: true; the input reads as it did. -/
def roomGivesUptoRow : OpenClaim := { program := "ytheomnafmjmpdaa", sum := "a3d92feae9d895b98e568f154694c576b48163ffca95dbd9065ba002bcbf1ad1", func := "hermitage/hermitagelaw7.RoomGives", spec := "roomGives", unfollowed := true, recurses := true, apart := false, narrowed := true }
def RoomGivesUptoSaid : Prop := roomGivesUptoRow.holds Try.pinned (OpenSpec.upto roomGivesSpec)

end Rows
end Go.Proofs.Ytheomnafmjmpdaa
