/-
  No cell of these rows narrows 'for every input' (looked for: loops, veiled, ifaces, maps, wideKeys, modest, calm, conditions, laid).
  DERIVED. THE GIVEN ROWS OF THIS SEAT. 5 by the template 'for every input the law returns true; each argument reads behind the call as it read before'; 0 by the template 'total and deterministic' (their statements: YtpkgoagoceddoaaTotals.lean).
  GIVEN WITH THE SEED: the statements are not yours to turn. If you find one false, say at which input.
  Laid BY PROGRAM, IN A SANDBOX (cutbox-rows.mjs): the forced cells as the released guide's own fill.sh prints them over the translation 6ab7719c108e7fa8… (all of the seat's roots in one cut). By AI agents, Wed Nov 11 2026. No macro, syntax, notation, axiom, sorry.
-/
import Derived.Test.YtpkgoagoceddoaaChecked
import GoSem.Claim
import GoSem.ClaimJoined
import GoSem.ClaimMapViews
import Derived.JoinedTies
import Derived.KernelRfl
namespace Go.Proofs.Ytpkgoagoceddoaa
/- THE CELL 'sum', in the pinned program and in every row, IS THE sha256 OF THE DUMP (.gsa) THAT YtpkgoagoceddoaaProg.lean LOADS. Nothing in Lean hashes anything: it is a label: what it is worth is what the hold of that sum in a sandbox is worth. -/
noncomputable def Try.pinned : Pinned := { name := "ytpkgoagoceddoaa", sum := "6ab7719c108e7fa8cd6c2d146973811ae146f579143ae72586071b5b84f4ef2f", checked := Try.checked }
namespace Rows
def none {H : Type} : Left H := { results := [], args := [] }

/-- 'hermitagelaw1.SegTells': WHATEVER THE INPUT: true; the input reads as it did. -/
def segTellsSpec : ChangeSpec := { name := "segTells", fn := fun _ => fun
  | [d] => { results := [.lit (.bool true)], args := [d] }
  | _ => none }
def segTellsRow : OpenClaim := { program := "ytpkgoagoceddoaa", sum := "6ab7719c108e7fa8cd6c2d146973811ae146f579143ae72586071b5b84f4ef2f", func := "hermitage/hermitagelaw1.SegTells", spec := "segTells", unfollowed := true, recurses := true, apart := false }
def SegTellsSaid : Prop := segTellsRow.holds Try.pinned (OpenSpec.ofChange segTellsSpec)

/-- ITS FALSE NEIGHBOUR: 'it returns false'. Refute it at one input. -/
def segTellsWrong : ChangeSpec := { name := "segTells", fn := fun _ => fun
  | [d] => { results := [.lit (.bool false)], args := [d] }
  | _ => none }
def SegTellsWrongFalsely : Prop := segTellsRow.holds Try.pinned (OpenSpec.ofChange segTellsWrong)

/-- 'hermitagelaw1.SegTwos': WHATEVER THE INPUT: true; the input reads as it did. -/
def segTwosSpec : ChangeSpec := { name := "segTwos", fn := fun _ => fun
  | [d] => { results := [.lit (.bool true)], args := [d] }
  | _ => none }
def segTwosRow : OpenClaim := { program := "ytpkgoagoceddoaa", sum := "6ab7719c108e7fa8cd6c2d146973811ae146f579143ae72586071b5b84f4ef2f", func := "hermitage/hermitagelaw1.SegTwos", spec := "segTwos", unfollowed := true, recurses := true, apart := false }
def SegTwosSaid : Prop := segTwosRow.holds Try.pinned (OpenSpec.ofChange segTwosSpec)

/-- ITS FALSE NEIGHBOUR: 'it returns false'. Refute it at one input. -/
def segTwosWrong : ChangeSpec := { name := "segTwos", fn := fun _ => fun
  | [d] => { results := [.lit (.bool false)], args := [d] }
  | _ => none }
def SegTwosWrongFalsely : Prop := segTwosRow.holds Try.pinned (OpenSpec.ofChange segTwosWrong)

/-- 'hermitagelaw1.SegParts': WHATEVER THE INPUT: true; the input reads as it did. -/
def segPartsSpec : ChangeSpec := { name := "segParts", fn := fun _ => fun
  | [d] => { results := [.lit (.bool true)], args := [d] }
  | _ => none }
def segPartsRow : OpenClaim := { program := "ytpkgoagoceddoaa", sum := "6ab7719c108e7fa8cd6c2d146973811ae146f579143ae72586071b5b84f4ef2f", func := "hermitage/hermitagelaw1.SegParts", spec := "segParts", unfollowed := true, recurses := true, apart := false }
def SegPartsSaid : Prop := segPartsRow.holds Try.pinned (OpenSpec.ofChange segPartsSpec)

/-- ITS FALSE NEIGHBOUR: 'it returns false'. Refute it at one input. -/
def segPartsWrong : ChangeSpec := { name := "segParts", fn := fun _ => fun
  | [d] => { results := [.lit (.bool false)], args := [d] }
  | _ => none }
def SegPartsWrongFalsely : Prop := segPartsRow.holds Try.pinned (OpenSpec.ofChange segPartsWrong)

/-- 'hermitagelaw1.SegMany': WHATEVER THE INPUT: true; the input reads as it did. -/
def segManySpec : ChangeSpec := { name := "segMany", fn := fun _ => fun
  | [d] => { results := [.lit (.bool true)], args := [d] }
  | _ => none }
def segManyRow : OpenClaim := { program := "ytpkgoagoceddoaa", sum := "6ab7719c108e7fa8cd6c2d146973811ae146f579143ae72586071b5b84f4ef2f", func := "hermitage/hermitagelaw1.SegMany", spec := "segMany", unfollowed := true, recurses := true, apart := false }
def SegManySaid : Prop := segManyRow.holds Try.pinned (OpenSpec.ofChange segManySpec)

/-- ITS FALSE NEIGHBOUR: 'it returns false'. Refute it at one input. -/
def segManyWrong : ChangeSpec := { name := "segMany", fn := fun _ => fun
  | [d] => { results := [.lit (.bool false)], args := [d] }
  | _ => none }
def SegManyWrongFalsely : Prop := segManyRow.holds Try.pinned (OpenSpec.ofChange segManyWrong)

/-- 'hermitagelaw1.SegNots': WHATEVER THE INPUT: true; the input reads as it did. -/
def segNotsSpec : ChangeSpec := { name := "segNots", fn := fun _ => fun
  | [d] => { results := [.lit (.bool true)], args := [d] }
  | _ => none }
def segNotsRow : OpenClaim := { program := "ytpkgoagoceddoaa", sum := "6ab7719c108e7fa8cd6c2d146973811ae146f579143ae72586071b5b84f4ef2f", func := "hermitage/hermitagelaw1.SegNots", spec := "segNots", unfollowed := true, recurses := true, apart := false }
def SegNotsSaid : Prop := segNotsRow.holds Try.pinned (OpenSpec.ofChange segNotsSpec)

/-- ITS FALSE NEIGHBOUR: 'it returns false'. Refute it at one input. -/
def segNotsWrong : ChangeSpec := { name := "segNots", fn := fun _ => fun
  | [d] => { results := [.lit (.bool false)], args := [d] }
  | _ => none }
def SegNotsWrongFalsely : Prop := segNotsRow.holds Try.pinned (OpenSpec.ofChange segNotsWrong)

/- THE SECOND FORM. 'bulk': how many values and letters a reading holds, each counted each time it is reached (what is shared counts as often as it is met; a slice's spare places count too). A statement '..UptoSaid' is the law's where the arguments, and the package variables that the reading takes, are together of bulk at most 1048576: NARROWER than '..Said'. Prove '..Said' where nothing that the law and all that it calls make is longer than what came in: it says more and counts as full. Else prove '..UptoSaid'. A law counts once. -/
mutual
def uptoBulk {H : Type} : DataW H → Nat
  | .lit (.string bytes) => bytes.length + 1
  | .lit _ => 1
  | .nil => 1
  | .ptr d => uptoBulk d + 1
  | .slice elems spare => uptoBulkAll elems + uptoBulkAll spare + 1
  | .agg parts => uptoBulkAll parts + 1
  | .iface _ d => uptoBulk d + 1
  | .map entries => uptoBulkEntries entries + 1
  | .held _ => 1
def uptoBulkAll {H : Type} : List (DataW H) → Nat
  | [] => 0
  | d :: r => uptoBulk d + uptoBulkAll r
def uptoBulkEntries {H : Type} : List (Lit × DataW H) → Nat
  | [] => 0
  | x :: r => uptoBulkEntry x + uptoBulkEntries r
def uptoBulkEntry {H : Type} : Lit × DataW H → Nat
  | (.string bytes, d) => bytes.length + uptoBulk d + 1
  | (_, d) => uptoBulk d + 1
 end
def uptoSmall : (H : Type) → List (DataW H) → Bool := fun _ ds => decide (uptoBulkAll ds ≤ 1048576)
def OpenSpec.upto (s : _root_.Go.ChangeSpec) : _root_.Go.OpenSpec := { _root_.Go.OpenSpec.ofChange s with cond := some uptoSmall }

/-- 'hermitagelaw1.SegTells', WHERE WHAT IT READS IS OF BULK AT MOST 1048576: true; the input reads as it did. -/
def segTellsUptoRow : OpenClaim := { program := "ytpkgoagoceddoaa", sum := "6ab7719c108e7fa8cd6c2d146973811ae146f579143ae72586071b5b84f4ef2f", func := "hermitage/hermitagelaw1.SegTells", spec := "segTells", unfollowed := true, recurses := true, apart := false, narrowed := true }
def SegTellsUptoSaid : Prop := segTellsUptoRow.holds Try.pinned (OpenSpec.upto segTellsSpec)

/-- 'hermitagelaw1.SegTwos', WHERE WHAT IT READS IS OF BULK AT MOST 1048576: true; the input reads as it did. -/
def segTwosUptoRow : OpenClaim := { program := "ytpkgoagoceddoaa", sum := "6ab7719c108e7fa8cd6c2d146973811ae146f579143ae72586071b5b84f4ef2f", func := "hermitage/hermitagelaw1.SegTwos", spec := "segTwos", unfollowed := true, recurses := true, apart := false, narrowed := true }
def SegTwosUptoSaid : Prop := segTwosUptoRow.holds Try.pinned (OpenSpec.upto segTwosSpec)

/-- 'hermitagelaw1.SegParts', WHERE WHAT IT READS IS OF BULK AT MOST 1048576: true; the input reads as it did. -/
def segPartsUptoRow : OpenClaim := { program := "ytpkgoagoceddoaa", sum := "6ab7719c108e7fa8cd6c2d146973811ae146f579143ae72586071b5b84f4ef2f", func := "hermitage/hermitagelaw1.SegParts", spec := "segParts", unfollowed := true, recurses := true, apart := false, narrowed := true }
def SegPartsUptoSaid : Prop := segPartsUptoRow.holds Try.pinned (OpenSpec.upto segPartsSpec)

/-- 'hermitagelaw1.SegMany', WHERE WHAT IT READS IS OF BULK AT MOST 1048576: true; the input reads as it did. -/
def segManyUptoRow : OpenClaim := { program := "ytpkgoagoceddoaa", sum := "6ab7719c108e7fa8cd6c2d146973811ae146f579143ae72586071b5b84f4ef2f", func := "hermitage/hermitagelaw1.SegMany", spec := "segMany", unfollowed := true, recurses := true, apart := false, narrowed := true }
def SegManyUptoSaid : Prop := segManyUptoRow.holds Try.pinned (OpenSpec.upto segManySpec)

/-- 'hermitagelaw1.SegNots', WHERE WHAT IT READS IS OF BULK AT MOST 1048576: true; the input reads as it did. -/
def segNotsUptoRow : OpenClaim := { program := "ytpkgoagoceddoaa", sum := "6ab7719c108e7fa8cd6c2d146973811ae146f579143ae72586071b5b84f4ef2f", func := "hermitage/hermitagelaw1.SegNots", spec := "segNots", unfollowed := true, recurses := true, apart := false, narrowed := true }
def SegNotsUptoSaid : Prop := segNotsUptoRow.holds Try.pinned (OpenSpec.upto segNotsSpec)

end Rows
end Go.Proofs.Ytpkgoagoceddoaa
