/-
  No cell of these rows narrows 'for every input' (looked for: loops, veiled, ifaces, maps, wideKeys, modest, calm, conditions, laid).
  DERIVED. THE GIVEN ROWS OF THIS SEAT. 3 by the template 'for every input the law returns true; each argument reads behind the call as it read before'; 0 by the template 'total and deterministic' (their statements: YtdpighcaieajjabGreatTotals.lean).
  GIVEN WITH THE SEED: the statements are not yours to turn. If you find one false, say at which input.
  Laid BY PROGRAM, IN A SANDBOX (cutbox-rows.mjs): the forced cells as the released guide's own fill.sh prints them over the translation 45fdd4c80cf550c1… (all of the seat's roots in one cut). By AI agents, Wed Nov 11 2026. No macro, syntax, notation, axiom, sorry.
-/
import Derived.Test.YtdpighcaieajjabGreatChecked
import GoSem.Claim
import GoSem.ClaimJoined
import GoSem.ClaimMapViews
import Derived.JoinedTies
import Derived.KernelRfl
namespace Go.Proofs.YtdpighcaieajjabGreat
/- THE CELL 'sum', in the pinned program and in every row, IS THE sha256 OF THE DUMP (.gsa) THAT YtdpighcaieajjabGreatProg.lean LOADS. Nothing in Lean hashes anything: it is a label: what it is worth is what the hold of that sum in a sandbox is worth. -/
noncomputable def Tryz.pinned : Pinned := { name := "ytdpighcaieajjabgreat", sum := "45fdd4c80cf550c1bf595f14083061076687563b8676d18176e1dc9195122906", checked := Tryz.checked }
namespace Rows
def none {H : Type} : Left H := { results := [], args := [] }

/-- 'hermitagelaw3.TreeUnlinks': WHATEVER THE INPUT: true; the input reads as it did. -/
def treeUnlinksSpec : ChangeSpec := { name := "treeUnlinks", fn := fun _ => fun
  | [d] => { results := [.lit (.bool true)], args := [d] }
  | _ => none }
def treeUnlinksRow : OpenClaim := { program := "ytdpighcaieajjabgreat", sum := "45fdd4c80cf550c1bf595f14083061076687563b8676d18176e1dc9195122906", func := "hermitage/hermitagelaw3.TreeUnlinks", spec := "treeUnlinks", inPlace := ["internal/bytealg.IndexByteString", "internal/abi.NoEscape"], unfollowed := true, recurses := true, apart := false }
def TreeUnlinksSaid : Prop := treeUnlinksRow.holds Tryz.pinned (OpenSpec.ofChange treeUnlinksSpec)

/-- ITS FALSE NEIGHBOUR: 'it returns false'. Refute it at one input. -/
def treeUnlinksWrong : ChangeSpec := { name := "treeUnlinks", fn := fun _ => fun
  | [d] => { results := [.lit (.bool false)], args := [d] }
  | _ => none }
def TreeUnlinksWrongFalsely : Prop := treeUnlinksRow.holds Tryz.pinned (OpenSpec.ofChange treeUnlinksWrong)

/-- 'hermitagelaw3.TreeRmdirs': WHATEVER THE INPUT: true; the input reads as it did. -/
def treeRmdirsSpec : ChangeSpec := { name := "treeRmdirs", fn := fun _ => fun
  | [d] => { results := [.lit (.bool true)], args := [d] }
  | _ => none }
def treeRmdirsRow : OpenClaim := { program := "ytdpighcaieajjabgreat", sum := "45fdd4c80cf550c1bf595f14083061076687563b8676d18176e1dc9195122906", func := "hermitage/hermitagelaw3.TreeRmdirs", spec := "treeRmdirs", inPlace := ["internal/bytealg.IndexByteString", "internal/abi.NoEscape"], unfollowed := true, recurses := true, apart := false }
def TreeRmdirsSaid : Prop := treeRmdirsRow.holds Tryz.pinned (OpenSpec.ofChange treeRmdirsSpec)

/-- ITS FALSE NEIGHBOUR: 'it returns false'. Refute it at one input. -/
def treeRmdirsWrong : ChangeSpec := { name := "treeRmdirs", fn := fun _ => fun
  | [d] => { results := [.lit (.bool false)], args := [d] }
  | _ => none }
def TreeRmdirsWrongFalsely : Prop := treeRmdirsRow.holds Tryz.pinned (OpenSpec.ofChange treeRmdirsWrong)

/-- 'hermitagelaw3.TreeRenames': WHATEVER THE INPUT: true; the input reads as it did. -/
def treeRenamesSpec : ChangeSpec := { name := "treeRenames", fn := fun _ => fun
  | [d] => { results := [.lit (.bool true)], args := [d] }
  | _ => none }
def treeRenamesRow : OpenClaim := { program := "ytdpighcaieajjabgreat", sum := "45fdd4c80cf550c1bf595f14083061076687563b8676d18176e1dc9195122906", func := "hermitage/hermitagelaw3.TreeRenames", spec := "treeRenames", inPlace := ["internal/bytealg.IndexByteString", "internal/abi.NoEscape"], unfollowed := true, recurses := true, apart := false }
def TreeRenamesSaid : Prop := treeRenamesRow.holds Tryz.pinned (OpenSpec.ofChange treeRenamesSpec)

/-- ITS FALSE NEIGHBOUR: 'it returns false'. Refute it at one input. -/
def treeRenamesWrong : ChangeSpec := { name := "treeRenames", fn := fun _ => fun
  | [d] => { results := [.lit (.bool false)], args := [d] }
  | _ => none }
def TreeRenamesWrongFalsely : Prop := treeRenamesRow.holds Tryz.pinned (OpenSpec.ofChange treeRenamesWrong)

/- THE SECOND FORM. 'bulk': how many values and letters a reading holds, each counted each time it is reached (what is shared counts as often as it is met; a slice's spare places count too). A statement '..UptoSaid' is the law's where the arguments, and the package variables that the reading takes, are together of bulk at most 1048576: NARROWER than '..Said'. Prove '..Said' where nothing that the law and all that it calls make is longer than what came in: it says more and counts as full. Else prove '..UptoSaid'. A law counts once. -/
mutual
def uptoBulk {H : Type} : DataW H → Nat
  | .lit (.string bytes) => bytes.length + 1
  | .lit _ => 1
  | .nil => 1
  | .ptr d => uptoBulk d + 1
  | .slice elems spare => uptoBulkAll elems + uptoBulkAll spare + 1
  | .agg parts => uptoBulkAll parts + 1
  | .iface _ d => uptoBulk d + 1
  | .map entries => uptoBulkEntries entries + 1
  | .held _ => 1
def uptoBulkAll {H : Type} : List (DataW H) → Nat
  | [] => 0
  | d :: r => uptoBulk d + uptoBulkAll r
def uptoBulkEntries {H : Type} : List (Lit × DataW H) → Nat
  | [] => 0
  | x :: r => uptoBulkEntry x + uptoBulkEntries r
def uptoBulkEntry {H : Type} : Lit × DataW H → Nat
  | (.string bytes, d) => bytes.length + uptoBulk d + 1
  | (_, d) => uptoBulk d + 1
 end
def uptoSmall : (H : Type) → List (DataW H) → Bool := fun _ ds => decide (uptoBulkAll ds ≤ 1048576)
def OpenSpec.upto (s : _root_.Go.ChangeSpec) : _root_.Go.OpenSpec := { _root_.Go.OpenSpec.ofChange s with cond := some uptoSmall }

/-- 'hermitagelaw3.TreeUnlinks', WHERE WHAT IT READS IS OF BULK AT MOST 1048576: true; the input reads as it did. -/
def treeUnlinksUptoRow : OpenClaim := { program := "ytdpighcaieajjabgreat", sum := "45fdd4c80cf550c1bf595f14083061076687563b8676d18176e1dc9195122906", func := "hermitage/hermitagelaw3.TreeUnlinks", spec := "treeUnlinks", inPlace := ["internal/bytealg.IndexByteString", "internal/abi.NoEscape"], unfollowed := true, recurses := true, apart := false, narrowed := true }
def TreeUnlinksUptoSaid : Prop := treeUnlinksUptoRow.holds Tryz.pinned (OpenSpec.upto treeUnlinksSpec)

/-- 'hermitagelaw3.TreeRmdirs', WHERE WHAT IT READS IS OF BULK AT MOST 1048576: true; the input reads as it did. -/
def treeRmdirsUptoRow : OpenClaim := { program := "ytdpighcaieajjabgreat", sum := "45fdd4c80cf550c1bf595f14083061076687563b8676d18176e1dc9195122906", func := "hermitage/hermitagelaw3.TreeRmdirs", spec := "treeRmdirs", inPlace := ["internal/bytealg.IndexByteString", "internal/abi.NoEscape"], unfollowed := true, recurses := true, apart := false, narrowed := true }
def TreeRmdirsUptoSaid : Prop := treeRmdirsUptoRow.holds Tryz.pinned (OpenSpec.upto treeRmdirsSpec)

/-- 'hermitagelaw3.TreeRenames', WHERE WHAT IT READS IS OF BULK AT MOST 1048576: true; the input reads as it did. -/
def treeRenamesUptoRow : OpenClaim := { program := "ytdpighcaieajjabgreat", sum := "45fdd4c80cf550c1bf595f14083061076687563b8676d18176e1dc9195122906", func := "hermitage/hermitagelaw3.TreeRenames", spec := "treeRenames", inPlace := ["internal/bytealg.IndexByteString", "internal/abi.NoEscape"], unfollowed := true, recurses := true, apart := false, narrowed := true }
def TreeRenamesUptoSaid : Prop := treeRenamesUptoRow.holds Tryz.pinned (OpenSpec.upto treeRenamesSpec)

end Rows
end Go.Proofs.YtdpighcaieajjabGreat
