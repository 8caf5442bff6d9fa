/-
  DERIVED. GIVEN WITH THE SEED: THE CARDS: each row of YtifbnojkjbjngaaDoorRows.lean that lists a variable, with what it lists TIED to the program's text (the seventh form; the later family's looks); each row that meets fmt, with fmt's text TOLD by the authors' own Lean function (tested against real Go, not proved from fmt's source: count such statements apart). THE CARD IS WHAT COUNTS. Prove the row's statement (the work); the ties are given (YtifbnojkjbjngaaDoorTie.lean); close each card by the builder's one call (the guide's Derived/Test/ToyasCard.lean, 'card_holds'). Laid BY PROGRAM, IN A SANDBOX (cutbox-door.mjs). By AI agents, Wed Nov 11 2026. No macro, syntax, notation, axiom, sorry.
-/
import Derived.Test.YtifbnojkjbjngaaDoorRows
import GoSem.ClaimSeven
namespace Go.Proofs.YtifbnojkjbjngaaDoor
namespace Rows

/-- THE TIED CARD OF 'hermitagelaw4.BodyReads'. -/
def bodyReadsCard : Claim7 := { stood := { row := bodyReadsRow, standIns := [], harness := (true, "e4b09ddfb4ef18885641cae158643261275ca976ab2ef52d86b05327c49d41f2"), looks := false }, kinds := [], alts := [], laidByText := true, laidKinds := [.data, .pinned], laidTests := true, laidLooks := .later }
def BodyReadsCardSaid : Prop := Claim7.holds Tryd.pinned (.plain (OpenSpec.ofChange bodyReadsSpec)) bodyReadsCard

/-- THE TIED CARD OF 'hermitagelaw4.BodyWrites'. -/
def bodyWritesCard : Claim7 := { stood := { row := bodyWritesRow, standIns := [], harness := (true, "e4b09ddfb4ef18885641cae158643261275ca976ab2ef52d86b05327c49d41f2"), looks := false }, kinds := [], alts := [], laidByText := true, laidKinds := [.data, .pinned], laidTests := true, laidLooks := .later }
def BodyWritesCardSaid : Prop := Claim7.holds Tryd.pinned (.plain (OpenSpec.ofChange bodyWritesSpec)) bodyWritesCard

/-- THE TIED CARD OF 'hermitagelaw4.BodyBack'. -/
def bodyBackCard : Claim7 := { stood := { row := bodyBackRow, standIns := [], harness := (true, "e4b09ddfb4ef18885641cae158643261275ca976ab2ef52d86b05327c49d41f2"), looks := false }, kinds := [], alts := [], laidByText := true, laidKinds := [.data, .pinned], laidTests := true, laidLooks := .later }
def BodyBackCardSaid : Prop := Claim7.holds Tryd.pinned (.plain (OpenSpec.ofChange bodyBackSpec)) bodyBackCard

/-- THE TIED CARD OF 'hermitagelaw4.BodyEdges'. -/
def bodyEdgesCard : Claim7 := { stood := { row := bodyEdgesRow, standIns := [], harness := (true, "e4b09ddfb4ef18885641cae158643261275ca976ab2ef52d86b05327c49d41f2"), looks := false }, kinds := [], alts := [], laidByText := true, laidKinds := [.data, .pinned], laidTests := true, laidLooks := .later }
def BodyEdgesCardSaid : Prop := Claim7.holds Tryd.pinned (.plain (OpenSpec.ofChange bodyEdgesSpec)) bodyEdgesCard

/-- THE TIED CARD OF 'hermitagelaw4.BodyGrows'. -/
def bodyGrowsCard : Claim7 := { stood := { row := bodyGrowsRow, standIns := [], harness := (true, "e4b09ddfb4ef18885641cae158643261275ca976ab2ef52d86b05327c49d41f2"), looks := false }, kinds := [], alts := [], laidByText := true, laidKinds := [.data, .pinned], laidTests := true, laidLooks := .later }
def BodyGrowsCardSaid : Prop := Claim7.holds Tryd.pinned (.plain (OpenSpec.ofChange bodyGrowsSpec)) bodyGrowsCard

/-- THE SECOND FORM's CARD OF 'hermitagelaw4.BodyReads'. -/
def bodyReadsUptoCard : Claim7 := { stood := { row := bodyReadsUptoRow, standIns := [], harness := (true, "e4b09ddfb4ef18885641cae158643261275ca976ab2ef52d86b05327c49d41f2"), looks := false }, kinds := [], alts := [], laidByText := true, laidKinds := [.data, .pinned], laidTests := true, laidLooks := .later }
def BodyReadsUptoCardSaid : Prop := Claim7.holds Tryd.pinned (.plain (OpenSpec.upto bodyReadsSpec)) bodyReadsUptoCard

/-- THE SECOND FORM's CARD OF 'hermitagelaw4.BodyWrites'. -/
def bodyWritesUptoCard : Claim7 := { stood := { row := bodyWritesUptoRow, standIns := [], harness := (true, "e4b09ddfb4ef18885641cae158643261275ca976ab2ef52d86b05327c49d41f2"), looks := false }, kinds := [], alts := [], laidByText := true, laidKinds := [.data, .pinned], laidTests := true, laidLooks := .later }
def BodyWritesUptoCardSaid : Prop := Claim7.holds Tryd.pinned (.plain (OpenSpec.upto bodyWritesSpec)) bodyWritesUptoCard

/-- THE SECOND FORM's CARD OF 'hermitagelaw4.BodyBack'. -/
def bodyBackUptoCard : Claim7 := { stood := { row := bodyBackUptoRow, standIns := [], harness := (true, "e4b09ddfb4ef18885641cae158643261275ca976ab2ef52d86b05327c49d41f2"), looks := false }, kinds := [], alts := [], laidByText := true, laidKinds := [.data, .pinned], laidTests := true, laidLooks := .later }
def BodyBackUptoCardSaid : Prop := Claim7.holds Tryd.pinned (.plain (OpenSpec.upto bodyBackSpec)) bodyBackUptoCard

/-- THE SECOND FORM's CARD OF 'hermitagelaw4.BodyEdges'. -/
def bodyEdgesUptoCard : Claim7 := { stood := { row := bodyEdgesUptoRow, standIns := [], harness := (true, "e4b09ddfb4ef18885641cae158643261275ca976ab2ef52d86b05327c49d41f2"), looks := false }, kinds := [], alts := [], laidByText := true, laidKinds := [.data, .pinned], laidTests := true, laidLooks := .later }
def BodyEdgesUptoCardSaid : Prop := Claim7.holds Tryd.pinned (.plain (OpenSpec.upto bodyEdgesSpec)) bodyEdgesUptoCard

/-- THE SECOND FORM's CARD OF 'hermitagelaw4.BodyGrows'. -/
def bodyGrowsUptoCard : Claim7 := { stood := { row := bodyGrowsUptoRow, standIns := [], harness := (true, "e4b09ddfb4ef18885641cae158643261275ca976ab2ef52d86b05327c49d41f2"), looks := false }, kinds := [], alts := [], laidByText := true, laidKinds := [.data, .pinned], laidTests := true, laidLooks := .later }
def BodyGrowsUptoCardSaid : Prop := Claim7.holds Tryd.pinned (.plain (OpenSpec.upto bodyGrowsSpec)) bodyGrowsUptoCard
end Rows
end Go.Proofs.YtifbnojkjbjngaaDoor
