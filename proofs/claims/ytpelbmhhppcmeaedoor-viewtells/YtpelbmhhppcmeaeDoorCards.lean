/-
  DERIVED. GIVEN WITH THE SEED: THE CARDS: each row of YtpelbmhhppcmeaeDoorRows.lean that lists a variable, with what it lists TIED to the program's text (the seventh form; the later family's looks); each row that meets fmt, with fmt's text TOLD by the authors' own Lean function (tested against real Go, not proved from fmt's source: count such statements apart). THE CARD IS WHAT COUNTS. Prove the row's statement (the work); the ties are given (YtpelbmhhppcmeaeDoorTie.lean); close each card by the builder's one call (the guide's Derived/Test/ToyasCard.lean, 'card_holds'). Laid BY PROGRAM, IN A SANDBOX (cutbox-door.mjs). By AI agents, Wed Nov 11 2026. No macro, syntax, notation, axiom, sorry.
-/
import Derived.Test.YtpelbmhhppcmeaeDoorRows
import GoSem.ClaimSeven
namespace Go.Proofs.YtpelbmhhppcmeaeDoor
namespace Rows

/-- THE TIED CARD OF 'merelaw4.TreeLeaf'. -/
def treeLeafCard : Claim7 := { stood := { row := treeLeafRow, standIns := [], harness := (true, "3e4b8e04eb84fd9917a2a04dd5d16f4b86cbf28d2f3bcdb9941064886f91e8a6"), looks := true }, kinds := [], alts := [], laidByText := true, laidKinds := [.data, .data, .data, .handle], laidTests := true, laidLooks := .later }
def TreeLeafCardSaid : Prop := Claim7.holds Tryd.pinned (.plain (OpenSpec.ofChange treeLeafSpec)) treeLeafCard

/-- THE TIED CARD OF 'merelaw1.RingTells'. -/
def ringTellsCard : Claim7 := { stood := { row := ringTellsRow, standIns := [], harness := (true, "3e4b8e04eb84fd9917a2a04dd5d16f4b86cbf28d2f3bcdb9941064886f91e8a6"), looks := true }, kinds := [], alts := [], laidByText := true, laidKinds := [.data, .data, .data, .handle], laidTests := true, laidLooks := .later }
def RingTellsCardSaid : Prop := Claim7.holds Tryd.pinned (.plain (OpenSpec.ofChange ringTellsSpec)) ringTellsCard

/-- THE TIED CARD OF 'merelaw1.RingFew'. -/
def ringFewCard : Claim7 := { stood := { row := ringFewRow, standIns := [], harness := (true, "3e4b8e04eb84fd9917a2a04dd5d16f4b86cbf28d2f3bcdb9941064886f91e8a6"), looks := true }, kinds := [], alts := [], laidByText := true, laidKinds := [.data, .data, .data], laidTests := true, laidLooks := .later }
def RingFewCardSaid : Prop := Claim7.holds Tryd.pinned (.plain (OpenSpec.ofChange ringFewSpec)) ringFewCard

/-- THE TIED CARD OF 'merelaw4.RingLone'. -/
def ringLoneCard : Claim7 := { stood := { row := ringLoneRow, standIns := [], harness := (true, "3e4b8e04eb84fd9917a2a04dd5d16f4b86cbf28d2f3bcdb9941064886f91e8a6"), looks := true }, kinds := [], alts := [], laidByText := true, laidKinds := [.data, .data, .data, .handle], laidTests := true, laidLooks := .later }
def RingLoneCardSaid : Prop := Claim7.holds Tryd.pinned (.plain (OpenSpec.ofChange ringLoneSpec)) ringLoneCard

/-- THE TIED CARD OF 'merelaw2.ViewTells'. -/
def viewTellsCard : Claim7 := { stood := { row := viewTellsRow, standIns := [], harness := (true, "3e4b8e04eb84fd9917a2a04dd5d16f4b86cbf28d2f3bcdb9941064886f91e8a6"), looks := true }, kinds := [], alts := [], laidByText := true, laidKinds := [.handle], laidTests := true, laidLooks := .later }
def ViewTellsCardSaid : Prop := Claim7.holds Tryd.pinned (.plain (OpenSpec.ofChange viewTellsSpec)) viewTellsCard

/-- THE SECOND FORM's CARD OF 'merelaw4.TreeLeaf'. -/
def treeLeafUptoCard : Claim7 := { stood := { row := treeLeafUptoRow, standIns := [], harness := (true, "3e4b8e04eb84fd9917a2a04dd5d16f4b86cbf28d2f3bcdb9941064886f91e8a6"), looks := true }, kinds := [], alts := [], laidByText := true, laidKinds := [.data, .data, .data, .handle], laidTests := true, laidLooks := .later }
def TreeLeafUptoCardSaid : Prop := Claim7.holds Tryd.pinned (.plain (OpenSpec.upto treeLeafSpec)) treeLeafUptoCard

/-- THE SECOND FORM's CARD OF 'merelaw1.RingTells'. -/
def ringTellsUptoCard : Claim7 := { stood := { row := ringTellsUptoRow, standIns := [], harness := (true, "3e4b8e04eb84fd9917a2a04dd5d16f4b86cbf28d2f3bcdb9941064886f91e8a6"), looks := true }, kinds := [], alts := [], laidByText := true, laidKinds := [.data, .data, .data, .handle], laidTests := true, laidLooks := .later }
def RingTellsUptoCardSaid : Prop := Claim7.holds Tryd.pinned (.plain (OpenSpec.upto ringTellsSpec)) ringTellsUptoCard

/-- THE SECOND FORM's CARD OF 'merelaw1.RingFew'. -/
def ringFewUptoCard : Claim7 := { stood := { row := ringFewUptoRow, standIns := [], harness := (true, "3e4b8e04eb84fd9917a2a04dd5d16f4b86cbf28d2f3bcdb9941064886f91e8a6"), looks := true }, kinds := [], alts := [], laidByText := true, laidKinds := [.data, .data, .data], laidTests := true, laidLooks := .later }
def RingFewUptoCardSaid : Prop := Claim7.holds Tryd.pinned (.plain (OpenSpec.upto ringFewSpec)) ringFewUptoCard

/-- THE SECOND FORM's CARD OF 'merelaw4.RingLone'. -/
def ringLoneUptoCard : Claim7 := { stood := { row := ringLoneUptoRow, standIns := [], harness := (true, "3e4b8e04eb84fd9917a2a04dd5d16f4b86cbf28d2f3bcdb9941064886f91e8a6"), looks := true }, kinds := [], alts := [], laidByText := true, laidKinds := [.data, .data, .data, .handle], laidTests := true, laidLooks := .later }
def RingLoneUptoCardSaid : Prop := Claim7.holds Tryd.pinned (.plain (OpenSpec.upto ringLoneSpec)) ringLoneUptoCard

/-- THE SECOND FORM's CARD OF 'merelaw2.ViewTells'. -/
def viewTellsUptoCard : Claim7 := { stood := { row := viewTellsUptoRow, standIns := [], harness := (true, "3e4b8e04eb84fd9917a2a04dd5d16f4b86cbf28d2f3bcdb9941064886f91e8a6"), looks := true }, kinds := [], alts := [], laidByText := true, laidKinds := [.handle], laidTests := true, laidLooks := .later }
def ViewTellsUptoCardSaid : Prop := Claim7.holds Tryd.pinned (.plain (OpenSpec.upto viewTellsSpec)) viewTellsUptoCard
end Rows
end Go.Proofs.YtpelbmhhppcmeaeDoor
