/-
  DERIVED. GIVEN WITH THE SEED: THE CARDS: each row of YtpfljcacdcpojaeDoorRows.lean that lists a variable, with what it lists TIED to the program's text (the seventh form; the later family's looks); each row that meets fmt, with fmt's text TOLD by the authors' own Lean function (tested against real Go, not proved from fmt's source: count such statements apart). THE CARD IS WHAT COUNTS. Prove the row's statement (the work); the ties are given (YtpfljcacdcpojaeDoorTie.lean); close each card by the builder's one call (the guide's Derived/Test/ToyasCard.lean, 'card_holds'). Laid BY PROGRAM, IN A SANDBOX (cutbox-door.mjs). By AI agents, Wed Nov 11 2026. No macro, syntax, notation, axiom, sorry.
-/
import Derived.Test.YtpfljcacdcpojaeDoorRows
import GoSem.ClaimSeven
namespace Go.Proofs.YtpfljcacdcpojaeDoor
namespace Rows

/-- THE TIED CARD OF 'merelaw4.TreeLeaf'. -/
def treeLeafCard : Claim7 := { stood := { row := treeLeafRow, standIns := [], harness := (true, "8fcd81ac3fc3a16225c936e7967330d4092bf9d2e7f6aeaa4cf4ec52359f6df4"), looks := true }, kinds := [], alts := [], laidByText := true, laidKinds := [.data, .data, .data, .handle], laidTests := true, laidLooks := .later }
def TreeLeafCardSaid : Prop := Claim7.holds Tryd.pinned (.plain (OpenSpec.ofChange treeLeafSpec)) treeLeafCard

/-- THE SECOND FORM's CARD OF 'merelaw4.TreeLeaf'. -/
def treeLeafUptoCard : Claim7 := { stood := { row := treeLeafUptoRow, standIns := [], harness := (true, "8fcd81ac3fc3a16225c936e7967330d4092bf9d2e7f6aeaa4cf4ec52359f6df4"), looks := true }, kinds := [], alts := [], laidByText := true, laidKinds := [.data, .data, .data, .handle], laidTests := true, laidLooks := .later }
def TreeLeafUptoCardSaid : Prop := Claim7.holds Tryd.pinned (.plain (OpenSpec.upto treeLeafSpec)) treeLeafUptoCard
end Rows
end Go.Proofs.YtpfljcacdcpojaeDoor
