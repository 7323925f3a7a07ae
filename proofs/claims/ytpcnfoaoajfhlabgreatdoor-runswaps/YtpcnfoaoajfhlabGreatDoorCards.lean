/-
  DERIVED. GIVEN WITH THE SEED: THE CARDS: each row of YtpcnfoaoajfhlabGreatDoorRows.lean that lists a variable, with what it lists TIED to the program's text (the seventh form; the later family's looks); each row that meets fmt, with fmt's text TOLD by the authors' own Lean function (tested against real Go, not proved from fmt's source: count such statements apart). THE CARD IS WHAT COUNTS. Prove the row's statement (the work); the ties are given (YtpcnfoaoajfhlabGreatDoorTie.lean); close each card by the builder's one call (the guide's Derived/Test/ToyasCard.lean, 'card_holds'). Laid BY PROGRAM, IN A SANDBOX (cutbox-door.mjs). By AI agents, Wed Nov 11 2026. No macro, syntax, notation, axiom, sorry.
-/
import Derived.Test.YtpcnfoaoajfhlabGreatDoorRows
import GoSem.ClaimSeven
namespace Go.Proofs.YtpcnfoaoajfhlabGreatDoor
namespace Rows

/-- THE TIED CARD OF 'merelaw3.RunSwaps'. -/
def runSwapsCard : Claim7 := { stood := { row := runSwapsRow, standIns := [], harness := (true, "5b13cdca9192b847251484c924c83e1795e7b9d51f18e90d169fc5b0131bd86a"), looks := true }, kinds := [], alts := [], laidByText := true, laidKinds := [.data, .data, .data, .data, .handle, .pinned], laidTests := true, laidLooks := .later }
def RunSwapsCardSaid : Prop := Claim7.holds Tryz.pinned (.plain (OpenSpec.ofChange runSwapsSpec)) runSwapsCard

/-- THE SECOND FORM's CARD OF 'merelaw3.RunSwaps'. -/
def runSwapsUptoCard : Claim7 := { stood := { row := runSwapsUptoRow, standIns := [], harness := (true, "5b13cdca9192b847251484c924c83e1795e7b9d51f18e90d169fc5b0131bd86a"), looks := true }, kinds := [], alts := [], laidByText := true, laidKinds := [.data, .data, .data, .data, .handle, .pinned], laidTests := true, laidLooks := .later }
def RunSwapsUptoCardSaid : Prop := Claim7.holds Tryz.pinned (.plain (OpenSpec.upto runSwapsSpec)) runSwapsUptoCard
end Rows
end Go.Proofs.YtpcnfoaoajfhlabGreatDoor
