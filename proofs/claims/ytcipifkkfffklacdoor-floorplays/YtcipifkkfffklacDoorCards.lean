/-
  DERIVED. GIVEN WITH THE SEED: THE CARDS: each row of YtcipifkkfffklacDoorRows.lean that lists a variable, with what it lists TIED to the program's text (the seventh form; the later family's looks); each row that meets fmt, with fmt's text TOLD by the authors' own Lean function (tested against real Go, not proved from fmt's source: count such statements apart). THE CARD IS WHAT COUNTS. Prove the row's statement (the work); the ties are given (YtcipifkkfffklacDoorTie.lean); close each card by the builder's one call (the guide's Derived/Test/ToyasCard.lean, 'card_holds'). Laid BY PROGRAM, IN A SANDBOX (cutbox-door.mjs). By AI agents, Wed Nov 11 2026. No macro, syntax, notation, axiom, sorry.
-/
import Derived.Test.YtcipifkkfffklacDoorRows
import GoSem.ClaimSeven
namespace Go.Proofs.YtcipifkkfffklacDoor
namespace Rows

/-- THE TIED CARD OF 'merelaw1.FloorPlays'. -/
def floorPlaysCard : Claim7 := { stood := { row := floorPlaysRow, standIns := [], harness := (true, "9aea59d364455210216e04ca124927136dc26165132c81e8d27d0b7bcd74f458"), looks := true }, kinds := [], alts := [], laidByText := true, laidKinds := [.handle], laidTests := true, laidLooks := .later }
def FloorPlaysCardSaid : Prop := Claim7.holds Tryd.pinned (.plain (OpenSpec.ofChange floorPlaysSpec)) floorPlaysCard

/-- THE SECOND FORM's CARD OF 'merelaw1.FloorPlays'. -/
def floorPlaysUptoCard : Claim7 := { stood := { row := floorPlaysUptoRow, standIns := [], harness := (true, "9aea59d364455210216e04ca124927136dc26165132c81e8d27d0b7bcd74f458"), looks := true }, kinds := [], alts := [], laidByText := true, laidKinds := [.handle], laidTests := true, laidLooks := .later }
def FloorPlaysUptoCardSaid : Prop := Claim7.holds Tryd.pinned (.plain (OpenSpec.upto floorPlaysSpec)) floorPlaysUptoCard
end Rows
end Go.Proofs.YtcipifkkfffklacDoor
