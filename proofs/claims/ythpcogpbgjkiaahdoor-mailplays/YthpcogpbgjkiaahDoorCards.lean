/-
  DERIVED. GIVEN WITH THE SEED: THE CARDS: each row of YthpcogpbgjkiaahDoorRows.lean that lists a variable, with what it lists TIED to the program's text (the seventh form; the later family's looks); each row that meets fmt, with fmt's text TOLD by the authors' own Lean function (tested against real Go, not proved from fmt's source: count such statements apart). THE CARD IS WHAT COUNTS. Prove the row's statement (the work); the ties are given (YthpcogpbgjkiaahDoorTie.lean); close each card by the builder's one call (the guide's Derived/Test/ToyasCard.lean, 'card_holds'). Laid BY PROGRAM, IN A SANDBOX (cutbox-door.mjs). By AI agents, Wed Nov 11 2026. No macro, syntax, notation, axiom, sorry.
-/
import Derived.Test.YthpcogpbgjkiaahDoorRows
import GoSem.ClaimSeven
namespace Go.Proofs.YthpcogpbgjkiaahDoor
namespace Rows

/-- THE TIED CARD OF 'merelaw2.MailPlays'. -/
def mailPlaysCard : Claim7 := { stood := { row := mailPlaysRow, standIns := [], harness := (true, "d122b79a988bd53a09f8c8deec6b1ba2cf8e2188e14931b91e07d5295a43425d"), looks := true }, kinds := [], alts := [], laidByText := true, laidKinds := [.handle], laidTests := true, laidLooks := .later }
def MailPlaysCardSaid : Prop := Claim7.holds Tryd.pinned (.plain (OpenSpec.ofChange mailPlaysSpec)) mailPlaysCard

/-- THE TIED CARD OF 'merelaw2.GossipTells'. -/
def gossipTellsCard : Claim7 := { stood := { row := gossipTellsRow, standIns := [], harness := (true, "d122b79a988bd53a09f8c8deec6b1ba2cf8e2188e14931b91e07d5295a43425d"), looks := true }, kinds := [], alts := [], laidByText := true, laidKinds := [.handle], laidTests := true, laidLooks := .later }
def GossipTellsCardSaid : Prop := Claim7.holds Tryd.pinned (.plain (OpenSpec.ofChange gossipTellsSpec)) gossipTellsCard

/-- THE SECOND FORM's CARD OF 'merelaw2.MailPlays'. -/
def mailPlaysUptoCard : Claim7 := { stood := { row := mailPlaysUptoRow, standIns := [], harness := (true, "d122b79a988bd53a09f8c8deec6b1ba2cf8e2188e14931b91e07d5295a43425d"), looks := true }, kinds := [], alts := [], laidByText := true, laidKinds := [.handle], laidTests := true, laidLooks := .later }
def MailPlaysUptoCardSaid : Prop := Claim7.holds Tryd.pinned (.plain (OpenSpec.upto mailPlaysSpec)) mailPlaysUptoCard

/-- THE SECOND FORM's CARD OF 'merelaw2.GossipTells'. -/
def gossipTellsUptoCard : Claim7 := { stood := { row := gossipTellsUptoRow, standIns := [], harness := (true, "d122b79a988bd53a09f8c8deec6b1ba2cf8e2188e14931b91e07d5295a43425d"), looks := true }, kinds := [], alts := [], laidByText := true, laidKinds := [.handle], laidTests := true, laidLooks := .later }
def GossipTellsUptoCardSaid : Prop := Claim7.holds Tryd.pinned (.plain (OpenSpec.upto gossipTellsSpec)) gossipTellsUptoCard
end Rows
end Go.Proofs.YthpcogpbgjkiaahDoor
