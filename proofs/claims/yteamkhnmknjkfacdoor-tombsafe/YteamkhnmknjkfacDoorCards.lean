/-
  DERIVED. GIVEN WITH THE SEED: THE CARDS: each row of YteamkhnmknjkfacDoorRows.lean that lists a variable, with what it lists TIED to the program's text (the seventh form; the later family's looks); each row that meets fmt, with fmt's text TOLD by the authors' own Lean function (tested against real Go, not proved from fmt's source: count such statements apart). THE CARD IS WHAT COUNTS. Prove the row's statement (the work); the ties are given (YteamkhnmknjkfacDoorTie.lean); close each card by the builder's one call (the guide's Derived/Test/ToyasCard.lean, 'card_holds'). Laid BY PROGRAM, IN A SANDBOX (cutbox-door.mjs). By AI agents, Wed Nov 11 2026. No macro, syntax, notation, axiom, sorry.
-/
import Derived.Test.YteamkhnmknjkfacDoorRows
import GoSem.ClaimSeven
namespace Go.Proofs.YteamkhnmknjkfacDoor
namespace Rows

/-- THE TIED CARD OF 'merelaw1.FloorPlays'. -/
def floorPlaysCard : Claim7 := { stood := { row := floorPlaysRow, standIns := [], harness := (true, "cae9c38c9c3e8f6b52eaff54b1ea031c566bc8f7c6b3e9825bdb427f21e7d7f3"), looks := true }, kinds := [], alts := [], laidByText := true, laidKinds := [.handle], laidTests := true, laidLooks := .later }
def FloorPlaysCardSaid : Prop := Claim7.holds Tryd.pinned (.plain (OpenSpec.ofChange floorPlaysSpec)) floorPlaysCard

/-- THE TIED CARD OF 'merelaw1.TombTells'. -/
def tombTellsCard : Claim7 := { stood := { row := tombTellsRow, standIns := [], harness := (true, "cae9c38c9c3e8f6b52eaff54b1ea031c566bc8f7c6b3e9825bdb427f21e7d7f3"), looks := true }, kinds := [], alts := [], laidByText := true, laidKinds := [.handle], laidTests := true, laidLooks := .later }
def TombTellsCardSaid : Prop := Claim7.holds Tryd.pinned (.plain (OpenSpec.ofChange tombTellsSpec)) tombTellsCard

/-- THE TIED CARD OF 'merelaw1.TombSafe'. -/
def tombSafeCard : Claim7 := { stood := { row := tombSafeRow, standIns := [], harness := (true, "cae9c38c9c3e8f6b52eaff54b1ea031c566bc8f7c6b3e9825bdb427f21e7d7f3"), looks := true }, kinds := [], alts := [], laidByText := true, laidKinds := [.handle], laidTests := true, laidLooks := .later }
def TombSafeCardSaid : Prop := Claim7.holds Tryd.pinned (.plain (OpenSpec.ofChange tombSafeSpec)) tombSafeCard

/-- THE SECOND FORM's CARD OF 'merelaw1.FloorPlays'. -/
def floorPlaysUptoCard : Claim7 := { stood := { row := floorPlaysUptoRow, standIns := [], harness := (true, "cae9c38c9c3e8f6b52eaff54b1ea031c566bc8f7c6b3e9825bdb427f21e7d7f3"), looks := true }, kinds := [], alts := [], laidByText := true, laidKinds := [.handle], laidTests := true, laidLooks := .later }
def FloorPlaysUptoCardSaid : Prop := Claim7.holds Tryd.pinned (.plain (OpenSpec.upto floorPlaysSpec)) floorPlaysUptoCard

/-- THE SECOND FORM's CARD OF 'merelaw1.TombTells'. -/
def tombTellsUptoCard : Claim7 := { stood := { row := tombTellsUptoRow, standIns := [], harness := (true, "cae9c38c9c3e8f6b52eaff54b1ea031c566bc8f7c6b3e9825bdb427f21e7d7f3"), looks := true }, kinds := [], alts := [], laidByText := true, laidKinds := [.handle], laidTests := true, laidLooks := .later }
def TombTellsUptoCardSaid : Prop := Claim7.holds Tryd.pinned (.plain (OpenSpec.upto tombTellsSpec)) tombTellsUptoCard

/-- THE SECOND FORM's CARD OF 'merelaw1.TombSafe'. -/
def tombSafeUptoCard : Claim7 := { stood := { row := tombSafeUptoRow, standIns := [], harness := (true, "cae9c38c9c3e8f6b52eaff54b1ea031c566bc8f7c6b3e9825bdb427f21e7d7f3"), looks := true }, kinds := [], alts := [], laidByText := true, laidKinds := [.handle], laidTests := true, laidLooks := .later }
def TombSafeUptoCardSaid : Prop := Claim7.holds Tryd.pinned (.plain (OpenSpec.upto tombSafeSpec)) tombSafeUptoCard
end Rows
end Go.Proofs.YteamkhnmknjkfacDoor
