/-
  DERIVED. GIVEN WITH THE SEED: THE CARDS: each row of YtnclieehdodfiabDoorRows.lean that lists a variable, with what it lists TIED to the program's text (the seventh form; the later family's looks); each row that meets fmt, with fmt's text TOLD by the authors' own Lean function (tested against real Go, not proved from fmt's source: count such statements apart). THE CARD IS WHAT COUNTS. Prove the row's statement (the work); the ties are given (YtnclieehdodfiabDoorTie.lean); close each card by the builder's one call (the guide's Derived/Test/ToyasCard.lean, 'card_holds'). Laid BY PROGRAM, IN A SANDBOX (cutbox-door.mjs). By AI agents, Wed Nov 11 2026. No macro, syntax, notation, axiom, sorry.
-/
import Derived.Test.YtnclieehdodfiabDoorRows
import GoSem.ClaimSeven
namespace Go.Proofs.YtnclieehdodfiabDoor
namespace Rows

/-- THE TIED CARD OF 'merelaw1.CacheTells'. -/
def cacheTellsCard : Claim7 := { stood := { row := cacheTellsRow, standIns := [], harness := (true, "a847add2534522c2a90a436e9c7cbead55cd64a5c2e03c45710dd3acd71f4c68"), looks := true }, kinds := [], alts := [], laidByText := true, laidKinds := [.handle], laidTests := true, laidLooks := .later }
def CacheTellsCardSaid : Prop := Claim7.holds Tryd.pinned (.plain (OpenSpec.ofChange cacheTellsSpec)) cacheTellsCard

/-- THE TIED CARD OF 'merelaw1.FreshTells'. -/
def freshTellsCard : Claim7 := { stood := { row := freshTellsRow, standIns := [], harness := (true, "a847add2534522c2a90a436e9c7cbead55cd64a5c2e03c45710dd3acd71f4c68"), looks := true }, kinds := [], alts := [], laidByText := true, laidKinds := [.handle], laidTests := true, laidLooks := .later }
def FreshTellsCardSaid : Prop := Claim7.holds Tryd.pinned (.plain (OpenSpec.ofChange freshTellsSpec)) freshTellsCard

/-- THE TIED CARD OF 'merelaw1.FreshTrue'. -/
def freshTrueCard : Claim7 := { stood := { row := freshTrueRow, standIns := [], harness := (true, "a847add2534522c2a90a436e9c7cbead55cd64a5c2e03c45710dd3acd71f4c68"), looks := true }, kinds := [], alts := [], laidByText := true, laidKinds := [.handle], laidTests := true, laidLooks := .later }
def FreshTrueCardSaid : Prop := Claim7.holds Tryd.pinned (.plain (OpenSpec.ofChange freshTrueSpec)) freshTrueCard

/-- THE SECOND FORM's CARD OF 'merelaw1.CacheTells'. -/
def cacheTellsUptoCard : Claim7 := { stood := { row := cacheTellsUptoRow, standIns := [], harness := (true, "a847add2534522c2a90a436e9c7cbead55cd64a5c2e03c45710dd3acd71f4c68"), looks := true }, kinds := [], alts := [], laidByText := true, laidKinds := [.handle], laidTests := true, laidLooks := .later }
def CacheTellsUptoCardSaid : Prop := Claim7.holds Tryd.pinned (.plain (OpenSpec.upto cacheTellsSpec)) cacheTellsUptoCard

/-- THE SECOND FORM's CARD OF 'merelaw1.FreshTells'. -/
def freshTellsUptoCard : Claim7 := { stood := { row := freshTellsUptoRow, standIns := [], harness := (true, "a847add2534522c2a90a436e9c7cbead55cd64a5c2e03c45710dd3acd71f4c68"), looks := true }, kinds := [], alts := [], laidByText := true, laidKinds := [.handle], laidTests := true, laidLooks := .later }
def FreshTellsUptoCardSaid : Prop := Claim7.holds Tryd.pinned (.plain (OpenSpec.upto freshTellsSpec)) freshTellsUptoCard

/-- THE SECOND FORM's CARD OF 'merelaw1.FreshTrue'. -/
def freshTrueUptoCard : Claim7 := { stood := { row := freshTrueUptoRow, standIns := [], harness := (true, "a847add2534522c2a90a436e9c7cbead55cd64a5c2e03c45710dd3acd71f4c68"), looks := true }, kinds := [], alts := [], laidByText := true, laidKinds := [.handle], laidTests := true, laidLooks := .later }
def FreshTrueUptoCardSaid : Prop := Claim7.holds Tryd.pinned (.plain (OpenSpec.upto freshTrueSpec)) freshTrueUptoCard
end Rows
end Go.Proofs.YtnclieehdodfiabDoor
