/-
  DERIVED. GIVEN WITH THE SEED: THE CARDS: each row of YtagboglgpdponafDoorRows.lean that lists a variable, with what it lists TIED to the program's text (the seventh form; the later family's looks); each row that meets fmt, with fmt's text TOLD by the authors' own Lean function (tested against real Go, not proved from fmt's source: count such statements apart). THE CARD IS WHAT COUNTS. Prove the row's statement (the work); the ties are given (YtagboglgpdponafDoorTie.lean); close each card by the builder's one call (the guide's Derived/Test/ToyasCard.lean, 'card_holds'). Laid BY PROGRAM, IN A SANDBOX (cutbox-door.mjs). By AI agents, Wed Nov 11 2026. No macro, syntax, notation, axiom, sorry.
-/
import Derived.Test.YtagboglgpdponafDoorRows
import GoSem.ClaimSeven
namespace Go.Proofs.YtagboglgpdponafDoor
namespace Rows

/-- THE TIED CARD OF 'merelaw4.ViewAlone'. -/
def viewAloneCard : Claim7 := { stood := { row := viewAloneRow, standIns := [], harness := (true, "0f1f9242f5c44a5d431ea7362ac8926343e8f1e28968844a5983e066ed745475"), looks := true }, kinds := [], alts := [], laidByText := true, laidKinds := [.handle], laidTests := true, laidLooks := .later }
def ViewAloneCardSaid : Prop := Claim7.holds Tryd.pinned (.plain (OpenSpec.ofChange viewAloneSpec)) viewAloneCard

/-- THE TIED CARD OF 'merelaw2.ProbeTells'. -/
def probeTellsCard : Claim7 := { stood := { row := probeTellsRow, standIns := [], harness := (true, "0f1f9242f5c44a5d431ea7362ac8926343e8f1e28968844a5983e066ed745475"), looks := true }, kinds := [], alts := [], laidByText := true, laidKinds := [.handle], laidTests := true, laidLooks := .later }
def ProbeTellsCardSaid : Prop := Claim7.holds Tryd.pinned (.plain (OpenSpec.ofChange probeTellsSpec)) probeTellsCard

/-- THE TIED CARD OF 'merelaw2.ProbeAll'. -/
def probeAllCard : Claim7 := { stood := { row := probeAllRow, standIns := [], harness := (true, "0f1f9242f5c44a5d431ea7362ac8926343e8f1e28968844a5983e066ed745475"), looks := true }, kinds := [], alts := [], laidByText := true, laidKinds := [.handle], laidTests := true, laidLooks := .later }
def ProbeAllCardSaid : Prop := Claim7.holds Tryd.pinned (.plain (OpenSpec.ofChange probeAllSpec)) probeAllCard

/-- THE TIED CARD OF 'merelaw4.ProbeNext'. -/
def probeNextCard : Claim7 := { stood := { row := probeNextRow, standIns := [], harness := (true, "0f1f9242f5c44a5d431ea7362ac8926343e8f1e28968844a5983e066ed745475"), looks := true }, kinds := [], alts := [], laidByText := true, laidKinds := [.handle], laidTests := true, laidLooks := .later }
def ProbeNextCardSaid : Prop := Claim7.holds Tryd.pinned (.plain (OpenSpec.ofChange probeNextSpec)) probeNextCard

/-- THE SECOND FORM's CARD OF 'merelaw4.ViewAlone'. -/
def viewAloneUptoCard : Claim7 := { stood := { row := viewAloneUptoRow, standIns := [], harness := (true, "0f1f9242f5c44a5d431ea7362ac8926343e8f1e28968844a5983e066ed745475"), looks := true }, kinds := [], alts := [], laidByText := true, laidKinds := [.handle], laidTests := true, laidLooks := .later }
def ViewAloneUptoCardSaid : Prop := Claim7.holds Tryd.pinned (.plain (OpenSpec.upto viewAloneSpec)) viewAloneUptoCard

/-- THE SECOND FORM's CARD OF 'merelaw2.ProbeTells'. -/
def probeTellsUptoCard : Claim7 := { stood := { row := probeTellsUptoRow, standIns := [], harness := (true, "0f1f9242f5c44a5d431ea7362ac8926343e8f1e28968844a5983e066ed745475"), looks := true }, kinds := [], alts := [], laidByText := true, laidKinds := [.handle], laidTests := true, laidLooks := .later }
def ProbeTellsUptoCardSaid : Prop := Claim7.holds Tryd.pinned (.plain (OpenSpec.upto probeTellsSpec)) probeTellsUptoCard

/-- THE SECOND FORM's CARD OF 'merelaw2.ProbeAll'. -/
def probeAllUptoCard : Claim7 := { stood := { row := probeAllUptoRow, standIns := [], harness := (true, "0f1f9242f5c44a5d431ea7362ac8926343e8f1e28968844a5983e066ed745475"), looks := true }, kinds := [], alts := [], laidByText := true, laidKinds := [.handle], laidTests := true, laidLooks := .later }
def ProbeAllUptoCardSaid : Prop := Claim7.holds Tryd.pinned (.plain (OpenSpec.upto probeAllSpec)) probeAllUptoCard

/-- THE SECOND FORM's CARD OF 'merelaw4.ProbeNext'. -/
def probeNextUptoCard : Claim7 := { stood := { row := probeNextUptoRow, standIns := [], harness := (true, "0f1f9242f5c44a5d431ea7362ac8926343e8f1e28968844a5983e066ed745475"), looks := true }, kinds := [], alts := [], laidByText := true, laidKinds := [.handle], laidTests := true, laidLooks := .later }
def ProbeNextUptoCardSaid : Prop := Claim7.holds Tryd.pinned (.plain (OpenSpec.upto probeNextSpec)) probeNextUptoCard
end Rows
end Go.Proofs.YtagboglgpdponafDoor
