/-
  DERIVED. GIVEN WITH THE SEED: THE CARDS: each row of YtpelbmhhppcmeafDoorRows.lean that lists a variable, with what it lists TIED to the program's text (the seventh form; the later family's looks); each row that meets fmt, with fmt's text TOLD by the authors' own Lean function (tested against real Go, not proved from fmt's source: count such statements apart). THE CARD IS WHAT COUNTS. Prove the row's statement (the work); the ties are given (YtpelbmhhppcmeafDoorTie.lean); close each card by the builder's one call (the guide's Derived/Test/ToyasCard.lean, 'card_holds'). Laid BY PROGRAM, IN A SANDBOX (cutbox-door.mjs). By AI agents, Wed Nov 11 2026. No macro, syntax, notation, axiom, sorry.
-/
import Derived.Test.YtpelbmhhppcmeafDoorRows
import GoSem.ClaimSeven
namespace Go.Proofs.YtpelbmhhppcmeafDoor
namespace Rows

/-- THE TIED CARD OF 'merelaw4.ViewAlone'. -/
def viewAloneCard : Claim7 := { stood := { row := viewAloneRow, standIns := [], harness := (true, "8dff90210f2cf9be3452c0db93d10d3810bab46fa88831593c29f45c04bed502"), looks := true }, kinds := [], alts := [], laidByText := true, laidKinds := [.handle], laidTests := true, laidLooks := .later }
def ViewAloneCardSaid : Prop := Claim7.holds Tryd.pinned (.plain (OpenSpec.ofChange viewAloneSpec)) viewAloneCard

/-- THE TIED CARD OF 'merelaw2.ProbeTells'. -/
def probeTellsCard : Claim7 := { stood := { row := probeTellsRow, standIns := [], harness := (true, "8dff90210f2cf9be3452c0db93d10d3810bab46fa88831593c29f45c04bed502"), looks := true }, kinds := [], alts := [], laidByText := true, laidKinds := [.handle], laidTests := true, laidLooks := .later }
def ProbeTellsCardSaid : Prop := Claim7.holds Tryd.pinned (.plain (OpenSpec.ofChange probeTellsSpec)) probeTellsCard

/-- THE TIED CARD OF 'merelaw2.ProbeAll'. -/
def probeAllCard : Claim7 := { stood := { row := probeAllRow, standIns := [], harness := (true, "8dff90210f2cf9be3452c0db93d10d3810bab46fa88831593c29f45c04bed502"), looks := true }, kinds := [], alts := [], laidByText := true, laidKinds := [.handle], laidTests := true, laidLooks := .later }
def ProbeAllCardSaid : Prop := Claim7.holds Tryd.pinned (.plain (OpenSpec.ofChange probeAllSpec)) probeAllCard

/-- THE TIED CARD OF 'merelaw4.ProbeNext'. -/
def probeNextCard : Claim7 := { stood := { row := probeNextRow, standIns := [], harness := (true, "8dff90210f2cf9be3452c0db93d10d3810bab46fa88831593c29f45c04bed502"), looks := true }, kinds := [], alts := [], laidByText := true, laidKinds := [.handle], laidTests := true, laidLooks := .later }
def ProbeNextCardSaid : Prop := Claim7.holds Tryd.pinned (.plain (OpenSpec.ofChange probeNextSpec)) probeNextCard

/-- THE TIED CARD OF 'merelaw2.RumorTells'. -/
def rumorTellsCard : Claim7 := { stood := { row := rumorTellsRow, standIns := [], harness := (true, "8dff90210f2cf9be3452c0db93d10d3810bab46fa88831593c29f45c04bed502"), looks := true }, kinds := [], alts := [], laidByText := true, laidKinds := [.handle], laidTests := true, laidLooks := .later }
def RumorTellsCardSaid : Prop := Claim7.holds Tryd.pinned (.plain (OpenSpec.ofChange rumorTellsSpec)) rumorTellsCard

/-- THE SECOND FORM's CARD OF 'merelaw4.ViewAlone'. -/
def viewAloneUptoCard : Claim7 := { stood := { row := viewAloneUptoRow, standIns := [], harness := (true, "8dff90210f2cf9be3452c0db93d10d3810bab46fa88831593c29f45c04bed502"), looks := true }, kinds := [], alts := [], laidByText := true, laidKinds := [.handle], laidTests := true, laidLooks := .later }
def ViewAloneUptoCardSaid : Prop := Claim7.holds Tryd.pinned (.plain (OpenSpec.upto viewAloneSpec)) viewAloneUptoCard

/-- THE SECOND FORM's CARD OF 'merelaw2.ProbeTells'. -/
def probeTellsUptoCard : Claim7 := { stood := { row := probeTellsUptoRow, standIns := [], harness := (true, "8dff90210f2cf9be3452c0db93d10d3810bab46fa88831593c29f45c04bed502"), looks := true }, kinds := [], alts := [], laidByText := true, laidKinds := [.handle], laidTests := true, laidLooks := .later }
def ProbeTellsUptoCardSaid : Prop := Claim7.holds Tryd.pinned (.plain (OpenSpec.upto probeTellsSpec)) probeTellsUptoCard

/-- THE SECOND FORM's CARD OF 'merelaw2.ProbeAll'. -/
def probeAllUptoCard : Claim7 := { stood := { row := probeAllUptoRow, standIns := [], harness := (true, "8dff90210f2cf9be3452c0db93d10d3810bab46fa88831593c29f45c04bed502"), looks := true }, kinds := [], alts := [], laidByText := true, laidKinds := [.handle], laidTests := true, laidLooks := .later }
def ProbeAllUptoCardSaid : Prop := Claim7.holds Tryd.pinned (.plain (OpenSpec.upto probeAllSpec)) probeAllUptoCard

/-- THE SECOND FORM's CARD OF 'merelaw4.ProbeNext'. -/
def probeNextUptoCard : Claim7 := { stood := { row := probeNextUptoRow, standIns := [], harness := (true, "8dff90210f2cf9be3452c0db93d10d3810bab46fa88831593c29f45c04bed502"), looks := true }, kinds := [], alts := [], laidByText := true, laidKinds := [.handle], laidTests := true, laidLooks := .later }
def ProbeNextUptoCardSaid : Prop := Claim7.holds Tryd.pinned (.plain (OpenSpec.upto probeNextSpec)) probeNextUptoCard

/-- THE SECOND FORM's CARD OF 'merelaw2.RumorTells'. -/
def rumorTellsUptoCard : Claim7 := { stood := { row := rumorTellsUptoRow, standIns := [], harness := (true, "8dff90210f2cf9be3452c0db93d10d3810bab46fa88831593c29f45c04bed502"), looks := true }, kinds := [], alts := [], laidByText := true, laidKinds := [.handle], laidTests := true, laidLooks := .later }
def RumorTellsUptoCardSaid : Prop := Claim7.holds Tryd.pinned (.plain (OpenSpec.upto rumorTellsSpec)) rumorTellsUptoCard
end Rows
end Go.Proofs.YtpelbmhhppcmeafDoor
