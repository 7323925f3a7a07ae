/-
  DERIVED. GIVEN WITH THE SEED: THE CARDS: each row of YtbincnajklmnaaaDoorRows.lean that lists a variable, with what it lists TIED to the program's text (the seventh form; the later family's looks); each row that meets fmt, with fmt's text TOLD by the authors' own Lean function (tested against real Go, not proved from fmt's source: count such statements apart). THE CARD IS WHAT COUNTS. Prove the row's statement (the work); the ties are given (YtbincnajklmnaaaDoorTie.lean); close each card by the builder's one call (the guide's Derived/Test/ToyasCard.lean, 'card_holds'). Laid BY PROGRAM, IN A SANDBOX (cutbox-door.mjs). By AI agents, Wed Nov 11 2026. No macro, syntax, notation, axiom, sorry.
-/
import Derived.Test.YtbincnajklmnaaaDoorRows
import GoSem.ClaimSeven
namespace Go.Proofs.YtbincnajklmnaaaDoor
namespace Rows

/-- THE TIED CARD OF 'meretop.TopConverge'. -/
def topConvergeCard : Claim7 := { stood := { row := topConvergeRow, standIns := [], harness := (true, "b8aba2f4e09cd6c386f989a57bcbc17fd99a0e2f89f522556fb1566ccd0c7317"), looks := true }, kinds := [], alts := [], laidByText := true, laidKinds := [.data, .data, .data], laidTests := true, laidLooks := .later }
def TopConvergeCardSaid : Prop := Claim7.holds Tryd.pinned (.plain (OpenSpec.ofChange topConvergeSpec)) topConvergeCard

/-- THE TIED CARD OF 'merelaw3.LogStops'. -/
def logStopsCard : Claim7 := { stood := { row := logStopsRow, standIns := [], harness := (true, "b8aba2f4e09cd6c386f989a57bcbc17fd99a0e2f89f522556fb1566ccd0c7317"), looks := true }, kinds := [], alts := [], laidByText := true, laidKinds := [.handle], laidTests := true, laidLooks := .later }
def LogStopsCardSaid : Prop := Claim7.holds Tryd.pinned (.plain (OpenSpec.ofChange logStopsSpec)) logStopsCard

/-- THE TIED CARD OF 'merelaw4.LogRefuses'. -/
def logRefusesCard : Claim7 := { stood := { row := logRefusesRow, standIns := [], harness := (true, "b8aba2f4e09cd6c386f989a57bcbc17fd99a0e2f89f522556fb1566ccd0c7317"), looks := true }, kinds := [], alts := [], laidByText := true, laidKinds := [.handle], laidTests := true, laidLooks := .later }
def LogRefusesCardSaid : Prop := Claim7.holds Tryd.pinned (.plain (OpenSpec.ofChange logRefusesSpec)) logRefusesCard

/-- THE SECOND FORM's CARD OF 'meretop.TopConverge'. -/
def topConvergeUptoCard : Claim7 := { stood := { row := topConvergeUptoRow, standIns := [], harness := (true, "b8aba2f4e09cd6c386f989a57bcbc17fd99a0e2f89f522556fb1566ccd0c7317"), looks := true }, kinds := [], alts := [], laidByText := true, laidKinds := [.data, .data, .data], laidTests := true, laidLooks := .later }
def TopConvergeUptoCardSaid : Prop := Claim7.holds Tryd.pinned (.plain (OpenSpec.upto topConvergeSpec)) topConvergeUptoCard

/-- THE SECOND FORM's CARD OF 'merelaw3.LogStops'. -/
def logStopsUptoCard : Claim7 := { stood := { row := logStopsUptoRow, standIns := [], harness := (true, "b8aba2f4e09cd6c386f989a57bcbc17fd99a0e2f89f522556fb1566ccd0c7317"), looks := true }, kinds := [], alts := [], laidByText := true, laidKinds := [.handle], laidTests := true, laidLooks := .later }
def LogStopsUptoCardSaid : Prop := Claim7.holds Tryd.pinned (.plain (OpenSpec.upto logStopsSpec)) logStopsUptoCard

/-- THE SECOND FORM's CARD OF 'merelaw4.LogRefuses'. -/
def logRefusesUptoCard : Claim7 := { stood := { row := logRefusesUptoRow, standIns := [], harness := (true, "b8aba2f4e09cd6c386f989a57bcbc17fd99a0e2f89f522556fb1566ccd0c7317"), looks := true }, kinds := [], alts := [], laidByText := true, laidKinds := [.handle], laidTests := true, laidLooks := .later }
def LogRefusesUptoCardSaid : Prop := Claim7.holds Tryd.pinned (.plain (OpenSpec.upto logRefusesSpec)) logRefusesUptoCard
end Rows
end Go.Proofs.YtbincnajklmnaaaDoor
