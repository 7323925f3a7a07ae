/-
  DERIVED. GIVEN WITH THE SEED: THE CARDS: each row of YtpcnfoaoajfhlaaDoorRows.lean that lists a variable, with what it lists TIED to the program's text (the seventh form; the later family's looks); each row that meets fmt, with fmt's text TOLD by the authors' own Lean function (tested against real Go, not proved from fmt's source: count such statements apart). THE CARD IS WHAT COUNTS. Prove the row's statement (the work); the ties are given (YtpcnfoaoajfhlaaDoorTie.lean); close each card by the builder's one call (the guide's Derived/Test/ToyasCard.lean, 'card_holds'). Laid BY PROGRAM, IN A SANDBOX (cutbox-door.mjs). By AI agents, Wed Nov 11 2026. No macro, syntax, notation, axiom, sorry.
-/
import Derived.Test.YtpcnfoaoajfhlaaDoorRows
import GoSem.ClaimSeven
namespace Go.Proofs.YtpcnfoaoajfhlaaDoor
namespace Rows

/-- THE TIED CARD OF 'meretop.TopConverge'. -/
def topConvergeCard : Claim7 := { stood := { row := topConvergeRow, standIns := [], harness := (true, "b78e421b24f9e53b7ba9a3f6cc9d3aaad78506f85afcc6828c8b4015db4e6c10"), looks := true }, kinds := [], alts := [], laidByText := true, laidKinds := [.data, .data, .data], laidTests := true, laidLooks := .later }
def TopConvergeCardSaid : Prop := Claim7.holds Tryd.pinned (.plain (OpenSpec.ofChange topConvergeSpec)) topConvergeCard

/-- THE TIED CARD OF 'merelaw3.LogKeeps'. -/
def logKeepsCard : Claim7 := { stood := { row := logKeepsRow, standIns := [], harness := (true, "b78e421b24f9e53b7ba9a3f6cc9d3aaad78506f85afcc6828c8b4015db4e6c10"), looks := true }, kinds := [], alts := [], laidByText := true, laidKinds := [.handle], laidTests := true, laidLooks := .later }
def LogKeepsCardSaid : Prop := Claim7.holds Tryd.pinned (.plain (OpenSpec.ofChange logKeepsSpec)) logKeepsCard

/-- THE SECOND FORM's CARD OF 'meretop.TopConverge'. -/
def topConvergeUptoCard : Claim7 := { stood := { row := topConvergeUptoRow, standIns := [], harness := (true, "b78e421b24f9e53b7ba9a3f6cc9d3aaad78506f85afcc6828c8b4015db4e6c10"), looks := true }, kinds := [], alts := [], laidByText := true, laidKinds := [.data, .data, .data], laidTests := true, laidLooks := .later }
def TopConvergeUptoCardSaid : Prop := Claim7.holds Tryd.pinned (.plain (OpenSpec.upto topConvergeSpec)) topConvergeUptoCard

/-- THE SECOND FORM's CARD OF 'merelaw3.LogKeeps'. -/
def logKeepsUptoCard : Claim7 := { stood := { row := logKeepsUptoRow, standIns := [], harness := (true, "b78e421b24f9e53b7ba9a3f6cc9d3aaad78506f85afcc6828c8b4015db4e6c10"), looks := true }, kinds := [], alts := [], laidByText := true, laidKinds := [.handle], laidTests := true, laidLooks := .later }
def LogKeepsUptoCardSaid : Prop := Claim7.holds Tryd.pinned (.plain (OpenSpec.upto logKeepsSpec)) logKeepsUptoCard
end Rows
end Go.Proofs.YtpcnfoaoajfhlaaDoor
