/-
  DERIVED. GIVEN WITH THE SEED: THE CARDS: each row of YtliaidgedjjobaaDoorRows.lean that lists a variable, with what it lists TIED to the program's text (the seventh form; the later family's looks); each row that meets fmt, with fmt's text TOLD by the authors' own Lean function (tested against real Go, not proved from fmt's source: count such statements apart). THE CARD IS WHAT COUNTS. Prove the row's statement (the work); the ties are given (YtliaidgedjjobaaDoorTie.lean); close each card by the builder's one call (the guide's Derived/Test/ToyasCard.lean, 'card_holds'). Laid BY PROGRAM, IN A SANDBOX (cutbox-door.mjs). By AI agents, Wed Nov 11 2026. No macro, syntax, notation, axiom, sorry.
-/
import Derived.Test.YtliaidgedjjobaaDoorRows
import GoSem.ClaimSeven
namespace Go.Proofs.YtliaidgedjjobaaDoor
namespace Rows

/-- THE TIED CARD OF 'merelaw2.RepairTells'. -/
def repairTellsCard : Claim7 := { stood := { row := repairTellsRow, standIns := [], harness := (true, "89a85aa0a0a0f6549eec7455cc344ac4ce2489068eeeb7f10ae938570c77b948"), looks := true }, kinds := [], alts := [], laidByText := true, laidKinds := [.handle], laidTests := true, laidLooks := .later }
def RepairTellsCardSaid : Prop := Claim7.holds Tryd.pinned (.plain (OpenSpec.ofChange repairTellsSpec)) repairTellsCard

/-- THE TIED CARD OF 'merelaw2.MeshTrue'. -/
def meshTrueCard : Claim7 := { stood := { row := meshTrueRow, standIns := [], harness := (true, "89a85aa0a0a0f6549eec7455cc344ac4ce2489068eeeb7f10ae938570c77b948"), looks := true }, kinds := [], alts := [], laidByText := true, laidKinds := [.data, .data, .data], laidTests := true, laidLooks := .later }
def MeshTrueCardSaid : Prop := Claim7.holds Tryd.pinned (.plain (OpenSpec.ofChange meshTrueSpec)) meshTrueCard

/-- THE TIED CARD OF 'merelaw4.MeshEmpty'. -/
def meshEmptyCard : Claim7 := { stood := { row := meshEmptyRow, standIns := [], harness := (true, "89a85aa0a0a0f6549eec7455cc344ac4ce2489068eeeb7f10ae938570c77b948"), looks := true }, kinds := [], alts := [], laidByText := true, laidKinds := [.handle], laidTests := true, laidLooks := .later }
def MeshEmptyCardSaid : Prop := Claim7.holds Tryd.pinned (.plain (OpenSpec.ofChange meshEmptySpec)) meshEmptyCard

/-- THE TIED CARD OF 'meretop.TopConverge'. -/
def topConvergeCard : Claim7 := { stood := { row := topConvergeRow, standIns := [], harness := (true, "89a85aa0a0a0f6549eec7455cc344ac4ce2489068eeeb7f10ae938570c77b948"), looks := true }, kinds := [], alts := [], laidByText := true, laidKinds := [.data, .data, .data], laidTests := true, laidLooks := .later }
def TopConvergeCardSaid : Prop := Claim7.holds Tryd.pinned (.plain (OpenSpec.ofChange topConvergeSpec)) topConvergeCard

/-- THE SECOND FORM's CARD OF 'merelaw2.RepairTells'. -/
def repairTellsUptoCard : Claim7 := { stood := { row := repairTellsUptoRow, standIns := [], harness := (true, "89a85aa0a0a0f6549eec7455cc344ac4ce2489068eeeb7f10ae938570c77b948"), looks := true }, kinds := [], alts := [], laidByText := true, laidKinds := [.handle], laidTests := true, laidLooks := .later }
def RepairTellsUptoCardSaid : Prop := Claim7.holds Tryd.pinned (.plain (OpenSpec.upto repairTellsSpec)) repairTellsUptoCard

/-- THE SECOND FORM's CARD OF 'merelaw2.MeshTrue'. -/
def meshTrueUptoCard : Claim7 := { stood := { row := meshTrueUptoRow, standIns := [], harness := (true, "89a85aa0a0a0f6549eec7455cc344ac4ce2489068eeeb7f10ae938570c77b948"), looks := true }, kinds := [], alts := [], laidByText := true, laidKinds := [.data, .data, .data], laidTests := true, laidLooks := .later }
def MeshTrueUptoCardSaid : Prop := Claim7.holds Tryd.pinned (.plain (OpenSpec.upto meshTrueSpec)) meshTrueUptoCard

/-- THE SECOND FORM's CARD OF 'merelaw4.MeshEmpty'. -/
def meshEmptyUptoCard : Claim7 := { stood := { row := meshEmptyUptoRow, standIns := [], harness := (true, "89a85aa0a0a0f6549eec7455cc344ac4ce2489068eeeb7f10ae938570c77b948"), looks := true }, kinds := [], alts := [], laidByText := true, laidKinds := [.handle], laidTests := true, laidLooks := .later }
def MeshEmptyUptoCardSaid : Prop := Claim7.holds Tryd.pinned (.plain (OpenSpec.upto meshEmptySpec)) meshEmptyUptoCard

/-- THE SECOND FORM's CARD OF 'meretop.TopConverge'. -/
def topConvergeUptoCard : Claim7 := { stood := { row := topConvergeUptoRow, standIns := [], harness := (true, "89a85aa0a0a0f6549eec7455cc344ac4ce2489068eeeb7f10ae938570c77b948"), looks := true }, kinds := [], alts := [], laidByText := true, laidKinds := [.data, .data, .data], laidTests := true, laidLooks := .later }
def TopConvergeUptoCardSaid : Prop := Claim7.holds Tryd.pinned (.plain (OpenSpec.upto topConvergeSpec)) topConvergeUptoCard
end Rows
end Go.Proofs.YtliaidgedjjobaaDoor
