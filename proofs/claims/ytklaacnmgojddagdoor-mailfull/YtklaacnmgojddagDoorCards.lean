/-
  DERIVED. GIVEN WITH THE SEED: THE CARDS: each row of YtklaacnmgojddagDoorRows.lean that lists a variable, with what it lists TIED to the program's text (the seventh form; the later family's looks); each row that meets fmt, with fmt's text TOLD by the authors' own Lean function (tested against real Go, not proved from fmt's source: count such statements apart). THE CARD IS WHAT COUNTS. Prove the row's statement (the work); the ties are given (YtklaacnmgojddagDoorTie.lean); close each card by the builder's one call (the guide's Derived/Test/ToyasCard.lean, 'card_holds'). Laid BY PROGRAM, IN A SANDBOX (cutbox-door.mjs). By AI agents, Wed Nov 11 2026. No macro, syntax, notation, axiom, sorry.
-/
import Derived.Test.YtklaacnmgojddagDoorRows
import GoSem.ClaimSeven
namespace Go.Proofs.YtklaacnmgojddagDoor
namespace Rows

/-- THE TIED CARD OF 'merelaw2.SwapTells'. -/
def swapTellsCard : Claim7 := { stood := { row := swapTellsRow, standIns := [], harness := (true, "7a8a3557da437e65e0b3b63a9254b833d03a81bb17a19299fd915f41263f1d71"), looks := true }, kinds := [], alts := [], laidByText := true, laidKinds := [.data, .data, .data, .handle], laidTests := true, laidLooks := .later }
def SwapTellsCardSaid : Prop := Claim7.holds Tryd.pinned (.plain (OpenSpec.ofChange swapTellsSpec)) swapTellsCard

/-- THE TIED CARD OF 'merelaw2.SwapAlike'. -/
def swapAlikeCard : Claim7 := { stood := { row := swapAlikeRow, standIns := [], harness := (true, "7a8a3557da437e65e0b3b63a9254b833d03a81bb17a19299fd915f41263f1d71"), looks := true }, kinds := [], alts := [], laidByText := true, laidKinds := [.data, .data, .data], laidTests := true, laidLooks := .later }
def SwapAlikeCardSaid : Prop := Claim7.holds Tryd.pinned (.plain (OpenSpec.ofChange swapAlikeSpec)) swapAlikeCard

/-- THE TIED CARD OF 'merelaw4.SwapNone'. -/
def swapNoneCard : Claim7 := { stood := { row := swapNoneRow, standIns := [], harness := (true, "7a8a3557da437e65e0b3b63a9254b833d03a81bb17a19299fd915f41263f1d71"), looks := true }, kinds := [], alts := [], laidByText := true, laidKinds := [.data, .data, .data], laidTests := true, laidLooks := .later }
def SwapNoneCardSaid : Prop := Claim7.holds Tryd.pinned (.plain (OpenSpec.ofChange swapNoneSpec)) swapNoneCard

/-- THE TIED CARD OF 'merelaw4.MailFull'. -/
def mailFullCard : Claim7 := { stood := { row := mailFullRow, standIns := [], harness := (true, "7a8a3557da437e65e0b3b63a9254b833d03a81bb17a19299fd915f41263f1d71"), looks := true }, kinds := [], alts := [], laidByText := true, laidKinds := [.handle], laidTests := true, laidLooks := .later }
def MailFullCardSaid : Prop := Claim7.holds Tryd.pinned (.plain (OpenSpec.ofChange mailFullSpec)) mailFullCard

/-- THE SECOND FORM's CARD OF 'merelaw2.SwapTells'. -/
def swapTellsUptoCard : Claim7 := { stood := { row := swapTellsUptoRow, standIns := [], harness := (true, "7a8a3557da437e65e0b3b63a9254b833d03a81bb17a19299fd915f41263f1d71"), looks := true }, kinds := [], alts := [], laidByText := true, laidKinds := [.data, .data, .data, .handle], laidTests := true, laidLooks := .later }
def SwapTellsUptoCardSaid : Prop := Claim7.holds Tryd.pinned (.plain (OpenSpec.upto swapTellsSpec)) swapTellsUptoCard

/-- THE SECOND FORM's CARD OF 'merelaw2.SwapAlike'. -/
def swapAlikeUptoCard : Claim7 := { stood := { row := swapAlikeUptoRow, standIns := [], harness := (true, "7a8a3557da437e65e0b3b63a9254b833d03a81bb17a19299fd915f41263f1d71"), looks := true }, kinds := [], alts := [], laidByText := true, laidKinds := [.data, .data, .data], laidTests := true, laidLooks := .later }
def SwapAlikeUptoCardSaid : Prop := Claim7.holds Tryd.pinned (.plain (OpenSpec.upto swapAlikeSpec)) swapAlikeUptoCard

/-- THE SECOND FORM's CARD OF 'merelaw4.SwapNone'. -/
def swapNoneUptoCard : Claim7 := { stood := { row := swapNoneUptoRow, standIns := [], harness := (true, "7a8a3557da437e65e0b3b63a9254b833d03a81bb17a19299fd915f41263f1d71"), looks := true }, kinds := [], alts := [], laidByText := true, laidKinds := [.data, .data, .data], laidTests := true, laidLooks := .later }
def SwapNoneUptoCardSaid : Prop := Claim7.holds Tryd.pinned (.plain (OpenSpec.upto swapNoneSpec)) swapNoneUptoCard

/-- THE SECOND FORM's CARD OF 'merelaw4.MailFull'. -/
def mailFullUptoCard : Claim7 := { stood := { row := mailFullUptoRow, standIns := [], harness := (true, "7a8a3557da437e65e0b3b63a9254b833d03a81bb17a19299fd915f41263f1d71"), looks := true }, kinds := [], alts := [], laidByText := true, laidKinds := [.handle], laidTests := true, laidLooks := .later }
def MailFullUptoCardSaid : Prop := Claim7.holds Tryd.pinned (.plain (OpenSpec.upto mailFullSpec)) mailFullUptoCard
end Rows
end Go.Proofs.YtklaacnmgojddagDoor
