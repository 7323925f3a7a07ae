/-
  NARROWER THAN 'FOR EVERY INPUT', by the rows' own cells (each row's printed sentence says how): FloorPlays: laid · TombTells: laid · TombSafe: laid.
  DERIVED. THE GIVEN ROWS OF THIS SEAT. 3 by the template 'for every input the law returns true; each argument reads behind the call as it read before'; 0 by the template 'total and deterministic' (their statements: YteamkhnmknjkfacDoorTotals.lean).
  GIVEN WITH THE SEED: the statements are not yours to turn. If you find one false, say at which input.
  Laid BY PROGRAM, IN A SANDBOX (cutbox-rows.mjs): the forced cells as the released guide's own fill.sh prints them over the translation 97ba396a0bad3179… (all of the seat's roots in one cut). By AI agents, Wed Nov 11 2026. No macro, syntax, notation, axiom, sorry.
-/
import Derived.Test.YteamkhnmknjkfacDoorChecked
import GoSem.Claim
import GoSem.ClaimJoined
import GoSem.ClaimMapViews
import Derived.JoinedTies
import Derived.KernelRfl
namespace Go.Proofs.YteamkhnmknjkfacDoor
/- THE CELL 'sum', in the pinned program and in every row, IS THE sha256 OF THE DUMP (.gsa) THAT YteamkhnmknjkfacDoorProg.lean LOADS. Nothing in Lean hashes anything: it is a label: what it is worth is what the hold of that sum in a sandbox is worth. -/
noncomputable def Tryd.pinned : Pinned := { name := "yteamkhnmknjkfacdoor", sum := "97ba396a0bad317933274c9a485ef4782817c4dc779a146ec6324a9cb06fff66", checked := Tryd.checked }
namespace Rows
def none {H : Type} : Left H := { results := [], args := [] }

/- WHAT THE LISTED PACKAGE-LEVEL VARIABLES READ AS WHEN THE CALL BEGINS. Each datum BY PROGRAM (the guide's laid-datum.mjs) off the statement by which the dump's own 'gosem.cut.vars' lays the variable. In a bare row this is a premise. The card (YteamkhnmknjkfacDoorCards.lean) ties it to the program's text. -/
def laid_errors_errorType {H : Type} : DataW H := .iface "internal/reflectlite.rtype" (.agg [.ptr (.lit (.string [101, 114, 114, 111, 114]))])

/-- 'merelaw1.FloorPlays': WHATEVER THE INPUT: true; the input reads as it did. -/
def floorPlaysSpec : ChangeSpec := { name := "floorPlays", fn := fun _ => fun
  | [d1, d2] => { results := [.lit (.bool true)], args := [d1, d2] }
  | _ => none }
def floorPlaysRow : OpenClaim := { program := "yteamkhnmknjkfacdoor", sum := "97ba396a0bad317933274c9a485ef4782817c4dc779a146ec6324a9cb06fff66", func := "beaconmere/merelaw1.FloorPlays", spec := "floorPlays", inPlace := ["internal/reflectlite.ValueOf", "(internal/reflectlite.Value).Type", "(internal/reflectlite.Value).IsNil", "internal/reflectlite.TypeOf", "(internal/reflectlite.Value).Elem", "(internal/reflectlite.Value).Set"], unfollowed := true, recurses := true, named := ["errors.errorType"], apart := false, laid := [("errors.errorType", laid_errors_errorType)] }
def FloorPlaysSaid : Prop := floorPlaysRow.holds Tryd.pinned (OpenSpec.ofChange floorPlaysSpec)

/-- ITS FALSE NEIGHBOUR: 'it returns false'. Refute it at one input. -/
def floorPlaysWrong : ChangeSpec := { name := "floorPlays", fn := fun _ => fun
  | [d1, d2] => { results := [.lit (.bool false)], args := [d1, d2] }
  | _ => none }
def FloorPlaysWrongFalsely : Prop := floorPlaysRow.holds Tryd.pinned (OpenSpec.ofChange floorPlaysWrong)

/-- 'merelaw1.TombTells': WHATEVER THE INPUT: true; the input reads as it did. -/
def tombTellsSpec : ChangeSpec := { name := "tombTells", fn := fun _ => fun
  | [d1, d2, d3, d4] => { results := [.lit (.bool true)], args := [d1, d2, d3, d4] }
  | _ => none }
def tombTellsRow : OpenClaim := { program := "yteamkhnmknjkfacdoor", sum := "97ba396a0bad317933274c9a485ef4782817c4dc779a146ec6324a9cb06fff66", func := "beaconmere/merelaw1.TombTells", spec := "tombTells", inPlace := ["internal/reflectlite.ValueOf", "(internal/reflectlite.Value).Type", "(internal/reflectlite.Value).IsNil", "internal/reflectlite.TypeOf", "(internal/reflectlite.Value).Elem", "(internal/reflectlite.Value).Set"], unfollowed := true, recurses := true, named := ["errors.errorType"], apart := false, laid := [("errors.errorType", laid_errors_errorType)] }
def TombTellsSaid : Prop := tombTellsRow.holds Tryd.pinned (OpenSpec.ofChange tombTellsSpec)

/-- ITS FALSE NEIGHBOUR: 'it returns false'. Refute it at one input. -/
def tombTellsWrong : ChangeSpec := { name := "tombTells", fn := fun _ => fun
  | [d1, d2, d3, d4] => { results := [.lit (.bool false)], args := [d1, d2, d3, d4] }
  | _ => none }
def TombTellsWrongFalsely : Prop := tombTellsRow.holds Tryd.pinned (OpenSpec.ofChange tombTellsWrong)

/-- 'merelaw1.TombSafe': WHATEVER THE INPUT: true; the input reads as it did. -/
def tombSafeSpec : ChangeSpec := { name := "tombSafe", fn := fun _ => fun
  | [d1, d2] => { results := [.lit (.bool true)], args := [d1, d2] }
  | _ => none }
def tombSafeRow : OpenClaim := { program := "yteamkhnmknjkfacdoor", sum := "97ba396a0bad317933274c9a485ef4782817c4dc779a146ec6324a9cb06fff66", func := "beaconmere/merelaw1.TombSafe", spec := "tombSafe", inPlace := ["internal/reflectlite.ValueOf", "(internal/reflectlite.Value).Type", "(internal/reflectlite.Value).IsNil", "internal/reflectlite.TypeOf", "(internal/reflectlite.Value).Elem", "(internal/reflectlite.Value).Set", "slices.overlaps[beaconmere/api.Entry]"], unfollowed := true, recurses := true, named := ["errors.errorType"], apart := false, laid := [("errors.errorType", laid_errors_errorType)] }
def TombSafeSaid : Prop := tombSafeRow.holds Tryd.pinned (OpenSpec.ofChange tombSafeSpec)

/-- ITS FALSE NEIGHBOUR: 'it returns false'. Refute it at one input. -/
def tombSafeWrong : ChangeSpec := { name := "tombSafe", fn := fun _ => fun
  | [d1, d2] => { results := [.lit (.bool false)], args := [d1, d2] }
  | _ => none }
def TombSafeWrongFalsely : Prop := tombSafeRow.holds Tryd.pinned (OpenSpec.ofChange tombSafeWrong)

/- THE SECOND FORM. 'bulk': how many values and letters a reading holds, each counted each time it is reached (what is shared counts as often as it is met; a slice's spare places count too). A statement '..UptoSaid' is the law's where the arguments, and the package variables that the reading takes, are together of bulk at most 1048576: NARROWER than '..Said'. Prove '..Said' where nothing that the law and all that it calls make is longer than what came in: it says more and counts as full. Else prove '..UptoSaid'. A law counts once. -/
mutual
def uptoBulk {H : Type} : DataW H → Nat
  | .lit (.string bytes) => bytes.length + 1
  | .lit _ => 1
  | .nil => 1
  | .ptr d => uptoBulk d + 1
  | .slice elems spare => uptoBulkAll elems + uptoBulkAll spare + 1
  | .agg parts => uptoBulkAll parts + 1
  | .iface _ d => uptoBulk d + 1
  | .map entries => uptoBulkEntries entries + 1
  | .held _ => 1
def uptoBulkAll {H : Type} : List (DataW H) → Nat
  | [] => 0
  | d :: r => uptoBulk d + uptoBulkAll r
def uptoBulkEntries {H : Type} : List (Lit × DataW H) → Nat
  | [] => 0
  | x :: r => uptoBulkEntry x + uptoBulkEntries r
def uptoBulkEntry {H : Type} : Lit × DataW H → Nat
  | (.string bytes, d) => bytes.length + uptoBulk d + 1
  | (_, d) => uptoBulk d + 1
 end
def uptoSmall : (H : Type) → List (DataW H) → Bool := fun _ ds => decide (uptoBulkAll ds ≤ 1048576)
def OpenSpec.upto (s : _root_.Go.ChangeSpec) : _root_.Go.OpenSpec := { _root_.Go.OpenSpec.ofChange s with cond := some uptoSmall }

/-- 'merelaw1.FloorPlays', WHERE WHAT IT READS IS OF BULK AT MOST 1048576: true; the input reads as it did. -/
def floorPlaysUptoRow : OpenClaim := { program := "yteamkhnmknjkfacdoor", sum := "97ba396a0bad317933274c9a485ef4782817c4dc779a146ec6324a9cb06fff66", func := "beaconmere/merelaw1.FloorPlays", spec := "floorPlays", inPlace := ["internal/reflectlite.ValueOf", "(internal/reflectlite.Value).Type", "(internal/reflectlite.Value).IsNil", "internal/reflectlite.TypeOf", "(internal/reflectlite.Value).Elem", "(internal/reflectlite.Value).Set"], unfollowed := true, recurses := true, named := ["errors.errorType"], apart := false, laid := [("errors.errorType", laid_errors_errorType)], narrowed := true }
def FloorPlaysUptoSaid : Prop := floorPlaysUptoRow.holds Tryd.pinned (OpenSpec.upto floorPlaysSpec)

/-- 'merelaw1.TombTells', WHERE WHAT IT READS IS OF BULK AT MOST 1048576: true; the input reads as it did. -/
def tombTellsUptoRow : OpenClaim := { program := "yteamkhnmknjkfacdoor", sum := "97ba396a0bad317933274c9a485ef4782817c4dc779a146ec6324a9cb06fff66", func := "beaconmere/merelaw1.TombTells", spec := "tombTells", inPlace := ["internal/reflectlite.ValueOf", "(internal/reflectlite.Value).Type", "(internal/reflectlite.Value).IsNil", "internal/reflectlite.TypeOf", "(internal/reflectlite.Value).Elem", "(internal/reflectlite.Value).Set"], unfollowed := true, recurses := true, named := ["errors.errorType"], apart := false, laid := [("errors.errorType", laid_errors_errorType)], narrowed := true }
def TombTellsUptoSaid : Prop := tombTellsUptoRow.holds Tryd.pinned (OpenSpec.upto tombTellsSpec)

/-- 'merelaw1.TombSafe', WHERE WHAT IT READS IS OF BULK AT MOST 1048576: true; the input reads as it did. -/
def tombSafeUptoRow : OpenClaim := { program := "yteamkhnmknjkfacdoor", sum := "97ba396a0bad317933274c9a485ef4782817c4dc779a146ec6324a9cb06fff66", func := "beaconmere/merelaw1.TombSafe", spec := "tombSafe", inPlace := ["internal/reflectlite.ValueOf", "(internal/reflectlite.Value).Type", "(internal/reflectlite.Value).IsNil", "internal/reflectlite.TypeOf", "(internal/reflectlite.Value).Elem", "(internal/reflectlite.Value).Set", "slices.overlaps[beaconmere/api.Entry]"], unfollowed := true, recurses := true, named := ["errors.errorType"], apart := false, laid := [("errors.errorType", laid_errors_errorType)], narrowed := true }
def TombSafeUptoSaid : Prop := tombSafeUptoRow.holds Tryd.pinned (OpenSpec.upto tombSafeSpec)

end Rows
end Go.Proofs.YteamkhnmknjkfacDoor
