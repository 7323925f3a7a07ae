/-
  NARROWER THAN 'FOR EVERY INPUT', by the rows' own cells (each row's printed sentence says how): ViewAlone: laid · ProbeTells: laid · ProbeAll: laid · ProbeNext: laid · RumorTells: laid.
  DERIVED. THE GIVEN ROWS OF THIS SEAT. 5 by the template 'for every input the law returns true; each argument reads behind the call as it read before'; 0 by the template 'total and deterministic' (their statements: YtpelbmhhppcmeafDoorTotals.lean).
  GIVEN WITH THE SEED: the statements are not yours to turn. If you find one false, say at which input.
  Laid BY PROGRAM, IN A SANDBOX (cutbox-rows.mjs): the forced cells as the released guide's own fill.sh prints them over the translation 33cfe51c8564ff1c… (all of the seat's roots in one cut). By AI agents, Wed Nov 11 2026. No macro, syntax, notation, axiom, sorry.
-/
import Derived.Test.YtpelbmhhppcmeafDoorChecked
import GoSem.Claim
import GoSem.ClaimJoined
import GoSem.ClaimMapViews
import Derived.JoinedTies
import Derived.KernelRfl
namespace Go.Proofs.YtpelbmhhppcmeafDoor
/- THE CELL 'sum', in the pinned program and in every row, IS THE sha256 OF THE DUMP (.gsa) THAT YtpelbmhhppcmeafDoorProg.lean LOADS. Nothing in Lean hashes anything: it is a label: what it is worth is what the hold of that sum in a sandbox is worth. -/
noncomputable def Tryd.pinned : Pinned := { name := "ytpelbmhhppcmeafdoor", sum := "33cfe51c8564ff1c61cb3a31c160f44abd95d03336646945e23f865493cb703c", checked := Tryd.checked }
namespace Rows
def none {H : Type} : Left H := { results := [], args := [] }

/- WHAT THE LISTED PACKAGE-LEVEL VARIABLES READ AS WHEN THE CALL BEGINS. Each datum BY PROGRAM (the guide's laid-datum.mjs) off the statement by which the dump's own 'gosem.cut.vars' lays the variable. In a bare row this is a premise. The card (YtpelbmhhppcmeafDoorCards.lean) ties it to the program's text. -/
def laid_errors_errorType {H : Type} : DataW H := .iface "internal/reflectlite.rtype" (.agg [.ptr (.lit (.string [101, 114, 114, 111, 114]))])

/-- 'merelaw4.ViewAlone': WHATEVER THE INPUT: true; the input reads as it did. -/
def viewAloneSpec : ChangeSpec := { name := "viewAlone", fn := fun _ => fun
  | [d] => { results := [.lit (.bool true)], args := [d] }
  | _ => none }
def viewAloneRow : OpenClaim := { program := "ytpelbmhhppcmeafdoor", sum := "33cfe51c8564ff1c61cb3a31c160f44abd95d03336646945e23f865493cb703c", func := "beaconmere/merelaw4.ViewAlone", spec := "viewAlone", inPlace := ["slices.overlaps[beaconmere/api.Member]", "internal/reflectlite.ValueOf", "(internal/reflectlite.Value).Type", "(internal/reflectlite.Value).IsNil", "internal/reflectlite.TypeOf", "(internal/reflectlite.Value).Elem", "(internal/reflectlite.Value).Set"], unfollowed := true, recurses := true, named := ["errors.errorType"], apart := false, laid := [("errors.errorType", laid_errors_errorType)] }
def ViewAloneSaid : Prop := viewAloneRow.holds Tryd.pinned (OpenSpec.ofChange viewAloneSpec)

/-- ITS FALSE NEIGHBOUR: 'it returns false'. Refute it at one input. -/
def viewAloneWrong : ChangeSpec := { name := "viewAlone", fn := fun _ => fun
  | [d] => { results := [.lit (.bool false)], args := [d] }
  | _ => none }
def ViewAloneWrongFalsely : Prop := viewAloneRow.holds Tryd.pinned (OpenSpec.ofChange viewAloneWrong)

/-- 'merelaw2.ProbeTells': WHATEVER THE INPUT: true; the input reads as it did. -/
def probeTellsSpec : ChangeSpec := { name := "probeTells", fn := fun _ => fun
  | [d1, d2, d3, d4, d5] => { results := [.lit (.bool true)], args := [d1, d2, d3, d4, d5] }
  | _ => none }
def probeTellsRow : OpenClaim := { program := "ytpelbmhhppcmeafdoor", sum := "33cfe51c8564ff1c61cb3a31c160f44abd95d03336646945e23f865493cb703c", func := "beaconmere/merelaw2.ProbeTells", spec := "probeTells", inPlace := ["internal/reflectlite.ValueOf", "(internal/reflectlite.Value).Type", "(internal/reflectlite.Value).IsNil", "internal/reflectlite.TypeOf", "(internal/reflectlite.Value).Elem", "(internal/reflectlite.Value).Set"], unfollowed := true, recurses := true, named := ["errors.errorType"], apart := false, laid := [("errors.errorType", laid_errors_errorType)] }
def ProbeTellsSaid : Prop := probeTellsRow.holds Tryd.pinned (OpenSpec.ofChange probeTellsSpec)

/-- ITS FALSE NEIGHBOUR: 'it returns false'. Refute it at one input. -/
def probeTellsWrong : ChangeSpec := { name := "probeTells", fn := fun _ => fun
  | [d1, d2, d3, d4, d5] => { results := [.lit (.bool false)], args := [d1, d2, d3, d4, d5] }
  | _ => none }
def ProbeTellsWrongFalsely : Prop := probeTellsRow.holds Tryd.pinned (OpenSpec.ofChange probeTellsWrong)

/-- 'merelaw2.ProbeAll': WHATEVER THE INPUT: true; the input reads as it did. -/
def probeAllSpec : ChangeSpec := { name := "probeAll", fn := fun _ => fun
  | [d1, d2, d3] => { results := [.lit (.bool true)], args := [d1, d2, d3] }
  | _ => none }
def probeAllRow : OpenClaim := { program := "ytpelbmhhppcmeafdoor", sum := "33cfe51c8564ff1c61cb3a31c160f44abd95d03336646945e23f865493cb703c", func := "beaconmere/merelaw2.ProbeAll", spec := "probeAll", inPlace := ["internal/reflectlite.ValueOf", "(internal/reflectlite.Value).Type", "(internal/reflectlite.Value).IsNil", "internal/reflectlite.TypeOf", "(internal/reflectlite.Value).Elem", "(internal/reflectlite.Value).Set"], unfollowed := true, recurses := true, named := ["errors.errorType"], apart := false, laid := [("errors.errorType", laid_errors_errorType)] }
def ProbeAllSaid : Prop := probeAllRow.holds Tryd.pinned (OpenSpec.ofChange probeAllSpec)

/-- ITS FALSE NEIGHBOUR: 'it returns false'. Refute it at one input. -/
def probeAllWrong : ChangeSpec := { name := "probeAll", fn := fun _ => fun
  | [d1, d2, d3] => { results := [.lit (.bool false)], args := [d1, d2, d3] }
  | _ => none }
def ProbeAllWrongFalsely : Prop := probeAllRow.holds Tryd.pinned (OpenSpec.ofChange probeAllWrong)

/-- 'merelaw4.ProbeNext': WHATEVER THE INPUT: true; the input reads as it did. -/
def probeNextSpec : ChangeSpec := { name := "probeNext", fn := fun _ => fun
  | [d1, d2] => { results := [.lit (.bool true)], args := [d1, d2] }
  | _ => none }
def probeNextRow : OpenClaim := { program := "ytpelbmhhppcmeafdoor", sum := "33cfe51c8564ff1c61cb3a31c160f44abd95d03336646945e23f865493cb703c", func := "beaconmere/merelaw4.ProbeNext", spec := "probeNext", inPlace := ["internal/reflectlite.ValueOf", "(internal/reflectlite.Value).Type", "(internal/reflectlite.Value).IsNil", "internal/reflectlite.TypeOf", "(internal/reflectlite.Value).Elem", "(internal/reflectlite.Value).Set"], unfollowed := true, recurses := true, named := ["errors.errorType"], apart := false, laid := [("errors.errorType", laid_errors_errorType)] }
def ProbeNextSaid : Prop := probeNextRow.holds Tryd.pinned (OpenSpec.ofChange probeNextSpec)

/-- ITS FALSE NEIGHBOUR: 'it returns false'. Refute it at one input. -/
def probeNextWrong : ChangeSpec := { name := "probeNext", fn := fun _ => fun
  | [d1, d2] => { results := [.lit (.bool false)], args := [d1, d2] }
  | _ => none }
def ProbeNextWrongFalsely : Prop := probeNextRow.holds Tryd.pinned (OpenSpec.ofChange probeNextWrong)

/-- 'merelaw2.RumorTells': WHATEVER THE INPUT: true; the input reads as it did. -/
def rumorTellsSpec : ChangeSpec := { name := "rumorTells", fn := fun _ => fun
  | [d1, d2, d3, d4, d5] => { results := [.lit (.bool true)], args := [d1, d2, d3, d4, d5] }
  | _ => none }
def rumorTellsRow : OpenClaim := { program := "ytpelbmhhppcmeafdoor", sum := "33cfe51c8564ff1c61cb3a31c160f44abd95d03336646945e23f865493cb703c", func := "beaconmere/merelaw2.RumorTells", spec := "rumorTells", inPlace := ["internal/reflectlite.ValueOf", "(internal/reflectlite.Value).Type", "(internal/reflectlite.Value).IsNil", "internal/reflectlite.TypeOf", "(internal/reflectlite.Value).Elem", "(internal/reflectlite.Value).Set", "slices.overlaps[beaconmere/api.Rumor]"], unfollowed := true, recurses := true, named := ["errors.errorType"], apart := false, laid := [("errors.errorType", laid_errors_errorType)] }
def RumorTellsSaid : Prop := rumorTellsRow.holds Tryd.pinned (OpenSpec.ofChange rumorTellsSpec)

/-- ITS FALSE NEIGHBOUR: 'it returns false'. Refute it at one input. -/
def rumorTellsWrong : ChangeSpec := { name := "rumorTells", fn := fun _ => fun
  | [d1, d2, d3, d4, d5] => { results := [.lit (.bool false)], args := [d1, d2, d3, d4, d5] }
  | _ => none }
def RumorTellsWrongFalsely : Prop := rumorTellsRow.holds Tryd.pinned (OpenSpec.ofChange rumorTellsWrong)

/- THE SECOND FORM. 'bulk': how many values and letters a reading holds, each counted each time it is reached (what is shared counts as often as it is met; a slice's spare places count too). A statement '..UptoSaid' is the law's where the arguments, and the package variables that the reading takes, are together of bulk at most 1048576: NARROWER than '..Said'. Prove '..Said' where nothing that the law and all that it calls make is longer than what came in: it says more and counts as full. Else prove '..UptoSaid'. A law counts once. -/
mutual
def uptoBulk {H : Type} : DataW H → Nat
  | .lit (.string bytes) => bytes.length + 1
  | .lit _ => 1
  | .nil => 1
  | .ptr d => uptoBulk d + 1
  | .slice elems spare => uptoBulkAll elems + uptoBulkAll spare + 1
  | .agg parts => uptoBulkAll parts + 1
  | .iface _ d => uptoBulk d + 1
  | .map entries => uptoBulkEntries entries + 1
  | .held _ => 1
def uptoBulkAll {H : Type} : List (DataW H) → Nat
  | [] => 0
  | d :: r => uptoBulk d + uptoBulkAll r
def uptoBulkEntries {H : Type} : List (Lit × DataW H) → Nat
  | [] => 0
  | x :: r => uptoBulkEntry x + uptoBulkEntries r
def uptoBulkEntry {H : Type} : Lit × DataW H → Nat
  | (.string bytes, d) => bytes.length + uptoBulk d + 1
  | (_, d) => uptoBulk d + 1
 end
def uptoSmall : (H : Type) → List (DataW H) → Bool := fun _ ds => decide (uptoBulkAll ds ≤ 1048576)
def OpenSpec.upto (s : _root_.Go.ChangeSpec) : _root_.Go.OpenSpec := { _root_.Go.OpenSpec.ofChange s with cond := some uptoSmall }

/-- 'merelaw4.ViewAlone', WHERE WHAT IT READS IS OF BULK AT MOST 1048576: true; the input reads as it did. -/
def viewAloneUptoRow : OpenClaim := { program := "ytpelbmhhppcmeafdoor", sum := "33cfe51c8564ff1c61cb3a31c160f44abd95d03336646945e23f865493cb703c", func := "beaconmere/merelaw4.ViewAlone", spec := "viewAlone", inPlace := ["slices.overlaps[beaconmere/api.Member]", "internal/reflectlite.ValueOf", "(internal/reflectlite.Value).Type", "(internal/reflectlite.Value).IsNil", "internal/reflectlite.TypeOf", "(internal/reflectlite.Value).Elem", "(internal/reflectlite.Value).Set"], unfollowed := true, recurses := true, named := ["errors.errorType"], apart := false, laid := [("errors.errorType", laid_errors_errorType)], narrowed := true }
def ViewAloneUptoSaid : Prop := viewAloneUptoRow.holds Tryd.pinned (OpenSpec.upto viewAloneSpec)

/-- 'merelaw2.ProbeTells', WHERE WHAT IT READS IS OF BULK AT MOST 1048576: true; the input reads as it did. -/
def probeTellsUptoRow : OpenClaim := { program := "ytpelbmhhppcmeafdoor", sum := "33cfe51c8564ff1c61cb3a31c160f44abd95d03336646945e23f865493cb703c", func := "beaconmere/merelaw2.ProbeTells", spec := "probeTells", inPlace := ["internal/reflectlite.ValueOf", "(internal/reflectlite.Value).Type", "(internal/reflectlite.Value).IsNil", "internal/reflectlite.TypeOf", "(internal/reflectlite.Value).Elem", "(internal/reflectlite.Value).Set"], unfollowed := true, recurses := true, named := ["errors.errorType"], apart := false, laid := [("errors.errorType", laid_errors_errorType)], narrowed := true }
def ProbeTellsUptoSaid : Prop := probeTellsUptoRow.holds Tryd.pinned (OpenSpec.upto probeTellsSpec)

/-- 'merelaw2.ProbeAll', WHERE WHAT IT READS IS OF BULK AT MOST 1048576: true; the input reads as it did. -/
def probeAllUptoRow : OpenClaim := { program := "ytpelbmhhppcmeafdoor", sum := "33cfe51c8564ff1c61cb3a31c160f44abd95d03336646945e23f865493cb703c", func := "beaconmere/merelaw2.ProbeAll", spec := "probeAll", inPlace := ["internal/reflectlite.ValueOf", "(internal/reflectlite.Value).Type", "(internal/reflectlite.Value).IsNil", "internal/reflectlite.TypeOf", "(internal/reflectlite.Value).Elem", "(internal/reflectlite.Value).Set"], unfollowed := true, recurses := true, named := ["errors.errorType"], apart := false, laid := [("errors.errorType", laid_errors_errorType)], narrowed := true }
def ProbeAllUptoSaid : Prop := probeAllUptoRow.holds Tryd.pinned (OpenSpec.upto probeAllSpec)

/-- 'merelaw4.ProbeNext', WHERE WHAT IT READS IS OF BULK AT MOST 1048576: true; the input reads as it did. -/
def probeNextUptoRow : OpenClaim := { program := "ytpelbmhhppcmeafdoor", sum := "33cfe51c8564ff1c61cb3a31c160f44abd95d03336646945e23f865493cb703c", func := "beaconmere/merelaw4.ProbeNext", spec := "probeNext", inPlace := ["internal/reflectlite.ValueOf", "(internal/reflectlite.Value).Type", "(internal/reflectlite.Value).IsNil", "internal/reflectlite.TypeOf", "(internal/reflectlite.Value).Elem", "(internal/reflectlite.Value).Set"], unfollowed := true, recurses := true, named := ["errors.errorType"], apart := false, laid := [("errors.errorType", laid_errors_errorType)], narrowed := true }
def ProbeNextUptoSaid : Prop := probeNextUptoRow.holds Tryd.pinned (OpenSpec.upto probeNextSpec)

/-- 'merelaw2.RumorTells', WHERE WHAT IT READS IS OF BULK AT MOST 1048576: true; the input reads as it did. -/
def rumorTellsUptoRow : OpenClaim := { program := "ytpelbmhhppcmeafdoor", sum := "33cfe51c8564ff1c61cb3a31c160f44abd95d03336646945e23f865493cb703c", func := "beaconmere/merelaw2.RumorTells", spec := "rumorTells", inPlace := ["internal/reflectlite.ValueOf", "(internal/reflectlite.Value).Type", "(internal/reflectlite.Value).IsNil", "internal/reflectlite.TypeOf", "(internal/reflectlite.Value).Elem", "(internal/reflectlite.Value).Set", "slices.overlaps[beaconmere/api.Rumor]"], unfollowed := true, recurses := true, named := ["errors.errorType"], apart := false, laid := [("errors.errorType", laid_errors_errorType)], narrowed := true }
def RumorTellsUptoSaid : Prop := rumorTellsUptoRow.holds Tryd.pinned (OpenSpec.upto rumorTellsSpec)

end Rows
end Go.Proofs.YtpelbmhhppcmeafDoor
