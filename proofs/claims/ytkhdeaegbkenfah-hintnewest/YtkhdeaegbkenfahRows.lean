/-
  No cell of these rows narrows 'for every input' (looked for: loops, veiled, ifaces, maps, wideKeys, modest, calm, conditions, laid).
  DERIVED. THE GIVEN ROWS OF THIS SEAT. 4 by the template 'for every input the law returns true; each argument reads behind the call as it read before'; 0 by the template 'total and deterministic' (their statements: YtkhdeaegbkenfahTotals.lean).
  GIVEN WITH THE SEED: the statements are not yours to turn. If you find one false, say at which input.
  Laid BY PROGRAM, IN A SANDBOX (cutbox-rows.mjs): the forced cells as the released guide's own fill.sh prints them over the translation ae16dbf0b907c849… (all of the seat's roots in one cut). By AI agents, Wed Nov 11 2026. No macro, syntax, notation, axiom, sorry.
-/
import Derived.Test.YtkhdeaegbkenfahChecked
import GoSem.Claim
import GoSem.ClaimJoined
import GoSem.ClaimMapViews
import Derived.JoinedTies
import Derived.KernelRfl
namespace Go.Proofs.Ytkhdeaegbkenfah
/- THE CELL 'sum', in the pinned program and in every row, IS THE sha256 OF THE DUMP (.gsa) THAT YtkhdeaegbkenfahProg.lean LOADS. Nothing in Lean hashes anything: it is a label: what it is worth is what the hold of that sum in a sandbox is worth. -/
noncomputable def Try.pinned : Pinned := { name := "ytkhdeaegbkenfah", sum := "ae16dbf0b907c849d3437afe310cfc14a021cd4ac98cf308063aa4eca8e6c6b5", checked := Try.checked }
namespace Rows
def none {H : Type} : Left H := { results := [], args := [] }

/-- 'merelaw2.GossipNeeds': WHATEVER THE INPUT: true; the input reads as it did. -/
def gossipNeedsSpec : ChangeSpec := { name := "gossipNeeds", fn := fun _ => fun
  | [d1, d2, d3] => { results := [.lit (.bool true)], args := [d1, d2, d3] }
  | _ => none }
def gossipNeedsRow : OpenClaim := { program := "ytkhdeaegbkenfah", sum := "ae16dbf0b907c849d3437afe310cfc14a021cd4ac98cf308063aa4eca8e6c6b5", func := "beaconmere/merelaw2.GossipNeeds", spec := "gossipNeeds", unfollowed := true, recurses := true, apart := false }
def GossipNeedsSaid : Prop := gossipNeedsRow.holds Try.pinned (OpenSpec.ofChange gossipNeedsSpec)

/-- ITS FALSE NEIGHBOUR: 'it returns false'. Refute it at one input. -/
def gossipNeedsWrong : ChangeSpec := { name := "gossipNeeds", fn := fun _ => fun
  | [d1, d2, d3] => { results := [.lit (.bool false)], args := [d1, d2, d3] }
  | _ => none }
def GossipNeedsWrongFalsely : Prop := gossipNeedsRow.holds Try.pinned (OpenSpec.ofChange gossipNeedsWrong)

/-- 'merelaw4.GossipNone': WHATEVER THE INPUT: true; the input reads as it did. -/
def gossipNoneSpec : ChangeSpec := { name := "gossipNone", fn := fun _ => fun
  | [d] => { results := [.lit (.bool true)], args := [d] }
  | _ => none }
def gossipNoneRow : OpenClaim := { program := "ytkhdeaegbkenfah", sum := "ae16dbf0b907c849d3437afe310cfc14a021cd4ac98cf308063aa4eca8e6c6b5", func := "beaconmere/merelaw4.GossipNone", spec := "gossipNone", unfollowed := true, recurses := true, apart := false }
def GossipNoneSaid : Prop := gossipNoneRow.holds Try.pinned (OpenSpec.ofChange gossipNoneSpec)

/-- ITS FALSE NEIGHBOUR: 'it returns false'. Refute it at one input. -/
def gossipNoneWrong : ChangeSpec := { name := "gossipNone", fn := fun _ => fun
  | [d] => { results := [.lit (.bool false)], args := [d] }
  | _ => none }
def GossipNoneWrongFalsely : Prop := gossipNoneRow.holds Try.pinned (OpenSpec.ofChange gossipNoneWrong)

/-- 'merelaw2.HintNewest': WHATEVER THE INPUT: true; the input reads as it did. -/
def hintNewestSpec : ChangeSpec := { name := "hintNewest", fn := fun _ => fun
  | [d1, d2] => { results := [.lit (.bool true)], args := [d1, d2] }
  | _ => none }
def hintNewestRow : OpenClaim := { program := "ytkhdeaegbkenfah", sum := "ae16dbf0b907c849d3437afe310cfc14a021cd4ac98cf308063aa4eca8e6c6b5", func := "beaconmere/merelaw2.HintNewest", spec := "hintNewest", unfollowed := true, recurses := true, apart := false }
def HintNewestSaid : Prop := hintNewestRow.holds Try.pinned (OpenSpec.ofChange hintNewestSpec)

/-- ITS FALSE NEIGHBOUR: 'it returns false'. Refute it at one input. -/
def hintNewestWrong : ChangeSpec := { name := "hintNewest", fn := fun _ => fun
  | [d1, d2] => { results := [.lit (.bool false)], args := [d1, d2] }
  | _ => none }
def HintNewestWrongFalsely : Prop := hintNewestRow.holds Try.pinned (OpenSpec.ofChange hintNewestWrong)

/-- 'merelaw4.HintTen': WHATEVER THE INPUT: true; the input reads as it did. -/
def hintTenSpec : ChangeSpec := { name := "hintTen", fn := fun _ => fun
  | [d1, d2] => { results := [.lit (.bool true)], args := [d1, d2] }
  | _ => none }
def hintTenRow : OpenClaim := { program := "ytkhdeaegbkenfah", sum := "ae16dbf0b907c849d3437afe310cfc14a021cd4ac98cf308063aa4eca8e6c6b5", func := "beaconmere/merelaw4.HintTen", spec := "hintTen", unfollowed := true, recurses := true, apart := false }
def HintTenSaid : Prop := hintTenRow.holds Try.pinned (OpenSpec.ofChange hintTenSpec)

/-- ITS FALSE NEIGHBOUR: 'it returns false'. Refute it at one input. -/
def hintTenWrong : ChangeSpec := { name := "hintTen", fn := fun _ => fun
  | [d1, d2] => { results := [.lit (.bool false)], args := [d1, d2] }
  | _ => none }
def HintTenWrongFalsely : Prop := hintTenRow.holds Try.pinned (OpenSpec.ofChange hintTenWrong)

/- THE SECOND FORM. 'bulk': how many values and letters a reading holds, each counted each time it is reached (what is shared counts as often as it is met; a slice's spare places count too). A statement '..UptoSaid' is the law's where the arguments, and the package variables that the reading takes, are together of bulk at most 1048576: NARROWER than '..Said'. Prove '..Said' where nothing that the law and all that it calls make is longer than what came in: it says more and counts as full. Else prove '..UptoSaid'. A law counts once. -/
mutual
def uptoBulk {H : Type} : DataW H → Nat
  | .lit (.string bytes) => bytes.length + 1
  | .lit _ => 1
  | .nil => 1
  | .ptr d => uptoBulk d + 1
  | .slice elems spare => uptoBulkAll elems + uptoBulkAll spare + 1
  | .agg parts => uptoBulkAll parts + 1
  | .iface _ d => uptoBulk d + 1
  | .map entries => uptoBulkEntries entries + 1
  | .held _ => 1
def uptoBulkAll {H : Type} : List (DataW H) → Nat
  | [] => 0
  | d :: r => uptoBulk d + uptoBulkAll r
def uptoBulkEntries {H : Type} : List (Lit × DataW H) → Nat
  | [] => 0
  | x :: r => uptoBulkEntry x + uptoBulkEntries r
def uptoBulkEntry {H : Type} : Lit × DataW H → Nat
  | (.string bytes, d) => bytes.length + uptoBulk d + 1
  | (_, d) => uptoBulk d + 1
 end
def uptoSmall : (H : Type) → List (DataW H) → Bool := fun _ ds => decide (uptoBulkAll ds ≤ 1048576)
def OpenSpec.upto (s : _root_.Go.ChangeSpec) : _root_.Go.OpenSpec := { _root_.Go.OpenSpec.ofChange s with cond := some uptoSmall }

/-- 'merelaw2.GossipNeeds', WHERE WHAT IT READS IS OF BULK AT MOST 1048576: true; the input reads as it did. -/
def gossipNeedsUptoRow : OpenClaim := { program := "ytkhdeaegbkenfah", sum := "ae16dbf0b907c849d3437afe310cfc14a021cd4ac98cf308063aa4eca8e6c6b5", func := "beaconmere/merelaw2.GossipNeeds", spec := "gossipNeeds", unfollowed := true, recurses := true, apart := false, narrowed := true }
def GossipNeedsUptoSaid : Prop := gossipNeedsUptoRow.holds Try.pinned (OpenSpec.upto gossipNeedsSpec)

/-- 'merelaw4.GossipNone', WHERE WHAT IT READS IS OF BULK AT MOST 1048576: true; the input reads as it did. -/
def gossipNoneUptoRow : OpenClaim := { program := "ytkhdeaegbkenfah", sum := "ae16dbf0b907c849d3437afe310cfc14a021cd4ac98cf308063aa4eca8e6c6b5", func := "beaconmere/merelaw4.GossipNone", spec := "gossipNone", unfollowed := true, recurses := true, apart := false, narrowed := true }
def GossipNoneUptoSaid : Prop := gossipNoneUptoRow.holds Try.pinned (OpenSpec.upto gossipNoneSpec)

/-- 'merelaw2.HintNewest', WHERE WHAT IT READS IS OF BULK AT MOST 1048576: true; the input reads as it did. -/
def hintNewestUptoRow : OpenClaim := { program := "ytkhdeaegbkenfah", sum := "ae16dbf0b907c849d3437afe310cfc14a021cd4ac98cf308063aa4eca8e6c6b5", func := "beaconmere/merelaw2.HintNewest", spec := "hintNewest", unfollowed := true, recurses := true, apart := false, narrowed := true }
def HintNewestUptoSaid : Prop := hintNewestUptoRow.holds Try.pinned (OpenSpec.upto hintNewestSpec)

/-- 'merelaw4.HintTen', WHERE WHAT IT READS IS OF BULK AT MOST 1048576: true; the input reads as it did. -/
def hintTenUptoRow : OpenClaim := { program := "ytkhdeaegbkenfah", sum := "ae16dbf0b907c849d3437afe310cfc14a021cd4ac98cf308063aa4eca8e6c6b5", func := "beaconmere/merelaw4.HintTen", spec := "hintTen", unfollowed := true, recurses := true, apart := false, narrowed := true }
def HintTenUptoSaid : Prop := hintTenUptoRow.holds Try.pinned (OpenSpec.upto hintTenSpec)

end Rows
end Go.Proofs.Ytkhdeaegbkenfah
