/-
  No cell of these rows narrows 'for every input' (looked for: loops, veiled, ifaces, maps, wideKeys, modest, calm, conditions, laid).
  DERIVED. THE GIVEN ROWS OF THIS SEAT. 3 by the template 'for every input the law returns true; each argument reads behind the call as it read before'; 0 by the template 'total and deterministic' (their statements: YtgncclahhejcdabTotals.lean).
  GIVEN WITH THE SEED: the statements are not yours to turn. If you find one false, say at which input.
  Laid BY PROGRAM, IN A SANDBOX (cutbox-rows.mjs): the forced cells as the released guide's own fill.sh prints them over the translation d6c40657d67912a4… (all of the seat's roots in one cut). By AI agents, Wed Nov 11 2026. No macro, syntax, notation, axiom, sorry.
-/
import Derived.Test.YtgncclahhejcdabChecked
import GoSem.Claim
import GoSem.ClaimJoined
import GoSem.ClaimMapViews
import Derived.JoinedTies
import Derived.KernelRfl
namespace Go.Proofs.Ytgncclahhejcdab
/- THE CELL 'sum', in the pinned program and in every row, IS THE sha256 OF THE DUMP (.gsa) THAT YtgncclahhejcdabProg.lean LOADS. Nothing in Lean hashes anything: it is a label: what it is worth is what the hold of that sum in a sandbox is worth. -/
noncomputable def Try.pinned : Pinned := { name := "ytgncclahhejcdab", sum := "d6c40657d67912a401c0341f12e597c1cf01dc718f4e4eff0f385164888703a5", checked := Try.checked }
namespace Rows
def none {H : Type} : Left H := { results := [], args := [] }

/-- 'merelaw4.EntrySelf': WHATEVER THE INPUT: true; the input reads as it did. -/
def entrySelfSpec : ChangeSpec := { name := "entrySelf", fn := fun _ => fun
  | [d] => { results := [.lit (.bool true)], args := [d] }
  | _ => none }
def entrySelfRow : OpenClaim := { program := "ytgncclahhejcdab", sum := "d6c40657d67912a401c0341f12e597c1cf01dc718f4e4eff0f385164888703a5", func := "beaconmere/merelaw4.EntrySelf", spec := "entrySelf", apart := false }
def EntrySelfSaid : Prop := entrySelfRow.holds Try.pinned (OpenSpec.ofChange entrySelfSpec)

/-- ITS FALSE NEIGHBOUR: 'it returns false'. Refute it at one input. -/
def entrySelfWrong : ChangeSpec := { name := "entrySelf", fn := fun _ => fun
  | [d] => { results := [.lit (.bool false)], args := [d] }
  | _ => none }
def EntrySelfWrongFalsely : Prop := entrySelfRow.holds Try.pinned (OpenSpec.ofChange entrySelfWrong)

/-- 'merelaw1.CacheJoins': WHATEVER THE INPUT: true; the input reads as it did. -/
def cacheJoinsSpec : ChangeSpec := { name := "cacheJoins", fn := fun _ => fun
  | [d1, d2] => { results := [.lit (.bool true)], args := [d1, d2] }
  | _ => none }
def cacheJoinsRow : OpenClaim := { program := "ytgncclahhejcdab", sum := "d6c40657d67912a401c0341f12e597c1cf01dc718f4e4eff0f385164888703a5", func := "beaconmere/merelaw1.CacheJoins", spec := "cacheJoins", inPlace := ["slices.overlaps[beaconmere/api.Entry]"], unfollowed := true, recurses := true, apart := false }
def CacheJoinsSaid : Prop := cacheJoinsRow.holds Try.pinned (OpenSpec.ofChange cacheJoinsSpec)

/-- ITS FALSE NEIGHBOUR: 'it returns false'. Refute it at one input. -/
def cacheJoinsWrong : ChangeSpec := { name := "cacheJoins", fn := fun _ => fun
  | [d1, d2] => { results := [.lit (.bool false)], args := [d1, d2] }
  | _ => none }
def CacheJoinsWrongFalsely : Prop := cacheJoinsRow.holds Try.pinned (OpenSpec.ofChange cacheJoinsWrong)

/-- 'merelaw4.CacheOne': WHATEVER THE INPUT: true; the input reads as it did. -/
def cacheOneSpec : ChangeSpec := { name := "cacheOne", fn := fun _ => fun
  | [d] => { results := [.lit (.bool true)], args := [d] }
  | _ => none }
def cacheOneRow : OpenClaim := { program := "ytgncclahhejcdab", sum := "d6c40657d67912a401c0341f12e597c1cf01dc718f4e4eff0f385164888703a5", func := "beaconmere/merelaw4.CacheOne", spec := "cacheOne", inPlace := ["slices.overlaps[beaconmere/api.Entry]"], unfollowed := true, recurses := true, apart := false }
def CacheOneSaid : Prop := cacheOneRow.holds Try.pinned (OpenSpec.ofChange cacheOneSpec)

/-- ITS FALSE NEIGHBOUR: 'it returns false'. Refute it at one input. -/
def cacheOneWrong : ChangeSpec := { name := "cacheOne", fn := fun _ => fun
  | [d] => { results := [.lit (.bool false)], args := [d] }
  | _ => none }
def CacheOneWrongFalsely : Prop := cacheOneRow.holds Try.pinned (OpenSpec.ofChange cacheOneWrong)

/- THE SECOND FORM. 'bulk': how many values and letters a reading holds, each counted each time it is reached (what is shared counts as often as it is met; a slice's spare places count too). A statement '..UptoSaid' is the law's where the arguments, and the package variables that the reading takes, are together of bulk at most 1048576: NARROWER than '..Said'. Prove '..Said' where nothing that the law and all that it calls make is longer than what came in: it says more and counts as full. Else prove '..UptoSaid'. A law counts once. -/
mutual
def uptoBulk {H : Type} : DataW H → Nat
  | .lit (.string bytes) => bytes.length + 1
  | .lit _ => 1
  | .nil => 1
  | .ptr d => uptoBulk d + 1
  | .slice elems spare => uptoBulkAll elems + uptoBulkAll spare + 1
  | .agg parts => uptoBulkAll parts + 1
  | .iface _ d => uptoBulk d + 1
  | .map entries => uptoBulkEntries entries + 1
  | .held _ => 1
def uptoBulkAll {H : Type} : List (DataW H) → Nat
  | [] => 0
  | d :: r => uptoBulk d + uptoBulkAll r
def uptoBulkEntries {H : Type} : List (Lit × DataW H) → Nat
  | [] => 0
  | x :: r => uptoBulkEntry x + uptoBulkEntries r
def uptoBulkEntry {H : Type} : Lit × DataW H → Nat
  | (.string bytes, d) => bytes.length + uptoBulk d + 1
  | (_, d) => uptoBulk d + 1
 end
def uptoSmall : (H : Type) → List (DataW H) → Bool := fun _ ds => decide (uptoBulkAll ds ≤ 1048576)
def OpenSpec.upto (s : _root_.Go.ChangeSpec) : _root_.Go.OpenSpec := { _root_.Go.OpenSpec.ofChange s with cond := some uptoSmall }

/-- 'merelaw4.EntrySelf', WHERE WHAT IT READS IS OF BULK AT MOST 1048576: true; the input reads as it did. -/
def entrySelfUptoRow : OpenClaim := { program := "ytgncclahhejcdab", sum := "d6c40657d67912a401c0341f12e597c1cf01dc718f4e4eff0f385164888703a5", func := "beaconmere/merelaw4.EntrySelf", spec := "entrySelf", apart := false, narrowed := true }
def EntrySelfUptoSaid : Prop := entrySelfUptoRow.holds Try.pinned (OpenSpec.upto entrySelfSpec)

/-- 'merelaw1.CacheJoins', WHERE WHAT IT READS IS OF BULK AT MOST 1048576: true; the input reads as it did. -/
def cacheJoinsUptoRow : OpenClaim := { program := "ytgncclahhejcdab", sum := "d6c40657d67912a401c0341f12e597c1cf01dc718f4e4eff0f385164888703a5", func := "beaconmere/merelaw1.CacheJoins", spec := "cacheJoins", inPlace := ["slices.overlaps[beaconmere/api.Entry]"], unfollowed := true, recurses := true, apart := false, narrowed := true }
def CacheJoinsUptoSaid : Prop := cacheJoinsUptoRow.holds Try.pinned (OpenSpec.upto cacheJoinsSpec)

/-- 'merelaw4.CacheOne', WHERE WHAT IT READS IS OF BULK AT MOST 1048576: true; the input reads as it did. -/
def cacheOneUptoRow : OpenClaim := { program := "ytgncclahhejcdab", sum := "d6c40657d67912a401c0341f12e597c1cf01dc718f4e4eff0f385164888703a5", func := "beaconmere/merelaw4.CacheOne", spec := "cacheOne", inPlace := ["slices.overlaps[beaconmere/api.Entry]"], unfollowed := true, recurses := true, apart := false, narrowed := true }
def CacheOneUptoSaid : Prop := cacheOneUptoRow.holds Try.pinned (OpenSpec.upto cacheOneSpec)

end Rows
end Go.Proofs.Ytgncclahhejcdab
