/-
  What the rows' one listed variable (errors.errorType) gives a walk, and a world in which it is so.
  What the rows' listed tables give a walk, and a world in which they are so.
  What the row's four listed variables give a walk: the table of powers, and errors.errorType.
  What the sessions' rows' six listed variables and the world's shape give a walk, and a world in which they are so.
-/
import Derived.Test.YtpcnfoaoajfhlaaGreatDoorRaah
import Derived.ProofKit
import Derived.OpenShut
import Derived.LaidLaws
import Derived.LaidHandle
import Derived.Deep.DeepHandedRow
import Derived.Stop.Joined
import Derived.ChangeOld
import Derived.Test.YtpcnfoaoajfhlaaGreatDoorShf
import Derived.Lib.LaidTab
import Derived.Test.YtpcnfoaoajfhlaaGreatDoorRaaz
import Derived.HandedShaped
namespace Go.Proofs.YtpcnfoaoajfhlaaGreatDoor
set_option linter.unusedVariables false
set_option linter.unusedSimpArgs false
set_option linter.unusedVariables false
set_option linter.unusedSimpArgs false
open Go.ChangeShapes Go.WideShapes Go.RowKit

theorem own : ownKnob Tryz.prog.godebug = none := by kernel_rfl
theorem laidOut : laidOutB Tryz.prog = true := by kernel_rfl
theorem etG : Tryz.prog.globalNamed "errors.errorType" = some 0 := by kernel_rfl
theorem oneRow : ((List.range 322).filter fun t => Tryz.prog.rowNamed t [101, 114, 114, 111, 114]) = [26] := by kernel_rfl
theorem manyTypes : Tryz.prog.types.size = 322 := by kernel_rfl
def laidList : List (String × DataW Unit) := [("errors.errorType", Rows.laid_errors_errorType)]

theorem handle_of_laid {W : World} (h : laidMetH Tryz.prog laidList W) : HasErr W := by
  have h' : laidMet Tryz.prog [] W ∧ handlesMet Tryz.prog laidList W := h
  obtain ⟨name, u, ty, e1, e2, e3, e4, e5⟩ := h'.2 _ (List.mem_singleton.2 rfl)
  have en : name = [101, 114, 114, 111, 114] := (Option.some.inj e1).symm
  subst en
  obtain rfl : 242 = u := Option.some.inj (Eq.trans (by kernel_rfl) e2)
  have hm : ty ∈ (List.range 322).filter fun t => Tryz.prog.rowNamed t [101, 114, 114, 111, 114] := List.mem_filter.2 ⟨List.mem_range.2 (by rw [← manyTypes]; exact e3), e4⟩
  rw [oneRow] at hm
  obtain rfl := List.mem_singleton.1 hm
  have hh : typeHandle Tryz.prog 26 = .pointer (some ⟨7, 26, none⟩) := by kernel_rfl
  rw [hh] at e5
  unfold HasErr
  simpa using World.var?_cell etG e5 0

end Go.Proofs.YtpcnfoaoajfhlaaGreatDoor

namespace Go.Proofs.YtpcnfoaoajfhlaaGreatDoor
set_option linter.unusedVariables false
set_option linter.unusedSimpArgs false
open Go.ChangeShapes Go.WideShapes Go.RowKit

theorem ownT : ownKnob Tryz.prog.godebug = none := by kernel_rfl
theorem laidOutT : laidOutB Tryz.prog = true := by kernel_rfl
theorem powG : Tryz.prog.globalNamed powName = some 2 := by kernel_rfl
theorem powT : (Tryz.prog.globals[2]?).map (·.type) = some 288 := by kernel_rfl
theorem pow_data : (Rows.laid_internal_strconv_uint64pow10 : DataW Unit) = Lib.tabData .u64 Lib.pow10Tab := by kernel_rfl
theorem pow_one : Tryz.prog.cellsOf 226 = 1 := by kernel_rfl
theorem pow_all : Tryz.prog.cellsOf 288 = 20 := by kernel_rfl

theorem tab_of_met {W : World} (h : laidMet Tryz.prog Rows.topOwnersRow.laid W) : Lib.TabIs Tryz.prog W powName .u64 Lib.pow10Tab := by
  obtain ⟨ps, ⟨g1, t1, cs1, f1, p1, q1, _, _, _, _, ⟨g2, t2, cs2, f2, p2, q2, _, _, _, _, ⟨g, t, cs, fuel, p, q, hg, ht, hvar, hd, _, _⟩, _⟩, _⟩, _⟩ := h
  obtain rfl := Option.some.inj (powG.symm.trans hg)
  obtain rfl := Option.some.inj (powT.symm.trans ht)
  have hd' : DataW.trod (fun _ => ()) Tryz.prog W 0 (fun _ => true) false fuel 288 cs.toList = some (Lib.tabData (H := Unit) .u64 Lib.pow10Tab, p) := by
    rw [← pow_data]
    exact hd
  have e := Lib.cells_of_tab Tryz.underlying288 Tryz.underlying226 pow_one pow_all hd'
  have hv : W.var? Tryz.prog powName = some cs := hvar
  unfold Lib.TabIs
  rw [hv, ← e]
theorem tab_of_laid {W : World} (h : laidMetH Tryz.prog Rows.topOwnersRow.laid W) : Lib.TabIs Tryz.prog W powName .u64 Lib.pow10Tab := tab_of_met h

/-- a table's cells -/
def tabCells : DataW Unit → Array Value
  | .agg l => (l.map fun
    | .lit (.int k z) => Value.int k z
    | _ => .nilIface).toArray
  | _ => #[]
/-- a world with a table laid -/
def tabLaid (w : World) (g : Nat) (d : DataW Unit) : World := { w with heap := w.heap.modify g fun
  | .cells _ t frozen => .cells (tabCells d) t frozen
  | o => o }
/-- a world with the tables laid -/
def tabsLaid (w : World) : World := tabLaid (tabLaid (tabLaid w 5 Rows.laid_math_bits_deBruijn32tab) 6 Rows.laid_math_bits_deBruijn64tab) 2 Rows.laid_internal_strconv_uint64pow10
end Go.Proofs.YtpcnfoaoajfhlaaGreatDoor

namespace Go.Proofs.YtpcnfoaoajfhlaaGreatDoor
set_option linter.unusedVariables false
set_option linter.unusedSimpArgs false
open Go.ChangeShapes Go.WideShapes Go.RowKit

theorem tabE_of_laid {W : World} (h : laidMetH Tryz.prog Rows.meshPlaysRow.laid W) : Lib.TabIs Tryz.prog W powName .u64 Lib.pow10Tab ∧ HasErr W := by
  have h' : laidMet Tryz.prog Rows.topOwnersRow.laid W ∧ handlesMet Tryz.prog laidList W := h
  have e : laidMetH Tryz.prog laidList W := ⟨laidMet_nil _ _, h'.2⟩
  exact ⟨tab_of_met h'.1, handle_of_laid e⟩
end Go.Proofs.YtpcnfoaoajfhlaaGreatDoor

namespace Go.Proofs.YtpcnfoaoajfhlaaGreatDoor
set_option linter.unusedVariables false
set_option linter.unusedSimpArgs false
open Go.ChangeShapes Go.WideShapes Go.RowKit

theorem tab_of_met5 {W : World} (h : laidMet Tryz.prog (Rows.runAnswersRow.laid.filter fun x => x.2.handleName?.isNone) W) : Lib.TabIs Tryz.prog W powName .u64 Lib.pow10Tab := by
  obtain ⟨ps, ⟨g1, t1, cs1, f1, p1, q1, _, _, _, _, ⟨g2, t2, cs2, f2, p2, q2, _, _, _, _, ⟨g, t, cs, fuel, p, q, hg, ht, hvar, hd, _, _⟩, _⟩, _⟩, _⟩ := h
  obtain rfl := Option.some.inj (powG.symm.trans hg)
  obtain rfl := Option.some.inj (powT.symm.trans ht)
  have hd' : DataW.trod (fun _ => ()) Tryz.prog W 0 (fun _ => true) false fuel 288 cs.toList = some (Lib.tabData (H := Unit) .u64 Lib.pow10Tab, p) := by
    rw [← pow_data]
    exact hd
  have e := Lib.cells_of_tab Tryz.underlying288 Tryz.underlying226 pow_one pow_all hd'
  have hv : W.var? Tryz.prog powName = some cs := hvar
  unfold Lib.TabIs
  rw [hv, ← e]
set_option maxRecDepth 100000 in
/-- a variable of an int type holds some int -/
theorem int_of_shape {w : World} {g : Nat} {t : TypeId} {zero : Array Value} (h : w.ShapedOpen Tryz.prog) (hg : g < Tryz.prog.globals.size)
    (h0 : ((begin Tryz.prog (fun _ _ => 0) default).world.heap[g]?).bind Obj.row? = some (zero, t)) (hz : zero.size = 1)
    (hb : Tryz.prog.buildable t = true) (hc : Tryz.prog.cellTypes Tryz.prog.depth t = some [t]) (hu : Tryz.prog.underlying t = some (.int .i64)) : ∃ m, w.cell? ⟨g, 0, none⟩ = some (.int .i64 m) := by
  obtain ⟨cs, hh, hs, hr⟩ := h.1 g zero t hg h0
  obtain ⟨ts, hts, _, hall⟩ := hr hb
  rw [hc] at hts
  cases hts
  have h1 : 0 < cs.size := by omega
  obtain ⟨u, hu', hok⟩ := hall 0 cs[0] (by simp [h1])
  have : u = t := by simpa using hu'.symm
  subst this
  have hcell : w.cell? ⟨g, 0, none⟩ = some cs[0] := by simp [World.cell?, hh, h1]
  rw [hcell]
  unfold Cell.ok at hok
  rw [hu] at hok
  cases hv : cs[0] <;> rw [hv] at hok
  case int k n =>
    have h1 : k = .i64 := And.left hok
    subst h1
    exact ⟨n, rfl⟩
  all_goals exact False.elim hok
theorem gl_of_laid {W : World} (h : laidMetH Tryz.prog Rows.runAnswersRow.laid W) (hs : W.ShapedOpen Tryz.prog) : Gl W ∧ 7 ≤ W.heap.size := by
  have h' : laidMet Tryz.prog (Rows.runAnswersRow.laid.filter fun x => x.2.handleName?.isNone) W ∧ handlesMet Tryz.prog laidList W := h
  have e : laidMetH Tryz.prog laidList W := ⟨laidMet_nil _ _, h'.2⟩
  refine ⟨⟨handle_of_laid e, tab_of_met5 h'.1, int_of_shape (zero := #[.int .i64 0]) (t := 3) hs (of_decide_eq_true (by kernel_rfl)) (by kernel_rfl) rfl (by kernel_rfl) (by kernel_rfl) Tryz.underlying3⟩, ?_⟩
  obtain ⟨z, hz⟩ : ∃ z, ((begin Tryz.prog (fun _ _ => 0) default).world.heap[7 - 1]?).bind Obj.row? = some z := Option.isSome_iff_exists.1 (show Option.isSome _ = true by kernel_rfl)
  obtain ⟨cs, hh, _⟩ := hs.1 (7 - 1) z.1 z.2 (of_decide_eq_true (by kernel_rfl)) hz
  have := (Array.getElem?_eq_some_iff.1 hh).1
  omega
/-- a table's cells, of one number or of several a row -/
def tabCells2 : DataW Unit → Array Value
  | .agg l => (l.map fun
    | .agg k => k.map fun
      | .lit (.int k z) => Value.int k z
      | _ => .nilIface
    | .lit (.int k z) => [Value.int k z]
    | _ => []).flatten.toArray
  | _ => #[]
def tabLaid2 (w : World) (g : Nat) (d : DataW Unit) : World := { w with heap := w.heap.modify g fun
  | .cells _ t frozen => .cells (tabCells2 d) t frozen
  | o => o }
/-- a world with the six laid -/
def tabsLaid6 (w : World) : World := tabLaid2 (tabLaid2 (tabsLaid { w with heap := w.heap.modify 0 fun
      | .cells _ t frozen => .cells #[.iface 242 (.agg #[.pointer (some ⟨7, 26, none⟩)])] t frozen
      | o => o }) 4 Rows.laid_unicode_utf8_acceptRanges) 3 Rows.laid_unicode_utf8_first
end Go.Proofs.YtpcnfoaoajfhlaaGreatDoor
