/-
  What the sessions' rows' six listed variables and the world's shape give a walk, and a world in which they are so.
-/
import Derived.Test.YtpcnfoaoajfhlaaGreatDoorRbbn
import Derived.Test.YtpcnfoaoajfhlaaGreatDoorRbar
import Derived.HandedShaped
namespace Go.Proofs.YtpcnfoaoajfhlaaGreatDoor
set_option linter.unusedVariables false
set_option linter.unusedSimpArgs false
set_option linter.unusedVariables false
set_option linter.unusedSimpArgs false
open Go.ChangeShapes Go.WideShapes Go.RowKit

theorem tab_of_met5 {W : World} (h : laidMet Tryz.prog (Rows.runAnswersRow.laid.filter fun x => x.2.handleName?.isNone) W) : Lib.TabIs Tryz.prog W powName .u64 Lib.pow10Tab := by
  obtain ⟨ps, ⟨g1, t1, cs1, f1, p1, q1, _, _, _, _, ⟨g2, t2, cs2, f2, p2, q2, _, _, _, _, ⟨g, t, cs, fuel, p, q, hg, ht, hvar, hd, _, _⟩, _⟩, _⟩, _⟩ := h
  obtain rfl := Option.some.inj (powG.symm.trans hg)
  obtain rfl := Option.some.inj (powT.symm.trans ht)
  have hd' : DataW.trod (fun _ => ()) Tryz.prog W 0 (fun _ => true) false fuel 288 cs.toList = some (Lib.tabData (H := Unit) .u64 Lib.pow10Tab, p) := by
    rw [← pow_data]
    exact hd
  have e := Lib.cells_of_tab Tryz.underlying288 Tryz.underlying226 pow_one pow_all hd'
  have hv : W.var? Tryz.prog powName = some cs := hvar
  unfold Lib.TabIs
  rw [hv, ← e]
set_option maxRecDepth 100000 in
/-- a variable of an int type holds some int -/
theorem int_of_shape {w : World} {g : Nat} {t : TypeId} {zero : Array Value} (h : w.ShapedOpen Tryz.prog) (hg : g < Tryz.prog.globals.size)
    (h0 : ((begin Tryz.prog (fun _ _ => 0) default).world.heap[g]?).bind Obj.row? = some (zero, t)) (hz : zero.size = 1)
    (hb : Tryz.prog.buildable t = true) (hc : Tryz.prog.cellTypes Tryz.prog.depth t = some [t]) (hu : Tryz.prog.underlying t = some (.int .i64)) : ∃ m, w.cell? ⟨g, 0, none⟩ = some (.int .i64 m) := by
  obtain ⟨cs, hh, hs, hr⟩ := h.1 g zero t hg h0
  obtain ⟨ts, hts, _, hall⟩ := hr hb
  rw [hc] at hts
  cases hts
  have h1 : 0 < cs.size := by omega
  obtain ⟨u, hu', hok⟩ := hall 0 cs[0] (by simp [h1])
  have : u = t := by simpa using hu'.symm
  subst this
  have hcell : w.cell? ⟨g, 0, none⟩ = some cs[0] := by simp [World.cell?, hh, h1]
  rw [hcell]
  unfold Cell.ok at hok
  rw [hu] at hok
  cases hv : cs[0] <;> rw [hv] at hok
  case int k n =>
    have h1 : k = .i64 := And.left hok
    subst h1
    exact ⟨n, rfl⟩
  all_goals exact False.elim hok
theorem gl_of_laid {W : World} (h : laidMetH Tryz.prog Rows.runAnswersRow.laid W) (hs : W.ShapedOpen Tryz.prog) : Gl W ∧ 7 ≤ W.heap.size := by
  have h' : laidMet Tryz.prog (Rows.runAnswersRow.laid.filter fun x => x.2.handleName?.isNone) W ∧ handlesMet Tryz.prog laidList W := h
  have e : laidMetH Tryz.prog laidList W := ⟨laidMet_nil _ _, h'.2⟩
  refine ⟨⟨handle_of_laid e, tab_of_met5 h'.1, int_of_shape (zero := #[.int .i64 0]) (t := 3) hs (of_decide_eq_true (by kernel_rfl)) (by kernel_rfl) rfl (by kernel_rfl) (by kernel_rfl) Tryz.underlying3⟩, ?_⟩
  obtain ⟨z, hz⟩ : ∃ z, ((begin Tryz.prog (fun _ _ => 0) default).world.heap[7 - 1]?).bind Obj.row? = some z := Option.isSome_iff_exists.1 (show Option.isSome _ = true by kernel_rfl)
  obtain ⟨cs, hh, _⟩ := hs.1 (7 - 1) z.1 z.2 (of_decide_eq_true (by kernel_rfl)) hz
  have := (Array.getElem?_eq_some_iff.1 hh).1
  omega
/-- a table's cells, of one number or of several a row -/
def tabCells2 : DataW Unit → Array Value
  | .agg l => (l.map fun
    | .agg k => k.map fun
      | .lit (.int k z) => Value.int k z
      | _ => .nilIface
    | .lit (.int k z) => [Value.int k z]
    | _ => []).flatten.toArray
  | _ => #[]
def tabLaid2 (w : World) (g : Nat) (d : DataW Unit) : World := { w with heap := w.heap.modify g fun
  | .cells _ t frozen => .cells (tabCells2 d) t frozen
  | o => o }
/-- a world with the six laid -/
def tabsLaid6 (w : World) : World := tabLaid2 (tabLaid2 (tabsLaid { w with heap := w.heap.modify 0 fun
      | .cells _ t frozen => .cells #[.iface 242 (.agg #[.pointer (some ⟨7, 26, none⟩)])] t frozen
      | o => o }) 4 Rows.laid_unicode_utf8_acceptRanges) 3 Rows.laid_unicode_utf8_first
end Go.Proofs.YtpcnfoaoajfhlaaGreatDoor
