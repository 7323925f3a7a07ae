/-
  What the rows' one listed variable (errors.errorType) gives a walk, and a world in which it is so.
  What the rows' listed tables give a walk, and a world in which they are so.
  What the row's four listed variables give a walk: the table of powers, and errors.errorType.
  What an api.Entry that came in is: five cells.
  What a cache that came in is: a row of entries.
  What a row of numbers that came in is.
-/
import Derived.Test.YtippdgmgmenboagDoorMi
import Derived.ProofKit
import Derived.OpenShut
import Derived.LaidLaws
import Derived.LaidHandle
import Derived.Deep.DeepHandedRow
import Derived.Stop.Joined
import Derived.ChangeOld
import Derived.Test.YtippdgmgmenboagDoorShf
import Derived.Lib.LaidTab
import Derived.Test.YtippdgmgmenboagDoorRows
import Derived.Deep.Fields
import Derived.RowKitTokens
import Derived.Test.YtippdgmgmenboagDoorMb
import Derived.Deep.Slices
namespace Go.Proofs.YtippdgmgmenboagDoor
set_option linter.unusedVariables false
set_option linter.unusedSimpArgs false
set_option linter.unusedVariables false
set_option linter.unusedSimpArgs false
open Go.ChangeShapes Go.WideShapes Go.RowKit

theorem own : ownKnob Tryd.prog.godebug = none := by kernel_rfl
theorem laidOut : laidOutB Tryd.prog = true := by kernel_rfl
theorem etG : Tryd.prog.globalNamed "errors.errorType" = some 0 := by kernel_rfl
theorem oneRow : ((List.range 171).filter fun t => Tryd.prog.rowNamed t [101, 114, 114, 111, 114]) = [28] := by kernel_rfl
theorem manyTypes : Tryd.prog.types.size = 171 := by kernel_rfl
def laidList : List (String × DataW Unit) := [("errors.errorType", Rows.laid_errors_errorType)]

theorem handle_of_laid {W : World} (h : laidMetH Tryd.prog laidList W) : HasErr W := by
  have h' : laidMet Tryd.prog [] W ∧ handlesMet Tryd.prog laidList W := h
  obtain ⟨name, u, ty, e1, e2, e3, e4, e5⟩ := h'.2 _ (List.mem_singleton.2 rfl)
  have en : name = [101, 114, 114, 111, 114] := (Option.some.inj e1).symm
  subst en
  obtain rfl : 111 = u := Option.some.inj (Eq.trans (by kernel_rfl) e2)
  have hm : ty ∈ (List.range 171).filter fun t => Tryd.prog.rowNamed t [101, 114, 114, 111, 114] := List.mem_filter.2 ⟨List.mem_range.2 (by rw [← manyTypes]; exact e3), e4⟩
  rw [oneRow] at hm
  obtain rfl := List.mem_singleton.1 hm
  have hh : typeHandle Tryd.prog 28 = .pointer (some ⟨4, 28, none⟩) := by kernel_rfl
  rw [hh] at e5
  unfold HasErr
  simpa using World.var?_cell etG e5 0

end Go.Proofs.YtippdgmgmenboagDoor

namespace Go.Proofs.YtippdgmgmenboagDoor
set_option linter.unusedVariables false
set_option linter.unusedSimpArgs false
open Go.ChangeShapes Go.WideShapes Go.RowKit

theorem ownT : ownKnob Tryd.prog.godebug = none := by kernel_rfl
theorem laidOutT : laidOutB Tryd.prog = true := by kernel_rfl
theorem powG : Tryd.prog.globalNamed powName = some 1 := by kernel_rfl
theorem powT : (Tryd.prog.globals[1]?).map (·.type) = some 136 := by kernel_rfl
theorem pow_data : (Rows.laid_internal_strconv_uint64pow10 : DataW Unit) = Lib.tabData .u64 Lib.pow10Tab := by kernel_rfl
theorem pow_one : Tryd.prog.cellsOf 128 = 1 := by kernel_rfl
theorem pow_all : Tryd.prog.cellsOf 136 = 20 := by kernel_rfl

theorem tab_of_met {W : World} (h : laidMet Tryd.prog Rows.swapAlikeRow.laid W) : Lib.TabIs Tryd.prog W powName .u64 Lib.pow10Tab := by
  obtain ⟨ps, ⟨g1, t1, cs1, f1, p1, q1, _, _, _, _, ⟨g2, t2, cs2, f2, p2, q2, _, _, _, _, ⟨g, t, cs, fuel, p, q, hg, ht, hvar, hd, _, _⟩, _⟩, _⟩, _⟩ := h
  obtain rfl := Option.some.inj (powG.symm.trans hg)
  obtain rfl := Option.some.inj (powT.symm.trans ht)
  have hd' : DataW.trod (fun _ => ()) Tryd.prog W 0 (fun _ => true) false fuel 136 cs.toList = some (Lib.tabData (H := Unit) .u64 Lib.pow10Tab, p) := by
    rw [← pow_data]
    exact hd
  have e := Lib.cells_of_tab Tryd.underlying136 Tryd.underlying128 pow_one pow_all hd'
  have hv : W.var? Tryd.prog powName = some cs := hvar
  unfold Lib.TabIs
  rw [hv, ← e]
theorem tab_of_laid {W : World} (h : laidMetH Tryd.prog Rows.swapAlikeRow.laid W) : Lib.TabIs Tryd.prog W powName .u64 Lib.pow10Tab := tab_of_met h

/-- a table's cells -/
def tabCells : DataW Unit → Array Value
  | .agg l => (l.map fun
    | .lit (.int k z) => Value.int k z
    | _ => .nilIface).toArray
  | _ => #[]
/-- a world with a table laid -/
def tabLaid (w : World) (g : Nat) (d : DataW Unit) : World := { w with heap := w.heap.modify g fun
  | .cells _ t frozen => .cells (tabCells d) t frozen
  | o => o }
/-- a world with the tables laid -/
def tabsLaid (w : World) : World := tabLaid (tabLaid (tabLaid w 2 Rows.laid_math_bits_deBruijn32tab) 3 Rows.laid_math_bits_deBruijn64tab) 1 Rows.laid_internal_strconv_uint64pow10
end Go.Proofs.YtippdgmgmenboagDoor

namespace Go.Proofs.YtippdgmgmenboagDoor
set_option linter.unusedVariables false
set_option linter.unusedSimpArgs false
open Go.ChangeShapes Go.WideShapes Go.RowKit

theorem tabE_of_laid {W : World} (h : laidMetH Tryd.prog Rows.swapTellsRow.laid W) : Lib.TabIs Tryd.prog W powName .u64 Lib.pow10Tab ∧ HasErr W := by
  have h' : laidMet Tryd.prog Rows.swapAlikeRow.laid W ∧ handlesMet Tryd.prog laidList W := h
  have e : laidMetH Tryd.prog laidList W := ⟨laidMet_nil _ _, h'.2⟩
  exact ⟨tab_of_met h'.1, handle_of_laid e⟩
end Go.Proofs.YtippdgmgmenboagDoor

namespace Go.Proofs.YtippdgmgmenboagDoor
set_option linter.unusedVariables false
set_option linter.unusedSimpArgs false
open Go.ChangeShapes Go.WideShapes Go.RowKit Go.Deep
theorem array5 {α : Type} {cs : Array α} (h : cs.size = 5) : ∃ c0 c1 c2 c3 c4, cs = #[c0, c1, c2, c3, c4] := by
  obtain ⟨l⟩ := cs
  match l, h with
  | [c0, c1, c2, c3, c4], _ => exact ⟨c0, c1, c2, c3, c4, rfl⟩
theorem fields5 {P : Program} {H : Type} {enc : TypeId × Value → H} {w : World} {base : Nat} {spare : Nat → Bool} {held : Bool} {r : Reach} {b0 : Nat} {t : TypeId} {f0 f1 f2 f3 f4 : Field} {v : Value} {d : DataW H} {p : List MemPlace}
    (hs : P.underlying t = some (.struct #[f0, f1, f2, f3, f4])) (hone : oneCellFields P #[f0, f1, f2, f3, f4] = true) (hC : P.cellsOf t = 5)
    (hv : Value.okWide P w r b0 t v) (h : DataW.Trod enc P w base spare held t v d p) :
    ∃ (v0 v1 v2 v3 v4 : Value) (y0 y1 y2 y3 y4 : DataW H × List MemPlace) (n : Nat), v = .agg #[v0, v1, v2, v3, v4] ∧
      DataW.trod enc P w base spare held n f0.type [v0] = some y0 ∧ DataW.trod enc P w base spare held n f1.type [v1] = some y1 ∧ DataW.trod enc P w base spare held n f2.type [v2] = some y2 ∧
      DataW.trod enc P w base spare held n f3.type [v3] = some y3 ∧ DataW.trod enc P w base spare held n f4.type [v4] = some y4 := by
  obtain ⟨cs, rfl, hsz⟩ := okWide_struct hs hv
  obtain ⟨c0, c1, c2, c3, c4, rfl⟩ := array5 (hsz.trans hC)
  obtain ⟨fuel, hf⟩ := h
  obtain ⟨xs, n, _, _, _, hlen, hg⟩ := DataW.trod_struct hs hf
  match xs, hlen, hg with
  | [y0, y1, y2, y3, y4], _, hg =>
    obtain ⟨o0, k0⟩ := hone_of hone 0 f0 rfl
    obtain ⟨o1, k1⟩ := hone_of hone 1 f1 rfl
    obtain ⟨o2, k2⟩ := hone_of hone 2 f2 rfl
    obtain ⟨o3, k3⟩ := hone_of hone 3 f3 rfl
    obtain ⟨o4, k4⟩ := hone_of hone 4 f4 rfl
    exact ⟨c0, c1, c2, c3, c4, y0, y1, y2, y3, y4, n, rfl, by simpa [Value.cells, o0, k0] using hg 0 f0 rfl, by simpa [Value.cells, o1, k1] using hg 1 f1 rfl, by simpa [Value.cells, o2, k2] using hg 2 f2 rfl, by simpa [Value.cells, o3, k3] using hg 3 f3 rfl, by simpa [Value.cells, o4, k4] using hg 4 f4 rfl⟩
set_option maxRecDepth 100000 in
/-- an entry that came in -/
theorem ent_of {H : Type} {enc : TypeId × Value → H} {w : World} {base : Nat} {spare : Nat → Bool} {held : Bool} {r : Reach} {b0 : Nat} {v : Value} {d : DataW H} {p : List MemPlace}
    (hv : Value.okWide Tryd.prog w r b0 46 v) (h : DataW.Trod enc Tryd.prog w base spare held 46 v d p) :
    ∃ (x0 x1 x2 : Int) (x3 : Bool) (x4 : ByteArray), v = .agg #[.int .i64 x0, .int .i64 x1, .int .i64 x2, .bool x3, .string x4] := by
  obtain ⟨c0, c1, c2, c3, c4, y0, y1, y2, y3, y4, n, rfl, h0, h1, h2, h3, h4⟩ := fields5 Tryd.underlying46 (by kernel_rfl) (by kernel_rfl) hv h
  obtain ⟨x0, e0, _, _⟩ := DataW.trod_int Tryd.underlying3 h0
  obtain ⟨x1, e1, _, _⟩ := DataW.trod_int Tryd.underlying3 h1
  obtain ⟨x2, e2, _, _⟩ := DataW.trod_int Tryd.underlying3 h2
  obtain ⟨x3, e3, _⟩ := DataW.trod_bool Tryd.underlying4 h3
  obtain ⟨x4, e4, _, _⟩ := DataW.trod_string Tryd.underlying9 h4
  simp at e0 e1 e2 e3 e4
  subst e0 e1 e2 e3 e4
  exact ⟨x0, x1, x2, x3, x4, rfl⟩
end Go.Proofs.YtippdgmgmenboagDoor

namespace Go.Proofs.YtippdgmgmenboagDoor
set_option linter.unusedVariables false
set_option linter.unusedSimpArgs false
open Go.ChangeShapes Go.WideShapes Go.RowKit Go.Deep

set_option maxRecDepth 100000 in
theorem cell_en {H : Type} {enc : TypeId × Value → H} {w : World} {base : Nat} {spare : Nat → Bool} {held : Bool} {n : Nat} {a : Addr} {cs : List Value} {x : DataW H × List MemPlace}
    (h1 : w.cells? base a 5 = some cs) (h2 : DataW.trod enc Tryd.prog w base spare held n 46 cs = some x) :
    ∃ e : En, w.cell? (a.add 0) = some (.int .i64 e.k) ∧ w.cell? (a.add 1) = some (.int .i64 e.v) ∧ w.cell? (a.add 2) = some (.int .i64 e.a) ∧ w.cell? (a.add 3) = some (.bool e.g) ∧ w.cell? (a.add 4) = some (.string e.t) := by
  obtain ⟨_, hlen, hcell⟩ := World.cells?_some h1
  obtain ⟨xs, k, _, _, _, hxl, hf⟩ := DataW.trod_struct Tryd.underlying46 h2
  match xs, hxl, cs, hlen, hcell, hf with
  | [y0, y1, y2, y3, y4], _, [c0, c1, c2, c3, c4], _, hcell, hf =>
    have g0 := hf 0 _ rfl
    have g1 := hf 1 _ rfl
    have g2 := hf 2 _ rfl
    have g3 := hf 3 _ rfl
    have g4 := hf 4 _ rfl
    have ci : Tryd.prog.cellsOf 3 = 1 := by kernel_rfl
    have cb : Tryd.prog.cellsOf 4 = 1 := by kernel_rfl
    have cst : Tryd.prog.cellsOf 9 = 1 := by kernel_rfl
    simp [ci, cb, cst] at g0 g1 g2 g3 g4
    obtain ⟨x0, e0, _, _⟩ := DataW.trod_int Tryd.underlying3 g0
    obtain ⟨x1, e1, _, _⟩ := DataW.trod_int Tryd.underlying3 g1
    obtain ⟨x2, e2, _, _⟩ := DataW.trod_int Tryd.underlying3 g2
    obtain ⟨x3, e3, _⟩ := DataW.trod_bool Tryd.underlying4 g3
    obtain ⟨x4, e4, _, _⟩ := DataW.trod_string Tryd.underlying9 g4
    simp at e0 e1 e2 e3 e4
    subst e0 e1 e2 e3 e4
    have k0 := hcell 0 (by omega)
    have k1 := hcell 1 (by omega)
    have k2 := hcell 2 (by omega)
    have k3 := hcell 3 (by omega)
    have k4 := hcell 4 (by omega)
    exact ⟨⟨x0, x1, x2, x3, x4⟩, by simpa using k0, by simpa using k1, by simpa using k2, by simpa using k3, by simpa using k4⟩
set_option maxRecDepth 100000 in
/-- a cache that came in -/
theorem cache_of {H : Type} {enc : TypeId × Value → H} {w : World} {base : Nat} {spare : Nat → Bool} {held : Bool} {r : Reach} {b0 : Nat} {v : Value} {d : DataW H} {p : List MemPlace}
    (hv : Value.okWide Tryd.prog w r b0 22 v) (h : DataW.Trod enc Tryd.prog w base spare held 22 v d p) : ∃ l, RowIs w v l := by
  obtain ⟨a0, len0, cap0, rfl⟩ := okWide_slice Tryd.underlying22 hv
  obtain ⟨fuel, hf⟩ := h
  rcases open_slice Tryd.underlying22 hf with ⟨hcs, _⟩ | ⟨a, len, cap, m, n, D, Pl, hcs, _, hl, hm, hmm, _, hx⟩
  · simp [Value.cells] at hcs
    obtain ⟨rfl, rfl, rfl⟩ := hcs
    exact ⟨[], RowIs.nil w⟩
  · simp [Value.cells] at hcs
    obtain ⟨rfl, rfl, rfl⟩ := hcs
    have hlm : len0 ≤ m := by rw [hmm]; split <;> omega
    have ce : Tryd.prog.cellsOf 46 = 5 := by kernel_rfl
    have each : ∀ i, i < len0 → ∃ e : En, w.cell? (a.add (i * 5)) = some (.int .i64 e.k) ∧ w.cell? (a.add (i * 5 + 1)) = some (.int .i64 e.v) ∧ w.cell? (a.add (i * 5 + 2)) = some (.int .i64 e.a) ∧ w.cell? (a.add (i * 5 + 3)) = some (.bool e.g) ∧ w.cell? (a.add (i * 5 + 4)) = some (.string e.t) := by
      intro i hi
      obtain ⟨cs', h1, h2⟩ := hx i (by omega)
      rw [ce] at h1
      obtain ⟨e, k0, k1, k2, k3, k4⟩ := cell_en h1 h2
      rw [add_add] at k0 k1 k2 k3 k4
      exact ⟨e, k0, k1, k2, k3, k4⟩
    have inh : Inhabited En := ⟨⟨0, 0, 0, false, ⟨#[]⟩⟩⟩
    obtain ⟨f, hfe⟩ := choose_lt each
    refine ⟨(List.range len0).map f, by simp; omega, some a, cap0, by simp, fun hne => ?_⟩
    have h0 : 0 < len0 := by
      rcases Nat.eq_zero_or_pos len0 with h | h
      · subst h; simp at hne
      · exact h
    obtain ⟨b, o, spot⟩ := a
    have hs : spot = none := by simpa [Addr.add] using World.cell?_spot (hfe 0 h0).1
    subst hs
    refine ⟨b, o, rfl, ?_, fun j hj => ?_⟩
    · have := World.block_lt_of_cell? w _ (hfe 0 h0).1
      simpa [Addr.add] using this
    · have hj' : j < len0 := by simpa using hj
      obtain ⟨k0, k1, k2, k3, k4⟩ := hfe j hj'
      rw [Addr.add_lit] at k0 k1 k2 k3 k4
      simp only [List.getElem_map, List.getElem_range]
      exact ⟨k0, by rw [Nat.add_assoc]; exact k1, by rw [Nat.add_assoc]; exact k2, by rw [Nat.add_assoc]; exact k3, by rw [Nat.add_assoc]; exact k4⟩
end Go.Proofs.YtippdgmgmenboagDoor

namespace Go.Proofs.YtippdgmgmenboagDoor
set_option linter.unusedVariables false
set_option linter.unusedSimpArgs false
open Go.ChangeShapes Go.WideShapes Go.RowKit Go.Deep

/-- numbers that came in, and the room behind them -/
def IntsCap (w : World) (v : Value) (l : List Int) : Prop := IntsIs w v l ∧ CapOk v l.length
set_option maxRecDepth 100000 in
theorem nums_of {H : Type} {enc : TypeId × Value → H} {w : World} {base : Nat} {spare : Nat → Bool} {held : Bool} {r : Reach} {b0 : Nat} {v : Value} {d : DataW H} {p : List MemPlace}
    (hv : Value.okWide Tryd.prog w r b0 23 v) (h : DataW.Trod enc Tryd.prog w base spare held 23 v d p) : ∃ l, IntsCap w v l := by
  obtain ⟨a0, len0, cap0, rfl⟩ := okWide_slice Tryd.underlying23 hv
  obtain ⟨fuel, hf⟩ := h
  rcases open_slice Tryd.underlying23 hf with ⟨hcs, _⟩ | ⟨a, len, cap, m, n, D, Pl, hcs, _, hl, hm, hmm, _, hx⟩
  · simp [Value.cells] at hcs
    obtain ⟨rfl, rfl, rfl⟩ := hcs
    exact ⟨[], IntsIs.nil w, CapOk.nil⟩
  · simp [Value.cells] at hcs
    obtain ⟨rfl, rfl, rfl⟩ := hcs
    have hlm : len0 ≤ m := by rw [hmm]; split <;> omega
    have ce : Tryd.prog.cellsOf 3 = 1 := by kernel_rfl
    have each : ∀ i, i < len0 → ∃ e : Int, w.cell? (a.add i) = some (.int .i64 e) := by
      intro i hi
      obtain ⟨cs', h1, h2⟩ := hx i (by omega)
      rw [ce, Nat.mul_one] at h1
      obtain ⟨_, hlen, hcell⟩ := World.cells?_some h1
      obtain ⟨x0, e0, _, _⟩ := DataW.trod_int Tryd.underlying3 h2
      subst e0
      have k0 := hcell 0 (by omega)
      exact ⟨x0, by simpa [add_add] using k0⟩
    obtain ⟨f, hfe⟩ := choose_lt each
    refine ⟨(List.range len0).map f, ⟨by simp; omega, some a, cap0, by simp, fun hne => ?_⟩, ⟨some a, cap0, by simp, by simpa using hl, hm⟩⟩
    have h0 : 0 < len0 := by
      rcases Nat.eq_zero_or_pos len0 with h | h
      · subst h; simp at hne
      · exact h
    obtain ⟨b, o, spot⟩ := a
    have hs : spot = none := by simpa [Addr.add] using World.cell?_spot (hfe 0 h0)
    subst hs
    refine ⟨b, o, rfl, ?_, fun j hj => ?_⟩
    · have := World.block_lt_of_cell? w _ (hfe 0 h0)
      simpa [Addr.add] using this
    · have hj' : j < len0 := by simpa using hj
      have k0 := hfe j hj'
      rw [Addr.add_lit] at k0
      simp only [List.getElem_map, List.getElem_range]
      exact k0
end Go.Proofs.YtippdgmgmenboagDoor
