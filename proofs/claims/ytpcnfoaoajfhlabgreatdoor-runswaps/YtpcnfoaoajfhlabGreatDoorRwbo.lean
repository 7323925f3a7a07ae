/-
  merelaw3.RunSwaps answers true, whichever nodes swap, and whichever key was put.
  What the rows' one listed variable (errors.errorType) gives a walk, and a world in which it is so.
  What the rows' listed tables give a walk, and a world in which they are so.
  What the row's four listed variables give a walk: the table of powers, and errors.errorType.
  What the sessions' rows' six listed variables and the world's shape give a walk, and a world in which they are so.
-/
import Derived.Test.YtpcnfoaoajfhlabGreatDoorRwbn
import Derived.Test.YtpcnfoaoajfhlabGreatDoorRwab
import Derived.Test.YtpcnfoaoajfhlabGreatDoorRwan
import Derived.ProofKit
import Derived.OpenShut
import Derived.LaidLaws
import Derived.LaidHandle
import Derived.Deep.DeepHandedRow
import Derived.Stop.Joined
import Derived.ChangeOld
import Derived.Test.YtpcnfoaoajfhlabGreatDoorShf
import Derived.Lib.LaidTab
import Derived.Test.YtpcnfoaoajfhlabGreatDoorRwar
import Derived.HandedShaped
namespace Go.Proofs.YtpcnfoaoajfhlabGreatDoor
set_option linter.unusedVariables false
set_option linter.unusedSimpArgs false
set_option linter.unusedVariables false
set_option linter.unusedSimpArgs false
open Go.RowKit

def swBad (a b k : Int) : Bool := decide (a < 0) || decide (2 < a) || decide (b < 0) || decide (2 < b) || decide (k < 0) || decide (7 < k) || (a == b)
set_option maxRecDepth 100000 in
set_option maxHeartbeats 16000000 in
theorem runSwaps_w (a b k : Int) (w : World) (hg : Gl w) (hng : 7 ≤ w.heap.size) :
    Calls Tryz.prog 3 #[.int .i64 a, .int .i64 b, .int .i64 k] w fun e w' => e = .returned (.bool true) ∧ Below w.heap.size w w' := by
  have HR : Hid (∀ (s : ByteArray) W, s.size ≤ 9223372036854775807 → Below w.heap.size w W → Calls Tryz.prog 4 #[.string s] W fun e w' => e = .returned (.string (runO s)) ∧ Below w.heap.size w w') := fun s W hs hW =>
    (run_c s W hs (hg.below hW) (Nat.le_trans hng hW.size)).mono fun e w' hx => ⟨hx.1, hW.trans (hx.2.mono hW.size)⟩
  clear hg hng
  obtain ⟨cb, HCb⟩ : ∃ cb, Hid (swBad a b k = cb) := ⟨_, rfl⟩
  go_enter Tryz.func3, Tryz.ntmps3
  go_upto_region 1 with fail
  go_cut [38] (fun c wd => wd = w ∧ c = .bool cb)
  case first =>
    by_cases h1 : a < 0
    · have h1b : decide (a < 0) = true := by simp [h1]
      have hc : cb = true := by rw [← HCb.out, swBad, h1b]; rfl
      subst hc
      go_wp2_with fail
      go_meet
      exact ⟨rfl, rfl⟩
    have h1b : decide (a < 0) = false := by simp; omega
    by_cases h2 : 2 < a
    · have h2b : decide (2 < a) = true := by simp [h2]
      have hc : cb = true := by rw [← HCb.out, swBad, h1b, h2b]; rfl
      subst hc
      go_wp2_with fail
      go_meet
      exact ⟨rfl, rfl⟩
    have h2b : decide (2 < a) = false := by simp; omega
    by_cases h3 : b < 0
    · have h3b : decide (b < 0) = true := by simp [h3]
      have hc : cb = true := by rw [← HCb.out, swBad, h1b, h2b, h3b]; rfl
      subst hc
      go_wp2_with fail
      go_meet
      exact ⟨rfl, rfl⟩
    have h3b : decide (b < 0) = false := by simp; omega
    by_cases h4 : 2 < b
    · have h4b : decide (2 < b) = true := by simp [h4]
      have hc : cb = true := by rw [← HCb.out, swBad, h1b, h2b, h3b, h4b]; rfl
      subst hc
      go_wp2_with fail
      go_meet
      exact ⟨rfl, rfl⟩
    have h4b : decide (2 < b) = false := by simp; omega
    by_cases h5 : k < 0
    · have h5b : decide (k < 0) = true := by simp [h5]
      have hc : cb = true := by rw [← HCb.out, swBad, h1b, h2b, h3b, h4b, h5b]; rfl
      subst hc
      go_wp2_with fail
      go_meet
      exact ⟨rfl, rfl⟩
    have h5b : decide (k < 0) = false := by simp; omega
    by_cases h6 : 7 < k
    · have h6b : decide (7 < k) = true := by simp [h6]
      have hc : cb = true := by rw [← HCb.out, swBad, h1b, h2b, h3b, h4b, h5b, h6b]; rfl
      subst hc
      go_wp2_with fail
      go_meet
      exact ⟨rfl, rfl⟩
    have h6b : decide (7 < k) = false := by simp; omega
    have hc : cb = (a == b) := by rw [← HCb.out, swBad, h1b, h2b, h3b, h4b, h5b, h6b]; rfl
    subst hc
    go_wp2_with fail
    go_meet
    exact ⟨rfl, rfl⟩
  case rest =>
  obtain ⟨hwd, h38⟩ := hcut
  rw [hwd]
  clear hwd wc
  subst h38
  cases cb with
  | true =>
    have HF : Hid (Calls Tryz.prog 4 #[.string ⟨#[115, 119, 97, 112, 32, 49, 32, 49, 10]⟩] w fun e w' => e = .returned (.string ⟨#[69, 114, 114, 83, 104, 97, 112, 101, 10]⟩) ∧ Below w.heap.size w w') := by
      have c := HR.out selfT w (by decide) (Below.refl _ _)
      rw [sw_self] at c
      exact c
    clear HR HCb
    go_wp2_with fail
    refine Calls.mono HF.out ?_
    rintro e w1 ⟨rfl, hb⟩
    have HB1 : Hid (Below w.heap.size w w1) := hb
    clear hb HF
    go_wp2_with fail
    go_ret
    exact ⟨rfl, HB1.out⟩
  | false =>
    have hall := HCb.out
    simp only [swBad, Bool.or_eq_false_iff, decide_eq_false_iff_not, beq_eq_false_iff_ne, ne_eq] at hall
    obtain ⟨⟨⟨⟨⟨⟨g1, g2⟩, g3⟩, g4⟩, g5⟩, g6⟩, g7⟩ := hall
    obtain ⟨an, rfl⟩ : ∃ n : Nat, a = n := ⟨a.toNat, by omega⟩
    obtain ⟨bn, rfl⟩ : ∃ n : Nat, b = n := ⟨b.toNat, by omega⟩
    obtain ⟨kn, rfl⟩ : ∃ n : Nat, k = n := ⟨k.toNat, by omega⟩
    have HAll := sw_all an (by omega) bn (by omega) kn (by omega) (by omega)
    have hx := sw_dig an (by omega)
    have hy := sw_dig bn (by omega)
    have hz := sw_dig kn (by omega)
    have HDx : Hid (∀ W, Calls Tryz.prog 5 #[.int .i64 an] W fun e w' => e = .returned (.string (digS an)) ∧ w' = W) := fun W => digits_c an (by omega) W
    have HDy : Hid (∀ W, Calls Tryz.prog 5 #[.int .i64 bn] W fun e w' => e = .returned (.string (digS bn)) ∧ w' = W) := fun W => digits_c bn (by omega) W
    have HDz : Hid (∀ W, Calls Tryz.prog 5 #[.int .i64 kn] W fun e w' => e = .returned (.string (digS kn)) ∧ w' = W) := fun W => digits_c kn (by omega) W
    unfold swT at HAll
    generalize digS an = x at HAll hx HDx
    generalize digS bn = y at HAll hy HDy
    generalize digS kn = z at HAll hz HDz
    obtain ⟨T, HT⟩ : ∃ T, Hid ((⟨#[112, 117, 116, 32]⟩ : ByteArray) ++ x ++ ⟨#[32]⟩ ++ z ++ ⟨#[32, 122, 10, 115, 119, 97, 112, 32]⟩ ++ y ++ ⟨#[32]⟩ ++ x ++ ⟨#[10, 103, 101, 116, 32]⟩ ++ y ++ ⟨#[32]⟩ ++ z ++ ⟨#[32, 49, 10, 99, 97, 99, 104, 101, 32]⟩ ++ y ++ ⟨#[10]⟩ = T) := ⟨_, rfl⟩
    rw [HT.out] at HAll
    have HTs : Hid (T.size ≤ 100) := by
      show _ ≤ _
      rw [← HT.out]
      simp only [ByteArray.size_append, hx, hy, hz]
      decide
    obtain ⟨A, HA⟩ : ∃ A, Hid (runO T = A) := ⟨_, rfl⟩
    rw [HA.out] at HAll
    have HRa : Hid (Calls Tryz.prog 4 #[.string ((⟨#[112, 117, 116, 32]⟩ : ByteArray) ++ x ++ ⟨#[32]⟩ ++ z ++ ⟨#[32, 122, 10, 115, 119, 97, 112, 32]⟩ ++ y ++ ⟨#[32]⟩ ++ x ++ ⟨#[10, 103, 101, 116, 32]⟩ ++ y ++ ⟨#[32]⟩ ++ z ++ ⟨#[32, 49, 10, 99, 97, 99, 104, 101, 32]⟩ ++ y ++ ⟨#[10]⟩)] w fun e w' => e = .returned (.string A) ∧ Below w.heap.size w w') := by
      have c := HR.out T w (by have := HTs.out; omega) (Below.refl _ _)
      rw [HA.out] at c
      rw [HT.out]
      exact c
    have HAs : Hid (A.size ≤ 90000) := by
      show _ ≤ _
      have h1 := sessO_size (linesB T) (goodM_new 3)
      have h2 := linesB_len T
      have h3 := HTs.out
      rw [← HA.out, runO, if_neg (by omega)]
      have h4 : (linesB T).length * 301 ≤ 101 * 301 := Nat.mul_le_mul (by omega) (Nat.le_refl _)
      omega
    have HCt : Hid (∀ W, Calls Tryz.prog 6 #[.string A, .int .u8 10] W fun e w' => ∃ v, e = .returned v ∧ OwnS W.heap.size w' v [⟨#[49]⟩, ⟨#[111, 107]⟩, ⟨#[49, 45, 49, 32, 122, 32, 99, 97, 99, 104, 101, 100]⟩, z, ⟨#[]⟩] ∧ Below W.heap.size W w') := fun W => by
      have c := refCut_c A 10 W HAs.out
      rw [HAll] at c
      exact c
    clear HAll HT HA HR HCb g1 g2 g3 g4 g5 g6 g7 HTs HAs
    go_wp2_with fail
    refine (HDx.out _).mono ?_
    rintro e w' ⟨rfl, hw⟩
    rw [hw]
    clear hw w'
    go_wp2_with fail
    refine (HDy.out _).mono ?_
    rintro e w' ⟨rfl, hw⟩
    rw [hw]
    clear hw w'
    go_wp2_with fail
    refine (HDz.out _).mono ?_
    rintro e w' ⟨rfl, hw⟩
    rw [hw]
    clear hw w'
    go_wp2_with fail
    refine Calls.mono HRa.out ?_
    rintro e w1 ⟨rfl, hb⟩
    have HB1 : Hid (Below w.heap.size w w1) := hb
    clear hb HRa HDx HDy HDz
    go_wp2_with fail
    refine (HCt.out _).mono ?_
    rintro e w2 ⟨v, rfl, ho, hb⟩
    have HB2 : Hid (Below w.heap.size w w2) := HB1.out.trans (hb.mono HB1.out.size)
    obtain ⟨g, cap, hv, hgl, hgc, _, hcl⟩ := OwnS.cells ho (by simp)
    have hv2 : v = .slice (some ⟨g, 0, none⟩) 5 cap := hv
    subst hv2
    have c0 := hcl 0 _ rfl
    have c1 := hcl 1 _ rfl
    have c2 := hcl 2 _ rfl
    have c3 := hcl 3 _ rfl
    clear hb ho hcl hv HCt hgc
    go_wp2_with fail
    go_ret
    exact ⟨by first | rfl | simp, HB2.out⟩
end Go.Proofs.YtpcnfoaoajfhlabGreatDoor

namespace Go.Proofs.YtpcnfoaoajfhlabGreatDoor
set_option linter.unusedVariables false
set_option linter.unusedSimpArgs false
open Go.ChangeShapes Go.WideShapes Go.RowKit

theorem own : ownKnob Tryz.prog.godebug = none := by kernel_rfl
theorem laidOut : laidOutB Tryz.prog = true := by kernel_rfl
theorem etG : Tryz.prog.globalNamed "errors.errorType" = some 0 := by kernel_rfl
theorem oneRow : ((List.range 263).filter fun t => Tryz.prog.rowNamed t [101, 114, 114, 111, 114]) = [29] := by kernel_rfl
theorem manyTypes : Tryz.prog.types.size = 263 := by kernel_rfl
def laidList : List (String × DataW Unit) := [("errors.errorType", Rows.laid_errors_errorType)]

theorem handle_of_laid {W : World} (h : laidMetH Tryz.prog laidList W) : HasErr W := by
  have h' : laidMet Tryz.prog [] W ∧ handlesMet Tryz.prog laidList W := h
  obtain ⟨name, u, ty, e1, e2, e3, e4, e5⟩ := h'.2 _ (List.mem_singleton.2 rfl)
  have en : name = [101, 114, 114, 111, 114] := (Option.some.inj e1).symm
  subst en
  obtain rfl : 113 = u := Option.some.inj (Eq.trans (by kernel_rfl) e2)
  have hm : ty ∈ (List.range 263).filter fun t => Tryz.prog.rowNamed t [101, 114, 114, 111, 114] := List.mem_filter.2 ⟨List.mem_range.2 (by rw [← manyTypes]; exact e3), e4⟩
  rw [oneRow] at hm
  obtain rfl := List.mem_singleton.1 hm
  have hh : typeHandle Tryz.prog 29 = .pointer (some ⟨7, 29, none⟩) := by kernel_rfl
  rw [hh] at e5
  unfold HasErr
  simpa using World.var?_cell etG e5 0

end Go.Proofs.YtpcnfoaoajfhlabGreatDoor

namespace Go.Proofs.YtpcnfoaoajfhlabGreatDoor
set_option linter.unusedVariables false
set_option linter.unusedSimpArgs false
open Go.ChangeShapes Go.WideShapes Go.RowKit

theorem ownT : ownKnob Tryz.prog.godebug = none := by kernel_rfl
theorem laidOutT : laidOutB Tryz.prog = true := by kernel_rfl
theorem powG : Tryz.prog.globalNamed powName = some 2 := by kernel_rfl
theorem powT : (Tryz.prog.globals[2]?).map (·.type) = some 212 := by kernel_rfl
theorem pow_data : (Rows.laid_internal_strconv_uint64pow10 : DataW Unit) = Lib.tabData .u64 Lib.pow10Tab := by kernel_rfl
theorem pow_one : Tryz.prog.cellsOf 180 = 1 := by kernel_rfl
theorem pow_all : Tryz.prog.cellsOf 212 = 20 := by kernel_rfl

theorem tab_of_met {W : World} (h : laidMet Tryz.prog (Rows.runSwapsRow.laid.take 3) W) : Lib.TabIs Tryz.prog W powName .u64 Lib.pow10Tab := by
  obtain ⟨ps, ⟨g1, t1, cs1, f1, p1, q1, _, _, _, _, ⟨g2, t2, cs2, f2, p2, q2, _, _, _, _, ⟨g, t, cs, fuel, p, q, hg, ht, hvar, hd, _, _⟩, _⟩, _⟩, _⟩ := h
  obtain rfl := Option.some.inj (powG.symm.trans hg)
  obtain rfl := Option.some.inj (powT.symm.trans ht)
  have hd' : DataW.trod (fun _ => ()) Tryz.prog W 0 (fun _ => true) false fuel 212 cs.toList = some (Lib.tabData (H := Unit) .u64 Lib.pow10Tab, p) := by
    rw [← pow_data]
    exact hd
  have e := Lib.cells_of_tab Tryz.underlying212 Tryz.underlying180 pow_one pow_all hd'
  have hv : W.var? Tryz.prog powName = some cs := hvar
  unfold Lib.TabIs
  rw [hv, ← e]
theorem tab_of_laid {W : World} (h : laidMetH Tryz.prog (Rows.runSwapsRow.laid.take 3) W) : Lib.TabIs Tryz.prog W powName .u64 Lib.pow10Tab := tab_of_met h

/-- a table's cells -/
def tabCells : DataW Unit → Array Value
  | .agg l => (l.map fun
    | .lit (.int k z) => Value.int k z
    | _ => .nilIface).toArray
  | _ => #[]
/-- a world with a table laid -/
def tabLaid (w : World) (g : Nat) (d : DataW Unit) : World := { w with heap := w.heap.modify g fun
  | .cells _ t frozen => .cells (tabCells d) t frozen
  | o => o }
/-- a world with the tables laid -/
def tabsLaid (w : World) : World := tabLaid (tabLaid (tabLaid w 5 Rows.laid_math_bits_deBruijn32tab) 6 Rows.laid_math_bits_deBruijn64tab) 2 Rows.laid_internal_strconv_uint64pow10
end Go.Proofs.YtpcnfoaoajfhlabGreatDoor

namespace Go.Proofs.YtpcnfoaoajfhlabGreatDoor
set_option linter.unusedVariables false
set_option linter.unusedSimpArgs false
open Go.ChangeShapes Go.WideShapes Go.RowKit

theorem tabE_of_laid {W : World} (h : laidMetH Tryz.prog ((Rows.runSwapsRow.laid.take 3) ++ [("errors.errorType", Rows.laid_errors_errorType)]) W) : Lib.TabIs Tryz.prog W powName .u64 Lib.pow10Tab ∧ HasErr W := by
  have h' : laidMet Tryz.prog (Rows.runSwapsRow.laid.take 3) W ∧ handlesMet Tryz.prog laidList W := h
  have e : laidMetH Tryz.prog laidList W := ⟨laidMet_nil _ _, h'.2⟩
  exact ⟨tab_of_met h'.1, handle_of_laid e⟩
end Go.Proofs.YtpcnfoaoajfhlabGreatDoor

namespace Go.Proofs.YtpcnfoaoajfhlabGreatDoor
set_option linter.unusedVariables false
set_option linter.unusedSimpArgs false
open Go.ChangeShapes Go.WideShapes Go.RowKit

theorem tab_of_met5 {W : World} (h : laidMet Tryz.prog (Rows.runSwapsRow.laid.filter fun x => x.2.handleName?.isNone) W) : Lib.TabIs Tryz.prog W powName .u64 Lib.pow10Tab := by
  obtain ⟨ps, ⟨g1, t1, cs1, f1, p1, q1, _, _, _, _, ⟨g2, t2, cs2, f2, p2, q2, _, _, _, _, ⟨g, t, cs, fuel, p, q, hg, ht, hvar, hd, _, _⟩, _⟩, _⟩, _⟩ := h
  obtain rfl := Option.some.inj (powG.symm.trans hg)
  obtain rfl := Option.some.inj (powT.symm.trans ht)
  have hd' : DataW.trod (fun _ => ()) Tryz.prog W 0 (fun _ => true) false fuel 212 cs.toList = some (Lib.tabData (H := Unit) .u64 Lib.pow10Tab, p) := by
    rw [← pow_data]
    exact hd
  have e := Lib.cells_of_tab Tryz.underlying212 Tryz.underlying180 pow_one pow_all hd'
  have hv : W.var? Tryz.prog powName = some cs := hvar
  unfold Lib.TabIs
  rw [hv, ← e]
set_option maxRecDepth 100000 in
/-- a variable of an int type holds some int -/
theorem int_of_shape {w : World} {g : Nat} {t : TypeId} {zero : Array Value} (h : w.ShapedOpen Tryz.prog) (hg : g < Tryz.prog.globals.size)
    (h0 : ((begin Tryz.prog (fun _ _ => 0) default).world.heap[g]?).bind Obj.row? = some (zero, t)) (hz : zero.size = 1)
    (hb : Tryz.prog.buildable t = true) (hc : Tryz.prog.cellTypes Tryz.prog.depth t = some [t]) (hu : Tryz.prog.underlying t = some (.int .i64)) : ∃ m, w.cell? ⟨g, 0, none⟩ = some (.int .i64 m) := by
  obtain ⟨cs, hh, hs, hr⟩ := h.1 g zero t hg h0
  obtain ⟨ts, hts, _, hall⟩ := hr hb
  rw [hc] at hts
  cases hts
  have h1 : 0 < cs.size := by omega
  obtain ⟨u, hu', hok⟩ := hall 0 cs[0] (by simp [h1])
  have : u = t := by simpa using hu'.symm
  subst this
  have hcell : w.cell? ⟨g, 0, none⟩ = some cs[0] := by simp [World.cell?, hh, h1]
  rw [hcell]
  unfold Cell.ok at hok
  rw [hu] at hok
  cases hv : cs[0] <;> rw [hv] at hok
  case int k n =>
    have h1 : k = .i64 := And.left hok
    subst h1
    exact ⟨n, rfl⟩
  all_goals exact False.elim hok
theorem gl_of_laid {W : World} (h : laidMetH Tryz.prog Rows.runSwapsRow.laid W) (hs : W.ShapedOpen Tryz.prog) : Gl W ∧ 7 ≤ W.heap.size := by
  have h' : laidMet Tryz.prog (Rows.runSwapsRow.laid.filter fun x => x.2.handleName?.isNone) W ∧ handlesMet Tryz.prog laidList W := h
  have e : laidMetH Tryz.prog laidList W := ⟨laidMet_nil _ _, h'.2⟩
  refine ⟨⟨handle_of_laid e, tab_of_met5 h'.1, int_of_shape (zero := #[.int .i64 0]) (t := 3) hs (of_decide_eq_true (by kernel_rfl)) (by kernel_rfl) rfl (by kernel_rfl) (by kernel_rfl) Tryz.underlying3⟩, ?_⟩
  obtain ⟨z, hz⟩ : ∃ z, ((begin Tryz.prog (fun _ _ => 0) default).world.heap[7 - 1]?).bind Obj.row? = some z := Option.isSome_iff_exists.1 (show Option.isSome _ = true by kernel_rfl)
  obtain ⟨cs, hh, _⟩ := hs.1 (7 - 1) z.1 z.2 (of_decide_eq_true (by kernel_rfl)) hz
  have := (Array.getElem?_eq_some_iff.1 hh).1
  omega
/-- a table's cells, of one number or of several a row -/
def tabCells2 : DataW Unit → Array Value
  | .agg l => (l.map fun
    | .agg k => k.map fun
      | .lit (.int k z) => Value.int k z
      | _ => .nilIface
    | .lit (.int k z) => [Value.int k z]
    | _ => []).flatten.toArray
  | _ => #[]
def tabLaid2 (w : World) (g : Nat) (d : DataW Unit) : World := { w with heap := w.heap.modify g fun
  | .cells _ t frozen => .cells (tabCells2 d) t frozen
  | o => o }
/-- a world with the six laid -/
def tabsLaid6 (w : World) : World := tabLaid2 (tabLaid2 (tabsLaid { w with heap := w.heap.modify 0 fun
      | .cells _ t frozen => .cells #[.iface 113 (.agg #[.pointer (some ⟨7, 29, none⟩)])] t frozen
      | o => o }) 4 Rows.laid_unicode_utf8_acceptRanges) 3 Rows.laid_unicode_utf8_first
end Go.Proofs.YtpcnfoaoajfhlabGreatDoor
