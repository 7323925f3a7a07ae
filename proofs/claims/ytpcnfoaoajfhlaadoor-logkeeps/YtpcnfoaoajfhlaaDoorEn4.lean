/-
  Package entry by its contracts: Join of any two entries; True.
-/
import Derived.Test.YtpcnfoaoajfhlaaDoorEn3
namespace Go.Proofs.YtpcnfoaoajfhlaaDoor
set_option linter.unusedVariables false
set_option linter.unusedSimpArgs false
open Go.RowKit
theorem join_c (ka va aa : Int) (ga : Bool) (ta : ByteArray) (kb vb ab : Int) (gb : Bool) (tb : ByteArray) (w : World) :
    Calls Tryd.prog 106 #[.agg #[.int .i64 ka, .int .i64 va, .int .i64 aa, .bool ga, .string ta], .agg #[.int .i64 kb, .int .i64 vb, .int .i64 ab, .bool gb, .string tb]] w fun e w' => e = .returned (.tuple #[(joinE ⟨ka, va, aa, ga, ta⟩ ⟨kb, vb, ab, gb, tb⟩).1.val, eV (joinE ⟨ka, va, aa, ga, ta⟩ ⟨kb, vb, ab, gb, tb⟩).2]) ∧ Below w.heap.size w w' := by
  by_cases h : bad2 (bad ka va aa ga ta) (bad kb vb ab gb tb) = 0
  · by_cases hk : ka = kb
    · exact join_same ka va aa ga ta kb vb ab gb tb w h hk
    · refine (join_key ka va aa ga ta kb vb ab gb tb w h hk).mono ?_
      rintro e w' ⟨rfl, hb⟩
      refine ⟨?_, hb⟩
      have hj : joinE ⟨ka, va, aa, ga, ta⟩ ⟨kb, vb, ab, gb, tb⟩ = (⟨0, 0, 0, false, ⟨#[]⟩⟩, 3) := by
        unfold joinE
        rw [if_neg (by simpa using h), if_pos hk]
      rw [hj]
      rfl
  · refine (join_bad ka va aa ga ta kb vb ab gb tb w _ h rfl).mono ?_
    rintro e w' ⟨rfl, hb⟩
    refine ⟨?_, hb⟩
    have hj : joinE ⟨ka, va, aa, ga, ta⟩ ⟨kb, vb, ab, gb, tb⟩ = (⟨0, 0, 0, false, ⟨#[]⟩⟩, bad2 (bad ka va aa ga ta) (bad kb vb ab gb tb)) := by
      unfold joinE
      rw [if_pos h]
    rw [hj]
    show _ = Ending.returned (.tuple #[_, eV (bad2 (bad ka va aa ga ta) (bad kb vb ab gb tb))])
    rw [eV, if_neg h]
    rfl
/-- the result of Join, written out -/
theorem join_o {ka va aa : Int} {ga : Bool} {ta : ByteArray} {kb vb ab : Int} {gb : Bool} {tb : ByteArray} {k v a : Int} {g : Bool} {t : ByteArray} {n : Int} (h : joinE ⟨ka, va, aa, ga, ta⟩ ⟨kb, vb, ab, gb, tb⟩ = (⟨k, v, a, g, t⟩, n)) (w : World) :
    Calls Tryd.prog 106 #[.agg #[.int .i64 ka, .int .i64 va, .int .i64 aa, .bool ga, .string ta], .agg #[.int .i64 kb, .int .i64 vb, .int .i64 ab, .bool gb, .string tb]] w fun e w' => e = .returned (.tuple #[.agg #[.int .i64 k, .int .i64 v, .int .i64 a, .bool g, .string t], eV n]) ∧ Below w.heap.size w w' := by
  have c := join_c ka va aa ga ta kb vb ab gb tb w
  rw [h] at c
  exact c
theorem join_ok {ka va aa : Int} {ga : Bool} {ta : ByteArray} {kb vb ab : Int} {gb : Bool} {tb : ByteArray} {k v a : Int} {g : Bool} {t : ByteArray} (h : joinE ⟨ka, va, aa, ga, ta⟩ ⟨kb, vb, ab, gb, tb⟩ = (⟨k, v, a, g, t⟩, 0)) (w : World) :
    Calls Tryd.prog 106 #[.agg #[.int .i64 ka, .int .i64 va, .int .i64 aa, .bool ga, .string ta], .agg #[.int .i64 kb, .int .i64 vb, .int .i64 ab, .bool gb, .string tb]] w fun e w' => e = .returned (.tuple #[.agg #[.int .i64 k, .int .i64 v, .int .i64 a, .bool g, .string t], .nilIface]) ∧ Below w.heap.size w w' :=
  join_o h w
theorem join_err {ka va aa : Int} {ga : Bool} {ta : ByteArray} {kb vb ab : Int} {gb : Bool} {tb : ByteArray} {k v a : Int} {g : Bool} {t : ByteArray} {n : Int} (h : joinE ⟨ka, va, aa, ga, ta⟩ ⟨kb, vb, ab, gb, tb⟩ = (⟨k, v, a, g, t⟩, n)) (hn : n ≠ 0) (w : World) :
    Calls Tryd.prog 106 #[.agg #[.int .i64 ka, .int .i64 va, .int .i64 aa, .bool ga, .string ta], .agg #[.int .i64 kb, .int .i64 vb, .int .i64 ab, .bool gb, .string tb]] w fun e w' => e = .returned (.tuple #[.agg #[.int .i64 k, .int .i64 v, .int .i64 a, .bool g, .string t], .iface 71 (.int .i64 n)]) ∧ Below w.heap.size w w' := by
  have c := join_o h w
  rw [eV, if_neg hn] at c
  exact c
/-- two entries with the same cells -/
def En.same (x y : En) : Bool := (x.k == y.k) && ((x.v == y.v) && ((x.a == y.a) && ((x.g == y.g) && (x.t.toList == y.t.toList))))
theorem eql_enIn (x y : En) (w : World) : (Op.equalIn 10000 38 x.val y.val).run Tryd.prog w = .ok (x.same y) w := by
  unfold En.val
  rw [run_equalIn_agg w 9999 38 _ _ (by kernel_rfl) (by kernel_rfl)]
  simp [Op.eqFields, Program.fieldsOf, Tryd.underlying38, go_sem, Tryd.underlying3, Tryd.underlying4, Tryd.underlying9, En.same]
  by_cases h0 : x.k = y.k <;> by_cases h1 : x.v = y.v <;> by_cases h2 : x.a = y.a <;> by_cases h3 : x.g = y.g <;> by_cases h4 : x.t.toList = y.t.toList <;> simp [h0, h1, h2, h3, h4]
theorem eql_en (x y : En) (w : World) : (binOp .eql 38 x.val y.val).run Tryd.prog w = .ok (.bool (x.same y)) w := by
  have h := eql_enIn x y w
  unfold En.val at h ⊢
  rw [run_eql_struct, h]
  rfl
theorem En.same_self (x : En) : x.same x = true := by simp [En.same]
theorem eql_cells (x0 x1 x2 : Int) (x3 : Bool) (x4 : ByteArray) (w : World) : (binOp .eql 38 (.agg #[.int .i64 x0, .int .i64 x1, .int .i64 x2, .bool x3, .string x4]) (.agg #[.int .i64 x0, .int .i64 x1, .int .i64 x2, .bool x3, .string x4])).run Tryd.prog w = .ok (.bool true) w := by
  have h := eql_en ⟨x0, x1, x2, x3, x4⟩ ⟨x0, x1, x2, x3, x4⟩ w
  rw [En.same_self] at h
  exact h
theorem eqlIn_cells (x0 x1 x2 : Int) (x3 : Bool) (x4 : ByteArray) (w : World) : (Op.equalIn 10000 38 (.agg #[.int .i64 x0, .int .i64 x1, .int .i64 x2, .bool x3, .string x4]) (.agg #[.int .i64 x0, .int .i64 x1, .int .i64 x2, .bool x3, .string x4])).run Tryd.prog w = .ok true w := by
  have h := eql_enIn ⟨x0, x1, x2, x3, x4⟩ ⟨x0, x1, x2, x3, x4⟩ w
  rw [En.same_self] at h
  exact h
theorem eqGuard_en : Tryd.prog.eqGuardType Tryd.prog.depth 38 = false := by kernel_rfl
end Go.Proofs.YtpcnfoaoajfhlaaDoor
