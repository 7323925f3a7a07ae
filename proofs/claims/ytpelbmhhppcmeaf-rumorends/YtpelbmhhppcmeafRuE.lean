/-
  Are two rumors the same? slices.Index, slices.Contains at rumors, meresame.Rumors, meresame.Members, by their contracts.
-/
import Derived.Test.YtpelbmhhppcmeafRuM
import Derived.BigRegion
import Derived.BigQuiet
namespace Go.Proofs.Ytpelbmhhppcmeaf
set_option linter.unusedVariables false
set_option linter.unusedSimpArgs false
open Go.RowKit

theorem eql_ruIn (x y : Ru) (w : World) : (Op.equalIn 10000 35 x.val y.val).run Try.prog w = .ok (x.same y) w := by
  unfold Ru.val
  rw [run_equalIn_agg w 9999 35 _ _ (by kernel_rfl) (by kernel_rfl)]
  simp [Op.eqFields, Program.fieldsOf, Try.underlying35, Try.underlying31, Try.isAgg31, Try.sizeOf31, part, go_sem, Try.underlying3, Try.isAgg3, Ru.same, Mm.same]
  by_cases h0 : x.m.n = y.m.n <;> by_cases h1 : x.m.f = y.m.f <;> by_cases h2 : x.m.s = y.m.s <;> by_cases h3 : x.t = y.t <;> simp [h0, h1, h2, h3]
theorem eql_ru (x0 x1 x2 x3 y0 y1 y2 y3 : Int) (b : Bool) (h : Ru.same ⟨⟨x0, x1, x2⟩, x3⟩ ⟨⟨y0, y1, y2⟩, y3⟩ = b) (w : World) : (binOp .eql 35 (.agg #[.int .i64 x0, .int .i64 x1, .int .i64 x2, .int .i64 x3]) (.agg #[.int .i64 y0, .int .i64 y1, .int .i64 y2, .int .i64 y3])).run Try.prog w = .ok (.bool b) w := by
  have h1 := eql_ruIn ⟨⟨x0, x1, x2⟩, x3⟩ ⟨⟨y0, y1, y2⟩, y3⟩ w
  rw [h] at h1
  unfold Ru.val at h1
  rw [run_eql_struct, h1]
  rfl
theorem neq_ru (x0 x1 x2 x3 y0 y1 y2 y3 : Int) (b : Bool) (h : Ru.same ⟨⟨x0, x1, x2⟩, x3⟩ ⟨⟨y0, y1, y2⟩, y3⟩ = b) (w : World) : (binOp .neq 35 (.agg #[.int .i64 x0, .int .i64 x1, .int .i64 x2, .int .i64 x3]) (.agg #[.int .i64 y0, .int .i64 y1, .int .i64 y2, .int .i64 y3])).run Try.prog w = .ok (.bool !b) w := by
  have h1 := eql_ruIn ⟨⟨x0, x1, x2⟩, x3⟩ ⟨⟨y0, y1, y2⟩, y3⟩ w
  rw [h] at h1
  unfold Ru.val at h1
  rw [run_neq_struct, h1]
  rfl
theorem eqGuard_ru : Try.prog.eqGuardType Try.prog.depth 35 = false := by kernel_rfl
set_option maxHeartbeats 4000000 in
theorem indexR_c (v : Value) (l : List Ru) (k f s t : Int) (w : World) (hr : RusIs w v l) :
    Calls Try.prog 25 #[v, .agg #[.int .i64 k, .int .i64 f, .int .i64 s, .int .i64 t]] w fun e w' => ∃ i : Int, e = .returned (.int .i64 i) ∧ decide (0 ≤ i) = l.any (fun y => Ru.same ⟨⟨k, f, s⟩, t⟩ y) ∧ Below w.heap.size w w' := by
  obtain ⟨hla, p, cap, rfl, hrow⟩ := hr
  have HR : Hid (l ≠ [] → ∃ b o, p = some ⟨b, o, none⟩ ∧ b < w.heap.size ∧ ∀ j (h : j < l.length), RuAt w b (o + j * 4) l[j]) := hrow
  clear hrow
  obtain ⟨n, HN⟩ : ∃ n, Hid (l.length = n) := ⟨_, rfl⟩
  rw [HN.out] at hla ⊢
  have hn63 : n ≤ 9223372036854775807 := hla
  have hgd := eqGuard_ru
  have HX0 : Hid (BoxR (w.alloc (.cells #[.int .i64 k, .int .i64 f, .int .i64 s, .int .i64 t] 35)) w.heap.size k f s t) := boxR_new w k f s t _ rfl
  have HB0 : Hid (Below w.heap.size w (w.alloc (.cells #[.int .i64 k, .int .i64 f, .int .i64 s, .int .i64 t] 35))) := by show Below _ _ _; go_grown
  go_enter Try.func25, Try.ntmps25
  go_wp2_with fail
  go_loopw [8] (fun i wr => ∃ j : Nat, j ≤ n ∧ i = .int .i64 j ∧ Hid (∀ p (h : p < l.length), p < j → Ru.same ⟨⟨k, f, s⟩, t⟩ l[p] = false) ∧ Hid (BoxR wr w.heap.size k f s t) ∧ Hid (Below w.heap.size w wr)) (fun i _ => n - (intOf i).toNat)
  case atStart => exact ⟨0, Nat.zero_le _, rfl, fun p _ h => absurd h (Nat.not_lt_zero _), HX0, HB0⟩
  case round =>
    obtain ⟨j, hj, rfl, HJ, HX, HB⟩ := hrel
    by_cases hlt : j < n
    · have hjl : j < l.length := by rw [HN.out]; exact hlt
      obtain ⟨b, o, rfl, hbw, hat⟩ := HR.out (fun h => by simp [h] at hjl)
      have HA : Hid (RuAt wr b (o + j * 4) l[j]) := (hat j hjl).of_block (HB.out.block b hbw)
      clear hat
      obtain ⟨x, HLx⟩ : ∃ x, Hid (l[j] = x) := ⟨l[j], show l[j] = l[j] from rfl⟩
      rw [HLx.out] at HA
      obtain ⟨⟨x0, x1, x2⟩, x3⟩ := x
      obtain ⟨q, HQ⟩ : ∃ q, Hid (Ru.same ⟨⟨k, f, s⟩, t⟩ ⟨⟨x0, x1, x2⟩, x3⟩ = q) := ⟨_, rfl⟩
      have hq := eql_ru k f s t x0 x1 x2 x3 q HQ.out
      obtain ⟨c0, c1, c2, c3⟩ := HA.out
      obtain ⟨d0, d1, d2, d3, df⟩ := HX.out
      dsimp only at c0 c1 c2 c3
      have hlti : (j : Int) < (n : Int) := by omega
      cases q
      · go_upto_region 4 with fail
        go_quiet (fail)
        go_wp2_with fail
        go_roundw
        case rel =>
          refine ⟨j + 1, by omega, by go_num, fun p hp hpj => ?_, HX.out.of_block rfl, HB.out.trans (below_drewN _ _ _)⟩
          rcases Nat.lt_succ_iff_lt_or_eq.1 hpj with h | h
          · exact HJ.out p hp h
          · subst h
            rw [HLx.out]
            exact HQ.out
        case measure => simp [intOf]; omega
      · go_upto_region 4 with fail
        go_quiet (fail)
        go_wp2_with fail
        go_ret
        refine ⟨_, rfl, ?_, HB.out.trans (below_drewN _ _ _)⟩
        rw [decide_eq_true (by omega), List.any_eq_true.2 ⟨l[j], List.getElem_mem hjl, by rw [HLx.out]; exact HQ.out⟩]
    · obtain rfl : j = n := by omega
      go_wp2_with fail
      go_ret
      refine ⟨_, rfl, ?_, HB.out⟩
      rw [decide_eq_false (by omega), eq_comm, List.any_eq_false]
      intro x hx
      obtain ⟨p, hp, rfl⟩ := List.getElem_of_mem hx
      rw [HJ.out p hp (by rw [← HN.out]; exact hp)]
      simp
theorem containsR_c (v : Value) (l : List Ru) (k f s t : Int) (q : Bool) (w : World) (hr : RusIs w v l) (hq : l.any (fun y => Ru.same ⟨⟨k, f, s⟩, t⟩ y) = q) :
    Calls Try.prog 15 #[v, .agg #[.int .i64 k, .int .i64 f, .int .i64 s, .int .i64 t]] w fun e w' => e = .returned (.bool q) ∧ Below w.heap.size w w' := by
  have HR : Hid (RusIs w v l) := hr
  have HQ : Hid (l.any (fun y => Ru.same ⟨⟨k, f, s⟩, t⟩ y) = q) := hq
  clear hr hq
  have HX0 : Hid (BoxR (w.alloc (.cells #[.int .i64 k, .int .i64 f, .int .i64 s, .int .i64 t] 35)) w.heap.size k f s t) := boxR_new w k f s t _ rfl
  have HB0 : Hid (Below w.heap.size w (w.alloc (.cells #[.int .i64 k, .int .i64 f, .int .i64 s, .int .i64 t] 35))) := by show Below _ _ _; go_grown
  go_enter Try.func15, Try.ntmps15
  go_wp2_with fail
  refine (indexR_c v l k f s t _ (HR.out.below HB0.out)).mono ?_
  rintro e w1 ⟨i, rfl, hi, hb⟩
  have HI : Hid (decide (0 ≤ i) = q) := hi.trans HQ.out
  have B1 : Hid (Below w.heap.size w w1) := HB0.out.trans (hb.mono (by simp))
  clear hi hb
  go_wp2_with fail
  go_ret
  exact ⟨by rw [← HI.out]; rfl, B1.out⟩
end Go.Proofs.Ytpelbmhhppcmeaf
