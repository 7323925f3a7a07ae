/-
  RumorEnds on lists: what Add and Pick answer of rumors that were never told but as is counted.
-/
import Derived.Test.YtpelbmhhppcmeafRuA
import Derived.Test.YtpelbmhhppcmeafRuB
import Derived.Test.YtpelbmhhppcmeafRuQ
namespace Go.Proofs.Ytpelbmhhppcmeaf
set_option linter.unusedVariables false
set_option linter.unusedSimpArgs false
open Go.RowKit

/-- rumors never told -/
def zeroL (base : List Mm) : List Ru := base.map (fun x => (⟨x, 0⟩ : Ru))
theorem zeroL_len (base : List Mm) : (zeroL base).length = base.length := List.length_map ..
theorem zadd_ok {base : List Mm} {m : Mm} (h : GoodV base) (hm : m.ok = true) : addR (zeroL base) m = (zeroL (addM m base), isU m (zeroL base), 0) := by
  unfold zeroL
  rw [addR_ok (good_badR (zero_good h)) hm, hear_zero]
theorem zadd_bad {base : List Mm} {m : Mm} (h : GoodV base) (hm : m.ok = false) : addR (zeroL base) m = ([], false, 1) := addR_mem (good_badR (zero_good h)) hm
theorem goodX {base : List Mm} {c : Int → Nat} {lm : Nat} (h : GoodV base) (hl : lm ≤ 10) : GoodR (xC base c lm) := by
  refine ⟨xC_rise h.1, fun r hr => ?_⟩
  obtain ⟨h1, h2, h3⟩ := xC_mem hr
  have h4 := (Mm.ok_iff _).1 (h.2 _ h1)
  rw [Ru.ok_iff]
  omega
theorem pickX {base : List Mm} {c : Int → Nat} {lm mn : Nat} (h : GoodV base) (hl : lm ≤ 10) (hl1 : 1 ≤ lm) (hm : mn ≤ 6) : pickR (xC base c lm) (mn : Int) (lm : Int) = (toldR (xC base c lm) mn, xC base (nextC base c lm mn) lm, 0) := by
  have e : ((mn : Int)).toNat = mn := by omega
  rw [pickR_ok (good_badR (goodX h hl)) (by simp [inR]; omega), e, left_next h.1]
theorem toldX_mem {base : List Mm} {c : Int → Nat} {lm mn : Nat} {t : Mm} (ht : t ∈ toldR (xC base c lm) mn) : t ∈ base := by
  obtain ⟨r, hr, rfl⟩ := List.mem_map.1 ht
  exact (xC_mem ((List.mem_filter.1 hr).1)).1
theorem toldX_len {base : List Mm} {c : Int → Nat} {lm mn : Nat} (h : GoodV base) (hm : 1 ≤ mn) (hx : xC base c lm ≠ []) : 1 ≤ (toldR (xC base c lm) mn).length ∧ (toldR (xC base c lm) mn).length ≤ mn := by
  rw [told_len (xC_rise h.1)]
  have := List.length_pos_iff.2 hx
  omega
theorem tm_take {T : List Mm} {j : Nat} (hj : j < T.length) (k : Int) : tmN (T.take (j + 1)) k = tmN (T.take j) k + if T[j].n = k then 1 else 0 := by
  unfold tmN
  rw [List.take_succ_eq_append_getElem hj, List.countP_append, List.countP_singleton]
  congr 1
  by_cases h : T[j].n = k <;> simp [h]
theorem tm_take_le (T : List Mm) (j : Nat) (k : Int) : tmN (T.take j) k ≤ tmN T k := by
  unfold tmN
  exact (List.take_sublist j T).countP_le
theorem sumX {base : List Mm} {c : Int → Nat} {lm : Nat} (h : GoodV base) (hl : lm ≤ 10) (hs : Spread base c lm) : sumC base c ≤ 60 := by
  have h1 := sumC_le hs.top
  have h2 := good_len h
  have h3 : base.length * lm ≤ 6 * 10 := Nat.mul_le_mul h2 hl
  omega
theorem nodeX {base : List Mm} (h : GoodV base) {m : Mm} (hm : m ∈ base) : ∃ q : Nat, m.n = (q : Int) ∧ q < 6 := by
  have := (Mm.ok_iff _).1 (h.2 _ hm)
  exact ⟨m.n.toNat, by omega, by omega⟩
theorem firstX (base : List Mm) {lm : Nat} (hl : 1 ≤ lm) : xC base (fun _ => 0) lm = zeroL base := xC_first base hl
set_option maxHeartbeats 4000000 in
theorem limitFive (w : World) : Calls Try.prog 4 #[.int .i64 5] w fun e w' => e = .returned (.tuple #[.int .i64 9, .nilIface]) ∧ w' = w := by
  go_enter Try.func4, Try.ntmps4
  go_wp2_with fail
  refine (withinR_b 5 1 6 true _ rfl).mono ?_
  rintro e w1 ⟨rfl, rfl⟩
  go_wp2_with fail
  refine wp_loop_rounds 4 ?_
  rw [rounds_succ]
  go_wp2_with fail
  rw [rounds_succ]
  go_wp2_with fail
  rw [rounds_succ]
  go_wp2_with fail
  rw [rounds_succ]
  go_wp2_with fail
  go_ret2
  exact ⟨rfl, rfl⟩
end Go.Proofs.Ytpelbmhhppcmeaf
