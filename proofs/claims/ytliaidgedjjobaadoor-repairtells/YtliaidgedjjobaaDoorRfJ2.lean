/-
  mereref1.Join by its contract.
-/
import Derived.Test.YtliaidgedjjobaaDoorRfE2
namespace Go.Proofs.YtliaidgedjjobaaDoor
set_option linter.unusedVariables false
set_option linter.unusedSimpArgs false
open Go.RowKit
set_option maxHeartbeats 4000000 in
theorem rJoin_le (ka va aa : Int) (ga : Bool) (ta : ByteArray) (kb vb ab : Int) (gb : Bool) (tb : ByteArray) (w : World) (hb : bad2 (bad ka va aa ga ta) (bad kb vb ab gb tb) = 0) (hk : ka = kb) (hv : va ≤ vb) :
    Calls Tryd.prog 36 #[.agg #[.int .i64 ka, .int .i64 va, .int .i64 aa, .bool ga, .string ta], .agg #[.int .i64 kb, .int .i64 vb, .int .i64 ab, .bool gb, .string tb]] w fun e w' => e = .returned (.tuple #[(joinE ⟨ka, va, aa, ga, ta⟩ ⟨kb, vb, ab, gb, tb⟩).1.val, .int .i64 (joinE ⟨ka, va, aa, ga, ta⟩ ⟨kb, vb, ab, gb, tb⟩).2]) ∧ Below w.heap.size w w' := by
  obtain ⟨J, HE⟩ : ∃ J, Hid (joinE ⟨ka, va, aa, ga, ta⟩ ⟨kb, vb, ab, gb, tb⟩ = J) := ⟨_, rfl⟩
  rw [HE.out]
  have H : Hid (bad2 (bad ka va aa ga ta) (bad kb vb ab gb tb) = 0) := hb
  have HK : Hid (ka = kb) := hk
  clear hb hk
  by_cases he : va = vb
  · have he2 : (va == vb) = true := by simp [he]
    have HV : Hid (va = vb) := he
    clear he hv
    go_enter Tryd.func36, Tryd.ntmps36
    go_wp2_with fail
    · rename_i hg ht
      subst hg
      refine bodyPost_ret (v := .tuple #[.agg #[.int .i64 0, .int .i64 0, .int .i64 0, .bool false, .string ⟨#[]⟩], .int .i64 7]) (by simp [results, Tryd.results36, go_sem]) rfl ?_
      refine ⟨by rw [← HE.out, go_eq7 H.out HK.out HV.out (by simpa using ht)]; rfl, ?_⟩
      go_grown
    · have hg : ga = gb := by assumption
      have ht : (!ta.toList == tb.toList) = false := by assumption
      have ha : ab < aa := by assumption
      subst hg
      refine bodyPost_ret (v := .tuple #[.agg #[.int .i64 ka, .int .i64 va, .int .i64 aa, .bool ga, .string ta], .int .i64 0]) (by simp [results, Tryd.results36, go_sem]) rfl ?_
      refine ⟨by rw [← HE.out, go_eqa H.out HK.out HV.out (by simpa using ht) (by show ab < aa; omega)]; rfl, ?_⟩
      go_grown
    · have hg : ga = gb := by assumption
      have ht : (!ta.toList == tb.toList) = false := by assumption
      have ha : aa ≤ ab := by assumption
      subst hg
      refine bodyPost_ret (v := .tuple #[.agg #[.int .i64 kb, .int .i64 vb, .int .i64 ab, .bool ga, .string tb], .int .i64 0]) (by simp [results, Tryd.results36, go_sem]) rfl ?_
      refine ⟨by rw [← HE.out, go_eqb H.out HK.out HV.out (by simpa using ht) (by show ¬ ab < aa; omega)]; rfl, ?_⟩
      go_grown
    · rename_i hg
      refine bodyPost_ret (v := .tuple #[.agg #[.int .i64 0, .int .i64 0, .int .i64 0, .bool false, .string ⟨#[]⟩], .int .i64 7]) (by simp [results, Tryd.results36, go_sem]) rfl ?_
      refine ⟨by rw [← HE.out, go_eq7 H.out HK.out HV.out (by simp [hg])]; rfl, ?_⟩
      go_grown
  · have hl : va < vb := by omega
    have he2 : (va == vb) = false := by simp [he]
    have HV : Hid (va < vb) := hl
    have hn : ¬ vb < va := by omega
    by_cases ha : vb ≤ aa
    · go_enter Tryd.func36, Tryd.ntmps36
      go_wp2_with fail
      refine bodyPost_ret (v := .tuple #[.agg #[.int .i64 0, .int .i64 0, .int .i64 0, .bool false, .string ⟨#[]⟩], .int .i64 7]) (by simp [results, Tryd.results36, go_sem]) rfl ?_
      refine ⟨by rw [← HE.out, go_lt7 H.out HK.out HV.out ha]; rfl, ?_⟩
      go_grown
    · go_enter Tryd.func36, Tryd.ntmps36
      go_wp2_with fail
      refine bodyPost_ret (v := .tuple #[.agg #[.int .i64 kb, .int .i64 vb, .int .i64 ab, .bool gb, .string tb], .int .i64 0]) (by simp [results, Tryd.results36, go_sem]) rfl ?_
      refine ⟨by rw [← HE.out, go_ltb H.out HK.out HV.out (by show ¬ vb ≤ aa; omega)]; rfl, ?_⟩
      go_grown
theorem bad2_swap {m n : Int} (h : bad2 m n = 0) : bad2 n m = 0 := by
  unfold bad2 at *
  split at h <;> simp_all
set_option maxHeartbeats 4000000 in
theorem rJoin_c (ka va aa : Int) (ga : Bool) (ta : ByteArray) (kb vb ab : Int) (gb : Bool) (tb : ByteArray) (w : World) (hb : bad2 (bad ka va aa ga ta) (bad kb vb ab gb tb) = 0) (hk : ka = kb) :
    Calls Tryd.prog 36 #[.agg #[.int .i64 ka, .int .i64 va, .int .i64 aa, .bool ga, .string ta], .agg #[.int .i64 kb, .int .i64 vb, .int .i64 ab, .bool gb, .string tb]] w fun e w' => e = .returned (.tuple #[(joinE ⟨ka, va, aa, ga, ta⟩ ⟨kb, vb, ab, gb, tb⟩).1.val, .int .i64 (joinE ⟨ka, va, aa, ga, ta⟩ ⟨kb, vb, ab, gb, tb⟩).2]) ∧ Below w.heap.size w w' := by
  by_cases hv : va ≤ vb
  · exact rJoin_le ka va aa ga ta kb vb ab gb tb w hb hk hv
  have hl : vb < va := by omega
  have he2 : (va == vb) = false := by simp; omega
  rw [go_swap (x := ⟨ka, va, aa, ga, ta⟩) (y := ⟨kb, vb, ab, gb, tb⟩) hb hk hl]
  have H : Hid (bad2 (bad ka va aa ga ta) (bad kb vb ab gb tb) = 0) := hb
  have HK : Hid (ka = kb) := hk
  obtain ⟨jk, jv, ja, jg, jt, n, HE⟩ : ∃ jk jv ja jg jt n, Hid (joinE ⟨kb, vb, ab, gb, tb⟩ ⟨ka, va, aa, ga, ta⟩ = (⟨jk, jv, ja, jg, jt⟩, n)) := ⟨_, _, _, _, _, _, rfl⟩
  clear hb hk hv
  rw [HE.out]
  go_enter Tryd.func36, Tryd.ntmps36
  go_wp2_with fail
  refine (rJoin_le kb vb ab gb tb ka va aa ga ta _ (bad2_swap H.out) HK.out.symm (by omega)).mono ?_
  rintro e w1 ⟨rfl, hb⟩
  rw [HE.out]
  have B1 : Hid (Below w.heap.size w w1) := Below.trans (by go_grown) (hb.mono (by simp; omega))
  obtain ⟨e0, e1, e2, e3, e4, ef⟩ := (box_new _ 0 0 0 false ⟨#[]⟩ (w.heap.size + 1 + 1) (by simp)).below hb (by simp)
  clear hb
  simp only [En.val]
  go_wp2_with fail
  refine bodyPost_ret (v := .tuple #[.agg #[.int .i64 jk, .int .i64 jv, .int .i64 ja, .bool jg, .string jt], .int .i64 n]) (by simp [results, Tryd.results36, go_sem, e0, e1, e2, e3, e4]) rfl ?_
  refine ⟨rfl, ?_⟩
  have hb := B1.out
  go_grown
end Go.Proofs.YtliaidgedjjobaaDoor
