/-
  slices.SortStableFunc at few rumors, and package rumor's toldLeast, by their contracts.
-/
import Derived.Test.YtpelbmhhppcmeafRuS
namespace Go.Proofs.Ytpelbmhhppcmeaf
set_option linter.unusedVariables false
set_option linter.unusedSimpArgs false
open Go.RowKit

theorem RusIs.take {w : World} {p : Option Addr} {l : List Ru} {cap j cap' : Nat} {p' : Option Addr} (hr : RusIs w (.slice p l.length cap) l) (hj : j ≤ l.length) (hp : l ≠ [] → p' = p) : RusIs w (.slice p' j cap') (l.take j) := by
  obtain ⟨h0, q, c, e, h1⟩ := hr
  injection e with e1 e2 e3
  subst e1
  have hl : (l.take j).length = j := by simp; omega
  refine ⟨by rw [hl]; omega, p', cap', by rw [hl], fun hn => ?_⟩
  have hne : l ≠ [] := fun h => hn (by simp [h])
  rw [hp hne]
  obtain ⟨b, o, hb, hlt, hc⟩ := h1 hne
  exact ⟨b, o, hb, hlt, fun i hi => by
    have hi' : i < l.length := by rw [hl] at hi; omega
    rw [List.getElem_take]
    exact hc i hi'⟩
set_option maxHeartbeats 2000000 in
theorem insNone_c (v f : Value) (w : World) : Calls Try.prog 31 #[v, .int .i64 0, .int .i64 0, f] w fun e w' => e = .returned (.tuple #[]) ∧ w' = w := by
  go_enter Try.func31, Try.ntmps31
  go_wp2_with fail
  refine wp_loop_rounds 1 ?_
  rw [rounds_succ]
  go_wp2_with fail
  go_end0
  exact ⟨rfl, rfl⟩
theorem insAny_c [Inhabited Ru] (B : Nat) (v : Value) (l : List Ru) (n : Nat) (w : World) (h : OwnR B w v l) (hB : B ≤ w.heap.size) (hl : l.length ≤ 20) (hr : RiseR l) (hn : l.length = n) :
    Calls Try.prog 31 #[v, .int .i64 0, .int .i64 n, .func (.func 24) #[] #[]] w fun e w' => e = .returned (.tuple #[]) ∧ RusIs w' v (srtR l) ∧ Below B w w' := by
  subst hn
  by_cases hne : l = []
  · subst hne
    refine (insNone_c v _ w).mono ?_
    rintro e w' ⟨rfl, rfl⟩
    have e0 : srtR [] = [] := List.length_eq_zero_iff.1 (srt_len (l := []) List.Pairwise.nil)
    rw [e0]
    exact ⟨rfl, h.rus, Below.refl _ _⟩
  · exact insRow_c B v l w h hne hB hl hr
set_option maxHeartbeats 2000000 in
theorem stable_c [Inhabited Ru] (B : Nat) (v : Value) (l : List Ru) (n : Nat) (w : World) (h : OwnR B w v l) (hB : B ≤ w.heap.size) (hl : n < 20) (hr : RiseR l) (hn : l.length = n) :
    Calls Try.prog 29 #[v, .int .i64 n, .func (.func 24) #[] #[]] w fun e w' => e = .returned (.tuple #[]) ∧ RusIs w' v (srtR l) ∧ Below B w w' := by
  have HC : Hid (∀ w', w' = w → Calls Try.prog 31 #[v, .int .i64 0, .int .i64 n, .func (.func 24) #[] #[]] w' fun e w'' => e = .returned (.tuple #[]) ∧ RusIs w'' v (srtR l) ∧ Below B w w'') := by
    rintro w' rfl
    exact insAny_c B v l n w' h hB (by omega) hr hn
  clear h hr hn
  have h1 : ¬ (20 : Int) ≤ (n : Int) := by omega
  have h2 : ¬ (20 : Int) < (n : Int) := by omega
  go_enter Try.func29, Try.ntmps29
  go_wp2_with fail
  refine wp_loop_rounds 1 ?_
  rw [rounds_succ]
  go_wp2_with fail
  refine Calls.mono (HC.out _ rfl) ?_
  rintro e w1 ⟨rfl, hr1, hb1⟩
  have HR1 : Hid _ := hr1
  have HB1 : Hid _ := hb1
  clear hr1 hb1
  go_wp2_with fail
  refine wp_loop_rounds 1 ?_
  rw [rounds_succ]
  go_wp2_with fail
  go_end0
  exact ⟨rfl, HR1.out, HB1.out⟩
set_option maxHeartbeats 2000000 in
theorem sortStable_c [Inhabited Ru] (B : Nat) (v : Value) (l : List Ru) (w : World) (h : OwnR B w v l) (hB : B ≤ w.heap.size) (hl : l.length < 20) (hr : RiseR l) :
    Calls Try.prog 23 #[v, .func (.func 24) #[] #[]] w fun e w' => e = .returned (.tuple #[]) ∧ RusIs w' v (srtR l) ∧ Below B w w' := by
  obtain ⟨n, HN⟩ : ∃ n, Hid (l.length = n) := ⟨_, rfl⟩
  obtain ⟨_, p, cap, rfl, _⟩ := h.rus
  rw [HN.out] at hl h ⊢
  have HC : Hid (∀ w', w' = w → Calls Try.prog 29 #[.slice p n cap, .int .i64 n, .func (.func 24) #[] #[]] w' fun e w'' => e = .returned (.tuple #[]) ∧ RusIs w'' (.slice p n cap) (srtR l) ∧ Below B w w'') := by
    rintro w' rfl
    exact stable_c B _ l n w' h hB hl hr HN.out
  clear h hr
  go_enter Try.func23, Try.ntmps23
  go_wp2_with fail
  refine Calls.mono (HC.out _ rfl) ?_
  rintro e w1 ⟨rfl, hr1, hb1⟩
  have HR1 : Hid _ := hr1
  have HB1 : Hid _ := hb1
  clear hr1 hb1
  go_wp2_with fail
  go_end0
  exact ⟨rfl, HR1.out, HB1.out⟩
set_option maxHeartbeats 2000000 in
/-- so many of those that were told the least -/
theorem least_c [Inhabited Ru] (v : Value) (l : List Ru) (m : Nat) (w : World) (hr : RusIs w v l) (hg : GoodR l) :
    Calls Try.prog 14 #[v, .int .i64 m] w fun e w' => ∃ v', e = .returned v' ∧ RusIs w' v' ((srtR l).take m) ∧ Below w.heap.size w w' := by
  have HR : Hid (RusIs w v l) := hr
  have HG : Hid (GoodR l) := hg
  have h6 := goodR_len hg
  clear hr hg
  have hsl := srt_len HG.out.1
  obtain ⟨s, HS⟩ : ∃ s, Hid (srtR l = s) := ⟨_, rfl⟩
  rw [HS.out] at hsl ⊢
  go_enter Try.func14, Try.ntmps14
  go_wp2_with fail
  refine (cloneR_c v l _ HR.out (by omega)).mono ?_
  rintro e w1 ⟨v1, rfl, ho, hb⟩
  have HO1 : Hid (OwnR w.heap.size w1 v1 l) := ho
  have HB1 : Hid (Below w.heap.size w w1) := hb
  clear ho hb
  go_wp2_with fail
  refine (sortStable_c w.heap.size v1 l _ HO1.out HB1.out.size (by omega) HG.out.1).mono ?_
  rintro e w2 ⟨rfl, hr2, hb2⟩
  have HR2 : Hid (RusIs w2 v1 s) := by rw [← HS.out]; exact hr2
  have HB2 : Hid (Below w.heap.size w w2) := HB1.out.trans hb2
  clear hr2 hb2
  obtain ⟨n, HN⟩ : ∃ n, Hid (l.length = n) := ⟨_, rfl⟩
  obtain ⟨p, cap, rfl, hcap, hpn⟩ : ∃ p cap, v1 = .slice p n cap ∧ n ≤ cap ∧ (p = none → n = 0 ∧ cap = 0) := by
    rw [← HN.out]
    rcases HO1.out.2 with ⟨rfl, h0⟩ | ⟨g, cap, cur, rfl, _, _, h, _⟩
    · exact ⟨none, 0, by rw [h0], by omega, fun _ => ⟨h0, rfl⟩⟩
    · exact ⟨_, _, rfl, h, fun h => by cases h⟩
  have HR3 : Hid (RusIs w2 (.slice p s.length cap) s) := by rw [hsl, HN.out]; exact HR2.out
  rw [HN.out] at h6 hsl
  have HSl : Hid (s.length = n) := hsl
  clear hsl HR2
  by_cases hmn : m ≤ n
  · have g1 : (m : Int) ≤ (n : Int) := by omega
    have g2 : ¬ (n : Int) < (m : Int) := by omega
    have g3 : (m : Int) ≤ (cap : Int) := by omega
    cases p with
    | none =>
      obtain ⟨rfl, rfl⟩ := hpn rfl
      obtain rfl : m = 0 := by omega
      go_wp2_with fail
      go_ret
      exact ⟨_, rfl, RusIs.nil _, HB2.out⟩
    | some ad =>
      go_wp2_with fail
      go_ret
      refine ⟨_, rfl, ?_, HB2.out⟩
      show RusIs w2 (.slice (some ad) (min (m : Int) (n : Int)).toNat cap) (s.take m)
      rw [show (min (m : Int) (n : Int)).toNat = m by omega]
      exact HR3.out.take (by rw [HSl.out]; exact hmn) (fun _ => rfl)
  · have g1 : ¬ (m : Int) ≤ (n : Int) := by omega
    have g2 : (n : Int) < (m : Int) := by omega
    have g3 : (n : Int) ≤ (cap : Int) := by omega
    have HE : Hid (s.take m = s.take n) := by show _ = _; rw [List.take_of_length_le (by rw [HSl.out]; omega), List.take_of_length_le (by rw [HSl.out]; omega)]
    cases p with
    | none =>
      obtain ⟨rfl, rfl⟩ := hpn rfl
      go_wp2_with fail
      go_ret
      refine ⟨_, rfl, ?_, HB2.out⟩
      rw [HE.out]
      show RusIs w2 (.slice none (min (m : Int) 0).toNat 0) (s.take 0)
      rw [show (min (m : Int) 0).toNat = 0 by omega]
      exact RusIs.nil _
    | some ad =>
      go_wp2_with fail
      go_ret
      refine ⟨_, rfl, ?_, HB2.out⟩
      rw [HE.out]
      show RusIs w2 (.slice (some ad) (min (m : Int) (n : Int)).toNat cap) (s.take n)
      rw [show (min (m : Int) (n : Int)).toNat = n by omega]
      exact HR3.out.take (by rw [HSl.out]; exact Nat.le_refl _) (fun _ => rfl)
end Go.Proofs.Ytpelbmhhppcmeaf
