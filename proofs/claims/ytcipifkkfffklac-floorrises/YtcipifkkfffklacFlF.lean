/-
  merelaw4.FloorFirst answers true, whatever the entry and the number.
-/
import Derived.Test.YtcipifkkfffklacFlD
namespace Go.Proofs.Ytcipifkkfffklac
set_option linter.unusedVariables false
set_option linter.unusedSimpArgs false
open Go.RowKit

theorem bad_right {k v a : Int} {g : Bool} {t : ByteArray} (h : bad k v a g t = 0) : (∃ n : Nat, k = n ∧ n < 8) ∧ 0 ≤ a ∧ a ≤ 1000 := by
  unfold bad at h
  split at h
  · omega
  · rename_i h'
    simp [inR] at h'
    exact ⟨⟨k.toNat, by omega, by omega⟩, by omega, by omega⟩

set_option maxHeartbeats 4000000 in
theorem first_walk (k v a : Int) (g : Bool) (t : ByteArray) (seq : Int) (w : World) :
    Calls Try.prog 5 #[.agg #[.int .i64 k, .int .i64 v, .int .i64 a, .bool g, .string t], .int .i64 seq] w fun e w' => e = .returned (.bool true) ∧ Below w.heap.size w w' := by
  have HE1 : Hid (EightAt ((w.alloc (.cells #[.int .i64 k, .int .i64 v, .int .i64 a, .bool g, .string t] 30)).alloc (.cells #[.int .i64 0, .int .i64 0, .int .i64 0, .int .i64 0, .int .i64 0, .int .i64 0, .int .i64 0, .int .i64 0] 52)) (w.heap.size + 1) (fun _ => 0)) := eight_new _ _ _ (by simp)
  have HX1 : Hid (BoxAt ((w.alloc (.cells #[.int .i64 k, .int .i64 v, .int .i64 a, .bool g, .string t] 30)).alloc (.cells #[.int .i64 0, .int .i64 0, .int .i64 0, .int .i64 0, .int .i64 0, .int .i64 0, .int .i64 0, .int .i64 0] 52)) w.heap.size k v a g t) := (box_new w k v a g t w.heap.size rfl).alloc _
  have HB1 : Hid (Below w.heap.size w ((w.alloc (.cells #[.int .i64 k, .int .i64 v, .int .i64 a, .bool g, .string t] 30)).alloc (.cells #[.int .i64 0, .int .i64 0, .int .i64 0, .int .i64 0, .int .i64 0, .int .i64 0, .int .i64 0, .int .i64 0] 52))) := by show Below _ _ _; go_grown
  obtain ⟨n, HN⟩ : ∃ n, Hid (bad k v a g t = n) := ⟨_, rfl⟩
  by_cases hn : n = 0
  · subst hn
    obtain ⟨⟨kn, rfl, hk⟩, ha, ha2⟩ := bad_right HN.out
    have hd : decide ((0 : Int) ≤ a) = true := by simpa using ha
    have HM : Hid (decide ((0 : Int) ≤ a) = true) := hd
    cases hs : flS seq
    · have HS : Hid (flS seq = false) := hs
      clear hs
      go_enter Try.func5, Try.ntmps5
      go_wp2_with (first | (go_at_call 9; refine (flNew_c _).mono ?_; rintro e w' ⟨rfl, rfl⟩))
      refine (flMay_ok (w.heap.size + 1) kn hk HN.out _ _ HE1.out).mono ?_
      rintro e w2 ⟨rfl, hb⟩
      rw [HM.out]
      have B2 : Hid (Below w.heap.size w w2) := HB1.out.trans (hb.mono HB1.out.size)
      clear hb
      go_wp2_with fail
      refine (flAll_bad (w.heap.size + 1) HS.out _).mono ?_
      rintro e w3 ⟨rfl, hb⟩
      have B3 : Hid (Below w.heap.size w w3) := B2.out.trans (hb.mono B2.out.size)
      clear hb
      by_cases h0 : seq < 0
      · have d0 : decide (seq < 0) = true := by simpa using h0
        go_wp2_with fail
        go_ret
        exact ⟨rfl, B3.out⟩
      · have d0 : decide (seq < 0) = false := by simpa using h0
        have d1 : decide (1000 < seq) = true := by
          have := HS.out
          simp [flS] at this
          simp
          omega
        go_wp2_with fail
        go_ret
        exact ⟨rfl, B3.out⟩
    · have HS : Hid (flS seq = true) := hs
      have HH : Hid (hi 0 seq = seq) := by
        show hi 0 seq = seq
        simp [flS] at hs
        unfold hi
        split <;> omega
      clear hs
      go_enter Try.func5, Try.ntmps5
      go_wp2_with (first | (go_at_call 9; refine (flNew_c _).mono ?_; rintro e w' ⟨rfl, rfl⟩))
      refine (flMay_ok (w.heap.size + 1) kn hk HN.out _ _ HE1.out).mono ?_
      rintro e w2 ⟨rfl, hb⟩
      rw [HM.out]
      have B2 : Hid (Below w.heap.size w w2) := HB1.out.trans (hb.mono HB1.out.size)
      have E2 : Hid (EightAt w2 (w.heap.size + 1) (fun _ => 0)) := HE1.out.grown hb
      have X2 : Hid (BoxAt w2 w.heap.size kn v a g t) := HX1.out.below hb HX1.out.lt
      clear hb
      go_wp2_with fail
      refine (flAll_ok (w.heap.size + 1) HS.out _ _ E2.out).mono ?_
      rintro e w3 ⟨rfl, he, ho⟩
      have E3 : Hid (EightAt w3 (w.heap.size + 1) (fun _ => seq)) := he.to (fun _ _ => HH.out)
      have X3 : Hid (BoxAt w3 w.heap.size kn v a g t) := ho.box X2.out (by omega)
      have B3 : Hid (Below w.heap.size w w3) := B2.out.trans (ho.below B2.out.size (by omega))
      clear he ho
      obtain ⟨c0, c1, c2, c3, c4, cf⟩ := X3.out
      go_wp2_with fail
      refine (flMay_ok (w.heap.size + 1) kn hk HN.out _ _ E3.out).mono ?_
      rintro e w4 ⟨rfl, hb⟩
      have E4 : Hid (EightAt w4 (w.heap.size + 1) (fun _ => seq)) := E3.out.grown hb
      have X4 : Hid (BoxAt w4 w.heap.size kn v a g t) := X3.out.below hb X3.out.lt
      have B4 : Hid (Below w.heap.size w w4) := B3.out.trans (hb.mono B3.out.size)
      clear hb c0 c1 c2 c3 c4 cf
      obtain ⟨c0, c1, c2, c3, c4, cf⟩ := X4.out
      go_wp2_with fail
      refine (flOf_ok (w.heap.size + 1) kn hk _ _ E4.out).mono ?_
      rintro e w5 ⟨rfl, hb⟩
      have X5 : Hid (BoxAt w5 w.heap.size kn v a g t) := X4.out.below hb X4.out.lt
      have B5 : Hid (Below w.heap.size w w5) := B4.out.trans (hb.mono B4.out.size)
      clear hb c0 c1 c2 c3 c4 cf
      obtain ⟨c0, c1, c2, c3, c4, cf⟩ := X5.out
      go_wp2_with fail
      go_ret
      exact ⟨by simp, B5.out⟩
  · go_enter Try.func5, Try.ntmps5
    go_wp2_with (first | (go_at_call 9; refine (flNew_c _).mono ?_; rintro e w' ⟨rfl, rfl⟩))
    refine (flMay_bad (w.heap.size + 1) HN.out hn _).mono ?_
    rintro e w2 ⟨rfl, hb⟩
    have B2 : Hid (Below w.heap.size w w2) := HB1.out.trans (hb.mono HB1.out.size)
    have X2 : Hid (BoxAt w2 w.heap.size k v a g t) := HX1.out.below hb HX1.out.lt
    clear hb
    obtain ⟨c0, c1, c2, c3, c4, cf⟩ := X2.out
    go_wp2_with fail
    refine (check_err HN.out hn _).mono ?_
    rintro e w3 ⟨rfl, hb⟩
    have B3 : Hid (Below w.heap.size w w3) := B2.out.trans (hb.mono B2.out.size)
    clear hb
    go_wp2_with fail
    go_ret
    exact ⟨rfl, B3.out⟩
end Go.Proofs.Ytcipifkkfffklac
