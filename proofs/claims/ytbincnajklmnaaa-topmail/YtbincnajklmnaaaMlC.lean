/-
  Package mail by its contracts: New, checkWay, has, isFull, Count, Give, Lose.
-/
import Derived.Test.YtbincnajklmnaaaMlP
import Derived.Deep.Draws
namespace Go.Proofs.Ytbincnajklmnaaa
set_option linter.unusedVariables false
set_option linter.unusedSimpArgs false
open Go.RowKit

theorem mlNode_c (n : Int) (w : World) : Calls Try.prog 49 #[.int .i64 n] w fun e w' => e = .returned (.bool (isNd n)) ∧ w' = w := by
  by_cases h : 0 ≤ n
  · have hd : decide (0 ≤ n) = true := by simpa using h
    go_enter Try.func49, Try.ntmps49
    go_wp2
    go_ret
    exact ⟨by simp [isNd, h], rfl⟩
  · have hd : decide (0 ≤ n) = false := by simpa using h
    go_enter Try.func49, Try.ntmps49
    go_wp2
    go_ret
    refine ⟨?_, rfl⟩
    have h' : ¬ 0 ≤ n := by omega
    simp [isNd, h']
theorem mlNode_b {n : Int} {b : Bool} (h : isNd n = b) (w : World) : Calls Try.prog 49 #[.int .i64 n] w fun e w' => e = .returned (.bool b) ∧ w = w' := by
  subst h
  exact (mlNode_c n w).mono fun _ _ h => ⟨h.1, h.2.symm⟩
theorem way_i0 (x y : Int) (w : World) : (Instr.index 81 (.agg #[.int .i64 x, .int .i64 y]) (.int .i64 0)).run Try.prog w = .ok (.int .i64 x) w := by kernel_rfl
theorem way_i1 (x y : Int) (w : World) : (Instr.index 81 (.agg #[.int .i64 x, .int .i64 y]) (.int .i64 1)).run Try.prog w = .ok (.int .i64 y) w := by kernel_rfl
set_option maxHeartbeats 4000000 in
theorem checkWay_c (f d : Int) (w : World) : Calls Try.prog 34 #[.agg #[.int .i64 f, .int .i64 d]] w fun e w' => e = .returned (eV (endsE f d)) ∧ Below w.heap.size w w' := by
  obtain ⟨a, HA⟩ : ∃ a, Hid (isNd f = a) := ⟨_, rfl⟩
  obtain ⟨b, HB⟩ : ∃ b, Hid (isNd d = b) := ⟨_, rfl⟩
  obtain ⟨m, HM⟩ : ∃ m, Hid (endsE f d = m) := ⟨_, rfl⟩
  have HM' : Hid (endsE f d = m) := HM
  have i0 := way_i0 f d
  have i1 := way_i1 f d
  rw [HM.out]
  unfold Hid endsE at HM'
  rw [HA.out, HB.out] at HM'
  cases a
  · have HE : Hid (m = 1) := by show m = 1; rw [← HM']; simp
    clear HM'
    rw [HE.out, eV, if_neg (by omega)]
    go_enter Try.func34, Try.ntmps34
    go_wp2_with fail
    refine wp_loop_rounds 3 ?_
    rw [rounds_succ]
    go_wp2_with fail
    refine (mlNode_b HA.out _).mono ?_
    rintro e w1 ⟨rfl, rfl⟩
    go_wp2_with fail
    go_ret
    exact ⟨rfl, by go_grown⟩
  · cases b
    · have HE : Hid (m = 1) := by show m = 1; rw [← HM']; simp
      clear HM'
      rw [HE.out, eV, if_neg (by omega)]
      go_enter Try.func34, Try.ntmps34
      go_wp2_with fail
      refine wp_loop_rounds 3 ?_
      rw [rounds_succ]
      go_wp2_with fail
      refine (mlNode_b HA.out _).mono ?_
      rintro e w1 ⟨rfl, rfl⟩
      go_wp2_with fail
      rw [rounds_succ]
      go_wp2_with fail
      refine (mlNode_b HB.out _).mono ?_
      rintro e w1 ⟨rfl, rfl⟩
      go_wp2_with fail
      go_ret
      exact ⟨rfl, by go_grown⟩
    · by_cases hfd : f = d
      · have HE : Hid (m = 3) := by show m = 3; rw [← HM', if_pos hfd]; rfl
        have hb : (f == d) = true := by simp [hfd]
        clear HM' hfd
        rw [HE.out, eV, if_neg (by omega)]
        go_enter Try.func34, Try.ntmps34
        go_wp2_with fail
        refine wp_loop_rounds 3 ?_
        rw [rounds_succ]
        go_wp2_with fail
        refine (mlNode_b HA.out _).mono ?_
        rintro e w1 ⟨rfl, rfl⟩
        go_wp2_with fail
        rw [rounds_succ]
        go_wp2_with fail
        refine (mlNode_b HB.out _).mono ?_
        rintro e w1 ⟨rfl, rfl⟩
        go_wp2_with fail
        rw [rounds_succ]
        go_wp2_with fail
        go_ret
        exact ⟨rfl, by go_grown⟩
      · have HE : Hid (m = 0) := by show m = 0; rw [← HM', if_neg hfd]; rfl
        have hb : (f == d) = false := by simp [hfd]
        clear HM' hfd
        rw [HE.out, eV, if_pos rfl]
        go_enter Try.func34, Try.ntmps34
        go_wp2_with fail
        refine wp_loop_rounds 3 ?_
        rw [rounds_succ]
        go_wp2_with fail
        refine (mlNode_b HA.out _).mono ?_
        rintro e w1 ⟨rfl, rfl⟩
        go_wp2_with fail
        rw [rounds_succ]
        go_wp2_with fail
        refine (mlNode_b HB.out _).mono ?_
        rintro e w1 ⟨rfl, rfl⟩
        go_wp2_with fail
        rw [rounds_succ]
        go_wp2_with fail
        go_ret
        exact ⟨rfl, by go_grown⟩
theorem mlNew_c (w : World) : Calls Try.prog 7 #[] w fun e w' => ∃ b, e = .returned (.pointer (some ⟨b, 0, none⟩)) ∧ (∃ S, MlAt S w' b [] (fun _ _ => false) ∧ ∀ c, S c → w.heap.size ≤ c) ∧ Below w.heap.size w w' := by
  have HM : Hid (∃ S, MlAt S ((w.alloc (.map #[] 0)).alloc (.cells #[.slice none 0 0, .map (some w.heap.size)] 74)) (w.heap.size + 1) [] (fun _ _ => false) ∧ ∀ c, S c → w.heap.size ≤ c) := by
    refine ⟨fun c => c = w.heap.size ∨ c = w.heap.size + 1, ⟨w.heap.size, .slice none 0 0, ?_⟩, fun c hc => by rcases hc with h | h <;> omega⟩
    have hsz : (w.alloc (.map #[] 0)).heap.size = w.heap.size + 1 := by simp
    refine ⟨?_, ?_, ?_, OwnL.nil _, ⟨0, fun _ => none, (MapAt.made _ _ w).of_block ?_, fun _ _ _ _ => rfl⟩, by simp [Value.ownBlock], by simp [Value.ownBlock], by omega, .inr rfl, .inl rfl, fun c hc => by simp [Value.ownBlock] at hc, fun c hc => ?_⟩
    · rw [← hsz]; simp
    · rw [← hsz]; simp
    · intro j; rw [← hsz]; simp
    · exact Below.heap_alloc _ _ _ (by rw [hsz]; omega)
    · simp
      rcases hc with h | h <;> omega
  have hmm := @run_makeMap Try.prog
  go_enter Try.func7, Try.ntmps7
  go_wp2
  go_ret
  exact ⟨_, rfl, HM.out, by go_grown⟩
theorem mlHas_c {w : World} {b n : Nat} {p : Option Addr} {cap : Nat} (i : Int) (h : w.cell? ⟨b, 0, none⟩ = some (.slice p n cap)) :
    Calls Try.prog 37 #[.pointer (some ⟨b, 0, none⟩), .int .i64 i] w fun e w' => e = .returned (.bool (decide (0 ≤ i) && decide (i < n))) ∧ w' = w := by
  by_cases hi : 0 ≤ i
  · have hd : decide (0 ≤ i) = true := by simpa using hi
    go_enter Try.func37, Try.ntmps37
    go_wp2
    go_ret
    exact ⟨by simp [hi], rfl⟩
  · have hd : decide (0 ≤ i) = false := by simpa using hi
    go_enter Try.func37, Try.ntmps37
    go_wp2
    go_ret
    have h' : ¬ 0 ≤ i := by omega
    exact ⟨by simp [h'], rfl⟩
theorem mlHas_b {w : World} {b n : Nat} {p : Option Addr} {cap : Nat} {i : Int} {c : Bool} (h : w.cell? ⟨b, 0, none⟩ = some (.slice p n cap)) (hc : (decide (0 ≤ i) && decide (i < n)) = c) :
    Calls Try.prog 37 #[.pointer (some ⟨b, 0, none⟩), .int .i64 i] w fun e w' => e = .returned (.bool c) ∧ w = w' := by
  subst hc
  exact (mlHas_c i h).mono fun _ _ h => ⟨h.1, h.2.symm⟩
theorem mlFull_b {w : World} {b n : Nat} {p : Option Addr} {cap : Nat} {c : Bool} (h : w.cell? ⟨b, 0, none⟩ = some (.slice p n cap)) (hc : decide (40 ≤ n) = c) :
    Calls Try.prog 36 #[.pointer (some ⟨b, 0, none⟩)] w fun e w' => e = .returned (.bool c) ∧ w = w' := by
  subst hc
  go_enter Try.func36, Try.ntmps36
  go_wp2
  go_ret
  have : decide ((40 : Int) ≤ (n : Int)) = decide (40 ≤ n) := by simp; omega
  exact ⟨by rw [← this]; rfl, rfl⟩
theorem OwnL.slice {w : World} {v : Value} {l : List Lt} (h : OwnL w v l) : ∃ p cap, v = .slice p l.length cap := by
  obtain ⟨_, p, cap, rfl, _⟩ := h.lts
  exact ⟨p, cap, rfl⟩
end Go.Proofs.Ytbincnajklmnaaa
