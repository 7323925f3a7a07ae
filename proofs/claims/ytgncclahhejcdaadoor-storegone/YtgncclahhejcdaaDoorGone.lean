/-
  Proved here: the call of merelaw4.StoreGone returns true for every key and every text, and the text reads afterwards as it did: of a new store nothing is there, nothing can be deleted, and of version 0 any text of at most 12 bytes can be swapped in. Condition: package errors' variable errorType is as the program's text lays it (the card ties it).
-/
import Derived.Test.YtgncclahhejcdaaDoorStF
import Derived.Test.YtgncclahhejcdaaDoorCards
import Derived.Test.YtgncclahhejcdaaDoorTie
namespace Go.Proofs.YtgncclahhejcdaaDoor.storeGone
set_option linter.unusedVariables false
set_option linter.unusedSimpArgs false
open Go.RowKit

theorem none_last (k : Int) : lastOf [] k = none0 := rfl
theorem read0_no (k : Int) (h : isK k = false) : readO [] k = (Ent.zero, 1) := by simp [readO, atO, h]
theorem read0_yes (k : Int) (h : isK k = true) : readO [] k = (⟨k, 0, 0, true, ByteArray.empty⟩, 0) := by simp [readO, atO, h, entAt, none_last, none0]
theorem del0_no (k : Int) (h : isK k = false) : delO [] k = ⟨[], 0, 1⟩ := by simp [delO, h]
theorem del0_yes (k : Int) (h : isK k = true) : delO [] k = ⟨[], 0, 5⟩ := by simp [delO, h, none_last, none0]
theorem swap0_long (k : Int) (t : ByteArray) (h : isK k = true) (ht : 12 < t.size) : swapO [] k 0 t = ⟨[], 0, 4⟩ := by simp [swapO, h, ht]
theorem swap0_ok (k : Int) (t : ByteArray) (h : isK k = true) (ht : ¬ 12 < t.size) : swapO [] k 0 t = ⟨[⟨k, false, t⟩], 1, 0⟩ := by simp [swapO, h, ht, none_last, none0, recO]

theorem read_no (b : Nat) (k : Int) (F : Nat → Prop) (w : World) (hk : isK k = false) (h : StoreIs w b [] F) :
    Calls Tryd.prog 8 #[.pointer (some ⟨b, 0, none⟩), .int .i64 k] w fun e w' => e = .returned (.tuple #[.agg #[.int .i64 0, .int .i64 0, .int .i64 0, .bool false, .string ⟨#[]⟩], .iface 67 (.int .i64 1)]) ∧ Below w.heap.size w w' := by
  refine (read_c b k [] F w h).mono ?_
  rw [read0_no k hk]
  exact fun _ _ h => h
theorem read_yes (b : Nat) (k : Int) (F : Nat → Prop) (w : World) (hk : isK k = true) (h : StoreIs w b [] F) :
    Calls Tryd.prog 8 #[.pointer (some ⟨b, 0, none⟩), .int .i64 k] w fun e w' => e = .returned (.tuple #[.agg #[.int .i64 k, .int .i64 0, .int .i64 0, .bool true, .string ⟨#[]⟩], .nilIface]) ∧ Below w.heap.size w w' := by
  refine (read_c b k [] F w h).mono ?_
  rw [read0_yes k hk]
  exact fun _ _ h => h
theorem delete_as (b : Nat) (k n : Int) (F : Nat → Prop) (w : World) (ev : Value) (hd : delO [] k = ⟨[], 0, n⟩) (hv : errV n = ev) (h : StoreIs w b [] F) :
    Calls Tryd.prog 9 #[.pointer (some ⟨b, 0, none⟩), .int .i64 k] w fun e w' => e = .returned (.tuple #[.int .i64 0, ev]) ∧ ∃ F', StoreIs w' b [] F' ∧ (∀ c, F' c → F c ∨ w.heap.size ≤ c) ∧ Kept F w w' := by
  refine (delete_c b k [] F w h).mono ?_
  rw [hd]
  rintro e w' ⟨rfl, F', h1, h2, h3⟩
  exact ⟨by rw [hv], F', h1, h2, h3⟩
theorem swap_as (b : Nat) (k m n : Int) (t : ByteArray) (l : List Deed) (F : Nat → Prop) (w : World) (ev : Value) (ht : t.size ≤ maxLen) (hd : swapO [] k 0 t = ⟨l, m, n⟩) (hv : errV n = ev) (h : StoreIs w b [] F) :
    Calls Tryd.prog 11 #[.pointer (some ⟨b, 0, none⟩), .int .i64 k, .int .i64 0, .string t] w fun e w' => e = .returned (.tuple #[.int .i64 m, ev]) ∧ ∃ F', StoreIs w' b l F' ∧ (∀ c, F' c → F c ∨ w.heap.size ≤ c) ∧ Kept F w w' := by
  refine (swap_c b k 0 t [] F w ht h).mono ?_
  rw [hd]
  rintro e w' ⟨rfl, F', h1, h2, h3⟩
  exact ⟨by rw [hv], F', h1, h2, h3⟩

set_option maxHeartbeats 1000000 in
theorem walk_no (k : Int) (t : ByteArray) (w : World) (hg : HasErr w) (hk : isK k = false) :
    Calls Tryd.prog 3 #[.int .i64 k, .string t] w fun e w' => e = .returned (.bool true) ∧ Below w.heap.size w w' := by
  have hkk : k < 0 ∨ 7 < k := by
    have := isK_iff k
    rw [hk] at this
    simp at this
    omega
  have HK : Hid (isK k = false) := hk
  have HG : Hid (HasErr w) := hg
  have hlt := hg.lt
  clear hk hg
  have two : ∀ d : Bool, decide (k < 0) = d → Calls Tryd.prog 3 #[.int .i64 k, .string t] w fun e w' => e = .returned (.bool true) ∧ Below w.heap.size w w' := by
    intro d hd
    have h7 : d = false → decide (7 < k) = true := by
      intro h; subst h; simp at hd ⊢; omega
    cases d
    all_goals
      try have h7' := h7 rfl
      clear h7 hkk
      go_enter Tryd.func3, Tryd.ntmps3
      go_wp2_with (first | (go_at_call 7; refine (new_c _).mono ?_; rintro e w' ⟨rfl, rfl⟩))
      refine (read_no _ k _ _ HK.out (new_is w)).mono ?_
      rintro e w1 ⟨rfl, hb1⟩
      have S1 : Hid (StoreIs w1 w.heap.size [] (fun c => c = w.heap.size)) := (new_is w).below hb1
      have B1 : Hid (Below w.heap.size w w1) := ((Below.refl _ _).alloc (Nat.le_refl _) _).trans (hb1.mono (by simp))
      clear hb1
      go_wp2_with fail
      refine (delete_as _ k 1 (fun c => c = w.heap.size) _ (.iface 67 (.int .i64 1)) (del0_no k HK.out) rfl (S1.out.below ((Below.refl _ _).alloc (Nat.le_refl _) _))).mono ?_
      rintro e w2 ⟨rfl, F2, S2, f2, k2⟩
      have B2 : Hid (Below w.heap.size w w2) := (B1.out.alloc B1.out.size _).trans (k2.below (by have := B1.out.size; simp; omega) (fun c hc => by omega))
      clear S2 f2 k2
      go_wp2_with (first | (go_at_call 10; refine (error_err 1 1 _ (HG.out.below hlt B2.out)).mono ?_; rintro e w3 ⟨rfl, hb3⟩))
      go_ret
      exact ⟨rfl, B2.out.trans (hb3.mono B2.out.size)⟩
  exact two _ rfl

set_option maxHeartbeats 1000000 in
theorem walk_long (k : Int) (t : ByteArray) (w : World) (hg : HasErr w) (hk : isK k = true) (hm : t.size ≤ maxLen) (ht : 12 < t.size) :
    Calls Tryd.prog 3 #[.int .i64 k, .string t] w fun e w' => e = .returned (.bool true) ∧ Below w.heap.size w w' := by
  have HK : Hid (isK k = true) := hk
  have HG : Hid (HasErr w) := hg
  have hlt := hg.lt
  have HM : Hid (t.size ≤ maxLen) := hm
  unfold maxLen at hm
  have ht' : (12 : Int) < (t.size : Int) := by omega
  have HT : Hid (swapO [] k 0 t = ⟨[], 0, 4⟩) := swap0_long k t hk ht
  clear hk hg
  go_enter Tryd.func3, Tryd.ntmps3
  go_wp2_with (first | (go_at_call 7; refine (new_c _).mono ?_; rintro e w' ⟨rfl, rfl⟩))
  refine (read_yes _ k _ _ HK.out (new_is w)).mono ?_
  rintro e w1 ⟨rfl, hb1⟩
  have S1 : Hid (StoreIs w1 w.heap.size [] (fun c => c = w.heap.size)) := (new_is w).below hb1
  have B1 : Hid (Below w.heap.size w w1) := ((Below.refl _ _).alloc (Nat.le_refl _) _).trans (hb1.mono (by simp))
  clear hb1
  go_wp2_with fail
  refine (delete_as _ k 5 (fun c => c = w.heap.size) _ (.iface 67 (.int .i64 5)) (del0_yes k HK.out) rfl (S1.out.below ((Below.refl _ _).alloc (Nat.le_refl _) _))).mono ?_
  rintro e w2 ⟨rfl, F2, S2', f2, k2⟩
  have B2 : Hid (Below w.heap.size w w2) := (B1.out.alloc B1.out.size _).trans (k2.below (by have := B1.out.size; simp; omega) (fun c hc => by omega))
  have F2B : Hid (∀ c, F2 c → w.heap.size ≤ c) := fun c hc => (f2 c hc).elim (fun h => by omega) (fun h => Nat.le_trans (by have := B1.out.size; simp; omega) h)
  have S2 : Hid (StoreIs w2 w.heap.size [] F2) := S2'
  clear S2' f2 k2
  go_wp2_with fail
  refine (swap_as _ k 0 4 t [] F2 _ (.iface 67 (.int .i64 4)) HM.out HT.out rfl S2.out).mono ?_
  rintro e w3 ⟨rfl, F3, S3', f3, k3⟩
  have B3 : Hid (Below w.heap.size w w3) := B2.out.trans (k3.below B2.out.size F2B.out)
  have S3 : Hid (StoreIs w3 w.heap.size [] F3) := S3'
  clear S3' f3 k3
  go_wp2_with (first | (go_at_call 10; refine (error_err 4 4 _ (HG.out.below hlt B3.out)).mono ?_; rintro e w4 ⟨rfl, hb4⟩) | (go_at_call 12; refine (seq_c _ [] _ _ (S3.out.below hb4)).mono ?_; rintro e w5 ⟨rfl, rfl⟩))
  go_ret
  exact ⟨rfl, B3.out.trans (hb4.mono B3.out.size)⟩

set_option maxHeartbeats 1000000 in
theorem walk_ok (k : Int) (t : ByteArray) (w : World) (hg : HasErr w) (hk : isK k = true) (hm : t.size ≤ maxLen) (ht : ¬ 12 < t.size) :
    Calls Tryd.prog 3 #[.int .i64 k, .string t] w fun e w' => e = .returned (.bool true) ∧ Below w.heap.size w w' := by
  have HK : Hid (isK k = true) := hk
  have HG : Hid (HasErr w) := hg
  have hlt := hg.lt
  have HM : Hid (t.size ≤ maxLen) := hm
  unfold maxLen at hm
  have ht' : ¬ (12 : Int) < (t.size : Int) := by omega
  have HT : Hid (swapO [] k 0 t = ⟨[⟨k, false, t⟩], 1, 0⟩) := swap0_ok k t hk ht
  clear hk hg
  go_enter Tryd.func3, Tryd.ntmps3
  go_wp2_with (first | (go_at_call 7; refine (new_c _).mono ?_; rintro e w' ⟨rfl, rfl⟩))
  refine (read_yes _ k _ _ HK.out (new_is w)).mono ?_
  rintro e w1 ⟨rfl, hb1⟩
  have S1 : Hid (StoreIs w1 w.heap.size [] (fun c => c = w.heap.size)) := (new_is w).below hb1
  have B1 : Hid (Below w.heap.size w w1) := ((Below.refl _ _).alloc (Nat.le_refl _) _).trans (hb1.mono (by simp))
  have hz : w.heap.size < w1.heap.size := by have := hb1.size; simp at this; omega
  clear hb1
  go_wp2_with fail
  refine (delete_as _ k 5 (fun c => c = w.heap.size) _ (.iface 67 (.int .i64 5)) (del0_yes k HK.out) rfl (S1.out.below ((Below.refl _ _).alloc (Nat.le_refl _) _))).mono ?_
  rintro e w2 ⟨rfl, F2, S2', f2, k2⟩
  have B2 : Hid (Below w.heap.size w w2) := (B1.out.alloc B1.out.size _).trans (k2.below (by have := B1.out.size; simp; omega) (fun c hc => by omega))
  have F2B : Hid (∀ c, F2 c → w.heap.size ≤ c) := fun c hc => (f2 c hc).elim (fun h => by omega) (fun h => Nat.le_trans (by have := B1.out.size; simp; omega) h)
  have nF : Hid (¬ F2 w1.heap.size) := fun hc => (f2 _ hc).elim (fun h => by omega) (fun h => by simp at h; omega)
  have S2 : Hid (StoreIs w2 w.heap.size [] F2) := S2'
  have lt2 : Hid (w1.heap.size < w2.heap.size) := by have := k2.size; simp at this; unfold Hid; omega
  have g0 : Hid (∀ j, w2.cell? ⟨w1.heap.size, j, none⟩ = (w1.alloc _).cell? ⟨w1.heap.size, j, none⟩) := fun j => k2.cell ⟨w1.heap.size, j, none⟩ (by simp) (by simp; omega)
  clear S2' f2 k2
  go_wp2_with fail
  refine (swap_as _ k 1 0 t [⟨k, false, t⟩] F2 _ .nilIface HM.out HT.out rfl S2.out).mono ?_
  rintro e w3 ⟨rfl, F3, S3', f3, k3⟩
  have B3 : Hid (Below w.heap.size w w3) := B2.out.trans (k3.below B2.out.size F2B.out)
  have S3 : Hid (StoreIs w3 w.heap.size [⟨k, false, t⟩] F3) := S3'
  have q : ∀ j, w3.cell? ⟨w1.heap.size, j, none⟩ = (w1.alloc _).cell? ⟨w1.heap.size, j, none⟩ := fun j => (k3.cell ⟨w1.heap.size, j, none⟩ lt2.out nF.out).trans (g0.out j)
  have q1 : w3.cell? ⟨w1.heap.size, 1, none⟩ = some (.int .i64 0) := (q 1).trans (by simp)
  have q2 : w3.cell? ⟨w1.heap.size, 2, none⟩ = some (.int .i64 0) := (q 2).trans (by simp)
  have q3 : w3.cell? ⟨w1.heap.size, 3, none⟩ = some (.bool true) := (q 3).trans (by simp)
  have q4 : w3.cell? ⟨w1.heap.size, 4, none⟩ = some (.string ⟨#[]⟩) := (q 4).trans (by simp)
  clear S3' f3 k3 q
  go_wp2_with (first | (go_at_call 10; refine (error_err 5 5 _ (HG.out.below hlt B3.out)).mono ?_; rintro e w4 ⟨rfl, hb4⟩) | (go_at_call 12; refine (seq_c _ [⟨k, false, t⟩] _ _ (S3.out.below hb4)).mono ?_; rintro e w5 ⟨rfl, rfl⟩))
  go_ret
  exact ⟨rfl, B3.out.trans (hb4.mono B3.out.size)⟩
end Go.Proofs.YtgncclahhejcdaaDoor.storeGone
