/-
  Package hash by its contracts: Text, Two, Entry.
-/
import Derived.Test.YtliaidgedjjobaaDoorWr
import Derived.Test.YtliaidgedjjobaaDoorRfD
import Derived.Test.YtliaidgedjjobaaDoorEn2
namespace Go.Proofs.YtliaidgedjjobaaDoor
set_option linter.unusedVariables false
set_option linter.unusedSimpArgs false
open Go.RowKit

/-- the stroke between -/
def slS : ByteArray := ⟨#[47]⟩
/-- two numbers as a text -/
def str2 (a b : Nat) : ByteArray := digS a ++ slS ++ digS b
/-- three numbers as a text -/
def str3 (a b c : Nat) : ByteArray := digS a ++ slS ++ digS b ++ slS ++ digS c
theorem wr_two (a b : Nat) : (⟨(wrP [(a : Int), (b : Int)] 2).toArray⟩ : ByteArray) = str2 a b := by
  apply ByteArray.ext
  have e : wrP [(a : Int), (b : Int)] 2 = Lib.decDigits a ++ [47] ++ Lib.decDigits b := by
    simp [wrP, Lib.itoa_nonneg]
  rw [e, str2, ByteArray.data_append, ByteArray.data_append]
  simp [digS, slS]
theorem wr_three (a b c : Nat) : (⟨(wrP [(a : Int), (b : Int), (c : Int)] 3).toArray⟩ : ByteArray) = str3 a b c := by
  apply ByteArray.ext
  have e : wrP [(a : Int), (b : Int), (c : Int)] 3 = Lib.decDigits a ++ [47] ++ Lib.decDigits b ++ [47] ++ Lib.decDigits c := by
    simp [wrP, Lib.itoa_nonneg]
  rw [e, str3, ByteArray.data_append, ByteArray.data_append, ByteArray.data_append, ByteArray.data_append]
  simp [digS, slS]
theorem str2_size (a b : Nat) (ha : a ≤ 9223372036854775807) (hb : b ≤ 9223372036854775807) : (str2 a b).size ≤ 39 := by
  have h1 := digS_size a ha
  have h2 := digS_size b hb
  rw [str2, ByteArray.size_append, ByteArray.size_append, show slS.size = 1 from rfl]
  omega
theorem str3_size (a b c : Nat) (ha : a ≤ 9223372036854775807) (hb : b ≤ 9223372036854775807) (hc : c ≤ 9223372036854775807) : (str3 a b c).size ≤ 59 := by
  have h1 := digS_size a ha
  have h2 := digS_size b hb
  have h3 := digS_size c hc
  rw [str3, ByteArray.size_append, ByteArray.size_append, ByteArray.size_append, ByteArray.size_append, show slS.size = 1 from rfl]
  omega

theorem nums_two (w : World) (a b : Int) : NumsAt (w.alloc (.cells #[.int .i64 a, .int .i64 b] 3)) (.slice (some ⟨w.heap.size, 0, none⟩) 2 2) [a, b] := by
  refine ⟨w.heap.size, 0, rfl, by simp, fun j h => ?_⟩
  match j, h with
  | 0, _ => simp
  | 1, _ => simp
theorem nums_three (w : World) (a b c : Int) : NumsAt (w.alloc (.cells #[.int .i64 a, .int .i64 b, .int .i64 c] 3)) (.slice (some ⟨w.heap.size, 0, none⟩) 3 3) [a, b, c] := by
  refine ⟨w.heap.size, 0, rfl, by simp, fun j h => ?_⟩
  match j, h with
  | 0, _ => simp
  | 1, _ => simp
  | 2, _ => simp


/-- is it a number of the hash? -/
def isN (n : Int) : Bool := decide (0 ≤ n) && decide (n ≤ 4294967295)
theorem isNumber_c (n : Int) (w : World) (b : Bool) (hb : isN n = b) : Calls Tryd.prog 114 #[.int .i64 n] w fun e w' => e = .returned (.bool b) ∧ w' = w := by
  subst hb
  by_cases h0 : 0 ≤ n
  · by_cases h1 : n ≤ 4294967295
    · have e : isN n = true := by simp [isN, h0, h1]
      rw [e]
      go_enter Tryd.func114, Tryd.ntmps114
      go_wp2_with fail
      go_ret
      exact ⟨rfl, rfl⟩
    · have e : isN n = false := by simp [isN, h1]
      rw [e]
      go_enter Tryd.func114, Tryd.ntmps114
      go_wp2_with fail
      go_ret
      exact ⟨rfl, rfl⟩
  · have e : isN n = false := by simp [isN, h0]
    rw [e]
    go_enter Tryd.func114, Tryd.ntmps114
    go_wp2_with fail
    go_ret
    exact ⟨rfl, rfl⟩

set_option maxHeartbeats 4000000 in
theorem two_bad (a b : Int) (w : World) (h : (isN a && isN b) = false) :
    Calls Tryd.prog 99 #[.int .i64 a, .int .i64 b] w fun e w' => e = .returned (.tuple #[.int .i64 0, .iface 83 (.int .i64 1)]) ∧ w' = w := by
  cases ha : isN a with
  | false =>
    have HA : Hid (isN a = false) := ha
    clear ha h
    go_enter Tryd.func99, Tryd.ntmps99
    go_wp2_with (go_at_call 114; refine (isNumber_c a _ false HA.out).mono ?_; rintro e w1 ⟨rfl, rfl⟩)
    go_ret2
    exact ⟨rfl, rfl⟩
  | true =>
    have HA : Hid (isN a = true) := ha
    have HB : Hid (isN b = false) := by
      show _ = _
      simpa [ha] using h
    clear ha h
    go_enter Tryd.func99, Tryd.ntmps99
    go_wp2_with fail
    refine (isNumber_c a _ true HA.out).mono ?_
    rintro e w1 ⟨rfl, rfl⟩
    go_wp2_with fail
    refine (isNumber_c b _ false HB.out).mono ?_
    rintro e w1 ⟨rfl, rfl⟩
    go_wp2_with fail
    go_ret2
    exact ⟨rfl, rfl⟩
set_option maxHeartbeats 4000000 in
theorem two_ok (a b : Nat) (w : World) (ha : a ≤ 4294967295) (hb : b ≤ 4294967295) (hT : Lib.TabIs Tryd.prog w powName .u64 Lib.pow10Tab) :
    Calls Tryd.prog 99 #[.int .i64 (a : Nat), .int .i64 (b : Nat)] w fun e w' => e = .returned (.tuple #[.int .i64 (hashL (byN (str2 a b)) : Nat), .nilIface]) ∧ Below w.heap.size w w' := by
  have HA : Hid (isN (a : Int) = true) := by
    show _ = _
    simp only [isN, Bool.and_eq_true, decide_eq_true_eq]
    omega
  have HB : Hid (isN (b : Int) = true) := by
    show _ = _
    simp only [isN, Bool.and_eq_true, decide_eq_true_eq]
    omega
  have HT : Hid (Lib.TabBelow Tryd.prog w.heap.size w powName .u64 Lib.pow10Tab) := Lib.tabBelow_of_tabIs hT
  clear hT
  have hsz := str2_size a b (by omega) (by omega)
  have HW := wr_two a b
  obtain ⟨S, HS⟩ : ∃ S, Hid (str2 a b = S) := ⟨_, rfl⟩
  rw [HS.out] at hsz HW ⊢
  have HW' : Hid ((⟨(wrP [(a : Int), (b : Int)] 2).toArray⟩ : ByteArray) = S) := HW
  clear HW
  go_enter Tryd.func99, Tryd.ntmps99
  go_wp2_with fail
  refine (isNumber_c (a : Int) _ true HA.out).mono ?_
  rintro e w1 ⟨rfl, rfl⟩
  go_wp2_with fail
  refine (isNumber_c (b : Int) _ true HB.out).mono ?_
  rintro e w1 ⟨rfl, rfl⟩
  go_wp2_with fail
  have hnx : Below w1.heap.size w1 (w1.alloc (.cells #[.int .i64 a, .int .i64 b] 3)) := by go_grown
  refine (written_c _ [(a : Int), (b : Int)] _ (by simp) (by simp) (fun x hx => by simp at hx; omega) (nums_two w1 a b) (HT.out _ hnx)).mono ?_
  rintro e w2 ⟨rfl, hb2⟩
  have HB2 : Hid (Below w1.heap.size w1 w2) := hnx.trans (hb2.mono (by simp))
  clear hb2 hnx
  have e2 : (⟨(wrP [(a : Int), (b : Int)] [(a : Int), (b : Int)].length).toArray⟩ : ByteArray) = S := HW'.out
  simp only [e2]
  clear e2
  go_wp2_with (go_at_call 112; refine (number_c S _ (by omega)).mono ?_; rintro e w3 ⟨rfl, rfl⟩)
  go_ret2
  exact ⟨rfl, HB2.out⟩
end Go.Proofs.YtliaidgedjjobaaDoor
