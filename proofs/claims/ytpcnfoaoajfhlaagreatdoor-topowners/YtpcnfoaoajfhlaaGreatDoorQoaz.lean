/-
  Package hash by its contracts: Text, Two, Entry.
  The number of two numbers, in a form that can be reckoned; of one node no two points are the same.
-/
import Derived.Test.YtpcnfoaoajfhlaaGreatDoorQoax
import Derived.Test.YtpcnfoaoajfhlaaGreatDoorQoay
import Derived.Test.YtpcnfoaoajfhlaaGreatDoorQoaa
namespace Go.Proofs.YtpcnfoaoajfhlaaGreatDoor
set_option linter.unusedVariables false
set_option linter.unusedSimpArgs false
set_option linter.unusedVariables false
set_option linter.unusedSimpArgs false
open Go.RowKit

/-- the stroke between -/
def slS : ByteArray := ⟨#[47]⟩
/-- two numbers as a text -/
def str2 (a b : Nat) : ByteArray := digS a ++ slS ++ digS b
/-- three numbers as a text -/
def str3 (a b c : Nat) : ByteArray := digS a ++ slS ++ digS b ++ slS ++ digS c
theorem wr_two (a b : Nat) : (⟨(wrP [(a : Int), (b : Int)] 2).toArray⟩ : ByteArray) = str2 a b := by
  apply ByteArray.ext
  have e : wrP [(a : Int), (b : Int)] 2 = Lib.decDigits a ++ [47] ++ Lib.decDigits b := by
    simp [wrP, Lib.itoa_nonneg]
  rw [e, str2, ByteArray.data_append, ByteArray.data_append]
  simp [digS, slS]
theorem wr_three (a b c : Nat) : (⟨(wrP [(a : Int), (b : Int), (c : Int)] 3).toArray⟩ : ByteArray) = str3 a b c := by
  apply ByteArray.ext
  have e : wrP [(a : Int), (b : Int), (c : Int)] 3 = Lib.decDigits a ++ [47] ++ Lib.decDigits b ++ [47] ++ Lib.decDigits c := by
    simp [wrP, Lib.itoa_nonneg]
  rw [e, str3, ByteArray.data_append, ByteArray.data_append, ByteArray.data_append, ByteArray.data_append]
  simp [digS, slS]
theorem str2_size (a b : Nat) (ha : a ≤ 9223372036854775807) (hb : b ≤ 9223372036854775807) : (str2 a b).size ≤ 39 := by
  have h1 := digS_size a ha
  have h2 := digS_size b hb
  rw [str2, ByteArray.size_append, ByteArray.size_append, show slS.size = 1 from rfl]
  omega
theorem str3_size (a b c : Nat) (ha : a ≤ 9223372036854775807) (hb : b ≤ 9223372036854775807) (hc : c ≤ 9223372036854775807) : (str3 a b c).size ≤ 59 := by
  have h1 := digS_size a ha
  have h2 := digS_size b hb
  have h3 := digS_size c hc
  rw [str3, ByteArray.size_append, ByteArray.size_append, ByteArray.size_append, ByteArray.size_append, show slS.size = 1 from rfl]
  omega

theorem nums_two (w : World) (a b : Int) : NumsAt (w.alloc (.cells #[.int .i64 a, .int .i64 b] 3)) (.slice (some ⟨w.heap.size, 0, none⟩) 2 2) [a, b] := by
  refine ⟨w.heap.size, 0, rfl, by simp, fun j h => ?_⟩
  match j, h with
  | 0, _ => simp
  | 1, _ => simp
theorem nums_three (w : World) (a b c : Int) : NumsAt (w.alloc (.cells #[.int .i64 a, .int .i64 b, .int .i64 c] 3)) (.slice (some ⟨w.heap.size, 0, none⟩) 3 3) [a, b, c] := by
  refine ⟨w.heap.size, 0, rfl, by simp, fun j h => ?_⟩
  match j, h with
  | 0, _ => simp
  | 1, _ => simp
  | 2, _ => simp


/-- is it a number of the hash? -/
def isN (n : Int) : Bool := decide (0 ≤ n) && decide (n ≤ 4294967295)
theorem isNumber_c (n : Int) (w : World) (b : Bool) (hb : isN n = b) : Calls Tryz.prog 144 #[.int .i64 n] w fun e w' => e = .returned (.bool b) ∧ w' = w := by
  subst hb
  by_cases h0 : 0 ≤ n
  · by_cases h1 : n ≤ 4294967295
    · have e : isN n = true := by simp [isN, h0, h1]
      rw [e]
      go_enter Tryz.func144, Tryz.ntmps144
      go_wp2_with fail
      go_ret
      exact ⟨rfl, rfl⟩
    · have e : isN n = false := by simp [isN, h1]
      rw [e]
      go_enter Tryz.func144, Tryz.ntmps144
      go_wp2_with fail
      go_ret
      exact ⟨rfl, rfl⟩
  · have e : isN n = false := by simp [isN, h0]
    rw [e]
    go_enter Tryz.func144, Tryz.ntmps144
    go_wp2_with fail
    go_ret
    exact ⟨rfl, rfl⟩

set_option maxHeartbeats 4000000 in
theorem two_bad (a b : Int) (w : World) (h : (isN a && isN b) = false) :
    Calls Tryz.prog 104 #[.int .i64 a, .int .i64 b] w fun e w' => e = .returned (.tuple #[.int .i64 0, .iface 85 (.int .i64 1)]) ∧ w' = w := by
  cases ha : isN a with
  | false =>
    have HA : Hid (isN a = false) := ha
    clear ha h
    go_enter Tryz.func104, Tryz.ntmps104
    go_wp2_with (go_at_call 144; refine (isNumber_c a _ false HA.out).mono ?_; rintro e w1 ⟨rfl, rfl⟩)
    go_ret2
    exact ⟨rfl, rfl⟩
  | true =>
    have HA : Hid (isN a = true) := ha
    have HB : Hid (isN b = false) := by
      show _ = _
      simpa [ha] using h
    clear ha h
    go_enter Tryz.func104, Tryz.ntmps104
    go_wp2_with fail
    refine (isNumber_c a _ true HA.out).mono ?_
    rintro e w1 ⟨rfl, rfl⟩
    go_wp2_with fail
    refine (isNumber_c b _ false HB.out).mono ?_
    rintro e w1 ⟨rfl, rfl⟩
    go_wp2_with fail
    go_ret2
    exact ⟨rfl, rfl⟩
set_option maxHeartbeats 4000000 in
theorem two_ok (a b : Nat) (w : World) (ha : a ≤ 4294967295) (hb : b ≤ 4294967295) (hT : Lib.TabIs Tryz.prog w powName .u64 Lib.pow10Tab) :
    Calls Tryz.prog 104 #[.int .i64 (a : Nat), .int .i64 (b : Nat)] w fun e w' => e = .returned (.tuple #[.int .i64 (hashL (byN (str2 a b)) : Nat), .nilIface]) ∧ Below w.heap.size w w' := by
  have HA : Hid (isN (a : Int) = true) := by
    show _ = _
    simp only [isN, Bool.and_eq_true, decide_eq_true_eq]
    omega
  have HB : Hid (isN (b : Int) = true) := by
    show _ = _
    simp only [isN, Bool.and_eq_true, decide_eq_true_eq]
    omega
  have HT : Hid (Lib.TabBelow Tryz.prog w.heap.size w powName .u64 Lib.pow10Tab) := Lib.tabBelow_of_tabIs hT
  clear hT
  have hsz := str2_size a b (by omega) (by omega)
  have HW := wr_two a b
  obtain ⟨S, HS⟩ : ∃ S, Hid (str2 a b = S) := ⟨_, rfl⟩
  rw [HS.out] at hsz HW ⊢
  have HW' : Hid ((⟨(wrP [(a : Int), (b : Int)] 2).toArray⟩ : ByteArray) = S) := HW
  clear HW
  go_enter Tryz.func104, Tryz.ntmps104
  go_wp2_with fail
  refine (isNumber_c (a : Int) _ true HA.out).mono ?_
  rintro e w1 ⟨rfl, rfl⟩
  go_wp2_with fail
  refine (isNumber_c (b : Int) _ true HB.out).mono ?_
  rintro e w1 ⟨rfl, rfl⟩
  go_wp2_with fail
  have hnx : Below w1.heap.size w1 (w1.alloc (.cells #[.int .i64 a, .int .i64 b] 3)) := by go_grown
  refine (written_c _ [(a : Int), (b : Int)] _ (by simp) (by simp) (fun x hx => by simp at hx; omega) (nums_two w1 a b) (HT.out _ hnx)).mono ?_
  rintro e w2 ⟨rfl, hb2⟩
  have HB2 : Hid (Below w1.heap.size w1 w2) := hnx.trans (hb2.mono (by simp))
  clear hb2 hnx
  have e2 : (⟨(wrP [(a : Int), (b : Int)] [(a : Int), (b : Int)].length).toArray⟩ : ByteArray) = S := HW'.out
  simp only [e2]
  clear e2
  go_wp2_with (go_at_call 145; refine (number_c S _ (by omega)).mono ?_; rintro e w3 ⟨rfl, rfl⟩)
  go_ret2
  exact ⟨rfl, HB2.out⟩
end Go.Proofs.YtpcnfoaoajfhlaaGreatDoor

namespace Go.Proofs.YtpcnfoaoajfhlaaGreatDoor
set_option linter.unusedVariables false
set_option linter.unusedSimpArgs false
open Go.RowKit

/-- decimal digits, n steps at most -/
def digF : Nat → Nat → List Nat
  | 0, u => [48 + u]
  | n + 1, u => if u < 10 then [48 + u] else digF n (u / 10) ++ [48 + u % 10]
theorem u8_dig {x : Nat} (h : x < 10) : (UInt8.ofNat (48 + x)).toNat = 48 + x := by
  rw [UInt8.toNat_ofNat']
  omega
theorem digF_eq : ∀ n u, u ≤ n → digF n u = (Lib.decDigits u).map UInt8.toNat := by
  intro n
  induction n with
  | zero =>
    intro u h
    obtain rfl : u = 0 := by omega
    rw [Lib.decDigits_one (by omega), List.map_singleton, u8_dig (by omega)]
    rfl
  | succ n ih =>
    intro u h
    rw [digF]
    split
    · rename_i h10
      rw [Lib.decDigits_one h10, List.map_singleton, u8_dig h10]
    · rename_i h10
      have e : Lib.decDigits u = Lib.decDigits (u / 10) ++ [UInt8.ofNat (48 + u % 10)] := by rw [Lib.decDigits, dif_neg h10]
      rw [ih (u / 10) (by omega), e, List.map_append, List.map_singleton, u8_dig (Nat.mod_lt _ (by omega))]
theorem byN_dig (u : Nat) : byN (digS u) = digF u u := by
  rw [digF_eq u u (Nat.le_refl _)]
  rfl
theorem byN_append (a b : ByteArray) : byN (a ++ b) = byN a ++ byN b := by simp [byN, ByteArray.data_append]
/-- the number of two numbers -/
def pairH (a b : Nat) : Nat := hashL (byN (str2 a b))
def pairF (a b : Nat) : Nat := hashL (digF a a ++ [47] ++ digF b b)
theorem pairH_eq : pairH = pairF := by
  funext a b
  rw [pairH, pairF, str2, byN_append, byN_append, byN_dig, byN_dig]
  rfl
theorem pairH_lt (a b : Nat) : pairH a b < 4294967296 := hashL_lt _
/-- of one node no two numbers are at the same place -/
theorem pairF_unlike : ∀ n, n < 6 → ∀ i, i < 8 → ∀ j, j < 8 → pairF n i % 256 = pairF n j % 256 → i = j := by decide +kernel
theorem pairH_unlike {n i j : Nat} (hn : n < 6) (hi : i < 8) (hj : j < 8) (h : pairH n i % 256 = pairH n j % 256) : i = j := by
  rw [pairH_eq] at h
  exact pairF_unlike n hn i hi j hj h
end Go.Proofs.YtpcnfoaoajfhlaaGreatDoor
