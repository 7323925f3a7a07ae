/-
  The document's number of an entry and of two numbers, by their contracts.
-/
import Derived.Test.YtpfljcacdcpojadDoorRfH
import Derived.Test.YtpfljcacdcpojadDoorHsE
namespace Go.Proofs.YtpfljcacdcpojadDoor
set_option linter.unusedVariables false
set_option linter.unusedSimpArgs false
open Go.RowKit

set_option maxHeartbeats 4000000 in
theorem rPair_c (a b : Nat) (ha : a ≤ 9223372036854775807) (hb : b ≤ 9223372036854775807) (w : World) :
    Calls Tryd.prog 14 #[.int .i64 (a : Nat), .int .i64 (b : Nat)] w fun e w' => e = .returned (.int .i64 (hashL (byN (str2 a b)) : Nat)) ∧ Below w.heap.size w w' := by
  have hsa := digS_size a ha
  have hsb := digS_size b hb
  have HE : str2 a b = digS a ++ ⟨#[47]⟩ ++ digS b := rfl
  have hz1 : (⟨#[47]⟩ : ByteArray).size = 1 := rfl
  have HS3 : Hid ((digS a ++ ⟨#[47]⟩ ++ digS b).size ≤ 9223372036854775807) := by
    show _ ≤ _
    rw [ByteArray.size_append, ByteArray.size_append, hz1]
    omega
  clear hz1
  rw [HE]
  clear HE
  have HA : Hid (a ≤ 9223372036854775807) := ha
  have HB : Hid (b ≤ 9223372036854775807) := hb
  obtain ⟨x, HX⟩ : ∃ x, Hid (digS a = x) := ⟨_, rfl⟩
  obtain ⟨y, HY⟩ : ∃ y, Hid (digS b = y) := ⟨_, rfl⟩
  have HDa : Hid (∀ w, Calls Tryd.prog 28 #[.int .i64 (a : Nat)] w fun e w' => e = .returned (.string x) ∧ w' = w) := by
    rw [← HX.out]
    exact digits_c a ha
  have HDb : Hid (∀ w, Calls Tryd.prog 28 #[.int .i64 (b : Nat)] w fun e w' => e = .returned (.string y) ∧ w' = w) := by
    rw [← HY.out]
    exact digits_c b hb
  rw [HX.out] at hsa
  rw [HY.out] at hsb
  rw [HX.out, HY.out] at HS3 ⊢
  have hs1 : ¬ 9223372036854775807 < x.size + 1 := by omega
  have hs2 : ¬ 9223372036854775807 < x.size + 1 + y.size := by omega
  go_enter Tryd.func14, Tryd.ntmps14
  go_wp2_with fail
  refine (HDa.out _).mono ?_
  rintro e w1 ⟨rfl, rfl⟩
  go_wp2_with fail
  refine (HDb.out _).mono ?_
  rintro e w1 ⟨rfl, rfl⟩
  go_wp2_with fail
  refine (rHash_c _ _ HS3.out).mono ?_
  rintro e w2 ⟨rfl, hb2⟩
  have HB2 := hb2
  go_wp2_with fail
  go_ret
  exact ⟨rfl, HB2⟩

set_option maxHeartbeats 4000000 in
theorem rOne_c (k v : Nat) (a : Int) (g : Bool) (t : ByteArray) (hk : k ≤ 1000) (hv : v ≤ 1000) (ht : t.size ≤ 12) (w : World) :
    Calls Tryd.prog 12 #[.agg #[.int .i64 (k : Nat), .int .i64 (v : Nat), .int .i64 a, .bool g, .string t]] w fun e w' => e = .returned (.int .i64 (hashL (byN (strE k v g t)) : Nat)) ∧ Below w.heap.size w w' := by
  have hsk := digS_size k (by omega)
  have hsv := digS_size v (by omega)
  obtain ⟨x, HX⟩ : ∃ x, Hid (digS k = x) := ⟨_, rfl⟩
  obtain ⟨y, HY⟩ : ∃ y, Hid (digS v = y) := ⟨_, rfl⟩
  have HDk : Hid (∀ w, Calls Tryd.prog 28 #[.int .i64 (k : Nat)] w fun e w' => e = .returned (.string x) ∧ w' = w) := by
    rw [← HX.out]
    exact digits_c k (by omega)
  have HDv : Hid (∀ w, Calls Tryd.prog 28 #[.int .i64 (v : Nat)] w fun e w' => e = .returned (.string y) ∧ w' = w) := by
    rw [← HY.out]
    exact digits_c v (by omega)
  rw [HX.out] at hsk
  rw [HY.out] at hsv
  have hs1 : ¬ 9223372036854775807 < x.size + 1 := by omega
  have hs2 : ¬ 9223372036854775807 < x.size + 1 + y.size := by omega
  have hs3 : ¬ 9223372036854775807 < x.size + 1 + y.size + 1 := by omega
  have hs4 : ¬ 9223372036854775807 < x.size + 1 + y.size + 1 + 1 := by omega
  have hs5 : ¬ 9223372036854775807 < x.size + 1 + y.size + 1 + 1 + 1 := by omega
  have hs6 : ¬ 9223372036854775807 < x.size + 1 + y.size + 1 + 1 + 1 + t.size := by omega
  cases g with
  | false =>
    have hsz := str3_size k v 0 (by omega) (by omega) (by omega)
    have HE0 : strE k v false t = digS k ++ ⟨#[47]⟩ ++ digS v ++ ⟨#[47]⟩ ++ ⟨#[48]⟩ ++ ⟨#[47]⟩ ++ t := by
      rw [show strE k v false t = digS k ++ ⟨#[47]⟩ ++ digS v ++ ⟨#[47]⟩ ++ digS 0 ++ ⟨#[47]⟩ ++ t from rfl, digS_one (u := 0) (by omega)]
      rfl
    have HS3 : Hid ((digS k ++ ⟨#[47]⟩ ++ digS v ++ ⟨#[47]⟩ ++ ⟨#[48]⟩ ++ ⟨#[47]⟩ ++ t).size ≤ 9223372036854775807) := by
      show _ ≤ _
      rw [← HE0, show strE k v false t = str3 k v 0 ++ ⟨#[47]⟩ ++ t from rfl, ByteArray.size_append, ByteArray.size_append, show (⟨#[47]⟩ : ByteArray).size = 1 from rfl]
      omega
    rw [HE0]
    clear HE0
    rw [HX.out, HY.out] at HS3 ⊢
    go_enter Tryd.func12, Tryd.ntmps12
    go_upto_region 1 with fail
    obtain ⟨a0, a1, a2, a3, a4, af⟩ := box_new w k v a false t w.heap.size rfl
    go_wp2_with fail
    refine (HDk.out _).mono ?_
    rintro e w1 ⟨rfl, rfl⟩
    go_wp2_with fail
    refine (HDv.out _).mono ?_
    rintro e w1 ⟨rfl, rfl⟩
    go_wp2_with fail
    refine (rHash_c _ _ HS3.out).mono ?_
    rintro e w2 ⟨rfl, hb2⟩
    have HB2 : Hid (Below w.heap.size w w2) := Below.trans (by go_grown) (hb2.mono (by simp))
    clear hb2
    go_wp2_with fail
    go_ret
    exact ⟨rfl, HB2.out⟩
  | true =>
    have hsz := str3_size k v 1 (by omega) (by omega) (by omega)
    have HE0 : strE k v true t = digS k ++ ⟨#[47]⟩ ++ digS v ++ ⟨#[47]⟩ ++ ⟨#[49]⟩ ++ ⟨#[47]⟩ ++ t := by
      rw [show strE k v true t = digS k ++ ⟨#[47]⟩ ++ digS v ++ ⟨#[47]⟩ ++ digS 1 ++ ⟨#[47]⟩ ++ t from rfl, digS_one (u := 1) (by omega)]
      rfl
    have HS3 : Hid ((digS k ++ ⟨#[47]⟩ ++ digS v ++ ⟨#[47]⟩ ++ ⟨#[49]⟩ ++ ⟨#[47]⟩ ++ t).size ≤ 9223372036854775807) := by
      show _ ≤ _
      rw [← HE0, show strE k v true t = str3 k v 1 ++ ⟨#[47]⟩ ++ t from rfl, ByteArray.size_append, ByteArray.size_append, show (⟨#[47]⟩ : ByteArray).size = 1 from rfl]
      omega
    rw [HE0]
    clear HE0
    rw [HX.out, HY.out] at HS3 ⊢
    go_enter Tryd.func12, Tryd.ntmps12
    go_upto_region 1 with fail
    obtain ⟨a0, a1, a2, a3, a4, af⟩ := box_new w k v a true t w.heap.size rfl
    go_wp2_with fail
    refine (HDk.out _).mono ?_
    rintro e w1 ⟨rfl, rfl⟩
    go_wp2_with fail
    refine (HDv.out _).mono ?_
    rintro e w1 ⟨rfl, rfl⟩
    go_wp2_with fail
    refine (rHash_c _ _ HS3.out).mono ?_
    rintro e w2 ⟨rfl, hb2⟩
    have HB2 : Hid (Below w.heap.size w w2) := Below.trans (by go_grown) (hb2.mono (by simp))
    clear hb2
    go_wp2_with fail
    go_ret
    exact ⟨rfl, HB2.out⟩
end Go.Proofs.YtpfljcacdcpojadDoor
