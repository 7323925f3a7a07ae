/-
  The document's number of two numbers, by its contract.
-/
import Derived.Test.YtlpfdmmilbdcbaeDoorRfH
import Derived.Test.YtlpfdmmilbdcbaeDoorHsT
namespace Go.Proofs.YtlpfdmmilbdcbaeDoor
set_option linter.unusedVariables false
set_option linter.unusedSimpArgs false
open Go.RowKit

set_option maxHeartbeats 4000000 in
theorem rPair_c (a b : Nat) (ha : a ≤ 9223372036854775807) (hb : b ≤ 9223372036854775807) (w : World) :
    Calls Tryd.prog 32 #[.int .i64 (a : Nat), .int .i64 (b : Nat)] w fun e w' => e = .returned (.int .i64 (hashL (byN (str2 a b)) : Nat)) ∧ Below w.heap.size w w' := by
  have hsa := digS_size a ha
  have hsb := digS_size b hb
  have HE : str2 a b = digS a ++ ⟨#[47]⟩ ++ digS b := rfl
  have hz1 : (⟨#[47]⟩ : ByteArray).size = 1 := rfl
  have HS3 : Hid ((digS a ++ ⟨#[47]⟩ ++ digS b).size ≤ 9223372036854775807) := by
    show _ ≤ _
    rw [ByteArray.size_append, ByteArray.size_append, hz1]
    omega
  clear hz1
  rw [HE]
  clear HE
  have HA : Hid (a ≤ 9223372036854775807) := ha
  have HB : Hid (b ≤ 9223372036854775807) := hb
  obtain ⟨x, HX⟩ : ∃ x, Hid (digS a = x) := ⟨_, rfl⟩
  obtain ⟨y, HY⟩ : ∃ y, Hid (digS b = y) := ⟨_, rfl⟩
  have HDa : Hid (∀ w, Calls Tryd.prog 47 #[.int .i64 (a : Nat)] w fun e w' => e = .returned (.string x) ∧ w' = w) := by
    rw [← HX.out]
    exact digits_c a ha
  have HDb : Hid (∀ w, Calls Tryd.prog 47 #[.int .i64 (b : Nat)] w fun e w' => e = .returned (.string y) ∧ w' = w) := by
    rw [← HY.out]
    exact digits_c b hb
  rw [HX.out] at hsa
  rw [HY.out] at hsb
  rw [HX.out, HY.out] at HS3 ⊢
  have hs1 : ¬ 9223372036854775807 < x.size + 1 := by omega
  have hs2 : ¬ 9223372036854775807 < x.size + 1 + y.size := by omega
  go_enter Tryd.func32, Tryd.ntmps32
  go_wp2_with fail
  refine (HDa.out _).mono ?_
  rintro e w1 ⟨rfl, rfl⟩
  go_wp2_with fail
  refine (HDb.out _).mono ?_
  rintro e w1 ⟨rfl, rfl⟩
  go_wp2_with fail
  refine (rHash_c _ _ HS3.out).mono ?_
  rintro e w2 ⟨rfl, hb2⟩
  have HB2 := hb2
  go_wp2_with fail
  go_ret
  exact ⟨rfl, HB2⟩

end Go.Proofs.YtlpfdmmilbdcbaeDoor
