/-
  The document's digits, by their contract: they are the library's.
-/
import Derived.Test.YtpcnfoaoajfhlaaGreatDoorQoac
import Derived.Lib.ItoaNum
import Derived.Lib.ItoaLen
namespace Go.Proofs.YtpcnfoaoajfhlaaGreatDoor
set_option linter.unusedVariables false
set_option linter.unusedSimpArgs false
set_option linter.unusedVariables false
set_option linter.unusedSimpArgs false
open Go.RowKit

/-- digits as a text -/
def digS (u : Nat) : ByteArray := ⟨(Lib.decDigits u).toArray⟩
theorem nDigits_le (u : Nat) : ∀ k, u < 10 ^ (k + 1) → Lib.nDigits u ≤ k + 1 := by
  intro k
  induction k generalizing u with
  | zero => intro h; rw [Lib.nDigits, dif_pos (by omega)]; exact Nat.le_refl _
  | succ k ih =>
    intro h
    rw [Lib.nDigits]
    split
    · omega
    · have := ih (u / 10) (by rw [Nat.pow_succ] at h; omega)
      omega

theorem one_dig : ∀ k : Fin 10, (⟨#[48, 49, 50, 51, 52, 53, 54, 55, 56, 57]⟩ : ByteArray).extract k.val (k.val + 1) = ⟨#[UInt8.ofNat (48 + k.val)]⟩ := by decide
theorem digS_one {u : Nat} (h : u < 10) : digS u = ⟨#[UInt8.ofNat (48 + u)]⟩ := by rw [digS, Lib.decDigits_one h]
theorem digS_more {u : Nat} (h : ¬ u < 10) : digS u = digS (u / 10) ++ digS (u % 10) := by
  have e : Lib.decDigits u = Lib.decDigits (u / 10) ++ Lib.decDigits (u % 10) := by
    rw [Lib.decDigits, dif_neg h, Lib.decDigits_one (Nat.mod_lt _ (by omega))]
  rw [digS, e]
  apply ByteArray.ext
  rw [ByteArray.data_append]
  simp [digS]
theorem digS_size (u : Nat) (h : u ≤ 9223372036854775807) : (digS u).size ≤ 19 := by
  show (Lib.decDigits u).toArray.size ≤ 19
  rw [List.size_toArray, Lib.decDigits_length]
  exact nDigits_le u 18 (by omega)
theorem slice_dig (k : Nat) (h : k < 10) (w : World) : (Instr.slice 9 (Value.string ⟨#[48, 49, 50, 51, 52, 53, 54, 55, 56, 57]⟩) (some (Value.int IntKind.i64 (k : Int))) (some (Value.int IntKind.i64 ((k : Int) + 1))) none).run Tryz.prog w = .ok (.string (digS k)) w := by
  have hsz : ((⟨#[48, 49, 50, 51, 52, 53, 54, 55, 56, 57]⟩ : ByteArray).size : Int) = 10 := rfl
  have := run_slice_string (P := Tryz.prog) w 9 ⟨#[48, 49, 50, 51, 52, 53, 54, 55, 56, 57]⟩ .i64 .i64 (k : Int) ((k : Int) + 1) Tryz.underlying9 (by omega) (by omega) (by rw [hsz]; omega)
  rw [this]
  have e1 : ((k : Int)).toNat = k := by omega
  have e2 : ((k : Int) + 1).toNat = k + 1 := by omega
  rw [e1, e2, one_dig ⟨k, h⟩, digS_one h]

set_option maxHeartbeats 4000000 in
set_option maxRecDepth 100000 in
theorem digits_c (u : Nat) : u ≤ 9223372036854775807 → ∀ (w : World),
    Calls Tryz.prog 87 #[.int .i64 (u : Nat)] w fun e w' => e = .returned (.string (digS u)) ∧ w' = w := by
  induction u using Nat.strongRecOn with
  | _ u ih =>
  intro hu w
  by_cases h10 : u < 10
  · have hsl := slice_dig u h10 w
    go_enter Tryz.func87, Tryz.ntmps87
    go_wp2_with fail
    go_ret
    exact ⟨rfl, rfl⟩
  · have E := digS_more h10
    obtain ⟨k, hk⟩ : ∃ k, k = u % 10 := ⟨_, rfl⟩
    have hk10 : k < 10 := by omega
    have hki : (u : Int) % 10 = (k : Int) := by omega
    rw [← hk] at E
    have hsl := slice_dig k hk10 w
    have HE : Hid (digS u = digS (u / 10) ++ digS k) := E
    clear E hk
    go_enter Tryz.func87, Tryz.ntmps87
    go_wp2_with fail
    have hq : (u : Int) / 10 = ((u / 10 : Nat) : Int) := by omega
    rw [hq]
    refine (ih (u / 10) (by omega) (by omega) w).mono ?_
    rintro e w1 ⟨rfl, rfl⟩
    obtain ⟨d, HD⟩ : ∃ d, Hid (digS (u / 10) = d) := ⟨_, show digS (u / 10) = digS (u / 10) from rfl⟩
    rw [HD.out] at HE
    have hsd : d.size ≤ 19 := by rw [← HD.out]; exact digS_size _ (by omega)
    have hsk : (digS k).size ≤ 19 := digS_size _ (by omega)
    have hsum : ¬ d.size + (digS k).size > 9223372036854775807 := by omega
    simp only [HD.out]
    go_wp2_with fail
    go_ret
    exact ⟨by rw [HE.out]; rfl, rfl⟩
end Go.Proofs.YtpcnfoaoajfhlaaGreatDoor
