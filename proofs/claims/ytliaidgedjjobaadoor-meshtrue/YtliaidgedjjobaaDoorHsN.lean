/-
  Package hash by its contracts: the number of a text.
-/
import Derived.Test.YtliaidgedjjobaaDoorHsP
import Derived.BigRegion
import Derived.BigQuiet
namespace Go.Proofs.YtliaidgedjjobaaDoor
set_option linter.unusedVariables false
set_option linter.unusedSimpArgs false
open Go.RowKit

/-- a text's bytes as numbers -/
def byN (s : ByteArray) : List Nat := s.data.toList.map UInt8.toNat
theorem byN_len (s : ByteArray) : (byN s).length = s.size := by
  rw [byN, List.length_map, Array.length_toList]
  rfl

theorem xor_u32 (a b : Nat) (ha : a < 4294967296) (hb : b < 4294967296) : bits .xor .u32 (a : Int) (b : Int) = ((a ^^^ b : Nat) : Int) := by
  have hx : a ^^^ b < 4294967296 := Nat.xor_lt_two_pow (n := 32) ha hb
  have e : ∀ x : Nat, x < 4294967296 → (BitVec.ofInt 32 (x : Int)).toNat = x := fun x h => by
    rw [BitVec.ofInt_natCast, BitVec.toNat_ofNat]
    exact Nat.mod_eq_of_lt h
  show IntKind.u32.wrap ((BitVec.ofInt 32 (a : Int) ^^^ BitVec.ofInt 32 (b : Int)).toNat : Int) = _
  rw [BitVec.toNat_xor, e a ha, e b hb]
  have hw : ∀ n : Int, IntKind.u32.wrap n = n % 4294967296 := fun n => by simp [IntKind.wrap, IntKind.bits, IntKind.signed]
  rw [hw]
  omega
/-- a step, as the program makes it -/
theorem step_u32 (m c : Nat) (hm : m < 4294967296) (hc : c < 256) : bits BinOp.xor IntKind.u32 (m : Int) ((c : Int) % 4294967296) * 16777619 % 4294967296 = (stepH m c : Nat) := by
  rw [show ((c : Int) % 4294967296) = (c : Int) by omega, xor_u32 m c hm (by omega)]
  obtain ⟨x, hx⟩ : ∃ x, x = m ^^^ c := ⟨_, rfl⟩
  have e : stepH m c = (x * 16777619) % 4294967296 := by rw [hx, stepH]
  rw [e, ← hx]
  omega
/-- one byte more of a text -/
theorem hash_take (s : ByteArray) (j : Nat) (h : j < s.size) : hashL ((byN s).take (j + 1)) = stepH (hashL ((byN s).take j)) s[j].toNat := by
  have hl : j < (byN s).length := by rw [byN_len]; exact h
  have e : (byN s)[j] = s[j].toNat := by simp [byN]; rfl
  rw [List.take_succ_eq_append_getElem hl, hashL_more, e]
theorem hash_all (s : ByteArray) (j : Nat) (h : ¬ j < s.size) : hashL ((byN s).take j) = hashL (byN s) := by
  rw [List.take_of_length_le (by rw [byN_len]; omega)]

set_option maxHeartbeats 4000000 in
theorem number_c (s : ByteArray) (w : World) (hs : s.size ≤ 9223372036854775807) :
    Calls Tryd.prog 112 #[.string s] w fun e w' => e = .returned (.int .i64 (hashL (byN s) : Nat)) ∧ w' = w := by
  obtain ⟨R, HR⟩ : ∃ R : Nat, Hid (hashL (byN s) = R) := ⟨_, rfl⟩
  rw [HR.out]
  go_enter Tryd.func112, Tryd.ntmps112
  go_wp2_with fail
  go_loopw [3, 7] (fun x i wr => ∃ (j : Nat) (m : Nat), j ≤ s.size ∧ i = .int .i64 j ∧ x = .int .u32 m ∧ m < 4294967296 ∧ wr = w ∧ Hid (m = hashL ((byN s).take j))) (fun _ i _ => s.size - (intOf i).toNat)
  case atStart => exact ⟨0, 2166136261, Nat.zero_le _, rfl, rfl, by omega, rfl, by rw [List.take_zero]; rfl⟩
  case round =>
    obtain ⟨j, m, hj, rfl, rfl, hm, rfl, HE⟩ := hrel
    by_cases hlt : j < s.size
    · go_wp2_with fail
      go_roundw
      case rel =>
        refine ⟨j + 1, stepH m s[j].toNat, by omega, by go_num, ?_, stepH_lt _ _, trivial, ?_⟩
        · rw [step_u32 m s[j].toNat hm (UInt8.toNat_lt _)]
        · show _ = _
          rw [hash_take s j hlt, ← HE.out]
      case measure => simp [intOf]; omega
    · go_wp2_with fail
      go_ret
      have e : m = R := by rw [HE.out, hash_all s j hlt]; exact HR.out
      exact ⟨by rw [← e]; rfl, rfl⟩
end Go.Proofs.YtliaidgedjjobaaDoor
