/-
  The document's number of a text, by its contract.
  The document's number of an entry and of two numbers, by their contracts.
-/
import Derived.Test.YtpcnfoaoajfhlaaGreatDoorMqav
import Derived.Test.YtpcnfoaoajfhlaaGreatDoorMqax
namespace Go.Proofs.YtpcnfoaoajfhlaaGreatDoor
set_option linter.unusedVariables false
set_option linter.unusedSimpArgs false
set_option linter.unusedVariables false
set_option linter.unusedSimpArgs false
open Go.RowKit

theorem bit_i (q P : Nat) (hq : q < 256) : (wrap64 ((q : Int) / (P : Int))).tmod 2 = ((q / P % 2 : Nat) : Int) := by
  have h1 : q / P ≤ q := Nat.div_le_self _ _
  have e : (q : Int) / (P : Int) = ((q / P : Nat) : Int) := rfl
  rw [e]
  obtain ⟨y, hy⟩ : ∃ y, y = q / P := ⟨_, rfl⟩
  rw [← hy] at h1 ⊢
  have e2 : wrap64 (y : Int) = (y : Int) := by unfold wrap64; omega
  rw [e2]
  rfl
theorem bits_next {q c t X P : Nat} (ht : t < 8) (h : P = 2 ^ t ∧ X = bitsX q c t) : 2 * P = 2 ^ (t + 1) ∧ 2 * P ≤ 256 ∧ X < P ∧ bitsX q c (t + 1) = X + (if q / P % 2 ≠ c / P % 2 then P else 0) := by
  obtain ⟨rfl, rfl⟩ := h
  have h1 : 2 * 2 ^ t = 2 ^ (t + 1) := by rw [Nat.pow_succ, Nat.mul_comm]
  refine ⟨h1, ?_, ?_, rfl⟩
  · rw [h1]
    exact Nat.pow_le_pow_right (n := 2) (i := t + 1) (j := 8) (by omega) (by omega)
  · rw [bitsX_mod]
    exact Nat.mod_lt _ (Nat.two_pow_pos t)
theorem ref_step {m q c t X P : Nat} (hq : m % 256 = q) (hc : c < 256) (ht : t = 8) (h : P = 2 ^ t ∧ X = bitsX q c t) : ((m : Int) - q + X) * 16777619 % 4294967296 = ((stepH m c : Nat) : Int) := by
  subst ht
  subst hq
  have h1 := low_xor (n := m) hc
  have h2 := h.2
  rw [← h2] at h1
  obtain ⟨x, hx⟩ : ∃ x, x = m ^^^ c := ⟨_, rfl⟩
  have e : stepH m c = (x * 16777619) % 4294967296 := by rw [hx, stepH]
  rw [← hx] at h1
  rw [e]
  have h3 : m % 256 ≤ m := Nat.mod_le _ _
  have e2 : (m : Int) - ((m % 256 : Nat) : Int) + (X : Int) = (x : Int) := by omega
  rw [e2]
  omega

set_option maxHeartbeats 4000000 in
theorem rHash_c (s : ByteArray) (w : World) (hs : s.size ≤ 9223372036854775807) :
    Calls Tryz.prog 176 #[.string s] w fun e w' => e = .returned (.int .i64 (hashL (byN s) : Nat)) ∧ Below w.heap.size w w' := by
  obtain ⟨R, HR⟩ : ∃ R : Nat, Hid (hashL (byN s) = R) := ⟨_, rfl⟩
  rw [HR.out]
  go_enter Tryz.func176, Tryz.ntmps176
  go_wp2_with fail
  go_loopw [3, 4] (fun x i wr => ∃ (j : Nat) (m : Nat), j ≤ s.size ∧ i = .int .i64 j ∧ x = .int .i64 m ∧ m < 4294967296 ∧ Hid (m = hashL ((byN s).take j)) ∧ Hid (Below w.heap.size w wr)) (fun _ i _ => s.size - (intOf i).toNat)
  case atStart => exact ⟨0, 2166136261, Nat.zero_le _, rfl, rfl, by omega, by rw [List.take_zero]; rfl, Below.refl _ _⟩
  case round =>
    obtain ⟨j, m, hj, rfl, rfl, hm, HE, HB⟩ := hrel
    by_cases hlt : j < s.size
    · have hc0 : s[j].toNat < 256 := UInt8.toNat_lt _
      go_upto_region 6 with fail
      obtain ⟨c, HC⟩ : ∃ c : Nat, Hid (s[j].toNat = c) := ⟨s[j].toNat, show s[j].toNat = s[j].toNat from rfl⟩
      rw [HC.out] at hc0
      simp only [HC.out]
      obtain ⟨q, HQ⟩ : ∃ q : Nat, Hid (m % 256 = q) := ⟨_, show m % 256 = m % 256 from rfl⟩
      have hq : q < 256 := by rw [← HQ.out]; exact Nat.mod_lt _ (by omega)
      have hmq : (m : Int) % 256 = (q : Int) := by have := HQ.out; omega
      go_wp2_with fail
      go_loopw [7, 8, 9] (fun x p k wi => ∃ t X P : Nat, t ≤ 8 ∧ k = .int .i64 t ∧ p = .int .i64 P ∧ x = .int .i64 X ∧ 1 ≤ P ∧ P ≤ 256 ∧ X ≤ 256 ∧ Hid (P = 2 ^ t ∧ X = bitsX q c t) ∧ Hid (Below w.heap.size w wi)) (fun _ _ k _ => 8 - (intOf k).toNat)
      case atStart => exact ⟨0, 0, 1, by omega, rfl, rfl, rfl, by omega, by omega, by omega, ⟨rfl, rfl⟩, HB.out⟩
      case round =>
        obtain ⟨t, X, P, ht, rfl, rfl, rfl, hP, hP2, hX, HX, HBi⟩ := hrel
        by_cases hlt8 : t < 8
        · obtain ⟨hn1, hn2, hn3, hn4⟩ := bits_next hlt8 HX.out
          have HN1 := (show Hid (2 * P = 2 ^ (t + 1)) from hn1)
          have HN4 := (show Hid (bitsX q c (t + 1) = X + (if q / P % 2 ≠ c / P % 2 then P else 0)) from hn4)
          clear hn1 hn4
          by_cases hbit : q / P % 2 = c / P % 2
          · have hb0 : ((wrap64 ((q : Int) / (P : Int))).tmod 2 != (wrap64 ((c : Int) / (P : Int))).tmod 2) = false := by
              rw [bit_i q P hq, bit_i c P hc0, hbit]
              simp
            have HBit : Hid (q / P % 2 = c / P % 2) := hbit
            clear hbit
            go_upto_region 12 with fail
            go_quiet (fail)
            go_wp2_with fail
            go_roundw
            case rel => exact ⟨t + 1, X, 2 * P, by omega, by go_num, by go_num, rfl, by omega, hn2, by omega, ⟨HN1.out, by rw [HN4.out, if_neg (fun h => h HBit.out)]; rfl⟩, HBi.out.trans ⟨rfl, rfl, rfl, Nat.le_refl _, fun _ _ => rfl⟩⟩
            case measure => simp [intOf]; omega
          · have hb0 : ((wrap64 ((q : Int) / (P : Int))).tmod 2 != (wrap64 ((c : Int) / (P : Int))).tmod 2) = true := by
              rw [bit_i q P hq, bit_i c P hc0]
              simp only [bne_iff_ne, ne_eq]
              omega
            have HBit : Hid (¬ q / P % 2 = c / P % 2) := hbit
            clear hbit
            go_upto_region 12 with fail
            go_quiet (fail)
            go_wp2_with fail
            go_roundw
            case rel => exact ⟨t + 1, X + P, 2 * P, by omega, by go_num, by go_num, by go_num, by omega, hn2, by omega, ⟨HN1.out, by rw [HN4.out, if_pos HBit.out]⟩, HBi.out.trans ⟨rfl, rfl, rfl, Nat.le_refl _, fun _ _ => rfl⟩⟩
            case measure => simp [intOf]; omega
        · have HT : Hid (t = 8) := by
            show t = 8
            omega
          have HS : Hid (((m : Int) - q + X) * 16777619 % 4294967296 = ((stepH m c : Nat) : Int)) := ref_step HQ.out hc0 HT.out HX.out
          go_wp2_with fail
          refine ⟨⟨j + 1, stepH m c, by omega, by go_num, ?_, stepH_lt _ _, ?_, HBi.out⟩, ?_⟩
          · rw [HS.out]
          · show _ = _
            rw [hash_take s j hlt, ← HE.out, HC.out]
          · simp [intOf]; omega
    · go_wp2_with fail
      go_ret
      have e : m = R := by rw [HE.out, hash_all s j hlt]; exact HR.out
      exact ⟨by rw [← e]; rfl, HB.out⟩
end Go.Proofs.YtpcnfoaoajfhlaaGreatDoor

namespace Go.Proofs.YtpcnfoaoajfhlaaGreatDoor
set_option linter.unusedVariables false
set_option linter.unusedSimpArgs false
open Go.RowKit

set_option maxHeartbeats 4000000 in
theorem rPair_c (a b : Nat) (ha : a ≤ 9223372036854775807) (hb : b ≤ 9223372036854775807) (w : World) :
    Calls Tryz.prog 133 #[.int .i64 (a : Nat), .int .i64 (b : Nat)] w fun e w' => e = .returned (.int .i64 (hashL (byN (str2 a b)) : Nat)) ∧ Below w.heap.size w w' := by
  have hsa := digS_size a ha
  have hsb := digS_size b hb
  have HE : str2 a b = digS a ++ ⟨#[47]⟩ ++ digS b := rfl
  have hz1 : (⟨#[47]⟩ : ByteArray).size = 1 := rfl
  have HS3 : Hid ((digS a ++ ⟨#[47]⟩ ++ digS b).size ≤ 9223372036854775807) := by
    show _ ≤ _
    rw [ByteArray.size_append, ByteArray.size_append, hz1]
    omega
  clear hz1
  rw [HE]
  clear HE
  have HA : Hid (a ≤ 9223372036854775807) := ha
  have HB : Hid (b ≤ 9223372036854775807) := hb
  obtain ⟨x, HX⟩ : ∃ x, Hid (digS a = x) := ⟨_, rfl⟩
  obtain ⟨y, HY⟩ : ∃ y, Hid (digS b = y) := ⟨_, rfl⟩
  have HDa : Hid (∀ w, Calls Tryz.prog 87 #[.int .i64 (a : Nat)] w fun e w' => e = .returned (.string x) ∧ w' = w) := by
    rw [← HX.out]
    exact digits_c a ha
  have HDb : Hid (∀ w, Calls Tryz.prog 87 #[.int .i64 (b : Nat)] w fun e w' => e = .returned (.string y) ∧ w' = w) := by
    rw [← HY.out]
    exact digits_c b hb
  rw [HX.out] at hsa
  rw [HY.out] at hsb
  rw [HX.out, HY.out] at HS3 ⊢
  have hs1 : ¬ 9223372036854775807 < x.size + 1 := by omega
  have hs2 : ¬ 9223372036854775807 < x.size + 1 + y.size := by omega
  go_enter Tryz.func133, Tryz.ntmps133
  go_wp2_with fail
  refine (HDa.out _).mono ?_
  rintro e w1 ⟨rfl, rfl⟩
  go_wp2_with fail
  refine (HDb.out _).mono ?_
  rintro e w1 ⟨rfl, rfl⟩
  go_wp2_with fail
  refine (rHash_c _ _ HS3.out).mono ?_
  rintro e w2 ⟨rfl, hb2⟩
  have HB2 := hb2
  go_wp2_with fail
  go_ret
  exact ⟨rfl, HB2⟩

set_option maxHeartbeats 4000000 in
theorem rOne_c (k v : Nat) (a : Int) (g : Bool) (t : ByteArray) (hk : k ≤ 1000) (hv : v ≤ 1000) (ht : t.size ≤ 12) (w : World) :
    Calls Tryz.prog 180 #[.agg #[.int .i64 (k : Nat), .int .i64 (v : Nat), .int .i64 a, .bool g, .string t]] w fun e w' => e = .returned (.int .i64 (hashL (byN (strE k v g t)) : Nat)) ∧ Below w.heap.size w w' := by
  have hsk := digS_size k (by omega)
  have hsv := digS_size v (by omega)
  obtain ⟨x, HX⟩ : ∃ x, Hid (digS k = x) := ⟨_, rfl⟩
  obtain ⟨y, HY⟩ : ∃ y, Hid (digS v = y) := ⟨_, rfl⟩
  have HDk : Hid (∀ w, Calls Tryz.prog 87 #[.int .i64 (k : Nat)] w fun e w' => e = .returned (.string x) ∧ w' = w) := by
    rw [← HX.out]
    exact digits_c k (by omega)
  have HDv : Hid (∀ w, Calls Tryz.prog 87 #[.int .i64 (v : Nat)] w fun e w' => e = .returned (.string y) ∧ w' = w) := by
    rw [← HY.out]
    exact digits_c v (by omega)
  rw [HX.out] at hsk
  rw [HY.out] at hsv
  have hs1 : ¬ 9223372036854775807 < x.size + 1 := by omega
  have hs2 : ¬ 9223372036854775807 < x.size + 1 + y.size := by omega
  have hs3 : ¬ 9223372036854775807 < x.size + 1 + y.size + 1 := by omega
  have hs4 : ¬ 9223372036854775807 < x.size + 1 + y.size + 1 + 1 := by omega
  have hs5 : ¬ 9223372036854775807 < x.size + 1 + y.size + 1 + 1 + 1 := by omega
  have hs6 : ¬ 9223372036854775807 < x.size + 1 + y.size + 1 + 1 + 1 + t.size := by omega
  cases g with
  | false =>
    have hsz := str3_size k v 0 (by omega) (by omega) (by omega)
    have HE0 : strE k v false t = digS k ++ ⟨#[47]⟩ ++ digS v ++ ⟨#[47]⟩ ++ ⟨#[48]⟩ ++ ⟨#[47]⟩ ++ t := by
      rw [show strE k v false t = digS k ++ ⟨#[47]⟩ ++ digS v ++ ⟨#[47]⟩ ++ digS 0 ++ ⟨#[47]⟩ ++ t from rfl, digS_one (u := 0) (by omega)]
      rfl
    have HS3 : Hid ((digS k ++ ⟨#[47]⟩ ++ digS v ++ ⟨#[47]⟩ ++ ⟨#[48]⟩ ++ ⟨#[47]⟩ ++ t).size ≤ 9223372036854775807) := by
      show _ ≤ _
      rw [← HE0, show strE k v false t = str3 k v 0 ++ ⟨#[47]⟩ ++ t from rfl, ByteArray.size_append, ByteArray.size_append, show (⟨#[47]⟩ : ByteArray).size = 1 from rfl]
      omega
    rw [HE0]
    clear HE0
    rw [HX.out, HY.out] at HS3 ⊢
    go_enter Tryz.func180, Tryz.ntmps180
    go_upto_region 1 with fail
    obtain ⟨a0, a1, a2, a3, a4, af⟩ := box_new w k v a false t w.heap.size rfl
    go_wp2_with fail
    refine (HDk.out _).mono ?_
    rintro e w1 ⟨rfl, rfl⟩
    go_wp2_with fail
    refine (HDv.out _).mono ?_
    rintro e w1 ⟨rfl, rfl⟩
    go_wp2_with fail
    refine (rHash_c _ _ HS3.out).mono ?_
    rintro e w2 ⟨rfl, hb2⟩
    have HB2 : Hid (Below w.heap.size w w2) := Below.trans (by go_grown) (hb2.mono (by simp))
    clear hb2
    go_wp2_with fail
    go_ret
    exact ⟨rfl, HB2.out⟩
  | true =>
    have hsz := str3_size k v 1 (by omega) (by omega) (by omega)
    have HE0 : strE k v true t = digS k ++ ⟨#[47]⟩ ++ digS v ++ ⟨#[47]⟩ ++ ⟨#[49]⟩ ++ ⟨#[47]⟩ ++ t := by
      rw [show strE k v true t = digS k ++ ⟨#[47]⟩ ++ digS v ++ ⟨#[47]⟩ ++ digS 1 ++ ⟨#[47]⟩ ++ t from rfl, digS_one (u := 1) (by omega)]
      rfl
    have HS3 : Hid ((digS k ++ ⟨#[47]⟩ ++ digS v ++ ⟨#[47]⟩ ++ ⟨#[49]⟩ ++ ⟨#[47]⟩ ++ t).size ≤ 9223372036854775807) := by
      show _ ≤ _
      rw [← HE0, show strE k v true t = str3 k v 1 ++ ⟨#[47]⟩ ++ t from rfl, ByteArray.size_append, ByteArray.size_append, show (⟨#[47]⟩ : ByteArray).size = 1 from rfl]
      omega
    rw [HE0]
    clear HE0
    rw [HX.out, HY.out] at HS3 ⊢
    go_enter Tryz.func180, Tryz.ntmps180
    go_upto_region 1 with fail
    obtain ⟨a0, a1, a2, a3, a4, af⟩ := box_new w k v a true t w.heap.size rfl
    go_wp2_with fail
    refine (HDk.out _).mono ?_
    rintro e w1 ⟨rfl, rfl⟩
    go_wp2_with fail
    refine (HDv.out _).mono ?_
    rintro e w1 ⟨rfl, rfl⟩
    go_wp2_with fail
    refine (rHash_c _ _ HS3.out).mono ?_
    rintro e w2 ⟨rfl, hb2⟩
    have HB2 : Hid (Below w.heap.size w w2) := Below.trans (by go_grown) (hb2.mono (by simp))
    clear hb2
    go_wp2_with fail
    go_ret
    exact ⟨rfl, HB2.out⟩
end Go.Proofs.YtpcnfoaoajfhlaaGreatDoor
