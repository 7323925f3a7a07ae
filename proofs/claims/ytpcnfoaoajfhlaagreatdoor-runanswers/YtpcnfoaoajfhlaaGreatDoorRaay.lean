/-
  What the document's Add builds, row by row (where a row's append is told elsewhere).
  The document's number of a text, by its contract.
  The document's number of two numbers, by its contract.
  slices.SortFunc at points by its contract, laid at this program (the body of each function and each type's row compared): the row holds the points sorted.
  A row of points of the call's own, sorted and compacted, by the library's contracts.
  Two points compared; slices.Compact at points that rise; meresame.Points, by their contracts.
-/
import Derived.Test.YtpcnfoaoajfhlaaGreatDoorRaax
import Derived.Test.YtpcnfoaoajfhlaaGreatDoorRaag
import Derived.Test.YtpcnfoaoajfhlaaGreatDoorRaap
import Derived.Test.YtpcnfoaoajfhlaaGreatDoorRaan
import Derived.Test.YtpcnfoaoajfhlaaGreatDoorRaao
import Derived.Shelf.SlSortCmp.NoneTotal
import Derived.Test.YtpcnfoaoajfhlaaGreatDoorRaav
import Derived.Test.YtpcnfoaoajfhlaaGreatDoorRaaw
import Derived.Lib.OwnBridge
import Derived.Laws.StructEq
import Derived.BigQuiet
namespace Go.Proofs.YtpcnfoaoajfhlaaGreatDoor
set_option linter.unusedVariables false
set_option linter.unusedSimpArgs false
set_option linter.unusedVariables false
set_option linter.unusedSimpArgs false
open Go.RowKit

/-- what is there behind j entries: m are less, d are left out -/
def outE (l : List En) (m d : Nat) (e : En) (j : Nat) : List En := if j ≤ m then l.take j else l.take m ++ e :: (l.take j).drop (m + d)
theorem outE_zero (l : List En) (m d : Nat) (e : En) : outE l m d e 0 = [] := by simp [outE]
theorem outE_less {l : List En} {m d j : Nat} {e : En} (h : j < m) (hj : j < l.length) : outE l m d e (j + 1) = outE l m d e j ++ [l[j]] := by
  rw [outE, if_pos (by omega), outE, if_pos (by omega), List.take_succ_eq_append_getElem hj]
theorem outE_at0 {l : List En} {m : Nat} {e : En} (hj : m < l.length) : outE l m 0 e (m + 1) = (outE l m 0 e m ++ [e]) ++ [l[m]] := by
  rw [outE, if_neg (by omega), outE, if_pos (by omega), List.take_succ_eq_append_getElem hj, Nat.add_zero, List.drop_append_of_le_length (by simp; omega), List.drop_take]
  simp
theorem outE_at1 {l : List En} {m : Nat} {e : En} (hj : m < l.length) : outE l m 1 e (m + 1) = outE l m 1 e m ++ [e] := by
  rw [outE, if_neg (by omega), outE, if_pos (by omega), List.drop_take]
  simp
theorem outE_more {l : List En} {m d j : Nat} {e : En} (h : m < j) (hd : d ≤ 1) (hj : j < l.length) : outE l m d e (j + 1) = outE l m d e j ++ [l[j]] := by
  rw [outE, if_neg (by omega), outE, if_neg (by omega), List.take_succ_eq_append_getElem hj, List.drop_append_of_le_length (by simp; omega)]
  simp
theorem outE_len {l : List En} {m d j : Nat} {e : En} (h8 : l.length ≤ 8) : (outE l m d e j).length ≤ 20 := by
  unfold outE
  split
  · simp; omega
  · simp; omega
theorem outE_end {l : List En} {m d : Nat} {e : En} (hm : m < l.length) : outE l m d e l.length = l.take m ++ e :: l.drop (m + d) := by
  rw [outE, if_neg (by omega), List.take_length]
theorem outE_all {l : List En} {m d : Nat} {e : En} (hm : m = l.length) : outE l m d e l.length = l := by
  rw [outE, if_pos (by omega), List.take_length]
end Go.Proofs.YtpcnfoaoajfhlaaGreatDoor

namespace Go.Proofs.YtpcnfoaoajfhlaaGreatDoor
set_option linter.unusedVariables false
set_option linter.unusedSimpArgs false
open Go.RowKit

theorem bit_i (q P : Nat) (hq : q < 256) : (wrap64 ((q : Int) / (P : Int))).tmod 2 = ((q / P % 2 : Nat) : Int) := by
  have h1 : q / P ≤ q := Nat.div_le_self _ _
  have e : (q : Int) / (P : Int) = ((q / P : Nat) : Int) := rfl
  rw [e]
  obtain ⟨y, hy⟩ : ∃ y, y = q / P := ⟨_, rfl⟩
  rw [← hy] at h1 ⊢
  have e2 : wrap64 (y : Int) = (y : Int) := by unfold wrap64; omega
  rw [e2]
  rfl
theorem bits_next {q c t X P : Nat} (ht : t < 8) (h : P = 2 ^ t ∧ X = bitsX q c t) : 2 * P = 2 ^ (t + 1) ∧ 2 * P ≤ 256 ∧ X < P ∧ bitsX q c (t + 1) = X + (if q / P % 2 ≠ c / P % 2 then P else 0) := by
  obtain ⟨rfl, rfl⟩ := h
  have h1 : 2 * 2 ^ t = 2 ^ (t + 1) := by rw [Nat.pow_succ, Nat.mul_comm]
  refine ⟨h1, ?_, ?_, rfl⟩
  · rw [h1]
    exact Nat.pow_le_pow_right (n := 2) (i := t + 1) (j := 8) (by omega) (by omega)
  · rw [bitsX_mod]
    exact Nat.mod_lt _ (Nat.two_pow_pos t)
theorem ref_step {m q c t X P : Nat} (hq : m % 256 = q) (hc : c < 256) (ht : t = 8) (h : P = 2 ^ t ∧ X = bitsX q c t) : ((m : Int) - q + X) * 16777619 % 4294967296 = ((stepH m c : Nat) : Int) := by
  subst ht
  subst hq
  have h1 := low_xor (n := m) hc
  have h2 := h.2
  rw [← h2] at h1
  obtain ⟨x, hx⟩ : ∃ x, x = m ^^^ c := ⟨_, rfl⟩
  have e : stepH m c = (x * 16777619) % 4294967296 := by rw [hx, stepH]
  rw [← hx] at h1
  rw [e]
  have h3 : m % 256 ≤ m := Nat.mod_le _ _
  have e2 : (m : Int) - ((m % 256 : Nat) : Int) + (X : Int) = (x : Int) := by omega
  rw [e2]
  omega

set_option maxHeartbeats 4000000 in
theorem rHash_c (s : ByteArray) (w : World) (hs : s.size ≤ 9223372036854775807) :
    Calls Tryz.prog 176 #[.string s] w fun e w' => e = .returned (.int .i64 (hashL (byN s) : Nat)) ∧ Below w.heap.size w w' := by
  obtain ⟨R, HR⟩ : ∃ R : Nat, Hid (hashL (byN s) = R) := ⟨_, rfl⟩
  rw [HR.out]
  go_enter Tryz.func176, Tryz.ntmps176
  go_wp2_with fail
  go_loopw [3, 4] (fun x i wr => ∃ (j : Nat) (m : Nat), j ≤ s.size ∧ i = .int .i64 j ∧ x = .int .i64 m ∧ m < 4294967296 ∧ Hid (m = hashL ((byN s).take j)) ∧ Hid (Below w.heap.size w wr)) (fun _ i _ => s.size - (intOf i).toNat)
  case atStart => exact ⟨0, 2166136261, Nat.zero_le _, rfl, rfl, by omega, by rw [List.take_zero]; rfl, Below.refl _ _⟩
  case round =>
    obtain ⟨j, m, hj, rfl, rfl, hm, HE, HB⟩ := hrel
    by_cases hlt : j < s.size
    · have hc0 : s[j].toNat < 256 := UInt8.toNat_lt _
      go_upto_region 6 with fail
      obtain ⟨c, HC⟩ : ∃ c : Nat, Hid (s[j].toNat = c) := ⟨s[j].toNat, show s[j].toNat = s[j].toNat from rfl⟩
      rw [HC.out] at hc0
      simp only [HC.out]
      obtain ⟨q, HQ⟩ : ∃ q : Nat, Hid (m % 256 = q) := ⟨_, show m % 256 = m % 256 from rfl⟩
      have hq : q < 256 := by rw [← HQ.out]; exact Nat.mod_lt _ (by omega)
      have hmq : (m : Int) % 256 = (q : Int) := by have := HQ.out; omega
      go_wp2_with fail
      go_loopw [7, 8, 9] (fun x p k wi => ∃ t X P : Nat, t ≤ 8 ∧ k = .int .i64 t ∧ p = .int .i64 P ∧ x = .int .i64 X ∧ 1 ≤ P ∧ P ≤ 256 ∧ X ≤ 256 ∧ Hid (P = 2 ^ t ∧ X = bitsX q c t) ∧ Hid (Below w.heap.size w wi)) (fun _ _ k _ => 8 - (intOf k).toNat)
      case atStart => exact ⟨0, 0, 1, by omega, rfl, rfl, rfl, by omega, by omega, by omega, ⟨rfl, rfl⟩, HB.out⟩
      case round =>
        obtain ⟨t, X, P, ht, rfl, rfl, rfl, hP, hP2, hX, HX, HBi⟩ := hrel
        by_cases hlt8 : t < 8
        · obtain ⟨hn1, hn2, hn3, hn4⟩ := bits_next hlt8 HX.out
          have HN1 := (show Hid (2 * P = 2 ^ (t + 1)) from hn1)
          have HN4 := (show Hid (bitsX q c (t + 1) = X + (if q / P % 2 ≠ c / P % 2 then P else 0)) from hn4)
          clear hn1 hn4
          by_cases hbit : q / P % 2 = c / P % 2
          · have hb0 : ((wrap64 ((q : Int) / (P : Int))).tmod 2 != (wrap64 ((c : Int) / (P : Int))).tmod 2) = false := by
              rw [bit_i q P hq, bit_i c P hc0, hbit]
              simp
            have HBit : Hid (q / P % 2 = c / P % 2) := hbit
            clear hbit
            go_upto_region 12 with fail
            go_quiet (fail)
            go_wp2_with fail
            go_roundw
            case rel => exact ⟨t + 1, X, 2 * P, by omega, by go_num, by go_num, rfl, by omega, hn2, by omega, ⟨HN1.out, by rw [HN4.out, if_neg (fun h => h HBit.out)]; rfl⟩, HBi.out.trans ⟨rfl, rfl, rfl, Nat.le_refl _, fun _ _ => rfl⟩⟩
            case measure => simp [intOf]; omega
          · have hb0 : ((wrap64 ((q : Int) / (P : Int))).tmod 2 != (wrap64 ((c : Int) / (P : Int))).tmod 2) = true := by
              rw [bit_i q P hq, bit_i c P hc0]
              simp only [bne_iff_ne, ne_eq]
              omega
            have HBit : Hid (¬ q / P % 2 = c / P % 2) := hbit
            clear hbit
            go_upto_region 12 with fail
            go_quiet (fail)
            go_wp2_with fail
            go_roundw
            case rel => exact ⟨t + 1, X + P, 2 * P, by omega, by go_num, by go_num, by go_num, by omega, hn2, by omega, ⟨HN1.out, by rw [HN4.out, if_pos HBit.out]⟩, HBi.out.trans ⟨rfl, rfl, rfl, Nat.le_refl _, fun _ _ => rfl⟩⟩
            case measure => simp [intOf]; omega
        · have HT : Hid (t = 8) := by
            show t = 8
            omega
          have HS : Hid (((m : Int) - q + X) * 16777619 % 4294967296 = ((stepH m c : Nat) : Int)) := ref_step HQ.out hc0 HT.out HX.out
          go_wp2_with fail
          refine ⟨⟨j + 1, stepH m c, by omega, by go_num, ?_, stepH_lt _ _, ?_, HBi.out⟩, ?_⟩
          · rw [HS.out]
          · show _ = _
            rw [hash_take s j hlt, ← HE.out, HC.out]
          · simp [intOf]; omega
    · go_wp2_with fail
      go_ret
      have e : m = R := by rw [HE.out, hash_all s j hlt]; exact HR.out
      exact ⟨by rw [← e]; rfl, HB.out⟩
end Go.Proofs.YtpcnfoaoajfhlaaGreatDoor

namespace Go.Proofs.YtpcnfoaoajfhlaaGreatDoor
set_option linter.unusedVariables false
set_option linter.unusedSimpArgs false
open Go.RowKit

set_option maxHeartbeats 4000000 in
theorem rPairG_c (a b : Nat) (ha : a ≤ 9223372036854775807) (hb : b ≤ 9223372036854775807) (w : World) :
    Calls Tryz.prog 133 #[.int .i64 (a : Nat), .int .i64 (b : Nat)] w fun e w' => e = .returned (.int .i64 (hashL (byN (str2 a b)) : Nat)) ∧ Below w.heap.size w w' := by
  have hsa := digS_size a ha
  have hsb := digS_size b hb
  have HE : str2 a b = digS a ++ ⟨#[47]⟩ ++ digS b := rfl
  have hz1 : (⟨#[47]⟩ : ByteArray).size = 1 := rfl
  have HS3 : Hid ((digS a ++ ⟨#[47]⟩ ++ digS b).size ≤ 9223372036854775807) := by
    show _ ≤ _
    rw [ByteArray.size_append, ByteArray.size_append, hz1]
    omega
  clear hz1
  rw [HE]
  clear HE
  have HA : Hid (a ≤ 9223372036854775807) := ha
  have HB : Hid (b ≤ 9223372036854775807) := hb
  obtain ⟨x, HX⟩ : ∃ x, Hid (digS a = x) := ⟨_, rfl⟩
  obtain ⟨y, HY⟩ : ∃ y, Hid (digS b = y) := ⟨_, rfl⟩
  have HDa : Hid (∀ w, Calls Tryz.prog 87 #[.int .i64 (a : Nat)] w fun e w' => e = .returned (.string x) ∧ w' = w) := by
    rw [← HX.out]
    exact digits_c a ha
  have HDb : Hid (∀ w, Calls Tryz.prog 87 #[.int .i64 (b : Nat)] w fun e w' => e = .returned (.string y) ∧ w' = w) := by
    rw [← HY.out]
    exact digits_c b hb
  rw [HX.out] at hsa
  rw [HY.out] at hsb
  rw [HX.out, HY.out] at HS3 ⊢
  have hs1 : ¬ 9223372036854775807 < x.size + 1 := by omega
  have hs2 : ¬ 9223372036854775807 < x.size + 1 + y.size := by omega
  go_enter Tryz.func133, Tryz.ntmps133
  go_wp2_with fail
  refine (HDa.out _).mono ?_
  rintro e w1 ⟨rfl, rfl⟩
  go_wp2_with fail
  refine (HDb.out _).mono ?_
  rintro e w1 ⟨rfl, rfl⟩
  go_wp2_with fail
  refine (rHash_c _ _ HS3.out).mono ?_
  rintro e w2 ⟨rfl, hb2⟩
  have HB2 := hb2
  go_wp2_with fail
  go_ret
  exact ⟨rfl, HB2⟩

end Go.Proofs.YtpcnfoaoajfhlaaGreatDoor

namespace Go.Proofs.YtpcnfoaoajfhlaaGreatDoor
set_option linter.unusedVariables false
set_option linter.unusedSimpArgs false
open Go.RowKit Go.Shelf Go.Lib Go.Sort

def sortR : Go.Shelf.Ren := ⟨fun | 6 => 60 | 14 => 105 | 15 => 106 | 20 => 147 | 21 => 148 | 22 => 149 | 23 => 150 | 24 => 151 | 25 => 152 | 26 => 153 | 27 => 154 | 28 => 155 | 29 => 156 | 46 => 185 | 47 => 186 | 48 => 187 | 49 => 188 | 50 => 189 | 57 => 200 | n => n, fun | 22 => 59 | 24 => 110 | 25 => 112 | 3 => 3 | 39 => 170 | 0 => 0 | 53 => 224 | 55 => 226 | 4 => 4 | 46 => 218 | 45 => 217 | 50 => 143 | 5 => 5 | 9 => 9 | 66 => 261 | 70 => 265 | 76 => 271 | 77 => 40 | n => n, fun n => n⟩
theorem sortL : Go.Proofs.SlLaysF0.n6 Tryz.prog sortR := {
  mixed := by kernel_rfl
  f6 := ⟨Tryz.f60.name, by kernel_rfl, Tryz.func60.trans (congrArg some (by kernel_rfl))⟩
  f14 := ⟨Tryz.f105.name, by kernel_rfl, Tryz.func105.trans (congrArg some (by kernel_rfl))⟩
  f15 := Tryz.func106.trans (congrArg some (by kernel_rfl))
  f20 := ⟨Tryz.f147.name, by kernel_rfl, Tryz.func147.trans (congrArg some (by kernel_rfl))⟩
  f21 := ⟨Tryz.f148.name, by kernel_rfl, Tryz.func148.trans (congrArg some (by kernel_rfl))⟩
  f22 := ⟨Tryz.f149.name, by kernel_rfl, Tryz.func149.trans (congrArg some (by kernel_rfl))⟩
  f23 := ⟨Tryz.f150.name, by kernel_rfl, Tryz.func150.trans (congrArg some (by kernel_rfl))⟩
  f24 := ⟨Tryz.f151.name, by kernel_rfl, Tryz.func151.trans (congrArg some (by kernel_rfl))⟩
  f25 := ⟨Tryz.f152.name, by kernel_rfl, Tryz.func152.trans (congrArg some (by kernel_rfl))⟩
  f26 := ⟨Tryz.f153.name, by kernel_rfl, Tryz.func153.trans (congrArg some (by kernel_rfl))⟩
  f27 := ⟨Tryz.f154.name, by kernel_rfl, Tryz.func154.trans (congrArg some (by kernel_rfl))⟩
  f28 := Tryz.func155.trans (congrArg some (by kernel_rfl))
  f29 := Tryz.func156.trans (congrArg some (by kernel_rfl))
  f46 := ⟨Tryz.f185.name, by kernel_rfl, Tryz.func185.trans (congrArg some (by kernel_rfl))⟩
  f47 := Tryz.func186.trans (congrArg some (by kernel_rfl))
  f48 := Tryz.func187.trans (congrArg some (by kernel_rfl))
  f49 := ⟨Tryz.f188.name, by kernel_rfl, Tryz.func188.trans (congrArg some (by kernel_rfl))⟩
  f50 := ⟨Tryz.f189.name, by kernel_rfl, Tryz.func189.trans (congrArg some (by kernel_rfl))⟩
  f57 := ⟨Tryz.f200.name, by kernel_rfl, Tryz.func200.trans (congrArg some (by kernel_rfl))⟩
  t22 := Tryz.underlying59
  a22 := Tryz.isAgg59
  z22 := Tryz.sizeOf59
  v22 := Tryz.zeroValue59
  t25 := Tryz.underlying112
  a25 := Tryz.isAgg112
  z25 := Tryz.sizeOf112
  v25 := Tryz.zeroValue112
  t3 := Tryz.underlying3
  a3 := Tryz.isAgg3
  z3 := Tryz.sizeOf3
  v3 := Tryz.zeroValue3
  t39 := Tryz.underlying170
  a39 := Tryz.isAgg170
  z39 := Tryz.sizeOf170
  v39 := Tryz.zeroValue170
  t0 := Tryz.underlying0
  a0 := Tryz.isAgg0
  z0 := Tryz.sizeOf0
  v0 := Tryz.zeroValue0
  t53 := Tryz.underlying224
  a53 := Tryz.isAgg224
  z53 := Tryz.sizeOf224
  v53 := Tryz.zeroValue224
  t55 := Tryz.underlying226
  a55 := Tryz.isAgg226
  z55 := Tryz.sizeOf226
  v55 := Tryz.zeroValue226
  t4 := Tryz.underlying4
  a4 := Tryz.isAgg4
  z4 := Tryz.sizeOf4
  v4 := Tryz.zeroValue4
  t46 := Tryz.underlying218
  a46 := Tryz.isAgg218
  z46 := Tryz.sizeOf218
  v46 := Tryz.zeroValue218
  t45 := Tryz.underlying217
  a45 := Tryz.isAgg217
  z45 := Tryz.sizeOf217
  v45 := Tryz.zeroValue217
  t50 := Tryz.underlying143
  a50 := Tryz.isAgg143
  z50 := Tryz.sizeOf143
  v50 := Tryz.zeroValue143
  t5 := Tryz.underlying5
  a5 := Tryz.isAgg5
  z5 := Tryz.sizeOf5
  v5 := Tryz.zeroValue5
  t9 := Tryz.underlying9
  a9 := Tryz.isAgg9
  z9 := Tryz.sizeOf9
  v9 := Tryz.zeroValue9
  t66 := Tryz.underlying261
  a66 := Tryz.isAgg261
  z66 := Tryz.sizeOf261
  v66 := Tryz.zeroValue261
  t70 := Tryz.underlying265
  a70 := Tryz.isAgg265
  z70 := Tryz.sizeOf265
  v70 := Tryz.zeroValue265
  t76 := Tryz.underlying271
  a76 := Tryz.isAgg271
  z76 := Tryz.sizeOf271
  v76 := Tryz.zeroValue271
  t77 := Tryz.underlying40
  a77 := Tryz.isAgg40
  z77 := Tryz.sizeOf40
  v77 := Tryz.zeroValue40 }

def encP (x : Pt) : List Value := [.int .i64 x.p, .int .i64 x.n]
theorem cmpLaysP [Inhabited Pt] (blk off size : Nat) (w : World) : CmpLays Tryz.prog 61 #[] encP 2 cfP blk off size w := fun _ _ _ _ x y => cmpP_c x.p x.n y.p y.n _
theorem sortFunc_c [Inhabited Pt] (blk off cap : Nat) (d : Array Pt) (w : World) (hH : HoldsK encP 2 w blk off d) (hblk : blk < w.heap.size) (hsz : d.size < 4611686018427387904) :
    Calls Tryz.prog 60 #[.slice (some ⟨blk, off, none⟩) d.size cap, .func (.func 61) #[] #[]] w fun e w' =>
      e = .returned (.tuple #[]) ∧ ∃ n os, w' = sortWorldK encP 2 w blk off n (d.toList.mergeSort fun x y => !(ltOf cfP) y x).toArray os :=
  AnyQ.slices_SortFunc_total sortL 2 Tryz.isAgg110 Tryz.sizeOf110 encP (fun _ => rfl) (fun x v hv => by simp [encP] at hv; rcases hv with rfl | rfl <;> rfl) cfP swoP 61 #[] blk off cap d w (enters_of Tryz.func61 (by kernel_rfl) rfl) (cmpLaysP blk off d.size w) hH hblk hsz totP
end Go.Proofs.YtpcnfoaoajfhlaaGreatDoor

namespace Go.Proofs.YtpcnfoaoajfhlaaGreatDoor
set_option linter.unusedVariables false
set_option linter.unusedSimpArgs false
open Go.RowKit Go.Shelf Go.Lib Go.Sort

theorem rowT_flat [Inhabited Pt] (l : List Pt) (j : Nat) (h : j < l.length * 2) : (rowT l)[j]? = some ((encP (l.toArray[j / 2]!))[j % 2]!) := by
  have hj : j / 2 < l.length := by omega
  obtain ⟨a0, a1⟩ := rowT_get l (j / 2) hj
  have e : l.toArray[j / 2]! = l[j / 2] := by simp [hj]
  rw [e]
  rcases Nat.mod_two_eq_zero_or_one j with h0 | h0
  · have hr : j = j / 2 * 2 := by omega
    rw [h0]
    conv => lhs; rw [hr]
    rw [a0]
    rfl
  · have hr : j = j / 2 * 2 + 1 := by omega
    rw [h0]
    conv => lhs; rw [hr]
    rw [a1]
    rfl
theorem holdsP [Inhabited Pt] {B : Nat} {w : World} {v : Value} {l : List Pt} (h : OwnP B w v l) (hne : l ≠ []) : ∃ g cap, v = .slice (some ⟨g, 0, none⟩) l.length cap ∧ B ≤ g ∧ g < w.heap.size ∧ HoldsK encP 2 w g 0 l.toArray := by
  have hcell : ∀ g, v.ownBlock = some g → ∀ j u, (rowT l)[j]? = some u → w.cell? ⟨g, j, none⟩ = some u := fun g hg j u hu => by
    have := h.cells (g := g) hg j u hu
    simpa [Addr.add_lit] using this
  rcases h.2 with ⟨rfl, h0⟩ | ⟨g, cap, cur, rfl, hb, hg, hc1, hc2, _⟩
  · exact absurd (List.length_eq_zero_iff.1 h0) hne
  · refine ⟨g, cap, rfl, hb, (Array.getElem?_eq_some_iff.1 hg).1, fun j hj => ?_⟩
    rw [size_flatK] at hj
    have hj' : j < l.length * 2 := by simpa using hj
    rw [get_flatK _ _ _ _ hj, Nat.zero_add]
    exact ⟨hcell g rfl j _ (rowT_flat l j hj'), by simp [World.frozen?, hg]⟩
theorem below_sorted [Inhabited Pt] {B : Nat} {w : World} {g n : Nat} {d : Array Pt} {os : Array Obj} (hg : B ≤ g) (hB : B ≤ w.heap.size) : RowKit.Below B w (sortWorldK encP 2 w g 0 n d os) := by
  have h1 : RowKit.Below B w (putRowK encP 2 (Sort.ahead w n) g 0 d) := Lib.below_putRow (RowKit.Below.refl B w) hg
  refine h1.trans ⟨rfl, rfl, rfl, ?_, fun c hc => ?_⟩
  · show _ ≤ (_ ++ os).size
    rw [Array.size_append]
    exact Nat.le_add_right _ _
  · show (_ ++ os)[c]? = _
    rw [Array.getElem?_append_left (Nat.lt_of_lt_of_le hc (Nat.le_trans hB h1.size))]
theorem sortRow_c (B : Nat) (v : Value) (l : List Pt) (w : World) (h : OwnP B w v l) (hne : l ≠ []) (hB : B ≤ w.heap.size) (hl : l.length ≤ 2000) :
    Calls Tryz.prog 60 #[v, .func (.func 61) #[] #[]] w fun e w' => e = .returned (.tuple #[]) ∧ PtsIs w' v (l.mergeSort fun x y => !(ltOf cfP) y x) ∧ RowKit.Below B w w' := by
  have inh : Inhabited Pt := ⟨⟨0, 0⟩⟩
  obtain ⟨g, cap, rfl, hb, hg, hH⟩ := holdsP h hne
  have hc := sortFunc_c g 0 cap l.toArray w hH hg (by rw [List.size_toArray]; omega)
  rw [List.size_toArray] at hc
  refine hc.mono ?_
  rintro e w' ⟨rfl, n, os, rfl⟩
  refine ⟨rfl, ?_, below_sorted hb hB⟩
  have e1 : (l.toArray.toList.mergeSort fun x y => !(ltOf cfP) y x) = (l.mergeSort fun x y => !(ltOf cfP) y x) := by simp
  rw [e1]
  have hlen : (l.mergeSort fun x y => !(ltOf cfP) y x).length = l.length := List.length_mergeSort ..
  have hs : (l.mergeSort fun x y => !(ltOf cfP) y x).toArray.size = l.toArray.size := by simp
  have hH' := holdsK_sortWorldK_c encP 2 w g 0 l.toArray (l.mergeSort fun x y => !(ltOf cfP) y x).toArray n os hH hg hs
  generalize (l.mergeSort fun x y => !(ltOf cfP) y x) = m at *
  refine ⟨by unfold maxLen; omega, _, cap, by rw [hlen], fun _ => ⟨g, 0, rfl, Nat.lt_of_lt_of_le hg (below_sorted (B := 0) (Nat.zero_le _) (Nat.zero_le _)).size, fun j hj => ?_⟩⟩
  have e2 : m.toArray[j]! = m[j] := by simp [hj]
  have k0 := (hH'.cell (i := j) (c := 0) (by simpa using hj) (by omega)).1
  have k1 := (hH'.cell (i := j) (c := 1) (by simpa using hj) (by omega)).1
  rw [e2] at k0 k1
  exact ⟨k0, k1⟩
end Go.Proofs.YtpcnfoaoajfhlaaGreatDoor

namespace Go.Proofs.YtpcnfoaoajfhlaaGreatDoor
set_option linter.unusedVariables false
set_option linter.unusedSimpArgs false
open Go.RowKit

def Pt.same (x y : Pt) : Bool := (x.p == y.p) && (x.n == y.n)
theorem Pt.same_iff (x y : Pt) : x.same y = true ↔ x = y := by
  cases x
  cases y
  simp [Pt.same]
theorem eql_ptIn (x y : Pt) (w : World) : (Op.equalIn 10000 110 x.val y.val).run Tryz.prog w = .ok (x.same y) w := by
  unfold Pt.val
  rw [run_equalIn_agg w 9999 110 _ _ (by kernel_rfl) (by kernel_rfl)]
  simp [Op.eqFields, Program.fieldsOf, Tryz.underlying110, go_sem, Tryz.underlying3, Pt.same]
  by_cases h0 : x.p = y.p <;> by_cases h1 : x.n = y.n <;> simp [h0, h1]
theorem eql_pt (x0 x1 y0 y1 : Int) (b : Bool) (h : Pt.same ⟨x0, x1⟩ ⟨y0, y1⟩ = b) (w : World) : (binOp .eql 110 (.agg #[.int .i64 x0, .int .i64 x1]) (.agg #[.int .i64 y0, .int .i64 y1])).run Tryz.prog w = .ok (.bool b) w := by
  have h1 := eql_ptIn ⟨x0, x1⟩ ⟨y0, y1⟩ w
  rw [h] at h1
  unfold Pt.val at h1
  rw [run_eql_struct, h1]
  rfl
theorem neq_pt (x0 x1 y0 y1 : Int) (b : Bool) (h : Pt.same ⟨x0, x1⟩ ⟨y0, y1⟩ = b) (w : World) : (binOp .neq 110 (.agg #[.int .i64 x0, .int .i64 x1]) (.agg #[.int .i64 y0, .int .i64 y1])).run Tryz.prog w = .ok (.bool !b) w := by
  have h1 := eql_ptIn ⟨x0, x1⟩ ⟨y0, y1⟩ w
  rw [h] at h1
  unfold Pt.val at h1
  rw [run_neq_struct, h1]
  rfl
theorem eqGuard_pt : Tryz.prog.eqGuardType Tryz.prog.depth 110 = false := by kernel_rfl
theorem rise_unlike {l : List Pt} (h : l.Pairwise ltP) {j : Nat} (hj : j + 1 < l.length) : Pt.same l[j + 1] l[j] = false := by
  have h1 := List.pairwise_iff_getElem.1 h j (j + 1) (by omega) hj (by omega)
  cases hs : Pt.same l[j + 1] l[j]
  · rfl
  · rw [Pt.same_iff] at hs
    rw [hs] at h1
    unfold ltP at h1
    omega
set_option maxHeartbeats 4000000 in
theorem compact_c (v : Value) (l : List Pt) (w : World) (hr : PtsIs w v l) (hrise : l.Pairwise ltP) (hl : l.length ≤ 2000) :
    Calls Tryz.prog 62 #[v] w fun e w' => e = .returned v ∧ Below w.heap.size w w' := by
  obtain ⟨hlen, pp, cap, rfl, hrow⟩ := hr
  have HRow : Hid (l ≠ [] → ∃ b o, pp = some ⟨b, o, none⟩ ∧ b < w.heap.size ∧ ∀ j (h : j < l.length), PtAt w b (o + j * 2) l[j]) := hrow
  have HRise : Hid (l.Pairwise ltP) := hrise
  clear hrow hrise
  by_cases h2 : l.length < 2
  · have h2i : (l.length : Int) < 2 := by omega
    clear HRow HRise
    generalize l.length = n at *
    go_enter Tryz.func62, Tryz.ntmps62
    go_wp2_with fail
    go_ret
    exact ⟨rfl, Below.refl _ _⟩
  have h2i : ¬ (l.length : Int) < 2 := by omega
  have hne : l ≠ [] := by intro h; rw [h] at h2; simp at h2
  obtain ⟨b, o, rfl, hbw, hat⟩ := HRow.out hne
  have HAt : Hid (∀ j (h : j < l.length), PtAt w b (o + j * 2) l[j]) := hat
  obtain ⟨n, HN⟩ : ∃ n, Hid (l.length = n) := ⟨_, rfl⟩
  clear hat HRow hne
  rw [HN.out] at hlen h2 h2i hl ⊢
  have hgd := eqGuard_pt
  go_enter Tryz.func62, Tryz.ntmps62
  go_wp2_with fail
  go_loopw [3] (fun s3 wr => ∃ j : Nat, j + 1 ≤ n ∧ s3 = .int .i64 ((j + 1 : Nat) : Int) ∧ Hid (Below w.heap.size w wr)) (fun i _ => n - (intOf i).toNat)
  case atStart => exact ⟨0, by omega, rfl, Below.refl _ _⟩
  case round =>
    obtain ⟨j, hj, rfl, HB⟩ := hrel
    by_cases hlt : j + 1 < n
    · have hjl : j + 1 < l.length := by rw [HN.out]; exact hlt
      have HA1 : Hid (PtAt wr b (o + (j + 1) * 2) l[j + 1]) := (HAt.out _ hjl).of_block (HB.out.block b hbw)
      have HA0 : Hid (PtAt wr b (o + j * 2) l[j]) := (HAt.out j (by omega)).of_block (HB.out.block b hbw)
      have HS : Hid (Pt.same l[j + 1] l[j] = false) := rise_unlike HRise.out hjl
      obtain ⟨x, HX⟩ : ∃ x, Hid (l[j + 1] = x) := ⟨l[j + 1], show l[j + 1] = l[j + 1] from rfl⟩
      obtain ⟨y, HY⟩ : ∃ y, Hid (l[j]'(by omega) = y) := ⟨l[j]'(by omega), show l[j]'(by omega) = l[j]'(by omega) from rfl⟩
      rw [HX.out] at HA1 HS
      rw [HY.out] at HA0 HS
      obtain ⟨x0, x1⟩ := x
      obtain ⟨y0, y1⟩ := y
      obtain ⟨c0, c1⟩ := HA1.out
      obtain ⟨d0, d1⟩ := HA0.out
      dsimp only at c0 c1 d0 d1
      have hq := eql_pt x0 x1 y0 y1 false HS.out
      have hwp : IntKind.i64.wrap (j : Int) = (j : Int) := by rw [IntKind.wrap_i64]; omega
      have hin : (j : Int) < (n : Int) := by omega
      have hin' : (j : Int) + 1 < (n : Int) := by omega
      have hin2 : ((j + 1 : Nat) : Int) < (n : Int) := by omega
      go_upto_region 6 with fail
      go_quiet (fail)
      go_wp2_with fail
      go_roundw
      case rel => exact ⟨j + 1, by omega, by go_num, HB.out.trans (below_drewN _ _ _)⟩
      case measure => simp [intOf]; omega
    · have hin2 : ¬ ((j + 1 : Nat) : Int) < (n : Int) := by omega
      have hin3 : ¬ (j : Int) + 1 < (n : Int) := by omega
      go_wp2_with fail
      go_ret
      exact ⟨rfl, HB.out⟩
end Go.Proofs.YtpcnfoaoajfhlaaGreatDoor
