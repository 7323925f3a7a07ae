/-
  slices.SortFunc at points by its contract, laid at this program (the body of each function and each type's row compared): the row holds the points sorted.
  meresame.Ints and mereref1.In by their contracts.
  Rows of numbers compared (as package tomb has them).
  Package ring by its contracts: within, isNode, place, checkNodes; slices.Index and slices.Contains at numbers.
-/
import Derived.Shelf.SlSortCmp.NoneTotal
import Derived.Test.YtpcnfoaoajfhlabGreatDoorRwbe
import Derived.Test.YtpcnfoaoajfhlabGreatDoorRwag
import Derived.BigQuiet
import Derived.Test.YtpcnfoaoajfhlabGreatDoorRwbd
import Derived.Test.YtpcnfoaoajfhlabGreatDoorRwav
namespace Go.Proofs.YtpcnfoaoajfhlabGreatDoor
set_option linter.unusedVariables false
set_option linter.unusedSimpArgs false
set_option linter.unusedVariables false
set_option linter.unusedSimpArgs false
open Go.RowKit Go.Shelf Go.Lib Go.Sort

def sortR : Go.Shelf.Ren := ⟨fun | 6 => 70 | 14 => 93 | 15 => 94 | 20 => 125 | 21 => 126 | 22 => 127 | 23 => 128 | 24 => 129 | 25 => 130 | 26 => 131 | 27 => 132 | 28 => 133 | 29 => 134 | 46 => 154 | 47 => 155 | 48 => 156 | 49 => 157 | 50 => 158 | 57 => 170 | n => n, fun | 22 => 102 | 24 => 140 | 25 => 142 | 3 => 3 | 39 => 162 | 0 => 0 | 53 => 197 | 55 => 180 | 4 => 4 | 46 => 191 | 45 => 190 | 50 => 172 | 5 => 5 | 9 => 9 | 66 => 215 | 70 => 219 | 76 => 226 | 77 => 227 | n => n, fun n => n⟩
theorem sortL : Go.Proofs.SlLaysF0.n6 Tryz.prog sortR := {
  mixed := by kernel_rfl
  f6 := ⟨Tryz.f70.name, by kernel_rfl, Tryz.func70.trans (congrArg some (by kernel_rfl))⟩
  f14 := ⟨Tryz.f93.name, by kernel_rfl, Tryz.func93.trans (congrArg some (by kernel_rfl))⟩
  f15 := Tryz.func94.trans (congrArg some (by kernel_rfl))
  f20 := ⟨Tryz.f125.name, by kernel_rfl, Tryz.func125.trans (congrArg some (by kernel_rfl))⟩
  f21 := ⟨Tryz.f126.name, by kernel_rfl, Tryz.func126.trans (congrArg some (by kernel_rfl))⟩
  f22 := ⟨Tryz.f127.name, by kernel_rfl, Tryz.func127.trans (congrArg some (by kernel_rfl))⟩
  f23 := ⟨Tryz.f128.name, by kernel_rfl, Tryz.func128.trans (congrArg some (by kernel_rfl))⟩
  f24 := ⟨Tryz.f129.name, by kernel_rfl, Tryz.func129.trans (congrArg some (by kernel_rfl))⟩
  f25 := ⟨Tryz.f130.name, by kernel_rfl, Tryz.func130.trans (congrArg some (by kernel_rfl))⟩
  f26 := ⟨Tryz.f131.name, by kernel_rfl, Tryz.func131.trans (congrArg some (by kernel_rfl))⟩
  f27 := ⟨Tryz.f132.name, by kernel_rfl, Tryz.func132.trans (congrArg some (by kernel_rfl))⟩
  f28 := Tryz.func133.trans (congrArg some (by kernel_rfl))
  f29 := Tryz.func134.trans (congrArg some (by kernel_rfl))
  f46 := ⟨Tryz.f154.name, by kernel_rfl, Tryz.func154.trans (congrArg some (by kernel_rfl))⟩
  f47 := Tryz.func155.trans (congrArg some (by kernel_rfl))
  f48 := Tryz.func156.trans (congrArg some (by kernel_rfl))
  f49 := ⟨Tryz.f157.name, by kernel_rfl, Tryz.func157.trans (congrArg some (by kernel_rfl))⟩
  f50 := ⟨Tryz.f158.name, by kernel_rfl, Tryz.func158.trans (congrArg some (by kernel_rfl))⟩
  f57 := ⟨Tryz.f170.name, by kernel_rfl, Tryz.func170.trans (congrArg some (by kernel_rfl))⟩
  t22 := Tryz.underlying102
  a22 := Tryz.isAgg102
  z22 := Tryz.sizeOf102
  v22 := Tryz.zeroValue102
  t25 := Tryz.underlying142
  a25 := Tryz.isAgg142
  z25 := Tryz.sizeOf142
  v25 := Tryz.zeroValue142
  t3 := Tryz.underlying3
  a3 := Tryz.isAgg3
  z3 := Tryz.sizeOf3
  v3 := Tryz.zeroValue3
  t39 := Tryz.underlying162
  a39 := Tryz.isAgg162
  z39 := Tryz.sizeOf162
  v39 := Tryz.zeroValue162
  t0 := Tryz.underlying0
  a0 := Tryz.isAgg0
  z0 := Tryz.sizeOf0
  v0 := Tryz.zeroValue0
  t53 := Tryz.underlying197
  a53 := Tryz.isAgg197
  z53 := Tryz.sizeOf197
  v53 := Tryz.zeroValue197
  t55 := Tryz.underlying180
  a55 := Tryz.isAgg180
  z55 := Tryz.sizeOf180
  v55 := Tryz.zeroValue180
  t4 := Tryz.underlying4
  a4 := Tryz.isAgg4
  z4 := Tryz.sizeOf4
  v4 := Tryz.zeroValue4
  t46 := Tryz.underlying191
  a46 := Tryz.isAgg191
  z46 := Tryz.sizeOf191
  v46 := Tryz.zeroValue191
  t45 := Tryz.underlying190
  a45 := Tryz.isAgg190
  z45 := Tryz.sizeOf190
  v45 := Tryz.zeroValue190
  t50 := Tryz.underlying172
  a50 := Tryz.isAgg172
  z50 := Tryz.sizeOf172
  v50 := Tryz.zeroValue172
  t5 := Tryz.underlying5
  a5 := Tryz.isAgg5
  z5 := Tryz.sizeOf5
  v5 := Tryz.zeroValue5
  t9 := Tryz.underlying9
  a9 := Tryz.isAgg9
  z9 := Tryz.sizeOf9
  v9 := Tryz.zeroValue9
  t66 := Tryz.underlying215
  a66 := Tryz.isAgg215
  z66 := Tryz.sizeOf215
  v66 := Tryz.zeroValue215
  t70 := Tryz.underlying219
  a70 := Tryz.isAgg219
  z70 := Tryz.sizeOf219
  v70 := Tryz.zeroValue219
  t76 := Tryz.underlying226
  a76 := Tryz.isAgg226
  z76 := Tryz.sizeOf226
  v76 := Tryz.zeroValue226
  t77 := Tryz.underlying227
  a77 := Tryz.isAgg227
  z77 := Tryz.sizeOf227
  v77 := Tryz.zeroValue227 }

def encP (x : Pt) : List Value := [.int .i64 x.p, .int .i64 x.n]
theorem cmpLaysP [Inhabited Pt] (blk off size : Nat) (w : World) : CmpLays Tryz.prog 71 #[] encP 2 cfP blk off size w := fun _ _ _ _ x y => cmpP_c x.p x.n y.p y.n _
theorem sortFunc_c [Inhabited Pt] (blk off cap : Nat) (d : Array Pt) (w : World) (hH : HoldsK encP 2 w blk off d) (hblk : blk < w.heap.size) (hsz : d.size < 4611686018427387904) :
    Calls Tryz.prog 70 #[.slice (some ⟨blk, off, none⟩) d.size cap, .func (.func 71) #[] #[]] w fun e w' =>
      e = .returned (.tuple #[]) ∧ ∃ n os, w' = sortWorldK encP 2 w blk off n (d.toList.mergeSort fun x y => !(ltOf cfP) y x).toArray os :=
  AnyQ.slices_SortFunc_total sortL 2 Tryz.isAgg140 Tryz.sizeOf140 encP (fun _ => rfl) (fun x v hv => by simp [encP] at hv; rcases hv with rfl | rfl <;> rfl) cfP swoP 71 #[] blk off cap d w (enters_of Tryz.func71 (by kernel_rfl) rfl) (cmpLaysP blk off d.size w) hH hblk hsz totP
end Go.Proofs.YtpcnfoaoajfhlabGreatDoor

namespace Go.Proofs.YtpcnfoaoajfhlabGreatDoor
set_option linter.unusedVariables false
set_option linter.unusedSimpArgs false
open Go.RowKit

theorem eqI_step {a b : List Int} {j : Nat} (ha : j < a.length) (hb : j < b.length) : (a.drop j == b.drop j) = ((a[j] == b[j]) && (a.drop (j + 1) == b.drop (j + 1))) := by
  rw [List.drop_eq_getElem_cons ha, List.drop_eq_getElem_cons hb]
  rfl
theorem eqI_len {a b : List Int} (h : a.length ≠ b.length) : (a == b) = false := by
  rw [beq_eq_false_iff_ne]
  intro h'
  exact h (by rw [h'])


end Go.Proofs.YtpcnfoaoajfhlabGreatDoor

namespace Go.Proofs.YtpcnfoaoajfhlabGreatDoor
set_option linter.unusedVariables false
set_option linter.unusedSimpArgs false
end Go.Proofs.YtpcnfoaoajfhlabGreatDoor

namespace Go.Proofs.YtpcnfoaoajfhlabGreatDoor
set_option linter.unusedVariables false
set_option linter.unusedSimpArgs false
open Go.RowKit

theorem withinR_c (n lo hi : Int) (w : World) : Calls Tryz.prog 68 #[.int .i64 n, .int .i64 lo, .int .i64 hi] w fun e w' => e = .returned (.bool (inR n lo hi)) ∧ w' = w := by
  go_enter Tryz.func68, Tryz.ntmps68
  go_wp2_with fail
  · go_ret
    refine ⟨?_, rfl⟩
    rename_i h
    simp [inR, h]
  · go_ret
    refine ⟨?_, rfl⟩
    rename_i h
    have h2 : ¬ lo ≤ n := by omega
    simp [inR, h2]
theorem withinR_b (n lo hi : Int) (b : Bool) (w : World) (hb : inR n lo hi = b) : Calls Tryz.prog 68 #[.int .i64 n, .int .i64 lo, .int .i64 hi] w fun e w' => e = .returned (.bool b) ∧ w' = w := by
  subst hb
  exact withinR_c n lo hi w
theorem isNodeR_b (n : Int) (b : Bool) (w : World) (hb : inR n 0 5 = b) : Calls Tryz.prog 90 #[.int .i64 n] w fun e w' => e = .returned (.bool b) ∧ w' = w := by
  have H : Hid (inR n 0 5 = b) := hb
  clear hb
  go_enter Tryz.func90, Tryz.ntmps90
  go_wp2_with (go_at_call 68; refine (withinR_b _ _ _ b _ H.out).mono ?_; rintro e w' ⟨rfl, rfl⟩)
  go_ret
  exact ⟨rfl, rfl⟩

set_option maxHeartbeats 1000000 in
theorem placeR_c (a b : Nat) (w : World) (ha : a ≤ 4294967295) (hb : b ≤ 4294967295) (hT : Lib.TabIs Tryz.prog w powName .u64 Lib.pow10Tab) :
    Calls Tryz.prog 69 #[.int .i64 (a : Nat), .int .i64 (b : Nat)] w fun e w' => e = .returned (.tuple #[.int .i64 (plP a b : Nat), .nilIface]) ∧ Below w.heap.size w w' := by
  have HC : Hid _ := two_ok a b w ha hb hT
  have e0 : plP a b = hashL (byN (str2 a b)) % 256 := rfl
  rw [e0]
  clear e0 hT
  have hlt : hashL (byN (str2 a b)) < 4294967296 := hashL_lt _
  generalize hashL (byN (str2 a b)) = x at HC hlt ⊢
  go_enter Tryz.func69, Tryz.ntmps69
  go_wp2_with fail
  refine Calls.mono HC.out ?_
  rintro e w1 ⟨rfl, hb⟩
  have HB : Hid (Below w.heap.size w w1) := hb
  clear hb
  go_wp2_with fail
  go_ret2
  exact ⟨rfl, HB.out⟩

theorem nat_zero {n : Nat} (h : n = 0) : ((n : Int) == 0) = true := by simp [h]
theorem nat_some {n : Nat} (h : n ≠ 0) : ((n : Int) == 0) = false := by simp; exact h
theorem badNodes_zero {l : List Int} (h : l.length = 0) : badNodes l = 5 := by rw [badNodes, if_pos h]
theorem badNodes_full {l : List Int} (h : 6 < l.length) : badNodes l = 4 := by rw [badNodes, if_neg (by omega), if_pos h]
theorem badNodes_else {l : List Int} (h0 : l.length ≠ 0) (h : ¬ 6 < l.length) : badNodes l = badFrom (l.take 0) (l.drop 0) := by rw [badNodes, if_neg h0, if_neg h]; rfl
theorem badFrom_range {l : List Int} {j : Nat} (h : j < l.length) (hr : inR l[j] 0 5 = false) : badFrom (l.take j) (l.drop j) = 1 := by
  rw [badFrom_step h, if_pos]
  simp [inR] at hr
  omega
theorem badFrom_clash {l : List Int} {j : Nat} (h : j < l.length) (hr : inR l[j] 0 5 = true) (hc : (l.take j).contains l[j] = true) : badFrom (l.take j) (l.drop j) = 7 := by
  rw [badFrom_step h, if_neg, if_pos hc]
  simp [inR] at hr
  omega
theorem badFrom_next {l : List Int} {j : Nat} (h : j < l.length) (hr : inR l[j] 0 5 = true) (hc : (l.take j).contains l[j] = false) : badFrom (l.take j) (l.drop j) = badFrom (l.take (j + 1)) (l.drop (j + 1)) := by
  rw [badFrom_step h, if_neg, if_neg (by rw [hc]; simp)]
  simp [inR] at hr
  omega
set_option maxHeartbeats 4000000 in
theorem checkNodes_c (v : Value) (l : List Int) (w : World) (hr : IntsIs w v l) (hcap : CapOk v l.length) :
    Calls Tryz.prog 67 #[v] w fun e w' => e = .returned (eV (badNodes l)) ∧ w' = w := by
  obtain ⟨p, cap, rfl, hc1, hc2⟩ := hcap
  have HRow : Hid (IntsIs w (.slice p l.length cap) l) := hr
  obtain ⟨_, q, c, e, hrow⟩ := hr
  injection e with e1 e2 e3
  subst e1
  have HR : Hid (l ≠ [] → ∃ bb o, p = some ⟨bb, o, none⟩ ∧ bb < w.heap.size ∧ ∀ j (h : j < l.length), w.cell? ⟨bb, o + j, none⟩ = some (.int .i64 l[j])) := hrow
  clear hrow e2 e3
  by_cases h0 : l.length = 0
  · rw [badNodes_zero h0, eV_err (by omega)]
    have hi0 := nat_zero h0
    clear HR HRow
    generalize l.length = n at *
    go_enter Tryz.func67, Tryz.ntmps67
    go_wp2_with fail
    go_ret
    exact ⟨rfl, rfl⟩
  by_cases h6 : 6 < l.length
  · rw [badNodes_full h6, eV_err (by omega)]
    have hi0 := nat_some h0
    have hi6 : (6 : Int) < (l.length : Int) := by omega
    clear HR HRow
    generalize l.length = n at *
    go_enter Tryz.func67, Tryz.ntmps67
    go_wp2_with fail
    go_ret
    exact ⟨rfl, rfl⟩
  rw [badNodes_else h0 h6]
  obtain ⟨R, HE⟩ : ∃ R, Hid (badFrom (l.take 0) (l.drop 0) = R) := ⟨_, rfl⟩
  rw [HE.out]
  have hi0 := nat_some h0
  have hi6 : ¬ (6 : Int) < (l.length : Int) := by omega
  obtain ⟨n, HN⟩ : ∃ n, Hid (l.length = n) := ⟨_, rfl⟩
  rw [HN.out] at hc1 h0 h6 hi0 hi6 HRow ⊢
  have hc63 : cap ≤ 9223372036854775807 := hc2
  go_enter Tryz.func67, Tryz.ntmps67
  go_wp2_with fail
  go_loopw [15] (fun i wr => ∃ j : Nat, j ≤ n ∧ i = .int .i64 j ∧ Hid (badFrom (l.take j) (l.drop j) = R) ∧ wr = w) (fun i _ => n - (intOf i).toNat)
  case atStart => exact ⟨0, Nat.zero_le _, rfl, HE, rfl⟩
  case round =>
    obtain ⟨j, hj, rfl, HJ, rfl⟩ := hrel
    by_cases hlt : j < n
    · have hja : j < l.length := by rw [HN.out]; exact hlt
      obtain ⟨ba, oa, hp, hbwa, hata⟩ := HR.out (fun h => by simp [h] at hja)
      have c0 := hata j hja
      clear hata
      subst hp
      have HRow' : Hid (IntsIs wr (.slice (some ⟨ba, oa, none⟩) l.length cap) l) := by rw [HN.out]; exact HRow
      have hlti : (j : Int) < (n : Int) := by omega
      cases hin : inR l[j] 0 5
      · have HRv : Hid (R = 1) := HJ.out.symm.trans (badFrom_range hja hin)
        have HIn : Hid (inR l[j] 0 5 = false) := hin
        clear hin
        generalize l[j] = x at *
        go_wp2_with (go_at_call 90; refine (isNodeR_b x false _ HIn.out).mono ?_; rintro e w' ⟨rfl, rfl⟩)
        go_ret
        refine ⟨?_, rfl⟩
        rw [HRv.out, eV_err (by omega)]
        rfl
      · have HIn : Hid (inR l[j] 0 5 = true) := hin
        cases hco : (l.take j).contains l[j]
        · have HRv : Hid (badFrom (l.take (j + 1)) (l.drop (j + 1)) = R) := (badFrom_next hja hin hco).symm.trans HJ.out
          have HCo : Hid ((l.take j).contains l[j] = false) := hco
          clear hin hco
          generalize l[j] = x at *
          go_wp2_with fail
          refine (isNodeR_b x true _ HIn.out).mono ?_
          rintro e w' ⟨rfl, rfl⟩
          go_wp2_with fail
          refine (containsI_c _ (l.take j) x false _ (IntsIs.take HRow'.out (by rw [HN.out]; exact hj) (fun _ => rfl)) HCo.out).mono ?_
          rintro e w2 ⟨rfl, rfl⟩
          go_wp2_with fail
          go_roundw
          case rel => exact ⟨j + 1, by omega, by go_num, HRv, trivial⟩
          case measure => simp [intOf]; omega
        · have HRv : Hid (R = 7) := HJ.out.symm.trans (badFrom_clash hja hin hco)
          have HCo : Hid ((l.take j).contains l[j] = true) := hco
          clear hin hco
          generalize l[j] = x at *
          go_wp2_with fail
          refine (isNodeR_b x true _ HIn.out).mono ?_
          rintro e w' ⟨rfl, rfl⟩
          go_wp2_with fail
          refine (containsI_c _ (l.take j) x true _ (IntsIs.take HRow'.out (by rw [HN.out]; exact hj) (fun _ => rfl)) HCo.out).mono ?_
          rintro e w2 ⟨rfl, rfl⟩
          go_wp2_with fail
          go_ret
          refine ⟨?_, rfl⟩
          rw [HRv.out, eV_err (by omega)]
          rfl
    · obtain rfl : j = n := by omega
      have HR0 : Hid (R = 0) := by
        show R = 0
        rw [← HJ.out, List.drop_eq_nil_of_le (by rw [HN.out]; exact Nat.le_refl _)]
        rfl
      go_wp2_with fail
      go_ret
      exact ⟨by rw [HR0.out, eV_zero]; rfl, rfl⟩
end Go.Proofs.YtpcnfoaoajfhlabGreatDoor
