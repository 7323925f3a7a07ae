/-
  slices.SortFunc at points by its contract, laid at this program (the body of each function and each type's row compared): the row holds the points sorted.
  meresame.Ints and mereref1.In by their contracts.
  Rows of numbers compared (as package tomb has them).
  Package ring by its contracts: within, isNode, place, checkNodes; slices.Index and slices.Contains at numbers.
-/
import Derived.Shelf.SlSortCmp.NoneTotal
import Derived.Test.YtpcnfoaoajfhlaaGreatDoorRbbe
import Derived.Test.YtpcnfoaoajfhlaaGreatDoorRbag
import Derived.BigQuiet
import Derived.Test.YtpcnfoaoajfhlaaGreatDoorRbbd
import Derived.Test.YtpcnfoaoajfhlaaGreatDoorRbav
namespace Go.Proofs.YtpcnfoaoajfhlaaGreatDoor
set_option linter.unusedVariables false
set_option linter.unusedSimpArgs false
set_option linter.unusedVariables false
set_option linter.unusedSimpArgs false
open Go.RowKit Go.Shelf Go.Lib Go.Sort

def sortR : Go.Shelf.Ren := ⟨fun | 6 => 60 | 14 => 105 | 15 => 106 | 20 => 147 | 21 => 148 | 22 => 149 | 23 => 150 | 24 => 151 | 25 => 152 | 26 => 153 | 27 => 154 | 28 => 155 | 29 => 156 | 46 => 185 | 47 => 186 | 48 => 187 | 49 => 188 | 50 => 189 | 57 => 200 | n => n, fun | 22 => 59 | 24 => 110 | 25 => 112 | 3 => 3 | 39 => 170 | 0 => 0 | 53 => 224 | 55 => 226 | 4 => 4 | 46 => 218 | 45 => 217 | 50 => 143 | 5 => 5 | 9 => 9 | 66 => 261 | 70 => 265 | 76 => 271 | 77 => 40 | n => n, fun n => n⟩
theorem sortL : Go.Proofs.SlLaysF0.n6 Tryz.prog sortR := {
  mixed := by kernel_rfl
  f6 := ⟨Tryz.f60.name, by kernel_rfl, Tryz.func60.trans (congrArg some (by kernel_rfl))⟩
  f14 := ⟨Tryz.f105.name, by kernel_rfl, Tryz.func105.trans (congrArg some (by kernel_rfl))⟩
  f15 := Tryz.func106.trans (congrArg some (by kernel_rfl))
  f20 := ⟨Tryz.f147.name, by kernel_rfl, Tryz.func147.trans (congrArg some (by kernel_rfl))⟩
  f21 := ⟨Tryz.f148.name, by kernel_rfl, Tryz.func148.trans (congrArg some (by kernel_rfl))⟩
  f22 := ⟨Tryz.f149.name, by kernel_rfl, Tryz.func149.trans (congrArg some (by kernel_rfl))⟩
  f23 := ⟨Tryz.f150.name, by kernel_rfl, Tryz.func150.trans (congrArg some (by kernel_rfl))⟩
  f24 := ⟨Tryz.f151.name, by kernel_rfl, Tryz.func151.trans (congrArg some (by kernel_rfl))⟩
  f25 := ⟨Tryz.f152.name, by kernel_rfl, Tryz.func152.trans (congrArg some (by kernel_rfl))⟩
  f26 := ⟨Tryz.f153.name, by kernel_rfl, Tryz.func153.trans (congrArg some (by kernel_rfl))⟩
  f27 := ⟨Tryz.f154.name, by kernel_rfl, Tryz.func154.trans (congrArg some (by kernel_rfl))⟩
  f28 := Tryz.func155.trans (congrArg some (by kernel_rfl))
  f29 := Tryz.func156.trans (congrArg some (by kernel_rfl))
  f46 := ⟨Tryz.f185.name, by kernel_rfl, Tryz.func185.trans (congrArg some (by kernel_rfl))⟩
  f47 := Tryz.func186.trans (congrArg some (by kernel_rfl))
  f48 := Tryz.func187.trans (congrArg some (by kernel_rfl))
  f49 := ⟨Tryz.f188.name, by kernel_rfl, Tryz.func188.trans (congrArg some (by kernel_rfl))⟩
  f50 := ⟨Tryz.f189.name, by kernel_rfl, Tryz.func189.trans (congrArg some (by kernel_rfl))⟩
  f57 := ⟨Tryz.f200.name, by kernel_rfl, Tryz.func200.trans (congrArg some (by kernel_rfl))⟩
  t22 := Tryz.underlying59
  a22 := Tryz.isAgg59
  z22 := Tryz.sizeOf59
  v22 := Tryz.zeroValue59
  t25 := Tryz.underlying112
  a25 := Tryz.isAgg112
  z25 := Tryz.sizeOf112
  v25 := Tryz.zeroValue112
  t3 := Tryz.underlying3
  a3 := Tryz.isAgg3
  z3 := Tryz.sizeOf3
  v3 := Tryz.zeroValue3
  t39 := Tryz.underlying170
  a39 := Tryz.isAgg170
  z39 := Tryz.sizeOf170
  v39 := Tryz.zeroValue170
  t0 := Tryz.underlying0
  a0 := Tryz.isAgg0
  z0 := Tryz.sizeOf0
  v0 := Tryz.zeroValue0
  t53 := Tryz.underlying224
  a53 := Tryz.isAgg224
  z53 := Tryz.sizeOf224
  v53 := Tryz.zeroValue224
  t55 := Tryz.underlying226
  a55 := Tryz.isAgg226
  z55 := Tryz.sizeOf226
  v55 := Tryz.zeroValue226
  t4 := Tryz.underlying4
  a4 := Tryz.isAgg4
  z4 := Tryz.sizeOf4
  v4 := Tryz.zeroValue4
  t46 := Tryz.underlying218
  a46 := Tryz.isAgg218
  z46 := Tryz.sizeOf218
  v46 := Tryz.zeroValue218
  t45 := Tryz.underlying217
  a45 := Tryz.isAgg217
  z45 := Tryz.sizeOf217
  v45 := Tryz.zeroValue217
  t50 := Tryz.underlying143
  a50 := Tryz.isAgg143
  z50 := Tryz.sizeOf143
  v50 := Tryz.zeroValue143
  t5 := Tryz.underlying5
  a5 := Tryz.isAgg5
  z5 := Tryz.sizeOf5
  v5 := Tryz.zeroValue5
  t9 := Tryz.underlying9
  a9 := Tryz.isAgg9
  z9 := Tryz.sizeOf9
  v9 := Tryz.zeroValue9
  t66 := Tryz.underlying261
  a66 := Tryz.isAgg261
  z66 := Tryz.sizeOf261
  v66 := Tryz.zeroValue261
  t70 := Tryz.underlying265
  a70 := Tryz.isAgg265
  z70 := Tryz.sizeOf265
  v70 := Tryz.zeroValue265
  t76 := Tryz.underlying271
  a76 := Tryz.isAgg271
  z76 := Tryz.sizeOf271
  v76 := Tryz.zeroValue271
  t77 := Tryz.underlying40
  a77 := Tryz.isAgg40
  z77 := Tryz.sizeOf40
  v77 := Tryz.zeroValue40 }

def encP (x : Pt) : List Value := [.int .i64 x.p, .int .i64 x.n]
theorem cmpLaysP [Inhabited Pt] (blk off size : Nat) (w : World) : CmpLays Tryz.prog 61 #[] encP 2 cfP blk off size w := fun _ _ _ _ x y => cmpP_c x.p x.n y.p y.n _
theorem sortFunc_c [Inhabited Pt] (blk off cap : Nat) (d : Array Pt) (w : World) (hH : HoldsK encP 2 w blk off d) (hblk : blk < w.heap.size) (hsz : d.size < 4611686018427387904) :
    Calls Tryz.prog 60 #[.slice (some ⟨blk, off, none⟩) d.size cap, .func (.func 61) #[] #[]] w fun e w' =>
      e = .returned (.tuple #[]) ∧ ∃ n os, w' = sortWorldK encP 2 w blk off n (d.toList.mergeSort fun x y => !(ltOf cfP) y x).toArray os :=
  AnyQ.slices_SortFunc_total sortL 2 Tryz.isAgg110 Tryz.sizeOf110 encP (fun _ => rfl) (fun x v hv => by simp [encP] at hv; rcases hv with rfl | rfl <;> rfl) cfP swoP 61 #[] blk off cap d w (enters_of Tryz.func61 (by kernel_rfl) rfl) (cmpLaysP blk off d.size w) hH hblk hsz totP
end Go.Proofs.YtpcnfoaoajfhlaaGreatDoor

namespace Go.Proofs.YtpcnfoaoajfhlaaGreatDoor
set_option linter.unusedVariables false
set_option linter.unusedSimpArgs false
open Go.RowKit

theorem eqI_step {a b : List Int} {j : Nat} (ha : j < a.length) (hb : j < b.length) : (a.drop j == b.drop j) = ((a[j] == b[j]) && (a.drop (j + 1) == b.drop (j + 1))) := by
  rw [List.drop_eq_getElem_cons ha, List.drop_eq_getElem_cons hb]
  rfl
theorem eqI_len {a b : List Int} (h : a.length ≠ b.length) : (a == b) = false := by
  rw [beq_eq_false_iff_ne]
  intro h'
  exact h (by rw [h'])


theorem hasI_hit {a : List Int} {x : Int} {j : Nat} (h : j < a.length) (hx : a[j] = x) : (a.drop j).contains x = true := by
  rw [List.drop_eq_getElem_cons h, List.contains_cons, hx]
  simp
theorem hasI_miss {a : List Int} {x : Int} {j : Nat} (h : j < a.length) (hx : ¬ a[j] = x) : (a.drop j).contains x = (a.drop (j + 1)).contains x := by
  rw [List.drop_eq_getElem_cons h, List.contains_cons]
  have : (x == a[j]) = false := by simp; exact fun h => hx h.symm
  rw [this, Bool.false_or]

set_option maxHeartbeats 4000000 in
theorem in_c (va : Value) (a : List Int) (x : Int) (w : World) (hra : IntsIs w va a) :
    Calls Tryz.prog 33 #[va, .int .i64 x] w fun e w' => e = .returned (.bool (a.contains x)) ∧ Below w.heap.size w w' := by
  obtain ⟨hla, pa, capa, rfl, hrowa⟩ := hra
  have HRA : Hid (a ≠ [] → ∃ bb o, pa = some ⟨bb, o, none⟩ ∧ bb < w.heap.size ∧ ∀ j (h : j < a.length), w.cell? ⟨bb, o + j, none⟩ = some (.int .i64 a[j])) := hrowa
  clear hrowa
  obtain ⟨n, HN⟩ : ∃ n, Hid (a.length = n) := ⟨_, rfl⟩
  rw [HN.out] at hla ⊢
  have hn63 : n ≤ 9223372036854775807 := hla
  obtain ⟨R, HR⟩ : ∃ R, Hid (a.contains x = R) := ⟨_, rfl⟩
  rw [HR.out]
  go_enter Tryz.func33, Tryz.ntmps33
  go_wp2_with fail
  go_loopw [5] (fun i wr => ∃ j : Nat, j ≤ n ∧ i = .int .i64 j ∧ Hid (R = (a.drop j).contains x) ∧ Hid (Below w.heap.size w wr)) (fun i _ => n - (intOf i).toNat)
  case atStart => exact ⟨0, Nat.zero_le _, rfl, by rw [List.drop_zero]; exact HR.out.symm, Below.refl _ _⟩
  case round =>
    obtain ⟨j, hj, rfl, HE, HB⟩ := hrel
    by_cases hlt : j < n
    · have hja : j < a.length := by rw [HN.out]; exact hlt
      obtain ⟨ba, oa, rfl, hbwa, hata⟩ := HRA.out (fun h => by simp [h] at hja)
      have c0 : wr.cell? ⟨ba, oa + j, none⟩ = some (.int .i64 a[j]) := (World.cell?_of_block (a := ⟨ba, oa + j, none⟩) (HB.out.block ba hbwa)).trans (hata j hja)
      clear hata
      have HHit : Hid (a[j] = x → R = true) := fun h => HE.out.trans (hasI_hit hja h)
      have HMiss : Hid (¬ a[j] = x → R = (a.drop (j + 1)).contains x) := fun h => HE.out.trans (hasI_miss hja h)
      obtain ⟨y, HY⟩ : ∃ y, Hid (a[j] = y) := ⟨a[j], show a[j] = a[j] from rfl⟩
      rw [HY.out] at c0 HHit HMiss
      have hlti : (j : Int) < (n : Int) := by omega
      by_cases hs : y = x
      · have HRt : Hid (R = true) := HHit.out hs
        go_wp2_with fail
        go_ret
        exact ⟨by rw [HRt.out]; rfl, by have hb := HB.out; go_grown⟩
      · have HRt : Hid (R = (a.drop (j + 1)).contains x) := HMiss.out hs
        go_wp2_with fail
        go_roundw
        case rel => exact ⟨j + 1, by omega, by go_num, HRt, HB⟩
        case measure => simp [intOf]; omega
    · obtain rfl : j = n := by omega
      have HR0 : Hid (R = false) := by
        show R = false
        rw [HE.out, List.drop_eq_nil_of_le (by rw [HN.out]; exact Nat.le_refl _)]
        rfl
      go_wp2_with fail
      go_ret
      exact ⟨by rw [HR0.out]; rfl, HB.out⟩
end Go.Proofs.YtpcnfoaoajfhlaaGreatDoor

namespace Go.Proofs.YtpcnfoaoajfhlaaGreatDoor
set_option linter.unusedVariables false
set_option linter.unusedSimpArgs false
end Go.Proofs.YtpcnfoaoajfhlaaGreatDoor

namespace Go.Proofs.YtpcnfoaoajfhlaaGreatDoor
set_option linter.unusedVariables false
set_option linter.unusedSimpArgs false
open Go.RowKit

theorem withinR_c (n lo hi : Int) (w : World) : Calls Tryz.prog 58 #[.int .i64 n, .int .i64 lo, .int .i64 hi] w fun e w' => e = .returned (.bool (inR n lo hi)) ∧ w' = w := by
  go_enter Tryz.func58, Tryz.ntmps58
  go_wp2_with fail
  · go_ret
    refine ⟨?_, rfl⟩
    rename_i h
    simp [inR, h]
  · go_ret
    refine ⟨?_, rfl⟩
    rename_i h
    have h2 : ¬ lo ≤ n := by omega
    simp [inR, h2]
theorem withinR_b (n lo hi : Int) (b : Bool) (w : World) (hb : inR n lo hi = b) : Calls Tryz.prog 58 #[.int .i64 n, .int .i64 lo, .int .i64 hi] w fun e w' => e = .returned (.bool b) ∧ w' = w := by
  subst hb
  exact withinR_c n lo hi w
theorem isNodeR_b (n : Int) (b : Bool) (w : World) (hb : inR n 0 5 = b) : Calls Tryz.prog 103 #[.int .i64 n] w fun e w' => e = .returned (.bool b) ∧ w' = w := by
  have H : Hid (inR n 0 5 = b) := hb
  clear hb
  go_enter Tryz.func103, Tryz.ntmps103
  go_wp2_with (go_at_call 58; refine (withinR_b _ _ _ b _ H.out).mono ?_; rintro e w' ⟨rfl, rfl⟩)
  go_ret
  exact ⟨rfl, rfl⟩

set_option maxHeartbeats 1000000 in
theorem placeR_c (a b : Nat) (w : World) (ha : a ≤ 4294967295) (hb : b ≤ 4294967295) (hT : Lib.TabIs Tryz.prog w powName .u64 Lib.pow10Tab) :
    Calls Tryz.prog 59 #[.int .i64 (a : Nat), .int .i64 (b : Nat)] w fun e w' => e = .returned (.tuple #[.int .i64 (plP a b : Nat), .nilIface]) ∧ Below w.heap.size w w' := by
  have HC : Hid _ := two_ok a b w ha hb hT
  have e0 : plP a b = hashL (byN (str2 a b)) % 256 := rfl
  rw [e0]
  clear e0 hT
  have hlt : hashL (byN (str2 a b)) < 4294967296 := hashL_lt _
  generalize hashL (byN (str2 a b)) = x at HC hlt ⊢
  go_enter Tryz.func59, Tryz.ntmps59
  go_wp2_with fail
  refine Calls.mono HC.out ?_
  rintro e w1 ⟨rfl, hb⟩
  have HB : Hid (Below w.heap.size w w1) := hb
  clear hb
  go_wp2_with fail
  go_ret2
  exact ⟨rfl, HB.out⟩

theorem nat_zero {n : Nat} (h : n = 0) : ((n : Int) == 0) = true := by simp [h]
theorem nat_some {n : Nat} (h : n ≠ 0) : ((n : Int) == 0) = false := by simp; exact h
theorem badNodes_zero {l : List Int} (h : l.length = 0) : badNodes l = 5 := by rw [badNodes, if_pos h]
theorem badNodes_full {l : List Int} (h : 6 < l.length) : badNodes l = 4 := by rw [badNodes, if_neg (by omega), if_pos h]
theorem badNodes_else {l : List Int} (h0 : l.length ≠ 0) (h : ¬ 6 < l.length) : badNodes l = badFrom (l.take 0) (l.drop 0) := by rw [badNodes, if_neg h0, if_neg h]; rfl
theorem badFrom_range {l : List Int} {j : Nat} (h : j < l.length) (hr : inR l[j] 0 5 = false) : badFrom (l.take j) (l.drop j) = 1 := by
  rw [badFrom_step h, if_pos]
  simp [inR] at hr
  omega
theorem badFrom_clash {l : List Int} {j : Nat} (h : j < l.length) (hr : inR l[j] 0 5 = true) (hc : (l.take j).contains l[j] = true) : badFrom (l.take j) (l.drop j) = 7 := by
  rw [badFrom_step h, if_neg, if_pos hc]
  simp [inR] at hr
  omega
theorem badFrom_next {l : List Int} {j : Nat} (h : j < l.length) (hr : inR l[j] 0 5 = true) (hc : (l.take j).contains l[j] = false) : badFrom (l.take j) (l.drop j) = badFrom (l.take (j + 1)) (l.drop (j + 1)) := by
  rw [badFrom_step h, if_neg, if_neg (by rw [hc]; simp)]
  simp [inR] at hr
  omega
set_option maxHeartbeats 4000000 in
theorem checkNodes_c (v : Value) (l : List Int) (w : World) (hr : IntsIs w v l) (hcap : CapOk v l.length) :
    Calls Tryz.prog 57 #[v] w fun e w' => e = .returned (eV (badNodes l)) ∧ w' = w := by
  obtain ⟨p, cap, rfl, hc1, hc2⟩ := hcap
  have HRow : Hid (IntsIs w (.slice p l.length cap) l) := hr
  obtain ⟨_, q, c, e, hrow⟩ := hr
  injection e with e1 e2 e3
  subst e1
  have HR : Hid (l ≠ [] → ∃ bb o, p = some ⟨bb, o, none⟩ ∧ bb < w.heap.size ∧ ∀ j (h : j < l.length), w.cell? ⟨bb, o + j, none⟩ = some (.int .i64 l[j])) := hrow
  clear hrow e2 e3
  by_cases h0 : l.length = 0
  · rw [badNodes_zero h0, eV_err (by omega)]
    have hi0 := nat_zero h0
    clear HR HRow
    generalize l.length = n at *
    go_enter Tryz.func57, Tryz.ntmps57
    go_wp2_with fail
    go_ret
    exact ⟨rfl, rfl⟩
  by_cases h6 : 6 < l.length
  · rw [badNodes_full h6, eV_err (by omega)]
    have hi0 := nat_some h0
    have hi6 : (6 : Int) < (l.length : Int) := by omega
    clear HR HRow
    generalize l.length = n at *
    go_enter Tryz.func57, Tryz.ntmps57
    go_wp2_with fail
    go_ret
    exact ⟨rfl, rfl⟩
  rw [badNodes_else h0 h6]
  obtain ⟨R, HE⟩ : ∃ R, Hid (badFrom (l.take 0) (l.drop 0) = R) := ⟨_, rfl⟩
  rw [HE.out]
  have hi0 := nat_some h0
  have hi6 : ¬ (6 : Int) < (l.length : Int) := by omega
  obtain ⟨n, HN⟩ : ∃ n, Hid (l.length = n) := ⟨_, rfl⟩
  rw [HN.out] at hc1 h0 h6 hi0 hi6 HRow ⊢
  have hc63 : cap ≤ 9223372036854775807 := hc2
  go_enter Tryz.func57, Tryz.ntmps57
  go_wp2_with fail
  go_loopw [15] (fun i wr => ∃ j : Nat, j ≤ n ∧ i = .int .i64 j ∧ Hid (badFrom (l.take j) (l.drop j) = R) ∧ wr = w) (fun i _ => n - (intOf i).toNat)
  case atStart => exact ⟨0, Nat.zero_le _, rfl, HE, rfl⟩
  case round =>
    obtain ⟨j, hj, rfl, HJ, rfl⟩ := hrel
    by_cases hlt : j < n
    · have hja : j < l.length := by rw [HN.out]; exact hlt
      obtain ⟨ba, oa, hp, hbwa, hata⟩ := HR.out (fun h => by simp [h] at hja)
      have c0 := hata j hja
      clear hata
      subst hp
      have HRow' : Hid (IntsIs wr (.slice (some ⟨ba, oa, none⟩) l.length cap) l) := by rw [HN.out]; exact HRow
      have hlti : (j : Int) < (n : Int) := by omega
      cases hin : inR l[j] 0 5
      · have HRv : Hid (R = 1) := HJ.out.symm.trans (badFrom_range hja hin)
        have HIn : Hid (inR l[j] 0 5 = false) := hin
        clear hin
        generalize l[j] = x at *
        go_wp2_with (go_at_call 103; refine (isNodeR_b x false _ HIn.out).mono ?_; rintro e w' ⟨rfl, rfl⟩)
        go_ret
        refine ⟨?_, rfl⟩
        rw [HRv.out, eV_err (by omega)]
        rfl
      · have HIn : Hid (inR l[j] 0 5 = true) := hin
        cases hco : (l.take j).contains l[j]
        · have HRv : Hid (badFrom (l.take (j + 1)) (l.drop (j + 1)) = R) := (badFrom_next hja hin hco).symm.trans HJ.out
          have HCo : Hid ((l.take j).contains l[j] = false) := hco
          clear hin hco
          generalize l[j] = x at *
          go_wp2_with fail
          refine (isNodeR_b x true _ HIn.out).mono ?_
          rintro e w' ⟨rfl, rfl⟩
          go_wp2_with fail
          refine (containsI_c _ (l.take j) x false _ (IntsIs.take HRow'.out (by rw [HN.out]; exact hj) (fun _ => rfl)) HCo.out).mono ?_
          rintro e w2 ⟨rfl, rfl⟩
          go_wp2_with fail
          go_roundw
          case rel => exact ⟨j + 1, by omega, by go_num, HRv, trivial⟩
          case measure => simp [intOf]; omega
        · have HRv : Hid (R = 7) := HJ.out.symm.trans (badFrom_clash hja hin hco)
          have HCo : Hid ((l.take j).contains l[j] = true) := hco
          clear hin hco
          generalize l[j] = x at *
          go_wp2_with fail
          refine (isNodeR_b x true _ HIn.out).mono ?_
          rintro e w' ⟨rfl, rfl⟩
          go_wp2_with fail
          refine (containsI_c _ (l.take j) x true _ (IntsIs.take HRow'.out (by rw [HN.out]; exact hj) (fun _ => rfl)) HCo.out).mono ?_
          rintro e w2 ⟨rfl, rfl⟩
          go_wp2_with fail
          go_ret
          refine ⟨?_, rfl⟩
          rw [HRv.out, eV_err (by omega)]
          rfl
    · obtain rfl : j = n := by omega
      have HR0 : Hid (R = 0) := by
        show R = 0
        rw [← HJ.out, List.drop_eq_nil_of_le (by rw [HN.out]; exact Nat.le_refl _)]
        rfl
      go_wp2_with fail
      go_ret
      exact ⟨by rw [HR0.out, eV_zero]; rfl, rfl⟩
end Go.Proofs.YtpcnfoaoajfhlaaGreatDoor
