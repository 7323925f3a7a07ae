/-
  The document's Nodes and Key, and meresame.Points at the same points, by their contracts.
  Package ring by its contracts: find, Owner.
-/
import Derived.Test.YtpcnfoaoajfhlaaGreatDoorRaay
import Derived.Test.YtpcnfoaoajfhlaaGreatDoorRaaw
import Derived.Shelf.Abstract
namespace Go.Proofs.YtpcnfoaoajfhlaaGreatDoor
set_option linter.unusedVariables false
set_option linter.unusedSimpArgs false
set_option linter.unusedVariables false
set_option linter.unusedSimpArgs false
open Go.RowKit

set_option maxHeartbeats 4000000 in
theorem inW_c (va : Value) (a : List Int) (x : Int) (R : Bool) (w : World) (hra : IntsIs w va a) (hR : a.contains x = R) :
    Calls Tryz.prog 33 #[va, .int .i64 x] w fun e w' => e = .returned (.bool R) ∧ w' = w := by
  obtain ⟨hla, pa, capa, rfl, hrowa⟩ := hra
  have HRA : Hid (a ≠ [] → ∃ bb o, pa = some ⟨bb, o, none⟩ ∧ bb < w.heap.size ∧ ∀ j (h : j < a.length), w.cell? ⟨bb, o + j, none⟩ = some (.int .i64 a[j])) := hrowa
  clear hrowa
  obtain ⟨n, HN⟩ : ∃ n, Hid (a.length = n) := ⟨_, rfl⟩
  rw [HN.out] at hla ⊢
  have hn63 : n ≤ 9223372036854775807 := hla
  have HR : Hid (a.contains x = R) := hR
  clear hR
  go_enter Tryz.func33, Tryz.ntmps33
  go_wp2_with fail
  go_loopw [5] (fun i wr => ∃ j : Nat, j ≤ n ∧ i = .int .i64 j ∧ Hid (R = (a.drop j).contains x) ∧ wr = w) (fun i _ => n - (intOf i).toNat)
  case atStart => exact ⟨0, Nat.zero_le _, rfl, by rw [List.drop_zero]; exact HR.out.symm, rfl⟩
  case round =>
    obtain ⟨j, hj, rfl, HE, rfl⟩ := hrel
    by_cases hlt : j < n
    · have hja : j < a.length := by rw [HN.out]; exact hlt
      obtain ⟨ba, oa, rfl, hbwa, hata⟩ := HRA.out (fun h => by simp [h] at hja)
      have c0 := hata j hja
      clear hata
      have HHit : Hid (a[j] = x → R = true) := fun h => HE.out.trans (hasI_hit hja h)
      have HMiss : Hid (¬ a[j] = x → R = (a.drop (j + 1)).contains x) := fun h => HE.out.trans (hasI_miss hja h)
      obtain ⟨y, HY⟩ : ∃ y, Hid (a[j] = y) := ⟨a[j], show a[j] = a[j] from rfl⟩
      rw [HY.out] at c0 HHit HMiss
      have hlti : (j : Int) < (n : Int) := by omega
      by_cases hs : y = x
      · have HRt : Hid (R = true) := HHit.out hs
        go_wp2_with fail
        go_ret
        exact ⟨by rw [HRt.out]; rfl, rfl⟩
      · have HRt : Hid (R = (a.drop (j + 1)).contains x) := HMiss.out hs
        go_wp2_with fail
        go_roundw
        case rel => exact ⟨j + 1, by omega, by go_num, HRt, trivial⟩
        case measure => simp [intOf]; omega
    · obtain rfl : j = n := by omega
      have HR0 : Hid (R = false) := by
        show R = false
        rw [HE.out, List.drop_eq_nil_of_le (by rw [HN.out]; exact Nat.le_refl _)]
        rfl
      go_wp2_with fail
      go_ret
      exact ⟨by rw [HR0.out]; rfl, rfl⟩
theorem keyR_c (k : Int) (w : World) : Calls Tryz.prog 47 #[.int .i64 k] w fun e w' => e = .returned (.bool (inR k 0 7)) ∧ w' = w := by
  go_enter Tryz.func47, Tryz.ntmps47
  go_wp2_with fail
  · go_ret
    refine ⟨?_, rfl⟩
    rename_i h
    simp [inR, h]
  · go_ret
    refine ⟨?_, rfl⟩
    rename_i h
    have h2 : ¬ 0 ≤ k := by omega
    simp [inR, h2]
theorem drew_ints {w : World} {v : Value} {l : List Int} (h : IntsIs w v l) (n : Nat) : IntsIs (w.drewN n) v l := h.below (below_drewN _ _ _)
end Go.Proofs.YtpcnfoaoajfhlaaGreatDoor

namespace Go.Proofs.YtpcnfoaoajfhlaaGreatDoor
set_option linter.unusedVariables false
set_option linter.unusedSimpArgs false
open Go.RowKit Go.Shelf

/-- where the first is that is so, -1: none -/
def idxP (n : Nat) (p : Nat → Bool) : Nat → Int
  | 0 => -1
  | f + 1 => if p (n - (f + 1)) = true then ((n - (f + 1) : Nat) : Int) else idxP n p f
theorem idxP_hit {n : Nat} {p : Nat → Bool} {j : Nat} (h : j < n) (hp : p j = true) : idxP n p (n - j) = j := by
  obtain ⟨f, hf⟩ : ∃ f, n - j = f + 1 := ⟨n - j - 1, by omega⟩
  rw [hf, idxP, show n - (f + 1) = j by omega, if_pos hp]
theorem idxP_miss {n : Nat} {p : Nat → Bool} {j : Nat} (h : j < n) (hp : p j = false) : idxP n p (n - j) = idxP n p (n - (j + 1)) := by
  obtain ⟨f, hf⟩ : ∃ f, n - j = f + 1 := ⟨n - j - 1, by omega⟩
  rw [hf, idxP, show n - (f + 1) = j by omega, if_neg (by rw [hp]; simp), show n - (j + 1) = f by omega]
theorem idxP_end (n : Nat) (p : Nat → Bool) : idxP n p (n - n) = -1 := by rw [Nat.sub_self]; rfl
set_option maxHeartbeats 4000000 in
theorem indexP_c (f : FuncId) (caps : Array Value) (v : Value) (l : List Pt) (p : Nat → Bool) (w : World) (hr : PtsIs w v l)
    (eg : ∀ args w, (callFunc f args).run Tryz.prog w = .ok (.enter f args) w) (hf : ∀ j (h : j < l.length) w', Below w.heap.size w w' → Calls Tryz.prog f (#[l[j].val] ++ caps) w' fun e w'' => e = .returned (.bool (p j)) ∧ Below w'.heap.size w' w'') :
    Calls Tryz.prog 110 #[v, .func (.func f) #[] caps] w fun e w' => e = .returned (.int .i64 (idxP l.length p l.length)) ∧ Below w.heap.size w w' := by
  obtain ⟨hlen, pp, cap, rfl, hrow⟩ := hr
  have HRow : Hid (l ≠ [] → ∃ b o, pp = some ⟨b, o, none⟩ ∧ b < w.heap.size ∧ ∀ j (h : j < l.length), PtAt w b (o + j * 2) l[j]) := hrow
  have HF : Hid (∀ j (h : j < l.length) w', Below w.heap.size w w' → Calls Tryz.prog f (#[l[j].val] ++ caps) w' fun e w'' => e = .returned (.bool (p j)) ∧ Below w'.heap.size w' w'') := hf
  clear hrow hf
  obtain ⟨n, HN⟩ : ∃ n, Hid (l.length = n) := ⟨_, rfl⟩
  rw [HN.out] at hlen ⊢
  have hn63 : n ≤ 9223372036854775807 := hlen
  obtain ⟨R, HR⟩ : ∃ R, Hid (idxP n p n = R) := ⟨_, rfl⟩
  rw [HR.out]
  go_enter Tryz.func110, Tryz.ntmps110
  go_wp2_with fail
  go_loopw [8] (fun i wr => ∃ j : Nat, j ≤ n ∧ i = .int .i64 j ∧ Hid (R = idxP n p (n - j)) ∧ Hid (Below w.heap.size w wr)) (fun i _ => n - (intOf i).toNat)
  case atStart => exact ⟨0, Nat.zero_le _, rfl, HR.out.symm, Below.refl _ _⟩
  case round =>
    obtain ⟨j, hj, rfl, HJ, HB⟩ := hrel
    by_cases hlt : j < n
    · have hlti : (j : Int) < (n : Int) := by omega
      have hjl : j < l.length := by rw [HN.out]; exact hlt
      obtain ⟨b, o, rfl, hbw, hat⟩ := HRow.out (fun h => by simp [h] at hjl)
      have HAt : Hid (PtAt wr b (o + j * 2) l[j]) := (hat j hjl).of_block (HB.out.block b hbw)
      have HC : Hid _ := HF.out j hjl wr HB.out
      clear hat
      obtain ⟨x, HX⟩ : ∃ x, Hid (l[j] = x) := ⟨l[j], show l[j] = l[j] from rfl⟩
      rw [HX.out] at HAt HC
      obtain ⟨x0, x1⟩ := x
      obtain ⟨c0, c1⟩ := HAt.out
      dsimp only at c0 c1
      cases hp : p j
      · rw [idxP_miss hlt hp] at HJ
        rw [hp] at HC
        go_wp2_with fail
        refine Calls.mono HC.out ?_
        rintro e w1 ⟨rfl, hb⟩
        have B1 : Hid (Below w.heap.size w w1) := HB.out.trans (hb.mono HB.out.size)
        clear hb c0 c1
        go_wp2_with fail
        go_roundw
        case rel => exact ⟨j + 1, by omega, by go_num, HJ, B1⟩
        case measure => simp [intOf]; omega
      · rw [idxP_hit hlt hp] at HJ
        rw [hp] at HC
        go_wp2_with fail
        refine Calls.mono HC.out ?_
        rintro e w1 ⟨rfl, hb⟩
        have B1 : Hid (Below w.heap.size w w1) := HB.out.trans (hb.mono HB.out.size)
        clear hb c0 c1
        go_wp2_with fail
        go_ret
        exact ⟨by rw [HJ.out]; rfl, B1.out⟩
    · obtain rfl : j = n := by omega
      rw [idxP_end] at HJ
      go_wp2_with fail
      go_ret
      exact ⟨by rw [HJ.out]; rfl, HB.out⟩
/-- how far from a place on the first point is that is not below t -/
theorem idx_first (t : Int) (l : List Pt) : ∀ d j, l.length - j = d → j ≤ l.length → idxP l.length (fun j => decide (t ≤ (l.getD j ⟨0, 0⟩).p)) (l.length - j) = if firstP t (l.drop j) < l.length - j then ((j + firstP t (l.drop j) : Nat) : Int) else -1 := by
  intro d
  induction d with
  | zero =>
    intro j hd hj
    obtain rfl : j = l.length := by omega
    rw [idxP_end, List.drop_length, if_neg (by omega)]
  | succ d ih =>
    intro j hd hj
    have hjl : j < l.length := by omega
    have hg : l.getD j ⟨0, 0⟩ = l[j] := by simp [List.getD_eq_getElem?_getD, hjl]
    rw [List.drop_eq_getElem_cons hjl, firstP]
    by_cases hp : l[j].p < t
    · rw [idxP_miss hjl (by rw [hg]; simp; omega), ih (j + 1) (by omega) (by omega), if_pos hp]
      by_cases h : firstP t (l.drop (j + 1)) < l.length - (j + 1)
      · rw [if_pos h, if_pos (by omega)]
        congr 1
        omega
      · rw [if_neg h, if_neg (by omega)]
    · rw [idxP_hit hjl (by rw [hg]; simp; omega), if_neg hp, if_pos (by omega)]
      rfl
theorem idx_all (t : Int) (l : List Pt) : idxP l.length (fun j => decide (t ≤ (l.getD j ⟨0, 0⟩).p)) l.length = if firstP t l < l.length then (firstP t l : Int) else -1 := by
  have h := idx_first t l l.length 0 (by omega) (by omega)
  rw [Nat.sub_zero, List.drop_zero, Nat.zero_add] at h
  exact h
set_option maxHeartbeats 1000000 in
theorem find1_c (t x0 x1 : Int) (tb : Nat) (w : World) (ct : w.cell? ⟨tb, 0, none⟩ = some (.int .i64 t)) :
    Calls Tryz.prog 111 #[.agg #[.int .i64 x0, .int .i64 x1], .pointer (some ⟨tb, 0, none⟩)] w fun e w' => e = .returned (.bool (decide (t ≤ x0))) ∧ Below w.heap.size w w' := by
  have htl := World.block_lt_of_cell? w _ ct
  dsimp only at htl
  go_enter Tryz.func111, Tryz.ntmps111
  go_wp2_with fail
  go_ret
  exact ⟨rfl, by go_grown⟩
/-- what is wrong with points and a key -/
def badFind (l : List Pt) (key : Int) : Int := if rightP l = false then 3 else if inR key 0 7 = false then 1 else 0
theorem badFind_zero {l : List Pt} {key : Int} (h : badFind l key = 0) : rightP l = true ∧ inR key 0 7 = true := by
  unfold badFind at h
  split at h
  · cases h
  · rename_i h1
    split at h
    · cases h
    · rename_i h2
      exact ⟨by simpa using h1, by simpa using h2⟩
theorem keyP_nat {key : Int} (h : inR key 0 7 = true) : ∃ k : Nat, key = (k : Int) ∧ k ≤ 7 := by
  simp [inR] at h
  exact ⟨key.toNat, by omega, by omega⟩
set_option maxHeartbeats 4000000 in
theorem find_bad (v : Value) (l : List Pt) (key : Int) (w : World) (e0 : Int) (hr : PtsIs w v l) (he : badFind l key = e0) (h0 : e0 ≠ 0) :
    Calls Tryz.prog 63 #[v, .int .i64 key] w fun e w' => e = .returned (.tuple #[.int .i64 0, .iface 85 (.int .i64 e0)]) ∧ Below w.heap.size w w' := by
  have HA : Hid _ := areRight_c v l w hr
  clear hr
  unfold badFind at he
  cases hR : rightP l
  · rw [if_pos hR] at he
    subst he
    rw [hR] at HA
    clear hR
    go_enter Tryz.func63, Tryz.ntmps63
    go_wp2_with fail
    refine Calls.mono HA.out ?_
    rintro e w1 ⟨rfl, hb⟩
    have B1 : Hid (Below w.heap.size w w1) := hb
    clear hb
    go_wp2_with fail
    go_ret2
    exact ⟨rfl, B1.out⟩
  · rw [if_neg (by rw [hR]; simp)] at he
    rw [hR] at HA
    clear hR
    cases hK : inR key 0 7
    · rw [if_pos hK] at he
      subst he
      have HK : Hid (inR key 0 7 = false) := hK
      clear hK
      go_enter Tryz.func63, Tryz.ntmps63
      go_wp2_with fail
      refine Calls.mono HA.out ?_
      rintro e w1 ⟨rfl, hb⟩
      have B1 : Hid (Below w.heap.size w w1) := hb
      clear hb
      go_wp2_with (go_at_call 58; refine (withinR_b _ _ _ false _ HK.out).mono ?_; rintro e w' ⟨rfl, rfl⟩)
      go_ret2
      exact ⟨rfl, B1.out⟩
    · rw [if_neg (by rw [hK]; simp)] at he
      exact absurd he.symm h0
set_option maxHeartbeats 4000000 in
theorem find_ok (v : Value) (l : List Pt) (k : Nat) (w : World) (hr : PtsIs w v l) (hR : rightP l = true) (hk : k ≤ 7) (hT : Lib.TabIs Tryz.prog w powName .u64 Lib.pow10Tab) :
    Calls Tryz.prog 63 #[v, .int .i64 (k : Nat)] w fun e w' => e = .returned (.tuple #[.int .i64 (firstQ (keyT k) l : Nat), .nilIface]) ∧ Below w.heap.size w w' := by
  have HA : Hid _ := areRight_c v l w hr
  rw [hR] at HA
  have HV : Hid (PtsIs w v l) := hr
  have HTb : Hid (Lib.TabBelow Tryz.prog w.heap.size w powName .u64 Lib.pow10Tab) := Lib.tabBelow_of_tabIs hT
  have HK : Hid (inR (k : Int) 0 7 = true) := by
    show inR (k : Int) 0 7 = true
    simp [inR]
    omega
  clear hr hR hT
  have HPl : Hid (∀ W, Lib.TabIs Tryz.prog W powName .u64 Lib.pow10Tab → Calls Tryz.prog 59 #[.int .i64 (k : Nat), .int .i64 (k : Nat)] W fun e w' => e = .returned (.tuple #[.int .i64 (plP k k : Nat), .nilIface]) ∧ Below W.heap.size W w') := fun W hW => placeR_c k k W (by omega) (by omega) hW
  have hkt : keyT k = (plP k k : Int) := rfl
  rw [hkt]
  clear hkt
  generalize plP k k = t at HPl ⊢
  have HFst : Hid ((firstP (t : Int) l < l.length ∧ firstQ (t : Int) l = firstP (t : Int) l) ∨ (¬ firstP (t : Int) l < l.length ∧ firstQ (t : Int) l = 0)) := by
    show _ ∨ _
    unfold firstQ
    by_cases h : firstP (t : Int) l < l.length
    · exact .inl ⟨h, if_pos h⟩
    · exact .inr ⟨h, if_neg h⟩
  generalize firstQ (t : Int) l = Q at HFst ⊢
  go_enter Tryz.func63, Tryz.ntmps63
  go_wp2_with fail
  refine Calls.mono HA.out ?_
  rintro e w1 ⟨rfl, hb⟩
  have B1 : Hid (Below w.heap.size w w1) := hb
  clear hb
  go_wp2_with fail
  refine (withinR_b _ _ _ true _ HK.out).mono ?_
  rintro e w2 ⟨rfl, hw⟩
  have hw' := hw.symm
  clear hw
  subst hw'
  go_wp2_with fail
  refine (HPl.out _ (HTb.out _ B1.out)).mono ?_
  rintro e w2 ⟨rfl, hb⟩
  have B2 : Hid (Below w.heap.size w w2) := B1.out.trans (hb.mono B1.out.size)
  clear hb B1
  go_upto_region 8 with fail
  obtain ⟨w3, HW⟩ : ∃ w3, w3 = w2.alloc (.cells #[.int .i64 (t : Int)] 3) := ⟨_, rfl⟩
  rw [← HW]
  have B3 : Hid (Below w.heap.size w w3) := by rw [HW]; exact B2.out.alloc B2.out.size _
  have CT : Hid (w3.cell? ⟨w2.heap.size, 0, none⟩ = some (.int .i64 (t : Int)) ∧ w2.heap.size < w3.heap.size) := by
    rw [HW]
    exact ⟨by simp, by simp⟩
  clear HW
  have HI : Hid (Calls Tryz.prog 110 #[v, .func (.func 111) #[] #[.pointer (some ⟨w2.heap.size, 0, none⟩)]] w3 fun e w' => e = .returned (.int .i64 (if firstP (t : Int) l < l.length then (firstP (t : Int) l : Int) else -1)) ∧ Below w3.heap.size w3 w') := by
    rw [← idx_all]
    refine indexP_c 111 #[.pointer (some ⟨w2.heap.size, 0, none⟩)] v l (fun j => decide ((t : Int) ≤ (l.getD j ⟨0, 0⟩).p)) w3 (HV.out.below B3.out) (enters_of Tryz.func111 (by kernel_rfl) rfl) ?_
    intro j hj W hW
    have hg : l.getD j ⟨0, 0⟩ = l[j] := by simp [List.getD_eq_getElem?_getD, hj]
    simp only [hg]
    generalize l[j] = x
    obtain ⟨x0, x1⟩ := x
    exact find1_c (t : Int) x0 x1 _ W ((World.cell?_of_block (a := ⟨w2.heap.size, 0, none⟩) (hW.block _ CT.out.2)).trans CT.out.1)
  have hmx := HV.out.1
  rcases HFst.out with ⟨hlt, hq⟩ | ⟨hlt, hq⟩
  · rw [if_pos hlt, ← hq] at HI
    have hQ : Q ≤ 9223372036854775807 := by unfold maxLen at hmx; omega
    clear hlt hmx hq
    go_wp2_with fail
    refine Calls.mono HI.out ?_
    rintro e w4 ⟨rfl, hb⟩
    have B4 : Hid (Below w.heap.size w w4) := B3.out.trans (hb.mono B3.out.size)
    clear hb
    go_wp2_with fail
    go_ret2
    exact ⟨rfl, B4.out⟩
  · rw [if_neg hlt] at HI
    subst hq
    clear hlt hmx
    go_wp2_with fail
    refine Calls.mono HI.out ?_
    rintro e w4 ⟨rfl, hb⟩
    have B4 : Hid (Below w.heap.size w w4) := B3.out.trans (hb.mono B3.out.size)
    clear hb
    go_wp2_with fail
    go_ret2
    exact ⟨rfl, B4.out⟩
end Go.Proofs.YtpcnfoaoajfhlaaGreatDoor
