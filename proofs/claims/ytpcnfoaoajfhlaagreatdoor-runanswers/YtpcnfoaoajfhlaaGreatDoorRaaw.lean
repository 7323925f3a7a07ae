/-
  Package ring by its contracts: find, Owner.
  Package ring by its contracts: Owner, Owners.
  The document's Points, by its contract.
-/
import Derived.Test.YtpcnfoaoajfhlaaGreatDoorRaat
import Derived.Shelf.Abstract
import Derived.Test.YtpcnfoaoajfhlaaGreatDoorRaav
import Derived.Test.YtpcnfoaoajfhlaaGreatDoorRaau
namespace Go.Proofs.YtpcnfoaoajfhlaaGreatDoor
set_option linter.unusedVariables false
set_option linter.unusedSimpArgs false
set_option linter.unusedVariables false
set_option linter.unusedSimpArgs false
open Go.RowKit Go.Shelf

/-- where the first is that is so, -1: none -/
def idxP (n : Nat) (p : Nat → Bool) : Nat → Int
  | 0 => -1
  | f + 1 => if p (n - (f + 1)) = true then ((n - (f + 1) : Nat) : Int) else idxP n p f
theorem idxP_hit {n : Nat} {p : Nat → Bool} {j : Nat} (h : j < n) (hp : p j = true) : idxP n p (n - j) = j := by
  obtain ⟨f, hf⟩ : ∃ f, n - j = f + 1 := ⟨n - j - 1, by omega⟩
  rw [hf, idxP, show n - (f + 1) = j by omega, if_pos hp]
theorem idxP_miss {n : Nat} {p : Nat → Bool} {j : Nat} (h : j < n) (hp : p j = false) : idxP n p (n - j) = idxP n p (n - (j + 1)) := by
  obtain ⟨f, hf⟩ : ∃ f, n - j = f + 1 := ⟨n - j - 1, by omega⟩
  rw [hf, idxP, show n - (f + 1) = j by omega, if_neg (by rw [hp]; simp), show n - (j + 1) = f by omega]
theorem idxP_end (n : Nat) (p : Nat → Bool) : idxP n p (n - n) = -1 := by rw [Nat.sub_self]; rfl
set_option maxHeartbeats 4000000 in
theorem indexP_c (f : FuncId) (caps : Array Value) (v : Value) (l : List Pt) (p : Nat → Bool) (w : World) (hr : PtsIs w v l)
    (eg : ∀ args w, (callFunc f args).run Tryz.prog w = .ok (.enter f args) w) (hf : ∀ j (h : j < l.length) w', Below w.heap.size w w' → Calls Tryz.prog f (#[l[j].val] ++ caps) w' fun e w'' => e = .returned (.bool (p j)) ∧ Below w'.heap.size w' w'') :
    Calls Tryz.prog 110 #[v, .func (.func f) #[] caps] w fun e w' => e = .returned (.int .i64 (idxP l.length p l.length)) ∧ Below w.heap.size w w' := by
  obtain ⟨hlen, pp, cap, rfl, hrow⟩ := hr
  have HRow : Hid (l ≠ [] → ∃ b o, pp = some ⟨b, o, none⟩ ∧ b < w.heap.size ∧ ∀ j (h : j < l.length), PtAt w b (o + j * 2) l[j]) := hrow
  have HF : Hid (∀ j (h : j < l.length) w', Below w.heap.size w w' → Calls Tryz.prog f (#[l[j].val] ++ caps) w' fun e w'' => e = .returned (.bool (p j)) ∧ Below w'.heap.size w' w'') := hf
  clear hrow hf
  obtain ⟨n, HN⟩ : ∃ n, Hid (l.length = n) := ⟨_, rfl⟩
  rw [HN.out] at hlen ⊢
  have hn63 : n ≤ 9223372036854775807 := hlen
  obtain ⟨R, HR⟩ : ∃ R, Hid (idxP n p n = R) := ⟨_, rfl⟩
  rw [HR.out]
  go_enter Tryz.func110, Tryz.ntmps110
  go_wp2_with fail
  go_loopw [8] (fun i wr => ∃ j : Nat, j ≤ n ∧ i = .int .i64 j ∧ Hid (R = idxP n p (n - j)) ∧ Hid (Below w.heap.size w wr)) (fun i _ => n - (intOf i).toNat)
  case atStart => exact ⟨0, Nat.zero_le _, rfl, HR.out.symm, Below.refl _ _⟩
  case round =>
    obtain ⟨j, hj, rfl, HJ, HB⟩ := hrel
    by_cases hlt : j < n
    · have hlti : (j : Int) < (n : Int) := by omega
      have hjl : j < l.length := by rw [HN.out]; exact hlt
      obtain ⟨b, o, rfl, hbw, hat⟩ := HRow.out (fun h => by simp [h] at hjl)
      have HAt : Hid (PtAt wr b (o + j * 2) l[j]) := (hat j hjl).of_block (HB.out.block b hbw)
      have HC : Hid _ := HF.out j hjl wr HB.out
      clear hat
      obtain ⟨x, HX⟩ : ∃ x, Hid (l[j] = x) := ⟨l[j], show l[j] = l[j] from rfl⟩
      rw [HX.out] at HAt HC
      obtain ⟨x0, x1⟩ := x
      obtain ⟨c0, c1⟩ := HAt.out
      dsimp only at c0 c1
      cases hp : p j
      · rw [idxP_miss hlt hp] at HJ
        rw [hp] at HC
        go_wp2_with fail
        refine Calls.mono HC.out ?_
        rintro e w1 ⟨rfl, hb⟩
        have B1 : Hid (Below w.heap.size w w1) := HB.out.trans (hb.mono HB.out.size)
        clear hb c0 c1
        go_wp2_with fail
        go_roundw
        case rel => exact ⟨j + 1, by omega, by go_num, HJ, B1⟩
        case measure => simp [intOf]; omega
      · rw [idxP_hit hlt hp] at HJ
        rw [hp] at HC
        go_wp2_with fail
        refine Calls.mono HC.out ?_
        rintro e w1 ⟨rfl, hb⟩
        have B1 : Hid (Below w.heap.size w w1) := HB.out.trans (hb.mono HB.out.size)
        clear hb c0 c1
        go_wp2_with fail
        go_ret
        exact ⟨by rw [HJ.out]; rfl, B1.out⟩
    · obtain rfl : j = n := by omega
      rw [idxP_end] at HJ
      go_wp2_with fail
      go_ret
      exact ⟨by rw [HJ.out]; rfl, HB.out⟩
/-- how far from a place on the first point is that is not below t -/
theorem idx_first (t : Int) (l : List Pt) : ∀ d j, l.length - j = d → j ≤ l.length → idxP l.length (fun j => decide (t ≤ (l.getD j ⟨0, 0⟩).p)) (l.length - j) = if firstP t (l.drop j) < l.length - j then ((j + firstP t (l.drop j) : Nat) : Int) else -1 := by
  intro d
  induction d with
  | zero =>
    intro j hd hj
    obtain rfl : j = l.length := by omega
    rw [idxP_end, List.drop_length, if_neg (by omega)]
  | succ d ih =>
    intro j hd hj
    have hjl : j < l.length := by omega
    have hg : l.getD j ⟨0, 0⟩ = l[j] := by simp [List.getD_eq_getElem?_getD, hjl]
    rw [List.drop_eq_getElem_cons hjl, firstP]
    by_cases hp : l[j].p < t
    · rw [idxP_miss hjl (by rw [hg]; simp; omega), ih (j + 1) (by omega) (by omega), if_pos hp]
      by_cases h : firstP t (l.drop (j + 1)) < l.length - (j + 1)
      · rw [if_pos h, if_pos (by omega)]
        congr 1
        omega
      · rw [if_neg h, if_neg (by omega)]
    · rw [idxP_hit hjl (by rw [hg]; simp; omega), if_neg hp, if_pos (by omega)]
      rfl
theorem idx_all (t : Int) (l : List Pt) : idxP l.length (fun j => decide (t ≤ (l.getD j ⟨0, 0⟩).p)) l.length = if firstP t l < l.length then (firstP t l : Int) else -1 := by
  have h := idx_first t l l.length 0 (by omega) (by omega)
  rw [Nat.sub_zero, List.drop_zero, Nat.zero_add] at h
  exact h
set_option maxHeartbeats 1000000 in
theorem find1_c (t x0 x1 : Int) (tb : Nat) (w : World) (ct : w.cell? ⟨tb, 0, none⟩ = some (.int .i64 t)) :
    Calls Tryz.prog 111 #[.agg #[.int .i64 x0, .int .i64 x1], .pointer (some ⟨tb, 0, none⟩)] w fun e w' => e = .returned (.bool (decide (t ≤ x0))) ∧ Below w.heap.size w w' := by
  have htl := World.block_lt_of_cell? w _ ct
  dsimp only at htl
  go_enter Tryz.func111, Tryz.ntmps111
  go_wp2_with fail
  go_ret
  exact ⟨rfl, by go_grown⟩
/-- what is wrong with points and a key -/
def badFind (l : List Pt) (key : Int) : Int := if rightP l = false then 3 else if inR key 0 7 = false then 1 else 0
theorem badFind_zero {l : List Pt} {key : Int} (h : badFind l key = 0) : rightP l = true ∧ inR key 0 7 = true := by
  unfold badFind at h
  split at h
  · cases h
  · rename_i h1
    split at h
    · cases h
    · rename_i h2
      exact ⟨by simpa using h1, by simpa using h2⟩
theorem keyP_nat {key : Int} (h : inR key 0 7 = true) : ∃ k : Nat, key = (k : Int) ∧ k ≤ 7 := by
  simp [inR] at h
  exact ⟨key.toNat, by omega, by omega⟩
set_option maxHeartbeats 4000000 in
theorem find_bad (v : Value) (l : List Pt) (key : Int) (w : World) (e0 : Int) (hr : PtsIs w v l) (he : badFind l key = e0) (h0 : e0 ≠ 0) :
    Calls Tryz.prog 63 #[v, .int .i64 key] w fun e w' => e = .returned (.tuple #[.int .i64 0, .iface 85 (.int .i64 e0)]) ∧ Below w.heap.size w w' := by
  have HA : Hid _ := areRight_c v l w hr
  clear hr
  unfold badFind at he
  cases hR : rightP l
  · rw [if_pos hR] at he
    subst he
    rw [hR] at HA
    clear hR
    go_enter Tryz.func63, Tryz.ntmps63
    go_wp2_with fail
    refine Calls.mono HA.out ?_
    rintro e w1 ⟨rfl, hb⟩
    have B1 : Hid (Below w.heap.size w w1) := hb
    clear hb
    go_wp2_with fail
    go_ret2
    exact ⟨rfl, B1.out⟩
  · rw [if_neg (by rw [hR]; simp)] at he
    rw [hR] at HA
    clear hR
    cases hK : inR key 0 7
    · rw [if_pos hK] at he
      subst he
      have HK : Hid (inR key 0 7 = false) := hK
      clear hK
      go_enter Tryz.func63, Tryz.ntmps63
      go_wp2_with fail
      refine Calls.mono HA.out ?_
      rintro e w1 ⟨rfl, hb⟩
      have B1 : Hid (Below w.heap.size w w1) := hb
      clear hb
      go_wp2_with (go_at_call 58; refine (withinR_b _ _ _ false _ HK.out).mono ?_; rintro e w' ⟨rfl, rfl⟩)
      go_ret2
      exact ⟨rfl, B1.out⟩
    · rw [if_neg (by rw [hK]; simp)] at he
      exact absurd he.symm h0
set_option maxHeartbeats 4000000 in
theorem find_ok (v : Value) (l : List Pt) (k : Nat) (w : World) (hr : PtsIs w v l) (hR : rightP l = true) (hk : k ≤ 7) (hT : Lib.TabIs Tryz.prog w powName .u64 Lib.pow10Tab) :
    Calls Tryz.prog 63 #[v, .int .i64 (k : Nat)] w fun e w' => e = .returned (.tuple #[.int .i64 (firstQ (keyT k) l : Nat), .nilIface]) ∧ Below w.heap.size w w' := by
  have HA : Hid _ := areRight_c v l w hr
  rw [hR] at HA
  have HV : Hid (PtsIs w v l) := hr
  have HTb : Hid (Lib.TabBelow Tryz.prog w.heap.size w powName .u64 Lib.pow10Tab) := Lib.tabBelow_of_tabIs hT
  have HK : Hid (inR (k : Int) 0 7 = true) := by
    show inR (k : Int) 0 7 = true
    simp [inR]
    omega
  clear hr hR hT
  have HPl : Hid (∀ W, Lib.TabIs Tryz.prog W powName .u64 Lib.pow10Tab → Calls Tryz.prog 59 #[.int .i64 (k : Nat), .int .i64 (k : Nat)] W fun e w' => e = .returned (.tuple #[.int .i64 (plP k k : Nat), .nilIface]) ∧ Below W.heap.size W w') := fun W hW => placeR_c k k W (by omega) (by omega) hW
  have hkt : keyT k = (plP k k : Int) := rfl
  rw [hkt]
  clear hkt
  generalize plP k k = t at HPl ⊢
  have HFst : Hid ((firstP (t : Int) l < l.length ∧ firstQ (t : Int) l = firstP (t : Int) l) ∨ (¬ firstP (t : Int) l < l.length ∧ firstQ (t : Int) l = 0)) := by
    show _ ∨ _
    unfold firstQ
    by_cases h : firstP (t : Int) l < l.length
    · exact .inl ⟨h, if_pos h⟩
    · exact .inr ⟨h, if_neg h⟩
  generalize firstQ (t : Int) l = Q at HFst ⊢
  go_enter Tryz.func63, Tryz.ntmps63
  go_wp2_with fail
  refine Calls.mono HA.out ?_
  rintro e w1 ⟨rfl, hb⟩
  have B1 : Hid (Below w.heap.size w w1) := hb
  clear hb
  go_wp2_with fail
  refine (withinR_b _ _ _ true _ HK.out).mono ?_
  rintro e w2 ⟨rfl, hw⟩
  have hw' := hw.symm
  clear hw
  subst hw'
  go_wp2_with fail
  refine (HPl.out _ (HTb.out _ B1.out)).mono ?_
  rintro e w2 ⟨rfl, hb⟩
  have B2 : Hid (Below w.heap.size w w2) := B1.out.trans (hb.mono B1.out.size)
  clear hb B1
  go_upto_region 8 with fail
  obtain ⟨w3, HW⟩ : ∃ w3, w3 = w2.alloc (.cells #[.int .i64 (t : Int)] 3) := ⟨_, rfl⟩
  rw [← HW]
  have B3 : Hid (Below w.heap.size w w3) := by rw [HW]; exact B2.out.alloc B2.out.size _
  have CT : Hid (w3.cell? ⟨w2.heap.size, 0, none⟩ = some (.int .i64 (t : Int)) ∧ w2.heap.size < w3.heap.size) := by
    rw [HW]
    exact ⟨by simp, by simp⟩
  clear HW
  have HI : Hid (Calls Tryz.prog 110 #[v, .func (.func 111) #[] #[.pointer (some ⟨w2.heap.size, 0, none⟩)]] w3 fun e w' => e = .returned (.int .i64 (if firstP (t : Int) l < l.length then (firstP (t : Int) l : Int) else -1)) ∧ Below w3.heap.size w3 w') := by
    rw [← idx_all]
    refine indexP_c 111 #[.pointer (some ⟨w2.heap.size, 0, none⟩)] v l (fun j => decide ((t : Int) ≤ (l.getD j ⟨0, 0⟩).p)) w3 (HV.out.below B3.out) (enters_of Tryz.func111 (by kernel_rfl) rfl) ?_
    intro j hj W hW
    have hg : l.getD j ⟨0, 0⟩ = l[j] := by simp [List.getD_eq_getElem?_getD, hj]
    simp only [hg]
    generalize l[j] = x
    obtain ⟨x0, x1⟩ := x
    exact find1_c (t : Int) x0 x1 _ W ((World.cell?_of_block (a := ⟨w2.heap.size, 0, none⟩) (hW.block _ CT.out.2)).trans CT.out.1)
  have hmx := HV.out.1
  rcases HFst.out with ⟨hlt, hq⟩ | ⟨hlt, hq⟩
  · rw [if_pos hlt, ← hq] at HI
    have hQ : Q ≤ 9223372036854775807 := by unfold maxLen at hmx; omega
    clear hlt hmx hq
    go_wp2_with fail
    refine Calls.mono HI.out ?_
    rintro e w4 ⟨rfl, hb⟩
    have B4 : Hid (Below w.heap.size w w4) := B3.out.trans (hb.mono B3.out.size)
    clear hb
    go_wp2_with fail
    go_ret2
    exact ⟨rfl, B4.out⟩
  · rw [if_neg hlt] at HI
    subst hq
    clear hlt hmx
    go_wp2_with fail
    refine Calls.mono HI.out ?_
    rintro e w4 ⟨rfl, hb⟩
    have B4 : Hid (Below w.heap.size w w4) := B3.out.trans (hb.mono B3.out.size)
    clear hb
    go_wp2_with fail
    go_ret2
    exact ⟨rfl, B4.out⟩
end Go.Proofs.YtpcnfoaoajfhlaaGreatDoor

namespace Go.Proofs.YtpcnfoaoajfhlaaGreatDoor
set_option linter.unusedVariables false
set_option linter.unusedSimpArgs false
open Go.RowKit

set_option maxHeartbeats 1000000 in
theorem owner_bad (v : Value) (l : List Pt) (key : Int) (w : World) (e0 : Int) (hr : PtsIs w v l) (he : badFind l key = e0) (h0 : e0 ≠ 0) :
    Calls Tryz.prog 170 #[v, .int .i64 key] w fun e w' => e = .returned (.tuple #[.int .i64 0, .iface 85 (.int .i64 e0)]) ∧ Below w.heap.size w w' := by
  have HF : Hid _ := find_bad v l key w e0 hr he h0
  clear hr he
  go_enter Tryz.func170, Tryz.ntmps170
  go_wp2_with fail
  refine Calls.mono HF.out ?_
  rintro e w1 ⟨rfl, hb⟩
  have B1 : Hid (Below w.heap.size w w1) := hb
  clear hb
  go_wp2_with fail
  go_ret2
  exact ⟨rfl, B1.out⟩
set_option maxHeartbeats 1000000 in
theorem owner_ok (v : Value) (l : List Pt) (k : Nat) (w : World) (x : Int) (hr : PtsIs w v l) (hR : rightP l = true) (hk : k ≤ 7) (hx : ownP (keyT k) l = some x) (hT : Lib.TabIs Tryz.prog w powName .u64 Lib.pow10Tab) :
    Calls Tryz.prog 170 #[v, .int .i64 (k : Nat)] w fun e w' => e = .returned (.tuple #[.int .i64 x, .nilIface]) ∧ Below w.heap.size w w' := by
  have HF : Hid _ := find_ok v l k w hr hR hk hT
  have hlen := right_len hR
  have hne : l ≠ [] := by intro h; rw [h] at hlen; simp at hlen
  have hlt := firstQ_lt (t := keyT k) hne
  have hv : l[firstQ (keyT k) l].n = x := by
    rw [own_first hlt] at hx
    exact Option.some.inj hx
  obtain ⟨_, p, cap, rfl, hrow⟩ := hr
  obtain ⟨b, o, rfl, hbw, hat⟩ := hrow hne
  have HAt : Hid (PtAt w b (o + firstQ (keyT k) l * 2) l[firstQ (keyT k) l]) := hat _ hlt
  have hl1 : (firstQ (keyT k) l : Int) < (l.length : Int) := by omega
  generalize l[firstQ (keyT k) l] = y at *
  clear hx hR hT hrow hat
  generalize firstQ (keyT k) l = Q at *
  have hl48 : l.length ≤ 48 := hlen.2
  clear hlen hne
  generalize l.length = n at *
  go_enter Tryz.func170, Tryz.ntmps170
  go_wp2_with fail
  refine Calls.mono HF.out ?_
  rintro e w1 ⟨rfl, hb⟩
  have B1 : Hid (Below w.heap.size w w1) := hb
  clear hb
  have c1 := (HAt.out.of_block (B1.out.block b hbw)).c1
  rw [hv] at c1
  go_wp2_with fail
  go_ret2
  exact ⟨rfl, B1.out⟩
set_option maxHeartbeats 1000000 in
theorem owners_bad (v : Value) (l : List Pt) (key many : Int) (w : World) (e0 : Int) (hr : PtsIs w v l) (he : badFind l key = e0) (h0 : e0 ≠ 0) :
    Calls Tryz.prog 21 #[v, .int .i64 key, .int .i64 many] w fun e w' => e = .returned (.tuple #[.slice none 0 0, .iface 85 (.int .i64 e0)]) ∧ Below w.heap.size w w' := by
  have HF : Hid _ := find_bad v l key w e0 hr he h0
  clear hr he
  go_enter Tryz.func21, Tryz.ntmps21
  go_wp2_with fail
  refine Calls.mono HF.out ?_
  rintro e w1 ⟨rfl, hb⟩
  have B1 : Hid (Below w.heap.size w w1) := hb
  clear hb
  go_wp2_with fail
  go_ret2
  exact ⟨rfl, B1.out⟩
set_option maxHeartbeats 1000000 in
theorem owners_many (v : Value) (l : List Pt) (k : Nat) (many : Int) (w : World) (hr : PtsIs w v l) (hR : rightP l = true) (hk : k ≤ 7) (hm : inR many 1 6 = false) (hT : Lib.TabIs Tryz.prog w powName .u64 Lib.pow10Tab) :
    Calls Tryz.prog 21 #[v, .int .i64 (k : Nat), .int .i64 many] w fun e w' => e = .returned (.tuple #[.slice none 0 0, .iface 85 (.int .i64 1)]) ∧ Below w.heap.size w w' := by
  have HF : Hid _ := find_ok v l k w hr hR hk hT
  have HM : Hid (inR many 1 6 = false) := hm
  clear hr hR hT hm
  generalize firstQ (keyT k) l = Q at *
  go_enter Tryz.func21, Tryz.ntmps21
  go_wp2_with fail
  refine Calls.mono HF.out ?_
  rintro e w1 ⟨rfl, hb⟩
  have B1 : Hid (Below w.heap.size w w1) := hb
  clear hb
  go_wp2_with (go_at_call 58; refine (withinR_b _ _ _ false _ HM.out).mono ?_; rintro e w' ⟨rfl, rfl⟩)
  go_ret2
  exact ⟨rfl, B1.out⟩
theorem rem_nat (a n : Nat) : ((a : Int)).tmod (n : Int) = ((a % n : Nat) : Int) := (Int.ofNat_tmod a n).symm ▸ rfl
/-- what Owners answers, all being right -/
def OwnersAns (B : Nat) (w : World) (e : Ending) (os : List Int) (m : Nat) : Prop :=
  (m ≤ os.length ∧ ∃ v, e = .returned (.tuple #[v, .nilIface]) ∧ OwnI B w v (os.take m)) ∨ (¬ m ≤ os.length ∧ e = .returned (.tuple #[.slice none 0 0, .iface 85 (.int .i64 5)]))
set_option maxHeartbeats 8000000 in
theorem owners_ok (v : Value) (l : List Pt) (k m : Nat) (w : World) (hr : PtsIs w v l) (hR : rightP l = true) (hk : k ≤ 7) (h1 : 1 ≤ m) (h6 : m ≤ 6) (hT : Lib.TabIs Tryz.prog w powName .u64 Lib.pow10Tab) :
    Calls Tryz.prog 21 #[v, .int .i64 (k : Nat), .int .i64 (m : Nat)] w fun e w' => OwnersAns w.heap.size w' e (ownersL (keyT k) l) m ∧ Below w.heap.size w w' := by
  have HF : Hid _ := find_ok v l k w hr hR hk hT
  have HM : Hid (inR (m : Int) 1 6 = true) := by
    show inR (m : Int) 1 6 = true
    simp [inR]
    omega
  have hlen := right_len hR
  have hne : l ≠ [] := by intro h; rw [h] at hlen; simp at hlen
  have hlt := firstQ_lt (t := keyT k) hne
  have HIn : Hid (∀ x ∈ l, inP x = true) := right_in l none (by
    unfold rightP at hR
    rw [Bool.and_eq_true] at hR
    exact hR.2)
  obtain ⟨_, p, cap, rfl, hrow⟩ := hr
  obtain ⟨b, o, rfl, hbw, hat⟩ := hrow hne
  have HAt : Hid (∀ j (h : j < l.length), PtAt w b (o + j * 2) l[j]) := hat
  obtain ⟨Q, HQ⟩ : ∃ Q, Hid (firstQ (keyT k) l = Q) := ⟨_, rfl⟩
  obtain ⟨n, HN⟩ : ∃ n, Hid (l.length = n) := ⟨_, rfl⟩
  clear hrow hat hR hT hne
  rw [HQ.out] at HF hlt
  rw [HN.out] at HF hlt hlen ⊢
  have h48 : n ≤ 48 := hlen.2
  have h0n : 1 ≤ n := hlen.1
  clear hlen
  go_enter Tryz.func21, Tryz.ntmps21
  go_wp2_with fail
  refine Calls.mono HF.out ?_
  rintro e w1 ⟨rfl, hb⟩
  have B1 : Hid (Below w.heap.size w w1) := hb
  clear hb
  go_wp2_with (go_at_call 58; refine (withinR_b _ _ _ true _ HM.out).mono ?_; rintro e w' ⟨rfl, hw⟩; have hw' := hw.symm; clear hw; subst hw')
  go_loopw [10, 28] (fun s10 s28 wr => ∃ (j : Nat) (v10 : Value), s10 = v10 ∧ j ≤ n ∧ s28 = .int .i64 j ∧ Hid (OwnI w.heap.size wr v10 (metN (keyT k) l j)) ∧ Hid ((metN (keyT k) l j).length < m) ∧ Hid (Below w.heap.size w wr)) (fun _ i _ => n - (intOf i).toNat)
  case atStart => exact ⟨0, .slice none 0 0, rfl, Nat.zero_le _, rfl, OwnI.nil _ _, by show (metN (keyT k) l 0).length < m; rw [metN_zero]; simp; omega, B1⟩
  case round =>
    obtain ⟨j, v10, hs10, hj, rfl, HO, HL, HB⟩ := hrel
    have hs10' := hs10.symm
    clear hs10
    subst hs10'
    by_cases hltj : j < n
    · have hlti : (j : Int) < (n : Int) := by omega
      have hws := HB.out.size
      obtain ⟨r, HRm⟩ : ∃ r, Hid ((Q + j) % n = r) := ⟨_, rfl⟩
      have hrn : r < n := by rw [← HRm.out]; exact Nat.mod_lt _ (by omega)
      have hrl : r < l.length := by rw [HN.out]; exact hrn
      have hrem : ((Q : Int) + (j : Int)).tmod (n : Int) = (r : Int) := by
        rw [← HRm.out, ← rem_nat]
        rfl
      have hri : (r : Int) < (n : Int) := by omega
      have c1 := ((HAt.out r hrl).of_block (HB.out.block b hbw)).c1
      have HStep : Hid (metN (keyT k) l (j + 1) = if (metN (keyT k) l j).contains l[r].n = true then metN (keyT k) l j else metN (keyT k) l j ++ [l[r].n]) := by
        refine metN_step (by rw [HN.out]; exact hltj) (fun hr' => ?_)
        rw [rotN_get (by rw [HN.out]; exact hltj) (Nat.mod_lt _ (by omega)) hr']
        have e : (firstQ (keyT k) l + j) % l.length = r := by rw [HQ.out, HN.out]; exact HRm.out
        simp only [e]
      have HFew : Hid ((metN (keyT k) l (j + 1)).length ≤ 6) := metN_few HIn.out _
      obtain ⟨x, HX⟩ : ∃ x, Hid (l[r].n = x) := ⟨l[r].n, show l[r].n = l[r].n from rfl⟩
      rw [HX.out] at c1 HStep
      obtain ⟨xs, HXs⟩ : ∃ xs, Hid (metN (keyT k) l j = xs) := ⟨_, rfl⟩
      rw [HXs.out] at HO HL HStep
      obtain ⟨hxl, pv, cv, hv10, _⟩ := HO.out.ints
      subst hv10
      cases hc : xs.contains x
      · have HE : Hid (metN (keyT k) l (j + 1) = xs ++ [x]) := by show _ = _; rw [HStep.out, if_neg (by rw [hc]; simp)]
        have HC : Hid (xs.contains x = false) := hc
        rw [HE.out] at HFew
        have hx6 : xs.length + 1 ≤ 6 := by have := HFew.out; rw [List.length_append] at this; exact this
        have HOa : Hid (OwnI w.heap.size (wr.alloc (.cells #[.int .i64 x] 3)) (.slice pv xs.length cv) xs) := HO.out.below ((Below.refl _ _).alloc (Nat.le_refl _) _)
        have HVa : Hid ((wr.alloc (.cells #[.int .i64 x] 3)).heap[wr.heap.size]? = some (.cells #[.int .i64 x] 3 (0, 0))) := alloc_at _ _ _ rfl
        have HSa : Hid (w.heap.size ≤ (wr.alloc (.cells #[.int .i64 x] 3)).heap.size) := show _ ≤ _ from (by simp; omega)
        have HLa : Hid (xs.length ≤ 100) := show xs.length ≤ 100 from (by omega)
        have HBa : Hid (Below w.heap.size w (wr.alloc (.cells #[.int .i64 x] 3))) := HB.out.alloc hws _
        clear hc
        go_wp2_with fail
        refine (containsI_c _ xs x false _ HO.out.ints HC.out).mono ?_
        rintro e w2 ⟨rfl, hw⟩
        have hw' := hw.symm
        clear hw
        subst hw'
        go_wp2_with (at_builtin; refine wp_appI _ rfl _ _ rfl w.heap.size _ xs x rfl HOa.out _ rfl HVa.out HLa.out HSa.out ?_)
        intro va wa hown hgrow
        have HOp : Hid (OwnI w.heap.size wa va (xs ++ [x])) := hown
        have HBp : Hid (Below w.heap.size w wa) := below_grownF HBa.out (Nat.le_refl _) hgrow.out (fun c hc => HO.out.from c hc)
        clear hown hgrow HOa HVa HLa HSa HBa c1
        obtain ⟨hal, pa, ca, hva, _⟩ := HOp.out.ints
        subst hva
        rw [List.length_append] at HOp
        have hl1 : (xs ++ [x]).length = xs.length + 1 := by simp
        rw [hl1]
        by_cases hm : xs.length + 1 = m
        · have hmb : (((xs.length + 1 : Nat) : Int) == (m : Int)) = true := by simp; omega
          have HTk : Hid ((ownersL (keyT k) l).take m = xs ++ [x] ∧ m ≤ (ownersL (keyT k) l).length) := by
            have := metN_take (t := keyT k) (l := l) (i := j + 1) (m := m) (by rw [HE.out, hl1]; exact hm)
            rw [HE.out] at this
            exact this
          go_wp2_with fail
          go_ret2
          refine ⟨.inl ⟨HTk.out.2, _, rfl, ?_⟩, HBp.out⟩
          rw [HTk.out.1]
          exact HOp.out
        · have hmb : (((xs.length + 1 : Nat) : Int) == (m : Int)) = false := by simp; omega
          have HLn : Hid ((metN (keyT k) l (j + 1)).length < m) := by
            show _ < m
            rw [HE.out, hl1]
            have := HL.out
            omega
          go_wp2_with fail
          go_roundw
          case rel =>
            refine ⟨j + 1, _, rfl, by omega, by go_num, ?_, HLn, HBp⟩
            show OwnI _ _ _ _
            rw [HE.out]
            exact HOp.out
          case measure => simp [intOf]; omega
      · have HE : Hid (metN (keyT k) l (j + 1) = xs) := by show _ = _; rw [HStep.out, if_pos hc]
        have HC : Hid (xs.contains x = true) := hc
        have hlm : ¬ ((xs.length : Int) = (m : Int)) := by have := HL.out; omega
        have hlb : ((xs.length : Int) == (m : Int)) = false := by simpa using hlm
        clear hc
        go_wp2_with fail
        refine (containsI_c _ xs x true _ HO.out.ints HC.out).mono ?_
        rintro e w2 ⟨rfl, hw⟩
        have hw' := hw.symm
        clear hw
        subst hw'
        go_wp2_with fail
        go_roundw
        case rel =>
          refine ⟨j + 1, _, rfl, by omega, by go_num, ?_, ?_, HB⟩
          · show OwnI _ _ _ _
            rw [HE.out]
            exact HO.out
          · show _ < m
            rw [HE.out]
            exact HL.out
        case measure => simp [intOf]; omega
    · obtain rfl : j = n := by omega
      have HA : Hid (¬ m ≤ (ownersL (keyT k) l).length) := by
        show ¬ _
        rw [← metN_all, HN.out]
        have := HL.out
        omega
      go_wp2_with fail
      go_ret2
      exact ⟨.inr ⟨HA.out, rfl⟩, HB.out⟩
end Go.Proofs.YtpcnfoaoajfhlaaGreatDoor

namespace Go.Proofs.YtpcnfoaoajfhlaaGreatDoor
set_option linter.unusedVariables false
set_option linter.unusedSimpArgs false
open Go.RowKit

theorem rowP_len (nodes : List Int) (each a m : Nat) : (rowP nodes each a m).length ≤ m := by
  unfold rowP
  rw [List.length_map]
  exact Nat.le_trans (List.length_filter_le _ _) (by simp)
theorem ptsU_len (nodes : List Int) (each : Nat) : ∀ a, (ptsU nodes each a).length ≤ a * 6 := by
  intro a
  induction a with
  | zero => simp [ptsU]
  | succ a ih =>
    rw [ptsU, List.length_append]
    have := rowP_len nodes each a 6
    omega
theorem has_none {nodes : List Int} {each a m : Nat} (h : nodes.contains (m : Int) = false) : hasN nodes each a m = false := by unfold hasN; rw [h]; rfl
theorem has_hit {nodes : List Int} {each a m j : Nat} (h : nodes.contains (m : Int) = true) (hj : j < each) (hp : pairH m j % 256 = a) : hasN nodes each a m = true := by
  unfold hasN hitN
  rw [h, Bool.true_and, List.any_eq_true]
  exact ⟨j, List.mem_range.2 hj, by simp [hp]⟩
theorem has_miss {nodes : List Int} {each a m : Nat} (hp : ∀ i, i < each → pairH m i % 256 ≠ a) : hasN nodes each a m = false := by
  have : hitN each m a = false := by
    unfold hitN
    rw [List.any_eq_false]
    intro i hi
    simpa using hp i (List.mem_range.1 hi)
  unfold hasN
  rw [this, Bool.and_false]
set_option maxHeartbeats 16000000 in
theorem rPoints_c (v : Value) (nodes : List Int) (each : Nat) (w : World) (hr : IntsIs w v nodes) (h8 : each ≤ 8) :
    Calls Tryz.prog 89 #[v, .int .i64 (each : Nat)] w fun e w' => ∃ u, e = .returned u ∧ PtsIs w' u (ptsL nodes each) ∧ Below w.heap.size w w' := by
  have HV : Hid (IntsIs w v nodes) := hr
  clear hr
  go_enter Tryz.func89, Tryz.ntmps89
  go_wp2_with fail
  go_loopw [5, 6] (fun s5 s6 wr => ∃ (a : Nat) (v5 : Value), s5 = v5 ∧ a ≤ 256 ∧ s6 = .int .i64 a ∧ Hid (OwnP w.heap.size wr v5 (ptsU nodes each a)) ∧ Hid (Below w.heap.size w wr)) (fun _ i _ => 256 - (intOf i).toNat)
  case atStart => exact ⟨0, .slice none 0 0, rfl, Nat.zero_le _, rfl, OwnP.nil _ _, Below.refl _ _⟩
  case round =>
    obtain ⟨a, v5, hs5, ha, rfl, HO, HB⟩ := hrel
    have hs5' := hs5.symm
    clear hs5
    subst hs5'
    by_cases hlt : a < 256
    · have hlti : (a : Int) < 256 := by omega
      go_wp2_with fail
      go_loopw [5, 7] (fun s5 s7 wr => ∃ (m : Nat) (v6 : Value), s5 = v6 ∧ m ≤ 6 ∧ s7 = .int .i64 m ∧ Hid (OwnP w.heap.size wr v6 (ptsU nodes each a ++ rowP nodes each a m)) ∧ Hid (Below w.heap.size w wr)) (fun _ i _ => 6 - (intOf i).toNat)
      case atStart => exact ⟨0, _, rfl, Nat.zero_le _, rfl, by show OwnP _ _ _ _; rw [rowP_zero, List.append_nil]; exact HO.out, HB⟩
      case round =>
        clear HO HB
        obtain ⟨m, v6, hs6, hm, rfl, HO, HB⟩ := hrel
        have hs6' := hs6.symm
        clear hs6
        subst hs6'
        by_cases hltm : m < 6
        · have hltmi : (m : Int) < 6 := by omega
          obtain ⟨xs, HXs⟩ : ∃ xs, Hid (ptsU nodes each a ++ rowP nodes each a m = xs) := ⟨_, rfl⟩
          have HLx : Hid (xs.length ≤ 2000) := by
            show xs.length ≤ 2000
            rw [← HXs.out, List.length_append]
            have h1 := ptsU_len nodes each a
            have h2 := rowP_len nodes each a m
            omega
          have HNo : Hid (hasN nodes each a m = false → ptsU nodes each a ++ rowP nodes each a (m + 1) = xs) := fun h => by rw [rowP_no h]; exact HXs.out
          have HYes : Hid (hasN nodes each a m = true → ptsU nodes each a ++ rowP nodes each a (m + 1) = xs ++ [⟨(a : Int), (m : Int)⟩]) := fun h => by rw [rowP_yes h, ← List.append_assoc]; exact congrArg (· ++ _) HXs.out
          rw [HXs.out] at HO
          obtain ⟨is, HIs⟩ : ∃ is, Hid (nodes.contains (m : Int) = is) := ⟨_, rfl⟩
          go_wp2_with fail
          refine (inW_c _ nodes (m : Int) is _ (HV.out.below HB.out) HIs.out).mono ?_
          rintro e w2 ⟨rfl, hw⟩
          have hw' := hw.symm
          clear hw
          subst hw'
          go_wp2_with fail
          go_loopw [5, 9] (fun s5 s9 wr => ∃ (j : Nat) (v7 : Value), s5 = v7 ∧ j ≤ each ∧ s9 = .int .i64 j ∧ Hid (OwnP w.heap.size wr v7 xs) ∧ Hid (∀ i, i < j → pairH m i % 256 ≠ a) ∧ Hid (Below w.heap.size w wr)) (fun _ i _ => each - (intOf i).toNat)
          case atStart => exact ⟨0, _, rfl, Nat.zero_le _, rfl, HO, fun i hi => absurd hi (by omega), HB⟩
          case round =>
            clear HO HB
            obtain ⟨j, v7, hs7, hj, rfl, HO, HMs, HB⟩ := hrel
            have hs7' := hs7.symm
            clear hs7
            subst hs7'
            cases is
            · have HE : Hid (ptsU nodes each a ++ rowP nodes each a (m + 1) = xs) := HNo.out (has_none HIs.out)
              clear HNo HYes
              by_cases hjl : j < each
              · have hji : (j : Int) < (each : Int) := by omega
                go_wp2_with fail
                go_roundw
                case rel =>
                  refine ⟨m + 1, _, rfl, by omega, by go_num, ?_, HB⟩
                  show OwnP _ _ _ _
                  rw [HE.out]
                  exact HO.out
                case measure => simp [intOf]; omega
              · have hji : ¬ (j : Int) < (each : Int) := by omega
                go_wp2_with fail
                go_roundw
                case rel =>
                  refine ⟨m + 1, _, rfl, by omega, by go_num, ?_, HB⟩
                  show OwnP _ _ _ _
                  rw [HE.out]
                  exact HO.out
                case measure => simp [intOf]; omega
            · by_cases hjl : j < each
              · have hji : (j : Int) < (each : Int) := by omega
                have HPr : Hid (∀ W, Calls Tryz.prog 133 #[.int .i64 (m : Nat), .int .i64 (j : Nat)] W fun e w' => e = .returned (.int .i64 (pairH m j : Nat)) ∧ Below W.heap.size W w') := fun W => rPairG_c m j (by omega) (by omega) W
                have hlp := pairH_lt m j
                have HH : Hid (pairH m j % 256 = a → ptsU nodes each a ++ rowP nodes each a (m + 1) = xs ++ [⟨(a : Int), (m : Int)⟩]) := fun h => HYes.out (has_hit HIs.out hjl h)
                have HM1 : Hid (pairH m j % 256 ≠ a → ∀ i, i < j + 1 → pairH m i % 256 ≠ a) := fun h i hi => by
                  rcases Nat.lt_or_ge i j with h' | h'
                  · exact HMs.out i h'
                  · obtain rfl : i = j := by omega
                    exact h
                generalize pairH m j = P at HPr hlp HH HM1
                go_wp2_with fail
                refine (HPr.out _).mono ?_
                rintro e w2 ⟨rfl, hb⟩
                have HB2 : Hid (Below w.heap.size w w2) := HB.out.trans (hb.mono HB.out.size)
                have HO2 : Hid (OwnP w.heap.size w2 v7 xs) := HO.out.below hb
                clear hb HB HO HPr
                have hws := HB2.out.size
                obtain ⟨r, HRr⟩ : ∃ r, Hid (P % 256 = r) := ⟨_, rfl⟩
                have hrem : ((P : Int)).tmod 256 = (r : Int) := by
                  rw [← HRr.out]
                  exact rem_nat P 256
                rw [HRr.out] at HH HM1
                have hra : r < 256 := by rw [← HRr.out]; exact Nat.mod_lt _ (by omega)
                by_cases hp : r = a
                · have HE : Hid (ptsU nodes each a ++ rowP nodes each a (m + 1) = xs ++ [⟨(a : Int), (m : Int)⟩]) := HH.out hp
                  have hpb : ((r : Int) == (a : Int)) = true := by simp [hp]
                  clear HH HM1 HNo HYes hp
                  have HOa : Hid (OwnP w.heap.size (w2.alloc (.cells #[.int .i64 (a : Int), .int .i64 (m : Int)] 110)) v7 xs) := HO2.out.below ((Below.refl _ _).alloc (Nat.le_refl _) _)
                  have HVa : Hid ((w2.alloc (.cells #[.int .i64 (a : Int), .int .i64 (m : Int)] 110)).heap[w2.heap.size]? = some (.cells (Pt.cells ⟨(a : Int), (m : Int)⟩).toArray 110 (0, 0))) := alloc_at _ _ _ rfl
                  have HSa : Hid (w.heap.size ≤ (w2.alloc (.cells #[.int .i64 (a : Int), .int .i64 (m : Int)] 110)).heap.size) := show _ ≤ _ from (by simp; omega)
                  have HBa : Hid (Below w.heap.size w (w2.alloc (.cells #[.int .i64 (a : Int), .int .i64 (m : Int)] 110))) := HB2.out.alloc hws _
                  go_wp2_with (at_builtin; refine wp_appP _ rfl _ _ rfl w.heap.size _ xs ⟨(a : Int), (m : Int)⟩ rfl HOa.out _ rfl HVa.out HLx.out HSa.out ?_)
                  intro va wa hown hgrow
                  have HOp : Hid (OwnP w.heap.size wa va (xs ++ [⟨(a : Int), (m : Int)⟩])) := hown
                  have HBp : Hid (Below w.heap.size w wa) := below_grownF HBa.out (Nat.le_refl _) hgrow.out (fun c hc => HO2.out.from c hc)
                  clear hown hgrow HOa HVa HSa HBa
                  go_wp2_with fail
                  go_roundw
                  case rel =>
                    refine ⟨m + 1, _, rfl, by omega, by go_num, ?_, HBp⟩
                    show OwnP _ _ _ _
                    rw [HE.out]
                    exact HOp.out
                  case measure => simp [intOf]; omega
                · have HM2 : Hid (∀ i, i < j + 1 → pairH m i % 256 ≠ a) := HM1.out hp
                  have hpb : ((r : Int) == (a : Int)) = false := by simp; omega
                  clear HH HM1 hp
                  go_wp2_with fail
                  go_roundw
                  case rel => exact ⟨j + 1, _, rfl, by omega, by go_num, HO2, HM2, HB2⟩
                  case measure => simp [intOf]; omega
              · obtain rfl : j = each := by omega
                have HE : Hid (ptsU nodes j a ++ rowP nodes j a (m + 1) = xs) := HNo.out (has_miss HMs.out)
                have hji : ¬ (j : Int) < (j : Int) := by omega
                clear HNo HYes
                go_wp2_with fail
                go_roundw
                case rel =>
                  refine ⟨m + 1, _, rfl, by omega, by go_num, ?_, HB⟩
                  show OwnP _ _ _ _
                  rw [HE.out]
                  exact HO.out
                case measure => simp [intOf]; omega
        · obtain rfl : m = 6 := by omega
          go_wp2_with fail
          go_roundw
          case rel => exact ⟨a + 1, _, rfl, by omega, by go_num, HO, HB⟩
          case measure => simp [intOf]; omega
    · obtain rfl : a = 256 := by omega
      go_wp2_with fail
      go_ret
      exact ⟨_, rfl, HO.out.pts, HB.out⟩
end Go.Proofs.YtpcnfoaoajfhlaaGreatDoor
