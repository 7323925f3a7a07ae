/-
  Package ring by its contracts: Owner, Owners.
-/
import Derived.Test.YtlpfdmmilbdcbaeDoorRgG
namespace Go.Proofs.YtlpfdmmilbdcbaeDoor
set_option linter.unusedVariables false
set_option linter.unusedSimpArgs false
open Go.RowKit

set_option maxHeartbeats 1000000 in
theorem owner_bad (v : Value) (l : List Pt) (key : Int) (w : World) (e0 : Int) (hr : PtsIs w v l) (he : badFind l key = e0) (h0 : e0 ≠ 0) :
    Calls Tryd.prog 20 #[v, .int .i64 key] w fun e w' => e = .returned (.tuple #[.int .i64 0, .iface 56 (.int .i64 e0)]) ∧ Below w.heap.size w w' := by
  have HF : Hid _ := find_bad v l key w e0 hr he h0
  clear hr he
  go_enter Tryd.func20, Tryd.ntmps20
  go_wp2_with fail
  refine Calls.mono HF.out ?_
  rintro e w1 ⟨rfl, hb⟩
  have B1 : Hid (Below w.heap.size w w1) := hb
  clear hb
  go_wp2_with fail
  go_ret2
  exact ⟨rfl, B1.out⟩
set_option maxHeartbeats 1000000 in
theorem owner_ok (v : Value) (l : List Pt) (k : Nat) (w : World) (x : Int) (hr : PtsIs w v l) (hR : rightP l = true) (hk : k ≤ 7) (hx : ownP (keyT k) l = some x) (hT : Lib.TabIs Tryd.prog w powName .u64 Lib.pow10Tab) :
    Calls Tryd.prog 20 #[v, .int .i64 (k : Nat)] w fun e w' => e = .returned (.tuple #[.int .i64 x, .nilIface]) ∧ Below w.heap.size w w' := by
  have HF : Hid _ := find_ok v l k w hr hR hk hT
  have hlen := right_len hR
  have hne : l ≠ [] := by intro h; rw [h] at hlen; simp at hlen
  have hlt := firstQ_lt (t := keyT k) hne
  have hv : l[firstQ (keyT k) l].n = x := by
    rw [own_first hlt] at hx
    exact Option.some.inj hx
  obtain ⟨_, p, cap, rfl, hrow⟩ := hr
  obtain ⟨b, o, rfl, hbw, hat⟩ := hrow hne
  have HAt : Hid (PtAt w b (o + firstQ (keyT k) l * 2) l[firstQ (keyT k) l]) := hat _ hlt
  have hl1 : (firstQ (keyT k) l : Int) < (l.length : Int) := by omega
  generalize l[firstQ (keyT k) l] = y at *
  clear hx hR hT hrow hat
  generalize firstQ (keyT k) l = Q at *
  have hl48 : l.length ≤ 48 := hlen.2
  clear hlen hne
  generalize l.length = n at *
  go_enter Tryd.func20, Tryd.ntmps20
  go_wp2_with fail
  refine Calls.mono HF.out ?_
  rintro e w1 ⟨rfl, hb⟩
  have B1 : Hid (Below w.heap.size w w1) := hb
  clear hb
  have c1 := (HAt.out.of_block (B1.out.block b hbw)).c1
  rw [hv] at c1
  go_wp2_with fail
  go_ret2
  exact ⟨rfl, B1.out⟩
set_option maxHeartbeats 1000000 in
theorem owners_bad (v : Value) (l : List Pt) (key many : Int) (w : World) (e0 : Int) (hr : PtsIs w v l) (he : badFind l key = e0) (h0 : e0 ≠ 0) :
    Calls Tryd.prog 21 #[v, .int .i64 key, .int .i64 many] w fun e w' => e = .returned (.tuple #[.slice none 0 0, .iface 56 (.int .i64 e0)]) ∧ Below w.heap.size w w' := by
  have HF : Hid _ := find_bad v l key w e0 hr he h0
  clear hr he
  go_enter Tryd.func21, Tryd.ntmps21
  go_wp2_with fail
  refine Calls.mono HF.out ?_
  rintro e w1 ⟨rfl, hb⟩
  have B1 : Hid (Below w.heap.size w w1) := hb
  clear hb
  go_wp2_with fail
  go_ret2
  exact ⟨rfl, B1.out⟩
set_option maxHeartbeats 1000000 in
theorem owners_many (v : Value) (l : List Pt) (k : Nat) (many : Int) (w : World) (hr : PtsIs w v l) (hR : rightP l = true) (hk : k ≤ 7) (hm : inR many 1 6 = false) (hT : Lib.TabIs Tryd.prog w powName .u64 Lib.pow10Tab) :
    Calls Tryd.prog 21 #[v, .int .i64 (k : Nat), .int .i64 many] w fun e w' => e = .returned (.tuple #[.slice none 0 0, .iface 56 (.int .i64 1)]) ∧ Below w.heap.size w w' := by
  have HF : Hid _ := find_ok v l k w hr hR hk hT
  have HM : Hid (inR many 1 6 = false) := hm
  clear hr hR hT hm
  generalize firstQ (keyT k) l = Q at *
  go_enter Tryd.func21, Tryd.ntmps21
  go_wp2_with fail
  refine Calls.mono HF.out ?_
  rintro e w1 ⟨rfl, hb⟩
  have B1 : Hid (Below w.heap.size w w1) := hb
  clear hb
  go_wp2_with (go_at_call 34; refine (withinR_b _ _ _ false _ HM.out).mono ?_; rintro e w' ⟨rfl, rfl⟩)
  go_ret2
  exact ⟨rfl, B1.out⟩
theorem rem_nat (a n : Nat) : ((a : Int)).tmod (n : Int) = ((a % n : Nat) : Int) := (Int.ofNat_tmod a n).symm ▸ rfl
/-- what Owners answers, all being right -/
def OwnersAns (B : Nat) (w : World) (e : Ending) (os : List Int) (m : Nat) : Prop :=
  (m ≤ os.length ∧ ∃ v, e = .returned (.tuple #[v, .nilIface]) ∧ OwnI B w v (os.take m)) ∨ (¬ m ≤ os.length ∧ e = .returned (.tuple #[.slice none 0 0, .iface 56 (.int .i64 5)]))
set_option maxHeartbeats 8000000 in
theorem owners_ok (v : Value) (l : List Pt) (k m : Nat) (w : World) (hr : PtsIs w v l) (hR : rightP l = true) (hk : k ≤ 7) (h1 : 1 ≤ m) (h6 : m ≤ 6) (hT : Lib.TabIs Tryd.prog w powName .u64 Lib.pow10Tab) :
    Calls Tryd.prog 21 #[v, .int .i64 (k : Nat), .int .i64 (m : Nat)] w fun e w' => OwnersAns w.heap.size w' e (ownersL (keyT k) l) m ∧ Below w.heap.size w w' := by
  have HF : Hid _ := find_ok v l k w hr hR hk hT
  have HM : Hid (inR (m : Int) 1 6 = true) := by
    show inR (m : Int) 1 6 = true
    simp [inR]
    omega
  have hlen := right_len hR
  have hne : l ≠ [] := by intro h; rw [h] at hlen; simp at hlen
  have hlt := firstQ_lt (t := keyT k) hne
  have HIn : Hid (∀ x ∈ l, inP x = true) := right_in l none (by
    unfold rightP at hR
    rw [Bool.and_eq_true] at hR
    exact hR.2)
  obtain ⟨_, p, cap, rfl, hrow⟩ := hr
  obtain ⟨b, o, rfl, hbw, hat⟩ := hrow hne
  have HAt : Hid (∀ j (h : j < l.length), PtAt w b (o + j * 2) l[j]) := hat
  obtain ⟨Q, HQ⟩ : ∃ Q, Hid (firstQ (keyT k) l = Q) := ⟨_, rfl⟩
  obtain ⟨n, HN⟩ : ∃ n, Hid (l.length = n) := ⟨_, rfl⟩
  clear hrow hat hR hT hne
  rw [HQ.out] at HF hlt
  rw [HN.out] at HF hlt hlen ⊢
  have h48 : n ≤ 48 := hlen.2
  have h0n : 1 ≤ n := hlen.1
  clear hlen
  go_enter Tryd.func21, Tryd.ntmps21
  go_wp2_with fail
  refine Calls.mono HF.out ?_
  rintro e w1 ⟨rfl, hb⟩
  have B1 : Hid (Below w.heap.size w w1) := hb
  clear hb
  go_wp2_with (go_at_call 34; refine (withinR_b _ _ _ true _ HM.out).mono ?_; rintro e w' ⟨rfl, hw⟩; have hw' := hw.symm; clear hw; subst hw')
  go_loopw [10, 28] (fun s10 s28 wr => ∃ (j : Nat) (v10 : Value), s10 = v10 ∧ j ≤ n ∧ s28 = .int .i64 j ∧ Hid (OwnI w.heap.size wr v10 (metN (keyT k) l j)) ∧ Hid ((metN (keyT k) l j).length < m) ∧ Hid (Below w.heap.size w wr)) (fun _ i _ => n - (intOf i).toNat)
  case atStart => exact ⟨0, .slice none 0 0, rfl, Nat.zero_le _, rfl, OwnI.nil _ _, by show (metN (keyT k) l 0).length < m; rw [metN_zero]; simp; omega, B1⟩
  case round =>
    obtain ⟨j, v10, hs10, hj, rfl, HO, HL, HB⟩ := hrel
    have hs10' := hs10.symm
    clear hs10
    subst hs10'
    by_cases hltj : j < n
    · have hlti : (j : Int) < (n : Int) := by omega
      have hws := HB.out.size
      obtain ⟨r, HRm⟩ : ∃ r, Hid ((Q + j) % n = r) := ⟨_, rfl⟩
      have hrn : r < n := by rw [← HRm.out]; exact Nat.mod_lt _ (by omega)
      have hrl : r < l.length := by rw [HN.out]; exact hrn
      have hrem : ((Q : Int) + (j : Int)).tmod (n : Int) = (r : Int) := by
        rw [← HRm.out, ← rem_nat]
        rfl
      have hri : (r : Int) < (n : Int) := by omega
      have c1 := ((HAt.out r hrl).of_block (HB.out.block b hbw)).c1
      have HStep : Hid (metN (keyT k) l (j + 1) = if (metN (keyT k) l j).contains l[r].n = true then metN (keyT k) l j else metN (keyT k) l j ++ [l[r].n]) := by
        refine metN_step (by rw [HN.out]; exact hltj) (fun hr' => ?_)
        rw [rotN_get (by rw [HN.out]; exact hltj) (Nat.mod_lt _ (by omega)) hr']
        have e : (firstQ (keyT k) l + j) % l.length = r := by rw [HQ.out, HN.out]; exact HRm.out
        simp only [e]
      have HFew : Hid ((metN (keyT k) l (j + 1)).length ≤ 6) := metN_few HIn.out _
      obtain ⟨x, HX⟩ : ∃ x, Hid (l[r].n = x) := ⟨l[r].n, show l[r].n = l[r].n from rfl⟩
      rw [HX.out] at c1 HStep
      obtain ⟨xs, HXs⟩ : ∃ xs, Hid (metN (keyT k) l j = xs) := ⟨_, rfl⟩
      rw [HXs.out] at HO HL HStep
      obtain ⟨hxl, pv, cv, hv10, _⟩ := HO.out.ints
      subst hv10
      cases hc : xs.contains x
      · have HE : Hid (metN (keyT k) l (j + 1) = xs ++ [x]) := by show _ = _; rw [HStep.out, if_neg (by rw [hc]; simp)]
        have HC : Hid (xs.contains x = false) := hc
        rw [HE.out] at HFew
        have hx6 : xs.length + 1 ≤ 6 := by have := HFew.out; rw [List.length_append] at this; exact this
        have HOa : Hid (OwnI w.heap.size (wr.alloc (.cells #[.int .i64 x] 3)) (.slice pv xs.length cv) xs) := HO.out.below ((Below.refl _ _).alloc (Nat.le_refl _) _)
        have HVa : Hid ((wr.alloc (.cells #[.int .i64 x] 3)).heap[wr.heap.size]? = some (.cells #[.int .i64 x] 3 (0, 0))) := alloc_at _ _ _ rfl
        have HSa : Hid (w.heap.size ≤ (wr.alloc (.cells #[.int .i64 x] 3)).heap.size) := show _ ≤ _ from (by simp; omega)
        have HLa : Hid (xs.length ≤ 100) := show xs.length ≤ 100 from (by omega)
        have HBa : Hid (Below w.heap.size w (wr.alloc (.cells #[.int .i64 x] 3))) := HB.out.alloc hws _
        clear hc
        go_wp2_with fail
        refine (containsI_c _ xs x false _ HO.out.ints HC.out).mono ?_
        rintro e w2 ⟨rfl, hw⟩
        have hw' := hw.symm
        clear hw
        subst hw'
        go_wp2_with (at_builtin; refine wp_appI _ rfl _ _ rfl w.heap.size _ xs x rfl HOa.out _ rfl HVa.out HLa.out HSa.out ?_)
        intro va wa hown hgrow
        have HOp : Hid (OwnI w.heap.size wa va (xs ++ [x])) := hown
        have HBp : Hid (Below w.heap.size w wa) := below_grownF HBa.out (Nat.le_refl _) hgrow.out (fun c hc => HO.out.from c hc)
        clear hown hgrow HOa HVa HLa HSa HBa c1
        obtain ⟨hal, pa, ca, hva, _⟩ := HOp.out.ints
        subst hva
        rw [List.length_append] at HOp
        have hl1 : (xs ++ [x]).length = xs.length + 1 := by simp
        rw [hl1]
        by_cases hm : xs.length + 1 = m
        · have hmb : (((xs.length + 1 : Nat) : Int) == (m : Int)) = true := by simp; omega
          have HTk : Hid ((ownersL (keyT k) l).take m = xs ++ [x] ∧ m ≤ (ownersL (keyT k) l).length) := by
            have := metN_take (t := keyT k) (l := l) (i := j + 1) (m := m) (by rw [HE.out, hl1]; exact hm)
            rw [HE.out] at this
            exact this
          go_wp2_with fail
          go_ret2
          refine ⟨.inl ⟨HTk.out.2, _, rfl, ?_⟩, HBp.out⟩
          rw [HTk.out.1]
          exact HOp.out
        · have hmb : (((xs.length + 1 : Nat) : Int) == (m : Int)) = false := by simp; omega
          have HLn : Hid ((metN (keyT k) l (j + 1)).length < m) := by
            show _ < m
            rw [HE.out, hl1]
            have := HL.out
            omega
          go_wp2_with fail
          go_roundw
          case rel =>
            refine ⟨j + 1, _, rfl, by omega, by go_num, ?_, HLn, HBp⟩
            show OwnI _ _ _ _
            rw [HE.out]
            exact HOp.out
          case measure => simp [intOf]; omega
      · have HE : Hid (metN (keyT k) l (j + 1) = xs) := by show _ = _; rw [HStep.out, if_pos hc]
        have HC : Hid (xs.contains x = true) := hc
        have hlm : ¬ ((xs.length : Int) = (m : Int)) := by have := HL.out; omega
        have hlb : ((xs.length : Int) == (m : Int)) = false := by simpa using hlm
        clear hc
        go_wp2_with fail
        refine (containsI_c _ xs x true _ HO.out.ints HC.out).mono ?_
        rintro e w2 ⟨rfl, hw⟩
        have hw' := hw.symm
        clear hw
        subst hw'
        go_wp2_with fail
        go_roundw
        case rel =>
          refine ⟨j + 1, _, rfl, by omega, by go_num, ?_, ?_, HB⟩
          · show OwnI _ _ _ _
            rw [HE.out]
            exact HO.out
          · show _ < m
            rw [HE.out]
            exact HL.out
        case measure => simp [intOf]; omega
    · obtain rfl : j = n := by omega
      have HA : Hid (¬ m ≤ (ownersL (keyT k) l).length) := by
        show ¬ _
        rw [← metN_all, HN.out]
        have := HL.out
        omega
      go_wp2_with fail
      go_ret2
      exact ⟨.inr ⟨HA.out, rfl⟩, HB.out⟩
end Go.Proofs.YtlpfdmmilbdcbaeDoor
