/-
  The document's Points, by its contract.
  The document's Ring and Owners, by their contracts.
  The document's Owners, by its contract.
-/
import Derived.Test.YtpcnfoaoajfhlaaGreatDoorRabr
import Derived.Test.YtpcnfoaoajfhlaaGreatDoorRaaz
import Derived.Test.YtpcnfoaoajfhlaaGreatDoorRaat
namespace Go.Proofs.YtpcnfoaoajfhlaaGreatDoor
set_option linter.unusedVariables false
set_option linter.unusedSimpArgs false
set_option linter.unusedVariables false
set_option linter.unusedSimpArgs false
open Go.RowKit

theorem rowP_len (nodes : List Int) (each a m : Nat) : (rowP nodes each a m).length ≤ m := by
  unfold rowP
  rw [List.length_map]
  exact Nat.le_trans (List.length_filter_le _ _) (by simp)
theorem ptsU_len (nodes : List Int) (each : Nat) : ∀ a, (ptsU nodes each a).length ≤ a * 6 := by
  intro a
  induction a with
  | zero => simp [ptsU]
  | succ a ih =>
    rw [ptsU, List.length_append]
    have := rowP_len nodes each a 6
    omega
theorem has_none {nodes : List Int} {each a m : Nat} (h : nodes.contains (m : Int) = false) : hasN nodes each a m = false := by unfold hasN; rw [h]; rfl
theorem has_hit {nodes : List Int} {each a m j : Nat} (h : nodes.contains (m : Int) = true) (hj : j < each) (hp : pairH m j % 256 = a) : hasN nodes each a m = true := by
  unfold hasN hitN
  rw [h, Bool.true_and, List.any_eq_true]
  exact ⟨j, List.mem_range.2 hj, by simp [hp]⟩
theorem has_miss {nodes : List Int} {each a m : Nat} (hp : ∀ i, i < each → pairH m i % 256 ≠ a) : hasN nodes each a m = false := by
  have : hitN each m a = false := by
    unfold hitN
    rw [List.any_eq_false]
    intro i hi
    simpa using hp i (List.mem_range.1 hi)
  unfold hasN
  rw [this, Bool.and_false]
set_option maxHeartbeats 16000000 in
theorem rPoints_c (v : Value) (nodes : List Int) (each : Nat) (w : World) (hr : IntsIs w v nodes) (h8 : each ≤ 8) :
    Calls Tryz.prog 89 #[v, .int .i64 (each : Nat)] w fun e w' => ∃ u, e = .returned u ∧ PtsIs w' u (ptsL nodes each) ∧ Below w.heap.size w w' := by
  have HV : Hid (IntsIs w v nodes) := hr
  clear hr
  go_enter Tryz.func89, Tryz.ntmps89
  go_wp2_with fail
  go_loopw [5, 6] (fun s5 s6 wr => ∃ (a : Nat) (v5 : Value), s5 = v5 ∧ a ≤ 256 ∧ s6 = .int .i64 a ∧ Hid (OwnP w.heap.size wr v5 (ptsU nodes each a)) ∧ Hid (Below w.heap.size w wr)) (fun _ i _ => 256 - (intOf i).toNat)
  case atStart => exact ⟨0, .slice none 0 0, rfl, Nat.zero_le _, rfl, OwnP.nil _ _, Below.refl _ _⟩
  case round =>
    obtain ⟨a, v5, hs5, ha, rfl, HO, HB⟩ := hrel
    have hs5' := hs5.symm
    clear hs5
    subst hs5'
    by_cases hlt : a < 256
    · have hlti : (a : Int) < 256 := by omega
      go_wp2_with fail
      go_loopw [5, 7] (fun s5 s7 wr => ∃ (m : Nat) (v6 : Value), s5 = v6 ∧ m ≤ 6 ∧ s7 = .int .i64 m ∧ Hid (OwnP w.heap.size wr v6 (ptsU nodes each a ++ rowP nodes each a m)) ∧ Hid (Below w.heap.size w wr)) (fun _ i _ => 6 - (intOf i).toNat)
      case atStart => exact ⟨0, _, rfl, Nat.zero_le _, rfl, by show OwnP _ _ _ _; rw [rowP_zero, List.append_nil]; exact HO.out, HB⟩
      case round =>
        clear HO HB
        obtain ⟨m, v6, hs6, hm, rfl, HO, HB⟩ := hrel
        have hs6' := hs6.symm
        clear hs6
        subst hs6'
        by_cases hltm : m < 6
        · have hltmi : (m : Int) < 6 := by omega
          obtain ⟨xs, HXs⟩ : ∃ xs, Hid (ptsU nodes each a ++ rowP nodes each a m = xs) := ⟨_, rfl⟩
          have HLx : Hid (xs.length ≤ 2000) := by
            show xs.length ≤ 2000
            rw [← HXs.out, List.length_append]
            have h1 := ptsU_len nodes each a
            have h2 := rowP_len nodes each a m
            omega
          have HNo : Hid (hasN nodes each a m = false → ptsU nodes each a ++ rowP nodes each a (m + 1) = xs) := fun h => by rw [rowP_no h]; exact HXs.out
          have HYes : Hid (hasN nodes each a m = true → ptsU nodes each a ++ rowP nodes each a (m + 1) = xs ++ [⟨(a : Int), (m : Int)⟩]) := fun h => by rw [rowP_yes h, ← List.append_assoc]; exact congrArg (· ++ _) HXs.out
          rw [HXs.out] at HO
          obtain ⟨is, HIs⟩ : ∃ is, Hid (nodes.contains (m : Int) = is) := ⟨_, rfl⟩
          go_wp2_with fail
          refine (inW_c _ nodes (m : Int) is _ (HV.out.below HB.out) HIs.out).mono ?_
          rintro e w2 ⟨rfl, hw⟩
          have hw' := hw.symm
          clear hw
          subst hw'
          go_wp2_with fail
          go_loopw [5, 9] (fun s5 s9 wr => ∃ (j : Nat) (v7 : Value), s5 = v7 ∧ j ≤ each ∧ s9 = .int .i64 j ∧ Hid (OwnP w.heap.size wr v7 xs) ∧ Hid (∀ i, i < j → pairH m i % 256 ≠ a) ∧ Hid (Below w.heap.size w wr)) (fun _ i _ => each - (intOf i).toNat)
          case atStart => exact ⟨0, _, rfl, Nat.zero_le _, rfl, HO, fun i hi => absurd hi (by omega), HB⟩
          case round =>
            clear HO HB
            obtain ⟨j, v7, hs7, hj, rfl, HO, HMs, HB⟩ := hrel
            have hs7' := hs7.symm
            clear hs7
            subst hs7'
            cases is
            · have HE : Hid (ptsU nodes each a ++ rowP nodes each a (m + 1) = xs) := HNo.out (has_none HIs.out)
              clear HNo HYes
              by_cases hjl : j < each
              · have hji : (j : Int) < (each : Int) := by omega
                go_wp2_with fail
                go_roundw
                case rel =>
                  refine ⟨m + 1, _, rfl, by omega, by go_num, ?_, HB⟩
                  show OwnP _ _ _ _
                  rw [HE.out]
                  exact HO.out
                case measure => simp [intOf]; omega
              · have hji : ¬ (j : Int) < (each : Int) := by omega
                go_wp2_with fail
                go_roundw
                case rel =>
                  refine ⟨m + 1, _, rfl, by omega, by go_num, ?_, HB⟩
                  show OwnP _ _ _ _
                  rw [HE.out]
                  exact HO.out
                case measure => simp [intOf]; omega
            · by_cases hjl : j < each
              · have hji : (j : Int) < (each : Int) := by omega
                have HPr : Hid (∀ W, Calls Tryz.prog 133 #[.int .i64 (m : Nat), .int .i64 (j : Nat)] W fun e w' => e = .returned (.int .i64 (pairH m j : Nat)) ∧ Below W.heap.size W w') := fun W => rPair_c m j (by omega) (by omega) W
                have hlp := pairH_lt m j
                have HH : Hid (pairH m j % 256 = a → ptsU nodes each a ++ rowP nodes each a (m + 1) = xs ++ [⟨(a : Int), (m : Int)⟩]) := fun h => HYes.out (has_hit HIs.out hjl h)
                have HM1 : Hid (pairH m j % 256 ≠ a → ∀ i, i < j + 1 → pairH m i % 256 ≠ a) := fun h i hi => by
                  rcases Nat.lt_or_ge i j with h' | h'
                  · exact HMs.out i h'
                  · obtain rfl : i = j := by omega
                    exact h
                generalize pairH m j = P at HPr hlp HH HM1
                go_wp2_with fail
                refine (HPr.out _).mono ?_
                rintro e w2 ⟨rfl, hb⟩
                have HB2 : Hid (Below w.heap.size w w2) := HB.out.trans (hb.mono HB.out.size)
                have HO2 : Hid (OwnP w.heap.size w2 v7 xs) := HO.out.below hb
                clear hb HB HO HPr
                have hws := HB2.out.size
                obtain ⟨r, HRr⟩ : ∃ r, Hid (P % 256 = r) := ⟨_, rfl⟩
                have hrem : ((P : Int)).tmod 256 = (r : Int) := by
                  rw [← HRr.out]
                  exact rem_nat P 256
                rw [HRr.out] at HH HM1
                have hra : r < 256 := by rw [← HRr.out]; exact Nat.mod_lt _ (by omega)
                by_cases hp : r = a
                · have HE : Hid (ptsU nodes each a ++ rowP nodes each a (m + 1) = xs ++ [⟨(a : Int), (m : Int)⟩]) := HH.out hp
                  have hpb : ((r : Int) == (a : Int)) = true := by simp [hp]
                  clear HH HM1 HNo HYes hp
                  have HOa : Hid (OwnP w.heap.size (w2.alloc (.cells #[.int .i64 (a : Int), .int .i64 (m : Int)] 110)) v7 xs) := HO2.out.below ((Below.refl _ _).alloc (Nat.le_refl _) _)
                  have HVa : Hid ((w2.alloc (.cells #[.int .i64 (a : Int), .int .i64 (m : Int)] 110)).heap[w2.heap.size]? = some (.cells (Pt.cells ⟨(a : Int), (m : Int)⟩).toArray 110 (0, 0))) := alloc_at _ _ _ rfl
                  have HSa : Hid (w.heap.size ≤ (w2.alloc (.cells #[.int .i64 (a : Int), .int .i64 (m : Int)] 110)).heap.size) := show _ ≤ _ from (by simp; omega)
                  have HBa : Hid (Below w.heap.size w (w2.alloc (.cells #[.int .i64 (a : Int), .int .i64 (m : Int)] 110))) := HB2.out.alloc hws _
                  go_wp2_with (at_builtin; refine wp_appP _ rfl _ _ rfl w.heap.size _ xs ⟨(a : Int), (m : Int)⟩ rfl HOa.out _ rfl HVa.out HLx.out HSa.out ?_)
                  intro va wa hown hgrow
                  have HOp : Hid (OwnP w.heap.size wa va (xs ++ [⟨(a : Int), (m : Int)⟩])) := hown
                  have HBp : Hid (Below w.heap.size w wa) := below_grownF HBa.out (Nat.le_refl _) hgrow.out (fun c hc => HO2.out.from c hc)
                  clear hown hgrow HOa HVa HSa HBa
                  go_wp2_with fail
                  go_roundw
                  case rel =>
                    refine ⟨m + 1, _, rfl, by omega, by go_num, ?_, HBp⟩
                    show OwnP _ _ _ _
                    rw [HE.out]
                    exact HOp.out
                  case measure => simp [intOf]; omega
                · have HM2 : Hid (∀ i, i < j + 1 → pairH m i % 256 ≠ a) := HM1.out hp
                  have hpb : ((r : Int) == (a : Int)) = false := by simp; omega
                  clear HH HM1 hp
                  go_wp2_with fail
                  go_roundw
                  case rel => exact ⟨j + 1, _, rfl, by omega, by go_num, HO2, HM2, HB2⟩
                  case measure => simp [intOf]; omega
              · obtain rfl : j = each := by omega
                have HE : Hid (ptsU nodes j a ++ rowP nodes j a (m + 1) = xs) := HNo.out (has_miss HMs.out)
                have hji : ¬ (j : Int) < (j : Int) := by omega
                clear HNo HYes
                go_wp2_with fail
                go_roundw
                case rel =>
                  refine ⟨m + 1, _, rfl, by omega, by go_num, ?_, HB⟩
                  show OwnP _ _ _ _
                  rw [HE.out]
                  exact HO.out
                case measure => simp [intOf]; omega
        · obtain rfl : m = 6 := by omega
          go_wp2_with fail
          go_roundw
          case rel => exact ⟨a + 1, _, rfl, by omega, by go_num, HO, HB⟩
          case measure => simp [intOf]; omega
    · obtain rfl : a = 256 := by omega
      go_wp2_with fail
      go_ret
      exact ⟨_, rfl, HO.out.pts, HB.out⟩
end Go.Proofs.YtpcnfoaoajfhlaaGreatDoor

namespace Go.Proofs.YtpcnfoaoajfhlaaGreatDoor
set_option linter.unusedVariables false
set_option linter.unusedSimpArgs false
open Go.RowKit

end Go.Proofs.YtpcnfoaoajfhlaaGreatDoor

namespace Go.Proofs.YtpcnfoaoajfhlaaGreatDoor
set_option linter.unusedVariables false
set_option linter.unusedSimpArgs false
open Go.RowKit

theorem firstP_hit {t : Int} {l : List Pt} {j : Nat} (h : j < l.length) (hp : ¬ l[j].p < t) : firstP t (l.drop j) = 0 := by
  rw [List.drop_eq_getElem_cons h, firstP, if_neg hp]
theorem firstP_miss {t : Int} {l : List Pt} {j : Nat} (h : j < l.length) (hp : l[j].p < t) : firstP t (l.drop j) = firstP t (l.drop (j + 1)) + 1 := by
  rw [List.drop_eq_getElem_cons h, firstP, if_pos hp]
theorem firstQ_mod {t : Int} {l : List Pt} {j : Nat} (hj : j < l.length) : (firstQ t l + j) % l.length = (firstP t l + j) % l.length := by
  unfold firstQ
  have := firstP_le t l
  split
  · rfl
  · have e : firstP t l = l.length := by omega
    rw [e, Nat.add_mod_left, Nat.zero_add]
set_option maxHeartbeats 16000000 in
theorem rOwners_c (v : Value) (l : List Pt) (k : Nat) (w : World) (hr : PtsIs w v l) (hR : rightP l = true) (hk : k ≤ 7) :
    Calls Tryz.prog 88 #[v, .int .i64 (k : Nat)] w fun e w' => ∃ u, e = .returned u ∧ OwnI w.heap.size w' u (ownersL (keyT k) l) ∧ Below w.heap.size w w' := by
  have HPr : Hid (∀ W, Calls Tryz.prog 133 #[.int .i64 (k : Nat), .int .i64 (k : Nat)] W fun e w' => e = .returned (.int .i64 (pairH k k : Nat)) ∧ Below W.heap.size W w') := fun W => rPair_c k k (by omega) (by omega) W
  have hlp := pairH_lt k k
  have hkt : keyT k = ((pairH k k % 256 : Nat) : Int) := rfl
  rw [hkt]
  clear hkt
  generalize pairH k k = P at HPr hlp ⊢
  obtain ⟨t, HRr⟩ : ∃ t, Hid (P % 256 = t) := ⟨_, rfl⟩
  have hrem : ((P : Int)).tmod 256 = (t : Int) := by
    rw [← HRr.out]
    exact rem_nat P 256
  rw [HRr.out]
  have hlen := right_len hR
  have hne : l ≠ [] := by intro h; rw [h] at hlen; simp at hlen
  have HIn : Hid (∀ x ∈ l, inP x = true) := right_in l none (by
    unfold rightP at hR
    rw [Bool.and_eq_true] at hR
    exact hR.2)
  obtain ⟨_, p, cap, rfl, hrow⟩ := hr
  obtain ⟨b, o, rfl, hbw, hat⟩ := hrow hne
  have HAt : Hid (∀ j (h : j < l.length), PtAt w b (o + j * 2) l[j]) := hat
  obtain ⟨n, HN⟩ : ∃ n, Hid (l.length = n) := ⟨_, rfl⟩
  clear hrow hat hR hne
  rw [HN.out] at hlen ⊢
  have h48 : n ≤ 48 := hlen.2
  have h0n : 1 ≤ n := hlen.1
  clear hlen
  go_enter Tryz.func88, Tryz.ntmps88
  go_wp2_with fail
  refine (HPr.out _).mono ?_
  rintro e w1 ⟨rfl, hb⟩
  have B1 : Hid (Below w.heap.size w w1) := hb
  clear hb HPr
  go_wp2_with fail
  go_loopw [6] (fun s6 wr => ∃ f : Nat, f ≤ n ∧ s6 = .int .i64 f ∧ Hid (firstP (t : Int) l = f + firstP (t : Int) (l.drop f)) ∧ Hid (Below w.heap.size w wr)) (fun i _ => n - (intOf i).toNat)
  case atStart => exact ⟨0, Nat.zero_le _, rfl, by show _ = _; rw [Nat.zero_add, List.drop_zero], B1⟩
  case round =>
    clear B1
    obtain ⟨f, hf, rfl, HFi, HB⟩ := hrel
    by_cases hfn : f < n
    · have hfi : (f : Int) < (n : Int) := by omega
      have hfl : f < l.length := by rw [HN.out]; exact hfn
      have c0 := ((HAt.out f hfl).of_block (HB.out.block b hbw)).c0
      have HHit : Hid (¬ l[f].p < (t : Int) → firstP (t : Int) l = f) := fun h => by rw [HFi.out, firstP_hit hfl h, Nat.add_zero]
      have HMiss : Hid (l[f].p < (t : Int) → firstP (t : Int) l = f + 1 + firstP (t : Int) (l.drop (f + 1))) := fun h => by rw [HFi.out, firstP_miss hfl h]; omega
      obtain ⟨y, HY⟩ : ∃ y, Hid (l[f].p = y) := ⟨l[f].p, show l[f].p = l[f].p from rfl⟩
      rw [HY.out] at c0 HHit HMiss
      by_cases hyt : y < (t : Int)
      · have HM : Hid (firstP (t : Int) l = f + 1 + firstP (t : Int) (l.drop (f + 1))) := HMiss.out hyt
        clear HHit HMiss
        go_wp2_with fail
        go_roundw
        case rel => exact ⟨f + 1, by omega, by go_num, HM, HB⟩
        case measure => simp [intOf]; omega
      · have HFv : Hid (firstP (t : Int) l = f) := HHit.out hyt
        have hyb : decide (y < (t : Int)) = false := decide_eq_false hyt
        clear HHit HMiss HFi
        go_upto_region 5 with fail
        clear c0 hyt hyb
        go_wp2_with fail
        go_loopw [7, 8] (fun s7 s8 wr => ∃ (j : Nat) (v7 : Value), s7 = v7 ∧ j ≤ n ∧ s8 = .int .i64 j ∧ Hid (OwnI w.heap.size wr v7 (metN (t : Int) l j)) ∧ Hid (Below w.heap.size w wr)) (fun _ i _ => n - (intOf i).toNat)
        case atStart => exact ⟨0, .slice none 0 0, rfl, Nat.zero_le _, rfl, OwnI.nil _ _, HB⟩
        case round =>
          clear HB
          obtain ⟨j, v7, hs7, hj, rfl, HO, HB⟩ := hrel
          have hs7' := hs7.symm
          clear hs7
          subst hs7'
          by_cases hltj : j < n
          · have hlti : (j : Int) < (n : Int) := by omega
            have hws := HB.out.size
            obtain ⟨r, HRm⟩ : ∃ r, Hid ((f + j) % n = r) := ⟨_, rfl⟩
            have hrn : r < n := by rw [← HRm.out]; exact Nat.mod_lt _ (by omega)
            have hrl : r < l.length := by rw [HN.out]; exact hrn
            have hremj : ((f : Int) + (j : Int)).tmod (n : Int) = (r : Int) := by
              rw [← HRm.out, ← rem_nat]
              rfl
            have hri : (r : Int) < (n : Int) := by omega
            have c1 := ((HAt.out r hrl).of_block (HB.out.block b hbw)).c1
            have HStep : Hid (metN (t : Int) l (j + 1) = if (metN (t : Int) l j).contains l[r].n = true then metN (t : Int) l j else metN (t : Int) l j ++ [l[r].n]) := by
              refine metN_step (by rw [HN.out]; exact hltj) (fun hr' => ?_)
              rw [rotN_get (by rw [HN.out]; exact hltj) (Nat.mod_lt _ (by omega)) hr']
              have e : (firstQ (t : Int) l + j) % l.length = r := by rw [firstQ_mod (by rw [HN.out]; exact hltj), HFv.out, HN.out]; exact HRm.out
              simp only [e]
            have HFew : Hid ((metN (t : Int) l (j + 1)).length ≤ 6) := metN_few HIn.out _
            obtain ⟨x, HX⟩ : ∃ x, Hid (l[r].n = x) := ⟨l[r].n, show l[r].n = l[r].n from rfl⟩
            rw [HX.out] at c1 HStep
            obtain ⟨xs, HXs⟩ : ∃ xs, Hid (metN (t : Int) l j = xs) := ⟨_, rfl⟩
            rw [HXs.out] at HO HStep
            cases hc : xs.contains x
            · have HE : Hid (metN (t : Int) l (j + 1) = xs ++ [x]) := by show _ = _; rw [HStep.out, if_neg (by rw [hc]; simp)]
              have HC : Hid (xs.contains x = false) := hc
              rw [HE.out] at HFew
              have hx6 : xs.length + 1 ≤ 6 := by have := HFew.out; rw [List.length_append] at this; exact this
              have HOa : Hid (OwnI w.heap.size (wr.alloc (.cells #[.int .i64 x] 3)) v7 xs) := HO.out.below ((Below.refl _ _).alloc (Nat.le_refl _) _)
              have HVa : Hid ((wr.alloc (.cells #[.int .i64 x] 3)).heap[wr.heap.size]? = some (.cells #[.int .i64 x] 3 (0, 0))) := alloc_at _ _ _ rfl
              have HSa : Hid (w.heap.size ≤ (wr.alloc (.cells #[.int .i64 x] 3)).heap.size) := show _ ≤ _ from (by simp; omega)
              have HLa : Hid (xs.length ≤ 100) := show xs.length ≤ 100 from (by omega)
              have HBa : Hid (Below w.heap.size w (wr.alloc (.cells #[.int .i64 x] 3))) := HB.out.alloc hws _
              clear hc
              go_wp2_with fail
              refine (inW_c _ xs x false _ HO.out.ints HC.out).mono ?_
              rintro e w2 ⟨rfl, hw⟩
              have hw' := hw.symm
              clear hw
              subst hw'
              go_wp2_with (at_builtin; refine wp_appI _ rfl _ _ rfl w.heap.size _ xs x rfl HOa.out _ rfl HVa.out HLa.out HSa.out ?_)
              intro va wa hown hgrow
              have HOp : Hid (OwnI w.heap.size wa va (xs ++ [x])) := hown
              have HBp : Hid (Below w.heap.size w wa) := below_grownF HBa.out (Nat.le_refl _) hgrow.out (fun c hc => HO.out.from c hc)
              clear hown hgrow HOa HVa HLa HSa HBa c1
              go_wp2_with fail
              go_roundw
              case rel =>
                refine ⟨j + 1, _, rfl, by omega, by go_num, ?_, HBp⟩
                show OwnI _ _ _ _
                rw [HE.out]
                exact HOp.out
              case measure => simp [intOf]; omega
            · have HE : Hid (metN (t : Int) l (j + 1) = xs) := by show _ = _; rw [HStep.out, if_pos hc]
              have HC : Hid (xs.contains x = true) := hc
              clear hc
              go_wp2_with fail
              refine (inW_c _ xs x true _ HO.out.ints HC.out).mono ?_
              rintro e w2 ⟨rfl, hw⟩
              have hw' := hw.symm
              clear hw
              subst hw'
              go_wp2_with fail
              go_roundw
              case rel =>
                refine ⟨j + 1, _, rfl, by omega, by go_num, ?_, HB⟩
                show OwnI _ _ _ _
                rw [HE.out]
                exact HO.out
              case measure => simp [intOf]; omega
          · obtain rfl : j = n := by omega
            have e9 : metN (t : Int) l j = ownersL (t : Int) l := by rw [← metN_all, HN.out]
            rw [e9] at HO
            clear e9
            go_wp2_with fail
            go_ret
            exact ⟨_, rfl, HO.out, HB.out⟩
    · obtain rfl : f = n := by omega
      have HFv : Hid (firstP (t : Int) l = f) := by
        show _ = _
        rw [HFi.out, List.drop_eq_nil_of_le (by rw [HN.out]; exact Nat.le_refl _)]
        rfl
      clear HFi hfn
      have hfi : ¬ (f : Int) < (f : Int) := by omega
      go_upto_region 5 with fail
      clear hfi
      go_wp2_with fail
      go_loopw [7, 8] (fun s7 s8 wr => ∃ (j : Nat) (v7 : Value), s7 = v7 ∧ j ≤ f ∧ s8 = .int .i64 j ∧ Hid (OwnI w.heap.size wr v7 (metN (t : Int) l j)) ∧ Hid (Below w.heap.size w wr)) (fun _ i _ => f - (intOf i).toNat)
      case atStart => exact ⟨0, .slice none 0 0, rfl, Nat.zero_le _, rfl, OwnI.nil _ _, HB⟩
      case round =>
        clear HB
        obtain ⟨j, v7, hs7, hj, rfl, HO, HB⟩ := hrel
        have hs7' := hs7.symm
        clear hs7
        subst hs7'
        by_cases hltj : j < f
        · have hlti : (j : Int) < (f : Int) := by omega
          have hws := HB.out.size
          obtain ⟨r, HRm⟩ : ∃ r, Hid ((f + j) % f = r) := ⟨_, rfl⟩
          have hrn : r < f := by rw [← HRm.out]; exact Nat.mod_lt _ (by omega)
          have hrl : r < l.length := by rw [HN.out]; exact hrn
          have hremj : ((f : Int) + (j : Int)).tmod (f : Int) = (r : Int) := by
            rw [← HRm.out, ← rem_nat]
            rfl
          have hri : (r : Int) < (f : Int) := by omega
          have c1 := ((HAt.out r hrl).of_block (HB.out.block b hbw)).c1
          have HStep : Hid (metN (t : Int) l (j + 1) = if (metN (t : Int) l j).contains l[r].n = true then metN (t : Int) l j else metN (t : Int) l j ++ [l[r].n]) := by
            refine metN_step (by rw [HN.out]; exact hltj) (fun hr' => ?_)
            rw [rotN_get (by rw [HN.out]; exact hltj) (Nat.mod_lt _ (by omega)) hr']
            have e : (firstQ (t : Int) l + j) % l.length = r := by rw [firstQ_mod (by rw [HN.out]; exact hltj), HFv.out, HN.out]; exact HRm.out
            simp only [e]
          have HFew : Hid ((metN (t : Int) l (j + 1)).length ≤ 6) := metN_few HIn.out _
          obtain ⟨x, HX⟩ : ∃ x, Hid (l[r].n = x) := ⟨l[r].n, show l[r].n = l[r].n from rfl⟩
          rw [HX.out] at c1 HStep
          obtain ⟨xs, HXs⟩ : ∃ xs, Hid (metN (t : Int) l j = xs) := ⟨_, rfl⟩
          rw [HXs.out] at HO HStep
          cases hc : xs.contains x
          · have HE : Hid (metN (t : Int) l (j + 1) = xs ++ [x]) := by show _ = _; rw [HStep.out, if_neg (by rw [hc]; simp)]
            have HC : Hid (xs.contains x = false) := hc
            rw [HE.out] at HFew
            have hx6 : xs.length + 1 ≤ 6 := by have := HFew.out; rw [List.length_append] at this; exact this
            have HOa : Hid (OwnI w.heap.size (wr.alloc (.cells #[.int .i64 x] 3)) v7 xs) := HO.out.below ((Below.refl _ _).alloc (Nat.le_refl _) _)
            have HVa : Hid ((wr.alloc (.cells #[.int .i64 x] 3)).heap[wr.heap.size]? = some (.cells #[.int .i64 x] 3 (0, 0))) := alloc_at _ _ _ rfl
            have HSa : Hid (w.heap.size ≤ (wr.alloc (.cells #[.int .i64 x] 3)).heap.size) := show _ ≤ _ from (by simp; omega)
            have HLa : Hid (xs.length ≤ 100) := show xs.length ≤ 100 from (by omega)
            have HBa : Hid (Below w.heap.size w (wr.alloc (.cells #[.int .i64 x] 3))) := HB.out.alloc hws _
            clear hc
            go_wp2_with fail
            refine (inW_c _ xs x false _ HO.out.ints HC.out).mono ?_
            rintro e w2 ⟨rfl, hw⟩
            have hw' := hw.symm
            clear hw
            subst hw'
            go_wp2_with (at_builtin; refine wp_appI _ rfl _ _ rfl w.heap.size _ xs x rfl HOa.out _ rfl HVa.out HLa.out HSa.out ?_)
            intro va wa hown hgrow
            have HOp : Hid (OwnI w.heap.size wa va (xs ++ [x])) := hown
            have HBp : Hid (Below w.heap.size w wa) := below_grownF HBa.out (Nat.le_refl _) hgrow.out (fun c hc => HO.out.from c hc)
            clear hown hgrow HOa HVa HLa HSa HBa c1
            go_wp2_with fail
            go_roundw
            case rel =>
              refine ⟨j + 1, _, rfl, by omega, by go_num, ?_, HBp⟩
              show OwnI _ _ _ _
              rw [HE.out]
              exact HOp.out
            case measure => simp [intOf]; omega
          · have HE : Hid (metN (t : Int) l (j + 1) = xs) := by show _ = _; rw [HStep.out, if_pos hc]
            have HC : Hid (xs.contains x = true) := hc
            clear hc
            go_wp2_with fail
            refine (inW_c _ xs x true _ HO.out.ints HC.out).mono ?_
            rintro e w2 ⟨rfl, hw⟩
            have hw' := hw.symm
            clear hw
            subst hw'
            go_wp2_with fail
            go_roundw
            case rel =>
              refine ⟨j + 1, _, rfl, by omega, by go_num, ?_, HB⟩
              show OwnI _ _ _ _
              rw [HE.out]
              exact HO.out
            case measure => simp [intOf]; omega
        · obtain rfl : j = f := by omega
          have e9 : metN (t : Int) l j = ownersL (t : Int) l := by rw [← metN_all, HN.out]
          rw [e9] at HO
          clear e9
          go_wp2_with fail
          go_ret
          exact ⟨_, rfl, HO.out, HB.out⟩
end Go.Proofs.YtpcnfoaoajfhlaaGreatDoor
