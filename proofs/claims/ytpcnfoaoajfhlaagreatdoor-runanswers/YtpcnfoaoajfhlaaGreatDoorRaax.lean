/-
  The document's Ring and Owners, by their contracts.
  The document's Owners, by its contract.
  A session on lists: a text cut at a byte, its lines, and numbers of at most four digits.
  Package run by its contracts: readNumber.
-/
import Derived.Test.YtpcnfoaoajfhlaaGreatDoorRaaw
import Derived.Test.YtpcnfoaoajfhlaaGreatDoorRaat
import Derived.Test.YtpcnfoaoajfhlaaGreatDoorRaaa
import Derived.Lib.SplitLaws
import Derived.Lib.CutLaws
import Derived.Lib.IndexLaws
import Derived.Lib.IndexBytes
import Derived.BigRegion
import Derived.BigQuiet
import Derived.Deep.DeepCutAuto
import Derived.WalkSmall
namespace Go.Proofs.YtpcnfoaoajfhlaaGreatDoor
set_option linter.unusedVariables false
set_option linter.unusedSimpArgs false
set_option linter.unusedVariables false
set_option linter.unusedSimpArgs false
open Go.RowKit

end Go.Proofs.YtpcnfoaoajfhlaaGreatDoor

namespace Go.Proofs.YtpcnfoaoajfhlaaGreatDoor
set_option linter.unusedVariables false
set_option linter.unusedSimpArgs false
open Go.RowKit

theorem firstP_hit {t : Int} {l : List Pt} {j : Nat} (h : j < l.length) (hp : ¬ l[j].p < t) : firstP t (l.drop j) = 0 := by
  rw [List.drop_eq_getElem_cons h, firstP, if_neg hp]
theorem firstP_miss {t : Int} {l : List Pt} {j : Nat} (h : j < l.length) (hp : l[j].p < t) : firstP t (l.drop j) = firstP t (l.drop (j + 1)) + 1 := by
  rw [List.drop_eq_getElem_cons h, firstP, if_pos hp]
theorem firstQ_mod {t : Int} {l : List Pt} {j : Nat} (hj : j < l.length) : (firstQ t l + j) % l.length = (firstP t l + j) % l.length := by
  unfold firstQ
  have := firstP_le t l
  split
  · rfl
  · have e : firstP t l = l.length := by omega
    rw [e, Nat.add_mod_left, Nat.zero_add]
set_option maxHeartbeats 16000000 in
theorem rOwners_c (v : Value) (l : List Pt) (k : Nat) (w : World) (hr : PtsIs w v l) (hR : rightP l = true) (hk : k ≤ 7) :
    Calls Tryz.prog 88 #[v, .int .i64 (k : Nat)] w fun e w' => ∃ u, e = .returned u ∧ OwnI w.heap.size w' u (ownersL (keyT k) l) ∧ Below w.heap.size w w' := by
  have HPr : Hid (∀ W, Calls Tryz.prog 133 #[.int .i64 (k : Nat), .int .i64 (k : Nat)] W fun e w' => e = .returned (.int .i64 (pairH k k : Nat)) ∧ Below W.heap.size W w') := fun W => rPairG_c k k (by omega) (by omega) W
  have hlp := pairH_lt k k
  have hkt : keyT k = ((pairH k k % 256 : Nat) : Int) := rfl
  rw [hkt]
  clear hkt
  generalize pairH k k = P at HPr hlp ⊢
  obtain ⟨t, HRr⟩ : ∃ t, Hid (P % 256 = t) := ⟨_, rfl⟩
  have hrem : ((P : Int)).tmod 256 = (t : Int) := by
    rw [← HRr.out]
    exact rem_nat P 256
  rw [HRr.out]
  have hlen := right_len hR
  have hne : l ≠ [] := by intro h; rw [h] at hlen; simp at hlen
  have HIn : Hid (∀ x ∈ l, inP x = true) := right_in l none (by
    unfold rightP at hR
    rw [Bool.and_eq_true] at hR
    exact hR.2)
  obtain ⟨_, p, cap, rfl, hrow⟩ := hr
  obtain ⟨b, o, rfl, hbw, hat⟩ := hrow hne
  have HAt : Hid (∀ j (h : j < l.length), PtAt w b (o + j * 2) l[j]) := hat
  obtain ⟨n, HN⟩ : ∃ n, Hid (l.length = n) := ⟨_, rfl⟩
  clear hrow hat hR hne
  rw [HN.out] at hlen ⊢
  have h48 : n ≤ 48 := hlen.2
  have h0n : 1 ≤ n := hlen.1
  clear hlen
  go_enter Tryz.func88, Tryz.ntmps88
  go_wp2_with fail
  refine (HPr.out _).mono ?_
  rintro e w1 ⟨rfl, hb⟩
  have B1 : Hid (Below w.heap.size w w1) := hb
  clear hb HPr
  go_wp2_with fail
  go_loopw [6] (fun s6 wr => ∃ f : Nat, f ≤ n ∧ s6 = .int .i64 f ∧ Hid (firstP (t : Int) l = f + firstP (t : Int) (l.drop f)) ∧ Hid (Below w.heap.size w wr)) (fun i _ => n - (intOf i).toNat)
  case atStart => exact ⟨0, Nat.zero_le _, rfl, by show _ = _; rw [Nat.zero_add, List.drop_zero], B1⟩
  case round =>
    clear B1
    obtain ⟨f, hf, rfl, HFi, HB⟩ := hrel
    by_cases hfn : f < n
    · have hfi : (f : Int) < (n : Int) := by omega
      have hfl : f < l.length := by rw [HN.out]; exact hfn
      have c0 := ((HAt.out f hfl).of_block (HB.out.block b hbw)).c0
      have HHit : Hid (¬ l[f].p < (t : Int) → firstP (t : Int) l = f) := fun h => by rw [HFi.out, firstP_hit hfl h, Nat.add_zero]
      have HMiss : Hid (l[f].p < (t : Int) → firstP (t : Int) l = f + 1 + firstP (t : Int) (l.drop (f + 1))) := fun h => by rw [HFi.out, firstP_miss hfl h]; omega
      obtain ⟨y, HY⟩ : ∃ y, Hid (l[f].p = y) := ⟨l[f].p, show l[f].p = l[f].p from rfl⟩
      rw [HY.out] at c0 HHit HMiss
      by_cases hyt : y < (t : Int)
      · have HM : Hid (firstP (t : Int) l = f + 1 + firstP (t : Int) (l.drop (f + 1))) := HMiss.out hyt
        clear HHit HMiss
        go_wp2_with fail
        go_roundw
        case rel => exact ⟨f + 1, by omega, by go_num, HM, HB⟩
        case measure => simp [intOf]; omega
      · have HFv : Hid (firstP (t : Int) l = f) := HHit.out hyt
        have hyb : decide (y < (t : Int)) = false := decide_eq_false hyt
        clear HHit HMiss HFi
        go_upto_region 5 with fail
        clear c0 hyt hyb
        go_wp2_with fail
        go_loopw [7, 8] (fun s7 s8 wr => ∃ (j : Nat) (v7 : Value), s7 = v7 ∧ j ≤ n ∧ s8 = .int .i64 j ∧ Hid (OwnI w.heap.size wr v7 (metN (t : Int) l j)) ∧ Hid (Below w.heap.size w wr)) (fun _ i _ => n - (intOf i).toNat)
        case atStart => exact ⟨0, .slice none 0 0, rfl, Nat.zero_le _, rfl, OwnI.nil _ _, HB⟩
        case round =>
          clear HB
          obtain ⟨j, v7, hs7, hj, rfl, HO, HB⟩ := hrel
          have hs7' := hs7.symm
          clear hs7
          subst hs7'
          by_cases hltj : j < n
          · have hlti : (j : Int) < (n : Int) := by omega
            have hws := HB.out.size
            obtain ⟨r, HRm⟩ : ∃ r, Hid ((f + j) % n = r) := ⟨_, rfl⟩
            have hrn : r < n := by rw [← HRm.out]; exact Nat.mod_lt _ (by omega)
            have hrl : r < l.length := by rw [HN.out]; exact hrn
            have hremj : ((f : Int) + (j : Int)).tmod (n : Int) = (r : Int) := by
              rw [← HRm.out, ← rem_nat]
              rfl
            have hri : (r : Int) < (n : Int) := by omega
            have c1 := ((HAt.out r hrl).of_block (HB.out.block b hbw)).c1
            have HStep : Hid (metN (t : Int) l (j + 1) = if (metN (t : Int) l j).contains l[r].n = true then metN (t : Int) l j else metN (t : Int) l j ++ [l[r].n]) := by
              refine metN_step (by rw [HN.out]; exact hltj) (fun hr' => ?_)
              rw [rotN_get (by rw [HN.out]; exact hltj) (Nat.mod_lt _ (by omega)) hr']
              have e : (firstQ (t : Int) l + j) % l.length = r := by rw [firstQ_mod (by rw [HN.out]; exact hltj), HFv.out, HN.out]; exact HRm.out
              simp only [e]
            have HFew : Hid ((metN (t : Int) l (j + 1)).length ≤ 6) := metN_few HIn.out _
            obtain ⟨x, HX⟩ : ∃ x, Hid (l[r].n = x) := ⟨l[r].n, show l[r].n = l[r].n from rfl⟩
            rw [HX.out] at c1 HStep
            obtain ⟨xs, HXs⟩ : ∃ xs, Hid (metN (t : Int) l j = xs) := ⟨_, rfl⟩
            rw [HXs.out] at HO HStep
            cases hc : xs.contains x
            · have HE : Hid (metN (t : Int) l (j + 1) = xs ++ [x]) := by show _ = _; rw [HStep.out, if_neg (by rw [hc]; simp)]
              have HC : Hid (xs.contains x = false) := hc
              rw [HE.out] at HFew
              have hx6 : xs.length + 1 ≤ 6 := by have := HFew.out; rw [List.length_append] at this; exact this
              have HOa : Hid (OwnI w.heap.size (wr.alloc (.cells #[.int .i64 x] 3)) v7 xs) := HO.out.below ((Below.refl _ _).alloc (Nat.le_refl _) _)
              have HVa : Hid ((wr.alloc (.cells #[.int .i64 x] 3)).heap[wr.heap.size]? = some (.cells #[.int .i64 x] 3 (0, 0))) := alloc_at _ _ _ rfl
              have HSa : Hid (w.heap.size ≤ (wr.alloc (.cells #[.int .i64 x] 3)).heap.size) := show _ ≤ _ from (by simp; omega)
              have HLa : Hid (xs.length ≤ 100) := show xs.length ≤ 100 from (by omega)
              have HBa : Hid (Below w.heap.size w (wr.alloc (.cells #[.int .i64 x] 3))) := HB.out.alloc hws _
              clear hc
              go_wp2_with fail
              refine (inW_c _ xs x false _ HO.out.ints HC.out).mono ?_
              rintro e w2 ⟨rfl, hw⟩
              have hw' := hw.symm
              clear hw
              subst hw'
              go_wp2_with (at_builtin; refine wp_appI _ rfl _ _ rfl w.heap.size _ xs x rfl HOa.out _ rfl HVa.out HLa.out HSa.out ?_)
              intro va wa hown hgrow
              have HOp : Hid (OwnI w.heap.size wa va (xs ++ [x])) := hown
              have HBp : Hid (Below w.heap.size w wa) := below_grownF HBa.out (Nat.le_refl _) hgrow.out (fun c hc => HO.out.from c hc)
              clear hown hgrow HOa HVa HLa HSa HBa c1
              go_wp2_with fail
              go_roundw
              case rel =>
                refine ⟨j + 1, _, rfl, by omega, by go_num, ?_, HBp⟩
                show OwnI _ _ _ _
                rw [HE.out]
                exact HOp.out
              case measure => simp [intOf]; omega
            · have HE : Hid (metN (t : Int) l (j + 1) = xs) := by show _ = _; rw [HStep.out, if_pos hc]
              have HC : Hid (xs.contains x = true) := hc
              clear hc
              go_wp2_with fail
              refine (inW_c _ xs x true _ HO.out.ints HC.out).mono ?_
              rintro e w2 ⟨rfl, hw⟩
              have hw' := hw.symm
              clear hw
              subst hw'
              go_wp2_with fail
              go_roundw
              case rel =>
                refine ⟨j + 1, _, rfl, by omega, by go_num, ?_, HB⟩
                show OwnI _ _ _ _
                rw [HE.out]
                exact HO.out
              case measure => simp [intOf]; omega
          · obtain rfl : j = n := by omega
            have e9 : metN (t : Int) l j = ownersL (t : Int) l := by rw [← metN_all, HN.out]
            rw [e9] at HO
            clear e9
            go_wp2_with fail
            go_ret
            exact ⟨_, rfl, HO.out, HB.out⟩
    · obtain rfl : f = n := by omega
      have HFv : Hid (firstP (t : Int) l = f) := by
        show _ = _
        rw [HFi.out, List.drop_eq_nil_of_le (by rw [HN.out]; exact Nat.le_refl _)]
        rfl
      clear HFi hfn
      have hfi : ¬ (f : Int) < (f : Int) := by omega
      go_upto_region 5 with fail
      clear hfi
      go_wp2_with fail
      go_loopw [7, 8] (fun s7 s8 wr => ∃ (j : Nat) (v7 : Value), s7 = v7 ∧ j ≤ f ∧ s8 = .int .i64 j ∧ Hid (OwnI w.heap.size wr v7 (metN (t : Int) l j)) ∧ Hid (Below w.heap.size w wr)) (fun _ i _ => f - (intOf i).toNat)
      case atStart => exact ⟨0, .slice none 0 0, rfl, Nat.zero_le _, rfl, OwnI.nil _ _, HB⟩
      case round =>
        clear HB
        obtain ⟨j, v7, hs7, hj, rfl, HO, HB⟩ := hrel
        have hs7' := hs7.symm
        clear hs7
        subst hs7'
        by_cases hltj : j < f
        · have hlti : (j : Int) < (f : Int) := by omega
          have hws := HB.out.size
          obtain ⟨r, HRm⟩ : ∃ r, Hid ((f + j) % f = r) := ⟨_, rfl⟩
          have hrn : r < f := by rw [← HRm.out]; exact Nat.mod_lt _ (by omega)
          have hrl : r < l.length := by rw [HN.out]; exact hrn
          have hremj : ((f : Int) + (j : Int)).tmod (f : Int) = (r : Int) := by
            rw [← HRm.out, ← rem_nat]
            rfl
          have hri : (r : Int) < (f : Int) := by omega
          have c1 := ((HAt.out r hrl).of_block (HB.out.block b hbw)).c1
          have HStep : Hid (metN (t : Int) l (j + 1) = if (metN (t : Int) l j).contains l[r].n = true then metN (t : Int) l j else metN (t : Int) l j ++ [l[r].n]) := by
            refine metN_step (by rw [HN.out]; exact hltj) (fun hr' => ?_)
            rw [rotN_get (by rw [HN.out]; exact hltj) (Nat.mod_lt _ (by omega)) hr']
            have e : (firstQ (t : Int) l + j) % l.length = r := by rw [firstQ_mod (by rw [HN.out]; exact hltj), HFv.out, HN.out]; exact HRm.out
            simp only [e]
          have HFew : Hid ((metN (t : Int) l (j + 1)).length ≤ 6) := metN_few HIn.out _
          obtain ⟨x, HX⟩ : ∃ x, Hid (l[r].n = x) := ⟨l[r].n, show l[r].n = l[r].n from rfl⟩
          rw [HX.out] at c1 HStep
          obtain ⟨xs, HXs⟩ : ∃ xs, Hid (metN (t : Int) l j = xs) := ⟨_, rfl⟩
          rw [HXs.out] at HO HStep
          cases hc : xs.contains x
          · have HE : Hid (metN (t : Int) l (j + 1) = xs ++ [x]) := by show _ = _; rw [HStep.out, if_neg (by rw [hc]; simp)]
            have HC : Hid (xs.contains x = false) := hc
            rw [HE.out] at HFew
            have hx6 : xs.length + 1 ≤ 6 := by have := HFew.out; rw [List.length_append] at this; exact this
            have HOa : Hid (OwnI w.heap.size (wr.alloc (.cells #[.int .i64 x] 3)) v7 xs) := HO.out.below ((Below.refl _ _).alloc (Nat.le_refl _) _)
            have HVa : Hid ((wr.alloc (.cells #[.int .i64 x] 3)).heap[wr.heap.size]? = some (.cells #[.int .i64 x] 3 (0, 0))) := alloc_at _ _ _ rfl
            have HSa : Hid (w.heap.size ≤ (wr.alloc (.cells #[.int .i64 x] 3)).heap.size) := show _ ≤ _ from (by simp; omega)
            have HLa : Hid (xs.length ≤ 100) := show xs.length ≤ 100 from (by omega)
            have HBa : Hid (Below w.heap.size w (wr.alloc (.cells #[.int .i64 x] 3))) := HB.out.alloc hws _
            clear hc
            go_wp2_with fail
            refine (inW_c _ xs x false _ HO.out.ints HC.out).mono ?_
            rintro e w2 ⟨rfl, hw⟩
            have hw' := hw.symm
            clear hw
            subst hw'
            go_wp2_with (at_builtin; refine wp_appI _ rfl _ _ rfl w.heap.size _ xs x rfl HOa.out _ rfl HVa.out HLa.out HSa.out ?_)
            intro va wa hown hgrow
            have HOp : Hid (OwnI w.heap.size wa va (xs ++ [x])) := hown
            have HBp : Hid (Below w.heap.size w wa) := below_grownF HBa.out (Nat.le_refl _) hgrow.out (fun c hc => HO.out.from c hc)
            clear hown hgrow HOa HVa HLa HSa HBa c1
            go_wp2_with fail
            go_roundw
            case rel =>
              refine ⟨j + 1, _, rfl, by omega, by go_num, ?_, HBp⟩
              show OwnI _ _ _ _
              rw [HE.out]
              exact HOp.out
            case measure => simp [intOf]; omega
          · have HE : Hid (metN (t : Int) l (j + 1) = xs) := by show _ = _; rw [HStep.out, if_pos hc]
            have HC : Hid (xs.contains x = true) := hc
            clear hc
            go_wp2_with fail
            refine (inW_c _ xs x true _ HO.out.ints HC.out).mono ?_
            rintro e w2 ⟨rfl, hw⟩
            have hw' := hw.symm
            clear hw
            subst hw'
            go_wp2_with fail
            go_roundw
            case rel =>
              refine ⟨j + 1, _, rfl, by omega, by go_num, ?_, HB⟩
              show OwnI _ _ _ _
              rw [HE.out]
              exact HO.out
            case measure => simp [intOf]; omega
        · obtain rfl : j = f := by omega
          have e9 : metN (t : Int) l j = ownersL (t : Int) l := by rw [← metN_all, HN.out]
          rw [e9] at HO
          clear e9
          go_wp2_with fail
          go_ret
          exact ⟨_, rfl, HO.out, HB.out⟩
end Go.Proofs.YtpcnfoaoajfhlaaGreatDoor

namespace Go.Proofs.YtpcnfoaoajfhlaaGreatDoor
set_option linter.unusedVariables false
set_option linter.unusedSimpArgs false
open Go.RowKit

/-- a text cut at each byte c -/
def cutL (c : UInt8) : List UInt8 → List (List UInt8)
  | [] => [[]]
  | x :: s => if x = c then [] :: cutL c s else match cutL c s with
    | [] => [[x]]
    | w :: ws => (x :: w) :: ws
theorem cutL_ne (c : UInt8) (s : List UInt8) : cutL c s ≠ [] := by
  cases s with
  | nil => simp [cutL]
  | cons x s =>
    unfold cutL
    split
    · simp
    · split <;> simp
theorem cutL_hit (c : UInt8) : ∀ {s : List UInt8} {i : Nat}, s[i]? = some c → (∀ k, k < i → s[k]? ≠ some c) → cutL c s = s.take i :: cutL c (s.drop (i + 1))
  | [], i, h, _ => by simp at h
  | x :: s, 0, h, _ => by
    have : x = c := by simpa using h
    simp [cutL, this]
  | x :: s, i + 1, h, hn => by
    have h0 : x ≠ c := by simpa using hn 0 (by omega)
    have ih := cutL_hit c (s := s) (i := i) (by simpa using h) (fun k hk => by simpa using hn (k + 1) (by omega))
    simp [cutL, h0, ih]
theorem cutL_miss (c : UInt8) : ∀ {s : List UInt8}, (∀ k : Nat, s[k]? ≠ some c) → cutL c s = [s]
  | [], _ => rfl
  | x :: s, hn => by
    have h0 : x ≠ c := by simpa using hn 0
    have ih := cutL_miss c (s := s) (fun k => by simpa using hn (k + 1))
    simp [cutL, h0, ih]
theorem indexB_one (s : ByteArray) (c : UInt8) : Lib.indexB s ⟨#[c]⟩ = Lib.indexByte s.data.toList c := Lib.index_one s.data.toList c
theorem extract_dropL (s : ByteArray) (i : Nat) : (s.extract i s.size).data.toList = s.data.toList.drop i := by
  rw [Lib.extract_eq]
  have h : List.take (s.size - i) (List.drop i s.data.toList) = List.drop i s.data.toList :=
    List.take_of_length_le (by rw [List.length_drop, ← Lib.size_eq]; exact Nat.le_refl _)
  simp [h]
theorem extract_takeL (s : ByteArray) (i : Nat) : (s.extract 0 i).data.toList = s.data.toList.take i := by
  rw [Lib.extract_eq]
  simp
/-- what strings.Split answers at one byte -/
theorem splitB_cutL (c : UInt8) : ∀ (k : Nat) (s : ByteArray), Lib.countB s ⟨#[c]⟩ = k → (Lib.splitB ⟨#[c]⟩ 0 k s).map (fun b => b.data.toList) = cutL c s.data.toList
  | 0, s, hk => by
    rcases Lib.indexB_cases s ⟨#[c]⟩ with h | ⟨i, h, _⟩
    · rw [Lib.splitB_zero, cutL_miss c (Lib.indexByte_none (by rw [← indexB_one]; exact h))]
      rfl
    · have := Lib.countB_hit s ⟨#[c]⟩ i (Nat.le_refl 1) h
      omega
  | k + 1, s, hk => by
    rcases Lib.indexB_cases s ⟨#[c]⟩ with h | ⟨i, h, _⟩
    · have := Lib.countB_miss s ⟨#[c]⟩ h
      omega
    · have hc := Lib.countB_hit s ⟨#[c]⟩ i (Nat.le_refl 1) h
      have e1 : (⟨#[c]⟩ : ByteArray).size = 1 := rfl
      rw [e1] at hc
      have ih := splitB_cutL c k (s.extract (i + 1) s.size) (by omega)
      obtain ⟨h1, h2⟩ := Lib.indexByte_some (l := s.data.toList) (c := c) (o := i) (by rw [← indexB_one]; exact h)
      rw [Lib.splitB_hit _ _ _ _ i h, e1, List.map_cons, ih, cutL_hit c h1 h2, extract_dropL, Nat.add_zero, extract_takeL]
/-- the lines of a text: where nothing is left behind a byte 10, there is no line -/
def linesL (t : List UInt8) : List (List UInt8) := if (cutL 10 t).getLast? = some [] then (cutL 10 t).dropLast else cutL 10 t
theorem linesL_nil : linesL [] = [] := rfl
theorem linesL_hit {t : List UInt8} {i : Nat} (h : t[i]? = some 10) (hn : ∀ k, k < i → t[k]? ≠ some 10) : linesL t = t.take i :: linesL (t.drop (i + 1)) := by
  unfold linesL
  rw [cutL_hit 10 h hn]
  obtain ⟨a, b, e⟩ : ∃ a b, cutL 10 (t.drop (i + 1)) = a :: b := by
    cases hq : cutL 10 (t.drop (i + 1)) with
    | nil => exact absurd hq (cutL_ne _ _)
    | cons a b => exact ⟨a, b, rfl⟩
  rw [e, List.getLast?_cons_cons]
  by_cases hl : (a :: b).getLast? = some []
  · rw [if_pos hl, if_pos hl, List.dropLast_cons_of_ne_nil (by simp)]
  · rw [if_neg hl, if_neg hl]
theorem linesL_miss {t : List UInt8} (h0 : t ≠ []) (hn : ∀ k : Nat, t[k]? ≠ some 10) : linesL t = [t] := by
  unfold linesL
  rw [cutL_miss 10 hn, if_neg (by simpa using h0)]
/-- one line, and what is left, as strings.Cut tells them -/
theorem linesL_cut (s : ByteArray) (h0 : s.data.toList ≠ []) : linesL s.data.toList = (Lib.cut s.data.toList [10]).1 :: linesL (Lib.cut s.data.toList [10]).2.1 := by
  rcases Lib.indexB_cases s ⟨#[10]⟩ with h | ⟨i, h, _⟩
  · have h' : Lib.index s.data.toList [10] = -1 := h
    rw [linesL_miss h0 (Lib.indexByte_none (by rw [← indexB_one]; exact h)), Lib.cut, h', if_neg (by omega)]
    rfl
  · have h' : Lib.index s.data.toList [10] = i := h
    obtain ⟨h1, h2⟩ := Lib.indexByte_some (l := s.data.toList) (c := 10) (o := i) (by rw [← indexB_one]; exact h)
    rw [linesL_hit h1 h2, Lib.cut, h', if_pos (by omega)]
    simp
theorem linesL_less (s : ByteArray) (h0 : s.data.toList ≠ []) : (Lib.cut s.data.toList [10]).2.1.length < s.data.toList.length := by
  have hp : 0 < s.data.toList.length := List.length_pos_iff.2 h0
  rcases Lib.indexB_cases s ⟨#[10]⟩ with h | ⟨i, h, _⟩
  · have h' : Lib.index s.data.toList [10] = -1 := h
    rw [Lib.cut, h', if_neg (by omega)]
    simpa using hp
  · have h' : Lib.index s.data.toList [10] = i := h
    rw [Lib.cut, h', if_pos (by omega)]
    have h2 : (List.drop (i + 1) s.data.toList).length < s.data.toList.length := by rw [List.length_drop]; omega
    exact h2
/-- a number of at most four digits, without a needless 0 -/
def digitB (x : UInt8) : Bool := decide (48 ≤ x.toNat) && decide (x.toNat ≤ 57)
def stepD (n : Nat) (x : UInt8) : Nat := 10 * n + (x.toNat - 48)
def numL (w : List UInt8) : Option Nat :=
  if w = [] ∨ 4 < w.length ∨ (w.head? = some 48 ∧ 1 < w.length) then none else if w.all digitB = true then some (w.foldl stepD 0) else none
theorem digit_le {x : UInt8} (h : digitB x = true) : x.toNat - 48 ≤ 9 := by
  simp [digitB] at h
  omega
theorem foldD_le : ∀ {w : List UInt8} {n : Nat}, (∀ x ∈ w, digitB x = true) → w.foldl stepD n < 10 ^ w.length * (n + 1)
  | [], n, _ => by simp
  | x :: w, n, h => by
    have h1 := digit_le (h x (by simp))
    have ih := foldD_le (w := w) (n := stepD n x) (fun y hy => h y (by simp [hy]))
    have e : (x :: w).foldl stepD n = w.foldl stepD (stepD n x) := rfl
    rw [e]
    refine Nat.lt_of_lt_of_le ih ?_
    rw [List.length_cons, Nat.pow_succ, Nat.mul_assoc]
    refine Nat.mul_le_mul_left _ ?_
    unfold stepD
    omega
theorem numL_le {w : List UInt8} {n : Nat} (h : numL w = some n) : n < 10000 := by
  unfold numL at h
  split at h
  · cases h
  · rename_i h1
    split at h
    · rename_i h2
      have h3 := foldD_le (w := w) (n := 0) (by simpa using h2)
      obtain rfl := Option.some.inj h
      have hl : w.length ≤ 4 := by omega
      have hp : 10 ^ w.length ≤ 10 ^ 4 := Nat.pow_le_pow_right (by omega) hl
      omega
    · cases h
end Go.Proofs.YtpcnfoaoajfhlaaGreatDoor

namespace Go.Proofs.YtpcnfoaoajfhlaaGreatDoor
set_option linter.unusedVariables false
set_option linter.unusedSimpArgs false
open Go.RowKit

theorem size_list (s : ByteArray) : s.data.toList.length = s.size := by rw [Array.length_toList]; rfl
theorem at_list (s : ByteArray) (j : Nat) (h : j < s.size) : s.data.toList[j]? = some s[j] := by
  rw [List.getElem?_eq_getElem (by rw [size_list]; exact h)]
  rfl
theorem empty_of {s : ByteArray} (h : s.size = 0) : s = ⟨#[]⟩ := by
  apply ByteArray.ext
  exact Array.eq_empty_of_size_eq_zero h
theorem list_ne {s : ByteArray} (h : s.size ≠ 0) : s.data.toList ≠ [] := fun e => h (by rw [← size_list, e]; rfl)
theorem toL_empty {s : ByteArray} (h : s.size ≠ 0) : (s.toList == []) = false := by
  rw [beq_eq_false_iff_ne, ByteArray.toList_eq]
  exact list_ne h
/-- the digits so far -/
def upD (s : ByteArray) (j : Nat) : Nat := (s.data.toList.take j).foldl stepD 0
theorem upD_more (s : ByteArray) (j : Nat) (h : j < s.size) : upD s (j + 1) = stepD (upD s j) s[j] := by
  unfold upD
  rw [List.take_add_one, at_list s j h, List.foldl_append]
  rfl
/-- what a line that cannot be is told by -/
def badV : Value := .iface 184 (.agg #[.int .i64 2])
theorem numL_bad {s : ByteArray} {j : Nat} (h : j < s.size) (hd : digitB s[j] = false) : numL s.data.toList = none := by
  unfold numL
  split
  · rfl
  · rw [if_neg]
    intro ha
    rw [List.all_eq_true] at ha
    have := ha s[j] (List.mem_of_getElem? (at_list s j h))
    rw [hd] at this
    cases this
theorem numL_ok {s : ByteArray} (h0 : s.size ≠ 0) (h4 : s.size ≤ 4) (hz : ¬ (s.data.toList.head? = some 48 ∧ 1 < s.size)) (hd : ∀ j (h : j < s.size), digitB s[j] = true) : numL s.data.toList = some (upD s s.size) := by
  unfold numL
  rw [if_neg, if_pos]
  · unfold upD
    rw [List.take_of_length_le (by rw [size_list]; exact Nat.le_refl _)]
  · rw [List.all_eq_true]
    intro x hx
    obtain ⟨j, hj, e⟩ := List.mem_iff_getElem.1 hx
    have hj' : j < s.size := by rw [← size_list]; exact hj
    have := hd j hj'
    rw [← e]
    exact this
  · rintro (h | h | h)
    · exact list_ne h0 h
    · rw [size_list] at h; omega
    · rw [size_list] at h; exact hz h
theorem upD_lt (s : ByteArray) (j : Nat) (hj : j ≤ s.size) (h4 : s.size ≤ 4) (hd : ∀ i (h : i < s.size), i < j → digitB s[i] = true) : upD s j < 10000 := by
  have h1 := foldD_le (w := s.data.toList.take j) (n := 0) (fun x hx => by
    obtain ⟨i, hi, e⟩ := List.mem_iff_getElem.1 hx
    have hi2 : i < j := by rw [List.length_take] at hi; omega
    have := hd i (by omega) hi2
    rw [← e, List.getElem_take]
    exact this)
  have hl : (s.data.toList.take j).length ≤ 4 := by rw [List.length_take, size_list]; omega
  have hp : 10 ^ (s.data.toList.take j).length ≤ 10 ^ 4 := Nat.pow_le_pow_right (by omega) hl
  unfold upD
  omega
/-- what readNumber answers -/
def numV (o : Option Nat) : Value := match o with
  | some n => .tuple #[.int .i64 n, .nilIface]
  | none => .tuple #[.int .i64 0, badV]
set_option maxHeartbeats 4000000 in
theorem readNumber_c (s : ByteArray) (w : World) (hs : s.size ≤ 9223372036854775807) :
    Calls Tryz.prog 195 #[.string s] w fun e w' => e = .returned (numV (numL s.data.toList)) ∧ w' = w := by
  have hbad : numL s.data.toList = none → numV (numL s.data.toList) = .tuple #[.int .i64 0, .iface 184 (.agg #[.int .i64 2])] := fun h => by rw [h]; rfl
  by_cases h0 : s.size = 0
  · rw [hbad (by rw [empty_of h0]; rfl)]
    have e := empty_of h0
    subst e
    clear h0 hs hbad
    go_enter Tryz.func195, Tryz.ntmps195
    go_wp2_with fail
    go_ret2
    exact ⟨rfl, rfl⟩
  have he := toL_empty h0
  by_cases h4 : 4 < s.size
  · have h4i : (4 : Int) < (s.size : Int) := by omega
    rw [hbad (by unfold numL; rw [if_pos (.inr (.inl (by rw [size_list]; exact h4)))])]
    clear hbad
    go_enter Tryz.func195, Tryz.ntmps195
    go_wp2_with fail
    go_ret2
    exact ⟨rfl, rfl⟩
  have h4i : ¬ (4 : Int) < (s.size : Int) := by omega
  have h0s : 0 < s.size := by omega
  by_cases hz : s.data.toList.head? = some 48 ∧ 1 < s.size
  · have hz0 : s[0] = 48 := by
      have h1 := hz.1
      rw [List.head?_eq_getElem?, at_list s 0 h0s] at h1
      exact Option.some.inj h1
    have hz1 : (1 : Int) < (s.size : Int) := by have := hz.2; omega
    have hz2 : ((s[0].toNat : Int) == 48) = true := by rw [hz0]; rfl
    rw [hbad (by unfold numL; rw [if_pos (.inr (.inr ⟨hz.1, by rw [size_list]; exact hz.2⟩))])]
    clear hbad hz
    go_enter Tryz.func195, Tryz.ntmps195
    go_wp2_with fail
    go_ret2
    exact ⟨rfl, rfl⟩
  go_enter Tryz.func195, Tryz.ntmps195
  go_upto_region 1 with fail
  go_cut [22] (fun c wd => wd = w ∧ c = .bool false)
  case first =>
    by_cases h48 : s[0].toNat = 48
    · have hz2 : ((s[0].toNat : Int) == 48) = true := by rw [h48]; rfl
      have hz1 : ¬ (1 : Int) < (s.size : Int) := by
        intro h
        refine hz ⟨?_, by omega⟩
        rw [List.head?_eq_getElem?, at_list s 0 h0s]
        exact congrArg some (UInt8.toNat_inj.1 h48)
      go_wp2_with fail
      go_meet
      case rel => exact ⟨rfl, rfl⟩
    · have hz2 : ((s[0].toNat : Int) == 48) = false := by simp; omega
      go_wp2_with fail
      go_meet
      case rel => exact ⟨rfl, rfl⟩
  case rest =>
  obtain ⟨hwd, rfl⟩ := hcut
  rw [hwd]
  clear hwd wc he h4i hbad
  go_wp2_with fail
  go_loopw [4, 27] (fun c4 c27 wr => ∃ j : Nat, j ≤ s.size ∧ c27 = .int .i64 j ∧ c4 = .int .i64 (upD s j : Nat) ∧ wr = w ∧ Hid (∀ i (h : i < s.size), i < j → digitB s[i] = true)) (fun _ c _ => s.size - (intOf c).toNat)
  case atStart => exact ⟨0, Nat.zero_le _, rfl, rfl, rfl, fun i _ h => absurd h (by omega)⟩
  case round =>
    obtain ⟨j, hj, rfl, rfl, hwr, HD⟩ := hrel
    rw [hwr]
    clear hwr wr
    by_cases hlt : j < s.size
    · have hlti : (j : Int) < (s.size : Int) := by omega
      by_cases hx : s[j].toNat < 48
      · have hx1 : (s[j].toNat : Int) < 48 := by omega
        have hb : numL s.data.toList = none := numL_bad hlt (by simp [digitB]; omega)
        go_wp2_with fail
        go_ret2
        exact ⟨by first | rfl | (rw [hb]; rfl), rfl⟩
      have hx1 : ¬ (s[j].toNat : Int) < 48 := by omega
      by_cases hy : 57 < s[j].toNat
      · have hy1 : (57 : Int) < (s[j].toNat : Int) := by omega
        have hb : numL s.data.toList = none := numL_bad hlt (by simp [digitB]; omega)
        go_wp2_with fail
        go_ret2
        exact ⟨by first | rfl | (rw [hb]; rfl), rfl⟩
      have hy1 : ¬ (57 : Int) < (s[j].toNat : Int) := by omega
      have HD2 : Hid (∀ i (h : i < s.size), i < j + 1 → digitB s[i] = true) := fun i h hi => by
        by_cases h2 : i < j
        · exact HD.out i h h2
        · obtain rfl : i = j := by omega
          simp [digitB]
          omega
      have hup := upD_lt s j hj (by omega) HD.out
      have hmore := upD_more s j hlt
      unfold stepD at hmore
      go_wp2_with fail
      go_roundw
      case rel => exact ⟨j + 1, by omega, by go_num, by rw [hmore]; go_num, trivial, HD2⟩
      case measure => simp [intOf]; omega
    · obtain rfl : j = s.size := by omega
      have hb : numL s.data.toList = some (upD s s.size) := numL_ok h0 (by omega) hz (fun i h => HD.out i h h)
      go_wp2_with fail
      go_ret2
      exact ⟨by first | rfl | (rw [hb]; rfl), rfl⟩
end Go.Proofs.YtpcnfoaoajfhlaaGreatDoor
