/-
  A swap on lists: which keys may be asked for, what each gives, what both have then, and that their trees part no more.
  Package swap by its contracts: isKey, checkKeys, Give.
  Package tree by its contracts: grow, of a cache that is wrong.
-/
import Derived.Test.YtpcnfoaoajfhlaaGreatDoorRaaq
import Derived.Test.YtpcnfoaoajfhlaaGreatDoorRaap
import Derived.BigRegion
import Derived.BigQuiet
namespace Go.Proofs.YtpcnfoaoajfhlaaGreatDoor
set_option linter.unusedVariables false
set_option linter.unusedSimpArgs false
set_option linter.unusedVariables false
set_option linter.unusedSimpArgs false
open Go.RowKit

/-- what is wrong with keys, behind such as were named -/
def badKF : List Int → List Int → Int
  | _, [] => 0
  | seen, k :: l => if isKeyB k = false then 1 else if seen.contains k = true then 7 else badKF (seen ++ [k]) l
/-- what is wrong with keys that are asked for -/
def badK (l : List Int) : Int := if 8 < l.length then 4 else badKF [] l
theorem badKF_step {l : List Int} {j : Nat} (h : j < l.length) : badKF (l.take j) (l.drop j) = if isKeyB l[j] = false then 1 else if (l.take j).contains l[j] = true then 7 else badKF (l.take (j + 1)) (l.drop (j + 1)) := by
  rw [List.drop_eq_getElem_cons h, badKF, List.take_succ_eq_append_getElem h]
theorem badK_full {l : List Int} (h : 8 < l.length) : badK l = 4 := by rw [badK, if_pos h]
theorem badK_else {l : List Int} (h : ¬ 8 < l.length) : badK l = badKF (l.take 0) (l.drop 0) := by rw [badK, if_neg h]; rfl
theorem badKF_range {l : List Int} {j : Nat} (h : j < l.length) (hr : isKeyB l[j] = false) : badKF (l.take j) (l.drop j) = 1 := by rw [badKF_step h, if_pos hr]
theorem badKF_clash {l : List Int} {j : Nat} (h : j < l.length) (hr : isKeyB l[j] = true) (hc : (l.take j).contains l[j] = true) : badKF (l.take j) (l.drop j) = 7 := by rw [badKF_step h, if_neg (by rw [hr]; simp), if_pos hc]
theorem badKF_next {l : List Int} {j : Nat} (h : j < l.length) (hr : isKeyB l[j] = true) (hc : (l.take j).contains l[j] = false) : badKF (l.take j) (l.drop j) = badKF (l.take (j + 1)) (l.drop (j + 1)) := by rw [badKF_step h, if_neg (by rw [hr]; simp), if_neg (by rw [hc]; simp)]
theorem badKF_end (l : List Int) : badKF (l.take l.length) (l.drop l.length) = 0 := by
  rw [List.drop_length]
  rfl
theorem badKF_zero : ∀ (l seen : List Int), l.Pairwise (· < ·) → (∀ k ∈ l, isKeyB k = true) → (∀ k ∈ l, k ∉ seen) → badKF seen l = 0 := by
  intro l
  induction l with
  | nil => intro seen _ _ _; rfl
  | cons k l ih =>
    intro seen h1 h2 h3
    rw [List.pairwise_cons] at h1
    rw [badKF, if_neg (by rw [h2 k (by simp)]; simp), if_neg (by simpa using h3 k (by simp))]
    refine ih _ h1.2 (fun q hq => h2 q (by simp [hq])) (fun q hq hm => ?_)
    rcases List.mem_append.1 hm with h | h
    · exact h3 q (by simp [hq]) h
    · have := h1.1 q hq
      simp at h
      omega
/-- the keys in which two trees part may be asked for -/
theorem partK_right (f g : Nat → Nat) : badK (partK f g 1) = 0 := by
  rw [badK, if_neg (by have := partK_len f g 1; omega)]
  refine badKF_zero _ _ (part_rise f g) (fun k hk => ?_) (by simp)
  obtain ⟨q, rfl, hq, _⟩ := part_mem hk
  simp [isKeyB]
  omega

theorem partK_has (f g : Nat → Nat) (q : Nat) : (partK f g 1).contains (q : Int) = true ↔ q ∈ ptK pairH f g 3 1 := by
  rw [List.contains_iff_mem]
  unfold partK
  rw [List.mem_map]
  constructor
  · rintro ⟨x, hx, hxq⟩
    have : x = q := by omega
    subst this
    exact hx
  · exact fun hq => ⟨q, hq, rfl⟩
/-- two trees whose ends were made alike where they parted part no more -/
theorem part_swapped (f g f' g' : Nat → Nat) (h : ∀ q : Nat, ((partK f g 1).contains (q : Int) = true → f' q = g' q) ∧ (¬ (partK f g 1).contains (q : Int) = true → f' q = f q ∧ g' q = g q)) : partK f' g' 1 = [] ∧ partN f' g' 1 = 1 := by
  refine part_alike (show nd pairH f' 3 1 = nd pairH g' 3 1 from ?_)
  refine nd_swapped pairH f g f' g' 3 1 (by decide) (fun k _ => ?_)
  obtain ⟨h1, h2⟩ := h k
  rw [partK_has] at h1 h2
  exact ⟨h1, h2⟩

/-- the keys in which two caches part -/
def lackK (a b : List En) : List Int := partK (leafN a) (leafN b) 1
theorem lackK_turn (a b : List En) : lackK b a = lackK a b := (part_turn _ _ 1).1
theorem lackK_right (a b : List En) : badK (lackK a b) = 0 := partK_right _ _
theorem lackK_mem {a b : List En} {k : Int} (h : k ∈ lackK a b) : ∃ q : Nat, k = (q : Int) ∧ q < 8 ∧ leafN a q ≠ leafN b q := part_mem h
theorem leafN_get {a b : List En} {q : Nat} (h : getE a (q : Int) = getE b (q : Int)) : leafN a q = leafN b q := by unfold leafN; rw [h]
/-- behind a swap they part no more -/
theorem swap_alike {a b x y : List En} (ha : GoodL a) (hb : GoodL b) (hx : giveE a b (lackK a b) = (x, 0)) (hy : giveE b a (lackK a b) = (y, 0)) : lackK x y = [] ∧ partN (leafN x) (leafN y) 1 = 1 := by
  refine part_swapped (leafN a) (leafN b) (leafN x) (leafN y) (fun q => ⟨fun hc => ?_, fun hc => ?_⟩)
  · exact leafN_get (give_on ha hb hx hy hc)
  · exact ⟨leafN_get (give_off ha hb hx hc), leafN_get (give_off hb ha hy hc)⟩

/-- what Give answers -/
def giveW (l : List En) (K : List Int) : List En × Int := if badL l ≠ 0 then ([], badL l) else if badK K ≠ 0 then ([], badK K) else (someE l K, 0)
theorem giveW_one {l : List En} {K : List Int} {n : Int} (h : badL l = n) (hn : n ≠ 0) : giveW l K = ([], n) := by rw [giveW, if_pos (by rw [h]; exact hn), h]
theorem giveW_two {l : List En} {K : List Int} {n : Int} (h : badL l = 0) (hK : badK K = n) (hn : n ≠ 0) : giveW l K = ([], n) := by rw [giveW, if_neg (by simpa using h), if_pos (by rw [hK]; exact hn), hK]
theorem giveW_ok {l : List En} {K : List Int} (h : badL l = 0) (hK : badK K = 0) : giveW l K = (someE l K, 0) := by rw [giveW, if_neg (by simpa using h), if_neg (by simpa using hK)]
theorem someE_yes {l : List En} {K : List Int} {j : Nat} (h : j < l.length) (hc : K.contains l[j].k = true) : someE (l.take (j + 1)) K = someE (l.take j) K ++ [l[j]] := by
  unfold someE
  rw [List.take_succ_eq_append_getElem h, List.filter_append, List.filter_cons_of_pos (by exact hc)]
  rfl
theorem someE_no {l : List En} {K : List Int} {j : Nat} (h : j < l.length) (hc : K.contains l[j].k = false) : someE (l.take (j + 1)) K = someE (l.take j) K := by
  unfold someE
  rw [List.take_succ_eq_append_getElem h, List.filter_append, List.filter_cons_of_neg (by rw [hc]; simp)]
  simp
theorem someE_len (l : List En) (K : List Int) : (someE l K).length ≤ l.length := List.length_filter_le _ _
theorem give_as_both {a b : List En} {K : List Int} (ha : GoodL a) (hb : GoodL b) : cacheBoth a (someE b K) = giveE a b K := by
  rw [cacheBoth, if_neg (by simpa using ha.bad), if_neg (by simpa using (someE_good hb).bad)]
  rfl
theorem all_err {l b R1 : List En} {R2 : Int} (h : allE l b = (R1, R2)) (hn : R2 ≠ 0) : R1 = [] := by
  induction b generalizing l with
  | nil => rw [allE] at h; simp at h; exact absurd h.2.symm hn
  | cons e b ih =>
    rw [allE] at h
    split at h
    · simp at h; exact h.1
    · exact ih h
theorem give_err {a b x : List En} {K : List Int} {n : Int} (h : giveE a b K = (x, n)) (hn : n ≠ 0) : x = [] := all_err h hn

/-- what Pair answers -/
def pairW (a b : List En) : List En × List En × Int :=
  if bad2 (badL a) (badL b) ≠ 0 then ([], [], bad2 (badL a) (badL b))
  else if (giveE a b (lackK a b)).2 ≠ 0 then ([], [], (giveE a b (lackK a b)).2)
  else if (giveE b a (lackK a b)).2 ≠ 0 then ([], [], (giveE b a (lackK a b)).2)
  else ((giveE a b (lackK a b)).1, (giveE b a (lackK a b)).1, 0)
theorem pairW_bad {a b : List En} {n : Int} (h : bad2 (badL a) (badL b) = n) (hn : n ≠ 0) : pairW a b = ([], [], n) := by rw [pairW, if_pos (by rw [h]; exact hn), h]
theorem bad2_good {m n : Int} (h : bad2 m n = 0) : m = 0 ∧ n = 0 := by
  unfold bad2 at h
  split at h
  · exact ⟨by assumption, h⟩
  · exact absurd h (by assumption)
theorem bad2_both {m n : Int} (h : m = 0) (h' : n = 0) : bad2 m n = 0 := by rw [bad2, if_pos h, h']
theorem pairW_one {a b x : List En} {n : Int} (h : bad2 (badL a) (badL b) = 0) (hx : giveE a b (lackK a b) = (x, n)) (hn : n ≠ 0) : pairW a b = ([], [], n) := by rw [pairW, if_neg (by simpa using h), hx, if_pos hn]
theorem pairW_two {a b x y : List En} {n : Int} (h : bad2 (badL a) (badL b) = 0) (hx : giveE a b (lackK a b) = (x, 0)) (hy : giveE b a (lackK a b) = (y, n)) (hn : n ≠ 0) : pairW a b = ([], [], n) := by rw [pairW, if_neg (by simpa using h), hx, if_neg (by simp), hy, if_pos hn]
theorem pairW_ok {a b x y : List En} (h : bad2 (badL a) (badL b) = 0) (hx : giveE a b (lackK a b) = (x, 0)) (hy : giveE b a (lackK a b) = (y, 0)) : pairW a b = (x, y, 0) := by rw [pairW, if_neg (by simpa using h), hx, if_neg (by simp), hy, if_neg (by simp)]
/-- what there is where nothing is wrong -/
theorem pairW_fine {a b x y : List En} (h : pairW a b = (x, y, 0)) : badL a = 0 ∧ badL b = 0 ∧ giveE a b (lackK a b) = (x, 0) ∧ giveE b a (lackK a b) = (y, 0) := by
  obtain ⟨n, hn⟩ : ∃ n, bad2 (badL a) (badL b) = n := ⟨_, rfl⟩
  by_cases h0 : n = 0
  · subst h0
    obtain ⟨h1, h2⟩ := bad2_good hn
    obtain ⟨⟨x', m⟩, hx⟩ : ∃ R, giveE a b (lackK a b) = R := ⟨_, rfl⟩
    obtain ⟨⟨y', m'⟩, hy⟩ : ∃ R, giveE b a (lackK a b) = R := ⟨_, rfl⟩
    by_cases hm : m = 0
    · subst hm
      by_cases hm' : m' = 0
      · subst hm'
        rw [pairW_ok hn hx hy] at h
        simp at h
        rw [hx, hy, h.1, h.2]
        exact ⟨h1, h2, rfl, rfl⟩
      · rw [pairW_two hn hx hy hm'] at h
        simp at h
        exact absurd h.2.2 hm'
    · rw [pairW_one hn hx hm] at h
      simp at h
      exact absurd h.2.2 hm
  · rw [pairW_bad hn h0] at h
    simp at h
    exact absurd h.2.2 h0
theorem pairW_fault {a b x y : List En} {n : Int} (h : pairW a b = (x, y, n)) (hn : n ≠ 0) : x = [] ∧ y = [] := by
  unfold pairW at h
  split at h
  · simp at h; exact ⟨h.1, h.2.1⟩
  · split at h
    · simp at h; exact ⟨h.1, h.2.1⟩
    · split at h
      · simp at h; exact ⟨h.1, h.2.1⟩
      · simp at h; exact absurd h.2.2.symm hn

/-- a swap with one that has nothing -/
theorem give_to_none {l : List En} {K : List Int} (h : GoodL l) : giveE [] l K = (someE l K, 0) :=
  merged_allE goodL_nil (someE_good h).rise (someE_good h).all (someE_good h).rise (fun k => show KnownAt none _ _ from by
    cases getE (someE l K) k <;> simp [KnownAt])
theorem give_from_none (l : List En) (K : List Int) : giveE l [] K = (l, 0) := rfl
theorem pair_none {l : List En} (h : badL l = 0) : pairW l [] = (l, someE l (lackK l []), 0) :=
  pairW_ok (bad2_both h rfl) (give_from_none _ _) (give_to_none (badL_good h))
theorem rise_same : ∀ {x y : List Int}, x.Pairwise (· < ·) → y.Pairwise (· < ·) → (∀ k, k ∈ x ↔ k ∈ y) → x = y := by
  intro x
  induction x with
  | nil =>
    intro y _ _ h
    cases y with
    | nil => rfl
    | cons k y => exact absurd ((h k).2 (by simp)) (by simp)
  | cons k x ih =>
    intro y hx hy h
    cases y with
    | nil => exact absurd ((h k).1 (by simp)) (by simp)
    | cons q y =>
      rw [List.pairwise_cons] at hx hy
      have hkq : k = q := by
        have h1 := (h k).1 (by simp)
        have h2 := (h q).2 (by simp)
        rcases List.mem_cons.1 h1 with e | e
        · exact e
        · rcases List.mem_cons.1 h2 with e' | e'
          · exact e'.symm
          · have := hy.1 k e
            have := hx.1 q e'
            omega
      subst hkq
      rw [ih hx.2 hy.2 (fun z => ?_)]
      constructor
      · intro hz
        have h1 := (h z).1 (by simp [hz])
        rcases List.mem_cons.1 h1 with e | e
        · have := hx.1 z hz
          omega
        · exact e
      · intro hz
        have h1 := (h z).2 (by simp [hz])
        rcases List.mem_cons.1 h1 with e | e
        · have := hy.1 z hz
          omega
        · exact e
theorem none_keys {l : List En} (h : badL l = 0) : (someE l (lackK l [])).map (fun e => e.k) = lackK l [] := by
  have hg := badL_good h
  refine rise_same ?_ (part_rise _ _) (fun k => ?_)
  · rw [List.pairwise_map]
    exact (someE_good hg).rise
  · rw [List.mem_map]
    constructor
    · rintro ⟨e, he, rfl⟩
      have := (List.mem_filter.1 he).2
      simpa using this
    · intro hk
      obtain ⟨q, rfl, _, hu⟩ := lackK_mem hk
      cases hg' : getE l (q : Int) with
      | none =>
        refine absurd ?_ hu
        rw [leafN_none hg', leafN_none rfl]
      | some x =>
        obtain ⟨hm, hx⟩ := (getE_iff hg.rise).1 hg'
        refine ⟨x, List.mem_filter.2 ⟨hm, ?_⟩, hx⟩
        rw [hx]
        simpa using hk
theorem none_len {l : List En} (h : badL l = 0) : (lackK l []).length = (someE l (lackK l [])).length := by
  have e := congrArg List.length (none_keys h)
  rw [List.length_map] at e
  exact e.symm
end Go.Proofs.YtpcnfoaoajfhlaaGreatDoor

namespace Go.Proofs.YtpcnfoaoajfhlaaGreatDoor
set_option linter.unusedVariables false
set_option linter.unusedSimpArgs false
open Go.RowKit

theorem isKeyS_c (k : Int) (w : World) : Calls Tryz.prog 198 #[.int .i64 k] w fun e w' => e = .returned (.bool (isKeyB k)) ∧ w' = w := by
  by_cases h : 0 ≤ k
  · have hd : decide (0 ≤ k) = true := by simpa using h
    go_enter Tryz.func198, Tryz.ntmps198
    go_wp2
    go_ret
    exact ⟨by simp [isKeyB, h], rfl⟩
  · have hd : decide (0 ≤ k) = false := by simpa using h
    go_enter Tryz.func198, Tryz.ntmps198
    go_wp2
    go_ret
    refine ⟨?_, rfl⟩
    have h' : ¬ 0 ≤ k := by omega
    simp [isKeyB, h']
theorem isKeyS_b (k : Int) (b : Bool) (w : World) (hb : isKeyB k = b) : Calls Tryz.prog 198 #[.int .i64 k] w fun e w' => e = .returned (.bool b) ∧ w' = w := by
  subst hb
  exact isKeyS_c k w

set_option maxHeartbeats 4000000 in
theorem checkKeys_c (v : Value) (l : List Int) (w : World) (hr : IntsIs w v l) (hcap : CapOk v l.length) :
    Calls Tryz.prog 183 #[v] w fun e w' => e = .returned (eV (badK l)) ∧ w' = w := by
  obtain ⟨p, cap, rfl, hc1, hc2⟩ := hcap
  have HRow : Hid (IntsIs w (.slice p l.length cap) l) := hr
  obtain ⟨_, q, c, e, hrow⟩ := hr
  injection e with e1 e2 e3
  subst e1
  have HR : Hid (l ≠ [] → ∃ bb o, p = some ⟨bb, o, none⟩ ∧ bb < w.heap.size ∧ ∀ j (h : j < l.length), w.cell? ⟨bb, o + j, none⟩ = some (.int .i64 l[j])) := hrow
  clear hrow e2 e3
  by_cases h8 : 8 < l.length
  · rw [badK_full h8, eV_err (by omega)]
    have hi8 : (8 : Int) < (l.length : Int) := by omega
    clear HR HRow
    generalize l.length = n at *
    go_enter Tryz.func183, Tryz.ntmps183
    go_wp2_with fail
    go_ret
    exact ⟨rfl, rfl⟩
  rw [badK_else h8]
  obtain ⟨R, HE⟩ : ∃ R, Hid (badKF (l.take 0) (l.drop 0) = R) := ⟨_, rfl⟩
  rw [HE.out]
  have hi8 : ¬ (8 : Int) < (l.length : Int) := by omega
  obtain ⟨n, HN⟩ : ∃ n, Hid (l.length = n) := ⟨_, rfl⟩
  rw [HN.out] at hc1 h8 hi8 HRow ⊢
  have hc63 : cap ≤ 9223372036854775807 := hc2
  go_enter Tryz.func183, Tryz.ntmps183
  go_wp2_with fail
  go_loopw [11] (fun i wr => ∃ j : Nat, j ≤ n ∧ i = .int .i64 j ∧ Hid (badKF (l.take j) (l.drop j) = R) ∧ wr = w) (fun i _ => n - (intOf i).toNat)
  case atStart => exact ⟨0, Nat.zero_le _, rfl, HE, rfl⟩
  case round =>
    obtain ⟨j, hj, rfl, HJ, rfl⟩ := hrel
    by_cases hlt : j < n
    · have hja : j < l.length := by rw [HN.out]; exact hlt
      obtain ⟨ba, oa, hp, hbwa, hata⟩ := HR.out (fun h => by simp [h] at hja)
      have c0 := hata j hja
      clear hata
      subst hp
      have HRow' : Hid (IntsIs wr (.slice (some ⟨ba, oa, none⟩) l.length cap) l) := by rw [HN.out]; exact HRow
      have hlti : (j : Int) < (n : Int) := by omega
      cases hin : isKeyB l[j]
      · have HRv : Hid (R = 1) := HJ.out.symm.trans (badKF_range hja hin)
        have HIn : Hid (isKeyB l[j] = false) := hin
        clear hin
        generalize l[j] = x at *
        go_wp2_with (go_at_call 198; refine (isKeyS_b x false _ HIn.out).mono ?_; rintro e w' ⟨rfl, rfl⟩)
        go_ret
        refine ⟨?_, rfl⟩
        rw [HRv.out, eV_err (by omega)]
        rfl
      · have HIn : Hid (isKeyB l[j] = true) := hin
        cases hco : (l.take j).contains l[j]
        · have HRv : Hid (badKF (l.take (j + 1)) (l.drop (j + 1)) = R) := (badKF_next hja hin hco).symm.trans HJ.out
          have HCo : Hid ((l.take j).contains l[j] = false) := hco
          clear hin hco
          generalize l[j] = x at *
          go_wp2_with fail
          refine (isKeyS_b x true _ HIn.out).mono ?_
          rintro e w' ⟨rfl, rfl⟩
          go_wp2_with fail
          refine (containsI_c _ (l.take j) x false _ (IntsIs.take HRow'.out (by rw [HN.out]; exact hj) (fun _ => rfl)) HCo.out).mono ?_
          rintro e w2 ⟨rfl, rfl⟩
          go_wp2_with fail
          go_roundw
          case rel => exact ⟨j + 1, by omega, by go_num, HRv, trivial⟩
          case measure => simp [intOf]; omega
        · have HRv : Hid (R = 7) := HJ.out.symm.trans (badKF_clash hja hin hco)
          have HCo : Hid ((l.take j).contains l[j] = true) := hco
          clear hin hco
          generalize l[j] = x at *
          go_wp2_with fail
          refine (isKeyS_b x true _ HIn.out).mono ?_
          rintro e w' ⟨rfl, rfl⟩
          go_wp2_with fail
          refine (containsI_c _ (l.take j) x true _ (IntsIs.take HRow'.out (by rw [HN.out]; exact hj) (fun _ => rfl)) HCo.out).mono ?_
          rintro e w2 ⟨rfl, rfl⟩
          go_wp2_with fail
          go_ret
          refine ⟨?_, rfl⟩
          rw [HRv.out, eV_err (by omega)]
          rfl
    · obtain rfl : j = n := by omega
      have HR0 : Hid (R = 0) := by
        show R = 0
        rw [← HJ.out, ← HN.out]
        exact badKF_end l
      go_wp2_with fail
      go_ret
      exact ⟨by rw [HR0.out, eV_zero]; rfl, rfl⟩
theorem checkKeys_o {v : Value} {l : List Int} {w : World} {n : Int} (hr : IntsIs w v l) (hcap : CapOk v l.length) (h : badK l = n) :
    Calls Tryz.prog 183 #[v] w fun e w' => e = .returned (eV n) ∧ w' = w := by
  subst h
  exact checkKeys_c v l w hr hcap
theorem checkKeys_ok {v : Value} {l : List Int} {w : World} (hr : IntsIs w v l) (hcap : CapOk v l.length) (h : badK l = 0) :
    Calls Tryz.prog 183 #[v] w fun e w' => e = .returned .nilIface ∧ w' = w := checkKeys_o hr hcap h
theorem checkKeys_err {v : Value} {l : List Int} {w : World} {n : Int} (hr : IntsIs w v l) (hcap : CapOk v l.length) (h : badK l = n) (hn : n ≠ 0) :
    Calls Tryz.prog 183 #[v] w fun e w' => e = .returned (.iface 85 (.int .i64 n)) ∧ w' = w := by
  have c := checkKeys_o hr hcap h
  rw [eV_err hn] at c
  exact c

/-- entries and an error come back -/
def GiveIs (w : World) (L : List En) (n : Int) (e : Ending) (w' : World) : Prop := ∃ v', e = .returned (.tuple #[v', eV n]) ∧ RowIs w' v' L ∧ Below w.heap.size w w'
set_option maxHeartbeats 8000000 in
theorem give_ok (v vk : Value) (l : List En) (K : List Int) (w : World) (hr : RowIs w v l) (hk : IntsIs w vk K) (hcap : CapOk vk K.length) (hl : badL l = 0) (hK : badK K = 0) :
    Calls Tryz.prog 142 #[v, vk] w (GiveIs w (someE l K) 0) := by
  have HR : Hid (RowIs w v l) := hr
  have HK : Hid (IntsIs w vk K) := hk
  have HC : Hid (CapOk vk K.length) := hcap
  have HL0 : Hid (badL l = 0) := hl
  have HK0 : Hid (badK K = 0) := hK
  have HG : Hid (GoodL l) := badL_good hl
  have HS : Hid (someE l K = someE (l.take l.length) K) := by show _ = _; rw [List.take_length]
  rw [HS.out]
  clear hk hcap hl hK HS
  obtain ⟨hlen, p, cap, rfl, hrow⟩ := hr
  have HRow : Hid (l ≠ [] → ∃ b o, p = some ⟨b, o, none⟩ ∧ b < w.heap.size ∧ ∀ j (h : j < l.length), EnAt w b (o + j * 5) l[j]) := hrow
  clear hrow
  obtain ⟨n, HN⟩ : ∃ n, Hid (l.length = n) := ⟨_, rfl⟩
  rw [HN.out] at hlen HR ⊢
  have hn63 : n ≤ 9223372036854775807 := hlen
  go_enter Tryz.func142, Tryz.ntmps142
  go_wp2_with fail
  refine (cacheCheck_ok HR.out HL0.out).mono ?_
  rintro e w1 ⟨rfl, hb⟩
  have B1 : Hid (Below w.heap.size w w1) := hb
  clear hb
  go_wp2_with fail
  refine (checkKeys_ok (HK.out.below B1.out) HC.out HK0.out).mono ?_
  rintro e w2 ⟨rfl, hw⟩
  have B2 : Hid (Below w.heap.size w w2) := by rw [hw]; exact B1
  clear hw B1
  go_wp2_with fail
  go_loopw [8, 23] (fun s6 s22 wr => ∃ (j : Nat) (v6 : Value), s6 = v6 ∧ j ≤ n ∧ s22 = .int .i64 j ∧ Hid (wr.ownsRow w.heap.size 46 5 v6 (someE (l.take j) K).length (rowC (someE (l.take j) K))) ∧ Hid (Below w.heap.size w wr)) (fun _ i _ => n - (intOf i).toNat)
  case atStart => exact ⟨0, .slice none 0 0, rfl, Nat.zero_le _, rfl, World.ownsRow_nil _ _ _ _, B2⟩
  case round =>
    obtain ⟨j, v6, hs6, hj, rfl, HO, HB⟩ := hrel
    have hs6' := hs6.symm
    clear hs6
    subst hs6'
    by_cases hlt : j < n
    · have hjl : j < l.length := by rw [HN.out]; exact hlt
      obtain ⟨b, o, rfl, hbw, hat⟩ := HRow.out (fun h => by simp [h] at hjl)
      have HAt : Hid (EnAt wr b (o + j * 5) l[j]) := (hat j hjl).of_block (HB.out.block b hbw)
      clear hat
      have hlti : (j : Int) < (n : Int) := by omega
      have hws := HB.out.size
      have HY : Hid (K.contains l[j].k = true → someE (l.take (j + 1)) K = someE (l.take j) K ++ [l[j]]) := fun ha => someE_yes hjl ha
      have HNo : Hid (K.contains l[j].k = false → someE (l.take (j + 1)) K = someE (l.take j) K) := fun ha => someE_no hjl ha
      have HL8 : Hid ((someE (l.take j) K).length ≤ 100) := Nat.le_trans (someE_len _ _) (Nat.le_trans (List.length_take_le _ _) (Nat.le_trans hj (Nat.le_trans (by rw [← HN.out]; exact HG.out.len) (by omega))))
      obtain ⟨x, HX⟩ : ∃ x, Hid (l[j] = x) := ⟨l[j], show l[j] = l[j] from rfl⟩
      rw [HX.out] at HAt HY HNo
      obtain ⟨x0, x1, x2, x3, x4⟩ := x
      obtain ⟨c0, c1, c2, c3, c4⟩ := HAt.out
      dsimp only at c0 c1 c2 c3 c4
      obtain ⟨xs, HXs⟩ : ∃ xs, Hid (someE (l.take j) K = xs) := ⟨_, rfl⟩
      rw [HXs.out] at HO HY HNo HL8
      clear HXs HX
      obtain ⟨w3, HW3⟩ : ∃ x, x = wr.alloc (.cells #[.int .i64 x0, .int .i64 x1, .int .i64 x2, .bool x3, .string x4] 46) := ⟨_, rfl⟩
      have B3 : Hid (Below w.heap.size w w3) := by
        rw [HW3]
        exact HB.out.alloc hws _
      have O3 : Hid (w3.ownsRow w.heap.size 46 5 v6 xs.length (rowC xs)) := by
        rw [HW3]
        exact HO.out.alloc _
      have X3 : Hid (BoxAt w3 wr.heap.size x0 x1 x2 x3 x4) := by
        rw [HW3]
        exact box_new wr x0 x1 x2 x3 x4 _ rfl
      cases hc : K.contains x0
      · have HC0 : Hid (K.contains x0 = false) := hc
        have HE : Hid (someE (l.take (j + 1)) K = xs) := HNo.out hc
        clear hc HY HNo
        go_wp2_with fail
        refine (containsI_c vk K x0 false _ (HK.out.below (by rw [← HW3]; exact B3.out)) HC0.out).mono ?_
        rintro e w4 ⟨rfl, hw⟩
        have B4 : Hid (Below w.heap.size w w4) := by rw [hw, ← HW3]; exact B3
        have O4 : Hid (w4.ownsRow w.heap.size 46 5 v6 xs.length (rowC xs)) := by rw [hw, ← HW3]; exact O3
        clear hw HW3 B3 O3 X3 c0 c1 c2 c3 c4
        go_wp2_with fail
        go_roundw
        case rel =>
          refine ⟨j + 1, v6, rfl, by omega, by go_num, ?_, B4⟩
          show World.ownsRow _ _ _ _ _ _ _
          rw [HE.out]
          exact O4.out
        case measure => simp [intOf]; omega
      · have HC0 : Hid (K.contains x0 = true) := hc
        have HE : Hid (someE (l.take (j + 1)) K = xs ++ [En.mk x0 x1 x2 x3 x4]) := HY.out hc
        clear hc HY HNo
        go_wp2_with fail
        refine (containsI_c vk K x0 true _ (HK.out.below (by rw [← HW3]; exact B3.out)) HC0.out).mono ?_
        rintro e w4 ⟨rfl, hw⟩
        obtain ⟨eb, HEb⟩ : ∃ eb, Hid (wr.heap.size = eb) := ⟨_, rfl⟩
        rw [HEb.out] at X3 ⊢
        have B4 : Hid (Below w.heap.size w w4) := by rw [hw, ← HW3]; exact B3
        have O4 : Hid (w4.ownsRow w.heap.size 46 5 v6 xs.length (rowC xs)) := by rw [hw, ← HW3]; exact O3
        have X4 : Hid (BoxAt w4 eb x0 x1 x2 x3 x4) := by rw [hw, ← HW3]; exact X3
        clear hw HW3 B3 O3 X3 c0 c1 c2 c3 c4 HEb
        have hws4 := B4.out.size
        obtain ⟨c0, c1, c2, c3, c4, cf⟩ := X4.out
        have HBa : Hid (Below w.heap.size w (w4.alloc (.cells #[.int .i64 x0, .int .i64 x1, .int .i64 x2, .bool x3, .string x4] 46))) := B4.out.alloc hws4 _
        have HOa : Hid ((w4.alloc (.cells #[.int .i64 x0, .int .i64 x1, .int .i64 x2, .bool x3, .string x4] 46)).ownsRow w.heap.size 46 5 v6 xs.length (rowC xs)) := O4.out.alloc _
        have HVa : Hid ((w4.alloc (.cells #[.int .i64 x0, .int .i64 x1, .int .i64 x2, .bool x3, .string x4] 46)).heap[w4.heap.size]? = some (.cells (En.cells (En.mk x0 x1 x2 x3 x4)).toArray 46 (0, 0))) := alloc_at _ _ _ rfl
        have HSa : Hid (w.heap.size ≤ (w4.alloc (.cells #[.int .i64 x0, .int .i64 x1, .int .i64 x2, .bool x3, .string x4] 46)).heap.size) := show _ ≤ _ from (by simp; omega)
        go_wp2_with (at_builtin; refine wp_app _ rfl _ _ rfl w.heap.size _ xs (En.mk x0 x1 x2 x3 x4) rfl HOa.out _ rfl HVa.out HL8.out HSa.out ?_)
        intro va wa hown hgrow
        have HOp : Hid (wa.ownsRow w.heap.size 46 5 va (xs ++ [En.mk x0 x1 x2 x3 x4]).length (rowC (xs ++ [En.mk x0 x1 x2 x3 x4]))) := hown
        have HBp : Hid (Below w.heap.size w wa) := below_grownF (HBa.out) (Nat.le_refl _) hgrow.out (fun c hc => ownsRow_fromF O4.out c hc)
        clear hown hgrow HOa HVa HL8 HSa HBa
        clear c0 c1 c2 c3 c4 cf X4
        go_wp2_with fail
        go_roundw
        case rel =>
          refine ⟨j + 1, va, rfl, by omega, by go_num, ?_, HBp⟩
          show World.ownsRow _ _ _ _ _ _ _
          rw [HE.out]
          exact HOp.out
        case measure => simp [intOf]; omega
    · obtain rfl : j = n := by omega
      go_wp2_with fail
      go_ret2
      exact ⟨v6, rfl, RowIs.own HO.out, HB.out⟩
theorem give_one (v vk : Value) (l : List En) (n : Int) (w : World) (hr : RowIs w v l) (hl : badL l = n) (hn : n ≠ 0) :
    Calls Tryz.prog 142 #[v, vk] w (GiveIs w [] n) := by
  have HR : Hid (RowIs w v l) := hr
  have HL : Hid (badL l = n) := hl
  clear hr hl
  go_enter Tryz.func142, Tryz.ntmps142
  go_wp2_with fail
  refine (cacheCheck_err HR.out HL.out hn).mono ?_
  rintro e w1 ⟨rfl, hb⟩
  have B1 : Hid (Below w.heap.size w w1) := hb
  clear hb
  go_wp2_with fail
  go_ret2
  refine ⟨.slice none 0 0, ?_, RowIs.nil _, B1.out⟩
  rw [eV_err hn]
  rfl
theorem give_two (v vk : Value) (l : List En) (K : List Int) (n : Int) (w : World) (hr : RowIs w v l) (hk : IntsIs w vk K) (hcap : CapOk vk K.length) (hl : badL l = 0) (hK : badK K = n) (hn : n ≠ 0) :
    Calls Tryz.prog 142 #[v, vk] w (GiveIs w [] n) := by
  have HR : Hid (RowIs w v l) := hr
  have HL : Hid (badL l = 0) := hl
  have HKi : Hid (IntsIs w vk K) := hk
  have HC : Hid (CapOk vk K.length) := hcap
  have HK : Hid (badK K = n) := hK
  clear hr hl hk hcap hK
  go_enter Tryz.func142, Tryz.ntmps142
  go_wp2_with fail
  refine (cacheCheck_ok HR.out HL.out).mono ?_
  rintro e w1 ⟨rfl, hb⟩
  have B1 : Hid (Below w.heap.size w w1) := hb
  clear hb
  go_wp2_with fail
  refine (checkKeys_err (HKi.out.below B1.out) HC.out HK.out hn).mono ?_
  rintro e w2 ⟨rfl, hw⟩
  have B2 : Hid (Below w.heap.size w w2) := by rw [hw]; exact B1
  clear hw B1
  go_wp2_with fail
  go_ret2
  refine ⟨.slice none 0 0, ?_, RowIs.nil _, B2.out⟩
  rw [eV_err hn]
  rfl
theorem give_c (v vk : Value) (l : List En) (K : List Int) (w : World) (hr : RowIs w v l) (hk : IntsIs w vk K) (hcap : CapOk vk K.length) :
    Calls Tryz.prog 142 #[v, vk] w (GiveIs w (giveW l K).1 (giveW l K).2) := by
  by_cases h : badL l = 0
  · by_cases hK : badK K = 0
    · rw [giveW_ok h hK]
      exact give_ok v vk l K w hr hk hcap h hK
    · rw [giveW_two h rfl hK]
      exact give_two v vk l K _ w hr hk hcap h rfl hK
  · rw [giveW_one rfl h]
    exact give_one v vk l _ w hr rfl h
end Go.Proofs.YtpcnfoaoajfhlaaGreatDoor

namespace Go.Proofs.YtpcnfoaoajfhlaaGreatDoor
set_option linter.unusedVariables false
set_option linter.unusedSimpArgs false
open Go.RowKit

/-- sixteen zeros -/
theorem six_zero (w : World) (b : Nat) (h : b = w.heap.size) : SixAt (w.alloc (.cells #[.int .i64 0, .int .i64 0, .int .i64 0, .int .i64 0, .int .i64 0, .int .i64 0, .int .i64 0, .int .i64 0, .int .i64 0, .int .i64 0, .int .i64 0, .int .i64 0, .int .i64 0, .int .i64 0, .int .i64 0, .int .i64 0] 256)) b (fun _ => 0) := six_new w _ b h (fun _ => 0)
set_option maxHeartbeats 4000000 in
theorem grow_bad (v : Value) (l : List En) (n : Int) (w : World) (hr : RowIs w v l) (h : badL l = n) (hn : n ≠ 0) :
    Calls Tryz.prog 181 #[v] w fun e w' => e = .returned (.tuple #[ag16 (fun _ => 0), .iface 85 (.int .i64 n)]) ∧ Below w.heap.size w w' := by
  have H : Hid (badL l = n) := h
  have HR : Hid (RowIs w v l) := hr
  clear h hr
  go_enter Tryz.func181, Tryz.ntmps181
  go_wp2_with fail
  have hb0 : Below w.heap.size w (w.alloc (.cells #[.int .i64 0, .int .i64 0, .int .i64 0, .int .i64 0, .int .i64 0, .int .i64 0, .int .i64 0, .int .i64 0, .int .i64 0, .int .i64 0, .int .i64 0, .int .i64 0, .int .i64 0, .int .i64 0, .int .i64 0, .int .i64 0] 256)) := by go_grown
  refine (cacheCheck_err (HR.out.below hb0) H.out hn).mono ?_
  rintro e w1 ⟨rfl, hb⟩
  have B1 : Hid (Below w.heap.size w w1) := hb0.trans (hb.mono (by simp))
  have S1 : Hid (SixAt w1 w.heap.size (fun _ => 0)) := (six_zero w w.heap.size rfl).grown hb
  clear hb hb0
  obtain ⟨c0, c1, c2, c3, c4, c5, c6, c7, c8, c9, c10, c11, c12, c13, c14, c15⟩ := six_cells S1.out
  have fz := S1.out.fz
  go_wp2_with fail
  show bodyPost _ _ _ _ _ (set16 w1 w.heap.size (fun _ => 0))
  have S2 : SixAt (set16 w1 w.heap.size (fun _ => 0)) w.heap.size (fun _ => 0) := S1.out.set16 (fun _ => 0)
  have B2 : Hid (Below w.heap.size w (set16 w1 w.heap.size (fun _ => 0))) := set16_below B1.out (Nat.le_refl _) _
  generalize set16 w1 w.heap.size (fun _ => 0) = w2 at S2 B2 ⊢
  clear c0 c1 c2 c3 c4 c5 c6 c7 c8 c9 c10 c11 c12 c13 c14 c15 fz
  obtain ⟨c0, c1, c2, c3, c4, c5, c6, c7, c8, c9, c10, c11, c12, c13, c14, c15⟩ := six_cells S2
  refine bodyPost_ret (v := .tuple #[ag16 (fun _ => 0), .iface 85 (.int .i64 n)]) (by simp [results, Tryz.results181, go_sem, c0, c1, c2, c3, c4, c5, c6, c7, c8, c9, c10, c11, c12, c13, c14, c15, ag16]) rfl ?_
  exact ⟨rfl, B2.out⟩
end Go.Proofs.YtpcnfoaoajfhlaaGreatDoor
