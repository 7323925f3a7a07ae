/-
  Package cache by its contracts: Check.
  Where a key lies in a cache: sort.Find, cmp.Compare and package cache's place, by their contracts.
  Package cache by its contracts: Get.
  Caches of several nodes: a row of rows; what is wrong with some; up to where all know a key, what is swept, what is safe: on lists.
  slices.IndexFunc and slices.ContainsFunc at a cache and at a row of caches, over whatever function tells the same of the same.
  Package tomb by its contracts: check.
  Package hash by its contracts: the number of a text.
  meresame.Cache by its contract: whether two rows are the same.
-/
import Derived.Test.YtpcnfoaoajfhlaaGreatDoorQoab
import Derived.BigRegion
import Derived.BigQuiet
import Derived.Test.YtpcnfoaoajfhlaaGreatDoorQoaa
namespace Go.Proofs.YtpcnfoaoajfhlaaGreatDoor
set_option linter.unusedVariables false
set_option linter.unusedSimpArgs false
set_option linter.unusedVariables false
set_option linter.unusedSimpArgs false
open Go.RowKit

theorem badRow_step (l : List En) (j : Nat) (p : Option Int) (h : j < l.length) : badRow p (l.drop j) = if l[j].bad ≠ 0 then l[j].bad else if (match p with | some q => decide (l[j].k ≤ q) | none => false) = true then 3 else badRow (some l[j].k) (l.drop (j + 1)) := by
  rw [List.drop_eq_getElem_cons h]
  cases p <;> rfl
theorem badRow_bad {l : List En} {j : Nat} {p : Option Int} (h : j < l.length) (hb : l[j].bad ≠ 0) : badRow p (l.drop j) = l[j].bad := by rw [badRow_step l j p h, if_pos hb]
theorem badRow_low {l : List En} {j : Nat} {q : Int} (h : j < l.length) (hb : l[j].bad = 0) (hk : l[j].k ≤ q) : badRow (some q) (l.drop j) = 3 := by rw [badRow_step l j _ h, if_neg (by simpa using hb), if_pos (by simpa using hk)]
theorem badRow_next {l : List En} {j : Nat} {q : Int} (h : j < l.length) (hb : l[j].bad = 0) (hk : ¬ l[j].k ≤ q) : badRow (some q) (l.drop j) = badRow (some l[j].k) (l.drop (j + 1)) := by rw [badRow_step l j _ h, if_neg (by simpa using hb), if_neg (by simpa using hk)]
theorem badRow_first {l : List En} {j : Nat} (h : j < l.length) (hb : l[j].bad = 0) : badRow none (l.drop j) = badRow (some l[j].k) (l.drop (j + 1)) := by rw [badRow_step l j _ h, if_neg (by simpa using hb), if_neg (by simp)]

/-- the key ahead of a place -/
def keyAhead (l : List En) (j : Nat) : Option Int := if h : 0 < j ∧ j - 1 < l.length then some (l[j - 1]'h.2).k else none
theorem keyAhead_zero (l : List En) : keyAhead l 0 = none := by simp [keyAhead]
theorem keyAhead_succ (l : List En) (j : Nat) (h : j < l.length) : keyAhead l (j + 1) = some l[j].k := by simp [keyAhead, h]

set_option maxHeartbeats 4000000 in
theorem cacheCheck_c (v : Value) (l : List En) (w : World) (hr : RowIs w v l) :
    Calls Tryz.prog 70 #[v] w fun e w' => e = .returned (eV (badL l)) ∧ Below w.heap.size w w' := by
  obtain ⟨hlen, p, cap, rfl, hrow⟩ := hr
  by_cases h8 : 8 < l.length
  · have e : badL l = 4 := by rw [badL, if_pos h8]
    rw [e]
    have h8i : (8 : Int) < (l.length : Int) := by omega
    go_enter Tryz.func70, Tryz.ntmps70
    go_wp2_with fail
    go_ret
    exact ⟨rfl, by go_grown⟩
  · have E : Hid (badL l = badRow (keyAhead l 0) (l.drop 0)) := by
      show badL l = _
      rw [badL, if_neg h8, keyAhead_zero, List.drop_zero]
    obtain ⟨R, HR⟩ : ∃ R, Hid (badL l = R) := ⟨_, rfl⟩
    rw [HR.out]
    have HRow : Hid (l ≠ [] → ∃ b o, p = some ⟨b, o, none⟩ ∧ b < w.heap.size ∧ ∀ j (h : j < l.length), EnAt w b (o + j * 5) l[j]) := hrow
    clear hrow
    have h8i : ¬ (8 : Int) < (l.length : Int) := by omega
    generalize hn : l.length = n at hlen h8 h8i ⊢
    have HN : Hid (l.length = n) := hn
    clear hn
    go_enter Tryz.func70, Tryz.ntmps70
    go_wp2_with fail
    go_loopw [12] (fun i wr => ∃ j : Nat, j ≤ n ∧ i = .int .i64 j ∧ Hid (R = badRow (keyAhead l j) (l.drop j)) ∧ Hid (Below w.heap.size w wr)) (fun i _ => n - (intOf i).toNat)
    case atStart => exact ⟨0, Nat.zero_le _, rfl, HR.out.symm.trans E.out, Below.refl _ _⟩
    case round =>
      obtain ⟨j, hj, rfl, HJ, HB⟩ := hrel
      by_cases hlt : j < n
      · have hl : l ≠ [] := by intro h; have := HN.out; rw [h] at this; simp at this; omega
        obtain ⟨b, o, rfl, hbw, hat⟩ := HRow.out hl
        have hjl : j < l.length := by rw [HN.out]; exact hlt
        have HA : Hid (∀ j (h : j < l.length), EnAt wr b (o + j * 5) l[j]) := fun j h => (hat j h).of_block (HB.out.block b hbw)
        clear hat
        have hws := HB.out.size
        have hbr : b < wr.heap.size := by omega
        obtain ⟨x, HX⟩ : ∃ x, Hid (l[j] = x) := ⟨l[j], show l[j] = l[j] from rfl⟩
        obtain ⟨c0, c1, c2, c3, c4⟩ := HA.out j hjl
        rw [HX.out] at c0 c1 c2 c3 c4
        obtain ⟨k, vv, a, g, t⟩ := x
        dsimp only at c0 c1 c2 c3 c4
        obtain ⟨m, HM⟩ : ∃ m, Hid (bad k vv a g t = m) := ⟨_, rfl⟩
        have HLb : Hid (l[j].bad = m) := by
          show l[j].bad = m
          rw [HX.out]
          exact HM.out
        have HLk : Hid (l[j].k = k) := by
          show l[j].k = k
          rw [HX.out]
        clear HX
        go_wp2_with fail
        by_cases hm : m = 0
        · subst hm
          refine (check_ok HM.out _).mono ?_
          rintro e w1 ⟨rfl, hb⟩
          have B1 : Hid (Below w.heap.size w w1) := (HB.out.alloc hws _).trans (hb.mono (by simp; omega))
          obtain ⟨d0, d1, d2, d3, d4, df⟩ := (box_new wr k vv a g t wr.heap.size rfl).below hb (by simp)
          have HA1 : Hid (∀ j (h : j < l.length), EnAt w1 b (o + j * 5) l[j]) := fun j h => ((HA.out j h).of_block (Below.heap_alloc _ _ _ hbr)).of_block (hb.block b (by simp; omega))
          clear hb c0 c1 c2 c3 c4 HA HM
          by_cases h0 : j = 0
          · subst h0
            rw [keyAhead_zero, badRow_first hjl HLb.out, HLk.out] at HJ
            go_upto_region 9 with fail
            go_region
            all_goals go_wp2_with fail
            all_goals go_roundw
            case rel => exact ⟨1, by omega, by go_num, by rw [show (1 : Nat) = 0 + 1 from rfl, keyAhead_succ l 0 hjl, HLk.out]; exact HJ, B1.out.drew⟩
            case measure => simp [intOf]; omega
          · obtain ⟨i, rfl⟩ : ∃ i, j = i + 1 := ⟨j - 1, by omega⟩
            have hil : i < l.length := by omega
            obtain ⟨q, HQ⟩ : ∃ q, Hid (l[i].k = q) := ⟨l[i].k, show l[i].k = l[i].k from rfl⟩
            rw [keyAhead_succ l i hil, HQ.out] at HJ
            have y0 := (HA1.out i hil).c0
            rw [HQ.out] at y0
            have g0 : (0 : Int) < ((i : Int) + 1) := by omega
            have g1 : ((i : Int) + 1 - 1) = i := by omega
            have g2 : (i : Int) < (n : Int) := by omega
            by_cases hk : k ≤ q
            · rw [badRow_low hjl HLb.out (by rw [HLk.out]; exact hk)] at HJ
              go_upto_region 9 with fail
              go_region
              all_goals go_wp2_with fail
              all_goals go_ret
              all_goals exact ⟨by rw [HJ.out]; rfl, B1.out.drew⟩
            · rw [badRow_next hjl HLb.out (by rw [HLk.out]; exact hk), HLk.out] at HJ
              go_upto_region 9 with fail
              go_region
              all_goals go_wp2_with fail
              all_goals go_roundw
              case rel => exact ⟨i + 1 + 1, by omega, by go_num, by rw [keyAhead_succ l (i + 1) hjl, HLk.out]; exact HJ, B1.out.drew⟩
              case measure => simp [intOf]; omega
        · refine (check_err HM.out hm _).mono ?_
          rintro e w1 ⟨rfl, hb⟩
          have B1 : Hid (Below w.heap.size w w1) := (HB.out.alloc hws _).trans (hb.mono (by simp; omega))
          clear hb
          rw [badRow_bad hjl (by rw [HLb.out]; exact hm), HLb.out] at HJ
          go_wp2_with fail
          go_ret
          exact ⟨by rw [HJ.out]; simp [eV, hm], B1.out⟩
      · obtain rfl : j = n := by omega
        have HR0 : Hid (R = 0) := by
          show R = 0
          rw [HJ.out, List.drop_eq_nil_of_le (by rw [HN.out]; exact Nat.le_refl _)]
          cases keyAhead l j <;> rfl
        go_wp2_with fail
        go_ret
        exact ⟨by rw [HR0.out]; rfl, HB.out⟩
end Go.Proofs.YtpcnfoaoajfhlaaGreatDoor

namespace Go.Proofs.YtpcnfoaoajfhlaaGreatDoor
set_option linter.unusedVariables false
set_option linter.unusedSimpArgs false
open Go.RowKit

def cmpI (x y : Int) : Int := if x < y then -1 else if y < x then 1 else 0
theorem compare_c (x y : Int) (w : World) : Calls Tryz.prog 108 #[.int .i64 x, .int .i64 y] w fun e w' => e = .returned (.int .i64 (cmpI x y)) ∧ w' = w := by
  by_cases h1 : x < y
  · go_enter Tryz.func108, Tryz.ntmps108
    go_wp2
    go_ret
    exact ⟨by simp [cmpI, h1], rfl⟩
  · by_cases h2 : y < x
    · go_enter Tryz.func108, Tryz.ntmps108
      go_wp2
      go_ret
      exact ⟨by rw [cmpI, if_neg (by omega), if_pos h2]; rfl, rfl⟩
    · go_enter Tryz.func108, Tryz.ntmps108
      go_wp2
      go_ret
      exact ⟨by rw [cmpI, if_neg (by omega), if_neg (by omega)]; rfl, rfl⟩

theorem below_drewN (B : Nat) (w : World) (n : Nat) : Below B w (w.drewN n) := ⟨rfl, rfl, rfl, Nat.le_refl _, fun _ _ => rfl⟩
/-- the two boxes that the closure has captured, and the row -/
structure Caught (w : World) (kb lb : Nat) (key : Int) (b o cap : Nat) (l : List En) : Prop where
  ck : w.cell? ⟨kb, 0, none⟩ = some (.int .i64 key)
  cl : w.cell? ⟨lb, 0, none⟩ = some (.slice (some ⟨b, o, none⟩) l.length cap)
  row : ∀ j (h : j < l.length), EnAt w b (o + j * 5) l[j]
  lt : b < w.heap.size
theorem Caught.below {w w' : World} {kb lb : Nat} {key : Int} {b o cap : Nat} {l : List En} (h : Caught w kb lb key b o cap l) (hb : Below w.heap.size w w') : Caught w' kb lb key b o cap l :=
  ⟨(World.cell?_of_block (a := ⟨kb, 0, none⟩) (hb.block kb (World.block_lt_of_cell? w _ h.ck))).trans h.ck, (World.cell?_of_block (a := ⟨lb, 0, none⟩) (hb.block lb (World.block_lt_of_cell? w _ h.cl))).trans h.cl, fun j hj => (h.row j hj).of_block (hb.block b h.lt), Nat.lt_of_lt_of_le h.lt hb.size⟩

set_option maxHeartbeats 2000000 in
theorem closure_c (i : Nat) (kb lb : Nat) (key : Int) (b o cap : Nat) (l : List En) (w : World) (hi : i < l.length) (h : Caught w kb lb key b o cap l) :
    Calls Tryz.prog 160 #[.int .i64 i, .pointer (some ⟨kb, 0, none⟩), .pointer (some ⟨lb, 0, none⟩)] w fun e w' => e = .returned (.int .i64 (cmpI key l[i].k)) ∧ Below w.heap.size w w' := by
  obtain ⟨ck, cl, row, lt⟩ := h
  have c0 := (row i hi).c0
  clear row
  have hin : (i : Int) < (l.length : Int) := by omega
  generalize l[i].k = y at c0 ⊢
  generalize l.length = n at cl hi hin ⊢
  go_enter Tryz.func160, Tryz.ntmps160
  go_wp2_with fail
  go_quiet (first | (go_at_call 108; exact Calls.quiet_of_same (compare_c _ _ _)))
  go_wp2_with fail
  go_ret
  exact ⟨rfl, below_drewN _ _ _⟩

set_option maxHeartbeats 4000000 in
/-- sort.Find over that closure: m keys are less -/
theorem find_c (kb lb : Nat) (key : Int) (b o cap : Nat) (l : List En) (m : Nat) (is : Bool) (w : World) (h8 : l.length ≤ 8) (h : l ≠ [] → Caught w kb lb key b o cap l) (hm : m ≤ l.length)
    (h1 : ∀ j (hj : j < l.length), j < m → l[j].k < key) (h2 : ∀ j (hj : j < l.length), m ≤ j → key ≤ l[j].k) (h3 : is = decide (∃ hj : m < l.length, l[m].k = key)) :
    Calls Tryz.prog 159 #[.int .i64 l.length, .func (.func 160) #[] #[.pointer (some ⟨kb, 0, none⟩), .pointer (some ⟨lb, 0, none⟩)]] w fun e w' => e = .returned (.tuple #[.int .i64 m, .bool is]) ∧ Below w.heap.size w w' := by
  have HC : Hid (l ≠ [] → Caught w kb lb key b o cap l) := h
  have H1 : Hid (∀ j (hj : j < l.length), j < m → l[j].k < key) := h1
  have H2 : Hid (∀ j (hj : j < l.length), m ≤ j → key ≤ l[j].k) := h2
  have H3 : Hid (is = decide (∃ hj : m < l.length, l[m].k = key)) := h3
  clear h h1 h2 h3
  obtain ⟨n, HN⟩ : ∃ n, Hid (l.length = n) := ⟨l.length, show l.length = l.length from rfl⟩
  rw [HN.out] at h8 hm ⊢
  go_enter Tryz.func159, Tryz.ntmps159
  go_wp2_with fail
  go_loopw [4, 6] (fun s4 s6 wr => ∃ lo hi : Nat, s4 = .int .i64 lo ∧ s6 = .int .i64 hi ∧ lo ≤ m ∧ m ≤ hi ∧ hi ≤ n ∧ Hid (Below w.heap.size w wr)) (fun s4 s6 _ => (intOf s6).toNat - (intOf s4).toNat)
  case atStart => exact ⟨0, n, rfl, rfl, Nat.zero_le _, hm, Nat.le_refl _, Below.refl _ _⟩
  case round =>
    obtain ⟨lo, hi, rfl, rfl, hlm, hmh, hhn, HB⟩ := hrel
    by_cases hlt : lo < hi
    · have hl : l ≠ [] := by intro h; have := HN.out; rw [h] at this; simp at this; omega
      have hmid : (lo + hi) / 2 < l.length := by rw [HN.out]; omega
      have hc := closure_c ((lo + hi) / 2) kb lb key b o cap l wr hmid ((HC.out hl).below HB.out)
      rw [show (((lo + hi) / 2 : Nat) : Int) = ((lo : Int) + (hi : Int)) / 2 by omega] at hc
      have HCC : Hid _ := hc
      clear hc
      by_cases hp : (lo + hi) / 2 < m
      · have hk := H1.out _ hmid hp
        have hcm : cmpI key l[(lo + hi) / 2].k = 1 := by rw [cmpI, if_neg (by omega), if_pos hk]
        go_wp2_with fail
        refine Calls.mono HCC.out ?_
        rintro e w1 ⟨rfl, hb⟩
        rw [hcm]
        have B1 : Hid (Below w.heap.size w w1) := HB.out.trans (hb.mono HB.out.size)
        clear hb hcm hk
        go_wp2_with fail
        go_roundw
        case rel => exact ⟨(lo + hi) / 2 + 1, hi, by go_num, rfl, by omega, hmh, hhn, B1⟩
        case measure => simp [intOf]; omega
      · have hk := H2.out _ hmid (by omega)
        obtain ⟨c, hcm, hc0⟩ : ∃ c, cmpI key l[(lo + hi) / 2].k = c ∧ c ≤ 0 := by
          refine ⟨_, rfl, ?_⟩
          rw [cmpI]
          split
          · omega
          · rw [if_neg (by omega)]; omega
        go_wp2_with fail
        refine Calls.mono HCC.out ?_
        rintro e w1 ⟨rfl, hb⟩
        rw [hcm]
        have B1 : Hid (Below w.heap.size w w1) := HB.out.trans (hb.mono HB.out.size)
        clear hb hcm hk
        go_wp2_with fail
        go_roundw
        case rel => exact ⟨lo, (lo + hi) / 2, rfl, by go_num, hlm, by omega, by omega, B1⟩
        case measure => simp [intOf]; omega
    · obtain rfl : lo = m := by omega
      by_cases hmn : lo < n
      · have hl : l ≠ [] := by intro h; have := HN.out; rw [h] at this; simp at this; omega
        have hll : lo < l.length := by rw [HN.out]; omega
        have HCC : Hid _ := closure_c lo kb lb key b o cap l wr hll ((HC.out hl).below HB.out)
        have hmi : (lo : Int) < (n : Int) := by omega
        have hk := H2.out _ hll (Nat.le_refl _)
        obtain ⟨c, hcm, hc0⟩ : ∃ c, cmpI key l[lo].k = c ∧ (c = 0 ↔ l[lo].k = key) := by
          refine ⟨_, rfl, ?_⟩
          rw [cmpI]
          split
          · omega
          · rw [if_neg (by omega)]; omega
        have HI : Hid (is = (c == 0)) := by
          show is = (c == 0)
          rw [H3.out]
          by_cases hz : c = 0
          · rw [hz, decide_eq_true ⟨hll, hc0.1 hz⟩]; rfl
          · rw [decide_eq_false (fun ⟨_, h⟩ => hz (hc0.2 h))]; simp [hz]
        clear hc0 hk
        go_wp2_with fail
        refine Calls.mono HCC.out ?_
        rintro e w1 ⟨rfl, hb⟩
        rw [hcm]
        have B1 : Hid (Below w.heap.size w w1) := HB.out.trans (hb.mono HB.out.size)
        clear hb hcm
        go_wp2_with fail
        go_ret2
        exact ⟨by rw [HI.out]; rfl, B1.out⟩
      · have hmi : ¬ (lo : Int) < (n : Int) := by omega
        have hmd : decide ((lo : Int) < (n : Int)) = false := decide_eq_false hmi
        have HI : Hid (is = false) := by
          show is = false
          rw [H3.out, decide_eq_false (fun ⟨h, _⟩ => hmn (by rw [← HN.out]; exact h))]
        go_wp2_with fail
        go_ret2
        exact ⟨by rw [HI.out]; rfl, HB.out⟩

/-- how many keys of a rising row are less -/
def placeE : List En → Int → Nat
  | [], _ => 0
  | e :: l, key => if e.k < key then placeE l key + 1 else 0
/-- what a row has of a key -/
def getE (l : List En) (key : Int) : Option En := l.find? (fun e => e.k == key)
/-- keys rising -/
def Rising (l : List En) : Prop := l.Pairwise (fun x y => x.k < y.k)
theorem placeE_le (l : List En) (key : Int) : placeE l key ≤ l.length := by
  induction l with
  | nil => simp [placeE]
  | cons e l ih => simp only [placeE]; split <;> simp <;> omega
theorem placeE_less (l : List En) (key : Int) (j : Nat) (hj : j < l.length) (h : j < placeE l key) : l[j].k < key := by
  induction l generalizing j with
  | nil => simp at hj
  | cons e l ih =>
    simp only [placeE] at h
    split at h
    · cases j with
      | zero => simpa
      | succ j => exact ih j (by simpa using hj) (by omega)
    · omega
theorem placeE_more (l : List En) (key : Int) (hs : Rising l) (j : Nat) (hj : j < l.length) (h : placeE l key ≤ j) : key ≤ l[j].k := by
  induction l generalizing j with
  | nil => simp at hj
  | cons e l ih =>
    have hs' := List.pairwise_cons.1 hs
    simp only [placeE] at h
    split at h
    · cases j with
      | zero => omega
      | succ j => exact ih hs'.2 j (by simpa using hj) (by omega)
    · cases j with
      | zero => simp; omega
      | succ j =>
        have hj' : j < l.length := by simpa using hj
        have := hs'.1 l[j] (List.getElem_mem _)
        simp only [List.getElem_cons_succ]
        omega
theorem getE_place (l : List En) (key : Int) (hs : Rising l) : (∃ hj : placeE l key < l.length, l[placeE l key].k = key) ↔ (getE l key).isSome = true := by
  constructor
  · rintro ⟨hj, h⟩
    rw [getE, List.find?_isSome]
    exact ⟨_, List.getElem_mem hj, by simpa using h⟩
  · intro h
    rw [getE, List.find?_isSome] at h
    obtain ⟨x, hx, hk⟩ := h
    obtain ⟨j, hj, rfl⟩ := List.getElem_of_mem hx
    have hk : l[j].k = key := by simpa using hk
    have h1 : placeE l key ≤ j := by
      rcases Nat.lt_or_ge j (placeE l key) with h | h
      · have := placeE_less l key j hj h; omega
      · exact h
    have h2 : placeE l key < l.length := by omega
    refine ⟨h2, ?_⟩
    have h3 := placeE_more l key hs _ h2 (Nat.le_refl _)
    rcases Nat.lt_or_ge (placeE l key) j with h | h
    · have := List.pairwise_iff_getElem.1 hs _ _ h2 hj h
      omega
    · have : placeE l key = j := by omega
      simp only [this]; exact hk
theorem getE_some {l : List En} {key : Int} {x : En} (hs : Rising l) (h : getE l key = some x) : ∃ hj : placeE l key < l.length, l[placeE l key] = x ∧ x.k = key := by
  obtain ⟨hj, hk⟩ := (getE_place l key hs).2 (by rw [h]; rfl)
  refine ⟨hj, ?_, ?_⟩
  · obtain ⟨i, hi, rfl⟩ := List.getElem_of_mem (List.mem_of_find?_eq_some h)
    have hx : l[i].k = key := by simpa using List.find?_some h
    rcases Nat.lt_trichotomy (placeE l key) i with h' | h' | h'
    · have := List.pairwise_iff_getElem.1 hs _ _ hj hi h'; omega
    · simp only [h']
    · have := List.pairwise_iff_getElem.1 hs _ _ hi hj h'; omega
  · simpa using List.find?_some h

def lowK (p : Option Int) (k : Int) : Bool := match p with | some q => decide (k ≤ q) | none => false
theorem badRow_cons (p : Option Int) (e : En) (l : List En) : badRow p (e :: l) = if e.bad ≠ 0 then e.bad else if lowK p e.k = true then 3 else badRow (some e.k) l := by cases p <;> rfl
theorem badRow_good {p : Option Int} {l : List En} (h : badRow p l = 0) : (∀ e ∈ l, e.bad = 0) ∧ Rising l ∧ ∀ q, p = some q → ∀ e ∈ l, q < e.k := by
  induction l generalizing p with
  | nil => exact ⟨by simp, List.Pairwise.nil, by simp⟩
  | cons e l ih =>
    rw [badRow_cons] at h
    by_cases h0 : e.bad = 0
    · rw [if_neg (by simpa using h0)] at h
      split at h
      · omega
      · rename_i hp
        obtain ⟨i1, i2, i3⟩ := ih h
        refine ⟨?_, List.pairwise_cons.2 ⟨fun y hy => i3 e.k rfl y hy, i2⟩, ?_⟩
        · intro x hx
          rcases List.mem_cons.1 hx with rfl | hx
          · exact h0
          · exact i1 x hx
        · rintro q rfl x hx
          have hq : q < e.k := by simpa [lowK] using hp
          rcases List.mem_cons.1 hx with rfl | hx
          · exact hq
          · have := i3 e.k rfl x hx; omega
    · rw [if_pos h0] at h
      exact absurd h h0
theorem badRow_zero {p : Option Int} {l : List En} (h1 : ∀ e ∈ l, e.bad = 0) (h2 : Rising l) (h3 : ∀ q, p = some q → ∀ e ∈ l, q < e.k) : badRow p l = 0 := by
  induction l generalizing p with
  | nil => cases p <;> rfl
  | cons e l ih =>
    rw [badRow_cons, if_neg (by simpa using h1 e (by simp)), if_neg, ih (fun x hx => h1 x (by simp [hx])) (List.pairwise_cons.1 h2).2 (fun q hq x hx => by rw [← Option.some.inj hq]; exact (List.pairwise_cons.1 h2).1 x hx)]
    cases p with
    | none => simp [lowK]
    | some q => have := h3 q rfl e (by simp); simpa [lowK] using this
/-- a right cache -/
structure GoodL (l : List En) : Prop where
  len : l.length ≤ 8
  all : ∀ e ∈ l, e.bad = 0
  rise : Rising l
theorem badL_good {l : List En} (h : badL l = 0) : GoodL l := by
  unfold badL at h
  split at h
  · omega
  · obtain ⟨h1, h2, _⟩ := badRow_good h
    exact ⟨by omega, h1, h2⟩
theorem GoodL.bad {l : List En} (h : GoodL l) : badL l = 0 := by
  rw [badL, if_neg (by have := h.len; omega)]
  exact badRow_zero h.all h.rise (by simp)

set_option maxHeartbeats 2000000 in
theorem place_c (v : Value) (l : List En) (key : Int) (w : World) (hr : RowIs w v l) (hg : GoodL l) :
    Calls Tryz.prog 117 #[v, .int .i64 key] w fun e w' => e = .returned (.tuple #[.int .i64 (placeE l key), .bool (getE l key).isSome]) ∧ Below w.heap.size w w' := by
  have HG : Hid (GoodL l) := hg
  have h8 := hg.len
  have HR : Hid (RowIs w v l) := hr
  obtain ⟨hlen, p, cap, rfl, hrow⟩ := hr
  have HRow : Hid (l ≠ [] → ∃ b o, p = some ⟨b, o, none⟩ ∧ b < w.heap.size ∧ ∀ j (h : j < l.length), EnAt w b (o + j * 5) l[j]) := hrow
  clear hrow hg
  obtain ⟨is, HI⟩ : ∃ is, Hid ((getE l key).isSome = is) := ⟨_, rfl⟩
  rw [HI.out]
  have H3 : Hid (is = decide (∃ hj : placeE l key < l.length, l[placeE l key].k = key)) := by
    show is = _
    rw [← HI.out]
    have := getE_place l key HG.out.rise
    cases hq : (getE l key).isSome
    · rw [decide_eq_false]
      rw [this, hq]; simp
    · rw [decide_eq_true]
      rw [this, hq]
  obtain ⟨m, HM⟩ : ∃ m, Hid (placeE l key = m) := ⟨_, rfl⟩
  have hm1 := placeE_le l key
  have hm2 := placeE_less l key
  have hm3 := placeE_more l key HG.out.rise
  have h3 := H3.out
  simp only [HM.out] at hm1 hm2 hm3 h3
  have HC : Hid (l ≠ [] → ∃ b o c, ∀ w', Below (w.heap.size + 2) ((w.alloc (.cells #[.slice p l.length cap] 32)).alloc (.cells #[.int .i64 key] 3)) w' → Caught w' (w.heap.size + 1) w.heap.size key b o c l) := by
    intro hl
    obtain ⟨b, o, rfl, hbw, hat⟩ := HRow.out hl
    refine ⟨b, o, cap, fun w' hw' => ?_⟩
    have hc : Caught ((w.alloc (.cells #[.slice (some ⟨b, o, none⟩) l.length cap] 32)).alloc (.cells #[.int .i64 key] 3)) (w.heap.size + 1) w.heap.size key b o cap l := by
      refine ⟨by simp, by simp, fun j hj => ((hat j hj).of_block (Below.heap_alloc _ _ _ hbw)).of_block (Below.heap_alloc _ _ _ (by simp; omega)), by simp; omega⟩
    exact hc.below (hw'.mono (by simp))
  rw [HM.out]
  have hfind : ∀ W, Below (w.heap.size + 2) ((w.alloc (.cells #[.slice p l.length cap] 32)).alloc (.cells #[.int .i64 key] 3)) W → Calls Tryz.prog 159 #[.int .i64 l.length, .func (.func 160) #[] #[.pointer (some ⟨w.heap.size + 1, 0, none⟩), .pointer (some ⟨w.heap.size, 0, none⟩)]] W fun e w' => e = .returned (.tuple #[.int .i64 m, .bool is]) ∧ Below W.heap.size W w' := by
    intro W hW
    by_cases hl : l = []
    · exact find_c _ _ key 0 0 0 l m is W h8 (fun h => absurd hl h) hm1 (fun j hj h => hm2 j hj h) (fun j hj h => hm3 j hj h) h3
    · obtain ⟨b, o, c, hc⟩ := HC.out hl
      exact find_c _ _ key b o c l m is W h8 (fun _ => hc W hW) hm1 (fun j hj h => hm2 j hj h) (fun j hj h => hm3 j hj h) h3
  have HF : Hid _ := hfind
  clear hfind hm1 hm2 hm3 h3
  go_enter Tryz.func117, Tryz.ntmps117
  go_wp2_with fail
  refine Calls.mono (HF.out _ (Below.refl _ _)) ?_
  rintro e w1 ⟨rfl, hb⟩
  have B1 : Hid (Below w.heap.size w w1) := Below.trans (by go_grown) (hb.mono (by simp; omega))
  clear hb
  go_wp2_with fail
  go_ret2
  exact ⟨rfl, B1.out⟩
end Go.Proofs.YtpcnfoaoajfhlaaGreatDoor

namespace Go.Proofs.YtpcnfoaoajfhlaaGreatDoor
set_option linter.unusedVariables false
set_option linter.unusedSimpArgs false
open Go.RowKit

def zeroEn : En := ⟨0, 0, 0, false, ⟨#[]⟩⟩
def isKeyB (k : Int) : Bool := decide (0 ≤ k) && decide (k < 8)
/-- Get, on lists -/
def cacheGet (l : List En) (key : Int) : En × Int :=
  if badL l ≠ 0 then (zeroEn, badL l) else if isKeyB key = false then (zeroEn, 1) else match getE l key with | none => (zeroEn, 5) | some x => (x, 0)

theorem isKey_c (k : Int) (w : World) : Calls Tryz.prog 120 #[.int .i64 k] w fun e w' => e = .returned (.bool (isKeyB k)) ∧ w' = w := by
  by_cases h : 0 ≤ k
  · have hd : decide (0 ≤ k) = true := by simpa using h
    go_enter Tryz.func120, Tryz.ntmps120
    go_wp2
    go_ret
    exact ⟨by simp [isKeyB, h], rfl⟩
  · have hd : decide (0 ≤ k) = false := by simpa using h
    go_enter Tryz.func120, Tryz.ntmps120
    go_wp2
    go_ret
    refine ⟨?_, rfl⟩
    have h' : ¬ 0 ≤ k := by omega
    simp [isKeyB, h']
theorem cacheCheck_o {v : Value} {l : List En} {w : World} {n : Int} (hr : RowIs w v l) (h : badL l = n) :
    Calls Tryz.prog 70 #[v] w fun e w' => e = .returned (eV n) ∧ Below w.heap.size w w' := by
  subst h
  exact cacheCheck_c v l w hr
theorem cacheCheck_ok {v : Value} {l : List En} {w : World} (hr : RowIs w v l) (h : badL l = 0) :
    Calls Tryz.prog 70 #[v] w fun e w' => e = .returned .nilIface ∧ Below w.heap.size w w' := cacheCheck_o hr h
theorem cacheCheck_err {v : Value} {l : List En} {w : World} {n : Int} (hr : RowIs w v l) (h : badL l = n) (hn : n ≠ 0) :
    Calls Tryz.prog 70 #[v] w fun e w' => e = .returned (.iface 85 (.int .i64 n)) ∧ Below w.heap.size w w' := by
  have c := cacheCheck_o hr h
  rw [eV, if_neg hn] at c
  exact c

set_option maxHeartbeats 4000000 in
theorem get_c (v : Value) (l : List En) (key : Int) (w : World) (hr : RowIs w v l) :
    Calls Tryz.prog 73 #[v, .int .i64 key] w fun e w' => e = .returned (.tuple #[(cacheGet l key).1.val, eV (cacheGet l key).2]) ∧ Below w.heap.size w w' := by
  have HR : Hid (RowIs w v l) := hr
  have hlt : w.heap.size < (w.alloc (.cells #[.int .i64 0, .int .i64 0, .int .i64 0, .bool false, .string ⟨#[]⟩] 46)).heap.size := by simp
  have HB0 : Hid (Below w.heap.size w (w.alloc (.cells #[.int .i64 0, .int .i64 0, .int .i64 0, .bool false, .string ⟨#[]⟩] 46))) := by show Below _ _ _; go_grown
  clear hr hlt
  by_cases hn : badL l = 0
  · have HN : Hid (badL l = 0) := hn
    have HG : Hid (GoodL l) := badL_good hn
    clear hn
    cases hk : isKeyB key
    · have HC : Hid (cacheGet l key = (zeroEn, 1)) := by
        show cacheGet l key = _
        rw [cacheGet, if_neg (by simpa using HN.out), if_pos hk]
      have HKb : Hid (isKeyB key = false) := hk
      clear hk
      rw [HC.out]
      go_enter Tryz.func73, Tryz.ntmps73
      go_wp2_with fail
      refine (cacheCheck_ok (HR.out.below HB0.out) HN.out).mono ?_
      rintro e w1 ⟨rfl, hb⟩
      have B1 : Hid (Below w.heap.size w w1) := HB0.out.trans (hb.mono (by simp))
      obtain ⟨e0, e1, e2, e3, e4, ef⟩ := (box_new w 0 0 0 false ⟨#[]⟩ w.heap.size rfl).below hb (by simp)
      clear hb
      go_wp2_with (go_at_call 120; refine (isKey_c _ _).mono ?_; rintro e w' ⟨rfl, rfl⟩; rw [HKb.out])
      refine bodyPost_ret (v := .tuple #[.agg #[.int .i64 0, .int .i64 0, .int .i64 0, .bool false, .string ⟨#[]⟩], .iface 85 (.int .i64 1)]) (by simp [results, Tryz.results73, go_sem, e0, e1, e2, e3, e4]) rfl ?_
      refine ⟨rfl, ?_⟩
      have hb := B1.out
      go_grown
    · have HKb : Hid (isKeyB key = true) := hk
      clear hk
      cases hg : getE l key with
      | none =>
        have HC : Hid (cacheGet l key = (zeroEn, 5)) := by
          show cacheGet l key = _
          rw [cacheGet, if_neg (by simpa using HN.out), if_neg (by rw [HKb.out]; simp), hg]
        have HGt : Hid (getE l key = none) := hg
        clear hg
        rw [HC.out]
        go_enter Tryz.func73, Tryz.ntmps73
        go_wp2_with fail
        refine (cacheCheck_ok (HR.out.below HB0.out) HN.out).mono ?_
        rintro e w1 ⟨rfl, hb⟩
        have B1 : Hid (Below w.heap.size w w1) := HB0.out.trans (hb.mono (by simp))
        have E1 : Hid (BoxAt w1 w.heap.size 0 0 0 false ⟨#[]⟩) := (box_new w 0 0 0 false ⟨#[]⟩ w.heap.size rfl).below hb (by simp)
        clear hb
        go_wp2_with (go_at_call 120; refine (isKey_c _ _).mono ?_; rintro e w' ⟨rfl, rfl⟩; rw [HKb.out])
        refine (place_c v l key _ (HR.out.below B1.out) HG.out).mono ?_
        rintro e w2 ⟨rfl, hb⟩
        rw [HGt.out]
        have B2 : Hid (Below w.heap.size w w2) := B1.out.trans (hb.mono B1.out.size)
        obtain ⟨e0, e1, e2, e3, e4, ef⟩ := E1.out.below hb E1.out.lt
        clear hb
        go_wp2_with fail
        refine bodyPost_ret (v := .tuple #[.agg #[.int .i64 0, .int .i64 0, .int .i64 0, .bool false, .string ⟨#[]⟩], .iface 85 (.int .i64 5)]) (by simp [results, Tryz.results73, go_sem, e0, e1, e2, e3, e4]) rfl ?_
        refine ⟨rfl, ?_⟩
        have hb := B2.out
        go_grown
      | some x =>
        have HC : Hid (cacheGet l key = (x, 0)) := by
          show cacheGet l key = _
          rw [cacheGet, if_neg (by simpa using HN.out), if_neg (by rw [HKb.out]; simp), hg]
        have HGt : Hid (getE l key = some x) := hg
        obtain ⟨hm, hx, hxk⟩ := getE_some HG.out.rise hg
        clear hg hxk
        obtain ⟨hlen, p, cap, rfl, hrow⟩ := HR.out
        obtain ⟨b, o, rfl, hbw, hat⟩ := hrow (fun h => by simp [h] at hm)
        have HAt : Hid (EnAt w b (o + placeE l key * 5) x) := by
          have := hat _ hm
          rw [hx] at this
          exact this
        clear hrow hat hx
        rw [HC.out]
        obtain ⟨m, HM⟩ : ∃ m, Hid (placeE l key = m) := ⟨_, rfl⟩
        rw [HM.out] at hm HAt
        obtain ⟨N, HNl⟩ : ∃ N, Hid (l.length = N) := ⟨_, rfl⟩
        rw [HNl.out] at hm HR hlen ⊢
        have hm1 : (m : Int) < (N : Int) := by omega
        obtain ⟨x0, x1, x2, x3, x4⟩ := x
        go_enter Tryz.func73, Tryz.ntmps73
        go_wp2_with fail
        refine (cacheCheck_ok (HR.out.below HB0.out) HN.out).mono ?_
        rintro e w1 ⟨rfl, hb⟩
        have B1 : Hid (Below w.heap.size w w1) := HB0.out.trans (hb.mono (by simp))
        have E1 : Hid (BoxAt w1 w.heap.size 0 0 0 false ⟨#[]⟩) := (box_new w 0 0 0 false ⟨#[]⟩ w.heap.size rfl).below hb (by simp)
        clear hb
        go_wp2_with (go_at_call 120; refine (isKey_c _ _).mono ?_; rintro e w' ⟨rfl, rfl⟩; rw [HKb.out])
        refine (place_c _ l key _ (HR.out.below B1.out) HG.out).mono ?_
        rintro e w2 ⟨rfl, hb⟩
        rw [HGt.out, HM.out]
        have B2 : Hid (Below w.heap.size w w2) := B1.out.trans (hb.mono B1.out.size)
        obtain ⟨e0, e1, e2, e3, e4, ef⟩ := E1.out.below hb E1.out.lt
        obtain ⟨c0, c1, c2, c3, c4⟩ := HAt.out.of_block (B2.out.block b hbw)
        dsimp only at c0 c1 c2 c3 c4
        have p1 : ¬ b = w.heap.size := by omega
        have p2 : ¬ w.heap.size = b := by omega
        clear hb
        go_wp2_with fail
        refine bodyPost_ret (v := .tuple #[.agg #[.int .i64 x0, .int .i64 x1, .int .i64 x2, .bool x3, .string x4], .nilIface]) (by simp [results, Tryz.results73, go_sem, e0, e1, e2, e3, e4]) rfl ?_
        refine ⟨rfl, ?_⟩
        have hb := B2.out
        go_grown
  · obtain ⟨n, HN⟩ : ∃ n, Hid (badL l = n) := ⟨_, rfl⟩
    have HC : Hid (cacheGet l key = (zeroEn, n)) := by
      show cacheGet l key = _
      rw [cacheGet, if_pos hn, HN.out]
    rw [HN.out] at hn
    rw [HC.out]
    go_enter Tryz.func73, Tryz.ntmps73
    go_wp2_with fail
    refine (cacheCheck_err (HR.out.below HB0.out) HN.out hn).mono ?_
    rintro e w1 ⟨rfl, hb⟩
    have B1 : Hid (Below w.heap.size w w1) := HB0.out.trans (hb.mono (by simp))
    obtain ⟨e0, e1, e2, e3, e4, ef⟩ := (box_new w 0 0 0 false ⟨#[]⟩ w.heap.size rfl).below hb (by simp)
    clear hb
    go_wp2_with fail
    refine bodyPost_ret (v := .tuple #[.agg #[.int .i64 0, .int .i64 0, .int .i64 0, .bool false, .string ⟨#[]⟩], .iface 85 (.int .i64 n)]) (by simp [results, Tryz.results73, go_sem, e0, e1, e2, e3, e4]) rfl ?_
    refine ⟨by simp [eV, hn]; rfl, ?_⟩
    have hb := B1.out
    go_grown
end Go.Proofs.YtpcnfoaoajfhlaaGreatDoor

namespace Go.Proofs.YtpcnfoaoajfhlaaGreatDoor
set_option linter.unusedVariables false
set_option linter.unusedSimpArgs false
open Go.RowKit

/-- a slice that holds rows of entries -/
def RowsIs (w : World) (v : Value) (ls : List (List En)) : Prop :=
  ls.length ≤ maxLen ∧ ∃ p cap, v = .slice p ls.length cap ∧ (ls ≠ [] → ∃ b o, p = some ⟨b, o, none⟩ ∧ b < w.heap.size ∧ ∀ j (h : j < ls.length), ∃ u, w.cell? ⟨b, o + j, none⟩ = some u ∧ RowIs w u ls[j])
theorem RowsIs.below {w w' : World} {v : Value} {ls : List (List En)} (h : RowsIs w v ls) (hb : Below w.heap.size w w') : RowsIs w' v ls := by
  obtain ⟨h0, p, cap, rfl, h1⟩ := h
  refine ⟨h0, p, cap, rfl, fun hn => ?_⟩
  obtain ⟨b, o, rfl, hlt, hc⟩ := h1 hn
  refine ⟨b, o, rfl, Nat.lt_of_lt_of_le hlt hb.size, fun j hj => ?_⟩
  obtain ⟨u, hu, hr⟩ := hc j hj
  exact ⟨u, (World.cell?_of_block (a := ⟨b, o + j, none⟩) (hb.block b hlt)).trans hu, hr.below hb⟩

/-- what is wrong with the first that is wrong -/
def badEach : List (List En) → Int
  | [] => 0
  | l :: ls => if badL l ≠ 0 then badL l else badEach ls
/-- what is wrong with caches of several nodes -/
def badLs (ls : List (List En)) : Int := if ls.length = 0 then 5 else if 6 < ls.length then 4 else badEach ls
theorem badEach_bad {ls : List (List En)} {j : Nat} (h : j < ls.length) (hb : badL ls[j] ≠ 0) : badEach (ls.drop j) = badL ls[j] := by
  rw [List.drop_eq_getElem_cons h, badEach, if_pos hb]
theorem badEach_next {ls : List (List En)} {j : Nat} (h : j < ls.length) (hb : badL ls[j] = 0) : badEach (ls.drop j) = badEach (ls.drop (j + 1)) := by
  rw [List.drop_eq_getElem_cons h, badEach, if_neg (by simpa using hb)]
theorem badEach_good {ls : List (List En)} (h : badEach ls = 0) : ∀ l ∈ ls, badL l = 0 := by
  induction ls with
  | nil => simp
  | cons l ls ih =>
    rw [badEach] at h
    split at h
    · contradiction
    · rename_i h0
      intro x hx
      rcases List.mem_cons.1 hx with rfl | hx
      · simpa using h0
      · exact ih h x hx
/-- right caches of several nodes -/
structure GoodLs (ls : List (List En)) : Prop where
  pos : 0 < ls.length
  len : ls.length ≤ 6
  all : ∀ l ∈ ls, badL l = 0
theorem badLs_good {ls : List (List En)} (h : badLs ls = 0) : GoodLs ls := by
  unfold badLs at h
  split at h
  · omega
  · split at h
    · omega
    · exact ⟨by omega, by omega, badEach_good h⟩

/-- the least time, behind some -/
def markFrom (key : Int) : Int → List (List En) → Int
  | m, [] => m
  | m, l :: ls => match getE l key with | none => 0 | some x => markFrom key (if x.a < m then x.a else m) ls
theorem markFrom_none {ls : List (List En)} {j : Nat} {key m : Int} (h : j < ls.length) (hg : getE ls[j] key = none) : markFrom key m (ls.drop j) = 0 := by
  rw [List.drop_eq_getElem_cons h, markFrom, hg]
theorem markFrom_some {ls : List (List En)} {j : Nat} {key m : Int} {x : En} (h : j < ls.length) (hg : getE ls[j] key = some x) : markFrom key m (ls.drop j) = markFrom key (if x.a < m then x.a else m) (ls.drop (j + 1)) := by
  rw [List.drop_eq_getElem_cons h, markFrom, hg]
/-- Mark, on lists -/
def tombMark (ls : List (List En)) (key : Int) : Int × Int :=
  if badLs ls ≠ 0 then (0, badLs ls) else if isKeyB key = false then (0, 1) else (markFrom key 1000 ls, 0)

/-- is it swept? -/
def sweptB (mark : Int) (e : En) : Bool := e.g && decide (e.v ≤ mark)
def sweptL (mark : Int) (l : List En) : List Int := (l.filter (fun e => sweptB mark e)).map (·.k)
def keptL (mark : Int) (l : List En) : List En := l.filter (fun e => !sweptB mark e)
theorem sweptL_len (mark : Int) (l : List En) : (sweptL mark l).length ≤ l.length := by
  rw [sweptL, List.length_map]
  exact List.length_filter_le _ _
theorem keptL_len (mark : Int) (l : List En) : (keptL mark l).length ≤ l.length := List.length_filter_le _ _
theorem swept_yes {l : List En} {mark : Int} {j : Nat} (h : j < l.length) (ha : sweptB mark l[j] = true) : sweptL mark (l.take (j + 1)) = sweptL mark (l.take j) ++ [l[j].k] ∧ keptL mark (l.take (j + 1)) = keptL mark (l.take j) := by
  rw [List.take_succ_eq_append_getElem h, sweptL, keptL, List.filter_append, List.filter_append, List.map_append]
  simp [sweptL, keptL, ha]
theorem swept_no {l : List En} {mark : Int} {j : Nat} (h : j < l.length) (ha : sweptB mark l[j] = false) : sweptL mark (l.take (j + 1)) = sweptL mark (l.take j) ∧ keptL mark (l.take (j + 1)) = keptL mark (l.take j) ++ [l[j]] := by
  rw [List.take_succ_eq_append_getElem h, sweptL, keptL, List.filter_append, List.filter_append, List.map_append]
  simp [sweptL, keptL, ha]
def markB (m : Int) : Bool := decide (0 ≤ m) && decide (m ≤ 1000)
/-- Sweep, on lists -/
def tombSweep (l : List En) (mark : Int) : List En × List Int × Int :=
  if badL l ≠ 0 then ([], [], badL l) else if markB mark = false then ([], [], 1) else (keptL mark l, sweptL mark l, 0)

/-- does a row have it that a key is gone from a version on? -/
def goneAt (key ver : Int) (e : En) : Bool := (e.k == key) && e.g && (e.v == ver)
def knowsG (l : List En) (key ver : Int) : Bool := l.any (fun e => goneAt key ver e)
def allG (ls : List (List En)) (key ver : Int) : Bool := ls.all (fun l => knowsG l key ver)
def safeFrom (ls : List (List En)) (l : List En) : List Int := (l.filter (fun e => allG ls e.k e.v)).map (·.k)
theorem safeFrom_len (ls : List (List En)) (l : List En) : (safeFrom ls l).length ≤ l.length := by
  rw [safeFrom, List.length_map]
  exact List.length_filter_le _ _
theorem safe_yes {ls : List (List En)} {l : List En} {j : Nat} (h : j < l.length) (ha : allG ls l[j].k l[j].v = true) : safeFrom ls (l.take (j + 1)) = safeFrom ls (l.take j) ++ [l[j].k] := by
  rw [List.take_succ_eq_append_getElem h, safeFrom, List.filter_append, List.map_append]
  simp [safeFrom, ha]
theorem safe_no {ls : List (List En)} {l : List En} {j : Nat} (h : j < l.length) (ha : allG ls l[j].k l[j].v = false) : safeFrom ls (l.take (j + 1)) = safeFrom ls (l.take j) := by
  rw [List.take_succ_eq_append_getElem h, safeFrom, List.filter_append, List.map_append]
  simp [safeFrom, ha]
/-- Safe, on lists -/
def tombSafe (ls : List (List En)) : List Int × Int :=
  if badLs ls ≠ 0 then ([], badLs ls) else (safeFrom ls (ls.headD []), 0)

/-- the place of the first that is so, its length's where none is -/
theorem first_some {l : List En} {key : Int} {m : Nat} (hm : m < l.length) (hk : l[m].k = key) (hlow : ∀ j (h : j < l.length), j < m → ¬ l[j].k = key) : getE l key = some l[m] := by
  unfold getE
  rw [List.find?_eq_some_iff_getElem]
  refine ⟨by simpa using hk, m, hm, rfl, fun j hj => ?_⟩
  have := hlow j (by omega) hj
  simpa using this
theorem first_none {l : List En} {key : Int} (hlow : ∀ j (h : j < l.length), ¬ l[j].k = key) : getE l key = none := by
  unfold getE
  rw [List.find?_eq_none]
  intro x hx
  obtain ⟨j, hj, rfl⟩ := List.getElem_of_mem hx
  simpa using hlow j hj
/-- where the first is that is so: -1 where none is -/
def idxI (n : Nat) (p : Nat → Bool) : Nat → Int
  | 0 => -1
  | f + 1 => if p (n - (f + 1)) = true then ((n - (f + 1) : Nat) : Int) else idxI n p f
theorem idxI_hit {n : Nat} {p : Nat → Bool} {j : Nat} (h : j < n) (hp : p j = true) : idxI n p (n - j) = j := by
  obtain ⟨f, hf⟩ : ∃ f, n - j = f + 1 := ⟨n - j - 1, by omega⟩
  rw [hf, idxI, show n - (f + 1) = j by omega, if_pos hp]
theorem idxI_miss {n : Nat} {p : Nat → Bool} {j : Nat} (h : j < n) (hp : p j = false) : idxI n p (n - j) = idxI n p (n - (j + 1)) := by
  obtain ⟨f, hf⟩ : ∃ f, n - j = f + 1 := ⟨n - j - 1, by omega⟩
  rw [hf, idxI, show n - (f + 1) = j by omega, if_neg (by rw [hp]; simp), show n - (j + 1) = f by omega]
theorem idxI_end (n : Nat) (p : Nat → Bool) : idxI n p (n - n) = -1 := by rw [Nat.sub_self]; rfl
/-- either none is so, or there is a first -/
theorem idxI_cases (n : Nat) (p : Nat → Bool) : (idxI n p n = -1 ∧ ∀ j, j < n → p j = false) ∨ ∃ m : Nat, idxI n p n = m ∧ m < n ∧ p m = true ∧ ∀ j, j < m → p j = false := by
  have key : ∀ d j, n - j = d → j ≤ n → (∀ i, i < j → p i = false) → ((idxI n p (n - j) = -1 ∧ ∀ j, j < n → p j = false) ∨ ∃ m : Nat, idxI n p (n - j) = m ∧ m < n ∧ p m = true ∧ ∀ j, j < m → p j = false) := by
    intro d
    induction d with
    | zero =>
      intro j hd hj hlow
      obtain rfl : j = n := by omega
      exact Or.inl ⟨idxI_end _ _, hlow⟩
    | succ d ih =>
      intro j hd hj hlow
      have hjn : j < n := by omega
      cases hp : p j with
      | true => exact Or.inr ⟨j, idxI_hit hjn hp, hjn, hp, hlow⟩
      | false =>
        rw [idxI_miss hjn hp]
        refine ih (j + 1) (by omega) (by omega) (fun i hi => ?_)
        rcases Nat.lt_or_ge i j with h | h
        · exact hlow i h
        · obtain rfl : i = j := by omega
          exact hp
  exact key n 0 (by omega) (by omega) (fun i hi => by omega)
end Go.Proofs.YtpcnfoaoajfhlaaGreatDoor

namespace Go.Proofs.YtpcnfoaoajfhlaaGreatDoor
set_option linter.unusedVariables false
set_option linter.unusedSimpArgs false
open Go.RowKit

set_option maxHeartbeats 4000000 in
theorem indexE_c (f : FuncId) (caps : Array Value) (v : Value) (l : List En) (p : Nat → Bool) (w : World) (hr : RowIs w v l)
    (eg : ∀ args w, (callFunc f args).run Tryz.prog w = .ok (.enter f args) w) (hf : ∀ j (h : j < l.length) w', Below w.heap.size w w' → Calls Tryz.prog f (#[l[j].val] ++ caps) w' fun e w'' => e = .returned (.bool (p j)) ∧ Below w'.heap.size w' w'') :
    Calls Tryz.prog 76 #[v, .func (.func f) #[] caps] w fun e w' => e = .returned (.int .i64 (idxI l.length p l.length)) ∧ Below w.heap.size w w' := by
  obtain ⟨hlen, pp, cap, rfl, hrow⟩ := hr
  have HRow : Hid (l ≠ [] → ∃ b o, pp = some ⟨b, o, none⟩ ∧ b < w.heap.size ∧ ∀ j (h : j < l.length), EnAt w b (o + j * 5) l[j]) := hrow
  have HF : Hid (∀ j (h : j < l.length) w', Below w.heap.size w w' → Calls Tryz.prog f (#[l[j].val] ++ caps) w' fun e w'' => e = .returned (.bool (p j)) ∧ Below w'.heap.size w' w'') := hf
  clear hrow hf
  obtain ⟨n, HN⟩ : ∃ n, Hid (l.length = n) := ⟨_, rfl⟩
  rw [HN.out] at hlen ⊢
  have hn63 : n ≤ 9223372036854775807 := hlen
  obtain ⟨R, HR⟩ : ∃ R, Hid (idxI n p n = R) := ⟨_, rfl⟩
  rw [HR.out]
  go_enter Tryz.func76, Tryz.ntmps76
  go_wp2_with fail
  go_loopw [8] (fun i wr => ∃ j : Nat, j ≤ n ∧ i = .int .i64 j ∧ Hid (R = idxI n p (n - j)) ∧ Hid (Below w.heap.size w wr)) (fun i _ => n - (intOf i).toNat)
  case atStart => exact ⟨0, Nat.zero_le _, rfl, HR.out.symm, Below.refl _ _⟩
  case round =>
    obtain ⟨j, hj, rfl, HJ, HB⟩ := hrel
    by_cases hlt : j < n
    · have hlti : (j : Int) < (n : Int) := by omega
      have hjl : j < l.length := by rw [HN.out]; exact hlt
      obtain ⟨b, o, rfl, hbw, hat⟩ := HRow.out (fun h => by simp [h] at hjl)
      have HAt : Hid (EnAt wr b (o + j * 5) l[j]) := (hat j hjl).of_block (HB.out.block b hbw)
      have HC : Hid _ := HF.out j hjl wr HB.out
      clear hat
      obtain ⟨x, HX⟩ : ∃ x, Hid (l[j] = x) := ⟨l[j], show l[j] = l[j] from rfl⟩
      rw [HX.out] at HAt HC
      obtain ⟨x0, x1, x2, x3, x4⟩ := x
      obtain ⟨c0, c1, c2, c3, c4⟩ := HAt.out
      dsimp only at c0 c1 c2 c3 c4
      cases hp : p j
      · rw [idxI_miss hlt hp] at HJ
        rw [hp] at HC
        go_wp2_with fail
        refine Calls.mono HC.out ?_
        rintro e w1 ⟨rfl, hb⟩
        have B1 : Hid (Below w.heap.size w w1) := HB.out.trans (hb.mono HB.out.size)
        clear hb c0 c1 c2 c3 c4
        go_wp2_with fail
        go_roundw
        case rel => exact ⟨j + 1, by omega, by go_num, HJ, B1⟩
        case measure => simp [intOf]; omega
      · rw [idxI_hit hlt hp] at HJ
        rw [hp] at HC
        go_wp2_with fail
        refine Calls.mono HC.out ?_
        rintro e w1 ⟨rfl, hb⟩
        have B1 : Hid (Below w.heap.size w w1) := HB.out.trans (hb.mono HB.out.size)
        clear hb c0 c1 c2 c3 c4
        go_wp2_with fail
        go_ret
        exact ⟨by rw [HJ.out]; rfl, B1.out⟩
    · obtain rfl : j = n := by omega
      rw [idxI_end] at HJ
      go_wp2_with fail
      go_ret
      exact ⟨by rw [HJ.out]; rfl, HB.out⟩

theorem idxB (n : Nat) (p : Nat → Bool) : decide ((0 : Int) ≤ idxI n p n) = (List.range n).any p := by
  rcases idxI_cases n p with ⟨h, hn⟩ | ⟨m, h, hm, hp, _⟩
  · rw [h]
    symm
    rw [List.any_eq_false.2 (fun j hj => by rw [hn j (List.mem_range.1 hj)]; simp)]
    rfl
  · rw [h]
    symm
    rw [List.any_eq_true.2 ⟨m, List.mem_range.2 hm, hp⟩]
    simp

end Go.Proofs.YtpcnfoaoajfhlaaGreatDoor

namespace Go.Proofs.YtpcnfoaoajfhlaaGreatDoor
set_option linter.unusedVariables false
set_option linter.unusedSimpArgs false
open Go.RowKit

set_option maxHeartbeats 4000000 in
theorem tcheck_c (v : Value) (ls : List (List En)) (w : World) (hr : RowsIs w v ls) :
    Calls Tryz.prog 75 #[v] w fun e w' => e = .returned (eV (badLs ls)) ∧ Below w.heap.size w w' := by
  obtain ⟨hlen, p, cap, rfl, hrow⟩ := hr
  by_cases h0 : ls.length = 0
  · have e : badLs ls = 5 := by rw [badLs, if_pos h0]
    rw [e, h0]
    go_enter Tryz.func75, Tryz.ntmps75
    go_wp2_with fail
    go_ret
    exact ⟨rfl, by go_grown⟩
  · by_cases h6 : 6 < ls.length
    · have e : badLs ls = 4 := by rw [badLs, if_neg h0, if_pos h6]
      rw [e]
      have h0i : ¬ (ls.length : Int) = 0 := by omega
      have h6i : (6 : Int) < (ls.length : Int) := by omega
      generalize ls.length = n at hlen h0 h6 h0i h6i ⊢
      go_enter Tryz.func75, Tryz.ntmps75
      go_wp2_with fail
      go_ret
      exact ⟨rfl, by go_grown⟩
    · have E : Hid (badLs ls = badEach (ls.drop 0)) := by
        show badLs ls = _
        rw [badLs, if_neg h0, if_neg h6, List.drop_zero]
      obtain ⟨R, HR⟩ : ∃ R, Hid (badLs ls = R) := ⟨_, rfl⟩
      rw [HR.out]
      have HRow : Hid (ls ≠ [] → ∃ b o, p = some ⟨b, o, none⟩ ∧ b < w.heap.size ∧ ∀ j (h : j < ls.length), ∃ u, w.cell? ⟨b, o + j, none⟩ = some u ∧ RowIs w u ls[j]) := hrow
      clear hrow
      have h0i : ¬ (ls.length : Int) = 0 := by omega
      have h6i : ¬ (6 : Int) < (ls.length : Int) := by omega
      generalize hn : ls.length = n at hlen h0 h6 h0i h6i ⊢
      have HN : Hid (ls.length = n) := hn
      clear hn
      go_enter Tryz.func75, Tryz.ntmps75
      go_wp2_with fail
      go_loopw [16] (fun i wr => ∃ j : Nat, j ≤ n ∧ i = .int .i64 j ∧ Hid (R = badEach (ls.drop j)) ∧ Hid (Below w.heap.size w wr)) (fun i _ => n - (intOf i).toNat)
      case atStart => exact ⟨0, Nat.zero_le _, rfl, HR.out.symm.trans E.out, Below.refl _ _⟩
      case round =>
        obtain ⟨j, hj, rfl, HJ, HB⟩ := hrel
        by_cases hlt : j < n
        · have hl : ls ≠ [] := by intro h; have := HN.out; rw [h] at this; simp at this; omega
          obtain ⟨b, o, rfl, hbw, hat⟩ := HRow.out hl
          have hjl : j < ls.length := by rw [HN.out]; exact hlt
          obtain ⟨u, hu, hru⟩ := hat j hjl
          have c0 : wr.cell? ⟨b, o + j, none⟩ = some u := (World.cell?_of_block (a := ⟨b, o + j, none⟩) (HB.out.block b hbw)).trans hu
          have HU : Hid (RowIs wr u ls[j]) := hru.below HB.out
          clear hat hu hru
          have hws := HB.out.size
          have hlti : (j : Int) < (n : Int) := by omega
          obtain ⟨m, HM⟩ : ∃ m, Hid (badL ls[j] = m) := ⟨badL ls[j], show _ = _ from rfl⟩
          obtain ⟨l, HX⟩ : ∃ l, Hid (ls[j] = l) := ⟨ls[j], show ls[j] = ls[j] from rfl⟩
          have HML : Hid (badL l = m) := by
            show badL l = m
            rw [← HX.out]
            exact HM.out
          rw [HX.out] at HU
          clear HX
          go_wp2_with fail
          by_cases hm : m = 0
          · subst hm
            refine (cacheCheck_ok HU.out HML.out).mono ?_
            rintro e w1 ⟨rfl, hb⟩
            have B1 : Hid (Below w.heap.size w w1) := HB.out.trans (hb.mono hws)
            clear hb c0
            rw [badEach_next hjl HM.out] at HJ
            go_wp2_with fail
            go_roundw
            case rel => exact ⟨j + 1, by omega, by go_num, HJ, B1⟩
            case measure => simp [intOf]; omega
          · refine (cacheCheck_err HU.out HML.out hm).mono ?_
            rintro e w1 ⟨rfl, hb⟩
            have B1 : Hid (Below w.heap.size w w1) := HB.out.trans (hb.mono hws)
            clear hb c0
            rw [badEach_bad hjl (by rw [HM.out]; exact hm), HM.out] at HJ
            go_wp2_with fail
            go_ret
            exact ⟨by rw [HJ.out]; simp [eV, hm], B1.out⟩
        · obtain rfl : j = n := by omega
          have HR0 : Hid (R = 0) := by
            show R = 0
            rw [HJ.out, List.drop_eq_nil_of_le (by rw [HN.out]; exact Nat.le_refl _)]
            rfl
          go_wp2_with fail
          go_ret
          exact ⟨by rw [HR0.out]; rfl, HB.out⟩
theorem tcheck_ok {v : Value} {ls : List (List En)} {w : World} (hr : RowsIs w v ls) (h : badLs ls = 0) :
    Calls Tryz.prog 75 #[v] w fun e w' => e = .returned .nilIface ∧ Below w.heap.size w w' := by
  have c := tcheck_c v ls w hr
  rw [h] at c
  exact c
theorem tcheck_err {v : Value} {ls : List (List En)} {w : World} {n : Int} (hr : RowsIs w v ls) (h : badLs ls = n) (hn : n ≠ 0) :
    Calls Tryz.prog 75 #[v] w fun e w' => e = .returned (.iface 85 (.int .i64 n)) ∧ Below w.heap.size w w' := by
  have c := tcheck_c v ls w hr
  rw [h, eV, if_neg hn] at c
  exact c
end Go.Proofs.YtpcnfoaoajfhlaaGreatDoor

namespace Go.Proofs.YtpcnfoaoajfhlaaGreatDoor
set_option linter.unusedVariables false
set_option linter.unusedSimpArgs false
open Go.RowKit

/-- a text's bytes as numbers -/
def byN (s : ByteArray) : List Nat := s.data.toList.map UInt8.toNat
theorem byN_len (s : ByteArray) : (byN s).length = s.size := by
  rw [byN, List.length_map, Array.length_toList]
  rfl

theorem xor_u32 (a b : Nat) (ha : a < 4294967296) (hb : b < 4294967296) : bits .xor .u32 (a : Int) (b : Int) = ((a ^^^ b : Nat) : Int) := by
  have hx : a ^^^ b < 4294967296 := Nat.xor_lt_two_pow (n := 32) ha hb
  have e : ∀ x : Nat, x < 4294967296 → (BitVec.ofInt 32 (x : Int)).toNat = x := fun x h => by
    rw [BitVec.ofInt_natCast, BitVec.toNat_ofNat]
    exact Nat.mod_eq_of_lt h
  show IntKind.u32.wrap ((BitVec.ofInt 32 (a : Int) ^^^ BitVec.ofInt 32 (b : Int)).toNat : Int) = _
  rw [BitVec.toNat_xor, e a ha, e b hb]
  have hw : ∀ n : Int, IntKind.u32.wrap n = n % 4294967296 := fun n => by simp [IntKind.wrap, IntKind.bits, IntKind.signed]
  rw [hw]
  omega
/-- a step, as the program makes it -/
theorem step_u32 (m c : Nat) (hm : m < 4294967296) (hc : c < 256) : bits BinOp.xor IntKind.u32 (m : Int) ((c : Int) % 4294967296) * 16777619 % 4294967296 = (stepH m c : Nat) := by
  rw [show ((c : Int) % 4294967296) = (c : Int) by omega, xor_u32 m c hm (by omega)]
  obtain ⟨x, hx⟩ : ∃ x, x = m ^^^ c := ⟨_, rfl⟩
  have e : stepH m c = (x * 16777619) % 4294967296 := by rw [hx, stepH]
  rw [e, ← hx]
  omega
/-- one byte more of a text -/
theorem hash_take (s : ByteArray) (j : Nat) (h : j < s.size) : hashL ((byN s).take (j + 1)) = stepH (hashL ((byN s).take j)) s[j].toNat := by
  have hl : j < (byN s).length := by rw [byN_len]; exact h
  have e : (byN s)[j] = s[j].toNat := by simp [byN]; rfl
  rw [List.take_succ_eq_append_getElem hl, hashL_more, e]
theorem hash_all (s : ByteArray) (j : Nat) (h : ¬ j < s.size) : hashL ((byN s).take j) = hashL (byN s) := by
  rw [List.take_of_length_le (by rw [byN_len]; omega)]

set_option maxHeartbeats 4000000 in
theorem number_c (s : ByteArray) (w : World) (hs : s.size ≤ 9223372036854775807) :
    Calls Tryz.prog 145 #[.string s] w fun e w' => e = .returned (.int .i64 (hashL (byN s) : Nat)) ∧ w' = w := by
  obtain ⟨R, HR⟩ : ∃ R : Nat, Hid (hashL (byN s) = R) := ⟨_, rfl⟩
  rw [HR.out]
  go_enter Tryz.func145, Tryz.ntmps145
  go_wp2_with fail
  go_loopw [3, 7] (fun x i wr => ∃ (j : Nat) (m : Nat), j ≤ s.size ∧ i = .int .i64 j ∧ x = .int .u32 m ∧ m < 4294967296 ∧ wr = w ∧ Hid (m = hashL ((byN s).take j))) (fun _ i _ => s.size - (intOf i).toNat)
  case atStart => exact ⟨0, 2166136261, Nat.zero_le _, rfl, rfl, by omega, rfl, by rw [List.take_zero]; rfl⟩
  case round =>
    obtain ⟨j, m, hj, rfl, rfl, hm, rfl, HE⟩ := hrel
    by_cases hlt : j < s.size
    · go_wp2_with fail
      go_roundw
      case rel =>
        refine ⟨j + 1, stepH m s[j].toNat, by omega, by go_num, ?_, stepH_lt _ _, trivial, ?_⟩
        · rw [step_u32 m s[j].toNat hm (UInt8.toNat_lt _)]
        · show _ = _
          rw [hash_take s j hlt, ← HE.out]
      case measure => simp [intOf]; omega
    · go_wp2_with fail
      go_ret
      have e : m = R := by rw [HE.out, hash_all s j hlt]; exact HR.out
      exact ⟨by rw [← e]; rfl, rfl⟩
end Go.Proofs.YtpcnfoaoajfhlaaGreatDoor

namespace Go.Proofs.YtpcnfoaoajfhlaaGreatDoor
set_option linter.unusedVariables false
set_option linter.unusedSimpArgs false
open Go.RowKit

def sameL : List En → List En → Bool
  | [], [] => true
  | x :: a, y :: b => x.same y && sameL a b
  | _, _ => false
theorem En.same_iff {x y : En} : x.same y = true ↔ x = y := by
  constructor
  · intro h
    simp [En.same] at h
    exact En.eqs h.1 h.2.1 h.2.2.1 h.2.2.2.1 (bytes_inj h.2.2.2.2)
  · rintro rfl
    exact En.same_self x
theorem sameL_iff {a b : List En} : sameL a b = true ↔ a = b := by
  induction a generalizing b with
  | nil => cases b <;> simp [sameL]
  | cons x a ih => cases b <;> simp [sameL, ih, En.same_iff]
theorem sameL_len {a b : List En} (h : a.length ≠ b.length) : sameL a b = false := by
  cases hs : sameL a b
  · rfl
  · exact absurd (by rw [sameL_iff.1 hs]) h
theorem sameL_step {a b : List En} {j : Nat} (ha : j < a.length) (hb : j < b.length) : sameL (a.drop j) (b.drop j) = (a[j].same b[j] && sameL (a.drop (j + 1)) (b.drop (j + 1))) := by
  rw [List.drop_eq_getElem_cons ha, List.drop_eq_getElem_cons hb, sameL]

theorem neq_cellsS (x0 x1 x2 : Int) (x3 : Bool) (x4 : ByteArray) (y0 y1 y2 : Int) (y3 : Bool) (y4 : ByteArray) (b : Bool) (h : En.same ⟨x0, x1, x2, x3, x4⟩ ⟨y0, y1, y2, y3, y4⟩ = b) (w : World) : (binOp .neq 46 (.agg #[.int .i64 x0, .int .i64 x1, .int .i64 x2, .bool x3, .string x4]) (.agg #[.int .i64 y0, .int .i64 y1, .int .i64 y2, .bool y3, .string y4])).run Tryz.prog w = .ok (.bool !b) w := by
  have h1 := eql_enIn ⟨x0, x1, x2, x3, x4⟩ ⟨y0, y1, y2, y3, y4⟩ w
  rw [h] at h1
  unfold En.val at h1
  rw [run_neq_struct, h1]
  rfl
theorem below_drewS (B : Nat) (w : World) (n : Nat) : Below B w (w.drewN n) := ⟨rfl, rfl, rfl, Nat.le_refl _, fun _ _ => rfl⟩

set_option maxHeartbeats 4000000 in
theorem same_c (va vb : Value) (a b : List En) (w : World) (hra : RowIs w va a) (hrb : RowIs w vb b) :
    Calls Tryz.prog 18 #[va, vb] w fun e w' => e = .returned (.bool (sameL a b)) ∧ Below w.heap.size w w' := by
  obtain ⟨hla, pa, capa, rfl, hrowa⟩ := hra
  obtain ⟨hlb, pb, capb, rfl, hrowb⟩ := hrb
  by_cases hl : a.length = b.length
  · have HRA : Hid (a ≠ [] → ∃ bb o, pa = some ⟨bb, o, none⟩ ∧ bb < w.heap.size ∧ ∀ j (h : j < a.length), EnAt w bb (o + j * 5) a[j]) := hrowa
    have HRB : Hid (b ≠ [] → ∃ bb o, pb = some ⟨bb, o, none⟩ ∧ bb < w.heap.size ∧ ∀ j (h : j < b.length), EnAt w bb (o + j * 5) b[j]) := hrowb
    clear hrowa hrowb
    have HL : Hid (a.length = b.length) := hl
    obtain ⟨n, HN⟩ : ∃ n, Hid (a.length = n) := ⟨_, rfl⟩
    have HNb : Hid (b.length = n) := HL.out.symm.trans HN.out
    rw [HN.out] at hla ⊢
    rw [HNb.out] at hlb ⊢
    have hn63 : n ≤ 9223372036854775807 := hla
    clear hl
    obtain ⟨R, HR⟩ : ∃ R, Hid (sameL a b = R) := ⟨_, rfl⟩
    rw [HR.out]
    have hgd := eqGuard_en
    go_enter Tryz.func18, Tryz.ntmps18
    go_wp2_with fail
    go_loopw [5] (fun i wr => ∃ j : Nat, j ≤ n ∧ i = .int .i64 j ∧ Hid (R = sameL (a.drop j) (b.drop j)) ∧ Hid (Below w.heap.size w wr)) (fun i _ => n - (intOf i).toNat)
    case atStart => exact ⟨0, Nat.zero_le _, rfl, by rw [List.drop_zero, List.drop_zero]; exact HR.out.symm, Below.refl _ _⟩
    case round =>
      obtain ⟨j, hj, rfl, HE, HB⟩ := hrel
      by_cases hlt : j < n
      · have hja : j < a.length := by rw [HN.out]; exact hlt
        have hjb : j < b.length := by rw [HNb.out]; exact hlt
        obtain ⟨ba, oa, rfl, hbwa, hata⟩ := HRA.out (fun h => by simp [h] at hja)
        obtain ⟨bb, ob, rfl, hbwb, hatb⟩ := HRB.out (fun h => by simp [h] at hjb)
        have HAa : Hid (EnAt wr ba (oa + j * 5) a[j]) := (hata j hja).of_block (HB.out.block ba hbwa)
        have HAb : Hid (EnAt wr bb (ob + j * 5) b[j]) := (hatb j hjb).of_block (HB.out.block bb hbwb)
        clear hata hatb
        have HStep : Hid (R = (a[j].same b[j] && sameL (a.drop (j + 1)) (b.drop (j + 1)))) := HE.out.trans (sameL_step hja hjb)
        obtain ⟨x, HX⟩ : ∃ x, Hid (a[j] = x) := ⟨a[j], show a[j] = a[j] from rfl⟩
        obtain ⟨y, HY⟩ : ∃ y, Hid (b[j] = y) := ⟨b[j], show b[j] = b[j] from rfl⟩
        rw [HX.out] at HAa HStep
        rw [HY.out] at HAb HStep
        obtain ⟨x0, x1, x2, x3, x4⟩ := x
        obtain ⟨y0, y1, y2, y3, y4⟩ := y
        obtain ⟨sm, HS⟩ : ∃ sm, Hid (En.same ⟨x0, x1, x2, x3, x4⟩ ⟨y0, y1, y2, y3, y4⟩ = sm) := ⟨_, rfl⟩
        rw [HS.out] at HStep
        have hq := neq_cellsS x0 x1 x2 x3 x4 y0 y1 y2 y3 y4 sm HS.out
        obtain ⟨c0, c1, c2, c3, c4⟩ := HAa.out
        obtain ⟨d0, d1, d2, d3, d4⟩ := HAb.out
        dsimp only at c0 c1 c2 c3 c4 d0 d1 d2 d3 d4
        have hlti : (j : Int) < (n : Int) := by omega
        cases sm
        · go_upto_region 6 with fail
          go_quiet (fail)
          go_wp2_with fail
          go_ret
          refine ⟨by rw [HStep.out]; rfl, HB.out.trans (below_drewS _ _ _)⟩
        · go_upto_region 6 with fail
          go_quiet (fail)
          go_wp2_with fail
          go_roundw
          case rel => exact ⟨j + 1, by omega, by go_num, HStep.out.trans (by rw [Bool.true_and]), HB.out.trans (below_drewS _ _ _)⟩
          case measure => simp [intOf]; omega
      · obtain rfl : j = n := by omega
        have HR0 : Hid (R = true) := by
          show R = true
          rw [HE.out, List.drop_eq_nil_of_le (by rw [HN.out]; exact Nat.le_refl _), List.drop_eq_nil_of_le (by rw [HNb.out]; exact Nat.le_refl _)]
          rfl
        go_wp2_with fail
        go_ret
        exact ⟨by rw [HR0.out]; rfl, HB.out⟩
  · rw [sameL_len hl]
    clear hrowa hrowb
    have hli : ¬ ((a.length : Int) = (b.length : Int)) := by omega
    generalize a.length = n at *
    generalize b.length = m at *
    go_enter Tryz.func18, Tryz.ntmps18
    go_wp2_with fail
    go_ret
    exact ⟨rfl, Below.refl _ _⟩
end Go.Proofs.YtpcnfoaoajfhlaaGreatDoor
