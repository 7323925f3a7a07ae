/-
  Where a key lies in a cache: sort.Find, cmp.Compare and package cache's place, by their contracts.
  slices.Clone at a cache, by its contract.
  copy at elements of several cells; a row that is written into.
-/
import Derived.Test.YtpcnfoaoajfhlaaGreatDoorRaab
import Derived.Lib.Walk
import Derived.Lib.SliceRun
import Derived.Maps.AppendAt
import Derived.Laws.IdiomCopy
import Derived.Lib.Overlaps
import Derived.Lib.AppendZerosOnto
import Derived.Lib.JoinLaws
import Derived.Laws.NewBlocks
import Derived.Deep.RegionLaw
import Derived.Deep.AppendLies
import Derived.Laws.Rows
namespace Go.Proofs.YtpcnfoaoajfhlaaGreatDoor
set_option linter.unusedVariables false
set_option linter.unusedSimpArgs false
set_option linter.unusedVariables false
set_option linter.unusedSimpArgs false
open Go.RowKit

def cmpI (x y : Int) : Int := if x < y then -1 else if y < x then 1 else 0
theorem compare_c (x y : Int) (w : World) : Calls Tryz.prog 108 #[.int .i64 x, .int .i64 y] w fun e w' => e = .returned (.int .i64 (cmpI x y)) ∧ w' = w := by
  by_cases h1 : x < y
  · go_enter Tryz.func108, Tryz.ntmps108
    go_wp2
    go_ret
    exact ⟨by simp [cmpI, h1], rfl⟩
  · by_cases h2 : y < x
    · go_enter Tryz.func108, Tryz.ntmps108
      go_wp2
      go_ret
      exact ⟨by rw [cmpI, if_neg (by omega), if_pos h2]; rfl, rfl⟩
    · go_enter Tryz.func108, Tryz.ntmps108
      go_wp2
      go_ret
      exact ⟨by rw [cmpI, if_neg (by omega), if_neg (by omega)]; rfl, rfl⟩

theorem below_drewN (B : Nat) (w : World) (n : Nat) : Below B w (w.drewN n) := ⟨rfl, rfl, rfl, Nat.le_refl _, fun _ _ => rfl⟩
/-- the two boxes that the closure has captured, and the row -/
structure Caught (w : World) (kb lb : Nat) (key : Int) (b o cap : Nat) (l : List En) : Prop where
  ck : w.cell? ⟨kb, 0, none⟩ = some (.int .i64 key)
  cl : w.cell? ⟨lb, 0, none⟩ = some (.slice (some ⟨b, o, none⟩) l.length cap)
  row : ∀ j (h : j < l.length), EnAt w b (o + j * 5) l[j]
  lt : b < w.heap.size
theorem Caught.below {w w' : World} {kb lb : Nat} {key : Int} {b o cap : Nat} {l : List En} (h : Caught w kb lb key b o cap l) (hb : Below w.heap.size w w') : Caught w' kb lb key b o cap l :=
  ⟨(World.cell?_of_block (a := ⟨kb, 0, none⟩) (hb.block kb (World.block_lt_of_cell? w _ h.ck))).trans h.ck, (World.cell?_of_block (a := ⟨lb, 0, none⟩) (hb.block lb (World.block_lt_of_cell? w _ h.cl))).trans h.cl, fun j hj => (h.row j hj).of_block (hb.block b h.lt), Nat.lt_of_lt_of_le h.lt hb.size⟩

set_option maxHeartbeats 2000000 in
theorem closure_c (i : Nat) (kb lb : Nat) (key : Int) (b o cap : Nat) (l : List En) (w : World) (hi : i < l.length) (h : Caught w kb lb key b o cap l) :
    Calls Tryz.prog 160 #[.int .i64 i, .pointer (some ⟨kb, 0, none⟩), .pointer (some ⟨lb, 0, none⟩)] w fun e w' => e = .returned (.int .i64 (cmpI key l[i].k)) ∧ Below w.heap.size w w' := by
  obtain ⟨ck, cl, row, lt⟩ := h
  have c0 := (row i hi).c0
  clear row
  have hin : (i : Int) < (l.length : Int) := by omega
  generalize l[i].k = y at c0 ⊢
  generalize l.length = n at cl hi hin ⊢
  go_enter Tryz.func160, Tryz.ntmps160
  go_wp2_with fail
  go_quiet (first | (go_at_call 108; exact Calls.quiet_of_same (compare_c _ _ _)))
  go_wp2_with fail
  go_ret
  exact ⟨rfl, below_drewN _ _ _⟩

set_option maxHeartbeats 4000000 in
/-- sort.Find over that closure: m keys are less -/
theorem find_c (kb lb : Nat) (key : Int) (b o cap : Nat) (l : List En) (m : Nat) (is : Bool) (w : World) (h8 : l.length ≤ 8) (h : l ≠ [] → Caught w kb lb key b o cap l) (hm : m ≤ l.length)
    (h1 : ∀ j (hj : j < l.length), j < m → l[j].k < key) (h2 : ∀ j (hj : j < l.length), m ≤ j → key ≤ l[j].k) (h3 : is = decide (∃ hj : m < l.length, l[m].k = key)) :
    Calls Tryz.prog 159 #[.int .i64 l.length, .func (.func 160) #[] #[.pointer (some ⟨kb, 0, none⟩), .pointer (some ⟨lb, 0, none⟩)]] w fun e w' => e = .returned (.tuple #[.int .i64 m, .bool is]) ∧ Below w.heap.size w w' := by
  have HC : Hid (l ≠ [] → Caught w kb lb key b o cap l) := h
  have H1 : Hid (∀ j (hj : j < l.length), j < m → l[j].k < key) := h1
  have H2 : Hid (∀ j (hj : j < l.length), m ≤ j → key ≤ l[j].k) := h2
  have H3 : Hid (is = decide (∃ hj : m < l.length, l[m].k = key)) := h3
  clear h h1 h2 h3
  obtain ⟨n, HN⟩ : ∃ n, Hid (l.length = n) := ⟨l.length, show l.length = l.length from rfl⟩
  rw [HN.out] at h8 hm ⊢
  go_enter Tryz.func159, Tryz.ntmps159
  go_wp2_with fail
  go_loopw [4, 6] (fun s4 s6 wr => ∃ lo hi : Nat, s4 = .int .i64 lo ∧ s6 = .int .i64 hi ∧ lo ≤ m ∧ m ≤ hi ∧ hi ≤ n ∧ Hid (Below w.heap.size w wr)) (fun s4 s6 _ => (intOf s6).toNat - (intOf s4).toNat)
  case atStart => exact ⟨0, n, rfl, rfl, Nat.zero_le _, hm, Nat.le_refl _, Below.refl _ _⟩
  case round =>
    obtain ⟨lo, hi, rfl, rfl, hlm, hmh, hhn, HB⟩ := hrel
    by_cases hlt : lo < hi
    · have hl : l ≠ [] := by intro h; have := HN.out; rw [h] at this; simp at this; omega
      have hmid : (lo + hi) / 2 < l.length := by rw [HN.out]; omega
      have hc := closure_c ((lo + hi) / 2) kb lb key b o cap l wr hmid ((HC.out hl).below HB.out)
      rw [show (((lo + hi) / 2 : Nat) : Int) = ((lo : Int) + (hi : Int)) / 2 by omega] at hc
      have HCC : Hid _ := hc
      clear hc
      by_cases hp : (lo + hi) / 2 < m
      · have hk := H1.out _ hmid hp
        have hcm : cmpI key l[(lo + hi) / 2].k = 1 := by rw [cmpI, if_neg (by omega), if_pos hk]
        go_wp2_with fail
        refine Calls.mono HCC.out ?_
        rintro e w1 ⟨rfl, hb⟩
        rw [hcm]
        have B1 : Hid (Below w.heap.size w w1) := HB.out.trans (hb.mono HB.out.size)
        clear hb hcm hk
        go_wp2_with fail
        go_roundw
        case rel => exact ⟨(lo + hi) / 2 + 1, hi, by go_num, rfl, by omega, hmh, hhn, B1⟩
        case measure => simp [intOf]; omega
      · have hk := H2.out _ hmid (by omega)
        obtain ⟨c, hcm, hc0⟩ : ∃ c, cmpI key l[(lo + hi) / 2].k = c ∧ c ≤ 0 := by
          refine ⟨_, rfl, ?_⟩
          rw [cmpI]
          split
          · omega
          · rw [if_neg (by omega)]; omega
        go_wp2_with fail
        refine Calls.mono HCC.out ?_
        rintro e w1 ⟨rfl, hb⟩
        rw [hcm]
        have B1 : Hid (Below w.heap.size w w1) := HB.out.trans (hb.mono HB.out.size)
        clear hb hcm hk
        go_wp2_with fail
        go_roundw
        case rel => exact ⟨lo, (lo + hi) / 2, rfl, by go_num, hlm, by omega, by omega, B1⟩
        case measure => simp [intOf]; omega
    · obtain rfl : lo = m := by omega
      by_cases hmn : lo < n
      · have hl : l ≠ [] := by intro h; have := HN.out; rw [h] at this; simp at this; omega
        have hll : lo < l.length := by rw [HN.out]; omega
        have HCC : Hid _ := closure_c lo kb lb key b o cap l wr hll ((HC.out hl).below HB.out)
        have hmi : (lo : Int) < (n : Int) := by omega
        have hk := H2.out _ hll (Nat.le_refl _)
        obtain ⟨c, hcm, hc0⟩ : ∃ c, cmpI key l[lo].k = c ∧ (c = 0 ↔ l[lo].k = key) := by
          refine ⟨_, rfl, ?_⟩
          rw [cmpI]
          split
          · omega
          · rw [if_neg (by omega)]; omega
        have HI : Hid (is = (c == 0)) := by
          show is = (c == 0)
          rw [H3.out]
          by_cases hz : c = 0
          · rw [hz, decide_eq_true ⟨hll, hc0.1 hz⟩]; rfl
          · rw [decide_eq_false (fun ⟨_, h⟩ => hz (hc0.2 h))]; simp [hz]
        clear hc0 hk
        go_wp2_with fail
        refine Calls.mono HCC.out ?_
        rintro e w1 ⟨rfl, hb⟩
        rw [hcm]
        have B1 : Hid (Below w.heap.size w w1) := HB.out.trans (hb.mono HB.out.size)
        clear hb hcm
        go_wp2_with fail
        go_ret2
        exact ⟨by rw [HI.out]; rfl, B1.out⟩
      · have hmi : ¬ (lo : Int) < (n : Int) := by omega
        have hmd : decide ((lo : Int) < (n : Int)) = false := decide_eq_false hmi
        have HI : Hid (is = false) := by
          show is = false
          rw [H3.out, decide_eq_false (fun ⟨h, _⟩ => hmn (by rw [← HN.out]; exact h))]
        go_wp2_with fail
        go_ret2
        exact ⟨by rw [HI.out]; rfl, HB.out⟩

/-- how many keys of a rising row are less -/
def placeE : List En → Int → Nat
  | [], _ => 0
  | e :: l, key => if e.k < key then placeE l key + 1 else 0
/-- what a row has of a key -/
def getE (l : List En) (key : Int) : Option En := l.find? (fun e => e.k == key)
/-- keys rising -/
def Rising (l : List En) : Prop := l.Pairwise (fun x y => x.k < y.k)
theorem placeE_le (l : List En) (key : Int) : placeE l key ≤ l.length := by
  induction l with
  | nil => simp [placeE]
  | cons e l ih => simp only [placeE]; split <;> simp <;> omega
theorem placeE_less (l : List En) (key : Int) (j : Nat) (hj : j < l.length) (h : j < placeE l key) : l[j].k < key := by
  induction l generalizing j with
  | nil => simp at hj
  | cons e l ih =>
    simp only [placeE] at h
    split at h
    · cases j with
      | zero => simpa
      | succ j => exact ih j (by simpa using hj) (by omega)
    · omega
theorem placeE_more (l : List En) (key : Int) (hs : Rising l) (j : Nat) (hj : j < l.length) (h : placeE l key ≤ j) : key ≤ l[j].k := by
  induction l generalizing j with
  | nil => simp at hj
  | cons e l ih =>
    have hs' := List.pairwise_cons.1 hs
    simp only [placeE] at h
    split at h
    · cases j with
      | zero => omega
      | succ j => exact ih hs'.2 j (by simpa using hj) (by omega)
    · cases j with
      | zero => simp; omega
      | succ j =>
        have hj' : j < l.length := by simpa using hj
        have := hs'.1 l[j] (List.getElem_mem _)
        simp only [List.getElem_cons_succ]
        omega
theorem getE_place (l : List En) (key : Int) (hs : Rising l) : (∃ hj : placeE l key < l.length, l[placeE l key].k = key) ↔ (getE l key).isSome = true := by
  constructor
  · rintro ⟨hj, h⟩
    rw [getE, List.find?_isSome]
    exact ⟨_, List.getElem_mem hj, by simpa using h⟩
  · intro h
    rw [getE, List.find?_isSome] at h
    obtain ⟨x, hx, hk⟩ := h
    obtain ⟨j, hj, rfl⟩ := List.getElem_of_mem hx
    have hk : l[j].k = key := by simpa using hk
    have h1 : placeE l key ≤ j := by
      rcases Nat.lt_or_ge j (placeE l key) with h | h
      · have := placeE_less l key j hj h; omega
      · exact h
    have h2 : placeE l key < l.length := by omega
    refine ⟨h2, ?_⟩
    have h3 := placeE_more l key hs _ h2 (Nat.le_refl _)
    rcases Nat.lt_or_ge (placeE l key) j with h | h
    · have := List.pairwise_iff_getElem.1 hs _ _ h2 hj h
      omega
    · have : placeE l key = j := by omega
      simp only [this]; exact hk
theorem getE_some {l : List En} {key : Int} {x : En} (hs : Rising l) (h : getE l key = some x) : ∃ hj : placeE l key < l.length, l[placeE l key] = x ∧ x.k = key := by
  obtain ⟨hj, hk⟩ := (getE_place l key hs).2 (by rw [h]; rfl)
  refine ⟨hj, ?_, ?_⟩
  · obtain ⟨i, hi, rfl⟩ := List.getElem_of_mem (List.mem_of_find?_eq_some h)
    have hx : l[i].k = key := by simpa using List.find?_some h
    rcases Nat.lt_trichotomy (placeE l key) i with h' | h' | h'
    · have := List.pairwise_iff_getElem.1 hs _ _ hj hi h'; omega
    · simp only [h']
    · have := List.pairwise_iff_getElem.1 hs _ _ hi hj h'; omega
  · simpa using List.find?_some h

def lowK (p : Option Int) (k : Int) : Bool := match p with | some q => decide (k ≤ q) | none => false
theorem badRow_cons (p : Option Int) (e : En) (l : List En) : badRow p (e :: l) = if e.bad ≠ 0 then e.bad else if lowK p e.k = true then 3 else badRow (some e.k) l := by cases p <;> rfl
theorem badRow_good {p : Option Int} {l : List En} (h : badRow p l = 0) : (∀ e ∈ l, e.bad = 0) ∧ Rising l ∧ ∀ q, p = some q → ∀ e ∈ l, q < e.k := by
  induction l generalizing p with
  | nil => exact ⟨by simp, List.Pairwise.nil, by simp⟩
  | cons e l ih =>
    rw [badRow_cons] at h
    by_cases h0 : e.bad = 0
    · rw [if_neg (by simpa using h0)] at h
      split at h
      · omega
      · rename_i hp
        obtain ⟨i1, i2, i3⟩ := ih h
        refine ⟨?_, List.pairwise_cons.2 ⟨fun y hy => i3 e.k rfl y hy, i2⟩, ?_⟩
        · intro x hx
          rcases List.mem_cons.1 hx with rfl | hx
          · exact h0
          · exact i1 x hx
        · rintro q rfl x hx
          have hq : q < e.k := by simpa [lowK] using hp
          rcases List.mem_cons.1 hx with rfl | hx
          · exact hq
          · have := i3 e.k rfl x hx; omega
    · rw [if_pos h0] at h
      exact absurd h h0
theorem badRow_zero {p : Option Int} {l : List En} (h1 : ∀ e ∈ l, e.bad = 0) (h2 : Rising l) (h3 : ∀ q, p = some q → ∀ e ∈ l, q < e.k) : badRow p l = 0 := by
  induction l generalizing p with
  | nil => cases p <;> rfl
  | cons e l ih =>
    rw [badRow_cons, if_neg (by simpa using h1 e (by simp)), if_neg, ih (fun x hx => h1 x (by simp [hx])) (List.pairwise_cons.1 h2).2 (fun q hq x hx => by rw [← Option.some.inj hq]; exact (List.pairwise_cons.1 h2).1 x hx)]
    cases p with
    | none => simp [lowK]
    | some q => have := h3 q rfl e (by simp); simpa [lowK] using this
/-- a right cache -/
structure GoodL (l : List En) : Prop where
  len : l.length ≤ 8
  all : ∀ e ∈ l, e.bad = 0
  rise : Rising l
theorem badL_good {l : List En} (h : badL l = 0) : GoodL l := by
  unfold badL at h
  split at h
  · omega
  · obtain ⟨h1, h2, _⟩ := badRow_good h
    exact ⟨by omega, h1, h2⟩
theorem GoodL.bad {l : List En} (h : GoodL l) : badL l = 0 := by
  rw [badL, if_neg (by have := h.len; omega)]
  exact badRow_zero h.all h.rise (by simp)

set_option maxHeartbeats 2000000 in
theorem place_c (v : Value) (l : List En) (key : Int) (w : World) (hr : RowIs w v l) (hg : GoodL l) :
    Calls Tryz.prog 117 #[v, .int .i64 key] w fun e w' => e = .returned (.tuple #[.int .i64 (placeE l key), .bool (getE l key).isSome]) ∧ Below w.heap.size w w' := by
  have HG : Hid (GoodL l) := hg
  have h8 := hg.len
  have HR : Hid (RowIs w v l) := hr
  obtain ⟨hlen, p, cap, rfl, hrow⟩ := hr
  have HRow : Hid (l ≠ [] → ∃ b o, p = some ⟨b, o, none⟩ ∧ b < w.heap.size ∧ ∀ j (h : j < l.length), EnAt w b (o + j * 5) l[j]) := hrow
  clear hrow hg
  obtain ⟨is, HI⟩ : ∃ is, Hid ((getE l key).isSome = is) := ⟨_, rfl⟩
  rw [HI.out]
  have H3 : Hid (is = decide (∃ hj : placeE l key < l.length, l[placeE l key].k = key)) := by
    show is = _
    rw [← HI.out]
    have := getE_place l key HG.out.rise
    cases hq : (getE l key).isSome
    · rw [decide_eq_false]
      rw [this, hq]; simp
    · rw [decide_eq_true]
      rw [this, hq]
  obtain ⟨m, HM⟩ : ∃ m, Hid (placeE l key = m) := ⟨_, rfl⟩
  have hm1 := placeE_le l key
  have hm2 := placeE_less l key
  have hm3 := placeE_more l key HG.out.rise
  have h3 := H3.out
  simp only [HM.out] at hm1 hm2 hm3 h3
  have HC : Hid (l ≠ [] → ∃ b o c, ∀ w', Below (w.heap.size + 2) ((w.alloc (.cells #[.slice p l.length cap] 32)).alloc (.cells #[.int .i64 key] 3)) w' → Caught w' (w.heap.size + 1) w.heap.size key b o c l) := by
    intro hl
    obtain ⟨b, o, rfl, hbw, hat⟩ := HRow.out hl
    refine ⟨b, o, cap, fun w' hw' => ?_⟩
    have hc : Caught ((w.alloc (.cells #[.slice (some ⟨b, o, none⟩) l.length cap] 32)).alloc (.cells #[.int .i64 key] 3)) (w.heap.size + 1) w.heap.size key b o cap l := by
      refine ⟨by simp, by simp, fun j hj => ((hat j hj).of_block (Below.heap_alloc _ _ _ hbw)).of_block (Below.heap_alloc _ _ _ (by simp; omega)), by simp; omega⟩
    exact hc.below (hw'.mono (by simp))
  rw [HM.out]
  have hfind : ∀ W, Below (w.heap.size + 2) ((w.alloc (.cells #[.slice p l.length cap] 32)).alloc (.cells #[.int .i64 key] 3)) W → Calls Tryz.prog 159 #[.int .i64 l.length, .func (.func 160) #[] #[.pointer (some ⟨w.heap.size + 1, 0, none⟩), .pointer (some ⟨w.heap.size, 0, none⟩)]] W fun e w' => e = .returned (.tuple #[.int .i64 m, .bool is]) ∧ Below W.heap.size W w' := by
    intro W hW
    by_cases hl : l = []
    · exact find_c _ _ key 0 0 0 l m is W h8 (fun h => absurd hl h) hm1 (fun j hj h => hm2 j hj h) (fun j hj h => hm3 j hj h) h3
    · obtain ⟨b, o, c, hc⟩ := HC.out hl
      exact find_c _ _ key b o c l m is W h8 (fun _ => hc W hW) hm1 (fun j hj h => hm2 j hj h) (fun j hj h => hm3 j hj h) h3
  have HF : Hid _ := hfind
  clear hfind hm1 hm2 hm3 h3
  go_enter Tryz.func117, Tryz.ntmps117
  go_wp2_with fail
  refine Calls.mono (HF.out _ (Below.refl _ _)) ?_
  rintro e w1 ⟨rfl, hb⟩
  have B1 : Hid (Below w.heap.size w w1) := Below.trans (by go_grown) (hb.mono (by simp; omega))
  clear hb
  go_wp2_with fail
  go_ret2
  exact ⟨rfl, B1.out⟩
end Go.Proofs.YtpcnfoaoajfhlaaGreatDoor

namespace Go.Proofs.YtpcnfoaoajfhlaaGreatDoor
set_option linter.unusedVariables false
set_option linter.unusedSimpArgs false
open Go.RowKit Go.Lib

set_option maxHeartbeats 2000000 in
set_option maxRecDepth 100000 in
theorem clone_c (v : Value) (l : List En) (w : World) (hr : RowIs w v l) (h8 : l.length ≤ 8) :
    Calls Tryz.prog 56 #[v] w fun e w' => ∃ v', e = .returned v' ∧ w'.ownsRow w.heap.size 46 5 v' l.length (rowC l) ∧ Below w.heap.size w w' := by
  obtain ⟨i0, hi0, hz0, hz1, hz2⟩ := info_parts infoEn
  obtain ⟨hlen, p, cap, rfl, hrow⟩ := hr
  have q22 : ∀ (w : World) (a : Option Addr) (n c n' c' : Nat), (binOp .eql 32 (.slice a n c) (.slice none n' c')).run Tryz.prog w = .ok (.bool a.isNone) w := fun w a n c n' c' => Lib.run_eql_slice_nil w _ _ a n c n' c' Tryz.underlying32
  cases p with
  | none =>
    have hl : l = [] := by
      cases l with
      | nil => rfl
      | cons e l => obtain ⟨b, o, h, _⟩ := hrow (by simp); cases h
    subst hl
    go_enter Tryz.func56, Tryz.ntmps56
    go_wp2_with fail
    go_ret
    exact ⟨_, rfl, World.ownsRow_nil _ _ _ _, by go_grown⟩
  | some ad =>
    have HC : Hid (∀ j u, (rowC l)[j]? = some u → w.cell? (ad.add j) = some u) := by
      intro j u hu
      cases l with
      | nil => simp [rowC] at hu
      | cons e l =>
        obtain ⟨b, o, h, _, hat⟩ := hrow (by simp)
        obtain rfl := Option.some.inj h
        rw [Addr.add_lit]
        exact RowIs.cells (cap := 0) hat j u hu
    clear hrow
    go_enter Tryz.func56, Tryz.ntmps56
    go_wp2_with (at_builtin; refine wpList_append_own _ rfl _ _ 32 rfl w.heap.size 46 i0 _ 5 48 Tryz.underlying32 hi0 hz0 hz1 hz2 rfl (by omega) _ _ _ rfl (World.ownsRow_made w #[] 0 (Nat.le_refl _) (Nat.zero_le _) (by simp)) ad l.length cap (rowC l) rfl ?qc1 ?qc2 ?qc3 ?qc4 ?qc5 ?qc6 ?_)
    case qc1 => exact rowC_length l
    case qc2 =>
      intro j u hj
      exact Lib.cell?_alloc_some _ (HC.out j u hj)
    case qc3 => exact rowC_one l
    case qc4 => rw [Nat.zero_add]; exact hlen
    case qc5 => rw [Nat.zero_add]; omega
    case qc6 => simp
    intro v' w1 hown hgrow hnil
    go_wp2_with fail
    go_ret
    refine ⟨v', rfl, by simpa using hown, ?_⟩
    exact ((Below.refl _ w).alloc (Nat.le_refl _) _).grown hgrow (by simp) (by intro k hk; simp [Value.ownBlock] at hk; omega)
end Go.Proofs.YtpcnfoaoajfhlaaGreatDoor

namespace Go.Proofs.YtpcnfoaoajfhlaaGreatDoor
set_option linter.unusedVariables false
set_option linter.unusedSimpArgs false
open Go.RowKit Go.Lib

theorem run_copy_k {P : Program} (w : World) (dT sT ty elem : TypeId) (k b o dLen dCap : Nat) (a : Addr) (sLen sCap : Nat) (cs : List Value) (n : Nat)
    (hu : P.underlying dT = some (.slice elem)) (hs : (P.info? elem).map (·.size) = some k) (hn : Nat.min sLen dLen = n) (hl : cs.length = n * k)
    (hsrc : ∀ j v, cs[j]? = some v → w.cell? (a.add j) = some v) (hc : ∀ j, j < cs.length → (w.cell? ⟨b, o + j, none⟩).isSome = true) (hf : ∀ j, j < cs.length → w.frozen? ⟨b, o + j, none⟩ = false) (h1 : ∀ v ∈ cs, v.oneCell' = true) :
    (Builtin.copy_ #[dT, sT] ty #[.slice (some ⟨b, o, none⟩) dLen dCap, .slice (some a) sLen sCap]).run P w = .ok (goInt n) (w.setCells b o cs) := by
  have hl' := run_loadCells_list (P := P) w a cs hsrc
  rw [hl] at hl'
  have hst := run_storeCells_cells (P := P) b o cs 0 w (by simpa using hc) (by simpa using hf) h1
  cases hq : P.info? elem with
  | none => simp [hq] at hs
  | some i =>
    have hi : i.size = k := by simpa [hq] using hs
    simp [Builtin.copy_, run_underlying hu, Builtin.lenOf, Builtin.firstCells, sizeOf, typeInfo, hq, hi, hn, hl', hst]

theorem setCells_block (b : Nat) (t : TypeId) : ∀ (vs : List Value) (o : Nat) (w : World) (cur : Array Value), w.heap[b]? = some (.cells cur t (0, 0)) → ∃ cur', (w.setCells b o vs).heap[b]? = some (.cells cur' t (0, 0)) ∧ cur'.size = cur.size
  | [], _, _, cur, h => ⟨cur, h, rfl⟩
  | v :: r, o, w, cur, h => by
    have h1 : (w.setCell ⟨b, o, none⟩ v).heap[b]? = some (.cells (cur.setIfInBounds o v) t (0, 0)) := by
      show (w.heap.modify b _)[b]? = _
      rw [Array.getElem?_modify, if_pos rfl, h]
      rfl
    obtain ⟨cur', h2, h3⟩ := setCells_block b t r (o + 1) _ _ h1
    exact ⟨cur', h2, by simpa using h3⟩
theorem setCells_other (b : Nat) : ∀ (vs : List Value) (o : Nat) (w : World) (c : Nat), c ≠ b → (w.setCells b o vs).heap[c]? = w.heap[c]?
  | [], _, _, _, _ => rfl
  | v :: r, o, w, c, h => by
    rw [World.setCells, setCells_other b r (o + 1) _ c h, Below.heap_setCell _ _ _ c h]
theorem setCells_size (b : Nat) : ∀ (vs : List Value) (o : Nat) (w : World), (w.setCells b o vs).heap.size = w.heap.size
  | [], _, _ => rfl
  | v :: r, o, w => by rw [World.setCells, setCells_size b r, World.size_setCell]
theorem setCells_rest (b : Nat) : ∀ (vs : List Value) (o : Nat) (w : World), (w.setCells b o vs).os = w.os ∧ (w.setCells b o vs).tape = w.tape ∧ (w.setCells b o vs).output = w.output
  | [], _, _ => ⟨rfl, rfl, rfl⟩
  | v :: r, o, w => setCells_rest b r (o + 1) (w.setCell ⟨b, o, none⟩ v)
theorem ownsRow_of {w : World} {B g n cap k : Nat} {e : TypeId} {cur : Array Value} {xs : List Value} (hB : B ≤ g) (hg : w.heap[g]? = some (.cells cur e (0, 0))) (hn : n ≤ cap) (hc : cap ≤ maxLen) (hs : cur.size = cap * k) (hl : xs.length = n * k)
    (hx : ∀ j u, xs[j]? = some u → w.cell? ⟨g, j, none⟩ = some u) : w.ownsRow B e k (.slice (some ⟨g, 0, none⟩) n cap) n xs := by
  refine ⟨hl, .inr ⟨g, cap, cur, rfl, hB, hg, hn, hc, hs, ?_⟩⟩
  have hle : n * k ≤ cap * k := Nat.mul_le_mul_right k hn
  apply List.ext_getElem?
  intro j
  rw [List.getElem?_take]
  by_cases hj : j < n * k
  · rw [if_pos hj, List.getElem?_eq_getElem (show j < xs.length by omega)]
    have h1 := hx j _ (List.getElem?_eq_getElem (show j < xs.length by omega))
    rw [cell_of_row w g j cur e (0, 0) hg] at h1
    simpa using h1
  · rw [if_neg hj, List.getElem?_eq_none (by omega)]
end Go.Proofs.YtpcnfoaoajfhlaaGreatDoor
