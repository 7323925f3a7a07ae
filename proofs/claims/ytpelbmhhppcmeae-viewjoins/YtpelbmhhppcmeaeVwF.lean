/-
  Where a node lies in a view: sort.Find and package view's place, by their contracts.
-/
import Derived.Test.YtpelbmhhppcmeaeVwH
namespace Go.Proofs.Ytpelbmhhppcmeae
set_option linter.unusedVariables false
set_option linter.unusedSimpArgs false
open Go.RowKit

/-- the two boxes that the closure has captured, and the row -/
structure Caught (w : World) (kb lb : Nat) (k : Int) (b o cap : Nat) (l : List Mm) : Prop where
  ck : w.cell? ⟨kb, 0, none⟩ = some (.int .i64 k)
  cl : w.cell? ⟨lb, 0, none⟩ = some (.slice (some ⟨b, o, none⟩) l.length cap)
  row : ∀ j (h : j < l.length), MmAt w b (o + j * 3) l[j]
  lt : b < w.heap.size
theorem Caught.below {w w' : World} {kb lb : Nat} {k : Int} {b o cap : Nat} {l : List Mm} (h : Caught w kb lb k b o cap l) (hb : Below w.heap.size w w') : Caught w' kb lb k b o cap l :=
  ⟨(World.cell?_of_block (a := ⟨kb, 0, none⟩) (hb.block kb (World.block_lt_of_cell? w _ h.ck))).trans h.ck, (World.cell?_of_block (a := ⟨lb, 0, none⟩) (hb.block lb (World.block_lt_of_cell? w _ h.cl))).trans h.cl, fun j hj => (h.row j hj).of_block (hb.block b h.lt), Nat.lt_of_lt_of_le h.lt hb.size⟩

set_option maxHeartbeats 2000000 in
theorem closure_c (i : Nat) (kb lb : Nat) (k : Int) (b o cap : Nat) (l : List Mm) (w : World) (hi : i < l.length) (h : Caught w kb lb k b o cap l) :
    Calls Try.prog 19 #[.int .i64 i, .pointer (some ⟨kb, 0, none⟩), .pointer (some ⟨lb, 0, none⟩)] w fun e w' => e = .returned (.int .i64 (Lib.compareInt k l[i].n)) ∧ Below w.heap.size w w' := by
  obtain ⟨ck, cl, row, lt⟩ := h
  have c0 := (row i hi).c0
  clear row
  have hin : (i : Int) < (l.length : Int) := by omega
  generalize l[i].n = y at c0 ⊢
  generalize l.length = n at cl hi hin ⊢
  go_enter Try.func19, Try.ntmps19
  go_wp2_with fail
  go_quiet (first | (go_at_call 16; exact Calls.quiet_of_same (compare_c _ _ _)))
  go_wp2_with fail
  go_ret
  exact ⟨rfl, below_drewN _ _ _⟩

set_option maxHeartbeats 4000000 in
/-- sort.Find over that closure: m ks are less -/
theorem find_c (kb lb : Nat) (k : Int) (b o cap : Nat) (l : List Mm) (m : Nat) (is : Bool) (w : World) (h8 : l.length ≤ 6) (h : l ≠ [] → Caught w kb lb k b o cap l) (hm : m ≤ l.length)
    (h1 : ∀ j (hj : j < l.length), j < m → l[j].n < k) (h2 : ∀ j (hj : j < l.length), m ≤ j → k ≤ l[j].n) (h3 : is = decide (∃ hj : m < l.length, l[m].n = k)) :
    Calls Try.prog 18 #[.int .i64 l.length, .func (.func 19) #[] #[.pointer (some ⟨kb, 0, none⟩), .pointer (some ⟨lb, 0, none⟩)]] w fun e w' => e = .returned (.tuple #[.int .i64 m, .bool is]) ∧ Below w.heap.size w w' := by
  have HC : Hid (l ≠ [] → Caught w kb lb k b o cap l) := h
  have H1 : Hid (∀ j (hj : j < l.length), j < m → l[j].n < k) := h1
  have H2 : Hid (∀ j (hj : j < l.length), m ≤ j → k ≤ l[j].n) := h2
  have H3 : Hid (is = decide (∃ hj : m < l.length, l[m].n = k)) := h3
  clear h h1 h2 h3
  obtain ⟨n, HN⟩ : ∃ n, Hid (l.length = n) := ⟨l.length, show l.length = l.length from rfl⟩
  rw [HN.out] at h8 hm ⊢
  go_enter Try.func18, Try.ntmps18
  go_wp2_with fail
  go_loopw [4, 6] (fun s4 s6 wr => ∃ lo hi : Nat, s4 = .int .i64 lo ∧ s6 = .int .i64 hi ∧ lo ≤ m ∧ m ≤ hi ∧ hi ≤ n ∧ Hid (Below w.heap.size w wr)) (fun s4 s6 _ => (intOf s6).toNat - (intOf s4).toNat)
  case atStart => exact ⟨0, n, rfl, rfl, Nat.zero_le _, hm, Nat.le_refl _, Below.refl _ _⟩
  case round =>
    obtain ⟨lo, hi, rfl, rfl, hlm, hmh, hhn, HB⟩ := hrel
    by_cases hlt : lo < hi
    · have hl : l ≠ [] := by intro h; have := HN.out; rw [h] at this; simp at this; omega
      have hmid : (lo + hi) / 2 < l.length := by rw [HN.out]; omega
      have hc := closure_c ((lo + hi) / 2) kb lb k b o cap l wr hmid ((HC.out hl).below HB.out)
      rw [show (((lo + hi) / 2 : Nat) : Int) = ((lo : Int) + (hi : Int)) / 2 by omega] at hc
      have HCC : Hid _ := hc
      clear hc
      by_cases hp : (lo + hi) / 2 < m
      · have hk := H1.out _ hmid hp
        have hcm : Lib.compareInt k l[(lo + hi) / 2].n = 1 := by rw [Lib.compareInt, if_neg (by omega), if_pos hk]
        go_wp2_with fail
        refine Calls.mono HCC.out ?_
        rintro e w1 ⟨rfl, hb⟩
        rw [hcm]
        have B1 : Hid (Below w.heap.size w w1) := HB.out.trans (hb.mono HB.out.size)
        clear hb hcm hk
        go_wp2_with fail
        go_roundw
        case rel => exact ⟨(lo + hi) / 2 + 1, hi, by go_num, rfl, by omega, hmh, hhn, B1⟩
        case measure => simp [intOf]; omega
      · have hk := H2.out _ hmid (by omega)
        obtain ⟨c, hcm, hc0⟩ : ∃ c, Lib.compareInt k l[(lo + hi) / 2].n = c ∧ c ≤ 0 := by
          refine ⟨_, rfl, ?_⟩
          unfold Lib.compareInt
          split
          · omega
          · rw [if_neg (by omega)]; omega
        go_wp2_with fail
        refine Calls.mono HCC.out ?_
        rintro e w1 ⟨rfl, hb⟩
        rw [hcm]
        have B1 : Hid (Below w.heap.size w w1) := HB.out.trans (hb.mono HB.out.size)
        clear hb hcm hk
        go_wp2_with fail
        go_roundw
        case rel => exact ⟨lo, (lo + hi) / 2, rfl, by go_num, hlm, by omega, by omega, B1⟩
        case measure => simp [intOf]; omega
    · obtain rfl : lo = m := by omega
      by_cases hmn : lo < n
      · have hl : l ≠ [] := by intro h; have := HN.out; rw [h] at this; simp at this; omega
        have hll : lo < l.length := by rw [HN.out]; omega
        have HCC : Hid _ := closure_c lo kb lb k b o cap l wr hll ((HC.out hl).below HB.out)
        have hmi : (lo : Int) < (n : Int) := by omega
        have hk := H2.out _ hll (Nat.le_refl _)
        obtain ⟨c, hcm, hc0⟩ : ∃ c, Lib.compareInt k l[lo].n = c ∧ (c = 0 ↔ l[lo].n = k) := by
          refine ⟨_, rfl, ?_⟩
          unfold Lib.compareInt
          split
          · omega
          · rw [if_neg (by omega)]; omega
        have HI : Hid (is = (c == 0)) := by
          show is = (c == 0)
          rw [H3.out]
          by_cases hz : c = 0
          · rw [hz, decide_eq_true ⟨hll, hc0.1 hz⟩]; rfl
          · rw [decide_eq_false (fun ⟨_, h⟩ => hz (hc0.2 h))]; simp [hz]
        clear hc0 hk
        go_wp2_with fail
        refine Calls.mono HCC.out ?_
        rintro e w1 ⟨rfl, hb⟩
        rw [hcm]
        have B1 : Hid (Below w.heap.size w w1) := HB.out.trans (hb.mono HB.out.size)
        clear hb hcm
        go_wp2_with fail
        go_ret2
        exact ⟨by rw [HI.out]; rfl, B1.out⟩
      · have hmi : ¬ (lo : Int) < (n : Int) := by omega
        have hmd : decide ((lo : Int) < (n : Int)) = false := decide_eq_false hmi
        have HI : Hid (is = false) := by
          show is = false
          rw [H3.out, decide_eq_false (fun ⟨h, _⟩ => hmn (by rw [← HN.out]; exact h))]
        go_wp2_with fail
        go_ret2
        exact ⟨by rw [HI.out]; rfl, HB.out⟩

set_option maxHeartbeats 2000000 in
theorem place_c (v : Value) (l : List Mm) (k : Int) (w : World) (hr : MmsIs w v l) (hg : GoodV l) :
    Calls Try.prog 14 #[v, .int .i64 k] w fun e w' => e = .returned (.tuple #[.int .i64 (placeM l k), .bool (getM l k).isSome]) ∧ Below w.heap.size w w' := by
  have HG : Hid (GoodV l) := hg
  have h8 := good_len hg
  have HR : Hid (MmsIs w v l) := hr
  obtain ⟨hlen, p, cap, rfl, hrow⟩ := hr
  have HRow : Hid (l ≠ [] → ∃ b o, p = some ⟨b, o, none⟩ ∧ b < w.heap.size ∧ ∀ j (h : j < l.length), MmAt w b (o + j * 3) l[j]) := hrow
  clear hrow hg
  obtain ⟨is, HI⟩ : ∃ is, Hid ((getM l k).isSome = is) := ⟨_, rfl⟩
  rw [HI.out]
  have H3 : Hid (is = decide (∃ hj : placeM l k < l.length, l[placeM l k].n = k)) := by
    show is = _
    rw [← HI.out]
    have := getM_place l k HG.out.1
    cases hq : (getM l k).isSome
    · rw [decide_eq_false]
      rw [this, hq]; simp
    · rw [decide_eq_true]
      rw [this, hq]
  obtain ⟨m, HM⟩ : ∃ m, Hid (placeM l k = m) := ⟨_, rfl⟩
  have hm1 := placeM_le l k
  have hm2 := placeM_less l k
  have hm3 := placeM_more l k HG.out.1
  have h3 := H3.out
  simp only [HM.out] at hm1 hm2 hm3 h3
  have HC : Hid (l ≠ [] → ∃ b o c, ∀ w', Below (w.heap.size + 2) ((w.alloc (.cells #[.slice p l.length cap] 22)).alloc (.cells #[.int .i64 k] 3)) w' → Caught w' (w.heap.size + 1) w.heap.size k b o c l) := by
    intro hl
    obtain ⟨b, o, rfl, hbw, hat⟩ := HRow.out hl
    refine ⟨b, o, cap, fun w' hw' => ?_⟩
    have hc : Caught ((w.alloc (.cells #[.slice (some ⟨b, o, none⟩) l.length cap] 22)).alloc (.cells #[.int .i64 k] 3)) (w.heap.size + 1) w.heap.size k b o cap l := by
      refine ⟨by simp, by simp, fun j hj => ((hat j hj).of_block (Below.heap_alloc _ _ _ hbw)).of_block (Below.heap_alloc _ _ _ (by simp; omega)), by simp; omega⟩
    exact hc.below (hw'.mono (by simp))
  rw [HM.out]
  have hfind : ∀ W, Below (w.heap.size + 2) ((w.alloc (.cells #[.slice p l.length cap] 22)).alloc (.cells #[.int .i64 k] 3)) W → Calls Try.prog 18 #[.int .i64 l.length, .func (.func 19) #[] #[.pointer (some ⟨w.heap.size + 1, 0, none⟩), .pointer (some ⟨w.heap.size, 0, none⟩)]] W fun e w' => e = .returned (.tuple #[.int .i64 m, .bool is]) ∧ Below W.heap.size W w' := by
    intro W hW
    by_cases hl : l = []
    · exact find_c _ _ k 0 0 0 l m is W h8 (fun h => absurd hl h) hm1 (fun j hj h => hm2 j hj h) (fun j hj h => hm3 j hj h) h3
    · obtain ⟨b, o, c, hc⟩ := HC.out hl
      exact find_c _ _ k b o c l m is W h8 (fun _ => hc W hW) hm1 (fun j hj h => hm2 j hj h) (fun j hj h => hm3 j hj h) h3
  have HF : Hid _ := hfind
  clear hfind hm1 hm2 hm3 h3
  go_enter Try.func14, Try.ntmps14
  go_wp2_with fail
  refine Calls.mono (HF.out _ (Below.refl _ _)) ?_
  rintro e w1 ⟨rfl, hb⟩
  have B1 : Hid (Below w.heap.size w w1) := Below.trans (by go_grown) (hb.mono (by simp; omega))
  clear hb
  go_wp2_with fail
  go_ret2
  exact ⟨rfl, B1.out⟩
end Go.Proofs.Ytpelbmhhppcmeae
