/-
  A cache in memory: a row of entries; what is wrong with one, as plain functions.
  Package cache by its contracts: Check.
  Where a key lies in a cache: sort.Find, cmp.Compare and package cache's place, by their contracts.
  Package cache by its contracts: Get.
  A cache's tree on lists: each key's number, each node's; sixteen numbers at a block.
  A row of numbers, and one appended to it.
  One row of numbers appended to another one; where two trees part, on lists.
  Rows of numbers with their room; slices.Index and slices.Contains at numbers (beside the trees' rows of numbers).
  slices.Clone at a cache, by its contract.
  copy at elements of several cells; a row that is written into.
  slices.Insert of one entry into a cache of the call's own, by its contract: at the end.
  slices.Insert of one entry into a cache of the call's own, by its contract: ahead of the end, with no room; and in all.
-/
import Derived.Test.YtippdgmgmenboagDoorMa
import Derived.BigRegion
import Derived.BigQuiet
import Derived.Deep.AppendLies
import Derived.Laws.AppendOwnNone
import Derived.Lib.Walk
import Derived.Lib.SliceRun
import Derived.Maps.AppendAt
import Derived.Laws.IdiomCopy
import Derived.Lib.Overlaps
import Derived.Lib.AppendZerosOnto
import Derived.Lib.JoinLaws
import Derived.Laws.NewBlocks
import Derived.Deep.RegionLaw
import Derived.Laws.Rows
namespace Go.Proofs.YtippdgmgmenboagDoor
set_option linter.unusedVariables false
set_option linter.unusedSimpArgs false
set_option linter.unusedVariables false
set_option linter.unusedSimpArgs false
open Go.RowKit

/-- what is wrong with an entry -/
def En.bad (e : En) : Int := Go.Proofs.YtippdgmgmenboagDoor.bad e.k e.v e.a e.g e.t
/-- what is wrong with a row, behind a key -/
def badRow : Option Int → List En → Int
  | _, [] => 0
  | p, e :: l => if e.bad ≠ 0 then e.bad else if (match p with | some q => decide (e.k ≤ q) | none => false) = true then 3 else badRow (some e.k) l
/-- what is wrong with a cache -/
def badL (l : List En) : Int := if 8 < l.length then 4 else badRow none l

def En.cells (e : En) : List Value := [.int .i64 e.k, .int .i64 e.v, .int .i64 e.a, .bool e.g, .string e.t]
def rowC : List En → List Value
  | [] => []
  | e :: l => e.cells ++ rowC l
theorem En.cells_length (e : En) : e.cells.length = 5 := rfl
theorem rowC_append (l m : List En) : rowC (l ++ m) = rowC l ++ rowC m := by
  induction l with
  | nil => rfl
  | cons c l ih => simp only [List.cons_append, rowC, ih, List.append_assoc]
theorem rowC_length (l : List En) : (rowC l).length = l.length * 5 := by
  induction l with
  | nil => rfl
  | cons c l ih => simp only [rowC, List.length_append, En.cells_length, ih, List.length_cons]; omega
theorem rowC_one (l : List En) : ∀ u ∈ rowC l, u.oneCell' = true := by
  induction l with
  | nil => intro u hu; simp [rowC] at hu
  | cons c l ih =>
    intro u hu
    simp only [rowC, List.mem_append] at hu
    rcases hu with h | h
    · simp only [En.cells, List.mem_cons, List.not_mem_nil, or_false] at h
      rcases h with rfl | rfl | rfl | rfl | rfl <;> rfl
    · exact ih u h
theorem rowC_get (l : List En) (j : Nat) (h : j < l.length) :
    (rowC l)[j * 5]? = some (.int .i64 l[j].k) ∧ (rowC l)[j * 5 + 1]? = some (.int .i64 l[j].v) ∧ (rowC l)[j * 5 + 2]? = some (.int .i64 l[j].a) ∧ (rowC l)[j * 5 + 3]? = some (.bool l[j].g) ∧ (rowC l)[j * 5 + 4]? = some (.string l[j].t) := by
  induction l generalizing j with
  | nil => simp at h
  | cons c l ih =>
    cases j with
    | zero => simp [rowC, En.cells]
    | succ j =>
      have e := ih j (by simpa using h)
      have e0 : (j + 1) * 5 = j * 5 + 5 := by omega
      simp only [rowC, En.cells, List.cons_append, List.nil_append, e0, List.getElem_cons_succ]
      have e1 : j * 5 + 5 + 1 = (j * 5 + 1) + 5 := by omega
      have e2 : j * 5 + 5 + 2 = (j * 5 + 2) + 5 := by omega
      have e3 : j * 5 + 5 + 3 = (j * 5 + 3) + 5 := by omega
      have e4 : j * 5 + 5 + 4 = (j * 5 + 4) + 5 := by omega
      rw [e1, e2, e3, e4]
      simpa using e
theorem rowC_take (l : List En) (i : Nat) : rowC (l.take i) = (rowC l).take (i * 5) := by
  induction l generalizing i with
  | nil => simp [rowC]
  | cons c l ih =>
    cases i with
    | zero => simp [rowC]
    | succ i =>
      rw [List.take_succ_cons, rowC, ih, rowC, show (i + 1) * 5 = c.cells.length + i * 5 by rw [En.cells_length]; omega, List.take_length_add_append]
theorem rowC_drop (l : List En) (i : Nat) : rowC (l.drop i) = (rowC l).drop (i * 5) := by
  induction l generalizing i with
  | nil => simp [rowC]
  | cons c l ih =>
    cases i with
    | zero => simp [rowC]
    | succ i =>
      rw [List.drop_succ_cons, ih, rowC, show (i + 1) * 5 = c.cells.length + i * 5 by rw [En.cells_length]; omega, List.drop_length_add_append]

/-- an entry's five cells at a place -/
structure EnAt (w : World) (b o : Nat) (e : En) : Prop where
  c0 : w.cell? ⟨b, o, none⟩ = some (.int .i64 e.k)
  c1 : w.cell? ⟨b, o + 1, none⟩ = some (.int .i64 e.v)
  c2 : w.cell? ⟨b, o + 2, none⟩ = some (.int .i64 e.a)
  c3 : w.cell? ⟨b, o + 3, none⟩ = some (.bool e.g)
  c4 : w.cell? ⟨b, o + 4, none⟩ = some (.string e.t)
theorem EnAt.of_block {w w' : World} {b o : Nat} {e : En} (h : EnAt w b o e) (hb : w'.heap[b]? = w.heap[b]?) : EnAt w' b o e :=
  ⟨(World.cell?_of_block (a := ⟨b, o, none⟩) hb).trans h.c0, (World.cell?_of_block (a := ⟨b, o + 1, none⟩) hb).trans h.c1, (World.cell?_of_block (a := ⟨b, o + 2, none⟩) hb).trans h.c2, (World.cell?_of_block (a := ⟨b, o + 3, none⟩) hb).trans h.c3, (World.cell?_of_block (a := ⟨b, o + 4, none⟩) hb).trans h.c4⟩

/-- a slice that holds a row of entries -/
def RowIs (w : World) (v : Value) (l : List En) : Prop :=
  l.length ≤ maxLen ∧ ∃ p cap, v = .slice p l.length cap ∧ (l ≠ [] → ∃ b o, p = some ⟨b, o, none⟩ ∧ b < w.heap.size ∧ ∀ j (h : j < l.length), EnAt w b (o + j * 5) l[j])
theorem RowIs.blocks {w w' : World} {v : Value} {l : List En} (h : RowIs w v l) (hs : w.heap.size ≤ w'.heap.size) (hb : ∀ c, v.ownBlock = some c → c < w.heap.size → w'.heap[c]? = w.heap[c]?) : RowIs w' v l := by
  obtain ⟨h0, p, cap, rfl, h1⟩ := h
  refine ⟨h0, p, cap, rfl, fun hn => ?_⟩
  obtain ⟨b, o, rfl, hlt, hc⟩ := h1 hn
  exact ⟨b, o, rfl, Nat.lt_of_lt_of_le hlt hs, fun j hj => (hc j hj).of_block (hb b rfl hlt)⟩
theorem RowIs.below {w w' : World} {v : Value} {l : List En} (h : RowIs w v l) (hb : Below w.heap.size w w') : RowIs w' v l :=
  h.blocks hb.size (fun c _ hc => hb.block c hc)
theorem RowIs.nil (w : World) : RowIs w (.slice none 0 0) [] := ⟨by simp, none, 0, rfl, fun h => absurd rfl h⟩
/-- a row that the call owns is one -/
theorem RowIs.own {w : World} {B : Nat} {v : Value} {l : List En} (h : w.ownsRow B 46 5 v l.length (rowC l)) : RowIs w v l := by
  have hcell : ∀ g, v.ownBlock = some g → ∀ j u, (rowC l)[j]? = some u → w.cell? ⟨g, j, none⟩ = some u := fun g hg j u hu => by
    have := h.cells (g := g) hg j u hu
    simpa [Addr.add_lit] using this
  rcases h.2 with ⟨rfl, h0⟩ | ⟨g, cap, cur, rfl, _, hg, hc1, hc2, _⟩
  · rw [List.length_eq_zero_iff.1 h0]
    exact RowIs.nil w
  · refine ⟨Nat.le_trans hc1 hc2, _, cap, rfl, fun _ => ⟨g, 0, rfl, (Array.getElem?_eq_some_iff.1 hg).1, fun j hj => ?_⟩⟩
    obtain ⟨a0, a1, a2, a3, a4⟩ := rowC_get l j hj
    exact ⟨by simpa using hcell g rfl _ _ a0, by simpa using hcell g rfl _ _ a1, by simpa using hcell g rfl _ _ a2, by simpa using hcell g rfl _ _ a3, by simpa using hcell g rfl _ _ a4⟩
theorem RowIs.cells {w : World} {b o cap : Nat} {l : List En} (hc : ∀ j (h : j < l.length), EnAt w b (o + j * 5) l[j]) : ∀ i u, (rowC l)[i]? = some u → w.cell? ⟨b, o + i, none⟩ = some u := by
  intro i u hu
  have hi : i < l.length * 5 := by
    have := (List.getElem?_eq_some_iff.1 hu).1
    rwa [rowC_length] at this
  have hj : i / 5 < l.length := by omega
  obtain ⟨a0, a1, a2, a3, a4⟩ := rowC_get l (i / 5) hj
  have hr : i = i / 5 * 5 + i % 5 := by omega
  have h5 : i % 5 < 5 := by omega
  obtain ⟨x0, x1, x2, x3, x4⟩ := hc (i / 5) hj
  generalize i % 5 = r at hr h5
  rw [hr] at hu ⊢
  match r, h5 with
  | 0, _ => rw [Nat.add_zero] at hu ⊢; rw [a0] at hu; rw [← Option.some.inj hu]; exact x0
  | 1, _ => rw [a1] at hu; rw [← Option.some.inj hu, ← Nat.add_assoc]; exact x1
  | 2, _ => rw [a2] at hu; rw [← Option.some.inj hu, ← Nat.add_assoc]; exact x2
  | 3, _ => rw [a3] at hu; rw [← Option.some.inj hu, ← Nat.add_assoc]; exact x3
  | 4, _ => rw [a4] at hu; rw [← Option.some.inj hu, ← Nat.add_assoc]; exact x4

theorem infoEn : (Tryd.prog.info? 46).map (fun i => (i.zero, i.size, i.bytes)) = some (some (.agg #[.int .i64 0, .int .i64 0, .int .i64 0, .bool false, .string ⟨#[]⟩]), 5, 48) := by kernel_rfl
end Go.Proofs.YtippdgmgmenboagDoor

namespace Go.Proofs.YtippdgmgmenboagDoor
set_option linter.unusedVariables false
set_option linter.unusedSimpArgs false
open Go.RowKit

theorem badRow_step (l : List En) (j : Nat) (p : Option Int) (h : j < l.length) : badRow p (l.drop j) = if l[j].bad ≠ 0 then l[j].bad else if (match p with | some q => decide (l[j].k ≤ q) | none => false) = true then 3 else badRow (some l[j].k) (l.drop (j + 1)) := by
  rw [List.drop_eq_getElem_cons h]
  cases p <;> rfl
theorem badRow_bad {l : List En} {j : Nat} {p : Option Int} (h : j < l.length) (hb : l[j].bad ≠ 0) : badRow p (l.drop j) = l[j].bad := by rw [badRow_step l j p h, if_pos hb]
theorem badRow_low {l : List En} {j : Nat} {q : Int} (h : j < l.length) (hb : l[j].bad = 0) (hk : l[j].k ≤ q) : badRow (some q) (l.drop j) = 3 := by rw [badRow_step l j _ h, if_neg (by simpa using hb), if_pos (by simpa using hk)]
theorem badRow_next {l : List En} {j : Nat} {q : Int} (h : j < l.length) (hb : l[j].bad = 0) (hk : ¬ l[j].k ≤ q) : badRow (some q) (l.drop j) = badRow (some l[j].k) (l.drop (j + 1)) := by rw [badRow_step l j _ h, if_neg (by simpa using hb), if_neg (by simpa using hk)]
theorem badRow_first {l : List En} {j : Nat} (h : j < l.length) (hb : l[j].bad = 0) : badRow none (l.drop j) = badRow (some l[j].k) (l.drop (j + 1)) := by rw [badRow_step l j _ h, if_neg (by simpa using hb), if_neg (by simp)]

/-- the key ahead of a place -/
def keyAhead (l : List En) (j : Nat) : Option Int := if h : 0 < j ∧ j - 1 < l.length then some (l[j - 1]'h.2).k else none
theorem keyAhead_zero (l : List En) : keyAhead l 0 = none := by simp [keyAhead]
theorem keyAhead_succ (l : List En) (j : Nat) (h : j < l.length) : keyAhead l (j + 1) = some l[j].k := by simp [keyAhead, h]

set_option maxHeartbeats 4000000 in
theorem cacheCheck_c (v : Value) (l : List En) (w : World) (hr : RowIs w v l) :
    Calls Tryd.prog 22 #[v] w fun e w' => e = .returned (eV (badL l)) ∧ Below w.heap.size w w' := by
  obtain ⟨hlen, p, cap, rfl, hrow⟩ := hr
  by_cases h8 : 8 < l.length
  · have e : badL l = 4 := by rw [badL, if_pos h8]
    rw [e]
    have h8i : (8 : Int) < (l.length : Int) := by omega
    go_enter Tryd.func22, Tryd.ntmps22
    go_wp2_with fail
    go_ret
    exact ⟨rfl, by go_grown⟩
  · have E : Hid (badL l = badRow (keyAhead l 0) (l.drop 0)) := by
      show badL l = _
      rw [badL, if_neg h8, keyAhead_zero, List.drop_zero]
    obtain ⟨R, HR⟩ : ∃ R, Hid (badL l = R) := ⟨_, rfl⟩
    rw [HR.out]
    have HRow : Hid (l ≠ [] → ∃ b o, p = some ⟨b, o, none⟩ ∧ b < w.heap.size ∧ ∀ j (h : j < l.length), EnAt w b (o + j * 5) l[j]) := hrow
    clear hrow
    have h8i : ¬ (8 : Int) < (l.length : Int) := by omega
    generalize hn : l.length = n at hlen h8 h8i ⊢
    have HN : Hid (l.length = n) := hn
    clear hn
    go_enter Tryd.func22, Tryd.ntmps22
    go_wp2_with fail
    go_loopw [12] (fun i wr => ∃ j : Nat, j ≤ n ∧ i = .int .i64 j ∧ Hid (R = badRow (keyAhead l j) (l.drop j)) ∧ Hid (Below w.heap.size w wr)) (fun i _ => n - (intOf i).toNat)
    case atStart => exact ⟨0, Nat.zero_le _, rfl, HR.out.symm.trans E.out, Below.refl _ _⟩
    case round =>
      obtain ⟨j, hj, rfl, HJ, HB⟩ := hrel
      by_cases hlt : j < n
      · have hl : l ≠ [] := by intro h; have := HN.out; rw [h] at this; simp at this; omega
        obtain ⟨b, o, rfl, hbw, hat⟩ := HRow.out hl
        have hjl : j < l.length := by rw [HN.out]; exact hlt
        have HA : Hid (∀ j (h : j < l.length), EnAt wr b (o + j * 5) l[j]) := fun j h => (hat j h).of_block (HB.out.block b hbw)
        clear hat
        have hws := HB.out.size
        have hbr : b < wr.heap.size := by omega
        obtain ⟨x, HX⟩ : ∃ x, Hid (l[j] = x) := ⟨l[j], show l[j] = l[j] from rfl⟩
        obtain ⟨c0, c1, c2, c3, c4⟩ := HA.out j hjl
        rw [HX.out] at c0 c1 c2 c3 c4
        obtain ⟨k, vv, a, g, t⟩ := x
        dsimp only at c0 c1 c2 c3 c4
        obtain ⟨m, HM⟩ : ∃ m, Hid (bad k vv a g t = m) := ⟨_, rfl⟩
        have HLb : Hid (l[j].bad = m) := by
          show l[j].bad = m
          rw [HX.out]
          exact HM.out
        have HLk : Hid (l[j].k = k) := by
          show l[j].k = k
          rw [HX.out]
        clear HX
        go_wp2_with fail
        by_cases hm : m = 0
        · subst hm
          refine (check_ok HM.out _).mono ?_
          rintro e w1 ⟨rfl, hb⟩
          have B1 : Hid (Below w.heap.size w w1) := (HB.out.alloc hws _).trans (hb.mono (by simp; omega))
          obtain ⟨d0, d1, d2, d3, d4, df⟩ := (box_new wr k vv a g t wr.heap.size rfl).below hb (by simp)
          have HA1 : Hid (∀ j (h : j < l.length), EnAt w1 b (o + j * 5) l[j]) := fun j h => ((HA.out j h).of_block (Below.heap_alloc _ _ _ hbr)).of_block (hb.block b (by simp; omega))
          clear hb c0 c1 c2 c3 c4 HA HM
          by_cases h0 : j = 0
          · subst h0
            rw [keyAhead_zero, badRow_first hjl HLb.out, HLk.out] at HJ
            go_upto_region 9 with fail
            go_region
            all_goals go_wp2_with fail
            all_goals go_roundw
            case rel => exact ⟨1, by omega, by go_num, by rw [show (1 : Nat) = 0 + 1 from rfl, keyAhead_succ l 0 hjl, HLk.out]; exact HJ, B1.out.drew⟩
            case measure => simp [intOf]; omega
          · obtain ⟨i, rfl⟩ : ∃ i, j = i + 1 := ⟨j - 1, by omega⟩
            have hil : i < l.length := by omega
            obtain ⟨q, HQ⟩ : ∃ q, Hid (l[i].k = q) := ⟨l[i].k, show l[i].k = l[i].k from rfl⟩
            rw [keyAhead_succ l i hil, HQ.out] at HJ
            have y0 := (HA1.out i hil).c0
            rw [HQ.out] at y0
            have g0 : (0 : Int) < ((i : Int) + 1) := by omega
            have g1 : ((i : Int) + 1 - 1) = i := by omega
            have g2 : (i : Int) < (n : Int) := by omega
            by_cases hk : k ≤ q
            · rw [badRow_low hjl HLb.out (by rw [HLk.out]; exact hk)] at HJ
              go_upto_region 9 with fail
              go_region
              all_goals go_wp2_with fail
              all_goals go_ret
              all_goals exact ⟨by rw [HJ.out]; rfl, B1.out.drew⟩
            · rw [badRow_next hjl HLb.out (by rw [HLk.out]; exact hk), HLk.out] at HJ
              go_upto_region 9 with fail
              go_region
              all_goals go_wp2_with fail
              all_goals go_roundw
              case rel => exact ⟨i + 1 + 1, by omega, by go_num, by rw [keyAhead_succ l (i + 1) hjl, HLk.out]; exact HJ, B1.out.drew⟩
              case measure => simp [intOf]; omega
        · refine (check_err HM.out hm _).mono ?_
          rintro e w1 ⟨rfl, hb⟩
          have B1 : Hid (Below w.heap.size w w1) := (HB.out.alloc hws _).trans (hb.mono (by simp; omega))
          clear hb
          rw [badRow_bad hjl (by rw [HLb.out]; exact hm), HLb.out] at HJ
          go_wp2_with fail
          go_ret
          exact ⟨by rw [HJ.out]; simp [eV, hm], B1.out⟩
      · obtain rfl : j = n := by omega
        have HR0 : Hid (R = 0) := by
          show R = 0
          rw [HJ.out, List.drop_eq_nil_of_le (by rw [HN.out]; exact Nat.le_refl _)]
          cases keyAhead l j <;> rfl
        go_wp2_with fail
        go_ret
        exact ⟨by rw [HR0.out]; rfl, HB.out⟩
end Go.Proofs.YtippdgmgmenboagDoor

namespace Go.Proofs.YtippdgmgmenboagDoor
set_option linter.unusedVariables false
set_option linter.unusedSimpArgs false
open Go.RowKit

def cmpI (x y : Int) : Int := if x < y then -1 else if y < x then 1 else 0
theorem compare_c (x y : Int) (w : World) : Calls Tryd.prog 50 #[.int .i64 x, .int .i64 y] w fun e w' => e = .returned (.int .i64 (cmpI x y)) ∧ w' = w := by
  by_cases h1 : x < y
  · go_enter Tryd.func50, Tryd.ntmps50
    go_wp2
    go_ret
    exact ⟨by simp [cmpI, h1], rfl⟩
  · by_cases h2 : y < x
    · go_enter Tryd.func50, Tryd.ntmps50
      go_wp2
      go_ret
      exact ⟨by rw [cmpI, if_neg (by omega), if_pos h2]; rfl, rfl⟩
    · go_enter Tryd.func50, Tryd.ntmps50
      go_wp2
      go_ret
      exact ⟨by rw [cmpI, if_neg (by omega), if_neg (by omega)]; rfl, rfl⟩

theorem below_drewN (B : Nat) (w : World) (n : Nat) : Below B w (w.drewN n) := ⟨rfl, rfl, rfl, Nat.le_refl _, fun _ _ => rfl⟩
/-- the two boxes that the closure has captured, and the row -/
structure Caught (w : World) (kb lb : Nat) (key : Int) (b o cap : Nat) (l : List En) : Prop where
  ck : w.cell? ⟨kb, 0, none⟩ = some (.int .i64 key)
  cl : w.cell? ⟨lb, 0, none⟩ = some (.slice (some ⟨b, o, none⟩) l.length cap)
  row : ∀ j (h : j < l.length), EnAt w b (o + j * 5) l[j]
  lt : b < w.heap.size
theorem Caught.below {w w' : World} {kb lb : Nat} {key : Int} {b o cap : Nat} {l : List En} (h : Caught w kb lb key b o cap l) (hb : Below w.heap.size w w') : Caught w' kb lb key b o cap l :=
  ⟨(World.cell?_of_block (a := ⟨kb, 0, none⟩) (hb.block kb (World.block_lt_of_cell? w _ h.ck))).trans h.ck, (World.cell?_of_block (a := ⟨lb, 0, none⟩) (hb.block lb (World.block_lt_of_cell? w _ h.cl))).trans h.cl, fun j hj => (h.row j hj).of_block (hb.block b h.lt), Nat.lt_of_lt_of_le h.lt hb.size⟩

set_option maxHeartbeats 2000000 in
theorem closure_c (i : Nat) (kb lb : Nat) (key : Int) (b o cap : Nat) (l : List En) (w : World) (hi : i < l.length) (h : Caught w kb lb key b o cap l) :
    Calls Tryd.prog 49 #[.int .i64 i, .pointer (some ⟨kb, 0, none⟩), .pointer (some ⟨lb, 0, none⟩)] w fun e w' => e = .returned (.int .i64 (cmpI key l[i].k)) ∧ Below w.heap.size w w' := by
  obtain ⟨ck, cl, row, lt⟩ := h
  have c0 := (row i hi).c0
  clear row
  have hin : (i : Int) < (l.length : Int) := by omega
  generalize l[i].k = y at c0 ⊢
  generalize l.length = n at cl hi hin ⊢
  go_enter Tryd.func49, Tryd.ntmps49
  go_wp2_with fail
  go_quiet (first | (go_at_call 50; exact Calls.quiet_of_same (compare_c _ _ _)))
  go_wp2_with fail
  go_ret
  exact ⟨rfl, below_drewN _ _ _⟩

set_option maxHeartbeats 4000000 in
/-- sort.Find over that closure: m keys are less -/
theorem find_c (kb lb : Nat) (key : Int) (b o cap : Nat) (l : List En) (m : Nat) (is : Bool) (w : World) (h8 : l.length ≤ 8) (h : l ≠ [] → Caught w kb lb key b o cap l) (hm : m ≤ l.length)
    (h1 : ∀ j (hj : j < l.length), j < m → l[j].k < key) (h2 : ∀ j (hj : j < l.length), m ≤ j → key ≤ l[j].k) (h3 : is = decide (∃ hj : m < l.length, l[m].k = key)) :
    Calls Tryd.prog 48 #[.int .i64 l.length, .func (.func 49) #[] #[.pointer (some ⟨kb, 0, none⟩), .pointer (some ⟨lb, 0, none⟩)]] w fun e w' => e = .returned (.tuple #[.int .i64 m, .bool is]) ∧ Below w.heap.size w w' := by
  have HC : Hid (l ≠ [] → Caught w kb lb key b o cap l) := h
  have H1 : Hid (∀ j (hj : j < l.length), j < m → l[j].k < key) := h1
  have H2 : Hid (∀ j (hj : j < l.length), m ≤ j → key ≤ l[j].k) := h2
  have H3 : Hid (is = decide (∃ hj : m < l.length, l[m].k = key)) := h3
  clear h h1 h2 h3
  obtain ⟨n, HN⟩ : ∃ n, Hid (l.length = n) := ⟨l.length, show l.length = l.length from rfl⟩
  rw [HN.out] at h8 hm ⊢
  go_enter Tryd.func48, Tryd.ntmps48
  go_wp2_with fail
  go_loopw [4, 6] (fun s4 s6 wr => ∃ lo hi : Nat, s4 = .int .i64 lo ∧ s6 = .int .i64 hi ∧ lo ≤ m ∧ m ≤ hi ∧ hi ≤ n ∧ Hid (Below w.heap.size w wr)) (fun s4 s6 _ => (intOf s6).toNat - (intOf s4).toNat)
  case atStart => exact ⟨0, n, rfl, rfl, Nat.zero_le _, hm, Nat.le_refl _, Below.refl _ _⟩
  case round =>
    obtain ⟨lo, hi, rfl, rfl, hlm, hmh, hhn, HB⟩ := hrel
    by_cases hlt : lo < hi
    · have hl : l ≠ [] := by intro h; have := HN.out; rw [h] at this; simp at this; omega
      have hmid : (lo + hi) / 2 < l.length := by rw [HN.out]; omega
      have hc := closure_c ((lo + hi) / 2) kb lb key b o cap l wr hmid ((HC.out hl).below HB.out)
      rw [show (((lo + hi) / 2 : Nat) : Int) = ((lo : Int) + (hi : Int)) / 2 by omega] at hc
      have HCC : Hid _ := hc
      clear hc
      by_cases hp : (lo + hi) / 2 < m
      · have hk := H1.out _ hmid hp
        have hcm : cmpI key l[(lo + hi) / 2].k = 1 := by rw [cmpI, if_neg (by omega), if_pos hk]
        go_wp2_with fail
        refine Calls.mono HCC.out ?_
        rintro e w1 ⟨rfl, hb⟩
        rw [hcm]
        have B1 : Hid (Below w.heap.size w w1) := HB.out.trans (hb.mono HB.out.size)
        clear hb hcm hk
        go_wp2_with fail
        go_roundw
        case rel => exact ⟨(lo + hi) / 2 + 1, hi, by go_num, rfl, by omega, hmh, hhn, B1⟩
        case measure => simp [intOf]; omega
      · have hk := H2.out _ hmid (by omega)
        obtain ⟨c, hcm, hc0⟩ : ∃ c, cmpI key l[(lo + hi) / 2].k = c ∧ c ≤ 0 := by
          refine ⟨_, rfl, ?_⟩
          rw [cmpI]
          split
          · omega
          · rw [if_neg (by omega)]; omega
        go_wp2_with fail
        refine Calls.mono HCC.out ?_
        rintro e w1 ⟨rfl, hb⟩
        rw [hcm]
        have B1 : Hid (Below w.heap.size w w1) := HB.out.trans (hb.mono HB.out.size)
        clear hb hcm hk
        go_wp2_with fail
        go_roundw
        case rel => exact ⟨lo, (lo + hi) / 2, rfl, by go_num, hlm, by omega, by omega, B1⟩
        case measure => simp [intOf]; omega
    · obtain rfl : lo = m := by omega
      by_cases hmn : lo < n
      · have hl : l ≠ [] := by intro h; have := HN.out; rw [h] at this; simp at this; omega
        have hll : lo < l.length := by rw [HN.out]; omega
        have HCC : Hid _ := closure_c lo kb lb key b o cap l wr hll ((HC.out hl).below HB.out)
        have hmi : (lo : Int) < (n : Int) := by omega
        have hk := H2.out _ hll (Nat.le_refl _)
        obtain ⟨c, hcm, hc0⟩ : ∃ c, cmpI key l[lo].k = c ∧ (c = 0 ↔ l[lo].k = key) := by
          refine ⟨_, rfl, ?_⟩
          rw [cmpI]
          split
          · omega
          · rw [if_neg (by omega)]; omega
        have HI : Hid (is = (c == 0)) := by
          show is = (c == 0)
          rw [H3.out]
          by_cases hz : c = 0
          · rw [hz, decide_eq_true ⟨hll, hc0.1 hz⟩]; rfl
          · rw [decide_eq_false (fun ⟨_, h⟩ => hz (hc0.2 h))]; simp [hz]
        clear hc0 hk
        go_wp2_with fail
        refine Calls.mono HCC.out ?_
        rintro e w1 ⟨rfl, hb⟩
        rw [hcm]
        have B1 : Hid (Below w.heap.size w w1) := HB.out.trans (hb.mono HB.out.size)
        clear hb hcm
        go_wp2_with fail
        go_ret2
        exact ⟨by rw [HI.out]; rfl, B1.out⟩
      · have hmi : ¬ (lo : Int) < (n : Int) := by omega
        have hmd : decide ((lo : Int) < (n : Int)) = false := decide_eq_false hmi
        have HI : Hid (is = false) := by
          show is = false
          rw [H3.out, decide_eq_false (fun ⟨h, _⟩ => hmn (by rw [← HN.out]; exact h))]
        go_wp2_with fail
        go_ret2
        exact ⟨by rw [HI.out]; rfl, HB.out⟩

/-- how many keys of a rising row are less -/
def placeE : List En → Int → Nat
  | [], _ => 0
  | e :: l, key => if e.k < key then placeE l key + 1 else 0
/-- what a row has of a key -/
def getE (l : List En) (key : Int) : Option En := l.find? (fun e => e.k == key)
/-- keys rising -/
def Rising (l : List En) : Prop := l.Pairwise (fun x y => x.k < y.k)
theorem placeE_le (l : List En) (key : Int) : placeE l key ≤ l.length := by
  induction l with
  | nil => simp [placeE]
  | cons e l ih => simp only [placeE]; split <;> simp <;> omega
theorem placeE_less (l : List En) (key : Int) (j : Nat) (hj : j < l.length) (h : j < placeE l key) : l[j].k < key := by
  induction l generalizing j with
  | nil => simp at hj
  | cons e l ih =>
    simp only [placeE] at h
    split at h
    · cases j with
      | zero => simpa
      | succ j => exact ih j (by simpa using hj) (by omega)
    · omega
theorem placeE_more (l : List En) (key : Int) (hs : Rising l) (j : Nat) (hj : j < l.length) (h : placeE l key ≤ j) : key ≤ l[j].k := by
  induction l generalizing j with
  | nil => simp at hj
  | cons e l ih =>
    have hs' := List.pairwise_cons.1 hs
    simp only [placeE] at h
    split at h
    · cases j with
      | zero => omega
      | succ j => exact ih hs'.2 j (by simpa using hj) (by omega)
    · cases j with
      | zero => simp; omega
      | succ j =>
        have hj' : j < l.length := by simpa using hj
        have := hs'.1 l[j] (List.getElem_mem _)
        simp only [List.getElem_cons_succ]
        omega
theorem getE_place (l : List En) (key : Int) (hs : Rising l) : (∃ hj : placeE l key < l.length, l[placeE l key].k = key) ↔ (getE l key).isSome = true := by
  constructor
  · rintro ⟨hj, h⟩
    rw [getE, List.find?_isSome]
    exact ⟨_, List.getElem_mem hj, by simpa using h⟩
  · intro h
    rw [getE, List.find?_isSome] at h
    obtain ⟨x, hx, hk⟩ := h
    obtain ⟨j, hj, rfl⟩ := List.getElem_of_mem hx
    have hk : l[j].k = key := by simpa using hk
    have h1 : placeE l key ≤ j := by
      rcases Nat.lt_or_ge j (placeE l key) with h | h
      · have := placeE_less l key j hj h; omega
      · exact h
    have h2 : placeE l key < l.length := by omega
    refine ⟨h2, ?_⟩
    have h3 := placeE_more l key hs _ h2 (Nat.le_refl _)
    rcases Nat.lt_or_ge (placeE l key) j with h | h
    · have := List.pairwise_iff_getElem.1 hs _ _ h2 hj h
      omega
    · have : placeE l key = j := by omega
      simp only [this]; exact hk
theorem getE_some {l : List En} {key : Int} {x : En} (hs : Rising l) (h : getE l key = some x) : ∃ hj : placeE l key < l.length, l[placeE l key] = x ∧ x.k = key := by
  obtain ⟨hj, hk⟩ := (getE_place l key hs).2 (by rw [h]; rfl)
  refine ⟨hj, ?_, ?_⟩
  · obtain ⟨i, hi, rfl⟩ := List.getElem_of_mem (List.mem_of_find?_eq_some h)
    have hx : l[i].k = key := by simpa using List.find?_some h
    rcases Nat.lt_trichotomy (placeE l key) i with h' | h' | h'
    · have := List.pairwise_iff_getElem.1 hs _ _ hj hi h'; omega
    · simp only [h']
    · have := List.pairwise_iff_getElem.1 hs _ _ hi hj h'; omega
  · simpa using List.find?_some h

def lowK (p : Option Int) (k : Int) : Bool := match p with | some q => decide (k ≤ q) | none => false
theorem badRow_cons (p : Option Int) (e : En) (l : List En) : badRow p (e :: l) = if e.bad ≠ 0 then e.bad else if lowK p e.k = true then 3 else badRow (some e.k) l := by cases p <;> rfl
theorem badRow_good {p : Option Int} {l : List En} (h : badRow p l = 0) : (∀ e ∈ l, e.bad = 0) ∧ Rising l ∧ ∀ q, p = some q → ∀ e ∈ l, q < e.k := by
  induction l generalizing p with
  | nil => exact ⟨by simp, List.Pairwise.nil, by simp⟩
  | cons e l ih =>
    rw [badRow_cons] at h
    by_cases h0 : e.bad = 0
    · rw [if_neg (by simpa using h0)] at h
      split at h
      · omega
      · rename_i hp
        obtain ⟨i1, i2, i3⟩ := ih h
        refine ⟨?_, List.pairwise_cons.2 ⟨fun y hy => i3 e.k rfl y hy, i2⟩, ?_⟩
        · intro x hx
          rcases List.mem_cons.1 hx with rfl | hx
          · exact h0
          · exact i1 x hx
        · rintro q rfl x hx
          have hq : q < e.k := by simpa [lowK] using hp
          rcases List.mem_cons.1 hx with rfl | hx
          · exact hq
          · have := i3 e.k rfl x hx; omega
    · rw [if_pos h0] at h
      exact absurd h h0
theorem badRow_zero {p : Option Int} {l : List En} (h1 : ∀ e ∈ l, e.bad = 0) (h2 : Rising l) (h3 : ∀ q, p = some q → ∀ e ∈ l, q < e.k) : badRow p l = 0 := by
  induction l generalizing p with
  | nil => cases p <;> rfl
  | cons e l ih =>
    rw [badRow_cons, if_neg (by simpa using h1 e (by simp)), if_neg, ih (fun x hx => h1 x (by simp [hx])) (List.pairwise_cons.1 h2).2 (fun q hq x hx => by rw [← Option.some.inj hq]; exact (List.pairwise_cons.1 h2).1 x hx)]
    cases p with
    | none => simp [lowK]
    | some q => have := h3 q rfl e (by simp); simpa [lowK] using this
/-- a right cache -/
structure GoodL (l : List En) : Prop where
  len : l.length ≤ 8
  all : ∀ e ∈ l, e.bad = 0
  rise : Rising l
theorem badL_good {l : List En} (h : badL l = 0) : GoodL l := by
  unfold badL at h
  split at h
  · omega
  · obtain ⟨h1, h2, _⟩ := badRow_good h
    exact ⟨by omega, h1, h2⟩
theorem GoodL.bad {l : List En} (h : GoodL l) : badL l = 0 := by
  rw [badL, if_neg (by have := h.len; omega)]
  exact badRow_zero h.all h.rise (by simp)

set_option maxHeartbeats 2000000 in
theorem place_c (v : Value) (l : List En) (key : Int) (w : World) (hr : RowIs w v l) (hg : GoodL l) :
    Calls Tryd.prog 35 #[v, .int .i64 key] w fun e w' => e = .returned (.tuple #[.int .i64 (placeE l key), .bool (getE l key).isSome]) ∧ Below w.heap.size w w' := by
  have HG : Hid (GoodL l) := hg
  have h8 := hg.len
  have HR : Hid (RowIs w v l) := hr
  obtain ⟨hlen, p, cap, rfl, hrow⟩ := hr
  have HRow : Hid (l ≠ [] → ∃ b o, p = some ⟨b, o, none⟩ ∧ b < w.heap.size ∧ ∀ j (h : j < l.length), EnAt w b (o + j * 5) l[j]) := hrow
  clear hrow hg
  obtain ⟨is, HI⟩ : ∃ is, Hid ((getE l key).isSome = is) := ⟨_, rfl⟩
  rw [HI.out]
  have H3 : Hid (is = decide (∃ hj : placeE l key < l.length, l[placeE l key].k = key)) := by
    show is = _
    rw [← HI.out]
    have := getE_place l key HG.out.rise
    cases hq : (getE l key).isSome
    · rw [decide_eq_false]
      rw [this, hq]; simp
    · rw [decide_eq_true]
      rw [this, hq]
  obtain ⟨m, HM⟩ : ∃ m, Hid (placeE l key = m) := ⟨_, rfl⟩
  have hm1 := placeE_le l key
  have hm2 := placeE_less l key
  have hm3 := placeE_more l key HG.out.rise
  have h3 := H3.out
  simp only [HM.out] at hm1 hm2 hm3 h3
  have HC : Hid (l ≠ [] → ∃ b o c, ∀ w', Below (w.heap.size + 2) ((w.alloc (.cells #[.slice p l.length cap] 22)).alloc (.cells #[.int .i64 key] 3)) w' → Caught w' (w.heap.size + 1) w.heap.size key b o c l) := by
    intro hl
    obtain ⟨b, o, rfl, hbw, hat⟩ := HRow.out hl
    refine ⟨b, o, cap, fun w' hw' => ?_⟩
    have hc : Caught ((w.alloc (.cells #[.slice (some ⟨b, o, none⟩) l.length cap] 22)).alloc (.cells #[.int .i64 key] 3)) (w.heap.size + 1) w.heap.size key b o cap l := by
      refine ⟨by simp, by simp, fun j hj => ((hat j hj).of_block (Below.heap_alloc _ _ _ hbw)).of_block (Below.heap_alloc _ _ _ (by simp; omega)), by simp; omega⟩
    exact hc.below (hw'.mono (by simp))
  rw [HM.out]
  have hfind : ∀ W, Below (w.heap.size + 2) ((w.alloc (.cells #[.slice p l.length cap] 22)).alloc (.cells #[.int .i64 key] 3)) W → Calls Tryd.prog 48 #[.int .i64 l.length, .func (.func 49) #[] #[.pointer (some ⟨w.heap.size + 1, 0, none⟩), .pointer (some ⟨w.heap.size, 0, none⟩)]] W fun e w' => e = .returned (.tuple #[.int .i64 m, .bool is]) ∧ Below W.heap.size W w' := by
    intro W hW
    by_cases hl : l = []
    · exact find_c _ _ key 0 0 0 l m is W h8 (fun h => absurd hl h) hm1 (fun j hj h => hm2 j hj h) (fun j hj h => hm3 j hj h) h3
    · obtain ⟨b, o, c, hc⟩ := HC.out hl
      exact find_c _ _ key b o c l m is W h8 (fun _ => hc W hW) hm1 (fun j hj h => hm2 j hj h) (fun j hj h => hm3 j hj h) h3
  have HF : Hid _ := hfind
  clear hfind hm1 hm2 hm3 h3
  go_enter Tryd.func35, Tryd.ntmps35
  go_wp2_with fail
  refine Calls.mono (HF.out _ (Below.refl _ _)) ?_
  rintro e w1 ⟨rfl, hb⟩
  have B1 : Hid (Below w.heap.size w w1) := Below.trans (by go_grown) (hb.mono (by simp; omega))
  clear hb
  go_wp2_with fail
  go_ret2
  exact ⟨rfl, B1.out⟩
end Go.Proofs.YtippdgmgmenboagDoor

namespace Go.Proofs.YtippdgmgmenboagDoor
set_option linter.unusedVariables false
set_option linter.unusedSimpArgs false
open Go.RowKit

def zeroEn : En := ⟨0, 0, 0, false, ⟨#[]⟩⟩
def isKeyB (k : Int) : Bool := decide (0 ≤ k) && decide (k < 8)
/-- Get, on lists -/
def cacheGet (l : List En) (key : Int) : En × Int :=
  if badL l ≠ 0 then (zeroEn, badL l) else if isKeyB key = false then (zeroEn, 1) else match getE l key with | none => (zeroEn, 5) | some x => (x, 0)

theorem isKey_c (k : Int) (w : World) : Calls Tryd.prog 34 #[.int .i64 k] w fun e w' => e = .returned (.bool (isKeyB k)) ∧ w' = w := by
  by_cases h : 0 ≤ k
  · have hd : decide (0 ≤ k) = true := by simpa using h
    go_enter Tryd.func34, Tryd.ntmps34
    go_wp2
    go_ret
    exact ⟨by simp [isKeyB, h], rfl⟩
  · have hd : decide (0 ≤ k) = false := by simpa using h
    go_enter Tryd.func34, Tryd.ntmps34
    go_wp2
    go_ret
    refine ⟨?_, rfl⟩
    have h' : ¬ 0 ≤ k := by omega
    simp [isKeyB, h']
theorem cacheCheck_o {v : Value} {l : List En} {w : World} {n : Int} (hr : RowIs w v l) (h : badL l = n) :
    Calls Tryd.prog 22 #[v] w fun e w' => e = .returned (eV n) ∧ Below w.heap.size w w' := by
  subst h
  exact cacheCheck_c v l w hr
theorem cacheCheck_ok {v : Value} {l : List En} {w : World} (hr : RowIs w v l) (h : badL l = 0) :
    Calls Tryd.prog 22 #[v] w fun e w' => e = .returned .nilIface ∧ Below w.heap.size w w' := cacheCheck_o hr h
theorem cacheCheck_err {v : Value} {l : List En} {w : World} {n : Int} (hr : RowIs w v l) (h : badL l = n) (hn : n ≠ 0) :
    Calls Tryd.prog 22 #[v] w fun e w' => e = .returned (.iface 55 (.int .i64 n)) ∧ Below w.heap.size w w' := by
  have c := cacheCheck_o hr h
  rw [eV, if_neg hn] at c
  exact c

set_option maxHeartbeats 4000000 in
theorem get_c (v : Value) (l : List En) (key : Int) (w : World) (hr : RowIs w v l) :
    Calls Tryd.prog 21 #[v, .int .i64 key] w fun e w' => e = .returned (.tuple #[(cacheGet l key).1.val, eV (cacheGet l key).2]) ∧ Below w.heap.size w w' := by
  have HR : Hid (RowIs w v l) := hr
  have hlt : w.heap.size < (w.alloc (.cells #[.int .i64 0, .int .i64 0, .int .i64 0, .bool false, .string ⟨#[]⟩] 46)).heap.size := by simp
  have HB0 : Hid (Below w.heap.size w (w.alloc (.cells #[.int .i64 0, .int .i64 0, .int .i64 0, .bool false, .string ⟨#[]⟩] 46))) := by show Below _ _ _; go_grown
  clear hr hlt
  by_cases hn : badL l = 0
  · have HN : Hid (badL l = 0) := hn
    have HG : Hid (GoodL l) := badL_good hn
    clear hn
    cases hk : isKeyB key
    · have HC : Hid (cacheGet l key = (zeroEn, 1)) := by
        show cacheGet l key = _
        rw [cacheGet, if_neg (by simpa using HN.out), if_pos hk]
      have HKb : Hid (isKeyB key = false) := hk
      clear hk
      rw [HC.out]
      go_enter Tryd.func21, Tryd.ntmps21
      go_wp2_with fail
      refine (cacheCheck_ok (HR.out.below HB0.out) HN.out).mono ?_
      rintro e w1 ⟨rfl, hb⟩
      have B1 : Hid (Below w.heap.size w w1) := HB0.out.trans (hb.mono (by simp))
      obtain ⟨e0, e1, e2, e3, e4, ef⟩ := (box_new w 0 0 0 false ⟨#[]⟩ w.heap.size rfl).below hb (by simp)
      clear hb
      go_wp2_with (go_at_call 34; refine (isKey_c _ _).mono ?_; rintro e w' ⟨rfl, rfl⟩; rw [HKb.out])
      refine bodyPost_ret (v := .tuple #[.agg #[.int .i64 0, .int .i64 0, .int .i64 0, .bool false, .string ⟨#[]⟩], .iface 55 (.int .i64 1)]) (by simp [results, Tryd.results21, go_sem, e0, e1, e2, e3, e4]) rfl ?_
      refine ⟨rfl, ?_⟩
      have hb := B1.out
      go_grown
    · have HKb : Hid (isKeyB key = true) := hk
      clear hk
      cases hg : getE l key with
      | none =>
        have HC : Hid (cacheGet l key = (zeroEn, 5)) := by
          show cacheGet l key = _
          rw [cacheGet, if_neg (by simpa using HN.out), if_neg (by rw [HKb.out]; simp), hg]
        have HGt : Hid (getE l key = none) := hg
        clear hg
        rw [HC.out]
        go_enter Tryd.func21, Tryd.ntmps21
        go_wp2_with fail
        refine (cacheCheck_ok (HR.out.below HB0.out) HN.out).mono ?_
        rintro e w1 ⟨rfl, hb⟩
        have B1 : Hid (Below w.heap.size w w1) := HB0.out.trans (hb.mono (by simp))
        have E1 : Hid (BoxAt w1 w.heap.size 0 0 0 false ⟨#[]⟩) := (box_new w 0 0 0 false ⟨#[]⟩ w.heap.size rfl).below hb (by simp)
        clear hb
        go_wp2_with (go_at_call 34; refine (isKey_c _ _).mono ?_; rintro e w' ⟨rfl, rfl⟩; rw [HKb.out])
        refine (place_c v l key _ (HR.out.below B1.out) HG.out).mono ?_
        rintro e w2 ⟨rfl, hb⟩
        rw [HGt.out]
        have B2 : Hid (Below w.heap.size w w2) := B1.out.trans (hb.mono B1.out.size)
        obtain ⟨e0, e1, e2, e3, e4, ef⟩ := E1.out.below hb E1.out.lt
        clear hb
        go_wp2_with fail
        refine bodyPost_ret (v := .tuple #[.agg #[.int .i64 0, .int .i64 0, .int .i64 0, .bool false, .string ⟨#[]⟩], .iface 55 (.int .i64 5)]) (by simp [results, Tryd.results21, go_sem, e0, e1, e2, e3, e4]) rfl ?_
        refine ⟨rfl, ?_⟩
        have hb := B2.out
        go_grown
      | some x =>
        have HC : Hid (cacheGet l key = (x, 0)) := by
          show cacheGet l key = _
          rw [cacheGet, if_neg (by simpa using HN.out), if_neg (by rw [HKb.out]; simp), hg]
        have HGt : Hid (getE l key = some x) := hg
        obtain ⟨hm, hx, hxk⟩ := getE_some HG.out.rise hg
        clear hg hxk
        obtain ⟨hlen, p, cap, rfl, hrow⟩ := HR.out
        obtain ⟨b, o, rfl, hbw, hat⟩ := hrow (fun h => by simp [h] at hm)
        have HAt : Hid (EnAt w b (o + placeE l key * 5) x) := by
          have := hat _ hm
          rw [hx] at this
          exact this
        clear hrow hat hx
        rw [HC.out]
        obtain ⟨m, HM⟩ : ∃ m, Hid (placeE l key = m) := ⟨_, rfl⟩
        rw [HM.out] at hm HAt
        obtain ⟨N, HNl⟩ : ∃ N, Hid (l.length = N) := ⟨_, rfl⟩
        rw [HNl.out] at hm HR hlen ⊢
        have hm1 : (m : Int) < (N : Int) := by omega
        obtain ⟨x0, x1, x2, x3, x4⟩ := x
        go_enter Tryd.func21, Tryd.ntmps21
        go_wp2_with fail
        refine (cacheCheck_ok (HR.out.below HB0.out) HN.out).mono ?_
        rintro e w1 ⟨rfl, hb⟩
        have B1 : Hid (Below w.heap.size w w1) := HB0.out.trans (hb.mono (by simp))
        have E1 : Hid (BoxAt w1 w.heap.size 0 0 0 false ⟨#[]⟩) := (box_new w 0 0 0 false ⟨#[]⟩ w.heap.size rfl).below hb (by simp)
        clear hb
        go_wp2_with (go_at_call 34; refine (isKey_c _ _).mono ?_; rintro e w' ⟨rfl, rfl⟩; rw [HKb.out])
        refine (place_c _ l key _ (HR.out.below B1.out) HG.out).mono ?_
        rintro e w2 ⟨rfl, hb⟩
        rw [HGt.out, HM.out]
        have B2 : Hid (Below w.heap.size w w2) := B1.out.trans (hb.mono B1.out.size)
        obtain ⟨e0, e1, e2, e3, e4, ef⟩ := E1.out.below hb E1.out.lt
        obtain ⟨c0, c1, c2, c3, c4⟩ := HAt.out.of_block (B2.out.block b hbw)
        dsimp only at c0 c1 c2 c3 c4
        have p1 : ¬ b = w.heap.size := by omega
        have p2 : ¬ w.heap.size = b := by omega
        clear hb
        go_wp2_with fail
        refine bodyPost_ret (v := .tuple #[.agg #[.int .i64 x0, .int .i64 x1, .int .i64 x2, .bool x3, .string x4], .nilIface]) (by simp [results, Tryd.results21, go_sem, e0, e1, e2, e3, e4]) rfl ?_
        refine ⟨rfl, ?_⟩
        have hb := B2.out
        go_grown
  · obtain ⟨n, HN⟩ : ∃ n, Hid (badL l = n) := ⟨_, rfl⟩
    have HC : Hid (cacheGet l key = (zeroEn, n)) := by
      show cacheGet l key = _
      rw [cacheGet, if_pos hn, HN.out]
    rw [HN.out] at hn
    rw [HC.out]
    go_enter Tryd.func21, Tryd.ntmps21
    go_wp2_with fail
    refine (cacheCheck_err (HR.out.below HB0.out) HN.out hn).mono ?_
    rintro e w1 ⟨rfl, hb⟩
    have B1 : Hid (Below w.heap.size w w1) := HB0.out.trans (hb.mono (by simp))
    obtain ⟨e0, e1, e2, e3, e4, ef⟩ := (box_new w 0 0 0 false ⟨#[]⟩ w.heap.size rfl).below hb (by simp)
    clear hb
    go_wp2_with fail
    refine bodyPost_ret (v := .tuple #[.agg #[.int .i64 0, .int .i64 0, .int .i64 0, .bool false, .string ⟨#[]⟩], .iface 55 (.int .i64 n)]) (by simp [results, Tryd.results21, go_sem, e0, e1, e2, e3, e4]) rfl ?_
    refine ⟨by simp [eV, hn]; rfl, ?_⟩
    have hb := B1.out
    go_grown
end Go.Proofs.YtippdgmgmenboagDoor

namespace Go.Proofs.YtippdgmgmenboagDoor
set_option linter.unusedVariables false
set_option linter.unusedSimpArgs false
open Go.RowKit

/-- an entry's number -/
def numE (x : En) : Nat := entH x.k.toNat x.v.toNat x.g x.t
/-- the number at a key's end -/
def leafN (l : List En) (k : Nat) : Nat := match getE l (k : Int) with
  | none => 0
  | some x => numE x
theorem leafN_none {l : List En} {k : Nat} (h : getE l (k : Int) = none) : leafN l k = 0 := by rw [leafN, h]
theorem leafN_some {l : List En} {k : Nat} {x : En} (h : getE l (k : Int) = some x) : leafN l k = numE x := by rw [leafN, h]
theorem numE_lt (x : En) : numE x < 4294967296 := hashL_lt _
theorem leafN_lt (l : List En) (k : Nat) : leafN l k < 4294967296 := by
  unfold leafN
  split
  · omega
  · exact numE_lt _
/-- how many rows a node is above the ends -/
def dep (i : Nat) : Nat := if i < 2 then 3 else if i < 4 then 2 else if i < 8 then 1 else 0
/-- a tree's node -/
def trN (f : Nat → Nat) (i : Nat) : Nat := nd pairH f (dep i) i
theorem dep_end {i : Nat} (h : 8 ≤ i) : dep i = 0 := by
  unfold dep
  rw [if_neg (by omega), if_neg (by omega), if_neg (by omega)]
theorem dep_two {i : Nat} (h0 : 1 ≤ i) (h : i < 8) : dep i = dep (2 * i) + 1 ∧ dep (2 * i + 1) = dep (2 * i) := by
  have h8 : i = 1 ∨ i = 2 ∨ i = 3 ∨ i = 4 ∨ i = 5 ∨ i = 6 ∨ i = 7 := by omega
  rcases h8 with rfl | rfl | rfl | rfl | rfl | rfl | rfl <;> exact ⟨rfl, rfl⟩
theorem trN_end (f : Nat → Nat) {i : Nat} (h : 8 ≤ i) : trN f i = f (i - 8) := by
  rw [trN, dep_end h]
  rfl
theorem trN_two (f : Nat → Nat) {i : Nat} (h0 : 1 ≤ i) (h : i < 8) : trN f i = pairH (trN f (2 * i)) (trN f (2 * i + 1)) := by
  obtain ⟨h1, h2⟩ := dep_two h0 h
  rw [trN, trN, trN, h2, h1]
  rfl
theorem trN_lt (f : Nat → Nat) (hf : ∀ k, f k < 4294967296) (i : Nat) : trN f i < 4294967296 := by
  unfold trN
  cases dep i with
  | zero => exact hf _
  | succ d => exact pairH_lt _ _
/-- the nodes behind i, the others 0 -/
def downTo (f : Nat → Nat) (i k : Nat) : Nat := if i < k then trN f k else 0
theorem downTo_lt (f : Nat → Nat) (hf : ∀ k, f k < 4294967296) (i k : Nat) : downTo f i k < 4294967296 := by
  unfold downTo
  split
  · exact trN_lt f hf k
  · omega
def updN (o : Nat → Nat) (k z : Nat) : Nat → Nat := fun j => if j = k then z else o j
theorem downTo_step (f : Nat → Nat) {i : Nat} (h : i + 1 < 8) : updN (downTo f (i + 1)) (i + 1) (pairH (downTo f (i + 1) (2 * (i + 1))) (downTo f (i + 1) (2 * (i + 1) + 1))) = downTo f i := by
  funext k
  have h1 : downTo f (i + 1) (2 * (i + 1)) = trN f (2 * (i + 1)) := if_pos (by omega)
  have h2 : downTo f (i + 1) (2 * (i + 1) + 1) = trN f (2 * (i + 1) + 1) := if_pos (by omega)
  rw [h1, h2, ← trN_two f (by omega) h]
  unfold updN downTo
  by_cases e : k = i + 1
  · subst e
    rw [if_pos rfl, if_pos (by omega)]
  · rw [if_neg e]
    by_cases e2 : i + 1 < k
    · rw [if_pos e2, if_pos (by omega)]
    · rw [if_neg e2, if_neg (by omega)]
/-- the ends of the first j entries, all else 0 -/
def endsOf (l : List En) (j k : Nat) : Nat := if 8 ≤ k then leafN (l.take j) (k - 8) else 0
theorem endsOf_zero (l : List En) : endsOf l 0 = fun _ => 0 := by
  funext k
  unfold endsOf
  split
  · rfl
  · rfl
theorem endsOf_all (l : List En) : endsOf l l.length = downTo (leafN l) 7 := by
  funext k
  unfold endsOf downTo
  rw [List.take_length]
  by_cases h : 8 ≤ k
  · rw [if_pos h, if_pos (by omega), trN_end _ h]
  · rw [if_neg h, if_neg (by omega)]
theorem getE_take {l : List En} (hr : Rising l) {j : Nat} (hj : j < l.length) (q : Int) : getE (l.take (j + 1)) q = if q = l[j].k then some l[j] else getE (l.take j) q := by
  have e : l.take (j + 1) = l.take j ++ [l[j]] := by rw [List.take_succ_eq_append_getElem hj]
  unfold getE
  rw [e, List.find?_append]
  by_cases h : q = l[j].k
  · rw [if_pos h]
    have hn : List.find? (fun e => e.k == q) (l.take j) = none := by
      rw [List.find?_eq_none]
      intro x hx hxq
      have hxk : x.k = q := by simpa using hxq
      obtain ⟨i, hi, rfl⟩ := List.mem_iff_getElem.1 hx
      rw [List.length_take] at hi
      have hlt := (List.pairwise_iff_getElem.1 hr) i j (by omega) hj (by omega)
      rw [List.getElem_take] at hxk
      have hlt' : l[i].k < l[j].k := hlt
      omega
    have hs : List.find? (fun e => e.k == q) [l[j]] = some l[j] := List.find?_cons_of_pos (by simp [h])
    rw [hn, hs]
    rfl
  · rw [if_neg h]
    have hs : List.find? (fun e => e.k == q) [l[j]] = none := by
      rw [List.find?_cons_of_neg (by simpa using fun h' => h h'.symm)]
      rfl
    rw [hs]
    cases List.find? (fun e => e.k == q) (l.take j) <;> rfl
theorem endsOf_step {l : List En} (hr : Rising l) {j K : Nat} (hj : j < l.length) (hK : l[j].k = (K : Int)) : updN (endsOf l j) (8 + K) (numE l[j]) = endsOf l (j + 1) := by
  funext k
  unfold updN endsOf
  by_cases h8 : 8 ≤ k
  · rw [if_pos h8, if_pos h8]
    unfold leafN
    rw [getE_take hr hj]
    by_cases e : k = 8 + K
    · rw [if_pos e, if_pos (by omega)]
    · rw [if_neg e, if_neg (by omega)]
  · rw [if_neg h8, if_neg h8, if_neg (by omega)]

/-- sixteen numbers at a block -/
structure SixAt (w : World) (b : Nat) (o : Nat → Nat) : Prop where
  cell : ∀ k, k < 16 → w.cell? ⟨b, k, none⟩ = some (.int .i64 (o k : Nat))
  fz : ∀ j, w.frozen? ⟨b, j, none⟩ = false
theorem SixAt.of_block {w w' : World} {b : Nat} {o : Nat → Nat} (h : SixAt w b o) (hb : w'.heap[b]? = w.heap[b]?) : SixAt w' b o :=
  ⟨fun k hk => (World.cell?_of_block (a := ⟨b, k, none⟩) hb).trans (h.cell k hk), fun j => (World.frozen?_of_block (a := ⟨b, j, none⟩) hb).trans (h.fz j)⟩
theorem SixAt.lt {w : World} {b : Nat} {o : Nat → Nat} (h : SixAt w b o) : b < w.heap.size := World.block_lt_of_cell? w _ (h.cell 0 (by omega))
theorem SixAt.below {w w' : World} {b B : Nat} {o : Nat → Nat} (h : SixAt w b o) (hb : Below B w w') (hB : b < B) : SixAt w' b o := h.of_block (hb.block b hB)
theorem SixAt.grown {w w' : World} {b : Nat} {o : Nat → Nat} (h : SixAt w b o) (hb : Below w.heap.size w w') : SixAt w' b o := h.below hb h.lt
theorem SixAt.alloc {w : World} {b : Nat} {o : Nat → Nat} (h : SixAt w b o) (x : Obj) : SixAt (w.alloc x) b o := h.of_block (Below.heap_alloc _ _ _ h.lt)
theorem SixAt.other {w : World} {b : Nat} {o : Nat → Nat} (h : SixAt w b o) (a : Addr) (hc : b ≠ a.block) (u : Value) : SixAt (w.setCell a u) b o := h.of_block (Below.heap_setCell _ _ _ b hc)
theorem SixAt.set {w : World} {b : Nat} {o : Nat → Nat} (h : SixAt w b o) (k : Nat) (hk : k < 16) (z : Nat) : SixAt (w.setCell ⟨b, k, none⟩ (.int .i64 (z : Nat))) b (updN o k z) := by
  refine ⟨fun j hj => ?_, fun j => by rw [World.frozen?_setCell]; exact h.fz j⟩
  by_cases e : j = k
  · subst e
    rw [updN, if_pos rfl]
    exact World.cell?_setCell_same _ _ _ (h.cell j hj)
  · rw [updN, if_neg e, World.cell?_setCell_other _ _ _ _ (by simp [e])]
    exact h.cell j hj
theorem six_new (w : World) (t : TypeId) (b : Nat) (h : b = w.heap.size) (o : Nat → Nat) : SixAt (w.alloc (.cells #[.int .i64 (o 0 : Nat), .int .i64 (o 1 : Nat), .int .i64 (o 2 : Nat), .int .i64 (o 3 : Nat), .int .i64 (o 4 : Nat), .int .i64 (o 5 : Nat), .int .i64 (o 6 : Nat), .int .i64 (o 7 : Nat), .int .i64 (o 8 : Nat), .int .i64 (o 9 : Nat), .int .i64 (o 10 : Nat), .int .i64 (o 11 : Nat), .int .i64 (o 12 : Nat), .int .i64 (o 13 : Nat), .int .i64 (o 14 : Nat), .int .i64 (o 15 : Nat)] t)) b o := by
  subst h
  refine ⟨fun k hk => ?_, fun j => by simp⟩
  have h8 : k = 0 ∨ k = 1 ∨ k = 2 ∨ k = 3 ∨ k = 4 ∨ k = 5 ∨ k = 6 ∨ k = 7 ∨ k = 8 ∨ k = 9 ∨ k = 10 ∨ k = 11 ∨ k = 12 ∨ k = 13 ∨ k = 14 ∨ k = 15 := by omega
  rcases h8 with rfl | rfl | rfl | rfl | rfl | rfl | rfl | rfl | rfl | rfl | rfl | rfl | rfl | rfl | rfl | rfl <;> simp
/-- sixteen numbers as a value -/
def ag16 (o : Nat → Nat) : Value := .agg #[.int .i64 (o 0 : Nat), .int .i64 (o 1 : Nat), .int .i64 (o 2 : Nat), .int .i64 (o 3 : Nat), .int .i64 (o 4 : Nat), .int .i64 (o 5 : Nat), .int .i64 (o 6 : Nat), .int .i64 (o 7 : Nat), .int .i64 (o 8 : Nat), .int .i64 (o 9 : Nat), .int .i64 (o 10 : Nat), .int .i64 (o 11 : Nat), .int .i64 (o 12 : Nat), .int .i64 (o 13 : Nat), .int .i64 (o 14 : Nat), .int .i64 (o 15 : Nat)]
/-- the sixteen cells of a block, stored -/
def set16 (w : World) (b : Nat) (o : Nat → Nat) : World := ((((((((((((((((w.setCell ⟨b, 0, none⟩ (.int .i64 (o 0 : Nat))).setCell ⟨b, 1, none⟩ (.int .i64 (o 1 : Nat))).setCell ⟨b, 2, none⟩ (.int .i64 (o 2 : Nat))).setCell ⟨b, 3, none⟩ (.int .i64 (o 3 : Nat))).setCell ⟨b, 4, none⟩ (.int .i64 (o 4 : Nat))).setCell ⟨b, 5, none⟩ (.int .i64 (o 5 : Nat))).setCell ⟨b, 6, none⟩ (.int .i64 (o 6 : Nat))).setCell ⟨b, 7, none⟩ (.int .i64 (o 7 : Nat))).setCell ⟨b, 8, none⟩ (.int .i64 (o 8 : Nat))).setCell ⟨b, 9, none⟩ (.int .i64 (o 9 : Nat))).setCell ⟨b, 10, none⟩ (.int .i64 (o 10 : Nat))).setCell ⟨b, 11, none⟩ (.int .i64 (o 11 : Nat))).setCell ⟨b, 12, none⟩ (.int .i64 (o 12 : Nat))).setCell ⟨b, 13, none⟩ (.int .i64 (o 13 : Nat))).setCell ⟨b, 14, none⟩ (.int .i64 (o 14 : Nat))).setCell ⟨b, 15, none⟩ (.int .i64 (o 15 : Nat)))
theorem upd16 (u o : Nat → Nat) (k : Nat) (h : k < 16) : updN (updN (updN (updN (updN (updN (updN (updN (updN (updN (updN (updN (updN (updN (updN (updN u 0 (o 0)) 1 (o 1)) 2 (o 2)) 3 (o 3)) 4 (o 4)) 5 (o 5)) 6 (o 6)) 7 (o 7)) 8 (o 8)) 9 (o 9)) 10 (o 10)) 11 (o 11)) 12 (o 12)) 13 (o 13)) 14 (o 14)) 15 (o 15) k = o k := by
  have h8 : k = 0 ∨ k = 1 ∨ k = 2 ∨ k = 3 ∨ k = 4 ∨ k = 5 ∨ k = 6 ∨ k = 7 ∨ k = 8 ∨ k = 9 ∨ k = 10 ∨ k = 11 ∨ k = 12 ∨ k = 13 ∨ k = 14 ∨ k = 15 := by omega
  rcases h8 with rfl | rfl | rfl | rfl | rfl | rfl | rfl | rfl | rfl | rfl | rfl | rfl | rfl | rfl | rfl | rfl <;> simp [updN]
theorem SixAt.set16 {w : World} {b : Nat} {u : Nat → Nat} (h : SixAt w b u) (o : Nat → Nat) : SixAt (set16 w b o) b o := by
  have h' := (((((((((((((((h.set 0 (by omega) (o 0)).set 1 (by omega) (o 1)).set 2 (by omega) (o 2)).set 3 (by omega) (o 3)).set 4 (by omega) (o 4)).set 5 (by omega) (o 5)).set 6 (by omega) (o 6)).set 7 (by omega) (o 7)).set 8 (by omega) (o 8)).set 9 (by omega) (o 9)).set 10 (by omega) (o 10)).set 11 (by omega) (o 11)).set 12 (by omega) (o 12)).set 13 (by omega) (o 13)).set 14 (by omega) (o 14)).set 15 (by omega) (o 15)
  exact ⟨fun k hk => (h'.cell k hk).trans (by rw [upd16 u o k hk]), h'.fz⟩
theorem set16_below {w w' : World} {B b : Nat} (h : Below B w w') (hb : B ≤ b) (o : Nat → Nat) : Below B w (set16 w' b o) := by
  unfold Go.Proofs.YtippdgmgmenboagDoor.set16
  have s : ∀ {x : World}, Below B w x → ∀ k u, Below B w (x.setCell ⟨b, k, none⟩ u) := fun hx k u => ⟨hx.os, hx.tape, hx.output, by rw [World.size_setCell]; exact hx.size, fun c hc => (Below.heap_setCell _ _ _ c (by show c ≠ b; omega)).trans (hx.block c hc)⟩
  exact s (s (s (s (s (s (s (s (s (s (s (s (s (s (s (s h _ _) _ _) _ _) _ _) _ _) _ _) _ _) _ _) _ _) _ _) _ _) _ _) _ _) _ _) _ _) _ _
theorem six_cells {w : World} {b : Nat} {o : Nat → Nat} (h : SixAt w b o) : w.cell? ⟨b, 0, none⟩ = some (.int .i64 (o 0 : Nat)) ∧ w.cell? ⟨b, 1, none⟩ = some (.int .i64 (o 1 : Nat)) ∧ w.cell? ⟨b, 2, none⟩ = some (.int .i64 (o 2 : Nat)) ∧ w.cell? ⟨b, 3, none⟩ = some (.int .i64 (o 3 : Nat)) ∧ w.cell? ⟨b, 4, none⟩ = some (.int .i64 (o 4 : Nat)) ∧ w.cell? ⟨b, 5, none⟩ = some (.int .i64 (o 5 : Nat)) ∧ w.cell? ⟨b, 6, none⟩ = some (.int .i64 (o 6 : Nat)) ∧ w.cell? ⟨b, 7, none⟩ = some (.int .i64 (o 7 : Nat)) ∧ w.cell? ⟨b, 8, none⟩ = some (.int .i64 (o 8 : Nat)) ∧ w.cell? ⟨b, 9, none⟩ = some (.int .i64 (o 9 : Nat)) ∧ w.cell? ⟨b, 10, none⟩ = some (.int .i64 (o 10 : Nat)) ∧ w.cell? ⟨b, 11, none⟩ = some (.int .i64 (o 11 : Nat)) ∧ w.cell? ⟨b, 12, none⟩ = some (.int .i64 (o 12 : Nat)) ∧ w.cell? ⟨b, 13, none⟩ = some (.int .i64 (o 13 : Nat)) ∧ w.cell? ⟨b, 14, none⟩ = some (.int .i64 (o 14 : Nat)) ∧ w.cell? ⟨b, 15, none⟩ = some (.int .i64 (o 15 : Nat)) :=
  ⟨h.cell 0 (by omega), h.cell 1 (by omega), h.cell 2 (by omega), h.cell 3 (by omega), h.cell 4 (by omega), h.cell 5 (by omega), h.cell 6 (by omega), h.cell 7 (by omega), h.cell 8 (by omega), h.cell 9 (by omega), h.cell 10 (by omega), h.cell 11 (by omega), h.cell 12 (by omega), h.cell 13 (by omega), h.cell 14 (by omega), h.cell 15 (by omega)⟩
end Go.Proofs.YtippdgmgmenboagDoor

namespace Go.Proofs.YtippdgmgmenboagDoor
set_option linter.unusedVariables false
set_option linter.unusedSimpArgs false
open Go.RowKit

/-- a slice that holds a row of numbers -/
def IntsIs (w : World) (v : Value) (l : List Int) : Prop :=
  l.length ≤ maxLen ∧ ∃ p cap, v = .slice p l.length cap ∧ (l ≠ [] → ∃ b o, p = some ⟨b, o, none⟩ ∧ b < w.heap.size ∧ ∀ j (h : j < l.length), w.cell? ⟨b, o + j, none⟩ = some (.int .i64 l[j]))
theorem IntsIs.blocks {w w' : World} {v : Value} {l : List Int} (h : IntsIs w v l) (hs : w.heap.size ≤ w'.heap.size) (hb : ∀ c, v.ownBlock = some c → c < w.heap.size → w'.heap[c]? = w.heap[c]?) : IntsIs w' v l := by
  obtain ⟨h0, p, cap, rfl, h1⟩ := h
  refine ⟨h0, p, cap, rfl, fun hn => ?_⟩
  obtain ⟨b, o, rfl, hlt, hc⟩ := h1 hn
  exact ⟨b, o, rfl, Nat.lt_of_lt_of_le hlt hs, fun j hj => (World.cell?_of_block (a := ⟨b, o + j, none⟩) (hb b rfl hlt)).trans (hc j hj)⟩
theorem IntsIs.below {w w' : World} {v : Value} {l : List Int} (h : IntsIs w v l) (hb : Below w.heap.size w w') : IntsIs w' v l :=
  h.blocks hb.size (fun c _ hc => hb.block c hc)
theorem IntsIs.nil (w : World) : IntsIs w (.slice none 0 0) [] := ⟨by simp, none, 0, rfl, fun h => absurd rfl h⟩
def intC (l : List Int) : List Value := l.map (Value.int .i64)
theorem IntsIs.own {w : World} {B : Nat} {v : Value} {l : List Int} (h : w.ownsRow B 3 1 v l.length (intC l)) : IntsIs w v l := by
  have hcell : ∀ g, v.ownBlock = some g → ∀ j u, (intC l)[j]? = some u → w.cell? ⟨g, j, none⟩ = some u := fun g hg j u hu => by
    have := h.cells (g := g) hg j u hu
    simpa [Addr.add_lit] using this
  rcases h.2 with ⟨rfl, h0⟩ | ⟨g, cap, cur, rfl, _, hg, hc1, hc2, _⟩
  · rw [List.length_eq_zero_iff.1 h0]
    exact IntsIs.nil w
  · refine ⟨Nat.le_trans hc1 hc2, _, cap, rfl, fun _ => ⟨g, 0, rfl, (Array.getElem?_eq_some_iff.1 hg).1, fun j hj => ?_⟩⟩
    have := hcell g rfl j (.int .i64 l[j]) (by simp [intC, List.getElem?_map, hj])
    simpa using this
theorem infoInt : (Tryd.prog.info? 3).map (fun i => (i.zero, i.size, i.bytes)) = some (some (.int .i64 0), 1, 8) := by kernel_rfl

theorem ownsRow_belowF {w w' : World} {B : Nat} {e : TypeId} {size : Nat} {v : Value} {n : Nat} {xs : List Value} (h : w.ownsRow B e size v n xs) (hb : Below w.heap.size w w') : w'.ownsRow B e size v n xs := by
  refine ⟨h.1, ?_⟩
  rcases h.2 with hn | ⟨g, cap, cur, rfl, h1, hg, rest⟩
  · exact .inl hn
  · exact .inr ⟨g, cap, cur, rfl, h1, (hb.block g (Array.getElem?_eq_some_iff.1 hg).1).trans hg, rest⟩
theorem ownsRow_fromF {w : World} {B : Nat} {e : TypeId} {size : Nat} {v : Value} {n : Nat} {xs : List Value} (h : w.ownsRow B e size v n xs) (c : Nat) (hc : v.ownBlock = some c) : B ≤ c := by
  rcases h.2 with ⟨rfl, _⟩ | ⟨g', cap, cur, rfl, h1, _⟩
  · cases hc
  · obtain rfl : g' = c := by simpa [Value.ownBlock] using hc
    exact h1
theorem below_grownF {B : Nat} {w w1 w' : World} {v : Value} (h : Below B w w1) (hB : B ≤ w.heap.size) (hg : w1.grownBy w' v.ownBlock) (hv : ∀ c, v.ownBlock = some c → B ≤ c) : Below B w w' :=
  h.trans ⟨hg.os, hg.tape, hg.output, hg.size, fun c hc => hg.block c (Nat.lt_of_lt_of_le hc (Nat.le_trans hB h.size)) (fun e => by have := hv c e.symm; omega)⟩
theorem intC_append (l m : List Int) : intC (l ++ m) = intC l ++ intC m := by simp [intC]
/-- a row of the call's own that holds numbers and one more -/
def OwnedMoreI (B : Nat) (w : World) (v : Value) (out : List Int) (e : Int) : Prop := w.ownsRow B 3 1 v (out ++ [e]).length (intC (out ++ [e]))
theorem wp_appI {ops : Array Oper} {rest : List Oper} {o : Oper} {ac : Act} {Q : Exit → Act → World → Prop} (w : World) (hgd : o.guard = none) (s x : Operand)
    (ho : o.op = .call { callee := .builtin .append, args := #[s, x], argTypes := #[23, 23] }) (B : Nat) (v : Value) (out : List Int) (e : Int) (hs : ac.eval s = v)
    (hown : w.ownsRow B 3 1 v out.length (intC out)) (vb : Nat) (hx : ac.eval x = .slice (some ⟨vb, 0, none⟩) 1 1) (hv : w.heap[vb]? = some (.cells #[.int .i64 e] 3 (0, 0))) (hl : out.length ≤ 100) (hB : B ≤ w.heap.size)
    (h : ∀ v' w', OwnedMoreI B w' v' out e → Hid (w.grownBy w' v.ownBlock) → wpList Tryd.prog ops Q rest (ac.put o.dst v') w') : wpList Tryd.prog ops Q (o :: rest) ac w := by
  obtain ⟨i0, hi0, hz0, hz1, hz2⟩ := info_parts infoInt
  have q3 : ∀ (u : Value), u ∈ [Value.int .i64 e] → u.oneCell' = true := fun u hu => by simp at hu; subst hu; rfl
  have q2 : ∀ (j : Nat) (u : Value), [Value.int .i64 e][j]? = some u → w.cell? ((⟨vb, 0, none⟩ : Addr).add j) = some u := World.news_of_block hv
  refine wpList_append_own w hgd s x 23 ho B 3 i0 _ 1 8 Tryd.underlying23 hi0 hz0 hz1 hz2 rfl (by omega) v out.length (intC out) hs hown ⟨vb, 0, none⟩ 1 1 [.int .i64 e] hx rfl q2 q3 (by unfold maxLen; omega) (by omega) hB ?_
  intro v' w' h1 h2 _
  refine h v' w' (show World.ownsRow _ _ _ _ _ _ _ from ?_) h2
  have hr : intC (out ++ [e]) = intC out ++ [.int .i64 e] := by simp [intC]
  rw [hr, List.length_append]
  exact h1
/-- a row of the call's own that holds entries and one more -/
def OwnedMore (B : Nat) (w : World) (v : Value) (out : List En) (e : En) : Prop := w.ownsRow B 46 5 v (out ++ [e]).length (rowC (out ++ [e]))
theorem wp_app {ops : Array Oper} {rest : List Oper} {o : Oper} {ac : Act} {Q : Exit → Act → World → Prop} (w : World) (hgd : o.guard = none) (s x : Operand)
    (ho : o.op = .call { callee := .builtin .append, args := #[s, x], argTypes := #[22, 22] }) (B : Nat) (v : Value) (out : List En) (e : En) (hs : ac.eval s = v)
    (hown : w.ownsRow B 46 5 v out.length (rowC out)) (vb : Nat) (hx : ac.eval x = .slice (some ⟨vb, 0, none⟩) 1 1) (hv : w.heap[vb]? = some (.cells e.cells.toArray 46 (0, 0))) (hl : out.length ≤ 100) (hB : B ≤ w.heap.size)
    (h : ∀ v' w', OwnedMore B w' v' out e → Hid (w.grownBy w' v.ownBlock) → wpList Tryd.prog ops Q rest (ac.put o.dst v') w') : wpList Tryd.prog ops Q (o :: rest) ac w := by
  obtain ⟨i0, hi0, hz0, hz1, hz2⟩ := info_parts infoEn
  have q3 : ∀ (u : Value), u ∈ e.cells → u.oneCell' = true := fun u hu => rowC_one [e] u (by simpa [rowC] using hu)
  refine wpList_append_own w hgd s x 22 ho B 46 i0 _ 5 48 Tryd.underlying22 hi0 hz0 hz1 hz2 rfl (by omega) v out.length (rowC out) hs hown ⟨vb, 0, none⟩ 1 1 e.cells hx rfl (World.news_of_block hv) q3 (by unfold maxLen; omega) (by omega) hB ?_
  intro v' w' h1 h2 _
  refine h v' w' (show World.ownsRow _ _ _ _ _ _ _ from ?_) h2
  have hr : rowC (out ++ [e]) = rowC out ++ e.cells := by rw [rowC_append]; simp [rowC]
  rw [hr, List.length_append]
  exact h1
end Go.Proofs.YtippdgmgmenboagDoor

namespace Go.Proofs.YtippdgmgmenboagDoor
set_option linter.unusedVariables false
set_option linter.unusedSimpArgs false
open Go.RowKit

theorem ptK_len (P : Nat → Nat → Nat) (f g : Nat → Nat) : ∀ d i, (ptK P f g d i).length ≤ 2 ^ d := by
  intro d
  induction d with
  | zero => intro i; unfold ptK; split <;> simp
  | succ d ih =>
    intro i
    unfold ptK
    split
    · simp
    · rw [List.length_append, Nat.pow_succ]
      have h1 := ih (2 * i)
      have h2 := ih (2 * i + 1)
      omega
theorem ptN_len (P : Nat → Nat → Nat) (f g : Nat → Nat) : ∀ d i, ptN P f g d i + 1 ≤ 2 ^ (d + 1) := by
  intro d
  induction d with
  | zero => intro i; exact Nat.le_refl _
  | succ d ih =>
    intro i
    have h1 := ih (2 * i)
    have h2 := ih (2 * i + 1)
    have e : 2 ^ (d + 1 + 1) = 2 ^ (d + 1) + 2 ^ (d + 1) := by rw [Nat.pow_succ 2 (d + 1)]; omega
    unfold ptN
    split
    · omega
    · omega
/-- the keys where two part, as numbers -/
def partK (f g : Nat → Nat) (i : Nat) : List Int := (ptK pairH f g (dep i) i).map (fun k : Nat => (k : Int))
def partN (f g : Nat → Nat) (i : Nat) : Nat := ptN pairH f g (dep i) i
theorem dep_le (i : Nat) : dep i ≤ 3 := by
  unfold dep
  split
  · omega
  · split
    · omega
    · split <;> omega
theorem partK_len (f g : Nat → Nat) (i : Nat) : (partK f g i).length ≤ 8 := by
  rw [partK, List.length_map]
  refine Nat.le_trans (ptK_len _ _ _ _ _) ?_
  exact Nat.le_trans (Nat.pow_le_pow_right (by omega) (dep_le i)) (by omega)
theorem partN_len (f g : Nat → Nat) (i : Nat) : partN f g i ≤ 15 := by
  have h := ptN_len pairH f g (dep i) i
  have h2 : 2 ^ (dep i + 1) ≤ 2 ^ 4 := Nat.pow_le_pow_right (by omega) (by have := dep_le i; omega)
  unfold partN
  omega
theorem part_alike {f g : Nat → Nat} {i : Nat} (h : trN f i = trN g i) : partK f g i = [] ∧ partN f g i = 1 := by
  refine ⟨?_, ptN_alike h⟩
  rw [partK, ptK_alike h]
  rfl
theorem part_end {f g : Nat → Nat} {i : Nat} (h8 : 8 ≤ i) (h : trN f i ≠ trN g i) : partK f g i = [((i - 8 : Nat) : Int)] ∧ partN f g i = 1 := by
  rw [trN_end f h8, trN_end g h8] at h
  unfold partK partN
  rw [dep_end h8, ptK, if_neg h]
  exact ⟨rfl, rfl⟩
theorem part_two {f g : Nat → Nat} {i : Nat} (h0 : 1 ≤ i) (h8 : i < 8) (h : trN f i ≠ trN g i) : partK f g i = partK f g (2 * i) ++ partK f g (2 * i + 1) ∧ partN f g i = partN f g (2 * i) + partN f g (2 * i + 1) + 1 := by
  obtain ⟨h1, h2⟩ := dep_two h0 h8
  unfold trN at h
  rw [h1] at h
  unfold partK partN
  rw [h2, h1, ptK, if_neg h, ptN, if_neg h, List.map_append]
  exact ⟨rfl, rfl⟩

/-- a row of numbers of the call's own -/
def OwnI (B : Nat) (w : World) (v : Value) (l : List Int) : Prop := w.ownsRow B 3 1 v l.length (intC l)
theorem OwnI.nil (B : Nat) (w : World) : OwnI B w (.slice none 0 0) [] := World.ownsRow_nil w B _ 1
theorem OwnI.one {B : Nat} {w : World} {b : Nat} {x : Int} (hB : B ≤ b) (h : w.heap[b]? = some (.cells #[.int .i64 x] 3 (0, 0))) : OwnI B w (.slice (some ⟨b, 0, none⟩) 1 1) [x] :=
  ⟨rfl, .inr ⟨b, 1, _, rfl, hB, h, Nat.le_refl _, by unfold maxLen; omega, rfl, rfl⟩⟩
theorem OwnI.base {B B' : Nat} {w : World} {v : Value} {l : List Int} (h : OwnI B w v l) (hB : B' ≤ B) : OwnI B' w v l := by
  refine ⟨h.1, ?_⟩
  rcases h.2 with hn | ⟨g, cap, cur, rfl, h1, rest⟩
  · exact .inl hn
  · exact .inr ⟨g, cap, cur, rfl, Nat.le_trans hB h1, rest⟩
theorem OwnI.blocks {B : Nat} {w w' : World} {v : Value} {l : List Int} (h : OwnI B w v l) (hb : ∀ c, v.ownBlock = some c → c < w.heap.size → w'.heap[c]? = w.heap[c]?) : OwnI B w' v l := by
  refine ⟨h.1, ?_⟩
  rcases h.2 with hn | ⟨g, cap, cur, rfl, h1, hg, rest⟩
  · exact .inl hn
  · exact .inr ⟨g, cap, cur, rfl, h1, (hb g rfl (Array.getElem?_eq_some_iff.1 hg).1).trans hg, rest⟩
theorem OwnI.below {B : Nat} {w w' : World} {v : Value} {l : List Int} (h : OwnI B w v l) (hb : Below w.heap.size w w') : OwnI B w' v l := h.blocks fun c _ hc => hb.block c hc
theorem OwnI.ints {B : Nat} {w : World} {v : Value} {l : List Int} (h : OwnI B w v l) : IntsIs w v l := IntsIs.own h
theorem OwnI.from {B : Nat} {w : World} {v : Value} {l : List Int} (h : OwnI B w v l) (c : Nat) (hc : v.ownBlock = some c) : B ≤ c := ownsRow_fromF h c hc

/-- two rows of unlike types, of which one grows -/
theorem own_beside {w w' : World} {B : Nat} {e1 e2 : TypeId} {s1 s2 : Nat} {v1 v2 : Value} {n1 n2 : Nat} {xs1 xs2 : List Value} (h1 : w.ownsRow B e1 s1 v1 n1 xs1) (h2 : w.ownsRow B e2 s2 v2 n2 xs2) (hne : e1 ≠ e2) (hg : w.grownBy w' v2.ownBlock) : w'.ownsRow B e1 s1 v1 n1 xs1 := by
  refine ⟨h1.1, ?_⟩
  rcases h1.2 with hn | ⟨g, cap, cur, rfl, hB, hg1, rest⟩
  · exact .inl hn
  · refine .inr ⟨g, cap, cur, rfl, hB, (hg.block g (Array.getElem?_eq_some_iff.1 hg1).1 ?_).trans hg1, rest⟩
    intro hc
    rcases h2.2 with ⟨rfl, _⟩ | ⟨g', cap', cur', rfl, _, hg2, _⟩
    · cases hc
    · have e : g = g' := Option.some.inj hc
      subst e
      rw [hg1] at hg2
      simp at hg2
      exact hne hg2.2
theorem wp_appRow {ops : Array Oper} {rest : List Oper} {o : Oper} {ac : Act} {Q : Exit → Act → World → Prop} (w : World) (hgd : o.guard = none) (s x : Operand)
    (ho : o.op = .call { callee := .builtin .append, args := #[s, x], argTypes := #[23, 23] }) (B : Nat) (v : Value) (out : List Int) (hs : ac.eval s = v)
    (hown : OwnI B w v out) (B2 : Nat) (u : Value) (more : List Int) (hx : ac.eval x = u) (hm : OwnI B2 w u more) (hl : out.length + more.length ≤ 100) (hB : B ≤ w.heap.size)
    (h : ∀ v' w', OwnI B w' v' (out ++ more) → Hid (w.grownBy w' v.ownBlock) → wpList Tryd.prog ops Q rest (ac.put o.dst v') w') : wpList Tryd.prog ops Q (o :: rest) ac w := by
  obtain ⟨i0, hi0, hz0, hz1, hz2⟩ := info_parts infoInt
  rcases hm.2 with ⟨rfl, h0⟩ | ⟨g, cap, cur, rfl, _, hg, hc1, hc2, hc3, hc4⟩
  · rw [List.length_eq_zero_iff.1 h0, List.append_nil] at h
    exact wpList_append_own_none hgd s x 23 ho B 3 i0 1 Tryd.underlying23 hi0 v out.length (intC out) hs hown hx (h v w hown ⟨rfl, rfl, rfl, Nat.le_refl _, fun _ _ _ => rfl⟩)
  · have q3 : ∀ u ∈ intC more, u.oneCell' = true := fun u hu => by
      obtain ⟨z, _, rfl⟩ := List.mem_map.1 hu
      rfl
    have q2 : ∀ (j : Nat) (u : Value), (intC more)[j]? = some u → w.cell? ((⟨g, 0, none⟩ : Addr).add j) = some u := fun j u hu => hm.cells (g := g) rfl j u hu
    refine wpList_append_own w hgd s x 23 ho B 3 i0 _ 1 8 Tryd.underlying23 hi0 hz0 hz1 hz2 rfl (by omega) v out.length (intC out) hs hown ⟨g, 0, none⟩ more.length cap (intC more) hx (by simp [intC]) q2 q3 (by unfold maxLen; omega) (by omega) hB ?_
    intro v' w' h1 h2 _
    refine h v' w' (show World.ownsRow _ _ _ _ _ _ _ from ?_) h2
    rw [intC_append, List.length_append]
    exact h1
end Go.Proofs.YtippdgmgmenboagDoor

namespace Go.Proofs.YtippdgmgmenboagDoor
set_option linter.unusedVariables false
set_option linter.unusedSimpArgs false
open Go.RowKit

theorem eV_zero : eV 0 = .nilIface := by rw [eV, if_pos rfl]
theorem eV_err {n : Int} (h : n ≠ 0) : eV n = .iface 55 (.int .i64 n) := by rw [eV, if_neg h]
/-- a slice's room is not less than its length -/
def CapOk (v : Value) (n : Nat) : Prop := ∃ p c, v = .slice p n c ∧ n ≤ c ∧ c ≤ maxLen
theorem CapOk.nil : CapOk (.slice none 0 0) 0 := ⟨none, 0, rfl, Nat.le_refl _, by unfold maxLen; omega⟩
theorem OwnI.cap {B : Nat} {w : World} {v : Value} {l : List Int} (h : OwnI B w v l) : CapOk v l.length := by
  rcases h.2 with ⟨rfl, h0⟩ | ⟨g, cap, cur, rfl, _, _, hc1, hc2, _⟩
  · rw [h0]
    exact CapOk.nil
  · exact ⟨_, cap, rfl, hc1, hc2⟩

theorem hasD_hit {a : List Int} {x : Int} {j : Nat} (h : j < a.length) (hx : a[j] = x) : (a.drop j).contains x = true := by
  rw [List.drop_eq_getElem_cons h, List.contains_cons, hx]
  simp
theorem hasD_miss {a : List Int} {x : Int} {j : Nat} (h : j < a.length) (hx : ¬ a[j] = x) : (a.drop j).contains x = (a.drop (j + 1)).contains x := by
  rw [List.drop_eq_getElem_cons h, List.contains_cons]
  have : (x == a[j]) = false := by simp; exact fun h => hx h.symm
  rw [this, Bool.false_or]
set_option maxHeartbeats 4000000 in
theorem indexI_c (va : Value) (a : List Int) (x : Int) (w : World) (hra : IntsIs w va a) :
    Calls Tryd.prog 43 #[va, .int .i64 x] w fun e w' => ∃ k : Int, e = .returned (.int .i64 k) ∧ Hid (a.contains x = decide (0 ≤ k)) ∧ w' = w := by
  obtain ⟨hla, pa, capa, rfl, hrowa⟩ := hra
  have HRA : Hid (a ≠ [] → ∃ bb o, pa = some ⟨bb, o, none⟩ ∧ bb < w.heap.size ∧ ∀ j (h : j < a.length), w.cell? ⟨bb, o + j, none⟩ = some (.int .i64 a[j])) := hrowa
  clear hrowa
  obtain ⟨n, HN⟩ : ∃ n, Hid (a.length = n) := ⟨_, rfl⟩
  rw [HN.out] at hla ⊢
  have hn63 : n ≤ 9223372036854775807 := hla
  obtain ⟨R, HR⟩ : ∃ R, Hid (a.contains x = R) := ⟨_, rfl⟩
  rw [HR.out]
  go_enter Tryd.func43, Tryd.ntmps43
  go_wp2_with fail
  go_loopw [8] (fun i wr => ∃ j : Nat, j ≤ n ∧ i = .int .i64 j ∧ Hid (R = (a.drop j).contains x) ∧ wr = w) (fun i _ => n - (intOf i).toNat)
  case atStart => exact ⟨0, Nat.zero_le _, rfl, by rw [List.drop_zero]; exact HR.out.symm, rfl⟩
  case round =>
    obtain ⟨j, hj, rfl, HE, rfl⟩ := hrel
    by_cases hlt : j < n
    · have hja : j < a.length := by rw [HN.out]; exact hlt
      obtain ⟨ba, oa, rfl, hbwa, hata⟩ := HRA.out (fun h => by simp [h] at hja)
      have c0 := hata j hja
      clear hata
      have HHit : Hid (a[j] = x → R = true) := fun h => HE.out.trans (hasD_hit hja h)
      have HMiss : Hid (¬ a[j] = x → R = (a.drop (j + 1)).contains x) := fun h => HE.out.trans (hasD_miss hja h)
      obtain ⟨y, HY⟩ : ∃ y, Hid (a[j] = y) := ⟨a[j], show a[j] = a[j] from rfl⟩
      rw [HY.out] at c0 HHit HMiss
      have hlti : (j : Int) < (n : Int) := by omega
      by_cases hs : y = x
      · have HRt : Hid (R = true) := HHit.out hs
        have hxb : (x == y) = true := by simp [hs]
        clear hs
        go_wp2_with fail
        go_ret
        refine ⟨(j : Int), rfl, ?_, rfl⟩
        show R = _
        rw [HRt.out]
        simp
      · have HRt : Hid (R = (a.drop (j + 1)).contains x) := HMiss.out hs
        have hxb : (x == y) = false := by simp; exact fun h => hs h.symm
        clear hs
        go_wp2_with fail
        go_roundw
        case rel => exact ⟨j + 1, by omega, by go_num, HRt, trivial⟩
        case measure => simp [intOf]; omega
    · obtain rfl : j = n := by omega
      have HR0 : Hid (R = false) := by
        show R = false
        rw [HE.out, List.drop_eq_nil_of_le (by rw [HN.out]; exact Nat.le_refl _)]
        rfl
      go_wp2_with fail
      go_ret
      refine ⟨-1, rfl, ?_, rfl⟩
      show R = _
      rw [HR0.out]
      rfl
set_option maxHeartbeats 1000000 in
theorem containsI_c (va : Value) (a : List Int) (x : Int) (b : Bool) (w : World) (hra : IntsIs w va a) (hb : a.contains x = b) :
    Calls Tryd.prog 29 #[va, .int .i64 x] w fun e w' => e = .returned (.bool b) ∧ w' = w := by
  have HC : Hid _ := indexI_c va a x w hra
  have HB : Hid (a.contains x = b) := hb
  clear hra hb
  go_enter Tryd.func29, Tryd.ntmps29
  go_wp2_with fail
  refine Calls.mono HC.out ?_
  rintro e w1 ⟨k, rfl, HK, rfl⟩
  go_wp2_with fail
  go_ret
  refine ⟨?_, rfl⟩
  rw [← HB.out, HK.out]
  rfl

theorem IntsIs.take {w : World} {p : Option Addr} {l : List Int} {cap j cap' : Nat} {p' : Option Addr} (hr : IntsIs w (.slice p l.length cap) l) (hj : j ≤ l.length) (hp : l ≠ [] → p' = p) : IntsIs w (.slice p' j cap') (l.take j) := by
  obtain ⟨h0, q, c, e, h1⟩ := hr
  injection e with e1 e2 e3
  subst e1
  have hl : (l.take j).length = j := by simp; omega
  refine ⟨by rw [hl]; omega, p', cap', by rw [hl], fun hn => ?_⟩
  have hne : l ≠ [] := fun h => hn (by simp [h])
  rw [hp hne]
  obtain ⟨b, o, hb, hlt, hc⟩ := h1 hne
  exact ⟨b, o, hb, hlt, fun i hi => by
    have hi' : i < l.length := by rw [hl] at hi; omega
    rw [List.getElem_take]
    exact hc i hi'⟩
end Go.Proofs.YtippdgmgmenboagDoor

namespace Go.Proofs.YtippdgmgmenboagDoor
set_option linter.unusedVariables false
set_option linter.unusedSimpArgs false
open Go.RowKit Go.Lib

set_option maxHeartbeats 2000000 in
set_option maxRecDepth 100000 in
theorem clone_c (v : Value) (l : List En) (w : World) (hr : RowIs w v l) (h8 : l.length ≤ 8) :
    Calls Tryd.prog 32 #[v] w fun e w' => ∃ v', e = .returned v' ∧ w'.ownsRow w.heap.size 46 5 v' l.length (rowC l) ∧ Below w.heap.size w w' := by
  obtain ⟨i0, hi0, hz0, hz1, hz2⟩ := info_parts infoEn
  obtain ⟨hlen, p, cap, rfl, hrow⟩ := hr
  have q22 : ∀ (w : World) (a : Option Addr) (n c n' c' : Nat), (binOp .eql 22 (.slice a n c) (.slice none n' c')).run Tryd.prog w = .ok (.bool a.isNone) w := fun w a n c n' c' => Lib.run_eql_slice_nil w _ _ a n c n' c' Tryd.underlying22
  cases p with
  | none =>
    have hl : l = [] := by
      cases l with
      | nil => rfl
      | cons e l => obtain ⟨b, o, h, _⟩ := hrow (by simp); cases h
    subst hl
    go_enter Tryd.func32, Tryd.ntmps32
    go_wp2_with fail
    go_ret
    exact ⟨_, rfl, World.ownsRow_nil _ _ _ _, by go_grown⟩
  | some ad =>
    have HC : Hid (∀ j u, (rowC l)[j]? = some u → w.cell? (ad.add j) = some u) := by
      intro j u hu
      cases l with
      | nil => simp [rowC] at hu
      | cons e l =>
        obtain ⟨b, o, h, _, hat⟩ := hrow (by simp)
        obtain rfl := Option.some.inj h
        rw [Addr.add_lit]
        exact RowIs.cells (cap := 0) hat j u hu
    clear hrow
    go_enter Tryd.func32, Tryd.ntmps32
    go_wp2_with (at_builtin; refine wpList_append_own _ rfl _ _ 22 rfl w.heap.size 46 i0 _ 5 48 Tryd.underlying22 hi0 hz0 hz1 hz2 rfl (by omega) _ _ _ rfl (World.ownsRow_made w #[] 0 (Nat.le_refl _) (Nat.zero_le _) (by simp)) ad l.length cap (rowC l) rfl ?qc1 ?qc2 ?qc3 ?qc4 ?qc5 ?qc6 ?_)
    case qc1 => exact rowC_length l
    case qc2 =>
      intro j u hj
      exact Lib.cell?_alloc_some _ (HC.out j u hj)
    case qc3 => exact rowC_one l
    case qc4 => rw [Nat.zero_add]; exact hlen
    case qc5 => rw [Nat.zero_add]; omega
    case qc6 => simp
    intro v' w1 hown hgrow hnil
    go_wp2_with fail
    go_ret
    refine ⟨v', rfl, by simpa using hown, ?_⟩
    exact ((Below.refl _ w).alloc (Nat.le_refl _) _).grown hgrow (by simp) (by intro k hk; simp [Value.ownBlock] at hk; omega)
end Go.Proofs.YtippdgmgmenboagDoor

namespace Go.Proofs.YtippdgmgmenboagDoor
set_option linter.unusedVariables false
set_option linter.unusedSimpArgs false
open Go.RowKit Go.Lib

theorem run_copy_k {P : Program} (w : World) (dT sT ty elem : TypeId) (k b o dLen dCap : Nat) (a : Addr) (sLen sCap : Nat) (cs : List Value) (n : Nat)
    (hu : P.underlying dT = some (.slice elem)) (hs : (P.info? elem).map (·.size) = some k) (hn : Nat.min sLen dLen = n) (hl : cs.length = n * k)
    (hsrc : ∀ j v, cs[j]? = some v → w.cell? (a.add j) = some v) (hc : ∀ j, j < cs.length → (w.cell? ⟨b, o + j, none⟩).isSome = true) (hf : ∀ j, j < cs.length → w.frozen? ⟨b, o + j, none⟩ = false) (h1 : ∀ v ∈ cs, v.oneCell' = true) :
    (Builtin.copy_ #[dT, sT] ty #[.slice (some ⟨b, o, none⟩) dLen dCap, .slice (some a) sLen sCap]).run P w = .ok (goInt n) (w.setCells b o cs) := by
  have hl' := run_loadCells_list (P := P) w a cs hsrc
  rw [hl] at hl'
  have hst := run_storeCells_cells (P := P) b o cs 0 w (by simpa using hc) (by simpa using hf) h1
  cases hq : P.info? elem with
  | none => simp [hq] at hs
  | some i =>
    have hi : i.size = k := by simpa [hq] using hs
    simp [Builtin.copy_, run_underlying hu, Builtin.lenOf, Builtin.firstCells, sizeOf, typeInfo, hq, hi, hn, hl', hst]

theorem setCells_block (b : Nat) (t : TypeId) : ∀ (vs : List Value) (o : Nat) (w : World) (cur : Array Value), w.heap[b]? = some (.cells cur t (0, 0)) → ∃ cur', (w.setCells b o vs).heap[b]? = some (.cells cur' t (0, 0)) ∧ cur'.size = cur.size
  | [], _, _, cur, h => ⟨cur, h, rfl⟩
  | v :: r, o, w, cur, h => by
    have h1 : (w.setCell ⟨b, o, none⟩ v).heap[b]? = some (.cells (cur.setIfInBounds o v) t (0, 0)) := by
      show (w.heap.modify b _)[b]? = _
      rw [Array.getElem?_modify, if_pos rfl, h]
      rfl
    obtain ⟨cur', h2, h3⟩ := setCells_block b t r (o + 1) _ _ h1
    exact ⟨cur', h2, by simpa using h3⟩
theorem setCells_other (b : Nat) : ∀ (vs : List Value) (o : Nat) (w : World) (c : Nat), c ≠ b → (w.setCells b o vs).heap[c]? = w.heap[c]?
  | [], _, _, _, _ => rfl
  | v :: r, o, w, c, h => by
    rw [World.setCells, setCells_other b r (o + 1) _ c h, Below.heap_setCell _ _ _ c h]
theorem setCells_size (b : Nat) : ∀ (vs : List Value) (o : Nat) (w : World), (w.setCells b o vs).heap.size = w.heap.size
  | [], _, _ => rfl
  | v :: r, o, w => by rw [World.setCells, setCells_size b r, World.size_setCell]
theorem setCells_rest (b : Nat) : ∀ (vs : List Value) (o : Nat) (w : World), (w.setCells b o vs).os = w.os ∧ (w.setCells b o vs).tape = w.tape ∧ (w.setCells b o vs).output = w.output
  | [], _, _ => ⟨rfl, rfl, rfl⟩
  | v :: r, o, w => setCells_rest b r (o + 1) (w.setCell ⟨b, o, none⟩ v)
theorem ownsRow_of {w : World} {B g n cap k : Nat} {e : TypeId} {cur : Array Value} {xs : List Value} (hB : B ≤ g) (hg : w.heap[g]? = some (.cells cur e (0, 0))) (hn : n ≤ cap) (hc : cap ≤ maxLen) (hs : cur.size = cap * k) (hl : xs.length = n * k)
    (hx : ∀ j u, xs[j]? = some u → w.cell? ⟨g, j, none⟩ = some u) : w.ownsRow B e k (.slice (some ⟨g, 0, none⟩) n cap) n xs := by
  refine ⟨hl, .inr ⟨g, cap, cur, rfl, hB, hg, hn, hc, hs, ?_⟩⟩
  have hle : n * k ≤ cap * k := Nat.mul_le_mul_right k hn
  apply List.ext_getElem?
  intro j
  rw [List.getElem?_take]
  by_cases hj : j < n * k
  · rw [if_pos hj, List.getElem?_eq_getElem (show j < xs.length by omega)]
    have h1 := hx j _ (List.getElem?_eq_getElem (show j < xs.length by omega))
    rw [cell_of_row w g j cur e (0, 0) hg] at h1
    simpa using h1
  · rw [if_neg hj, List.getElem?_eq_none (by omega)]
end Go.Proofs.YtippdgmgmenboagDoor

namespace Go.Proofs.YtippdgmgmenboagDoor
set_option linter.unusedVariables false
set_option linter.unusedSimpArgs false
open Go.RowKit Go.Lib

/-- a copy whose run is known, in a list -/
theorem wpList_copied {P : Program} {ops : Array Oper} {rest : List Oper} {o : Oper} {a : Act} {Q : Exit → Act → World → Prop} (w : World) (hgd : o.guard = none) (d s : Operand) (t t' : TypeId)
    (ho : o.op = .call { callee := .builtin .copy, args := #[d, s], argTypes := #[t, t'] }) (x y : Value) (hx : a.eval d = x) (hy : a.eval s = y) {v' : Value} {w' : World}
    (hr : (Builtin.copy_ #[t, t'] o.type #[x, y]).run P w = .ok v' w') (h : wpList P ops Q rest (a.put o.dst v') w') : wpList P ops Q (o :: rest) a w := by
  refine wpList_plain hgd fun _ hK => ?_
  unfold Oper.wp execOp
  simp only [ho, resolve, invoke, builtin, Sem.run_bind, Sem.run_pure, Result.andThen_ok, List.map_toArray, List.map_cons, List.map_nil, hx, hy, hr]
  exact hK _ _ h
/-- .. and at a step of a region that draws -/
theorem step_copied {P : Program} {ops : Array Oper} {o : Oper} {a : Act} {w : World} {K : Act → World → Prop} {Q : Exit → Act → World → Prop} {E : Prop}
    (hgd : o.guard = none) (d s : Operand) (t t' : TypeId) (ho : o.op = .call { callee := .builtin .copy, args := #[d, s], argTypes := #[t, t'] })
    (x y : Value) (hx : a.eval d = x) (hy : a.eval s = y) {v' : Value} {w' : World} (hr : (Builtin.copy_ #[t, t'] o.type #[x, y]).run P w = .ok v' w') (hK : K (a.put o.dst v') w') :
    if Region.wanted o (yielded ops a.tmps) = true then Oper.wp P o a w K Q else E := by
  rw [if_pos (by simp [Region.wanted, hgd])]
  unfold Oper.wp execOp
  simp only [ho, resolve, invoke, builtin, Sem.run_bind, Sem.run_pure, Result.andThen_ok, List.map_toArray, List.map_cons, List.map_nil, hx, hy, hr]
  exact hK

/-- what slices.Insert leaves -/
def Inserted (B : Nat) (w : World) (v : Value) (l : List En) (e : Ending) (w' : World) : Prop :=
  ∃ v', e = .returned v' ∧ w'.ownsRow B 46 5 v' l.length (rowC l) ∧ w.grownBy w' v.ownBlock

theorem heap_cells {w : World} {b : Nat} {cs : Array Value} {t : TypeId} (h : w.heap[b]? = some (.cells cs t (0, 0))) (j : Nat) (u : Value) (hu : cs.toList[j]? = some u) : w.cell? ⟨b, j, none⟩ = some u := by
  rw [cell_of_row w b j cs t (0, 0) h]
  simpa using hu

set_option maxHeartbeats 2000000 in
set_option maxRecDepth 100000 in
theorem insert_end (B : Nat) (v : Value) (l : List En) (x : En) (vb : Nat) (w : World) (ho : w.ownsRow B 46 5 v l.length (rowC l)) (hB : B ≤ w.heap.size) (h8 : l.length ≤ 8)
    (hv : w.heap[vb]? = some (.cells x.cells.toArray 46 (0, 0))) :
    Calls Tryd.prog 46 #[v, .int .i64 l.length, .slice (some ⟨vb, 0, none⟩) 1 1] w (Inserted B w v (l ++ [x])) := by
  obtain ⟨i0, hi0, hz0, hz1, hz2⟩ := info_parts infoEn
  have HO : Hid (w.ownsRow B 46 5 v l.length (rowC l)) := ho
  have HV : Hid (w.heap[vb]? = some (.cells x.cells.toArray 46 (0, 0))) := hv
  obtain ⟨p, cap, rfl, hcap⟩ : ∃ p cap, v = .slice p l.length cap ∧ l.length ≤ cap := by
    rcases ho.2 with ⟨rfl, h0⟩ | ⟨g, cap, cur, rfl, _, _, h, _⟩
    · exact ⟨none, 0, by rw [h0], by omega⟩
    · exact ⟨_, _, rfl, h⟩
  clear ho hv
  have HN : Hid (rowC (l ++ [x]) = rowC l ++ x.cells) := by
    show rowC (l ++ [x]) = _
    rw [rowC_append]; simp [rowC]
  go_enter Tryd.func46, Tryd.ntmps46
  have qc2 : ∀ (j : Nat) (u : Value), x.cells[j]? = some u → w.cell? ((⟨vb, 0, none⟩ : Addr).add j) = some u := World.news_of_block HV.out
  have qc3 : ∀ (u : Value), u ∈ x.cells → u.oneCell' = true := fun u hu => rowC_one [x] u (by simpa [rowC] using hu)
  have Q2 : Hid _ := qc2
  have Q3 : Hid _ := qc3
  clear qc2 qc3
  go_wp2_with (at_builtin; refine wpList_append_own _ rfl _ _ 22 rfl B 46 i0 _ 5 48 Tryd.underlying22 hi0 hz0 hz1 hz2 rfl (by omega) _ _ _ rfl HO.out ⟨vb, 0, none⟩ 1 1 x.cells rfl rfl Q2.out Q3.out (by unfold maxLen; omega) (by omega) hB ?_)
  all_goals
    intro v' w1 hown hgrow hnil
    have HOw : Hid _ := hown
    have HGr : Hid _ := hgrow
    clear hown hgrow
    go_wp2_with fail
    go_ret
    refine ⟨v', rfl, ?_, by cases p <;> exact HGr.out⟩
    rw [HN.out, List.length_append]
    exact HOw.out

theorem rowC_ins (l : List En) (i : Nat) (x : En) : rowC (l.take i ++ x :: l.drop i) = (rowC l).take (i * 5) ++ (x.cells ++ (rowC l).drop (i * 5)) := by
  rw [rowC_append, rowC_take, rowC, rowC_drop]
/-- the cells of a row with one more, put together -/
theorem ins_cells {w : World} {g i : Nat} {l : List En} {x : En} (hi : i ≤ l.length) (h1 : ∀ j, j < i * 5 → ∀ u, (rowC l)[j]? = some u → w.cell? ⟨g, j, none⟩ = some u)
    (h2 : ∀ j u, x.cells[j]? = some u → w.cell? ⟨g, i * 5 + j, none⟩ = some u) (h3 : ∀ j u, ((rowC l).drop (i * 5))[j]? = some u → w.cell? ⟨g, (i + 1) * 5 + j, none⟩ = some u) :
    ∀ j u, (rowC (l.take i ++ x :: l.drop i))[j]? = some u → w.cell? ⟨g, j, none⟩ = some u := by
  intro j u hu
  rw [rowC_ins] at hu
  have ht : ((rowC l).take (i * 5)).length = i * 5 := by rw [List.length_take, rowC_length]; omega
  rcases Nat.lt_or_ge j (i * 5) with hj | hj
  · rw [List.getElem?_append_left (by omega), List.getElem?_take, if_pos hj] at hu
    exact h1 j hj u hu
  · rw [List.getElem?_append_right (by omega), ht] at hu
    rcases Nat.lt_or_ge (j - i * 5) 5 with h | h
    · rw [List.getElem?_append_left (by rw [En.cells_length]; exact h)] at hu
      have := h2 _ _ hu
      rwa [show i * 5 + (j - i * 5) = j by omega] at this
    · rw [List.getElem?_append_right (by rw [En.cells_length]; exact h), En.cells_length] at hu
      have := h3 _ _ hu
      rwa [show (i + 1) * 5 + (j - i * 5 - 5) = j by omega] at this

set_option maxHeartbeats 4000000 in
set_option maxRecDepth 100000 in
theorem insert_shift (B g cap i : Nat) (cur : Array Value) (l : List En) (x : En) (vb : Nat) (w : World) (hBg : B ≤ g) (hg : w.heap[g]? = some (.cells cur 46 (0, 0))) (hcur : cur.size = cap * 5)
    (hx : ∀ j u, (rowC l)[j]? = some u → w.cell? ⟨g, j, none⟩ = some u) (hi : i < l.length) (hcap : l.length + 1 ≤ cap) (hmax : cap ≤ maxLen) (h8 : l.length ≤ 8) (hne : vb ≠ g)
    (hv : w.heap[vb]? = some (.cells x.cells.toArray 46 (0, 0))) :
    Calls Tryd.prog 46 #[.slice (some ⟨g, 0, none⟩) l.length cap, .int .i64 i, .slice (some ⟨vb, 0, none⟩) 1 1] w (Inserted B w (.slice (some ⟨g, 0, none⟩) l.length cap) (l.take i ++ x :: l.drop i)) := by
  obtain ⟨i0, hi0, hz0, hz1, hz2⟩ := info_parts infoEn
  have hsz : (Tryd.prog.info? 46).map (·.size) = some 5 := by rw [hi0]; simp [hz1]
  have hsome : ∀ j, j < cap * 5 → (w.cell? ⟨g, j, none⟩).isSome = true := fun j hj => by
    rw [cell_of_row w g j cur 46 (0, 0) hg, Array.getElem?_eq_getElem (by omega)]; rfl
  have hfz : ∀ j, w.frozen? ⟨g, j, none⟩ = false := fun j => by simp [World.frozen?, hg]
  have hfv : ∀ j, w.frozen? ⟨vb, j, none⟩ = false := fun j => by simp [World.frozen?, hv]
  have hsa : w.shape? vb = some (46, 5) := by simp [World.shape?, hv, En.cells]
  have hsb : w.shape? g = some (46, cap * 5) := by simp [World.shape?, hg, hcur]
  have qc2 : ∀ (j : Nat) (u : Value), x.cells[j]? = some u → w.cell? ((⟨vb, 0, none⟩ : Addr).add j) = some u := World.news_of_block hv
  have qc3 : ∀ (u : Value), u ∈ x.cells → u.oneCell' = true := fun u hu => rowC_one [x] u (by simpa [rowC] using hu)
  have hov : ∀ lb cb, (callFunc 62 #[.slice (some ⟨vb, 0, none⟩) 1 1, .slice (some ⟨g, (i + 1) * 5, none⟩) lb cb]).run Tryd.prog w = .ok (.value (.bool false)) w := fun lb cb => by
    rw [run_callFunc_extern Tryd.func62 (by kernel_rfl) (by kernel_rfl) (by kernel_rfl) (e := Extern.SlicesOverlaps.overlaps #[22, 22] #[4]) (by kernel_rfl),
      Lib.run_overlaps_apart w 22 4 46 Tryd.underlying22 5 (fun w => by simp [sizeOf, typeInfo, hi0, hz1]) ⟨vb, 0, none⟩ ⟨g, (i + 1) * 5, none⟩ 1 1 lb cb hne 46 46 5 (cap * 5) hsa hsb (by omega) (hfv 0) (hfv 5)]
    rfl
  have hz2' : ¬ ((i : Int) = (l.length : Int)) := by omega
  have hin : i ≤ l.length := by omega
  have hb1 : ¬ (cap : Int) < (l.length : Int) + 1 := by omega
  have hb2 : ¬ (cap = i + 1) := by omega
  have hb4 : ¬ (cap = i) := by omega
  have hc63 : cap ≤ 9223372036854775807 := hmax
  have hw1 : IntKind.i64.wrap ((i : Int) + 1) = (i : Int) + 1 := by rw [IntKind.wrap_i64]; omega
  have hb5 : (0 : Int) ≤ (i : Int) + 1 := by omega
  have htn : ((i : Int) + 1).toNat = i + 1 := by omega
  have hb3 : (i : Int) ≤ (l.length : Int) + 1 := by omega
  have hb6 : (i : Int) + 1 ≤ (l.length : Int) + 1 := by omega
  have hdl : ((rowC l).drop (i * 5)).length = (l.length - i) * 5 := by rw [List.length_drop, rowC_length]; omega
  have hcp1 : ∀ ty dc sc, (Builtin.copy_ #[22, 22] ty #[.slice (some ⟨g, (i + 1) * 5, none⟩) (l.length - i) dc, .slice (some ⟨g, i * 5, none⟩) (l.length + 1 - i) sc]).run Tryd.prog w.drew = .ok (goInt ((l.length - i : Nat) : Int)) (w.drew.setCells g ((i + 1) * 5) ((rowC l).drop (i * 5))) := fun ty dc sc =>
    run_copy_k w.drew _ _ ty 46 5 g ((i + 1) * 5) (l.length - i) dc ⟨g, i * 5, none⟩ (l.length + 1 - i) sc _ (l.length - i) Tryd.underlying22 hsz (by simp only [Nat.min_def]; split <;> omega) hdl
      (fun j v hj => by rw [Addr.add_lit]; exact hx (i * 5 + j) v (by rwa [List.getElem?_drop] at hj))
      (fun j hj => hsome _ (by rw [hdl] at hj; omega)) (fun j hj => hfz _) (fun v hv => rowC_one l v (List.mem_of_mem_drop hv))
  obtain ⟨W1, hW1⟩ : ∃ W1, W1 = w.drew.setCells g ((i + 1) * 5) ((rowC l).drop (i * 5)) := ⟨_, rfl⟩
  have hin1 : ∀ j u, ((rowC l).drop (i * 5))[j]? = some u → W1.cell? ⟨g, (i + 1) * 5 + j, none⟩ = some u := fun j u hu => by
    obtain ⟨hj, rfl⟩ := List.getElem?_eq_some_iff.1 hu
    rw [hW1]
    exact World.cell?_setCells_in g _ _ w.drew (fun j hj => hsome _ (by rw [hdl] at hj; omega)) j hj
  have hout1 : ∀ j, j < (i + 1) * 5 → W1.cell? ⟨g, j, none⟩ = w.cell? ⟨g, j, none⟩ := fun j hj => by
    rw [hW1]; exact World.cell?_setCells_out g _ _ w.drew _ (fun _ _ => .inl hj)
  have hoth1 : ∀ c, c ≠ g → W1.heap[c]? = w.heap[c]? := fun c hc => by rw [hW1]; exact setCells_other g _ _ w.drew c hc
  have hfz1 : ∀ a, W1.frozen? a = w.frozen? a := fun a => by rw [hW1, World.frozen?_setCells]; rfl
  obtain ⟨cur1, hg1, hs1⟩ : ∃ cur', W1.heap[g]? = some (.cells cur' 46 (0, 0)) ∧ cur'.size = cur.size := by rw [hW1]; exact setCells_block g 46 _ _ w.drew cur hg
  have hrest1 := setCells_rest g ((rowC l).drop (i * 5)) ((i + 1) * 5) w.drew
  have hsize1 := setCells_size g ((rowC l).drop (i * 5)) ((i + 1) * 5) w.drew
  rw [← hW1] at hcp1 hrest1 hsize1
  have hcp2 : ∀ (W : World), W.heap = W1.heap → ∀ ty dc, (Builtin.copy_ #[22, 22] ty #[.slice (some ⟨g, i * 5, none⟩) (l.length + 1 - i) dc, .slice (some ⟨vb, 0, none⟩) 1 1]).run Tryd.prog W = .ok (goInt 1) (W.setCells g (i * 5) x.cells) := fun W hW ty dc => by
    have eg : W.heap[g]? = some (.cells cur1 46 (0, 0)) := by rw [hW]; exact hg1
    refine run_copy_k W _ _ ty 46 5 g (i * 5) (l.length + 1 - i) dc ⟨vb, 0, none⟩ 1 1 x.cells 1 Tryd.underlying22 hsz (by simp only [Nat.min_def]; split <;> omega) rfl
      (World.news_of_block (by rw [hW, hoth1 vb hne]; exact hv)) (fun j hj => ?_) (fun j hj => ?_) qc3
    · rw [cell_of_row W g _ cur1 _ (0, 0) eg, Array.getElem?_eq_getElem (by rw [En.cells_length] at hj; omega)]; rfl
    · simp [World.frozen?, eg]
  have HE : Hid (∀ W : World, W.heap = W1.heap → W.os = w.os → W.tape = w.tape → W.output = w.output → Inserted B w (.slice (some ⟨g, 0, none⟩) l.length cap) (l.take i ++ x :: l.drop i) (.returned (.slice (some ⟨g, 0, none⟩) (l.length + 1) cap)) (W.setCells g (i * 5) x.cells)) := by
    intro W hW ho ht hou
    have eg : W.heap[g]? = some (.cells cur1 46 (0, 0)) := by rw [hW]; exact hg1
    obtain ⟨cur2, hg2, hs2⟩ := setCells_block g 46 x.cells (i * 5) W cur1 eg
    have hr2 := setCells_rest g x.cells (i * 5) W
    have hcW : ∀ a, W.cell? a = W1.cell? a := fun a => World.cell?_of_block (by rw [hW])
    have hlen : (l.take i ++ x :: l.drop i).length = l.length + 1 := by simp; omega
    refine ⟨_, rfl, ?_, ?_⟩
    · rw [hlen]
      refine ownsRow_of hBg hg2 hcap hmax (by omega) (by rw [rowC_length, hlen]) (ins_cells (by omega) ?_ ?_ ?_)
      · intro j hj u hu
        rw [World.cell?_setCells_out g _ _ W _ (fun _ _ => .inl hj), hcW, hout1 j (by omega)]
        exact hx j u hu
      · intro j u hu
        obtain ⟨hj, rfl⟩ := List.getElem?_eq_some_iff.1 hu
        exact World.cell?_setCells_in g _ _ W (fun j hj => by rw [cell_of_row W g _ cur1 _ (0, 0) eg, Array.getElem?_eq_getElem (by rw [En.cells_length] at hj; omega)]; rfl) j hj
      · intro j u hu
        rw [World.cell?_setCells_out g _ _ W _ (fun _ _ => .inr (by show i * 5 + 5 ≤ (i + 1) * 5 + j; omega)), hcW]
        exact hin1 j u hu
    · refine ⟨hr2.1.trans ho, hr2.2.1.trans ht, hr2.2.2.trans hou, ?_, fun c hc hne' => ?_⟩
      · rw [setCells_size, hW, hsize1]; exact Nat.le_refl _
      · have hcg : c ≠ g := fun h => hne' (by rw [h]; rfl)
        rw [setCells_other g _ _ W c hcg, hW, hoth1 c hcg]
  have HC1 : Hid _ := hcp1
  have HC2 : Hid _ := hcp2
  have HR1 : Hid _ := hrest1
  clear hcp1 hcp2 hrest1 hsize1 hin1 hout1 hoth1 hfz1 hg1 hs1 hdl hsome hfz hfv hsa hsb qc2 qc3 hx hW1
  generalize hn : l.length = n at *
  go_enter Tryd.func46, Tryd.ntmps46
  go_wp2_with (simp only [hov])
  go_region_law (refine step_copied rfl _ _ 22 22 rfl (.slice (some ⟨g, (i + 1) * 5, none⟩) (n - i) (cap - (i + 1))) (.slice (some ⟨g, i * 5, none⟩) (n + 1 - i) (cap - i)) (by simp [Act.eval, Act.put]) (by simp [Act.eval, Act.put]) (HC1.out 3 (cap - (i + 1)) (cap - i)) ?_)
  have hc2 := HC2.out W1 rfl
  go_wp2_with fail
  go_ret
  exact HE.out _ rfl HR1.out.1 HR1.out.2.1 HR1.out.2.2
end Go.Proofs.YtippdgmgmenboagDoor

namespace Go.Proofs.YtippdgmgmenboagDoor
set_option linter.unusedVariables false
set_option linter.unusedSimpArgs false
open Go.RowKit Go.Lib

theorem zeroCells_size (z : Array Value) (n : Nat) : (Builtin.zeroCells z n).size = n * z.size := by simp [Builtin.zeroCells]

set_option maxHeartbeats 4000000 in
set_option maxRecDepth 100000 in
theorem insert_grow (B g i : Nat) (l : List En) (x : En) (vb : Nat) (w : World) (hB : B ≤ w.heap.size) (hgw : g < w.heap.size)
    (hx : ∀ j u, (rowC l)[j]? = some u → w.cell? ⟨g, j, none⟩ = some u) (hi : i < l.length) (h8 : l.length ≤ 8)
    (hv : w.heap[vb]? = some (.cells x.cells.toArray 46 (0, 0))) :
    Calls Tryd.prog 46 #[.slice (some ⟨g, 0, none⟩) l.length l.length, .int .i64 i, .slice (some ⟨vb, 0, none⟩) 1 1] w (Inserted B w (.slice (some ⟨g, 0, none⟩) l.length l.length) (l.take i ++ x :: l.drop i)) := by
  obtain ⟨i0, hi0, hz0, hz1, hz2⟩ := info_parts infoEn
  have hsz : (Tryd.prog.info? 46).map (·.size) = some 5 := by rw [hi0]; simp [hz1]
  have hvw : vb < w.heap.size := (Array.getElem?_eq_some_iff.1 hv).1
  have qc3 : ∀ (u : Value), u ∈ x.cells → u.oneCell' = true := fun u hu => rowC_one [x] u (by simpa [rowC] using hu)
  have hold : (Builtin.firstCells i0.size i (.slice (some ⟨g, 0, none⟩) i l.length)).run Tryd.prog w.drew = .ok ((rowC l).take (i * 5)).toArray w.drew := by
    have hl := run_loadCells_list (P := Tryd.prog) w.drew ⟨g, 0, none⟩ ((rowC l).take (i * 5)) (fun j v hj => by
      rw [Addr.add_lit, Nat.zero_add]
      rw [List.getElem?_take] at hj
      split at hj
      · exact hx j v hj
      · cases hj)
    rw [List.length_take, rowC_length, Nat.min_eq_left (by omega)] at hl
    rw [hz1]
    exact hl
  obtain ⟨G, hG⟩ : ∃ G, G = grownCap w (l.length + 1) l.length 46 := ⟨_, rfl⟩
  obtain ⟨ROW, hROW⟩ : ∃ ROW : Array Value, ROW = ((rowC l).take (i * 5)).toArray ++ Builtin.zeroCells (Value.agg #[.int .i64 0, .int .i64 0, .int .i64 0, .bool false, .string ⟨#[]⟩]).cells (l.length + 1 - i) ++ Builtin.zeroCells (Value.agg #[.int .i64 0, .int .i64 0, .int .i64 0, .bool false, .string ⟨#[]⟩]).cells (G - (l.length + 1)) := ⟨_, rfl⟩
  have hGn : l.length + 1 ≤ G := by rw [hG]; exact grownCap_ge w _ _ _
  have hGm : G ≤ maxLen := by rw [hG]; exact grownCap_le_maxLen w _ _ _ (by unfold maxLen; omega)
  have hG63 : G ≤ 9223372036854775807 := hGm
  have hRs : ROW.size = G * 5 := by
    rw [hROW, Array.size_append, Array.size_append, zeroCells_size, zeroCells_size]
    simp only [List.size_toArray, List.length_take, rowC_length, Value.cells]
    show min (i * 5) (l.length * 5) + (l.length + 1 - i) * 5 + (G - (l.length + 1)) * 5 = G * 5
    rw [Nat.min_eq_left (by omega)]
    omega
  have hkk : (l.length : Int) + 1 - (i : Int) = ((l.length + 1 - i : Nat) : Int) := by omega
  obtain ⟨W1, hW1⟩ : ∃ W1, W1 = w.drew.alloc (.cells ROW 46) := ⟨_, rfl⟩
  have hrz : ∀ ty, (Builtin.append_ #[22, 3] ty #[.slice (some ⟨g, 0, none⟩) i l.length, .int .i64 ((l.length : Int) + 1 - (i : Int))]).run Tryd.prog w = .ok (.slice (some ⟨w.heap.size, 0, none⟩) (l.length + 1) G) W1 := fun ty => by
    have h := Lib.run_append_grow_zeros w 22 3 ty 46 i0 _ .i64 .i64 Tryd.underlying22 Tryd.underlying3 hi0 hz0 (some ⟨g, 0, none⟩) i l.length ((rowC l).take (i * 5)) hold (l.length + 1 - i) (by omega) (by omega) (by omega) (by omega) (by rw [hz2]; omega) (by rw [hz2, show i + (l.length + 1 - i) = l.length + 1 by omega]; exact growslice_fits (by omega) (by omega))
    rw [show i + (l.length + 1 - i) = l.length + 1 by omega, ← hG, ← hROW, ← hW1] at h
    rw [hkk]
    exact h
  have hg1 : W1.heap[w.heap.size]? = some (.cells ROW 46 (0, 0)) := by rw [hW1]; exact alloc_at w.drew _ _ rfl
  have hold1 : ∀ c, c < w.heap.size → W1.heap[c]? = w.heap[c]? := fun c hc => by rw [hW1]; exact Below.heap_alloc w.drew _ c hc
  have hs1 : W1.heap.size = w.heap.size + 1 := by rw [hW1]; simp
  have hr1 : W1.os = w.os ∧ W1.tape = w.tape ∧ W1.output = w.output := by rw [hW1]; exact ⟨rfl, rfl, rfl⟩
  obtain ⟨W2, hW2⟩ : ∃ W2, W2 = W1.setCells w.heap.size (i * 5) x.cells := ⟨_, rfl⟩
  have hsomeR : ∀ (W : World) (cur : Array Value), W.heap[w.heap.size]? = some (.cells cur 46 (0, 0)) → cur.size = G * 5 → ∀ j, j < G * 5 → (W.cell? ⟨w.heap.size, j, none⟩).isSome = true := fun W cur h hc j hj => by
    rw [cell_of_row W _ j cur 46 (0, 0) h, Array.getElem?_eq_getElem (by omega)]; rfl
  have hcp1 : ∀ ty dc, (Builtin.copy_ #[22, 22] ty #[.slice (some ⟨w.heap.size, i * 5, none⟩) (l.length + 1 - i) dc, .slice (some ⟨vb, 0, none⟩) 1 1]).run Tryd.prog W1 = .ok (goInt 1) W2 := fun ty dc => by
    rw [hW2]
    exact run_copy_k W1 _ _ ty 46 5 w.heap.size (i * 5) (l.length + 1 - i) dc ⟨vb, 0, none⟩ 1 1 x.cells 1 Tryd.underlying22 hsz (by simp only [Nat.min_def]; split <;> omega) rfl
      (World.news_of_block (by rw [hold1 vb hvw]; exact hv)) (fun j hj => hsomeR W1 ROW hg1 hRs _ (by rw [En.cells_length] at hj; omega)) (fun j hj => by simp [World.frozen?, hg1]) qc3
  obtain ⟨cur2, hg2, hs2⟩ : ∃ cur', W2.heap[w.heap.size]? = some (.cells cur' 46 (0, 0)) ∧ cur'.size = ROW.size := by rw [hW2]; exact setCells_block _ 46 _ _ W1 ROW hg1
  have hold2 : ∀ c, c < w.heap.size → W2.heap[c]? = w.heap[c]? := fun c hc => by rw [hW2, setCells_other _ _ _ W1 c (by omega)]; exact hold1 c hc
  obtain ⟨W3, hW3⟩ : ∃ W3, W3 = W2.drew.setCells w.heap.size ((i + 1) * 5) ((rowC l).drop (i * 5)) := ⟨_, rfl⟩
  have hdl : ((rowC l).drop (i * 5)).length = (l.length - i) * 5 := by rw [List.length_drop, rowC_length]; omega
  have hcp2 : ∀ ty dc sc, (Builtin.copy_ #[22, 22] ty #[.slice (some ⟨w.heap.size, (i + 1) * 5, none⟩) (l.length - i) dc, .slice (some ⟨g, i * 5, none⟩) (l.length - i) sc]).run Tryd.prog W2.drew = .ok (goInt ((l.length - i : Nat) : Int)) W3 := fun ty dc sc => by
    rw [hW3]
    exact run_copy_k W2.drew _ _ ty 46 5 w.heap.size ((i + 1) * 5) (l.length - i) dc ⟨g, i * 5, none⟩ (l.length - i) sc _ (l.length - i) Tryd.underlying22 hsz (by simp only [Nat.min_def]; split <;> omega) hdl
      (fun j v hj => by
        rw [Addr.add_lit]
        exact (World.cell?_of_block (a := ⟨g, i * 5 + j, none⟩) (hold2 g hgw)).trans (hx (i * 5 + j) v (by rwa [List.getElem?_drop] at hj)))
      (fun j hj => hsomeR W2 cur2 hg2 (by omega) _ (by rw [hdl] at hj; omega)) (fun j hj => by show W2.frozen? _ = false; simp [World.frozen?, hg2]) (fun v hv => rowC_one l v (List.mem_of_mem_drop hv))
  have HE : Hid (Inserted B w (.slice (some ⟨g, 0, none⟩) l.length l.length) (l.take i ++ x :: l.drop i) (.returned (.slice (some ⟨w.heap.size, 0, none⟩) (l.length + 1) G)) W3) := by
    obtain ⟨cur3, hg3, hs3⟩ : ∃ cur', W3.heap[w.heap.size]? = some (.cells cur' 46 (0, 0)) ∧ cur'.size = cur2.size := by rw [hW3]; exact setCells_block _ 46 _ _ W2.drew cur2 hg2
    have hlen : (l.take i ++ x :: l.drop i).length = l.length + 1 := by simp; omega
    have r2 := setCells_rest w.heap.size x.cells (i * 5) W1
    have r3 := setCells_rest w.heap.size ((rowC l).drop (i * 5)) ((i + 1) * 5) W2.drew
    rw [← hW2] at r2
    rw [← hW3] at r3
    refine ⟨_, rfl, ?_, ?_⟩
    · rw [hlen]
      refine ownsRow_of hB hg3 hGn hGm (by omega) (by rw [rowC_length, hlen]) (ins_cells (by omega) ?_ ?_ ?_)
      · intro j hj u hu
        rw [hW3, World.cell?_setCells_out _ _ _ W2.drew _ (fun _ _ => .inl (by show j < (i + 1) * 5; omega))]
        show W2.cell? _ = _
        rw [hW2, World.cell?_setCells_out _ _ _ W1 _ (fun _ _ => .inl hj), cell_of_row W1 _ j ROW _ (0, 0) hg1, hROW, Array.append_assoc, Array.getElem?_append_left (by simp [rowC_length]; omega)]
        simp only [List.getElem?_toArray, List.getElem?_take, if_pos hj]
        exact hu
      · intro j u hu
        obtain ⟨hj, rfl⟩ := List.getElem?_eq_some_iff.1 hu
        rw [hW3, World.cell?_setCells_out _ _ _ W2.drew _ (fun _ _ => .inl (by show i * 5 + j < (i + 1) * 5; rw [En.cells_length] at hj; omega))]
        show W2.cell? _ = _
        rw [hW2]
        exact World.cell?_setCells_in _ _ _ W1 (fun j hj => hsomeR W1 ROW hg1 hRs _ (by rw [En.cells_length] at hj; omega)) j hj
      · intro j u hu
        obtain ⟨hj, rfl⟩ := List.getElem?_eq_some_iff.1 hu
        rw [hW3]
        exact World.cell?_setCells_in _ _ _ W2.drew (fun j hj => hsomeR W2 cur2 hg2 (by omega) _ (by rw [hdl] at hj; omega)) j hj
    · refine ⟨r3.1.trans (r2.1.trans hr1.1), r3.2.1.trans (r2.2.1.trans hr1.2.1), r3.2.2.trans (r2.2.2.trans hr1.2.2), ?_, fun c hc _ => ?_⟩
      · rw [hW3, setCells_size]
        show _ ≤ W2.heap.size
        rw [hW2, setCells_size, hs1]
        omega
      · rw [hW3, setCells_other _ _ _ W2.drew c (by omega)]
        exact hold2 c hc
  have hw1 : IntKind.i64.wrap ((i : Int) + 1) = (i : Int) + 1 := by rw [IntKind.wrap_i64]; omega
  have hb5 : (0 : Int) ≤ (i : Int) + 1 := by omega
  have htn : ((i : Int) + 1).toNat = i + 1 := by omega
  have hz2' : ¬ ((i : Int) = (l.length : Int)) := by omega
  have hz3 : (l.length : Int) < (l.length : Int) + 1 := by omega
  have hin : i ≤ l.length := by omega
  have hb3 : (i : Int) ≤ (l.length : Int) := by omega
  have hb4 : ¬ (l.length = i) := by omega
  have hb6 : (i : Int) + 1 ≤ (l.length : Int) + 1 := by omega
  have hb7 : (i : Int) ≤ (l.length : Int) + 1 := by omega
  have hGi : ¬ (G = i) := by omega
  have hGi1 : ¬ (G = i + 1) := by omega
  have HZ : Hid _ := hrz
  have HC2 : Hid _ := hcp2
  clear hrz hcp2 hdl hW1 hW2 hW3 hold2 hg2 hs2 hsomeR hr1 hs1 hold1 hg1 hkk hRs hROW hG hold qc3 hx hv hsz
  generalize hn : l.length = n at *
  go_enter Tryd.func46, Tryd.ntmps46
  go_wp2_with (at_builtin; refine Lib.wpList_append_run _ rfl _ _ _ _ rfl _ _ rfl rfl _ _ (HZ.out _) ?_)
  go_region_law (refine step_copied rfl _ _ 22 22 rfl (.slice (some ⟨w.heap.size, (i + 1) * 5, none⟩) (n - i) (G - (i + 1))) (.slice (some ⟨g, i * 5, none⟩) (n - i) (n - i)) (by simp [Act.eval, Act.put]) (by simp [Act.eval, Act.put]) (HC2.out 3 (G - (i + 1)) (n - i)) ?_)
  go_wp2_with fail
  go_ret
  exact HE.out

theorem insert_c (B : Nat) (v : Value) (i : Nat) (l : List En) (x : En) (vb : Nat) (w : World) (ho : w.ownsRow B 46 5 v l.length (rowC l)) (hB : B ≤ w.heap.size) (hi : i ≤ l.length) (h8 : l.length ≤ 8) (hne : v.ownBlock ≠ some vb)
    (hv : w.heap[vb]? = some (.cells x.cells.toArray 46 (0, 0))) :
    Calls Tryd.prog 46 #[v, .int .i64 i, .slice (some ⟨vb, 0, none⟩) 1 1] w (Inserted B w v (l.take i ++ x :: l.drop i)) := by
  by_cases hin : i = l.length
  · subst hin
    rw [List.take_length, List.drop_length]
    exact insert_end B v l x vb w ho hB h8 hv
  · have hx : ∀ g, v.ownBlock = some g → ∀ j u, (rowC l)[j]? = some u → w.cell? ⟨g, j, none⟩ = some u := fun g hg j u hu => by
      have := ho.cells (g := g) hg j u hu
      simpa [Addr.add_lit] using this
    rcases ho.2 with ⟨rfl, h0⟩ | ⟨g, cap, cur, rfl, h1, hg, hc1, hc2, hs, _⟩
    · omega
    · have hgw : g < w.heap.size := (Array.getElem?_eq_some_iff.1 hg).1
      by_cases hc : l.length + 1 ≤ cap
      · exact insert_shift B g cap i cur l x vb w h1 hg hs (hx g rfl) (by omega) hc hc2 h8 (fun h => hne (by rw [h]; rfl)) hv
      · obtain rfl : cap = l.length := by omega
        exact insert_grow B g i l x vb w hB hgw (hx g rfl) (by omega) h8 hv
end Go.Proofs.YtippdgmgmenboagDoor
