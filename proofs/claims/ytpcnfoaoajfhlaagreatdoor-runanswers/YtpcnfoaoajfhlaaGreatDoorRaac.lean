/-
  A cache in memory: a row of entries; what is wrong with one, as plain functions.
  Package cache by its contracts: Check.
  Where a key lies in a cache: sort.Find, cmp.Compare and package cache's place, by their contracts.
-/
import Derived.Test.YtpcnfoaoajfhlaaGreatDoorRaab
import Derived.BigRegion
import Derived.BigQuiet
namespace Go.Proofs.YtpcnfoaoajfhlaaGreatDoor
set_option linter.unusedVariables false
set_option linter.unusedSimpArgs false
set_option linter.unusedVariables false
set_option linter.unusedSimpArgs false
open Go.RowKit

/-- what is wrong with an entry -/
def En.bad (e : En) : Int := Go.Proofs.YtpcnfoaoajfhlaaGreatDoor.bad e.k e.v e.a e.g e.t
/-- what is wrong with a row, behind a key -/
def badRow : Option Int → List En → Int
  | _, [] => 0
  | p, e :: l => if e.bad ≠ 0 then e.bad else if (match p with | some q => decide (e.k ≤ q) | none => false) = true then 3 else badRow (some e.k) l
/-- what is wrong with a cache -/
def badL (l : List En) : Int := if 8 < l.length then 4 else badRow none l

def En.cells (e : En) : List Value := [.int .i64 e.k, .int .i64 e.v, .int .i64 e.a, .bool e.g, .string e.t]
def rowC : List En → List Value
  | [] => []
  | e :: l => e.cells ++ rowC l
theorem En.cells_length (e : En) : e.cells.length = 5 := rfl
theorem rowC_append (l m : List En) : rowC (l ++ m) = rowC l ++ rowC m := by
  induction l with
  | nil => rfl
  | cons c l ih => simp only [List.cons_append, rowC, ih, List.append_assoc]
theorem rowC_length (l : List En) : (rowC l).length = l.length * 5 := by
  induction l with
  | nil => rfl
  | cons c l ih => simp only [rowC, List.length_append, En.cells_length, ih, List.length_cons]; omega
theorem rowC_one (l : List En) : ∀ u ∈ rowC l, u.oneCell' = true := by
  induction l with
  | nil => intro u hu; simp [rowC] at hu
  | cons c l ih =>
    intro u hu
    simp only [rowC, List.mem_append] at hu
    rcases hu with h | h
    · simp only [En.cells, List.mem_cons, List.not_mem_nil, or_false] at h
      rcases h with rfl | rfl | rfl | rfl | rfl <;> rfl
    · exact ih u h
theorem rowC_get (l : List En) (j : Nat) (h : j < l.length) :
    (rowC l)[j * 5]? = some (.int .i64 l[j].k) ∧ (rowC l)[j * 5 + 1]? = some (.int .i64 l[j].v) ∧ (rowC l)[j * 5 + 2]? = some (.int .i64 l[j].a) ∧ (rowC l)[j * 5 + 3]? = some (.bool l[j].g) ∧ (rowC l)[j * 5 + 4]? = some (.string l[j].t) := by
  induction l generalizing j with
  | nil => simp at h
  | cons c l ih =>
    cases j with
    | zero => simp [rowC, En.cells]
    | succ j =>
      have e := ih j (by simpa using h)
      have e0 : (j + 1) * 5 = j * 5 + 5 := by omega
      simp only [rowC, En.cells, List.cons_append, List.nil_append, e0, List.getElem_cons_succ]
      have e1 : j * 5 + 5 + 1 = (j * 5 + 1) + 5 := by omega
      have e2 : j * 5 + 5 + 2 = (j * 5 + 2) + 5 := by omega
      have e3 : j * 5 + 5 + 3 = (j * 5 + 3) + 5 := by omega
      have e4 : j * 5 + 5 + 4 = (j * 5 + 4) + 5 := by omega
      rw [e1, e2, e3, e4]
      simpa using e
theorem rowC_take (l : List En) (i : Nat) : rowC (l.take i) = (rowC l).take (i * 5) := by
  induction l generalizing i with
  | nil => simp [rowC]
  | cons c l ih =>
    cases i with
    | zero => simp [rowC]
    | succ i =>
      rw [List.take_succ_cons, rowC, ih, rowC, show (i + 1) * 5 = c.cells.length + i * 5 by rw [En.cells_length]; omega, List.take_length_add_append]
theorem rowC_drop (l : List En) (i : Nat) : rowC (l.drop i) = (rowC l).drop (i * 5) := by
  induction l generalizing i with
  | nil => simp [rowC]
  | cons c l ih =>
    cases i with
    | zero => simp [rowC]
    | succ i =>
      rw [List.drop_succ_cons, ih, rowC, show (i + 1) * 5 = c.cells.length + i * 5 by rw [En.cells_length]; omega, List.drop_length_add_append]

/-- an entry's five cells at a place -/
structure EnAt (w : World) (b o : Nat) (e : En) : Prop where
  c0 : w.cell? ⟨b, o, none⟩ = some (.int .i64 e.k)
  c1 : w.cell? ⟨b, o + 1, none⟩ = some (.int .i64 e.v)
  c2 : w.cell? ⟨b, o + 2, none⟩ = some (.int .i64 e.a)
  c3 : w.cell? ⟨b, o + 3, none⟩ = some (.bool e.g)
  c4 : w.cell? ⟨b, o + 4, none⟩ = some (.string e.t)
theorem EnAt.of_block {w w' : World} {b o : Nat} {e : En} (h : EnAt w b o e) (hb : w'.heap[b]? = w.heap[b]?) : EnAt w' b o e :=
  ⟨(World.cell?_of_block (a := ⟨b, o, none⟩) hb).trans h.c0, (World.cell?_of_block (a := ⟨b, o + 1, none⟩) hb).trans h.c1, (World.cell?_of_block (a := ⟨b, o + 2, none⟩) hb).trans h.c2, (World.cell?_of_block (a := ⟨b, o + 3, none⟩) hb).trans h.c3, (World.cell?_of_block (a := ⟨b, o + 4, none⟩) hb).trans h.c4⟩

/-- a slice that holds a row of entries -/
def RowIs (w : World) (v : Value) (l : List En) : Prop :=
  l.length ≤ maxLen ∧ ∃ p cap, v = .slice p l.length cap ∧ (l ≠ [] → ∃ b o, p = some ⟨b, o, none⟩ ∧ b < w.heap.size ∧ ∀ j (h : j < l.length), EnAt w b (o + j * 5) l[j])
theorem RowIs.blocks {w w' : World} {v : Value} {l : List En} (h : RowIs w v l) (hs : w.heap.size ≤ w'.heap.size) (hb : ∀ c, v.ownBlock = some c → c < w.heap.size → w'.heap[c]? = w.heap[c]?) : RowIs w' v l := by
  obtain ⟨h0, p, cap, rfl, h1⟩ := h
  refine ⟨h0, p, cap, rfl, fun hn => ?_⟩
  obtain ⟨b, o, rfl, hlt, hc⟩ := h1 hn
  exact ⟨b, o, rfl, Nat.lt_of_lt_of_le hlt hs, fun j hj => (hc j hj).of_block (hb b rfl hlt)⟩
theorem RowIs.below {w w' : World} {v : Value} {l : List En} (h : RowIs w v l) (hb : Below w.heap.size w w') : RowIs w' v l :=
  h.blocks hb.size (fun c _ hc => hb.block c hc)
theorem RowIs.nil (w : World) : RowIs w (.slice none 0 0) [] := ⟨by simp, none, 0, rfl, fun h => absurd rfl h⟩
/-- a row that the call owns is one -/
theorem RowIs.own {w : World} {B : Nat} {v : Value} {l : List En} (h : w.ownsRow B 46 5 v l.length (rowC l)) : RowIs w v l := by
  have hcell : ∀ g, v.ownBlock = some g → ∀ j u, (rowC l)[j]? = some u → w.cell? ⟨g, j, none⟩ = some u := fun g hg j u hu => by
    have := h.cells (g := g) hg j u hu
    simpa [Addr.add_lit] using this
  rcases h.2 with ⟨rfl, h0⟩ | ⟨g, cap, cur, rfl, _, hg, hc1, hc2, _⟩
  · rw [List.length_eq_zero_iff.1 h0]
    exact RowIs.nil w
  · refine ⟨Nat.le_trans hc1 hc2, _, cap, rfl, fun _ => ⟨g, 0, rfl, (Array.getElem?_eq_some_iff.1 hg).1, fun j hj => ?_⟩⟩
    obtain ⟨a0, a1, a2, a3, a4⟩ := rowC_get l j hj
    exact ⟨by simpa using hcell g rfl _ _ a0, by simpa using hcell g rfl _ _ a1, by simpa using hcell g rfl _ _ a2, by simpa using hcell g rfl _ _ a3, by simpa using hcell g rfl _ _ a4⟩
theorem RowIs.cells {w : World} {b o cap : Nat} {l : List En} (hc : ∀ j (h : j < l.length), EnAt w b (o + j * 5) l[j]) : ∀ i u, (rowC l)[i]? = some u → w.cell? ⟨b, o + i, none⟩ = some u := by
  intro i u hu
  have hi : i < l.length * 5 := by
    have := (List.getElem?_eq_some_iff.1 hu).1
    rwa [rowC_length] at this
  have hj : i / 5 < l.length := by omega
  obtain ⟨a0, a1, a2, a3, a4⟩ := rowC_get l (i / 5) hj
  have hr : i = i / 5 * 5 + i % 5 := by omega
  have h5 : i % 5 < 5 := by omega
  obtain ⟨x0, x1, x2, x3, x4⟩ := hc (i / 5) hj
  generalize i % 5 = r at hr h5
  rw [hr] at hu ⊢
  match r, h5 with
  | 0, _ => rw [Nat.add_zero] at hu ⊢; rw [a0] at hu; rw [← Option.some.inj hu]; exact x0
  | 1, _ => rw [a1] at hu; rw [← Option.some.inj hu, ← Nat.add_assoc]; exact x1
  | 2, _ => rw [a2] at hu; rw [← Option.some.inj hu, ← Nat.add_assoc]; exact x2
  | 3, _ => rw [a3] at hu; rw [← Option.some.inj hu, ← Nat.add_assoc]; exact x3
  | 4, _ => rw [a4] at hu; rw [← Option.some.inj hu, ← Nat.add_assoc]; exact x4

theorem infoEn : (Tryz.prog.info? 46).map (fun i => (i.zero, i.size, i.bytes)) = some (some (.agg #[.int .i64 0, .int .i64 0, .int .i64 0, .bool false, .string ⟨#[]⟩]), 5, 48) := by kernel_rfl
end Go.Proofs.YtpcnfoaoajfhlaaGreatDoor

namespace Go.Proofs.YtpcnfoaoajfhlaaGreatDoor
set_option linter.unusedVariables false
set_option linter.unusedSimpArgs false
open Go.RowKit

theorem badRow_step (l : List En) (j : Nat) (p : Option Int) (h : j < l.length) : badRow p (l.drop j) = if l[j].bad ≠ 0 then l[j].bad else if (match p with | some q => decide (l[j].k ≤ q) | none => false) = true then 3 else badRow (some l[j].k) (l.drop (j + 1)) := by
  rw [List.drop_eq_getElem_cons h]
  cases p <;> rfl
theorem badRow_bad {l : List En} {j : Nat} {p : Option Int} (h : j < l.length) (hb : l[j].bad ≠ 0) : badRow p (l.drop j) = l[j].bad := by rw [badRow_step l j p h, if_pos hb]
theorem badRow_low {l : List En} {j : Nat} {q : Int} (h : j < l.length) (hb : l[j].bad = 0) (hk : l[j].k ≤ q) : badRow (some q) (l.drop j) = 3 := by rw [badRow_step l j _ h, if_neg (by simpa using hb), if_pos (by simpa using hk)]
theorem badRow_next {l : List En} {j : Nat} {q : Int} (h : j < l.length) (hb : l[j].bad = 0) (hk : ¬ l[j].k ≤ q) : badRow (some q) (l.drop j) = badRow (some l[j].k) (l.drop (j + 1)) := by rw [badRow_step l j _ h, if_neg (by simpa using hb), if_neg (by simpa using hk)]
theorem badRow_first {l : List En} {j : Nat} (h : j < l.length) (hb : l[j].bad = 0) : badRow none (l.drop j) = badRow (some l[j].k) (l.drop (j + 1)) := by rw [badRow_step l j _ h, if_neg (by simpa using hb), if_neg (by simp)]

/-- the key ahead of a place -/
def keyAhead (l : List En) (j : Nat) : Option Int := if h : 0 < j ∧ j - 1 < l.length then some (l[j - 1]'h.2).k else none
theorem keyAhead_zero (l : List En) : keyAhead l 0 = none := by simp [keyAhead]
theorem keyAhead_succ (l : List En) (j : Nat) (h : j < l.length) : keyAhead l (j + 1) = some l[j].k := by simp [keyAhead, h]

set_option maxHeartbeats 4000000 in
theorem cacheCheck_c (v : Value) (l : List En) (w : World) (hr : RowIs w v l) :
    Calls Tryz.prog 70 #[v] w fun e w' => e = .returned (eV (badL l)) ∧ Below w.heap.size w w' := by
  obtain ⟨hlen, p, cap, rfl, hrow⟩ := hr
  by_cases h8 : 8 < l.length
  · have e : badL l = 4 := by rw [badL, if_pos h8]
    rw [e]
    have h8i : (8 : Int) < (l.length : Int) := by omega
    go_enter Tryz.func70, Tryz.ntmps70
    go_wp2_with fail
    go_ret
    exact ⟨rfl, by go_grown⟩
  · have E : Hid (badL l = badRow (keyAhead l 0) (l.drop 0)) := by
      show badL l = _
      rw [badL, if_neg h8, keyAhead_zero, List.drop_zero]
    obtain ⟨R, HR⟩ : ∃ R, Hid (badL l = R) := ⟨_, rfl⟩
    rw [HR.out]
    have HRow : Hid (l ≠ [] → ∃ b o, p = some ⟨b, o, none⟩ ∧ b < w.heap.size ∧ ∀ j (h : j < l.length), EnAt w b (o + j * 5) l[j]) := hrow
    clear hrow
    have h8i : ¬ (8 : Int) < (l.length : Int) := by omega
    generalize hn : l.length = n at hlen h8 h8i ⊢
    have HN : Hid (l.length = n) := hn
    clear hn
    go_enter Tryz.func70, Tryz.ntmps70
    go_wp2_with fail
    go_loopw [12] (fun i wr => ∃ j : Nat, j ≤ n ∧ i = .int .i64 j ∧ Hid (R = badRow (keyAhead l j) (l.drop j)) ∧ Hid (Below w.heap.size w wr)) (fun i _ => n - (intOf i).toNat)
    case atStart => exact ⟨0, Nat.zero_le _, rfl, HR.out.symm.trans E.out, Below.refl _ _⟩
    case round =>
      obtain ⟨j, hj, rfl, HJ, HB⟩ := hrel
      by_cases hlt : j < n
      · have hl : l ≠ [] := by intro h; have := HN.out; rw [h] at this; simp at this; omega
        obtain ⟨b, o, rfl, hbw, hat⟩ := HRow.out hl
        have hjl : j < l.length := by rw [HN.out]; exact hlt
        have HA : Hid (∀ j (h : j < l.length), EnAt wr b (o + j * 5) l[j]) := fun j h => (hat j h).of_block (HB.out.block b hbw)
        clear hat
        have hws := HB.out.size
        have hbr : b < wr.heap.size := by omega
        obtain ⟨x, HX⟩ : ∃ x, Hid (l[j] = x) := ⟨l[j], show l[j] = l[j] from rfl⟩
        obtain ⟨c0, c1, c2, c3, c4⟩ := HA.out j hjl
        rw [HX.out] at c0 c1 c2 c3 c4
        obtain ⟨k, vv, a, g, t⟩ := x
        dsimp only at c0 c1 c2 c3 c4
        obtain ⟨m, HM⟩ : ∃ m, Hid (bad k vv a g t = m) := ⟨_, rfl⟩
        have HLb : Hid (l[j].bad = m) := by
          show l[j].bad = m
          rw [HX.out]
          exact HM.out
        have HLk : Hid (l[j].k = k) := by
          show l[j].k = k
          rw [HX.out]
        clear HX
        go_wp2_with fail
        by_cases hm : m = 0
        · subst hm
          refine (check_ok HM.out _).mono ?_
          rintro e w1 ⟨rfl, hb⟩
          have B1 : Hid (Below w.heap.size w w1) := (HB.out.alloc hws _).trans (hb.mono (by simp; omega))
          obtain ⟨d0, d1, d2, d3, d4, df⟩ := (box_new wr k vv a g t wr.heap.size rfl).below hb (by simp)
          have HA1 : Hid (∀ j (h : j < l.length), EnAt w1 b (o + j * 5) l[j]) := fun j h => ((HA.out j h).of_block (Below.heap_alloc _ _ _ hbr)).of_block (hb.block b (by simp; omega))
          clear hb c0 c1 c2 c3 c4 HA HM
          by_cases h0 : j = 0
          · subst h0
            rw [keyAhead_zero, badRow_first hjl HLb.out, HLk.out] at HJ
            go_upto_region 9 with fail
            go_region
            all_goals go_wp2_with fail
            all_goals go_roundw
            case rel => exact ⟨1, by omega, by go_num, by rw [show (1 : Nat) = 0 + 1 from rfl, keyAhead_succ l 0 hjl, HLk.out]; exact HJ, B1.out.drew⟩
            case measure => simp [intOf]; omega
          · obtain ⟨i, rfl⟩ : ∃ i, j = i + 1 := ⟨j - 1, by omega⟩
            have hil : i < l.length := by omega
            obtain ⟨q, HQ⟩ : ∃ q, Hid (l[i].k = q) := ⟨l[i].k, show l[i].k = l[i].k from rfl⟩
            rw [keyAhead_succ l i hil, HQ.out] at HJ
            have y0 := (HA1.out i hil).c0
            rw [HQ.out] at y0
            have g0 : (0 : Int) < ((i : Int) + 1) := by omega
            have g1 : ((i : Int) + 1 - 1) = i := by omega
            have g2 : (i : Int) < (n : Int) := by omega
            by_cases hk : k ≤ q
            · rw [badRow_low hjl HLb.out (by rw [HLk.out]; exact hk)] at HJ
              go_upto_region 9 with fail
              go_region
              all_goals go_wp2_with fail
              all_goals go_ret
              all_goals exact ⟨by rw [HJ.out]; rfl, B1.out.drew⟩
            · rw [badRow_next hjl HLb.out (by rw [HLk.out]; exact hk), HLk.out] at HJ
              go_upto_region 9 with fail
              go_region
              all_goals go_wp2_with fail
              all_goals go_roundw
              case rel => exact ⟨i + 1 + 1, by omega, by go_num, by rw [keyAhead_succ l (i + 1) hjl, HLk.out]; exact HJ, B1.out.drew⟩
              case measure => simp [intOf]; omega
        · refine (check_err HM.out hm _).mono ?_
          rintro e w1 ⟨rfl, hb⟩
          have B1 : Hid (Below w.heap.size w w1) := (HB.out.alloc hws _).trans (hb.mono (by simp; omega))
          clear hb
          rw [badRow_bad hjl (by rw [HLb.out]; exact hm), HLb.out] at HJ
          go_wp2_with fail
          go_ret
          exact ⟨by rw [HJ.out]; simp [eV, hm], B1.out⟩
      · obtain rfl : j = n := by omega
        have HR0 : Hid (R = 0) := by
          show R = 0
          rw [HJ.out, List.drop_eq_nil_of_le (by rw [HN.out]; exact Nat.le_refl _)]
          cases keyAhead l j <;> rfl
        go_wp2_with fail
        go_ret
        exact ⟨by rw [HR0.out]; rfl, HB.out⟩
end Go.Proofs.YtpcnfoaoajfhlaaGreatDoor

namespace Go.Proofs.YtpcnfoaoajfhlaaGreatDoor
set_option linter.unusedVariables false
set_option linter.unusedSimpArgs false
open Go.RowKit

def cmpI (x y : Int) : Int := if x < y then -1 else if y < x then 1 else 0
theorem compare_c (x y : Int) (w : World) : Calls Tryz.prog 108 #[.int .i64 x, .int .i64 y] w fun e w' => e = .returned (.int .i64 (cmpI x y)) ∧ w' = w := by
  by_cases h1 : x < y
  · go_enter Tryz.func108, Tryz.ntmps108
    go_wp2
    go_ret
    exact ⟨by simp [cmpI, h1], rfl⟩
  · by_cases h2 : y < x
    · go_enter Tryz.func108, Tryz.ntmps108
      go_wp2
      go_ret
      exact ⟨by rw [cmpI, if_neg (by omega), if_pos h2]; rfl, rfl⟩
    · go_enter Tryz.func108, Tryz.ntmps108
      go_wp2
      go_ret
      exact ⟨by rw [cmpI, if_neg (by omega), if_neg (by omega)]; rfl, rfl⟩

theorem below_drewN (B : Nat) (w : World) (n : Nat) : Below B w (w.drewN n) := ⟨rfl, rfl, rfl, Nat.le_refl _, fun _ _ => rfl⟩
/-- the two boxes that the closure has captured, and the row -/
structure Caught (w : World) (kb lb : Nat) (key : Int) (b o cap : Nat) (l : List En) : Prop where
  ck : w.cell? ⟨kb, 0, none⟩ = some (.int .i64 key)
  cl : w.cell? ⟨lb, 0, none⟩ = some (.slice (some ⟨b, o, none⟩) l.length cap)
  row : ∀ j (h : j < l.length), EnAt w b (o + j * 5) l[j]
  lt : b < w.heap.size
theorem Caught.below {w w' : World} {kb lb : Nat} {key : Int} {b o cap : Nat} {l : List En} (h : Caught w kb lb key b o cap l) (hb : Below w.heap.size w w') : Caught w' kb lb key b o cap l :=
  ⟨(World.cell?_of_block (a := ⟨kb, 0, none⟩) (hb.block kb (World.block_lt_of_cell? w _ h.ck))).trans h.ck, (World.cell?_of_block (a := ⟨lb, 0, none⟩) (hb.block lb (World.block_lt_of_cell? w _ h.cl))).trans h.cl, fun j hj => (h.row j hj).of_block (hb.block b h.lt), Nat.lt_of_lt_of_le h.lt hb.size⟩

set_option maxHeartbeats 2000000 in
theorem closure_c (i : Nat) (kb lb : Nat) (key : Int) (b o cap : Nat) (l : List En) (w : World) (hi : i < l.length) (h : Caught w kb lb key b o cap l) :
    Calls Tryz.prog 160 #[.int .i64 i, .pointer (some ⟨kb, 0, none⟩), .pointer (some ⟨lb, 0, none⟩)] w fun e w' => e = .returned (.int .i64 (cmpI key l[i].k)) ∧ Below w.heap.size w w' := by
  obtain ⟨ck, cl, row, lt⟩ := h
  have c0 := (row i hi).c0
  clear row
  have hin : (i : Int) < (l.length : Int) := by omega
  generalize l[i].k = y at c0 ⊢
  generalize l.length = n at cl hi hin ⊢
  go_enter Tryz.func160, Tryz.ntmps160
  go_wp2_with fail
  go_quiet (first | (go_at_call 108; exact Calls.quiet_of_same (compare_c _ _ _)))
  go_wp2_with fail
  go_ret
  exact ⟨rfl, below_drewN _ _ _⟩

set_option maxHeartbeats 4000000 in
/-- sort.Find over that closure: m keys are less -/
theorem find_c (kb lb : Nat) (key : Int) (b o cap : Nat) (l : List En) (m : Nat) (is : Bool) (w : World) (h8 : l.length ≤ 8) (h : l ≠ [] → Caught w kb lb key b o cap l) (hm : m ≤ l.length)
    (h1 : ∀ j (hj : j < l.length), j < m → l[j].k < key) (h2 : ∀ j (hj : j < l.length), m ≤ j → key ≤ l[j].k) (h3 : is = decide (∃ hj : m < l.length, l[m].k = key)) :
    Calls Tryz.prog 159 #[.int .i64 l.length, .func (.func 160) #[] #[.pointer (some ⟨kb, 0, none⟩), .pointer (some ⟨lb, 0, none⟩)]] w fun e w' => e = .returned (.tuple #[.int .i64 m, .bool is]) ∧ Below w.heap.size w w' := by
  have HC : Hid (l ≠ [] → Caught w kb lb key b o cap l) := h
  have H1 : Hid (∀ j (hj : j < l.length), j < m → l[j].k < key) := h1
  have H2 : Hid (∀ j (hj : j < l.length), m ≤ j → key ≤ l[j].k) := h2
  have H3 : Hid (is = decide (∃ hj : m < l.length, l[m].k = key)) := h3
  clear h h1 h2 h3
  obtain ⟨n, HN⟩ : ∃ n, Hid (l.length = n) := ⟨l.length, show l.length = l.length from rfl⟩
  rw [HN.out] at h8 hm ⊢
  go_enter Tryz.func159, Tryz.ntmps159
  go_wp2_with fail
  go_loopw [4, 6] (fun s4 s6 wr => ∃ lo hi : Nat, s4 = .int .i64 lo ∧ s6 = .int .i64 hi ∧ lo ≤ m ∧ m ≤ hi ∧ hi ≤ n ∧ Hid (Below w.heap.size w wr)) (fun s4 s6 _ => (intOf s6).toNat - (intOf s4).toNat)
  case atStart => exact ⟨0, n, rfl, rfl, Nat.zero_le _, hm, Nat.le_refl _, Below.refl _ _⟩
  case round =>
    obtain ⟨lo, hi, rfl, rfl, hlm, hmh, hhn, HB⟩ := hrel
    by_cases hlt : lo < hi
    · have hl : l ≠ [] := by intro h; have := HN.out; rw [h] at this; simp at this; omega
      have hmid : (lo + hi) / 2 < l.length := by rw [HN.out]; omega
      have hc := closure_c ((lo + hi) / 2) kb lb key b o cap l wr hmid ((HC.out hl).below HB.out)
      rw [show (((lo + hi) / 2 : Nat) : Int) = ((lo : Int) + (hi : Int)) / 2 by omega] at hc
      have HCC : Hid _ := hc
      clear hc
      by_cases hp : (lo + hi) / 2 < m
      · have hk := H1.out _ hmid hp
        have hcm : cmpI key l[(lo + hi) / 2].k = 1 := by rw [cmpI, if_neg (by omega), if_pos hk]
        go_wp2_with fail
        refine Calls.mono HCC.out ?_
        rintro e w1 ⟨rfl, hb⟩
        rw [hcm]
        have B1 : Hid (Below w.heap.size w w1) := HB.out.trans (hb.mono HB.out.size)
        clear hb hcm hk
        go_wp2_with fail
        go_roundw
        case rel => exact ⟨(lo + hi) / 2 + 1, hi, by go_num, rfl, by omega, hmh, hhn, B1⟩
        case measure => simp [intOf]; omega
      · have hk := H2.out _ hmid (by omega)
        obtain ⟨c, hcm, hc0⟩ : ∃ c, cmpI key l[(lo + hi) / 2].k = c ∧ c ≤ 0 := by
          refine ⟨_, rfl, ?_⟩
          rw [cmpI]
          split
          · omega
          · rw [if_neg (by omega)]; omega
        go_wp2_with fail
        refine Calls.mono HCC.out ?_
        rintro e w1 ⟨rfl, hb⟩
        rw [hcm]
        have B1 : Hid (Below w.heap.size w w1) := HB.out.trans (hb.mono HB.out.size)
        clear hb hcm hk
        go_wp2_with fail
        go_roundw
        case rel => exact ⟨lo, (lo + hi) / 2, rfl, by go_num, hlm, by omega, by omega, B1⟩
        case measure => simp [intOf]; omega
    · obtain rfl : lo = m := by omega
      by_cases hmn : lo < n
      · have hl : l ≠ [] := by intro h; have := HN.out; rw [h] at this; simp at this; omega
        have hll : lo < l.length := by rw [HN.out]; omega
        have HCC : Hid _ := closure_c lo kb lb key b o cap l wr hll ((HC.out hl).below HB.out)
        have hmi : (lo : Int) < (n : Int) := by omega
        have hk := H2.out _ hll (Nat.le_refl _)
        obtain ⟨c, hcm, hc0⟩ : ∃ c, cmpI key l[lo].k = c ∧ (c = 0 ↔ l[lo].k = key) := by
          refine ⟨_, rfl, ?_⟩
          rw [cmpI]
          split
          · omega
          · rw [if_neg (by omega)]; omega
        have HI : Hid (is = (c == 0)) := by
          show is = (c == 0)
          rw [H3.out]
          by_cases hz : c = 0
          · rw [hz, decide_eq_true ⟨hll, hc0.1 hz⟩]; rfl
          · rw [decide_eq_false (fun ⟨_, h⟩ => hz (hc0.2 h))]; simp [hz]
        clear hc0 hk
        go_wp2_with fail
        refine Calls.mono HCC.out ?_
        rintro e w1 ⟨rfl, hb⟩
        rw [hcm]
        have B1 : Hid (Below w.heap.size w w1) := HB.out.trans (hb.mono HB.out.size)
        clear hb hcm
        go_wp2_with fail
        go_ret2
        exact ⟨by rw [HI.out]; rfl, B1.out⟩
      · have hmi : ¬ (lo : Int) < (n : Int) := by omega
        have hmd : decide ((lo : Int) < (n : Int)) = false := decide_eq_false hmi
        have HI : Hid (is = false) := by
          show is = false
          rw [H3.out, decide_eq_false (fun ⟨h, _⟩ => hmn (by rw [← HN.out]; exact h))]
        go_wp2_with fail
        go_ret2
        exact ⟨by rw [HI.out]; rfl, HB.out⟩

/-- how many keys of a rising row are less -/
def placeE : List En → Int → Nat
  | [], _ => 0
  | e :: l, key => if e.k < key then placeE l key + 1 else 0
/-- what a row has of a key -/
def getE (l : List En) (key : Int) : Option En := l.find? (fun e => e.k == key)
/-- keys rising -/
def Rising (l : List En) : Prop := l.Pairwise (fun x y => x.k < y.k)
theorem placeE_le (l : List En) (key : Int) : placeE l key ≤ l.length := by
  induction l with
  | nil => simp [placeE]
  | cons e l ih => simp only [placeE]; split <;> simp <;> omega
theorem placeE_less (l : List En) (key : Int) (j : Nat) (hj : j < l.length) (h : j < placeE l key) : l[j].k < key := by
  induction l generalizing j with
  | nil => simp at hj
  | cons e l ih =>
    simp only [placeE] at h
    split at h
    · cases j with
      | zero => simpa
      | succ j => exact ih j (by simpa using hj) (by omega)
    · omega
theorem placeE_more (l : List En) (key : Int) (hs : Rising l) (j : Nat) (hj : j < l.length) (h : placeE l key ≤ j) : key ≤ l[j].k := by
  induction l generalizing j with
  | nil => simp at hj
  | cons e l ih =>
    have hs' := List.pairwise_cons.1 hs
    simp only [placeE] at h
    split at h
    · cases j with
      | zero => omega
      | succ j => exact ih hs'.2 j (by simpa using hj) (by omega)
    · cases j with
      | zero => simp; omega
      | succ j =>
        have hj' : j < l.length := by simpa using hj
        have := hs'.1 l[j] (List.getElem_mem _)
        simp only [List.getElem_cons_succ]
        omega
theorem getE_place (l : List En) (key : Int) (hs : Rising l) : (∃ hj : placeE l key < l.length, l[placeE l key].k = key) ↔ (getE l key).isSome = true := by
  constructor
  · rintro ⟨hj, h⟩
    rw [getE, List.find?_isSome]
    exact ⟨_, List.getElem_mem hj, by simpa using h⟩
  · intro h
    rw [getE, List.find?_isSome] at h
    obtain ⟨x, hx, hk⟩ := h
    obtain ⟨j, hj, rfl⟩ := List.getElem_of_mem hx
    have hk : l[j].k = key := by simpa using hk
    have h1 : placeE l key ≤ j := by
      rcases Nat.lt_or_ge j (placeE l key) with h | h
      · have := placeE_less l key j hj h; omega
      · exact h
    have h2 : placeE l key < l.length := by omega
    refine ⟨h2, ?_⟩
    have h3 := placeE_more l key hs _ h2 (Nat.le_refl _)
    rcases Nat.lt_or_ge (placeE l key) j with h | h
    · have := List.pairwise_iff_getElem.1 hs _ _ h2 hj h
      omega
    · have : placeE l key = j := by omega
      simp only [this]; exact hk
theorem getE_some {l : List En} {key : Int} {x : En} (hs : Rising l) (h : getE l key = some x) : ∃ hj : placeE l key < l.length, l[placeE l key] = x ∧ x.k = key := by
  obtain ⟨hj, hk⟩ := (getE_place l key hs).2 (by rw [h]; rfl)
  refine ⟨hj, ?_, ?_⟩
  · obtain ⟨i, hi, rfl⟩ := List.getElem_of_mem (List.mem_of_find?_eq_some h)
    have hx : l[i].k = key := by simpa using List.find?_some h
    rcases Nat.lt_trichotomy (placeE l key) i with h' | h' | h'
    · have := List.pairwise_iff_getElem.1 hs _ _ hj hi h'; omega
    · simp only [h']
    · have := List.pairwise_iff_getElem.1 hs _ _ hi hj h'; omega
  · simpa using List.find?_some h

def lowK (p : Option Int) (k : Int) : Bool := match p with | some q => decide (k ≤ q) | none => false
theorem badRow_cons (p : Option Int) (e : En) (l : List En) : badRow p (e :: l) = if e.bad ≠ 0 then e.bad else if lowK p e.k = true then 3 else badRow (some e.k) l := by cases p <;> rfl
theorem badRow_good {p : Option Int} {l : List En} (h : badRow p l = 0) : (∀ e ∈ l, e.bad = 0) ∧ Rising l ∧ ∀ q, p = some q → ∀ e ∈ l, q < e.k := by
  induction l generalizing p with
  | nil => exact ⟨by simp, List.Pairwise.nil, by simp⟩
  | cons e l ih =>
    rw [badRow_cons] at h
    by_cases h0 : e.bad = 0
    · rw [if_neg (by simpa using h0)] at h
      split at h
      · omega
      · rename_i hp
        obtain ⟨i1, i2, i3⟩ := ih h
        refine ⟨?_, List.pairwise_cons.2 ⟨fun y hy => i3 e.k rfl y hy, i2⟩, ?_⟩
        · intro x hx
          rcases List.mem_cons.1 hx with rfl | hx
          · exact h0
          · exact i1 x hx
        · rintro q rfl x hx
          have hq : q < e.k := by simpa [lowK] using hp
          rcases List.mem_cons.1 hx with rfl | hx
          · exact hq
          · have := i3 e.k rfl x hx; omega
    · rw [if_pos h0] at h
      exact absurd h h0
theorem badRow_zero {p : Option Int} {l : List En} (h1 : ∀ e ∈ l, e.bad = 0) (h2 : Rising l) (h3 : ∀ q, p = some q → ∀ e ∈ l, q < e.k) : badRow p l = 0 := by
  induction l generalizing p with
  | nil => cases p <;> rfl
  | cons e l ih =>
    rw [badRow_cons, if_neg (by simpa using h1 e (by simp)), if_neg, ih (fun x hx => h1 x (by simp [hx])) (List.pairwise_cons.1 h2).2 (fun q hq x hx => by rw [← Option.some.inj hq]; exact (List.pairwise_cons.1 h2).1 x hx)]
    cases p with
    | none => simp [lowK]
    | some q => have := h3 q rfl e (by simp); simpa [lowK] using this
/-- a right cache -/
structure GoodL (l : List En) : Prop where
  len : l.length ≤ 8
  all : ∀ e ∈ l, e.bad = 0
  rise : Rising l
theorem badL_good {l : List En} (h : badL l = 0) : GoodL l := by
  unfold badL at h
  split at h
  · omega
  · obtain ⟨h1, h2, _⟩ := badRow_good h
    exact ⟨by omega, h1, h2⟩
theorem GoodL.bad {l : List En} (h : GoodL l) : badL l = 0 := by
  rw [badL, if_neg (by have := h.len; omega)]
  exact badRow_zero h.all h.rise (by simp)

set_option maxHeartbeats 2000000 in
theorem place_c (v : Value) (l : List En) (key : Int) (w : World) (hr : RowIs w v l) (hg : GoodL l) :
    Calls Tryz.prog 117 #[v, .int .i64 key] w fun e w' => e = .returned (.tuple #[.int .i64 (placeE l key), .bool (getE l key).isSome]) ∧ Below w.heap.size w w' := by
  have HG : Hid (GoodL l) := hg
  have h8 := hg.len
  have HR : Hid (RowIs w v l) := hr
  obtain ⟨hlen, p, cap, rfl, hrow⟩ := hr
  have HRow : Hid (l ≠ [] → ∃ b o, p = some ⟨b, o, none⟩ ∧ b < w.heap.size ∧ ∀ j (h : j < l.length), EnAt w b (o + j * 5) l[j]) := hrow
  clear hrow hg
  obtain ⟨is, HI⟩ : ∃ is, Hid ((getE l key).isSome = is) := ⟨_, rfl⟩
  rw [HI.out]
  have H3 : Hid (is = decide (∃ hj : placeE l key < l.length, l[placeE l key].k = key)) := by
    show is = _
    rw [← HI.out]
    have := getE_place l key HG.out.rise
    cases hq : (getE l key).isSome
    · rw [decide_eq_false]
      rw [this, hq]; simp
    · rw [decide_eq_true]
      rw [this, hq]
  obtain ⟨m, HM⟩ : ∃ m, Hid (placeE l key = m) := ⟨_, rfl⟩
  have hm1 := placeE_le l key
  have hm2 := placeE_less l key
  have hm3 := placeE_more l key HG.out.rise
  have h3 := H3.out
  simp only [HM.out] at hm1 hm2 hm3 h3
  have HC : Hid (l ≠ [] → ∃ b o c, ∀ w', Below (w.heap.size + 2) ((w.alloc (.cells #[.slice p l.length cap] 32)).alloc (.cells #[.int .i64 key] 3)) w' → Caught w' (w.heap.size + 1) w.heap.size key b o c l) := by
    intro hl
    obtain ⟨b, o, rfl, hbw, hat⟩ := HRow.out hl
    refine ⟨b, o, cap, fun w' hw' => ?_⟩
    have hc : Caught ((w.alloc (.cells #[.slice (some ⟨b, o, none⟩) l.length cap] 32)).alloc (.cells #[.int .i64 key] 3)) (w.heap.size + 1) w.heap.size key b o cap l := by
      refine ⟨by simp, by simp, fun j hj => ((hat j hj).of_block (Below.heap_alloc _ _ _ hbw)).of_block (Below.heap_alloc _ _ _ (by simp; omega)), by simp; omega⟩
    exact hc.below (hw'.mono (by simp))
  rw [HM.out]
  have hfind : ∀ W, Below (w.heap.size + 2) ((w.alloc (.cells #[.slice p l.length cap] 32)).alloc (.cells #[.int .i64 key] 3)) W → Calls Tryz.prog 159 #[.int .i64 l.length, .func (.func 160) #[] #[.pointer (some ⟨w.heap.size + 1, 0, none⟩), .pointer (some ⟨w.heap.size, 0, none⟩)]] W fun e w' => e = .returned (.tuple #[.int .i64 m, .bool is]) ∧ Below W.heap.size W w' := by
    intro W hW
    by_cases hl : l = []
    · exact find_c _ _ key 0 0 0 l m is W h8 (fun h => absurd hl h) hm1 (fun j hj h => hm2 j hj h) (fun j hj h => hm3 j hj h) h3
    · obtain ⟨b, o, c, hc⟩ := HC.out hl
      exact find_c _ _ key b o c l m is W h8 (fun _ => hc W hW) hm1 (fun j hj h => hm2 j hj h) (fun j hj h => hm3 j hj h) h3
  have HF : Hid _ := hfind
  clear hfind hm1 hm2 hm3 h3
  go_enter Tryz.func117, Tryz.ntmps117
  go_wp2_with fail
  refine Calls.mono (HF.out _ (Below.refl _ _)) ?_
  rintro e w1 ⟨rfl, hb⟩
  have B1 : Hid (Below w.heap.size w w1) := Below.trans (by go_grown) (hb.mono (by simp; omega))
  clear hb
  go_wp2_with fail
  go_ret2
  exact ⟨rfl, B1.out⟩
end Go.Proofs.YtpcnfoaoajfhlaaGreatDoor
