/-
  The document's Pick (mereref2) by its contract.
-/
import Derived.Test.YtpelbmhhppcmeafDoorRuB
import Derived.Test.YtpelbmhhppcmeafDoorRuD
import Derived.Deep.OwnRows
namespace Go.Proofs.YtpelbmhhppcmeafDoor
set_option linter.unusedVariables false
set_option linter.unusedSimpArgs false
open Go.RowKit

/-- so many yes and no at a block -/
structure FlagsAt (w : World) (b m : Nat) (o : Nat → Bool) : Prop where
  lt : b < w.heap.size
  cell : ∀ k, k < m → w.cell? ⟨b, k, none⟩ = some (.bool (o k))
  fz : ∀ j, w.frozen? ⟨b, j, none⟩ = false
theorem FlagsAt.of_block {w w' : World} {b m : Nat} {o : Nat → Bool} (h : FlagsAt w b m o) (hs : w.heap.size ≤ w'.heap.size) (hb : w'.heap[b]? = w.heap[b]?) : FlagsAt w' b m o :=
  ⟨Nat.lt_of_lt_of_le h.lt hs, fun k hk => (World.cell?_of_block (a := ⟨b, k, none⟩) hb).trans (h.cell k hk), fun j => (World.frozen?_of_block (a := ⟨b, j, none⟩) hb).trans (h.fz j)⟩
theorem FlagsAt.below {w w' : World} {b m B : Nat} {o : Nat → Bool} (h : FlagsAt w b m o) (hb : Below B w w') (hB : b < B) : FlagsAt w' b m o := h.of_block hb.size (hb.block b hB)
theorem FlagsAt.drew {w : World} {b m : Nat} {o : Nat → Bool} (h : FlagsAt w b m o) : FlagsAt w.drew b m o := h.of_block (Nat.le_refl _) rfl
theorem FlagsAt.set {w : World} {b m : Nat} {o : Nat → Bool} (h : FlagsAt w b m o) (k : Nat) (hk : k < m) (z : Bool) : FlagsAt (w.setCell ⟨b, k, none⟩ (.bool z)) b m (fun j => if j = k then z else o j) := by
  refine ⟨by rw [World.size_setCell]; exact h.lt, fun j hj => ?_, fun j => by rw [World.frozen?_setCell]; exact h.fz j⟩
  by_cases e : j = k
  · subst e
    rw [if_pos rfl]
    exact World.cell?_setCell_same _ _ _ (h.cell j hj)
  · rw [if_neg e, World.cell?_setCell_other _ _ _ _ (by simp [e])]
    exact h.cell j hj
theorem FlagsAt.to {w : World} {b m : Nat} {o o' : Nat → Bool} (h : FlagsAt w b m o) (e : ∀ k, k < m → o k = o' k) : FlagsAt w b m o' := ⟨h.lt, fun k hk => by rw [← e k hk]; exact h.cell k hk, h.fz⟩
theorem flags_new (w : World) (t : TypeId) (m : Nat) : FlagsAt (w.alloc (.cells (madeCells #[.bool false] m) t)) w.heap.size m (fun _ => false) := by
  refine ⟨by simp, fun k hk => ?_, fun j => by simp⟩
  rw [World.cell?_alloc_at _ _ _ _ rfl]
  simp [madeCells, hk, Nat.mod_one]
theorem infoBool : (Tryd.prog.info? 4).map (fun i => (i.zero, i.size, i.bytes)) = some (some (.bool false), 1, 1) := by kernel_rfl
/-- is the one at a place among so many? -/
def gotA (l : List Ru) (k q : Nat) : Bool := (l[q]?).any (gotR l k)
theorem gotA_at {l : List Ru} {k q : Nat} (h : q < l.length) : gotA l k q = gotR l k l[q] := by simp [gotA, h]
theorem gotA_zero (l : List Ru) (q : Nat) : gotA l 0 q = false := by
  unfold gotA
  cases l[q]? <;> simp [gotR]
/-- the least of those among the first j that are not told -/
def BestInv (l : List Ru) (k j : Nat) (best : Int) : Prop :=
  (best = -1 ∧ ∀ q (_ : q < l.length), q < j → gotR l k l[q] = true) ∨ ∃ b, ∃ hb : b < l.length, best = (b : Int) ∧ b < j ∧ gotR l k l[b] = false ∧ ∀ q (_ : q < l.length), q < j → gotR l k l[q] = false → lexB l[q] l[b] = false
theorem best_start (l : List Ru) (k : Nat) : BestInv l k 0 (-1) := .inl ⟨rfl, fun _ _ h => absurd h (Nat.not_lt_zero _)⟩
theorem best_range {l : List Ru} {k j : Nat} {best : Int} (h : BestInv l k j best) : best = -1 ∨ ∃ b, ∃ _ : b < l.length, best = (b : Int) ∧ b < j := by
  rcases h with ⟨h, _⟩ | ⟨b, hb, h1, h2, _⟩
  · exact .inl h
  · exact .inr ⟨b, hb, h1, h2⟩
theorem best_skip {l : List Ru} {k j : Nat} {best : Int} (hj : j < l.length) (hg : gotR l k l[j] = true) (h : BestInv l k j best) : BestInv l k (j + 1) best := by
  rcases h with ⟨h, h1⟩ | ⟨b, hb, h1, h2, h3, h4⟩
  · refine .inl ⟨h, fun q hq hqj => ?_⟩
    rcases Nat.lt_succ_iff_lt_or_eq.1 hqj with e | e
    · exact h1 q hq e
    · subst e
      exact hg
  · refine .inr ⟨b, hb, h1, by omega, h3, fun q hq hqj hgq => ?_⟩
    rcases Nat.lt_succ_iff_lt_or_eq.1 hqj with e | e
    · exact h4 q hq e hgq
    · subst e
      rw [hg] at hgq
      cases hgq
theorem best_first {l : List Ru} {k j : Nat} (hj : j < l.length) (hg : gotR l k l[j] = false) (h : BestInv l k j (-1)) : BestInv l k (j + 1) (j : Int) := by
  rcases h with ⟨_, h1⟩ | ⟨b, hb, h1, _⟩
  · refine .inr ⟨j, hj, rfl, by omega, hg, fun q hq hqj hgq => ?_⟩
    rcases Nat.lt_succ_iff_lt_or_eq.1 hqj with e | e
    · rw [h1 q hq e] at hgq
      cases hgq
    · subst e
      exact lexB_irr _
  · omega
theorem best_less {l : List Ru} {k j b : Nat} (hj : j < l.length) (hb : b < l.length) (hg : gotR l k l[j] = false) (ht : l[j].t < l[b].t) (h : BestInv l k j (b : Int)) : BestInv l k (j + 1) (j : Int) := by
  rcases h with ⟨h, _⟩ | ⟨b', hb', h1, h2, h3, h4⟩
  · omega
  · obtain rfl : b = b' := by omega
    refine .inr ⟨j, hj, rfl, by omega, hg, fun q hq hqj hgq => ?_⟩
    rcases Nat.lt_succ_iff_lt_or_eq.1 hqj with e | e
    · have h5 := h4 q hq e hgq
      cases h6 : lexB l[q] l[j]
      · rfl
      · rw [lexB_trans h6 ((lexB_iff _ _).2 (.inl ht))] at h5
        cases h5
    · subst e
      exact lexB_irr _
theorem best_keep {l : List Ru} {k j b : Nat} (hr : RiseR l) (hj : j < l.length) (hb : b < l.length) (ht : ¬ l[j].t < l[b].t) (h : BestInv l k j (b : Int)) : BestInv l k (j + 1) (b : Int) := by
  rcases h with ⟨h, _⟩ | ⟨b', hb', h1, h2, h3, h4⟩
  · omega
  · obtain rfl : b = b' := by omega
    refine .inr ⟨b, hb, rfl, by omega, h3, fun q hq hqj hgq => ?_⟩
    rcases Nat.lt_succ_iff_lt_or_eq.1 hqj with e | e
    · exact h4 q hq e hgq
    · subst e
      have := List.pairwise_iff_getElem.1 hr b q hb hq h2
      rw [Bool.eq_false_iff, ne_eq, lexB_iff]
      omega
theorem best_none {l : List Ru} {k : Nat} (h : BestInv l k l.length (-1)) (q : Nat) (hq : q < l.length) : gotA l (k + 1) q = gotA l k q := by
  rcases h with ⟨_, h1⟩ | ⟨b, hb, h1, _⟩
  · rw [gotA_at hq, gotA_at hq, h1 q hq hq]
    have := (gotR_iff _ _ _).1 (h1 q hq hq)
    rw [gotR_iff]
    omega
  · omega
theorem best_some {l : List Ru} {k b : Nat} (hr : RiseR l) (h : BestInv l k l.length (b : Int)) (q : Nat) (hq : q < l.length) : gotA l (k + 1) q = if q = b then true else gotA l k q := by
  rcases h with ⟨h, _⟩ | ⟨b', hb', h1, h2, h3, h4⟩
  · omega
  · obtain rfl : b = b' := by omega
    rw [gotA_at hq, gotA_at hq, got_next hr (List.getElem_mem hb') h3 (fun s hs hg => by
      obtain ⟨p, hp, rfl⟩ := List.getElem_of_mem hs
      exact h4 p hp hp hg) (List.getElem_mem hq)]
    by_cases e : q = b
    · subst e
      simp
    · rw [if_neg e, decide_eq_false, Bool.or_false]
      intro hn
      rcases Nat.lt_or_gt_of_ne e with h | h
      · have := List.pairwise_iff_getElem.1 hr q b hq hb' h
        omega
      · have := List.pairwise_iff_getElem.1 hr b q hb' hq h
        omega
set_option maxRecDepth 100000 in
set_option maxHeartbeats 3000000 in
theorem rPick_c (v : Value) (l : List Ru) (k : Nat) (limit : Int) (w : World) (hr : RusIs w v l) (hg : GoodR l) (hk : k ≤ 6) :
    Calls Tryd.prog 25 #[v, .int .i64 k, .int .i64 limit] w fun e w' => ∃ v1 v2, e = .returned (.tuple #[v1, v2]) ∧ OwnM w.heap.size w' v1 (toldR l k) ∧ OwnR w.heap.size w' v2 (leftR l k limit) ∧ Below w.heap.size w w' := by
  have HG : Hid (GoodR l) := hg
  have h6 := goodR_len HG.out
  obtain ⟨hlen, p, cap, rfl, hrow⟩ := hr
  have HRow : Hid (l ≠ [] → ∃ b o, p = some ⟨b, o, none⟩ ∧ b < w.heap.size ∧ ∀ j (h : j < l.length), RuAt w b (o + j * 4) l[j]) := hrow
  have HE1 : Hid (toldR l k = toldTo l k l.length) := by
    show _ = _
    unfold toldTo toldR
    rw [List.take_length]
  have HE2 : Hid (leftR l k limit = leftTo l k limit l.length) := by
    show _ = _
    unfold leftTo leftR
    rw [List.take_length]
  clear hrow hg
  obtain ⟨n, HN⟩ : ∃ n, Hid (l.length = n) := ⟨_, rfl⟩
  rw [HN.out] at h6 hlen HE1 HE2 ⊢
  have hmk := run_make_row' (P := Tryd.prog) 76 4 (.bool false) 1 Tryd.underlying76 infoBool rfl .i64 .i64 n (by omega) (by omega)
  go_enter Tryd.func25, Tryd.ntmps25
  go_upto_region 2 with fail
  obtain ⟨w1, HW1⟩ : ∃ x, x = w.alloc (.cells (madeCells #[.bool false] n) 4) := ⟨_, rfl⟩
  rw [← HW1]
  have F1 : Hid (FlagsAt w1 w.heap.size n (gotA l 0)) := by rw [HW1]; exact (flags_new w _ n).to (fun q _ => (gotA_zero l q).symm)
  have B1 : Hid (Below w.heap.size w w1) := by rw [HW1]; exact (Below.refl _ w).alloc (Nat.le_refl _) _
  have hs1 : w1.heap.size = w.heap.size + 1 := by rw [HW1]; simp
  clear HW1 hmk
  go_wp2_with fail
  go_loopw [9, 10, 11] (fun s9 s10 s11 wr => ∃ (i : Nat) (y10 y11 : Value), s9 = .int .i64 i ∧ s10 = y10 ∧ s11 = y11 ∧ i ≤ k ∧ Hid (FlagsAt wr w.heap.size n (gotA l i)) ∧ Hid (Below w.heap.size w wr) ∧ Hid (w1.heap.size ≤ wr.heap.size)) (fun i _ _ _ => k - (intOf i).toNat)
  case atStart => exact ⟨0, _, _, rfl, rfl, rfl, Nat.zero_le _, F1, B1, Nat.le_refl _⟩
  case round =>
    obtain ⟨i, y10, y11, rfl, h10, h11, hi, HF, HB, HZ⟩ := hrel
    have h10' := h10.symm
    clear h10
    subst h10'
    have h11' := h11.symm
    clear h11
    subst h11'
    by_cases hik : i < k
    · have hiki : (i : Int) < (k : Int) := by omega
      go_wp2_with fail
      go_loopw [10, 11] (fun s10 s11 wj => ∃ (j : Nat) (best : Int), s10 = .int .i64 best ∧ s11 = .int .i64 j ∧ j ≤ n ∧ Hid (BestInv l i j best) ∧ Hid (FlagsAt wj w.heap.size n (gotA l i)) ∧ Hid (Below w.heap.size w wj) ∧ Hid (w1.heap.size ≤ wj.heap.size)) (fun _ j _ => n - (intOf j).toNat)
      case atStart => exact ⟨0, -1, rfl, rfl, Nat.zero_le _, best_start _ _, HF, HB, HZ⟩
      case round =>
        obtain ⟨j, best, rfl, rfl, hj, HI, HFj, HBj, HZj⟩ := hrel
        by_cases hlt : j < n
        · have hl0 : l ≠ [] := by intro h; have := HN.out; rw [h] at this; simp at this; omega
          obtain ⟨b0, o, rfl, hbw, hat⟩ := HRow.out hl0
          have hjl : j < l.length := by rw [HN.out]; exact hlt
          have HA : Hid (∀ q (h : q < l.length), RuAt wr b0 (o + q * 4) l[q]) := fun q h => (hat q h).of_block (HBj.out.block b0 hbw)
          clear hat
          have hlti : (j : Int) < (n : Int) := by omega
          have f0 := HFj.out.cell j hlt
          obtain ⟨g, HGj⟩ : ∃ g, Hid (gotA l i j = g) := ⟨_, rfl⟩
          rw [HGj.out] at f0
          have HGr : Hid (gotR l i l[j] = g) := by
            show _ = _
            rw [← HGj.out, gotA_at hjl]
          cases g
          · rcases best_range HI.out with hb | ⟨b, hbl, hbe, hbj⟩
            · have HI2 : Hid (BestInv l i (j + 1) (j : Int)) := best_first hjl HGr.out (by rw [← hb]; exact HI.out)
              subst hb
              go_upto_region 9 with fail
              go_quiet (fail)
              go_wp2_with fail
              go_roundw
              case rel => exact ⟨j + 1, j, rfl, by go_num, by omega, HI2, HFj.out.of_block (Nat.le_refl _) rfl, HBj.out.trans (below_drewN _ _ _), HZj.out⟩
              case measure => simp [intOf]; omega
            · have hbn : b < n := by rw [← HN.out]; exact hbl
              have hbi : (b : Int) < (n : Int) := by omega
              have hb0 : ¬ (b : Int) < 0 := by omega
              obtain ⟨tj, HTj⟩ : ∃ t, Hid (l[j].t = t) := ⟨l[j].t, show l[j].t = l[j].t from rfl⟩
              obtain ⟨tb, HTb⟩ : ∃ t, Hid (l[b].t = t) := ⟨l[b].t, show l[b].t = l[b].t from rfl⟩
              have c3 := (HA.out j hjl).c3
              have d3 := (HA.out b hbl).c3
              rw [HTj.out] at c3
              rw [HTb.out] at d3
              by_cases ht : tj < tb
              · have HI2 : Hid (BestInv l i (j + 1) (j : Int)) := best_less hjl hbl HGr.out (by rw [HTj.out, HTb.out]; exact ht) (by rw [← hbe]; exact HI.out)
                subst hbe
                go_upto_region 9 with fail
                go_quiet (fail)
                go_wp2_with fail
                go_roundw
                case rel => exact ⟨j + 1, j, rfl, by go_num, by omega, HI2, HFj.out.of_block (Nat.le_refl _) rfl, HBj.out.trans (below_drewN _ _ _), HZj.out⟩
                case measure => simp [intOf]; omega
              · have HI2 : Hid (BestInv l i (j + 1) (b : Int)) := best_keep HG.out.1 hjl hbl (by rw [HTj.out, HTb.out]; exact ht) (by rw [← hbe]; exact HI.out)
                subst hbe
                go_upto_region 9 with fail
                go_quiet (fail)
                go_wp2_with fail
                go_roundw
                case rel => exact ⟨j + 1, b, rfl, by go_num, by omega, HI2, HFj.out.of_block (Nat.le_refl _) rfl, HBj.out.trans (below_drewN _ _ _), HZj.out⟩
                case measure => simp [intOf]; omega
          · have HI2 : Hid (BestInv l i (j + 1) best) := best_skip hjl HGr.out HI.out
            go_upto_region 9 with fail
            go_quiet (fail)
            go_wp2_with fail
            go_roundw
            case rel => exact ⟨j + 1, best, rfl, by go_num, by omega, HI2, HFj.out.of_block (Nat.le_refl _) rfl, HBj.out.trans (below_drewN _ _ _), HZj.out⟩
            case measure => simp [intOf]; omega
        · obtain rfl : j = n := by omega
          rcases best_range HI.out with hb | ⟨b, hbl, hbe, hbj⟩
          · have HF2 : Hid (FlagsAt wr w.heap.size j (gotA l (i + 1))) := HFj.out.to (fun q hq => (best_none (by rw [← hb, HN.out]; exact HI.out) q (by rw [HN.out]; exact hq)).symm)
            subst hb
            go_wp2_with fail
            go_roundw
            case rel => exact ⟨i + 1, _, _, by go_num, rfl, rfl, by omega, HF2, HBj, HZj⟩
            case measure => simp [intOf]; omega
          · have HF2 : Hid (FlagsAt (wr.setCell ⟨w.heap.size, b, none⟩ (.bool true)) w.heap.size j (gotA l (i + 1))) := (HFj.out.set b hbj true).to (fun q hq => (best_some HG.out.1 (by rw [← hbe, HN.out]; exact HI.out) q (by rw [HN.out]; exact hq)).symm)
            have HB2 : Hid (Below w.heap.size w (wr.setCell ⟨w.heap.size, b, none⟩ (.bool true))) := HBj.out.setCell (Nat.le_refl _) _
            have f0 := HFj.out.cell b hbj
            have ff := HFj.out.fz b
            have hbi : (b : Int) < (j : Int) := by omega
            subst hbe
            go_wp2_with fail
            go_roundw
            case rel => exact ⟨i + 1, _, _, by go_num, rfl, rfl, by omega, HF2, HB2, by rw [World.size_setCell]; exact HZj⟩
            case measure => simp [intOf]; omega
    · obtain rfl : i = k := by omega
      obtain ⟨w3, h⟩ : ∃ x, x = wr := ⟨_, rfl⟩
      subst h
      have HF3 : Hid (FlagsAt w3 w.heap.size n (gotA l i)) := HF
      have B3 : Hid (Below w.heap.size w w3) := HB
      have hs3 : w.heap.size < w3.heap.size := by have := HZ.out; omega
      clear HF HB HZ F1 B1
      go_wp2_with fail
      go_loopw [12, 13, 14, 15] (fun s11 s12 s34 s15 wr => ∃ (j : Nat) (v11 v12 y15 : Value), s11 = v11 ∧ s12 = v12 ∧ s34 = .int .i64 j ∧ s15 = y15 ∧ j ≤ n ∧ Hid (OwnM w3.heap.size wr v11 (toldTo l i j)) ∧ Hid (OwnR w3.heap.size wr v12 (leftTo l i limit j)) ∧ Hid (Below w3.heap.size w3 wr)) (fun _ _ i _ _ => n - (intOf i).toNat)
      case atStart => exact ⟨0, _, _, _, rfl, rfl, rfl, rfl, Nat.zero_le _, OwnM.nil _ _, OwnR.nil _ _, Below.refl _ _⟩
      case round =>
        obtain ⟨j, v11, v12, y15, h11, h12, rfl, h15, hj, HO1, HO2, HB⟩ := hrel
        have h15' := h15.symm
        clear h15
        subst h15'
        have h11' := h11.symm
        clear h11
        subst h11'
        have h12' := h12.symm
        clear h12
        subst h12'
        by_cases hlt : j < n
        · have hl0 : l ≠ [] := by intro h; have := HN.out; rw [h] at this; simp at this; omega
          obtain ⟨b, o, rfl, hbw, hat⟩ := HRow.out hl0
          have hjl : j < l.length := by rw [HN.out]; exact hlt
          have HBw : Hid (Below w.heap.size w wr) := B3.out.trans (HB.out.mono B3.out.size)
          have HA : Hid (RuAt wr b (o + j * 4) l[j]) := (hat j hjl).of_block (HBw.out.block b hbw)
          clear hat
          have hws : w3.heap.size ≤ wr.heap.size := HB.out.size
          obtain ⟨x, HX⟩ : ∃ x, Hid (l[j] = x) := ⟨l[j], show l[j] = l[j] from rfl⟩
          have hmem : l[j] ∈ l := List.getElem_mem hjl
          rw [HX.out] at HA hmem
          have hxo := (Ru.ok_iff x).1 (HG.out.2 x hmem)
          obtain ⟨g, HGt⟩ : ∃ g, Hid (gotR l i x = g) := ⟨_, rfl⟩
          have HFl : Hid (gotA l i j = g) := (gotA_at hjl).trans ((congrArg (gotR l i) HX.out).trans HGt.out)
          have HS1 : Hid (toldTo l i (j + 1) = if g = true then toldTo l i j ++ [x.m] else toldTo l i j) := toldTo_succ hjl HX.out HGt.out
          have HS2 : Hid (leftTo l i limit (j + 1) = leftTo l i limit j ++ (bumpR g limit x).toList) := leftTo_succ hjl HX.out HGt.out
          have hl1 := toldTo_len l i j
          have hl2 := leftTo_len l i limit j
          clear hmem
          obtain ⟨⟨x0, x1, x2⟩, x3⟩ := x
          have hx3 : 0 ≤ x3 ∧ x3 ≤ 60 := hxo.2
          clear hxo
          obtain ⟨c0, c1, c2, c3⟩ := HA.out
          dsimp only at c0 c1 c2 c3
          have hlti : (j : Int) < (n : Int) := by omega
          obtain ⟨T, HT⟩ : ∃ T, Hid (toldTo l i j = T) := ⟨_, rfl⟩
          obtain ⟨L, HL'⟩ : ∃ L, Hid (leftTo l i limit j = L) := ⟨_, rfl⟩
          rw [HT.out] at HO1 HS1 hl1
          rw [HL'.out] at HO2 HS2 hl2
          go_upto_region 19 with fail
          obtain ⟨w4, HW4⟩ : ∃ x, x = wr.alloc (.cells #[.int .i64 x0, .int .i64 x1, .int .i64 x2, .int .i64 x3] 71) := ⟨_, rfl⟩
          rw [← HW4]
          have X4 : Hid (BoxR w4 wr.heap.size x0 x1 x2 x3) := by rw [HW4]; exact boxR_new wr x0 x1 x2 x3 _ rfl
          have HY4 : Hid (w4.heap[wr.heap.size]? = some (.cells #[.int .i64 x0, .int .i64 x1, .int .i64 x2, .int .i64 x3] 71 (0, 0))) := by rw [HW4]; exact alloc_at _ _ _ rfl
          have HB4 : Hid (Below w3.heap.size w3 w4) := by rw [HW4]; exact HB.out.alloc hws _
          have B44 : Hid (Below wr.heap.size wr w4) := by rw [HW4]; exact (Below.refl _ _).alloc (Nat.le_refl _) _
          clear HW4 c0 c1 c2 c3
          obtain ⟨d0, d1, d2, d3, df⟩ := X4.out
          have X5 : Hid (BoxR w4 wr.heap.size x0 x1 x2 x3) := X4
          have HY5 : Hid (w4.heap[wr.heap.size]? = some (.cells #[.int .i64 x0, .int .i64 x1, .int .i64 x2, .int .i64 x3] 71 (0, 0))) := HY4
          have HB5 : Hid (Below w3.heap.size w3 w4) := HB4
          have B55 : Hid (Below wr.heap.size wr w4) := B44
          have O51 : Hid (OwnM w3.heap.size w4 v11 T) := HO1.out.below B55.out
          have O52 : Hid (OwnR w3.heap.size w4 v12 L) := HO2.out.below B55.out
          have hlt1 : Hid (∀ c, v11.ownBlock = some c → c < wr.heap.size) := ownsRow_lt HO1.out
          have hlt2 : Hid (∀ c, v12.ownBlock = some c → c < wr.heap.size) := ownsRow_lt HO2.out
          clear d0 d1 d2 d3 df X4 HB4 B44 HO1 HO2
          have f0 := (HF3.out.below HB5.out hs3).cell j hlt
          rw [HFl.out] at f0
          obtain ⟨d0, d1, d2, d3, df⟩ := X5.out
          cases g
          · have HOa : Hid (OwnR w3.heap.size (w4.alloc (.cells #[.int .i64 x0, .int .i64 x1, .int .i64 x2, .int .i64 x3] 71)) v12 L) := O52.out.below ((Below.refl _ _).alloc (Nat.le_refl _) _)
            have HVa : Hid ((w4.alloc (.cells #[.int .i64 x0, .int .i64 x1, .int .i64 x2, .int .i64 x3] 71)).heap[w4.heap.size]? = some (.cells (Ru.cells ⟨⟨x0, x1, x2⟩, x3⟩).toArray 71 (0, 0))) := alloc_at _ _ _ rfl
            have HSa : Hid (w3.heap.size ≤ (w4.alloc (.cells #[.int .i64 x0, .int .i64 x1, .int .i64 x2, .int .i64 x3] 71)).heap.size) := show _ ≤ _ from (by have := HB5.out.size; simp; omega)
            have HOb : Hid (OwnM w3.heap.size (w4.alloc (.cells #[.int .i64 x0, .int .i64 x1, .int .i64 x2, .int .i64 x3] 71)) v11 T) := O51.out.below ((Below.refl _ _).alloc (Nat.le_refl _) _)
            go_wp2_with (at_builtin; refine wp_appR _ rfl _ _ rfl w3.heap.size _ L ⟨⟨x0, x1, x2⟩, x3⟩ rfl HOa.out _ rfl HVa.out (by omega) HSa.out ?_)
            intro va wa hown hgrow
            have HOp : Hid (OwnR w3.heap.size wa va (L ++ [⟨⟨x0, x1, x2⟩, x3⟩])) := hown
            have HOm : Hid (OwnM w3.heap.size wa v11 T) := HOb.out.beside HOa.out hgrow.out
            have HBp : Hid (Below w3.heap.size w3 wa) := below_grown (HB5.out.alloc HB5.out.size _) (Nat.le_refl _) hgrow.out (fun c hc => O52.out.from c hc)
            clear hown hgrow HOa HVa HSa HOb d0 d1 d2 d3 df
            go_wp2_with fail
            go_roundw
            case rel =>
              refine ⟨j + 1, _, _, _, rfl, rfl, by go_num, rfl, by omega, ?_, ?_, HBp⟩
              · rw [HS1.out, if_neg (by simp)]
                exact HOm
              · rw [HS2.out]
                exact HOp
            case measure => simp [intOf]; omega
          · have HOa : Hid (OwnM w3.heap.size (w4.alloc (.cells #[.int .i64 x0, .int .i64 x1, .int .i64 x2] 23)) v11 T) := O51.out.below ((Below.refl _ _).alloc (Nat.le_refl _) _)
            have HVa : Hid ((w4.alloc (.cells #[.int .i64 x0, .int .i64 x1, .int .i64 x2] 23)).heap[w4.heap.size]? = some (.cells (Mm.cells ⟨x0, x1, x2⟩).toArray 23 (0, 0))) := alloc_at _ _ _ rfl
            have HSa : Hid (w3.heap.size ≤ (w4.alloc (.cells #[.int .i64 x0, .int .i64 x1, .int .i64 x2] 23)).heap.size) := show _ ≤ _ from (by have := HB5.out.size; simp; omega)
            have HOb : Hid (OwnR w3.heap.size (w4.alloc (.cells #[.int .i64 x0, .int .i64 x1, .int .i64 x2] 23)) v12 L) := O52.out.below ((Below.refl _ _).alloc (Nat.le_refl _) _)
            go_wp2_with (at_builtin; refine wp_appM _ rfl _ _ rfl w3.heap.size _ T ⟨x0, x1, x2⟩ rfl HOa.out _ rfl HVa.out (by omega) HSa.out ?_)
            intro va wa hown hgrow
            have HOp : Hid (OwnM w3.heap.size wa va (T ++ [⟨x0, x1, x2⟩])) := hown
            have HOm : Hid (OwnR w3.heap.size wa v12 L) := HOb.out.beside HOa.out hgrow.out
            have HBp : Hid (Below w3.heap.size w3 wa) := below_grown (HB5.out.alloc HB5.out.size _) (Nat.le_refl _) hgrow.out (fun c hc => O51.out.from c hc)
            have Xa : Hid (BoxR wa wr.heap.size x0 x1 x2 x3) := (X5.out.alloc _).of_block (hgrow.out.block _ (by have := X5.out.lt; simp; omega) (fun h => by have := hlt1.out _ h.symm; omega))
            have HYa : Hid (wa.heap[wr.heap.size]? = some (.cells #[.int .i64 x0, .int .i64 x1, .int .i64 x2, .int .i64 x3] 71 (0, 0))) := ((hgrow.out.block _ (by have := X5.out.lt; simp; omega) (fun h => by have := hlt1.out _ h.symm; omega)).trans (Below.heap_alloc _ _ _ X5.out.lt)).trans HY5.out
            have HLa : Hid (∀ c, va.ownBlock = some c → c ≠ wr.heap.size) := by
              intro c hc hcw
              subst hcw
              rcases HOp.out.2 with ⟨rfl, _⟩ | ⟨g, cap', cur, rfl, _, hg, _⟩
              · cases hc
              · have e : g = wr.heap.size := Option.some.inj hc
                subst e
                rw [HYa.out] at hg
                simp at hg
            clear hown hgrow HOa HVa HSa HOb d0 d1 d2 d3 df f0 O51 O52 HB5 B55
            obtain ⟨d0, d1, d2, d3, df⟩ := Xa.out
            have hwr : IntKind.i64.wrap (x3 + 1) = x3 + 1 := by rw [IntKind.wrap_i64]; omega
            go_upto_region 22 with fail
            obtain ⟨wb, HWb⟩ : ∃ x, x = wa.setCell ⟨wr.heap.size, 3, none⟩ (.int .i64 (x3 + 1)) := ⟨_, rfl⟩
            rw [← HWb]
            have Xb : Hid (BoxR wb wr.heap.size x0 x1 x2 (x3 + 1)) := by rw [HWb]; exact Xa.out.told _
            have HBb : Hid (Below w3.heap.size w3 wb) := by rw [HWb]; exact HBp.out.setCell hws _
            have Ob1 : Hid (OwnM w3.heap.size wb va (T ++ [⟨x0, x1, x2⟩])) := by
              rw [HWb]
              exact ownsRow_keep HOp.out (fun c hc => Below.heap_setCell _ _ _ c (HLa.out c hc))
            have Ob2 : Hid (OwnR w3.heap.size wb v12 L) := by
              rw [HWb]
              exact ownsRow_keep HOm.out (fun c hc => Below.heap_setCell _ _ _ c (by have := hlt2.out c hc; simp; omega))
            clear HWb d0 d1 d2 d3 df Xa HBp HOp HOm HLa HYa X5 HY5 HY4
            obtain ⟨d0, d1, d2, d3, df⟩ := Xb.out
            by_cases hlm : x3 + 1 < limit
            · have hlm2 : ¬ limit ≤ x3 + 1 := by omega
              have HS2' : Hid (leftTo l i limit (j + 1) = L ++ [⟨⟨x0, x1, x2⟩, x3 + 1⟩]) := by
                show _ = _
                rw [HS2.out, bumpR, if_pos rfl, if_neg (by dsimp only; omega)]
                rfl
              have HOa : Hid (OwnR w3.heap.size (wb.alloc (.cells #[.int .i64 x0, .int .i64 x1, .int .i64 x2, .int .i64 (x3 + 1)] 71)) v12 L) := Ob2.out.below ((Below.refl _ _).alloc (Nat.le_refl _) _)
              have HVa : Hid ((wb.alloc (.cells #[.int .i64 x0, .int .i64 x1, .int .i64 x2, .int .i64 (x3 + 1)] 71)).heap[wb.heap.size]? = some (.cells (Ru.cells ⟨⟨x0, x1, x2⟩, x3 + 1⟩).toArray 71 (0, 0))) := alloc_at _ _ _ rfl
              have HSa : Hid (w3.heap.size ≤ (wb.alloc (.cells #[.int .i64 x0, .int .i64 x1, .int .i64 x2, .int .i64 (x3 + 1)] 71)).heap.size) := show _ ≤ _ from (by have := HBb.out.size; simp; omega)
              have HOb : Hid (OwnM w3.heap.size (wb.alloc (.cells #[.int .i64 x0, .int .i64 x1, .int .i64 x2, .int .i64 (x3 + 1)] 71)) va (T ++ [⟨x0, x1, x2⟩])) := Ob1.out.below ((Below.refl _ _).alloc (Nat.le_refl _) _)
              go_wp2_with (at_builtin; refine wp_appR _ rfl _ _ rfl w3.heap.size _ L ⟨⟨x0, x1, x2⟩, x3 + 1⟩ rfl HOa.out _ rfl HVa.out (by omega) HSa.out ?_)
              intro vc wc hown hgrow
              have HOp : Hid (OwnR w3.heap.size wc vc (L ++ [⟨⟨x0, x1, x2⟩, x3 + 1⟩])) := hown
              have HOm : Hid (OwnM w3.heap.size wc va (T ++ [⟨x0, x1, x2⟩])) := HOb.out.beside HOa.out hgrow.out
              have HBp : Hid (Below w3.heap.size w3 wc) := below_grown (HBb.out.alloc HBb.out.size _) (Nat.le_refl _) hgrow.out (fun c hc => Ob2.out.from c hc)
              clear hown hgrow HOa HVa HSa HOb d0 d1 d2 d3 df
              go_wp2_with fail
              go_roundw
              case rel =>
                refine ⟨j + 1, _, _, _, rfl, rfl, by go_num, rfl, by omega, ?_, ?_, HBp⟩
                · rw [HS1.out, if_pos (by simp)]
                  exact HOm
                · rw [HS2'.out]
                  exact HOp
              case measure => simp [intOf]; omega
            · have hlm2 : limit ≤ x3 + 1 := by omega
              have HS2' : Hid (leftTo l i limit (j + 1) = L) := by
                show _ = _
                rw [HS2.out, bumpR, if_pos rfl, if_pos (by dsimp only; omega)]
                simp
              go_wp2_with fail
              go_roundw
              case rel =>
                refine ⟨j + 1, _, _, _, rfl, rfl, by go_num, rfl, by omega, ?_, ?_, HBb⟩
                · rw [HS1.out, if_pos (by simp)]
                  exact Ob1
                · rw [HS2'.out]
                  exact Ob2
              case measure => simp [intOf]; omega
        · obtain rfl : j = n := by omega
          go_wp2_with fail
          go_ret2
          refine ⟨_, _, rfl, ?_, ?_, B3.out.trans (HB.out.mono B3.out.size)⟩
          · rw [HE1.out]
            exact HO1.out.base B3.out.size
          · rw [HE2.out]
            exact HO2.out.base B3.out.size
end Go.Proofs.YtpelbmhhppcmeafDoor
