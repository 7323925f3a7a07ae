/-
  A mesh's Swap: on lists, and by its contract.
-/
import Derived.Test.YtpcnfoaoajfhlaaGreatDoorMqat
import Derived.Test.YtpcnfoaoajfhlaaGreatDoorMqbi
import Derived.Deep.DeepCutAuto
namespace Go.Proofs.YtpcnfoaoajfhlaaGreatDoor
set_option linter.unusedVariables false
set_option linter.unusedSimpArgs false
set_option linter.unusedVariables false
set_option linter.unusedSimpArgs false
open Go.RowKit

theorem some_was {l : List Deed} {c : List En} {K : List Int} (h : GoodC l c) : ∀ e ∈ someE c K, Was l e := fun e he => h.was e (List.mem_filter.1 he).1
/-- two caches of what was so swap without a clash -/
theorem pair_was {l : List Deed} {a b : List En} (hl : Good l) (h1 : l.length ≤ 1000) (ha : GoodC l a) (hb : GoodC l b) : ∃ x y, pairW a b = (x, y, 0) ∧ GoodC l x ∧ GoodC l y := by
  obtain ⟨x, hx, gx⟩ := all_was hl h1 ha (some_was hb (K := lackK a b))
  obtain ⟨y, hy, gy⟩ := all_was hl h1 hb (some_was ha (K := lackK a b))
  exact ⟨x, y, pairW_ok (bad2_both ha.good.bad hb.good.bad) hx hy, gx, gy⟩
/-- what Swap leaves: the caches, the fault -/
def mSwap (cs : List (List En)) (a b : Int) : List (List En) × Int :=
  if nodeB cs.length a = false ∨ nodeB cs.length b = false then (cs, 1) else if a = b then (cs, 3)
  else ((cs.set a.toNat (pairW (cacheN cs a) (cacheN cs b)).1).set b.toNat (pairW (cacheN cs a) (cacheN cs b)).2.1, 0)
theorem mSwap_good {l : List Deed} {cs : List (List En)} (h : GoodM l cs) (a b : Int) : GoodM l (mSwap cs a b).1 := by
  unfold mSwap
  split
  · exact h
  · split
    · exact h
    · obtain ⟨x, y, hp, gx, gy⟩ := pair_was h.good h.len (h.at a) (h.at b)
      rw [hp]
      exact (h.set _ gx).set _ gy
theorem mSwap_len (cs : List (List En)) (a b : Int) : (mSwap cs a b).1.length = cs.length := by
  unfold mSwap
  split
  · rfl
  · split
    · rfl
    · simp
theorem TabIs_below {w w' : World} (h : Lib.TabIs Tryz.prog w powName .u64 Lib.pow10Tab) (hb : Below w.heap.size w w') : Lib.TabIs Tryz.prog w' powName .u64 Lib.pow10Tab := Lib.tabBelow_of_tabIs h w' hb
/-- behind Pair: both rows are stored -/
theorem swap_end {S F : Nat → Prop} {w w4 : World} {m b c : Nat} {l : List Deed} {cs : List (List En)} {i j : Nat} {v1 v2 : Value} {x y : List En} (h : Mc S F w m b c l cs) (hi : i < cs.length) (hj : j < cs.length) (hb : Below w.heap.size w w4)
    (r1 : RowIs w4 v1 x) (r2 : RowIs w4 v2 y) (f1 : ∀ g, v1.ownBlock = some g → w.heap.size ≤ g ∧ g < w4.heap.size) (f2 : ∀ g, v2.ownBlock = some g → w.heap.size ≤ g ∧ g < w4.heap.size) :
    MeshTo S w ((w4.setCell ⟨c, i, none⟩ v1).setCell ⟨c, j, none⟩ v2) m l ((cs.set i x).set j y) := by
  have h4 : Mc S F w4 m b c l cs := h.blocks hb.size (fun y hy => hb.block y (h.lt y hy))
  have hn : ∀ g, (w.heap.size ≤ g ∧ g < w4.heap.size) → ¬ S g := fun g hg hs => by have := h.lt g hs; omega
  have h5 := h4.row i hi r1 (fun g hg => ⟨h.out (hn g (f1 g hg)), (f1 g hg).2⟩)
  have hk : Kept S w ((w4.setCell ⟨c, i, none⟩ v1).setCell ⟨c, j, none⟩ v2) := ((Kept.of_below hb).setC c i (.inl h.sc) v1).setC c j (.inl h.sc) v2
  have hcl := h.lt c h.sc
  have r2' : RowIs (w4.setCell ⟨c, i, none⟩ v1) v2 y := r2.blocks (by rw [World.size_setCell]; exact Nat.le_refl _) (fun g hg _ => Below.heap_setCell _ _ _ g (by have := (f2 g hg).1; simp; omega))
  have h6 := h5.row j (by rw [List.length_set]; exact hj) r2' (fun g hg => ⟨h.out (hn g (f2 g hg)), by rw [World.size_setCell]; exact (f2 g hg).2⟩)
  refine ⟨hk, _, ⟨F, b, c, h6⟩, fun z hz => ?_⟩
  rcases hz with (hz | hz) | hz
  · exact .inl hz
  · exact .inr (f1 z hz).1
  · exact .inr (f2 z hz).1
set_option maxHeartbeats 4000000 in
theorem mSwap_bad {S : Nat → Prop} {w : World} {m : Nat} {l : List Deed} {cs : List (List En)} (h : MeshAt S w m l cs) (a b : Int) (hb : nodeB cs.length a = false ∨ nodeB cs.length b = false) :
    Calls Tryz.prog 15 #[.pointer (some ⟨m, 0, none⟩), .int .i64 a, .int .i64 b] w fun e w' => e = .returned (.iface 85 (.int .i64 1)) ∧ w' = w := by
  obtain ⟨F, bs, c, h⟩ := h
  have c1 := h.c1
  clear h
  cases ha : nodeB cs.length a
  · have HN : Hid (nodeB cs.length a = false) := ha
    clear ha hb
    go_enter Tryz.func15, Tryz.ntmps15
    go_wp2_with (go_at_call 49; refine (isNode_b HN.out _ (by assumption)).mono ?_; rintro e w' ⟨rfl, hw⟩; rw [hw]; clear hw w')
    go_ret
    exact ⟨rfl, rfl⟩
  · have HN : Hid (nodeB cs.length a = true) := ha
    rw [ha] at hb
    have HN2 : Hid (nodeB cs.length b = false) := hb.resolve_left (by simp)
    clear ha hb
    go_enter Tryz.func15, Tryz.ntmps15
    go_wp2_with fail
    refine (isNode_b HN.out _ (by assumption)).mono ?_
    rintro e w' ⟨rfl, hw⟩
    rw [hw]
    clear hw w'
    go_wp2_with fail
    refine (isNode_b HN2.out _ (by assumption)).mono ?_
    rintro e w' ⟨rfl, hw⟩
    rw [hw]
    clear hw w'
    go_wp2_with fail
    go_ret
    exact ⟨rfl, rfl⟩
theorem mSwap_self {S : Nat → Prop} {w : World} {m : Nat} {l : List Deed} {cs : List (List En)} (h : MeshAt S w m l cs) (a : Int) (ha : nodeB cs.length a = true) :
    Calls Tryz.prog 15 #[.pointer (some ⟨m, 0, none⟩), .int .i64 a, .int .i64 a] w fun e w' => e = .returned (.iface 85 (.int .i64 3)) ∧ w' = w := by
  obtain ⟨F, bs, c, h⟩ := h
  have c1 := h.c1
  have HN : Hid (nodeB cs.length a = true) := ha
  clear h ha
  go_enter Tryz.func15, Tryz.ntmps15
  go_wp2_with (go_at_call 49; refine (isNode_b HN.out _ (by assumption)).mono ?_; rintro e w' ⟨rfl, hw⟩; rw [hw]; clear hw w')
  go_ret
  exact ⟨rfl, rfl⟩
set_option maxRecDepth 100000 in
set_option maxHeartbeats 8000000 in
theorem mSwap_two {S : Nat → Prop} {w : World} {m : Nat} {l : List Deed} {cs : List (List En)} (h : MeshAt S w m l cs) (hG : GoodM l cs) (i j : Nat) (hi : i < cs.length) (hj : j < cs.length) (hij : i ≠ j) {x y : List En} (hp : pairW cs[i] cs[j] = (x, y, 0)) (hT : Lib.TabIs Tryz.prog w powName .u64 Lib.pow10Tab) :
    Calls Tryz.prog 15 #[.pointer (some ⟨m, 0, none⟩), .int .i64 i, .int .i64 j] w fun e w' => e = .returned .nilIface ∧ MeshTo S w w' m l ((cs.set i x).set j y) := by
  obtain ⟨F, bs, c, h⟩ := h
  have HM : Hid (Mc S F w m bs c l cs) := h
  have HN : Hid (nodeB cs.length (i : Int) = true) := by show _ = _; rw [nodeB_iff]; omega
  have HN2 : Hid (nodeB cs.length (j : Int) = true) := by show _ = _; rw [nodeB_iff]; omega
  have HI : Hid (i < cs.length ∧ j < cs.length ∧ i ≠ j) := ⟨hi, hj, hij⟩
  have c1 := h.c1
  obtain ⟨vi, ci, hri, _⟩ := h.rows i hi
  obtain ⟨vj, cj, hrj, _⟩ := h.rows j hj
  have HPr : Hid (∀ W, Below w.heap.size w W → Calls Tryz.prog 55 #[vi, vj] W fun e w' => ∃ v1 v2, e = .returned (.tuple #[v1, v2, .nilIface]) ∧ RowIs w' v1 x ∧ RowIs w' v2 y ∧ (∀ g, v1.ownBlock = some g → W.heap.size ≤ g ∧ g < w'.heap.size) ∧ (∀ g, v2.ownBlock = some g → W.heap.size ≤ g ∧ g < w'.heap.size) ∧ Below W.heap.size W w') := fun W hW => pairF_ok vi vj _ _ W (hri.below hW) (hrj.below hW) hp (TabIs_below hT hW)
  have hml := h.lt m h.sm
  have hcl := h.lt c h.sc
  obtain ⟨nc, HNc⟩ : ∃ nc, Hid (cs.length = nc) := ⟨_, rfl⟩
  have hi2 : (i : Int) < (nc : Int) := by have := HNc.out; omega
  have hj2 : (j : Int) < (nc : Int) := by have := HNc.out; omega
  have hij2 : ((i : Int) == (j : Int)) = false := by simp; omega
  rw [HNc.out] at c1 HN HN2
  clear h hi hj hij hri hrj hp hT hG
  go_enter Tryz.func15, Tryz.ntmps15
  go_wp2_with fail
  refine (isNode_b HN.out _ (by assumption)).mono ?_
  rintro e w' ⟨rfl, hw⟩
  rw [hw]
  clear hw w'
  go_wp2_with fail
  refine (isNode_b HN2.out _ (by assumption)).mono ?_
  rintro e w' ⟨rfl, hw⟩
  rw [hw]
  clear hw w'
  go_upto_region 5 with fail
  go_region_held3 (fun w' => w'.cell? ⟨m, 1, none⟩ = some (.slice (some ⟨c, 0, none⟩) nc nc) ∧ w'.cell? ⟨c, i, none⟩ = some vi ∧ w'.cell? ⟨c, j, none⟩ = some vj) (first | go_keep | (exact ⟨kept_cell HB3.out c1, kept_cell HB3.out ci, kept_cell HB3.out cj⟩)) (first | (go_at_call 55; refine Calls.mono (HPr.out _ ?_) ?_; exact ⟨rfl, rfl, rfl, Nat.le_refl _, fun _ _ => rfl⟩; rintro e w3 ⟨v1, v2, rfl, hr1, hr2, hf1, hf2, hb3⟩; have HB3 : Hid (Below w.heap.size w w3) := below_undrew hb3; clear hb3))
  have R1 : Hid (RowIs w3 v1 x) := hr1
  have R2 : Hid (RowIs w3 v2 y) := hr2
  obtain ⟨_, p1, q1, rfl, _⟩ := hr1
  obtain ⟨_, p2, q2, rfl, _⟩ := hr2
  have M3 : Hid (Mc S F w3 m bs c l cs) := HM.out.blocks HB3.out.size (fun z hz => HB3.out.block z (HM.out.lt z hz))
  have E1 : Hid (MeshTo S w ((w3.setCell ⟨c, i, none⟩ (.slice p1 x.length q1)).setCell ⟨c, j, none⟩ (.slice p2 y.length q2)) m l ((cs.set i x).set j y)) := swap_end HM.out HI.out.1 HI.out.2.1 HB3.out R1.out R2.out hf1 hf2
  have E2 : Hid (MeshTo S w ((w3.setCell ⟨c, j, none⟩ (.slice p2 y.length q2)).setCell ⟨c, i, none⟩ (.slice p1 x.length q1)) m l ((cs.set i x).set j y)) := by
    show MeshTo _ _ _ _ _ _
    rw [List.set_comm _ _ HI.out.2.2]
    exact swap_end HM.out HI.out.2.1 HI.out.1 HB3.out R2.out R1.out hf2 hf1
  have e1 := M3.out.c1
  rw [HNc.out] at e1
  have ef := M3.out.fz
  have e2 : w3.cell? ⟨c, i, none⟩ = some vi := kept_cell HB3.out ci
  have e3 : w3.cell? ⟨c, j, none⟩ = some vj := kept_cell HB3.out cj
  have hml3 : m < w3.heap.size := Nat.lt_of_lt_of_le hml HB3.out.size
  have hcl3 : c < w3.heap.size := Nat.lt_of_lt_of_le hcl HB3.out.size
  have hmc := HM.out.mc
  have hijn : i ≠ j := HI.out.2.2
  clear c1 ci cj hf1 hf2 M3 R1 R2
  go_upto_region 8 with fail
  go_cut [] (fun wd => Hid (MeshTo S w wd m l ((cs.set i x).set j y)))
  case first =>
    go_region
    all_goals go_wp2_with fail
    all_goals go_meet
    all_goals first | exact E1 | exact E2 | exact E1.out.below (below_drewN _ _ _) | exact E2.out.below (below_drewN _ _ _)
  case rest =>
  have HT : Hid _ := hcut
  clear hcut
  go_wp2_with fail
  go_ret
  exact ⟨rfl, HT.out⟩
/-- Swap, with letters -/
theorem mSwap_o {S : Nat → Prop} {w : World} {m : Nat} {l : List Deed} {cs cs' : List (List En)} (h : MeshAt S w m l cs) (hG : GoodM l cs) {a b n : Int} (hx : mSwap cs a b = (cs', n)) (hT : Lib.TabIs Tryz.prog w powName .u64 Lib.pow10Tab) :
    Calls Tryz.prog 15 #[.pointer (some ⟨m, 0, none⟩), .int .i64 a, .int .i64 b] w fun e w' => e = .returned (eV n) ∧ MeshTo S w w' m l cs' := by
  by_cases hb : nodeB cs.length a = false ∨ nodeB cs.length b = false
  · rw [mSwap, if_pos hb] at hx
    injection hx with e1 e2
    subst e1 e2
    refine (mSwap_bad h a b hb).mono ?_
    rintro e w' ⟨rfl, hw⟩
    exact ⟨by rw [eV_errN (by omega)], by rw [hw]; exact h.to (Below.refl _ _)⟩
  · rw [mSwap, if_neg hb] at hx
    have ha : nodeB cs.length a = true := by
      cases hq : nodeB cs.length a
      · exact absurd (.inl hq) hb
      · rfl
    have hb' : nodeB cs.length b = true := by
      cases hq : nodeB cs.length b
      · exact absurd (.inr hq) hb
      · rfl
    by_cases hab : a = b
    · rw [if_pos hab] at hx
      injection hx with e1 e2
      subst e1 e2 hab
      refine (mSwap_self h a ha).mono ?_
      rintro e w' ⟨rfl, hw⟩
      exact ⟨by rw [eV_errN (by omega)], by rw [hw]; exact h.to (Below.refl _ _)⟩
    · rw [if_neg hab] at hx
      obtain ⟨i, rfl, hi⟩ := node_nat ha
      obtain ⟨j, rfl, hj⟩ := node_nat hb'
      obtain ⟨x, y, hp, _, _⟩ := pair_was hG.good hG.len (hG.all cs[i] (List.getElem_mem hi)) (hG.all cs[j] (List.getElem_mem hj))
      rw [cacheN_at hi, cacheN_at hj, hp] at hx
      injection hx with e1 e2
      subst e1 e2
      refine (mSwap_two h hG i j hi hj (fun e => hab (by rw [e])) hp hT).mono ?_
      rintro e w' ⟨rfl, hw⟩
      exact ⟨by rw [eV_zeroN], hw⟩
end Go.Proofs.YtpcnfoaoajfhlaaGreatDoor
