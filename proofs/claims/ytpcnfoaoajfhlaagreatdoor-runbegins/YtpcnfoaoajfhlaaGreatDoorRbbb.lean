/-
  A mesh's Swap: on lists, and by its contract.
  Package run by its contracts: a desk; what it does with a put and a delete.
  Package run by its contracts: what a desk does with a delete, a seq, a swap.
-/
import Derived.Test.YtpcnfoaoajfhlaaGreatDoorRbav
import Derived.Test.YtpcnfoaoajfhlaaGreatDoorRbba
import Derived.Deep.DeepCutAuto
import Derived.Test.YtpcnfoaoajfhlaaGreatDoorRbar
namespace Go.Proofs.YtpcnfoaoajfhlaaGreatDoor
set_option linter.unusedVariables false
set_option linter.unusedSimpArgs false
set_option linter.unusedVariables false
set_option linter.unusedSimpArgs false
open Go.RowKit

theorem some_was {l : List Deed} {c : List En} {K : List Int} (h : GoodC l c) : ∀ e ∈ someE c K, Was l e := fun e he => h.was e (List.mem_filter.1 he).1
/-- two caches of what was so swap without a clash -/
theorem pair_was {l : List Deed} {a b : List En} (hl : Good l) (h1 : l.length ≤ 1000) (ha : GoodC l a) (hb : GoodC l b) : ∃ x y, pairW a b = (x, y, 0) ∧ GoodC l x ∧ GoodC l y := by
  obtain ⟨x, hx, gx⟩ := all_was hl h1 ha (some_was hb (K := lackK a b))
  obtain ⟨y, hy, gy⟩ := all_was hl h1 hb (some_was ha (K := lackK a b))
  exact ⟨x, y, pairW_ok (bad2_both ha.good.bad hb.good.bad) hx hy, gx, gy⟩
/-- what Swap leaves: the caches, the fault -/
def mSwap (cs : List (List En)) (a b : Int) : List (List En) × Int :=
  if nodeB cs.length a = false ∨ nodeB cs.length b = false then (cs, 1) else if a = b then (cs, 3)
  else ((cs.set a.toNat (pairW (cacheN cs a) (cacheN cs b)).1).set b.toNat (pairW (cacheN cs a) (cacheN cs b)).2.1, 0)
theorem mSwap_good {l : List Deed} {cs : List (List En)} (h : GoodM l cs) (a b : Int) : GoodM l (mSwap cs a b).1 := by
  unfold mSwap
  split
  · exact h
  · split
    · exact h
    · obtain ⟨x, y, hp, gx, gy⟩ := pair_was h.good h.len (h.at a) (h.at b)
      rw [hp]
      exact (h.set _ gx).set _ gy
theorem mSwap_len (cs : List (List En)) (a b : Int) : (mSwap cs a b).1.length = cs.length := by
  unfold mSwap
  split
  · rfl
  · split
    · rfl
    · simp
theorem TabIs_below {w w' : World} (h : Lib.TabIs Tryz.prog w powName .u64 Lib.pow10Tab) (hb : Below w.heap.size w w') : Lib.TabIs Tryz.prog w' powName .u64 Lib.pow10Tab := Lib.tabBelow_of_tabIs h w' hb
/-- behind Pair: both rows are stored -/
theorem swap_end {S F : Nat → Prop} {w w4 : World} {m b c : Nat} {l : List Deed} {cs : List (List En)} {i j : Nat} {v1 v2 : Value} {x y : List En} (h : Mc S F w m b c l cs) (hi : i < cs.length) (hj : j < cs.length) (hb : Below w.heap.size w w4)
    (r1 : RowIs w4 v1 x) (r2 : RowIs w4 v2 y) (f1 : ∀ g, v1.ownBlock = some g → w.heap.size ≤ g ∧ g < w4.heap.size ∧ CelAt w4 g) (f2 : ∀ g, v2.ownBlock = some g → w.heap.size ≤ g ∧ g < w4.heap.size ∧ CelAt w4 g) :
    MeshTo S w ((w4.setCell ⟨c, i, none⟩ v1).setCell ⟨c, j, none⟩ v2) m l ((cs.set i x).set j y) := by
  have h4 : Mc S F w4 m b c l cs := h.blocks hb.size (fun y hy => hb.block y (h.lt y hy))
  have hn : ∀ g, (w.heap.size ≤ g ∧ g < w4.heap.size ∧ CelAt w4 g) → ¬ S g := fun g hg hs => by have h1 := h.lt g hs; have h2 := hg.1; omega
  have h5 := h4.row i hi r1 (fun g hg => ⟨h.out (hn g (f1 g hg)), (f1 g hg).2.1⟩) (fun g hg => (f1 g hg).2.2)
  have hk : Kept S w ((w4.setCell ⟨c, i, none⟩ v1).setCell ⟨c, j, none⟩ v2) := ((Kept.of_below hb).setC c i (.inl h.sc) v1).setC c j (.inl h.sc) v2
  have hcl := h.lt c h.sc
  have r2' : RowIs (w4.setCell ⟨c, i, none⟩ v1) v2 y := r2.blocks (by rw [World.size_setCell]; exact Nat.le_refl _) (fun g hg _ => Below.heap_setCell _ _ _ g (by have := (f2 g hg).1; simp; omega))
  have h6 := h5.row j (by rw [List.length_set]; exact hj) r2' (fun g hg => ⟨h.out (hn g (f2 g hg)), by rw [World.size_setCell]; exact (f2 g hg).2.1⟩) (fun g hg => (f2 g hg).2.2.set _ _)
  refine ⟨hk, _, ⟨F, b, c, h6⟩, fun z hz => ?_⟩
  rcases hz with (hz | hz) | hz
  · exact .inl hz
  · exact .inr (f1 z hz).1
  · exact .inr (f2 z hz).1
set_option maxHeartbeats 4000000 in
theorem mSwap_bad {S : Nat → Prop} {w : World} {m : Nat} {l : List Deed} {cs : List (List En)} (h : MeshAt S w m l cs) (a b : Int) (hb : nodeB cs.length a = false ∨ nodeB cs.length b = false) :
    Calls Tryz.prog 15 #[.pointer (some ⟨m, 0, none⟩), .int .i64 a, .int .i64 b] w fun e w' => e = .returned (.iface 85 (.int .i64 1)) ∧ w' = w := by
  obtain ⟨F, bs, c, h⟩ := h
  have c1 := h.c1
  clear h
  cases ha : nodeB cs.length a
  · have HN : Hid (nodeB cs.length a = false) := ha
    clear ha hb
    go_enter Tryz.func15, Tryz.ntmps15
    go_wp2_with (go_at_call 49; refine (isNode_b HN.out _ (by assumption)).mono ?_; rintro e w' ⟨rfl, hw⟩; rw [hw]; clear hw w')
    go_ret
    exact ⟨rfl, rfl⟩
  · have HN : Hid (nodeB cs.length a = true) := ha
    rw [ha] at hb
    have HN2 : Hid (nodeB cs.length b = false) := hb.resolve_left (by simp)
    clear ha hb
    go_enter Tryz.func15, Tryz.ntmps15
    go_wp2_with fail
    refine (isNode_b HN.out _ (by assumption)).mono ?_
    rintro e w' ⟨rfl, hw⟩
    rw [hw]
    clear hw w'
    go_wp2_with fail
    refine (isNode_b HN2.out _ (by assumption)).mono ?_
    rintro e w' ⟨rfl, hw⟩
    rw [hw]
    clear hw w'
    go_wp2_with fail
    go_ret
    exact ⟨rfl, rfl⟩
theorem mSwap_self {S : Nat → Prop} {w : World} {m : Nat} {l : List Deed} {cs : List (List En)} (h : MeshAt S w m l cs) (a : Int) (ha : nodeB cs.length a = true) :
    Calls Tryz.prog 15 #[.pointer (some ⟨m, 0, none⟩), .int .i64 a, .int .i64 a] w fun e w' => e = .returned (.iface 85 (.int .i64 3)) ∧ w' = w := by
  obtain ⟨F, bs, c, h⟩ := h
  have c1 := h.c1
  have HN : Hid (nodeB cs.length a = true) := ha
  clear h ha
  go_enter Tryz.func15, Tryz.ntmps15
  go_wp2_with (go_at_call 49; refine (isNode_b HN.out _ (by assumption)).mono ?_; rintro e w' ⟨rfl, hw⟩; rw [hw]; clear hw w')
  go_ret
  exact ⟨rfl, rfl⟩
set_option maxRecDepth 100000 in
set_option maxHeartbeats 8000000 in
theorem mSwap_two {S : Nat → Prop} {w : World} {m : Nat} {l : List Deed} {cs : List (List En)} (h : MeshAt S w m l cs) (hG : GoodM l cs) (i j : Nat) (hi : i < cs.length) (hj : j < cs.length) (hij : i ≠ j) {x y : List En} (hp : pairW cs[i] cs[j] = (x, y, 0)) (hT : Lib.TabIs Tryz.prog w powName .u64 Lib.pow10Tab) :
    Calls Tryz.prog 15 #[.pointer (some ⟨m, 0, none⟩), .int .i64 i, .int .i64 j] w fun e w' => e = .returned .nilIface ∧ MeshTo S w w' m l ((cs.set i x).set j y) := by
  obtain ⟨F, bs, c, h⟩ := h
  have HM : Hid (Mc S F w m bs c l cs) := h
  have HN : Hid (nodeB cs.length (i : Int) = true) := by show _ = _; rw [nodeB_iff]; omega
  have HN2 : Hid (nodeB cs.length (j : Int) = true) := by show _ = _; rw [nodeB_iff]; omega
  have HI : Hid (i < cs.length ∧ j < cs.length ∧ i ≠ j) := ⟨hi, hj, hij⟩
  have c1 := h.c1
  obtain ⟨vi, ci, hri, _⟩ := h.rows i hi
  obtain ⟨vj, cj, hrj, _⟩ := h.rows j hj
  have HPr : Hid (∀ W, Below w.heap.size w W → Calls Tryz.prog 55 #[vi, vj] W fun e w' => ∃ v1 v2, e = .returned (.tuple #[v1, v2, .nilIface]) ∧ RowIs w' v1 x ∧ RowIs w' v2 y ∧ (∀ g, v1.ownBlock = some g → W.heap.size ≤ g ∧ g < w'.heap.size ∧ CelAt w' g) ∧ (∀ g, v2.ownBlock = some g → W.heap.size ≤ g ∧ g < w'.heap.size ∧ CelAt w' g) ∧ Below W.heap.size W w') := fun W hW => pairF_ok vi vj _ _ W (hri.below hW) (hrj.below hW) hp (TabIs_below hT hW)
  have hml := h.lt m h.sm
  have hcl := h.lt c h.sc
  obtain ⟨nc, HNc⟩ : ∃ nc, Hid (cs.length = nc) := ⟨_, rfl⟩
  have hi2 : (i : Int) < (nc : Int) := by have := HNc.out; omega
  have hj2 : (j : Int) < (nc : Int) := by have := HNc.out; omega
  have hij2 : ((i : Int) == (j : Int)) = false := by simp; omega
  rw [HNc.out] at c1 HN HN2
  clear h hi hj hij hri hrj hp hT hG
  go_enter Tryz.func15, Tryz.ntmps15
  go_wp2_with fail
  refine (isNode_b HN.out _ (by assumption)).mono ?_
  rintro e w' ⟨rfl, hw⟩
  rw [hw]
  clear hw w'
  go_wp2_with fail
  refine (isNode_b HN2.out _ (by assumption)).mono ?_
  rintro e w' ⟨rfl, hw⟩
  rw [hw]
  clear hw w'
  go_upto_region 5 with fail
  go_region_held3 (fun w' => w'.cell? ⟨m, 1, none⟩ = some (.slice (some ⟨c, 0, none⟩) nc nc) ∧ w'.cell? ⟨c, i, none⟩ = some vi ∧ w'.cell? ⟨c, j, none⟩ = some vj) (first | go_keep | (exact ⟨kept_cell HB3.out c1, kept_cell HB3.out ci, kept_cell HB3.out cj⟩)) (first | (go_at_call 55; refine Calls.mono (HPr.out _ ?_) ?_; exact ⟨rfl, rfl, rfl, Nat.le_refl _, fun _ _ => rfl⟩; rintro e w3 ⟨v1, v2, rfl, hr1, hr2, hf1, hf2, hb3⟩; have HB3 : Hid (Below w.heap.size w w3) := below_undrew hb3; clear hb3))
  have R1 : Hid (RowIs w3 v1 x) := hr1
  have R2 : Hid (RowIs w3 v2 y) := hr2
  obtain ⟨_, p1, q1, rfl, _⟩ := hr1
  obtain ⟨_, p2, q2, rfl, _⟩ := hr2
  have M3 : Hid (Mc S F w3 m bs c l cs) := HM.out.blocks HB3.out.size (fun z hz => HB3.out.block z (HM.out.lt z hz))
  have E1 : Hid (MeshTo S w ((w3.setCell ⟨c, i, none⟩ (.slice p1 x.length q1)).setCell ⟨c, j, none⟩ (.slice p2 y.length q2)) m l ((cs.set i x).set j y)) := swap_end HM.out HI.out.1 HI.out.2.1 HB3.out R1.out R2.out hf1 hf2
  have E2 : Hid (MeshTo S w ((w3.setCell ⟨c, j, none⟩ (.slice p2 y.length q2)).setCell ⟨c, i, none⟩ (.slice p1 x.length q1)) m l ((cs.set i x).set j y)) := by
    show MeshTo _ _ _ _ _ _
    rw [List.set_comm _ _ HI.out.2.2]
    exact swap_end HM.out HI.out.2.1 HI.out.1 HB3.out R2.out R1.out hf2 hf1
  have e1 := M3.out.c1
  rw [HNc.out] at e1
  have ef := M3.out.fz
  have e2 : w3.cell? ⟨c, i, none⟩ = some vi := kept_cell HB3.out ci
  have e3 : w3.cell? ⟨c, j, none⟩ = some vj := kept_cell HB3.out cj
  have hml3 : m < w3.heap.size := Nat.lt_of_lt_of_le hml HB3.out.size
  have hcl3 : c < w3.heap.size := Nat.lt_of_lt_of_le hcl HB3.out.size
  have hmc := HM.out.mc
  have hijn : i ≠ j := HI.out.2.2
  clear c1 ci cj hf1 hf2 M3 R1 R2
  go_upto_region 8 with fail
  go_cut [] (fun wd => Hid (MeshTo S w wd m l ((cs.set i x).set j y)))
  case first =>
    go_region
    all_goals go_wp2_with fail
    all_goals go_meet
    all_goals first | exact E1 | exact E2 | exact E1.out.below (below_drewN _ _ _) | exact E2.out.below (below_drewN _ _ _)
  case rest =>
  have HT : Hid _ := hcut
  clear hcut
  go_wp2_with fail
  go_ret
  exact ⟨rfl, HT.out⟩
/-- Swap, with letters -/
theorem mSwap_o {S : Nat → Prop} {w : World} {m : Nat} {l : List Deed} {cs cs' : List (List En)} (h : MeshAt S w m l cs) (hG : GoodM l cs) {a b n : Int} (hx : mSwap cs a b = (cs', n)) (hT : Lib.TabIs Tryz.prog w powName .u64 Lib.pow10Tab) :
    Calls Tryz.prog 15 #[.pointer (some ⟨m, 0, none⟩), .int .i64 a, .int .i64 b] w fun e w' => e = .returned (eV n) ∧ MeshTo S w w' m l cs' := by
  by_cases hb : nodeB cs.length a = false ∨ nodeB cs.length b = false
  · rw [mSwap, if_pos hb] at hx
    injection hx with e1 e2
    subst e1 e2
    refine (mSwap_bad h a b hb).mono ?_
    rintro e w' ⟨rfl, hw⟩
    exact ⟨by rw [eV_errN (by omega)], by rw [hw]; exact h.to (Below.refl _ _)⟩
  · rw [mSwap, if_neg hb] at hx
    have ha : nodeB cs.length a = true := by
      cases hq : nodeB cs.length a
      · exact absurd (.inl hq) hb
      · rfl
    have hb' : nodeB cs.length b = true := by
      cases hq : nodeB cs.length b
      · exact absurd (.inr hq) hb
      · rfl
    by_cases hab : a = b
    · rw [if_pos hab] at hx
      injection hx with e1 e2
      subst e1 e2 hab
      refine (mSwap_self h a ha).mono ?_
      rintro e w' ⟨rfl, hw⟩
      exact ⟨by rw [eV_errN (by omega)], by rw [hw]; exact h.to (Below.refl _ _)⟩
    · rw [if_neg hab] at hx
      obtain ⟨i, rfl, hi⟩ := node_nat ha
      obtain ⟨j, rfl, hj⟩ := node_nat hb'
      obtain ⟨x, y, hp, _, _⟩ := pair_was hG.good hG.len (hG.all cs[i] (List.getElem_mem hi)) (hG.all cs[j] (List.getElem_mem hj))
      rw [cacheN_at hi, cacheN_at hj, hp] at hx
      injection hx with e1 e2
      subst e1 e2
      refine (mSwap_two h hG i j hi hj (fun e => hab (by rw [e])) hp hT).mono ?_
      rintro e w' ⟨rfl, hw⟩
      exact ⟨by rw [eV_zeroN], hw⟩
end Go.Proofs.YtpcnfoaoajfhlaaGreatDoor

namespace Go.Proofs.YtpcnfoaoajfhlaaGreatDoor
set_option linter.unusedVariables false
set_option linter.unusedSimpArgs false
open Go.RowKit

theorem powGz : Tryz.prog.globalNamed powName = some 2 := by kernel_rfl
theorem Gl.low {w w' : World} (h : Gl w) (hs : 7 ≤ w.heap.size) (hb : Below 7 w w') : Gl w' := by
  obtain ⟨m, hm⟩ := h.max
  refine ⟨h.err.below (by omega) hb, ?_, m, (hb.cell (p := ⟨1, 0, none⟩) (by show 1 < 7; omega)).trans hm⟩
  have ht := h.tab
  unfold Lib.TabIs World.var? at ht ⊢
  rw [powGz] at ht ⊢
  simp only [Option.bind_some] at ht ⊢
  rw [hb.block 2 (by omega)]
  exact ht
theorem Kept.low {S : Nat → Prop} {w w' : World} (h : Kept S w w') (hs : 7 ≤ w.heap.size) (hS : ∀ x, S x → 7 ≤ x) : Below 7 w w' :=
  ⟨h.os, h.tape, h.output, h.size, fun k hk => h.block k (Nat.lt_of_lt_of_le hk hs) (fun hx => by have := hS k hx; omega)⟩
/-- a desk at d: its mesh at m, its table at r; the mesh lies in S -/
structure Dk (S : Nat → Prop) (w : World) (d m r : Nat) (l : List Deed) (cs : List (List En)) : Prop where
  mesh : MeshAt S w m l cs
  good : GoodM l cs
  d0 : w.cell? ⟨d, 0, none⟩ = some (.pointer (some ⟨m, 0, none⟩))
  d1 : w.cell? ⟨d, 1, none⟩ = some (.map (some r))
  tab : w.heap[r]? = some (.map wantE7 7)
  gl : Gl w
  lo : ∀ x, S x → 7 ≤ x
  ng : 7 ≤ w.heap.size
  dS : ¬ S d
  rS : ¬ S r
/-- what a desk's call leaves -/
def DkTo (S : Nat → Prop) (w w' : World) (d m r : Nat) (l : List Deed) (cs : List (List En)) : Prop := Kept S w w' ∧ ∃ S', Dk S' w' d m r l cs ∧ ∀ x, S' x → S x ∨ w.heap.size ≤ x
theorem Dk.lt {S : Nat → Prop} {w : World} {d m r : Nat} {l : List Deed} {cs : List (List En)} (h : Dk S w d m r l cs) : d < w.heap.size ∧ r < w.heap.size :=
  ⟨World.block_lt_of_cell? w _ h.d0, (Array.getElem?_eq_some_iff.1 h.tab).1⟩
theorem Dk.to {S : Nat → Prop} {w w' : World} {d m r : Nat} {l l' : List Deed} {cs cs' : List (List En)} (h : Dk S w d m r l cs) (ht : MeshTo S w w' m l' cs') (hg : GoodM l' cs') : DkTo S w w' d m r l' cs' := by
  obtain ⟨hk, S', hm, hs⟩ := ht
  obtain ⟨h1, h2⟩ := h.lt
  refine ⟨hk, S', ⟨hm, hg, (World.cell?_of_block (a := ⟨d, 0, none⟩) (hk.block d h1 h.dS)).trans h.d0, (World.cell?_of_block (a := ⟨d, 1, none⟩) (hk.block d h1 h.dS)).trans h.d1, (hk.block r h2 h.rS).trans h.tab, h.gl.low h.ng (hk.low h.ng h.lo), fun x hx => ?_, Nat.le_trans h.ng hk.size, fun hx => ?_, fun hx => ?_⟩, hs⟩
  · rcases hs x hx with h' | h'
    · exact h.lo x h'
    · have := h.ng; omega
  · rcases hs d hx with h' | h'
    · exact h.dS h'
    · omega
  · rcases hs r hx with h' | h'
    · exact h.rS h'
    · omega
theorem mDone_num (o : Out) (l : List Deed) (cs : List (List En)) (node key : Int) (h : ∃ k : Nat, o.num = k ∧ k ≤ 1001) : ∃ k : Nat, (mDone o l cs node key).num = k ∧ k ≤ 1001 := by
  unfold mDone
  split
  · exact ⟨0, rfl, by omega⟩
  · split
    · exact ⟨0, rfl, by omega⟩
    · exact h
theorem recO_num (l : List Deed) (k : Int) (g : Bool) (t : ByteArray) : ∃ n : Nat, (recO l k g t).num = n ∧ n ≤ 1001 := by
  unfold recO
  split
  · exact ⟨0, rfl, by omega⟩
  · exact ⟨l.length + 1, by simp, by omega⟩
theorem putO_num (l : List Deed) (k : Int) (t : ByteArray) : ∃ n : Nat, (putO l k t).num = n ∧ n ≤ 1001 := by
  unfold putO
  split
  · exact ⟨0, rfl, by omega⟩
  · split
    · exact ⟨0, rfl, by omega⟩
    · exact recO_num _ _ _ _
theorem delO_num (l : List Deed) (k : Int) : ∃ n : Nat, (delO l k).num = n ∧ n ≤ 1001 := by
  unfold delO
  split
  · exact ⟨0, rfl, by omega⟩
  · split
    · exact ⟨0, rfl, by omega⟩
    · exact recO_num _ _ _ _
/-- a told number, and a fault -/
def telV (o : MOut) : Value := .tuple #[.string (digS o.num.toNat), eV o.err]
theorem DkTo.below {S : Nat → Prop} {w w1 w' : World} {d m r : Nat} {l : List Deed} {cs : List (List En)} (h : DkTo S w w1 d m r l cs) (hb : Below w1.heap.size w1 w') : DkTo S w w' d m r l cs := by
  obtain ⟨hk, S', hd, hs⟩ := h
  obtain ⟨k2, S2, h2, s2⟩ := hd.to (hd.mesh.to hb) hd.good
  refine ⟨⟨k2.os.trans hk.os, k2.tape.trans hk.tape, k2.output.trans hk.output, Nat.le_trans hk.size k2.size, fun x hx hn => (hb.block x (Nat.lt_of_lt_of_le hx hk.size)).trans (hk.block x hx hn)⟩, S2, h2, fun x hx => ?_⟩
  rcases s2 x hx with h' | h'
  · exact hs x h'
  · exact .inr (Nat.le_trans hk.size h')
theorem DkTo.gl {S : Nat → Prop} {w w1 : World} {d m r : Nat} {l : List Deed} {cs : List (List En)} (h : DkTo S w w1 d m r l cs) : Gl w1 := by
  obtain ⟨_, _, hd, _⟩ := h
  exact hd.gl
/-- a cell that a call of the mesh leaves alone -/
theorem Kept.at {S : Nat → Prop} {w w1 : World} (h : Kept S w w1) {a : Addr} {v : Value} (hc : w.cell? a = some v) (hn : ¬ S a.block) : w1.cell? a = some v :=
  (World.cell?_of_block (a := a) (h.block a.block (World.block_lt_of_cell? w a hc) hn)).trans hc
set_option maxHeartbeats 8000000 in
theorem deskPut_c {S : Nat → Prop} {w : World} {d m r : Nat} {l : List Deed} {cs : List (List En)} (h : Dk S w d m r l cs) (nb no nc wb wo wc a b : Nat) (t : ByteArray) (n0 : w.cell? ⟨nb, no, none⟩ = some (.int .i64 a)) (n1 : w.cell? ⟨nb, no + 1, none⟩ = some (.int .i64 b)) (t0 : w.cell? ⟨wb, wo, none⟩ = some (.string t)) (ht : t.size ≤ maxLen) (hSn : ¬ S nb) (hSw : ¬ S wb) :
    Calls Tryz.prog 122 #[.pointer (some ⟨d, 0, none⟩), .slice (some ⟨nb, no, none⟩) 2 nc, .slice (some ⟨wb, wo, none⟩) 1 wc] w fun e w' => e = .returned (telV (mPut l cs a b t)) ∧ DkTo S w w' d m r (mPut l cs a b t).done (mPut l cs a b t).cs := by
  have d0 := h.d0
  have hSd := h.dS
  obtain ⟨o, ho⟩ : ∃ o, mPut l cs a b t = o := ⟨_, rfl⟩
  obtain ⟨k, hk, hk1⟩ : ∃ k : Nat, o.num = k ∧ k ≤ 1001 := by rw [← ho]; exact mDone_num _ _ _ _ _ (putO_num _ _ _)
  have hg := mPut_good h.good a b t
  rw [ho] at hg ⊢
  have HP : Hid (∀ W, Below w.heap.size w W → Calls Tryz.prog 10 #[.pointer (some ⟨m, 0, none⟩), .int .i64 a, .int .i64 b, .string t] W fun e w' => e = .returned (.tuple #[.int .i64 k, eV o.err]) ∧ DkTo S w w' d m r o.done o.cs) := fun W hW => by
    have c := mPut_c (h.mesh.grown hW) h.good a b t ht
    rw [ho, hk] at c
    exact c.mono fun e w' hx => ⟨hx.1, h.to (MeshTo.after hW hx.2) hg⟩
  have HW : Hid (∀ W ev, Gl W → Calls Tryz.prog 166 #[.int .i64 k, ev] W fun e w' => e = .returned (.tuple #[.string (digS k), ev]) ∧ Below W.heap.size W w') := fun W ev hW => runWritten_c k ev W (by omega) hW
  have HT : Hid (telV o = .tuple #[.string (digS k), eV o.err]) := by show _ = _; rw [telV, hk]; rfl
  rw [HT.out]
  obtain ⟨ev, hev⟩ : ∃ ev, eV o.err = ev := ⟨_, rfl⟩
  rw [hev] at HP ⊢
  have HS : Hid (¬ S d ∧ ¬ S nb ∧ ¬ S wb) := ⟨hSd, hSn, hSw⟩
  clear h hg ho hk HT hev hSd hSn hSw ht
  go_enter Tryz.func122, Tryz.ntmps122
  go_upto_region 1 with fail
  go_region_held3 (fun w' => w'.cell? ⟨d, 0, none⟩ = some (.pointer (some ⟨m, 0, none⟩)) ∧ w'.cell? ⟨nb, no, none⟩ = some (.int .i64 a) ∧ w'.cell? ⟨nb, no + 1, none⟩ = some (.int .i64 b) ∧ w'.cell? ⟨wb, wo, none⟩ = some (.string t)) (first | go_keep | (exact ⟨q0, q1, q2, q3⟩) | (exact ⟨kept_cell HB4.out q0, kept_cell HB4.out q1, kept_cell HB4.out q2, kept_cell HB4.out q3⟩)) (first | (go_at_call 10; refine Calls.mono (HP.out _ ?_) ?_; exact ⟨rfl, rfl, rfl, Nat.le_refl _, fun _ _ => rfl⟩; rintro e w3 ⟨rfl, hd⟩; have q0 := hd.1.at d0 HS.out.1; have q1 := hd.1.at n0 HS.out.2.1; have q2 := hd.1.at n1 HS.out.2.1; have q3 := hd.1.at t0 HS.out.2.2; have HD : Hid _ := hd; clear hd) | (go_at_call 166; refine Calls.mono (HW.out _ _ (DkTo.gl HD.out)) ?_; rintro e w4 ⟨rfl, hb4⟩; have HB4 : Hid (Below w3.heap.size w3 w4) := hb4; clear hb4))
  go_wp2_with fail
  go_ret2
  exact ⟨rfl, DkTo.below HD.out HB4.out⟩
end Go.Proofs.YtpcnfoaoajfhlaaGreatDoor

namespace Go.Proofs.YtpcnfoaoajfhlaaGreatDoor
set_option linter.unusedVariables false
set_option linter.unusedSimpArgs false
open Go.RowKit

set_option maxHeartbeats 8000000 in
theorem deskDelete_c {S : Nat → Prop} {w : World} {d m r : Nat} {l : List Deed} {cs : List (List En)} (h : Dk S w d m r l cs) (nb no nc a b : Nat) (vw : Value) (n0 : w.cell? ⟨nb, no, none⟩ = some (.int .i64 a)) (n1 : w.cell? ⟨nb, no + 1, none⟩ = some (.int .i64 b)) (hSn : ¬ S nb) :
    Calls Tryz.prog 123 #[.pointer (some ⟨d, 0, none⟩), .slice (some ⟨nb, no, none⟩) 2 nc, vw] w fun e w' => e = .returned (telV (mDel l cs a b)) ∧ DkTo S w w' d m r (mDel l cs a b).done (mDel l cs a b).cs := by
  have d0 := h.d0
  have hSd := h.dS
  obtain ⟨o, ho⟩ : ∃ o, mDel l cs a b = o := ⟨_, rfl⟩
  obtain ⟨k, hk, hk1⟩ : ∃ k : Nat, o.num = k ∧ k ≤ 1001 := by rw [← ho]; exact mDone_num _ _ _ _ _ (delO_num _ _)
  have hg := mDel_good h.good a b
  rw [ho] at hg ⊢
  have HP : Hid (∀ W, Below w.heap.size w W → Calls Tryz.prog 11 #[.pointer (some ⟨m, 0, none⟩), .int .i64 a, .int .i64 b] W fun e w' => e = .returned (.tuple #[.int .i64 k, eV o.err]) ∧ DkTo S w w' d m r o.done o.cs) := fun W hW => by
    have c := mDel_c (h.mesh.grown hW) h.good a b
    rw [ho, hk] at c
    exact c.mono fun e w' hx => ⟨hx.1, h.to (MeshTo.after hW hx.2) hg⟩
  have HW : Hid (∀ W ev, Gl W → Calls Tryz.prog 166 #[.int .i64 k, ev] W fun e w' => e = .returned (.tuple #[.string (digS k), ev]) ∧ Below W.heap.size W w') := fun W ev hW => runWritten_c k ev W (by omega) hW
  have HT : Hid (telV o = .tuple #[.string (digS k), eV o.err]) := by show _ = _; rw [telV, hk]; rfl
  rw [HT.out]
  obtain ⟨ev, hev⟩ : ∃ ev, eV o.err = ev := ⟨_, rfl⟩
  rw [hev] at HP ⊢
  have HS : Hid (¬ S d ∧ ¬ S nb) := ⟨hSd, hSn⟩
  clear h hg ho hk HT hev hSd hSn
  go_enter Tryz.func123, Tryz.ntmps123
  go_upto_region 1 with fail
  go_region_held3 (fun w' => w'.cell? ⟨d, 0, none⟩ = some (.pointer (some ⟨m, 0, none⟩)) ∧ w'.cell? ⟨nb, no, none⟩ = some (.int .i64 a) ∧ w'.cell? ⟨nb, no + 1, none⟩ = some (.int .i64 b)  ) (first | go_keep | (exact ⟨q0, q1, q2⟩) | (exact ⟨kept_cell HB4.out q0, kept_cell HB4.out q1, kept_cell HB4.out q2⟩)) (first | (go_at_call 11; refine Calls.mono (HP.out _ ?_) ?_; exact ⟨rfl, rfl, rfl, Nat.le_refl _, fun _ _ => rfl⟩; rintro e w3 ⟨rfl, hd⟩; have q0 := hd.1.at d0 HS.out.1; have q1 := hd.1.at n0 HS.out.2; have q2 := hd.1.at n1 HS.out.2; have HD : Hid _ := hd; clear hd) | (go_at_call 166; refine Calls.mono (HW.out _ _ (DkTo.gl HD.out)) ?_; rintro e w4 ⟨rfl, hb4⟩; have HB4 : Hid (Below w3.heap.size w3 w4) := hb4; clear hb4))
  go_wp2_with fail
  go_ret2
  exact ⟨rfl, DkTo.below HD.out HB4.out⟩
set_option maxHeartbeats 8000000 in
theorem deskSeq_c {S : Nat → Prop} {w : World} {d m r : Nat} {l : List Deed} {cs : List (List En)} (h : Dk S w d m r l cs) (vn vw : Value) :
    Calls Tryz.prog 126 #[.pointer (some ⟨d, 0, none⟩), vn, vw] w fun e w' => e = .returned (.tuple #[.string (digS l.length), .nilIface]) ∧ DkTo S w w' d m r l cs := by
  have d0 := h.d0
  have h1 := h.good.len
  obtain ⟨k, hk⟩ : ∃ k, l.length = k := ⟨_, rfl⟩
  rw [hk] at h1
  have HD : Hid (Dk S w d m r l cs) := h
  have HQ : Hid (∀ W, Below w.heap.size w W → Calls Tryz.prog 16 #[.pointer (some ⟨m, 0, none⟩)] W fun e w' => e = .returned (.int .i64 k) ∧ w' = W) := fun W hW => by
    have c := mSeq_c (h.mesh.grown hW)
    rw [hk] at c
    exact c
  have HW : Hid (∀ W ev, Gl W → Calls Tryz.prog 166 #[.int .i64 k, ev] W fun e w' => e = .returned (.tuple #[.string (digS k), ev]) ∧ Below W.heap.size W w') := fun W ev hW => runWritten_c k ev W (by omega) hW
  rw [hk]
  clear h hk
  go_enter Tryz.func126, Tryz.ntmps126
  go_wp2_with fail
  refine (HQ.out _ (Below.refl _ _)).mono ?_
  rintro e w1 ⟨rfl, hw⟩
  rw [hw]
  clear hw w1
  go_wp2_with fail
  refine (HW.out _ _ HD.out.gl).mono ?_
  rintro e w2 ⟨rfl, hb⟩
  have HB : Hid (Below w.heap.size w w2) := hb
  clear hb
  go_wp2_with fail
  go_ret2
  exact ⟨rfl, HD.out.to (HD.out.mesh.to HB.out) HD.out.good⟩
def okS : ByteArray := ⟨#[111, 107]⟩
set_option maxHeartbeats 8000000 in
theorem deskSwap_c {S : Nat → Prop} {w : World} {d m r : Nat} {l : List Deed} {cs cs' : List (List En)} (h : Dk S w d m r l cs) (nb no nc a b : Nat) (vw : Value) (n0 : w.cell? ⟨nb, no, none⟩ = some (.int .i64 a)) (n1 : w.cell? ⟨nb, no + 1, none⟩ = some (.int .i64 b)) (hSn : ¬ S nb) {n : Int} (hx : mSwap cs a b = (cs', n)) :
    Calls Tryz.prog 125 #[.pointer (some ⟨d, 0, none⟩), .slice (some ⟨nb, no, none⟩) 2 nc, vw] w fun e w' => e = .returned (.tuple #[.string okS, eV n]) ∧ DkTo S w w' d m r l cs' := by
  have d0 := h.d0
  have hSd := h.dS
  have hg := mSwap_good h.good a b
  rw [hx] at hg
  have HP : Hid (∀ W, Below w.heap.size w W → Calls Tryz.prog 15 #[.pointer (some ⟨m, 0, none⟩), .int .i64 a, .int .i64 b] W fun e w' => e = .returned (eV n) ∧ DkTo S w w' d m r l cs') := fun W hW => by
    have c := mSwap_o (h.mesh.grown hW) h.good hx (TabIs_below h.gl.tab hW)
    exact c.mono fun e w' hx => ⟨hx.1, h.to (MeshTo.after hW hx.2) hg⟩
  obtain ⟨ev, hev⟩ : ∃ ev, eV n = ev := ⟨_, rfl⟩
  rw [hev] at HP ⊢
  have HS : Hid (¬ S d ∧ ¬ S nb) := ⟨hSd, hSn⟩
  clear h hg hev hSd hSn hx
  go_enter Tryz.func125, Tryz.ntmps125
  go_upto_region 1 with fail
  go_region_held3 (fun w' => w'.cell? ⟨d, 0, none⟩ = some (.pointer (some ⟨m, 0, none⟩)) ∧ w'.cell? ⟨nb, no, none⟩ = some (.int .i64 a) ∧ w'.cell? ⟨nb, no + 1, none⟩ = some (.int .i64 b)) (first | go_keep | (exact ⟨q0, q1, q2⟩)) (first | (go_at_call 15; refine Calls.mono (HP.out _ ?_) ?_; exact ⟨rfl, rfl, rfl, Nat.le_refl _, fun _ _ => rfl⟩; rintro e w3 ⟨rfl, hd⟩; have q0 := hd.1.at d0 HS.out.1; have q1 := hd.1.at n0 HS.out.2; have q2 := hd.1.at n1 HS.out.2; have HD : Hid _ := hd; clear hd))
  go_wp2_with fail
  go_ret2
  exact ⟨rfl, HD.out⟩
end Go.Proofs.YtpcnfoaoajfhlaaGreatDoor
