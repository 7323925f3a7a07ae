/-
  A mesh's Swap: on lists, and by its contract.
  A ring's points on lists: how they rise, whose a place is, round about.
  Rows of numbers of the call's own: those of the trees' text.
-/
import Derived.Test.YtpcnfoaoajfhlaaGreatDoorRaal
import Derived.Test.YtpcnfoaoajfhlaaGreatDoorRaaq
import Derived.Deep.DeepCutAuto
import Derived.Test.YtpcnfoaoajfhlaaGreatDoorRaaa
import Derived.Lib.Small
import Derived.Test.YtpcnfoaoajfhlaaGreatDoorRaan
namespace Go.Proofs.YtpcnfoaoajfhlaaGreatDoor
set_option linter.unusedVariables false
set_option linter.unusedSimpArgs false
set_option linter.unusedVariables false
set_option linter.unusedSimpArgs false
open Go.RowKit

theorem some_was {l : List Deed} {c : List En} {K : List Int} (h : GoodC l c) : ∀ e ∈ someE c K, Was l e := fun e he => h.was e (List.mem_filter.1 he).1
/-- two caches of what was so swap without a clash -/
theorem pair_was {l : List Deed} {a b : List En} (hl : Good l) (h1 : l.length ≤ 1000) (ha : GoodC l a) (hb : GoodC l b) : ∃ x y, pairW a b = (x, y, 0) ∧ GoodC l x ∧ GoodC l y := by
  obtain ⟨x, hx, gx⟩ := all_was hl h1 ha (some_was hb (K := lackK a b))
  obtain ⟨y, hy, gy⟩ := all_was hl h1 hb (some_was ha (K := lackK a b))
  exact ⟨x, y, pairW_ok (bad2_both ha.good.bad hb.good.bad) hx hy, gx, gy⟩
/-- what Swap leaves: the caches, the fault -/
def mSwap (cs : List (List En)) (a b : Int) : List (List En) × Int :=
  if nodeB cs.length a = false ∨ nodeB cs.length b = false then (cs, 1) else if a = b then (cs, 3)
  else ((cs.set a.toNat (pairW (cacheN cs a) (cacheN cs b)).1).set b.toNat (pairW (cacheN cs a) (cacheN cs b)).2.1, 0)
theorem mSwap_good {l : List Deed} {cs : List (List En)} (h : GoodM l cs) (a b : Int) : GoodM l (mSwap cs a b).1 := by
  unfold mSwap
  split
  · exact h
  · split
    · exact h
    · obtain ⟨x, y, hp, gx, gy⟩ := pair_was h.good h.len (h.at a) (h.at b)
      rw [hp]
      exact (h.set _ gx).set _ gy
theorem mSwap_len (cs : List (List En)) (a b : Int) : (mSwap cs a b).1.length = cs.length := by
  unfold mSwap
  split
  · rfl
  · split
    · rfl
    · simp
theorem TabIs_below {w w' : World} (h : Lib.TabIs Tryz.prog w powName .u64 Lib.pow10Tab) (hb : Below w.heap.size w w') : Lib.TabIs Tryz.prog w' powName .u64 Lib.pow10Tab := Lib.tabBelow_of_tabIs h w' hb
/-- behind Pair: both rows are stored -/
theorem swap_end {S F : Nat → Prop} {w w4 : World} {m b c : Nat} {l : List Deed} {cs : List (List En)} {i j : Nat} {v1 v2 : Value} {x y : List En} (h : Mc S F w m b c l cs) (hi : i < cs.length) (hj : j < cs.length) (hb : Below w.heap.size w w4)
    (r1 : RowIs w4 v1 x) (r2 : RowIs w4 v2 y) (f1 : ∀ g, v1.ownBlock = some g → w.heap.size ≤ g ∧ g < w4.heap.size ∧ CelAt w4 g) (f2 : ∀ g, v2.ownBlock = some g → w.heap.size ≤ g ∧ g < w4.heap.size ∧ CelAt w4 g) :
    MeshTo S w ((w4.setCell ⟨c, i, none⟩ v1).setCell ⟨c, j, none⟩ v2) m l ((cs.set i x).set j y) := by
  have h4 : Mc S F w4 m b c l cs := h.blocks hb.size (fun y hy => hb.block y (h.lt y hy))
  have hn : ∀ g, (w.heap.size ≤ g ∧ g < w4.heap.size ∧ CelAt w4 g) → ¬ S g := fun g hg hs => by have h1 := h.lt g hs; have h2 := hg.1; omega
  have h5 := h4.row i hi r1 (fun g hg => ⟨h.out (hn g (f1 g hg)), (f1 g hg).2.1⟩) (fun g hg => (f1 g hg).2.2)
  have hk : Kept S w ((w4.setCell ⟨c, i, none⟩ v1).setCell ⟨c, j, none⟩ v2) := ((Kept.of_below hb).setC c i (.inl h.sc) v1).setC c j (.inl h.sc) v2
  have hcl := h.lt c h.sc
  have r2' : RowIs (w4.setCell ⟨c, i, none⟩ v1) v2 y := r2.blocks (by rw [World.size_setCell]; exact Nat.le_refl _) (fun g hg _ => Below.heap_setCell _ _ _ g (by have := (f2 g hg).1; simp; omega))
  have h6 := h5.row j (by rw [List.length_set]; exact hj) r2' (fun g hg => ⟨h.out (hn g (f2 g hg)), by rw [World.size_setCell]; exact (f2 g hg).2.1⟩) (fun g hg => (f2 g hg).2.2.set _ _)
  refine ⟨hk, _, ⟨F, b, c, h6⟩, fun z hz => ?_⟩
  rcases hz with (hz | hz) | hz
  · exact .inl hz
  · exact .inr (f1 z hz).1
  · exact .inr (f2 z hz).1
set_option maxHeartbeats 4000000 in
theorem mSwap_bad {S : Nat → Prop} {w : World} {m : Nat} {l : List Deed} {cs : List (List En)} (h : MeshAt S w m l cs) (a b : Int) (hb : nodeB cs.length a = false ∨ nodeB cs.length b = false) :
    Calls Tryz.prog 15 #[.pointer (some ⟨m, 0, none⟩), .int .i64 a, .int .i64 b] w fun e w' => e = .returned (.iface 85 (.int .i64 1)) ∧ w' = w := by
  obtain ⟨F, bs, c, h⟩ := h
  have c1 := h.c1
  clear h
  cases ha : nodeB cs.length a
  · have HN : Hid (nodeB cs.length a = false) := ha
    clear ha hb
    go_enter Tryz.func15, Tryz.ntmps15
    go_wp2_with (go_at_call 49; refine (isNode_b HN.out _ (by assumption)).mono ?_; rintro e w' ⟨rfl, hw⟩; rw [hw]; clear hw w')
    go_ret
    exact ⟨rfl, rfl⟩
  · have HN : Hid (nodeB cs.length a = true) := ha
    rw [ha] at hb
    have HN2 : Hid (nodeB cs.length b = false) := hb.resolve_left (by simp)
    clear ha hb
    go_enter Tryz.func15, Tryz.ntmps15
    go_wp2_with fail
    refine (isNode_b HN.out _ (by assumption)).mono ?_
    rintro e w' ⟨rfl, hw⟩
    rw [hw]
    clear hw w'
    go_wp2_with fail
    refine (isNode_b HN2.out _ (by assumption)).mono ?_
    rintro e w' ⟨rfl, hw⟩
    rw [hw]
    clear hw w'
    go_wp2_with fail
    go_ret
    exact ⟨rfl, rfl⟩
theorem mSwap_self {S : Nat → Prop} {w : World} {m : Nat} {l : List Deed} {cs : List (List En)} (h : MeshAt S w m l cs) (a : Int) (ha : nodeB cs.length a = true) :
    Calls Tryz.prog 15 #[.pointer (some ⟨m, 0, none⟩), .int .i64 a, .int .i64 a] w fun e w' => e = .returned (.iface 85 (.int .i64 3)) ∧ w' = w := by
  obtain ⟨F, bs, c, h⟩ := h
  have c1 := h.c1
  have HN : Hid (nodeB cs.length a = true) := ha
  clear h ha
  go_enter Tryz.func15, Tryz.ntmps15
  go_wp2_with (go_at_call 49; refine (isNode_b HN.out _ (by assumption)).mono ?_; rintro e w' ⟨rfl, hw⟩; rw [hw]; clear hw w')
  go_ret
  exact ⟨rfl, rfl⟩
set_option maxRecDepth 100000 in
set_option maxHeartbeats 8000000 in
theorem mSwap_two {S : Nat → Prop} {w : World} {m : Nat} {l : List Deed} {cs : List (List En)} (h : MeshAt S w m l cs) (hG : GoodM l cs) (i j : Nat) (hi : i < cs.length) (hj : j < cs.length) (hij : i ≠ j) {x y : List En} (hp : pairW cs[i] cs[j] = (x, y, 0)) (hT : Lib.TabIs Tryz.prog w powName .u64 Lib.pow10Tab) :
    Calls Tryz.prog 15 #[.pointer (some ⟨m, 0, none⟩), .int .i64 i, .int .i64 j] w fun e w' => e = .returned .nilIface ∧ MeshTo S w w' m l ((cs.set i x).set j y) := by
  obtain ⟨F, bs, c, h⟩ := h
  have HM : Hid (Mc S F w m bs c l cs) := h
  have HN : Hid (nodeB cs.length (i : Int) = true) := by show _ = _; rw [nodeB_iff]; omega
  have HN2 : Hid (nodeB cs.length (j : Int) = true) := by show _ = _; rw [nodeB_iff]; omega
  have HI : Hid (i < cs.length ∧ j < cs.length ∧ i ≠ j) := ⟨hi, hj, hij⟩
  have c1 := h.c1
  obtain ⟨vi, ci, hri, _⟩ := h.rows i hi
  obtain ⟨vj, cj, hrj, _⟩ := h.rows j hj
  have HPr : Hid (∀ W, Below w.heap.size w W → Calls Tryz.prog 55 #[vi, vj] W fun e w' => ∃ v1 v2, e = .returned (.tuple #[v1, v2, .nilIface]) ∧ RowIs w' v1 x ∧ RowIs w' v2 y ∧ (∀ g, v1.ownBlock = some g → W.heap.size ≤ g ∧ g < w'.heap.size ∧ CelAt w' g) ∧ (∀ g, v2.ownBlock = some g → W.heap.size ≤ g ∧ g < w'.heap.size ∧ CelAt w' g) ∧ Below W.heap.size W w') := fun W hW => pairF_ok vi vj _ _ W (hri.below hW) (hrj.below hW) hp (TabIs_below hT hW)
  have hml := h.lt m h.sm
  have hcl := h.lt c h.sc
  obtain ⟨nc, HNc⟩ : ∃ nc, Hid (cs.length = nc) := ⟨_, rfl⟩
  have hi2 : (i : Int) < (nc : Int) := by have := HNc.out; omega
  have hj2 : (j : Int) < (nc : Int) := by have := HNc.out; omega
  have hij2 : ((i : Int) == (j : Int)) = false := by simp; omega
  rw [HNc.out] at c1 HN HN2
  clear h hi hj hij hri hrj hp hT hG
  go_enter Tryz.func15, Tryz.ntmps15
  go_wp2_with fail
  refine (isNode_b HN.out _ (by assumption)).mono ?_
  rintro e w' ⟨rfl, hw⟩
  rw [hw]
  clear hw w'
  go_wp2_with fail
  refine (isNode_b HN2.out _ (by assumption)).mono ?_
  rintro e w' ⟨rfl, hw⟩
  rw [hw]
  clear hw w'
  go_upto_region 5 with fail
  go_region_held3 (fun w' => w'.cell? ⟨m, 1, none⟩ = some (.slice (some ⟨c, 0, none⟩) nc nc) ∧ w'.cell? ⟨c, i, none⟩ = some vi ∧ w'.cell? ⟨c, j, none⟩ = some vj) (first | go_keep | (exact ⟨kept_cell HB3.out c1, kept_cell HB3.out ci, kept_cell HB3.out cj⟩)) (first | (go_at_call 55; refine Calls.mono (HPr.out _ ?_) ?_; exact ⟨rfl, rfl, rfl, Nat.le_refl _, fun _ _ => rfl⟩; rintro e w3 ⟨v1, v2, rfl, hr1, hr2, hf1, hf2, hb3⟩; have HB3 : Hid (Below w.heap.size w w3) := below_undrew hb3; clear hb3))
  have R1 : Hid (RowIs w3 v1 x) := hr1
  have R2 : Hid (RowIs w3 v2 y) := hr2
  obtain ⟨_, p1, q1, rfl, _⟩ := hr1
  obtain ⟨_, p2, q2, rfl, _⟩ := hr2
  have M3 : Hid (Mc S F w3 m bs c l cs) := HM.out.blocks HB3.out.size (fun z hz => HB3.out.block z (HM.out.lt z hz))
  have E1 : Hid (MeshTo S w ((w3.setCell ⟨c, i, none⟩ (.slice p1 x.length q1)).setCell ⟨c, j, none⟩ (.slice p2 y.length q2)) m l ((cs.set i x).set j y)) := swap_end HM.out HI.out.1 HI.out.2.1 HB3.out R1.out R2.out hf1 hf2
  have E2 : Hid (MeshTo S w ((w3.setCell ⟨c, j, none⟩ (.slice p2 y.length q2)).setCell ⟨c, i, none⟩ (.slice p1 x.length q1)) m l ((cs.set i x).set j y)) := by
    show MeshTo _ _ _ _ _ _
    rw [List.set_comm _ _ HI.out.2.2]
    exact swap_end HM.out HI.out.2.1 HI.out.1 HB3.out R2.out R1.out hf2 hf1
  have e1 := M3.out.c1
  rw [HNc.out] at e1
  have ef := M3.out.fz
  have e2 : w3.cell? ⟨c, i, none⟩ = some vi := kept_cell HB3.out ci
  have e3 : w3.cell? ⟨c, j, none⟩ = some vj := kept_cell HB3.out cj
  have hml3 : m < w3.heap.size := Nat.lt_of_lt_of_le hml HB3.out.size
  have hcl3 : c < w3.heap.size := Nat.lt_of_lt_of_le hcl HB3.out.size
  have hmc := HM.out.mc
  have hijn : i ≠ j := HI.out.2.2
  clear c1 ci cj hf1 hf2 M3 R1 R2
  go_upto_region 8 with fail
  go_cut [] (fun wd => Hid (MeshTo S w wd m l ((cs.set i x).set j y)))
  case first =>
    go_region
    all_goals go_wp2_with fail
    all_goals go_meet
    all_goals first | exact E1 | exact E2 | exact E1.out.below (below_drewN _ _ _) | exact E2.out.below (below_drewN _ _ _)
  case rest =>
  have HT : Hid _ := hcut
  clear hcut
  go_wp2_with fail
  go_ret
  exact ⟨rfl, HT.out⟩
/-- Swap, with letters -/
theorem mSwap_o {S : Nat → Prop} {w : World} {m : Nat} {l : List Deed} {cs cs' : List (List En)} (h : MeshAt S w m l cs) (hG : GoodM l cs) {a b n : Int} (hx : mSwap cs a b = (cs', n)) (hT : Lib.TabIs Tryz.prog w powName .u64 Lib.pow10Tab) :
    Calls Tryz.prog 15 #[.pointer (some ⟨m, 0, none⟩), .int .i64 a, .int .i64 b] w fun e w' => e = .returned (eV n) ∧ MeshTo S w w' m l cs' := by
  by_cases hb : nodeB cs.length a = false ∨ nodeB cs.length b = false
  · rw [mSwap, if_pos hb] at hx
    injection hx with e1 e2
    subst e1 e2
    refine (mSwap_bad h a b hb).mono ?_
    rintro e w' ⟨rfl, hw⟩
    exact ⟨by rw [eV_errN (by omega)], by rw [hw]; exact h.to (Below.refl _ _)⟩
  · rw [mSwap, if_neg hb] at hx
    have ha : nodeB cs.length a = true := by
      cases hq : nodeB cs.length a
      · exact absurd (.inl hq) hb
      · rfl
    have hb' : nodeB cs.length b = true := by
      cases hq : nodeB cs.length b
      · exact absurd (.inr hq) hb
      · rfl
    by_cases hab : a = b
    · rw [if_pos hab] at hx
      injection hx with e1 e2
      subst e1 e2 hab
      refine (mSwap_self h a ha).mono ?_
      rintro e w' ⟨rfl, hw⟩
      exact ⟨by rw [eV_errN (by omega)], by rw [hw]; exact h.to (Below.refl _ _)⟩
    · rw [if_neg hab] at hx
      obtain ⟨i, rfl, hi⟩ := node_nat ha
      obtain ⟨j, rfl, hj⟩ := node_nat hb'
      obtain ⟨x, y, hp, _, _⟩ := pair_was hG.good hG.len (hG.all cs[i] (List.getElem_mem hi)) (hG.all cs[j] (List.getElem_mem hj))
      rw [cacheN_at hi, cacheN_at hj, hp] at hx
      injection hx with e1 e2
      subst e1 e2
      refine (mSwap_two h hG i j hi hj (fun e => hab (by rw [e])) hp hT).mono ?_
      rintro e w' ⟨rfl, hw⟩
      exact ⟨by rw [eV_zeroN], hw⟩
end Go.Proofs.YtpcnfoaoajfhlaaGreatDoor

namespace Go.Proofs.YtpcnfoaoajfhlaaGreatDoor
set_option linter.unusedVariables false
set_option linter.unusedSimpArgs false
open Go.RowKit

/-- a point -/
structure Pt where
  p : Int
  n : Int
/-- by place, of the same by node -/
abbrev ltP (x y : Pt) : Prop := x.p < y.p ∨ (x.p = y.p ∧ x.n < y.n)
/-- two rows that rise and have the same points are the same -/
theorem rise_ext : ∀ {x y : List Pt}, x.Pairwise ltP → y.Pairwise ltP → (∀ e, e ∈ x ↔ e ∈ y) → x = y := by
  have irr : ∀ u v : Pt, ltP u v → ltP v u → False := fun u v h1 h2 => by
    rcases h1 with h1 | ⟨h1, h1'⟩ <;> rcases h2 with h2 | ⟨h2, h2'⟩ <;> omega
  have irf : ∀ u : Pt, ltP u u → False := fun u h => irr u u h h
  intro x
  induction x with
  | nil =>
    intro y _ _ h
    cases y with
    | nil => rfl
    | cons v y => exact absurd ((h v).2 (by simp)) (by simp)
  | cons u x ih =>
    intro y hx hy h
    cases y with
    | nil => exact absurd ((h u).1 (by simp)) (by simp)
    | cons v y =>
      obtain ⟨hu, hx'⟩ := List.pairwise_cons.1 hx
      obtain ⟨hv, hy'⟩ := List.pairwise_cons.1 hy
      have e : u = v := by
        rcases List.mem_cons.1 ((h u).1 (by simp)) with e | e
        · exact e
        · rcases List.mem_cons.1 ((h v).2 (by simp)) with e' | e'
          · exact e'.symm
          · exact (irr v u (hv u e) (hu v e')).elim
      subst e
      rw [ih hx' hy' (fun z => ?_)]
      constructor
      · intro hz
        rcases List.mem_cons.1 ((h z).1 (List.mem_cons_of_mem _ hz)) with e | e
        · subst e
          exact (irf _ (hu _ hz)).elim
        · exact e
      · intro hz
        rcases List.mem_cons.1 ((h z).2 (List.mem_cons_of_mem _ hz)) with e | e
        · subst e
          exact (irf _ (hv _ hz)).elim
        · exact e
/-- where the first point is that is not below a place: how many, if there is none -/
def firstP (t : Int) : List Pt → Nat
  | [] => 0
  | x :: l => if x.p < t then firstP t l + 1 else 0
theorem firstP_le (t : Int) : ∀ l, firstP t l ≤ l.length := by
  intro l
  induction l with
  | nil => exact Nat.le_refl _
  | cons x l ih =>
    unfold firstP
    split
    · rw [List.length_cons]; omega
    · exact Nat.zero_le _
/-- the owner of a place: 0 of none -/
def ownP (t : Int) (l : List Pt) : Option Int := match l.find? (fun x => decide (t ≤ x.p)) with
  | some x => some x.n
  | none => l.head?.map (·.n)
/-- who comes takes only for himself -/
theorem ownP_few (t : Int) (l : List Pt) (more : Int) (a b : Int) (ha : ownP t (l.filter (fun x => decide (x.n ≠ more))) = some a) (hb : ownP t l = some b) : b = a ∨ b = more := by
  unfold ownP at ha hb
  cases hf : l.find? (fun x => decide (t ≤ x.p)) with
  | some x =>
    rw [hf] at hb
    obtain rfl := Option.some.inj hb
    by_cases hx : x.n = more
    · exact .inr hx
    · left
      have e : (l.filter (fun x => decide (x.n ≠ more))).find? (fun x => decide (t ≤ x.p)) = some x := by
        clear ha hb
        induction l with
        | nil => cases hf
        | cons y l ih =>
          by_cases hy : t ≤ y.p
          · rw [List.find?_cons_of_pos (by simpa using hy)] at hf
            obtain rfl := Option.some.inj hf
            rw [List.filter_cons_of_pos (by simpa using hx), List.find?_cons_of_pos (by simpa using hy)]
          · rw [List.find?_cons_of_neg (by simpa using hy)] at hf
            by_cases hn : y.n = more
            · rw [List.filter_cons_of_neg (by simpa using hn)]
              exact ih hf
            · rw [List.filter_cons_of_pos (by simpa using hn), List.find?_cons_of_neg (by simpa using hy)]
              exact ih hf
      rw [e] at ha
      exact Option.some.inj ha
  | none =>
    rw [hf] at hb
    have e : (l.filter (fun x => decide (x.n ≠ more))).find? (fun x => decide (t ≤ x.p)) = none := by
      rw [List.find?_eq_none] at hf ⊢
      intro x hx
      exact hf x (List.mem_filter.1 hx).1
    rw [e] at ha
    cases l with
    | nil => cases hb
    | cons y l =>
      have hb' : y.n = b := Option.some.inj hb
      subst hb'
      by_cases hn : y.n = more
      · exact .inr hn
      · rw [List.filter_cons_of_pos (by simpa using hn)] at ha
        exact .inl (Option.some.inj ha)
/-- each once, in the order in which they come -/
def onceFrom (out : List Int) : List Int → List Int
  | [] => out
  | x :: l => if out.contains x = true then onceFrom out l else onceFrom (out ++ [x]) l
/-- the owners of a place, as many as there are -/
def ownersL (t : Int) (l : List Pt) : List Int := onceFrom [] ((l.drop (firstP t l) ++ l.take (firstP t l)).map (·.n))
theorem onceFrom_nodup : ∀ (l out : List Int), out.Nodup → (onceFrom out l).Nodup := by
  intro l
  induction l with
  | nil => intro out h; exact h
  | cons x l ih =>
    intro out h
    unfold onceFrom
    split
    · exact ih out h
    · rename_i hc
      refine ih _ ?_
      rw [List.nodup_append]
      refine ⟨h, by simp, fun a ha b hb => ?_⟩
      rw [List.mem_singleton.1 hb]
      intro e
      subst e
      exact hc (by simpa [List.contains_iff_mem] using ha)
theorem onceFrom_mem : ∀ (l out : List Int) (x : Int), x ∈ onceFrom out l → x ∈ out ∨ x ∈ l := by
  intro l
  induction l with
  | nil => intro out x h; exact .inl h
  | cons y l ih =>
    intro out x h
    unfold onceFrom at h
    split at h
    · rcases ih out x h with h | h
      · exact .inl h
      · exact .inr (List.mem_cons_of_mem _ h)
    · rcases ih _ x h with h | h
      · rcases List.mem_append.1 h with h | h
        · exact .inl h
        · rw [List.mem_singleton.1 h]
          exact .inr (by simp)
      · exact .inr (List.mem_cons_of_mem _ h)
theorem onceFrom_head : ∀ (l out : List Int) (x : Int), out.head? = some x → (onceFrom out l).head? = some x := by
  intro l
  induction l with
  | nil => intro out x h; exact h
  | cons y l ih =>
    intro out x h
    unfold onceFrom
    split
    · exact ih out x h
    · refine ih _ x ?_
      cases out with
      | nil => cases h
      | cons z out => exact h
theorem firstP_find (t : Int) : ∀ l : List Pt, l.find? (fun x => decide (t ≤ x.p)) = (l.drop (firstP t l)).head? := by
  intro l
  induction l with
  | nil => rfl
  | cons x l ih =>
    unfold firstP
    by_cases h : x.p < t
    · rw [if_pos h, List.find?_cons_of_neg (by simp; omega), ih]
      rfl
    · rw [if_neg h, List.find?_cons_of_pos (by simp; omega)]
      rfl
/-- the first owner is the owner -/
theorem owners_head (t : Int) (l : List Pt) : (ownersL t l).head? = ownP t l := by
  unfold ownersL ownP
  rw [firstP_find]
  cases hd : l.drop (firstP t l) with
  | cons x m =>
    rw [List.cons_append, List.map_cons]
    show (onceFrom [] (x.n :: _)).head? = some x.n
    unfold onceFrom
    exact onceFrom_head _ _ _ rfl
  | nil =>
    have e : firstP t l = l.length := by
      have h1 := firstP_le t l
      have h2 := List.drop_eq_nil_iff.1 hd
      omega
    rw [List.nil_append, e, List.take_length]
    cases l with
    | nil => rfl
    | cons x m =>
      rw [List.map_cons]
      show (onceFrom [] (x.n :: _)).head? = some x.n
      unfold onceFrom
      exact onceFrom_head _ _ _ rfl
theorem owners_nodup (t : Int) (l : List Pt) : (ownersL t l).Nodup := onceFrom_nodup _ _ List.nodup_nil
theorem owners_mem {t : Int} {l : List Pt} {x : Int} (h : x ∈ ownersL t l) : ∃ y ∈ l, y.n = x := by
  rcases onceFrom_mem _ _ _ h with h | h
  · cases h
  · obtain ⟨y, hy, rfl⟩ := List.mem_map.1 h
    rcases List.mem_append.1 hy with hy | hy
    · exact ⟨y, List.mem_of_mem_drop hy, rfl⟩
    · exact ⟨y, List.mem_of_mem_take hy, rfl⟩
/-- unlike numbers, each that of an i below m: no more than m -/
theorem few_of : ∀ (m : Nat) (f : Nat → Nat) (l : List Nat), l.Nodup → (∀ x ∈ l, ∃ i, i < m ∧ f i = x) → l.length ≤ m := by
  intro m
  induction m with
  | zero =>
    intro f l _ h
    cases l with
    | nil => exact Nat.le_refl _
    | cons x l =>
      obtain ⟨i, hi, _⟩ := h x (by simp)
      omega
  | succ m ih =>
    intro f l hn h
    have h1 : (l.erase (f m)).length ≤ m := by
      refine ih f _ (hn.erase _) (fun x hx => ?_)
      obtain ⟨hne, hx'⟩ := hn.mem_erase_iff.1 hx
      obtain ⟨i, hi, he⟩ := h x hx'
      refine ⟨i, ?_, he⟩
      by_cases e : i = m
      · subst e
        exact absurd he.symm hne
      · omega
    rw [List.length_erase] at h1
    split at h1
    · omega
    · omega
/-- what is wrong with some nodes, one by one: 0, nothing -/
def badFrom (seen : List Int) : List Int → Int
  | [] => 0
  | x :: l => if x < 0 ∨ 5 < x then 1 else if seen.contains x = true then 7 else badFrom (seen ++ [x]) l
def badNodes (l : List Int) : Int := if l.length = 0 then 5 else if 6 < l.length then 4 else badFrom [] l
theorem badFrom_step {l : List Int} {j : Nat} (h : j < l.length) : badFrom (l.take j) (l.drop j) = if l[j] < 0 ∨ 5 < l[j] then 1 else if (l.take j).contains l[j] = true then 7 else badFrom (l.take (j + 1)) (l.drop (j + 1)) := by
  rw [List.drop_eq_getElem_cons h, badFrom, List.take_succ_eq_append_getElem h]
theorem badFrom_good : ∀ (l seen : List Int), badFrom seen l = 0 → (∀ x ∈ l, 0 ≤ x ∧ x ≤ 5 ∧ x ∉ seen) ∧ l.Nodup := by
  intro l
  induction l with
  | nil => intro seen _; exact ⟨fun x hx => (by cases hx), List.nodup_nil⟩
  | cons y l ih =>
    intro seen h
    rw [badFrom] at h
    split at h
    · cases h
    · rename_i h1
      split at h
      · cases h
      · rename_i h2
        obtain ⟨h3, h4⟩ := ih _ h
        refine ⟨fun x hx => ?_, ?_⟩
        · rcases List.mem_cons.1 hx with rfl | hx
          · exact ⟨by omega, by omega, fun hs => h2 (by simpa [List.contains_iff_mem] using hs)⟩
          · obtain ⟨a1, a2, a3⟩ := h3 x hx
            exact ⟨a1, a2, fun hs => a3 (List.mem_append_left _ hs)⟩
        · rw [List.nodup_cons]
          exact ⟨fun hy => (h3 y hy).2.2 (by simp), h4⟩
/-- the order in which points rise, as the program tells it -/
def cfP (x y : Pt) : Int := if Lib.compareInt x.p y.p = 0 then Lib.compareInt x.n y.n else Lib.compareInt x.p y.p
theorem cmp_neg (x y : Int) : Lib.compareInt x y < 0 ↔ x < y := by
  unfold Lib.compareInt
  by_cases h1 : x < y
  · simp [h1]
  · by_cases h2 : y < x
    · simp [h1, h2]
    · simp [h1, h2]
theorem cmp_zero (x y : Int) : Lib.compareInt x y = 0 ↔ x = y := by
  unfold Lib.compareInt
  by_cases h1 : x < y
  · simp [h1]; omega
  · by_cases h2 : y < x
    · simp [h1, h2]; omega
    · simp [h1, h2]; omega
theorem cfP_neg (x y : Pt) : cfP x y < 0 ↔ ltP x y := by
  unfold cfP ltP
  split
  · rename_i h
    rw [cmp_zero] at h
    rw [cmp_neg]
    omega
  · rename_i h
    rw [cmp_zero] at h
    rw [cmp_neg]
    omega
theorem pt_ext {x y : Pt} (h1 : x.p = y.p) (h2 : x.n = y.n) : x = y := by
  cases x
  cases y
  cases h1
  cases h2
  rfl
def inP (x : Pt) : Bool := (decide (0 ≤ x.p) && decide (x.p ≤ 255)) && (decide (0 ≤ x.n) && decide (x.n ≤ 5))
/-- does a point rise above the one ahead? -/
def behindB : Option Pt → Pt → Bool
  | none, _ => true
  | some y, x => decide (ltP y x)
/-- what is asked of a row one by one, from a point on -/
def rightFrom : Option Pt → List Pt → Bool
  | _, [] => true
  | q, x :: l => inP x && behindB q x && rightFrom (some x) l
def rightP (l : List Pt) : Bool := decide (1 ≤ l.length) && decide (l.length ≤ 48) && rightFrom none l
/-- the point ahead of a place -/
def aheadP (l : List Pt) (j : Nat) : Option Pt := if j = 0 then none else l[j - 1]?
theorem right_step {l : List Pt} {j : Nat} (h : j < l.length) : rightFrom (aheadP l j) (l.drop j) = (inP l[j] && behindB (aheadP l j) l[j] && rightFrom (aheadP l (j + 1)) (l.drop (j + 1))) := by
  have e : aheadP l (j + 1) = some l[j] := by simp [aheadP, h]
  rw [List.drop_eq_getElem_cons h, e]
  rfl
theorem right_of : ∀ (l : List Pt) (q : Option Pt), l.Pairwise ltP → (∀ x ∈ l, inP x = true) → (∀ y, q = some y → ∀ x ∈ l, ltP y x) → rightFrom q l = true := by
  intro l
  induction l with
  | nil => intro q _ _ _; rfl
  | cons x l ih =>
    intro q h1 h2 h3
    obtain ⟨a1, a2⟩ := List.pairwise_cons.1 h1
    rw [rightFrom, h2 x (by simp), ih (some x) a2 (fun y hy => h2 y (List.mem_cons_of_mem _ hy)) (fun y hy z hz => by cases hy; exact a1 z hz)]
    cases q with
    | none => rfl
    | some y => simp [behindB, h3 y rfl x (by simp)]
theorem right_len {l : List Pt} (h : rightP l = true) : 1 ≤ l.length ∧ l.length ≤ 48 := by
  unfold rightP at h
  simp only [Bool.and_eq_true, decide_eq_true_eq] at h
  exact h.1
theorem right_in : ∀ (l : List Pt) (q : Option Pt), rightFrom q l = true → ∀ x ∈ l, inP x = true := by
  intro l
  induction l with
  | nil => intro q _ x hx; cases hx
  | cons y l ih =>
    intro q h x hx
    rw [rightFrom, Bool.and_eq_true, Bool.and_eq_true] at h
    rcases List.mem_cons.1 hx with rfl | hx
    · exact h.1.1
    · exact ih _ h.2 x hx
/-- where going round about begins -/
def firstQ (t : Int) (l : List Pt) : Nat := if firstP t l < l.length then firstP t l else 0
theorem firstQ_lt {t : Int} {l : List Pt} (h : l ≠ []) : firstQ t l < l.length := by
  unfold firstQ
  split
  · assumption
  · exact List.length_pos_iff.2 h
/-- round about from a place -/
def rotN (t : Int) (l : List Pt) : List Int := (l.drop (firstP t l) ++ l.take (firstP t l)).map (·.n)
theorem rotN_len (t : Int) (l : List Pt) : (rotN t l).length = l.length := by
  have := firstP_le t l
  simp [rotN]
  omega
theorem rotN_get {t : Int} {l : List Pt} {i : Nat} (h : i < l.length) (h' : (firstQ t l + i) % l.length < l.length) (hr : i < (rotN t l).length) : (rotN t l)[i] = l[(firstQ t l + i) % l.length].n := by
  have hf := firstP_le t l
  simp only [rotN, List.getElem_map]
  congr 1
  unfold firstQ at h' ⊢
  by_cases hlt : firstP t l < l.length
  · simp only [if_pos hlt] at h' ⊢
    by_cases hi : i < l.length - firstP t l
    · rw [List.getElem_append_left (by simp; omega), List.getElem_drop]
      congr 1
      exact (Nat.mod_eq_of_lt (by omega)).symm
    · rw [List.getElem_append_right (by simp; omega), List.getElem_take]
      congr 1
      simp only [List.length_drop]
      rw [show firstP t l + i = (i - (l.length - firstP t l)) + l.length by omega, Nat.add_mod_right, Nat.mod_eq_of_lt (by omega)]
  · have e : firstP t l = l.length := by omega
    simp only [e, Nat.lt_irrefl, if_false] at h' ⊢
    rw [List.getElem_append_right (by simp), List.getElem_take]
    congr 1
    simp
    exact (Nat.mod_eq_of_lt h).symm
theorem ownersL_rot (t : Int) (l : List Pt) : ownersL t l = onceFrom [] (rotN t l) := rfl
theorem onceFrom_more (l : List Int) (x : Int) : ∀ out, onceFrom out (l ++ [x]) = if (onceFrom out l).contains x = true then onceFrom out l else onceFrom out l ++ [x] := by
  induction l with
  | nil =>
    intro out
    simp only [List.nil_append, onceFrom]
    rfl
  | cons y l ih =>
    intro out
    rw [List.cons_append, onceFrom, onceFrom]
    split
    · exact ih out
    · exact ih _
theorem onceFrom_app (l m : List Int) : ∀ out, onceFrom out (l ++ m) = onceFrom (onceFrom out l) m := by
  induction l with
  | nil => intro out; rfl
  | cons y l ih =>
    intro out
    rw [List.cons_append, onceFrom, onceFrom]
    split
    · exact ih out
    · exact ih _
theorem onceFrom_pre (l : List Int) : ∀ out, ∃ r, onceFrom out l = out ++ r := by
  induction l with
  | nil => intro out; exact ⟨[], by simp [onceFrom]⟩
  | cons y l ih =>
    intro out
    rw [onceFrom]
    split
    · exact ih out
    · obtain ⟨r, hr⟩ := ih (out ++ [y])
      exact ⟨y :: r, by rw [hr]; simp⟩
/-- the owners met up to a place -/
def metN (t : Int) (l : List Pt) (i : Nat) : List Int := onceFrom [] ((rotN t l).take i)
theorem metN_zero (t : Int) (l : List Pt) : metN t l 0 = [] := rfl
theorem metN_all {t : Int} {l : List Pt} : metN t l l.length = ownersL t l := by
  unfold metN
  rw [← rotN_len t l, List.take_length, ownersL_rot]
theorem metN_step {t : Int} {l : List Pt} {i : Nat} (h : i < l.length) {x : Int} (hx : ∀ hr : i < (rotN t l).length, (rotN t l)[i] = x) : metN t l (i + 1) = if (metN t l i).contains x = true then metN t l i else metN t l i ++ [x] := by
  have hr : i < (rotN t l).length := by rw [rotN_len]; exact h
  unfold metN
  rw [List.take_succ_eq_append_getElem hr, onceFrom_more, hx hr]
theorem metN_pre (t : Int) (l : List Pt) (i : Nat) : ∃ r, ownersL t l = metN t l i ++ r := by
  obtain ⟨r, hr⟩ := onceFrom_pre ((rotN t l).drop i) (metN t l i)
  refine ⟨r, ?_⟩
  rw [← hr, ownersL_rot]
  unfold metN
  rw [← onceFrom_app, List.take_append_drop]
theorem metN_take {t : Int} {l : List Pt} {i m : Nat} (h : (metN t l i).length = m) : (ownersL t l).take m = metN t l i ∧ m ≤ (ownersL t l).length := by
  obtain ⟨r, hr⟩ := metN_pre t l i
  rw [hr, ← h, List.take_left, List.length_append]
  exact ⟨rfl, Nat.le_add_right _ _⟩
theorem metN_few {t : Int} {l : List Pt} (hl : ∀ x ∈ l, inP x = true) (i : Nat) : (metN t l i).length ≤ 6 := by
  have hnd : (metN t l i).Nodup := onceFrom_nodup _ _ List.nodup_nil
  have hm : ∀ x ∈ metN t l i, 0 ≤ x ∧ x ≤ 5 := fun x hx => by
    rcases onceFrom_mem _ _ _ hx with h | h
    · cases h
    · have h := List.mem_of_mem_take h
      unfold rotN at h
      obtain ⟨y, hy, rfl⟩ := List.mem_map.1 h
      have hy' : y ∈ l := by
        rcases List.mem_append.1 hy with hy | hy
        · exact List.mem_of_mem_drop hy
        · exact List.mem_of_mem_take hy
      have := hl y hy'
      simp [inP] at this
      exact this.2
  have e : (metN t l i).length = ((metN t l i).map Int.toNat).length := by rw [List.length_map]
  rw [e]
  refine few_of 6 id _ ?_ (fun x hx => ?_)
  · unfold List.Nodup
    rw [List.pairwise_map]
    refine hnd.imp_of_mem (fun {x y} hx hy hxy => ?_)
    have h1 := hm x hx
    have h2 := hm y hy
    omega
  · obtain ⟨y, hy, rfl⟩ := List.mem_map.1 hx
    have := hm y hy
    exact ⟨y.toNat, by omega, rfl⟩
/-- the owner is the one where going round about begins -/
theorem own_first {t : Int} {l : List Pt} (h : firstQ t l < l.length) : ownP t l = some l[firstQ t l].n := by
  have hr : 0 < (rotN t l).length := by rw [rotN_len]; omega
  have e := rotN_get (t := t) (l := l) (i := 0) (by omega) (by simpa [Nat.mod_eq_of_lt h] using h) hr
  have h1 := owners_head t l
  rw [ownersL_rot] at h1
  obtain ⟨x, m, hxm⟩ : ∃ x m, rotN t l = x :: m := by
    cases hh : rotN t l with
    | nil => rw [hh] at hr; simp at hr
    | cons x m => exact ⟨x, m, rfl⟩
  have e0 : (rotN t l)[0] = x := by simp [hxm]
  have hm : (firstQ t l + 0) % l.length = firstQ t l := by rw [Nat.add_zero, Nat.mod_eq_of_lt h]
  rw [e0] at e
  simp only [hm] at e
  rw [← h1, hxm, onceFrom]
  rw [if_neg (by simp)]
  show (onceFrom [x] m).head? = _
  rw [onceFrom_head m [x] x rfl, e]
end Go.Proofs.YtpcnfoaoajfhlaaGreatDoor

namespace Go.Proofs.YtpcnfoaoajfhlaaGreatDoor
set_option linter.unusedVariables false
set_option linter.unusedSimpArgs false
end Go.Proofs.YtpcnfoaoajfhlaaGreatDoor
