/-
  Package cache by its contracts: put.
  Package cache by its contracts: Get.
  What put does to lists: a right cache stays one.
-/
import Derived.Test.YtpcnfoaoajfhlaaGreatDoorRaad
import Derived.Deep.RegionWith
import Derived.Test.YtpcnfoaoajfhlaaGreatDoorRaac
namespace Go.Proofs.YtpcnfoaoajfhlaaGreatDoor
set_option linter.unusedVariables false
set_option linter.unusedSimpArgs false
set_option linter.unusedVariables false
set_option linter.unusedSimpArgs false
open Go.RowKit Go.Lib

/-- put, on lists: the row, whether it is another one, the fault -/
def putE (l : List En) (e : En) : List En × Bool × Int :=
  match getE l e.k with
  | none => (l.take (placeE l e.k) ++ e :: l.drop (placeE l e.k), true, 0)
  | some x => if (joinE x e).2 ≠ 0 then ([], false, (joinE x e).2) else (l.set (placeE l e.k) (joinE x e).1, !((joinE x e).1.same x), 0)
/-- what put leaves -/
def PutIs (B : Nat) (w : World) (v : Value) (r : List En × Bool × Int) (e : Ending) (w' : World) : Prop :=
  ∃ v', e = .returned (.tuple #[v', .bool r.2.1, eV r.2.2]) ∧ w'.ownsRow B 46 5 v' r.1.length (rowC r.1) ∧ w.grownBy w' v.ownBlock

theorem below_undrew {w w' : World} {B : Nat} (h : Below B w.drew w') : Below B w w' := ⟨h.os, h.tape, h.output, h.size, h.block⟩
theorem grownBy_of_below {w w' : World} {r : Option Nat} (h : Below w.heap.size w w') : w.grownBy w' r := ⟨h.os, h.tape, h.output, h.size, fun k hk _ => h.block k hk⟩
theorem grownBy_after {w w1 w' : World} {r : Option Nat} (h : Below w.heap.size w w1) (h' : w1.grownBy w' r) : w.grownBy w' r :=
  ⟨h'.os.trans h.os, h'.tape.trans h.tape, h'.output.trans h.output, Nat.le_trans h.size h'.size, fun k hk hne => (h'.block k (Nat.lt_of_lt_of_le hk h.size) hne).trans (h.block k hk)⟩
theorem ownsRow_below {w w' : World} {B : Nat} {e : TypeId} {size : Nat} {v : Value} {n : Nat} {xs : List Value} (h : w.ownsRow B e size v n xs) (hb : Below w.heap.size w w') : w'.ownsRow B e size v n xs := by
  refine ⟨h.1, ?_⟩
  rcases h.2 with hn | ⟨g, cap, cur, rfl, h1, hg, rest⟩
  · exact .inl hn
  · exact .inr ⟨g, cap, cur, rfl, h1, (hb.block g (Array.getElem?_eq_some_iff.1 hg).1).trans hg, rest⟩
theorem ownsRow_lt {w : World} {B : Nat} {e : TypeId} {size : Nat} {v : Value} {n : Nat} {xs : List Value} (h : w.ownsRow B e size v n xs) (g : Nat) (hg : v.ownBlock = some g) : g < w.heap.size := by
  rcases h.2 with ⟨rfl, _⟩ | ⟨g', cap, cur, rfl, _, hg', _⟩
  · cases hg
  · obtain rfl : g' = g := by simpa [Value.ownBlock] using hg
    exact (Array.getElem?_eq_some_iff.1 hg').1

set_option maxHeartbeats 4000000 in
theorem put_none (B : Nat) (v : Value) (l : List En) (k vv a : Int) (g : Bool) (t : ByteArray) (w : World) (ho : w.ownsRow B 46 5 v l.length (rowC l)) (hB : B ≤ w.heap.size) (hg : GoodL l) (hk : getE l k = none) :
    Calls Tryz.prog 71 #[v, .agg #[.int .i64 k, .int .i64 vv, .int .i64 a, .bool g, .string t]] w (PutIs B w v (l.take (placeE l k) ++ ⟨k, vv, a, g, t⟩ :: l.drop (placeE l k), true, 0)) := by
  have HO : Hid (w.ownsRow B 46 5 v l.length (rowC l)) := ho
  have HG : Hid (GoodL l) := hg
  have HK : Hid (getE l k = none) := hk
  have HL : Hid (∀ g, v.ownBlock = some g → g < w.heap.size) := ownsRow_lt ho
  have HB0 : Hid (Below w.heap.size w (w.alloc (.cells #[.int .i64 k, .int .i64 vv, .int .i64 a, .bool g, .string t] 46))) := by show Below _ _ _; go_grown
  have hpl := placeE_le l k
  have HPl : Hid _ := hpl
  obtain ⟨m, HM⟩ : ∃ m, Hid (placeE l k = m) := ⟨_, rfl⟩
  clear ho hg hk hpl
  rw [HM.out]
  go_enter Tryz.func71, Tryz.ntmps71
  go_wp2_with fail
  refine (place_c v l k _ (RowIs.own (ownsRow_below HO.out HB0.out)) HG.out).mono ?_
  rintro e w1 ⟨rfl, hb⟩
  rw [HK.out, HM.out]
  have B1 : Hid (Below w.heap.size w w1) := HB0.out.trans (hb.mono (by simp))
  obtain ⟨a0, a1, a2, a3, a4, af⟩ := (box_new w k vv a g t w.heap.size rfl).below hb (by simp)
  clear hb
  go_wp2_with fail
  have B2 : Hid (Below w.heap.size w (w1.alloc (.cells #[.int .i64 k, .int .i64 vv, .int .i64 a, .bool g, .string t] 46))) := B1.out.alloc B1.out.size _
  refine (insert_c B v m l ⟨k, vv, a, g, t⟩ w1.heap.size _ (ownsRow_below HO.out B2.out) (by have := B2.out.size; omega) (by rw [← HM.out]; exact HPl.out) HG.out.len (fun h => by have := HL.out _ h; have := B1.out.size; omega) (alloc_at _ _ _ rfl)).mono ?_
  rintro e w3 ⟨v', rfl, hown, hgrow⟩
  have HOw : Hid _ := hown
  have HGr : Hid _ := hgrow
  clear hown hgrow
  go_wp2_with fail
  go_ret3
  exact ⟨v', rfl, HOw.out, grownBy_after B2.out HGr.out⟩
theorem neq_cells (x0 x1 x2 : Int) (x3 : Bool) (x4 : ByteArray) (y0 y1 y2 : Int) (y3 : Bool) (y4 : ByteArray) (b : Bool) (h : En.same ⟨x0, x1, x2, x3, x4⟩ ⟨y0, y1, y2, y3, y4⟩ = b) (w : World) : (binOp .neq 46 (.agg #[.int .i64 x0, .int .i64 x1, .int .i64 x2, .bool x3, .string x4]) (.agg #[.int .i64 y0, .int .i64 y1, .int .i64 y2, .bool y3, .string y4])).run Tryz.prog w = .ok (.bool !b) w := by
  have h1 := eql_enIn ⟨x0, x1, x2, x3, x4⟩ ⟨y0, y1, y2, y3, y4⟩ w
  rw [h] at h1
  unfold En.val at h1
  rw [run_neq_struct, h1]
  rfl

theorem set_cells {w : World} {g m : Nat} {l : List En} {x : En} (hm : m < l.length) (h1 : ∀ j, (j < m * 5 ∨ m * 5 + 5 ≤ j) → ∀ u, (rowC l)[j]? = some u → w.cell? ⟨g, j, none⟩ = some u)
    (h2 : ∀ j u, x.cells[j]? = some u → w.cell? ⟨g, m * 5 + j, none⟩ = some u) : ∀ j u, (rowC (l.set m x))[j]? = some u → w.cell? ⟨g, j, none⟩ = some u := by
  have e : l.set m x = l.take m ++ x :: l.drop (m + 1) := List.set_eq_take_append_cons_drop.trans (if_pos hm)
  have e2 : rowC (l.set m x) = (rowC l).take (m * 5) ++ (x.cells ++ (rowC l).drop ((m + 1) * 5)) := by rw [e, rowC_append, rowC_take, rowC, rowC_drop]
  intro j u hu
  rw [e2] at hu
  have ht : ((rowC l).take (m * 5)).length = m * 5 := by rw [List.length_take, rowC_length]; omega
  rcases Nat.lt_or_ge j (m * 5) with hj | hj
  · rw [List.getElem?_append_left (by omega), List.getElem?_take, if_pos hj] at hu
    exact h1 j (.inl hj) u hu
  · rw [List.getElem?_append_right (by omega), ht] at hu
    rcases Nat.lt_or_ge (j - m * 5) 5 with h | h
    · rw [List.getElem?_append_left (by rw [En.cells_length]; exact h)] at hu
      have := h2 _ _ hu
      rwa [show m * 5 + (j - m * 5) = j by omega] at this
    · rw [List.getElem?_append_right (by rw [En.cells_length]; exact h), En.cells_length, List.getElem?_drop] at hu
      rw [show (m + 1) * 5 + (j - m * 5 - 5) = j by omega] at hu
      exact h1 j (.inr (by omega)) u hu

/-- a row of which one entry was written -/
theorem ownsRow_set {w W : World} {B m : Nat} {g cap : Nat} {l : List En} {x : En} (ho : w.ownsRow B 46 5 (.slice (some ⟨g, 0, none⟩) l.length cap) l.length (rowC l)) (hm : m < l.length) (hW : W.heap = (w.setCells g (m * 5) x.cells).heap) :
    W.ownsRow B 46 5 (.slice (some ⟨g, 0, none⟩) l.length cap) (l.set m x).length (rowC (l.set m x)) := by
  have hx : ∀ j u, (rowC l)[j]? = some u → w.cell? ⟨g, j, none⟩ = some u := fun j u hu => by
    have := ho.cells (g := g) rfl j u hu
    simpa [Addr.add_lit] using this
  rcases ho.2 with ⟨h, _⟩ | ⟨g', cap', cur, h, h1, hg, hc1, hc2, hs, _⟩
  · cases h
  · simp at h
    obtain ⟨rfl, rfl⟩ := h
    obtain ⟨cur', hg', hs'⟩ := setCells_block g 46 x.cells (m * 5) w cur hg
    rw [List.length_set]
    have hcW : ∀ a, W.cell? a = (w.setCells g (m * 5) x.cells).cell? a := fun a => World.cell?_of_block (by rw [hW])
    refine ownsRow_of h1 (by rw [hW]; exact hg') hc1 hc2 (by omega) (by rw [rowC_length, List.length_set]) (set_cells hm ?_ ?_)
    · intro j hj u hu
      rw [hcW, World.cell?_setCells_out g _ _ w _ (fun _ _ => hj)]
      exact hx j u hu
    · intro j u hu
      obtain ⟨hj, rfl⟩ := List.getElem?_eq_some_iff.1 hu
      rw [hcW]
      exact World.cell?_setCells_in g _ _ w (fun j hj => by rw [cell_of_row w g _ cur _ (0, 0) hg, Array.getElem?_eq_getElem (by rw [En.cells_length] at hj; omega)]; rfl) j hj

set_option maxHeartbeats 1000000 in
theorem put_some (B : Nat) (v : Value) (l : List En) (k vv a : Int) (g : Bool) (t : ByteArray) (x J : En) (n : Int) (w : World) (ho : w.ownsRow B 46 5 v l.length (rowC l)) (hB : B ≤ w.heap.size) (hg : GoodL l) (hk : getE l k = some x) (hj : joinE x ⟨k, vv, a, g, t⟩ = (J, n)) :
    Calls Tryz.prog 71 #[v, .agg #[.int .i64 k, .int .i64 vv, .int .i64 a, .bool g, .string t]] w (PutIs B w v (if n ≠ 0 then ([], false, n) else (l.set (placeE l k) J, !(J.same x), 0))) := by
  have HO : Hid (w.ownsRow B 46 5 v l.length (rowC l)) := ho
  have HG : Hid (GoodL l) := hg
  have HK : Hid (getE l k = some x) := hk
  obtain ⟨hm, hx, hxk⟩ := getE_some hg.rise hk
  clear hxk
  obtain ⟨G, cap, rfl, hBG, hGw⟩ := ho.form (by omega)
  have HAt : Hid (EnAt w G (placeE l k * 5) x) := by
    obtain ⟨_, p, c, hp, hr⟩ := RowIs.own ho
    simp at hp
    obtain ⟨rfl, rfl⟩ := hp
    obtain ⟨b, o, hbo, _, hat⟩ := hr (fun h => by simp [h] at hm)
    simp at hbo
    obtain ⟨rfl, rfl⟩ := hbo
    have := hat _ hm
    rw [hx, Nat.zero_add] at this
    exact this
  have HB0 : Hid (Below w.heap.size w (w.alloc (.cells #[.int .i64 k, .int .i64 vv, .int .i64 a, .bool g, .string t] 46))) := by show Below _ _ _; go_grown
  have HFz : Hid (∀ j, w.frozen? ⟨G, j, none⟩ = false) := fun j => by
    rcases ho.2 with ⟨h, _⟩ | ⟨g', cap', cur, h, h1, hg, _⟩
    · cases h
    · simp at h
      rw [h.1] 
      simp [World.frozen?, hg]
  obtain ⟨m, HM⟩ : ∃ m, Hid (placeE l k = m) := ⟨_, rfl⟩
  rw [HM.out] at hm HAt ⊢
  obtain ⟨N, HN⟩ : ∃ N, Hid (l.length = N) := ⟨_, rfl⟩
  have HSet : Hid (∀ (W0 W : World) (J : En), Below w.heap.size w W0 → W.heap = (W0.setCells G (m * 5) J.cells).heap → W.ownsRow B 46 5 (.slice (some ⟨G, 0, none⟩) N cap) (l.set m J).length (rowC (l.set m J))) := fun W0 W J h0 hW => by
    rw [← HN.out]
    exact ownsRow_set (ownsRow_below HO.out h0) hm hW
  have HPl : Hid (∀ W, Below w.heap.size w W → Calls Tryz.prog 117 #[.slice (some ⟨G, 0, none⟩) N cap, .int .i64 k] W fun e w' => e = .returned (.tuple #[.int .i64 m, .bool true]) ∧ Below W.heap.size W w') := fun W hW => by
    have c := place_c _ l k W (RowIs.own (ownsRow_below HO.out hW)) HG.out
    rw [HK.out, HM.out, HN.out] at c
    exact c
  obtain ⟨x0, x1, x2, x3, x4⟩ := x
  obtain ⟨J0, J1, J2, J3, J4⟩ := J
  have HJ : Hid (joinE ⟨x0, x1, x2, x3, x4⟩ ⟨k, vv, a, g, t⟩ = (⟨J0, J1, J2, J3, J4⟩, n)) := hj
  obtain ⟨R, HR⟩ : ∃ R, Hid ((if n ≠ 0 then ([], false, n) else (l.set m ⟨J0, J1, J2, J3, J4⟩, !(En.same ⟨J0, J1, J2, J3, J4⟩ ⟨x0, x1, x2, x3, x4⟩), 0)) = R) := ⟨_, rfl⟩
  rw [HR.out, HN.out]
  rw [HN.out] at hm
  have hm1 : (m : Int) < (N : Int) := by omega
  clear ho hg hk hx hj HO
  go_enter Tryz.func71, Tryz.ntmps71
  go_wp2_with fail
  refine Calls.mono (HPl.out _ HB0.out) ?_
  rintro e w1 ⟨rfl, hb⟩
  have B1 : Hid (Below w.heap.size w w1) := HB0.out.trans (hb.mono (by simp))
  have HE1 : Hid (BoxAt w1 w.heap.size k vv a g t) := (box_new w k vv a g t w.heap.size rfl).below hb (by simp)
  obtain ⟨a0, a1, a2, a3, a4, af⟩ := HE1.out
  have HA1 : Hid (EnAt w1 G (m * 5) ⟨x0, x1, x2, x3, x4⟩) := HAt.out.of_block (B1.out.block G hGw)
  obtain ⟨c0, c1, c2, c3, c4⟩ := HA1.out
  dsimp only at c0 c1 c2 c3 c4
  have hsz := hb.size
  have hGw1 : G < w1.heap.size := by simp at hsz; omega
  have hEw1 : w.heap.size < w1.heap.size := by simp at hsz; omega
  have p1 : ¬ G = w1.heap.size := by omega
  have p2 : ¬ w.heap.size = w1.heap.size := by omega
  have p3 : ¬ G = w.heap.size := by omega
  clear hb hsz
  go_upto_region 4 with fail
  go_cut [9, 10] (fun v9 v10 wc => ∃ K : Nat, v9 = .pointer (some ⟨K, 0, none⟩) ∧ v10 = eV n ∧ w1.heap.size ≤ K ∧ BoxAt wc K J0 J1 J2 J3 J4 ∧ Hid (Below w1.heap.size w1 wc))
  case first =>
    go_region_with (first | (go_at_call 119; refine (join_o HJ.out _).mono ?_; rintro e w7 ⟨rfl, hb7⟩; first | (have HE7 : Hid (BoxAt w7 w1.heap.size 0 0 0 false ⟨#[]⟩) := (box_new w1 0 0 0 false ⟨#[]⟩ w1.heap.size rfl).below (below_undrew hb7) (by simp); have HB7 : Hid (Below w1.heap.size w1 w7) := ((Below.refl _ w1).alloc (Nat.le_refl _) _).trans ((below_undrew hb7).mono (by simp)); obtain ⟨e0, e1, e2, e3, e4, ef⟩ := HE7.out; clear hb7) | (have HB7 : Hid (Below w1.heap.size w1 w7) := below_undrew hb7; clear hb7)))
    all_goals go_wp2_with fail
    all_goals go_meet
    all_goals first
      | exact ⟨_, rfl, rfl, HB7.out.size, box_new w7 J0 J1 J2 J3 J4 _ rfl, HB7.out.alloc HB7.out.size _⟩
      | exact ⟨_, rfl, rfl, Nat.le_refl _, HE7.out.set J0 J1 J2 J3 J4, ((((HB7.out.setCell (Nat.le_refl _) _).setCell (Nat.le_refl _) _).setCell (Nat.le_refl _) _).setCell (Nat.le_refl _) _).setCell (Nat.le_refl _) _⟩
  case rest =>
    obtain ⟨w2, h⟩ : ∃ x, x = wc := ⟨_, rfl⟩
    subst h
    obtain ⟨K, rfl, rfl, hK, bK, HB2⟩ := hcut
    have HBK : Hid (BoxAt w2 K J0 J1 J2 J3 J4) := bK
    have B2 : Hid (Below w.heap.size w w2) := B1.out.trans (HB2.out.mono B1.out.size)
    have HA2 : Hid (EnAt w2 G (m * 5) ⟨x0, x1, x2, x3, x4⟩) := HAt.out.of_block (B2.out.block G hGw)
    clear a0 a1 a2 a3 a4 af c0 c1 c2 c3 c4 bK
    by_cases hn : n = 0
    · subst hn
      have HR0 : Hid (R = (l.set m ⟨J0, J1, J2, J3, J4⟩, !(En.same ⟨J0, J1, J2, J3, J4⟩ ⟨x0, x1, x2, x3, x4⟩), 0)) := by
        show R = _
        rw [← HR.out, if_neg (by simp)]
      obtain ⟨sm, HSm⟩ : ∃ sm, Hid (En.same ⟨J0, J1, J2, J3, J4⟩ ⟨x0, x1, x2, x3, x4⟩ = sm) := ⟨_, rfl⟩
      have hq := neq_cells J0 J1 J2 J3 J4 x0 x1 x2 x3 x4 sm HSm.out
      have hgd := eqGuard_en
      obtain ⟨a0, a1, a2, a3, a4, af⟩ := HBK.out
      obtain ⟨c0, c1, c2, c3, c4⟩ := HA2.out
      dsimp only at c0 c1 c2 c3 c4
      have fz : ∀ j, w2.frozen? ⟨G, j, none⟩ = false := fun j => (World.frozen?_of_block (a := ⟨G, j, none⟩) (B2.out.block G hGw)).trans (HFz.out j)
      rw [eV, if_pos rfl]
      go_upto_region 7 with fail
      go_quiet (fail)
      go_wp2_with fail
      go_ret3
      have B3 : Below w.heap.size w (w2.drewN nq) := B2.out.trans (below_drewN _ _ _)
      refine ⟨.slice (some ⟨G, 0, none⟩) N cap, ?_, ?_, ?_⟩
      · rw [HR0.out, HSm.out]
        rfl
      · rw [HR0.out]
        exact HSet.out (w2.drewN nq) _ ⟨J0, J1, J2, J3, J4⟩ B3 rfl
      · refine grownBy_after B3 ⟨rfl, rfl, rfl, by simp, fun c hc hne => ?_⟩
        have hcG : c ≠ G := fun h => hne (by rw [h]; rfl)
        rw [Below.heap_setCell _ _ _ c hcG, Below.heap_setCell _ _ _ c hcG, Below.heap_setCell _ _ _ c hcG, Below.heap_setCell _ _ _ c hcG, Below.heap_setCell _ _ _ c hcG]
    · rw [eV, if_neg hn]
      go_wp2_with fail
      go_ret3
      refine ⟨.slice none 0 0, ?_, ?_, grownBy_of_below B2.out⟩
      · rw [← HR.out, if_pos hn]
        show _ = Ending.returned (.tuple #[.slice none 0 0, .bool false, eV n])
        rw [eV, if_neg hn]
        rfl
      · rw [← HR.out, if_pos hn]
        exact World.ownsRow_nil _ _ _ _

theorem put_c (B : Nat) (v : Value) (l : List En) (e : En) (w : World) (ho : w.ownsRow B 46 5 v l.length (rowC l)) (hB : B ≤ w.heap.size) (hg : GoodL l) :
    Calls Tryz.prog 71 #[v, e.val] w (PutIs B w v (putE l e)) := by
  obtain ⟨k, vv, a, g, t⟩ := e
  cases hk : getE l k with
  | none =>
    have hp : putE l ⟨k, vv, a, g, t⟩ = (l.take (placeE l k) ++ ⟨k, vv, a, g, t⟩ :: l.drop (placeE l k), true, 0) := by unfold putE; simp only [hk]
    rw [hp]
    exact put_none B v l k vv a g t w ho hB hg hk
  | some x =>
    have hp : putE l ⟨k, vv, a, g, t⟩ = (if (joinE x ⟨k, vv, a, g, t⟩).2 ≠ 0 then ([], false, (joinE x ⟨k, vv, a, g, t⟩).2) else (l.set (placeE l k) (joinE x ⟨k, vv, a, g, t⟩).1, !((joinE x ⟨k, vv, a, g, t⟩).1.same x), 0)) := by unfold putE; simp only [hk]
    rw [hp]
    exact put_some B v l k vv a g t x _ _ w ho hB hg hk rfl
end Go.Proofs.YtpcnfoaoajfhlaaGreatDoor

namespace Go.Proofs.YtpcnfoaoajfhlaaGreatDoor
set_option linter.unusedVariables false
set_option linter.unusedSimpArgs false
open Go.RowKit

def zeroEn : En := ⟨0, 0, 0, false, ⟨#[]⟩⟩
def isKeyB (k : Int) : Bool := decide (0 ≤ k) && decide (k < 8)
/-- Get, on lists -/
def cacheGet (l : List En) (key : Int) : En × Int :=
  if badL l ≠ 0 then (zeroEn, badL l) else if isKeyB key = false then (zeroEn, 1) else match getE l key with | none => (zeroEn, 5) | some x => (x, 0)

theorem isKey_c (k : Int) (w : World) : Calls Tryz.prog 120 #[.int .i64 k] w fun e w' => e = .returned (.bool (isKeyB k)) ∧ w' = w := by
  by_cases h : 0 ≤ k
  · have hd : decide (0 ≤ k) = true := by simpa using h
    go_enter Tryz.func120, Tryz.ntmps120
    go_wp2
    go_ret
    exact ⟨by simp [isKeyB, h], rfl⟩
  · have hd : decide (0 ≤ k) = false := by simpa using h
    go_enter Tryz.func120, Tryz.ntmps120
    go_wp2
    go_ret
    refine ⟨?_, rfl⟩
    have h' : ¬ 0 ≤ k := by omega
    simp [isKeyB, h']
theorem cacheCheck_o {v : Value} {l : List En} {w : World} {n : Int} (hr : RowIs w v l) (h : badL l = n) :
    Calls Tryz.prog 70 #[v] w fun e w' => e = .returned (eV n) ∧ Below w.heap.size w w' := by
  subst h
  exact cacheCheck_c v l w hr
theorem cacheCheck_ok {v : Value} {l : List En} {w : World} (hr : RowIs w v l) (h : badL l = 0) :
    Calls Tryz.prog 70 #[v] w fun e w' => e = .returned .nilIface ∧ Below w.heap.size w w' := cacheCheck_o hr h
theorem cacheCheck_err {v : Value} {l : List En} {w : World} {n : Int} (hr : RowIs w v l) (h : badL l = n) (hn : n ≠ 0) :
    Calls Tryz.prog 70 #[v] w fun e w' => e = .returned (.iface 85 (.int .i64 n)) ∧ Below w.heap.size w w' := by
  have c := cacheCheck_o hr h
  rw [eV, if_neg hn] at c
  exact c

set_option maxHeartbeats 4000000 in
theorem get_c (v : Value) (l : List En) (key : Int) (w : World) (hr : RowIs w v l) :
    Calls Tryz.prog 73 #[v, .int .i64 key] w fun e w' => e = .returned (.tuple #[(cacheGet l key).1.val, eV (cacheGet l key).2]) ∧ Below w.heap.size w w' := by
  have HR : Hid (RowIs w v l) := hr
  have hlt : w.heap.size < (w.alloc (.cells #[.int .i64 0, .int .i64 0, .int .i64 0, .bool false, .string ⟨#[]⟩] 46)).heap.size := by simp
  have HB0 : Hid (Below w.heap.size w (w.alloc (.cells #[.int .i64 0, .int .i64 0, .int .i64 0, .bool false, .string ⟨#[]⟩] 46))) := by show Below _ _ _; go_grown
  clear hr hlt
  by_cases hn : badL l = 0
  · have HN : Hid (badL l = 0) := hn
    have HG : Hid (GoodL l) := badL_good hn
    clear hn
    cases hk : isKeyB key
    · have HC : Hid (cacheGet l key = (zeroEn, 1)) := by
        show cacheGet l key = _
        rw [cacheGet, if_neg (by simpa using HN.out), if_pos hk]
      have HKb : Hid (isKeyB key = false) := hk
      clear hk
      rw [HC.out]
      go_enter Tryz.func73, Tryz.ntmps73
      go_wp2_with fail
      refine (cacheCheck_ok (HR.out.below HB0.out) HN.out).mono ?_
      rintro e w1 ⟨rfl, hb⟩
      have B1 : Hid (Below w.heap.size w w1) := HB0.out.trans (hb.mono (by simp))
      obtain ⟨e0, e1, e2, e3, e4, ef⟩ := (box_new w 0 0 0 false ⟨#[]⟩ w.heap.size rfl).below hb (by simp)
      clear hb
      go_wp2_with (go_at_call 120; refine (isKey_c _ _).mono ?_; rintro e w' ⟨rfl, rfl⟩; rw [HKb.out])
      refine bodyPost_ret (v := .tuple #[.agg #[.int .i64 0, .int .i64 0, .int .i64 0, .bool false, .string ⟨#[]⟩], .iface 85 (.int .i64 1)]) (by simp [results, Tryz.results73, go_sem, e0, e1, e2, e3, e4]) rfl ?_
      refine ⟨rfl, ?_⟩
      have hb := B1.out
      go_grown
    · have HKb : Hid (isKeyB key = true) := hk
      clear hk
      cases hg : getE l key with
      | none =>
        have HC : Hid (cacheGet l key = (zeroEn, 5)) := by
          show cacheGet l key = _
          rw [cacheGet, if_neg (by simpa using HN.out), if_neg (by rw [HKb.out]; simp), hg]
        have HGt : Hid (getE l key = none) := hg
        clear hg
        rw [HC.out]
        go_enter Tryz.func73, Tryz.ntmps73
        go_wp2_with fail
        refine (cacheCheck_ok (HR.out.below HB0.out) HN.out).mono ?_
        rintro e w1 ⟨rfl, hb⟩
        have B1 : Hid (Below w.heap.size w w1) := HB0.out.trans (hb.mono (by simp))
        have E1 : Hid (BoxAt w1 w.heap.size 0 0 0 false ⟨#[]⟩) := (box_new w 0 0 0 false ⟨#[]⟩ w.heap.size rfl).below hb (by simp)
        clear hb
        go_wp2_with (go_at_call 120; refine (isKey_c _ _).mono ?_; rintro e w' ⟨rfl, rfl⟩; rw [HKb.out])
        refine (place_c v l key _ (HR.out.below B1.out) HG.out).mono ?_
        rintro e w2 ⟨rfl, hb⟩
        rw [HGt.out]
        have B2 : Hid (Below w.heap.size w w2) := B1.out.trans (hb.mono B1.out.size)
        obtain ⟨e0, e1, e2, e3, e4, ef⟩ := E1.out.below hb E1.out.lt
        clear hb
        go_wp2_with fail
        refine bodyPost_ret (v := .tuple #[.agg #[.int .i64 0, .int .i64 0, .int .i64 0, .bool false, .string ⟨#[]⟩], .iface 85 (.int .i64 5)]) (by simp [results, Tryz.results73, go_sem, e0, e1, e2, e3, e4]) rfl ?_
        refine ⟨rfl, ?_⟩
        have hb := B2.out
        go_grown
      | some x =>
        have HC : Hid (cacheGet l key = (x, 0)) := by
          show cacheGet l key = _
          rw [cacheGet, if_neg (by simpa using HN.out), if_neg (by rw [HKb.out]; simp), hg]
        have HGt : Hid (getE l key = some x) := hg
        obtain ⟨hm, hx, hxk⟩ := getE_some HG.out.rise hg
        clear hg hxk
        obtain ⟨hlen, p, cap, rfl, hrow⟩ := HR.out
        obtain ⟨b, o, rfl, hbw, hat⟩ := hrow (fun h => by simp [h] at hm)
        have HAt : Hid (EnAt w b (o + placeE l key * 5) x) := by
          have := hat _ hm
          rw [hx] at this
          exact this
        clear hrow hat hx
        rw [HC.out]
        obtain ⟨m, HM⟩ : ∃ m, Hid (placeE l key = m) := ⟨_, rfl⟩
        rw [HM.out] at hm HAt
        obtain ⟨N, HNl⟩ : ∃ N, Hid (l.length = N) := ⟨_, rfl⟩
        rw [HNl.out] at hm HR hlen ⊢
        have hm1 : (m : Int) < (N : Int) := by omega
        obtain ⟨x0, x1, x2, x3, x4⟩ := x
        go_enter Tryz.func73, Tryz.ntmps73
        go_wp2_with fail
        refine (cacheCheck_ok (HR.out.below HB0.out) HN.out).mono ?_
        rintro e w1 ⟨rfl, hb⟩
        have B1 : Hid (Below w.heap.size w w1) := HB0.out.trans (hb.mono (by simp))
        have E1 : Hid (BoxAt w1 w.heap.size 0 0 0 false ⟨#[]⟩) := (box_new w 0 0 0 false ⟨#[]⟩ w.heap.size rfl).below hb (by simp)
        clear hb
        go_wp2_with (go_at_call 120; refine (isKey_c _ _).mono ?_; rintro e w' ⟨rfl, rfl⟩; rw [HKb.out])
        refine (place_c _ l key _ (HR.out.below B1.out) HG.out).mono ?_
        rintro e w2 ⟨rfl, hb⟩
        rw [HGt.out, HM.out]
        have B2 : Hid (Below w.heap.size w w2) := B1.out.trans (hb.mono B1.out.size)
        obtain ⟨e0, e1, e2, e3, e4, ef⟩ := E1.out.below hb E1.out.lt
        obtain ⟨c0, c1, c2, c3, c4⟩ := HAt.out.of_block (B2.out.block b hbw)
        dsimp only at c0 c1 c2 c3 c4
        have p1 : ¬ b = w.heap.size := by omega
        have p2 : ¬ w.heap.size = b := by omega
        clear hb
        go_wp2_with fail
        refine bodyPost_ret (v := .tuple #[.agg #[.int .i64 x0, .int .i64 x1, .int .i64 x2, .bool x3, .string x4], .nilIface]) (by simp [results, Tryz.results73, go_sem, e0, e1, e2, e3, e4]) rfl ?_
        refine ⟨rfl, ?_⟩
        have hb := B2.out
        go_grown
  · obtain ⟨n, HN⟩ : ∃ n, Hid (badL l = n) := ⟨_, rfl⟩
    have HC : Hid (cacheGet l key = (zeroEn, n)) := by
      show cacheGet l key = _
      rw [cacheGet, if_pos hn, HN.out]
    rw [HN.out] at hn
    rw [HC.out]
    go_enter Tryz.func73, Tryz.ntmps73
    go_wp2_with fail
    refine (cacheCheck_err (HR.out.below HB0.out) HN.out hn).mono ?_
    rintro e w1 ⟨rfl, hb⟩
    have B1 : Hid (Below w.heap.size w w1) := HB0.out.trans (hb.mono (by simp))
    obtain ⟨e0, e1, e2, e3, e4, ef⟩ := (box_new w 0 0 0 false ⟨#[]⟩ w.heap.size rfl).below hb (by simp)
    clear hb
    go_wp2_with fail
    refine bodyPost_ret (v := .tuple #[.agg #[.int .i64 0, .int .i64 0, .int .i64 0, .bool false, .string ⟨#[]⟩], .iface 85 (.int .i64 n)]) (by simp [results, Tryz.results73, go_sem, e0, e1, e2, e3, e4]) rfl ?_
    refine ⟨by simp [eV, hn]; rfl, ?_⟩
    have hb := B1.out
    go_grown
end Go.Proofs.YtpcnfoaoajfhlaaGreatDoor

namespace Go.Proofs.YtpcnfoaoajfhlaaGreatDoor
set_option linter.unusedVariables false
set_option linter.unusedSimpArgs false
open Go.RowKit

theorem bad_key {e : En} (h : e.bad = 0) : 0 ≤ e.k ∧ e.k ≤ 7 := by
  unfold En.bad bad at h
  split at h
  · omega
  · rename_i h1
    simp [inR] at h1
    omega
theorem Rising.at {l : List En} (h : Rising l) (h0 : ∀ e ∈ l, 0 ≤ e.k) (j : Nat) (hj : j < l.length) : (j : Int) ≤ l[j].k := by
  induction j with
  | zero => exact h0 _ (List.getElem_mem _)
  | succ j ih =>
    have := ih (by omega)
    have := List.pairwise_iff_getElem.1 h j (j + 1) (by omega) hj (by omega)
    omega
theorem Rising.len {l : List En} (h : Rising l) (hb : ∀ e ∈ l, e.bad = 0) : l.length ≤ 8 := by
  rcases Nat.lt_or_ge 8 l.length with h8 | h8
  · have := h.at (fun e he => (bad_key (hb e he)).1) 8 h8
    have := (bad_key (hb l[8] (List.getElem_mem _))).2
    omega
  · exact h8
theorem GoodL.of {l : List En} (h : Rising l) (hb : ∀ e ∈ l, e.bad = 0) : GoodL l := ⟨h.len hb, hb, h⟩
theorem goodL_nil : GoodL [] := ⟨by simp, by simp, List.Pairwise.nil⟩

theorem joinE_ok {x y J : En} (h : joinE x y = (J, 0)) : x.bad = 0 ∧ y.bad = 0 ∧ x.k = y.k ∧ (J = x ∨ J = y) := by
  unfold joinE at h
  split at h
  · rename_i hb
    rw [Prod.mk.injEq] at h
    exact absurd h.2 hb
  · rename_i hb
    have hb : bad2 (bad x.k x.v x.a x.g x.t) (bad y.k y.v y.a y.g y.t) = 0 := by simpa using hb
    have hx : x.bad = 0 := by
      unfold bad2 at hb
      split at hb
      · assumption
      · rename_i h; exact absurd hb h
    have hy : y.bad = 0 := by
      unfold bad2 at hb
      rw [if_pos (show bad x.k x.v x.a x.g x.t = 0 from hx)] at hb
      exact hb
    split at h
    · simp at h
    · rename_i hk
      refine ⟨hx, hy, by simpa using hk, ?_⟩
      split at h
      · split at h
        · simp at h
        · simp at h; exact .inl h.symm
      · split at h
        · simp at h
        · simp at h; exact .inr h.symm

theorem getE_none {l : List En} {key : Int} (h : getE l key = none) : ∀ e ∈ l, e.k ≠ key := by
  intro e he hk
  rw [getE, List.find?_eq_none] at h
  exact h e he (by simpa using hk)
theorem rising_ins {l : List En} (h : Rising l) (x : En) (hn : getE l x.k = none) : Rising (l.take (placeE l x.k) ++ x :: l.drop (placeE l x.k)) := by
  unfold Rising
  rw [List.pairwise_append]
  refine ⟨List.Pairwise.sublist (List.take_sublist _ _) h, List.pairwise_cons.2 ⟨?_, List.Pairwise.sublist (List.drop_sublist _ _) h⟩, ?_⟩
  · intro y hy
    obtain ⟨j, hj, rfl⟩ := List.getElem_of_mem hy
    rw [List.length_drop] at hj
    rw [List.getElem_drop]
    have := placeE_more l x.k h (placeE l x.k + j) (by omega) (by omega)
    have := getE_none hn l[placeE l x.k + j] (List.getElem_mem _)
    omega
  · intro y hy z hz
    obtain ⟨j, hj, rfl⟩ := List.getElem_of_mem hy
    rw [List.length_take] at hj
    rw [List.getElem_take]
    have h1 := placeE_less l x.k j (by omega) (by omega)
    rcases List.mem_cons.1 hz with rfl | hz
    · exact h1
    · obtain ⟨i, hi, rfl⟩ := List.getElem_of_mem hz
      rw [List.length_drop] at hi
      rw [List.getElem_drop]
      have := placeE_more l x.k h (placeE l x.k + i) (by omega) (by omega)
      omega
theorem rising_set {l : List En} (h : Rising l) (m : Nat) (hm : m < l.length) (x : En) (hx : x.k = l[m].k) : Rising (l.set m x) := by
  unfold Rising
  rw [List.pairwise_iff_getElem]
  intro i j hi hj hij
  rw [List.length_set] at hi hj
  have := List.pairwise_iff_getElem.1 h i j hi hj hij
  rw [List.getElem_set, List.getElem_set]
  split
  · rename_i h1
    subst h1
    rw [if_neg (by omega), hx]
    exact this
  · split
    · rename_i h2
      subst h2
      rw [hx]
      exact this
    · exact this
theorem putE_good {l : List En} {e : En} (hg : GoodL l) (he : e.bad = 0) (h : (putE l e).2.2 = 0) : GoodL (putE l e).1 := by
  unfold putE at h ⊢
  cases hk : getE l e.k with
  | none =>
    simp only
    refine GoodL.of (rising_ins hg.rise e hk) ?_
    intro y hy
    rcases List.mem_append.1 hy with h1 | h1
    · exact hg.all y (List.mem_of_mem_take h1)
    · rcases List.mem_cons.1 h1 with rfl | h1
      · exact he
      · exact hg.all y (List.mem_of_mem_drop h1)
  | some x =>
    simp only [hk] at h ⊢
    split at h
    · rename_i hn; exact absurd h hn
    · rename_i hn
      rw [if_neg hn]
      have hn : (joinE x e).2 = 0 := by simpa using hn
      obtain ⟨hx, hy, hxy, hJ⟩ := joinE_ok (x := x) (y := e) (J := (joinE x e).1) (by rw [← hn])
      obtain ⟨hm, hmx, hmk⟩ := getE_some hg.rise hk
      refine GoodL.of (rising_set hg.rise _ hm _ ?_) ?_
      · rw [hmx]
        rcases hJ with h' | h' <;> rw [h']
        exact hxy.symm
      · intro y hy'
        rcases List.mem_or_eq_of_mem_set hy' with h' | rfl
        · exact hg.all y h'
        · rcases hJ with h' | h' <;> rw [h'] <;> assumption

/-- Add, on lists -/
def cacheAdd (l : List En) (e : En) : List En × Bool × Int :=
  if badL l ≠ 0 then ([], false, badL l) else if e.bad ≠ 0 then ([], false, e.bad) else putE l e
/-- all of a row put -/
def allE : List En → List En → List En × Int
  | l, [] => (l, 0)
  | l, e :: b => if (putE l e).2.2 ≠ 0 then ([], (putE l e).2.2) else allE (putE l e).1 b
/-- Both, on lists -/
def cacheBoth (a b : List En) : List En × Int :=
  if badL a ≠ 0 then ([], badL a) else if badL b ≠ 0 then ([], badL b) else allE a b
theorem allE_step {l b : List En} {j : Nat} (hj : j < b.length) : allE l (b.drop j) = if (putE l b[j]).2.2 ≠ 0 then ([], (putE l b[j]).2.2) else allE (putE l b[j]).1 (b.drop (j + 1)) := by
  rw [List.drop_eq_getElem_cons hj, allE]
theorem allE_good {l b : List En} (hg : GoodL l) (hb : ∀ e ∈ b, e.bad = 0) (h : (allE l b).2 = 0) : GoodL (allE l b).1 := by
  induction b generalizing l with
  | nil => exact hg
  | cons e b ih =>
    rw [allE] at h ⊢
    by_cases hn : (putE l e).2.2 = 0
    · rw [if_neg (by simpa using hn)] at h ⊢
      exact ih (putE_good hg (hb e (by simp)) hn) (fun x hx => hb x (by simp [hx])) h
    · rw [if_pos hn] at h
      exact absurd h hn
end Go.Proofs.YtpcnfoaoajfhlaaGreatDoor
