/-
  Package cache by its contracts: put.
  What put does to lists: a right cache stays one.
  The newest of a key in caches of several nodes, which lack it, all with it: on lists.
  Package cache by its contracts: Add.
  Package cache by its contracts: Both.
  Both caches, key by key: either way round, and with one of both again.
-/
import Derived.Test.YtpcnfoaoajfhlaaGreatDoorQoae
import Derived.Deep.RegionWith
import Derived.Test.YtpcnfoaoajfhlaaGreatDoorQoac
import Derived.Test.YtpcnfoaoajfhlaaGreatDoorQoab
namespace Go.Proofs.YtpcnfoaoajfhlaaGreatDoor
set_option linter.unusedVariables false
set_option linter.unusedSimpArgs false
set_option linter.unusedVariables false
set_option linter.unusedSimpArgs false
open Go.RowKit Go.Lib

/-- put, on lists: the row, whether it is another one, the fault -/
def putE (l : List En) (e : En) : List En × Bool × Int :=
  match getE l e.k with
  | none => (l.take (placeE l e.k) ++ e :: l.drop (placeE l e.k), true, 0)
  | some x => if (joinE x e).2 ≠ 0 then ([], false, (joinE x e).2) else (l.set (placeE l e.k) (joinE x e).1, !((joinE x e).1.same x), 0)
/-- what put leaves -/
def PutIs (B : Nat) (w : World) (v : Value) (r : List En × Bool × Int) (e : Ending) (w' : World) : Prop :=
  ∃ v', e = .returned (.tuple #[v', .bool r.2.1, eV r.2.2]) ∧ w'.ownsRow B 46 5 v' r.1.length (rowC r.1) ∧ w.grownBy w' v.ownBlock

theorem below_undrew {w w' : World} {B : Nat} (h : Below B w.drew w') : Below B w w' := ⟨h.os, h.tape, h.output, h.size, h.block⟩
theorem grownBy_of_below {w w' : World} {r : Option Nat} (h : Below w.heap.size w w') : w.grownBy w' r := ⟨h.os, h.tape, h.output, h.size, fun k hk _ => h.block k hk⟩
theorem grownBy_after {w w1 w' : World} {r : Option Nat} (h : Below w.heap.size w w1) (h' : w1.grownBy w' r) : w.grownBy w' r :=
  ⟨h'.os.trans h.os, h'.tape.trans h.tape, h'.output.trans h.output, Nat.le_trans h.size h'.size, fun k hk hne => (h'.block k (Nat.lt_of_lt_of_le hk h.size) hne).trans (h.block k hk)⟩
theorem ownsRow_below {w w' : World} {B : Nat} {e : TypeId} {size : Nat} {v : Value} {n : Nat} {xs : List Value} (h : w.ownsRow B e size v n xs) (hb : Below w.heap.size w w') : w'.ownsRow B e size v n xs := by
  refine ⟨h.1, ?_⟩
  rcases h.2 with hn | ⟨g, cap, cur, rfl, h1, hg, rest⟩
  · exact .inl hn
  · exact .inr ⟨g, cap, cur, rfl, h1, (hb.block g (Array.getElem?_eq_some_iff.1 hg).1).trans hg, rest⟩
theorem ownsRow_lt {w : World} {B : Nat} {e : TypeId} {size : Nat} {v : Value} {n : Nat} {xs : List Value} (h : w.ownsRow B e size v n xs) (g : Nat) (hg : v.ownBlock = some g) : g < w.heap.size := by
  rcases h.2 with ⟨rfl, _⟩ | ⟨g', cap, cur, rfl, _, hg', _⟩
  · cases hg
  · obtain rfl : g' = g := by simpa [Value.ownBlock] using hg
    exact (Array.getElem?_eq_some_iff.1 hg').1

set_option maxHeartbeats 4000000 in
theorem put_none (B : Nat) (v : Value) (l : List En) (k vv a : Int) (g : Bool) (t : ByteArray) (w : World) (ho : w.ownsRow B 46 5 v l.length (rowC l)) (hB : B ≤ w.heap.size) (hg : GoodL l) (hk : getE l k = none) :
    Calls Tryz.prog 71 #[v, .agg #[.int .i64 k, .int .i64 vv, .int .i64 a, .bool g, .string t]] w (PutIs B w v (l.take (placeE l k) ++ ⟨k, vv, a, g, t⟩ :: l.drop (placeE l k), true, 0)) := by
  have HO : Hid (w.ownsRow B 46 5 v l.length (rowC l)) := ho
  have HG : Hid (GoodL l) := hg
  have HK : Hid (getE l k = none) := hk
  have HL : Hid (∀ g, v.ownBlock = some g → g < w.heap.size) := ownsRow_lt ho
  have HB0 : Hid (Below w.heap.size w (w.alloc (.cells #[.int .i64 k, .int .i64 vv, .int .i64 a, .bool g, .string t] 46))) := by show Below _ _ _; go_grown
  have hpl := placeE_le l k
  have HPl : Hid _ := hpl
  obtain ⟨m, HM⟩ : ∃ m, Hid (placeE l k = m) := ⟨_, rfl⟩
  clear ho hg hk hpl
  rw [HM.out]
  go_enter Tryz.func71, Tryz.ntmps71
  go_wp2_with fail
  refine (place_c v l k _ (RowIs.own (ownsRow_below HO.out HB0.out)) HG.out).mono ?_
  rintro e w1 ⟨rfl, hb⟩
  rw [HK.out, HM.out]
  have B1 : Hid (Below w.heap.size w w1) := HB0.out.trans (hb.mono (by simp))
  obtain ⟨a0, a1, a2, a3, a4, af⟩ := (box_new w k vv a g t w.heap.size rfl).below hb (by simp)
  clear hb
  go_wp2_with fail
  have B2 : Hid (Below w.heap.size w (w1.alloc (.cells #[.int .i64 k, .int .i64 vv, .int .i64 a, .bool g, .string t] 46))) := B1.out.alloc B1.out.size _
  refine (insert_c B v m l ⟨k, vv, a, g, t⟩ w1.heap.size _ (ownsRow_below HO.out B2.out) (by have := B2.out.size; omega) (by rw [← HM.out]; exact HPl.out) HG.out.len (fun h => by have := HL.out _ h; have := B1.out.size; omega) (alloc_at _ _ _ rfl)).mono ?_
  rintro e w3 ⟨v', rfl, hown, hgrow⟩
  have HOw : Hid _ := hown
  have HGr : Hid _ := hgrow
  clear hown hgrow
  go_wp2_with fail
  go_ret3
  exact ⟨v', rfl, HOw.out, grownBy_after B2.out HGr.out⟩
theorem neq_cells (x0 x1 x2 : Int) (x3 : Bool) (x4 : ByteArray) (y0 y1 y2 : Int) (y3 : Bool) (y4 : ByteArray) (b : Bool) (h : En.same ⟨x0, x1, x2, x3, x4⟩ ⟨y0, y1, y2, y3, y4⟩ = b) (w : World) : (binOp .neq 46 (.agg #[.int .i64 x0, .int .i64 x1, .int .i64 x2, .bool x3, .string x4]) (.agg #[.int .i64 y0, .int .i64 y1, .int .i64 y2, .bool y3, .string y4])).run Tryz.prog w = .ok (.bool !b) w := by
  have h1 := eql_enIn ⟨x0, x1, x2, x3, x4⟩ ⟨y0, y1, y2, y3, y4⟩ w
  rw [h] at h1
  unfold En.val at h1
  rw [run_neq_struct, h1]
  rfl

theorem set_cells {w : World} {g m : Nat} {l : List En} {x : En} (hm : m < l.length) (h1 : ∀ j, (j < m * 5 ∨ m * 5 + 5 ≤ j) → ∀ u, (rowC l)[j]? = some u → w.cell? ⟨g, j, none⟩ = some u)
    (h2 : ∀ j u, x.cells[j]? = some u → w.cell? ⟨g, m * 5 + j, none⟩ = some u) : ∀ j u, (rowC (l.set m x))[j]? = some u → w.cell? ⟨g, j, none⟩ = some u := by
  have e : l.set m x = l.take m ++ x :: l.drop (m + 1) := List.set_eq_take_append_cons_drop.trans (if_pos hm)
  have e2 : rowC (l.set m x) = (rowC l).take (m * 5) ++ (x.cells ++ (rowC l).drop ((m + 1) * 5)) := by rw [e, rowC_append, rowC_take, rowC, rowC_drop]
  intro j u hu
  rw [e2] at hu
  have ht : ((rowC l).take (m * 5)).length = m * 5 := by rw [List.length_take, rowC_length]; omega
  rcases Nat.lt_or_ge j (m * 5) with hj | hj
  · rw [List.getElem?_append_left (by omega), List.getElem?_take, if_pos hj] at hu
    exact h1 j (.inl hj) u hu
  · rw [List.getElem?_append_right (by omega), ht] at hu
    rcases Nat.lt_or_ge (j - m * 5) 5 with h | h
    · rw [List.getElem?_append_left (by rw [En.cells_length]; exact h)] at hu
      have := h2 _ _ hu
      rwa [show m * 5 + (j - m * 5) = j by omega] at this
    · rw [List.getElem?_append_right (by rw [En.cells_length]; exact h), En.cells_length, List.getElem?_drop] at hu
      rw [show (m + 1) * 5 + (j - m * 5 - 5) = j by omega] at hu
      exact h1 j (.inr (by omega)) u hu

/-- a row of which one entry was written -/
theorem ownsRow_set {w W : World} {B m : Nat} {g cap : Nat} {l : List En} {x : En} (ho : w.ownsRow B 46 5 (.slice (some ⟨g, 0, none⟩) l.length cap) l.length (rowC l)) (hm : m < l.length) (hW : W.heap = (w.setCells g (m * 5) x.cells).heap) :
    W.ownsRow B 46 5 (.slice (some ⟨g, 0, none⟩) l.length cap) (l.set m x).length (rowC (l.set m x)) := by
  have hx : ∀ j u, (rowC l)[j]? = some u → w.cell? ⟨g, j, none⟩ = some u := fun j u hu => by
    have := ho.cells (g := g) rfl j u hu
    simpa [Addr.add_lit] using this
  rcases ho.2 with ⟨h, _⟩ | ⟨g', cap', cur, h, h1, hg, hc1, hc2, hs, _⟩
  · cases h
  · simp at h
    obtain ⟨rfl, rfl⟩ := h
    obtain ⟨cur', hg', hs'⟩ := setCells_block g 46 x.cells (m * 5) w cur hg
    rw [List.length_set]
    have hcW : ∀ a, W.cell? a = (w.setCells g (m * 5) x.cells).cell? a := fun a => World.cell?_of_block (by rw [hW])
    refine ownsRow_of h1 (by rw [hW]; exact hg') hc1 hc2 (by omega) (by rw [rowC_length, List.length_set]) (set_cells hm ?_ ?_)
    · intro j hj u hu
      rw [hcW, World.cell?_setCells_out g _ _ w _ (fun _ _ => hj)]
      exact hx j u hu
    · intro j u hu
      obtain ⟨hj, rfl⟩ := List.getElem?_eq_some_iff.1 hu
      rw [hcW]
      exact World.cell?_setCells_in g _ _ w (fun j hj => by rw [cell_of_row w g _ cur _ (0, 0) hg, Array.getElem?_eq_getElem (by rw [En.cells_length] at hj; omega)]; rfl) j hj

set_option maxHeartbeats 1000000 in
theorem put_some (B : Nat) (v : Value) (l : List En) (k vv a : Int) (g : Bool) (t : ByteArray) (x J : En) (n : Int) (w : World) (ho : w.ownsRow B 46 5 v l.length (rowC l)) (hB : B ≤ w.heap.size) (hg : GoodL l) (hk : getE l k = some x) (hj : joinE x ⟨k, vv, a, g, t⟩ = (J, n)) :
    Calls Tryz.prog 71 #[v, .agg #[.int .i64 k, .int .i64 vv, .int .i64 a, .bool g, .string t]] w (PutIs B w v (if n ≠ 0 then ([], false, n) else (l.set (placeE l k) J, !(J.same x), 0))) := by
  have HO : Hid (w.ownsRow B 46 5 v l.length (rowC l)) := ho
  have HG : Hid (GoodL l) := hg
  have HK : Hid (getE l k = some x) := hk
  obtain ⟨hm, hx, hxk⟩ := getE_some hg.rise hk
  clear hxk
  obtain ⟨G, cap, rfl, hBG, hGw⟩ := ho.form (by omega)
  have HAt : Hid (EnAt w G (placeE l k * 5) x) := by
    obtain ⟨_, p, c, hp, hr⟩ := RowIs.own ho
    simp at hp
    obtain ⟨rfl, rfl⟩ := hp
    obtain ⟨b, o, hbo, _, hat⟩ := hr (fun h => by simp [h] at hm)
    simp at hbo
    obtain ⟨rfl, rfl⟩ := hbo
    have := hat _ hm
    rw [hx, Nat.zero_add] at this
    exact this
  have HB0 : Hid (Below w.heap.size w (w.alloc (.cells #[.int .i64 k, .int .i64 vv, .int .i64 a, .bool g, .string t] 46))) := by show Below _ _ _; go_grown
  have HFz : Hid (∀ j, w.frozen? ⟨G, j, none⟩ = false) := fun j => by
    rcases ho.2 with ⟨h, _⟩ | ⟨g', cap', cur, h, h1, hg, _⟩
    · cases h
    · simp at h
      rw [h.1] 
      simp [World.frozen?, hg]
  obtain ⟨m, HM⟩ : ∃ m, Hid (placeE l k = m) := ⟨_, rfl⟩
  rw [HM.out] at hm HAt ⊢
  obtain ⟨N, HN⟩ : ∃ N, Hid (l.length = N) := ⟨_, rfl⟩
  have HSet : Hid (∀ (W0 W : World) (J : En), Below w.heap.size w W0 → W.heap = (W0.setCells G (m * 5) J.cells).heap → W.ownsRow B 46 5 (.slice (some ⟨G, 0, none⟩) N cap) (l.set m J).length (rowC (l.set m J))) := fun W0 W J h0 hW => by
    rw [← HN.out]
    exact ownsRow_set (ownsRow_below HO.out h0) hm hW
  have HPl : Hid (∀ W, Below w.heap.size w W → Calls Tryz.prog 117 #[.slice (some ⟨G, 0, none⟩) N cap, .int .i64 k] W fun e w' => e = .returned (.tuple #[.int .i64 m, .bool true]) ∧ Below W.heap.size W w') := fun W hW => by
    have c := place_c _ l k W (RowIs.own (ownsRow_below HO.out hW)) HG.out
    rw [HK.out, HM.out, HN.out] at c
    exact c
  obtain ⟨x0, x1, x2, x3, x4⟩ := x
  obtain ⟨J0, J1, J2, J3, J4⟩ := J
  have HJ : Hid (joinE ⟨x0, x1, x2, x3, x4⟩ ⟨k, vv, a, g, t⟩ = (⟨J0, J1, J2, J3, J4⟩, n)) := hj
  obtain ⟨R, HR⟩ : ∃ R, Hid ((if n ≠ 0 then ([], false, n) else (l.set m ⟨J0, J1, J2, J3, J4⟩, !(En.same ⟨J0, J1, J2, J3, J4⟩ ⟨x0, x1, x2, x3, x4⟩), 0)) = R) := ⟨_, rfl⟩
  rw [HR.out, HN.out]
  rw [HN.out] at hm
  have hm1 : (m : Int) < (N : Int) := by omega
  clear ho hg hk hx hj HO
  go_enter Tryz.func71, Tryz.ntmps71
  go_wp2_with fail
  refine Calls.mono (HPl.out _ HB0.out) ?_
  rintro e w1 ⟨rfl, hb⟩
  have B1 : Hid (Below w.heap.size w w1) := HB0.out.trans (hb.mono (by simp))
  have HE1 : Hid (BoxAt w1 w.heap.size k vv a g t) := (box_new w k vv a g t w.heap.size rfl).below hb (by simp)
  obtain ⟨a0, a1, a2, a3, a4, af⟩ := HE1.out
  have HA1 : Hid (EnAt w1 G (m * 5) ⟨x0, x1, x2, x3, x4⟩) := HAt.out.of_block (B1.out.block G hGw)
  obtain ⟨c0, c1, c2, c3, c4⟩ := HA1.out
  dsimp only at c0 c1 c2 c3 c4
  have hsz := hb.size
  have hGw1 : G < w1.heap.size := by simp at hsz; omega
  have hEw1 : w.heap.size < w1.heap.size := by simp at hsz; omega
  have p1 : ¬ G = w1.heap.size := by omega
  have p2 : ¬ w.heap.size = w1.heap.size := by omega
  have p3 : ¬ G = w.heap.size := by omega
  clear hb hsz
  go_upto_region 4 with fail
  go_cut [9, 10] (fun v9 v10 wc => ∃ K : Nat, v9 = .pointer (some ⟨K, 0, none⟩) ∧ v10 = eV n ∧ w1.heap.size ≤ K ∧ BoxAt wc K J0 J1 J2 J3 J4 ∧ Hid (Below w1.heap.size w1 wc))
  case first =>
    go_region_with (first | (go_at_call 119; refine (join_o HJ.out _).mono ?_; rintro e w7 ⟨rfl, hb7⟩; first | (have HE7 : Hid (BoxAt w7 w1.heap.size 0 0 0 false ⟨#[]⟩) := (box_new w1 0 0 0 false ⟨#[]⟩ w1.heap.size rfl).below (below_undrew hb7) (by simp); have HB7 : Hid (Below w1.heap.size w1 w7) := ((Below.refl _ w1).alloc (Nat.le_refl _) _).trans ((below_undrew hb7).mono (by simp)); obtain ⟨e0, e1, e2, e3, e4, ef⟩ := HE7.out; clear hb7) | (have HB7 : Hid (Below w1.heap.size w1 w7) := below_undrew hb7; clear hb7)))
    all_goals go_wp2_with fail
    all_goals go_meet
    all_goals first
      | exact ⟨_, rfl, rfl, HB7.out.size, box_new w7 J0 J1 J2 J3 J4 _ rfl, HB7.out.alloc HB7.out.size _⟩
      | exact ⟨_, rfl, rfl, Nat.le_refl _, HE7.out.set J0 J1 J2 J3 J4, ((((HB7.out.setCell (Nat.le_refl _) _).setCell (Nat.le_refl _) _).setCell (Nat.le_refl _) _).setCell (Nat.le_refl _) _).setCell (Nat.le_refl _) _⟩
  case rest =>
    obtain ⟨w2, h⟩ : ∃ x, x = wc := ⟨_, rfl⟩
    subst h
    obtain ⟨K, rfl, rfl, hK, bK, HB2⟩ := hcut
    have HBK : Hid (BoxAt w2 K J0 J1 J2 J3 J4) := bK
    have B2 : Hid (Below w.heap.size w w2) := B1.out.trans (HB2.out.mono B1.out.size)
    have HA2 : Hid (EnAt w2 G (m * 5) ⟨x0, x1, x2, x3, x4⟩) := HAt.out.of_block (B2.out.block G hGw)
    clear a0 a1 a2 a3 a4 af c0 c1 c2 c3 c4 bK
    by_cases hn : n = 0
    · subst hn
      have HR0 : Hid (R = (l.set m ⟨J0, J1, J2, J3, J4⟩, !(En.same ⟨J0, J1, J2, J3, J4⟩ ⟨x0, x1, x2, x3, x4⟩), 0)) := by
        show R = _
        rw [← HR.out, if_neg (by simp)]
      obtain ⟨sm, HSm⟩ : ∃ sm, Hid (En.same ⟨J0, J1, J2, J3, J4⟩ ⟨x0, x1, x2, x3, x4⟩ = sm) := ⟨_, rfl⟩
      have hq := neq_cells J0 J1 J2 J3 J4 x0 x1 x2 x3 x4 sm HSm.out
      have hgd := eqGuard_en
      obtain ⟨a0, a1, a2, a3, a4, af⟩ := HBK.out
      obtain ⟨c0, c1, c2, c3, c4⟩ := HA2.out
      dsimp only at c0 c1 c2 c3 c4
      have fz : ∀ j, w2.frozen? ⟨G, j, none⟩ = false := fun j => (World.frozen?_of_block (a := ⟨G, j, none⟩) (B2.out.block G hGw)).trans (HFz.out j)
      rw [eV, if_pos rfl]
      go_upto_region 7 with fail
      go_quiet (fail)
      go_wp2_with fail
      go_ret3
      have B3 : Below w.heap.size w (w2.drewN nq) := B2.out.trans (below_drewN _ _ _)
      refine ⟨.slice (some ⟨G, 0, none⟩) N cap, ?_, ?_, ?_⟩
      · rw [HR0.out, HSm.out]
        rfl
      · rw [HR0.out]
        exact HSet.out (w2.drewN nq) _ ⟨J0, J1, J2, J3, J4⟩ B3 rfl
      · refine grownBy_after B3 ⟨rfl, rfl, rfl, by simp, fun c hc hne => ?_⟩
        have hcG : c ≠ G := fun h => hne (by rw [h]; rfl)
        rw [Below.heap_setCell _ _ _ c hcG, Below.heap_setCell _ _ _ c hcG, Below.heap_setCell _ _ _ c hcG, Below.heap_setCell _ _ _ c hcG, Below.heap_setCell _ _ _ c hcG]
    · rw [eV, if_neg hn]
      go_wp2_with fail
      go_ret3
      refine ⟨.slice none 0 0, ?_, ?_, grownBy_of_below B2.out⟩
      · rw [← HR.out, if_pos hn]
        show _ = Ending.returned (.tuple #[.slice none 0 0, .bool false, eV n])
        rw [eV, if_neg hn]
        rfl
      · rw [← HR.out, if_pos hn]
        exact World.ownsRow_nil _ _ _ _

theorem put_c (B : Nat) (v : Value) (l : List En) (e : En) (w : World) (ho : w.ownsRow B 46 5 v l.length (rowC l)) (hB : B ≤ w.heap.size) (hg : GoodL l) :
    Calls Tryz.prog 71 #[v, e.val] w (PutIs B w v (putE l e)) := by
  obtain ⟨k, vv, a, g, t⟩ := e
  cases hk : getE l k with
  | none =>
    have hp : putE l ⟨k, vv, a, g, t⟩ = (l.take (placeE l k) ++ ⟨k, vv, a, g, t⟩ :: l.drop (placeE l k), true, 0) := by unfold putE; simp only [hk]
    rw [hp]
    exact put_none B v l k vv a g t w ho hB hg hk
  | some x =>
    have hp : putE l ⟨k, vv, a, g, t⟩ = (if (joinE x ⟨k, vv, a, g, t⟩).2 ≠ 0 then ([], false, (joinE x ⟨k, vv, a, g, t⟩).2) else (l.set (placeE l k) (joinE x ⟨k, vv, a, g, t⟩).1, !((joinE x ⟨k, vv, a, g, t⟩).1.same x), 0)) := by unfold putE; simp only [hk]
    rw [hp]
    exact put_some B v l k vv a g t x _ _ w ho hB hg hk rfl
end Go.Proofs.YtpcnfoaoajfhlaaGreatDoor

namespace Go.Proofs.YtpcnfoaoajfhlaaGreatDoor
set_option linter.unusedVariables false
set_option linter.unusedSimpArgs false
open Go.RowKit

theorem bad_key {e : En} (h : e.bad = 0) : 0 ≤ e.k ∧ e.k ≤ 7 := by
  unfold En.bad bad at h
  split at h
  · omega
  · rename_i h1
    simp [inR] at h1
    omega
theorem Rising.at {l : List En} (h : Rising l) (h0 : ∀ e ∈ l, 0 ≤ e.k) (j : Nat) (hj : j < l.length) : (j : Int) ≤ l[j].k := by
  induction j with
  | zero => exact h0 _ (List.getElem_mem _)
  | succ j ih =>
    have := ih (by omega)
    have := List.pairwise_iff_getElem.1 h j (j + 1) (by omega) hj (by omega)
    omega
theorem Rising.len {l : List En} (h : Rising l) (hb : ∀ e ∈ l, e.bad = 0) : l.length ≤ 8 := by
  rcases Nat.lt_or_ge 8 l.length with h8 | h8
  · have := h.at (fun e he => (bad_key (hb e he)).1) 8 h8
    have := (bad_key (hb l[8] (List.getElem_mem _))).2
    omega
  · exact h8
theorem GoodL.of {l : List En} (h : Rising l) (hb : ∀ e ∈ l, e.bad = 0) : GoodL l := ⟨h.len hb, hb, h⟩
theorem goodL_nil : GoodL [] := ⟨by simp, by simp, List.Pairwise.nil⟩

theorem joinE_ok {x y J : En} (h : joinE x y = (J, 0)) : x.bad = 0 ∧ y.bad = 0 ∧ x.k = y.k ∧ (J = x ∨ J = y) := by
  unfold joinE at h
  split at h
  · rename_i hb
    rw [Prod.mk.injEq] at h
    exact absurd h.2 hb
  · rename_i hb
    have hb : bad2 (bad x.k x.v x.a x.g x.t) (bad y.k y.v y.a y.g y.t) = 0 := by simpa using hb
    have hx : x.bad = 0 := by
      unfold bad2 at hb
      split at hb
      · assumption
      · rename_i h; exact absurd hb h
    have hy : y.bad = 0 := by
      unfold bad2 at hb
      rw [if_pos (show bad x.k x.v x.a x.g x.t = 0 from hx)] at hb
      exact hb
    split at h
    · simp at h
    · rename_i hk
      refine ⟨hx, hy, by simpa using hk, ?_⟩
      split at h
      · split at h
        · simp at h
        · simp at h; exact .inl h.symm
      · split at h
        · simp at h
        · simp at h; exact .inr h.symm

theorem getE_none {l : List En} {key : Int} (h : getE l key = none) : ∀ e ∈ l, e.k ≠ key := by
  intro e he hk
  rw [getE, List.find?_eq_none] at h
  exact h e he (by simpa using hk)
theorem rising_ins {l : List En} (h : Rising l) (x : En) (hn : getE l x.k = none) : Rising (l.take (placeE l x.k) ++ x :: l.drop (placeE l x.k)) := by
  unfold Rising
  rw [List.pairwise_append]
  refine ⟨List.Pairwise.sublist (List.take_sublist _ _) h, List.pairwise_cons.2 ⟨?_, List.Pairwise.sublist (List.drop_sublist _ _) h⟩, ?_⟩
  · intro y hy
    obtain ⟨j, hj, rfl⟩ := List.getElem_of_mem hy
    rw [List.length_drop] at hj
    rw [List.getElem_drop]
    have := placeE_more l x.k h (placeE l x.k + j) (by omega) (by omega)
    have := getE_none hn l[placeE l x.k + j] (List.getElem_mem _)
    omega
  · intro y hy z hz
    obtain ⟨j, hj, rfl⟩ := List.getElem_of_mem hy
    rw [List.length_take] at hj
    rw [List.getElem_take]
    have h1 := placeE_less l x.k j (by omega) (by omega)
    rcases List.mem_cons.1 hz with rfl | hz
    · exact h1
    · obtain ⟨i, hi, rfl⟩ := List.getElem_of_mem hz
      rw [List.length_drop] at hi
      rw [List.getElem_drop]
      have := placeE_more l x.k h (placeE l x.k + i) (by omega) (by omega)
      omega
theorem rising_set {l : List En} (h : Rising l) (m : Nat) (hm : m < l.length) (x : En) (hx : x.k = l[m].k) : Rising (l.set m x) := by
  unfold Rising
  rw [List.pairwise_iff_getElem]
  intro i j hi hj hij
  rw [List.length_set] at hi hj
  have := List.pairwise_iff_getElem.1 h i j hi hj hij
  rw [List.getElem_set, List.getElem_set]
  split
  · rename_i h1
    subst h1
    rw [if_neg (by omega), hx]
    exact this
  · split
    · rename_i h2
      subst h2
      rw [hx]
      exact this
    · exact this
theorem putE_good {l : List En} {e : En} (hg : GoodL l) (he : e.bad = 0) (h : (putE l e).2.2 = 0) : GoodL (putE l e).1 := by
  unfold putE at h ⊢
  cases hk : getE l e.k with
  | none =>
    simp only
    refine GoodL.of (rising_ins hg.rise e hk) ?_
    intro y hy
    rcases List.mem_append.1 hy with h1 | h1
    · exact hg.all y (List.mem_of_mem_take h1)
    · rcases List.mem_cons.1 h1 with rfl | h1
      · exact he
      · exact hg.all y (List.mem_of_mem_drop h1)
  | some x =>
    simp only [hk] at h ⊢
    split at h
    · rename_i hn; exact absurd h hn
    · rename_i hn
      rw [if_neg hn]
      have hn : (joinE x e).2 = 0 := by simpa using hn
      obtain ⟨hx, hy, hxy, hJ⟩ := joinE_ok (x := x) (y := e) (J := (joinE x e).1) (by rw [← hn])
      obtain ⟨hm, hmx, hmk⟩ := getE_some hg.rise hk
      refine GoodL.of (rising_set hg.rise _ hm _ ?_) ?_
      · rw [hmx]
        rcases hJ with h' | h' <;> rw [h']
        exact hxy.symm
      · intro y hy'
        rcases List.mem_or_eq_of_mem_set hy' with h' | rfl
        · exact hg.all y h'
        · rcases hJ with h' | h' <;> rw [h'] <;> assumption

/-- Add, on lists -/
def cacheAdd (l : List En) (e : En) : List En × Bool × Int :=
  if badL l ≠ 0 then ([], false, badL l) else if e.bad ≠ 0 then ([], false, e.bad) else putE l e
/-- all of a row put -/
def allE : List En → List En → List En × Int
  | l, [] => (l, 0)
  | l, e :: b => if (putE l e).2.2 ≠ 0 then ([], (putE l e).2.2) else allE (putE l e).1 b
/-- Both, on lists -/
def cacheBoth (a b : List En) : List En × Int :=
  if badL a ≠ 0 then ([], badL a) else if badL b ≠ 0 then ([], badL b) else allE a b
theorem allE_step {l b : List En} {j : Nat} (hj : j < b.length) : allE l (b.drop j) = if (putE l b[j]).2.2 ≠ 0 then ([], (putE l b[j]).2.2) else allE (putE l b[j]).1 (b.drop (j + 1)) := by
  rw [List.drop_eq_getElem_cons hj, allE]
theorem allE_good {l b : List En} (hg : GoodL l) (hb : ∀ e ∈ b, e.bad = 0) (h : (allE l b).2 = 0) : GoodL (allE l b).1 := by
  induction b generalizing l with
  | nil => exact hg
  | cons e b ih =>
    rw [allE] at h ⊢
    by_cases hn : (putE l e).2.2 = 0
    · rw [if_neg (by simpa using hn)] at h ⊢
      exact ih (putE_good hg (hb e (by simp)) hn) (fun x hx => hb x (by simp [hx])) h
    · rw [if_pos hn] at h
      exact absurd h hn
end Go.Proofs.YtpcnfoaoajfhlaaGreatDoor

namespace Go.Proofs.YtpcnfoaoajfhlaaGreatDoor
set_option linter.unusedVariables false
set_option linter.unusedSimpArgs false
open Go.RowKit

/-- the Join of all entries of a key, one by one, behind what is known by now -/
def joinFrom (key : Int) : Option En → List (List En) → Option En × Int
  | o, [] => (o, 0)
  | o, l :: ls => match getE l key with
    | none => joinFrom key o ls
    | some x => match o with
      | none => joinFrom key (some x) ls
      | some y => if (joinE y x).2 ≠ 0 then (none, (joinE y x).2) else joinFrom key (some (joinE y x).1) ls
theorem joinFrom_none {key : Int} {o : Option En} {ls : List (List En)} {j : Nat} (h : j < ls.length) (hg : getE ls[j] key = none) : joinFrom key o (ls.drop j) = joinFrom key o (ls.drop (j + 1)) := by
  rw [List.drop_eq_getElem_cons h, joinFrom, hg]
theorem joinFrom_first {key : Int} {x : En} {ls : List (List En)} {j : Nat} (h : j < ls.length) (hg : getE ls[j] key = some x) : joinFrom key none (ls.drop j) = joinFrom key (some x) (ls.drop (j + 1)) := by
  rw [List.drop_eq_getElem_cons h, joinFrom, hg]
theorem joinFrom_bad {key : Int} {x y : En} {ls : List (List En)} {j : Nat} (h : j < ls.length) (hg : getE ls[j] key = some x) {z : En} {n : Int} (hj : joinE y x = (z, n)) (hn : n ≠ 0) : joinFrom key (some y) (ls.drop j) = (none, n) := by
  rw [List.drop_eq_getElem_cons h, joinFrom, hg]
  show (if (joinE y x).2 ≠ 0 then (none, (joinE y x).2) else joinFrom key (some (joinE y x).1) (ls.drop (j + 1))) = _
  rw [hj, if_pos hn]
theorem joinFrom_next {key : Int} {x y z : En} {ls : List (List En)} {j : Nat} (h : j < ls.length) (hg : getE ls[j] key = some x) (hj : joinE y x = (z, 0)) : joinFrom key (some y) (ls.drop j) = joinFrom key (some z) (ls.drop (j + 1)) := by
  rw [List.drop_eq_getElem_cons h, joinFrom, hg]
  show (if (joinE y x).2 ≠ 0 then (none, (joinE y x).2) else joinFrom key (some (joinE y x).1) (ls.drop (j + 1))) = _
  rw [hj, if_neg (by simp)]
/-- what the join of all tells -/
def readQ (p : Option En × Int) : En × Int := if p.2 ≠ 0 then (zeroEn, p.2) else match p.1 with | none => (zeroEn, 5) | some x => (x, 0)
/-- Read, on lists -/
def readR (ls : List (List En)) (key : Int) : En × Int :=
  if badLs ls ≠ 0 then (zeroEn, badLs ls) else if isKeyB key = false then (zeroEn, 1) else readQ (joinFrom key none ls)
/-- does a cache lack a version of a key? -/
def lackB (key ver : Int) (l : List En) : Bool := match getE l key with | none => true | some y => decide (y.v < ver)
def lackN (ls : List (List En)) (key ver : Int) (n : Nat) : List Int := ((List.range n).filter (fun i => lackB key ver (ls.getD i []))).map (fun i => ((i : Nat) : Int))
theorem lackN_yes {ls : List (List En)} {key ver : Int} {n : Nat} (h : lackB key ver (ls.getD n []) = true) : lackN ls key ver (n + 1) = lackN ls key ver n ++ [(n : Int)] := by
  rw [lackN, List.range_succ, List.filter_append, List.map_append, List.filter_cons_of_pos (by exact h)]
  rfl
theorem lackN_no {ls : List (List En)} {key ver : Int} {n : Nat} (h : lackB key ver (ls.getD n []) = false) : lackN ls key ver (n + 1) = lackN ls key ver n := by
  rw [lackN, List.range_succ, List.filter_append, List.map_append, List.filter_cons_of_neg (by rw [h]; simp)]
  simp [lackN]
theorem lackN_len (ls : List (List En)) (key ver : Int) (n : Nat) : (lackN ls key ver n).length ≤ n := by
  rw [lackN, List.length_map]
  exact Nat.le_trans (List.length_filter_le _ _) (by simp)
/-- Lacks, on lists -/
def lacksR (ls : List (List En)) (key : Int) : List Int × Int :=
  if (readR ls key).2 ≠ 0 then ([], (readR ls key).2) else (lackN ls key (readR ls key).1.v ls.length, 0)
/-- each with an entry -/
def withE (x : En) (l : List En) : List En := (putE l x).1
/-- Write, on lists: where Read goes nothing clashes -/
def writeR (ls : List (List En)) (key : Int) : List (List En) × Int :=
  if (readR ls key).2 ≠ 0 then ([], (readR ls key).2) else (ls.map (withE (readR ls key).1), 0)
/-- is it fit to be met? -/
def meetE (n r w : Int) : Int := if (1 ≤ n ∧ n ≤ 6) ∧ (0 ≤ r ∧ r ≤ n) ∧ (0 ≤ w ∧ w ≤ n) then 0 else 1
def meetB (n r w : Int) : Bool := decide (meetE n r w = 0) && decide (n < r + w)

/-- x tells all that a does, and is no less new -/
def Over (x a : En) : Prop := a.k = x.k ∧ ((a.v = x.v ∧ a.g = x.g ∧ a.t = x.t ∧ a.a ≤ x.a) ∨ (a.v < x.v ∧ a.a < x.v))
theorem Over.refl (a : En) : Over a a := ⟨rfl, .inl ⟨rfl, rfl, rfl, Int.le_refl _⟩⟩
theorem Over.trans {x y a : En} (h : Over x y) (k : Over y a) : Over x a := by
  obtain ⟨h0, h⟩ := h
  obtain ⟨k0, k⟩ := k
  refine ⟨k0.trans h0, ?_⟩
  rcases k with ⟨k1, k2, k3, k4⟩ | ⟨k1, k2⟩
  · rcases h with ⟨h1, h2, h3, h4⟩ | ⟨h1, h2⟩
    · exact .inl ⟨k1.trans h1, k2.trans h2, k3.trans h3, Int.le_trans k4 h4⟩
    · exact .inr ⟨by omega, by omega⟩
  · rcases h with ⟨h1, h2, h3, h4⟩ | ⟨h1, h2⟩
    · exact .inr ⟨by omega, by omega⟩
    · exact .inr ⟨by omega, by omega⟩
theorem Known.over {a b x : En} (h : Known a b x) : Over x a ∧ Over x b := by
  obtain ⟨hk, h⟩ := h
  rcases h with ⟨h1, h2, h3, h4, rfl⟩ | ⟨h1, h2, h3, h4, rfl⟩ | ⟨h1, h2, rfl⟩ | ⟨h1, h2, rfl⟩
  · exact ⟨Over.refl _, hk.symm, .inl ⟨h1.symm, h2.symm, h3.symm, by omega⟩⟩
  · exact ⟨⟨hk, .inl ⟨h1, h2, h3, h4⟩⟩, Over.refl _⟩
  · exact ⟨Over.refl _, hk.symm, .inr ⟨h1, h2⟩⟩
  · exact ⟨⟨hk, .inr ⟨h1, h2⟩⟩, Over.refl _⟩
theorem Over.known {x a : En} (h : Over x a) : Known a x x := by
  obtain ⟨hk, h⟩ := h
  refine ⟨hk, ?_⟩
  rcases h with ⟨h1, h2, h3, h4⟩ | ⟨h1, h2⟩
  · exact .inr (.inl ⟨h1, h2, h3, h4, rfl⟩)
  · exact .inr (.inr (.inr ⟨h1, h2, rfl⟩))
theorem Over.join {x a : En} (h : Over x a) (ha : a.bad = 0) (hx : x.bad = 0) : joinE a x = (x, 0) := joinE_iff.2 ⟨ha, hx, h.known⟩
/-- what was joined is over each -/
theorem joinFrom_over {key : Int} {ls : List (List En)} : ∀ {o : Option En} {x : En}, (∀ l ∈ ls, badL l = 0) → joinFrom key o ls = (some x, 0) → (∀ y, o = some y → y.bad = 0 ∧ y.k = key) →
    (x.bad = 0 ∧ x.k = key) ∧ (∀ y, o = some y → Over x y) ∧ ∀ l ∈ ls, ∀ a, getE l key = some a → Over x a := by
  induction ls with
  | nil =>
    intro o x _ h ho
    have h1 : o = some x := congrArg Prod.fst h
    refine ⟨ho x h1, fun y hy => ?_, fun l hl => by cases hl⟩
    rw [h1] at hy
    obtain rfl := Option.some.inj hy
    exact Over.refl _
  | cons l ls ih =>
    intro o x hb h ho
    have hl : ∀ a, getE l key = some a → a.bad = 0 ∧ a.k = key := fun a ha => by
      have hg := badL_good (hb l (List.mem_cons_self))
      exact ⟨hg.all a (List.mem_of_find?_eq_some ha), by simpa using List.find?_some ha⟩
    have hb' : ∀ l ∈ ls, badL l = 0 := fun m hm => hb m (List.mem_cons_of_mem _ hm)
    rw [joinFrom] at h
    cases hg : getE l key with
    | none =>
      rw [hg] at h
      obtain ⟨i1, i2, i3⟩ := ih hb' h ho
      refine ⟨i1, i2, fun m hm a ha => ?_⟩
      rcases List.mem_cons.1 hm with rfl | hm
      · rw [hg] at ha; cases ha
      · exact i3 m hm a ha
    | some a0 =>
      rw [hg] at h
      cases o with
      | none =>
        obtain ⟨i1, i2, i3⟩ := ih hb' h (fun y hy => by obtain rfl := Option.some.inj hy; exact hl _ hg)
        refine ⟨i1, fun y hy => (by cases hy), fun m hm a ha => ?_⟩
        rcases List.mem_cons.1 hm with rfl | hm
        · rw [hg] at ha
          obtain rfl := Option.some.inj ha
          exact i2 _ rfl
        · exact i3 m hm a ha
      | some y0 =>
        obtain ⟨z, n, hj⟩ : ∃ z n, joinE y0 a0 = (z, n) := ⟨_, _, rfl⟩
        have h' : (if (joinE y0 a0).2 ≠ 0 then (none, (joinE y0 a0).2) else joinFrom key (some (joinE y0 a0).1) ls) = (some x, 0) := h
        rw [hj] at h'
        by_cases hn : n = 0
        · subst hn
          rw [if_neg (by simp)] at h'
          obtain ⟨j1, j2, hK⟩ := joinE_iff.1 hj
          obtain ⟨o1, o2⟩ := hK.over
          have hz : z.bad = 0 ∧ z.k = key := by
            rcases hK.one with rfl | rfl
            · exact ho _ rfl
            · exact hl _ hg
          obtain ⟨i1, i2, i3⟩ := ih hb' h' (fun y hy => by obtain rfl := Option.some.inj hy; exact hz)
          have i4 := i2 _ rfl
          refine ⟨i1, fun y hy => by obtain rfl := Option.some.inj hy; exact i4.trans o1, fun m hm a ha => ?_⟩
          rcases List.mem_cons.1 hm with rfl | hm
          · rw [hg] at ha
            obtain rfl := Option.some.inj ha
            exact i4.trans o2
          · exact i3 m hm a ha
        · rw [if_pos hn] at h'
          exact absurd (congrArg Prod.fst h') (by simp)
/-- where Read goes -/
theorem readR_ok {ls : List (List En)} {key : Int} {x : En} (h : readR ls key = (x, 0)) : GoodLs ls ∧ isKeyB key = true ∧ joinFrom key none ls = (some x, 0) := by
  unfold readR at h
  by_cases hb : badLs ls = 0
  · rw [if_neg (by simpa using hb)] at h
    cases hk : isKeyB key with
    | false => rw [hk, if_pos rfl] at h; exact absurd (congrArg Prod.snd h) (by simp)
    | true =>
      rw [hk, if_neg (by simp)] at h
      refine ⟨badLs_good hb, rfl, ?_⟩
      obtain ⟨o, n, hj⟩ : ∃ o n, joinFrom key none ls = (o, n) := ⟨_, _, rfl⟩
      rw [hj] at h ⊢
      unfold readQ at h
      dsimp only at h
      by_cases hn : n = 0
      · subst hn
        rw [if_neg (by simp)] at h
        cases o with
        | none => exact absurd (congrArg Prod.snd h) (by simp)
        | some y => rw [show y = x from congrArg Prod.fst h]
      · rw [if_pos hn] at h
        exact absurd (congrArg Prod.snd h) hn
  · rw [if_pos hb] at h
    exact absurd (congrArg Prod.snd h) hb
theorem readR_over {ls : List (List En)} {key : Int} {x : En} (h : readR ls key = (x, 0)) : (x.bad = 0 ∧ x.k = key) ∧ ∀ l ∈ ls, ∀ a, getE l key = some a → Over x a := by
  obtain ⟨h1, _, h3⟩ := readR_ok h
  obtain ⟨i1, _, i3⟩ := joinFrom_over h1.all h3 (fun y hy => by cases hy)
  exact ⟨i1, i3⟩
/-- what is read is put into each without a clash -/
theorem readR_put {ls : List (List En)} {key : Int} {x : En} (h : readR ls key = (x, 0)) {l : List En} (hl : l ∈ ls) : (putE l x).2.2 = 0 := by
  obtain ⟨⟨hx, hk⟩, ho⟩ := readR_over h
  obtain ⟨h1, _, _⟩ := readR_ok h
  have hg := badL_good (h1.all l hl)
  unfold putE
  rw [hk]
  cases ha : getE l key with
  | none => rfl
  | some a =>
    have hj := (ho l hl a ha).join (hg.all a (List.mem_of_find?_eq_some ha)) hx
    simp [hj]
theorem meetE_ok {n r w : Int} (h : meetE n r w = 0) : (1 ≤ n ∧ n ≤ 6) ∧ (0 ≤ r ∧ r ≤ n) ∧ (0 ≤ w ∧ w ≤ n) := by
  unfold meetE at h
  split at h
  · assumption
  · omega
end Go.Proofs.YtpcnfoaoajfhlaaGreatDoor

namespace Go.Proofs.YtpcnfoaoajfhlaaGreatDoor
set_option linter.unusedVariables false
set_option linter.unusedSimpArgs false
open Go.RowKit Go.Lib

/-- what Add leaves -/
def AddIs (w : World) (r : List En × Bool × Int) (e : Ending) (w' : World) : Prop :=
  ∃ v', e = .returned (.tuple #[v', .bool r.2.1, eV r.2.2]) ∧ w'.ownsRow w.heap.size 46 5 v' r.1.length (rowC r.1) ∧ Below w.heap.size w w'
theorem put_x (B : Nat) (v : Value) (l : List En) (k vv a : Int) (g : Bool) (t : ByteArray) (w : World) (ho : w.ownsRow B 46 5 v l.length (rowC l)) (hB : B ≤ w.heap.size) (hg : GoodL l) :
    Calls Tryz.prog 71 #[v, .agg #[.int .i64 k, .int .i64 vv, .int .i64 a, .bool g, .string t]] w (PutIs B w v (putE l ⟨k, vv, a, g, t⟩)) := put_c B v l ⟨k, vv, a, g, t⟩ w ho hB hg
theorem put_o {l : List En} {k vv a : Int} {g : Bool} {t : ByteArray} {R1 : List En} {R2 : Bool} {R3 : Int} (h : putE l ⟨k, vv, a, g, t⟩ = (R1, R2, R3)) (B : Nat) (v : Value) (w : World) (ho : w.ownsRow B 46 5 v l.length (rowC l)) (hB : B ≤ w.heap.size) (hg : GoodL l) :
    Calls Tryz.prog 71 #[v, .agg #[.int .i64 k, .int .i64 vv, .int .i64 a, .bool g, .string t]] w fun e w' => ∃ v', e = .returned (.tuple #[v', .bool R2, eV R3]) ∧ w'.ownsRow B 46 5 v' R1.length (rowC R1) ∧ w.grownBy w' v.ownBlock := by
  have c := put_x B v l k vv a g t w ho hB hg
  rw [h] at c
  exact c
theorem ownsRow_base {w : World} {B C : Nat} {e : TypeId} {size : Nat} {v : Value} {n : Nat} {xs : List Value} (h : w.ownsRow B e size v n xs) (hC : C ≤ B) : w.ownsRow C e size v n xs := by
  refine ⟨h.1, ?_⟩
  rcases h.2 with hn | ⟨g, cap, cur, rfl, h1, hg, rest⟩
  · exact .inl hn
  · exact .inr ⟨g, cap, cur, rfl, Nat.le_trans hC h1, hg, rest⟩
theorem ownsRow_from {w : World} {B : Nat} {e : TypeId} {size : Nat} {v : Value} {n : Nat} {xs : List Value} (h : w.ownsRow B e size v n xs) (c : Nat) (hc : v.ownBlock = some c) : B ≤ c := by
  rcases h.2 with ⟨rfl, _⟩ | ⟨g', cap, cur, rfl, h1, _⟩
  · cases hc
  · obtain rfl : g' = c := by simpa [Value.ownBlock] using hc
    exact h1
theorem below_grown {B : Nat} {w w1 w' : World} {v : Value} (h : Below B w w1) (hB : B ≤ w.heap.size) (hg : w1.grownBy w' v.ownBlock) (hv : ∀ c, v.ownBlock = some c → B ≤ c) : Below B w w' :=
  h.trans ⟨hg.os, hg.tape, hg.output, hg.size, fun c hc => hg.block c (Nat.lt_of_lt_of_le hc (Nat.le_trans hB h.size)) (fun e => by have := hv c e.symm; omega)⟩
theorem RowIs.drew {w : World} {v : Value} {l : List En} (h : RowIs w v l) : RowIs w.drew v l := h.blocks (Nat.le_refl _) (fun _ _ _ => rfl)

set_option maxHeartbeats 1000000 in
theorem add_c (v : Value) (l : List En) (k vv a : Int) (g : Bool) (t : ByteArray) (w : World) (hr : RowIs w v l) :
    Calls Tryz.prog 28 #[v, .agg #[.int .i64 k, .int .i64 vv, .int .i64 a, .bool g, .string t]] w (AddIs w (cacheAdd l ⟨k, vv, a, g, t⟩)) := by
  have HR : Hid (RowIs w v l) := hr
  have HB0 : Hid (Below w.heap.size w (w.alloc (.cells #[.int .i64 k, .int .i64 vv, .int .i64 a, .bool g, .string t] 46))) := by show Below _ _ _; go_grown
  clear hr
  by_cases hn : badL l = 0
  · have HN : Hid (badL l = 0) := hn
    have HG : Hid (GoodL l) := badL_good hn
    clear hn
    by_cases hm : bad k vv a g t = 0
    · have HM : Hid (bad k vv a g t = 0) := hm
      have HC : Hid (cacheAdd l ⟨k, vv, a, g, t⟩ = putE l ⟨k, vv, a, g, t⟩) := by
        show cacheAdd l _ = _
        rw [cacheAdd, if_neg (by simpa using HN.out), if_neg (by simpa [En.bad] using HM.out)]
      clear hm
      obtain ⟨R, HRs⟩ : ∃ R, Hid (putE l ⟨k, vv, a, g, t⟩ = R) := ⟨_, rfl⟩
      rw [HC.out, HRs.out]
      obtain ⟨R1, R2, R3⟩ := R
      go_enter Tryz.func28, Tryz.ntmps28
      go_wp2_with fail
      refine (cacheCheck_ok (HR.out.below HB0.out) HN.out).mono ?_
      rintro e w1 ⟨rfl, hb⟩
      have B1 : Hid (Below w.heap.size w w1) := HB0.out.trans (hb.mono (by simp))
      have E1 : Hid (BoxAt w1 w.heap.size k vv a g t) := (box_new w k vv a g t w.heap.size rfl).below hb (by simp)
      obtain ⟨a0, a1, a2, a3, a4, af⟩ := E1.out
      clear hb
      go_wp2_with fail
      refine (check_ok HM.out _).mono ?_
      rintro e w2 ⟨rfl, hb⟩
      have B2 : Hid (Below w.heap.size w w2) := B1.out.trans (hb.mono B1.out.size)
      have E2 : Hid (BoxAt w2 w.heap.size k vv a g t) := E1.out.below hb E1.out.lt
      clear hb a0 a1 a2 a3 a4 af
      obtain ⟨a0, a1, a2, a3, a4, af⟩ := E2.out
      go_upto_region 7 with fail
      go_region_with (first
        | (go_at_call 56; refine (clone_c v l _ ?_ HG.out.len).mono ?_; exact (HR.out.below B2.out).drew; rintro e w3 ⟨v3, rfl, ho3, hb3⟩; have HO3 : Hid (w3.ownsRow w2.heap.size 46 5 v3 l.length (rowC l)) := ho3; have HB3 : Hid (Below w2.heap.size w2 w3) := below_undrew hb3; clear ho3 hb3; obtain ⟨d0, d1, d2, d3, d4, df⟩ := E2.out.below HB3.out E2.out.lt)
        | (go_at_call 71; refine (put_o HRs.out w2.heap.size v3 _ HO3.out HB3.out.size HG.out).mono ?_; rintro e w4 ⟨v4, rfl, ho4, hg4⟩; have HO4 : Hid _ := ho4; have HG4 : Hid _ := hg4; clear ho4 hg4))
      all_goals go_wp2_with fail
      all_goals go_ret3
      all_goals exact ⟨v4, by simp [Act.put, Array.setIfInBounds, Array.getD], ownsRow_base HO4.out B2.out.size, below_grown (B2.out.trans (HB3.out.mono B2.out.size)) (Nat.le_refl _) HG4.out (fun c hc => Nat.le_trans B2.out.size (ownsRow_from HO3.out c hc))⟩
    · obtain ⟨m, HM⟩ : ∃ m, Hid (bad k vv a g t = m) := ⟨_, rfl⟩
      have HC : Hid (cacheAdd l ⟨k, vv, a, g, t⟩ = ([], false, m)) := by
        show cacheAdd l _ = _
        rw [cacheAdd, if_neg (by simpa using HN.out), if_pos (by simpa [En.bad] using hm)]
        show ([], false, bad k vv a g t) = _
        rw [HM.out]
      rw [HM.out] at hm
      rw [HC.out]
      go_enter Tryz.func28, Tryz.ntmps28
      go_wp2_with fail
      refine (cacheCheck_ok (HR.out.below HB0.out) HN.out).mono ?_
      rintro e w1 ⟨rfl, hb⟩
      have B1 : Hid (Below w.heap.size w w1) := HB0.out.trans (hb.mono (by simp))
      obtain ⟨a0, a1, a2, a3, a4, af⟩ := (box_new w k vv a g t w.heap.size rfl).below hb (by simp)
      clear hb
      go_wp2_with fail
      refine (check_err HM.out hm _).mono ?_
      rintro e w2 ⟨rfl, hb⟩
      have B2 : Hid (Below w.heap.size w w2) := B1.out.trans (hb.mono B1.out.size)
      clear hb
      go_wp2_with fail
      go_ret3
      refine ⟨.slice none 0 0, ?_, World.ownsRow_nil _ _ _ _, B2.out⟩
      show _ = Ending.returned (.tuple #[.slice none 0 0, .bool false, eV m])
      rw [eV, if_neg hm]
      rfl
  · obtain ⟨n, HN⟩ : ∃ n, Hid (badL l = n) := ⟨_, rfl⟩
    have HC : Hid (cacheAdd l ⟨k, vv, a, g, t⟩ = ([], false, n)) := by
      show cacheAdd l _ = _
      rw [cacheAdd, if_pos hn, HN.out]
    rw [HN.out] at hn
    rw [HC.out]
    go_enter Tryz.func28, Tryz.ntmps28
    go_wp2_with fail
    refine (cacheCheck_err (HR.out.below HB0.out) HN.out hn).mono ?_
    rintro e w1 ⟨rfl, hb⟩
    have B1 : Hid (Below w.heap.size w w1) := HB0.out.trans (hb.mono (by simp))
    clear hb
    go_wp2_with fail
    go_ret3
    refine ⟨.slice none 0 0, ?_, World.ownsRow_nil _ _ _ _, B1.out⟩
    show _ = Ending.returned (.tuple #[.slice none 0 0, .bool false, eV n])
    rw [eV, if_neg hn]
    rfl
end Go.Proofs.YtpcnfoaoajfhlaaGreatDoor

namespace Go.Proofs.YtpcnfoaoajfhlaaGreatDoor
set_option linter.unusedVariables false
set_option linter.unusedSimpArgs false
open Go.RowKit

/-- what Both leaves -/
def BothIs (w : World) (r : List En × Int) (e : Ending) (w' : World) : Prop :=
  ∃ v', e = .returned (.tuple #[v', eV r.2]) ∧ w'.ownsRow w.heap.size 46 5 v' r.1.length (rowC r.1) ∧ Below w.heap.size w w'

set_option maxHeartbeats 4000000 in
theorem both_c (va vb : Value) (a b : List En) (w : World) (hra : RowIs w va a) (hrb : RowIs w vb b) :
    Calls Tryz.prog 143 #[va, vb] w (BothIs w (cacheBoth a b)) := by
  have HA : Hid (RowIs w va a) := hra
  have HBr : Hid (RowIs w vb b) := hrb
  by_cases hn : badL a = 0
  · have HN : Hid (badL a = 0) := hn
    have HG : Hid (GoodL a) := badL_good hn
    clear hn
    by_cases hm : badL b = 0
    · have HM : Hid (badL b = 0) := hm
      have HGb : Hid (GoodL b) := badL_good hm
      have HC : Hid (cacheBoth a b = allE a (b.drop 0)) := by
        show cacheBoth a b = _
        rw [cacheBoth, if_neg (by simpa using HN.out), if_neg (by simpa using HM.out), List.drop_zero]
      clear hm hra
      obtain ⟨hlen, p, cap, rfl, hrow⟩ := hrb
      have HRow : Hid (b ≠ [] → ∃ bb o, p = some ⟨bb, o, none⟩ ∧ bb < w.heap.size ∧ ∀ j (h : j < b.length), EnAt w bb (o + j * 5) b[j]) := hrow
      clear hrow
      obtain ⟨nb, HNb⟩ : ∃ nb, Hid (b.length = nb) := ⟨_, rfl⟩
      rw [HNb.out] at hlen HBr ⊢
      obtain ⟨R, HR⟩ : ∃ R, Hid (cacheBoth a b = R) := ⟨_, rfl⟩
      rw [HR.out]
      have h8 : nb ≤ 8 := by rw [← HNb.out]; exact HGb.out.len
      go_enter Tryz.func143, Tryz.ntmps143
      go_wp2_with fail
      refine (cacheCheck_ok HA.out HN.out).mono ?_
      rintro e w1 ⟨rfl, hb⟩
      have B1 : Hid (Below w.heap.size w w1) := hb
      clear hb
      go_wp2_with fail
      refine (cacheCheck_ok (HBr.out.below B1.out) HM.out).mono ?_
      rintro e w2 ⟨rfl, hb⟩
      have B2 : Hid (Below w.heap.size w w2) := B1.out.trans (hb.mono B1.out.size)
      clear hb
      go_wp2_with fail
      refine (clone_c va a _ (HA.out.below B2.out) HG.out.len).mono ?_
      rintro e w3 ⟨v3, rfl, ho, hb⟩
      have B3 : Hid (Below w.heap.size w w3) := B2.out.trans (hb.mono B2.out.size)
      have HO3 : Hid (w3.ownsRow w.heap.size 46 5 v3 a.length (rowC a)) := ownsRow_base ho B2.out.size
      clear hb ho
      go_wp2_with fail
      go_loopw [8, 26] (fun s8 s26 wr => ∃ (j : Nat) (cur : List En) (v8 : Value), s8 = v8 ∧ j ≤ nb ∧ s26 = .int .i64 j ∧ Hid (wr.ownsRow w.heap.size 46 5 v8 cur.length (rowC cur)) ∧ Hid (GoodL cur) ∧ Hid (R = allE cur (b.drop j)) ∧ Hid (Below w.heap.size w wr)) (fun _ i _ => nb - (intOf i).toNat)
      case atStart => exact ⟨0, a, v3, rfl, Nat.zero_le _, rfl, HO3, HG, HR.out.symm.trans HC.out, B3⟩
      case round =>
        obtain ⟨j, cur, s8, hs8, hj, rfl, HO, HGc, HE, HB⟩ := hrel
        have hs8' := hs8.symm
        clear hs8
        subst hs8'
        by_cases hlt : j < nb
        · have hjl : j < b.length := by rw [HNb.out]; exact hlt
          obtain ⟨bb, o, rfl, hbw, hat⟩ := HRow.out (fun h => by simp [h] at hjl)
          have HAt : Hid (EnAt wr bb (o + j * 5) b[j]) := (hat j hjl).of_block (HB.out.block bb hbw)
          clear hat
          have HBad : Hid (b[j].bad = 0) := HGb.out.all _ (List.getElem_mem _)
          have HStep : Hid (R = if (putE cur b[j]).2.2 ≠ 0 then ([], (putE cur b[j]).2.2) else allE (putE cur b[j]).1 (b.drop (j + 1))) := HE.out.trans (allE_step hjl)
          obtain ⟨x, HX⟩ : ∃ x, Hid (b[j] = x) := ⟨b[j], show b[j] = b[j] from rfl⟩
          rw [HX.out] at HAt HBad HStep
          obtain ⟨⟨R1, R2, R3⟩, HPt⟩ : ∃ P, Hid (putE cur x = P) := ⟨_, rfl⟩
          rw [HPt.out] at HStep
          dsimp only at HStep
          obtain ⟨k, vv, aa, g, t⟩ := x
          obtain ⟨c0, c1, c2, c3, c4⟩ := HAt.out
          dsimp only at c0 c1 c2 c3 c4
          have hlti : (j : Int) < (nb : Int) := by omega
          have hbr : bb < wr.heap.size := by have := HB.out.size; omega
          have B4 : Hid (Below w.heap.size w (wr.alloc (.cells #[.int .i64 k, .int .i64 vv, .int .i64 aa, .bool g, .string t] 46))) := HB.out.alloc HB.out.size _
          have HO4 : Hid ((wr.alloc (.cells #[.int .i64 k, .int .i64 vv, .int .i64 aa, .bool g, .string t] 46)).ownsRow w.heap.size 46 5 s8 cur.length (rowC cur)) := ownsRow_below HO.out ((Below.refl _ wr).alloc (Nat.le_refl _) _)
          go_wp2_with fail
          refine (put_o HPt.out w.heap.size s8 _ HO4.out (by have := B4.out.size; omega) HGc.out).mono ?_
          rintro e w5 ⟨v5, rfl, ho5, hg5⟩
          have HO5 : Hid (w5.ownsRow w.heap.size 46 5 v5 R1.length (rowC R1)) := ho5
          have B5 : Hid (Below w.heap.size w w5) := below_grown B4.out (Nat.le_refl _) hg5 (fun c hc => ownsRow_from HO.out c hc)
          clear ho5 hg5 c0 c1 c2 c3 c4
          by_cases h3 : R3 = 0
          · subst h3
            rw [if_neg (by simp)] at HStep
            have HG5 : Hid (GoodL R1) := by
              have := putE_good (e := ⟨k, vv, aa, g, t⟩) HGc.out HBad.out (by rw [HPt.out])
              rw [HPt.out] at this
              exact this
            rw [eV, if_pos rfl]
            go_wp2_with fail
            go_roundw
            case rel => exact ⟨j + 1, R1, v5, rfl, by omega, by go_num, HO5, HG5, HStep, B5⟩
            case measure => simp [intOf]; omega
          · rw [if_pos h3] at HStep
            rw [eV, if_neg h3]
            go_wp2_with fail
            go_ret2
            refine ⟨.slice none 0 0, ?_, ?_, B5.out⟩
            · rw [HStep.out]
              show _ = Ending.returned (.tuple #[.slice none 0 0, eV R3])
              rw [eV, if_neg h3]
              rfl
            · rw [HStep.out]
              exact World.ownsRow_nil _ _ _ _
        · obtain rfl : j = nb := by omega
          have HR0 : Hid (R = (cur, 0)) := by
            show R = _
            rw [HE.out, List.drop_eq_nil_of_le (by rw [HNb.out]; exact Nat.le_refl _)]
            rfl
          go_wp2_with fail
          go_ret2
          refine ⟨s8, ?_, ?_, HB.out⟩
          · rw [HR0.out]
            rfl
          · rw [HR0.out]
            exact HO.out
    · obtain ⟨n, HM⟩ : ∃ n, Hid (badL b = n) := ⟨_, rfl⟩
      have HC : Hid (cacheBoth a b = ([], n)) := by
        show cacheBoth a b = _
        rw [cacheBoth, if_neg (by simpa using HN.out), if_pos hm, HM.out]
      rw [HM.out] at hm
      rw [HC.out]
      clear hra hrb
      go_enter Tryz.func143, Tryz.ntmps143
      go_wp2_with fail
      refine (cacheCheck_ok HA.out HN.out).mono ?_
      rintro e w1 ⟨rfl, hb⟩
      have B1 : Hid (Below w.heap.size w w1) := hb
      clear hb
      go_wp2_with fail
      refine (cacheCheck_err (HBr.out.below B1.out) HM.out hm).mono ?_
      rintro e w2 ⟨rfl, hb⟩
      have B2 : Hid (Below w.heap.size w w2) := B1.out.trans (hb.mono B1.out.size)
      clear hb
      go_wp2_with fail
      go_ret2
      refine ⟨.slice none 0 0, ?_, World.ownsRow_nil _ _ _ _, B2.out⟩
      show _ = Ending.returned (.tuple #[.slice none 0 0, eV n])
      rw [eV, if_neg hm]
      rfl
  · obtain ⟨n, HM⟩ : ∃ n, Hid (badL a = n) := ⟨_, rfl⟩
    have HC : Hid (cacheBoth a b = ([], n)) := by
      show cacheBoth a b = _
      rw [cacheBoth, if_pos hn, HM.out]
    rw [HM.out] at hn
    rw [HC.out]
    clear hra hrb
    go_enter Tryz.func143, Tryz.ntmps143
    go_wp2_with fail
    refine (cacheCheck_err HA.out HM.out hn).mono ?_
    rintro e w2 ⟨rfl, hb⟩
    have B2 : Hid (Below w.heap.size w w2) := hb
    clear hb
    go_wp2_with fail
    go_ret2
    refine ⟨.slice none 0 0, ?_, World.ownsRow_nil _ _ _ _, B2.out⟩
    show _ = Ending.returned (.tuple #[.slice none 0 0, eV n])
    rw [eV, if_neg hn]
    rfl
theorem both_o {a b R1 : List En} {R2 : Int} (h : cacheBoth a b = (R1, R2)) (va vb : Value) (w : World) (hra : RowIs w va a) (hrb : RowIs w vb b) :
    Calls Tryz.prog 143 #[va, vb] w fun e w' => ∃ v', e = .returned (.tuple #[v', eV R2]) ∧ w'.ownsRow w.heap.size 46 5 v' R1.length (rowC R1) ∧ Below w.heap.size w w' := by
  have c := both_c va vb a b w hra hrb
  rw [h] at c
  exact c
end Go.Proofs.YtpcnfoaoajfhlaaGreatDoor

namespace Go.Proofs.YtpcnfoaoajfhlaaGreatDoor
set_option linter.unusedVariables false
set_option linter.unusedSimpArgs false
open Go.RowKit

theorem getE_iff {l : List En} (hr : Rising l) {k : Int} {x : En} : getE l k = some x ↔ x ∈ l ∧ x.k = k := by
  constructor
  · intro h
    exact ⟨List.mem_of_find?_eq_some h, by simpa using List.find?_some h⟩
  · rintro ⟨hx, hk⟩
    cases hg : getE l k with
    | none => exact absurd hk (getE_none hg x hx)
    | some y =>
      have hy : y ∈ l := List.mem_of_find?_eq_some hg
      have hyk : y.k = k := by simpa using List.find?_some hg
      obtain ⟨i, hi, rfl⟩ := List.getElem_of_mem hx
      obtain ⟨j, hj, rfl⟩ := List.getElem_of_mem hy
      rcases Nat.lt_trichotomy i j with h | h | h
      · have := List.pairwise_iff_getElem.1 hr _ _ hi hj h; omega
      · subst h; rfl
      · have := List.pairwise_iff_getElem.1 hr _ _ hj hi h; omega
theorem opt_ext {a b : Option En} (h : ∀ x, a = some x ↔ b = some x) : a = b := by
  cases a with
  | none =>
    cases b with
    | none => rfl
    | some y => exact absurd ((h y).2 rfl) (by simp)
  | some x => exact ((h x).1 rfl).symm
/-- a rising row is told by its keys -/
theorem rising_ext {x y : List En} (hx : Rising x) (hy : Rising y) (h : ∀ k, getE x k = getE y k) : x = y := by
  have hm : ∀ e, e ∈ x ↔ e ∈ y := fun e => by
    have h1 := getE_iff hx (k := e.k) (x := e)
    have h2 := getE_iff hy (k := e.k) (x := e)
    rw [h e.k] at h1
    simp only [and_true] at h1 h2
    exact h1.symm.trans h2
  clear h
  induction x generalizing y with
  | nil =>
    cases y with
    | nil => rfl
    | cons e y => exact absurd ((hm e).2 (by simp)) (by simp)
  | cons a x ih =>
    cases y with
    | nil => exact absurd ((hm a).1 (by simp)) (by simp)
    | cons b y =>
      have hx' := List.pairwise_cons.1 hx
      have hy' := List.pairwise_cons.1 hy
      have hab : a = b := by
        rcases List.mem_cons.1 ((hm a).1 (by simp)) with h | h
        · exact h
        · rcases List.mem_cons.1 ((hm b).2 (by simp)) with h' | h'
          · exact h'.symm
          · have := hy'.1 a h
            have := hx'.1 b h'
            omega
      subst hab
      rw [ih hx'.2 hy'.2 (fun e => ?_)]
      constructor
      · intro he
        rcases List.mem_cons.1 ((hm e).1 (by simp [he])) with h | h
        · subst h
          have := hx'.1 e he
          omega
        · exact h
      · intro he
        rcases List.mem_cons.1 ((hm e).2 (by simp [he])) with h | h
        · subst h
          have := hy'.1 e he
          omega
        · exact h

/-- what put leaves of a key -/
theorem getE_put {l : List En} {e : En} (hg : GoodL l) (he : e.bad = 0) (h : (putE l e).2.2 = 0) (k : Int) :
    getE (putE l e).1 k = if k = e.k then (match getE l e.k with | none => some e | some a => some (joinE a e).1) else getE l k := by
  have hgood := putE_good hg he h
  apply opt_ext
  intro x
  rw [getE_iff hgood.rise]
  unfold putE at h ⊢
  cases hk : getE l e.k with
  | none =>
    simp only [hk]
    have hn := getE_none hk
    have hmem : x ∈ l.take (placeE l e.k) ++ e :: l.drop (placeE l e.k) ↔ x = e ∨ x ∈ l := by
      rw [List.mem_append, List.mem_cons]
      constructor
      · rintro (h | h | h)
        · exact .inr (List.mem_of_mem_take h)
        · exact .inl h
        · exact .inr (List.mem_of_mem_drop h)
      · rintro (h | h)
        · exact .inr (.inl h)
        · rw [← List.take_append_drop (placeE l e.k) l] at h
          rcases List.mem_append.1 h with h | h
          · exact .inl h
          · exact .inr (.inr h)
    rw [hmem]
    by_cases hke : k = e.k
    · rw [if_pos hke]
      constructor
      · rintro ⟨h1 | h1, h2⟩
        · rw [h1]
        · exact absurd (h2.trans hke) (hn x h1)
      · intro h1
        have h1 : e = x := by simpa using h1
        exact ⟨.inl h1.symm, by rw [← h1, hke]⟩
    · rw [if_neg hke, getE_iff hg.rise]
      constructor
      · rintro ⟨h1 | h1, h2⟩
        · rw [h1] at h2; exact absurd h2.symm hke
        · exact ⟨h1, h2⟩
      · rintro ⟨h1, h2⟩
        exact ⟨.inr h1, h2⟩
  | some a =>
    simp only [hk] at h ⊢
    have hn : (joinE a e).2 = 0 := by
      by_cases hz : (joinE a e).2 = 0
      · exact hz
      · rw [if_pos hz] at h; exact absurd h hz
    rw [if_neg (by simpa using hn)]
    obtain ⟨ha, _, hae, hJ⟩ := joinE_ok (x := a) (y := e) (J := (joinE a e).1) (by rw [← hn])
    obtain ⟨hm, hma, hmk⟩ := getE_some hg.rise hk
    have hJk : (joinE a e).1.k = e.k := by rcases hJ with h' | h' <;> rw [h']; exact hae
    generalize (joinE a e).1 = J at hJk ⊢
    have hJm : J ∈ l.set (placeE l e.k) J := List.mem_iff_getElem.2 ⟨placeE l e.k, by simpa using hm, by simp⟩
    by_cases hke : k = e.k
    · rw [if_pos hke]
      constructor
      · rintro ⟨h1, h2⟩
        rcases List.mem_or_eq_of_mem_set h1 with h3 | h3
        · obtain ⟨i, hi, rfl⟩ := List.getElem_of_mem h1
          rw [List.length_set] at hi
          rw [List.getElem_set] at h2 ⊢
          split
          · rfl
          · rename_i hne
            rw [if_neg hne] at h2
            have h4 : l[i].k = l[placeE l e.k].k := by rw [h2, hma, hmk, hke]
            rcases Nat.lt_trichotomy i (placeE l e.k) with h' | h' | h'
            · have := List.pairwise_iff_getElem.1 hg.rise _ _ hi hm h'; omega
            · exact absurd h'.symm hne
            · have := List.pairwise_iff_getElem.1 hg.rise _ _ hm hi h'; omega
        · rw [h3]
      · intro h1
        have h1 : J = x := by simpa using h1
        exact ⟨by rw [← h1]; exact hJm, by rw [← h1, hJk, hke]⟩
    · rw [if_neg hke, getE_iff hg.rise]
      constructor
      · rintro ⟨h1, h2⟩
        rcases List.mem_or_eq_of_mem_set h1 with h3 | h3
        · exact ⟨h3, h2⟩
        · rw [h3, hJk] at h2; exact absurd h2.symm hke
      · rintro ⟨h1, h2⟩
        refine ⟨?_, h2⟩
        obtain ⟨i, hi, rfl⟩ := List.getElem_of_mem h1
        refine List.mem_iff_getElem.2 ⟨i, by simpa using hi, ?_⟩
        rw [List.getElem_set, if_neg]
        intro h'
        have : l[i].k = e.k := by simp only [← h']; rw [hma]; exact hmk
        omega

/-- what two caches know of a key -/
def KnownAt : Option En → Option En → Option En → Prop
  | none, none, r => r = none
  | some a, none, r => r = some a
  | none, some b, r => r = some b
  | some a, some b, r => ∃ c, r = some c ∧ Known a b c
theorem KnownAt.comm {a b r : Option En} (h : KnownAt a b r) : KnownAt b a r := by
  cases a <;> cases b <;> simp only [KnownAt] at h ⊢
  · exact h
  · exact h
  · exact h
  · obtain ⟨c, h1, h2⟩ := h
    exact ⟨c, h1, h2.comm⟩
theorem KnownAt.left {a b r : Option En} (h : KnownAt a b r) : KnownAt r a r := by
  cases a <;> cases b <;> simp only [KnownAt] at h
  · subst h; rfl
  · subst h; rfl
  · subst h; exact ⟨_, rfl, Known.self _⟩
  · obtain ⟨c, rfl, h2⟩ := h
    exact ⟨c, rfl, h2.left⟩
theorem KnownAt.right {a b r : Option En} (h : KnownAt a b r) : KnownAt b r r := h.comm.left.comm
def Merged (a b x : List En) : Prop := ∀ k, KnownAt (getE a k) (getE b k) (getE x k)
theorem getE_cons_same {e : En} {b : List En} : getE (e :: b) e.k = some e := by simp [getE]
theorem getE_cons_other {e : En} {b : List En} {k : Int} (h : k ≠ e.k) : getE (e :: b) k = getE b k := by
  have : ¬ e.k = k := fun h' => h h'.symm
  simp [getE, this]
theorem getE_tail {e : En} {b : List En} (h : Rising (e :: b)) : getE b e.k = none := by
  cases hg : getE b e.k with
  | none => rfl
  | some y =>
    have h1 := (getE_iff (List.pairwise_cons.1 h).2).1 hg
    have := (List.pairwise_cons.1 h).1 y h1.1
    omega
theorem allE_merged {l b x : List En} (hl : GoodL l) (hb : Rising b) (hbb : ∀ e ∈ b, e.bad = 0) (h : allE l b = (x, 0)) : Merged l b x := by
  induction b generalizing l with
  | nil =>
    rw [allE] at h
    obtain rfl : l = x := by simpa using h
    intro k
    have : getE [] k = none := rfl
    rw [this]
    cases getE l k <;> rfl
  | cons e b ih =>
    rw [allE] at h
    by_cases hn : (putE l e).2.2 = 0
    · rw [if_neg (by simpa using hn)] at h
      have he := hbb e (by simp)
      have hm := ih (putE_good hl he hn) (List.pairwise_cons.1 hb).2 (fun y hy => hbb y (by simp [hy])) h
      intro k
      have hk := hm k
      rw [getE_put hl he hn] at hk
      by_cases hke : k = e.k
      · subst hke
        rw [if_pos rfl, getE_tail hb] at hk
        rw [getE_cons_same]
        cases ha : getE l e.k with
        | none => simp only [ha, KnownAt] at hk ⊢; exact hk
        | some a =>
          simp only [ha, KnownAt] at hk ⊢
          refine ⟨_, hk, ?_⟩
          have hj : joinE a e = ((joinE a e).1, 0) := by
            unfold putE at hn
            simp only [ha] at hn
            by_cases hz : (joinE a e).2 = 0
            · rw [← hz]
            · rw [if_pos hz] at hn; exact absurd hn hz
          exact (joinE_iff.1 hj).2.2
      · rw [if_neg hke] at hk
        rw [getE_cons_other hke]
        exact hk
    · rw [if_pos hn] at h
      simp only [Prod.mk.injEq] at h
      exact absurd h.2 hn
theorem merged_allE {l b x : List En} (hl : GoodL l) (hb : Rising b) (hbb : ∀ e ∈ b, e.bad = 0) (hx : Rising x) (h : Merged l b x) : allE l b = (x, 0) := by
  induction b generalizing l with
  | nil =>
    rw [allE]
    refine Prod.ext (rising_ext hl.rise hx fun k => ?_) rfl
    have hk := h k
    have hn : getE [] k = none := rfl
    rw [hn] at hk
    cases hc : getE l k with
    | none => rw [hc] at hk; simp only [KnownAt] at hk; rw [hk]
    | some a => rw [hc] at hk; simp only [KnownAt] at hk; rw [hk]
  | cons e b ih =>
    have he := hbb e (by simp)
    have hn : (putE l e).2.2 = 0 ∧ (∀ a, getE l e.k = some a → ∃ c, getE x e.k = some c ∧ (joinE a e).1 = c ∧ Known a e c) := by
      have hk := h e.k
      rw [getE_cons_same] at hk
      cases ha : getE l e.k with
      | none =>
        refine ⟨?_, by simp⟩
        unfold putE
        simp only [ha]
      | some a =>
        rw [ha] at hk
        simp only [KnownAt] at hk
        obtain ⟨c, hc, hkn⟩ := hk
        have hj : joinE a e = (c, 0) := joinE_iff.2 ⟨hl.all a ((getE_iff hl.rise).1 ha).1, he, hkn⟩
        refine ⟨?_, ?_⟩
        · unfold putE
          simp only [ha, hj]
          simp
        · intro a' ha'
          obtain rfl := Option.some.inj ha'
          exact ⟨c, hc, by rw [hj], hkn⟩
    rw [allE, if_neg (by simpa using hn.1)]
    refine ih (putE_good hl he hn.1) (List.pairwise_cons.1 hb).2 (fun y hy => hbb y (by simp [hy])) fun k => ?_
    rw [getE_put hl he hn.1]
    by_cases hke : k = e.k
    · subst hke
      rw [if_pos rfl, getE_tail hb]
      have hk := h e.k
      rw [getE_cons_same] at hk
      cases ha : getE l e.k with
      | none => rw [ha] at hk; simp only [KnownAt] at hk ⊢; exact hk
      | some a =>
        obtain ⟨c, hc, hj, _⟩ := hn.2 a ha
        simp only [KnownAt]
        rw [hc, hj]
    · rw [if_neg hke]
      have hk := h k
      rw [getE_cons_other hke] at hk
      exact hk

theorem both_good {a b x : List En} (h : cacheBoth a b = (x, 0)) : GoodL a ∧ GoodL b ∧ GoodL x ∧ Merged a b x := by
  unfold cacheBoth at h
  by_cases ha : badL a = 0
  · rw [if_neg (by simpa using ha)] at h
    by_cases hb : badL b = 0
    · rw [if_neg (by simpa using hb)] at h
      have ga := badL_good ha
      have gb := badL_good hb
      have gx := allE_good ga gb.all (by rw [h])
      rw [h] at gx
      exact ⟨ga, gb, gx, allE_merged ga gb.rise gb.all h⟩
    · rw [if_pos hb] at h
      simp only [Prod.mk.injEq] at h
      exact absurd h.2 hb
  · rw [if_pos ha] at h
    simp only [Prod.mk.injEq] at h
    exact absurd h.2 ha
theorem both_of {a b x : List En} (ha : GoodL a) (hb : GoodL b) (hx : GoodL x) (h : Merged a b x) : cacheBoth a b = (x, 0) := by
  rw [cacheBoth, if_neg (by simpa using ha.bad), if_neg (by simpa using hb.bad)]
  exact merged_allE ha hb.rise hb.all hx.rise h
theorem both_turn {a b x : List En} (h : cacheBoth a b = (x, 0)) : cacheBoth b a = (x, 0) := by
  obtain ⟨ga, gb, gx, hm⟩ := both_good h
  exact both_of gb ga gx fun k => (hm k).comm
theorem both_left {a b x : List En} (h : cacheBoth a b = (x, 0)) : cacheBoth x a = (x, 0) := by
  obtain ⟨ga, gb, gx, hm⟩ := both_good h
  exact both_of gx ga gx fun k => (hm k).left
theorem both_right {a b x : List En} (h : cacheBoth a b = (x, 0)) : cacheBoth b x = (x, 0) := by
  obtain ⟨ga, gb, gx, hm⟩ := both_good h
  exact both_of gb gx gx fun k => (hm k).right
theorem bad_span {e : En} (h : e.bad = 0) : e.v ≤ e.a := by
  unfold En.bad bad at h
  split at h
  · omega
  · rename_i h1
    simp [inR] at h1
    omega
end Go.Proofs.YtpcnfoaoajfhlaaGreatDoor
