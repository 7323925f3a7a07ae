/-
  Package cache by its contracts: put.
  What put does to lists: a right cache stays one.
  Package cache by its contracts: Add.
  Package cache by its contracts: Both.
  What is known by two entries, as numbers: either way round, and as often as one likes.
  meresame.Cache by its contract: whether two rows are the same.
  Both caches, key by key: either way round, and with one of both again.
  A swap of two caches on lists: each is given what the other one has of some keys.
  Two trees whose ends were made alike where they parted are alike, whatever numbers are alike.
  What TreeParts says of two trees, on lists.
  A swap on lists: which keys may be asked for, what each gives, what both have then, and that their trees part no more.
  Package swap by its contracts: isKey, checkKeys, Give.
-/
import Derived.Test.YtippdgmgmenboagDoorMb
import Derived.Deep.RegionWith
import Derived.BigQuiet
import Derived.Test.YtippdgmgmenboagDoorMa
namespace Go.Proofs.YtippdgmgmenboagDoor
set_option linter.unusedVariables false
set_option linter.unusedSimpArgs false
set_option linter.unusedVariables false
set_option linter.unusedSimpArgs false
open Go.RowKit Go.Lib

/-- put, on lists: the row, whether it is another one, the fault -/
def putE (l : List En) (e : En) : List En × Bool × Int :=
  match getE l e.k with
  | none => (l.take (placeE l e.k) ++ e :: l.drop (placeE l e.k), true, 0)
  | some x => if (joinE x e).2 ≠ 0 then ([], false, (joinE x e).2) else (l.set (placeE l e.k) (joinE x e).1, !((joinE x e).1.same x), 0)
/-- what put leaves -/
def PutIs (B : Nat) (w : World) (v : Value) (r : List En × Bool × Int) (e : Ending) (w' : World) : Prop :=
  ∃ v', e = .returned (.tuple #[v', .bool r.2.1, eV r.2.2]) ∧ w'.ownsRow B 46 5 v' r.1.length (rowC r.1) ∧ w.grownBy w' v.ownBlock

theorem below_undrew {w w' : World} {B : Nat} (h : Below B w.drew w') : Below B w w' := ⟨h.os, h.tape, h.output, h.size, h.block⟩
theorem grownBy_of_below {w w' : World} {r : Option Nat} (h : Below w.heap.size w w') : w.grownBy w' r := ⟨h.os, h.tape, h.output, h.size, fun k hk _ => h.block k hk⟩
theorem grownBy_after {w w1 w' : World} {r : Option Nat} (h : Below w.heap.size w w1) (h' : w1.grownBy w' r) : w.grownBy w' r :=
  ⟨h'.os.trans h.os, h'.tape.trans h.tape, h'.output.trans h.output, Nat.le_trans h.size h'.size, fun k hk hne => (h'.block k (Nat.lt_of_lt_of_le hk h.size) hne).trans (h.block k hk)⟩
theorem ownsRow_below {w w' : World} {B : Nat} {e : TypeId} {size : Nat} {v : Value} {n : Nat} {xs : List Value} (h : w.ownsRow B e size v n xs) (hb : Below w.heap.size w w') : w'.ownsRow B e size v n xs := by
  refine ⟨h.1, ?_⟩
  rcases h.2 with hn | ⟨g, cap, cur, rfl, h1, hg, rest⟩
  · exact .inl hn
  · exact .inr ⟨g, cap, cur, rfl, h1, (hb.block g (Array.getElem?_eq_some_iff.1 hg).1).trans hg, rest⟩
theorem ownsRow_lt {w : World} {B : Nat} {e : TypeId} {size : Nat} {v : Value} {n : Nat} {xs : List Value} (h : w.ownsRow B e size v n xs) (g : Nat) (hg : v.ownBlock = some g) : g < w.heap.size := by
  rcases h.2 with ⟨rfl, _⟩ | ⟨g', cap, cur, rfl, _, hg', _⟩
  · cases hg
  · obtain rfl : g' = g := by simpa [Value.ownBlock] using hg
    exact (Array.getElem?_eq_some_iff.1 hg').1

set_option maxHeartbeats 4000000 in
theorem put_none (B : Nat) (v : Value) (l : List En) (k vv a : Int) (g : Bool) (t : ByteArray) (w : World) (ho : w.ownsRow B 46 5 v l.length (rowC l)) (hB : B ≤ w.heap.size) (hg : GoodL l) (hk : getE l k = none) :
    Calls Tryd.prog 33 #[v, .agg #[.int .i64 k, .int .i64 vv, .int .i64 a, .bool g, .string t]] w (PutIs B w v (l.take (placeE l k) ++ ⟨k, vv, a, g, t⟩ :: l.drop (placeE l k), true, 0)) := by
  have HO : Hid (w.ownsRow B 46 5 v l.length (rowC l)) := ho
  have HG : Hid (GoodL l) := hg
  have HK : Hid (getE l k = none) := hk
  have HL : Hid (∀ g, v.ownBlock = some g → g < w.heap.size) := ownsRow_lt ho
  have HB0 : Hid (Below w.heap.size w (w.alloc (.cells #[.int .i64 k, .int .i64 vv, .int .i64 a, .bool g, .string t] 46))) := by show Below _ _ _; go_grown
  have hpl := placeE_le l k
  have HPl : Hid _ := hpl
  obtain ⟨m, HM⟩ : ∃ m, Hid (placeE l k = m) := ⟨_, rfl⟩
  clear ho hg hk hpl
  rw [HM.out]
  go_enter Tryd.func33, Tryd.ntmps33
  go_wp2_with fail
  refine (place_c v l k _ (RowIs.own (ownsRow_below HO.out HB0.out)) HG.out).mono ?_
  rintro e w1 ⟨rfl, hb⟩
  rw [HK.out, HM.out]
  have B1 : Hid (Below w.heap.size w w1) := HB0.out.trans (hb.mono (by simp))
  obtain ⟨a0, a1, a2, a3, a4, af⟩ := (box_new w k vv a g t w.heap.size rfl).below hb (by simp)
  clear hb
  go_wp2_with fail
  have B2 : Hid (Below w.heap.size w (w1.alloc (.cells #[.int .i64 k, .int .i64 vv, .int .i64 a, .bool g, .string t] 46))) := B1.out.alloc B1.out.size _
  refine (insert_c B v m l ⟨k, vv, a, g, t⟩ w1.heap.size _ (ownsRow_below HO.out B2.out) (by have := B2.out.size; omega) (by rw [← HM.out]; exact HPl.out) HG.out.len (fun h => by have := HL.out _ h; have := B1.out.size; omega) (alloc_at _ _ _ rfl)).mono ?_
  rintro e w3 ⟨v', rfl, hown, hgrow⟩
  have HOw : Hid _ := hown
  have HGr : Hid _ := hgrow
  clear hown hgrow
  go_wp2_with fail
  go_ret3
  exact ⟨v', rfl, HOw.out, grownBy_after B2.out HGr.out⟩
theorem neq_cells (x0 x1 x2 : Int) (x3 : Bool) (x4 : ByteArray) (y0 y1 y2 : Int) (y3 : Bool) (y4 : ByteArray) (b : Bool) (h : En.same ⟨x0, x1, x2, x3, x4⟩ ⟨y0, y1, y2, y3, y4⟩ = b) (w : World) : (binOp .neq 46 (.agg #[.int .i64 x0, .int .i64 x1, .int .i64 x2, .bool x3, .string x4]) (.agg #[.int .i64 y0, .int .i64 y1, .int .i64 y2, .bool y3, .string y4])).run Tryd.prog w = .ok (.bool !b) w := by
  have h1 := eql_enIn ⟨x0, x1, x2, x3, x4⟩ ⟨y0, y1, y2, y3, y4⟩ w
  rw [h] at h1
  unfold En.val at h1
  rw [run_neq_struct, h1]
  rfl

theorem set_cells {w : World} {g m : Nat} {l : List En} {x : En} (hm : m < l.length) (h1 : ∀ j, (j < m * 5 ∨ m * 5 + 5 ≤ j) → ∀ u, (rowC l)[j]? = some u → w.cell? ⟨g, j, none⟩ = some u)
    (h2 : ∀ j u, x.cells[j]? = some u → w.cell? ⟨g, m * 5 + j, none⟩ = some u) : ∀ j u, (rowC (l.set m x))[j]? = some u → w.cell? ⟨g, j, none⟩ = some u := by
  have e : l.set m x = l.take m ++ x :: l.drop (m + 1) := List.set_eq_take_append_cons_drop.trans (if_pos hm)
  have e2 : rowC (l.set m x) = (rowC l).take (m * 5) ++ (x.cells ++ (rowC l).drop ((m + 1) * 5)) := by rw [e, rowC_append, rowC_take, rowC, rowC_drop]
  intro j u hu
  rw [e2] at hu
  have ht : ((rowC l).take (m * 5)).length = m * 5 := by rw [List.length_take, rowC_length]; omega
  rcases Nat.lt_or_ge j (m * 5) with hj | hj
  · rw [List.getElem?_append_left (by omega), List.getElem?_take, if_pos hj] at hu
    exact h1 j (.inl hj) u hu
  · rw [List.getElem?_append_right (by omega), ht] at hu
    rcases Nat.lt_or_ge (j - m * 5) 5 with h | h
    · rw [List.getElem?_append_left (by rw [En.cells_length]; exact h)] at hu
      have := h2 _ _ hu
      rwa [show m * 5 + (j - m * 5) = j by omega] at this
    · rw [List.getElem?_append_right (by rw [En.cells_length]; exact h), En.cells_length, List.getElem?_drop] at hu
      rw [show (m + 1) * 5 + (j - m * 5 - 5) = j by omega] at hu
      exact h1 j (.inr (by omega)) u hu

/-- a row of which one entry was written -/
theorem ownsRow_set {w W : World} {B m : Nat} {g cap : Nat} {l : List En} {x : En} (ho : w.ownsRow B 46 5 (.slice (some ⟨g, 0, none⟩) l.length cap) l.length (rowC l)) (hm : m < l.length) (hW : W.heap = (w.setCells g (m * 5) x.cells).heap) :
    W.ownsRow B 46 5 (.slice (some ⟨g, 0, none⟩) l.length cap) (l.set m x).length (rowC (l.set m x)) := by
  have hx : ∀ j u, (rowC l)[j]? = some u → w.cell? ⟨g, j, none⟩ = some u := fun j u hu => by
    have := ho.cells (g := g) rfl j u hu
    simpa [Addr.add_lit] using this
  rcases ho.2 with ⟨h, _⟩ | ⟨g', cap', cur, h, h1, hg, hc1, hc2, hs, _⟩
  · cases h
  · simp at h
    obtain ⟨rfl, rfl⟩ := h
    obtain ⟨cur', hg', hs'⟩ := setCells_block g 46 x.cells (m * 5) w cur hg
    rw [List.length_set]
    have hcW : ∀ a, W.cell? a = (w.setCells g (m * 5) x.cells).cell? a := fun a => World.cell?_of_block (by rw [hW])
    refine ownsRow_of h1 (by rw [hW]; exact hg') hc1 hc2 (by omega) (by rw [rowC_length, List.length_set]) (set_cells hm ?_ ?_)
    · intro j hj u hu
      rw [hcW, World.cell?_setCells_out g _ _ w _ (fun _ _ => hj)]
      exact hx j u hu
    · intro j u hu
      obtain ⟨hj, rfl⟩ := List.getElem?_eq_some_iff.1 hu
      rw [hcW]
      exact World.cell?_setCells_in g _ _ w (fun j hj => by rw [cell_of_row w g _ cur _ (0, 0) hg, Array.getElem?_eq_getElem (by rw [En.cells_length] at hj; omega)]; rfl) j hj

set_option maxHeartbeats 1000000 in
theorem put_some (B : Nat) (v : Value) (l : List En) (k vv a : Int) (g : Bool) (t : ByteArray) (x J : En) (n : Int) (w : World) (ho : w.ownsRow B 46 5 v l.length (rowC l)) (hB : B ≤ w.heap.size) (hg : GoodL l) (hk : getE l k = some x) (hj : joinE x ⟨k, vv, a, g, t⟩ = (J, n)) :
    Calls Tryd.prog 33 #[v, .agg #[.int .i64 k, .int .i64 vv, .int .i64 a, .bool g, .string t]] w (PutIs B w v (if n ≠ 0 then ([], false, n) else (l.set (placeE l k) J, !(J.same x), 0))) := by
  have HO : Hid (w.ownsRow B 46 5 v l.length (rowC l)) := ho
  have HG : Hid (GoodL l) := hg
  have HK : Hid (getE l k = some x) := hk
  obtain ⟨hm, hx, hxk⟩ := getE_some hg.rise hk
  clear hxk
  obtain ⟨G, cap, rfl, hBG, hGw⟩ := ho.form (by omega)
  have HAt : Hid (EnAt w G (placeE l k * 5) x) := by
    obtain ⟨_, p, c, hp, hr⟩ := RowIs.own ho
    simp at hp
    obtain ⟨rfl, rfl⟩ := hp
    obtain ⟨b, o, hbo, _, hat⟩ := hr (fun h => by simp [h] at hm)
    simp at hbo
    obtain ⟨rfl, rfl⟩ := hbo
    have := hat _ hm
    rw [hx, Nat.zero_add] at this
    exact this
  have HB0 : Hid (Below w.heap.size w (w.alloc (.cells #[.int .i64 k, .int .i64 vv, .int .i64 a, .bool g, .string t] 46))) := by show Below _ _ _; go_grown
  have HFz : Hid (∀ j, w.frozen? ⟨G, j, none⟩ = false) := fun j => by
    rcases ho.2 with ⟨h, _⟩ | ⟨g', cap', cur, h, h1, hg, _⟩
    · cases h
    · simp at h
      rw [h.1] 
      simp [World.frozen?, hg]
  obtain ⟨m, HM⟩ : ∃ m, Hid (placeE l k = m) := ⟨_, rfl⟩
  rw [HM.out] at hm HAt ⊢
  obtain ⟨N, HN⟩ : ∃ N, Hid (l.length = N) := ⟨_, rfl⟩
  have HSet : Hid (∀ (W0 W : World) (J : En), Below w.heap.size w W0 → W.heap = (W0.setCells G (m * 5) J.cells).heap → W.ownsRow B 46 5 (.slice (some ⟨G, 0, none⟩) N cap) (l.set m J).length (rowC (l.set m J))) := fun W0 W J h0 hW => by
    rw [← HN.out]
    exact ownsRow_set (ownsRow_below HO.out h0) hm hW
  have HPl : Hid (∀ W, Below w.heap.size w W → Calls Tryd.prog 35 #[.slice (some ⟨G, 0, none⟩) N cap, .int .i64 k] W fun e w' => e = .returned (.tuple #[.int .i64 m, .bool true]) ∧ Below W.heap.size W w') := fun W hW => by
    have c := place_c _ l k W (RowIs.own (ownsRow_below HO.out hW)) HG.out
    rw [HK.out, HM.out, HN.out] at c
    exact c
  obtain ⟨x0, x1, x2, x3, x4⟩ := x
  obtain ⟨J0, J1, J2, J3, J4⟩ := J
  have HJ : Hid (joinE ⟨x0, x1, x2, x3, x4⟩ ⟨k, vv, a, g, t⟩ = (⟨J0, J1, J2, J3, J4⟩, n)) := hj
  obtain ⟨R, HR⟩ : ∃ R, Hid ((if n ≠ 0 then ([], false, n) else (l.set m ⟨J0, J1, J2, J3, J4⟩, !(En.same ⟨J0, J1, J2, J3, J4⟩ ⟨x0, x1, x2, x3, x4⟩), 0)) = R) := ⟨_, rfl⟩
  rw [HR.out, HN.out]
  rw [HN.out] at hm
  have hm1 : (m : Int) < (N : Int) := by omega
  clear ho hg hk hx hj HO
  go_enter Tryd.func33, Tryd.ntmps33
  go_wp2_with fail
  refine Calls.mono (HPl.out _ HB0.out) ?_
  rintro e w1 ⟨rfl, hb⟩
  have B1 : Hid (Below w.heap.size w w1) := HB0.out.trans (hb.mono (by simp))
  have HE1 : Hid (BoxAt w1 w.heap.size k vv a g t) := (box_new w k vv a g t w.heap.size rfl).below hb (by simp)
  obtain ⟨a0, a1, a2, a3, a4, af⟩ := HE1.out
  have HA1 : Hid (EnAt w1 G (m * 5) ⟨x0, x1, x2, x3, x4⟩) := HAt.out.of_block (B1.out.block G hGw)
  obtain ⟨c0, c1, c2, c3, c4⟩ := HA1.out
  dsimp only at c0 c1 c2 c3 c4
  have hsz := hb.size
  have hGw1 : G < w1.heap.size := by simp at hsz; omega
  have hEw1 : w.heap.size < w1.heap.size := by simp at hsz; omega
  have p1 : ¬ G = w1.heap.size := by omega
  have p2 : ¬ w.heap.size = w1.heap.size := by omega
  have p3 : ¬ G = w.heap.size := by omega
  clear hb hsz
  go_upto_region 4 with fail
  go_cut [9, 10] (fun v9 v10 wc => ∃ K : Nat, v9 = .pointer (some ⟨K, 0, none⟩) ∧ v10 = eV n ∧ w1.heap.size ≤ K ∧ BoxAt wc K J0 J1 J2 J3 J4 ∧ Hid (Below w1.heap.size w1 wc))
  case first =>
    go_region_with (first | (go_at_call 47; refine (join_o HJ.out _).mono ?_; rintro e w7 ⟨rfl, hb7⟩; first | (have HE7 : Hid (BoxAt w7 w1.heap.size 0 0 0 false ⟨#[]⟩) := (box_new w1 0 0 0 false ⟨#[]⟩ w1.heap.size rfl).below (below_undrew hb7) (by simp); have HB7 : Hid (Below w1.heap.size w1 w7) := ((Below.refl _ w1).alloc (Nat.le_refl _) _).trans ((below_undrew hb7).mono (by simp)); obtain ⟨e0, e1, e2, e3, e4, ef⟩ := HE7.out; clear hb7) | (have HB7 : Hid (Below w1.heap.size w1 w7) := below_undrew hb7; clear hb7)))
    all_goals go_wp2_with fail
    all_goals go_meet
    all_goals first
      | exact ⟨_, rfl, rfl, HB7.out.size, box_new w7 J0 J1 J2 J3 J4 _ rfl, HB7.out.alloc HB7.out.size _⟩
      | exact ⟨_, rfl, rfl, Nat.le_refl _, HE7.out.set J0 J1 J2 J3 J4, ((((HB7.out.setCell (Nat.le_refl _) _).setCell (Nat.le_refl _) _).setCell (Nat.le_refl _) _).setCell (Nat.le_refl _) _).setCell (Nat.le_refl _) _⟩
  case rest =>
    obtain ⟨w2, h⟩ : ∃ x, x = wc := ⟨_, rfl⟩
    subst h
    obtain ⟨K, rfl, rfl, hK, bK, HB2⟩ := hcut
    have HBK : Hid (BoxAt w2 K J0 J1 J2 J3 J4) := bK
    have B2 : Hid (Below w.heap.size w w2) := B1.out.trans (HB2.out.mono B1.out.size)
    have HA2 : Hid (EnAt w2 G (m * 5) ⟨x0, x1, x2, x3, x4⟩) := HAt.out.of_block (B2.out.block G hGw)
    clear a0 a1 a2 a3 a4 af c0 c1 c2 c3 c4 bK
    by_cases hn : n = 0
    · subst hn
      have HR0 : Hid (R = (l.set m ⟨J0, J1, J2, J3, J4⟩, !(En.same ⟨J0, J1, J2, J3, J4⟩ ⟨x0, x1, x2, x3, x4⟩), 0)) := by
        show R = _
        rw [← HR.out, if_neg (by simp)]
      obtain ⟨sm, HSm⟩ : ∃ sm, Hid (En.same ⟨J0, J1, J2, J3, J4⟩ ⟨x0, x1, x2, x3, x4⟩ = sm) := ⟨_, rfl⟩
      have hq := neq_cells J0 J1 J2 J3 J4 x0 x1 x2 x3 x4 sm HSm.out
      have hgd := eqGuard_en
      obtain ⟨a0, a1, a2, a3, a4, af⟩ := HBK.out
      obtain ⟨c0, c1, c2, c3, c4⟩ := HA2.out
      dsimp only at c0 c1 c2 c3 c4
      have fz : ∀ j, w2.frozen? ⟨G, j, none⟩ = false := fun j => (World.frozen?_of_block (a := ⟨G, j, none⟩) (B2.out.block G hGw)).trans (HFz.out j)
      rw [eV, if_pos rfl]
      go_upto_region 7 with fail
      go_quiet (fail)
      go_wp2_with fail
      go_ret3
      have B3 : Below w.heap.size w (w2.drewN nq) := B2.out.trans (below_drewN _ _ _)
      refine ⟨.slice (some ⟨G, 0, none⟩) N cap, ?_, ?_, ?_⟩
      · rw [HR0.out, HSm.out]
        rfl
      · rw [HR0.out]
        exact HSet.out (w2.drewN nq) _ ⟨J0, J1, J2, J3, J4⟩ B3 rfl
      · refine grownBy_after B3 ⟨rfl, rfl, rfl, by simp, fun c hc hne => ?_⟩
        have hcG : c ≠ G := fun h => hne (by rw [h]; rfl)
        rw [Below.heap_setCell _ _ _ c hcG, Below.heap_setCell _ _ _ c hcG, Below.heap_setCell _ _ _ c hcG, Below.heap_setCell _ _ _ c hcG, Below.heap_setCell _ _ _ c hcG]
    · rw [eV, if_neg hn]
      go_wp2_with fail
      go_ret3
      refine ⟨.slice none 0 0, ?_, ?_, grownBy_of_below B2.out⟩
      · rw [← HR.out, if_pos hn]
        show _ = Ending.returned (.tuple #[.slice none 0 0, .bool false, eV n])
        rw [eV, if_neg hn]
        rfl
      · rw [← HR.out, if_pos hn]
        exact World.ownsRow_nil _ _ _ _

theorem put_c (B : Nat) (v : Value) (l : List En) (e : En) (w : World) (ho : w.ownsRow B 46 5 v l.length (rowC l)) (hB : B ≤ w.heap.size) (hg : GoodL l) :
    Calls Tryd.prog 33 #[v, e.val] w (PutIs B w v (putE l e)) := by
  obtain ⟨k, vv, a, g, t⟩ := e
  cases hk : getE l k with
  | none =>
    have hp : putE l ⟨k, vv, a, g, t⟩ = (l.take (placeE l k) ++ ⟨k, vv, a, g, t⟩ :: l.drop (placeE l k), true, 0) := by unfold putE; simp only [hk]
    rw [hp]
    exact put_none B v l k vv a g t w ho hB hg hk
  | some x =>
    have hp : putE l ⟨k, vv, a, g, t⟩ = (if (joinE x ⟨k, vv, a, g, t⟩).2 ≠ 0 then ([], false, (joinE x ⟨k, vv, a, g, t⟩).2) else (l.set (placeE l k) (joinE x ⟨k, vv, a, g, t⟩).1, !((joinE x ⟨k, vv, a, g, t⟩).1.same x), 0)) := by unfold putE; simp only [hk]
    rw [hp]
    exact put_some B v l k vv a g t x _ _ w ho hB hg hk rfl
end Go.Proofs.YtippdgmgmenboagDoor

namespace Go.Proofs.YtippdgmgmenboagDoor
set_option linter.unusedVariables false
set_option linter.unusedSimpArgs false
open Go.RowKit

theorem bad_key {e : En} (h : e.bad = 0) : 0 ≤ e.k ∧ e.k ≤ 7 := by
  unfold En.bad bad at h
  split at h
  · omega
  · rename_i h1
    simp [inR] at h1
    omega
theorem Rising.at {l : List En} (h : Rising l) (h0 : ∀ e ∈ l, 0 ≤ e.k) (j : Nat) (hj : j < l.length) : (j : Int) ≤ l[j].k := by
  induction j with
  | zero => exact h0 _ (List.getElem_mem _)
  | succ j ih =>
    have := ih (by omega)
    have := List.pairwise_iff_getElem.1 h j (j + 1) (by omega) hj (by omega)
    omega
theorem Rising.len {l : List En} (h : Rising l) (hb : ∀ e ∈ l, e.bad = 0) : l.length ≤ 8 := by
  rcases Nat.lt_or_ge 8 l.length with h8 | h8
  · have := h.at (fun e he => (bad_key (hb e he)).1) 8 h8
    have := (bad_key (hb l[8] (List.getElem_mem _))).2
    omega
  · exact h8
theorem GoodL.of {l : List En} (h : Rising l) (hb : ∀ e ∈ l, e.bad = 0) : GoodL l := ⟨h.len hb, hb, h⟩
theorem goodL_nil : GoodL [] := ⟨by simp, by simp, List.Pairwise.nil⟩

theorem joinE_ok {x y J : En} (h : joinE x y = (J, 0)) : x.bad = 0 ∧ y.bad = 0 ∧ x.k = y.k ∧ (J = x ∨ J = y) := by
  unfold joinE at h
  split at h
  · rename_i hb
    rw [Prod.mk.injEq] at h
    exact absurd h.2 hb
  · rename_i hb
    have hb : bad2 (bad x.k x.v x.a x.g x.t) (bad y.k y.v y.a y.g y.t) = 0 := by simpa using hb
    have hx : x.bad = 0 := by
      unfold bad2 at hb
      split at hb
      · assumption
      · rename_i h; exact absurd hb h
    have hy : y.bad = 0 := by
      unfold bad2 at hb
      rw [if_pos (show bad x.k x.v x.a x.g x.t = 0 from hx)] at hb
      exact hb
    split at h
    · simp at h
    · rename_i hk
      refine ⟨hx, hy, by simpa using hk, ?_⟩
      split at h
      · split at h
        · simp at h
        · simp at h; exact .inl h.symm
      · split at h
        · simp at h
        · simp at h; exact .inr h.symm

theorem getE_none {l : List En} {key : Int} (h : getE l key = none) : ∀ e ∈ l, e.k ≠ key := by
  intro e he hk
  rw [getE, List.find?_eq_none] at h
  exact h e he (by simpa using hk)
theorem rising_ins {l : List En} (h : Rising l) (x : En) (hn : getE l x.k = none) : Rising (l.take (placeE l x.k) ++ x :: l.drop (placeE l x.k)) := by
  unfold Rising
  rw [List.pairwise_append]
  refine ⟨List.Pairwise.sublist (List.take_sublist _ _) h, List.pairwise_cons.2 ⟨?_, List.Pairwise.sublist (List.drop_sublist _ _) h⟩, ?_⟩
  · intro y hy
    obtain ⟨j, hj, rfl⟩ := List.getElem_of_mem hy
    rw [List.length_drop] at hj
    rw [List.getElem_drop]
    have := placeE_more l x.k h (placeE l x.k + j) (by omega) (by omega)
    have := getE_none hn l[placeE l x.k + j] (List.getElem_mem _)
    omega
  · intro y hy z hz
    obtain ⟨j, hj, rfl⟩ := List.getElem_of_mem hy
    rw [List.length_take] at hj
    rw [List.getElem_take]
    have h1 := placeE_less l x.k j (by omega) (by omega)
    rcases List.mem_cons.1 hz with rfl | hz
    · exact h1
    · obtain ⟨i, hi, rfl⟩ := List.getElem_of_mem hz
      rw [List.length_drop] at hi
      rw [List.getElem_drop]
      have := placeE_more l x.k h (placeE l x.k + i) (by omega) (by omega)
      omega
theorem rising_set {l : List En} (h : Rising l) (m : Nat) (hm : m < l.length) (x : En) (hx : x.k = l[m].k) : Rising (l.set m x) := by
  unfold Rising
  rw [List.pairwise_iff_getElem]
  intro i j hi hj hij
  rw [List.length_set] at hi hj
  have := List.pairwise_iff_getElem.1 h i j hi hj hij
  rw [List.getElem_set, List.getElem_set]
  split
  · rename_i h1
    subst h1
    rw [if_neg (by omega), hx]
    exact this
  · split
    · rename_i h2
      subst h2
      rw [hx]
      exact this
    · exact this
theorem putE_good {l : List En} {e : En} (hg : GoodL l) (he : e.bad = 0) (h : (putE l e).2.2 = 0) : GoodL (putE l e).1 := by
  unfold putE at h ⊢
  cases hk : getE l e.k with
  | none =>
    simp only
    refine GoodL.of (rising_ins hg.rise e hk) ?_
    intro y hy
    rcases List.mem_append.1 hy with h1 | h1
    · exact hg.all y (List.mem_of_mem_take h1)
    · rcases List.mem_cons.1 h1 with rfl | h1
      · exact he
      · exact hg.all y (List.mem_of_mem_drop h1)
  | some x =>
    simp only [hk] at h ⊢
    split at h
    · rename_i hn; exact absurd h hn
    · rename_i hn
      rw [if_neg hn]
      have hn : (joinE x e).2 = 0 := by simpa using hn
      obtain ⟨hx, hy, hxy, hJ⟩ := joinE_ok (x := x) (y := e) (J := (joinE x e).1) (by rw [← hn])
      obtain ⟨hm, hmx, hmk⟩ := getE_some hg.rise hk
      refine GoodL.of (rising_set hg.rise _ hm _ ?_) ?_
      · rw [hmx]
        rcases hJ with h' | h' <;> rw [h']
        exact hxy.symm
      · intro y hy'
        rcases List.mem_or_eq_of_mem_set hy' with h' | rfl
        · exact hg.all y h'
        · rcases hJ with h' | h' <;> rw [h'] <;> assumption

/-- Add, on lists -/
def cacheAdd (l : List En) (e : En) : List En × Bool × Int :=
  if badL l ≠ 0 then ([], false, badL l) else if e.bad ≠ 0 then ([], false, e.bad) else putE l e
/-- all of a row put -/
def allE : List En → List En → List En × Int
  | l, [] => (l, 0)
  | l, e :: b => if (putE l e).2.2 ≠ 0 then ([], (putE l e).2.2) else allE (putE l e).1 b
/-- Both, on lists -/
def cacheBoth (a b : List En) : List En × Int :=
  if badL a ≠ 0 then ([], badL a) else if badL b ≠ 0 then ([], badL b) else allE a b
theorem allE_step {l b : List En} {j : Nat} (hj : j < b.length) : allE l (b.drop j) = if (putE l b[j]).2.2 ≠ 0 then ([], (putE l b[j]).2.2) else allE (putE l b[j]).1 (b.drop (j + 1)) := by
  rw [List.drop_eq_getElem_cons hj, allE]
theorem allE_good {l b : List En} (hg : GoodL l) (hb : ∀ e ∈ b, e.bad = 0) (h : (allE l b).2 = 0) : GoodL (allE l b).1 := by
  induction b generalizing l with
  | nil => exact hg
  | cons e b ih =>
    rw [allE] at h ⊢
    by_cases hn : (putE l e).2.2 = 0
    · rw [if_neg (by simpa using hn)] at h ⊢
      exact ih (putE_good hg (hb e (by simp)) hn) (fun x hx => hb x (by simp [hx])) h
    · rw [if_pos hn] at h
      exact absurd h hn
end Go.Proofs.YtippdgmgmenboagDoor

namespace Go.Proofs.YtippdgmgmenboagDoor
set_option linter.unusedVariables false
set_option linter.unusedSimpArgs false
open Go.RowKit Go.Lib

/-- what Add leaves -/
def AddIs (w : World) (r : List En × Bool × Int) (e : Ending) (w' : World) : Prop :=
  ∃ v', e = .returned (.tuple #[v', .bool r.2.1, eV r.2.2]) ∧ w'.ownsRow w.heap.size 46 5 v' r.1.length (rowC r.1) ∧ Below w.heap.size w w'
theorem put_x (B : Nat) (v : Value) (l : List En) (k vv a : Int) (g : Bool) (t : ByteArray) (w : World) (ho : w.ownsRow B 46 5 v l.length (rowC l)) (hB : B ≤ w.heap.size) (hg : GoodL l) :
    Calls Tryd.prog 33 #[v, .agg #[.int .i64 k, .int .i64 vv, .int .i64 a, .bool g, .string t]] w (PutIs B w v (putE l ⟨k, vv, a, g, t⟩)) := put_c B v l ⟨k, vv, a, g, t⟩ w ho hB hg
theorem put_o {l : List En} {k vv a : Int} {g : Bool} {t : ByteArray} {R1 : List En} {R2 : Bool} {R3 : Int} (h : putE l ⟨k, vv, a, g, t⟩ = (R1, R2, R3)) (B : Nat) (v : Value) (w : World) (ho : w.ownsRow B 46 5 v l.length (rowC l)) (hB : B ≤ w.heap.size) (hg : GoodL l) :
    Calls Tryd.prog 33 #[v, .agg #[.int .i64 k, .int .i64 vv, .int .i64 a, .bool g, .string t]] w fun e w' => ∃ v', e = .returned (.tuple #[v', .bool R2, eV R3]) ∧ w'.ownsRow B 46 5 v' R1.length (rowC R1) ∧ w.grownBy w' v.ownBlock := by
  have c := put_x B v l k vv a g t w ho hB hg
  rw [h] at c
  exact c
theorem ownsRow_base {w : World} {B C : Nat} {e : TypeId} {size : Nat} {v : Value} {n : Nat} {xs : List Value} (h : w.ownsRow B e size v n xs) (hC : C ≤ B) : w.ownsRow C e size v n xs := by
  refine ⟨h.1, ?_⟩
  rcases h.2 with hn | ⟨g, cap, cur, rfl, h1, hg, rest⟩
  · exact .inl hn
  · exact .inr ⟨g, cap, cur, rfl, Nat.le_trans hC h1, hg, rest⟩
theorem ownsRow_from {w : World} {B : Nat} {e : TypeId} {size : Nat} {v : Value} {n : Nat} {xs : List Value} (h : w.ownsRow B e size v n xs) (c : Nat) (hc : v.ownBlock = some c) : B ≤ c := by
  rcases h.2 with ⟨rfl, _⟩ | ⟨g', cap, cur, rfl, h1, _⟩
  · cases hc
  · obtain rfl : g' = c := by simpa [Value.ownBlock] using hc
    exact h1
theorem below_grown {B : Nat} {w w1 w' : World} {v : Value} (h : Below B w w1) (hB : B ≤ w.heap.size) (hg : w1.grownBy w' v.ownBlock) (hv : ∀ c, v.ownBlock = some c → B ≤ c) : Below B w w' :=
  h.trans ⟨hg.os, hg.tape, hg.output, hg.size, fun c hc => hg.block c (Nat.lt_of_lt_of_le hc (Nat.le_trans hB h.size)) (fun e => by have := hv c e.symm; omega)⟩
theorem RowIs.drew {w : World} {v : Value} {l : List En} (h : RowIs w v l) : RowIs w.drew v l := h.blocks (Nat.le_refl _) (fun _ _ _ => rfl)

end Go.Proofs.YtippdgmgmenboagDoor

namespace Go.Proofs.YtippdgmgmenboagDoor
set_option linter.unusedVariables false
set_option linter.unusedSimpArgs false
open Go.RowKit

/-- what Both leaves -/
def BothIs (w : World) (r : List En × Int) (e : Ending) (w' : World) : Prop :=
  ∃ v', e = .returned (.tuple #[v', eV r.2]) ∧ w'.ownsRow w.heap.size 46 5 v' r.1.length (rowC r.1) ∧ Below w.heap.size w w'

set_option maxHeartbeats 4000000 in
theorem both_c (va vb : Value) (a b : List En) (w : World) (hra : RowIs w va a) (hrb : RowIs w vb b) :
    Calls Tryd.prog 20 #[va, vb] w (BothIs w (cacheBoth a b)) := by
  have HA : Hid (RowIs w va a) := hra
  have HBr : Hid (RowIs w vb b) := hrb
  by_cases hn : badL a = 0
  · have HN : Hid (badL a = 0) := hn
    have HG : Hid (GoodL a) := badL_good hn
    clear hn
    by_cases hm : badL b = 0
    · have HM : Hid (badL b = 0) := hm
      have HGb : Hid (GoodL b) := badL_good hm
      have HC : Hid (cacheBoth a b = allE a (b.drop 0)) := by
        show cacheBoth a b = _
        rw [cacheBoth, if_neg (by simpa using HN.out), if_neg (by simpa using HM.out), List.drop_zero]
      clear hm hra
      obtain ⟨hlen, p, cap, rfl, hrow⟩ := hrb
      have HRow : Hid (b ≠ [] → ∃ bb o, p = some ⟨bb, o, none⟩ ∧ bb < w.heap.size ∧ ∀ j (h : j < b.length), EnAt w bb (o + j * 5) b[j]) := hrow
      clear hrow
      obtain ⟨nb, HNb⟩ : ∃ nb, Hid (b.length = nb) := ⟨_, rfl⟩
      rw [HNb.out] at hlen HBr ⊢
      obtain ⟨R, HR⟩ : ∃ R, Hid (cacheBoth a b = R) := ⟨_, rfl⟩
      rw [HR.out]
      have h8 : nb ≤ 8 := by rw [← HNb.out]; exact HGb.out.len
      go_enter Tryd.func20, Tryd.ntmps20
      go_wp2_with fail
      refine (cacheCheck_ok HA.out HN.out).mono ?_
      rintro e w1 ⟨rfl, hb⟩
      have B1 : Hid (Below w.heap.size w w1) := hb
      clear hb
      go_wp2_with fail
      refine (cacheCheck_ok (HBr.out.below B1.out) HM.out).mono ?_
      rintro e w2 ⟨rfl, hb⟩
      have B2 : Hid (Below w.heap.size w w2) := B1.out.trans (hb.mono B1.out.size)
      clear hb
      go_wp2_with fail
      refine (clone_c va a _ (HA.out.below B2.out) HG.out.len).mono ?_
      rintro e w3 ⟨v3, rfl, ho, hb⟩
      have B3 : Hid (Below w.heap.size w w3) := B2.out.trans (hb.mono B2.out.size)
      have HO3 : Hid (w3.ownsRow w.heap.size 46 5 v3 a.length (rowC a)) := ownsRow_base ho B2.out.size
      clear hb ho
      go_wp2_with fail
      go_loopw [8, 26] (fun s8 s26 wr => ∃ (j : Nat) (cur : List En) (v8 : Value), s8 = v8 ∧ j ≤ nb ∧ s26 = .int .i64 j ∧ Hid (wr.ownsRow w.heap.size 46 5 v8 cur.length (rowC cur)) ∧ Hid (GoodL cur) ∧ Hid (R = allE cur (b.drop j)) ∧ Hid (Below w.heap.size w wr)) (fun _ i _ => nb - (intOf i).toNat)
      case atStart => exact ⟨0, a, v3, rfl, Nat.zero_le _, rfl, HO3, HG, HR.out.symm.trans HC.out, B3⟩
      case round =>
        obtain ⟨j, cur, s8, hs8, hj, rfl, HO, HGc, HE, HB⟩ := hrel
        have hs8' := hs8.symm
        clear hs8
        subst hs8'
        by_cases hlt : j < nb
        · have hjl : j < b.length := by rw [HNb.out]; exact hlt
          obtain ⟨bb, o, rfl, hbw, hat⟩ := HRow.out (fun h => by simp [h] at hjl)
          have HAt : Hid (EnAt wr bb (o + j * 5) b[j]) := (hat j hjl).of_block (HB.out.block bb hbw)
          clear hat
          have HBad : Hid (b[j].bad = 0) := HGb.out.all _ (List.getElem_mem _)
          have HStep : Hid (R = if (putE cur b[j]).2.2 ≠ 0 then ([], (putE cur b[j]).2.2) else allE (putE cur b[j]).1 (b.drop (j + 1))) := HE.out.trans (allE_step hjl)
          obtain ⟨x, HX⟩ : ∃ x, Hid (b[j] = x) := ⟨b[j], show b[j] = b[j] from rfl⟩
          rw [HX.out] at HAt HBad HStep
          obtain ⟨⟨R1, R2, R3⟩, HPt⟩ : ∃ P, Hid (putE cur x = P) := ⟨_, rfl⟩
          rw [HPt.out] at HStep
          dsimp only at HStep
          obtain ⟨k, vv, aa, g, t⟩ := x
          obtain ⟨c0, c1, c2, c3, c4⟩ := HAt.out
          dsimp only at c0 c1 c2 c3 c4
          have hlti : (j : Int) < (nb : Int) := by omega
          have hbr : bb < wr.heap.size := by have := HB.out.size; omega
          have B4 : Hid (Below w.heap.size w (wr.alloc (.cells #[.int .i64 k, .int .i64 vv, .int .i64 aa, .bool g, .string t] 46))) := HB.out.alloc HB.out.size _
          have HO4 : Hid ((wr.alloc (.cells #[.int .i64 k, .int .i64 vv, .int .i64 aa, .bool g, .string t] 46)).ownsRow w.heap.size 46 5 s8 cur.length (rowC cur)) := ownsRow_below HO.out ((Below.refl _ wr).alloc (Nat.le_refl _) _)
          go_wp2_with fail
          refine (put_o HPt.out w.heap.size s8 _ HO4.out (by have := B4.out.size; omega) HGc.out).mono ?_
          rintro e w5 ⟨v5, rfl, ho5, hg5⟩
          have HO5 : Hid (w5.ownsRow w.heap.size 46 5 v5 R1.length (rowC R1)) := ho5
          have B5 : Hid (Below w.heap.size w w5) := below_grown B4.out (Nat.le_refl _) hg5 (fun c hc => ownsRow_from HO.out c hc)
          clear ho5 hg5 c0 c1 c2 c3 c4
          by_cases h3 : R3 = 0
          · subst h3
            rw [if_neg (by simp)] at HStep
            have HG5 : Hid (GoodL R1) := by
              have := putE_good (e := ⟨k, vv, aa, g, t⟩) HGc.out HBad.out (by rw [HPt.out])
              rw [HPt.out] at this
              exact this
            rw [eV, if_pos rfl]
            go_wp2_with fail
            go_roundw
            case rel => exact ⟨j + 1, R1, v5, rfl, by omega, by go_num, HO5, HG5, HStep, B5⟩
            case measure => simp [intOf]; omega
          · rw [if_pos h3] at HStep
            rw [eV, if_neg h3]
            go_wp2_with fail
            go_ret2
            refine ⟨.slice none 0 0, ?_, ?_, B5.out⟩
            · rw [HStep.out]
              show _ = Ending.returned (.tuple #[.slice none 0 0, eV R3])
              rw [eV, if_neg h3]
              rfl
            · rw [HStep.out]
              exact World.ownsRow_nil _ _ _ _
        · obtain rfl : j = nb := by omega
          have HR0 : Hid (R = (cur, 0)) := by
            show R = _
            rw [HE.out, List.drop_eq_nil_of_le (by rw [HNb.out]; exact Nat.le_refl _)]
            rfl
          go_wp2_with fail
          go_ret2
          refine ⟨s8, ?_, ?_, HB.out⟩
          · rw [HR0.out]
            rfl
          · rw [HR0.out]
            exact HO.out
    · obtain ⟨n, HM⟩ : ∃ n, Hid (badL b = n) := ⟨_, rfl⟩
      have HC : Hid (cacheBoth a b = ([], n)) := by
        show cacheBoth a b = _
        rw [cacheBoth, if_neg (by simpa using HN.out), if_pos hm, HM.out]
      rw [HM.out] at hm
      rw [HC.out]
      clear hra hrb
      go_enter Tryd.func20, Tryd.ntmps20
      go_wp2_with fail
      refine (cacheCheck_ok HA.out HN.out).mono ?_
      rintro e w1 ⟨rfl, hb⟩
      have B1 : Hid (Below w.heap.size w w1) := hb
      clear hb
      go_wp2_with fail
      refine (cacheCheck_err (HBr.out.below B1.out) HM.out hm).mono ?_
      rintro e w2 ⟨rfl, hb⟩
      have B2 : Hid (Below w.heap.size w w2) := B1.out.trans (hb.mono B1.out.size)
      clear hb
      go_wp2_with fail
      go_ret2
      refine ⟨.slice none 0 0, ?_, World.ownsRow_nil _ _ _ _, B2.out⟩
      show _ = Ending.returned (.tuple #[.slice none 0 0, eV n])
      rw [eV, if_neg hm]
      rfl
  · obtain ⟨n, HM⟩ : ∃ n, Hid (badL a = n) := ⟨_, rfl⟩
    have HC : Hid (cacheBoth a b = ([], n)) := by
      show cacheBoth a b = _
      rw [cacheBoth, if_pos hn, HM.out]
    rw [HM.out] at hn
    rw [HC.out]
    clear hra hrb
    go_enter Tryd.func20, Tryd.ntmps20
    go_wp2_with fail
    refine (cacheCheck_err HA.out HM.out hn).mono ?_
    rintro e w2 ⟨rfl, hb⟩
    have B2 : Hid (Below w.heap.size w w2) := hb
    clear hb
    go_wp2_with fail
    go_ret2
    refine ⟨.slice none 0 0, ?_, World.ownsRow_nil _ _ _ _, B2.out⟩
    show _ = Ending.returned (.tuple #[.slice none 0 0, eV n])
    rw [eV, if_neg hn]
    rfl
theorem both_o {a b R1 : List En} {R2 : Int} (h : cacheBoth a b = (R1, R2)) (va vb : Value) (w : World) (hra : RowIs w va a) (hrb : RowIs w vb b) :
    Calls Tryd.prog 20 #[va, vb] w fun e w' => ∃ v', e = .returned (.tuple #[v', eV R2]) ∧ w'.ownsRow w.heap.size 46 5 v' R1.length (rowC R1) ∧ Below w.heap.size w w' := by
  have c := both_c va vb a b w hra hrb
  rw [h] at c
  exact c
end Go.Proofs.YtippdgmgmenboagDoor

namespace Go.Proofs.YtippdgmgmenboagDoor
set_option linter.unusedVariables false
set_option linter.unusedSimpArgs false
open Go.RowKit
theorem bytes_inj {a b : ByteArray} (h : a.toList = b.toList) : a = b := by
  rw [ByteArray.toList_eq, ByteArray.toList_eq] at h
  exact ByteArray.ext (Array.toList_inj.mp h)
/-- x is what is known by a and b -/
def Known (a b x : En) : Prop := a.k = b.k ∧ ((a.v = b.v ∧ a.g = b.g ∧ a.t = b.t ∧ b.a < a.a ∧ x = a) ∨ (a.v = b.v ∧ a.g = b.g ∧ a.t = b.t ∧ a.a ≤ b.a ∧ x = b) ∨ (b.v < a.v ∧ b.a < a.v ∧ x = a) ∨ (a.v < b.v ∧ a.a < b.v ∧ x = b))
theorem bad2_zero {m n : Int} : bad2 m n = 0 ↔ m = 0 ∧ n = 0 := by
  unfold bad2
  by_cases h : m = 0 <;> simp [h]
theorem joinE_iff {a b x : En} : joinE a b = (x, 0) ↔ a.bad = 0 ∧ b.bad = 0 ∧ Known a b x := by
  unfold joinE Known En.bad
  by_cases hb : bad2 (bad a.k a.v a.a a.g a.t) (bad b.k b.v b.a b.g b.t) = 0
  · rw [if_neg (by simpa using hb)]
    have hb2 := bad2_zero.1 hb
    rw [hb2.1, hb2.2]
    by_cases hk : a.k = b.k
    · rw [if_neg (by simpa using hk)]
      simp only [hk, true_and]
      by_cases hv : a.v = b.v
      · have hlt : ¬ a.v < b.v := by omega
        have hgt : ¬ b.v < a.v := by omega
        by_cases hg : a.g = b.g
        · by_cases ht : a.t = b.t
          · by_cases ha : b.a < a.a
            · have hna : ¬ a.a ≤ b.a := by omega
              simp [newerB, clashB, hv, hg, ht, ha, hna, eq_comm]
            · have hna : a.a ≤ b.a := by omega
              simp [newerB, clashB, hv, hg, ht, ha, hna, eq_comm]
          · have htl : ¬ a.t.toList = b.t.toList := fun h => ht (bytes_inj h)
            have htl' : ¬ b.t.toList = a.t.toList := fun h => ht (bytes_inj h.symm)
            simp [newerB, clashB, hv, ht, htl, htl']
        · have hg' : ¬ b.g = a.g := fun h => hg h.symm
          simp [newerB, clashB, hv, hg, hg']
      · have hv' : ¬ b.v = a.v := fun h => hv h.symm
        by_cases hlt : b.v < a.v
        · have hgt : ¬ a.v < b.v := by omega
          by_cases hc : a.v ≤ b.a
          · have hnc : ¬ b.a < a.v := by omega
            simp [newerB, clashB, hv, hv', hlt, hgt, hc, hnc]
          · have hnc : b.a < a.v := by omega
            simp [newerB, clashB, hv, hv', hlt, hgt, hc, hnc, eq_comm]
        · have hgt : a.v < b.v := by omega
          by_cases hc : b.v ≤ a.a
          · have hnc : ¬ a.a < b.v := by omega
            simp [newerB, clashB, hv, hv', hlt, hgt, hc, hnc]
          · have hnc : a.a < b.v := by omega
            simp [newerB, clashB, hv, hv', hlt, hgt, hc, hnc, eq_comm]
    · simp [hk]
  · rw [if_pos hb]
    constructor
    · intro h
      simp only [Prod.mk.injEq] at h
      exact absurd h.2 hb
    · rintro ⟨h1, h2, _⟩
      exact absurd (bad2_zero.2 ⟨h1, h2⟩) hb
theorem En.eqs {a b : En} (h0 : a.k = b.k) (h1 : a.v = b.v) (h2 : a.a = b.a) (h3 : a.g = b.g) (h4 : a.t = b.t) : a = b := by
  cases a; cases b
  simp at *
  exact ⟨h0, h1, h2, h3, h4⟩
theorem Known.comm {a b x : En} (h : Known a b x) : Known b a x := by
  obtain ⟨hk, h⟩ := h
  refine ⟨hk.symm, ?_⟩
  rcases h with ⟨h1, h2, h3, h4, rfl⟩ | ⟨h1, h2, h3, h4, rfl⟩ | ⟨h1, h2, rfl⟩ | ⟨h1, h2, rfl⟩
  · exact Or.inr (Or.inl ⟨h1.symm, h2.symm, h3.symm, by omega, rfl⟩)
  · by_cases he : a.a < x.a
    · exact Or.inl ⟨h1.symm, h2.symm, h3.symm, he, rfl⟩
    · exact Or.inr (Or.inl ⟨h1.symm, h2.symm, h3.symm, by omega, (En.eqs hk h1 (by omega) h2 h3).symm⟩)
  · exact Or.inr (Or.inr (Or.inr ⟨h1, h2, rfl⟩))
  · exact Or.inr (Or.inr (Or.inl ⟨h1, h2, rfl⟩))
theorem Known.self (a : En) : Known a a a := ⟨rfl, Or.inr (Or.inl ⟨rfl, rfl, rfl, Int.le_refl _, rfl⟩)⟩
theorem Known.one {a b x : En} (h : Known a b x) : x = a ∨ x = b := by
  obtain ⟨hk, h⟩ := h
  rcases h with ⟨h1, h2, h3, h4, rfl⟩ | ⟨h1, h2, h3, h4, rfl⟩ | ⟨h1, h2, rfl⟩ | ⟨h1, h2, rfl⟩ <;> simp
theorem Known.left {a b x : En} (h : Known a b x) : Known x a x := by
  rcases h.one with rfl | rfl
  · exact Known.self _
  · exact h.comm
theorem Known.right {a b x : En} (h : Known a b x) : Known x b x := by
  rcases h.one with rfl | rfl
  · exact h
  · exact Known.self _
theorem Known.new {a b x : En} (h : Known a b x) (ha : a.v ≤ a.a) (hb : b.v ≤ b.a) : a.v ≤ x.v ∧ b.v ≤ x.v ∧ a.a ≤ x.a ∧ b.a ≤ x.a := by
  obtain ⟨hk, h⟩ := h
  rcases h with ⟨h1, h2, h3, h4, rfl⟩ | ⟨h1, h2, h3, h4, rfl⟩ | ⟨h1, h2, rfl⟩ | ⟨h1, h2, rfl⟩ <;> refine ⟨?_, ?_, ?_, ?_⟩ <;> omega
/-- the newer of two by version, and then by time -/
def Upto (a b : En) : Prop := a.v < b.v ∨ (a.v = b.v ∧ a.a ≤ b.a)
theorem Known.upto {a b x : En} (h : Known a b x) : Upto a x ∧ Upto b x := by
  obtain ⟨hk, h⟩ := h
  unfold Upto
  rcases h with ⟨h1, h2, h3, h4, rfl⟩ | ⟨h1, h2, h3, h4, rfl⟩ | ⟨h1, h2, rfl⟩ | ⟨h1, h2, rfl⟩ <;> constructor <;> omega
theorem Known.of_upto {a b y : En} (h : Known a b y) (hx : Upto a b) : y = b := by
  obtain ⟨hk, h⟩ := h
  unfold Upto at hx
  rcases h with ⟨h1, h2, h3, h4, rfl⟩ | ⟨h1, h2, h3, h4, rfl⟩ | ⟨h1, h2, rfl⟩ | ⟨h1, h2, rfl⟩
  · omega
  · rfl
  · omega
  · rfl
theorem Upto.trans {a b c : En} (h : Upto a b) (k : Upto b c) : Upto a c := by
  unfold Upto at *
  omega
/-- three in any order alike -/
theorem Known.three {a b c x p y z : En} (h1 : Known a b x) (h2 : Known x c p) (h3 : Known b c y) (h4 : Known a c z) : Known a y p := by
  have u1 := h1.upto; have u2 := h2.upto; have u3 := h3.upto; have u4 := h4.upto
  rcases h3.one with rfl | rfl
  · -- y = b
    have hp : p = x := by
      rcases h2.one with rfl | rfl
      · rfl
      · have : Upto y x := u1.2
        exact (Known.of_upto (h2.comm) (u3.2.trans this)).symm ▸ rfl
    rw [hp]
    exact h1
  · rcases h1.one with rfl | rfl
    · exact h2
    · have e := Known.of_upto h2 (show Upto x y from u3.1)
      rw [e]
      have e4 := Known.of_upto h4 (u1.1.trans u3.1)
      rw [e4] at h4
      exact h4
end Go.Proofs.YtippdgmgmenboagDoor

namespace Go.Proofs.YtippdgmgmenboagDoor
set_option linter.unusedVariables false
set_option linter.unusedSimpArgs false
open Go.RowKit

def sameL : List En → List En → Bool
  | [], [] => true
  | x :: a, y :: b => x.same y && sameL a b
  | _, _ => false
theorem En.same_iff {x y : En} : x.same y = true ↔ x = y := by
  constructor
  · intro h
    simp [En.same] at h
    exact En.eqs h.1 h.2.1 h.2.2.1 h.2.2.2.1 (bytes_inj h.2.2.2.2)
  · rintro rfl
    exact En.same_self x
theorem sameL_iff {a b : List En} : sameL a b = true ↔ a = b := by
  induction a generalizing b with
  | nil => cases b <;> simp [sameL]
  | cons x a ih => cases b <;> simp [sameL, ih, En.same_iff]
theorem sameL_len {a b : List En} (h : a.length ≠ b.length) : sameL a b = false := by
  cases hs : sameL a b
  · rfl
  · exact absurd (by rw [sameL_iff.1 hs]) h
theorem sameL_step {a b : List En} {j : Nat} (ha : j < a.length) (hb : j < b.length) : sameL (a.drop j) (b.drop j) = (a[j].same b[j] && sameL (a.drop (j + 1)) (b.drop (j + 1))) := by
  rw [List.drop_eq_getElem_cons ha, List.drop_eq_getElem_cons hb, sameL]

theorem neq_cellsS (x0 x1 x2 : Int) (x3 : Bool) (x4 : ByteArray) (y0 y1 y2 : Int) (y3 : Bool) (y4 : ByteArray) (b : Bool) (h : En.same ⟨x0, x1, x2, x3, x4⟩ ⟨y0, y1, y2, y3, y4⟩ = b) (w : World) : (binOp .neq 46 (.agg #[.int .i64 x0, .int .i64 x1, .int .i64 x2, .bool x3, .string x4]) (.agg #[.int .i64 y0, .int .i64 y1, .int .i64 y2, .bool y3, .string y4])).run Tryd.prog w = .ok (.bool !b) w := by
  have h1 := eql_enIn ⟨x0, x1, x2, x3, x4⟩ ⟨y0, y1, y2, y3, y4⟩ w
  rw [h] at h1
  unfold En.val at h1
  rw [run_neq_struct, h1]
  rfl
theorem below_drewS (B : Nat) (w : World) (n : Nat) : Below B w (w.drewN n) := ⟨rfl, rfl, rfl, Nat.le_refl _, fun _ _ => rfl⟩

set_option maxHeartbeats 4000000 in
theorem same_c (va vb : Value) (a b : List En) (w : World) (hra : RowIs w va a) (hrb : RowIs w vb b) :
    Calls Tryd.prog 13 #[va, vb] w fun e w' => e = .returned (.bool (sameL a b)) ∧ Below w.heap.size w w' := by
  obtain ⟨hla, pa, capa, rfl, hrowa⟩ := hra
  obtain ⟨hlb, pb, capb, rfl, hrowb⟩ := hrb
  by_cases hl : a.length = b.length
  · have HRA : Hid (a ≠ [] → ∃ bb o, pa = some ⟨bb, o, none⟩ ∧ bb < w.heap.size ∧ ∀ j (h : j < a.length), EnAt w bb (o + j * 5) a[j]) := hrowa
    have HRB : Hid (b ≠ [] → ∃ bb o, pb = some ⟨bb, o, none⟩ ∧ bb < w.heap.size ∧ ∀ j (h : j < b.length), EnAt w bb (o + j * 5) b[j]) := hrowb
    clear hrowa hrowb
    have HL : Hid (a.length = b.length) := hl
    obtain ⟨n, HN⟩ : ∃ n, Hid (a.length = n) := ⟨_, rfl⟩
    have HNb : Hid (b.length = n) := HL.out.symm.trans HN.out
    rw [HN.out] at hla ⊢
    rw [HNb.out] at hlb ⊢
    have hn63 : n ≤ 9223372036854775807 := hla
    clear hl
    obtain ⟨R, HR⟩ : ∃ R, Hid (sameL a b = R) := ⟨_, rfl⟩
    rw [HR.out]
    have hgd := eqGuard_en
    go_enter Tryd.func13, Tryd.ntmps13
    go_wp2_with fail
    go_loopw [5] (fun i wr => ∃ j : Nat, j ≤ n ∧ i = .int .i64 j ∧ Hid (R = sameL (a.drop j) (b.drop j)) ∧ Hid (Below w.heap.size w wr)) (fun i _ => n - (intOf i).toNat)
    case atStart => exact ⟨0, Nat.zero_le _, rfl, by rw [List.drop_zero, List.drop_zero]; exact HR.out.symm, Below.refl _ _⟩
    case round =>
      obtain ⟨j, hj, rfl, HE, HB⟩ := hrel
      by_cases hlt : j < n
      · have hja : j < a.length := by rw [HN.out]; exact hlt
        have hjb : j < b.length := by rw [HNb.out]; exact hlt
        obtain ⟨ba, oa, rfl, hbwa, hata⟩ := HRA.out (fun h => by simp [h] at hja)
        obtain ⟨bb, ob, rfl, hbwb, hatb⟩ := HRB.out (fun h => by simp [h] at hjb)
        have HAa : Hid (EnAt wr ba (oa + j * 5) a[j]) := (hata j hja).of_block (HB.out.block ba hbwa)
        have HAb : Hid (EnAt wr bb (ob + j * 5) b[j]) := (hatb j hjb).of_block (HB.out.block bb hbwb)
        clear hata hatb
        have HStep : Hid (R = (a[j].same b[j] && sameL (a.drop (j + 1)) (b.drop (j + 1)))) := HE.out.trans (sameL_step hja hjb)
        obtain ⟨x, HX⟩ : ∃ x, Hid (a[j] = x) := ⟨a[j], show a[j] = a[j] from rfl⟩
        obtain ⟨y, HY⟩ : ∃ y, Hid (b[j] = y) := ⟨b[j], show b[j] = b[j] from rfl⟩
        rw [HX.out] at HAa HStep
        rw [HY.out] at HAb HStep
        obtain ⟨x0, x1, x2, x3, x4⟩ := x
        obtain ⟨y0, y1, y2, y3, y4⟩ := y
        obtain ⟨sm, HS⟩ : ∃ sm, Hid (En.same ⟨x0, x1, x2, x3, x4⟩ ⟨y0, y1, y2, y3, y4⟩ = sm) := ⟨_, rfl⟩
        rw [HS.out] at HStep
        have hq := neq_cellsS x0 x1 x2 x3 x4 y0 y1 y2 y3 y4 sm HS.out
        obtain ⟨c0, c1, c2, c3, c4⟩ := HAa.out
        obtain ⟨d0, d1, d2, d3, d4⟩ := HAb.out
        dsimp only at c0 c1 c2 c3 c4 d0 d1 d2 d3 d4
        have hlti : (j : Int) < (n : Int) := by omega
        cases sm
        · go_upto_region 6 with fail
          go_quiet (fail)
          go_wp2_with fail
          go_ret
          refine ⟨by rw [HStep.out]; rfl, HB.out.trans (below_drewS _ _ _)⟩
        · go_upto_region 6 with fail
          go_quiet (fail)
          go_wp2_with fail
          go_roundw
          case rel => exact ⟨j + 1, by omega, by go_num, HStep.out.trans (by rw [Bool.true_and]), HB.out.trans (below_drewS _ _ _)⟩
          case measure => simp [intOf]; omega
      · obtain rfl : j = n := by omega
        have HR0 : Hid (R = true) := by
          show R = true
          rw [HE.out, List.drop_eq_nil_of_le (by rw [HN.out]; exact Nat.le_refl _), List.drop_eq_nil_of_le (by rw [HNb.out]; exact Nat.le_refl _)]
          rfl
        go_wp2_with fail
        go_ret
        exact ⟨by rw [HR0.out]; rfl, HB.out⟩
  · rw [sameL_len hl]
    clear hrowa hrowb
    have hli : ¬ ((a.length : Int) = (b.length : Int)) := by omega
    generalize a.length = n at *
    generalize b.length = m at *
    go_enter Tryd.func13, Tryd.ntmps13
    go_wp2_with fail
    go_ret
    exact ⟨rfl, Below.refl _ _⟩
end Go.Proofs.YtippdgmgmenboagDoor

namespace Go.Proofs.YtippdgmgmenboagDoor
set_option linter.unusedVariables false
set_option linter.unusedSimpArgs false
open Go.RowKit

theorem getE_iff {l : List En} (hr : Rising l) {k : Int} {x : En} : getE l k = some x ↔ x ∈ l ∧ x.k = k := by
  constructor
  · intro h
    exact ⟨List.mem_of_find?_eq_some h, by simpa using List.find?_some h⟩
  · rintro ⟨hx, hk⟩
    cases hg : getE l k with
    | none => exact absurd hk (getE_none hg x hx)
    | some y =>
      have hy : y ∈ l := List.mem_of_find?_eq_some hg
      have hyk : y.k = k := by simpa using List.find?_some hg
      obtain ⟨i, hi, rfl⟩ := List.getElem_of_mem hx
      obtain ⟨j, hj, rfl⟩ := List.getElem_of_mem hy
      rcases Nat.lt_trichotomy i j with h | h | h
      · have := List.pairwise_iff_getElem.1 hr _ _ hi hj h; omega
      · subst h; rfl
      · have := List.pairwise_iff_getElem.1 hr _ _ hj hi h; omega
theorem opt_ext {a b : Option En} (h : ∀ x, a = some x ↔ b = some x) : a = b := by
  cases a with
  | none =>
    cases b with
    | none => rfl
    | some y => exact absurd ((h y).2 rfl) (by simp)
  | some x => exact ((h x).1 rfl).symm
/-- a rising row is told by its keys -/
theorem rising_ext {x y : List En} (hx : Rising x) (hy : Rising y) (h : ∀ k, getE x k = getE y k) : x = y := by
  have hm : ∀ e, e ∈ x ↔ e ∈ y := fun e => by
    have h1 := getE_iff hx (k := e.k) (x := e)
    have h2 := getE_iff hy (k := e.k) (x := e)
    rw [h e.k] at h1
    simp only [and_true] at h1 h2
    exact h1.symm.trans h2
  clear h
  induction x generalizing y with
  | nil =>
    cases y with
    | nil => rfl
    | cons e y => exact absurd ((hm e).2 (by simp)) (by simp)
  | cons a x ih =>
    cases y with
    | nil => exact absurd ((hm a).1 (by simp)) (by simp)
    | cons b y =>
      have hx' := List.pairwise_cons.1 hx
      have hy' := List.pairwise_cons.1 hy
      have hab : a = b := by
        rcases List.mem_cons.1 ((hm a).1 (by simp)) with h | h
        · exact h
        · rcases List.mem_cons.1 ((hm b).2 (by simp)) with h' | h'
          · exact h'.symm
          · have := hy'.1 a h
            have := hx'.1 b h'
            omega
      subst hab
      rw [ih hx'.2 hy'.2 (fun e => ?_)]
      constructor
      · intro he
        rcases List.mem_cons.1 ((hm e).1 (by simp [he])) with h | h
        · subst h
          have := hx'.1 e he
          omega
        · exact h
      · intro he
        rcases List.mem_cons.1 ((hm e).2 (by simp [he])) with h | h
        · subst h
          have := hy'.1 e he
          omega
        · exact h

/-- what put leaves of a key -/
theorem getE_put {l : List En} {e : En} (hg : GoodL l) (he : e.bad = 0) (h : (putE l e).2.2 = 0) (k : Int) :
    getE (putE l e).1 k = if k = e.k then (match getE l e.k with | none => some e | some a => some (joinE a e).1) else getE l k := by
  have hgood := putE_good hg he h
  apply opt_ext
  intro x
  rw [getE_iff hgood.rise]
  unfold putE at h ⊢
  cases hk : getE l e.k with
  | none =>
    simp only [hk]
    have hn := getE_none hk
    have hmem : x ∈ l.take (placeE l e.k) ++ e :: l.drop (placeE l e.k) ↔ x = e ∨ x ∈ l := by
      rw [List.mem_append, List.mem_cons]
      constructor
      · rintro (h | h | h)
        · exact .inr (List.mem_of_mem_take h)
        · exact .inl h
        · exact .inr (List.mem_of_mem_drop h)
      · rintro (h | h)
        · exact .inr (.inl h)
        · rw [← List.take_append_drop (placeE l e.k) l] at h
          rcases List.mem_append.1 h with h | h
          · exact .inl h
          · exact .inr (.inr h)
    rw [hmem]
    by_cases hke : k = e.k
    · rw [if_pos hke]
      constructor
      · rintro ⟨h1 | h1, h2⟩
        · rw [h1]
        · exact absurd (h2.trans hke) (hn x h1)
      · intro h1
        have h1 : e = x := by simpa using h1
        exact ⟨.inl h1.symm, by rw [← h1, hke]⟩
    · rw [if_neg hke, getE_iff hg.rise]
      constructor
      · rintro ⟨h1 | h1, h2⟩
        · rw [h1] at h2; exact absurd h2.symm hke
        · exact ⟨h1, h2⟩
      · rintro ⟨h1, h2⟩
        exact ⟨.inr h1, h2⟩
  | some a =>
    simp only [hk] at h ⊢
    have hn : (joinE a e).2 = 0 := by
      by_cases hz : (joinE a e).2 = 0
      · exact hz
      · rw [if_pos hz] at h; exact absurd h hz
    rw [if_neg (by simpa using hn)]
    obtain ⟨ha, _, hae, hJ⟩ := joinE_ok (x := a) (y := e) (J := (joinE a e).1) (by rw [← hn])
    obtain ⟨hm, hma, hmk⟩ := getE_some hg.rise hk
    have hJk : (joinE a e).1.k = e.k := by rcases hJ with h' | h' <;> rw [h']; exact hae
    generalize (joinE a e).1 = J at hJk ⊢
    have hJm : J ∈ l.set (placeE l e.k) J := List.mem_iff_getElem.2 ⟨placeE l e.k, by simpa using hm, by simp⟩
    by_cases hke : k = e.k
    · rw [if_pos hke]
      constructor
      · rintro ⟨h1, h2⟩
        rcases List.mem_or_eq_of_mem_set h1 with h3 | h3
        · obtain ⟨i, hi, rfl⟩ := List.getElem_of_mem h1
          rw [List.length_set] at hi
          rw [List.getElem_set] at h2 ⊢
          split
          · rfl
          · rename_i hne
            rw [if_neg hne] at h2
            have h4 : l[i].k = l[placeE l e.k].k := by rw [h2, hma, hmk, hke]
            rcases Nat.lt_trichotomy i (placeE l e.k) with h' | h' | h'
            · have := List.pairwise_iff_getElem.1 hg.rise _ _ hi hm h'; omega
            · exact absurd h'.symm hne
            · have := List.pairwise_iff_getElem.1 hg.rise _ _ hm hi h'; omega
        · rw [h3]
      · intro h1
        have h1 : J = x := by simpa using h1
        exact ⟨by rw [← h1]; exact hJm, by rw [← h1, hJk, hke]⟩
    · rw [if_neg hke, getE_iff hg.rise]
      constructor
      · rintro ⟨h1, h2⟩
        rcases List.mem_or_eq_of_mem_set h1 with h3 | h3
        · exact ⟨h3, h2⟩
        · rw [h3, hJk] at h2; exact absurd h2.symm hke
      · rintro ⟨h1, h2⟩
        refine ⟨?_, h2⟩
        obtain ⟨i, hi, rfl⟩ := List.getElem_of_mem h1
        refine List.mem_iff_getElem.2 ⟨i, by simpa using hi, ?_⟩
        rw [List.getElem_set, if_neg]
        intro h'
        have : l[i].k = e.k := by simp only [← h']; rw [hma]; exact hmk
        omega

/-- what two caches know of a key -/
def KnownAt : Option En → Option En → Option En → Prop
  | none, none, r => r = none
  | some a, none, r => r = some a
  | none, some b, r => r = some b
  | some a, some b, r => ∃ c, r = some c ∧ Known a b c
theorem KnownAt.comm {a b r : Option En} (h : KnownAt a b r) : KnownAt b a r := by
  cases a <;> cases b <;> simp only [KnownAt] at h ⊢
  · exact h
  · exact h
  · exact h
  · obtain ⟨c, h1, h2⟩ := h
    exact ⟨c, h1, h2.comm⟩
theorem KnownAt.left {a b r : Option En} (h : KnownAt a b r) : KnownAt r a r := by
  cases a <;> cases b <;> simp only [KnownAt] at h
  · subst h; rfl
  · subst h; rfl
  · subst h; exact ⟨_, rfl, Known.self _⟩
  · obtain ⟨c, rfl, h2⟩ := h
    exact ⟨c, rfl, h2.left⟩
theorem KnownAt.right {a b r : Option En} (h : KnownAt a b r) : KnownAt b r r := h.comm.left.comm
def Merged (a b x : List En) : Prop := ∀ k, KnownAt (getE a k) (getE b k) (getE x k)
theorem getE_cons_same {e : En} {b : List En} : getE (e :: b) e.k = some e := by simp [getE]
theorem getE_cons_other {e : En} {b : List En} {k : Int} (h : k ≠ e.k) : getE (e :: b) k = getE b k := by
  have : ¬ e.k = k := fun h' => h h'.symm
  simp [getE, this]
theorem getE_tail {e : En} {b : List En} (h : Rising (e :: b)) : getE b e.k = none := by
  cases hg : getE b e.k with
  | none => rfl
  | some y =>
    have h1 := (getE_iff (List.pairwise_cons.1 h).2).1 hg
    have := (List.pairwise_cons.1 h).1 y h1.1
    omega
theorem allE_merged {l b x : List En} (hl : GoodL l) (hb : Rising b) (hbb : ∀ e ∈ b, e.bad = 0) (h : allE l b = (x, 0)) : Merged l b x := by
  induction b generalizing l with
  | nil =>
    rw [allE] at h
    obtain rfl : l = x := by simpa using h
    intro k
    have : getE [] k = none := rfl
    rw [this]
    cases getE l k <;> rfl
  | cons e b ih =>
    rw [allE] at h
    by_cases hn : (putE l e).2.2 = 0
    · rw [if_neg (by simpa using hn)] at h
      have he := hbb e (by simp)
      have hm := ih (putE_good hl he hn) (List.pairwise_cons.1 hb).2 (fun y hy => hbb y (by simp [hy])) h
      intro k
      have hk := hm k
      rw [getE_put hl he hn] at hk
      by_cases hke : k = e.k
      · subst hke
        rw [if_pos rfl, getE_tail hb] at hk
        rw [getE_cons_same]
        cases ha : getE l e.k with
        | none => simp only [ha, KnownAt] at hk ⊢; exact hk
        | some a =>
          simp only [ha, KnownAt] at hk ⊢
          refine ⟨_, hk, ?_⟩
          have hj : joinE a e = ((joinE a e).1, 0) := by
            unfold putE at hn
            simp only [ha] at hn
            by_cases hz : (joinE a e).2 = 0
            · rw [← hz]
            · rw [if_pos hz] at hn; exact absurd hn hz
          exact (joinE_iff.1 hj).2.2
      · rw [if_neg hke] at hk
        rw [getE_cons_other hke]
        exact hk
    · rw [if_pos hn] at h
      simp only [Prod.mk.injEq] at h
      exact absurd h.2 hn
theorem merged_allE {l b x : List En} (hl : GoodL l) (hb : Rising b) (hbb : ∀ e ∈ b, e.bad = 0) (hx : Rising x) (h : Merged l b x) : allE l b = (x, 0) := by
  induction b generalizing l with
  | nil =>
    rw [allE]
    refine Prod.ext (rising_ext hl.rise hx fun k => ?_) rfl
    have hk := h k
    have hn : getE [] k = none := rfl
    rw [hn] at hk
    cases hc : getE l k with
    | none => rw [hc] at hk; simp only [KnownAt] at hk; rw [hk]
    | some a => rw [hc] at hk; simp only [KnownAt] at hk; rw [hk]
  | cons e b ih =>
    have he := hbb e (by simp)
    have hn : (putE l e).2.2 = 0 ∧ (∀ a, getE l e.k = some a → ∃ c, getE x e.k = some c ∧ (joinE a e).1 = c ∧ Known a e c) := by
      have hk := h e.k
      rw [getE_cons_same] at hk
      cases ha : getE l e.k with
      | none =>
        refine ⟨?_, by simp⟩
        unfold putE
        simp only [ha]
      | some a =>
        rw [ha] at hk
        simp only [KnownAt] at hk
        obtain ⟨c, hc, hkn⟩ := hk
        have hj : joinE a e = (c, 0) := joinE_iff.2 ⟨hl.all a ((getE_iff hl.rise).1 ha).1, he, hkn⟩
        refine ⟨?_, ?_⟩
        · unfold putE
          simp only [ha, hj]
          simp
        · intro a' ha'
          obtain rfl := Option.some.inj ha'
          exact ⟨c, hc, by rw [hj], hkn⟩
    rw [allE, if_neg (by simpa using hn.1)]
    refine ih (putE_good hl he hn.1) (List.pairwise_cons.1 hb).2 (fun y hy => hbb y (by simp [hy])) fun k => ?_
    rw [getE_put hl he hn.1]
    by_cases hke : k = e.k
    · subst hke
      rw [if_pos rfl, getE_tail hb]
      have hk := h e.k
      rw [getE_cons_same] at hk
      cases ha : getE l e.k with
      | none => rw [ha] at hk; simp only [KnownAt] at hk ⊢; exact hk
      | some a =>
        obtain ⟨c, hc, hj, _⟩ := hn.2 a ha
        simp only [KnownAt]
        rw [hc, hj]
    · rw [if_neg hke]
      have hk := h k
      rw [getE_cons_other hke] at hk
      exact hk

theorem both_good {a b x : List En} (h : cacheBoth a b = (x, 0)) : GoodL a ∧ GoodL b ∧ GoodL x ∧ Merged a b x := by
  unfold cacheBoth at h
  by_cases ha : badL a = 0
  · rw [if_neg (by simpa using ha)] at h
    by_cases hb : badL b = 0
    · rw [if_neg (by simpa using hb)] at h
      have ga := badL_good ha
      have gb := badL_good hb
      have gx := allE_good ga gb.all (by rw [h])
      rw [h] at gx
      exact ⟨ga, gb, gx, allE_merged ga gb.rise gb.all h⟩
    · rw [if_pos hb] at h
      simp only [Prod.mk.injEq] at h
      exact absurd h.2 hb
  · rw [if_pos ha] at h
    simp only [Prod.mk.injEq] at h
    exact absurd h.2 ha
theorem both_of {a b x : List En} (ha : GoodL a) (hb : GoodL b) (hx : GoodL x) (h : Merged a b x) : cacheBoth a b = (x, 0) := by
  rw [cacheBoth, if_neg (by simpa using ha.bad), if_neg (by simpa using hb.bad)]
  exact merged_allE ha hb.rise hb.all hx.rise h
theorem both_turn {a b x : List En} (h : cacheBoth a b = (x, 0)) : cacheBoth b a = (x, 0) := by
  obtain ⟨ga, gb, gx, hm⟩ := both_good h
  exact both_of gb ga gx fun k => (hm k).comm
theorem both_left {a b x : List En} (h : cacheBoth a b = (x, 0)) : cacheBoth x a = (x, 0) := by
  obtain ⟨ga, gb, gx, hm⟩ := both_good h
  exact both_of gx ga gx fun k => (hm k).left
theorem both_right {a b x : List En} (h : cacheBoth a b = (x, 0)) : cacheBoth b x = (x, 0) := by
  obtain ⟨ga, gb, gx, hm⟩ := both_good h
  exact both_of gb gx gx fun k => (hm k).right
theorem bad_span {e : En} (h : e.bad = 0) : e.v ≤ e.a := by
  unfold En.bad bad at h
  split at h
  · omega
  · rename_i h1
    simp [inR] at h1
    omega
end Go.Proofs.YtippdgmgmenboagDoor

namespace Go.Proofs.YtippdgmgmenboagDoor
set_option linter.unusedVariables false
set_option linter.unusedSimpArgs false
open Go.RowKit

/-- the entries of some keys -/
def someE (l : List En) (K : List Int) : List En := l.filter (fun e => K.contains e.k)
theorem someE_good {l : List En} {K : List Int} (h : GoodL l) : GoodL (someE l K) :=
  GoodL.of (List.Pairwise.sublist List.filter_sublist h.rise) (fun e he => h.all e (List.mem_filter.1 he).1)
theorem someE_at {l : List En} {K : List Int} (h : GoodL l) (k : Int) : getE (someE l K) k = if K.contains k = true then getE l k else none := by
  apply opt_ext
  intro x
  rw [getE_iff (someE_good h).rise]
  unfold someE
  rw [List.mem_filter]
  by_cases hc : K.contains k = true
  · rw [if_pos hc, getE_iff h.rise]
    constructor
    · rintro ⟨⟨h1, _⟩, h2⟩
      exact ⟨h1, h2⟩
    · rintro ⟨h1, h2⟩
      exact ⟨⟨h1, by rw [h2]; exact hc⟩, h2⟩
  · rw [if_neg hc]
    constructor
    · rintro ⟨⟨_, h1⟩, h2⟩
      rw [h2] at h1
      exact absurd h1 hc
    · intro h1
      cases h1
theorem someE_nil (l : List En) : someE l [] = [] := by
  unfold someE
  rw [List.filter_eq_nil_iff]
  intro e _
  simp
theorem someE_none (K : List Int) : someE [] K = [] := rfl
theorem known_fun {a b c d : En} (hc : Known a b c) (hd : Known a b d) : c = d := by
  obtain ⟨_, hc⟩ := hc
  obtain ⟨_, hd⟩ := hd
  rcases hc with ⟨h1, h2, h3, h4, rfl⟩ | ⟨h1, h2, h3, h4, rfl⟩ | ⟨h1, h2, rfl⟩ | ⟨h1, h2, rfl⟩ <;> rcases hd with ⟨g1, g2, g3, g4, rfl⟩ | ⟨g1, g2, g3, g4, rfl⟩ | ⟨g1, g2, rfl⟩ | ⟨g1, g2, rfl⟩ <;> first | rfl | (exfalso; omega)
theorem bad_time {e : En} (h : e.bad = 0) : e.v ≤ e.a := by
  unfold En.bad bad at h
  split at h
  · omega
  · rename_i h1
    simp [inR] at h1
    omega
theorem known_one {a b x y : Option En} (hx : KnownAt a b x) (hy : KnownAt a b y) : x = y := by
  cases a with
  | none =>
    cases b with
    | none => simp only [KnownAt] at hx hy; rw [hx, hy]
    | some b => simp only [KnownAt] at hx hy; rw [hx, hy]
  | some a =>
    cases b with
    | none => simp only [KnownAt] at hx hy; rw [hx, hy]
    | some b =>
      simp only [KnownAt] at hx hy
      obtain ⟨c, rfl, hc⟩ := hx
      obtain ⟨d, rfl, hd⟩ := hy
      rw [known_fun hc hd]
/-- what one has behind it -/
def giveE (a b : List En) (K : List Int) : List En × Int := allE a (someE b K)
theorem give_good {a b x : List En} {K : List Int} (ha : GoodL a) (hb : GoodL b) (h : giveE a b K = (x, 0)) : GoodL x ∧ ∀ k, KnownAt (getE a k) (if K.contains k = true then getE b k else none) (getE x k) := by
  have h1 : cacheBoth a (someE b K) = (x, 0) := by
    rw [cacheBoth, if_neg (by simpa using ha.bad), if_neg (by simpa using (someE_good hb).bad)]
    exact h
  obtain ⟨_, _, gx, hm⟩ := both_good h1
  refine ⟨gx, fun k => ?_⟩
  have := hm k
  rw [someE_at hb k] at this
  exact this
theorem known_none {a x : Option En} (h : KnownAt a none x) : x = a := by
  cases a <;> simpa [KnownAt] using h
/-- of a key that is not told each has what it had -/
theorem give_off {a b x : List En} {K : List Int} (ha : GoodL a) (hb : GoodL b) (h : giveE a b K = (x, 0)) {k : Int} (hk : ¬ K.contains k = true) : getE x k = getE a k := by
  have := (give_good ha hb h).2 k
  rw [if_neg hk] at this
  exact known_none this
/-- of a key that is told both have the same -/
theorem give_on {a b x y : List En} {K : List Int} (ha : GoodL a) (hb : GoodL b) (hx : giveE a b K = (x, 0)) (hy : giveE b a K = (y, 0)) {k : Int} (hk : K.contains k = true) : getE x k = getE y k := by
  have h1 := (give_good ha hb hx).2 k
  have h2 := (give_good hb ha hy).2 k
  rw [if_pos hk] at h1 h2
  exact known_one h1 h2.comm
/-- .. which is what both know -/
theorem give_both {a b x z : List En} {K : List Int} (ha : GoodL a) (hb : GoodL b) (hx : giveE a b K = (x, 0)) (hz : cacheBoth a b = (z, 0)) {k : Int} (hk : K.contains k = true) : getE z k = getE x k := by
  have h1 := (give_good ha hb hx).2 k
  rw [if_pos hk] at h1
  exact known_one ((both_good hz).2.2.2 k) h1
/-- .. and is there, if one of both had it -/
theorem give_some {a b x : List En} {K : List Int} (ha : GoodL a) (hb : GoodL b) (hx : giveE a b K = (x, 0)) {k : Int} (hk : K.contains k = true) (h : getE a k ≠ none ∨ getE b k ≠ none) : ∃ u, getE x k = some u := by
  have h1 := (give_good ha hb hx).2 k
  rw [if_pos hk] at h1
  cases h2 : getE a k with
  | none =>
    cases h3 : getE b k with
    | none =>
      rcases h with h | h
      · exact absurd h2 h
      · exact absurd h3 h
    | some v => rw [h2, h3] at h1; exact ⟨v, h1⟩
  | some u =>
    cases h3 : getE b k with
    | none => rw [h2, h3] at h1; exact ⟨u, h1⟩
    | some v =>
      rw [h2, h3] at h1
      obtain ⟨c, hc, _⟩ := h1
      exact ⟨c, hc⟩
/-- nothing is older than it was -/
theorem give_newer {a b x : List En} {K : List Int} (ha : GoodL a) (hb : GoodL b) (hx : giveE a b K = (x, 0)) {k : Int} {u : En} (hu : getE a k = some u) : ∃ v, getE x k = some v ∧ u.v ≤ v.v ∧ u.a ≤ v.a := by
  have h1 := (give_good ha hb hx).2 k
  rw [hu] at h1
  cases h2 : (if K.contains k = true then getE b k else none) with
  | none =>
    rw [h2] at h1
    exact ⟨u, h1, Int.le_refl _, Int.le_refl _⟩
  | some v =>
    rw [h2] at h1
    obtain ⟨c, hc, hk⟩ := h1
    have ba : u.bad = 0 := ha.all u ((getE_iff ha.rise).1 hu).1
    have bb : v.bad = 0 := by
      split at h2
      · exact hb.all v ((getE_iff hb.rise).1 h2).1
      · cases h2
    have := hk.new (bad_time ba) (bad_time bb)
    exact ⟨c, hc, this.1, this.2.2.1⟩
theorem give_none (a b : List En) : giveE a b [] = (a, 0) := by
  unfold giveE
  rw [someE_nil]
  rfl
end Go.Proofs.YtippdgmgmenboagDoor

namespace Go.Proofs.YtippdgmgmenboagDoor
set_option linter.unusedVariables false
set_option linter.unusedSimpArgs false
open Go.RowKit

/-- off the keys told each tree has what it had, on them both have the same: then their nodes are the same -/
theorem nd_swapped (P : Nat → Nat → Nat) (f g f' g' : Nat → Nat) : ∀ d i, 8 ≤ i * 2 ^ d → (∀ k, under d i k → (k ∈ ptK P f g d i → f' k = g' k) ∧ (k ∉ ptK P f g d i → f' k = f k ∧ g' k = g k)) → nd P f' d i = nd P g' d i := by
  intro d
  induction d with
  | zero =>
    intro i h8 h
    have hu : under 0 i (i - 8) := by
      constructor <;> simp only [Nat.pow_zero, Nat.mul_one] at h8 ⊢ <;> omega
    obtain ⟨h1, h2⟩ := h (i - 8) hu
    show f' (i - 8) = g' (i - 8)
    by_cases e : f (i - 8) = g (i - 8)
    · obtain ⟨e1, e2⟩ := h2 (by rw [ptK, if_pos e]; simp)
      rw [e1, e2, e]
    · exact h1 (by rw [ptK, if_neg e]; simp)
  | succ d ih =>
    intro i h8 h
    have e : 2 ^ (d + 1) = 2 * 2 ^ d := by rw [Nat.pow_succ, Nat.mul_comm]
    have hl : 8 ≤ 2 * i * 2 ^ d := by rw [Nat.mul_comm 2 i, Nat.mul_assoc, ← e]; exact h8
    have hr : 8 ≤ (2 * i + 1) * 2 ^ d := Nat.le_trans hl (Nat.mul_le_mul_right _ (by omega))
    by_cases hn : nd P f (d + 1) i = nd P g (d + 1) i
    · have h0 : ptK P f g (d + 1) i = [] := ptK_alike hn
      have hf : nd P f' (d + 1) i = nd P f (d + 1) i := nd_ext P f' f (d + 1) i h8 (fun k hk => ((h k hk).2 (by rw [h0]; simp)).1)
      have hg : nd P g' (d + 1) i = nd P g (d + 1) i := nd_ext P g' g (d + 1) i h8 (fun k hk => ((h k hk).2 (by rw [h0]; simp)).2)
      rw [hf, hg, hn]
    · have hK : ptK P f g (d + 1) i = ptK P f g d (2 * i) ++ ptK P f g d (2 * i + 1) := by rw [ptK, if_neg hn]
      have e1 : nd P f' d (2 * i) = nd P g' d (2 * i) := ih (2 * i) hl (fun k hk => by
        obtain ⟨h1, h2⟩ := h k (under_left hk)
        rw [hK] at h1 h2
        refine ⟨fun hm => h1 (List.mem_append_left _ hm), fun hm => h2 (fun hm' => ?_)⟩
        rcases List.mem_append.1 hm' with h3 | h3
        · exact hm h3
        · have := (ptK_under P f g d (2 * i + 1) k hr h3).1
          have := under_part hk this
          omega)
      have e2 : nd P f' d (2 * i + 1) = nd P g' d (2 * i + 1) := ih (2 * i + 1) hr (fun k hk => by
        obtain ⟨h1, h2⟩ := h k (under_right hk)
        rw [hK] at h1 h2
        refine ⟨fun hm => h1 (List.mem_append_right _ hm), fun hm => h2 (fun hm' => ?_)⟩
        rcases List.mem_append.1 hm' with h3 | h3
        · have := (ptK_under P f g d (2 * i) k hl h3).1
          have := under_part this hk
          omega
        · exact hm h3)
      rw [nd, nd, e1, e2]
end Go.Proofs.YtippdgmgmenboagDoor

namespace Go.Proofs.YtippdgmgmenboagDoor
set_option linter.unusedVariables false
set_option linter.unusedSimpArgs false
open Go.RowKit

theorem part_turn (f g : Nat → Nat) (i : Nat) : partK g f i = partK f g i ∧ partN g f i = partN f g i := by
  unfold partK partN
  rw [ptK_turn, ptN_turn]
  exact ⟨rfl, rfl⟩
theorem part_few (f g : Nat → Nat) : partN f g 1 ≤ 1 + 6 * (partK f g 1).length := by
  have h := ptN_few pairH f g 3 1
  unfold partN partK
  rw [List.length_map]
  exact h
theorem part_pos (f g : Nat → Nat) (i : Nat) : 1 ≤ partN f g i := ptN_pos _ _ _ _ _
theorem part_mem {f g : Nat → Nat} {k : Int} (h : k ∈ partK f g 1) : ∃ q : Nat, k = (q : Int) ∧ q < 8 ∧ f q ≠ g q := by
  obtain ⟨q, hq, rfl⟩ := List.mem_map.1 h
  obtain ⟨hu, hn⟩ := ptK_under pairH f g 3 1 q (by decide) hq
  have h2 : q + 8 < (1 + 1) * 2 ^ 3 := hu.2
  exact ⟨q, rfl, by omega, hn⟩
theorem part_rise (f g : Nat → Nat) : (partK f g 1).Pairwise (· < ·) := by
  unfold partK
  rw [List.pairwise_map]
  exact (ptK_rise pairH f g 3 1 (by decide)).imp (fun h => by omega)
theorem part_mended (f g h : Nat → Nat) (hh : ∀ q, q < 8 → h q = if (partK f g 1).contains (q : Int) = true then f q else g q) : trN h 1 = trN f 1 := by
  have hm : ∀ q : Nat, (partK f g 1).contains (q : Int) = true ↔ q ∈ ptK pairH f g 3 1 := fun q => by
    rw [List.contains_iff_mem]
    unfold partK
    rw [List.mem_map]
    constructor
    · rintro ⟨x, hx, hxq⟩
      have : x = q := by omega
      subst this
      exact hx
    · exact fun hq => ⟨q, hq, rfl⟩
  refine nd_mended pairH f g h 3 1 (by decide) (fun k hk => ?_)
  have h2 : k + 8 < (1 + 1) * 2 ^ 3 := hk.2
  have e := hh k (by omega)
  constructor
  · intro hx
    rw [if_pos ((hm k).2 hx)] at e
    exact e
  · intro hx
    rw [if_neg (fun hc => hx ((hm k).1 hc))] at e
    exact e

/-- the one entry of the law's first row -/
def oneE : En := ⟨6, 1, 1, false, ⟨#[120]⟩⟩
theorem one_good : badL [oneE] = 0 := by decide +kernel
theorem leaf_one : leafN [oneE] = oneF := by
  funext k
  unfold oneF
  by_cases h : k = 6
  · subst h
    rw [if_pos rfl]
    have e : getE [oneE] ((6 : Nat) : Int) = some oneE := rfl
    rw [leafN_some e]
    exact entH_eq 6 1 false ⟨#[120]⟩
  · rw [if_neg h]
    refine leafN_none ?_
    unfold getE
    rw [List.find?_cons_of_neg (by
      show ¬ (((6 : Int) == (k : Int)) = true)
      simp
      omega)]
    rfl
theorem leaf_nil : leafN [] = fun _ => 0 := by
  funext k
  rfl
theorem part_one : partK (leafN [oneE]) (leafN []) 1 = [6] ∧ partN (leafN [oneE]) (leafN []) 1 = 7 := by
  obtain ⟨h1, h2⟩ := one_part
  rw [leaf_one, leaf_nil]
  unfold partK partN
  rw [pairH_eq, show dep 1 = 3 from rfl, h1, h2]
  exact ⟨rfl, rfl⟩

/-- where two numbers are unlike, how the entries are -/
theorem unlike_how {a b : List En} (ha : badL a = 0) (hb : badL b = 0) {q : Nat} (h : leafN a q ≠ leafN b q) :
    (∃ x, getE a (q : Int) = some x ∧ getE b (q : Int) = none) ∨ (∃ y, getE a (q : Int) = none ∧ getE b (q : Int) = some y) ∨
    ∃ x y, getE a (q : Int) = some x ∧ getE b (q : Int) = some y ∧ (x.v ≠ y.v ∨ (x.v = y.v ∧ x.g ≠ y.g) ∨ (x.v = y.v ∧ x.g = y.g ∧ x.t ≠ y.t)) := by
  cases h1 : getE a (q : Int) with
  | none =>
    cases h2 : getE b (q : Int) with
    | none => exact absurd (by rw [leafN_none h1, leafN_none h2]) h
    | some y => exact .inr (.inl ⟨y, rfl, rfl⟩)
  | some x =>
    cases h2 : getE b (q : Int) with
    | none => exact .inl ⟨x, rfl, rfl⟩
    | some y =>
      refine .inr (.inr ⟨x, y, rfl, rfl, ?_⟩)
      obtain ⟨_, _, kx⟩ := getE_some (badL_good ha).rise h1
      obtain ⟨_, _, ky⟩ := getE_some (badL_good hb).rise h2
      by_cases e1 : x.v = y.v
      · by_cases e2 : x.g = y.g
        · by_cases e3 : x.t = y.t
          · refine absurd ?_ h
            rw [leafN_some h1, leafN_some h2, numE, numE, kx, ky, e1, e2, e3]
          · exact .inr (.inr ⟨e1, e2, e3⟩)
        · exact .inr (.inl ⟨e1, e2⟩)
      · exact .inl e1

/-- b's entries, but a's of some keys, below j -/
def mixU (a b : List En) (K : List Int) : Nat → List En
  | 0 => []
  | j + 1 => mixU a b K j ++ (match getE (if K.contains (j : Int) = true then a else b) (j : Int) with
    | none => []
    | some x => [x])
/-- where a key's entry is taken from -/
def fromU (a b : List En) (K : List Int) (j : Nat) : List En := if K.contains (j : Int) = true then a else b
theorem mixU_none {a b : List En} {K : List Int} {j : Nat} (h : getE (fromU a b K j) (j : Int) = none) : mixU a b K (j + 1) = mixU a b K j := by
  unfold fromU at h
  rw [mixU, h, List.append_nil]
theorem mixU_some {a b : List En} {K : List Int} {j : Nat} {x : En} (h : getE (fromU a b K j) (j : Int) = some x) : mixU a b K (j + 1) = mixU a b K j ++ [x] := by
  unfold fromU at h
  rw [mixU, h]
theorem fromU_good {a b : List En} {K : List Int} {j : Nat} (ha : badL a = 0) (hb : badL b = 0) : badL (fromU a b K j) = 0 := by
  unfold fromU
  split
  · exact ha
  · exact hb
theorem mixU_props {a b : List En} (K : List Int) (ha : badL a = 0) (hb : badL b = 0) : ∀ j, (mixU a b K j).length ≤ j ∧ Rising (mixU a b K j) ∧ (∀ e ∈ mixU a b K j, e.bad = 0 ∧ e.k < (j : Int)) ∧
    ∀ q : Nat, getE (mixU a b K j) (q : Int) = if q < j then getE (fromU a b K q) (q : Int) else none := by
  intro j
  induction j with
  | zero => exact ⟨Nat.le_refl _, List.Pairwise.nil, fun e he => (by cases he), fun q => rfl⟩
  | succ j ih =>
    obtain ⟨h1, h2, h3, h4⟩ := ih
    cases hg : getE (fromU a b K j) (j : Int) with
    | none =>
      rw [mixU_none hg]
      refine ⟨by omega, h2, fun e he => ⟨(h3 e he).1, by have := (h3 e he).2; omega⟩, fun q => ?_⟩
      rw [h4 q]
      by_cases e1 : q < j
      · rw [if_pos e1, if_pos (by omega)]
      · by_cases e2 : q = j
        · subst e2
          rw [if_neg e1, if_pos (by omega), hg]
        · rw [if_neg e1, if_neg (by omega)]
    | some x =>
      have G := badL_good (fromU_good (K := K) (j := j) ha hb)
      obtain ⟨hj, hx, hk⟩ := getE_some G.rise hg
      have hxb : x.bad = 0 := G.all x (by rw [← hx]; exact List.getElem_mem _)
      rw [mixU_some hg]
      refine ⟨by rw [List.length_append]; simp; omega, ?_, ?_, fun q => ?_⟩
      · unfold Rising
        rw [List.pairwise_append]
        refine ⟨h2, by simp, fun u hu v hv => ?_⟩
        rw [List.mem_singleton.1 hv, hk]
        exact (h3 u hu).2
      · intro e he
        rcases List.mem_append.1 he with he | he
        · exact ⟨(h3 e he).1, by have := (h3 e he).2; omega⟩
        · rw [List.mem_singleton.1 he]
          exact ⟨hxb, by rw [hk]; omega⟩
      · have e0 : getE (mixU a b K j ++ [x]) (q : Int) = (getE (mixU a b K j) (q : Int)).or (getE [x] (q : Int)) := by
          unfold getE
          exact List.find?_append
        rw [e0, h4 q]
        by_cases e1 : q < j
        · rw [if_pos e1, if_pos (by omega)]
          have e2 : getE [x] (q : Int) = none := by
            unfold getE
            rw [List.find?_cons_of_neg (by rw [hk]; simp; omega)]
            rfl
          rw [e2]
          cases getE (fromU a b K q) (q : Int) <;> rfl
        · by_cases e2 : q = j
          · subst e2
            rw [if_neg e1, if_pos (by omega), hg]
            have e3 : getE [x] (q : Int) = some x := by
              unfold getE
              exact List.find?_cons_of_pos (by rw [hk]; simp)
            rw [e3]
            rfl
          · rw [if_neg e1, if_neg (by omega)]
            have e3 : getE [x] (q : Int) = none := by
              unfold getE
              rw [List.find?_cons_of_neg (by rw [hk]; simp; omega)]
              rfl
            rw [e3]
            rfl
theorem mixU_good {a b : List En} (K : List Int) (ha : badL a = 0) (hb : badL b = 0) : badL (mixU a b K 8) = 0 := by
  obtain ⟨h1, h2, h3, _⟩ := mixU_props K ha hb 8
  exact GoodL.bad ⟨h1, fun e he => (h3 e he).1, h2⟩
theorem mixU_leaf {a b : List En} (K : List Int) (ha : badL a = 0) (hb : badL b = 0) (q : Nat) (hq : q < 8) : leafN (mixU a b K 8) q = if K.contains (q : Int) = true then leafN a q else leafN b q := by
  obtain ⟨_, _, _, h4⟩ := mixU_props K ha hb 8
  have h5 := h4 q
  rw [if_pos hq] at h5
  unfold leafN
  rw [h5]
  unfold fromU
  by_cases hc : K.contains (q : Int) = true
  · rw [if_pos hc, if_pos hc]
  · rw [if_neg hc, if_neg hc]
/-- with a's entries of the keys told they part no more -/
theorem mixU_alike {a b : List En} (ha : badL a = 0) (hb : badL b = 0) : partK (leafN a) (leafN (mixU a b (partK (leafN a) (leafN b) 1) 8)) 1 = [] :=
  (part_alike (part_mended (leafN a) (leafN b) _ (fun q hq => mixU_leaf _ ha hb q hq)).symm).1
end Go.Proofs.YtippdgmgmenboagDoor

namespace Go.Proofs.YtippdgmgmenboagDoor
set_option linter.unusedVariables false
set_option linter.unusedSimpArgs false
open Go.RowKit

/-- what is wrong with keys, behind such as were named -/
def badKF : List Int → List Int → Int
  | _, [] => 0
  | seen, k :: l => if isKeyB k = false then 1 else if seen.contains k = true then 7 else badKF (seen ++ [k]) l
/-- what is wrong with keys that are asked for -/
def badK (l : List Int) : Int := if 8 < l.length then 4 else badKF [] l
theorem badKF_step {l : List Int} {j : Nat} (h : j < l.length) : badKF (l.take j) (l.drop j) = if isKeyB l[j] = false then 1 else if (l.take j).contains l[j] = true then 7 else badKF (l.take (j + 1)) (l.drop (j + 1)) := by
  rw [List.drop_eq_getElem_cons h, badKF, List.take_succ_eq_append_getElem h]
theorem badK_full {l : List Int} (h : 8 < l.length) : badK l = 4 := by rw [badK, if_pos h]
theorem badK_else {l : List Int} (h : ¬ 8 < l.length) : badK l = badKF (l.take 0) (l.drop 0) := by rw [badK, if_neg h]; rfl
theorem badKF_range {l : List Int} {j : Nat} (h : j < l.length) (hr : isKeyB l[j] = false) : badKF (l.take j) (l.drop j) = 1 := by rw [badKF_step h, if_pos hr]
theorem badKF_clash {l : List Int} {j : Nat} (h : j < l.length) (hr : isKeyB l[j] = true) (hc : (l.take j).contains l[j] = true) : badKF (l.take j) (l.drop j) = 7 := by rw [badKF_step h, if_neg (by rw [hr]; simp), if_pos hc]
theorem badKF_next {l : List Int} {j : Nat} (h : j < l.length) (hr : isKeyB l[j] = true) (hc : (l.take j).contains l[j] = false) : badKF (l.take j) (l.drop j) = badKF (l.take (j + 1)) (l.drop (j + 1)) := by rw [badKF_step h, if_neg (by rw [hr]; simp), if_neg (by rw [hc]; simp)]
theorem badKF_end (l : List Int) : badKF (l.take l.length) (l.drop l.length) = 0 := by
  rw [List.drop_length]
  rfl
theorem badKF_zero : ∀ (l seen : List Int), l.Pairwise (· < ·) → (∀ k ∈ l, isKeyB k = true) → (∀ k ∈ l, k ∉ seen) → badKF seen l = 0 := by
  intro l
  induction l with
  | nil => intro seen _ _ _; rfl
  | cons k l ih =>
    intro seen h1 h2 h3
    rw [List.pairwise_cons] at h1
    rw [badKF, if_neg (by rw [h2 k (by simp)]; simp), if_neg (by simpa using h3 k (by simp))]
    refine ih _ h1.2 (fun q hq => h2 q (by simp [hq])) (fun q hq hm => ?_)
    rcases List.mem_append.1 hm with h | h
    · exact h3 q (by simp [hq]) h
    · have := h1.1 q hq
      simp at h
      omega
/-- the keys in which two trees part may be asked for -/
theorem partK_right (f g : Nat → Nat) : badK (partK f g 1) = 0 := by
  rw [badK, if_neg (by have := partK_len f g 1; omega)]
  refine badKF_zero _ _ (part_rise f g) (fun k hk => ?_) (by simp)
  obtain ⟨q, rfl, hq, _⟩ := part_mem hk
  simp [isKeyB]
  omega

theorem partK_has (f g : Nat → Nat) (q : Nat) : (partK f g 1).contains (q : Int) = true ↔ q ∈ ptK pairH f g 3 1 := by
  rw [List.contains_iff_mem]
  unfold partK
  rw [List.mem_map]
  constructor
  · rintro ⟨x, hx, hxq⟩
    have : x = q := by omega
    subst this
    exact hx
  · exact fun hq => ⟨q, hq, rfl⟩
/-- two trees whose ends were made alike where they parted part no more -/
theorem part_swapped (f g f' g' : Nat → Nat) (h : ∀ q : Nat, ((partK f g 1).contains (q : Int) = true → f' q = g' q) ∧ (¬ (partK f g 1).contains (q : Int) = true → f' q = f q ∧ g' q = g q)) : partK f' g' 1 = [] ∧ partN f' g' 1 = 1 := by
  refine part_alike (show nd pairH f' 3 1 = nd pairH g' 3 1 from ?_)
  refine nd_swapped pairH f g f' g' 3 1 (by decide) (fun k _ => ?_)
  obtain ⟨h1, h2⟩ := h k
  rw [partK_has] at h1 h2
  exact ⟨h1, h2⟩

/-- the keys in which two caches part -/
def lackK (a b : List En) : List Int := partK (leafN a) (leafN b) 1
theorem lackK_turn (a b : List En) : lackK b a = lackK a b := (part_turn _ _ 1).1
theorem lackK_right (a b : List En) : badK (lackK a b) = 0 := partK_right _ _
theorem lackK_mem {a b : List En} {k : Int} (h : k ∈ lackK a b) : ∃ q : Nat, k = (q : Int) ∧ q < 8 ∧ leafN a q ≠ leafN b q := part_mem h
theorem leafN_get {a b : List En} {q : Nat} (h : getE a (q : Int) = getE b (q : Int)) : leafN a q = leafN b q := by unfold leafN; rw [h]
/-- behind a swap they part no more -/
theorem swap_alike {a b x y : List En} (ha : GoodL a) (hb : GoodL b) (hx : giveE a b (lackK a b) = (x, 0)) (hy : giveE b a (lackK a b) = (y, 0)) : lackK x y = [] ∧ partN (leafN x) (leafN y) 1 = 1 := by
  refine part_swapped (leafN a) (leafN b) (leafN x) (leafN y) (fun q => ⟨fun hc => ?_, fun hc => ?_⟩)
  · exact leafN_get (give_on ha hb hx hy hc)
  · exact ⟨leafN_get (give_off ha hb hx hc), leafN_get (give_off hb ha hy hc)⟩

/-- what Give answers -/
def giveW (l : List En) (K : List Int) : List En × Int := if badL l ≠ 0 then ([], badL l) else if badK K ≠ 0 then ([], badK K) else (someE l K, 0)
theorem giveW_one {l : List En} {K : List Int} {n : Int} (h : badL l = n) (hn : n ≠ 0) : giveW l K = ([], n) := by rw [giveW, if_pos (by rw [h]; exact hn), h]
theorem giveW_two {l : List En} {K : List Int} {n : Int} (h : badL l = 0) (hK : badK K = n) (hn : n ≠ 0) : giveW l K = ([], n) := by rw [giveW, if_neg (by simpa using h), if_pos (by rw [hK]; exact hn), hK]
theorem giveW_ok {l : List En} {K : List Int} (h : badL l = 0) (hK : badK K = 0) : giveW l K = (someE l K, 0) := by rw [giveW, if_neg (by simpa using h), if_neg (by simpa using hK)]
theorem someE_yes {l : List En} {K : List Int} {j : Nat} (h : j < l.length) (hc : K.contains l[j].k = true) : someE (l.take (j + 1)) K = someE (l.take j) K ++ [l[j]] := by
  unfold someE
  rw [List.take_succ_eq_append_getElem h, List.filter_append, List.filter_cons_of_pos (by exact hc)]
  rfl
theorem someE_no {l : List En} {K : List Int} {j : Nat} (h : j < l.length) (hc : K.contains l[j].k = false) : someE (l.take (j + 1)) K = someE (l.take j) K := by
  unfold someE
  rw [List.take_succ_eq_append_getElem h, List.filter_append, List.filter_cons_of_neg (by rw [hc]; simp)]
  simp
theorem someE_len (l : List En) (K : List Int) : (someE l K).length ≤ l.length := List.length_filter_le _ _
theorem give_as_both {a b : List En} {K : List Int} (ha : GoodL a) (hb : GoodL b) : cacheBoth a (someE b K) = giveE a b K := by
  rw [cacheBoth, if_neg (by simpa using ha.bad), if_neg (by simpa using (someE_good hb).bad)]
  rfl
theorem all_err {l b R1 : List En} {R2 : Int} (h : allE l b = (R1, R2)) (hn : R2 ≠ 0) : R1 = [] := by
  induction b generalizing l with
  | nil => rw [allE] at h; simp at h; exact absurd h.2.symm hn
  | cons e b ih =>
    rw [allE] at h
    split at h
    · simp at h; exact h.1
    · exact ih h
theorem give_err {a b x : List En} {K : List Int} {n : Int} (h : giveE a b K = (x, n)) (hn : n ≠ 0) : x = [] := all_err h hn

/-- what Pair answers -/
def pairW (a b : List En) : List En × List En × Int :=
  if bad2 (badL a) (badL b) ≠ 0 then ([], [], bad2 (badL a) (badL b))
  else if (giveE a b (lackK a b)).2 ≠ 0 then ([], [], (giveE a b (lackK a b)).2)
  else if (giveE b a (lackK a b)).2 ≠ 0 then ([], [], (giveE b a (lackK a b)).2)
  else ((giveE a b (lackK a b)).1, (giveE b a (lackK a b)).1, 0)
theorem pairW_bad {a b : List En} {n : Int} (h : bad2 (badL a) (badL b) = n) (hn : n ≠ 0) : pairW a b = ([], [], n) := by rw [pairW, if_pos (by rw [h]; exact hn), h]
theorem bad2_good {m n : Int} (h : bad2 m n = 0) : m = 0 ∧ n = 0 := by
  unfold bad2 at h
  split at h
  · exact ⟨by assumption, h⟩
  · exact absurd h (by assumption)
theorem bad2_both {m n : Int} (h : m = 0) (h' : n = 0) : bad2 m n = 0 := by rw [bad2, if_pos h, h']
theorem pairW_one {a b x : List En} {n : Int} (h : bad2 (badL a) (badL b) = 0) (hx : giveE a b (lackK a b) = (x, n)) (hn : n ≠ 0) : pairW a b = ([], [], n) := by rw [pairW, if_neg (by simpa using h), hx, if_pos hn]
theorem pairW_two {a b x y : List En} {n : Int} (h : bad2 (badL a) (badL b) = 0) (hx : giveE a b (lackK a b) = (x, 0)) (hy : giveE b a (lackK a b) = (y, n)) (hn : n ≠ 0) : pairW a b = ([], [], n) := by rw [pairW, if_neg (by simpa using h), hx, if_neg (by simp), hy, if_pos hn]
theorem pairW_ok {a b x y : List En} (h : bad2 (badL a) (badL b) = 0) (hx : giveE a b (lackK a b) = (x, 0)) (hy : giveE b a (lackK a b) = (y, 0)) : pairW a b = (x, y, 0) := by rw [pairW, if_neg (by simpa using h), hx, if_neg (by simp), hy, if_neg (by simp)]
/-- what there is where nothing is wrong -/
theorem pairW_fine {a b x y : List En} (h : pairW a b = (x, y, 0)) : badL a = 0 ∧ badL b = 0 ∧ giveE a b (lackK a b) = (x, 0) ∧ giveE b a (lackK a b) = (y, 0) := by
  obtain ⟨n, hn⟩ : ∃ n, bad2 (badL a) (badL b) = n := ⟨_, rfl⟩
  by_cases h0 : n = 0
  · subst h0
    obtain ⟨h1, h2⟩ := bad2_good hn
    obtain ⟨⟨x', m⟩, hx⟩ : ∃ R, giveE a b (lackK a b) = R := ⟨_, rfl⟩
    obtain ⟨⟨y', m'⟩, hy⟩ : ∃ R, giveE b a (lackK a b) = R := ⟨_, rfl⟩
    by_cases hm : m = 0
    · subst hm
      by_cases hm' : m' = 0
      · subst hm'
        rw [pairW_ok hn hx hy] at h
        simp at h
        rw [hx, hy, h.1, h.2]
        exact ⟨h1, h2, rfl, rfl⟩
      · rw [pairW_two hn hx hy hm'] at h
        simp at h
        exact absurd h.2.2 hm'
    · rw [pairW_one hn hx hm] at h
      simp at h
      exact absurd h.2.2 hm
  · rw [pairW_bad hn h0] at h
    simp at h
    exact absurd h.2.2 h0
theorem pairW_fault {a b x y : List En} {n : Int} (h : pairW a b = (x, y, n)) (hn : n ≠ 0) : x = [] ∧ y = [] := by
  unfold pairW at h
  split at h
  · simp at h; exact ⟨h.1, h.2.1⟩
  · split at h
    · simp at h; exact ⟨h.1, h.2.1⟩
    · split at h
      · simp at h; exact ⟨h.1, h.2.1⟩
      · simp at h; exact absurd h.2.2.symm hn

/-- a swap with one that has nothing -/
theorem give_to_none {l : List En} {K : List Int} (h : GoodL l) : giveE [] l K = (someE l K, 0) :=
  merged_allE goodL_nil (someE_good h).rise (someE_good h).all (someE_good h).rise (fun k => show KnownAt none _ _ from by
    cases getE (someE l K) k <;> simp [KnownAt])
theorem give_from_none (l : List En) (K : List Int) : giveE l [] K = (l, 0) := rfl
theorem pair_none {l : List En} (h : badL l = 0) : pairW l [] = (l, someE l (lackK l []), 0) :=
  pairW_ok (bad2_both h rfl) (give_from_none _ _) (give_to_none (badL_good h))
theorem rise_same : ∀ {x y : List Int}, x.Pairwise (· < ·) → y.Pairwise (· < ·) → (∀ k, k ∈ x ↔ k ∈ y) → x = y := by
  intro x
  induction x with
  | nil =>
    intro y _ _ h
    cases y with
    | nil => rfl
    | cons k y => exact absurd ((h k).2 (by simp)) (by simp)
  | cons k x ih =>
    intro y hx hy h
    cases y with
    | nil => exact absurd ((h k).1 (by simp)) (by simp)
    | cons q y =>
      rw [List.pairwise_cons] at hx hy
      have hkq : k = q := by
        have h1 := (h k).1 (by simp)
        have h2 := (h q).2 (by simp)
        rcases List.mem_cons.1 h1 with e | e
        · exact e
        · rcases List.mem_cons.1 h2 with e' | e'
          · exact e'.symm
          · have := hy.1 k e
            have := hx.1 q e'
            omega
      subst hkq
      rw [ih hx.2 hy.2 (fun z => ?_)]
      constructor
      · intro hz
        have h1 := (h z).1 (by simp [hz])
        rcases List.mem_cons.1 h1 with e | e
        · have := hx.1 z hz
          omega
        · exact e
      · intro hz
        have h1 := (h z).2 (by simp [hz])
        rcases List.mem_cons.1 h1 with e | e
        · have := hy.1 z hz
          omega
        · exact e
theorem none_keys {l : List En} (h : badL l = 0) : (someE l (lackK l [])).map (fun e => e.k) = lackK l [] := by
  have hg := badL_good h
  refine rise_same ?_ (part_rise _ _) (fun k => ?_)
  · rw [List.pairwise_map]
    exact (someE_good hg).rise
  · rw [List.mem_map]
    constructor
    · rintro ⟨e, he, rfl⟩
      have := (List.mem_filter.1 he).2
      simpa using this
    · intro hk
      obtain ⟨q, rfl, _, hu⟩ := lackK_mem hk
      cases hg' : getE l (q : Int) with
      | none =>
        refine absurd ?_ hu
        rw [leafN_none hg', leafN_none rfl]
      | some x =>
        obtain ⟨hm, hx⟩ := (getE_iff hg.rise).1 hg'
        refine ⟨x, List.mem_filter.2 ⟨hm, ?_⟩, hx⟩
        rw [hx]
        simpa using hk
theorem none_len {l : List En} (h : badL l = 0) : (lackK l []).length = (someE l (lackK l [])).length := by
  have e := congrArg List.length (none_keys h)
  rw [List.length_map] at e
  exact e.symm
end Go.Proofs.YtippdgmgmenboagDoor

namespace Go.Proofs.YtippdgmgmenboagDoor
set_option linter.unusedVariables false
set_option linter.unusedSimpArgs false
open Go.RowKit

theorem isKeyS_c (k : Int) (w : World) : Calls Tryd.prog 42 #[.int .i64 k] w fun e w' => e = .returned (.bool (isKeyB k)) ∧ w' = w := by
  by_cases h : 0 ≤ k
  · have hd : decide (0 ≤ k) = true := by simpa using h
    go_enter Tryd.func42, Tryd.ntmps42
    go_wp2
    go_ret
    exact ⟨by simp [isKeyB, h], rfl⟩
  · have hd : decide (0 ≤ k) = false := by simpa using h
    go_enter Tryd.func42, Tryd.ntmps42
    go_wp2
    go_ret
    refine ⟨?_, rfl⟩
    have h' : ¬ 0 ≤ k := by omega
    simp [isKeyB, h']
theorem isKeyS_b (k : Int) (b : Bool) (w : World) (hb : isKeyB k = b) : Calls Tryd.prog 42 #[.int .i64 k] w fun e w' => e = .returned (.bool b) ∧ w' = w := by
  subst hb
  exact isKeyS_c k w

set_option maxHeartbeats 4000000 in
theorem checkKeys_c (v : Value) (l : List Int) (w : World) (hr : IntsIs w v l) (hcap : CapOk v l.length) :
    Calls Tryd.prog 28 #[v] w fun e w' => e = .returned (eV (badK l)) ∧ w' = w := by
  obtain ⟨p, cap, rfl, hc1, hc2⟩ := hcap
  have HRow : Hid (IntsIs w (.slice p l.length cap) l) := hr
  obtain ⟨_, q, c, e, hrow⟩ := hr
  injection e with e1 e2 e3
  subst e1
  have HR : Hid (l ≠ [] → ∃ bb o, p = some ⟨bb, o, none⟩ ∧ bb < w.heap.size ∧ ∀ j (h : j < l.length), w.cell? ⟨bb, o + j, none⟩ = some (.int .i64 l[j])) := hrow
  clear hrow e2 e3
  by_cases h8 : 8 < l.length
  · rw [badK_full h8, eV_err (by omega)]
    have hi8 : (8 : Int) < (l.length : Int) := by omega
    clear HR HRow
    generalize l.length = n at *
    go_enter Tryd.func28, Tryd.ntmps28
    go_wp2_with fail
    go_ret
    exact ⟨rfl, rfl⟩
  rw [badK_else h8]
  obtain ⟨R, HE⟩ : ∃ R, Hid (badKF (l.take 0) (l.drop 0) = R) := ⟨_, rfl⟩
  rw [HE.out]
  have hi8 : ¬ (8 : Int) < (l.length : Int) := by omega
  obtain ⟨n, HN⟩ : ∃ n, Hid (l.length = n) := ⟨_, rfl⟩
  rw [HN.out] at hc1 h8 hi8 HRow ⊢
  have hc63 : cap ≤ 9223372036854775807 := hc2
  go_enter Tryd.func28, Tryd.ntmps28
  go_wp2_with fail
  go_loopw [11] (fun i wr => ∃ j : Nat, j ≤ n ∧ i = .int .i64 j ∧ Hid (badKF (l.take j) (l.drop j) = R) ∧ wr = w) (fun i _ => n - (intOf i).toNat)
  case atStart => exact ⟨0, Nat.zero_le _, rfl, HE, rfl⟩
  case round =>
    obtain ⟨j, hj, rfl, HJ, rfl⟩ := hrel
    by_cases hlt : j < n
    · have hja : j < l.length := by rw [HN.out]; exact hlt
      obtain ⟨ba, oa, hp, hbwa, hata⟩ := HR.out (fun h => by simp [h] at hja)
      have c0 := hata j hja
      clear hata
      subst hp
      have HRow' : Hid (IntsIs wr (.slice (some ⟨ba, oa, none⟩) l.length cap) l) := by rw [HN.out]; exact HRow
      have hlti : (j : Int) < (n : Int) := by omega
      cases hin : isKeyB l[j]
      · have HRv : Hid (R = 1) := HJ.out.symm.trans (badKF_range hja hin)
        have HIn : Hid (isKeyB l[j] = false) := hin
        clear hin
        generalize l[j] = x at *
        go_wp2_with (go_at_call 42; refine (isKeyS_b x false _ HIn.out).mono ?_; rintro e w' ⟨rfl, rfl⟩)
        go_ret
        refine ⟨?_, rfl⟩
        rw [HRv.out, eV_err (by omega)]
        rfl
      · have HIn : Hid (isKeyB l[j] = true) := hin
        cases hco : (l.take j).contains l[j]
        · have HRv : Hid (badKF (l.take (j + 1)) (l.drop (j + 1)) = R) := (badKF_next hja hin hco).symm.trans HJ.out
          have HCo : Hid ((l.take j).contains l[j] = false) := hco
          clear hin hco
          generalize l[j] = x at *
          go_wp2_with fail
          refine (isKeyS_b x true _ HIn.out).mono ?_
          rintro e w' ⟨rfl, rfl⟩
          go_wp2_with fail
          refine (containsI_c _ (l.take j) x false _ (IntsIs.take HRow'.out (by rw [HN.out]; exact hj) (fun _ => rfl)) HCo.out).mono ?_
          rintro e w2 ⟨rfl, rfl⟩
          go_wp2_with fail
          go_roundw
          case rel => exact ⟨j + 1, by omega, by go_num, HRv, trivial⟩
          case measure => simp [intOf]; omega
        · have HRv : Hid (R = 7) := HJ.out.symm.trans (badKF_clash hja hin hco)
          have HCo : Hid ((l.take j).contains l[j] = true) := hco
          clear hin hco
          generalize l[j] = x at *
          go_wp2_with fail
          refine (isKeyS_b x true _ HIn.out).mono ?_
          rintro e w' ⟨rfl, rfl⟩
          go_wp2_with fail
          refine (containsI_c _ (l.take j) x true _ (IntsIs.take HRow'.out (by rw [HN.out]; exact hj) (fun _ => rfl)) HCo.out).mono ?_
          rintro e w2 ⟨rfl, rfl⟩
          go_wp2_with fail
          go_ret
          refine ⟨?_, rfl⟩
          rw [HRv.out, eV_err (by omega)]
          rfl
    · obtain rfl : j = n := by omega
      have HR0 : Hid (R = 0) := by
        show R = 0
        rw [← HJ.out, ← HN.out]
        exact badKF_end l
      go_wp2_with fail
      go_ret
      exact ⟨by rw [HR0.out, eV_zero]; rfl, rfl⟩
theorem checkKeys_o {v : Value} {l : List Int} {w : World} {n : Int} (hr : IntsIs w v l) (hcap : CapOk v l.length) (h : badK l = n) :
    Calls Tryd.prog 28 #[v] w fun e w' => e = .returned (eV n) ∧ w' = w := by
  subst h
  exact checkKeys_c v l w hr hcap
theorem checkKeys_ok {v : Value} {l : List Int} {w : World} (hr : IntsIs w v l) (hcap : CapOk v l.length) (h : badK l = 0) :
    Calls Tryd.prog 28 #[v] w fun e w' => e = .returned .nilIface ∧ w' = w := checkKeys_o hr hcap h
theorem checkKeys_err {v : Value} {l : List Int} {w : World} {n : Int} (hr : IntsIs w v l) (hcap : CapOk v l.length) (h : badK l = n) (hn : n ≠ 0) :
    Calls Tryd.prog 28 #[v] w fun e w' => e = .returned (.iface 55 (.int .i64 n)) ∧ w' = w := by
  have c := checkKeys_o hr hcap h
  rw [eV_err hn] at c
  exact c

/-- entries and an error come back -/
def GiveIs (w : World) (L : List En) (n : Int) (e : Ending) (w' : World) : Prop := ∃ v', e = .returned (.tuple #[v', eV n]) ∧ RowIs w' v' L ∧ Below w.heap.size w w'
set_option maxHeartbeats 8000000 in
theorem give_ok (v vk : Value) (l : List En) (K : List Int) (w : World) (hr : RowIs w v l) (hk : IntsIs w vk K) (hcap : CapOk vk K.length) (hl : badL l = 0) (hK : badK K = 0) :
    Calls Tryd.prog 18 #[v, vk] w (GiveIs w (someE l K) 0) := by
  have HR : Hid (RowIs w v l) := hr
  have HK : Hid (IntsIs w vk K) := hk
  have HC : Hid (CapOk vk K.length) := hcap
  have HL0 : Hid (badL l = 0) := hl
  have HK0 : Hid (badK K = 0) := hK
  have HG : Hid (GoodL l) := badL_good hl
  have HS : Hid (someE l K = someE (l.take l.length) K) := by show _ = _; rw [List.take_length]
  rw [HS.out]
  clear hk hcap hl hK HS
  obtain ⟨hlen, p, cap, rfl, hrow⟩ := hr
  have HRow : Hid (l ≠ [] → ∃ b o, p = some ⟨b, o, none⟩ ∧ b < w.heap.size ∧ ∀ j (h : j < l.length), EnAt w b (o + j * 5) l[j]) := hrow
  clear hrow
  obtain ⟨n, HN⟩ : ∃ n, Hid (l.length = n) := ⟨_, rfl⟩
  rw [HN.out] at hlen HR ⊢
  have hn63 : n ≤ 9223372036854775807 := hlen
  go_enter Tryd.func18, Tryd.ntmps18
  go_wp2_with fail
  refine (cacheCheck_ok HR.out HL0.out).mono ?_
  rintro e w1 ⟨rfl, hb⟩
  have B1 : Hid (Below w.heap.size w w1) := hb
  clear hb
  go_wp2_with fail
  refine (checkKeys_ok (HK.out.below B1.out) HC.out HK0.out).mono ?_
  rintro e w2 ⟨rfl, hw⟩
  have B2 : Hid (Below w.heap.size w w2) := by rw [hw]; exact B1
  clear hw B1
  go_wp2_with fail
  go_loopw [8, 23] (fun s6 s22 wr => ∃ (j : Nat) (v6 : Value), s6 = v6 ∧ j ≤ n ∧ s22 = .int .i64 j ∧ Hid (wr.ownsRow w.heap.size 46 5 v6 (someE (l.take j) K).length (rowC (someE (l.take j) K))) ∧ Hid (Below w.heap.size w wr)) (fun _ i _ => n - (intOf i).toNat)
  case atStart => exact ⟨0, .slice none 0 0, rfl, Nat.zero_le _, rfl, World.ownsRow_nil _ _ _ _, B2⟩
  case round =>
    obtain ⟨j, v6, hs6, hj, rfl, HO, HB⟩ := hrel
    have hs6' := hs6.symm
    clear hs6
    subst hs6'
    by_cases hlt : j < n
    · have hjl : j < l.length := by rw [HN.out]; exact hlt
      obtain ⟨b, o, rfl, hbw, hat⟩ := HRow.out (fun h => by simp [h] at hjl)
      have HAt : Hid (EnAt wr b (o + j * 5) l[j]) := (hat j hjl).of_block (HB.out.block b hbw)
      clear hat
      have hlti : (j : Int) < (n : Int) := by omega
      have hws := HB.out.size
      have HY : Hid (K.contains l[j].k = true → someE (l.take (j + 1)) K = someE (l.take j) K ++ [l[j]]) := fun ha => someE_yes hjl ha
      have HNo : Hid (K.contains l[j].k = false → someE (l.take (j + 1)) K = someE (l.take j) K) := fun ha => someE_no hjl ha
      have HL8 : Hid ((someE (l.take j) K).length ≤ 100) := Nat.le_trans (someE_len _ _) (Nat.le_trans (List.length_take_le _ _) (Nat.le_trans hj (Nat.le_trans (by rw [← HN.out]; exact HG.out.len) (by omega))))
      obtain ⟨x, HX⟩ : ∃ x, Hid (l[j] = x) := ⟨l[j], show l[j] = l[j] from rfl⟩
      rw [HX.out] at HAt HY HNo
      obtain ⟨x0, x1, x2, x3, x4⟩ := x
      obtain ⟨c0, c1, c2, c3, c4⟩ := HAt.out
      dsimp only at c0 c1 c2 c3 c4
      obtain ⟨xs, HXs⟩ : ∃ xs, Hid (someE (l.take j) K = xs) := ⟨_, rfl⟩
      rw [HXs.out] at HO HY HNo HL8
      clear HXs HX
      obtain ⟨w3, HW3⟩ : ∃ x, x = wr.alloc (.cells #[.int .i64 x0, .int .i64 x1, .int .i64 x2, .bool x3, .string x4] 46) := ⟨_, rfl⟩
      have B3 : Hid (Below w.heap.size w w3) := by
        rw [HW3]
        exact HB.out.alloc hws _
      have O3 : Hid (w3.ownsRow w.heap.size 46 5 v6 xs.length (rowC xs)) := by
        rw [HW3]
        exact HO.out.alloc _
      have X3 : Hid (BoxAt w3 wr.heap.size x0 x1 x2 x3 x4) := by
        rw [HW3]
        exact box_new wr x0 x1 x2 x3 x4 _ rfl
      cases hc : K.contains x0
      · have HC0 : Hid (K.contains x0 = false) := hc
        have HE : Hid (someE (l.take (j + 1)) K = xs) := HNo.out hc
        clear hc HY HNo
        go_wp2_with fail
        refine (containsI_c vk K x0 false _ (HK.out.below (by rw [← HW3]; exact B3.out)) HC0.out).mono ?_
        rintro e w4 ⟨rfl, hw⟩
        have B4 : Hid (Below w.heap.size w w4) := by rw [hw, ← HW3]; exact B3
        have O4 : Hid (w4.ownsRow w.heap.size 46 5 v6 xs.length (rowC xs)) := by rw [hw, ← HW3]; exact O3
        clear hw HW3 B3 O3 X3 c0 c1 c2 c3 c4
        go_wp2_with fail
        go_roundw
        case rel =>
          refine ⟨j + 1, v6, rfl, by omega, by go_num, ?_, B4⟩
          show World.ownsRow _ _ _ _ _ _ _
          rw [HE.out]
          exact O4.out
        case measure => simp [intOf]; omega
      · have HC0 : Hid (K.contains x0 = true) := hc
        have HE : Hid (someE (l.take (j + 1)) K = xs ++ [En.mk x0 x1 x2 x3 x4]) := HY.out hc
        clear hc HY HNo
        go_wp2_with fail
        refine (containsI_c vk K x0 true _ (HK.out.below (by rw [← HW3]; exact B3.out)) HC0.out).mono ?_
        rintro e w4 ⟨rfl, hw⟩
        obtain ⟨eb, HEb⟩ : ∃ eb, Hid (wr.heap.size = eb) := ⟨_, rfl⟩
        rw [HEb.out] at X3 ⊢
        have B4 : Hid (Below w.heap.size w w4) := by rw [hw, ← HW3]; exact B3
        have O4 : Hid (w4.ownsRow w.heap.size 46 5 v6 xs.length (rowC xs)) := by rw [hw, ← HW3]; exact O3
        have X4 : Hid (BoxAt w4 eb x0 x1 x2 x3 x4) := by rw [hw, ← HW3]; exact X3
        clear hw HW3 B3 O3 X3 c0 c1 c2 c3 c4 HEb
        have hws4 := B4.out.size
        obtain ⟨c0, c1, c2, c3, c4, cf⟩ := X4.out
        have HBa : Hid (Below w.heap.size w (w4.alloc (.cells #[.int .i64 x0, .int .i64 x1, .int .i64 x2, .bool x3, .string x4] 46))) := B4.out.alloc hws4 _
        have HOa : Hid ((w4.alloc (.cells #[.int .i64 x0, .int .i64 x1, .int .i64 x2, .bool x3, .string x4] 46)).ownsRow w.heap.size 46 5 v6 xs.length (rowC xs)) := O4.out.alloc _
        have HVa : Hid ((w4.alloc (.cells #[.int .i64 x0, .int .i64 x1, .int .i64 x2, .bool x3, .string x4] 46)).heap[w4.heap.size]? = some (.cells (En.cells (En.mk x0 x1 x2 x3 x4)).toArray 46 (0, 0))) := alloc_at _ _ _ rfl
        have HSa : Hid (w.heap.size ≤ (w4.alloc (.cells #[.int .i64 x0, .int .i64 x1, .int .i64 x2, .bool x3, .string x4] 46)).heap.size) := show _ ≤ _ from (by simp; omega)
        go_wp2_with (at_builtin; refine wp_app _ rfl _ _ rfl w.heap.size _ xs (En.mk x0 x1 x2 x3 x4) rfl HOa.out _ rfl HVa.out HL8.out HSa.out ?_)
        intro va wa hown hgrow
        have HOp : Hid (wa.ownsRow w.heap.size 46 5 va (xs ++ [En.mk x0 x1 x2 x3 x4]).length (rowC (xs ++ [En.mk x0 x1 x2 x3 x4]))) := hown
        have HBp : Hid (Below w.heap.size w wa) := below_grownF (HBa.out) (Nat.le_refl _) hgrow.out (fun c hc => ownsRow_fromF O4.out c hc)
        clear hown hgrow HOa HVa HL8 HSa HBa
        clear c0 c1 c2 c3 c4 cf X4
        go_wp2_with fail
        go_roundw
        case rel =>
          refine ⟨j + 1, va, rfl, by omega, by go_num, ?_, HBp⟩
          show World.ownsRow _ _ _ _ _ _ _
          rw [HE.out]
          exact HOp.out
        case measure => simp [intOf]; omega
    · obtain rfl : j = n := by omega
      go_wp2_with fail
      go_ret2
      exact ⟨v6, rfl, RowIs.own HO.out, HB.out⟩
theorem give_one (v vk : Value) (l : List En) (n : Int) (w : World) (hr : RowIs w v l) (hl : badL l = n) (hn : n ≠ 0) :
    Calls Tryd.prog 18 #[v, vk] w (GiveIs w [] n) := by
  have HR : Hid (RowIs w v l) := hr
  have HL : Hid (badL l = n) := hl
  clear hr hl
  go_enter Tryd.func18, Tryd.ntmps18
  go_wp2_with fail
  refine (cacheCheck_err HR.out HL.out hn).mono ?_
  rintro e w1 ⟨rfl, hb⟩
  have B1 : Hid (Below w.heap.size w w1) := hb
  clear hb
  go_wp2_with fail
  go_ret2
  refine ⟨.slice none 0 0, ?_, RowIs.nil _, B1.out⟩
  rw [eV_err hn]
  rfl
theorem give_two (v vk : Value) (l : List En) (K : List Int) (n : Int) (w : World) (hr : RowIs w v l) (hk : IntsIs w vk K) (hcap : CapOk vk K.length) (hl : badL l = 0) (hK : badK K = n) (hn : n ≠ 0) :
    Calls Tryd.prog 18 #[v, vk] w (GiveIs w [] n) := by
  have HR : Hid (RowIs w v l) := hr
  have HL : Hid (badL l = 0) := hl
  have HKi : Hid (IntsIs w vk K) := hk
  have HC : Hid (CapOk vk K.length) := hcap
  have HK : Hid (badK K = n) := hK
  clear hr hl hk hcap hK
  go_enter Tryd.func18, Tryd.ntmps18
  go_wp2_with fail
  refine (cacheCheck_ok HR.out HL.out).mono ?_
  rintro e w1 ⟨rfl, hb⟩
  have B1 : Hid (Below w.heap.size w w1) := hb
  clear hb
  go_wp2_with fail
  refine (checkKeys_err (HKi.out.below B1.out) HC.out HK.out hn).mono ?_
  rintro e w2 ⟨rfl, hw⟩
  have B2 : Hid (Below w.heap.size w w2) := by rw [hw]; exact B1
  clear hw B1
  go_wp2_with fail
  go_ret2
  refine ⟨.slice none 0 0, ?_, RowIs.nil _, B2.out⟩
  rw [eV_err hn]
  rfl
theorem give_c (v vk : Value) (l : List En) (K : List Int) (w : World) (hr : RowIs w v l) (hk : IntsIs w vk K) (hcap : CapOk vk K.length) :
    Calls Tryd.prog 18 #[v, vk] w (GiveIs w (giveW l K).1 (giveW l K).2) := by
  by_cases h : badL l = 0
  · by_cases hK : badK K = 0
    · rw [giveW_ok h hK]
      exact give_ok v vk l K w hr hk hcap h hK
    · rw [giveW_two h rfl hK]
      exact give_two v vk l K _ w hr hk hcap h rfl hK
  · rw [giveW_one rfl h]
    exact give_one v vk l _ w hr rfl h
end Go.Proofs.YtippdgmgmenboagDoor
