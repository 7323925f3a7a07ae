/-
  Package view by its contracts: put.
-/
import Derived.Test.YtpelbmhhppcmeaeVwF
import Derived.Test.YtpelbmhhppcmeaeVwG
import Derived.Deep.RegionWith
namespace Go.Proofs.Ytpelbmhhppcmeae
set_option linter.unusedVariables false
set_option linter.unusedSimpArgs false
open Go.RowKit Go.Lib

set_option maxHeartbeats 4000000 in
theorem put_none (B : Nat) (v : Value) (l : List Mm) (k f s : Int) (w : World) (ho : w.ownsRow B 28 3 v l.length (rowM l)) (hB : B ≤ w.heap.size) (hg : GoodV l) (hk : getM l k = none) :
    Calls Try.prog 12 #[v, .agg #[.int .i64 k, .int .i64 f, .int .i64 s]] w fun e w' => ∃ v', e = .returned (.tuple #[v', .bool true]) ∧ w'.ownsRow B 28 3 v' (l.take (placeM l k) ++ ⟨k, f, s⟩ :: l.drop (placeM l k)).length (rowM (l.take (placeM l k) ++ ⟨k, f, s⟩ :: l.drop (placeM l k))) ∧ w.grownBy w' v.ownBlock := by
  have HO : Hid (w.ownsRow B 28 3 v l.length (rowM l)) := ho
  have HG : Hid (GoodV l) := hg
  have HK : Hid (getM l k = none) := hk
  have HL : Hid (∀ g, v.ownBlock = some g → g < w.heap.size) := ownsRow_lt ho
  have HB0 : Hid (Below w.heap.size w (w.alloc (.cells #[.int .i64 k, .int .i64 f, .int .i64 s] 28))) := by show Below _ _ _; go_grown
  have hpl := placeM_le l k
  have HPl : Hid _ := hpl
  obtain ⟨m, HM⟩ : ∃ m, Hid (placeM l k = m) := ⟨_, rfl⟩
  clear ho hg hk hpl
  rw [HM.out]
  go_enter Try.func12, Try.ntmps12
  go_wp2_with fail
  refine (place_c v l k _ (MmsIs.own (ownsRow_below HO.out HB0.out)) HG.out).mono ?_
  rintro e w1 ⟨rfl, hb⟩
  rw [HK.out, HM.out]
  have B1 : Hid (Below w.heap.size w w1) := HB0.out.trans (hb.mono (by simp))
  obtain ⟨a0, a1, a2, af⟩ := (boxM_new w k f s w.heap.size rfl).below hb (by simp)
  clear hb
  go_wp2_with fail
  have B2 : Hid (Below w.heap.size w (w1.alloc (.cells #[.int .i64 k, .int .i64 f, .int .i64 s] 28))) := B1.out.alloc B1.out.size _
  refine (insert_c B v m l ⟨k, f, s⟩ w1.heap.size _ (ownsRow_below HO.out B2.out) (by have := B2.out.size; omega) (by rw [← HM.out]; exact HPl.out) (by have := good_len HG.out; omega) (fun h => by have := HL.out _ h; have := B1.out.size; omega) (alloc_at _ _ _ rfl)).mono ?_
  rintro e w3 ⟨v', rfl, hown, hgrow⟩
  have HOw : Hid _ := hown
  have HGr : Hid _ := hgrow
  clear hown hgrow
  go_wp2_with fail
  go_ret2
  exact ⟨v', rfl, HOw.out, grownBy_after B2.out HGr.out⟩
theorem set_cells {w : World} {g m : Nat} {l : List Mm} {x : Mm} (hm : m < l.length) (h1 : ∀ j, (j < m * 3 ∨ m * 3 + 3 ≤ j) → ∀ u, (rowM l)[j]? = some u → w.cell? ⟨g, j, none⟩ = some u)
    (h2 : ∀ j u, x.cells[j]? = some u → w.cell? ⟨g, m * 3 + j, none⟩ = some u) : ∀ j u, (rowM (l.set m x))[j]? = some u → w.cell? ⟨g, j, none⟩ = some u := by
  have e : l.set m x = l.take m ++ x :: l.drop (m + 1) := List.set_eq_take_append_cons_drop.trans (if_pos hm)
  have e2 : rowM (l.set m x) = (rowM l).take (m * 3) ++ (x.cells ++ (rowM l).drop ((m + 1) * 3)) := by rw [e, rowM_append, rowM_take, rowM, rowM_drop]
  intro j u hu
  rw [e2] at hu
  have ht : ((rowM l).take (m * 3)).length = m * 3 := by rw [List.length_take, rowM_length]; omega
  rcases Nat.lt_or_ge j (m * 3) with hj | hj
  · rw [List.getElem?_append_left (by omega), List.getElem?_take, if_pos hj] at hu
    exact h1 j (.inl hj) u hu
  · rw [List.getElem?_append_right (by omega), ht] at hu
    rcases Nat.lt_or_ge (j - m * 3) 3 with h | h
    · rw [List.getElem?_append_left (by rw [Mm.cells_length]; exact h)] at hu
      have := h2 _ _ hu
      rwa [show m * 3 + (j - m * 3) = j by omega] at this
    · rw [List.getElem?_append_right (by rw [Mm.cells_length]; exact h), Mm.cells_length, List.getElem?_drop] at hu
      rw [show (m + 1) * 3 + (j - m * 3 - 3) = j by omega] at hu
      exact h1 j (.inr (by omega)) u hu
/-- a row of which one member was written -/
theorem ownsRow_set {w W : World} {B m : Nat} {g cap : Nat} {l : List Mm} {x : Mm} (ho : w.ownsRow B 28 3 (.slice (some ⟨g, 0, none⟩) l.length cap) l.length (rowM l)) (hm : m < l.length) (hW : W.heap = (w.setCells g (m * 3) x.cells).heap) :
    W.ownsRow B 28 3 (.slice (some ⟨g, 0, none⟩) l.length cap) (l.set m x).length (rowM (l.set m x)) := by
  have hx : ∀ j u, (rowM l)[j]? = some u → w.cell? ⟨g, j, none⟩ = some u := fun j u hu => by
    have := ho.cells (g := g) rfl j u hu
    simpa [Addr.add_lit] using this
  rcases ho.2 with ⟨h, _⟩ | ⟨g', cap', cur, h, h1, hg, hc1, hc2, hs, _⟩
  · cases h
  · simp at h
    obtain ⟨rfl, rfl⟩ := h
    obtain ⟨cur', hg', hs'⟩ := setCells_block g 28 x.cells (m * 3) w cur hg
    rw [List.length_set]
    have hcW : ∀ a, W.cell? a = (w.setCells g (m * 3) x.cells).cell? a := fun a => World.cell?_of_block (by rw [hW])
    refine ownsRow_of h1 (by rw [hW]; exact hg') hc1 hc2 (by omega) (by rw [rowM_length, List.length_set]) (set_cells hm ?_ ?_)
    · intro j hj u hu
      rw [hcW, World.cell?_setCells_out g _ _ w _ (fun _ _ => hj)]
      exact hx j u hu
    · intro j u hu
      obtain ⟨hj, rfl⟩ := List.getElem?_eq_some_iff.1 hu
      rw [hcW]
      exact World.cell?_setCells_in g _ _ w (fun j hj => by rw [cell_of_row w g _ cur _ (0, 0) hg, Array.getElem?_eq_getElem (by rw [Mm.cells_length] at hj; omega)]; rfl) j hj
/-- an own row that has something, opened at a place -/
theorem own_at {w : World} {B : Nat} {v : Value} {l : List Mm} {m : Nat} {x : Mm} (ho : w.ownsRow B 28 3 v l.length (rowM l)) (hm : m < l.length) (hx : l[m] = x) :
    ∃ G cap, v = .slice (some ⟨G, 0, none⟩) l.length cap ∧ B ≤ G ∧ G < w.heap.size ∧ MmAt w G (m * 3) x ∧ ∀ j, w.frozen? ⟨G, j, none⟩ = false := by
  obtain ⟨G, cap, rfl, hBG, hGw⟩ := ho.form (by omega)
  refine ⟨G, cap, rfl, hBG, hGw, ?_, fun j => ?_⟩
  · obtain ⟨_, p, c, hp, hr⟩ := MmsIs.own ho
    simp at hp
    obtain ⟨rfl, rfl⟩ := hp
    obtain ⟨b, o, hbo, _, hat⟩ := hr (fun h => by simp [h] at hm)
    simp at hbo
    obtain ⟨rfl, rfl⟩ := hbo
    have := hat _ hm
    rw [hx, Nat.zero_add] at this
    exact this
  · rcases ho.2 with ⟨h, _⟩ | ⟨g', cap', cur, h, h1, hg, _⟩
    · cases h
    · simp at h
      rw [h.1]
      simp [World.frozen?, hg]
set_option maxHeartbeats 4000000 in
theorem put_some (B : Nat) (v : Value) (l : List Mm) (k f s : Int) (x : Mm) (q : Bool) (w : World) (ho : w.ownsRow B 28 3 v l.length (rowM l)) (hg : GoodV l) (hk : getM l k = some x) (hq : nwB ⟨k, f, s⟩ x = q) :
    Calls Try.prog 12 #[v, .agg #[.int .i64 k, .int .i64 f, .int .i64 s]] w fun e w' => e = .returned (.tuple #[v, .bool q]) ∧ (q = true → OwnM B w' v (l.set (placeM l k) ⟨k, f, s⟩)) ∧ (q = false → Below w.heap.size w w') ∧ w.grownBy w' v.ownBlock := by
  have HO : Hid (w.ownsRow B 28 3 v l.length (rowM l)) := ho
  have HG : Hid (GoodV l) := hg
  have HK : Hid (getM l k = some x) := hk
  obtain ⟨hm, hx, hxk⟩ := getM_some hg.1 hk
  clear hxk
  obtain ⟨G, cap, rfl, hBG, hGw, hat, hfz⟩ := own_at ho hm hx
  have HAt : Hid (MmAt w G (placeM l k * 3) x) := hat
  have HFz : Hid (∀ j, w.frozen? ⟨G, j, none⟩ = false) := hfz
  clear hat hfz
  have HB0 : Hid (Below w.heap.size w (w.alloc (.cells #[.int .i64 k, .int .i64 f, .int .i64 s] 28))) := by show Below _ _ _; go_grown
  obtain ⟨m, HM⟩ : ∃ m, Hid (placeM l k = m) := ⟨_, rfl⟩
  rw [HM.out] at hm HAt ⊢
  obtain ⟨N, HN⟩ : ∃ N, Hid (l.length = N) := ⟨_, rfl⟩
  have HSet : Hid (∀ (W0 W : World) (J : Mm), Below w.heap.size w W0 → W.heap = (W0.setCells G (m * 3) J.cells).heap → W.ownsRow B 28 3 (.slice (some ⟨G, 0, none⟩) N cap) (l.set m J).length (rowM (l.set m J))) := fun W0 W J h0 hW => by
    rw [← HN.out]
    exact ownsRow_set (ownsRow_below HO.out h0) hm hW
  have HPl : Hid (∀ W, Below w.heap.size w W → Calls Try.prog 14 #[.slice (some ⟨G, 0, none⟩) N cap, .int .i64 k] W fun e w' => e = .returned (.tuple #[.int .i64 m, .bool true]) ∧ Below W.heap.size W w') := fun W hW => by
    have c := place_c _ l k W (MmsIs.own (ownsRow_below HO.out hW)) HG.out
    rw [HK.out, HM.out, HN.out] at c
    exact c
  obtain ⟨x0, x1, x2⟩ := x
  have HQ : Hid (nwB ⟨k, f, s⟩ ⟨x0, x1, x2⟩ = q) := hq
  rw [HN.out]
  rw [HN.out] at hm
  have hm1 : (m : Int) < (N : Int) := by omega
  clear ho hg hk hx hq HO
  go_enter Try.func12, Try.ntmps12
  go_wp2_with fail
  refine Calls.mono (HPl.out _ HB0.out) ?_
  rintro e w1 ⟨rfl, hb⟩
  have B1 : Hid (Below w.heap.size w w1) := HB0.out.trans (hb.mono (by simp))
  have HE1 : Hid (BoxM w1 w.heap.size k f s) := (boxM_new w k f s w.heap.size rfl).below hb (by simp)
  obtain ⟨a0, a1, a2, af⟩ := HE1.out
  have HA1 : Hid (MmAt w1 G (m * 3) ⟨x0, x1, x2⟩) := HAt.out.of_block (B1.out.block G hGw)
  obtain ⟨c0, c1, c2⟩ := HA1.out
  dsimp only at c0 c1 c2
  have hsz := hb.size
  have hEw1 : w.heap.size < w1.heap.size := by simp at hsz; omega
  clear hb hsz
  go_upto_region 4 with fail
  go_cut [28] (fun v28 wc => ∃ nq : Bool, v28 = .bool nq ∧ Hid (nq = !q) ∧ Hid (Below w1.heap.size w1 wc))
  case first =>
    go_region_with (go_at_call 9; refine (isNewer_g _ _ _ _ _ _ q _ HQ.out).mono ?_; rintro e w7 ⟨rfl, hb7⟩; have HB7 : Hid (Below w1.heap.size w1 w7) := below_undrew hb7; clear hb7)
    all_goals go_wp2_with fail
    all_goals go_meet
    all_goals exact ⟨_, rfl, rfl, HB7⟩
  case rest =>
    obtain ⟨w2, h⟩ : ∃ x, x = wc := ⟨_, rfl⟩
    subst h
    obtain ⟨nq, rfl, HNq, HB2⟩ := hcut
    have B2 : Hid (Below w.heap.size w w2) := B1.out.trans (HB2.out.mono B1.out.size)
    have HE2 : Hid (BoxM w2 w.heap.size k f s) := HE1.out.below HB2.out HE1.out.lt
    have HA2 : Hid (MmAt w2 G (m * 3) ⟨x0, x1, x2⟩) := HAt.out.of_block (B2.out.block G hGw)
    clear a0 a1 a2 af c0 c1 c2 HB2
    rw [HNq.out]
    cases q
    · go_wp2_with fail
      go_ret2
      exact ⟨rfl, B2.out, grownBy_of_below B2.out⟩
    · obtain ⟨a0, a1, a2, af⟩ := HE2.out
      obtain ⟨c0, c1, c2⟩ := HA2.out
      dsimp only at c0 c1 c2
      have fz : ∀ j, w2.frozen? ⟨G, j, none⟩ = false := fun j => (World.frozen?_of_block (a := ⟨G, j, none⟩) (B2.out.block G hGw)).trans (HFz.out j)
      have p3 : ¬ G = w.heap.size := by omega
      go_wp2_with fail
      go_ret2
      refine ⟨rfl, HSet.out w2 _ ⟨k, f, s⟩ B2.out rfl, ?_⟩
      refine grownBy_after B2.out ⟨rfl, rfl, rfl, by simp, fun c hc hne => ?_⟩
      have hcG : c ≠ G := fun h => hne (by rw [h]; rfl)
      rw [Below.heap_setCell _ _ _ c hcG, Below.heap_setCell _ _ _ c hcG, Below.heap_setCell _ _ _ c hcG]
theorem put_o {l : List Mm} {k f s : Int} {R1 : List Mm} {R2 : Bool} (h1 : addM ⟨k, f, s⟩ l = R1) (h2 : isM ⟨k, f, s⟩ l = R2) (B : Nat) (v : Value) (w : World) (ho : OwnM B w v l) (hB : B ≤ w.heap.size) (hg : GoodV l) :
    Calls Try.prog 12 #[v, .agg #[.int .i64 k, .int .i64 f, .int .i64 s]] w fun e w' => ∃ v', e = .returned (.tuple #[v', .bool R2]) ∧ OwnM B w' v' R1 ∧ w.grownBy w' v.ownBlock := by
  subst h1 h2
  cases hk : getM l k with
  | none =>
    rw [addM_none hg.1 (m := ⟨k, f, s⟩) hk, isM_none (m := ⟨k, f, s⟩) hk]
    exact put_none B v l k f s w ho hB hg hk
  | some x =>
    refine (put_some B v l k f s x _ w ho hg hk rfl).mono ?_
    rintro e w' ⟨rfl, h1, h2, h3⟩
    rw [isM_some (m := ⟨k, f, s⟩) hk]
    refine ⟨v, rfl, ?_, h3⟩
    cases hq : nwB ⟨k, f, s⟩ x
    · rw [addM_self hg.1 (by rw [isM_some (m := ⟨k, f, s⟩) hk, hq])]
      exact OwnM.below ho (h2 hq)
    · rw [addM_some hg.1 (m := ⟨k, f, s⟩) hk hq]
      exact h1 hq
end Go.Proofs.Ytpelbmhhppcmeae
