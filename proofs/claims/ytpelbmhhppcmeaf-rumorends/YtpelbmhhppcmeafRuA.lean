/-
  Package rumor by its contracts: Add.
-/
import Derived.Test.YtpelbmhhppcmeafRuF
import Derived.Test.YtpelbmhhppcmeafRuG
import Derived.Deep.RegionWith
namespace Go.Proofs.Ytpelbmhhppcmeaf
set_option linter.unusedVariables false
set_option linter.unusedSimpArgs false
open Go.RowKit Go.Lib

/-- what Add answers -/
def addR (l : List Ru) (m : Mm) : List Ru × Bool × Int := if badR l ≠ 0 then ([], false, badR l) else if m.ok = false then ([], false, 1) else (hearU m l, isU m l, 0)
theorem setR_cells {w : World} {g m : Nat} {l : List Ru} {x : Ru} (hm : m < l.length) (h1 : ∀ j, (j < m * 4 ∨ m * 4 + 4 ≤ j) → ∀ u, (rowR l)[j]? = some u → w.cell? ⟨g, j, none⟩ = some u)
    (h2 : ∀ j u, x.cells[j]? = some u → w.cell? ⟨g, m * 4 + j, none⟩ = some u) : ∀ j u, (rowR (l.set m x))[j]? = some u → w.cell? ⟨g, j, none⟩ = some u := by
  have e : l.set m x = l.take m ++ x :: l.drop (m + 1) := List.set_eq_take_append_cons_drop.trans (if_pos hm)
  have e2 : rowR (l.set m x) = (rowR l).take (m * 4) ++ (x.cells ++ (rowR l).drop ((m + 1) * 4)) := by rw [e, rowR_append, rowR_take, rowR, rowR_drop]
  intro j u hu
  rw [e2] at hu
  have ht : ((rowR l).take (m * 4)).length = m * 4 := by rw [List.length_take, rowR_length]; omega
  rcases Nat.lt_or_ge j (m * 4) with hj | hj
  · rw [List.getElem?_append_left (by omega), List.getElem?_take, if_pos hj] at hu
    exact h1 j (.inl hj) u hu
  · rw [List.getElem?_append_right (by omega), ht] at hu
    rcases Nat.lt_or_ge (j - m * 4) 4 with h | h
    · rw [List.getElem?_append_left (by rw [Ru.cells_length]; exact h)] at hu
      have := h2 _ _ hu
      rwa [show m * 4 + (j - m * 4) = j by omega] at this
    · rw [List.getElem?_append_right (by rw [Ru.cells_length]; exact h), Ru.cells_length, List.getElem?_drop] at hu
      rw [show (m + 1) * 4 + (j - m * 4 - 4) = j by omega] at hu
      exact h1 j (.inr (by omega)) u hu
/-- a row of which one rumor was written -/
theorem ownsRowR_set {w W : World} {B m : Nat} {g cap : Nat} {l : List Ru} {x : Ru} (ho : w.ownsRow B 35 4 (.slice (some ⟨g, 0, none⟩) l.length cap) l.length (rowR l)) (hm : m < l.length) (hW : W.heap = (w.setCells g (m * 4) x.cells).heap) :
    W.ownsRow B 35 4 (.slice (some ⟨g, 0, none⟩) l.length cap) (l.set m x).length (rowR (l.set m x)) := by
  have hx : ∀ j u, (rowR l)[j]? = some u → w.cell? ⟨g, j, none⟩ = some u := fun j u hu => by
    have := ho.cells (g := g) rfl j u hu
    simpa [Addr.add_lit] using this
  rcases ho.2 with ⟨h, _⟩ | ⟨g', cap', cur, h, h1, hg, hc1, hc2, hs, _⟩
  · cases h
  · simp at h
    obtain ⟨rfl, rfl⟩ := h
    obtain ⟨cur', hg', hs'⟩ := setCells_block g 35 x.cells (m * 4) w cur hg
    rw [List.length_set]
    have hcW : ∀ a, W.cell? a = (w.setCells g (m * 4) x.cells).cell? a := fun a => World.cell?_of_block (by rw [hW])
    refine ownsRow_of h1 (by rw [hW]; exact hg') hc1 hc2 (by omega) (by rw [rowR_length, List.length_set]) (setR_cells hm ?_ ?_)
    · intro j hj u hu
      rw [hcW, World.cell?_setCells_out g _ _ w _ (fun _ _ => hj)]
      exact hx j u hu
    · intro j u hu
      obtain ⟨hj, rfl⟩ := List.getElem?_eq_some_iff.1 hu
      rw [hcW]
      exact World.cell?_setCells_in g _ _ w (fun j hj => by rw [cell_of_row w g _ cur _ (0, 0) hg, Array.getElem?_eq_getElem (by rw [Ru.cells_length] at hj; omega)]; rfl) j hj
/-- an own row that has something, opened at a place -/
theorem ownR_at {w : World} {B : Nat} {v : Value} {l : List Ru} {m : Nat} {x : Ru} (ho : w.ownsRow B 35 4 v l.length (rowR l)) (hm : m < l.length) (hx : l[m] = x) :
    ∃ G cap, v = .slice (some ⟨G, 0, none⟩) l.length cap ∧ B ≤ G ∧ G < w.heap.size ∧ RuAt w G (m * 4) x ∧ ∀ j, w.frozen? ⟨G, j, none⟩ = false := by
  obtain ⟨G, cap, rfl, hBG, hGw⟩ := ho.form (by omega)
  refine ⟨G, cap, rfl, hBG, hGw, ?_, fun j => ?_⟩
  · obtain ⟨_, p, c, hp, hr⟩ := RusIs.own ho
    simp at hp
    obtain ⟨rfl, rfl⟩ := hp
    obtain ⟨b, o, hbo, _, hat⟩ := hr (fun h => by simp [h] at hm)
    simp at hbo
    obtain ⟨rfl, rfl⟩ := hbo
    have := hat _ hm
    rw [hx, Nat.zero_add] at this
    exact this
  · rcases ho.2 with ⟨h, _⟩ | ⟨g', cap', cur, h, h1, hg, _⟩
    · cases h
    · simp at h
      rw [h.1]
      simp [World.frozen?, hg]
theorem addR_bad {l : List Ru} {m : Mm} {n : Int} (h : badR l = n) (hn : n ≠ 0) : addR l m = ([], false, n) := by rw [addR, if_pos (by rw [h]; exact hn), h]
theorem addR_mem {l : List Ru} {m : Mm} (h : badR l = 0) (hm : m.ok = false) : addR l m = ([], false, 1) := by rw [addR, if_neg (by simpa using h), if_pos hm]
theorem addR_ok {l : List Ru} {m : Mm} (h : badR l = 0) (hm : m.ok = true) : addR l m = (hearU m l, isU m l, 0) := by rw [addR, if_neg (by simpa using h), if_neg (by rw [hm]; simp)]
theorem hearU_self {m : Mm} {x : Ru} : ∀ {l : List Ru}, RiseR l → getU l m.n = some x → nwB m x.m = false → hearU m l = l := by
  intro l
  induction l with
  | nil => intro _ h; cases h
  | cons y l ih =>
    intro hr h hn
    obtain ⟨h1, h2⟩ := List.pairwise_cons.1 hr
    rw [getU_cons] at h
    rw [hearU]
    by_cases he : y.m.n = m.n
    · rw [if_pos he] at h ⊢
      obtain rfl := Option.some.inj h
      rw [if_neg (by rw [hn]; simp)]
    · rw [if_neg he] at h ⊢
      have := h1 x (getU_mem h).1
      rw [(getU_mem h).2] at this
      rw [if_neg (by omega), ih h2 h hn]
set_option maxHeartbeats 4000000 in
theorem addR_c (v : Value) (l : List Ru) (k f s : Int) (w : World) (hr : RusIs w v l) :
    Calls Try.prog 5 #[v, .agg #[.int .i64 k, .int .i64 f, .int .i64 s]] w fun e w' => ∃ v', e = .returned (.tuple #[v', .bool (addR l ⟨k, f, s⟩).2.1, eV (addR l ⟨k, f, s⟩).2.2]) ∧ OwnR w.heap.size w' v' (addR l ⟨k, f, s⟩).1 ∧ Below w.heap.size w w' := by
  have HR : Hid (RusIs w v l) := hr
  have HB0 : Hid (Below w.heap.size w (w.alloc (.cells #[.int .i64 k, .int .i64 f, .int .i64 s] 31))) := by show Below _ _ _; go_grown
  clear hr
  by_cases hn : badR l = 0
  · have HN : Hid (badR l = 0) := hn
    have HG : Hid (GoodR l) := badR_good hn
    clear hn
    cases hm : Mm.ok ⟨k, f, s⟩
    · have HM : Hid (Mm.ok ⟨k, f, s⟩ = false) := hm
      have HC : Hid (addR l ⟨k, f, s⟩ = ([], false, 1)) := addR_mem HN.out hm
      clear hm
      rw [HC.out]
      go_enter Try.func5, Try.ntmps5
      go_wp2_with fail
      refine (rcheck_ok (HR.out.below HB0.out) HN.out).mono ?_
      rintro e w1 ⟨rfl, hb⟩
      have B1 : Hid (Below w.heap.size w w1) := HB0.out.trans (hb.mono (by simp))
      obtain ⟨a0, a1, a2, af⟩ := (boxM_new w k f s w.heap.size rfl).below hb (by simp)
      clear hb
      go_wp2_with fail
      refine (isRight_b k f s false _ HM.out).mono ?_
      rintro e w2 ⟨rfl, hb⟩
      have B2 : Hid (Below w.heap.size w w2) := B1.out.trans (hb.mono B1.out.size)
      clear hb
      go_wp2_with fail
      go_ret3
      exact ⟨.slice none 0 0, rfl, OwnR.nil _ _, B2.out⟩
    · have HM : Hid (Mm.ok ⟨k, f, s⟩ = true) := hm
      have HC : Hid (addR l ⟨k, f, s⟩ = (hearU ⟨k, f, s⟩ l, isU ⟨k, f, s⟩ l, 0)) := addR_ok HN.out hm
      clear hm
      rw [HC.out]
      obtain ⟨R1, HR1⟩ : ∃ R, Hid (hearU ⟨k, f, s⟩ l = R) := ⟨_, rfl⟩
      obtain ⟨R2, HR2⟩ : ∃ R, Hid (isU ⟨k, f, s⟩ l = R) := ⟨_, rfl⟩
      rw [HR1.out, HR2.out]
      have h6 := goodR_len HG.out
      have hpl := placeU_le l k
      obtain ⟨m, HMp⟩ : ∃ m, Hid (placeU l k = m) := ⟨_, rfl⟩
      obtain ⟨gx, HGx⟩ : ∃ gx, Hid (getU l k = gx) := ⟨_, rfl⟩
      have HPlc : Hid (∀ W v', RusIs W v' l → Calls Try.prog 11 #[v', .int .i64 k] W fun e w' => e = .returned (.tuple #[.int .i64 m, .bool gx.isSome]) ∧ Below W.heap.size W w') := fun W v' h => by
        have c := placeR_c v' l k W h HG.out
        rw [HMp.out, HGx.out] at c
        exact c
      rw [HMp.out] at hpl
      go_enter Try.func5, Try.ntmps5
      go_wp2_with fail
      refine (rcheck_ok (HR.out.below HB0.out) HN.out).mono ?_
      rintro e w1 ⟨rfl, hb⟩
      have B1 : Hid (Below w.heap.size w w1) := HB0.out.trans (hb.mono (by simp))
      have E1 : Hid (BoxM w1 w.heap.size k f s) := (boxM_new w k f s w.heap.size rfl).below hb (by simp)
      obtain ⟨a0, a1, a2, af⟩ := E1.out
      clear hb
      go_wp2_with fail
      refine (isRight_b k f s true _ HM.out).mono ?_
      rintro e w2 ⟨rfl, hb⟩
      have B2 : Hid (Below w.heap.size w w2) := B1.out.trans (hb.mono B1.out.size)
      have E2 : Hid (BoxM w2 w.heap.size k f s) := E1.out.below hb E1.out.lt
      clear hb a0 a1 a2 af
      obtain ⟨a0, a1, a2, af⟩ := E2.out
      go_wp2_with fail
      refine (cloneR_c v l _ (HR.out.below B2.out) (by omega)).mono ?_
      rintro e w3 ⟨v3, rfl, ho3, hb3⟩
      have HO3 : Hid (OwnR w2.heap.size w3 v3 l) := ho3
      have B3 : Hid (Below w.heap.size w w3) := B2.out.trans (hb3.mono B2.out.size)
      have E3 : Hid (BoxM w3 w.heap.size k f s) := E2.out.below hb3 E2.out.lt
      have hs3 : w2.heap.size ≤ w3.heap.size := hb3.size
      clear hb3 ho3 a0 a1 a2 af
      obtain ⟨a0, a1, a2, af⟩ := E3.out
      go_wp2_with fail
      refine Calls.mono (HPlc.out _ v3 HO3.out.rus) ?_
      rintro e w4 ⟨rfl, hb4⟩
      have HO4 : Hid (OwnR w2.heap.size w4 v3 l) := HO3.out.below hb4
      have B4 : Hid (Below w.heap.size w w4) := B3.out.trans (hb4.mono B3.out.size)
      have E4 : Hid (BoxM w4 w.heap.size k f s) := E3.out.below hb4 E3.out.lt
      have hs4 : w2.heap.size ≤ w4.heap.size := Nat.le_trans hs3 hb4.size
      have hs2 : w.heap.size ≤ w2.heap.size := B2.out.size
      have hsb : w.heap.size < w4.heap.size := E4.out.lt
      have hsb2 : w.heap.size < w2.heap.size := E2.out.lt
      clear hb4 a0 a1 a2 af HO3 E3 E2 E1 B1 B3
      obtain ⟨a0, a1, a2, af⟩ := E4.out
      cases gx with
      | none =>
        have HL1 : Hid (R1 = l.take m ++ ⟨⟨k, f, s⟩, 0⟩ :: l.drop m) := by
          show R1 = _
          rw [← HR1.out, hearU_none HG.out.1 (m := ⟨k, f, s⟩) HGx.out, HMp.out]
        have HL2 : Hid (R2 = true) := by
          show R2 = _
          rw [← HR2.out, isU_none (m := ⟨k, f, s⟩) HGx.out]
        go_wp2_with fail
        have B5 : Hid (Below w.heap.size w (w4.alloc (.cells #[.int .i64 k, .int .i64 f, .int .i64 s, .int .i64 0] 35))) := B4.out.alloc B4.out.size _
        refine (insR_c w2.heap.size v3 m l ⟨⟨k, f, s⟩, 0⟩ w4.heap.size _ (ownsRow_below HO4.out ((Below.refl _ w4).alloc (Nat.le_refl _) _)) (by simp; omega) hpl (by omega) (fun h => by have := ownsRow_lt HO4.out _ h; omega) (alloc_at _ _ _ rfl)).mono ?_
        rintro e w6 ⟨v6, rfl, hown, hgrow⟩
        have HOw : Hid _ := hown
        have HGr : Hid _ := hgrow
        clear hown hgrow
        go_wp2_with fail
        go_ret3
        refine ⟨v6, by rw [HL2.out, eV_zero]; rfl, ?_, below_grown B5.out (Nat.le_refl _) HGr.out (fun c hc => Nat.le_trans hs2 (HO4.out.from c hc))⟩
        rw [HL1.out]
        exact OwnR.base HOw.out hs2
      | some x =>
        obtain ⟨hm1', hx', hxk⟩ := getU_some HG.out.1 HGx.out
        have hm1 : m < l.length := by rw [← HMp.out]; exact hm1'
        have hx : l[m] = x := by simp only [← HMp.out]; exact hx'
        clear hx' hm1'
        obtain ⟨G, cap, rfl, hBG, hGw, hat, hfz⟩ := ownR_at HO4.out hm1 hx
        have HAt : Hid (RuAt w4 G (m * 4) x) := hat
        have HFz : Hid (∀ j, w4.frozen? ⟨G, j, none⟩ = false) := hfz
        have hxo := HG.out.2 x (hx ▸ List.getElem_mem hm1)
        clear hat hfz
        obtain ⟨⟨x0, x1, x2⟩, x3⟩ := x
        have hx0 : x0 = k := hxk
        clear hxk
        subst hx0
        have hmo : Mm.ok ⟨x0, x1, x2⟩ = true := by
          rw [Ru.ok, Bool.and_eq_true] at hxo
          exact hxo.1
        obtain ⟨q, HQ⟩ : ∃ q, Hid (nwB ⟨x0, f, s⟩ ⟨x0, x1, x2⟩ = q) := ⟨_, rfl⟩
        have HNw : Hid (newV ⟨x0, f, s⟩ ⟨x0, x1, x2⟩ = (q, 0)) := by
          show newV _ _ = _
          rw [newV, HM.out, hmo, if_neg (by simp), if_neg (by simp), HQ.out]
        have HL2 : Hid (R2 = q) := by
          show R2 = q
          rw [← HR2.out, isU_some (m := ⟨x0, f, s⟩) HGx.out, ← HQ.out]
        have HLf : Hid (q = false → R1 = l) := by
          rintro rfl
          rw [← HR1.out, hearU_self HG.out.1 (m := ⟨x0, f, s⟩) HGx.out HQ.out]
        have HLt : Hid (q = true → R1 = l.set m ⟨⟨x0, f, s⟩, 0⟩) := by
          rintro rfl
          rw [← HR1.out, hearU_some HG.out.1 (m := ⟨x0, f, s⟩) HGx.out HQ.out, HMp.out]
        obtain ⟨N, HNl⟩ : ∃ N, Hid (l.length = N) := ⟨_, rfl⟩
        have HSet : Hid (∀ (W0 W : World) (J : Ru), Below w4.heap.size w4 W0 → W.heap = (W0.setCells G (m * 4) J.cells).heap → W.ownsRow w2.heap.size 35 4 (.slice (some ⟨G, 0, none⟩) N cap) (l.set m J).length (rowR (l.set m J))) := fun W0 W J h0 hW => by
          rw [← HNl.out]
          exact ownsRowR_set (ownsRow_below HO4.out h0) hm1 hW
        have HO4' : Hid (OwnR w2.heap.size w4 (.slice (some ⟨G, 0, none⟩) N cap) l) := by rw [← HNl.out]; exact HO4.out
        rw [HNl.out] at hm1 ⊢
        clear hx hxo hmo HO4 HGx HPlc
        have hmi : (m : Int) < (N : Int) := by omega
        obtain ⟨c0, c1, c2, c3⟩ := HAt.out
        dsimp only at c0 c1 c2 c3
        go_upto_region 10 with fail
        go_cut [11, 12] (fun v11 v12 wc => v11 = .bool q ∧ v12 = .nilIface ∧ Hid (Below w4.heap.size w4 wc))
        case first =>
          go_region_with (go_at_call 13; refine (newer_o HNw.out _).mono ?_; rw [eV_zero]; rintro e w7 ⟨rfl, hb7⟩; have HB7 : Hid (Below w4.heap.size w4 w7) := below_undrew hb7; clear hb7)
          all_goals go_wp2_with fail
          all_goals go_meet
          all_goals exact ⟨rfl, rfl, HB7⟩
        case rest =>
          obtain ⟨w5, h⟩ : ∃ x, x = wc := ⟨_, rfl⟩
          subst h
          obtain ⟨rfl, rfl, HB5⟩ := hcut
          have B5 : Hid (Below w.heap.size w w5) := B4.out.trans (HB5.out.mono B4.out.size)
          have E5 : Hid (BoxM w5 w.heap.size x0 f s) := E4.out.below HB5.out E4.out.lt
          have HA5 : Hid (RuAt w5 G (m * 4) ⟨⟨x0, x1, x2⟩, x3⟩) := HAt.out.of_block (HB5.out.block G hGw)
          clear a0 a1 a2 af c0 c1 c2 c3
          cases q
          · go_wp2_with fail
            go_ret3
            refine ⟨_, by rw [HL2.out, eV_zero]; rfl, ?_, B5.out⟩
            rw [HLf.out (by simp)]
            exact (HO4'.out.below HB5.out).base hs2
          · obtain ⟨a0, a1, a2, af⟩ := E5.out
            obtain ⟨c0, c1, c2, c3⟩ := HA5.out
            dsimp only at c0 c1 c2 c3
            have fz : ∀ j, w5.frozen? ⟨G, j, none⟩ = false := fun j => (World.frozen?_of_block (a := ⟨G, j, none⟩) (HB5.out.block G hGw)).trans (HFz.out j)
            have p3 : ¬ G = w.heap.size := by omega
            have hBw : w.heap.size ≤ G := Nat.le_trans hs2 hBG
            go_wp2_with fail
            go_ret3
            refine ⟨_, by rw [HL2.out, eV_zero]; rfl, ?_, (((B5.out.setCell hBw _).setCell hBw _).setCell hBw _).setCell hBw _⟩
            rw [HLt.out (by simp)]
            exact OwnR.base (HSet.out w5 _ ⟨⟨x0, f, s⟩, 0⟩ HB5.out rfl) hs2
  · obtain ⟨n, HN⟩ : ∃ n, Hid (badR l = n) := ⟨_, rfl⟩
    rw [HN.out] at hn
    have HC : Hid (addR l ⟨k, f, s⟩ = ([], false, n)) := addR_bad HN.out hn
    rw [HC.out]
    go_enter Try.func5, Try.ntmps5
    go_wp2_with fail
    refine (rcheck_err (HR.out.below HB0.out) HN.out hn).mono ?_
    rintro e w1 ⟨rfl, hb⟩
    have B1 : Hid (Below w.heap.size w w1) := HB0.out.trans (hb.mono (by simp))
    clear hb
    go_wp2_with fail
    go_ret3
    refine ⟨.slice none 0 0, ?_, OwnR.nil _ _, B1.out⟩
    show _ = Ending.returned (.tuple #[.slice none 0 0, .bool false, eV n])
    rw [eV_err hn]
    rfl
theorem addR_o {l : List Ru} {k f s : Int} {R1 : List Ru} {R2 : Bool} {R3 : Int} (h : addR l ⟨k, f, s⟩ = (R1, R2, R3)) (v : Value) (w : World) (hr : RusIs w v l) :
    Calls Try.prog 5 #[v, .agg #[.int .i64 k, .int .i64 f, .int .i64 s]] w fun e w' => ∃ v', e = .returned (.tuple #[v', .bool R2, eV R3]) ∧ OwnR w.heap.size w' v' R1 ∧ Below w.heap.size w w' := by
  have c := addR_c v l k f s w hr
  rw [h] at c
  exact c
end Go.Proofs.Ytpelbmhhppcmeaf
