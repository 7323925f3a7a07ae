/-
  Package gossip by its contracts: outer, Plan (whose rows are new ones); slices.Grow and slices.Concat at rows of calls.
-/
import Derived.Test.YtpcnfoaoajfhlaaDoorTqaj
import Derived.Lib.AppendZerosOnto
import Derived.Lib.Walk
namespace Go.Proofs.YtpcnfoaoajfhlaaDoor
set_option linter.unusedVariables false
set_option linter.unusedSimpArgs false
set_option linter.unusedVariables false
set_option linter.unusedSimpArgs false
open Go.RowKit
open Go.Lib hiding intOf

theorem ints_cells2 {W : World} {g c : Nat} {x y : Int} (c0 : W.cell? ⟨g, 0, none⟩ = some (.int .i64 x)) (c1 : W.cell? ⟨g, 1, none⟩ = some (.int .i64 y)) : IntsIs W (.slice (some ⟨g, 0, none⟩) 2 c) [x, y] := by
  refine ⟨by simp [maxLen], some ⟨g, 0, none⟩, c, rfl, fun _ => ⟨g, 0, rfl, World.block_lt_of_cell? W _ c0, fun j hj => ?_⟩⟩
  match j, hj with
  | 0, _ => exact c0
  | 1, _ => exact c1
theorem ints_new (w : World) (x y : Int) (g : Nat) (h : g = w.heap.size) : IntsIs (w.alloc (.cells #[.int .i64 x, .int .i64 y] 3)) (.slice (some ⟨g, 0, none⟩) 2 2) [x, y] := by
  subst h
  exact ints_cells2 (by simp) (by simp)
theorem vals_cells {W : World} {g c : Nat} {us : List Value} (hl : us.length ≤ maxLen) (hlt : g < W.heap.size) (hc : ∀ j (h : j < us.length), W.cell? ⟨g, j, none⟩ = some us[j]) : ValsIs W (.slice (some ⟨g, 0, none⟩) us.length c) us :=
  ⟨hl, some ⟨g, 0, none⟩, c, rfl, fun e => by simp at e, fun _ => ⟨g, 0, rfl, hlt, fun j hj => by rw [Nat.zero_add]; exact hc j hj⟩⟩
set_option maxRecDepth 100000 in
set_option maxHeartbeats 4000000 in
theorem growG_c (n : Nat) (hn : 1 ≤ n) (hn1 : n ≤ 100) (w : World) :
    Calls Tryd.prog 64 #[.slice none 0 0, .int .i64 n] w fun e w' => (∃ v, e = .returned v ∧ OwnV w.heap.size w' v []) ∧ Below w.heap.size w w' := by
  obtain ⟨i0, hi0, hz0, hz1, hz2⟩ := info_parts infoSl
  have hold : (Builtin.firstCells i0.size 0 (.slice none 0 0)).run Tryd.prog w.drew = .ok ([] : List Value).toArray w.drew := run_firstCells_none w.drew i0.size 0 0 0
  have h := fun ty => Lib.run_append_grow_zeros w 22 3 ty 30 i0 _ .i64 .i64 Tryd.underlying22 Tryd.underlying3 hi0 hz0 none 0 0 [] hold n (by omega) (by omega) (by omega) (by omega) (by rw [hz2]; omega) (by rw [hz2]; exact growslice_fits (by omega) (by omega))
  obtain ⟨G, hG⟩ : ∃ G, G = grownCap w (0 + n) 0 30 := ⟨_, rfl⟩
  have hGn : 0 + n ≤ G := by rw [hG]; exact grownCap_ge w _ _ _
  have hGm : G ≤ maxLen := by rw [hG]; exact grownCap_le_maxLen w _ _ _ (by unfold maxLen; omega)
  have hG63 : G ≤ 9223372036854775807 := hGm
  simp only [← hG] at h
  obtain ⟨ROW, hROW⟩ : ∃ ROW : Array Value, ROW = (([] : List Value).toArray ++ Builtin.zeroCells (Value.slice none 0 0).cells n ++ Builtin.zeroCells (Value.slice none 0 0).cells (G - (0 + n))) := ⟨_, rfl⟩
  simp only [← hROW] at h
  have hRs : ROW.size = G * 1 := by
    rw [hROW, Array.size_append, Array.size_append, size_zeroCells, size_zeroCells]
    simp [Value.cells]
    omega
  obtain ⟨W1, hW1⟩ : ∃ W1, W1 = w.drew.alloc (.cells ROW 30) := ⟨_, rfl⟩
  simp only [← hW1] at h
  have hg1 : W1.heap[w.heap.size]? = some (.cells ROW 30 (0, 0)) := by rw [hW1]; exact alloc_at w.drew _ _ rfl
  have HB : Hid (Below w.heap.size w W1) := by
    rw [hW1]
    exact (show Below w.heap.size w w.drew from ⟨rfl, rfl, rfl, Nat.le_refl _, fun _ _ => rfl⟩).alloc (Nat.le_refl _) _
  have HO : Hid (OwnV w.heap.size W1 (.slice (some ⟨w.heap.size, 0, none⟩) 0 G) []) := ⟨rfl, .inr ⟨w.heap.size, G, ROW, rfl, Nat.le_refl _, hg1, Nat.zero_le _, hGm, hRs, by simp⟩⟩
  have h1 : ¬ ((n : Int) < 0) := by omega
  have h2 : (n : Int) > 0 := by omega
  clear hold hG hROW hW1 hg1 hRs
  simp only [Nat.zero_add] at h hGn
  have HR : Hid (∀ ty, (Builtin.append_ #[22, 3] ty #[.slice none 0 0, .int .i64 n]).run Tryd.prog w = .ok (.slice (some ⟨w.heap.size, 0, none⟩) n G) W1) := h
  clear h
  go_enter Tryd.func64, Tryd.ntmps64
  go_wp2_with (at_builtin; refine Lib.wpList_append_run _ rfl _ _ _ _ rfl _ _ rfl rfl _ _ (HR.out _) ?_)
  go_wp2_with fail
  go_ret
  exact ⟨⟨_, rfl, HO.out⟩, HB.out⟩
theorem flat_take {XS : List (List Value)} {j : Nat} (h : j < XS.length) : (XS.take (j + 1)).flatten = (XS.take j).flatten ++ XS[j] := by
  rw [List.take_succ_eq_append_getElem h, List.flatten_append]
  simp
theorem flat_le (XS : List (List Value)) (j : Nat) : (XS.take j).flatten.length ≤ XS.flatten.length := by
  have : XS.flatten = (XS.take j).flatten ++ (XS.drop j).flatten := by rw [← List.flatten_append, List.take_append_drop]
  rw [this, List.length_append]
  omega
set_option maxHeartbeats 8000000 in
theorem concat_c (vb : Nat) (uu : List Value) (XS : List (List Value)) (w : World) (hlen : uu.length = XS.length) (h3 : XS.length ≤ 100) (hvb : vb < w.heap.size) (hc : ∀ j (h : j < uu.length), w.cell? ⟨vb, j, none⟩ = some uu[j]) (hv : ∀ j (h : j < uu.length) (h' : j < XS.length), ValsIs w uu[j] XS[j])
    (h1c : ∀ X ∈ XS, ∀ u ∈ X, u.oneCell' = true) (htot : XS.flatten.length ≤ 100) (hpos : 1 ≤ XS.flatten.length) :
    Calls Tryd.prog 41 #[.slice (some ⟨vb, 0, none⟩) XS.length XS.length] w fun e w' => (∃ v, e = .returned v ∧ OwnV w.heap.size w' v XS.flatten) ∧ Below w.heap.size w w' := by
  have HC : Hid (∀ j (h : j < uu.length), w.cell? ⟨vb, j, none⟩ = some uu[j]) := hc
  have HV : Hid (∀ j (h : j < uu.length) (h' : j < XS.length), ValsIs w uu[j] XS[j]) := hv
  have H1 : Hid (∀ X ∈ XS, ∀ u ∈ X, u.oneCell' = true) := h1c
  have HLe : Hid (∀ j, (XS.take j).flatten.length ≤ XS.flatten.length) := flat_le XS
  obtain ⟨N, HN⟩ : ∃ N, Hid (XS.length = N) := ⟨_, rfl⟩
  obtain ⟨T, HT⟩ : ∃ T, Hid (XS.flatten.length = T) := ⟨_, rfl⟩
  have HU : Hid (uu.length = N) := hlen.trans HN.out
  rw [HT.out] at htot hpos
  rw [HN.out] at h3 ⊢
  clear hc hv h1c hlen
  go_enter Tryd.func41, Tryd.ntmps41
  go_wp2_with fail
  go_loopw [3, 11] (fun s i wr => wr = w ∧ ∃ (j t : Nat), j ≤ N ∧ i = .int .i64 j ∧ s = .int .i64 t ∧ t ≤ T ∧ Hid ((XS.take j).flatten.length = t)) (fun _ i _ => N - (intOf i).toNat)
  case atStart => exact ⟨rfl, 0, 0, Nat.zero_le _, rfl, rfl, Nat.zero_le _, show _ = _ by simp⟩
  case round =>
    obtain ⟨hwr, j, t, hj, rfl, rfl, htT, HJ⟩ := hrel
    subst hwr
    by_cases hlt : j < N
    · have hlti : (j : Int) < (N : Int) := by omega
      have hjx : j < XS.length := by rw [HN.out]; exact hlt
      have hju : j < uu.length := by rw [HU.out]; exact hlt
      have c0 := HC.out j hju
      obtain ⟨_, pu, cu, eu, _⟩ := HV.out j hju hjx
      rw [eu] at c0
      obtain ⟨m, HM⟩ : ∃ m, Hid (XS[j].length = m) := ⟨XS[j].length, show XS[j].length = XS[j].length from rfl⟩
      rw [HM.out] at c0
      have HJ2 : Hid ((XS.take (j + 1)).flatten.length = t + m) := by show _ = _; rw [flat_take hjx, List.length_append, HJ.out, HM.out]
      have hle : t + m ≤ T := by have := HLe.out (j + 1); rw [HJ2.out, HT.out] at this; exact this
      have hneg : ¬ ((t : Int) + (m : Int) < 0) := by omega
      clear eu
      go_wp2_with fail
      go_roundw
      case rel => exact ⟨by trivial, j + 1, t + m, by omega, by go_num, by go_num, hle, HJ2⟩
      case measure => simp [intOf]; omega
    · obtain rfl : j = N := by omega
      have HJ2 : Hid (t = T) := by
        have := HJ.out
        rw [List.take_of_length_le (by rw [HN.out]; exact Nat.le_refl _), HT.out] at this
        exact this.symm
      obtain rfl := HJ2.out
      go_wp2_with fail
      refine (growG_c t hpos htot _).mono ?_
      rintro e w1 ⟨⟨v0, rfl, ho⟩, hb⟩
      have O1 : Hid (OwnV wr.heap.size w1 v0 []) := ho
      have B1 : Hid (Below wr.heap.size wr w1) := hb
      clear ho hb
      obtain ⟨w0, hren⟩ : ∃ x, x = wr := ⟨_, rfl⟩
      subst hren
      go_wp2_with fail
      go_loopw [6, 27] (fun v i wr => ∃ q : Nat, q ≤ j ∧ i = .int .i64 q ∧ Hid (OwnV w0.heap.size wr v (XS.take q).flatten) ∧ Hid (Below w0.heap.size w0 wr)) (fun _ i _ => j - (intOf i).toNat)
      case atStart => exact ⟨0, Nat.zero_le _, rfl, O1, B1⟩
      case round =>
        obtain ⟨q, hq, rfl, HO, HB⟩ := hrel
        clear O1 B1
        by_cases hqn : q < j
        · have hqi : (q : Int) < (j : Int) := by omega
          have hqx : q < XS.length := by rw [HN.out]; exact hqn
          have hqu : q < uu.length := by rw [HU.out]; exact hqn
          have HVq : Hid (ValsIs wr uu[q] XS[q]) := (HV.out q hqu hqx).below HB.out
          have c0 : wr.cell? ⟨vb, q, none⟩ = some uu[q] := (World.cell?_of_block (a := ⟨vb, q, none⟩) (HB.out.block vb hvb)).trans (HC.out q hqu)
          obtain ⟨u, HUq⟩ : ∃ u, Hid (uu[q] = u) := ⟨uu[q], show uu[q] = uu[q] from rfl⟩
          rw [HUq.out] at c0 HVq
          have HOne : Hid (∀ u ∈ XS[q], u.oneCell' = true) := H1.out _ (List.getElem_mem hqx)
          have HF : Hid ((XS.take (q + 1)).flatten = (XS.take q).flatten ++ XS[q]) := flat_take hqx
          have HS : Hid ((XS.take q).flatten.length + XS[q].length ≤ 100) := by
            show _ ≤ _
            have := HLe.out (q + 1)
            rw [HF.out, List.length_append, HT.out] at this
            omega
          have HSz : Hid (w0.heap.size ≤ wr.heap.size) := HB.out.size
          obtain ⟨_, pu, cu, rfl, _⟩ := HVq.out
          go_wp2_with (at_builtin; refine wp_appVs _ rfl _ _ rfl w0.heap.size _ (XS.take q).flatten rfl HO.out _ XS[q] rfl HVq.out HOne.out HS.out HSz.out ?_)
          intro va wa hown hgrow
          have HOp : Hid (OwnV w0.heap.size wa va (XS.take (q + 1)).flatten) := by rw [HF.out]; exact hown
          have HBp : Hid (Below w0.heap.size w0 wa) := below_grownF HB.out (Nat.le_refl _) hgrow.out (fun c hc => HO.out.from c hc)
          clear hown hgrow c0
          go_wp2_with fail
          go_roundw
          case rel => exact ⟨q + 1, by omega, by go_num, HOp, HBp⟩
          case measure => simp [intOf]; omega
        · obtain rfl : q = j := by omega
          have HF : Hid ((XS.take q).flatten = XS.flatten) := by show _ = _; rw [List.take_of_length_le (by rw [HN.out]; exact Nat.le_refl _)]
          go_wp2_with fail
          go_ret
          exact ⟨⟨_, rfl, by rw [← HF.out]; exact HO.out⟩, HB.out⟩
/-- the calls of those beyond the fourth -/
def outerL (m : Nat) : List (List Int) := (List.range m).map (fun j => [((4 + j : Nat) : Int), 0])
def innerL : List (List Int) := [[0, 1], [2, 3], [0, 2], [1, 3]]
def planL (k : Nat) : List (List Int) := if k ≤ 1 then [] else if k = 2 then [[0, 1]] else if k = 3 then [[0, 1], [0, 2], [0, 1]] else outerL (k - 4) ++ innerL ++ outerL (k - 4)
/-- values that hold calls -/
def Hold (w : World) (us : List Value) (ls : List (List Int)) : Prop := us.length = ls.length ∧ ∀ j (h : j < us.length) (h' : j < ls.length), IntsIs w us[j] ls[j]
theorem Hold.below {w w' : World} {us : List Value} {ls : List (List Int)} (h : Hold w us ls) (hb : Below w.heap.size w w') : Hold w' us ls := ⟨h.1, fun j h1 h2 => (h.2 j h1 h2).below hb⟩
theorem Hold.app {w : World} {us us' : List Value} {ls ls' : List (List Int)} (h : Hold w us ls) (h' : Hold w us' ls') : Hold w (us ++ us') (ls ++ ls') := by
  refine ⟨by rw [List.length_append, List.length_append, h.1, h'.1], fun j h1 h2 => ?_⟩
  rw [List.length_append] at h1 h2
  have hl := h.1
  by_cases hj : j < us.length
  · rw [List.getElem_append_left hj, List.getElem_append_left (by omega)]
    exact h.2 j hj (by omega)
  · rw [List.getElem_append_right (by omega), List.getElem_append_right (by omega)]
    have e : j - ls.length = j - us.length := by omega
    simp only [e]
    exact h'.2 (j - us.length) (by omega) (by have := h'.1; omega)
theorem Hold.nil (w : World) : Hold w [] [] := ⟨rfl, fun j h => by simp at h⟩
theorem Hold.one {w : World} {u : Value} {l : List Int} (h : IntsIs w u l) : Hold w [u] [l] := ⟨rfl, fun j h1 h2 => by
  obtain rfl : j = 0 := by simp at h1; exact h1
  exact h⟩
theorem Hold.cons {w : World} {u : Value} {us : List Value} {l : List Int} {ls : List (List Int)} (h : IntsIs w u l) (hs : Hold w us ls) : Hold w (u :: us) (l :: ls) := (Hold.one h).app hs
theorem IntsIs.hold {w : World} {u : Value} {us : List Value} {l : List Int} {ls : List (List Int)} (h : IntsIs w u l) (hs : Hold w us ls) : Hold w (u :: us) (l :: ls) := Hold.cons h hs
theorem Hold.cell1 {w : World} {us : List Value} {ls : List (List Int)} (h : Hold w us ls) : ∀ u ∈ us, u.oneCell' = true := fun u hu => by
  obtain ⟨j, hj, rfl⟩ := List.getElem_of_mem hu
  obtain ⟨p, c, e⟩ := (h.2 j hj (by have := h.1; omega)).slice
  rw [e]
  rfl
theorem Hold.grown {w w' : World} {r : Option Nat} {us : List Value} {ls : List (List Int)} (h : Hold w us ls) (hg : w.grownBy w' r) (hne : ∀ u ∈ us, ∀ c, u.ownBlock = some c → r ≠ some c) : Hold w' us ls :=
  ⟨h.1, fun j h1 h2 => (h.2 j h1 h2).blocks hg.size (fun c hc hlt => hg.block c hlt (fun e => hne us[j] (List.getElem_mem h1) c hc e.symm))⟩
theorem OwnV.base {B B' : Nat} {w : World} {v : Value} {us : List Value} (h : OwnV B w v us) (hb : B' ≤ B) : OwnV B' w v us := by
  refine ⟨h.1, ?_⟩
  rcases h.2 with hn | ⟨g, cap, cur, rfl, h1, rest⟩
  · exact .inl hn
  · exact .inr ⟨g, cap, cur, rfl, Nat.le_trans hb h1, rest⟩
theorem OwnV.lt {B : Nat} {w : World} {v : Value} {us : List Value} (h : OwnV B w v us) (c : Nat) (hc : v.ownBlock = some c) : c < w.heap.size := by
  rcases h.2 with ⟨rfl, _⟩ | ⟨g', cap, cur, rfl, h1, hg, _⟩
  · cases hc
  · obtain rfl : g' = c := by simpa [Value.ownBlock] using hc
    exact (Array.getElem?_eq_some_iff.1 hg).1
/-- rows that are no older than B -/
def FrV (B : Nat) (us : List Value) : Prop := ∀ u ∈ us, ∀ c, u.ownBlock = some c → B ≤ c
theorem FrV.nil (B : Nat) : FrV B [] := fun u hu => by cases hu
theorem FrV.app {B : Nat} {us vs : List Value} (h : FrV B us) (h' : FrV B vs) : FrV B (us ++ vs) := fun u hu => by
  rcases List.mem_append.1 hu with hu | hu
  · exact h u hu
  · exact h' u hu
theorem FrV.cons {B g n c : Nat} {us : List Value} (hg : B ≤ g) (h : FrV B us) : FrV B (.slice (some ⟨g, 0, none⟩) n c :: us) := fun u hu x hx => by
  rcases List.mem_cons.1 hu with hu | hu
  · subst hu
    have : g = x := by simpa [Value.ownBlock] using hx
    omega
  · exact h u hu x hx
theorem FrV.mono {B B' : Nat} {us : List Value} (h : FrV B us) (hb : B' ≤ B) : FrV B' us := fun u hu c hc => Nat.le_trans hb (h u hu c hc)
/-- calls whose rows are no older than B -/
def CallsF (B : Nat) (w : World) (v : Value) (ls : List (List Int)) : Prop :=
  ∃ us : List Value, us.length = ls.length ∧ ValsIs w v us ∧ (∀ j (h : j < us.length) (h' : j < ls.length), IntsIs w us[j] ls[j]) ∧ FrV B us ∧ ∀ c, v.ownBlock = some c → B ≤ c
theorem outer_succ (j : Nat) : outerL (j + 1) = outerL j ++ [[((4 + j : Nat) : Int), 0]] := by simp [outerL, List.range_succ]
set_option maxHeartbeats 8000000 in
theorem outer_c (m : Nat) (hm : m ≤ 2) (w : World) :
    Calls Tryd.prog 42 #[.int .i64 ((4 + m : Nat) : Int)] w fun e w' => (∃ v us, e = .returned v ∧ ValsIs w' v us ∧ Hold w' us (outerL m) ∧ FrV w.heap.size us) ∧ Below w.heap.size w w' := by
  have hm4 : ((4 + m : Nat) : Int) - 4 = (m : Int) := by omega
  obtain ⟨M, HM⟩ : ∃ M : Int, Hid (((4 + m : Nat) : Int) = M) := ⟨_, rfl⟩
  rw [HM.out] at hm4 ⊢
  have hM : 4 ≤ M ∧ M ≤ 6 := by have := HM.out; omega
  obtain ⟨hM4, hM6⟩ := hM
  go_enter Tryd.func42, Tryd.ntmps42
  go_wp2_with fail
  go_loopw [3, 7] (fun c3 i wr => ∃ (j : Nat) (us : List Value) (v : Value), c3 = v ∧ j ≤ m ∧ i = .int .i64 j ∧ Hid (OwnV w.heap.size wr v us) ∧ Hid (Hold wr us (outerL j)) ∧ Hid (j = 0 → v = .slice none 0 0) ∧ Hid (j < 2 → ∀ u ∈ us, ∀ c, u.ownBlock = some c → v.ownBlock ≠ some c) ∧ Hid (FrV w.heap.size us) ∧ Hid (Below w.heap.size w wr)) (fun _ i _ => m - (intOf i).toNat)
  case atStart => exact ⟨0, [], _, rfl, Nat.zero_le _, rfl, OwnV.nil _ _, Hold.nil _, fun _ => rfl, (fun _ u hu => by cases hu), FrV.nil _, Below.refl _ _⟩
  case round =>
    obtain ⟨j, us, v, hc3, hj, rfl, HO, HH, HZ, HA, HF, HB⟩ := hrel
    have hc3' := hc3.symm
    subst hc3'
    by_cases hlt : j < m
    · have hlti : (j : Int) < (m : Int) := by omega
      have HL : Hid (us.length ≤ 100) := by
        show _ ≤ _
        rw [HH.out.1]
        simp [outerL]
        omega
      have hsz : w.heap.size ≤ wr.heap.size := HB.out.size
      have HBb : Hid (Below w.heap.size w ((wr.alloc (.cells #[.int .i64 (4 + (j : Int)), .int .i64 0] 3)).alloc (.cells #[.slice (some ⟨wr.heap.size, 0, none⟩) 2 2] 30))) := (HB.out.alloc hsz _).alloc (by simp; omega) _
      have HG2 : Hid (Below wr.heap.size wr ((wr.alloc (.cells #[.int .i64 (4 + (j : Int)), .int .i64 0] 3)).alloc (.cells #[.slice (some ⟨wr.heap.size, 0, none⟩) 2 2] 30))) := by
        show Below _ _ _
        go_grown
      have HVb : Hid (((wr.alloc (.cells #[.int .i64 (4 + (j : Int)), .int .i64 0] 3)).alloc (.cells #[.slice (some ⟨wr.heap.size, 0, none⟩) 2 2] 30)).heap[wr.heap.size + 1]? = some (.cells #[.slice (some ⟨wr.heap.size, 0, none⟩) 2 2] 30 (0, 0))) := alloc_at _ _ _ (by simp)
      have HIb : Hid (Hold ((wr.alloc (.cells #[.int .i64 (4 + (j : Int)), .int .i64 0] 3)).alloc (.cells #[.slice (some ⟨wr.heap.size, 0, none⟩) 2 2] 30)) (us ++ [.slice (some ⟨wr.heap.size, 0, none⟩) 2 2]) (outerL (j + 1))) := by
        show Hold _ _ _
        rw [outer_succ]
        refine (HH.out.below HG2.out).app (Hold.one ?_)
        exact ints_cells2 (by simp) (by simp)
      have HNe : Hid (∀ u ∈ us ++ [.slice (some ⟨wr.heap.size, 0, none⟩) 2 2], ∀ c, u.ownBlock = some c → v.ownBlock ≠ some c) := by
        intro u hu c hc
        rcases List.mem_append.1 hu with hu | hu
        · exact HA.out (by omega) u hu c hc
        · obtain rfl : u = .slice (some ⟨wr.heap.size, 0, none⟩) 2 2 := by simpa using hu
          obtain rfl : wr.heap.size = c := by simpa [Value.ownBlock] using hc
          intro e
          have := HO.out.lt _ e
          omega
      have HLt : Hid (∀ u ∈ us ++ [.slice (some ⟨wr.heap.size, 0, none⟩) 2 2], j = 0 → ∀ c, u.ownBlock = some c → c < wr.heap.size + 2) := by
        intro u hu h0 c hc
        rcases List.mem_append.1 hu with hu | hu
        · have := HH.out.1
          subst h0
          rw [List.length_eq_zero_iff.1 (this.trans rfl)] at hu
          cases hu
        · obtain rfl : u = .slice (some ⟨wr.heap.size, 0, none⟩) 2 2 := by simpa using hu
          obtain rfl : wr.heap.size = c := by simpa [Value.ownBlock] using hc
          omega
      obtain ⟨Bs, HBs⟩ : ∃ Bs, Hid (Bs = if j = 0 then wr.heap.size + 2 else w.heap.size) := ⟨_, rfl⟩
      have HOb : Hid (OwnV Bs ((wr.alloc (.cells #[.int .i64 (4 + (j : Int)), .int .i64 0] 3)).alloc (.cells #[.slice (some ⟨wr.heap.size, 0, none⟩) 2 2] 30)) v us) := by
        show OwnV _ _ _ _
        rw [HBs.out]
        by_cases h0 : j = 0
        · rw [if_pos h0, HZ.out h0]
          have hl := HH.out.1
          subst h0
          rw [List.length_eq_zero_iff.1 (hl.trans rfl)]
          exact OwnV.nil _ _
        · rw [if_neg h0]
          exact HO.out.below HG2.out
      have HSb : Hid (Bs ≤ ((wr.alloc (.cells #[.int .i64 (4 + (j : Int)), .int .i64 0] 3)).alloc (.cells #[.slice (some ⟨wr.heap.size, 0, none⟩) 2 2] 30)).heap.size) := by
        show _ ≤ _
        rw [HBs.out]
        simp
        split <;> omega
      have HBw : Hid (w.heap.size ≤ Bs) := by
        show _ ≤ _
        rw [HBs.out]
        split <;> omega
      go_wp2_with (at_builtin; refine wp_appV _ rfl _ _ rfl Bs _ us _ rfl HOb.out _ rfl HVb.out rfl HL.out HSb.out ?_)
      intro va wa hown hgrow
      have HOp : Hid (OwnV w.heap.size wa va (us ++ [.slice (some ⟨wr.heap.size, 0, none⟩) 2 2])) := hown.base HBw.out
      have HBp : Hid (Below w.heap.size w wa) := below_grownF HBb.out (Nat.le_refl _) hgrow.out (fun c hc => HO.out.from c hc)
      have HHp : Hid (Hold wa (us ++ [.slice (some ⟨wr.heap.size, 0, none⟩) 2 2]) (outerL (j + 1))) := HIb.out.grown hgrow.out HNe.out
      have HAp : Hid (j + 1 < 2 → ∀ u ∈ us ++ [.slice (some ⟨wr.heap.size, 0, none⟩) 2 2], ∀ c, u.ownBlock = some c → va.ownBlock ≠ some c) := fun h2 u hu c hc e => by
        have h0 : j = 0 := by omega
        have h1 := hown.from c e
        have h3 := HLt.out u hu h0 c hc
        have h4 := HBs.out
        rw [if_pos h0] at h4
        omega
      have HFp : Hid (FrV w.heap.size (us ++ [.slice (some ⟨wr.heap.size, 0, none⟩) 2 2])) := HF.out.app (FrV.cons hsz (FrV.nil _))
      clear hown hgrow HBb HG2 HOb HVb HIb HSb HNe HLt HBs HBw
      go_wp2_with fail
      go_roundw
      case rel => exact ⟨j + 1, _, va, rfl, by omega, by go_num, HOp, HHp, fun h => absurd h (by omega), HAp, HFp, HBp⟩
      case measure => simp [intOf]; omega
    · obtain rfl : j = m := by omega
      go_wp2_with fail
      go_ret
      exact ⟨⟨_, rfl, us, HO.out.vals, HH.out, HF.out⟩, HB.out⟩
theorem Hold.calls {B : Nat} {w : World} {v : Value} {us : List Value} {ls : List (List Int)} (h : Hold w us ls) (hv : ValsIs w v us) (hf : FrV B us) (hb : ∀ c, v.ownBlock = some c → B ≤ c) : CallsF B w v ls := ⟨us, h.1, hv, h.2, hf, hb⟩
theorem plan_bad (n : Int) (h : inR n 1 6 = false) (w : World) : Calls Tryd.prog 10 #[.int .i64 n] w fun e w' => e = .returned (.tuple #[.slice none 0 0, eV 1]) ∧ w' = w := by
  have HB : Hid (inR n 1 6 = false) := h
  clear h
  go_enter Tryd.func10, Tryd.ntmps10
  go_wp2_with fail
  refine (isNumber_b _ false _ HB.out).mono ?_
  rintro e w' ⟨rfl, rfl⟩
  go_wp2_with fail
  go_ret2
  exact ⟨by rw [eV_err (by omega)] <;> rfl, rfl⟩
set_option maxHeartbeats 8000000 in
theorem plan_more (m : Nat) (hm : m ≤ 2) (w : World) : Calls Tryd.prog 10 #[.int .i64 ((4 + m : Nat) : Int)] w fun e w' => (∃ v, e = .returned (.tuple #[v, .nilIface]) ∧ CallsF w.heap.size w' v (outerL m ++ innerL ++ outerL m)) ∧ Below w.heap.size w w' := by
  have HB : Hid (inR ((4 + m : Nat) : Int) 1 6 = true) := by show _ = _; simp [inR]; omega
  have HOut : Hid (∀ w, Calls Tryd.prog 42 #[.int .i64 ((4 + m : Nat) : Int)] w fun e w' => (∃ v us, e = .returned v ∧ ValsIs w' v us ∧ Hold w' us (outerL m) ∧ FrV w.heap.size us) ∧ Below w.heap.size w w') := outer_c m hm
  obtain ⟨M, HM⟩ : ∃ M : Int, Hid (((4 + m : Nat) : Int) = M) := ⟨_, rfl⟩
  have h1 : (M == 1) = false := by have := HM.out; simp; omega
  have h2 : (M == 2) = false := by have := HM.out; simp; omega
  have h3 : (M == 3) = false := by have := HM.out; simp; omega
  have HLo : Hid ((outerL m).length = m) := by show _ = _; simp [outerL]
  rw [HM.out] at HB HOut ⊢
  clear HM
  go_enter Tryd.func10, Tryd.ntmps10
  go_wp2_with fail
  refine (isNumber_b _ true _ HB.out).mono ?_
  rintro e w' ⟨rfl, rfl⟩
  go_upto_region 10 with fail
  go_cut [4] (fun c4 wc => ∃ v us, c4 = v ∧ Hid (ValsIs wc v us) ∧ Hid (Hold wc us innerL) ∧ Hid (FrV w'.heap.size us) ∧ Hid (Below w'.heap.size w' wc))
  case first =>
    go_wp2_with fail
    go_meet
    case rel =>
      refine ⟨_, _, rfl, vals_cells (us := [.slice (some ⟨w'.heap.size, 0, none⟩) 2 2, .slice (some ⟨w'.heap.size + 1, 0, none⟩) 2 2, .slice (some ⟨w'.heap.size + 1 + 1, 0, none⟩) 2 2, .slice (some ⟨w'.heap.size + 1 + 1 + 1, 0, none⟩) 2 2]) (by simp [maxLen]) (by simp) (fun j hj => ?_), ?_, ?_, ?_⟩
      · rw [World.cell?_alloc_at _ _ _ _ (by simp)]
        match j, hj with
        | 0, _ => rfl
        | 1, _ => rfl
        | 2, _ => rfl
        | 3, _ => rfl
      · exact (((ints_new w' 0 1 _ (by simp)).below (by go_grown)).hold (((ints_new (w'.alloc (.cells #[.int .i64 0, .int .i64 1] 3)) 2 3 _ (by simp)).below (by go_grown)).hold (((ints_new ((w'.alloc (.cells #[.int .i64 0, .int .i64 1] 3)).alloc (.cells #[.int .i64 2, .int .i64 3] 3)) 0 2 _ (by simp)).below (by go_grown)).hold (((ints_new (((w'.alloc (.cells #[.int .i64 0, .int .i64 1] 3)).alloc (.cells #[.int .i64 2, .int .i64 3] 3)).alloc (.cells #[.int .i64 0, .int .i64 2] 3)) 1 3 _ (by simp)).below (by go_grown)).hold (Hold.nil _)))))
      · exact FrV.cons (by omega) (FrV.cons (by omega) (FrV.cons (by omega) (FrV.cons (by omega) (FrV.nil _))))
      · show Below _ _ _
        go_grown
  case rest =>
  obtain ⟨vi, ui, hvi, HVi, HHi, HFi, HBi⟩ := hcut
  have hvi' := hvi.symm
  subst hvi'
  obtain ⟨w2, hren⟩ : ∃ x, x = wc := ⟨_, rfl⟩
  subst hren
  go_wp2_with fail
  refine (HOut.out _).mono ?_
  rintro e w3 ⟨⟨v3, u3, rfl, hv3, hh3, hf3⟩, hb⟩
  have HF3 : Hid (FrV w'.heap.size u3) := hf3.mono HBi.out.size
  have HV3 : Hid (ValsIs w3 v3 u3) := hv3
  have HH3 : Hid (Hold w3 u3 (outerL m)) := hh3
  have HVi3 : Hid (ValsIs w3 vi ui) := HVi.out.below hb
  have HHi3 : Hid (Hold w3 ui innerL) := HHi.out.below hb
  have HB3 : Hid (Below w'.heap.size w' w3) := HBi.out.trans (hb.mono HBi.out.size)
  clear hv3 hh3 hf3 hb HVi HHi HBi
  go_wp2_with fail
  refine (HOut.out _).mono ?_
  rintro e w4 ⟨⟨v4, u4, rfl, hv4, hh4, hf4⟩, hb⟩
  have HF4 : Hid (FrV w'.heap.size u4) := hf4.mono HB3.out.size
  have HV4 : Hid (ValsIs w4 v4 u4) := hv4
  have HH4 : Hid (Hold w4 u4 (outerL m)) := hh4
  have HVi4 : Hid (ValsIs w4 vi ui) := HVi3.out.below hb
  have HHi4 : Hid (Hold w4 ui innerL) := HHi3.out.below hb
  have HV34 : Hid (ValsIs w4 v3 u3) := HV3.out.below hb
  have HH34 : Hid (Hold w4 u3 (outerL m)) := HH3.out.below hb
  have HB4 : Hid (Below w'.heap.size w' w4) := HB3.out.trans (hb.mono HB3.out.size)
  clear hv4 hh4 hf4 hb HVi3 HHi3 HV3 HH3 HB3
  obtain ⟨_, p3, k3, e3, _⟩ := HV34.out
  obtain ⟨_, pi, ki, ei, _⟩ := HVi4.out
  obtain ⟨_, p4, k4, e4, _⟩ := HV4.out
  have HCon : Hid (∀ W, W = w4.alloc (.cells #[v3, vi, v4] 22) → Calls Tryd.prog 41 #[.slice (some ⟨w4.heap.size, 0, none⟩) 3 3] W fun e w'' => (∃ v, e = .returned v ∧ CallsF w'.heap.size w'' v (outerL m ++ innerL ++ outerL m)) ∧ Below w'.heap.size w' w'') := by
    rintro W rfl
    have hg : Below w4.heap.size w4 (w4.alloc (.cells #[v3, vi, v4] 22)) := by go_grown
    have hlen : [u3, ui, u4].flatten.length = m + 4 + m := by
      have e1 := HH34.out.1
      have e2 := HHi4.out.1
      have e3 := HH4.out.1
      rw [HLo.out] at e1 e3
      have e4 : innerL.length = 4 := rfl
      rw [e4] at e2
      simp
      omega
    refine (concat_c w4.heap.size [v3, vi, v4] [u3, ui, u4] _ rfl (by simp) (by simp) (fun j hj => ?_) (fun j hj hj' => ?_) (fun X hX u hu => ?_) (by omega) (by omega)).mono ?_
    · match j, hj with
      | 0, _ => simp
      | 1, _ => simp
      | 2, _ => simp
    · match j, hj, hj' with
      | 0, _, _ => exact HV34.out.below hg
      | 1, _, _ => exact HVi4.out.below hg
      | 2, _, _ => exact HV4.out.below hg
    · simp at hX
      rcases hX with rfl | rfl | rfl
      · exact HH34.out.cell1 u hu
      · exact HHi4.out.cell1 u hu
      · exact HH4.out.cell1 u hu
    · rintro e w5 ⟨⟨v, rfl, ho⟩, hb⟩
      refine ⟨⟨v, rfl, ?_⟩, HB4.out.trans ((hg.mono HB4.out.size).trans (hb.mono (Nat.le_trans HB4.out.size hg.size)))⟩
      have hb2 : Below w4.heap.size w4 w5 := hg.trans (hb.mono hg.size)
      have hh := ((HH34.out.below hb2).app (HHi4.out.below hb2)).app (HH4.out.below hb2)
      refine hh.calls ?_ ((HF3.out.app HFi.out).app HF4.out) (fun c hc => Nat.le_trans (Nat.le_trans HB4.out.size hg.size) (ho.from c hc))
      have hv := ho.vals
      simpa using hv
  rw [e3, ei, e4] at HCon ⊢
  clear HV34 HVi4 HV4
  go_wp2_with fail
  refine Calls.mono (HCon.out _ rfl) ?_
  rintro e w5 ⟨⟨v5, rfl, hc5⟩, hb⟩
  have HC5 : Hid _ := hc5
  have HB5 : Hid _ := hb
  clear hc5 hb
  go_wp2_with fail
  go_ret2
  exact ⟨⟨_, rfl, HC5.out⟩, HB5.out⟩
set_option maxHeartbeats 8000000 in
theorem plan_ok (k : Nat) (h1 : 1 ≤ k) (h6 : k ≤ 6) (w : World) : Calls Tryd.prog 10 #[.int .i64 k] w fun e w' => (∃ v, e = .returned (.tuple #[v, .nilIface]) ∧ CallsF w.heap.size w' v (planL k)) ∧ Below w.heap.size w w' := by
  by_cases h4 : 4 ≤ k
  · have e : planL k = outerL (k - 4) ++ innerL ++ outerL (k - 4) := by rw [planL, if_neg (by omega), if_neg (by omega), if_neg (by omega)]
    have h := plan_more (k - 4) (by omega) w
    rw [show 4 + (k - 4) = k by omega] at h
    rw [e]
    exact h
  · have h3 : k = 1 ∨ k = 2 ∨ k = 3 := by omega
    rcases h3 with rfl | rfl | rfl
    · go_enter Tryd.func10, Tryd.ntmps10
      go_wp2_with fail
      refine (isNumber_b _ true _ (by decide)).mono ?_
      rintro e w' ⟨rfl, rfl⟩
      go_wp2_with fail
      go_ret2
      exact ⟨⟨_, rfl, [], rfl, ValsIs.nil _, (fun j h => absurd h (by simp)), FrV.nil _, fun c hc => by simp [Value.ownBlock] at hc⟩, Below.refl _ _⟩
    · go_enter Tryd.func10, Tryd.ntmps10
      go_wp2_with fail
      refine (isNumber_b _ true _ (by decide)).mono ?_
      rintro e w' ⟨rfl, rfl⟩
      go_wp2_with fail
      go_ret2
      refine ⟨⟨_, rfl, Hold.calls (us := [.slice (some ⟨w'.heap.size, 0, none⟩) 2 2]) (((ints_new w' 0 1 _ (by simp)).below (by go_grown)).hold (Hold.nil _)) (vals_cells (us := [.slice (some ⟨w'.heap.size, 0, none⟩) 2 2]) (by simp [maxLen]) (by simp) (fun j hj => ?_)) (FrV.cons (by omega) (FrV.nil _)) (fun c hc => by simp [Value.ownBlock] at hc; omega)⟩, by go_grown⟩
      rw [World.cell?_alloc_at _ _ _ _ (by simp)]
      match j, hj with
      | 0, _ => rfl
    · go_enter Tryd.func10, Tryd.ntmps10
      go_wp2_with fail
      refine (isNumber_b _ true _ (by decide)).mono ?_
      rintro e w' ⟨rfl, rfl⟩
      go_wp2_with fail
      go_ret2
      refine ⟨⟨_, rfl, Hold.calls (us := [.slice (some ⟨w'.heap.size, 0, none⟩) 2 2, .slice (some ⟨w'.heap.size + 1, 0, none⟩) 2 2, .slice (some ⟨w'.heap.size + 1 + 1, 0, none⟩) 2 2]) (((ints_new w' 0 1 _ (by simp)).below (by go_grown)).hold (((ints_new (w'.alloc (.cells #[.int .i64 0, .int .i64 1] 3)) 0 2 _ (by simp)).below (by go_grown)).hold (((ints_new ((w'.alloc (.cells #[.int .i64 0, .int .i64 1] 3)).alloc (.cells #[.int .i64 0, .int .i64 2] 3)) 0 1 _ (by simp)).below (by go_grown)).hold (Hold.nil _)))) (vals_cells (us := [.slice (some ⟨w'.heap.size, 0, none⟩) 2 2, .slice (some ⟨w'.heap.size + 1, 0, none⟩) 2 2, .slice (some ⟨w'.heap.size + 1 + 1, 0, none⟩) 2 2]) (by simp [maxLen]) (by simp) (fun j hj => ?_)) (FrV.cons (by omega) (FrV.cons (by omega) (FrV.cons (by omega) (FrV.nil _)))) (fun c hc => by simp [Value.ownBlock] at hc; omega)⟩, by go_grown⟩
      rw [World.cell?_alloc_at _ _ _ _ (by simp)]
      match j, hj with
      | 0, _ => rfl
      | 1, _ => rfl
      | 2, _ => rfl
end Go.Proofs.YtpcnfoaoajfhlaaDoor
