/-
  slices.Insert of one entry into a cache of the call's own, by its contract: ahead of the end, with no room; and in all.
  Package cache by its contracts: put.
-/
import Derived.Test.YtpcnfoaoajfhlaaGreatDoorRaad
import Derived.Deep.RegionWith
namespace Go.Proofs.YtpcnfoaoajfhlaaGreatDoor
set_option linter.unusedVariables false
set_option linter.unusedSimpArgs false
set_option linter.unusedVariables false
set_option linter.unusedSimpArgs false
open Go.RowKit Go.Lib

theorem zeroCells_size (z : Array Value) (n : Nat) : (Builtin.zeroCells z n).size = n * z.size := by simp [Builtin.zeroCells]

set_option maxHeartbeats 4000000 in
set_option maxRecDepth 100000 in
theorem insert_grow (B g i : Nat) (l : List En) (x : En) (vb : Nat) (w : World) (hB : B ≤ w.heap.size) (hgw : g < w.heap.size)
    (hx : ∀ j u, (rowC l)[j]? = some u → w.cell? ⟨g, j, none⟩ = some u) (hi : i < l.length) (h8 : l.length ≤ 8)
    (hv : w.heap[vb]? = some (.cells x.cells.toArray 46 (0, 0))) :
    Calls Tryz.prog 118 #[.slice (some ⟨g, 0, none⟩) l.length l.length, .int .i64 i, .slice (some ⟨vb, 0, none⟩) 1 1] w (Inserted B w (.slice (some ⟨g, 0, none⟩) l.length l.length) (l.take i ++ x :: l.drop i)) := by
  obtain ⟨i0, hi0, hz0, hz1, hz2⟩ := info_parts infoEn
  have hsz : (Tryz.prog.info? 46).map (·.size) = some 5 := by rw [hi0]; simp [hz1]
  have hvw : vb < w.heap.size := (Array.getElem?_eq_some_iff.1 hv).1
  have qc3 : ∀ (u : Value), u ∈ x.cells → u.oneCell' = true := fun u hu => rowC_one [x] u (by simpa [rowC] using hu)
  have hold : (Builtin.firstCells i0.size i (.slice (some ⟨g, 0, none⟩) i l.length)).run Tryz.prog w.drew = .ok ((rowC l).take (i * 5)).toArray w.drew := by
    have hl := run_loadCells_list (P := Tryz.prog) w.drew ⟨g, 0, none⟩ ((rowC l).take (i * 5)) (fun j v hj => by
      rw [Addr.add_lit, Nat.zero_add]
      rw [List.getElem?_take] at hj
      split at hj
      · exact hx j v hj
      · cases hj)
    rw [List.length_take, rowC_length, Nat.min_eq_left (by omega)] at hl
    rw [hz1]
    exact hl
  obtain ⟨G, hG⟩ : ∃ G, G = grownCap w (l.length + 1) l.length 46 := ⟨_, rfl⟩
  obtain ⟨ROW, hROW⟩ : ∃ ROW : Array Value, ROW = ((rowC l).take (i * 5)).toArray ++ Builtin.zeroCells (Value.agg #[.int .i64 0, .int .i64 0, .int .i64 0, .bool false, .string ⟨#[]⟩]).cells (l.length + 1 - i) ++ Builtin.zeroCells (Value.agg #[.int .i64 0, .int .i64 0, .int .i64 0, .bool false, .string ⟨#[]⟩]).cells (G - (l.length + 1)) := ⟨_, rfl⟩
  have hGn : l.length + 1 ≤ G := by rw [hG]; exact grownCap_ge w _ _ _
  have hGm : G ≤ maxLen := by rw [hG]; exact grownCap_le_maxLen w _ _ _ (by unfold maxLen; omega)
  have hG63 : G ≤ 9223372036854775807 := hGm
  have hRs : ROW.size = G * 5 := by
    rw [hROW, Array.size_append, Array.size_append, zeroCells_size, zeroCells_size]
    simp only [List.size_toArray, List.length_take, rowC_length, Value.cells]
    show min (i * 5) (l.length * 5) + (l.length + 1 - i) * 5 + (G - (l.length + 1)) * 5 = G * 5
    rw [Nat.min_eq_left (by omega)]
    omega
  have hkk : (l.length : Int) + 1 - (i : Int) = ((l.length + 1 - i : Nat) : Int) := by omega
  obtain ⟨W1, hW1⟩ : ∃ W1, W1 = w.drew.alloc (.cells ROW 46) := ⟨_, rfl⟩
  have hrz : ∀ ty, (Builtin.append_ #[32, 3] ty #[.slice (some ⟨g, 0, none⟩) i l.length, .int .i64 ((l.length : Int) + 1 - (i : Int))]).run Tryz.prog w = .ok (.slice (some ⟨w.heap.size, 0, none⟩) (l.length + 1) G) W1 := fun ty => by
    have h := Lib.run_append_grow_zeros w 32 3 ty 46 i0 _ .i64 .i64 Tryz.underlying32 Tryz.underlying3 hi0 hz0 (some ⟨g, 0, none⟩) i l.length ((rowC l).take (i * 5)) hold (l.length + 1 - i) (by omega) (by omega) (by omega) (by omega) (by rw [hz2]; omega) (by rw [hz2, show i + (l.length + 1 - i) = l.length + 1 by omega]; exact growslice_fits (by omega) (by omega))
    rw [show i + (l.length + 1 - i) = l.length + 1 by omega, ← hG, ← hROW, ← hW1] at h
    rw [hkk]
    exact h
  have hg1 : W1.heap[w.heap.size]? = some (.cells ROW 46 (0, 0)) := by rw [hW1]; exact alloc_at w.drew _ _ rfl
  have hold1 : ∀ c, c < w.heap.size → W1.heap[c]? = w.heap[c]? := fun c hc => by rw [hW1]; exact Below.heap_alloc w.drew _ c hc
  have hs1 : W1.heap.size = w.heap.size + 1 := by rw [hW1]; simp
  have hr1 : W1.os = w.os ∧ W1.tape = w.tape ∧ W1.output = w.output := by rw [hW1]; exact ⟨rfl, rfl, rfl⟩
  obtain ⟨W2, hW2⟩ : ∃ W2, W2 = W1.setCells w.heap.size (i * 5) x.cells := ⟨_, rfl⟩
  have hsomeR : ∀ (W : World) (cur : Array Value), W.heap[w.heap.size]? = some (.cells cur 46 (0, 0)) → cur.size = G * 5 → ∀ j, j < G * 5 → (W.cell? ⟨w.heap.size, j, none⟩).isSome = true := fun W cur h hc j hj => by
    rw [cell_of_row W _ j cur 46 (0, 0) h, Array.getElem?_eq_getElem (by omega)]; rfl
  have hcp1 : ∀ ty dc, (Builtin.copy_ #[32, 32] ty #[.slice (some ⟨w.heap.size, i * 5, none⟩) (l.length + 1 - i) dc, .slice (some ⟨vb, 0, none⟩) 1 1]).run Tryz.prog W1 = .ok (goInt 1) W2 := fun ty dc => by
    rw [hW2]
    exact run_copy_k W1 _ _ ty 46 5 w.heap.size (i * 5) (l.length + 1 - i) dc ⟨vb, 0, none⟩ 1 1 x.cells 1 Tryz.underlying32 hsz (by simp only [Nat.min_def]; split <;> omega) rfl
      (World.news_of_block (by rw [hold1 vb hvw]; exact hv)) (fun j hj => hsomeR W1 ROW hg1 hRs _ (by rw [En.cells_length] at hj; omega)) (fun j hj => by simp [World.frozen?, hg1]) qc3
  obtain ⟨cur2, hg2, hs2⟩ : ∃ cur', W2.heap[w.heap.size]? = some (.cells cur' 46 (0, 0)) ∧ cur'.size = ROW.size := by rw [hW2]; exact setCells_block _ 46 _ _ W1 ROW hg1
  have hold2 : ∀ c, c < w.heap.size → W2.heap[c]? = w.heap[c]? := fun c hc => by rw [hW2, setCells_other _ _ _ W1 c (by omega)]; exact hold1 c hc
  obtain ⟨W3, hW3⟩ : ∃ W3, W3 = W2.drew.setCells w.heap.size ((i + 1) * 5) ((rowC l).drop (i * 5)) := ⟨_, rfl⟩
  have hdl : ((rowC l).drop (i * 5)).length = (l.length - i) * 5 := by rw [List.length_drop, rowC_length]; omega
  have hcp2 : ∀ ty dc sc, (Builtin.copy_ #[32, 32] ty #[.slice (some ⟨w.heap.size, (i + 1) * 5, none⟩) (l.length - i) dc, .slice (some ⟨g, i * 5, none⟩) (l.length - i) sc]).run Tryz.prog W2.drew = .ok (goInt ((l.length - i : Nat) : Int)) W3 := fun ty dc sc => by
    rw [hW3]
    exact run_copy_k W2.drew _ _ ty 46 5 w.heap.size ((i + 1) * 5) (l.length - i) dc ⟨g, i * 5, none⟩ (l.length - i) sc _ (l.length - i) Tryz.underlying32 hsz (by simp only [Nat.min_def]; split <;> omega) hdl
      (fun j v hj => by
        rw [Addr.add_lit]
        exact (World.cell?_of_block (a := ⟨g, i * 5 + j, none⟩) (hold2 g hgw)).trans (hx (i * 5 + j) v (by rwa [List.getElem?_drop] at hj)))
      (fun j hj => hsomeR W2 cur2 hg2 (by omega) _ (by rw [hdl] at hj; omega)) (fun j hj => by show W2.frozen? _ = false; simp [World.frozen?, hg2]) (fun v hv => rowC_one l v (List.mem_of_mem_drop hv))
  have HE : Hid (Inserted B w (.slice (some ⟨g, 0, none⟩) l.length l.length) (l.take i ++ x :: l.drop i) (.returned (.slice (some ⟨w.heap.size, 0, none⟩) (l.length + 1) G)) W3) := by
    obtain ⟨cur3, hg3, hs3⟩ : ∃ cur', W3.heap[w.heap.size]? = some (.cells cur' 46 (0, 0)) ∧ cur'.size = cur2.size := by rw [hW3]; exact setCells_block _ 46 _ _ W2.drew cur2 hg2
    have hlen : (l.take i ++ x :: l.drop i).length = l.length + 1 := by simp; omega
    have r2 := setCells_rest w.heap.size x.cells (i * 5) W1
    have r3 := setCells_rest w.heap.size ((rowC l).drop (i * 5)) ((i + 1) * 5) W2.drew
    rw [← hW2] at r2
    rw [← hW3] at r3
    refine ⟨_, rfl, ?_, ?_⟩
    · rw [hlen]
      refine ownsRow_of hB hg3 hGn hGm (by omega) (by rw [rowC_length, hlen]) (ins_cells (by omega) ?_ ?_ ?_)
      · intro j hj u hu
        rw [hW3, World.cell?_setCells_out _ _ _ W2.drew _ (fun _ _ => .inl (by show j < (i + 1) * 5; omega))]
        show W2.cell? _ = _
        rw [hW2, World.cell?_setCells_out _ _ _ W1 _ (fun _ _ => .inl hj), cell_of_row W1 _ j ROW _ (0, 0) hg1, hROW, Array.append_assoc, Array.getElem?_append_left (by simp [rowC_length]; omega)]
        simp only [List.getElem?_toArray, List.getElem?_take, if_pos hj]
        exact hu
      · intro j u hu
        obtain ⟨hj, rfl⟩ := List.getElem?_eq_some_iff.1 hu
        rw [hW3, World.cell?_setCells_out _ _ _ W2.drew _ (fun _ _ => .inl (by show i * 5 + j < (i + 1) * 5; rw [En.cells_length] at hj; omega))]
        show W2.cell? _ = _
        rw [hW2]
        exact World.cell?_setCells_in _ _ _ W1 (fun j hj => hsomeR W1 ROW hg1 hRs _ (by rw [En.cells_length] at hj; omega)) j hj
      · intro j u hu
        obtain ⟨hj, rfl⟩ := List.getElem?_eq_some_iff.1 hu
        rw [hW3]
        exact World.cell?_setCells_in _ _ _ W2.drew (fun j hj => hsomeR W2 cur2 hg2 (by omega) _ (by rw [hdl] at hj; omega)) j hj
    · refine ⟨r3.1.trans (r2.1.trans hr1.1), r3.2.1.trans (r2.2.1.trans hr1.2.1), r3.2.2.trans (r2.2.2.trans hr1.2.2), ?_, fun c hc _ => ?_⟩
      · rw [hW3, setCells_size]
        show _ ≤ W2.heap.size
        rw [hW2, setCells_size, hs1]
        omega
      · rw [hW3, setCells_other _ _ _ W2.drew c (by omega)]
        exact hold2 c hc
  have hw1 : IntKind.i64.wrap ((i : Int) + 1) = (i : Int) + 1 := by rw [IntKind.wrap_i64]; omega
  have hb5 : (0 : Int) ≤ (i : Int) + 1 := by omega
  have htn : ((i : Int) + 1).toNat = i + 1 := by omega
  have hz2' : ¬ ((i : Int) = (l.length : Int)) := by omega
  have hz3 : (l.length : Int) < (l.length : Int) + 1 := by omega
  have hin : i ≤ l.length := by omega
  have hb3 : (i : Int) ≤ (l.length : Int) := by omega
  have hb4 : ¬ (l.length = i) := by omega
  have hb6 : (i : Int) + 1 ≤ (l.length : Int) + 1 := by omega
  have hb7 : (i : Int) ≤ (l.length : Int) + 1 := by omega
  have hGi : ¬ (G = i) := by omega
  have hGi1 : ¬ (G = i + 1) := by omega
  have HZ : Hid _ := hrz
  have HC2 : Hid _ := hcp2
  clear hrz hcp2 hdl hW1 hW2 hW3 hold2 hg2 hs2 hsomeR hr1 hs1 hold1 hg1 hkk hRs hROW hG hold qc3 hx hv hsz
  generalize hn : l.length = n at *
  go_enter Tryz.func118, Tryz.ntmps118
  go_wp2_with (at_builtin; refine Lib.wpList_append_run _ rfl _ _ _ _ rfl _ _ rfl rfl _ _ (HZ.out _) ?_)
  go_region_law (refine step_copied rfl _ _ 32 32 rfl (.slice (some ⟨w.heap.size, (i + 1) * 5, none⟩) (n - i) (G - (i + 1))) (.slice (some ⟨g, i * 5, none⟩) (n - i) (n - i)) (by simp [Act.eval, Act.put]) (by simp [Act.eval, Act.put]) (HC2.out 3 (G - (i + 1)) (n - i)) ?_)
  go_wp2_with fail
  go_ret
  exact HE.out

theorem insert_c (B : Nat) (v : Value) (i : Nat) (l : List En) (x : En) (vb : Nat) (w : World) (ho : w.ownsRow B 46 5 v l.length (rowC l)) (hB : B ≤ w.heap.size) (hi : i ≤ l.length) (h8 : l.length ≤ 8) (hne : v.ownBlock ≠ some vb)
    (hv : w.heap[vb]? = some (.cells x.cells.toArray 46 (0, 0))) :
    Calls Tryz.prog 118 #[v, .int .i64 i, .slice (some ⟨vb, 0, none⟩) 1 1] w (Inserted B w v (l.take i ++ x :: l.drop i)) := by
  by_cases hin : i = l.length
  · subst hin
    rw [List.take_length, List.drop_length]
    exact insert_end B v l x vb w ho hB h8 hv
  · have hx : ∀ g, v.ownBlock = some g → ∀ j u, (rowC l)[j]? = some u → w.cell? ⟨g, j, none⟩ = some u := fun g hg j u hu => by
      have := ho.cells (g := g) hg j u hu
      simpa [Addr.add_lit] using this
    rcases ho.2 with ⟨rfl, h0⟩ | ⟨g, cap, cur, rfl, h1, hg, hc1, hc2, hs, _⟩
    · omega
    · have hgw : g < w.heap.size := (Array.getElem?_eq_some_iff.1 hg).1
      by_cases hc : l.length + 1 ≤ cap
      · exact insert_shift B g cap i cur l x vb w h1 hg hs (hx g rfl) (by omega) hc hc2 h8 (fun h => hne (by rw [h]; rfl)) hv
      · obtain rfl : cap = l.length := by omega
        exact insert_grow B g i l x vb w hB hgw (hx g rfl) (by omega) h8 hv
end Go.Proofs.YtpcnfoaoajfhlaaGreatDoor

namespace Go.Proofs.YtpcnfoaoajfhlaaGreatDoor
set_option linter.unusedVariables false
set_option linter.unusedSimpArgs false
open Go.RowKit Go.Lib

/-- put, on lists: the row, whether it is another one, the fault -/
def putE (l : List En) (e : En) : List En × Bool × Int :=
  match getE l e.k with
  | none => (l.take (placeE l e.k) ++ e :: l.drop (placeE l e.k), true, 0)
  | some x => if (joinE x e).2 ≠ 0 then ([], false, (joinE x e).2) else (l.set (placeE l e.k) (joinE x e).1, !((joinE x e).1.same x), 0)
/-- what put leaves -/
def PutIs (B : Nat) (w : World) (v : Value) (r : List En × Bool × Int) (e : Ending) (w' : World) : Prop :=
  ∃ v', e = .returned (.tuple #[v', .bool r.2.1, eV r.2.2]) ∧ w'.ownsRow B 46 5 v' r.1.length (rowC r.1) ∧ w.grownBy w' v.ownBlock

theorem below_undrew {w w' : World} {B : Nat} (h : Below B w.drew w') : Below B w w' := ⟨h.os, h.tape, h.output, h.size, h.block⟩
theorem grownBy_of_below {w w' : World} {r : Option Nat} (h : Below w.heap.size w w') : w.grownBy w' r := ⟨h.os, h.tape, h.output, h.size, fun k hk _ => h.block k hk⟩
theorem grownBy_after {w w1 w' : World} {r : Option Nat} (h : Below w.heap.size w w1) (h' : w1.grownBy w' r) : w.grownBy w' r :=
  ⟨h'.os.trans h.os, h'.tape.trans h.tape, h'.output.trans h.output, Nat.le_trans h.size h'.size, fun k hk hne => (h'.block k (Nat.lt_of_lt_of_le hk h.size) hne).trans (h.block k hk)⟩
theorem ownsRow_below {w w' : World} {B : Nat} {e : TypeId} {size : Nat} {v : Value} {n : Nat} {xs : List Value} (h : w.ownsRow B e size v n xs) (hb : Below w.heap.size w w') : w'.ownsRow B e size v n xs := by
  refine ⟨h.1, ?_⟩
  rcases h.2 with hn | ⟨g, cap, cur, rfl, h1, hg, rest⟩
  · exact .inl hn
  · exact .inr ⟨g, cap, cur, rfl, h1, (hb.block g (Array.getElem?_eq_some_iff.1 hg).1).trans hg, rest⟩
theorem ownsRow_lt {w : World} {B : Nat} {e : TypeId} {size : Nat} {v : Value} {n : Nat} {xs : List Value} (h : w.ownsRow B e size v n xs) (g : Nat) (hg : v.ownBlock = some g) : g < w.heap.size := by
  rcases h.2 with ⟨rfl, _⟩ | ⟨g', cap, cur, rfl, _, hg', _⟩
  · cases hg
  · obtain rfl : g' = g := by simpa [Value.ownBlock] using hg
    exact (Array.getElem?_eq_some_iff.1 hg').1

set_option maxHeartbeats 4000000 in
theorem put_none (B : Nat) (v : Value) (l : List En) (k vv a : Int) (g : Bool) (t : ByteArray) (w : World) (ho : w.ownsRow B 46 5 v l.length (rowC l)) (hB : B ≤ w.heap.size) (hg : GoodL l) (hk : getE l k = none) :
    Calls Tryz.prog 71 #[v, .agg #[.int .i64 k, .int .i64 vv, .int .i64 a, .bool g, .string t]] w (PutIs B w v (l.take (placeE l k) ++ ⟨k, vv, a, g, t⟩ :: l.drop (placeE l k), true, 0)) := by
  have HO : Hid (w.ownsRow B 46 5 v l.length (rowC l)) := ho
  have HG : Hid (GoodL l) := hg
  have HK : Hid (getE l k = none) := hk
  have HL : Hid (∀ g, v.ownBlock = some g → g < w.heap.size) := ownsRow_lt ho
  have HB0 : Hid (Below w.heap.size w (w.alloc (.cells #[.int .i64 k, .int .i64 vv, .int .i64 a, .bool g, .string t] 46))) := by show Below _ _ _; go_grown
  have hpl := placeE_le l k
  have HPl : Hid _ := hpl
  obtain ⟨m, HM⟩ : ∃ m, Hid (placeE l k = m) := ⟨_, rfl⟩
  clear ho hg hk hpl
  rw [HM.out]
  go_enter Tryz.func71, Tryz.ntmps71
  go_wp2_with fail
  refine (place_c v l k _ (RowIs.own (ownsRow_below HO.out HB0.out)) HG.out).mono ?_
  rintro e w1 ⟨rfl, hb⟩
  rw [HK.out, HM.out]
  have B1 : Hid (Below w.heap.size w w1) := HB0.out.trans (hb.mono (by simp))
  obtain ⟨a0, a1, a2, a3, a4, af⟩ := (box_new w k vv a g t w.heap.size rfl).below hb (by simp)
  clear hb
  go_wp2_with fail
  have B2 : Hid (Below w.heap.size w (w1.alloc (.cells #[.int .i64 k, .int .i64 vv, .int .i64 a, .bool g, .string t] 46))) := B1.out.alloc B1.out.size _
  refine (insert_c B v m l ⟨k, vv, a, g, t⟩ w1.heap.size _ (ownsRow_below HO.out B2.out) (by have := B2.out.size; omega) (by rw [← HM.out]; exact HPl.out) HG.out.len (fun h => by have := HL.out _ h; have := B1.out.size; omega) (alloc_at _ _ _ rfl)).mono ?_
  rintro e w3 ⟨v', rfl, hown, hgrow⟩
  have HOw : Hid _ := hown
  have HGr : Hid _ := hgrow
  clear hown hgrow
  go_wp2_with fail
  go_ret3
  exact ⟨v', rfl, HOw.out, grownBy_after B2.out HGr.out⟩
theorem neq_cells (x0 x1 x2 : Int) (x3 : Bool) (x4 : ByteArray) (y0 y1 y2 : Int) (y3 : Bool) (y4 : ByteArray) (b : Bool) (h : En.same ⟨x0, x1, x2, x3, x4⟩ ⟨y0, y1, y2, y3, y4⟩ = b) (w : World) : (binOp .neq 46 (.agg #[.int .i64 x0, .int .i64 x1, .int .i64 x2, .bool x3, .string x4]) (.agg #[.int .i64 y0, .int .i64 y1, .int .i64 y2, .bool y3, .string y4])).run Tryz.prog w = .ok (.bool !b) w := by
  have h1 := eql_enIn ⟨x0, x1, x2, x3, x4⟩ ⟨y0, y1, y2, y3, y4⟩ w
  rw [h] at h1
  unfold En.val at h1
  rw [run_neq_struct, h1]
  rfl

theorem set_cells {w : World} {g m : Nat} {l : List En} {x : En} (hm : m < l.length) (h1 : ∀ j, (j < m * 5 ∨ m * 5 + 5 ≤ j) → ∀ u, (rowC l)[j]? = some u → w.cell? ⟨g, j, none⟩ = some u)
    (h2 : ∀ j u, x.cells[j]? = some u → w.cell? ⟨g, m * 5 + j, none⟩ = some u) : ∀ j u, (rowC (l.set m x))[j]? = some u → w.cell? ⟨g, j, none⟩ = some u := by
  have e : l.set m x = l.take m ++ x :: l.drop (m + 1) := List.set_eq_take_append_cons_drop.trans (if_pos hm)
  have e2 : rowC (l.set m x) = (rowC l).take (m * 5) ++ (x.cells ++ (rowC l).drop ((m + 1) * 5)) := by rw [e, rowC_append, rowC_take, rowC, rowC_drop]
  intro j u hu
  rw [e2] at hu
  have ht : ((rowC l).take (m * 5)).length = m * 5 := by rw [List.length_take, rowC_length]; omega
  rcases Nat.lt_or_ge j (m * 5) with hj | hj
  · rw [List.getElem?_append_left (by omega), List.getElem?_take, if_pos hj] at hu
    exact h1 j (.inl hj) u hu
  · rw [List.getElem?_append_right (by omega), ht] at hu
    rcases Nat.lt_or_ge (j - m * 5) 5 with h | h
    · rw [List.getElem?_append_left (by rw [En.cells_length]; exact h)] at hu
      have := h2 _ _ hu
      rwa [show m * 5 + (j - m * 5) = j by omega] at this
    · rw [List.getElem?_append_right (by rw [En.cells_length]; exact h), En.cells_length, List.getElem?_drop] at hu
      rw [show (m + 1) * 5 + (j - m * 5 - 5) = j by omega] at hu
      exact h1 j (.inr (by omega)) u hu

/-- a row of which one entry was written -/
theorem ownsRow_set {w W : World} {B m : Nat} {g cap : Nat} {l : List En} {x : En} (ho : w.ownsRow B 46 5 (.slice (some ⟨g, 0, none⟩) l.length cap) l.length (rowC l)) (hm : m < l.length) (hW : W.heap = (w.setCells g (m * 5) x.cells).heap) :
    W.ownsRow B 46 5 (.slice (some ⟨g, 0, none⟩) l.length cap) (l.set m x).length (rowC (l.set m x)) := by
  have hx : ∀ j u, (rowC l)[j]? = some u → w.cell? ⟨g, j, none⟩ = some u := fun j u hu => by
    have := ho.cells (g := g) rfl j u hu
    simpa [Addr.add_lit] using this
  rcases ho.2 with ⟨h, _⟩ | ⟨g', cap', cur, h, h1, hg, hc1, hc2, hs, _⟩
  · cases h
  · simp at h
    obtain ⟨rfl, rfl⟩ := h
    obtain ⟨cur', hg', hs'⟩ := setCells_block g 46 x.cells (m * 5) w cur hg
    rw [List.length_set]
    have hcW : ∀ a, W.cell? a = (w.setCells g (m * 5) x.cells).cell? a := fun a => World.cell?_of_block (by rw [hW])
    refine ownsRow_of h1 (by rw [hW]; exact hg') hc1 hc2 (by omega) (by rw [rowC_length, List.length_set]) (set_cells hm ?_ ?_)
    · intro j hj u hu
      rw [hcW, World.cell?_setCells_out g _ _ w _ (fun _ _ => hj)]
      exact hx j u hu
    · intro j u hu
      obtain ⟨hj, rfl⟩ := List.getElem?_eq_some_iff.1 hu
      rw [hcW]
      exact World.cell?_setCells_in g _ _ w (fun j hj => by rw [cell_of_row w g _ cur _ (0, 0) hg, Array.getElem?_eq_getElem (by rw [En.cells_length] at hj; omega)]; rfl) j hj

set_option maxHeartbeats 1000000 in
theorem put_some (B : Nat) (v : Value) (l : List En) (k vv a : Int) (g : Bool) (t : ByteArray) (x J : En) (n : Int) (w : World) (ho : w.ownsRow B 46 5 v l.length (rowC l)) (hB : B ≤ w.heap.size) (hg : GoodL l) (hk : getE l k = some x) (hj : joinE x ⟨k, vv, a, g, t⟩ = (J, n)) :
    Calls Tryz.prog 71 #[v, .agg #[.int .i64 k, .int .i64 vv, .int .i64 a, .bool g, .string t]] w (PutIs B w v (if n ≠ 0 then ([], false, n) else (l.set (placeE l k) J, !(J.same x), 0))) := by
  have HO : Hid (w.ownsRow B 46 5 v l.length (rowC l)) := ho
  have HG : Hid (GoodL l) := hg
  have HK : Hid (getE l k = some x) := hk
  obtain ⟨hm, hx, hxk⟩ := getE_some hg.rise hk
  clear hxk
  obtain ⟨G, cap, rfl, hBG, hGw⟩ := ho.form (by omega)
  have HAt : Hid (EnAt w G (placeE l k * 5) x) := by
    obtain ⟨_, p, c, hp, hr⟩ := RowIs.own ho
    simp at hp
    obtain ⟨rfl, rfl⟩ := hp
    obtain ⟨b, o, hbo, _, hat⟩ := hr (fun h => by simp [h] at hm)
    simp at hbo
    obtain ⟨rfl, rfl⟩ := hbo
    have := hat _ hm
    rw [hx, Nat.zero_add] at this
    exact this
  have HB0 : Hid (Below w.heap.size w (w.alloc (.cells #[.int .i64 k, .int .i64 vv, .int .i64 a, .bool g, .string t] 46))) := by show Below _ _ _; go_grown
  have HFz : Hid (∀ j, w.frozen? ⟨G, j, none⟩ = false) := fun j => by
    rcases ho.2 with ⟨h, _⟩ | ⟨g', cap', cur, h, h1, hg, _⟩
    · cases h
    · simp at h
      rw [h.1] 
      simp [World.frozen?, hg]
  obtain ⟨m, HM⟩ : ∃ m, Hid (placeE l k = m) := ⟨_, rfl⟩
  rw [HM.out] at hm HAt ⊢
  obtain ⟨N, HN⟩ : ∃ N, Hid (l.length = N) := ⟨_, rfl⟩
  have HSet : Hid (∀ (W0 W : World) (J : En), Below w.heap.size w W0 → W.heap = (W0.setCells G (m * 5) J.cells).heap → W.ownsRow B 46 5 (.slice (some ⟨G, 0, none⟩) N cap) (l.set m J).length (rowC (l.set m J))) := fun W0 W J h0 hW => by
    rw [← HN.out]
    exact ownsRow_set (ownsRow_below HO.out h0) hm hW
  have HPl : Hid (∀ W, Below w.heap.size w W → Calls Tryz.prog 117 #[.slice (some ⟨G, 0, none⟩) N cap, .int .i64 k] W fun e w' => e = .returned (.tuple #[.int .i64 m, .bool true]) ∧ Below W.heap.size W w') := fun W hW => by
    have c := place_c _ l k W (RowIs.own (ownsRow_below HO.out hW)) HG.out
    rw [HK.out, HM.out, HN.out] at c
    exact c
  obtain ⟨x0, x1, x2, x3, x4⟩ := x
  obtain ⟨J0, J1, J2, J3, J4⟩ := J
  have HJ : Hid (joinE ⟨x0, x1, x2, x3, x4⟩ ⟨k, vv, a, g, t⟩ = (⟨J0, J1, J2, J3, J4⟩, n)) := hj
  obtain ⟨R, HR⟩ : ∃ R, Hid ((if n ≠ 0 then ([], false, n) else (l.set m ⟨J0, J1, J2, J3, J4⟩, !(En.same ⟨J0, J1, J2, J3, J4⟩ ⟨x0, x1, x2, x3, x4⟩), 0)) = R) := ⟨_, rfl⟩
  rw [HR.out, HN.out]
  rw [HN.out] at hm
  have hm1 : (m : Int) < (N : Int) := by omega
  clear ho hg hk hx hj HO
  go_enter Tryz.func71, Tryz.ntmps71
  go_wp2_with fail
  refine Calls.mono (HPl.out _ HB0.out) ?_
  rintro e w1 ⟨rfl, hb⟩
  have B1 : Hid (Below w.heap.size w w1) := HB0.out.trans (hb.mono (by simp))
  have HE1 : Hid (BoxAt w1 w.heap.size k vv a g t) := (box_new w k vv a g t w.heap.size rfl).below hb (by simp)
  obtain ⟨a0, a1, a2, a3, a4, af⟩ := HE1.out
  have HA1 : Hid (EnAt w1 G (m * 5) ⟨x0, x1, x2, x3, x4⟩) := HAt.out.of_block (B1.out.block G hGw)
  obtain ⟨c0, c1, c2, c3, c4⟩ := HA1.out
  dsimp only at c0 c1 c2 c3 c4
  have hsz := hb.size
  have hGw1 : G < w1.heap.size := by simp at hsz; omega
  have hEw1 : w.heap.size < w1.heap.size := by simp at hsz; omega
  have p1 : ¬ G = w1.heap.size := by omega
  have p2 : ¬ w.heap.size = w1.heap.size := by omega
  have p3 : ¬ G = w.heap.size := by omega
  clear hb hsz
  go_upto_region 4 with fail
  go_cut [9, 10] (fun v9 v10 wc => ∃ K : Nat, v9 = .pointer (some ⟨K, 0, none⟩) ∧ v10 = eV n ∧ w1.heap.size ≤ K ∧ BoxAt wc K J0 J1 J2 J3 J4 ∧ Hid (Below w1.heap.size w1 wc))
  case first =>
    go_region_with (first | (go_at_call 119; refine (join_o HJ.out _).mono ?_; rintro e w7 ⟨rfl, hb7⟩; first | (have HE7 : Hid (BoxAt w7 w1.heap.size 0 0 0 false ⟨#[]⟩) := (box_new w1 0 0 0 false ⟨#[]⟩ w1.heap.size rfl).below (below_undrew hb7) (by simp); have HB7 : Hid (Below w1.heap.size w1 w7) := ((Below.refl _ w1).alloc (Nat.le_refl _) _).trans ((below_undrew hb7).mono (by simp)); obtain ⟨e0, e1, e2, e3, e4, ef⟩ := HE7.out; clear hb7) | (have HB7 : Hid (Below w1.heap.size w1 w7) := below_undrew hb7; clear hb7)))
    all_goals go_wp2_with fail
    all_goals go_meet
    all_goals first
      | exact ⟨_, rfl, rfl, HB7.out.size, box_new w7 J0 J1 J2 J3 J4 _ rfl, HB7.out.alloc HB7.out.size _⟩
      | exact ⟨_, rfl, rfl, Nat.le_refl _, HE7.out.set J0 J1 J2 J3 J4, ((((HB7.out.setCell (Nat.le_refl _) _).setCell (Nat.le_refl _) _).setCell (Nat.le_refl _) _).setCell (Nat.le_refl _) _).setCell (Nat.le_refl _) _⟩
  case rest =>
    obtain ⟨w2, h⟩ : ∃ x, x = wc := ⟨_, rfl⟩
    subst h
    obtain ⟨K, rfl, rfl, hK, bK, HB2⟩ := hcut
    have HBK : Hid (BoxAt w2 K J0 J1 J2 J3 J4) := bK
    have B2 : Hid (Below w.heap.size w w2) := B1.out.trans (HB2.out.mono B1.out.size)
    have HA2 : Hid (EnAt w2 G (m * 5) ⟨x0, x1, x2, x3, x4⟩) := HAt.out.of_block (B2.out.block G hGw)
    clear a0 a1 a2 a3 a4 af c0 c1 c2 c3 c4 bK
    by_cases hn : n = 0
    · subst hn
      have HR0 : Hid (R = (l.set m ⟨J0, J1, J2, J3, J4⟩, !(En.same ⟨J0, J1, J2, J3, J4⟩ ⟨x0, x1, x2, x3, x4⟩), 0)) := by
        show R = _
        rw [← HR.out, if_neg (by simp)]
      obtain ⟨sm, HSm⟩ : ∃ sm, Hid (En.same ⟨J0, J1, J2, J3, J4⟩ ⟨x0, x1, x2, x3, x4⟩ = sm) := ⟨_, rfl⟩
      have hq := neq_cells J0 J1 J2 J3 J4 x0 x1 x2 x3 x4 sm HSm.out
      have hgd := eqGuard_en
      obtain ⟨a0, a1, a2, a3, a4, af⟩ := HBK.out
      obtain ⟨c0, c1, c2, c3, c4⟩ := HA2.out
      dsimp only at c0 c1 c2 c3 c4
      have fz : ∀ j, w2.frozen? ⟨G, j, none⟩ = false := fun j => (World.frozen?_of_block (a := ⟨G, j, none⟩) (B2.out.block G hGw)).trans (HFz.out j)
      rw [eV, if_pos rfl]
      go_upto_region 7 with fail
      go_quiet (fail)
      go_wp2_with fail
      go_ret3
      have B3 : Below w.heap.size w (w2.drewN nq) := B2.out.trans (below_drewN _ _ _)
      refine ⟨.slice (some ⟨G, 0, none⟩) N cap, ?_, ?_, ?_⟩
      · rw [HR0.out, HSm.out]
        rfl
      · rw [HR0.out]
        exact HSet.out (w2.drewN nq) _ ⟨J0, J1, J2, J3, J4⟩ B3 rfl
      · refine grownBy_after B3 ⟨rfl, rfl, rfl, by simp, fun c hc hne => ?_⟩
        have hcG : c ≠ G := fun h => hne (by rw [h]; rfl)
        rw [Below.heap_setCell _ _ _ c hcG, Below.heap_setCell _ _ _ c hcG, Below.heap_setCell _ _ _ c hcG, Below.heap_setCell _ _ _ c hcG, Below.heap_setCell _ _ _ c hcG]
    · rw [eV, if_neg hn]
      go_wp2_with fail
      go_ret3
      refine ⟨.slice none 0 0, ?_, ?_, grownBy_of_below B2.out⟩
      · rw [← HR.out, if_pos hn]
        show _ = Ending.returned (.tuple #[.slice none 0 0, .bool false, eV n])
        rw [eV, if_neg hn]
        rfl
      · rw [← HR.out, if_pos hn]
        exact World.ownsRow_nil _ _ _ _

theorem put_c (B : Nat) (v : Value) (l : List En) (e : En) (w : World) (ho : w.ownsRow B 46 5 v l.length (rowC l)) (hB : B ≤ w.heap.size) (hg : GoodL l) :
    Calls Tryz.prog 71 #[v, e.val] w (PutIs B w v (putE l e)) := by
  obtain ⟨k, vv, a, g, t⟩ := e
  cases hk : getE l k with
  | none =>
    have hp : putE l ⟨k, vv, a, g, t⟩ = (l.take (placeE l k) ++ ⟨k, vv, a, g, t⟩ :: l.drop (placeE l k), true, 0) := by unfold putE; simp only [hk]
    rw [hp]
    exact put_none B v l k vv a g t w ho hB hg hk
  | some x =>
    have hp : putE l ⟨k, vv, a, g, t⟩ = (if (joinE x ⟨k, vv, a, g, t⟩).2 ≠ 0 then ([], false, (joinE x ⟨k, vv, a, g, t⟩).2) else (l.set (placeE l k) (joinE x ⟨k, vv, a, g, t⟩).1, !((joinE x ⟨k, vv, a, g, t⟩).1.same x), 0)) := by unfold putE; simp only [hk]
    rw [hp]
    exact put_some B v l k vv a g t x _ _ w ho hB hg hk rfl
end Go.Proofs.YtpcnfoaoajfhlaaGreatDoor
