/-
  slices.Insert of one entry into a cache of the call's own, by its contract: at the end.
  slices.Insert of one entry into a cache of the call's own, by its contract: ahead of the end, with no room; and in all.
-/
import Derived.Test.YtpcnfoaoajfhlaaGreatDoorRaac
namespace Go.Proofs.YtpcnfoaoajfhlaaGreatDoor
set_option linter.unusedVariables false
set_option linter.unusedSimpArgs false
set_option linter.unusedVariables false
set_option linter.unusedSimpArgs false
open Go.RowKit Go.Lib

/-- a copy whose run is known, in a list -/
theorem wpList_copied {P : Program} {ops : Array Oper} {rest : List Oper} {o : Oper} {a : Act} {Q : Exit → Act → World → Prop} (w : World) (hgd : o.guard = none) (d s : Operand) (t t' : TypeId)
    (ho : o.op = .call { callee := .builtin .copy, args := #[d, s], argTypes := #[t, t'] }) (x y : Value) (hx : a.eval d = x) (hy : a.eval s = y) {v' : Value} {w' : World}
    (hr : (Builtin.copy_ #[t, t'] o.type #[x, y]).run P w = .ok v' w') (h : wpList P ops Q rest (a.put o.dst v') w') : wpList P ops Q (o :: rest) a w := by
  refine wpList_plain hgd fun _ hK => ?_
  unfold Oper.wp execOp
  simp only [ho, resolve, invoke, builtin, Sem.run_bind, Sem.run_pure, Result.andThen_ok, List.map_toArray, List.map_cons, List.map_nil, hx, hy, hr]
  exact hK _ _ h
/-- .. and at a step of a region that draws -/
theorem step_copied {P : Program} {ops : Array Oper} {o : Oper} {a : Act} {w : World} {K : Act → World → Prop} {Q : Exit → Act → World → Prop} {E : Prop}
    (hgd : o.guard = none) (d s : Operand) (t t' : TypeId) (ho : o.op = .call { callee := .builtin .copy, args := #[d, s], argTypes := #[t, t'] })
    (x y : Value) (hx : a.eval d = x) (hy : a.eval s = y) {v' : Value} {w' : World} (hr : (Builtin.copy_ #[t, t'] o.type #[x, y]).run P w = .ok v' w') (hK : K (a.put o.dst v') w') :
    if Region.wanted o (yielded ops a.tmps) = true then Oper.wp P o a w K Q else E := by
  rw [if_pos (by simp [Region.wanted, hgd])]
  unfold Oper.wp execOp
  simp only [ho, resolve, invoke, builtin, Sem.run_bind, Sem.run_pure, Result.andThen_ok, List.map_toArray, List.map_cons, List.map_nil, hx, hy, hr]
  exact hK

/-- what slices.Insert leaves -/
def Inserted (B : Nat) (w : World) (v : Value) (l : List En) (e : Ending) (w' : World) : Prop :=
  ∃ v', e = .returned v' ∧ w'.ownsRow B 46 5 v' l.length (rowC l) ∧ w.grownBy w' v.ownBlock

theorem heap_cells {w : World} {b : Nat} {cs : Array Value} {t : TypeId} (h : w.heap[b]? = some (.cells cs t (0, 0))) (j : Nat) (u : Value) (hu : cs.toList[j]? = some u) : w.cell? ⟨b, j, none⟩ = some u := by
  rw [cell_of_row w b j cs t (0, 0) h]
  simpa using hu

set_option maxHeartbeats 2000000 in
set_option maxRecDepth 100000 in
theorem insert_end (B : Nat) (v : Value) (l : List En) (x : En) (vb : Nat) (w : World) (ho : w.ownsRow B 46 5 v l.length (rowC l)) (hB : B ≤ w.heap.size) (h8 : l.length ≤ 8)
    (hv : w.heap[vb]? = some (.cells x.cells.toArray 46 (0, 0))) :
    Calls Tryz.prog 118 #[v, .int .i64 l.length, .slice (some ⟨vb, 0, none⟩) 1 1] w (Inserted B w v (l ++ [x])) := by
  obtain ⟨i0, hi0, hz0, hz1, hz2⟩ := info_parts infoEn
  have HO : Hid (w.ownsRow B 46 5 v l.length (rowC l)) := ho
  have HV : Hid (w.heap[vb]? = some (.cells x.cells.toArray 46 (0, 0))) := hv
  obtain ⟨p, cap, rfl, hcap⟩ : ∃ p cap, v = .slice p l.length cap ∧ l.length ≤ cap := by
    rcases ho.2 with ⟨rfl, h0⟩ | ⟨g, cap, cur, rfl, _, _, h, _⟩
    · exact ⟨none, 0, by rw [h0], by omega⟩
    · exact ⟨_, _, rfl, h⟩
  clear ho hv
  have HN : Hid (rowC (l ++ [x]) = rowC l ++ x.cells) := by
    show rowC (l ++ [x]) = _
    rw [rowC_append]; simp [rowC]
  go_enter Tryz.func118, Tryz.ntmps118
  have qc2 : ∀ (j : Nat) (u : Value), x.cells[j]? = some u → w.cell? ((⟨vb, 0, none⟩ : Addr).add j) = some u := World.news_of_block HV.out
  have qc3 : ∀ (u : Value), u ∈ x.cells → u.oneCell' = true := fun u hu => rowC_one [x] u (by simpa [rowC] using hu)
  have Q2 : Hid _ := qc2
  have Q3 : Hid _ := qc3
  clear qc2 qc3
  go_wp2_with (at_builtin; refine wpList_append_own _ rfl _ _ 32 rfl B 46 i0 _ 5 48 Tryz.underlying32 hi0 hz0 hz1 hz2 rfl (by omega) _ _ _ rfl HO.out ⟨vb, 0, none⟩ 1 1 x.cells rfl rfl Q2.out Q3.out (by unfold maxLen; omega) (by omega) hB ?_)
  all_goals
    intro v' w1 hown hgrow hnil
    have HOw : Hid _ := hown
    have HGr : Hid _ := hgrow
    clear hown hgrow
    go_wp2_with fail
    go_ret
    refine ⟨v', rfl, ?_, by cases p <;> exact HGr.out⟩
    rw [HN.out, List.length_append]
    exact HOw.out

theorem rowC_ins (l : List En) (i : Nat) (x : En) : rowC (l.take i ++ x :: l.drop i) = (rowC l).take (i * 5) ++ (x.cells ++ (rowC l).drop (i * 5)) := by
  rw [rowC_append, rowC_take, rowC, rowC_drop]
/-- the cells of a row with one more, put together -/
theorem ins_cells {w : World} {g i : Nat} {l : List En} {x : En} (hi : i ≤ l.length) (h1 : ∀ j, j < i * 5 → ∀ u, (rowC l)[j]? = some u → w.cell? ⟨g, j, none⟩ = some u)
    (h2 : ∀ j u, x.cells[j]? = some u → w.cell? ⟨g, i * 5 + j, none⟩ = some u) (h3 : ∀ j u, ((rowC l).drop (i * 5))[j]? = some u → w.cell? ⟨g, (i + 1) * 5 + j, none⟩ = some u) :
    ∀ j u, (rowC (l.take i ++ x :: l.drop i))[j]? = some u → w.cell? ⟨g, j, none⟩ = some u := by
  intro j u hu
  rw [rowC_ins] at hu
  have ht : ((rowC l).take (i * 5)).length = i * 5 := by rw [List.length_take, rowC_length]; omega
  rcases Nat.lt_or_ge j (i * 5) with hj | hj
  · rw [List.getElem?_append_left (by omega), List.getElem?_take, if_pos hj] at hu
    exact h1 j hj u hu
  · rw [List.getElem?_append_right (by omega), ht] at hu
    rcases Nat.lt_or_ge (j - i * 5) 5 with h | h
    · rw [List.getElem?_append_left (by rw [En.cells_length]; exact h)] at hu
      have := h2 _ _ hu
      rwa [show i * 5 + (j - i * 5) = j by omega] at this
    · rw [List.getElem?_append_right (by rw [En.cells_length]; exact h), En.cells_length] at hu
      have := h3 _ _ hu
      rwa [show (i + 1) * 5 + (j - i * 5 - 5) = j by omega] at this

set_option maxHeartbeats 4000000 in
set_option maxRecDepth 100000 in
theorem insert_shift (B g cap i : Nat) (cur : Array Value) (l : List En) (x : En) (vb : Nat) (w : World) (hBg : B ≤ g) (hg : w.heap[g]? = some (.cells cur 46 (0, 0))) (hcur : cur.size = cap * 5)
    (hx : ∀ j u, (rowC l)[j]? = some u → w.cell? ⟨g, j, none⟩ = some u) (hi : i < l.length) (hcap : l.length + 1 ≤ cap) (hmax : cap ≤ maxLen) (h8 : l.length ≤ 8) (hne : vb ≠ g)
    (hv : w.heap[vb]? = some (.cells x.cells.toArray 46 (0, 0))) :
    Calls Tryz.prog 118 #[.slice (some ⟨g, 0, none⟩) l.length cap, .int .i64 i, .slice (some ⟨vb, 0, none⟩) 1 1] w (Inserted B w (.slice (some ⟨g, 0, none⟩) l.length cap) (l.take i ++ x :: l.drop i)) := by
  obtain ⟨i0, hi0, hz0, hz1, hz2⟩ := info_parts infoEn
  have hsz : (Tryz.prog.info? 46).map (·.size) = some 5 := by rw [hi0]; simp [hz1]
  have hsome : ∀ j, j < cap * 5 → (w.cell? ⟨g, j, none⟩).isSome = true := fun j hj => by
    rw [cell_of_row w g j cur 46 (0, 0) hg, Array.getElem?_eq_getElem (by omega)]; rfl
  have hfz : ∀ j, w.frozen? ⟨g, j, none⟩ = false := fun j => by simp [World.frozen?, hg]
  have hfv : ∀ j, w.frozen? ⟨vb, j, none⟩ = false := fun j => by simp [World.frozen?, hv]
  have hsa : w.shape? vb = some (46, 5) := by simp [World.shape?, hv, En.cells]
  have hsb : w.shape? g = some (46, cap * 5) := by simp [World.shape?, hg, hcur]
  have qc2 : ∀ (j : Nat) (u : Value), x.cells[j]? = some u → w.cell? ((⟨vb, 0, none⟩ : Addr).add j) = some u := World.news_of_block hv
  have qc3 : ∀ (u : Value), u ∈ x.cells → u.oneCell' = true := fun u hu => rowC_one [x] u (by simpa [rowC] using hu)
  have hov : ∀ lb cb, (callFunc 161 #[.slice (some ⟨vb, 0, none⟩) 1 1, .slice (some ⟨g, (i + 1) * 5, none⟩) lb cb]).run Tryz.prog w = .ok (.value (.bool false)) w := fun lb cb => by
    rw [run_callFunc_extern Tryz.func161 (by kernel_rfl) (by kernel_rfl) (by kernel_rfl) (e := Extern.SlicesOverlaps.overlaps #[32, 32] #[4]) (by kernel_rfl),
      Lib.run_overlaps_apart w 32 4 46 Tryz.underlying32 5 (fun w => by simp [sizeOf, typeInfo, hi0, hz1]) ⟨vb, 0, none⟩ ⟨g, (i + 1) * 5, none⟩ 1 1 lb cb hne 46 46 5 (cap * 5) hsa hsb (by omega) (hfv 0) (hfv 5)]
    rfl
  have hz2' : ¬ ((i : Int) = (l.length : Int)) := by omega
  have hin : i ≤ l.length := by omega
  have hb1 : ¬ (cap : Int) < (l.length : Int) + 1 := by omega
  have hb2 : ¬ (cap = i + 1) := by omega
  have hb4 : ¬ (cap = i) := by omega
  have hc63 : cap ≤ 9223372036854775807 := hmax
  have hw1 : IntKind.i64.wrap ((i : Int) + 1) = (i : Int) + 1 := by rw [IntKind.wrap_i64]; omega
  have hb5 : (0 : Int) ≤ (i : Int) + 1 := by omega
  have htn : ((i : Int) + 1).toNat = i + 1 := by omega
  have hb3 : (i : Int) ≤ (l.length : Int) + 1 := by omega
  have hb6 : (i : Int) + 1 ≤ (l.length : Int) + 1 := by omega
  have hdl : ((rowC l).drop (i * 5)).length = (l.length - i) * 5 := by rw [List.length_drop, rowC_length]; omega
  have hcp1 : ∀ ty dc sc, (Builtin.copy_ #[32, 32] ty #[.slice (some ⟨g, (i + 1) * 5, none⟩) (l.length - i) dc, .slice (some ⟨g, i * 5, none⟩) (l.length + 1 - i) sc]).run Tryz.prog w.drew = .ok (goInt ((l.length - i : Nat) : Int)) (w.drew.setCells g ((i + 1) * 5) ((rowC l).drop (i * 5))) := fun ty dc sc =>
    run_copy_k w.drew _ _ ty 46 5 g ((i + 1) * 5) (l.length - i) dc ⟨g, i * 5, none⟩ (l.length + 1 - i) sc _ (l.length - i) Tryz.underlying32 hsz (by simp only [Nat.min_def]; split <;> omega) hdl
      (fun j v hj => by rw [Addr.add_lit]; exact hx (i * 5 + j) v (by rwa [List.getElem?_drop] at hj))
      (fun j hj => hsome _ (by rw [hdl] at hj; omega)) (fun j hj => hfz _) (fun v hv => rowC_one l v (List.mem_of_mem_drop hv))
  obtain ⟨W1, hW1⟩ : ∃ W1, W1 = w.drew.setCells g ((i + 1) * 5) ((rowC l).drop (i * 5)) := ⟨_, rfl⟩
  have hin1 : ∀ j u, ((rowC l).drop (i * 5))[j]? = some u → W1.cell? ⟨g, (i + 1) * 5 + j, none⟩ = some u := fun j u hu => by
    obtain ⟨hj, rfl⟩ := List.getElem?_eq_some_iff.1 hu
    rw [hW1]
    exact World.cell?_setCells_in g _ _ w.drew (fun j hj => hsome _ (by rw [hdl] at hj; omega)) j hj
  have hout1 : ∀ j, j < (i + 1) * 5 → W1.cell? ⟨g, j, none⟩ = w.cell? ⟨g, j, none⟩ := fun j hj => by
    rw [hW1]; exact World.cell?_setCells_out g _ _ w.drew _ (fun _ _ => .inl hj)
  have hoth1 : ∀ c, c ≠ g → W1.heap[c]? = w.heap[c]? := fun c hc => by rw [hW1]; exact setCells_other g _ _ w.drew c hc
  have hfz1 : ∀ a, W1.frozen? a = w.frozen? a := fun a => by rw [hW1, World.frozen?_setCells]; rfl
  obtain ⟨cur1, hg1, hs1⟩ : ∃ cur', W1.heap[g]? = some (.cells cur' 46 (0, 0)) ∧ cur'.size = cur.size := by rw [hW1]; exact setCells_block g 46 _ _ w.drew cur hg
  have hrest1 := setCells_rest g ((rowC l).drop (i * 5)) ((i + 1) * 5) w.drew
  have hsize1 := setCells_size g ((rowC l).drop (i * 5)) ((i + 1) * 5) w.drew
  rw [← hW1] at hcp1 hrest1 hsize1
  have hcp2 : ∀ (W : World), W.heap = W1.heap → ∀ ty dc, (Builtin.copy_ #[32, 32] ty #[.slice (some ⟨g, i * 5, none⟩) (l.length + 1 - i) dc, .slice (some ⟨vb, 0, none⟩) 1 1]).run Tryz.prog W = .ok (goInt 1) (W.setCells g (i * 5) x.cells) := fun W hW ty dc => by
    have eg : W.heap[g]? = some (.cells cur1 46 (0, 0)) := by rw [hW]; exact hg1
    refine run_copy_k W _ _ ty 46 5 g (i * 5) (l.length + 1 - i) dc ⟨vb, 0, none⟩ 1 1 x.cells 1 Tryz.underlying32 hsz (by simp only [Nat.min_def]; split <;> omega) rfl
      (World.news_of_block (by rw [hW, hoth1 vb hne]; exact hv)) (fun j hj => ?_) (fun j hj => ?_) qc3
    · rw [cell_of_row W g _ cur1 _ (0, 0) eg, Array.getElem?_eq_getElem (by rw [En.cells_length] at hj; omega)]; rfl
    · simp [World.frozen?, eg]
  have HE : Hid (∀ W : World, W.heap = W1.heap → W.os = w.os → W.tape = w.tape → W.output = w.output → Inserted B w (.slice (some ⟨g, 0, none⟩) l.length cap) (l.take i ++ x :: l.drop i) (.returned (.slice (some ⟨g, 0, none⟩) (l.length + 1) cap)) (W.setCells g (i * 5) x.cells)) := by
    intro W hW ho ht hou
    have eg : W.heap[g]? = some (.cells cur1 46 (0, 0)) := by rw [hW]; exact hg1
    obtain ⟨cur2, hg2, hs2⟩ := setCells_block g 46 x.cells (i * 5) W cur1 eg
    have hr2 := setCells_rest g x.cells (i * 5) W
    have hcW : ∀ a, W.cell? a = W1.cell? a := fun a => World.cell?_of_block (by rw [hW])
    have hlen : (l.take i ++ x :: l.drop i).length = l.length + 1 := by simp; omega
    refine ⟨_, rfl, ?_, ?_⟩
    · rw [hlen]
      refine ownsRow_of hBg hg2 hcap hmax (by omega) (by rw [rowC_length, hlen]) (ins_cells (by omega) ?_ ?_ ?_)
      · intro j hj u hu
        rw [World.cell?_setCells_out g _ _ W _ (fun _ _ => .inl hj), hcW, hout1 j (by omega)]
        exact hx j u hu
      · intro j u hu
        obtain ⟨hj, rfl⟩ := List.getElem?_eq_some_iff.1 hu
        exact World.cell?_setCells_in g _ _ W (fun j hj => by rw [cell_of_row W g _ cur1 _ (0, 0) eg, Array.getElem?_eq_getElem (by rw [En.cells_length] at hj; omega)]; rfl) j hj
      · intro j u hu
        rw [World.cell?_setCells_out g _ _ W _ (fun _ _ => .inr (by show i * 5 + 5 ≤ (i + 1) * 5 + j; omega)), hcW]
        exact hin1 j u hu
    · refine ⟨hr2.1.trans ho, hr2.2.1.trans ht, hr2.2.2.trans hou, ?_, fun c hc hne' => ?_⟩
      · rw [setCells_size, hW, hsize1]; exact Nat.le_refl _
      · have hcg : c ≠ g := fun h => hne' (by rw [h]; rfl)
        rw [setCells_other g _ _ W c hcg, hW, hoth1 c hcg]
  have HC1 : Hid _ := hcp1
  have HC2 : Hid _ := hcp2
  have HR1 : Hid _ := hrest1
  clear hcp1 hcp2 hrest1 hsize1 hin1 hout1 hoth1 hfz1 hg1 hs1 hdl hsome hfz hfv hsa hsb qc2 qc3 hx hW1
  generalize hn : l.length = n at *
  go_enter Tryz.func118, Tryz.ntmps118
  go_wp2_with (simp only [hov])
  go_region_law (refine step_copied rfl _ _ 32 32 rfl (.slice (some ⟨g, (i + 1) * 5, none⟩) (n - i) (cap - (i + 1))) (.slice (some ⟨g, i * 5, none⟩) (n + 1 - i) (cap - i)) (by simp [Act.eval, Act.put]) (by simp [Act.eval, Act.put]) (HC1.out 3 (cap - (i + 1)) (cap - i)) ?_)
  have hc2 := HC2.out W1 rfl
  go_wp2_with fail
  go_ret
  exact HE.out _ rfl HR1.out.1 HR1.out.2.1 HR1.out.2.2
end Go.Proofs.YtpcnfoaoajfhlaaGreatDoor

namespace Go.Proofs.YtpcnfoaoajfhlaaGreatDoor
set_option linter.unusedVariables false
set_option linter.unusedSimpArgs false
open Go.RowKit Go.Lib

theorem zeroCells_size (z : Array Value) (n : Nat) : (Builtin.zeroCells z n).size = n * z.size := by simp [Builtin.zeroCells]

set_option maxHeartbeats 4000000 in
set_option maxRecDepth 100000 in
theorem insert_grow (B g i : Nat) (l : List En) (x : En) (vb : Nat) (w : World) (hB : B ≤ w.heap.size) (hgw : g < w.heap.size)
    (hx : ∀ j u, (rowC l)[j]? = some u → w.cell? ⟨g, j, none⟩ = some u) (hi : i < l.length) (h8 : l.length ≤ 8)
    (hv : w.heap[vb]? = some (.cells x.cells.toArray 46 (0, 0))) :
    Calls Tryz.prog 118 #[.slice (some ⟨g, 0, none⟩) l.length l.length, .int .i64 i, .slice (some ⟨vb, 0, none⟩) 1 1] w (Inserted B w (.slice (some ⟨g, 0, none⟩) l.length l.length) (l.take i ++ x :: l.drop i)) := by
  obtain ⟨i0, hi0, hz0, hz1, hz2⟩ := info_parts infoEn
  have hsz : (Tryz.prog.info? 46).map (·.size) = some 5 := by rw [hi0]; simp [hz1]
  have hvw : vb < w.heap.size := (Array.getElem?_eq_some_iff.1 hv).1
  have qc3 : ∀ (u : Value), u ∈ x.cells → u.oneCell' = true := fun u hu => rowC_one [x] u (by simpa [rowC] using hu)
  have hold : (Builtin.firstCells i0.size i (.slice (some ⟨g, 0, none⟩) i l.length)).run Tryz.prog w.drew = .ok ((rowC l).take (i * 5)).toArray w.drew := by
    have hl := run_loadCells_list (P := Tryz.prog) w.drew ⟨g, 0, none⟩ ((rowC l).take (i * 5)) (fun j v hj => by
      rw [Addr.add_lit, Nat.zero_add]
      rw [List.getElem?_take] at hj
      split at hj
      · exact hx j v hj
      · cases hj)
    rw [List.length_take, rowC_length, Nat.min_eq_left (by omega)] at hl
    rw [hz1]
    exact hl
  obtain ⟨G, hG⟩ : ∃ G, G = grownCap w (l.length + 1) l.length 46 := ⟨_, rfl⟩
  obtain ⟨ROW, hROW⟩ : ∃ ROW : Array Value, ROW = ((rowC l).take (i * 5)).toArray ++ Builtin.zeroCells (Value.agg #[.int .i64 0, .int .i64 0, .int .i64 0, .bool false, .string ⟨#[]⟩]).cells (l.length + 1 - i) ++ Builtin.zeroCells (Value.agg #[.int .i64 0, .int .i64 0, .int .i64 0, .bool false, .string ⟨#[]⟩]).cells (G - (l.length + 1)) := ⟨_, rfl⟩
  have hGn : l.length + 1 ≤ G := by rw [hG]; exact grownCap_ge w _ _ _
  have hGm : G ≤ maxLen := by rw [hG]; exact grownCap_le_maxLen w _ _ _ (by unfold maxLen; omega)
  have hG63 : G ≤ 9223372036854775807 := hGm
  have hRs : ROW.size = G * 5 := by
    rw [hROW, Array.size_append, Array.size_append, zeroCells_size, zeroCells_size]
    simp only [List.size_toArray, List.length_take, rowC_length, Value.cells]
    show min (i * 5) (l.length * 5) + (l.length + 1 - i) * 5 + (G - (l.length + 1)) * 5 = G * 5
    rw [Nat.min_eq_left (by omega)]
    omega
  have hkk : (l.length : Int) + 1 - (i : Int) = ((l.length + 1 - i : Nat) : Int) := by omega
  obtain ⟨W1, hW1⟩ : ∃ W1, W1 = w.drew.alloc (.cells ROW 46) := ⟨_, rfl⟩
  have hrz : ∀ ty, (Builtin.append_ #[32, 3] ty #[.slice (some ⟨g, 0, none⟩) i l.length, .int .i64 ((l.length : Int) + 1 - (i : Int))]).run Tryz.prog w = .ok (.slice (some ⟨w.heap.size, 0, none⟩) (l.length + 1) G) W1 := fun ty => by
    have h := Lib.run_append_grow_zeros w 32 3 ty 46 i0 _ .i64 .i64 Tryz.underlying32 Tryz.underlying3 hi0 hz0 (some ⟨g, 0, none⟩) i l.length ((rowC l).take (i * 5)) hold (l.length + 1 - i) (by omega) (by omega) (by omega) (by omega) (by rw [hz2]; omega) (by rw [hz2, show i + (l.length + 1 - i) = l.length + 1 by omega]; exact growslice_fits (by omega) (by omega))
    rw [show i + (l.length + 1 - i) = l.length + 1 by omega, ← hG, ← hROW, ← hW1] at h
    rw [hkk]
    exact h
  have hg1 : W1.heap[w.heap.size]? = some (.cells ROW 46 (0, 0)) := by rw [hW1]; exact alloc_at w.drew _ _ rfl
  have hold1 : ∀ c, c < w.heap.size → W1.heap[c]? = w.heap[c]? := fun c hc => by rw [hW1]; exact Below.heap_alloc w.drew _ c hc
  have hs1 : W1.heap.size = w.heap.size + 1 := by rw [hW1]; simp
  have hr1 : W1.os = w.os ∧ W1.tape = w.tape ∧ W1.output = w.output := by rw [hW1]; exact ⟨rfl, rfl, rfl⟩
  obtain ⟨W2, hW2⟩ : ∃ W2, W2 = W1.setCells w.heap.size (i * 5) x.cells := ⟨_, rfl⟩
  have hsomeR : ∀ (W : World) (cur : Array Value), W.heap[w.heap.size]? = some (.cells cur 46 (0, 0)) → cur.size = G * 5 → ∀ j, j < G * 5 → (W.cell? ⟨w.heap.size, j, none⟩).isSome = true := fun W cur h hc j hj => by
    rw [cell_of_row W _ j cur 46 (0, 0) h, Array.getElem?_eq_getElem (by omega)]; rfl
  have hcp1 : ∀ ty dc, (Builtin.copy_ #[32, 32] ty #[.slice (some ⟨w.heap.size, i * 5, none⟩) (l.length + 1 - i) dc, .slice (some ⟨vb, 0, none⟩) 1 1]).run Tryz.prog W1 = .ok (goInt 1) W2 := fun ty dc => by
    rw [hW2]
    exact run_copy_k W1 _ _ ty 46 5 w.heap.size (i * 5) (l.length + 1 - i) dc ⟨vb, 0, none⟩ 1 1 x.cells 1 Tryz.underlying32 hsz (by simp only [Nat.min_def]; split <;> omega) rfl
      (World.news_of_block (by rw [hold1 vb hvw]; exact hv)) (fun j hj => hsomeR W1 ROW hg1 hRs _ (by rw [En.cells_length] at hj; omega)) (fun j hj => by simp [World.frozen?, hg1]) qc3
  obtain ⟨cur2, hg2, hs2⟩ : ∃ cur', W2.heap[w.heap.size]? = some (.cells cur' 46 (0, 0)) ∧ cur'.size = ROW.size := by rw [hW2]; exact setCells_block _ 46 _ _ W1 ROW hg1
  have hold2 : ∀ c, c < w.heap.size → W2.heap[c]? = w.heap[c]? := fun c hc => by rw [hW2, setCells_other _ _ _ W1 c (by omega)]; exact hold1 c hc
  obtain ⟨W3, hW3⟩ : ∃ W3, W3 = W2.drew.setCells w.heap.size ((i + 1) * 5) ((rowC l).drop (i * 5)) := ⟨_, rfl⟩
  have hdl : ((rowC l).drop (i * 5)).length = (l.length - i) * 5 := by rw [List.length_drop, rowC_length]; omega
  have hcp2 : ∀ ty dc sc, (Builtin.copy_ #[32, 32] ty #[.slice (some ⟨w.heap.size, (i + 1) * 5, none⟩) (l.length - i) dc, .slice (some ⟨g, i * 5, none⟩) (l.length - i) sc]).run Tryz.prog W2.drew = .ok (goInt ((l.length - i : Nat) : Int)) W3 := fun ty dc sc => by
    rw [hW3]
    exact run_copy_k W2.drew _ _ ty 46 5 w.heap.size ((i + 1) * 5) (l.length - i) dc ⟨g, i * 5, none⟩ (l.length - i) sc _ (l.length - i) Tryz.underlying32 hsz (by simp only [Nat.min_def]; split <;> omega) hdl
      (fun j v hj => by
        rw [Addr.add_lit]
        exact (World.cell?_of_block (a := ⟨g, i * 5 + j, none⟩) (hold2 g hgw)).trans (hx (i * 5 + j) v (by rwa [List.getElem?_drop] at hj)))
      (fun j hj => hsomeR W2 cur2 hg2 (by omega) _ (by rw [hdl] at hj; omega)) (fun j hj => by show W2.frozen? _ = false; simp [World.frozen?, hg2]) (fun v hv => rowC_one l v (List.mem_of_mem_drop hv))
  have HE : Hid (Inserted B w (.slice (some ⟨g, 0, none⟩) l.length l.length) (l.take i ++ x :: l.drop i) (.returned (.slice (some ⟨w.heap.size, 0, none⟩) (l.length + 1) G)) W3) := by
    obtain ⟨cur3, hg3, hs3⟩ : ∃ cur', W3.heap[w.heap.size]? = some (.cells cur' 46 (0, 0)) ∧ cur'.size = cur2.size := by rw [hW3]; exact setCells_block _ 46 _ _ W2.drew cur2 hg2
    have hlen : (l.take i ++ x :: l.drop i).length = l.length + 1 := by simp; omega
    have r2 := setCells_rest w.heap.size x.cells (i * 5) W1
    have r3 := setCells_rest w.heap.size ((rowC l).drop (i * 5)) ((i + 1) * 5) W2.drew
    rw [← hW2] at r2
    rw [← hW3] at r3
    refine ⟨_, rfl, ?_, ?_⟩
    · rw [hlen]
      refine ownsRow_of hB hg3 hGn hGm (by omega) (by rw [rowC_length, hlen]) (ins_cells (by omega) ?_ ?_ ?_)
      · intro j hj u hu
        rw [hW3, World.cell?_setCells_out _ _ _ W2.drew _ (fun _ _ => .inl (by show j < (i + 1) * 5; omega))]
        show W2.cell? _ = _
        rw [hW2, World.cell?_setCells_out _ _ _ W1 _ (fun _ _ => .inl hj), cell_of_row W1 _ j ROW _ (0, 0) hg1, hROW, Array.append_assoc, Array.getElem?_append_left (by simp [rowC_length]; omega)]
        simp only [List.getElem?_toArray, List.getElem?_take, if_pos hj]
        exact hu
      · intro j u hu
        obtain ⟨hj, rfl⟩ := List.getElem?_eq_some_iff.1 hu
        rw [hW3, World.cell?_setCells_out _ _ _ W2.drew _ (fun _ _ => .inl (by show i * 5 + j < (i + 1) * 5; rw [En.cells_length] at hj; omega))]
        show W2.cell? _ = _
        rw [hW2]
        exact World.cell?_setCells_in _ _ _ W1 (fun j hj => hsomeR W1 ROW hg1 hRs _ (by rw [En.cells_length] at hj; omega)) j hj
      · intro j u hu
        obtain ⟨hj, rfl⟩ := List.getElem?_eq_some_iff.1 hu
        rw [hW3]
        exact World.cell?_setCells_in _ _ _ W2.drew (fun j hj => hsomeR W2 cur2 hg2 (by omega) _ (by rw [hdl] at hj; omega)) j hj
    · refine ⟨r3.1.trans (r2.1.trans hr1.1), r3.2.1.trans (r2.2.1.trans hr1.2.1), r3.2.2.trans (r2.2.2.trans hr1.2.2), ?_, fun c hc _ => ?_⟩
      · rw [hW3, setCells_size]
        show _ ≤ W2.heap.size
        rw [hW2, setCells_size, hs1]
        omega
      · rw [hW3, setCells_other _ _ _ W2.drew c (by omega)]
        exact hold2 c hc
  have hw1 : IntKind.i64.wrap ((i : Int) + 1) = (i : Int) + 1 := by rw [IntKind.wrap_i64]; omega
  have hb5 : (0 : Int) ≤ (i : Int) + 1 := by omega
  have htn : ((i : Int) + 1).toNat = i + 1 := by omega
  have hz2' : ¬ ((i : Int) = (l.length : Int)) := by omega
  have hz3 : (l.length : Int) < (l.length : Int) + 1 := by omega
  have hin : i ≤ l.length := by omega
  have hb3 : (i : Int) ≤ (l.length : Int) := by omega
  have hb4 : ¬ (l.length = i) := by omega
  have hb6 : (i : Int) + 1 ≤ (l.length : Int) + 1 := by omega
  have hb7 : (i : Int) ≤ (l.length : Int) + 1 := by omega
  have hGi : ¬ (G = i) := by omega
  have hGi1 : ¬ (G = i + 1) := by omega
  have HZ : Hid _ := hrz
  have HC2 : Hid _ := hcp2
  clear hrz hcp2 hdl hW1 hW2 hW3 hold2 hg2 hs2 hsomeR hr1 hs1 hold1 hg1 hkk hRs hROW hG hold qc3 hx hv hsz
  generalize hn : l.length = n at *
  go_enter Tryz.func118, Tryz.ntmps118
  go_wp2_with (at_builtin; refine Lib.wpList_append_run _ rfl _ _ _ _ rfl _ _ rfl rfl _ _ (HZ.out _) ?_)
  go_region_law (refine step_copied rfl _ _ 32 32 rfl (.slice (some ⟨w.heap.size, (i + 1) * 5, none⟩) (n - i) (G - (i + 1))) (.slice (some ⟨g, i * 5, none⟩) (n - i) (n - i)) (by simp [Act.eval, Act.put]) (by simp [Act.eval, Act.put]) (HC2.out 3 (G - (i + 1)) (n - i)) ?_)
  go_wp2_with fail
  go_ret
  exact HE.out

theorem insert_c (B : Nat) (v : Value) (i : Nat) (l : List En) (x : En) (vb : Nat) (w : World) (ho : w.ownsRow B 46 5 v l.length (rowC l)) (hB : B ≤ w.heap.size) (hi : i ≤ l.length) (h8 : l.length ≤ 8) (hne : v.ownBlock ≠ some vb)
    (hv : w.heap[vb]? = some (.cells x.cells.toArray 46 (0, 0))) :
    Calls Tryz.prog 118 #[v, .int .i64 i, .slice (some ⟨vb, 0, none⟩) 1 1] w (Inserted B w v (l.take i ++ x :: l.drop i)) := by
  by_cases hin : i = l.length
  · subst hin
    rw [List.take_length, List.drop_length]
    exact insert_end B v l x vb w ho hB h8 hv
  · have hx : ∀ g, v.ownBlock = some g → ∀ j u, (rowC l)[j]? = some u → w.cell? ⟨g, j, none⟩ = some u := fun g hg j u hu => by
      have := ho.cells (g := g) hg j u hu
      simpa [Addr.add_lit] using this
    rcases ho.2 with ⟨rfl, h0⟩ | ⟨g, cap, cur, rfl, h1, hg, hc1, hc2, hs, _⟩
    · omega
    · have hgw : g < w.heap.size := (Array.getElem?_eq_some_iff.1 hg).1
      by_cases hc : l.length + 1 ≤ cap
      · exact insert_shift B g cap i cur l x vb w h1 hg hs (hx g rfl) (by omega) hc hc2 h8 (fun h => hne (by rw [h]; rfl)) hv
      · obtain rfl : cap = l.length := by omega
        exact insert_grow B g i l x vb w hB hgw (hx g rfl) (by omega) h8 hv
end Go.Proofs.YtpcnfoaoajfhlaaGreatDoor
