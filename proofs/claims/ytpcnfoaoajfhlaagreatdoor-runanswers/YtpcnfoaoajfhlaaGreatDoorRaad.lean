/-
  slices.Clone at a cache, by its contract.
  copy at elements of several cells; a row that is written into.
  slices.Insert of one entry into a cache of the call's own, by its contract: at the end.
-/
import Derived.Test.YtpcnfoaoajfhlaaGreatDoorRaac
import Derived.Lib.Walk
import Derived.Lib.SliceRun
import Derived.Maps.AppendAt
import Derived.Laws.IdiomCopy
import Derived.Lib.Overlaps
import Derived.Lib.AppendZerosOnto
import Derived.Lib.JoinLaws
import Derived.Laws.NewBlocks
import Derived.Deep.RegionLaw
import Derived.Deep.AppendLies
import Derived.Laws.Rows
namespace Go.Proofs.YtpcnfoaoajfhlaaGreatDoor
set_option linter.unusedVariables false
set_option linter.unusedSimpArgs false
set_option linter.unusedVariables false
set_option linter.unusedSimpArgs false
open Go.RowKit Go.Lib

set_option maxHeartbeats 2000000 in
set_option maxRecDepth 100000 in
theorem clone_c (v : Value) (l : List En) (w : World) (hr : RowIs w v l) (h8 : l.length ≤ 8) :
    Calls Tryz.prog 56 #[v] w fun e w' => ∃ v', e = .returned v' ∧ w'.ownsRow w.heap.size 46 5 v' l.length (rowC l) ∧ Below w.heap.size w w' := by
  obtain ⟨i0, hi0, hz0, hz1, hz2⟩ := info_parts infoEn
  obtain ⟨hlen, p, cap, rfl, hrow⟩ := hr
  have q22 : ∀ (w : World) (a : Option Addr) (n c n' c' : Nat), (binOp .eql 32 (.slice a n c) (.slice none n' c')).run Tryz.prog w = .ok (.bool a.isNone) w := fun w a n c n' c' => Lib.run_eql_slice_nil w _ _ a n c n' c' Tryz.underlying32
  cases p with
  | none =>
    have hl : l = [] := by
      cases l with
      | nil => rfl
      | cons e l => obtain ⟨b, o, h, _⟩ := hrow (by simp); cases h
    subst hl
    go_enter Tryz.func56, Tryz.ntmps56
    go_wp2_with fail
    go_ret
    exact ⟨_, rfl, World.ownsRow_nil _ _ _ _, by go_grown⟩
  | some ad =>
    have HC : Hid (∀ j u, (rowC l)[j]? = some u → w.cell? (ad.add j) = some u) := by
      intro j u hu
      cases l with
      | nil => simp [rowC] at hu
      | cons e l =>
        obtain ⟨b, o, h, _, hat⟩ := hrow (by simp)
        obtain rfl := Option.some.inj h
        rw [Addr.add_lit]
        exact RowIs.cells (cap := 0) hat j u hu
    clear hrow
    go_enter Tryz.func56, Tryz.ntmps56
    go_wp2_with (at_builtin; refine wpList_append_own _ rfl _ _ 32 rfl w.heap.size 46 i0 _ 5 48 Tryz.underlying32 hi0 hz0 hz1 hz2 rfl (by omega) _ _ _ rfl (World.ownsRow_made w #[] 0 (Nat.le_refl _) (Nat.zero_le _) (by simp)) ad l.length cap (rowC l) rfl ?qc1 ?qc2 ?qc3 ?qc4 ?qc5 ?qc6 ?_)
    case qc1 => exact rowC_length l
    case qc2 =>
      intro j u hj
      exact Lib.cell?_alloc_some _ (HC.out j u hj)
    case qc3 => exact rowC_one l
    case qc4 => rw [Nat.zero_add]; exact hlen
    case qc5 => rw [Nat.zero_add]; omega
    case qc6 => simp
    intro v' w1 hown hgrow hnil
    go_wp2_with fail
    go_ret
    refine ⟨v', rfl, by simpa using hown, ?_⟩
    exact ((Below.refl _ w).alloc (Nat.le_refl _) _).grown hgrow (by simp) (by intro k hk; simp [Value.ownBlock] at hk; omega)
end Go.Proofs.YtpcnfoaoajfhlaaGreatDoor

namespace Go.Proofs.YtpcnfoaoajfhlaaGreatDoor
set_option linter.unusedVariables false
set_option linter.unusedSimpArgs false
open Go.RowKit Go.Lib

theorem run_copy_k {P : Program} (w : World) (dT sT ty elem : TypeId) (k b o dLen dCap : Nat) (a : Addr) (sLen sCap : Nat) (cs : List Value) (n : Nat)
    (hu : P.underlying dT = some (.slice elem)) (hs : (P.info? elem).map (·.size) = some k) (hn : Nat.min sLen dLen = n) (hl : cs.length = n * k)
    (hsrc : ∀ j v, cs[j]? = some v → w.cell? (a.add j) = some v) (hc : ∀ j, j < cs.length → (w.cell? ⟨b, o + j, none⟩).isSome = true) (hf : ∀ j, j < cs.length → w.frozen? ⟨b, o + j, none⟩ = false) (h1 : ∀ v ∈ cs, v.oneCell' = true) :
    (Builtin.copy_ #[dT, sT] ty #[.slice (some ⟨b, o, none⟩) dLen dCap, .slice (some a) sLen sCap]).run P w = .ok (goInt n) (w.setCells b o cs) := by
  have hl' := run_loadCells_list (P := P) w a cs hsrc
  rw [hl] at hl'
  have hst := run_storeCells_cells (P := P) b o cs 0 w (by simpa using hc) (by simpa using hf) h1
  cases hq : P.info? elem with
  | none => simp [hq] at hs
  | some i =>
    have hi : i.size = k := by simpa [hq] using hs
    simp [Builtin.copy_, run_underlying hu, Builtin.lenOf, Builtin.firstCells, sizeOf, typeInfo, hq, hi, hn, hl', hst]

theorem setCells_block (b : Nat) (t : TypeId) : ∀ (vs : List Value) (o : Nat) (w : World) (cur : Array Value), w.heap[b]? = some (.cells cur t (0, 0)) → ∃ cur', (w.setCells b o vs).heap[b]? = some (.cells cur' t (0, 0)) ∧ cur'.size = cur.size
  | [], _, _, cur, h => ⟨cur, h, rfl⟩
  | v :: r, o, w, cur, h => by
    have h1 : (w.setCell ⟨b, o, none⟩ v).heap[b]? = some (.cells (cur.setIfInBounds o v) t (0, 0)) := by
      show (w.heap.modify b _)[b]? = _
      rw [Array.getElem?_modify, if_pos rfl, h]
      rfl
    obtain ⟨cur', h2, h3⟩ := setCells_block b t r (o + 1) _ _ h1
    exact ⟨cur', h2, by simpa using h3⟩
theorem setCells_other (b : Nat) : ∀ (vs : List Value) (o : Nat) (w : World) (c : Nat), c ≠ b → (w.setCells b o vs).heap[c]? = w.heap[c]?
  | [], _, _, _, _ => rfl
  | v :: r, o, w, c, h => by
    rw [World.setCells, setCells_other b r (o + 1) _ c h, Below.heap_setCell _ _ _ c h]
theorem setCells_size (b : Nat) : ∀ (vs : List Value) (o : Nat) (w : World), (w.setCells b o vs).heap.size = w.heap.size
  | [], _, _ => rfl
  | v :: r, o, w => by rw [World.setCells, setCells_size b r, World.size_setCell]
theorem setCells_rest (b : Nat) : ∀ (vs : List Value) (o : Nat) (w : World), (w.setCells b o vs).os = w.os ∧ (w.setCells b o vs).tape = w.tape ∧ (w.setCells b o vs).output = w.output
  | [], _, _ => ⟨rfl, rfl, rfl⟩
  | v :: r, o, w => setCells_rest b r (o + 1) (w.setCell ⟨b, o, none⟩ v)
theorem ownsRow_of {w : World} {B g n cap k : Nat} {e : TypeId} {cur : Array Value} {xs : List Value} (hB : B ≤ g) (hg : w.heap[g]? = some (.cells cur e (0, 0))) (hn : n ≤ cap) (hc : cap ≤ maxLen) (hs : cur.size = cap * k) (hl : xs.length = n * k)
    (hx : ∀ j u, xs[j]? = some u → w.cell? ⟨g, j, none⟩ = some u) : w.ownsRow B e k (.slice (some ⟨g, 0, none⟩) n cap) n xs := by
  refine ⟨hl, .inr ⟨g, cap, cur, rfl, hB, hg, hn, hc, hs, ?_⟩⟩
  have hle : n * k ≤ cap * k := Nat.mul_le_mul_right k hn
  apply List.ext_getElem?
  intro j
  rw [List.getElem?_take]
  by_cases hj : j < n * k
  · rw [if_pos hj, List.getElem?_eq_getElem (show j < xs.length by omega)]
    have h1 := hx j _ (List.getElem?_eq_getElem (show j < xs.length by omega))
    rw [cell_of_row w g j cur e (0, 0) hg] at h1
    simpa using h1
  · rw [if_neg hj, List.getElem?_eq_none (by omega)]
end Go.Proofs.YtpcnfoaoajfhlaaGreatDoor

namespace Go.Proofs.YtpcnfoaoajfhlaaGreatDoor
set_option linter.unusedVariables false
set_option linter.unusedSimpArgs false
open Go.RowKit Go.Lib

/-- a copy whose run is known, in a list -/
theorem wpList_copied {P : Program} {ops : Array Oper} {rest : List Oper} {o : Oper} {a : Act} {Q : Exit → Act → World → Prop} (w : World) (hgd : o.guard = none) (d s : Operand) (t t' : TypeId)
    (ho : o.op = .call { callee := .builtin .copy, args := #[d, s], argTypes := #[t, t'] }) (x y : Value) (hx : a.eval d = x) (hy : a.eval s = y) {v' : Value} {w' : World}
    (hr : (Builtin.copy_ #[t, t'] o.type #[x, y]).run P w = .ok v' w') (h : wpList P ops Q rest (a.put o.dst v') w') : wpList P ops Q (o :: rest) a w := by
  refine wpList_plain hgd fun _ hK => ?_
  unfold Oper.wp execOp
  simp only [ho, resolve, invoke, builtin, Sem.run_bind, Sem.run_pure, Result.andThen_ok, List.map_toArray, List.map_cons, List.map_nil, hx, hy, hr]
  exact hK _ _ h
/-- .. and at a step of a region that draws -/
theorem step_copied {P : Program} {ops : Array Oper} {o : Oper} {a : Act} {w : World} {K : Act → World → Prop} {Q : Exit → Act → World → Prop} {E : Prop}
    (hgd : o.guard = none) (d s : Operand) (t t' : TypeId) (ho : o.op = .call { callee := .builtin .copy, args := #[d, s], argTypes := #[t, t'] })
    (x y : Value) (hx : a.eval d = x) (hy : a.eval s = y) {v' : Value} {w' : World} (hr : (Builtin.copy_ #[t, t'] o.type #[x, y]).run P w = .ok v' w') (hK : K (a.put o.dst v') w') :
    if Region.wanted o (yielded ops a.tmps) = true then Oper.wp P o a w K Q else E := by
  rw [if_pos (by simp [Region.wanted, hgd])]
  unfold Oper.wp execOp
  simp only [ho, resolve, invoke, builtin, Sem.run_bind, Sem.run_pure, Result.andThen_ok, List.map_toArray, List.map_cons, List.map_nil, hx, hy, hr]
  exact hK

/-- what slices.Insert leaves -/
def Inserted (B : Nat) (w : World) (v : Value) (l : List En) (e : Ending) (w' : World) : Prop :=
  ∃ v', e = .returned v' ∧ w'.ownsRow B 46 5 v' l.length (rowC l) ∧ w.grownBy w' v.ownBlock

theorem heap_cells {w : World} {b : Nat} {cs : Array Value} {t : TypeId} (h : w.heap[b]? = some (.cells cs t (0, 0))) (j : Nat) (u : Value) (hu : cs.toList[j]? = some u) : w.cell? ⟨b, j, none⟩ = some u := by
  rw [cell_of_row w b j cs t (0, 0) h]
  simpa using hu

set_option maxHeartbeats 2000000 in
set_option maxRecDepth 100000 in
theorem insert_end (B : Nat) (v : Value) (l : List En) (x : En) (vb : Nat) (w : World) (ho : w.ownsRow B 46 5 v l.length (rowC l)) (hB : B ≤ w.heap.size) (h8 : l.length ≤ 8)
    (hv : w.heap[vb]? = some (.cells x.cells.toArray 46 (0, 0))) :
    Calls Tryz.prog 118 #[v, .int .i64 l.length, .slice (some ⟨vb, 0, none⟩) 1 1] w (Inserted B w v (l ++ [x])) := by
  obtain ⟨i0, hi0, hz0, hz1, hz2⟩ := info_parts infoEn
  have HO : Hid (w.ownsRow B 46 5 v l.length (rowC l)) := ho
  have HV : Hid (w.heap[vb]? = some (.cells x.cells.toArray 46 (0, 0))) := hv
  obtain ⟨p, cap, rfl, hcap⟩ : ∃ p cap, v = .slice p l.length cap ∧ l.length ≤ cap := by
    rcases ho.2 with ⟨rfl, h0⟩ | ⟨g, cap, cur, rfl, _, _, h, _⟩
    · exact ⟨none, 0, by rw [h0], by omega⟩
    · exact ⟨_, _, rfl, h⟩
  clear ho hv
  have HN : Hid (rowC (l ++ [x]) = rowC l ++ x.cells) := by
    show rowC (l ++ [x]) = _
    rw [rowC_append]; simp [rowC]
  go_enter Tryz.func118, Tryz.ntmps118
  have qc2 : ∀ (j : Nat) (u : Value), x.cells[j]? = some u → w.cell? ((⟨vb, 0, none⟩ : Addr).add j) = some u := World.news_of_block HV.out
  have qc3 : ∀ (u : Value), u ∈ x.cells → u.oneCell' = true := fun u hu => rowC_one [x] u (by simpa [rowC] using hu)
  have Q2 : Hid _ := qc2
  have Q3 : Hid _ := qc3
  clear qc2 qc3
  go_wp2_with (at_builtin; refine wpList_append_own _ rfl _ _ 32 rfl B 46 i0 _ 5 48 Tryz.underlying32 hi0 hz0 hz1 hz2 rfl (by omega) _ _ _ rfl HO.out ⟨vb, 0, none⟩ 1 1 x.cells rfl rfl Q2.out Q3.out (by unfold maxLen; omega) (by omega) hB ?_)
  all_goals
    intro v' w1 hown hgrow hnil
    have HOw : Hid _ := hown
    have HGr : Hid _ := hgrow
    clear hown hgrow
    go_wp2_with fail
    go_ret
    refine ⟨v', rfl, ?_, by cases p <;> exact HGr.out⟩
    rw [HN.out, List.length_append]
    exact HOw.out

theorem rowC_ins (l : List En) (i : Nat) (x : En) : rowC (l.take i ++ x :: l.drop i) = (rowC l).take (i * 5) ++ (x.cells ++ (rowC l).drop (i * 5)) := by
  rw [rowC_append, rowC_take, rowC, rowC_drop]
/-- the cells of a row with one more, put together -/
theorem ins_cells {w : World} {g i : Nat} {l : List En} {x : En} (hi : i ≤ l.length) (h1 : ∀ j, j < i * 5 → ∀ u, (rowC l)[j]? = some u → w.cell? ⟨g, j, none⟩ = some u)
    (h2 : ∀ j u, x.cells[j]? = some u → w.cell? ⟨g, i * 5 + j, none⟩ = some u) (h3 : ∀ j u, ((rowC l).drop (i * 5))[j]? = some u → w.cell? ⟨g, (i + 1) * 5 + j, none⟩ = some u) :
    ∀ j u, (rowC (l.take i ++ x :: l.drop i))[j]? = some u → w.cell? ⟨g, j, none⟩ = some u := by
  intro j u hu
  rw [rowC_ins] at hu
  have ht : ((rowC l).take (i * 5)).length = i * 5 := by rw [List.length_take, rowC_length]; omega
  rcases Nat.lt_or_ge j (i * 5) with hj | hj
  · rw [List.getElem?_append_left (by omega), List.getElem?_take, if_pos hj] at hu
    exact h1 j hj u hu
  · rw [List.getElem?_append_right (by omega), ht] at hu
    rcases Nat.lt_or_ge (j - i * 5) 5 with h | h
    · rw [List.getElem?_append_left (by rw [En.cells_length]; exact h)] at hu
      have := h2 _ _ hu
      rwa [show i * 5 + (j - i * 5) = j by omega] at this
    · rw [List.getElem?_append_right (by rw [En.cells_length]; exact h), En.cells_length] at hu
      have := h3 _ _ hu
      rwa [show (i + 1) * 5 + (j - i * 5 - 5) = j by omega] at this

set_option maxHeartbeats 4000000 in
set_option maxRecDepth 100000 in
theorem insert_shift (B g cap i : Nat) (cur : Array Value) (l : List En) (x : En) (vb : Nat) (w : World) (hBg : B ≤ g) (hg : w.heap[g]? = some (.cells cur 46 (0, 0))) (hcur : cur.size = cap * 5)
    (hx : ∀ j u, (rowC l)[j]? = some u → w.cell? ⟨g, j, none⟩ = some u) (hi : i < l.length) (hcap : l.length + 1 ≤ cap) (hmax : cap ≤ maxLen) (h8 : l.length ≤ 8) (hne : vb ≠ g)
    (hv : w.heap[vb]? = some (.cells x.cells.toArray 46 (0, 0))) :
    Calls Tryz.prog 118 #[.slice (some ⟨g, 0, none⟩) l.length cap, .int .i64 i, .slice (some ⟨vb, 0, none⟩) 1 1] w (Inserted B w (.slice (some ⟨g, 0, none⟩) l.length cap) (l.take i ++ x :: l.drop i)) := by
  obtain ⟨i0, hi0, hz0, hz1, hz2⟩ := info_parts infoEn
  have hsz : (Tryz.prog.info? 46).map (·.size) = some 5 := by rw [hi0]; simp [hz1]
  have hsome : ∀ j, j < cap * 5 → (w.cell? ⟨g, j, none⟩).isSome = true := fun j hj => by
    rw [cell_of_row w g j cur 46 (0, 0) hg, Array.getElem?_eq_getElem (by omega)]; rfl
  have hfz : ∀ j, w.frozen? ⟨g, j, none⟩ = false := fun j => by simp [World.frozen?, hg]
  have hfv : ∀ j, w.frozen? ⟨vb, j, none⟩ = false := fun j => by simp [World.frozen?, hv]
  have hsa : w.shape? vb = some (46, 5) := by simp [World.shape?, hv, En.cells]
  have hsb : w.shape? g = some (46, cap * 5) := by simp [World.shape?, hg, hcur]
  have qc2 : ∀ (j : Nat) (u : Value), x.cells[j]? = some u → w.cell? ((⟨vb, 0, none⟩ : Addr).add j) = some u := World.news_of_block hv
  have qc3 : ∀ (u : Value), u ∈ x.cells → u.oneCell' = true := fun u hu => rowC_one [x] u (by simpa [rowC] using hu)
  have hov : ∀ lb cb, (callFunc 161 #[.slice (some ⟨vb, 0, none⟩) 1 1, .slice (some ⟨g, (i + 1) * 5, none⟩) lb cb]).run Tryz.prog w = .ok (.value (.bool false)) w := fun lb cb => by
    rw [run_callFunc_extern Tryz.func161 (by kernel_rfl) (by kernel_rfl) (by kernel_rfl) (e := Extern.SlicesOverlaps.overlaps #[32, 32] #[4]) (by kernel_rfl),
      Lib.run_overlaps_apart w 32 4 46 Tryz.underlying32 5 (fun w => by simp [sizeOf, typeInfo, hi0, hz1]) ⟨vb, 0, none⟩ ⟨g, (i + 1) * 5, none⟩ 1 1 lb cb hne 46 46 5 (cap * 5) hsa hsb (by omega) (hfv 0) (hfv 5)]
    rfl
  have hz2' : ¬ ((i : Int) = (l.length : Int)) := by omega
  have hin : i ≤ l.length := by omega
  have hb1 : ¬ (cap : Int) < (l.length : Int) + 1 := by omega
  have hb2 : ¬ (cap = i + 1) := by omega
  have hb4 : ¬ (cap = i) := by omega
  have hc63 : cap ≤ 9223372036854775807 := hmax
  have hw1 : IntKind.i64.wrap ((i : Int) + 1) = (i : Int) + 1 := by rw [IntKind.wrap_i64]; omega
  have hb5 : (0 : Int) ≤ (i : Int) + 1 := by omega
  have htn : ((i : Int) + 1).toNat = i + 1 := by omega
  have hb3 : (i : Int) ≤ (l.length : Int) + 1 := by omega
  have hb6 : (i : Int) + 1 ≤ (l.length : Int) + 1 := by omega
  have hdl : ((rowC l).drop (i * 5)).length = (l.length - i) * 5 := by rw [List.length_drop, rowC_length]; omega
  have hcp1 : ∀ ty dc sc, (Builtin.copy_ #[32, 32] ty #[.slice (some ⟨g, (i + 1) * 5, none⟩) (l.length - i) dc, .slice (some ⟨g, i * 5, none⟩) (l.length + 1 - i) sc]).run Tryz.prog w.drew = .ok (goInt ((l.length - i : Nat) : Int)) (w.drew.setCells g ((i + 1) * 5) ((rowC l).drop (i * 5))) := fun ty dc sc =>
    run_copy_k w.drew _ _ ty 46 5 g ((i + 1) * 5) (l.length - i) dc ⟨g, i * 5, none⟩ (l.length + 1 - i) sc _ (l.length - i) Tryz.underlying32 hsz (by simp only [Nat.min_def]; split <;> omega) hdl
      (fun j v hj => by rw [Addr.add_lit]; exact hx (i * 5 + j) v (by rwa [List.getElem?_drop] at hj))
      (fun j hj => hsome _ (by rw [hdl] at hj; omega)) (fun j hj => hfz _) (fun v hv => rowC_one l v (List.mem_of_mem_drop hv))
  obtain ⟨W1, hW1⟩ : ∃ W1, W1 = w.drew.setCells g ((i + 1) * 5) ((rowC l).drop (i * 5)) := ⟨_, rfl⟩
  have hin1 : ∀ j u, ((rowC l).drop (i * 5))[j]? = some u → W1.cell? ⟨g, (i + 1) * 5 + j, none⟩ = some u := fun j u hu => by
    obtain ⟨hj, rfl⟩ := List.getElem?_eq_some_iff.1 hu
    rw [hW1]
    exact World.cell?_setCells_in g _ _ w.drew (fun j hj => hsome _ (by rw [hdl] at hj; omega)) j hj
  have hout1 : ∀ j, j < (i + 1) * 5 → W1.cell? ⟨g, j, none⟩ = w.cell? ⟨g, j, none⟩ := fun j hj => by
    rw [hW1]; exact World.cell?_setCells_out g _ _ w.drew _ (fun _ _ => .inl hj)
  have hoth1 : ∀ c, c ≠ g → W1.heap[c]? = w.heap[c]? := fun c hc => by rw [hW1]; exact setCells_other g _ _ w.drew c hc
  have hfz1 : ∀ a, W1.frozen? a = w.frozen? a := fun a => by rw [hW1, World.frozen?_setCells]; rfl
  obtain ⟨cur1, hg1, hs1⟩ : ∃ cur', W1.heap[g]? = some (.cells cur' 46 (0, 0)) ∧ cur'.size = cur.size := by rw [hW1]; exact setCells_block g 46 _ _ w.drew cur hg
  have hrest1 := setCells_rest g ((rowC l).drop (i * 5)) ((i + 1) * 5) w.drew
  have hsize1 := setCells_size g ((rowC l).drop (i * 5)) ((i + 1) * 5) w.drew
  rw [← hW1] at hcp1 hrest1 hsize1
  have hcp2 : ∀ (W : World), W.heap = W1.heap → ∀ ty dc, (Builtin.copy_ #[32, 32] ty #[.slice (some ⟨g, i * 5, none⟩) (l.length + 1 - i) dc, .slice (some ⟨vb, 0, none⟩) 1 1]).run Tryz.prog W = .ok (goInt 1) (W.setCells g (i * 5) x.cells) := fun W hW ty dc => by
    have eg : W.heap[g]? = some (.cells cur1 46 (0, 0)) := by rw [hW]; exact hg1
    refine run_copy_k W _ _ ty 46 5 g (i * 5) (l.length + 1 - i) dc ⟨vb, 0, none⟩ 1 1 x.cells 1 Tryz.underlying32 hsz (by simp only [Nat.min_def]; split <;> omega) rfl
      (World.news_of_block (by rw [hW, hoth1 vb hne]; exact hv)) (fun j hj => ?_) (fun j hj => ?_) qc3
    · rw [cell_of_row W g _ cur1 _ (0, 0) eg, Array.getElem?_eq_getElem (by rw [En.cells_length] at hj; omega)]; rfl
    · simp [World.frozen?, eg]
  have HE : Hid (∀ W : World, W.heap = W1.heap → W.os = w.os → W.tape = w.tape → W.output = w.output → Inserted B w (.slice (some ⟨g, 0, none⟩) l.length cap) (l.take i ++ x :: l.drop i) (.returned (.slice (some ⟨g, 0, none⟩) (l.length + 1) cap)) (W.setCells g (i * 5) x.cells)) := by
    intro W hW ho ht hou
    have eg : W.heap[g]? = some (.cells cur1 46 (0, 0)) := by rw [hW]; exact hg1
    obtain ⟨cur2, hg2, hs2⟩ := setCells_block g 46 x.cells (i * 5) W cur1 eg
    have hr2 := setCells_rest g x.cells (i * 5) W
    have hcW : ∀ a, W.cell? a = W1.cell? a := fun a => World.cell?_of_block (by rw [hW])
    have hlen : (l.take i ++ x :: l.drop i).length = l.length + 1 := by simp; omega
    refine ⟨_, rfl, ?_, ?_⟩
    · rw [hlen]
      refine ownsRow_of hBg hg2 hcap hmax (by omega) (by rw [rowC_length, hlen]) (ins_cells (by omega) ?_ ?_ ?_)
      · intro j hj u hu
        rw [World.cell?_setCells_out g _ _ W _ (fun _ _ => .inl hj), hcW, hout1 j (by omega)]
        exact hx j u hu
      · intro j u hu
        obtain ⟨hj, rfl⟩ := List.getElem?_eq_some_iff.1 hu
        exact World.cell?_setCells_in g _ _ W (fun j hj => by rw [cell_of_row W g _ cur1 _ (0, 0) eg, Array.getElem?_eq_getElem (by rw [En.cells_length] at hj; omega)]; rfl) j hj
      · intro j u hu
        rw [World.cell?_setCells_out g _ _ W _ (fun _ _ => .inr (by show i * 5 + 5 ≤ (i + 1) * 5 + j; omega)), hcW]
        exact hin1 j u hu
    · refine ⟨hr2.1.trans ho, hr2.2.1.trans ht, hr2.2.2.trans hou, ?_, fun c hc hne' => ?_⟩
      · rw [setCells_size, hW, hsize1]; exact Nat.le_refl _
      · have hcg : c ≠ g := fun h => hne' (by rw [h]; rfl)
        rw [setCells_other g _ _ W c hcg, hW, hoth1 c hcg]
  have HC1 : Hid _ := hcp1
  have HC2 : Hid _ := hcp2
  have HR1 : Hid _ := hrest1
  clear hcp1 hcp2 hrest1 hsize1 hin1 hout1 hoth1 hfz1 hg1 hs1 hdl hsome hfz hfv hsa hsb qc2 qc3 hx hW1
  generalize hn : l.length = n at *
  go_enter Tryz.func118, Tryz.ntmps118
  go_wp2_with (simp only [hov])
  go_region_law (refine step_copied rfl _ _ 32 32 rfl (.slice (some ⟨g, (i + 1) * 5, none⟩) (n - i) (cap - (i + 1))) (.slice (some ⟨g, i * 5, none⟩) (n + 1 - i) (cap - i)) (by simp [Act.eval, Act.put]) (by simp [Act.eval, Act.put]) (HC1.out 3 (cap - (i + 1)) (cap - i)) ?_)
  have hc2 := HC2.out W1 rfl
  go_wp2_with fail
  go_ret
  exact HE.out _ rfl HR1.out.1 HR1.out.2.1 HR1.out.2.2
end Go.Proofs.YtpcnfoaoajfhlaaGreatDoor
