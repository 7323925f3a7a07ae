/-
  slices.Delete of one hint out of a row of the call's own, by its contract; what turns, and nothing else.
-/
import Derived.Test.YtkhdeaegbkenfahHiP
import Derived.Lib.Walk
import Derived.Lib.SliceRun
import Derived.Laws.IdiomCopy
import Derived.Lib.Overlaps
import Derived.Lib.AppendZerosOnto
import Derived.Lib.JoinLaws
import Derived.Laws.NewBlocks
import Derived.Deep.RegionLaw
import Derived.Deep.AppendLies
import Derived.Laws.Rows
namespace Go.Proofs.Ytkhdeaegbkenfah
set_option linter.unusedVariables false
set_option linter.unusedSimpArgs false
open Go.RowKit Go.Lib

theorem setL_block (b : Nat) (t : TypeId) : ∀ (vs : List Value) (o : Nat) (w : World) (cur : Array Value), w.heap[b]? = some (.cells cur t (0, 0)) → ∃ cur', (w.setCells b o vs).heap[b]? = some (.cells cur' t (0, 0)) ∧ cur'.size = cur.size
  | [], _, _, cur, h => ⟨cur, h, rfl⟩
  | v :: r, o, w, cur, h => by
    have h1 : (w.setCell ⟨b, o, none⟩ v).heap[b]? = some (.cells (cur.setIfInBounds o v) t (0, 0)) := by
      show (w.heap.modify b _)[b]? = _
      rw [Array.getElem?_modify, if_pos rfl, h]
      rfl
    obtain ⟨cur', h2, h3⟩ := setL_block b t r (o + 1) _ _ h1
    exact ⟨cur', h2, by simpa using h3⟩
theorem setL_other (b : Nat) : ∀ (vs : List Value) (o : Nat) (w : World) (c : Nat), c ≠ b → (w.setCells b o vs).heap[c]? = w.heap[c]?
  | [], _, _, _, _ => rfl
  | v :: r, o, w, c, h => by
    rw [World.setCells, setL_other b r (o + 1) _ c h, Below.heap_setCell _ _ _ c h]
theorem setL_size (b : Nat) : ∀ (vs : List Value) (o : Nat) (w : World), (w.setCells b o vs).heap.size = w.heap.size
  | [], _, _ => rfl
  | v :: r, o, w => by rw [World.setCells, setL_size b r, World.size_setCell]
theorem setL_rest (b : Nat) : ∀ (vs : List Value) (o : Nat) (w : World), (w.setCells b o vs).os = w.os ∧ (w.setCells b o vs).tape = w.tape ∧ (w.setCells b o vs).output = w.output
  | [], _, _ => ⟨rfl, rfl, rfl⟩
  | v :: r, o, w => setL_rest b r (o + 1) (w.setCell ⟨b, o, none⟩ v)
theorem ownL_of {w : World} {B g n cap k : Nat} {e : TypeId} {cur : Array Value} {xs : List Value} (hB : B ≤ g) (hg : w.heap[g]? = some (.cells cur e (0, 0))) (hn : n ≤ cap) (hc : cap ≤ maxLen) (hs : cur.size = cap * k) (hl : xs.length = n * k)
    (hx : ∀ j u, xs[j]? = some u → w.cell? ⟨g, j, none⟩ = some u) : w.ownsRow B e k (.slice (some ⟨g, 0, none⟩) n cap) n xs := by
  refine ⟨hl, .inr ⟨g, cap, cur, rfl, hB, hg, hn, hc, hs, ?_⟩⟩
  have hle : n * k ≤ cap * k := Nat.mul_le_mul_right k hn
  apply List.ext_getElem?
  intro j
  rw [List.getElem?_take]
  by_cases hj : j < n * k
  · rw [if_pos hj, List.getElem?_eq_getElem (show j < xs.length by omega)]
    have h1 := hx j _ (List.getElem?_eq_getElem (show j < xs.length by omega))
    rw [cell_of_row w g j cur e (0, 0) hg] at h1
    simpa using h1
  · rw [if_neg hj, List.getElem?_eq_none (by omega)]
def noHn : Hn := ⟨0, 0, 0⟩
/-- clear at one element of three cells -/
theorem run_clear_hn (w : World) (ty : TypeId) (b o c : Nat) (hc : ∀ j, j < 3 → (w.cell? ⟨b, o + j, none⟩).isSome = true) (hf : ∀ j, j < 3 → w.frozen? ⟨b, o + j, none⟩ = false) :
    (Builtin.clear_ #[34] ty #[.slice (some ⟨b, o, none⟩) 1 c]).run Try.prog w = .ok (.tuple #[]) (w.setCells b o noHn.cells) := by
  obtain ⟨i0, hi0, hz0, hz1, hz2⟩ := info_parts infoHn
  have hzc : (Builtin.zeroCells (Value.agg #[.int .i64 0, .int .i64 0, .int .i64 0]).cells 1).toList = noHn.cells := by kernel_rfl
  have hv : (zeroValue 39).run Try.prog w = .ok (.agg #[.int .i64 0, .int .i64 0, .int .i64 0]) w := by simp [zeroValue, typeInfo, hi0, hz0]
  have hst := run_storeCells_cells (P := Try.prog) b o noHn.cells 0 w (by simpa [Hn.cells_length] using hc) (by simpa [Hn.cells_length] using hf) (fun v hv' => rowH_one [noHn] v (by simpa [rowH] using hv'))
  simp only [Nat.add_zero] at hst
  simp [Builtin.clear_, run_underlying Try.underlying34, hv, hzc, hst]

theorem rowH_erase (l : List Hn) (i : Nat) : rowH (l.eraseIdx i) = (rowH l).take (i * 3) ++ (rowH l).drop ((i + 1) * 3) := by
  rw [List.eraseIdx_eq_take_drop_succ, rowH_append, rowH_take, rowH_drop]

set_option maxHeartbeats 4000000 in
set_option maxRecDepth 100000 in
theorem deleteH_c (g cap i : Nat) (cur : Array Value) (l : List Hn) (w : World) (hg : w.heap[g]? = some (.cells cur 39 (0, 0))) (hcur : cur.size = cap * 3)
    (hx : ∀ j u, (rowH l)[j]? = some u → w.cell? ⟨g, j, none⟩ = some u) (hi : i < l.length) (hcap : l.length ≤ cap) (hmax : cap ≤ maxLen) :
    Calls Try.prog 26 #[.slice (some ⟨g, 0, none⟩) l.length cap, .int .i64 i, .int .i64 ((i : Int) + 1)] w fun e w' => e = .returned (.slice (some ⟨g, 0, none⟩) (l.length - 1) cap) ∧ OwnH 0 w' (.slice (some ⟨g, 0, none⟩) (l.length - 1) cap) (l.eraseIdx i) ∧ Turn (fun c => c = g) w w' := by
  obtain ⟨i0, hi0, hz0, hz1, hz2⟩ := info_parts infoHn
  have hsome : ∀ j, j < cap * 3 → (w.cell? ⟨g, j, none⟩).isSome = true := fun j hj => by
    rw [cell_of_row w g j cur 39 (0, 0) hg, Array.getElem?_eq_getElem (by omega)]; rfl
  have hfz : ∀ j, w.frozen? ⟨g, j, none⟩ = false := fun j => by simp [World.frozen?, hg]
  obtain ⟨news, hnews⟩ : ∃ news, news = (rowH l).drop ((i + 1) * 3) := ⟨_, rfl⟩
  have hlen : news.length = (l.length - (i + 1)) * 3 := by rw [hnews, List.length_drop, rowH_length]; omega
  have hget : ∀ t, news[t]? = (rowH l)[(i + 1) * 3 + t]? := fun t => by rw [hnews, List.getElem?_drop]
  obtain ⟨A, hA, hsrc⟩ : ∃ A : Addr, (if cap = i + 1 then some (⟨g, 0, none⟩ : Addr) else some ⟨g, (i + 1) * 3, none⟩) = some A ∧ Hid (∀ t u, news[t]? = some u → w.drew.cell? (A.add t) = some u) := by
    by_cases h : cap = i + 1
    · refine ⟨⟨g, 0, none⟩, by simp [h], fun t u hu => ?_⟩
      have h0 : news.length = 0 := by rw [hlen]; omega
      rw [List.length_eq_zero_iff.1 h0] at hu
      simp at hu
    · refine ⟨⟨g, (i + 1) * 3, none⟩, by simp [h], fun t u hu => ?_⟩
      rw [Addr.add_lit]
      exact hx _ u (by rw [← hget]; exact hu)
  have s1 : Hid (news.length = (l.length - (i + 1)) * 3) := hlen
  have s2 : Hid (∀ u ∈ news, u.oneCell' = true) := by
    intro u hu
    rw [hnews] at hu
    exact rowH_one l u (List.mem_of_mem_drop hu)
  have s3 : Hid (∀ t, t < news.length → (w.drew.cell? ⟨g, 0 + i * 3 + t, none⟩).isSome = true ∧ w.drew.frozen? ⟨g, 0 + i * 3 + t, none⟩ = false) := by
    intro t ht
    rw [hlen] at ht
    exact ⟨hsome _ (by omega), hfz _⟩
  obtain ⟨W1, hW1⟩ : ∃ W1, W1 = w.drew.setCells g (0 + i * 3) news := ⟨_, rfl⟩
  have hin1 : ∀ t u, news[t]? = some u → W1.cell? ⟨g, i * 3 + t, none⟩ = some u := fun t u hu => by
    obtain ⟨ht, rfl⟩ := List.getElem?_eq_some_iff.1 hu
    rw [hW1, Nat.zero_add]
    exact World.cell?_setCells_in g _ _ w.drew (fun j hj => hsome _ (by rw [hlen] at hj; omega)) t ht
  have hout1 : ∀ j, j < i * 3 → W1.cell? ⟨g, j, none⟩ = w.cell? ⟨g, j, none⟩ := fun j hj => by
    rw [hW1, Nat.zero_add]; exact World.cell?_setCells_out g _ _ w.drew _ (fun _ _ => .inl hj)
  have hoth1 : ∀ c, c ≠ g → W1.heap[c]? = w.heap[c]? := fun c hc => by rw [hW1]; exact setL_other g _ _ w.drew c hc
  obtain ⟨cur1, hg1, hs1⟩ : ∃ cur', W1.heap[g]? = some (.cells cur' 39 (0, 0)) ∧ cur'.size = cur.size := by rw [hW1]; exact setL_block g 39 _ _ w.drew cur hg
  have hrest1 := setL_rest g news (0 + i * 3) w.drew
  have hsize1 := setL_size g news (0 + i * 3) w.drew
  rw [← hW1] at hrest1 hsize1
  have hsome1 : ∀ j, j < cap * 3 → (W1.cell? ⟨g, j, none⟩).isSome = true := fun j hj => by
    rw [cell_of_row W1 g j cur1 39 (0, 0) hg1, Array.getElem?_eq_getElem (by omega)]; rfl
  have hfz1 : ∀ j, W1.frozen? ⟨g, j, none⟩ = false := fun j => by simp [World.frozen?, hg1]
  have hcl : ∀ ty c, (Builtin.clear_ #[34] ty #[.slice (some ⟨g, (i + (l.length - (i + 1))) * 3, none⟩) 1 c]).run Try.prog W1 = .ok (.tuple #[]) (W1.setCells g ((i + (l.length - (i + 1))) * 3) noHn.cells) := fun ty c =>
    run_clear_hn W1 ty g _ c (fun j hj => hsome1 _ (by omega)) (fun j hj => hfz1 _)
  have HE : Hid (Ending.returned (.slice (some ⟨g, 0, none⟩) (i + (l.length - (i + 1))) cap) = .returned (.slice (some ⟨g, 0, none⟩) (l.length - 1) cap) ∧ OwnH 0 (W1.setCells g ((i + (l.length - (i + 1))) * 3) noHn.cells) (.slice (some ⟨g, 0, none⟩) (l.length - 1) cap) (l.eraseIdx i) ∧ Turn (fun c => c = g) w (W1.setCells g ((i + (l.length - (i + 1))) * 3) noHn.cells)) := by
    have hl1 : i + (l.length - (i + 1)) = l.length - 1 := by omega
    have hel : (l.eraseIdx i).length = i + (l.length - (i + 1)) := by rw [List.length_eraseIdx, if_pos hi]; omega
    obtain ⟨cur2, hg2, hs2⟩ := setL_block g 39 noHn.cells ((i + (l.length - (i + 1))) * 3) W1 cur1 hg1
    have hr2 := setL_rest g noHn.cells ((i + (l.length - (i + 1))) * 3) W1
    refine ⟨by rw [hl1], ?_, ?_⟩
    · show World.ownsRow _ _ _ _ _ _ _
      rw [hel, ← hl1]
      refine ownL_of (Nat.zero_le _) hg2 (by omega) hmax (by omega) (by rw [rowH_length, hel]) ?_
      intro j u hu
      have hj : j < (i + (l.length - (i + 1))) * 3 := by
        have := (List.getElem?_eq_some_iff.1 hu).1
        rwa [rowH_length, hel] at this
      rw [World.cell?_setCells_out g _ _ W1 _ (fun _ _ => .inl hj)]
      rw [rowH_erase] at hu
      have ht : ((rowH l).take (i * 3)).length = i * 3 := by rw [List.length_take, rowH_length]; omega
      rcases Nat.lt_or_ge j (i * 3) with h | h
      · rw [List.getElem?_append_left (by omega), List.getElem?_take, if_pos h] at hu
        rw [hout1 j h]
        exact hx j u hu
      · rw [List.getElem?_append_right (by omega), ht, ← hnews] at hu
        have := hin1 _ u hu
        rwa [show i * 3 + (j - i * 3) = j by omega] at this
    · refine ⟨hr2.1.trans hrest1.1, hr2.2.1.trans hrest1.2.1, hr2.2.2.trans hrest1.2.2, ?_, fun c hc hcg => ?_⟩
      · rw [setL_size, hsize1]; exact Nat.le_refl _
      · rw [setL_other g _ _ W1 c hcg, hoth1 c hcg]
  have HCl : Hid _ := hcl
  have hW : Hid (W1 = w.drew.setCells g (0 + i * 3) news) := hW1
  clear hcl hW1 hrest1 hsize1 hin1 hout1 hoth1 hg1 hs1 hsome1 hfz1 hsome hfz hget hnews hlen hx
  generalize hn : l.length = n at *
  have HN : Hid (l.length = n) := hn
  clear hn
  have hc63 : cap ≤ 9223372036854775807 := hmax
  have hii : (i : Int) < (n : Int) := by omega
  have hi2 : (i : Int) + 1 ≤ (n : Int) := by omega
  have hne : ¬ ((i : Int) = (i : Int) + 1) := by omega
  have htn : ((i : Int) + 1).toNat = i + 1 := by omega
  have hb5 : (0 : Int) ≤ (i : Int) + 1 := by omega
  have hic : i ≤ cap := by omega
  have hjc : i + 1 ≤ cap := by omega
  go_enter Try.func26, Try.ntmps26
  go_wp2_with fail
  go_region_law (refine step_append_room rfl (.tmp 22) (.tmp 25) 34 rfl 39 i0 3 Try.underlying34 hi0 hz1 g 0 i cap (by simp [Act.eval, Act.put]) A (n - (i + 1)) (cap - (i + 1)) news (by simp [Act.eval, Act.put, hA]) s1.out hsrc.out s2.out (by omega) s3.out ?_; rw [← hW.out])
  have hcl := HCl.out
  have hl1 : n - (i + (n - (i + 1))) = 1 := by omega
  go_wp2_with fail
  go_ret
  exact HE.out
end Go.Proofs.Ytkhdeaegbkenfah
