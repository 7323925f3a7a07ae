/-
  slices.Delete of one entry out of a cache of the call's own, by its contract.
-/
import Derived.Test.YtnclieehdodfiabDoorInsG
namespace Go.Proofs.YtnclieehdodfiabDoor
set_option linter.unusedVariables false
set_option linter.unusedSimpArgs false
open Go.RowKit Go.Lib

def noEn : En := ⟨0, 0, 0, false, ⟨#[]⟩⟩
/-- clear at one element of five cells -/
theorem run_clear_one (w : World) (ty : TypeId) (b o c : Nat) (hc : ∀ j, j < 5 → (w.cell? ⟨b, o + j, none⟩).isSome = true) (hf : ∀ j, j < 5 → w.frozen? ⟨b, o + j, none⟩ = false) :
    (Builtin.clear_ #[22] ty #[.slice (some ⟨b, o, none⟩) 1 c]).run Tryd.prog w = .ok (.tuple #[]) (w.setCells b o noEn.cells) := by
  obtain ⟨i0, hi0, hz0, hz1, hz2⟩ := info_parts infoEn
  have hzc : (Builtin.zeroCells (Value.agg #[.int .i64 0, .int .i64 0, .int .i64 0, .bool false, .string ⟨#[]⟩]).cells 1).toList = noEn.cells := by kernel_rfl
  have hv : (zeroValue 24).run Tryd.prog w = .ok (.agg #[.int .i64 0, .int .i64 0, .int .i64 0, .bool false, .string ⟨#[]⟩]) w := by simp [zeroValue, typeInfo, hi0, hz0]
  have hst := run_storeCells_cells (P := Tryd.prog) b o noEn.cells 0 w (by simpa [En.cells_length] using hc) (by simpa [En.cells_length] using hf) (fun v hv' => rowC_one [noEn] v (by simpa [rowC] using hv'))
  simp only [Nat.add_zero] at hst
  simp [Builtin.clear_, run_underlying Tryd.underlying22, hv, hzc, hst]

theorem rowC_erase (l : List En) (i : Nat) : rowC (l.eraseIdx i) = (rowC l).take (i * 5) ++ (rowC l).drop ((i + 1) * 5) := by
  rw [List.eraseIdx_eq_take_drop_succ, rowC_append, rowC_take, rowC_drop]

set_option maxHeartbeats 4000000 in
set_option maxRecDepth 100000 in
theorem delete_c (B g cap i : Nat) (cur : Array Value) (l : List En) (w : World) (hBg : B ≤ g) (hg : w.heap[g]? = some (.cells cur 24 (0, 0))) (hcur : cur.size = cap * 5)
    (hx : ∀ j u, (rowC l)[j]? = some u → w.cell? ⟨g, j, none⟩ = some u) (hi : i < l.length) (hcap : l.length ≤ cap) (hmax : cap ≤ maxLen) :
    Calls Tryd.prog 33 #[.slice (some ⟨g, 0, none⟩) l.length cap, .int .i64 i, .int .i64 ((i : Int) + 1)] w fun e w' => ∃ v', e = .returned v' ∧ RowIs w' v' (l.eraseIdx i) ∧ Below B w w' := by
  obtain ⟨i0, hi0, hz0, hz1, hz2⟩ := info_parts infoEn
  have hsome : ∀ j, j < cap * 5 → (w.cell? ⟨g, j, none⟩).isSome = true := fun j hj => by
    rw [cell_of_row w g j cur 24 (0, 0) hg, Array.getElem?_eq_getElem (by omega)]; rfl
  have hfz : ∀ j, w.frozen? ⟨g, j, none⟩ = false := fun j => by simp [World.frozen?, hg]
  obtain ⟨news, hnews⟩ : ∃ news, news = (rowC l).drop ((i + 1) * 5) := ⟨_, rfl⟩
  have hlen : news.length = (l.length - (i + 1)) * 5 := by rw [hnews, List.length_drop, rowC_length]; omega
  have hget : ∀ t, news[t]? = (rowC l)[(i + 1) * 5 + t]? := fun t => by rw [hnews, List.getElem?_drop]
  obtain ⟨A, hA, hsrc⟩ : ∃ A : Addr, (if cap = i + 1 then some (⟨g, 0, none⟩ : Addr) else some ⟨g, (i + 1) * 5, none⟩) = some A ∧ Hid (∀ t u, news[t]? = some u → w.drew.cell? (A.add t) = some u) := by
    by_cases h : cap = i + 1
    · refine ⟨⟨g, 0, none⟩, by simp [h], fun t u hu => ?_⟩
      have h0 : news.length = 0 := by rw [hlen]; omega
      rw [List.length_eq_zero_iff.1 h0] at hu
      simp at hu
    · refine ⟨⟨g, (i + 1) * 5, none⟩, by simp [h], fun t u hu => ?_⟩
      rw [Addr.add_lit]
      exact hx _ u (by rw [← hget]; exact hu)
  have s1 : Hid (news.length = (l.length - (i + 1)) * 5) := hlen
  have s2 : Hid (∀ u ∈ news, u.oneCell' = true) := by
    intro u hu
    rw [hnews] at hu
    exact rowC_one l u (List.mem_of_mem_drop hu)
  have s3 : Hid (∀ t, t < news.length → (w.drew.cell? ⟨g, 0 + i * 5 + t, none⟩).isSome = true ∧ w.drew.frozen? ⟨g, 0 + i * 5 + t, none⟩ = false) := by
    intro t ht
    rw [hlen] at ht
    exact ⟨hsome _ (by omega), hfz _⟩
  obtain ⟨W1, hW1⟩ : ∃ W1, W1 = w.drew.setCells g (0 + i * 5) news := ⟨_, rfl⟩
  have hin1 : ∀ t u, news[t]? = some u → W1.cell? ⟨g, i * 5 + t, none⟩ = some u := fun t u hu => by
    obtain ⟨ht, rfl⟩ := List.getElem?_eq_some_iff.1 hu
    rw [hW1, Nat.zero_add]
    exact World.cell?_setCells_in g _ _ w.drew (fun j hj => hsome _ (by rw [hlen] at hj; omega)) t ht
  have hout1 : ∀ j, j < i * 5 → W1.cell? ⟨g, j, none⟩ = w.cell? ⟨g, j, none⟩ := fun j hj => by
    rw [hW1, Nat.zero_add]; exact World.cell?_setCells_out g _ _ w.drew _ (fun _ _ => .inl hj)
  have hoth1 : ∀ c, c ≠ g → W1.heap[c]? = w.heap[c]? := fun c hc => by rw [hW1]; exact setCells_other g _ _ w.drew c hc
  obtain ⟨cur1, hg1, hs1⟩ : ∃ cur', W1.heap[g]? = some (.cells cur' 24 (0, 0)) ∧ cur'.size = cur.size := by rw [hW1]; exact setCells_block g 24 _ _ w.drew cur hg
  have hrest1 := setCells_rest g news (0 + i * 5) w.drew
  have hsize1 := setCells_size g news (0 + i * 5) w.drew
  rw [← hW1] at hrest1 hsize1
  have hsome1 : ∀ j, j < cap * 5 → (W1.cell? ⟨g, j, none⟩).isSome = true := fun j hj => by
    rw [cell_of_row W1 g j cur1 24 (0, 0) hg1, Array.getElem?_eq_getElem (by omega)]; rfl
  have hfz1 : ∀ j, W1.frozen? ⟨g, j, none⟩ = false := fun j => by simp [World.frozen?, hg1]
  have hcl : ∀ ty c, (Builtin.clear_ #[22] ty #[.slice (some ⟨g, (i + (l.length - (i + 1))) * 5, none⟩) 1 c]).run Tryd.prog W1 = .ok (.tuple #[]) (W1.setCells g ((i + (l.length - (i + 1))) * 5) noEn.cells) := fun ty c =>
    run_clear_one W1 ty g _ c (fun j hj => hsome1 _ (by omega)) (fun j hj => hfz1 _)
  have HE : Hid (∃ v', Ending.returned (.slice (some ⟨g, 0, none⟩) (i + (l.length - (i + 1))) cap) = .returned v' ∧ RowIs (W1.setCells g ((i + (l.length - (i + 1))) * 5) noEn.cells) v' (l.eraseIdx i) ∧ Below B w (W1.setCells g ((i + (l.length - (i + 1))) * 5) noEn.cells)) := by
    have hel : (l.eraseIdx i).length = i + (l.length - (i + 1)) := by rw [List.length_eraseIdx, if_pos hi]; omega
    obtain ⟨cur2, hg2, hs2⟩ := setCells_block g 24 noEn.cells ((i + (l.length - (i + 1))) * 5) W1 cur1 hg1
    have hr2 := setCells_rest g noEn.cells ((i + (l.length - (i + 1))) * 5) W1
    refine ⟨_, rfl, ?_, ?_⟩
    · refine RowIs.own (B := B) ?_
      rw [hel]
      refine ownsRow_of hBg hg2 (by omega) hmax (by omega) (by rw [rowC_length, hel]) ?_
      intro j u hu
      have hj : j < (i + (l.length - (i + 1))) * 5 := by
        have := (List.getElem?_eq_some_iff.1 hu).1
        rwa [rowC_length, hel] at this
      rw [World.cell?_setCells_out g _ _ W1 _ (fun _ _ => .inl hj)]
      rw [rowC_erase] at hu
      have ht : ((rowC l).take (i * 5)).length = i * 5 := by rw [List.length_take, rowC_length]; omega
      rcases Nat.lt_or_ge j (i * 5) with h | h
      · rw [List.getElem?_append_left (by omega), List.getElem?_take, if_pos h] at hu
        rw [hout1 j h]
        exact hx j u hu
      · rw [List.getElem?_append_right (by omega), ht, ← hnews] at hu
        have := hin1 _ u hu
        rwa [show i * 5 + (j - i * 5) = j by omega] at this
    · refine ⟨hr2.1.trans hrest1.1, hr2.2.1.trans hrest1.2.1, hr2.2.2.trans hrest1.2.2, ?_, fun c hc => ?_⟩
      · rw [setCells_size, hsize1]; exact Nat.le_refl _
      · have hcg : c ≠ g := by omega
        rw [setCells_other g _ _ W1 c hcg, hoth1 c hcg]
  have HCl : Hid _ := hcl
  have hW : Hid (W1 = w.drew.setCells g (0 + i * 5) news) := hW1
  clear hcl hW1 hrest1 hsize1 hin1 hout1 hoth1 hg1 hs1 hsome1 hfz1 hsome hfz hget hnews hlen hx
  generalize hn : l.length = n at *
  have HN : Hid (l.length = n) := hn
  clear hn
  have hc63 : cap ≤ 9223372036854775807 := hmax
  have hii : (i : Int) < (n : Int) := by omega
  have hi2 : (i : Int) + 1 ≤ (n : Int) := by omega
  have hne : ¬ ((i : Int) = (i : Int) + 1) := by omega
  have htn : ((i : Int) + 1).toNat = i + 1 := by omega
  have hb5 : (0 : Int) ≤ (i : Int) + 1 := by omega
  have hic : i ≤ cap := by omega
  have hjc : i + 1 ≤ cap := by omega
  go_enter Tryd.func33, Tryd.ntmps33
  go_wp2_with fail
  go_region_law (refine step_append_room rfl (.tmp 22) (.tmp 25) 22 rfl 24 i0 5 Tryd.underlying22 hi0 hz1 g 0 i cap (by simp [Act.eval, Act.put]) A (n - (i + 1)) (cap - (i + 1)) news (by simp [Act.eval, Act.put, hA]) s1.out hsrc.out s2.out (by omega) s3.out ?_; rw [← hW.out])
  have hcl := HCl.out
  have hl1 : n - (i + (n - (i + 1))) = 1 := by omega
  go_wp2_with fail
  go_ret
  exact HE.out
end Go.Proofs.YtnclieehdodfiabDoor
