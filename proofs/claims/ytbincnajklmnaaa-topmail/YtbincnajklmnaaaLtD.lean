/-
  slices.Delete of one letter out of a row of the call's own, by its contract; what turns, and nothing else.
-/
import Derived.Test.YtbincnajklmnaaaLtM
import Derived.Lib.Walk
import Derived.Lib.SliceRun
import Derived.Laws.IdiomCopy
import Derived.Lib.Overlaps
import Derived.Lib.AppendZerosOnto
import Derived.Lib.JoinLaws
import Derived.Laws.NewBlocks
import Derived.Deep.RegionLaw
import Derived.Deep.AppendLies
import Derived.Laws.Rows
namespace Go.Proofs.Ytbincnajklmnaaa
set_option linter.unusedVariables false
set_option linter.unusedSimpArgs false
open Go.RowKit Go.Lib

/-- nothing old but what is in S has turned -/
structure Turn (S : Nat → Prop) (w w' : World) : Prop where
  os : w'.os = w.os
  tape : w'.tape = w.tape
  output : w'.output = w.output
  size : w.heap.size ≤ w'.heap.size
  block : ∀ c, c < w.heap.size → ¬ S c → w'.heap[c]? = w.heap[c]?
theorem Turn.refl (S : Nat → Prop) (w : World) : Turn S w w := ⟨rfl, rfl, rfl, Nat.le_refl _, fun _ _ _ => rfl⟩
theorem Turn.trans {S S' : Nat → Prop} {x y z : World} (h : Turn S x y) (k : Turn S' y z) (hs : ∀ c, S' c → S c ∨ x.heap.size ≤ c) : Turn S x z :=
  ⟨k.os.trans h.os, k.tape.trans h.tape, k.output.trans h.output, Nat.le_trans h.size k.size, fun c hc hb => (k.block c (Nat.lt_of_lt_of_le hc h.size) (fun h' => by rcases hs c h' with h1 | h1; exact hb h1; omega)).trans (h.block c hc hb)⟩
theorem Turn.of_below {S : Nat → Prop} {w w' : World} (h : Below w.heap.size w w') : Turn S w w' := ⟨h.os, h.tape, h.output, h.size, fun c hc _ => h.block c hc⟩
theorem Turn.of_grown {S : Nat → Prop} {w w' : World} {v : Value} (h : w.grownBy w' v.ownBlock) (hv : ∀ c, v.ownBlock = some c → S c) : Turn S w w' :=
  ⟨h.os, h.tape, h.output, h.size, fun c hc hb => h.block c hc (fun e => hb (hv c e.symm))⟩
theorem Turn.below {S : Nat → Prop} {B : Nat} {w w' : World} (h : Turn S w w') (hB : B ≤ w.heap.size) (hS : ∀ c, S c → B ≤ c) : Below B w w' :=
  ⟨h.os, h.tape, h.output, h.size, fun c hc => h.block c (Nat.lt_of_lt_of_le hc hB) (fun hs => by have := hS c hs; omega)⟩
theorem Turn.set {S : Nat → Prop} {w w' : World} (h : Turn S w w') (b k : Nat) (hb : S b) (u : Value) : Turn S w (w'.setCell ⟨b, k, none⟩ u) :=
  ⟨h.os, h.tape, h.output, by rw [World.size_setCell]; exact h.size, fun c hc hs => (Below.heap_setCell _ _ _ c (fun e => hs (by rw [e]; exact hb))).trans (h.block c hc hs)⟩
theorem Turn.mono {S S' : Nat → Prop} {w w' : World} (h : Turn S w w') (hs : ∀ c, S c → S' c) : Turn S' w w' :=
  ⟨h.os, h.tape, h.output, h.size, fun c hc hb => h.block c hc (fun h' => hb (hs c h'))⟩
theorem Turn.cell {S : Nat → Prop} {w w' : World} (h : Turn S w w') {a : Addr} {v : Value} (hc : w.cell? a = some v) (ha : ¬ S a.block) : w'.cell? a = some v :=
  (World.cell?_of_block (h.block a.block (World.block_lt_of_cell? w a hc) ha)).trans hc
theorem setL_block (b : Nat) (t : TypeId) : ∀ (vs : List Value) (o : Nat) (w : World) (cur : Array Value), w.heap[b]? = some (.cells cur t (0, 0)) → ∃ cur', (w.setCells b o vs).heap[b]? = some (.cells cur' t (0, 0)) ∧ cur'.size = cur.size
  | [], _, _, cur, h => ⟨cur, h, rfl⟩
  | v :: r, o, w, cur, h => by
    have h1 : (w.setCell ⟨b, o, none⟩ v).heap[b]? = some (.cells (cur.setIfInBounds o v) t (0, 0)) := by
      show (w.heap.modify b _)[b]? = _
      rw [Array.getElem?_modify, if_pos rfl, h]
      rfl
    obtain ⟨cur', h2, h3⟩ := setL_block b t r (o + 1) _ _ h1
    exact ⟨cur', h2, by simpa using h3⟩
theorem setL_other (b : Nat) : ∀ (vs : List Value) (o : Nat) (w : World) (c : Nat), c ≠ b → (w.setCells b o vs).heap[c]? = w.heap[c]?
  | [], _, _, _, _ => rfl
  | v :: r, o, w, c, h => by
    rw [World.setCells, setL_other b r (o + 1) _ c h, Below.heap_setCell _ _ _ c h]
theorem setL_size (b : Nat) : ∀ (vs : List Value) (o : Nat) (w : World), (w.setCells b o vs).heap.size = w.heap.size
  | [], _, _ => rfl
  | v :: r, o, w => by rw [World.setCells, setL_size b r, World.size_setCell]
theorem setL_rest (b : Nat) : ∀ (vs : List Value) (o : Nat) (w : World), (w.setCells b o vs).os = w.os ∧ (w.setCells b o vs).tape = w.tape ∧ (w.setCells b o vs).output = w.output
  | [], _, _ => ⟨rfl, rfl, rfl⟩
  | v :: r, o, w => setL_rest b r (o + 1) (w.setCell ⟨b, o, none⟩ v)
theorem ownL_of {w : World} {B g n cap k : Nat} {e : TypeId} {cur : Array Value} {xs : List Value} (hB : B ≤ g) (hg : w.heap[g]? = some (.cells cur e (0, 0))) (hn : n ≤ cap) (hc : cap ≤ maxLen) (hs : cur.size = cap * k) (hl : xs.length = n * k)
    (hx : ∀ j u, xs[j]? = some u → w.cell? ⟨g, j, none⟩ = some u) : w.ownsRow B e k (.slice (some ⟨g, 0, none⟩) n cap) n xs := by
  refine ⟨hl, .inr ⟨g, cap, cur, rfl, hB, hg, hn, hc, hs, ?_⟩⟩
  have hle : n * k ≤ cap * k := Nat.mul_le_mul_right k hn
  apply List.ext_getElem?
  intro j
  rw [List.getElem?_take]
  by_cases hj : j < n * k
  · rw [if_pos hj, List.getElem?_eq_getElem (show j < xs.length by omega)]
    have h1 := hx j _ (List.getElem?_eq_getElem (show j < xs.length by omega))
    rw [cell_of_row w g j cur e (0, 0) hg] at h1
    simpa using h1
  · rw [if_neg hj, List.getElem?_eq_none (by omega)]
def noLt : Lt := ⟨0, 0, ⟨0, 0, 0, false, ⟨#[]⟩⟩⟩
/-- clear at one element of five cells -/
theorem run_clear_lt (w : World) (ty : TypeId) (b o c : Nat) (hc : ∀ j, j < 7 → (w.cell? ⟨b, o + j, none⟩).isSome = true) (hf : ∀ j, j < 7 → w.frozen? ⟨b, o + j, none⟩ = false) :
    (Builtin.clear_ #[72] ty #[.slice (some ⟨b, o, none⟩) 1 c]).run Try.prog w = .ok (.tuple #[]) (w.setCells b o noLt.cells) := by
  obtain ⟨i0, hi0, hz0, hz1, hz2⟩ := info_parts infoLt
  have hzc : (Builtin.zeroCells (Value.agg #[.int .i64 0, .int .i64 0, .int .i64 0, .int .i64 0, .int .i64 0, .bool false, .string ⟨#[]⟩]).cells 1).toList = noLt.cells := by kernel_rfl
  have hv : (zeroValue 42).run Try.prog w = .ok (.agg #[.int .i64 0, .int .i64 0, .int .i64 0, .int .i64 0, .int .i64 0, .bool false, .string ⟨#[]⟩]) w := by simp [zeroValue, typeInfo, hi0, hz0]
  have hst := run_storeCells_cells (P := Try.prog) b o noLt.cells 0 w (by simpa [Lt.cells_length] using hc) (by simpa [Lt.cells_length] using hf) (fun v hv' => rowL_one [noLt] v (by simpa [rowL] using hv'))
  simp only [Nat.add_zero] at hst
  simp [Builtin.clear_, run_underlying Try.underlying72, hv, hzc, hst]

theorem rowL_erase (l : List Lt) (i : Nat) : rowL (l.eraseIdx i) = (rowL l).take (i * 7) ++ (rowL l).drop ((i + 1) * 7) := by
  rw [List.eraseIdx_eq_take_drop_succ, rowL_append, rowL_take, rowL_drop]

set_option maxHeartbeats 4000000 in
set_option maxRecDepth 100000 in
theorem deleteL_c (g cap i : Nat) (cur : Array Value) (l : List Lt) (w : World) (hg : w.heap[g]? = some (.cells cur 42 (0, 0))) (hcur : cur.size = cap * 7)
    (hx : ∀ j u, (rowL l)[j]? = some u → w.cell? ⟨g, j, none⟩ = some u) (hi : i < l.length) (hcap : l.length ≤ cap) (hmax : cap ≤ maxLen) :
    Calls Try.prog 38 #[.slice (some ⟨g, 0, none⟩) l.length cap, .int .i64 i, .int .i64 ((i : Int) + 1)] w fun e w' => e = .returned (.slice (some ⟨g, 0, none⟩) (l.length - 1) cap) ∧ OwnL w' (.slice (some ⟨g, 0, none⟩) (l.length - 1) cap) (l.eraseIdx i) ∧ Turn (fun c => c = g) w w' := by
  obtain ⟨i0, hi0, hz0, hz1, hz2⟩ := info_parts infoLt
  have hsome : ∀ j, j < cap * 7 → (w.cell? ⟨g, j, none⟩).isSome = true := fun j hj => by
    rw [cell_of_row w g j cur 42 (0, 0) hg, Array.getElem?_eq_getElem (by omega)]; rfl
  have hfz : ∀ j, w.frozen? ⟨g, j, none⟩ = false := fun j => by simp [World.frozen?, hg]
  obtain ⟨news, hnews⟩ : ∃ news, news = (rowL l).drop ((i + 1) * 7) := ⟨_, rfl⟩
  have hlen : news.length = (l.length - (i + 1)) * 7 := by rw [hnews, List.length_drop, rowL_length]; omega
  have hget : ∀ t, news[t]? = (rowL l)[(i + 1) * 7 + t]? := fun t => by rw [hnews, List.getElem?_drop]
  obtain ⟨A, hA, hsrc⟩ : ∃ A : Addr, (if cap = i + 1 then some (⟨g, 0, none⟩ : Addr) else some ⟨g, (i + 1) * 7, none⟩) = some A ∧ Hid (∀ t u, news[t]? = some u → w.drew.cell? (A.add t) = some u) := by
    by_cases h : cap = i + 1
    · refine ⟨⟨g, 0, none⟩, by simp [h], fun t u hu => ?_⟩
      have h0 : news.length = 0 := by rw [hlen]; omega
      rw [List.length_eq_zero_iff.1 h0] at hu
      simp at hu
    · refine ⟨⟨g, (i + 1) * 7, none⟩, by simp [h], fun t u hu => ?_⟩
      rw [Addr.add_lit]
      exact hx _ u (by rw [← hget]; exact hu)
  have s1 : Hid (news.length = (l.length - (i + 1)) * 7) := hlen
  have s2 : Hid (∀ u ∈ news, u.oneCell' = true) := by
    intro u hu
    rw [hnews] at hu
    exact rowL_one l u (List.mem_of_mem_drop hu)
  have s3 : Hid (∀ t, t < news.length → (w.drew.cell? ⟨g, 0 + i * 7 + t, none⟩).isSome = true ∧ w.drew.frozen? ⟨g, 0 + i * 7 + t, none⟩ = false) := by
    intro t ht
    rw [hlen] at ht
    exact ⟨hsome _ (by omega), hfz _⟩
  obtain ⟨W1, hW1⟩ : ∃ W1, W1 = w.drew.setCells g (0 + i * 7) news := ⟨_, rfl⟩
  have hin1 : ∀ t u, news[t]? = some u → W1.cell? ⟨g, i * 7 + t, none⟩ = some u := fun t u hu => by
    obtain ⟨ht, rfl⟩ := List.getElem?_eq_some_iff.1 hu
    rw [hW1, Nat.zero_add]
    exact World.cell?_setCells_in g _ _ w.drew (fun j hj => hsome _ (by rw [hlen] at hj; omega)) t ht
  have hout1 : ∀ j, j < i * 7 → W1.cell? ⟨g, j, none⟩ = w.cell? ⟨g, j, none⟩ := fun j hj => by
    rw [hW1, Nat.zero_add]; exact World.cell?_setCells_out g _ _ w.drew _ (fun _ _ => .inl hj)
  have hoth1 : ∀ c, c ≠ g → W1.heap[c]? = w.heap[c]? := fun c hc => by rw [hW1]; exact setL_other g _ _ w.drew c hc
  obtain ⟨cur1, hg1, hs1⟩ : ∃ cur', W1.heap[g]? = some (.cells cur' 42 (0, 0)) ∧ cur'.size = cur.size := by rw [hW1]; exact setL_block g 42 _ _ w.drew cur hg
  have hrest1 := setL_rest g news (0 + i * 7) w.drew
  have hsize1 := setL_size g news (0 + i * 7) w.drew
  rw [← hW1] at hrest1 hsize1
  have hsome1 : ∀ j, j < cap * 7 → (W1.cell? ⟨g, j, none⟩).isSome = true := fun j hj => by
    rw [cell_of_row W1 g j cur1 42 (0, 0) hg1, Array.getElem?_eq_getElem (by omega)]; rfl
  have hfz1 : ∀ j, W1.frozen? ⟨g, j, none⟩ = false := fun j => by simp [World.frozen?, hg1]
  have hcl : ∀ ty c, (Builtin.clear_ #[72] ty #[.slice (some ⟨g, (i + (l.length - (i + 1))) * 7, none⟩) 1 c]).run Try.prog W1 = .ok (.tuple #[]) (W1.setCells g ((i + (l.length - (i + 1))) * 7) noLt.cells) := fun ty c =>
    run_clear_lt W1 ty g _ c (fun j hj => hsome1 _ (by omega)) (fun j hj => hfz1 _)
  have HE : Hid (Ending.returned (.slice (some ⟨g, 0, none⟩) (i + (l.length - (i + 1))) cap) = .returned (.slice (some ⟨g, 0, none⟩) (l.length - 1) cap) ∧ OwnL (W1.setCells g ((i + (l.length - (i + 1))) * 7) noLt.cells) (.slice (some ⟨g, 0, none⟩) (l.length - 1) cap) (l.eraseIdx i) ∧ Turn (fun c => c = g) w (W1.setCells g ((i + (l.length - (i + 1))) * 7) noLt.cells)) := by
    have hl1 : i + (l.length - (i + 1)) = l.length - 1 := by omega
    have hel : (l.eraseIdx i).length = i + (l.length - (i + 1)) := by rw [List.length_eraseIdx, if_pos hi]; omega
    obtain ⟨cur2, hg2, hs2⟩ := setL_block g 42 noLt.cells ((i + (l.length - (i + 1))) * 7) W1 cur1 hg1
    have hr2 := setL_rest g noLt.cells ((i + (l.length - (i + 1))) * 7) W1
    refine ⟨by rw [hl1], ?_, ?_⟩
    · show World.ownsRow _ _ _ _ _ _ _
      rw [hel, ← hl1]
      refine ownL_of (Nat.zero_le _) hg2 (by omega) hmax (by omega) (by rw [rowL_length, hel]) ?_
      intro j u hu
      have hj : j < (i + (l.length - (i + 1))) * 7 := by
        have := (List.getElem?_eq_some_iff.1 hu).1
        rwa [rowL_length, hel] at this
      rw [World.cell?_setCells_out g _ _ W1 _ (fun _ _ => .inl hj)]
      rw [rowL_erase] at hu
      have ht : ((rowL l).take (i * 7)).length = i * 7 := by rw [List.length_take, rowL_length]; omega
      rcases Nat.lt_or_ge j (i * 7) with h | h
      · rw [List.getElem?_append_left (by omega), List.getElem?_take, if_pos h] at hu
        rw [hout1 j h]
        exact hx j u hu
      · rw [List.getElem?_append_right (by omega), ht, ← hnews] at hu
        have := hin1 _ u hu
        rwa [show i * 7 + (j - i * 7) = j by omega] at this
    · refine ⟨hr2.1.trans hrest1.1, hr2.2.1.trans hrest1.2.1, hr2.2.2.trans hrest1.2.2, ?_, fun c hc hcg => ?_⟩
      · rw [setL_size, hsize1]; exact Nat.le_refl _
      · rw [setL_other g _ _ W1 c hcg, hoth1 c hcg]
  have HCl : Hid _ := hcl
  have hW : Hid (W1 = w.drew.setCells g (0 + i * 7) news) := hW1
  clear hcl hW1 hrest1 hsize1 hin1 hout1 hoth1 hg1 hs1 hsome1 hfz1 hsome hfz hget hnews hlen hx
  generalize hn : l.length = n at *
  have HN : Hid (l.length = n) := hn
  clear hn
  have hc63 : cap ≤ 9223372036854775807 := hmax
  have hii : (i : Int) < (n : Int) := by omega
  have hi2 : (i : Int) + 1 ≤ (n : Int) := by omega
  have hne : ¬ ((i : Int) = (i : Int) + 1) := by omega
  have htn : ((i : Int) + 1).toNat = i + 1 := by omega
  have hb5 : (0 : Int) ≤ (i : Int) + 1 := by omega
  have hic : i ≤ cap := by omega
  have hjc : i + 1 ≤ cap := by omega
  go_enter Try.func38, Try.ntmps38
  go_wp2_with fail
  go_region_law (refine step_append_room rfl (.tmp 22) (.tmp 25) 72 rfl 42 i0 7 Try.underlying72 hi0 hz1 g 0 i cap (by simp [Act.eval, Act.put]) A (n - (i + 1)) (cap - (i + 1)) news (by simp [Act.eval, Act.put, hA]) s1.out hsrc.out s2.out (by omega) s3.out ?_; rw [← hW.out])
  have hcl := HCl.out
  have hl1 : n - (i + (n - (i + 1))) = 1 := by omega
  go_wp2_with fail
  go_ret
  exact HE.out
end Go.Proofs.Ytbincnajklmnaaa
