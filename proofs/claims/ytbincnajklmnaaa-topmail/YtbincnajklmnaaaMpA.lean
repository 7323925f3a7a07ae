/-
  A map that a call made, as a function of its keys: looked up, stored into, deleted from.
-/
import Derived.Test.YtbincnajklmnaaaRows
import Derived.Maps.Own
import Derived.RowKit
namespace Go.Proofs.Ytbincnajklmnaaa
set_option linter.unusedVariables false
set_option linter.unusedSimpArgs false
open Go.ChangeMaps Go.MapKept Go.Maps Go.WideShapes Go.RowKit

/-- a block that holds a map of at most n entries: f tells of each key what is there -/
def MapAt (P : Program) (k : TypeId) (w : World) (b n : Nat) (f : Value → Option Value) : Prop :=
  ∃ es clock, w.heap[b]? = some (.map es clock) ∧ es.size ≤ n ∧ (∀ e ∈ es.toList, (∃ l, keyOf P k e.key = some l) ∧ f e.key = some e.val) ∧ (∀ x, (∀ e ∈ es.toList, e.key ≠ x) → f x = none) ∧ es.toList.Pairwise (fun x y => x.key ≠ y.key)

theorem MapAt.lt {P : Program} {k : TypeId} {w : World} {b n : Nat} {f : Value → Option Value} (h : MapAt P k w b n f) : b < w.heap.size := by
  obtain ⟨es, clock, hb, _⟩ := h
  exact (Array.getElem?_eq_some_iff.1 hb).1
theorem MapAt.of_block {P : Program} {k : TypeId} {w w' : World} {b n : Nat} {f : Value → Option Value} (h : MapAt P k w b n f) (hb : w'.heap[b]? = w.heap[b]?) : MapAt P k w' b n f := by
  obtain ⟨es, clock, h0, rest⟩ := h
  exact ⟨es, clock, hb.trans h0, rest⟩
theorem MapAt.below {P : Program} {k : TypeId} {w w' : World} {b n B : Nat} {f : Value → Option Value} (h : MapAt P k w b n f) (hb : Below B w w') (hB : b < B) : MapAt P k w' b n f := h.of_block (hb.block b hB)
theorem MapAt.more {P : Program} {k : TypeId} {w : World} {b n n' : Nat} {f : Value → Option Value} (h : MapAt P k w b n f) (hn : n ≤ n') : MapAt P k w b n' f := by
  obtain ⟨es, clock, h0, h1, rest⟩ := h
  exact ⟨es, clock, h0, Nat.le_trans h1 hn, rest⟩
theorem MapAt.made (P : Program) (k : TypeId) (w : World) : MapAt P k (w.alloc (.map #[] 0)) w.heap.size 0 (fun _ => none) :=
  ⟨#[], 0, (heap_alloc w _).1, by simp, by simp, fun _ _ => rfl, by simp⟩
/-- m[k], and v, ok := m[k] -/
theorem MapAt.look {P : Program} {k t e : TypeId} {w : World} {b n : Nat} {f : Value → Option Value} (h : MapAt P k w b n f) (c : Bool) (K : Keyed P k) (ht : P.underlying t = some (.map k e)) {z : Value} (hz : (zeroValue e).run P w = .ok z w) {x : Value} {kl : Lit} (hx : keyOf P k x = some kl) :
    (Instr.lookup t (.map (some b)) x c).run P w = .ok (if c then .tuple #[(f x).getD z, .bool (f x).isSome] else (f x).getD z) w := by
  obtain ⟨es, clock, hb, _, h1, h2, _⟩ := h
  rcases K.find w hx es.toList (fun e he => (h1 e he).1) with ⟨g1, g2⟩ | ⟨j, e0, g1, g2, g3⟩
  · have hf : f x = none := h2 x g2
    rw [hf]
    simp [Instr.lookup, run_underlying ht, MapKept.run_getObj_map hb, K.check w _ hx, g1, hz, Result.andThen]
  · have hf : f x = some e0.val := by
      rw [← g3]
      exact (h1 e0 (List.mem_of_getElem? g2)).2
    rw [hf]
    simp [Instr.lookup, run_underlying ht, MapKept.run_getObj_map hb, K.check w _ hx, g1, Result.andThen]
/-- m[k] = v -/
theorem MapAt.store {P : Program} {k t e : TypeId} {w : World} {b n : Nat} {f f' : Value → Option Value} (h : MapAt P k w b n f) (K : Keyed P k) (ht : P.underlying t = some (.map k e)) {x v : Value} {kl : Lit} (hx : keyOf P k x = some kl) (hf : f' x = some v) (hf' : ∀ y, y ≠ x → f' y = f y) :
    ∃ w', (Instr.mapUpdate t (.map (some b)) x v).run P w = .ok () w' ∧ MapAt P k w' b (n + 1) f' ∧ w.grownBy w' (some b) := by
  obtain ⟨es, clock, hb, hn, h1, h2, h3⟩ := h
  have grown : ∀ o : Obj, w.grownBy (setBlock w b o) (some b) := fun o => ⟨rfl, rfl, rfl, by simp [setBlock], fun i _ hi => heap_setBlock_other hb _ (fun e => hi (by rw [e]))⟩
  rcases K.find w hx es.toList (fun e he => (h1 e he).1) with ⟨g1, g2⟩ | ⟨j, e0, g1, g2, g3⟩
  · refine ⟨setBlock w b (.map (es.push ⟨x, v, clock⟩) (clock + 1)), ?_, ⟨_, _, heap_setBlock_same hb _, by simp; omega, ?_, ?_, ?_⟩, grown _⟩
    · simp [Instr.mapUpdate, run_underlying ht, MapKept.run_getObj_map hb, K.check w false hx, g1, MapKept.run_setObj_map _ hb, Result.andThen, setBlock]
    · intro e he
      simp only [Array.toList_push, List.mem_append, List.mem_singleton] at he
      rcases he with he | rfl
      · exact ⟨(h1 e he).1, (hf' e.key (g2 e he)).trans (h1 e he).2⟩
      · exact ⟨⟨kl, hx⟩, hf⟩
    · intro y hy
      simp only [Array.toList_push, List.mem_append, List.mem_singleton] at hy
      rw [hf' y (fun hyx => hy ⟨x, v, clock⟩ (.inr rfl) hyx.symm)]
      exact h2 y (fun e he => hy e (.inl he))
    · rw [Array.toList_push, List.pairwise_append]
      refine ⟨h3, by simp, fun a ha c hc => ?_⟩
      simp only [List.mem_singleton] at hc
      subst hc
      exact g2 a ha
  · have hj : es[j]? = some e0 := by simpa using g2
    have hjl : j < es.toList.length := (List.getElem?_eq_some_iff.1 g2).1
    have hlist : (es.modify j (fun e' => { e' with key := x, val := v })).toList = es.toList.set j { e0 with key := x, val := v } := by rw [Array.toList_modify, modify_eq_set _ _ _ _ g2]
    have hother : ∀ i (hi : i < es.toList.length), i ≠ j → (es.toList[i]).key ≠ x := fun i hi hij => by
      rw [← g3]
      have e1 : es.toList[j] = e0 := (List.getElem?_eq_some_iff.1 g2).2
      rw [← e1]
      rcases Nat.lt_or_gt_of_ne hij with h | h
      · exact List.pairwise_iff_getElem.1 h3 i j hi hjl h
      · exact fun e => List.pairwise_iff_getElem.1 h3 j i hjl hi h e.symm
    refine ⟨setBlock w b (.map (es.modify j (fun e' => { e' with key := x, val := v })) clock), ?_, ⟨_, _, heap_setBlock_same hb _, by simp; omega, ?_, ?_, ?_⟩, grown _⟩
    · simp [Instr.mapUpdate, run_underlying ht, MapKept.run_getObj_map hb, K.check w false hx, g1, hj, g3, K.stays w hx, MapKept.run_setObj_map _ hb, Result.andThen, setBlock]
    · intro e he
      rw [hlist] at he
      obtain ⟨i, hi, ex⟩ := List.getElem_of_mem he
      rw [List.getElem_set] at ex
      split at ex
      · subst ex
        exact ⟨⟨kl, hx⟩, hf⟩
      · rename_i hne
        have hi' : i < es.toList.length := by simpa using hi
        have hk := hother i hi' (fun h => hne h.symm)
        rw [ex] at hk
        have hm : e ∈ es.toList := ex ▸ List.getElem_mem hi'
        exact ⟨(h1 e hm).1, (hf' e.key hk).trans (h1 e hm).2⟩
    · intro y hy
      rw [hlist] at hy
      have hyx : y ≠ x := fun hyx => hy { e0 with key := x, val := v } (List.mem_iff_getElem.2 ⟨j, by simpa using hjl, by simp⟩) hyx.symm
      rw [hf' y hyx]
      refine h2 y (fun e he hey => ?_)
      obtain ⟨i, hi, ex⟩ := List.getElem_of_mem he
      by_cases hij : i = j
      · subst hij
        have e1 : es.toList[i] = e0 := (List.getElem?_eq_some_iff.1 g2).2
        rw [e1] at ex
        subst ex
        exact hyx (hey.symm.trans g3)
      · exact hy e (List.mem_iff_getElem.2 ⟨i, by simpa using hi, by rw [List.getElem_set_ne (fun h => hij h.symm)]; exact ex⟩) hey
    · rw [hlist, List.pairwise_iff_getElem]
      intro i i' hi hi' hlt
      have hil : i < es.toList.length := by simpa using hi
      have hil' : i' < es.toList.length := by simpa using hi'
      rw [List.getElem_set, List.getElem_set]
      split
      · rename_i hji
        rw [if_neg (by omega)]
        exact fun e => hother i' hil' (by omega) e.symm
      · split
        · exact hother i hil (by omega)
        · exact List.pairwise_iff_getElem.1 h3 i i' hil hil' hlt
/-- delete(m, k) -/
theorem MapAt.drop {P : Program} {k t e ty : TypeId} {w : World} {b n : Nat} {f f' : Value → Option Value} (h : MapAt P k w b n f) (K : Keyed P k) (ht : P.underlying t = some (.map k e)) {x : Value} {kl : Lit} (hx : keyOf P k x = some kl) (hf : f' x = none) (hf' : ∀ y, y ≠ x → f' y = f y) :
    ∃ w', (Builtin.delete_ #[t, k] ty #[.map (some b), x]).run P w = .ok (.tuple #[]) w' ∧ MapAt P k w' b n f' ∧ w.grownBy w' (some b) := by
  obtain ⟨es, clock, hb, hn, h1, h2, h3⟩ := h
  have grown : ∀ o : Obj, w.grownBy (setBlock w b o) (some b) := fun o => ⟨rfl, rfl, rfl, by simp [setBlock], fun i _ hi => heap_setBlock_other hb _ (fun e => hi (by rw [e]))⟩
  rcases K.find w hx es.toList (fun e he => (h1 e he).1) with ⟨g1, g2⟩ | ⟨j, e0, g1, g2, g3⟩
  · refine ⟨setBlock w b (.map es clock), ?_, ⟨_, _, heap_setBlock_same hb _, hn, fun e he => ⟨(h1 e he).1, (hf' e.key (g2 e he)).trans (h1 e he).2⟩, fun y hy => ?_, h3⟩, grown _⟩
    · simp [Builtin.delete_, run_underlying ht, MapKept.run_getObj_map hb, K.check w _ hx, g1, MapKept.run_setObj_map _ hb, Result.andThen, setBlock]
    · by_cases hyx : y = x
      · rw [hyx]
        exact hf
      · rw [hf' y hyx]
        exact h2 y hy
  · have hjl : j < es.toList.length := (List.getElem?_eq_some_iff.1 g2).1
    have hjs : j < es.size := by simpa using hjl
    have hsub : (es.eraseIdxIfInBounds j).toList = es.toList.eraseIdx j := by
      unfold Array.eraseIdxIfInBounds
      rw [dif_pos hjs]
      simp
    have e1 : es.toList[j] = e0 := (List.getElem?_eq_some_iff.1 g2).2
    have hother : ∀ i (hi : i < es.toList.length), i ≠ j → (es.toList[i]).key ≠ x := fun i hi hij => by
      rw [← g3, ← e1]
      rcases Nat.lt_or_gt_of_ne hij with h | h
      · exact List.pairwise_iff_getElem.1 h3 i j hi hjl h
      · exact fun e => List.pairwise_iff_getElem.1 h3 j i hjl hi h e.symm
    refine ⟨setBlock w b (.map (es.eraseIdxIfInBounds j) clock), ?_, ⟨_, _, heap_setBlock_same hb _, Nat.le_trans (MapFrom.size_erase es j) hn, ?_, ?_, ?_⟩, grown _⟩
    · simp [Builtin.delete_, run_underlying ht, MapKept.run_getObj_map hb, K.check w _ hx, g1, MapKept.run_setObj_map _ hb, Result.andThen, setBlock]
    · intro e he
      rw [hsub] at he
      obtain ⟨i, hne, hi⟩ := List.mem_eraseIdx_iff_getElem?.1 he
      obtain ⟨hil, ex⟩ := List.getElem?_eq_some_iff.1 hi
      have hk := hother i hil hne
      rw [ex] at hk
      have hm : e ∈ es.toList := List.mem_of_getElem? hi
      exact ⟨(h1 e hm).1, (hf' e.key hk).trans (h1 e hm).2⟩
    · intro y hy
      by_cases hyx : y = x
      · rw [hyx]
        exact hf
      · rw [hf' y hyx]
        refine h2 y (fun e he hey => ?_)
        obtain ⟨i, hi, ex⟩ := List.getElem_of_mem he
        by_cases hij : i = j
        · subst hij
          rw [e1] at ex
          subst ex
          exact hyx (hey.symm.trans g3)
        · refine hy e ?_ hey
          rw [hsub]
          exact List.mem_eraseIdx_iff_getElem?.2 ⟨i, hij, List.getElem?_eq_some_iff.2 ⟨hi, ex⟩⟩
    · rw [hsub]
      exact h3.sublist (List.eraseIdx_sublist _ _)
end Go.Proofs.Ytbincnajklmnaaa
