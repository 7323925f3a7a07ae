/-
  TopOwners: six caches at a block; a log with one record; who owns a key.
-/
import Derived.Test.YtpcnfoaoajfhlaaGreatDoorQoaj
import Derived.Test.YtpcnfoaoajfhlaaGreatDoorQoas
import Derived.Test.YtpcnfoaoajfhlaaGreatDoorQobe
import Derived.Test.YtpcnfoaoajfhlaaGreatDoorQobf
import Derived.Test.YtpcnfoaoajfhlaaGreatDoorQobl
namespace Go.Proofs.YtpcnfoaoajfhlaaGreatDoor
set_option linter.unusedVariables false
set_option linter.unusedSimpArgs false
set_option linter.unusedVariables false
set_option linter.unusedSimpArgs false
open Go.RowKit

/-- so many caches at a block -/
structure RowsAt (w : World) (b n : Nat) (zs : List (List En)) : Prop where
  lt : b < w.heap.size
  len : zs.length = n
  cell : ∀ k (h : k < zs.length), ∃ u, w.cell? ⟨b, k, none⟩ = some u ∧ RowIs w u zs[k] ∧ u.ownBlock ≠ some b
  fz : ∀ k, w.frozen? ⟨b, k, none⟩ = false
theorem RowsAt.below {w w' : World} {b n : Nat} {zs : List (List En)} (h : RowsAt w b n zs) (hb : Below w.heap.size w w') : RowsAt w' b n zs :=
  ⟨Nat.lt_of_lt_of_le h.lt hb.size, h.len, fun k hk => by
    obtain ⟨u, hu, hr, hn⟩ := h.cell k hk
    exact ⟨u, (World.cell?_of_block (a := ⟨b, k, none⟩) (hb.block b h.lt)).trans hu, hr.below hb, hn⟩,
   fun k => (World.frozen?_of_block (a := ⟨b, k, none⟩) (hb.block b h.lt)).trans (h.fz k)⟩
theorem rowsAt_new (w : World) (t : TypeId) (n : Nat) (b : Nat) (hb : b = w.heap.size) : RowsAt (w.alloc (.cells (madeCells #[.slice none 0 0] n) t)) b n (List.replicate n []) := by
  subst hb
  refine ⟨by simp, by simp, fun k hk => ⟨.slice none 0 0, ?_, ?_, by simp [Value.ownBlock]⟩, fun k => by simp⟩
  · have hk' : k < n := by simpa using hk
    rw [World.cell?_alloc_at _ _ _ _ rfl]
    simp [madeCells, hk', Nat.mod_one]
  · rw [List.getElem_replicate]; exact RowIs.nil _
theorem RowsAt.set {w : World} {b n j : Nat} {zs : List (List En)} (h : RowsAt w b n zs) (hj : j < n) (v : Value) {l : List En} (hr : RowIs w v l) (hv : v.ownBlock ≠ some b) : RowsAt (w.setCell ⟨b, j, none⟩ v) b n (zs.set j l) := by
  have keep : ∀ {u : Value} {l : List En}, RowIs w u l → u.ownBlock ≠ some b → RowIs (w.setCell ⟨b, j, none⟩ v) u l := fun hr hu =>
    hr.blocks (by rw [World.size_setCell]; exact Nat.le_refl _) (fun c hc _ => Below.heap_setCell _ _ _ c (fun e => hu (by rw [hc, e])))
  refine ⟨by rw [World.size_setCell]; exact h.lt, by rw [List.length_set]; exact h.len, fun k hk => ?_, fun k => by rw [World.frozen?_setCell]; exact h.fz k⟩
  have hk' : k < zs.length := by simpa using hk
  obtain ⟨u0, hu0, _⟩ := h.cell j (by rw [h.len]; exact hj)
  obtain ⟨u, hu, hr', hn⟩ := h.cell k hk'
  by_cases hkj : j = k
  · subst hkj
    refine ⟨v, World.cell?_setCell_same _ _ _ hu0, ?_, hv⟩
    rw [List.getElem_set_self]
    exact keep hr hv
  · refine ⟨u, (World.cell?_setCell_other _ _ _ _ (by first | (simp; done) | (simp; omega))).trans hu, ?_, hn⟩
    rw [List.getElem_set_ne hkj]
    exact keep hr' hn
theorem RowsAt.rows {w : World} {b n : Nat} {zs : List (List En)} (h : RowsAt w b n zs) (hm : n ≤ maxLen) : RowsIs w (.slice (some ⟨b, 0, none⟩) n n) zs := by
  obtain ⟨hlt, rfl, hc, _⟩ := h
  refine ⟨hm, _, _, rfl, fun _ => ⟨b, 0, rfl, hlt, fun j hj => ?_⟩⟩
  obtain ⟨u, hu, hr, _⟩ := hc j hj
  exact ⟨u, by rw [Nat.zero_add]; exact hu, hr⟩
/-- two caches in a row, of which the first is none -/
theorem rows_two (w : World) (b : Nat) (v : Value) (l : List En) (hr : RowIs w v l) (hb : b = w.heap.size) : RowsIs (w.alloc (.cells #[.slice none 0 0, v] 32)) (.slice (some ⟨b, 0, none⟩) 2 2) [[], l] := by
  subst hb
  have hal : Below w.heap.size w (w.alloc (.cells #[.slice none 0 0, v] 32)) := (Below.refl _ w).alloc (Nat.le_refl _) _
  refine ⟨by show (2 : Nat) ≤ maxLen; unfold maxLen; omega, _, _, rfl, fun _ => ⟨w.heap.size, 0, rfl, by simp, fun j hj => ?_⟩⟩
  match j, hj with
  | 0, _ => exact ⟨.slice none 0 0, (World.cell?_alloc_at _ _ _ _ rfl).trans rfl, RowIs.nil _⟩
  | 1, _ => exact ⟨v, (World.cell?_alloc_at _ _ _ _ rfl).trans rfl, hr.below hal⟩
/-- the deed of one put -/
theorem put_first {k : Nat} (hk : k ≤ 7) {t : ByteArray} (ht : t.size ≤ 12) : putO [] k t = ⟨[⟨k, false, t⟩], 1, 0⟩ := by
  have : stK (k : Int) = true := by simp [stK]; omega
  rw [putO, if_neg (by rw [this]; simp), if_neg (by omega), recO, if_neg (by simp)]
  rfl
theorem put_long {k : Nat} (hk : k ≤ 7) {t : ByteArray} (ht : 12 < t.size) : putO [] k t = ⟨[], 0, 4⟩ := by
  have : stK (k : Int) = true := by simp [stK]; omega
  rw [putO, if_neg (by rw [this]; simp), if_pos ht]
theorem fits_first {k : Nat} (hk : k ≤ 7) {t : ByteArray} (ht : t.size ≤ 12) : Fits [⟨k, false, t⟩] := by
  intro i hi
  obtain rfl : i = 0 := by simp at hi; omega
  have e := put_first hk ht
  exact ⟨congrArg Out.err e, congrArg Out.done e⟩
theorem read_first {k : Nat} (hk : k ≤ 7) (t : ByteArray) : (atO [⟨k, false, t⟩] (k : Int) ([(⟨k, false, t⟩ : Deed)].length : Nat)).1 = ⟨k, 1, 1, false, t⟩ ∧ (atO [⟨k, false, t⟩] (k : Int) ([(⟨k, false, t⟩ : Deed)].length : Nat)).2 = 0 := by
  have hs : stK (k : Int) = true := by simp [stK]; omega
  have e : lastOf [(⟨k, false, t⟩ : Deed)] (k : Int) = ⟨1, false, t⟩ := by
    have h := lastOf_snoc (k : Int) [] ⟨k, false, t⟩
    rw [if_pos rfl] at h
    exact h
  rw [atO, if_pos ⟨hs, by simp, by simp⟩, entAt, Int.toNat_natCast, List.take_length, e]
  exact ⟨by simp, rfl⟩
/-- the owners that are told -/
theorem owners_few {nodes : List Int} {each m : Nat} {t : Int} (hg : ∀ x ∈ nodes, 0 ≤ x ∧ x ≤ 5) (hm : m ≤ (ownersL t (ptsL nodes each)).length) :
    ((ownersL t (ptsL nodes each)).take m).Nodup ∧ (∀ x ∈ (ownersL t (ptsL nodes each)).take m, 0 ≤ x ∧ x ≤ 5) ∧ ((ownersL t (ptsL nodes each)).take m).length = m := by
  refine ⟨List.Nodup.sublist (List.take_sublist _ _) (owners_nodup _ _), fun x hx => ?_, by rw [List.length_take]; omega⟩
  obtain ⟨y, hy, rfl⟩ := owners_mem (List.mem_of_mem_take hx)
  have := (pts_node hy).1
  exact hg _ (by simpa using this)
end Go.Proofs.YtpcnfoaoajfhlaaGreatDoor
