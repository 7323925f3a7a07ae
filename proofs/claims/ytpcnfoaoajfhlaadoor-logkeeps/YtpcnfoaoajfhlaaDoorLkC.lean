/-
  LogKeeps: a copy of the document's store.
-/
import Derived.Test.YtpcnfoaoajfhlaaDoorLkM
import Derived.Laws.OwnMore
import Derived.Maps.AppendAt
import Derived.Deep.Draws
import Derived.Deep.RegionHeld3
import Derived.BigRegion
import Derived.BigQuiet
namespace Go.Proofs.YtpcnfoaoajfhlaaDoor
set_option linter.unusedVariables false
set_option linter.unusedSimpArgs false
open Go.RowKit

/-- append, not laid open: its run is then met as a fact -/
def appD (ats : Array TypeId) (ty : TypeId) (args : Array Value) : Sem Value := Builtin.append_ ats ty args
theorem appD_is (ats : Array TypeId) (ty : TypeId) (args : Array Value) : Builtin.append_ ats ty args = appD ats ty args := rfl
attribute [local go_sem ↓] appD_is
theorem rowE_ones (l : List Deed) : ∀ u ∈ rowE l, u.oneCell' = true := by
  induction l with
  | nil => intro u hu; cases hu
  | cons d l ih =>
    intro u hu
    rw [rowE] at hu
    rcases List.mem_append.1 hu with h | h
    · simp [Deed.cells] at h
      rcases h with rfl | rfl | rfl | rfl <;> rfl
    · exact ih u h
theorem run_appD (w : World) (v : Value) (l : List Deed) (hv : w.ownsRow 0 38 5 v l.length (rowE l)) (hl : l.length ≤ 1000) :
    ∃ v' w', (appD #[34, 34] 34 #[.slice none 0 0, v]).run Tryd.prog w = .ok v' w' ∧ w'.ownsRow 0 38 5 v' l.length (rowE l) ∧ Below w.heap.size w w' ∧ (∀ c, v'.ownBlock = some c → w.heap.size ≤ c) := by
  obtain ⟨i0, hi0, hz0, hz1, hz2⟩ := info_parts infoEnt
  have hn0 : w.ownsRow 0 38 5 (.slice none 0 0) 0 [] := ⟨rfl, .inl ⟨rfl, rfl⟩⟩
  rcases hv.2 with ⟨rfl, h0⟩ | ⟨g, cap, cur, rfl, _, hg, hc1, hc2, hc3, hc4⟩
  · have hnil : l = [] := List.length_eq_zero_iff.1 h0
    subst hnil
    exact ⟨.slice none 0 0, w, run_append_owned_none (P := Tryd.prog) (w := w) 0 34 34 38 i0 5 Tryd.underlying34 hi0 (.slice none 0 0) 0 [] hn0, hn0, Below.refl _ _, fun c hc => by cases hc⟩
  · have q2 : ∀ (j : Nat) (u : Value), (rowE l)[j]? = some u → w.cell? ((⟨g, 0, none⟩ : Addr).add j) = some u := fun j u hu => by
      rw [← hc4] at hu
      have hj : (cur.toList.take (l.length * 5))[j]? = some u := hu
      rw [List.getElem?_take] at hj
      split at hj
      · have hq : cur[j]? = some u := by simpa using hj
        by_cases hj0 : j = 0
        · subst hj0; simp [World.cell?, Addr.add, hg, hq]
        · simp [World.cell?, Addr.add, hj0, hg, hq]
      · cases hj
    obtain ⟨v3, w3, h1, h2, h3, _, h5⟩ := run_append_own_at (P := Tryd.prog) w 0 34 34 38 i0 _ 5 48 Tryd.underlying34 hi0 hz0 hz1 hz2 rfl (by omega) (.slice none 0 0) 0 [] hn0 ⟨g, 0, none⟩ l.length cap (rowE l) (by rw [rowE_length]) q2 (rowE_ones l) (by unfold maxLen; omega) (by omega) (Nat.zero_le _)
    rw [Nat.zero_add, List.nil_append] at h2
    refine ⟨v3, w3, h1, h2, below_grownB h3 (Nat.le_refl _) (fun c hc => by cases hc), fun c hc => ?_⟩
    rcases h5 with h5 | h5
    · rw [h5] at hc; cases hc
    · rw [h5] at hc
      have : w.heap.size = c := by simpa using hc
      exact Nat.le_of_eq this
theorem row_lt {w : World} {B : Nat} {e : TypeId} {size : Nat} {v : Value} {n : Nat} {xs : List Value} (h : w.ownsRow B e size v n xs) (g : Nat) (hg : v.ownBlock = some g) : g < w.heap.size := by
  rcases h.2 with ⟨rfl, _⟩ | ⟨g', cap, cur, rfl, h1, h2, _⟩
  · cases hg
  · obtain rfl : g' = g := by simpa [Value.ownBlock] using hg
    exact (Array.getElem?_eq_some_iff.1 h2).1
set_option maxRecDepth 100000 in
set_option maxHeartbeats 8000000 in
theorem refCopy_c {b : Nat} {l : List Deed} {G : Nat → Prop} {w : World} (h : RefIs w b l G) :
    Calls Tryd.prog 24 #[.pointer (some ⟨b, 0, none⟩)] w fun e w' => ∃ nb G', e = .returned (.pointer (some ⟨nb, 0, none⟩)) ∧ RefIs w' nb l G' ∧ (∀ c, G' c → w.heap.size ≤ c) ∧ Below w.heap.size w w' := by
  obtain ⟨v, c0, cf, hrow, hvb, hvG, hGb, hGl, hl⟩ := h
  have lb : b < w.heap.size := World.block_lt_of_cell? w _ c0
  have hra : (w.alloc (.cells #[.slice none 0 0] 59)).ownsRow 0 38 5 v l.length (rowE l) := ownsRow_blocks hrow (fun g hg => ((Below.refl w.heap.size w).alloc (Nat.le_refl _) _).block g (hGl g (hvG g hg)))
  obtain ⟨v', w6, hrun, hown, hbel, hnew⟩ := run_appD (w.alloc (.cells #[.slice none 0 0] 59)).drew v l (ownsRow_blocks hra (fun _ _ => rfl)) hl
  obtain ⟨p6, n6, q6, hv6⟩ : ∃ p n c, v' = .slice p n c := by
    rcases hown.2 with ⟨rfl, _⟩ | ⟨g, cap, cur, rfl, _⟩
    · exact ⟨_, _, _, rfl⟩
    · exact ⟨_, _, _, rfl⟩
  subst hv6
  obtain ⟨p0, n0, q0, hv0⟩ : ∃ p n c, v = .slice p n c := by
    rcases hrow.2 with ⟨rfl, _⟩ | ⟨g, cap, cur, rfl, _⟩
    · exact ⟨_, _, _, rfl⟩
    · exact ⟨_, _, _, rfl⟩
  subst hv0
  have hz1 : (w.alloc (.cells #[.slice none 0 0] 59)).drew.heap.size = w.heap.size + 1 := by show (w.alloc _).heap.size = _; simp
  rw [hz1] at hnew
  have hs6 : w.heap.size + 1 ≤ w6.heap.size := by have := hbel.size; rw [hz1] at this; exact this
  have hb6 : Below w.heap.size w w6 := by
    refine ⟨hbel.os.trans rfl, hbel.tape.trans rfl, hbel.output.trans rfl, by omega, fun c hc => ?_⟩
    have h1 := hbel.block c (by rw [hz1]; omega)
    exact h1.trans (((Below.refl w.heap.size w).alloc (Nat.le_refl _) (.cells #[.slice none 0 0] 59)).block c hc)
  have hblk : w6.heap[w.heap.size]? = some (.cells #[.slice none 0 0] 59) := by
    have h1 := hbel.block w.heap.size (by rw [hz1]; omega)
    exact h1.trans (alloc_at w _ _ rfl)
  have e6 : w6.cell? ⟨w.heap.size, 0, none⟩ = some (.slice none 0 0) := by simp [World.cell?, hblk]
  have e6f : w6.frozen? ⟨w.heap.size, 0, none⟩ = false := by simp [World.frozen?, hblk]
  have HEnd : Hid (RefIs (w6.setCell ⟨w.heap.size, 0, none⟩ (.slice p6 n6 q6)) w.heap.size l (fun c => c = w.heap.size ∨ (Value.slice p6 n6 q6).ownBlock = some c)) := by
    have hne : (Value.slice p6 n6 q6).ownBlock ≠ some w.heap.size := fun hc => by have := hnew _ hc; omega
    have hlt6 : ∀ c, (Value.slice p6 n6 q6).ownBlock = some c → c < w6.heap.size := fun c hc => row_lt hown c hc
    refine ⟨.slice p6 n6 q6, World.cell?_setCell_same _ _ _ e6, by rw [World.frozen?_setCell]; exact e6f, ownsRow_blocks hown (fun g hg => Below.heap_setCell _ _ _ g (fun e => hne (by rw [hg, e]))), hne, fun c hc => .inr hc, .inl rfl, fun c hc => ?_, hl⟩
    rw [World.size_setCell]
    rcases hc with rfl | hc
    · omega
    · exact hlt6 c hc
  have HB : Hid (Below w.heap.size w (w6.setCell ⟨w.heap.size, 0, none⟩ (.slice p6 n6 q6))) := hb6.setCell (Nat.le_refl _) _
  have HNew : Hid (∀ c, (Value.slice p6 n6 q6).ownBlock = some c → w.heap.size ≤ c) := fun c hc => by have := hnew c hc; omega
  clear hbel hown hnew hb6 hs6 hra hrow hvG hGl hGb hvb hl
  go_enter Tryd.func24, Tryd.ntmps24
  go_upto_region 2 with fail
  refine wp_region_noPanic ?_
  go_region
  all_goals refine NoPanic.normal ?_
  all_goals go_wp2_with fail
  all_goals go_ret
  all_goals exact ⟨_, _, rfl, HEnd.out, fun c hc => hc.elim (fun h => Nat.le_of_eq h.symm) (HNew.out c), HB.out⟩
end Go.Proofs.YtpcnfoaoajfhlaaDoor
