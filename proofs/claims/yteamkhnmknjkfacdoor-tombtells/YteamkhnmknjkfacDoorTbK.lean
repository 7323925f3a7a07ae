/-
  Package tomb by its contracts: knowsGone, and the function that Safe hands on.
-/
import Derived.Test.YteamkhnmknjkfacDoorTbF
import Derived.Shelf.Abstract
namespace Go.Proofs.YteamkhnmknjkfacDoor
set_option linter.unusedVariables false
set_option linter.unusedSimpArgs false
open Go.RowKit Go.Shelf

set_option maxHeartbeats 2000000 in
theorem knows1_c (key ver : Int) (kb vb : Nat) (x0 x1 x2 : Int) (x3 : Bool) (x4 : ByteArray) (B : Bool) (hB : goneAt key ver ⟨x0, x1, x2, x3, x4⟩ = B) (w : World) (ck : w.cell? ⟨kb, 0, none⟩ = some (.int .i64 key)) (cv : w.cell? ⟨vb, 0, none⟩ = some (.int .i64 ver)) :
    Calls Tryd.prog 43 #[.agg #[.int .i64 x0, .int .i64 x1, .int .i64 x2, .bool x3, .string x4], .pointer (some ⟨kb, 0, none⟩), .pointer (some ⟨vb, 0, none⟩)] w fun e w' => e = .returned (.bool B) ∧ Below w.heap.size w w' := by
  have HB : Hid (goneAt key ver ⟨x0, x1, x2, x3, x4⟩ = B) := hB
  clear hB
  have hkl := World.block_lt_of_cell? w _ ck
  have hvl := World.block_lt_of_cell? w _ cv
  dsimp only at hkl hvl
  by_cases h1 : x0 = key
  · have h1b : (x0 == key) = true := by simpa using h1
    cases x3
    · have HBf : Hid (B = false) := by show B = false; rw [← HB.out]; simp [goneAt]
      go_enter Tryd.func43, Tryd.ntmps43
      go_wp2_with fail
      go_ret
      exact ⟨by rw [HBf.out]; rfl, by go_grown⟩
    · obtain ⟨b2, h2b⟩ : ∃ b, (x1 == ver) = b := ⟨_, rfl⟩
      have HBf : Hid (B = b2) := by show B = b2; rw [← HB.out, ← h2b]; simp [goneAt, h1]
      go_enter Tryd.func43, Tryd.ntmps43
      go_wp2_with fail
      go_ret
      exact ⟨by rw [HBf.out]; rfl, by go_grown⟩
  · have h1b : (x0 == key) = false := by simpa using h1
    have HBf : Hid (B = false) := by show B = false; rw [← HB.out]; simp [goneAt, h1]
    go_enter Tryd.func43, Tryd.ntmps43
    go_wp2_with fail
    go_ret
    exact ⟨by rw [HBf.out]; rfl, by go_grown⟩

theorem getD_at {α : Type} (l : List α) (d : α) (j : Nat) (h : j < l.length) : l.getD j d = l[j] := by
  simp [List.getD_eq_getElem?_getD, h]
theorem any_range {α : Type} (l : List α) (d : α) (q : α → Bool) : (List.range l.length).any (fun j => q (l.getD j d)) = l.any q := by
  rw [Bool.eq_iff_iff, List.any_eq_true, List.any_eq_true]
  constructor
  · rintro ⟨j, hj, h⟩
    have hj := List.mem_range.1 hj
    rw [getD_at _ _ _ hj] at h
    exact ⟨_, List.getElem_mem hj, h⟩
  · rintro ⟨x, hx, h⟩
    obtain ⟨j, hj, rfl⟩ := List.getElem_of_mem hx
    exact ⟨j, List.mem_range.2 hj, by rw [getD_at _ _ _ hj]; exact h⟩

set_option maxHeartbeats 2000000 in
theorem knows_c (v : Value) (l : List En) (key ver : Int) (B : Bool) (hB : knowsG l key ver = B) (w : World) (hr : RowIs w v l) :
    Calls Tryd.prog 33 #[v, .int .i64 key, .int .i64 ver] w fun e w' => e = .returned (.bool B) ∧ Below w.heap.size w w' := by
  have HW : Hid (∀ W, W = (w.alloc (.cells #[.int .i64 key] 3)).alloc (.cells #[.int .i64 ver] 3) → Calls Tryd.prog 42 #[v, .func (.func 43) #[] #[.pointer (some ⟨w.heap.size, 0, none⟩), .pointer (some ⟨w.heap.size + 1, 0, none⟩)]] W fun e w' => e = .returned (.bool B) ∧ Below w.heap.size w w') := by
    rintro W rfl
    have hbw : Below w.heap.size w ((w.alloc (.cells #[.int .i64 key] 3)).alloc (.cells #[.int .i64 ver] 3)) := by go_grown
    refine (containsE_c 43 #[.pointer (some ⟨w.heap.size, 0, none⟩), .pointer (some ⟨w.heap.size + 1, 0, none⟩)] v l (fun j => goneAt key ver (l.getD j zeroEn)) B _ (hr.below hbw) (enters_of Tryd.func43 (by kernel_rfl) rfl) ?_ ?_).mono ?_
    · intro j hj W' hW'
      rw [getD_at _ _ _ hj]
      generalize l[j] = x
      obtain ⟨x0, x1, x2, x3, x4⟩ := x
      refine knows1_c key ver _ _ x0 x1 x2 x3 x4 _ rfl W' ?_ ?_
      · exact (World.cell?_of_block (a := ⟨w.heap.size, 0, none⟩) (hW'.block _ (by simp; omega))).trans (by simp)
      · exact (World.cell?_of_block (a := ⟨w.heap.size + 1, 0, none⟩) (hW'.block _ (by simp))).trans (by simp)
    · rw [any_range]
      exact hB
    · rintro e w1 ⟨rfl, hb⟩
      exact ⟨rfl, hbw.trans (hb.mono hbw.size)⟩
  clear hr
  go_enter Tryd.func33, Tryd.ntmps33
  go_wp2_with fail
  refine Calls.mono (HW.out _ rfl) ?_
  rintro e w1 ⟨rfl, hb⟩
  have B1 : Hid (Below w.heap.size w w1) := hb
  clear hb
  go_wp2_with fail
  go_ret
  exact ⟨rfl, B1.out⟩

set_option maxHeartbeats 2000000 in
theorem lacks_c (v : Value) (l : List En) (eb : Nat) (x0 x1 x2 : Int) (x3 : Bool) (x4 : ByteArray) (B : Bool) (hB : (!knowsG l x0 x1) = B) (w : World) (hr : RowIs w v l) (he : BoxAt w eb x0 x1 x2 x3 x4) :
    Calls Tryd.prog 32 #[v, .pointer (some ⟨eb, 0, none⟩)] w fun e w' => e = .returned (.bool B) ∧ Below w.heap.size w w' := by
  obtain ⟨kb, HK⟩ : ∃ kb, Hid (knowsG l x0 x1 = kb) := ⟨_, rfl⟩
  have HB : Hid (B = !kb) := by show B = !kb; rw [← hB, HK.out]
  have HR : Hid (RowIs w v l) := hr
  clear hB hr
  obtain ⟨c0, c1, c2, c3, c4, cf⟩ := he
  go_enter Tryd.func32, Tryd.ntmps32
  go_wp2_with fail
  refine (knows_c _ l _ _ kb HK.out _ HR.out).mono ?_
  rintro e w1 ⟨rfl, hb⟩
  have B1 : Hid (Below w.heap.size w w1) := hb
  clear hb
  go_wp2_with fail
  go_ret
  exact ⟨by rw [HB.out]; rfl, B1.out⟩
end Go.Proofs.YteamkhnmknjkfacDoor
