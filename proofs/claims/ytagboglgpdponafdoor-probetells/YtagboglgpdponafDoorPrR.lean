/-
  Package probe's Row by its contract; mereref1.In on a beginning of a row.
-/
import Derived.Test.YtagboglgpdponafDoorPrD
import Derived.Deep.OwnRows
namespace Go.Proofs.YtagboglgpdponafDoor
set_option linter.unusedVariables false
set_option linter.unusedSimpArgs false
open Go.RowKit

/-- so many numbers at a block -/
structure ManyAt (w : World) (b m : Nat) (o : Nat → Int) : Prop where
  lt : b < w.heap.size
  cell : ∀ k, k < m → w.cell? ⟨b, k, none⟩ = some (.int .i64 (o k))
  fz : ∀ j, w.frozen? ⟨b, j, none⟩ = false
theorem ManyAt.of_block {w w' : World} {b m : Nat} {o : Nat → Int} (h : ManyAt w b m o) (hs : w.heap.size ≤ w'.heap.size) (hb : w'.heap[b]? = w.heap[b]?) : ManyAt w' b m o :=
  ⟨Nat.lt_of_lt_of_le h.lt hs, fun k hk => (World.cell?_of_block (a := ⟨b, k, none⟩) hb).trans (h.cell k hk), fun j => (World.frozen?_of_block (a := ⟨b, j, none⟩) hb).trans (h.fz j)⟩
theorem ManyAt.below {w w' : World} {b m : Nat} {o : Nat → Int} (h : ManyAt w b m o) (hb : Below w.heap.size w w') : ManyAt w' b m o := h.of_block hb.size (hb.block b h.lt)
theorem ManyAt.set {w : World} {b m : Nat} {o : Nat → Int} (h : ManyAt w b m o) (k : Nat) (hk : k < m) (z : Int) : ManyAt (w.setCell ⟨b, k, none⟩ (.int .i64 z)) b m (fun j => if j = k then z else o j) := by
  refine ⟨by rw [World.size_setCell]; exact h.lt, fun j hj => ?_, fun j => by rw [World.frozen?_setCell]; exact h.fz j⟩
  by_cases e : j = k
  · subst e
    rw [if_pos rfl]
    exact World.cell?_setCell_same _ _ _ (h.cell j hj)
  · rw [if_neg e, World.cell?_setCell_other _ _ _ _ (by simp [e])]
    exact h.cell j hj
theorem ManyAt.to {w : World} {b m : Nat} {o o' : Nat → Int} (h : ManyAt w b m o) (e : ∀ k, k < m → o k = o' k) : ManyAt w b m o' := ⟨h.lt, fun k hk => by rw [← e k hk]; exact h.cell k hk, h.fz⟩
theorem many_new (w : World) (t : TypeId) (m : Nat) : ManyAt (w.alloc (.cells (madeCells #[.int .i64 0] m) t)) w.heap.size m (fun _ => 0) := by
  refine ⟨by simp, fun k hk => ?_, fun j => by simp⟩
  rw [World.cell?_alloc_at _ _ _ _ rfl]
  simp [madeCells, hk, Nat.mod_one]
/-- a row of turns, as numbers -/
def rowZ (me n t many : Nat) : List Int := (List.range many).map (fun i => ((tgN me n (t + i) : Nat) : Int))
theorem rowZ_len (me n t many : Nat) : (rowZ me n t many).length = many := by simp [rowZ]
theorem rowZ_at {me n t many i : Nat} (hi : i < (rowZ me n t many).length) : (rowZ me n t many)[i] = ((tgN me n (t + i) : Nat) : Int) := by simp [rowZ]
theorem rowZ_succ (me n t many : Nat) : rowZ me n t (many + 1) = rowZ me n t many ++ [((tgN me n (t + many) : Nat) : Int)] := by simp [rowZ, List.range_succ]
theorem rowZ_take {me n t many i : Nat} (hi : i ≤ many) : (rowZ me n t many).take i = rowZ me n t i := by
  apply List.ext_getElem
  · simp [rowZ]
    omega
  · intro j h1 h2
    rw [List.getElem_take, rowZ_at, rowZ_at]
theorem ManyAt.ints {w : World} {b m c me n t : Nat} (h : ManyAt w b m (fun j => ((tgN me n (t + j) : Nat) : Int))) (hm : m ≤ maxLen) : IntsIs w (.slice (some ⟨b, 0, none⟩) m c) (rowZ me n t m) := by
  have hl := rowZ_len me n t m
  refine ⟨by rw [hl]; exact hm, some ⟨b, 0, none⟩, c, by rw [hl], fun _ => ⟨b, 0, rfl, h.lt, fun j hj => ?_⟩⟩
  rw [rowZ_at, Nat.zero_add]
  exact h.cell j (by omega)
theorem row_bad (me n t k : Int) (w : World) (hb : (isOfB me n && inR t 0 60 && inR k 0 60) = false) :
    Calls Tryd.prog 14 #[.int .i64 me, .int .i64 n, .int .i64 t, .int .i64 k] w fun e w' => e = .returned (.tuple #[.slice none 0 0, .iface 48 (.int .i64 1)]) ∧ w' = w := by
  cases h : isOfB me n
  · have H : Hid (isOfB me n = false) := h
    clear h hb
    go_enter Tryd.func14, Tryd.ntmps14
    go_wp2_with fail
    refine (isOf_b _ _ false _ H.out).mono ?_
    rintro e w' ⟨rfl, rfl⟩
    go_wp2_with fail
    go_ret2
    exact ⟨rfl, rfl⟩
  · have H : Hid (isOfB me n = true) := h
    rw [h, Bool.true_and] at hb
    clear h
    cases h : inR t 0 60
    · have H2 : Hid (inR t 0 60 = false) := h
      clear h hb
      go_enter Tryd.func14, Tryd.ntmps14
      go_wp2_with fail
      refine (isOf_b _ _ true _ H.out).mono ?_
      rintro e w' ⟨rfl, rfl⟩
      go_wp2_with fail
      refine (withinP_b _ _ _ false _ H2.out).mono ?_
      rintro e w' ⟨rfl, rfl⟩
      go_wp2_with fail
      go_ret2
      exact ⟨rfl, rfl⟩
    · have H2 : Hid (inR t 0 60 = true) := h
      rw [h, Bool.true_and] at hb
      have H3 : Hid (inR k 0 60 = false) := hb
      clear h hb
      go_enter Tryd.func14, Tryd.ntmps14
      go_wp2_with fail
      refine (isOf_b _ _ true _ H.out).mono ?_
      rintro e w' ⟨rfl, rfl⟩
      go_wp2_with fail
      refine (withinP_b _ _ _ true _ H2.out).mono ?_
      rintro e w' ⟨rfl, rfl⟩
      go_wp2_with fail
      refine (withinP_b _ _ _ false _ H3.out).mono ?_
      rintro e w' ⟨rfl, rfl⟩
      go_wp2_with fail
      go_ret2
      exact ⟨rfl, rfl⟩
set_option maxHeartbeats 2000000 in
theorem row_ok (me n t k : Nat) (w : World) (hm : me < n) (hn : 2 ≤ n) (hn6 : n ≤ 6) (ht : t ≤ 60) (hk : k ≤ 60) :
    Calls Tryd.prog 14 #[.int .i64 (me : Nat), .int .i64 (n : Nat), .int .i64 (t : Nat), .int .i64 (k : Nat)] w fun e w' => e = .returned (.tuple #[.slice (some ⟨w.heap.size, 0, none⟩) k k, .nilIface]) ∧ ManyAt w' w.heap.size k (fun j => ((tgN me n (t + j) : Nat) : Int)) ∧ Below w.heap.size w w' := by
  have H : Hid (isOfB (me : Int) (n : Int) = true) := nat_isOf hm hn hn6
  have H2 : Hid (inR (t : Int) 0 60 = true) := by
    show inR (t : Int) 0 60 = true
    simp [inR]
    omega
  have H3 : Hid (inR (k : Int) 0 60 = true) := by
    show inR (k : Int) 0 60 = true
    simp [inR]
    omega
  have HM : Hid (ManyAt (w.alloc (.cells (madeCells #[.int .i64 0] k) 3)) w.heap.size k (fun _ => 0)) := many_new w _ k
  have HB0 : Hid (Below w.heap.size w (w.alloc (.cells (madeCells #[.int .i64 0] k) 3))) := (Below.refl _ w).alloc (Nat.le_refl _) _
  obtain ⟨f, HF⟩ : ∃ f : Nat → Nat, Hid (∀ j, tgN me n (t + j) = f j) := ⟨fun j => tgN me n (t + j), fun _ => rfl⟩
  have HFin : Hid (∀ w', ManyAt w' w.heap.size k (fun j => (f j : Int)) → ManyAt w' w.heap.size k (fun j => ((tgN me n (t + j) : Nat) : Int))) := fun w' h => h.to (fun j _ => by rw [HF.out j])
  have hmk := run_make_row' (P := Tryd.prog) 39 3 (.int .i64 0) 8 Tryd.underlying39 infoInt rfl .i64 .i64 k (by omega) (by omega)
  go_enter Tryd.func14, Tryd.ntmps14
  go_wp2_with fail
  refine (isOf_b _ _ true _ H.out).mono ?_
  rintro e w' ⟨rfl, rfl⟩
  go_wp2_with fail
  refine (withinP_b _ _ _ true _ H2.out).mono ?_
  rintro e w' ⟨rfl, rfl⟩
  go_wp2_with fail
  refine (withinP_b _ _ _ true _ H3.out).mono ?_
  rintro e w' ⟨rfl, rfl⟩
  go_wp2_with fail
  obtain ⟨g, HG⟩ : ∃ g, Hid (w'.heap.size = g) := ⟨_, rfl⟩
  go_loopw [30] (fun i wr => ∃ j : Nat, j ≤ k ∧ i = .int .i64 j ∧ Hid (ManyAt wr w'.heap.size k (fun q => if q < j then (f q : Int) else 0)) ∧ Hid (Below w'.heap.size w' wr)) (fun i _ => k - (intOf i).toNat)
  case atStart => exact ⟨0, Nat.zero_le _, rfl, HM.out.to (fun q _ => by simp), HB0⟩
  case round =>
    obtain ⟨j, hj, rfl, HMj, HB⟩ := hrel
    by_cases hlt : j < k
    · have HA : Hid (∀ w, Calls Tryd.prog 28 #[.int .i64 (me : Nat), .int .i64 (n : Nat), .int .i64 ((t : Int) + (j : Int))] w fun e w' => e = .returned (.int .i64 (f j : Nat)) ∧ w' = w) := fun w => by
        have := asked_c me n (t + j) w hm hn hn6 (by omega)
        rw [HF.out j] at this
        exact this
      obtain ⟨x, HX⟩ : ∃ x, Hid (f j = x) := ⟨_, rfl⟩
      rw [HX.out] at HA
      have hlti : (j : Int) < (k : Int) := by omega
      have c0 := HMj.out.cell j hlt
      have cf := HMj.out.fz j
      rw [if_neg (Nat.lt_irrefl j)] at c0
      have HS : Hid (ManyAt (wr.setCell ⟨w'.heap.size, j, none⟩ (.int .i64 (x : Int))) w'.heap.size k (fun q => if q < j + 1 then (f q : Int) else 0)) := (HMj.out.set j hlt (x : Int)).to (fun q _ => by
        by_cases e : q = j
        · subst e
          rw [if_pos rfl, if_pos (by omega), HX.out]
        · rw [if_neg e]
          by_cases h : q < j
          · rw [if_pos h, if_pos (by omega)]
          · rw [if_neg h, if_neg (by omega)])
      have HBS : Hid (Below w'.heap.size w' (wr.setCell ⟨w'.heap.size, j, none⟩ (.int .i64 (x : Int)))) := HB.out.setCell (Nat.le_refl _) _
      go_wp2_with fail
      refine (HA.out _).mono ?_
      rintro e w2 ⟨rfl, rfl⟩
      go_wp2_with fail
      go_roundw
      case rel => exact ⟨j + 1, by omega, by go_num, HS, HBS⟩
      case measure => simp [intOf]; omega
    · obtain rfl : j = k := by omega
      go_wp2_with fail
      go_ret2
      exact ⟨rfl, HFin.out _ (HMj.out.to (fun q hq => by rw [if_pos hq])), HB.out⟩
end Go.Proofs.YtagboglgpdponafDoor
