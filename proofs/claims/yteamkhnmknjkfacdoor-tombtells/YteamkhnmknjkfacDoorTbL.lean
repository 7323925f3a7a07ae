/-
  Package tomb's contracts with letters; what is safe of one cache.
-/
import Derived.Test.YteamkhnmknjkfacDoorTbE
import Derived.Test.YteamkhnmknjkfacDoorTbS
import Derived.Test.YteamkhnmknjkfacDoorTbJ
namespace Go.Proofs.YteamkhnmknjkfacDoor
set_option linter.unusedVariables false
set_option linter.unusedSimpArgs false
open Go.RowKit

theorem tsafe_p {ls : List (List En)} {xs : List Int} {n : Int} (h : tombSafe ls = (xs, n)) (v : Value) (w : World) (hr : RowsIs w v ls) :
    Calls Tryd.prog 17 #[v] w (IntsRet w xs n) := by
  have c := tsafe_c v ls w hr
  rw [h] at c
  exact c
theorem tsafe_ok {ls : List (List En)} {xs : List Int} (h : tombSafe ls = (xs, 0)) (v : Value) (w : World) (hr : RowsIs w v ls) :
    Calls Tryd.prog 17 #[v] w fun e w' => ∃ v', e = .returned (.tuple #[v', .nilIface]) ∧ IntsIs w' v' xs ∧ Below w.heap.size w w' := tsafe_p h v w hr
theorem tsafe_err {ls : List (List En)} {xs : List Int} {n : Int} (h : tombSafe ls = (xs, n)) (hn : n ≠ 0) (v : Value) (w : World) (hr : RowsIs w v ls) :
    Calls Tryd.prog 17 #[v] w fun e w' => ∃ v', e = .returned (.tuple #[v', .iface 64 (.int .i64 n)]) ∧ IntsIs w' v' xs ∧ Below w.heap.size w w' := by
  have c := tsafe_p h v w hr
  unfold IntsRet at c
  rw [eV, if_neg hn] at c
  exact c
theorem tsweep_p {l L : List En} {mark : Int} {K : List Int} {n : Int} (h : tombSweep l mark = (L, K, n)) (v : Value) (w : World) (hr : RowIs w v l) :
    Calls Tryd.prog 20 #[v, .int .i64 mark] w (SweepRet w L K n) := by
  have c := tsweep_c v l mark w hr
  rw [h] at c
  exact c
theorem tsweep_ok {l L : List En} {mark : Int} {K : List Int} (h : tombSweep l mark = (L, K, 0)) (v : Value) (w : World) (hr : RowIs w v l) :
    Calls Tryd.prog 20 #[v, .int .i64 mark] w fun e w' => ∃ v1 v2, e = .returned (.tuple #[v1, v2, .nilIface]) ∧ RowIs w' v1 L ∧ IntsIs w' v2 K ∧ Below w.heap.size w w' := tsweep_p h v w hr
theorem ints_t (a : List Int) (va vb : Value) (w : World) (hra : IntsIs w va a) (hrb : IntsIs w vb a) :
    Calls Tryd.prog 18 #[va, vb] w fun e w' => e = .returned (.bool true) ∧ Below w.heap.size w w' := by
  have c := ints_c va vb a a w hra hrb
  rw [beq_self_eq_true] at c
  exact c
/-- one cache in a row of its own -/
theorem rows_one {w : World} {b : Nat} {v : Value} {l : List En} (h : w.cell? ⟨b, 0, none⟩ = some v) (hr : RowIs w v l) : RowsIs w (.slice (some ⟨b, 0, none⟩) 1 1) [l] := by
  refine ⟨by simp [maxLen], _, 1, rfl, fun _ => ⟨b, 0, rfl, World.block_lt_of_cell? w _ h, fun j hj => ?_⟩⟩
  obtain rfl : j = 0 := by simp at hj; omega
  exact ⟨v, h, hr⟩

theorem bad_allT {e : En} (h : e.bad = 0) : (0 ≤ e.k ∧ e.k ≤ 7) ∧ 0 ≤ e.v ∧ e.v ≤ e.a ∧ e.a ≤ 1000 := by
  unfold En.bad bad at h
  split at h
  · omega
  · rename_i h1
    simp [inR] at h1
    omega
theorem rising_one {l : List En} (hr : Rising l) {x y : En} (hx : x ∈ l) (hy : y ∈ l) (hk : x.k = y.k) : x = y := by
  obtain ⟨i, hi, rfl⟩ := List.getElem_of_mem hx
  obtain ⟨j, hj, rfl⟩ := List.getElem_of_mem hy
  rcases Nat.lt_trichotomy i j with h | h | h
  · have := List.pairwise_iff_getElem.1 hr _ _ hi hj h; omega
  · simp only [h]
  · have := List.pairwise_iff_getElem.1 hr _ _ hj hi h; omega
theorem knows_iff {l : List En} {key ver : Int} : knowsG l key ver = true ↔ ∃ y ∈ l, y.k = key ∧ y.g = true ∧ y.v = ver := by
  rw [knowsG, List.any_eq_true]
  simp [goneAt, and_assoc]
theorem knows_self {l : List En} (hr : Rising l) {x : En} (hx : x ∈ l) : knowsG l x.k x.v = x.g := by
  rw [Bool.eq_iff_iff, knows_iff]
  constructor
  · rintro ⟨y, hy, hk, hg, _⟩
    rw [rising_one hr hx hy hk.symm]
    exact hg
  · intro hg
    exact ⟨x, hx, rfl, hg, rfl⟩
theorem badLs_one (l : List En) : badLs [l] = badL l := by
  by_cases h : badL l = 0 <;> simp [badLs, badEach, h]
theorem alone_fine {l : List En} (h : badL l = 0) : tombSafe [l] = (sweptL 1000 l, 0) := by
  have hg := badL_good h
  rw [tombSafe, if_neg (by rw [badLs_one]; simpa using h)]
  show (safeFrom [l] l, (0 : Int)) = _
  have e : safeFrom [l] l = sweptL 1000 l := by
    rw [safeFrom, sweptL]
    congr 1
    refine List.filter_congr (fun x hx => ?_)
    have h1 : allG [l] x.k x.v = knowsG l x.k x.v := by simp [allG]
    have h2 := bad_allT (hg.all x hx)
    have h3 : x.v ≤ 1000 := by omega
    rw [h1, knows_self hg.rise hx, sweptB]
    simp [h3]
  rw [e]
theorem alone_fault {l : List En} {n : Int} (h : badL l = n) (hn : n ≠ 0) : tombSafe [l] = ([], n) := by
  rw [tombSafe, if_pos (by rw [badLs_one, h]; exact hn), badLs_one, h]
theorem alone_sweep {l : List En} (h : badL l = 0) : tombSweep l 1000 = (keptL 1000 l, sweptL 1000 l, 0) := by
  rw [tombSweep, if_neg (by simpa using h), if_neg (by simp [markB])]
theorem kept_sum (m : Int) (l : List En) : (keptL m l).length + (sweptL m l).length = l.length := by
  induction l with
  | nil => rfl
  | cons x l ih =>
    simp only [keptL, sweptL, List.length_map] at ih ⊢
    cases h : sweptB m x <;> simp [h] <;> omega
theorem kept_gone {l : List En} (h : badL l = 0) : ∀ e ∈ keptL 1000 l, e.g = false := by
  intro e he
  rw [keptL, List.mem_filter] at he
  have h2 := bad_allT ((badL_good h).all e he.1)
  have h3 : e.v ≤ 1000 := by omega
  simpa [sweptB, h3] using he.2
end Go.Proofs.YteamkhnmknjkfacDoor
