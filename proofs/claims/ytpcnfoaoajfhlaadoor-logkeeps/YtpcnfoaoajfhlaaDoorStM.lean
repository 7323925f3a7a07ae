/-
  package store, function by function: isKey, checkPut, changeAt.
-/
import Derived.Test.YtpcnfoaoajfhlaaDoorTold
import Derived.Test.YtpcnfoaoajfhlaaDoorRows
import Derived.WalkKit
import Derived.RowKitTokens
import Derived.Handy
import Derived.Test.YtpcnfoaoajfhlaaDoorStPure
namespace Go.Proofs.YtpcnfoaoajfhlaaDoor
set_option linter.unusedVariables false
set_option linter.unusedSimpArgs false
open Go.RowKit

theorem stKey_c (k : Int) (w : World) : Calls Tryd.prog 80 #[.int .i64 k] w fun e w' => e = .returned (.bool (decide (0 ≤ k) && decide (k < 8))) ∧ w' = w := by
  by_cases h : 0 ≤ k
  · have hd : decide (0 ≤ k) = true := by simpa using h
    go_enter Tryd.func80, Tryd.ntmps80
    go_wp2
    go_ret
    exact ⟨by simp [h], rfl⟩
  · have hd : decide (0 ≤ k) = false := by simpa using h
    go_enter Tryd.func80, Tryd.ntmps80
    go_wp2
    go_ret
    exact ⟨by simp [h], rfl⟩

set_option maxHeartbeats 400000 in
theorem changeAt_c (b k : Nat) (seq : Int) (l : List Chg) (v : Value) (w : World) (base : Nat) (hk8 : k < 8) (hc : w.cell? ⟨b, 1 + k, none⟩ = some v)
    (ho : w.ownsRow base 136 3 v l.length (rowOf l)) (hl : l.length ≤ 1000) :
    Calls Tryd.prog 90 #[.pointer (some ⟨b, 0, none⟩), .int .i64 k, .int .i64 seq] w fun e w' => e = .returned (pick l seq).val ∧ Below w.heap.size w w' := by
  have hbl : b < w.heap.size := World.block_lt_of_cell? w _ hc
  have h1 : (0 : Int) ≤ (k : Int) := by omega
  have h2 : (k : Int) < 8 := by omega
  rcases ho.2 with ⟨rfl, hn⟩ | ⟨g, cap, cur, rfl, hb, hg, hnc, hcm, hcs, htake⟩
  · obtain rfl : l = [] := List.eq_nil_of_length_eq_zero hn
    clear ho hn hl
    go_enter Tryd.func90, Tryd.ntmps90
    go_wp2_with fail
    refine wp_loop_rounds 1 ?_
    rw [rounds_succ]
    go_wp2
    go_returns
    exact ⟨rfl, by go_grown⟩
  · have hcell : ∀ j u, (rowOf l)[j]? = some u → w.cell? ⟨g, j, none⟩ = some u := fun j u hu => by
      have := ho.cells (g := g) rfl j u hu
      simpa [Addr.add_lit] using this
    have hgl : g < w.heap.size := (Array.getElem?_eq_some_iff.1 hg).1
    have HC : Hid (∀ j u, (rowOf l)[j]? = some u → w.cell? ⟨g, j, none⟩ = some u) := hcell
    clear hcell ho hg htake hcs hcm
    go_enter Tryd.func90, Tryd.ntmps90
    go_wp2_with fail
    go_loop [8] (fun i => ∃ m : Int, -1 ≤ m ∧ m < l.length ∧ i = .int .i64 m ∧ Hid (pick l seq = pick (l.take (m + 1).toNat) seq)) (fun i => (intOf i + 1).toNat)
    case atStart => exact ⟨_, by omega, by omega, rfl, by unfold Hid; rw [List.take_of_length_le (by omega)]⟩
    case round =>
      obtain ⟨m, hm1, hm2, rfl, HP⟩ := hrel
      by_cases h0 : 0 ≤ m
      · obtain ⟨j, rfl⟩ := Int.eq_ofNat_of_zero_le h0
        have hj : j < l.length := by omega
        have hts : Hid (l.take ((j : Int) + 1).toNat = l.take j ++ [l[j]]) := by
          unfold Hid
          rw [show ((j : Int) + 1).toNat = j + 1 by omega, List.take_succ_eq_append_getElem hj]
        have hgg := rowOf_get l j hj
        have hc0 := HC.out _ _ hgg.1
        have hc1 := HC.out _ _ hgg.2.1
        have hc2 := HC.out _ _ hgg.2.2
        clear hgg
        by_cases hle : l[j].ver ≤ seq
        · have hfin : Hid (pick l seq = l[j]) := by unfold Hid; rw [HP.out, hts.out]; exact pick_snoc_le _ _ _ hle
          clear HP hts
          go_wp2
          go_returns
          exact ⟨by rw [hfin.out]; rfl, by go_grown⟩
        · have hfin : Hid (pick l seq = pick (l.take j) seq) := by unfold Hid; rw [HP.out, hts.out]; exact pick_snoc_gt _ _ _ hle
          clear HP hts
          go_wp2
          go_round
          case rel => exact ⟨_, by omega, by omega, rfl, by unfold Hid; rw [hfin.out]; congr; omega⟩
          case measure => simp [intOf]
      · have hfin : Hid (pick l seq = none0) := by
          unfold Hid; rw [HP.out, show (m + 1).toNat = 0 by omega]; rfl
        go_wp2
        go_returns
        exact ⟨by rw [hfin.out]; rfl, by go_grown⟩
end Go.Proofs.YtpcnfoaoajfhlaaDoor
