/-
  slices.Clone at a cache, by its contract.
-/
import Derived.Test.YtpcnfoaoajfhlaaGreatDoorQoac
import Derived.Lib.Walk
import Derived.Lib.SliceRun
import Derived.Maps.AppendAt
namespace Go.Proofs.YtpcnfoaoajfhlaaGreatDoor
set_option linter.unusedVariables false
set_option linter.unusedSimpArgs false
set_option linter.unusedVariables false
set_option linter.unusedSimpArgs false
open Go.RowKit Go.Lib

set_option maxHeartbeats 2000000 in
set_option maxRecDepth 100000 in
theorem clone_c (v : Value) (l : List En) (w : World) (hr : RowIs w v l) (h8 : l.length ≤ 8) :
    Calls Tryz.prog 56 #[v] w fun e w' => ∃ v', e = .returned v' ∧ w'.ownsRow w.heap.size 46 5 v' l.length (rowC l) ∧ Below w.heap.size w w' := by
  obtain ⟨i0, hi0, hz0, hz1, hz2⟩ := info_parts infoEn
  obtain ⟨hlen, p, cap, rfl, hrow⟩ := hr
  have q22 : ∀ (w : World) (a : Option Addr) (n c n' c' : Nat), (binOp .eql 32 (.slice a n c) (.slice none n' c')).run Tryz.prog w = .ok (.bool a.isNone) w := fun w a n c n' c' => Lib.run_eql_slice_nil w _ _ a n c n' c' Tryz.underlying32
  cases p with
  | none =>
    have hl : l = [] := by
      cases l with
      | nil => rfl
      | cons e l => obtain ⟨b, o, h, _⟩ := hrow (by simp); cases h
    subst hl
    go_enter Tryz.func56, Tryz.ntmps56
    go_wp2_with fail
    go_ret
    exact ⟨_, rfl, World.ownsRow_nil _ _ _ _, by go_grown⟩
  | some ad =>
    have HC : Hid (∀ j u, (rowC l)[j]? = some u → w.cell? (ad.add j) = some u) := by
      intro j u hu
      cases l with
      | nil => simp [rowC] at hu
      | cons e l =>
        obtain ⟨b, o, h, _, hat⟩ := hrow (by simp)
        obtain rfl := Option.some.inj h
        rw [Addr.add_lit]
        exact RowIs.cells (cap := 0) hat j u hu
    clear hrow
    go_enter Tryz.func56, Tryz.ntmps56
    go_wp2_with (at_builtin; refine wpList_append_own _ rfl _ _ 32 rfl w.heap.size 46 i0 _ 5 48 Tryz.underlying32 hi0 hz0 hz1 hz2 rfl (by omega) _ _ _ rfl (World.ownsRow_made w #[] 0 (Nat.le_refl _) (Nat.zero_le _) (by simp)) ad l.length cap (rowC l) rfl ?qc1 ?qc2 ?qc3 ?qc4 ?qc5 ?qc6 ?_)
    case qc1 => exact rowC_length l
    case qc2 =>
      intro j u hj
      exact Lib.cell?_alloc_some _ (HC.out j u hj)
    case qc3 => exact rowC_one l
    case qc4 => rw [Nat.zero_add]; exact hlen
    case qc5 => rw [Nat.zero_add]; omega
    case qc6 => simp
    intro v' w1 hown hgrow hnil
    go_wp2_with fail
    go_ret
    refine ⟨v', rfl, by simpa using hown, ?_⟩
    exact ((Below.refl _ w).alloc (Nat.le_refl _) _).grown hgrow (by simp) (by intro k hk; simp [Value.ownBlock] at hk; omega)
end Go.Proofs.YtpcnfoaoajfhlaaGreatDoor
