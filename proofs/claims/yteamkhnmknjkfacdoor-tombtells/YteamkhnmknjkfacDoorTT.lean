/-
  What merelaw1.TombTells asks of package tomb, with letters.
-/
import Derived.Test.YteamkhnmknjkfacDoorTbQ
namespace Go.Proofs.YteamkhnmknjkfacDoor
set_option linter.unusedVariables false
set_option linter.unusedSimpArgs false
open Go.RowKit

theorem mark_e {ls : List (List En)} {key M F : Int} (h : tombMark ls key = (M, F)) : F = if badLs ls = 0 then (if isKeyB key = true then 0 else 1) else badLs ls := by
  by_cases hb : badLs ls = 0
  · rw [if_pos hb]
    cases hk : isKeyB key
    · rw [mark_key hb hk] at h
      rw [← (pair_eqT h).2, if_neg (by simp)]
    · rw [mark_fine hb hk] at h
      rw [← (pair_eqT h).2, if_pos rfl]
  · rw [if_neg hb]
    rw [mark_bad rfl hb] at h
    exact (pair_eqT h).2.symm
theorem mark_zero {ls : List (List En)} {key M F : Int} (h : tombMark ls key = (M, F)) (hf : F = 0) : badLs ls = 0 ∧ M = wantE key ls := by
  by_cases hb : badLs ls = 0
  · refine ⟨hb, ?_⟩
    cases hk : isKeyB key
    · rw [mark_key hb hk] at h
      have := (pair_eqT h).2
      omega
    · rw [mark_fine hb hk] at h
      exact (pair_eqT h).1.symm
  · rw [mark_bad rfl hb] at h
    have := (pair_eqT h).2
    omega
theorem mark_non {ls : List (List En)} {key M F : Int} (h : tombMark ls key = (M, F)) (hf : F ≠ 0) : M = 0 := by
  by_cases hb : badLs ls = 0
  · cases hk : isKeyB key
    · rw [mark_key hb hk] at h
      exact (pair_eqT h).1.symm
    · rw [mark_fine hb hk] at h
      have := (pair_eqT h).2
      omega
  · rw [mark_bad rfl hb] at h
    exact (pair_eqT h).1.symm
theorem safe_e (ls : List (List En)) : ∃ XS, tombSafe ls = (XS, badLs ls) := by
  by_cases hb : badLs ls = 0
  · exact ⟨_, by rw [hb]; exact safe_fine hb⟩
  · exact ⟨_, safe_bad rfl hb⟩
theorem sweep_e {m : List En} {mark : Int} {SL : List En} {SK : List Int} {E : Int} (h : tombSweep m mark = (SL, SK, E)) : E = if badL m = 0 then (if markB mark = true then 0 else 1) else badL m := by
  by_cases hb : badL m = 0
  · rw [if_pos hb]
    cases hk : markB mark
    · rw [sweep_mark hb hk] at h
      rw [← (pair_eqT (pair_eqT h).2).2, if_neg (by simp)]
    · rw [sweep_fine hb hk] at h
      rw [← (pair_eqT (pair_eqT h).2).2, if_pos rfl]
  · rw [if_neg hb]
    rw [sweep_bad rfl hb] at h
    exact (pair_eqT (pair_eqT h).2).2.symm
theorem sweep_zero {m : List En} {mark : Int} {SL : List En} {SK : List Int} {E : Int} (h : tombSweep m mark = (SL, SK, E)) (hf : E = 0) : badL m = 0 ∧ SL = keptL mark m ∧ SK = sweptL mark m := by
  by_cases hb : badL m = 0
  · refine ⟨hb, ?_⟩
    cases hk : markB mark
    · rw [sweep_mark hb hk] at h
      have := (pair_eqT (pair_eqT h).2).2
      omega
    · rw [sweep_fine hb hk] at h
      exact ⟨(pair_eqT h).1.symm, (pair_eqT (pair_eqT h).2).1.symm⟩
  · rw [sweep_bad rfl hb] at h
    have := (pair_eqT (pair_eqT h).2).2
    omega
theorem sweep_non {m : List En} {mark : Int} {SL : List En} {SK : List Int} {E : Int} (h : tombSweep m mark = (SL, SK, E)) (hf : E ≠ 0) : SL = [] ∧ SK = [] := by
  by_cases hb : badL m = 0
  · cases hk : markB mark
    · rw [sweep_mark hb hk] at h
      exact ⟨(pair_eqT h).1.symm, (pair_eqT (pair_eqT h).2).1.symm⟩
    · rw [sweep_fine hb hk] at h
      have := (pair_eqT (pair_eqT h).2).2
      omega
  · rw [sweep_bad rfl hb] at h
    exact ⟨(pair_eqT h).1.symm, (pair_eqT (pair_eqT h).2).1.symm⟩
end Go.Proofs.YteamkhnmknjkfacDoor
