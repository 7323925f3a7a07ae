/-
  merelaw1.CacheTells answers true, whatever came in.
-/
import Derived.Test.YtgncclahhejcdabDoorRfL
import Derived.Test.YtgncclahhejcdabDoorErrA
import Derived.Deep.DeepCutAuto
namespace Go.Proofs.YtgncclahhejcdabDoor
set_option linter.unusedVariables false
set_option linter.unusedSimpArgs false
open Go.RowKit

theorem rCache_o {l : List En} {n : Int} (h : badL l = n) (v : Value) (w : World) (hr : RowIs w v l) :
    Calls Tryd.prog 4 #[v] w fun e w' => e = .returned (.int .i64 n) ∧ Below w.heap.size w w' := by
  subst h
  exact rCache_c v l w hr
theorem addT {l : List En} {k vv a : Int} {g : Bool} {t : ByteArray} {R1 : List En} {R2 : Bool} {R3 : Int} (h : cacheAdd l ⟨k, vv, a, g, t⟩ = (R1, R2, R3)) (v : Value) (w : World) (hr : RowIs w v l) :
    Calls Tryd.prog 10 #[v, .agg #[.int .i64 k, .int .i64 vv, .int .i64 a, .bool g, .string t]] w fun e w' => ∃ v', e = .returned (.tuple #[v', .bool R2, eV R3]) ∧ w'.ownsRow w.heap.size 24 5 v' R1.length (rowC R1) ∧ Below w.heap.size w w' := by
  have c := add_c v l k vv a g t w hr
  rw [h] at c
  exact c
theorem getT {l : List En} {key k vv a : Int} {g : Bool} {t : ByteArray} {n : Int} (h : cacheGet l key = (⟨k, vv, a, g, t⟩, n)) (v : Value) (w : World) (hr : RowIs w v l) :
    Calls Tryd.prog 13 #[v, .int .i64 key] w fun e w' => e = .returned (.tuple #[.agg #[.int .i64 k, .int .i64 vv, .int .i64 a, .bool g, .string t], eV n]) ∧ Below w.heap.size w w' := by
  have c := get_c v l key w hr
  rw [h] at c
  exact c
theorem same_o {a b : List En} {bo : Bool} (h : sameL a b = bo) (va vb : Value) (w : World) (hra : RowIs w va a) (hrb : RowIs w vb b) :
    Calls Tryd.prog 9 #[va, vb] w fun e w' => e = .returned (.bool bo) ∧ Below w.heap.size w w' := by
  subst h
  exact same_c va vb a b w hra hrb

theorem sameL_set {l : List En} {m : Nat} {J : En} (hm : m < l.length) : sameL (l.set m J) l = J.same l[m] := by
  induction l generalizing m with
  | nil => simp at hm
  | cons e l ih =>
    cases m with
    | zero => simp [sameL, sameL_iff.2 rfl]
    | succ m =>
      have := ih (m := m) (by simpa using hm)
      simp [sameL, En.same_self, this]
theorem put_err {l : List En} {e : En} {P1 : List En} {P2 : Bool} {P3 : Int} (h : putE l e = (P1, P2, P3)) (hn : P3 ≠ 0) : P1 = [] ∧ P2 = false := by
  unfold putE at h
  cases hk : getE l e.k with
  | none => simp only [hk] at h; simp at h; exact absurd h.2.2.symm hn
  | some y =>
    simp only [hk] at h
    split at h
    · simp at h; exact ⟨h.1, h.2.1⟩
    · simp at h; exact absurd h.2.2.symm hn
theorem put_changed {l : List En} {e : En} {P1 : List En} {P2 : Bool} (hg : GoodL l) (h : putE l e = (P1, P2, 0)) : sameL P1 l = !P2 := by
  unfold putE at h
  cases hk : getE l e.k with
  | none =>
    simp only [hk] at h
    simp at h
    obtain ⟨rfl, rfl⟩ := h
    exact sameL_len (by simp; have := placeE_le l e.k; omega)
  | some y =>
    simp only [hk] at h
    split at h
    · rename_i hn; simp at h; exact absurd h.2.2 hn
    · simp at h
      obtain ⟨hm, hmy, _⟩ := getE_some hg.rise hk
      rw [← h.1, ← h.2, sameL_set hm, hmy]
theorem add_one {l : List En} {X : En} {n : Int} (h : badL l = n) (hn : n ≠ 0) : cacheAdd l X = ([], false, n) := by rw [cacheAdd, if_pos (by rw [h]; exact hn), h]
theorem add_two {l : List En} {X : En} {n : Int} (h0 : badL l = 0) (h : X.bad = n) (hn : n ≠ 0) : cacheAdd l X = ([], false, n) := by rw [cacheAdd, if_neg (by simpa using h0), if_pos (by rw [h]; exact hn), h]
theorem add_put {l : List En} {X : En} (h0 : badL l = 0) (h : X.bad = 0) : cacheAdd l X = putE l X := by rw [cacheAdd, if_neg (by simpa using h0), if_neg (by simpa using h)]
theorem get_one {l : List En} {key : Int} {n : Int} (h : badL l = n) (hn : n ≠ 0) : cacheGet l key = (⟨0, 0, 0, false, ⟨#[]⟩⟩, n) := by rw [cacheGet, if_pos (by rw [h]; exact hn), h]; rfl
theorem get_two {l : List En} {key : Int} (h : badL l = 0) (hk : isK key = false) : cacheGet l key = (⟨0, 0, 0, false, ⟨#[]⟩⟩, 1) := by
  have hk' : isKeyB key = false := hk
  rw [cacheGet, if_neg (by simpa using h), if_pos hk']; rfl
theorem get_three {l : List En} {key : Int} (h : badL l = 0) (hk : isK key = true) (hg : getE l key = none) : cacheGet l key = (⟨0, 0, 0, false, ⟨#[]⟩⟩, 5) := by
  have hk' : isKeyB key = true := hk
  rw [cacheGet, if_neg (by simpa using h), if_neg (by rw [hk']; simp), hg]; rfl
theorem get_four {l : List En} {key : Int} {x : En} (h : badL l = 0) (hk : isK key = true) (hg : getE l key = some x) : cacheGet l key = (x, 0) := by
  have hk' : isKeyB key = true := hk
  rw [cacheGet, if_neg (by simpa using h), if_neg (by rw [hk']; simp), hg]
theorem both_one {a b : List En} {n : Int} (h : badL a = n) (hn : n ≠ 0) : cacheBoth a b = ([], n) := by rw [cacheBoth, if_pos (by rw [h]; exact hn), h]
theorem both_two {a b : List En} {n : Int} (h0 : badL a = 0) (h : badL b = n) (hn : n ≠ 0) : cacheBoth a b = ([], n) := by rw [cacheBoth, if_neg (by simpa using h0), if_pos (by rw [h]; exact hn), h]
theorem both_all {a b : List En} (h0 : badL a = 0) (h : badL b = 0) : cacheBoth a b = allE a b := by rw [cacheBoth, if_neg (by simpa using h0), if_neg (by simpa using h)]
theorem all_err {l b R1 : List En} {R2 : Int} (h : allE l b = (R1, R2)) (hn : R2 ≠ 0) : R1 = [] := by
  induction b generalizing l with
  | nil => rw [allE] at h; simp at h; exact absurd h.2.symm hn
  | cons e b ih =>
    rw [allE] at h
    split at h
    · simp at h; exact h.1
    · exact ih h
theorem add_fine {l : List En} {X : En} {A1 : List En} {A2 : Bool} (h : cacheAdd l X = (A1, A2, 0)) : GoodL l ∧ putE l X = (A1, A2, 0) := by
  unfold cacheAdd at h
  split at h
  · rename_i hn; simp at h; exact absurd h.2.2 hn
  · rename_i hn
    split at h
    · rename_i hn; simp at h; exact absurd h.2.2 hn
    · exact ⟨badL_good (by simpa using hn), h⟩
theorem add_fault {l : List En} {X : En} {A1 : List En} {A2 : Bool} {A3 : Int} (h : cacheAdd l X = (A1, A2, A3)) (hn : A3 ≠ 0) : A1 = [] ∧ A2 = false := by
  unfold cacheAdd at h
  split at h
  · simp at h; exact ⟨h.1, h.2.1⟩
  · split at h
    · simp at h; exact ⟨h.1, h.2.1⟩
    · exact put_err h hn
theorem both_fault {a b : List En} {D1 : List En} {D2 : Int} (h : cacheBoth a b = (D1, D2)) (hn : D2 ≠ 0) : D1 = [] := by
  unfold cacheBoth at h
  split at h
  · simp at h; exact h.1
  · split at h
    · simp at h; exact h.1
    · exact all_err h hn
theorem refKey_o {k : Int} {b : Bool} (h : isK k = b) (w : World) : Calls Tryd.prog 11 #[.int .i64 k] w fun e w' => e = .returned (.bool b) ∧ Below w.heap.size w w' := by
  refine (refKey_b k b w h).mono ?_
  rintro e w' ⟨rfl, rfl⟩
  exact ⟨rfl, Below.refl _ _⟩
end Go.Proofs.YtgncclahhejcdabDoor
