/-
  What all know to be gone is not found again: on lists.
-/
import Derived.Test.YteamkhnmknjkfacDoorTbQ
import Derived.Test.YteamkhnmknjkfacDoorCaJ
import Derived.Test.YteamkhnmknjkfacDoorCaB
namespace Go.Proofs.YteamkhnmknjkfacDoor
set_option linter.unusedVariables false
set_option linter.unusedSimpArgs false
open Go.RowKit

theorem join_seven {x y : En} (hx : x.bad = 0) (hy : y.bad = 0) (hk : x.k = y.k) (h : (joinE x y).2 ≠ 0) : (joinE x y).2 = 7 := by
  unfold joinE at h ⊢
  have h0 : bad2 (Go.Proofs.YteamkhnmknjkfacDoor.bad x.k x.v x.a x.g x.t) (Go.Proofs.YteamkhnmknjkfacDoor.bad y.k y.v y.a y.g y.t) = 0 := bad2_zero.2 ⟨hx, hy⟩
  rw [if_neg (by simpa using h0), if_neg (by simpa using hk)] at h ⊢
  by_cases h1 : newerB x.v x.a y.v y.a = true
  · rw [if_pos h1] at h ⊢
    by_cases h2 : clashB y.v y.a y.g y.t x.v x.g x.t = true
    · rw [if_pos h2]
    · rw [if_neg h2] at h
      exact absurd rfl h
  · rw [if_neg h1] at h ⊢
    by_cases h2 : clashB x.v x.a x.g x.t y.v y.g y.t = true
    · rw [if_pos h2]
    · rw [if_neg h2] at h
      exact absurd rfl h
theorem put_seven {l : List En} {e : En} (hg : GoodL l) (he : e.bad = 0) (h : (putE l e).2.2 ≠ 0) : (putE l e).2.2 = 7 := by
  unfold putE at h ⊢
  cases hx : getE l e.k with
  | none => rw [hx] at h; exact absurd rfl h
  | some x =>
    rw [hx] at h
    obtain ⟨hm, hk⟩ := getE_memT hx
    by_cases h1 : (joinE x e).2 ≠ 0
    · simp only [if_pos h1]
      exact join_seven (hg.all x hm) he hk h1
    · simp only [if_neg h1] at h
      exact absurd rfl h
theorem all_seven {l b : List En} (hg : GoodL l) (hb : ∀ e ∈ b, e.bad = 0) (h : (allE l b).2 ≠ 0) : (allE l b).2 = 7 := by
  induction b generalizing l with
  | nil => exact absurd rfl h
  | cons e b ih =>
    rw [allE] at h ⊢
    by_cases h1 : (putE l e).2.2 ≠ 0
    · rw [if_pos h1]
      exact put_seven hg (hb e (by simp)) h1
    · rw [if_neg h1] at h ⊢
      exact ih (putE_good hg (hb e (by simp)) (by simpa using h1)) (fun x hx => hb x (by simp [hx])) h
theorem both_seven {a b R : List En} {n : Int} (ha : GoodL a) (hb : GoodL b) (h : cacheBoth a b = (R, n)) (hn : n ≠ 0) : n = 7 := by
  rw [cacheBoth, if_neg (by simpa using ha.bad), if_neg (by simpa using hb.bad)] at h
  have h2 : (allE a b).2 = n := by rw [h]
  rw [← h2]
  exact all_seven ha hb.all (by rw [h2]; exact hn)
theorem kept_good {l : List En} {mark : Int} (hg : GoodL l) : GoodL (keptL mark l) :=
  ⟨Nat.le_trans (keptL_len _ _) hg.len, fun e he => hg.all e (List.mem_filter.1 he).1, List.Pairwise.filter _ hg.rise⟩
theorem mark_least {ls : List (List En)} {key v : Int} (h : ∀ l ∈ ls, ∃ y, getE l key = some y ∧ v ≤ y.a) (m : Int) (hm : v ≤ m) : v ≤ markFrom key m ls := by
  induction ls generalizing m with
  | nil => exact hm
  | cons l ls ih =>
    obtain ⟨y, hy, hv⟩ := h l (by simp)
    rw [markFrom, hy]
    refine ih (fun x hx => h x (by simp [hx])) _ ?_
    split <;> omega
theorem mark_span {ls : List (List En)} {key : Int} (h : ∀ l ∈ ls, badL l = 0) (m : Int) (h0 : 0 ≤ m) (h1 : m ≤ 1000) : 0 ≤ markFrom key m ls ∧ markFrom key m ls ≤ 1000 := by
  induction ls generalizing m with
  | nil => exact ⟨h0, h1⟩
  | cons l ls ih =>
    rw [markFrom]
    cases hg : getE l key with
    | none => exact ⟨by simp, by simp⟩
    | some x =>
      have hx := bad_allT ((badL_good (h l (by simp))).all x (getE_memT hg).1)
      refine ih (fun x hx => h x (by simp [hx])) _ ?_ ?_
      · split <;> omega
      · split <;> omega
theorem mark_right {ls : List (List En)} {key M : Int} (h : tombMark ls key = (M, 0)) : badLs ls = 0 ∧ isKeyB key = true ∧ M = markFrom key 1000 ls := by
  unfold tombMark at h
  by_cases hb : badLs ls = 0
  · rw [if_neg (by simpa using hb)] at h
    cases hk : isKeyB key
    · rw [if_pos hk] at h
      have := (pair_eqT h).2
      omega
    · rw [if_neg (by rw [hk]; simp)] at h
      exact ⟨hb, rfl, (pair_eqT h).1.symm⟩
  · rw [if_pos hb] at h
    exact absurd (pair_eqT h).2 hb
theorem mark_in {ls : List (List En)} {key M : Int} (h : tombMark ls key = (M, 0)) : markB M = true ∧ 0 ≤ M := by
  obtain ⟨hb, _, rfl⟩ := mark_right h
  have := mark_span (key := key) (badLs_good hb).all 1000 (by omega) (by omega)
  exact ⟨by simp [markB]; omega, this.1⟩
theorem swept_none {ls : List (List En)} {key M : Int} {XS : List Int} (hm : tombMark ls key = (M, 0)) (hs : tombSafe ls = (XS, 0)) (hi : XS.contains key = true) : ∀ l ∈ ls, getE (keptL M l) key = none := by
  obtain ⟨hb, _, hM⟩ := mark_right hm
  have hg := badLs_good hb
  rw [tombSafe, if_neg (by simpa using hb)] at hs
  have hX := (pair_eqT hs).1
  rw [← hX] at hi
  have hi' : key ∈ safeFrom ls (ls.headD []) := by simpa using hi
  rw [safeFrom, List.mem_map] at hi'
  obtain ⟨x, hx, rfl⟩ := hi'
  rw [List.mem_filter] at hx
  have ha : ∀ l ∈ ls, knowsG l x.k x.v = true := by
    have := hx.2
    rw [allG, List.all_eq_true] at this
    exact this
  have hk : ∀ l ∈ ls, ∃ y, getE l x.k = some y ∧ y.g = true ∧ y.v = x.v ∧ y ∈ l := by
    intro l hl
    obtain ⟨y, hy, h1, h2, h3⟩ := knows_iff.1 (ha l hl)
    exact ⟨y, by rw [← h1]; exact getE_ofT (badL_good (hg.all l hl)).rise hy, h2, h3, hy⟩
  have hle : x.v ≤ M := by
    rw [hM]
    have hv : x.v ≤ 1000 := by
      have hh : ∃ l ∈ ls, x ∈ l := by
        have hpos := hg.pos
        cases ls with
        | nil => simp at hpos
        | cons a b => exact ⟨a, by simp, hx.1⟩
      obtain ⟨l, hl, hxl⟩ := hh
      have := bad_allT ((badL_good (hg.all l hl)).all x hxl)
      omega
    refine mark_least (fun l hl => ?_) 1000 hv
    obtain ⟨y, hy, _, hyv, hyl⟩ := hk l hl
    have := bad_allT ((badL_good (hg.all l hl)).all y hyl)
    exact ⟨y, hy, by omega⟩
  intro l hl
  obtain ⟨y, hy, hyg, hyv, hyl⟩ := hk l hl
  have hyk : y.k = x.k := (getE_memT hy).2
  cases hq : getE (keptL M l) x.k with
  | none => rfl
  | some z =>
    exfalso
    obtain ⟨hz, hzk⟩ := getE_memT hq
    rw [keptL, List.mem_filter] at hz
    have e : z = y := rising_one (badL_good (hg.all l hl)).rise hz.1 hyl (by rw [hzk, hyk])
    have h2 := hz.2
    rw [e] at h2
    simp [sweptB, hyg] at h2
    omega
theorem merged_none {a b x : List En} {k : Int} (h : cacheBoth a b = (x, 0)) (ha : getE a k = none) (hb : getE b k = none) : GoodL x ∧ getE x k = none := by
  obtain ⟨_, _, gx, hm⟩ := both_good h
  refine ⟨gx, ?_⟩
  have := hm k
  rw [ha, hb] at this
  exact this
theorem get_five {l : List En} {key : Int} (hg : GoodL l) (hk : isKeyB key = true) (h : getE l key = none) : cacheGet l key = (⟨0, 0, 0, false, ⟨#[]⟩⟩, 5) := by
  rw [cacheGet, if_neg (by simpa using hg.bad), if_neg (by rw [hk]; simp), h]
  rfl
theorem getS {l : List En} {key k vv a : Int} {g : Bool} {t : ByteArray} {n : Int} (h : cacheGet l key = (⟨k, vv, a, g, t⟩, n)) (v : Value) (w : World) (hr : RowIs w v l) :
    Calls Tryd.prog 23 #[v, .int .i64 key] w fun e w' => e = .returned (.tuple #[.agg #[.int .i64 k, .int .i64 vv, .int .i64 a, .bool g, .string t], eV n]) ∧ Below w.heap.size w w' := by
  have c := get_c v l key w hr
  rw [h] at c
  exact c
theorem in_s {a : List Int} {x : Int} {b : Bool} (h : a.contains x = b) (va : Value) (w : World) (hra : IntsIs w va a) :
    Calls Tryd.prog 22 #[va, .int .i64 x] w fun e w' => e = .returned (.bool b) ∧ Below w.heap.size w w' := by
  subst h
  exact in_c va a x w hra
/-- the fact that the law begins with -/
def goneE : En := ⟨4, 3, 9, true, ⟨#[]⟩⟩
theorem empty_list : (⟨#[]⟩ : ByteArray).toList = [] := by
  rw [ByteArray.toList, ByteArray.toList.loop]
  rfl
theorem gone_bad : goneE.bad = 0 := by
  unfold En.bad goneE
  exact bad_none (by decide) (by decide) (by rw [empty_list]; rfl)
theorem gone_badL : badL [goneE] = 0 := by simp [badL, badRow, gone_bad]
theorem fact_mark : tombMark [[goneE], [goneE]] 4 = (9, 0) := by
  rw [tombMark, if_neg (by simp [badLs, badEach, gone_badL]), if_neg (by decide)]
  rfl
theorem fact_sweep : tombSweep [goneE] 9 = ([], [4], 0) := by
  rw [tombSweep, if_neg (by simp [gone_badL]), if_neg (by decide)]
  rfl
end Go.Proofs.YteamkhnmknjkfacDoor
