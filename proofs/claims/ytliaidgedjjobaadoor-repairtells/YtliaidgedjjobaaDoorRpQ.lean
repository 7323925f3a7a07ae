/-
  What a repair leaves, on lists; flags of six, and that two choices that are more than all meet.
-/
import Derived.Test.YtliaidgedjjobaaDoorRpF
import Derived.Test.YtliaidgedjjobaaDoorCaJ
namespace Go.Proofs.YtliaidgedjjobaaDoor
set_option linter.unusedVariables false
set_option linter.unusedSimpArgs false
open Go.RowKit

theorem GoodLs.bad {ls : List (List En)} (h : GoodLs ls) : badLs ls = 0 := by
  have hp := h.pos
  have hl := h.len
  rw [badLs, if_neg (by omega), if_neg (by omega)]
  have ha := h.all
  clear hp hl h
  induction ls with
  | nil => rfl
  | cons l ls ih =>
    rw [badEach, if_neg (by simpa using ha l List.mem_cons_self)]
    exact ih (fun m hm => ha m (List.mem_cons_of_mem _ hm))
/-- what each has behind a repair -/
theorem with_get {ls : List (List En)} {key : Int} {x : En} (h : readR ls key = (x, 0)) {l : List En} (hl : l ∈ ls) : getE (withE x l) key = some x ∧ badL (withE x l) = 0 := by
  obtain ⟨⟨hx, hk⟩, ho⟩ := readR_over h
  obtain ⟨h1, _, _⟩ := readR_ok h
  have hg := badL_good (h1.all l hl)
  have hp := readR_put h hl
  refine ⟨?_, (putE_good hg hx hp).bad⟩
  rw [withE, getE_put hg hx hp, if_pos hk.symm, hk]
  cases ha : getE l key with
  | none => rfl
  | some a =>
    have hj := (ho l hl a ha).join (hg.all a (List.mem_of_find?_eq_some ha)) hx
    show some (joinE a x).1 = some x
    rw [hj]
theorem write_get {ls : List (List En)} {key : Int} {x : En} (h : readR ls key = (x, 0)) {m : List En} (hm : m ∈ ls.map (withE x)) : cacheGet m key = (x, 0) := by
  obtain ⟨l, hl, rfl⟩ := List.mem_map.1 hm
  obtain ⟨g1, g2⟩ := with_get h hl
  rw [cacheGet, if_neg (by simpa using g2), (readR_ok h).2.1, if_neg (by simp), g1]
theorem joinAll_same {key : Int} {x : En} (hx : x.bad = 0) : ∀ {ms : List (List En)}, (∀ m ∈ ms, getE m key = some x) → joinFrom key (some x) ms = (some x, 0)
  | [], _ => rfl
  | m :: ms, h => by
    rw [joinFrom, h m List.mem_cons_self]
    show (if (joinE x x).2 ≠ 0 then (none, (joinE x x).2) else joinFrom key (some (joinE x x).1) ms) = _
    rw [(Over.refl x).join hx hx, if_neg (by simp)]
    exact joinAll_same hx (fun m' hm' => h m' (List.mem_cons_of_mem _ hm'))
theorem write_read {ls : List (List En)} {key : Int} {x : En} (h : readR ls key = (x, 0)) : readR (ls.map (withE x)) key = (x, 0) := by
  obtain ⟨⟨hx, _⟩, _⟩ := readR_over h
  obtain ⟨h1, h2, _⟩ := readR_ok h
  have hall : ∀ m ∈ ls.map (withE x), getE m key = some x ∧ badL m = 0 := fun m hm => by
    obtain ⟨l, hl, rfl⟩ := List.mem_map.1 hm
    exact with_get h hl
  have hg : GoodLs (ls.map (withE x)) := ⟨by rw [List.length_map]; exact h1.pos, by rw [List.length_map]; exact h1.len, fun m hm => (hall m hm).2⟩
  rw [readR, if_neg (by simpa using hg.bad), h2, if_neg (by simp)]
  have hp := hg.pos
  generalize ls.map (withE x) = ms at hall hg hp ⊢
  cases ms with
  | nil => simp at hp
  | cons m ms =>
    rw [joinFrom, (hall m List.mem_cons_self).1]
    show readO (joinFrom key (some x) ms) = _
    rw [joinAll_same hx (fun m' hm' => (hall m' (List.mem_cons_of_mem _ hm')).1)]
    rfl
theorem write_lacks {ls : List (List En)} {key : Int} {x : En} (h : readR ls key = (x, 0)) : lacksR (ls.map (withE x)) key = ([], 0) := by
  rw [lacksR, write_read h, if_neg (by simp)]
  have hall : ∀ n, n ≤ (ls.map (withE x)).length → lackN (ls.map (withE x)) key x.v n = [] := fun n => by
    induction n with
    | zero => intro _; rfl
    | succ n ih =>
      intro hn
      rw [lackN_no, ih (by omega)]
      have hd : (ls.map (withE x)).getD n [] = (ls.map (withE x))[n] := by simp [List.getD_eq_getElem?_getD, List.getElem?_eq_getElem (show n < (ls.map (withE x)).length by omega)]
      rw [hd, lackB]
      obtain ⟨l, hl, he⟩ := List.mem_map.1 (List.getElem_mem (show n < (ls.map (withE x)).length by omega))
      rw [← he, (with_get h hl).1]
      simp
  rw [hall _ (Nat.le_refl _)]
theorem write_ok {ls : List (List En)} {key : Int} {x : En} (h : readR ls key = (x, 0)) : writeR ls key = (ls.map (withE x), 0) := by
  rw [writeR, h, if_neg (by simp)]
theorem fact_lacks : lacksR [[], [⟨2, 5, 6, false, ⟨#[120]⟩⟩]] 2 = ([0], 0) := by kernel_rfl

/-- how many flags are up -/
def cntB (o : Nat → Bool) : Nat → Nat
  | 0 => 0
  | n + 1 => cntB o n + (if o n = true then 1 else 0)
/-- is one up in both? -/
def bothB (a b : Nat → Bool) : Nat → Bool
  | 0 => false
  | n + 1 => bothB a b n || (a n && b n)
def upB (o : Nat → Bool) (k : Nat) : Nat → Bool := fun j => if j = k then true else o j
theorem cntB_le (o : Nat → Bool) (n : Nat) : cntB o n ≤ n := by
  induction n with
  | zero => exact Nat.le_refl _
  | succ n ih => rw [cntB]; split <;> omega
theorem cntB_none (n : Nat) : cntB (fun _ => false) n = 0 := by
  induction n with
  | zero => rfl
  | succ n ih => rw [cntB, ih]; rfl
theorem cntB_off (o : Nat → Bool) (k n : Nat) (h : n ≤ k) : cntB (upB o k) n = cntB o n := by
  induction n with
  | zero => rfl
  | succ n ih =>
    have e : upB o k n = o n := by rw [upB, if_neg (by omega)]
    rw [cntB, cntB, ih (by omega), e]
theorem cntB_up (o : Nat → Bool) (k n : Nat) (h : k < n) (hk : o k = false) : cntB (upB o k) n = cntB o n + 1 := by
  induction n with
  | zero => omega
  | succ n ih =>
    rw [cntB, cntB]
    rcases Nat.lt_or_ge k n with h' | h'
    · have e : upB o k n = o n := by rw [upB, if_neg (by omega)]
      rw [ih h', e]
      omega
    · obtain rfl : k = n := by omega
      have e : upB o k k = true := by rw [upB, if_pos rfl]
      rw [cntB_off o k k (Nat.le_refl _), e, hk]
      simp
/-- two that are more than all meet -/
theorem cntB_meet (a b : Nat → Bool) (n : Nat) (h : bothB a b n = false) : cntB a n + cntB b n ≤ n := by
  induction n with
  | zero => exact Nat.le_refl _
  | succ n ih =>
    rw [bothB, Bool.or_eq_false_iff] at h
    have := ih h.1
    rw [cntB, cntB]
    cases ha : a n <;> cases hb : b n <;> simp [ha, hb] at h ⊢ <;> omega
end Go.Proofs.YtliaidgedjjobaaDoor
