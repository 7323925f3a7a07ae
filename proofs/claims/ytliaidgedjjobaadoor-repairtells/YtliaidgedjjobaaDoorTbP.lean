/-
  Caches of several nodes: a row of rows; what is wrong with some; up to where all know a key, what is swept, what is safe: on lists.
-/
import Derived.Test.YtliaidgedjjobaaDoorCaG
namespace Go.Proofs.YtliaidgedjjobaaDoor
set_option linter.unusedVariables false
set_option linter.unusedSimpArgs false
open Go.RowKit

/-- a slice that holds rows of entries -/
def RowsIs (w : World) (v : Value) (ls : List (List En)) : Prop :=
  ls.length ≤ maxLen ∧ ∃ p cap, v = .slice p ls.length cap ∧ (ls ≠ [] → ∃ b o, p = some ⟨b, o, none⟩ ∧ b < w.heap.size ∧ ∀ j (h : j < ls.length), ∃ u, w.cell? ⟨b, o + j, none⟩ = some u ∧ RowIs w u ls[j])
theorem RowsIs.below {w w' : World} {v : Value} {ls : List (List En)} (h : RowsIs w v ls) (hb : Below w.heap.size w w') : RowsIs w' v ls := by
  obtain ⟨h0, p, cap, rfl, h1⟩ := h
  refine ⟨h0, p, cap, rfl, fun hn => ?_⟩
  obtain ⟨b, o, rfl, hlt, hc⟩ := h1 hn
  refine ⟨b, o, rfl, Nat.lt_of_lt_of_le hlt hb.size, fun j hj => ?_⟩
  obtain ⟨u, hu, hr⟩ := hc j hj
  exact ⟨u, (World.cell?_of_block (a := ⟨b, o + j, none⟩) (hb.block b hlt)).trans hu, hr.below hb⟩

/-- what is wrong with the first that is wrong -/
def badEach : List (List En) → Int
  | [] => 0
  | l :: ls => if badL l ≠ 0 then badL l else badEach ls
/-- what is wrong with caches of several nodes -/
def badLs (ls : List (List En)) : Int := if ls.length = 0 then 5 else if 6 < ls.length then 4 else badEach ls
theorem badEach_bad {ls : List (List En)} {j : Nat} (h : j < ls.length) (hb : badL ls[j] ≠ 0) : badEach (ls.drop j) = badL ls[j] := by
  rw [List.drop_eq_getElem_cons h, badEach, if_pos hb]
theorem badEach_next {ls : List (List En)} {j : Nat} (h : j < ls.length) (hb : badL ls[j] = 0) : badEach (ls.drop j) = badEach (ls.drop (j + 1)) := by
  rw [List.drop_eq_getElem_cons h, badEach, if_neg (by simpa using hb)]
theorem badEach_good {ls : List (List En)} (h : badEach ls = 0) : ∀ l ∈ ls, badL l = 0 := by
  induction ls with
  | nil => simp
  | cons l ls ih =>
    rw [badEach] at h
    split at h
    · contradiction
    · rename_i h0
      intro x hx
      rcases List.mem_cons.1 hx with rfl | hx
      · simpa using h0
      · exact ih h x hx
/-- right caches of several nodes -/
structure GoodLs (ls : List (List En)) : Prop where
  pos : 0 < ls.length
  len : ls.length ≤ 6
  all : ∀ l ∈ ls, badL l = 0
theorem badLs_good {ls : List (List En)} (h : badLs ls = 0) : GoodLs ls := by
  unfold badLs at h
  split at h
  · omega
  · split at h
    · omega
    · exact ⟨by omega, by omega, badEach_good h⟩

/-- the least time, behind some -/
def markFrom (key : Int) : Int → List (List En) → Int
  | m, [] => m
  | m, l :: ls => match getE l key with | none => 0 | some x => markFrom key (if x.a < m then x.a else m) ls
theorem markFrom_none {ls : List (List En)} {j : Nat} {key m : Int} (h : j < ls.length) (hg : getE ls[j] key = none) : markFrom key m (ls.drop j) = 0 := by
  rw [List.drop_eq_getElem_cons h, markFrom, hg]
theorem markFrom_some {ls : List (List En)} {j : Nat} {key m : Int} {x : En} (h : j < ls.length) (hg : getE ls[j] key = some x) : markFrom key m (ls.drop j) = markFrom key (if x.a < m then x.a else m) (ls.drop (j + 1)) := by
  rw [List.drop_eq_getElem_cons h, markFrom, hg]
/-- Mark, on lists -/
def tombMark (ls : List (List En)) (key : Int) : Int × Int :=
  if badLs ls ≠ 0 then (0, badLs ls) else if isKeyB key = false then (0, 1) else (markFrom key 1000 ls, 0)

/-- is it swept? -/
def sweptB (mark : Int) (e : En) : Bool := e.g && decide (e.v ≤ mark)
def sweptL (mark : Int) (l : List En) : List Int := (l.filter (fun e => sweptB mark e)).map (·.k)
def keptL (mark : Int) (l : List En) : List En := l.filter (fun e => !sweptB mark e)
theorem sweptL_len (mark : Int) (l : List En) : (sweptL mark l).length ≤ l.length := by
  rw [sweptL, List.length_map]
  exact List.length_filter_le _ _
theorem keptL_len (mark : Int) (l : List En) : (keptL mark l).length ≤ l.length := List.length_filter_le _ _
theorem swept_yes {l : List En} {mark : Int} {j : Nat} (h : j < l.length) (ha : sweptB mark l[j] = true) : sweptL mark (l.take (j + 1)) = sweptL mark (l.take j) ++ [l[j].k] ∧ keptL mark (l.take (j + 1)) = keptL mark (l.take j) := by
  rw [List.take_succ_eq_append_getElem h, sweptL, keptL, List.filter_append, List.filter_append, List.map_append]
  simp [sweptL, keptL, ha]
theorem swept_no {l : List En} {mark : Int} {j : Nat} (h : j < l.length) (ha : sweptB mark l[j] = false) : sweptL mark (l.take (j + 1)) = sweptL mark (l.take j) ∧ keptL mark (l.take (j + 1)) = keptL mark (l.take j) ++ [l[j]] := by
  rw [List.take_succ_eq_append_getElem h, sweptL, keptL, List.filter_append, List.filter_append, List.map_append]
  simp [sweptL, keptL, ha]
def markB (m : Int) : Bool := decide (0 ≤ m) && decide (m ≤ 1000)
/-- Sweep, on lists -/
def tombSweep (l : List En) (mark : Int) : List En × List Int × Int :=
  if badL l ≠ 0 then ([], [], badL l) else if markB mark = false then ([], [], 1) else (keptL mark l, sweptL mark l, 0)

/-- does a row have it that a key is gone from a version on? -/
def goneAt (key ver : Int) (e : En) : Bool := (e.k == key) && e.g && (e.v == ver)
def knowsG (l : List En) (key ver : Int) : Bool := l.any (fun e => goneAt key ver e)
def allG (ls : List (List En)) (key ver : Int) : Bool := ls.all (fun l => knowsG l key ver)
def safeFrom (ls : List (List En)) (l : List En) : List Int := (l.filter (fun e => allG ls e.k e.v)).map (·.k)
theorem safeFrom_len (ls : List (List En)) (l : List En) : (safeFrom ls l).length ≤ l.length := by
  rw [safeFrom, List.length_map]
  exact List.length_filter_le _ _
theorem safe_yes {ls : List (List En)} {l : List En} {j : Nat} (h : j < l.length) (ha : allG ls l[j].k l[j].v = true) : safeFrom ls (l.take (j + 1)) = safeFrom ls (l.take j) ++ [l[j].k] := by
  rw [List.take_succ_eq_append_getElem h, safeFrom, List.filter_append, List.map_append]
  simp [safeFrom, ha]
theorem safe_no {ls : List (List En)} {l : List En} {j : Nat} (h : j < l.length) (ha : allG ls l[j].k l[j].v = false) : safeFrom ls (l.take (j + 1)) = safeFrom ls (l.take j) := by
  rw [List.take_succ_eq_append_getElem h, safeFrom, List.filter_append, List.map_append]
  simp [safeFrom, ha]
/-- Safe, on lists -/
def tombSafe (ls : List (List En)) : List Int × Int :=
  if badLs ls ≠ 0 then ([], badLs ls) else (safeFrom ls (ls.headD []), 0)

/-- the place of the first that is so, its length's where none is -/
theorem first_some {l : List En} {key : Int} {m : Nat} (hm : m < l.length) (hk : l[m].k = key) (hlow : ∀ j (h : j < l.length), j < m → ¬ l[j].k = key) : getE l key = some l[m] := by
  unfold getE
  rw [List.find?_eq_some_iff_getElem]
  refine ⟨by simpa using hk, m, hm, rfl, fun j hj => ?_⟩
  have := hlow j (by omega) hj
  simpa using this
theorem first_none {l : List En} {key : Int} (hlow : ∀ j (h : j < l.length), ¬ l[j].k = key) : getE l key = none := by
  unfold getE
  rw [List.find?_eq_none]
  intro x hx
  obtain ⟨j, hj, rfl⟩ := List.getElem_of_mem hx
  simpa using hlow j hj
/-- where the first is that is so: -1 where none is -/
def idxI (n : Nat) (p : Nat → Bool) : Nat → Int
  | 0 => -1
  | f + 1 => if p (n - (f + 1)) = true then ((n - (f + 1) : Nat) : Int) else idxI n p f
theorem idxI_hit {n : Nat} {p : Nat → Bool} {j : Nat} (h : j < n) (hp : p j = true) : idxI n p (n - j) = j := by
  obtain ⟨f, hf⟩ : ∃ f, n - j = f + 1 := ⟨n - j - 1, by omega⟩
  rw [hf, idxI, show n - (f + 1) = j by omega, if_pos hp]
theorem idxI_miss {n : Nat} {p : Nat → Bool} {j : Nat} (h : j < n) (hp : p j = false) : idxI n p (n - j) = idxI n p (n - (j + 1)) := by
  obtain ⟨f, hf⟩ : ∃ f, n - j = f + 1 := ⟨n - j - 1, by omega⟩
  rw [hf, idxI, show n - (f + 1) = j by omega, if_neg (by rw [hp]; simp), show n - (j + 1) = f by omega]
theorem idxI_end (n : Nat) (p : Nat → Bool) : idxI n p (n - n) = -1 := by rw [Nat.sub_self]; rfl
/-- either none is so, or there is a first -/
theorem idxI_cases (n : Nat) (p : Nat → Bool) : (idxI n p n = -1 ∧ ∀ j, j < n → p j = false) ∨ ∃ m : Nat, idxI n p n = m ∧ m < n ∧ p m = true ∧ ∀ j, j < m → p j = false := by
  have key : ∀ d j, n - j = d → j ≤ n → (∀ i, i < j → p i = false) → ((idxI n p (n - j) = -1 ∧ ∀ j, j < n → p j = false) ∨ ∃ m : Nat, idxI n p (n - j) = m ∧ m < n ∧ p m = true ∧ ∀ j, j < m → p j = false) := by
    intro d
    induction d with
    | zero =>
      intro j hd hj hlow
      obtain rfl : j = n := by omega
      exact Or.inl ⟨idxI_end _ _, hlow⟩
    | succ d ih =>
      intro j hd hj hlow
      have hjn : j < n := by omega
      cases hp : p j with
      | true => exact Or.inr ⟨j, idxI_hit hjn hp, hjn, hp, hlow⟩
      | false =>
        rw [idxI_miss hjn hp]
        refine ih (j + 1) (by omega) (by omega) (fun i hi => ?_)
        rcases Nat.lt_or_ge i j with h | h
        · exact hlow i h
        · obtain rfl : i = j := by omega
          exact hp
  exact key n 0 (by omega) (by omega) (fun i hi => by omega)
end Go.Proofs.YtliaidgedjjobaaDoor
