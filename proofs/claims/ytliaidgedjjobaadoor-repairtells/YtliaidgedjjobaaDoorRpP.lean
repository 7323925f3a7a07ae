/-
  The newest of a key in caches of several nodes, which lack it, all with it: on lists.
-/
import Derived.Test.YtliaidgedjjobaaDoorTbP
import Derived.Test.YtliaidgedjjobaaDoorCaM
import Derived.Test.YtliaidgedjjobaaDoorJoinN
namespace Go.Proofs.YtliaidgedjjobaaDoor
set_option linter.unusedVariables false
set_option linter.unusedSimpArgs false
open Go.RowKit

/-- the Join of all entries of a key, one by one, behind what is known by now -/
def joinFrom (key : Int) : Option En → List (List En) → Option En × Int
  | o, [] => (o, 0)
  | o, l :: ls => match getE l key with
    | none => joinFrom key o ls
    | some x => match o with
      | none => joinFrom key (some x) ls
      | some y => if (joinE y x).2 ≠ 0 then (none, (joinE y x).2) else joinFrom key (some (joinE y x).1) ls
theorem joinFrom_none {key : Int} {o : Option En} {ls : List (List En)} {j : Nat} (h : j < ls.length) (hg : getE ls[j] key = none) : joinFrom key o (ls.drop j) = joinFrom key o (ls.drop (j + 1)) := by
  rw [List.drop_eq_getElem_cons h, joinFrom, hg]
theorem joinFrom_first {key : Int} {x : En} {ls : List (List En)} {j : Nat} (h : j < ls.length) (hg : getE ls[j] key = some x) : joinFrom key none (ls.drop j) = joinFrom key (some x) (ls.drop (j + 1)) := by
  rw [List.drop_eq_getElem_cons h, joinFrom, hg]
theorem joinFrom_bad {key : Int} {x y : En} {ls : List (List En)} {j : Nat} (h : j < ls.length) (hg : getE ls[j] key = some x) {z : En} {n : Int} (hj : joinE y x = (z, n)) (hn : n ≠ 0) : joinFrom key (some y) (ls.drop j) = (none, n) := by
  rw [List.drop_eq_getElem_cons h, joinFrom, hg]
  show (if (joinE y x).2 ≠ 0 then (none, (joinE y x).2) else joinFrom key (some (joinE y x).1) (ls.drop (j + 1))) = _
  rw [hj, if_pos hn]
theorem joinFrom_next {key : Int} {x y z : En} {ls : List (List En)} {j : Nat} (h : j < ls.length) (hg : getE ls[j] key = some x) (hj : joinE y x = (z, 0)) : joinFrom key (some y) (ls.drop j) = joinFrom key (some z) (ls.drop (j + 1)) := by
  rw [List.drop_eq_getElem_cons h, joinFrom, hg]
  show (if (joinE y x).2 ≠ 0 then (none, (joinE y x).2) else joinFrom key (some (joinE y x).1) (ls.drop (j + 1))) = _
  rw [hj, if_neg (by simp)]
/-- what the join of all tells -/
def readO (p : Option En × Int) : En × Int := if p.2 ≠ 0 then (zeroEn, p.2) else match p.1 with | none => (zeroEn, 5) | some x => (x, 0)
/-- Read, on lists -/
def readR (ls : List (List En)) (key : Int) : En × Int :=
  if badLs ls ≠ 0 then (zeroEn, badLs ls) else if isKeyB key = false then (zeroEn, 1) else readO (joinFrom key none ls)
/-- does a cache lack a version of a key? -/
def lackB (key ver : Int) (l : List En) : Bool := match getE l key with | none => true | some y => decide (y.v < ver)
def lackN (ls : List (List En)) (key ver : Int) (n : Nat) : List Int := ((List.range n).filter (fun i => lackB key ver (ls.getD i []))).map (fun i => ((i : Nat) : Int))
theorem lackN_yes {ls : List (List En)} {key ver : Int} {n : Nat} (h : lackB key ver (ls.getD n []) = true) : lackN ls key ver (n + 1) = lackN ls key ver n ++ [(n : Int)] := by
  rw [lackN, List.range_succ, List.filter_append, List.map_append, List.filter_cons_of_pos (by exact h)]
  rfl
theorem lackN_no {ls : List (List En)} {key ver : Int} {n : Nat} (h : lackB key ver (ls.getD n []) = false) : lackN ls key ver (n + 1) = lackN ls key ver n := by
  rw [lackN, List.range_succ, List.filter_append, List.map_append, List.filter_cons_of_neg (by rw [h]; simp)]
  simp [lackN]
theorem lackN_len (ls : List (List En)) (key ver : Int) (n : Nat) : (lackN ls key ver n).length ≤ n := by
  rw [lackN, List.length_map]
  exact Nat.le_trans (List.length_filter_le _ _) (by simp)
/-- Lacks, on lists -/
def lacksR (ls : List (List En)) (key : Int) : List Int × Int :=
  if (readR ls key).2 ≠ 0 then ([], (readR ls key).2) else (lackN ls key (readR ls key).1.v ls.length, 0)
/-- each with an entry -/
def withE (x : En) (l : List En) : List En := (putE l x).1
/-- Write, on lists: where Read goes nothing clashes -/
def writeR (ls : List (List En)) (key : Int) : List (List En) × Int :=
  if (readR ls key).2 ≠ 0 then ([], (readR ls key).2) else (ls.map (withE (readR ls key).1), 0)
/-- is it fit to be met? -/
def meetE (n r w : Int) : Int := if (1 ≤ n ∧ n ≤ 6) ∧ (0 ≤ r ∧ r ≤ n) ∧ (0 ≤ w ∧ w ≤ n) then 0 else 1
def meetB (n r w : Int) : Bool := decide (meetE n r w = 0) && decide (n < r + w)

/-- x tells all that a does, and is no less new -/
def Over (x a : En) : Prop := a.k = x.k ∧ ((a.v = x.v ∧ a.g = x.g ∧ a.t = x.t ∧ a.a ≤ x.a) ∨ (a.v < x.v ∧ a.a < x.v))
theorem Over.refl (a : En) : Over a a := ⟨rfl, .inl ⟨rfl, rfl, rfl, Int.le_refl _⟩⟩
theorem Over.trans {x y a : En} (h : Over x y) (k : Over y a) : Over x a := by
  obtain ⟨h0, h⟩ := h
  obtain ⟨k0, k⟩ := k
  refine ⟨k0.trans h0, ?_⟩
  rcases k with ⟨k1, k2, k3, k4⟩ | ⟨k1, k2⟩
  · rcases h with ⟨h1, h2, h3, h4⟩ | ⟨h1, h2⟩
    · exact .inl ⟨k1.trans h1, k2.trans h2, k3.trans h3, Int.le_trans k4 h4⟩
    · exact .inr ⟨by omega, by omega⟩
  · rcases h with ⟨h1, h2, h3, h4⟩ | ⟨h1, h2⟩
    · exact .inr ⟨by omega, by omega⟩
    · exact .inr ⟨by omega, by omega⟩
theorem Known.over {a b x : En} (h : Known a b x) : Over x a ∧ Over x b := by
  obtain ⟨hk, h⟩ := h
  rcases h with ⟨h1, h2, h3, h4, rfl⟩ | ⟨h1, h2, h3, h4, rfl⟩ | ⟨h1, h2, rfl⟩ | ⟨h1, h2, rfl⟩
  · exact ⟨Over.refl _, hk.symm, .inl ⟨h1.symm, h2.symm, h3.symm, by omega⟩⟩
  · exact ⟨⟨hk, .inl ⟨h1, h2, h3, h4⟩⟩, Over.refl _⟩
  · exact ⟨Over.refl _, hk.symm, .inr ⟨h1, h2⟩⟩
  · exact ⟨⟨hk, .inr ⟨h1, h2⟩⟩, Over.refl _⟩
theorem Over.known {x a : En} (h : Over x a) : Known a x x := by
  obtain ⟨hk, h⟩ := h
  refine ⟨hk, ?_⟩
  rcases h with ⟨h1, h2, h3, h4⟩ | ⟨h1, h2⟩
  · exact .inr (.inl ⟨h1, h2, h3, h4, rfl⟩)
  · exact .inr (.inr (.inr ⟨h1, h2, rfl⟩))
theorem Over.join {x a : En} (h : Over x a) (ha : a.bad = 0) (hx : x.bad = 0) : joinE a x = (x, 0) := joinE_iff.2 ⟨ha, hx, h.known⟩
/-- what was joined is over each -/
theorem joinFrom_over {key : Int} {ls : List (List En)} : ∀ {o : Option En} {x : En}, (∀ l ∈ ls, badL l = 0) → joinFrom key o ls = (some x, 0) → (∀ y, o = some y → y.bad = 0 ∧ y.k = key) →
    (x.bad = 0 ∧ x.k = key) ∧ (∀ y, o = some y → Over x y) ∧ ∀ l ∈ ls, ∀ a, getE l key = some a → Over x a := by
  induction ls with
  | nil =>
    intro o x _ h ho
    have h1 : o = some x := congrArg Prod.fst h
    refine ⟨ho x h1, fun y hy => ?_, fun l hl => by cases hl⟩
    rw [h1] at hy
    obtain rfl := Option.some.inj hy
    exact Over.refl _
  | cons l ls ih =>
    intro o x hb h ho
    have hl : ∀ a, getE l key = some a → a.bad = 0 ∧ a.k = key := fun a ha => by
      have hg := badL_good (hb l (List.mem_cons_self))
      exact ⟨hg.all a (List.mem_of_find?_eq_some ha), by simpa using List.find?_some ha⟩
    have hb' : ∀ l ∈ ls, badL l = 0 := fun m hm => hb m (List.mem_cons_of_mem _ hm)
    rw [joinFrom] at h
    cases hg : getE l key with
    | none =>
      rw [hg] at h
      obtain ⟨i1, i2, i3⟩ := ih hb' h ho
      refine ⟨i1, i2, fun m hm a ha => ?_⟩
      rcases List.mem_cons.1 hm with rfl | hm
      · rw [hg] at ha; cases ha
      · exact i3 m hm a ha
    | some a0 =>
      rw [hg] at h
      cases o with
      | none =>
        obtain ⟨i1, i2, i3⟩ := ih hb' h (fun y hy => by obtain rfl := Option.some.inj hy; exact hl _ hg)
        refine ⟨i1, fun y hy => (by cases hy), fun m hm a ha => ?_⟩
        rcases List.mem_cons.1 hm with rfl | hm
        · rw [hg] at ha
          obtain rfl := Option.some.inj ha
          exact i2 _ rfl
        · exact i3 m hm a ha
      | some y0 =>
        obtain ⟨z, n, hj⟩ : ∃ z n, joinE y0 a0 = (z, n) := ⟨_, _, rfl⟩
        have h' : (if (joinE y0 a0).2 ≠ 0 then (none, (joinE y0 a0).2) else joinFrom key (some (joinE y0 a0).1) ls) = (some x, 0) := h
        rw [hj] at h'
        by_cases hn : n = 0
        · subst hn
          rw [if_neg (by simp)] at h'
          obtain ⟨j1, j2, hK⟩ := joinE_iff.1 hj
          obtain ⟨o1, o2⟩ := hK.over
          have hz : z.bad = 0 ∧ z.k = key := by
            rcases hK.one with rfl | rfl
            · exact ho _ rfl
            · exact hl _ hg
          obtain ⟨i1, i2, i3⟩ := ih hb' h' (fun y hy => by obtain rfl := Option.some.inj hy; exact hz)
          have i4 := i2 _ rfl
          refine ⟨i1, fun y hy => by obtain rfl := Option.some.inj hy; exact i4.trans o1, fun m hm a ha => ?_⟩
          rcases List.mem_cons.1 hm with rfl | hm
          · rw [hg] at ha
            obtain rfl := Option.some.inj ha
            exact i4.trans o2
          · exact i3 m hm a ha
        · rw [if_pos hn] at h'
          exact absurd (congrArg Prod.fst h') (by simp)
/-- where Read goes -/
theorem readR_ok {ls : List (List En)} {key : Int} {x : En} (h : readR ls key = (x, 0)) : GoodLs ls ∧ isKeyB key = true ∧ joinFrom key none ls = (some x, 0) := by
  unfold readR at h
  by_cases hb : badLs ls = 0
  · rw [if_neg (by simpa using hb)] at h
    cases hk : isKeyB key with
    | false => rw [hk, if_pos rfl] at h; exact absurd (congrArg Prod.snd h) (by simp)
    | true =>
      rw [hk, if_neg (by simp)] at h
      refine ⟨badLs_good hb, rfl, ?_⟩
      obtain ⟨o, n, hj⟩ : ∃ o n, joinFrom key none ls = (o, n) := ⟨_, _, rfl⟩
      rw [hj] at h ⊢
      unfold readO at h
      dsimp only at h
      by_cases hn : n = 0
      · subst hn
        rw [if_neg (by simp)] at h
        cases o with
        | none => exact absurd (congrArg Prod.snd h) (by simp)
        | some y => rw [show y = x from congrArg Prod.fst h]
      · rw [if_pos hn] at h
        exact absurd (congrArg Prod.snd h) hn
  · rw [if_pos hb] at h
    exact absurd (congrArg Prod.snd h) hb
theorem readR_over {ls : List (List En)} {key : Int} {x : En} (h : readR ls key = (x, 0)) : (x.bad = 0 ∧ x.k = key) ∧ ∀ l ∈ ls, ∀ a, getE l key = some a → Over x a := by
  obtain ⟨h1, _, h3⟩ := readR_ok h
  obtain ⟨i1, _, i3⟩ := joinFrom_over h1.all h3 (fun y hy => by cases hy)
  exact ⟨i1, i3⟩
/-- what is read is put into each without a clash -/
theorem readR_put {ls : List (List En)} {key : Int} {x : En} (h : readR ls key = (x, 0)) {l : List En} (hl : l ∈ ls) : (putE l x).2.2 = 0 := by
  obtain ⟨⟨hx, hk⟩, ho⟩ := readR_over h
  obtain ⟨h1, _, _⟩ := readR_ok h
  have hg := badL_good (h1.all l hl)
  unfold putE
  rw [hk]
  cases ha : getE l key with
  | none => rfl
  | some a =>
    have hj := (ho l hl a ha).join (hg.all a (List.mem_of_find?_eq_some ha)) hx
    simp [hj]
theorem meetE_ok {n r w : Int} (h : meetE n r w = 0) : (1 ≤ n ∧ n ≤ 6) ∧ (0 ≤ r ∧ r ≤ n) ∧ (0 ≤ w ∧ w ≤ n) := by
  unfold meetE at h
  split at h
  · assumption
  · omega
end Go.Proofs.YtliaidgedjjobaaDoor
