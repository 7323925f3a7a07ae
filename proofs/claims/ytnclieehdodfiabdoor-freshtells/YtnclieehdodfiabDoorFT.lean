/-
  Package fresh, on lists: what the document asks, and what the program answers.
-/
import Derived.Test.YtnclieehdodfiabDoorFrT
import Derived.Test.YtnclieehdodfiabDoorFrI
import Derived.Test.YtnclieehdodfiabDoorRfO
import Derived.Test.YtnclieehdodfiabDoorErrA
import Derived.Deep.DeepCutAuto
import Derived.Deep.CutBlock
namespace Go.Proofs.YtnclieehdodfiabDoor
set_option linter.unusedVariables false
set_option linter.unusedSimpArgs false
open Go.RowKit

theorem pair_eq {α β : Type} {a c : α} {b d : β} (h : (a, b) = (c, d)) : a = c ∧ b = d := by
  cases h
  exact ⟨rfl, rfl⟩
theorem rCache_p {l : List En} {n : Int} (h : badL l = n) (v : Value) (w : World) (hr : RowIs w v l) :
    Calls Tryd.prog 6 #[v] w fun e w' => e = .returned (.int .i64 n) ∧ Below w.heap.size w w' := by
  subst h
  exact rCache_c v l w hr
theorem refKey_p {k : Int} {b : Bool} (h : isK k = b) (w : World) : Calls Tryd.prog 13 #[.int .i64 k] w fun e w' => e = .returned (.bool b) ∧ Below w.heap.size w w' := by
  refine (refKey_b k b w h).mono ?_
  rintro e w' ⟨rfl, rfl⟩
  exact ⟨rfl, Below.refl _ _⟩
theorem rGet_p {l : List En} {key x0 x1 x2 : Int} {x3 : Bool} {x4 : ByteArray} {b : Bool} (h : hadE (getE l key) = ⟨x0, x1, x2, x3, x4⟩) (hb : (getE l key).isSome = b) (v : Value) (w : World) (hr : RowIs w v l) :
    Calls Tryd.prog 14 #[v, .int .i64 key] w fun e w' => e = .returned (.tuple #[.agg #[.int .i64 x0, .int .i64 x1, .int .i64 x2, .bool x3, .string x4], .bool b]) ∧ Below w.heap.size w w' := by
  have c := rGet_c v l key w hr
  rw [h, hb] at c
  exact c
theorem stale_p {l : List En} {fl : Int} {xs : List Int} {n : Int} (h : freshStale l fl = (xs, n)) (v : Value) (w : World) (hr : RowIs w v l) :
    Calls Tryd.prog 18 #[v, .int .i64 fl] w (StaleIs w xs n) := by
  have c := freshStale_c v l fl w hr
  rw [h] at c
  exact c
theorem freshGet_p {l : List En} {key fl k vv a : Int} {g : Bool} {t : ByteArray} {n : Int} (h : freshGet l key fl = (⟨k, vv, a, g, t⟩, n)) (v : Value) (w : World) (hr : RowIs w v l) :
    Calls Tryd.prog 20 #[v, .int .i64 key, .int .i64 fl] w fun e w' => e = .returned (.tuple #[.agg #[.int .i64 k, .int .i64 vv, .int .i64 a, .bool g, .string t], eV n]) ∧ Below w.heap.size w w' := by
  have c := freshGet_c v l key fl w hr
  rw [h] at c
  exact c
theorem touch_p {l : List En} {key ver seq : Int} {xs : List En} {n : Int} (h : freshTouch l key ver seq = (xs, n)) (v : Value) (w : World) (hr : RowIs w v l) :
    Calls Tryd.prog 21 #[v, .int .i64 key, .int .i64 ver, .int .i64 seq] w (TouchIs w xs n) := by
  have c := freshTouch_c v l key ver seq w hr
  rw [h] at c
  exact c
theorem same_p {a b : List En} {bo : Bool} (h : sameL a b = bo) (va vb : Value) (w : World) (hra : RowIs w va a) (hrb : RowIs w vb b) :
    Calls Tryd.prog 11 #[va, vb] w fun e w' => e = .returned (.bool bo) ∧ Below w.heap.size w w' := by
  subst h
  exact same_c va vb a b w hra hrb
theorem ints_p (a : List Int) (va vb : Value) (w : World) (hra : IntsIs w va a) (hrb : IntsIs w vb a) :
    Calls Tryd.prog 19 #[va, vb] w fun e w' => e = .returned (.bool true) ∧ Below w.heap.size w w' := by
  have c := ints_c va vb a a w hra hrb
  rw [beq_self_eq_true] at c
  exact c

theorem had_some {o : Option En} {x : En} (h : hadE o = x) (hb : o.isSome = true) : o = some x := by
  cases o with
  | none => simp at hb
  | some y => simp only [hadE] at h; rw [h]
theorem had_none {o : Option En} (hb : o.isSome = false) : o = none := by
  cases o with
  | none => rfl
  | some y => simp at hb

theorem stale_n {l : List En} {fl : Int} {xs : List Int} {n : Int} (h : freshStale l fl = (xs, n)) : n = if isSeqB fl = false then 1 else badL l := by
  unfold freshStale at h
  split at h
  · rename_i h1; rw [if_pos h1]; exact (pair_eq h).2.symm
  · rename_i h1
    rw [if_neg h1]
    split at h
    · exact (pair_eq h).2.symm
    · rename_i h2
      rw [← (pair_eq h).2]
      have : badL l = 0 := by simpa using h2
      exact this.symm
theorem stale_fault {l : List En} {fl : Int} {xs : List Int} {n : Int} (h : freshStale l fl = (xs, n)) (hn : n ≠ 0) : xs = [] := by
  unfold freshStale at h
  split at h
  · exact (pair_eq h).1.symm
  · split at h
    · exact (pair_eq h).1.symm
    · exact absurd (pair_eq h).2.symm hn
theorem stale_fine {l : List En} {fl : Int} {xs : List Int} (h : freshStale l fl = (xs, 0)) : isSeqB fl = true ∧ badL l = 0 ∧ xs = staleE l fl := by
  unfold freshStale at h
  split at h
  · exact absurd (pair_eq h).2 (show ¬ (_ : Int) = 0 by decide)
  · rename_i h1
    split at h
    · rename_i h2
      exact absurd (pair_eq h).2 h2
    · rename_i h2
      exact ⟨by simpa using h1, by simpa using h2, (pair_eq h).1.symm⟩

theorem cg_bad {l : List En} {key n : Int} (h : badL l = n) (hn : n ≠ 0) : cacheGet l key = (zeroEn, n) := by rw [cacheGet, if_pos (by rw [h]; exact hn), h]
theorem cg_key {l : List En} {key : Int} (h : badL l = 0) (hk : isK key = false) : cacheGet l key = (zeroEn, 1) := by
  rw [cacheGet, if_neg (by simpa using h), if_pos (show isKeyB key = false from hk)]
theorem cg_none {l : List En} {key : Int} (h : badL l = 0) (hk : isK key = true) (hg : getE l key = none) : cacheGet l key = (zeroEn, 5) := by
  rw [cacheGet, if_neg (by simpa using h), if_neg (by intro h'; rw [show isKeyB key = isK key from rfl, hk] at h'; cases h'), hg]
theorem cg_some {l : List En} {key : Int} {x : En} (h : badL l = 0) (hk : isK key = true) (hg : getE l key = some x) : cacheGet l key = (x, 0) := by
  rw [cacheGet, if_neg (by simpa using h), if_neg (by intro h'; rw [show isKeyB key = isK key from rfl, hk] at h'; cases h'), hg]

theorem fg_bad {l : List En} {key fl : Int} {xs : List Int} {n : Int} (h : freshStale l fl = (xs, n)) (hn : n ≠ 0) : freshGet l key fl = (zeroEn, n) := by
  have hn' := stale_n h
  unfold freshGet
  split
  · rename_i h1; rw [if_pos h1] at hn'; rw [hn']
  · rename_i h1
    rw [if_neg h1] at hn'
    rw [cg_bad hn'.symm hn, if_pos hn]
theorem fg_of {l : List En} {key fl : Int} {x : En} {n : Int} (hs : isSeqB fl = true) (hc : cacheGet l key = (x, n)) (hn : n ≠ 0) : freshGet l key fl = (zeroEn, n) := by
  rw [freshGet, if_neg (by rw [hs]; simp), hc, if_pos hn]
theorem fg_old {l : List En} {key fl : Int} {x : En} (hs : isSeqB fl = true) (hc : cacheGet l key = (x, 0)) (ha : x.a < fl) : freshGet l key fl = (zeroEn, 8) := by
  rw [freshGet, if_neg (by rw [hs]; simp), hc, if_neg (by simp), if_pos ha]
theorem fg_new {l : List En} {key fl : Int} {x : En} (hs : isSeqB fl = true) (hc : cacheGet l key = (x, 0)) (ha : ¬ x.a < fl) : freshGet l key fl = (x, 0) := by
  rw [freshGet, if_neg (by rw [hs]; simp), hc, if_neg (by simp), if_neg ha]

theorem ft_of {l : List En} {key ver seq : Int} {x : En} {n : Int} (hc : cacheGet l key = (x, n)) (hn : n ≠ 0) : freshTouch l key ver seq = ([], n) := by
  rw [freshTouch, hc, if_pos hn]
theorem ft_says {l : List En} {key ver seq : Int} {x : En} (hc : cacheGet l key = (x, 0)) (hs : saysB ver seq = false) : freshTouch l key ver seq = ([], 1) := by
  rw [freshTouch, hc, if_neg (by simp), if_pos hs]
theorem ft_denies {l : List En} {key ver seq : Int} {x : En} (hc : cacheGet l key = (x, 0)) (hs : saysB ver seq = true) (hd : deniesB x.v x.a ver = true) : freshTouch l key ver seq = ([], 7) := by
  rw [freshTouch, hc, if_neg (by simp), if_neg (by rw [hs]; simp), if_pos hd]
theorem ft_goes {l : List En} {key ver seq : Int} {x : En} (hc : cacheGet l key = (x, 0)) (hs : saysB ver seq = true) (hd : deniesB x.v x.a ver = false) : freshTouch l key ver seq = (touchE l x (placeE l key) ver seq, 0) := by
  rw [freshTouch, hc, if_neg (by simp), if_neg (by rw [hs]; simp), if_neg (by rw [hd]; simp)]
theorem ft_fault {l : List En} {key ver seq : Int} {xs : List En} {n : Int} (h : freshTouch l key ver seq = (xs, n)) (hn : n ≠ 0) : xs = [] := by
  unfold freshTouch at h
  split at h
  · exact (pair_eq h).1.symm
  · split at h
    · exact (pair_eq h).1.symm
    · split at h
      · exact (pair_eq h).1.symm
      · exact absurd (pair_eq h).2.symm hn
theorem ft_fine {l : List En} {key ver seq : Int} {xs : List En} (h : freshTouch l key ver seq = (xs, 0)) : ∃ x, cacheGet l key = (x, 0) ∧ saysB ver seq = true ∧ deniesB x.v x.a ver = false ∧ xs = touchE l x (placeE l key) ver seq := by
  unfold freshTouch at h
  split at h
  · rename_i h1
    exact absurd (pair_eq h).2 h1
  · rename_i h1
    split at h
    · exact absurd (pair_eq h).2 (show ¬ (_ : Int) = 0 by decide)
    · rename_i h2
      split at h
      · exact absurd (pair_eq h).2 (show ¬ (_ : Int) = 0 by decide)
      · rename_i h3
        refine ⟨(cacheGet l key).1, ?_, by simpa using h2, by simpa using h3, (pair_eq h).1.symm⟩
        have h1' : (cacheGet l key).2 = 0 := by simpa using h1
        rw [← h1']

theorem ownsRow_blocks {w w' : World} {B : Nat} {e : TypeId} {size : Nat} {v : Value} {n : Nat} {xs : List Value} (h : w.ownsRow B e size v n xs) (hb : ∀ c, v.ownBlock = some c → w'.heap[c]? = w.heap[c]?) : w'.ownsRow B e size v n xs := by
  refine ⟨h.1, ?_⟩
  rcases h.2 with hn | ⟨g, cap, cur, rfl, h1, hg, rest⟩
  · exact .inl hn
  · exact .inr ⟨g, cap, cur, rfl, h1, (hb g rfl).trans hg, rest⟩
theorem BoxAt.time {w : World} {b : Nat} {k v a : Int} {g : Bool} {t : ByteArray} (h : BoxAt w b k v a g t) (A : Int) : BoxAt (w.setCell ⟨b, 2, none⟩ (.int .i64 A)) b k v A g t := by
  obtain ⟨h0, h1, h2, h3, h4, hf⟩ := h
  refine ⟨?_, ?_, ?_, ?_, ?_, fun j => by simp only [World.frozen?_setCell]; exact hf j⟩
  · rw [World.cell?_setCell_other _ _ _ _ (by simp)]; exact h0
  · rw [World.cell?_setCell_other _ _ _ _ (by simp)]; exact h1
  · exact World.cell?_setCell_same _ _ _ h2
  · rw [World.cell?_setCell_other _ _ _ _ (by simp)]; exact h3
  · rw [World.cell?_setCell_other _ _ _ _ (by simp)]; exact h4

/-- what one entry leaves -/
def stepE (key ver seq : Int) (z : En) : List En := if z.k = key then (if z.v < ver then [] else [⟨z.k, z.v, max z.a seq, z.g, z.t⟩]) else [z]
def leftE (key ver seq : Int) (l : List En) : List En := l.flatMap (stepE key ver seq)
theorem leftE_take {l : List En} {key ver seq : Int} {j : Nat} (h : j < l.length) : leftE key ver seq (l.take (j + 1)) = leftE key ver seq (l.take j) ++ stepE key ver seq l[j] := by
  rw [List.take_succ_eq_append_getElem h, leftE, List.flatMap_append]
  simp [leftE]
theorem step_len (key ver seq : Int) (z : En) : (stepE key ver seq z).length ≤ 1 := by
  unfold stepE
  split
  · split <;> simp
  · simp
theorem leftE_len {l : List En} (key ver seq : Int) : (leftE key ver seq l).length ≤ l.length := by
  induction l with
  | nil => simp [leftE]
  | cons x l ih =>
    have h1 := step_len key ver seq x
    rw [leftE] at ih
    rw [leftE, List.flatMap_cons, List.length_append, List.length_cons]
    omega
theorem left_high {l : List En} {key ver seq : Int} (h : ∀ e ∈ l, key < e.k) : leftE key ver seq l = l := by
  induction l with
  | nil => rfl
  | cons x l ih =>
    have hx := h x (by simp)
    have hne : ¬ x.k = key := by omega
    have := ih (fun e he => h e (by simp [he]))
    rw [leftE] at this
    rw [leftE, List.flatMap_cons, this, stepE, if_neg hne]
    rfl
theorem left_touch {l : List En} {key ver seq : Int} {x : En} (hr : Rising l) (hg : getE l key = some x) : leftE key ver seq l = touchE l x (placeE l key) ver seq := by
  induction l with
  | nil => simp [getE] at hg
  | cons y l ih =>
    rw [Rising, List.pairwise_cons] at hr
    by_cases hy : y.k = key
    · have hxy : y = x := by
        rw [getE, List.find?_cons] at hg
        simp [hy] at hg
        exact hg
      subst hxy
      have hh : leftE key ver seq l = l := left_high (fun e he => by have := hr.1 e he; omega)
      rw [leftE] at hh
      have hp : placeE (y :: l) key = 0 := by simp [placeE, hy]
      rw [leftE, List.flatMap_cons, hh, hp, stepE, if_pos hy, touchE]
      split
      · rfl
      · rfl
    · have hg' : getE l key = some x := by
        rw [getE, List.find?_cons_of_neg (by simpa using hy)] at hg
        exact hg
      have hlt : y.k < key := by
        obtain ⟨hj, hx, hk⟩ := getE_some hr.2 hg'
        have := hr.1 _ (List.getElem_mem hj)
        rw [hx, hk] at this
        exact this
      have hp : placeE (y :: l) key = placeE l key + 1 := by simp [placeE, hlt]
      have := ih hr.2 hg'
      rw [leftE] at this
      rw [leftE, List.flatMap_cons, this, hp, stepE, if_neg hy, touchE, touchE]
      split
      · rfl
      · rfl
end Go.Proofs.YtnclieehdodfiabDoor
