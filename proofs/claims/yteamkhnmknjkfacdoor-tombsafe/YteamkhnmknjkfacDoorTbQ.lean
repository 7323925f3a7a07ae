/-
  Package tomb, on lists: what the document asks, and what the program answers.
-/
import Derived.Test.YteamkhnmknjkfacDoorTbL
import Derived.Test.YteamkhnmknjkfacDoorTbM
import Derived.Test.YteamkhnmknjkfacDoorTbR
import Derived.Test.YteamkhnmknjkfacDoorRfG
import Derived.Test.YteamkhnmknjkfacDoorRfK
import Derived.Test.YteamkhnmknjkfacDoorCaS
import Derived.Test.YteamkhnmknjkfacDoorErrA
import Derived.Deep.DeepCutAuto
import Derived.Deep.CutBlock
namespace Go.Proofs.YteamkhnmknjkfacDoor
set_option linter.unusedVariables false
set_option linter.unusedSimpArgs false
open Go.RowKit

theorem pair_eqT {α β : Type} {a c : α} {b d : β} (h : (a, b) = (c, d)) : a = c ∧ b = d := by
  cases h
  exact ⟨rfl, rfl⟩
theorem refKey_t {k : Int} {b : Bool} (h : isKeyB k = b) (w : World) : Calls Tryd.prog 7 #[.int .i64 k] w fun e w' => e = .returned (.bool b) ∧ Below w.heap.size w w' := by
  refine (refKey_b k b w h).mono ?_
  rintro e w' ⟨rfl, rfl⟩
  exact ⟨rfl, Below.refl _ _⟩
theorem rGet_t {l : List En} {key x0 x1 x2 : Int} {x3 : Bool} {x4 : ByteArray} {b : Bool} (h : hadE (getE l key) = ⟨x0, x1, x2, x3, x4⟩) (hb : (getE l key).isSome = b) (v : Value) (w : World) (hr : RowIs w v l) :
    Calls Tryd.prog 15 #[v, .int .i64 key] w fun e w' => e = .returned (.tuple #[.agg #[.int .i64 x0, .int .i64 x1, .int .i64 x2, .bool x3, .string x4], .bool b]) ∧ Below w.heap.size w w' := by
  have c := rGet_c v l key w hr
  rw [h, hb] at c
  exact c
theorem same_t {a : List En} (va vb : Value) (w : World) (hra : RowIs w va a) (hrb : RowIs w vb a) :
    Calls Tryd.prog 21 #[va, vb] w fun e w' => e = .returned (.bool true) ∧ Below w.heap.size w w' := by
  have c := same_c va vb a a w hra hrb
  rw [sameL_iff.2 rfl] at c
  exact c

/-- the document's mark, cache by cache -/
def wantStep (key m : Int) (l : List En) : Int := match getE l key with | none => 0 | some x => if x.a < m then x.a else m
def wantE (key : Int) (ls : List (List En)) : Int := ls.foldl (wantStep key) 1000
theorem wantE_take {ls : List (List En)} {key : Int} {j : Nat} (h : j < ls.length) : wantE key (ls.take (j + 1)) = wantStep key (wantE key (ls.take j)) ls[j] := by
  rw [List.take_succ_eq_append_getElem h, wantE, List.foldl_append]
  rfl
theorem want_none {key m : Int} {l : List En} (h : (getE l key).isSome = false) : wantStep key m l = 0 := by
  rw [wantStep]
  cases hg : getE l key with
  | none => rfl
  | some x => rw [hg] at h; cases h
theorem want_some {key m : Int} {l : List En} {x : En} (h : hadE (getE l key) = x) (hs : (getE l key).isSome = true) : wantStep key m l = if x.a < m then x.a else m := by
  rw [wantStep]
  cases hg : getE l key with
  | none => rw [hg] at hs; cases hs
  | some y => rw [hg] at h; simp only [hadE] at h; rw [h]
theorem getE_memT {l : List En} {key : Int} {x : En} (h : getE l key = some x) : x ∈ l ∧ x.k = key := ⟨List.mem_of_find?_eq_some h, by simpa using List.find?_some h⟩
theorem getE_ofT {l : List En} (hr : Rising l) {x : En} (h : x ∈ l) : getE l x.k = some x := by
  cases hg : getE l x.k with
  | none =>
    unfold getE at hg
    rw [List.find?_eq_none] at hg
    exact absurd (by simp) (hg x h)
  | some y =>
    obtain ⟨h1, h2⟩ := getE_memT hg
    rw [rising_one hr h1 h h2]
theorem want_zero {key : Int} {ls : List (List En)} (h : ∀ l ∈ ls, badL l = 0) : ls.foldl (wantStep key) 0 = 0 := by
  induction ls with
  | nil => rfl
  | cons l ls ih =>
    have e : wantStep key 0 l = 0 := by
      rw [wantStep]
      cases hg : getE l key with
      | none => rfl
      | some x =>
        have := bad_allT ((badL_good (h l (by simp))).all x (getE_memT hg).1)
        show (if x.a < 0 then x.a else 0) = 0
        rw [if_neg (by omega)]
    rw [List.foldl_cons, e]
    exact ih (fun x hx => h x (by simp [hx]))
theorem want_mark {key : Int} {ls : List (List En)} (h : ∀ l ∈ ls, badL l = 0) (m : Int) : ls.foldl (wantStep key) m = markFrom key m ls := by
  induction ls generalizing m with
  | nil => rfl
  | cons l ls ih =>
    rw [List.foldl_cons, markFrom]
    cases hg : getE l key with
    | none =>
      rw [wantStep, hg]
      exact want_zero (fun x hx => h x (by simp [hx]))
    | some x =>
      rw [wantStep, hg]
      exact ih (fun x hx => h x (by simp [hx])) _
theorem mark_fine {ls : List (List En)} {key : Int} (hb : badLs ls = 0) (hk : isKeyB key = true) : tombMark ls key = (wantE key ls, 0) := by
  rw [tombMark, if_neg (by simpa using hb), if_neg (by rw [hk]; simp), wantE, want_mark (badLs_good hb).all]
theorem mark_bad {ls : List (List En)} {key n : Int} (hb : badLs ls = n) (hn : n ≠ 0) : tombMark ls key = (0, n) := by
  rw [tombMark, if_pos (by rw [hb]; exact hn), hb]
theorem mark_key {ls : List (List En)} {key : Int} (hb : badLs ls = 0) (hk : isKeyB key = false) : tombMark ls key = (0, 1) := by
  rw [tombMark, if_neg (by simpa using hb), if_pos hk]

/-- does a row have a key that is gone from a version on? -/
def hasG (k ver : Int) (l : List En) : Bool := (getE l k).isSome && (hadE (getE l k)).g && ((hadE (getE l k)).v == ver)
def okUpto (ls : List (List En)) (k : Int) (i : Nat) : Bool := ((getE (ls.headD []) k).isSome && (hadE (getE (ls.headD []) k)).g) && ((ls.take i).drop 1).all (hasG k (hadE (getE (ls.headD []) k)).v)
theorem okUpto_one (ls : List (List En)) (k : Int) : okUpto ls k 1 = ((getE (ls.headD []) k).isSome && (hadE (getE (ls.headD []) k)).g) := by
  have : (ls.take 1).drop 1 = [] := by cases ls <;> simp
  rw [okUpto, this]
  simp
theorem okUpto_step {ls : List (List En)} {k : Int} {i : Nat} (h1 : 1 ≤ i) (h : i < ls.length) : okUpto ls k (i + 1) = (okUpto ls k i && hasG k (hadE (getE (ls.headD []) k)).v ls[i]) := by
  have e : (ls.take (i + 1)).drop 1 = (ls.take i).drop 1 ++ [ls[i]] := by
    rw [List.take_succ_eq_append_getElem h, List.drop_append_of_le_length (by simp; omega)]
  rw [okUpto, e, List.all_append, okUpto]
  simp [Bool.and_assoc]
def okK (ls : List (List En)) (k : Int) : Bool := okUpto ls k ls.length
def safeK (ls : List (List En)) (n : Nat) : List Int := ((List.range n).filter (fun k => okK ls (k : Nat))).map (fun k => ((k : Nat) : Int))
theorem safeK_yes {ls : List (List En)} {n : Nat} (h : okK ls n = true) : safeK ls (n + 1) = safeK ls n ++ [(n : Int)] := by
  rw [safeK, List.range_succ, List.filter_append, List.map_append]
  simp [safeK, h]
theorem safeK_no {ls : List (List En)} {n : Nat} (h : okK ls n = false) : safeK ls (n + 1) = safeK ls n := by
  rw [safeK, List.range_succ, List.filter_append, List.map_append]
  simp [safeK, h]
theorem safeK_len (ls : List (List En)) (n : Nat) : (safeK ls n).length ≤ n := by
  rw [safeK, List.length_map]
  exact Nat.le_trans (List.length_filter_le _ _) (by simp)
theorem hasG_iff {l : List En} (hr : Rising l) {k ver : Int} : hasG k ver l = true ↔ knowsG l k ver = true := by
  rw [knows_iff]
  constructor
  · intro h
    cases hg : getE l k with
    | none => rw [hasG, hg] at h; cases h
    | some y =>
      rw [hasG, hg] at h
      simp [hadE] at h
      exact ⟨y, (getE_memT hg).1, (getE_memT hg).2, h.1, h.2⟩
  · rintro ⟨y, hy, rfl, hg, rfl⟩
    rw [hasG, getE_ofT hr hy]
    simp [hadE, hg]
theorem ext_lt {a b : List Int} (ha : a.Pairwise (· < ·)) (hb : b.Pairwise (· < ·)) (h : ∀ x, x ∈ a ↔ x ∈ b) : a = b := by
  induction a generalizing b with
  | nil =>
    cases b with
    | nil => rfl
    | cons y b => exact absurd ((h y).2 (by simp)) (by simp)
  | cons x a ih =>
    cases b with
    | nil => exact absurd ((h x).1 (by simp)) (by simp)
    | cons y b =>
      have ha' := List.pairwise_cons.1 ha
      have hb' := List.pairwise_cons.1 hb
      have hxy : x = y := by
        rcases List.mem_cons.1 ((h x).1 (by simp)) with e | e
        · exact e
        · rcases List.mem_cons.1 ((h y).2 (by simp)) with e' | e'
          · exact e'.symm
          · have := ha'.1 y e'
            have := hb'.1 x e
            omega
      subst hxy
      rw [ih ha'.2 hb'.2 (fun z => ?_)]
      constructor
      · intro hz
        rcases List.mem_cons.1 ((h z).1 (by simp [hz])) with e | e
        · have := ha'.1 z hz; omega
        · exact e
      · intro hz
        rcases List.mem_cons.1 ((h z).2 (by simp [hz])) with e | e
        · have := hb'.1 z hz; omega
        · exact e
theorem okK_iff {ls : List (List En)} (hg : GoodLs ls) {k : Int} : okK ls k = true ↔ ∃ x ∈ ls.headD [], x.k = k ∧ allG ls x.k x.v = true := by
  have hall := hg.all
  have hpos := hg.pos
  cases ls with
  | nil => simp at hpos
  | cons l ls =>
    have hr : Rising l := (badL_good (hall l (by simp))).rise
    rw [okK, okUpto, List.take_length]
    show ((getE l k).isSome && (hadE (getE l k)).g && ls.all (hasG k (hadE (getE l k)).v)) = true ↔ ∃ x ∈ l, x.k = k ∧ allG (l :: ls) x.k x.v = true
    constructor
    · intro h
      cases hg : getE l k with
      | none => rw [hg] at h; cases h
      | some x =>
        rw [hg] at h
        simp only [hadE, Option.isSome_some, Bool.true_and, Bool.and_eq_true, List.all_eq_true] at h
        obtain ⟨hx, hk⟩ := getE_memT hg
        refine ⟨x, hx, hk, ?_⟩
        rw [allG, List.all_cons, Bool.and_eq_true, List.all_eq_true]
        refine ⟨by rw [knows_self hr hx]; exact h.1, fun m hm => ?_⟩
        rw [hk]
        exact (hasG_iff (badL_good (hall m (by simp [hm]))).rise).1 (h.2 m hm)
    · rintro ⟨x, hx, rfl, ha⟩
      rw [getE_ofT hr hx]
      rw [allG, List.all_cons, Bool.and_eq_true, List.all_eq_true] at ha
      simp only [hadE, Option.isSome_some, Bool.true_and, Bool.and_eq_true, List.all_eq_true]
      refine ⟨by rw [← knows_self hr hx]; exact ha.1, fun m hm => ?_⟩
      exact (hasG_iff (badL_good (hall m (by simp [hm]))).rise).2 (ha.2 m hm)
theorem safe_fine {ls : List (List En)} (hb : badLs ls = 0) : tombSafe ls = (safeK ls 8, 0) := by
  have hg := badLs_good hb
  rw [tombSafe, if_neg (by simpa using hb)]
  have hgl : GoodL (ls.headD []) := by
    have hpos := hg.pos
    cases ls with
    | nil => simp at hpos
    | cons l ls => exact badL_good (hg.all l (by simp))
  have e : safeFrom ls (ls.headD []) = safeK ls 8 := by
    refine ext_lt ?_ ?_ (fun k => ?_)
    · rw [safeFrom, List.pairwise_map]
      exact List.Pairwise.filter _ hgl.rise
    · rw [safeK, List.pairwise_map]
      refine List.Pairwise.filter _ ?_
      exact List.pairwise_lt_range.imp (fun h => by omega)
    · rw [safeFrom, safeK, List.mem_map, List.mem_map]
      constructor
      · rintro ⟨x, hx, rfl⟩
        rw [List.mem_filter] at hx
        have h2 := bad_allT (hgl.all x hx.1)
        refine ⟨x.k.toNat, List.mem_filter.2 ⟨List.mem_range.2 (by omega), ?_⟩, by omega⟩
        rw [show ((x.k.toNat : Nat) : Int) = x.k by omega]
        exact (okK_iff hg).2 ⟨x, hx.1, rfl, hx.2⟩
      · rintro ⟨n, hn, rfl⟩
        rw [List.mem_filter] at hn
        obtain ⟨x, hx, hk, ha⟩ := (okK_iff hg).1 hn.2
        exact ⟨x, List.mem_filter.2 ⟨hx, ha⟩, hk⟩
  rw [e]
theorem safe_bad {ls : List (List En)} {n : Int} (hb : badLs ls = n) (hn : n ≠ 0) : tombSafe ls = ([], n) := by
  rw [tombSafe, if_pos (by rw [hb]; exact hn), hb]
theorem sweep_fine {l : List En} {mark : Int} (hb : badL l = 0) (hm : markB mark = true) : tombSweep l mark = (keptL mark l, sweptL mark l, 0) := by
  rw [tombSweep, if_neg (by simpa using hb), if_neg (by rw [hm]; simp)]
theorem sweep_bad {l : List En} {mark n : Int} (hb : badL l = n) (hn : n ≠ 0) : tombSweep l mark = ([], [], n) := by
  rw [tombSweep, if_pos (by rw [hb]; exact hn), hb]
theorem sweep_mark {l : List En} {mark : Int} (hb : badL l = 0) (hm : markB mark = false) : tombSweep l mark = ([], [], 1) := by
  rw [tombSweep, if_neg (by simpa using hb), if_pos hm]
end Go.Proofs.YteamkhnmknjkfacDoor
