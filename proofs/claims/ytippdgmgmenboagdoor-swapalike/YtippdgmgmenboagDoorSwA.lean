/-
  What SwapAlike says of two caches behind a swap, on lists; Get and Both with letters.
-/
import Derived.Test.YtippdgmgmenboagDoorSwN
import Derived.Test.YtippdgmgmenboagDoorCaJ
namespace Go.Proofs.YtippdgmgmenboagDoor
set_option linter.unusedVariables false
set_option linter.unusedSimpArgs false
open Go.RowKit

theorem rowS_one {w : World} {b : Nat} (hbx : BoxAt w b 6 1 1 false ⟨#[120]⟩) : RowIs w (.slice (some ⟨b, 0, none⟩) 1 1) [oneE] := by
  refine ⟨by simp [maxLen], _, 1, rfl, fun _ => ⟨b, 0, rfl, hbx.lt, fun j hj => ?_⟩⟩
  obtain rfl : j = 0 := by simpa using hj
  exact ⟨hbx.c0, hbx.c1, hbx.c2, hbx.c3, hbx.c4⟩
theorem pair_of_one : pairW [oneE] [] = ([oneE], [oneE], 0) := by
  rw [pair_none one_good]
  have e : lackK [oneE] [] = [6] := part_one.1
  rw [e]
  rfl
/-- the law's first swap -/
theorem pairS_one {w : World} {b : Nat} (hbx : BoxAt w b 6 1 1 false ⟨#[120]⟩) (hT : Lib.TabIs Tryd.prog w powName .u64 Lib.pow10Tab) :
    Calls Tryd.prog 12 #[.slice (some ⟨b, 0, none⟩) 1 1, .slice none 0 0] w fun e w' => ∃ p c b' o' c', e = .returned (.tuple #[.slice p 1 c, .slice (some ⟨b', o', none⟩) 1 c', .nilIface]) ∧ w'.cell? ⟨b', o' + 4, none⟩ = some (.string ⟨#[120]⟩) ∧ Below w.heap.size w w' := by
  refine (pair_ok pair_of_one _ _ w (rowS_one hbx) (RowIs.nil _) hT).mono ?_
  rintro e w' ⟨v1, v2, rfl, h1, h2, hb⟩
  obtain ⟨p, c, rfl⟩ := h1.slice
  obtain ⟨_, q, c', rfl, hrow⟩ := h2
  obtain ⟨b', o', rfl, _, hc⟩ := hrow (by simp)
  have h4 := (hc 0 (by simp)).c4
  exact ⟨p, c, b', o', c', rfl, by simpa [oneE] using h4, hb⟩
/-- a swap that goes -/
structure Swapped (a b x y : List En) : Prop where
  ga : badL a = 0
  gb : badL b = 0
  gx : badL x = 0
  gy : badL y = 0
  part : lackK x y = [] ∧ partN (leafN x) (leafN y) 1 = 1
  more : pairW x y = (x, y, 0)
  on : ∀ q : Nat, (q : Int) ∈ lackK a b → ∃ u, getE x (q : Int) = some u ∧ getE y (q : Int) = some u ∧ ∀ z, cacheBoth a b = (z, 0) → badL z = 0 ∧ getE z (q : Int) = some u
  new : ∀ (k : Int) (u : En), getE a k = some u → ∃ v, getE x k = some v ∧ u.v ≤ v.v ∧ u.a ≤ v.a
theorem swapped_of {a b x y : List En} (h : pairW a b = (x, y, 0)) : Swapped a b x y := by
  obtain ⟨ha, hb, hx, hy⟩ := pairW_fine h
  have ga := badL_good ha
  have gb := badL_good hb
  have gx := (give_good ga gb hx).1
  have gy := (give_good gb ga hy).1
  have hp := swap_alike ga gb hx hy
  refine ⟨ha, hb, gx.bad, gy.bad, hp, ?_, fun q hq => ?_, fun k u hu => give_newer ga gb hx hu⟩
  · refine pairW_ok (bad2_both gx.bad gy.bad) ?_ ?_
    · rw [hp.1]
      exact give_none x y
    · rw [hp.1]
      exact give_none y x
  · have hc : (lackK a b).contains (q : Int) = true := by simpa using hq
    obtain ⟨q', hq', _, hu⟩ := lackK_mem hq
    have e : q' = q := by omega
    subst e
    have hs : getE a (q' : Int) ≠ none ∨ getE b (q' : Int) ≠ none := by
      rcases unlike_how ha hb hu with ⟨z, h1, _⟩ | ⟨z, _, h1⟩ | ⟨z, _, h1, _⟩
      · exact .inl (by rw [h1]; simp)
      · exact .inr (by rw [h1]; simp)
      · exact .inl (by rw [h1]; simp)
    obtain ⟨u, hu⟩ := give_some ga gb hx hc hs
    refine ⟨u, hu, (give_on ga gb hx hy hc).symm.trans hu, fun z hz => ?_⟩
    exact ⟨(both_good hz).2.2.1.bad, (give_both ga gb hx hz hc).trans hu⟩

/-- Get of a key that is there -/
theorem getS_some {l : List En} {q : Nat} {x0 x1 x2 : Int} {x3 : Bool} {x4 : ByteArray} (hb : badL l = 0) (hq : q < 8) (h : getE l (q : Int) = some ⟨x0, x1, x2, x3, x4⟩) (v : Value) (w : World) (hr : RowIs w v l) :
    Calls Tryd.prog 21 #[v, .int .i64 (q : Nat)] w fun e w' => e = .returned (.tuple #[.agg #[.int .i64 x0, .int .i64 x1, .int .i64 x2, .bool x3, .string x4], .nilIface]) ∧ Below w.heap.size w w' := by
  have hk : isKeyB (q : Int) = true := by
    simp [isKeyB]
    omega
  have c := get_c v l (q : Int) w hr
  rw [cacheGet, if_neg (by simpa using hb), if_neg (by simp [hk]), h] at c
  exact c
theorem getS_none {l : List En} {q : Nat} (hb : badL l = 0) (hq : q < 8) (h : getE l (q : Int) = none) (v : Value) (w : World) (hr : RowIs w v l) :
    Calls Tryd.prog 21 #[v, .int .i64 (q : Nat)] w fun e w' => e = .returned (.tuple #[.agg #[.int .i64 0, .int .i64 0, .int .i64 0, .bool false, .string ⟨#[]⟩], .iface 55 (.int .i64 5)]) ∧ Below w.heap.size w w' := by
  have hk : isKeyB (q : Int) = true := by
    simp [isKeyB]
    omega
  have c := get_c v l (q : Int) w hr
  rw [cacheGet, if_neg (by simpa using hb), if_neg (by simp [hk]), h] at c
  exact c
/-- what Get answers of a right cache, with letters -/
theorem getS_e (v : Value) (l : List En) (q : Nat) (hb : badL l = 0) (hq : q < 8) : ∃ (x0 x1 x2 : Int) (x3 : Bool) (x4 : ByteArray) (EV : Value),
    (∀ w, RowIs w v l → Calls Tryd.prog 21 #[v, .int .i64 (q : Nat)] w fun e w' => e = .returned (.tuple #[.agg #[.int .i64 x0, .int .i64 x1, .int .i64 x2, .bool x3, .string x4], EV]) ∧ Below w.heap.size w w') ∧
    ((EV = .nilIface ∧ getE l (q : Int) = some ⟨x0, x1, x2, x3, x4⟩) ∨ (EV = .iface 55 (.int .i64 5) ∧ getE l (q : Int) = none)) := by
  cases hg : getE l (q : Int) with
  | none => exact ⟨_, _, _, _, _, _, fun w hr => getS_none hb hq hg v w hr, .inr ⟨rfl, rfl⟩⟩
  | some x =>
    obtain ⟨x0, x1, x2, x3, x4⟩ := x
    exact ⟨x0, x1, x2, x3, x4, _, fun w hr => getS_some hb hq hg v w hr, .inl ⟨rfl, rfl⟩⟩
theorem OwnI.at {B : Nat} {w : World} {p : Option Addr} {n cap : Nat} {l : List Int} (h : OwnI B w (.slice p n cap) l) (j : Nat) (hj : j < l.length) : ∃ b, p = some ⟨b, 0, none⟩ ∧ b < w.heap.size ∧ w.cell? ⟨b, j, none⟩ = some (.int .i64 l[j]) := by
  rcases h.2 with ⟨_, h0⟩ | ⟨g, cap', cur, hv, _, hg, _⟩
  · omega
  · obtain ⟨rfl, _, _⟩ : p = some ⟨g, 0, none⟩ ∧ n = l.length ∧ cap = cap' := by simpa using hv
    refine ⟨g, rfl, (Array.getElem?_eq_some_iff.1 hg).1, ?_⟩
    have := h.cells (g := g) rfl j (.int .i64 l[j]) (by simp [intC, List.getElem?_map, hj])
    simpa [Addr.add_lit] using this
theorem diffS_ok (va vb : Value) (a b : List En) (w : World) (hra : RowIs w va a) (hrb : RowIs w vb b) (h : badL a = 0) (h' : badL b = 0) (hp : lackK a b = [] ∧ partN (leafN a) (leafN b) 1 = 1) (hT : Lib.TabIs Tryd.prog w powName .u64 Lib.pow10Tab) :
    Calls Tryd.prog 19 #[va, vb] w fun e w' => ∃ p c, e = .returned (.tuple #[.slice p 0 c, .int .i64 1, .nilIface]) ∧ Below w.heap.size w w' := by
  have c := diff_ok va vb a b w hra hrb h h' hT
  have e0 : partK (leafN a) (leafN b) 1 = [] := hp.1
  rw [e0, hp.2] at c
  refine c.mono ?_
  rintro e w' ⟨v', rfl, ho, hb⟩
  obtain ⟨p, cap, rfl⟩ := ho.row
  exact ⟨p, cap, rfl, hb⟩
/-- the two caches and what both know, as they are carried -/
structure Rows3 (w : World) (vx vy vz : Value) (x y z : List En) : Prop where
  x : RowIs w vx x
  y : RowIs w vy y
  z : RowIs w vz z
theorem Rows3.below {w w' : World} {vx vy vz : Value} {x y z : List En} (h : Rows3 w vx vy vz x y z) (hb : Below w.heap.size w w') : Rows3 w' vx vy vz x y z := ⟨h.x.below hb, h.y.below hb, h.z.below hb⟩
end Go.Proofs.YtippdgmgmenboagDoor
