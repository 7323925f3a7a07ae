/-
  What calls by which all know all do to the caches of a mesh, on lists.
-/
import Derived.Test.YtpcnfoaoajfhlaaDoorTqbj
import Derived.Test.YtpcnfoaoajfhlaaDoorTqae
namespace Go.Proofs.YtpcnfoaoajfhlaaDoor
set_option linter.unusedVariables false
set_option linter.unusedSimpArgs false
set_option linter.unusedVariables false
set_option linter.unusedSimpArgs false
open Go.RowKit

/-- of which version a key is -/
def vO (x : Option En) : Int := match x with
  | none => -1
  | some x => x.v
def vN (c : List En) (k : Int) : Int := vO (getE c k)
theorem vN_pos {l : List Deed} {c : List En} {k : Int} {x : En} (hc : GoodC l c) (h : getE c k = some x) : 0 ≤ x.v := (hc.was x ((getE_iff hc.good.rise).1 h).1).span.1
theorem vO_known {a b r : Option En} (h : KnownAt a b r) (ha : -1 ≤ vO a) (hb : -1 ≤ vO b) : vO r = max (vO a) (vO b) := by
  cases a with
  | none =>
    cases b with
    | none => simp only [KnownAt] at h; rw [h]; simp [vO]
    | some b => simp only [KnownAt] at h; rw [h]; simp [vO] at *; omega
  | some a =>
    cases b with
    | none => simp only [KnownAt] at h; rw [h]; simp [vO] at *; omega
    | some b =>
      simp only [KnownAt] at h
      obtain ⟨c, rfl, _, h⟩ := h
      simp only [vO] at *
      rcases h with ⟨h1, _, _, _, rfl⟩ | ⟨h1, _, _, _, rfl⟩ | ⟨h1, _, rfl⟩ | ⟨h1, _, rfl⟩ <;> omega
theorem vN_low {l : List Deed} {c : List En} (hc : GoodC l c) (k : Int) : -1 ≤ vN c k := by
  unfold vN
  cases h : getE c k with
  | none => simp [vO]
  | some x => have := vN_pos hc h; simp only [vO]; omega
/-- behind a swap both have the newer one of each key, where the keys that are not told are alike -/
theorem vN_swap {l : List Deed} {a b x y : List En} (hp : pairW a b = (x, y, 0)) (ha : GoodC l a) (hb : GoodC l b) {q : Nat} (he : (q : Int) ∉ lackK a b → vN a q = vN b q) :
    vN x q = max (vN a q) (vN b q) ∧ vN y q = max (vN a q) (vN b q) := by
  obtain ⟨_, _, hx, hy⟩ := pairW_fine hp
  have h1 := (give_good ha.good hb.good hx).2 q
  have h2 := (give_good hb.good ha.good hy).2 q
  by_cases hk : (lackK a b).contains (q : Int) = true
  · rw [if_pos hk] at h1 h2
    exact ⟨vO_known h1 (vN_low ha _) (vN_low hb _), (vO_known h2 (vN_low hb _) (vN_low ha _)).trans (Int.max_comm _ _)⟩
  · have e := he (fun h => hk (by simpa using h))
    rw [if_neg hk] at h1 h2
    have e1 := known_none h1
    have e2 := known_none h2
    have e1' : vN x q = vN a q := by unfold vN; rw [e1]
    have e2' : vN y q = vN b q := by unfold vN; rw [e2]
    omega
/-- what each node's cache has behind calls, against what all had -/
structure VkI (n : Nat) (o : Nat → Nat → Int) (s : List Nat) (cs : List (List En)) : Prop where
  len : cs.length = n
  sl : s.length = n
  up : ∀ i, i < n → ∀ q : Nat, q < 8 → ∀ j, j < n → (s.getD i 0).testBit j = true → o j q ≤ vN (cs.getD i []) q
  at_ : ∀ i, i < n → ∀ q : Nat, q < 8 → ∃ j, j < n ∧ (s.getD i 0).testBit j = true ∧ vN (cs.getD i []) q = o j q
theorem ownG_at {n i : Nat} (h : i < n) : (ownG n).getD i 0 = 2 ^ i := by
  rw [List.getD_eq_getElem?_getD, ownG, List.getElem?_map, List.getElem?_range h]
  rfl
theorem vkI_own {n : Nat} {cs : List (List En)} (h : cs.length = n) : VkI n (fun j q => vN (cs.getD j []) q) (ownG n) cs := by
  refine ⟨h, ownG_len n, fun i hi q hq j hj hb => ?_, fun i hi q hq => ⟨i, hi, ?_, rfl⟩⟩
  · rw [ownG_at hi, Nat.testBit_two_pow] at hb
    have : i = j := by simpa using hb
    subst this
    exact Int.le_refl _
  · rw [ownG_at hi, Nat.testBit_two_pow]
    simp
theorem getD_setC {cs : List (List En)} {i : Nat} (x : List En) (h : i < cs.length) : (cs.set i x).getD i [] = x := by
  rw [List.getD_eq_getElem?_getD, List.getElem?_set_self h]
  rfl
theorem getD_setD {cs : List (List En)} {i j : Nat} (x : List En) (h : i ≠ j) : (cs.set j x).getD i [] = cs.getD i [] := by
  rw [List.getD_eq_getElem?_getD, List.getElem?_set_ne (Ne.symm h), ← List.getD_eq_getElem?_getD]
theorem VkI.step {n : Nat} {o : Nat → Nat → Int} {s : List Nat} {cs : List (List En)} (h : VkI n o s cs) {a b : Nat} (ha : a < n) (hb : b < n) (hab : a ≠ b) {x y : List En}
    (hx : ∀ q : Nat, q < 8 → vN x q = max (vN (cs.getD a []) q) (vN (cs.getD b []) q) ∧ vN y q = max (vN (cs.getD a []) q) (vN (cs.getD b []) q)) :
    VkI n o (stepG s (a, b)) ((cs.set a x).set b y) := by
  have la : a < cs.length := by rw [h.len]; exact ha
  have lb : b < (cs.set a x).length := by rw [List.length_set, h.len]; exact hb
  have sa : (stepG s (a, b)).getD a 0 = s.getD a 0 ||| s.getD b 0 := stepG_one (c := (a, b)) (by rw [h.sl]; exact ha) hab
  have sb : (stepG s (a, b)).getD b 0 = s.getD a 0 ||| s.getD b 0 := stepG_two (c := (a, b)) (by rw [h.sl]; exact hb)
  have ga : ((cs.set a x).set b y).getD a [] = x := by rw [getD_setD _ hab, getD_setC _ la]
  have gb : ((cs.set a x).set b y).getD b [] = y := getD_setC _ lb
  have up1 : ∀ q : Nat, q < 8 → ∀ j, j < n → ((s.getD a 0) ||| (s.getD b 0)).testBit j = true → o j q ≤ max (vN (cs.getD a []) q) (vN (cs.getD b []) q) := by
    intro q hq j hj hbit
    rw [Nat.testBit_or, Bool.or_eq_true] at hbit
    rcases hbit with h1 | h1
    · have := h.up a ha q hq j hj h1; omega
    · have := h.up b hb q hq j hj h1; omega
  have at1 : ∀ q : Nat, q < 8 → ∃ j, j < n ∧ ((s.getD a 0) ||| (s.getD b 0)).testBit j = true ∧ max (vN (cs.getD a []) q) (vN (cs.getD b []) q) = o j q := by
    intro q hq
    obtain ⟨j, hj, h1, h2⟩ := h.at_ a ha q hq
    obtain ⟨k, hk, h3, h4⟩ := h.at_ b hb q hq
    by_cases hm : vN (cs.getD a []) q ≤ vN (cs.getD b []) q
    · exact ⟨k, hk, by rw [Nat.testBit_or, h3, Bool.or_true], by omega⟩
    · exact ⟨j, hj, by rw [Nat.testBit_or, h1, Bool.true_or], by omega⟩
  refine ⟨by rw [List.length_set, List.length_set, h.len], by rw [stepG_len, h.sl], fun i hi q hq j hj hbit => ?_, fun i hi q hq => ?_⟩
  · by_cases e1 : i = a
    · subst e1
      rw [sa] at hbit
      rw [ga, (hx q hq).1]
      exact up1 q hq j hj hbit
    · by_cases e2 : i = b
      · subst e2
        rw [sb] at hbit
        rw [gb, (hx q hq).2]
        exact up1 q hq j hj hbit
      · rw [stepG_other (c := (a, b)) e1 e2] at hbit
        rw [getD_setD _ e2, getD_setD _ e1]
        exact h.up i hi q hq j hj hbit
  · by_cases e1 : i = a
    · subst e1
      rw [sa, ga, (hx q hq).1]
      exact at1 q hq
    · by_cases e2 : i = b
      · subst e2
        rw [sb, gb, (hx q hq).2]
        exact at1 q hq
      · rw [stepG_other (c := (a, b)) e1 e2, getD_setD _ e2, getD_setD _ e1]
        exact h.at_ i hi q hq
/-- the newest of each key among some entries -/
structure NwI (es : List En) (o : Nat → Int) : Prop where
  up : ∀ x ∈ es, ∀ q : Nat, x.k = (q : Int) → x.v ≤ o q
  pos : ∀ q, 0 ≤ o q
  at_ : ∀ q : Nat, 0 < o q → ∃ x ∈ es, x.k = (q : Int) ∧ x.v = o q
theorem nwI_nil : NwI [] (fun _ => 0) := ⟨fun x hx => absurd hx (by simp), fun _ => Int.le_refl _, fun q hq => absurd hq (by omega)⟩
theorem NwI.less {es : List En} {o : Nat → Int} (h : NwI es o) {x : En} {k : Nat} (hk : x.k = (k : Int)) (hv : x.v ≤ o k) : NwI (es ++ [x]) o := by
  refine ⟨fun y hy q hq => ?_, h.pos, fun q hq => ?_⟩
  · rcases List.mem_append.1 hy with h1 | h1
    · exact h.up y h1 q hq
    · obtain rfl : y = x := by simpa using h1
      obtain rfl : k = q := by omega
      exact hv
  · obtain ⟨y, hy, h1⟩ := h.at_ q hq
    exact ⟨y, List.mem_append.2 (.inl hy), h1⟩
theorem NwI.more {es : List En} {o o' : Nat → Int} (h : NwI es o) {x : En} {k : Nat} (hk : x.k = (k : Int)) (hv : o k < x.v) (h1 : o' k = x.v) (h2 : ∀ q, q ≠ k → o' q = o q) : NwI (es ++ [x]) o' := by
  refine ⟨fun y hy q hq => ?_, fun q => ?_, fun q hq => ?_⟩
  · rcases List.mem_append.1 hy with h3 | h3
    · by_cases e : q = k
      · subst e
        have := h.up y h3 q hq
        omega
      · rw [h2 q e]
        exact h.up y h3 q hq
    · obtain rfl : y = x := by simpa using h3
      obtain rfl : k = q := by omega
      omega
  · by_cases e : q = k
    · subst e
      have := h.pos q
      omega
    · rw [h2 q e]
      exact h.pos q
  · by_cases e : q = k
    · subst e
      exact ⟨x, by simp, hk, h1.symm⟩
    · rw [h2 q e] at hq ⊢
      obtain ⟨y, hy, h3⟩ := h.at_ q hq
      exact ⟨y, List.mem_append.2 (.inl hy), h3⟩
theorem vN_mem {l : List Deed} {c : List En} {x : En} (hc : GoodC l c) (h : x ∈ c) : vN c x.k = x.v := by
  unfold vN
  rw [(getE_iff hc.good.rise).2 ⟨h, rfl⟩]
  rfl
theorem mem_getD {cs : List (List En)} {c : List En} (h : c ∈ cs) : ∃ i, i < cs.length ∧ cs.getD i [] = c := by
  obtain ⟨i, hi, rfl⟩ := List.mem_iff_getElem.1 h
  exact ⟨i, hi, by rw [List.getD_eq_getElem?_getD, List.getElem?_eq_getElem hi]; rfl⟩
theorem GoodM.atD {l : List Deed} {cs : List (List En)} (h : GoodM l cs) (i : Nat) : GoodC l (cs.getD i []) := by
  have := h.at (i : Int)
  unfold cacheN at this
  simpa using this
/-- two entries of what was so, of the same key and the same version -/
theorem was_same {l : List Deed} {x y : En} (hx : Was l x) (hy : Was l y) (hk : x.k = y.k) (hv : x.v = y.v) : x.g = y.g ∧ x.t = y.t := by
  obtain ⟨_, s, hs, ex⟩ := hx
  obtain ⟨_, q, hq, ey⟩ := hy
  have main : ∀ {k : Int} {s q : Nat}, q ≤ l.length → s ≤ q → (wasE l k s).v = (wasE l k q).v → (wasE l k s).g = (wasE l k q).g ∧ (wasE l k s).t = (wasE l k q).t := by
    intro k s q hq h hv
    obtain ⟨_, h1 | h1 | h1 | h1⟩ := was_known (l := l) k hq h
    · exact ⟨h1.2.1, h1.2.2.1⟩
    · exact ⟨h1.2.1, h1.2.2.1⟩
    · omega
    · omega
  rw [← hk] at ey
  by_cases h : s ≤ q
  · have h2 := main (k := x.k) hq h (by rw [← ex, ← ey]; exact hv)
    rw [← ex, ← ey] at h2
    exact h2
  · have h2 := main (k := x.k) hs (Nat.le_of_lt (Nat.lt_of_not_le h)) (by rw [← ex, ← ey]; exact hv.symm)
    rw [← ex, ← ey] at h2
    exact ⟨h2.1.symm, h2.2.symm⟩
/-- where each key is of the same version nothing is lacking -/
theorem vN_alike {l : List Deed} {a b : List En} (ha : GoodC l a) (hb : GoodC l b) (h : ∀ q : Nat, q < 8 → vN a q = vN b q) : lackK a b = [] := by
  rw [List.eq_nil_iff_forall_not_mem]
  intro k hk
  obtain ⟨q, rfl, hq, hn⟩ := lackK_mem hk
  apply hn
  have hv := h q hq
  unfold vN at hv
  cases h1 : getE a (q : Int) with
  | none =>
    cases h2 : getE b (q : Int) with
    | none => rw [leafN_none h1, leafN_none h2]
    | some y => have := vN_pos hb h2; rw [h1, h2] at hv; simp only [vO] at hv; omega
  | some x =>
    cases h2 : getE b (q : Int) with
    | none => have := vN_pos ha h1; rw [h1, h2] at hv; simp only [vO] at hv; omega
    | some y =>
      rw [h1, h2] at hv
      have hv' : x.v = y.v := hv
      obtain ⟨mx, kx⟩ := (getE_iff ha.good.rise).1 h1
      obtain ⟨my, ky⟩ := (getE_iff hb.good.rise).1 h2
      obtain ⟨hg, ht⟩ := was_same (ha.was x mx) (hb.was y my) (by rw [kx, ky]) hv'
      rw [leafN_some h1, leafN_some h2]
      unfold numE
      rw [kx, ky, hv', hg, ht]
/-- when all know all, all caches are alike -/
theorem vkI_end {n : Nat} {l l' : List Deed} {s : List Nat} {cs0 cs : List (List En)} {nw : Nat → Int} (h : VkI n (fun j q => vN (cs0.getD j []) q) s cs) (hd : doneG n s) (h0 : GoodM l cs0) (hG : GoodM l' cs) (hl0 : cs0.length = n) (hN : NwI cs0.flatten nw) (c : Nat) (hc : c < n) :
    lackK (cs.getD 0 []) (cs.getD c []) = [] ∧ ∀ q : Nat, q < 8 → 0 < nw q → ∃ x, getE (cs.getD c []) (q : Int) = some x ∧ x.v = nw q := by
  have full : ∀ i, i < n → ∀ j, j < n → (s.getD i 0).testBit j = true := by
    intro i hi j hj
    rw [hd i hi, fullG, Nat.testBit_two_pow_sub_one]
    simpa using hj
  have same : ∀ i, i < n → ∀ k, k < n → ∀ q : Nat, q < 8 → vN (cs.getD i []) q ≤ vN (cs.getD k []) q := by
    intro i hi k hk q hq
    obtain ⟨j, hj, _, e⟩ := h.at_ i hi q hq
    rw [e]
    exact h.up k hk q hq j hj (full k hk j hj)
  have hn : 0 < n := Nat.lt_of_le_of_lt (Nat.zero_le _) hc
  refine ⟨vN_alike (hG.atD 0) (hG.atD c) (fun q hq => Int.le_antisymm (same 0 hn c hc q hq) (same c hc 0 hn q hq)), fun q hq hp => ?_⟩
  obtain ⟨x, hx, hk, hv⟩ := hN.at_ q hp
  obtain ⟨d, hd1, hd2⟩ := List.mem_flatten.1 hx
  obtain ⟨j, hj, ej⟩ := mem_getD hd1
  have e1 : vN (cs0.getD j []) q = nw q := by
    have gd := h0.atD j
    rw [ej] at gd ⊢
    rw [← hk, vN_mem gd hd2, hv]
  have e2 : nw q ≤ vN (cs.getD c []) q := by
    rw [← e1]
    exact h.up c hc q hq j (by omega) (full c hc j (by omega))
  have e3 : vN (cs.getD c []) q ≤ nw q := by
    obtain ⟨k, hk2, _, e⟩ := h.at_ c hc q hq
    rw [e]
    show vN (cs0.getD k []) q ≤ nw q
    unfold vN
    cases hg : getE (cs0.getD k []) (q : Int) with
    | none => have := hN.pos q; simp only [vO]; omega
    | some y =>
      obtain ⟨my, ky⟩ := (getE_iff (h0.atD k).good.rise).1 hg
      have hk3 : k < cs0.length := by omega
      refine hN.up y (List.mem_flatten.2 ⟨_, ?_, my⟩) q ky
      rw [List.getD_eq_getElem?_getD, List.getElem?_eq_getElem hk3]
      exact List.getElem_mem hk3
  unfold vN at e2 e3
  cases hg : getE (cs.getD c []) (q : Int) with
  | none => rw [hg] at e2; simp only [vO] at e2; omega
  | some y => rw [hg] at e2 e3; exact ⟨y, rfl, Int.le_antisymm e3 e2⟩
end Go.Proofs.YtpcnfoaoajfhlaaDoor
