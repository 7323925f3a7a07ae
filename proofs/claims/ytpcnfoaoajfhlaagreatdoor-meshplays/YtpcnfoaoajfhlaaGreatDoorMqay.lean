/-
  One row of numbers appended to another one; where two trees part, on lists.
  What TreeParts says of two trees, on lists.
  A swap on lists: which keys may be asked for, what each gives, what both have then, and that their trees part no more.
-/
import Derived.Test.YtpcnfoaoajfhlaaGreatDoorMqax
import Derived.Test.YtpcnfoaoajfhlaaGreatDoorMqal
import Derived.Laws.AppendOwnNone
import Derived.Test.YtpcnfoaoajfhlaaGreatDoorMqau
import Derived.Test.YtpcnfoaoajfhlaaGreatDoorMqav
namespace Go.Proofs.YtpcnfoaoajfhlaaGreatDoor
set_option linter.unusedVariables false
set_option linter.unusedSimpArgs false
set_option linter.unusedVariables false
set_option linter.unusedSimpArgs false
open Go.RowKit

theorem ptK_len (P : Nat → Nat → Nat) (f g : Nat → Nat) : ∀ d i, (ptK P f g d i).length ≤ 2 ^ d := by
  intro d
  induction d with
  | zero => intro i; unfold ptK; split <;> simp
  | succ d ih =>
    intro i
    unfold ptK
    split
    · simp
    · rw [List.length_append, Nat.pow_succ]
      have h1 := ih (2 * i)
      have h2 := ih (2 * i + 1)
      omega
theorem ptN_len (P : Nat → Nat → Nat) (f g : Nat → Nat) : ∀ d i, ptN P f g d i + 1 ≤ 2 ^ (d + 1) := by
  intro d
  induction d with
  | zero => intro i; exact Nat.le_refl _
  | succ d ih =>
    intro i
    have h1 := ih (2 * i)
    have h2 := ih (2 * i + 1)
    have e : 2 ^ (d + 1 + 1) = 2 ^ (d + 1) + 2 ^ (d + 1) := by rw [Nat.pow_succ 2 (d + 1)]; omega
    unfold ptN
    split
    · omega
    · omega
/-- the keys where two part, as numbers -/
def partK (f g : Nat → Nat) (i : Nat) : List Int := (ptK pairH f g (dep i) i).map (fun k : Nat => (k : Int))
def partN (f g : Nat → Nat) (i : Nat) : Nat := ptN pairH f g (dep i) i
theorem dep_le (i : Nat) : dep i ≤ 3 := by
  unfold dep
  split
  · omega
  · split
    · omega
    · split <;> omega
theorem partK_len (f g : Nat → Nat) (i : Nat) : (partK f g i).length ≤ 8 := by
  rw [partK, List.length_map]
  refine Nat.le_trans (ptK_len _ _ _ _ _) ?_
  exact Nat.le_trans (Nat.pow_le_pow_right (by omega) (dep_le i)) (by omega)
theorem partN_len (f g : Nat → Nat) (i : Nat) : partN f g i ≤ 15 := by
  have h := ptN_len pairH f g (dep i) i
  have h2 : 2 ^ (dep i + 1) ≤ 2 ^ 4 := Nat.pow_le_pow_right (by omega) (by have := dep_le i; omega)
  unfold partN
  omega
theorem part_alike {f g : Nat → Nat} {i : Nat} (h : trN f i = trN g i) : partK f g i = [] ∧ partN f g i = 1 := by
  refine ⟨?_, ptN_alike h⟩
  rw [partK, ptK_alike h]
  rfl
theorem part_end {f g : Nat → Nat} {i : Nat} (h8 : 8 ≤ i) (h : trN f i ≠ trN g i) : partK f g i = [((i - 8 : Nat) : Int)] ∧ partN f g i = 1 := by
  rw [trN_end f h8, trN_end g h8] at h
  unfold partK partN
  rw [dep_end h8, ptK, if_neg h]
  exact ⟨rfl, rfl⟩
theorem part_two {f g : Nat → Nat} {i : Nat} (h0 : 1 ≤ i) (h8 : i < 8) (h : trN f i ≠ trN g i) : partK f g i = partK f g (2 * i) ++ partK f g (2 * i + 1) ∧ partN f g i = partN f g (2 * i) + partN f g (2 * i + 1) + 1 := by
  obtain ⟨h1, h2⟩ := dep_two h0 h8
  unfold trN at h
  rw [h1] at h
  unfold partK partN
  rw [h2, h1, ptK, if_neg h, ptN, if_neg h, List.map_append]
  exact ⟨rfl, rfl⟩

/-- a row of numbers of the call's own -/
def OwnI (B : Nat) (w : World) (v : Value) (l : List Int) : Prop := w.ownsRow B 3 1 v l.length (intC l)
theorem OwnI.nil (B : Nat) (w : World) : OwnI B w (.slice none 0 0) [] := World.ownsRow_nil w B _ 1
theorem OwnI.one {B : Nat} {w : World} {b : Nat} {x : Int} (hB : B ≤ b) (h : w.heap[b]? = some (.cells #[.int .i64 x] 3 (0, 0))) : OwnI B w (.slice (some ⟨b, 0, none⟩) 1 1) [x] :=
  ⟨rfl, .inr ⟨b, 1, _, rfl, hB, h, Nat.le_refl _, by unfold maxLen; omega, rfl, rfl⟩⟩
theorem OwnI.base {B B' : Nat} {w : World} {v : Value} {l : List Int} (h : OwnI B w v l) (hB : B' ≤ B) : OwnI B' w v l := by
  refine ⟨h.1, ?_⟩
  rcases h.2 with hn | ⟨g, cap, cur, rfl, h1, rest⟩
  · exact .inl hn
  · exact .inr ⟨g, cap, cur, rfl, Nat.le_trans hB h1, rest⟩
theorem OwnI.blocks {B : Nat} {w w' : World} {v : Value} {l : List Int} (h : OwnI B w v l) (hb : ∀ c, v.ownBlock = some c → c < w.heap.size → w'.heap[c]? = w.heap[c]?) : OwnI B w' v l := by
  refine ⟨h.1, ?_⟩
  rcases h.2 with hn | ⟨g, cap, cur, rfl, h1, hg, rest⟩
  · exact .inl hn
  · exact .inr ⟨g, cap, cur, rfl, h1, (hb g rfl (Array.getElem?_eq_some_iff.1 hg).1).trans hg, rest⟩
theorem OwnI.below {B : Nat} {w w' : World} {v : Value} {l : List Int} (h : OwnI B w v l) (hb : Below w.heap.size w w') : OwnI B w' v l := h.blocks fun c _ hc => hb.block c hc
theorem OwnI.ints {B : Nat} {w : World} {v : Value} {l : List Int} (h : OwnI B w v l) : IntsIs w v l := IntsIs.own h
theorem OwnI.from {B : Nat} {w : World} {v : Value} {l : List Int} (h : OwnI B w v l) (c : Nat) (hc : v.ownBlock = some c) : B ≤ c := ownsRow_fromF h c hc

/-- two rows of unlike types, of which one grows -/
theorem own_beside {w w' : World} {B : Nat} {e1 e2 : TypeId} {s1 s2 : Nat} {v1 v2 : Value} {n1 n2 : Nat} {xs1 xs2 : List Value} (h1 : w.ownsRow B e1 s1 v1 n1 xs1) (h2 : w.ownsRow B e2 s2 v2 n2 xs2) (hne : e1 ≠ e2) (hg : w.grownBy w' v2.ownBlock) : w'.ownsRow B e1 s1 v1 n1 xs1 := by
  refine ⟨h1.1, ?_⟩
  rcases h1.2 with hn | ⟨g, cap, cur, rfl, hB, hg1, rest⟩
  · exact .inl hn
  · refine .inr ⟨g, cap, cur, rfl, hB, (hg.block g (Array.getElem?_eq_some_iff.1 hg1).1 ?_).trans hg1, rest⟩
    intro hc
    rcases h2.2 with ⟨rfl, _⟩ | ⟨g', cap', cur', rfl, _, hg2, _⟩
    · cases hc
    · have e : g = g' := Option.some.inj hc
      subst e
      rw [hg1] at hg2
      simp at hg2
      exact hne hg2.2
theorem wp_appRow {ops : Array Oper} {rest : List Oper} {o : Oper} {ac : Act} {Q : Exit → Act → World → Prop} (w : World) (hgd : o.guard = none) (s x : Operand)
    (ho : o.op = .call { callee := .builtin .append, args := #[s, x], argTypes := #[39, 39] }) (B : Nat) (v : Value) (out : List Int) (hs : ac.eval s = v)
    (hown : OwnI B w v out) (B2 : Nat) (u : Value) (more : List Int) (hx : ac.eval x = u) (hm : OwnI B2 w u more) (hl : out.length + more.length ≤ 100) (hB : B ≤ w.heap.size)
    (h : ∀ v' w', OwnI B w' v' (out ++ more) → Hid (w.grownBy w' v.ownBlock) → wpList Tryz.prog ops Q rest (ac.put o.dst v') w') : wpList Tryz.prog ops Q (o :: rest) ac w := by
  obtain ⟨i0, hi0, hz0, hz1, hz2⟩ := info_parts infoInt
  rcases hm.2 with ⟨rfl, h0⟩ | ⟨g, cap, cur, rfl, _, hg, hc1, hc2, hc3, hc4⟩
  · rw [List.length_eq_zero_iff.1 h0, List.append_nil] at h
    exact wpList_append_own_none hgd s x 39 ho B 3 i0 1 Tryz.underlying39 hi0 v out.length (intC out) hs hown hx (h v w hown ⟨rfl, rfl, rfl, Nat.le_refl _, fun _ _ _ => rfl⟩)
  · have q3 : ∀ u ∈ intC more, u.oneCell' = true := fun u hu => by
      obtain ⟨z, _, rfl⟩ := List.mem_map.1 hu
      rfl
    have q2 : ∀ (j : Nat) (u : Value), (intC more)[j]? = some u → w.cell? ((⟨g, 0, none⟩ : Addr).add j) = some u := fun j u hu => hm.cells (g := g) rfl j u hu
    refine wpList_append_own w hgd s x 39 ho B 3 i0 _ 1 8 Tryz.underlying39 hi0 hz0 hz1 hz2 rfl (by omega) v out.length (intC out) hs hown ⟨g, 0, none⟩ more.length cap (intC more) hx (by simp [intC]) q2 q3 (by unfold maxLen; omega) (by omega) hB ?_
    intro v' w' h1 h2 _
    refine h v' w' (show World.ownsRow _ _ _ _ _ _ _ from ?_) h2
    rw [intC_append, List.length_append]
    exact h1
end Go.Proofs.YtpcnfoaoajfhlaaGreatDoor

namespace Go.Proofs.YtpcnfoaoajfhlaaGreatDoor
set_option linter.unusedVariables false
set_option linter.unusedSimpArgs false
open Go.RowKit

theorem part_turn (f g : Nat → Nat) (i : Nat) : partK g f i = partK f g i ∧ partN g f i = partN f g i := by
  unfold partK partN
  rw [ptK_turn, ptN_turn]
  exact ⟨rfl, rfl⟩
theorem part_few (f g : Nat → Nat) : partN f g 1 ≤ 1 + 6 * (partK f g 1).length := by
  have h := ptN_few pairH f g 3 1
  unfold partN partK
  rw [List.length_map]
  exact h
theorem part_pos (f g : Nat → Nat) (i : Nat) : 1 ≤ partN f g i := ptN_pos _ _ _ _ _
theorem part_mem {f g : Nat → Nat} {k : Int} (h : k ∈ partK f g 1) : ∃ q : Nat, k = (q : Int) ∧ q < 8 ∧ f q ≠ g q := by
  obtain ⟨q, hq, rfl⟩ := List.mem_map.1 h
  obtain ⟨hu, hn⟩ := ptK_under pairH f g 3 1 q (by decide) hq
  have h2 : q + 8 < (1 + 1) * 2 ^ 3 := hu.2
  exact ⟨q, rfl, by omega, hn⟩
theorem part_rise (f g : Nat → Nat) : (partK f g 1).Pairwise (· < ·) := by
  unfold partK
  rw [List.pairwise_map]
  exact (ptK_rise pairH f g 3 1 (by decide)).imp (fun h => by omega)
theorem part_mended (f g h : Nat → Nat) (hh : ∀ q, q < 8 → h q = if (partK f g 1).contains (q : Int) = true then f q else g q) : trN h 1 = trN f 1 := by
  have hm : ∀ q : Nat, (partK f g 1).contains (q : Int) = true ↔ q ∈ ptK pairH f g 3 1 := fun q => by
    rw [List.contains_iff_mem]
    unfold partK
    rw [List.mem_map]
    constructor
    · rintro ⟨x, hx, hxq⟩
      have : x = q := by omega
      subst this
      exact hx
    · exact fun hq => ⟨q, hq, rfl⟩
  refine nd_mended pairH f g h 3 1 (by decide) (fun k hk => ?_)
  have h2 : k + 8 < (1 + 1) * 2 ^ 3 := hk.2
  have e := hh k (by omega)
  constructor
  · intro hx
    rw [if_pos ((hm k).2 hx)] at e
    exact e
  · intro hx
    rw [if_neg (fun hc => hx ((hm k).1 hc))] at e
    exact e

/-- the one entry of the law's first row -/
def oneE : En := ⟨6, 1, 1, false, ⟨#[120]⟩⟩
theorem one_good : badL [oneE] = 0 := by decide +kernel
theorem leaf_one : leafN [oneE] = oneF := by
  funext k
  unfold oneF
  by_cases h : k = 6
  · subst h
    rw [if_pos rfl]
    have e : getE [oneE] ((6 : Nat) : Int) = some oneE := rfl
    rw [leafN_some e]
    exact entH_eq 6 1 false ⟨#[120]⟩
  · rw [if_neg h]
    refine leafN_none ?_
    unfold getE
    rw [List.find?_cons_of_neg (by
      show ¬ (((6 : Int) == (k : Int)) = true)
      simp
      omega)]
    rfl
theorem leaf_nil : leafN [] = fun _ => 0 := by
  funext k
  rfl
theorem part_one : partK (leafN [oneE]) (leafN []) 1 = [6] ∧ partN (leafN [oneE]) (leafN []) 1 = 7 := by
  obtain ⟨h1, h2⟩ := one_part
  rw [leaf_one, leaf_nil]
  unfold partK partN
  rw [pairH_eq, show dep 1 = 3 from rfl, h1, h2]
  exact ⟨rfl, rfl⟩

/-- where two numbers are unlike, how the entries are -/
theorem unlike_how {a b : List En} (ha : badL a = 0) (hb : badL b = 0) {q : Nat} (h : leafN a q ≠ leafN b q) :
    (∃ x, getE a (q : Int) = some x ∧ getE b (q : Int) = none) ∨ (∃ y, getE a (q : Int) = none ∧ getE b (q : Int) = some y) ∨
    ∃ x y, getE a (q : Int) = some x ∧ getE b (q : Int) = some y ∧ (x.v ≠ y.v ∨ (x.v = y.v ∧ x.g ≠ y.g) ∨ (x.v = y.v ∧ x.g = y.g ∧ x.t ≠ y.t)) := by
  cases h1 : getE a (q : Int) with
  | none =>
    cases h2 : getE b (q : Int) with
    | none => exact absurd (by rw [leafN_none h1, leafN_none h2]) h
    | some y => exact .inr (.inl ⟨y, rfl, rfl⟩)
  | some x =>
    cases h2 : getE b (q : Int) with
    | none => exact .inl ⟨x, rfl, rfl⟩
    | some y =>
      refine .inr (.inr ⟨x, y, rfl, rfl, ?_⟩)
      obtain ⟨_, _, kx⟩ := getE_some (badL_good ha).rise h1
      obtain ⟨_, _, ky⟩ := getE_some (badL_good hb).rise h2
      by_cases e1 : x.v = y.v
      · by_cases e2 : x.g = y.g
        · by_cases e3 : x.t = y.t
          · refine absurd ?_ h
            rw [leafN_some h1, leafN_some h2, numE, numE, kx, ky, e1, e2, e3]
          · exact .inr (.inr ⟨e1, e2, e3⟩)
        · exact .inr (.inl ⟨e1, e2⟩)
      · exact .inl e1

/-- b's entries, but a's of some keys, below j -/
def mixU (a b : List En) (K : List Int) : Nat → List En
  | 0 => []
  | j + 1 => mixU a b K j ++ (match getE (if K.contains (j : Int) = true then a else b) (j : Int) with
    | none => []
    | some x => [x])
/-- where a key's entry is taken from -/
def fromU (a b : List En) (K : List Int) (j : Nat) : List En := if K.contains (j : Int) = true then a else b
theorem mixU_none {a b : List En} {K : List Int} {j : Nat} (h : getE (fromU a b K j) (j : Int) = none) : mixU a b K (j + 1) = mixU a b K j := by
  unfold fromU at h
  rw [mixU, h, List.append_nil]
theorem mixU_some {a b : List En} {K : List Int} {j : Nat} {x : En} (h : getE (fromU a b K j) (j : Int) = some x) : mixU a b K (j + 1) = mixU a b K j ++ [x] := by
  unfold fromU at h
  rw [mixU, h]
theorem fromU_good {a b : List En} {K : List Int} {j : Nat} (ha : badL a = 0) (hb : badL b = 0) : badL (fromU a b K j) = 0 := by
  unfold fromU
  split
  · exact ha
  · exact hb
theorem mixU_props {a b : List En} (K : List Int) (ha : badL a = 0) (hb : badL b = 0) : ∀ j, (mixU a b K j).length ≤ j ∧ Rising (mixU a b K j) ∧ (∀ e ∈ mixU a b K j, e.bad = 0 ∧ e.k < (j : Int)) ∧
    ∀ q : Nat, getE (mixU a b K j) (q : Int) = if q < j then getE (fromU a b K q) (q : Int) else none := by
  intro j
  induction j with
  | zero => exact ⟨Nat.le_refl _, List.Pairwise.nil, fun e he => (by cases he), fun q => rfl⟩
  | succ j ih =>
    obtain ⟨h1, h2, h3, h4⟩ := ih
    cases hg : getE (fromU a b K j) (j : Int) with
    | none =>
      rw [mixU_none hg]
      refine ⟨by omega, h2, fun e he => ⟨(h3 e he).1, by have := (h3 e he).2; omega⟩, fun q => ?_⟩
      rw [h4 q]
      by_cases e1 : q < j
      · rw [if_pos e1, if_pos (by omega)]
      · by_cases e2 : q = j
        · subst e2
          rw [if_neg e1, if_pos (by omega), hg]
        · rw [if_neg e1, if_neg (by omega)]
    | some x =>
      have G := badL_good (fromU_good (K := K) (j := j) ha hb)
      obtain ⟨hj, hx, hk⟩ := getE_some G.rise hg
      have hxb : x.bad = 0 := G.all x (by rw [← hx]; exact List.getElem_mem _)
      rw [mixU_some hg]
      refine ⟨by rw [List.length_append]; simp; omega, ?_, ?_, fun q => ?_⟩
      · unfold Rising
        rw [List.pairwise_append]
        refine ⟨h2, by simp, fun u hu v hv => ?_⟩
        rw [List.mem_singleton.1 hv, hk]
        exact (h3 u hu).2
      · intro e he
        rcases List.mem_append.1 he with he | he
        · exact ⟨(h3 e he).1, by have := (h3 e he).2; omega⟩
        · rw [List.mem_singleton.1 he]
          exact ⟨hxb, by rw [hk]; omega⟩
      · have e0 : getE (mixU a b K j ++ [x]) (q : Int) = (getE (mixU a b K j) (q : Int)).or (getE [x] (q : Int)) := by
          unfold getE
          exact List.find?_append
        rw [e0, h4 q]
        by_cases e1 : q < j
        · rw [if_pos e1, if_pos (by omega)]
          have e2 : getE [x] (q : Int) = none := by
            unfold getE
            rw [List.find?_cons_of_neg (by rw [hk]; simp; omega)]
            rfl
          rw [e2]
          cases getE (fromU a b K q) (q : Int) <;> rfl
        · by_cases e2 : q = j
          · subst e2
            rw [if_neg e1, if_pos (by omega), hg]
            have e3 : getE [x] (q : Int) = some x := by
              unfold getE
              exact List.find?_cons_of_pos (by rw [hk]; simp)
            rw [e3]
            rfl
          · rw [if_neg e1, if_neg (by omega)]
            have e3 : getE [x] (q : Int) = none := by
              unfold getE
              rw [List.find?_cons_of_neg (by rw [hk]; simp; omega)]
              rfl
            rw [e3]
            rfl
theorem mixU_good {a b : List En} (K : List Int) (ha : badL a = 0) (hb : badL b = 0) : badL (mixU a b K 8) = 0 := by
  obtain ⟨h1, h2, h3, _⟩ := mixU_props K ha hb 8
  exact GoodL.bad ⟨h1, fun e he => (h3 e he).1, h2⟩
theorem mixU_leaf {a b : List En} (K : List Int) (ha : badL a = 0) (hb : badL b = 0) (q : Nat) (hq : q < 8) : leafN (mixU a b K 8) q = if K.contains (q : Int) = true then leafN a q else leafN b q := by
  obtain ⟨_, _, _, h4⟩ := mixU_props K ha hb 8
  have h5 := h4 q
  rw [if_pos hq] at h5
  unfold leafN
  rw [h5]
  unfold fromU
  by_cases hc : K.contains (q : Int) = true
  · rw [if_pos hc, if_pos hc]
  · rw [if_neg hc, if_neg hc]
/-- with a's entries of the keys told they part no more -/
theorem mixU_alike {a b : List En} (ha : badL a = 0) (hb : badL b = 0) : partK (leafN a) (leafN (mixU a b (partK (leafN a) (leafN b) 1) 8)) 1 = [] :=
  (part_alike (part_mended (leafN a) (leafN b) _ (fun q hq => mixU_leaf _ ha hb q hq)).symm).1
end Go.Proofs.YtpcnfoaoajfhlaaGreatDoor

namespace Go.Proofs.YtpcnfoaoajfhlaaGreatDoor
set_option linter.unusedVariables false
set_option linter.unusedSimpArgs false
open Go.RowKit

/-- what is wrong with keys, behind such as were named -/
def badKF : List Int → List Int → Int
  | _, [] => 0
  | seen, k :: l => if isKeyB k = false then 1 else if seen.contains k = true then 7 else badKF (seen ++ [k]) l
/-- what is wrong with keys that are asked for -/
def badK (l : List Int) : Int := if 8 < l.length then 4 else badKF [] l
theorem badKF_step {l : List Int} {j : Nat} (h : j < l.length) : badKF (l.take j) (l.drop j) = if isKeyB l[j] = false then 1 else if (l.take j).contains l[j] = true then 7 else badKF (l.take (j + 1)) (l.drop (j + 1)) := by
  rw [List.drop_eq_getElem_cons h, badKF, List.take_succ_eq_append_getElem h]
theorem badK_full {l : List Int} (h : 8 < l.length) : badK l = 4 := by rw [badK, if_pos h]
theorem badK_else {l : List Int} (h : ¬ 8 < l.length) : badK l = badKF (l.take 0) (l.drop 0) := by rw [badK, if_neg h]; rfl
theorem badKF_range {l : List Int} {j : Nat} (h : j < l.length) (hr : isKeyB l[j] = false) : badKF (l.take j) (l.drop j) = 1 := by rw [badKF_step h, if_pos hr]
theorem badKF_clash {l : List Int} {j : Nat} (h : j < l.length) (hr : isKeyB l[j] = true) (hc : (l.take j).contains l[j] = true) : badKF (l.take j) (l.drop j) = 7 := by rw [badKF_step h, if_neg (by rw [hr]; simp), if_pos hc]
theorem badKF_next {l : List Int} {j : Nat} (h : j < l.length) (hr : isKeyB l[j] = true) (hc : (l.take j).contains l[j] = false) : badKF (l.take j) (l.drop j) = badKF (l.take (j + 1)) (l.drop (j + 1)) := by rw [badKF_step h, if_neg (by rw [hr]; simp), if_neg (by rw [hc]; simp)]
theorem badKF_end (l : List Int) : badKF (l.take l.length) (l.drop l.length) = 0 := by
  rw [List.drop_length]
  rfl
theorem badKF_zero : ∀ (l seen : List Int), l.Pairwise (· < ·) → (∀ k ∈ l, isKeyB k = true) → (∀ k ∈ l, k ∉ seen) → badKF seen l = 0 := by
  intro l
  induction l with
  | nil => intro seen _ _ _; rfl
  | cons k l ih =>
    intro seen h1 h2 h3
    rw [List.pairwise_cons] at h1
    rw [badKF, if_neg (by rw [h2 k (by simp)]; simp), if_neg (by simpa using h3 k (by simp))]
    refine ih _ h1.2 (fun q hq => h2 q (by simp [hq])) (fun q hq hm => ?_)
    rcases List.mem_append.1 hm with h | h
    · exact h3 q (by simp [hq]) h
    · have := h1.1 q hq
      simp at h
      omega
/-- the keys in which two trees part may be asked for -/
theorem partK_right (f g : Nat → Nat) : badK (partK f g 1) = 0 := by
  rw [badK, if_neg (by have := partK_len f g 1; omega)]
  refine badKF_zero _ _ (part_rise f g) (fun k hk => ?_) (by simp)
  obtain ⟨q, rfl, hq, _⟩ := part_mem hk
  simp [isKeyB]
  omega

theorem partK_has (f g : Nat → Nat) (q : Nat) : (partK f g 1).contains (q : Int) = true ↔ q ∈ ptK pairH f g 3 1 := by
  rw [List.contains_iff_mem]
  unfold partK
  rw [List.mem_map]
  constructor
  · rintro ⟨x, hx, hxq⟩
    have : x = q := by omega
    subst this
    exact hx
  · exact fun hq => ⟨q, hq, rfl⟩
/-- two trees whose ends were made alike where they parted part no more -/
theorem part_swapped (f g f' g' : Nat → Nat) (h : ∀ q : Nat, ((partK f g 1).contains (q : Int) = true → f' q = g' q) ∧ (¬ (partK f g 1).contains (q : Int) = true → f' q = f q ∧ g' q = g q)) : partK f' g' 1 = [] ∧ partN f' g' 1 = 1 := by
  refine part_alike (show nd pairH f' 3 1 = nd pairH g' 3 1 from ?_)
  refine nd_swapped pairH f g f' g' 3 1 (by decide) (fun k _ => ?_)
  obtain ⟨h1, h2⟩ := h k
  rw [partK_has] at h1 h2
  exact ⟨h1, h2⟩

/-- the keys in which two caches part -/
def lackK (a b : List En) : List Int := partK (leafN a) (leafN b) 1
theorem lackK_turn (a b : List En) : lackK b a = lackK a b := (part_turn _ _ 1).1
theorem lackK_right (a b : List En) : badK (lackK a b) = 0 := partK_right _ _
theorem lackK_mem {a b : List En} {k : Int} (h : k ∈ lackK a b) : ∃ q : Nat, k = (q : Int) ∧ q < 8 ∧ leafN a q ≠ leafN b q := part_mem h
theorem leafN_get {a b : List En} {q : Nat} (h : getE a (q : Int) = getE b (q : Int)) : leafN a q = leafN b q := by unfold leafN; rw [h]
/-- behind a swap they part no more -/
theorem swap_alike {a b x y : List En} (ha : GoodL a) (hb : GoodL b) (hx : giveE a b (lackK a b) = (x, 0)) (hy : giveE b a (lackK a b) = (y, 0)) : lackK x y = [] ∧ partN (leafN x) (leafN y) 1 = 1 := by
  refine part_swapped (leafN a) (leafN b) (leafN x) (leafN y) (fun q => ⟨fun hc => ?_, fun hc => ?_⟩)
  · exact leafN_get (give_on ha hb hx hy hc)
  · exact ⟨leafN_get (give_off ha hb hx hc), leafN_get (give_off hb ha hy hc)⟩

/-- what Give answers -/
def giveW (l : List En) (K : List Int) : List En × Int := if badL l ≠ 0 then ([], badL l) else if badK K ≠ 0 then ([], badK K) else (someE l K, 0)
theorem giveW_one {l : List En} {K : List Int} {n : Int} (h : badL l = n) (hn : n ≠ 0) : giveW l K = ([], n) := by rw [giveW, if_pos (by rw [h]; exact hn), h]
theorem giveW_two {l : List En} {K : List Int} {n : Int} (h : badL l = 0) (hK : badK K = n) (hn : n ≠ 0) : giveW l K = ([], n) := by rw [giveW, if_neg (by simpa using h), if_pos (by rw [hK]; exact hn), hK]
theorem giveW_ok {l : List En} {K : List Int} (h : badL l = 0) (hK : badK K = 0) : giveW l K = (someE l K, 0) := by rw [giveW, if_neg (by simpa using h), if_neg (by simpa using hK)]
theorem someE_yes {l : List En} {K : List Int} {j : Nat} (h : j < l.length) (hc : K.contains l[j].k = true) : someE (l.take (j + 1)) K = someE (l.take j) K ++ [l[j]] := by
  unfold someE
  rw [List.take_succ_eq_append_getElem h, List.filter_append, List.filter_cons_of_pos (by exact hc)]
  rfl
theorem someE_no {l : List En} {K : List Int} {j : Nat} (h : j < l.length) (hc : K.contains l[j].k = false) : someE (l.take (j + 1)) K = someE (l.take j) K := by
  unfold someE
  rw [List.take_succ_eq_append_getElem h, List.filter_append, List.filter_cons_of_neg (by rw [hc]; simp)]
  simp
theorem someE_len (l : List En) (K : List Int) : (someE l K).length ≤ l.length := List.length_filter_le _ _
theorem give_as_both {a b : List En} {K : List Int} (ha : GoodL a) (hb : GoodL b) : cacheBoth a (someE b K) = giveE a b K := by
  rw [cacheBoth, if_neg (by simpa using ha.bad), if_neg (by simpa using (someE_good hb).bad)]
  rfl
theorem all_err {l b R1 : List En} {R2 : Int} (h : allE l b = (R1, R2)) (hn : R2 ≠ 0) : R1 = [] := by
  induction b generalizing l with
  | nil => rw [allE] at h; simp at h; exact absurd h.2.symm hn
  | cons e b ih =>
    rw [allE] at h
    split at h
    · simp at h; exact h.1
    · exact ih h
theorem give_err {a b x : List En} {K : List Int} {n : Int} (h : giveE a b K = (x, n)) (hn : n ≠ 0) : x = [] := all_err h hn

/-- what Pair answers -/
def pairW (a b : List En) : List En × List En × Int :=
  if bad2 (badL a) (badL b) ≠ 0 then ([], [], bad2 (badL a) (badL b))
  else if (giveE a b (lackK a b)).2 ≠ 0 then ([], [], (giveE a b (lackK a b)).2)
  else if (giveE b a (lackK a b)).2 ≠ 0 then ([], [], (giveE b a (lackK a b)).2)
  else ((giveE a b (lackK a b)).1, (giveE b a (lackK a b)).1, 0)
theorem pairW_bad {a b : List En} {n : Int} (h : bad2 (badL a) (badL b) = n) (hn : n ≠ 0) : pairW a b = ([], [], n) := by rw [pairW, if_pos (by rw [h]; exact hn), h]
theorem bad2_good {m n : Int} (h : bad2 m n = 0) : m = 0 ∧ n = 0 := by
  unfold bad2 at h
  split at h
  · exact ⟨by assumption, h⟩
  · exact absurd h (by assumption)
theorem bad2_both {m n : Int} (h : m = 0) (h' : n = 0) : bad2 m n = 0 := by rw [bad2, if_pos h, h']
theorem pairW_one {a b x : List En} {n : Int} (h : bad2 (badL a) (badL b) = 0) (hx : giveE a b (lackK a b) = (x, n)) (hn : n ≠ 0) : pairW a b = ([], [], n) := by rw [pairW, if_neg (by simpa using h), hx, if_pos hn]
theorem pairW_two {a b x y : List En} {n : Int} (h : bad2 (badL a) (badL b) = 0) (hx : giveE a b (lackK a b) = (x, 0)) (hy : giveE b a (lackK a b) = (y, n)) (hn : n ≠ 0) : pairW a b = ([], [], n) := by rw [pairW, if_neg (by simpa using h), hx, if_neg (by simp), hy, if_pos hn]
theorem pairW_ok {a b x y : List En} (h : bad2 (badL a) (badL b) = 0) (hx : giveE a b (lackK a b) = (x, 0)) (hy : giveE b a (lackK a b) = (y, 0)) : pairW a b = (x, y, 0) := by rw [pairW, if_neg (by simpa using h), hx, if_neg (by simp), hy, if_neg (by simp)]
/-- what there is where nothing is wrong -/
theorem pairW_fine {a b x y : List En} (h : pairW a b = (x, y, 0)) : badL a = 0 ∧ badL b = 0 ∧ giveE a b (lackK a b) = (x, 0) ∧ giveE b a (lackK a b) = (y, 0) := by
  obtain ⟨n, hn⟩ : ∃ n, bad2 (badL a) (badL b) = n := ⟨_, rfl⟩
  by_cases h0 : n = 0
  · subst h0
    obtain ⟨h1, h2⟩ := bad2_good hn
    obtain ⟨⟨x', m⟩, hx⟩ : ∃ R, giveE a b (lackK a b) = R := ⟨_, rfl⟩
    obtain ⟨⟨y', m'⟩, hy⟩ : ∃ R, giveE b a (lackK a b) = R := ⟨_, rfl⟩
    by_cases hm : m = 0
    · subst hm
      by_cases hm' : m' = 0
      · subst hm'
        rw [pairW_ok hn hx hy] at h
        simp at h
        rw [hx, hy, h.1, h.2]
        exact ⟨h1, h2, rfl, rfl⟩
      · rw [pairW_two hn hx hy hm'] at h
        simp at h
        exact absurd h.2.2 hm'
    · rw [pairW_one hn hx hm] at h
      simp at h
      exact absurd h.2.2 hm
  · rw [pairW_bad hn h0] at h
    simp at h
    exact absurd h.2.2 h0
theorem pairW_fault {a b x y : List En} {n : Int} (h : pairW a b = (x, y, n)) (hn : n ≠ 0) : x = [] ∧ y = [] := by
  unfold pairW at h
  split at h
  · simp at h; exact ⟨h.1, h.2.1⟩
  · split at h
    · simp at h; exact ⟨h.1, h.2.1⟩
    · split at h
      · simp at h; exact ⟨h.1, h.2.1⟩
      · simp at h; exact absurd h.2.2.symm hn

/-- a swap with one that has nothing -/
theorem give_to_none {l : List En} {K : List Int} (h : GoodL l) : giveE [] l K = (someE l K, 0) :=
  merged_allE goodL_nil (someE_good h).rise (someE_good h).all (someE_good h).rise (fun k => show KnownAt none _ _ from by
    cases getE (someE l K) k <;> simp [KnownAt])
theorem give_from_none (l : List En) (K : List Int) : giveE l [] K = (l, 0) := rfl
theorem pair_none {l : List En} (h : badL l = 0) : pairW l [] = (l, someE l (lackK l []), 0) :=
  pairW_ok (bad2_both h rfl) (give_from_none _ _) (give_to_none (badL_good h))
theorem rise_same : ∀ {x y : List Int}, x.Pairwise (· < ·) → y.Pairwise (· < ·) → (∀ k, k ∈ x ↔ k ∈ y) → x = y := by
  intro x
  induction x with
  | nil =>
    intro y _ _ h
    cases y with
    | nil => rfl
    | cons k y => exact absurd ((h k).2 (by simp)) (by simp)
  | cons k x ih =>
    intro y hx hy h
    cases y with
    | nil => exact absurd ((h k).1 (by simp)) (by simp)
    | cons q y =>
      rw [List.pairwise_cons] at hx hy
      have hkq : k = q := by
        have h1 := (h k).1 (by simp)
        have h2 := (h q).2 (by simp)
        rcases List.mem_cons.1 h1 with e | e
        · exact e
        · rcases List.mem_cons.1 h2 with e' | e'
          · exact e'.symm
          · have := hy.1 k e
            have := hx.1 q e'
            omega
      subst hkq
      rw [ih hx.2 hy.2 (fun z => ?_)]
      constructor
      · intro hz
        have h1 := (h z).1 (by simp [hz])
        rcases List.mem_cons.1 h1 with e | e
        · have := hx.1 z hz
          omega
        · exact e
      · intro hz
        have h1 := (h z).2 (by simp [hz])
        rcases List.mem_cons.1 h1 with e | e
        · have := hy.1 z hz
          omega
        · exact e
theorem none_keys {l : List En} (h : badL l = 0) : (someE l (lackK l [])).map (fun e => e.k) = lackK l [] := by
  have hg := badL_good h
  refine rise_same ?_ (part_rise _ _) (fun k => ?_)
  · rw [List.pairwise_map]
    exact (someE_good hg).rise
  · rw [List.mem_map]
    constructor
    · rintro ⟨e, he, rfl⟩
      have := (List.mem_filter.1 he).2
      simpa using this
    · intro hk
      obtain ⟨q, rfl, _, hu⟩ := lackK_mem hk
      cases hg' : getE l (q : Int) with
      | none =>
        refine absurd ?_ hu
        rw [leafN_none hg', leafN_none rfl]
      | some x =>
        obtain ⟨hm, hx⟩ := (getE_iff hg.rise).1 hg'
        refine ⟨x, List.mem_filter.2 ⟨hm, ?_⟩, hx⟩
        rw [hx]
        simpa using hk
theorem none_len {l : List En} (h : badL l = 0) : (lackK l []).length = (someE l (lackK l [])).length := by
  have e := congrArg List.length (none_keys h)
  rw [List.length_map] at e
  exact e.symm
end Go.Proofs.YtpcnfoaoajfhlaaGreatDoor
