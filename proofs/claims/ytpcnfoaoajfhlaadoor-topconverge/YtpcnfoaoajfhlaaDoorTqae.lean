/-
  Who knows what, on lists: what is wrong with calls, what each knows behind them.
  Rows of calls: a slice of slices of numbers, wherever it lies; one appended, a row appended.
-/
import Derived.Test.YtpcnfoaoajfhlaaDoorTqaa
import Derived.Test.YtpcnfoaoajfhlaaDoorTqad
import Derived.Laws.AppendOwnNone
namespace Go.Proofs.YtpcnfoaoajfhlaaDoor
set_option linter.unusedVariables false
set_option linter.unusedSimpArgs false
set_option linter.unusedVariables false
set_option linter.unusedSimpArgs false
open Go.RowKit

/-- two tell each other all that they know -/
def stepG (s : List Nat) (c : Nat × Nat) : List Nat := (s.set c.1 (s.getD c.1 0 ||| s.getD c.2 0)).set c.2 (s.getD c.1 0 ||| s.getD c.2 0)
def playG (s : List Nat) (cs : List (Nat × Nat)) : List Nat := cs.foldl stepG s
/-- at first each knows its own -/
def ownG (n : Nat) : List Nat := (List.range n).map (fun i => 2 ^ i)
def okC (n : Nat) (c : Nat × Nat) : Prop := c.1 < n ∧ c.2 < n ∧ c.1 ≠ c.2
def fullG (n : Nat) : Nat := 2 ^ n - 1
def doneG (n : Nat) (s : List Nat) : Prop := ∀ i, i < n → s.getD i 0 = fullG n
def pairsG (n : Nat) : List (Nat × Nat) := (List.range n).flatMap (fun a => ((List.range n).filter (fun b => Nat.blt a b)).map (fun b => (a, b)))
theorem stepG_len (s : List Nat) (c : Nat × Nat) : (stepG s c).length = s.length := by simp [stepG]
theorem playG_len : ∀ (cs : List (Nat × Nat)) (s : List Nat), (playG s cs).length = s.length := by
  intro cs
  induction cs with
  | nil => intro s; rfl
  | cons c cs ih =>
    intro s
    show (playG (stepG s c) cs).length = _
    rw [ih, stepG_len]
theorem ownG_len (n : Nat) : (ownG n).length = n := by simp [ownG]
theorem getD_set_same {s : List Nat} {i x : Nat} (h : i < s.length) : (s.set i x).getD i 0 = x := by
  rw [List.getD_eq_getElem?_getD, List.getElem?_set_self h]
  rfl
theorem getD_set_other {s : List Nat} {i j x : Nat} (h : i ≠ j) : (s.set j x).getD i 0 = s.getD i 0 := by
  rw [List.getD_eq_getElem?_getD, List.getElem?_set_ne (Ne.symm h), List.getD_eq_getElem?_getD]
theorem stepG_other {s : List Nat} {c : Nat × Nat} {i : Nat} (h1 : i ≠ c.1) (h2 : i ≠ c.2) : (stepG s c).getD i 0 = s.getD i 0 := by
  unfold stepG
  rw [getD_set_other h2, getD_set_other h1]
theorem stepG_one {s : List Nat} {c : Nat × Nat} (h1 : c.1 < s.length) (h : c.1 ≠ c.2) : (stepG s c).getD c.1 0 = s.getD c.1 0 ||| s.getD c.2 0 := by
  unfold stepG
  rw [getD_set_other h, getD_set_same h1]
theorem stepG_two {s : List Nat} {c : Nat × Nat} (h2 : c.2 < s.length) : (stepG s c).getD c.2 0 = s.getD c.1 0 ||| s.getD c.2 0 := by
  unfold stepG
  rw [getD_set_same (by simpa using h2)]
/-- what is known stays known -/
theorem lor_full {n x : Nat} (h : x < 2 ^ n) : fullG n ||| x = fullG n := by
  unfold fullG
  refine Nat.eq_of_testBit_eq fun i => ?_
  rw [Nat.testBit_or, Nat.testBit_two_pow_sub_one]
  by_cases hi : i < n
  · simp [hi]
  · rw [Nat.testBit_lt_two_pow (Nat.lt_of_lt_of_le h (Nat.pow_le_pow_right (by omega) (by omega)))]
    simp
def smallG (n : Nat) (s : List Nat) : Prop := ∀ i, s.getD i 0 < 2 ^ n
theorem stepG_cases (s : List Nat) (c : Nat × Nat) (i : Nat) : (stepG s c).getD i 0 = s.getD i 0 ∨ (stepG s c).getD i 0 = s.getD c.1 0 ||| s.getD c.2 0 := by
  unfold stepG
  by_cases h2 : i = c.2
  · by_cases hl : c.2 < s.length
    · exact .inr (by rw [h2]; exact getD_set_same (by simpa using hl))
    · left
      rw [h2, List.set_eq_of_length_le (i := c.2) (by simp; omega)]
      by_cases h1 : c.2 = c.1
      · rw [h1, List.set_eq_of_length_le (by omega)]
      · rw [getD_set_other h1]
  · rw [getD_set_other h2]
    by_cases h1 : i = c.1
    · by_cases hl : c.1 < s.length
      · exact .inr (by rw [h1]; exact getD_set_same hl)
      · left
        rw [List.set_eq_of_length_le (by omega)]
    · rw [getD_set_other h1]
      exact .inl rfl
theorem stepG_small {n : Nat} {s : List Nat} (c : Nat × Nat) (h : smallG n s) : smallG n (stepG s c) := fun i => by
  rcases stepG_cases s c i with e | e <;> rw [e]
  · exact h i
  · exact Nat.or_lt_two_pow (h _) (h _)
theorem playG_small {n : Nat} : ∀ {cs : List (Nat × Nat)} {s : List Nat}, smallG n s → smallG n (playG s cs) := by
  intro cs
  induction cs with
  | nil => intro s h; exact h
  | cons c cs ih => intro s h; exact ih (stepG_small c h)
theorem ownG_small (n : Nat) : smallG n (ownG n) := fun i => by
  unfold ownG
  rw [List.getD_eq_getElem?_getD]
  by_cases hi : i < n
  · rw [List.getElem?_eq_getElem (by simpa using hi)]
    simp
    exact Nat.pow_lt_pow_right (by omega) hi
  · rw [List.getElem?_eq_none (by simp; omega)]
    exact Nat.two_pow_pos n
theorem stepG_done {n : Nat} {s : List Nat} {c : Nat × Nat} (hc : okC n c) (hs : smallG n s) (hd : doneG n s) : doneG n (stepG s c) := fun i hi => by
  rcases stepG_cases s c i with e | e <;> rw [e]
  · exact hd i hi
  · rw [hd _ hc.1]
    exact lor_full (hs _)
theorem playG_done {n : Nat} : ∀ {cs : List (Nat × Nat)} {s : List Nat}, (∀ c ∈ cs, okC n c) → smallG n s → doneG n s → doneG n (playG s cs) := by
  intro cs
  induction cs with
  | nil => intro s _ _ h; exact h
  | cons c cs ih => intro s hc hs hd; exact ih (fun x hx => hc x (List.mem_cons_of_mem _ hx)) (stepG_small c hs) (stepG_done (hc c (by simp)) hs hd)
theorem playG_app (s : List Nat) (a b : List (Nat × Nat)) : playG s (a ++ b) = playG (playG s a) b := by
  unfold playG
  rw [List.foldl_append]
/-- what is wrong with a call of n nodes -/
def callE (n : Int) (c : List Int) : Int := if c.length = 2 then (if c.any (fun x => !inR x 0 (n - 1)) = true then 1 else if c.getD 0 0 = c.getD 1 0 then 3 else 0) else 3
/-- what is wrong with the first call with which something is -/
def firstE (n : Int) : List (List Int) → Int
  | [] => 0
  | c :: cs => if callE n c = 0 then firstE n cs else callE n c
def callsE (n : Int) (cs : List (List Int)) : Int := if inR n 1 6 = true then (if 40 < cs.length then 4 else firstE n cs) else 1
def pairC (c : List Int) : Nat × Nat := ((c.getD 0 0).toNat, (c.getD 1 0).toNat)
theorem callE_ok {n : Nat} {c : List Int} (h : callE n c = 0) : ∃ a b : Nat, c = [(a : Int), (b : Int)] ∧ a < n ∧ b < n ∧ a ≠ b := by
  unfold callE at h
  split at h
  · rename_i hl
    match c, hl with
    | [x, y], _ =>
      split at h
      · omega
      · rename_i h1
        split at h
        · omega
        · rename_i h2
          have hx : inR x 0 ((n : Int) - 1) = true := by
            cases e : inR x 0 ((n : Int) - 1)
            · exact absurd (by simp [e]) h1
            · rfl
          have hy : inR y 0 ((n : Int) - 1) = true := by
            cases e : inR y 0 ((n : Int) - 1)
            · exact absurd (by simp [e]) h1
            · rfl
          simp [inR] at hx hy h2
          exact ⟨x.toNat, y.toNat, by rw [Int.toNat_of_nonneg hx.1, Int.toNat_of_nonneg hy.1], by omega, by omega, by omega⟩
  · omega
theorem firstE_zero {n : Int} : ∀ {cs : List (List Int)}, firstE n cs = 0 → ∀ c ∈ cs, callE n c = 0 := by
  intro cs
  induction cs with
  | nil => intro _ c hc; cases hc
  | cons d cs ih =>
    intro h c hc
    unfold firstE at h
    split at h
    · rename_i h0
      rcases List.mem_cons.1 hc with rfl | hc
      · exact h0
      · exact ih h c hc
    · omega
theorem firstE_of {n : Int} : ∀ {cs : List (List Int)}, (∀ c ∈ cs, callE n c = 0) → firstE n cs = 0 := by
  intro cs
  induction cs with
  | nil => intro _; rfl
  | cons d cs ih =>
    intro h
    unfold firstE
    rw [if_pos (h d (by simp))]
    exact ih (fun c hc => h c (List.mem_cons_of_mem _ hc))
theorem firstE_drop {n : Int} {cs : List (List Int)} {j : Nat} (hj : j < cs.length) : firstE n (cs.drop j) = if callE n cs[j] = 0 then firstE n (cs.drop (j + 1)) else callE n cs[j] := by
  rw [List.drop_eq_getElem_cons hj]
  rfl
theorem inR_nat {n : Int} (h : inR n 1 6 = true) : ∃ k : Nat, n = k ∧ 1 ≤ k ∧ k ≤ 6 := by
  simp [inR] at h
  exact ⟨n.toNat, by omega, by omega, by omega⟩
theorem callsE_ok {n : Int} {cs : List (List Int)} (h : callsE n cs = 0) : (∃ k : Nat, n = k ∧ 1 ≤ k ∧ k ≤ 6) ∧ cs.length ≤ 40 ∧ ∀ c ∈ cs, callE n c = 0 := by
  unfold callsE at h
  split at h
  · rename_i h1
    split at h
    · omega
    · exact ⟨inR_nat h1, by omega, firstE_zero h⟩
  · omega
theorem callE_pair {n : Nat} {c : List Int} (h : callE n c = 0) : okC n (pairC c) ∧ c = [((pairC c).1 : Int), ((pairC c).2 : Int)] := by
  obtain ⟨a, b, rfl, ha, hb, hab⟩ := callE_ok h
  have e : pairC [(a : Int), (b : Int)] = (a, b) := by simp [pairC]
  rw [e]
  exact ⟨⟨ha, hb, hab⟩, rfl⟩
/-- what each knows behind calls -/
def knowG (n : Nat) (cs : List (List Int)) : List Nat := playG (ownG n) (cs.map pairC)
theorem knowG_len (n : Nat) (cs : List (List Int)) : (knowG n cs).length = n := by rw [knowG, playG_len, ownG_len]
theorem knowG_small (n : Nat) (cs : List (List Int)) : smallG n (knowG n cs) := playG_small (ownG_small n)
theorem knowG_take {n : Nat} {cs : List (List Int)} {j : Nat} (hj : j < cs.length) : knowG n (cs.take (j + 1)) = stepG (knowG n (cs.take j)) (pairC cs[j]) := by
  rw [List.take_succ_eq_append_getElem hj, knowG, List.map_append, playG_app]
  rfl
def numZ (l : List Nat) : List Int := l.map (fun (x : Nat) => (x : Int))
/-- what Play tells -/
def playZ (n : Int) (cs : List (List Int)) : List Int := if callsE n cs = 0 then numZ (knowG n.toNat cs) else []
/-- what Done tells -/
def doneZ (n : Int) (cs : List (List Int)) : Bool := decide (callsE n cs = 0) && (knowG n.toNat cs).all (fun x => x == fullG n.toNat)
theorem doneG_all {n : Nat} {s : List Nat} (hl : s.length = n) : s.all (fun x => x == fullG n) = true ↔ doneG n s := by
  rw [List.all_eq_true]
  constructor
  · intro h i hi
    rw [List.getD_eq_getElem?_getD, List.getElem?_eq_getElem (by omega)]
    have := h _ (List.getElem_mem (show i < s.length by omega))
    simpa using this
  · intro h x hx
    obtain ⟨i, hi, rfl⟩ := List.getElem_of_mem hx
    have := h i (by omega)
    rw [List.getD_eq_getElem?_getD, List.getElem?_eq_getElem hi] at this
    simpa using this
end Go.Proofs.YtpcnfoaoajfhlaaDoor

namespace Go.Proofs.YtpcnfoaoajfhlaaDoor
set_option linter.unusedVariables false
set_option linter.unusedSimpArgs false
open Go.RowKit

/-- a slice that holds a row of values -/
def ValsIs (w : World) (v : Value) (us : List Value) : Prop :=
  us.length ≤ maxLen ∧ ∃ p cap, v = .slice p us.length cap ∧ (p = none → cap = 0) ∧ (us ≠ [] → ∃ b o, p = some ⟨b, o, none⟩ ∧ b < w.heap.size ∧ ∀ j (h : j < us.length), w.cell? ⟨b, o + j, none⟩ = some us[j])
theorem ValsIs.below {w w' : World} {v : Value} {us : List Value} (h : ValsIs w v us) (hb : Below w.heap.size w w') : ValsIs w' v us := by
  obtain ⟨h0, p, cap, rfl, h1, h2⟩ := h
  refine ⟨h0, p, cap, rfl, h1, fun hn => ?_⟩
  obtain ⟨b, o, rfl, hlt, hc⟩ := h2 hn
  exact ⟨b, o, rfl, Nat.lt_of_lt_of_le hlt hb.size, fun j hj => (World.cell?_of_block (a := ⟨b, o + j, none⟩) (hb.block b hlt)).trans (hc j hj)⟩
theorem ValsIs.nil (w : World) : ValsIs w (.slice none 0 0) [] := ⟨by simp, none, 0, rfl, fun _ => rfl, fun h => absurd rfl h⟩
/-- a slice of slices of numbers -/
def CallsIs (w : World) (v : Value) (ls : List (List Int)) : Prop :=
  ∃ us : List Value, us.length = ls.length ∧ ValsIs w v us ∧ ∀ j (h : j < us.length) (h' : j < ls.length), IntsIs w us[j] ls[j]
theorem CallsIs.below {w w' : World} {v : Value} {ls : List (List Int)} (h : CallsIs w v ls) (hb : Below w.heap.size w w') : CallsIs w' v ls := by
  obtain ⟨us, h0, h1, h2⟩ := h
  exact ⟨us, h0, h1.below hb, fun j h h' => (h2 j h h').below hb⟩
theorem CallsIs.nil (w : World) : CallsIs w (.slice none 0 0) [] := ⟨[], rfl, ValsIs.nil w, fun j h _ => by simp at h⟩
theorem CallsIs.parts {w : World} {v : Value} {ls : List (List Int)} (h : CallsIs w v ls) :
    ls.length ≤ maxLen ∧ ∃ p cap, v = .slice p ls.length cap ∧ (ls ≠ [] → ∃ b o, p = some ⟨b, o, none⟩ ∧ b < w.heap.size ∧ ∀ j (h : j < ls.length), ∃ u, w.cell? ⟨b, o + j, none⟩ = some u ∧ IntsIs w u ls[j]) := by
  obtain ⟨us, h0, ⟨h1, p, cap, rfl, h2, h3⟩, h4⟩ := h
  refine ⟨by omega, p, cap, by rw [h0], fun hn => ?_⟩
  have hu : us ≠ [] := fun e => by
    subst e
    exact hn (List.length_eq_zero_iff.1 h0.symm)
  obtain ⟨b, o, rfl, hlt, hc⟩ := h3 hu
  exact ⟨b, o, rfl, hlt, fun j hj => ⟨us[j]'(by omega), hc j (by omega), h4 j (by omega) hj⟩⟩
theorem IntsIs.slice {w : World} {v : Value} {l : List Int} (h : IntsIs w v l) : ∃ p cap, v = .slice p l.length cap := by
  obtain ⟨_, p, cap, rfl, _⟩ := h
  exact ⟨p, cap, rfl⟩
/-- a row of values of the call's own -/
def OwnV (B : Nat) (w : World) (v : Value) (us : List Value) : Prop := w.ownsRow B 30 1 v us.length us
theorem OwnV.nil (B : Nat) (w : World) : OwnV B w (.slice none 0 0) [] := ⟨rfl, .inl ⟨rfl, rfl⟩⟩
theorem OwnV.vals {B : Nat} {w : World} {v : Value} {us : List Value} (h : OwnV B w v us) : ValsIs w v us := by
  have hcell : ∀ g, v.ownBlock = some g → ∀ j u, us[j]? = some u → w.cell? ⟨g, j, none⟩ = some u := fun g hg j u hu => by
    have := World.ownsRow.cells h (g := g) hg j u hu
    simpa [Addr.add_lit] using this
  rcases h.2 with ⟨rfl, h0⟩ | ⟨g, cap, cur, rfl, _, hg, hc1, hc2, _⟩
  · rw [List.length_eq_zero_iff.1 h0]
    exact ValsIs.nil w
  · refine ⟨Nat.le_trans hc1 hc2, _, cap, rfl, fun e => by simp at e, fun _ => ⟨g, 0, rfl, (Array.getElem?_eq_some_iff.1 hg).1, fun j hj => ?_⟩⟩
    have := hcell g rfl j us[j] (by simp [hj])
    simpa using this
theorem OwnV.below {B : Nat} {w w' : World} {v : Value} {us : List Value} (h : OwnV B w v us) (hb : Below w.heap.size w w') : OwnV B w' v us := ownsRow_belowF h hb
theorem OwnV.from {B : Nat} {w : World} {v : Value} {us : List Value} (h : OwnV B w v us) (c : Nat) (hc : v.ownBlock = some c) : B ≤ c := ownsRow_fromF h c hc
theorem infoSl : (Tryd.prog.info? 30).map (fun i => (i.zero, i.size, i.bytes)) = some (some (.slice none 0 0), 1, 24) := by kernel_rfl
/-- append of one -/
theorem wp_appV {ops : Array Oper} {rest : List Oper} {o : Oper} {ac : Act} {Q : Exit → Act → World → Prop} (w : World) (hgd : o.guard = none) (s x : Operand)
    (ho : o.op = .call { callee := .builtin .append, args := #[s, x], argTypes := #[22, 22] }) (B : Nat) (v : Value) (out : List Value) (e : Value) (hs : ac.eval s = v)
    (hown : OwnV B w v out) (vb : Nat) (hx : ac.eval x = .slice (some ⟨vb, 0, none⟩) 1 1) (hv : w.heap[vb]? = some (.cells #[e] 30 (0, 0))) (he : e.oneCell' = true) (hl : out.length ≤ 100) (hB : B ≤ w.heap.size)
    (h : ∀ v' w', OwnV B w' v' (out ++ [e]) → Hid (w.grownBy w' v.ownBlock) → wpList Tryd.prog ops Q rest (ac.put o.dst v') w') : wpList Tryd.prog ops Q (o :: rest) ac w := by
  obtain ⟨i0, hi0, hz0, hz1, hz2⟩ := info_parts infoSl
  have q3 : ∀ (u : Value), u ∈ [e] → u.oneCell' = true := fun u hu => by simp at hu; subst hu; exact he
  have q2 : ∀ (j : Nat) (u : Value), [e][j]? = some u → w.cell? ((⟨vb, 0, none⟩ : Addr).add j) = some u := World.news_of_block hv
  refine wpList_append_own w hgd s x 22 ho B 30 i0 _ 1 24 Tryd.underlying22 hi0 hz0 hz1 hz2 rfl (by omega) v out.length out hs hown ⟨vb, 0, none⟩ 1 1 [e] hx rfl q2 q3 (by unfold maxLen; omega) (by omega) hB ?_
  intro v' w' h1 h2 _
  refine h v' w' (show World.ownsRow _ _ _ _ _ _ _ from ?_) h2
  rw [List.length_append]
  exact h1
/-- append of a row -/
theorem wp_appVs {ops : Array Oper} {rest : List Oper} {o : Oper} {ac : Act} {Q : Exit → Act → World → Prop} (w : World) (hgd : o.guard = none) (s x : Operand)
    (ho : o.op = .call { callee := .builtin .append, args := #[s, x], argTypes := #[22, 22] }) (B : Nat) (v : Value) (out : List Value) (hs : ac.eval s = v)
    (hown : OwnV B w v out) (u : Value) (more : List Value) (hx : ac.eval x = u) (hm : ValsIs w u more) (h1c : ∀ u ∈ more, u.oneCell' = true) (hl : out.length + more.length ≤ 100) (hB : B ≤ w.heap.size)
    (h : ∀ v' w', OwnV B w' v' (out ++ more) → Hid (w.grownBy w' v.ownBlock) → wpList Tryd.prog ops Q rest (ac.put o.dst v') w') : wpList Tryd.prog ops Q (o :: rest) ac w := by
  obtain ⟨i0, hi0, hz0, hz1, hz2⟩ := info_parts infoSl
  obtain ⟨_, p, cap, rfl, hnil, hrow⟩ := hm
  cases p with
  | none =>
    obtain rfl : cap = 0 := hnil rfl
    obtain rfl : more = [] := by
      rcases List.eq_nil_or_concat more with h | ⟨l, b, h⟩
      · exact h
      · obtain ⟨_, _, e, _⟩ := hrow (by rw [h]; simp)
        cases e
    rw [List.append_nil] at h
    exact wpList_append_own_none hgd s x 22 ho B 30 i0 1 Tryd.underlying22 hi0 v out.length out hs hown hx (h v w hown ⟨rfl, rfl, rfl, Nat.le_refl _, fun _ _ _ => rfl⟩)
  | some ad =>
    have q2 : ∀ (j : Nat) (u : Value), more[j]? = some u → w.cell? (ad.add j) = some u := fun j u hu => by
      have hj : j < more.length := (List.getElem?_eq_some_iff.1 hu).1
      obtain ⟨b, off, e, _, hc⟩ := hrow (fun e => by simp [e] at hj)
      obtain rfl : ad = ⟨b, off, none⟩ := by simpa using e
      rw [Addr.add_lit, hc j hj, ← hu]
      simp [hj]
    refine wpList_append_own w hgd s x 22 ho B 30 i0 _ 1 24 Tryd.underlying22 hi0 hz0 hz1 hz2 rfl (by omega) v out.length out hs hown ad more.length cap more hx (by simp) q2 h1c (by unfold maxLen; omega) (by omega) hB ?_
    intro v' w' h1 h2 _
    refine h v' w' (show World.ownsRow _ _ _ _ _ _ _ from ?_) h2
    rw [List.length_append]
    exact h1
/-- what is of the call's own, seen as calls -/
theorem OwnV.calls {B : Nat} {w : World} {v : Value} {us : List Value} {ls : List (List Int)} (h : OwnV B w v us) (hl : us.length = ls.length) (hi : ∀ j (h : j < us.length) (h' : j < ls.length), IntsIs w us[j] ls[j]) : CallsIs w v ls := ⟨us, hl, h.vals, hi⟩
end Go.Proofs.YtpcnfoaoajfhlaaDoor
