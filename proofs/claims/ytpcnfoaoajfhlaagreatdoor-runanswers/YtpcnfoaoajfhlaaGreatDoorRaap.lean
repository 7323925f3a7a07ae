/-
  A tree over eight keys, on functions: f tells a key's number, P that of two numbers. Where two trees part, and how many nodes are asked.
  The number of two numbers and of an entry, in a form that can be reckoned; the one tree's fact.
  A cache's tree on lists: each key's number, each node's; sixteen numbers at a block.
  A row of numbers, and one appended to it.
-/
import Derived.Test.YtpcnfoaoajfhlaaGreatDoorRaaa
import Derived.Test.YtpcnfoaoajfhlaaGreatDoorRaao
import Derived.Test.YtpcnfoaoajfhlaaGreatDoorRaaf
import Derived.Deep.AppendLies
namespace Go.Proofs.YtpcnfoaoajfhlaaGreatDoor
set_option linter.unusedVariables false
set_option linter.unusedSimpArgs false
set_option linter.unusedVariables false
set_option linter.unusedSimpArgs false
open Go.RowKit

/-- the node i, d rows above the ends -/
def nd (P : Nat → Nat → Nat) (f : Nat → Nat) : Nat → Nat → Nat
  | 0, i => f (i - 8)
  | d + 1, i => P (nd P f d (2 * i)) (nd P f d (2 * i + 1))
/-- the keys where two trees part from a node on -/
def ptK (P : Nat → Nat → Nat) (f g : Nat → Nat) : Nat → Nat → List Nat
  | 0, i => if f (i - 8) = g (i - 8) then [] else [i - 8]
  | d + 1, i => if nd P f (d + 1) i = nd P g (d + 1) i then [] else ptK P f g d (2 * i) ++ ptK P f g d (2 * i + 1)
/-- how many nodes are asked -/
def ptN (P : Nat → Nat → Nat) (f g : Nat → Nat) : Nat → Nat → Nat
  | 0, _ => 1
  | d + 1, i => if nd P f (d + 1) i = nd P g (d + 1) i then 1 else ptN P f g d (2 * i) + ptN P f g d (2 * i + 1) + 1

theorem ptK_alike {P : Nat → Nat → Nat} {f g : Nat → Nat} {d i : Nat} (h : nd P f d i = nd P g d i) : ptK P f g d i = [] := by
  cases d with
  | zero => exact if_pos h
  | succ d => exact if_pos h
theorem ptN_alike {P : Nat → Nat → Nat} {f g : Nat → Nat} {d i : Nat} (h : nd P f d i = nd P g d i) : ptN P f g d i = 1 := by
  cases d with
  | zero => rfl
  | succ d => exact if_pos h
theorem ptK_turn (P : Nat → Nat → Nat) (f g : Nat → Nat) : ∀ d i, ptK P f g d i = ptK P g f d i := by
  intro d
  induction d with
  | zero => intro i; unfold ptK; split <;> rename_i h <;> first | rw [if_pos h.symm] | rw [if_neg (fun e => h e.symm)]
  | succ d ih => intro i; unfold ptK; rw [ih, ih]; split <;> rename_i h <;> first | rw [if_pos h.symm] | rw [if_neg (fun e => h e.symm)]
theorem ptN_turn (P : Nat → Nat → Nat) (f g : Nat → Nat) : ∀ d i, ptN P f g d i = ptN P g f d i := by
  intro d
  induction d with
  | zero => intro i; rfl
  | succ d ih => intro i; unfold ptN; rw [ih, ih]; split <;> rename_i h <;> first | rw [if_pos h.symm] | rw [if_neg (fun e => h e.symm)]
/-- unlike nodes have an end below that is unlike -/
theorem ptK_some {P : Nat → Nat → Nat} {f g : Nat → Nat} : ∀ {d i : Nat}, nd P f d i ≠ nd P g d i → 1 ≤ (ptK P f g d i).length := by
  intro d
  induction d with
  | zero =>
    intro i h
    have h' : ¬ f (i - 8) = g (i - 8) := h
    rw [ptK, if_neg h']
    exact Nat.le_refl _
  | succ d ih =>
    intro i h
    rw [ptK, if_neg h, List.length_append]
    by_cases h1 : nd P f d (2 * i) = nd P g d (2 * i)
    · by_cases h2 : nd P f d (2 * i + 1) = nd P g d (2 * i + 1)
      · exact absurd (by rw [nd, nd, h1, h2]) h
      · have := ih h2
        omega
    · have := ih h1
      omega
theorem ptN_pos (P : Nat → Nat → Nat) (f g : Nat → Nat) (d i : Nat) : 1 ≤ ptN P f g d i := by
  cases d with
  | zero => exact Nat.le_refl _
  | succ d => unfold ptN; split <;> omega
/-- little is asked -/
theorem ptN_few (P : Nat → Nat → Nat) (f g : Nat → Nat) : ∀ d i, ptN P f g d i ≤ 1 + 2 * d * (ptK P f g d i).length := by
  intro d
  induction d with
  | zero => intro i; exact Nat.le_add_right _ _
  | succ d ih =>
    intro i
    by_cases h : nd P f (d + 1) i = nd P g (d + 1) i
    · rw [ptN_alike h]
      exact Nat.le_add_right _ _
    · have h1 := ptK_some h
      have h2 := ih (2 * i)
      have h3 := ih (2 * i + 1)
      rw [ptK, if_neg h, List.length_append] at h1 ⊢
      rw [ptN, if_neg h]
      obtain ⟨p, hp⟩ : ∃ p, p = (ptK P f g d (2 * i)).length := ⟨_, rfl⟩
      obtain ⟨q, hq⟩ : ∃ q, q = (ptK P f g d (2 * i + 1)).length := ⟨_, rfl⟩
      rw [← hp] at h1 h2 ⊢
      rw [← hq] at h1 h3 ⊢
      have e : 2 * (d + 1) * (p + q) = 2 * d * p + 2 * d * q + 2 * (p + q) := by
        rw [Nat.mul_add 2 d 1, Nat.add_mul, Nat.mul_add (2 * d) p q]
      rw [e]
      omega
/-- the keys below a node -/
def under (d i k : Nat) : Prop := i * 2 ^ d ≤ k + 8 ∧ k + 8 < (i + 1) * 2 ^ d
theorem under_left {d i k : Nat} (h : under d (2 * i) k) : under (d + 1) i k := by
  obtain ⟨h1, h2⟩ := h
  have e : 2 ^ (d + 1) = 2 * 2 ^ d := by rw [Nat.pow_succ, Nat.mul_comm]
  constructor
  · rw [e, ← Nat.mul_assoc, Nat.mul_comm i 2]; exact h1
  · rw [e, ← Nat.mul_assoc, Nat.mul_comm (i + 1) 2]
    refine Nat.lt_of_lt_of_le h2 (Nat.mul_le_mul_right _ (by omega))
theorem under_right {d i k : Nat} (h : under d (2 * i + 1) k) : under (d + 1) i k := by
  obtain ⟨h1, h2⟩ := h
  have e : 2 ^ (d + 1) = 2 * 2 ^ d := by rw [Nat.pow_succ, Nat.mul_comm]
  constructor
  · rw [e, ← Nat.mul_assoc, Nat.mul_comm i 2]
    exact Nat.le_trans (Nat.mul_le_mul_right _ (by omega)) h1
  · rw [e, ← Nat.mul_assoc, Nat.mul_comm (i + 1) 2]
    exact h2
theorem under_part {d i k q : Nat} (h : under d (2 * i) k) (h' : under d (2 * i + 1) q) : k < q := by
  have h1 := h.2
  have h2 := h'.1
  omega
theorem ptK_under (P : Nat → Nat → Nat) (f g : Nat → Nat) : ∀ d i k, 8 ≤ i * 2 ^ d → k ∈ ptK P f g d i → under d i k ∧ f k ≠ g k := by
  intro d
  induction d with
  | zero =>
    intro i k h8 hk
    unfold ptK at hk
    split at hk
    · simp at hk
    · rename_i h
      simp only [List.mem_singleton] at hk
      subst hk
      refine ⟨⟨?_, ?_⟩, h⟩ <;> simp only [Nat.pow_zero, Nat.mul_one] at h8 ⊢ <;> omega
  | succ d ih =>
    intro i k h8 hk
    have e : 2 ^ (d + 1) = 2 * 2 ^ d := by rw [Nat.pow_succ, Nat.mul_comm]
    have hl : 8 ≤ 2 * i * 2 ^ d := by rw [e, ← Nat.mul_assoc, Nat.mul_comm i 2] at h8; exact h8
    have hr : 8 ≤ (2 * i + 1) * 2 ^ d := Nat.le_trans hl (Nat.mul_le_mul_right _ (by omega))
    unfold ptK at hk
    split at hk
    · simp at hk
    · rcases List.mem_append.1 hk with h | h
      · exact ⟨under_left (ih _ _ hl h).1, (ih _ _ hl h).2⟩
      · exact ⟨under_right (ih _ _ hr h).1, (ih _ _ hr h).2⟩
/-- the keys rise -/
theorem ptK_rise (P : Nat → Nat → Nat) (f g : Nat → Nat) : ∀ d i, 8 ≤ i * 2 ^ d → (ptK P f g d i).Pairwise (· < ·) := by
  intro d
  induction d with
  | zero => intro i _; unfold ptK; split <;> simp
  | succ d ih =>
    intro i h8
    have e : 2 ^ (d + 1) = 2 * 2 ^ d := by rw [Nat.pow_succ, Nat.mul_comm]
    have hl : 8 ≤ 2 * i * 2 ^ d := by rw [e, ← Nat.mul_assoc, Nat.mul_comm i 2] at h8; exact h8
    have hr : 8 ≤ (2 * i + 1) * 2 ^ d := Nat.le_trans hl (Nat.mul_le_mul_right _ (by omega))
    unfold ptK
    split
    · exact List.Pairwise.nil
    · rw [List.pairwise_append]
      exact ⟨ih _ hl, ih _ hr, fun a ha b hb => under_part (ptK_under P f g d _ a hl ha).1 (ptK_under P f g d _ b hr hb).1⟩
theorem nd_ext (P : Nat → Nat → Nat) (f g : Nat → Nat) : ∀ d i, 8 ≤ i * 2 ^ d → (∀ k, under d i k → f k = g k) → nd P f d i = nd P g d i := by
  intro d
  induction d with
  | zero =>
    intro i h8 h
    simp only [Nat.pow_zero, Nat.mul_one] at h8
    exact h (i - 8) ⟨by simp only [Nat.pow_zero, Nat.mul_one]; omega, by simp only [Nat.pow_zero, Nat.mul_one]; omega⟩
  | succ d ih =>
    intro i h8 h
    have e : 2 ^ (d + 1) = 2 * 2 ^ d := by rw [Nat.pow_succ, Nat.mul_comm]
    have hl : 8 ≤ 2 * i * 2 ^ d := by rw [e, ← Nat.mul_assoc, Nat.mul_comm i 2] at h8; exact h8
    have hr : 8 ≤ (2 * i + 1) * 2 ^ d := Nat.le_trans hl (Nat.mul_le_mul_right _ (by omega))
    rw [nd, nd, ih _ hl (fun k hk => h k (under_left hk)), ih _ hr (fun k hk => h k (under_right hk))]
/-- with what was told of one of both put into the other one they part no more -/
theorem nd_mended (P : Nat → Nat → Nat) (f g h : Nat → Nat) : ∀ d i, 8 ≤ i * 2 ^ d → (∀ k, under d i k → (k ∈ ptK P f g d i → h k = f k) ∧ (k ∉ ptK P f g d i → h k = g k)) → nd P h d i = nd P f d i := by
  intro d
  induction d with
  | zero =>
    intro i h8 hh
    simp only [Nat.pow_zero, Nat.mul_one] at h8
    have := hh (i - 8) ⟨by simp only [Nat.pow_zero, Nat.mul_one]; omega, by simp only [Nat.pow_zero, Nat.mul_one]; omega⟩
    by_cases e : f (i - 8) = g (i - 8)
    · have h1 := this.2 (by rw [ptK, if_pos e]; simp)
      show h (i - 8) = f (i - 8)
      rw [h1, e]
    · exact this.1 (by rw [ptK, if_neg e]; simp)
  | succ d ih =>
    intro i h8 hh
    have e : 2 ^ (d + 1) = 2 * 2 ^ d := by rw [Nat.pow_succ, Nat.mul_comm]
    have hl : 8 ≤ 2 * i * 2 ^ d := by rw [e, ← Nat.mul_assoc, Nat.mul_comm i 2] at h8; exact h8
    have hr : 8 ≤ (2 * i + 1) * 2 ^ d := Nat.le_trans hl (Nat.mul_le_mul_right _ (by omega))
    by_cases hn : nd P f (d + 1) i = nd P g (d + 1) i
    · rw [hn]
      refine nd_ext P h g (d + 1) i h8 (fun k hk => (hh k hk).2 ?_)
      rw [ptK_alike hn]
      simp
    · have hm : ∀ k, k ∈ ptK P f g (d + 1) i ↔ k ∈ ptK P f g d (2 * i) ∨ k ∈ ptK P f g d (2 * i + 1) := fun k => by
        rw [ptK, if_neg hn, List.mem_append]
      have e1 : nd P h d (2 * i) = nd P f d (2 * i) := by
        refine ih _ hl (fun k hk => ⟨fun hx => (hh k (under_left hk)).1 ((hm k).2 (Or.inl hx)), fun hx => (hh k (under_left hk)).2 (fun hy => ?_)⟩)
        rcases (hm k).1 hy with h1 | h1
        · exact hx h1
        · exact absurd (under_part hk (ptK_under P f g d _ k hr h1).1) (Nat.lt_irrefl _)
      have e2 : nd P h d (2 * i + 1) = nd P f d (2 * i + 1) := by
        refine ih _ hr (fun k hk => ⟨fun hx => (hh k (under_right hk)).1 ((hm k).2 (Or.inr hx)), fun hx => (hh k (under_right hk)).2 (fun hy => ?_)⟩)
        rcases (hm k).1 hy with h1 | h1
        · exact absurd (under_part (ptK_under P f g d _ k hl h1).1 hk) (Nat.lt_irrefl _)
        · exact hx h1
      rw [nd, nd, e1, e2]
end Go.Proofs.YtpcnfoaoajfhlaaGreatDoor

namespace Go.Proofs.YtpcnfoaoajfhlaaGreatDoor
set_option linter.unusedVariables false
set_option linter.unusedSimpArgs false
open Go.RowKit

/-- decimal digits, n steps at most -/
def digF : Nat → Nat → List Nat
  | 0, u => [48 + u]
  | n + 1, u => if u < 10 then [48 + u] else digF n (u / 10) ++ [48 + u % 10]
theorem u8_dig {x : Nat} (h : x < 10) : (UInt8.ofNat (48 + x)).toNat = 48 + x := by
  rw [UInt8.toNat_ofNat']
  omega
theorem digF_eq : ∀ n u, u ≤ n → digF n u = (Lib.decDigits u).map UInt8.toNat := by
  intro n
  induction n with
  | zero =>
    intro u h
    obtain rfl : u = 0 := by omega
    rw [Lib.decDigits_one (by omega), List.map_singleton, u8_dig (by omega)]
    rfl
  | succ n ih =>
    intro u h
    rw [digF]
    split
    · rename_i h10
      rw [Lib.decDigits_one h10, List.map_singleton, u8_dig h10]
    · rename_i h10
      have e : Lib.decDigits u = Lib.decDigits (u / 10) ++ [UInt8.ofNat (48 + u % 10)] := by rw [Lib.decDigits, dif_neg h10]
      rw [ih (u / 10) (by omega), e, List.map_append, List.map_singleton, u8_dig (Nat.mod_lt _ (by omega))]
theorem byN_dig (u : Nat) : byN (digS u) = digF u u := by
  rw [digF_eq u u (Nat.le_refl _)]
  rfl
theorem byN_append (a b : ByteArray) : byN (a ++ b) = byN a ++ byN b := by simp [byN, ByteArray.data_append]
/-- the number of two numbers -/
def pairH (a b : Nat) : Nat := hashL (byN (str2 a b))
def pairF (a b : Nat) : Nat := hashL (digF a a ++ [47] ++ digF b b)
theorem pairH_eq : pairH = pairF := by
  funext a b
  rw [pairH, pairF, str2, byN_append, byN_append, byN_dig, byN_dig]
  rfl
theorem pairH_lt (a b : Nat) : pairH a b < 4294967296 := hashL_lt _
/-- the number of an entry -/
def entH (k v : Nat) (g : Bool) (t : ByteArray) : Nat := hashL (byN (strE k v g t))
def entF (k v : Nat) (g : Bool) (t : List Nat) : Nat := hashL (digF k k ++ [47] ++ digF v v ++ [47] ++ digF (if g = true then 1 else 0) (if g = true then 1 else 0) ++ [47] ++ t)
theorem entH_eq (k v : Nat) (g : Bool) (t : ByteArray) : entH k v g t = entF k v g (byN t) := by
  rw [entH, entF, strE, str3, byN_append, byN_append, byN_append, byN_append, byN_append, byN_append, byN_dig, byN_dig, byN_dig]
  rfl
/-- one entry alone against nothing: the key 6, seven nodes -/
def oneF (k : Nat) : Nat := if k = 6 then entF 6 1 false [120] else 0
theorem one_part : ptK pairF oneF (fun _ => 0) 3 1 = [6] ∧ ptN pairF oneF (fun _ => 0) 3 1 = 7 := by decide +kernel
end Go.Proofs.YtpcnfoaoajfhlaaGreatDoor

namespace Go.Proofs.YtpcnfoaoajfhlaaGreatDoor
set_option linter.unusedVariables false
set_option linter.unusedSimpArgs false
open Go.RowKit

/-- an entry's number -/
def numE (x : En) : Nat := entH x.k.toNat x.v.toNat x.g x.t
/-- the number at a key's end -/
def leafN (l : List En) (k : Nat) : Nat := match getE l (k : Int) with
  | none => 0
  | some x => numE x
theorem leafN_none {l : List En} {k : Nat} (h : getE l (k : Int) = none) : leafN l k = 0 := by rw [leafN, h]
theorem leafN_some {l : List En} {k : Nat} {x : En} (h : getE l (k : Int) = some x) : leafN l k = numE x := by rw [leafN, h]
theorem numE_lt (x : En) : numE x < 4294967296 := hashL_lt _
theorem leafN_lt (l : List En) (k : Nat) : leafN l k < 4294967296 := by
  unfold leafN
  split
  · omega
  · exact numE_lt _
/-- how many rows a node is above the ends -/
def dep (i : Nat) : Nat := if i < 2 then 3 else if i < 4 then 2 else if i < 8 then 1 else 0
/-- a tree's node -/
def trN (f : Nat → Nat) (i : Nat) : Nat := nd pairH f (dep i) i
theorem dep_end {i : Nat} (h : 8 ≤ i) : dep i = 0 := by
  unfold dep
  rw [if_neg (by omega), if_neg (by omega), if_neg (by omega)]
theorem dep_two {i : Nat} (h0 : 1 ≤ i) (h : i < 8) : dep i = dep (2 * i) + 1 ∧ dep (2 * i + 1) = dep (2 * i) := by
  have h8 : i = 1 ∨ i = 2 ∨ i = 3 ∨ i = 4 ∨ i = 5 ∨ i = 6 ∨ i = 7 := by omega
  rcases h8 with rfl | rfl | rfl | rfl | rfl | rfl | rfl <;> exact ⟨rfl, rfl⟩
theorem trN_end (f : Nat → Nat) {i : Nat} (h : 8 ≤ i) : trN f i = f (i - 8) := by
  rw [trN, dep_end h]
  rfl
theorem trN_two (f : Nat → Nat) {i : Nat} (h0 : 1 ≤ i) (h : i < 8) : trN f i = pairH (trN f (2 * i)) (trN f (2 * i + 1)) := by
  obtain ⟨h1, h2⟩ := dep_two h0 h
  rw [trN, trN, trN, h2, h1]
  rfl
theorem trN_lt (f : Nat → Nat) (hf : ∀ k, f k < 4294967296) (i : Nat) : trN f i < 4294967296 := by
  unfold trN
  cases dep i with
  | zero => exact hf _
  | succ d => exact pairH_lt _ _
/-- the nodes behind i, the others 0 -/
def downTo (f : Nat → Nat) (i k : Nat) : Nat := if i < k then trN f k else 0
theorem downTo_lt (f : Nat → Nat) (hf : ∀ k, f k < 4294967296) (i k : Nat) : downTo f i k < 4294967296 := by
  unfold downTo
  split
  · exact trN_lt f hf k
  · omega
def updN (o : Nat → Nat) (k z : Nat) : Nat → Nat := fun j => if j = k then z else o j
theorem downTo_step (f : Nat → Nat) {i : Nat} (h : i + 1 < 8) : updN (downTo f (i + 1)) (i + 1) (pairH (downTo f (i + 1) (2 * (i + 1))) (downTo f (i + 1) (2 * (i + 1) + 1))) = downTo f i := by
  funext k
  have h1 : downTo f (i + 1) (2 * (i + 1)) = trN f (2 * (i + 1)) := if_pos (by omega)
  have h2 : downTo f (i + 1) (2 * (i + 1) + 1) = trN f (2 * (i + 1) + 1) := if_pos (by omega)
  rw [h1, h2, ← trN_two f (by omega) h]
  unfold updN downTo
  by_cases e : k = i + 1
  · subst e
    rw [if_pos rfl, if_pos (by omega)]
  · rw [if_neg e]
    by_cases e2 : i + 1 < k
    · rw [if_pos e2, if_pos (by omega)]
    · rw [if_neg e2, if_neg (by omega)]
/-- the ends of the first j entries, all else 0 -/
def endsOf (l : List En) (j k : Nat) : Nat := if 8 ≤ k then leafN (l.take j) (k - 8) else 0
theorem endsOf_zero (l : List En) : endsOf l 0 = fun _ => 0 := by
  funext k
  unfold endsOf
  split
  · rfl
  · rfl
theorem endsOf_all (l : List En) : endsOf l l.length = downTo (leafN l) 7 := by
  funext k
  unfold endsOf downTo
  rw [List.take_length]
  by_cases h : 8 ≤ k
  · rw [if_pos h, if_pos (by omega), trN_end _ h]
  · rw [if_neg h, if_neg (by omega)]
theorem getE_take {l : List En} (hr : Rising l) {j : Nat} (hj : j < l.length) (q : Int) : getE (l.take (j + 1)) q = if q = l[j].k then some l[j] else getE (l.take j) q := by
  have e : l.take (j + 1) = l.take j ++ [l[j]] := by rw [List.take_succ_eq_append_getElem hj]
  unfold getE
  rw [e, List.find?_append]
  by_cases h : q = l[j].k
  · rw [if_pos h]
    have hn : List.find? (fun e => e.k == q) (l.take j) = none := by
      rw [List.find?_eq_none]
      intro x hx hxq
      have hxk : x.k = q := by simpa using hxq
      obtain ⟨i, hi, rfl⟩ := List.mem_iff_getElem.1 hx
      rw [List.length_take] at hi
      have hlt := (List.pairwise_iff_getElem.1 hr) i j (by omega) hj (by omega)
      rw [List.getElem_take] at hxk
      have hlt' : l[i].k < l[j].k := hlt
      omega
    have hs : List.find? (fun e => e.k == q) [l[j]] = some l[j] := List.find?_cons_of_pos (by simp [h])
    rw [hn, hs]
    rfl
  · rw [if_neg h]
    have hs : List.find? (fun e => e.k == q) [l[j]] = none := by
      rw [List.find?_cons_of_neg (by simpa using fun h' => h h'.symm)]
      rfl
    rw [hs]
    cases List.find? (fun e => e.k == q) (l.take j) <;> rfl
theorem endsOf_step {l : List En} (hr : Rising l) {j K : Nat} (hj : j < l.length) (hK : l[j].k = (K : Int)) : updN (endsOf l j) (8 + K) (numE l[j]) = endsOf l (j + 1) := by
  funext k
  unfold updN endsOf
  by_cases h8 : 8 ≤ k
  · rw [if_pos h8, if_pos h8]
    unfold leafN
    rw [getE_take hr hj]
    by_cases e : k = 8 + K
    · rw [if_pos e, if_pos (by omega)]
    · rw [if_neg e, if_neg (by omega)]
  · rw [if_neg h8, if_neg h8, if_neg (by omega)]

/-- sixteen numbers at a block -/
structure SixAt (w : World) (b : Nat) (o : Nat → Nat) : Prop where
  cell : ∀ k, k < 16 → w.cell? ⟨b, k, none⟩ = some (.int .i64 (o k : Nat))
  fz : ∀ j, w.frozen? ⟨b, j, none⟩ = false
theorem SixAt.of_block {w w' : World} {b : Nat} {o : Nat → Nat} (h : SixAt w b o) (hb : w'.heap[b]? = w.heap[b]?) : SixAt w' b o :=
  ⟨fun k hk => (World.cell?_of_block (a := ⟨b, k, none⟩) hb).trans (h.cell k hk), fun j => (World.frozen?_of_block (a := ⟨b, j, none⟩) hb).trans (h.fz j)⟩
theorem SixAt.lt {w : World} {b : Nat} {o : Nat → Nat} (h : SixAt w b o) : b < w.heap.size := World.block_lt_of_cell? w _ (h.cell 0 (by omega))
theorem SixAt.below {w w' : World} {b B : Nat} {o : Nat → Nat} (h : SixAt w b o) (hb : Below B w w') (hB : b < B) : SixAt w' b o := h.of_block (hb.block b hB)
theorem SixAt.grown {w w' : World} {b : Nat} {o : Nat → Nat} (h : SixAt w b o) (hb : Below w.heap.size w w') : SixAt w' b o := h.below hb h.lt
theorem SixAt.alloc {w : World} {b : Nat} {o : Nat → Nat} (h : SixAt w b o) (x : Obj) : SixAt (w.alloc x) b o := h.of_block (Below.heap_alloc _ _ _ h.lt)
theorem SixAt.other {w : World} {b : Nat} {o : Nat → Nat} (h : SixAt w b o) (a : Addr) (hc : b ≠ a.block) (u : Value) : SixAt (w.setCell a u) b o := h.of_block (Below.heap_setCell _ _ _ b hc)
theorem SixAt.set {w : World} {b : Nat} {o : Nat → Nat} (h : SixAt w b o) (k : Nat) (hk : k < 16) (z : Nat) : SixAt (w.setCell ⟨b, k, none⟩ (.int .i64 (z : Nat))) b (updN o k z) := by
  refine ⟨fun j hj => ?_, fun j => by rw [World.frozen?_setCell]; exact h.fz j⟩
  by_cases e : j = k
  · subst e
    rw [updN, if_pos rfl]
    exact World.cell?_setCell_same _ _ _ (h.cell j hj)
  · rw [updN, if_neg e, World.cell?_setCell_other _ _ _ _ (by simp [e])]
    exact h.cell j hj
theorem six_new (w : World) (t : TypeId) (b : Nat) (h : b = w.heap.size) (o : Nat → Nat) : SixAt (w.alloc (.cells #[.int .i64 (o 0 : Nat), .int .i64 (o 1 : Nat), .int .i64 (o 2 : Nat), .int .i64 (o 3 : Nat), .int .i64 (o 4 : Nat), .int .i64 (o 5 : Nat), .int .i64 (o 6 : Nat), .int .i64 (o 7 : Nat), .int .i64 (o 8 : Nat), .int .i64 (o 9 : Nat), .int .i64 (o 10 : Nat), .int .i64 (o 11 : Nat), .int .i64 (o 12 : Nat), .int .i64 (o 13 : Nat), .int .i64 (o 14 : Nat), .int .i64 (o 15 : Nat)] t)) b o := by
  subst h
  refine ⟨fun k hk => ?_, fun j => by simp⟩
  have h8 : k = 0 ∨ k = 1 ∨ k = 2 ∨ k = 3 ∨ k = 4 ∨ k = 5 ∨ k = 6 ∨ k = 7 ∨ k = 8 ∨ k = 9 ∨ k = 10 ∨ k = 11 ∨ k = 12 ∨ k = 13 ∨ k = 14 ∨ k = 15 := by omega
  rcases h8 with rfl | rfl | rfl | rfl | rfl | rfl | rfl | rfl | rfl | rfl | rfl | rfl | rfl | rfl | rfl | rfl <;> simp
/-- sixteen numbers as a value -/
def ag16 (o : Nat → Nat) : Value := .agg #[.int .i64 (o 0 : Nat), .int .i64 (o 1 : Nat), .int .i64 (o 2 : Nat), .int .i64 (o 3 : Nat), .int .i64 (o 4 : Nat), .int .i64 (o 5 : Nat), .int .i64 (o 6 : Nat), .int .i64 (o 7 : Nat), .int .i64 (o 8 : Nat), .int .i64 (o 9 : Nat), .int .i64 (o 10 : Nat), .int .i64 (o 11 : Nat), .int .i64 (o 12 : Nat), .int .i64 (o 13 : Nat), .int .i64 (o 14 : Nat), .int .i64 (o 15 : Nat)]
/-- the sixteen cells of a block, stored -/
def set16 (w : World) (b : Nat) (o : Nat → Nat) : World := ((((((((((((((((w.setCell ⟨b, 0, none⟩ (.int .i64 (o 0 : Nat))).setCell ⟨b, 1, none⟩ (.int .i64 (o 1 : Nat))).setCell ⟨b, 2, none⟩ (.int .i64 (o 2 : Nat))).setCell ⟨b, 3, none⟩ (.int .i64 (o 3 : Nat))).setCell ⟨b, 4, none⟩ (.int .i64 (o 4 : Nat))).setCell ⟨b, 5, none⟩ (.int .i64 (o 5 : Nat))).setCell ⟨b, 6, none⟩ (.int .i64 (o 6 : Nat))).setCell ⟨b, 7, none⟩ (.int .i64 (o 7 : Nat))).setCell ⟨b, 8, none⟩ (.int .i64 (o 8 : Nat))).setCell ⟨b, 9, none⟩ (.int .i64 (o 9 : Nat))).setCell ⟨b, 10, none⟩ (.int .i64 (o 10 : Nat))).setCell ⟨b, 11, none⟩ (.int .i64 (o 11 : Nat))).setCell ⟨b, 12, none⟩ (.int .i64 (o 12 : Nat))).setCell ⟨b, 13, none⟩ (.int .i64 (o 13 : Nat))).setCell ⟨b, 14, none⟩ (.int .i64 (o 14 : Nat))).setCell ⟨b, 15, none⟩ (.int .i64 (o 15 : Nat)))
theorem upd16 (u o : Nat → Nat) (k : Nat) (h : k < 16) : updN (updN (updN (updN (updN (updN (updN (updN (updN (updN (updN (updN (updN (updN (updN (updN u 0 (o 0)) 1 (o 1)) 2 (o 2)) 3 (o 3)) 4 (o 4)) 5 (o 5)) 6 (o 6)) 7 (o 7)) 8 (o 8)) 9 (o 9)) 10 (o 10)) 11 (o 11)) 12 (o 12)) 13 (o 13)) 14 (o 14)) 15 (o 15) k = o k := by
  have h8 : k = 0 ∨ k = 1 ∨ k = 2 ∨ k = 3 ∨ k = 4 ∨ k = 5 ∨ k = 6 ∨ k = 7 ∨ k = 8 ∨ k = 9 ∨ k = 10 ∨ k = 11 ∨ k = 12 ∨ k = 13 ∨ k = 14 ∨ k = 15 := by omega
  rcases h8 with rfl | rfl | rfl | rfl | rfl | rfl | rfl | rfl | rfl | rfl | rfl | rfl | rfl | rfl | rfl | rfl <;> simp [updN]
theorem SixAt.set16 {w : World} {b : Nat} {u : Nat → Nat} (h : SixAt w b u) (o : Nat → Nat) : SixAt (set16 w b o) b o := by
  have h' := (((((((((((((((h.set 0 (by omega) (o 0)).set 1 (by omega) (o 1)).set 2 (by omega) (o 2)).set 3 (by omega) (o 3)).set 4 (by omega) (o 4)).set 5 (by omega) (o 5)).set 6 (by omega) (o 6)).set 7 (by omega) (o 7)).set 8 (by omega) (o 8)).set 9 (by omega) (o 9)).set 10 (by omega) (o 10)).set 11 (by omega) (o 11)).set 12 (by omega) (o 12)).set 13 (by omega) (o 13)).set 14 (by omega) (o 14)).set 15 (by omega) (o 15)
  exact ⟨fun k hk => (h'.cell k hk).trans (by rw [upd16 u o k hk]), h'.fz⟩
theorem set16_below {w w' : World} {B b : Nat} (h : Below B w w') (hb : B ≤ b) (o : Nat → Nat) : Below B w (set16 w' b o) := by
  unfold Go.Proofs.YtpcnfoaoajfhlaaGreatDoor.set16
  have s : ∀ {x : World}, Below B w x → ∀ k u, Below B w (x.setCell ⟨b, k, none⟩ u) := fun hx k u => ⟨hx.os, hx.tape, hx.output, by rw [World.size_setCell]; exact hx.size, fun c hc => (Below.heap_setCell _ _ _ c (by show c ≠ b; omega)).trans (hx.block c hc)⟩
  exact s (s (s (s (s (s (s (s (s (s (s (s (s (s (s (s h _ _) _ _) _ _) _ _) _ _) _ _) _ _) _ _) _ _) _ _) _ _) _ _) _ _) _ _) _ _) _ _
theorem six_cells {w : World} {b : Nat} {o : Nat → Nat} (h : SixAt w b o) : w.cell? ⟨b, 0, none⟩ = some (.int .i64 (o 0 : Nat)) ∧ w.cell? ⟨b, 1, none⟩ = some (.int .i64 (o 1 : Nat)) ∧ w.cell? ⟨b, 2, none⟩ = some (.int .i64 (o 2 : Nat)) ∧ w.cell? ⟨b, 3, none⟩ = some (.int .i64 (o 3 : Nat)) ∧ w.cell? ⟨b, 4, none⟩ = some (.int .i64 (o 4 : Nat)) ∧ w.cell? ⟨b, 5, none⟩ = some (.int .i64 (o 5 : Nat)) ∧ w.cell? ⟨b, 6, none⟩ = some (.int .i64 (o 6 : Nat)) ∧ w.cell? ⟨b, 7, none⟩ = some (.int .i64 (o 7 : Nat)) ∧ w.cell? ⟨b, 8, none⟩ = some (.int .i64 (o 8 : Nat)) ∧ w.cell? ⟨b, 9, none⟩ = some (.int .i64 (o 9 : Nat)) ∧ w.cell? ⟨b, 10, none⟩ = some (.int .i64 (o 10 : Nat)) ∧ w.cell? ⟨b, 11, none⟩ = some (.int .i64 (o 11 : Nat)) ∧ w.cell? ⟨b, 12, none⟩ = some (.int .i64 (o 12 : Nat)) ∧ w.cell? ⟨b, 13, none⟩ = some (.int .i64 (o 13 : Nat)) ∧ w.cell? ⟨b, 14, none⟩ = some (.int .i64 (o 14 : Nat)) ∧ w.cell? ⟨b, 15, none⟩ = some (.int .i64 (o 15 : Nat)) :=
  ⟨h.cell 0 (by omega), h.cell 1 (by omega), h.cell 2 (by omega), h.cell 3 (by omega), h.cell 4 (by omega), h.cell 5 (by omega), h.cell 6 (by omega), h.cell 7 (by omega), h.cell 8 (by omega), h.cell 9 (by omega), h.cell 10 (by omega), h.cell 11 (by omega), h.cell 12 (by omega), h.cell 13 (by omega), h.cell 14 (by omega), h.cell 15 (by omega)⟩
end Go.Proofs.YtpcnfoaoajfhlaaGreatDoor

namespace Go.Proofs.YtpcnfoaoajfhlaaGreatDoor
set_option linter.unusedVariables false
set_option linter.unusedSimpArgs false
open Go.RowKit

/-- a slice that holds a row of numbers -/
def IntsIs (w : World) (v : Value) (l : List Int) : Prop :=
  l.length ≤ maxLen ∧ ∃ p cap, v = .slice p l.length cap ∧ (l ≠ [] → ∃ b o, p = some ⟨b, o, none⟩ ∧ b < w.heap.size ∧ ∀ j (h : j < l.length), w.cell? ⟨b, o + j, none⟩ = some (.int .i64 l[j]))
theorem IntsIs.blocks {w w' : World} {v : Value} {l : List Int} (h : IntsIs w v l) (hs : w.heap.size ≤ w'.heap.size) (hb : ∀ c, v.ownBlock = some c → c < w.heap.size → w'.heap[c]? = w.heap[c]?) : IntsIs w' v l := by
  obtain ⟨h0, p, cap, rfl, h1⟩ := h
  refine ⟨h0, p, cap, rfl, fun hn => ?_⟩
  obtain ⟨b, o, rfl, hlt, hc⟩ := h1 hn
  exact ⟨b, o, rfl, Nat.lt_of_lt_of_le hlt hs, fun j hj => (World.cell?_of_block (a := ⟨b, o + j, none⟩) (hb b rfl hlt)).trans (hc j hj)⟩
theorem IntsIs.below {w w' : World} {v : Value} {l : List Int} (h : IntsIs w v l) (hb : Below w.heap.size w w') : IntsIs w' v l :=
  h.blocks hb.size (fun c _ hc => hb.block c hc)
theorem IntsIs.nil (w : World) : IntsIs w (.slice none 0 0) [] := ⟨by simp, none, 0, rfl, fun h => absurd rfl h⟩
def intC (l : List Int) : List Value := l.map (Value.int .i64)
theorem IntsIs.own {w : World} {B : Nat} {v : Value} {l : List Int} (h : w.ownsRow B 3 1 v l.length (intC l)) : IntsIs w v l := by
  have hcell : ∀ g, v.ownBlock = some g → ∀ j u, (intC l)[j]? = some u → w.cell? ⟨g, j, none⟩ = some u := fun g hg j u hu => by
    have := h.cells (g := g) hg j u hu
    simpa [Addr.add_lit] using this
  rcases h.2 with ⟨rfl, h0⟩ | ⟨g, cap, cur, rfl, _, hg, hc1, hc2, _⟩
  · rw [List.length_eq_zero_iff.1 h0]
    exact IntsIs.nil w
  · refine ⟨Nat.le_trans hc1 hc2, _, cap, rfl, fun _ => ⟨g, 0, rfl, (Array.getElem?_eq_some_iff.1 hg).1, fun j hj => ?_⟩⟩
    have := hcell g rfl j (.int .i64 l[j]) (by simp [intC, List.getElem?_map, hj])
    simpa using this
theorem infoInt : (Tryz.prog.info? 3).map (fun i => (i.zero, i.size, i.bytes)) = some (some (.int .i64 0), 1, 8) := by kernel_rfl

theorem ownsRow_belowF {w w' : World} {B : Nat} {e : TypeId} {size : Nat} {v : Value} {n : Nat} {xs : List Value} (h : w.ownsRow B e size v n xs) (hb : Below w.heap.size w w') : w'.ownsRow B e size v n xs := by
  refine ⟨h.1, ?_⟩
  rcases h.2 with hn | ⟨g, cap, cur, rfl, h1, hg, rest⟩
  · exact .inl hn
  · exact .inr ⟨g, cap, cur, rfl, h1, (hb.block g (Array.getElem?_eq_some_iff.1 hg).1).trans hg, rest⟩
theorem ownsRow_fromF {w : World} {B : Nat} {e : TypeId} {size : Nat} {v : Value} {n : Nat} {xs : List Value} (h : w.ownsRow B e size v n xs) (c : Nat) (hc : v.ownBlock = some c) : B ≤ c := by
  rcases h.2 with ⟨rfl, _⟩ | ⟨g', cap, cur, rfl, h1, _⟩
  · cases hc
  · obtain rfl : g' = c := by simpa [Value.ownBlock] using hc
    exact h1
theorem below_grownF {B : Nat} {w w1 w' : World} {v : Value} (h : Below B w w1) (hB : B ≤ w.heap.size) (hg : w1.grownBy w' v.ownBlock) (hv : ∀ c, v.ownBlock = some c → B ≤ c) : Below B w w' :=
  h.trans ⟨hg.os, hg.tape, hg.output, hg.size, fun c hc => hg.block c (Nat.lt_of_lt_of_le hc (Nat.le_trans hB h.size)) (fun e => by have := hv c e.symm; omega)⟩
theorem intC_append (l m : List Int) : intC (l ++ m) = intC l ++ intC m := by simp [intC]
/-- a row of the call's own that holds numbers and one more -/
def OwnedMoreI (B : Nat) (w : World) (v : Value) (out : List Int) (e : Int) : Prop := w.ownsRow B 3 1 v (out ++ [e]).length (intC (out ++ [e]))
theorem wp_appI {ops : Array Oper} {rest : List Oper} {o : Oper} {ac : Act} {Q : Exit → Act → World → Prop} (w : World) (hgd : o.guard = none) (s x : Operand)
    (ho : o.op = .call { callee := .builtin .append, args := #[s, x], argTypes := #[39, 39] }) (B : Nat) (v : Value) (out : List Int) (e : Int) (hs : ac.eval s = v)
    (hown : w.ownsRow B 3 1 v out.length (intC out)) (vb : Nat) (hx : ac.eval x = .slice (some ⟨vb, 0, none⟩) 1 1) (hv : w.heap[vb]? = some (.cells #[.int .i64 e] 3 (0, 0))) (hl : out.length ≤ 100) (hB : B ≤ w.heap.size)
    (h : ∀ v' w', OwnedMoreI B w' v' out e → Hid (w.grownBy w' v.ownBlock) → wpList Tryz.prog ops Q rest (ac.put o.dst v') w') : wpList Tryz.prog ops Q (o :: rest) ac w := by
  obtain ⟨i0, hi0, hz0, hz1, hz2⟩ := info_parts infoInt
  have q3 : ∀ (u : Value), u ∈ [Value.int .i64 e] → u.oneCell' = true := fun u hu => by simp at hu; subst hu; rfl
  have q2 : ∀ (j : Nat) (u : Value), [Value.int .i64 e][j]? = some u → w.cell? ((⟨vb, 0, none⟩ : Addr).add j) = some u := World.news_of_block hv
  refine wpList_append_own w hgd s x 39 ho B 3 i0 _ 1 8 Tryz.underlying39 hi0 hz0 hz1 hz2 rfl (by omega) v out.length (intC out) hs hown ⟨vb, 0, none⟩ 1 1 [.int .i64 e] hx rfl q2 q3 (by unfold maxLen; omega) (by omega) hB ?_
  intro v' w' h1 h2 _
  refine h v' w' (show World.ownsRow _ _ _ _ _ _ _ from ?_) h2
  have hr : intC (out ++ [e]) = intC out ++ [.int .i64 e] := by simp [intC]
  rw [hr, List.length_append]
  exact h1
/-- a row of the call's own that holds entries and one more -/
def OwnedMore (B : Nat) (w : World) (v : Value) (out : List En) (e : En) : Prop := w.ownsRow B 46 5 v (out ++ [e]).length (rowC (out ++ [e]))
theorem wp_app {ops : Array Oper} {rest : List Oper} {o : Oper} {ac : Act} {Q : Exit → Act → World → Prop} (w : World) (hgd : o.guard = none) (s x : Operand)
    (ho : o.op = .call { callee := .builtin .append, args := #[s, x], argTypes := #[32, 32] }) (B : Nat) (v : Value) (out : List En) (e : En) (hs : ac.eval s = v)
    (hown : w.ownsRow B 46 5 v out.length (rowC out)) (vb : Nat) (hx : ac.eval x = .slice (some ⟨vb, 0, none⟩) 1 1) (hv : w.heap[vb]? = some (.cells e.cells.toArray 46 (0, 0))) (hl : out.length ≤ 100) (hB : B ≤ w.heap.size)
    (h : ∀ v' w', OwnedMore B w' v' out e → Hid (w.grownBy w' v.ownBlock) → wpList Tryz.prog ops Q rest (ac.put o.dst v') w') : wpList Tryz.prog ops Q (o :: rest) ac w := by
  obtain ⟨i0, hi0, hz0, hz1, hz2⟩ := info_parts infoEn
  have q3 : ∀ (u : Value), u ∈ e.cells → u.oneCell' = true := fun u hu => rowC_one [e] u (by simpa [rowC] using hu)
  refine wpList_append_own w hgd s x 32 ho B 46 i0 _ 5 48 Tryz.underlying32 hi0 hz0 hz1 hz2 rfl (by omega) v out.length (rowC out) hs hown ⟨vb, 0, none⟩ 1 1 e.cells hx rfl (World.news_of_block hv) q3 (by unfold maxLen; omega) (by omega) hB ?_
  intro v' w' h1 h2 _
  refine h v' w' (show World.ownsRow _ _ _ _ _ _ _ from ?_) h2
  have hr : rowC (out ++ [e]) = rowC out ++ e.cells := by rw [rowC_append]; simp [rowC]
  rw [hr, List.length_append]
  exact h1
end Go.Proofs.YtpcnfoaoajfhlaaGreatDoor
