/-
  A tree over eight keys, on functions: f tells a key's number, P that of two numbers. Where two trees part, and how many nodes are asked.
  The number of two numbers and of an entry, in a form that can be reckoned; the one tree's fact.
-/
import Derived.Test.YtpcnfoaoajfhlaaDoorTqaa
import Derived.Test.YtpcnfoaoajfhlaaDoorTqag
namespace Go.Proofs.YtpcnfoaoajfhlaaDoor
set_option linter.unusedVariables false
set_option linter.unusedSimpArgs false
set_option linter.unusedVariables false
set_option linter.unusedSimpArgs false
open Go.RowKit

/-- the node i, d rows above the ends -/
def nd (P : Nat → Nat → Nat) (f : Nat → Nat) : Nat → Nat → Nat
  | 0, i => f (i - 8)
  | d + 1, i => P (nd P f d (2 * i)) (nd P f d (2 * i + 1))
/-- the keys where two trees part from a node on -/
def ptK (P : Nat → Nat → Nat) (f g : Nat → Nat) : Nat → Nat → List Nat
  | 0, i => if f (i - 8) = g (i - 8) then [] else [i - 8]
  | d + 1, i => if nd P f (d + 1) i = nd P g (d + 1) i then [] else ptK P f g d (2 * i) ++ ptK P f g d (2 * i + 1)
/-- how many nodes are asked -/
def ptN (P : Nat → Nat → Nat) (f g : Nat → Nat) : Nat → Nat → Nat
  | 0, _ => 1
  | d + 1, i => if nd P f (d + 1) i = nd P g (d + 1) i then 1 else ptN P f g d (2 * i) + ptN P f g d (2 * i + 1) + 1

theorem ptK_alike {P : Nat → Nat → Nat} {f g : Nat → Nat} {d i : Nat} (h : nd P f d i = nd P g d i) : ptK P f g d i = [] := by
  cases d with
  | zero => exact if_pos h
  | succ d => exact if_pos h
theorem ptN_alike {P : Nat → Nat → Nat} {f g : Nat → Nat} {d i : Nat} (h : nd P f d i = nd P g d i) : ptN P f g d i = 1 := by
  cases d with
  | zero => rfl
  | succ d => exact if_pos h
theorem ptK_turn (P : Nat → Nat → Nat) (f g : Nat → Nat) : ∀ d i, ptK P f g d i = ptK P g f d i := by
  intro d
  induction d with
  | zero => intro i; unfold ptK; split <;> rename_i h <;> first | rw [if_pos h.symm] | rw [if_neg (fun e => h e.symm)]
  | succ d ih => intro i; unfold ptK; rw [ih, ih]; split <;> rename_i h <;> first | rw [if_pos h.symm] | rw [if_neg (fun e => h e.symm)]
theorem ptN_turn (P : Nat → Nat → Nat) (f g : Nat → Nat) : ∀ d i, ptN P f g d i = ptN P g f d i := by
  intro d
  induction d with
  | zero => intro i; rfl
  | succ d ih => intro i; unfold ptN; rw [ih, ih]; split <;> rename_i h <;> first | rw [if_pos h.symm] | rw [if_neg (fun e => h e.symm)]
/-- unlike nodes have an end below that is unlike -/
theorem ptK_some {P : Nat → Nat → Nat} {f g : Nat → Nat} : ∀ {d i : Nat}, nd P f d i ≠ nd P g d i → 1 ≤ (ptK P f g d i).length := by
  intro d
  induction d with
  | zero =>
    intro i h
    have h' : ¬ f (i - 8) = g (i - 8) := h
    rw [ptK, if_neg h']
    exact Nat.le_refl _
  | succ d ih =>
    intro i h
    rw [ptK, if_neg h, List.length_append]
    by_cases h1 : nd P f d (2 * i) = nd P g d (2 * i)
    · by_cases h2 : nd P f d (2 * i + 1) = nd P g d (2 * i + 1)
      · exact absurd (by rw [nd, nd, h1, h2]) h
      · have := ih h2
        omega
    · have := ih h1
      omega
theorem ptN_pos (P : Nat → Nat → Nat) (f g : Nat → Nat) (d i : Nat) : 1 ≤ ptN P f g d i := by
  cases d with
  | zero => exact Nat.le_refl _
  | succ d => unfold ptN; split <;> omega
/-- little is asked -/
theorem ptN_few (P : Nat → Nat → Nat) (f g : Nat → Nat) : ∀ d i, ptN P f g d i ≤ 1 + 2 * d * (ptK P f g d i).length := by
  intro d
  induction d with
  | zero => intro i; exact Nat.le_add_right _ _
  | succ d ih =>
    intro i
    by_cases h : nd P f (d + 1) i = nd P g (d + 1) i
    · rw [ptN_alike h]
      exact Nat.le_add_right _ _
    · have h1 := ptK_some h
      have h2 := ih (2 * i)
      have h3 := ih (2 * i + 1)
      rw [ptK, if_neg h, List.length_append] at h1 ⊢
      rw [ptN, if_neg h]
      obtain ⟨p, hp⟩ : ∃ p, p = (ptK P f g d (2 * i)).length := ⟨_, rfl⟩
      obtain ⟨q, hq⟩ : ∃ q, q = (ptK P f g d (2 * i + 1)).length := ⟨_, rfl⟩
      rw [← hp] at h1 h2 ⊢
      rw [← hq] at h1 h3 ⊢
      have e : 2 * (d + 1) * (p + q) = 2 * d * p + 2 * d * q + 2 * (p + q) := by
        rw [Nat.mul_add 2 d 1, Nat.add_mul, Nat.mul_add (2 * d) p q]
      rw [e]
      omega
/-- the keys below a node -/
def under (d i k : Nat) : Prop := i * 2 ^ d ≤ k + 8 ∧ k + 8 < (i + 1) * 2 ^ d
theorem under_left {d i k : Nat} (h : under d (2 * i) k) : under (d + 1) i k := by
  obtain ⟨h1, h2⟩ := h
  have e : 2 ^ (d + 1) = 2 * 2 ^ d := by rw [Nat.pow_succ, Nat.mul_comm]
  constructor
  · rw [e, ← Nat.mul_assoc, Nat.mul_comm i 2]; exact h1
  · rw [e, ← Nat.mul_assoc, Nat.mul_comm (i + 1) 2]
    refine Nat.lt_of_lt_of_le h2 (Nat.mul_le_mul_right _ (by omega))
theorem under_right {d i k : Nat} (h : under d (2 * i + 1) k) : under (d + 1) i k := by
  obtain ⟨h1, h2⟩ := h
  have e : 2 ^ (d + 1) = 2 * 2 ^ d := by rw [Nat.pow_succ, Nat.mul_comm]
  constructor
  · rw [e, ← Nat.mul_assoc, Nat.mul_comm i 2]
    exact Nat.le_trans (Nat.mul_le_mul_right _ (by omega)) h1
  · rw [e, ← Nat.mul_assoc, Nat.mul_comm (i + 1) 2]
    exact h2
theorem under_part {d i k q : Nat} (h : under d (2 * i) k) (h' : under d (2 * i + 1) q) : k < q := by
  have h1 := h.2
  have h2 := h'.1
  omega
theorem ptK_under (P : Nat → Nat → Nat) (f g : Nat → Nat) : ∀ d i k, 8 ≤ i * 2 ^ d → k ∈ ptK P f g d i → under d i k ∧ f k ≠ g k := by
  intro d
  induction d with
  | zero =>
    intro i k h8 hk
    unfold ptK at hk
    split at hk
    · simp at hk
    · rename_i h
      simp only [List.mem_singleton] at hk
      subst hk
      refine ⟨⟨?_, ?_⟩, h⟩ <;> simp only [Nat.pow_zero, Nat.mul_one] at h8 ⊢ <;> omega
  | succ d ih =>
    intro i k h8 hk
    have e : 2 ^ (d + 1) = 2 * 2 ^ d := by rw [Nat.pow_succ, Nat.mul_comm]
    have hl : 8 ≤ 2 * i * 2 ^ d := by rw [e, ← Nat.mul_assoc, Nat.mul_comm i 2] at h8; exact h8
    have hr : 8 ≤ (2 * i + 1) * 2 ^ d := Nat.le_trans hl (Nat.mul_le_mul_right _ (by omega))
    unfold ptK at hk
    split at hk
    · simp at hk
    · rcases List.mem_append.1 hk with h | h
      · exact ⟨under_left (ih _ _ hl h).1, (ih _ _ hl h).2⟩
      · exact ⟨under_right (ih _ _ hr h).1, (ih _ _ hr h).2⟩
/-- the keys rise -/
theorem ptK_rise (P : Nat → Nat → Nat) (f g : Nat → Nat) : ∀ d i, 8 ≤ i * 2 ^ d → (ptK P f g d i).Pairwise (· < ·) := by
  intro d
  induction d with
  | zero => intro i _; unfold ptK; split <;> simp
  | succ d ih =>
    intro i h8
    have e : 2 ^ (d + 1) = 2 * 2 ^ d := by rw [Nat.pow_succ, Nat.mul_comm]
    have hl : 8 ≤ 2 * i * 2 ^ d := by rw [e, ← Nat.mul_assoc, Nat.mul_comm i 2] at h8; exact h8
    have hr : 8 ≤ (2 * i + 1) * 2 ^ d := Nat.le_trans hl (Nat.mul_le_mul_right _ (by omega))
    unfold ptK
    split
    · exact List.Pairwise.nil
    · rw [List.pairwise_append]
      exact ⟨ih _ hl, ih _ hr, fun a ha b hb => under_part (ptK_under P f g d _ a hl ha).1 (ptK_under P f g d _ b hr hb).1⟩
theorem nd_ext (P : Nat → Nat → Nat) (f g : Nat → Nat) : ∀ d i, 8 ≤ i * 2 ^ d → (∀ k, under d i k → f k = g k) → nd P f d i = nd P g d i := by
  intro d
  induction d with
  | zero =>
    intro i h8 h
    simp only [Nat.pow_zero, Nat.mul_one] at h8
    exact h (i - 8) ⟨by simp only [Nat.pow_zero, Nat.mul_one]; omega, by simp only [Nat.pow_zero, Nat.mul_one]; omega⟩
  | succ d ih =>
    intro i h8 h
    have e : 2 ^ (d + 1) = 2 * 2 ^ d := by rw [Nat.pow_succ, Nat.mul_comm]
    have hl : 8 ≤ 2 * i * 2 ^ d := by rw [e, ← Nat.mul_assoc, Nat.mul_comm i 2] at h8; exact h8
    have hr : 8 ≤ (2 * i + 1) * 2 ^ d := Nat.le_trans hl (Nat.mul_le_mul_right _ (by omega))
    rw [nd, nd, ih _ hl (fun k hk => h k (under_left hk)), ih _ hr (fun k hk => h k (under_right hk))]
/-- with what was told of one of both put into the other one they part no more -/
theorem nd_mended (P : Nat → Nat → Nat) (f g h : Nat → Nat) : ∀ d i, 8 ≤ i * 2 ^ d → (∀ k, under d i k → (k ∈ ptK P f g d i → h k = f k) ∧ (k ∉ ptK P f g d i → h k = g k)) → nd P h d i = nd P f d i := by
  intro d
  induction d with
  | zero =>
    intro i h8 hh
    simp only [Nat.pow_zero, Nat.mul_one] at h8
    have := hh (i - 8) ⟨by simp only [Nat.pow_zero, Nat.mul_one]; omega, by simp only [Nat.pow_zero, Nat.mul_one]; omega⟩
    by_cases e : f (i - 8) = g (i - 8)
    · have h1 := this.2 (by rw [ptK, if_pos e]; simp)
      show h (i - 8) = f (i - 8)
      rw [h1, e]
    · exact this.1 (by rw [ptK, if_neg e]; simp)
  | succ d ih =>
    intro i h8 hh
    have e : 2 ^ (d + 1) = 2 * 2 ^ d := by rw [Nat.pow_succ, Nat.mul_comm]
    have hl : 8 ≤ 2 * i * 2 ^ d := by rw [e, ← Nat.mul_assoc, Nat.mul_comm i 2] at h8; exact h8
    have hr : 8 ≤ (2 * i + 1) * 2 ^ d := Nat.le_trans hl (Nat.mul_le_mul_right _ (by omega))
    by_cases hn : nd P f (d + 1) i = nd P g (d + 1) i
    · rw [hn]
      refine nd_ext P h g (d + 1) i h8 (fun k hk => (hh k hk).2 ?_)
      rw [ptK_alike hn]
      simp
    · have hm : ∀ k, k ∈ ptK P f g (d + 1) i ↔ k ∈ ptK P f g d (2 * i) ∨ k ∈ ptK P f g d (2 * i + 1) := fun k => by
        rw [ptK, if_neg hn, List.mem_append]
      have e1 : nd P h d (2 * i) = nd P f d (2 * i) := by
        refine ih _ hl (fun k hk => ⟨fun hx => (hh k (under_left hk)).1 ((hm k).2 (Or.inl hx)), fun hx => (hh k (under_left hk)).2 (fun hy => ?_)⟩)
        rcases (hm k).1 hy with h1 | h1
        · exact hx h1
        · exact absurd (under_part hk (ptK_under P f g d _ k hr h1).1) (Nat.lt_irrefl _)
      have e2 : nd P h d (2 * i + 1) = nd P f d (2 * i + 1) := by
        refine ih _ hr (fun k hk => ⟨fun hx => (hh k (under_right hk)).1 ((hm k).2 (Or.inr hx)), fun hx => (hh k (under_right hk)).2 (fun hy => ?_)⟩)
        rcases (hm k).1 hy with h1 | h1
        · exact absurd (under_part (ptK_under P f g d _ k hl h1).1 hk) (Nat.lt_irrefl _)
        · exact hx h1
      rw [nd, nd, e1, e2]
end Go.Proofs.YtpcnfoaoajfhlaaDoor

namespace Go.Proofs.YtpcnfoaoajfhlaaDoor
set_option linter.unusedVariables false
set_option linter.unusedSimpArgs false
open Go.RowKit

/-- decimal digits, n steps at most -/
def digF : Nat → Nat → List Nat
  | 0, u => [48 + u]
  | n + 1, u => if u < 10 then [48 + u] else digF n (u / 10) ++ [48 + u % 10]
theorem u8_dig {x : Nat} (h : x < 10) : (UInt8.ofNat (48 + x)).toNat = 48 + x := by
  rw [UInt8.toNat_ofNat']
  omega
theorem digF_eq : ∀ n u, u ≤ n → digF n u = (Lib.decDigits u).map UInt8.toNat := by
  intro n
  induction n with
  | zero =>
    intro u h
    obtain rfl : u = 0 := by omega
    rw [Lib.decDigits_one (by omega), List.map_singleton, u8_dig (by omega)]
    rfl
  | succ n ih =>
    intro u h
    rw [digF]
    split
    · rename_i h10
      rw [Lib.decDigits_one h10, List.map_singleton, u8_dig h10]
    · rename_i h10
      have e : Lib.decDigits u = Lib.decDigits (u / 10) ++ [UInt8.ofNat (48 + u % 10)] := by rw [Lib.decDigits, dif_neg h10]
      rw [ih (u / 10) (by omega), e, List.map_append, List.map_singleton, u8_dig (Nat.mod_lt _ (by omega))]
theorem byN_dig (u : Nat) : byN (digS u) = digF u u := by
  rw [digF_eq u u (Nat.le_refl _)]
  rfl
theorem byN_append (a b : ByteArray) : byN (a ++ b) = byN a ++ byN b := by simp [byN, ByteArray.data_append]
/-- the number of two numbers -/
def pairH (a b : Nat) : Nat := hashL (byN (str2 a b))
def pairF (a b : Nat) : Nat := hashL (digF a a ++ [47] ++ digF b b)
theorem pairH_eq : pairH = pairF := by
  funext a b
  rw [pairH, pairF, str2, byN_append, byN_append, byN_dig, byN_dig]
  rfl
theorem pairH_lt (a b : Nat) : pairH a b < 4294967296 := hashL_lt _
/-- the number of an entry -/
def entH (k v : Nat) (g : Bool) (t : ByteArray) : Nat := hashL (byN (strE k v g t))
def entF (k v : Nat) (g : Bool) (t : List Nat) : Nat := hashL (digF k k ++ [47] ++ digF v v ++ [47] ++ digF (if g = true then 1 else 0) (if g = true then 1 else 0) ++ [47] ++ t)
theorem entH_eq (k v : Nat) (g : Bool) (t : ByteArray) : entH k v g t = entF k v g (byN t) := by
  rw [entH, entF, strE, str3, byN_append, byN_append, byN_append, byN_append, byN_append, byN_append, byN_dig, byN_dig, byN_dig]
  rfl
/-- one entry alone against nothing: the key 6, seven nodes -/
def oneF (k : Nat) : Nat := if k = 6 then entF 6 1 false [120] else 0
theorem one_part : ptK pairF oneF (fun _ => 0) 3 1 = [6] ∧ ptN pairF oneF (fun _ => 0) 3 1 = 7 := by decide +kernel
end Go.Proofs.YtpcnfoaoajfhlaaDoor
