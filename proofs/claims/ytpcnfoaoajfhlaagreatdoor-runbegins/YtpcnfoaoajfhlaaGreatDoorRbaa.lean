/-
  Package entry by its contracts: what is wrong with an entry, what two entries know, whether one is true at a number. Nothing old in memory turns.
  A session on lists: a text cut at a byte, its lines, and numbers of at most four digits.
  Package run by its contracts: readNumber.
  The number of a text, on lists of bytes: a step, how it is undone, and the exclusive or bit by bit.
  Package hash by its contracts: the number of a text.
-/
import Derived.Test.YtpcnfoaoajfhlaaGreatDoorRows
import Derived.WalkKit
import Derived.Laws.StructEq
import Derived.Deep.DeepCutAuto
import Derived.Deep.CutBlock
import Derived.Deep.LoopGhost
import Derived.ProofKit
import Derived.OpenShut
import Derived.Handy
import Derived.WalkSmall
import Derived.Lib.SplitLaws
import Derived.Lib.CutLaws
import Derived.Lib.IndexLaws
import Derived.Lib.IndexBytes
import Derived.BigRegion
import Derived.BigQuiet
namespace Go.Proofs.YtpcnfoaoajfhlaaGreatDoor
set_option linter.unusedVariables false
set_option linter.unusedSimpArgs false
set_option linter.unusedVariables false
set_option linter.unusedSimpArgs false
open Go.RowKit

/-- an entry -/
structure En where
  k : Int
  v : Int
  a : Int
  g : Bool
  t : ByteArray
def En.val (e : En) : Value := .agg #[.int .i64 e.k, .int .i64 e.v, .int .i64 e.a, .bool e.g, .string e.t]
def inR (n lo hi : Int) : Bool := decide (lo ≤ n) && decide (n ≤ hi)
/-- what is wrong with an entry: 0, nothing -/
def bad (k v a : Int) (g : Bool) (t : ByteArray) : Int :=
  if (inR k 0 7 && inR v 0 1000 && inR a v 1000) = false then 1 else if 12 < (t.size : Int) then 4 else if (g && !t.toList.isEmpty) = true then 3 else 0
/-- an error's value: 0, none -/
def eV (n : Int) : Value := if n = 0 then .nilIface else .iface 85 (.int .i64 n)

theorem within_c (n lo hi : Int) (w : World) : Calls Tryz.prog 69 #[.int .i64 n, .int .i64 lo, .int .i64 hi] w fun e w' => e = .returned (.bool (inR n lo hi)) ∧ w' = w := by
  go_enter Tryz.func69, Tryz.ntmps69
  go_wp2_with fail
  · go_ret
    refine ⟨?_, rfl⟩
    rename_i h
    simp [inR, h]
  · go_ret
    refine ⟨?_, rfl⟩
    rename_i h
    have h2 : ¬ lo ≤ n := by omega
    simp [inR, h2]
theorem within_b (n lo hi : Int) (b : Bool) (w : World) (hb : inR n lo hi = b) : Calls Tryz.prog 69 #[.int .i64 n, .int .i64 lo, .int .i64 hi] w fun e w' => e = .returned (.bool b) ∧ w' = w := by
  subst hb
  exact within_c n lo hi w
theorem bad_ver {k v a : Int} {g : Bool} {t : ByteArray} (h : (inR k 0 7 && inR v 0 1000 && inR a v 1000) = false) : bad k v a g t = 1 := by
  unfold bad
  rw [if_pos h]
theorem bad_full {k v a : Int} {g : Bool} {t : ByteArray} (h : (inR k 0 7 && inR v 0 1000 && inR a v 1000) = true) (h2 : 12 < (t.size : Int)) : bad k v a g t = 4 := by
  unfold bad
  rw [if_neg (by simp [h]), if_pos h2]
theorem bad_shape {k v a : Int} {g : Bool} {t : ByteArray} (h : (inR k 0 7 && inR v 0 1000 && inR a v 1000) = true) (h2 : ¬ 12 < (t.size : Int)) (h3 : (g && !t.toList.isEmpty) = true) : bad k v a g t = 3 := by
  unfold bad
  rw [if_neg (by simp [h]), if_neg h2, if_pos h3]
theorem bad_none {k v a : Int} {g : Bool} {t : ByteArray} (h : (inR k 0 7 && inR v 0 1000 && inR a v 1000) = true) (h2 : ¬ 12 < (t.size : Int)) (h3 : (g && !t.toList.isEmpty) = false) : bad k v a g t = 0 := by
  unfold bad
  rw [if_neg (by simp [h]), if_neg h2, if_neg (by rw [h3]; simp)]
set_option maxHeartbeats 4000000 in
theorem check_c (k v a : Int) (g : Bool) (t : ByteArray) (w : World) :
    Calls Tryz.prog 27 #[.agg #[.int .i64 k, .int .i64 v, .int .i64 a, .bool g, .string t]] w fun e w' => e = .returned (eV (bad k v a g t)) ∧ Below w.heap.size w w' := by
  obtain ⟨b0, H0⟩ : ∃ b, Hid (inR k 0 7 = b) := ⟨_, rfl⟩
  obtain ⟨b1, H1⟩ : ∃ b, Hid (inR v 0 1000 = b) := ⟨_, rfl⟩
  obtain ⟨b2, H2⟩ : ∃ b, Hid (inR a v 1000 = b) := ⟨_, rfl⟩
  cases b0
  · rw [bad_ver (by rw [H0.out]; rfl)]
    go_enter Tryz.func27, Tryz.ntmps27
    go_wp2_with (go_at_call 69; refine (within_c _ _ _ _).mono ?_; rintro e w' ⟨rfl, rfl⟩; first | rw [H0.out] | rw [H1.out] | rw [H2.out])
    go_ret
    exact ⟨rfl, by go_grown⟩
  cases b1
  · rw [bad_ver (by rw [H0.out, H1.out]; rfl)]
    go_enter Tryz.func27, Tryz.ntmps27
    go_wp2_with (go_at_call 69; refine (within_c _ _ _ _).mono ?_; rintro e w' ⟨rfl, rfl⟩; first | rw [H0.out] | rw [H1.out] | rw [H2.out])
    go_ret
    exact ⟨rfl, by go_grown⟩
  cases b2
  · rw [bad_ver (by rw [H0.out, H1.out, H2.out]; rfl)]
    go_enter Tryz.func27, Tryz.ntmps27
    go_wp2_with (go_at_call 69; refine (within_c _ _ _ _).mono ?_; rintro e w' ⟨rfl, rfl⟩; first | rw [H0.out] | rw [H1.out] | rw [H2.out])
    go_ret
    exact ⟨rfl, by go_grown⟩
  have HR : Hid ((inR k 0 7 && inR v 0 1000 && inR a v 1000) = true) := by rw [H0.out, H1.out, H2.out]; rfl
  by_cases h2 : 12 < (t.size : Int)
  · rw [bad_full HR.out h2]
    go_enter Tryz.func27, Tryz.ntmps27
    go_wp2_with (go_at_call 69; refine (within_c _ _ _ _).mono ?_; rintro e w' ⟨rfl, rfl⟩; first | rw [H0.out] | rw [H1.out] | rw [H2.out])
    go_ret
    exact ⟨rfl, by go_grown⟩
  cases g
  · rw [bad_none HR.out h2 rfl]
    go_enter Tryz.func27, Tryz.ntmps27
    go_wp2_with (go_at_call 69; refine (within_c _ _ _ _).mono ?_; rintro e w' ⟨rfl, rfl⟩; first | rw [H0.out] | rw [H1.out] | rw [H2.out])
    go_ret
    exact ⟨rfl, by go_grown⟩
  · obtain ⟨B, HB⟩ : ∃ B, Hid (bad k v a true t = B) := ⟨_, rfl⟩
    rw [HB.out]
    go_enter Tryz.func27, Tryz.ntmps27
    go_wp2_with (go_at_call 69; refine (within_c _ _ _ _).mono ?_; rintro e w' ⟨rfl, rfl⟩; first | rw [H0.out] | rw [H1.out] | rw [H2.out])
    · rename_i hx
      go_ret
      refine ⟨?_, by go_grown⟩
      rw [← HB.out, bad_shape HR.out (by omega) (by simpa using hx)]
      rfl
    · rename_i hx
      go_ret
      refine ⟨?_, by go_grown⟩
      rw [← HB.out, bad_none HR.out (by omega) (by simpa using hx)]
      rfl
end Go.Proofs.YtpcnfoaoajfhlaaGreatDoor

namespace Go.Proofs.YtpcnfoaoajfhlaaGreatDoor
set_option linter.unusedVariables false
set_option linter.unusedSimpArgs false
open Go.RowKit

/-- a text cut at each byte c -/
def cutL (c : UInt8) : List UInt8 → List (List UInt8)
  | [] => [[]]
  | x :: s => if x = c then [] :: cutL c s else match cutL c s with
    | [] => [[x]]
    | w :: ws => (x :: w) :: ws
theorem cutL_ne (c : UInt8) (s : List UInt8) : cutL c s ≠ [] := by
  cases s with
  | nil => simp [cutL]
  | cons x s =>
    unfold cutL
    split
    · simp
    · split <;> simp
theorem cutL_hit (c : UInt8) : ∀ {s : List UInt8} {i : Nat}, s[i]? = some c → (∀ k, k < i → s[k]? ≠ some c) → cutL c s = s.take i :: cutL c (s.drop (i + 1))
  | [], i, h, _ => by simp at h
  | x :: s, 0, h, _ => by
    have : x = c := by simpa using h
    simp [cutL, this]
  | x :: s, i + 1, h, hn => by
    have h0 : x ≠ c := by simpa using hn 0 (by omega)
    have ih := cutL_hit c (s := s) (i := i) (by simpa using h) (fun k hk => by simpa using hn (k + 1) (by omega))
    simp [cutL, h0, ih]
theorem cutL_miss (c : UInt8) : ∀ {s : List UInt8}, (∀ k : Nat, s[k]? ≠ some c) → cutL c s = [s]
  | [], _ => rfl
  | x :: s, hn => by
    have h0 : x ≠ c := by simpa using hn 0
    have ih := cutL_miss c (s := s) (fun k => by simpa using hn (k + 1))
    simp [cutL, h0, ih]
theorem indexB_one (s : ByteArray) (c : UInt8) : Lib.indexB s ⟨#[c]⟩ = Lib.indexByte s.data.toList c := Lib.index_one s.data.toList c
theorem extract_dropL (s : ByteArray) (i : Nat) : (s.extract i s.size).data.toList = s.data.toList.drop i := by
  rw [Lib.extract_eq]
  have h : List.take (s.size - i) (List.drop i s.data.toList) = List.drop i s.data.toList :=
    List.take_of_length_le (by rw [List.length_drop, ← Lib.size_eq]; exact Nat.le_refl _)
  simp [h]
theorem extract_takeL (s : ByteArray) (i : Nat) : (s.extract 0 i).data.toList = s.data.toList.take i := by
  rw [Lib.extract_eq]
  simp
/-- what strings.Split answers at one byte -/
theorem splitB_cutL (c : UInt8) : ∀ (k : Nat) (s : ByteArray), Lib.countB s ⟨#[c]⟩ = k → (Lib.splitB ⟨#[c]⟩ 0 k s).map (fun b => b.data.toList) = cutL c s.data.toList
  | 0, s, hk => by
    rcases Lib.indexB_cases s ⟨#[c]⟩ with h | ⟨i, h, _⟩
    · rw [Lib.splitB_zero, cutL_miss c (Lib.indexByte_none (by rw [← indexB_one]; exact h))]
      rfl
    · have := Lib.countB_hit s ⟨#[c]⟩ i (Nat.le_refl 1) h
      omega
  | k + 1, s, hk => by
    rcases Lib.indexB_cases s ⟨#[c]⟩ with h | ⟨i, h, _⟩
    · have := Lib.countB_miss s ⟨#[c]⟩ h
      omega
    · have hc := Lib.countB_hit s ⟨#[c]⟩ i (Nat.le_refl 1) h
      have e1 : (⟨#[c]⟩ : ByteArray).size = 1 := rfl
      rw [e1] at hc
      have ih := splitB_cutL c k (s.extract (i + 1) s.size) (by omega)
      obtain ⟨h1, h2⟩ := Lib.indexByte_some (l := s.data.toList) (c := c) (o := i) (by rw [← indexB_one]; exact h)
      rw [Lib.splitB_hit _ _ _ _ i h, e1, List.map_cons, ih, cutL_hit c h1 h2, extract_dropL, Nat.add_zero, extract_takeL]
/-- the lines of a text: where nothing is left behind a byte 10, there is no line -/
def linesL (t : List UInt8) : List (List UInt8) := if (cutL 10 t).getLast? = some [] then (cutL 10 t).dropLast else cutL 10 t
theorem linesL_nil : linesL [] = [] := rfl
theorem linesL_hit {t : List UInt8} {i : Nat} (h : t[i]? = some 10) (hn : ∀ k, k < i → t[k]? ≠ some 10) : linesL t = t.take i :: linesL (t.drop (i + 1)) := by
  unfold linesL
  rw [cutL_hit 10 h hn]
  obtain ⟨a, b, e⟩ : ∃ a b, cutL 10 (t.drop (i + 1)) = a :: b := by
    cases hq : cutL 10 (t.drop (i + 1)) with
    | nil => exact absurd hq (cutL_ne _ _)
    | cons a b => exact ⟨a, b, rfl⟩
  rw [e, List.getLast?_cons_cons]
  by_cases hl : (a :: b).getLast? = some []
  · rw [if_pos hl, if_pos hl, List.dropLast_cons_of_ne_nil (by simp)]
  · rw [if_neg hl, if_neg hl]
theorem linesL_miss {t : List UInt8} (h0 : t ≠ []) (hn : ∀ k : Nat, t[k]? ≠ some 10) : linesL t = [t] := by
  unfold linesL
  rw [cutL_miss 10 hn, if_neg (by simpa using h0)]
/-- one line, and what is left, as strings.Cut tells them -/
theorem linesL_cut (s : ByteArray) (h0 : s.data.toList ≠ []) : linesL s.data.toList = (Lib.cut s.data.toList [10]).1 :: linesL (Lib.cut s.data.toList [10]).2.1 := by
  rcases Lib.indexB_cases s ⟨#[10]⟩ with h | ⟨i, h, _⟩
  · have h' : Lib.index s.data.toList [10] = -1 := h
    rw [linesL_miss h0 (Lib.indexByte_none (by rw [← indexB_one]; exact h)), Lib.cut, h', if_neg (by omega)]
    rfl
  · have h' : Lib.index s.data.toList [10] = i := h
    obtain ⟨h1, h2⟩ := Lib.indexByte_some (l := s.data.toList) (c := 10) (o := i) (by rw [← indexB_one]; exact h)
    rw [linesL_hit h1 h2, Lib.cut, h', if_pos (by omega)]
    simp
theorem linesL_less (s : ByteArray) (h0 : s.data.toList ≠ []) : (Lib.cut s.data.toList [10]).2.1.length < s.data.toList.length := by
  have hp : 0 < s.data.toList.length := List.length_pos_iff.2 h0
  rcases Lib.indexB_cases s ⟨#[10]⟩ with h | ⟨i, h, _⟩
  · have h' : Lib.index s.data.toList [10] = -1 := h
    rw [Lib.cut, h', if_neg (by omega)]
    simpa using hp
  · have h' : Lib.index s.data.toList [10] = i := h
    rw [Lib.cut, h', if_pos (by omega)]
    have h2 : (List.drop (i + 1) s.data.toList).length < s.data.toList.length := by rw [List.length_drop]; omega
    exact h2
/-- a number of at most four digits, without a needless 0 -/
def digitB (x : UInt8) : Bool := decide (48 ≤ x.toNat) && decide (x.toNat ≤ 57)
def stepD (n : Nat) (x : UInt8) : Nat := 10 * n + (x.toNat - 48)
def numL (w : List UInt8) : Option Nat :=
  if w = [] ∨ 4 < w.length ∨ (w.head? = some 48 ∧ 1 < w.length) then none else if w.all digitB = true then some (w.foldl stepD 0) else none
theorem digit_le {x : UInt8} (h : digitB x = true) : x.toNat - 48 ≤ 9 := by
  simp [digitB] at h
  omega
theorem foldD_le : ∀ {w : List UInt8} {n : Nat}, (∀ x ∈ w, digitB x = true) → w.foldl stepD n < 10 ^ w.length * (n + 1)
  | [], n, _ => by simp
  | x :: w, n, h => by
    have h1 := digit_le (h x (by simp))
    have ih := foldD_le (w := w) (n := stepD n x) (fun y hy => h y (by simp [hy]))
    have e : (x :: w).foldl stepD n = w.foldl stepD (stepD n x) := rfl
    rw [e]
    refine Nat.lt_of_lt_of_le ih ?_
    rw [List.length_cons, Nat.pow_succ, Nat.mul_assoc]
    refine Nat.mul_le_mul_left _ ?_
    unfold stepD
    omega
theorem numL_le {w : List UInt8} {n : Nat} (h : numL w = some n) : n < 10000 := by
  unfold numL at h
  split at h
  · cases h
  · rename_i h1
    split at h
    · rename_i h2
      have h3 := foldD_le (w := w) (n := 0) (by simpa using h2)
      obtain rfl := Option.some.inj h
      have hl : w.length ≤ 4 := by omega
      have hp : 10 ^ w.length ≤ 10 ^ 4 := Nat.pow_le_pow_right (by omega) hl
      omega
    · cases h
end Go.Proofs.YtpcnfoaoajfhlaaGreatDoor

namespace Go.Proofs.YtpcnfoaoajfhlaaGreatDoor
set_option linter.unusedVariables false
set_option linter.unusedSimpArgs false
open Go.RowKit

theorem size_list (s : ByteArray) : s.data.toList.length = s.size := by rw [Array.length_toList]; rfl
theorem at_list (s : ByteArray) (j : Nat) (h : j < s.size) : s.data.toList[j]? = some s[j] := by
  rw [List.getElem?_eq_getElem (by rw [size_list]; exact h)]
  rfl
theorem empty_of {s : ByteArray} (h : s.size = 0) : s = ⟨#[]⟩ := by
  apply ByteArray.ext
  exact Array.eq_empty_of_size_eq_zero h
theorem list_ne {s : ByteArray} (h : s.size ≠ 0) : s.data.toList ≠ [] := fun e => h (by rw [← size_list, e]; rfl)
theorem toL_empty {s : ByteArray} (h : s.size ≠ 0) : (s.toList == []) = false := by
  rw [beq_eq_false_iff_ne, ByteArray.toList_eq]
  exact list_ne h
/-- the digits so far -/
def upD (s : ByteArray) (j : Nat) : Nat := (s.data.toList.take j).foldl stepD 0
theorem upD_more (s : ByteArray) (j : Nat) (h : j < s.size) : upD s (j + 1) = stepD (upD s j) s[j] := by
  unfold upD
  rw [List.take_add_one, at_list s j h, List.foldl_append]
  rfl
/-- what a line that cannot be is told by -/
def badV : Value := .iface 184 (.agg #[.int .i64 2])
theorem numL_bad {s : ByteArray} {j : Nat} (h : j < s.size) (hd : digitB s[j] = false) : numL s.data.toList = none := by
  unfold numL
  split
  · rfl
  · rw [if_neg]
    intro ha
    rw [List.all_eq_true] at ha
    have := ha s[j] (List.mem_of_getElem? (at_list s j h))
    rw [hd] at this
    cases this
theorem numL_ok {s : ByteArray} (h0 : s.size ≠ 0) (h4 : s.size ≤ 4) (hz : ¬ (s.data.toList.head? = some 48 ∧ 1 < s.size)) (hd : ∀ j (h : j < s.size), digitB s[j] = true) : numL s.data.toList = some (upD s s.size) := by
  unfold numL
  rw [if_neg, if_pos]
  · unfold upD
    rw [List.take_of_length_le (by rw [size_list]; exact Nat.le_refl _)]
  · rw [List.all_eq_true]
    intro x hx
    obtain ⟨j, hj, e⟩ := List.mem_iff_getElem.1 hx
    have hj' : j < s.size := by rw [← size_list]; exact hj
    have := hd j hj'
    rw [← e]
    exact this
  · rintro (h | h | h)
    · exact list_ne h0 h
    · rw [size_list] at h; omega
    · rw [size_list] at h; exact hz h
theorem upD_lt (s : ByteArray) (j : Nat) (hj : j ≤ s.size) (h4 : s.size ≤ 4) (hd : ∀ i (h : i < s.size), i < j → digitB s[i] = true) : upD s j < 10000 := by
  have h1 := foldD_le (w := s.data.toList.take j) (n := 0) (fun x hx => by
    obtain ⟨i, hi, e⟩ := List.mem_iff_getElem.1 hx
    have hi2 : i < j := by rw [List.length_take] at hi; omega
    have := hd i (by omega) hi2
    rw [← e, List.getElem_take]
    exact this)
  have hl : (s.data.toList.take j).length ≤ 4 := by rw [List.length_take, size_list]; omega
  have hp : 10 ^ (s.data.toList.take j).length ≤ 10 ^ 4 := Nat.pow_le_pow_right (by omega) hl
  unfold upD
  omega
/-- what readNumber answers -/
def numV (o : Option Nat) : Value := match o with
  | some n => .tuple #[.int .i64 n, .nilIface]
  | none => .tuple #[.int .i64 0, badV]
set_option maxHeartbeats 4000000 in
theorem readNumber_c (s : ByteArray) (w : World) (hs : s.size ≤ 9223372036854775807) :
    Calls Tryz.prog 195 #[.string s] w fun e w' => e = .returned (numV (numL s.data.toList)) ∧ w' = w := by
  have hbad : numL s.data.toList = none → numV (numL s.data.toList) = .tuple #[.int .i64 0, .iface 184 (.agg #[.int .i64 2])] := fun h => by rw [h]; rfl
  by_cases h0 : s.size = 0
  · rw [hbad (by rw [empty_of h0]; rfl)]
    have e := empty_of h0
    subst e
    clear h0 hs hbad
    go_enter Tryz.func195, Tryz.ntmps195
    go_wp2_with fail
    go_ret2
    exact ⟨rfl, rfl⟩
  have he := toL_empty h0
  by_cases h4 : 4 < s.size
  · have h4i : (4 : Int) < (s.size : Int) := by omega
    rw [hbad (by unfold numL; rw [if_pos (.inr (.inl (by rw [size_list]; exact h4)))])]
    clear hbad
    go_enter Tryz.func195, Tryz.ntmps195
    go_wp2_with fail
    go_ret2
    exact ⟨rfl, rfl⟩
  have h4i : ¬ (4 : Int) < (s.size : Int) := by omega
  have h0s : 0 < s.size := by omega
  by_cases hz : s.data.toList.head? = some 48 ∧ 1 < s.size
  · have hz0 : s[0] = 48 := by
      have h1 := hz.1
      rw [List.head?_eq_getElem?, at_list s 0 h0s] at h1
      exact Option.some.inj h1
    have hz1 : (1 : Int) < (s.size : Int) := by have := hz.2; omega
    have hz2 : ((s[0].toNat : Int) == 48) = true := by rw [hz0]; rfl
    rw [hbad (by unfold numL; rw [if_pos (.inr (.inr ⟨hz.1, by rw [size_list]; exact hz.2⟩))])]
    clear hbad hz
    go_enter Tryz.func195, Tryz.ntmps195
    go_wp2_with fail
    go_ret2
    exact ⟨rfl, rfl⟩
  go_enter Tryz.func195, Tryz.ntmps195
  go_upto_region 1 with fail
  go_cut [22] (fun c wd => wd = w ∧ c = .bool false)
  case first =>
    by_cases h48 : s[0].toNat = 48
    · have hz2 : ((s[0].toNat : Int) == 48) = true := by rw [h48]; rfl
      have hz1 : ¬ (1 : Int) < (s.size : Int) := by
        intro h
        refine hz ⟨?_, by omega⟩
        rw [List.head?_eq_getElem?, at_list s 0 h0s]
        exact congrArg some (UInt8.toNat_inj.1 h48)
      go_wp2_with fail
      go_meet
      case rel => exact ⟨rfl, rfl⟩
    · have hz2 : ((s[0].toNat : Int) == 48) = false := by simp; omega
      go_wp2_with fail
      go_meet
      case rel => exact ⟨rfl, rfl⟩
  case rest =>
  obtain ⟨hwd, rfl⟩ := hcut
  rw [hwd]
  clear hwd wc he h4i hbad
  go_wp2_with fail
  go_loopw [4, 27] (fun c4 c27 wr => ∃ j : Nat, j ≤ s.size ∧ c27 = .int .i64 j ∧ c4 = .int .i64 (upD s j : Nat) ∧ wr = w ∧ Hid (∀ i (h : i < s.size), i < j → digitB s[i] = true)) (fun _ c _ => s.size - (intOf c).toNat)
  case atStart => exact ⟨0, Nat.zero_le _, rfl, rfl, rfl, fun i _ h => absurd h (by omega)⟩
  case round =>
    obtain ⟨j, hj, rfl, rfl, hwr, HD⟩ := hrel
    rw [hwr]
    clear hwr wr
    by_cases hlt : j < s.size
    · have hlti : (j : Int) < (s.size : Int) := by omega
      by_cases hx : s[j].toNat < 48
      · have hx1 : (s[j].toNat : Int) < 48 := by omega
        have hb : numL s.data.toList = none := numL_bad hlt (by simp [digitB]; omega)
        go_wp2_with fail
        go_ret2
        exact ⟨by first | rfl | (rw [hb]; rfl), rfl⟩
      have hx1 : ¬ (s[j].toNat : Int) < 48 := by omega
      by_cases hy : 57 < s[j].toNat
      · have hy1 : (57 : Int) < (s[j].toNat : Int) := by omega
        have hb : numL s.data.toList = none := numL_bad hlt (by simp [digitB]; omega)
        go_wp2_with fail
        go_ret2
        exact ⟨by first | rfl | (rw [hb]; rfl), rfl⟩
      have hy1 : ¬ (57 : Int) < (s[j].toNat : Int) := by omega
      have HD2 : Hid (∀ i (h : i < s.size), i < j + 1 → digitB s[i] = true) := fun i h hi => by
        by_cases h2 : i < j
        · exact HD.out i h h2
        · obtain rfl : i = j := by omega
          simp [digitB]
          omega
      have hup := upD_lt s j hj (by omega) HD.out
      have hmore := upD_more s j hlt
      unfold stepD at hmore
      go_wp2_with fail
      go_roundw
      case rel => exact ⟨j + 1, by omega, by go_num, by rw [hmore]; go_num, trivial, HD2⟩
      case measure => simp [intOf]; omega
    · obtain rfl : j = s.size := by omega
      have hb : numL s.data.toList = some (upD s s.size) := numL_ok h0 (by omega) hz (fun i h => HD.out i h h)
      go_wp2_with fail
      go_ret2
      exact ⟨by first | rfl | (rw [hb]; rfl), rfl⟩
end Go.Proofs.YtpcnfoaoajfhlaaGreatDoor

namespace Go.Proofs.YtpcnfoaoajfhlaaGreatDoor
set_option linter.unusedVariables false
set_option linter.unusedSimpArgs false
open Go.RowKit

/-- one byte more -/
def stepH (n c : Nat) : Nat := ((n ^^^ c) * 16777619) % 4294967296
/-- the number of a text -/
def hashL (l : List Nat) : Nat := l.foldl stepH 2166136261
theorem stepH_lt (n c : Nat) : stepH n c < 4294967296 := Nat.mod_lt _ (by omega)
theorem hashL_lt (l : List Nat) : hashL l < 4294967296 := by
  have key : ∀ (l : List Nat) (n : Nat), n < 4294967296 → l.foldl stepH n < 4294967296 := by
    intro l
    induction l with
    | nil => intro n h; exact h
    | cons c l ih => intro n _; exact ih _ (stepH_lt n c)
  exact key l _ (by omega)
theorem foldl_more {α β : Type} (f : β → α → β) (b : β) (l : List α) (c : α) : (l ++ [c]).foldl f b = f (l.foldl f b) c := by simp
theorem hashL_more (l : List Nat) (c : Nat) : hashL (l ++ [c]) = stepH (hashL l) c := foldl_more stepH 2166136261 l c
theorem mul_undo {a b : Nat} (ha : a < 4294967296) (hb : b < 4294967296) (h : (a * 16777619) % 4294967296 = (b * 16777619) % 4294967296) : a = b := by
  have e : ∀ x : Nat, x < 4294967296 → ((x * 16777619) % 4294967296 * 899433627) % 4294967296 = x := by
    intro x hx
    rw [Nat.mod_mul_mod, Nat.mul_assoc]
    have : 16777619 * 899433627 = 1 + 4294967296 * 3513497 := by decide
    rw [this, Nat.mul_add, Nat.mul_one, Nat.mul_left_comm, Nat.add_mul_mod_self_left]
    exact Nat.mod_eq_of_lt hx
  rw [← e a ha, ← e b hb, h]
theorem xor_lt32 {n c : Nat} (hn : n < 4294967296) (hc : c < 256) : n ^^^ c < 4294967296 :=
  Nat.xor_lt_two_pow (n := 32) hn (by omega)
/-- unlike bytes behind make unlike numbers -/
theorem stepH_inj {n c d : Nat} (hn : n < 4294967296) (hc : c < 256) (hd : d < 256) (h : stepH n c = stepH n d) : c = d := by
  have h1 := mul_undo (xor_lt32 hn hc) (xor_lt32 hn hd) h
  have h2 : n ^^^ (n ^^^ c) = n ^^^ (n ^^^ d) := by rw [h1]
  rwa [← Nat.xor_assoc, ← Nat.xor_assoc, Nat.xor_self, Nat.zero_xor, Nat.zero_xor] at h2
/-- the exclusive or of the low k bits, as the document sums it -/
def bitsX (a b : Nat) : Nat → Nat
  | 0 => 0
  | k + 1 => bitsX a b k + (if a / 2 ^ k % 2 ≠ b / 2 ^ k % 2 then 2 ^ k else 0)
theorem xor_bit (a b k : Nat) : (a ^^^ b) / 2 ^ k % 2 = if a / 2 ^ k % 2 ≠ b / 2 ^ k % 2 then 1 else 0 := by
  rw [← Nat.shiftRight_eq_div_pow, Nat.shiftRight_xor_distrib, Nat.shiftRight_eq_div_pow, Nat.shiftRight_eq_div_pow]
  have h := Nat.xor_mod_two_eq_one (a := a / 2 ^ k) (b := b / 2 ^ k)
  have h0 := Nat.mod_two_eq_zero_or_one (a / 2 ^ k ^^^ b / 2 ^ k)
  split
  · rename_i hne
    exact h.2 (by omega)
  · rename_i hne
    rcases h0 with h0 | h0
    · exact h0
    · have := h.1 h0
      omega
theorem bitsX_mod (a b k : Nat) : bitsX a b k = (a ^^^ b) % 2 ^ k := by
  induction k with
  | zero => simp [bitsX, Nat.mod_one]
  | succ k ih =>
    rw [bitsX, ih, Nat.mod_pow_succ, xor_bit]
    split <;> simp
theorem bitsX_eight {a b : Nat} (ha : a < 256) (hb : b < 256) : bitsX a b 8 = a ^^^ b := by
  rw [bitsX_mod]
  exact Nat.mod_eq_of_lt (Nat.xor_lt_two_pow (n := 8) ha hb)
/-- the low byte alone is changed -/
theorem low_xor {n c : Nat} (hc : c < 256) : n - n % 256 + bitsX (n % 256) c 8 = n ^^^ c := by
  rw [bitsX_eight (Nat.mod_lt _ (by omega)) hc]
  have h1 : (n ^^^ c) % 256 = (n % 256) ^^^ c := by
    have := Nat.xor_mod_two_pow (a := n) (b := c) (n := 8)
    rw [show (2 : Nat) ^ 8 = 256 from rfl] at this
    rw [this, Nat.mod_eq_of_lt hc]
  have h2 : (n ^^^ c) / 256 = n / 256 := by
    rw [show (256 : Nat) = 2 ^ 8 from rfl, ← Nat.shiftRight_eq_div_pow, Nat.shiftRight_xor_distrib, Nat.shiftRight_eq_div_pow, Nat.shiftRight_eq_div_pow, Nat.div_eq_of_lt (a := c) hc, Nat.xor_zero]
  rw [← h1]
  have h3 := Nat.div_add_mod (n ^^^ c) 256
  have h4 := Nat.div_add_mod n 256
  omega
end Go.Proofs.YtpcnfoaoajfhlaaGreatDoor

namespace Go.Proofs.YtpcnfoaoajfhlaaGreatDoor
set_option linter.unusedVariables false
set_option linter.unusedSimpArgs false
open Go.RowKit

/-- a text's bytes as numbers -/
def byN (s : ByteArray) : List Nat := s.data.toList.map UInt8.toNat
theorem byN_len (s : ByteArray) : (byN s).length = s.size := by
  rw [byN, List.length_map, Array.length_toList]
  rfl

theorem xor_u32 (a b : Nat) (ha : a < 4294967296) (hb : b < 4294967296) : bits .xor .u32 (a : Int) (b : Int) = ((a ^^^ b : Nat) : Int) := by
  have hx : a ^^^ b < 4294967296 := Nat.xor_lt_two_pow (n := 32) ha hb
  have e : ∀ x : Nat, x < 4294967296 → (BitVec.ofInt 32 (x : Int)).toNat = x := fun x h => by
    rw [BitVec.ofInt_natCast, BitVec.toNat_ofNat]
    exact Nat.mod_eq_of_lt h
  show IntKind.u32.wrap ((BitVec.ofInt 32 (a : Int) ^^^ BitVec.ofInt 32 (b : Int)).toNat : Int) = _
  rw [BitVec.toNat_xor, e a ha, e b hb]
  have hw : ∀ n : Int, IntKind.u32.wrap n = n % 4294967296 := fun n => by simp [IntKind.wrap, IntKind.bits, IntKind.signed]
  rw [hw]
  omega
/-- a step, as the program makes it -/
theorem step_u32 (m c : Nat) (hm : m < 4294967296) (hc : c < 256) : bits BinOp.xor IntKind.u32 (m : Int) ((c : Int) % 4294967296) * 16777619 % 4294967296 = (stepH m c : Nat) := by
  rw [show ((c : Int) % 4294967296) = (c : Int) by omega, xor_u32 m c hm (by omega)]
  obtain ⟨x, hx⟩ : ∃ x, x = m ^^^ c := ⟨_, rfl⟩
  have e : stepH m c = (x * 16777619) % 4294967296 := by rw [hx, stepH]
  rw [e, ← hx]
  omega
/-- one byte more of a text -/
theorem hash_take (s : ByteArray) (j : Nat) (h : j < s.size) : hashL ((byN s).take (j + 1)) = stepH (hashL ((byN s).take j)) s[j].toNat := by
  have hl : j < (byN s).length := by rw [byN_len]; exact h
  have e : (byN s)[j] = s[j].toNat := by simp [byN]; rfl
  rw [List.take_succ_eq_append_getElem hl, hashL_more, e]
theorem hash_all (s : ByteArray) (j : Nat) (h : ¬ j < s.size) : hashL ((byN s).take j) = hashL (byN s) := by
  rw [List.take_of_length_le (by rw [byN_len]; omega)]

set_option maxHeartbeats 4000000 in
theorem number_c (s : ByteArray) (w : World) (hs : s.size ≤ 9223372036854775807) :
    Calls Tryz.prog 145 #[.string s] w fun e w' => e = .returned (.int .i64 (hashL (byN s) : Nat)) ∧ w' = w := by
  obtain ⟨R, HR⟩ : ∃ R : Nat, Hid (hashL (byN s) = R) := ⟨_, rfl⟩
  rw [HR.out]
  go_enter Tryz.func145, Tryz.ntmps145
  go_wp2_with fail
  go_loopw [3, 7] (fun x i wr => ∃ (j : Nat) (m : Nat), j ≤ s.size ∧ i = .int .i64 j ∧ x = .int .u32 m ∧ m < 4294967296 ∧ wr = w ∧ Hid (m = hashL ((byN s).take j))) (fun _ i _ => s.size - (intOf i).toNat)
  case atStart => exact ⟨0, 2166136261, Nat.zero_le _, rfl, rfl, by omega, rfl, by rw [List.take_zero]; rfl⟩
  case round =>
    obtain ⟨j, m, hj, rfl, rfl, hm, rfl, HE⟩ := hrel
    by_cases hlt : j < s.size
    · go_wp2_with fail
      go_roundw
      case rel =>
        refine ⟨j + 1, stepH m s[j].toNat, by omega, by go_num, ?_, stepH_lt _ _, trivial, ?_⟩
        · rw [step_u32 m s[j].toNat hm (UInt8.toNat_lt _)]
        · show _ = _
          rw [hash_take s j hlt, ← HE.out]
      case measure => simp [intOf]; omega
    · go_wp2_with fail
      go_ret
      have e : m = R := by rw [HE.out, hash_all s j hlt]; exact HR.out
      exact ⟨by rw [← e]; rfl, rfl⟩
end Go.Proofs.YtpcnfoaoajfhlaaGreatDoor
