/-
  Package entry by its contracts: what is wrong with an entry, what two entries know, whether one is true at a number. Nothing old in memory turns.
  The number of a text, on lists of bytes: a step, how it is undone, and the exclusive or bit by bit.
  Package hash by its contracts: the number of a text.
  Package hash by its contracts: numbers in decimal, a stroke between.
  The document's digits, by their contract: they are the library's.
  Package entry by its contracts: what two entries know.
  Package hash by its contracts: Text, Two, Entry.
  Package hash by its contracts: Entry.
  A tree over eight keys, on functions: f tells a key's number, P that of two numbers. Where two trees part, and how many nodes are asked.
  The number of two numbers and of an entry, in a form that can be reckoned; the one tree's fact.
  Package entry by its contracts: what two entries of one key know; whether one is true at a number.
  Package entry by its contracts: Join of any two entries; True.
-/
import Derived.Test.YtippdgmgmenboagDoorRows
import Derived.WalkKit
import Derived.Laws.StructEq
import Derived.Deep.DeepCutAuto
import Derived.Deep.CutBlock
import Derived.Deep.LoopGhost
import Derived.ProofKit
import Derived.OpenShut
import Derived.Handy
import Derived.WalkSmall
import Derived.BigRegion
import Derived.BigQuiet
import Derived.Test.YtippdgmgmenboagDoorShf
import Derived.Lib.ItoaLen
import Derived.Lib.Slices
import Derived.Lib.Hide
import Derived.Laws.IdiomStrings
import Derived.OwnWalk
import Derived.BigCall
import Derived.Lib.ItoaNum
import Derived.BigGuard
import Derived.Deep.RegionHeld3
namespace Go.Proofs.YtippdgmgmenboagDoor
set_option linter.unusedVariables false
set_option linter.unusedSimpArgs false
set_option linter.unusedVariables false
set_option linter.unusedSimpArgs false
open Go.RowKit

/-- an entry -/
structure En where
  k : Int
  v : Int
  a : Int
  g : Bool
  t : ByteArray
def En.val (e : En) : Value := .agg #[.int .i64 e.k, .int .i64 e.v, .int .i64 e.a, .bool e.g, .string e.t]
def inR (n lo hi : Int) : Bool := decide (lo ≤ n) && decide (n ≤ hi)
/-- what is wrong with an entry: 0, nothing -/
def bad (k v a : Int) (g : Bool) (t : ByteArray) : Int :=
  if (inR k 0 7 && inR v 0 1000 && inR a v 1000) = false then 1 else if 12 < (t.size : Int) then 4 else if (g && !t.toList.isEmpty) = true then 3 else 0
/-- an error's value: 0, none -/
def eV (n : Int) : Value := if n = 0 then .nilIface else .iface 55 (.int .i64 n)

theorem within_c (n lo hi : Int) (w : World) : Calls Tryd.prog 51 #[.int .i64 n, .int .i64 lo, .int .i64 hi] w fun e w' => e = .returned (.bool (inR n lo hi)) ∧ w' = w := by
  go_enter Tryd.func51, Tryd.ntmps51
  go_wp2_with fail
  · go_ret
    refine ⟨?_, rfl⟩
    rename_i h
    simp [inR, h]
  · go_ret
    refine ⟨?_, rfl⟩
    rename_i h
    have h2 : ¬ lo ≤ n := by omega
    simp [inR, h2]
theorem within_b (n lo hi : Int) (b : Bool) (w : World) (hb : inR n lo hi = b) : Calls Tryd.prog 51 #[.int .i64 n, .int .i64 lo, .int .i64 hi] w fun e w' => e = .returned (.bool b) ∧ w' = w := by
  subst hb
  exact within_c n lo hi w
theorem bad_ver {k v a : Int} {g : Bool} {t : ByteArray} (h : (inR k 0 7 && inR v 0 1000 && inR a v 1000) = false) : bad k v a g t = 1 := by
  unfold bad
  rw [if_pos h]
theorem bad_full {k v a : Int} {g : Bool} {t : ByteArray} (h : (inR k 0 7 && inR v 0 1000 && inR a v 1000) = true) (h2 : 12 < (t.size : Int)) : bad k v a g t = 4 := by
  unfold bad
  rw [if_neg (by simp [h]), if_pos h2]
theorem bad_shape {k v a : Int} {g : Bool} {t : ByteArray} (h : (inR k 0 7 && inR v 0 1000 && inR a v 1000) = true) (h2 : ¬ 12 < (t.size : Int)) (h3 : (g && !t.toList.isEmpty) = true) : bad k v a g t = 3 := by
  unfold bad
  rw [if_neg (by simp [h]), if_neg h2, if_pos h3]
theorem bad_none {k v a : Int} {g : Bool} {t : ByteArray} (h : (inR k 0 7 && inR v 0 1000 && inR a v 1000) = true) (h2 : ¬ 12 < (t.size : Int)) (h3 : (g && !t.toList.isEmpty) = false) : bad k v a g t = 0 := by
  unfold bad
  rw [if_neg (by simp [h]), if_neg h2, if_neg (by rw [h3]; simp)]
set_option maxHeartbeats 4000000 in
theorem check_c (k v a : Int) (g : Bool) (t : ByteArray) (w : World) :
    Calls Tryd.prog 36 #[.agg #[.int .i64 k, .int .i64 v, .int .i64 a, .bool g, .string t]] w fun e w' => e = .returned (eV (bad k v a g t)) ∧ Below w.heap.size w w' := by
  obtain ⟨b0, H0⟩ : ∃ b, Hid (inR k 0 7 = b) := ⟨_, rfl⟩
  obtain ⟨b1, H1⟩ : ∃ b, Hid (inR v 0 1000 = b) := ⟨_, rfl⟩
  obtain ⟨b2, H2⟩ : ∃ b, Hid (inR a v 1000 = b) := ⟨_, rfl⟩
  cases b0
  · rw [bad_ver (by rw [H0.out]; rfl)]
    go_enter Tryd.func36, Tryd.ntmps36
    go_wp2_with (go_at_call 51; refine (within_c _ _ _ _).mono ?_; rintro e w' ⟨rfl, rfl⟩; first | rw [H0.out] | rw [H1.out] | rw [H2.out])
    go_ret
    exact ⟨rfl, by go_grown⟩
  cases b1
  · rw [bad_ver (by rw [H0.out, H1.out]; rfl)]
    go_enter Tryd.func36, Tryd.ntmps36
    go_wp2_with (go_at_call 51; refine (within_c _ _ _ _).mono ?_; rintro e w' ⟨rfl, rfl⟩; first | rw [H0.out] | rw [H1.out] | rw [H2.out])
    go_ret
    exact ⟨rfl, by go_grown⟩
  cases b2
  · rw [bad_ver (by rw [H0.out, H1.out, H2.out]; rfl)]
    go_enter Tryd.func36, Tryd.ntmps36
    go_wp2_with (go_at_call 51; refine (within_c _ _ _ _).mono ?_; rintro e w' ⟨rfl, rfl⟩; first | rw [H0.out] | rw [H1.out] | rw [H2.out])
    go_ret
    exact ⟨rfl, by go_grown⟩
  have HR : Hid ((inR k 0 7 && inR v 0 1000 && inR a v 1000) = true) := by rw [H0.out, H1.out, H2.out]; rfl
  by_cases h2 : 12 < (t.size : Int)
  · rw [bad_full HR.out h2]
    go_enter Tryd.func36, Tryd.ntmps36
    go_wp2_with (go_at_call 51; refine (within_c _ _ _ _).mono ?_; rintro e w' ⟨rfl, rfl⟩; first | rw [H0.out] | rw [H1.out] | rw [H2.out])
    go_ret
    exact ⟨rfl, by go_grown⟩
  cases g
  · rw [bad_none HR.out h2 rfl]
    go_enter Tryd.func36, Tryd.ntmps36
    go_wp2_with (go_at_call 51; refine (within_c _ _ _ _).mono ?_; rintro e w' ⟨rfl, rfl⟩; first | rw [H0.out] | rw [H1.out] | rw [H2.out])
    go_ret
    exact ⟨rfl, by go_grown⟩
  · obtain ⟨B, HB⟩ : ∃ B, Hid (bad k v a true t = B) := ⟨_, rfl⟩
    rw [HB.out]
    go_enter Tryd.func36, Tryd.ntmps36
    go_wp2_with (go_at_call 51; refine (within_c _ _ _ _).mono ?_; rintro e w' ⟨rfl, rfl⟩; first | rw [H0.out] | rw [H1.out] | rw [H2.out])
    · rename_i hx
      go_ret
      refine ⟨?_, by go_grown⟩
      rw [← HB.out, bad_shape HR.out (by omega) (by simpa using hx)]
      rfl
    · rename_i hx
      go_ret
      refine ⟨?_, by go_grown⟩
      rw [← HB.out, bad_none HR.out (by omega) (by simpa using hx)]
      rfl
end Go.Proofs.YtippdgmgmenboagDoor

namespace Go.Proofs.YtippdgmgmenboagDoor
set_option linter.unusedVariables false
set_option linter.unusedSimpArgs false
open Go.RowKit

/-- one byte more -/
def stepH (n c : Nat) : Nat := ((n ^^^ c) * 16777619) % 4294967296
/-- the number of a text -/
def hashL (l : List Nat) : Nat := l.foldl stepH 2166136261
theorem stepH_lt (n c : Nat) : stepH n c < 4294967296 := Nat.mod_lt _ (by omega)
theorem hashL_lt (l : List Nat) : hashL l < 4294967296 := by
  have key : ∀ (l : List Nat) (n : Nat), n < 4294967296 → l.foldl stepH n < 4294967296 := by
    intro l
    induction l with
    | nil => intro n h; exact h
    | cons c l ih => intro n _; exact ih _ (stepH_lt n c)
  exact key l _ (by omega)
theorem foldl_more {α β : Type} (f : β → α → β) (b : β) (l : List α) (c : α) : (l ++ [c]).foldl f b = f (l.foldl f b) c := by simp
theorem hashL_more (l : List Nat) (c : Nat) : hashL (l ++ [c]) = stepH (hashL l) c := foldl_more stepH 2166136261 l c
theorem mul_undo {a b : Nat} (ha : a < 4294967296) (hb : b < 4294967296) (h : (a * 16777619) % 4294967296 = (b * 16777619) % 4294967296) : a = b := by
  have e : ∀ x : Nat, x < 4294967296 → ((x * 16777619) % 4294967296 * 899433627) % 4294967296 = x := by
    intro x hx
    rw [Nat.mod_mul_mod, Nat.mul_assoc]
    have : 16777619 * 899433627 = 1 + 4294967296 * 3513497 := by decide
    rw [this, Nat.mul_add, Nat.mul_one, Nat.mul_left_comm, Nat.add_mul_mod_self_left]
    exact Nat.mod_eq_of_lt hx
  rw [← e a ha, ← e b hb, h]
theorem xor_lt32 {n c : Nat} (hn : n < 4294967296) (hc : c < 256) : n ^^^ c < 4294967296 :=
  Nat.xor_lt_two_pow (n := 32) hn (by omega)
/-- unlike bytes behind make unlike numbers -/
theorem stepH_inj {n c d : Nat} (hn : n < 4294967296) (hc : c < 256) (hd : d < 256) (h : stepH n c = stepH n d) : c = d := by
  have h1 := mul_undo (xor_lt32 hn hc) (xor_lt32 hn hd) h
  have h2 : n ^^^ (n ^^^ c) = n ^^^ (n ^^^ d) := by rw [h1]
  rwa [← Nat.xor_assoc, ← Nat.xor_assoc, Nat.xor_self, Nat.zero_xor, Nat.zero_xor] at h2
/-- the exclusive or of the low k bits, as the document sums it -/
def bitsX (a b : Nat) : Nat → Nat
  | 0 => 0
  | k + 1 => bitsX a b k + (if a / 2 ^ k % 2 ≠ b / 2 ^ k % 2 then 2 ^ k else 0)
theorem xor_bit (a b k : Nat) : (a ^^^ b) / 2 ^ k % 2 = if a / 2 ^ k % 2 ≠ b / 2 ^ k % 2 then 1 else 0 := by
  rw [← Nat.shiftRight_eq_div_pow, Nat.shiftRight_xor_distrib, Nat.shiftRight_eq_div_pow, Nat.shiftRight_eq_div_pow]
  have h := Nat.xor_mod_two_eq_one (a := a / 2 ^ k) (b := b / 2 ^ k)
  have h0 := Nat.mod_two_eq_zero_or_one (a / 2 ^ k ^^^ b / 2 ^ k)
  split
  · rename_i hne
    exact h.2 (by omega)
  · rename_i hne
    rcases h0 with h0 | h0
    · exact h0
    · have := h.1 h0
      omega
theorem bitsX_mod (a b k : Nat) : bitsX a b k = (a ^^^ b) % 2 ^ k := by
  induction k with
  | zero => simp [bitsX, Nat.mod_one]
  | succ k ih =>
    rw [bitsX, ih, Nat.mod_pow_succ, xor_bit]
    split <;> simp
theorem bitsX_eight {a b : Nat} (ha : a < 256) (hb : b < 256) : bitsX a b 8 = a ^^^ b := by
  rw [bitsX_mod]
  exact Nat.mod_eq_of_lt (Nat.xor_lt_two_pow (n := 8) ha hb)
/-- the low byte alone is changed -/
theorem low_xor {n c : Nat} (hc : c < 256) : n - n % 256 + bitsX (n % 256) c 8 = n ^^^ c := by
  rw [bitsX_eight (Nat.mod_lt _ (by omega)) hc]
  have h1 : (n ^^^ c) % 256 = (n % 256) ^^^ c := by
    have := Nat.xor_mod_two_pow (a := n) (b := c) (n := 8)
    rw [show (2 : Nat) ^ 8 = 256 from rfl] at this
    rw [this, Nat.mod_eq_of_lt hc]
  have h2 : (n ^^^ c) / 256 = n / 256 := by
    rw [show (256 : Nat) = 2 ^ 8 from rfl, ← Nat.shiftRight_eq_div_pow, Nat.shiftRight_xor_distrib, Nat.shiftRight_eq_div_pow, Nat.shiftRight_eq_div_pow, Nat.div_eq_of_lt (a := c) hc, Nat.xor_zero]
  rw [← h1]
  have h3 := Nat.div_add_mod (n ^^^ c) 256
  have h4 := Nat.div_add_mod n 256
  omega
end Go.Proofs.YtippdgmgmenboagDoor

namespace Go.Proofs.YtippdgmgmenboagDoor
set_option linter.unusedVariables false
set_option linter.unusedSimpArgs false
open Go.RowKit

/-- a text's bytes as numbers -/
def byN (s : ByteArray) : List Nat := s.data.toList.map UInt8.toNat
theorem byN_len (s : ByteArray) : (byN s).length = s.size := by
  rw [byN, List.length_map, Array.length_toList]
  rfl

theorem xor_u32 (a b : Nat) (ha : a < 4294967296) (hb : b < 4294967296) : bits .xor .u32 (a : Int) (b : Int) = ((a ^^^ b : Nat) : Int) := by
  have hx : a ^^^ b < 4294967296 := Nat.xor_lt_two_pow (n := 32) ha hb
  have e : ∀ x : Nat, x < 4294967296 → (BitVec.ofInt 32 (x : Int)).toNat = x := fun x h => by
    rw [BitVec.ofInt_natCast, BitVec.toNat_ofNat]
    exact Nat.mod_eq_of_lt h
  show IntKind.u32.wrap ((BitVec.ofInt 32 (a : Int) ^^^ BitVec.ofInt 32 (b : Int)).toNat : Int) = _
  rw [BitVec.toNat_xor, e a ha, e b hb]
  have hw : ∀ n : Int, IntKind.u32.wrap n = n % 4294967296 := fun n => by simp [IntKind.wrap, IntKind.bits, IntKind.signed]
  rw [hw]
  omega
/-- a step, as the program makes it -/
theorem step_u32 (m c : Nat) (hm : m < 4294967296) (hc : c < 256) : bits BinOp.xor IntKind.u32 (m : Int) ((c : Int) % 4294967296) * 16777619 % 4294967296 = (stepH m c : Nat) := by
  rw [show ((c : Int) % 4294967296) = (c : Int) by omega, xor_u32 m c hm (by omega)]
  obtain ⟨x, hx⟩ : ∃ x, x = m ^^^ c := ⟨_, rfl⟩
  have e : stepH m c = (x * 16777619) % 4294967296 := by rw [hx, stepH]
  rw [e, ← hx]
  omega
/-- one byte more of a text -/
theorem hash_take (s : ByteArray) (j : Nat) (h : j < s.size) : hashL ((byN s).take (j + 1)) = stepH (hashL ((byN s).take j)) s[j].toNat := by
  have hl : j < (byN s).length := by rw [byN_len]; exact h
  have e : (byN s)[j] = s[j].toNat := by simp [byN]; rfl
  rw [List.take_succ_eq_append_getElem hl, hashL_more, e]
theorem hash_all (s : ByteArray) (j : Nat) (h : ¬ j < s.size) : hashL ((byN s).take j) = hashL (byN s) := by
  rw [List.take_of_length_le (by rw [byN_len]; omega)]

set_option maxHeartbeats 4000000 in
theorem number_c (s : ByteArray) (w : World) (hs : s.size ≤ 9223372036854775807) :
    Calls Tryd.prog 59 #[.string s] w fun e w' => e = .returned (.int .i64 (hashL (byN s) : Nat)) ∧ w' = w := by
  obtain ⟨R, HR⟩ : ∃ R : Nat, Hid (hashL (byN s) = R) := ⟨_, rfl⟩
  rw [HR.out]
  go_enter Tryd.func59, Tryd.ntmps59
  go_wp2_with fail
  go_loopw [3, 7] (fun x i wr => ∃ (j : Nat) (m : Nat), j ≤ s.size ∧ i = .int .i64 j ∧ x = .int .u32 m ∧ m < 4294967296 ∧ wr = w ∧ Hid (m = hashL ((byN s).take j))) (fun _ i _ => s.size - (intOf i).toNat)
  case atStart => exact ⟨0, 2166136261, Nat.zero_le _, rfl, rfl, by omega, rfl, by rw [List.take_zero]; rfl⟩
  case round =>
    obtain ⟨j, m, hj, rfl, rfl, hm, rfl, HE⟩ := hrel
    by_cases hlt : j < s.size
    · go_wp2_with fail
      go_roundw
      case rel =>
        refine ⟨j + 1, stepH m s[j].toNat, by omega, by go_num, ?_, stepH_lt _ _, trivial, ?_⟩
        · rw [step_u32 m s[j].toNat hm (UInt8.toNat_lt _)]
        · show _ = _
          rw [hash_take s j hlt, ← HE.out]
      case measure => simp [intOf]; omega
    · go_wp2_with fail
      go_ret
      have e : m = R := by rw [HE.out, hash_all s j hlt]; exact HR.out
      exact ⟨by rw [← e]; rfl, rfl⟩
end Go.Proofs.YtippdgmgmenboagDoor

namespace Go.Proofs.YtippdgmgmenboagDoor
set_option linter.unusedVariables false
set_option linter.unusedSimpArgs false
open Go.RowKit

/-- the first k numbers as they are written -/
def wrP (l : List Int) : Nat → List UInt8
  | 0 => []
  | k + 1 => wrP l k ++ ((if 0 < k then [47] else []) ++ Lib.itoa (l.getD k 0))
/-- a row of numbers that a call has laid -/
def NumsAt (w : World) (v : Value) (l : List Int) : Prop := ∃ b o, v = .slice (some ⟨b, o, none⟩) l.length l.length ∧ b < w.heap.size ∧ ∀ j (h : j < l.length), w.cell? ⟨b, o + j, none⟩ = some (.int .i64 l[j])
theorem infoByte : (Tryd.prog.info? 5).map (fun i => (i.zero, i.size, i.bytes)) = some (some (.int .u8 0), 1, 1) := by kernel_rfl
theorem wrP_len (l : List Int) (hr : ∀ x ∈ l, -9223372036854775808 ≤ x ∧ x ≤ 9223372036854775807) : ∀ k, k ≤ l.length → (wrP l k).length ≤ 22 * k := by
  intro k
  induction k with
  | zero => intro _; exact Nat.le_refl _
  | succ k ih =>
    intro h
    have hm : l.getD k 0 ∈ l := by rw [List.getD_eq_getElem?_getD, List.getElem?_eq_getElem (by omega)]; exact List.getElem_mem _
    have := ih (by omega)
    have h1 := Lib.itoa_length_le (l.getD k 0) (hr _ hm).1 (hr _ hm).2
    rw [wrP, List.length_append, List.length_append]
    split <;> simp only [List.length_cons, List.length_nil] <;> omega
theorem itoa_pos (x : Int) : 0 < (Lib.itoa x).length := by
  have hd : ∀ u, 0 < (Lib.decDigits u).length := fun u => by
    rw [Lib.decDigits]
    split
    · exact Nat.zero_lt_one
    · rw [List.length_append]; exact Nat.succ_pos _
  unfold Lib.itoa
  split
  · exact Nat.succ_pos _
  · exact hd _
theorem wrP_pos (l : List Int) (k : Nat) (h : 0 < k) : 0 < (wrP l k).length := by
  obtain ⟨j, rfl⟩ : ∃ j, k = j + 1 := ⟨k - 1, by omega⟩
  have := itoa_pos (l.getD j 0)
  rw [wrP, List.length_append, List.length_append]
  omega

set_option maxHeartbeats 4000000 in
set_option maxRecDepth 100000 in
theorem written_c (v : Value) (l : List Int) (w : World) (hn : 0 < l.length) (hn3 : l.length ≤ 3) (hr : ∀ x ∈ l, -9223372036854775808 ≤ x ∧ x ≤ 9223372036854775807) (hI : NumsAt w v l)
    (hT : Lib.TabIs Tryd.prog w powName .u64 Lib.pow10Tab) :
    Calls Tryd.prog 60 #[v] w fun e w' => e = .returned (.string ⟨(wrP l l.length).toArray⟩) ∧ Below w.heap.size w w' := by
  obtain ⟨i0, hi, hz0, hz1, hz2⟩ := info_parts infoByte
  have HT : Hid (Lib.TabBelow Tryd.prog w.heap.size w powName .u64 Lib.pow10Tab) := Lib.tabBelow_of_tabIs hT
  clear hT
  obtain ⟨b, o, rfl, hb, hat⟩ := hI
  have HAt : Hid (∀ j (h : j < l.length), w.cell? ⟨b, o + j, none⟩ = some (.int .i64 l[j])) := hat
  have HR : Hid (∀ x ∈ l, -9223372036854775808 ≤ x ∧ x ≤ 9223372036854775807) := hr
  have HLen : Hid (∀ k, k ≤ l.length → (wrP l k).length ≤ 22 * k) := wrP_len l hr
  clear hat hr
  obtain ⟨n, HN⟩ : ∃ n, Hid (l.length = n) := ⟨_, rfl⟩
  simp only [HN.out] at hn hn3 ⊢
  go_enter Tryd.func60, Tryd.ntmps60
  go_wp2_with fail
  go_loopw [3, 8] (fun x i wr => ∃ (j : Nat) (sv : Value), j ≤ n ∧ i = .int .i64 j ∧ x = sv ∧ Hid (wr.ownsRow w.heap.size 5 1 sv (wrP l j).length (Lib.byteCells (wrP l j))) ∧ Hid (Below w.heap.size w wr)) (fun _ i _ => n - (intOf i).toNat)
  case atStart => exact ⟨0, _, Nat.zero_le _, rfl, rfl, World.ownsRow_nil _ _ _ _, Below.refl _ _⟩
  case round =>
    obtain ⟨j, sv, hj, rfl, hx, HO, HB⟩ := hrel
    have hx' := hx.symm
    subst hx'
    by_cases hlt : j < n
    · have hjl : j < l.length := by rw [HN.out]; exact hlt
      have c0 : wr.cell? ⟨b, o + j, none⟩ = some (.int .i64 l[j]) := (World.cell?_of_block (a := ⟨b, o + j, none⟩) (HB.out.block b hb)).trans (HAt.out j hjl)
      obtain ⟨x, HX⟩ : ∃ x, Hid (l[j] = x) := ⟨l[j], show l[j] = l[j] from rfl⟩
      have HXr : Hid (-9223372036854775808 ≤ x ∧ x ≤ 9223372036854775807) := by rw [← HX.out]; exact HR.out _ (List.getElem_mem _)
      rw [HX.out] at c0
      have hwl : (wrP l j).length ≤ 22 * j := HLen.out j (by omega)
      have hws := HB.out.size
      by_cases h0 : 0 < j
      · have h0i : (0 : Int) < (j : Int) := by omega
        go_upto_region 6 with fail
        go_wp2_with (at_builtin; refine wpList_append_own _ rfl _ _ 125 rfl w.heap.size 5 i0 (.int .u8 0) 1 1 Tryd.underlying125 hi hz0 hz1 hz2 rfl (by decide) _ _ _ rfl (HO.out.alloc _) ⟨wr.heap.size, 0, none⟩ 1 1 [Value.int .u8 47] rfl rfl (by intro j u' hj; match j, hj with | 0, hj => simp at hj; subst hj; simp [Addr.add]) (by intro u' hu'; simp at hu'; subst hu'; rfl) (by unfold maxLen; omega) (by omega) (by simp; omega) ?_)
        intro v2 w2 hown2 hgrow _
        have HB2 : Hid (Below w.heap.size w w2) := (HB.out.alloc (by omega) _).grown hgrow (by simp; omega) (fun k hk => (HO.out.lt k hk).1)
        have HO2 : Hid (w2.ownsRow w.heap.size 5 1 v2 (wrP l j ++ [47]).length (Lib.byteCells (wrP l j ++ [47]))) := by
          have e1 : (wrP l j ++ [47]).length = (wrP l j).length + 1 := by rw [List.length_append]; rfl
          have e2 : Lib.byteCells (wrP l j ++ [47]) = Lib.byteCells (wrP l j) ++ [Value.int .u8 47] := by simp [Lib.byteCells]
          rw [e1, e2]
          exact hown2
        clear hown2 hgrow
        have hw2 := HB2.out.size
        have hwl2 : (wrP l j ++ [47]).length ≤ 22 * j + 1 := by rw [List.length_append]; simpa using hwl
        have HE : Hid ((wrP l j ++ [47]) ++ Lib.itoa x = wrP l (j + 1)) := by
          show _ = _
          have hg : l.getD j 0 = x := by rw [List.getD_eq_getElem?_getD, List.getElem?_eq_getElem hjl]; exact HX.out
          rw [wrP, if_pos h0, hg, List.append_assoc]
        go_upto_region 7 with fail
        go_wp2_with (go_at_call 71; refine (appendInt_c w.heap.size _ x HXr.out.1 HXr.out.2 _ _ w2 HO2.out hw2 (by omega) (HT.out.on HB2.out)).mono ?_; rintro e w3 ⟨v3, rfl, hown3, hnx3, -⟩; refine Hid.out ?_)
        refine Lib.hid ?_
        have HB3 : Hid (Below w.heap.size w w3) := HB2.out.trans hnx3
        have HO3 : Hid (w3.ownsRow w.heap.size 5 1 v3 (wrP l (j + 1)).length (Lib.byteCells (wrP l (j + 1)))) := by
          show World.ownsRow _ _ _ _ _ _ _
          rw [← HE.out, List.length_append, Lib.byteCells_append]
          exact hown3
        clear hown3 hnx3
        go_wp2_with fail
        go_roundw
        case rel => exact ⟨j + 1, v3, by omega, by go_num, rfl, HO3.out, HB3.out⟩
        case measure => simp [intOf]; omega
      · go_upto_region 7 with fail
        have hw2 := HB.out.size
        go_wp2_with (go_at_call 71; refine (appendInt_c w.heap.size _ x HXr.out.1 HXr.out.2 _ _ wr HO.out hw2 (by omega) (HT.out.on HB.out)).mono ?_; rintro e w3 ⟨v3, rfl, hown3, hnx3, -⟩; refine Hid.out ?_)
        refine Lib.hid ?_
        have HB3 : Hid (Below w.heap.size w w3) := HB.out.trans hnx3
        have HE : Hid (wrP l j ++ Lib.itoa x = wrP l (j + 1)) := by
          show _ = _
          have hg : l.getD j 0 = x := by rw [List.getD_eq_getElem?_getD, List.getElem?_eq_getElem hjl]; exact HX.out
          rw [wrP, if_neg h0, hg, List.nil_append]
        have HO3 : Hid (w3.ownsRow w.heap.size 5 1 v3 (wrP l (j + 1)).length (Lib.byteCells (wrP l (j + 1)))) := by
          show World.ownsRow _ _ _ _ _ _ _
          rw [← HE.out, List.length_append, Lib.byteCells_append]
          exact hown3
        clear hown3 hnx3
        go_wp2_with fail
        go_roundw
        case rel => exact ⟨j + 1, v3, by omega, by go_num, rfl, HO3.out, HB3.out⟩
        case measure => simp [intOf]; omega
    · obtain rfl : j = n := by omega
      have hpos : 0 < (wrP l j).length := wrP_pos l j hn
      obtain ⟨L, HL⟩ : ∃ L, Hid (wrP l j = L) := ⟨_, rfl⟩
      rw [HL.out] at hpos HO
      have HO' := HO.out
      rcases HO'.2 with ⟨-, h0⟩ | ⟨g, cap, cur, rfl, -, -, -, -, -, -⟩
      · omega
      · have hcv := run_convert_bytes_back (P := Tryd.prog) wr 125 9 5 ⟨g, 0, none⟩ cap L Tryd.underlying125 Tryd.underlying5 Tryd.underlying9 (fun j hj => HO'.cells (g := g) rfl j _ (by simp [Lib.byteCells, hj]))
        clear HO' HO
        go_wp2
        go_ret
        exact ⟨by rw [HL.out]; rfl, HB.out⟩
end Go.Proofs.YtippdgmgmenboagDoor

namespace Go.Proofs.YtippdgmgmenboagDoor
set_option linter.unusedVariables false
set_option linter.unusedSimpArgs false
open Go.RowKit

/-- digits as a text -/
def digS (u : Nat) : ByteArray := ⟨(Lib.decDigits u).toArray⟩
theorem nDigits_le (u : Nat) : ∀ k, u < 10 ^ (k + 1) → Lib.nDigits u ≤ k + 1 := by
  intro k
  induction k generalizing u with
  | zero => intro h; rw [Lib.nDigits, dif_pos (by omega)]; exact Nat.le_refl _
  | succ k ih =>
    intro h
    rw [Lib.nDigits]
    split
    · omega
    · have := ih (u / 10) (by rw [Nat.pow_succ] at h; omega)
      omega

theorem one_dig : ∀ k : Fin 10, (⟨#[48, 49, 50, 51, 52, 53, 54, 55, 56, 57]⟩ : ByteArray).extract k.val (k.val + 1) = ⟨#[UInt8.ofNat (48 + k.val)]⟩ := by decide
theorem digS_one {u : Nat} (h : u < 10) : digS u = ⟨#[UInt8.ofNat (48 + u)]⟩ := by rw [digS, Lib.decDigits_one h]
theorem digS_more {u : Nat} (h : ¬ u < 10) : digS u = digS (u / 10) ++ digS (u % 10) := by
  have e : Lib.decDigits u = Lib.decDigits (u / 10) ++ Lib.decDigits (u % 10) := by
    rw [Lib.decDigits, dif_neg h, Lib.decDigits_one (Nat.mod_lt _ (by omega))]
  rw [digS, e]
  apply ByteArray.ext
  rw [ByteArray.data_append]
  simp [digS]
theorem digS_size (u : Nat) (h : u ≤ 9223372036854775807) : (digS u).size ≤ 19 := by
  show (Lib.decDigits u).toArray.size ≤ 19
  rw [List.size_toArray, Lib.decDigits_length]
  exact nDigits_le u 18 (by omega)
theorem slice_dig (k : Nat) (h : k < 10) (w : World) : (Instr.slice 9 (Value.string ⟨#[48, 49, 50, 51, 52, 53, 54, 55, 56, 57]⟩) (some (Value.int IntKind.i64 (k : Int))) (some (Value.int IntKind.i64 ((k : Int) + 1))) none).run Tryd.prog w = .ok (.string (digS k)) w := by
  have hsz : ((⟨#[48, 49, 50, 51, 52, 53, 54, 55, 56, 57]⟩ : ByteArray).size : Int) = 10 := rfl
  have := run_slice_string (P := Tryd.prog) w 9 ⟨#[48, 49, 50, 51, 52, 53, 54, 55, 56, 57]⟩ .i64 .i64 (k : Int) ((k : Int) + 1) Tryd.underlying9 (by omega) (by omega) (by rw [hsz]; omega)
  rw [this]
  have e1 : ((k : Int)).toNat = k := by omega
  have e2 : ((k : Int) + 1).toNat = k + 1 := by omega
  rw [e1, e2, one_dig ⟨k, h⟩, digS_one h]

set_option maxHeartbeats 4000000 in
set_option maxRecDepth 100000 in
theorem digits_c (u : Nat) : u ≤ 9223372036854775807 → ∀ (w : World),
    Calls Tryd.prog 52 #[.int .i64 (u : Nat)] w fun e w' => e = .returned (.string (digS u)) ∧ w' = w := by
  induction u using Nat.strongRecOn with
  | _ u ih =>
  intro hu w
  by_cases h10 : u < 10
  · have hsl := slice_dig u h10 w
    go_enter Tryd.func52, Tryd.ntmps52
    go_wp2_with fail
    go_ret
    exact ⟨rfl, rfl⟩
  · have E := digS_more h10
    obtain ⟨k, hk⟩ : ∃ k, k = u % 10 := ⟨_, rfl⟩
    have hk10 : k < 10 := by omega
    have hki : (u : Int) % 10 = (k : Int) := by omega
    rw [← hk] at E
    have hsl := slice_dig k hk10 w
    have HE : Hid (digS u = digS (u / 10) ++ digS k) := E
    clear E hk
    go_enter Tryd.func52, Tryd.ntmps52
    go_wp2_with fail
    have hq : (u : Int) / 10 = ((u / 10 : Nat) : Int) := by omega
    rw [hq]
    refine (ih (u / 10) (by omega) (by omega) w).mono ?_
    rintro e w1 ⟨rfl, rfl⟩
    obtain ⟨d, HD⟩ : ∃ d, Hid (digS (u / 10) = d) := ⟨_, show digS (u / 10) = digS (u / 10) from rfl⟩
    rw [HD.out] at HE
    have hsd : d.size ≤ 19 := by rw [← HD.out]; exact digS_size _ (by omega)
    have hsk : (digS k).size ≤ 19 := digS_size _ (by omega)
    have hsum : ¬ d.size + (digS k).size > 9223372036854775807 := by omega
    simp only [HD.out]
    go_wp2_with fail
    go_ret
    exact ⟨by rw [HE.out]; rfl, rfl⟩
end Go.Proofs.YtippdgmgmenboagDoor

namespace Go.Proofs.YtippdgmgmenboagDoor
set_option linter.unusedVariables false
set_option linter.unusedSimpArgs false
open Go.RowKit
def newerB (va aa vb ab : Int) : Bool := if va = vb then decide (ab < aa) else decide (vb < va)
def clashB (v1 a1 : Int) (g1 : Bool) (t1 : ByteArray) (v2 : Int) (g2 : Bool) (t2 : ByteArray) : Bool := if v1 = v2 then (!(g1 == g2)) || !(t1.toList == t2.toList) else decide (v2 ≤ a1)
theorem isNewer_c (ka va aa : Int) (ga : Bool) (ta : ByteArray) (kb vb ab : Int) (gb : Bool) (tb : ByteArray) (w : World) :
    Calls Tryd.prog 65 #[.agg #[.int .i64 ka, .int .i64 va, .int .i64 aa, .bool ga, .string ta], .agg #[.int .i64 kb, .int .i64 vb, .int .i64 ab, .bool gb, .string tb]] w fun e w' => e = .returned (.bool (newerB va aa vb ab)) ∧ Below w.heap.size w w' := by
  go_enter Tryd.func65, Tryd.ntmps65
  go_wp2
  · go_ret
    rename_i h
    refine ⟨?_, by go_grown⟩
    simp_all [newerB]
  · go_ret
    rename_i h
    refine ⟨?_, by go_grown⟩
    simp_all [newerB]
theorem clash_c (ka va aa : Int) (ga : Bool) (ta : ByteArray) (kb vb ab : Int) (gb : Bool) (tb : ByteArray) (w : World) :
    Calls Tryd.prog 66 #[.agg #[.int .i64 ka, .int .i64 va, .int .i64 aa, .bool ga, .string ta], .agg #[.int .i64 kb, .int .i64 vb, .int .i64 ab, .bool gb, .string tb]] w fun e w' => e = .returned (.bool (clashB va aa ga ta vb gb tb)) ∧ Below w.heap.size w w' := by
  go_enter Tryd.func66, Tryd.ntmps66
  go_wp2
  · go_ret
    refine ⟨?_, by go_grown⟩
    simp_all [clashB]
  · go_ret
    refine ⟨?_, by go_grown⟩
    simp_all [clashB]
  · go_ret
    refine ⟨?_, by go_grown⟩
    simp_all [clashB]
theorem check_ok {k v a : Int} {g : Bool} {t : ByteArray} (h : bad k v a g t = 0) (w : World) :
    Calls Tryd.prog 36 #[.agg #[.int .i64 k, .int .i64 v, .int .i64 a, .bool g, .string t]] w fun e w' => e = .returned .nilIface ∧ Below w.heap.size w w' := by
  have c := check_c k v a g t w
  rw [h] at c
  exact c
theorem check_err {k v a : Int} {g : Bool} {t : ByteArray} {n : Int} (h : bad k v a g t = n) (hn : n ≠ 0) (w : World) :
    Calls Tryd.prog 36 #[.agg #[.int .i64 k, .int .i64 v, .int .i64 a, .bool g, .string t]] w fun e w' => e = .returned (.iface 55 (.int .i64 n)) ∧ Below w.heap.size w w' := by
  have c := check_c k v a g t w
  rw [h, eV, if_neg hn] at c
  exact c
/-- the fault of the first of two that has one -/
def bad2 (m n : Int) : Int := if m = 0 then n else m
theorem two_cells {b : Nat} {ka va aa : Int} {ga : Bool} {ta : ByteArray} {kb vb ab : Int} {gb : Bool} {tb : ByteArray} {w : World} (h : w.heap[b]? = some (.cells #[.int .i64 ka, .int .i64 va, .int .i64 aa, .bool ga, .string ta, .int .i64 kb, .int .i64 vb, .int .i64 ab, .bool gb, .string tb] 46)) :
    w.cell? ⟨b, 0, none⟩ = some (.int .i64 ka) ∧ w.cell? ⟨b, 1, none⟩ = some (.int .i64 va) ∧ w.cell? ⟨b, 2, none⟩ = some (.int .i64 aa) ∧ w.cell? ⟨b, 3, none⟩ = some (.bool ga) ∧ w.cell? ⟨b, 4, none⟩ = some (.string ta) ∧
    w.cell? ⟨b, 5, none⟩ = some (.int .i64 kb) ∧ w.cell? ⟨b, 6, none⟩ = some (.int .i64 vb) ∧ w.cell? ⟨b, 7, none⟩ = some (.int .i64 ab) ∧ w.cell? ⟨b, 8, none⟩ = some (.bool gb) ∧ w.cell? ⟨b, 9, none⟩ = some (.string tb) := by
  unfold World.cell?
  simp only [h]
  simp
set_option maxHeartbeats 4000000 in
theorem all_c (b : Nat) (ka va aa : Int) (ga : Bool) (ta : ByteArray) (kb vb ab : Int) (gb : Bool) (tb : ByteArray) (w : World)
    (h : w.heap[b]? = some (.cells #[.int .i64 ka, .int .i64 va, .int .i64 aa, .bool ga, .string ta, .int .i64 kb, .int .i64 vb, .int .i64 ab, .bool gb, .string tb] 46)) :
    Calls Tryd.prog 64 #[.slice (some ⟨b, 0, none⟩) 2 2] w fun e w' => e = .returned (eV (bad2 (bad ka va aa ga ta) (bad kb vb ab gb tb))) ∧ Below w.heap.size w w' := by
  have HH : Hid (w.heap[b]? = some (.cells #[.int .i64 ka, .int .i64 va, .int .i64 aa, .bool ga, .string ta, .int .i64 kb, .int .i64 vb, .int .i64 ab, .bool gb, .string tb] 46)) := h
  have HL : b < w.heap.size := (Array.getElem?_eq_some_iff.mp h).1
  obtain ⟨m, HM⟩ : ∃ m, Hid (bad ka va aa ga ta = m) := ⟨_, rfl⟩
  obtain ⟨n, HN⟩ : ∃ n, Hid (bad kb vb ab gb tb = n) := ⟨_, rfl⟩
  rw [HM.out, HN.out]
  clear h
  obtain ⟨z0, z1, z2, z3, z4, z5, z6, z7, z8, z9⟩ := two_cells HH.out
  go_enter Tryd.func64, Tryd.ntmps64
  go_wp2_with fail
  refine wp_loop_rounds 3 ?_
  rw [rounds_succ]
  go_wp2_with fail
  by_cases hm : m = 0
  · subst hm
    refine (check_ok HM.out _).mono ?_
    rintro e w1 ⟨rfl, hb⟩
    have B1 : Hid (Below w.heap.size w w1) := Below.trans (by go_grown) (hb.mono (by simp))
    have H1 : Hid (w1.heap[b]? = some (.cells #[.int .i64 ka, .int .i64 va, .int .i64 aa, .bool ga, .string ta, .int .i64 kb, .int .i64 vb, .int .i64 ab, .bool gb, .string tb] 46)) := (B1.out.block b HL).trans HH.out
    clear z0 z1 z2 z3 z4 z5 z6 z7 z8 z9 hb
    obtain ⟨z0, z1, z2, z3, z4, z5, z6, z7, z8, z9⟩ := two_cells H1.out
    go_wp2_with fail
    rw [rounds_succ]
    go_wp2_with fail
    by_cases hn : n = 0
    · subst hn
      refine (check_ok HN.out _).mono ?_
      rintro e w2 ⟨rfl, hb⟩
      have B2 : Hid (Below w.heap.size w w2) := (B1.out.alloc B1.out.size _).trans (hb.mono (by have := B1.out.size; simp; omega))
      clear hb
      go_wp2_with fail
      rw [rounds_succ]
      go_wp2_with fail
      go_ret
      exact ⟨by simp [bad2, eV], B2.out⟩
    · refine (check_err HN.out hn _).mono ?_
      rintro e w2 ⟨rfl, hb⟩
      have B2 : Hid (Below w.heap.size w w2) := (B1.out.alloc B1.out.size _).trans (hb.mono (by have := B1.out.size; simp; omega))
      clear hb
      go_wp2_with fail
      go_ret
      exact ⟨by simp [bad2, eV, hn], B2.out⟩
  · refine (check_err HM.out hm _).mono ?_
    rintro e w1 ⟨rfl, hb⟩
    have B1 : Hid (Below w.heap.size w w1) := Below.trans (by go_grown) (hb.mono (by simp))
    clear hb
    go_wp2_with fail
    go_ret
    refine ⟨?_, B1.out⟩
    simp [bad2, eV, hm]
/-- the result of Join -/
def joinE (x y : En) : En × Int :=
  if bad2 (bad x.k x.v x.a x.g x.t) (bad y.k y.v y.a y.g y.t) ≠ 0 then (⟨0, 0, 0, false, ⟨#[]⟩⟩, bad2 (bad x.k x.v x.a x.g x.t) (bad y.k y.v y.a y.g y.t))
  else if x.k ≠ y.k then (⟨0, 0, 0, false, ⟨#[]⟩⟩, 3)
  else if newerB x.v x.a y.v y.a = true then (if clashB y.v y.a y.g y.t x.v x.g x.t = true then (⟨0, 0, 0, false, ⟨#[]⟩⟩, 7) else (x, 0))
  else if clashB x.v x.a x.g x.t y.v y.g y.t = true then (⟨0, 0, 0, false, ⟨#[]⟩⟩, 7) else (y, 0)
/-- an entry's five cells at a block -/
structure BoxAt (w : World) (b : Nat) (k v a : Int) (g : Bool) (t : ByteArray) : Prop where
  c0 : w.cell? ⟨b, 0, none⟩ = some (.int .i64 k)
  c1 : w.cell? ⟨b, 1, none⟩ = some (.int .i64 v)
  c2 : w.cell? ⟨b, 2, none⟩ = some (.int .i64 a)
  c3 : w.cell? ⟨b, 3, none⟩ = some (.bool g)
  c4 : w.cell? ⟨b, 4, none⟩ = some (.string t)
  fz : ∀ j, w.frozen? ⟨b, j, none⟩ = false
theorem BoxAt.of_block {w w' : World} {b : Nat} {k v a : Int} {g : Bool} {t : ByteArray} (h : BoxAt w b k v a g t) (hb : w'.heap[b]? = w.heap[b]?) : BoxAt w' b k v a g t :=
  ⟨(World.cell?_of_block (a := ⟨b, 0, none⟩) hb).trans h.c0, (World.cell?_of_block (a := ⟨b, 1, none⟩) hb).trans h.c1, (World.cell?_of_block (a := ⟨b, 2, none⟩) hb).trans h.c2, (World.cell?_of_block (a := ⟨b, 3, none⟩) hb).trans h.c3, (World.cell?_of_block (a := ⟨b, 4, none⟩) hb).trans h.c4, fun j => (World.frozen?_of_block (a := ⟨b, j, none⟩) hb).trans (h.fz j)⟩
theorem BoxAt.below {w w' : World} {b B : Nat} {k v a : Int} {g : Bool} {t : ByteArray} (h : BoxAt w b k v a g t) (hb : Below B w w') (hB : b < B) : BoxAt w' b k v a g t := h.of_block (hb.block b hB)
theorem box_new (w : World) (k v a : Int) (g : Bool) (t : ByteArray) (b : Nat) (h : b = w.heap.size) : BoxAt (w.alloc (.cells #[.int .i64 k, .int .i64 v, .int .i64 a, .bool g, .string t] 46)) b k v a g t := by
  subst h
  exact ⟨by simp, by simp, by simp, by simp, by simp, fun j => by simp⟩
theorem BoxAt.alloc {w : World} {b : Nat} {k v a : Int} {g : Bool} {t : ByteArray} (h : BoxAt w b k v a g t) (o : Obj) : BoxAt (w.alloc o) b k v a g t :=
  h.of_block (Below.heap_alloc _ _ _ (World.block_lt_of_cell? w _ h.c0))
theorem BoxAt.lt {w : World} {b : Nat} {k v a : Int} {g : Bool} {t : ByteArray} (h : BoxAt w b k v a g t) : b < w.heap.size := World.block_lt_of_cell? w _ h.c0
theorem BoxAt.drew {w : World} {b : Nat} {k v a : Int} {g : Bool} {t : ByteArray} (h : BoxAt w b k v a g t) : BoxAt w.drew b k v a g t := h.of_block rfl
theorem BoxAt.set {w : World} {b : Nat} {k v a : Int} {g : Bool} {t : ByteArray} (h : BoxAt w b k v a g t) (x0 x1 x2 : Int) (x3 : Bool) (x4 : ByteArray) :
    BoxAt (((((w.setCell ⟨b, 0, none⟩ (.int .i64 x0)).setCell ⟨b, 1, none⟩ (.int .i64 x1)).setCell ⟨b, 2, none⟩ (.int .i64 x2)).setCell ⟨b, 3, none⟩ (.bool x3)).setCell ⟨b, 4, none⟩ (.string x4)) b x0 x1 x2 x3 x4 := by
  obtain ⟨h0, h1, h2, h3, h4, hf⟩ := h
  refine ⟨?_, ?_, ?_, ?_, ?_, fun j => by simp only [World.frozen?_setCell]; exact hf j⟩
  · rw [World.cell?_setCell_other _ _ _ _ (by simp), World.cell?_setCell_other _ _ _ _ (by simp), World.cell?_setCell_other _ _ _ _ (by simp), World.cell?_setCell_other _ _ _ _ (by simp), World.cell?_setCell_same _ _ _ h0]
  · rw [World.cell?_setCell_other _ _ _ _ (by simp), World.cell?_setCell_other _ _ _ _ (by simp), World.cell?_setCell_other _ _ _ _ (by simp)]
    exact World.cell?_setCell_same _ _ _ ((World.cell?_setCell_other _ _ _ _ (by simp)).trans h1)
  · rw [World.cell?_setCell_other _ _ _ _ (by simp), World.cell?_setCell_other _ _ _ _ (by simp)]
    exact World.cell?_setCell_same _ _ _ ((World.cell?_setCell_other _ _ _ _ (by simp)).trans ((World.cell?_setCell_other _ _ _ _ (by simp)).trans h2))
  · rw [World.cell?_setCell_other _ _ _ _ (by simp)]
    exact World.cell?_setCell_same _ _ _ ((World.cell?_setCell_other _ _ _ _ (by simp)).trans ((World.cell?_setCell_other _ _ _ _ (by simp)).trans ((World.cell?_setCell_other _ _ _ _ (by simp)).trans h3)))
  · exact World.cell?_setCell_same _ _ _ ((World.cell?_setCell_other _ _ _ _ (by simp)).trans ((World.cell?_setCell_other _ _ _ _ (by simp)).trans ((World.cell?_setCell_other _ _ _ _ (by simp)).trans ((World.cell?_setCell_other _ _ _ _ (by simp)).trans h4))))
theorem BoxAt.other {w : World} {b c : Nat} {k v a : Int} {g : Bool} {t : ByteArray} (h : BoxAt w b k v a g t) (hc : b ≠ c) (x0 x1 x2 x3 x4 : Value) :
    BoxAt (((((w.setCell ⟨c, 0, none⟩ x0).setCell ⟨c, 1, none⟩ x1).setCell ⟨c, 2, none⟩ x2).setCell ⟨c, 3, none⟩ x3).setCell ⟨c, 4, none⟩ x4) b k v a g t :=
  h.of_block (by rw [Below.heap_setCell _ _ _ b hc, Below.heap_setCell _ _ _ b hc, Below.heap_setCell _ _ _ b hc, Below.heap_setCell _ _ _ b hc, Below.heap_setCell _ _ _ b hc])
theorem alloc_at (w : World) (o : Obj) (b : Nat) (h : b = w.heap.size) : (w.alloc o).heap[b]? = some o := by
  subst h
  exact Array.getElem?_push_size
set_option maxHeartbeats 4000000 in
theorem join_bad (ka va aa : Int) (ga : Bool) (ta : ByteArray) (kb vb ab : Int) (gb : Bool) (tb : ByteArray) (w : World) (n : Int) (hn : n ≠ 0) (h : bad2 (bad ka va aa ga ta) (bad kb vb ab gb tb) = n) :
    Calls Tryd.prog 47 #[.agg #[.int .i64 ka, .int .i64 va, .int .i64 aa, .bool ga, .string ta], .agg #[.int .i64 kb, .int .i64 vb, .int .i64 ab, .bool gb, .string tb]] w fun e w' => e = .returned (.tuple #[.agg #[.int .i64 0, .int .i64 0, .int .i64 0, .bool false, .string ⟨#[]⟩], .iface 55 (.int .i64 n)]) ∧ Below w.heap.size w w' := by
  have H : Hid (bad2 (bad ka va aa ga ta) (bad kb vb ab gb tb) = n) := h
  clear h
  go_enter Tryd.func47, Tryd.ntmps47
  go_wp2_with fail
  refine (all_c (w.heap.size + 1 + 1 + 1) ka va aa ga ta kb vb ab gb tb _ (alloc_at _ _ _ (by simp))).mono ?_
  rintro e w1 ⟨rfl, hb⟩
  rw [H.out, eV, if_neg hn]
  have B1 : Hid (Below w.heap.size w w1) := Below.trans (by go_grown) (hb.mono (by simp; omega))
  obtain ⟨e0, e1, e2, e3, e4, ef⟩ := ((box_new _ 0 0 0 false ⟨#[]⟩ (w.heap.size + 1 + 1) (by simp)).alloc _).below hb (by simp)
  clear hb
  go_wp2_with fail
  refine bodyPost_ret (v := .tuple #[.agg #[.int .i64 0, .int .i64 0, .int .i64 0, .bool false, .string ⟨#[]⟩], .iface 55 (.int .i64 n)]) (by simp [results, Tryd.results47, go_sem, e0, e1, e2, e3, e4]) rfl ?_
  refine ⟨rfl, ?_⟩
  have hb := B1.out
  go_grown
set_option maxHeartbeats 4000000 in
theorem join_key (ka va aa : Int) (ga : Bool) (ta : ByteArray) (kb vb ab : Int) (gb : Bool) (tb : ByteArray) (w : World) (h : bad2 (bad ka va aa ga ta) (bad kb vb ab gb tb) = 0) (hk : ka ≠ kb) :
    Calls Tryd.prog 47 #[.agg #[.int .i64 ka, .int .i64 va, .int .i64 aa, .bool ga, .string ta], .agg #[.int .i64 kb, .int .i64 vb, .int .i64 ab, .bool gb, .string tb]] w fun e w' => e = .returned (.tuple #[.agg #[.int .i64 0, .int .i64 0, .int .i64 0, .bool false, .string ⟨#[]⟩], .iface 55 (.int .i64 3)]) ∧ Below w.heap.size w w' := by
  have H : Hid (bad2 (bad ka va aa ga ta) (bad kb vb ab gb tb) = 0) := h
  clear h
  go_enter Tryd.func47, Tryd.ntmps47
  go_wp2_with fail
  refine (all_c (w.heap.size + 1 + 1 + 1) ka va aa ga ta kb vb ab gb tb _ (alloc_at _ _ _ (by simp))).mono ?_
  rintro e w1 ⟨rfl, hb⟩
  rw [H.out, eV, if_pos rfl]
  have B1 : Hid (Below w.heap.size w w1) := Below.trans (by go_grown) (hb.mono (by simp; omega))
  obtain ⟨e0, e1, e2, e3, e4, ef⟩ := ((box_new _ 0 0 0 false ⟨#[]⟩ (w.heap.size + 1 + 1) (by simp)).alloc _).below hb (by simp)
  obtain ⟨a0, a1, a2, a3, a4, af⟩ := ((((box_new w ka va aa ga ta w.heap.size rfl).alloc _).alloc _).alloc _).below hb (by simp; omega)
  obtain ⟨b0, b1, b2, b3, b4, bf⟩ := (((box_new _ kb vb ab gb tb (w.heap.size + 1) (by simp)).alloc _).alloc _).below hb (by simp)
  clear hb
  go_wp2_with fail
  refine bodyPost_ret (v := .tuple #[.agg #[.int .i64 0, .int .i64 0, .int .i64 0, .bool false, .string ⟨#[]⟩], .iface 55 (.int .i64 3)]) (by simp [results, Tryd.results47, go_sem, e0, e1, e2, e3, e4]) rfl ?_
  refine ⟨rfl, ?_⟩
  have hb := B1.out
  go_grown
end Go.Proofs.YtippdgmgmenboagDoor

namespace Go.Proofs.YtippdgmgmenboagDoor
set_option linter.unusedVariables false
set_option linter.unusedSimpArgs false
open Go.RowKit

/-- the stroke between -/
def slS : ByteArray := ⟨#[47]⟩
/-- two numbers as a text -/
def str2 (a b : Nat) : ByteArray := digS a ++ slS ++ digS b
/-- three numbers as a text -/
def str3 (a b c : Nat) : ByteArray := digS a ++ slS ++ digS b ++ slS ++ digS c
theorem wr_two (a b : Nat) : (⟨(wrP [(a : Int), (b : Int)] 2).toArray⟩ : ByteArray) = str2 a b := by
  apply ByteArray.ext
  have e : wrP [(a : Int), (b : Int)] 2 = Lib.decDigits a ++ [47] ++ Lib.decDigits b := by
    simp [wrP, Lib.itoa_nonneg]
  rw [e, str2, ByteArray.data_append, ByteArray.data_append]
  simp [digS, slS]
theorem wr_three (a b c : Nat) : (⟨(wrP [(a : Int), (b : Int), (c : Int)] 3).toArray⟩ : ByteArray) = str3 a b c := by
  apply ByteArray.ext
  have e : wrP [(a : Int), (b : Int), (c : Int)] 3 = Lib.decDigits a ++ [47] ++ Lib.decDigits b ++ [47] ++ Lib.decDigits c := by
    simp [wrP, Lib.itoa_nonneg]
  rw [e, str3, ByteArray.data_append, ByteArray.data_append, ByteArray.data_append, ByteArray.data_append]
  simp [digS, slS]
theorem str2_size (a b : Nat) (ha : a ≤ 9223372036854775807) (hb : b ≤ 9223372036854775807) : (str2 a b).size ≤ 39 := by
  have h1 := digS_size a ha
  have h2 := digS_size b hb
  rw [str2, ByteArray.size_append, ByteArray.size_append, show slS.size = 1 from rfl]
  omega
theorem str3_size (a b c : Nat) (ha : a ≤ 9223372036854775807) (hb : b ≤ 9223372036854775807) (hc : c ≤ 9223372036854775807) : (str3 a b c).size ≤ 59 := by
  have h1 := digS_size a ha
  have h2 := digS_size b hb
  have h3 := digS_size c hc
  rw [str3, ByteArray.size_append, ByteArray.size_append, ByteArray.size_append, ByteArray.size_append, show slS.size = 1 from rfl]
  omega

theorem nums_two (w : World) (a b : Int) : NumsAt (w.alloc (.cells #[.int .i64 a, .int .i64 b] 3)) (.slice (some ⟨w.heap.size, 0, none⟩) 2 2) [a, b] := by
  refine ⟨w.heap.size, 0, rfl, by simp, fun j h => ?_⟩
  match j, h with
  | 0, _ => simp
  | 1, _ => simp
theorem nums_three (w : World) (a b c : Int) : NumsAt (w.alloc (.cells #[.int .i64 a, .int .i64 b, .int .i64 c] 3)) (.slice (some ⟨w.heap.size, 0, none⟩) 3 3) [a, b, c] := by
  refine ⟨w.heap.size, 0, rfl, by simp, fun j h => ?_⟩
  match j, h with
  | 0, _ => simp
  | 1, _ => simp
  | 2, _ => simp


/-- is it a number of the hash? -/
def isN (n : Int) : Bool := decide (0 ≤ n) && decide (n ≤ 4294967295)
theorem isNumber_c (n : Int) (w : World) (b : Bool) (hb : isN n = b) : Calls Tryd.prog 61 #[.int .i64 n] w fun e w' => e = .returned (.bool b) ∧ w' = w := by
  subst hb
  by_cases h0 : 0 ≤ n
  · by_cases h1 : n ≤ 4294967295
    · have e : isN n = true := by simp [isN, h0, h1]
      rw [e]
      go_enter Tryd.func61, Tryd.ntmps61
      go_wp2_with fail
      go_ret
      exact ⟨rfl, rfl⟩
    · have e : isN n = false := by simp [isN, h1]
      rw [e]
      go_enter Tryd.func61, Tryd.ntmps61
      go_wp2_with fail
      go_ret
      exact ⟨rfl, rfl⟩
  · have e : isN n = false := by simp [isN, h0]
    rw [e]
    go_enter Tryd.func61, Tryd.ntmps61
    go_wp2_with fail
    go_ret
    exact ⟨rfl, rfl⟩

set_option maxHeartbeats 4000000 in
theorem two_bad (a b : Int) (w : World) (h : (isN a && isN b) = false) :
    Calls Tryd.prog 45 #[.int .i64 a, .int .i64 b] w fun e w' => e = .returned (.tuple #[.int .i64 0, .iface 55 (.int .i64 1)]) ∧ w' = w := by
  cases ha : isN a with
  | false =>
    have HA : Hid (isN a = false) := ha
    clear ha h
    go_enter Tryd.func45, Tryd.ntmps45
    go_wp2_with (go_at_call 61; refine (isNumber_c a _ false HA.out).mono ?_; rintro e w1 ⟨rfl, rfl⟩)
    go_ret2
    exact ⟨rfl, rfl⟩
  | true =>
    have HA : Hid (isN a = true) := ha
    have HB : Hid (isN b = false) := by
      show _ = _
      simpa [ha] using h
    clear ha h
    go_enter Tryd.func45, Tryd.ntmps45
    go_wp2_with fail
    refine (isNumber_c a _ true HA.out).mono ?_
    rintro e w1 ⟨rfl, rfl⟩
    go_wp2_with fail
    refine (isNumber_c b _ false HB.out).mono ?_
    rintro e w1 ⟨rfl, rfl⟩
    go_wp2_with fail
    go_ret2
    exact ⟨rfl, rfl⟩
set_option maxHeartbeats 4000000 in
theorem two_ok (a b : Nat) (w : World) (ha : a ≤ 4294967295) (hb : b ≤ 4294967295) (hT : Lib.TabIs Tryd.prog w powName .u64 Lib.pow10Tab) :
    Calls Tryd.prog 45 #[.int .i64 (a : Nat), .int .i64 (b : Nat)] w fun e w' => e = .returned (.tuple #[.int .i64 (hashL (byN (str2 a b)) : Nat), .nilIface]) ∧ Below w.heap.size w w' := by
  have HA : Hid (isN (a : Int) = true) := by
    show _ = _
    simp only [isN, Bool.and_eq_true, decide_eq_true_eq]
    omega
  have HB : Hid (isN (b : Int) = true) := by
    show _ = _
    simp only [isN, Bool.and_eq_true, decide_eq_true_eq]
    omega
  have HT : Hid (Lib.TabBelow Tryd.prog w.heap.size w powName .u64 Lib.pow10Tab) := Lib.tabBelow_of_tabIs hT
  clear hT
  have hsz := str2_size a b (by omega) (by omega)
  have HW := wr_two a b
  obtain ⟨S, HS⟩ : ∃ S, Hid (str2 a b = S) := ⟨_, rfl⟩
  rw [HS.out] at hsz HW ⊢
  have HW' : Hid ((⟨(wrP [(a : Int), (b : Int)] 2).toArray⟩ : ByteArray) = S) := HW
  clear HW
  go_enter Tryd.func45, Tryd.ntmps45
  go_wp2_with fail
  refine (isNumber_c (a : Int) _ true HA.out).mono ?_
  rintro e w1 ⟨rfl, rfl⟩
  go_wp2_with fail
  refine (isNumber_c (b : Int) _ true HB.out).mono ?_
  rintro e w1 ⟨rfl, rfl⟩
  go_wp2_with fail
  have hnx : Below w1.heap.size w1 (w1.alloc (.cells #[.int .i64 a, .int .i64 b] 3)) := by go_grown
  refine (written_c _ [(a : Int), (b : Int)] _ (by simp) (by simp) (fun x hx => by simp at hx; omega) (nums_two w1 a b) (HT.out _ hnx)).mono ?_
  rintro e w2 ⟨rfl, hb2⟩
  have HB2 : Hid (Below w1.heap.size w1 w2) := hnx.trans (hb2.mono (by simp))
  clear hb2 hnx
  have e2 : (⟨(wrP [(a : Int), (b : Int)] [(a : Int), (b : Int)].length).toArray⟩ : ByteArray) = S := HW'.out
  simp only [e2]
  clear e2
  go_wp2_with (go_at_call 59; refine (number_c S _ (by omega)).mono ?_; rintro e w3 ⟨rfl, rfl⟩)
  go_ret2
  exact ⟨rfl, HB2.out⟩
end Go.Proofs.YtippdgmgmenboagDoor

namespace Go.Proofs.YtippdgmgmenboagDoor
set_option linter.unusedVariables false
set_option linter.unusedSimpArgs false
open Go.RowKit

/-- an entry as a text -/
def strE (k v : Nat) (g : Bool) (t : ByteArray) : ByteArray := str3 k v (if g = true then 1 else 0) ++ slS ++ t

theorem cell_on {w w' : World} {a : Addr} {v : Value} {B : Nat} (hb : Below B w w') (hB : a.block < B) (h : w.cell? a = some v) : w'.cell? a = some v := (World.cell?_of_block (hb.block a.block hB)).trans h
theorem NumsAt.drew {w : World} {v : Value} {l : List Int} (h : NumsAt w v l) : NumsAt w.drew v l := h

set_option maxHeartbeats 4000000 in
theorem hentry_bad {k v a : Int} {g : Bool} {t : ByteArray} {n : Int} (h : bad k v a g t = n) (hn : n ≠ 0) (w : World) :
    Calls Tryd.prog 44 #[.agg #[.int .i64 k, .int .i64 v, .int .i64 a, .bool g, .string t]] w fun e w' => e = .returned (.tuple #[.int .i64 0, .iface 55 (.int .i64 n)]) ∧ Below w.heap.size w w' := by
  have H : Hid (bad k v a g t = n) := h
  clear h
  go_enter Tryd.func44, Tryd.ntmps44
  go_wp2_with fail
  refine (check_err H.out hn _).mono ?_
  rintro e w1 ⟨rfl, hb⟩
  have B1 : Hid (Below w.heap.size w w1) := Below.trans (by go_grown) (hb.mono (by simp))
  obtain ⟨a0, a1, a2, a3, a4, af⟩ := (box_new w k v a g t w.heap.size rfl).below hb (by simp)
  clear hb
  go_wp2_with fail
  go_ret2
  exact ⟨rfl, B1.out⟩

set_option maxHeartbeats 4000000 in
theorem hentry_ok (k v : Nat) (a : Int) (g : Bool) (t : ByteArray) (h : bad (k : Int) (v : Int) a g t = 0) (hk : k ≤ 1000) (hv : v ≤ 1000) (ht : t.size ≤ 12) (w : World) (hT : Lib.TabIs Tryd.prog w powName .u64 Lib.pow10Tab) :
    Calls Tryd.prog 44 #[.agg #[.int .i64 (k : Nat), .int .i64 (v : Nat), .int .i64 a, .bool g, .string t]] w fun e w' => e = .returned (.tuple #[.int .i64 (hashL (byN (strE k v g t)) : Nat), .nilIface]) ∧ Below w.heap.size w w' := by
  have H : Hid (bad (k : Int) (v : Int) a g t = 0) := h
  clear h
  have HT : Hid (Lib.TabBelow Tryd.prog w.heap.size w powName .u64 Lib.pow10Tab) := Lib.tabBelow_of_tabIs hT
  clear hT
  cases g with
  | false =>
    have hsz := str3_size k v 0 (by omega) (by omega) (by omega)
    have HW0 := wr_three k v 0
    have HE0 : strE k v false t = str3 k v 0 ++ slS ++ t := rfl
    obtain ⟨S, HS⟩ : ∃ S, Hid (str3 k v 0 = S) := ⟨_, rfl⟩
    rw [HS.out] at hsz HW0 HE0
    rw [HE0]
    have HW : Hid ((⟨(wrP [(k : Int), (v : Int), ((0 : Nat) : Int)] 3).toArray⟩ : ByteArray) = S) := HW0
    clear HW0 HE0
    go_enter Tryd.func44, Tryd.ntmps44
    go_wp2_with fail
    refine (check_ok H.out _).mono ?_
    rintro e w1 ⟨rfl, hb⟩
    have B1 : Hid (Below w.heap.size w w1) := Below.trans (by go_grown) (hb.mono (by simp))
    obtain ⟨a0, a1, a2, a3, a4, af⟩ := (box_new w k v a false t w.heap.size rfl).below hb (by simp)
    clear hb
    have HX : Hid (Below w.heap.size w (w1.alloc (.cells #[.int .i64 k, .int .i64 v, .int .i64 0] 3)).drew) := (B1.out.alloc B1.out.size _).drew
    have hz1 : (⟨#[47]⟩ : ByteArray).size = 1 := rfl
    have hs5 : ¬ 9223372036854775807 < S.size + 1 := by omega
    have hs6 : ¬ 9223372036854775807 < S.size + 1 + t.size := by omega
    have HS3 : Hid ((S ++ (⟨#[47]⟩ : ByteArray) ++ t).size ≤ 9223372036854775807) := by
      show _ ≤ _
      rw [ByteArray.size_append, ByteArray.size_append, hz1]
      omega
    clear hz1
    have HW3 : Hid ((⟨(wrP [(k : Int), (v : Int), 0] [(k : Int), (v : Int), 0].length).toArray⟩ : ByteArray) = S) := HW.out
    have hlt1 : w.heap.size < w1.heap.size := World.block_lt_of_cell? w1 _ a4
    have HY : Hid (Below w1.heap.size w1 (w1.alloc (.cells #[.int .i64 k, .int .i64 v, .int .i64 0] 3)).drew) := ((Below.refl _ _).alloc (Nat.le_refl _) _).drew
    have HA0 : Hid ((w1.alloc (.cells #[.int .i64 k, .int .i64 v, .int .i64 0] 3)).drew.cell? ⟨w.heap.size, 0, none⟩ = some (.int .i64 (k : Int))) := cell_on HY.out hlt1 a0
    have HA1 : Hid ((w1.alloc (.cells #[.int .i64 k, .int .i64 v, .int .i64 0] 3)).drew.cell? ⟨w.heap.size, 1, none⟩ = some (.int .i64 (v : Int))) := cell_on HY.out hlt1 a1
    have HA4 : Hid ((w1.alloc (.cells #[.int .i64 k, .int .i64 v, .int .i64 0] 3)).drew.cell? ⟨w.heap.size, 4, none⟩ = some (.string t)) := cell_on HY.out hlt1 a4
    have HL : Hid (w.heap.size < (w1.alloc (.cells #[.int .i64 k, .int .i64 v, .int .i64 0] 3)).drew.heap.size) := by
      show _ < _
      simp
      omega
    have HM : Hid (w.heap.size ≤ (w1.alloc (.cells #[.int .i64 k, .int .i64 v, .int .i64 0] 3)).drew.heap.size) := Nat.le_of_lt HL.out
    go_upto_region 7 with fail
    go_region_held3 (fun w' => w'.cell? ⟨w.heap.size, 0, none⟩ = some (.int .i64 (k : Int)) ∧ w'.cell? ⟨w.heap.size, 1, none⟩ = some (.int .i64 (v : Int)) ∧ w'.cell? ⟨w.heap.size, 4, none⟩ = some (.string t)) (first | go_keep | (exact ⟨cell_on hb2 HL.out HA0.out, cell_on hb2 HL.out HA1.out, cell_on hb2 HL.out HA4.out⟩)) (first | (go_at_call 60; refine (written_c _ [(k : Int), (v : Int), 0] _ (by simp) (by simp) (fun x hx => by simp at hx; omega) (nums_three w1 k v 0).drew (HT.out _ HX.out)).mono ?_; rintro e w2 ⟨rfl, hb2⟩; simp only [HW3.out]) | (go_at_call 59; refine (number_c _ _ HS3.out).mono ?_; rintro e w3 ⟨rfl, rfl⟩))
    have HB2 : Hid (Below w.heap.size w w3) := HX.out.trans (hb2.mono HM.out)
    clear hb2
    go_wp2_with fail
    go_ret2
    exact ⟨rfl, HB2.out⟩
  | true =>
    have hsz := str3_size k v 1 (by omega) (by omega) (by omega)
    have HW0 := wr_three k v 1
    have HE0 : strE k v true t = str3 k v 1 ++ slS ++ t := rfl
    obtain ⟨S, HS⟩ : ∃ S, Hid (str3 k v 1 = S) := ⟨_, rfl⟩
    rw [HS.out] at hsz HW0 HE0
    rw [HE0]
    have HW : Hid ((⟨(wrP [(k : Int), (v : Int), ((1 : Nat) : Int)] 3).toArray⟩ : ByteArray) = S) := HW0
    clear HW0 HE0
    go_enter Tryd.func44, Tryd.ntmps44
    go_wp2_with fail
    refine (check_ok H.out _).mono ?_
    rintro e w1 ⟨rfl, hb⟩
    have B1 : Hid (Below w.heap.size w w1) := Below.trans (by go_grown) (hb.mono (by simp))
    obtain ⟨a0, a1, a2, a3, a4, af⟩ := (box_new w k v a true t w.heap.size rfl).below hb (by simp)
    clear hb
    have HX : Hid (Below w.heap.size w (w1.alloc (.cells #[.int .i64 k, .int .i64 v, .int .i64 1] 3)).drew) := (B1.out.alloc B1.out.size _).drew
    have hz1 : (⟨#[47]⟩ : ByteArray).size = 1 := rfl
    have hs5 : ¬ 9223372036854775807 < S.size + 1 := by omega
    have hs6 : ¬ 9223372036854775807 < S.size + 1 + t.size := by omega
    have HS3 : Hid ((S ++ (⟨#[47]⟩ : ByteArray) ++ t).size ≤ 9223372036854775807) := by
      show _ ≤ _
      rw [ByteArray.size_append, ByteArray.size_append, hz1]
      omega
    clear hz1
    have HW3 : Hid ((⟨(wrP [(k : Int), (v : Int), 1] [(k : Int), (v : Int), 1].length).toArray⟩ : ByteArray) = S) := HW.out
    have hlt1 : w.heap.size < w1.heap.size := World.block_lt_of_cell? w1 _ a4
    have HY : Hid (Below w1.heap.size w1 (w1.alloc (.cells #[.int .i64 k, .int .i64 v, .int .i64 1] 3)).drew) := ((Below.refl _ _).alloc (Nat.le_refl _) _).drew
    have HA0 : Hid ((w1.alloc (.cells #[.int .i64 k, .int .i64 v, .int .i64 1] 3)).drew.cell? ⟨w.heap.size, 0, none⟩ = some (.int .i64 (k : Int))) := cell_on HY.out hlt1 a0
    have HA1 : Hid ((w1.alloc (.cells #[.int .i64 k, .int .i64 v, .int .i64 1] 3)).drew.cell? ⟨w.heap.size, 1, none⟩ = some (.int .i64 (v : Int))) := cell_on HY.out hlt1 a1
    have HA4 : Hid ((w1.alloc (.cells #[.int .i64 k, .int .i64 v, .int .i64 1] 3)).drew.cell? ⟨w.heap.size, 4, none⟩ = some (.string t)) := cell_on HY.out hlt1 a4
    have HL : Hid (w.heap.size < (w1.alloc (.cells #[.int .i64 k, .int .i64 v, .int .i64 1] 3)).drew.heap.size) := by
      show _ < _
      simp
      omega
    have HM : Hid (w.heap.size ≤ (w1.alloc (.cells #[.int .i64 k, .int .i64 v, .int .i64 1] 3)).drew.heap.size) := Nat.le_of_lt HL.out
    go_upto_region 7 with fail
    go_region_held3 (fun w' => w'.cell? ⟨w.heap.size, 0, none⟩ = some (.int .i64 (k : Int)) ∧ w'.cell? ⟨w.heap.size, 1, none⟩ = some (.int .i64 (v : Int)) ∧ w'.cell? ⟨w.heap.size, 4, none⟩ = some (.string t)) (first | go_keep | (exact ⟨cell_on hb2 HL.out HA0.out, cell_on hb2 HL.out HA1.out, cell_on hb2 HL.out HA4.out⟩)) (first | (go_at_call 60; refine (written_c _ [(k : Int), (v : Int), 1] _ (by simp) (by simp) (fun x hx => by simp at hx; omega) (nums_three w1 k v 1).drew (HT.out _ HX.out)).mono ?_; rintro e w2 ⟨rfl, hb2⟩; simp only [HW3.out]) | (go_at_call 59; refine (number_c _ _ HS3.out).mono ?_; rintro e w3 ⟨rfl, rfl⟩))
    have HB2 : Hid (Below w.heap.size w w3) := HX.out.trans (hb2.mono HM.out)
    clear hb2
    go_wp2_with fail
    go_ret2
    exact ⟨rfl, HB2.out⟩
end Go.Proofs.YtippdgmgmenboagDoor

namespace Go.Proofs.YtippdgmgmenboagDoor
set_option linter.unusedVariables false
set_option linter.unusedSimpArgs false
open Go.RowKit

/-- the node i, d rows above the ends -/
def nd (P : Nat → Nat → Nat) (f : Nat → Nat) : Nat → Nat → Nat
  | 0, i => f (i - 8)
  | d + 1, i => P (nd P f d (2 * i)) (nd P f d (2 * i + 1))
/-- the keys where two trees part from a node on -/
def ptK (P : Nat → Nat → Nat) (f g : Nat → Nat) : Nat → Nat → List Nat
  | 0, i => if f (i - 8) = g (i - 8) then [] else [i - 8]
  | d + 1, i => if nd P f (d + 1) i = nd P g (d + 1) i then [] else ptK P f g d (2 * i) ++ ptK P f g d (2 * i + 1)
/-- how many nodes are asked -/
def ptN (P : Nat → Nat → Nat) (f g : Nat → Nat) : Nat → Nat → Nat
  | 0, _ => 1
  | d + 1, i => if nd P f (d + 1) i = nd P g (d + 1) i then 1 else ptN P f g d (2 * i) + ptN P f g d (2 * i + 1) + 1

theorem ptK_alike {P : Nat → Nat → Nat} {f g : Nat → Nat} {d i : Nat} (h : nd P f d i = nd P g d i) : ptK P f g d i = [] := by
  cases d with
  | zero => exact if_pos h
  | succ d => exact if_pos h
theorem ptN_alike {P : Nat → Nat → Nat} {f g : Nat → Nat} {d i : Nat} (h : nd P f d i = nd P g d i) : ptN P f g d i = 1 := by
  cases d with
  | zero => rfl
  | succ d => exact if_pos h
theorem ptK_turn (P : Nat → Nat → Nat) (f g : Nat → Nat) : ∀ d i, ptK P f g d i = ptK P g f d i := by
  intro d
  induction d with
  | zero => intro i; unfold ptK; split <;> rename_i h <;> first | rw [if_pos h.symm] | rw [if_neg (fun e => h e.symm)]
  | succ d ih => intro i; unfold ptK; rw [ih, ih]; split <;> rename_i h <;> first | rw [if_pos h.symm] | rw [if_neg (fun e => h e.symm)]
theorem ptN_turn (P : Nat → Nat → Nat) (f g : Nat → Nat) : ∀ d i, ptN P f g d i = ptN P g f d i := by
  intro d
  induction d with
  | zero => intro i; rfl
  | succ d ih => intro i; unfold ptN; rw [ih, ih]; split <;> rename_i h <;> first | rw [if_pos h.symm] | rw [if_neg (fun e => h e.symm)]
/-- unlike nodes have an end below that is unlike -/
theorem ptK_some {P : Nat → Nat → Nat} {f g : Nat → Nat} : ∀ {d i : Nat}, nd P f d i ≠ nd P g d i → 1 ≤ (ptK P f g d i).length := by
  intro d
  induction d with
  | zero =>
    intro i h
    have h' : ¬ f (i - 8) = g (i - 8) := h
    rw [ptK, if_neg h']
    exact Nat.le_refl _
  | succ d ih =>
    intro i h
    rw [ptK, if_neg h, List.length_append]
    by_cases h1 : nd P f d (2 * i) = nd P g d (2 * i)
    · by_cases h2 : nd P f d (2 * i + 1) = nd P g d (2 * i + 1)
      · exact absurd (by rw [nd, nd, h1, h2]) h
      · have := ih h2
        omega
    · have := ih h1
      omega
theorem ptN_pos (P : Nat → Nat → Nat) (f g : Nat → Nat) (d i : Nat) : 1 ≤ ptN P f g d i := by
  cases d with
  | zero => exact Nat.le_refl _
  | succ d => unfold ptN; split <;> omega
/-- little is asked -/
theorem ptN_few (P : Nat → Nat → Nat) (f g : Nat → Nat) : ∀ d i, ptN P f g d i ≤ 1 + 2 * d * (ptK P f g d i).length := by
  intro d
  induction d with
  | zero => intro i; exact Nat.le_add_right _ _
  | succ d ih =>
    intro i
    by_cases h : nd P f (d + 1) i = nd P g (d + 1) i
    · rw [ptN_alike h]
      exact Nat.le_add_right _ _
    · have h1 := ptK_some h
      have h2 := ih (2 * i)
      have h3 := ih (2 * i + 1)
      rw [ptK, if_neg h, List.length_append] at h1 ⊢
      rw [ptN, if_neg h]
      obtain ⟨p, hp⟩ : ∃ p, p = (ptK P f g d (2 * i)).length := ⟨_, rfl⟩
      obtain ⟨q, hq⟩ : ∃ q, q = (ptK P f g d (2 * i + 1)).length := ⟨_, rfl⟩
      rw [← hp] at h1 h2 ⊢
      rw [← hq] at h1 h3 ⊢
      have e : 2 * (d + 1) * (p + q) = 2 * d * p + 2 * d * q + 2 * (p + q) := by
        rw [Nat.mul_add 2 d 1, Nat.add_mul, Nat.mul_add (2 * d) p q]
      rw [e]
      omega
/-- the keys below a node -/
def under (d i k : Nat) : Prop := i * 2 ^ d ≤ k + 8 ∧ k + 8 < (i + 1) * 2 ^ d
theorem under_left {d i k : Nat} (h : under d (2 * i) k) : under (d + 1) i k := by
  obtain ⟨h1, h2⟩ := h
  have e : 2 ^ (d + 1) = 2 * 2 ^ d := by rw [Nat.pow_succ, Nat.mul_comm]
  constructor
  · rw [e, ← Nat.mul_assoc, Nat.mul_comm i 2]; exact h1
  · rw [e, ← Nat.mul_assoc, Nat.mul_comm (i + 1) 2]
    refine Nat.lt_of_lt_of_le h2 (Nat.mul_le_mul_right _ (by omega))
theorem under_right {d i k : Nat} (h : under d (2 * i + 1) k) : under (d + 1) i k := by
  obtain ⟨h1, h2⟩ := h
  have e : 2 ^ (d + 1) = 2 * 2 ^ d := by rw [Nat.pow_succ, Nat.mul_comm]
  constructor
  · rw [e, ← Nat.mul_assoc, Nat.mul_comm i 2]
    exact Nat.le_trans (Nat.mul_le_mul_right _ (by omega)) h1
  · rw [e, ← Nat.mul_assoc, Nat.mul_comm (i + 1) 2]
    exact h2
theorem under_part {d i k q : Nat} (h : under d (2 * i) k) (h' : under d (2 * i + 1) q) : k < q := by
  have h1 := h.2
  have h2 := h'.1
  omega
theorem ptK_under (P : Nat → Nat → Nat) (f g : Nat → Nat) : ∀ d i k, 8 ≤ i * 2 ^ d → k ∈ ptK P f g d i → under d i k ∧ f k ≠ g k := by
  intro d
  induction d with
  | zero =>
    intro i k h8 hk
    unfold ptK at hk
    split at hk
    · simp at hk
    · rename_i h
      simp only [List.mem_singleton] at hk
      subst hk
      refine ⟨⟨?_, ?_⟩, h⟩ <;> simp only [Nat.pow_zero, Nat.mul_one] at h8 ⊢ <;> omega
  | succ d ih =>
    intro i k h8 hk
    have e : 2 ^ (d + 1) = 2 * 2 ^ d := by rw [Nat.pow_succ, Nat.mul_comm]
    have hl : 8 ≤ 2 * i * 2 ^ d := by rw [e, ← Nat.mul_assoc, Nat.mul_comm i 2] at h8; exact h8
    have hr : 8 ≤ (2 * i + 1) * 2 ^ d := Nat.le_trans hl (Nat.mul_le_mul_right _ (by omega))
    unfold ptK at hk
    split at hk
    · simp at hk
    · rcases List.mem_append.1 hk with h | h
      · exact ⟨under_left (ih _ _ hl h).1, (ih _ _ hl h).2⟩
      · exact ⟨under_right (ih _ _ hr h).1, (ih _ _ hr h).2⟩
/-- the keys rise -/
theorem ptK_rise (P : Nat → Nat → Nat) (f g : Nat → Nat) : ∀ d i, 8 ≤ i * 2 ^ d → (ptK P f g d i).Pairwise (· < ·) := by
  intro d
  induction d with
  | zero => intro i _; unfold ptK; split <;> simp
  | succ d ih =>
    intro i h8
    have e : 2 ^ (d + 1) = 2 * 2 ^ d := by rw [Nat.pow_succ, Nat.mul_comm]
    have hl : 8 ≤ 2 * i * 2 ^ d := by rw [e, ← Nat.mul_assoc, Nat.mul_comm i 2] at h8; exact h8
    have hr : 8 ≤ (2 * i + 1) * 2 ^ d := Nat.le_trans hl (Nat.mul_le_mul_right _ (by omega))
    unfold ptK
    split
    · exact List.Pairwise.nil
    · rw [List.pairwise_append]
      exact ⟨ih _ hl, ih _ hr, fun a ha b hb => under_part (ptK_under P f g d _ a hl ha).1 (ptK_under P f g d _ b hr hb).1⟩
theorem nd_ext (P : Nat → Nat → Nat) (f g : Nat → Nat) : ∀ d i, 8 ≤ i * 2 ^ d → (∀ k, under d i k → f k = g k) → nd P f d i = nd P g d i := by
  intro d
  induction d with
  | zero =>
    intro i h8 h
    simp only [Nat.pow_zero, Nat.mul_one] at h8
    exact h (i - 8) ⟨by simp only [Nat.pow_zero, Nat.mul_one]; omega, by simp only [Nat.pow_zero, Nat.mul_one]; omega⟩
  | succ d ih =>
    intro i h8 h
    have e : 2 ^ (d + 1) = 2 * 2 ^ d := by rw [Nat.pow_succ, Nat.mul_comm]
    have hl : 8 ≤ 2 * i * 2 ^ d := by rw [e, ← Nat.mul_assoc, Nat.mul_comm i 2] at h8; exact h8
    have hr : 8 ≤ (2 * i + 1) * 2 ^ d := Nat.le_trans hl (Nat.mul_le_mul_right _ (by omega))
    rw [nd, nd, ih _ hl (fun k hk => h k (under_left hk)), ih _ hr (fun k hk => h k (under_right hk))]
/-- with what was told of one of both put into the other one they part no more -/
theorem nd_mended (P : Nat → Nat → Nat) (f g h : Nat → Nat) : ∀ d i, 8 ≤ i * 2 ^ d → (∀ k, under d i k → (k ∈ ptK P f g d i → h k = f k) ∧ (k ∉ ptK P f g d i → h k = g k)) → nd P h d i = nd P f d i := by
  intro d
  induction d with
  | zero =>
    intro i h8 hh
    simp only [Nat.pow_zero, Nat.mul_one] at h8
    have := hh (i - 8) ⟨by simp only [Nat.pow_zero, Nat.mul_one]; omega, by simp only [Nat.pow_zero, Nat.mul_one]; omega⟩
    by_cases e : f (i - 8) = g (i - 8)
    · have h1 := this.2 (by rw [ptK, if_pos e]; simp)
      show h (i - 8) = f (i - 8)
      rw [h1, e]
    · exact this.1 (by rw [ptK, if_neg e]; simp)
  | succ d ih =>
    intro i h8 hh
    have e : 2 ^ (d + 1) = 2 * 2 ^ d := by rw [Nat.pow_succ, Nat.mul_comm]
    have hl : 8 ≤ 2 * i * 2 ^ d := by rw [e, ← Nat.mul_assoc, Nat.mul_comm i 2] at h8; exact h8
    have hr : 8 ≤ (2 * i + 1) * 2 ^ d := Nat.le_trans hl (Nat.mul_le_mul_right _ (by omega))
    by_cases hn : nd P f (d + 1) i = nd P g (d + 1) i
    · rw [hn]
      refine nd_ext P h g (d + 1) i h8 (fun k hk => (hh k hk).2 ?_)
      rw [ptK_alike hn]
      simp
    · have hm : ∀ k, k ∈ ptK P f g (d + 1) i ↔ k ∈ ptK P f g d (2 * i) ∨ k ∈ ptK P f g d (2 * i + 1) := fun k => by
        rw [ptK, if_neg hn, List.mem_append]
      have e1 : nd P h d (2 * i) = nd P f d (2 * i) := by
        refine ih _ hl (fun k hk => ⟨fun hx => (hh k (under_left hk)).1 ((hm k).2 (Or.inl hx)), fun hx => (hh k (under_left hk)).2 (fun hy => ?_)⟩)
        rcases (hm k).1 hy with h1 | h1
        · exact hx h1
        · exact absurd (under_part hk (ptK_under P f g d _ k hr h1).1) (Nat.lt_irrefl _)
      have e2 : nd P h d (2 * i + 1) = nd P f d (2 * i + 1) := by
        refine ih _ hr (fun k hk => ⟨fun hx => (hh k (under_right hk)).1 ((hm k).2 (Or.inr hx)), fun hx => (hh k (under_right hk)).2 (fun hy => ?_)⟩)
        rcases (hm k).1 hy with h1 | h1
        · exact absurd (under_part (ptK_under P f g d _ k hl h1).1 hk) (Nat.lt_irrefl _)
        · exact hx h1
      rw [nd, nd, e1, e2]
end Go.Proofs.YtippdgmgmenboagDoor

namespace Go.Proofs.YtippdgmgmenboagDoor
set_option linter.unusedVariables false
set_option linter.unusedSimpArgs false
open Go.RowKit

/-- decimal digits, n steps at most -/
def digF : Nat → Nat → List Nat
  | 0, u => [48 + u]
  | n + 1, u => if u < 10 then [48 + u] else digF n (u / 10) ++ [48 + u % 10]
theorem u8_dig {x : Nat} (h : x < 10) : (UInt8.ofNat (48 + x)).toNat = 48 + x := by
  rw [UInt8.toNat_ofNat']
  omega
theorem digF_eq : ∀ n u, u ≤ n → digF n u = (Lib.decDigits u).map UInt8.toNat := by
  intro n
  induction n with
  | zero =>
    intro u h
    obtain rfl : u = 0 := by omega
    rw [Lib.decDigits_one (by omega), List.map_singleton, u8_dig (by omega)]
    rfl
  | succ n ih =>
    intro u h
    rw [digF]
    split
    · rename_i h10
      rw [Lib.decDigits_one h10, List.map_singleton, u8_dig h10]
    · rename_i h10
      have e : Lib.decDigits u = Lib.decDigits (u / 10) ++ [UInt8.ofNat (48 + u % 10)] := by rw [Lib.decDigits, dif_neg h10]
      rw [ih (u / 10) (by omega), e, List.map_append, List.map_singleton, u8_dig (Nat.mod_lt _ (by omega))]
theorem byN_dig (u : Nat) : byN (digS u) = digF u u := by
  rw [digF_eq u u (Nat.le_refl _)]
  rfl
theorem byN_append (a b : ByteArray) : byN (a ++ b) = byN a ++ byN b := by simp [byN, ByteArray.data_append]
/-- the number of two numbers -/
def pairH (a b : Nat) : Nat := hashL (byN (str2 a b))
def pairF (a b : Nat) : Nat := hashL (digF a a ++ [47] ++ digF b b)
theorem pairH_eq : pairH = pairF := by
  funext a b
  rw [pairH, pairF, str2, byN_append, byN_append, byN_dig, byN_dig]
  rfl
theorem pairH_lt (a b : Nat) : pairH a b < 4294967296 := hashL_lt _
/-- the number of an entry -/
def entH (k v : Nat) (g : Bool) (t : ByteArray) : Nat := hashL (byN (strE k v g t))
def entF (k v : Nat) (g : Bool) (t : List Nat) : Nat := hashL (digF k k ++ [47] ++ digF v v ++ [47] ++ digF (if g = true then 1 else 0) (if g = true then 1 else 0) ++ [47] ++ t)
theorem entH_eq (k v : Nat) (g : Bool) (t : ByteArray) : entH k v g t = entF k v g (byN t) := by
  rw [entH, entF, strE, str3, byN_append, byN_append, byN_append, byN_append, byN_append, byN_append, byN_dig, byN_dig, byN_dig]
  rfl
/-- one entry alone against nothing: the key 6, seven nodes -/
def oneF (k : Nat) : Nat := if k = 6 then entF 6 1 false [120] else 0
theorem one_part : ptK pairF oneF (fun _ => 0) 3 1 = [6] ∧ ptN pairF oneF (fun _ => 0) 3 1 = 7 := by decide +kernel
end Go.Proofs.YtippdgmgmenboagDoor

namespace Go.Proofs.YtippdgmgmenboagDoor
set_option linter.unusedVariables false
set_option linter.unusedSimpArgs false
open Go.RowKit
set_option maxHeartbeats 4000000 in
theorem join_same (ka va aa : Int) (ga : Bool) (ta : ByteArray) (kb vb ab : Int) (gb : Bool) (tb : ByteArray) (w : World) (h : bad2 (bad ka va aa ga ta) (bad kb vb ab gb tb) = 0) (hk : ka = kb) :
    Calls Tryd.prog 47 #[.agg #[.int .i64 ka, .int .i64 va, .int .i64 aa, .bool ga, .string ta], .agg #[.int .i64 kb, .int .i64 vb, .int .i64 ab, .bool gb, .string tb]] w fun e w' => e = .returned (.tuple #[(joinE ⟨ka, va, aa, ga, ta⟩ ⟨kb, vb, ab, gb, tb⟩).1.val, eV (joinE ⟨ka, va, aa, ga, ta⟩ ⟨kb, vb, ab, gb, tb⟩).2]) ∧ Below w.heap.size w w' := by
  have H : Hid (bad2 (bad ka va aa ga ta) (bad kb vb ab gb tb) = 0) := h
  clear h
  subst hk
  have HJ : Hid (joinE ⟨ka, va, aa, ga, ta⟩ ⟨ka, vb, ab, gb, tb⟩ = if newerB va aa vb ab = true then (if clashB vb ab gb tb va ga ta = true then (⟨0, 0, 0, false, ⟨#[]⟩⟩, 7) else (⟨ka, va, aa, ga, ta⟩, 0)) else if clashB va aa ga ta vb gb tb = true then (⟨0, 0, 0, false, ⟨#[]⟩⟩, 7) else (⟨ka, vb, ab, gb, tb⟩, 0)) := by
    show joinE _ _ = _
    unfold joinE
    rw [if_neg (by simpa using H.out), if_neg (by simp)]
  obtain ⟨nb, HN⟩ : ∃ b, Hid (newerB va aa vb ab = b) := ⟨_, rfl⟩
  obtain ⟨J, HE⟩ : ∃ J, Hid (joinE ⟨ka, va, aa, ga, ta⟩ ⟨ka, vb, ab, gb, tb⟩ = J) := ⟨_, rfl⟩
  rw [HE.out]
  go_enter Tryd.func47, Tryd.ntmps47
  go_wp2_with fail
  refine (all_c (w.heap.size + 1 + 1 + 1) ka va aa ga ta ka vb ab gb tb _ (alloc_at _ _ _ (by simp))).mono ?_
  rintro e w1 ⟨rfl, hb⟩
  rw [H.out, eV, if_pos rfl]
  have B1 : Hid (Below w.heap.size w w1) := Below.trans (by go_grown) (hb.mono (by simp; omega))
  obtain ⟨e0, e1, e2, e3, e4, ef⟩ := ((box_new _ 0 0 0 false ⟨#[]⟩ (w.heap.size + 1 + 1) (by simp)).alloc _).below hb (by simp)
  obtain ⟨a0, a1, a2, a3, a4, af⟩ := ((((box_new w ka va aa ga ta w.heap.size rfl).alloc _).alloc _).alloc _).below hb (by simp; omega)
  obtain ⟨b0, b1, b2, b3, b4, bf⟩ := (((box_new _ ka vb ab gb tb (w.heap.size + 1) (by simp)).alloc _).alloc _).below hb (by simp)
  have hz : w.heap.size + 4 ≤ w1.heap.size := by have := hb.size; simp at this; omega
  have p1 : w.heap.size < w1.heap.size := by omega
  have p2 : ¬ w.heap.size = w1.heap.size := by omega
  have p3 : w.heap.size < w1.heap.size + 1 := by omega
  have p4 : ¬ w.heap.size = w1.heap.size + 1 := by omega
  have q1 : w.heap.size + 1 < w1.heap.size := by omega
  have q2 : ¬ w.heap.size + 1 = w1.heap.size := by omega
  have q3 : w.heap.size + 1 < w1.heap.size + 1 := by omega
  have q4 : ¬ w.heap.size + 1 = w1.heap.size + 1 := by omega
  have r1 : w.heap.size + 1 + 1 < w1.heap.size := by omega
  have r2 : ¬ w.heap.size + 1 + 1 = w1.heap.size := by omega
  have r3 : w.heap.size + 1 + 1 < w1.heap.size + 1 := by omega
  have r4 : ¬ w.heap.size + 1 + 1 = w1.heap.size + 1 := by omega
  clear hb hz
  go_upto_region 6 with fail
  go_cut [7, 8] (fun v7 v8 wc => ∃ O N : Nat, v7 = .pointer (some ⟨O, 0, none⟩) ∧ v8 = .pointer (some ⟨N, 0, none⟩) ∧ O ≠ N ∧ w.heap.size + 3 ≤ O ∧ w.heap.size + 3 ≤ N ∧ BoxAt wc O ka va aa ga ta ∧ BoxAt wc N ka vb ab gb tb ∧ Hid (Below w1.heap.size w1 wc))
  case first =>
    as_aux_lemma =>
      go_region
      · go_wp2_with fail
        go_meet
        case rel => 
          refine ⟨_, _, rfl, rfl, by omega, by omega, by omega, ?_, ?_, ?_⟩
          · exact ((box_new _ _ _ _ _ _ _ rfl).alloc _).drew
          · exact (box_new _ _ _ _ _ _ _ (by simp)).drew
          · show Below _ _ _; go_grown
      · go_wp2_with fail
        go_meet
        case rel => 
          refine ⟨_, _, rfl, rfl, by omega, by omega, by omega, ?_, ?_, ?_⟩
          · exact (box_new _ _ _ _ _ _ _ (by simp)).drew
          · exact ((box_new _ _ _ _ _ _ _ rfl).alloc _).drew
          · show Below _ _ _; go_grown
  case rest =>
    obtain ⟨w2, h⟩ : ∃ x, x = wc := ⟨_, rfl⟩
    subst h
    obtain ⟨O, N, rfl, rfl, hON, hO, hN, bO, bN, HB2⟩ := hcut
    have A2 := (BoxAt.mk a0 a1 a2 a3 a4 af).below HB2.out p1
    have R2 := (BoxAt.mk e0 e1 e2 e3 e4 ef).below HB2.out r1
    have D2 := (BoxAt.mk b0 b1 b2 b3 b4 bf).below HB2.out q1
    clear a0 a1 a2 a3 a4 af b0 b1 b2 b3 b4 bf e0 e1 e2 e3 e4 ef
    have X2 : Hid (BoxAt w2 w.heap.size ka va aa ga ta) := A2
    have Y2 : Hid (BoxAt w2 (w.heap.size + 1) ka vb ab gb tb) := D2
    have Z2 : Hid (BoxAt w2 (w.heap.size + 1 + 1) 0 0 0 false ⟨#[]⟩) := R2
    have O2 : Hid (BoxAt w2 O ka va aa ga ta) := bO
    have N2 : Hid (BoxAt w2 N ka vb ab gb tb) := bN
    obtain ⟨a0, a1, a2, a3, a4, af⟩ := A2
    obtain ⟨b0, b1, b2, b3, b4, bf⟩ := D2
    clear R2 bO bN
    go_wp2_with fail
    refine (isNewer_c ka va aa ga ta ka vb ab gb tb _).mono ?_
    rintro e w3 ⟨rfl, hb⟩
    rw [HN.out]
    have hsz := hb.size
    have oL := O2.out.lt
    have nL := N2.out.lt
    have B3 : Hid (Below w.heap.size w w3) := (B1.out.trans (HB2.out.mono B1.out.size)).trans (hb.mono (by omega))
    obtain ⟨a0, a1, a2, a3, a4, af⟩ := X2.out.below hb X2.out.lt
    obtain ⟨b0, b1, b2, b3, b4, bf⟩ := Y2.out.below hb Y2.out.lt
    obtain ⟨e0, e1, e2, e3, e4, ef⟩ := Z2.out.below hb Z2.out.lt
    obtain ⟨o0, o1, o2, o3, o4, of⟩ := O2.out.below hb O2.out.lt
    obtain ⟨n0, n1, n2, n3, n4, nf⟩ := N2.out.below hb N2.out.lt
    clear hb
    have g1 : ¬ O = N := hON
    have g2 : ¬ N = O := fun h => hON h.symm
    have fO0 : ¬ O = w.heap.size := by omega
    have kO0 : ¬ w.heap.size = O := by omega
    have fO1 : ¬ O = w.heap.size + 1 := by omega
    have kO1 : ¬ w.heap.size + 1 = O := by omega
    have fO2 : ¬ O = w.heap.size + 1 + 1 := by omega
    have kO2 : ¬ w.heap.size + 1 + 1 = O := by omega
    have fN0 : ¬ N = w.heap.size := by omega
    have kN0 : ¬ w.heap.size = N := by omega
    have fN1 : ¬ N = w.heap.size + 1 := by omega
    have kN1 : ¬ w.heap.size + 1 = N := by omega
    have fN2 : ¬ N = w.heap.size + 1 + 1 := by omega
    have kN2 : ¬ w.heap.size + 1 + 1 = N := by omega
    cases nb
    · go_wp2_with fail
      obtain ⟨cb, HC⟩ : ∃ b, Hid (clashB va aa ga ta vb gb tb = b) := ⟨_, rfl⟩
      refine (clash_c ka va aa ga ta ka vb ab gb tb _).mono ?_
      rintro e w4 ⟨rfl, hb⟩
      rw [HC.out]
      have B4 : Hid (Below w.heap.size w w4) := B3.out.trans (hb.mono B3.out.size)
      obtain ⟨n0, n1, n2, n3, n4, nf⟩ := BoxAt.below (BoxAt.mk n0 n1 n2 n3 n4 nf) hb (BoxAt.mk n0 n1 n2 n3 n4 nf).lt
      obtain ⟨e0, e1, e2, e3, e4, ef⟩ := BoxAt.below (BoxAt.mk e0 e1 e2 e3 e4 ef) hb (BoxAt.mk e0 e1 e2 e3 e4 ef).lt
      clear hb
      cases cb
      · go_wp2_with fail
        refine bodyPost_ret (v := .tuple #[.agg #[.int .i64 ka, .int .i64 vb, .int .i64 ab, .bool gb, .string tb], .nilIface]) (by simp [results, Tryd.results47, go_sem, e0, e1, e2, e3, e4]) rfl ?_
        refine ⟨by rw [← HE.out, HJ.out, HN.out, HC.out]; rfl, ?_⟩
        have hb := B4.out
        go_grown
      · go_wp2_with fail
        refine bodyPost_ret (v := .tuple #[.agg #[.int .i64 0, .int .i64 0, .int .i64 0, .bool false, .string ⟨#[]⟩], .iface 55 (.int .i64 7)]) (by simp [results, Tryd.results47, go_sem, e0, e1, e2, e3, e4]) rfl ?_
        refine ⟨by rw [← HE.out, HJ.out, HN.out, HC.out]; rfl, ?_⟩
        have hb := B4.out
        go_grown
    · go_upto_region 8 with fail
      go_cut [7] (fun v7 wc => v7 = .pointer (some ⟨O, 0, none⟩) ∧ BoxAt wc O ka vb ab gb tb ∧ BoxAt wc N ka va aa ga ta ∧ BoxAt wc (w.heap.size + 1 + 1) 0 0 0 false ⟨#[]⟩ ∧ Hid (Below w.heap.size w wc))
      case first =>
        go_region
        go_wp2_with fail
        go_meet
        case rel =>
          have t1 := (((BoxAt.mk o0 o1 o2 o3 o4 of).set ka vb ab gb tb).other g1 (.int .i64 ka) (.int .i64 va) (.int .i64 aa) (.bool ga) (.string ta)).drew
          have t2 := (((BoxAt.mk n0 n1 n2 n3 n4 nf).other g2 (.int .i64 ka) (.int .i64 vb) (.int .i64 ab) (.bool gb) (.string tb)).set ka va aa ga ta).drew
          have t3 := (((BoxAt.mk e0 e1 e2 e3 e4 ef).other kO2 (.int .i64 ka) (.int .i64 vb) (.int .i64 ab) (.bool gb) (.string tb)).other kN2 (.int .i64 ka) (.int .i64 va) (.int .i64 aa) (.bool ga) (.string ta)).drew
          refine ⟨rfl, t1, t2, t3, ?_⟩
          have hb := B3.out
          have hO1 : w.heap.size ≤ O := by omega
          have hN1 : w.heap.size ≤ N := by omega
          show Below _ _ _
          exact ((((((((((hb.setCell hO1 _).setCell hO1 _).setCell hO1 _).setCell hO1 _).setCell hO1 _).setCell hN1 _).setCell hN1 _).setCell hN1 _).setCell hN1 _).setCell hN1 _).drew
      case rest =>
        obtain ⟨w5, h⟩ : ∃ x, x = wc := ⟨_, rfl⟩
        subst h
        obtain ⟨rfl, bO, bN, bR, B5⟩ := hcut
        have hN5 : Hid (BoxAt w5 N ka va aa ga ta) := bN
        have hR5 : Hid (BoxAt w5 (w.heap.size + 1 + 1) 0 0 0 false ⟨#[]⟩) := bR
        clear a0 a1 a2 a3 a4 af b0 b1 b2 b3 b4 bf e0 e1 e2 e3 e4 ef o0 o1 o2 o3 o4 of n0 n1 n2 n3 n4 nf bR
        obtain ⟨o0, o1, o2, o3, o4, of⟩ := bO
        obtain ⟨n0, n1, n2, n3, n4, nf⟩ := bN
        go_wp2_with fail
        obtain ⟨cb, HC⟩ : ∃ b, Hid (clashB vb ab gb tb va ga ta = b) := ⟨_, rfl⟩
        refine (clash_c ka vb ab gb tb ka va aa ga ta _).mono ?_
        rintro e w4 ⟨rfl, hb⟩
        rw [HC.out]
        have B4 : Hid (Below w.heap.size w w4) := B5.out.trans (hb.mono B5.out.size)
        obtain ⟨n0, n1, n2, n3, n4, nf⟩ := BoxAt.below (hN5.out) hb (hN5.out).lt
        obtain ⟨e0, e1, e2, e3, e4, ef⟩ := BoxAt.below (hR5.out) hb (hR5.out).lt
        clear hb
        cases cb
        · go_wp2_with fail
          refine bodyPost_ret (v := .tuple #[.agg #[.int .i64 ka, .int .i64 va, .int .i64 aa, .bool ga, .string ta], .nilIface]) (by simp [results, Tryd.results47, go_sem, e0, e1, e2, e3, e4]) rfl ?_
          refine ⟨by rw [← HE.out, HJ.out, HN.out, HC.out]; rfl, ?_⟩
          have hb := B4.out
          go_grown
        · go_wp2_with fail
          refine bodyPost_ret (v := .tuple #[.agg #[.int .i64 0, .int .i64 0, .int .i64 0, .bool false, .string ⟨#[]⟩], .iface 55 (.int .i64 7)]) (by simp [results, Tryd.results47, go_sem, e0, e1, e2, e3, e4]) rfl ?_
          refine ⟨by rw [← HE.out, HJ.out, HN.out, HC.out]; rfl, ?_⟩
          have hb := B4.out
          go_grown
end Go.Proofs.YtippdgmgmenboagDoor

namespace Go.Proofs.YtippdgmgmenboagDoor
set_option linter.unusedVariables false
set_option linter.unusedSimpArgs false
open Go.RowKit
theorem join_c (ka va aa : Int) (ga : Bool) (ta : ByteArray) (kb vb ab : Int) (gb : Bool) (tb : ByteArray) (w : World) :
    Calls Tryd.prog 47 #[.agg #[.int .i64 ka, .int .i64 va, .int .i64 aa, .bool ga, .string ta], .agg #[.int .i64 kb, .int .i64 vb, .int .i64 ab, .bool gb, .string tb]] w fun e w' => e = .returned (.tuple #[(joinE ⟨ka, va, aa, ga, ta⟩ ⟨kb, vb, ab, gb, tb⟩).1.val, eV (joinE ⟨ka, va, aa, ga, ta⟩ ⟨kb, vb, ab, gb, tb⟩).2]) ∧ Below w.heap.size w w' := by
  by_cases h : bad2 (bad ka va aa ga ta) (bad kb vb ab gb tb) = 0
  · by_cases hk : ka = kb
    · exact join_same ka va aa ga ta kb vb ab gb tb w h hk
    · refine (join_key ka va aa ga ta kb vb ab gb tb w h hk).mono ?_
      rintro e w' ⟨rfl, hb⟩
      refine ⟨?_, hb⟩
      have hj : joinE ⟨ka, va, aa, ga, ta⟩ ⟨kb, vb, ab, gb, tb⟩ = (⟨0, 0, 0, false, ⟨#[]⟩⟩, 3) := by
        unfold joinE
        rw [if_neg (by simpa using h), if_pos hk]
      rw [hj]
      rfl
  · refine (join_bad ka va aa ga ta kb vb ab gb tb w _ h rfl).mono ?_
    rintro e w' ⟨rfl, hb⟩
    refine ⟨?_, hb⟩
    have hj : joinE ⟨ka, va, aa, ga, ta⟩ ⟨kb, vb, ab, gb, tb⟩ = (⟨0, 0, 0, false, ⟨#[]⟩⟩, bad2 (bad ka va aa ga ta) (bad kb vb ab gb tb)) := by
      unfold joinE
      rw [if_pos h]
    rw [hj]
    show _ = Ending.returned (.tuple #[_, eV (bad2 (bad ka va aa ga ta) (bad kb vb ab gb tb))])
    rw [eV, if_neg h]
    rfl
/-- the result of Join, written out -/
theorem join_o {ka va aa : Int} {ga : Bool} {ta : ByteArray} {kb vb ab : Int} {gb : Bool} {tb : ByteArray} {k v a : Int} {g : Bool} {t : ByteArray} {n : Int} (h : joinE ⟨ka, va, aa, ga, ta⟩ ⟨kb, vb, ab, gb, tb⟩ = (⟨k, v, a, g, t⟩, n)) (w : World) :
    Calls Tryd.prog 47 #[.agg #[.int .i64 ka, .int .i64 va, .int .i64 aa, .bool ga, .string ta], .agg #[.int .i64 kb, .int .i64 vb, .int .i64 ab, .bool gb, .string tb]] w fun e w' => e = .returned (.tuple #[.agg #[.int .i64 k, .int .i64 v, .int .i64 a, .bool g, .string t], eV n]) ∧ Below w.heap.size w w' := by
  have c := join_c ka va aa ga ta kb vb ab gb tb w
  rw [h] at c
  exact c
theorem join_ok {ka va aa : Int} {ga : Bool} {ta : ByteArray} {kb vb ab : Int} {gb : Bool} {tb : ByteArray} {k v a : Int} {g : Bool} {t : ByteArray} (h : joinE ⟨ka, va, aa, ga, ta⟩ ⟨kb, vb, ab, gb, tb⟩ = (⟨k, v, a, g, t⟩, 0)) (w : World) :
    Calls Tryd.prog 47 #[.agg #[.int .i64 ka, .int .i64 va, .int .i64 aa, .bool ga, .string ta], .agg #[.int .i64 kb, .int .i64 vb, .int .i64 ab, .bool gb, .string tb]] w fun e w' => e = .returned (.tuple #[.agg #[.int .i64 k, .int .i64 v, .int .i64 a, .bool g, .string t], .nilIface]) ∧ Below w.heap.size w w' :=
  join_o h w
theorem join_err {ka va aa : Int} {ga : Bool} {ta : ByteArray} {kb vb ab : Int} {gb : Bool} {tb : ByteArray} {k v a : Int} {g : Bool} {t : ByteArray} {n : Int} (h : joinE ⟨ka, va, aa, ga, ta⟩ ⟨kb, vb, ab, gb, tb⟩ = (⟨k, v, a, g, t⟩, n)) (hn : n ≠ 0) (w : World) :
    Calls Tryd.prog 47 #[.agg #[.int .i64 ka, .int .i64 va, .int .i64 aa, .bool ga, .string ta], .agg #[.int .i64 kb, .int .i64 vb, .int .i64 ab, .bool gb, .string tb]] w fun e w' => e = .returned (.tuple #[.agg #[.int .i64 k, .int .i64 v, .int .i64 a, .bool g, .string t], .iface 55 (.int .i64 n)]) ∧ Below w.heap.size w w' := by
  have c := join_o h w
  rw [eV, if_neg hn] at c
  exact c
/-- two entries with the same cells -/
def En.same (x y : En) : Bool := (x.k == y.k) && ((x.v == y.v) && ((x.a == y.a) && ((x.g == y.g) && (x.t.toList == y.t.toList))))
theorem eql_enIn (x y : En) (w : World) : (Op.equalIn 10000 46 x.val y.val).run Tryd.prog w = .ok (x.same y) w := by
  unfold En.val
  rw [run_equalIn_agg w 9999 46 _ _ (by kernel_rfl) (by kernel_rfl)]
  simp [Op.eqFields, Program.fieldsOf, Tryd.underlying46, go_sem, Tryd.underlying3, Tryd.underlying4, Tryd.underlying9, En.same]
  by_cases h0 : x.k = y.k <;> by_cases h1 : x.v = y.v <;> by_cases h2 : x.a = y.a <;> by_cases h3 : x.g = y.g <;> by_cases h4 : x.t.toList = y.t.toList <;> simp [h0, h1, h2, h3, h4]
theorem eql_en (x y : En) (w : World) : (binOp .eql 46 x.val y.val).run Tryd.prog w = .ok (.bool (x.same y)) w := by
  have h := eql_enIn x y w
  unfold En.val at h ⊢
  rw [run_eql_struct, h]
  rfl
theorem En.same_self (x : En) : x.same x = true := by simp [En.same]
theorem eql_cells (x0 x1 x2 : Int) (x3 : Bool) (x4 : ByteArray) (w : World) : (binOp .eql 46 (.agg #[.int .i64 x0, .int .i64 x1, .int .i64 x2, .bool x3, .string x4]) (.agg #[.int .i64 x0, .int .i64 x1, .int .i64 x2, .bool x3, .string x4])).run Tryd.prog w = .ok (.bool true) w := by
  have h := eql_en ⟨x0, x1, x2, x3, x4⟩ ⟨x0, x1, x2, x3, x4⟩ w
  rw [En.same_self] at h
  exact h
theorem eqlIn_cells (x0 x1 x2 : Int) (x3 : Bool) (x4 : ByteArray) (w : World) : (Op.equalIn 10000 46 (.agg #[.int .i64 x0, .int .i64 x1, .int .i64 x2, .bool x3, .string x4]) (.agg #[.int .i64 x0, .int .i64 x1, .int .i64 x2, .bool x3, .string x4])).run Tryd.prog w = .ok true w := by
  have h := eql_enIn ⟨x0, x1, x2, x3, x4⟩ ⟨x0, x1, x2, x3, x4⟩ w
  rw [En.same_self] at h
  exact h
theorem eqGuard_en : Tryd.prog.eqGuardType Tryd.prog.depth 46 = false := by kernel_rfl
end Go.Proofs.YtippdgmgmenboagDoor
