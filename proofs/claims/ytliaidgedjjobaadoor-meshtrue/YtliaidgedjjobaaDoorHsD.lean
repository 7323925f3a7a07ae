/-
  The number of two numbers and of an entry, in a form that can be reckoned; the one tree's fact.
-/
import Derived.Test.YtliaidgedjjobaaDoorHsE
import Derived.Test.YtliaidgedjjobaaDoorTrP
namespace Go.Proofs.YtliaidgedjjobaaDoor
set_option linter.unusedVariables false
set_option linter.unusedSimpArgs false
open Go.RowKit

/-- decimal digits, n steps at most -/
def digF : Nat → Nat → List Nat
  | 0, u => [48 + u]
  | n + 1, u => if u < 10 then [48 + u] else digF n (u / 10) ++ [48 + u % 10]
theorem u8_dig {x : Nat} (h : x < 10) : (UInt8.ofNat (48 + x)).toNat = 48 + x := by
  rw [UInt8.toNat_ofNat']
  omega
theorem digF_eq : ∀ n u, u ≤ n → digF n u = (Lib.decDigits u).map UInt8.toNat := by
  intro n
  induction n with
  | zero =>
    intro u h
    obtain rfl : u = 0 := by omega
    rw [Lib.decDigits_one (by omega), List.map_singleton, u8_dig (by omega)]
    rfl
  | succ n ih =>
    intro u h
    rw [digF]
    split
    · rename_i h10
      rw [Lib.decDigits_one h10, List.map_singleton, u8_dig h10]
    · rename_i h10
      have e : Lib.decDigits u = Lib.decDigits (u / 10) ++ [UInt8.ofNat (48 + u % 10)] := by rw [Lib.decDigits, dif_neg h10]
      rw [ih (u / 10) (by omega), e, List.map_append, List.map_singleton, u8_dig (Nat.mod_lt _ (by omega))]
theorem byN_dig (u : Nat) : byN (digS u) = digF u u := by
  rw [digF_eq u u (Nat.le_refl _)]
  rfl
theorem byN_append (a b : ByteArray) : byN (a ++ b) = byN a ++ byN b := by simp [byN, ByteArray.data_append]
/-- the number of two numbers -/
def pairH (a b : Nat) : Nat := hashL (byN (str2 a b))
def pairF (a b : Nat) : Nat := hashL (digF a a ++ [47] ++ digF b b)
theorem pairH_eq : pairH = pairF := by
  funext a b
  rw [pairH, pairF, str2, byN_append, byN_append, byN_dig, byN_dig]
  rfl
theorem pairH_lt (a b : Nat) : pairH a b < 4294967296 := hashL_lt _
/-- the number of an entry -/
def entH (k v : Nat) (g : Bool) (t : ByteArray) : Nat := hashL (byN (strE k v g t))
def entF (k v : Nat) (g : Bool) (t : List Nat) : Nat := hashL (digF k k ++ [47] ++ digF v v ++ [47] ++ digF (if g = true then 1 else 0) (if g = true then 1 else 0) ++ [47] ++ t)
theorem entH_eq (k v : Nat) (g : Bool) (t : ByteArray) : entH k v g t = entF k v g (byN t) := by
  rw [entH, entF, strE, str3, byN_append, byN_append, byN_append, byN_append, byN_append, byN_append, byN_dig, byN_dig, byN_dig]
  rfl
/-- one entry alone against nothing: the key 6, seven nodes -/
def oneF (k : Nat) : Nat := if k = 6 then entF 6 1 false [120] else 0
theorem one_part : ptK pairF oneF (fun _ => 0) 3 1 = [6] ∧ ptN pairF oneF (fun _ => 0) 3 1 = 7 := by decide +kernel
end Go.Proofs.YtliaidgedjjobaaDoor
