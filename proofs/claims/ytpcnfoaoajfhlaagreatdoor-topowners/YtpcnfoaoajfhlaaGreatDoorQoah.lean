/-
  What package repair's faces do, on lists: what a law's walk asks of them.
-/
import Derived.Test.YtpcnfoaoajfhlaaGreatDoorQoaf
import Derived.Test.YtpcnfoaoajfhlaaGreatDoorQoag
namespace Go.Proofs.YtpcnfoaoajfhlaaGreatDoor
set_option linter.unusedVariables false
set_option linter.unusedSimpArgs false
set_option linter.unusedVariables false
set_option linter.unusedSimpArgs false
open Go.RowKit

/-- each face by its contract -/
structure RpFace : Prop where
  read : ∀ {w : World} {v : Value} {ls : List (List En)} {key x0 x1 x2 : Int} {x3 : Bool} {x4 : ByteArray} {m : Int}, RowsIs w v ls → readR ls key = (⟨x0, x1, x2, x3, x4⟩, m) →
    Calls Tryz.prog 29 #[v, .int .i64 key] w fun e w' => e = .returned (.tuple #[.agg #[.int .i64 x0, .int .i64 x1, .int .i64 x2, .bool x3, .string x4], eV m]) ∧ Below w.heap.size w w'
  lacks : ∀ {w : World} {v : Value} {ls : List (List En)} {key m : Int} {k : List Int}, RowsIs w v ls → lacksR ls key = (k, m) →
    Calls Tryz.prog 30 #[v, .int .i64 key] w fun e w' => ∃ u, e = .returned (.tuple #[u, eV m]) ∧ IntsIs w' u k ∧ Below w.heap.size w w'
  meet : ∀ {w : World} {n r q m : Int} {b : Bool}, meetE n r q = m → meetB n r q = b →
    Calls Tryz.prog 31 #[.int .i64 n, .int .i64 r, .int .i64 q] w fun e w' => e = .returned (.tuple #[.bool b, eV m]) ∧ Below w.heap.size w w'
theorem RowIs.slice {w : World} {v : Value} {l : List En} (h : RowIs w v l) : ∃ p cap, v = .slice p l.length cap ∧ l.length ≤ maxLen := by
  obtain ⟨h0, p, cap, e, _⟩ := h
  exact ⟨p, cap, e, h0⟩
theorem RowsIs.slice {w : World} {v : Value} {ls : List (List En)} (h : RowsIs w v ls) : ∃ p cap, v = .slice p ls.length cap ∧ ls.length ≤ maxLen := by
  obtain ⟨h0, p, cap, e, _⟩ := h
  exact ⟨p, cap, e, h0⟩
theorem IntsIs.slice {w : World} {v : Value} {l : List Int} (h : IntsIs w v l) : ∃ p cap, v = .slice p l.length cap ∧ l.length ≤ maxLen := by
  obtain ⟨h0, p, cap, e, _⟩ := h
  exact ⟨p, cap, e, h0⟩
theorem eV_zeroP : eV 0 = .nilIface := by rw [eV, if_pos rfl]
theorem eV_errP {n : Int} (h : n ≠ 0) : eV n = .iface 85 (.int .i64 n) := by rw [eV, if_neg h]
theorem getP_o {l : List En} {key k vv a : Int} {g : Bool} {t : ByteArray} {n : Int} (h : cacheGet l key = (⟨k, vv, a, g, t⟩, n)) (v : Value) (w : World) (hr : RowIs w v l) :
    Calls Tryz.prog 73 #[v, .int .i64 key] w fun e w' => e = .returned (.tuple #[.agg #[.int .i64 k, .int .i64 vv, .int .i64 a, .bool g, .string t], eV n]) ∧ Below w.heap.size w w' := by
  have c := get_c v l key w hr
  rw [h] at c
  exact c
/-- one cache alone -/
theorem rows_one (w : World) (b : Nat) (v : Value) (l : List En) (hr : RowIs w v l) (hb : b = w.heap.size) : RowsIs (w.alloc (.cells #[v] 32)) (.slice (some ⟨b, 0, none⟩) 1 1) [l] := by
  subst hb
  refine ⟨by simp [maxLen], _, _, rfl, fun _ => ⟨w.heap.size, 0, rfl, by simp, fun j hj => ?_⟩⟩
  obtain rfl : j = 0 := by simpa using hj
  exact ⟨v, by simp, hr.below (by go_grown)⟩
end Go.Proofs.YtpcnfoaoajfhlaaGreatDoor
