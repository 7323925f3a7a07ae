/-
  What package hint's faces do, on lists: what a law's walk asks of them.
-/
import Derived.Test.YtkhdeaegbkenfahHiP
namespace Go.Proofs.Ytkhdeaegbkenfah
set_option linter.unusedVariables false
set_option linter.unusedSimpArgs false
open Go.RowKit Go.Lib

/-- each face by its contract -/
structure HiFace : Prop where
  new : ∀ (w : World), Calls Try.prog 10 #[] w fun e w' => ∃ b, e = .returned (.pointer (some ⟨b, 0, none⟩)) ∧ w.heap.size ≤ b ∧ HiAt (fun c => c = b) w' b [] 0 ∧ Below w.heap.size w w'
  add : ∀ {S : Nat → Prop} {w : World} {b : Nat} {l l' : List Hn} {n n' : Nat} {x0 x1 x2 m : Int}, HiAt S w b l n → GoodH l → n ≤ 1000000 → addE ⟨x0, x1, x2⟩ = m → addH ⟨x0, x1, x2⟩ l = l' → n + addN ⟨x0, x1, x2⟩ l = n' →
    Calls Try.prog 11 #[.pointer (some ⟨b, 0, none⟩), .agg #[.int .i64 x0, .int .i64 x1, .int .i64 x2]] w fun e w' => e = .returned (eV m) ∧ HiTo S w w' b l' n'
  all : ∀ {S : Nat → Prop} {w : World} {b : Nat} {l : List Hn} {n : Nat}, HiAt S w b l n → GoodH l →
    Calls Try.prog 12 #[.pointer (some ⟨b, 0, none⟩)] w fun e w' => ∃ u, e = .returned u ∧ HnsIs w' u l ∧ (∀ c, u.ownBlock = some c → w.heap.size ≤ c ∧ c < w'.heap.size) ∧ Below w.heap.size w w'
  lost : ∀ {S : Nat → Prop} {w : World} {b : Nat} {l : List Hn} {n : Nat}, HiAt S w b l n →
    Calls Try.prog 13 #[.pointer (some ⟨b, 0, none⟩)] w fun e w' => e = .returned (.int .i64 n) ∧ Below w.heap.size w w'
  take : ∀ {S : Nat → Prop} {w : World} {b : Nat} {l l' t : List Hn} {n : Nat} {node m : Int}, HiAt S w b l n → GoodH l → (if (decide (0 ≤ node) && decide (node ≤ 5)) = true then (0 : Int) else 1) = m → (if m = 0 then takeH node l else []) = t → (if m = 0 then leaveH node l else l) = l' →
    Calls Try.prog 14 #[.pointer (some ⟨b, 0, none⟩), .int .i64 node] w fun e w' => ∃ u, e = .returned (.tuple #[u, eV m]) ∧ HnsIs w' u t ∧ (∀ c, u.ownBlock = some c → w.heap.size ≤ c ∧ c < w'.heap.size) ∧ (∃ S', HiAt S' w' b l' n ∧ ∀ c, S' c → (S c ∨ w.heap.size ≤ c) ∧ u.ownBlock ≠ some c) ∧ Turn S w w'
theorem eV_zero : eV 0 = .nilIface := by rw [eV, if_pos rfl]
theorem eV_err {n : Int} (h : n ≠ 0) : eV n = .iface 49 (.int .i64 n) := by rw [eV, if_neg h]
theorem HnsIs.slice {w : World} {v : Value} {l : List Hn} (h : HnsIs w v l) : ∃ p cap, v = .slice p l.length cap ∧ l.length ≤ maxLen := by
  obtain ⟨h0, p, cap, e, _⟩ := h
  exact ⟨p, cap, e, h0⟩
theorem HnsIs.at {w : World} {p : Option Addr} {m cap : Nat} {l : List Hn} (h : HnsIs w (.slice p m cap) l) (i : Nat) (hi : i < l.length) : ∃ g o, p = some ⟨g, o, none⟩ ∧ g < w.heap.size ∧ HnAt w g (o + i * 3) l[i] := by
  obtain ⟨_, p', cap', e, h1⟩ := h
  obtain ⟨g, o, rfl, hlt, hc⟩ := h1 (fun e0 => by rw [e0] at hi; simp at hi)
  injection e with e1 _ _
  exact ⟨g, o, e1, hlt, hc i hi⟩
end Go.Proofs.Ytkhdeaegbkenfah
