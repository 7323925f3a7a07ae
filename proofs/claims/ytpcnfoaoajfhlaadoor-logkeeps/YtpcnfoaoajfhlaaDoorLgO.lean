/-
  Package log: Read; what LogStops asks, on lists.
-/
import Derived.Test.YtpcnfoaoajfhlaaDoorLgN
namespace Go.Proofs.YtpcnfoaoajfhlaaDoor
set_option linter.unusedVariables false
set_option linter.unusedSimpArgs false
open Go.RowKit

theorem lgStRead_o {b : Nat} {k x0 x1 x2 n : Int} {x3 : Bool} {x4 : ByteArray} {l : List Deed} {F : Nat → Prop} {w : World} (h : StoreIs w b l F) (hv : (atO l k l.length).1 = ⟨x0, x1, x2, x3, x4⟩) (hn : (atO l k l.length).2 = n) :
    Calls Tryd.prog 51 #[.pointer (some ⟨b, 0, none⟩), .int .i64 k] w fun e w' => e = .returned (.tuple #[.agg #[.int .i64 x0, .int .i64 x1, .int .i64 x2, .bool x3, .string x4], errV n]) ∧ Below w.heap.size w w' := by
  have c := read_c b k l F w h
  rw [readO] at c
  rw [hn, hv] at c
  exact c
theorem lgRead_c {S : Nat → Prop} {w : World} {j : Nat} {k x0 x1 x2 n : Int} {x3 : Bool} {x4 : ByteArray} {l : List Deed} {p : List Nat} {sf : Nat} {lf : Int} {st : Bool} (h : LgAt S w j l p sf lf st) (hv : (atO l k l.length).1 = ⟨x0, x1, x2, x3, x4⟩) (hn : (atO l k l.length).2 = n) :
    Calls Tryd.prog 19 #[.pointer (some ⟨j, 0, none⟩), .int .i64 k] w fun e w' => e = .returned (.tuple #[.agg #[.int .i64 x0, .int .i64 x1, .int .i64 x2, .bool x3, .string x4], errV n]) ∧ Below w.heap.size w w' := by
  obtain ⟨F, b, v, h⟩ := h
  have c0 := h.c0
  have lj : j < w.heap.size := h.lt j h.sj
  have HS : Hid (StoreIs (w.alloc (.cells #[.int .i64 0, .int .i64 0, .int .i64 0, .bool false, .string ⟨#[]⟩] 38)) b l F) := h.sto.below ((Below.refl _ _).alloc (Nat.le_refl _) _)
  have HV : Hid ((atO l k l.length).1 = ⟨x0, x1, x2, x3, x4⟩) := hv
  have HN : Hid ((atO l k l.length).2 = n) := hn
  clear h hv hn
  obtain ⟨ev, HE⟩ : ∃ ev, Hid (errV n = ev) := ⟨_, rfl⟩
  rw [HE.out]
  go_enter Tryd.func19, Tryd.ntmps19
  go_wp2_with fail
  refine (lgStRead_o HS.out HV.out HN.out).mono ?_
  rintro e w1 ⟨rfl, hb⟩
  rw [HE.out]
  have B1 : Hid (Below w.heap.size w w1) := ((Below.refl _ w).alloc (Nat.le_refl _) _).trans (hb.mono (by simp))
  have e0 : w1.cell? ⟨w.heap.size, 0, none⟩ = some (.int .i64 0) := (hb.cell (p := ⟨w.heap.size, 0, none⟩) (by simp)).trans (by simp)
  have e1 : w1.cell? ⟨w.heap.size, 1, none⟩ = some (.int .i64 0) := (hb.cell (p := ⟨w.heap.size, 1, none⟩) (by simp)).trans (by simp)
  have e2 : w1.cell? ⟨w.heap.size, 2, none⟩ = some (.int .i64 0) := (hb.cell (p := ⟨w.heap.size, 2, none⟩) (by simp)).trans (by simp)
  have e3 : w1.cell? ⟨w.heap.size, 3, none⟩ = some (.bool false) := (hb.cell (p := ⟨w.heap.size, 3, none⟩) (by simp)).trans (by simp)
  have e4 : w1.cell? ⟨w.heap.size, 4, none⟩ = some (.string ⟨#[]⟩) := (hb.cell (p := ⟨w.heap.size, 4, none⟩) (by simp)).trans (by simp)
  have ef : ∀ j, w1.frozen? ⟨w.heap.size, j, none⟩ = false := fun j => (hb.frozen (p := ⟨w.heap.size, j, none⟩) (by simp)).trans (by simp)
  have hz1 : w.heap.size < w1.heap.size := by have := hb.size; simp at this; omega
  clear hb
  go_wp2_with fail
  refine bodyPost_ret (v := .tuple #[.agg #[.int .i64 x0, .int .i64 x1, .int .i64 x2, .bool x3, .string x4], ev]) (by simp [results, Tryd.results19, go_sem, e0, e1, e2, e3, e4]) rfl ?_
  refine ⟨rfl, ?_⟩
  have hbw := B1.out
  go_grown
/-- the deed that is done over and over -/
def oneX : Deed := ⟨1, false, ⟨#[120]⟩⟩
theorem put_more (s : Nat) (h : s < 1000) : putO (List.replicate s oneX) 1 ⟨#[120]⟩ = ⟨List.replicate (s + 1) oneX, (s : Int) + 1, 0⟩ := by
  unfold putO recO
  rw [if_neg (by decide), if_neg (by decide), List.length_replicate, if_neg (by omega), List.replicate_succ']
  rfl
theorem fits_rep (s : Nat) (h : s ≤ 1000) : Fits (List.replicate s oneX) := by
  induction s with
  | zero => exact fits_nil
  | succ s ih =>
    have e : doO (List.replicate s oneX) oneX = ⟨List.replicate (s + 1) oneX, (s : Int) + 1, 0⟩ := put_more s (by omega)
    rw [List.replicate_succ']
    exact (ih (by omega)).snoc (by rw [e]) (by rw [e, List.replicate_succ'])
theorem rep_ok (s : Nat) : (∀ d ∈ List.replicate s oneX, d.text.size ≤ 12) ∧ ∀ d ∈ List.replicate s oneX, 0 ≤ d.key ∧ d.key < 8 :=
  ⟨fun d hd => by rw [List.eq_of_mem_replicate hd]; decide, fun d hd => by rw [List.eq_of_mem_replicate hd]; decide⟩
theorem flat_rep (s : Nat) : (flatD (List.replicate s oneX)).length = 3 * s := by
  induction s with
  | zero => rfl
  | succ s ih =>
    rw [List.replicate_succ, flatD, List.length_append, ih, encD_length]
    show 1 + 2 + 3 * s = _
    omega
theorem take_rep (s m : Nat) : (List.replicate s oneX).take m = List.replicate (min m s) oneX := List.take_replicate
end Go.Proofs.YtpcnfoaoajfhlaaDoor
