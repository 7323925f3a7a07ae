/-
  package store by its contracts, what is asked: At, Read, New.
-/
import Derived.Test.YtpcnfoaoajfhlaaDoorStDM
namespace Go.Proofs.YtpcnfoaoajfhlaaDoor
set_option linter.unusedVariables false
set_option linter.unusedSimpArgs false
open Go.RowKit

theorem bcell {W w1 : World} (hb : Below W.heap.size W w1) : (∀ b o, b < W.heap.size → w1.cell? ⟨b, o, none⟩ = W.cell? ⟨b, o, none⟩) ∧ (∀ b o, b < W.heap.size → w1.frozen? ⟨b, o, none⟩ = W.frozen? ⟨b, o, none⟩) :=
  ⟨fun b o h => hb.cell (p := ⟨b, o, none⟩) h, fun b o h => hb.frozen (p := ⟨b, o, none⟩) h⟩

/-- an api.Entry -/
structure Ent where
  key : Int
  ver : Int
  asof : Int
  gone : Bool
  text : ByteArray
def Ent.val (e : Ent) : Value := .agg #[.int .i64 e.key, .int .i64 e.ver, .int .i64 e.asof, .bool e.gone, .string e.text]
def Ent.zero : Ent := ⟨0, 0, 0, false, ByteArray.empty⟩
def entAt (l : List Deed) (k : Int) (s : Nat) : Ent := ⟨k, (lastOf (l.take s) k).ver, s, (lastOf (l.take s) k).gone, (lastOf (l.take s) k).text⟩

set_option maxHeartbeats 1000000 in
theorem at_yes (b : Nat) (k : Int) (s : Nat) (l : List Deed) (F : Nat → Prop) (w : World) (hk : stK k = true) (hs : s ≤ l.length) (h : StoreIs w b l F) :
    Calls Tryd.prog 75 #[.pointer (some ⟨b, 0, none⟩), .int .i64 k, .int .i64 s] w fun e w' => e = .returned (.tuple #[(entAt l k s).val, .nilIface]) ∧ Below w.heap.size w w' := by
  have c0 := h.1
  have hl := h.2.2.1
  have lb : b < w.heap.size := h.2.2.2.2.1 b h.2.2.2.1
  have HS : Hid (StoreIs w b l F) := h
  clear h
  have HK : Hid (stK k = true) := hk
  clear hk
  have h1 : decide ((s : Int) < 0) = false := by simp
  have h2 : decide ((l.length : Int) < (s : Int)) = false := by simp; omega
  obtain ⟨ver, gone, text, HL, HL2⟩ : ∃ ver gone text, Hid ((lastOf (l.take s) k).val = .agg #[.int .i64 ver, .bool gone, .string text]) ∧ Hid ((entAt l k s).val = .agg #[.int .i64 k, .int .i64 ver, .int .i64 s, .bool gone, .string text]) := ⟨(lastOf (l.take s) k).ver, (lastOf (l.take s) k).gone, (lastOf (l.take s) k).text, rfl, rfl⟩
  go_enter Tryd.func75, Tryd.ntmps75
  go_wp2_with (first | (go_at_call 80; refine (stKey_b _ true _ HK.out).mono ?_; rintro e w' ⟨rfl, rfl⟩))
  refine (changeAt_s b k s l F _ HK.out (HS.out.below ((Below.refl _ _).alloc (Nat.le_refl _) _))).mono ?_
  rintro e w1 ⟨rfl, hb⟩
  rw [HL.out]
  have e0 : w1.cell? ⟨w.heap.size, 0, none⟩ = some (.int .i64 0) := (hb.cell (p := ⟨w.heap.size, 0, none⟩) (by simp)).trans (by simp)
  have e1 : w1.cell? ⟨w.heap.size, 1, none⟩ = some (.int .i64 0) := (hb.cell (p := ⟨w.heap.size, 1, none⟩) (by simp)).trans (by simp)
  have e2 : w1.cell? ⟨w.heap.size, 2, none⟩ = some (.int .i64 0) := (hb.cell (p := ⟨w.heap.size, 2, none⟩) (by simp)).trans (by simp)
  have e3 : w1.cell? ⟨w.heap.size, 3, none⟩ = some (.bool false) := (hb.cell (p := ⟨w.heap.size, 3, none⟩) (by simp)).trans (by simp)
  have e4 : w1.cell? ⟨w.heap.size, 4, none⟩ = some (.string ⟨#[]⟩) := (hb.cell (p := ⟨w.heap.size, 4, none⟩) (by simp)).trans (by simp)
  have ef : ∀ j, w1.frozen? ⟨w.heap.size, j, none⟩ = false := fun j => (hb.frozen (p := ⟨w.heap.size, j, none⟩) (by simp)).trans (by simp)
  have hz : w.heap.size + 1 ≤ w1.heap.size := by have := hb.size; simpa using this
  have hz1 : w.heap.size < w1.heap.size := by omega
  have hz2 : ¬ w.heap.size = w1.heap.size := by omega
  have HB : Hid _ := hb
  clear hb
  go_wp2_with fail
  refine bodyPost_ret (v := .tuple #[.agg #[.int .i64 k, .int .i64 ver, .int .i64 s, .bool gone, .string text], .nilIface]) (by simp [results, Tryd.results75, go_sem, e0, e1, e2, e3, e4, hz1, hz2]) rfl ?_
  refine ⟨by rw [HL2.out], ?_⟩
  have hb := HB.out
  have hbw : Below w.heap.size w w1 := ((Below.refl _ _).alloc (Nat.le_refl _) _).trans (hb.mono (by simp))
  go_grown
end Go.Proofs.YtpcnfoaoajfhlaaDoor
