/-
  package store by its contracts, what is asked: At outside its range, Read, New.
-/
import Derived.Test.YtpcnfoaoajfhlaaDoorStEM
namespace Go.Proofs.YtpcnfoaoajfhlaaDoor
set_option linter.unusedVariables false
set_option linter.unusedSimpArgs false
open Go.RowKit

theorem at_noKey (b : Nat) (k s : Int) (w : World) (hk : stK k = false) :
    Calls Tryd.prog 75 #[.pointer (some ⟨b, 0, none⟩), .int .i64 k, .int .i64 s] w fun e w' => e = .returned (.tuple #[Ent.zero.val, .iface 71 (.int .i64 1)]) ∧ Below w.heap.size w w' := by
  have HK : Hid (stK k = false) := hk
  clear hk
  go_enter Tryd.func75, Tryd.ntmps75
  go_wp2_with (first | (go_at_call 80; refine (stKey_b _ false _ HK.out).mono ?_; rintro e w' ⟨rfl, rfl⟩))
  refine bodyPost_ret (v := .tuple #[Ent.zero.val, .iface 71 (.int .i64 1)]) (by simp [results, Tryd.results75, go_sem, Ent.val, Ent.zero]; rfl) rfl ⟨rfl, ?_⟩
  go_grown

theorem at_noSeq (b : Nat) (k s : Int) (l : List Deed) (F : Nat → Prop) (w : World) (hk : stK k = true) (hs : s < 0 ∨ l.length < s) (h : StoreIs w b l F) :
    Calls Tryd.prog 75 #[.pointer (some ⟨b, 0, none⟩), .int .i64 k, .int .i64 s] w fun e w' => e = .returned (.tuple #[Ent.zero.val, .iface 71 (.int .i64 1)]) ∧ Below w.heap.size w w' := by
  have HK : Hid (stK k = true) := hk
  clear hk
  have c0 := h.1
  have lb : b < w.heap.size := h.2.2.2.2.1 b h.2.2.2.1
  clear h
  by_cases h0 : s < 0
  · have h1 : decide (s < 0) = true := by simpa using h0
    go_enter Tryd.func75, Tryd.ntmps75
    go_wp2_with (first | (go_at_call 80; refine (stKey_b _ true _ HK.out).mono ?_; rintro e w' ⟨rfl, rfl⟩))
    refine bodyPost_ret (v := .tuple #[Ent.zero.val, .iface 71 (.int .i64 1)]) (by simp [results, Tryd.results75, go_sem, Ent.val, Ent.zero]; rfl) rfl ⟨rfl, ?_⟩
    go_grown
  · have h1 : decide (s < 0) = false := by simpa using h0
    have h2 : (l.length : Int) < s := by omega
    have h3 : decide ((l.length : Int) < s) = true := by simpa using h2
    clear hs
    go_enter Tryd.func75, Tryd.ntmps75
    go_wp2_with (first | (go_at_call 80; refine (stKey_b _ true _ HK.out).mono ?_; rintro e w' ⟨rfl, rfl⟩))
    refine bodyPost_ret (v := .tuple #[Ent.zero.val, .iface 71 (.int .i64 1)]) (by simp [results, Tryd.results75, go_sem, Ent.val, Ent.zero]; rfl) rfl ⟨rfl, ?_⟩
    go_grown

/-- what At tells: an entry, or 1 -/
def atO (l : List Deed) (k s : Int) : Ent × Int := if stK k = true ∧ 0 ≤ s ∧ s ≤ l.length then (entAt l k s.toNat, 0) else (Ent.zero, 1)
theorem at_c (b : Nat) (k s : Int) (l : List Deed) (F : Nat → Prop) (w : World) (h : StoreIs w b l F) :
    Calls Tryd.prog 75 #[.pointer (some ⟨b, 0, none⟩), .int .i64 k, .int .i64 s] w fun e w' => e = .returned (.tuple #[(atO l k s).1.val, errV (atO l k s).2]) ∧ Below w.heap.size w w' := by
  by_cases hk : stK k = true
  · by_cases hs : 0 ≤ s ∧ s ≤ l.length
    · obtain ⟨n, rfl⟩ := Int.eq_ofNat_of_zero_le hs.1
      have e : atO l k n = (entAt l k n, 0) := by simp only [atO, hk, hs, true_and, if_true, and_self, Int.toNat_natCast]
      rw [e]
      exact at_yes b k n l F w hk (by omega) h
    · have e : atO l k s = (Ent.zero, 1) := by simp only [atO, hk, hs, true_and, if_false]
      rw [e]
      exact at_noSeq b k s l F w hk (by omega) h
  · have e : atO l k s = (Ent.zero, 1) := by simp [atO, hk]
    rw [e]
    exact at_noKey b k s w (by simpa using hk)

/-- what Read tells -/
def readO (l : List Deed) (k : Int) : Ent × Int := atO l k l.length
set_option maxHeartbeats 1000000 in
theorem read_c (b : Nat) (k : Int) (l : List Deed) (F : Nat → Prop) (w : World) (h : StoreIs w b l F) :
    Calls Tryd.prog 51 #[.pointer (some ⟨b, 0, none⟩), .int .i64 k] w fun e w' => e = .returned (.tuple #[(readO l k).1.val, errV (readO l k).2]) ∧ Below w.heap.size w w' := by
  have c0 := h.1
  have lb : b < w.heap.size := h.2.2.2.2.1 b h.2.2.2.1
  have HS : Hid (StoreIs w b l F) := h
  clear h
  obtain ⟨x0, x1, x2, x3, x4, HR⟩ : ∃ x0 x1 x2 x3 x4, Hid ((atO l k l.length).1.val = .agg #[.int .i64 x0, .int .i64 x1, .int .i64 x2, .bool x3, .string x4]) := ⟨_, _, _, _, _, rfl⟩
  have HR2 : Hid ((readO l k).1.val = .agg #[.int .i64 x0, .int .i64 x1, .int .i64 x2, .bool x3, .string x4]) := HR
  have HE : Hid (errV (readO l k).2 = errV (atO l k l.length).2) := rfl
  generalize hev : errV (atO l k l.length).2 = ev at *
  have HEV : Hid (errV (atO l k l.length).2 = ev) := hev
  clear hev
  go_enter Tryd.func51, Tryd.ntmps51
  go_wp2_with fail
  refine (at_c b k l.length l F _ (HS.out.below ((Below.refl _ _).alloc (Nat.le_refl _) _))).mono ?_
  rintro e w1 ⟨rfl, hb⟩
  rw [HR.out, HEV.out]
  have e0 : w1.cell? ⟨w.heap.size, 0, none⟩ = some (.int .i64 0) := (hb.cell (p := ⟨w.heap.size, 0, none⟩) (by simp)).trans (by simp)
  have e1 : w1.cell? ⟨w.heap.size, 1, none⟩ = some (.int .i64 0) := (hb.cell (p := ⟨w.heap.size, 1, none⟩) (by simp)).trans (by simp)
  have e2 : w1.cell? ⟨w.heap.size, 2, none⟩ = some (.int .i64 0) := (hb.cell (p := ⟨w.heap.size, 2, none⟩) (by simp)).trans (by simp)
  have e3 : w1.cell? ⟨w.heap.size, 3, none⟩ = some (.bool false) := (hb.cell (p := ⟨w.heap.size, 3, none⟩) (by simp)).trans (by simp)
  have e4 : w1.cell? ⟨w.heap.size, 4, none⟩ = some (.string ⟨#[]⟩) := (hb.cell (p := ⟨w.heap.size, 4, none⟩) (by simp)).trans (by simp)
  have ef : ∀ j, w1.frozen? ⟨w.heap.size, j, none⟩ = false := fun j => (hb.frozen (p := ⟨w.heap.size, j, none⟩) (by simp)).trans (by simp)
  have HBW : Hid (Below w.heap.size w w1) := ((Below.refl _ _).alloc (Nat.le_refl _) _).trans (hb.mono (by simp))
  have hz1 : w.heap.size < w1.heap.size := by have := hb.size; simp at this; omega
  clear hb
  go_wp2_with fail
  refine bodyPost_ret (v := .tuple #[.agg #[.int .i64 x0, .int .i64 x1, .int .i64 x2, .bool x3, .string x4], ev]) (by simp [results, Tryd.results51, go_sem, e0, e1, e2, e3, e4]) rfl ?_
  refine ⟨by rw [HR2.out, HE.out], ?_⟩
  have hbw := HBW.out
  go_grown

theorem new_c (w : World) : Calls Tryd.prog 31 #[] w fun e w' => e = .returned (.pointer (some ⟨w.heap.size, 0, none⟩)) ∧ w' = w.alloc (.cells #[.int .i64 0, .slice none 0 0, .slice none 0 0, .slice none 0 0, .slice none 0 0, .slice none 0 0, .slice none 0 0, .slice none 0 0, .slice none 0 0] 107) := by
  go_enter Tryd.func31, Tryd.ntmps31
  go_wp2
  go_ret
  exact ⟨rfl, rfl⟩
theorem new_is (w : World) : StoreIs (w.alloc (.cells #[.int .i64 0, .slice none 0 0, .slice none 0 0, .slice none 0 0, .slice none 0 0, .slice none 0 0, .slice none 0 0, .slice none 0 0, .slice none 0 0] 107)) w.heap.size [] (fun c => c = w.heap.size) := by
  refine ⟨by simp, by simp, by simp, rfl, fun c hc => by subst hc; simp, fun _ => .slice none 0 0, fun k hk => ⟨?_, by simp, World.ownsRow_nil _ _ _ _, by simp [Value.ownBlock], fun c hc => by simp [Value.ownBlock] at hc⟩, fun i j _ _ _ c hc => by simp [Value.ownBlock] at hc⟩
  match k, hk with
  | 0, _ => simp
  | 1, _ => simp
  | 2, _ => simp
  | 3, _ => simp
  | 4, _ => simp
  | 5, _ => simp
  | 6, _ => simp
  | 7, _ => simp
end Go.Proofs.YtpcnfoaoajfhlaaDoor
