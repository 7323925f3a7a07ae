/-
  package store by its contracts, what is asked: At, Read, New.
  package store by its contracts, what is asked: At outside its range, Read, New.
  Plain: the cells of the document's store; what is newest, step by step.
  The document's store (mereref1.Store) by its contracts: Key, At, Read.
  mereref1.Key by its contract (as the document's store has it).
  A cache in memory: a row of entries; what is wrong with one, as plain functions.
-/
import Derived.Test.YtpcnfoaoajfhlaaGreatDoorMqad
import Derived.Test.YtpcnfoaoajfhlaaGreatDoorMqac
import Derived.Test.YtpcnfoaoajfhlaaGreatDoorMqab
namespace Go.Proofs.YtpcnfoaoajfhlaaGreatDoor
set_option linter.unusedVariables false
set_option linter.unusedSimpArgs false
set_option linter.unusedVariables false
set_option linter.unusedSimpArgs false
open Go.RowKit

theorem bcell {W w1 : World} (hb : Below W.heap.size W w1) : (∀ b o, b < W.heap.size → w1.cell? ⟨b, o, none⟩ = W.cell? ⟨b, o, none⟩) ∧ (∀ b o, b < W.heap.size → w1.frozen? ⟨b, o, none⟩ = W.frozen? ⟨b, o, none⟩) :=
  ⟨fun b o h => hb.cell (p := ⟨b, o, none⟩) h, fun b o h => hb.frozen (p := ⟨b, o, none⟩) h⟩

/-- an api.Entry -/
structure Ent where
  key : Int
  ver : Int
  asof : Int
  gone : Bool
  text : ByteArray
def Ent.val (e : Ent) : Value := .agg #[.int .i64 e.key, .int .i64 e.ver, .int .i64 e.asof, .bool e.gone, .string e.text]
def Ent.zero : Ent := ⟨0, 0, 0, false, ByteArray.empty⟩
def entAt (l : List Deed) (k : Int) (s : Nat) : Ent := ⟨k, (lastOf (l.take s) k).ver, s, (lastOf (l.take s) k).gone, (lastOf (l.take s) k).text⟩

set_option maxHeartbeats 1000000 in
theorem at_yes (b : Nat) (k : Int) (s : Nat) (l : List Deed) (F : Nat → Prop) (w : World) (hk : stK k = true) (hs : s ≤ l.length) (h : StoreIs w b l F) :
    Calls Tryz.prog 116 #[.pointer (some ⟨b, 0, none⟩), .int .i64 k, .int .i64 s] w fun e w' => e = .returned (.tuple #[(entAt l k s).val, .nilIface]) ∧ Below w.heap.size w w' := by
  have c0 := h.1
  have hl := h.2.2.1
  have lb : b < w.heap.size := h.2.2.2.2.1 b h.2.2.2.1
  have HS : Hid (StoreIs w b l F) := h
  clear h
  have HK : Hid (stK k = true) := hk
  clear hk
  have h1 : decide ((s : Int) < 0) = false := by simp
  have h2 : decide ((l.length : Int) < (s : Int)) = false := by simp; omega
  obtain ⟨ver, gone, text, HL, HL2⟩ : ∃ ver gone text, Hid ((lastOf (l.take s) k).val = .agg #[.int .i64 ver, .bool gone, .string text]) ∧ Hid ((entAt l k s).val = .agg #[.int .i64 k, .int .i64 ver, .int .i64 s, .bool gone, .string text]) := ⟨(lastOf (l.take s) k).ver, (lastOf (l.take s) k).gone, (lastOf (l.take s) k).text, rfl, rfl⟩
  go_enter Tryz.func116, Tryz.ntmps116
  go_wp2_with (first | (go_at_call 95; refine (stKey_b _ true _ HK.out).mono ?_; rintro e w' ⟨rfl, rfl⟩))
  refine (changeAt_s b k s l F _ HK.out (HS.out.below ((Below.refl _ _).alloc (Nat.le_refl _) _))).mono ?_
  rintro e w1 ⟨rfl, hb⟩
  rw [HL.out]
  have e0 : w1.cell? ⟨w.heap.size, 0, none⟩ = some (.int .i64 0) := (hb.cell (p := ⟨w.heap.size, 0, none⟩) (by simp)).trans (by simp)
  have e1 : w1.cell? ⟨w.heap.size, 1, none⟩ = some (.int .i64 0) := (hb.cell (p := ⟨w.heap.size, 1, none⟩) (by simp)).trans (by simp)
  have e2 : w1.cell? ⟨w.heap.size, 2, none⟩ = some (.int .i64 0) := (hb.cell (p := ⟨w.heap.size, 2, none⟩) (by simp)).trans (by simp)
  have e3 : w1.cell? ⟨w.heap.size, 3, none⟩ = some (.bool false) := (hb.cell (p := ⟨w.heap.size, 3, none⟩) (by simp)).trans (by simp)
  have e4 : w1.cell? ⟨w.heap.size, 4, none⟩ = some (.string ⟨#[]⟩) := (hb.cell (p := ⟨w.heap.size, 4, none⟩) (by simp)).trans (by simp)
  have ef : ∀ j, w1.frozen? ⟨w.heap.size, j, none⟩ = false := fun j => (hb.frozen (p := ⟨w.heap.size, j, none⟩) (by simp)).trans (by simp)
  have hz : w.heap.size + 1 ≤ w1.heap.size := by have := hb.size; simpa using this
  have hz1 : w.heap.size < w1.heap.size := by omega
  have hz2 : ¬ w.heap.size = w1.heap.size := by omega
  have HB : Hid _ := hb
  clear hb
  go_wp2_with fail
  refine bodyPost_ret (v := .tuple #[.agg #[.int .i64 k, .int .i64 ver, .int .i64 s, .bool gone, .string text], .nilIface]) (by simp [results, Tryz.results116, go_sem, e0, e1, e2, e3, e4, hz1, hz2]) rfl ?_
  refine ⟨by rw [HL2.out], ?_⟩
  have hb := HB.out
  have hbw : Below w.heap.size w w1 := ((Below.refl _ _).alloc (Nat.le_refl _) _).trans (hb.mono (by simp))
  go_grown
end Go.Proofs.YtpcnfoaoajfhlaaGreatDoor

namespace Go.Proofs.YtpcnfoaoajfhlaaGreatDoor
set_option linter.unusedVariables false
set_option linter.unusedSimpArgs false
open Go.RowKit

theorem at_noKey (b : Nat) (k s : Int) (w : World) (hk : stK k = false) :
    Calls Tryz.prog 116 #[.pointer (some ⟨b, 0, none⟩), .int .i64 k, .int .i64 s] w fun e w' => e = .returned (.tuple #[Ent.zero.val, .iface 85 (.int .i64 1)]) ∧ Below w.heap.size w w' := by
  have HK : Hid (stK k = false) := hk
  clear hk
  go_enter Tryz.func116, Tryz.ntmps116
  go_wp2_with (first | (go_at_call 95; refine (stKey_b _ false _ HK.out).mono ?_; rintro e w' ⟨rfl, rfl⟩))
  refine bodyPost_ret (v := .tuple #[Ent.zero.val, .iface 85 (.int .i64 1)]) (by simp [results, Tryz.results116, go_sem, Ent.val, Ent.zero]; rfl) rfl ⟨rfl, ?_⟩
  go_grown

theorem at_noSeq (b : Nat) (k s : Int) (l : List Deed) (F : Nat → Prop) (w : World) (hk : stK k = true) (hs : s < 0 ∨ l.length < s) (h : StoreIs w b l F) :
    Calls Tryz.prog 116 #[.pointer (some ⟨b, 0, none⟩), .int .i64 k, .int .i64 s] w fun e w' => e = .returned (.tuple #[Ent.zero.val, .iface 85 (.int .i64 1)]) ∧ Below w.heap.size w w' := by
  have HK : Hid (stK k = true) := hk
  clear hk
  have c0 := h.1
  have lb : b < w.heap.size := h.2.2.2.2.1 b h.2.2.2.1
  clear h
  by_cases h0 : s < 0
  · have h1 : decide (s < 0) = true := by simpa using h0
    go_enter Tryz.func116, Tryz.ntmps116
    go_wp2_with (first | (go_at_call 95; refine (stKey_b _ true _ HK.out).mono ?_; rintro e w' ⟨rfl, rfl⟩))
    refine bodyPost_ret (v := .tuple #[Ent.zero.val, .iface 85 (.int .i64 1)]) (by simp [results, Tryz.results116, go_sem, Ent.val, Ent.zero]; rfl) rfl ⟨rfl, ?_⟩
    go_grown
  · have h1 : decide (s < 0) = false := by simpa using h0
    have h2 : (l.length : Int) < s := by omega
    have h3 : decide ((l.length : Int) < s) = true := by simpa using h2
    clear hs
    go_enter Tryz.func116, Tryz.ntmps116
    go_wp2_with (first | (go_at_call 95; refine (stKey_b _ true _ HK.out).mono ?_; rintro e w' ⟨rfl, rfl⟩))
    refine bodyPost_ret (v := .tuple #[Ent.zero.val, .iface 85 (.int .i64 1)]) (by simp [results, Tryz.results116, go_sem, Ent.val, Ent.zero]; rfl) rfl ⟨rfl, ?_⟩
    go_grown

/-- what At tells: an entry, or 1 -/
def atO (l : List Deed) (k s : Int) : Ent × Int := if stK k = true ∧ 0 ≤ s ∧ s ≤ l.length then (entAt l k s.toNat, 0) else (Ent.zero, 1)
theorem at_c (b : Nat) (k s : Int) (l : List Deed) (F : Nat → Prop) (w : World) (h : StoreIs w b l F) :
    Calls Tryz.prog 116 #[.pointer (some ⟨b, 0, none⟩), .int .i64 k, .int .i64 s] w fun e w' => e = .returned (.tuple #[(atO l k s).1.val, errV (atO l k s).2]) ∧ Below w.heap.size w w' := by
  by_cases hk : stK k = true
  · by_cases hs : 0 ≤ s ∧ s ≤ l.length
    · obtain ⟨n, rfl⟩ := Int.eq_ofNat_of_zero_le hs.1
      have e : atO l k n = (entAt l k n, 0) := by simp only [atO, hk, hs, true_and, if_true, and_self, Int.toNat_natCast]
      rw [e]
      exact at_yes b k n l F w hk (by omega) h
    · have e : atO l k s = (Ent.zero, 1) := by simp only [atO, hk, hs, true_and, if_false]
      rw [e]
      exact at_noSeq b k s l F w hk (by omega) h
  · have e : atO l k s = (Ent.zero, 1) := by simp [atO, hk]
    rw [e]
    exact at_noKey b k s w (by simpa using hk)

/-- what Read tells -/
def readO (l : List Deed) (k : Int) : Ent × Int := atO l k l.length
set_option maxHeartbeats 1000000 in
theorem read_c (b : Nat) (k : Int) (l : List Deed) (F : Nat → Prop) (w : World) (h : StoreIs w b l F) :
    Calls Tryz.prog 68 #[.pointer (some ⟨b, 0, none⟩), .int .i64 k] w fun e w' => e = .returned (.tuple #[(readO l k).1.val, errV (readO l k).2]) ∧ Below w.heap.size w w' := by
  have c0 := h.1
  have lb : b < w.heap.size := h.2.2.2.2.1 b h.2.2.2.1
  have HS : Hid (StoreIs w b l F) := h
  clear h
  obtain ⟨x0, x1, x2, x3, x4, HR⟩ : ∃ x0 x1 x2 x3 x4, Hid ((atO l k l.length).1.val = .agg #[.int .i64 x0, .int .i64 x1, .int .i64 x2, .bool x3, .string x4]) := ⟨_, _, _, _, _, rfl⟩
  have HR2 : Hid ((readO l k).1.val = .agg #[.int .i64 x0, .int .i64 x1, .int .i64 x2, .bool x3, .string x4]) := HR
  have HE : Hid (errV (readO l k).2 = errV (atO l k l.length).2) := rfl
  generalize hev : errV (atO l k l.length).2 = ev at *
  have HEV : Hid (errV (atO l k l.length).2 = ev) := hev
  clear hev
  go_enter Tryz.func68, Tryz.ntmps68
  go_wp2_with fail
  refine (at_c b k l.length l F _ (HS.out.below ((Below.refl _ _).alloc (Nat.le_refl _) _))).mono ?_
  rintro e w1 ⟨rfl, hb⟩
  rw [HR.out, HEV.out]
  have e0 : w1.cell? ⟨w.heap.size, 0, none⟩ = some (.int .i64 0) := (hb.cell (p := ⟨w.heap.size, 0, none⟩) (by simp)).trans (by simp)
  have e1 : w1.cell? ⟨w.heap.size, 1, none⟩ = some (.int .i64 0) := (hb.cell (p := ⟨w.heap.size, 1, none⟩) (by simp)).trans (by simp)
  have e2 : w1.cell? ⟨w.heap.size, 2, none⟩ = some (.int .i64 0) := (hb.cell (p := ⟨w.heap.size, 2, none⟩) (by simp)).trans (by simp)
  have e3 : w1.cell? ⟨w.heap.size, 3, none⟩ = some (.bool false) := (hb.cell (p := ⟨w.heap.size, 3, none⟩) (by simp)).trans (by simp)
  have e4 : w1.cell? ⟨w.heap.size, 4, none⟩ = some (.string ⟨#[]⟩) := (hb.cell (p := ⟨w.heap.size, 4, none⟩) (by simp)).trans (by simp)
  have ef : ∀ j, w1.frozen? ⟨w.heap.size, j, none⟩ = false := fun j => (hb.frozen (p := ⟨w.heap.size, j, none⟩) (by simp)).trans (by simp)
  have HBW : Hid (Below w.heap.size w w1) := ((Below.refl _ _).alloc (Nat.le_refl _) _).trans (hb.mono (by simp))
  have hz1 : w.heap.size < w1.heap.size := by have := hb.size; simp at this; omega
  clear hb
  go_wp2_with fail
  refine bodyPost_ret (v := .tuple #[.agg #[.int .i64 x0, .int .i64 x1, .int .i64 x2, .bool x3, .string x4], ev]) (by simp [results, Tryz.results68, go_sem, e0, e1, e2, e3, e4]) rfl ?_
  refine ⟨by rw [HR2.out, HE.out], ?_⟩
  have hbw := HBW.out
  go_grown

theorem new_c (w : World) : Calls Tryz.prog 37 #[] w fun e w' => e = .returned (.pointer (some ⟨w.heap.size, 0, none⟩)) ∧ w' = w.alloc (.cells #[.int .i64 0, .slice none 0 0, .slice none 0 0, .slice none 0 0, .slice none 0 0, .slice none 0 0, .slice none 0 0, .slice none 0 0, .slice none 0 0] 151) := by
  go_enter Tryz.func37, Tryz.ntmps37
  go_wp2
  go_ret
  exact ⟨rfl, rfl⟩
theorem new_is (w : World) : StoreIs (w.alloc (.cells #[.int .i64 0, .slice none 0 0, .slice none 0 0, .slice none 0 0, .slice none 0 0, .slice none 0 0, .slice none 0 0, .slice none 0 0, .slice none 0 0] 151)) w.heap.size [] (fun c => c = w.heap.size) := by
  refine ⟨by simp, by simp, by simp, rfl, fun c hc => by subst hc; simp, fun _ => .slice none 0 0, fun k hk => ⟨?_, by simp, World.ownsRow_nil _ _ _ _, by simp [Value.ownBlock], fun c hc => by simp [Value.ownBlock] at hc⟩, fun i j _ _ _ c hc => by simp [Value.ownBlock] at hc⟩
  match k, hk with
  | 0, _ => simp
  | 1, _ => simp
  | 2, _ => simp
  | 3, _ => simp
  | 4, _ => simp
  | 5, _ => simp
  | 6, _ => simp
  | 7, _ => simp
end Go.Proofs.YtpcnfoaoajfhlaaGreatDoor

namespace Go.Proofs.YtpcnfoaoajfhlaaGreatDoor
set_option linter.unusedVariables false
set_option linter.unusedSimpArgs false

def Deed.cells (d : Deed) : List Value := [.int .i64 d.key, .int .i64 0, .int .i64 0, .bool d.gone, .string d.text]
def rowE : List Deed → List Value
  | [] => []
  | d :: l => d.cells ++ rowE l
theorem rowE_length (l : List Deed) : (rowE l).length = l.length * 5 := by
  induction l with
  | nil => rfl
  | cons c l ih => simp only [rowE, List.length_append, ih, List.length_cons, Deed.cells, List.length_nil]; omega
theorem rowE_append (l m : List Deed) : rowE (l ++ m) = rowE l ++ rowE m := by
  induction l with
  | nil => rfl
  | cons c l ih => simp only [List.cons_append, rowE, ih, List.append_assoc]
theorem rowE_get (l : List Deed) (j : Nat) (h : j < l.length) :
    (rowE l)[j * 5]? = some (.int .i64 l[j].key) ∧ (rowE l)[j * 5 + 3]? = some (.bool l[j].gone) ∧ (rowE l)[j * 5 + 4]? = some (.string l[j].text) := by
  induction l generalizing j with
  | nil => simp at h
  | cons c l ih =>
    cases j with
    | zero => simp [rowE, Deed.cells]
    | succ j =>
      have e := ih j (by simpa using h)
      have e0 : (j + 1) * 5 = j * 5 + 5 := by omega
      simp only [rowE, Deed.cells, List.cons_append, List.nil_append, e0, List.getElem_cons_succ]
      have e1 : j * 5 + 5 + 3 = (j * 5 + 3) + 5 := by omega
      have e2 : j * 5 + 5 + 4 = (j * 5 + 4) + 5 := by omega
      rw [e1, e2]
      simpa using e
theorem lastOf_take_hit (l : List Deed) (k : Int) (j : Nat) (h : j < l.length) (hk : l[j].key = k) : lastOf (l.take (j + 1)) k = ⟨(j : Int) + 1, l[j].gone, l[j].text⟩ := by
  rw [List.take_succ_eq_append_getElem h, lastOf_snoc, if_pos hk]
  simp only [List.length_take]
  rw [Nat.min_eq_left (by omega)]
theorem lastOf_take_miss (l : List Deed) (k : Int) (j : Nat) (h : j < l.length) (hk : ¬ l[j].key = k) : lastOf (l.take (j + 1)) k = lastOf (l.take j) k := by
  rw [List.take_succ_eq_append_getElem h, lastOf_snoc, if_neg hk]
end Go.Proofs.YtpcnfoaoajfhlaaGreatDoor

namespace Go.Proofs.YtpcnfoaoajfhlaaGreatDoor
set_option linter.unusedVariables false
set_option linter.unusedSimpArgs false
open Go.RowKit

theorem refKey_c (k : Int) (w : World) : Calls Tryz.prog 47 #[.int .i64 k] w fun e w' => e = .returned (.bool (stK k)) ∧ w' = w := by
  by_cases h : 0 ≤ k
  · have hd : decide (0 ≤ k) = true := by simpa using h
    go_enter Tryz.func47, Tryz.ntmps47
    go_wp2
    go_ret
    have e : decide (k ≤ 7) = decide (k < 8) := decide_eq_decide.2 ⟨fun h => by omega, fun h => by omega⟩
    exact ⟨by simp [stK, h, e], rfl⟩
  · have hd : decide (0 ≤ k) = false := by simpa using h
    go_enter Tryz.func47, Tryz.ntmps47
    go_wp2
    go_ret
    exact ⟨by simp [stK, h] <;> omega, rfl⟩
theorem refKey_b (k : Int) (b : Bool) (w : World) (h : stK k = b) : Calls Tryz.prog 47 #[.int .i64 k] w fun e w' => e = .returned (.bool b) ∧ w = w' := by
  subst h; exact (refKey_c k w).mono fun _ _ h => ⟨h.1, h.2.symm⟩

/-- the document's store at block b holds what was done; its blocks are in G -/
def RefIs (w : World) (b : Nat) (l : List Deed) (G : Nat → Prop) : Prop :=
  ∃ v, w.cell? ⟨b, 0, none⟩ = some v ∧ w.frozen? ⟨b, 0, none⟩ = false ∧ w.ownsRow 0 46 5 v l.length (rowE l) ∧ v.ownBlock ≠ some b ∧ (∀ c, v.ownBlock = some c → G c) ∧ G b ∧ (∀ c, G c → c < w.heap.size) ∧ l.length ≤ 1000
theorem RefIs.blocks {w w' : World} {b : Nat} {l : List Deed} {G : Nat → Prop} (h : RefIs w b l G) (hs : w.heap.size ≤ w'.heap.size) (hb : ∀ c, G c → w'.heap[c]? = w.heap[c]?) : RefIs w' b l G := by
  obtain ⟨v, c0, f0, ho, hn, hg, Gb, Gl, hl⟩ := h
  have eb := hb b Gb
  exact ⟨v, (World.cell?_of_block (a := ⟨b, 0, none⟩) eb).trans c0, (World.frozen?_of_block (a := ⟨b, 0, none⟩) eb).trans f0, ownsRow_blocks ho (fun g hg' => hb g (hg g hg')), hn, hg, Gb, fun c hc => Nat.lt_of_lt_of_le (Gl c hc) hs, hl⟩
theorem RefIs.lt {w : World} {b : Nat} {l : List Deed} {G : Nat → Prop} (h : RefIs w b l G) : ∀ c, G c → c < w.heap.size := by
  obtain ⟨v, c0, f0, ho, hn, hg, Gb, Gl, hl⟩ := h
  exact Gl
theorem RefIs.below {w w' : World} {b : Nat} {l : List Deed} {G : Nat → Prop} (h : RefIs w b l G) (hb : Below w.heap.size w w') : RefIs w' b l G :=
  h.blocks hb.size (fun c hc => hb.block c (h.lt c hc))
theorem RefIs.kept {w w' : World} {b : Nat} {l : List Deed} {F G : Nat → Prop} (h : RefIs w b l G) (hb : Kept F w w') (hn : ∀ c, G c → ¬ F c) : RefIs w' b l G :=
  h.blocks hb.size (fun c hc => hb.block c (h.lt c hc) (hn c hc))

set_option maxHeartbeats 1000000 in
theorem refAt_c (b : Nat) (k : Int) (s : Nat) (l : List Deed) (G : Nat → Prop) (w : World) (hs : s ≤ l.length) (h : RefIs w b l G) :
    Calls Tryz.prog 138 #[.pointer (some ⟨b, 0, none⟩), .int .i64 k, .int .i64 s] w fun e w' => e = .returned (entAt l k s).val ∧ Below w.heap.size w w' := by
  obtain ⟨v, c0, f0, ho, hn, hg, Gb, Gl, hl⟩ := h
  have lb := Gl b Gb
  clear Gl Gb hg f0
  have HC : Hid (∀ g, v.ownBlock = some g → ∀ j u, (rowE l)[j]? = some u → w.cell? ⟨g, j, none⟩ = some u) := fun g hg j u hu => by
    have := ho.cells (g := g) hg j u hu
    simpa [Addr.add_lit] using this
  have HV : Hid (v = .slice none 0 0 ∧ l.length = 0 ∨ ∃ g cap, v = .slice (some ⟨g, 0, none⟩) l.length cap ∧ g < w.heap.size) := by
    rcases ho.2 with ⟨rfl, h0⟩ | ⟨g, cap, cur, rfl, _, hgg, _⟩
    · exact .inl ⟨rfl, h0⟩
    · exact .inr ⟨g, cap, rfl, (Array.getElem?_eq_some_iff.1 hgg).1⟩
  clear ho hn
  have hs1 : (s : Int) ≤ 1000 := by omega
  go_enter Tryz.func138, Tryz.ntmps138
  go_wp2_with fail
  go_loopw [8] (fun i wr => ∃ j : Nat, j ≤ s ∧ i = .int .i64 j ∧ ∃ ver gone text, Hid (lastOf (l.take j) k = ⟨ver, gone, text⟩) ∧ wr = (w.alloc (.cells #[.int .i64 0, .int .i64 0, .int .i64 0, .bool false, .string ⟨#[]⟩] 46)).alloc (.cells #[.int .i64 k, .int .i64 ver, .int .i64 s, .bool gone, .string text] 46)) (fun i _ => s - (intOf i).toNat)
  case atStart => exact ⟨0, Nat.zero_le _, rfl, 0, true, ByteArray.empty, rfl, rfl⟩
  case round =>
    obtain ⟨j, hj, rfl, ver, gone, text, HL, rfl⟩ := hrel
    by_cases hlt : j < s
    · have hjl : j < l.length := by omega
      rcases HV.out with ⟨rfl, h0⟩ | ⟨g, cap, rfl, hgl⟩
      · omega
      · have hgg := rowE_get l j hjl
        have x0 := HC.out g rfl _ _ hgg.1
        have x3 := HC.out g rfl _ _ hgg.2.1
        have x4 := HC.out g rfl _ _ hgg.2.2
        clear hgg
        by_cases hk : l[j].key = k
        · have hkb : (l[j].key == k) = true := by simp [hk]
          have HN : Hid (lastOf (l.take (j + 1)) k = ⟨(j : Int) + 1, l[j].gone, l[j].text⟩) := lastOf_take_hit l k j hjl hk
          clear HL hk
          go_wp2
          go_roundw
          case rel => exact ⟨j + 1, by omega, by go_num, _, _, _, HN, rfl⟩
          case measure => simp [intOf]; omega
        · have hkb : (l[j].key == k) = false := by simp [hk]
          have HN : Hid (lastOf (l.take (j + 1)) k = ⟨ver, gone, text⟩) := (lastOf_take_miss l k j hjl hk).trans HL.out
          clear HL hk
          go_wp2
          go_roundw
          case rel => exact ⟨j + 1, by omega, by go_num, _, _, _, HN, rfl⟩
          case measure => simp [intOf]; omega
    · obtain rfl : j = s := by omega
      have HE : Hid ((entAt l k j).val = .agg #[.int .i64 k, .int .i64 ver, .int .i64 j, .bool gone, .string text]) := by
        unfold Hid entAt Ent.val
        rw [HL.out]
      go_wp2
      refine bodyPost_ret (v := .agg #[.int .i64 k, .int .i64 ver, .int .i64 j, .bool gone, .string text]) (by simp [results, Tryz.results138, go_sem]) rfl ?_
      exact ⟨by rw [HE.out], by go_grown⟩
end Go.Proofs.YtpcnfoaoajfhlaaGreatDoor

namespace Go.Proofs.YtpcnfoaoajfhlaaGreatDoor
set_option linter.unusedVariables false
set_option linter.unusedSimpArgs false
end Go.Proofs.YtpcnfoaoajfhlaaGreatDoor

namespace Go.Proofs.YtpcnfoaoajfhlaaGreatDoor
set_option linter.unusedVariables false
set_option linter.unusedSimpArgs false
open Go.RowKit

/-- what is wrong with an entry -/
def En.bad (e : En) : Int := Go.Proofs.YtpcnfoaoajfhlaaGreatDoor.bad e.k e.v e.a e.g e.t
/-- what is wrong with a row, behind a key -/
def badRow : Option Int → List En → Int
  | _, [] => 0
  | p, e :: l => if e.bad ≠ 0 then e.bad else if (match p with | some q => decide (e.k ≤ q) | none => false) = true then 3 else badRow (some e.k) l
/-- what is wrong with a cache -/
def badL (l : List En) : Int := if 8 < l.length then 4 else badRow none l

def En.cells (e : En) : List Value := [.int .i64 e.k, .int .i64 e.v, .int .i64 e.a, .bool e.g, .string e.t]
def rowC : List En → List Value
  | [] => []
  | e :: l => e.cells ++ rowC l
theorem En.cells_length (e : En) : e.cells.length = 5 := rfl
theorem rowC_append (l m : List En) : rowC (l ++ m) = rowC l ++ rowC m := by
  induction l with
  | nil => rfl
  | cons c l ih => simp only [List.cons_append, rowC, ih, List.append_assoc]
theorem rowC_length (l : List En) : (rowC l).length = l.length * 5 := by
  induction l with
  | nil => rfl
  | cons c l ih => simp only [rowC, List.length_append, En.cells_length, ih, List.length_cons]; omega
theorem rowC_one (l : List En) : ∀ u ∈ rowC l, u.oneCell' = true := by
  induction l with
  | nil => intro u hu; simp [rowC] at hu
  | cons c l ih =>
    intro u hu
    simp only [rowC, List.mem_append] at hu
    rcases hu with h | h
    · simp only [En.cells, List.mem_cons, List.not_mem_nil, or_false] at h
      rcases h with rfl | rfl | rfl | rfl | rfl <;> rfl
    · exact ih u h
theorem rowC_get (l : List En) (j : Nat) (h : j < l.length) :
    (rowC l)[j * 5]? = some (.int .i64 l[j].k) ∧ (rowC l)[j * 5 + 1]? = some (.int .i64 l[j].v) ∧ (rowC l)[j * 5 + 2]? = some (.int .i64 l[j].a) ∧ (rowC l)[j * 5 + 3]? = some (.bool l[j].g) ∧ (rowC l)[j * 5 + 4]? = some (.string l[j].t) := by
  induction l generalizing j with
  | nil => simp at h
  | cons c l ih =>
    cases j with
    | zero => simp [rowC, En.cells]
    | succ j =>
      have e := ih j (by simpa using h)
      have e0 : (j + 1) * 5 = j * 5 + 5 := by omega
      simp only [rowC, En.cells, List.cons_append, List.nil_append, e0, List.getElem_cons_succ]
      have e1 : j * 5 + 5 + 1 = (j * 5 + 1) + 5 := by omega
      have e2 : j * 5 + 5 + 2 = (j * 5 + 2) + 5 := by omega
      have e3 : j * 5 + 5 + 3 = (j * 5 + 3) + 5 := by omega
      have e4 : j * 5 + 5 + 4 = (j * 5 + 4) + 5 := by omega
      rw [e1, e2, e3, e4]
      simpa using e
theorem rowC_take (l : List En) (i : Nat) : rowC (l.take i) = (rowC l).take (i * 5) := by
  induction l generalizing i with
  | nil => simp [rowC]
  | cons c l ih =>
    cases i with
    | zero => simp [rowC]
    | succ i =>
      rw [List.take_succ_cons, rowC, ih, rowC, show (i + 1) * 5 = c.cells.length + i * 5 by rw [En.cells_length]; omega, List.take_length_add_append]
theorem rowC_drop (l : List En) (i : Nat) : rowC (l.drop i) = (rowC l).drop (i * 5) := by
  induction l generalizing i with
  | nil => simp [rowC]
  | cons c l ih =>
    cases i with
    | zero => simp [rowC]
    | succ i =>
      rw [List.drop_succ_cons, ih, rowC, show (i + 1) * 5 = c.cells.length + i * 5 by rw [En.cells_length]; omega, List.drop_length_add_append]

/-- an entry's five cells at a place -/
structure EnAt (w : World) (b o : Nat) (e : En) : Prop where
  c0 : w.cell? ⟨b, o, none⟩ = some (.int .i64 e.k)
  c1 : w.cell? ⟨b, o + 1, none⟩ = some (.int .i64 e.v)
  c2 : w.cell? ⟨b, o + 2, none⟩ = some (.int .i64 e.a)
  c3 : w.cell? ⟨b, o + 3, none⟩ = some (.bool e.g)
  c4 : w.cell? ⟨b, o + 4, none⟩ = some (.string e.t)
theorem EnAt.of_block {w w' : World} {b o : Nat} {e : En} (h : EnAt w b o e) (hb : w'.heap[b]? = w.heap[b]?) : EnAt w' b o e :=
  ⟨(World.cell?_of_block (a := ⟨b, o, none⟩) hb).trans h.c0, (World.cell?_of_block (a := ⟨b, o + 1, none⟩) hb).trans h.c1, (World.cell?_of_block (a := ⟨b, o + 2, none⟩) hb).trans h.c2, (World.cell?_of_block (a := ⟨b, o + 3, none⟩) hb).trans h.c3, (World.cell?_of_block (a := ⟨b, o + 4, none⟩) hb).trans h.c4⟩

/-- a slice that holds a row of entries -/
def RowIs (w : World) (v : Value) (l : List En) : Prop :=
  l.length ≤ maxLen ∧ ∃ p cap, v = .slice p l.length cap ∧ (l ≠ [] → ∃ b o, p = some ⟨b, o, none⟩ ∧ b < w.heap.size ∧ ∀ j (h : j < l.length), EnAt w b (o + j * 5) l[j])
theorem RowIs.blocks {w w' : World} {v : Value} {l : List En} (h : RowIs w v l) (hs : w.heap.size ≤ w'.heap.size) (hb : ∀ c, v.ownBlock = some c → c < w.heap.size → w'.heap[c]? = w.heap[c]?) : RowIs w' v l := by
  obtain ⟨h0, p, cap, rfl, h1⟩ := h
  refine ⟨h0, p, cap, rfl, fun hn => ?_⟩
  obtain ⟨b, o, rfl, hlt, hc⟩ := h1 hn
  exact ⟨b, o, rfl, Nat.lt_of_lt_of_le hlt hs, fun j hj => (hc j hj).of_block (hb b rfl hlt)⟩
theorem RowIs.below {w w' : World} {v : Value} {l : List En} (h : RowIs w v l) (hb : Below w.heap.size w w') : RowIs w' v l :=
  h.blocks hb.size (fun c _ hc => hb.block c hc)
theorem RowIs.nil (w : World) : RowIs w (.slice none 0 0) [] := ⟨by simp, none, 0, rfl, fun h => absurd rfl h⟩
/-- a row that the call owns is one -/
theorem RowIs.own {w : World} {B : Nat} {v : Value} {l : List En} (h : w.ownsRow B 46 5 v l.length (rowC l)) : RowIs w v l := by
  have hcell : ∀ g, v.ownBlock = some g → ∀ j u, (rowC l)[j]? = some u → w.cell? ⟨g, j, none⟩ = some u := fun g hg j u hu => by
    have := h.cells (g := g) hg j u hu
    simpa [Addr.add_lit] using this
  rcases h.2 with ⟨rfl, h0⟩ | ⟨g, cap, cur, rfl, _, hg, hc1, hc2, _⟩
  · rw [List.length_eq_zero_iff.1 h0]
    exact RowIs.nil w
  · refine ⟨Nat.le_trans hc1 hc2, _, cap, rfl, fun _ => ⟨g, 0, rfl, (Array.getElem?_eq_some_iff.1 hg).1, fun j hj => ?_⟩⟩
    obtain ⟨a0, a1, a2, a3, a4⟩ := rowC_get l j hj
    exact ⟨by simpa using hcell g rfl _ _ a0, by simpa using hcell g rfl _ _ a1, by simpa using hcell g rfl _ _ a2, by simpa using hcell g rfl _ _ a3, by simpa using hcell g rfl _ _ a4⟩
theorem RowIs.cells {w : World} {b o cap : Nat} {l : List En} (hc : ∀ j (h : j < l.length), EnAt w b (o + j * 5) l[j]) : ∀ i u, (rowC l)[i]? = some u → w.cell? ⟨b, o + i, none⟩ = some u := by
  intro i u hu
  have hi : i < l.length * 5 := by
    have := (List.getElem?_eq_some_iff.1 hu).1
    rwa [rowC_length] at this
  have hj : i / 5 < l.length := by omega
  obtain ⟨a0, a1, a2, a3, a4⟩ := rowC_get l (i / 5) hj
  have hr : i = i / 5 * 5 + i % 5 := by omega
  have h5 : i % 5 < 5 := by omega
  obtain ⟨x0, x1, x2, x3, x4⟩ := hc (i / 5) hj
  generalize i % 5 = r at hr h5
  rw [hr] at hu ⊢
  match r, h5 with
  | 0, _ => rw [Nat.add_zero] at hu ⊢; rw [a0] at hu; rw [← Option.some.inj hu]; exact x0
  | 1, _ => rw [a1] at hu; rw [← Option.some.inj hu, ← Nat.add_assoc]; exact x1
  | 2, _ => rw [a2] at hu; rw [← Option.some.inj hu, ← Nat.add_assoc]; exact x2
  | 3, _ => rw [a3] at hu; rw [← Option.some.inj hu, ← Nat.add_assoc]; exact x3
  | 4, _ => rw [a4] at hu; rw [← Option.some.inj hu, ← Nat.add_assoc]; exact x4

theorem infoEn : (Tryz.prog.info? 46).map (fun i => (i.zero, i.size, i.bytes)) = some (some (.agg #[.int .i64 0, .int .i64 0, .int .i64 0, .bool false, .string ⟨#[]⟩]), 5, 48) := by kernel_rfl
end Go.Proofs.YtpcnfoaoajfhlaaGreatDoor
