/-
  The document's store (mereref1.Store) by its contracts: Read, Put, Delete, Swap.
  The document's store (mereref1.Store) by its contracts: Put, Delete, Swap, whatever comes.
-/
import Derived.Test.YtpcnfoaoajfhlaaGreatDoorMqae
import Derived.Deep.AppendLies
namespace Go.Proofs.YtpcnfoaoajfhlaaGreatDoor
set_option linter.unusedVariables false
set_option linter.unusedSimpArgs false
set_option linter.unusedVariables false
set_option linter.unusedSimpArgs false
open Go.RowKit

set_option maxHeartbeats 1000000 in
theorem refRead_c (b : Nat) (k : Int) (l : List Deed) (G : Nat → Prop) (w : World) (h : RefIs w b l G) :
    Calls Tryz.prog 91 #[.pointer (some ⟨b, 0, none⟩), .int .i64 k] w fun e w' => e = .returned (entAt l k l.length).val ∧ Below w.heap.size w w' := by
  have HS : Hid (RefIs w b l G) := h
  obtain ⟨v, c0, f0, ho, hn, hg, Gb, Gl, hl⟩ := h
  have lb := Gl b Gb
  have HV : Hid (v = .slice none 0 0 ∧ l.length = 0 ∨ ∃ g cap, v = .slice (some ⟨g, 0, none⟩) l.length cap) := by
    rcases ho.2 with ⟨rfl, h0⟩ | ⟨g, cap, cur, rfl, _, hgg, _⟩
    · exact .inl ⟨rfl, h0⟩
    · exact .inr ⟨g, cap, rfl⟩
  clear Gl Gb hg f0 ho hn
  obtain ⟨x0, x1, x2, x3, x4, HR⟩ : ∃ x0 x1 x2 x3 x4, Hid ((entAt l k l.length).val = .agg #[.int .i64 x0, .int .i64 x1, .int .i64 x2, .bool x3, .string x4]) := ⟨_, _, _, _, _, rfl⟩
  obtain ⟨a, cap, rfl⟩ : ∃ a cap, v = .slice a l.length cap := by
    rcases HV.out with ⟨rfl, h0⟩ | ⟨g, cap, rfl⟩
    · exact ⟨none, 0, by rw [h0]⟩
    · exact ⟨_, _, rfl⟩
  clear HV
  go_enter Tryz.func91, Tryz.ntmps91
  go_wp2_with fail
  refine (refAt_c b k l.length l G _ (Nat.le_refl _) (HS.out.below ((Below.refl _ _).alloc (Nat.le_refl _) _))).mono ?_
  rintro e w1 ⟨rfl, hb⟩
  rw [HR.out]
  have e0 : w1.cell? ⟨w.heap.size, 0, none⟩ = some (.int .i64 0) := (hb.cell (p := ⟨w.heap.size, 0, none⟩) (by simp)).trans (by simp)
  have e1 : w1.cell? ⟨w.heap.size, 1, none⟩ = some (.int .i64 0) := (hb.cell (p := ⟨w.heap.size, 1, none⟩) (by simp)).trans (by simp)
  have e2 : w1.cell? ⟨w.heap.size, 2, none⟩ = some (.int .i64 0) := (hb.cell (p := ⟨w.heap.size, 2, none⟩) (by simp)).trans (by simp)
  have e3 : w1.cell? ⟨w.heap.size, 3, none⟩ = some (.bool false) := (hb.cell (p := ⟨w.heap.size, 3, none⟩) (by simp)).trans (by simp)
  have e4 : w1.cell? ⟨w.heap.size, 4, none⟩ = some (.string ⟨#[]⟩) := (hb.cell (p := ⟨w.heap.size, 4, none⟩) (by simp)).trans (by simp)
  have ef : ∀ j, w1.frozen? ⟨w.heap.size, j, none⟩ = false := fun j => (hb.frozen (p := ⟨w.heap.size, j, none⟩) (by simp)).trans (by simp)
  have HBW : Hid (Below w.heap.size w w1) := ((Below.refl _ _).alloc (Nat.le_refl _) _).trans (hb.mono (by simp))
  have hz1 : w.heap.size < w1.heap.size := by have := hb.size; simp at this; omega
  clear hb
  go_wp2_with fail
  refine bodyPost_ret (v := .agg #[.int .i64 x0, .int .i64 x1, .int .i64 x2, .bool x3, .string x4]) (by simp [results, Tryz.results91, go_sem, e0, e1, e2, e3, e4]) rfl ?_
  refine ⟨by rw [HR.out], ?_⟩
  have hbw := HBW.out
  go_grown

theorem infoEnt : (Tryz.prog.info? 46).map (fun i => (i.zero, i.size, i.bytes)) = some (some (.agg #[.int .i64 0, .int .i64 0, .int .i64 0, .bool false, .string ⟨#[]⟩]), 5, 48) := by kernel_rfl

/-- what a call of the document's store leaves -/
def LeftR (b : Nat) (G : Nat → Prop) (w : World) (o : Out) (e : Ending) (w' : World) : Prop :=
  e = .returned (.tuple #[.int .i64 o.num, .int .i64 o.err]) ∧ ∃ G', RefIs w' b o.done G' ∧ (∀ c, G' c → G c ∨ w.heap.size ≤ c) ∧ Kept G w w'
theorem LeftR.same {b : Nat} {G : Nat → Prop} {w w' : World} {l : List Deed} {n : Int} {o : Out} (h : RefIs w b l G) (hb : Below w.heap.size w w') (ho : o = ⟨l, 0, n⟩) : LeftR b G w o (.returned (.tuple #[.int .i64 0, .int .i64 n])) w' := by
  subst ho
  exact ⟨rfl, G, h.below hb, fun _ hc => .inl hc, Kept.of_below hb⟩
theorem LeftR.step {b : Nat} {G : Nat → Prop} {w w1 w' : World} {o : Out} {e : Ending} (hb : Below w.heap.size w w1) (h : LeftR b G w1 o e w') : LeftR b G w o e w' := by
  obtain ⟨he, F', hs, hf, hk⟩ := h
  refine ⟨he, F', hs, fun c hc => ?_, (Kept.of_below (F := G) hb).trans hk (fun _ _ h => h)⟩
  rcases hf c hc with h | h
  · exact .inl h
  · exact .inr (Nat.le_trans hb.size h)

theorem ref_after (b : Nat) (l : List Deed) (G : Nat → Prop) (w w1 : World) (v : Value) (o : Obj) (d : Deed) (g cap : Nat) (hl1 : l.length < 1000)
    (c0 : w.cell? ⟨b, 0, none⟩ = some v) (f0 : w.frozen? ⟨b, 0, none⟩ = false) (hn : v.ownBlock ≠ some b) (hg : ∀ c, v.ownBlock = some c → G c) (Gb : G b) (Gl : ∀ c, G c → c < w.heap.size)
    (hown : w1.ownsRow 0 46 5 (.slice (some ⟨g, 0, none⟩) (l.length + 1) cap) (l.length + 1) (rowE l ++ d.cells)) (hgrow : (w.alloc o).grownBy w1 v.ownBlock) (hat : v.ownBlock = some g ∨ g = w.heap.size + 1) (hlt : g < w1.heap.size) :
    LeftR b G w ⟨l ++ [d], (l.length : Int) + 1, 0⟩ (.returned (.tuple #[.int .i64 ((l.length : Int) + 1), .int .i64 0])) (w1.setCell ⟨b, 0, none⟩ (.slice (some ⟨g, 0, none⟩) (l.length + 1) cap)) := by
  have lb := Gl b Gb
  have hs1 : w.heap.size + 1 ≤ w1.heap.size := by have := hgrow.size; simpa using this
  have gnb : g ≠ b := by
    rcases hat with h | h
    · intro e; subst e; exact hn h
    · omega
  have keep : ∀ c, c < w.heap.size → c ≠ b → v.ownBlock ≠ some c → (w1.setCell ⟨b, 0, none⟩ (.slice (some ⟨g, 0, none⟩) (l.length + 1) cap)).heap[c]? = w.heap[c]? := by
    intro c hc hcb hne
    rw [Below.heap_setCell w1 _ _ c hcb, hgrow.block c (by simp; omega) (Ne.symm hne), Below.heap_alloc _ _ c hc]
  have ob : w1.heap[b]? = w.heap[b]? := by rw [hgrow.block b (by simp; omega) (Ne.symm hn), Below.heap_alloc _ _ b lb]
  refine ⟨rfl, fun c => G c ∨ c = g, ⟨_, World.cell?_setCell_same _ _ _ ((World.cell?_of_block (a := ⟨b, 0, none⟩) ob).trans c0), ?_, ?_, by simpa [Value.ownBlock] using gnb, fun c hc => .inr (by simpa [Value.ownBlock] using hc.symm), .inl Gb, ?_, by simp; omega⟩, ?_, ?_⟩
  · rw [World.frozen?_setCell]; exact (World.frozen?_of_block (a := ⟨b, 0, none⟩) ob).trans f0
  · rw [rowE_append, List.length_append]
    have e : rowE [d] = d.cells := by simp [rowE]
    rw [e]
    refine ownsRow_blocks hown (fun g' hg' => ?_)
    obtain rfl : g = g' := by simpa [Value.ownBlock] using hg'
    exact Below.heap_setCell w1 _ _ g gnb
  · intro c hc
    rw [World.size_setCell]
    rcases hc with hc | rfl
    · have := Gl c hc; omega
    · exact hlt
  · intro c hc
    rcases hc with h | rfl
    · exact .inl h
    · rcases hat with h | h
      · exact .inl (hg _ h)
      · exact .inr (by omega)
  · exact ⟨hgrow.os, hgrow.tape, hgrow.output, by rw [World.size_setCell]; omega, fun c hc hG => keep c hc (fun e => hG (e ▸ Gb)) (fun e => hG (hg c e))⟩

set_option maxHeartbeats 1000000 in
theorem refPut_ok (b : Nat) (k : Int) (t : ByteArray) (l : List Deed) (G : Nat → Prop) (w : World) (hk : stK k = true) (ht : ¬ 12 < t.size) (hl1 : l.length < 1000) (h : RefIs w b l G) :
    Calls Tryz.prog 40 #[.pointer (some ⟨b, 0, none⟩), .int .i64 k, .string t] w (LeftR b G w ⟨l ++ [⟨k, false, t⟩], (l.length : Int) + 1, 0⟩) := by
  obtain ⟨i0, hi0, hz0, hz1, hz2⟩ := info_parts infoEnt
  have HK : Hid (stK k = true) := hk
  clear hk
  obtain ⟨v, c0, f0, ho, hn, hg, Gb, Gl, hl⟩ := h
  have lb := Gl b Gb
  have AFT := fun w1 o g cap => ref_after b l G w w1 v o ⟨k, false, t⟩ g cap hl1 c0 f0 hn hg Gb Gl
  have HA : Hid (∀ w1 o g cap, _) := AFT
  clear AFT
  have HO : Hid (w.ownsRow 0 46 5 v l.length (rowE l)) := ho
  obtain ⟨a, cap0, hv⟩ : ∃ a cap, v = .slice a l.length cap := by
    rcases ho.2 with ⟨rfl, h0⟩ | ⟨g, cap, cur, rfl, _⟩
    · exact ⟨none, 0, by rw [h0]⟩
    · exact ⟨_, _, rfl⟩
  subst hv
  clear ho
  have h12 : decide ((12 : Int) < (t.size : Int)) = false := by simp; omega
  have h1000 : decide ((1000 : Int) ≤ (l.length : Int)) = false := by simp; omega
  have ht' : t.size ≤ 12 := by omega
  go_enter Tryz.func40, Tryz.ntmps40
  go_wp2_with (first | (go_at_call 47; refine (refKey_b _ true _ HK.out).mono ?_; rintro e w' ⟨rfl, rfl⟩) | (at_builtin; refine wpList_append_lies _ (by rfl) _ _ _ (by rfl) 0 46 i0 _ 5 48 Tryz.underlying32 hi0 hz0 hz1 hz2 rfl (by omega) (.slice a l.length cap0) l.length (rowE l) (by rfl) (HO.out.alloc _) ⟨w.heap.size, 0, none⟩ 1 1 [.int .i64 k, .int .i64 0, .int .i64 0, .bool false, .string t] (by rfl) (by rfl) (World.news_of_block (cs := #[.int .i64 k, .int .i64 0, .int .i64 0, .bool false, .string t]) (t := 46) (fr := (0, 0)) (heap_alloc_new w _)) (by simp [Value.oneCell']) (by omega) (by unfold maxLen; omega) (by omega) (by simp) (w.heap.size + 1) (by simp) ?_; intro g cap w1 hown1 hgrow hat hlt; have cz : w1.cell? ⟨b, 0, none⟩ = some (.slice a l.length cap0) := (hgrow.cell_far _ (by simp; omega) (Ne.symm hn)).trans ((World.cell?_alloc_lt _ _ ⟨b, 0, none⟩ lb).trans c0); have fz : w1.frozen? ⟨b, 0, none⟩ = false := (hgrow.frozen_far _ (by simp; omega) (Ne.symm hn)).trans ((World.frozen?_alloc_old _ _ ⟨b, 0, none⟩ (Nat.ne_of_lt lb)).trans f0)))
  go_ret2
  exact HA.out w1 _ g cap hown1 hgrow hat hlt
end Go.Proofs.YtpcnfoaoajfhlaaGreatDoor

namespace Go.Proofs.YtpcnfoaoajfhlaaGreatDoor
set_option linter.unusedVariables false
set_option linter.unusedSimpArgs false
open Go.RowKit

theorem RefIs.slice {w : World} {b : Nat} {l : List Deed} {G : Nat → Prop} (h : RefIs w b l G) : ∃ a cap, w.cell? ⟨b, 0, none⟩ = some (.slice a l.length cap) ∧ l.length ≤ 1000 := by
  obtain ⟨v, c0, f0, ho, hn, hg, Gb, Gl, hl⟩ := h
  rcases ho.2 with ⟨rfl, h0⟩ | ⟨g, cap, cur, rfl, _⟩
  · exact ⟨none, 0, by rw [h0]; exact c0, hl⟩
  · exact ⟨_, _, c0, hl⟩

set_option maxHeartbeats 1000000 in
theorem refPut_c (b : Nat) (k : Int) (t : ByteArray) (l : List Deed) (G : Nat → Prop) (w : World) (hm : t.size ≤ maxLen) (h : RefIs w b l G) :
    Calls Tryz.prog 40 #[.pointer (some ⟨b, 0, none⟩), .int .i64 k, .string t] w (LeftR b G w (putO l k t)) := by
  unfold maxLen at hm
  cases hk : stK k
  · have HK : Hid (stK k = false) := hk
    have HS : Hid (RefIs w b l G) := h
    have HP : Hid (putO l k t = ⟨l, 0, 1⟩) := by simp [Hid, putO, hk]
    clear hk h
    go_enter Tryz.func40, Tryz.ntmps40
    go_wp2_with (go_at_call 47; refine (refKey_b _ false _ HK.out).mono ?_; rintro e w' ⟨rfl, rfl⟩)
    go_ret2
    exact LeftR.same HS.out (Below.refl _ _) HP.out
  · by_cases ht : 12 < t.size
    · have HK : Hid (stK k = true) := hk
      have HS : Hid (RefIs w b l G) := h
      have HP : Hid (putO l k t = ⟨l, 0, 4⟩) := by simp [Hid, putO, hk, ht]
      have h12 : decide ((12 : Int) < (t.size : Int)) = true := by simp; omega
      clear hk h
      go_enter Tryz.func40, Tryz.ntmps40
      go_wp2_with (go_at_call 47; refine (refKey_b _ true _ HK.out).mono ?_; rintro e w' ⟨rfl, rfl⟩)
      go_ret2
      exact LeftR.same HS.out (Below.refl _ _) HP.out
    · by_cases hl : l.length < 1000
      · have e : putO l k t = ⟨l ++ [⟨k, false, t⟩], (l.length : Int) + 1, 0⟩ := by simp [putO, hk, ht, recO, hl]
        rw [e]
        exact refPut_ok b k t l G w hk ht hl h
      · have HK : Hid (stK k = true) := hk
        have HS : Hid (RefIs w b l G) := h
        have HP : Hid (putO l k t = ⟨l, 0, 4⟩) := by simp [Hid, putO, hk, ht, recO, hl]
        have h12 : decide ((12 : Int) < (t.size : Int)) = false := by simp; omega
        have h1000 : (1000 : Int) ≤ (l.length : Int) := by omega
        obtain ⟨a, cap, c0, hl1⟩ := h.slice
        clear hk h
        go_enter Tryz.func40, Tryz.ntmps40
        go_wp2_with (go_at_call 47; refine (refKey_b _ true _ HK.out).mono ?_; rintro e w' ⟨rfl, rfl⟩)
        go_ret2
        exact LeftR.same HS.out (Below.refl _ _) HP.out

set_option maxHeartbeats 1000000 in
theorem refDelete_c (b : Nat) (k : Int) (l : List Deed) (G : Nat → Prop) (w : World) (h : RefIs w b l G) :
    Calls Tryz.prog 39 #[.pointer (some ⟨b, 0, none⟩), .int .i64 k] w (LeftR b G w (delO l k)) := by
  obtain ⟨i0, hi0, hz0, hz1, hz2⟩ := info_parts infoEnt
  have HS : Hid (RefIs w b l G) := h
  cases hk : stK k
  · have HK : Hid (stK k = false) := hk
    have HP : Hid (delO l k = ⟨l, 0, 1⟩) := by simp [Hid, delO, hk]
    clear hk h
    go_enter Tryz.func39, Tryz.ntmps39
    go_wp2_with (go_at_call 47; refine (refKey_b _ false _ HK.out).mono ?_; rintro e w' ⟨rfl, rfl⟩)
    go_ret2
    exact LeftR.same HS.out (Below.refl _ _) HP.out
  · have HK : Hid (stK k = true) := hk
    clear hk
    obtain ⟨x0, x1, x2, x4, HR⟩ : ∃ x0 x1 x2 x4, Hid ((entAt l k l.length).val = .agg #[.int .i64 x0, .int .i64 x1, .int .i64 x2, .bool (lastOf l k).gone, .string x4]) := ⟨k, (lastOf l k).ver, l.length, (lastOf l k).text, by unfold Hid entAt Ent.val; rw [List.take_length]⟩
    cases hgo : (lastOf l k).gone
    · rw [hgo] at HR
      have hl : l.length ≤ 1000 := h.slice.elim fun _ h => h.elim fun _ h => h.2
      by_cases hlt : l.length < 1000
      · have HP : Hid (delO l k = ⟨l ++ [⟨k, true, ByteArray.empty⟩], (l.length : Int) + 1, 0⟩) := by simp [Hid, delO, HK.out, hgo, recO, hlt]
        clear h hgo
        have h1 : decide ((1000 : Int) ≤ (l.length : Int)) = false := by simp; omega
        go_enter Tryz.func39, Tryz.ntmps39
        go_wp2_with (go_at_call 47; refine (refKey_b _ true _ HK.out).mono ?_; rintro e w' ⟨rfl, rfl⟩)
        refine (refRead_c b k l G _ HS.out).mono ?_
        rintro e w1 ⟨rfl, hb⟩
        rw [HR.out]
        have HB : Hid (Below w.heap.size w (w1.alloc (.cells #[.int .i64 x0, .int .i64 x1, .int .i64 x2, .bool false, .string x4] 46))) := hb.alloc hb.size _
        have HS2 : Hid (RefIs (w1.alloc (.cells #[.int .i64 x0, .int .i64 x1, .int .i64 x2, .bool false, .string x4] 46)) b l G) := HS.out.below HB.out
        clear hb
        obtain ⟨v, c02, f02, ho, hn, hg, Gb, Gl, hl2⟩ := HS2.out
        have lb2 := Gl b Gb
        have lb3 : b < w1.heap.size + 1 := by simpa using lb2
        obtain ⟨a, cap0, hv⟩ : ∃ a cap, v = .slice a l.length cap := by
          rcases ho.2 with ⟨rfl, h0⟩ | ⟨g, cap, cur, rfl, _⟩
          · exact ⟨none, 0, by rw [h0]⟩
          · exact ⟨_, _, rfl⟩
        subst hv
        have cr : (w1.alloc (.cells #[.int .i64 x0, .int .i64 x1, .int .i64 x2, .bool false, .string x4] 46)).cell? ⟨w1.heap.size, 3, none⟩ = some (.bool false) := by simp
        have HO1 : Hid ((w1.alloc (.cells #[.int .i64 x0, .int .i64 x1, .int .i64 x2, .bool false, .string x4] 46)).ownsRow 0 46 5 (.slice a l.length cap0) l.length (rowE l)) := ho
        have AFT := fun w3 o g cap => ref_after b l G (w1.alloc (.cells #[.int .i64 x0, .int .i64 x1, .int .i64 x2, .bool false, .string x4] 46)) w3 (.slice a l.length cap0) o ⟨k, true, ByteArray.empty⟩ g cap hlt c02 f02 hn hg Gb Gl
        have HA : Hid (∀ w1 o g cap, _) := AFT
        clear AFT ho
        have NB : Hid (((w1.alloc (.cells #[.int .i64 x0, .int .i64 x1, .int .i64 x2, .bool false, .string x4] 46)).alloc (.cells #[.int .i64 k, .int .i64 0, .int .i64 0, .bool true, .string ⟨#[]⟩] 46)).heap[w1.heap.size + 1]? = some (.cells #[.int .i64 k, .int .i64 0, .int .i64 0, .bool true, .string ⟨#[]⟩] 46 (0, 0))) := by
          have := heap_alloc_new (w1.alloc (.cells #[.int .i64 x0, .int .i64 x1, .int .i64 x2, .bool false, .string x4] 46)) (.cells #[.int .i64 k, .int .i64 0, .int .i64 0, .bool true, .string ⟨#[]⟩] 46)
          rw [World.size_alloc] at this
          exact this
        go_wp2_with (at_builtin; refine wpList_append_lies _ (by rfl) _ _ _ (by rfl) 0 46 i0 _ 5 48 Tryz.underlying32 hi0 hz0 hz1 hz2 rfl (by omega) (.slice a l.length cap0) l.length (rowE l) (by rfl) (HO1.out.alloc _) ⟨w1.heap.size + 1, 0, none⟩ 1 1 [.int .i64 k, .int .i64 0, .int .i64 0, .bool true, .string ⟨#[]⟩] (by rfl) (by rfl) (World.news_of_block (cs := #[.int .i64 k, .int .i64 0, .int .i64 0, .bool true, .string ⟨#[]⟩]) (t := 46) (fr := (0, 0)) NB.out) (by simp [Value.oneCell']) (by omega) (by unfold maxLen; omega) (by omega) (by simp) (w1.heap.size + 1 + 1) (by simp) ?_; intro g cap w3 hown1 hgrow hat hlt; have cz : w3.cell? ⟨b, 0, none⟩ = some (.slice a l.length cap0) := (hgrow.cell_far _ (by simp; omega) (Ne.symm hn)).trans ((World.cell?_alloc_lt _ _ ⟨b, 0, none⟩ lb2).trans c02); have fz : w3.frozen? ⟨b, 0, none⟩ = false := (hgrow.frozen_far _ (by simp; omega) (Ne.symm hn)).trans ((World.frozen?_alloc_old _ _ ⟨b, 0, none⟩ (Nat.ne_of_lt lb2)).trans f02))
        go_ret2
        rw [HP.out]
        exact LeftR.step HB.out (HA.out w3 _ g cap hown1 hgrow (by simpa using hat) hlt)
      · have HP : Hid (delO l k = ⟨l, 0, 4⟩) := by simp [Hid, delO, HK.out, hgo, recO, hlt]
        have h1 : (1000 : Int) ≤ (l.length : Int) := by omega
        clear h hgo
        go_enter Tryz.func39, Tryz.ntmps39
        go_wp2_with (go_at_call 47; refine (refKey_b _ true _ HK.out).mono ?_; rintro e w' ⟨rfl, rfl⟩)
        refine (refRead_c b k l G _ HS.out).mono ?_
        rintro e w1 ⟨rfl, hb⟩
        rw [HR.out]
        have HB : Hid (Below w.heap.size w w1) := hb
        obtain ⟨a, cap, c0, hl1⟩ := (HS.out.below hb).slice
        have lb2 := World.block_lt_of_cell? w1 _ c0
        clear hb
        go_wp2_with fail
        go_ret2
        exact LeftR.same HS.out (HB.out.alloc HB.out.size _) HP.out
    · have HP : Hid (delO l k = ⟨l, 0, 5⟩) := by simp [Hid, delO, HK.out, hgo]
      rw [hgo] at HR
      clear hgo h
      go_enter Tryz.func39, Tryz.ntmps39
      go_wp2_with (go_at_call 47; refine (refKey_b _ true _ HK.out).mono ?_; rintro e w' ⟨rfl, rfl⟩)
      refine (refRead_c b k l G _ HS.out).mono ?_
      rintro e w1 ⟨rfl, hb⟩
      rw [HR.out]
      have HB : Hid (Below w.heap.size w w1) := hb
      clear hb
      go_wp2_with fail
      go_ret2
      exact LeftR.same HS.out (HB.out.alloc HB.out.size _) HP.out

end Go.Proofs.YtpcnfoaoajfhlaaGreatDoor
