/-
  The document's store (mereref1.Store) by its contracts: Read, Put, Delete, Swap.
-/
import Derived.Test.YtpcnfoaoajfhlaaDoorRefAM
import Derived.Deep.AppendLies
namespace Go.Proofs.YtpcnfoaoajfhlaaDoor
set_option linter.unusedVariables false
set_option linter.unusedSimpArgs false
open Go.RowKit

set_option maxHeartbeats 1000000 in
theorem refRead_c (b : Nat) (k : Int) (l : List Deed) (G : Nat → Prop) (w : World) (h : RefIs w b l G) :
    Calls Tryd.prog 54 #[.pointer (some ⟨b, 0, none⟩), .int .i64 k] w fun e w' => e = .returned (entAt l k l.length).val ∧ Below w.heap.size w w' := by
  have HS : Hid (RefIs w b l G) := h
  obtain ⟨v, c0, f0, ho, hn, hg, Gb, Gl, hl⟩ := h
  have lb := Gl b Gb
  have HV : Hid (v = .slice none 0 0 ∧ l.length = 0 ∨ ∃ g cap, v = .slice (some ⟨g, 0, none⟩) l.length cap) := by
    rcases ho.2 with ⟨rfl, h0⟩ | ⟨g, cap, cur, rfl, _, hgg, _⟩
    · exact .inl ⟨rfl, h0⟩
    · exact .inr ⟨g, cap, rfl⟩
  clear Gl Gb hg f0 ho hn
  obtain ⟨x0, x1, x2, x3, x4, HR⟩ : ∃ x0 x1 x2 x3 x4, Hid ((entAt l k l.length).val = .agg #[.int .i64 x0, .int .i64 x1, .int .i64 x2, .bool x3, .string x4]) := ⟨_, _, _, _, _, rfl⟩
  obtain ⟨a, cap, rfl⟩ : ∃ a cap, v = .slice a l.length cap := by
    rcases HV.out with ⟨rfl, h0⟩ | ⟨g, cap, rfl⟩
    · exact ⟨none, 0, by rw [h0]⟩
    · exact ⟨_, _, rfl⟩
  clear HV
  go_enter Tryd.func54, Tryd.ntmps54
  go_wp2_with fail
  refine (refAt_c b k l.length l G _ (Nat.le_refl _) (HS.out.below ((Below.refl _ _).alloc (Nat.le_refl _) _))).mono ?_
  rintro e w1 ⟨rfl, hb⟩
  rw [HR.out]
  have e0 : w1.cell? ⟨w.heap.size, 0, none⟩ = some (.int .i64 0) := (hb.cell (p := ⟨w.heap.size, 0, none⟩) (by simp)).trans (by simp)
  have e1 : w1.cell? ⟨w.heap.size, 1, none⟩ = some (.int .i64 0) := (hb.cell (p := ⟨w.heap.size, 1, none⟩) (by simp)).trans (by simp)
  have e2 : w1.cell? ⟨w.heap.size, 2, none⟩ = some (.int .i64 0) := (hb.cell (p := ⟨w.heap.size, 2, none⟩) (by simp)).trans (by simp)
  have e3 : w1.cell? ⟨w.heap.size, 3, none⟩ = some (.bool false) := (hb.cell (p := ⟨w.heap.size, 3, none⟩) (by simp)).trans (by simp)
  have e4 : w1.cell? ⟨w.heap.size, 4, none⟩ = some (.string ⟨#[]⟩) := (hb.cell (p := ⟨w.heap.size, 4, none⟩) (by simp)).trans (by simp)
  have ef : ∀ j, w1.frozen? ⟨w.heap.size, j, none⟩ = false := fun j => (hb.frozen (p := ⟨w.heap.size, j, none⟩) (by simp)).trans (by simp)
  have HBW : Hid (Below w.heap.size w w1) := ((Below.refl _ _).alloc (Nat.le_refl _) _).trans (hb.mono (by simp))
  have hz1 : w.heap.size < w1.heap.size := by have := hb.size; simp at this; omega
  clear hb
  go_wp2_with fail
  refine bodyPost_ret (v := .agg #[.int .i64 x0, .int .i64 x1, .int .i64 x2, .bool x3, .string x4]) (by simp [results, Tryd.results54, go_sem, e0, e1, e2, e3, e4]) rfl ?_
  refine ⟨by rw [HR.out], ?_⟩
  have hbw := HBW.out
  go_grown

theorem infoEnt : (Tryd.prog.info? 38).map (fun i => (i.zero, i.size, i.bytes)) = some (some (.agg #[.int .i64 0, .int .i64 0, .int .i64 0, .bool false, .string ⟨#[]⟩]), 5, 48) := by kernel_rfl

/-- what a call of the document's store leaves -/
def LeftR (b : Nat) (G : Nat → Prop) (w : World) (o : Out) (e : Ending) (w' : World) : Prop :=
  e = .returned (.tuple #[.int .i64 o.num, .int .i64 o.err]) ∧ ∃ G', RefIs w' b o.done G' ∧ (∀ c, G' c → G c ∨ w.heap.size ≤ c) ∧ Kept G w w'
theorem LeftR.same {b : Nat} {G : Nat → Prop} {w w' : World} {l : List Deed} {n : Int} {o : Out} (h : RefIs w b l G) (hb : Below w.heap.size w w') (ho : o = ⟨l, 0, n⟩) : LeftR b G w o (.returned (.tuple #[.int .i64 0, .int .i64 n])) w' := by
  subst ho
  exact ⟨rfl, G, h.below hb, fun _ hc => .inl hc, Kept.of_below hb⟩
theorem LeftR.step {b : Nat} {G : Nat → Prop} {w w1 w' : World} {o : Out} {e : Ending} (hb : Below w.heap.size w w1) (h : LeftR b G w1 o e w') : LeftR b G w o e w' := by
  obtain ⟨he, F', hs, hf, hk⟩ := h
  refine ⟨he, F', hs, fun c hc => ?_, (Kept.of_below (F := G) hb).trans hk (fun _ _ h => h)⟩
  rcases hf c hc with h | h
  · exact .inl h
  · exact .inr (Nat.le_trans hb.size h)

theorem ref_after (b : Nat) (l : List Deed) (G : Nat → Prop) (w w1 : World) (v : Value) (o : Obj) (d : Deed) (g cap : Nat) (hl1 : l.length < 1000)
    (c0 : w.cell? ⟨b, 0, none⟩ = some v) (f0 : w.frozen? ⟨b, 0, none⟩ = false) (hn : v.ownBlock ≠ some b) (hg : ∀ c, v.ownBlock = some c → G c) (Gb : G b) (Gl : ∀ c, G c → c < w.heap.size)
    (hown : w1.ownsRow 0 38 5 (.slice (some ⟨g, 0, none⟩) (l.length + 1) cap) (l.length + 1) (rowE l ++ d.cells)) (hgrow : (w.alloc o).grownBy w1 v.ownBlock) (hat : v.ownBlock = some g ∨ g = w.heap.size + 1) (hlt : g < w1.heap.size) :
    LeftR b G w ⟨l ++ [d], (l.length : Int) + 1, 0⟩ (.returned (.tuple #[.int .i64 ((l.length : Int) + 1), .int .i64 0])) (w1.setCell ⟨b, 0, none⟩ (.slice (some ⟨g, 0, none⟩) (l.length + 1) cap)) := by
  have lb := Gl b Gb
  have hs1 : w.heap.size + 1 ≤ w1.heap.size := by have := hgrow.size; simpa using this
  have gnb : g ≠ b := by
    rcases hat with h | h
    · intro e; subst e; exact hn h
    · omega
  have keep : ∀ c, c < w.heap.size → c ≠ b → v.ownBlock ≠ some c → (w1.setCell ⟨b, 0, none⟩ (.slice (some ⟨g, 0, none⟩) (l.length + 1) cap)).heap[c]? = w.heap[c]? := by
    intro c hc hcb hne
    rw [Below.heap_setCell w1 _ _ c hcb, hgrow.block c (by simp; omega) (Ne.symm hne), Below.heap_alloc _ _ c hc]
  have ob : w1.heap[b]? = w.heap[b]? := by rw [hgrow.block b (by simp; omega) (Ne.symm hn), Below.heap_alloc _ _ b lb]
  refine ⟨rfl, fun c => G c ∨ c = g, ⟨_, World.cell?_setCell_same _ _ _ ((World.cell?_of_block (a := ⟨b, 0, none⟩) ob).trans c0), ?_, ?_, by simpa [Value.ownBlock] using gnb, fun c hc => .inr (by simpa [Value.ownBlock] using hc.symm), .inl Gb, ?_, by simp; omega⟩, ?_, ?_⟩
  · rw [World.frozen?_setCell]; exact (World.frozen?_of_block (a := ⟨b, 0, none⟩) ob).trans f0
  · rw [rowE_append, List.length_append]
    have e : rowE [d] = d.cells := by simp [rowE]
    rw [e]
    refine ownsRow_blocks hown (fun g' hg' => ?_)
    obtain rfl : g = g' := by simpa [Value.ownBlock] using hg'
    exact Below.heap_setCell w1 _ _ g gnb
  · intro c hc
    rw [World.size_setCell]
    rcases hc with hc | rfl
    · have := Gl c hc; omega
    · exact hlt
  · intro c hc
    rcases hc with h | rfl
    · exact .inl h
    · rcases hat with h | h
      · exact .inl (hg _ h)
      · exact .inr (by omega)
  · exact ⟨hgrow.os, hgrow.tape, hgrow.output, by rw [World.size_setCell]; omega, fun c hc hG => keep c hc (fun e => hG (e ▸ Gb)) (fun e => hG (hg c e))⟩

set_option maxHeartbeats 1000000 in
theorem refPut_ok (b : Nat) (k : Int) (t : ByteArray) (l : List Deed) (G : Nat → Prop) (w : World) (hk : stK k = true) (ht : ¬ 12 < t.size) (hl1 : l.length < 1000) (h : RefIs w b l G) :
    Calls Tryd.prog 27 #[.pointer (some ⟨b, 0, none⟩), .int .i64 k, .string t] w (LeftR b G w ⟨l ++ [⟨k, false, t⟩], (l.length : Int) + 1, 0⟩) := by
  obtain ⟨i0, hi0, hz0, hz1, hz2⟩ := info_parts infoEnt
  have HK : Hid (stK k = true) := hk
  clear hk
  obtain ⟨v, c0, f0, ho, hn, hg, Gb, Gl, hl⟩ := h
  have lb := Gl b Gb
  have AFT := fun w1 o g cap => ref_after b l G w w1 v o ⟨k, false, t⟩ g cap hl1 c0 f0 hn hg Gb Gl
  have HA : Hid (∀ w1 o g cap, _) := AFT
  clear AFT
  have HO : Hid (w.ownsRow 0 38 5 v l.length (rowE l)) := ho
  obtain ⟨a, cap0, hv⟩ : ∃ a cap, v = .slice a l.length cap := by
    rcases ho.2 with ⟨rfl, h0⟩ | ⟨g, cap, cur, rfl, _⟩
    · exact ⟨none, 0, by rw [h0]⟩
    · exact ⟨_, _, rfl⟩
  subst hv
  clear ho
  have h12 : decide ((12 : Int) < (t.size : Int)) = false := by simp; omega
  have h1000 : decide ((1000 : Int) ≤ (l.length : Int)) = false := by simp; omega
  have ht' : t.size ≤ 12 := by omega
  go_enter Tryd.func27, Tryd.ntmps27
  go_wp2_with (first | (go_at_call 53; refine (refKey_b _ true _ HK.out).mono ?_; rintro e w' ⟨rfl, rfl⟩) | (at_builtin; refine wpList_append_lies _ (by rfl) _ _ _ (by rfl) 0 38 i0 _ 5 48 Tryd.underlying34 hi0 hz0 hz1 hz2 rfl (by omega) (.slice a l.length cap0) l.length (rowE l) (by rfl) (HO.out.alloc _) ⟨w.heap.size, 0, none⟩ 1 1 [.int .i64 k, .int .i64 0, .int .i64 0, .bool false, .string t] (by rfl) (by rfl) (World.news_of_block (cs := #[.int .i64 k, .int .i64 0, .int .i64 0, .bool false, .string t]) (t := 38) (fr := (0, 0)) (heap_alloc_new w _)) (by simp [Value.oneCell']) (by omega) (by unfold maxLen; omega) (by omega) (by simp) (w.heap.size + 1) (by simp) ?_; intro g cap w1 hown1 hgrow hat hlt; have cz : w1.cell? ⟨b, 0, none⟩ = some (.slice a l.length cap0) := (hgrow.cell_far _ (by simp; omega) (Ne.symm hn)).trans ((World.cell?_alloc_lt _ _ ⟨b, 0, none⟩ lb).trans c0); have fz : w1.frozen? ⟨b, 0, none⟩ = false := (hgrow.frozen_far _ (by simp; omega) (Ne.symm hn)).trans ((World.frozen?_alloc_old _ _ ⟨b, 0, none⟩ (Nat.ne_of_lt lb)).trans f0)))
  go_ret2
  exact HA.out w1 _ g cap hown1 hgrow hat hlt
end Go.Proofs.YtpcnfoaoajfhlaaDoor
