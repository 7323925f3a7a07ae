/-
  package store: record, by its contract.
-/
import Derived.Test.YtpcnfoaoajfhlaaDoorStM
import Derived.Deep.RegionLaw
import Derived.BigRegion
import Derived.Deep.AppendLies
import Derived.Deep.DrawnRows
namespace Go.Proofs.YtpcnfoaoajfhlaaDoor
set_option linter.unusedVariables false
set_option linter.unusedSimpArgs false
open Go.RowKit
attribute [local go_sem ↓] Go.wp_at_zero Go.wp_at_succ

theorem infoChg : (Tryd.prog.info? 136).map (fun i => (i.zero, i.size, i.bytes)) = some (some (.agg #[.int .i64 0, .bool false, .string ⟨#[]⟩]), 3, 32) := by kernel_rfl

set_option maxRecDepth 100000 in
set_option maxHeartbeats 3200000 in
theorem record_w (b k : Nat) (gone : Bool) (text : ByteArray) (seq : Nat) (l : List Chg) (v : Value) (w : World)
    (hk8 : k < 8) (hs : seq < 1000) (c0 : w.cell? ⟨b, 0, none⟩ = some (.int .i64 seq)) (f0 : w.frozen? ⟨b, 0, none⟩ = false)
    (ck : w.cell? ⟨b, 1 + k, none⟩ = some v) (fk : w.frozen? ⟨b, 1 + k, none⟩ = false)
    (ho : w.ownsRow 0 136 3 v l.length (rowOf l)) (hl : l.length ≤ seq) (hne : v.ownBlock ≠ some b) :
    Calls Tryd.prog 60 #[.pointer (some ⟨b, 0, none⟩), .int .i64 k, .bool gone, .string text] w fun e w' =>
      e = .returned (.tuple #[.int .i64 (seq + 1), .nilIface]) ∧ ∃ g cap w1, w'.heap = (w1.setCell ⟨b, 1 + k, none⟩ (.slice (some ⟨g, 0, none⟩) (l.length + 1) cap)).heap ∧ w'.os = w.os ∧ w'.tape = w.tape ∧ w'.output = w.output ∧
        w1.ownsRow 0 136 3 (.slice (some ⟨g, 0, none⟩) (l.length + 1) cap) (l.length + 1) (rowOf l ++ [.int .i64 (seq + 1), .bool gone, .string text]) ∧
        ((w.setCell ⟨b, 0, none⟩ (.int .i64 (seq + 1))).alloc (.cells #[.int .i64 (seq + 1), .bool gone, .string text] 136)).drew.grownBy w1 v.ownBlock ∧ (v.ownBlock = some g ∨ g = w.heap.size + 1) ∧ g < w1.heap.size := by
  obtain ⟨i0, hi0, hz0, hz1, hz2⟩ := info_parts infoChg
  have lb := World.block_lt_of_cell? w _ c0
  have h1 : (0 : Int) ≤ (k : Int) := by omega
  have h2 : (k : Int) < 8 := by omega
  have h3 : (0 : Int) ≤ (seq : Int) := by omega
  have h4 : (seq : Int) < 1000 := by omega
  have HO : Hid (w.ownsRow 0 136 3 v l.length (rowOf l)) := ho
  clear ho
  go_enter Tryd.func60, Tryd.ntmps60
  go_wp2_with fail
  have d0 : (w.setCell ⟨b, 0, none⟩ (.int .i64 ((seq : Int) + 1))).cell? ⟨b, 0, none⟩ = some (.int .i64 ((seq : Int) + 1)) := World.cell?_setCell_same _ _ _ c0
  have dk : (w.setCell ⟨b, 0, none⟩ (.int .i64 ((seq : Int) + 1))).cell? ⟨b, 1 + k, none⟩ = some v := by rw [World.cell?_setCell_other _ _ _ _ (by simp)]; exact ck
  have gk : (w.setCell ⟨b, 0, none⟩ (.int .i64 ((seq : Int) + 1))).frozen? ⟨b, 1 + k, none⟩ = false := by rw [World.frozen?_setCell]; exact fk
  have lW : b < (w.setCell ⟨b, 0, none⟩ (.int .i64 ((seq : Int) + 1))).heap.size := by rw [World.size_setCell]; exact lb
  have oW : (w.setCell ⟨b, 0, none⟩ (.int .i64 ((seq : Int) + 1))).ownsRow 0 136 3 v l.length (rowOf l)  := by
    refine World.ownsRow.kept (row := some b) HO.out ⟨rfl, rfl, rfl, by simp, fun c _ hcb => ?_⟩ (Or.inr hne)
    exact Below.heap_setCell w _ _ c (fun h => hcb (by simp [h]))
  generalize hW : w.setCell ⟨b, 0, none⟩ (.int .i64 ((seq : Int) + 1)) = W at d0 dk gk lW oW ⊢
  have HW : Hid (w.setCell ⟨b, 0, none⟩ (.int .i64 ((seq : Int) + 1)) = W) := hW
  clear hW c0 f0 ck fk HO
  have OW : Hid (W.ownsRow 0 136 3 v l.length (rowOf l)) := oW
  clear oW
  go_region_law
    ((refine step_append_lies _ (by rfl) _ _ _ (by rfl) 0 136 i0 _ 3 32 Tryd.underlying104 hi0 hz0 hz1 hz2 rfl (by omega) v l.length (rowOf l) (by rfl) ((OW.out.alloc _).drew)
        ⟨W.heap.size, 0, none⟩ 1 1 [.int .i64 ((seq : Int) + 1), .bool gone, .string text] (by rfl) (by rfl) (World.news_of_block (cs := #[.int .i64 ((seq : Int) + 1), .bool gone, .string text]) (t := 136) (fr := (0, 0)) (heap_alloc_new W _)) (by simp [Value.oneCell'])
        (by omega) (by unfold maxLen; omega) (by omega) (by simp) (W.heap.size + 1) (by simp) ?_; intro g cap w1 hown1 hgrow hat hlt; have fz : w1.frozen? ⟨b, 1 + k, none⟩ = false := (hgrow.frozen_far _ (by simp; omega) (Ne.symm hne)).trans ((World.frozen?_alloc_old _ _ ⟨b, 1 + k, none⟩ (Nat.ne_of_lt lW)).trans gk); have cz : w1.cell? ⟨b, 1 + k, none⟩ = some v := (hgrow.cell_far _ (by simp; omega) (Ne.symm hne)).trans ((World.cell?_alloc_lt _ _ ⟨b, 1 + k, none⟩ lW).trans dk); have cy : w1.cell? ⟨b, 0, none⟩ = some (.int .i64 ((seq : Int) + 1)) := (hgrow.cell_far _ (by simp; omega) (Ne.symm hne)).trans ((World.cell?_alloc_lt _ _ ⟨b, 0, none⟩ lW).trans d0)))
  all_goals go_wp2
  all_goals go_ret2
  all_goals
    obtain rfl := HW.out
    exact ⟨rfl, g, cap, w1, rfl, hgrow.os, hgrow.tape, hgrow.output, hown1, hgrow, by simpa using hat, hlt⟩
end Go.Proofs.YtpcnfoaoajfhlaaDoor
