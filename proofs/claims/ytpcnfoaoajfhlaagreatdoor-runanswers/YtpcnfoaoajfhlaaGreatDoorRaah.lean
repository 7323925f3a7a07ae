/-
  plain.Told and meresame.Error by their contracts, where the error is nil or an api.Errno: Told gives 0, or the number; Error tells whether that is the number asked for; nothing old in memory turns.
  package store, function by function: isKey, checkPut, changeAt.
  package store: record, by its contract.
  package store by its contracts: a store in memory that holds what was done ('StoreIs'); put, delete, swap, at, read, seq and new do what the plain functions say, and write nothing but the store's own blocks.
-/
import Derived.Test.YtpcnfoaoajfhlaaGreatDoorRaag
import Derived.Test.YtpcnfoaoajfhlaaGreatDoorRows
import Derived.WalkKit
import Derived.RowKitTokens
import Derived.Handy
import Derived.Test.YtpcnfoaoajfhlaaGreatDoorRaaa
import Derived.Deep.RegionLaw
import Derived.BigRegion
import Derived.Deep.AppendLies
import Derived.Deep.DrawnRows
namespace Go.Proofs.YtpcnfoaoajfhlaaGreatDoor
set_option linter.unusedVariables false
set_option linter.unusedSimpArgs false
set_option linter.unusedVariables false
set_option linter.unusedSimpArgs false
open Go.RowKit Go.Extern.Stop Go.Stop Go.Extern

set_option maxHeartbeats 4000000 in
theorem as_hit (n : Int) (t : Addr) (old : Value) (w : World) (hg : w.cell? ⟨0, 0, none⟩ = some (.iface 242 (.agg #[.pointer (some ⟨7, 26, none⟩)]))) (ht0 : w.cell? t = some old) (hf0 : w.frozen? t = false) :
    Calls Tryz.prog 90 #[.iface 85 (.int .i64 n), .iface 153 (.pointer (some t))] w fun ev w' => ev = .returned (.bool true) ∧ w' = ((((w.alloc (.cells #[.pointer (some t)] 153)).alloc (.cells #[.pointer (some ⟨7, 153, none⟩), .pointer (some ⟨w.heap.size, 0, none⟩), .int .u64 150] 198)).alloc (.cells #[.pointer (some ⟨7, 153, none⟩), .pointer (some ⟨w.heap.size, 0, none⟩), .int .u64 150] 198)).alloc (.cells #[.int .i64 n] 85)).setCell t (.int .i64 n) := by
  have h6 := @run_callFunc_extern Tryz.prog 134 _ (fun args => ReflectliteValue.unpack (args.getD 0 (.tuple #[]))) Tryz.func134 (by kernel_rfl) (by kernel_rfl) (by kernel_rfl) (by kernel_rfl)
  have h7 := @run_callFunc_extern Tryz.prog 135 _ (ReflectliteValue.methodAny (ReflectliteValue.valueError "reflectlite.Value.Type" 0) (fun t _ _ _ => ReflectliteType.toType t)) Tryz.func135 (by kernel_rfl) (by kernel_rfl) (by kernel_rfl) (by kernel_rfl)
  have h8 := @run_callFunc_extern Tryz.prog 136 _ (ReflectliteValue.method (ReflectliteValue.valueError "reflectlite.Value.IsNil" 0) ReflectliteValue.isNil) Tryz.func136 (by kernel_rfl) (by kernel_rfl) (by kernel_rfl) (by kernel_rfl)
  have h27 := @run_callFunc_extern Tryz.prog 243 _ (ReflectliteType.abiMethod fun t => do pure (.int .u8 (← Rtype.kind t))) Tryz.func243 (by kernel_rfl) (by kernel_rfl) (by kernel_rfl) (by kernel_rfl)
  have h37 := @run_callFunc_extern Tryz.prog 254 _ (ReflectliteType.method ReflectliteType.elem) Tryz.func254 (by kernel_rfl) (by kernel_rfl) (by kernel_rfl) (by kernel_rfl)
  have h38 := @run_callFunc_extern Tryz.prog 255 _ (ReflectliteType.relation "Implements" ReflectliteType.implements_) Tryz.func255 (by kernel_rfl) (by kernel_rfl) (by kernel_rfl) (by kernel_rfl)
  have h10 := @run_callFunc_extern Tryz.prog 177 _ ReflectliteType.typeOf Tryz.func177 (by kernel_rfl) (by kernel_rfl) (by kernel_rfl) (by kernel_rfl)
  have h35 := @run_callFunc_extern Tryz.prog 252 _ (ReflectliteType.relation "AssignableTo" ReflectliteType.assignableTo) Tryz.func252 (by kernel_rfl) (by kernel_rfl) (by kernel_rfl) (by kernel_rfl)
  have h11 := @run_callFunc_extern Tryz.prog 178 _ (ReflectliteValue.method (ReflectliteValue.valueError "reflectlite.Value.Elem" 0) ReflectliteValue.elem) Tryz.func178 (by kernel_rfl) (by kernel_rfl) (by kernel_rfl) (by kernel_rfl)
  have h12 := @run_callFunc_extern Tryz.prog 179 _ ReflectliteValue.set Tryz.func179 (by kernel_rfl) (by kernel_rfl) (by kernel_rfl) (by kernel_rfl)
  have tO := as_typeOfE
  have mA := as_methodAssignableTo
  have a25 := as_assignableE
  have v25 := as_valueOfE
  have f6 := as_valueOfP
  have f7 := as_typeP
  have mK := as_methodKind
  have mE := as_methodElem
  have mI := as_methodImplements
  have k27 := as_kindP
  have k25 := as_kindE
  have e27 := as_elemP
  have i25 := as_implementsE
  have n8 := as_isNilP ⟨w.heap.size, 0, none⟩ t ((w.alloc (.cells #[.pointer (some t)] 153)).alloc (.cells #[.pointer (some ⟨7, 153, none⟩), .pointer (some ⟨w.heap.size, 0, none⟩), .int .u64 150] 198)) (by simp)
  have hlt : 0 < w.heap.size := by
    rcases Nat.eq_zero_or_pos w.heap.size with h0 | h
    · simp [World.cell?, h0] at hg
    · exact h
  have hg2 : ((w.alloc (.cells #[.pointer (some t)] 153)).alloc (.cells #[.pointer (some ⟨7, 153, none⟩), .pointer (some ⟨w.heap.size, 0, none⟩), .int .u64 150] 198)).cell? ⟨0, 0, none⟩ = some (.iface 242 (.agg #[.pointer (some ⟨7, 26, none⟩)])) := by
    rw [World.cell?_alloc_lt _ _ ⟨0, 0, none⟩ (by simp), World.cell?_alloc_lt _ _ ⟨0, 0, none⟩ hlt]; exact hg
  have htl : t.block < w.heap.size := by
    rcases Nat.lt_or_ge t.block w.heap.size with h | h
    · exact h
    · simp [World.cell?, Array.getElem?_eq_none h] at ht0
  have el := as_elemVP ⟨w.heap.size, 0, none⟩ t (((w.alloc (.cells #[.pointer (some t)] 153)).alloc (.cells #[.pointer (some ⟨7, 153, none⟩), .pointer (some ⟨w.heap.size, 0, none⟩), .int .u64 150] 198)).alloc (.cells #[.pointer (some ⟨7, 153, none⟩), .pointer (some ⟨w.heap.size, 0, none⟩), .int .u64 150] 198)) (by rw [World.cell?_alloc_lt _ _ ⟨w.heap.size, 0, none⟩ (by simp; omega)]; simp)
  have st := as_setE t ⟨w.heap.size + 1 + 1 + 1, 0, none⟩ n old ((((w.alloc (.cells #[.pointer (some t)] 153)).alloc (.cells #[.pointer (some ⟨7, 153, none⟩), .pointer (some ⟨w.heap.size, 0, none⟩), .int .u64 150] 198)).alloc (.cells #[.pointer (some ⟨7, 153, none⟩), .pointer (some ⟨w.heap.size, 0, none⟩), .int .u64 150] 198)).alloc (.cells #[.int .i64 n] 85))
    (by rw [World.cell?_alloc_at _ _ _ _ (by simp)]; rfl)
    (by rw [World.cell?_alloc_lt _ _ t (by simp; omega), World.cell?_alloc_lt _ _ t (by simp; omega), World.cell?_alloc_lt _ _ t (by simp; omega), World.cell?_alloc_lt _ _ t htl]; exact ht0)
    (by rw [World.frozen?_alloc_old _ _ t (by simp; omega), World.frozen?_alloc_old _ _ t (by simp; omega), World.frozen?_alloc_old _ _ t (by simp; omega), World.frozen?_alloc_old _ _ t (Nat.ne_of_lt htl)]; exact hf0)
  go_enter Tryz.func90, Tryz.ntmps90
  go_wp2
  refine wp_loop_rounds 1 ?_
  rw [rounds_succ]
  go_wp2
  go_ret
  exact ⟨rfl, rfl⟩
theorem told_nil (w : World) : Calls Tryz.prog 38 #[.nilIface] w fun e w' => e = .returned (.int .i64 0) ∧ w' = w := by
  go_enter Tryz.func38, Tryz.ntmps38
  go_wp2
  go_ret
  exact ⟨rfl, rfl⟩

/-- package errors' variable errorType, as the program's text lays it -/
def HasErr (w : World) : Prop := w.cell? ⟨0, 0, none⟩ = some (.iface 242 (.agg #[.pointer (some ⟨7, 26, none⟩)]))
theorem HasErr.lt {w : World} (h : HasErr w) : 0 < w.heap.size := by
  unfold HasErr at h
  rcases Nat.eq_zero_or_pos w.heap.size with h0 | h1
  · simp [World.cell?, h0] at h
  · exact h1
theorem HasErr.of_block {w w' : World} (h : HasErr w) (hb : w'.heap[0]? = w.heap[0]?) : HasErr w' :=
  (World.cell?_of_block (a := ⟨0, 0, none⟩) hb).trans h
theorem HasErr.below {w w' : World} {B : Nat} (h : HasErr w) (hB : 0 < B) (hb : Below B w w') : HasErr w' := h.of_block (hb.block 0 hB)

set_option maxHeartbeats 1000000 in
theorem told_err (n : Int) (w : World) (hg : HasErr w) : Calls Tryz.prog 38 #[.iface 85 (.int .i64 n)] w fun e w' => e = .returned (.int .i64 n) ∧ Below w.heap.size w w' := by
  have hlt := hg.lt
  have H1 : Hid (HasErr (w.alloc (.cells #[.int .i64 0] 85))) := hg.below hlt ((Below.refl _ _).alloc (Nat.le_refl _) _)
  clear hg
  go_enter Tryz.func38, Tryz.ntmps38
  go_wp2_with (go_at_call 90; refine (as_hit n ⟨w.heap.size, 0, none⟩ (.int .i64 0) _ H1.out (by simp) (by simp)).mono ?_; rintro e w' ⟨rfl, rfl⟩)
  go_ret
  exact ⟨rfl, by go_grown⟩

theorem error_nil (m : Int) (w : World) : Calls Tryz.prog 8 #[.nilIface, .int .i64 m] w fun e w' => e = .returned (.bool (0 == m)) ∧ w' = w := by
  go_enter Tryz.func8, Tryz.ntmps8
  go_wp2_with (go_at_call 38; refine (told_nil _).mono ?_; rintro e w' ⟨rfl, rfl⟩)
  go_ret
  exact ⟨rfl, rfl⟩
theorem error_err (n m : Int) (w : World) (hg : HasErr w) : Calls Tryz.prog 8 #[.iface 85 (.int .i64 n), .int .i64 m] w fun e w' => e = .returned (.bool (n == m)) ∧ Below w.heap.size w w' := by
  have H1 : Hid (HasErr w) := hg
  clear hg
  go_enter Tryz.func8, Tryz.ntmps8
  go_wp2_with (go_at_call 38; refine (told_err n _ H1.out).mono ?_; rintro e w' ⟨rfl, hb⟩)
  go_ret
  exact ⟨rfl, hb⟩

end Go.Proofs.YtpcnfoaoajfhlaaGreatDoor

namespace Go.Proofs.YtpcnfoaoajfhlaaGreatDoor
set_option linter.unusedVariables false
set_option linter.unusedSimpArgs false
open Go.RowKit

theorem stKey_c (k : Int) (w : World) : Calls Tryz.prog 95 #[.int .i64 k] w fun e w' => e = .returned (.bool (decide (0 ≤ k) && decide (k < 8))) ∧ w' = w := by
  by_cases h : 0 ≤ k
  · have hd : decide (0 ≤ k) = true := by simpa using h
    go_enter Tryz.func95, Tryz.ntmps95
    go_wp2
    go_ret
    exact ⟨by simp [h], rfl⟩
  · have hd : decide (0 ≤ k) = false := by simpa using h
    go_enter Tryz.func95, Tryz.ntmps95
    go_wp2
    go_ret
    exact ⟨by simp [h], rfl⟩

set_option maxHeartbeats 400000 in
theorem changeAt_c (b k : Nat) (seq : Int) (l : List Chg) (v : Value) (w : World) (base : Nat) (hk8 : k < 8) (hc : w.cell? ⟨b, 1 + k, none⟩ = some v)
    (ho : w.ownsRow base 160 3 v l.length (rowOf l)) (hl : l.length ≤ 1000) :
    Calls Tryz.prog 96 #[.pointer (some ⟨b, 0, none⟩), .int .i64 k, .int .i64 seq] w fun e w' => e = .returned (pick l seq).val ∧ Below w.heap.size w w' := by
  have hbl : b < w.heap.size := World.block_lt_of_cell? w _ hc
  have h1 : (0 : Int) ≤ (k : Int) := by omega
  have h2 : (k : Int) < 8 := by omega
  rcases ho.2 with ⟨rfl, hn⟩ | ⟨g, cap, cur, rfl, hb, hg, hnc, hcm, hcs, htake⟩
  · obtain rfl : l = [] := List.eq_nil_of_length_eq_zero hn
    clear ho hn hl
    go_enter Tryz.func96, Tryz.ntmps96
    go_wp2_with fail
    refine wp_loop_rounds 1 ?_
    rw [rounds_succ]
    go_wp2
    go_returns
    exact ⟨rfl, by go_grown⟩
  · have hcell : ∀ j u, (rowOf l)[j]? = some u → w.cell? ⟨g, j, none⟩ = some u := fun j u hu => by
      have := ho.cells (g := g) rfl j u hu
      simpa [Addr.add_lit] using this
    have hgl : g < w.heap.size := (Array.getElem?_eq_some_iff.1 hg).1
    have HC : Hid (∀ j u, (rowOf l)[j]? = some u → w.cell? ⟨g, j, none⟩ = some u) := hcell
    clear hcell ho hg htake hcs hcm
    go_enter Tryz.func96, Tryz.ntmps96
    go_wp2_with fail
    go_loop [8] (fun i => ∃ m : Int, -1 ≤ m ∧ m < l.length ∧ i = .int .i64 m ∧ Hid (pick l seq = pick (l.take (m + 1).toNat) seq)) (fun i => (intOf i + 1).toNat)
    case atStart => exact ⟨_, by omega, by omega, rfl, by unfold Hid; rw [List.take_of_length_le (by omega)]⟩
    case round =>
      obtain ⟨m, hm1, hm2, rfl, HP⟩ := hrel
      by_cases h0 : 0 ≤ m
      · obtain ⟨j, rfl⟩ := Int.eq_ofNat_of_zero_le h0
        have hj : j < l.length := by omega
        have hts : Hid (l.take ((j : Int) + 1).toNat = l.take j ++ [l[j]]) := by
          unfold Hid
          rw [show ((j : Int) + 1).toNat = j + 1 by omega, List.take_succ_eq_append_getElem hj]
        have hgg := rowOf_get l j hj
        have hc0 := HC.out _ _ hgg.1
        have hc1 := HC.out _ _ hgg.2.1
        have hc2 := HC.out _ _ hgg.2.2
        clear hgg
        by_cases hle : l[j].ver ≤ seq
        · have hfin : Hid (pick l seq = l[j]) := by unfold Hid; rw [HP.out, hts.out]; exact pick_snoc_le _ _ _ hle
          clear HP hts
          go_wp2
          go_returns
          exact ⟨by rw [hfin.out]; rfl, by go_grown⟩
        · have hfin : Hid (pick l seq = pick (l.take j) seq) := by unfold Hid; rw [HP.out, hts.out]; exact pick_snoc_gt _ _ _ hle
          clear HP hts
          go_wp2
          go_round
          case rel => exact ⟨_, by omega, by omega, rfl, by unfold Hid; rw [hfin.out]; congr; omega⟩
          case measure => simp [intOf]
      · have hfin : Hid (pick l seq = none0) := by
          unfold Hid; rw [HP.out, show (m + 1).toNat = 0 by omega]; rfl
        go_wp2
        go_returns
        exact ⟨by rw [hfin.out]; rfl, by go_grown⟩
end Go.Proofs.YtpcnfoaoajfhlaaGreatDoor

namespace Go.Proofs.YtpcnfoaoajfhlaaGreatDoor
set_option linter.unusedVariables false
set_option linter.unusedSimpArgs false
open Go.RowKit
attribute [local go_sem ↓] Go.wp_at_zero Go.wp_at_succ

theorem infoChg : (Tryz.prog.info? 160).map (fun i => (i.zero, i.size, i.bytes)) = some (some (.agg #[.int .i64 0, .bool false, .string ⟨#[]⟩]), 3, 32) := by kernel_rfl

set_option maxRecDepth 100000 in
set_option maxHeartbeats 3200000 in
theorem record_w (b k : Nat) (gone : Bool) (text : ByteArray) (seq : Nat) (l : List Chg) (v : Value) (w : World)
    (hk8 : k < 8) (hs : seq < 1000) (c0 : w.cell? ⟨b, 0, none⟩ = some (.int .i64 seq)) (f0 : w.frozen? ⟨b, 0, none⟩ = false)
    (ck : w.cell? ⟨b, 1 + k, none⟩ = some v) (fk : w.frozen? ⟨b, 1 + k, none⟩ = false)
    (ho : w.ownsRow 0 160 3 v l.length (rowOf l)) (hl : l.length ≤ seq) (hne : v.ownBlock ≠ some b) :
    Calls Tryz.prog 94 #[.pointer (some ⟨b, 0, none⟩), .int .i64 k, .bool gone, .string text] w fun e w' =>
      e = .returned (.tuple #[.int .i64 (seq + 1), .nilIface]) ∧ ∃ g cap w1, w'.heap = (w1.setCell ⟨b, 1 + k, none⟩ (.slice (some ⟨g, 0, none⟩) (l.length + 1) cap)).heap ∧ w'.os = w.os ∧ w'.tape = w.tape ∧ w'.output = w.output ∧
        w1.ownsRow 0 160 3 (.slice (some ⟨g, 0, none⟩) (l.length + 1) cap) (l.length + 1) (rowOf l ++ [.int .i64 (seq + 1), .bool gone, .string text]) ∧
        ((w.setCell ⟨b, 0, none⟩ (.int .i64 (seq + 1))).alloc (.cells #[.int .i64 (seq + 1), .bool gone, .string text] 160)).drew.grownBy w1 v.ownBlock ∧ (v.ownBlock = some g ∨ g = w.heap.size + 1) ∧ g < w1.heap.size := by
  obtain ⟨i0, hi0, hz0, hz1, hz2⟩ := info_parts infoChg
  have lb := World.block_lt_of_cell? w _ c0
  have h1 : (0 : Int) ≤ (k : Int) := by omega
  have h2 : (k : Int) < 8 := by omega
  have h3 : (0 : Int) ≤ (seq : Int) := by omega
  have h4 : (seq : Int) < 1000 := by omega
  have HO : Hid (w.ownsRow 0 160 3 v l.length (rowOf l)) := ho
  clear ho
  go_enter Tryz.func94, Tryz.ntmps94
  go_wp2_with fail
  have d0 : (w.setCell ⟨b, 0, none⟩ (.int .i64 ((seq : Int) + 1))).cell? ⟨b, 0, none⟩ = some (.int .i64 ((seq : Int) + 1)) := World.cell?_setCell_same _ _ _ c0
  have dk : (w.setCell ⟨b, 0, none⟩ (.int .i64 ((seq : Int) + 1))).cell? ⟨b, 1 + k, none⟩ = some v := by rw [World.cell?_setCell_other _ _ _ _ (by simp)]; exact ck
  have gk : (w.setCell ⟨b, 0, none⟩ (.int .i64 ((seq : Int) + 1))).frozen? ⟨b, 1 + k, none⟩ = false := by rw [World.frozen?_setCell]; exact fk
  have lW : b < (w.setCell ⟨b, 0, none⟩ (.int .i64 ((seq : Int) + 1))).heap.size := by rw [World.size_setCell]; exact lb
  have oW : (w.setCell ⟨b, 0, none⟩ (.int .i64 ((seq : Int) + 1))).ownsRow 0 160 3 v l.length (rowOf l)  := by
    refine World.ownsRow.kept (row := some b) HO.out ⟨rfl, rfl, rfl, by simp, fun c _ hcb => ?_⟩ (Or.inr hne)
    exact Below.heap_setCell w _ _ c (fun h => hcb (by simp [h]))
  generalize hW : w.setCell ⟨b, 0, none⟩ (.int .i64 ((seq : Int) + 1)) = W at d0 dk gk lW oW ⊢
  have HW : Hid (w.setCell ⟨b, 0, none⟩ (.int .i64 ((seq : Int) + 1)) = W) := hW
  clear hW c0 f0 ck fk HO
  have OW : Hid (W.ownsRow 0 160 3 v l.length (rowOf l)) := oW
  clear oW
  go_region_law
    ((refine step_append_lies _ (by rfl) _ _ _ (by rfl) 0 160 i0 _ 3 32 Tryz.underlying148 hi0 hz0 hz1 hz2 rfl (by omega) v l.length (rowOf l) (by rfl) ((OW.out.alloc _).drew)
        ⟨W.heap.size, 0, none⟩ 1 1 [.int .i64 ((seq : Int) + 1), .bool gone, .string text] (by rfl) (by rfl) (World.news_of_block (cs := #[.int .i64 ((seq : Int) + 1), .bool gone, .string text]) (t := 160) (fr := (0, 0)) (heap_alloc_new W _)) (by simp [Value.oneCell'])
        (by omega) (by unfold maxLen; omega) (by omega) (by simp) (W.heap.size + 1) (by simp) ?_; intro g cap w1 hown1 hgrow hat hlt; have fz : w1.frozen? ⟨b, 1 + k, none⟩ = false := (hgrow.frozen_far _ (by simp; omega) (Ne.symm hne)).trans ((World.frozen?_alloc_old _ _ ⟨b, 1 + k, none⟩ (Nat.ne_of_lt lW)).trans gk); have cz : w1.cell? ⟨b, 1 + k, none⟩ = some v := (hgrow.cell_far _ (by simp; omega) (Ne.symm hne)).trans ((World.cell?_alloc_lt _ _ ⟨b, 1 + k, none⟩ lW).trans dk); have cy : w1.cell? ⟨b, 0, none⟩ = some (.int .i64 ((seq : Int) + 1)) := (hgrow.cell_far _ (by simp; omega) (Ne.symm hne)).trans ((World.cell?_alloc_lt _ _ ⟨b, 0, none⟩ lW).trans d0)))
  all_goals go_wp2
  all_goals go_ret2
  all_goals
    obtain rfl := HW.out
    exact ⟨rfl, g, cap, w1, rfl, hgrow.os, hgrow.tape, hgrow.output, hown1, hgrow, by simpa using hat, hlt⟩
end Go.Proofs.YtpcnfoaoajfhlaaGreatDoor

namespace Go.Proofs.YtpcnfoaoajfhlaaGreatDoor
set_option linter.unusedVariables false
set_option linter.unusedSimpArgs false
open Go.RowKit

/-- nothing but the blocks in F has turned -/
structure Kept (F : Nat → Prop) (w w' : World) : Prop where
  os : w'.os = w.os
  tape : w'.tape = w.tape
  output : w'.output = w.output
  size : w.heap.size ≤ w'.heap.size
  block : ∀ c, c < w.heap.size → ¬ F c → w'.heap[c]? = w.heap[c]?
theorem Kept.refl (F : Nat → Prop) (w : World) : Kept F w w := ⟨rfl, rfl, rfl, Nat.le_refl _, fun _ _ _ => rfl⟩
theorem Kept.trans {F G : Nat → Prop} {a b c : World} (h : Kept F a b) (k : Kept G b c) (hG : ∀ x, x < a.heap.size → G x → F x) : Kept F a c :=
  ⟨k.os.trans h.os, k.tape.trans h.tape, k.output.trans h.output, Nat.le_trans h.size k.size, fun x hx hF => (k.block x (Nat.lt_of_lt_of_le hx h.size) (fun g => hF (hG x hx g))).trans (h.block x hx hF)⟩
theorem Kept.of_below {F : Nat → Prop} {w w' : World} (h : Below w.heap.size w w') : Kept F w w' :=
  ⟨h.os, h.tape, h.output, h.size, fun c hc _ => h.block c hc⟩
theorem Kept.below {F : Nat → Prop} {w w' : World} {B : Nat} (h : Kept F w w') (hB : B ≤ w.heap.size) (hF : ∀ c, F c → B ≤ c) : Below B w w' :=
  ⟨h.os, h.tape, h.output, h.size, fun c hc => h.block c (Nat.lt_of_lt_of_le hc hB) (fun f => by have := hF c f; omega)⟩
theorem Kept.mono {F G : Nat → Prop} {w w' : World} (h : Kept F w w') (hG : ∀ x, F x → G x) : Kept G w w' :=
  ⟨h.os, h.tape, h.output, h.size, fun c hc hg => h.block c hc (fun f => hg (hG c f))⟩
theorem Kept.cell {F : Nat → Prop} {w w' : World} (h : Kept F w w') (a : Addr) (ha : a.block < w.heap.size) (hF : ¬ F a.block) : w'.cell? a = w.cell? a := World.cell?_of_block (h.block a.block ha hF)
theorem Kept.frozen {F : Nat → Prop} {w w' : World} (h : Kept F w w') (a : Addr) (ha : a.block < w.heap.size) (hF : ¬ F a.block) : w'.frozen? a = w.frozen? a := World.frozen?_of_block (h.block a.block ha hF)
theorem HasErr.kept {F : Nat → Prop} {w w' : World} (h : HasErr w) (k : Kept F w w') (hF : ¬ F 0) : HasErr w' := h.of_block (k.block 0 h.lt hF)

theorem ownsRow_blocks {w w' : World} {base : Nat} {e : TypeId} {size : Nat} {v : Value} {n : Nat} {xs : List Value} (h : w.ownsRow base e size v n xs) (hb : ∀ g, v.ownBlock = some g → w'.heap[g]? = w.heap[g]?) : w'.ownsRow base e size v n xs := by
  refine ⟨h.1, ?_⟩
  rcases h.2 with hn | ⟨g, cap, cur, rfl, h1, hg, rest⟩
  · exact .inl hn
  · exact .inr ⟨g, cap, cur, rfl, h1, (hb g rfl).trans hg, rest⟩
theorem cell_heap {w w' : World} (h : w'.heap = w.heap) (a : Addr) : w'.cell? a = w.cell? a := World.cell?_of_block (by rw [h])
theorem frozen_heap {w w' : World} (h : w'.heap = w.heap) (a : Addr) : w'.frozen? a = w.frozen? a := World.frozen?_of_block (by rw [h])

/-- a store at block b that holds what was done; its blocks are in F -/
def StoreIs (w : World) (b : Nat) (l : List Deed) (F : Nat → Prop) : Prop :=
  w.cell? ⟨b, 0, none⟩ = some (.int .i64 l.length) ∧ w.frozen? ⟨b, 0, none⟩ = false ∧ l.length ≤ 1000 ∧ F b ∧ (∀ c, F c → c < w.heap.size) ∧
  ∃ V : Nat → Value, (∀ k, k < 8 → w.cell? ⟨b, 1 + k, none⟩ = some (V k) ∧ w.frozen? ⟨b, 1 + k, none⟩ = false ∧ w.ownsRow 0 160 3 (V k) (pastOf l k).length (rowOf (pastOf l k)) ∧ (V k).ownBlock ≠ some b ∧ ∀ c, (V k).ownBlock = some c → F c) ∧
    ∀ j k, j < 8 → k < 8 → j ≠ k → ∀ c, (V j).ownBlock = some c → (V k).ownBlock ≠ some c

theorem StoreIs.blocks {w w' : World} {b : Nat} {l : List Deed} {F : Nat → Prop} (h : StoreIs w b l F) (hs : w.heap.size ≤ w'.heap.size) (hb : ∀ c, F c → w'.heap[c]? = w.heap[c]?) : StoreIs w' b l F := by
  obtain ⟨c0, f0, hl, Fb, Fl, V, hV, hd⟩ := h
  have eb := hb b Fb
  refine ⟨(World.cell?_of_block (a := ⟨b, 0, none⟩) eb).trans c0, (World.frozen?_of_block (a := ⟨b, 0, none⟩) eb).trans f0, hl, Fb, fun c hc => Nat.lt_of_lt_of_le (Fl c hc) hs, V, fun k hk => ?_, hd⟩
  obtain ⟨a1, a2, a3, a4, a5⟩ := hV k hk
  exact ⟨(World.cell?_of_block (a := ⟨b, 1 + k, none⟩) eb).trans a1, (World.frozen?_of_block (a := ⟨b, 1 + k, none⟩) eb).trans a2, ownsRow_blocks a3 (fun g hg => hb g (a5 g hg)), a4, a5⟩
theorem StoreIs.below {w w' : World} {b : Nat} {l : List Deed} {F : Nat → Prop} (h : StoreIs w b l F) (hb : Below w.heap.size w w') : StoreIs w' b l F :=
  h.blocks hb.size (fun c hc => hb.block c (h.2.2.2.2.1 c hc))
theorem StoreIs.kept {w w' : World} {b : Nat} {l : List Deed} {F G : Nat → Prop} (h : StoreIs w b l F) (hb : Kept G w w') (hn : ∀ c, F c → ¬ G c) : StoreIs w' b l F :=
  h.blocks hb.size (fun c hc => hb.block c (h.2.2.2.2.1 c hc) (hn c hc))

/-- an error by its number: 0: none -/
def errV (n : Int) : Value := if n = 0 then .nilIface else .iface 85 (.int .i64 n)
theorem error_any (n m : Int) (w : World) (hg : HasErr w) : Calls Tryz.prog 8 #[errV n, .int .i64 m] w fun e w' => e = .returned (.bool (n == m)) ∧ Below w.heap.size w w' := by
  by_cases h : n = 0
  · subst h
    exact (error_nil m w).mono fun e w' ⟨he, hw⟩ => ⟨he, hw ▸ Below.refl _ _⟩
  · have e : errV n = .iface 85 (.int .i64 n) := by simp [errV, h]
    rw [e]
    exact error_err n m w hg

theorem record_ok (b k : Nat) (gone : Bool) (text : ByteArray) (l : List Deed) (F : Nat → Prop) (w : World) (hk8 : k < 8) (hs : l.length < 1000) (h : StoreIs w b l F) :
    Calls Tryz.prog 94 #[.pointer (some ⟨b, 0, none⟩), .int .i64 k, .bool gone, .string text] w fun e w' =>
      e = .returned (.tuple #[.int .i64 (l.length + 1), .nilIface]) ∧ ∃ F', StoreIs w' b (l ++ [⟨k, gone, text⟩]) F' ∧ (∀ c, F' c → F c ∨ w.heap.size ≤ c) ∧ Kept F w w' := by
  obtain ⟨c0, f0, hl, Fb, Fl, V, hV, hd⟩ := h
  obtain ⟨a1, a2, a3, a4, a5⟩ := hV k hk8
  refine (record_w b k gone text l.length (pastOf l k) (V k) w hk8 hs c0 f0 a1 a2 a3 (pastOf_length k l) a4).mono ?_
  rintro e w' ⟨rfl, g, cap, w1, hh, ho, ht, hout, hown, hgrow, hat, hlt⟩
  have lb : b < w.heap.size := Fl b Fb
  have hs1 : w.heap.size + 1 ≤ w1.heap.size := by have := hgrow.size; simpa using this
  -- a block that is neither the store's own nor the row's
  have keep : ∀ c, c < w.heap.size → c ≠ b → (V k).ownBlock ≠ some c → w'.heap[c]? = w.heap[c]? := by
    intro c hc hcb hne
    rw [hh, Below.heap_setCell w1 _ _ c hcb, hgrow.block c (by simp <;> omega) (Ne.symm hne)]
    show ((w.setCell _ _).alloc _).heap[c]? = _
    rw [Below.heap_alloc _ _ c (by simp <;> omega), Below.heap_setCell w _ _ c hcb]
  -- the store's own cells
  have own : ∀ j, w1.cell? ⟨b, j, none⟩ = (w.setCell ⟨b, 0, none⟩ (.int .i64 ((l.length : Int) + 1))).cell? ⟨b, j, none⟩ := by
    intro j
    refine (World.cell?_of_block (a := ⟨b, j, none⟩) ?_)
    rw [hgrow.block b (by simp <;> omega) (Ne.symm a4)]
    show ((w.setCell _ _).alloc _).heap[b]? = _
    rw [Below.heap_alloc _ _ b (by simp <;> omega)]
  have ownF : ∀ j, w1.frozen? ⟨b, j, none⟩ = w.frozen? ⟨b, j, none⟩ := by
    intro j
    refine Eq.trans (World.frozen?_of_block (a := ⟨b, j, none⟩) (w := w.setCell ⟨b, 0, none⟩ (.int .i64 ((l.length : Int) + 1))) ?_) (World.frozen?_setCell _ _ _ _)
    rw [hgrow.block b (by simp <;> omega) (Ne.symm a4)]
    show ((w.setCell _ _).alloc _).heap[b]? = _
    rw [Below.heap_alloc _ _ b (by simp <;> omega)]
  refine ⟨rfl, fun c => F c ∨ c = g, ?_, ?_, ?_⟩
  · have gnb : g ≠ b := by
      rcases hat with h | h
      · intro e; subst e; exact a4 h
      · omega
    refine ⟨?_, ?_, by simp; omega, .inl Fb, ?_, fun j => if j = k then .slice (some ⟨g, 0, none⟩) ((pastOf l k).length + 1) cap else V j, ?_, ?_⟩
    · rw [cell_heap hh, World.cell?_setCell_other _ _ _ _ (by simp <;> omega), own, World.cell?_setCell_same _ _ _ c0]; simp
    · rw [frozen_heap hh, World.frozen?_setCell, ownF]; exact f0
    · intro c hc
      rw [hh, World.size_setCell]
      rcases hc with hc | rfl
      · have := Fl c hc; omega
      · exact hlt
    · intro j hj
      obtain ⟨b1, b2, b3, b4, b5⟩ := hV j hj
      by_cases hjk : j = k
      · subst hjk
        have hpast : pastOf (l ++ [⟨(j : Int), gone, text⟩]) j = pastOf l j ++ [⟨(l.length : Int) + 1, gone, text⟩] := by rw [pastOf_snoc, if_pos rfl]
        simp only [if_true]
        refine ⟨?_, ?_, ?_, ?_, ?_⟩
        · rw [cell_heap hh]
          exact World.cell?_setCell_same _ _ _ ((own _).trans ((World.cell?_setCell_other _ _ _ _ (by simp <;> omega)).trans b1))
        · rw [frozen_heap hh, World.frozen?_setCell, ownF]; exact b2
        · rw [hpast, rowOf_append, List.length_append]
          refine ownsRow_blocks hown (fun g' hg' => ?_)
          obtain rfl : g = g' := by simpa [Value.ownBlock] using hg'
          rw [hh, Below.heap_setCell w1 _ _ g gnb]
        · simpa [Value.ownBlock] using gnb
        · intro c hc
          exact .inr (by simpa [Value.ownBlock] using hc.symm)
      · have hpast : pastOf (l ++ [⟨(k : Int), gone, text⟩]) j = pastOf l j := by rw [pastOf_snoc, if_neg (by simp <;> omega)]
        simp only [if_neg hjk]
        refine ⟨?_, ?_, ?_, b4, fun c hc => .inl (b5 c hc)⟩
        · rw [cell_heap hh, World.cell?_setCell_other _ _ _ _ (by simp <;> omega), own, World.cell?_setCell_other _ _ _ _ (by simp <;> omega)]; exact b1
        · rw [frozen_heap hh, World.frozen?_setCell, ownF]; exact b2
        · rw [hpast]
          refine ownsRow_blocks b3 (fun c hc => keep c (Fl c (b5 c hc)) (fun e => b4 (by rw [hc, e])) (fun e => hd j k hj hk8 hjk c hc e))
    · intro i j hi hj hij c hc
      dsimp only at hc ⊢
      by_cases hik : i = k
      · subst hik
        rw [if_neg (Ne.symm hij)]
        simp only [if_true, Value.ownBlock, Option.some.injEq] at hc
        intro e
        rcases hat with h | h
        · exact hd i j hi hj hij g h (by rw [e, hc])
        · have := Fl c ((hV j hj).2.2.2.2 c e); omega
      · rw [if_neg hik] at hc
        by_cases hjk : j = k
        · subst hjk
          simp only [if_true, Value.ownBlock, ne_eq, Option.some.injEq]
          intro e
          subst e
          rcases hat with h | h
          · exact hd i j hi hj hij g hc h
          · have := Fl g ((hV i hi).2.2.2.2 g hc); omega
        · rw [if_neg hjk]
          exact hd i j hi hj hij c hc
  · intro c hc
    rcases hc with h | rfl
    · exact .inl h
    · rcases hat with h | h
      · exact .inl (a5 _ h)
      · exact .inr (by omega)
  · refine ⟨ho, ht, hout, by rw [hh, World.size_setCell]; omega, fun c hc hF => keep c hc (fun e => hF (e ▸ Fb)) (fun e => hF (a5 c e))⟩
end Go.Proofs.YtpcnfoaoajfhlaaGreatDoor
