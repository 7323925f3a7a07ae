/-
  Package tomb by its contracts: knowsGone, and the function that Safe hands on.
  Package tomb by its contracts: Mark.
-/
import Derived.Test.YtpcnfoaoajfhlaaGreatDoorQoac
import Derived.Shelf.Abstract
namespace Go.Proofs.YtpcnfoaoajfhlaaGreatDoor
set_option linter.unusedVariables false
set_option linter.unusedSimpArgs false
set_option linter.unusedVariables false
set_option linter.unusedSimpArgs false
open Go.RowKit Go.Shelf

theorem getD_at {α : Type} (l : List α) (d : α) (j : Nat) (h : j < l.length) : l.getD j d = l[j] := by
  simp [List.getD_eq_getElem?_getD, h]
theorem any_range {α : Type} (l : List α) (d : α) (q : α → Bool) : (List.range l.length).any (fun j => q (l.getD j d)) = l.any q := by
  rw [Bool.eq_iff_iff, List.any_eq_true, List.any_eq_true]
  constructor
  · rintro ⟨j, hj, h⟩
    have hj := List.mem_range.1 hj
    rw [getD_at _ _ _ hj] at h
    exact ⟨_, List.getElem_mem hj, h⟩
  · rintro ⟨x, hx, h⟩
    obtain ⟨j, hj, rfl⟩ := List.getElem_of_mem hx
    exact ⟨j, List.mem_range.2 hj, by rw [getD_at _ _ _ hj]; exact h⟩

end Go.Proofs.YtpcnfoaoajfhlaaGreatDoor

namespace Go.Proofs.YtpcnfoaoajfhlaaGreatDoor
set_option linter.unusedVariables false
set_option linter.unusedSimpArgs false
open Go.RowKit Go.Shelf

set_option maxHeartbeats 2000000 in
theorem mark1_c (key : Int) (kb : Nat) (x0 x1 x2 : Int) (x3 : Bool) (x4 : ByteArray) (B : Bool) (hB : (x0 == key) = B) (w : World) (ck : w.cell? ⟨kb, 0, none⟩ = some (.int .i64 key)) :
    Calls Tryz.prog 77 #[.agg #[.int .i64 x0, .int .i64 x1, .int .i64 x2, .bool x3, .string x4], .pointer (some ⟨kb, 0, none⟩)] w fun e w' => e = .returned (.bool B) ∧ Below w.heap.size w w' := by
  have hkl := World.block_lt_of_cell? w _ ck
  dsimp only at hkl
  go_enter Tryz.func77, Tryz.ntmps77
  go_wp2_with fail
  go_ret
  exact ⟨by rw [← hB]; rfl, by go_grown⟩

theorem first_c (key : Int) (kb : Nat) (v : Value) (l : List En) (w : World) (hr : RowIs w v l) (ck : w.cell? ⟨kb, 0, none⟩ = some (.int .i64 key)) :
    Calls Tryz.prog 76 #[v, .func (.func 77) #[] #[.pointer (some ⟨kb, 0, none⟩)]] w fun e w' => e = .returned (.int .i64 (idxI l.length (fun j => (l.getD j zeroEn).k == key) l.length)) ∧ Below w.heap.size w w' := by
  refine indexE_c 77 #[.pointer (some ⟨kb, 0, none⟩)] v l (fun j => (l.getD j zeroEn).k == key) w hr (enters_of Tryz.func77 (by kernel_rfl) rfl) ?_
  intro j hj W' hW'
  rw [getD_at _ _ _ hj]
  generalize l[j] = x
  obtain ⟨x0, x1, x2, x3, x4⟩ := x
  exact mark1_c key kb x0 x1 x2 x3 x4 _ rfl W' ((World.cell?_of_block (a := ⟨kb, 0, none⟩) (hW'.block kb (World.block_lt_of_cell? w _ ck))).trans ck)
theorem first_none_c {key : Int} {kb : Nat} {v : Value} {l : List En} {w : World} (hr : RowIs w v l) (ck : w.cell? ⟨kb, 0, none⟩ = some (.int .i64 key)) (hg : getE l key = none) :
    Calls Tryz.prog 76 #[v, .func (.func 77) #[] #[.pointer (some ⟨kb, 0, none⟩)]] w fun e w' => e = .returned (.int .i64 (-1)) ∧ Below w.heap.size w w' := by
  have c := first_c key kb v l w hr ck
  rcases idxI_cases l.length (fun j => (l.getD j zeroEn).k == key) with ⟨h, _⟩ | ⟨m, _, hm, hp, _⟩
  · rw [h] at c
    exact c
  · exfalso
    rw [getD_at _ _ _ hm] at hp
    unfold getE at hg
    rw [List.find?_eq_none] at hg
    exact hg _ (List.getElem_mem hm) hp
theorem first_some_c {key : Int} {kb : Nat} {v : Value} {l : List En} {w : World} {x : En} (hr : RowIs w v l) (ck : w.cell? ⟨kb, 0, none⟩ = some (.int .i64 key)) (hg : getE l key = some x) :
    ∃ m : Nat, ∃ h : m < l.length, l[m] = x ∧ Calls Tryz.prog 76 #[v, .func (.func 77) #[] #[.pointer (some ⟨kb, 0, none⟩)]] w fun e w' => e = .returned (.int .i64 m) ∧ Below w.heap.size w w' := by
  have c := first_c key kb v l w hr ck
  rcases idxI_cases l.length (fun j => (l.getD j zeroEn).k == key) with ⟨_, hn⟩ | ⟨m, h, hm, hp, hlow⟩
  · exfalso
    rw [first_none (fun j hj => by have := hn j hj; rw [getD_at _ _ _ hj] at this; simpa using this)] at hg
    cases hg
  · rw [h] at c
    refine ⟨m, hm, ?_, c⟩
    rw [getD_at _ _ _ hm] at hp
    rw [first_some hm (by simpa using hp) (fun j hj hlt => by have := hlow j hlt; rw [getD_at _ _ _ hj] at this; simpa using this)] at hg
    exact Option.some.inj hg

set_option maxHeartbeats 4000000 in
theorem tmark_c (v : Value) (ls : List (List En)) (key : Int) (w : World) (hr : RowsIs w v ls) :
    Calls Tryz.prog 32 #[v, .int .i64 key] w fun e w' => e = .returned (.tuple #[.int .i64 (tombMark ls key).1, eV (tombMark ls key).2]) ∧ Below w.heap.size w w' := by
  have HR : Hid (RowsIs w v ls) := hr
  obtain ⟨w0, HW0⟩ : ∃ w0, w0 = w.alloc (.cells #[.int .i64 key] 3) := ⟨_, rfl⟩
  have HB0 : Hid (Below w.heap.size w w0) := by rw [HW0]; exact (Below.refl _ w).alloc (Nat.le_refl _) _
  have CK : Hid (w0.cell? ⟨w.heap.size, 0, none⟩ = some (.int .i64 key)) := by show _ = _; rw [HW0]; simp
  have hlt0 : w.heap.size < w0.heap.size := by rw [HW0]; simp
  by_cases hn : badLs ls = 0
  · have HN0 : Hid (badLs ls = 0) := hn
    cases hk : isKeyB key
    · have HC : Hid (tombMark ls key = (0, 1)) := by
        show tombMark ls key = _
        rw [tombMark, if_neg (by simpa using hn), if_pos hk]
      rw [HC.out]
      clear hr hn
      by_cases h0 : key < 0
      · have hd0 : decide (key < 0) = true := by simpa using h0
        clear hk
        go_enter Tryz.func32, Tryz.ntmps32
        go_wp2_with fail
        rw [← HW0]
        refine (tcheck_ok (HR.out.below HB0.out) HN0.out).mono ?_
        rintro e w1 ⟨rfl, hb⟩
        have B1 : Hid (Below w.heap.size w w1) := HB0.out.trans (hb.mono HB0.out.size)
        have ck : w1.cell? ⟨w.heap.size, 0, none⟩ = some (.int .i64 key) := (World.cell?_of_block (a := ⟨w.heap.size, 0, none⟩) (hb.block _ hlt0)).trans CK.out
        clear hb
        go_wp2_with fail
        go_ret2
        exact ⟨rfl, B1.out⟩
      · have h1 : 8 ≤ key := by simp [isKeyB] at hk; omega
        have hd0 : decide (key < 0) = false := by simpa using h0
        have hd1 : decide (8 ≤ key) = true := by simpa using h1
        clear hk
        go_enter Tryz.func32, Tryz.ntmps32
        go_wp2_with fail
        rw [← HW0]
        refine (tcheck_ok (HR.out.below HB0.out) HN0.out).mono ?_
        rintro e w1 ⟨rfl, hb⟩
        have B1 : Hid (Below w.heap.size w w1) := HB0.out.trans (hb.mono HB0.out.size)
        have ck : w1.cell? ⟨w.heap.size, 0, none⟩ = some (.int .i64 key) := (World.cell?_of_block (a := ⟨w.heap.size, 0, none⟩) (hb.block _ hlt0)).trans CK.out
        clear hb
        go_wp2_with fail
        go_ret2
        exact ⟨rfl, B1.out⟩
    · have HC : Hid (tombMark ls key = (markFrom key 1000 (ls.drop 0), 0)) := by
        show tombMark ls key = _
        rw [tombMark, if_neg (by simpa using hn), if_neg (by rw [hk]; simp), List.drop_zero]
      rw [HC.out]
      have h0 : ¬ key < 0 := by simp [isKeyB] at hk; omega
      have h1 : ¬ 8 ≤ key := by simp [isKeyB] at hk; omega
      have hd0 : decide (key < 0) = false := by simpa using h0
      have hd1 : decide (8 ≤ key) = false := by simpa using h1
      clear hk hn HC h0 h1
      obtain ⟨R, HRR⟩ : ∃ R, Hid (markFrom key 1000 (ls.drop 0) = R) := ⟨_, rfl⟩
      rw [HRR.out]
      obtain ⟨hlen, p, cap, rfl, hrow⟩ := hr
      have HRow : Hid (ls ≠ [] → ∃ b o, p = some ⟨b, o, none⟩ ∧ b < w.heap.size ∧ ∀ j (h : j < ls.length), ∃ u, w.cell? ⟨b, o + j, none⟩ = some u ∧ RowIs w u ls[j]) := hrow
      clear hrow
      obtain ⟨n, HN⟩ : ∃ n, Hid (ls.length = n) := ⟨_, rfl⟩
      rw [HN.out] at hlen HR ⊢
      have hn63 : n ≤ 9223372036854775807 := hlen
      go_enter Tryz.func32, Tryz.ntmps32
      go_wp2_with fail
      rw [← HW0]
      refine (tcheck_ok (HR.out.below HB0.out) HN0.out).mono ?_
      rintro e w1 ⟨rfl, hb⟩
      have B1 : Hid (Below w0.heap.size w0 w1) := hb
      have ck : w1.cell? ⟨w.heap.size, 0, none⟩ = some (.int .i64 key) := (World.cell?_of_block (a := ⟨w.heap.size, 0, none⟩) (hb.block _ hlt0)).trans CK.out
      clear hb HW0
      go_wp2_with fail
      clear ck
      go_loopw [7, 25] (fun s7 s25 wr => ∃ (j : Nat) (m : Int), s7 = .int .i64 m ∧ j ≤ n ∧ s25 = .int .i64 j ∧ Hid (R = markFrom key m (ls.drop j)) ∧ Hid (Below w0.heap.size w0 wr)) (fun _ i _ => n - (intOf i).toNat)
      case atStart => exact ⟨0, 1000, rfl, Nat.zero_le _, rfl, HRR.out.symm, B1⟩
      case round =>
        obtain ⟨j, m, rfl, hj, rfl, HJ, HB⟩ := hrel
        have HBw : Hid (Below w.heap.size w wr) := HB0.out.trans (HB.out.mono HB0.out.size)
        by_cases hlt : j < n
        · have hjl : j < ls.length := by rw [HN.out]; exact hlt
          obtain ⟨b, o, rfl, hbw, hat⟩ := HRow.out (fun h => by simp [h] at hjl)
          obtain ⟨u, hu, hru⟩ := hat j hjl
          have c0 : wr.cell? ⟨b, o + j, none⟩ = some u := (World.cell?_of_block (a := ⟨b, o + j, none⟩) (HBw.out.block b hbw)).trans hu
          have HU : Hid (RowIs wr u ls[j]) := hru.below HBw.out
          have CKr : Hid (wr.cell? ⟨w.heap.size, 0, none⟩ = some (.int .i64 key)) := (World.cell?_of_block (a := ⟨w.heap.size, 0, none⟩) (HB.out.block _ hlt0)).trans CK.out
          clear hat hu hru
          have hlti : (j : Int) < (n : Int) := by omega
          have HMn : Hid (getE ls[j] key = none → R = 0) := fun h => HJ.out.trans (markFrom_none hjl h)
          have HMs : Hid (∀ x, getE ls[j] key = some x → R = markFrom key (if x.a < m then x.a else m) (ls.drop (j + 1))) := fun x h => HJ.out.trans (markFrom_some hjl h)
          obtain ⟨l, HX⟩ : ∃ l, Hid (ls[j] = l) := ⟨ls[j], show ls[j] = ls[j] from rfl⟩
          rw [HX.out] at HU HMn HMs
          clear HX HJ
          cases hg : getE l key with
          | none =>
            have HR0 : Hid (R = 0) := HMn.out hg
            have HC : Hid _ := first_none_c HU.out CKr.out hg
            clear hg HMn HMs
            go_wp2_with fail
            refine Calls.mono HC.out ?_
            rintro e w2 ⟨rfl, hb⟩
            have B2 : Hid (Below w.heap.size w w2) := HBw.out.trans (hb.mono HBw.out.size)
            clear hb c0
            go_wp2_with fail
            go_ret2
            exact ⟨by rw [HR0.out]; rfl, B2.out⟩
          | some x =>
            have HR1 : Hid (R = markFrom key (if x.a < m then x.a else m) (ls.drop (j + 1))) := HMs.out x hg
            obtain ⟨i, hi, hx, hc⟩ := first_some_c HU.out CKr.out hg
            have HC : Hid _ := hc
            clear hg HMn HMs hc
            obtain ⟨hlu, q, capu, rfl, hrow⟩ := HU.out
            obtain ⟨b', o', rfl, hbw', hat⟩ := hrow (fun h => by simp [h] at hi)
            have HA := (hat i hi).c2
            rw [hx] at HA
            have HAt : Hid (wr.cell? ⟨b', o' + i * 5 + 2, none⟩ = some (.int .i64 x.a)) := HA
            clear hat hrow HA hx
            obtain ⟨a, HAa⟩ : ∃ a, Hid (x.a = a) := ⟨_, rfl⟩
            rw [HAa.out] at HAt HR1
            obtain ⟨k, HK⟩ : ∃ k, Hid (l.length = k) := ⟨_, rfl⟩
            rw [HK.out] at hi hlu HC c0 HU
            have hii : (i : Int) < (k : Int) := by omega
            go_wp2_with fail
            refine Calls.mono HC.out ?_
            rintro e w2 ⟨rfl, hb⟩
            have B2 : Hid (Below w0.heap.size w0 w2) := HB.out.trans (hb.mono HB.out.size)
            have c2 : w2.cell? ⟨b', o' + i * 5 + 2, none⟩ = some (.int .i64 a) := (World.cell?_of_block (a := ⟨b', o' + i * 5 + 2, none⟩) (hb.block _ hbw')).trans HAt.out
            clear hb c0
            go_wp2_with fail
            go_roundw
            case rel => first | exact ⟨j + 1, if a < m then a else m, rfl, by omega, by go_num, HR1, B2⟩ | exact ⟨j + 1, min m a, rfl, by omega, by go_num, (show Hid _ from (show (if a < m then a else m) = min m a by split <;> omega) ▸ HR1), B2⟩
            case measure => simp [intOf]; omega
        · obtain rfl : j = n := by omega
          have HR0 : Hid (R = m) := by
            show R = m
            rw [HJ.out, List.drop_eq_nil_of_le (by rw [HN.out]; exact Nat.le_refl _)]
            rfl
          go_wp2_with fail
          go_ret2
          exact ⟨by rw [HR0.out]; rfl, HBw.out⟩
  · obtain ⟨n, HN⟩ : ∃ n, Hid (badLs ls = n) := ⟨_, rfl⟩
    have HC : Hid (tombMark ls key = (0, n)) := by
      show tombMark ls key = _
      rw [tombMark, if_pos hn, HN.out]
    rw [HN.out] at hn
    rw [HC.out]
    clear hr
    go_enter Tryz.func32, Tryz.ntmps32
    go_wp2_with fail
    rw [← HW0]
    refine (tcheck_err (HR.out.below HB0.out) HN.out hn).mono ?_
    rintro e w1 ⟨rfl, hb⟩
    have B1 : Hid (Below w.heap.size w w1) := HB0.out.trans (hb.mono HB0.out.size)
    clear hb
    go_wp2_with fail
    go_ret2
    exact ⟨by simp [eV, hn], B1.out⟩
theorem tmark_p {ls : List (List En)} {key m n : Int} (h : tombMark ls key = (m, n)) (v : Value) (w : World) (hr : RowsIs w v ls) :
    Calls Tryz.prog 32 #[v, .int .i64 key] w fun e w' => e = .returned (.tuple #[.int .i64 m, eV n]) ∧ Below w.heap.size w w' := by
  have c := tmark_c v ls key w hr
  rw [h] at c
  exact c
theorem tmark_ok {ls : List (List En)} {key m : Int} (h : tombMark ls key = (m, 0)) (v : Value) (w : World) (hr : RowsIs w v ls) :
    Calls Tryz.prog 32 #[v, .int .i64 key] w fun e w' => e = .returned (.tuple #[.int .i64 m, .nilIface]) ∧ Below w.heap.size w w' := tmark_p h v w hr
theorem tmark_err {ls : List (List En)} {key m n : Int} (h : tombMark ls key = (m, n)) (hn : n ≠ 0) (v : Value) (w : World) (hr : RowsIs w v ls) :
    Calls Tryz.prog 32 #[v, .int .i64 key] w fun e w' => e = .returned (.tuple #[.int .i64 m, .iface 85 (.int .i64 n)]) ∧ Below w.heap.size w w' := by
  have c := tmark_p h v w hr
  rw [eV, if_neg hn] at c
  exact c
end Go.Proofs.YtpcnfoaoajfhlaaGreatDoor
