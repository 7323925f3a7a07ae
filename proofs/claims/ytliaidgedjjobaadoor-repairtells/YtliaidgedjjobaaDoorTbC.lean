/-
  Package tomb by its contracts: check.
-/
import Derived.Test.YtliaidgedjjobaaDoorTbP
namespace Go.Proofs.YtliaidgedjjobaaDoor
set_option linter.unusedVariables false
set_option linter.unusedSimpArgs false
open Go.RowKit

set_option maxHeartbeats 4000000 in
theorem tcheck_c (v : Value) (ls : List (List En)) (w : World) (hr : RowsIs w v ls) :
    Calls Tryd.prog 68 #[v] w fun e w' => e = .returned (eV (badLs ls)) ∧ Below w.heap.size w w' := by
  obtain ⟨hlen, p, cap, rfl, hrow⟩ := hr
  by_cases h0 : ls.length = 0
  · have e : badLs ls = 5 := by rw [badLs, if_pos h0]
    rw [e, h0]
    go_enter Tryd.func68, Tryd.ntmps68
    go_wp2_with fail
    go_ret
    exact ⟨rfl, by go_grown⟩
  · by_cases h6 : 6 < ls.length
    · have e : badLs ls = 4 := by rw [badLs, if_neg h0, if_pos h6]
      rw [e]
      have h0i : ¬ (ls.length : Int) = 0 := by omega
      have h6i : (6 : Int) < (ls.length : Int) := by omega
      generalize ls.length = n at hlen h0 h6 h0i h6i ⊢
      go_enter Tryd.func68, Tryd.ntmps68
      go_wp2_with fail
      go_ret
      exact ⟨rfl, by go_grown⟩
    · have E : Hid (badLs ls = badEach (ls.drop 0)) := by
        show badLs ls = _
        rw [badLs, if_neg h0, if_neg h6, List.drop_zero]
      obtain ⟨R, HR⟩ : ∃ R, Hid (badLs ls = R) := ⟨_, rfl⟩
      rw [HR.out]
      have HRow : Hid (ls ≠ [] → ∃ b o, p = some ⟨b, o, none⟩ ∧ b < w.heap.size ∧ ∀ j (h : j < ls.length), ∃ u, w.cell? ⟨b, o + j, none⟩ = some u ∧ RowIs w u ls[j]) := hrow
      clear hrow
      have h0i : ¬ (ls.length : Int) = 0 := by omega
      have h6i : ¬ (6 : Int) < (ls.length : Int) := by omega
      generalize hn : ls.length = n at hlen h0 h6 h0i h6i ⊢
      have HN : Hid (ls.length = n) := hn
      clear hn
      go_enter Tryd.func68, Tryd.ntmps68
      go_wp2_with fail
      go_loopw [16] (fun i wr => ∃ j : Nat, j ≤ n ∧ i = .int .i64 j ∧ Hid (R = badEach (ls.drop j)) ∧ Hid (Below w.heap.size w wr)) (fun i _ => n - (intOf i).toNat)
      case atStart => exact ⟨0, Nat.zero_le _, rfl, HR.out.symm.trans E.out, Below.refl _ _⟩
      case round =>
        obtain ⟨j, hj, rfl, HJ, HB⟩ := hrel
        by_cases hlt : j < n
        · have hl : ls ≠ [] := by intro h; have := HN.out; rw [h] at this; simp at this; omega
          obtain ⟨b, o, rfl, hbw, hat⟩ := HRow.out hl
          have hjl : j < ls.length := by rw [HN.out]; exact hlt
          obtain ⟨u, hu, hru⟩ := hat j hjl
          have c0 : wr.cell? ⟨b, o + j, none⟩ = some u := (World.cell?_of_block (a := ⟨b, o + j, none⟩) (HB.out.block b hbw)).trans hu
          have HU : Hid (RowIs wr u ls[j]) := hru.below HB.out
          clear hat hu hru
          have hws := HB.out.size
          have hlti : (j : Int) < (n : Int) := by omega
          obtain ⟨m, HM⟩ : ∃ m, Hid (badL ls[j] = m) := ⟨badL ls[j], show _ = _ from rfl⟩
          obtain ⟨l, HX⟩ : ∃ l, Hid (ls[j] = l) := ⟨ls[j], show ls[j] = ls[j] from rfl⟩
          have HML : Hid (badL l = m) := by
            show badL l = m
            rw [← HX.out]
            exact HM.out
          rw [HX.out] at HU
          clear HX
          go_wp2_with fail
          by_cases hm : m = 0
          · subst hm
            refine (cacheCheck_ok HU.out HML.out).mono ?_
            rintro e w1 ⟨rfl, hb⟩
            have B1 : Hid (Below w.heap.size w w1) := HB.out.trans (hb.mono hws)
            clear hb c0
            rw [badEach_next hjl HM.out] at HJ
            go_wp2_with fail
            go_roundw
            case rel => exact ⟨j + 1, by omega, by go_num, HJ, B1⟩
            case measure => simp [intOf]; omega
          · refine (cacheCheck_err HU.out HML.out hm).mono ?_
            rintro e w1 ⟨rfl, hb⟩
            have B1 : Hid (Below w.heap.size w w1) := HB.out.trans (hb.mono hws)
            clear hb c0
            rw [badEach_bad hjl (by rw [HM.out]; exact hm), HM.out] at HJ
            go_wp2_with fail
            go_ret
            exact ⟨by rw [HJ.out]; simp [eV, hm], B1.out⟩
        · obtain rfl : j = n := by omega
          have HR0 : Hid (R = 0) := by
            show R = 0
            rw [HJ.out, List.drop_eq_nil_of_le (by rw [HN.out]; exact Nat.le_refl _)]
            rfl
          go_wp2_with fail
          go_ret
          exact ⟨by rw [HR0.out]; rfl, HB.out⟩
theorem tcheck_ok {v : Value} {ls : List (List En)} {w : World} (hr : RowsIs w v ls) (h : badLs ls = 0) :
    Calls Tryd.prog 68 #[v] w fun e w' => e = .returned .nilIface ∧ Below w.heap.size w w' := by
  have c := tcheck_c v ls w hr
  rw [h] at c
  exact c
theorem tcheck_err {v : Value} {ls : List (List En)} {w : World} {n : Int} (hr : RowsIs w v ls) (h : badLs ls = n) (hn : n ≠ 0) :
    Calls Tryd.prog 68 #[v] w fun e w' => e = .returned (.iface 83 (.int .i64 n)) ∧ Below w.heap.size w w' := by
  have c := tcheck_c v ls w hr
  rw [h, eV, if_neg hn] at c
  exact c
end Go.Proofs.YtliaidgedjjobaaDoor
