/-
  Package cache by its contracts: Check.
-/
import Derived.Test.YtpcnfoaoajfhlaaDoorCaP
import Derived.BigRegion
import Derived.BigQuiet
namespace Go.Proofs.YtpcnfoaoajfhlaaDoor
set_option linter.unusedVariables false
set_option linter.unusedSimpArgs false
open Go.RowKit

theorem badRow_step (l : List En) (j : Nat) (p : Option Int) (h : j < l.length) : badRow p (l.drop j) = if l[j].bad ≠ 0 then l[j].bad else if (match p with | some q => decide (l[j].k ≤ q) | none => false) = true then 3 else badRow (some l[j].k) (l.drop (j + 1)) := by
  rw [List.drop_eq_getElem_cons h]
  cases p <;> rfl
theorem badRow_bad {l : List En} {j : Nat} {p : Option Int} (h : j < l.length) (hb : l[j].bad ≠ 0) : badRow p (l.drop j) = l[j].bad := by rw [badRow_step l j p h, if_pos hb]
theorem badRow_low {l : List En} {j : Nat} {q : Int} (h : j < l.length) (hb : l[j].bad = 0) (hk : l[j].k ≤ q) : badRow (some q) (l.drop j) = 3 := by rw [badRow_step l j _ h, if_neg (by simpa using hb), if_pos (by simpa using hk)]
theorem badRow_next {l : List En} {j : Nat} {q : Int} (h : j < l.length) (hb : l[j].bad = 0) (hk : ¬ l[j].k ≤ q) : badRow (some q) (l.drop j) = badRow (some l[j].k) (l.drop (j + 1)) := by rw [badRow_step l j _ h, if_neg (by simpa using hb), if_neg (by simpa using hk)]
theorem badRow_first {l : List En} {j : Nat} (h : j < l.length) (hb : l[j].bad = 0) : badRow none (l.drop j) = badRow (some l[j].k) (l.drop (j + 1)) := by rw [badRow_step l j _ h, if_neg (by simpa using hb), if_neg (by simp)]

/-- the key ahead of a place -/
def keyAhead (l : List En) (j : Nat) : Option Int := if h : 0 < j ∧ j - 1 < l.length then some (l[j - 1]'h.2).k else none
theorem keyAhead_zero (l : List En) : keyAhead l 0 = none := by simp [keyAhead]
theorem keyAhead_succ (l : List En) (j : Nat) (h : j < l.length) : keyAhead l (j + 1) = some l[j].k := by simp [keyAhead, h]

set_option maxHeartbeats 4000000 in
theorem cacheCheck_c (v : Value) (l : List En) (w : World) (hr : RowIs w v l) :
    Calls Tryd.prog 44 #[v] w fun e w' => e = .returned (eV (badL l)) ∧ Below w.heap.size w w' := by
  obtain ⟨hlen, p, cap, rfl, hrow⟩ := hr
  by_cases h8 : 8 < l.length
  · have e : badL l = 4 := by rw [badL, if_pos h8]
    rw [e]
    have h8i : (8 : Int) < (l.length : Int) := by omega
    go_enter Tryd.func44, Tryd.ntmps44
    go_wp2_with fail
    go_ret
    exact ⟨rfl, by go_grown⟩
  · have E : Hid (badL l = badRow (keyAhead l 0) (l.drop 0)) := by
      show badL l = _
      rw [badL, if_neg h8, keyAhead_zero, List.drop_zero]
    obtain ⟨R, HR⟩ : ∃ R, Hid (badL l = R) := ⟨_, rfl⟩
    rw [HR.out]
    have HRow : Hid (l ≠ [] → ∃ b o, p = some ⟨b, o, none⟩ ∧ b < w.heap.size ∧ ∀ j (h : j < l.length), EnAt w b (o + j * 5) l[j]) := hrow
    clear hrow
    have h8i : ¬ (8 : Int) < (l.length : Int) := by omega
    generalize hn : l.length = n at hlen h8 h8i ⊢
    have HN : Hid (l.length = n) := hn
    clear hn
    go_enter Tryd.func44, Tryd.ntmps44
    go_wp2_with fail
    go_loopw [12] (fun i wr => ∃ j : Nat, j ≤ n ∧ i = .int .i64 j ∧ Hid (R = badRow (keyAhead l j) (l.drop j)) ∧ Hid (Below w.heap.size w wr)) (fun i _ => n - (intOf i).toNat)
    case atStart => exact ⟨0, Nat.zero_le _, rfl, HR.out.symm.trans E.out, Below.refl _ _⟩
    case round =>
      obtain ⟨j, hj, rfl, HJ, HB⟩ := hrel
      by_cases hlt : j < n
      · have hl : l ≠ [] := by intro h; have := HN.out; rw [h] at this; simp at this; omega
        obtain ⟨b, o, rfl, hbw, hat⟩ := HRow.out hl
        have hjl : j < l.length := by rw [HN.out]; exact hlt
        have HA : Hid (∀ j (h : j < l.length), EnAt wr b (o + j * 5) l[j]) := fun j h => (hat j h).of_block (HB.out.block b hbw)
        clear hat
        have hws := HB.out.size
        have hbr : b < wr.heap.size := by omega
        obtain ⟨x, HX⟩ : ∃ x, Hid (l[j] = x) := ⟨l[j], show l[j] = l[j] from rfl⟩
        obtain ⟨c0, c1, c2, c3, c4⟩ := HA.out j hjl
        rw [HX.out] at c0 c1 c2 c3 c4
        obtain ⟨k, vv, a, g, t⟩ := x
        dsimp only at c0 c1 c2 c3 c4
        obtain ⟨m, HM⟩ : ∃ m, Hid (bad k vv a g t = m) := ⟨_, rfl⟩
        have HLb : Hid (l[j].bad = m) := by
          show l[j].bad = m
          rw [HX.out]
          exact HM.out
        have HLk : Hid (l[j].k = k) := by
          show l[j].k = k
          rw [HX.out]
        clear HX
        go_wp2_with fail
        by_cases hm : m = 0
        · subst hm
          refine (check_ok HM.out _).mono ?_
          rintro e w1 ⟨rfl, hb⟩
          have B1 : Hid (Below w.heap.size w w1) := (HB.out.alloc hws _).trans (hb.mono (by simp; omega))
          obtain ⟨d0, d1, d2, d3, d4, df⟩ := (box_new wr k vv a g t wr.heap.size rfl).below hb (by simp)
          have HA1 : Hid (∀ j (h : j < l.length), EnAt w1 b (o + j * 5) l[j]) := fun j h => ((HA.out j h).of_block (Below.heap_alloc _ _ _ hbr)).of_block (hb.block b (by simp; omega))
          clear hb c0 c1 c2 c3 c4 HA HM
          by_cases h0 : j = 0
          · subst h0
            rw [keyAhead_zero, badRow_first hjl HLb.out, HLk.out] at HJ
            go_upto_region 9 with fail
            go_region
            all_goals go_wp2_with fail
            all_goals go_roundw
            case rel => exact ⟨1, by omega, by go_num, by rw [show (1 : Nat) = 0 + 1 from rfl, keyAhead_succ l 0 hjl, HLk.out]; exact HJ, B1.out.drew⟩
            case measure => simp [intOf]; omega
          · obtain ⟨i, rfl⟩ : ∃ i, j = i + 1 := ⟨j - 1, by omega⟩
            have hil : i < l.length := by omega
            obtain ⟨q, HQ⟩ : ∃ q, Hid (l[i].k = q) := ⟨l[i].k, show l[i].k = l[i].k from rfl⟩
            rw [keyAhead_succ l i hil, HQ.out] at HJ
            have y0 := (HA1.out i hil).c0
            rw [HQ.out] at y0
            have g0 : (0 : Int) < ((i : Int) + 1) := by omega
            have g1 : ((i : Int) + 1 - 1) = i := by omega
            have g2 : (i : Int) < (n : Int) := by omega
            by_cases hk : k ≤ q
            · rw [badRow_low hjl HLb.out (by rw [HLk.out]; exact hk)] at HJ
              go_upto_region 9 with fail
              go_region
              all_goals go_wp2_with fail
              all_goals go_ret
              all_goals exact ⟨by rw [HJ.out]; rfl, B1.out.drew⟩
            · rw [badRow_next hjl HLb.out (by rw [HLk.out]; exact hk), HLk.out] at HJ
              go_upto_region 9 with fail
              go_region
              all_goals go_wp2_with fail
              all_goals go_roundw
              case rel => exact ⟨i + 1 + 1, by omega, by go_num, by rw [keyAhead_succ l (i + 1) hjl, HLk.out]; exact HJ, B1.out.drew⟩
              case measure => simp [intOf]; omega
        · refine (check_err HM.out hm _).mono ?_
          rintro e w1 ⟨rfl, hb⟩
          have B1 : Hid (Below w.heap.size w w1) := (HB.out.alloc hws _).trans (hb.mono (by simp; omega))
          clear hb
          rw [badRow_bad hjl (by rw [HLb.out]; exact hm), HLb.out] at HJ
          go_wp2_with fail
          go_ret
          exact ⟨by rw [HJ.out]; simp [eV, hm], B1.out⟩
      · obtain rfl : j = n := by omega
        have HR0 : Hid (R = 0) := by
          show R = 0
          rw [HJ.out, List.drop_eq_nil_of_le (by rw [HN.out]; exact Nat.le_refl _)]
          cases keyAhead l j <;> rfl
        go_wp2_with fail
        go_ret
        exact ⟨by rw [HR0.out]; rfl, HB.out⟩
end Go.Proofs.YtpcnfoaoajfhlaaDoor
