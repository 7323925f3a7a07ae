/-
  Rows of numbers with their room; slices.Index and slices.Contains at numbers (beside the trees' rows of numbers).
-/
import Derived.Test.YtippdgmgmenboagDoorTrA
namespace Go.Proofs.YtippdgmgmenboagDoor
set_option linter.unusedVariables false
set_option linter.unusedSimpArgs false
open Go.RowKit

theorem eV_zero : eV 0 = .nilIface := by rw [eV, if_pos rfl]
theorem eV_err {n : Int} (h : n ≠ 0) : eV n = .iface 55 (.int .i64 n) := by rw [eV, if_neg h]
/-- a slice's room is not less than its length -/
def CapOk (v : Value) (n : Nat) : Prop := ∃ p c, v = .slice p n c ∧ n ≤ c ∧ c ≤ maxLen
theorem CapOk.nil : CapOk (.slice none 0 0) 0 := ⟨none, 0, rfl, Nat.le_refl _, by unfold maxLen; omega⟩
theorem OwnI.cap {B : Nat} {w : World} {v : Value} {l : List Int} (h : OwnI B w v l) : CapOk v l.length := by
  rcases h.2 with ⟨rfl, h0⟩ | ⟨g, cap, cur, rfl, _, _, hc1, hc2, _⟩
  · rw [h0]
    exact CapOk.nil
  · exact ⟨_, cap, rfl, hc1, hc2⟩

theorem hasD_hit {a : List Int} {x : Int} {j : Nat} (h : j < a.length) (hx : a[j] = x) : (a.drop j).contains x = true := by
  rw [List.drop_eq_getElem_cons h, List.contains_cons, hx]
  simp
theorem hasD_miss {a : List Int} {x : Int} {j : Nat} (h : j < a.length) (hx : ¬ a[j] = x) : (a.drop j).contains x = (a.drop (j + 1)).contains x := by
  rw [List.drop_eq_getElem_cons h, List.contains_cons]
  have : (x == a[j]) = false := by simp; exact fun h => hx h.symm
  rw [this, Bool.false_or]
set_option maxHeartbeats 4000000 in
theorem indexI_c (va : Value) (a : List Int) (x : Int) (w : World) (hra : IntsIs w va a) :
    Calls Tryd.prog 43 #[va, .int .i64 x] w fun e w' => ∃ k : Int, e = .returned (.int .i64 k) ∧ Hid (a.contains x = decide (0 ≤ k)) ∧ w' = w := by
  obtain ⟨hla, pa, capa, rfl, hrowa⟩ := hra
  have HRA : Hid (a ≠ [] → ∃ bb o, pa = some ⟨bb, o, none⟩ ∧ bb < w.heap.size ∧ ∀ j (h : j < a.length), w.cell? ⟨bb, o + j, none⟩ = some (.int .i64 a[j])) := hrowa
  clear hrowa
  obtain ⟨n, HN⟩ : ∃ n, Hid (a.length = n) := ⟨_, rfl⟩
  rw [HN.out] at hla ⊢
  have hn63 : n ≤ 9223372036854775807 := hla
  obtain ⟨R, HR⟩ : ∃ R, Hid (a.contains x = R) := ⟨_, rfl⟩
  rw [HR.out]
  go_enter Tryd.func43, Tryd.ntmps43
  go_wp2_with fail
  go_loopw [8] (fun i wr => ∃ j : Nat, j ≤ n ∧ i = .int .i64 j ∧ Hid (R = (a.drop j).contains x) ∧ wr = w) (fun i _ => n - (intOf i).toNat)
  case atStart => exact ⟨0, Nat.zero_le _, rfl, by rw [List.drop_zero]; exact HR.out.symm, rfl⟩
  case round =>
    obtain ⟨j, hj, rfl, HE, rfl⟩ := hrel
    by_cases hlt : j < n
    · have hja : j < a.length := by rw [HN.out]; exact hlt
      obtain ⟨ba, oa, rfl, hbwa, hata⟩ := HRA.out (fun h => by simp [h] at hja)
      have c0 := hata j hja
      clear hata
      have HHit : Hid (a[j] = x → R = true) := fun h => HE.out.trans (hasD_hit hja h)
      have HMiss : Hid (¬ a[j] = x → R = (a.drop (j + 1)).contains x) := fun h => HE.out.trans (hasD_miss hja h)
      obtain ⟨y, HY⟩ : ∃ y, Hid (a[j] = y) := ⟨a[j], show a[j] = a[j] from rfl⟩
      rw [HY.out] at c0 HHit HMiss
      have hlti : (j : Int) < (n : Int) := by omega
      by_cases hs : y = x
      · have HRt : Hid (R = true) := HHit.out hs
        have hxb : (x == y) = true := by simp [hs]
        clear hs
        go_wp2_with fail
        go_ret
        refine ⟨(j : Int), rfl, ?_, rfl⟩
        show R = _
        rw [HRt.out]
        simp
      · have HRt : Hid (R = (a.drop (j + 1)).contains x) := HMiss.out hs
        have hxb : (x == y) = false := by simp; exact fun h => hs h.symm
        clear hs
        go_wp2_with fail
        go_roundw
        case rel => exact ⟨j + 1, by omega, by go_num, HRt, trivial⟩
        case measure => simp [intOf]; omega
    · obtain rfl : j = n := by omega
      have HR0 : Hid (R = false) := by
        show R = false
        rw [HE.out, List.drop_eq_nil_of_le (by rw [HN.out]; exact Nat.le_refl _)]
        rfl
      go_wp2_with fail
      go_ret
      refine ⟨-1, rfl, ?_, rfl⟩
      show R = _
      rw [HR0.out]
      rfl
set_option maxHeartbeats 1000000 in
theorem containsI_c (va : Value) (a : List Int) (x : Int) (b : Bool) (w : World) (hra : IntsIs w va a) (hb : a.contains x = b) :
    Calls Tryd.prog 29 #[va, .int .i64 x] w fun e w' => e = .returned (.bool b) ∧ w' = w := by
  have HC : Hid _ := indexI_c va a x w hra
  have HB : Hid (a.contains x = b) := hb
  clear hra hb
  go_enter Tryd.func29, Tryd.ntmps29
  go_wp2_with fail
  refine Calls.mono HC.out ?_
  rintro e w1 ⟨k, rfl, HK, rfl⟩
  go_wp2_with fail
  go_ret
  refine ⟨?_, rfl⟩
  rw [← HB.out, HK.out]
  rfl

theorem IntsIs.take {w : World} {p : Option Addr} {l : List Int} {cap j cap' : Nat} {p' : Option Addr} (hr : IntsIs w (.slice p l.length cap) l) (hj : j ≤ l.length) (hp : l ≠ [] → p' = p) : IntsIs w (.slice p' j cap') (l.take j) := by
  obtain ⟨h0, q, c, e, h1⟩ := hr
  injection e with e1 e2 e3
  subst e1
  have hl : (l.take j).length = j := by simp; omega
  refine ⟨by rw [hl]; omega, p', cap', by rw [hl], fun hn => ?_⟩
  have hne : l ≠ [] := fun h => hn (by simp [h])
  rw [hp hne]
  obtain ⟨b, o, hb, hlt, hc⟩ := h1 hne
  exact ⟨b, o, hb, hlt, fun i hi => by
    have hi' : i < l.length := by rw [hl] at hi; omega
    rw [List.getElem_take]
    exact hc i hi'⟩
end Go.Proofs.YtippdgmgmenboagDoor
