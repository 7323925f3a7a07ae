/-
  Package cache by its contracts: Get.
-/
import Derived.Test.YteamkhnmknjkfadCaF
namespace Go.Proofs.Yteamkhnmknjkfad
set_option linter.unusedVariables false
set_option linter.unusedSimpArgs false
open Go.RowKit

def zeroEn : En := ⟨0, 0, 0, false, ⟨#[]⟩⟩
def isKeyB (k : Int) : Bool := decide (0 ≤ k) && decide (k < 8)
/-- Get, on lists -/
def cacheGet (l : List En) (key : Int) : En × Int :=
  if badL l ≠ 0 then (zeroEn, badL l) else if isKeyB key = false then (zeroEn, 1) else match getE l key with | none => (zeroEn, 5) | some x => (x, 0)

theorem cacheCheck_o {v : Value} {l : List En} {w : World} {n : Int} (hr : RowIs w v l) (h : badL l = n) :
    Calls Try.prog 5 #[v] w fun e w' => e = .returned (eV n) ∧ Below w.heap.size w w' := by
  subst h
  exact cacheCheck_c v l w hr
theorem cacheCheck_ok {v : Value} {l : List En} {w : World} (hr : RowIs w v l) (h : badL l = 0) :
    Calls Try.prog 5 #[v] w fun e w' => e = .returned .nilIface ∧ Below w.heap.size w w' := cacheCheck_o hr h
theorem cacheCheck_err {v : Value} {l : List En} {w : World} {n : Int} (hr : RowIs w v l) (h : badL l = n) (hn : n ≠ 0) :
    Calls Try.prog 5 #[v] w fun e w' => e = .returned (.iface 39 (.int .i64 n)) ∧ Below w.heap.size w w' := by
  have c := cacheCheck_o hr h
  rw [eV, if_neg hn] at c
  exact c

end Go.Proofs.Yteamkhnmknjkfad
