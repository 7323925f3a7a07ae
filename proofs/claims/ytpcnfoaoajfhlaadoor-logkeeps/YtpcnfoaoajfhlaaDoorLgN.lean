/-
  Package log: Put and Delete where it stops, or has stopped; Read.
-/
import Derived.Test.YtpcnfoaoajfhlaaDoorLgH
namespace Go.Proofs.YtpcnfoaoajfhlaaDoor
set_option linter.unusedVariables false
set_option linter.unusedSimpArgs false
open Go.RowKit

theorem lgPut_stopped {k : Int} {t : ByteArray} {S : Nat → Prop} {w : World} {j : Nat} {l : List Deed} {p : List Nat} {sf : Nat} {lf : Int} (h : LgAt S w j l p sf lf true) :
    Calls Tryd.prog 16 #[.pointer (some ⟨j, 0, none⟩), .int .i64 k, .string t] w fun e w' => e = .returned (.tuple #[.int .i64 0, errV 6]) ∧ LgTo S w w' j l p sf lf true := by
  have H : Hid _ := stopped_c k false t h
  rw [errN (by omega)] at H ⊢
  clear h
  go_enter Tryd.func16, Tryd.ntmps16
  go_wp2_with fail
  refine Calls.mono H.out ?_
  rintro e w1 ⟨rfl, ht⟩
  have HT : Hid (LgTo S w w1 j l p sf lf true) := ht
  clear ht
  go_wp2_with fail
  go_ret2
  exact ⟨rfl, HT.out⟩
theorem lgDel_stopped {k : Int} {S : Nat → Prop} {w : World} {j : Nat} {l : List Deed} {p : List Nat} {sf : Nat} {lf : Int} (h : LgAt S w j l p sf lf true) :
    Calls Tryd.prog 26 #[.pointer (some ⟨j, 0, none⟩), .int .i64 k] w fun e w' => e = .returned (.tuple #[.int .i64 0, errV 6]) ∧ LgTo S w w' j l p sf lf true := by
  have H : Hid _ := stopped_c k true ⟨#[]⟩ h
  rw [errN (by omega)] at H ⊢
  clear h
  go_enter Tryd.func26, Tryd.ntmps26
  go_wp2_with fail
  refine Calls.mono H.out ?_
  rintro e w1 ⟨rfl, ht⟩
  have HT : Hid (LgTo S w w1 j l p sf lf true) := ht
  clear ht
  go_wp2_with fail
  go_ret2
  exact ⟨rfl, HT.out⟩
theorem lgPut_stop {k : Int} {t : ByteArray} (ht : t.size ≤ maxLen) {S : Nat → Prop} {w : World} {j : Nat} {l od : List Deed} {sf : Nat} {on : Int} (h : LgAt S w j l [] sf 0 false) (hl : (flatD l).length ≤ 50000)
    (hfit : Fits l) (hd : ∀ d ∈ l, d.text.size ≤ 12) (hk8 : ∀ d ∈ l, 0 ≤ d.key ∧ d.key < 8) (ho : putO l k t = ⟨od, on, 0⟩) (hgo : 0 ≤ k ∧ k < 8 ∧ t.size ≤ 12) :
    Calls Tryd.prog 16 #[.pointer (some ⟨j, 0, none⟩), .int .i64 k, .string t] w fun e w' => e = .returned (.tuple #[.int .i64 0, errV 6]) ∧ LgTo S w w' j l ((encD ⟨k, false, t⟩).take ((t.size + 2) / 2)) sf 0 true := by
  have H : Hid _ := change_stop k false t ht h hl hfit hd hk8 (show doO l ⟨k, false, t⟩ = _ from ho) hgo
  obtain ⟨p', HP⟩ : ∃ p', Hid ((encD ⟨k, false, t⟩).take ((t.size + 2) / 2) = p') := ⟨_, rfl⟩
  rw [errN (by omega), HP.out] at H ⊢
  clear h ht hl hfit hd hk8 ho hgo
  go_enter Tryd.func16, Tryd.ntmps16
  go_wp2_with fail
  refine Calls.mono H.out ?_
  rintro e w1 ⟨rfl, ht⟩
  have HT : Hid (LgTo S w w1 j l p' sf 0 true) := ht
  clear ht
  go_wp2_with fail
  go_ret2
  exact ⟨rfl, HT.out⟩
end Go.Proofs.YtpcnfoaoajfhlaaDoor
