/-
  Package log: Put, Delete, and what tells of it, by their contracts.
-/
import Derived.Test.YtpcnfoaoajfhlaaDoorLgD
namespace Go.Proofs.YtpcnfoaoajfhlaaDoor
set_option linter.unusedVariables false
set_option linter.unusedSimpArgs false
open Go.RowKit

theorem lgBytes_c {S : Nat → Prop} {w : World} {j n : Nat} {l : List Deed} {p : List Nat} {sf : Nat} {lf : Int} {st : Bool} (h : LgAt S w j l p sf lf st) (hn : (flatD l ++ p).length = n) :
    Calls Tryd.prog 21 #[.pointer (some ⟨j, 0, none⟩)] w fun e w' => e = .returned (.int .i64 n) ∧ w' = w := by
  obtain ⟨F, b, v, h⟩ := h
  obtain ⟨p4, q4, hv4⟩ := sliceB h.row
  have c1 := h.c1
  rw [hn] at hv4
  subst hv4
  clear h hn
  go_enter Tryd.func21, Tryd.ntmps21
  go_wp2_with fail
  go_ret
  exact ⟨rfl, rfl⟩
theorem lgSeq_c {S : Nat → Prop} {w : World} {j n : Nat} {l : List Deed} {p : List Nat} {sf : Nat} {lf : Int} {st : Bool} (h : LgAt S w j l p sf lf st) (hn : l.length = n) :
    Calls Tryd.prog 20 #[.pointer (some ⟨j, 0, none⟩)] w fun e w' => e = .returned (.int .i64 n) ∧ w' = w := by
  obtain ⟨F, b, v, h⟩ := h
  have c0 := h.c0
  have HS : Hid (StoreIs w b l F) := h.sto
  have HN : Hid (l.length = n) := hn
  clear h hn
  go_enter Tryd.func20, Tryd.ntmps20
  go_wp2_with (go_at_call 52; refine (seq_c b l F _ HS.out).mono ?_; rw [HN.out]; rintro e w' ⟨rfl, hw⟩; rw [hw]; clear hw w')
  go_ret
  exact ⟨rfl, rfl⟩
theorem lgPut_c {k : Int} {t : ByteArray} (ht : t.size ≤ maxLen) {S : Nat → Prop} {w : World} {j : Nat} {l od : List Deed} {sf : Nat} {lf on oe : Int} (h : LgAt S w j l [] sf lf false) (hl : (flatD l).length ≤ 50000) (hlf : lf ≤ 9223372036854775807) (h0 : oe = 0 → lf ≠ 0)
    (ho : putO l k t = ⟨od, on, oe⟩) (hbad : oe ≠ 0 → od = l ∧ on = 0) (hgo : oe = 0 → od = l ++ [⟨k, false, t⟩] ∧ 0 ≤ k ∧ k < 8 ∧ t.size ≤ 12) :
    Calls Tryd.prog 16 #[.pointer (some ⟨j, 0, none⟩), .int .i64 k, .string t] w fun e w' => e = .returned (.tuple #[.int .i64 on, errV oe]) ∧ LgTo S w w' j od [] sf (if oe = 0 then lfN lf else lf) false := by
  have H : Hid _ := lgChange_c k false t ht h hl hlf h0 (show doO l ⟨k, false, t⟩ = _ from ho) hbad hgo
  obtain ⟨ev, HEv⟩ : ∃ ev, Hid (errV oe = ev) := ⟨_, rfl⟩
  obtain ⟨lf2, HL2⟩ : ∃ z, Hid ((if oe = 0 then lfN lf else lf) = z) := ⟨_, rfl⟩
  rw [HEv.out, HL2.out] at H ⊢
  clear ht h hl hlf h0 ho hbad hgo
  go_enter Tryd.func16, Tryd.ntmps16
  go_wp2_with fail
  refine Calls.mono H.out ?_
  rintro e w1 ⟨rfl, ht⟩
  have HT : Hid (LgTo S w w1 j od [] sf lf2 false) := ht
  clear ht
  go_wp2_with fail
  go_ret2
  exact ⟨rfl, HT.out⟩
theorem lgDel_c {k : Int} {S : Nat → Prop} {w : World} {j : Nat} {l od : List Deed} {sf : Nat} {lf on oe : Int} (h : LgAt S w j l [] sf lf false) (hl : (flatD l).length ≤ 50000) (hlf : lf ≤ 9223372036854775807) (h0 : oe = 0 → lf ≠ 0)
    (ho : delO l k = ⟨od, on, oe⟩) (hbad : oe ≠ 0 → od = l ∧ on = 0) (hgo : oe = 0 → od = l ++ [⟨k, true, ⟨#[]⟩⟩] ∧ 0 ≤ k ∧ k < 8) :
    Calls Tryd.prog 26 #[.pointer (some ⟨j, 0, none⟩), .int .i64 k] w fun e w' => e = .returned (.tuple #[.int .i64 on, errV oe]) ∧ LgTo S w w' j od [] sf (if oe = 0 then lfN lf else lf) false := by
  have H : Hid _ := lgChange_c k true ⟨#[]⟩ (by unfold maxLen; decide) h hl hlf h0 (show doO l ⟨k, true, ⟨#[]⟩⟩ = _ from ho) hbad (fun e => ⟨(hgo e).1, (hgo e).2.1, (hgo e).2.2, by decide⟩)
  obtain ⟨ev, HEv⟩ : ∃ ev, Hid (errV oe = ev) := ⟨_, rfl⟩
  obtain ⟨lf2, HL2⟩ : ∃ z, Hid ((if oe = 0 then lfN lf else lf) = z) := ⟨_, rfl⟩
  rw [HEv.out, HL2.out] at H ⊢
  clear h hl hlf h0 ho hbad hgo
  go_enter Tryd.func26, Tryd.ntmps26
  go_wp2_with fail
  refine Calls.mono H.out ?_
  rintro e w1 ⟨rfl, ht⟩
  have HT : Hid (LgTo S w w1 j od [] sf lf2 false) := ht
  clear ht
  go_wp2_with fail
  go_ret2
  exact ⟨rfl, HT.out⟩
end Go.Proofs.YtpcnfoaoajfhlaaDoor
