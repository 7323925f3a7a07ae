/-
  Package log: Sync, Fail, Safe, Read, by their contracts.
-/
import Derived.Test.YtpcnfoaoajfhlaaDoorLgE
namespace Go.Proofs.YtpcnfoaoajfhlaaDoor
set_option linter.unusedVariables false
set_option linter.unusedSimpArgs false
open Go.RowKit

theorem Lq.to {S S' F' : Nat → Prop} {w w' : World} {j b' : Nat} {v' : Value} {l' : List Deed} {bs p : List Nat} {sf : Nat} {lf : Int} {st : Bool} (h : Lq S' F' w' j b' v' l' bs sf lf st) (e : bs = flatD l' ++ p) (hk : Kept S w w') (hs : ∀ x, S' x → S x ∨ w.heap.size ≤ x) : LgTo S w w' j l' p sf lf st :=
  ⟨hk, S', ⟨F', b', v', h.g e⟩, hs⟩
theorem lgSync_stopped {S : Nat → Prop} {w : World} {j : Nat} {l : List Deed} {p : List Nat} {sf : Nat} {lf : Int} (h : LgAt S w j l p sf lf true) :
    Calls Tryd.prog 17 #[.pointer (some ⟨j, 0, none⟩)] w fun e w' => e = .returned (errV 6) ∧ w' = w := by
  obtain ⟨F, b, v, h⟩ := h
  have c4 := h.c4
  rw [errN (by omega)]
  clear h
  go_enter Tryd.func17, Tryd.ntmps17
  go_wp2_with fail
  go_ret
  exact ⟨rfl, rfl⟩
theorem lgSync_stop {S : Nat → Prop} {w : World} {j : Nat} {l : List Deed} {p : List Nat} {sf : Nat} (h : LgAt S w j l p sf 0 false) :
    Calls Tryd.prog 17 #[.pointer (some ⟨j, 0, none⟩)] w fun e w' => e = .returned (errV 6) ∧ LgTo S w w' j l p sf 0 true := by
  obtain ⟨F, b, v, h⟩ := h
  have c4 := h.c4
  have HQ : Hid (Lq S F w j b v l (flatD l ++ p) sf 0 false) := h.q
  rw [errN (by omega)]
  clear h
  go_enter Tryd.func17, Tryd.ntmps17
  go_wp2_with (go_at_call 49; refine (stops_c HQ.out (by omega)).mono ?_; rintro e w1 ⟨rfl, hq, hk⟩; have HQ1 : Hid (Lq S F w1 j b v l (flatD l ++ p) sf 0 true) := hq; have HK1 : Hid (Kept S w w1) := hk; clear hq hk; rw [show ((0 : Int) == 0) = true from rfl])
  go_ret
  exact ⟨rfl, HQ1.out.to rfl HK1.out (fun x hx => .inl hx)⟩
theorem lgSync_go {S : Nat → Prop} {w : World} {j n : Nat} {l : List Deed} {p : List Nat} {sf : Nat} {lf : Int} (h : LgAt S w j l p sf lf false) (h0 : lf ≠ 0) (hlf : lf ≤ 9223372036854775807) (hn : (flatD l ++ p).length = n) :
    Calls Tryd.prog 17 #[.pointer (some ⟨j, 0, none⟩)] w fun e w' => e = .returned .nilIface ∧ LgTo S w w' j l p n (lfN lf) false := by
  obtain ⟨F, b, v, h⟩ := h
  have c4 := h.c4
  have HQ : Hid (Lq S F w j b v l (flatD l ++ p) sf lf false) := h.q
  have HN : Hid ((flatD l ++ p).length = n) := hn
  have HLf : Hid (lf ≤ 9223372036854775807 ∧ (lf == 0) = false) := ⟨hlf, by simp [h0]⟩
  obtain ⟨p4, q4, hv4⟩ := sliceB h.row
  rw [hn] at hv4
  subst hv4
  have HSj : Hid (S j) := h.sj
  clear h hn h0 hlf
  go_enter Tryd.func17, Tryd.ntmps17
  go_upto_if 10 with (go_at_call 49; refine (stops_c HQ.out HLf.out.1).mono ?_; rintro e w1 ⟨rfl, hq, hk⟩; have HQ1 : Hid (Lq S F w1 j b (.slice p4 n q4) l (flatD l ++ p) sf (lfN lf) (lf == 0)) := hq; have HK1 : Hid (Kept S w w1) := hk; clear hq hk; rw [HLf.out.2] at HQ1 ⊢; have d1 := HQ1.out.c1; have d2 := HQ1.out.c2; have df := HQ1.out.fz 2)
  go_wp2_with fail
  go_ret
  exact ⟨rfl, (HQ1.out.setSf n).to rfl (setKept HK1.out j 2 (.inl HSj.out) _) (fun x hx => .inl hx)⟩
theorem lgFail_c {S : Nat → Prop} {w : World} {j : Nat} {l : List Deed} {p : List Nat} {sf : Nat} {lf : Int} {st : Bool} (n : Int) (h : LgAt S w j l p sf lf st) :
    Calls Tryd.prog 23 #[.pointer (some ⟨j, 0, none⟩), .int .i64 n] w fun e w' => e = .returned (.tuple #[]) ∧ LgTo S w w' j l p sf n st := by
  obtain ⟨F, b, v, h⟩ := h
  have c3 := h.c3
  have f3 := h.fz 3
  have HE : Hid (LgTo S w (w.setCell ⟨j, 3, none⟩ (.int .i64 n)) j l p sf n st) := (h.q.setLf n).to rfl (setKept (Kept.refl _ _) j 3 (.inl h.sj) _) (fun x hx => .inl hx)
  clear h
  go_enter Tryd.func23, Tryd.ntmps23
  go_wp2_with fail
  refine bodyPost_end (v := .tuple #[]) (by simp [results, Tryd.results23, go_sem]) rfl ?_
  exact ⟨rfl, HE.out⟩
theorem lgSafe_c {S : Nat → Prop} {w : World} {j : Nat} {l : List Deed} {p : List Nat} {sf : Nat} {lf : Int} {st : Bool} (h : LgAt S w j l p sf lf st) :
    Calls Tryd.prog 22 #[.pointer (some ⟨j, 0, none⟩)] w fun e w' => e = .returned (.int .i64 sf) ∧ w' = w := by
  obtain ⟨F, b, v, h⟩ := h
  have c2 := h.c2
  clear h
  go_enter Tryd.func22, Tryd.ntmps22
  go_wp2_with fail
  go_ret
  exact ⟨rfl, rfl⟩
end Go.Proofs.YtpcnfoaoajfhlaaDoor
