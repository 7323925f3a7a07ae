/-
  mereref1.Key by its contract.
  mereref1.Entry and mereref1.Join by their contracts: the document's answers are those of package entry.
  The document's caches (mereref1.Cache, Get) by their contracts.
  The document's Get of a cache (mereref1.Get) by its contract.
  The document's number of an entry and of two numbers, by their contracts.
  The document's Node and Part (mereref1) by their contracts.
  mereref1.Join by its contract.
  What the document's Add builds, row by row (where a row's append is told elsewhere).
  The document's Add to a cache (mereref1.Add) by its contract.
  The document's Add to a cache that has the key (mereref1.Add) by its contract.
  The document's Add and All (mereref1) by their contracts: they build what package cache builds.
  meresame.Ints and mereref1.In by their contracts.
  The document's Some and Swap.
-/
import Derived.Test.YtippdgmgmenboagDoorMa
import Derived.Test.YtippdgmgmenboagDoorMb
import Derived.BigRegion
import Derived.BigQuiet
import Derived.Test.YtippdgmgmenboagDoorMn
import Derived.Test.YtippdgmgmenboagDoorMg
import Derived.Test.YtippdgmgmenboagDoorMc
namespace Go.Proofs.YtippdgmgmenboagDoor
set_option linter.unusedVariables false
set_option linter.unusedSimpArgs false
set_option linter.unusedVariables false
set_option linter.unusedSimpArgs false
open Go.RowKit
def isK (k : Int) : Bool := decide (0 ≤ k) && decide (k < 8)
theorem refKey_c (k : Int) (w : World) : Calls Tryd.prog 16 #[.int .i64 k] w fun e w' => e = .returned (.bool (isK k)) ∧ w' = w := by
  by_cases h : 0 ≤ k
  · have hd : decide (0 ≤ k) = true := by simpa using h
    go_enter Tryd.func16, Tryd.ntmps16
    go_wp2
    go_ret
    have e : decide (k ≤ 7) = decide (k < 8) := decide_eq_decide.2 ⟨fun h => by omega, fun h => by omega⟩
    exact ⟨by simp [isK, h, e], rfl⟩
  · have hd : decide (0 ≤ k) = false := by simpa using h
    go_enter Tryd.func16, Tryd.ntmps16
    go_wp2
    go_ret
    exact ⟨by simp [isK, h] <;> omega, rfl⟩
theorem refKey_b (k : Int) (b : Bool) (w : World) (h : isK k = b) : Calls Tryd.prog 16 #[.int .i64 k] w fun e w' => e = .returned (.bool b) ∧ w = w' := by
  subst h; exact (refKey_c k w).mono fun _ _ h => ⟨h.1, h.2.symm⟩

end Go.Proofs.YtippdgmgmenboagDoor

namespace Go.Proofs.YtippdgmgmenboagDoor
set_option linter.unusedVariables false
set_option linter.unusedSimpArgs false
open Go.RowKit
theorem bad1 {k v a : Int} {g : Bool} {t : ByteArray} (h : ¬ (0 ≤ k ∧ k < 8 ∧ 0 ≤ v ∧ v ≤ 1000 ∧ v ≤ a ∧ a ≤ 1000)) : bad k v a g t = 1 := by
  refine bad_ver ?_
  cases hx : (inR k 0 7 && inR v 0 1000 && inR a v 1000)
  · rfl
  · simp [inR] at hx
    omega
theorem in_all {k v a : Int} (h : 0 ≤ k ∧ k < 8 ∧ 0 ≤ v ∧ v ≤ 1000 ∧ v ≤ a ∧ a ≤ 1000) : (inR k 0 7 && inR v 0 1000 && inR a v 1000) = true := by
  simp [inR]
  omega
theorem bad4 {k v a : Int} {g : Bool} {t : ByteArray} (h : 0 ≤ k ∧ k < 8 ∧ 0 ≤ v ∧ v ≤ 1000 ∧ v ≤ a ∧ a ≤ 1000) (h2 : 12 < (t.size : Int)) : bad k v a g t = 4 := bad_full (in_all h) h2
theorem bad3 {k v a : Int} {t : ByteArray} (h : 0 ≤ k ∧ k < 8 ∧ 0 ≤ v ∧ v ≤ 1000 ∧ v ≤ a ∧ a ≤ 1000) (h2 : ¬ 12 < (t.size : Int)) (h3 : (!t.toList.isEmpty) = true) : bad k v a true t = 3 := bad_shape (in_all h) h2 (by rw [h3]; rfl)
theorem bad0 {k v a : Int} {t : ByteArray} (h : 0 ≤ k ∧ k < 8 ∧ 0 ≤ v ∧ v ≤ 1000 ∧ v ≤ a ∧ a ≤ 1000) (h2 : ¬ 12 < (t.size : Int)) (h3 : (!t.toList.isEmpty) = false) : bad k v a true t = 0 := bad_none (in_all h) h2 (by rw [h3]; rfl)
theorem bad0f {k v a : Int} {t : ByteArray} (h : 0 ≤ k ∧ k < 8 ∧ 0 ≤ v ∧ v ≤ 1000 ∧ v ≤ a ∧ a ≤ 1000) (h2 : ¬ 12 < (t.size : Int)) : bad k v a false t = 0 := bad_none (in_all h) h2 rfl
set_option maxHeartbeats 4000000 in
theorem rEntry_c (k v a : Int) (g : Bool) (t : ByteArray) (w : World) :
    Calls Tryd.prog 27 #[.agg #[.int .i64 k, .int .i64 v, .int .i64 a, .bool g, .string t]] w fun e w' => e = .returned (.int .i64 (bad k v a g t)) ∧ Below w.heap.size w w' := by
  obtain ⟨B, HB⟩ : ∃ B, Hid (bad k v a g t = B) := ⟨_, rfl⟩
  rw [HB.out]
  obtain ⟨b0, H0⟩ : ∃ b, Hid (isK k = b) := ⟨_, rfl⟩
  go_enter Tryd.func27, Tryd.ntmps27
  cases b0
  · go_wp2_with (go_at_call 16; refine (refKey_b _ false _ H0.out).mono ?_; rintro e w' ⟨rfl, rfl⟩)
    go_ret
    refine ⟨?_, by go_grown⟩
    have hk := H0.out
    simp [isK] at hk
    rw [← HB.out, bad1 (by omega)]
    rfl
  · have hk : 0 ≤ k ∧ k < 8 := by simpa [isK] using H0.out
    cases g
    · go_wp2_with (go_at_call 16; refine (refKey_b _ true _ H0.out).mono ?_; rintro e w' ⟨rfl, rfl⟩)
      all_goals (rename_i hx; go_ret; refine ⟨?_, by go_grown⟩; rw [← HB.out]; first | (rw [bad1 (by omega)]; rfl) | (rw [bad4 (by omega) (by omega)]; rfl) | (rw [bad3 (by omega) (by omega) (by simpa using hx)]; rfl) | (rw [bad0 (by omega) (by omega) (by simpa using hx)]; rfl) | (rw [bad0f (by omega) (by omega)]; rfl))
    · go_wp2_with (go_at_call 16; refine (refKey_b _ true _ H0.out).mono ?_; rintro e w' ⟨rfl, rfl⟩)
      all_goals (rename_i hx; go_ret; refine ⟨?_, by go_grown⟩; rw [← HB.out]; first | (rw [bad1 (by omega)]; rfl) | (rw [bad4 (by omega) (by omega)]; rfl) | (rw [bad3 (by omega) (by omega) (by simpa using hx)]; rfl) | (rw [bad0 (by omega) (by omega) (by simpa using hx)]; rfl) | (rw [bad0f (by omega) (by omega)]; rfl))
/-- Join of two right entries of one key -/
theorem joinE_go {x y : En} (hb : bad2 (bad x.k x.v x.a x.g x.t) (bad y.k y.v y.a y.g y.t) = 0) (hk : x.k = y.k) : joinE x y = if newerB x.v x.a y.v y.a = true then (if clashB y.v y.a y.g y.t x.v x.g x.t = true then (⟨0, 0, 0, false, ⟨#[]⟩⟩, 7) else (x, 0)) else if clashB x.v x.a x.g x.t y.v y.g y.t = true then (⟨0, 0, 0, false, ⟨#[]⟩⟩, 7) else (y, 0) := by
  unfold joinE
  rw [if_neg (by simpa using hb), if_neg (by simpa using hk)]
theorem go_eq7 {x y : En} (hb : bad2 (bad x.k x.v x.a x.g x.t) (bad y.k y.v y.a y.g y.t) = 0) (hk : x.k = y.k) (hv : x.v = y.v) (h : ((!(x.g == y.g)) || !(x.t.toList == y.t.toList)) = true) : joinE x y = (⟨0, 0, 0, false, ⟨#[]⟩⟩, 7) := by
  have h' : ((!(y.g == x.g)) || !(y.t.toList == x.t.toList)) = true := by
    rw [Bool.beq_comm (a := y.g), BEq.comm (a := y.t.toList)]
    exact h
  rw [joinE_go hb hk]
  unfold clashB
  rw [if_pos hv, if_pos hv.symm, h, h']
  simp
theorem go_eqa {x y : En} (hb : bad2 (bad x.k x.v x.a x.g x.t) (bad y.k y.v y.a y.g y.t) = 0) (hk : x.k = y.k) (hv : x.v = y.v) (h : ((!(x.g == y.g)) || !(x.t.toList == y.t.toList)) = false) (ha : y.a < x.a) : joinE x y = (x, 0) := by
  have h' : ((!(y.g == x.g)) || !(y.t.toList == x.t.toList)) = false := by
    rw [Bool.beq_comm (a := y.g), BEq.comm (a := y.t.toList)]
    exact h
  rw [joinE_go hb hk]
  unfold clashB newerB
  rw [if_pos hv, if_pos hv, if_pos hv.symm, h, h']
  simp [ha]
theorem go_eqb {x y : En} (hb : bad2 (bad x.k x.v x.a x.g x.t) (bad y.k y.v y.a y.g y.t) = 0) (hk : x.k = y.k) (hv : x.v = y.v) (h : ((!(x.g == y.g)) || !(x.t.toList == y.t.toList)) = false) (ha : ¬ y.a < x.a) : joinE x y = (y, 0) := by
  rw [joinE_go hb hk]
  unfold clashB newerB
  rw [if_pos hv, if_pos hv, if_pos hv.symm, h]
  simp [ha]
theorem go_lt7 {x y : En} (hb : bad2 (bad x.k x.v x.a x.g x.t) (bad y.k y.v y.a y.g y.t) = 0) (hk : x.k = y.k) (hv : x.v < y.v) (ha : y.v ≤ x.a) : joinE x y = (⟨0, 0, 0, false, ⟨#[]⟩⟩, 7) := by
  rw [joinE_go hb hk]
  unfold clashB newerB
  have n1 : ¬ x.v = y.v := by omega
  have n2 : ¬ y.v = x.v := by omega
  have n3 : ¬ y.v < x.v := by omega
  simp only [n1, n2, n3, ha, if_false, decide_false, decide_true, Bool.false_eq_true, if_true]
theorem go_ltb {x y : En} (hb : bad2 (bad x.k x.v x.a x.g x.t) (bad y.k y.v y.a y.g y.t) = 0) (hk : x.k = y.k) (hv : x.v < y.v) (ha : ¬ y.v ≤ x.a) : joinE x y = (y, 0) := by
  rw [joinE_go hb hk]
  unfold clashB newerB
  have n1 : ¬ x.v = y.v := by omega
  have n2 : ¬ y.v = x.v := by omega
  have n3 : ¬ y.v < x.v := by omega
  simp only [n1, n2, n3, ha, if_false, decide_false, decide_true, Bool.false_eq_true, if_true]
theorem go_swap {x y : En} (hb : bad2 (bad x.k x.v x.a x.g x.t) (bad y.k y.v y.a y.g y.t) = 0) (hk : x.k = y.k) (hv : y.v < x.v) : joinE x y = joinE y x := by
  have hb' : bad2 (bad y.k y.v y.a y.g y.t) (bad x.k x.v x.a x.g x.t) = 0 := by
    unfold bad2 at *
    split at hb <;> simp_all
  by_cases ha : x.v ≤ y.a
  · rw [go_lt7 hb' hk.symm hv ha, joinE_go hb hk]
    unfold clashB newerB
    have n1 : ¬ x.v = y.v := by omega
    have n2 : ¬ y.v = x.v := by omega
    simp only [n1, n2, hv, ha, if_false, decide_false, decide_true, Bool.false_eq_true, if_true]
  · rw [go_ltb hb' hk.symm hv ha, joinE_go hb hk]
    unfold clashB newerB
    have n1 : ¬ x.v = y.v := by omega
    have n2 : ¬ y.v = x.v := by omega
    simp only [n1, n2, hv, ha, if_false, decide_false, decide_true, Bool.false_eq_true, if_true]
end Go.Proofs.YtippdgmgmenboagDoor

namespace Go.Proofs.YtippdgmgmenboagDoor
set_option linter.unusedVariables false
set_option linter.unusedSimpArgs false
open Go.RowKit

theorem rEntry_o {k v a : Int} {g : Bool} {t : ByteArray} {n : Int} (h : bad k v a g t = n) (w : World) :
    Calls Tryd.prog 27 #[.agg #[.int .i64 k, .int .i64 v, .int .i64 a, .bool g, .string t]] w fun e w' => e = .returned (.int .i64 n) ∧ Below w.heap.size w w' := by
  subst h
  exact rEntry_c k v a g t w
set_option maxHeartbeats 4000000 in
theorem rCache_c (v : Value) (l : List En) (w : World) (hr : RowIs w v l) :
    Calls Tryd.prog 14 #[v] w fun e w' => e = .returned (.int .i64 (badL l)) ∧ Below w.heap.size w w' := by
  obtain ⟨hlen, p, cap, rfl, hrow⟩ := hr
  by_cases h8 : 8 < l.length
  · have e : badL l = 4 := by rw [badL, if_pos h8]
    rw [e]
    have h8i : (8 : Int) < (l.length : Int) := by omega
    go_enter Tryd.func14, Tryd.ntmps14
    go_wp2_with fail
    go_ret
    exact ⟨rfl, by go_grown⟩
  · have E : Hid (badL l = badRow (keyAhead l 0) (l.drop 0)) := by
      show badL l = _
      rw [badL, if_neg h8, keyAhead_zero, List.drop_zero]
    obtain ⟨R, HR⟩ : ∃ R, Hid (badL l = R) := ⟨_, rfl⟩
    rw [HR.out]
    have HRow : Hid (l ≠ [] → ∃ b o, p = some ⟨b, o, none⟩ ∧ b < w.heap.size ∧ ∀ j (h : j < l.length), EnAt w b (o + j * 5) l[j]) := hrow
    clear hrow
    have h8i : ¬ (8 : Int) < (l.length : Int) := by omega
    generalize hn : l.length = n at hlen h8 h8i ⊢
    have HN : Hid (l.length = n) := hn
    clear hn
    go_enter Tryd.func14, Tryd.ntmps14
    go_wp2_with fail
    go_loopw [3] (fun i wr => ∃ j : Nat, j ≤ n ∧ i = .int .i64 j ∧ Hid (R = badRow (keyAhead l j) (l.drop j)) ∧ Hid (Below w.heap.size w wr)) (fun i _ => n - (intOf i).toNat)
    case atStart => exact ⟨0, Nat.zero_le _, rfl, HR.out.symm.trans E.out, Below.refl _ _⟩
    case round =>
      obtain ⟨j, hj, rfl, HJ, HB⟩ := hrel
      by_cases hlt : j < n
      · have hl : l ≠ [] := by intro h; have := HN.out; rw [h] at this; simp at this; omega
        obtain ⟨b, o, rfl, hbw, hat⟩ := HRow.out hl
        have hjl : j < l.length := by rw [HN.out]; exact hlt
        have HA : Hid (∀ j (h : j < l.length), EnAt wr b (o + j * 5) l[j]) := fun j h => (hat j h).of_block (HB.out.block b hbw)
        clear hat
        have hws := HB.out.size
        have hbr : b < wr.heap.size := by omega
        obtain ⟨x, HX⟩ : ∃ x, Hid (l[j] = x) := ⟨l[j], show l[j] = l[j] from rfl⟩
        obtain ⟨c0, c1, c2, c3, c4⟩ := HA.out j hjl
        rw [HX.out] at c0 c1 c2 c3 c4
        obtain ⟨k, vv, a, g, t⟩ := x
        dsimp only at c0 c1 c2 c3 c4
        obtain ⟨m, HM⟩ : ∃ m, Hid (bad k vv a g t = m) := ⟨_, rfl⟩
        have HLb : Hid (l[j].bad = m) := by
          show l[j].bad = m
          rw [HX.out]
          exact HM.out
        have HLk : Hid (l[j].k = k) := by
          show l[j].k = k
          rw [HX.out]
        clear HX
        go_wp2_with fail
        by_cases hm : m = 0
        · subst hm
          refine (rEntry_o HM.out _).mono ?_
          rintro e w1 ⟨rfl, hb⟩
          have B1 : Hid (Below w.heap.size w w1) := HB.out.trans (hb.mono hws)
          have HA1 : Hid (∀ j (h : j < l.length), EnAt w1 b (o + j * 5) l[j]) := fun j h => (HA.out j h).of_block (hb.block b hbr)
          clear hb c0 c1 c2 c3 c4 HA HM
          by_cases h0 : j = 0
          · subst h0
            rw [keyAhead_zero, badRow_first hjl HLb.out, HLk.out] at HJ
            go_upto_region 9 with fail
            go_region
            all_goals go_wp2_with fail
            all_goals go_roundw
            case rel => exact ⟨1, by omega, by go_num, by rw [show (1 : Nat) = 0 + 1 from rfl, keyAhead_succ l 0 hjl, HLk.out]; exact HJ, B1.out.drew⟩
            case measure => simp [intOf]; omega
          · obtain ⟨i, rfl⟩ : ∃ i, j = i + 1 := ⟨j - 1, by omega⟩
            have hil : i < l.length := by omega
            obtain ⟨q, HQ⟩ : ∃ q, Hid (l[i].k = q) := ⟨l[i].k, show l[i].k = l[i].k from rfl⟩
            rw [keyAhead_succ l i hil, HQ.out] at HJ
            have z0 := (HA1.out (i + 1) hjl).c0
            rw [HLk.out] at z0
            have g3 : ((i : Int) + 1) < (n : Int) := by omega
            have y0 := (HA1.out i hil).c0
            rw [HQ.out] at y0
            have g0 : (0 : Int) < ((i : Int) + 1) := by omega
            have g1 : ((i : Int) + 1 - 1) = i := by omega
            have g2 : (i : Int) < (n : Int) := by omega
            by_cases hk : k ≤ q
            · rw [badRow_low hjl HLb.out (by rw [HLk.out]; exact hk)] at HJ
              go_upto_region 9 with fail
              go_region
              all_goals go_wp2_with fail
              all_goals go_ret
              all_goals exact ⟨by rw [HJ.out]; rfl, B1.out.drew⟩
            · rw [badRow_next hjl HLb.out (by rw [HLk.out]; exact hk), HLk.out] at HJ
              go_upto_region 9 with fail
              go_region
              all_goals go_wp2_with fail
              all_goals go_roundw
              case rel => exact ⟨i + 1 + 1, by omega, by go_num, by rw [keyAhead_succ l (i + 1) hjl, HLk.out]; exact HJ, B1.out.drew⟩
              case measure => simp [intOf]; omega
        · refine (rEntry_o HM.out _).mono ?_
          rintro e w1 ⟨rfl, hb⟩
          have B1 : Hid (Below w.heap.size w w1) := HB.out.trans (hb.mono hws)
          clear hb
          rw [badRow_bad hjl (by rw [HLb.out]; exact hm), HLb.out] at HJ
          go_wp2_with fail
          go_ret
          exact ⟨by rw [HJ.out]; rfl, B1.out⟩
      · obtain rfl : j = n := by omega
        have HR0 : Hid (R = 0) := by
          show R = 0
          rw [HJ.out, List.drop_eq_nil_of_le (by rw [HN.out]; exact Nat.le_refl _)]
          cases keyAhead l j <;> rfl
        go_wp2_with fail
        go_ret
        exact ⟨by rw [HR0.out]; rfl, HB.out⟩
end Go.Proofs.YtippdgmgmenboagDoor

namespace Go.Proofs.YtippdgmgmenboagDoor
set_option linter.unusedVariables false
set_option linter.unusedSimpArgs false
open Go.RowKit

theorem getE_hit {l : List En} {key : Int} {j : Nat} (h : j < l.length) (hk : l[j].k = key) : getE (l.drop j) key = some l[j] := by
  rw [List.drop_eq_getElem_cons h]
  unfold getE
  rw [List.find?_cons_of_pos (by simpa using hk)]
theorem getE_miss {l : List En} {key : Int} {j : Nat} (h : j < l.length) (hk : ¬ l[j].k = key) : getE (l.drop j) key = getE (l.drop (j + 1)) key := by
  rw [List.drop_eq_getElem_cons h]
  unfold getE
  rw [List.find?_cons_of_neg (by simpa using hk)]
/-- what the document's Get answers -/
def hadE (o : Option En) : En := match o with | some x => x | none => ⟨0, 0, 0, false, ⟨#[]⟩⟩
set_option maxHeartbeats 4000000 in
theorem rGet_c (v : Value) (l : List En) (key : Int) (w : World) (hr : RowIs w v l) :
    Calls Tryd.prog 37 #[v, .int .i64 key] w fun e w' => e = .returned (.tuple #[(hadE (getE l key)).val, .bool (getE l key).isSome]) ∧ Below w.heap.size w w' := by
  obtain ⟨hlen, p, cap, rfl, hrow⟩ := hr
  have HRow : Hid (l ≠ [] → ∃ b o, p = some ⟨b, o, none⟩ ∧ b < w.heap.size ∧ ∀ j (h : j < l.length), EnAt w b (o + j * 5) l[j]) := hrow
  clear hrow
  obtain ⟨n, HN⟩ : ∃ n, Hid (l.length = n) := ⟨_, rfl⟩
  rw [HN.out] at hlen ⊢
  have hn63 : n ≤ 9223372036854775807 := hlen
  obtain ⟨R, HR⟩ : ∃ R, Hid (getE l key = R) := ⟨_, rfl⟩
  rw [HR.out]
  go_enter Tryd.func37, Tryd.ntmps37
  go_wp2_with fail
  go_loopw [6] (fun i wr => ∃ j : Nat, j ≤ n ∧ i = .int .i64 j ∧ Hid (R = getE (l.drop j) key) ∧ wr = w.alloc (.cells #[.int .i64 0, .int .i64 0, .int .i64 0, .bool false, .string ⟨#[]⟩] 46)) (fun i _ => n - (intOf i).toNat)
  case atStart => exact ⟨0, Nat.zero_le _, rfl, by rw [List.drop_zero]; exact HR.out.symm, rfl⟩
  case round =>
    obtain ⟨j, hj, rfl, HE, rfl⟩ := hrel
    by_cases hlt : j < n
    · have hjl : j < l.length := by rw [HN.out]; exact hlt
      obtain ⟨b, o, rfl, hbw, hat⟩ := HRow.out (fun h => by simp [h] at hjl)
      have HAt : Hid (EnAt (w.alloc (.cells #[.int .i64 0, .int .i64 0, .int .i64 0, .bool false, .string ⟨#[]⟩] 46)) b (o + j * 5) l[j]) := (hat j hjl).of_block (Below.heap_alloc _ _ _ hbw)
      clear hat
      have hlti : (j : Int) < (n : Int) := by omega
      obtain ⟨x, HX⟩ : ∃ x, Hid (l[j] = x) := ⟨l[j], show l[j] = l[j] from rfl⟩
      have HH : Hid (x.k = key → R = some x) := fun hk => by rw [HE.out, getE_hit hjl (by rw [HX.out]; exact hk), HX.out]
      have HMs : Hid (¬ x.k = key → R = getE (l.drop (j + 1)) key) := fun hk => by rw [HE.out, getE_miss hjl (by rw [HX.out]; exact hk)]
      rw [HX.out] at HAt
      obtain ⟨x0, x1, x2, x3, x4⟩ := x
      obtain ⟨c0, c1, c2, c3, c4⟩ := HAt.out
      dsimp only at c0 c1 c2 c3 c4
      have p1 : ¬ b = w.heap.size := by omega
      have p2 : ¬ w.heap.size = b := by omega
      by_cases hk : x0 = key
      · have hkb : (x0 == key) = true := by simp [hk]
        have HS : Hid (R = some ⟨x0, x1, x2, x3, x4⟩) := HH.out hk
        clear hk
        go_wp2_with fail
        refine bodyPost_ret (v := .tuple #[.agg #[.int .i64 x0, .int .i64 x1, .int .i64 x2, .bool x3, .string x4], .bool true]) (by simp [results, Tryd.results37, go_sem]) rfl ?_
        refine ⟨by rw [HS.out]; rfl, ?_⟩
        go_grown
      · have hkb : (x0 == key) = false := by simp [hk]
        have HS : Hid (R = getE (l.drop (j + 1)) key) := HMs.out hk
        clear hk
        go_wp2_with fail
        go_roundw
        case rel => exact ⟨j + 1, by omega, by go_num, HS, by first | rfl | trivial⟩
        case measure => simp [intOf]; omega
    · obtain rfl : j = n := by omega
      have HS : Hid (R = none) := by
        show R = none
        rw [HE.out, List.drop_eq_nil_of_le (by rw [HN.out]; exact Nat.le_refl _)]
        rfl
      go_wp2_with fail
      refine bodyPost_ret (v := .tuple #[.agg #[.int .i64 0, .int .i64 0, .int .i64 0, .bool false, .string ⟨#[]⟩], .bool false]) (by simp [results, Tryd.results37, go_sem]) rfl ?_
      refine ⟨by rw [HS.out]; rfl, ?_⟩
      go_grown
theorem rGet_none {l : List En} {key : Int} (h : getE l key = none) (v : Value) (w : World) (hr : RowIs w v l) :
    Calls Tryd.prog 37 #[v, .int .i64 key] w fun e w' => e = .returned (.tuple #[.agg #[.int .i64 0, .int .i64 0, .int .i64 0, .bool false, .string ⟨#[]⟩], .bool false]) ∧ Below w.heap.size w w' := by
  have c := rGet_c v l key w hr
  rw [h] at c
  exact c
theorem rGet_some {l : List En} {key x0 x1 x2 : Int} {x3 : Bool} {x4 : ByteArray} (h : getE l key = some ⟨x0, x1, x2, x3, x4⟩) (v : Value) (w : World) (hr : RowIs w v l) :
    Calls Tryd.prog 37 #[v, .int .i64 key] w fun e w' => e = .returned (.tuple #[.agg #[.int .i64 x0, .int .i64 x1, .int .i64 x2, .bool x3, .string x4], .bool true]) ∧ Below w.heap.size w w' := by
  have c := rGet_c v l key w hr
  rw [h] at c
  exact c
end Go.Proofs.YtippdgmgmenboagDoor

namespace Go.Proofs.YtippdgmgmenboagDoor
set_option linter.unusedVariables false
set_option linter.unusedSimpArgs false
open Go.RowKit

set_option maxHeartbeats 4000000 in
theorem rPair_c (a b : Nat) (ha : a ≤ 9223372036854775807) (hb : b ≤ 9223372036854775807) (w : World) :
    Calls Tryd.prog 39 #[.int .i64 (a : Nat), .int .i64 (b : Nat)] w fun e w' => e = .returned (.int .i64 (hashL (byN (str2 a b)) : Nat)) ∧ Below w.heap.size w w' := by
  have hsa := digS_size a ha
  have hsb := digS_size b hb
  have HE : str2 a b = digS a ++ ⟨#[47]⟩ ++ digS b := rfl
  have hz1 : (⟨#[47]⟩ : ByteArray).size = 1 := rfl
  have HS3 : Hid ((digS a ++ ⟨#[47]⟩ ++ digS b).size ≤ 9223372036854775807) := by
    show _ ≤ _
    rw [ByteArray.size_append, ByteArray.size_append, hz1]
    omega
  clear hz1
  rw [HE]
  clear HE
  have HA : Hid (a ≤ 9223372036854775807) := ha
  have HB : Hid (b ≤ 9223372036854775807) := hb
  obtain ⟨x, HX⟩ : ∃ x, Hid (digS a = x) := ⟨_, rfl⟩
  obtain ⟨y, HY⟩ : ∃ y, Hid (digS b = y) := ⟨_, rfl⟩
  have HDa : Hid (∀ w, Calls Tryd.prog 52 #[.int .i64 (a : Nat)] w fun e w' => e = .returned (.string x) ∧ w' = w) := by
    rw [← HX.out]
    exact digits_c a ha
  have HDb : Hid (∀ w, Calls Tryd.prog 52 #[.int .i64 (b : Nat)] w fun e w' => e = .returned (.string y) ∧ w' = w) := by
    rw [← HY.out]
    exact digits_c b hb
  rw [HX.out] at hsa
  rw [HY.out] at hsb
  rw [HX.out, HY.out] at HS3 ⊢
  have hs1 : ¬ 9223372036854775807 < x.size + 1 := by omega
  have hs2 : ¬ 9223372036854775807 < x.size + 1 + y.size := by omega
  go_enter Tryd.func39, Tryd.ntmps39
  go_wp2_with fail
  refine (HDa.out _).mono ?_
  rintro e w1 ⟨rfl, rfl⟩
  go_wp2_with fail
  refine (HDb.out _).mono ?_
  rintro e w1 ⟨rfl, rfl⟩
  go_wp2_with fail
  refine (rHash_c _ _ HS3.out).mono ?_
  rintro e w2 ⟨rfl, hb2⟩
  have HB2 := hb2
  go_wp2_with fail
  go_ret
  exact ⟨rfl, HB2⟩

set_option maxHeartbeats 4000000 in
theorem rOne_c (k v : Nat) (a : Int) (g : Bool) (t : ByteArray) (hk : k ≤ 1000) (hv : v ≤ 1000) (ht : t.size ≤ 12) (w : World) :
    Calls Tryd.prog 38 #[.agg #[.int .i64 (k : Nat), .int .i64 (v : Nat), .int .i64 a, .bool g, .string t]] w fun e w' => e = .returned (.int .i64 (hashL (byN (strE k v g t)) : Nat)) ∧ Below w.heap.size w w' := by
  have hsk := digS_size k (by omega)
  have hsv := digS_size v (by omega)
  obtain ⟨x, HX⟩ : ∃ x, Hid (digS k = x) := ⟨_, rfl⟩
  obtain ⟨y, HY⟩ : ∃ y, Hid (digS v = y) := ⟨_, rfl⟩
  have HDk : Hid (∀ w, Calls Tryd.prog 52 #[.int .i64 (k : Nat)] w fun e w' => e = .returned (.string x) ∧ w' = w) := by
    rw [← HX.out]
    exact digits_c k (by omega)
  have HDv : Hid (∀ w, Calls Tryd.prog 52 #[.int .i64 (v : Nat)] w fun e w' => e = .returned (.string y) ∧ w' = w) := by
    rw [← HY.out]
    exact digits_c v (by omega)
  rw [HX.out] at hsk
  rw [HY.out] at hsv
  have hs1 : ¬ 9223372036854775807 < x.size + 1 := by omega
  have hs2 : ¬ 9223372036854775807 < x.size + 1 + y.size := by omega
  have hs3 : ¬ 9223372036854775807 < x.size + 1 + y.size + 1 := by omega
  have hs4 : ¬ 9223372036854775807 < x.size + 1 + y.size + 1 + 1 := by omega
  have hs5 : ¬ 9223372036854775807 < x.size + 1 + y.size + 1 + 1 + 1 := by omega
  have hs6 : ¬ 9223372036854775807 < x.size + 1 + y.size + 1 + 1 + 1 + t.size := by omega
  cases g with
  | false =>
    have hsz := str3_size k v 0 (by omega) (by omega) (by omega)
    have HE0 : strE k v false t = digS k ++ ⟨#[47]⟩ ++ digS v ++ ⟨#[47]⟩ ++ ⟨#[48]⟩ ++ ⟨#[47]⟩ ++ t := by
      rw [show strE k v false t = digS k ++ ⟨#[47]⟩ ++ digS v ++ ⟨#[47]⟩ ++ digS 0 ++ ⟨#[47]⟩ ++ t from rfl, digS_one (u := 0) (by omega)]
      rfl
    have HS3 : Hid ((digS k ++ ⟨#[47]⟩ ++ digS v ++ ⟨#[47]⟩ ++ ⟨#[48]⟩ ++ ⟨#[47]⟩ ++ t).size ≤ 9223372036854775807) := by
      show _ ≤ _
      rw [← HE0, show strE k v false t = str3 k v 0 ++ ⟨#[47]⟩ ++ t from rfl, ByteArray.size_append, ByteArray.size_append, show (⟨#[47]⟩ : ByteArray).size = 1 from rfl]
      omega
    rw [HE0]
    clear HE0
    rw [HX.out, HY.out] at HS3 ⊢
    go_enter Tryd.func38, Tryd.ntmps38
    go_upto_region 1 with fail
    obtain ⟨a0, a1, a2, a3, a4, af⟩ := box_new w k v a false t w.heap.size rfl
    go_wp2_with fail
    refine (HDk.out _).mono ?_
    rintro e w1 ⟨rfl, rfl⟩
    go_wp2_with fail
    refine (HDv.out _).mono ?_
    rintro e w1 ⟨rfl, rfl⟩
    go_wp2_with fail
    refine (rHash_c _ _ HS3.out).mono ?_
    rintro e w2 ⟨rfl, hb2⟩
    have HB2 : Hid (Below w.heap.size w w2) := Below.trans (by go_grown) (hb2.mono (by simp))
    clear hb2
    go_wp2_with fail
    go_ret
    exact ⟨rfl, HB2.out⟩
  | true =>
    have hsz := str3_size k v 1 (by omega) (by omega) (by omega)
    have HE0 : strE k v true t = digS k ++ ⟨#[47]⟩ ++ digS v ++ ⟨#[47]⟩ ++ ⟨#[49]⟩ ++ ⟨#[47]⟩ ++ t := by
      rw [show strE k v true t = digS k ++ ⟨#[47]⟩ ++ digS v ++ ⟨#[47]⟩ ++ digS 1 ++ ⟨#[47]⟩ ++ t from rfl, digS_one (u := 1) (by omega)]
      rfl
    have HS3 : Hid ((digS k ++ ⟨#[47]⟩ ++ digS v ++ ⟨#[47]⟩ ++ ⟨#[49]⟩ ++ ⟨#[47]⟩ ++ t).size ≤ 9223372036854775807) := by
      show _ ≤ _
      rw [← HE0, show strE k v true t = str3 k v 1 ++ ⟨#[47]⟩ ++ t from rfl, ByteArray.size_append, ByteArray.size_append, show (⟨#[47]⟩ : ByteArray).size = 1 from rfl]
      omega
    rw [HE0]
    clear HE0
    rw [HX.out, HY.out] at HS3 ⊢
    go_enter Tryd.func38, Tryd.ntmps38
    go_upto_region 1 with fail
    obtain ⟨a0, a1, a2, a3, a4, af⟩ := box_new w k v a true t w.heap.size rfl
    go_wp2_with fail
    refine (HDk.out _).mono ?_
    rintro e w1 ⟨rfl, rfl⟩
    go_wp2_with fail
    refine (HDv.out _).mono ?_
    rintro e w1 ⟨rfl, rfl⟩
    go_wp2_with fail
    refine (rHash_c _ _ HS3.out).mono ?_
    rintro e w2 ⟨rfl, hb2⟩
    have HB2 : Hid (Below w.heap.size w w2) := Below.trans (by go_grown) (hb2.mono (by simp))
    clear hb2
    go_wp2_with fail
    go_ret
    exact ⟨rfl, HB2.out⟩
end Go.Proofs.YtippdgmgmenboagDoor

namespace Go.Proofs.YtippdgmgmenboagDoor
set_option linter.unusedVariables false
set_option linter.unusedSimpArgs false
open Go.RowKit

theorem found_right {l : List En} {K : Nat} {x : En} (hb : badL l = 0) (hg : getE l (K : Int) = some x) : x.bad = 0 := by
  have G := badL_good hb
  obtain ⟨hj, hx, hk⟩ := getE_some G.rise hg
  exact G.all x (by rw [← hx]; exact List.getElem_mem _)

set_option maxHeartbeats 4000000 in
theorem rNode_end (l : List En) (v : Value) (i : Nat) (h8 : 8 ≤ i) (h16 : i < 16) (hb : badL l = 0) (w : World) (hr : RowIs w v l) :
    Calls Tryd.prog 23 #[v, .int .i64 (i : Nat)] w fun e w' => e = .returned (.int .i64 (trN (leafN l) i : Nat)) ∧ Below w.heap.size w w' := by
  have HR : Hid (RowIs w v l) := hr
  rw [trN_end _ h8]
  obtain ⟨K, hK⟩ : ∃ K, i - 8 = K := ⟨_, rfl⟩
  rw [hK]
  have i1 : (8 : Int) ≤ (i : Int) := by omega
  have i2 : (i : Int) - 8 = (K : Int) := by omega
  clear hK hr
  cases hgt : getE l (K : Int) with
  | none =>
    rw [leafN_none hgt]
    have HGt : Hid (getE l (K : Int) = none) := hgt
    clear hgt
    go_enter Tryd.func23, Tryd.ntmps23
    go_wp2_with fail
    refine (rGet_none HGt.out v _ HR.out).mono ?_
    rintro e w1 ⟨rfl, hb⟩
    have B1 : Hid (Below w.heap.size w w1) := hb
    clear hb
    go_wp2_with fail
    go_ret
    exact ⟨rfl, B1.out.alloc B1.out.size _⟩
  | some x =>
    rw [leafN_some hgt]
    have HGt : Hid (getE l (K : Int) = some x) := hgt
    have hxb := found_right hb hgt
    obtain ⟨N, HN⟩ : ∃ N, Hid (numE x = N) := ⟨_, rfl⟩
    rw [HN.out]
    obtain ⟨x0, x1, x2, x3, x4⟩ := x
    obtain ⟨K', V, rfl, rfl, hK, hV, ht⟩ := good_nats (show bad x0 x1 x2 x3 x4 = 0 from hxb)
    have HE : Hid (∀ w, Calls Tryd.prog 38 #[.agg #[.int .i64 (K' : Nat), .int .i64 (V : Nat), .int .i64 x2, .bool x3, .string x4]] w fun e w' => e = .returned (.int .i64 (N : Nat)) ∧ Below w.heap.size w w') := by
      rw [← HN.out]
      exact fun w => rOne_c K' V x2 x3 x4 (by omega) hV ht w
    clear hgt hxb HN hb
    go_enter Tryd.func23, Tryd.ntmps23
    go_wp2_with fail
    refine (rGet_some HGt.out v _ HR.out).mono ?_
    rintro e w1 ⟨rfl, hb⟩
    have B1 : Hid (Below w.heap.size w (w1.alloc (.cells #[.int .i64 (K' : Nat), .int .i64 (V : Nat), .int .i64 x2, .bool x3, .string x4] 46))) := hb.alloc hb.size _
    clear hb
    go_wp2_with fail
    refine (HE.out _).mono ?_
    rintro e w2 ⟨rfl, hb⟩
    have B2 : Hid (Below w.heap.size w w2) := B1.out.trans (hb.mono B1.out.size)
    clear hb B1
    go_wp2_with fail
    go_ret
    exact ⟨rfl, B2.out⟩

set_option maxHeartbeats 4000000 in
theorem rNode_c (l : List En) (v : Value) (hb : badL l = 0) : ∀ d i, dep i = d → 1 ≤ i → i < 16 → ∀ w, RowIs w v l →
    Calls Tryd.prog 23 #[v, .int .i64 (i : Nat)] w fun e w' => e = .returned (.int .i64 (trN (leafN l) i : Nat)) ∧ Below w.heap.size w w' := by
  intro d
  induction d with
  | zero =>
    intro i hd h1 h16 w hr
    have h8 : 8 ≤ i := by
      unfold dep at hd
      split at hd
      · omega
      · split at hd
        · omega
        · split at hd <;> omega
    exact rNode_end l v i h8 h16 hb w hr
  | succ d ih =>
    intro i hd h1 h16 w hr
    have h8 : i < 8 := by
      unfold dep at hd
      split at hd
      · omega
      · split at hd
        · omega
        · split at hd <;> omega
    obtain ⟨d1, d2⟩ := dep_two h1 h8
    have hA := trN_lt (leafN l) (leafN_lt l) (2 * i)
    have hB := trN_lt (leafN l) (leafN_lt l) (2 * i + 1)
    have cA := ih (2 * i) (by omega) (by omega) (by omega)
    have cB := ih (2 * i + 1) (by omega) (by omega) (by omega)
    rw [trN_two _ h1 h8]
    clear ih
    obtain ⟨A, hA'⟩ : ∃ A, trN (leafN l) (2 * i) = A := ⟨_, rfl⟩
    obtain ⟨B, hB'⟩ : ∃ B, trN (leafN l) (2 * i + 1) = B := ⟨_, rfl⟩
    rw [hA'] at hA cA ⊢
    rw [hB'] at hB cB ⊢
    obtain ⟨P1, hP1⟩ : ∃ P : Nat, 2 * i = P := ⟨_, rfl⟩
    obtain ⟨P2, hP2⟩ : ∃ P : Nat, P1 + 1 = P := ⟨_, rfl⟩
    have j1 : (2 : Int) * (i : Int) = (P1 : Int) := by omega
    have j2 : (P1 : Int) + 1 = (P2 : Int) := by omega
    have j3 : IntKind.i64.wrap (P1 : Int) = (P1 : Int) := wrap_small _ (by omega) (by omega)
    have j4 : IntKind.i64.wrap (P2 : Int) = (P2 : Int) := wrap_small _ (by omega) (by omega)
    have i3 : ¬ (8 : Int) ≤ (i : Int) := by omega
    rw [hP1, hP2] at cB
    rw [hP1] at cA
    have HR : Hid (RowIs w v l) := hr
    have HCa : Hid (∀ w, RowIs w v l → Calls Tryd.prog 23 #[v, .int .i64 (P1 : Nat)] w fun e w' => e = .returned (.int .i64 (A : Nat)) ∧ Below w.heap.size w w') := cA
    have HCb : Hid (∀ w, RowIs w v l → Calls Tryd.prog 23 #[v, .int .i64 (P2 : Nat)] w fun e w' => e = .returned (.int .i64 (B : Nat)) ∧ Below w.heap.size w w') := cB
    obtain ⟨R, hR⟩ : ∃ R, pairH A B = R := ⟨_, rfl⟩
    have HP : Hid (∀ w, Calls Tryd.prog 39 #[.int .i64 (A : Nat), .int .i64 (B : Nat)] w fun e w' => e = .returned (.int .i64 (R : Nat)) ∧ Below w.heap.size w w') := by
      rw [← hR]
      exact fun w => rPair_c A B (by omega) (by omega) w
    rw [hR]
    clear hA hB hA' hB' hP1 hP2 cA cB hR hr d1 d2 hd hb
    go_enter Tryd.func23, Tryd.ntmps23
    go_wp2_with fail
    refine (HCa.out _ HR.out).mono ?_
    rintro e w1 ⟨rfl, hb⟩
    have B1 : Hid (Below w.heap.size w w1) := hb
    clear hb HCa
    go_wp2_with fail
    refine (HCb.out _ (HR.out.below B1.out)).mono ?_
    rintro e w2 ⟨rfl, hb⟩
    have B2 : Hid (Below w.heap.size w w2) := B1.out.trans (hb.mono B1.out.size)
    clear hb HCb B1
    go_wp2_with fail
    refine (HP.out _).mono ?_
    rintro e w3 ⟨rfl, hb⟩
    have B3 : Hid (Below w.heap.size w w3) := B2.out.trans (hb.mono B2.out.size)
    clear hb HP B2
    go_wp2_with fail
    go_ret
    exact ⟨rfl, B3.out⟩

/-- Part by what it asks: alike, at an end, above it -/
theorem rPart_alike (va vb : Value) (i x : Nat) (w0 : World)
    (ca : ∀ w, Below w0.heap.size w0 w → Calls Tryd.prog 23 #[va, .int .i64 (i : Nat)] w fun e w' => e = .returned (.int .i64 (x : Nat)) ∧ Below w.heap.size w w')
    (cb : ∀ w, Below w0.heap.size w0 w → Calls Tryd.prog 23 #[vb, .int .i64 (i : Nat)] w fun e w' => e = .returned (.int .i64 (x : Nat)) ∧ Below w.heap.size w w') (w : World) (hw : Below w0.heap.size w0 w) :
    Calls Tryd.prog 7 #[va, vb, .int .i64 (i : Nat)] w fun e w' => e = .returned (.tuple #[.slice none 0 0, .int .i64 1]) ∧ Below w.heap.size w w' := by
  have HA : Hid (∀ w, Below w0.heap.size w0 w → Calls Tryd.prog 23 #[va, .int .i64 (i : Nat)] w fun e w' => e = .returned (.int .i64 (x : Nat)) ∧ Below w.heap.size w w') := ca
  have HB : Hid (∀ w, Below w0.heap.size w0 w → Calls Tryd.prog 23 #[vb, .int .i64 (i : Nat)] w fun e w' => e = .returned (.int .i64 (x : Nat)) ∧ Below w.heap.size w w') := cb
  have HW := (show Hid (Below _ _ _) from hw)
  clear ca cb hw
  go_enter Tryd.func7, Tryd.ntmps7
  go_wp2_with fail
  refine (HA.out _ HW.out).mono ?_
  rintro e w1 ⟨rfl, hb⟩
  have B1 : Hid (Below w.heap.size w w1) := hb
  clear hb HA
  go_wp2_with fail
  refine (HB.out _ (HW.out.trans (B1.out.mono HW.out.size))).mono ?_
  rintro e w2 ⟨rfl, hb⟩
  have B2 : Hid (Below w.heap.size w w2) := B1.out.trans (hb.mono B1.out.size)
  clear hb HB B1
  go_wp2_with fail
  go_ret2
  exact ⟨rfl, B2.out⟩
theorem rPart_end (va vb : Value) (i x y : Nat) (h8 : 8 ≤ i) (h16 : i < 16) (hxy : x ≠ y) (w0 : World)
    (ca : ∀ w, Below w0.heap.size w0 w → Calls Tryd.prog 23 #[va, .int .i64 (i : Nat)] w fun e w' => e = .returned (.int .i64 (x : Nat)) ∧ Below w.heap.size w w')
    (cb : ∀ w, Below w0.heap.size w0 w → Calls Tryd.prog 23 #[vb, .int .i64 (i : Nat)] w fun e w' => e = .returned (.int .i64 (y : Nat)) ∧ Below w.heap.size w w') (w : World) (hw : Below w0.heap.size w0 w) :
    Calls Tryd.prog 7 #[va, vb, .int .i64 (i : Nat)] w fun e w' => ∃ v', e = .returned (.tuple #[v', .int .i64 1]) ∧ OwnI w.heap.size w' v' [((i - 8 : Nat) : Int)] ∧ Below w.heap.size w w' := by
  have HA : Hid (∀ w, Below w0.heap.size w0 w → Calls Tryd.prog 23 #[va, .int .i64 (i : Nat)] w fun e w' => e = .returned (.int .i64 (x : Nat)) ∧ Below w.heap.size w w') := ca
  have HB : Hid (∀ w, Below w0.heap.size w0 w → Calls Tryd.prog 23 #[vb, .int .i64 (i : Nat)] w fun e w' => e = .returned (.int .i64 (y : Nat)) ∧ Below w.heap.size w w') := cb
  have HW := (show Hid (Below _ _ _) from hw)
  have hx : ¬ (x : Int) = (y : Int) := by omega
  obtain ⟨k, hk⟩ : ∃ k, i - 8 = k := ⟨_, rfl⟩
  have i3 : (8 : Int) ≤ (i : Int) := by omega
  have i4 : (i : Int) - 8 = (k : Int) := by omega
  rw [hk]
  clear ca cb hw hxy hk
  go_enter Tryd.func7, Tryd.ntmps7
  go_wp2_with fail
  refine (HA.out _ HW.out).mono ?_
  rintro e w1 ⟨rfl, hb⟩
  have B1 : Hid (Below w.heap.size w w1) := hb
  clear hb HA
  go_wp2_with fail
  refine (HB.out _ (HW.out.trans (B1.out.mono HW.out.size))).mono ?_
  rintro e w2 ⟨rfl, hb⟩
  have B2 : Hid (Below w.heap.size w w2) := B1.out.trans (hb.mono B1.out.size)
  clear hb HB B1
  go_wp2_with fail
  go_ret2
  refine ⟨_, rfl, OwnI.one B2.out.size ?_, B2.out.alloc B2.out.size _⟩
  exact heap_alloc_new w2 _
set_option maxHeartbeats 4000000 in
theorem rPart_two (va vb : Value) (i x y : Nat) (l0 : 1 ≤ i) (l8 : i < 8) (hxy : x ≠ y) (w0 : World)
    (ca : ∀ w, Below w0.heap.size w0 w → Calls Tryd.prog 23 #[va, .int .i64 (i : Nat)] w fun e w' => e = .returned (.int .i64 (x : Nat)) ∧ Below w.heap.size w w')
    (cb : ∀ w, Below w0.heap.size w0 w → Calls Tryd.prog 23 #[vb, .int .i64 (i : Nat)] w fun e w' => e = .returned (.int .i64 (y : Nat)) ∧ Below w.heap.size w w')
    (p q : List Int) (n m : Nat) (hp : p.length ≤ 8) (hq : q.length ≤ 8) (hn : n ≤ 15) (hm : m ≤ 15)
    (cp : ∀ w, Below w0.heap.size w0 w → Calls Tryd.prog 7 #[va, vb, .int .i64 (2 * i : Nat)] w fun e w' => ∃ v', e = .returned (.tuple #[v', .int .i64 (n : Nat)]) ∧ OwnI w.heap.size w' v' p ∧ Below w.heap.size w w')
    (cq : ∀ w, Below w0.heap.size w0 w → Calls Tryd.prog 7 #[va, vb, .int .i64 (2 * i + 1 : Nat)] w fun e w' => ∃ v', e = .returned (.tuple #[v', .int .i64 (m : Nat)]) ∧ OwnI w.heap.size w' v' q ∧ Below w.heap.size w w') (w : World) (hw : Below w0.heap.size w0 w) :
    Calls Tryd.prog 7 #[va, vb, .int .i64 (i : Nat)] w fun e w' => ∃ v', e = .returned (.tuple #[v', .int .i64 (n + m + 1 : Nat)]) ∧ OwnI w.heap.size w' v' (p ++ q) ∧ Below w.heap.size w w' := by
  have HA : Hid (∀ w, Below w0.heap.size w0 w → Calls Tryd.prog 23 #[va, .int .i64 (i : Nat)] w fun e w' => e = .returned (.int .i64 (x : Nat)) ∧ Below w.heap.size w w') := ca
  have HB : Hid (∀ w, Below w0.heap.size w0 w → Calls Tryd.prog 23 #[vb, .int .i64 (i : Nat)] w fun e w' => e = .returned (.int .i64 (y : Nat)) ∧ Below w.heap.size w w') := cb
  have HW := (show Hid (Below _ _ _) from hw)
  have hx : ¬ (x : Int) = (y : Int) := by omega
  have i3 : ¬ (8 : Int) ≤ (i : Int) := by omega
  obtain ⟨P1, hP1⟩ : ∃ P : Nat, 2 * i = P := ⟨_, rfl⟩
  obtain ⟨P2, hP2⟩ : ∃ P : Nat, P1 + 1 = P := ⟨_, rfl⟩
  have j1 : (2 : Int) * (i : Int) = (P1 : Int) := by omega
  have j2 : (P1 : Int) + 1 = (P2 : Int) := by omega
  have j3 : IntKind.i64.wrap (P1 : Int) = (P1 : Int) := wrap_small _ (by omega) (by omega)
  have j4 : IntKind.i64.wrap (P2 : Int) = (P2 : Int) := wrap_small _ (by omega) (by omega)
  rw [hP1, hP2] at cq
  rw [hP1] at cp
  have HCp : Hid (∀ w, Below w0.heap.size w0 w → Calls Tryd.prog 7 #[va, vb, .int .i64 (P1 : Nat)] w fun e w' => ∃ v', e = .returned (.tuple #[v', .int .i64 (n : Nat)]) ∧ OwnI w.heap.size w' v' p ∧ Below w.heap.size w w') := cp
  have HCq : Hid (∀ w, Below w0.heap.size w0 w → Calls Tryd.prog 7 #[va, vb, .int .i64 (P2 : Nat)] w fun e w' => ∃ v', e = .returned (.tuple #[v', .int .i64 (m : Nat)]) ∧ OwnI w.heap.size w' v' q ∧ Below w.heap.size w w') := cq
  obtain ⟨N, hN⟩ : ∃ N, n + m + 1 = N := ⟨_, rfl⟩
  have j5 : (n : Int) + (m : Int) + 1 = (N : Int) := by omega
  rw [hN]
  clear ca cb hw hxy cp cq hP1 hP2 hN
  go_enter Tryd.func7, Tryd.ntmps7
  go_wp2_with fail
  refine (HA.out _ HW.out).mono ?_
  rintro e w1 ⟨rfl, hb⟩
  have B1 : Hid (Below w.heap.size w w1) := hb
  clear hb HA
  go_wp2_with fail
  refine (HB.out _ (HW.out.trans (B1.out.mono HW.out.size))).mono ?_
  rintro e w2 ⟨rfl, hb⟩
  have B2 : Hid (Below w.heap.size w w2) := B1.out.trans (hb.mono B1.out.size)
  clear hb HB B1
  go_wp2_with fail
  refine (HCp.out _ (HW.out.trans (B2.out.mono HW.out.size))).mono ?_
  rintro e w3 ⟨v1, rfl, ho1, hb⟩
  have B3 : Hid (Below w.heap.size w w3) := B2.out.trans (hb.mono B2.out.size)
  have O3 : Hid (OwnI w.heap.size w3 v1 p) := ho1.base B2.out.size
  clear hb HCp B2 ho1
  go_wp2_with fail
  refine (HCq.out _ (HW.out.trans (B3.out.mono HW.out.size))).mono ?_
  rintro e w4 ⟨v2, rfl, ho2, hb⟩
  have B4 : Hid (Below w.heap.size w w4) := B3.out.trans (hb.mono B3.out.size)
  have O4 : Hid (OwnI w.heap.size w4 v1 p) := O3.out.below hb
  have Q4 : Hid (OwnI w.heap.size w4 v2 q) := ho2.base B3.out.size
  clear hb HCq B3 ho2 O3
  have HL1 : Hid (([] : List Int).length + p.length ≤ 100) := by show _ ≤ _; simp; omega
  have HL2 : Hid (p.length + q.length ≤ 100) := by show _ ≤ _; omega
  have HS4 : Hid (w.heap.size ≤ w4.heap.size) := B4.out.size
  have HN4 : Hid (OwnI w.heap.size w4 (.slice none 0 0) []) := OwnI.nil _ _
  go_wp2_with (at_builtin; refine wp_appRow _ rfl _ _ rfl w.heap.size _ [] rfl HN4.out w.heap.size _ p rfl O4.out HL1.out HS4.out ?_)
  intro v3 w5 O5 G5
  have HO5 : Hid (OwnI w.heap.size w5 v3 p) := O5
  have B5 : Hid (Below w.heap.size w w5) := below_grownF B4.out (Nat.le_refl _) G5.out (fun c hc => by cases hc)
  have Q5 : Hid (OwnI w.heap.size w5 v2 q) := Q4.out.blocks fun c _ hc => G5.out.block c hc (by simp [Value.ownBlock])
  have HS5 : Hid (w.heap.size ≤ w5.heap.size) := B5.out.size
  clear O5 G5 B4 O4 Q4 HS4 HN4 HL1
  go_wp2_with (at_builtin; refine wp_appRow _ rfl _ _ rfl w.heap.size _ p rfl HO5.out w.heap.size _ q rfl Q5.out HL2.out HS5.out ?_)
  intro v4 w6 O6 G6
  have HO6 := (show Hid (OwnI _ _ _ _) from O6)
  clear O6
  go_wp2_with fail
  go_ret2
  exact ⟨_, rfl, HO6.out, below_grownF B5.out (Nat.le_refl _) G6.out (fun c hc => HO5.out.from c hc)⟩

theorem rPart_c (a b : List En) (va vb : Value) (ha : badL a = 0) (hb : badL b = 0) (w0 : World) (hra : RowIs w0 va a) (hrb : RowIs w0 vb b) : ∀ d i, dep i = d → 1 ≤ i → i < 16 → ∀ w, Below w0.heap.size w0 w →
    Calls Tryd.prog 7 #[va, vb, .int .i64 (i : Nat)] w fun e w' => ∃ v', e = .returned (.tuple #[v', .int .i64 (partN (leafN a) (leafN b) i : Nat)]) ∧ OwnI w.heap.size w' v' (partK (leafN a) (leafN b) i) ∧ Below w.heap.size w w' := by
  intro d
  induction d with
  | zero =>
    intro i hd h1 h16 w hw
    have h8 : 8 ≤ i := by
      unfold dep at hd
      split at hd
      · omega
      · split at hd
        · omega
        · split at hd <;> omega
    by_cases hx : trN (leafN a) i = trN (leafN b) i
    · obtain ⟨e1, e2⟩ := part_alike hx
      rw [e1, e2]
      refine (rPart_alike va vb i _ w0 (fun w hw => rNode_c a va ha 0 i hd h1 h16 w (hra.below hw)) (fun w hw => by rw [hx]; exact rNode_c b vb hb 0 i hd h1 h16 w (hrb.below hw)) w hw).mono ?_
      rintro e w' ⟨rfl, hb⟩
      exact ⟨_, rfl, OwnI.nil _ _, hb⟩
    · obtain ⟨e1, e2⟩ := part_end h8 hx
      rw [e1, e2]
      exact rPart_end va vb i _ _ h8 h16 hx w0 (fun w hw => rNode_c a va ha 0 i hd h1 h16 w (hra.below hw)) (fun w hw => rNode_c b vb hb 0 i hd h1 h16 w (hrb.below hw)) w hw
  | succ d ih =>
    intro i hd h1 h16 w hw
    have h8 : i < 8 := by
      unfold dep at hd
      split at hd
      · omega
      · split at hd
        · omega
        · split at hd <;> omega
    by_cases hx : trN (leafN a) i = trN (leafN b) i
    · obtain ⟨e1, e2⟩ := part_alike hx
      rw [e1, e2]
      refine (rPart_alike va vb i _ w0 (fun w hw => rNode_c a va ha (d + 1) i hd h1 h16 w (hra.below hw)) (fun w hw => by rw [hx]; exact rNode_c b vb hb (d + 1) i hd h1 h16 w (hrb.below hw)) w hw).mono ?_
      rintro e w' ⟨rfl, hb⟩
      exact ⟨_, rfl, OwnI.nil _ _, hb⟩
    · obtain ⟨e1, e2⟩ := part_two h1 h8 hx
      obtain ⟨d1, d2⟩ := dep_two h1 h8
      rw [e1, e2]
      exact rPart_two va vb i _ _ h1 h8 hx w0 (fun w hw => rNode_c a va ha (d + 1) i hd h1 h16 w (hra.below hw)) (fun w hw => rNode_c b vb hb (d + 1) i hd h1 h16 w (hrb.below hw)) _ _ _ _ (partK_len _ _ _) (partK_len _ _ _) (partN_len _ _ _) (partN_len _ _ _) (ih (2 * i) (by omega) (by omega) (by omega)) (ih (2 * i + 1) (by omega) (by omega) (by omega)) w hw
end Go.Proofs.YtippdgmgmenboagDoor

namespace Go.Proofs.YtippdgmgmenboagDoor
set_option linter.unusedVariables false
set_option linter.unusedSimpArgs false
open Go.RowKit
set_option maxHeartbeats 4000000 in
theorem rJoin_le (ka va aa : Int) (ga : Bool) (ta : ByteArray) (kb vb ab : Int) (gb : Bool) (tb : ByteArray) (w : World) (hb : bad2 (bad ka va aa ga ta) (bad kb vb ab gb tb) = 0) (hk : ka = kb) (hv : va ≤ vb) :
    Calls Tryd.prog 58 #[.agg #[.int .i64 ka, .int .i64 va, .int .i64 aa, .bool ga, .string ta], .agg #[.int .i64 kb, .int .i64 vb, .int .i64 ab, .bool gb, .string tb]] w fun e w' => e = .returned (.tuple #[(joinE ⟨ka, va, aa, ga, ta⟩ ⟨kb, vb, ab, gb, tb⟩).1.val, .int .i64 (joinE ⟨ka, va, aa, ga, ta⟩ ⟨kb, vb, ab, gb, tb⟩).2]) ∧ Below w.heap.size w w' := by
  obtain ⟨J, HE⟩ : ∃ J, Hid (joinE ⟨ka, va, aa, ga, ta⟩ ⟨kb, vb, ab, gb, tb⟩ = J) := ⟨_, rfl⟩
  rw [HE.out]
  have H : Hid (bad2 (bad ka va aa ga ta) (bad kb vb ab gb tb) = 0) := hb
  have HK : Hid (ka = kb) := hk
  clear hb hk
  by_cases he : va = vb
  · have he2 : (va == vb) = true := by simp [he]
    have HV : Hid (va = vb) := he
    clear he hv
    go_enter Tryd.func58, Tryd.ntmps58
    go_wp2_with fail
    · rename_i hg ht
      subst hg
      refine bodyPost_ret (v := .tuple #[.agg #[.int .i64 0, .int .i64 0, .int .i64 0, .bool false, .string ⟨#[]⟩], .int .i64 7]) (by simp [results, Tryd.results58, go_sem]) rfl ?_
      refine ⟨by rw [← HE.out, go_eq7 H.out HK.out HV.out (by simpa using ht)]; rfl, ?_⟩
      go_grown
    · have hg : ga = gb := by assumption
      have ht : (!ta.toList == tb.toList) = false := by assumption
      have ha : ab < aa := by assumption
      subst hg
      refine bodyPost_ret (v := .tuple #[.agg #[.int .i64 ka, .int .i64 va, .int .i64 aa, .bool ga, .string ta], .int .i64 0]) (by simp [results, Tryd.results58, go_sem]) rfl ?_
      refine ⟨by rw [← HE.out, go_eqa H.out HK.out HV.out (by simpa using ht) (by show ab < aa; omega)]; rfl, ?_⟩
      go_grown
    · have hg : ga = gb := by assumption
      have ht : (!ta.toList == tb.toList) = false := by assumption
      have ha : aa ≤ ab := by assumption
      subst hg
      refine bodyPost_ret (v := .tuple #[.agg #[.int .i64 kb, .int .i64 vb, .int .i64 ab, .bool ga, .string tb], .int .i64 0]) (by simp [results, Tryd.results58, go_sem]) rfl ?_
      refine ⟨by rw [← HE.out, go_eqb H.out HK.out HV.out (by simpa using ht) (by show ¬ ab < aa; omega)]; rfl, ?_⟩
      go_grown
    · rename_i hg
      refine bodyPost_ret (v := .tuple #[.agg #[.int .i64 0, .int .i64 0, .int .i64 0, .bool false, .string ⟨#[]⟩], .int .i64 7]) (by simp [results, Tryd.results58, go_sem]) rfl ?_
      refine ⟨by rw [← HE.out, go_eq7 H.out HK.out HV.out (by simp [hg])]; rfl, ?_⟩
      go_grown
  · have hl : va < vb := by omega
    have he2 : (va == vb) = false := by simp [he]
    have HV : Hid (va < vb) := hl
    have hn : ¬ vb < va := by omega
    by_cases ha : vb ≤ aa
    · go_enter Tryd.func58, Tryd.ntmps58
      go_wp2_with fail
      refine bodyPost_ret (v := .tuple #[.agg #[.int .i64 0, .int .i64 0, .int .i64 0, .bool false, .string ⟨#[]⟩], .int .i64 7]) (by simp [results, Tryd.results58, go_sem]) rfl ?_
      refine ⟨by rw [← HE.out, go_lt7 H.out HK.out HV.out ha]; rfl, ?_⟩
      go_grown
    · go_enter Tryd.func58, Tryd.ntmps58
      go_wp2_with fail
      refine bodyPost_ret (v := .tuple #[.agg #[.int .i64 kb, .int .i64 vb, .int .i64 ab, .bool gb, .string tb], .int .i64 0]) (by simp [results, Tryd.results58, go_sem]) rfl ?_
      refine ⟨by rw [← HE.out, go_ltb H.out HK.out HV.out (by show ¬ vb ≤ aa; omega)]; rfl, ?_⟩
      go_grown
theorem bad2_swap {m n : Int} (h : bad2 m n = 0) : bad2 n m = 0 := by
  unfold bad2 at *
  split at h <;> simp_all
set_option maxHeartbeats 4000000 in
theorem rJoin_c (ka va aa : Int) (ga : Bool) (ta : ByteArray) (kb vb ab : Int) (gb : Bool) (tb : ByteArray) (w : World) (hb : bad2 (bad ka va aa ga ta) (bad kb vb ab gb tb) = 0) (hk : ka = kb) :
    Calls Tryd.prog 58 #[.agg #[.int .i64 ka, .int .i64 va, .int .i64 aa, .bool ga, .string ta], .agg #[.int .i64 kb, .int .i64 vb, .int .i64 ab, .bool gb, .string tb]] w fun e w' => e = .returned (.tuple #[(joinE ⟨ka, va, aa, ga, ta⟩ ⟨kb, vb, ab, gb, tb⟩).1.val, .int .i64 (joinE ⟨ka, va, aa, ga, ta⟩ ⟨kb, vb, ab, gb, tb⟩).2]) ∧ Below w.heap.size w w' := by
  by_cases hv : va ≤ vb
  · exact rJoin_le ka va aa ga ta kb vb ab gb tb w hb hk hv
  have hl : vb < va := by omega
  have he2 : (va == vb) = false := by simp; omega
  rw [go_swap (x := ⟨ka, va, aa, ga, ta⟩) (y := ⟨kb, vb, ab, gb, tb⟩) hb hk hl]
  have H : Hid (bad2 (bad ka va aa ga ta) (bad kb vb ab gb tb) = 0) := hb
  have HK : Hid (ka = kb) := hk
  obtain ⟨jk, jv, ja, jg, jt, n, HE⟩ : ∃ jk jv ja jg jt n, Hid (joinE ⟨kb, vb, ab, gb, tb⟩ ⟨ka, va, aa, ga, ta⟩ = (⟨jk, jv, ja, jg, jt⟩, n)) := ⟨_, _, _, _, _, _, rfl⟩
  clear hb hk hv
  rw [HE.out]
  go_enter Tryd.func58, Tryd.ntmps58
  go_wp2_with fail
  refine (rJoin_le kb vb ab gb tb ka va aa ga ta _ (bad2_swap H.out) HK.out.symm (by omega)).mono ?_
  rintro e w1 ⟨rfl, hb⟩
  rw [HE.out]
  have B1 : Hid (Below w.heap.size w w1) := Below.trans (by go_grown) (hb.mono (by simp; omega))
  obtain ⟨e0, e1, e2, e3, e4, ef⟩ := (box_new _ 0 0 0 false ⟨#[]⟩ (w.heap.size + 1 + 1) (by simp)).below hb (by simp)
  clear hb
  simp only [En.val]
  go_wp2_with fail
  refine bodyPost_ret (v := .tuple #[.agg #[.int .i64 jk, .int .i64 jv, .int .i64 ja, .bool jg, .string jt], .int .i64 n]) (by simp [results, Tryd.results58, go_sem, e0, e1, e2, e3, e4]) rfl ?_
  refine ⟨rfl, ?_⟩
  have hb := B1.out
  go_grown
end Go.Proofs.YtippdgmgmenboagDoor

namespace Go.Proofs.YtippdgmgmenboagDoor
set_option linter.unusedVariables false
set_option linter.unusedSimpArgs false
open Go.RowKit

/-- what is there behind j entries: m are less, d are left out -/
def outE (l : List En) (m d : Nat) (e : En) (j : Nat) : List En := if j ≤ m then l.take j else l.take m ++ e :: (l.take j).drop (m + d)
theorem outE_zero (l : List En) (m d : Nat) (e : En) : outE l m d e 0 = [] := by simp [outE]
theorem outE_less {l : List En} {m d j : Nat} {e : En} (h : j < m) (hj : j < l.length) : outE l m d e (j + 1) = outE l m d e j ++ [l[j]] := by
  rw [outE, if_pos (by omega), outE, if_pos (by omega), List.take_succ_eq_append_getElem hj]
theorem outE_at0 {l : List En} {m : Nat} {e : En} (hj : m < l.length) : outE l m 0 e (m + 1) = (outE l m 0 e m ++ [e]) ++ [l[m]] := by
  rw [outE, if_neg (by omega), outE, if_pos (by omega), List.take_succ_eq_append_getElem hj, Nat.add_zero, List.drop_append_of_le_length (by simp; omega), List.drop_take]
  simp
theorem outE_at1 {l : List En} {m : Nat} {e : En} (hj : m < l.length) : outE l m 1 e (m + 1) = outE l m 1 e m ++ [e] := by
  rw [outE, if_neg (by omega), outE, if_pos (by omega), List.drop_take]
  simp
theorem outE_more {l : List En} {m d j : Nat} {e : En} (h : m < j) (hd : d ≤ 1) (hj : j < l.length) : outE l m d e (j + 1) = outE l m d e j ++ [l[j]] := by
  rw [outE, if_neg (by omega), outE, if_neg (by omega), List.take_succ_eq_append_getElem hj, List.drop_append_of_le_length (by simp; omega)]
  simp
theorem outE_len {l : List En} {m d j : Nat} {e : En} (h8 : l.length ≤ 8) : (outE l m d e j).length ≤ 20 := by
  unfold outE
  split
  · simp; omega
  · simp; omega
theorem outE_end {l : List En} {m d : Nat} {e : En} (hm : m < l.length) : outE l m d e l.length = l.take m ++ e :: l.drop (m + d) := by
  rw [outE, if_neg (by omega), List.take_length]
theorem outE_all {l : List En} {m d : Nat} {e : En} (hm : m = l.length) : outE l m d e l.length = l := by
  rw [outE, if_pos (by omega), List.take_length]
end Go.Proofs.YtippdgmgmenboagDoor

namespace Go.Proofs.YtippdgmgmenboagDoor
set_option linter.unusedVariables false
set_option linter.unusedSimpArgs false
open Go.RowKit

/-- what the document's Add leaves -/
def RAddIs (w : World) (x : List En) (n : Int) (e : Ending) (w' : World) : Prop := ∃ v', e = .returned (.tuple #[v', .int .i64 n]) ∧ RowIs w' v' x ∧ Below w.heap.size w w'

set_option maxHeartbeats 8000000 in
theorem rAdd_none (v : Value) (l : List En) (k vv a : Int) (g : Bool) (t : ByteArray) (w : World) (hr : RowIs w v l) (hg : GoodL l) (hk : getE l k = none) :
    Calls Tryd.prog 41 #[v, .agg #[.int .i64 k, .int .i64 vv, .int .i64 a, .bool g, .string t]] w (RAddIs w (l.take (placeE l k) ++ ⟨k, vv, a, g, t⟩ :: l.drop (placeE l k)) 0) := by
  have HR : Hid (RowIs w v l) := hr
  have H8 : Hid (l.length ≤ 8) := hg.len
  have HKn : Hid (getE l k = none) := hk
  have HL0 : Hid (∀ j (h : j < l.length), j < placeE l k → l[j].k < k) := fun j h hj => placeE_less l k j h hj
  have HG0 : Hid (∀ j (h : j < l.length), placeE l k < j → l[j].k > k) := fun j h hj => by
    have h1 := placeE_more l k hg.rise j h (by omega)
    have h2 := getE_none hk l[j] (List.getElem_mem _)
    omega
  have HE0 : Hid (∀ h : placeE l k < l.length, k < l[placeE l k].k) := fun h => by
    have h1 := placeE_more l k hg.rise _ h (Nat.le_refl _)
    have h2 := getE_none hk l[placeE l k] (List.getElem_mem _)
    omega
  have HM0 : Hid (placeE l k ≤ l.length) := placeE_le l k
  obtain ⟨m, HMm⟩ : ∃ m, Hid (placeE l k = m) := ⟨_, rfl⟩
  rw [HMm.out] at HM0 ⊢
  have HL : Hid (∀ j (h : j < l.length), j < m → l[j].k < k) := by
    show _
    rw [← HMm.out]
    exact HL0.out
  have HG : Hid (∀ j (h : j < l.length), m < j → l[j].k > k) := by
    show _
    rw [← HMm.out]
    exact HG0.out
  have HE : Hid (∀ h : m < l.length, k < l[m].k) := by
    have h := HMm.out
    subst h
    exact HE0
  clear hg hk HL0 HG0 HE0
  obtain ⟨hlen, p, cap, rfl, hrow⟩ := hr
  have HRow : Hid (l ≠ [] → ∃ b o, p = some ⟨b, o, none⟩ ∧ b < w.heap.size ∧ ∀ j (h : j < l.length), EnAt w b (o + j * 5) l[j]) := hrow
  clear hrow
  obtain ⟨n, HN⟩ : ∃ n, Hid (l.length = n) := ⟨_, rfl⟩
  rw [HN.out] at hlen HR ⊢
  have HMn : Hid (m ≤ n) := by
    show _
    rw [← HN.out]
    exact HM0.out
  have hn63 : n ≤ 9223372036854775807 := hlen
  have HB0 : Hid (Below w.heap.size w (w.alloc (.cells #[.int .i64 k, .int .i64 vv, .int .i64 a, .bool g, .string t] 46))) := by show Below _ _ _; go_grown
  go_enter Tryd.func41, Tryd.ntmps41
  go_wp2_with fail
  refine (rGet_none HKn.out _ _ (HR.out.below HB0.out)).mono ?_
  rintro e w1 ⟨rfl, hb⟩
  have B1 : Hid (Below w.heap.size w w1) := HB0.out.trans (hb.mono (by simp))
  have E1 : Hid (BoxAt w1 w.heap.size k vv a g t) := (box_new w k vv a g t w.heap.size rfl).below hb (by simp)
  clear hb
  obtain ⟨w3, HW3⟩ : ∃ w3, Hid (w3 = w1.alloc (.cells #[.int .i64 0, .int .i64 0, .int .i64 0, .bool false, .string ⟨#[]⟩] 46)) := ⟨_, rfl⟩
  have B3 : Hid (Below w.heap.size w w3) := by
    show _
    rw [HW3.out]
    exact B1.out.alloc B1.out.size _
  have E3 : Hid (BoxAt w3 w.heap.size k vv a g t) := by
    show _
    rw [HW3.out]
    exact E1.out.alloc _
  go_upto_region 7 with fail
  rw [← HW3.out]
  go_wp2_with fail
  go_loopw [9, 10, 11] (fun s9 s10 s11 wr => ∃ (j : Nat) (v9 : Value) (pt : Bool), s9 = v9 ∧ s10 = .bool pt ∧ j ≤ n ∧ s11 = .int .i64 j ∧ Hid (pt = decide (m < j)) ∧ Hid (wr.ownsRow w3.heap.size 46 5 v9 (outE l m 0 (En.mk k vv a g t) j).length (rowC (outE l m 0 (En.mk k vv a g t) j))) ∧ Hid (Below w3.heap.size w3 wr)) (fun _ _ i _ => n - (intOf i).toNat)
  case atStart => exact ⟨0, .slice none 0 0, false, rfl, rfl, Nat.zero_le _, rfl, (decide_eq_false (Nat.not_lt_zero _)).symm, (by rw [outE_zero]; exact World.ownsRow_nil _ _ _ _), Below.refl _ _⟩
  case round =>
    obtain ⟨j, v9, pt, hs9, hs10, hj, rfl, HP, HO, HBr⟩ := hrel
    have hs9' := hs9.symm
    clear hs9
    subst hs9'
    subst hs10
    have HBw : Hid (Below w.heap.size w wr) := B3.out.trans (HBr.out.mono B3.out.size)
    have HBx : Hid (BoxAt wr w.heap.size k vv a g t) := E3.out.below HBr.out E3.out.lt
    by_cases hlt : j < n
    · have hjl : j < l.length := by rw [HN.out]; exact hlt
      obtain ⟨b, o, rfl, hbw, hat⟩ := HRow.out (fun h => by simp [h] at hjl)
      have HAt : Hid (EnAt wr b (o + j * 5) l[j]) := (hat j hjl).of_block (HBw.out.block b hbw)
      have hat' := hat
      clear hat
      have hbr : b < wr.heap.size := by have := HBw.out.size; omega
      have hlti : (j : Int) < (n : Int) := by omega
      obtain ⟨y, HY⟩ : ∃ y, Hid (l[j] = y) := ⟨l[j], show l[j] = l[j] from rfl⟩
      rw [HY.out] at HAt
      have HYo : Hid (∀ W, Below w.heap.size w W → EnAt W b (o + j * 5) y) := fun W hW => by have := hat' j hjl; rw [HY.out] at this; exact this.of_block (hW.block b hbw)
      clear hat'
      rcases Nat.lt_trichotomy j m with hjm | hjm | hjm
      · have HK : Hid (y.k < k) := by
          show _
          rw [← HY.out]
          exact HL.out j hjl (by omega)
        obtain rfl : pt = false := HP.out.trans (decide_eq_false (by omega))
        have HEq : Hid (outE l m 0 (En.mk k vv a g t) (j + 1) = outE l m 0 (En.mk k vv a g t) j ++ [y]) := by
          show _
          rw [← HY.out]
          exact outE_less (by omega) hjl
        obtain ⟨y0, y1, y2, y3, y4⟩ := y
        have HBq : True := trivial
        obtain ⟨e0, e1, e2, e3, e4, ef⟩ := HBx.out
        obtain ⟨c0, c1, c2, c3, c4⟩ := HAt.out
        dsimp only at c0 c1 c2 c3 c4
        have hk1 := HK.out
        dsimp only at hk1
        have hk2 : ¬ k ≤ y0 := by omega
        have hk3 : ¬ y0 = k := by omega
        have hk4 : (y0 == k) = false := by simp [hk3]
        go_upto_region 12 with fail
        go_quiet (fail)
        obtain ⟨wq1, hq1⟩ : ∃ x, x = wr.drewN nq := ⟨_, rfl⟩
        rw [← hq1]
        have HB1 : Hid (Below wr.heap.size wr wq1) := by rw [hq1]; exact below_drewN _ _ _
        clear hq1
        clear e0 e1 e2 e3 e4 ef c0 c1 c2 c3 c4
        have HOq1 : Hid (wq1.ownsRow w3.heap.size 46 5 v9 (outE l m 0 (En.mk k vv a g t) j).length (rowC (outE l m 0 (En.mk k vv a g t) j))) := ownsRow_below HO.out HB1.out
        have HWq1 : Hid (Below w3.heap.size w3 wq1) := HBr.out.trans (HB1.out.mono HBr.out.size)
        have HXq1 : Hid (BoxAt wq1 w.heap.size k vv a g t) := HBx.out.below HB1.out HBx.out.lt
        have HYq1 : Hid (EnAt wq1 b (o + j * 5) ⟨y0, y1, y2, y3, y4⟩) := HAt.out.of_block (HB1.out.block b (by exact hbr))
        obtain ⟨e0, e1, e2, e3, e4, ef⟩ := HXq1.out
        obtain ⟨c0, c1, c2, c3, c4⟩ := HYq1.out
        dsimp only at c0 c1 c2 c3 c4
        go_upto_region 15 with fail
        go_quiet (fail)
        obtain ⟨wq2, hq2⟩ : ∃ x, x = wq1.drewN nq := ⟨_, rfl⟩
        rw [← hq2]
        have HB2 : Hid (Below wq1.heap.size wq1 wq2) := by rw [hq2]; exact below_drewN _ _ _
        clear hq2
        clear e0 e1 e2 e3 e4 ef c0 c1 c2 c3 c4
        have HOq2 : Hid (wq2.ownsRow w3.heap.size 46 5 v9 (outE l m 0 (En.mk k vv a g t) j).length (rowC (outE l m 0 (En.mk k vv a g t) j))) := ownsRow_below HOq1.out HB2.out
        have HWq2 : Hid (Below w3.heap.size w3 wq2) := HWq1.out.trans (HB2.out.mono HWq1.out.size)
        have HXq2 : Hid (BoxAt wq2 w.heap.size k vv a g t) := HXq1.out.below HB2.out HXq1.out.lt
        have HYq2 : Hid (EnAt wq2 b (o + j * 5) ⟨y0, y1, y2, y3, y4⟩) := HYq1.out.of_block (HB2.out.block b (by have := HB1.out.size; omega))
        obtain ⟨e0, e1, e2, e3, e4, ef⟩ := HXq2.out
        obtain ⟨c0, c1, c2, c3, c4⟩ := HYq2.out
        dsimp only at c0 c1 c2 c3 c4
        have HOa1 : Hid ((wq2.alloc (.cells #[.int .i64 y0, .int .i64 y1, .int .i64 y2, .bool y3, .string y4] 46)).ownsRow w3.heap.size 46 5 v9 (outE l m 0 (En.mk k vv a g t) j).length (rowC (outE l m 0 (En.mk k vv a g t) j))) := ownsRow_below HOq2.out ((Below.refl _ wq2).alloc (Nat.le_refl _) _)
        have HVa1 : Hid ((wq2.alloc (.cells #[.int .i64 y0, .int .i64 y1, .int .i64 y2, .bool y3, .string y4] 46)).heap[wq2.heap.size]? = some (.cells (En.cells (En.mk y0 y1 y2 y3 y4)).toArray 46 (0, 0))) := alloc_at _ _ _ rfl
        have HLa1 : Hid ((outE l m 0 (En.mk k vv a g t) j).length ≤ 100) := Nat.le_trans (outE_len H8.out) (by omega)
        have HSa1 : Hid (w3.heap.size ≤ (wq2.alloc (.cells #[.int .i64 y0, .int .i64 y1, .int .i64 y2, .bool y3, .string y4] 46)).heap.size) := show _ ≤ _ from (by have := HWq2.out.size; simp; omega)
        go_wp2_with (at_builtin; refine wp_app _ rfl _ _ rfl w3.heap.size _ (outE l m 0 (En.mk k vv a g t) j) (En.mk y0 y1 y2 y3 y4) rfl HOa1.out _ rfl HVa1.out HLa1.out HSa1.out ?_)
        intro va1 wa1 hown hgrow
        have HOp1 : Hid (wa1.ownsRow w3.heap.size 46 5 va1 ((outE l m 0 (En.mk k vv a g t) j) ++ [(En.mk y0 y1 y2 y3 y4)]).length (rowC ((outE l m 0 (En.mk k vv a g t) j) ++ [(En.mk y0 y1 y2 y3 y4)]))) := hown
        have HBp1 : Hid (Below w3.heap.size w3 wa1) := below_grown (HWq2.out.alloc HWq2.out.size _) (Nat.le_refl _) hgrow.out (fun c hc => ownsRow_from HOq2.out c hc)
        clear hown hgrow HOa1 HVa1 HLa1 HSa1
        clear e0 e1 e2 e3 e4 ef c0 c1 c2 c3 c4
        go_wp2_with fail
        go_roundw
        case rel =>
          refine ⟨j + 1, va1, false, rfl, rfl, by omega, by go_num, ?_, ?_, HBp1⟩
          · exact (decide_eq_false (by omega)).symm
          · show World.ownsRow _ _ _ _ _ _ _
            rw [HEq.out]
            exact HOp1.out
        case measure => simp [intOf]; omega
      · obtain rfl : j = m := by omega
        have HK : Hid (k < y.k) := by
          show _
          rw [← HY.out]
          exact HE.out hjl
        obtain rfl : pt = false := HP.out.trans (decide_eq_false (by omega))
        have HEq : Hid (outE l j 0 (En.mk k vv a g t) (j + 1) = (outE l j 0 (En.mk k vv a g t) j ++ [(En.mk k vv a g t)]) ++ [y]) := by
          show _
          rw [← HY.out]
          exact outE_at0 hjl
        obtain ⟨y0, y1, y2, y3, y4⟩ := y
        have HBq : True := trivial
        obtain ⟨e0, e1, e2, e3, e4, ef⟩ := HBx.out
        obtain ⟨c0, c1, c2, c3, c4⟩ := HAt.out
        dsimp only at c0 c1 c2 c3 c4
        have hk1 := HK.out
        dsimp only at hk1
        have hk2 : k ≤ y0 := by omega
        have hk3 : ¬ y0 = k := by omega
        have hk4 : (y0 == k) = false := by simp [hk3]
        go_upto_region 12 with fail
        go_quiet (fail)
        obtain ⟨wq1, hq1⟩ : ∃ x, x = wr.drewN nq := ⟨_, rfl⟩
        rw [← hq1]
        have HB1 : Hid (Below wr.heap.size wr wq1) := by rw [hq1]; exact below_drewN _ _ _
        clear hq1
        clear e0 e1 e2 e3 e4 ef c0 c1 c2 c3 c4
        have HOq1 : Hid (wq1.ownsRow w3.heap.size 46 5 v9 (outE l j 0 (En.mk k vv a g t) j).length (rowC (outE l j 0 (En.mk k vv a g t) j))) := ownsRow_below HO.out HB1.out
        have HWq1 : Hid (Below w3.heap.size w3 wq1) := HBr.out.trans (HB1.out.mono HBr.out.size)
        have HXq1 : Hid (BoxAt wq1 w.heap.size k vv a g t) := HBx.out.below HB1.out HBx.out.lt
        have HYq1 : Hid (EnAt wq1 b (o + j * 5) ⟨y0, y1, y2, y3, y4⟩) := HAt.out.of_block (HB1.out.block b (by exact hbr))
        obtain ⟨e0, e1, e2, e3, e4, ef⟩ := HXq1.out
        obtain ⟨c0, c1, c2, c3, c4⟩ := HYq1.out
        dsimp only at c0 c1 c2 c3 c4
        have HOa1 : Hid ((wq1.alloc (.cells #[.int .i64 k, .int .i64 vv, .int .i64 a, .bool g, .string t] 46)).ownsRow w3.heap.size 46 5 v9 (outE l j 0 (En.mk k vv a g t) j).length (rowC (outE l j 0 (En.mk k vv a g t) j))) := ownsRow_below HOq1.out ((Below.refl _ wq1).alloc (Nat.le_refl _) _)
        have HVa1 : Hid ((wq1.alloc (.cells #[.int .i64 k, .int .i64 vv, .int .i64 a, .bool g, .string t] 46)).heap[wq1.heap.size]? = some (.cells (En.cells (En.mk k vv a g t)).toArray 46 (0, 0))) := alloc_at _ _ _ rfl
        have HLa1 : Hid ((outE l j 0 (En.mk k vv a g t) j).length ≤ 100) := Nat.le_trans (outE_len H8.out) (by omega)
        have HSa1 : Hid (w3.heap.size ≤ (wq1.alloc (.cells #[.int .i64 k, .int .i64 vv, .int .i64 a, .bool g, .string t] 46)).heap.size) := show _ ≤ _ from (by have := HWq1.out.size; simp; omega)
        go_wp2_with (at_builtin; refine wp_app _ rfl _ _ rfl w3.heap.size _ (outE l j 0 (En.mk k vv a g t) j) (En.mk k vv a g t) rfl HOa1.out _ rfl HVa1.out HLa1.out HSa1.out ?_)
        intro va1 wa1 hown hgrow
        have HOp1 : Hid (wa1.ownsRow w3.heap.size 46 5 va1 ((outE l j 0 (En.mk k vv a g t) j) ++ [(En.mk k vv a g t)]).length (rowC ((outE l j 0 (En.mk k vv a g t) j) ++ [(En.mk k vv a g t)]))) := hown
        have HBp1 : Hid (Below w3.heap.size w3 wa1) := below_grown (HWq1.out.alloc HWq1.out.size _) (Nat.le_refl _) hgrow.out (fun c hc => ownsRow_from HOq1.out c hc)
        clear hown hgrow HOa1 HVa1 HLa1 HSa1
        clear e0 e1 e2 e3 e4 ef c0 c1 c2 c3 c4
        have HXp : Hid (BoxAt wa1 w.heap.size k vv a g t) := E3.out.below HBp1.out E3.out.lt
        have HYp : Hid (EnAt wa1 b (o + j * 5) ⟨y0, y1, y2, y3, y4⟩) := HYo.out wa1 (B3.out.trans (HBp1.out.mono B3.out.size))
        have hbp : b < wa1.heap.size := by have := HBp1.out.size; have := B3.out.size; omega
        obtain ⟨e0, e1, e2, e3, e4, ef⟩ := HXp.out
        obtain ⟨c0, c1, c2, c3, c4⟩ := HYp.out
        dsimp only at c0 c1 c2 c3 c4
        go_upto_region 15 with fail
        go_quiet (fail)
        obtain ⟨wq2, hq2⟩ : ∃ x, x = wa1.drewN nq := ⟨_, rfl⟩
        rw [← hq2]
        have HB2 : Hid (Below wa1.heap.size wa1 wq2) := by rw [hq2]; exact below_drewN _ _ _
        clear hq2
        clear e0 e1 e2 e3 e4 ef c0 c1 c2 c3 c4
        have HOq2 : Hid (wq2.ownsRow w3.heap.size 46 5 va1 ((outE l j 0 (En.mk k vv a g t) j) ++ [(En.mk k vv a g t)]).length (rowC ((outE l j 0 (En.mk k vv a g t) j) ++ [(En.mk k vv a g t)]))) := ownsRow_below HOp1.out HB2.out
        have HWq2 : Hid (Below w3.heap.size w3 wq2) := HBp1.out.trans (HB2.out.mono HBp1.out.size)
        have HXq2 : Hid (BoxAt wq2 w.heap.size k vv a g t) := HXp.out.below HB2.out HXp.out.lt
        have HYq2 : Hid (EnAt wq2 b (o + j * 5) ⟨y0, y1, y2, y3, y4⟩) := HYp.out.of_block (HB2.out.block b (by exact hbp))
        obtain ⟨e0, e1, e2, e3, e4, ef⟩ := HXq2.out
        obtain ⟨c0, c1, c2, c3, c4⟩ := HYq2.out
        dsimp only at c0 c1 c2 c3 c4
        have HOa2 : Hid ((wq2.alloc (.cells #[.int .i64 y0, .int .i64 y1, .int .i64 y2, .bool y3, .string y4] 46)).ownsRow w3.heap.size 46 5 va1 ((outE l j 0 (En.mk k vv a g t) j) ++ [(En.mk k vv a g t)]).length (rowC ((outE l j 0 (En.mk k vv a g t) j) ++ [(En.mk k vv a g t)]))) := ownsRow_below HOq2.out ((Below.refl _ wq2).alloc (Nat.le_refl _) _)
        have HVa2 : Hid ((wq2.alloc (.cells #[.int .i64 y0, .int .i64 y1, .int .i64 y2, .bool y3, .string y4] 46)).heap[wq2.heap.size]? = some (.cells (En.cells (En.mk y0 y1 y2 y3 y4)).toArray 46 (0, 0))) := alloc_at _ _ _ rfl
        have HLa2 : Hid (((outE l j 0 (En.mk k vv a g t) j) ++ [(En.mk k vv a g t)]).length ≤ 100) := show _ ≤ _ from (by have := outE_len (l := l) (m := j) (d := 0) (j := j) (e := (En.mk k vv a g t)) H8.out; simp; omega)
        have HSa2 : Hid (w3.heap.size ≤ (wq2.alloc (.cells #[.int .i64 y0, .int .i64 y1, .int .i64 y2, .bool y3, .string y4] 46)).heap.size) := show _ ≤ _ from (by have := HWq2.out.size; simp; omega)
        go_wp2_with (at_builtin; refine wp_app _ rfl _ _ rfl w3.heap.size _ ((outE l j 0 (En.mk k vv a g t) j) ++ [(En.mk k vv a g t)]) (En.mk y0 y1 y2 y3 y4) rfl HOa2.out _ rfl HVa2.out HLa2.out HSa2.out ?_)
        intro va2 wa2 hown hgrow
        have HOp2 : Hid (wa2.ownsRow w3.heap.size 46 5 va2 (((outE l j 0 (En.mk k vv a g t) j) ++ [(En.mk k vv a g t)]) ++ [(En.mk y0 y1 y2 y3 y4)]).length (rowC (((outE l j 0 (En.mk k vv a g t) j) ++ [(En.mk k vv a g t)]) ++ [(En.mk y0 y1 y2 y3 y4)]))) := hown
        have HBp2 : Hid (Below w3.heap.size w3 wa2) := below_grown (HWq2.out.alloc HWq2.out.size _) (Nat.le_refl _) hgrow.out (fun c hc => ownsRow_from HOq2.out c hc)
        clear hown hgrow HOa2 HVa2 HLa2 HSa2
        clear e0 e1 e2 e3 e4 ef c0 c1 c2 c3 c4
        go_wp2_with fail
        go_roundw
        case rel =>
          refine ⟨j + 1, va2, true, rfl, rfl, by omega, by go_num, ?_, ?_, HBp2⟩
          · exact (decide_eq_true (by omega)).symm
          · show World.ownsRow _ _ _ _ _ _ _
            rw [HEq.out]
            exact HOp2.out
        case measure => simp [intOf]; omega
      · have HK : Hid (y.k > k) := by
          show _
          rw [← HY.out]
          exact HG.out j hjl (by omega)
        obtain rfl : pt = true := HP.out.trans (decide_eq_true (by omega))
        have HEq : Hid (outE l m 0 (En.mk k vv a g t) (j + 1) = outE l m 0 (En.mk k vv a g t) j ++ [y]) := by
          show _
          rw [← HY.out]
          exact outE_more (by omega) (by omega) hjl
        obtain ⟨y0, y1, y2, y3, y4⟩ := y
        have HBq : True := trivial
        obtain ⟨e0, e1, e2, e3, e4, ef⟩ := HBx.out
        obtain ⟨c0, c1, c2, c3, c4⟩ := HAt.out
        dsimp only at c0 c1 c2 c3 c4
        have hk1 := HK.out
        dsimp only at hk1
        have hk2 : k < y0 := by omega
        have hk3 : ¬ y0 = k := by omega
        have hk4 : (y0 == k) = false := by simp [hk3]
        go_upto_region 12 with fail
        go_quiet (fail)
        obtain ⟨wq1, hq1⟩ : ∃ x, x = wr.drewN nq := ⟨_, rfl⟩
        rw [← hq1]
        have HB1 : Hid (Below wr.heap.size wr wq1) := by rw [hq1]; exact below_drewN _ _ _
        clear hq1
        clear e0 e1 e2 e3 e4 ef c0 c1 c2 c3 c4
        have HOq1 : Hid (wq1.ownsRow w3.heap.size 46 5 v9 (outE l m 0 (En.mk k vv a g t) j).length (rowC (outE l m 0 (En.mk k vv a g t) j))) := ownsRow_below HO.out HB1.out
        have HWq1 : Hid (Below w3.heap.size w3 wq1) := HBr.out.trans (HB1.out.mono HBr.out.size)
        have HXq1 : Hid (BoxAt wq1 w.heap.size k vv a g t) := HBx.out.below HB1.out HBx.out.lt
        have HYq1 : Hid (EnAt wq1 b (o + j * 5) ⟨y0, y1, y2, y3, y4⟩) := HAt.out.of_block (HB1.out.block b (by exact hbr))
        obtain ⟨e0, e1, e2, e3, e4, ef⟩ := HXq1.out
        obtain ⟨c0, c1, c2, c3, c4⟩ := HYq1.out
        dsimp only at c0 c1 c2 c3 c4
        go_upto_region 15 with fail
        go_quiet (fail)
        obtain ⟨wq2, hq2⟩ : ∃ x, x = wq1.drewN nq := ⟨_, rfl⟩
        rw [← hq2]
        have HB2 : Hid (Below wq1.heap.size wq1 wq2) := by rw [hq2]; exact below_drewN _ _ _
        clear hq2
        clear e0 e1 e2 e3 e4 ef c0 c1 c2 c3 c4
        have HOq2 : Hid (wq2.ownsRow w3.heap.size 46 5 v9 (outE l m 0 (En.mk k vv a g t) j).length (rowC (outE l m 0 (En.mk k vv a g t) j))) := ownsRow_below HOq1.out HB2.out
        have HWq2 : Hid (Below w3.heap.size w3 wq2) := HWq1.out.trans (HB2.out.mono HWq1.out.size)
        have HXq2 : Hid (BoxAt wq2 w.heap.size k vv a g t) := HXq1.out.below HB2.out HXq1.out.lt
        have HYq2 : Hid (EnAt wq2 b (o + j * 5) ⟨y0, y1, y2, y3, y4⟩) := HYq1.out.of_block (HB2.out.block b (by have := HB1.out.size; omega))
        obtain ⟨e0, e1, e2, e3, e4, ef⟩ := HXq2.out
        obtain ⟨c0, c1, c2, c3, c4⟩ := HYq2.out
        dsimp only at c0 c1 c2 c3 c4
        have HOa1 : Hid ((wq2.alloc (.cells #[.int .i64 y0, .int .i64 y1, .int .i64 y2, .bool y3, .string y4] 46)).ownsRow w3.heap.size 46 5 v9 (outE l m 0 (En.mk k vv a g t) j).length (rowC (outE l m 0 (En.mk k vv a g t) j))) := ownsRow_below HOq2.out ((Below.refl _ wq2).alloc (Nat.le_refl _) _)
        have HVa1 : Hid ((wq2.alloc (.cells #[.int .i64 y0, .int .i64 y1, .int .i64 y2, .bool y3, .string y4] 46)).heap[wq2.heap.size]? = some (.cells (En.cells (En.mk y0 y1 y2 y3 y4)).toArray 46 (0, 0))) := alloc_at _ _ _ rfl
        have HLa1 : Hid ((outE l m 0 (En.mk k vv a g t) j).length ≤ 100) := Nat.le_trans (outE_len H8.out) (by omega)
        have HSa1 : Hid (w3.heap.size ≤ (wq2.alloc (.cells #[.int .i64 y0, .int .i64 y1, .int .i64 y2, .bool y3, .string y4] 46)).heap.size) := show _ ≤ _ from (by have := HWq2.out.size; simp; omega)
        go_wp2_with (at_builtin; refine wp_app _ rfl _ _ rfl w3.heap.size _ (outE l m 0 (En.mk k vv a g t) j) (En.mk y0 y1 y2 y3 y4) rfl HOa1.out _ rfl HVa1.out HLa1.out HSa1.out ?_)
        intro va1 wa1 hown hgrow
        have HOp1 : Hid (wa1.ownsRow w3.heap.size 46 5 va1 ((outE l m 0 (En.mk k vv a g t) j) ++ [(En.mk y0 y1 y2 y3 y4)]).length (rowC ((outE l m 0 (En.mk k vv a g t) j) ++ [(En.mk y0 y1 y2 y3 y4)]))) := hown
        have HBp1 : Hid (Below w3.heap.size w3 wa1) := below_grown (HWq2.out.alloc HWq2.out.size _) (Nat.le_refl _) hgrow.out (fun c hc => ownsRow_from HOq2.out c hc)
        clear hown hgrow HOa1 HVa1 HLa1 HSa1
        clear e0 e1 e2 e3 e4 ef c0 c1 c2 c3 c4
        go_wp2_with fail
        go_roundw
        case rel =>
          refine ⟨j + 1, va1, true, rfl, rfl, by omega, by go_num, ?_, ?_, HBp1⟩
          · exact (decide_eq_true (by omega)).symm
          · show World.ownsRow _ _ _ _ _ _ _
            rw [HEq.out]
            exact HOp1.out
        case measure => simp [intOf]; omega
    · obtain rfl : j = n := by omega
      by_cases hmn : m < j
      · obtain rfl : pt = true := HP.out.trans (decide_eq_true (by omega))
        have HEq : Hid (outE l m 0 (En.mk k vv a g t) j = l.take m ++ (En.mk k vv a g t) :: l.drop m) := by
          show _
          rw [← HN.out]
          exact outE_end (d := 0) (by rw [HN.out]; exact hmn)
        go_wp2_with fail
        go_ret2
        refine ⟨v9, rfl, ?_, HBw.out⟩
        have := RowIs.own HO.out
        rw [HEq.out] at this
        exact this
      · obtain rfl : pt = false := HP.out.trans (decide_eq_false (by omega))
        have HEq : Hid (outE l m 0 (En.mk k vv a g t) j ++ [(En.mk k vv a g t)] = l.take m ++ (En.mk k vv a g t) :: l.drop m) := by
          show _
          have hml : m = l.length := by rw [HN.out]; have := HMn.out; omega
          rw [← HN.out, outE_all hml, hml, List.take_length, List.drop_length]
          exact show _ = _ from rfl
        obtain ⟨e0, e1, e2, e3, e4, ef⟩ := HBx.out
        have HOa1 : Hid ((wr.alloc (.cells #[.int .i64 k, .int .i64 vv, .int .i64 a, .bool g, .string t] 46)).ownsRow w3.heap.size 46 5 v9 (outE l m 0 (En.mk k vv a g t) j).length (rowC (outE l m 0 (En.mk k vv a g t) j))) := ownsRow_below HO.out ((Below.refl _ wr).alloc (Nat.le_refl _) _)
        have HVa1 : Hid ((wr.alloc (.cells #[.int .i64 k, .int .i64 vv, .int .i64 a, .bool g, .string t] 46)).heap[wr.heap.size]? = some (.cells (En.cells (En.mk k vv a g t)).toArray 46 (0, 0))) := alloc_at _ _ _ rfl
        have HLa1 : Hid ((outE l m 0 (En.mk k vv a g t) j).length ≤ 100) := Nat.le_trans (outE_len H8.out) (by omega)
        have HSa1 : Hid (w3.heap.size ≤ (wr.alloc (.cells #[.int .i64 k, .int .i64 vv, .int .i64 a, .bool g, .string t] 46)).heap.size) := show _ ≤ _ from (by have := HBr.out.size; simp; omega)
        go_wp2_with (at_builtin; refine wp_app _ rfl _ _ rfl w3.heap.size _ (outE l m 0 (En.mk k vv a g t) j) (En.mk k vv a g t) rfl HOa1.out _ rfl HVa1.out HLa1.out HSa1.out ?_)
        intro va1 wa1 hown hgrow
        have HOp1 : Hid (wa1.ownsRow w3.heap.size 46 5 va1 ((outE l m 0 (En.mk k vv a g t) j) ++ [(En.mk k vv a g t)]).length (rowC ((outE l m 0 (En.mk k vv a g t) j) ++ [(En.mk k vv a g t)]))) := hown
        have HBp1 : Hid (Below w3.heap.size w3 wa1) := below_grown (HBr.out.alloc HBr.out.size _) (Nat.le_refl _) hgrow.out (fun c hc => ownsRow_from HO.out c hc)
        clear hown hgrow HOa1 HVa1 HLa1 HSa1
        clear e0 e1 e2 e3 e4 ef
        go_wp2_with fail
        go_ret2
        refine ⟨va1, rfl, ?_, B3.out.trans (HBp1.out.mono B3.out.size)⟩
        have := RowIs.own HOp1.out
        rw [HEq.out] at this
        exact this
end Go.Proofs.YtippdgmgmenboagDoor

namespace Go.Proofs.YtippdgmgmenboagDoor
set_option linter.unusedVariables false
set_option linter.unusedSimpArgs false
open Go.RowKit

theorem rJoin_o {ka va aa : Int} {ga : Bool} {ta : ByteArray} {kb vb ab : Int} {gb : Bool} {tb : ByteArray} {k v a : Int} {g : Bool} {t : ByteArray} {n : Int} (h : joinE ⟨ka, va, aa, ga, ta⟩ ⟨kb, vb, ab, gb, tb⟩ = (⟨k, v, a, g, t⟩, n)) (hb : bad2 (bad ka va aa ga ta) (bad kb vb ab gb tb) = 0) (hk : ka = kb) (w : World) :
    Calls Tryd.prog 58 #[.agg #[.int .i64 ka, .int .i64 va, .int .i64 aa, .bool ga, .string ta], .agg #[.int .i64 kb, .int .i64 vb, .int .i64 ab, .bool gb, .string tb]] w fun e w' => e = .returned (.tuple #[.agg #[.int .i64 k, .int .i64 v, .int .i64 a, .bool g, .string t], .int .i64 n]) ∧ Below w.heap.size w w' := by
  have c := rJoin_c ka va aa ga ta kb vb ab gb tb w hb hk
  rw [h] at c
  exact c

set_option maxHeartbeats 8000000 in
theorem rAdd_some (v : Value) (l : List En) (k vv a : Int) (g : Bool) (t : ByteArray) (x0 x1 x2 : Int) (x3 : Bool) (x4 : ByteArray) (J0 J1 J2 : Int) (J3 : Bool) (J4 : ByteArray) (n1 : Int) (w : World) (hr : RowIs w v l) (hg : GoodL l) (he : bad k vv a g t = 0) (hk : getE l k = some ⟨x0, x1, x2, x3, x4⟩) (hj : joinE ⟨x0, x1, x2, x3, x4⟩ ⟨k, vv, a, g, t⟩ = (⟨J0, J1, J2, J3, J4⟩, n1)) :
    Calls Tryd.prog 41 #[v, .agg #[.int .i64 k, .int .i64 vv, .int .i64 a, .bool g, .string t]] w (RAddIs w (if n1 ≠ 0 then [] else l.take (placeE l k) ++ ⟨J0, J1, J2, J3, J4⟩ :: l.drop (placeE l k + 1)) n1) := by
  have HR : Hid (RowIs w v l) := hr
  have H8 : Hid (l.length ≤ 8) := hg.len
  have HKn : Hid (getE l k = some ⟨x0, x1, x2, x3, x4⟩) := hk
  have HJ : Hid (joinE ⟨x0, x1, x2, x3, x4⟩ ⟨k, vv, a, g, t⟩ = (⟨J0, J1, J2, J3, J4⟩, n1)) := hj
  obtain ⟨hm, hmx, hmk⟩ := getE_some hg.rise hk
  have HX0 : Hid (x0 = k) := hmk
  have HBd : Hid (bad2 (bad x0 x1 x2 x3 x4) (bad k vv a g t) = 0) := by
    have h1 : En.bad ⟨x0, x1, x2, x3, x4⟩ = 0 := hg.all _ ((getE_iff hg.rise).1 hk).1
    exact bad2_zero.2 ⟨h1, he⟩
  have HJk : Hid (n1 = 0 → J0 = k) := fun h => by
    have hj' := HJ.out
    rw [h] at hj'
    obtain ⟨_, _, h3, h4⟩ := joinE_ok hj'
    rcases h4 with h4 | h4
    · rw [show J0 = x0 from congrArg En.k h4]; exact hmk
    · exact congrArg En.k h4
  have HL0 : Hid (∀ j (h : j < l.length), j < placeE l k → l[j].k < k) := fun j h hj => placeE_less l k j h hj
  have HG0 : Hid (∀ j (h : j < l.length), placeE l k < j → l[j].k > k) := fun j h hj => by
    have h1 := List.pairwise_iff_getElem.1 hg.rise _ _ hm h hj
    rw [hmx] at h1
    dsimp only at h1 hmk
    omega
  have HE0 : Hid (∀ h : placeE l k < l.length, l[placeE l k].k = k) := fun h => by rw [hmx]; exact hmk
  obtain ⟨m, HMm⟩ : ∃ m, Hid (placeE l k = m) := ⟨_, rfl⟩
  rw [HMm.out] at hm ⊢
  clear hmx hmk hg hk he hj
  obtain ⟨hlen, p, cap, rfl, hrow⟩ := hr
  have HRow : Hid (l ≠ [] → ∃ b o, p = some ⟨b, o, none⟩ ∧ b < w.heap.size ∧ ∀ j (h : j < l.length), EnAt w b (o + j * 5) l[j]) := hrow
  clear hrow
  obtain ⟨n, HN⟩ : ∃ n, Hid (l.length = n) := ⟨_, rfl⟩
  rw [HN.out] at hlen HR hm ⊢
  have HMn : Hid (m < n) := hm
  have hn63 : n ≤ 9223372036854775807 := hlen
  have HB0 : Hid (Below w.heap.size w (w.alloc (.cells #[.int .i64 k, .int .i64 vv, .int .i64 a, .bool g, .string t] 46))) := by show Below _ _ _; go_grown
  obtain ⟨R, HRs⟩ : ∃ R, Hid ((if n1 ≠ 0 then [] else l.take m ++ ⟨J0, J1, J2, J3, J4⟩ :: l.drop (m + 1)) = R) := ⟨_, rfl⟩
  rw [HRs.out]
  go_enter Tryd.func41, Tryd.ntmps41
  go_wp2_with fail
  refine (rGet_some HKn.out _ _ (HR.out.below HB0.out)).mono ?_
  rintro e w1 ⟨rfl, hb⟩
  have B1 : Hid (Below w.heap.size w w1) := HB0.out.trans (hb.mono (by simp))
  have E1 : Hid (BoxAt w1 w.heap.size k vv a g t) := (box_new w k vv a g t w.heap.size rfl).below hb (by simp)
  obtain ⟨a0, a1, a2, a3, a4, af⟩ := E1.out
  have q1 : ¬ w.heap.size = w1.heap.size := by have := E1.out.lt; omega
  have q2 : w.heap.size < w1.heap.size := E1.out.lt
  clear hb
  go_wp2_with fail
  refine (rJoin_o HJ.out HBd.out HX0.out _).mono ?_
  rintro e w2 ⟨rfl, hb⟩
  have B1a : Hid (Below w.heap.size w (w1.alloc (.cells #[.int .i64 x0, .int .i64 x1, .int .i64 x2, .bool x3, .string x4] 46))) := B1.out.alloc B1.out.size _
  have B2 : Hid (Below w.heap.size w w2) := B1a.out.trans (hb.mono B1a.out.size)
  have E2 : Hid (BoxAt w2 w.heap.size k vv a g t) := (E1.out.alloc _).below hb (E1.out.alloc _).lt
  clear hb a0 a1 a2 a3 a4 af
  obtain ⟨a0, a1, a2, a3, a4, af⟩ := E2.out
  by_cases hn1 : n1 = 0
  · subst hn1
    have HRe : Hid (R = l.take m ++ ⟨J0, J1, J2, J3, J4⟩ :: l.drop (m + 1)) := HRs.out.symm.trans (if_neg (by simp))
    have hJk := HJk.out rfl
    have HL : Hid (∀ j (h : j < l.length), j < m → l[j].k < J0) := by
      show _
      rw [← HMm.out, hJk]
      exact HL0.out
    have HG : Hid (∀ j (h : j < l.length), m < j → l[j].k > J0) := by
      show _
      rw [← HMm.out, hJk]
      exact HG0.out
    have HE : Hid (∀ h : m < l.length, l[m].k = J0) := by
      have h := HMm.out
      subst h
      rw [hJk]
      exact HE0
    clear hJk HL0 HG0 HE0
    obtain ⟨w3, HW3⟩ : ∃ w3, Hid (w3 = ((((w2.setCell ⟨w.heap.size, 0, none⟩ (.int .i64 J0)).setCell ⟨w.heap.size, 1, none⟩ (.int .i64 J1)).setCell ⟨w.heap.size, 2, none⟩ (.int .i64 J2)).setCell ⟨w.heap.size, 3, none⟩ (.bool J3)).setCell ⟨w.heap.size, 4, none⟩ (.string J4)) := ⟨_, rfl⟩
    have B3 : Hid (Below w.heap.size w w3) := by
      show _
      rw [HW3.out]
      exact ((((B2.out.setCell (Nat.le_refl _) _).setCell (Nat.le_refl _) _).setCell (Nat.le_refl _) _).setCell (Nat.le_refl _) _).setCell (Nat.le_refl _) _
    have E3 : Hid (BoxAt w3 w.heap.size J0 J1 J2 J3 J4) := by
      show _
      rw [HW3.out]
      exact E2.out.set J0 J1 J2 J3 J4
    go_upto_region 7 with fail
    rw [← HW3.out]
    clear a0 a1 a2 a3 a4 af
    go_wp2_with fail
    go_loopw [9, 10, 11] (fun s9 s10 s11 wr => ∃ (j : Nat) (v9 : Value) (pt : Bool), s9 = v9 ∧ s10 = .bool pt ∧ j ≤ n ∧ s11 = .int .i64 j ∧ Hid (pt = decide (m < j)) ∧ Hid (wr.ownsRow w3.heap.size 46 5 v9 (outE l m 1 (En.mk J0 J1 J2 J3 J4) j).length (rowC (outE l m 1 (En.mk J0 J1 J2 J3 J4) j))) ∧ Hid (Below w3.heap.size w3 wr)) (fun _ _ i _ => n - (intOf i).toNat)
    case atStart => exact ⟨0, .slice none 0 0, false, rfl, rfl, Nat.zero_le _, rfl, (decide_eq_false (Nat.not_lt_zero _)).symm, (by rw [outE_zero]; exact World.ownsRow_nil _ _ _ _), Below.refl _ _⟩
    case round =>
      obtain ⟨j, v9, pt, hs9, hs10, hj, rfl, HP, HO, HBr⟩ := hrel
      have hs9' := hs9.symm
      clear hs9
      subst hs9'
      subst hs10
      have HBw : Hid (Below w.heap.size w wr) := B3.out.trans (HBr.out.mono B3.out.size)
      have HBx : Hid (BoxAt wr w.heap.size J0 J1 J2 J3 J4) := E3.out.below HBr.out E3.out.lt
      by_cases hlt : j < n
      · have hjl : j < l.length := by rw [HN.out]; exact hlt
        obtain ⟨b, o, rfl, hbw, hat⟩ := HRow.out (fun h => by simp [h] at hjl)
        have HAt : Hid (EnAt wr b (o + j * 5) l[j]) := (hat j hjl).of_block (HBw.out.block b hbw)
        have hat' := hat
        clear hat
        have hbr : b < wr.heap.size := by have := HBw.out.size; omega
        have hlti : (j : Int) < (n : Int) := by omega
        obtain ⟨y, HY⟩ : ∃ y, Hid (l[j] = y) := ⟨l[j], show l[j] = l[j] from rfl⟩
        rw [HY.out] at HAt
        have HYo : Hid (∀ W, Below w.heap.size w W → EnAt W b (o + j * 5) y) := fun W hW => by have := hat' j hjl; rw [HY.out] at this; exact this.of_block (hW.block b hbw)
        clear hat'
        rcases Nat.lt_trichotomy j m with hjm | hjm | hjm
        · have HK : Hid (y.k < J0) := by
            show _
            rw [← HY.out]
            exact HL.out j hjl (by omega)
          obtain rfl : pt = false := HP.out.trans (decide_eq_false (by omega))
          have HEq : Hid (outE l m 1 (En.mk J0 J1 J2 J3 J4) (j + 1) = outE l m 1 (En.mk J0 J1 J2 J3 J4) j ++ [y]) := by
            show _
            rw [← HY.out]
            exact outE_less (by omega) hjl
          obtain ⟨y0, y1, y2, y3, y4⟩ := y
          have HBq : True := trivial
          obtain ⟨e0, e1, e2, e3, e4, ef⟩ := HBx.out
          obtain ⟨c0, c1, c2, c3, c4⟩ := HAt.out
          dsimp only at c0 c1 c2 c3 c4
          have hk1 := HK.out
          dsimp only at hk1
          have hk2 : ¬ J0 ≤ y0 := by omega
          have hk3 : ¬ y0 = J0 := by omega
          have hk4 : (y0 == J0) = false := by simp [hk3]
          go_upto_region 12 with fail
          go_quiet (fail)
          obtain ⟨wq1, hq1⟩ : ∃ x, x = wr.drewN nq := ⟨_, rfl⟩
          rw [← hq1]
          have HB1 : Hid (Below wr.heap.size wr wq1) := by rw [hq1]; exact below_drewN _ _ _
          clear hq1
          clear e0 e1 e2 e3 e4 ef c0 c1 c2 c3 c4
          have HOq1 : Hid (wq1.ownsRow w3.heap.size 46 5 v9 (outE l m 1 (En.mk J0 J1 J2 J3 J4) j).length (rowC (outE l m 1 (En.mk J0 J1 J2 J3 J4) j))) := ownsRow_below HO.out HB1.out
          have HWq1 : Hid (Below w3.heap.size w3 wq1) := HBr.out.trans (HB1.out.mono HBr.out.size)
          have HXq1 : Hid (BoxAt wq1 w.heap.size J0 J1 J2 J3 J4) := HBx.out.below HB1.out HBx.out.lt
          have HYq1 : Hid (EnAt wq1 b (o + j * 5) ⟨y0, y1, y2, y3, y4⟩) := HAt.out.of_block (HB1.out.block b (by exact hbr))
          obtain ⟨e0, e1, e2, e3, e4, ef⟩ := HXq1.out
          obtain ⟨c0, c1, c2, c3, c4⟩ := HYq1.out
          dsimp only at c0 c1 c2 c3 c4
          go_upto_region 15 with fail
          go_quiet (fail)
          obtain ⟨wq2, hq2⟩ : ∃ x, x = wq1.drewN nq := ⟨_, rfl⟩
          rw [← hq2]
          have HB2 : Hid (Below wq1.heap.size wq1 wq2) := by rw [hq2]; exact below_drewN _ _ _
          clear hq2
          clear e0 e1 e2 e3 e4 ef c0 c1 c2 c3 c4
          have HOq2 : Hid (wq2.ownsRow w3.heap.size 46 5 v9 (outE l m 1 (En.mk J0 J1 J2 J3 J4) j).length (rowC (outE l m 1 (En.mk J0 J1 J2 J3 J4) j))) := ownsRow_below HOq1.out HB2.out
          have HWq2 : Hid (Below w3.heap.size w3 wq2) := HWq1.out.trans (HB2.out.mono HWq1.out.size)
          have HXq2 : Hid (BoxAt wq2 w.heap.size J0 J1 J2 J3 J4) := HXq1.out.below HB2.out HXq1.out.lt
          have HYq2 : Hid (EnAt wq2 b (o + j * 5) ⟨y0, y1, y2, y3, y4⟩) := HYq1.out.of_block (HB2.out.block b (by have := HB1.out.size; omega))
          obtain ⟨e0, e1, e2, e3, e4, ef⟩ := HXq2.out
          obtain ⟨c0, c1, c2, c3, c4⟩ := HYq2.out
          dsimp only at c0 c1 c2 c3 c4
          have HOa1 : Hid ((wq2.alloc (.cells #[.int .i64 y0, .int .i64 y1, .int .i64 y2, .bool y3, .string y4] 46)).ownsRow w3.heap.size 46 5 v9 (outE l m 1 (En.mk J0 J1 J2 J3 J4) j).length (rowC (outE l m 1 (En.mk J0 J1 J2 J3 J4) j))) := ownsRow_below HOq2.out ((Below.refl _ wq2).alloc (Nat.le_refl _) _)
          have HVa1 : Hid ((wq2.alloc (.cells #[.int .i64 y0, .int .i64 y1, .int .i64 y2, .bool y3, .string y4] 46)).heap[wq2.heap.size]? = some (.cells (En.cells (En.mk y0 y1 y2 y3 y4)).toArray 46 (0, 0))) := alloc_at _ _ _ rfl
          have HLa1 : Hid ((outE l m 1 (En.mk J0 J1 J2 J3 J4) j).length ≤ 100) := Nat.le_trans (outE_len H8.out) (by omega)
          have HSa1 : Hid (w3.heap.size ≤ (wq2.alloc (.cells #[.int .i64 y0, .int .i64 y1, .int .i64 y2, .bool y3, .string y4] 46)).heap.size) := show _ ≤ _ from (by have := HWq2.out.size; simp; omega)
          go_wp2_with (at_builtin; refine wp_app _ rfl _ _ rfl w3.heap.size _ (outE l m 1 (En.mk J0 J1 J2 J3 J4) j) (En.mk y0 y1 y2 y3 y4) rfl HOa1.out _ rfl HVa1.out HLa1.out HSa1.out ?_)
          intro va1 wa1 hown hgrow
          have HOp1 : Hid (wa1.ownsRow w3.heap.size 46 5 va1 ((outE l m 1 (En.mk J0 J1 J2 J3 J4) j) ++ [(En.mk y0 y1 y2 y3 y4)]).length (rowC ((outE l m 1 (En.mk J0 J1 J2 J3 J4) j) ++ [(En.mk y0 y1 y2 y3 y4)]))) := hown
          have HBp1 : Hid (Below w3.heap.size w3 wa1) := below_grown (HWq2.out.alloc HWq2.out.size _) (Nat.le_refl _) hgrow.out (fun c hc => ownsRow_from HOq2.out c hc)
          clear hown hgrow HOa1 HVa1 HLa1 HSa1
          clear e0 e1 e2 e3 e4 ef c0 c1 c2 c3 c4
          go_wp2_with fail
          go_roundw
          case rel =>
            refine ⟨j + 1, va1, false, rfl, rfl, by omega, by go_num, ?_, ?_, HBp1⟩
            · exact (decide_eq_false (by omega)).symm
            · show World.ownsRow _ _ _ _ _ _ _
              rw [HEq.out]
              exact HOp1.out
          case measure => simp [intOf]; omega
        · obtain rfl : j = m := by omega
          have HK : Hid (y.k = J0) := by
            show _
            rw [← HY.out]
            exact HE.out hjl
          obtain rfl : pt = false := HP.out.trans (decide_eq_false (by omega))
          have HEq : Hid (outE l j 1 (En.mk J0 J1 J2 J3 J4) (j + 1) = outE l j 1 (En.mk J0 J1 J2 J3 J4) j ++ [(En.mk J0 J1 J2 J3 J4)]) := outE_at1 hjl
          obtain ⟨y0, y1, y2, y3, y4⟩ := y
          have HBq : True := trivial
          obtain ⟨e0, e1, e2, e3, e4, ef⟩ := HBx.out
          obtain ⟨c0, c1, c2, c3, c4⟩ := HAt.out
          dsimp only at c0 c1 c2 c3 c4
          have hk1 := HK.out
          dsimp only at hk1
          have hk2 : J0 ≤ y0 := by omega
          have hk4 : (y0 == J0) = true := by simp [hk1]
          clear hk1
          go_upto_region 12 with fail
          go_quiet (fail)
          obtain ⟨wq1, hq1⟩ : ∃ x, x = wr.drewN nq := ⟨_, rfl⟩
          rw [← hq1]
          have HB1 : Hid (Below wr.heap.size wr wq1) := by rw [hq1]; exact below_drewN _ _ _
          clear hq1
          clear e0 e1 e2 e3 e4 ef c0 c1 c2 c3 c4
          have HOq1 : Hid (wq1.ownsRow w3.heap.size 46 5 v9 (outE l j 1 (En.mk J0 J1 J2 J3 J4) j).length (rowC (outE l j 1 (En.mk J0 J1 J2 J3 J4) j))) := ownsRow_below HO.out HB1.out
          have HWq1 : Hid (Below w3.heap.size w3 wq1) := HBr.out.trans (HB1.out.mono HBr.out.size)
          have HXq1 : Hid (BoxAt wq1 w.heap.size J0 J1 J2 J3 J4) := HBx.out.below HB1.out HBx.out.lt
          have HYq1 : Hid (EnAt wq1 b (o + j * 5) ⟨y0, y1, y2, y3, y4⟩) := HAt.out.of_block (HB1.out.block b (by exact hbr))
          obtain ⟨e0, e1, e2, e3, e4, ef⟩ := HXq1.out
          obtain ⟨c0, c1, c2, c3, c4⟩ := HYq1.out
          dsimp only at c0 c1 c2 c3 c4
          have HOa1 : Hid ((wq1.alloc (.cells #[.int .i64 J0, .int .i64 J1, .int .i64 J2, .bool J3, .string J4] 46)).ownsRow w3.heap.size 46 5 v9 (outE l j 1 (En.mk J0 J1 J2 J3 J4) j).length (rowC (outE l j 1 (En.mk J0 J1 J2 J3 J4) j))) := ownsRow_below HOq1.out ((Below.refl _ wq1).alloc (Nat.le_refl _) _)
          have HVa1 : Hid ((wq1.alloc (.cells #[.int .i64 J0, .int .i64 J1, .int .i64 J2, .bool J3, .string J4] 46)).heap[wq1.heap.size]? = some (.cells (En.cells (En.mk J0 J1 J2 J3 J4)).toArray 46 (0, 0))) := alloc_at _ _ _ rfl
          have HLa1 : Hid ((outE l j 1 (En.mk J0 J1 J2 J3 J4) j).length ≤ 100) := Nat.le_trans (outE_len H8.out) (by omega)
          have HSa1 : Hid (w3.heap.size ≤ (wq1.alloc (.cells #[.int .i64 J0, .int .i64 J1, .int .i64 J2, .bool J3, .string J4] 46)).heap.size) := show _ ≤ _ from (by have := HWq1.out.size; simp; omega)
          go_wp2_with (at_builtin; refine wp_app _ rfl _ _ rfl w3.heap.size _ (outE l j 1 (En.mk J0 J1 J2 J3 J4) j) (En.mk J0 J1 J2 J3 J4) rfl HOa1.out _ rfl HVa1.out HLa1.out HSa1.out ?_)
          intro va1 wa1 hown hgrow
          have HOp1 : Hid (wa1.ownsRow w3.heap.size 46 5 va1 ((outE l j 1 (En.mk J0 J1 J2 J3 J4) j) ++ [(En.mk J0 J1 J2 J3 J4)]).length (rowC ((outE l j 1 (En.mk J0 J1 J2 J3 J4) j) ++ [(En.mk J0 J1 J2 J3 J4)]))) := hown
          have HBp1 : Hid (Below w3.heap.size w3 wa1) := below_grown (HWq1.out.alloc HWq1.out.size _) (Nat.le_refl _) hgrow.out (fun c hc => ownsRow_from HOq1.out c hc)
          clear hown hgrow HOa1 HVa1 HLa1 HSa1
          clear e0 e1 e2 e3 e4 ef c0 c1 c2 c3 c4
          have HXp : Hid (BoxAt wa1 w.heap.size J0 J1 J2 J3 J4) := E3.out.below HBp1.out E3.out.lt
          have HYp : Hid (EnAt wa1 b (o + j * 5) ⟨y0, y1, y2, y3, y4⟩) := HYo.out wa1 (B3.out.trans (HBp1.out.mono B3.out.size))
          have hbp : b < wa1.heap.size := by have := HBp1.out.size; have := B3.out.size; omega
          obtain ⟨e0, e1, e2, e3, e4, ef⟩ := HXp.out
          obtain ⟨c0, c1, c2, c3, c4⟩ := HYp.out
          dsimp only at c0 c1 c2 c3 c4
          go_upto_region 15 with fail
          go_quiet (fail)
          obtain ⟨wq2, hq2⟩ : ∃ x, x = wa1.drewN nq := ⟨_, rfl⟩
          rw [← hq2]
          have HB2 : Hid (Below wa1.heap.size wa1 wq2) := by rw [hq2]; exact below_drewN _ _ _
          clear hq2
          clear e0 e1 e2 e3 e4 ef c0 c1 c2 c3 c4
          have HOq2 : Hid (wq2.ownsRow w3.heap.size 46 5 va1 ((outE l j 1 (En.mk J0 J1 J2 J3 J4) j) ++ [(En.mk J0 J1 J2 J3 J4)]).length (rowC ((outE l j 1 (En.mk J0 J1 J2 J3 J4) j) ++ [(En.mk J0 J1 J2 J3 J4)]))) := ownsRow_below HOp1.out HB2.out
          have HWq2 : Hid (Below w3.heap.size w3 wq2) := HBp1.out.trans (HB2.out.mono HBp1.out.size)
          have HXq2 : Hid (BoxAt wq2 w.heap.size J0 J1 J2 J3 J4) := HXp.out.below HB2.out HXp.out.lt
          have HYq2 : Hid (EnAt wq2 b (o + j * 5) ⟨y0, y1, y2, y3, y4⟩) := HYp.out.of_block (HB2.out.block b (by exact hbp))
          go_wp2_with fail
          go_roundw
          case rel =>
            refine ⟨j + 1, va1, true, rfl, rfl, by omega, by go_num, ?_, ?_, HWq2⟩
            · exact (decide_eq_true (by omega)).symm
            · show World.ownsRow _ _ _ _ _ _ _
              rw [HEq.out]
              exact HOq2.out
          case measure => simp [intOf]; omega
        · have HK : Hid (y.k > J0) := by
            show _
            rw [← HY.out]
            exact HG.out j hjl (by omega)
          obtain rfl : pt = true := HP.out.trans (decide_eq_true (by omega))
          have HEq : Hid (outE l m 1 (En.mk J0 J1 J2 J3 J4) (j + 1) = outE l m 1 (En.mk J0 J1 J2 J3 J4) j ++ [y]) := by
            show _
            rw [← HY.out]
            exact outE_more (by omega) (by omega) hjl
          obtain ⟨y0, y1, y2, y3, y4⟩ := y
          have HBq : True := trivial
          obtain ⟨e0, e1, e2, e3, e4, ef⟩ := HBx.out
          obtain ⟨c0, c1, c2, c3, c4⟩ := HAt.out
          dsimp only at c0 c1 c2 c3 c4
          have hk1 := HK.out
          dsimp only at hk1
          have hk2 : J0 < y0 := by omega
          have hk3 : ¬ y0 = J0 := by omega
          have hk4 : (y0 == J0) = false := by simp [hk3]
          go_upto_region 12 with fail
          go_quiet (fail)
          obtain ⟨wq1, hq1⟩ : ∃ x, x = wr.drewN nq := ⟨_, rfl⟩
          rw [← hq1]
          have HB1 : Hid (Below wr.heap.size wr wq1) := by rw [hq1]; exact below_drewN _ _ _
          clear hq1
          clear e0 e1 e2 e3 e4 ef c0 c1 c2 c3 c4
          have HOq1 : Hid (wq1.ownsRow w3.heap.size 46 5 v9 (outE l m 1 (En.mk J0 J1 J2 J3 J4) j).length (rowC (outE l m 1 (En.mk J0 J1 J2 J3 J4) j))) := ownsRow_below HO.out HB1.out
          have HWq1 : Hid (Below w3.heap.size w3 wq1) := HBr.out.trans (HB1.out.mono HBr.out.size)
          have HXq1 : Hid (BoxAt wq1 w.heap.size J0 J1 J2 J3 J4) := HBx.out.below HB1.out HBx.out.lt
          have HYq1 : Hid (EnAt wq1 b (o + j * 5) ⟨y0, y1, y2, y3, y4⟩) := HAt.out.of_block (HB1.out.block b (by exact hbr))
          obtain ⟨e0, e1, e2, e3, e4, ef⟩ := HXq1.out
          obtain ⟨c0, c1, c2, c3, c4⟩ := HYq1.out
          dsimp only at c0 c1 c2 c3 c4
          go_upto_region 15 with fail
          go_quiet (fail)
          obtain ⟨wq2, hq2⟩ : ∃ x, x = wq1.drewN nq := ⟨_, rfl⟩
          rw [← hq2]
          have HB2 : Hid (Below wq1.heap.size wq1 wq2) := by rw [hq2]; exact below_drewN _ _ _
          clear hq2
          clear e0 e1 e2 e3 e4 ef c0 c1 c2 c3 c4
          have HOq2 : Hid (wq2.ownsRow w3.heap.size 46 5 v9 (outE l m 1 (En.mk J0 J1 J2 J3 J4) j).length (rowC (outE l m 1 (En.mk J0 J1 J2 J3 J4) j))) := ownsRow_below HOq1.out HB2.out
          have HWq2 : Hid (Below w3.heap.size w3 wq2) := HWq1.out.trans (HB2.out.mono HWq1.out.size)
          have HXq2 : Hid (BoxAt wq2 w.heap.size J0 J1 J2 J3 J4) := HXq1.out.below HB2.out HXq1.out.lt
          have HYq2 : Hid (EnAt wq2 b (o + j * 5) ⟨y0, y1, y2, y3, y4⟩) := HYq1.out.of_block (HB2.out.block b (by have := HB1.out.size; omega))
          obtain ⟨e0, e1, e2, e3, e4, ef⟩ := HXq2.out
          obtain ⟨c0, c1, c2, c3, c4⟩ := HYq2.out
          dsimp only at c0 c1 c2 c3 c4
          have HOa1 : Hid ((wq2.alloc (.cells #[.int .i64 y0, .int .i64 y1, .int .i64 y2, .bool y3, .string y4] 46)).ownsRow w3.heap.size 46 5 v9 (outE l m 1 (En.mk J0 J1 J2 J3 J4) j).length (rowC (outE l m 1 (En.mk J0 J1 J2 J3 J4) j))) := ownsRow_below HOq2.out ((Below.refl _ wq2).alloc (Nat.le_refl _) _)
          have HVa1 : Hid ((wq2.alloc (.cells #[.int .i64 y0, .int .i64 y1, .int .i64 y2, .bool y3, .string y4] 46)).heap[wq2.heap.size]? = some (.cells (En.cells (En.mk y0 y1 y2 y3 y4)).toArray 46 (0, 0))) := alloc_at _ _ _ rfl
          have HLa1 : Hid ((outE l m 1 (En.mk J0 J1 J2 J3 J4) j).length ≤ 100) := Nat.le_trans (outE_len H8.out) (by omega)
          have HSa1 : Hid (w3.heap.size ≤ (wq2.alloc (.cells #[.int .i64 y0, .int .i64 y1, .int .i64 y2, .bool y3, .string y4] 46)).heap.size) := show _ ≤ _ from (by have := HWq2.out.size; simp; omega)
          go_wp2_with (at_builtin; refine wp_app _ rfl _ _ rfl w3.heap.size _ (outE l m 1 (En.mk J0 J1 J2 J3 J4) j) (En.mk y0 y1 y2 y3 y4) rfl HOa1.out _ rfl HVa1.out HLa1.out HSa1.out ?_)
          intro va1 wa1 hown hgrow
          have HOp1 : Hid (wa1.ownsRow w3.heap.size 46 5 va1 ((outE l m 1 (En.mk J0 J1 J2 J3 J4) j) ++ [(En.mk y0 y1 y2 y3 y4)]).length (rowC ((outE l m 1 (En.mk J0 J1 J2 J3 J4) j) ++ [(En.mk y0 y1 y2 y3 y4)]))) := hown
          have HBp1 : Hid (Below w3.heap.size w3 wa1) := below_grown (HWq2.out.alloc HWq2.out.size _) (Nat.le_refl _) hgrow.out (fun c hc => ownsRow_from HOq2.out c hc)
          clear hown hgrow HOa1 HVa1 HLa1 HSa1
          clear e0 e1 e2 e3 e4 ef c0 c1 c2 c3 c4
          go_wp2_with fail
          go_roundw
          case rel =>
            refine ⟨j + 1, va1, true, rfl, rfl, by omega, by go_num, ?_, ?_, HBp1⟩
            · exact (decide_eq_true (by omega)).symm
            · show World.ownsRow _ _ _ _ _ _ _
              rw [HEq.out]
              exact HOp1.out
          case measure => simp [intOf]; omega
      · obtain rfl : j = n := by omega
        obtain rfl : pt = true := HP.out.trans (decide_eq_true (by have := HMn.out; omega))
        have HEq : Hid (outE l m 1 (En.mk J0 J1 J2 J3 J4) j = l.take m ++ (En.mk J0 J1 J2 J3 J4) :: l.drop (m + 1)) := by
          show _
          rw [← HN.out]
          exact outE_end (d := 1) (by rw [HN.out]; exact HMn.out)
        go_wp2_with fail
        go_ret2
        refine ⟨v9, rfl, ?_, HBw.out⟩
        have := RowIs.own HO.out
        rw [HEq.out] at this
        rw [HRe.out]
        exact this
  · have HRe : Hid (R = []) := HRs.out.symm.trans (if_pos hn1)
    go_wp2_with fail
    go_ret2
    refine ⟨.slice none 0 0, rfl, by rw [HRe.out]; exact RowIs.nil _, ?_⟩
    exact ((((B2.out.setCell (Nat.le_refl _) _).setCell (Nat.le_refl _) _).setCell (Nat.le_refl _) _).setCell (Nat.le_refl _) _).setCell (Nat.le_refl _) _
end Go.Proofs.YtippdgmgmenboagDoor

namespace Go.Proofs.YtippdgmgmenboagDoor
set_option linter.unusedVariables false
set_option linter.unusedSimpArgs false
open Go.RowKit

theorem rAdd_c (v : Value) (l : List En) (k vv a : Int) (g : Bool) (t : ByteArray) (w : World) (hr : RowIs w v l) (hg : GoodL l) (he : bad k vv a g t = 0) :
    Calls Tryd.prog 41 #[v, .agg #[.int .i64 k, .int .i64 vv, .int .i64 a, .bool g, .string t]] w (RAddIs w (putE l ⟨k, vv, a, g, t⟩).1 (putE l ⟨k, vv, a, g, t⟩).2.2) := by
  cases hk : getE l k with
  | none =>
    have hp : putE l ⟨k, vv, a, g, t⟩ = (l.take (placeE l k) ++ ⟨k, vv, a, g, t⟩ :: l.drop (placeE l k), true, 0) := by unfold putE; simp only [hk]
    rw [hp]
    exact rAdd_none v l k vv a g t w hr hg hk
  | some x =>
    have hp : putE l ⟨k, vv, a, g, t⟩ = (if (joinE x ⟨k, vv, a, g, t⟩).2 ≠ 0 then ([], false, (joinE x ⟨k, vv, a, g, t⟩).2) else (l.set (placeE l k) (joinE x ⟨k, vv, a, g, t⟩).1, !((joinE x ⟨k, vv, a, g, t⟩).1.same x), 0)) := by unfold putE; simp only [hk]
    rw [hp]
    obtain ⟨hm, hmx, _⟩ := getE_some hg.rise hk
    obtain ⟨⟨⟨J0, J1, J2, J3, J4⟩, n1⟩, hj⟩ : ∃ J, joinE x ⟨k, vv, a, g, t⟩ = J := ⟨_, rfl⟩
    rw [hj]
    obtain ⟨x0, x1, x2, x3, x4⟩ := x
    have c := rAdd_some v l k vv a g t x0 x1 x2 x3 x4 J0 J1 J2 J3 J4 n1 w hr hg he hk hj
    by_cases hn : n1 = 0
    · subst hn
      rw [if_neg (by simp)] at c ⊢
      rw [show l.set (placeE l k) ⟨J0, J1, J2, J3, J4⟩ = l.take (placeE l k) ++ ⟨J0, J1, J2, J3, J4⟩ :: l.drop (placeE l k + 1) from List.set_eq_take_append_cons_drop.trans (if_pos hm)]
      exact c
    · rw [if_pos hn] at c ⊢
      exact c
theorem rAdd_o {l : List En} {k vv a : Int} {g : Bool} {t : ByteArray} {R1 : List En} {R2 : Bool} {R3 : Int} (h : putE l ⟨k, vv, a, g, t⟩ = (R1, R2, R3)) (v : Value) (w : World) (hr : RowIs w v l) (hg : GoodL l) (he : bad k vv a g t = 0) :
    Calls Tryd.prog 41 #[v, .agg #[.int .i64 k, .int .i64 vv, .int .i64 a, .bool g, .string t]] w fun e w' => ∃ v', e = .returned (.tuple #[v', .int .i64 R3]) ∧ RowIs w' v' R1 ∧ Below w.heap.size w w' := by
  have c := rAdd_c v l k vv a g t w hr hg he
  rw [h] at c
  exact c

set_option maxHeartbeats 4000000 in
theorem rAll_c (va vb : Value) (a b : List En) (R1 : List En) (R2 : Int) (w : World) (hra : RowIs w va a) (hrb : RowIs w vb b) (hga : GoodL a) (hgb : GoodL b) (h : allE a b = (R1, R2)) :
    Calls Tryd.prog 25 #[va, vb] w fun e w' => ∃ v', e = .returned (.tuple #[v', .int .i64 R2]) ∧ RowIs w' v' R1 ∧ Below w.heap.size w w' := by
  have HA : Hid (RowIs w va a) := hra
  have HGa : Hid (GoodL a) := hga
  have HGb : Hid (GoodL b) := hgb
  have HR : Hid ((R1, R2) = allE a (b.drop 0)) := by rw [List.drop_zero]; exact h.symm
  clear hra hga hgb h
  obtain ⟨hlen, p, cap, rfl, hrow⟩ := hrb
  have HRow : Hid (b ≠ [] → ∃ bb o, p = some ⟨bb, o, none⟩ ∧ bb < w.heap.size ∧ ∀ j (h : j < b.length), EnAt w bb (o + j * 5) b[j]) := hrow
  clear hrow
  obtain ⟨nb, HNb⟩ : ∃ nb, Hid (b.length = nb) := ⟨_, rfl⟩
  rw [HNb.out] at hlen ⊢
  have hn63 : nb ≤ 9223372036854775807 := hlen
  go_enter Tryd.func25, Tryd.ntmps25
  go_wp2_with fail
  go_loopw [0, 6, 7] (fun s0 s6 s7 wr => ∃ (j : Nat) (cur : List En) (f : Int) (v0 : Value), s0 = v0 ∧ s6 = .int .i64 f ∧ j ≤ nb ∧ s7 = .int .i64 j ∧ Hid (RowIs wr v0 cur) ∧ Hid ((f = 0 ∧ GoodL cur ∧ (R1, R2) = allE cur (b.drop j)) ∨ (f ≠ 0 ∧ (R1, R2) = (cur, f))) ∧ Hid (Below w.heap.size w wr)) (fun _ _ i _ => nb - (intOf i).toNat)
  case atStart => exact ⟨0, a, 0, va, rfl, rfl, Nat.zero_le _, rfl, HA, .inl ⟨rfl, HGa.out, HR.out⟩, Below.refl _ _⟩
  case round =>
    obtain ⟨j, cur, f, v0, hs0, hs6, hj, rfl, HO, HD, HB⟩ := hrel
    have hs0' := hs0.symm
    clear hs0
    subst hs0'
    subst hs6
    by_cases hf : f = 0
    · subst hf
      obtain ⟨HGc, HE⟩ : Hid (GoodL cur) ∧ Hid ((R1, R2) = allE cur (b.drop j)) := by
        rcases HD.out with h | h
        · exact ⟨h.2.1, h.2.2⟩
        · exact absurd rfl h.1
      clear HD
      by_cases hlt : j < nb
      · have hjl : j < b.length := by rw [HNb.out]; exact hlt
        obtain ⟨bb, o, rfl, hbw, hat⟩ := HRow.out (fun h => by simp [h] at hjl)
        have HAt : Hid (EnAt wr bb (o + j * 5) b[j]) := (hat j hjl).of_block (HB.out.block bb hbw)
        clear hat
        have HBad : Hid (b[j].bad = 0) := HGb.out.all _ (List.getElem_mem _)
        have HStep : Hid ((R1, R2) = if (putE cur b[j]).2.2 ≠ 0 then ([], (putE cur b[j]).2.2) else allE (putE cur b[j]).1 (b.drop (j + 1))) := HE.out.trans (allE_step hjl)
        obtain ⟨x, HX⟩ : ∃ x, Hid (b[j] = x) := ⟨b[j], show b[j] = b[j] from rfl⟩
        rw [HX.out] at HAt HBad HStep
        obtain ⟨⟨P1, P2, P3⟩, HPt⟩ : ∃ P, Hid (putE cur x = P) := ⟨_, rfl⟩
        rw [HPt.out] at HStep
        dsimp only at HStep
        obtain ⟨k, vv, aa, g, t⟩ := x
        obtain ⟨c0, c1, c2, c3, c4⟩ := HAt.out
        dsimp only at c0 c1 c2 c3 c4
        have hlti : (j : Int) < (nb : Int) := by omega
        go_wp2_with fail
        refine (rAdd_o HPt.out v0 _ HO.out HGc.out HBad.out).mono ?_
        rintro e w5 ⟨v5, rfl, ho5, hb⟩
        have HO5 : Hid (RowIs w5 v5 P1) := ho5
        have B5 : Hid (Below w.heap.size w w5) := HB.out.trans (hb.mono HB.out.size)
        clear ho5 hb c0 c1 c2 c3 c4
        have HD5 : Hid ((P3 = 0 ∧ GoodL P1 ∧ (R1, R2) = allE P1 (b.drop (j + 1))) ∨ (P3 ≠ 0 ∧ (R1, R2) = (P1, P3))) := by
          by_cases h3 : P3 = 0
          · refine .inl ⟨h3, ?_, ?_⟩
            · have := putE_good (e := ⟨k, vv, aa, g, t⟩) HGc.out HBad.out (by rw [HPt.out]; exact h3)
              rw [HPt.out] at this
              exact this
            · have hs := HStep.out
              rw [if_neg (by simpa using h3)] at hs
              exact hs
          · refine .inr ⟨h3, ?_⟩
            have hs := HStep.out
            rw [if_pos h3] at hs
            have hP1 : P1 = [] := by
              have hp := HPt.out
              unfold putE at hp
              cases hk : getE cur k with
              | none => simp only [hk] at hp; simp at hp; exact absurd hp.2.2.symm h3
              | some y =>
                simp only [hk] at hp
                split at hp
                · simp at hp; exact hp.1
                · simp at hp; exact absurd hp.2.2.symm h3
            rw [hP1]
            exact hs
        go_wp2_with fail
        go_roundw
        case rel => exact ⟨j + 1, P1, P3, v5, rfl, rfl, by omega, by go_num, HO5, HD5, B5⟩
        case measure => simp [intOf]; omega
      · obtain rfl : j = nb := by omega
        have HR0 : Hid ((R1, R2) = (cur, 0)) := by
          refine HE.out.trans ?_
          rw [List.drop_eq_nil_of_le (by rw [HNb.out]; exact Nat.le_refl _)]
          rfl
        have hd : decide ((j : Int) < (j : Int)) = false := by simp
        go_wp2_with fail
        go_ret2
        have h0 := HR0.out
        simp only [Prod.mk.injEq] at h0
        obtain ⟨rfl, rfl⟩ := h0
        exact ⟨v0, rfl, HO.out, HB.out⟩
    · obtain HR0 : Hid ((R1, R2) = (cur, f)) := by
        rcases HD.out with h | h
        · exact absurd h.1 hf
        · exact h.2
      have hfb : (f == 0) = false := by simp [hf]
      by_cases hlt : j < nb
      · have hlti : (j : Int) < (nb : Int) := by omega
        go_wp2_with fail
        go_ret2
        have h0 := HR0.out
        simp only [Prod.mk.injEq] at h0
        obtain ⟨rfl, rfl⟩ := h0
        exact ⟨v0, rfl, HO.out, HB.out⟩
      · have hlti : ¬ (j : Int) < (nb : Int) := by omega
        have hd : decide ((j : Int) < (nb : Int)) = false := decide_eq_false hlti
        go_wp2_with fail
        go_ret2
        have h0 := HR0.out
        simp only [Prod.mk.injEq] at h0
        obtain ⟨rfl, rfl⟩ := h0
        exact ⟨v0, rfl, HO.out, HB.out⟩
end Go.Proofs.YtippdgmgmenboagDoor

namespace Go.Proofs.YtippdgmgmenboagDoor
set_option linter.unusedVariables false
set_option linter.unusedSimpArgs false
open Go.RowKit

theorem eqI_step {a b : List Int} {j : Nat} (ha : j < a.length) (hb : j < b.length) : (a.drop j == b.drop j) = ((a[j] == b[j]) && (a.drop (j + 1) == b.drop (j + 1))) := by
  rw [List.drop_eq_getElem_cons ha, List.drop_eq_getElem_cons hb]
  rfl
theorem eqI_len {a b : List Int} (h : a.length ≠ b.length) : (a == b) = false := by
  rw [beq_eq_false_iff_ne]
  intro h'
  exact h (by rw [h'])

set_option maxHeartbeats 4000000 in
theorem ints_c (va vb : Value) (a b : List Int) (w : World) (hra : IntsIs w va a) (hrb : IntsIs w vb b) :
    Calls Tryd.prog 10 #[va, vb] w fun e w' => e = .returned (.bool (a == b)) ∧ Below w.heap.size w w' := by
  obtain ⟨hla, pa, capa, rfl, hrowa⟩ := hra
  obtain ⟨hlb, pb, capb, rfl, hrowb⟩ := hrb
  by_cases hl : a.length = b.length
  · have HRA : Hid (a ≠ [] → ∃ bb o, pa = some ⟨bb, o, none⟩ ∧ bb < w.heap.size ∧ ∀ j (h : j < a.length), w.cell? ⟨bb, o + j, none⟩ = some (.int .i64 a[j])) := hrowa
    have HRB : Hid (b ≠ [] → ∃ bb o, pb = some ⟨bb, o, none⟩ ∧ bb < w.heap.size ∧ ∀ j (h : j < b.length), w.cell? ⟨bb, o + j, none⟩ = some (.int .i64 b[j])) := hrowb
    clear hrowa hrowb
    have HL : Hid (a.length = b.length) := hl
    obtain ⟨n, HN⟩ : ∃ n, Hid (a.length = n) := ⟨_, rfl⟩
    have HNb : Hid (b.length = n) := HL.out.symm.trans HN.out
    rw [HN.out] at hla ⊢
    rw [HNb.out] at hlb ⊢
    have hn63 : n ≤ 9223372036854775807 := hla
    clear hl
    obtain ⟨R, HR⟩ : ∃ R, Hid ((a == b) = R) := ⟨_, rfl⟩
    rw [HR.out]
    go_enter Tryd.func10, Tryd.ntmps10
    go_wp2_with fail
    go_loopw [5] (fun i wr => ∃ j : Nat, j ≤ n ∧ i = .int .i64 j ∧ Hid (R = (a.drop j == b.drop j)) ∧ Hid (Below w.heap.size w wr)) (fun i _ => n - (intOf i).toNat)
    case atStart => exact ⟨0, Nat.zero_le _, rfl, by rw [List.drop_zero, List.drop_zero]; exact HR.out.symm, Below.refl _ _⟩
    case round =>
      obtain ⟨j, hj, rfl, HE, HB⟩ := hrel
      by_cases hlt : j < n
      · have hja : j < a.length := by rw [HN.out]; exact hlt
        have hjb : j < b.length := by rw [HNb.out]; exact hlt
        obtain ⟨ba, oa, rfl, hbwa, hata⟩ := HRA.out (fun h => by simp [h] at hja)
        obtain ⟨bb, ob, rfl, hbwb, hatb⟩ := HRB.out (fun h => by simp [h] at hjb)
        have c0 : wr.cell? ⟨ba, oa + j, none⟩ = some (.int .i64 a[j]) := (World.cell?_of_block (a := ⟨ba, oa + j, none⟩) (HB.out.block ba hbwa)).trans (hata j hja)
        have d0 : wr.cell? ⟨bb, ob + j, none⟩ = some (.int .i64 b[j]) := (World.cell?_of_block (a := ⟨bb, ob + j, none⟩) (HB.out.block bb hbwb)).trans (hatb j hjb)
        clear hata hatb
        have HStep : Hid (R = ((a[j] == b[j]) && (a.drop (j + 1) == b.drop (j + 1)))) := HE.out.trans (eqI_step hja hjb)
        obtain ⟨x, HX⟩ : ∃ x, Hid (a[j] = x) := ⟨a[j], show a[j] = a[j] from rfl⟩
        obtain ⟨y, HY⟩ : ∃ y, Hid (b[j] = y) := ⟨b[j], show b[j] = b[j] from rfl⟩
        rw [HX.out] at c0 HStep
        rw [HY.out] at d0 HStep
        have hlti : (j : Int) < (n : Int) := by omega
        by_cases hs : x = y
        · have hsb : (x == y) = true := by simp [hs]
          rw [hsb] at HStep
          have hsn : (x != y) = false := by simp [hs]
          go_upto_region 6 with fail
          go_quiet (fail)
          go_wp2_with fail
          go_roundw
          case rel => exact ⟨j + 1, by omega, by go_num, HStep.out.trans (by rw [Bool.true_and]), HB.out.trans (below_drewN _ _ _)⟩
          case measure => simp [intOf]; omega
        · have hsb : (x == y) = false := by simp [hs]
          rw [hsb] at HStep
          go_upto_region 6 with fail
          go_quiet (fail)
          go_wp2_with fail
          go_ret
          refine ⟨by rw [HStep.out]; rfl, HB.out.trans (below_drewN _ _ _)⟩
      · obtain rfl : j = n := by omega
        have HR0 : Hid (R = true) := by
          show R = true
          rw [HE.out, List.drop_eq_nil_of_le (by rw [HN.out]; exact Nat.le_refl _), List.drop_eq_nil_of_le (by rw [HNb.out]; exact Nat.le_refl _)]
          rfl
        go_wp2_with fail
        go_ret
        exact ⟨by rw [HR0.out]; rfl, HB.out⟩
  · rw [eqI_len hl]
    clear hrowa hrowb
    have hli : ¬ ((a.length : Int) = (b.length : Int)) := by omega
    generalize a.length = n at *
    generalize b.length = m at *
    go_enter Tryd.func10, Tryd.ntmps10
    go_wp2_with fail
    go_ret
    exact ⟨rfl, Below.refl _ _⟩

theorem hasI_hit {a : List Int} {x : Int} {j : Nat} (h : j < a.length) (hx : a[j] = x) : (a.drop j).contains x = true := by
  rw [List.drop_eq_getElem_cons h, List.contains_cons, hx]
  simp
theorem hasI_miss {a : List Int} {x : Int} {j : Nat} (h : j < a.length) (hx : ¬ a[j] = x) : (a.drop j).contains x = (a.drop (j + 1)).contains x := by
  rw [List.drop_eq_getElem_cons h, List.contains_cons]
  have : (x == a[j]) = false := by simp; exact fun h => hx h.symm
  rw [this, Bool.false_or]

set_option maxHeartbeats 4000000 in
theorem in_c (va : Value) (a : List Int) (x : Int) (w : World) (hra : IntsIs w va a) :
    Calls Tryd.prog 15 #[va, .int .i64 x] w fun e w' => e = .returned (.bool (a.contains x)) ∧ Below w.heap.size w w' := by
  obtain ⟨hla, pa, capa, rfl, hrowa⟩ := hra
  have HRA : Hid (a ≠ [] → ∃ bb o, pa = some ⟨bb, o, none⟩ ∧ bb < w.heap.size ∧ ∀ j (h : j < a.length), w.cell? ⟨bb, o + j, none⟩ = some (.int .i64 a[j])) := hrowa
  clear hrowa
  obtain ⟨n, HN⟩ : ∃ n, Hid (a.length = n) := ⟨_, rfl⟩
  rw [HN.out] at hla ⊢
  have hn63 : n ≤ 9223372036854775807 := hla
  obtain ⟨R, HR⟩ : ∃ R, Hid (a.contains x = R) := ⟨_, rfl⟩
  rw [HR.out]
  go_enter Tryd.func15, Tryd.ntmps15
  go_wp2_with fail
  go_loopw [5] (fun i wr => ∃ j : Nat, j ≤ n ∧ i = .int .i64 j ∧ Hid (R = (a.drop j).contains x) ∧ Hid (Below w.heap.size w wr)) (fun i _ => n - (intOf i).toNat)
  case atStart => exact ⟨0, Nat.zero_le _, rfl, by rw [List.drop_zero]; exact HR.out.symm, Below.refl _ _⟩
  case round =>
    obtain ⟨j, hj, rfl, HE, HB⟩ := hrel
    by_cases hlt : j < n
    · have hja : j < a.length := by rw [HN.out]; exact hlt
      obtain ⟨ba, oa, rfl, hbwa, hata⟩ := HRA.out (fun h => by simp [h] at hja)
      have c0 : wr.cell? ⟨ba, oa + j, none⟩ = some (.int .i64 a[j]) := (World.cell?_of_block (a := ⟨ba, oa + j, none⟩) (HB.out.block ba hbwa)).trans (hata j hja)
      clear hata
      have HHit : Hid (a[j] = x → R = true) := fun h => HE.out.trans (hasI_hit hja h)
      have HMiss : Hid (¬ a[j] = x → R = (a.drop (j + 1)).contains x) := fun h => HE.out.trans (hasI_miss hja h)
      obtain ⟨y, HY⟩ : ∃ y, Hid (a[j] = y) := ⟨a[j], show a[j] = a[j] from rfl⟩
      rw [HY.out] at c0 HHit HMiss
      have hlti : (j : Int) < (n : Int) := by omega
      by_cases hs : y = x
      · have HRt : Hid (R = true) := HHit.out hs
        go_wp2_with fail
        go_ret
        exact ⟨by rw [HRt.out]; rfl, by have hb := HB.out; go_grown⟩
      · have HRt : Hid (R = (a.drop (j + 1)).contains x) := HMiss.out hs
        go_wp2_with fail
        go_roundw
        case rel => exact ⟨j + 1, by omega, by go_num, HRt, HB⟩
        case measure => simp [intOf]; omega
    · obtain rfl : j = n := by omega
      have HR0 : Hid (R = false) := by
        show R = false
        rw [HE.out, List.drop_eq_nil_of_le (by rw [HN.out]; exact Nat.le_refl _)]
        rfl
      go_wp2_with fail
      go_ret
      exact ⟨by rw [HR0.out]; rfl, HB.out⟩
end Go.Proofs.YtippdgmgmenboagDoor

namespace Go.Proofs.YtippdgmgmenboagDoor
set_option linter.unusedVariables false
set_option linter.unusedSimpArgs false
open Go.RowKit

theorem inS_o (va : Value) (a : List Int) (x : Int) (c : Bool) (h : a.contains x = c) (w : World) (hra : IntsIs w va a) :
    Calls Tryd.prog 15 #[va, .int .i64 x] w fun e w' => e = .returned (.bool c) ∧ Below w.heap.size w w' := by
  subst h
  exact in_c va a x w hra
set_option maxHeartbeats 8000000 in
theorem rSome_c (v vk : Value) (l : List En) (K : List Int) (w : World) (hr : RowIs w v l) (hk : IntsIs w vk K) (hg : GoodL l) :
    Calls Tryd.prog 17 #[v, vk] w fun e w' => ∃ v', e = .returned v' ∧ RowIs w' v' (someE l K) ∧ Below w.heap.size w w' := by
  have HR : Hid (RowIs w v l) := hr
  have HK : Hid (IntsIs w vk K) := hk
  have HG : Hid (GoodL l) := hg
  have HS : Hid (someE l K = someE (l.take l.length) K) := by show _ = _; rw [List.take_length]
  rw [HS.out]
  clear hk hg HS
  obtain ⟨hlen, p, cap, rfl, hrow⟩ := hr
  have HRow : Hid (l ≠ [] → ∃ b o, p = some ⟨b, o, none⟩ ∧ b < w.heap.size ∧ ∀ j (h : j < l.length), EnAt w b (o + j * 5) l[j]) := hrow
  clear hrow
  obtain ⟨n, HN⟩ : ∃ n, Hid (l.length = n) := ⟨_, rfl⟩
  rw [HN.out] at hlen HR ⊢
  have hn63 : n ≤ 9223372036854775807 := hlen
  go_enter Tryd.func17, Tryd.ntmps17
  go_wp2_with fail
  go_loopw [5, 6] (fun s5 s6 wr => ∃ (j : Nat) (v5 : Value), s5 = v5 ∧ j ≤ n ∧ s6 = .int .i64 j ∧ Hid (wr.ownsRow w.heap.size 46 5 v5 (someE (l.take j) K).length (rowC (someE (l.take j) K))) ∧ Hid (Below w.heap.size w wr)) (fun _ i _ => n - (intOf i).toNat)
  case atStart => exact ⟨0, .slice none 0 0, rfl, Nat.zero_le _, rfl, World.ownsRow_nil _ _ _ _, Below.refl _ _⟩
  case round =>
    obtain ⟨j, v5, hs5, hj, rfl, HO, HB⟩ := hrel
    have hs5' := hs5.symm
    clear hs5
    subst hs5'
    by_cases hlt : j < n
    · have hjl : j < l.length := by rw [HN.out]; exact hlt
      obtain ⟨b, o, rfl, hbw, hat⟩ := HRow.out (fun h => by simp [h] at hjl)
      have HAt : Hid (EnAt wr b (o + j * 5) l[j]) := (hat j hjl).of_block (HB.out.block b hbw)
      clear hat
      have hlti : (j : Int) < (n : Int) := by omega
      have HY : Hid (K.contains l[j].k = true → someE (l.take (j + 1)) K = someE (l.take j) K ++ [l[j]]) := fun ha => someE_yes hjl ha
      have HNo : Hid (K.contains l[j].k = false → someE (l.take (j + 1)) K = someE (l.take j) K) := fun ha => someE_no hjl ha
      have HL8 : Hid ((someE (l.take j) K).length ≤ 100) := Nat.le_trans (someE_len _ _) (Nat.le_trans (List.length_take_le _ _) (Nat.le_trans hj (Nat.le_trans (by rw [← HN.out]; exact HG.out.len) (by omega))))
      obtain ⟨x, HX⟩ : ∃ x, Hid (l[j] = x) := ⟨l[j], show l[j] = l[j] from rfl⟩
      rw [HX.out] at HAt HY HNo
      obtain ⟨x0, x1, x2, x3, x4⟩ := x
      obtain ⟨c0, c1, c2, c3, c4⟩ := HAt.out
      dsimp only at c0 c1 c2 c3 c4
      obtain ⟨xs, HXs⟩ : ∃ xs, Hid (someE (l.take j) K = xs) := ⟨_, rfl⟩
      rw [HXs.out] at HO HY HNo HL8
      clear HXs HX
      have hbr : b < wr.heap.size := by have := HB.out.size; omega
      cases hc : K.contains x0
      · have HC0 : Hid (K.contains x0 = false) := hc
        have HE : Hid (someE (l.take (j + 1)) K = xs) := HNo.out hc
        clear hc HY HNo
        go_wp2_with fail
        refine (inS_o vk K x0 false HC0.out _ (HK.out.below HB.out)).mono ?_
        rintro e w4 ⟨rfl, hb⟩
        have B4 : Hid (Below w.heap.size w w4) := HB.out.trans (hb.mono HB.out.size)
        have O4 : Hid (w4.ownsRow w.heap.size 46 5 v5 xs.length (rowC xs)) := ownsRow_belowF HO.out hb
        clear hb c0 c1 c2 c3 c4
        go_wp2_with fail
        go_roundw
        case rel =>
          refine ⟨j + 1, v5, rfl, by omega, by go_num, ?_, B4⟩
          show World.ownsRow _ _ _ _ _ _ _
          rw [HE.out]
          exact O4.out
        case measure => simp [intOf]; omega
      · have HC0 : Hid (K.contains x0 = true) := hc
        have HE : Hid (someE (l.take (j + 1)) K = xs ++ [En.mk x0 x1 x2 x3 x4]) := HY.out hc
        clear hc HY HNo
        go_wp2_with fail
        refine (inS_o vk K x0 true HC0.out _ (HK.out.below HB.out)).mono ?_
        rintro e w4 ⟨rfl, hb⟩
        have B4 : Hid (Below w.heap.size w w4) := HB.out.trans (hb.mono HB.out.size)
        have O4 : Hid (w4.ownsRow w.heap.size 46 5 v5 xs.length (rowC xs)) := ownsRow_belowF HO.out hb
        have HAt4 : Hid (EnAt w4 b (o + j * 5) ⟨x0, x1, x2, x3, x4⟩) := HAt.out.of_block (hb.block b hbr)
        clear hb c0 c1 c2 c3 c4
        have hws4 := B4.out.size
        have hbr4 : b < w4.heap.size := by omega
        obtain ⟨c0, c1, c2, c3, c4⟩ := HAt4.out
        dsimp only at c0 c1 c2 c3 c4
        have HBa : Hid (Below w.heap.size w (w4.alloc (.cells #[.int .i64 x0, .int .i64 x1, .int .i64 x2, .bool x3, .string x4] 46))) := B4.out.alloc hws4 _
        have HOa : Hid ((w4.alloc (.cells #[.int .i64 x0, .int .i64 x1, .int .i64 x2, .bool x3, .string x4] 46)).ownsRow w.heap.size 46 5 v5 xs.length (rowC xs)) := O4.out.alloc _
        have HVa : Hid ((w4.alloc (.cells #[.int .i64 x0, .int .i64 x1, .int .i64 x2, .bool x3, .string x4] 46)).heap[w4.heap.size]? = some (.cells (En.cells (En.mk x0 x1 x2 x3 x4)).toArray 46 (0, 0))) := alloc_at _ _ _ rfl
        have HSa : Hid (w.heap.size ≤ (w4.alloc (.cells #[.int .i64 x0, .int .i64 x1, .int .i64 x2, .bool x3, .string x4] 46)).heap.size) := show _ ≤ _ from (by simp; omega)
        go_wp2_with (at_builtin; refine wp_app _ rfl _ _ rfl w.heap.size _ xs (En.mk x0 x1 x2 x3 x4) rfl HOa.out _ rfl HVa.out HL8.out HSa.out ?_)
        intro va wa hown hgrow
        have HOp : Hid (wa.ownsRow w.heap.size 46 5 va (xs ++ [En.mk x0 x1 x2 x3 x4]).length (rowC (xs ++ [En.mk x0 x1 x2 x3 x4]))) := hown
        have HBp : Hid (Below w.heap.size w wa) := below_grownF (HBa.out) (Nat.le_refl _) hgrow.out (fun c hc => ownsRow_fromF O4.out c hc)
        clear hown hgrow HOa HVa HL8 HSa HBa
        clear c0 c1 c2 c3 c4
        go_wp2_with fail
        go_roundw
        case rel =>
          refine ⟨j + 1, va, rfl, by omega, by go_num, ?_, HBp⟩
          show World.ownsRow _ _ _ _ _ _ _
          rw [HE.out]
          exact HOp.out
        case measure => simp [intOf]; omega
    · obtain rfl : j = n := by omega
      go_wp2_with fail
      go_ret
      exact ⟨v5, rfl, RowIs.own HO.out, HB.out⟩

/-- two rows and a fault come back -/
def SwapIs (w : World) (X Y : List En) (n : Int) (e : Ending) (w' : World) : Prop := ∃ v1 v2, e = .returned (.tuple #[v1, v2, .int .i64 n]) ∧ RowIs w' v1 X ∧ RowIs w' v2 Y ∧ Below w.heap.size w w'
set_option maxHeartbeats 2000000 in
theorem rSwap_c (va vb : Value) (a b : List En) (w : World) (hra : RowIs w va a) (hrb : RowIs w vb b) (h : badL a = 0) (h' : badL b = 0) :
    Calls Tryd.prog 11 #[va, vb] w (SwapIs w (pairW a b).1 (pairW a b).2.1 (pairW a b).2.2) := by
  have HC := rPart_c a b va vb h h' w hra hrb 3 1 rfl (by omega) (by omega) w (Below.refl _ _)
  have HA : Hid (RowIs w va a) := hra
  have HB : Hid (RowIs w vb b) := hrb
  have HGa : Hid (GoodL a) := badL_good h
  have HGb : Hid (GoodL b) := badL_good h'
  have H1 : Hid (∀ x n, giveE a b (lackK a b) = (x, n) → n ≠ 0 → pairW a b = ([], [], n)) := fun x n hx hn => pairW_one (bad2_both h h') hx hn
  have H2 : Hid (∀ x y n, giveE a b (lackK a b) = (x, 0) → giveE b a (lackK a b) = (y, n) → n ≠ 0 → pairW a b = ([], [], n)) := fun x y n hx hy hn => pairW_two (bad2_both h h') hx hy hn
  have H3 : Hid (∀ x y, giveE a b (lackK a b) = (x, 0) → giveE b a (lackK a b) = (y, 0) → pairW a b = (x, y, 0)) := fun x y hx hy => pairW_ok (bad2_both h h') hx hy
  have e0 : partK (leafN a) (leafN b) 1 = lackK a b := rfl
  rw [e0] at HC
  clear e0
  generalize lackK a b = K at HC H1 H2 H3
  generalize partN (leafN a) (leafN b) 1 = N at HC
  have HCh : Hid _ := HC
  obtain ⟨⟨x, n⟩, HX⟩ : ∃ R, Hid (giveE a b K = R) := ⟨_, rfl⟩
  obtain ⟨⟨y, m⟩, HY⟩ : ∃ R, Hid (giveE b a K = R) := ⟨_, rfl⟩
  have HX' : Hid (allE a (someE b K) = (x, n)) := HX.out
  have HY' : Hid (allE b (someE a K) = (y, m)) := HY.out
  have HSa : Hid (GoodL (someE a K)) := someE_good HGa.out
  have HSb : Hid (GoodL (someE b K)) := someE_good HGb.out
  clear HC hra hrb h h'
  by_cases hn : n = 0
  · subst hn
    by_cases hm : m = 0
    · subst hm
      rw [H3.out x y HX.out HY.out]
      clear H1 H2 H3 HX HY
      go_enter Tryd.func11, Tryd.ntmps11
      go_wp2_with fail
      refine Calls.mono HCh.out ?_
      rintro e w1 ⟨vk, rfl, ho, hb⟩
      have B1 : Hid (Below w.heap.size w w1) := hb
      have K1 : Hid (IntsIs w1 vk K) := ho.ints
      clear hb ho HCh
      go_wp2_with fail
      refine (rSome_c vb vk b K _ (HB.out.below B1.out) K1.out HGb.out).mono ?_
      rintro e w2 ⟨v2, rfl, hr, hb⟩
      have B2 : Hid (Below w.heap.size w w2) := B1.out.trans (hb.mono B1.out.size)
      have K2 : Hid (IntsIs w2 vk K) := K1.out.below hb
      have R2 : Hid (RowIs w2 v2 (someE b K)) := hr
      clear hb hr B1 K1
      go_wp2_with fail
      refine (rAll_c va v2 a (someE b K) x 0 _ (HA.out.below B2.out) R2.out HGa.out HSb.out HX'.out).mono ?_
      rintro e w3 ⟨v3, rfl, hr, hb⟩
      have B3 : Hid (Below w.heap.size w w3) := B2.out.trans (hb.mono B2.out.size)
      have K3 : Hid (IntsIs w3 vk K) := K2.out.below hb
      have X3 : Hid (RowIs w3 v3 x) := hr
      clear hb hr B2 K2 R2
      go_wp2_with fail
      refine (rSome_c va vk a K _ (HA.out.below B3.out) K3.out HGa.out).mono ?_
      rintro e w4 ⟨v4, rfl, hr, hb⟩
      have B4 : Hid (Below w.heap.size w w4) := B3.out.trans (hb.mono B3.out.size)
      have X4 : Hid (RowIs w4 v3 x) := X3.out.below hb
      have R4 : Hid (RowIs w4 v4 (someE a K)) := hr
      clear hb hr B3 K3 X3
      go_wp2_with fail
      refine (rAll_c vb v4 b (someE a K) y 0 _ (HB.out.below B4.out) R4.out HGb.out HSa.out HY'.out).mono ?_
      rintro e w5 ⟨v5, rfl, hr, hb⟩
      have B5 : Hid (Below w.heap.size w w5) := B4.out.trans (hb.mono B4.out.size)
      have X5 : Hid (RowIs w5 v3 x) := X4.out.below hb
      have Y5 : Hid (RowIs w5 v5 y) := hr
      clear hb hr B4 X4 R4
      go_wp2_with fail
      go_ret3
      exact ⟨v3, v5, rfl, X5.out, Y5.out, B5.out⟩
    · rw [H2.out x y m HX.out HY.out hm]
      have hmb : (m != 0) = true := by simp [hm]
      clear H1 H2 H3 HX HY hm
      go_enter Tryd.func11, Tryd.ntmps11
      go_wp2_with fail
      refine Calls.mono HCh.out ?_
      rintro e w1 ⟨vk, rfl, ho, hb⟩
      have B1 : Hid (Below w.heap.size w w1) := hb
      have K1 : Hid (IntsIs w1 vk K) := ho.ints
      clear hb ho HCh
      go_wp2_with fail
      refine (rSome_c vb vk b K _ (HB.out.below B1.out) K1.out HGb.out).mono ?_
      rintro e w2 ⟨v2, rfl, hr, hb⟩
      have B2 : Hid (Below w.heap.size w w2) := B1.out.trans (hb.mono B1.out.size)
      have K2 : Hid (IntsIs w2 vk K) := K1.out.below hb
      have R2 : Hid (RowIs w2 v2 (someE b K)) := hr
      clear hb hr B1 K1
      go_wp2_with fail
      refine (rAll_c va v2 a (someE b K) x 0 _ (HA.out.below B2.out) R2.out HGa.out HSb.out HX'.out).mono ?_
      rintro e w3 ⟨v3, rfl, hr, hb⟩
      have B3 : Hid (Below w.heap.size w w3) := B2.out.trans (hb.mono B2.out.size)
      have K3 : Hid (IntsIs w3 vk K) := K2.out.below hb
      clear hb hr B2 K2 R2
      go_wp2_with fail
      refine (rSome_c va vk a K _ (HA.out.below B3.out) K3.out HGa.out).mono ?_
      rintro e w4 ⟨v4, rfl, hr, hb⟩
      have B4 : Hid (Below w.heap.size w w4) := B3.out.trans (hb.mono B3.out.size)
      have R4 : Hid (RowIs w4 v4 (someE a K)) := hr
      clear hb hr B3 K3
      go_wp2_with fail
      refine (rAll_c vb v4 b (someE a K) y m _ (HB.out.below B4.out) R4.out HGb.out HSa.out HY'.out).mono ?_
      rintro e w5 ⟨v5, rfl, hr, hb⟩
      have B5 : Hid (Below w.heap.size w w5) := B4.out.trans (hb.mono B4.out.size)
      clear hb hr B4 R4
      go_wp2_with fail
      go_ret3
      exact ⟨.slice none 0 0, .slice none 0 0, rfl, RowIs.nil _, RowIs.nil _, B5.out⟩
  · rw [H1.out x n HX.out hn]
    have hnb : (n != 0) = true := by simp [hn]
    clear H1 H2 H3 HX HY hn
    go_enter Tryd.func11, Tryd.ntmps11
    go_wp2_with fail
    refine Calls.mono HCh.out ?_
    rintro e w1 ⟨vk, rfl, ho, hb⟩
    have B1 : Hid (Below w.heap.size w w1) := hb
    have K1 : Hid (IntsIs w1 vk K) := ho.ints
    clear hb ho HCh
    go_wp2_with fail
    refine (rSome_c vb vk b K _ (HB.out.below B1.out) K1.out HGb.out).mono ?_
    rintro e w2 ⟨v2, rfl, hr, hb⟩
    have B2 : Hid (Below w.heap.size w w2) := B1.out.trans (hb.mono B1.out.size)
    have R2 : Hid (RowIs w2 v2 (someE b K)) := hr
    clear hb hr B1 K1
    go_wp2_with fail
    refine (rAll_c va v2 a (someE b K) x n _ (HA.out.below B2.out) R2.out HGa.out HSb.out HX'.out).mono ?_
    rintro e w3 ⟨v3, rfl, hr, hb⟩
    have B3 : Hid (Below w.heap.size w w3) := B2.out.trans (hb.mono B2.out.size)
    clear hb hr B2 R2
    go_wp2_with fail
    go_ret3
    exact ⟨.slice none 0 0, .slice none 0 0, rfl, RowIs.nil _, RowIs.nil _, B3.out⟩
theorem rSwap_o {a b X Y : List En} {n : Int} (h : pairW a b = (X, Y, n)) (ha : badL a = 0) (hb : badL b = 0) (va vb : Value) (w : World) (hra : RowIs w va a) (hrb : RowIs w vb b) :
    Calls Tryd.prog 11 #[va, vb] w fun e w' => ∃ v1 v2, e = .returned (.tuple #[v1, v2, .int .i64 n]) ∧ RowIs w' v1 X ∧ RowIs w' v2 Y ∧ Below w.heap.size w w' := by
  have c := rSwap_c va vb a b w hra hrb ha hb
  rw [h] at c
  exact c
end Go.Proofs.YtippdgmgmenboagDoor
