/-
  Package cache by its contracts: Get.
  mereref1.Entry and mereref1.Join by their contracts: the document's answers are those of package entry.
  The document's caches (mereref1.Cache, Get) by their contracts.
  The document's Get of a cache (mereref1.Get) by its contract.
-/
import Derived.Test.YtpcnfoaoajfhlaaGreatDoorMqaf
import Derived.Test.YtpcnfoaoajfhlaaGreatDoorMqae
import Derived.BigRegion
import Derived.BigQuiet
namespace Go.Proofs.YtpcnfoaoajfhlaaGreatDoor
set_option linter.unusedVariables false
set_option linter.unusedSimpArgs false
set_option linter.unusedVariables false
set_option linter.unusedSimpArgs false
open Go.RowKit

def zeroEn : En := ⟨0, 0, 0, false, ⟨#[]⟩⟩
def isKeyB (k : Int) : Bool := decide (0 ≤ k) && decide (k < 8)
/-- Get, on lists -/
def cacheGet (l : List En) (key : Int) : En × Int :=
  if badL l ≠ 0 then (zeroEn, badL l) else if isKeyB key = false then (zeroEn, 1) else match getE l key with | none => (zeroEn, 5) | some x => (x, 0)

theorem isKey_c (k : Int) (w : World) : Calls Tryz.prog 120 #[.int .i64 k] w fun e w' => e = .returned (.bool (isKeyB k)) ∧ w' = w := by
  by_cases h : 0 ≤ k
  · have hd : decide (0 ≤ k) = true := by simpa using h
    go_enter Tryz.func120, Tryz.ntmps120
    go_wp2
    go_ret
    exact ⟨by simp [isKeyB, h], rfl⟩
  · have hd : decide (0 ≤ k) = false := by simpa using h
    go_enter Tryz.func120, Tryz.ntmps120
    go_wp2
    go_ret
    refine ⟨?_, rfl⟩
    have h' : ¬ 0 ≤ k := by omega
    simp [isKeyB, h']
theorem cacheCheck_o {v : Value} {l : List En} {w : World} {n : Int} (hr : RowIs w v l) (h : badL l = n) :
    Calls Tryz.prog 70 #[v] w fun e w' => e = .returned (eV n) ∧ Below w.heap.size w w' := by
  subst h
  exact cacheCheck_c v l w hr
theorem cacheCheck_ok {v : Value} {l : List En} {w : World} (hr : RowIs w v l) (h : badL l = 0) :
    Calls Tryz.prog 70 #[v] w fun e w' => e = .returned .nilIface ∧ Below w.heap.size w w' := cacheCheck_o hr h
theorem cacheCheck_err {v : Value} {l : List En} {w : World} {n : Int} (hr : RowIs w v l) (h : badL l = n) (hn : n ≠ 0) :
    Calls Tryz.prog 70 #[v] w fun e w' => e = .returned (.iface 85 (.int .i64 n)) ∧ Below w.heap.size w w' := by
  have c := cacheCheck_o hr h
  rw [eV, if_neg hn] at c
  exact c

set_option maxHeartbeats 4000000 in
theorem get_c (v : Value) (l : List En) (key : Int) (w : World) (hr : RowIs w v l) :
    Calls Tryz.prog 73 #[v, .int .i64 key] w fun e w' => e = .returned (.tuple #[(cacheGet l key).1.val, eV (cacheGet l key).2]) ∧ Below w.heap.size w w' := by
  have HR : Hid (RowIs w v l) := hr
  have hlt : w.heap.size < (w.alloc (.cells #[.int .i64 0, .int .i64 0, .int .i64 0, .bool false, .string ⟨#[]⟩] 46)).heap.size := by simp
  have HB0 : Hid (Below w.heap.size w (w.alloc (.cells #[.int .i64 0, .int .i64 0, .int .i64 0, .bool false, .string ⟨#[]⟩] 46))) := by show Below _ _ _; go_grown
  clear hr hlt
  by_cases hn : badL l = 0
  · have HN : Hid (badL l = 0) := hn
    have HG : Hid (GoodL l) := badL_good hn
    clear hn
    cases hk : isKeyB key
    · have HC : Hid (cacheGet l key = (zeroEn, 1)) := by
        show cacheGet l key = _
        rw [cacheGet, if_neg (by simpa using HN.out), if_pos hk]
      have HKb : Hid (isKeyB key = false) := hk
      clear hk
      rw [HC.out]
      go_enter Tryz.func73, Tryz.ntmps73
      go_wp2_with fail
      refine (cacheCheck_ok (HR.out.below HB0.out) HN.out).mono ?_
      rintro e w1 ⟨rfl, hb⟩
      have B1 : Hid (Below w.heap.size w w1) := HB0.out.trans (hb.mono (by simp))
      obtain ⟨e0, e1, e2, e3, e4, ef⟩ := (box_new w 0 0 0 false ⟨#[]⟩ w.heap.size rfl).below hb (by simp)
      clear hb
      go_wp2_with (go_at_call 120; refine (isKey_c _ _).mono ?_; rintro e w' ⟨rfl, rfl⟩; rw [HKb.out])
      refine bodyPost_ret (v := .tuple #[.agg #[.int .i64 0, .int .i64 0, .int .i64 0, .bool false, .string ⟨#[]⟩], .iface 85 (.int .i64 1)]) (by simp [results, Tryz.results73, go_sem, e0, e1, e2, e3, e4]) rfl ?_
      refine ⟨rfl, ?_⟩
      have hb := B1.out
      go_grown
    · have HKb : Hid (isKeyB key = true) := hk
      clear hk
      cases hg : getE l key with
      | none =>
        have HC : Hid (cacheGet l key = (zeroEn, 5)) := by
          show cacheGet l key = _
          rw [cacheGet, if_neg (by simpa using HN.out), if_neg (by rw [HKb.out]; simp), hg]
        have HGt : Hid (getE l key = none) := hg
        clear hg
        rw [HC.out]
        go_enter Tryz.func73, Tryz.ntmps73
        go_wp2_with fail
        refine (cacheCheck_ok (HR.out.below HB0.out) HN.out).mono ?_
        rintro e w1 ⟨rfl, hb⟩
        have B1 : Hid (Below w.heap.size w w1) := HB0.out.trans (hb.mono (by simp))
        have E1 : Hid (BoxAt w1 w.heap.size 0 0 0 false ⟨#[]⟩) := (box_new w 0 0 0 false ⟨#[]⟩ w.heap.size rfl).below hb (by simp)
        clear hb
        go_wp2_with (go_at_call 120; refine (isKey_c _ _).mono ?_; rintro e w' ⟨rfl, rfl⟩; rw [HKb.out])
        refine (place_c v l key _ (HR.out.below B1.out) HG.out).mono ?_
        rintro e w2 ⟨rfl, hb⟩
        rw [HGt.out]
        have B2 : Hid (Below w.heap.size w w2) := B1.out.trans (hb.mono B1.out.size)
        obtain ⟨e0, e1, e2, e3, e4, ef⟩ := E1.out.below hb E1.out.lt
        clear hb
        go_wp2_with fail
        refine bodyPost_ret (v := .tuple #[.agg #[.int .i64 0, .int .i64 0, .int .i64 0, .bool false, .string ⟨#[]⟩], .iface 85 (.int .i64 5)]) (by simp [results, Tryz.results73, go_sem, e0, e1, e2, e3, e4]) rfl ?_
        refine ⟨rfl, ?_⟩
        have hb := B2.out
        go_grown
      | some x =>
        have HC : Hid (cacheGet l key = (x, 0)) := by
          show cacheGet l key = _
          rw [cacheGet, if_neg (by simpa using HN.out), if_neg (by rw [HKb.out]; simp), hg]
        have HGt : Hid (getE l key = some x) := hg
        obtain ⟨hm, hx, hxk⟩ := getE_some HG.out.rise hg
        clear hg hxk
        obtain ⟨hlen, p, cap, rfl, hrow⟩ := HR.out
        obtain ⟨b, o, rfl, hbw, hat⟩ := hrow (fun h => by simp [h] at hm)
        have HAt : Hid (EnAt w b (o + placeE l key * 5) x) := by
          have := hat _ hm
          rw [hx] at this
          exact this
        clear hrow hat hx
        rw [HC.out]
        obtain ⟨m, HM⟩ : ∃ m, Hid (placeE l key = m) := ⟨_, rfl⟩
        rw [HM.out] at hm HAt
        obtain ⟨N, HNl⟩ : ∃ N, Hid (l.length = N) := ⟨_, rfl⟩
        rw [HNl.out] at hm HR hlen ⊢
        have hm1 : (m : Int) < (N : Int) := by omega
        obtain ⟨x0, x1, x2, x3, x4⟩ := x
        go_enter Tryz.func73, Tryz.ntmps73
        go_wp2_with fail
        refine (cacheCheck_ok (HR.out.below HB0.out) HN.out).mono ?_
        rintro e w1 ⟨rfl, hb⟩
        have B1 : Hid (Below w.heap.size w w1) := HB0.out.trans (hb.mono (by simp))
        have E1 : Hid (BoxAt w1 w.heap.size 0 0 0 false ⟨#[]⟩) := (box_new w 0 0 0 false ⟨#[]⟩ w.heap.size rfl).below hb (by simp)
        clear hb
        go_wp2_with (go_at_call 120; refine (isKey_c _ _).mono ?_; rintro e w' ⟨rfl, rfl⟩; rw [HKb.out])
        refine (place_c _ l key _ (HR.out.below B1.out) HG.out).mono ?_
        rintro e w2 ⟨rfl, hb⟩
        rw [HGt.out, HM.out]
        have B2 : Hid (Below w.heap.size w w2) := B1.out.trans (hb.mono B1.out.size)
        obtain ⟨e0, e1, e2, e3, e4, ef⟩ := E1.out.below hb E1.out.lt
        obtain ⟨c0, c1, c2, c3, c4⟩ := HAt.out.of_block (B2.out.block b hbw)
        dsimp only at c0 c1 c2 c3 c4
        have p1 : ¬ b = w.heap.size := by omega
        have p2 : ¬ w.heap.size = b := by omega
        clear hb
        go_wp2_with fail
        refine bodyPost_ret (v := .tuple #[.agg #[.int .i64 x0, .int .i64 x1, .int .i64 x2, .bool x3, .string x4], .nilIface]) (by simp [results, Tryz.results73, go_sem, e0, e1, e2, e3, e4]) rfl ?_
        refine ⟨rfl, ?_⟩
        have hb := B2.out
        go_grown
  · obtain ⟨n, HN⟩ : ∃ n, Hid (badL l = n) := ⟨_, rfl⟩
    have HC : Hid (cacheGet l key = (zeroEn, n)) := by
      show cacheGet l key = _
      rw [cacheGet, if_pos hn, HN.out]
    rw [HN.out] at hn
    rw [HC.out]
    go_enter Tryz.func73, Tryz.ntmps73
    go_wp2_with fail
    refine (cacheCheck_err (HR.out.below HB0.out) HN.out hn).mono ?_
    rintro e w1 ⟨rfl, hb⟩
    have B1 : Hid (Below w.heap.size w w1) := HB0.out.trans (hb.mono (by simp))
    obtain ⟨e0, e1, e2, e3, e4, ef⟩ := (box_new w 0 0 0 false ⟨#[]⟩ w.heap.size rfl).below hb (by simp)
    clear hb
    go_wp2_with fail
    refine bodyPost_ret (v := .tuple #[.agg #[.int .i64 0, .int .i64 0, .int .i64 0, .bool false, .string ⟨#[]⟩], .iface 85 (.int .i64 n)]) (by simp [results, Tryz.results73, go_sem, e0, e1, e2, e3, e4]) rfl ?_
    refine ⟨by simp [eV, hn]; rfl, ?_⟩
    have hb := B1.out
    go_grown
end Go.Proofs.YtpcnfoaoajfhlaaGreatDoor

namespace Go.Proofs.YtpcnfoaoajfhlaaGreatDoor
set_option linter.unusedVariables false
set_option linter.unusedSimpArgs false
open Go.RowKit
theorem bad1 {k v a : Int} {g : Bool} {t : ByteArray} (h : ¬ (0 ≤ k ∧ k < 8 ∧ 0 ≤ v ∧ v ≤ 1000 ∧ v ≤ a ∧ a ≤ 1000)) : bad k v a g t = 1 := by
  refine bad_ver ?_
  cases hx : (inR k 0 7 && inR v 0 1000 && inR a v 1000)
  · rfl
  · simp [inR] at hx
    omega
theorem in_all {k v a : Int} (h : 0 ≤ k ∧ k < 8 ∧ 0 ≤ v ∧ v ≤ 1000 ∧ v ≤ a ∧ a ≤ 1000) : (inR k 0 7 && inR v 0 1000 && inR a v 1000) = true := by
  simp [inR]
  omega
theorem bad4 {k v a : Int} {g : Bool} {t : ByteArray} (h : 0 ≤ k ∧ k < 8 ∧ 0 ≤ v ∧ v ≤ 1000 ∧ v ≤ a ∧ a ≤ 1000) (h2 : 12 < (t.size : Int)) : bad k v a g t = 4 := bad_full (in_all h) h2
theorem bad3 {k v a : Int} {t : ByteArray} (h : 0 ≤ k ∧ k < 8 ∧ 0 ≤ v ∧ v ≤ 1000 ∧ v ≤ a ∧ a ≤ 1000) (h2 : ¬ 12 < (t.size : Int)) (h3 : (!t.toList.isEmpty) = true) : bad k v a true t = 3 := bad_shape (in_all h) h2 (by rw [h3]; rfl)
theorem bad0 {k v a : Int} {t : ByteArray} (h : 0 ≤ k ∧ k < 8 ∧ 0 ≤ v ∧ v ≤ 1000 ∧ v ≤ a ∧ a ≤ 1000) (h2 : ¬ 12 < (t.size : Int)) (h3 : (!t.toList.isEmpty) = false) : bad k v a true t = 0 := bad_none (in_all h) h2 (by rw [h3]; rfl)
theorem bad0f {k v a : Int} {t : ByteArray} (h : 0 ≤ k ∧ k < 8 ∧ 0 ≤ v ∧ v ≤ 1000 ∧ v ≤ a ∧ a ≤ 1000) (h2 : ¬ 12 < (t.size : Int)) : bad k v a false t = 0 := bad_none (in_all h) h2 rfl
/-- Join of two right entries of one key -/
theorem joinE_go {x y : En} (hb : bad2 (bad x.k x.v x.a x.g x.t) (bad y.k y.v y.a y.g y.t) = 0) (hk : x.k = y.k) : joinE x y = if newerB x.v x.a y.v y.a = true then (if clashB y.v y.a y.g y.t x.v x.g x.t = true then (⟨0, 0, 0, false, ⟨#[]⟩⟩, 7) else (x, 0)) else if clashB x.v x.a x.g x.t y.v y.g y.t = true then (⟨0, 0, 0, false, ⟨#[]⟩⟩, 7) else (y, 0) := by
  unfold joinE
  rw [if_neg (by simpa using hb), if_neg (by simpa using hk)]
theorem go_eq7 {x y : En} (hb : bad2 (bad x.k x.v x.a x.g x.t) (bad y.k y.v y.a y.g y.t) = 0) (hk : x.k = y.k) (hv : x.v = y.v) (h : ((!(x.g == y.g)) || !(x.t.toList == y.t.toList)) = true) : joinE x y = (⟨0, 0, 0, false, ⟨#[]⟩⟩, 7) := by
  have h' : ((!(y.g == x.g)) || !(y.t.toList == x.t.toList)) = true := by
    rw [Bool.beq_comm (a := y.g), BEq.comm (a := y.t.toList)]
    exact h
  rw [joinE_go hb hk]
  unfold clashB
  rw [if_pos hv, if_pos hv.symm, h, h']
  simp
theorem go_eqa {x y : En} (hb : bad2 (bad x.k x.v x.a x.g x.t) (bad y.k y.v y.a y.g y.t) = 0) (hk : x.k = y.k) (hv : x.v = y.v) (h : ((!(x.g == y.g)) || !(x.t.toList == y.t.toList)) = false) (ha : y.a < x.a) : joinE x y = (x, 0) := by
  have h' : ((!(y.g == x.g)) || !(y.t.toList == x.t.toList)) = false := by
    rw [Bool.beq_comm (a := y.g), BEq.comm (a := y.t.toList)]
    exact h
  rw [joinE_go hb hk]
  unfold clashB newerB
  rw [if_pos hv, if_pos hv, if_pos hv.symm, h, h']
  simp [ha]
theorem go_eqb {x y : En} (hb : bad2 (bad x.k x.v x.a x.g x.t) (bad y.k y.v y.a y.g y.t) = 0) (hk : x.k = y.k) (hv : x.v = y.v) (h : ((!(x.g == y.g)) || !(x.t.toList == y.t.toList)) = false) (ha : ¬ y.a < x.a) : joinE x y = (y, 0) := by
  rw [joinE_go hb hk]
  unfold clashB newerB
  rw [if_pos hv, if_pos hv, if_pos hv.symm, h]
  simp [ha]
theorem go_lt7 {x y : En} (hb : bad2 (bad x.k x.v x.a x.g x.t) (bad y.k y.v y.a y.g y.t) = 0) (hk : x.k = y.k) (hv : x.v < y.v) (ha : y.v ≤ x.a) : joinE x y = (⟨0, 0, 0, false, ⟨#[]⟩⟩, 7) := by
  rw [joinE_go hb hk]
  unfold clashB newerB
  have n1 : ¬ x.v = y.v := by omega
  have n2 : ¬ y.v = x.v := by omega
  have n3 : ¬ y.v < x.v := by omega
  simp only [n1, n2, n3, ha, if_false, decide_false, decide_true, Bool.false_eq_true, if_true]
theorem go_ltb {x y : En} (hb : bad2 (bad x.k x.v x.a x.g x.t) (bad y.k y.v y.a y.g y.t) = 0) (hk : x.k = y.k) (hv : x.v < y.v) (ha : ¬ y.v ≤ x.a) : joinE x y = (y, 0) := by
  rw [joinE_go hb hk]
  unfold clashB newerB
  have n1 : ¬ x.v = y.v := by omega
  have n2 : ¬ y.v = x.v := by omega
  have n3 : ¬ y.v < x.v := by omega
  simp only [n1, n2, n3, ha, if_false, decide_false, decide_true, Bool.false_eq_true, if_true]
theorem go_swap {x y : En} (hb : bad2 (bad x.k x.v x.a x.g x.t) (bad y.k y.v y.a y.g y.t) = 0) (hk : x.k = y.k) (hv : y.v < x.v) : joinE x y = joinE y x := by
  have hb' : bad2 (bad y.k y.v y.a y.g y.t) (bad x.k x.v x.a x.g x.t) = 0 := by
    unfold bad2 at *
    split at hb <;> simp_all
  by_cases ha : x.v ≤ y.a
  · rw [go_lt7 hb' hk.symm hv ha, joinE_go hb hk]
    unfold clashB newerB
    have n1 : ¬ x.v = y.v := by omega
    have n2 : ¬ y.v = x.v := by omega
    simp only [n1, n2, hv, ha, if_false, decide_false, decide_true, Bool.false_eq_true, if_true]
  · rw [go_ltb hb' hk.symm hv ha, joinE_go hb hk]
    unfold clashB newerB
    have n1 : ¬ x.v = y.v := by omega
    have n2 : ¬ y.v = x.v := by omega
    simp only [n1, n2, hv, ha, if_false, decide_false, decide_true, Bool.false_eq_true, if_true]
end Go.Proofs.YtpcnfoaoajfhlaaGreatDoor

namespace Go.Proofs.YtpcnfoaoajfhlaaGreatDoor
set_option linter.unusedVariables false
set_option linter.unusedSimpArgs false
open Go.RowKit

end Go.Proofs.YtpcnfoaoajfhlaaGreatDoor

namespace Go.Proofs.YtpcnfoaoajfhlaaGreatDoor
set_option linter.unusedVariables false
set_option linter.unusedSimpArgs false
open Go.RowKit

theorem getE_hit {l : List En} {key : Int} {j : Nat} (h : j < l.length) (hk : l[j].k = key) : getE (l.drop j) key = some l[j] := by
  rw [List.drop_eq_getElem_cons h]
  unfold getE
  rw [List.find?_cons_of_pos (by simpa using hk)]
theorem getE_miss {l : List En} {key : Int} {j : Nat} (h : j < l.length) (hk : ¬ l[j].k = key) : getE (l.drop j) key = getE (l.drop (j + 1)) key := by
  rw [List.drop_eq_getElem_cons h]
  unfold getE
  rw [List.find?_cons_of_neg (by simpa using hk)]
/-- what the document's Get answers -/
def hadE (o : Option En) : En := match o with | some x => x | none => ⟨0, 0, 0, false, ⟨#[]⟩⟩
set_option maxHeartbeats 4000000 in
theorem rGet_c (v : Value) (l : List En) (key : Int) (w : World) (hr : RowIs w v l) :
    Calls Tryz.prog 48 #[v, .int .i64 key] w fun e w' => e = .returned (.tuple #[(hadE (getE l key)).val, .bool (getE l key).isSome]) ∧ Below w.heap.size w w' := by
  obtain ⟨hlen, p, cap, rfl, hrow⟩ := hr
  have HRow : Hid (l ≠ [] → ∃ b o, p = some ⟨b, o, none⟩ ∧ b < w.heap.size ∧ ∀ j (h : j < l.length), EnAt w b (o + j * 5) l[j]) := hrow
  clear hrow
  obtain ⟨n, HN⟩ : ∃ n, Hid (l.length = n) := ⟨_, rfl⟩
  rw [HN.out] at hlen ⊢
  have hn63 : n ≤ 9223372036854775807 := hlen
  obtain ⟨R, HR⟩ : ∃ R, Hid (getE l key = R) := ⟨_, rfl⟩
  rw [HR.out]
  go_enter Tryz.func48, Tryz.ntmps48
  go_wp2_with fail
  go_loopw [6] (fun i wr => ∃ j : Nat, j ≤ n ∧ i = .int .i64 j ∧ Hid (R = getE (l.drop j) key) ∧ wr = w.alloc (.cells #[.int .i64 0, .int .i64 0, .int .i64 0, .bool false, .string ⟨#[]⟩] 46)) (fun i _ => n - (intOf i).toNat)
  case atStart => exact ⟨0, Nat.zero_le _, rfl, by rw [List.drop_zero]; exact HR.out.symm, rfl⟩
  case round =>
    obtain ⟨j, hj, rfl, HE, rfl⟩ := hrel
    by_cases hlt : j < n
    · have hjl : j < l.length := by rw [HN.out]; exact hlt
      obtain ⟨b, o, rfl, hbw, hat⟩ := HRow.out (fun h => by simp [h] at hjl)
      have HAt : Hid (EnAt (w.alloc (.cells #[.int .i64 0, .int .i64 0, .int .i64 0, .bool false, .string ⟨#[]⟩] 46)) b (o + j * 5) l[j]) := (hat j hjl).of_block (Below.heap_alloc _ _ _ hbw)
      clear hat
      have hlti : (j : Int) < (n : Int) := by omega
      obtain ⟨x, HX⟩ : ∃ x, Hid (l[j] = x) := ⟨l[j], show l[j] = l[j] from rfl⟩
      have HH : Hid (x.k = key → R = some x) := fun hk => by rw [HE.out, getE_hit hjl (by rw [HX.out]; exact hk), HX.out]
      have HMs : Hid (¬ x.k = key → R = getE (l.drop (j + 1)) key) := fun hk => by rw [HE.out, getE_miss hjl (by rw [HX.out]; exact hk)]
      rw [HX.out] at HAt
      obtain ⟨x0, x1, x2, x3, x4⟩ := x
      obtain ⟨c0, c1, c2, c3, c4⟩ := HAt.out
      dsimp only at c0 c1 c2 c3 c4
      have p1 : ¬ b = w.heap.size := by omega
      have p2 : ¬ w.heap.size = b := by omega
      by_cases hk : x0 = key
      · have hkb : (x0 == key) = true := by simp [hk]
        have HS : Hid (R = some ⟨x0, x1, x2, x3, x4⟩) := HH.out hk
        clear hk
        go_wp2_with fail
        refine bodyPost_ret (v := .tuple #[.agg #[.int .i64 x0, .int .i64 x1, .int .i64 x2, .bool x3, .string x4], .bool true]) (by simp [results, Tryz.results48, go_sem]) rfl ?_
        refine ⟨by rw [HS.out]; rfl, ?_⟩
        go_grown
      · have hkb : (x0 == key) = false := by simp [hk]
        have HS : Hid (R = getE (l.drop (j + 1)) key) := HMs.out hk
        clear hk
        go_wp2_with fail
        go_roundw
        case rel => exact ⟨j + 1, by omega, by go_num, HS, by first | rfl | trivial⟩
        case measure => simp [intOf]; omega
    · obtain rfl : j = n := by omega
      have HS : Hid (R = none) := by
        show R = none
        rw [HE.out, List.drop_eq_nil_of_le (by rw [HN.out]; exact Nat.le_refl _)]
        rfl
      go_wp2_with fail
      refine bodyPost_ret (v := .tuple #[.agg #[.int .i64 0, .int .i64 0, .int .i64 0, .bool false, .string ⟨#[]⟩], .bool false]) (by simp [results, Tryz.results48, go_sem]) rfl ?_
      refine ⟨by rw [HS.out]; rfl, ?_⟩
      go_grown
theorem rGet_none {l : List En} {key : Int} (h : getE l key = none) (v : Value) (w : World) (hr : RowIs w v l) :
    Calls Tryz.prog 48 #[v, .int .i64 key] w fun e w' => e = .returned (.tuple #[.agg #[.int .i64 0, .int .i64 0, .int .i64 0, .bool false, .string ⟨#[]⟩], .bool false]) ∧ Below w.heap.size w w' := by
  have c := rGet_c v l key w hr
  rw [h] at c
  exact c
theorem rGet_some {l : List En} {key x0 x1 x2 : Int} {x3 : Bool} {x4 : ByteArray} (h : getE l key = some ⟨x0, x1, x2, x3, x4⟩) (v : Value) (w : World) (hr : RowIs w v l) :
    Calls Tryz.prog 48 #[v, .int .i64 key] w fun e w' => e = .returned (.tuple #[.agg #[.int .i64 x0, .int .i64 x1, .int .i64 x2, .bool x3, .string x4], .bool true]) ∧ Below w.heap.size w w' := by
  have c := rGet_c v l key w hr
  rw [h] at c
  exact c
end Go.Proofs.YtpcnfoaoajfhlaaGreatDoor
