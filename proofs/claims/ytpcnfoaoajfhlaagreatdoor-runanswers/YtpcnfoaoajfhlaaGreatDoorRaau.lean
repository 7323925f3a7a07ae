/-
  mereref1.Entry and mereref1.Join by their contracts: the document's answers are those of package entry.
  The document's caches (mereref1.Cache, Get) by their contracts.
  The document's Get of a cache (mereref1.Get) by its contract.
  mereref1.Join by its contract.
  What the document's Add builds, row by row (where a row's append is told elsewhere).
  The document's number of a text, by its contract.
  The document's number of two numbers, by its contract.
-/
import Derived.Test.YtpcnfoaoajfhlaaGreatDoorRaat
import Derived.Test.YtpcnfoaoajfhlaaGreatDoorRaae
import Derived.BigRegion
import Derived.BigQuiet
import Derived.Test.YtpcnfoaoajfhlaaGreatDoorRaag
import Derived.Test.YtpcnfoaoajfhlaaGreatDoorRaan
import Derived.Test.YtpcnfoaoajfhlaaGreatDoorRaal
import Derived.Test.YtpcnfoaoajfhlaaGreatDoorRaam
namespace Go.Proofs.YtpcnfoaoajfhlaaGreatDoor
set_option linter.unusedVariables false
set_option linter.unusedSimpArgs false
set_option linter.unusedVariables false
set_option linter.unusedSimpArgs false
open Go.RowKit
theorem bad1 {k v a : Int} {g : Bool} {t : ByteArray} (h : ¬ (0 ≤ k ∧ k < 8 ∧ 0 ≤ v ∧ v ≤ 1000 ∧ v ≤ a ∧ a ≤ 1000)) : bad k v a g t = 1 := by
  refine bad_ver ?_
  cases hx : (inR k 0 7 && inR v 0 1000 && inR a v 1000)
  · rfl
  · simp [inR] at hx
    omega
theorem in_all {k v a : Int} (h : 0 ≤ k ∧ k < 8 ∧ 0 ≤ v ∧ v ≤ 1000 ∧ v ≤ a ∧ a ≤ 1000) : (inR k 0 7 && inR v 0 1000 && inR a v 1000) = true := by
  simp [inR]
  omega
theorem bad4 {k v a : Int} {g : Bool} {t : ByteArray} (h : 0 ≤ k ∧ k < 8 ∧ 0 ≤ v ∧ v ≤ 1000 ∧ v ≤ a ∧ a ≤ 1000) (h2 : 12 < (t.size : Int)) : bad k v a g t = 4 := bad_full (in_all h) h2
theorem bad3 {k v a : Int} {t : ByteArray} (h : 0 ≤ k ∧ k < 8 ∧ 0 ≤ v ∧ v ≤ 1000 ∧ v ≤ a ∧ a ≤ 1000) (h2 : ¬ 12 < (t.size : Int)) (h3 : (!t.toList.isEmpty) = true) : bad k v a true t = 3 := bad_shape (in_all h) h2 (by rw [h3]; rfl)
theorem bad0 {k v a : Int} {t : ByteArray} (h : 0 ≤ k ∧ k < 8 ∧ 0 ≤ v ∧ v ≤ 1000 ∧ v ≤ a ∧ a ≤ 1000) (h2 : ¬ 12 < (t.size : Int)) (h3 : (!t.toList.isEmpty) = false) : bad k v a true t = 0 := bad_none (in_all h) h2 (by rw [h3]; rfl)
theorem bad0f {k v a : Int} {t : ByteArray} (h : 0 ≤ k ∧ k < 8 ∧ 0 ≤ v ∧ v ≤ 1000 ∧ v ≤ a ∧ a ≤ 1000) (h2 : ¬ 12 < (t.size : Int)) : bad k v a false t = 0 := bad_none (in_all h) h2 rfl
/-- Join of two right entries of one key -/
theorem joinE_go {x y : En} (hb : bad2 (bad x.k x.v x.a x.g x.t) (bad y.k y.v y.a y.g y.t) = 0) (hk : x.k = y.k) : joinE x y = if newerB x.v x.a y.v y.a = true then (if clashB y.v y.a y.g y.t x.v x.g x.t = true then (⟨0, 0, 0, false, ⟨#[]⟩⟩, 7) else (x, 0)) else if clashB x.v x.a x.g x.t y.v y.g y.t = true then (⟨0, 0, 0, false, ⟨#[]⟩⟩, 7) else (y, 0) := by
  unfold joinE
  rw [if_neg (by simpa using hb), if_neg (by simpa using hk)]
theorem go_eq7 {x y : En} (hb : bad2 (bad x.k x.v x.a x.g x.t) (bad y.k y.v y.a y.g y.t) = 0) (hk : x.k = y.k) (hv : x.v = y.v) (h : ((!(x.g == y.g)) || !(x.t.toList == y.t.toList)) = true) : joinE x y = (⟨0, 0, 0, false, ⟨#[]⟩⟩, 7) := by
  have h' : ((!(y.g == x.g)) || !(y.t.toList == x.t.toList)) = true := by
    rw [Bool.beq_comm (a := y.g), BEq.comm (a := y.t.toList)]
    exact h
  rw [joinE_go hb hk]
  unfold clashB
  rw [if_pos hv, if_pos hv.symm, h, h']
  simp
theorem go_eqa {x y : En} (hb : bad2 (bad x.k x.v x.a x.g x.t) (bad y.k y.v y.a y.g y.t) = 0) (hk : x.k = y.k) (hv : x.v = y.v) (h : ((!(x.g == y.g)) || !(x.t.toList == y.t.toList)) = false) (ha : y.a < x.a) : joinE x y = (x, 0) := by
  have h' : ((!(y.g == x.g)) || !(y.t.toList == x.t.toList)) = false := by
    rw [Bool.beq_comm (a := y.g), BEq.comm (a := y.t.toList)]
    exact h
  rw [joinE_go hb hk]
  unfold clashB newerB
  rw [if_pos hv, if_pos hv, if_pos hv.symm, h, h']
  simp [ha]
theorem go_eqb {x y : En} (hb : bad2 (bad x.k x.v x.a x.g x.t) (bad y.k y.v y.a y.g y.t) = 0) (hk : x.k = y.k) (hv : x.v = y.v) (h : ((!(x.g == y.g)) || !(x.t.toList == y.t.toList)) = false) (ha : ¬ y.a < x.a) : joinE x y = (y, 0) := by
  rw [joinE_go hb hk]
  unfold clashB newerB
  rw [if_pos hv, if_pos hv, if_pos hv.symm, h]
  simp [ha]
theorem go_lt7 {x y : En} (hb : bad2 (bad x.k x.v x.a x.g x.t) (bad y.k y.v y.a y.g y.t) = 0) (hk : x.k = y.k) (hv : x.v < y.v) (ha : y.v ≤ x.a) : joinE x y = (⟨0, 0, 0, false, ⟨#[]⟩⟩, 7) := by
  rw [joinE_go hb hk]
  unfold clashB newerB
  have n1 : ¬ x.v = y.v := by omega
  have n2 : ¬ y.v = x.v := by omega
  have n3 : ¬ y.v < x.v := by omega
  simp only [n1, n2, n3, ha, if_false, decide_false, decide_true, Bool.false_eq_true, if_true]
theorem go_ltb {x y : En} (hb : bad2 (bad x.k x.v x.a x.g x.t) (bad y.k y.v y.a y.g y.t) = 0) (hk : x.k = y.k) (hv : x.v < y.v) (ha : ¬ y.v ≤ x.a) : joinE x y = (y, 0) := by
  rw [joinE_go hb hk]
  unfold clashB newerB
  have n1 : ¬ x.v = y.v := by omega
  have n2 : ¬ y.v = x.v := by omega
  have n3 : ¬ y.v < x.v := by omega
  simp only [n1, n2, n3, ha, if_false, decide_false, decide_true, Bool.false_eq_true, if_true]
theorem go_swap {x y : En} (hb : bad2 (bad x.k x.v x.a x.g x.t) (bad y.k y.v y.a y.g y.t) = 0) (hk : x.k = y.k) (hv : y.v < x.v) : joinE x y = joinE y x := by
  have hb' : bad2 (bad y.k y.v y.a y.g y.t) (bad x.k x.v x.a x.g x.t) = 0 := by
    unfold bad2 at *
    split at hb <;> simp_all
  by_cases ha : x.v ≤ y.a
  · rw [go_lt7 hb' hk.symm hv ha, joinE_go hb hk]
    unfold clashB newerB
    have n1 : ¬ x.v = y.v := by omega
    have n2 : ¬ y.v = x.v := by omega
    simp only [n1, n2, hv, ha, if_false, decide_false, decide_true, Bool.false_eq_true, if_true]
  · rw [go_ltb hb' hk.symm hv ha, joinE_go hb hk]
    unfold clashB newerB
    have n1 : ¬ x.v = y.v := by omega
    have n2 : ¬ y.v = x.v := by omega
    simp only [n1, n2, hv, ha, if_false, decide_false, decide_true, Bool.false_eq_true, if_true]
end Go.Proofs.YtpcnfoaoajfhlaaGreatDoor

namespace Go.Proofs.YtpcnfoaoajfhlaaGreatDoor
set_option linter.unusedVariables false
set_option linter.unusedSimpArgs false
open Go.RowKit

end Go.Proofs.YtpcnfoaoajfhlaaGreatDoor

namespace Go.Proofs.YtpcnfoaoajfhlaaGreatDoor
set_option linter.unusedVariables false
set_option linter.unusedSimpArgs false
open Go.RowKit

theorem getE_hit {l : List En} {key : Int} {j : Nat} (h : j < l.length) (hk : l[j].k = key) : getE (l.drop j) key = some l[j] := by
  rw [List.drop_eq_getElem_cons h]
  unfold getE
  rw [List.find?_cons_of_pos (by simpa using hk)]
theorem getE_miss {l : List En} {key : Int} {j : Nat} (h : j < l.length) (hk : ¬ l[j].k = key) : getE (l.drop j) key = getE (l.drop (j + 1)) key := by
  rw [List.drop_eq_getElem_cons h]
  unfold getE
  rw [List.find?_cons_of_neg (by simpa using hk)]
/-- what the document's Get answers -/
def hadE (o : Option En) : En := match o with | some x => x | none => ⟨0, 0, 0, false, ⟨#[]⟩⟩
set_option maxHeartbeats 4000000 in
theorem rGet_c (v : Value) (l : List En) (key : Int) (w : World) (hr : RowIs w v l) :
    Calls Tryz.prog 48 #[v, .int .i64 key] w fun e w' => e = .returned (.tuple #[(hadE (getE l key)).val, .bool (getE l key).isSome]) ∧ Below w.heap.size w w' := by
  obtain ⟨hlen, p, cap, rfl, hrow⟩ := hr
  have HRow : Hid (l ≠ [] → ∃ b o, p = some ⟨b, o, none⟩ ∧ b < w.heap.size ∧ ∀ j (h : j < l.length), EnAt w b (o + j * 5) l[j]) := hrow
  clear hrow
  obtain ⟨n, HN⟩ : ∃ n, Hid (l.length = n) := ⟨_, rfl⟩
  rw [HN.out] at hlen ⊢
  have hn63 : n ≤ 9223372036854775807 := hlen
  obtain ⟨R, HR⟩ : ∃ R, Hid (getE l key = R) := ⟨_, rfl⟩
  rw [HR.out]
  go_enter Tryz.func48, Tryz.ntmps48
  go_wp2_with fail
  go_loopw [6] (fun i wr => ∃ j : Nat, j ≤ n ∧ i = .int .i64 j ∧ Hid (R = getE (l.drop j) key) ∧ wr = w.alloc (.cells #[.int .i64 0, .int .i64 0, .int .i64 0, .bool false, .string ⟨#[]⟩] 46)) (fun i _ => n - (intOf i).toNat)
  case atStart => exact ⟨0, Nat.zero_le _, rfl, by rw [List.drop_zero]; exact HR.out.symm, rfl⟩
  case round =>
    obtain ⟨j, hj, rfl, HE, rfl⟩ := hrel
    by_cases hlt : j < n
    · have hjl : j < l.length := by rw [HN.out]; exact hlt
      obtain ⟨b, o, rfl, hbw, hat⟩ := HRow.out (fun h => by simp [h] at hjl)
      have HAt : Hid (EnAt (w.alloc (.cells #[.int .i64 0, .int .i64 0, .int .i64 0, .bool false, .string ⟨#[]⟩] 46)) b (o + j * 5) l[j]) := (hat j hjl).of_block (Below.heap_alloc _ _ _ hbw)
      clear hat
      have hlti : (j : Int) < (n : Int) := by omega
      obtain ⟨x, HX⟩ : ∃ x, Hid (l[j] = x) := ⟨l[j], show l[j] = l[j] from rfl⟩
      have HH : Hid (x.k = key → R = some x) := fun hk => by rw [HE.out, getE_hit hjl (by rw [HX.out]; exact hk), HX.out]
      have HMs : Hid (¬ x.k = key → R = getE (l.drop (j + 1)) key) := fun hk => by rw [HE.out, getE_miss hjl (by rw [HX.out]; exact hk)]
      rw [HX.out] at HAt
      obtain ⟨x0, x1, x2, x3, x4⟩ := x
      obtain ⟨c0, c1, c2, c3, c4⟩ := HAt.out
      dsimp only at c0 c1 c2 c3 c4
      have p1 : ¬ b = w.heap.size := by omega
      have p2 : ¬ w.heap.size = b := by omega
      by_cases hk : x0 = key
      · have hkb : (x0 == key) = true := by simp [hk]
        have HS : Hid (R = some ⟨x0, x1, x2, x3, x4⟩) := HH.out hk
        clear hk
        go_wp2_with fail
        refine bodyPost_ret (v := .tuple #[.agg #[.int .i64 x0, .int .i64 x1, .int .i64 x2, .bool x3, .string x4], .bool true]) (by simp [results, Tryz.results48, go_sem]) rfl ?_
        refine ⟨by rw [HS.out]; rfl, ?_⟩
        go_grown
      · have hkb : (x0 == key) = false := by simp [hk]
        have HS : Hid (R = getE (l.drop (j + 1)) key) := HMs.out hk
        clear hk
        go_wp2_with fail
        go_roundw
        case rel => exact ⟨j + 1, by omega, by go_num, HS, by first | rfl | trivial⟩
        case measure => simp [intOf]; omega
    · obtain rfl : j = n := by omega
      have HS : Hid (R = none) := by
        show R = none
        rw [HE.out, List.drop_eq_nil_of_le (by rw [HN.out]; exact Nat.le_refl _)]
        rfl
      go_wp2_with fail
      refine bodyPost_ret (v := .tuple #[.agg #[.int .i64 0, .int .i64 0, .int .i64 0, .bool false, .string ⟨#[]⟩], .bool false]) (by simp [results, Tryz.results48, go_sem]) rfl ?_
      refine ⟨by rw [HS.out]; rfl, ?_⟩
      go_grown
theorem rGet_none {l : List En} {key : Int} (h : getE l key = none) (v : Value) (w : World) (hr : RowIs w v l) :
    Calls Tryz.prog 48 #[v, .int .i64 key] w fun e w' => e = .returned (.tuple #[.agg #[.int .i64 0, .int .i64 0, .int .i64 0, .bool false, .string ⟨#[]⟩], .bool false]) ∧ Below w.heap.size w w' := by
  have c := rGet_c v l key w hr
  rw [h] at c
  exact c
theorem rGet_some {l : List En} {key x0 x1 x2 : Int} {x3 : Bool} {x4 : ByteArray} (h : getE l key = some ⟨x0, x1, x2, x3, x4⟩) (v : Value) (w : World) (hr : RowIs w v l) :
    Calls Tryz.prog 48 #[v, .int .i64 key] w fun e w' => e = .returned (.tuple #[.agg #[.int .i64 x0, .int .i64 x1, .int .i64 x2, .bool x3, .string x4], .bool true]) ∧ Below w.heap.size w w' := by
  have c := rGet_c v l key w hr
  rw [h] at c
  exact c
end Go.Proofs.YtpcnfoaoajfhlaaGreatDoor

namespace Go.Proofs.YtpcnfoaoajfhlaaGreatDoor
set_option linter.unusedVariables false
set_option linter.unusedSimpArgs false
open Go.RowKit
set_option maxHeartbeats 4000000 in
theorem rJoin_le (ka va aa : Int) (ga : Bool) (ta : ByteArray) (kb vb ab : Int) (gb : Bool) (tb : ByteArray) (w : World) (hb : bad2 (bad ka va aa ga ta) (bad kb vb ab gb tb) = 0) (hk : ka = kb) (hv : va ≤ vb) :
    Calls Tryz.prog 139 #[.agg #[.int .i64 ka, .int .i64 va, .int .i64 aa, .bool ga, .string ta], .agg #[.int .i64 kb, .int .i64 vb, .int .i64 ab, .bool gb, .string tb]] w fun e w' => e = .returned (.tuple #[(joinE ⟨ka, va, aa, ga, ta⟩ ⟨kb, vb, ab, gb, tb⟩).1.val, .int .i64 (joinE ⟨ka, va, aa, ga, ta⟩ ⟨kb, vb, ab, gb, tb⟩).2]) ∧ Below w.heap.size w w' := by
  obtain ⟨J, HE⟩ : ∃ J, Hid (joinE ⟨ka, va, aa, ga, ta⟩ ⟨kb, vb, ab, gb, tb⟩ = J) := ⟨_, rfl⟩
  rw [HE.out]
  have H : Hid (bad2 (bad ka va aa ga ta) (bad kb vb ab gb tb) = 0) := hb
  have HK : Hid (ka = kb) := hk
  clear hb hk
  by_cases he : va = vb
  · have he2 : (va == vb) = true := by simp [he]
    have HV : Hid (va = vb) := he
    clear he hv
    go_enter Tryz.func139, Tryz.ntmps139
    go_wp2_with fail
    · rename_i hg ht
      subst hg
      refine bodyPost_ret (v := .tuple #[.agg #[.int .i64 0, .int .i64 0, .int .i64 0, .bool false, .string ⟨#[]⟩], .int .i64 7]) (by simp [results, Tryz.results139, go_sem]) rfl ?_
      refine ⟨by rw [← HE.out, go_eq7 H.out HK.out HV.out (by simpa using ht)]; rfl, ?_⟩
      go_grown
    · have hg : ga = gb := by assumption
      have ht : (!ta.toList == tb.toList) = false := by assumption
      have ha : ab < aa := by assumption
      subst hg
      refine bodyPost_ret (v := .tuple #[.agg #[.int .i64 ka, .int .i64 va, .int .i64 aa, .bool ga, .string ta], .int .i64 0]) (by simp [results, Tryz.results139, go_sem]) rfl ?_
      refine ⟨by rw [← HE.out, go_eqa H.out HK.out HV.out (by simpa using ht) (by show ab < aa; omega)]; rfl, ?_⟩
      go_grown
    · have hg : ga = gb := by assumption
      have ht : (!ta.toList == tb.toList) = false := by assumption
      have ha : aa ≤ ab := by assumption
      subst hg
      refine bodyPost_ret (v := .tuple #[.agg #[.int .i64 kb, .int .i64 vb, .int .i64 ab, .bool ga, .string tb], .int .i64 0]) (by simp [results, Tryz.results139, go_sem]) rfl ?_
      refine ⟨by rw [← HE.out, go_eqb H.out HK.out HV.out (by simpa using ht) (by show ¬ ab < aa; omega)]; rfl, ?_⟩
      go_grown
    · rename_i hg
      refine bodyPost_ret (v := .tuple #[.agg #[.int .i64 0, .int .i64 0, .int .i64 0, .bool false, .string ⟨#[]⟩], .int .i64 7]) (by simp [results, Tryz.results139, go_sem]) rfl ?_
      refine ⟨by rw [← HE.out, go_eq7 H.out HK.out HV.out (by simp [hg])]; rfl, ?_⟩
      go_grown
  · have hl : va < vb := by omega
    have he2 : (va == vb) = false := by simp [he]
    have HV : Hid (va < vb) := hl
    have hn : ¬ vb < va := by omega
    by_cases ha : vb ≤ aa
    · go_enter Tryz.func139, Tryz.ntmps139
      go_wp2_with fail
      refine bodyPost_ret (v := .tuple #[.agg #[.int .i64 0, .int .i64 0, .int .i64 0, .bool false, .string ⟨#[]⟩], .int .i64 7]) (by simp [results, Tryz.results139, go_sem]) rfl ?_
      refine ⟨by rw [← HE.out, go_lt7 H.out HK.out HV.out ha]; rfl, ?_⟩
      go_grown
    · go_enter Tryz.func139, Tryz.ntmps139
      go_wp2_with fail
      refine bodyPost_ret (v := .tuple #[.agg #[.int .i64 kb, .int .i64 vb, .int .i64 ab, .bool gb, .string tb], .int .i64 0]) (by simp [results, Tryz.results139, go_sem]) rfl ?_
      refine ⟨by rw [← HE.out, go_ltb H.out HK.out HV.out (by show ¬ vb ≤ aa; omega)]; rfl, ?_⟩
      go_grown
theorem bad2_swap {m n : Int} (h : bad2 m n = 0) : bad2 n m = 0 := by
  unfold bad2 at *
  split at h <;> simp_all
set_option maxHeartbeats 4000000 in
theorem rJoin_c (ka va aa : Int) (ga : Bool) (ta : ByteArray) (kb vb ab : Int) (gb : Bool) (tb : ByteArray) (w : World) (hb : bad2 (bad ka va aa ga ta) (bad kb vb ab gb tb) = 0) (hk : ka = kb) :
    Calls Tryz.prog 139 #[.agg #[.int .i64 ka, .int .i64 va, .int .i64 aa, .bool ga, .string ta], .agg #[.int .i64 kb, .int .i64 vb, .int .i64 ab, .bool gb, .string tb]] w fun e w' => e = .returned (.tuple #[(joinE ⟨ka, va, aa, ga, ta⟩ ⟨kb, vb, ab, gb, tb⟩).1.val, .int .i64 (joinE ⟨ka, va, aa, ga, ta⟩ ⟨kb, vb, ab, gb, tb⟩).2]) ∧ Below w.heap.size w w' := by
  by_cases hv : va ≤ vb
  · exact rJoin_le ka va aa ga ta kb vb ab gb tb w hb hk hv
  have hl : vb < va := by omega
  have he2 : (va == vb) = false := by simp; omega
  rw [go_swap (x := ⟨ka, va, aa, ga, ta⟩) (y := ⟨kb, vb, ab, gb, tb⟩) hb hk hl]
  have H : Hid (bad2 (bad ka va aa ga ta) (bad kb vb ab gb tb) = 0) := hb
  have HK : Hid (ka = kb) := hk
  obtain ⟨jk, jv, ja, jg, jt, n, HE⟩ : ∃ jk jv ja jg jt n, Hid (joinE ⟨kb, vb, ab, gb, tb⟩ ⟨ka, va, aa, ga, ta⟩ = (⟨jk, jv, ja, jg, jt⟩, n)) := ⟨_, _, _, _, _, _, rfl⟩
  clear hb hk hv
  rw [HE.out]
  go_enter Tryz.func139, Tryz.ntmps139
  go_wp2_with fail
  refine (rJoin_le kb vb ab gb tb ka va aa ga ta _ (bad2_swap H.out) HK.out.symm (by omega)).mono ?_
  rintro e w1 ⟨rfl, hb⟩
  rw [HE.out]
  have B1 : Hid (Below w.heap.size w w1) := Below.trans (by go_grown) (hb.mono (by simp; omega))
  obtain ⟨e0, e1, e2, e3, e4, ef⟩ := (box_new _ 0 0 0 false ⟨#[]⟩ (w.heap.size + 1 + 1) (by simp)).below hb (by simp)
  clear hb
  simp only [En.val]
  go_wp2_with fail
  refine bodyPost_ret (v := .tuple #[.agg #[.int .i64 jk, .int .i64 jv, .int .i64 ja, .bool jg, .string jt], .int .i64 n]) (by simp [results, Tryz.results139, go_sem, e0, e1, e2, e3, e4]) rfl ?_
  refine ⟨rfl, ?_⟩
  have hb := B1.out
  go_grown
end Go.Proofs.YtpcnfoaoajfhlaaGreatDoor

namespace Go.Proofs.YtpcnfoaoajfhlaaGreatDoor
set_option linter.unusedVariables false
set_option linter.unusedSimpArgs false
open Go.RowKit

/-- what is there behind j entries: m are less, d are left out -/
def outE (l : List En) (m d : Nat) (e : En) (j : Nat) : List En := if j ≤ m then l.take j else l.take m ++ e :: (l.take j).drop (m + d)
theorem outE_zero (l : List En) (m d : Nat) (e : En) : outE l m d e 0 = [] := by simp [outE]
theorem outE_less {l : List En} {m d j : Nat} {e : En} (h : j < m) (hj : j < l.length) : outE l m d e (j + 1) = outE l m d e j ++ [l[j]] := by
  rw [outE, if_pos (by omega), outE, if_pos (by omega), List.take_succ_eq_append_getElem hj]
theorem outE_at0 {l : List En} {m : Nat} {e : En} (hj : m < l.length) : outE l m 0 e (m + 1) = (outE l m 0 e m ++ [e]) ++ [l[m]] := by
  rw [outE, if_neg (by omega), outE, if_pos (by omega), List.take_succ_eq_append_getElem hj, Nat.add_zero, List.drop_append_of_le_length (by simp; omega), List.drop_take]
  simp
theorem outE_at1 {l : List En} {m : Nat} {e : En} (hj : m < l.length) : outE l m 1 e (m + 1) = outE l m 1 e m ++ [e] := by
  rw [outE, if_neg (by omega), outE, if_pos (by omega), List.drop_take]
  simp
theorem outE_more {l : List En} {m d j : Nat} {e : En} (h : m < j) (hd : d ≤ 1) (hj : j < l.length) : outE l m d e (j + 1) = outE l m d e j ++ [l[j]] := by
  rw [outE, if_neg (by omega), outE, if_neg (by omega), List.take_succ_eq_append_getElem hj, List.drop_append_of_le_length (by simp; omega)]
  simp
theorem outE_len {l : List En} {m d j : Nat} {e : En} (h8 : l.length ≤ 8) : (outE l m d e j).length ≤ 20 := by
  unfold outE
  split
  · simp; omega
  · simp; omega
theorem outE_end {l : List En} {m d : Nat} {e : En} (hm : m < l.length) : outE l m d e l.length = l.take m ++ e :: l.drop (m + d) := by
  rw [outE, if_neg (by omega), List.take_length]
theorem outE_all {l : List En} {m d : Nat} {e : En} (hm : m = l.length) : outE l m d e l.length = l := by
  rw [outE, if_pos (by omega), List.take_length]
end Go.Proofs.YtpcnfoaoajfhlaaGreatDoor

namespace Go.Proofs.YtpcnfoaoajfhlaaGreatDoor
set_option linter.unusedVariables false
set_option linter.unusedSimpArgs false
open Go.RowKit

theorem bit_i (q P : Nat) (hq : q < 256) : (wrap64 ((q : Int) / (P : Int))).tmod 2 = ((q / P % 2 : Nat) : Int) := by
  have h1 : q / P ≤ q := Nat.div_le_self _ _
  have e : (q : Int) / (P : Int) = ((q / P : Nat) : Int) := rfl
  rw [e]
  obtain ⟨y, hy⟩ : ∃ y, y = q / P := ⟨_, rfl⟩
  rw [← hy] at h1 ⊢
  have e2 : wrap64 (y : Int) = (y : Int) := by unfold wrap64; omega
  rw [e2]
  rfl
theorem bits_next {q c t X P : Nat} (ht : t < 8) (h : P = 2 ^ t ∧ X = bitsX q c t) : 2 * P = 2 ^ (t + 1) ∧ 2 * P ≤ 256 ∧ X < P ∧ bitsX q c (t + 1) = X + (if q / P % 2 ≠ c / P % 2 then P else 0) := by
  obtain ⟨rfl, rfl⟩ := h
  have h1 : 2 * 2 ^ t = 2 ^ (t + 1) := by rw [Nat.pow_succ, Nat.mul_comm]
  refine ⟨h1, ?_, ?_, rfl⟩
  · rw [h1]
    exact Nat.pow_le_pow_right (n := 2) (i := t + 1) (j := 8) (by omega) (by omega)
  · rw [bitsX_mod]
    exact Nat.mod_lt _ (Nat.two_pow_pos t)
theorem ref_step {m q c t X P : Nat} (hq : m % 256 = q) (hc : c < 256) (ht : t = 8) (h : P = 2 ^ t ∧ X = bitsX q c t) : ((m : Int) - q + X) * 16777619 % 4294967296 = ((stepH m c : Nat) : Int) := by
  subst ht
  subst hq
  have h1 := low_xor (n := m) hc
  have h2 := h.2
  rw [← h2] at h1
  obtain ⟨x, hx⟩ : ∃ x, x = m ^^^ c := ⟨_, rfl⟩
  have e : stepH m c = (x * 16777619) % 4294967296 := by rw [hx, stepH]
  rw [← hx] at h1
  rw [e]
  have h3 : m % 256 ≤ m := Nat.mod_le _ _
  have e2 : (m : Int) - ((m % 256 : Nat) : Int) + (X : Int) = (x : Int) := by omega
  rw [e2]
  omega

set_option maxHeartbeats 4000000 in
theorem rHash_c (s : ByteArray) (w : World) (hs : s.size ≤ 9223372036854775807) :
    Calls Tryz.prog 176 #[.string s] w fun e w' => e = .returned (.int .i64 (hashL (byN s) : Nat)) ∧ Below w.heap.size w w' := by
  obtain ⟨R, HR⟩ : ∃ R : Nat, Hid (hashL (byN s) = R) := ⟨_, rfl⟩
  rw [HR.out]
  go_enter Tryz.func176, Tryz.ntmps176
  go_wp2_with fail
  go_loopw [3, 4] (fun x i wr => ∃ (j : Nat) (m : Nat), j ≤ s.size ∧ i = .int .i64 j ∧ x = .int .i64 m ∧ m < 4294967296 ∧ Hid (m = hashL ((byN s).take j)) ∧ Hid (Below w.heap.size w wr)) (fun _ i _ => s.size - (intOf i).toNat)
  case atStart => exact ⟨0, 2166136261, Nat.zero_le _, rfl, rfl, by omega, by rw [List.take_zero]; rfl, Below.refl _ _⟩
  case round =>
    obtain ⟨j, m, hj, rfl, rfl, hm, HE, HB⟩ := hrel
    by_cases hlt : j < s.size
    · have hc0 : s[j].toNat < 256 := UInt8.toNat_lt _
      go_upto_region 6 with fail
      obtain ⟨c, HC⟩ : ∃ c : Nat, Hid (s[j].toNat = c) := ⟨s[j].toNat, show s[j].toNat = s[j].toNat from rfl⟩
      rw [HC.out] at hc0
      simp only [HC.out]
      obtain ⟨q, HQ⟩ : ∃ q : Nat, Hid (m % 256 = q) := ⟨_, show m % 256 = m % 256 from rfl⟩
      have hq : q < 256 := by rw [← HQ.out]; exact Nat.mod_lt _ (by omega)
      have hmq : (m : Int) % 256 = (q : Int) := by have := HQ.out; omega
      go_wp2_with fail
      go_loopw [7, 8, 9] (fun x p k wi => ∃ t X P : Nat, t ≤ 8 ∧ k = .int .i64 t ∧ p = .int .i64 P ∧ x = .int .i64 X ∧ 1 ≤ P ∧ P ≤ 256 ∧ X ≤ 256 ∧ Hid (P = 2 ^ t ∧ X = bitsX q c t) ∧ Hid (Below w.heap.size w wi)) (fun _ _ k _ => 8 - (intOf k).toNat)
      case atStart => exact ⟨0, 0, 1, by omega, rfl, rfl, rfl, by omega, by omega, by omega, ⟨rfl, rfl⟩, HB.out⟩
      case round =>
        obtain ⟨t, X, P, ht, rfl, rfl, rfl, hP, hP2, hX, HX, HBi⟩ := hrel
        by_cases hlt8 : t < 8
        · obtain ⟨hn1, hn2, hn3, hn4⟩ := bits_next hlt8 HX.out
          have HN1 := (show Hid (2 * P = 2 ^ (t + 1)) from hn1)
          have HN4 := (show Hid (bitsX q c (t + 1) = X + (if q / P % 2 ≠ c / P % 2 then P else 0)) from hn4)
          clear hn1 hn4
          by_cases hbit : q / P % 2 = c / P % 2
          · have hb0 : ((wrap64 ((q : Int) / (P : Int))).tmod 2 != (wrap64 ((c : Int) / (P : Int))).tmod 2) = false := by
              rw [bit_i q P hq, bit_i c P hc0, hbit]
              simp
            have HBit : Hid (q / P % 2 = c / P % 2) := hbit
            clear hbit
            go_upto_region 12 with fail
            go_quiet (fail)
            go_wp2_with fail
            go_roundw
            case rel => exact ⟨t + 1, X, 2 * P, by omega, by go_num, by go_num, rfl, by omega, hn2, by omega, ⟨HN1.out, by rw [HN4.out, if_neg (fun h => h HBit.out)]; rfl⟩, HBi.out.trans ⟨rfl, rfl, rfl, Nat.le_refl _, fun _ _ => rfl⟩⟩
            case measure => simp [intOf]; omega
          · have hb0 : ((wrap64 ((q : Int) / (P : Int))).tmod 2 != (wrap64 ((c : Int) / (P : Int))).tmod 2) = true := by
              rw [bit_i q P hq, bit_i c P hc0]
              simp only [bne_iff_ne, ne_eq]
              omega
            have HBit : Hid (¬ q / P % 2 = c / P % 2) := hbit
            clear hbit
            go_upto_region 12 with fail
            go_quiet (fail)
            go_wp2_with fail
            go_roundw
            case rel => exact ⟨t + 1, X + P, 2 * P, by omega, by go_num, by go_num, by go_num, by omega, hn2, by omega, ⟨HN1.out, by rw [HN4.out, if_pos HBit.out]⟩, HBi.out.trans ⟨rfl, rfl, rfl, Nat.le_refl _, fun _ _ => rfl⟩⟩
            case measure => simp [intOf]; omega
        · have HT : Hid (t = 8) := by
            show t = 8
            omega
          have HS : Hid (((m : Int) - q + X) * 16777619 % 4294967296 = ((stepH m c : Nat) : Int)) := ref_step HQ.out hc0 HT.out HX.out
          go_wp2_with fail
          refine ⟨⟨j + 1, stepH m c, by omega, by go_num, ?_, stepH_lt _ _, ?_, HBi.out⟩, ?_⟩
          · rw [HS.out]
          · show _ = _
            rw [hash_take s j hlt, ← HE.out, HC.out]
          · simp [intOf]; omega
    · go_wp2_with fail
      go_ret
      have e : m = R := by rw [HE.out, hash_all s j hlt]; exact HR.out
      exact ⟨by rw [← e]; rfl, HB.out⟩
end Go.Proofs.YtpcnfoaoajfhlaaGreatDoor

namespace Go.Proofs.YtpcnfoaoajfhlaaGreatDoor
set_option linter.unusedVariables false
set_option linter.unusedSimpArgs false
open Go.RowKit

set_option maxHeartbeats 4000000 in
theorem rPairG_c (a b : Nat) (ha : a ≤ 9223372036854775807) (hb : b ≤ 9223372036854775807) (w : World) :
    Calls Tryz.prog 133 #[.int .i64 (a : Nat), .int .i64 (b : Nat)] w fun e w' => e = .returned (.int .i64 (hashL (byN (str2 a b)) : Nat)) ∧ Below w.heap.size w w' := by
  have hsa := digS_size a ha
  have hsb := digS_size b hb
  have HE : str2 a b = digS a ++ ⟨#[47]⟩ ++ digS b := rfl
  have hz1 : (⟨#[47]⟩ : ByteArray).size = 1 := rfl
  have HS3 : Hid ((digS a ++ ⟨#[47]⟩ ++ digS b).size ≤ 9223372036854775807) := by
    show _ ≤ _
    rw [ByteArray.size_append, ByteArray.size_append, hz1]
    omega
  clear hz1
  rw [HE]
  clear HE
  have HA : Hid (a ≤ 9223372036854775807) := ha
  have HB : Hid (b ≤ 9223372036854775807) := hb
  obtain ⟨x, HX⟩ : ∃ x, Hid (digS a = x) := ⟨_, rfl⟩
  obtain ⟨y, HY⟩ : ∃ y, Hid (digS b = y) := ⟨_, rfl⟩
  have HDa : Hid (∀ w, Calls Tryz.prog 87 #[.int .i64 (a : Nat)] w fun e w' => e = .returned (.string x) ∧ w' = w) := by
    rw [← HX.out]
    exact digits_c a ha
  have HDb : Hid (∀ w, Calls Tryz.prog 87 #[.int .i64 (b : Nat)] w fun e w' => e = .returned (.string y) ∧ w' = w) := by
    rw [← HY.out]
    exact digits_c b hb
  rw [HX.out] at hsa
  rw [HY.out] at hsb
  rw [HX.out, HY.out] at HS3 ⊢
  have hs1 : ¬ 9223372036854775807 < x.size + 1 := by omega
  have hs2 : ¬ 9223372036854775807 < x.size + 1 + y.size := by omega
  go_enter Tryz.func133, Tryz.ntmps133
  go_wp2_with fail
  refine (HDa.out _).mono ?_
  rintro e w1 ⟨rfl, rfl⟩
  go_wp2_with fail
  refine (HDb.out _).mono ?_
  rintro e w1 ⟨rfl, rfl⟩
  go_wp2_with fail
  refine (rHash_c _ _ HS3.out).mono ?_
  rintro e w2 ⟨rfl, hb2⟩
  have HB2 := hb2
  go_wp2_with fail
  go_ret
  exact ⟨rfl, HB2⟩

end Go.Proofs.YtpcnfoaoajfhlaaGreatDoor
