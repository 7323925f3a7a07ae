/-
  mereref1.Entry and mereref1.Join by their contracts: the document's answers are those of package entry.
  The document's caches (mereref1.Cache, Get) by their contracts.
  The document's Get of a cache (mereref1.Get) by its contract.
  mereref1.Join by its contract.
  What the document's Add builds, row by row (where a row's append is told elsewhere).
  A session on lists: a text cut at a byte, its lines, and numbers of at most four digits.
-/
import Derived.Test.YtpcnfoaoajfhlaaGreatDoorRaat
import Derived.Test.YtpcnfoaoajfhlaaGreatDoorRaae
import Derived.BigRegion
import Derived.BigQuiet
import Derived.Test.YtpcnfoaoajfhlaaGreatDoorRaag
import Derived.Test.YtpcnfoaoajfhlaaGreatDoorRaan
import Derived.Test.YtpcnfoaoajfhlaaGreatDoorRaaa
import Derived.Lib.SplitLaws
import Derived.Lib.CutLaws
import Derived.Lib.IndexLaws
import Derived.Lib.IndexBytes
namespace Go.Proofs.YtpcnfoaoajfhlaaGreatDoor
set_option linter.unusedVariables false
set_option linter.unusedSimpArgs false
set_option linter.unusedVariables false
set_option linter.unusedSimpArgs false
open Go.RowKit
theorem bad1 {k v a : Int} {g : Bool} {t : ByteArray} (h : ¬ (0 ≤ k ∧ k < 8 ∧ 0 ≤ v ∧ v ≤ 1000 ∧ v ≤ a ∧ a ≤ 1000)) : bad k v a g t = 1 := by
  refine bad_ver ?_
  cases hx : (inR k 0 7 && inR v 0 1000 && inR a v 1000)
  · rfl
  · simp [inR] at hx
    omega
theorem in_all {k v a : Int} (h : 0 ≤ k ∧ k < 8 ∧ 0 ≤ v ∧ v ≤ 1000 ∧ v ≤ a ∧ a ≤ 1000) : (inR k 0 7 && inR v 0 1000 && inR a v 1000) = true := by
  simp [inR]
  omega
theorem bad4 {k v a : Int} {g : Bool} {t : ByteArray} (h : 0 ≤ k ∧ k < 8 ∧ 0 ≤ v ∧ v ≤ 1000 ∧ v ≤ a ∧ a ≤ 1000) (h2 : 12 < (t.size : Int)) : bad k v a g t = 4 := bad_full (in_all h) h2
theorem bad3 {k v a : Int} {t : ByteArray} (h : 0 ≤ k ∧ k < 8 ∧ 0 ≤ v ∧ v ≤ 1000 ∧ v ≤ a ∧ a ≤ 1000) (h2 : ¬ 12 < (t.size : Int)) (h3 : (!t.toList.isEmpty) = true) : bad k v a true t = 3 := bad_shape (in_all h) h2 (by rw [h3]; rfl)
theorem bad0 {k v a : Int} {t : ByteArray} (h : 0 ≤ k ∧ k < 8 ∧ 0 ≤ v ∧ v ≤ 1000 ∧ v ≤ a ∧ a ≤ 1000) (h2 : ¬ 12 < (t.size : Int)) (h3 : (!t.toList.isEmpty) = false) : bad k v a true t = 0 := bad_none (in_all h) h2 (by rw [h3]; rfl)
theorem bad0f {k v a : Int} {t : ByteArray} (h : 0 ≤ k ∧ k < 8 ∧ 0 ≤ v ∧ v ≤ 1000 ∧ v ≤ a ∧ a ≤ 1000) (h2 : ¬ 12 < (t.size : Int)) : bad k v a false t = 0 := bad_none (in_all h) h2 rfl
/-- Join of two right entries of one key -/
theorem joinE_go {x y : En} (hb : bad2 (bad x.k x.v x.a x.g x.t) (bad y.k y.v y.a y.g y.t) = 0) (hk : x.k = y.k) : joinE x y = if newerB x.v x.a y.v y.a = true then (if clashB y.v y.a y.g y.t x.v x.g x.t = true then (⟨0, 0, 0, false, ⟨#[]⟩⟩, 7) else (x, 0)) else if clashB x.v x.a x.g x.t y.v y.g y.t = true then (⟨0, 0, 0, false, ⟨#[]⟩⟩, 7) else (y, 0) := by
  unfold joinE
  rw [if_neg (by simpa using hb), if_neg (by simpa using hk)]
theorem go_eq7 {x y : En} (hb : bad2 (bad x.k x.v x.a x.g x.t) (bad y.k y.v y.a y.g y.t) = 0) (hk : x.k = y.k) (hv : x.v = y.v) (h : ((!(x.g == y.g)) || !(x.t.toList == y.t.toList)) = true) : joinE x y = (⟨0, 0, 0, false, ⟨#[]⟩⟩, 7) := by
  have h' : ((!(y.g == x.g)) || !(y.t.toList == x.t.toList)) = true := by
    rw [Bool.beq_comm (a := y.g), BEq.comm (a := y.t.toList)]
    exact h
  rw [joinE_go hb hk]
  unfold clashB
  rw [if_pos hv, if_pos hv.symm, h, h']
  simp
theorem go_eqa {x y : En} (hb : bad2 (bad x.k x.v x.a x.g x.t) (bad y.k y.v y.a y.g y.t) = 0) (hk : x.k = y.k) (hv : x.v = y.v) (h : ((!(x.g == y.g)) || !(x.t.toList == y.t.toList)) = false) (ha : y.a < x.a) : joinE x y = (x, 0) := by
  have h' : ((!(y.g == x.g)) || !(y.t.toList == x.t.toList)) = false := by
    rw [Bool.beq_comm (a := y.g), BEq.comm (a := y.t.toList)]
    exact h
  rw [joinE_go hb hk]
  unfold clashB newerB
  rw [if_pos hv, if_pos hv, if_pos hv.symm, h, h']
  simp [ha]
theorem go_eqb {x y : En} (hb : bad2 (bad x.k x.v x.a x.g x.t) (bad y.k y.v y.a y.g y.t) = 0) (hk : x.k = y.k) (hv : x.v = y.v) (h : ((!(x.g == y.g)) || !(x.t.toList == y.t.toList)) = false) (ha : ¬ y.a < x.a) : joinE x y = (y, 0) := by
  rw [joinE_go hb hk]
  unfold clashB newerB
  rw [if_pos hv, if_pos hv, if_pos hv.symm, h]
  simp [ha]
theorem go_lt7 {x y : En} (hb : bad2 (bad x.k x.v x.a x.g x.t) (bad y.k y.v y.a y.g y.t) = 0) (hk : x.k = y.k) (hv : x.v < y.v) (ha : y.v ≤ x.a) : joinE x y = (⟨0, 0, 0, false, ⟨#[]⟩⟩, 7) := by
  rw [joinE_go hb hk]
  unfold clashB newerB
  have n1 : ¬ x.v = y.v := by omega
  have n2 : ¬ y.v = x.v := by omega
  have n3 : ¬ y.v < x.v := by omega
  simp only [n1, n2, n3, ha, if_false, decide_false, decide_true, Bool.false_eq_true, if_true]
theorem go_ltb {x y : En} (hb : bad2 (bad x.k x.v x.a x.g x.t) (bad y.k y.v y.a y.g y.t) = 0) (hk : x.k = y.k) (hv : x.v < y.v) (ha : ¬ y.v ≤ x.a) : joinE x y = (y, 0) := by
  rw [joinE_go hb hk]
  unfold clashB newerB
  have n1 : ¬ x.v = y.v := by omega
  have n2 : ¬ y.v = x.v := by omega
  have n3 : ¬ y.v < x.v := by omega
  simp only [n1, n2, n3, ha, if_false, decide_false, decide_true, Bool.false_eq_true, if_true]
theorem go_swap {x y : En} (hb : bad2 (bad x.k x.v x.a x.g x.t) (bad y.k y.v y.a y.g y.t) = 0) (hk : x.k = y.k) (hv : y.v < x.v) : joinE x y = joinE y x := by
  have hb' : bad2 (bad y.k y.v y.a y.g y.t) (bad x.k x.v x.a x.g x.t) = 0 := by
    unfold bad2 at *
    split at hb <;> simp_all
  by_cases ha : x.v ≤ y.a
  · rw [go_lt7 hb' hk.symm hv ha, joinE_go hb hk]
    unfold clashB newerB
    have n1 : ¬ x.v = y.v := by omega
    have n2 : ¬ y.v = x.v := by omega
    simp only [n1, n2, hv, ha, if_false, decide_false, decide_true, Bool.false_eq_true, if_true]
  · rw [go_ltb hb' hk.symm hv ha, joinE_go hb hk]
    unfold clashB newerB
    have n1 : ¬ x.v = y.v := by omega
    have n2 : ¬ y.v = x.v := by omega
    simp only [n1, n2, hv, ha, if_false, decide_false, decide_true, Bool.false_eq_true, if_true]
end Go.Proofs.YtpcnfoaoajfhlaaGreatDoor

namespace Go.Proofs.YtpcnfoaoajfhlaaGreatDoor
set_option linter.unusedVariables false
set_option linter.unusedSimpArgs false
open Go.RowKit

end Go.Proofs.YtpcnfoaoajfhlaaGreatDoor

namespace Go.Proofs.YtpcnfoaoajfhlaaGreatDoor
set_option linter.unusedVariables false
set_option linter.unusedSimpArgs false
open Go.RowKit

theorem getE_hit {l : List En} {key : Int} {j : Nat} (h : j < l.length) (hk : l[j].k = key) : getE (l.drop j) key = some l[j] := by
  rw [List.drop_eq_getElem_cons h]
  unfold getE
  rw [List.find?_cons_of_pos (by simpa using hk)]
theorem getE_miss {l : List En} {key : Int} {j : Nat} (h : j < l.length) (hk : ¬ l[j].k = key) : getE (l.drop j) key = getE (l.drop (j + 1)) key := by
  rw [List.drop_eq_getElem_cons h]
  unfold getE
  rw [List.find?_cons_of_neg (by simpa using hk)]
/-- what the document's Get answers -/
def hadE (o : Option En) : En := match o with | some x => x | none => ⟨0, 0, 0, false, ⟨#[]⟩⟩
set_option maxHeartbeats 4000000 in
theorem rGet_c (v : Value) (l : List En) (key : Int) (w : World) (hr : RowIs w v l) :
    Calls Tryz.prog 48 #[v, .int .i64 key] w fun e w' => e = .returned (.tuple #[(hadE (getE l key)).val, .bool (getE l key).isSome]) ∧ Below w.heap.size w w' := by
  obtain ⟨hlen, p, cap, rfl, hrow⟩ := hr
  have HRow : Hid (l ≠ [] → ∃ b o, p = some ⟨b, o, none⟩ ∧ b < w.heap.size ∧ ∀ j (h : j < l.length), EnAt w b (o + j * 5) l[j]) := hrow
  clear hrow
  obtain ⟨n, HN⟩ : ∃ n, Hid (l.length = n) := ⟨_, rfl⟩
  rw [HN.out] at hlen ⊢
  have hn63 : n ≤ 9223372036854775807 := hlen
  obtain ⟨R, HR⟩ : ∃ R, Hid (getE l key = R) := ⟨_, rfl⟩
  rw [HR.out]
  go_enter Tryz.func48, Tryz.ntmps48
  go_wp2_with fail
  go_loopw [6] (fun i wr => ∃ j : Nat, j ≤ n ∧ i = .int .i64 j ∧ Hid (R = getE (l.drop j) key) ∧ wr = w.alloc (.cells #[.int .i64 0, .int .i64 0, .int .i64 0, .bool false, .string ⟨#[]⟩] 46)) (fun i _ => n - (intOf i).toNat)
  case atStart => exact ⟨0, Nat.zero_le _, rfl, by rw [List.drop_zero]; exact HR.out.symm, rfl⟩
  case round =>
    obtain ⟨j, hj, rfl, HE, rfl⟩ := hrel
    by_cases hlt : j < n
    · have hjl : j < l.length := by rw [HN.out]; exact hlt
      obtain ⟨b, o, rfl, hbw, hat⟩ := HRow.out (fun h => by simp [h] at hjl)
      have HAt : Hid (EnAt (w.alloc (.cells #[.int .i64 0, .int .i64 0, .int .i64 0, .bool false, .string ⟨#[]⟩] 46)) b (o + j * 5) l[j]) := (hat j hjl).of_block (Below.heap_alloc _ _ _ hbw)
      clear hat
      have hlti : (j : Int) < (n : Int) := by omega
      obtain ⟨x, HX⟩ : ∃ x, Hid (l[j] = x) := ⟨l[j], show l[j] = l[j] from rfl⟩
      have HH : Hid (x.k = key → R = some x) := fun hk => by rw [HE.out, getE_hit hjl (by rw [HX.out]; exact hk), HX.out]
      have HMs : Hid (¬ x.k = key → R = getE (l.drop (j + 1)) key) := fun hk => by rw [HE.out, getE_miss hjl (by rw [HX.out]; exact hk)]
      rw [HX.out] at HAt
      obtain ⟨x0, x1, x2, x3, x4⟩ := x
      obtain ⟨c0, c1, c2, c3, c4⟩ := HAt.out
      dsimp only at c0 c1 c2 c3 c4
      have p1 : ¬ b = w.heap.size := by omega
      have p2 : ¬ w.heap.size = b := by omega
      by_cases hk : x0 = key
      · have hkb : (x0 == key) = true := by simp [hk]
        have HS : Hid (R = some ⟨x0, x1, x2, x3, x4⟩) := HH.out hk
        clear hk
        go_wp2_with fail
        refine bodyPost_ret (v := .tuple #[.agg #[.int .i64 x0, .int .i64 x1, .int .i64 x2, .bool x3, .string x4], .bool true]) (by simp [results, Tryz.results48, go_sem]) rfl ?_
        refine ⟨by rw [HS.out]; rfl, ?_⟩
        go_grown
      · have hkb : (x0 == key) = false := by simp [hk]
        have HS : Hid (R = getE (l.drop (j + 1)) key) := HMs.out hk
        clear hk
        go_wp2_with fail
        go_roundw
        case rel => exact ⟨j + 1, by omega, by go_num, HS, by first | rfl | trivial⟩
        case measure => simp [intOf]; omega
    · obtain rfl : j = n := by omega
      have HS : Hid (R = none) := by
        show R = none
        rw [HE.out, List.drop_eq_nil_of_le (by rw [HN.out]; exact Nat.le_refl _)]
        rfl
      go_wp2_with fail
      refine bodyPost_ret (v := .tuple #[.agg #[.int .i64 0, .int .i64 0, .int .i64 0, .bool false, .string ⟨#[]⟩], .bool false]) (by simp [results, Tryz.results48, go_sem]) rfl ?_
      refine ⟨by rw [HS.out]; rfl, ?_⟩
      go_grown
theorem rGet_none {l : List En} {key : Int} (h : getE l key = none) (v : Value) (w : World) (hr : RowIs w v l) :
    Calls Tryz.prog 48 #[v, .int .i64 key] w fun e w' => e = .returned (.tuple #[.agg #[.int .i64 0, .int .i64 0, .int .i64 0, .bool false, .string ⟨#[]⟩], .bool false]) ∧ Below w.heap.size w w' := by
  have c := rGet_c v l key w hr
  rw [h] at c
  exact c
theorem rGet_some {l : List En} {key x0 x1 x2 : Int} {x3 : Bool} {x4 : ByteArray} (h : getE l key = some ⟨x0, x1, x2, x3, x4⟩) (v : Value) (w : World) (hr : RowIs w v l) :
    Calls Tryz.prog 48 #[v, .int .i64 key] w fun e w' => e = .returned (.tuple #[.agg #[.int .i64 x0, .int .i64 x1, .int .i64 x2, .bool x3, .string x4], .bool true]) ∧ Below w.heap.size w w' := by
  have c := rGet_c v l key w hr
  rw [h] at c
  exact c
end Go.Proofs.YtpcnfoaoajfhlaaGreatDoor

namespace Go.Proofs.YtpcnfoaoajfhlaaGreatDoor
set_option linter.unusedVariables false
set_option linter.unusedSimpArgs false
open Go.RowKit
set_option maxHeartbeats 4000000 in
theorem rJoin_le (ka va aa : Int) (ga : Bool) (ta : ByteArray) (kb vb ab : Int) (gb : Bool) (tb : ByteArray) (w : World) (hb : bad2 (bad ka va aa ga ta) (bad kb vb ab gb tb) = 0) (hk : ka = kb) (hv : va ≤ vb) :
    Calls Tryz.prog 139 #[.agg #[.int .i64 ka, .int .i64 va, .int .i64 aa, .bool ga, .string ta], .agg #[.int .i64 kb, .int .i64 vb, .int .i64 ab, .bool gb, .string tb]] w fun e w' => e = .returned (.tuple #[(joinE ⟨ka, va, aa, ga, ta⟩ ⟨kb, vb, ab, gb, tb⟩).1.val, .int .i64 (joinE ⟨ka, va, aa, ga, ta⟩ ⟨kb, vb, ab, gb, tb⟩).2]) ∧ Below w.heap.size w w' := by
  obtain ⟨J, HE⟩ : ∃ J, Hid (joinE ⟨ka, va, aa, ga, ta⟩ ⟨kb, vb, ab, gb, tb⟩ = J) := ⟨_, rfl⟩
  rw [HE.out]
  have H : Hid (bad2 (bad ka va aa ga ta) (bad kb vb ab gb tb) = 0) := hb
  have HK : Hid (ka = kb) := hk
  clear hb hk
  by_cases he : va = vb
  · have he2 : (va == vb) = true := by simp [he]
    have HV : Hid (va = vb) := he
    clear he hv
    go_enter Tryz.func139, Tryz.ntmps139
    go_wp2_with fail
    · rename_i hg ht
      subst hg
      refine bodyPost_ret (v := .tuple #[.agg #[.int .i64 0, .int .i64 0, .int .i64 0, .bool false, .string ⟨#[]⟩], .int .i64 7]) (by simp [results, Tryz.results139, go_sem]) rfl ?_
      refine ⟨by rw [← HE.out, go_eq7 H.out HK.out HV.out (by simpa using ht)]; rfl, ?_⟩
      go_grown
    · have hg : ga = gb := by assumption
      have ht : (!ta.toList == tb.toList) = false := by assumption
      have ha : ab < aa := by assumption
      subst hg
      refine bodyPost_ret (v := .tuple #[.agg #[.int .i64 ka, .int .i64 va, .int .i64 aa, .bool ga, .string ta], .int .i64 0]) (by simp [results, Tryz.results139, go_sem]) rfl ?_
      refine ⟨by rw [← HE.out, go_eqa H.out HK.out HV.out (by simpa using ht) (by show ab < aa; omega)]; rfl, ?_⟩
      go_grown
    · have hg : ga = gb := by assumption
      have ht : (!ta.toList == tb.toList) = false := by assumption
      have ha : aa ≤ ab := by assumption
      subst hg
      refine bodyPost_ret (v := .tuple #[.agg #[.int .i64 kb, .int .i64 vb, .int .i64 ab, .bool ga, .string tb], .int .i64 0]) (by simp [results, Tryz.results139, go_sem]) rfl ?_
      refine ⟨by rw [← HE.out, go_eqb H.out HK.out HV.out (by simpa using ht) (by show ¬ ab < aa; omega)]; rfl, ?_⟩
      go_grown
    · rename_i hg
      refine bodyPost_ret (v := .tuple #[.agg #[.int .i64 0, .int .i64 0, .int .i64 0, .bool false, .string ⟨#[]⟩], .int .i64 7]) (by simp [results, Tryz.results139, go_sem]) rfl ?_
      refine ⟨by rw [← HE.out, go_eq7 H.out HK.out HV.out (by simp [hg])]; rfl, ?_⟩
      go_grown
  · have hl : va < vb := by omega
    have he2 : (va == vb) = false := by simp [he]
    have HV : Hid (va < vb) := hl
    have hn : ¬ vb < va := by omega
    by_cases ha : vb ≤ aa
    · go_enter Tryz.func139, Tryz.ntmps139
      go_wp2_with fail
      refine bodyPost_ret (v := .tuple #[.agg #[.int .i64 0, .int .i64 0, .int .i64 0, .bool false, .string ⟨#[]⟩], .int .i64 7]) (by simp [results, Tryz.results139, go_sem]) rfl ?_
      refine ⟨by rw [← HE.out, go_lt7 H.out HK.out HV.out ha]; rfl, ?_⟩
      go_grown
    · go_enter Tryz.func139, Tryz.ntmps139
      go_wp2_with fail
      refine bodyPost_ret (v := .tuple #[.agg #[.int .i64 kb, .int .i64 vb, .int .i64 ab, .bool gb, .string tb], .int .i64 0]) (by simp [results, Tryz.results139, go_sem]) rfl ?_
      refine ⟨by rw [← HE.out, go_ltb H.out HK.out HV.out (by show ¬ vb ≤ aa; omega)]; rfl, ?_⟩
      go_grown
theorem bad2_swap {m n : Int} (h : bad2 m n = 0) : bad2 n m = 0 := by
  unfold bad2 at *
  split at h <;> simp_all
set_option maxHeartbeats 4000000 in
theorem rJoin_c (ka va aa : Int) (ga : Bool) (ta : ByteArray) (kb vb ab : Int) (gb : Bool) (tb : ByteArray) (w : World) (hb : bad2 (bad ka va aa ga ta) (bad kb vb ab gb tb) = 0) (hk : ka = kb) :
    Calls Tryz.prog 139 #[.agg #[.int .i64 ka, .int .i64 va, .int .i64 aa, .bool ga, .string ta], .agg #[.int .i64 kb, .int .i64 vb, .int .i64 ab, .bool gb, .string tb]] w fun e w' => e = .returned (.tuple #[(joinE ⟨ka, va, aa, ga, ta⟩ ⟨kb, vb, ab, gb, tb⟩).1.val, .int .i64 (joinE ⟨ka, va, aa, ga, ta⟩ ⟨kb, vb, ab, gb, tb⟩).2]) ∧ Below w.heap.size w w' := by
  by_cases hv : va ≤ vb
  · exact rJoin_le ka va aa ga ta kb vb ab gb tb w hb hk hv
  have hl : vb < va := by omega
  have he2 : (va == vb) = false := by simp; omega
  rw [go_swap (x := ⟨ka, va, aa, ga, ta⟩) (y := ⟨kb, vb, ab, gb, tb⟩) hb hk hl]
  have H : Hid (bad2 (bad ka va aa ga ta) (bad kb vb ab gb tb) = 0) := hb
  have HK : Hid (ka = kb) := hk
  obtain ⟨jk, jv, ja, jg, jt, n, HE⟩ : ∃ jk jv ja jg jt n, Hid (joinE ⟨kb, vb, ab, gb, tb⟩ ⟨ka, va, aa, ga, ta⟩ = (⟨jk, jv, ja, jg, jt⟩, n)) := ⟨_, _, _, _, _, _, rfl⟩
  clear hb hk hv
  rw [HE.out]
  go_enter Tryz.func139, Tryz.ntmps139
  go_wp2_with fail
  refine (rJoin_le kb vb ab gb tb ka va aa ga ta _ (bad2_swap H.out) HK.out.symm (by omega)).mono ?_
  rintro e w1 ⟨rfl, hb⟩
  rw [HE.out]
  have B1 : Hid (Below w.heap.size w w1) := Below.trans (by go_grown) (hb.mono (by simp; omega))
  obtain ⟨e0, e1, e2, e3, e4, ef⟩ := (box_new _ 0 0 0 false ⟨#[]⟩ (w.heap.size + 1 + 1) (by simp)).below hb (by simp)
  clear hb
  simp only [En.val]
  go_wp2_with fail
  refine bodyPost_ret (v := .tuple #[.agg #[.int .i64 jk, .int .i64 jv, .int .i64 ja, .bool jg, .string jt], .int .i64 n]) (by simp [results, Tryz.results139, go_sem, e0, e1, e2, e3, e4]) rfl ?_
  refine ⟨rfl, ?_⟩
  have hb := B1.out
  go_grown
end Go.Proofs.YtpcnfoaoajfhlaaGreatDoor

namespace Go.Proofs.YtpcnfoaoajfhlaaGreatDoor
set_option linter.unusedVariables false
set_option linter.unusedSimpArgs false
open Go.RowKit

/-- what is there behind j entries: m are less, d are left out -/
def outE (l : List En) (m d : Nat) (e : En) (j : Nat) : List En := if j ≤ m then l.take j else l.take m ++ e :: (l.take j).drop (m + d)
theorem outE_zero (l : List En) (m d : Nat) (e : En) : outE l m d e 0 = [] := by simp [outE]
theorem outE_less {l : List En} {m d j : Nat} {e : En} (h : j < m) (hj : j < l.length) : outE l m d e (j + 1) = outE l m d e j ++ [l[j]] := by
  rw [outE, if_pos (by omega), outE, if_pos (by omega), List.take_succ_eq_append_getElem hj]
theorem outE_at0 {l : List En} {m : Nat} {e : En} (hj : m < l.length) : outE l m 0 e (m + 1) = (outE l m 0 e m ++ [e]) ++ [l[m]] := by
  rw [outE, if_neg (by omega), outE, if_pos (by omega), List.take_succ_eq_append_getElem hj, Nat.add_zero, List.drop_append_of_le_length (by simp; omega), List.drop_take]
  simp
theorem outE_at1 {l : List En} {m : Nat} {e : En} (hj : m < l.length) : outE l m 1 e (m + 1) = outE l m 1 e m ++ [e] := by
  rw [outE, if_neg (by omega), outE, if_pos (by omega), List.drop_take]
  simp
theorem outE_more {l : List En} {m d j : Nat} {e : En} (h : m < j) (hd : d ≤ 1) (hj : j < l.length) : outE l m d e (j + 1) = outE l m d e j ++ [l[j]] := by
  rw [outE, if_neg (by omega), outE, if_neg (by omega), List.take_succ_eq_append_getElem hj, List.drop_append_of_le_length (by simp; omega)]
  simp
theorem outE_len {l : List En} {m d j : Nat} {e : En} (h8 : l.length ≤ 8) : (outE l m d e j).length ≤ 20 := by
  unfold outE
  split
  · simp; omega
  · simp; omega
theorem outE_end {l : List En} {m d : Nat} {e : En} (hm : m < l.length) : outE l m d e l.length = l.take m ++ e :: l.drop (m + d) := by
  rw [outE, if_neg (by omega), List.take_length]
theorem outE_all {l : List En} {m d : Nat} {e : En} (hm : m = l.length) : outE l m d e l.length = l := by
  rw [outE, if_pos (by omega), List.take_length]
end Go.Proofs.YtpcnfoaoajfhlaaGreatDoor

namespace Go.Proofs.YtpcnfoaoajfhlaaGreatDoor
set_option linter.unusedVariables false
set_option linter.unusedSimpArgs false
open Go.RowKit

/-- a text cut at each byte c -/
def cutL (c : UInt8) : List UInt8 → List (List UInt8)
  | [] => [[]]
  | x :: s => if x = c then [] :: cutL c s else match cutL c s with
    | [] => [[x]]
    | w :: ws => (x :: w) :: ws
theorem cutL_ne (c : UInt8) (s : List UInt8) : cutL c s ≠ [] := by
  cases s with
  | nil => simp [cutL]
  | cons x s =>
    unfold cutL
    split
    · simp
    · split <;> simp
theorem cutL_hit (c : UInt8) : ∀ {s : List UInt8} {i : Nat}, s[i]? = some c → (∀ k, k < i → s[k]? ≠ some c) → cutL c s = s.take i :: cutL c (s.drop (i + 1))
  | [], i, h, _ => by simp at h
  | x :: s, 0, h, _ => by
    have : x = c := by simpa using h
    simp [cutL, this]
  | x :: s, i + 1, h, hn => by
    have h0 : x ≠ c := by simpa using hn 0 (by omega)
    have ih := cutL_hit c (s := s) (i := i) (by simpa using h) (fun k hk => by simpa using hn (k + 1) (by omega))
    simp [cutL, h0, ih]
theorem cutL_miss (c : UInt8) : ∀ {s : List UInt8}, (∀ k : Nat, s[k]? ≠ some c) → cutL c s = [s]
  | [], _ => rfl
  | x :: s, hn => by
    have h0 : x ≠ c := by simpa using hn 0
    have ih := cutL_miss c (s := s) (fun k => by simpa using hn (k + 1))
    simp [cutL, h0, ih]
theorem indexB_one (s : ByteArray) (c : UInt8) : Lib.indexB s ⟨#[c]⟩ = Lib.indexByte s.data.toList c := Lib.index_one s.data.toList c
theorem extract_dropL (s : ByteArray) (i : Nat) : (s.extract i s.size).data.toList = s.data.toList.drop i := by
  rw [Lib.extract_eq]
  have h : List.take (s.size - i) (List.drop i s.data.toList) = List.drop i s.data.toList :=
    List.take_of_length_le (by rw [List.length_drop, ← Lib.size_eq]; exact Nat.le_refl _)
  simp [h]
theorem extract_takeL (s : ByteArray) (i : Nat) : (s.extract 0 i).data.toList = s.data.toList.take i := by
  rw [Lib.extract_eq]
  simp
/-- what strings.Split answers at one byte -/
theorem splitB_cutL (c : UInt8) : ∀ (k : Nat) (s : ByteArray), Lib.countB s ⟨#[c]⟩ = k → (Lib.splitB ⟨#[c]⟩ 0 k s).map (fun b => b.data.toList) = cutL c s.data.toList
  | 0, s, hk => by
    rcases Lib.indexB_cases s ⟨#[c]⟩ with h | ⟨i, h, _⟩
    · rw [Lib.splitB_zero, cutL_miss c (Lib.indexByte_none (by rw [← indexB_one]; exact h))]
      rfl
    · have := Lib.countB_hit s ⟨#[c]⟩ i (Nat.le_refl 1) h
      omega
  | k + 1, s, hk => by
    rcases Lib.indexB_cases s ⟨#[c]⟩ with h | ⟨i, h, _⟩
    · have := Lib.countB_miss s ⟨#[c]⟩ h
      omega
    · have hc := Lib.countB_hit s ⟨#[c]⟩ i (Nat.le_refl 1) h
      have e1 : (⟨#[c]⟩ : ByteArray).size = 1 := rfl
      rw [e1] at hc
      have ih := splitB_cutL c k (s.extract (i + 1) s.size) (by omega)
      obtain ⟨h1, h2⟩ := Lib.indexByte_some (l := s.data.toList) (c := c) (o := i) (by rw [← indexB_one]; exact h)
      rw [Lib.splitB_hit _ _ _ _ i h, e1, List.map_cons, ih, cutL_hit c h1 h2, extract_dropL, Nat.add_zero, extract_takeL]
/-- the lines of a text: where nothing is left behind a byte 10, there is no line -/
def linesL (t : List UInt8) : List (List UInt8) := if (cutL 10 t).getLast? = some [] then (cutL 10 t).dropLast else cutL 10 t
theorem linesL_nil : linesL [] = [] := rfl
theorem linesL_hit {t : List UInt8} {i : Nat} (h : t[i]? = some 10) (hn : ∀ k, k < i → t[k]? ≠ some 10) : linesL t = t.take i :: linesL (t.drop (i + 1)) := by
  unfold linesL
  rw [cutL_hit 10 h hn]
  obtain ⟨a, b, e⟩ : ∃ a b, cutL 10 (t.drop (i + 1)) = a :: b := by
    cases hq : cutL 10 (t.drop (i + 1)) with
    | nil => exact absurd hq (cutL_ne _ _)
    | cons a b => exact ⟨a, b, rfl⟩
  rw [e, List.getLast?_cons_cons]
  by_cases hl : (a :: b).getLast? = some []
  · rw [if_pos hl, if_pos hl, List.dropLast_cons_of_ne_nil (by simp)]
  · rw [if_neg hl, if_neg hl]
theorem linesL_miss {t : List UInt8} (h0 : t ≠ []) (hn : ∀ k : Nat, t[k]? ≠ some 10) : linesL t = [t] := by
  unfold linesL
  rw [cutL_miss 10 hn, if_neg (by simpa using h0)]
/-- one line, and what is left, as strings.Cut tells them -/
theorem linesL_cut (s : ByteArray) (h0 : s.data.toList ≠ []) : linesL s.data.toList = (Lib.cut s.data.toList [10]).1 :: linesL (Lib.cut s.data.toList [10]).2.1 := by
  rcases Lib.indexB_cases s ⟨#[10]⟩ with h | ⟨i, h, _⟩
  · have h' : Lib.index s.data.toList [10] = -1 := h
    rw [linesL_miss h0 (Lib.indexByte_none (by rw [← indexB_one]; exact h)), Lib.cut, h', if_neg (by omega)]
    rfl
  · have h' : Lib.index s.data.toList [10] = i := h
    obtain ⟨h1, h2⟩ := Lib.indexByte_some (l := s.data.toList) (c := 10) (o := i) (by rw [← indexB_one]; exact h)
    rw [linesL_hit h1 h2, Lib.cut, h', if_pos (by omega)]
    simp
theorem linesL_less (s : ByteArray) (h0 : s.data.toList ≠ []) : (Lib.cut s.data.toList [10]).2.1.length < s.data.toList.length := by
  have hp : 0 < s.data.toList.length := List.length_pos_iff.2 h0
  rcases Lib.indexB_cases s ⟨#[10]⟩ with h | ⟨i, h, _⟩
  · have h' : Lib.index s.data.toList [10] = -1 := h
    rw [Lib.cut, h', if_neg (by omega)]
    simpa using hp
  · have h' : Lib.index s.data.toList [10] = i := h
    rw [Lib.cut, h', if_pos (by omega)]
    have h2 : (List.drop (i + 1) s.data.toList).length < s.data.toList.length := by rw [List.length_drop]; omega
    exact h2
/-- a number of at most four digits, without a needless 0 -/
def digitB (x : UInt8) : Bool := decide (48 ≤ x.toNat) && decide (x.toNat ≤ 57)
def stepD (n : Nat) (x : UInt8) : Nat := 10 * n + (x.toNat - 48)
def numL (w : List UInt8) : Option Nat :=
  if w = [] ∨ 4 < w.length ∨ (w.head? = some 48 ∧ 1 < w.length) then none else if w.all digitB = true then some (w.foldl stepD 0) else none
theorem digit_le {x : UInt8} (h : digitB x = true) : x.toNat - 48 ≤ 9 := by
  simp [digitB] at h
  omega
theorem foldD_le : ∀ {w : List UInt8} {n : Nat}, (∀ x ∈ w, digitB x = true) → w.foldl stepD n < 10 ^ w.length * (n + 1)
  | [], n, _ => by simp
  | x :: w, n, h => by
    have h1 := digit_le (h x (by simp))
    have ih := foldD_le (w := w) (n := stepD n x) (fun y hy => h y (by simp [hy]))
    have e : (x :: w).foldl stepD n = w.foldl stepD (stepD n x) := rfl
    rw [e]
    refine Nat.lt_of_lt_of_le ih ?_
    rw [List.length_cons, Nat.pow_succ, Nat.mul_assoc]
    refine Nat.mul_le_mul_left _ ?_
    unfold stepD
    omega
theorem numL_le {w : List UInt8} {n : Nat} (h : numL w = some n) : n < 10000 := by
  unfold numL at h
  split at h
  · cases h
  · rename_i h1
    split at h
    · rename_i h2
      have h3 := foldD_le (w := w) (n := 0) (by simpa using h2)
      obtain rfl := Option.some.inj h
      have hl : w.length ≤ 4 := by omega
      have hp : 10 ^ w.length ≤ 10 ^ 4 := Nat.pow_le_pow_right (by omega) hl
      omega
    · cases h
end Go.Proofs.YtpcnfoaoajfhlaaGreatDoor
