/-
  The document's caches (mereref1.Cache, Get) by their contracts.
  The document's Get of a cache (mereref1.Get) by its contract.
  mereref1.Join by its contract.
  What the document's Add builds, row by row; an entry appended to a row of the call's own.
-/
import Derived.Test.YtpcnfoaoajfhlaaGreatDoorRaae
import Derived.Test.YtpcnfoaoajfhlaaGreatDoorRabf
import Derived.BigRegion
import Derived.BigQuiet
import Derived.Test.YtpcnfoaoajfhlaaGreatDoorRaag
namespace Go.Proofs.YtpcnfoaoajfhlaaGreatDoor
set_option linter.unusedVariables false
set_option linter.unusedSimpArgs false
set_option linter.unusedVariables false
set_option linter.unusedSimpArgs false
open Go.RowKit

end Go.Proofs.YtpcnfoaoajfhlaaGreatDoor

namespace Go.Proofs.YtpcnfoaoajfhlaaGreatDoor
set_option linter.unusedVariables false
set_option linter.unusedSimpArgs false
open Go.RowKit

theorem getE_hit {l : List En} {key : Int} {j : Nat} (h : j < l.length) (hk : l[j].k = key) : getE (l.drop j) key = some l[j] := by
  rw [List.drop_eq_getElem_cons h]
  unfold getE
  rw [List.find?_cons_of_pos (by simpa using hk)]
theorem getE_miss {l : List En} {key : Int} {j : Nat} (h : j < l.length) (hk : ¬ l[j].k = key) : getE (l.drop j) key = getE (l.drop (j + 1)) key := by
  rw [List.drop_eq_getElem_cons h]
  unfold getE
  rw [List.find?_cons_of_neg (by simpa using hk)]
/-- what the document's Get answers -/
def hadE (o : Option En) : En := match o with | some x => x | none => ⟨0, 0, 0, false, ⟨#[]⟩⟩
set_option maxHeartbeats 4000000 in
theorem rGet_c (v : Value) (l : List En) (key : Int) (w : World) (hr : RowIs w v l) :
    Calls Tryz.prog 48 #[v, .int .i64 key] w fun e w' => e = .returned (.tuple #[(hadE (getE l key)).val, .bool (getE l key).isSome]) ∧ Below w.heap.size w w' := by
  obtain ⟨hlen, p, cap, rfl, hrow⟩ := hr
  have HRow : Hid (l ≠ [] → ∃ b o, p = some ⟨b, o, none⟩ ∧ b < w.heap.size ∧ ∀ j (h : j < l.length), EnAt w b (o + j * 5) l[j]) := hrow
  clear hrow
  obtain ⟨n, HN⟩ : ∃ n, Hid (l.length = n) := ⟨_, rfl⟩
  rw [HN.out] at hlen ⊢
  have hn63 : n ≤ 9223372036854775807 := hlen
  obtain ⟨R, HR⟩ : ∃ R, Hid (getE l key = R) := ⟨_, rfl⟩
  rw [HR.out]
  go_enter Tryz.func48, Tryz.ntmps48
  go_wp2_with fail
  go_loopw [6] (fun i wr => ∃ j : Nat, j ≤ n ∧ i = .int .i64 j ∧ Hid (R = getE (l.drop j) key) ∧ wr = w.alloc (.cells #[.int .i64 0, .int .i64 0, .int .i64 0, .bool false, .string ⟨#[]⟩] 46)) (fun i _ => n - (intOf i).toNat)
  case atStart => exact ⟨0, Nat.zero_le _, rfl, by rw [List.drop_zero]; exact HR.out.symm, rfl⟩
  case round =>
    obtain ⟨j, hj, rfl, HE, rfl⟩ := hrel
    by_cases hlt : j < n
    · have hjl : j < l.length := by rw [HN.out]; exact hlt
      obtain ⟨b, o, rfl, hbw, hat⟩ := HRow.out (fun h => by simp [h] at hjl)
      have HAt : Hid (EnAt (w.alloc (.cells #[.int .i64 0, .int .i64 0, .int .i64 0, .bool false, .string ⟨#[]⟩] 46)) b (o + j * 5) l[j]) := (hat j hjl).of_block (Below.heap_alloc _ _ _ hbw)
      clear hat
      have hlti : (j : Int) < (n : Int) := by omega
      obtain ⟨x, HX⟩ : ∃ x, Hid (l[j] = x) := ⟨l[j], show l[j] = l[j] from rfl⟩
      have HH : Hid (x.k = key → R = some x) := fun hk => by rw [HE.out, getE_hit hjl (by rw [HX.out]; exact hk), HX.out]
      have HMs : Hid (¬ x.k = key → R = getE (l.drop (j + 1)) key) := fun hk => by rw [HE.out, getE_miss hjl (by rw [HX.out]; exact hk)]
      rw [HX.out] at HAt
      obtain ⟨x0, x1, x2, x3, x4⟩ := x
      obtain ⟨c0, c1, c2, c3, c4⟩ := HAt.out
      dsimp only at c0 c1 c2 c3 c4
      have p1 : ¬ b = w.heap.size := by omega
      have p2 : ¬ w.heap.size = b := by omega
      by_cases hk : x0 = key
      · have hkb : (x0 == key) = true := by simp [hk]
        have HS : Hid (R = some ⟨x0, x1, x2, x3, x4⟩) := HH.out hk
        clear hk
        go_wp2_with fail
        refine bodyPost_ret (v := .tuple #[.agg #[.int .i64 x0, .int .i64 x1, .int .i64 x2, .bool x3, .string x4], .bool true]) (by simp [results, Tryz.results48, go_sem]) rfl ?_
        refine ⟨by rw [HS.out]; rfl, ?_⟩
        go_grown
      · have hkb : (x0 == key) = false := by simp [hk]
        have HS : Hid (R = getE (l.drop (j + 1)) key) := HMs.out hk
        clear hk
        go_wp2_with fail
        go_roundw
        case rel => exact ⟨j + 1, by omega, by go_num, HS, by first | rfl | trivial⟩
        case measure => simp [intOf]; omega
    · obtain rfl : j = n := by omega
      have HS : Hid (R = none) := by
        show R = none
        rw [HE.out, List.drop_eq_nil_of_le (by rw [HN.out]; exact Nat.le_refl _)]
        rfl
      go_wp2_with fail
      refine bodyPost_ret (v := .tuple #[.agg #[.int .i64 0, .int .i64 0, .int .i64 0, .bool false, .string ⟨#[]⟩], .bool false]) (by simp [results, Tryz.results48, go_sem]) rfl ?_
      refine ⟨by rw [HS.out]; rfl, ?_⟩
      go_grown
theorem rGet_none {l : List En} {key : Int} (h : getE l key = none) (v : Value) (w : World) (hr : RowIs w v l) :
    Calls Tryz.prog 48 #[v, .int .i64 key] w fun e w' => e = .returned (.tuple #[.agg #[.int .i64 0, .int .i64 0, .int .i64 0, .bool false, .string ⟨#[]⟩], .bool false]) ∧ Below w.heap.size w w' := by
  have c := rGet_c v l key w hr
  rw [h] at c
  exact c
theorem rGet_some {l : List En} {key x0 x1 x2 : Int} {x3 : Bool} {x4 : ByteArray} (h : getE l key = some ⟨x0, x1, x2, x3, x4⟩) (v : Value) (w : World) (hr : RowIs w v l) :
    Calls Tryz.prog 48 #[v, .int .i64 key] w fun e w' => e = .returned (.tuple #[.agg #[.int .i64 x0, .int .i64 x1, .int .i64 x2, .bool x3, .string x4], .bool true]) ∧ Below w.heap.size w w' := by
  have c := rGet_c v l key w hr
  rw [h] at c
  exact c
end Go.Proofs.YtpcnfoaoajfhlaaGreatDoor

namespace Go.Proofs.YtpcnfoaoajfhlaaGreatDoor
set_option linter.unusedVariables false
set_option linter.unusedSimpArgs false
open Go.RowKit
set_option maxHeartbeats 4000000 in
theorem rJoin_le (ka va aa : Int) (ga : Bool) (ta : ByteArray) (kb vb ab : Int) (gb : Bool) (tb : ByteArray) (w : World) (hb : bad2 (bad ka va aa ga ta) (bad kb vb ab gb tb) = 0) (hk : ka = kb) (hv : va ≤ vb) :
    Calls Tryz.prog 139 #[.agg #[.int .i64 ka, .int .i64 va, .int .i64 aa, .bool ga, .string ta], .agg #[.int .i64 kb, .int .i64 vb, .int .i64 ab, .bool gb, .string tb]] w fun e w' => e = .returned (.tuple #[(joinE ⟨ka, va, aa, ga, ta⟩ ⟨kb, vb, ab, gb, tb⟩).1.val, .int .i64 (joinE ⟨ka, va, aa, ga, ta⟩ ⟨kb, vb, ab, gb, tb⟩).2]) ∧ Below w.heap.size w w' := by
  obtain ⟨J, HE⟩ : ∃ J, Hid (joinE ⟨ka, va, aa, ga, ta⟩ ⟨kb, vb, ab, gb, tb⟩ = J) := ⟨_, rfl⟩
  rw [HE.out]
  have H : Hid (bad2 (bad ka va aa ga ta) (bad kb vb ab gb tb) = 0) := hb
  have HK : Hid (ka = kb) := hk
  clear hb hk
  by_cases he : va = vb
  · have he2 : (va == vb) = true := by simp [he]
    have HV : Hid (va = vb) := he
    clear he hv
    go_enter Tryz.func139, Tryz.ntmps139
    go_wp2_with fail
    · rename_i hg ht
      subst hg
      refine bodyPost_ret (v := .tuple #[.agg #[.int .i64 0, .int .i64 0, .int .i64 0, .bool false, .string ⟨#[]⟩], .int .i64 7]) (by simp [results, Tryz.results139, go_sem]) rfl ?_
      refine ⟨by rw [← HE.out, go_eq7 H.out HK.out HV.out (by simpa using ht)]; rfl, ?_⟩
      go_grown
    · have hg : ga = gb := by assumption
      have ht : (!ta.toList == tb.toList) = false := by assumption
      have ha : ab < aa := by assumption
      subst hg
      refine bodyPost_ret (v := .tuple #[.agg #[.int .i64 ka, .int .i64 va, .int .i64 aa, .bool ga, .string ta], .int .i64 0]) (by simp [results, Tryz.results139, go_sem]) rfl ?_
      refine ⟨by rw [← HE.out, go_eqa H.out HK.out HV.out (by simpa using ht) (by show ab < aa; omega)]; rfl, ?_⟩
      go_grown
    · have hg : ga = gb := by assumption
      have ht : (!ta.toList == tb.toList) = false := by assumption
      have ha : aa ≤ ab := by assumption
      subst hg
      refine bodyPost_ret (v := .tuple #[.agg #[.int .i64 kb, .int .i64 vb, .int .i64 ab, .bool ga, .string tb], .int .i64 0]) (by simp [results, Tryz.results139, go_sem]) rfl ?_
      refine ⟨by rw [← HE.out, go_eqb H.out HK.out HV.out (by simpa using ht) (by show ¬ ab < aa; omega)]; rfl, ?_⟩
      go_grown
    · rename_i hg
      refine bodyPost_ret (v := .tuple #[.agg #[.int .i64 0, .int .i64 0, .int .i64 0, .bool false, .string ⟨#[]⟩], .int .i64 7]) (by simp [results, Tryz.results139, go_sem]) rfl ?_
      refine ⟨by rw [← HE.out, go_eq7 H.out HK.out HV.out (by simp [hg])]; rfl, ?_⟩
      go_grown
  · have hl : va < vb := by omega
    have he2 : (va == vb) = false := by simp [he]
    have HV : Hid (va < vb) := hl
    have hn : ¬ vb < va := by omega
    by_cases ha : vb ≤ aa
    · go_enter Tryz.func139, Tryz.ntmps139
      go_wp2_with fail
      refine bodyPost_ret (v := .tuple #[.agg #[.int .i64 0, .int .i64 0, .int .i64 0, .bool false, .string ⟨#[]⟩], .int .i64 7]) (by simp [results, Tryz.results139, go_sem]) rfl ?_
      refine ⟨by rw [← HE.out, go_lt7 H.out HK.out HV.out ha]; rfl, ?_⟩
      go_grown
    · go_enter Tryz.func139, Tryz.ntmps139
      go_wp2_with fail
      refine bodyPost_ret (v := .tuple #[.agg #[.int .i64 kb, .int .i64 vb, .int .i64 ab, .bool gb, .string tb], .int .i64 0]) (by simp [results, Tryz.results139, go_sem]) rfl ?_
      refine ⟨by rw [← HE.out, go_ltb H.out HK.out HV.out (by show ¬ vb ≤ aa; omega)]; rfl, ?_⟩
      go_grown
theorem bad2_swap {m n : Int} (h : bad2 m n = 0) : bad2 n m = 0 := by
  unfold bad2 at *
  split at h <;> simp_all
set_option maxHeartbeats 4000000 in
theorem rJoin_c (ka va aa : Int) (ga : Bool) (ta : ByteArray) (kb vb ab : Int) (gb : Bool) (tb : ByteArray) (w : World) (hb : bad2 (bad ka va aa ga ta) (bad kb vb ab gb tb) = 0) (hk : ka = kb) :
    Calls Tryz.prog 139 #[.agg #[.int .i64 ka, .int .i64 va, .int .i64 aa, .bool ga, .string ta], .agg #[.int .i64 kb, .int .i64 vb, .int .i64 ab, .bool gb, .string tb]] w fun e w' => e = .returned (.tuple #[(joinE ⟨ka, va, aa, ga, ta⟩ ⟨kb, vb, ab, gb, tb⟩).1.val, .int .i64 (joinE ⟨ka, va, aa, ga, ta⟩ ⟨kb, vb, ab, gb, tb⟩).2]) ∧ Below w.heap.size w w' := by
  by_cases hv : va ≤ vb
  · exact rJoin_le ka va aa ga ta kb vb ab gb tb w hb hk hv
  have hl : vb < va := by omega
  have he2 : (va == vb) = false := by simp; omega
  rw [go_swap (x := ⟨ka, va, aa, ga, ta⟩) (y := ⟨kb, vb, ab, gb, tb⟩) hb hk hl]
  have H : Hid (bad2 (bad ka va aa ga ta) (bad kb vb ab gb tb) = 0) := hb
  have HK : Hid (ka = kb) := hk
  obtain ⟨jk, jv, ja, jg, jt, n, HE⟩ : ∃ jk jv ja jg jt n, Hid (joinE ⟨kb, vb, ab, gb, tb⟩ ⟨ka, va, aa, ga, ta⟩ = (⟨jk, jv, ja, jg, jt⟩, n)) := ⟨_, _, _, _, _, _, rfl⟩
  clear hb hk hv
  rw [HE.out]
  go_enter Tryz.func139, Tryz.ntmps139
  go_wp2_with fail
  refine (rJoin_le kb vb ab gb tb ka va aa ga ta _ (bad2_swap H.out) HK.out.symm (by omega)).mono ?_
  rintro e w1 ⟨rfl, hb⟩
  rw [HE.out]
  have B1 : Hid (Below w.heap.size w w1) := Below.trans (by go_grown) (hb.mono (by simp; omega))
  obtain ⟨e0, e1, e2, e3, e4, ef⟩ := (box_new _ 0 0 0 false ⟨#[]⟩ (w.heap.size + 1 + 1) (by simp)).below hb (by simp)
  clear hb
  simp only [En.val]
  go_wp2_with fail
  refine bodyPost_ret (v := .tuple #[.agg #[.int .i64 jk, .int .i64 jv, .int .i64 ja, .bool jg, .string jt], .int .i64 n]) (by simp [results, Tryz.results139, go_sem, e0, e1, e2, e3, e4]) rfl ?_
  refine ⟨rfl, ?_⟩
  have hb := B1.out
  go_grown
end Go.Proofs.YtpcnfoaoajfhlaaGreatDoor

namespace Go.Proofs.YtpcnfoaoajfhlaaGreatDoor
set_option linter.unusedVariables false
set_option linter.unusedSimpArgs false
open Go.RowKit

/-- a row of the call's own that holds entries and one more -/
def OwnedMore (B : Nat) (w : World) (v : Value) (out : List En) (e : En) : Prop := w.ownsRow B 46 5 v (out ++ [e]).length (rowC (out ++ [e]))
theorem wp_app {ops : Array Oper} {rest : List Oper} {o : Oper} {ac : Act} {Q : Exit → Act → World → Prop} (w : World) (hgd : o.guard = none) (s x : Operand)
    (ho : o.op = .call { callee := .builtin .append, args := #[s, x], argTypes := #[32, 32] }) (B : Nat) (v : Value) (out : List En) (e : En) (hs : ac.eval s = v)
    (hown : w.ownsRow B 46 5 v out.length (rowC out)) (vb : Nat) (hx : ac.eval x = .slice (some ⟨vb, 0, none⟩) 1 1) (hv : w.heap[vb]? = some (.cells e.cells.toArray 46 (0, 0))) (hl : out.length ≤ 100) (hB : B ≤ w.heap.size)
    (h : ∀ v' w', OwnedMore B w' v' out e → Hid (w.grownBy w' v.ownBlock) → wpList Tryz.prog ops Q rest (ac.put o.dst v') w') : wpList Tryz.prog ops Q (o :: rest) ac w := by
  obtain ⟨i0, hi0, hz0, hz1, hz2⟩ := info_parts infoEn
  have q3 : ∀ (u : Value), u ∈ e.cells → u.oneCell' = true := fun u hu => rowC_one [e] u (by simpa [rowC] using hu)
  refine wpList_append_own w hgd s x 32 ho B 46 i0 _ 5 48 Tryz.underlying32 hi0 hz0 hz1 hz2 rfl (by omega) v out.length (rowC out) hs hown ⟨vb, 0, none⟩ 1 1 e.cells hx rfl (World.news_of_block hv) q3 (by unfold maxLen; omega) (by omega) hB ?_
  intro v' w' h1 h2 _
  refine h v' w' (show World.ownsRow _ _ _ _ _ _ _ from ?_) h2
  have hr : rowC (out ++ [e]) = rowC out ++ e.cells := by rw [rowC_append]; simp [rowC]
  rw [hr, List.length_append]
  exact h1

/-- what is there behind j entries: m are less, d are left out -/
def outE (l : List En) (m d : Nat) (e : En) (j : Nat) : List En := if j ≤ m then l.take j else l.take m ++ e :: (l.take j).drop (m + d)
theorem outE_zero (l : List En) (m d : Nat) (e : En) : outE l m d e 0 = [] := by simp [outE]
theorem outE_less {l : List En} {m d j : Nat} {e : En} (h : j < m) (hj : j < l.length) : outE l m d e (j + 1) = outE l m d e j ++ [l[j]] := by
  rw [outE, if_pos (by omega), outE, if_pos (by omega), List.take_succ_eq_append_getElem hj]
theorem outE_at0 {l : List En} {m : Nat} {e : En} (hj : m < l.length) : outE l m 0 e (m + 1) = (outE l m 0 e m ++ [e]) ++ [l[m]] := by
  rw [outE, if_neg (by omega), outE, if_pos (by omega), List.take_succ_eq_append_getElem hj, Nat.add_zero, List.drop_append_of_le_length (by simp; omega), List.drop_take]
  simp
theorem outE_at1 {l : List En} {m : Nat} {e : En} (hj : m < l.length) : outE l m 1 e (m + 1) = outE l m 1 e m ++ [e] := by
  rw [outE, if_neg (by omega), outE, if_pos (by omega), List.drop_take]
  simp
theorem outE_more {l : List En} {m d j : Nat} {e : En} (h : m < j) (hd : d ≤ 1) (hj : j < l.length) : outE l m d e (j + 1) = outE l m d e j ++ [l[j]] := by
  rw [outE, if_neg (by omega), outE, if_neg (by omega), List.take_succ_eq_append_getElem hj, List.drop_append_of_le_length (by simp; omega)]
  simp
theorem outE_len {l : List En} {m d j : Nat} {e : En} (h8 : l.length ≤ 8) : (outE l m d e j).length ≤ 20 := by
  unfold outE
  split
  · simp; omega
  · simp; omega
theorem outE_end {l : List En} {m d : Nat} {e : En} (hm : m < l.length) : outE l m d e l.length = l.take m ++ e :: l.drop (m + d) := by
  rw [outE, if_neg (by omega), List.take_length]
theorem outE_all {l : List En} {m d : Nat} {e : En} (hm : m = l.length) : outE l m d e l.length = l := by
  rw [outE, if_pos (by omega), List.take_length]
end Go.Proofs.YtpcnfoaoajfhlaaGreatDoor
