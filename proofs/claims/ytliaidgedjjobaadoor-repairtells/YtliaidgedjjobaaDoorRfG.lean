/-
  The document's Get of a cache (mereref1.Get) by its contract.
-/
import Derived.Test.YtliaidgedjjobaaDoorRfC
namespace Go.Proofs.YtliaidgedjjobaaDoor
set_option linter.unusedVariables false
set_option linter.unusedSimpArgs false
open Go.RowKit

theorem getE_hit {l : List En} {key : Int} {j : Nat} (h : j < l.length) (hk : l[j].k = key) : getE (l.drop j) key = some l[j] := by
  rw [List.drop_eq_getElem_cons h]
  unfold getE
  rw [List.find?_cons_of_pos (by simpa using hk)]
theorem getE_miss {l : List En} {key : Int} {j : Nat} (h : j < l.length) (hk : ¬ l[j].k = key) : getE (l.drop j) key = getE (l.drop (j + 1)) key := by
  rw [List.drop_eq_getElem_cons h]
  unfold getE
  rw [List.find?_cons_of_neg (by simpa using hk)]
/-- what the document's Get answers -/
def hadE (o : Option En) : En := match o with | some x => x | none => ⟨0, 0, 0, false, ⟨#[]⟩⟩
set_option maxHeartbeats 4000000 in
theorem rGet_c (v : Value) (l : List En) (key : Int) (w : World) (hr : RowIs w v l) :
    Calls Tryd.prog 12 #[v, .int .i64 key] w fun e w' => e = .returned (.tuple #[(hadE (getE l key)).val, .bool (getE l key).isSome]) ∧ Below w.heap.size w w' := by
  obtain ⟨hlen, p, cap, rfl, hrow⟩ := hr
  have HRow : Hid (l ≠ [] → ∃ b o, p = some ⟨b, o, none⟩ ∧ b < w.heap.size ∧ ∀ j (h : j < l.length), EnAt w b (o + j * 5) l[j]) := hrow
  clear hrow
  obtain ⟨n, HN⟩ : ∃ n, Hid (l.length = n) := ⟨_, rfl⟩
  rw [HN.out] at hlen ⊢
  have hn63 : n ≤ 9223372036854775807 := hlen
  obtain ⟨R, HR⟩ : ∃ R, Hid (getE l key = R) := ⟨_, rfl⟩
  rw [HR.out]
  go_enter Tryd.func12, Tryd.ntmps12
  go_wp2_with fail
  go_loopw [6] (fun i wr => ∃ j : Nat, j ≤ n ∧ i = .int .i64 j ∧ Hid (R = getE (l.drop j) key) ∧ wr = w.alloc (.cells #[.int .i64 0, .int .i64 0, .int .i64 0, .bool false, .string ⟨#[]⟩] 26)) (fun i _ => n - (intOf i).toNat)
  case atStart => exact ⟨0, Nat.zero_le _, rfl, by rw [List.drop_zero]; exact HR.out.symm, rfl⟩
  case round =>
    obtain ⟨j, hj, rfl, HE, rfl⟩ := hrel
    by_cases hlt : j < n
    · have hjl : j < l.length := by rw [HN.out]; exact hlt
      obtain ⟨b, o, rfl, hbw, hat⟩ := HRow.out (fun h => by simp [h] at hjl)
      have HAt : Hid (EnAt (w.alloc (.cells #[.int .i64 0, .int .i64 0, .int .i64 0, .bool false, .string ⟨#[]⟩] 26)) b (o + j * 5) l[j]) := (hat j hjl).of_block (Below.heap_alloc _ _ _ hbw)
      clear hat
      have hlti : (j : Int) < (n : Int) := by omega
      obtain ⟨x, HX⟩ : ∃ x, Hid (l[j] = x) := ⟨l[j], show l[j] = l[j] from rfl⟩
      have HH : Hid (x.k = key → R = some x) := fun hk => by rw [HE.out, getE_hit hjl (by rw [HX.out]; exact hk), HX.out]
      have HMs : Hid (¬ x.k = key → R = getE (l.drop (j + 1)) key) := fun hk => by rw [HE.out, getE_miss hjl (by rw [HX.out]; exact hk)]
      rw [HX.out] at HAt
      obtain ⟨x0, x1, x2, x3, x4⟩ := x
      obtain ⟨c0, c1, c2, c3, c4⟩ := HAt.out
      dsimp only at c0 c1 c2 c3 c4
      have p1 : ¬ b = w.heap.size := by omega
      have p2 : ¬ w.heap.size = b := by omega
      by_cases hk : x0 = key
      · have hkb : (x0 == key) = true := by simp [hk]
        have HS : Hid (R = some ⟨x0, x1, x2, x3, x4⟩) := HH.out hk
        clear hk
        go_wp2_with fail
        refine bodyPost_ret (v := .tuple #[.agg #[.int .i64 x0, .int .i64 x1, .int .i64 x2, .bool x3, .string x4], .bool true]) (by simp [results, Tryd.results12, go_sem]) rfl ?_
        refine ⟨by rw [HS.out]; rfl, ?_⟩
        go_grown
      · have hkb : (x0 == key) = false := by simp [hk]
        have HS : Hid (R = getE (l.drop (j + 1)) key) := HMs.out hk
        clear hk
        go_wp2_with fail
        go_roundw
        case rel => exact ⟨j + 1, by omega, by go_num, HS, by first | rfl | trivial⟩
        case measure => simp [intOf]; omega
    · obtain rfl : j = n := by omega
      have HS : Hid (R = none) := by
        show R = none
        rw [HE.out, List.drop_eq_nil_of_le (by rw [HN.out]; exact Nat.le_refl _)]
        rfl
      go_wp2_with fail
      refine bodyPost_ret (v := .tuple #[.agg #[.int .i64 0, .int .i64 0, .int .i64 0, .bool false, .string ⟨#[]⟩], .bool false]) (by simp [results, Tryd.results12, go_sem]) rfl ?_
      refine ⟨by rw [HS.out]; rfl, ?_⟩
      go_grown
theorem rGet_none {l : List En} {key : Int} (h : getE l key = none) (v : Value) (w : World) (hr : RowIs w v l) :
    Calls Tryd.prog 12 #[v, .int .i64 key] w fun e w' => e = .returned (.tuple #[.agg #[.int .i64 0, .int .i64 0, .int .i64 0, .bool false, .string ⟨#[]⟩], .bool false]) ∧ Below w.heap.size w w' := by
  have c := rGet_c v l key w hr
  rw [h] at c
  exact c
theorem rGet_some {l : List En} {key x0 x1 x2 : Int} {x3 : Bool} {x4 : ByteArray} (h : getE l key = some ⟨x0, x1, x2, x3, x4⟩) (v : Value) (w : World) (hr : RowIs w v l) :
    Calls Tryd.prog 12 #[v, .int .i64 key] w fun e w' => e = .returned (.tuple #[.agg #[.int .i64 x0, .int .i64 x1, .int .i64 x2, .bool x3, .string x4], .bool true]) ∧ Below w.heap.size w w' := by
  have c := rGet_c v l key w hr
  rw [h] at c
  exact c
end Go.Proofs.YtliaidgedjjobaaDoor
