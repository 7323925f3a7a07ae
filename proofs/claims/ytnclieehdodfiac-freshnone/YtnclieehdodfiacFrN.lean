/-
  merelaw4.FreshNone answers true, whatever the cache.
-/
import Derived.Test.YtnclieehdodfiacFrS
import Derived.BigQuiet
namespace Go.Proofs.Ytnclieehdodfiac
set_option linter.unusedVariables false
set_option linter.unusedSimpArgs false
open Go.RowKit

theorem bad_keyF {e : En} (h : e.bad = 0) : 0 ≤ e.k ∧ e.k ≤ 7 := by
  unfold En.bad bad at h
  split at h
  · omega
  · rename_i h1
    simp [inR] at h1
    omega
theorem neq_self (x0 x1 x2 : Int) (x3 : Bool) (x4 : ByteArray) (w : World) : (binOp .neq 30 (.agg #[.int .i64 x0, .int .i64 x1, .int .i64 x2, .bool x3, .string x4]) (.agg #[.int .i64 x0, .int .i64 x1, .int .i64 x2, .bool x3, .string x4])).run Try.prog w = .ok (.bool false) w := by
  have h1 := eql_enIn ⟨x0, x1, x2, x3, x4⟩ ⟨x0, x1, x2, x3, x4⟩ w
  rw [En.same_self] at h1
  unfold En.val at h1
  rw [run_neq_struct, h1]
  rfl
theorem bad_asOf {k v a : Int} {g : Bool} {t : ByteArray} (h : bad k v a g t = 0) : 0 ≤ a := by
  unfold bad at h
  split at h
  · omega
  · rename_i h'
    simp [inR] at h'
    omega
theorem stale_none {l : List En} (h : GoodL l) : staleE l 0 = [] := by
  rw [staleE, List.map_eq_nil_iff, List.filter_eq_nil_iff]
  intro e he
  have := bad_asOf (h.all e he)
  simp
  omega
theorem getE_at {l : List En} (h : Rising l) {j : Nat} (hj : j < l.length) : getE l l[j].k = some l[j] := by
  induction l generalizing j with
  | nil => simp at hj
  | cons x l ih =>
    rw [Rising, List.pairwise_cons] at h
    cases j with
    | zero => simp [getE]
    | succ j =>
      have hj' : j < l.length := by simpa using hj
      have hx := h.1 _ (List.getElem_mem hj')
      have := ih h.2 hj'
      rw [getE] at this ⊢
      rw [List.getElem_cons_succ, List.find?_cons, this]
      have hne : (x.k == l[j].k) = false := by simp; omega
      rw [hne]
theorem fresh_at {l : List En} (h : GoodL l) {j : Nat} (hj : j < l.length) : freshGet l l[j].k 0 = (l[j], 0) := by
  have hb := h.all _ (List.getElem_mem hj)
  have hk : isKeyB l[j].k = true := by
    have := bad_keyF hb
    simp [isKeyB]
    omega
  have ha := bad_asOf hb
  have hg : cacheGet l l[j].k = (l[j], 0) := by
    rw [cacheGet, if_neg (by rw [h.bad]; simp), hk, getE_at h.rise hj]
    rfl
  rw [freshGet, hg, if_neg (by simp [isSeqB]), if_neg (by simp), if_neg (by simp; omega)]
theorem stale_o {l : List En} {fl : Int} {xs : List Int} {n : Int} (h : freshStale l fl = (xs, n)) (v : Value) (w : World) (hr : RowIs w v l) :
    Calls Try.prog 4 #[v, .int .i64 fl] w (StaleIs w xs n) := by
  have c := freshStale_c v l fl w hr
  rw [h] at c
  exact c
theorem freshGet_o {l : List En} {key fl k vv a : Int} {g : Bool} {t : ByteArray} {n : Int} (h : freshGet l key fl = (⟨k, vv, a, g, t⟩, n)) (v : Value) (w : World) (hr : RowIs w v l) :
    Calls Try.prog 6 #[v, .int .i64 key, .int .i64 fl] w fun e w' => e = .returned (.tuple #[.agg #[.int .i64 k, .int .i64 vv, .int .i64 a, .bool g, .string t], eV n]) ∧ Below w.heap.size w w' := by
  have c := freshGet_c v l key fl w hr
  rw [h] at c
  exact c

set_option maxHeartbeats 4000000 in
theorem none_walk (v : Value) (l : List En) (w : World) (hr : RowIs w v l) :
    Calls Try.prog 3 #[v] w fun e w' => e = .returned (.bool true) ∧ Below w.heap.size w w' := by
  have HR : Hid (RowIs w v l) := hr
  clear hr
  by_cases hn : badL l = 0
  · have HG : Hid (GoodL l) := badL_good hn
    have HC : Hid (freshStale l 0 = ([], 0)) := by
      show freshStale l 0 = _
      rw [freshStale, if_neg (by simp [isSeqB]), if_neg (by simpa using hn), stale_none HG.out]
    clear hn
    obtain ⟨hlen, p, cap, rfl, hrow⟩ := HR.out
    have HRow : Hid (l ≠ [] → ∃ b o, p = some ⟨b, o, none⟩ ∧ b < w.heap.size ∧ ∀ j (h : j < l.length), EnAt w b (o + j * 5) l[j]) := hrow
    clear hrow
    obtain ⟨n, HN⟩ : ∃ n, Hid (l.length = n) := ⟨_, rfl⟩
    rw [HN.out] at hlen HR ⊢
    have hn63 : n ≤ 9223372036854775807 := hlen
    go_enter Try.func3, Try.ntmps3
    go_wp2_with fail
    refine (stale_o HC.out _ _ HR.out).mono ?_
    rintro e w1 ⟨v1, rfl, hi, hb⟩
    have B1 : Hid (Below w.heap.size w w1) := hb
    clear hb
    obtain ⟨hi0, q1, cap1, hv1, hi1⟩ := hi
    clear hi0 hi1
    simp at hv1
    subst hv1
    rw [eV, if_pos rfl]
    go_wp2_with fail
    have hgd := eqGuard_en
    go_loopw [5] (fun i wr => ∃ j : Nat, j ≤ n ∧ i = .int .i64 j ∧ Hid (Below w.heap.size w wr)) (fun i _ => n - (intOf i).toNat)
    case atStart => exact ⟨0, Nat.zero_le _, rfl, B1⟩
    case round =>
      obtain ⟨j, hj, rfl, HB⟩ := hrel
      by_cases hlt : j < n
      · have hjl : j < l.length := by rw [HN.out]; exact hlt
        have hlti : (j : Int) < (n : Int) := by omega
        have HRr : Hid (RowIs wr (.slice p n cap) l) := HR.out.below HB.out
        obtain ⟨b, o, rfl, hbw, hat⟩ := HRow.out (fun h => by simp [h] at hjl)
        have HAt : Hid (EnAt w b (o + j * 5) l[j]) := hat j hjl
        clear hat
        have HF : Hid (freshGet l l[j].k 0 = (l[j], 0)) := fresh_at HG.out hjl
        obtain ⟨x, HX⟩ : ∃ x, Hid (l[j] = x) := ⟨l[j], show l[j] = l[j] from rfl⟩
        rw [HX.out] at HAt HF
        obtain ⟨x0, x1, x2, x3, x4⟩ := x
        dsimp only at HF
        have hbr : b < wr.heap.size := by have := HB.out.size; omega
        obtain ⟨c0, c1, c2, c3, c4⟩ := HAt.out.of_block (HB.out.block b hbw)
        dsimp only at c0 c1 c2 c3 c4
        go_wp2_with fail
        refine (freshGet_o HF.out _ _ HRr.out).mono ?_
        rintro e w2 ⟨rfl, hb⟩
        have B2 : Hid (Below w.heap.size w w2) := HB.out.trans (hb.mono HB.out.size)
        clear hb c0 c1 c2 c3 c4
        rw [eV, if_pos rfl]
        go_upto_region 8 with fail
        obtain ⟨w3, HW3⟩ : ∃ w3, w3 = w2.alloc (.cells #[.int .i64 x0, .int .i64 x1, .int .i64 x2, .bool x3, .string x4] 30) := ⟨_, rfl⟩
        rw [← HW3]
        have B3 : Hid (Below w.heap.size w w3) := by rw [HW3]; exact B2.out.alloc B2.out.size _
        have F3 : Hid (BoxAt w3 w2.heap.size x0 x1 x2 x3 x4) := by rw [HW3]; exact box_new w2 x0 x1 x2 x3 x4 _ rfl
        clear HW3
        obtain ⟨f0, f1, f2, f3, f4, ff⟩ := F3.out
        obtain ⟨c0, c1, c2, c3, c4⟩ := HAt.out.of_block (B3.out.block b hbw)
        dsimp only at c0 c1 c2 c3 c4
        have hq := neq_self x0 x1 x2 x3 x4
        go_quiet (fail)
        go_wp2_with fail
        go_roundw
        case rel => exact ⟨j + 1, by omega, by go_num, B3.out.trans (below_drewN _ _ _)⟩
        case measure => simp [intOf]; omega
      · obtain rfl : j = n := by omega
        go_wp2_with fail
        go_ret
        exact ⟨rfl, HB.out⟩
  · obtain ⟨n, HN⟩ : ∃ n, Hid (badL l = n) := ⟨_, rfl⟩
    have HC : Hid (freshStale l 0 = ([], n)) := by
      show freshStale l 0 = _
      rw [freshStale, if_neg (by simp [isSeqB]), if_pos hn, HN.out]
    rw [HN.out] at hn
    go_enter Try.func3, Try.ntmps3
    go_wp2_with fail
    refine (stale_o HC.out _ _ HR.out).mono ?_
    rintro e w1 ⟨v1, rfl, hi, hb⟩
    have B1 : Hid (Below w.heap.size w w1) := hb
    clear hb hi
    rw [eV, if_neg hn]
    go_wp2_with fail
    refine (cacheCheck_err (HR.out.below B1.out) HN.out hn).mono ?_
    rintro e w2 ⟨rfl, hb⟩
    have B2 : Hid (Below w.heap.size w w2) := B1.out.trans (hb.mono B1.out.size)
    clear hb
    go_wp2_with fail
    go_ret
    exact ⟨rfl, B2.out⟩
end Go.Proofs.Ytnclieehdodfiac
