/-
  The walk of merelaw4.TreeLeaf.
-/
import Derived.Test.YtpfljcacdcpojaeDoorTrNd
import Derived.Test.YtpfljcacdcpojaeDoorErrA
namespace Go.Proofs.YtpfljcacdcpojaeDoor
set_option linter.unusedVariables false
set_option linter.unusedSimpArgs false
open Go.RowKit

theorem getT_none {l : List En} {key : Int} (hb : badL l = 0) (hk : isKeyB key = true) (hg : getE l key = none) (v : Value) (w : World) (hr : RowIs w v l) :
    Calls Tryd.prog 7 #[v, .int .i64 key] w fun e w' => e = .returned (.tuple #[.agg #[.int .i64 0, .int .i64 0, .int .i64 0, .bool false, .string ⟨#[]⟩], .iface 36 (.int .i64 5)]) ∧ Below w.heap.size w w' := by
  have c := get_c v l key w hr
  rw [cacheGet, if_neg (by simpa using hb), if_neg (by simp [hk]), hg] at c
  exact c
theorem getT_some {l : List En} {key x0 x1 x2 : Int} {x3 : Bool} {x4 : ByteArray} (hb : badL l = 0) (hk : isKeyB key = true) (hg : getE l key = some ⟨x0, x1, x2, x3, x4⟩) (v : Value) (w : World) (hr : RowIs w v l) :
    Calls Tryd.prog 7 #[v, .int .i64 key] w fun e w' => e = .returned (.tuple #[.agg #[.int .i64 x0, .int .i64 x1, .int .i64 x2, .bool x3, .string x4], .nilIface]) ∧ Below w.heap.size w w' := by
  have c := get_c v l key w hr
  rw [cacheGet, if_neg (by simpa using hb), if_neg (by simp [hk]), hg] at c
  exact c
/-- an entry that is found is right, its key that which was asked -/
theorem found_good {l : List En} {K : Nat} {x : En} (hb : badL l = 0) (hg : getE l (K : Int) = some x) : x.bad = 0 ∧ x.k = (K : Int) := by
  have G := badL_good hb
  obtain ⟨hj, hx, hk⟩ := getE_some G.rise hg
  exact ⟨G.all x (by rw [← hx]; exact List.getElem_mem _), hk⟩
/-- a node's answer, letters alone -/
theorem tnode_p (v : Value) (l : List En) (i : Nat) (h0 : 1 ≤ i) (h15 : i ≤ 15) (h : badL l = 0) (w0 : World) (hr : RowIs w0 v l) (hT : Lib.TabBelow Tryd.prog w0.heap.size w0 powName .u64 Lib.pow10Tab) : ∃ N : Nat, N = trN (leafN l) i ∧ ∀ w, Below w0.heap.size w0 w →
    Calls Tryd.prog 4 #[v, .int .i64 (i : Nat)] w fun e w' => e = .returned (.tuple #[.int .i64 (N : Nat), .nilIface]) ∧ Below w.heap.size w w' :=
  ⟨_, rfl, fun w hb => tnode_ok v l i w (hr.below hb) (by simp [isNode]; omega) h (hT w hb)⟩

set_option maxHeartbeats 4000000 in
theorem treeLeaf_w (v : Value) (l : List En) (key : Int) (w : World) (hr : RowIs w v l) (hT : Lib.TabIs Tryd.prog w powName .u64 Lib.pow10Tab) (hg : HasErr w) :
    Calls Tryd.prog 3 #[v, .int .i64 key] w fun e w' => e = .returned (.bool true) ∧ Below w.heap.size w w' := by
  have HR : Hid (RowIs w v l) := hr
  have HT : Hid (Lib.TabBelow Tryd.prog w.heap.size w powName .u64 Lib.pow10Tab) := Lib.tabBelow_of_tabIs hT
  have HG : Hid (∀ w', Below w.heap.size w w' → HasErr w') := fun w' hb => hg.below hg.lt hb
  clear hT hg hr
  by_cases hin : 0 ≤ key ∧ key ≤ 7
  · obtain ⟨K, rfl⟩ : ∃ K : Nat, key = (K : Int) := ⟨key.toNat, by omega⟩
    have k1 : ¬ (K : Int) < 0 := by omega
    have k2 : ¬ (7 : Int) < (K : Int) := by omega
    have hK7 : K ≤ 7 := by omega
    have HKb : Hid (isKeyB (K : Int) = true) := by
      show _ = _
      simp [isKeyB]
      omega
    obtain ⟨M, hM⟩ : ∃ M : Nat, 8 + K = M := ⟨_, rfl⟩
    have m1 : (8 : Int) + (K : Int) = (M : Int) := by omega
    have hM1 : 1 ≤ M := by omega
    have hM2 : M ≤ 15 := by omega
    by_cases hn : badL l = 0
    · obtain ⟨N, hN, c⟩ := tnode_p v l M hM1 hM2 hn w HR.out HT.out
      have HC : Hid (∀ w', Below w.heap.size w w' → Calls Tryd.prog 4 #[v, .int .i64 (M : Nat)] w' fun e w'' => e = .returned (.tuple #[.int .i64 (N : Nat), .nilIface]) ∧ Below w'.heap.size w' w'') := c
      have HL : Hid (N = leafN l K) := by
        show _ = _
        rw [hN, trN_end _ (by omega), show M - 8 = K by omega]
      have HN0 : Hid (badL l = 0) := hn
      clear hn hN c hin
      cases hgt : getE l (K : Int) with
      | none =>
        have HGt : Hid (getE l (K : Int) = none) := hgt
        have hN0 : N = 0 := by rw [HL.out, leafN_none hgt]
        subst hN0
        clear hgt HL
        go_enter Tryd.func3, Tryd.ntmps3
        go_wp2_with fail
        refine (HC.out _ (Below.refl _ _)).mono ?_
        rintro e w1 ⟨rfl, hb⟩
        have B1 : Hid (Below w.heap.size w w1) := hb
        clear hb HC
        go_wp2_with fail
        refine (getT_none HN0.out HKb.out HGt.out v _ (HR.out.below B1.out)).mono ?_
        rintro e w2 ⟨rfl, hb⟩
        have B2 : Hid (Below w.heap.size w w2) := B1.out.trans (hb.mono B1.out.size)
        clear hb B1
        go_wp2_with fail
        go_ret
        exact ⟨rfl, B2.out.alloc B2.out.size _⟩
      | some x =>
        have HGt : Hid (getE l (K : Int) = some x) := hgt
        obtain ⟨hxb, hxk⟩ := found_good HN0.out hgt
        have hNx : N = numE x := by rw [HL.out, leafN_some hgt]
        clear hgt HL
        obtain ⟨x0, x1, x2, x3, x4⟩ := x
        obtain ⟨K', V, rfl, rfl, hK, hV, ht⟩ := good_nats (show bad x0 x1 x2 x3 x4 = 0 from hxb)
        have HE : Hid (∀ w, Lib.TabIs Tryd.prog w powName .u64 Lib.pow10Tab → Calls Tryd.prog 8 #[.agg #[.int .i64 (K' : Nat), .int .i64 (V : Nat), .int .i64 x2, .bool x3, .string x4]] w fun e w' => e = .returned (.tuple #[.int .i64 (N : Nat), .nilIface]) ∧ Below w.heap.size w w') := by
          rw [hNx]
          exact fun w hT => hentry_ok K' V x2 x3 x4 hxb (by omega) hV ht w hT
        clear hxb hxk hNx
        obtain ⟨A, hA, cA⟩ := tnode_p v l 2 (by omega) (by omega) HN0.out w HR.out HT.out
        obtain ⟨B, hB, cB⟩ := tnode_p v l 3 (by omega) (by omega) HN0.out w HR.out HT.out
        obtain ⟨R, hR, cR⟩ := tnode_p v l 1 (by omega) (by omega) HN0.out w HR.out HT.out
        have hAl : A ≤ 4294967295 := by have := trN_lt (leafN l) (leafN_lt l) 2; omega
        have hBl : B ≤ 4294967295 := by have := trN_lt (leafN l) (leafN_lt l) 3; omega
        have HTw : Hid (∀ w, Lib.TabIs Tryd.prog w powName .u64 Lib.pow10Tab → Calls Tryd.prog 9 #[.int .i64 (A : Nat), .int .i64 (B : Nat)] w fun e w' => e = .returned (.tuple #[.int .i64 (R : Nat), .nilIface]) ∧ Below w.heap.size w w') := by
          have e : R = hashL (byN (str2 A B)) := by
            rw [hR, trN_two _ (by omega) (by omega), hA, hB]
            rfl
          rw [e]
          exact fun w hT => two_ok A B w hAl hBl hT
        have HA : Hid (∀ w', Below w.heap.size w w' → Calls Tryd.prog 4 #[v, .int .i64 2] w' fun e w'' => e = .returned (.tuple #[.int .i64 (A : Nat), .nilIface]) ∧ Below w'.heap.size w' w'') := cA
        have HB : Hid (∀ w', Below w.heap.size w w' → Calls Tryd.prog 4 #[v, .int .i64 3] w' fun e w'' => e = .returned (.tuple #[.int .i64 (B : Nat), .nilIface]) ∧ Below w'.heap.size w' w'') := cB
        have HRt : Hid (∀ w', Below w.heap.size w w' → Calls Tryd.prog 4 #[v, .int .i64 1] w' fun e w'' => e = .returned (.tuple #[.int .i64 (R : Nat), .nilIface]) ∧ Below w'.heap.size w' w'') := cR
        clear hA hB hR cA cB cR hAl hBl
        go_enter Tryd.func3, Tryd.ntmps3
        go_wp2_with fail
        refine (HC.out _ (Below.refl _ _)).mono ?_
        rintro e w1 ⟨rfl, hb⟩
        have B1 : Hid (Below w.heap.size w w1) := hb
        clear hb HC
        go_wp2_with fail
        refine (getT_some HN0.out HKb.out HGt.out v _ (HR.out.below B1.out)).mono ?_
        rintro e w2 ⟨rfl, hb⟩
        have B2 : Hid (Below w.heap.size w w2) := B1.out.trans (hb.mono B1.out.size)
        clear hb B1
        have B3 : Hid (Below w.heap.size w (w2.alloc (.cells #[.int .i64 (K' : Nat), .int .i64 (V : Nat), .int .i64 x2, .bool x3, .string x4] 30))) := B2.out.alloc B2.out.size _
        go_wp2_with fail
        refine (HE.out _ (HT.out _ B3.out)).mono ?_
        rintro e w4 ⟨rfl, hb⟩
        have B4 : Hid (Below w.heap.size w w4) := B3.out.trans (hb.mono B3.out.size)
        clear hb B3 B2 HE
        go_wp2_with fail
        refine (HA.out _ B4.out).mono ?_
        rintro e w5 ⟨rfl, hb⟩
        have B5 : Hid (Below w.heap.size w w5) := B4.out.trans (hb.mono B4.out.size)
        clear hb B4 HA
        go_wp2_with fail
        refine (HB.out _ B5.out).mono ?_
        rintro e w6 ⟨rfl, hb⟩
        have B6 : Hid (Below w.heap.size w w6) := B5.out.trans (hb.mono B5.out.size)
        clear hb B5 HB
        go_wp2_with fail
        refine (HRt.out _ B6.out).mono ?_
        rintro e w7 ⟨rfl, hb⟩
        have B7 : Hid (Below w.heap.size w w7) := B6.out.trans (hb.mono B6.out.size)
        clear hb B6 HRt
        go_wp2_with fail
        refine (HTw.out _ (HT.out _ B7.out)).mono ?_
        rintro e w8 ⟨rfl, hb⟩
        have B8 : Hid (Below w.heap.size w w8) := B7.out.trans (hb.mono B7.out.size)
        clear hb B7 HTw
        go_wp2_with fail
        go_ret
        exact ⟨rfl, B8.out⟩
    · obtain ⟨n, HN⟩ : ∃ n, Hid (badL l = n) := ⟨_, rfl⟩
      rw [HN.out] at hn
      have HI : Hid (isNode (M : Int) = true) := by
        show _ = _
        simp [isNode]
        omega
      clear hin
      go_enter Tryd.func3, Tryd.ntmps3
      go_wp2_with fail
      refine (tnode_bad v l (M : Int) n _ HR.out HI.out HN.out hn).mono ?_
      rintro e w1 ⟨rfl, hb⟩
      have B1 : Hid (Below w.heap.size w w1) := hb
      clear hb
      go_wp2_with fail
      refine (cacheCheck_err (HR.out.below B1.out) HN.out hn).mono ?_
      rintro e w2 ⟨rfl, hb⟩
      have B2 : Hid (Below w.heap.size w w2) := B1.out.trans (hb.mono B1.out.size)
      clear hb B1
      go_wp2_with fail
      go_ret
      exact ⟨rfl, B2.out⟩
  · have HE1 : Hid (∀ w', Below w.heap.size w w' → Calls Tryd.prog 5 #[.iface 36 (.int .i64 1), .int .i64 1] w' fun e w'' => e = .returned (.bool true) ∧ Below w'.heap.size w' w'') := fun w' hb => err_same 1 w' (HG.out w' hb)
    rcases (show key < 0 ∨ (¬ key < 0 ∧ 7 < key) by omega) with h1 | ⟨h1, h2⟩
    all_goals
      clear hin
      go_enter Tryd.func3, Tryd.ntmps3
      go_wp2_with fail
      refine (tnode_range v 0 _ rfl).mono ?_
      rintro e w1 ⟨rfl, hb⟩
      have B1 : Hid (Below w.heap.size w w1) := hb
      clear hb
      go_wp2_with fail
      refine (HE1.out _ B1.out).mono ?_
      rintro e w2 ⟨rfl, hb⟩
      have B2 : Hid (Below w.heap.size w w2) := B1.out.trans (hb.mono B1.out.size)
      clear hb B1
      go_wp2_with fail
      go_ret
      exact ⟨rfl, B2.out⟩
end Go.Proofs.YtpfljcacdcpojaeDoor
