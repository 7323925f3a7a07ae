/-
  merelaw2.GossipTells answers true, whatever the number and the calls.
-/
import Derived.Test.YtnffnmmhbnljcahDoorRGo
import Derived.Test.YtnffnmmhbnljcahDoorGsN
import Derived.Test.YtnffnmmhbnljcahDoorErrA
import Derived.Deep.LoopGhost
import Derived.Deep.Draws
import Derived.WalkSmall
namespace Go.Proofs.YtnffnmmhbnljcahDoor
set_option linter.unusedVariables false
set_option linter.unusedSimpArgs false
open Go.RowKit

theorem play_n (n : Int) (v : Value) (cs : List (List Int)) (E : Int) (Z : List Int) (hE : callsE n cs = E) (hZ : playZ n cs = Z) (w : World) (hr : CallsIs w v cs) :
    Calls Tryd.prog 18 #[.int .i64 n, v] w fun e w' => (∃ u, e = .returned (.tuple #[u, eV E]) ∧ IntsIs w' u Z) ∧ Below w.heap.size w w' := by
  by_cases h : E = 0
  · subst h
    obtain ⟨⟨k, rfl, hk1, hk6⟩, _, _⟩ := callsE_ok hE
    rw [playZ, if_pos hE, Int.toNat_natCast] at hZ
    refine (play_ok k v cs hE w hr).mono ?_
    rintro e w' ⟨⟨g, rfl, hm, _⟩, hb⟩
    refine ⟨⟨_, by rw [eV_zero], ?_⟩, hb⟩
    rw [← hZ]
    exact hm.ints (knowG_len _ _) (by unfold maxLen; omega)
  · rw [playZ, if_neg (by rw [hE]; exact h)] at hZ
    subst hZ
    refine (play_bad n v cs E hE h w hr).mono ?_
    rintro e w' ⟨rfl, hb⟩
    exact ⟨⟨_, rfl, IntsIs.nil _⟩, hb⟩
theorem done_n (n : Int) (v : Value) (cs : List (List Int)) (E : Int) (D : Bool) (hE : callsE n cs = E) (hD : doneZ n cs = D) (w : World) (hr : CallsIs w v cs) :
    Calls Tryd.prog 20 #[.int .i64 n, v] w fun e w' => e = .returned (.tuple #[.bool D, eV E]) ∧ Below w.heap.size w w' := by
  by_cases h : E = 0
  · subst h
    obtain ⟨⟨k, rfl, hk1, hk6⟩, _, _⟩ := callsE_ok hE
    have hD2 : (knowG k cs).all (fun x => x == fullG k) = D := by
      rw [← hD, doneZ, hE, Int.toNat_natCast]
      simp
    refine (done_ok k v cs hE D hD2 w hr).mono ?_
    rintro e w' ⟨rfl, hb⟩
    exact ⟨by rw [eV_zero], hb⟩
  · have hD2 : D = false := by
      rw [← hD, doneZ, hE]
      simp [h]
    subst hD2
    exact done_bad n v cs E hE h w hr
/-- the plan of whatever number -/
def planP (n : Int) : List (List Int) := if inR n 1 6 = true then planL n.toNat else []
theorem plan_n (n : Int) (E : Int) (hE : (if inR n 1 6 = true then 0 else 1) = E) (w : World) :
    Calls Tryd.prog 21 #[.int .i64 n] w fun e w' => (∃ u, e = .returned (.tuple #[u, eV E]) ∧ CallsIs w' u (planP n)) ∧ Below w.heap.size w w' := by
  subst hE
  cases h : inR n 1 6
  · refine (plan_bad n h w).mono ?_
    rintro e w' ⟨rfl, rfl⟩
    rw [planP, h]
    exact ⟨⟨_, rfl, CallsIs.nil _⟩, Below.refl _ _⟩
  · obtain ⟨k, rfl, hk1, hk6⟩ := inR_nat h
    refine (plan_ok k hk1 hk6 w).mono ?_
    rintro e w' ⟨⟨u, rfl, hc⟩, hb⟩
    rw [planP, h, if_pos rfl, if_pos rfl, Int.toNat_natCast]
    exact ⟨⟨u, by rw [eV_zero], hc⟩, hb⟩
theorem bit_yes {X t : Nat} (h : X.testBit t = true) : X % 2 ^ (t + 1) = X % 2 ^ t + 2 ^ t := by
  rw [Nat.testBit_eq_decide_div_mod_eq] at h
  have h' := of_decide_eq_true h
  rw [Nat.pow_succ, Nat.mod_mul, h', Nat.mul_one]
theorem bit_no {X t : Nat} (h : X.testBit t = false) : X % 2 ^ (t + 1) = X % 2 ^ t := by
  rw [Nat.testBit_eq_decide_div_mod_eq] at h
  have h' := of_decide_eq_false h
  have h2 : X / 2 ^ t % 2 = 0 := by omega
  rw [Nat.pow_succ, Nat.mod_mul, h2, Nat.mul_zero, Nat.add_zero]
theorem grid_at (s : List Nat) (i t : Nat) (ht : t < 6) : gridO s (i * 6 + t) = (s.getD i 0).testBit t := by
  have e : (i * 6 + t) / 6 = i ∧ (i * 6 + t) % 6 = t := by omega
  rw [gridO, e.1, e.2]
theorem numZ_take {s : List Nat} {i : Nat} (h : i < s.length) : numZ (s.take (i + 1)) = numZ (s.take i) ++ [((s.getD i 0 : Nat) : Int)] := by
  rw [List.take_succ_eq_append_getElem h, numZ, numZ, List.map_append, getD_at _ _ _ h]
  rfl
theorem all_take {s : List Nat} {i f : Nat} (h : i < s.length) : (s.take (i + 1)).all (fun x => x == f) = ((s.take i).all (fun x => x == f) && (s.getD i 0 == f)) := by
  rw [List.take_succ_eq_append_getElem h, List.all_append, getD_at _ _ _ h]
  simp
set_option maxRecDepth 100000 in
set_option maxHeartbeats 32000000 in
theorem gtells_w (n : Int) (v : Value) (cs : List (List Int)) (w : World) (hg : HasErr w) (hr : CallsIs w v cs) :
    Calls Tryd.prog 4 #[.int .i64 n, v] w fun e w' => e = .returned (.bool true) ∧ Below w.heap.size w w' := by
  have HG : Hid (HasErr w) := hg
  have hlt := hg.lt
  clear hg
  have HC : Hid (CallsIs w v cs) := hr
  obtain ⟨_, p, cap, hv, _⟩ := hr.parts
  clear hr
  obtain ⟨N, HN⟩ : ∃ N, Hid (cs.length = N) := ⟨_, rfl⟩
  rw [HN.out] at hv
  subst hv
  obtain ⟨E, HE⟩ : ∃ E, Hid (callsE n cs = E) := ⟨_, rfl⟩
  obtain ⟨Z, HZ⟩ : ∃ Z, Hid (playZ n cs = Z) := ⟨_, rfl⟩
  obtain ⟨D, HD⟩ : ∃ D, Hid (doneZ n cs = D) := ⟨_, rfl⟩
  obtain ⟨eb, HEb⟩ : ∃ c, Hid ((E == 0) = c) := ⟨_, rfl⟩
  have heb := HEb.out
  go_enter Tryd.func4, Tryd.ntmps4
  go_wp2_with fail
  refine (rCalls_c n _ cs E HE.out _ HC.out).mono ?_
  rintro e w1 ⟨rfl, hb⟩
  have B1 : Hid (Below w.heap.size w w1) := hb
  clear hb
  go_upto_if 27 with fail
  go_cut [6, 7] (fun c6 c7 wc => c7 = .bool D ∧ Hid (IntsIs wc c6 Z) ∧ Hid (Below w.heap.size w wc))
  case first =>
    cases eb
    · have hE : E ≠ 0 := by have := HEb.out; simpa using this
      have HZ0 : Hid (Z = []) := HZ.out.symm.trans (by rw [playZ, if_neg (by rw [HE.out]; exact hE)])
      have HD0 : Hid (D = false) := HD.out.symm.trans (by rw [doneZ, HE.out]; simp [hE])
      clear hE
      go_wp2_with fail
      go_meet
      case rel => exact ⟨by rw [HD0.out], by rw [HZ0.out]; exact IntsIs.nil _, B1⟩
    · have hE : E = 0 := by have := HEb.out; simpa using this
      have HE0 : Hid (callsE n cs = 0) := HE.out.trans hE
      obtain ⟨⟨k, hk, hk1, hk6⟩, _, _⟩ := callsE_ok HE0.out
      subst hk
      clear hE
      have HZ0 : Hid (Z = numZ (knowG k cs)) := HZ.out.symm.trans (by rw [playZ, if_pos HE0.out, Int.toNat_natCast])
      have HD0 : Hid (D = (knowG k cs).all (fun x => x == fullG k)) := HD.out.symm.trans (by rw [doneZ, HE0.out, Int.toNat_natCast]; simp)
      have HPl : Hid _ := rPlay_c k (.slice p N cap) cs HE0.out w1 (HC.out.below B1.out)
      have HSl : Hid ((knowG k cs).length = k) := knowG_len _ _
      have HSm : Hid (smallG k (knowG k cs)) := knowG_small _ _
      generalize knowG k cs = s at HZ0 HD0 HPl HSl HSm
      obtain ⟨O, HO⟩ : ∃ O, Hid (gridO s = O) := ⟨_, rfl⟩
      rw [HO.out] at HPl
      have hp6 : 2 ^ k ≤ 64 := Nat.pow_le_pow_right (n := 2) (by omega) hk6
      have HSm64 : Hid (∀ i, s.getD i 0 < 64) := fun i => Nat.lt_of_lt_of_le (HSm.out i) hp6
      clear hp6
      go_wp2_with fail
      refine Calls.mono HPl.out ?_
      rintro e w2 ⟨rfl, hb⟩
      have B2 : Hid (Below w.heap.size w w2) := B1.out.trans (hb.mono B1.out.size)
      clear hb HPl B1
      unfold ag36
      have HB3 : Hid (w.heap.size ≤ w2.heap.size) := B2.out.size
      have HI36 : Hid ((Tryd.prog.info? 29).map (·.size) = some (rowB O).size) := by show _ = _; rw [rowB_size]; kernel_rfl
      go_wp2_with (refine wpList_store_row rfl 29 _ _ rfl _ (rowB O) rfl rfl 29 _ (alloc_at _ _ _ rfl) HI36.out (by rw [rowB_size]; rfl) (rowB_one O) ?_)
      go_loopw [6, 7, 9] (fun c6 c7 c9 wr => ∃ (i : Nat) (u : Value) (d : Bool), i ≤ k ∧ c6 = u ∧ c7 = .bool d ∧ c9 = .int .i64 i ∧ Hid (d = (s.take i).all (fun x => x == fullG k)) ∧ Hid (wr.ownsRow (w2.heap.size + 1) 3 1 u (numZ (s.take i)).length (intC (numZ (s.take i)))) ∧ Hid (GridAt wr w2.heap.size O) ∧ Hid (Below w.heap.size w wr)) (fun _ _ c9 _ => k - (intOf c9).toNat)
      case atStart => exact ⟨0, _, _, Nat.zero_le _, rfl, rfl, rfl, by show _ = _; simp, ⟨by simp [numZ, intC], .inl ⟨rfl, by simp [numZ]⟩⟩, grid_of_row (setRow_at (alloc_at _ _ _ rfl) _), below_setRow (B2.out.alloc B2.out.size _) B2.out.size _⟩
      case round =>
        obtain ⟨i, u, d, hi, hu, hd, rfl, HDd, HOw, HGr, HB⟩ := hrel
        have hu' := hu.symm
        subst hu'
        have hd' := hd.symm
        subst hd
        by_cases hik : i < k
        · have hiki : (i : Int) < (k : Int) := by omega
          have hi6 : (i : Int) < 6 := by omega
          have his : i < s.length := by rw [HSl.out]; exact hik
          have HNz : Hid (numZ (s.take (i + 1)) = numZ (s.take i) ++ [((s.getD i 0 : Nat) : Int)]) := numZ_take his
          have HAl : Hid ((s.take (i + 1)).all (fun x => x == fullG k) = ((s.take i).all (fun x => x == fullG k) && (s.getD i 0 == fullG k))) := all_take his
          have HBit : Hid (∀ t, t < 6 → O (i * 6 + t) = (s.getD i 0).testBit t) := fun t ht => by rw [← HO.out]; exact grid_at s i t ht
          have HX64 : Hid (s.getD i 0 < 64) := HSm64.out i
          have HXk : Hid (s.getD i 0 % 2 ^ k = s.getD i 0) := Nat.mod_eq_of_lt (HSm.out i)
          have HLen : Hid ((numZ (s.take i)).length ≤ 100) := by
            show _ ≤ _
            rw [numZ, List.length_map, List.length_take]
            omega
          generalize s.getD i 0 = X at HNz HAl HBit HX64 HXk
          obtain ⟨w4, hren⟩ : ∃ x, x = wr := ⟨_, rfl⟩
          subst hren
          go_wp2_with fail
          go_loopw [7, 10, 11, 12] (fun c7 c10 c11 c12 wr => wr = w4 ∧ ∃ (t : Nat) (d' : Bool), t ≤ k ∧ c12 = .int .i64 t ∧ c7 = .bool d' ∧ c10 = .int .i64 ((X % 2 ^ t : Nat) : Int) ∧ c11 = .int .i64 ((2 ^ t : Nat) : Int) ∧ Hid (d' = (d && decide (X % 2 ^ t = 2 ^ t - 1)))) (fun _ _ _ c12 _ => k - (intOf c12).toNat)
          case atStart => exact ⟨rfl, 0, _, Nat.zero_le _, rfl, rfl, by simp [Nat.mod_one], rfl, by show _ = _; simp [Nat.mod_one]⟩
          case round =>
            obtain ⟨hwr, t, d', ht, rfl, hd', rfl, rfl, HD'⟩ := hrel
            subst hd'
            subst hwr
            by_cases htk : t < k
            · have htki : (t : Int) < (k : Int) := by omega
              have ht6 : (t : Int) < 6 := by omega
              have c0 := HGr.out.cell (i * 6 + t) (by omega)
              rw [HBit.out t (by omega)] at c0
              have hP : 2 ^ t ≤ 32 := Nat.pow_le_pow_right (n := 2) (by omega) (show t ≤ 5 by omega)
              have hP0 : 1 ≤ 2 ^ t := Nat.one_le_two_pow
              have hP2 : 2 ^ (t + 1) = 2 * 2 ^ t := by rw [Nat.pow_succ]; omega
              have hMP : X % 2 ^ t < 2 ^ t := Nat.mod_lt _ hP0
              have hyes : X.testBit t = true → X % 2 ^ (t + 1) = X % 2 ^ t + 2 ^ t := fun h => bit_yes h
              have hno : X.testBit t = false → X % 2 ^ (t + 1) = X % 2 ^ t := fun h => bit_no h
              have HD2 : Hid (d' = (d && decide (X % 2 ^ t = 2 ^ t - 1))) := HD'
              obtain ⟨M', HM'⟩ : ∃ M', Hid (X % 2 ^ (t + 1) = M') := ⟨X % 2 ^ (t + 1), show X % 2 ^ (t + 1) = X % 2 ^ (t + 1) from rfl⟩
              obtain ⟨P', HP'⟩ : ∃ P', Hid (2 ^ (t + 1) = P') := ⟨2 ^ (t + 1), show 2 ^ (t + 1) = 2 ^ (t + 1) from rfl⟩
              rw [HM'.out] at hyes hno
              rw [HP'.out] at hP2
              generalize X % 2 ^ t = M at hMP hyes hno HD2 HD' ⊢
              generalize 2 ^ t = P at hP hP0 hP2 hMP hyes HD2 HD' ⊢
              have HPi : Hid ((2 : Int) * (P : Int) = (P' : Int)) := by show _ = _; omega
              cases hbt : X.testBit t
              · have HR : Hid (M = M') := (hno hbt).symm
                have HDf : Hid (false = (d && decide (M' = P' - 1))) := by
                  have e := HR.out
                  have : ¬ M' = P' - 1 := by omega
                  show _ = _
                  simp [this]
                rw [hbt] at c0
                clear hyes hno HD2 HD' hbt
                go_wp2_with fail
                go_roundw
                case rel => exact ⟨by trivial, t + 1, false, by omega, by go_num, rfl, by rw [HM'.out, ← HR.out], by rw [HP'.out, ← HPi.out] <;> go_num, by rw [HM'.out, HP'.out]; exact HDf⟩
                case measure => simp [intOf]; omega
              · have HR : Hid (M' = M + P) := hyes hbt
                have HDt : Hid (d' = (d && decide (M' = P' - 1))) := by
                  have e := HR.out
                  have e2 := HD2.out
                  show _ = _
                  rw [e2]
                  congr 1
                  rw [decide_eq_decide]
                  omega
                rw [hbt] at c0
                clear hyes hno HD2 HD' hbt
                go_wp2_with fail
                go_roundw
                case rel => exact ⟨by trivial, t + 1, d', by omega, by go_num, rfl, by rw [HM'.out, HR.out] <;> go_num, by rw [HP'.out, ← HPi.out] <;> go_num, by rw [HM'.out, HP'.out]; exact HDt⟩
                case measure => simp [intOf]; omega
            · obtain rfl : t = k := by omega
              have HD3 : Hid (d' = (s.take (i + 1)).all (fun x => x == fullG t)) := by
                show _ = _
                rw [HD'.out, HAl.out, HDd.out, HXk.out]
                rfl
              rw [HXk.out]
              obtain ⟨P, HP⟩ : ∃ P, Hid (2 ^ t = P) := ⟨2 ^ t, show 2 ^ t = 2 ^ t from rfl⟩
              rw [HP.out]
              have hsz : w.heap.size ≤ wr.heap.size := HB.out.size
              have HBb : Hid (Below w.heap.size w (wr.alloc (.cells #[.int .i64 (X : Nat)] 3))) := HB.out.alloc hsz _
              have HOb : Hid ((wr.alloc (.cells #[.int .i64 (X : Nat)] 3)).ownsRow (w2.heap.size + 1) 3 1 u (numZ (s.take i)).length (intC (numZ (s.take i)))) := ownsRow_belowF HOw.out (by go_grown)
              have HVb : Hid ((wr.alloc (.cells #[.int .i64 (X : Nat)] 3)).heap[wr.heap.size]? = some (.cells #[.int .i64 (X : Nat)] 3 (0, 0))) := alloc_at _ _ _ rfl
              have HSb : Hid (w2.heap.size + 1 ≤ (wr.alloc (.cells #[.int .i64 (X : Nat)] 3)).heap.size) := by
                have := HGr.out.lt
                show _ ≤ _
                simp
                omega
              have HGb : Hid (GridAt (wr.alloc (.cells #[.int .i64 (X : Nat)] 3)) w2.heap.size O) := HGr.out.grown (by go_grown)
              go_wp2_with (at_builtin; refine wp_appI _ rfl _ _ rfl (w2.heap.size + 1) _ (numZ (s.take i)) (X : Nat) rfl HOb.out _ rfl HVb.out HLen.out HSb.out ?_)
              intro va wa hown hgrow
              have HOp : Hid (wa.ownsRow (w2.heap.size + 1) 3 1 va (numZ (s.take (i + 1))).length (intC (numZ (s.take (i + 1))))) := by rw [HNz.out]; exact hown
              have HBp : Hid (Below w.heap.size w wa) := below_grownF HBb.out (Nat.le_refl _) hgrow.out (fun c hc => by have := ownsRow_fromF HOw.out c hc; have := HB3.out; omega)
              have HGp : Hid (GridAt wa w2.heap.size O) := HGb.out.of_block (hgrow.out.block w2.heap.size HGb.out.lt (fun e => by have := ownsRow_fromF HOw.out w2.heap.size e.symm; omega))
              clear hown hgrow HBb HOb HVb HSb HGb
              go_wp2_with fail
              go_roundw
              case rel => exact ⟨i + 1, va, d', by omega, rfl, rfl, by go_num, HD3, HOp, HGp, HBp⟩
              case measure => simp [intOf]; omega
        · obtain rfl : i = k := by omega
          have hts : s.take i = s := List.take_of_length_le (by rw [HSl.out]; exact Nat.le_refl _)
          rw [hts] at HDd HOw
          clear hts
          go_wp2_with fail
          go_meet
          case rel => exact ⟨by rw [HD0.out, HDd.out], by rw [HZ0.out]; exact IntsIs.own HOw.out, HB⟩
  case rest =>
  obtain ⟨rfl, HI2, B2⟩ := hcut
  obtain ⟨w2, hren⟩ : ∃ x, x = wc := ⟨_, rfl⟩
  subst hren
  clear B1
  go_wp2_with fail
  refine (play_n n _ cs E Z HE.out HZ.out _ (HC.out.below B2.out)).mono ?_
  rintro e w3 ⟨⟨u, rfl, hu⟩, hb⟩
  have HU3 : Hid (IntsIs w3 u Z) := hu
  have HI3 : Hid (IntsIs _ _ _) := HI2.out.below hb
  have B3 : Hid (Below w.heap.size w w3) := B2.out.trans (hb.mono B2.out.size)
  clear hu hb HI2 B2
  obtain ⟨EV, HEV⟩ : ∃ x, Hid (eV E = x) := ⟨_, rfl⟩
  rw [HEV.out]
  go_wp2_with fail
  rw [← HEV.out]
  refine (err_same E _ (HG.out.below hlt B3.out)).mono ?_
  rintro e w4 ⟨rfl, hb⟩
  have HU4 : Hid (IntsIs w4 u Z) := HU3.out.below hb
  have HI4 : Hid (IntsIs _ _ _) := HI3.out.below hb
  have B4 : Hid (Below w.heap.size w w4) := B3.out.trans (hb.mono B3.out.size)
  clear hb HU3 HI3 B3
  rw [HEV.out]
  go_wp2_with fail
  refine (ints_same _ _ Z _ HU4.out HI4.out).mono ?_
  rintro e w5 ⟨rfl, hb⟩
  have B5 : Hid (Below w.heap.size w w5) := B4.out.trans (hb.mono B4.out.size)
  clear hb HU4 HI4 B4
  go_wp2_with fail
  refine (done_n n _ cs E D HE.out HD.out _ (HC.out.below B5.out)).mono ?_
  rintro e w6 ⟨rfl, hb⟩
  have B6 : Hid (Below w.heap.size w w6) := B5.out.trans (hb.mono B5.out.size)
  clear hb B5
  rw [HEV.out]
  go_upto_region 22 with fail
  go_cut [17] (fun c wc => c = .bool true ∧ Hid (Below w.heap.size w wc))
  case first =>
    go_wp2_with fail
    rw [← HEV.out]
    refine (err_same E _ (HG.out.below hlt B6.out)).mono ?_
    rintro e w7 ⟨rfl, hb⟩
    have B7 : Hid (Below w.heap.size w w7) := B6.out.trans (hb.mono B6.out.size)
    clear hb
    rw [HEV.out]
    cases D
    · go_wp2_with fail
      go_meet
      case rel => exact ⟨rfl, B7⟩
    · go_wp2_with fail
      go_meet
      case rel => exact ⟨rfl, B7⟩
  case rest =>
  obtain ⟨rfl, B7⟩ := hcut
  obtain ⟨w7, hren⟩ : ∃ x, x = wc := ⟨_, rfl⟩
  subst hren
  clear B6
  obtain ⟨nb, HNb⟩ : ∃ c, Hid (inR n 1 6 = c) := ⟨_, rfl⟩
  obtain ⟨F, HF⟩ : ∃ F : Int, Hid ((if inR n 1 6 = true then 0 else 1) = F) := ⟨_, rfl⟩
  go_upto_region 25 with fail
  go_cut [88] (fun c wc => wc = w7 ∧ c = .bool (!nb))
  case first =>
    by_cases h1 : n < 1
    · obtain rfl : nb = false := by rw [← HNb.out]; simp [inR]; omega
      go_wp2_with fail
      go_meet
      case rel => exact ⟨rfl, rfl⟩
    · by_cases h6 : 6 < n
      · obtain rfl : nb = false := by rw [← HNb.out]; simp [inR]; omega
        go_wp2_with fail
        go_meet
        case rel => exact ⟨rfl, rfl⟩
      · obtain rfl : nb = true := by rw [← HNb.out]; simp [inR]; omega
        go_wp2_with fail
        go_meet
        case rel => exact ⟨rfl, rfl⟩
  case rest =>
  obtain ⟨hwc, rfl⟩ := hcut
  have hwc' := hwc.symm
  subst hwc'
  go_upto_if 88 with fail
  go_cut [5] (fun c wc => wc = w7 ∧ c = .int .i64 F)
  case first =>
    cases nb
    · have HF1 : Hid (F = 1) := HF.out.symm.trans (by rw [HNb.out]; rfl)
      go_wp2_with fail
      go_meet
      case rel => exact ⟨rfl, by rw [HF1.out]⟩
    · have HF1 : Hid (F = 0) := HF.out.symm.trans (by rw [HNb.out]; rfl)
      go_wp2_with fail
      go_meet
      case rel => exact ⟨rfl, by rw [HF1.out]⟩
  case rest =>
  obtain ⟨hwc, rfl⟩ := hcut
  have hwc' := hwc.symm
  subst hwc'
  obtain ⟨wB, hren⟩ : ∃ x, x = w7 := ⟨_, rfl⟩
  subst hren
  have B5 : Hid (Below w.heap.size w wB) := B7
  clear B7
  go_upto_block 4 with fail
  go_cut [18] (fun c wc => Hid (CallsIs wc c (planP n)) ∧ Hid (Below w.heap.size w wc))
  case first =>
    cases nb
    · have hb := HNb.out
      have h2 : (n == 2) = false := by simp [inR] at hb; simp; omega
      have h3 : (n == 3) = false := by simp [inR] at hb; simp; omega
      have h4 : (n == 4) = false := by simp [inR] at hb; simp; omega
      have h5 : (n == 5) = false := by simp [inR] at hb; simp; omega
      have h6 : (n == 6) = false := by simp [inR] at hb; simp; omega
      have HPl : Hid (planP n = []) := by show _ = _; rw [planP, hb]; rfl
      clear hb
      go_wp2_with fail
      go_meet
      case rel => exact ⟨by rw [HPl.out]; exact CallsIs.nil _, B5⟩
    · obtain ⟨k, hk, hk1, hk6⟩ := inR_nat HNb.out
      have h16 : k = 1 ∨ k = 2 ∨ k = 3 ∨ k = 4 ∨ k = 5 ∨ k = 6 := by omega
      clear hk1 hk6
      subst hk
      rcases h16 with rfl | rfl | rfl | rfl | rfl | rfl
      · have HPl : Hid (planP ((1 : Nat) : Int) = []) := by show _ = _; decide +kernel
        go_wp2_with fail
        go_meet
        case rel => exact ⟨by rw [HPl.out]; exact CallsIs.nil _, B5⟩
      · have HPl : Hid (planP ((2 : Nat) : Int) = [[0, 1]]) := by show _ = _; decide +kernel
        go_wp2_with fail
        go_meet
        case rel =>
          rw [HPl.out]
          refine ⟨Hold.calls (us := [.slice (some ⟨wB.heap.size, 0, none⟩) 2 2]) (((ints_new wB 0 1 _ (by simp)).below (by go_grown)).hold (Hold.nil _)) (vals_cells (us := [.slice (some ⟨wB.heap.size, 0, none⟩) 2 2]) (by simp [maxLen]) (by simp) (fun j hj => ?_)), B5.out.trans ((show Below wB.heap.size wB _ by go_grown).mono B5.out.size)⟩
          rw [World.cell?_alloc_at _ _ _ _ (by simp)]
          match j, hj with
          | 0, _ => rfl
      · have HPl : Hid (planP ((3 : Nat) : Int) = [[0, 1], [0, 2], [0, 1]]) := by show _ = _; decide +kernel
        go_wp2_with fail
        go_meet
        case rel =>
          rw [HPl.out]
          refine ⟨Hold.calls (us := [.slice (some ⟨wB.heap.size, 0, none⟩) 2 2, .slice (some ⟨wB.heap.size + 1, 0, none⟩) 2 2, .slice (some ⟨wB.heap.size + 1 + 1, 0, none⟩) 2 2]) (((ints_new wB 0 1 _ (by simp)).below (by go_grown)).hold (((ints_new (wB.alloc (.cells #[.int .i64 0, .int .i64 1] 3)) 0 2 _ (by simp)).below (by go_grown)).hold (((ints_new ((wB.alloc (.cells #[.int .i64 0, .int .i64 1] 3)).alloc (.cells #[.int .i64 0, .int .i64 2] 3)) 0 1 _ (by simp)).below (by go_grown)).hold (Hold.nil _)))) (vals_cells (us := [.slice (some ⟨wB.heap.size, 0, none⟩) 2 2, .slice (some ⟨wB.heap.size + 1, 0, none⟩) 2 2, .slice (some ⟨wB.heap.size + 1 + 1, 0, none⟩) 2 2]) (by simp [maxLen]) (by simp) (fun j hj => ?_)), B5.out.trans ((show Below wB.heap.size wB _ by go_grown).mono B5.out.size)⟩
          rw [World.cell?_alloc_at _ _ _ _ (by simp)]
          match j, hj with
          | 0, _ => rfl
          | 1, _ => rfl
          | 2, _ => rfl
      · have HPl : Hid (planP ((4 : Nat) : Int) = [[0, 1], [2, 3], [0, 2], [1, 3]]) := by show _ = _; decide +kernel
        go_wp2_with fail
        go_meet
        case rel =>
          rw [HPl.out]
          refine ⟨Hold.calls (us := [.slice (some ⟨wB.heap.size, 0, none⟩) 2 2, .slice (some ⟨wB.heap.size + 1, 0, none⟩) 2 2, .slice (some ⟨wB.heap.size + 1 + 1, 0, none⟩) 2 2, .slice (some ⟨wB.heap.size + 1 + 1 + 1, 0, none⟩) 2 2]) (((ints_new wB 0 1 _ (by simp)).below (by go_grown)).hold (((ints_new (wB.alloc (.cells #[.int .i64 0, .int .i64 1] 3)) 2 3 _ (by simp)).below (by go_grown)).hold (((ints_new ((wB.alloc (.cells #[.int .i64 0, .int .i64 1] 3)).alloc (.cells #[.int .i64 2, .int .i64 3] 3)) 0 2 _ (by simp)).below (by go_grown)).hold (((ints_new (((wB.alloc (.cells #[.int .i64 0, .int .i64 1] 3)).alloc (.cells #[.int .i64 2, .int .i64 3] 3)).alloc (.cells #[.int .i64 0, .int .i64 2] 3)) 1 3 _ (by simp)).below (by go_grown)).hold (Hold.nil _))))) (vals_cells (us := [.slice (some ⟨wB.heap.size, 0, none⟩) 2 2, .slice (some ⟨wB.heap.size + 1, 0, none⟩) 2 2, .slice (some ⟨wB.heap.size + 1 + 1, 0, none⟩) 2 2, .slice (some ⟨wB.heap.size + 1 + 1 + 1, 0, none⟩) 2 2]) (by simp [maxLen]) (by simp) (fun j hj => ?_)), B5.out.trans ((show Below wB.heap.size wB _ by go_grown).mono B5.out.size)⟩
          rw [World.cell?_alloc_at _ _ _ _ (by simp)]
          match j, hj with
          | 0, _ => rfl
          | 1, _ => rfl
          | 2, _ => rfl
          | 3, _ => rfl
      · have HPl : Hid (planP ((5 : Nat) : Int) = [[4, 0], [0, 1], [2, 3], [0, 2], [1, 3], [4, 0]]) := by show _ = _; decide +kernel
        go_wp2_with fail
        go_meet
        case rel =>
          rw [HPl.out]
          refine ⟨Hold.calls (us := [.slice (some ⟨wB.heap.size, 0, none⟩) 2 2, .slice (some ⟨wB.heap.size + 1, 0, none⟩) 2 2, .slice (some ⟨wB.heap.size + 1 + 1, 0, none⟩) 2 2, .slice (some ⟨wB.heap.size + 1 + 1 + 1, 0, none⟩) 2 2, .slice (some ⟨wB.heap.size + 1 + 1 + 1 + 1, 0, none⟩) 2 2, .slice (some ⟨wB.heap.size + 1 + 1 + 1 + 1 + 1, 0, none⟩) 2 2]) (((ints_new wB 4 0 _ (by simp)).below (by go_grown)).hold (((ints_new (wB.alloc (.cells #[.int .i64 4, .int .i64 0] 3)) 0 1 _ (by simp)).below (by go_grown)).hold (((ints_new ((wB.alloc (.cells #[.int .i64 4, .int .i64 0] 3)).alloc (.cells #[.int .i64 0, .int .i64 1] 3)) 2 3 _ (by simp)).below (by go_grown)).hold (((ints_new (((wB.alloc (.cells #[.int .i64 4, .int .i64 0] 3)).alloc (.cells #[.int .i64 0, .int .i64 1] 3)).alloc (.cells #[.int .i64 2, .int .i64 3] 3)) 0 2 _ (by simp)).below (by go_grown)).hold (((ints_new ((((wB.alloc (.cells #[.int .i64 4, .int .i64 0] 3)).alloc (.cells #[.int .i64 0, .int .i64 1] 3)).alloc (.cells #[.int .i64 2, .int .i64 3] 3)).alloc (.cells #[.int .i64 0, .int .i64 2] 3)) 1 3 _ (by simp)).below (by go_grown)).hold (((ints_new (((((wB.alloc (.cells #[.int .i64 4, .int .i64 0] 3)).alloc (.cells #[.int .i64 0, .int .i64 1] 3)).alloc (.cells #[.int .i64 2, .int .i64 3] 3)).alloc (.cells #[.int .i64 0, .int .i64 2] 3)).alloc (.cells #[.int .i64 1, .int .i64 3] 3)) 4 0 _ (by simp)).below (by go_grown)).hold (Hold.nil _))))))) (vals_cells (us := [.slice (some ⟨wB.heap.size, 0, none⟩) 2 2, .slice (some ⟨wB.heap.size + 1, 0, none⟩) 2 2, .slice (some ⟨wB.heap.size + 1 + 1, 0, none⟩) 2 2, .slice (some ⟨wB.heap.size + 1 + 1 + 1, 0, none⟩) 2 2, .slice (some ⟨wB.heap.size + 1 + 1 + 1 + 1, 0, none⟩) 2 2, .slice (some ⟨wB.heap.size + 1 + 1 + 1 + 1 + 1, 0, none⟩) 2 2]) (by simp [maxLen]) (by simp) (fun j hj => ?_)), B5.out.trans ((show Below wB.heap.size wB _ by go_grown).mono B5.out.size)⟩
          rw [World.cell?_alloc_at _ _ _ _ (by simp)]
          match j, hj with
          | 0, _ => rfl
          | 1, _ => rfl
          | 2, _ => rfl
          | 3, _ => rfl
          | 4, _ => rfl
          | 5, _ => rfl
      · have HPl : Hid (planP ((6 : Nat) : Int) = [[4, 0], [5, 0], [0, 1], [2, 3], [0, 2], [1, 3], [4, 0], [5, 0]]) := by show _ = _; decide +kernel
        go_wp2_with fail
        go_meet
        case rel =>
          rw [HPl.out]
          refine ⟨Hold.calls (us := [.slice (some ⟨wB.heap.size, 0, none⟩) 2 2, .slice (some ⟨wB.heap.size + 1, 0, none⟩) 2 2, .slice (some ⟨wB.heap.size + 1 + 1, 0, none⟩) 2 2, .slice (some ⟨wB.heap.size + 1 + 1 + 1, 0, none⟩) 2 2, .slice (some ⟨wB.heap.size + 1 + 1 + 1 + 1, 0, none⟩) 2 2, .slice (some ⟨wB.heap.size + 1 + 1 + 1 + 1 + 1, 0, none⟩) 2 2, .slice (some ⟨wB.heap.size + 1 + 1 + 1 + 1 + 1 + 1, 0, none⟩) 2 2, .slice (some ⟨wB.heap.size + 1 + 1 + 1 + 1 + 1 + 1 + 1, 0, none⟩) 2 2]) (((ints_new wB 4 0 _ (by simp)).below (by go_grown)).hold (((ints_new (wB.alloc (.cells #[.int .i64 4, .int .i64 0] 3)) 5 0 _ (by simp)).below (by go_grown)).hold (((ints_new ((wB.alloc (.cells #[.int .i64 4, .int .i64 0] 3)).alloc (.cells #[.int .i64 5, .int .i64 0] 3)) 0 1 _ (by simp)).below (by go_grown)).hold (((ints_new (((wB.alloc (.cells #[.int .i64 4, .int .i64 0] 3)).alloc (.cells #[.int .i64 5, .int .i64 0] 3)).alloc (.cells #[.int .i64 0, .int .i64 1] 3)) 2 3 _ (by simp)).below (by go_grown)).hold (((ints_new ((((wB.alloc (.cells #[.int .i64 4, .int .i64 0] 3)).alloc (.cells #[.int .i64 5, .int .i64 0] 3)).alloc (.cells #[.int .i64 0, .int .i64 1] 3)).alloc (.cells #[.int .i64 2, .int .i64 3] 3)) 0 2 _ (by simp)).below (by go_grown)).hold (((ints_new (((((wB.alloc (.cells #[.int .i64 4, .int .i64 0] 3)).alloc (.cells #[.int .i64 5, .int .i64 0] 3)).alloc (.cells #[.int .i64 0, .int .i64 1] 3)).alloc (.cells #[.int .i64 2, .int .i64 3] 3)).alloc (.cells #[.int .i64 0, .int .i64 2] 3)) 1 3 _ (by simp)).below (by go_grown)).hold (((ints_new ((((((wB.alloc (.cells #[.int .i64 4, .int .i64 0] 3)).alloc (.cells #[.int .i64 5, .int .i64 0] 3)).alloc (.cells #[.int .i64 0, .int .i64 1] 3)).alloc (.cells #[.int .i64 2, .int .i64 3] 3)).alloc (.cells #[.int .i64 0, .int .i64 2] 3)).alloc (.cells #[.int .i64 1, .int .i64 3] 3)) 4 0 _ (by simp)).below (by go_grown)).hold (((ints_new (((((((wB.alloc (.cells #[.int .i64 4, .int .i64 0] 3)).alloc (.cells #[.int .i64 5, .int .i64 0] 3)).alloc (.cells #[.int .i64 0, .int .i64 1] 3)).alloc (.cells #[.int .i64 2, .int .i64 3] 3)).alloc (.cells #[.int .i64 0, .int .i64 2] 3)).alloc (.cells #[.int .i64 1, .int .i64 3] 3)).alloc (.cells #[.int .i64 4, .int .i64 0] 3)) 5 0 _ (by simp)).below (by go_grown)).hold (Hold.nil _))))))))) (vals_cells (us := [.slice (some ⟨wB.heap.size, 0, none⟩) 2 2, .slice (some ⟨wB.heap.size + 1, 0, none⟩) 2 2, .slice (some ⟨wB.heap.size + 1 + 1, 0, none⟩) 2 2, .slice (some ⟨wB.heap.size + 1 + 1 + 1, 0, none⟩) 2 2, .slice (some ⟨wB.heap.size + 1 + 1 + 1 + 1, 0, none⟩) 2 2, .slice (some ⟨wB.heap.size + 1 + 1 + 1 + 1 + 1, 0, none⟩) 2 2, .slice (some ⟨wB.heap.size + 1 + 1 + 1 + 1 + 1 + 1, 0, none⟩) 2 2, .slice (some ⟨wB.heap.size + 1 + 1 + 1 + 1 + 1 + 1 + 1, 0, none⟩) 2 2]) (by simp [maxLen]) (by simp) (fun j hj => ?_)), B5.out.trans ((show Below wB.heap.size wB _ by go_grown).mono B5.out.size)⟩
          rw [World.cell?_alloc_at _ _ _ _ (by simp)]
          match j, hj with
          | 0, _ => rfl
          | 1, _ => rfl
          | 2, _ => rfl
          | 3, _ => rfl
          | 4, _ => rfl
          | 5, _ => rfl
          | 6, _ => rfl
          | 7, _ => rfl
  case rest =>
  obtain ⟨HP8, B8⟩ := hcut
  obtain ⟨w8, hren⟩ : ∃ x, x = wc := ⟨_, rfl⟩
  subst hren
  clear B5
  go_wp2_with fail
  refine (plan_n n F HF.out _).mono ?_
  rintro e w9 ⟨⟨x, rfl, hx⟩, hb⟩
  have HX9 : Hid (CallsIs w9 x (planP n)) := hx
  have HP9 : Hid (CallsIs _ _ _) := HP8.out.below hb
  have B9 : Hid (Below w.heap.size w w9) := B8.out.trans (hb.mono B8.out.size)
  clear hx hb HP8 B8
  obtain ⟨FV, HFV⟩ : ∃ x, Hid (eV F = x) := ⟨_, rfl⟩
  rw [HFV.out]
  go_wp2_with fail
  rw [← HFV.out]
  refine (err_same F _ (HG.out.below hlt B9.out)).mono ?_
  rintro e wa ⟨rfl, hb⟩
  have HXa : Hid (CallsIs wa x (planP n)) := HX9.out.below hb
  have HPa : Hid (CallsIs _ _ _) := HP9.out.below hb
  have Ba : Hid (Below w.heap.size w wa) := B9.out.trans (hb.mono B9.out.size)
  clear hb HX9 HP9 B9
  rw [HFV.out]
  go_wp2_with fail
  refine (sameCalls_c _ _ (planP n) _ HXa.out HPa.out).mono ?_
  rintro e wb ⟨rfl, hb⟩
  have Bb : Hid (Below w.heap.size w wb) := Ba.out.trans (hb.mono Ba.out.size)
  clear hb
  go_wp2_with fail
  go_ret
  exact ⟨rfl, Bb.out⟩
end Go.Proofs.YtnffnmmhbnljcahDoor
