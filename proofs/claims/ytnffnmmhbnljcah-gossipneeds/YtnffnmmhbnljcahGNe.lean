/-
  merelaw2.GossipNeeds answers true, whatever the number, the calls and the call more.
-/
import Derived.Test.YtnffnmmhbnljcahGsY
import Derived.Test.YtnffnmmhbnljcahGsN
import Derived.Test.YtnffnmmhbnljcahGoQ
import Derived.Deep.DeepCutAuto
import Derived.Deep.CutBlock
import Derived.WalkSmall
namespace Go.Proofs.Ytnffnmmhbnljcah
set_option linter.unusedVariables false
set_option linter.unusedSimpArgs false
open Go.RowKit

theorem plan_len {k : Nat} (h1 : 1 ≤ k) (h6 : k ≤ 6) : (planL k).length = planG k := by
  have h : k = 1 ∨ k = 2 ∨ k = 3 ∨ k = 4 ∨ k = 5 ∨ k = 6 := by omega
  rcases h with rfl | rfl | rfl | rfl | rfl | rfl <;> decide
theorem plan_fine {k : Nat} (h1 : 1 ≤ k) (h6 : k ≤ 6) : callsE k (planL k) = 0 ∧ (knowG k (planL k)).all (fun x => x == fullG k) = true := by
  have h : k = 1 ∨ k = 2 ∨ k = 3 ∨ k = 4 ∨ k = 5 ∨ k = 6 := by omega
  rcases h with rfl | rfl | rfl | rfl | rfl | rfl <;> decide +kernel
theorem needs_list {k : Nat} {cs : List (List Int)} (hE : callsE k cs = 0) (hd : (knowG k cs).all (fun x => x == fullG k) = true) : ¬ cs.length < (planL k).length := by
  obtain ⟨⟨k', hk, h1, h6⟩, _, hok⟩ := callsE_ok hE
  obtain rfl : k' = k := by omega
  rw [plan_len h1 h6]
  intro hl
  refine gossip_needs h6 (cs := cs.map pairC) (fun c hc => ?_) (by simpa using hl) ((doneG_all (knowG_len _ _)).1 hd)
  obtain ⟨d, hd, rfl⟩ := List.mem_map.1 hc
  exact (callE_pair (hok d hd)).1
theorem know_more {k : Nat} {cs : List (List Int)} {mo : List Int} (hE : callsE k (cs ++ [mo]) = 0) (i t : Nat) (h : ((knowG k cs).getD i 0) / 2 ^ t % 2 = 1) : ((knowG k (cs ++ [mo])).getD i 0) / 2 ^ t % 2 = 1 := by
  obtain ⟨_, _, hok⟩ := callsE_ok hE
  obtain ⟨⟨h1, h2, h3⟩, _⟩ := callE_pair (hok mo (by simp))
  have e : knowG k (cs ++ [mo]) = stepG (knowG k cs) (pairC mo) := by rw [knowG, List.map_append, playG_app]; rfl
  have hl := knowG_len k cs
  rw [e]
  generalize knowG k cs = s at h hl
  generalize pairC mo = c at h1 h2 h3
  have tb : ∀ x : Nat, x / 2 ^ t % 2 = 1 ↔ x.testBit t = true := fun x => by rw [Nat.testBit_eq_decide_div_mod_eq]; simp
  rw [tb] at h ⊢
  by_cases i2 : i = c.2
  · subst i2
    rw [stepG_two (by omega), Nat.testBit_or, h, Bool.or_true]
  · by_cases i1 : i = c.1
    · subst i1
      rw [stepG_one (by omega) h3, Nat.testBit_or, h, Bool.true_or]
    · rw [stepG_other i1 i2]
      exact h
theorem fact_c (v : Value) (W : World) (h : CallsIs W v [[0, 1], [1, 2]]) :
    Calls Try.prog 5 #[.int .i64 3, v] W fun e w' => (∃ g, e = .returned (.tuple #[.slice (some ⟨g, 0, none⟩) 3 3, .nilIface]) ∧ w'.cell? ⟨g, 0, none⟩ = some (.int .i64 3) ∧ w'.cell? ⟨g, 1, none⟩ = some (.int .i64 7) ∧ w'.cell? ⟨g, 2, none⟩ = some (.int .i64 7)) ∧ Below W.heap.size W w' := by
  refine (play_ok 3 v [[0, 1], [1, 2]] (by decide +kernel) W h).mono ?_
  rintro e w' ⟨⟨g, rfl, hm, _⟩, hb⟩
  have e0 : atZ (knowG 3 [[0, 1], [1, 2]]) 0 = 3 := by decide +kernel
  have e1 : atZ (knowG 3 [[0, 1], [1, 2]]) 1 = 7 := by decide +kernel
  have e2 : atZ (knowG 3 [[0, 1], [1, 2]]) 2 = 7 := by decide +kernel
  exact ⟨⟨g, rfl, by rw [hm.cell 0 (by omega), e0], by rw [hm.cell 1 (by omega), e1], by rw [hm.cell 2 (by omega), e2]⟩, hb⟩
set_option maxRecDepth 100000 in
set_option maxHeartbeats 16000000 in
theorem gneeds_w (n : Int) (vc vm : Value) (cs : List (List Int)) (mo : List Int) (w : World) (hc : CallsIs w vc cs) (hm : IntsIs w vm mo) :
    Calls Try.prog 3 #[.int .i64 n, vc, vm] w fun e w' => e = .returned (.bool true) ∧ Below w.heap.size w w' := by
  have HCs : Hid (CallsIs w vc cs) := hc
  have HMo : Hid (IntsIs w vm mo) := hm
  obtain ⟨_, pc, kc, rfl, _⟩ := hc.parts
  obtain ⟨pm, km, rfl⟩ := hm.slice
  clear hc hm
  obtain ⟨nc, HNc⟩ : ∃ nc, Hid (cs.length = nc) := ⟨_, rfl⟩
  obtain ⟨nm, HNm⟩ : ∃ nm, Hid (mo.length = nm) := ⟨_, rfl⟩
  rw [HNc.out] at HCs ⊢
  rw [HNm.out] at HMo ⊢
  have HF : Hid (∀ W, W = ((w.alloc (.cells #[.int .i64 0, .int .i64 1] 3)).alloc (.cells #[.int .i64 1, .int .i64 2] 3)).alloc (.cells #[.slice (some ⟨w.heap.size, 0, none⟩) 2 2, .slice (some ⟨w.heap.size + 1, 0, none⟩) 2 2] 23) →
      Calls Try.prog 5 #[.int .i64 3, .slice (some ⟨w.heap.size + 1 + 1, 0, none⟩) 2 2] W fun e w' => (∃ g, e = .returned (.tuple #[.slice (some ⟨g, 0, none⟩) 3 3, .nilIface]) ∧ w'.cell? ⟨g, 0, none⟩ = some (.int .i64 3) ∧ w'.cell? ⟨g, 1, none⟩ = some (.int .i64 7) ∧ w'.cell? ⟨g, 2, none⟩ = some (.int .i64 7)) ∧ Below w.heap.size w w') := by
    rintro W rfl
    refine (fact_c _ _ (Hold.calls (us := [.slice (some ⟨w.heap.size, 0, none⟩) 2 2, .slice (some ⟨w.heap.size + 1, 0, none⟩) 2 2]) (((ints_new w 0 1 _ (by simp)).below (by go_grown)).hold (((ints_new (w.alloc (.cells #[.int .i64 0, .int .i64 1] 3)) 1 2 _ (by simp)).below (by go_grown)).hold (Hold.nil _))) (vals_cells (us := [.slice (some ⟨w.heap.size, 0, none⟩) 2 2, .slice (some ⟨w.heap.size + 1, 0, none⟩) 2 2]) (by simp [maxLen]) (by simp) (fun j hj => ?_)))).mono ?_
    · rw [World.cell?_alloc_at _ _ _ _ (by simp)]
      match j, hj with
      | 0, _ => rfl
      | 1, _ => rfl
    · rintro e w' ⟨h, hb⟩
      exact ⟨h, (show Below w.heap.size w _ by go_grown).trans (hb.mono (by simp; omega))⟩
  go_enter Try.func3, Try.ntmps3
  go_wp2_with fail
  refine Calls.mono (HF.out _ rfl) ?_
  rintro e w1 ⟨⟨g, rfl, c0, c1, c2⟩, hb⟩
  have B1 : Hid (Below w.heap.size w w1) := hb
  clear hb HF
  cases hb : inR n 1 6
  · have HB : Hid (inR n 1 6 = false) := hb
    have h16 : n < 1 ∨ 6 < n := by simp [inR] at hb; omega
    clear hb
    go_wp2_with fail
    refine (plan_bad n HB.out _).mono ?_
    rintro e w2 ⟨rfl, hw2⟩
    have hw2' := hw2.symm
    subst hw2'
    clear c0 c1 c2
    rw [eV_err (by omega)]
    rcases h16 with h | h
    · go_wp2_with fail
      go_ret
      exact ⟨rfl, B1.out⟩
    · have h1 : ¬ n < 1 := by omega
      go_wp2_with fail
      go_ret
      exact ⟨rfl, B1.out⟩
  · obtain ⟨k, rfl, hk1, hk6⟩ := inR_nat hb
    clear hb
    go_wp2_with fail
    refine (plan_ok k hk1 hk6 _).mono ?_
    rintro e w2 ⟨⟨vp, rfl, hp⟩, hb⟩
    have B2 : Hid (Below w.heap.size w w2) := B1.out.trans (hb.mono B1.out.size)
    have HP : Hid (CallsIs w2 vp (planL k)) := hp
    obtain ⟨_, pp, kp, rfl, _⟩ := hp.parts
    clear hb hp c0 c1 c2 B1
    obtain ⟨np, HNp⟩ : ∃ np, Hid ((planL k).length = np) := ⟨_, rfl⟩
    rw [HNp.out] at HP ⊢
    obtain ⟨hpl1, hpl2⟩ := plan_fine hk1 hk6
    have HP1 : Hid (callsE k (planL k) = 0) := hpl1
    have HP2 : Hid ((knowG k (planL k)).all (fun x => x == fullG k) = true) := hpl2
    clear hpl1 hpl2
    go_wp2_with fail
    refine (done_ok k _ (planL k) HP1.out true HP2.out _ HP.out).mono ?_
    rintro e w3 ⟨rfl, hb⟩
    have B3 : Hid (Below w.heap.size w w3) := B2.out.trans (hb.mono B2.out.size)
    clear hb B2 HP
    go_upto_region 8 with fail
    go_cut [91] (fun c wc => wc = w3 ∧ c = .bool false)
    case first =>
      have h6 : k = 1 ∨ k = 2 ∨ k = 3 ∨ k = 4 ∨ k = 5 ∨ k = 6 := by omega
      rcases h6 with rfl | rfl | rfl | rfl | rfl | rfl
      · go_wp2_with fail
        go_meet
        case rel => exact ⟨rfl, rfl⟩
      · go_wp2_with fail
        go_meet
        case rel => exact ⟨rfl, rfl⟩
      · go_wp2_with fail
        go_meet
        case rel => exact ⟨rfl, rfl⟩
      · obtain rfl : np = 4 := HNp.out.symm
        go_wp2_with fail
        go_meet
        case rel => exact ⟨rfl, rfl⟩
      · obtain rfl : np = 6 := HNp.out.symm
        go_wp2_with fail
        go_meet
        case rel => exact ⟨rfl, rfl⟩
      · obtain rfl : np = 8 := HNp.out.symm
        go_wp2_with fail
        go_meet
        case rel => exact ⟨rfl, rfl⟩
    case rest =>
    obtain ⟨hcut, rfl⟩ := hcut
    have hcut' := hcut.symm
    subst hcut'
    clear HP1 HP2
    have HC3 : Hid (CallsIs w3 (.slice pc nc kc) cs) := HCs.out.below B3.out
    obtain ⟨E, HE⟩ : ∃ E, Hid (callsE k cs = E) := ⟨_, rfl⟩
    by_cases hE : E = 0
    · subst hE
      obtain ⟨D, HD⟩ : ∃ D, Hid ((knowG k cs).all (fun x => x == fullG k) = D) := ⟨_, rfl⟩
      go_wp2_with fail
      refine (done_ok k _ cs HE.out D HD.out _ HC3.out).mono ?_
      rintro e w4 ⟨rfl, hb⟩
      have B4 : Hid (Below w.heap.size w w4) := B3.out.trans (hb.mono B3.out.size)
      clear hb B3 HC3
      go_upto_region 13 with fail
      go_cut [107] (fun c wc => wc = w4 ∧ c = .bool false)
      case first =>
        cases D
        · go_wp2_with fail
          go_meet
          case rel => exact ⟨rfl, rfl⟩
        · have hnl : ¬ (nc : Int) < (np : Int) := by
            have := needs_list HE.out HD.out
            rw [HNc.out, HNp.out] at this
            omega
          go_wp2_with fail
          go_meet
          case rel => exact ⟨rfl, rfl⟩
      case rest =>
      obtain ⟨hcut, rfl⟩ := hcut
      have hcut' := hcut.symm
      subst hcut'
      clear HD
      obtain ⟨us, hus, hvs, his⟩ := HCs.out.below B4.out
      have HH4 : Hid (Hold w4 us cs) := ⟨hus, his⟩
      have HV4 : Hid (ValsIs w4 (.slice pc nc kc) us) := hvs
      have HL : Hid (([] : List Value).length + us.length ≤ 100) := by
        have := (callsE_ok HE.out).2.1
        show _ ≤ _
        simp
        omega
      have HL2 : Hid (([] ++ us).length ≤ 100) := by
        have := (callsE_ok HE.out).2.1
        show _ ≤ _
        simp
        omega
      have HM4 : Hid (IntsIs w4 (.slice pm nm km) mo) := HMo.out.below B4.out
      clear hus hvs his
      go_wp2_with (at_builtin; refine wp_appVs _ rfl _ _ rfl w4.heap.size _ [] rfl (OwnV.nil _ _) _ us rfl HV4.out HH4.out.cell1 HL.out (Nat.le_refl _) ?_)
      intro v5 w5 hown hgrow
      have O5 : Hid (OwnV w4.heap.size w5 v5 ([] ++ us)) := hown
      have G5 : Hid (Below w4.heap.size w4 w5) := below_grownF (Below.refl _ _) (Nat.le_refl _) hgrow.out (fun c hc => by cases hc)
      clear hown hgrow HV4
      have A5 : Hid (Below w4.heap.size w4 (w5.alloc (.cells #[.slice pm nm km] 23))) := G5.out.alloc G5.out.size _
      have O6 : Hid (OwnV w4.heap.size (w5.alloc (.cells #[.slice pm nm km] 23)) v5 ([] ++ us)) := O5.out.below (by go_grown)
      have HVb : Hid ((w5.alloc (.cells #[.slice pm nm km] 23)).heap[w5.heap.size]? = some (.cells #[.slice pm nm km] 23 (0, 0))) := alloc_at _ _ _ rfl
      have HSb : Hid (w4.heap.size ≤ (w5.alloc (.cells #[.slice pm nm km] 23)).heap.size) := by
        have := G5.out.size
        show _ ≤ _
        simp
        omega
      go_wp2_with (at_builtin; refine wp_appV _ rfl _ _ rfl w4.heap.size _ ([] ++ us) _ rfl O6.out _ rfl HVb.out rfl HL2.out HSb.out ?_)
      intro v6 w6 hown hgrow
      have G6 : Hid (Below w4.heap.size w4 w6) := below_grownF A5.out (Nat.le_refl _) hgrow.out (fun c hc => O5.out.from c hc)
      have HW6 : Hid (CallsIs w6 v6 (cs ++ [mo])) := by
        have hh := (HH4.out.below G6.out).app (Hold.one (HM4.out.below G6.out))
        refine hh.calls ?_
        have := hown.vals
        simpa using this
      have B6 : Hid (Below w.heap.size w w6) := B4.out.trans (G6.out.mono B4.out.size)
      have HC6 : Hid (CallsIs w6 (.slice pc nc kc) cs) := HCs.out.below B6.out
      clear hown hgrow O5 G5 A5 O6 HVb HSb G6 HM4 HH4 HL HL2 B4
      go_wp2_with fail
      refine (play_ok k _ cs HE.out _ HC6.out).mono ?_
      rintro e w7 ⟨⟨ga, rfl, hma, _⟩, hb⟩
      have HA : Hid (ManyAt w7 ga k (atZ (knowG k cs))) := hma
      have HW7 : Hid (CallsIs w7 v6 (cs ++ [mo])) := HW6.out.below hb
      have B7 : Hid (Below w.heap.size w w7) := B6.out.trans (hb.mono B6.out.size)
      clear hma hb HW6 B6 HC6
      obtain ⟨E2, HE2⟩ : ∃ E, Hid (callsE k (cs ++ [mo]) = E) := ⟨_, rfl⟩
      obtain ⟨_, p6, k6, e6, _⟩ := HW7.out.parts
      obtain ⟨n6, HN6⟩ : ∃ x, Hid ((cs ++ [mo]).length = x) := ⟨_, rfl⟩
      rw [HN6.out] at e6
      rw [e6] at HW7 ⊢
      clear e6
      by_cases hE2 : E2 = 0
      · subst hE2
        go_wp2_with fail
        refine (play_ok k _ (cs ++ [mo]) HE2.out _ HW7.out).mono ?_
        rintro e w8 ⟨⟨gb, rfl, hmb, _⟩, hb⟩
        have HA8 : Hid (ManyAt w8 ga k (atZ (knowG k cs))) := HA.out.below hb
        have HB8 : Hid (ManyAt w8 gb k (atZ (knowG k (cs ++ [mo])))) := hmb
        have B8 : Hid (Below w.heap.size w w8) := B7.out.trans (hb.mono B7.out.size)
        clear hmb hb HA HW7 B7
        have HK : Hid (∀ i t, ((knowG k cs).getD i 0) / 2 ^ t % 2 = 1 → ((knowG k (cs ++ [mo])).getD i 0) / 2 ^ t % 2 = 1) := fun i t => know_more HE2.out i t
        go_wp2_with fail
        go_loopw [19] (fun i wr => wr = w8 ∧ ∃ j : Nat, j ≤ k ∧ i = .int .i64 j) (fun i _ => k - (intOf i).toNat)
        case atStart => exact ⟨rfl, 0, Nat.zero_le _, rfl⟩
        case round =>
          obtain ⟨hwr, j, hj, rfl⟩ := hrel
          subst hwr
          by_cases hlt : j < k
          · have hlti : (j : Int) < (k : Int) := by omega
            have a0 := HA8.out.cell j hlt
            have b0 := HB8.out.cell j hlt
            unfold atZ at a0 b0
            have HKj : Hid _ := HK.out j
            obtain ⟨X, HX⟩ : ∃ X, Hid ((knowG k cs).getD j 0 = X) := ⟨_, rfl⟩
            obtain ⟨Y, HY⟩ : ∃ Y, Hid ((knowG k (cs ++ [mo])).getD j 0 = Y) := ⟨_, rfl⟩
            have hp6 : 2 ^ k ≤ 64 := Nat.pow_le_pow_right (n := 2) (by omega) (show k ≤ 6 by omega)
            have HX64 : Hid (X < 64) := by rw [← HX.out]; exact Nat.lt_of_lt_of_le (knowG_small k cs j) hp6
            have HY64 : Hid (Y < 64) := by rw [← HY.out]; exact Nat.lt_of_lt_of_le (knowG_small k (cs ++ [mo]) j) hp6
            clear hp6
            rw [HX.out] at a0 HKj
            rw [HY.out] at b0 HKj
            obtain ⟨w9, hren⟩ : ∃ x, x = wr := ⟨_, rfl⟩
            subst hren
            go_wp2_with fail
            go_loopw [20, 21, 22] (fun p q i wr => wr = w9 ∧ ∃ t : Nat, t ≤ 6 ∧ i = .int .i64 t ∧ p = .int .i64 ((X / 2 ^ t : Nat) : Int) ∧ q = .int .i64 ((Y / 2 ^ t : Nat) : Int)) (fun _ _ i _ => 6 - (intOf i).toNat)
            case atStart => exact ⟨rfl, 0, by omega, rfl, by simp, by simp⟩
            case round =>
              obtain ⟨hwr, t, ht, rfl, rfl, rfl⟩ := hrel
              subst hwr
              have HB := HKj.out t
              have HX2 : Hid (X / 2 ^ t / 2 = X / 2 ^ (t + 1)) := by show _ = _; rw [Nat.div_div_eq_div_mul, ← Nat.pow_succ]
              have HY2 : Hid (Y / 2 ^ t / 2 = Y / 2 ^ (t + 1)) := by show _ = _; rw [Nat.div_div_eq_div_mul, ← Nat.pow_succ]
              have HXs : Hid (X / 2 ^ t < 64) := Nat.lt_of_le_of_lt (Nat.div_le_self _ _) HX64.out
              have HYs : Hid (Y / 2 ^ t < 64) := Nat.lt_of_le_of_lt (Nat.div_le_self _ _) HY64.out
              generalize X / 2 ^ t = P at HB HX2 HXs ⊢
              generalize Y / 2 ^ t = R at HB HY2 HYs ⊢
              have HWP : Hid (wrap64 ((P : Int) / 2) = ((P / 2 : Nat) : Int)) := by
                have := HXs.out
                show _ = _
                unfold wrap64
                omega
              have HWR : Hid (wrap64 ((R : Int) / 2) = ((R / 2 : Nat) : Int)) := by
                have := HYs.out
                show _ = _
                unfold wrap64
                omega
              clear HXs HYs
              by_cases ht6 : t < 6
              · have hti : (t : Int) < 6 := by omega
                by_cases hp1 : P % 2 = 1
                · have hb1 : ((P : Int) % 2 == 1) = true := by simp; omega
                  have hb2 : ((R : Int) % 2 != 1) = false := by have := HB hp1; simp; omega
                  clear HB hp1
                  go_wp2_with fail
                  go_roundw
                  case rel => exact ⟨by trivial, t + 1, by omega, by go_num, by rw [HWP.out, HX2.out], by rw [HWR.out, HY2.out]⟩
                  case measure => simp [intOf]; omega
                · have hb1 : ((P : Int) % 2 == 1) = false := by simp; omega
                  clear HB hp1
                  go_wp2_with fail
                  go_roundw
                  case rel => exact ⟨by trivial, t + 1, by omega, by go_num, by rw [HWP.out, HX2.out], by rw [HWR.out, HY2.out]⟩
                  case measure => simp [intOf]; omega
              · obtain rfl : t = 6 := by omega
                clear HB
                go_wp2_with fail
                go_roundw
                case rel => exact ⟨by trivial, j + 1, by omega, by go_num⟩
                case measure => simp [intOf]; omega
          · obtain rfl : j = k := by omega
            go_wp2_with fail
            go_ret
            exact ⟨rfl, B8.out⟩
      · have HE2n : Hid (E2 ≠ 0) := hE2
        clear hE2
        go_wp2_with fail
        refine (play_bad k _ (cs ++ [mo]) E2 HE2.out HE2n.out _ HW7.out).mono ?_
        rintro e w8 ⟨rfl, hb⟩
        have B8 : Hid (Below w.heap.size w w8) := B7.out.trans (hb.mono B7.out.size)
        clear hb B7
        rw [eV_err HE2n.out]
        go_wp2_with fail
        go_ret
        exact ⟨rfl, B8.out⟩
    · have HEn : Hid (E ≠ 0) := hE
      clear hE
      go_wp2_with fail
      refine (done_bad k _ cs E HE.out HEn.out _ HC3.out).mono ?_
      rintro e w4 ⟨rfl, hb⟩
      have B4 : Hid (Below w.heap.size w w4) := B3.out.trans (hb.mono B3.out.size)
      clear hb B3
      rw [eV_err HEn.out]
      go_wp2_with fail
      go_ret
      exact ⟨rfl, B4.out⟩
end Go.Proofs.Ytnffnmmhbnljcah
