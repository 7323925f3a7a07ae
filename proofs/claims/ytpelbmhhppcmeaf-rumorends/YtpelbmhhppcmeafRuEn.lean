/-
  RumorEnds: of new rumors, told one after the other, each is told just as often as the limit says, and none is told again ahead of one that was told less.
-/
import Derived.Test.YtpelbmhhppcmeafRuEl
import Derived.Test.YtpelbmhhppcmeafRuX
namespace Go.Proofs.Ytpelbmhhppcmeaf
set_option linter.unusedVariables false
set_option linter.unusedSimpArgs false
open Go.RowKit

theorem arr6_new (w : World) (t : TypeId) : ManyAt (w.alloc (.cells #[.int .i64 0, .int .i64 0, .int .i64 0, .int .i64 0, .int .i64 0, .int .i64 0] t)) w.heap.size 6 (fun _ => 0) := by
  refine ⟨by simp, fun k hk => ?_, fun j => by simp⟩
  have h6 : k = 0 ∨ k = 1 ∨ k = 2 ∨ k = 3 ∨ k = 4 ∨ k = 5 := by omega
  rcases h6 with rfl | rfl | rfl | rfl | rfl | rfl <;> simp
set_option maxRecDepth 100000 in
set_option maxHeartbeats 16000000 in
theorem rumorEnds_w (vl : Value) (many limit : Int) (l : List Mm) (w : World) (hl : MmsIs w vl l) :
    Calls Try.prog 3 #[vl, .int .i64 many, .int .i64 limit] w fun e w' => e = .returned (.bool true) ∧ Below w.heap.size w w' := by
  obtain ⟨hlen, p, cap, rfl, hrow⟩ := hl
  have HRow : Hid (l ≠ [] → ∃ b o, p = some ⟨b, o, none⟩ ∧ b < w.heap.size ∧ ∀ j (h : j < l.length), MmAt w b (o + j * 3) l[j]) := hrow
  clear hrow
  obtain ⟨n, HN⟩ : ∃ n, Hid (l.length = n) := ⟨_, rfl⟩
  rw [HN.out] at hlen ⊢
  have hn63 : n ≤ 9223372036854775807 := hlen
  go_enter Try.func3, Try.ntmps3
  go_wp2_with fail
  refine (limitFive _).mono ?_
  rintro e w1 ⟨rfl, hw⟩
  have hw' := hw.symm
  clear hw
  subst hw'
  go_wp2_with fail
  go_loopw [9, 10, 11, 12, 13] (fun s9 s10 s11 s12 s13 wr => ∃ (j : Nat) (v9 y11 y12 y13 : Value) (base : List Mm), s9 = v9 ∧ s10 = .int .i64 j ∧ s11 = y11 ∧ s12 = y12 ∧ s13 = y13 ∧ j ≤ n ∧ Hid (GoodV base) ∧ Hid (RusIs wr v9 (zeroL base)) ∧ Hid (Below w.heap.size w wr)) (fun _ i _ _ _ _ => n - (intOf i).toNat)
  case atStart => exact ⟨0, _, _, _, _, [], rfl, rfl, rfl, rfl, rfl, Nat.zero_le _, ⟨List.Pairwise.nil, fun x hx => by cases hx⟩, RusIs.nil _, Below.refl _ _⟩
  case round =>
    obtain ⟨j, v9, y11, y12, y13, base, h9, rfl, h11, h12, h13, hj, HGb, HR, HB⟩ := hrel
    have h9' := h9.symm
    clear h9
    subst h9'
    have h11' := h11.symm
    clear h11
    subst h11'
    have h12' := h12.symm
    clear h12
    subst h12'
    have h13' := h13.symm
    clear h13
    subst h13'
    go_upto_region 6 with fail
    go_cut [43] (fun c wc => ∃ cb : Bool, c = .bool cb ∧ Hid (cb = decide (j < n ∧ j < 12)) ∧ Hid (Below wr.heap.size wr wc))
    case first =>
      by_cases hlt : j < n
      · have hlti : (j : Int) < (n : Int) := by omega
        have HD : Hid (decide ((j : Int) < 12) = decide (j < n ∧ j < 12)) := by
          show _ = _
          by_cases h12 : j < 12
          · rw [decide_eq_true (show (j : Int) < 12 by omega), decide_eq_true (show j < n ∧ j < 12 from ⟨hlt, h12⟩)]
          · rw [decide_eq_false (show ¬ (j : Int) < 12 by omega), decide_eq_false (show ¬ (j < n ∧ j < 12) by omega)]
        go_wp2_with fail
        go_meet
        case rel => exact ⟨_, rfl, HD, Below.refl _ _⟩
      · have hlti : ¬ (j : Int) < (n : Int) := by omega
        have HD : Hid (false = decide (j < n ∧ j < 12)) := by
          show _ = _
          rw [decide_eq_false (show ¬ (j < n ∧ j < 12) by omega)]
        go_wp2_with fail
        go_meet
        case rel => exact ⟨_, rfl, HD, Below.refl _ _⟩
    case rest =>
    obtain ⟨w3, h⟩ : ∃ x, x = wc := ⟨_, rfl⟩
    subst h
    obtain ⟨cb, rfl, HCb, HB3⟩ := hcut
    have HR3 : Hid (RusIs w3 v9 (zeroL base)) := HR.out.below HB3.out
    have B3 : Hid (Below w.heap.size w w3) := HB.out.trans (HB3.out.mono HB.out.size)
    clear HR HB HB3
    have HR : Hid (RusIs w3 v9 (zeroL base)) := HR3
    have HB : Hid (Below w.heap.size w w3) := B3
    clear HR3 B3
    rcases Bool.eq_false_or_eq_true cb with rfl | rfl
    · have hlt2 : j < n ∧ j < 12 := of_decide_eq_true HCb.out.symm
      obtain ⟨hlt, h12⟩ := hlt2
      have hl0 : l ≠ [] := by intro h; have := HN.out; rw [h] at this; simp at this; omega
      obtain ⟨b, o, rfl, hbw, hat⟩ := HRow.out hl0
      have hjl : j < l.length := by rw [HN.out]; exact hlt
      have HA : Hid (MmAt w3 b (o + j * 3) l[j]) := (hat j hjl).of_block (HB.out.block b hbw)
      clear hat
      obtain ⟨x, HX⟩ : ∃ x, Hid (l[j] = x) := ⟨l[j], show l[j] = l[j] from rfl⟩
      rw [HX.out] at HA
      obtain ⟨x0, x1, x2⟩ := x
      obtain ⟨c0, c1, c2⟩ := HA.out
      dsimp only at c0 c1 c2
      have hlti : (j : Int) < (n : Int) := by omega
      have h12i : (j : Int) < 12 := by omega
      cases hok : Mm.ok ⟨x0, x1, x2⟩
      · have HAd : Hid (addR (zeroL base) ⟨x0, x1, x2⟩ = ([], false, 1)) := zadd_bad HGb.out hok
        clear hok
        go_wp2_with fail
        refine (addR_o HAd.out v9 _ HR.out).mono ?_
        rintro e w2 ⟨vx, rfl, ho, hb⟩
        rw [eV_err (by omega)]
        have B2 : Hid (Below w.heap.size w w2) := HB.out.trans (hb.mono HB.out.size)
        have HR2 : Hid (RusIs w2 v9 (zeroL base)) := HR.out.below hb
        clear hb ho c0 c1 c2
        go_wp2_with fail
        go_roundw
        case rel => exact ⟨j + 1, _, _, _, _, base, rfl, by go_num, rfl, rfl, rfl, by omega, HGb, HR2, B2⟩
        case measure => simp [intOf]; omega
      · have HAd : Hid (addR (zeroL base) ⟨x0, x1, x2⟩ = (zeroL (addM ⟨x0, x1, x2⟩ base), isU ⟨x0, x1, x2⟩ (zeroL base), 0)) := zadd_ok HGb.out hok
        have HG2 : Hid (GoodV (addM ⟨x0, x1, x2⟩ base)) := add_good HGb.out hok
        clear hok
        obtain ⟨q, HQ⟩ : ∃ q, Hid (isU ⟨x0, x1, x2⟩ (zeroL base) = q) := ⟨_, rfl⟩
        rw [HQ.out] at HAd
        go_wp2_with fail
        refine (addR_o HAd.out v9 _ HR.out).mono ?_
        rintro e w2 ⟨vx, rfl, ho, hb⟩
        rw [eV_zero]
        have B2 : Hid (Below w.heap.size w w2) := HB.out.trans (hb.mono HB.out.size)
        have HR2 : Hid (RusIs w2 vx (zeroL (addM ⟨x0, x1, x2⟩ base))) := ho.rus
        clear hb ho c0 c1 c2
        go_wp2_with fail
        go_roundw
        case rel => exact ⟨j + 1, _, _, _, _, _, rfl, by go_num, rfl, rfl, rfl, by omega, HG2, HR2, B2⟩
        case measure => simp [intOf]; omega
    · clear HCb HRow hj
      obtain ⟨N, HNb⟩ : ∃ N, Hid (base.length = N) := ⟨_, rfl⟩
      have h6 := good_len HGb.out
      rw [HNb.out] at h6
      obtain ⟨p9, cap9, rfl⟩ : ∃ p9 cap9, v9 = .slice p9 N cap9 := by
        obtain ⟨_, p9, cap9, e9, _⟩ := HR.out
        exact ⟨p9, cap9, by rw [e9, zeroL_len, HNb.out]⟩
      by_cases h1 : many < 1
      · go_wp2_with fail
        go_ret
        exact ⟨by simp; omega, HB.out⟩
      by_cases h2 : 6 < many
      · go_wp2_with fail
        go_ret
        exact ⟨by simp; omega, HB.out⟩
      by_cases h3 : limit < 1
      · go_wp2_with fail
        go_ret
        exact ⟨by simp; omega, HB.out⟩
      by_cases h4 : 10 < limit
      · go_wp2_with fail
        go_ret
        exact ⟨by simp; omega, HB.out⟩
      obtain ⟨mn, rfl⟩ : ∃ mn : Nat, many = (mn : Int) := ⟨many.toNat, by omega⟩
      obtain ⟨lm, rfl⟩ : ∃ lm : Nat, limit = (lm : Int) := ⟨limit.toNat, by omega⟩
      have hm1 : 1 ≤ mn := by omega
      have hm6 : mn ≤ 6 := by omega
      have hl1 : 1 ≤ lm := by omega
      have hl10 : lm ≤ 10 := by omega
      have h5 : ¬ (6 : Int) < (N : Int) := by omega
      go_upto_region 14 with fail
      obtain ⟨w5, HW5⟩ : ∃ x, x = w3.alloc (.cells #[.int .i64 0, .int .i64 0, .int .i64 0, .int .i64 0, .int .i64 0, .int .i64 0] 32) := ⟨_, rfl⟩
      rw [← HW5]
      have M5 : Hid (ManyAt w5 w3.heap.size 6 (fun _ => 0)) := by rw [HW5]; exact arr6_new w3 _
      have B35 : Hid (Below w3.heap.size w3 w5) := by rw [HW5]; exact (Below.refl _ _).alloc (Nat.le_refl _) _
      have R5 : Hid (RusIs w5 (.slice p9 N cap9) (zeroL base)) := HR.out.below B35.out
      have B5 : Hid (Below w.heap.size w w5) := HB.out.trans (B35.out.mono HB.out.size)
      have hs5 : w5.heap.size = w3.heap.size + 1 := by rw [HW5]; simp
      have R5o : Hid (zeroL base ≠ [] → (Value.slice p9 N cap9).ownBlock ≠ some w3.heap.size) := by
        intro hne
        obtain ⟨_, p', cap', e', hr'⟩ := HR.out
        obtain ⟨b', o', rfl, hb', _⟩ := hr' hne
        injection e' with e1 e2 e3
        subst e1
        intro h
        have h' : b' = w3.heap.size := Option.some.inj h
        omega
      have hw3 : w.heap.size ≤ w3.heap.size := HB.out.size
      clear HW5 HR B35 HB h1 h2 h3 h4
      obtain ⟨tb, HTb⟩ : ∃ tb, tb = w3.heap.size := ⟨_, rfl⟩
      rw [← HTb] at M5 hs5 R5o hw3 ⊢
      clear HTb
      have HS5 : Hid (w5.heap.size = tb + 1) := hs5
      clear hs5
      go_wp2_with fail
      go_loopw [16, 17] (fun s16 s17 wr => ∃ (j : Nat) (v16 : Value), s16 = v16 ∧ s17 = .int .i64 j ∧ j ≤ N ∧ Hid (OwnI w5.heap.size wr v16 ((base.take j).map Mm.n)) ∧ Hid (Below w5.heap.size w5 wr)) (fun _ i _ => N - (intOf i).toNat)
      case atStart => exact ⟨0, _, rfl, rfl, Nat.zero_le _, OwnI.nil _ _, Below.refl _ _⟩
      case round =>
        obtain ⟨j, v16, h16, rfl, hj, HO, HB⟩ := hrel
        have h16' := h16.symm
        clear h16
        subst h16'
        by_cases hlt : j < N
        · have hjb : j < base.length := by rw [HNb.out]; exact hlt
          have hjl : j < (zeroL base).length := by rw [zeroL_len]; exact hjb
          obtain ⟨x, HX⟩ : ∃ x, Hid (base[j] = x) := ⟨base[j], show base[j] = base[j] from rfl⟩
          have hok := (Mm.ok_iff _).1 (HGb.out.2 base[j] (List.getElem_mem hjb))
          rw [HX.out] at hok
          have HT : Hid ((base.take (j + 1)).map Mm.n = (base.take j).map Mm.n ++ [x.n]) := by
            show _ = _
            rw [List.take_succ_eq_append_getElem hjb, List.map_append, HX.out]
            rfl
          obtain ⟨_, p', cap', e', hr'⟩ := R5.out
          obtain ⟨b', o', hp', hb', hat⟩ := hr' (fun h => by rw [h] at hjl; simp at hjl)
          injection e' with e1 e2 e3
          subst e1 e3
          subst hp'
          have HA : Hid (RuAt wr b' (o' + j * 4) ⟨x, 0⟩) := by
            have := (hat j hjl).of_block (HB.out.block b' hb')
            simp only [zeroL, List.getElem_map] at this
            rw [HX.out] at this
            exact this
          clear hat hr' e2
          obtain ⟨k, f, s⟩ := x
          obtain ⟨c0, c1, c2, c3⟩ := HA.out
          dsimp only at c0 c1 c2 c3 hok
          have hlti : (j : Int) < (N : Int) := by omega
          have hk0 : ¬ k < 0 := by omega
          have hk5 : ¬ 5 < k := by omega
          obtain ⟨ns, HNs⟩ : ∃ ns, Hid ((base.take j).map Mm.n = ns) := ⟨_, rfl⟩
          have HL : Hid (ns.length ≤ 100) := by
            show _ ≤ _
            rw [← HNs.out]
            simp
            omega
          rw [HNs.out] at HO HT
          have HOa : Hid (OwnI w5.heap.size (wr.alloc (.cells #[.int .i64 k] 3)) v16 ns) := HO.out.below ((Below.refl _ _).alloc (Nat.le_refl _) _)
          have HVa : Hid ((wr.alloc (.cells #[.int .i64 k] 3)).heap[wr.heap.size]? = some (.cells #[.int .i64 k] 3 (0, 0))) := alloc_at _ _ _ rfl
          have HSa : Hid (w5.heap.size ≤ (wr.alloc (.cells #[.int .i64 k] 3)).heap.size) := show _ ≤ _ from (by have := HB.out.size; simp; omega)
          go_wp2_with (at_builtin; refine wp_appI _ rfl _ _ rfl w5.heap.size _ ns k rfl HOa.out _ rfl HVa.out HL.out HSa.out ?_)
          intro va wa hown hgrow
          have HOp : Hid (OwnI w5.heap.size wa va (ns ++ [k])) := hown
          have HBp : Hid (Below w5.heap.size w5 wa) := below_grownF (HB.out.alloc HB.out.size _) (Nat.le_refl _) hgrow.out (fun c hc => HO.out.from c hc)
          clear hown hgrow HOa HVa HSa c0 c1 c2 c3
          go_wp2_with fail
          go_roundw
          case rel =>
            refine ⟨j + 1, _, rfl, by go_num, by omega, ?_, HBp⟩
            rw [HT.out]
            exact HOp
          case measure => simp [intOf]; omega
        · obtain rfl : j = N := by omega
          obtain ⟨w6, h⟩ : ∃ x, x = wr := ⟨_, rfl⟩
          subst h
          have hns : (base.take j).map Mm.n = base.map Mm.n := by rw [List.take_of_length_le (by rw [HNb.out]; exact Nat.le_refl _)]
          have I6 : Hid (IntsIs w6 v16 (base.map Mm.n)) := by rw [← hns]; exact HO.out.ints
          have I6o : Hid (∀ c, v16.ownBlock = some c → c ≠ tb) := fun c hc => by
            have := HO.out.from c hc
            have := HS5.out
            omega
          have M6 : Hid (ManyAt w6 tb 6 (fun q => (((fun _ : Int => 0) (q : Int) : Nat) : Int))) := (M5.out.below (by rw [HS5.out]; exact HB.out.mono (by rw [HS5.out]; exact Nat.le_refl _))).to (fun _ _ => rfl)
          have R6 : Hid (RusIs w6 (.slice p9 j cap9) (xC base (fun _ => 0) lm)) := by
            rw [firstX base hl1]
            exact R5.out.below HB.out
          have R6o : Hid (xC base (fun _ => 0) lm ≠ [] → (Value.slice p9 j cap9).ownBlock ≠ some tb) := by
            rw [firstX base hl1]
            exact R5o.out
          have B6 : Hid (Below w.heap.size w w6) := B5.out.trans (HB.out.mono B5.out.size)
          have T6 : Hid (tb < w6.heap.size) := by
            show _ < _
            have := HB.out.size
            have := HS5.out
            omega
          clear hns HO M5 R5 R5o B5 HB hlt hj HS5
          obtain ⟨p16, cap16, rfl⟩ : ∃ p16 cap16, v16 = .slice p16 j cap16 := by
            obtain ⟨_, p16, cap16, e, _⟩ := I6.out
            exact ⟨p16, cap16, by rw [e, List.length_map, HNb.out]⟩
          go_wp2_with fail
          go_loopw [9, 18, 19, 20, 21, 22, 23, 24] (fun s9 s18 s19 s20 s21 s22 s23 s24 wr => ∃ (t : Nat) (v9 y19 y20 y21 y22 y23 y24 : Value) (c : Int → Nat), s9 = v9 ∧ s18 = .int .i64 t ∧ s19 = y19 ∧ s20 = y20 ∧ s21 = y21 ∧ s22 = y22 ∧ s23 = y23 ∧ s24 = y24 ∧ t ≤ 60 ∧ Hid (t ≤ sumC base c) ∧ Hid (Spread base c lm) ∧ Hid (RusIs wr v9 (xC base c lm)) ∧ Hid (xC base c lm ≠ [] → v9.ownBlock ≠ some tb) ∧ Hid (ManyAt wr tb 6 (fun q => ((c (q : Int) : Nat) : Int))) ∧ Hid (IntsIs wr (.slice p16 j cap16) (base.map Mm.n)) ∧ Hid (Below w.heap.size w wr) ∧ Hid (tb < wr.heap.size)) (fun _ t _ _ _ _ _ _ _ => 70 - (intOf t).toNat)
          case atStart => exact ⟨0, _, _, _, _, _, _, _, fun _ => 0, rfl, rfl, rfl, rfl, rfl, rfl, rfl, rfl, by omega, Nat.zero_le _, Spread.first _ _, R6, R6o, M6, I6, B6, T6⟩
          case round =>
            obtain ⟨t, v9, y19, y20, y21, y22, y23, y24, c, h9, rfl, h19, h20, h21, h22, h23, h24, ht, HTs, HSp, HR, HRo, HM, HI, HB, HT⟩ := hrel
            have h9' := h9.symm
            clear h9
            subst h9'
            have h19' := h19.symm
            clear h19
            subst h19'
            have h20' := h20.symm
            clear h20
            subst h20'
            have h21' := h21.symm
            clear h21
            subst h21'
            have h22' := h22.symm
            clear h22
            subst h22'
            have h23' := h23.symm
            clear h23
            subst h23'
            have h24' := h24.symm
            clear h24
            subst h24'
            clear R6 R6o M6 I6 B6 T6
            obtain ⟨X, HX⟩ : ∃ X, Hid (xC base c lm = X) := ⟨_, rfl⟩
            rw [HX.out] at HR HRo
            obtain ⟨L, HL⟩ : ∃ L, Hid (X.length = L) := ⟨_, rfl⟩
            obtain ⟨p9', cap9', rfl⟩ : ∃ p9 cap9, v9 = .slice p9 L cap9 := by
              obtain ⟨_, p9, cap9, e, _⟩ := HR.out
              exact ⟨p9, cap9, by rw [e, HL.out]⟩
            have ht70 : (t : Int) < 70 := by omega
            by_cases hL : L = 0
            · have HAll : Hid (∀ m ∈ base, c m.n = lm) := fun m hm => all_told HSp.out (by rw [HX.out]; exact List.length_eq_zero_iff.1 (HL.out.trans hL)) hm
              have HNd : Hid (∀ a, a < j → ∃ (q b o : Nat), p16 = some ⟨b, o, none⟩ ∧ b < wr.heap.size ∧ q < 6 ∧ wr.cell? ⟨b, o + a, none⟩ = some (.int .i64 (q : Int)) ∧ c (q : Int) = lm) := fun a ha => by
                have hal : a < base.length := by rw [HNb.out]; exact ha
                have hal' : a < (base.map Mm.n).length := by rw [List.length_map]; exact hal
                obtain ⟨q, hq, hq6⟩ := nodeX HGb.out (List.getElem_mem hal)
                obtain ⟨_, p', cap', e', hr'⟩ := HI.out
                obtain ⟨b', o', hp', hb', hat⟩ := hr' (fun h => by rw [h] at hal'; simp at hal')
                injection e' with e1 e2 e3
                refine ⟨q, b', o', e1.trans hp', hb', hq6, ?_, ?_⟩
                · have := hat a hal'
                  rw [List.getElem_map, hq] at this
                  exact this
                · rw [← hq]
                  exact HAll.out _ (List.getElem_mem hal)
              subst hL
              obtain ⟨w7, h⟩ : ∃ x, x = wr := ⟨_, rfl⟩
              subst h
              clear HR HRo HI HT HTs
              go_wp2_with fail
              go_loopw [25] (fun s25 wr => ∃ a : Nat, s25 = .int .i64 a ∧ a ≤ j ∧ Hid (Below w7.heap.size w7 wr)) (fun a _ => j - (intOf a).toNat)
              case atStart => exact ⟨0, rfl, Nat.zero_le _, Below.refl _ _⟩
              case round =>
                obtain ⟨a, rfl, ha, HBa⟩ := hrel
                by_cases haj : a < j
                · have haji : (a : Int) < (j : Int) := by omega
                  obtain ⟨q1, b1, o1, hp1, hb1, h1, k1, hc1⟩ := HNd.out a haj
                  subst hp1
                  have e1 := (World.cell?_of_block (a := ⟨b1, o1 + a, none⟩) (HBa.out.block b1 hb1)).trans k1
                  have M9 : ManyAt wr tb 6 (fun q => ((c (q : Int) : Nat) : Int)) := HM.out.below HBa.out
                  have z1 := M9.cell q1 h1
                  rw [hc1] at z1
                  clear M9 k1 hc1
                  have hq1 : (q1 : Int) < 6 := by omega
                  go_wp2_with fail
                  go_roundw
                  case rel => exact ⟨a + 1, by go_num, by omega, HBa⟩
                  case measure => simp [intOf]; omega
                · have haji : ¬ (a : Int) < (j : Int) := by omega
                  go_wp2_with fail
                  go_ret
                  exact ⟨rfl, HB.out.trans (HBa.out.mono HB.out.size)⟩
            · have hLi : (0 : Int) < (L : Int) := by omega
              have hne : X ≠ [] := fun h => hL (by rw [← HL.out, h]; rfl)
              have HPk : Hid (pickR X (mn : Int) (lm : Int) = (toldR X mn, xC base (nextC base c lm mn) lm, 0)) := by
                show _ = _
                rw [← HX.out]
                exact pickX HGb.out hl10 hl1 hm6
              have HTm : Hid (∀ m ∈ toldR X mn, m ∈ base) := fun m hm => by
                rw [← HX.out] at hm
                exact toldX_mem hm
              have hTl : 1 ≤ (toldR X mn).length ∧ (toldR X mn).length ≤ mn := by
                rw [← HX.out] at hne ⊢
                exact toldX_len HGb.out hm1 hne
              have HNx : Hid (∀ k, nextC base c lm mn k = c k + tmN (toldR X mn) k) := fun k => by
                rw [← HX.out]
                rfl
              have HSp2 : Hid (Spread base (nextC base c lm mn) lm) := HSp.out.next HGb.out.1
              have HSm2 : Hid (sumC base c < sumC base (nextC base c lm mn)) := sumC_next HGb.out.1 hm1 (by rw [HX.out]; exact hne)
              obtain ⟨T, HTt⟩ : ∃ T, Hid (toldR X mn = T) := ⟨_, rfl⟩
              obtain ⟨c2, HC2⟩ : ∃ c2, Hid (nextC base c lm mn = c2) := ⟨_, rfl⟩
              rw [HTt.out, HC2.out] at HPk
              rw [HTt.out] at HTm hTl
              rw [HTt.out, HC2.out] at HNx
              rw [HC2.out] at HSp2 HSm2
              obtain ⟨Tn, HTn⟩ : ∃ Tn, Hid (T.length = Tn) := ⟨_, rfl⟩
              rw [HTn.out] at hTl
              obtain ⟨hT1, hT2⟩ := hTl
              go_wp2_with fail
              refine (pick_o HPk.out _ _ HR.out).mono ?_
              rintro e w7 ⟨vt, vf, rfl, ho1, ho2, hb⟩
              rw [eV_zero]
              have T7 : Hid (MmsIs w7 vt T) := ho1.mms
              have F7 : Hid (RusIs w7 vf (xC base c2 lm)) := ho2.rus
              have T7o : Hid (∀ q, vt.ownBlock = some q → q ≠ tb) := fun q hq => by
                have := ho1.from q hq
                have := HT.out
                omega
              have F7o : Hid (∀ q, vf.ownBlock = some q → q ≠ tb) := fun q hq => by
                have := ho2.from q hq
                have := HT.out
                omega
              have M7 : Hid (ManyAt w7 tb 6 (fun q => ((c (q : Int) : Nat) : Int))) := HM.out.below hb
              have I7 : Hid (IntsIs w7 (.slice p16 j cap16) (base.map Mm.n)) := HI.out.below hb
              have B7 : Hid (Below w.heap.size w w7) := HB.out.trans (hb.mono HB.out.size)
              have U7 : Hid (tb < w7.heap.size) := Nat.lt_of_lt_of_le HT.out hb.size
              clear hb ho1 ho2 HR HRo HM HI HB HT HPk HX hne
              obtain ⟨pt, capt, rfl⟩ : ∃ pt capt, vt = .slice pt Tn capt := by
                obtain ⟨_, pt, capt, e, _⟩ := T7.out
                exact ⟨pt, capt, by rw [e, HTn.out]⟩
              have g1 : ¬ (Tn : Int) < 1 := by omega
              have g2 : ¬ (mn : Int) < (Tn : Int) := by omega
              go_wp2_with fail
              go_loopw [22] (fun s22 wr => ∃ i : Nat, s22 = .int .i64 i ∧ i ≤ Tn ∧ Hid (ManyAt wr tb 6 (fun q => ((c (q : Int) + tmN (T.take i) (q : Int) : Nat) : Int))) ∧ Hid (MmsIs wr (.slice pt Tn capt) T) ∧ Hid (RusIs wr vf (xC base c2 lm)) ∧ Hid (IntsIs wr (.slice p16 j cap16) (base.map Mm.n)) ∧ Hid (Below w.heap.size w wr) ∧ Hid (tb < wr.heap.size)) (fun i _ => Tn - (intOf i).toNat)
              case atStart => exact ⟨0, rfl, Nat.zero_le _, M7.out.to (fun q _ => by simp [tmN]), T7, F7, I7, B7, U7⟩
              case round =>
                obtain ⟨i, rfl, hi, HM, HTw, HF, HI, HB, HU⟩ := hrel
                clear M7 T7 F7 I7 B7 U7
                by_cases hlt : i < Tn
                · have hil : i < T.length := by rw [HTn.out]; exact hlt
                  obtain ⟨x, HXx⟩ : ∃ x, Hid (T[i] = x) := ⟨T[i], show T[i] = T[i] from rfl⟩
                  have hmem : x ∈ base := by
                    rw [← HXx.out]
                    exact HTm.out _ (List.getElem_mem hil)
                  obtain ⟨q, hq, hq6⟩ := nodeX HGb.out hmem
                  have hzb : c (q : Int) + tmN (T.take i) (q : Int) ≤ 10 := by
                    have h1 := HSp2.out.top x hmem
                    have h2 := HNx.out (q : Int)
                    have h3 := tm_take_le T i (q : Int)
                    rw [hq] at h1
                    omega
                  obtain ⟨z, HZ⟩ : ∃ z, Hid (c (q : Int) + tmN (T.take i) (q : Int) = z) := ⟨_, rfl⟩
                  rw [HZ.out] at hzb
                  have HTk : Hid (∀ r : Nat, c (r : Int) + tmN (T.take (i + 1)) (r : Int) = if r = q then z + 1 else c (r : Int) + tmN (T.take i) (r : Int)) := fun r => by
                    rw [tm_take hil, HXx.out, hq]
                    by_cases e : r = q
                    · subst e
                      rw [if_pos rfl, if_pos rfl, ← HZ.out]
                      omega
                    · rw [if_neg e, if_neg (by omega)]
                      omega
                  obtain ⟨_, p', cap', e', hr'⟩ := HTw.out
                  obtain ⟨b', o', hp', hb', hat⟩ := hr' (fun h => by rw [h] at hil; simp at hil)
                  injection e' with e1 e2 e3
                  subst e1 e3
                  subst hp'
                  have HA : Hid (MmAt wr b' (o' + i * 3) x) := by
                    have := hat i hil
                    rw [HXx.out] at this
                    exact this
                  clear hat hr' e2 hmem
                  obtain ⟨k, f, s⟩ := x
                  have hkq : k = (q : Int) := hq
                  subst hkq
                  clear hq
                  obtain ⟨c0, c1, c3⟩ := HA.out
                  dsimp only at c0 c1 c3
                  have d0 := HM.out.cell q hq6
                  have df := HM.out.fz q
                  rw [HZ.out] at d0
                  have hlti : (i : Int) < (Tn : Int) := by omega
                  have hq0 : ¬ (q : Int) < 0 := by omega
                  have hq5 : ¬ (5 : Int) < (q : Int) := by omega
                  have hqi : (q : Int) < 6 := by omega
                  have hwr : IntKind.i64.wrap ((z : Int) + 1) = (z : Int) + 1 := by rw [IntKind.wrap_i64]; omega
                  have hne : ¬ b' = tb := fun h => (T7o.out b' rfl) h
                  have M8 : Hid (ManyAt (wr.setCell ⟨tb, q, none⟩ (.int .i64 ((z : Int) + 1))) tb 6 (fun r => ((c (r : Int) + tmN (T.take (i + 1)) (r : Int) : Nat) : Int))) := (HM.out.set q hq6 ((z : Int) + 1)).to (fun r _ => by
                    rw [HTk.out r]
                    split
                    · omega
                    · rfl)
                  have T8 : Hid (MmsIs (wr.setCell ⟨tb, q, none⟩ (.int .i64 ((z : Int) + 1))) (.slice (some ⟨b', o', none⟩) Tn capt) T) := HTw.out.blocks (by rw [World.size_setCell]; exact Nat.le_refl _) (fun y hy _ => Below.heap_setCell _ _ _ y (T7o.out y hy))
                  have F8 : Hid (RusIs (wr.setCell ⟨tb, q, none⟩ (.int .i64 ((z : Int) + 1))) vf (xC base c2 lm)) := HF.out.blocks (by rw [World.size_setCell]; exact Nat.le_refl _) (fun y hy _ => Below.heap_setCell _ _ _ y (F7o.out y hy))
                  have I8 : Hid (IntsIs (wr.setCell ⟨tb, q, none⟩ (.int .i64 ((z : Int) + 1))) (.slice p16 j cap16) (base.map Mm.n)) := HI.out.blocks (by rw [World.size_setCell]; exact Nat.le_refl _) (fun y hy _ => Below.heap_setCell _ _ _ y (I6o.out y hy))
                  have B8 : Hid (Below w.heap.size w (wr.setCell ⟨tb, q, none⟩ (.int .i64 ((z : Int) + 1)))) := HB.out.setCell hw3 _
                  have U8 : Hid (tb < (wr.setCell ⟨tb, q, none⟩ (.int .i64 ((z : Int) + 1))).heap.size) := by
                    show _ < _
                    rw [World.size_setCell]
                    exact HU.out
                  go_wp2_with fail
                  go_roundw
                  case rel => exact ⟨i + 1, by go_num, by omega, M8, T8, F8, I8, B8, U8⟩
                  case measure => simp [intOf]; omega
                · obtain rfl : i = Tn := by omega
                  obtain ⟨w8, h⟩ : ∃ x, x = wr := ⟨_, rfl⟩
                  subst h
                  have M8 : Hid (ManyAt w8 tb 6 (fun q => ((c2 (q : Int) : Nat) : Int))) := HM.out.to (fun q _ => by rw [HNx.out, List.take_of_length_le (by rw [HTn.out]; exact Nat.le_refl _)])
                  have HNd : Hid (∀ a, a < j → ∃ (q b o : Nat), p16 = some ⟨b, o, none⟩ ∧ b < w8.heap.size ∧ q < 6 ∧ w8.cell? ⟨b, o + a, none⟩ = some (.int .i64 (q : Int)) ∧ ∃ m ∈ base, m.n = (q : Int)) := fun a ha => by
                    have hal : a < base.length := by rw [HNb.out]; exact ha
                    have hal' : a < (base.map Mm.n).length := by rw [List.length_map]; exact hal
                    obtain ⟨q, hq, hq6⟩ := nodeX HGb.out (List.getElem_mem hal)
                    obtain ⟨_, p', cap', e', hr'⟩ := HI.out
                    obtain ⟨b', o', hp', hb', hat⟩ := hr' (fun h => by rw [h] at hal'; simp at hal')
                    injection e' with e1 e2 e3
                    refine ⟨q, b', o', e1.trans hp', hb', hq6, ?_, base[a], List.getElem_mem hal, hq⟩
                    have := hat a hal'
                    rw [List.getElem_map, hq] at this
                    exact this
                  clear HTw HM hlt hi
                  go_wp2_with fail
                  go_loopw [23, 24] (fun s23 s24 wr => ∃ (a : Nat) (y24 : Value), s23 = .int .i64 a ∧ s24 = y24 ∧ a ≤ j ∧ Hid (Below w8.heap.size w8 wr)) (fun a _ _ => j - (intOf a).toNat)
                  case atStart => exact ⟨0, _, rfl, rfl, Nat.zero_le _, Below.refl _ _⟩
                  case round =>
                    obtain ⟨a, y24, rfl, h24, ha, HB9⟩ := hrel
                    have h24' := h24.symm
                    clear h24
                    subst h24'
                    by_cases haj : a < j
                    · have haji : (a : Int) < (j : Int) := by omega
                      go_wp2_with fail
                      go_loopw [24] (fun s24 wr => ∃ d : Nat, s24 = .int .i64 d ∧ d ≤ j ∧ Hid (Below w8.heap.size w8 wr)) (fun d _ => j - (intOf d).toNat)
                      case atStart => exact ⟨0, rfl, Nat.zero_le _, HB9⟩
                      case round =>
                        obtain ⟨d, rfl, hd, HBd⟩ := hrel
                        by_cases hdj : d < j
                        · have hdji : (d : Int) < (j : Int) := by omega
                          obtain ⟨q1, b1, o1, hp1, hb1, h1, k1, m1, hm1', hn1⟩ := HNd.out a haj
                          obtain ⟨q2, b2, o2, hp2, hb2, h2, k2, m2, hm2', hn2⟩ := HNd.out d hdj
                          have hpp : b1 = b2 ∧ o1 = o2 := by
                            have := hp1.symm.trans hp2
                            simpa using this
                          obtain ⟨rfl, rfl⟩ := hpp
                          have hle : c2 (q1 : Int) ≤ c2 (q2 : Int) + 1 := by
                            have := HSp2.out.near m1 hm1' m2 hm2'
                            rw [hn1, hn2] at this
                            exact this
                          have hb10 : c2 (q2 : Int) ≤ 10 := by
                            have := HSp2.out.top m2 hm2'
                            rw [hn2] at this
                            omega
                          subst hp1
                          have e1 := (World.cell?_of_block (a := ⟨b1, o1 + a, none⟩) (HBd.out.block b1 hb1)).trans k1
                          have e2 := (World.cell?_of_block (a := ⟨b1, o1 + d, none⟩) (HBd.out.block b1 hb1)).trans k2
                          have M9 : ManyAt wr tb 6 (fun q => ((c2 (q : Int) : Nat) : Int)) := M8.out.below HBd.out
                          have z1 := M9.cell q1 h1
                          have z2 := M9.cell q2 h2
                          clear M9 k1 k2 hm1' hm2' hn1 hn2 hp2
                          generalize c2 (q1 : Int) = g1 at z1 hle
                          generalize c2 (q2 : Int) = g2 at z2 hle hb10
                          have hwr : IntKind.i64.wrap ((g2 : Int) + 1) = (g2 : Int) + 1 := by rw [IntKind.wrap_i64]; omega
                          have hle' : ¬ (g2 : Int) + 1 < (g1 : Int) := by omega
                          have hq1 : (q1 : Int) < 6 := by omega
                          have hq2 : (q2 : Int) < 6 := by omega
                          go_upto_region 40 with fail
                          go_quiet (fail)
                          go_wp2_with fail
                          go_roundw
                          case rel => exact ⟨d + 1, by go_num, by omega, HBd.out.trans (below_drewN _ _ _)⟩
                          case measure => simp [intOf]; omega
                        · have hdji : ¬ (d : Int) < (j : Int) := by omega
                          go_wp2_with fail
                          go_roundw
                          case rel => exact ⟨a + 1, _, by go_num, rfl, by omega, HBd⟩
                          case measure => simp [intOf]; omega
                    · have haji : ¬ (a : Int) < (j : Int) := by omega
                      have R9 : Hid (RusIs wr vf (xC base c2 lm)) := HF.out.below HB9.out
                      have M9 : Hid (ManyAt wr tb 6 (fun q => ((c2 (q : Int) : Nat) : Int))) := M8.out.below HB9.out
                      have I9 : Hid (IntsIs wr (.slice p16 j cap16) (base.map Mm.n)) := HI.out.below HB9.out
                      have B9 : Hid (Below w.heap.size w wr) := HB.out.trans (HB9.out.mono HB.out.size)
                      have U9 : Hid (tb < wr.heap.size) := Nat.lt_of_lt_of_le HU.out HB9.out.size
                      have HT9 : Hid (t + 1 ≤ sumC base c2) := by
                        show _ ≤ _
                        have := HTs.out
                        have := HSm2.out
                        omega
                      have ht1 : t + 1 ≤ 60 := Nat.le_trans HT9.out (sumX HGb.out hl10 HSp2.out)
                      go_wp2_with fail
                      go_roundw
                      case rel => exact ⟨t + 1, _, _, _, _, _, _, _, c2, rfl, by go_num, rfl, rfl, rfl, rfl, rfl, rfl, ht1, HT9, HSp2, R9, fun _ h => F7o.out tb h rfl, M9, I9, B9, U9⟩
                      case measure => simp [intOf]; omega
end Go.Proofs.Ytpelbmhhppcmeaf
