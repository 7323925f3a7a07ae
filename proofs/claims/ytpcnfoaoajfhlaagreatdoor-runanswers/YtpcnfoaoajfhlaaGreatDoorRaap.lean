/-
  Package swap by its contracts: isKey, checkKeys, Give.
  Package tree by its contracts: grow, of a cache that is wrong.
  Package tree by its contracts: grow, of a cache that is right.
  Package tree by its contracts: Node.
-/
import Derived.Test.YtpcnfoaoajfhlaaGreatDoorRaan
import Derived.Test.YtpcnfoaoajfhlaaGreatDoorRaao
import Derived.BigRegion
import Derived.BigQuiet
import Derived.Deep.RegionHeld3
import Derived.BigGuard
import Derived.BigCall
namespace Go.Proofs.YtpcnfoaoajfhlaaGreatDoor
set_option linter.unusedVariables false
set_option linter.unusedSimpArgs false
set_option linter.unusedVariables false
set_option linter.unusedSimpArgs false
open Go.RowKit

theorem isKeyS_c (k : Int) (w : World) : Calls Tryz.prog 198 #[.int .i64 k] w fun e w' => e = .returned (.bool (isKeyB k)) ∧ w' = w := by
  by_cases h : 0 ≤ k
  · have hd : decide (0 ≤ k) = true := by simpa using h
    go_enter Tryz.func198, Tryz.ntmps198
    go_wp2
    go_ret
    exact ⟨by simp [isKeyB, h], rfl⟩
  · have hd : decide (0 ≤ k) = false := by simpa using h
    go_enter Tryz.func198, Tryz.ntmps198
    go_wp2
    go_ret
    refine ⟨?_, rfl⟩
    have h' : ¬ 0 ≤ k := by omega
    simp [isKeyB, h']
theorem isKeyS_b (k : Int) (b : Bool) (w : World) (hb : isKeyB k = b) : Calls Tryz.prog 198 #[.int .i64 k] w fun e w' => e = .returned (.bool b) ∧ w' = w := by
  subst hb
  exact isKeyS_c k w

set_option maxHeartbeats 4000000 in
theorem checkKeys_c (v : Value) (l : List Int) (w : World) (hr : IntsIs w v l) (hcap : CapOk v l.length) :
    Calls Tryz.prog 183 #[v] w fun e w' => e = .returned (eV (badK l)) ∧ w' = w := by
  obtain ⟨p, cap, rfl, hc1, hc2⟩ := hcap
  have HRow : Hid (IntsIs w (.slice p l.length cap) l) := hr
  obtain ⟨_, q, c, e, hrow⟩ := hr
  injection e with e1 e2 e3
  subst e1
  have HR : Hid (l ≠ [] → ∃ bb o, p = some ⟨bb, o, none⟩ ∧ bb < w.heap.size ∧ ∀ j (h : j < l.length), w.cell? ⟨bb, o + j, none⟩ = some (.int .i64 l[j])) := hrow
  clear hrow e2 e3
  by_cases h8 : 8 < l.length
  · rw [badK_full h8, eV_err (by omega)]
    have hi8 : (8 : Int) < (l.length : Int) := by omega
    clear HR HRow
    generalize l.length = n at *
    go_enter Tryz.func183, Tryz.ntmps183
    go_wp2_with fail
    go_ret
    exact ⟨rfl, rfl⟩
  rw [badK_else h8]
  obtain ⟨R, HE⟩ : ∃ R, Hid (badKF (l.take 0) (l.drop 0) = R) := ⟨_, rfl⟩
  rw [HE.out]
  have hi8 : ¬ (8 : Int) < (l.length : Int) := by omega
  obtain ⟨n, HN⟩ : ∃ n, Hid (l.length = n) := ⟨_, rfl⟩
  rw [HN.out] at hc1 h8 hi8 HRow ⊢
  have hc63 : cap ≤ 9223372036854775807 := hc2
  go_enter Tryz.func183, Tryz.ntmps183
  go_wp2_with fail
  go_loopw [11] (fun i wr => ∃ j : Nat, j ≤ n ∧ i = .int .i64 j ∧ Hid (badKF (l.take j) (l.drop j) = R) ∧ wr = w) (fun i _ => n - (intOf i).toNat)
  case atStart => exact ⟨0, Nat.zero_le _, rfl, HE, rfl⟩
  case round =>
    obtain ⟨j, hj, rfl, HJ, rfl⟩ := hrel
    by_cases hlt : j < n
    · have hja : j < l.length := by rw [HN.out]; exact hlt
      obtain ⟨ba, oa, hp, hbwa, hata⟩ := HR.out (fun h => by simp [h] at hja)
      have c0 := hata j hja
      clear hata
      subst hp
      have HRow' : Hid (IntsIs wr (.slice (some ⟨ba, oa, none⟩) l.length cap) l) := by rw [HN.out]; exact HRow
      have hlti : (j : Int) < (n : Int) := by omega
      cases hin : isKeyB l[j]
      · have HRv : Hid (R = 1) := HJ.out.symm.trans (badKF_range hja hin)
        have HIn : Hid (isKeyB l[j] = false) := hin
        clear hin
        generalize l[j] = x at *
        go_wp2_with (go_at_call 198; refine (isKeyS_b x false _ HIn.out).mono ?_; rintro e w' ⟨rfl, rfl⟩)
        go_ret
        refine ⟨?_, rfl⟩
        rw [HRv.out, eV_err (by omega)]
        rfl
      · have HIn : Hid (isKeyB l[j] = true) := hin
        cases hco : (l.take j).contains l[j]
        · have HRv : Hid (badKF (l.take (j + 1)) (l.drop (j + 1)) = R) := (badKF_next hja hin hco).symm.trans HJ.out
          have HCo : Hid ((l.take j).contains l[j] = false) := hco
          clear hin hco
          generalize l[j] = x at *
          go_wp2_with fail
          refine (isKeyS_b x true _ HIn.out).mono ?_
          rintro e w' ⟨rfl, rfl⟩
          go_wp2_with fail
          refine (containsI_c _ (l.take j) x false _ (IntsIs.take HRow'.out (by rw [HN.out]; exact hj) (fun _ => rfl)) HCo.out).mono ?_
          rintro e w2 ⟨rfl, rfl⟩
          go_wp2_with fail
          go_roundw
          case rel => exact ⟨j + 1, by omega, by go_num, HRv, trivial⟩
          case measure => simp [intOf]; omega
        · have HRv : Hid (R = 7) := HJ.out.symm.trans (badKF_clash hja hin hco)
          have HCo : Hid ((l.take j).contains l[j] = true) := hco
          clear hin hco
          generalize l[j] = x at *
          go_wp2_with fail
          refine (isKeyS_b x true _ HIn.out).mono ?_
          rintro e w' ⟨rfl, rfl⟩
          go_wp2_with fail
          refine (containsI_c _ (l.take j) x true _ (IntsIs.take HRow'.out (by rw [HN.out]; exact hj) (fun _ => rfl)) HCo.out).mono ?_
          rintro e w2 ⟨rfl, rfl⟩
          go_wp2_with fail
          go_ret
          refine ⟨?_, rfl⟩
          rw [HRv.out, eV_err (by omega)]
          rfl
    · obtain rfl : j = n := by omega
      have HR0 : Hid (R = 0) := by
        show R = 0
        rw [← HJ.out, ← HN.out]
        exact badKF_end l
      go_wp2_with fail
      go_ret
      exact ⟨by rw [HR0.out, eV_zero]; rfl, rfl⟩
theorem checkKeys_o {v : Value} {l : List Int} {w : World} {n : Int} (hr : IntsIs w v l) (hcap : CapOk v l.length) (h : badK l = n) :
    Calls Tryz.prog 183 #[v] w fun e w' => e = .returned (eV n) ∧ w' = w := by
  subst h
  exact checkKeys_c v l w hr hcap
theorem checkKeys_ok {v : Value} {l : List Int} {w : World} (hr : IntsIs w v l) (hcap : CapOk v l.length) (h : badK l = 0) :
    Calls Tryz.prog 183 #[v] w fun e w' => e = .returned .nilIface ∧ w' = w := checkKeys_o hr hcap h
theorem checkKeys_err {v : Value} {l : List Int} {w : World} {n : Int} (hr : IntsIs w v l) (hcap : CapOk v l.length) (h : badK l = n) (hn : n ≠ 0) :
    Calls Tryz.prog 183 #[v] w fun e w' => e = .returned (.iface 85 (.int .i64 n)) ∧ w' = w := by
  have c := checkKeys_o hr hcap h
  rw [eV_err hn] at c
  exact c

/-- entries and an error come back -/
def GiveIs (w : World) (L : List En) (n : Int) (e : Ending) (w' : World) : Prop := ∃ v', e = .returned (.tuple #[v', eV n]) ∧ RowIs w' v' L ∧ Below w.heap.size w w'
set_option maxHeartbeats 8000000 in
theorem give_ok (v vk : Value) (l : List En) (K : List Int) (w : World) (hr : RowIs w v l) (hk : IntsIs w vk K) (hcap : CapOk vk K.length) (hl : badL l = 0) (hK : badK K = 0) :
    Calls Tryz.prog 142 #[v, vk] w (GiveIs w (someE l K) 0) := by
  have HR : Hid (RowIs w v l) := hr
  have HK : Hid (IntsIs w vk K) := hk
  have HC : Hid (CapOk vk K.length) := hcap
  have HL0 : Hid (badL l = 0) := hl
  have HK0 : Hid (badK K = 0) := hK
  have HG : Hid (GoodL l) := badL_good hl
  have HS : Hid (someE l K = someE (l.take l.length) K) := by show _ = _; rw [List.take_length]
  rw [HS.out]
  clear hk hcap hl hK HS
  obtain ⟨hlen, p, cap, rfl, hrow⟩ := hr
  have HRow : Hid (l ≠ [] → ∃ b o, p = some ⟨b, o, none⟩ ∧ b < w.heap.size ∧ ∀ j (h : j < l.length), EnAt w b (o + j * 5) l[j]) := hrow
  clear hrow
  obtain ⟨n, HN⟩ : ∃ n, Hid (l.length = n) := ⟨_, rfl⟩
  rw [HN.out] at hlen HR ⊢
  have hn63 : n ≤ 9223372036854775807 := hlen
  go_enter Tryz.func142, Tryz.ntmps142
  go_wp2_with fail
  refine (cacheCheck_ok HR.out HL0.out).mono ?_
  rintro e w1 ⟨rfl, hb⟩
  have B1 : Hid (Below w.heap.size w w1) := hb
  clear hb
  go_wp2_with fail
  refine (checkKeys_ok (HK.out.below B1.out) HC.out HK0.out).mono ?_
  rintro e w2 ⟨rfl, hw⟩
  have B2 : Hid (Below w.heap.size w w2) := by rw [hw]; exact B1
  clear hw B1
  go_wp2_with fail
  go_loopw [8, 23] (fun s6 s22 wr => ∃ (j : Nat) (v6 : Value), s6 = v6 ∧ j ≤ n ∧ s22 = .int .i64 j ∧ Hid (wr.ownsRow w.heap.size 46 5 v6 (someE (l.take j) K).length (rowC (someE (l.take j) K))) ∧ Hid (Below w.heap.size w wr)) (fun _ i _ => n - (intOf i).toNat)
  case atStart => exact ⟨0, .slice none 0 0, rfl, Nat.zero_le _, rfl, World.ownsRow_nil _ _ _ _, B2⟩
  case round =>
    obtain ⟨j, v6, hs6, hj, rfl, HO, HB⟩ := hrel
    have hs6' := hs6.symm
    clear hs6
    subst hs6'
    by_cases hlt : j < n
    · have hjl : j < l.length := by rw [HN.out]; exact hlt
      obtain ⟨b, o, rfl, hbw, hat⟩ := HRow.out (fun h => by simp [h] at hjl)
      have HAt : Hid (EnAt wr b (o + j * 5) l[j]) := (hat j hjl).of_block (HB.out.block b hbw)
      clear hat
      have hlti : (j : Int) < (n : Int) := by omega
      have hws := HB.out.size
      have HY : Hid (K.contains l[j].k = true → someE (l.take (j + 1)) K = someE (l.take j) K ++ [l[j]]) := fun ha => someE_yes hjl ha
      have HNo : Hid (K.contains l[j].k = false → someE (l.take (j + 1)) K = someE (l.take j) K) := fun ha => someE_no hjl ha
      have HL8 : Hid ((someE (l.take j) K).length ≤ 100) := Nat.le_trans (someE_len _ _) (Nat.le_trans (List.length_take_le _ _) (Nat.le_trans hj (Nat.le_trans (by rw [← HN.out]; exact HG.out.len) (by omega))))
      obtain ⟨x, HX⟩ : ∃ x, Hid (l[j] = x) := ⟨l[j], show l[j] = l[j] from rfl⟩
      rw [HX.out] at HAt HY HNo
      obtain ⟨x0, x1, x2, x3, x4⟩ := x
      obtain ⟨c0, c1, c2, c3, c4⟩ := HAt.out
      dsimp only at c0 c1 c2 c3 c4
      obtain ⟨xs, HXs⟩ : ∃ xs, Hid (someE (l.take j) K = xs) := ⟨_, rfl⟩
      rw [HXs.out] at HO HY HNo HL8
      clear HXs HX
      obtain ⟨w3, HW3⟩ : ∃ x, x = wr.alloc (.cells #[.int .i64 x0, .int .i64 x1, .int .i64 x2, .bool x3, .string x4] 46) := ⟨_, rfl⟩
      have B3 : Hid (Below w.heap.size w w3) := by
        rw [HW3]
        exact HB.out.alloc hws _
      have O3 : Hid (w3.ownsRow w.heap.size 46 5 v6 xs.length (rowC xs)) := by
        rw [HW3]
        exact HO.out.alloc _
      have X3 : Hid (BoxAt w3 wr.heap.size x0 x1 x2 x3 x4) := by
        rw [HW3]
        exact box_new wr x0 x1 x2 x3 x4 _ rfl
      cases hc : K.contains x0
      · have HC0 : Hid (K.contains x0 = false) := hc
        have HE : Hid (someE (l.take (j + 1)) K = xs) := HNo.out hc
        clear hc HY HNo
        go_wp2_with fail
        refine (containsI_c vk K x0 false _ (HK.out.below (by rw [← HW3]; exact B3.out)) HC0.out).mono ?_
        rintro e w4 ⟨rfl, hw⟩
        have B4 : Hid (Below w.heap.size w w4) := by rw [hw, ← HW3]; exact B3
        have O4 : Hid (w4.ownsRow w.heap.size 46 5 v6 xs.length (rowC xs)) := by rw [hw, ← HW3]; exact O3
        clear hw HW3 B3 O3 X3 c0 c1 c2 c3 c4
        go_wp2_with fail
        go_roundw
        case rel =>
          refine ⟨j + 1, v6, rfl, by omega, by go_num, ?_, B4⟩
          show World.ownsRow _ _ _ _ _ _ _
          rw [HE.out]
          exact O4.out
        case measure => simp [intOf]; omega
      · have HC0 : Hid (K.contains x0 = true) := hc
        have HE : Hid (someE (l.take (j + 1)) K = xs ++ [En.mk x0 x1 x2 x3 x4]) := HY.out hc
        clear hc HY HNo
        go_wp2_with fail
        refine (containsI_c vk K x0 true _ (HK.out.below (by rw [← HW3]; exact B3.out)) HC0.out).mono ?_
        rintro e w4 ⟨rfl, hw⟩
        obtain ⟨eb, HEb⟩ : ∃ eb, Hid (wr.heap.size = eb) := ⟨_, rfl⟩
        rw [HEb.out] at X3 ⊢
        have B4 : Hid (Below w.heap.size w w4) := by rw [hw, ← HW3]; exact B3
        have O4 : Hid (w4.ownsRow w.heap.size 46 5 v6 xs.length (rowC xs)) := by rw [hw, ← HW3]; exact O3
        have X4 : Hid (BoxAt w4 eb x0 x1 x2 x3 x4) := by rw [hw, ← HW3]; exact X3
        clear hw HW3 B3 O3 X3 c0 c1 c2 c3 c4 HEb
        have hws4 := B4.out.size
        obtain ⟨c0, c1, c2, c3, c4, cf⟩ := X4.out
        have HBa : Hid (Below w.heap.size w (w4.alloc (.cells #[.int .i64 x0, .int .i64 x1, .int .i64 x2, .bool x3, .string x4] 46))) := B4.out.alloc hws4 _
        have HOa : Hid ((w4.alloc (.cells #[.int .i64 x0, .int .i64 x1, .int .i64 x2, .bool x3, .string x4] 46)).ownsRow w.heap.size 46 5 v6 xs.length (rowC xs)) := O4.out.alloc _
        have HVa : Hid ((w4.alloc (.cells #[.int .i64 x0, .int .i64 x1, .int .i64 x2, .bool x3, .string x4] 46)).heap[w4.heap.size]? = some (.cells (En.cells (En.mk x0 x1 x2 x3 x4)).toArray 46 (0, 0))) := alloc_at _ _ _ rfl
        have HSa : Hid (w.heap.size ≤ (w4.alloc (.cells #[.int .i64 x0, .int .i64 x1, .int .i64 x2, .bool x3, .string x4] 46)).heap.size) := show _ ≤ _ from (by simp; omega)
        go_wp2_with (at_builtin; refine wp_app _ rfl _ _ rfl w.heap.size _ xs (En.mk x0 x1 x2 x3 x4) rfl HOa.out _ rfl HVa.out HL8.out HSa.out ?_)
        intro va wa hown hgrow
        have HOp : Hid (wa.ownsRow w.heap.size 46 5 va (xs ++ [En.mk x0 x1 x2 x3 x4]).length (rowC (xs ++ [En.mk x0 x1 x2 x3 x4]))) := hown
        have HBp : Hid (Below w.heap.size w wa) := below_grownF (HBa.out) (Nat.le_refl _) hgrow.out (fun c hc => ownsRow_fromF O4.out c hc)
        clear hown hgrow HOa HVa HL8 HSa HBa
        clear c0 c1 c2 c3 c4 cf X4
        go_wp2_with fail
        go_roundw
        case rel =>
          refine ⟨j + 1, va, rfl, by omega, by go_num, ?_, HBp⟩
          show World.ownsRow _ _ _ _ _ _ _
          rw [HE.out]
          exact HOp.out
        case measure => simp [intOf]; omega
    · obtain rfl : j = n := by omega
      go_wp2_with fail
      go_ret2
      exact ⟨v6, rfl, RowIs.own HO.out, HB.out⟩
theorem give_one (v vk : Value) (l : List En) (n : Int) (w : World) (hr : RowIs w v l) (hl : badL l = n) (hn : n ≠ 0) :
    Calls Tryz.prog 142 #[v, vk] w (GiveIs w [] n) := by
  have HR : Hid (RowIs w v l) := hr
  have HL : Hid (badL l = n) := hl
  clear hr hl
  go_enter Tryz.func142, Tryz.ntmps142
  go_wp2_with fail
  refine (cacheCheck_err HR.out HL.out hn).mono ?_
  rintro e w1 ⟨rfl, hb⟩
  have B1 : Hid (Below w.heap.size w w1) := hb
  clear hb
  go_wp2_with fail
  go_ret2
  refine ⟨.slice none 0 0, ?_, RowIs.nil _, B1.out⟩
  rw [eV_err hn]
  rfl
theorem give_two (v vk : Value) (l : List En) (K : List Int) (n : Int) (w : World) (hr : RowIs w v l) (hk : IntsIs w vk K) (hcap : CapOk vk K.length) (hl : badL l = 0) (hK : badK K = n) (hn : n ≠ 0) :
    Calls Tryz.prog 142 #[v, vk] w (GiveIs w [] n) := by
  have HR : Hid (RowIs w v l) := hr
  have HL : Hid (badL l = 0) := hl
  have HKi : Hid (IntsIs w vk K) := hk
  have HC : Hid (CapOk vk K.length) := hcap
  have HK : Hid (badK K = n) := hK
  clear hr hl hk hcap hK
  go_enter Tryz.func142, Tryz.ntmps142
  go_wp2_with fail
  refine (cacheCheck_ok HR.out HL.out).mono ?_
  rintro e w1 ⟨rfl, hb⟩
  have B1 : Hid (Below w.heap.size w w1) := hb
  clear hb
  go_wp2_with fail
  refine (checkKeys_err (HKi.out.below B1.out) HC.out HK.out hn).mono ?_
  rintro e w2 ⟨rfl, hw⟩
  have B2 : Hid (Below w.heap.size w w2) := by rw [hw]; exact B1
  clear hw B1
  go_wp2_with fail
  go_ret2
  refine ⟨.slice none 0 0, ?_, RowIs.nil _, B2.out⟩
  rw [eV_err hn]
  rfl
theorem give_c (v vk : Value) (l : List En) (K : List Int) (w : World) (hr : RowIs w v l) (hk : IntsIs w vk K) (hcap : CapOk vk K.length) :
    Calls Tryz.prog 142 #[v, vk] w (GiveIs w (giveW l K).1 (giveW l K).2) := by
  by_cases h : badL l = 0
  · by_cases hK : badK K = 0
    · rw [giveW_ok h hK]
      exact give_ok v vk l K w hr hk hcap h hK
    · rw [giveW_two h rfl hK]
      exact give_two v vk l K _ w hr hk hcap h rfl hK
  · rw [giveW_one rfl h]
    exact give_one v vk l _ w hr rfl h
end Go.Proofs.YtpcnfoaoajfhlaaGreatDoor

namespace Go.Proofs.YtpcnfoaoajfhlaaGreatDoor
set_option linter.unusedVariables false
set_option linter.unusedSimpArgs false
open Go.RowKit

/-- sixteen zeros -/
theorem six_zero (w : World) (b : Nat) (h : b = w.heap.size) : SixAt (w.alloc (.cells #[.int .i64 0, .int .i64 0, .int .i64 0, .int .i64 0, .int .i64 0, .int .i64 0, .int .i64 0, .int .i64 0, .int .i64 0, .int .i64 0, .int .i64 0, .int .i64 0, .int .i64 0, .int .i64 0, .int .i64 0, .int .i64 0] 256)) b (fun _ => 0) := six_new w _ b h (fun _ => 0)
set_option maxHeartbeats 4000000 in
theorem grow_bad (v : Value) (l : List En) (n : Int) (w : World) (hr : RowIs w v l) (h : badL l = n) (hn : n ≠ 0) :
    Calls Tryz.prog 181 #[v] w fun e w' => e = .returned (.tuple #[ag16 (fun _ => 0), .iface 85 (.int .i64 n)]) ∧ Below w.heap.size w w' := by
  have H : Hid (badL l = n) := h
  have HR : Hid (RowIs w v l) := hr
  clear h hr
  go_enter Tryz.func181, Tryz.ntmps181
  go_wp2_with fail
  have hb0 : Below w.heap.size w (w.alloc (.cells #[.int .i64 0, .int .i64 0, .int .i64 0, .int .i64 0, .int .i64 0, .int .i64 0, .int .i64 0, .int .i64 0, .int .i64 0, .int .i64 0, .int .i64 0, .int .i64 0, .int .i64 0, .int .i64 0, .int .i64 0, .int .i64 0] 256)) := by go_grown
  refine (cacheCheck_err (HR.out.below hb0) H.out hn).mono ?_
  rintro e w1 ⟨rfl, hb⟩
  have B1 : Hid (Below w.heap.size w w1) := hb0.trans (hb.mono (by simp))
  have S1 : Hid (SixAt w1 w.heap.size (fun _ => 0)) := (six_zero w w.heap.size rfl).grown hb
  clear hb hb0
  obtain ⟨c0, c1, c2, c3, c4, c5, c6, c7, c8, c9, c10, c11, c12, c13, c14, c15⟩ := six_cells S1.out
  have fz := S1.out.fz
  go_wp2_with fail
  show bodyPost _ _ _ _ _ (set16 w1 w.heap.size (fun _ => 0))
  have S2 : SixAt (set16 w1 w.heap.size (fun _ => 0)) w.heap.size (fun _ => 0) := S1.out.set16 (fun _ => 0)
  have B2 : Hid (Below w.heap.size w (set16 w1 w.heap.size (fun _ => 0))) := set16_below B1.out (Nat.le_refl _) _
  generalize set16 w1 w.heap.size (fun _ => 0) = w2 at S2 B2 ⊢
  clear c0 c1 c2 c3 c4 c5 c6 c7 c8 c9 c10 c11 c12 c13 c14 c15 fz
  obtain ⟨c0, c1, c2, c3, c4, c5, c6, c7, c8, c9, c10, c11, c12, c13, c14, c15⟩ := six_cells S2
  refine bodyPost_ret (v := .tuple #[ag16 (fun _ => 0), .iface 85 (.int .i64 n)]) (by simp [results, Tryz.results181, go_sem, c0, c1, c2, c3, c4, c5, c6, c7, c8, c9, c10, c11, c12, c13, c14, c15, ag16]) rfl ?_
  exact ⟨rfl, B2.out⟩
end Go.Proofs.YtpcnfoaoajfhlaaGreatDoor

namespace Go.Proofs.YtpcnfoaoajfhlaaGreatDoor
set_option linter.unusedVariables false
set_option linter.unusedSimpArgs false
open Go.RowKit

theorem good_nats {k v a : Int} {g : Bool} {t : ByteArray} (h : bad k v a g t = 0) : ∃ K V : Nat, k = (K : Int) ∧ v = (V : Int) ∧ K ≤ 7 ∧ V ≤ 1000 ∧ t.size ≤ 12 := by
  unfold bad at h
  split at h
  · cases h
  · rename_i h1
    split at h
    · cases h
    · rename_i h2
      simp only [inR, Bool.and_eq_true, decide_eq_true_eq, Bool.not_eq_true', Bool.not_eq_false] at h1
      exact ⟨k.toNat, v.toNat, by omega, by omega, by omega, by omega, by omega⟩

set_option maxHeartbeats 8000000 in
theorem grow_ok (v : Value) (l : List En) (w : World) (hr : RowIs w v l) (h : badL l = 0) (hT : Lib.TabIs Tryz.prog w powName .u64 Lib.pow10Tab) :
    Calls Tryz.prog 181 #[v] w fun e w' => e = .returned (.tuple #[ag16 (downTo (leafN l) 0), .nilIface]) ∧ Below w.heap.size w w' := by
  have H : Hid (badL l = 0) := h
  have HG : Hid (GoodL l) := badL_good h
  have HR : Hid (RowIs w v l) := hr
  have HT : Hid (Lib.TabBelow Tryz.prog w.heap.size w powName .u64 Lib.pow10Tab) := Lib.tabBelow_of_tabIs hT
  have HF : Hid (∀ i k, downTo (leafN l) i k < 4294967296) := fun i k => downTo_lt _ (leafN_lt l) i k
  obtain ⟨F, HFd⟩ : ∃ F, Hid (leafN l = F) := ⟨_, rfl⟩
  have HA : Hid (endsOf l l.length = downTo F 7) := by
    rw [← HFd.out]
    exact endsOf_all l
  rw [HFd.out] at HF ⊢
  obtain ⟨hlen, p, cap, rfl, hrow⟩ := hr
  clear hrow h hT
  obtain ⟨n, HN⟩ : ∃ n, Hid (l.length = n) := ⟨_, rfl⟩
  rw [HN.out] at hlen HR HA ⊢
  have hn63 : n ≤ 9223372036854775807 := hlen
  have hb0 : Below w.heap.size w (w.alloc (.cells #[.int .i64 0, .int .i64 0, .int .i64 0, .int .i64 0, .int .i64 0, .int .i64 0, .int .i64 0, .int .i64 0, .int .i64 0, .int .i64 0, .int .i64 0, .int .i64 0, .int .i64 0, .int .i64 0, .int .i64 0, .int .i64 0] 256)) := by go_grown
  have HB0 := (show Hid (Below _ _ _) from hb0)
  clear hb0
  go_enter Tryz.func181, Tryz.ntmps181
  go_wp2_with fail
  refine (cacheCheck_ok (HR.out.below HB0.out) H.out).mono ?_
  rintro e w1 ⟨rfl, hb⟩
  have B1 : Hid (Below w.heap.size w w1) := HB0.out.trans (hb.mono (by simp))
  have S1 : Hid (SixAt w1 w.heap.size (fun _ => 0)) := (six_zero w w.heap.size rfl).grown hb
  clear hb HB0 H
  go_upto_region 5 with fail
  obtain ⟨w2, HW2⟩ : ∃ x, x = w1.alloc (.cells #[.int .i64 0, .int .i64 0, .int .i64 0, .int .i64 0, .int .i64 0, .int .i64 0, .int .i64 0, .int .i64 0, .int .i64 0, .int .i64 0, .int .i64 0, .int .i64 0, .int .i64 0, .int .i64 0, .int .i64 0, .int .i64 0] 256) := ⟨_, rfl⟩
  rw [← HW2]
  have B2 : Hid (Below w.heap.size w w2) := by
    rw [HW2]
    exact B1.out.alloc B1.out.size _
  have S2 : Hid (SixAt w2 w.heap.size (fun _ => 0)) := by
    rw [HW2]
    exact S1.out.alloc _
  obtain ⟨bt, HBt⟩ : ∃ b, Hid (w1.heap.size = b) := ⟨_, rfl⟩
  have hlt : w.heap.size < bt := by
    rw [← HBt.out]
    exact S1.out.lt
  have T2 : Hid (SixAt w2 bt (fun _ => 0)) := by
    rw [HW2]
    exact six_zero w1 bt HBt.out.symm
  rw [HBt.out]
  clear HW2 S1 B1 HBt
  go_wp2_with fail
  go_loopw [21] (fun i wr => ∃ j : Nat, j ≤ n ∧ i = .int .i64 j ∧ Hid (SixAt wr w.heap.size (fun _ => 0)) ∧ Hid (SixAt wr bt (endsOf l j)) ∧ Hid (Below w.heap.size w wr)) (fun i _ => n - (intOf i).toNat)
  case atStart => exact ⟨0, Nat.zero_le _, rfl, S2, by rw [endsOf_zero]; exact T2, B2⟩
  case round =>
    clear S2 T2 B2
    obtain ⟨j, hj, rfl, SR, TR, BR⟩ := hrel
    by_cases hlt1 : j < n
    · have hjl : j < l.length := by rw [HN.out]; exact hlt1
      obtain ⟨hl', q, cap', hq, hrow'⟩ := HR.out
      obtain ⟨b, o, hq2, hbw, hat⟩ := hrow' (fun h => by simp [h] at hjl)
      subst hq2
      obtain ⟨rfl, _, rfl⟩ : p = some ⟨b, o, none⟩ ∧ n = l.length ∧ cap = cap' := by simpa using hq
      rename_i hnl
      clear hnl
      obtain ⟨x, HX⟩ : ∃ x, Hid (l[j] = x) := ⟨l[j], show l[j] = l[j] from rfl⟩
      obtain ⟨c0, c1, c2, c3, c4⟩ := (hat j hjl).of_block (BR.out.block b hbw)
      rw [HX.out] at c0 c1 c2 c3 c4
      have hbad : x.bad = 0 := by
        rw [← HX.out]
        exact HG.out.all _ (List.getElem_mem _)
      have HK0 : Hid (l[j].k = x.k) := by
        show _ = _
        rw [HX.out]
      have HNm0 : Hid (numE l[j] = numE x) := by
        show _ = _
        rw [HX.out]
      clear hat hrow' hq HX
      obtain ⟨k, vv, a, g, t⟩ := x
      dsimp only at c0 c1 c2 c3 c4 HK0
      obtain ⟨K, V, rfl, rfl, hK, hV, ht⟩ := good_nats hbad
      have HBd : Hid (bad (K : Int) (V : Int) a g t = 0) := hbad
      obtain ⟨N, HNm⟩ : ∃ N, Hid (hashL (byN (strE K V g t)) = N) := ⟨_, rfl⟩
      have HNe : Hid (numE l[j] = N) := HNm0.out.trans HNm.out
      have HC : Hid (∀ w, Lib.TabIs Tryz.prog w powName .u64 Lib.pow10Tab → Calls Tryz.prog 197 #[.agg #[.int .i64 (K : Nat), .int .i64 (V : Nat), .int .i64 a, .bool g, .string t]] w fun e w' => e = .returned (.tuple #[.int .i64 (N : Nat), .nilIface]) ∧ Below w.heap.size w w') := by
        rw [← HNm.out]
        exact fun w hT => hentry_ok K V a g t HBd.out (by omega) hV ht w hT
      clear hbad HBd HNm HNm0
      have hlti : (j : Int) < (n : Int) := by omega
      have hws := BR.out.size
      have hbr : b < wr.heap.size := by omega
      have HXB : Hid (Below wr.heap.size wr (wr.alloc (.cells #[.int .i64 (K : Nat), .int .i64 (V : Nat), .int .i64 a, .bool g, .string t] 46))) := (Below.refl _ wr).alloc (Nat.le_refl _) _
      go_wp2_with fail
      refine (HC.out _ (HT.out _ (BR.out.trans (HXB.out.mono hws)))).mono ?_
      rintro e w3 ⟨rfl, hb⟩
      have B3 : Hid (Below w.heap.size w w3) := (BR.out.trans (HXB.out.mono hws)).trans (hb.mono (by have := HXB.out.size; omega))
      have S3 : Hid (SixAt w3 w.heap.size (fun _ => 0)) := (SR.out.grown HXB.out).grown hb
      have T3 : Hid (SixAt w3 bt (endsOf l j)) := (TR.out.grown HXB.out).grown hb
      obtain ⟨d0, d1, d2, d3, d4, df⟩ := (box_new wr K V a g t wr.heap.size rfl).below hb (by simp)
      clear hb c0 c1 c2 c3 c4 HXB HC SR TR BR
      obtain ⟨M, hM⟩ : ∃ M : Nat, (8 : Int) + (K : Int) = (M : Int) := ⟨8 + K, by omega⟩
      have hM1 : (0 : Int) ≤ (M : Int) := by omega
      have hM2 : (M : Int) < 16 := by omega
      have hM3 : M < 16 := by omega
      have cm := T3.out.cell M hM3
      have cf := T3.out.fz M
      have hbt := T3.out.lt
      obtain ⟨z, HZ⟩ : ∃ z, Hid (endsOf l j M = z) := ⟨_, rfl⟩
      rw [HZ.out] at cm
      go_wp2_with fail
      go_roundw
      case rel => exact ⟨j + 1, by omega, by go_num, S3.out.other _ (by show w.heap.size ≠ bt; omega) _, by rw [← endsOf_step HG.out.rise hjl HK0.out, HNe.out, show 8 + K = M by omega]; exact T3.out.set M hM3 N, ⟨B3.out.os, B3.out.tape, B3.out.output, by rw [World.size_setCell]; exact B3.out.size, fun c hc => (Below.heap_setCell _ _ _ c (by show c ≠ bt; omega)).trans (B3.out.block c hc)⟩⟩
      case measure => simp [intOf]; omega
    · obtain rfl : j = n := by omega
      rw [HA.out] at TR
      clear HA HR
      go_wp2_with fail
      go_loopw [10] (fun i wr => ∃ q : Nat, q ≤ 7 ∧ i = .int .i64 q ∧ Hid (SixAt wr w.heap.size (fun _ => 0)) ∧ Hid (SixAt wr bt (downTo F q)) ∧ Hid (Below w.heap.size w wr)) (fun i _ => (intOf i).toNat)
      case atStart => exact ⟨7, Nat.le_refl _, rfl, SR, TR, BR⟩
      case round =>
        clear SR TR BR
        obtain ⟨q, hq, rfl, SQ, TQ, BQ⟩ := hrel
        by_cases hq0 : q = 0
        · subst hq0
          obtain ⟨d0, d1, d2, d3, d4, d5, d6, d7, d8, d9, d10, d11, d12, d13, d14, d15⟩ := six_cells TQ.out
          obtain ⟨c0, c1, c2, c3, c4, c5, c6, c7, c8, c9, c10, c11, c12, c13, c14, c15⟩ := six_cells SQ.out
          have fz := SQ.out.fz
          have S2 : SixAt (set16 wr w.heap.size (downTo F 0)) w.heap.size (downTo F 0) := SQ.out.set16 (downTo F 0)
          have B2 : Hid (Below w.heap.size w (set16 wr w.heap.size (downTo F 0))) := set16_below BQ.out (Nat.le_refl _) _
          have HS2 := (show Hid (SixAt _ _ _) from S2)
          clear S2 SQ TQ BQ
          obtain ⟨G, HGd⟩ : ∃ G, Hid (downTo F 0 = G) := ⟨_, rfl⟩
          rw [HGd.out] at d0 d1 d2 d3 d4 d5 d6 d7 d8 d9 d10 d11 d12 d13 d14 d15 HS2 B2
          go_wp2_with fail
          show bodyPost _ _ _ _ _ (set16 wr w.heap.size G)
          generalize set16 wr w.heap.size G = w2 at HS2 B2 ⊢
          clear c0 c1 c2 c3 c4 c5 c6 c7 c8 c9 c10 c11 c12 c13 c14 c15 fz d0 d1 d2 d3 d4 d5 d6 d7 d8 d9 d10 d11 d12 d13 d14 d15
          obtain ⟨c0, c1, c2, c3, c4, c5, c6, c7, c8, c9, c10, c11, c12, c13, c14, c15⟩ := six_cells HS2.out
          refine bodyPost_ret (v := .tuple #[ag16 G, .nilIface]) (by simp [results, Tryz.results181, go_sem, c0, c1, c2, c3, c4, c5, c6, c7, c8, c9, c10, c11, c12, c13, c14, c15, ag16]) rfl ?_
          exact ⟨by rw [HGd.out], B2.out⟩
        · obtain ⟨i, rfl⟩ : ∃ i, q = i + 1 := ⟨q - 1, by omega⟩
          obtain ⟨m, hm⟩ : ∃ m, m = i + 1 := ⟨_, rfl⟩
          rw [← hm] at TQ hq0 ⊢
          have HM : Hid (m = i + 1) := hm
          obtain ⟨x, HX⟩ : ∃ x, Hid (downTo F m (2 * m) = x) := ⟨_, rfl⟩
          obtain ⟨y, HY⟩ : ∃ y, Hid (downTo F m (2 * m + 1) = y) := ⟨_, rfl⟩
          have hx : x ≤ 4294967295 := by have := HF.out m (2 * m); rw [HX.out] at this; omega
          have hy : y ≤ 4294967295 := by have := HF.out m (2 * m + 1); rw [HY.out] at this; omega
          obtain ⟨N, HNm⟩ : ∃ N, Hid (pairH x y = N) := ⟨_, rfl⟩
          have HC : Hid (∀ w, Lib.TabIs Tryz.prog w powName .u64 Lib.pow10Tab → Calls Tryz.prog 104 #[.int .i64 (x : Nat), .int .i64 (y : Nat)] w fun e w' => e = .returned (.tuple #[.int .i64 (N : Nat), .nilIface]) ∧ Below w.heap.size w w') := by
            rw [← HNm.out]
            exact fun w hT => two_ok x y w hx hy hT
          have c1 := TQ.out.cell (2 * m) (by omega)
          have c2 := TQ.out.cell (2 * m + 1) (by omega)
          rw [HX.out] at c1
          rw [HY.out] at c2
          have hbt := TQ.out.lt
          have hm1 : (1 : Int) ≤ (m : Int) := by omega
          have hm0 : (0 : Int) ≤ (m : Int) := by omega
          have hm16 : (m : Int) < 16 := by omega
          obtain ⟨P1, hP1⟩ : ∃ P : Nat, 2 * m = P := ⟨_, rfl⟩
          obtain ⟨P2, hP2⟩ : ∃ P : Nat, P1 + 1 = P := ⟨_, rfl⟩
          have i1 : (2 : Int) * (m : Int) = (P1 : Int) := by omega
          have i2 : (P1 : Int) + 1 = (P2 : Int) := by omega
          have j1 : IntKind.i64.wrap (P1 : Int) = (P1 : Int) := wrap_small _ (by omega) (by omega)
          have j2 : IntKind.i64.wrap (P2 : Int) = (P2 : Int) := wrap_small _ (by omega) (by omega)
          have i3 : (0 : Int) ≤ (P1 : Int) := by omega
          have i4 : (P1 : Int) < 16 := by omega
          have i5 : (0 : Int) ≤ (P2 : Int) := by omega
          have i6 : (P2 : Int) < 16 := by omega
          rw [hP1] at c1 c2
          rw [hP2] at c2
          have HC1 := (show Hid (wr.cell? ⟨bt, P1, none⟩ = _) from c1)
          have HC2 := (show Hid (wr.cell? ⟨bt, P2, none⟩ = _) from c2)
          clear hm hx hy hP1 hP2 c1 c2
          have HTq : Hid (Lib.TabIs Tryz.prog wr.drew powName .u64 Lib.pow10Tab) := HT.out _ BQ.out.drew
          go_upto_region 16 with fail
          go_region_held3 (fun w' => w'.cell? ⟨bt, P1, none⟩ = some (.int .i64 (x : Nat)) ∧ w'.cell? ⟨bt, P2, none⟩ = some (.int .i64 (y : Nat))) (first | (exact ⟨HC1.out, HC2.out⟩) | (exact ⟨cell_on hb3 hbt HC1.out, cell_on hb3 hbt HC2.out⟩) | go_keep) (first | (go_at_call 104; refine (HC.out _ HTq.out).mono ?_; rintro e w3 ⟨rfl, hb3⟩))
          have B3 : Hid (Below w.heap.size w w3) := BQ.out.drew.trans (hb3.mono (by have := BQ.out.size; simpa using this))
          have S3 : Hid (SixAt w3 w.heap.size (fun _ => 0)) := SQ.out.of_block (hb3.block _ SQ.out.lt)
          have T3 : Hid (SixAt w3 bt (downTo F m)) := TQ.out.of_block (hb3.block _ hbt)
          clear hb3 HC HTq HC1 HC2 i1 i2 i3 i4 i5 i6 j1 j2 SQ TQ BQ hbt
          have cm := T3.out.cell m (by omega)
          have cf := T3.out.fz m
          have hbt := T3.out.lt
          obtain ⟨z, HZ⟩ : ∃ z, Hid (downTo F m m = z) := ⟨_, rfl⟩
          rw [HZ.out] at cm
          have HE : Hid (SixAt (w3.setCell ⟨bt, m, none⟩ (.int .i64 (N : Nat))) bt (downTo F i)) := by
            rw [← downTo_step F (i := i) (by have := HM.out; omega), ← HM.out, HX.out, HY.out, HNm.out]
            exact T3.out.set m (by omega) N
          go_wp2_with fail
          go_roundw
          case rel => exact ⟨i, by have := HM.out; omega, by have := HM.out; congr 1; omega, S3.out.other _ (by show w.heap.size ≠ bt; omega) _, HE, ⟨B3.out.os, B3.out.tape, B3.out.output, by rw [World.size_setCell]; exact B3.out.size, fun c hc => (Below.heap_setCell _ _ _ c (by show c ≠ bt; omega)).trans (B3.out.block c hc)⟩⟩
          case measure => have := HM.out; simp [intOf]; omega
end Go.Proofs.YtpcnfoaoajfhlaaGreatDoor

namespace Go.Proofs.YtpcnfoaoajfhlaaGreatDoor
set_option linter.unusedVariables false
set_option linter.unusedSimpArgs false
open Go.RowKit

/-- sixteen numbers in a new block -/
def box16 (w : World) (o : Nat → Nat) : World := w.alloc (.cells #[.int .i64 (o 0 : Nat), .int .i64 (o 1 : Nat), .int .i64 (o 2 : Nat), .int .i64 (o 3 : Nat), .int .i64 (o 4 : Nat), .int .i64 (o 5 : Nat), .int .i64 (o 6 : Nat), .int .i64 (o 7 : Nat), .int .i64 (o 8 : Nat), .int .i64 (o 9 : Nat), .int .i64 (o 10 : Nat), .int .i64 (o 11 : Nat), .int .i64 (o 12 : Nat), .int .i64 (o 13 : Nat), .int .i64 (o 14 : Nat), .int .i64 (o 15 : Nat)] 256)
theorem box16_six (w : World) (o : Nat → Nat) : SixAt (box16 w o) w.heap.size o := six_new w _ _ rfl o
theorem box16_below (w : World) (o : Nat → Nat) : Below w.heap.size w (box16 w o) := (Below.refl _ w).alloc (Nat.le_refl _) _
theorem box16_size (w : World) (o : Nat → Nat) : (box16 w o).heap.size = w.heap.size + 1 := by simp [box16]

/-- is there such a node? -/
def isNode (i : Int) : Bool := decide (1 ≤ i) && decide (i ≤ 15)
end Go.Proofs.YtpcnfoaoajfhlaaGreatDoor
