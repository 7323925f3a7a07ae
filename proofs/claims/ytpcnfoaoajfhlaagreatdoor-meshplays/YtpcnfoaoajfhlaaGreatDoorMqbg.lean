/-
  The document's Some and Swap.
  Rows of numbers with their room; slices.Index and slices.Contains at numbers (beside the trees' rows of numbers).
-/
import Derived.Test.YtpcnfoaoajfhlaaGreatDoorMqay
import Derived.Test.YtpcnfoaoajfhlaaGreatDoorMqbf
import Derived.Test.YtpcnfoaoajfhlaaGreatDoorMqas
namespace Go.Proofs.YtpcnfoaoajfhlaaGreatDoor
set_option linter.unusedVariables false
set_option linter.unusedSimpArgs false
set_option linter.unusedVariables false
set_option linter.unusedSimpArgs false
open Go.RowKit

theorem inS_o (va : Value) (a : List Int) (x : Int) (c : Bool) (h : a.contains x = c) (w : World) (hra : IntsIs w va a) :
    Calls Tryz.prog 33 #[va, .int .i64 x] w fun e w' => e = .returned (.bool c) ∧ Below w.heap.size w w' := by
  subst h
  exact in_c va a x w hra
set_option maxHeartbeats 8000000 in
theorem rSome_c (v vk : Value) (l : List En) (K : List Int) (w : World) (hr : RowIs w v l) (hk : IntsIs w vk K) (hg : GoodL l) :
    Calls Tryz.prog 100 #[v, vk] w fun e w' => ∃ v', e = .returned v' ∧ RowIs w' v' (someE l K) ∧ Below w.heap.size w w' := by
  have HR : Hid (RowIs w v l) := hr
  have HK : Hid (IntsIs w vk K) := hk
  have HG : Hid (GoodL l) := hg
  have HS : Hid (someE l K = someE (l.take l.length) K) := by show _ = _; rw [List.take_length]
  rw [HS.out]
  clear hk hg HS
  obtain ⟨hlen, p, cap, rfl, hrow⟩ := hr
  have HRow : Hid (l ≠ [] → ∃ b o, p = some ⟨b, o, none⟩ ∧ b < w.heap.size ∧ ∀ j (h : j < l.length), EnAt w b (o + j * 5) l[j]) := hrow
  clear hrow
  obtain ⟨n, HN⟩ : ∃ n, Hid (l.length = n) := ⟨_, rfl⟩
  rw [HN.out] at hlen HR ⊢
  have hn63 : n ≤ 9223372036854775807 := hlen
  go_enter Tryz.func100, Tryz.ntmps100
  go_wp2_with fail
  go_loopw [5, 6] (fun s5 s6 wr => ∃ (j : Nat) (v5 : Value), s5 = v5 ∧ j ≤ n ∧ s6 = .int .i64 j ∧ Hid (wr.ownsRow w.heap.size 46 5 v5 (someE (l.take j) K).length (rowC (someE (l.take j) K))) ∧ Hid (Below w.heap.size w wr)) (fun _ i _ => n - (intOf i).toNat)
  case atStart => exact ⟨0, .slice none 0 0, rfl, Nat.zero_le _, rfl, World.ownsRow_nil _ _ _ _, Below.refl _ _⟩
  case round =>
    obtain ⟨j, v5, hs5, hj, rfl, HO, HB⟩ := hrel
    have hs5' := hs5.symm
    clear hs5
    subst hs5'
    by_cases hlt : j < n
    · have hjl : j < l.length := by rw [HN.out]; exact hlt
      obtain ⟨b, o, rfl, hbw, hat⟩ := HRow.out (fun h => by simp [h] at hjl)
      have HAt : Hid (EnAt wr b (o + j * 5) l[j]) := (hat j hjl).of_block (HB.out.block b hbw)
      clear hat
      have hlti : (j : Int) < (n : Int) := by omega
      have HY : Hid (K.contains l[j].k = true → someE (l.take (j + 1)) K = someE (l.take j) K ++ [l[j]]) := fun ha => someE_yes hjl ha
      have HNo : Hid (K.contains l[j].k = false → someE (l.take (j + 1)) K = someE (l.take j) K) := fun ha => someE_no hjl ha
      have HL8 : Hid ((someE (l.take j) K).length ≤ 100) := Nat.le_trans (someE_len _ _) (Nat.le_trans (List.length_take_le _ _) (Nat.le_trans hj (Nat.le_trans (by rw [← HN.out]; exact HG.out.len) (by omega))))
      obtain ⟨x, HX⟩ : ∃ x, Hid (l[j] = x) := ⟨l[j], show l[j] = l[j] from rfl⟩
      rw [HX.out] at HAt HY HNo
      obtain ⟨x0, x1, x2, x3, x4⟩ := x
      obtain ⟨c0, c1, c2, c3, c4⟩ := HAt.out
      dsimp only at c0 c1 c2 c3 c4
      obtain ⟨xs, HXs⟩ : ∃ xs, Hid (someE (l.take j) K = xs) := ⟨_, rfl⟩
      rw [HXs.out] at HO HY HNo HL8
      clear HXs HX
      have hbr : b < wr.heap.size := by have := HB.out.size; omega
      cases hc : K.contains x0
      · have HC0 : Hid (K.contains x0 = false) := hc
        have HE : Hid (someE (l.take (j + 1)) K = xs) := HNo.out hc
        clear hc HY HNo
        go_wp2_with fail
        refine (inS_o vk K x0 false HC0.out _ (HK.out.below HB.out)).mono ?_
        rintro e w4 ⟨rfl, hb⟩
        have B4 : Hid (Below w.heap.size w w4) := HB.out.trans (hb.mono HB.out.size)
        have O4 : Hid (w4.ownsRow w.heap.size 46 5 v5 xs.length (rowC xs)) := ownsRow_belowF HO.out hb
        clear hb c0 c1 c2 c3 c4
        go_wp2_with fail
        go_roundw
        case rel =>
          refine ⟨j + 1, v5, rfl, by omega, by go_num, ?_, B4⟩
          show World.ownsRow _ _ _ _ _ _ _
          rw [HE.out]
          exact O4.out
        case measure => simp [intOf]; omega
      · have HC0 : Hid (K.contains x0 = true) := hc
        have HE : Hid (someE (l.take (j + 1)) K = xs ++ [En.mk x0 x1 x2 x3 x4]) := HY.out hc
        clear hc HY HNo
        go_wp2_with fail
        refine (inS_o vk K x0 true HC0.out _ (HK.out.below HB.out)).mono ?_
        rintro e w4 ⟨rfl, hb⟩
        have B4 : Hid (Below w.heap.size w w4) := HB.out.trans (hb.mono HB.out.size)
        have O4 : Hid (w4.ownsRow w.heap.size 46 5 v5 xs.length (rowC xs)) := ownsRow_belowF HO.out hb
        have HAt4 : Hid (EnAt w4 b (o + j * 5) ⟨x0, x1, x2, x3, x4⟩) := HAt.out.of_block (hb.block b hbr)
        clear hb c0 c1 c2 c3 c4
        have hws4 := B4.out.size
        have hbr4 : b < w4.heap.size := by omega
        obtain ⟨c0, c1, c2, c3, c4⟩ := HAt4.out
        dsimp only at c0 c1 c2 c3 c4
        have HBa : Hid (Below w.heap.size w (w4.alloc (.cells #[.int .i64 x0, .int .i64 x1, .int .i64 x2, .bool x3, .string x4] 46))) := B4.out.alloc hws4 _
        have HOa : Hid ((w4.alloc (.cells #[.int .i64 x0, .int .i64 x1, .int .i64 x2, .bool x3, .string x4] 46)).ownsRow w.heap.size 46 5 v5 xs.length (rowC xs)) := O4.out.alloc _
        have HVa : Hid ((w4.alloc (.cells #[.int .i64 x0, .int .i64 x1, .int .i64 x2, .bool x3, .string x4] 46)).heap[w4.heap.size]? = some (.cells (En.cells (En.mk x0 x1 x2 x3 x4)).toArray 46 (0, 0))) := alloc_at _ _ _ rfl
        have HSa : Hid (w.heap.size ≤ (w4.alloc (.cells #[.int .i64 x0, .int .i64 x1, .int .i64 x2, .bool x3, .string x4] 46)).heap.size) := show _ ≤ _ from (by simp; omega)
        go_wp2_with (at_builtin; refine wp_app _ rfl _ _ rfl w.heap.size _ xs (En.mk x0 x1 x2 x3 x4) rfl HOa.out _ rfl HVa.out HL8.out HSa.out ?_)
        intro va wa hown hgrow
        have HOp : Hid (wa.ownsRow w.heap.size 46 5 va (xs ++ [En.mk x0 x1 x2 x3 x4]).length (rowC (xs ++ [En.mk x0 x1 x2 x3 x4]))) := hown
        have HBp : Hid (Below w.heap.size w wa) := below_grownF (HBa.out) (Nat.le_refl _) hgrow.out (fun c hc => ownsRow_fromF O4.out c hc)
        clear hown hgrow HOa HVa HL8 HSa HBa
        clear c0 c1 c2 c3 c4
        go_wp2_with fail
        go_roundw
        case rel =>
          refine ⟨j + 1, va, rfl, by omega, by go_num, ?_, HBp⟩
          show World.ownsRow _ _ _ _ _ _ _
          rw [HE.out]
          exact HOp.out
        case measure => simp [intOf]; omega
    · obtain rfl : j = n := by omega
      go_wp2_with fail
      go_ret
      exact ⟨v5, rfl, RowIs.own HO.out, HB.out⟩

set_option maxHeartbeats 2000000 in
/-- a swap that goes: each row is the old one or a new one -/
theorem rSwapF {a b x y : List En} (h : pairW a b = (x, y, 0)) (va vb : Value) (w : World) (hra : RowIs w va a) (hrb : RowIs w vb b) :
    Calls Tryz.prog 54 #[va, vb] w fun e w' => ∃ v1 v2, e = .returned (.tuple #[v1, v2, .int .i64 0]) ∧ (RowIs w' v1 x ∧ (v1 = va ∨ ∀ g, v1.ownBlock = some g → w.heap.size ≤ g)) ∧ (RowIs w' v2 y ∧ (v2 = vb ∨ ∀ g, v2.ownBlock = some g → w.heap.size ≤ g)) ∧ Below w.heap.size w w' := by
  obtain ⟨ha, hb, hx, hy⟩ := pairW_fine h
  have HC := rPart_c a b va vb ha hb w hra hrb 3 1 rfl (by omega) (by omega) w (Below.refl _ _)
  have HA : Hid (RowIs w va a) := hra
  have HB : Hid (RowIs w vb b) := hrb
  have HGa : Hid (GoodL a) := badL_good ha
  have HGb : Hid (GoodL b) := badL_good hb
  have e0 : partK (leafN a) (leafN b) 1 = lackK a b := rfl
  rw [e0] at HC
  clear e0 h
  generalize lackK a b = K at HC hx hy
  generalize partN (leafN a) (leafN b) 1 = N at HC
  have HCh : Hid _ := HC
  have HX' : Hid (allE a (someE b K) = (x, 0)) := hx
  have HY' : Hid (allE b (someE a K) = (y, 0)) := hy
  have HSa : Hid (GoodL (someE a K)) := someE_good HGa.out
  have HSb : Hid (GoodL (someE b K)) := someE_good HGb.out
  clear HC hra hrb ha hb hx hy
  go_enter Tryz.func54, Tryz.ntmps54
  go_wp2_with fail
  refine Calls.mono HCh.out ?_
  rintro e w1 ⟨vk, rfl, ho, hb⟩
  have B1 : Hid (Below w.heap.size w w1) := hb
  have K1 : Hid (IntsIs w1 vk K) := ho.ints
  clear hb ho HCh
  go_wp2_with fail
  refine (rSome_c vb vk b K _ (HB.out.below B1.out) K1.out HGb.out).mono ?_
  rintro e w2 ⟨v2, rfl, hr, hb⟩
  have B2 : Hid (Below w.heap.size w w2) := B1.out.trans (hb.mono B1.out.size)
  have K2 : Hid (IntsIs w2 vk K) := K1.out.below hb
  have R2 : Hid (RowIs w2 v2 (someE b K)) := hr
  clear hb hr B1 K1
  go_wp2_with fail
  refine (rAll_c va v2 a (someE b K) x 0 _ (HA.out.below B2.out) R2.out HGa.out HSb.out HX'.out).mono ?_
  rintro e w3 ⟨v3, rfl, hr, hb⟩
  have B3 : Hid (Below w.heap.size w w3) := B2.out.trans (hb.mono B2.out.size)
  have K3 : Hid (IntsIs w3 vk K) := K2.out.below hb
  have X3 : Hid (RowIs w3 v3 x ∧ (v3 = va ∨ ∀ g, v3.ownBlock = some g → w.heap.size ≤ g)) := ⟨hr.1, hr.2.imp id (fun h g hg => Nat.le_trans B2.out.size (h g hg))⟩
  clear hb hr B2 K2 R2
  go_wp2_with fail
  refine (rSome_c va vk a K _ (HA.out.below B3.out) K3.out HGa.out).mono ?_
  rintro e w4 ⟨v4, rfl, hr, hb⟩
  have B4 : Hid (Below w.heap.size w w4) := B3.out.trans (hb.mono B3.out.size)
  have X4 : Hid (RowIs w4 v3 x ∧ (v3 = va ∨ ∀ g, v3.ownBlock = some g → w.heap.size ≤ g)) := ⟨X3.out.1.below hb, X3.out.2⟩
  have R4 : Hid (RowIs w4 v4 (someE a K)) := hr
  clear hb hr B3 K3 X3
  go_wp2_with fail
  refine (rAll_c vb v4 b (someE a K) y 0 _ (HB.out.below B4.out) R4.out HGb.out HSa.out HY'.out).mono ?_
  rintro e w5 ⟨v5, rfl, hr, hb⟩
  have B5 : Hid (Below w.heap.size w w5) := B4.out.trans (hb.mono B4.out.size)
  have X5 : Hid (RowIs w5 v3 x ∧ (v3 = va ∨ ∀ g, v3.ownBlock = some g → w.heap.size ≤ g)) := ⟨X4.out.1.below hb, X4.out.2⟩
  have Y5 : Hid (RowIs w5 v5 y ∧ (v5 = vb ∨ ∀ g, v5.ownBlock = some g → w.heap.size ≤ g)) := ⟨hr.1, hr.2.imp id (fun h g hg => Nat.le_trans B4.out.size (h g hg))⟩
  clear hb hr B4 X4 R4
  go_wp2_with fail
  go_ret3
  exact ⟨v3, v5, rfl, X5.out, Y5.out, B5.out⟩
end Go.Proofs.YtpcnfoaoajfhlaaGreatDoor

namespace Go.Proofs.YtpcnfoaoajfhlaaGreatDoor
set_option linter.unusedVariables false
set_option linter.unusedSimpArgs false
open Go.RowKit

theorem eV_zero : eV 0 = .nilIface := by rw [eV, if_pos rfl]
theorem eV_err {n : Int} (h : n ≠ 0) : eV n = .iface 85 (.int .i64 n) := by rw [eV, if_neg h]
/-- a slice's room is not less than its length -/
def CapOk (v : Value) (n : Nat) : Prop := ∃ p c, v = .slice p n c ∧ n ≤ c ∧ c ≤ maxLen
theorem CapOk.nil : CapOk (.slice none 0 0) 0 := ⟨none, 0, rfl, Nat.le_refl _, by unfold maxLen; omega⟩
theorem OwnI.cap {B : Nat} {w : World} {v : Value} {l : List Int} (h : OwnI B w v l) : CapOk v l.length := by
  rcases h.2 with ⟨rfl, h0⟩ | ⟨g, cap, cur, rfl, _, _, hc1, hc2, _⟩
  · rw [h0]
    exact CapOk.nil
  · exact ⟨_, cap, rfl, hc1, hc2⟩

theorem hasD_hit {a : List Int} {x : Int} {j : Nat} (h : j < a.length) (hx : a[j] = x) : (a.drop j).contains x = true := by
  rw [List.drop_eq_getElem_cons h, List.contains_cons, hx]
  simp
theorem hasD_miss {a : List Int} {x : Int} {j : Nat} (h : j < a.length) (hx : ¬ a[j] = x) : (a.drop j).contains x = (a.drop (j + 1)).contains x := by
  rw [List.drop_eq_getElem_cons h, List.contains_cons]
  have : (x == a[j]) = false := by simp; exact fun h => hx h.symm
  rw [this, Bool.false_or]
set_option maxHeartbeats 4000000 in
theorem indexI_c (va : Value) (a : List Int) (x : Int) (w : World) (hra : IntsIs w va a) :
    Calls Tryz.prog 112 #[va, .int .i64 x] w fun e w' => ∃ k : Int, e = .returned (.int .i64 k) ∧ Hid (a.contains x = decide (0 ≤ k)) ∧ w' = w := by
  obtain ⟨hla, pa, capa, rfl, hrowa⟩ := hra
  have HRA : Hid (a ≠ [] → ∃ bb o, pa = some ⟨bb, o, none⟩ ∧ bb < w.heap.size ∧ ∀ j (h : j < a.length), w.cell? ⟨bb, o + j, none⟩ = some (.int .i64 a[j])) := hrowa
  clear hrowa
  obtain ⟨n, HN⟩ : ∃ n, Hid (a.length = n) := ⟨_, rfl⟩
  rw [HN.out] at hla ⊢
  have hn63 : n ≤ 9223372036854775807 := hla
  obtain ⟨R, HR⟩ : ∃ R, Hid (a.contains x = R) := ⟨_, rfl⟩
  rw [HR.out]
  go_enter Tryz.func112, Tryz.ntmps112
  go_wp2_with fail
  go_loopw [8] (fun i wr => ∃ j : Nat, j ≤ n ∧ i = .int .i64 j ∧ Hid (R = (a.drop j).contains x) ∧ wr = w) (fun i _ => n - (intOf i).toNat)
  case atStart => exact ⟨0, Nat.zero_le _, rfl, by rw [List.drop_zero]; exact HR.out.symm, rfl⟩
  case round =>
    obtain ⟨j, hj, rfl, HE, rfl⟩ := hrel
    by_cases hlt : j < n
    · have hja : j < a.length := by rw [HN.out]; exact hlt
      obtain ⟨ba, oa, rfl, hbwa, hata⟩ := HRA.out (fun h => by simp [h] at hja)
      have c0 := hata j hja
      clear hata
      have HHit : Hid (a[j] = x → R = true) := fun h => HE.out.trans (hasD_hit hja h)
      have HMiss : Hid (¬ a[j] = x → R = (a.drop (j + 1)).contains x) := fun h => HE.out.trans (hasD_miss hja h)
      obtain ⟨y, HY⟩ : ∃ y, Hid (a[j] = y) := ⟨a[j], show a[j] = a[j] from rfl⟩
      rw [HY.out] at c0 HHit HMiss
      have hlti : (j : Int) < (n : Int) := by omega
      by_cases hs : y = x
      · have HRt : Hid (R = true) := HHit.out hs
        have hxb : (x == y) = true := by simp [hs]
        clear hs
        go_wp2_with fail
        go_ret
        refine ⟨(j : Int), rfl, ?_, rfl⟩
        show R = _
        rw [HRt.out]
        simp
      · have HRt : Hid (R = (a.drop (j + 1)).contains x) := HMiss.out hs
        have hxb : (x == y) = false := by simp; exact fun h => hs h.symm
        clear hs
        go_wp2_with fail
        go_roundw
        case rel => exact ⟨j + 1, by omega, by go_num, HRt, trivial⟩
        case measure => simp [intOf]; omega
    · obtain rfl : j = n := by omega
      have HR0 : Hid (R = false) := by
        show R = false
        rw [HE.out, List.drop_eq_nil_of_le (by rw [HN.out]; exact Nat.le_refl _)]
        rfl
      go_wp2_with fail
      go_ret
      refine ⟨-1, rfl, ?_, rfl⟩
      show R = _
      rw [HR0.out]
      rfl
set_option maxHeartbeats 1000000 in
theorem containsI_c (va : Value) (a : List Int) (x : Int) (b : Bool) (w : World) (hra : IntsIs w va a) (hb : a.contains x = b) :
    Calls Tryz.prog 64 #[va, .int .i64 x] w fun e w' => e = .returned (.bool b) ∧ w' = w := by
  have HC : Hid _ := indexI_c va a x w hra
  have HB : Hid (a.contains x = b) := hb
  clear hra hb
  go_enter Tryz.func64, Tryz.ntmps64
  go_wp2_with fail
  refine Calls.mono HC.out ?_
  rintro e w1 ⟨k, rfl, HK, rfl⟩
  go_wp2_with fail
  go_ret
  refine ⟨?_, rfl⟩
  rw [← HB.out, HK.out]
  rfl

theorem IntsIs.take {w : World} {p : Option Addr} {l : List Int} {cap j cap' : Nat} {p' : Option Addr} (hr : IntsIs w (.slice p l.length cap) l) (hj : j ≤ l.length) (hp : l ≠ [] → p' = p) : IntsIs w (.slice p' j cap') (l.take j) := by
  obtain ⟨h0, q, c, e, h1⟩ := hr
  injection e with e1 e2 e3
  subst e1
  have hl : (l.take j).length = j := by simp; omega
  refine ⟨by rw [hl]; omega, p', cap', by rw [hl], fun hn => ?_⟩
  have hne : l ≠ [] := fun h => hn (by simp [h])
  rw [hp hne]
  obtain ⟨b, o, hb, hlt, hc⟩ := h1 hne
  exact ⟨b, o, hb, hlt, fun i hi => by
    have hi' : i < l.length := by rw [hl] at hi; omega
    rw [List.getElem_take]
    exact hc i hi'⟩
end Go.Proofs.YtpcnfoaoajfhlaaGreatDoor
