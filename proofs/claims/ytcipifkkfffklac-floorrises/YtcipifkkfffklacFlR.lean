/-
  merelaw1.FloorRises answers true, whatever the steps and the entry.
-/
import Derived.Test.YtcipifkkfffklacFlU
import Derived.Test.YtcipifkkfffklacFlF
import Derived.Test.YtcipifkkfffklacPl1
import Derived.Deep.DeepCutAuto
import Derived.Deep.CutBlock
import Derived.Deep.LoopGhost
import Derived.BigQuiet
import Derived.WalkSmall
namespace Go.Proofs.Ytcipifkkfffklac
set_option linter.unusedVariables false
set_option linter.unusedSimpArgs false
open Go.RowKit

theorem eV_ok : eV (flErr true) = .nilIface := rfl

set_option maxRecDepth 100000 in
set_option maxHeartbeats 8000000 in
theorem rises_walk (vs : Value) (ns : Nat) (k v a : Int) (g : Bool) (t : ByteArray) (w : World) (hs : IsSteps w vs ns) :
    Calls Try.prog 4 #[vs, .agg #[.int .i64 k, .int .i64 v, .int .i64 a, .bool g, .string t]] w fun e w' => e = .returned (.bool true) ∧ Below w.heap.size w w' := by
  obtain ⟨aS, cS, rfl, hns, hs1⟩ := hs
  have HS1 : Hid (∀ i, i < ns → ∃ b o u m, aS = some ⟨b, o, none⟩ ∧ w.cell? ⟨b, o + i, none⟩ = some u ∧ IsInts w u m) := hs1
  clear hs1
  unfold maxLen at hns
  obtain ⟨nb, HN⟩ : ∃ n, Hid (bad k v a g t = n) := ⟨_, rfl⟩
  have HE1 : Hid (EightAt ((w.alloc (.cells #[.int .i64 k, .int .i64 v, .int .i64 a, .bool g, .string t] 30)).alloc (.cells #[.int .i64 0, .int .i64 0, .int .i64 0, .int .i64 0, .int .i64 0, .int .i64 0, .int .i64 0, .int .i64 0] 52)) (w.heap.size + 1) (fun _ => 0)) := eight_new _ _ _ (by simp)
  have HX1 : Hid (BoxAt ((w.alloc (.cells #[.int .i64 k, .int .i64 v, .int .i64 a, .bool g, .string t] 30)).alloc (.cells #[.int .i64 0, .int .i64 0, .int .i64 0, .int .i64 0, .int .i64 0, .int .i64 0, .int .i64 0, .int .i64 0] 52)) w.heap.size k v a g t) := (box_new w k v a g t w.heap.size rfl).alloc _
  have HB1 : Hid (Below w.heap.size w ((w.alloc (.cells #[.int .i64 k, .int .i64 v, .int .i64 a, .bool g, .string t] 30)).alloc (.cells #[.int .i64 0, .int .i64 0, .int .i64 0, .int .i64 0, .int .i64 0, .int .i64 0, .int .i64 0, .int .i64 0] 52))) := by show Below _ _ _; go_grown
  go_enter Try.func4, Try.ntmps4
  go_wp2_with (first | (go_at_call 9; refine (flNew_c _).mono ?_; rintro e w' ⟨rfl, rfl⟩))
  refine (flRaise_c (w.heap.size + 1) 2 7 _ _ HE1.out).mono ?_
  rintro e w2 ⟨rfl, he, ho⟩
  rw [show flRose (fun _ => 0) 2 7 = true by decide, show eV (flErr (flK 2 && flS 7)) = .nilIface from rfl]
  have E2 : Hid (EightAt w2 (w.heap.size + 1) (fun j => if j = 2 then 7 else 0)) := he.to (fun j hj => by rw [flRaise, show (flK 2 && flS 7) = true by decide]; simp [upd, hi])
  have X2 : Hid (BoxAt w2 w.heap.size k v a g t) := ho.box HX1.out (by omega)
  have B2 : Hid (Below w.heap.size w w2) := HB1.out.trans (ho.below HB1.out.size (by omega))
  clear he ho
  go_wp2_with fail
  refine (flRaise_c (w.heap.size + 1) 2 5 _ _ E2.out).mono ?_
  rintro e w3 ⟨rfl, he, ho⟩
  rw [show flRose (fun j => if j = 2 then 7 else 0) 2 5 = false by decide, show eV (flErr (flK 2 && flS 5)) = .nilIface from rfl]
  have E3 : Hid (EightAt w3 (w.heap.size + 1) (fun j => if j = 2 then 7 else 0)) := he.to (fun j hj => by
    rw [flRaise, show (flK 2 && flS 5) = true by decide]
    by_cases h : j = 2
    · subst h; rfl
    · simp [upd, h])
  have X3 : Hid (BoxAt w3 w.heap.size k v a g t) := ho.box X2.out (by omega)
  have B3 : Hid (Below w.heap.size w w3) := B2.out.trans (ho.below B2.out.size (by omega))
  clear he ho
  go_wp2_with fail
  refine (flOf_c (w.heap.size + 1) 2 _ _ E3.out).mono ?_
  rintro e w4 ⟨rfl, hb⟩
  rw [show flOf (fun j => if j = 2 then 7 else 0) 2 = 7 by decide, show eV (flErr (flK 2)) = .nilIface from rfl]
  have X4 : Hid (BoxAt w4 w.heap.size k v a g t) := X3.out.below hb X3.out.lt
  have B4 : Hid (Below w.heap.size w w4) := B3.out.trans (hb.mono B3.out.size)
  clear hb
  go_wp2_with (first | (go_at_call 9; refine (flNew_c _).mono ?_; rintro e w' ⟨rfl, rfl⟩))
  clear HE1 HX1 HB1 E2 X2 B2 E3 X3 B3
  have E5 : Hid (EightAt ((w4.alloc (.cells #[.int .i64 0, .int .i64 0, .int .i64 0, .int .i64 0, .int .i64 0, .int .i64 0, .int .i64 0, .int .i64 0] 52)).alloc (.cells #[.int .i64 0, .int .i64 0, .int .i64 0, .int .i64 0, .int .i64 0, .int .i64 0, .int .i64 0, .int .i64 0] 41)) w4.heap.size (fun _ => 0)) := (eight_new w4 _ _ rfl).alloc _
  have W5 : Hid (EightAt ((w4.alloc (.cells #[.int .i64 0, .int .i64 0, .int .i64 0, .int .i64 0, .int .i64 0, .int .i64 0, .int .i64 0, .int .i64 0] 52)).alloc (.cells #[.int .i64 0, .int .i64 0, .int .i64 0, .int .i64 0, .int .i64 0, .int .i64 0, .int .i64 0, .int .i64 0] 41)) (w4.heap.size + 1) (fun _ => 0)) := eight_new _ _ _ (by simp)
  have X5 : Hid (BoxAt ((w4.alloc (.cells #[.int .i64 0, .int .i64 0, .int .i64 0, .int .i64 0, .int .i64 0, .int .i64 0, .int .i64 0, .int .i64 0] 52)).alloc (.cells #[.int .i64 0, .int .i64 0, .int .i64 0, .int .i64 0, .int .i64 0, .int .i64 0, .int .i64 0, .int .i64 0] 41)) w.heap.size k v a g t) := (X4.out.alloc _).alloc _
  have B5 : Hid (Below w.heap.size w ((w4.alloc (.cells #[.int .i64 0, .int .i64 0, .int .i64 0, .int .i64 0, .int .i64 0, .int .i64 0, .int .i64 0, .int .i64 0] 52)).alloc (.cells #[.int .i64 0, .int .i64 0, .int .i64 0, .int .i64 0, .int .i64 0, .int .i64 0, .int .i64 0, .int .i64 0] 41))) := (B4.out.alloc B4.out.size _).alloc (by have := B4.out.size; simp; omega) _
  have hXF : w.heap.size < w4.heap.size := X4.out.lt
  clear X4 B4
  obtain ⟨w5, HW5⟩ : ∃ w5, w5 = (w4.alloc (.cells #[.int .i64 0, .int .i64 0, .int .i64 0, .int .i64 0, .int .i64 0, .int .i64 0, .int .i64 0, .int .i64 0] 52)).alloc (.cells #[.int .i64 0, .int .i64 0, .int .i64 0, .int .i64 0, .int .i64 0, .int .i64 0, .int .i64 0, .int .i64 0] 41) := ⟨_, rfl⟩
  rw [← HW5] at E5 W5 X5 B5 ⊢
  clear HW5
  obtain ⟨F, HF⟩ : ∃ F, w4.heap.size = F := ⟨_, rfl⟩
  rw [HF] at E5 W5 hXF ⊢
  clear HF
  go_loopg [13, 15] 60 (fun gk m i wr => ∃ (n : Nat) (mb : Bool) (o : Nat → Int), gk + n = 60 ∧ n ≤ ns ∧ i = .int .i64 n ∧ m = .bool mb ∧ Hid (nb = 0 → mb = decide (o k.toNat ≤ a)) ∧ Hid (EightAt wr F o) ∧ Hid (EightAt wr (F + 1) o) ∧ Hid (BoxAt wr w.heap.size k v a g t) ∧ Hid (Below w.heap.size w wr))
  case atStart => exact ⟨0, true, fun _ => 0, by omega, by omega, rfl, rfl, fun h => by rw [h] at HN; have := (bad_right HN.out).2.1; simpa using this, E5, W5, X5, B5⟩
  case round =>
    obtain ⟨n, mb, o, hgk, hnn, rfl, rfl, HM, HE, HW, HX, HB⟩ := hrel
    clear E5 W5 X5 B5
    by_cases hlt1 : n < ns ∧ n < 60
    · obtain ⟨hn1, hn2⟩ := hlt1
      have hd1 : decide ((n : Int) < (ns : Int)) = true := by simp; omega
      have hd2 : decide ((n : Int) < 60) = true := by simp; omega
      obtain ⟨bS, oS, u, m, rfl, cu, HI⟩ := HS1.out n hn1
      have cu' := old_cell HB.out cu
      have lS := World.block_lt_of_cell? wr _ cu'
      have HI' := HI.below HB.out
      obtain ⟨aI, cI, rfl, hm, hz⟩ := HI'
      have HZ : Hid (∀ j, j < m → ∃ b o z, aI = some ⟨b, o, none⟩ ∧ wr.cell? ⟨b, o + j, none⟩ = some (.int .i64 z)) := hz
      unfold maxLen at hm
      clear HI cu hz
      go_upto_block 2 with fail
      go_cut [17] (fun _ wc => ∃ z0 z1 z2 : Int, wc = wr.alloc (.cells #[.int .i64 z0, .int .i64 z1, .int .i64 z2] 42))
      case first =>
        as_aux_lemma =>
          go_wp2_with fail
          go_loopg [17] 3 (fun gq j wi => ∃ q : Nat, gq + q = 3 ∧ j = .int .i64 q ∧ ∃ z0 z1 z2 : Int, wi = wr.alloc (.cells #[.int .i64 z0, .int .i64 z1, .int .i64 z2] 42))
          case atStart => exact ⟨0, by omega, rfl, 0, 0, 0, rfl⟩
          case round =>
            obtain ⟨q, hq, rfl, z0, z1, z2, rfl⟩ := hrel
            by_cases hqm : q < m ∧ q < 3
            · obtain ⟨hq1, hq2⟩ := hqm
              have hq3 : (q : Int) < (m : Int) := by omega
              have hq4 : decide ((q : Int) < (m : Int)) = true := by simp; omega
              obtain ⟨bI, oI, z, rfl, cz⟩ := HZ.out q hq1
              have lI := World.block_lt_of_cell? wr _ cz
              have h4 : q = 0 ∨ q = 1 ∨ q = 2 := by omega
              rcases h4 with rfl | rfl | rfl
              · simp only [Nat.add_zero] at cz
                go_wp2
                go_roundg (2 : Nat)
                case measure => omega
                case rel => exact ⟨1, by omega, rfl, _, _, _, rfl⟩
              · go_wp2
                go_roundg (1 : Nat)
                case measure => omega
                case rel => exact ⟨2, by omega, rfl, _, _, _, rfl⟩
              · go_wp2
                go_roundg (0 : Nat)
                case measure => omega
                case rel => exact ⟨3, by omega, rfl, _, _, _, rfl⟩
            · by_cases h : q < m
              · have hq5 : decide ((q : Int) < (m : Int)) = true := by simp; omega
                have hq6 : decide ((q : Int) < 3) = false := by simp; omega
                go_wp2_with fail
                go_meet
                case rel => exact ⟨z0, z1, z2, rfl⟩
              · have hq5 : decide ((q : Int) < (m : Int)) = false := by simp; omega
                go_wp2_with fail
                go_meet
                case rel => exact ⟨z0, z1, z2, rfl⟩
      case rest =>
        obtain ⟨z0, z1, z2, hwc⟩ := hcut
        obtain ⟨wA, hren⟩ : ∃ x, x = wc := ⟨_, rfl⟩
        subst hren
        have EA : Hid (EightAt wA F o) := by unfold Hid; rw [hwc]; exact HE.out.alloc _
        have WA : Hid (EightAt wA (F + 1) o) := by unfold Hid; rw [hwc]; exact HW.out.alloc _
        have XA : Hid (BoxAt wA w.heap.size k v a g t) := by unfold Hid; rw [hwc]; exact HX.out.alloc _
        have BA : Hid (Below w.heap.size w wA) := by unfold Hid; rw [hwc]; exact HB.out.alloc HB.out.size _
        obtain ⟨A, HA⟩ : ∃ A, Hid (A = wr.heap.size) := ⟨_, rfl⟩
        have a0 : wA.cell? ⟨A, 0, none⟩ = some (.int .i64 z0) := by rw [hwc, HA.out]; simp
        have a1 : wA.cell? ⟨A, 1, none⟩ = some (.int .i64 z1) := by rw [hwc, HA.out]; simp
        have a2 : wA.cell? ⟨A, 2, none⟩ = some (.int .i64 z2) := by rw [hwc, HA.out]; simp
        clear hwc HZ cu' lS hm
        rw [← HA.out]
        clear HA HE HW HX HB
        go_upto_if 95 with fail
        go_cut [95] (fun _ wc => ∃ p : Nat → Int, Hid (∀ j, o j ≤ p j) ∧ Hid (EightAt wc F p) ∧ Hid (Only F wA wc))
        case first =>
          as_aux_lemma =>
            by_cases e0 : z0 = 0
            · have e0b : (z0 == 0) = true := by simp [e0]
              clear e0
              go_wp2_with fail
              refine (flAll_c F z2 o _ EA.out).mono ?_
              rintro e w6 ⟨rfl, he, ho⟩
              go_wp2_with fail
              go_meet
              case rel => exact ⟨_, flAll_le o z2, he, ho⟩
            · have e0b : (z0 == 0) = false := by simp [e0]
              clear e0
              go_wp2_with fail
              refine (flRaise_c F z1 z2 o _ EA.out).mono ?_
              rintro e w6 ⟨rfl, he, ho⟩
              go_wp2_with fail
              go_meet
              case rel => exact ⟨_, flRaise_le o z1 z2, he, ho⟩
        case rest =>
          obtain ⟨p, HP, E6, ho⟩ := hcut
          obtain ⟨w6, hren⟩ : ∃ x, x = wc := ⟨_, rfl⟩
          subst hren
          have W6 : Hid (EightAt w6 (F + 1) o) := ho.out.eight WA.out (by omega)
          have X6 : Hid (BoxAt w6 w.heap.size k v a g t) := ho.out.box XA.out (by omega)
          have B6 : Hid (Below w.heap.size w w6) := BA.out.trans (ho.out.below BA.out.size (by omega))
          clear ho EA WA XA BA a0 a1 a2
          go_upto_block 4 with fail
          go_cut [18] (fun _ wc => Hid (EightAt wc F p) ∧ Hid (EightAt wc (F + 1) p) ∧ Hid (BoxAt wc w.heap.size k v a g t) ∧ Hid (Below w.heap.size w wc))
          case first =>
            as_aux_lemma =>
              go_wp2_with fail
              go_loopg [18] 8 (fun gq i wi => ∃ q : Nat, gq + q = 8 ∧ i = .int .i64 q ∧ Hid (EightAt wi F p) ∧ Hid (EightAt wi (F + 1) (mix p o q)) ∧ Hid (BoxAt wi w.heap.size k v a g t) ∧ Hid (Below w.heap.size w wi))
              case atStart => exact ⟨0, by omega, rfl, E6, by rw [mix_zero]; exact W6, X6, B6⟩
              case round =>
                obtain ⟨q, hq, rfl, HEq, HWq, HXq, HBq⟩ := hrel
                clear E6 W6 X6 B6
                by_cases hq8 : q < 8
                · have hl : (q : Int) < 8 := by omega
                  have h1 : (0 : Int) ≤ (q : Int) := by omega
                  go_wp2_with fail
                  refine (flOf_ok F q hq8 p _ HEq.out).mono ?_
                  rintro e w7 ⟨rfl, hb⟩
                  have E7 : Hid (EightAt w7 F p) := HEq.out.grown hb
                  have W7 : Hid (EightAt w7 (F + 1) (mix p o q)) := HWq.out.grown hb
                  have X7 : Hid (BoxAt w7 w.heap.size k v a g t) := HXq.out.below hb HXq.out.lt
                  have B7 : Hid (Below w.heap.size w w7) := HBq.out.trans (hb.mono HBq.out.size)
                  clear hb HEq HWq HXq HBq
                  have hc := W7.out.cell q hq8
                  rw [mix_at] at hc
                  have hf := W7.out.fz q
                  have hlt := W7.out.lt
                  have hle := HP.out q
                  have HS : Hid (∀ z, z = p q → EightAt (w7.setCell ⟨F + 1, q, none⟩ (.int .i64 z)) (F + 1) (mix p o (q + 1))) := fun z hz => by rw [← mix_step, ← hz]; exact W7.out.set q hq8 z
                  obtain ⟨x, HXx⟩ : ∃ x, Hid (x = p q) := ⟨_, rfl⟩
                  obtain ⟨y, HYy⟩ : ∃ y, Hid (y = o q) := ⟨_, rfl⟩
                  rw [← HXx.out] at hle ⊢
                  rw [← HYy.out] at hle hc
                  have hle' : ¬ x < y := by omega
                  go_wp2_with fail
                  go_roundg (7 - q)
                  case measure => omega
                  case rel => exact ⟨q + 1, by omega, by go_num, E7.out.other ⟨F + 1, q, none⟩ (by simp) _, HS.out x HXx.out, X7.out.of_block (Below.heap_setCell _ _ _ _ (by simp; omega)), B7.out.setCell (by simp; omega) _⟩
                · have hl : ¬ (q : Int) < 8 := by omega
                  go_wp2_with fail
                  go_meet
                  case rel => exact ⟨HEq, mix_all HWq.out (by omega), HXq, HBq⟩
          case rest =>
            obtain ⟨E8, W8, X8, B8⟩ := hcut
            obtain ⟨w8, hren⟩ : ∃ x, x = wc := ⟨_, rfl⟩
            subst hren
            clear W6 X6 B6 E6
            obtain ⟨c0, c1, c2, c3, c4, cf⟩ := X8.out
            by_cases hn0 : nb = 0
            · have HN0 : Hid (bad k v a g t = 0) := HN.out.trans hn0
              obtain ⟨⟨kn, rfl, hk⟩, ha, ha2⟩ := bad_right HN0.out
              have HM0 : Hid (mb = decide (o kn ≤ a)) := HM.out hn0
              have HP0 : Hid (o kn ≤ p kn) := HP.out kn
              clear HM HP hn0
              go_wp2_with fail
              refine (flMay_ok F kn hk HN0.out p _ E8.out).mono ?_
              rintro e w9 ⟨rfl, hb⟩
              have E9 : Hid (EightAt w9 F p) := E8.out.grown hb
              have W9 : Hid (EightAt w9 (F + 1) p) := W8.out.grown hb
              have X9 : Hid (BoxAt w9 w.heap.size kn v a g t) := X8.out.below hb X8.out.lt
              have B9 : Hid (Below w.heap.size w w9) := B8.out.trans (hb.mono B8.out.size)
              clear hb c0 c1 c2 c3 c4 cf E8 W8 X8 B8
              have hc := W9.out.cell kn hk
              have hlt := W9.out.lt
              have h1 : (0 : Int) ≤ (kn : Int) := by omega
              have h2 : (kn : Int) < 8 := by omega
              obtain ⟨c0, c1, c2, c3, c4, cf⟩ := X9.out
              obtain ⟨x, HXx⟩ : ∃ x, Hid (p kn = x) := ⟨_, rfl⟩
              rw [HXx.out] at hc ⊢
              by_cases hx : x ≤ a
              · have hd : decide (x ≤ a) = true := by simpa using hx
                obtain rfl : mb = true := by
                  rw [HM0.out]
                  have := HP0.out
                  have := HXx.out
                  simp
                  omega
                have HR : Hid (nb = 0 → true = decide (p (kn : Int).toNat ≤ a)) := fun _ => by rw [Int.toNat_natCast, HXx.out, hd]
                rw [hd]
                go_wp2_with fail
                go_quiet (fail)
                go_wp2_with fail
                go_roundg (gk - 1)
                case measure => omega
                case rel => exact ⟨n + 1, true, p, by omega, by omega, by go_num, rfl, HR, E9.out.of_block rfl, W9.out.of_block rfl, X9.out.of_block rfl, ⟨B9.out.os, B9.out.tape, B9.out.output, B9.out.size, B9.out.block⟩⟩
              · have hd : decide (x ≤ a) = false := by simpa using hx
                have HR : Hid (nb = 0 → false = decide (p (kn : Int).toNat ≤ a)) := fun _ => by rw [Int.toNat_natCast, HXx.out, hd]
                rw [hd]
                go_wp2_with fail
                go_quiet (fail)
                go_wp2_with fail
                go_roundg (gk - 1)
                case measure => omega
                case rel => exact ⟨n + 1, false, p, by omega, by omega, by go_num, rfl, HR, E9.out.of_block rfl, W9.out.of_block rfl, X9.out.of_block rfl, ⟨B9.out.os, B9.out.tape, B9.out.output, B9.out.size, B9.out.block⟩⟩
            · go_wp2_with fail
              refine (flMay_bad F HN.out hn0 _).mono ?_
              rintro e w9 ⟨rfl, hb⟩
              have E9 : Hid (EightAt w9 F p) := E8.out.grown hb
              have W9 : Hid (EightAt w9 (F + 1) p) := W8.out.grown hb
              have X9 : Hid (BoxAt w9 w.heap.size k v a g t) := X8.out.below hb X8.out.lt
              have B9 : Hid (Below w.heap.size w w9) := B8.out.trans (hb.mono B8.out.size)
              clear hb c0 c1 c2 c3 c4 cf E8 W8 X8 B8
              go_wp2_with fail
              go_roundg (gk - 1)
              case measure => omega
              case rel => exact ⟨n + 1, mb, p, by omega, by omega, by go_num, rfl, fun h => absurd h hn0, E9, W9, X9, B9⟩
    · by_cases hn1 : n < ns
      · have hd1 : decide ((n : Int) < (ns : Int)) = true := by simp; omega
        have hd2 : decide ((n : Int) < 60) = false := by simp; omega
        go_wp2_with fail
        go_ret
        exact ⟨rfl, HB.out⟩
      · have hd1 : decide ((n : Int) < (ns : Int)) = false := by simp; omega
        go_wp2_with fail
        go_ret
        exact ⟨rfl, HB.out⟩
end Go.Proofs.Ytcipifkkfffklac
