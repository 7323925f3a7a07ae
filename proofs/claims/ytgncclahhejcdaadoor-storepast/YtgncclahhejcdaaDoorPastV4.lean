/-
  merelaw1.StorePast, the walk.
-/
import Derived.Test.YtgncclahhejcdaaDoorPastK
import Derived.Deep.RegionLaw
import Derived.BigRegion
import Derived.Deep.DeepCutAuto
import Derived.Deep.CutBlock
import Derived.Deep.RegionHeld3
import Derived.Deep.DrawnRows
import Derived.Deep.LoopGhost
import Derived.Deep.AppendLies
import Derived.BigQuiet
namespace Go.Proofs.YtgncclahhejcdaaDoor.storePast
set_option linter.unusedVariables false
set_option linter.unusedSimpArgs false
open Go.RowKit
attribute [local go_sem ↓] Go.wp_at_zero Go.wp_at_succ

theorem p1 : putO [] 3 ⟨#[120]⟩ = ⟨[⟨3, false, ⟨#[120]⟩⟩], 1, 0⟩ := rfl
theorem p2 : swapO [⟨3, false, ⟨#[120]⟩⟩] 3 1 ⟨#[121]⟩ = ⟨[⟨3, false, ⟨#[120]⟩⟩, ⟨3, false, ⟨#[121]⟩⟩], 2, 0⟩ := rfl
theorem p3 : swapO [⟨3, false, ⟨#[120]⟩⟩, ⟨3, false, ⟨#[121]⟩⟩] 3 1 ⟨#[122]⟩ = ⟨[⟨3, false, ⟨#[120]⟩⟩, ⟨3, false, ⟨#[121]⟩⟩], 0, 7⟩ := rfl
theorem p4 : atO [⟨3, false, ⟨#[120]⟩⟩, ⟨3, false, ⟨#[121]⟩⟩] 3 1 = (⟨3, 1, 1, false, ⟨#[120]⟩⟩, 0) := rfl

/-- the store's own call, its result written out -/
theorem put_as (b : Nat) (k m n : Int) (t : ByteArray) (l l' : List Deed) (F : Nat → Prop) (w : World) (ev : Value) (ht : t.size ≤ maxLen) (hd : putO l k t = ⟨l', m, n⟩) (hv : errV n = ev) (h : StoreIs w b l F) :
    Calls Tryd.prog 14 #[.pointer (some ⟨b, 0, none⟩), .int .i64 k, .string t] w fun e w' => e = .returned (.tuple #[.int .i64 m, ev]) ∧ ∃ F', StoreIs w' b l' F' ∧ (∀ c, F' c → F c ∨ w.heap.size ≤ c) ∧ Kept F w w' := by
  refine (put_c b k t l F w ht h).mono ?_
  rw [hd]
  rintro e w' ⟨rfl, F', h1, h2, h3⟩
  exact ⟨by rw [hv], F', h1, h2, h3⟩
theorem swap_as (b : Nat) (k v m n : Int) (t : ByteArray) (l l' : List Deed) (F : Nat → Prop) (w : World) (ev : Value) (ht : t.size ≤ maxLen) (hd : swapO l k v t = ⟨l', m, n⟩) (hv : errV n = ev) (h : StoreIs w b l F) :
    Calls Tryd.prog 11 #[.pointer (some ⟨b, 0, none⟩), .int .i64 k, .int .i64 v, .string t] w fun e w' => e = .returned (.tuple #[.int .i64 m, ev]) ∧ ∃ F', StoreIs w' b l' F' ∧ (∀ c, F' c → F c ∨ w.heap.size ≤ c) ∧ Kept F w w' := by
  refine (swap_c b k v t l F w ht h).mono ?_
  rw [hd]
  rintro e w' ⟨rfl, F', h1, h2, h3⟩
  exact ⟨by rw [hv], F', h1, h2, h3⟩
theorem at_as (b : Nat) (k s : Int) (l : List Deed) (F : Nat → Prop) (w : World) (e : Ent) (hd : atO l k s = (e, 0)) (h : StoreIs w b l F) :
    Calls Tryd.prog 19 #[.pointer (some ⟨b, 0, none⟩), .int .i64 k, .int .i64 s] w fun r w' => r = .returned (.tuple #[.agg #[.int .i64 e.key, .int .i64 e.ver, .int .i64 e.asof, .bool e.gone, .string e.text], .nilIface]) ∧ Below w.heap.size w w' := by
  refine (at_c b k s l F w h).mono ?_
  rw [hd]
  exact fun _ _ h => h
/-- new memory goes on -/
theorem grow {B : Nat} {F F' : Nat → Prop} {a w w' : World} (hb : Below B a w) (hB : B ≤ w.heap.size) (hF : ∀ c, F c → B ≤ c) (hf : ∀ c, F' c → F c ∨ w.heap.size ≤ c) (hk : Kept F w w') : Below B a w' ∧ (∀ c, F' c → B ≤ c) ∧ B ≤ w'.heap.size :=
  ⟨hb.trans (hk.below hB hF), fun c hc => (hf c hc).elim (hF c) (fun h => Nat.le_trans hB h), Nat.le_trans hB hk.size⟩

set_option maxRecDepth 100000 in
set_option maxHeartbeats 40000000 in
theorem walk (vs vt : Value) (ns nt : Nat) (w : World) (hg : HasErr w) (hs : IsSteps w vs ns) (ht : IsTexts w vt nt) :
    Calls Tryd.prog 5 #[vs, vt] w fun e w' => e = .returned (.bool true) ∧ Below w.heap.size w w' := by
  have HG : Hid (HasErr w) := hg
  obtain ⟨aS, cS, rfl, hns, hs1⟩ := hs
  obtain ⟨aT, cT, rfl, hnt, ht1⟩ := ht
  have HS1 : Hid (∀ i, i < ns → ∃ b o u m, aS = some ⟨b, o, none⟩ ∧ w.cell? ⟨b, o + i, none⟩ = some u ∧ IsInts w u m) := hs1
  have HT1 : Hid (∀ i, i < nt → ∃ b o s, aT = some ⟨b, o, none⟩ ∧ w.cell? ⟨b, o + i, none⟩ = some (.string s) ∧ s.size ≤ maxLen) := ht1
  clear hs1 ht1
  have hlt := hg.lt
  clear hg
  unfold maxLen at hns hnt
  obtain ⟨B, HBB⟩ : ∃ B, Hid (B = w.heap.size) := ⟨_, rfl⟩
  go_enter Tryd.func5, Tryd.ntmps5
  go_wp2_with (first | (go_at_call 7; refine (new_c _).mono ?_; rintro e w' ⟨rfl, rfl⟩))
  refine (put_as _ 3 1 0 ⟨#[120]⟩ [] _ _ _ .nilIface (by unfold maxLen; decide) p1 rfl (new_is w)).mono ?_
  rintro e w1 ⟨rfl, F1, S1, f1, k1⟩
  obtain ⟨b1, g1, z1⟩ := grow (B := w.heap.size) ((Below.refl _ _).alloc (Nat.le_refl _) _) (by simp) (fun c hc => by omega) f1 k1
  have T1 : Hid (StoreIs w1 w.heap.size _ F1 ∧ Below w.heap.size w w1 ∧ (∀ c, F1 c → w.heap.size ≤ c) ∧ w.heap.size ≤ w1.heap.size) := ⟨S1, b1, g1, z1⟩
  clear S1 f1 k1 b1 g1 z1
  go_wp2_with fail
  refine (swap_as _ 3 1 2 0 ⟨#[121]⟩ _ _ F1 _ .nilIface (by unfold maxLen; decide) p2 rfl T1.out.1).mono ?_
  rintro e w2 ⟨rfl, F2, S2, f2, k2⟩
  obtain ⟨b2, g2, z2⟩ := grow T1.out.2.1 T1.out.2.2.2 T1.out.2.2.1 f2 k2
  have T2 : Hid (StoreIs w2 w.heap.size _ F2 ∧ Below w.heap.size w w2 ∧ (∀ c, F2 c → w.heap.size ≤ c) ∧ w.heap.size ≤ w2.heap.size) := ⟨S2, b2, g2, z2⟩
  clear S2 f2 k2 b2 g2 z2 T1
  go_wp2_with fail
  refine (swap_as _ 3 1 0 7 ⟨#[122]⟩ _ _ F2 _ (.iface 67 (.int .i64 7)) (by unfold maxLen; decide) p3 rfl T2.out.1).mono ?_
  rintro e w3 ⟨rfl, F3, S3, f3, k3⟩
  obtain ⟨b3, g3, z3⟩ := grow T2.out.2.1 T2.out.2.2.2 T2.out.2.2.1 f3 k3
  have T3 : Hid (StoreIs w3 w.heap.size _ F3 ∧ Below w.heap.size w w3 ∧ (∀ c, F3 c → w.heap.size ≤ c) ∧ w.heap.size ≤ w3.heap.size) := ⟨S3, b3, g3, z3⟩
  clear S3 f3 k3 b3 g3 z3 T2
  go_wp2_with fail
  refine (at_as _ 3 1 _ F3 _ _ p4 T3.out.1).mono ?_
  rintro e w4 ⟨rfl, hb4⟩
  have T4 : Hid (Below w.heap.size w w4) := T3.out.2.1.trans (hb4.mono T3.out.2.2.2)
  have z4 : Hid (w.heap.size ≤ w4.heap.size) := T4.out.size
  clear hb4 T3
  go_wp2_with fail
  refine (error_err 7 7 _ (HG.out.below hlt (T4.out.alloc z4.out _))).mono ?_
  rintro e w5 ⟨rfl, hb5⟩
  have T5 : Hid (Below w.heap.size w w5) := (T4.out.alloc z4.out _).trans (hb5.mono (by simp; have := z4.out; omega))
  have q1 : w5.cell? ⟨w4.heap.size, 1, none⟩ = some (.int .i64 1) := (hb5.cell (p := ⟨w4.heap.size, 1, none⟩) (by simp)).trans (by simp)
  have q2 : w5.cell? ⟨w4.heap.size, 2, none⟩ = some (.int .i64 1) := (hb5.cell (p := ⟨w4.heap.size, 2, none⟩) (by simp)).trans (by simp)
  have q4 : w5.cell? ⟨w4.heap.size, 4, none⟩ = some (.string ⟨#[120]⟩) := (hb5.cell (p := ⟨w4.heap.size, 4, none⟩) (by simp)).trans (by simp)
  clear hb5
  go_upto_block 0 with (go_at_call 7; refine (new_c _).mono ?_; rintro e w' ⟨rfl, rfl⟩)
  clear q1 q2 q4
  go_cut [15, 16] (fun v15 _ wc => ∃ l F ents, Hid (Inv w.heap.size w wc w5.heap.size v15 l F ents 40))
  case first =>
    as_aux_lemma =>
      go_wp2_with fail
      go_loopg [15, 16] 40 (fun gk v15 i wr => ∃ n : Nat, gk + n = 40 ∧ n ≤ ns ∧ i = .int .i64 n ∧ ∃ l F ents, Hid (Inv w.heap.size w wr w5.heap.size v15 l F ents n))
      case atStart => exact ⟨0, by omega, by omega, rfl, [], _, [], inv_start w w5 T5.out⟩
      case round =>
        obtain ⟨n, hgk, hnn, rfl, l, F, ents, HI⟩ := hrel
        obtain ⟨v15, hren15⟩ : ∃ x, x = u15 := ⟨_, rfl⟩
        subst hren15
        by_cases hlt1 : n < ns ∧ n < 40
        · obtain ⟨hn1, hn2⟩ := hlt1
          have hd1 : decide ((n : Int) < (ns : Int)) = true := by simp; omega
          have hd2 : decide ((n : Int) < 40) = true := by simp; omega
          obtain ⟨bS, oS, u, m, rfl, cu, HN⟩ := HS1.out n hn1
          have cu' := old_cell HI.out.below cu
          have lS := World.block_lt_of_cell? wr _ cu'
          have HN' := HN.below HI.out.below
          obtain ⟨aI, cI, rfl, hm, hz⟩ := HN'
          have HZ : Hid (∀ j, j < m → ∃ b o z, aI = some ⟨b, o, none⟩ ∧ wr.cell? ⟨b, o + j, none⟩ = some (.int .i64 z)) := hz
          unfold maxLen at hm
          clear HN cu hz
          go_upto_block 2 with fail
          go_cut [18] (fun _ wc => ∃ z0 z1 : Int, wc = wr.alloc (.cells #[.int .i64 z0, .int .i64 z1] 54))
          case first =>
            as_aux_lemma =>
              go_wp2_with fail
              go_loopg [18] 2 (fun gq j wi => ∃ q : Nat, gq + q = 2 ∧ j = .int .i64 q ∧ ∃ z0 z1 : Int, wi = wr.alloc (.cells #[.int .i64 z0, .int .i64 z1] 54))
              case atStart => exact ⟨0, by omega, rfl, 0, 0, rfl⟩
              case round =>
                obtain ⟨q, hq, rfl, z0, z1, rfl⟩ := hrel
                by_cases hqm : q < m ∧ q < 2
                · obtain ⟨hq1, hq2⟩ := hqm
                  have hq3 : (q : Int) < (m : Int) := by omega
                  have hq4 : decide ((q : Int) < (m : Int)) = true := by simp; omega
                  obtain ⟨bI, oI, z, rfl, cz⟩ := HZ.out q hq1
                  have lI := World.block_lt_of_cell? wr _ cz
                  have h4 : q = 0 ∨ q = 1 := by omega
                  rcases h4 with rfl | rfl
                  · simp only [Nat.add_zero] at cz
                    go_wp2
                    go_roundg (1 : Nat)
                    case measure => omega
                    case rel => exact ⟨1, by omega, rfl, _, _, rfl⟩
                  · go_wp2
                    go_roundg (0 : Nat)
                    case measure => omega
                    case rel => exact ⟨2, by omega, rfl, _, _, rfl⟩
                · by_cases h : q < m
                  · have hq5 : decide ((q : Int) < (m : Int)) = true := by simp; omega
                    have hq6 : decide ((q : Int) < 2) = false := by simp; omega
                    go_wp2_with fail
                    go_meet
                    case rel => exact ⟨z0, z1, rfl⟩
                  · have hq5 : decide ((q : Int) < (m : Int)) = false := by simp; omega
                    go_wp2_with fail
                    go_meet
                    case rel => exact ⟨z0, z1, rfl⟩
          case rest =>
            as_aux_lemma =>
              obtain ⟨z0, z1, hwc⟩ := hcut
              obtain ⟨wA, hren⟩ : ∃ x, x = wc := ⟨_, rfl⟩
              subst hren
              have HIA : Hid (Inv w.heap.size w wA w5.heap.size v15 l F ents n) := by unfold Hid; rw [hwc]; exact HI.out.step ((Below.refl _ _).alloc (Nat.le_refl _) _)
              obtain ⟨A, HA⟩ : ∃ A, Hid (A = wr.heap.size) := ⟨_, rfl⟩
              have a0 : wA.cell? ⟨A, 0, none⟩ = some (.int .i64 z0) := by rw [hwc, HA.out]; simp
              have a1 : wA.cell? ⟨A, 1, none⟩ = some (.int .i64 z1) := by rw [hwc, HA.out]; simp
              have nFA : Hid (¬ F A) := fun h => by have := HI.out.store.2.2.2.2.1 A h; have := HA.out; omega
              have nVA : Hid (v15.ownBlock ≠ some A) := fun h => by have := (HI.out.past.2 A h).2.2; have := HA.out; omega
              clear hwc HZ cu' lS hm HI
              rw [← HA.out]
              clear HA
              go_upto_if 125 with fail
              go_cut [19] (fun tv wd => wd = wA ∧ ∃ tx : ByteArray, tv = .string tx ∧ Hid (tx.size ≤ maxLen))
              case first =>
                as_aux_lemma =>
                  by_cases hn3 : n < nt
                  · obtain ⟨bT, oT, s, rfl, ct, hts⟩ := HT1.out n hn3
                    have ct' := old_cell HIA.out.below ct
                    have hn4 : (n : Int) < (nt : Int) := by omega
                    go_wp2_with fail
                    go_meet
                    case rel => exact ⟨rfl, s, rfl, hts⟩
                  · have hn4 : ¬ (n : Int) < (nt : Int) := by omega
                    go_wp2_with fail
                    go_meet
                    case rel => exact ⟨rfl, _, rfl, by unfold Hid maxLen; decide⟩
              case rest =>
                as_aux_lemma =>
                  obtain ⟨hwd, tx, hslot, HTS⟩ := hcut
                  have hwd' := hwd.symm
                  subst hwd'
                  subst hslot
                  obtain ⟨cb, hcb⟩ : ∃ cb, (z0 == 0) = cb := ⟨_, rfl⟩
                  go_upto_if 132 with fail
                  go_cut [] (fun wd => ∃ l' F', Hid (Inv w.heap.size w wd w5.heap.size v15 l' F' ents n) ∧ wd.cell? ⟨A, 1, none⟩ = some (.int .i64 z1))
                  case first =>
                    as_aux_lemma =>
                      cases cb
                      · go_wp2_with fail
                        refine (put_c _ z1 tx l F _ HTS.out HIA.out.store).mono ?_
                        rintro e w7 hr7
                        obtain ⟨F', i7, k7⟩ := HIA.out.left hr7 (good_put l z1 tx HIA.out.good) (put_grows l z1 tx)
                        obtain ⟨rfl, _⟩ := hr7
                        have HI7 : Hid (Inv w.heap.size w w7 w5.heap.size v15 _ F' ents n) := i7
                        have HC7 : Hid (w7.cell? ⟨A, 1, none⟩ = some (.int .i64 z1)) := (k7.cell ⟨A, 1, none⟩ (World.block_lt_of_cell? _ _ a1) nFA.out).trans a1
                        clear i7 k7
                        go_wp2_with fail
                        go_meet
                        case rel => exact ⟨_, F', HI7, HC7.out⟩
                      · go_wp2_with fail
                        refine (delete_c _ z1 l F _ HIA.out.store).mono ?_
                        rintro e w7 hr7
                        obtain ⟨F', i7, k7⟩ := HIA.out.left hr7 (good_del l z1 HIA.out.good) (del_grows l z1)
                        obtain ⟨rfl, _⟩ := hr7
                        have HI7 : Hid (Inv w.heap.size w w7 w5.heap.size v15 _ F' ents n) := i7
                        have HC7 : Hid (w7.cell? ⟨A, 1, none⟩ = some (.int .i64 z1)) := (k7.cell ⟨A, 1, none⟩ (World.block_lt_of_cell? _ _ a1) nFA.out).trans a1
                        clear i7 k7
                        go_wp2_with fail
                        go_meet
                        case rel => exact ⟨_, F', HI7, HC7.out⟩
                  case rest =>
                    as_aux_lemma =>
                      obtain ⟨l2, F2, HI2, c1⟩ := hcut
                      obtain ⟨we, hren⟩ : ∃ x, x = wc := ⟨_, rfl⟩
                      subst hren
                      clear a0 a1 nFA nVA HIA hcb HTS
                      obtain ⟨x0, x1, x2, x3, x4, HXE⟩ : ∃ x0 x1 x2 x3 x4, Hid ((readO l2 z1).1 = ⟨x0, x1, x2, x3, x4⟩) := ⟨_, _, _, _, _, rfl⟩
                      have HXV : Hid ((readO l2 z1).1.val = .agg #[.int .i64 x0, .int .i64 x1, .int .i64 x2, .bool x3, .string x4]) := by unfold Hid; rw [HXE.out]; rfl
                      obtain ⟨kb, hkb⟩ : ∃ kb, isK z1 = kb := ⟨_, rfl⟩
                      have HKB : Hid (isK z1 = kb) := hkb
                      clear hkb
                      obtain ⟨ev, HEV⟩ : ∃ ev, Hid (errV (readO l2 z1).2 = ev) := ⟨_, rfl⟩
                      go_wp2_with fail
                      refine (read_c _ z1 l2 F2 _ HI2.out.store).mono ?_
                      rintro e w8 ⟨rfl, hb8⟩
                      rw [HXV.out, HEV.out]
                      have HI8 : Hid (Inv w.heap.size w w8 w5.heap.size v15 l2 F2 ents n) := HI2.out.step hb8
                      clear hb8 HI2 c1
                      have HEN : Hid ((readO l2 z1).1 = ⟨x0, x1, x2, x3, x4⟩) := HXE.out
                      cases kb
                      · have hev : ev = .iface 67 (.int .i64 1) := by rw [← HEV.out, readO_no HKB.out]; rfl
                        subst hev
                        go_wp2_with fail
                        go_roundg (gk - 1)
                        case measure => omega
                        case rel => exact ⟨n + 1, by omega, by omega, by go_num, l2, F2, ents, (HI8.out.step ((Below.refl _ _).alloc (Nat.le_refl _) _)).mono (Nat.le_succ _)⟩
                      · have hev : ev = .nilIface := by rw [← HEV.out, readO_yes HKB.out]; rfl
                        subst hev
                        have HOF : Hid (OfStore l2 ⟨x0, x1, x2, x3, x4⟩) := ⟨z1, l2.length, HKB.out, Nat.le_refl _, by rw [← HEN.out, readO_yes HKB.out]⟩
                        obtain ⟨i0, hi0, hz0, hz1, hz2⟩ := info_parts infoEnt
                        have hel : ents.length ≤ n := HI8.out.len
                        have NB : Hid (((w8.alloc (.cells #[.int .i64 x0, .int .i64 x1, .int .i64 x2, .bool x3, .string x4] 25)).alloc (.cells #[.int .i64 x0, .int .i64 x1, .int .i64 x2, .bool x3, .string x4] 25)).heap[w8.heap.size + 1]? = some (.cells #[.int .i64 x0, .int .i64 x1, .int .i64 x2, .bool x3, .string x4] 25 (0, 0))) := by
                          have := heap_alloc_new (w8.alloc (.cells #[.int .i64 x0, .int .i64 x1, .int .i64 x2, .bool x3, .string x4] 25)) (.cells #[.int .i64 x0, .int .i64 x1, .int .i64 x2, .bool x3, .string x4] 25)
                          rw [World.size_alloc] at this
                          exact this
                        have HI9 : Hid (Inv w.heap.size w ((w8.alloc (.cells #[.int .i64 x0, .int .i64 x1, .int .i64 x2, .bool x3, .string x4] 25)).alloc (.cells #[.int .i64 x0, .int .i64 x1, .int .i64 x2, .bool x3, .string x4] 25)) w5.heap.size v15 l2 F2 ents n) := (HI8.out.step ((Below.refl _ _).alloc (Nat.le_refl _) _)).step ((Below.refl _ _).alloc (Nat.le_refl _) _)
                        clear HXV HXE HEN HEV HKB
                        go_wp2_with (at_builtin; refine wpList_append_lies _ (by rfl) _ _ _ (by rfl) 0 25 i0 _ 5 48 Tryd.underlying39 hi0 hz0 hz1 hz2 rfl (by omega) v15 ents.length (rowN ents) (by rfl) HI9.out.past.1 ⟨w8.heap.size + 1, 0, none⟩ 1 1 [.int .i64 x0, .int .i64 x1, .int .i64 x2, .bool x3, .string x4] (by rfl) (by rfl) (World.news_of_block (cs := #[.int .i64 x0, .int .i64 x1, .int .i64 x2, .bool x3, .string x4]) (t := 25) (fr := (0, 0)) NB.out) (by simp [Value.oneCell']) (by omega) (by unfold maxLen; omega) (by omega) (by simp) (w8.heap.size + 1 + 1) (by simp) ?_; intro g cap w9 hown1 hgrow hat hlt9)
                        go_roundg (gk - 1)
                        case measure => omega
                        case rel => exact ⟨n + 1, by omega, by omega, by go_num, l2, F2, _, HI9.out.push (e := ⟨x0, x1, x2, x3, x4⟩) HOF.out hown1 hgrow (by simpa using hat) hlt9⟩
        · by_cases hn1 : n < ns
          · have hd1 : decide ((n : Int) < (ns : Int)) = true := by simp; omega
            have hd2 : decide ((n : Int) < 40) = false := by simp; omega
            go_wp2_with fail
            go_meet
            case rel => exact ⟨l, F, ents, HI.out.mono (by omega)⟩
          · have hd1 : decide ((n : Int) < (ns : Int)) = false := by simp; omega
            go_wp2_with fail
            go_meet
            case rel => exact ⟨l, F, ents, HI.out.mono (by omega)⟩
  case rest =>
    obtain ⟨l, F, ents, HI⟩ := hcut
    obtain ⟨v15, hren15⟩ : ∃ x, x = u15 := ⟨_, rfl⟩
    subst hren15
    obtain ⟨wp, hren⟩ : ∃ x, x = wc := ⟨_, rfl⟩
    subst hren
    have HLL : Hid (l.length ≤ 1000) := HI.out.store.2.2.1
    go_wp2_with fail
    obtain ⟨a15, c15, hv15⟩ := HI.out.past.slice
    have hel : ents.length ≤ 40 := HI.out.len
    go_loopg [22] ents.length (fun gk i wr => ∃ n : Nat, gk + n = ents.length ∧ i = .int .i64 n ∧ Hid (Below wp.heap.size wp wr))
    case atStart => exact ⟨0, by omega, rfl, Below.refl _ _⟩
    case round =>
      obtain ⟨n, hgk, rfl, HBr⟩ := hrel
      by_cases hn : n < ents.length
      · have HIr : Hid (Inv w.heap.size w wr w5.heap.size v15 l F ents 40) := HI.out.step HBr.out
        obtain ⟨g, cap, hv, r0, r1, r2, r3, r4⟩ := HIr.out.past.row n hn
        obtain ⟨x0, x1, x2, x3, x4, hx⟩ : ∃ x0 x1 x2 x3 x4, ents[n] = ⟨x0, x1, x2, x3, x4⟩ := ⟨_, _, _, _, _, rfl⟩
        have HOF : Hid (OfStore l ⟨x0, x1, x2, x3, x4⟩) := hx ▸ HI.out.of ents[n] (List.getElem_mem hn)
        have HRT : Hid (Right ⟨x0, x1, x2, x3, x4⟩) := HOF.out.right HI.out.good HLL.out
        rw [hx] at r0 r1 r2 r3 r4
        simp only at r0 r1 r2 r3 r4
        subst hv
        clear hx hv15
        have lg := World.block_lt_of_cell? wr _ r0
        have hn0 : (0 : Int) ≤ (n : Int) := by omega
        have hn1 : (n : Int) < (ents.length : Int) := by omega
        have hver : 0 ≤ x1 ∧ x1 ≤ x2 ∧ x2 ≤ 1000 := ⟨HRT.out.2.1, HRT.out.2.2.1, HRT.out.2.2.2.1⟩
        obtain ⟨hver0, hver1, hver2⟩ := hver
        go_upto_region 30 with fail
        go_cut [23, 24] (fun v23 v24 wf => ∃ Y, v23 = .pointer (some ⟨Y, 0, none⟩) ∧ v24 = .nilIface ∧ Hid (EntAt wf Y (.agg #[.int .i64 x0, .int .i64 x1, .int .i64 x2, .bool x3, .string x4])) ∧ Hid (Below wr.heap.size wr wf))
        case first =>
          have HA0 : Hid (EntAt (wr.alloc (.cells #[.int .i64 0, .int .i64 0, .int .i64 0, .bool false, .string ⟨#[]⟩] 25)) wr.heap.size (.agg #[.int .i64 0, .int .i64 0, .int .i64 0, .bool false, .string ⟨#[]⟩])) := entAt_new wr 0 0 0 false ⟨#[]⟩
          have HSA : Hid (StoreIs (wr.alloc (.cells #[.int .i64 0, .int .i64 0, .int .i64 0, .bool false, .string ⟨#[]⟩] 25)) w5.heap.size l F) := HIr.out.store.below ((Below.refl _ _).alloc (Nat.le_refl _) _)
          go_region_with ((first | (go_at_call 19; refine (at_as _ x0 x2 l F wr.drew _ HOF.out.at HIr.out.store.drew).mono ?_; rintro e w7 ⟨rfl, hb7⟩; have HB7 : Hid (Below wr.heap.size wr w7) := below_undrew hb7; clear hb7) | (go_at_call 19; refine (at_as _ x0 x2 l F (wr.alloc (.cells #[.int .i64 0, .int .i64 0, .int .i64 0, .bool false, .string ⟨#[]⟩] 25)).drew _ HOF.out.at HSA.out.drew).mono ?_; rintro e w7 ⟨rfl, hb7⟩; have HB7a : Hid (Below (wr.alloc (.cells #[.int .i64 0, .int .i64 0, .int .i64 0, .bool false, .string ⟨#[]⟩] 25)).heap.size (wr.alloc (.cells #[.int .i64 0, .int .i64 0, .int .i64 0, .bool false, .string ⟨#[]⟩] 25)) w7) := below_undrew hb7; clear hb7; have HE7 : Hid (EntAt w7 wr.heap.size (.agg #[.int .i64 0, .int .i64 0, .int .i64 0, .bool false, .string ⟨#[]⟩])) := HA0.out.below HB7a.out (by simp); obtain ⟨e0, e1, e2, e3, e4⟩ := HE7.out.all; have ef := HE7.out.frozen)))
          all_goals go_wp2_with fail
          all_goals go_meet
          all_goals
            case rel => first | exact ⟨_, rfl, rfl, entAt_new w7 _ _ _ _ _, HB7.out.alloc HB7.out.size _⟩ | exact ⟨_, rfl, rfl, entAt_set HE7.out _ _ _ _ _, below_set5 (((Below.refl _ _).alloc (Nat.le_refl _) _).trans (HB7a.out.mono (by simp))) (Nat.le_refl _) _ _ _ _ _⟩
        case rest =>
          obtain ⟨Y, hv23, hv24, HEY, HBf⟩ := hcut
          subst hv23
          subst hv24
          obtain ⟨wf, hren⟩ : ∃ x, x = wc := ⟨_, rfl⟩
          subst hren
          obtain ⟨y0, y1, y2, y3, y4⟩ := HEY.out.all
          have s0 := old_cell HBf.out r0
          have s1 := old_cell HBf.out r1
          have s2 := old_cell HBf.out r2
          have s3 := old_cell HBf.out r3
          have s4 := old_cell HBf.out r4
          have HIf : Hid (Inv w.heap.size w wf w5.heap.size (.slice (some ⟨g, 0, none⟩) ents.length cap) l F ents 40) := HIr.out.step HBf.out
          have HBp : Hid (Below wp.heap.size wp wf) := HBr.out.trans (HBf.out.mono HBr.out.size)
          clear r0 r1 r2 r3 r4 lg HIr HBr HBf
          have lY := World.block_lt_of_cell? wf _ y0
          have lg := World.block_lt_of_cell? wf _ s0
          have qq := neq_self x0 x1 x2 x3 x4
          have hgt : decide (x2 < x1) = false := by simp; omega
          go_upto_region 31 with fail
          go_cut [197] (fun v197 wg => v197 = .bool false ∧ Hid (Below wf.heap.size wf wg))
          case first =>
            go_region_held3 (fun w' => w'.cell? ⟨Y, 0, none⟩ = some (.int .i64 x0) ∧ w'.cell? ⟨Y, 1, none⟩ = some (.int .i64 x1) ∧ w'.cell? ⟨Y, 2, none⟩ = some (.int .i64 x2) ∧ w'.cell? ⟨Y, 3, none⟩ = some (.bool x3) ∧ w'.cell? ⟨Y, 4, none⟩ = some (.string x4) ∧ w'.cell? ⟨g, n * 5, none⟩ = some (.int .i64 x0) ∧ w'.cell? ⟨g, n * 5 + 1, none⟩ = some (.int .i64 x1) ∧ w'.cell? ⟨g, n * 5 + 2, none⟩ = some (.int .i64 x2) ∧ w'.cell? ⟨g, n * 5 + 3, none⟩ = some (.bool x3) ∧ w'.cell? ⟨g, n * 5 + 4, none⟩ = some (.string x4)) (first | (exact ⟨old_cell hb8 y0, old_cell hb8 y1, old_cell hb8 y2, old_cell hb8 y3, old_cell hb8 y4, old_cell hb8 s0, old_cell hb8 s1, old_cell hb8 s2, old_cell hb8 s3, old_cell hb8 s4⟩) | go_keep) (first | (go_at_call 21; refine (check_ok x0 x1 x2 x3 x4 _ HRT.out).mono ?_; rintro e w8 ⟨rfl, hb8d⟩; have hb8 : Below wf.heap.size wf w8 := below_undrew hb8d; clear hb8d))
            all_goals go_wp2_with fail
            all_goals go_meet
            case rel => exact ⟨rfl, hb8⟩
          case rest =>
            obtain ⟨hv197, HBg⟩ := hcut
            subst hv197
            obtain ⟨wg, hren⟩ : ∃ x, x = wc := ⟨_, rfl⟩
            subst hren
            have HIg : Hid (Inv w.heap.size w wg w5.heap.size (.slice (some ⟨g, 0, none⟩) ents.length cap) l F ents 40) := HIf.out.step HBg.out
            have HBq : Hid (Below wp.heap.size wp wg) := HBp.out.trans (HBg.out.mono HBp.out.size)
            have t0 := old_cell HBg.out y0
            have t1 := old_cell HBg.out y1
            have t2 := old_cell HBg.out y2
            have t3 := old_cell HBg.out y3
            have t4 := old_cell HBg.out y4
            clear y0 y1 y2 y3 y4 s0 s1 s2 s3 s4 lY lg qq hgt HIf HBp HBg HEY
            go_upto_block 6 with fail
            go_cut [25] (fun _ wh => Hid (Below wg.heap.size wg wh))
            case first =>
              as_aux_lemma =>
                go_wp2_with fail
                go_loopg [25] 50 (fun gq q wi => ∃ t : Nat, gq + t = 50 ∧ q = .int .i64 (x1 + t) ∧ x1 + t ≤ x2 + 1 ∧ Hid (Below wg.heap.size wg wi))
                case atStart => exact ⟨0, by omega, by simp, by omega, Below.refl _ _⟩
                case round =>
                  obtain ⟨tt, htt, rfl, hq, HBi⟩ := hrel
                  have e0 := old_cell HBi.out t0
                  have e1 := old_cell HBi.out t1
                  have e2 := old_cell HBi.out t2
                  have e3 := old_cell HBi.out t3
                  have e4 := old_cell HBi.out t4
                  have hY := World.block_lt_of_cell? wr _ e0
                  by_cases hc : x1 + tt ≤ x2 ∧ tt < 50
                  · obtain ⟨hc1, hc2⟩ := hc
                    have hd1 : decide (x1 + (tt : Int) ≤ x2) = true := by simpa using hc1
                    have hd2 : decide (x1 + (tt : Int) < x1 + 50) = true := by simp; omega
                    have HSI : Hid (StoreIs wr w5.heap.size l F) := (HIg.out.step HBi.out).store
                    have HAT : Hid (atO l x0 (x1 + (tt : Int)) = (⟨x0, x1, x1 + (tt : Int), x3, x4⟩, 0)) := HOF.out.between _ (by omega) hc1
                    clear t0 t1 t2 t3 t4
                    go_wp2_with fail
                    refine (at_as _ x0 (x1 + (tt : Int)) l F _ _ HAT.out HSI.out).mono ?_
                    rintro e w9 ⟨rfl, hb9⟩
                    have f1 := old_cell hb9 e1
                    have f2 := old_cell hb9 e2
                    have f3 := old_cell hb9 e3
                    have f4 := old_cell hb9 e4
                    have hY9 := World.block_lt_of_cell? w9 _ f1
                    have HB9 : Hid (Below wr.heap.size wr w9) := hb9
                    clear hb9 e0 e1 e2 e3 e4
                    go_wp2_with fail
                    go_roundg (gk - 1)
                    case measure => omega
                    case rel => exact ⟨tt + 1, by omega, by go_num, by omega, (HBi.out.trans (HB9.out.mono HBi.out.size)).alloc (Nat.le_trans HBi.out.size HB9.out.size) _⟩
                  · by_cases hc1 : x1 + tt ≤ x2
                    · have hd1 : decide (x1 + (tt : Int) ≤ x2) = true := by simpa using hc1
                      have hd2 : decide (x1 + (tt : Int) < x1 + 50) = false := by simp; omega
                      go_wp2_with fail
                      go_meet
                      case rel => exact HBi
                    · have hd1 : decide (x1 + (tt : Int) ≤ x2) = false := by simpa using hc1
                      go_wp2_with fail
                      go_meet
                      case rel => exact HBi
            case rest =>
              as_aux_lemma =>
                obtain ⟨wh, hren⟩ : ∃ x, x = wc := ⟨_, rfl⟩
                subst hren
                have HBh : Hid (Below wg.heap.size wg wh) := hcut
                have HIh : Hid (Inv w.heap.size w wh w5.heap.size (.slice (some ⟨g, 0, none⟩) ents.length cap) l F ents 40) := HIg.out.step HBh.out
                have p0 := old_cell HBh.out t0
                have p1 := old_cell HBh.out t1
                have HBs : Hid (Below wp.heap.size wp wh) := HBq.out.trans (HBh.out.mono HBq.out.size)
                clear t0 t1 t2 t3 t4 hcut HIg HBq HBh
                by_cases hp : 0 < x1
                · obtain ⟨b1, b3, b4, hat, hlt2⟩ := HOF.out.before hp
                  have HAT : Hid (atO l x0 (x1 - 1) = (⟨x0, b1, x1 - 1, b3, b4⟩, 0)) := hat
                  have hge : decide (x1 ≤ b1) = false := by simp; omega
                  clear hat
                  go_wp2_with fail
                  refine (at_as _ x0 (x1 - 1) l F _ _ HAT.out HIh.out.store).mono ?_
                  rintro e w9 ⟨rfl, hb9⟩
                  have f1 := old_cell hb9 p1
                  have hY9 := World.block_lt_of_cell? w9 _ f1
                  have HB9 : Hid (Below wh.heap.size wh w9) := hb9
                  clear hb9
                  go_wp2_with fail
                  go_roundg (gk - 1)
                  case measure => omega
                  case rel => exact ⟨n + 1, by omega, by go_num, (HBs.out.trans (HB9.out.mono HBs.out.size)).alloc (Nat.le_trans HBs.out.size HB9.out.size) _⟩
                · go_wp2_with fail
                  go_roundg (gk - 1)
                  case measure => omega
                  case rel => exact ⟨n + 1, by omega, by go_num, HBs.out⟩
      · have hn1 : ¬ (n : Int) < (ents.length : Int) := by omega
        subst hv15
        go_wp2_with fail
        go_ret
        exact ⟨rfl, (HI.out.step HBr.out).below⟩
end Go.Proofs.YtgncclahhejcdaaDoor.storePast
