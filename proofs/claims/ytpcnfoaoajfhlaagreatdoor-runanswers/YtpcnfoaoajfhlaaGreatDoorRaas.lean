/-
  Package tree by its contracts: grow, of a cache that is right.
  Package tree by its contracts: Node.
  Package tree by its contracts: ask.
-/
import Derived.Test.YtpcnfoaoajfhlaaGreatDoorRaar
import Derived.Deep.RegionHeld3
import Derived.BigGuard
import Derived.BigCall
import Derived.Test.YtpcnfoaoajfhlaaGreatDoorRaaq
import Derived.BigRegion
import Derived.BigQuiet
namespace Go.Proofs.YtpcnfoaoajfhlaaGreatDoor
set_option linter.unusedVariables false
set_option linter.unusedSimpArgs false
set_option linter.unusedVariables false
set_option linter.unusedSimpArgs false
open Go.RowKit

theorem good_nats {k v a : Int} {g : Bool} {t : ByteArray} (h : bad k v a g t = 0) : ∃ K V : Nat, k = (K : Int) ∧ v = (V : Int) ∧ K ≤ 7 ∧ V ≤ 1000 ∧ t.size ≤ 12 := by
  unfold bad at h
  split at h
  · cases h
  · rename_i h1
    split at h
    · cases h
    · rename_i h2
      simp only [inR, Bool.and_eq_true, decide_eq_true_eq, Bool.not_eq_true', Bool.not_eq_false] at h1
      exact ⟨k.toNat, v.toNat, by omega, by omega, by omega, by omega, by omega⟩

set_option maxHeartbeats 8000000 in
theorem grow_ok (v : Value) (l : List En) (w : World) (hr : RowIs w v l) (h : badL l = 0) (hT : Lib.TabIs Tryz.prog w powName .u64 Lib.pow10Tab) :
    Calls Tryz.prog 181 #[v] w fun e w' => e = .returned (.tuple #[ag16 (downTo (leafN l) 0), .nilIface]) ∧ Below w.heap.size w w' := by
  have H : Hid (badL l = 0) := h
  have HG : Hid (GoodL l) := badL_good h
  have HR : Hid (RowIs w v l) := hr
  have HT : Hid (Lib.TabBelow Tryz.prog w.heap.size w powName .u64 Lib.pow10Tab) := Lib.tabBelow_of_tabIs hT
  have HF : Hid (∀ i k, downTo (leafN l) i k < 4294967296) := fun i k => downTo_lt _ (leafN_lt l) i k
  obtain ⟨F, HFd⟩ : ∃ F, Hid (leafN l = F) := ⟨_, rfl⟩
  have HA : Hid (endsOf l l.length = downTo F 7) := by
    rw [← HFd.out]
    exact endsOf_all l
  rw [HFd.out] at HF ⊢
  obtain ⟨hlen, p, cap, rfl, hrow⟩ := hr
  clear hrow h hT
  obtain ⟨n, HN⟩ : ∃ n, Hid (l.length = n) := ⟨_, rfl⟩
  rw [HN.out] at hlen HR HA ⊢
  have hn63 : n ≤ 9223372036854775807 := hlen
  have hb0 : Below w.heap.size w (w.alloc (.cells #[.int .i64 0, .int .i64 0, .int .i64 0, .int .i64 0, .int .i64 0, .int .i64 0, .int .i64 0, .int .i64 0, .int .i64 0, .int .i64 0, .int .i64 0, .int .i64 0, .int .i64 0, .int .i64 0, .int .i64 0, .int .i64 0] 256)) := by go_grown
  have HB0 := (show Hid (Below _ _ _) from hb0)
  clear hb0
  go_enter Tryz.func181, Tryz.ntmps181
  go_wp2_with fail
  refine (cacheCheck_ok (HR.out.below HB0.out) H.out).mono ?_
  rintro e w1 ⟨rfl, hb⟩
  have B1 : Hid (Below w.heap.size w w1) := HB0.out.trans (hb.mono (by simp))
  have S1 : Hid (SixAt w1 w.heap.size (fun _ => 0)) := (six_zero w w.heap.size rfl).grown hb
  clear hb HB0 H
  go_upto_region 5 with fail
  obtain ⟨w2, HW2⟩ : ∃ x, x = w1.alloc (.cells #[.int .i64 0, .int .i64 0, .int .i64 0, .int .i64 0, .int .i64 0, .int .i64 0, .int .i64 0, .int .i64 0, .int .i64 0, .int .i64 0, .int .i64 0, .int .i64 0, .int .i64 0, .int .i64 0, .int .i64 0, .int .i64 0] 256) := ⟨_, rfl⟩
  rw [← HW2]
  have B2 : Hid (Below w.heap.size w w2) := by
    rw [HW2]
    exact B1.out.alloc B1.out.size _
  have S2 : Hid (SixAt w2 w.heap.size (fun _ => 0)) := by
    rw [HW2]
    exact S1.out.alloc _
  obtain ⟨bt, HBt⟩ : ∃ b, Hid (w1.heap.size = b) := ⟨_, rfl⟩
  have hlt : w.heap.size < bt := by
    rw [← HBt.out]
    exact S1.out.lt
  have T2 : Hid (SixAt w2 bt (fun _ => 0)) := by
    rw [HW2]
    exact six_zero w1 bt HBt.out.symm
  rw [HBt.out]
  clear HW2 S1 B1 HBt
  go_wp2_with fail
  go_loopw [21] (fun i wr => ∃ j : Nat, j ≤ n ∧ i = .int .i64 j ∧ Hid (SixAt wr w.heap.size (fun _ => 0)) ∧ Hid (SixAt wr bt (endsOf l j)) ∧ Hid (Below w.heap.size w wr)) (fun i _ => n - (intOf i).toNat)
  case atStart => exact ⟨0, Nat.zero_le _, rfl, S2, by rw [endsOf_zero]; exact T2, B2⟩
  case round =>
    clear S2 T2 B2
    obtain ⟨j, hj, rfl, SR, TR, BR⟩ := hrel
    by_cases hlt1 : j < n
    · have hjl : j < l.length := by rw [HN.out]; exact hlt1
      obtain ⟨hl', q, cap', hq, hrow'⟩ := HR.out
      obtain ⟨b, o, hq2, hbw, hat⟩ := hrow' (fun h => by simp [h] at hjl)
      subst hq2
      obtain ⟨rfl, _, rfl⟩ : p = some ⟨b, o, none⟩ ∧ n = l.length ∧ cap = cap' := by simpa using hq
      rename_i hnl
      clear hnl
      obtain ⟨x, HX⟩ : ∃ x, Hid (l[j] = x) := ⟨l[j], show l[j] = l[j] from rfl⟩
      obtain ⟨c0, c1, c2, c3, c4⟩ := (hat j hjl).of_block (BR.out.block b hbw)
      rw [HX.out] at c0 c1 c2 c3 c4
      have hbad : x.bad = 0 := by
        rw [← HX.out]
        exact HG.out.all _ (List.getElem_mem _)
      have HK0 : Hid (l[j].k = x.k) := by
        show _ = _
        rw [HX.out]
      have HNm0 : Hid (numE l[j] = numE x) := by
        show _ = _
        rw [HX.out]
      clear hat hrow' hq HX
      obtain ⟨k, vv, a, g, t⟩ := x
      dsimp only at c0 c1 c2 c3 c4 HK0
      obtain ⟨K, V, rfl, rfl, hK, hV, ht⟩ := good_nats hbad
      have HBd : Hid (bad (K : Int) (V : Int) a g t = 0) := hbad
      obtain ⟨N, HNm⟩ : ∃ N, Hid (hashL (byN (strE K V g t)) = N) := ⟨_, rfl⟩
      have HNe : Hid (numE l[j] = N) := HNm0.out.trans HNm.out
      have HC : Hid (∀ w, Lib.TabIs Tryz.prog w powName .u64 Lib.pow10Tab → Calls Tryz.prog 197 #[.agg #[.int .i64 (K : Nat), .int .i64 (V : Nat), .int .i64 a, .bool g, .string t]] w fun e w' => e = .returned (.tuple #[.int .i64 (N : Nat), .nilIface]) ∧ Below w.heap.size w w') := by
        rw [← HNm.out]
        exact fun w hT => hentry_ok K V a g t HBd.out (by omega) hV ht w hT
      clear hbad HBd HNm HNm0
      have hlti : (j : Int) < (n : Int) := by omega
      have hws := BR.out.size
      have hbr : b < wr.heap.size := by omega
      have HXB : Hid (Below wr.heap.size wr (wr.alloc (.cells #[.int .i64 (K : Nat), .int .i64 (V : Nat), .int .i64 a, .bool g, .string t] 46))) := (Below.refl _ wr).alloc (Nat.le_refl _) _
      go_wp2_with fail
      refine (HC.out _ (HT.out _ (BR.out.trans (HXB.out.mono hws)))).mono ?_
      rintro e w3 ⟨rfl, hb⟩
      have B3 : Hid (Below w.heap.size w w3) := (BR.out.trans (HXB.out.mono hws)).trans (hb.mono (by have := HXB.out.size; omega))
      have S3 : Hid (SixAt w3 w.heap.size (fun _ => 0)) := (SR.out.grown HXB.out).grown hb
      have T3 : Hid (SixAt w3 bt (endsOf l j)) := (TR.out.grown HXB.out).grown hb
      obtain ⟨d0, d1, d2, d3, d4, df⟩ := (box_new wr K V a g t wr.heap.size rfl).below hb (by simp)
      clear hb c0 c1 c2 c3 c4 HXB HC SR TR BR
      obtain ⟨M, hM⟩ : ∃ M : Nat, (8 : Int) + (K : Int) = (M : Int) := ⟨8 + K, by omega⟩
      have hM1 : (0 : Int) ≤ (M : Int) := by omega
      have hM2 : (M : Int) < 16 := by omega
      have hM3 : M < 16 := by omega
      have cm := T3.out.cell M hM3
      have cf := T3.out.fz M
      have hbt := T3.out.lt
      obtain ⟨z, HZ⟩ : ∃ z, Hid (endsOf l j M = z) := ⟨_, rfl⟩
      rw [HZ.out] at cm
      go_wp2_with fail
      go_roundw
      case rel => exact ⟨j + 1, by omega, by go_num, S3.out.other _ (by show w.heap.size ≠ bt; omega) _, by rw [← endsOf_step HG.out.rise hjl HK0.out, HNe.out, show 8 + K = M by omega]; exact T3.out.set M hM3 N, ⟨B3.out.os, B3.out.tape, B3.out.output, by rw [World.size_setCell]; exact B3.out.size, fun c hc => (Below.heap_setCell _ _ _ c (by show c ≠ bt; omega)).trans (B3.out.block c hc)⟩⟩
      case measure => simp [intOf]; omega
    · obtain rfl : j = n := by omega
      rw [HA.out] at TR
      clear HA HR
      go_wp2_with fail
      go_loopw [10] (fun i wr => ∃ q : Nat, q ≤ 7 ∧ i = .int .i64 q ∧ Hid (SixAt wr w.heap.size (fun _ => 0)) ∧ Hid (SixAt wr bt (downTo F q)) ∧ Hid (Below w.heap.size w wr)) (fun i _ => (intOf i).toNat)
      case atStart => exact ⟨7, Nat.le_refl _, rfl, SR, TR, BR⟩
      case round =>
        clear SR TR BR
        obtain ⟨q, hq, rfl, SQ, TQ, BQ⟩ := hrel
        by_cases hq0 : q = 0
        · subst hq0
          obtain ⟨d0, d1, d2, d3, d4, d5, d6, d7, d8, d9, d10, d11, d12, d13, d14, d15⟩ := six_cells TQ.out
          obtain ⟨c0, c1, c2, c3, c4, c5, c6, c7, c8, c9, c10, c11, c12, c13, c14, c15⟩ := six_cells SQ.out
          have fz := SQ.out.fz
          have S2 : SixAt (set16 wr w.heap.size (downTo F 0)) w.heap.size (downTo F 0) := SQ.out.set16 (downTo F 0)
          have B2 : Hid (Below w.heap.size w (set16 wr w.heap.size (downTo F 0))) := set16_below BQ.out (Nat.le_refl _) _
          have HS2 := (show Hid (SixAt _ _ _) from S2)
          clear S2 SQ TQ BQ
          obtain ⟨G, HGd⟩ : ∃ G, Hid (downTo F 0 = G) := ⟨_, rfl⟩
          rw [HGd.out] at d0 d1 d2 d3 d4 d5 d6 d7 d8 d9 d10 d11 d12 d13 d14 d15 HS2 B2
          go_wp2_with fail
          show bodyPost _ _ _ _ _ (set16 wr w.heap.size G)
          generalize set16 wr w.heap.size G = w2 at HS2 B2 ⊢
          clear c0 c1 c2 c3 c4 c5 c6 c7 c8 c9 c10 c11 c12 c13 c14 c15 fz d0 d1 d2 d3 d4 d5 d6 d7 d8 d9 d10 d11 d12 d13 d14 d15
          obtain ⟨c0, c1, c2, c3, c4, c5, c6, c7, c8, c9, c10, c11, c12, c13, c14, c15⟩ := six_cells HS2.out
          refine bodyPost_ret (v := .tuple #[ag16 G, .nilIface]) (by simp [results, Tryz.results181, go_sem, c0, c1, c2, c3, c4, c5, c6, c7, c8, c9, c10, c11, c12, c13, c14, c15, ag16]) rfl ?_
          exact ⟨by rw [HGd.out], B2.out⟩
        · obtain ⟨i, rfl⟩ : ∃ i, q = i + 1 := ⟨q - 1, by omega⟩
          obtain ⟨m, hm⟩ : ∃ m, m = i + 1 := ⟨_, rfl⟩
          rw [← hm] at TQ hq0 ⊢
          have HM : Hid (m = i + 1) := hm
          obtain ⟨x, HX⟩ : ∃ x, Hid (downTo F m (2 * m) = x) := ⟨_, rfl⟩
          obtain ⟨y, HY⟩ : ∃ y, Hid (downTo F m (2 * m + 1) = y) := ⟨_, rfl⟩
          have hx : x ≤ 4294967295 := by have := HF.out m (2 * m); rw [HX.out] at this; omega
          have hy : y ≤ 4294967295 := by have := HF.out m (2 * m + 1); rw [HY.out] at this; omega
          obtain ⟨N, HNm⟩ : ∃ N, Hid (pairH x y = N) := ⟨_, rfl⟩
          have HC : Hid (∀ w, Lib.TabIs Tryz.prog w powName .u64 Lib.pow10Tab → Calls Tryz.prog 104 #[.int .i64 (x : Nat), .int .i64 (y : Nat)] w fun e w' => e = .returned (.tuple #[.int .i64 (N : Nat), .nilIface]) ∧ Below w.heap.size w w') := by
            rw [← HNm.out]
            exact fun w hT => two_ok x y w hx hy hT
          have c1 := TQ.out.cell (2 * m) (by omega)
          have c2 := TQ.out.cell (2 * m + 1) (by omega)
          rw [HX.out] at c1
          rw [HY.out] at c2
          have hbt := TQ.out.lt
          have hm1 : (1 : Int) ≤ (m : Int) := by omega
          have hm0 : (0 : Int) ≤ (m : Int) := by omega
          have hm16 : (m : Int) < 16 := by omega
          obtain ⟨P1, hP1⟩ : ∃ P : Nat, 2 * m = P := ⟨_, rfl⟩
          obtain ⟨P2, hP2⟩ : ∃ P : Nat, P1 + 1 = P := ⟨_, rfl⟩
          have i1 : (2 : Int) * (m : Int) = (P1 : Int) := by omega
          have i2 : (P1 : Int) + 1 = (P2 : Int) := by omega
          have j1 : IntKind.i64.wrap (P1 : Int) = (P1 : Int) := wrap_small _ (by omega) (by omega)
          have j2 : IntKind.i64.wrap (P2 : Int) = (P2 : Int) := wrap_small _ (by omega) (by omega)
          have i3 : (0 : Int) ≤ (P1 : Int) := by omega
          have i4 : (P1 : Int) < 16 := by omega
          have i5 : (0 : Int) ≤ (P2 : Int) := by omega
          have i6 : (P2 : Int) < 16 := by omega
          rw [hP1] at c1 c2
          rw [hP2] at c2
          have HC1 := (show Hid (wr.cell? ⟨bt, P1, none⟩ = _) from c1)
          have HC2 := (show Hid (wr.cell? ⟨bt, P2, none⟩ = _) from c2)
          clear hm hx hy hP1 hP2 c1 c2
          have HTq : Hid (Lib.TabIs Tryz.prog wr.drew powName .u64 Lib.pow10Tab) := HT.out _ BQ.out.drew
          go_upto_region 16 with fail
          go_region_held3 (fun w' => w'.cell? ⟨bt, P1, none⟩ = some (.int .i64 (x : Nat)) ∧ w'.cell? ⟨bt, P2, none⟩ = some (.int .i64 (y : Nat))) (first | (exact ⟨HC1.out, HC2.out⟩) | (exact ⟨cell_on hb3 hbt HC1.out, cell_on hb3 hbt HC2.out⟩) | go_keep) (first | (go_at_call 104; refine (HC.out _ HTq.out).mono ?_; rintro e w3 ⟨rfl, hb3⟩))
          have B3 : Hid (Below w.heap.size w w3) := BQ.out.drew.trans (hb3.mono (by have := BQ.out.size; simpa using this))
          have S3 : Hid (SixAt w3 w.heap.size (fun _ => 0)) := SQ.out.of_block (hb3.block _ SQ.out.lt)
          have T3 : Hid (SixAt w3 bt (downTo F m)) := TQ.out.of_block (hb3.block _ hbt)
          clear hb3 HC HTq HC1 HC2 i1 i2 i3 i4 i5 i6 j1 j2 SQ TQ BQ hbt
          have cm := T3.out.cell m (by omega)
          have cf := T3.out.fz m
          have hbt := T3.out.lt
          obtain ⟨z, HZ⟩ : ∃ z, Hid (downTo F m m = z) := ⟨_, rfl⟩
          rw [HZ.out] at cm
          have HE : Hid (SixAt (w3.setCell ⟨bt, m, none⟩ (.int .i64 (N : Nat))) bt (downTo F i)) := by
            rw [← downTo_step F (i := i) (by have := HM.out; omega), ← HM.out, HX.out, HY.out, HNm.out]
            exact T3.out.set m (by omega) N
          go_wp2_with fail
          go_roundw
          case rel => exact ⟨i, by have := HM.out; omega, by have := HM.out; congr 1; omega, S3.out.other _ (by show w.heap.size ≠ bt; omega) _, HE, ⟨B3.out.os, B3.out.tape, B3.out.output, by rw [World.size_setCell]; exact B3.out.size, fun c hc => (Below.heap_setCell _ _ _ c (by show c ≠ bt; omega)).trans (B3.out.block c hc)⟩⟩
          case measure => have := HM.out; simp [intOf]; omega
end Go.Proofs.YtpcnfoaoajfhlaaGreatDoor

namespace Go.Proofs.YtpcnfoaoajfhlaaGreatDoor
set_option linter.unusedVariables false
set_option linter.unusedSimpArgs false
open Go.RowKit

/-- sixteen numbers in a new block -/
def box16 (w : World) (o : Nat → Nat) : World := w.alloc (.cells #[.int .i64 (o 0 : Nat), .int .i64 (o 1 : Nat), .int .i64 (o 2 : Nat), .int .i64 (o 3 : Nat), .int .i64 (o 4 : Nat), .int .i64 (o 5 : Nat), .int .i64 (o 6 : Nat), .int .i64 (o 7 : Nat), .int .i64 (o 8 : Nat), .int .i64 (o 9 : Nat), .int .i64 (o 10 : Nat), .int .i64 (o 11 : Nat), .int .i64 (o 12 : Nat), .int .i64 (o 13 : Nat), .int .i64 (o 14 : Nat), .int .i64 (o 15 : Nat)] 256)
theorem box16_six (w : World) (o : Nat → Nat) : SixAt (box16 w o) w.heap.size o := six_new w _ _ rfl o
theorem box16_below (w : World) (o : Nat → Nat) : Below w.heap.size w (box16 w o) := (Below.refl _ w).alloc (Nat.le_refl _) _
theorem box16_size (w : World) (o : Nat → Nat) : (box16 w o).heap.size = w.heap.size + 1 := by simp [box16]

/-- is there such a node? -/
def isNode (i : Int) : Bool := decide (1 ≤ i) && decide (i ≤ 15)
end Go.Proofs.YtpcnfoaoajfhlaaGreatDoor

namespace Go.Proofs.YtpcnfoaoajfhlaaGreatDoor
set_option linter.unusedVariables false
set_option linter.unusedSimpArgs false
open Go.RowKit

/-- the two boxes of ask -/
theorem box_two (w : World) (O U : Nat → Nat) : ∃ w2, w2 = box16 (box16 w O) U ∧ SixAt w2 w.heap.size O ∧ SixAt w2 (w.heap.size + 1) U ∧ Below w.heap.size w w2 := by
  refine ⟨_, rfl, (box16_six w O).grown (box16_below _ _), ?_, (box16_below _ _).trans ((box16_below _ _).mono (by rw [box16_size]; omega))⟩
  have h := box16_six (box16 w O) U
  rw [box16_size] at h
  exact h

set_option maxHeartbeats 4000000 in
theorem ask_alike (O U : Nat → Nat) (i x : Nat) (hi : i < 16) (h1 : O i = x) (h2 : U i = x) (w : World) :
    Calls Tryz.prog 182 #[ag16 O, ag16 U, .int .i64 (i : Nat)] w fun e w' => e = .returned (.tuple #[.slice none 0 0, .int .i64 1]) ∧ Below w.heap.size w w' := by
  obtain ⟨w2, HW, S1, S2, B2⟩ := box_two w O U
  have HB := (show Hid (Below _ _ _) from B2)
  have c1 := S1.cell i hi
  have c2 := S2.cell i hi
  have l1 := S1.lt
  have l2 := S2.lt
  rw [h1] at c1
  rw [h2] at c2
  have i1 : (0 : Int) ≤ (i : Int) := by omega
  have i2 : (i : Int) < 16 := by omega
  clear h1 h2 S1 S2 B2
  obtain ⟨b2, hb2⟩ : ∃ b, Hid (w.heap.size + 1 = b) := ⟨_, rfl⟩
  rw [hb2.out] at c2 l2
  go_enter Tryz.func182, Tryz.ntmps182
  go_upto_region 1 with fail
  show Code.wp _ _ _ _ (box16 (box16 w O) U)
  rw [← HW, hb2.out]
  clear HW hb2
  go_quiet (fail)
  go_wp2_with fail
  go_ret2
  exact ⟨rfl, ⟨HB.out.os, HB.out.tape, HB.out.output, HB.out.size, HB.out.block⟩⟩

set_option maxHeartbeats 4000000 in
theorem ask_end (O U : Nat → Nat) (i x y : Nat) (hi : i < 16) (h8 : 8 ≤ i) (h1 : O i = x) (h2 : U i = y) (hxy : x ≠ y) (w : World) :
    Calls Tryz.prog 182 #[ag16 O, ag16 U, .int .i64 (i : Nat)] w fun e w' => ∃ v', e = .returned (.tuple #[v', .int .i64 1]) ∧ OwnI w.heap.size w' v' [((i - 8 : Nat) : Int)] ∧ Below w.heap.size w w' := by
  obtain ⟨w2, HW, S1, S2, B2⟩ := box_two w O U
  have HB := (show Hid (Below _ _ _) from B2)
  have c1 := S1.cell i hi
  have c2 := S2.cell i hi
  have l1 := S1.lt
  have l2 := S2.lt
  rw [h1] at c1
  rw [h2] at c2
  have i1 : (0 : Int) ≤ (i : Int) := by omega
  have i2 : (i : Int) < 16 := by omega
  have i3 : (8 : Int) ≤ (i : Int) := by omega
  have i4 : (i : Int) - 8 = ((i - 8 : Nat) : Int) := by omega
  have hx : ¬ (x : Int) = (y : Int) := by omega
  clear h1 h2 S1 S2 B2 hxy
  obtain ⟨b2, hb2⟩ : ∃ b, Hid (w.heap.size + 1 = b) := ⟨_, rfl⟩
  rw [hb2.out] at c2 l2
  obtain ⟨k, hk⟩ : ∃ k, Hid (i - 8 = k) := ⟨_, rfl⟩
  rw [hk.out] at i4 ⊢
  go_enter Tryz.func182, Tryz.ntmps182
  go_upto_region 1 with fail
  show Code.wp _ _ _ _ (box16 (box16 w O) U)
  rw [← HW, hb2.out]
  clear HW hb2
  go_quiet (fail)
  go_wp2_with fail
  go_ret2
  have hb3 : Below w.heap.size w (w2.drewN nq) := HB.out.trans (below_drewN _ _ _)
  refine ⟨_, rfl, OwnI.one HB.out.size ?_, hb3.alloc hb3.size _⟩
  exact heap_alloc_new (w2.drewN nq) _

set_option maxHeartbeats 4000000 in
theorem ask_two (O U : Nat → Nat) (i x y : Nat) (l0 : 1 ≤ i) (l8 : i < 8) (h1 : O i = x) (h2 : U i = y) (hxy : x ≠ y) (p q : List Int) (n m : Nat) (hp : p.length ≤ 8) (hq : q.length ≤ 8) (hn : n ≤ 15) (hm : m ≤ 15)
    (cp : ∀ w, Calls Tryz.prog 182 #[ag16 O, ag16 U, .int .i64 (2 * i : Nat)] w fun e w' => ∃ v', e = .returned (.tuple #[v', .int .i64 (n : Nat)]) ∧ OwnI w.heap.size w' v' p ∧ Below w.heap.size w w')
    (cq : ∀ w, Calls Tryz.prog 182 #[ag16 O, ag16 U, .int .i64 (2 * i + 1 : Nat)] w fun e w' => ∃ v', e = .returned (.tuple #[v', .int .i64 (m : Nat)]) ∧ OwnI w.heap.size w' v' q ∧ Below w.heap.size w w') (w : World) :
    Calls Tryz.prog 182 #[ag16 O, ag16 U, .int .i64 (i : Nat)] w fun e w' => ∃ v', e = .returned (.tuple #[v', .int .i64 (n + m + 1 : Nat)]) ∧ OwnI w.heap.size w' v' (p ++ q) ∧ Below w.heap.size w w' := by
  obtain ⟨w2, HW, S1, S2, B2⟩ := box_two w O U
  have HB := (show Hid (Below _ _ _) from B2)
  have HS1 := (show Hid (SixAt _ _ _) from S1)
  have c1 := S1.cell i (by omega)
  have c2 := S2.cell i (by omega)
  have l1 := S1.lt
  have l2 := S2.lt
  rw [h1] at c1
  rw [h2] at c2
  have i1 : (0 : Int) ≤ (i : Int) := by omega
  have i2 : (i : Int) < 16 := by omega
  have i3 : ¬ (8 : Int) ≤ (i : Int) := by omega
  obtain ⟨P1, hP1⟩ : ∃ P : Nat, 2 * i = P := ⟨_, rfl⟩
  obtain ⟨P2, hP2⟩ : ∃ P : Nat, P1 + 1 = P := ⟨_, rfl⟩
  have j1 : (2 : Int) * (i : Int) = (P1 : Int) := by omega
  have j2 : (P1 : Int) + 1 = (P2 : Int) := by omega
  have j3 : IntKind.i64.wrap (P1 : Int) = (P1 : Int) := wrap_small _ (by omega) (by omega)
  have j4 : IntKind.i64.wrap (P2 : Int) = (P2 : Int) := wrap_small _ (by omega) (by omega)
  rw [hP1, hP2] at cq
  rw [hP1] at cp
  have HCp : Hid (∀ w, Calls Tryz.prog 182 #[ag16 O, ag16 U, .int .i64 (P1 : Nat)] w fun e w' => ∃ v', e = .returned (.tuple #[v', .int .i64 (n : Nat)]) ∧ OwnI w.heap.size w' v' p ∧ Below w.heap.size w w') := cp
  have HCq : Hid (∀ w, Calls Tryz.prog 182 #[ag16 O, ag16 U, .int .i64 (P2 : Nat)] w fun e w' => ∃ v', e = .returned (.tuple #[v', .int .i64 (m : Nat)]) ∧ OwnI w.heap.size w' v' q ∧ Below w.heap.size w w') := cq
  have hx : ¬ (x : Int) = (y : Int) := by omega
  obtain ⟨N, hN⟩ : ∃ N, n + m + 1 = N := ⟨_, rfl⟩
  have j5 : (1 : Int) + (n : Int) + (m : Int) = (N : Int) := by omega
  rw [hN]
  clear h1 h2 S1 B2 hxy hP1 hP2 hN cp cq
  obtain ⟨b2, hb2⟩ : ∃ b, Hid (w.heap.size + 1 = b) := ⟨_, rfl⟩
  rw [hb2.out] at c2 l2 S2
  have HS2 := (show Hid (SixAt _ _ _) from S2)
  clear S2
  go_enter Tryz.func182, Tryz.ntmps182
  go_upto_region 1 with fail
  show Code.wp _ _ _ _ (box16 (box16 w O) U)
  rw [← HW, hb2.out]
  clear HW hb2
  go_quiet (fail)
  go_upto_region 5 with fail
  have B3 : Hid (Below w.heap.size w (w2.drewN nq)) := HB.out.trans (below_drewN _ _ _)
  have S3 : Hid (SixAt (w2.drewN nq) w.heap.size O) := HS1.out.of_block rfl
  have T3 : Hid (SixAt (w2.drewN nq) b2 U) := HS2.out.of_block rfl
  clear c1 c2 HS1 HS2 HB l1 l2
  generalize w2.drewN nq = w3 at B3 S3 T3 ⊢
  obtain ⟨d0, d1, d2, d3, d4, d5, d6, d7, d8, d9, d10, d11, d12, d13, d14, d15⟩ := six_cells S3.out
  obtain ⟨c0, c1, c2, c3, c4, c5, c6, c7, c8, c9, c10, c11, c12, c13, c14, c15⟩ := six_cells T3.out
  go_wp2_with fail
  refine (HCp.out _).mono ?_
  rintro e w4 ⟨v1, rfl, ho1, hb⟩
  have B4 : Hid (Below w.heap.size w w4) := B3.out.trans (hb.mono B3.out.size)
  have S4 : Hid (SixAt w4 w.heap.size O) := S3.out.grown hb
  have T4 : Hid (SixAt w4 b2 U) := T3.out.grown hb
  have O4 : Hid (OwnI w.heap.size w4 v1 p) := ho1.base B3.out.size
  clear hb ho1 S3 T3 B3 c0 c1 c2 c3 c4 c5 c6 c7 c8 c9 c10 c11 c12 c13 c14 c15 d0 d1 d2 d3 d4 d5 d6 d7 d8 d9 d10 d11 d12 d13 d14 d15 HCp
  obtain ⟨d0, d1, d2, d3, d4, d5, d6, d7, d8, d9, d10, d11, d12, d13, d14, d15⟩ := six_cells S4.out
  obtain ⟨c0, c1, c2, c3, c4, c5, c6, c7, c8, c9, c10, c11, c12, c13, c14, c15⟩ := six_cells T4.out
  go_wp2_with fail
  refine (HCq.out _).mono ?_
  rintro e w5 ⟨v2, rfl, ho2, hb⟩
  have B5 : Hid (Below w.heap.size w w5) := B4.out.trans (hb.mono B4.out.size)
  have O5 : Hid (OwnI w.heap.size w5 v1 p) := O4.out.below hb
  have P5 : Hid (OwnI w4.heap.size w5 v2 q) := ho2
  clear hb ho2 S4 T4 B4 c0 c1 c2 c3 c4 c5 c6 c7 c8 c9 c10 c11 c12 c13 c14 c15 d0 d1 d2 d3 d4 d5 d6 d7 d8 d9 d10 d11 d12 d13 d14 d15 HCq
  have HL : Hid (p.length + q.length ≤ 100) := by show _ ≤ _; omega
  have HSz : Hid (w.heap.size ≤ w5.heap.size) := B5.out.size
  go_wp2_with (at_builtin; refine wp_appRow _ rfl _ _ rfl w.heap.size _ p rfl O5.out w4.heap.size _ q rfl P5.out HL.out HSz.out ?_)
  intro v3 w6 O6 G6
  have HO6 := (show Hid (OwnI _ _ _ _) from O6)
  clear O6
  go_wp2_with fail
  go_ret2
  exact ⟨_, rfl, HO6.out, below_grownF B5.out (Nat.le_refl _) G6.out (fun c hc => O5.out.from c hc)⟩
end Go.Proofs.YtpcnfoaoajfhlaaGreatDoor
