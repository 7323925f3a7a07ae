/-
  merelaw2.MeshPlays answers true, whatever nodes put, delete, get, and swap.
-/
import Derived.Test.YtpcnfoaoajfhlaaGreatDoorMqbk
import Derived.Test.YtpcnfoaoajfhlaaGreatDoorMqas
import Derived.Test.YtpcnfoaoajfhlaaGreatDoorMqak
import Derived.Deep.DeepCutAuto
import Derived.Deep.CutBlock
import Derived.Deep.LoopGhost
import Derived.Deep.Draws
import Derived.Deep.RegionHeld3
import Derived.BigQuiet
import Derived.BigRegion
import Derived.WalkSmall
namespace Go.Proofs.YtpcnfoaoajfhlaaGreatDoor
set_option linter.unusedVariables false
set_option linter.unusedSimpArgs false
set_option linter.unusedVariables false
set_option linter.unusedSimpArgs false
open Go.RowKit

structure Z4 (w : World) (A : Nat) (z0 z1 z2 z3 : Int) : Prop where
  c0 : w.cell? ⟨A, 0, none⟩ = some (.int .i64 z0)
  c1 : w.cell? ⟨A, 1, none⟩ = some (.int .i64 z1)
  c2 : w.cell? ⟨A, 2, none⟩ = some (.int .i64 z2)
  c3 : w.cell? ⟨A, 3, none⟩ = some (.int .i64 z3)
theorem Z4.of_block {w w' : World} {A : Nat} {z0 z1 z2 z3 : Int} (h : Z4 w A z0 z1 z2 z3) (hb : w'.heap[A]? = w.heap[A]?) : Z4 w' A z0 z1 z2 z3 :=
  ⟨(World.cell?_of_block (a := ⟨A, 0, none⟩) hb).trans h.c0, (World.cell?_of_block (a := ⟨A, 1, none⟩) hb).trans h.c1, (World.cell?_of_block (a := ⟨A, 2, none⟩) hb).trans h.c2, (World.cell?_of_block (a := ⟨A, 3, none⟩) hb).trans h.c3⟩
theorem Z4.lt {w : World} {A : Nat} {z0 z1 z2 z3 : Int} (h : Z4 w A z0 z1 z2 z3) : A < w.heap.size := World.block_lt_of_cell? w _ h.c0
theorem Z4.grown {w w' : World} {A : Nat} {z0 z1 z2 z3 : Int} (h : Z4 w A z0 z1 z2 z3) (hb : Below w.heap.size w w') : Z4 w' A z0 z1 z2 z3 := h.of_block (hb.block A h.lt)
/-- what the law's rounds carry -/
structure MyIs (P : Nat → Prop) (N : Nat) (w0 w : World) (m k nn : Nat) (l : List Deed) (cs : List (List En)) : Prop where
  h : Mt P N w0 w m k l cs l cs
  good : GoodM l cs
  len : cs.length = nn
theorem MyIs.grown {P : Nat → Prop} {N : Nat} {w0 w w' : World} {m k nn : Nat} {l : List Deed} {cs : List (List En)} (h : MyIs P N w0 w m k nn l cs) (hb : Below w.heap.size w w') : MyIs P N w0 w' m k nn l cs := ⟨h.h.grown hb, h.good, h.len⟩
theorem mPut_lenY {l l' : List Deed} {cs cs' : List (List En)} {node key kk er : Int} {t : ByteArray} (hG : GoodM l cs) (h : mPut l cs node key t = ⟨l', cs', kk, er⟩) : GoodM l' cs' ∧ cs'.length = cs.length := by
  have h1 := mPut_good hG node key t
  have h2 := mDone_len (putO l key t) l cs node key
  have h3 : mDone (putO l key t) l cs node key = ⟨l', cs', kk, er⟩ := h
  rw [h] at h1
  rw [h3] at h2
  exact ⟨h1, h2⟩
theorem mDel_lenY {l l' : List Deed} {cs cs' : List (List En)} {node key kk er : Int} (hG : GoodM l cs) (h : mDel l cs node key = ⟨l', cs', kk, er⟩) : GoodM l' cs' ∧ cs'.length = cs.length := by
  have h1 := mDel_good hG node key
  have h2 := mDone_len (delO l key) l cs node key
  have h3 : mDone (delO l key) l cs node key = ⟨l', cs', kk, er⟩ := h
  rw [h] at h1
  rw [h3] at h2
  exact ⟨h1, h2⟩
theorem mGet_lenY {l : List Deed} {cs cs' : List (List En)} {node key fl n : Int} {x : En} {had : Bool} (hG : GoodM l cs) (h : mGet l cs node key fl = (cs', x, had, n)) : GoodM l cs' ∧ cs'.length = cs.length := by
  have h1 := mGet_good hG node key fl
  have h2 := mGet_len l cs node key fl
  rw [h] at h1 h2
  exact ⟨h1, h2⟩
theorem mSwap_lenY {l : List Deed} {cs cs' : List (List En)} {a b n : Int} (hG : GoodM l cs) (h : mSwap cs a b = (cs', n)) : GoodM l cs' ∧ cs'.length = cs.length := by
  have h1 := mSwap_good hG a b
  have h2 := mSwap_len cs a b
  rw [h] at h1 h2
  exact ⟨h1, h2⟩
theorem err_nilY (w : World) (hg : HasErr w) : Calls Tryz.prog 8 #[.nilIface, .int .i64 0] w fun e w' => e = .returned (.bool true) ∧ Below w.heap.size w w' := by
  have c := err_same 0 w hg
  rw [eV_zeroN] at c
  exact c
theorem err_oneY (w : World) (hg : HasErr w) : Calls Tryz.prog 8 #[.iface 85 (.int .i64 1), .int .i64 1] w fun e w' => e = .returned (.bool true) ∧ Below w.heap.size w w' := by
  have c := err_same 1 w hg
  rw [eV_errN (by omega)] at c
  exact c
theorem sameY {l : List En} (va vb : Value) (w : World) (hra : RowIs w va l) (hrb : RowIs w vb l) : Calls Tryz.prog 18 #[va, vb] w fun e w' => e = .returned (.bool true) ∧ Below w.heap.size w w' := by
  have c := same_c va vb l l w hra hrb
  rw [sameL_iff.2 rfl] at c
  exact c
/-- a new mesh of the document's -/
theorem rk_new (w : World) (n : Nat) (h6 : n ≤ 6) : ∃ T, RkAt T (((w.alloc (.cells #[.slice none 0 0] 34)).alloc (.cells (madeCells #[.slice none 0 0] n) 32)).alloc (.cells #[.pointer (some ⟨w.heap.size, 0, none⟩), .slice (some ⟨w.heap.size + 1, 0, none⟩) n n] 37)) (w.heap.size + 1 + 1) [] (List.replicate n []) ∧ ∀ x, T x → w.heap.size ≤ x := by
  have b1 : Below (w.heap.size + 1) (w.alloc (.cells #[.slice none 0 0] 34)) ((w.alloc (.cells #[.slice none 0 0] 34)).alloc (.cells (madeCells #[.slice none 0 0] n) 32)) := (Below.refl _ _).alloc (by simp) _
  have a0 : ((w.alloc (.cells #[.slice none 0 0] 34)).alloc (.cells (madeCells #[.slice none 0 0] n) 32)).heap[w.heap.size]? = some (.cells #[.slice none 0 0] 34) := (b1.block _ (by omega)).trans (alloc_at w _ _ rfl)
  have hs : RefIs ((w.alloc (.cells #[.slice none 0 0] 34)).alloc (.cells (madeCells #[.slice none 0 0] n) 32)) w.heap.size [] (fun x => x = w.heap.size) :=
    ⟨.slice none 0 0, by simp [World.cell?, a0], by simp [World.frozen?, a0], ⟨rfl, .inl ⟨rfl, rfl⟩⟩, by simp [Value.ownBlock], fun c hc => by simp [Value.ownBlock] at hc, rfl, fun c hc => by subst hc; simp; omega, by simp⟩
  refine ⟨_, ⟨_, _, _, rc_new (b := w.heap.size) (c := w.heap.size + 1) (n := n) (m := w.heap.size + 1 + 1) (by simp) hs (fun k hk => ?_) (fun k => by simp) (by simp) (by omega) h6⟩, fun x hx => ?_⟩
  · rw [World.cell?_alloc_at _ _ _ _ (by simp)]
    simp [madeCells, hk, Nat.mod_one]
  · rcases hx with hx | hx | hx <;> omega
set_option maxRecDepth 100000 in
set_option maxHeartbeats 64000000 in
theorem mplays_w (n : Int) (vs vt : Value) (ns nt : Nat) (w : World) (hs : IsSteps w vs ns) (ht : IsTexts w vt nt) (hT : Lib.TabIs Tryz.prog w powName .u64 Lib.pow10Tab) (hg : HasErr w) :
    Calls Tryz.prog 3 #[.int .i64 n, vs, vt] w fun e w' => e = .returned (.bool true) ∧ Below w.heap.size w w' := by
  have HG : Hid (HasErr w) := hg
  have HTb : Hid (Lib.TabIs Tryz.prog w powName .u64 Lib.pow10Tab) := hT
  obtain ⟨aS, cS, rfl, hns, hs1⟩ := hs
  have HS1 : Hid (∀ i, i < ns → ∃ b o u m, aS = some ⟨b, o, none⟩ ∧ w.cell? ⟨b, o + i, none⟩ = some u ∧ IsInts w u m) := hs1
  obtain ⟨aT, cT, rfl, hnt, ht1⟩ := ht
  have HT1 : Hid (∀ i, i < nt → ∃ b o s, aT = some ⟨b, o, none⟩ ∧ w.cell? ⟨b, o + i, none⟩ = some (.string s) ∧ s.size ≤ maxLen) := ht1
  clear hs1 ht1 hT hg
  unfold maxLen at hns hnt
  by_cases hn : n < 1 ∨ 6 < n
  · have HN : Hid (n < 1 ∨ 6 < n) := hn
    by_cases hn1 : n < 1
    · have hd1 : decide (n < 1) = true := by simpa using hn1
      clear hn hn1
      go_enter Tryz.func3, Tryz.ntmps3
      go_wp2_with (go_at_call 7; refine (mNew_bad n _ HN.out).mono ?_; rintro e w' ⟨rfl, hw⟩; rw [hw]; clear hw w')
      refine (err_oneY _ HG.out).mono ?_
      rintro e w1 ⟨rfl, hb⟩
      have B1 : Hid (Below w.heap.size w w1) := hb
      clear hb
      go_wp2_with fail
      go_ret
      exact ⟨rfl, B1.out⟩
    · have hd1 : decide (n < 1) = false := by simpa using hn1
      have hd2 : decide (6 < n) = true := by simpa using hn.resolve_left hn1
      clear hn hn1
      go_enter Tryz.func3, Tryz.ntmps3
      go_wp2_with (go_at_call 7; refine (mNew_bad n _ HN.out).mono ?_; rintro e w' ⟨rfl, hw⟩; rw [hw]; clear hw w')
      refine (err_oneY _ HG.out).mono ?_
      rintro e w1 ⟨rfl, hb⟩
      have B1 : Hid (Below w.heap.size w w1) := hb
      clear hb
      go_wp2_with fail
      go_ret
      exact ⟨rfl, B1.out⟩
  obtain ⟨nn, rfl⟩ : ∃ k : Nat, n = k := ⟨n.toNat, by omega⟩
  have h1 : 1 ≤ nn := by omega
  have h6 : nn ≤ 6 := by omega
  have hd1 : decide ((nn : Int) < 1) = false := by simp; omega
  have hd2 : decide ((6 : Int) < (nn : Int)) = false := by simp; omega
  clear hn
  go_enter Tryz.func3, Tryz.ntmps3
  go_wp2_with fail
  refine (mNew_ok nn w h1 h6).mono ?_
  rintro e w1 ⟨m, rfl, ⟨S, hm, hS⟩, hb⟩
  have M1 : Hid (Mh (fun _ => False) w.heap.size w w1 m [] (List.replicate nn [])) := ⟨⟨S, hm, fun c hc => ⟨hS c hc, id⟩⟩, hb, hb.size, fun c hc => hc.elim⟩
  clear hm hS hb hd1 hd2
  go_wp2_with fail
  refine (err_nilY _ (HG.out.below HG.out.lt M1.out.bel)).mono ?_
  rintro e w2 ⟨rfl, hb⟩
  have M2 : Hid (Mh (fun _ => False) w.heap.size w w2 m [] (List.replicate nn [])) := M1.out.grown hb
  clear hb M1
  have hmk := run_make_row' (P := Tryz.prog) 35 32 (.slice none 0 0) 24 Tryz.underlying35 infoRowM rfl .i64 .i64 nn (by omega) (by omega)
  go_upto_region 9 with fail
  obtain ⟨T, hk, hT⟩ := rk_new w2 nn h6
  obtain ⟨k, HKe⟩ : ∃ k, Hid (w2.heap.size + 1 + 1 = k) := ⟨_, rfl⟩
  obtain ⟨w3, HW3⟩ : ∃ w3, w3 = ((w2.alloc (.cells #[.slice none 0 0] 34)).alloc (.cells (madeCells #[.slice none 0 0] nn) 32)).alloc (.cells #[.pointer (some ⟨w2.heap.size, 0, none⟩), .slice (some ⟨w2.heap.size + 1, 0, none⟩) nn nn] 37) := ⟨_, rfl⟩
  have hb3 : Below w2.heap.size w2 w3 := by rw [HW3]; go_grown
  rw [← HW3, HKe.out] at hk
  have M3 : Hid (MyIs (fun _ => False) w.heap.size w w3 m k nn [] (List.replicate nn [])) := ⟨Mt.start M2.out hb3 hk hT, goodM_new nn, List.length_replicate ..⟩
  first | rw [← HW3, HKe.out] | (simp only [← HW3, HKe.out])
  clear HW3 HKe hb3 hk hT M2 hmk
  go_upto_block 0 with fail
  go_cut [12] (fun _ wd => ∃ (l : List Deed) (cs : List (List En)), Hid (MyIs (fun _ => False) w.heap.size w wd m k nn l cs))
  case first =>
    try clear_value *
    as_aux_lemma =>
      let _BP : Exit → Act → World → Prop := bodyPost Tryz.prog Tryz.f3 fun _ _ => True
      go_wp2_with fail
      go_loopw [12] (fun c12 wr => ∃ (i : Nat) (l : List Deed) (cs : List (List En)), i ≤ ns ∧ i ≤ 60 ∧ c12 = .int .i64 i ∧ Hid (MyIs (fun _ => False) w.heap.size w wr m k nn l cs)) (fun c12 _ => ns - (intOf c12).toNat)
      case atStart => exact ⟨0, _, _, by omega, by omega, rfl, M3⟩
      case round =>
        obtain ⟨i, l, cs, hi1, hi2, rfl, HR⟩ := hrel
        clear M3
        by_cases hlt1 : i < ns ∧ i < 60
        · obtain ⟨hn1, hn2⟩ := hlt1
          have hd1 : decide ((i : Int) < (ns : Int)) = true := by simp; omega
          have hd2 : decide ((i : Int) < 60) = true := by simp; omega
          have hlti : (i : Int) < (ns : Int) := by omega
          obtain ⟨bS, oS, u, kz, rfl, cu, HI⟩ := HS1.out i hn1
          have cu' := old_cell HR.out.h.bel cu
          have lS := World.block_lt_of_cell? wr _ cu'
          have HI' := HI.below HR.out.h.bel
          obtain ⟨aI, cI, rfl, hm, hz⟩ := HI'
          have HZ : Hid (∀ j, j < kz → ∃ b o z, aI = some ⟨b, o, none⟩ ∧ wr.cell? ⟨b, o + j, none⟩ = some (.int .i64 z)) := hz
          unfold maxLen at hm
          clear HI cu hz
          go_upto_block 2 with fail
          go_cut [14] (fun _ wd => ∃ z0 z1 z2 z3 : Int, wd = wr.alloc (.cells #[.int .i64 z0, .int .i64 z1, .int .i64 z2, .int .i64 z3] 38))
          case first =>
            try clear_value *
            as_aux_lemma =>
              let _BP : Exit → Act → World → Prop := bodyPost Tryz.prog Tryz.f3 fun _ _ => True
              go_wp2_with fail
              go_loopg [14] 4 (fun gq j wi => ∃ q : Nat, gq + q = 4 ∧ j = .int .i64 q ∧ ∃ z0 z1 z2 z3 : Int, wi = wr.alloc (.cells #[.int .i64 z0, .int .i64 z1, .int .i64 z2, .int .i64 z3] 38))
              case atStart => exact ⟨0, by omega, rfl, 0, 0, 0, 0, rfl⟩
              case round =>
                obtain ⟨q, hq, rfl, z0, z1, z2, z3, rfl⟩ := hrel
                by_cases hqm : q < kz ∧ q < 4
                · obtain ⟨hq1, hq2⟩ := hqm
                  have hq3 : (q : Int) < (kz : Int) := by omega
                  have hq4 : decide ((q : Int) < (kz : Int)) = true := by simp; omega
                  obtain ⟨bI, oI, z, rfl, cz⟩ := HZ.out q hq1
                  have lI := World.block_lt_of_cell? wr _ cz
                  have h4 : q = 0 ∨ q = 1 ∨ q = 2 ∨ q = 3 := by omega
                  rcases h4 with rfl | rfl | rfl | rfl
                  · simp only [Nat.add_zero] at cz
                    go_wp2
                    go_roundg (3 : Nat)
                    case measure => omega
                    case rel => exact ⟨1, by omega, rfl, _, _, _, _, rfl⟩
                  · go_wp2
                    go_roundg (2 : Nat)
                    case measure => omega
                    case rel => exact ⟨2, by omega, rfl, _, _, _, _, rfl⟩
                  · go_wp2
                    go_roundg (1 : Nat)
                    case measure => omega
                    case rel => exact ⟨3, by omega, rfl, _, _, _, _, rfl⟩
                  · go_wp2
                    go_roundg (0 : Nat)
                    case measure => omega
                    case rel => exact ⟨4, by omega, rfl, _, _, _, _, rfl⟩
                · by_cases h : q < kz
                  · have hq5 : decide ((q : Int) < (kz : Int)) = true := by simp; omega
                    have hq6 : decide ((q : Int) < 4) = false := by simp; omega
                    go_wp2_with fail
                    go_meet
                    case rel => exact ⟨z0, z1, z2, z3, rfl⟩
                  · have hq5 : decide ((q : Int) < (kz : Int)) = false := by simp; omega
                    go_wp2_with fail
                    go_meet
                    case rel => exact ⟨z0, z1, z2, z3, rfl⟩
          case rest =>
          obtain ⟨z0, z1, z2, z3, hwc⟩ := hcut
          obtain ⟨wA, hren⟩ : ∃ x, x = wc := ⟨_, rfl⟩
          subst hren
          obtain ⟨A, HAe⟩ : ∃ A, Hid (A = wr.heap.size) := ⟨_, rfl⟩
          have HA : Hid (MyIs (fun c => c = A) w.heap.size w wA m k nn l cs) := by
            unfold Hid
            rw [hwc, HAe.out]
            exact ⟨HR.out.h.more (by go_grown) (fun c hc => .inr (by omega)) (fun c hc => by simp; omega), HR.out.good, HR.out.len⟩
          have ZA : Hid (Z4 wA A z0 z1 z2 z3) := by
            unfold Hid
            rw [hwc, HAe.out]
            exact ⟨by simp, by simp, by simp, by simp⟩
          clear hwc HZ cu' lS hm HR
          rw [← HAe.out]
          clear HAe
          go_upto_if 96 with fail
          go_cut [15] (fun tv wd => wd = wA ∧ ∃ tx : ByteArray, tv = .string tx ∧ Hid (tx.size ≤ maxLen))
          case first =>
            try clear_value *
            as_aux_lemma =>
              let _BP : Exit → Act → World → Prop := bodyPost Tryz.prog Tryz.f3 fun _ _ => True
              by_cases hn3 : i < nt
              · obtain ⟨bT, oT, s, rfl, ct, hts⟩ := HT1.out i hn3
                have ct' := old_cell HA.out.h.bel ct
                have hn4 : (i : Int) < (nt : Int) := by omega
                go_wp2_with fail
                go_meet
                case rel => exact ⟨rfl, s, rfl, hts⟩
              · have hn4 : ¬ (i : Int) < (nt : Int) := by omega
                go_wp2_with fail
                go_meet
                case rel => exact ⟨rfl, _, rfl, by unfold Hid maxLen; decide⟩
          case rest =>
          obtain ⟨hwd, tx, hslot, HTx⟩ := hcut
          rw [hwd]
          clear hwd wc
          subst hslot
          obtain ⟨a0, a1, a2, a3⟩ := ZA.out
          have lA := ZA.out.lt
          go_upto_block 4 with fail
          go_cut [10] (fun c10 wd => c10 = .bool true ∧ ∃ l' cs', Hid (MyIs (fun c => c = A) w.heap.size w wd m k nn l' cs'))
          case first =>
            try clear_value *
            as_aux_lemma =>
              let _BP : Exit → Act → World → Prop := bodyPost Tryz.prog Tryz.f3 fun _ _ => True
              by_cases e0 : z0 = 0
              · have e0b : (z0 == 0) = true := by simp [e0]
                clear e0
                try clear_value *
                as_aux_lemma =>
                  let _BP : Exit → Act → World → Prop := bodyPost Tryz.prog Tryz.f3 fun _ _ => True
                  obtain ⟨R, HRp⟩ : ∃ R, Hid (mPut l cs z1 z2 tx = R) := ⟨_, rfl⟩
                  obtain ⟨l', cs', kk, er⟩ := R
                  have HG7 : Hid (GoodM l' cs' ∧ cs'.length = cs.length) := mPut_lenY HA.out.good HRp.out
                  have hkk : (kk == kk) = true := by simp
                  obtain ⟨S, h1', h2'⟩ := HA.out.h.callK
                  have HS : Hid _ := h1'
                  have HC : Hid _ := h2'
                  clear h1' h2'
                  go_wp2_with fail
                  refine (rMPut_c HS.out HA.out.good z1 z2 tx HTx.out).mono ?_
                  rw [HRp.out]
                  rintro e w7 ⟨rfl, hto⟩
                  dsimp only at hto ⊢
                  obtain ⟨h1', h2', _⟩ := HC.out _ _ _ hto
                  have H7 : Hid (Mt (fun c => c = A) w.heap.size w w7 m k l cs l' cs') := h1'
                  have Z7 : Hid (Z4 w7 A z0 z1 z2 z3) := ZA.out.of_block (h2' A rfl)
                  clear hto h1' h2' HS HC a0 a1 a2 a3 lA
                  obtain ⟨a0, a1, a2, a3⟩ := Z7.out
                  have lA := Z7.out.lt
                  obtain ⟨S, h1', h2'⟩ := H7.out.callM
                  have HS : Hid _ := h1'
                  have HC : Hid _ := h2'
                  clear h1' h2'
                  go_wp2_with fail
                  refine (mPut_c HS.out HA.out.good z1 z2 tx HTx.out).mono ?_
                  rw [HRp.out]
                  rintro e w8 ⟨rfl, hto⟩
                  dsimp only at hto ⊢
                  obtain ⟨h1', h2', _⟩ := HC.out _ _ _ hto
                  have H8 : Hid (Mt (fun c => c = A) w.heap.size w w8 m k l' cs' l' cs') := h1'
                  clear hto h1' h2' HS HC a0 a1 a2 a3 lA Z7 H7
                  go_wp2_with fail
                  refine (err_same er _ (HG.out.below HG.out.lt H8.out.bel)).mono ?_
                  rintro e w9 ⟨rfl, hb⟩
                  have H9 : Hid (MyIs (fun c => c = A) w.heap.size w w9 m k nn l' cs') := ⟨H8.out.grown hb, HG7.out.1, by have h1 := HG7.out.2; have h2 := HA.out.len; omega⟩
                  clear hb H8
                  go_wp2_with fail
                  go_meet
                  case rel => exact ⟨rfl, _, _, H9⟩
              have e0b : (z0 == 0) = false := by simp [e0]
              clear e0
              by_cases e1 : z0 = 1
              · have e1b : (z0 == 1) = true := by simp [e1]
                clear e1
                try clear_value *
                as_aux_lemma =>
                  let _BP : Exit → Act → World → Prop := bodyPost Tryz.prog Tryz.f3 fun _ _ => True
                  obtain ⟨R, HRp⟩ : ∃ R, Hid (mPut l cs z1 z2 tx = R) := ⟨_, rfl⟩
                  obtain ⟨l', cs', kk, er⟩ := R
                  have HG7 : Hid (GoodM l' cs' ∧ cs'.length = cs.length) := mPut_lenY HA.out.good HRp.out
                  have hkk : (kk == kk) = true := by simp
                  obtain ⟨S, h1', h2'⟩ := HA.out.h.callK
                  have HS : Hid _ := h1'
                  have HC : Hid _ := h2'
                  clear h1' h2'
                  go_wp2_with fail
                  refine (rMPut_c HS.out HA.out.good z1 z2 tx HTx.out).mono ?_
                  rw [HRp.out]
                  rintro e w7 ⟨rfl, hto⟩
                  dsimp only at hto ⊢
                  obtain ⟨h1', h2', _⟩ := HC.out _ _ _ hto
                  have H7 : Hid (Mt (fun c => c = A) w.heap.size w w7 m k l cs l' cs') := h1'
                  have Z7 : Hid (Z4 w7 A z0 z1 z2 z3) := ZA.out.of_block (h2' A rfl)
                  clear hto h1' h2' HS HC a0 a1 a2 a3 lA
                  obtain ⟨a0, a1, a2, a3⟩ := Z7.out
                  have lA := Z7.out.lt
                  obtain ⟨S, h1', h2'⟩ := H7.out.callM
                  have HS : Hid _ := h1'
                  have HC : Hid _ := h2'
                  clear h1' h2'
                  go_wp2_with fail
                  refine (mPut_c HS.out HA.out.good z1 z2 tx HTx.out).mono ?_
                  rw [HRp.out]
                  rintro e w8 ⟨rfl, hto⟩
                  dsimp only at hto ⊢
                  obtain ⟨h1', h2', _⟩ := HC.out _ _ _ hto
                  have H8 : Hid (Mt (fun c => c = A) w.heap.size w w8 m k l' cs' l' cs') := h1'
                  clear hto h1' h2' HS HC a0 a1 a2 a3 lA Z7 H7
                  go_wp2_with fail
                  refine (err_same er _ (HG.out.below HG.out.lt H8.out.bel)).mono ?_
                  rintro e w9 ⟨rfl, hb⟩
                  have H9 : Hid (MyIs (fun c => c = A) w.heap.size w w9 m k nn l' cs') := ⟨H8.out.grown hb, HG7.out.1, by have h1 := HG7.out.2; have h2 := HA.out.len; omega⟩
                  clear hb H8
                  go_wp2_with fail
                  go_meet
                  case rel => exact ⟨rfl, _, _, H9⟩
              have e1b : (z0 == 1) = false := by simp [e1]
              clear e1
              by_cases e2 : z0 = 2
              · have e2b : (z0 == 2) = true := by simp [e2]
                clear e2
                try clear_value *
                as_aux_lemma =>
                  let _BP : Exit → Act → World → Prop := bodyPost Tryz.prog Tryz.f3 fun _ _ => True
                  obtain ⟨R, HRp⟩ : ∃ R, Hid (mDel l cs z1 z2 = R) := ⟨_, rfl⟩
                  obtain ⟨l', cs', kk, er⟩ := R
                  have HG7 : Hid (GoodM l' cs' ∧ cs'.length = cs.length) := mDel_lenY HA.out.good HRp.out
                  have hkk : (kk == kk) = true := by simp
                  obtain ⟨S, h1', h2'⟩ := HA.out.h.callK
                  have HS : Hid _ := h1'
                  have HC : Hid _ := h2'
                  clear h1' h2'
                  go_wp2_with fail
                  refine (rMDel_c HS.out HA.out.good z1 z2 ⟨#[]⟩).mono ?_
                  rw [HRp.out]
                  rintro e w7 ⟨rfl, hto⟩
                  dsimp only at hto ⊢
                  obtain ⟨h1', h2', _⟩ := HC.out _ _ _ hto
                  have H7 : Hid (Mt (fun c => c = A) w.heap.size w w7 m k l cs l' cs') := h1'
                  have Z7 : Hid (Z4 w7 A z0 z1 z2 z3) := ZA.out.of_block (h2' A rfl)
                  clear hto h1' h2' HS HC a0 a1 a2 a3 lA
                  obtain ⟨a0, a1, a2, a3⟩ := Z7.out
                  have lA := Z7.out.lt
                  obtain ⟨S, h1', h2'⟩ := H7.out.callM
                  have HS : Hid _ := h1'
                  have HC : Hid _ := h2'
                  clear h1' h2'
                  go_wp2_with fail
                  refine (mDel_c HS.out HA.out.good z1 z2).mono ?_
                  rw [HRp.out]
                  rintro e w8 ⟨rfl, hto⟩
                  dsimp only at hto ⊢
                  obtain ⟨h1', h2', _⟩ := HC.out _ _ _ hto
                  have H8 : Hid (Mt (fun c => c = A) w.heap.size w w8 m k l' cs' l' cs') := h1'
                  clear hto h1' h2' HS HC a0 a1 a2 a3 lA Z7 H7
                  go_wp2_with fail
                  refine (err_same er _ (HG.out.below HG.out.lt H8.out.bel)).mono ?_
                  rintro e w9 ⟨rfl, hb⟩
                  have H9 : Hid (MyIs (fun c => c = A) w.heap.size w w9 m k nn l' cs') := ⟨H8.out.grown hb, HG7.out.1, by have h1 := HG7.out.2; have h2 := HA.out.len; omega⟩
                  clear hb H8
                  go_wp2_with fail
                  go_meet
                  case rel => exact ⟨rfl, _, _, H9⟩
              have e2b : (z0 == 2) = false := by simp [e2]
              clear e2
              by_cases e3 : z0 = 3
              · have e3b : (z0 == 3) = true := by simp [e3]
                clear e3
                try clear_value *
                as_aux_lemma =>
                  let _BP : Exit → Act → World → Prop := bodyPost Tryz.prog Tryz.f3 fun _ _ => True
                  obtain ⟨R, HRp⟩ : ∃ R, Hid (mGet l cs z1 z2 z3 = R) := ⟨_, rfl⟩
                  obtain ⟨cs', ⟨x0, x1, x2, x3, x4⟩, had, er⟩ := R
                  have HG7 : Hid (GoodM l cs' ∧ cs'.length = cs.length) := mGet_lenY HA.out.good HRp.out
                  have hhd : (had == had) = true := by simp
                  obtain ⟨S, h1', h2'⟩ := HA.out.h.callK
                  have HS : Hid _ := h1'
                  have HC : Hid _ := h2'
                  clear h1' h2'
                  go_wp2_with fail
                  refine (rMGet_o HS.out HA.out.good HRp.out).mono ?_
                  rintro e w7 ⟨rfl, hto⟩
                  obtain ⟨h1', h2', _⟩ := HC.out _ _ _ hto
                  have H7 : Hid (Mt (fun c => c = A) w.heap.size w w7 m k l cs l cs') := h1'
                  have Z7 : Hid (Z4 w7 A z0 z1 z2 z3) := ZA.out.of_block (h2' A rfl)
                  clear hto h1' h2' HS HC a0 a1 a2 a3 lA
                  go_upto_region 35 with fail
                  obtain ⟨w7b, HW7⟩ : ∃ z, z = w7.alloc (.cells #[.int .i64 x0, .int .i64 x1, .int .i64 x2, .bool x3, .string x4] 46) := ⟨_, rfl⟩
                  obtain ⟨P1, HP1⟩ : ∃ z, Hid (z = w7.heap.size) := ⟨_, rfl⟩
                  have HB7 : Hid (BoxAt w7b P1 x0 x1 x2 x3 x4) := by unfold Hid; rw [HW7, HP1.out]; exact box_new w7 x0 x1 x2 x3 x4 _ rfl
                  have H7b : Hid (Mt (fun c => c = A ∨ c = P1) w.heap.size w w7b m k l cs l cs') := by
                    have hz := Z7.out.lt
                    unfold Hid
                    rw [HW7, HP1.out]
                    exact H7.out.more (by go_grown) (fun c hc => hc.imp id (fun h => by omega)) (fun c hc => by rcases hc with hc | hc <;> simp <;> omega)
                  have Z7b : Hid (Z4 w7b A z0 z1 z2 z3) := by unfold Hid; rw [HW7]; exact Z7.out.grown (by go_grown)
                  rw [← HW7, ← HP1.out]
                  clear HW7 H7 Z7
                  obtain ⟨a0, a1, a2, a3⟩ := Z7b.out
                  have lA := Z7b.out.lt
                  obtain ⟨S, h1', h2'⟩ := H7b.out.callM
                  have HS : Hid _ := h1'
                  have HC : Hid _ := h2'
                  clear h1' h2'
                  go_wp2_with fail
                  refine (mGet_o HS.out HA.out.good HRp.out).mono ?_
                  rintro e w8 ⟨rfl, hto⟩
                  obtain ⟨h1', h2', _⟩ := HC.out _ _ _ hto
                  have H8 : Hid (Mt (fun c => c = A ∨ c = P1) w.heap.size w w8 m k l cs' l cs') := h1'
                  have HB8 : Hid (BoxAt w8 P1 x0 x1 x2 x3 x4) := HB7.out.of_block (h2' P1 (.inr rfl))
                  clear hto h1' h2' HS HC a0 a1 a2 a3 lA Z7b H7b HB7
                  go_upto_region 36 with fail
                  obtain ⟨w8b, HW8⟩ : ∃ z, z = w8.alloc (.cells #[.int .i64 x0, .int .i64 x1, .int .i64 x2, .bool x3, .string x4] 46) := ⟨_, rfl⟩
                  obtain ⟨P2, HP2⟩ : ∃ z, Hid (z = w8.heap.size) := ⟨_, rfl⟩
                  have HC8 : Hid (BoxAt w8b P2 x0 x1 x2 x3 x4) := by unfold Hid; rw [HW8, HP2.out]; exact box_new w8 x0 x1 x2 x3 x4 _ rfl
                  have HB8b : Hid (BoxAt w8b P1 x0 x1 x2 x3 x4) := by unfold Hid; rw [HW8]; exact HB8.out.alloc _
                  have H8b : Hid (Mt (fun c => c = A) w.heap.size w w8b m k l cs' l cs') := by unfold Hid; rw [HW8]; exact (H8.out.grown (by go_grown)).less (fun c hc => .inl hc)
                  rw [← HW8, ← HP2.out]
                  clear HW8 H8 HB8
                  have hq := eql_cells x0 x1 x2 x3 x4
                  have hgd := eqGuard_en
                  go_wp2_with fail
                  refine (err_same er _ (HG.out.below HG.out.lt H8b.out.bel)).mono ?_
                  rintro e w9 ⟨rfl, hb⟩
                  have H9 : Hid (MyIs (fun c => c = A) w.heap.size w w9 m k nn l cs') := ⟨H8b.out.grown hb, HG7.out.1, by have h1 := HG7.out.2; have h2 := HA.out.len; omega⟩
                  obtain ⟨d0, d1, d2, d3, d4, df⟩ := HB8b.out.below hb HB8b.out.lt
                  obtain ⟨f0, f1, f2, f3, f4, ff⟩ := HC8.out.below hb HC8.out.lt
                  clear hb H8b HB8b HC8
                  go_wp2_with fail
                  go_meet
                  case rel => exact ⟨rfl, _, _, H9⟩
              have e3b : (z0 == 3) = false := by simp [e3]
              clear e3
              by_cases e4 : z0 = 4
              · have e4b : (z0 == 4) = true := by simp [e4]
                clear e4
                try clear_value *
                as_aux_lemma =>
                  let _BP : Exit → Act → World → Prop := bodyPost Tryz.prog Tryz.f3 fun _ _ => True
                  obtain ⟨R, HRp⟩ : ∃ R, Hid (mGet l cs z1 z2 z3 = R) := ⟨_, rfl⟩
                  obtain ⟨cs', ⟨x0, x1, x2, x3, x4⟩, had, er⟩ := R
                  have HG7 : Hid (GoodM l cs' ∧ cs'.length = cs.length) := mGet_lenY HA.out.good HRp.out
                  have hhd : (had == had) = true := by simp
                  obtain ⟨S, h1', h2'⟩ := HA.out.h.callK
                  have HS : Hid _ := h1'
                  have HC : Hid _ := h2'
                  clear h1' h2'
                  go_wp2_with fail
                  refine (rMGet_o HS.out HA.out.good HRp.out).mono ?_
                  rintro e w7 ⟨rfl, hto⟩
                  obtain ⟨h1', h2', _⟩ := HC.out _ _ _ hto
                  have H7 : Hid (Mt (fun c => c = A) w.heap.size w w7 m k l cs l cs') := h1'
                  have Z7 : Hid (Z4 w7 A z0 z1 z2 z3) := ZA.out.of_block (h2' A rfl)
                  clear hto h1' h2' HS HC a0 a1 a2 a3 lA
                  go_upto_region 35 with fail
                  obtain ⟨w7b, HW7⟩ : ∃ z, z = w7.alloc (.cells #[.int .i64 x0, .int .i64 x1, .int .i64 x2, .bool x3, .string x4] 46) := ⟨_, rfl⟩
                  obtain ⟨P1, HP1⟩ : ∃ z, Hid (z = w7.heap.size) := ⟨_, rfl⟩
                  have HB7 : Hid (BoxAt w7b P1 x0 x1 x2 x3 x4) := by unfold Hid; rw [HW7, HP1.out]; exact box_new w7 x0 x1 x2 x3 x4 _ rfl
                  have H7b : Hid (Mt (fun c => c = A ∨ c = P1) w.heap.size w w7b m k l cs l cs') := by
                    have hz := Z7.out.lt
                    unfold Hid
                    rw [HW7, HP1.out]
                    exact H7.out.more (by go_grown) (fun c hc => hc.imp id (fun h => by omega)) (fun c hc => by rcases hc with hc | hc <;> simp <;> omega)
                  have Z7b : Hid (Z4 w7b A z0 z1 z2 z3) := by unfold Hid; rw [HW7]; exact Z7.out.grown (by go_grown)
                  rw [← HW7, ← HP1.out]
                  clear HW7 H7 Z7
                  obtain ⟨a0, a1, a2, a3⟩ := Z7b.out
                  have lA := Z7b.out.lt
                  obtain ⟨S, h1', h2'⟩ := H7b.out.callM
                  have HS : Hid _ := h1'
                  have HC : Hid _ := h2'
                  clear h1' h2'
                  go_wp2_with fail
                  refine (mGet_o HS.out HA.out.good HRp.out).mono ?_
                  rintro e w8 ⟨rfl, hto⟩
                  obtain ⟨h1', h2', _⟩ := HC.out _ _ _ hto
                  have H8 : Hid (Mt (fun c => c = A ∨ c = P1) w.heap.size w w8 m k l cs' l cs') := h1'
                  have HB8 : Hid (BoxAt w8 P1 x0 x1 x2 x3 x4) := HB7.out.of_block (h2' P1 (.inr rfl))
                  clear hto h1' h2' HS HC a0 a1 a2 a3 lA Z7b H7b HB7
                  go_upto_region 36 with fail
                  obtain ⟨w8b, HW8⟩ : ∃ z, z = w8.alloc (.cells #[.int .i64 x0, .int .i64 x1, .int .i64 x2, .bool x3, .string x4] 46) := ⟨_, rfl⟩
                  obtain ⟨P2, HP2⟩ : ∃ z, Hid (z = w8.heap.size) := ⟨_, rfl⟩
                  have HC8 : Hid (BoxAt w8b P2 x0 x1 x2 x3 x4) := by unfold Hid; rw [HW8, HP2.out]; exact box_new w8 x0 x1 x2 x3 x4 _ rfl
                  have HB8b : Hid (BoxAt w8b P1 x0 x1 x2 x3 x4) := by unfold Hid; rw [HW8]; exact HB8.out.alloc _
                  have H8b : Hid (Mt (fun c => c = A) w.heap.size w w8b m k l cs' l cs') := by unfold Hid; rw [HW8]; exact (H8.out.grown (by go_grown)).less (fun c hc => .inl hc)
                  rw [← HW8, ← HP2.out]
                  clear HW8 H8 HB8
                  have hq := eql_cells x0 x1 x2 x3 x4
                  have hgd := eqGuard_en
                  go_wp2_with fail
                  refine (err_same er _ (HG.out.below HG.out.lt H8b.out.bel)).mono ?_
                  rintro e w9 ⟨rfl, hb⟩
                  have H9 : Hid (MyIs (fun c => c = A) w.heap.size w w9 m k nn l cs') := ⟨H8b.out.grown hb, HG7.out.1, by have h1 := HG7.out.2; have h2 := HA.out.len; omega⟩
                  obtain ⟨d0, d1, d2, d3, d4, df⟩ := HB8b.out.below hb HB8b.out.lt
                  obtain ⟨f0, f1, f2, f3, f4, ff⟩ := HC8.out.below hb HC8.out.lt
                  clear hb H8b HB8b HC8
                  go_wp2_with fail
                  go_meet
                  case rel => exact ⟨rfl, _, _, H9⟩
              have e4b : (z0 == 4) = false := by simp [e4]
              clear e4
              try clear_value *
              as_aux_lemma =>
                let _BP : Exit → Act → World → Prop := bodyPost Tryz.prog Tryz.f3 fun _ _ => True
                obtain ⟨R, HRp⟩ : ∃ R, Hid (mSwap cs z1 z2 = R) := ⟨_, rfl⟩
                obtain ⟨cs', er⟩ := R
                have HG7 : Hid (GoodM l cs' ∧ cs'.length = cs.length) := mSwap_lenY HA.out.good HRp.out
                obtain ⟨S, h1', h2'⟩ := HA.out.h.callK
                have HS : Hid _ := h1'
                have HC : Hid _ := h2'
                clear h1' h2'
                go_wp2_with fail
                refine (rMSwap_o HS.out HA.out.good HRp.out).mono ?_
                rintro e w7 ⟨rfl, hto⟩
                obtain ⟨h1', h2', _⟩ := HC.out _ _ _ hto
                have H7 : Hid (Mt (fun c => c = A) w.heap.size w w7 m k l cs l cs') := h1'
                have Z7 : Hid (Z4 w7 A z0 z1 z2 z3) := ZA.out.of_block (h2' A rfl)
                clear hto h1' h2' HS HC a0 a1 a2 a3 lA
                obtain ⟨a0, a1, a2, a3⟩ := Z7.out
                have lA := Z7.out.lt
                obtain ⟨S, h1', h2'⟩ := H7.out.callM
                have HS : Hid _ := h1'
                have HC : Hid _ := h2'
                clear h1' h2'
                go_wp2_with fail
                refine (mSwap_o HS.out HA.out.good HRp.out (TabIs_below HTb.out H7.out.bel)).mono ?_
                rintro e w8 ⟨rfl, hto⟩
                obtain ⟨h1', h2', _⟩ := HC.out _ _ _ hto
                have H8 : Hid (Mt (fun c => c = A) w.heap.size w w8 m k l cs' l cs') := h1'
                clear hto h1' h2' HS HC a0 a1 a2 a3 lA Z7 H7
                go_wp2_with fail
                refine (err_same er _ (HG.out.below HG.out.lt H8.out.bel)).mono ?_
                rintro e w9 ⟨rfl, hb⟩
                have H9 : Hid (MyIs (fun c => c = A) w.heap.size w w9 m k nn l cs') := ⟨H8.out.grown hb, HG7.out.1, by have h1 := HG7.out.2; have h2 := HA.out.len; omega⟩
                clear hb H8
                go_wp2_with fail
                go_meet
                case rel => exact ⟨rfl, _, _, H9⟩
          case rest =>
          obtain ⟨h10, l', cs', HQ⟩ := hcut
          subst h10
          clear a0 a1 a2 a3 lA ZA HA HTx
          obtain ⟨w4, hren⟩ : ∃ y, y = wc := ⟨_, rfl⟩
          subst hren
          obtain ⟨ln, HLn⟩ : ∃ ln, Hid (l'.length = ln) := ⟨_, rfl⟩
          obtain ⟨S, h1', h2'⟩ := HQ.out.h.callM
          have HS : Hid _ := h1'
          clear h1' h2'
          obtain ⟨b0, c0, k0, k1, ⟨a9, cap9, kb, hl1000⟩, _⟩ := HQ.out.h.slots
          have hnl : ((ln : Int) != (ln : Int)) = false := by simp
          rw [HLn.out] at kb hl1000
          have hkl := World.block_lt_of_cell? w4 _ k0
          have hbl := World.block_lt_of_cell? w4 _ kb
          clear k1
          have HSq : Hid (∀ n, Calls Tryz.prog 16 #[.pointer (some ⟨m, 0, none⟩)] (w4.drewN n) fun e w' => e = .returned (.int .i64 ln) ∧ w' = w4.drewN n) := fun n => by
            have c := mSeq_c (MeshAt.grown HS.out (below_drewN _ w4 n))
            rw [HLn.out] at c
            exact c
          go_upto_region 37 with fail
          go_cut [230] (fun c wd => c = .bool false ∧ Hid (Below w4.heap.size w4 wd))
          case first =>
            try clear_value *
            as_aux_lemma =>
              let _BP : Exit → Act → World → Prop := bodyPost Tryz.prog Tryz.f3 fun _ _ => True
              go_quiet (first | (go_at_call 16; exact Calls.quiet_of_same (HSq.out _)))
              go_wp2_with fail
              go_meet
              exact ⟨rfl, below_drewN _ _ _⟩
          case rest =>
          obtain ⟨h230, HB⟩ := hcut
          subst h230
          have HQ5 : Hid (MyIs (fun c => c = A) w.heap.size w wc m k nn l' cs') := HQ.out.grown HB.out
          clear HQ HB HS HSq k0 kb hkl hbl hnl HLn
          obtain ⟨w5, hren⟩ : ∃ y, y = wc := ⟨_, rfl⟩
          subst hren
          go_wp2_with fail
          go_loopw [31] (fun c31 wq => ∃ c : Nat, c ≤ nn ∧ c31 = .int .i64 c ∧ Hid (MyIs (fun c => c = A) w.heap.size w wq m k nn l' cs')) (fun c31 _ => nn - (intOf c31).toNat)
          case atStart => exact ⟨0, Nat.zero_le _, rfl, HQ5⟩
          case round =>
            obtain ⟨c, hc, rfl, HQ⟩ := hrel
            clear HQ5
            by_cases hlt : c < nn
            · have hlti : (c : Int) < (nn : Int) := by omega
              have hcl : c < cs'.length := by have := HQ.out.len; omega
              have HX : Hid (mCacheO cs' (c : Int) = (cs'[c], 0)) := by
                show mCacheO cs' (c : Int) = _
                rw [mCacheO, if_pos (by rw [nodeB_iff]; omega), cacheN_at hcl]
              obtain ⟨S, h1', h2'⟩ := HQ.out.h.callM
              have HS : Hid _ := h1'
              clear h1' h2'
              go_wp2_with fail
              refine (mCache_o HS.out HQ.out.good HX.out).mono ?_
              rintro e w6 ⟨v, rfl, hr, _, hb⟩
              rw [eV_zeroN]
              have HQ6 : Hid (MyIs (fun c => c = A) w.heap.size w w6 m k nn l' cs') := HQ.out.grown hb
              have HR6 : Hid (RowIs w6 v cs'[c]) := hr
              clear hr hb HS HX HQ
              obtain ⟨b0, cc, k0, k1, _, hrows⟩ := HQ6.out.h.slots
              obtain ⟨v2, k2, hr2⟩ := hrows c hcl
              have HR2 : Hid (RowIs w6 v2 cs'[c]) := hr2
              rw [HQ6.out.len] at k1
              clear hrows hr2 k0
              have hkl := World.block_lt_of_cell? w6 _ k1
              have hbl := World.block_lt_of_cell? w6 _ k2
              go_wp2_with fail
              refine (sameY v v2 _ HR6.out HR2.out).mono ?_
              rintro e w7 ⟨rfl, hb⟩
              have HQ7 : Hid (MyIs (fun c => c = A) w.heap.size w w7 m k nn l' cs') := HQ6.out.grown hb
              clear hb k1 k2 hkl hbl HR6 HR2 HQ6
              go_wp2_with fail
              go_roundw
              case rel => exact ⟨c + 1, by omega, by go_num, HQ7⟩
              case measure => simp [intOf]; omega
            · obtain rfl : c = nn := by omega
              go_wp2_with fail
              go_roundw
              case rel => exact ⟨i + 1, _, _, by omega, by omega, by go_num, HQ.out.h.less (fun c hc => hc.elim), HQ.out.good, HQ.out.len⟩
              case measure => simp [intOf]; omega
        · by_cases h : i < ns
          · have hq5 : decide ((i : Int) < (ns : Int)) = true := by simp; omega
            have hq6 : decide ((i : Int) < 60) = false := by simp; omega
            go_wp2_with fail
            go_meet
            case rel => exact ⟨_, _, HR⟩
          · have hq5 : decide ((i : Int) < (ns : Int)) = false := by simp; omega
            go_wp2_with fail
            go_meet
            case rel => exact ⟨_, _, HR⟩
  case rest =>
  obtain ⟨l, cs, HQ⟩ := hcut
  clear M3
  have HX : Hid (mCacheO cs (nn : Int) = ([], 1)) := by
    have hl := HQ.out.len
    show mCacheO cs (nn : Int) = _
    rw [mCacheO, if_neg (by rw [nodeB_iff]; omega)]
  obtain ⟨S, h1', h2'⟩ := HQ.out.h.callM
  have HS : Hid _ := h1'
  clear h1' h2'
  go_wp2_with fail
  refine (mCache_o HS.out HQ.out.good HX.out).mono ?_
  rintro e w6 ⟨v, rfl, _, _, hb⟩
  have HQ6 : Hid (MyIs (fun _ => False) w.heap.size w w6 m k nn l cs) := HQ.out.grown hb
  clear hb HS HX HQ
  go_wp2_with fail
  refine (err_same 1 _ (HG.out.below HG.out.lt HQ6.out.h.bel)).mono ?_
  rintro e w7 ⟨rfl, hb⟩
  have B7 : Hid (Below w.heap.size w w7) := HQ6.out.h.bel.trans (hb.mono HQ6.out.h.hN)
  clear hb
  go_wp2_with fail
  go_ret
  exact ⟨rfl, B7.out⟩
end Go.Proofs.YtpcnfoaoajfhlaaGreatDoor
