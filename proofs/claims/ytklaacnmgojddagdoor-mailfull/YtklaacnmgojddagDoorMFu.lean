/-
  merelaw4.MailFull answers true, whatever comes in.
-/
import Derived.Test.YtklaacnmgojddagDoorMlL
import Derived.Test.YtklaacnmgojddagDoorErrA
import Derived.Deep.DeepCutAuto
import Derived.Deep.CutBlock
import Derived.Deep.LoopGhost
namespace Go.Proofs.YtklaacnmgojddagDoor
set_option linter.unusedVariables false
set_option linter.unusedSimpArgs false
open Go.RowKit

/-- the letter that is sent -/
def fullX (f d : Int) : Lt := ⟨f, d, ⟨1, 0, 0, true, ⟨#[]⟩⟩⟩
theorem fullX_bad (f d : Int) : (fullX f d).e.bad = 0 := by
  show bad 1 0 0 true ⟨#[]⟩ = 0
  decide +kernel
theorem full_send {f d : Int} {n : Nat} (hn : n < 40) : sendE n (fullX f d) = endsE f d := by
  by_cases h : endsE f d = 0
  · rw [sendE_ok h (fullX_bad f d) (by omega), h]
  · exact sendE_ends rfl h
theorem full_twice {x : Lt} {k : Nat} (h0 : 1 ≤ k) (h : k < 40) : twiceE (List.replicate k x).length 0 = 0 ∧ twiceL (List.replicate k x) 0 = List.replicate (k + 1) x := by
  have h1 : twiceE (List.replicate k x).length 0 = 0 := by
    rw [List.length_replicate, twiceE, if_pos (by simp; omega), if_neg (by omega)]
  refine ⟨h1, ?_⟩
  rw [twiceL, if_pos h1]
  obtain ⟨j, rfl⟩ : ∃ j, k = j + 1 := ⟨k - 1, by omega⟩
  rw [show List.drop (0 : Int).toNat (List.replicate (j + 1) x) = List.replicate (j + 1) x from rfl, show (List.replicate (j + 1) x).take 1 = [x] by simp [List.replicate_succ], ← List.replicate_succ']
theorem full_more {x : Lt} : twiceE (List.replicate 40 x).length 0 = 4 ∧ twiceL (List.replicate 40 x) 0 = List.replicate 40 x := by
  have h1 : twiceE (List.replicate 40 x).length 0 = 4 := by
    rw [List.length_replicate, twiceE, if_pos (by simp), if_pos (by omega)]
  refine ⟨h1, ?_⟩
  rw [twiceL, if_neg (by rw [h1]; omega)]

set_option maxRecDepth 100000 in
set_option maxHeartbeats 8000000 in
theorem full_w (f d n : Int) (w : World) (hg : HasErr w) :
    Calls Tryd.prog 6 #[.int .i64 f, .int .i64 d, .int .i64 n] w fun e w' => e = .returned (.bool true) ∧ Below w.heap.size w w' := by
  have HG : Hid (HasErr w) := hg
  have hlt := hg.lt
  clear hg
  obtain ⟨m, HMm⟩ : ∃ m, Hid (endsE f d = m) := ⟨_, rfl⟩
  go_enter Tryd.func6, Tryd.ntmps6
  go_wp2_with fail
  refine (mlNew_c _).mono ?_
  rintro e w1 ⟨b, rfl, ⟨S0, hm0, hS0⟩, hb⟩
  have B1 : Hid (Below w.heap.size w w1) := hb
  have M1 : Hid (Mw w.heap.size w1.heap.size w (w1.alloc (.cells #[.int .i64 f, .int .i64 d, .int .i64 1, .int .i64 0, .int .i64 0, .bool true, .string ⟨#[]⟩] 57)) b [] (fun _ _ => false)) := by
    refine ⟨⟨S0, hm0.grown (by go_grown), hS0, fun h => ?_⟩, hb.alloc hb.size _, ?_, ?_⟩
    · have := hm0.lt _ h
      omega
    · have := hb.size
      simp
      omega
    · simp
  have X1 : Hid (BoxL (w1.alloc (.cells #[.int .i64 f, .int .i64 d, .int .i64 1, .int .i64 0, .int .i64 0, .bool true, .string ⟨#[]⟩] 57)) w1.heap.size f d 1 0 0 true ⟨#[]⟩) := boxL_new w1 _ _ _ _ _ _ _ _ rfl
  clear hb hm0 hS0
  go_upto_region 3 with fail
  generalize (w1.alloc (.cells #[.int .i64 f, .int .i64 d, .int .i64 1, .int .i64 0, .int .i64 0, .bool true, .string ⟨#[]⟩] 57)) = w2 at M1 X1 ⊢
  obtain ⟨X, HX⟩ : ∃ X, Hid (w1.heap.size = X) := ⟨_, rfl⟩
  rw [HX.out] at M1 X1 ⊢
  clear HX B1
  obtain ⟨S1, HS1, HC1⟩ := M1.out.call
  have HC1' : Hid _ := HC1
  have HS1' : Hid _ := HS1
  clear HC1 HS1
  obtain ⟨x0, x1, x2, x3, x4, x5, x6, xf⟩ := X1.out
  by_cases hm : m = 0
  · have HE : Hid (endsE f d = 0) := by show _ = _; rw [HMm.out, hm]
    have HSE : Hid (sendE ([] : List Lt).length ⟨f, d, ⟨1, 0, 0, true, ⟨#[]⟩⟩⟩ = 0) := (full_send (f := f) (d := d) (n := 0) (by omega)).trans HE.out
    have HSL : Hid (sendL [] (fun _ _ => false) ⟨f, d, ⟨1, 0, 0, true, ⟨#[]⟩⟩⟩ = List.replicate 1 (fullX f d)) := by
      show _ = _
      rw [sendL, if_pos ⟨HSE.out, rfl⟩]
      rfl
    clear hm HMm
    by_cases hn : 1 ≤ n ∧ n ≤ 60
    · obtain ⟨N, rfl, hN⟩ : ∃ N : Nat, n = N ∧ N ≤ 60 := ⟨n.toNat, by omega, by omega⟩
      have hN1 : 1 ≤ N := by omega
      have hd1 : decide ((N : Int) < 1) = false := by simp; omega
      have hd2 : decide ((60 : Int) < (N : Int)) = false := by simp; omega
      clear hn
      go_wp2_with fail
      refine (mlSend_n HS1'.out HSE.out HSL.out).mono ?_
      rintro e w3 ⟨rfl, ht⟩
      rw [eV_nil rfl]
      obtain ⟨hM3, hX3⟩ := HC1'.out _ _ _ ht
      have M3 : Hid _ := hM3
      have X3 : Hid _ := X1.out.of_block hX3
      clear ht hM3 hX3 x0 x1 x2 x3 x4 x5 x6 xf
      clear X1 M1 HSE HSL HS1' HC1'
      go_wp2_with fail
      go_loopw [9] (fun i wr => ∃ j : Nat, 1 ≤ j ∧ j ≤ N ∧ i = .int .i64 j ∧ Hid (Mw w.heap.size X w wr b (List.replicate (min j 40) (fullX f d)) (fun _ _ => false)) ∧ Hid (BoxL wr X f d 1 0 0 true ⟨#[]⟩)) (fun i _ => N - (intOf i).toNat)
      case atStart => exact ⟨1, by omega, hN1, rfl, M3, X3⟩
      case round =>
        obtain ⟨j, hj1, hjN, rfl, MJ, XJ⟩ := hrel
        clear M3 X3
        obtain ⟨S4, hS4, hC4⟩ := MJ.out.call
        have HS4 : Hid _ := hS4
        have HC4 : Hid _ := hC4
        clear hS4 hC4
        by_cases hlt1 : j < N
        · have hji : (j : Int) < (N : Int) := by omega
          by_cases h40 : j < 40
          · have hj40 : (j : Int) < 40 := by omega
            have hmin : min j 40 = j := by omega
            have hmin' : Hid (j + 1 = min (j + 1) 40) := by show _ = _; omega
            rw [hmin] at HS4
            clear hmin
            have HT := full_twice (x := fullX f d) hj1 h40
            have HT1 : Hid _ := HT.1
            have HT2 : Hid _ := HT.2
            clear HT
            go_wp2_with fail
            refine (mlTwice_n HS4.out HT1.out HT2.out).mono ?_
            rintro e w5 ⟨rfl, ht⟩
            rw [eV_nil rfl]
            obtain ⟨hM5, hX5⟩ := HC4.out _ _ _ ht
            have M5 : Hid _ := hM5
            have X5 : Hid _ := XJ.out.of_block hX5
            clear ht hM5 hX5
            go_wp2_with fail
            go_roundw
            case rel => exact ⟨j + 1, by omega, by omega, by go_num, by rw [← hmin'.out]; exact M5, X5⟩
            case measure => simp [intOf]; omega
          · have hj40 : ¬ (j : Int) < 40 := by omega
            have hmin : min j 40 = 40 := by omega
            have hmin' : Hid (40 = min (j + 1) 40) := by show _ = _; omega
            rw [hmin] at HS4
            clear hmin
            have HT1 : Hid _ := (full_more (x := fullX f d)).1
            have HT2 : Hid _ := (full_more (x := fullX f d)).2
            go_wp2_with fail
            refine (mlTwice_n HS4.out HT1.out HT2.out).mono ?_
            rintro e w5 ⟨rfl, ht⟩
            rw [eV_not (by omega)]
            obtain ⟨hM5, hX5⟩ := HC4.out _ _ _ ht
            have M5 : Hid _ := hM5
            have X5 : Hid _ := XJ.out.of_block hX5
            clear ht hM5 hX5
            go_wp2_with fail
            have hs := err_same 4 w5 (HG.out.below hlt M5.out.bel)
            rw [eV_not (by omega)] at hs
            refine hs.mono ?_
            rintro e w6 ⟨rfl, hb⟩
            have M6 : Hid _ := M5.out.grown hb
            have X6 : Hid _ := X5.out.grown hb
            clear hb hs
            go_wp2_with fail
            go_roundw
            case rel => exact ⟨j + 1, by omega, by omega, by go_num, by rw [← hmin'.out]; exact M6, X6⟩
            case measure => simp [intOf]; omega
        · obtain rfl : j = N := by omega
          obtain ⟨k, hk⟩ : ∃ k, min j 40 = k + 1 := ⟨min j 40 - 1, by omega⟩
          have hk40 : k < 40 := by omega
          rw [hk] at HS4
          clear hk
          go_wp2_with fail
          refine (mlGive_ok 0 (by simp) HS4.out f d 1 0 0 true ⟨#[]⟩ (by simp [fullX])).mono ?_
          rintro e w5 ⟨rfl, ht⟩
          obtain ⟨hM5, hX5⟩ := HC4.out _ _ _ ht
          have M5 : Hid (Mw w.heap.size X w w5 b (List.replicate k (fullX f d)) (fun _ _ => false)) := by
            have h1 : (List.replicate (k + 1) (fullX f d)).eraseIdx 0 = List.replicate k (fullX f d) := by simp [List.replicate_succ]
            rw [h1] at hM5
            exact hM5
          have X5 : Hid _ := XJ.out.of_block hX5
          clear ht hM5 hX5 MJ XJ HS4 HC4
          go_upto_region 12 with fail
          have M6 : Hid (Mw w.heap.size X w (w5.alloc (.cells #[.int .i64 f, .int .i64 d, .int .i64 1, .int .i64 0, .int .i64 0, .bool true, .string ⟨#[]⟩] 57)) b (List.replicate k (fullX f d)) (fun _ _ => false)) := M5.out.grown (by go_grown)
          have X6 : Hid (BoxL (w5.alloc (.cells #[.int .i64 f, .int .i64 d, .int .i64 1, .int .i64 0, .int .i64 0, .bool true, .string ⟨#[]⟩] 57)) X f d 1 0 0 true ⟨#[]⟩) := X5.out.alloc _
          have Y6 : Hid (BoxL (w5.alloc (.cells #[.int .i64 f, .int .i64 d, .int .i64 1, .int .i64 0, .int .i64 0, .bool true, .string ⟨#[]⟩] 57)) w5.heap.size f d 1 0 0 true ⟨#[]⟩) := boxL_new w5 _ _ _ _ _ _ _ _ rfl
          generalize (w5.alloc (.cells #[.int .i64 f, .int .i64 d, .int .i64 1, .int .i64 0, .int .i64 0, .bool true, .string ⟨#[]⟩] 57)) = w6 at M6 X6 Y6 ⊢
          obtain ⟨x0, x1, x2, x3, x4, x5, x6, xf⟩ := X6.out
          obtain ⟨y0, y1, y2, y3, y4, y5, y6, yf⟩ := Y6.out
          have heq := eql_lt ⟨f, d, ⟨1, 0, 0, true, ⟨#[]⟩⟩⟩ ⟨f, d, ⟨1, 0, 0, true, ⟨#[]⟩⟩⟩ true (Lt.same_self _)
          dsimp only at heq
          have hgd := eqGuard_lt
          have HSE : Hid (sendE (List.replicate k (fullX f d)).length ⟨f, d, ⟨1, 0, 0, true, ⟨#[]⟩⟩⟩ = 0) := by
            show _ = _
            rw [List.length_replicate]
            exact (full_send hk40).trans HE.out
          obtain ⟨S7, hS7, hC7⟩ := M6.out.call
          have HS7 : Hid _ := hS7
          have HC7 : Hid _ := hC7
          clear hS7 hC7
          go_wp2_with fail
          refine (mlSend_n HS7.out HSE.out rfl).mono ?_
          rintro e w7 ⟨rfl, ht⟩
          rw [eV_nil rfl]
          obtain ⟨hM7, _⟩ := HC7.out _ _ _ ht
          have B7 : Hid _ := hM7.bel
          clear ht hM7
          go_wp2_with fail
          go_ret
          exact ⟨rfl, B7.out⟩
    · have HS : Hid (decide (n < 1) = true ∨ decide (n < 1) = false ∧ decide (60 < n) = true) := by
        show _ ∨ _
        simp
        omega
      clear hn
      rcases HS.out with hd | ⟨hd, hd2⟩
      · go_wp2_with fail
        refine (mlSend_n HS1'.out HSE.out HSL.out).mono ?_
        rintro e w3 ⟨rfl, ht⟩
        rw [eV_nil rfl]
        obtain ⟨hM3, hX3⟩ := HC1'.out _ _ _ ht
        have M3 : Hid _ := hM3
        have X3 : Hid _ := X1.out.of_block hX3
        clear ht hM3 hX3 x0 x1 x2 x3 x4 x5 x6 xf
        go_wp2_with fail
        obtain ⟨S3, hS3, _⟩ := M3.out.call
        refine (mlCount_c hS3 rfl).mono ?_
        rintro e w4 ⟨rfl, rfl⟩
        go_wp2_with fail
        go_ret
        exact ⟨rfl, M3.out.bel⟩
      · go_wp2_with fail
        refine (mlSend_n HS1'.out HSE.out HSL.out).mono ?_
        rintro e w3 ⟨rfl, ht⟩
        rw [eV_nil rfl]
        obtain ⟨hM3, hX3⟩ := HC1'.out _ _ _ ht
        have M3 : Hid _ := hM3
        have X3 : Hid _ := X1.out.of_block hX3
        clear ht hM3 hX3 x0 x1 x2 x3 x4 x5 x6 xf
        go_wp2_with fail
        obtain ⟨S3, hS3, _⟩ := M3.out.call
        refine (mlCount_c hS3 rfl).mono ?_
        rintro e w4 ⟨rfl, rfl⟩
        go_wp2_with fail
        go_ret
        exact ⟨rfl, M3.out.bel⟩
  · have HSE : Hid (sendE ([] : List Lt).length ⟨f, d, ⟨1, 0, 0, true, ⟨#[]⟩⟩⟩ = m) := (full_send (f := f) (d := d) (n := 0) (by omega)).trans HMm.out
    have HSL : Hid (sendL [] (fun _ _ => false) ⟨f, d, ⟨1, 0, 0, true, ⟨#[]⟩⟩⟩ = []) := by
      show _ = _
      rw [sendL, if_neg (fun h => hm (HSE.out.symm.trans h.1))]
    go_wp2_with fail
    refine (mlSend_n HS1'.out HSE.out HSL.out).mono ?_
    rintro e w3 ⟨rfl, ht⟩
    rw [eV_not hm]
    obtain ⟨hM3, _⟩ := HC1'.out _ _ _ ht
    have M3 : Hid _ := hM3
    clear ht hM3 x0 x1 x2 x3 x4 x5 x6 xf
    go_wp2_with fail
    obtain ⟨S3, hS3, _⟩ := M3.out.call
    refine (mlCount_c hS3 rfl).mono ?_
    rintro e w4 ⟨rfl, rfl⟩
    go_wp2_with fail
    go_ret
    exact ⟨rfl, M3.out.bel⟩
end Go.Proofs.YtklaacnmgojddagDoor
