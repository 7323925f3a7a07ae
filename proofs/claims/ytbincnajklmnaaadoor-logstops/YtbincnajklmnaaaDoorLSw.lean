/-
  merelaw3.LogStops answers true, whatever the numbers.
-/
import Derived.Test.YtbincnajklmnaaaDoorLgO
import Derived.Deep.CutBlock
import Derived.Deep.LoopGhost
namespace Go.Proofs.YtbincnajklmnaaaDoor
set_option linter.unusedVariables false
set_option linter.unusedSimpArgs false
open Go.RowKit

theorem put_eight (l : List Deed) (t : ByteArray) : putO l 8 t = ⟨l, 0, 1⟩ := by
  unfold putO
  rw [if_pos (by decide)]
/-- what the first loop carries behind s steps -/
def LsA (N : Nat) (w0 wr : World) (j A s : Nat) : Prop :=
  (s ≤ A ∧ Lh N w0 wr j (List.replicate s oneX) [] 0 ((A : Int) - (s : Int)) false) ∨ (A < s ∧ Lh N w0 wr j (List.replicate A oneX) [1] 0 0 true)
/-- what the second loop carries -/
def LsB (N : Nat) (w0 wr : World) (j A M s : Nat) : Prop :=
  (s ≤ A ∧ ∃ sf, sf ≤ 3 * M ∧ M ≤ 20 ∧ Lh N w0 wr j (List.replicate M oneX) [] sf ((A : Int) - (s : Int)) false) ∨ (A < s ∧ ∃ L p sf, L ≤ 20 ∧ (p = [] ∨ p = [1]) ∧ sf ≤ 3 * L ∧ Lh N w0 wr j (List.replicate L oneX) p sf 0 true)
theorem part_one : Part [1] := ⟨oneX, 1, by decide, by decide⟩
theorem flat_small (s : Nat) : ∀ x ∈ flatD (List.replicate s oneX), x < 256 := by
  induction s with
  | zero => intro x hx; cases hx
  | succ s ih =>
    intro x hx
    rw [List.replicate_succ, flatD] at hx
    rcases List.mem_append.1 hx with h | h
    · have e : encD oneX = [1, 1, 120] := by decide
      rw [e] at h
      simp at h
      omega
    · exact ih x h
theorem put_five (s : Nat) (h : s < 1000) : putO (List.replicate s oneX) 5 ⟨#[121]⟩ = ⟨List.replicate s oneX ++ [⟨5, false, ⟨#[121]⟩⟩], (s : Int) + 1, 0⟩ := by
  unfold putO recO
  rw [if_neg (by decide), if_neg (by decide), List.length_replicate, if_neg (by omega)]
theorem read_five (s : Nat) : (atO (List.replicate s oneX ++ [⟨5, false, ⟨#[121]⟩⟩]) 5 (List.replicate s oneX ++ [(⟨5, false, ⟨#[121]⟩⟩ : Deed)]).length).1 = ⟨5, (s : Int) + 1, (s : Int) + 1, false, ⟨#[121]⟩⟩ ∧ (atO (List.replicate s oneX ++ [⟨5, false, ⟨#[121]⟩⟩]) 5 (List.replicate s oneX ++ [(⟨5, false, ⟨#[121]⟩⟩ : Deed)]).length).2 = 0 := by
  have hl : (List.replicate s oneX ++ [(⟨5, false, ⟨#[121]⟩⟩ : Deed)]).length = s + 1 := by simp
  rw [atO, if_pos ⟨by decide, by omega, by omega⟩, entAt, Int.toNat_natCast, List.take_length, lastOf_snoc, if_pos rfl, hl, List.length_replicate]
  exact ⟨by simp, rfl⟩
/-- the crash of such a log -/
theorem crash_rep (L K : Nat) {p : List Nat} (hp : p = [] ∨ p = [1]) : ∃ q p', q ≤ L ∧ (flatD (List.replicate L oneX) ++ p).take K = flatD (List.replicate q oneX) ++ p' ∧ NoRec p' ∧ (∀ x ∈ p', x < 256) ∧ (List.replicate L oneX).take q = List.replicate q oneX := by
  have hpp : Part p := by
    rcases hp with rfl | rfl
    · exact part_nil
    · exact part_one
  obtain ⟨m, p', h1, h2, h3, _, _⟩ := cut_bytes (List.replicate L oneX) hpp K
  rw [List.length_replicate] at h1
  have e : (List.replicate L oneX).take m = List.replicate m oneX := by rw [take_rep, Nat.min_eq_left h1]
  rw [e] at h3
  refine ⟨m, p', h1, h3, h2.no, fun x hx => ?_, e⟩
  have hx' : x ∈ (flatD (List.replicate L oneX) ++ p).take K := by rw [h3]; exact List.mem_append_right _ hx
  rcases List.mem_append.1 (List.mem_of_mem_take hx') with h | h
  · exact flat_small L x h
  · rcases hp with rfl | rfl
    · cases h
    · simp at h; omega
set_option maxRecDepth 100000 in
set_option maxHeartbeats 16000000 in
theorem lstops_w (after many keep : Int) (w : World) (hg : HasErr w) :
    Calls Tryd.prog 4 #[.int .i64 after, .int .i64 many, .int .i64 keep] w fun e w' => e = .returned (.bool true) ∧ Below w.heap.size w w' := by
  have HG : Hid (HasErr w) := hg
  clear hg
  by_cases h1 : after < 0
  · go_enter Tryd.func4, Tryd.ntmps4
    go_wp2_with fail
    go_ret
    exact ⟨rfl, Below.refl _ _⟩
  by_cases h2 : 20 < after
  · have hd1 : decide (after < 0) = false := by simpa using h1
    have hd2 : decide (20 < after) = true := by simpa using h2
    go_enter Tryd.func4, Tryd.ntmps4
    go_wp2_with fail
    go_ret
    exact ⟨rfl, Below.refl _ _⟩
  by_cases h3 : many < 0
  · have hd1 : decide (after < 0) = false := by simpa using h1
    have hd2 : decide (20 < after) = false := by simpa using h2
    have hd3 : decide (many < 0) = true := by simpa using h3
    go_enter Tryd.func4, Tryd.ntmps4
    go_wp2_with fail
    go_ret
    exact ⟨rfl, Below.refl _ _⟩
  by_cases h4 : 20 < many
  · have hd1 : decide (after < 0) = false := by simpa using h1
    have hd2 : decide (20 < after) = false := by simpa using h2
    have hd3 : decide (many < 0) = false := by simpa using h3
    have hd4 : decide (20 < many) = true := by simpa using h4
    go_enter Tryd.func4, Tryd.ntmps4
    go_wp2_with fail
    go_ret
    exact ⟨rfl, Below.refl _ _⟩
  obtain ⟨A, rfl⟩ : ∃ k : Nat, after = k := ⟨after.toNat, by omega⟩
  obtain ⟨M, rfl⟩ : ∃ k : Nat, many = k := ⟨many.toNat, by omega⟩
  have hA : A ≤ 20 := by omega
  have hM : M ≤ 20 := by omega
  have hd1 : decide ((A : Int) < 0) = false := by simp
  have hd2 : decide ((20 : Int) < (A : Int)) = false := by simpa using h2
  have hd3 : decide ((M : Int) < 0) = false := by simp
  have hd4 : decide ((20 : Int) < (M : Int)) = false := by simpa using h4
  clear h1 h2 h3 h4
  go_enter Tryd.func4, Tryd.ntmps4
  go_wp2_with fail
  refine (lgNew_c w).mono ?_
  rintro e w1 ⟨j, rfl, ⟨S, hm, hS⟩, hb⟩
  have H1 : Hid (Lh w.heap.size w w1 j [] [] 0 (-1) false) := ⟨⟨S, hm, hS⟩, hb, hb.size⟩
  clear hm hS hb hd1 hd2 hd3 hd4
  obtain ⟨S, h1', h2'⟩ := H1.out.call
  have HS : Hid _ := h1'
  have HC : Hid _ := h2'
  clear h1' h2' H1
  go_wp2_with fail
  refine (lgFail_c (A : Int) HS.out).mono ?_
  rintro e w2 ⟨rfl, hto⟩
  have H2 : Hid (LsA w.heap.size w w2 j A 0) := .inl ⟨Nat.zero_le _, by have h := HC.out _ _ _ _ _ _ hto; rw [show (A : Int) - ((0 : Nat) : Int) = (A : Int) by omega]; exact h⟩
  clear hto HS HC
  go_upto_block 0 with fail
  go_cut [8, 9, 10, 11, 12, 13, 14, 15, 16] (fun c8 _ _ _ _ _ _ _ _ wd => c8 = .int .i64 M ∧ Hid (LsA w.heap.size w wd j A M))
  case first =>
    go_wp2_with fail
    go_loopw [8, 9] (fun c8 c9 wr => ∃ s : Nat, s ≤ M ∧ c8 = .int .i64 s ∧ c9 = .int .i64 s ∧ Hid (LsA w.heap.size w wr j A s)) (fun _ c9 _ => M - (intOf c9).toNat)
    case atStart => exact ⟨0, Nat.zero_le _, rfl, rfl, H2⟩
    case round =>
      obtain ⟨s, hs, rfl, rfl, HL⟩ := hrel
      clear H2
      by_cases hlt : s < M
      · have hlti : (s : Int) < (M : Int) := by omega
        rcases HL.out with ⟨hsA, hl⟩ | ⟨hsA, hl⟩
        · have HL1 : Hid (Lh w.heap.size w wr j (List.replicate s oneX) [] 0 ((A : Int) - (s : Int)) false) := hl
          have HRs : Hid ((flatD (List.replicate s oneX)).length ≤ 50000) := by show _ ≤ _; rw [flat_rep]; omega
          obtain ⟨S, h1', h2'⟩ := HL1.out.call
          have HS : Hid _ := h1'
          have HC : Hid _ := h2'
          clear h1' h2' HL1 HL hl
          go_wp2_with fail
          refine (lgPut_c (t := ⟨#[120]⟩) (by unfold maxLen; decide) HS.out HRs.out (by omega) (fun e => absurd e (by omega)) (put_eight _ _) (fun _ => ⟨rfl, rfl⟩) (fun e => absurd e (by omega))).mono ?_
          rw [if_neg (by omega), errN (by omega)]
          rintro e w3 ⟨rfl, hto⟩
          have HL2 : Hid (Lh w.heap.size w w3 j (List.replicate s oneX) [] 0 ((A : Int) - (s : Int)) false) := HC.out _ _ _ _ _ _ hto
          clear hto HS HC
          obtain ⟨S, h1', h2'⟩ := HL2.out.call
          have HS : Hid _ := h1'
          have HC : Hid _ := h2'
          clear h1' h2' HL2
          by_cases hsa : s < A
          · have hne : (A : Int) - (s : Int) ≠ 0 := by omega
            have HNe : Hid ((A : Int) - (s : Int) ≠ 0 ∧ (A : Int) - (s : Int) ≤ 9223372036854775807) := ⟨hne, by omega⟩
            have HLf : Hid (lfN ((A : Int) - (s : Int)) = (A : Int) - ((s + 1 : Nat) : Int)) := by show _ = _; rw [lfN]; split <;> omega
            have HPm : Hid (putO (List.replicate s oneX) 1 ⟨#[120]⟩ = ⟨List.replicate (s + 1) oneX, (s : Int) + 1, 0⟩) := put_more s (by omega)
            clear hne
            go_wp2_with fail
            refine (lgPut_c (t := ⟨#[120]⟩) (by unfold maxLen; decide) HS.out HRs.out HNe.out.2 (fun _ => HNe.out.1) HPm.out (fun e => absurd rfl e) (fun _ => ⟨by rw [List.replicate_succ']; rfl, by omega, by omega, by decide⟩)).mono ?_
            rw [if_pos rfl, errZ, HLf.out]
            rintro e w4 ⟨rfl, hto⟩
            have HL4 : Hid (Lh w.heap.size w w4 j (List.replicate (s + 1) oneX) [] 0 ((A : Int) - ((s + 1 : Nat) : Int)) false) := HC.out _ _ _ _ _ _ hto
            clear hto HS HC HNe HLf HPm
            go_wp2_with fail
            refine (error_err 1 6 _ (HG.out.below HG.out.lt HL4.out.bel)).mono ?_
            rintro e w5 ⟨rfl, hb⟩
            rw [show ((1 : Int) == 6) = false from rfl]
            have E1 : Hid _ := HL4.out.grown hb
            clear hb
            go_wp2_with fail
            refine (error_err 1 1 _ (HG.out.below HG.out.lt E1.out.bel)).mono ?_
            rintro e w6 ⟨rfl, hb⟩
            rw [show ((1 : Int) == 1) = true from rfl]
            have E2 : Hid _ := E1.out.grown hb
            clear hb
            go_wp2_with fail
            refine (error_nil 6 _).mono ?_
            rintro e w7 ⟨rfl, hw⟩
            rw [show ((0 : Int) == 6) = false from rfl]
            have hb : Below w6.heap.size w6 w7 := by rw [hw]; exact Below.refl _ _
            have E3 : Hid _ := E2.out.grown hb
            clear hb hw
            have hq1 : decide ((A : Int) < (s : Int)) = false := by simp; omega
            have hq2 : decide ((s : Int) ≤ (A : Int)) = true := by simp; omega
            have hq3 : ((s : Int) == (A : Int)) = false := by simp; omega
            have hq4 : decide ((s : Int) < (A : Int)) = true := by simp; omega
            go_wp2_with fail
            go_roundw
            case rel => exact ⟨s + 1, by omega, by go_num, by go_num, .inl ⟨by omega, E3.out⟩⟩
            case measure => simp [intOf] <;> omega
          · obtain rfl : s = A := by omega
            rw [show (s : Int) - (s : Int) = 0 by omega] at HS
            have HPm : Hid (putO (List.replicate s oneX) 1 ⟨#[120]⟩ = ⟨List.replicate (s + 1) oneX, (s : Int) + 1, 0⟩) := put_more s (by omega)
            go_wp2_with fail
            refine (lgPut_stop (t := ⟨#[120]⟩) (by unfold maxLen; decide) HS.out HRs.out (fits_rep s (by omega)) (rep_ok s).1 (rep_ok s).2 HPm.out ⟨by omega, by omega, by decide⟩).mono ?_
            rw [errN (by omega)]
            rintro e w4 ⟨rfl, hto⟩
            have HL4 : Hid (Lh w.heap.size w w4 j (List.replicate s oneX) [1] 0 0 true) := HC.out _ _ _ _ _ _ hto
            clear hto HS HC HPm
            go_wp2_with fail
            refine (error_err 1 6 _ (HG.out.below HG.out.lt HL4.out.bel)).mono ?_
            rintro e w5 ⟨rfl, hb⟩
            rw [show ((1 : Int) == 6) = false from rfl]
            have E1 : Hid _ := HL4.out.grown hb
            clear hb
            go_wp2_with fail
            refine (error_err 1 1 _ (HG.out.below HG.out.lt E1.out.bel)).mono ?_
            rintro e w6 ⟨rfl, hb⟩
            rw [show ((1 : Int) == 1) = true from rfl]
            have E2 : Hid _ := E1.out.grown hb
            clear hb
            go_wp2_with fail
            refine (error_err 6 6 _ (HG.out.below HG.out.lt E2.out.bel)).mono ?_
            rintro e w7 ⟨rfl, hb⟩
            rw [show ((6 : Int) == 6) = true from rfl]
            have E3 : Hid _ := E2.out.grown hb
            clear hb
            have hq1 : decide ((s : Int) < (s : Int)) = false := by simp
            have hq2 : decide ((s : Int) ≤ (s : Int)) = true := by simp
            go_wp2_with fail
            go_roundw
            case rel => exact ⟨s + 1, by omega, by go_num, by go_num, .inr ⟨by omega, E3.out⟩⟩
            case measure => simp [intOf] <;> omega
        · have HL1 : Hid (Lh w.heap.size w wr j (List.replicate A oneX) [1] 0 0 true) := hl
          obtain ⟨S, h1', h2'⟩ := HL1.out.call
          have HS : Hid _ := h1'
          have HC : Hid _ := h2'
          clear h1' h2' HL1 HL hl
          go_wp2_with fail
          refine (lgPut_stopped HS.out).mono ?_
          rw [errN (by omega)]
          rintro e w3 ⟨rfl, hto⟩
          have HL2 : Hid (Lh w.heap.size w w3 j (List.replicate A oneX) [1] 0 0 true) := HC.out _ _ _ _ _ _ hto
          clear hto HS HC
          obtain ⟨S, h1', h2'⟩ := HL2.out.call
          have HS : Hid _ := h1'
          have HC : Hid _ := h2'
          clear h1' h2' HL2
          go_wp2_with fail
          refine (lgPut_stopped HS.out).mono ?_
          rw [errN (by omega)]
          rintro e w4 ⟨rfl, hto⟩
          have HL4 : Hid (Lh w.heap.size w w4 j (List.replicate A oneX) [1] 0 0 true) := HC.out _ _ _ _ _ _ hto
          clear hto HS HC
          go_wp2_with fail
          refine (error_err 6 6 _ (HG.out.below HG.out.lt HL4.out.bel)).mono ?_
          rintro e w5 ⟨rfl, hb⟩
          rw [show ((6 : Int) == 6) = true from rfl]
          have E1 : Hid _ := HL4.out.grown hb
          clear hb
          go_wp2_with fail
          refine (error_err 6 1 _ (HG.out.below HG.out.lt E1.out.bel)).mono ?_
          rintro e w6 ⟨rfl, hb⟩
          rw [show ((6 : Int) == 1) = false from rfl]
          have E2 : Hid _ := E1.out.grown hb
          clear hb
          go_wp2_with fail
          refine (error_err 6 6 _ (HG.out.below HG.out.lt E2.out.bel)).mono ?_
          rintro e w7 ⟨rfl, hb⟩
          rw [show ((6 : Int) == 6) = true from rfl]
          have E3 : Hid _ := E2.out.grown hb
          clear hb
          have hq1 : decide ((A : Int) < (s : Int)) = true := by simp; omega
          have hq2 : decide ((s : Int) ≤ (A : Int)) = false := by simp; omega
          have hq3 : ((s : Int) == (A : Int)) = false := by simp; omega
          have hq4 : decide ((s : Int) < (A : Int)) = false := by simp; omega
          go_wp2_with fail
          go_roundw
          case rel => exact ⟨s + 1, by omega, by go_num, by go_num, .inr ⟨by omega, E3.out⟩⟩
          case measure => simp [intOf] <;> omega
      · obtain rfl : s = M := by omega
        go_wp2_with fail
        go_meet
        case rel => exact ⟨rfl, HL⟩
  case rest =>
  obtain ⟨h8, HL⟩ := hcut
  obtain ⟨w3, hren⟩ : ∃ x, x = wc := ⟨_, rfl⟩
  subst hren
  subst h8
  clear H2
  have H3 : Hid (LsB w.heap.size w w3 j A M M) := by
    rcases HL.out with ⟨h1, h2⟩ | ⟨h1, h2⟩
    · exact .inl ⟨h1, 0, by omega, hM, h2⟩
    · exact .inr ⟨h1, A, [1], 0, hA, .inr rfl, by omega, h2⟩
  clear HL
  go_upto_block 2 with fail
  go_cut [8, 17] (fun _ _ wd => ∃ (L : Nat) (p : List Nat) (sf : Nat), L ≤ 20 ∧ Hid (p = [] ∨ p = [1]) ∧ Hid (sf ≤ 3 * L) ∧ Hid (Lh w.heap.size w wd j (List.replicate L oneX) p sf 0 true))
  case first =>
    go_wp2_with fail
    go_loopw [8] (fun c8 wr => ∃ s : Nat, s ≤ 42 ∧ c8 = .int .i64 s ∧ Hid (LsB w.heap.size w wr j A M s)) (fun c8 _ => A + 1 - (intOf c8).toNat)
    case atStart => exact ⟨M, by omega, rfl, H3⟩
    case round =>
      obtain ⟨s, hs, rfl, HL⟩ := hrel
      clear H3
      by_cases hsA : s ≤ A
      · have hq2 : decide ((s : Int) ≤ (A : Int)) = true := by simp; omega
        rcases HL.out with ⟨_, sf, hsf, _, hl⟩ | ⟨h, _⟩
        · have HL1 : Hid (Lh w.heap.size w wr j (List.replicate M oneX) [] sf ((A : Int) - (s : Int)) false) := hl
          have HSf : Hid (sf ≤ 3 * M) := hsf
          obtain ⟨S, h1', h2'⟩ := HL1.out.call
          have HS : Hid _ := h1'
          have HC : Hid _ := h2'
          clear h1' h2' HL1 HL hl hsf
          by_cases hsa : s < A
          · have HNe : Hid ((A : Int) - (s : Int) ≠ 0 ∧ (A : Int) - (s : Int) ≤ 9223372036854775807) := ⟨by omega, by omega⟩
            have HLf : Hid (lfN ((A : Int) - (s : Int)) = (A : Int) - ((s + 1 : Nat) : Int)) := by show _ = _; rw [lfN]; split <;> omega
            have hq3 : ((s : Int) == (A : Int)) = false := by simp; omega
            go_wp2_with fail
            refine (lgSync_go (n := 3 * M) HS.out HNe.out.1 HNe.out.2 (by rw [List.append_nil, flat_rep])).mono ?_
            rw [HLf.out]
            rintro e w5 ⟨rfl, hto⟩
            have HL5 : Hid (Lh w.heap.size w w5 j (List.replicate M oneX) [] (3 * M) ((A : Int) - ((s + 1 : Nat) : Int)) false) := HC.out _ _ _ _ _ _ hto
            clear hto HS HC HNe HLf
            go_wp2_with fail
            go_roundw
            case rel => exact ⟨s + 1, by omega, by go_num, .inl ⟨by omega, 3 * M, by omega, hM, HL5.out⟩⟩
            case measure => simp [intOf] <;> omega
          · obtain rfl : s = A := by omega
            rw [show (s : Int) - (s : Int) = 0 by omega] at HS
            go_wp2_with fail
            refine (lgSync_stop HS.out).mono ?_
            rw [errN (by omega)]
            rintro e w5 ⟨rfl, hto⟩
            have HL5 : Hid (Lh w.heap.size w w5 j (List.replicate M oneX) [] sf 0 true) := HC.out _ _ _ _ _ _ hto
            clear hto HS HC
            go_wp2_with fail
            go_roundw
            case rel => exact ⟨s + 1, by omega, by go_num, .inr ⟨by omega, M, [], sf, hM, .inl rfl, HSf.out, HL5.out⟩⟩
            case measure => simp [intOf] <;> omega
        · omega
      · have hq2 : decide ((s : Int) ≤ (A : Int)) = false := by simp; omega
        rcases HL.out with ⟨h, _⟩ | ⟨_, L, p, sf, h1, h2, h3, h4⟩
        · omega
        · have HF : Hid (L ≤ 20 ∧ (p = [] ∨ p = [1]) ∧ sf ≤ 3 * L ∧ Lh w.heap.size w wr j (List.replicate L oneX) p sf 0 true) := ⟨h1, h2, h3, h4⟩
          clear h1 h2 h3 h4 HL
          go_wp2_with fail
          go_meet
          case rel => exact ⟨L, p, sf, HF.out.1, HF.out.2.1, HF.out.2.2.1, HF.out.2.2.2⟩
  case rest =>
  obtain ⟨L, p, sf, hL, HPp, HSf, H5⟩ := hcut
  obtain ⟨w5, hren⟩ : ∃ x, x = wc := ⟨_, rfl⟩
  subst hren
  clear H3
  obtain ⟨S, h1', h2'⟩ := H5.out.call
  have HS : Hid _ := h1'
  have HC : Hid _ := h2'
  clear h1' h2' H5
  go_wp2_with fail
  refine (lgSync_stopped HS.out).mono ?_
  rw [errN (by omega)]
  rintro e w' ⟨rfl, hw⟩
  rw [hw]
  clear hw w'
  go_wp2_with fail
  refine (lgDel_stopped HS.out).mono ?_
  rw [errN (by omega)]
  rintro e w6 ⟨rfl, hto⟩
  have H6 : Hid (Lh w.heap.size w w6 j (List.replicate L oneX) p sf 0 true) := HC.out _ _ _ _ _ _ hto
  clear hto HS HC
  go_wp2_with fail
  refine (error_err 6 6 _ (HG.out.below HG.out.lt H6.out.bel)).mono ?_
  rintro e w7 ⟨rfl, hb⟩
  rw [show ((6 : Int) == 6) = true from rfl]
  have H7 : Hid (Lh w.heap.size w w7 j (List.replicate L oneX) p sf 0 true) := H6.out.grown hb
  clear hb H6
  go_wp2_with fail
  refine (error_err 6 6 _ (HG.out.below HG.out.lt H7.out.bel)).mono ?_
  rintro e w8 ⟨rfl, hb⟩
  rw [show ((6 : Int) == 6) = true from rfl]
  have H8 : Hid (Lh w.heap.size w w8 j (List.replicate L oneX) p sf 0 true) := H7.out.grown hb
  clear hb H7
  obtain ⟨n, HN⟩ : ∃ n, Hid ((flatD (List.replicate L oneX) ++ p).length = n) := ⟨_, rfl⟩
  have hn1 : sf ≤ n ∧ n ≤ 100000 := by
    have h1 := HN.out
    rw [List.length_append, flat_rep] at h1
    have h2 := HSf.out
    have h3 : p.length ≤ 1 := by rcases HPp.out with h | h <;> rw [h] <;> simp
    omega
  have HN1 : Hid (sf ≤ n ∧ n ≤ 100000) := hn1
  obtain ⟨q, p', hq, hcut, hno, h256, htk⟩ := crash_rep L (keepN keep sf n) HPp.out
  have HQ : Hid (q ≤ 20 ∧ NoRec p' ∧ (∀ x ∈ p', x < 256) ∧ (List.replicate L oneX).take q = List.replicate q oneX ∧ (flatD (List.replicate L oneX) ++ p).take (keepN keep sf n) = flatD (List.replicate q oneX) ++ p') := ⟨by omega, hno, h256, htk, hcut⟩
  clear hq hcut hno h256 htk hn1
  obtain ⟨S, h1', h2'⟩ := H8.out.call
  have HS : Hid _ := h1'
  have HC : Hid _ := h2'
  clear h1' h2' H8
  go_wp2_with fail
  refine (lgCrash_c (m := q) (p' := p') keep HS.out HN.out HN1.out.2 HN1.out.1 (by rw [HQ.out.2.2.2.1]; exact fits_rep q (by have := HQ.out.1; omega)) (by rw [HQ.out.2.2.2.1]; exact (rep_ok q).1) (by rw [HQ.out.2.2.2.1]; exact (rep_ok q).2) (by rw [HQ.out.2.2.2.1]; exact HQ.out.2.2.2.2) HQ.out.2.1 HQ.out.2.2.1).mono ?_
  rw [HQ.out.2.2.2.1, flat_rep]
  rintro e w9 ⟨rfl, hto⟩
  have H9 : Hid (Lh w.heap.size w w9 j (List.replicate q oneX) [] (3 * q) (-1) false) := HC.out _ _ _ _ _ _ hto
  have hq20 : q ≤ 20 := HQ.out.1
  clear hto HS HC HQ HN HN1 HPp HSf
  obtain ⟨S, h1', h2'⟩ := H9.out.call
  have HS : Hid _ := h1'
  have HC : Hid _ := h2'
  clear h1' h2' H9
  go_wp2_with fail
  refine (lgSeq_c (n := q) HS.out List.length_replicate).mono ?_
  rintro e w' ⟨rfl, hw⟩
  rw [hw]
  clear hw w'
  have HP5 : Hid (putO (List.replicate q oneX) 5 ⟨#[121]⟩ = ⟨List.replicate q oneX ++ [⟨5, false, ⟨#[121]⟩⟩], (q : Int) + 1, 0⟩) := put_five q (by omega)
  have HF5 : Hid ((flatD (List.replicate q oneX)).length ≤ 50000) := by show _ ≤ _; rw [flat_rep]; omega
  go_wp2_with fail
  refine (lgPut_c (t := ⟨#[121]⟩) (by unfold maxLen; decide) HS.out HF5.out (by omega) (fun _ => by omega) HP5.out (fun e => absurd rfl e) (fun _ => ⟨rfl, by omega, by omega, by decide⟩)).mono ?_
  rw [if_pos rfl, errZ, show lfN (-1) = -1 from rfl]
  rintro e w10 ⟨rfl, hto⟩
  obtain ⟨l3, HL3⟩ : ∃ l3, Hid (List.replicate q oneX ++ [(⟨5, false, ⟨#[121]⟩⟩ : Deed)] = l3) := ⟨List.replicate q oneX ++ [(⟨5, false, ⟨#[121]⟩⟩ : Deed)], show _ = _ from rfl⟩
  rw [HL3.out] at hto
  have H10 : Hid (Lh w.heap.size w w10 j l3 [] (3 * q) (-1) false) := HC.out _ _ _ _ _ _ hto
  clear hto HS HC HP5 HF5
  obtain ⟨S, h1', h2'⟩ := H10.out.call
  have HS : Hid _ := h1'
  have HC : Hid _ := h2'
  clear h1' h2' H10
  obtain ⟨n3, HN3⟩ : ∃ n3 : Nat, Hid ((flatD l3 ++ ([] : List Nat)).length = n3) := ⟨(flatD l3 ++ ([] : List Nat)).length, show (flatD l3 ++ ([] : List Nat)).length = _ from rfl⟩
  go_wp2_with fail
  refine (lgSync_go (n := n3) HS.out (by omega) (by omega) HN3.out).mono ?_
  rw [show lfN (-1) = -1 from rfl]
  rintro e w11 ⟨rfl, hto⟩
  have H11 : Hid (Lh w.heap.size w w11 j l3 [] n3 (-1) false) := HC.out _ _ _ _ _ _ hto
  clear hto HS HC
  obtain ⟨S, h1', h2'⟩ := H11.out.call
  have HS : Hid _ := h1'
  clear h1' h2'
  have HR5 : Hid ((atO l3 5 l3.length).1 = ⟨5, (q : Int) + 1, (q : Int) + 1, false, ⟨#[121]⟩⟩ ∧ (atO l3 5 l3.length).2 = 0) := by rw [← HL3.out]; exact read_five q
  go_wp2_with fail
  refine (lgRead_c HS.out HR5.out.1 HR5.out.2).mono ?_
  rw [errZ]
  rintro e w12 ⟨rfl, hb⟩
  have H12 : Hid (Lh w.heap.size w (w12.alloc (.cells #[.int .i64 5, .int .i64 ((q : Int) + 1), .int .i64 ((q : Int) + 1), .bool false, .string ⟨#[121]⟩] 38)) j l3 [] n3 (-1) false) := H11.out.grown (hb.alloc hb.size _)
  clear hb HS H11 HR5
  obtain ⟨S, h1', h2'⟩ := H12.out.call
  have HS : Hid _ := h1'
  clear h1' h2'
  go_wp2_with (first | (go_at_call 25; refine (lgSafe_c HS.out).mono ?_; rintro e w' ⟨rfl, hw⟩; rw [hw]; clear hw w') | (go_at_call 26; refine (lgBytes_c (n := n3) HS.out HN3.out).mono ?_; rintro e w' ⟨rfl, hw⟩; rw [hw]; clear hw w'))
  go_ret
  exact ⟨rfl, H12.out.bel⟩
end Go.Proofs.YtbincnajklmnaaaDoor
