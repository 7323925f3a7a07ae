/-
  Package log: Crash.
-/
import Derived.Test.YtpcnfoaoajfhlaaDoorLgG
namespace Go.Proofs.YtpcnfoaoajfhlaaDoor
set_option linter.unusedVariables false
set_option linter.unusedSimpArgs false
open Go.RowKit

set_option maxRecDepth 100000 in
set_option maxHeartbeats 8000000 in
theorem lgCrash_c {S : Nat → Prop} {w : World} {j n m : Nat} {l : List Deed} {p p' : List Nat} {sf : Nat} {lf : Int} {st : Bool} (keep : Int) (h : LgAt S w j l p sf lf st) (hn : (flatD l ++ p).length = n) (hn5 : n ≤ 100000) (hsf : sf ≤ n) (hfit : Fits (l.take m)) (hd : ∀ d ∈ l.take m, d.text.size ≤ 12) (hk8 : ∀ d ∈ l.take m, 0 ≤ d.key ∧ d.key < 8)
    (hcut : (flatD l ++ p).take (keepN keep sf n) = flatD (l.take m) ++ p') (hp : NoRec p') (hp8 : ∀ x ∈ p', x < 256) :
    Calls Tryd.prog 18 #[.pointer (some ⟨j, 0, none⟩), .int .i64 keep] w fun e w' => e = .returned (.tuple #[]) ∧ LgTo S w w' j (l.take m) [] (flatD (l.take m)).length (-1) false := by
  obtain ⟨F, b, v, h⟩ := h
  have HQ : Hid (Lq S F w j b v l (flatD l ++ p) sf lf st) := h.q
  have HFit : Hid (Fits (l.take m) ∧ (∀ d ∈ l.take m, d.text.size ≤ 12) ∧ (∀ d ∈ l.take m, 0 ≤ d.key ∧ d.key < 8) ∧ NoRec p' ∧ ∀ x ∈ p', x < 256) := ⟨hfit, hd, hk8, hp, hp8⟩
  have hK := keepN_le (keep := keep) hsf
  obtain ⟨K, HK⟩ : ∃ K, Hid (keepN keep sf n = K) := ⟨_, rfl⟩
  rw [HK.out] at hcut hK
  have HCut : Hid ((flatD l ++ p).take K = flatD (l.take m) ++ p') := hcut
  have HN : Hid ((flatD l ++ p).length = n) := hn
  have HKn : Hid (sf ≤ K ∧ K ≤ n) := hK
  have hkeq : keepN keep sf n = K := HK.out
  have HKl : Hid ((flatD (l.take m)).length ≤ K) := by
    have h1 : (flatD (l.take m) ++ p').length ≤ K := by rw [← hcut]; exact List.length_take_le _ _
    rw [List.length_append] at h1
    show _ ≤ _
    omega
  have c1 := h.c1
  have c2 := h.c2
  rcases h.row.slice with ⟨hv, hnil⟩ | ⟨g, cap, hv, hcap, hcm⟩
  · subst hv
    have hn0 : n = 0 := by rw [← hn, hnil]; rfl
    subst hn0
    have hs0 : sf = 0 := by omega
    subst hs0
    have hK0 : K = 0 := by omega
    subst hK0
    have HE0 : Hid (flatD (l.take m) ++ p' = []) := by show _ = _; rw [← hcut]; rfl
    have HE1 : Hid ((flatD (l.take m)).length = 0) := by
      have h1 := congrArg List.length HE0.out
      rw [List.length_append] at h1
      show _ = _
      simp at h1 ⊢
      exact h1.1
    clear h hfit hd hk8 hp hp8 hcut hn hK HK hkeq hnil
    go_enter Tryd.func18, Tryd.ntmps18
    go_upto_region 1 with (go_quiet (fail))
    obtain ⟨w2, HW2⟩ : ∃ z, z = w.drewN nq := ⟨_, rfl⟩
    rw [← HW2]
    have HQ2 : Hid (Lq S F w2 j b (.slice none 0 0) l (flatD l ++ p) 0 lf st) := by rw [HW2]; exact HQ.out.blocks (Nat.le_refl _) (fun _ _ => rfl)
    have HB2 : Hid (Below w.heap.size w w2) := by rw [HW2]; exact ⟨rfl, rfl, rfl, Nat.le_refl _, fun _ _ => rfl⟩
    clear HW2 HQ c1 c2
    have c1 := HQ2.out.c1
    have c2 := HQ2.out.c2
    go_cut [5] (fun c5 wd => c5 = .slice none 0 0 ∧ Hid (Below w2.heap.size w2 wd))
    case first =>
      by_cases h2 : keep < 0
      · go_quiet (fail)
        go_wp2_with fail
        go_meet
        case rel => exact ⟨by first | rfl | simp, show Below _ _ _ from ⟨rfl, rfl, rfl, Nat.le_refl _, fun _ _ => rfl⟩⟩
      · obtain ⟨kn, rfl⟩ : ∃ k : Nat, keep = k := ⟨keep.toNat, by omega⟩
        by_cases h3 : kn = 0
        · subst h3
          go_quiet (fail)
          go_wp2_with fail
          go_meet
          case rel => exact ⟨by first | rfl | simp, show Below _ _ _ from ⟨rfl, rfl, rfl, Nat.le_refl _, fun _ _ => rfl⟩⟩
        · have h4 : (0 : Int) < (kn : Int) := by omega
          go_quiet (fail)
          go_wp2_with fail
          go_meet
          case rel => exact ⟨by first | rfl | simp, show Below _ _ _ from ⟨rfl, rfl, rfl, Nat.le_refl _, fun _ _ => rfl⟩⟩
    case rest =>
    obtain ⟨h5, HB3⟩ := hcut
    obtain ⟨w3, hren⟩ : ∃ x, x = wc := ⟨_, rfl⟩
    subst hren
    subst h5
    have HQ3 : Hid (Lq S F w3 j b (.slice none 0 0) l (flatD l ++ p) 0 lf st) := HQ2.out.grown HB3.out
    have HSz : Hid (w.heap.size ≤ w3.heap.size) := Nat.le_trans HB2.out.size HB3.out.size
    have HB3' : Hid (Below w.heap.size w w3) := HB2.out.trans (HB3.out.mono HB2.out.size)
    have HBy : Hid (BytesAt w3 (.slice none 0 0) (flatD (l.take m) ++ p')) := by rw [HE0.out]; exact (OwnB.nil w3).bytes (by simp)
    clear HQ2 c1 c2 HB3 HB2
    go_wp2_with fail
    refine (replay_c none 0 0 (l.take m) p' HFit.out.1 HFit.out.2.1 HFit.out.2.2.1 HFit.out.2.2.2.1 HFit.out.2.2.2.2 w3 HBy.out (fun g' hg' => by simp [Value.ownBlock] at hg')).mono ?_
    rintro e w4 ⟨b2, rfl, ⟨F2, hs2, hf2⟩, hb4⟩
    have HQ4 : Hid (Lq S F w4 j b (.slice none 0 0) l (flatD l ++ p) 0 lf st) := HQ3.out.grown hb4
    have HB4 : Hid (Below w.heap.size w w4) := HB3'.out.trans (hb4.mono HSz.out)
    have HS2 : Hid (StoreIs w4 b2 (l.take m) F2 ∧ ∀ x, F2 x → w3.heap.size ≤ x) := ⟨hs2, hf2⟩
    have hfl : flatD (l.take m) = [] := List.length_eq_zero_iff.1 HE1.out
    have HEnd : Hid (Lq (fun x => S x ∨ F2 x) F2 (((((w4.setCell ⟨j, 0, none⟩ (.pointer (some ⟨b2, 0, none⟩))).setCell ⟨j, 1, none⟩ (.slice none 0 0)).setCell ⟨j, 2, none⟩ (.int .i64 ((0 : Nat) : Int))).setCell ⟨j, 3, none⟩ (.int .i64 (-1))).setCell ⟨j, 4, none⟩ (.bool false)) j b2 (.slice none 0 0) (l.take m) [] 0 (-1) false) :=
      HQ4.out.reset hs2 (fun x hx => by have h1 := hf2 x hx; have h2 := HQ3.out.lt j HQ3.out.sj; omega) (OwnB.nil _) (fun g' hg' => by simp [Value.ownBlock] at hg')
    have HKp : Hid (Kept S w (((((w4.setCell ⟨j, 0, none⟩ (.pointer (some ⟨b2, 0, none⟩))).setCell ⟨j, 1, none⟩ (.slice none 0 0)).setCell ⟨j, 2, none⟩ (.int .i64 ((0 : Nat) : Int))).setCell ⟨j, 3, none⟩ (.int .i64 (-1))).setCell ⟨j, 4, none⟩ (.bool false))) :=
      setKept (setKept (setKept (setKept (setKept (Kept.of_below HB4.out) j 0 (.inl HQ4.out.sj) _) j 1 (.inl HQ4.out.sj) _) j 2 (.inl HQ4.out.sj) _) j 3 (.inl HQ4.out.sj) _) j 4 (.inl HQ4.out.sj) _
    have HFl : Hid (flatD (l.take m) = []) := hfl
    rw [HE1.out]
    have d0 := HQ4.out.c0
    have d1 := HQ4.out.c1
    have d2 := HQ4.out.c2
    have d3 := HQ4.out.c3
    have d4 := HQ4.out.c4
    have df := HQ4.out.fz
    clear hs2 hf2 hb4 HQ3 HQ4 HB4 HB3' hfl
    go_wp2_with fail
    refine bodyPost_end (v := .tuple #[]) (by simp [results, Tryd.results18, go_sem]) rfl ?_
    refine ⟨rfl, ?_⟩
    rw [HE1.out]
    exact HEnd.out.to (p := []) (by rw [HFl.out]; rfl) HKp.out (fun x hx => by
      rcases hx with hx | hx
      · exact .inl hx
      · have h1 := HS2.out.2 x hx
        have h2 := HSz.out
        exact .inr (by omega))
  · rw [HN.out] at hv hcap
    subst hv
    unfold maxLen at hcm
    have HRow : Hid (OwnB w (.slice (some ⟨g, 0, none⟩) n cap) (flatD l ++ p)) := h.row
    have HRk : Hid (OwnB w (.slice (some ⟨g, 0, none⟩) K cap) (flatD (l.take m) ++ p')) := by
      have h1 := h.row.take K (by rw [HN.out]; exact hK.2)
      rw [hcut] at h1
      exact h1
    have hkc : K ≤ cap := by omega
    clear h hfit hd hk8 hp hp8 hcut hn hK HK
    go_enter Tryd.func18, Tryd.ntmps18
    go_upto_region 1 with (go_quiet (fail))
    obtain ⟨w2, HW2⟩ : ∃ z, z = w.drewN nq := ⟨_, rfl⟩
    rw [← HW2]
    have HQ2 : Hid (Lq S F w2 j b (.slice (some ⟨g, 0, none⟩) n cap) l (flatD l ++ p) sf lf st) := by rw [HW2]; exact HQ.out.blocks (Nat.le_refl _) (fun _ _ => rfl)
    have HRk2 : Hid (OwnB w2 (.slice (some ⟨g, 0, none⟩) K cap) (flatD (l.take m) ++ p')) := by rw [HW2]; exact HRk.out.blocks (fun _ _ => rfl)
    have HB2 : Hid (Below w.heap.size w w2) := by rw [HW2]; exact ⟨rfl, rfl, rfl, Nat.le_refl _, fun _ _ => rfl⟩
    clear HW2 HQ HRow HRk c1 c2
    have c1 := HQ2.out.c1
    have c2 := HQ2.out.c2
    go_cut [5] (fun c5 wd => c5 = .slice (some ⟨g, 0, none⟩) K cap ∧ Hid (Below w2.heap.size w2 wd))
    case first =>
      unfold keepN at hkeq
      by_cases h1 : keep ≤ 0
      · rw [if_pos h1] at hkeq
        subst hkeq
        by_cases h2 : keep < 0
        · go_quiet (fail)
          go_wp2_with fail
          go_meet
          case rel => exact ⟨rfl, show Below _ _ _ from ⟨rfl, rfl, rfl, Nat.le_refl _, fun _ _ => rfl⟩⟩
        · obtain rfl : keep = 0 := by omega
          go_quiet (fail)
          go_wp2_with fail
          go_meet
          case rel => exact ⟨by first | rfl | simp, show Below _ _ _ from ⟨rfl, rfl, rfl, Nat.le_refl _, fun _ _ => rfl⟩⟩
      · rw [if_neg h1] at hkeq
        obtain ⟨kn, rfl⟩ : ∃ k : Nat, keep = k := ⟨keep.toNat, by omega⟩
        by_cases h2 : (kn : Int) ≤ ((n - sf : Nat) : Int)
        · rw [if_pos h2] at hkeq
          have HE : Hid (sf + kn = K) := by show _ = _; rw [← hkeq]; simp
          go_quiet (fail)
          go_wp2_with fail
          go_meet
          case rel => exact ⟨by rw [HE.out], show Below _ _ _ from ⟨rfl, rfl, rfl, Nat.le_refl _, fun _ _ => rfl⟩⟩
        · rw [if_neg h2] at hkeq
          have HE : Hid (n = K) := hkeq
          have h3 : ¬ (kn : Int) ≤ (n : Int) - (sf : Int) := by omega
          have h4 : (n : Int) - (sf : Int) < (kn : Int) := by omega
          have HE2 : Hid (sf + (n - sf) = K) := by show _ = _; rw [← HE.out]; omega
          clear h2 hkeq
          go_quiet (fail)
          go_wp2_with fail
          go_meet
          case rel => exact ⟨by first | rw [HE2.out] | rw [HE.out], show Below _ _ _ from ⟨rfl, rfl, rfl, Nat.le_refl _, fun _ _ => rfl⟩⟩
    case rest =>
    obtain ⟨h5, HB3⟩ := hcut
    obtain ⟨w3, hren⟩ : ∃ x, x = wc := ⟨_, rfl⟩
    subst hren
    subst h5
    have HQ3 : Hid (Lq S F w3 j b (.slice (some ⟨g, 0, none⟩) n cap) l (flatD l ++ p) sf lf st) := HQ2.out.grown HB3.out
    have HRk3 : Hid (OwnB w3 (.slice (some ⟨g, 0, none⟩) K cap) (flatD (l.take m) ++ p')) := HRk2.out.below HB3.out
    have HSz : Hid (w.heap.size ≤ w3.heap.size) := Nat.le_trans HB2.out.size HB3.out.size
    have HB3' : Hid (Below w.heap.size w w3) := HB2.out.trans (HB3.out.mono HB2.out.size)
    have lg := HRk3.out.lt g rfl
    have HLk : Hid ((flatD (l.take m) ++ p').length ≤ 100000) := by
      show _ ≤ _
      rw [← HCut.out]
      have := List.length_take_le K (flatD l ++ p)
      have := HKn.out
      omega
    have HGl : Hid (∀ g', (Value.slice (some ⟨g, 0, none⟩) K cap).ownBlock = some g' → g' < w3.heap.size) := fun g' hg' => HRk3.out.lt g' hg'
    clear HQ2 HRk2 c1 c2 HB3 HB2
    go_wp2_with fail
    refine (replay_c (some ⟨g, 0, none⟩) K cap (l.take m) p' HFit.out.1 HFit.out.2.1 HFit.out.2.2.1 HFit.out.2.2.2.1 HFit.out.2.2.2.2 w3 (HRk3.out.bytes HLk.out) HGl.out).mono ?_
    rintro e w4 ⟨b2, rfl, ⟨F2, hs2, hf2⟩, hb4⟩
    have HQ4 : Hid (Lq S F w4 j b (.slice (some ⟨g, 0, none⟩) n cap) l (flatD l ++ p) sf lf st) := HQ3.out.grown hb4
    have HB4 : Hid (Below w.heap.size w w4) := HB3'.out.trans (hb4.mono HSz.out)
    have HR4 : Hid (OwnB w4 (.slice (some ⟨g, 0, none⟩) (flatD (l.take m)).length cap) (flatD (l.take m))) := by
      have h := (HRk3.out.below hb4).take (flatD (l.take m)).length (by rw [List.length_append]; omega)
      rw [List.take_left] at h
      exact h
    have HS2 : Hid (StoreIs w4 b2 (l.take m) F2 ∧ ∀ x, F2 x → w3.heap.size ≤ x) := ⟨hs2, hf2⟩
    have HEnd : Hid (Lq (fun x => S x ∨ F2 x) F2 (((((w4.setCell ⟨j, 0, none⟩ (.pointer (some ⟨b2, 0, none⟩))).setCell ⟨j, 1, none⟩ (.slice (some ⟨g, 0, none⟩) (flatD (l.take m)).length cap)).setCell ⟨j, 2, none⟩ (.int .i64 ((flatD (l.take m)).length : Nat))).setCell ⟨j, 3, none⟩ (.int .i64 (-1))).setCell ⟨j, 4, none⟩ (.bool false)) j b2 (.slice (some ⟨g, 0, none⟩) (flatD (l.take m)).length cap) (l.take m) (flatD (l.take m)) (flatD (l.take m)).length (-1) false) :=
      HQ4.out.reset hs2 (fun x hx => by have h1 := hf2 x hx; have h2 := HQ3.out.lt j HQ3.out.sj; omega) HR4.out (fun g' hg' => by
        have h1 := HQ4.out.sv g' hg'
        refine ⟨h1.1, fun hf => ?_, h1.2.2⟩
        have h2 := hf2 g' hf
        have h3 := HRk3.out.lt g' hg'
        omega)
    have HKp : Hid (Kept S w (((((w4.setCell ⟨j, 0, none⟩ (.pointer (some ⟨b2, 0, none⟩))).setCell ⟨j, 1, none⟩ (.slice (some ⟨g, 0, none⟩) (flatD (l.take m)).length cap)).setCell ⟨j, 2, none⟩ (.int .i64 ((flatD (l.take m)).length : Nat))).setCell ⟨j, 3, none⟩ (.int .i64 (-1))).setCell ⟨j, 4, none⟩ (.bool false))) :=
      setKept (setKept (setKept (setKept (setKept (Kept.of_below HB4.out) j 0 (.inl HQ4.out.sj) _) j 1 (.inl HQ4.out.sj) _) j 2 (.inl HQ4.out.sj) _) j 3 (.inl HQ4.out.sj) _) j 4 (.inl HQ4.out.sj) _
    obtain ⟨k2, HK2⟩ : ∃ k2, Hid ((flatD (l.take m)).length = k2) := ⟨_, rfl⟩
    rw [HK2.out] at HEnd HKp HKl ⊢
    have hk2 : k2 ≤ cap := by have := HKl.out; omega
    have d0 := HQ4.out.c0
    have d1 := HQ4.out.c1
    have d2 := HQ4.out.c2
    have d3 := HQ4.out.c3
    have d4 := HQ4.out.c4
    have df := HQ4.out.fz
    clear hs2 hf2 hb4 HQ3 HRk3 HQ4 HR4 HB4 HB3'
    go_wp2_with fail
    refine bodyPost_end (v := .tuple #[]) (by simp [results, Tryd.results18, go_sem]) rfl ?_
    refine ⟨rfl, ?_⟩
    rw [HK2.out]
    exact HEnd.out.to (p := []) (by simp) HKp.out (fun x hx => by
      rcases hx with hx | hx
      · exact .inl hx
      · have h1 := HS2.out.2 x hx
        have h2 := HSz.out
        exact .inr (by omega))
end Go.Proofs.YtpcnfoaoajfhlaaDoor
