/-
  ViewAlone: who is alive says nothing new.
-/
import Derived.Test.YtpelbmhhppcmeafDoorVwA
import Derived.Test.YtpelbmhhppcmeafDoorVwN
import Derived.Test.YtpelbmhhppcmeafDoorErrA
namespace Go.Proofs.YtpelbmhhppcmeafDoor
set_option linter.unusedVariables false
set_option linter.unusedSimpArgs false
open Go.RowKit

theorem good_one {m : Mm} (h : m.ok = true) : GoodV [m] := ⟨List.pairwise_singleton _ _, fun x hx => by rw [List.mem_singleton.1 hx]; exact h⟩
theorem addV_bad {m : Mm} (h : m.ok = false) : addV [] m = ([], false, 1) := by
  unfold addV
  rw [if_neg (by simp [badV, badVF]), if_pos h]
theorem addV_one {m : Mm} (h : m.ok = true) : addV [] m = ([m], true, 0) := by
  unfold addV
  rw [if_neg (by simp [badV, badVF]), if_neg (by rw [h]; simp)]
  rfl
theorem getM_one (m : Mm) : getM [m] m.n = some m := by rw [getM_cons, if_pos rfl]
theorem badAns_one {m : Mm} (h : m.ok = true) : badAns [m] m.n = if m.s ≠ 0 ∧ m.f = 100 then 4 else 0 := badAns_some (good_badV (good_one h)) (by
  have := (Mm.ok_iff m).1 h
  simp [inR]
  omega) (getM_one m)
theorem ansV_alive {m : Mm} (h : m.ok = true) (hs : m.s = 0) : ansV [m] m.n = ([m], 0) := by
  rw [ansV_ok, ansM_self (good_one h).1 (getM_one m) hs]
  rw [badAns_one h, if_neg (by rintro ⟨h1, _⟩; exact h1 hs)]
theorem ansV_full {m : Mm} (h : m.ok = true) (hs : m.s ≠ 0) (hf : m.f = 100) : ansV [m] m.n = ([], 4) := by
  refine ansV_err ?_ (by omega)
  rw [badAns_one h, if_pos ⟨hs, hf⟩]
theorem ansV_up {m : Mm} (h : m.ok = true) (hs : m.s ≠ 0) (hf : m.f ≠ 100) : ansV [m] m.n = ([⟨m.n, m.f + 1, 0⟩], 0) := by
  have e : ansM [m] m.n = [upM m] := by
    show [if m.n = m.n then upM m else m] = _
    rw [if_pos rfl]
  rw [ansV_ok, e, upM_up hs]
  rw [badAns_one h, if_neg (by rintro ⟨_, h1⟩; exact hf h1)]
theorem newV_up {m : Mm} (h : m.ok = true) (hf : m.f ≠ 100) : newV ⟨m.n, m.f + 1, 0⟩ m = (true, 0) ∧ newV m ⟨m.n, m.f + 1, 0⟩ = (false, 0) := by
  have h0 := (Mm.ok_iff m).1 h
  have h1 : Mm.ok ⟨m.n, m.f + 1, 0⟩ = true := (Mm.ok_iff _).2 (by dsimp only; omega)
  have n1 : nwB ⟨m.n, m.f + 1, 0⟩ m = true := (nwB_iff _ _).2 (by dsimp only; omega)
  have n2 : nwB m ⟨m.n, m.f + 1, 0⟩ = false := by
    cases hq : nwB m ⟨m.n, m.f + 1, 0⟩
    · rfl
    · have := (nwB_iff _ _).1 hq
      dsimp only at this
      omega
  unfold newV
  rw [h, h1, n1, n2]
  simp
set_option maxRecDepth 100000 in
set_option maxHeartbeats 8000000 in
theorem viewAlone_w (n f s : Int) (w : World) (hg : HasErr w) :
    Calls Tryd.prog 3 #[.agg #[.int .i64 n, .int .i64 f, .int .i64 s]] w fun e w' => e = .returned (.bool true) ∧ Below w.heap.size w w' := by
  have HG : Hid (∀ w', Below w.heap.size w w' → HasErr w') := fun w' hb => hg.below hg.lt hb
  clear hg
  have HB0 : Hid (Below w.heap.size w (w.alloc (.cells #[.int .i64 n, .int .i64 f, .int .i64 s] 23))) := (Below.refl _ _).alloc (Nat.le_refl _) _
  have HX0 : Hid (BoxM (w.alloc (.cells #[.int .i64 n, .int .i64 f, .int .i64 s] 23)) w.heap.size n f s) := boxM_new w n f s _ rfl
  cases hok : Mm.ok ⟨n, f, s⟩
  · have HA : Hid (addV [] ⟨n, f, s⟩ = ([], false, 1)) := addV_bad hok
    clear hok
    go_enter Tryd.func3, Tryd.ntmps3
    go_wp2_with fail
    refine (add_o HA.out _ _ (MmsIs.nil _)).mono ?_
    rintro e w1 ⟨v1, rfl, ho, hb⟩
    rw [eV_err (by omega)]
    have B1 : Hid (Below w.heap.size w w1) := HB0.out.trans (hb.mono HB0.out.size)
    clear hb ho
    go_wp2_with fail
    go_ret
    exact ⟨rfl, B1.out⟩
  · have HOk : Hid (Mm.ok ⟨n, f, s⟩ = true) := hok
    have HA : Hid (addV [] ⟨n, f, s⟩ = ([⟨n, f, s⟩], true, 0)) := addV_one hok
    clear hok
    go_enter Tryd.func3, Tryd.ntmps3
    go_wp2_with fail
    refine (add_o HA.out _ _ (MmsIs.nil _)).mono ?_
    rintro e w1 ⟨v1, rfl, ho, hb⟩
    rw [eV_zero]
    have B1 : Hid (Below w.heap.size w w1) := HB0.out.trans (hb.mono HB0.out.size)
    have M1 : Hid (MmsIs w1 v1 [⟨n, f, s⟩]) := ho.mms
    have X1 : Hid (BoxM w1 w.heap.size n f s) := HX0.out.below hb HX0.out.lt
    clear hb ho HX0 HB0 HA
    obtain ⟨a0, a1, a2, af⟩ := X1.out
    by_cases hs : s = 0
    · have HC : Hid (ansV [⟨n, f, s⟩] n = ([⟨n, f, s⟩], 0)) := ansV_alive (m := ⟨n, f, s⟩) HOk.out hs
      have hsb : (s == 0) = true := by simp [hs]
      clear hs
      go_wp2_with fail
      refine (answer_o HC.out v1 _ M1.out).mono ?_
      rintro e w2 ⟨v2, rfl, ho, hb⟩
      rw [eV_zero]
      have B2 : Hid (Below w.heap.size w w2) := B1.out.trans (hb.mono B1.out.size)
      have M2 : Hid (MmsIs w2 v2 [⟨n, f, s⟩]) := ho.mms
      have M2a : Hid (MmsIs w2 v1 [⟨n, f, s⟩]) := M1.out.below hb
      have X2 : Hid (BoxM w2 w.heap.size n f s) := X1.out.below hb X1.out.lt
      clear hb ho a0 a1 a2 af X1 M1 B1
      obtain ⟨a0, a1, a2, af⟩ := X2.out
      go_wp2_with fail
      refine (sameMm_c v2 v1 _ _ M2.out M2a.out).mono ?_
      rintro e w3 ⟨rfl, hb⟩
      have B3 : Hid (Below w.heap.size w w3) := B2.out.trans (hb.mono B2.out.size)
      clear hb
      go_wp2_with fail
      go_ret
      exact ⟨rfl, B3.out⟩
    · have hsb : (s == 0) = false := by simpa using hs
      by_cases hf : f = 100
      · have HC : Hid (ansV [⟨n, f, s⟩] n = ([], 4)) := ansV_full (m := ⟨n, f, s⟩) HOk.out hs hf
        have hfb : (f == 100) = true := by simp [hf]
        clear hs hf
        go_wp2_with fail
        refine (answer_o HC.out v1 _ M1.out).mono ?_
        rintro e w2 ⟨v2, rfl, ho, hb⟩
        have B2 : Hid (Below w.heap.size w w2) := B1.out.trans (hb.mono B1.out.size)
        have X2 : Hid (BoxM w2 w.heap.size n f s) := X1.out.below hb X1.out.lt
        clear hb ho a0 a1 a2 af X1 M1 B1
        obtain ⟨a0, a1, a2, af⟩ := X2.out
        have HE : Hid (Calls Tryd.prog 11 #[eV 4, .int .i64 4] w2 fun e w' => e = .returned (.bool true) ∧ Below w2.heap.size w2 w') := err_same 4 w2 (HG.out _ B2.out)
        go_wp2_with fail
        refine Calls.mono HE.out ?_
        rintro e w3 ⟨rfl, hb⟩
        have B3 : Hid (Below w.heap.size w w3) := B2.out.trans (hb.mono B2.out.size)
        clear hb
        go_wp2_with fail
        go_ret
        exact ⟨rfl, B3.out⟩
      · have HC : Hid (ansV [⟨n, f, s⟩] n = ([⟨n, f + 1, 0⟩], 0)) := ansV_up (m := ⟨n, f, s⟩) HOk.out hs hf
        have hfb : (f == 100) = false := by simpa using hf
        obtain ⟨hN1, hN2⟩ := newV_up (m := ⟨n, f, s⟩) HOk.out hf
        have HN1 : Hid (newV ⟨n, f + 1, 0⟩ ⟨n, f, s⟩ = (true, 0)) := hN1
        have HN2 : Hid (newV ⟨n, f, s⟩ ⟨n, f + 1, 0⟩ = (false, 0)) := hN2
        clear hs hf hN1 hN2
        go_wp2_with fail
        refine (answer_o HC.out v1 _ M1.out).mono ?_
        rintro e w2 ⟨v2, rfl, ho, hb⟩
        rw [eV_zero]
        have B2 : Hid (Below w.heap.size w w2) := B1.out.trans (hb.mono B1.out.size)
        have X2 : Hid (BoxM w2 w.heap.size n f s) := X1.out.below hb X1.out.lt
        obtain ⟨G, cap, rfl, hBG, hGw, hat, fz⟩ := own_at (m := 0) ho (by simp) rfl
        have A2 : Hid (MmAt w2 G 0 ⟨n, f + 1, 0⟩) := hat
        clear hb ho a0 a1 a2 af X1 M1 B1 hat fz
        obtain ⟨a0, a1, a2, af⟩ := X2.out
        obtain ⟨c0, c1, c2⟩ := A2.out
        dsimp only [List.length_singleton] at c0 c1 c2 ⊢
        go_upto_region 11 with fail
        go_cut [8, 9] (fun v8 v9 wc => ∃ bb : Bool, v8 = .bool bb ∧ v9 = eV 0 ∧ bb = true ∧ Hid (Below w2.heap.size w2 wc))
        case first =>
          go_region_with (go_at_call 12; refine (newer_o HN1.out _).mono ?_; rintro e w7 ⟨rfl, hb7⟩; have HB7 : Hid (Below w2.heap.size w2 w7) := below_undrew hb7; clear hb7)
          all_goals go_wp2_with fail
          all_goals go_meet
          all_goals exact ⟨_, rfl, rfl, rfl, HB7⟩
        case rest =>
        obtain ⟨w3, h⟩ : ∃ x, x = wc := ⟨_, rfl⟩
        subst h
        obtain ⟨bb, rfl, rfl, rfl, HB3⟩ := hcut
        have B3 : Hid (Below w.heap.size w w3) := B2.out.trans (HB3.out.mono B2.out.size)
        have X3 : Hid (BoxM w3 w.heap.size n f s) := X2.out.below HB3.out X2.out.lt
        have A3 : Hid (MmAt w3 G 0 ⟨n, f + 1, 0⟩) := A2.out.of_block (HB3.out.block G hGw)
        clear a0 a1 a2 af c0 c1 c2 X2 A2 B2
        obtain ⟨a0, a1, a2, af⟩ := X3.out
        obtain ⟨c0, c1, c2⟩ := A3.out
        dsimp only at c0 c1 c2
        go_upto_region 12 with fail
        go_cut [10, 11] (fun v10 v11 wc => ∃ bb : Bool, v10 = .bool bb ∧ v11 = eV 0 ∧ bb = false ∧ Hid (Below w3.heap.size w3 wc))
        case first =>
          go_region_with (go_at_call 12; refine (newer_o HN2.out _).mono ?_; rintro e w7 ⟨rfl, hb7⟩; have HB7 : Hid (Below w3.heap.size w3 w7) := below_undrew hb7; clear hb7)
          all_goals go_wp2_with fail
          all_goals go_meet
          all_goals exact ⟨_, rfl, rfl, rfl, HB7⟩
        case rest =>
        obtain ⟨w4, h⟩ : ∃ x, x = wc := ⟨_, rfl⟩
        subst h
        obtain ⟨bb, rfl, rfl, rfl, HB4⟩ := hcut
        have B4 : Hid (Below w.heap.size w w4) := B3.out.trans (HB4.out.mono B3.out.size)
        rw [eV_zero]
        go_wp2_with fail
        go_ret
        exact ⟨rfl, B4.out⟩
end Go.Proofs.YtpelbmhhppcmeafDoor
