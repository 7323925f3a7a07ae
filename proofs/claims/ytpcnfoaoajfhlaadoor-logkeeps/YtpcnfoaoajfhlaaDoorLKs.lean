/-
  merelaw3.LogKeeps answers true, whatever is put and deleted, made safe, stopped and crashed.
-/
import Derived.Test.YtpcnfoaoajfhlaaDoorLkF
import Derived.Deep.LoopGhost
namespace Go.Proofs.YtpcnfoaoajfhlaaDoor
set_option linter.unusedVariables false
set_option linter.unusedSimpArgs false
open Go.RowKit

def IsTextsK (w : World) (v : Value) (n : Nat) : Prop := ∃ a c, v = .slice a n c ∧ n ≤ maxLen ∧ ∀ i, i < n → ∃ b o s, a = some ⟨b, o, none⟩ ∧ w.cell? ⟨b, o + i, none⟩ = some (.string s) ∧ s.size ≤ maxLen
def dX : Deed := ⟨3, false, ⟨#[120]⟩⟩
def dY : Deed := ⟨3, false, ⟨#[121]⟩⟩
theorem first_x : putO [] 3 ⟨#[120]⟩ = ⟨[dX], 1, 0⟩ := by kernel_rfl
theorem first_y : putO [dX] 3 ⟨#[121]⟩ = ⟨[dX, dY], 2, 0⟩ := by kernel_rfl
theorem first_cut : (flatD [dX, dY] ++ ([] : List Nat)).take (keepN 0 3 6) = flatD ([dX, dY].take 1) ++ [] := by decide
theorem first_read : atO [dX] 3 ([dX].length : Nat) = (⟨3, 1, 1, false, ⟨#[120]⟩⟩, 0) := by kernel_rfl
theorem first_fits : Fits [dX] := by
  intro i hi
  obtain rfl : i = 0 := by simp at hi; omega
  exact ⟨by kernel_rfl, by kernel_rfl⟩
set_option maxRecDepth 100000 in
set_option maxHeartbeats 64000000 in
theorem lkeeps_w (vk vt vd vs vf vp : Value) (ks ds ss fs ps : List Int) (nt : Nat) (w : World) (hk : IntsIs w vk ks) (ht : IsTextsK w vt nt) (hd : IntsIs w vd ds) (hs : IntsIs w vs ss) (hf : IntsIs w vf fs) (hfb : ∀ z ∈ fs, z ≤ 9223372036854775807) (hp : IntsIs w vp ps) (hg : HasErr w) :
    Calls Tryd.prog 4 #[vk, vt, vd, vs, vf, vp] w fun e w' => e = .returned (.bool true) ∧ Below w.heap.size w w' := by
  have HG : Hid (HasErr w) := hg
  have HFb : Hid (∀ z ∈ fs, z ≤ 9223372036854775807) := hfb
  obtain ⟨pk, ck, nk, rfl, HNk, hk63, HK⟩ : ∃ pk ck nk, vk = .slice pk nk ck ∧ Hid (ks.length = nk) ∧ nk ≤ 9223372036854775807 ∧ Hid (IntsIs w (.slice pk nk ck) ks) := by
    obtain ⟨h1, p', c', rfl, _⟩ := id hk; exact ⟨p', c', _, rfl, rfl, by unfold maxLen at h1; omega, hk⟩
  obtain ⟨pd, cd0, nd, rfl, HNd, hd63, HD⟩ : ∃ pk ck nk, vd = .slice pk nk ck ∧ Hid (ds.length = nk) ∧ nk ≤ 9223372036854775807 ∧ Hid (IntsIs w (.slice pk nk ck) ds) := by
    obtain ⟨h1, p', c', rfl, _⟩ := id hd; exact ⟨p', c', _, rfl, rfl, by unfold maxLen at h1; omega, hd⟩
  obtain ⟨pS, cS, nS, rfl, HNs, hs63, HSy⟩ : ∃ pk ck nk, vs = .slice pk nk ck ∧ Hid (ss.length = nk) ∧ nk ≤ 9223372036854775807 ∧ Hid (IntsIs w (.slice pk nk ck) ss) := by
    obtain ⟨h1, p', c', rfl, _⟩ := id hs; exact ⟨p', c', _, rfl, rfl, by unfold maxLen at h1; omega, hs⟩
  obtain ⟨pf, cf0, nf, rfl, HNf, hf63, HF⟩ : ∃ pk ck nk, vf = .slice pk nk ck ∧ Hid (fs.length = nk) ∧ nk ≤ 9223372036854775807 ∧ Hid (IntsIs w (.slice pk nk ck) fs) := by
    obtain ⟨h1, p', c', rfl, _⟩ := id hf; exact ⟨p', c', _, rfl, rfl, by unfold maxLen at h1; omega, hf⟩
  obtain ⟨pp, cp, np, rfl, HNp, hp63, HP⟩ : ∃ pk ck nk, vp = .slice pk nk ck ∧ Hid (ps.length = nk) ∧ nk ≤ 9223372036854775807 ∧ Hid (IntsIs w (.slice pk nk ck) ps) := by
    obtain ⟨h1, p', c', rfl, _⟩ := id hp; exact ⟨p', c', _, rfl, rfl, by unfold maxLen at h1; omega, hp⟩
  obtain ⟨pt, ct, rfl, ht63, ht1⟩ := ht
  have HT : Hid (∀ i, i < nt → ∃ b o s, pt = some ⟨b, o, none⟩ ∧ w.cell? ⟨b, o + i, none⟩ = some (.string s) ∧ s.size ≤ maxLen) := ht1
  unfold maxLen at ht63
  clear hk hd hs hf hp hfb hg ht1
  go_enter Tryd.func4, Tryd.ntmps4
  go_wp2_with fail
  refine (lgNew_c w).mono ?_
  rintro e w1 ⟨j1, rfl, ⟨S, hm, hS⟩, hb⟩
  have H1 : Hid (Lh w.heap.size w w1 j1 [] [] 0 (-1) false) := ⟨⟨S, hm, hS⟩, hb, hb.size⟩
  clear hm hS hb
  obtain ⟨S, h1', h2'⟩ := H1.out.call
  have HS : Hid _ := h1'
  have HC : Hid _ := h2'
  clear h1' h2' H1
  go_wp2_with fail
  refine (lgPut_c (t := ⟨#[120]⟩) (by unfold maxLen; decide) HS.out (by decide) (by omega) (fun _ => by omega) first_x (fun e => absurd rfl e) (fun _ => ⟨rfl, by omega, by omega, by decide⟩)).mono ?_
  rw [if_pos rfl, errZ, show lfN (-1) = -1 from rfl]
  rintro e w2 ⟨rfl, hto⟩
  have H2 : Hid (Lh w.heap.size w w2 j1 [dX] [] 0 (-1) false) := HC.out _ _ _ _ _ _ hto
  clear hto HS HC
  obtain ⟨S, h1', h2'⟩ := H2.out.call
  have HS : Hid _ := h1'
  have HC : Hid _ := h2'
  clear h1' h2' H2
  go_wp2_with fail
  refine (lgSync_go (n := 3) HS.out (by omega) (by omega) (by decide)).mono ?_
  rw [show lfN (-1) = -1 from rfl]
  rintro e w3 ⟨rfl, hto⟩
  have H3 : Hid (Lh w.heap.size w w3 j1 [dX] [] 3 (-1) false) := HC.out _ _ _ _ _ _ hto
  clear hto HS HC
  obtain ⟨S, h1', h2'⟩ := H3.out.call
  have HS : Hid _ := h1'
  have HC : Hid _ := h2'
  clear h1' h2' H3
  go_wp2_with fail
  refine (lgPut_c (t := ⟨#[121]⟩) (by unfold maxLen; decide) HS.out (by decide) (by omega) (fun _ => by omega) first_y (fun e => absurd rfl e) (fun _ => ⟨rfl, by omega, by omega, by decide⟩)).mono ?_
  rw [if_pos rfl, errZ, show lfN (-1) = -1 from rfl]
  rintro e w4 ⟨rfl, hto⟩
  have H4 : Hid (Lh w.heap.size w w4 j1 [dX, dY] [] 3 (-1) false) := HC.out _ _ _ _ _ _ hto
  clear hto HS HC
  obtain ⟨S, h1', h2'⟩ := H4.out.call
  have HS : Hid _ := h1'
  have HC : Hid _ := h2'
  clear h1' h2' H4
  go_wp2_with fail
  refine (lgCrash_c (m := 1) (p' := []) (n := 6) 0 HS.out (by decide) (by omega) (by omega) first_fits (by decide) (by decide) first_cut (by intro a b r e; cases e) (by intro x hx; cases hx)).mono ?_
  rintro e w5 ⟨rfl, hto⟩
  have H5 : Hid (Lh w.heap.size w w5 j1 [dX] [] 3 (-1) false) := HC.out _ _ _ _ _ _ hto
  clear hto HS HC
  obtain ⟨S, h1', h2'⟩ := H5.out.call
  have HS : Hid _ := h1'
  clear h1' h2'
  go_wp2_with fail
  refine (lgRead_c HS.out (congrArg Prod.fst first_read) (congrArg Prod.snd first_read)).mono ?_
  rw [errZ]
  rintro e w6 ⟨rfl, hb⟩
  have H6 : Hid (Lh w.heap.size w (w6.alloc (.cells #[.int .i64 3, .int .i64 1, .int .i64 1, .bool false, .string ⟨#[120]⟩] 38)) j1 [dX] [] 3 (-1) false) := H5.out.grown (hb.alloc hb.size _)
  have HX6 : Hid (BoxAt (w6.alloc (.cells #[.int .i64 3, .int .i64 1, .int .i64 1, .bool false, .string ⟨#[120]⟩] 38)) w6.heap.size 3 1 1 false ⟨#[120]⟩) := box_new w6 _ _ _ _ _ _ rfl
  obtain ⟨w7, HW7⟩ : ∃ w7, w7 = w6.alloc (.cells #[.int .i64 3, .int .i64 1, .int .i64 1, .bool false, .string ⟨#[120]⟩] 38) := ⟨_, rfl⟩
  obtain ⟨X, HXX⟩ : ∃ X, X = w6.heap.size := ⟨_, rfl⟩
  rw [← HW7] at H6
  rw [← HW7, ← HXX] at HX6
  clear hb HS H5
  go_upto_region 7 with fail
  rw [← HW7, ← HXX]
  clear HW7 HXX
  obtain ⟨S, h1', h2'⟩ := H6.out.call
  have HS : Hid _ := h1'
  clear h1' h2'
  obtain ⟨c0, c1, c2, c3, c4, cf⟩ := HX6.out
  have lX := HX6.out.lt
  go_wp2_with (first | (go_at_call 20; refine (lgSeq_c (n := 1) HS.out rfl).mono ?_; rintro e w' ⟨rfl, hw⟩; rw [hw]; clear hw w') | (go_at_call 22; refine (lgSafe_c HS.out).mono ?_; rintro e w' ⟨rfl, hw⟩; rw [hw]; clear hw w') | (go_at_call 21; refine (lgBytes_c (n := 3) HS.out (by decide)).mono ?_; rintro e w' ⟨rfl, hw⟩; rw [hw]; clear hw w'))
  clear c0 c1 c2 c3 c4 cf lX HX6 HS
  have B7 : Hid (Below w.heap.size w w7 ∧ w.heap.size ≤ w7.heap.size) := ⟨H6.out.bel, H6.out.hN⟩
  clear H6
  refine (lgNew_c w7).mono ?_
  rintro e w8 ⟨j, rfl, ⟨S, hm, hS⟩, hb⟩
  have HI0 : Hid _ := kp_new (N := w.heap.size) (w0 := w) hm (fun c hc => Nat.le_trans B7.out.2 (hS c hc)) (B7.out.1.trans (hb.mono B7.out.2)) (Nat.le_trans B7.out.2 hb.size)
  clear hm hS hb B7
  go_upto_block 0 with fail
  obtain ⟨w9, HW9⟩ : ∃ w9, w9 = (((w8.alloc (.cells #[.slice none 0 0] 59)).alloc (.cells #[.pointer (some ⟨w8.heap.size, 0, none⟩)] 57)).alloc (.cells #[.int .i64 0] 3)) := ⟨_, rfl⟩
  rw [← HW9] at HI0 ⊢
  clear HW9
  go_wp2_with fail
  go_loopw [22, 23, 24, 25] (fun c22 c23 c24 c25 wr => ∃ (r a : Nat) (l : List Deed) (p : List Nat) (sf : Nat) (lf : Int) (st : Bool) (gd cd gm cm nn : Nat), r ≤ 4 ∧ a ≤ 12 * r ∧ c22 = .slice (some ⟨gd, 0, none⟩) (nn + 1) cd ∧ c23 = .slice (some ⟨gm, 0, none⟩) (nn + 1) cm ∧ c24 = .int .i64 a ∧ c25 = .int .i64 r ∧ Hid (KpI w.heap.size w wr j l p sf lf st gd cd gm cm nn) ∧ Hid (LgOk l p sf lf st a)) (fun _ _ _ c25 _ => 4 - (intOf c25).toNat)
  case atStart => exact ⟨0, 0, [], [], 0, -1, false, _, _, _, _, 0, by omega, by omega, rfl, rfl, rfl, rfl, HI0, ok_new⟩
  case round =>
    obtain ⟨r, a, l, p, sf, lf, st, gd, cd, gm, cm, nn, hr4, har, rfl, rfl, rfl, rfl, HI, HO⟩ := hrel
    clear HI0
    by_cases h14 : r ≤ nf ∧ r < 4
    · obtain ⟨hrn, hr4'⟩ := h14
      have hd1 : decide ((r : Int) ≤ (nf : Int)) = true := by simp; omega
      have hd2 : decide ((r : Int) < 4) = true := by simp; omega
      go_upto_if 119 with fail
      go_cut [] (fun wd => ∃ lf', Hid (KpI w.heap.size w wd j l p sf lf' st gd cd gm cm nn) ∧ Hid (LgOk l p sf lf' st a))
      case first =>
        try clear_value *
        as_aux_lemma =>
          let _BP : Exit → Act → World → Prop := bodyPost Tryd.prog Tryd.f4 fun _ _ => True
          by_cases hlt : r < nf
          · have hlti : (r : Int) < (nf : Int) := by omega
            obtain ⟨b, o, z, rfl, cz, hz⟩ := ints_at HF.out HI.out.bel.1 HNf.out hlt
            have hzb := HFb.out z hz
            obtain ⟨S, h1', h2'⟩ := HI.out.log
            have HS : Hid _ := h1'
            have HC : Hid _ := h2'
            clear h1' h2'
            go_wp2_with fail
            refine (lgFail_c z HS.out).mono ?_
            rintro e w2 ⟨rfl, hto⟩
            have HI2 : Hid (KpI w.heap.size w w2 j l p sf z st gd cd gm cm nn) := HC.out _ _ _ _ _ hto
            have HO2 : Hid (LgOk l p sf z st a) := HO.out.fail hzb
            clear hto HS HC cz hz hzb
            go_wp2_with fail
            go_meet
            exact ⟨z, HI2, HO2⟩
          · have hlti : ¬ (r : Int) < (nf : Int) := by omega
            go_wp2_with fail
            go_meet
            exact ⟨lf, HI, HO⟩
      case rest =>
      obtain ⟨lf1, HI1, HO1⟩ := hcut
      obtain ⟨w1, hren⟩ : ∃ y, y = wc := ⟨_, rfl⟩
      subst hren
      clear HI HO hd1 hd2
      go_upto_block 2 with fail
      go_cut [22, 23, 24, 26, 27, 28, 29, 30, 31, 32, 33, 34, 35, 36, 37] (fun c22 c23 c24 _ _ _ _ _ _ _ _ _ _ _ _ wd => ∃ (a : Nat) (l : List Deed) (p : List Nat) (sf : Nat) (lf : Int) (st : Bool) (gd cd gm cm nn : Nat), a ≤ 12 * (r + 1) ∧ c22 = .slice (some ⟨gd, 0, none⟩) (nn + 1) cd ∧ c23 = .slice (some ⟨gm, 0, none⟩) (nn + 1) cm ∧ c24 = .int .i64 a ∧ Hid (KpI w.heap.size w wd j l p sf lf st gd cd gm cm nn) ∧ Hid (LgOk l p sf lf st a))
      case first =>
        try clear_value *
        as_aux_lemma =>
          let _BP : Exit → Act → World → Prop := bodyPost Tryd.prog Tryd.f4 fun _ _ => True
          go_wp2_with fail
          go_loopw [22, 23, 24, 26] (fun c22 c23 c24 c26 wr => ∃ (k a : Nat) (l : List Deed) (p : List Nat) (sf : Nat) (lf : Int) (st : Bool) (gd cd gm cm nn : Nat), k ≤ 12 ∧ a ≤ 12 * r + k ∧ c22 = .slice (some ⟨gd, 0, none⟩) (nn + 1) cd ∧ c23 = .slice (some ⟨gm, 0, none⟩) (nn + 1) cm ∧ c24 = .int .i64 a ∧ c26 = .int .i64 k ∧ Hid (KpI w.heap.size w wr j l p sf lf st gd cd gm cm nn) ∧ Hid (LgOk l p sf lf st a)) (fun _ _ _ c26 _ => 12 - (intOf c26).toNat)
          case atStart => exact ⟨0, a, l, p, sf, lf1, st, gd, cd, gm, cm, nn, by omega, by omega, rfl, rfl, rfl, rfl, HI1, HO1⟩
          case round =>
            clear HI1 HO1 har
            obtain ⟨k, a, l, p, sf, lf, st, gd, cd, gm, cm, nn, hk12, hak, rfl, rfl, rfl, rfl, HI, HO⟩ := hrel
            by_cases h19 : k < 12 ∧ a < nk
            · obtain ⟨hk12', hank⟩ := h19
              have hd3 : decide ((k : Int) < 12) = true := by simp; omega
              have hd4 : decide ((a : Int) < (nk : Int)) = true := by simp; omega
              have hanki : (a : Int) < (nk : Int) := by omega
              have ha47 : a ≤ 47 := by omega
              have hnn : nn ≤ 47 := by have h1 := HI.out.1; have h2 := HO.out.len; omega
              go_upto_region 21 with fail
              go_cut [158] (fun c wd => c = .bool false ∧ ∃ (sf : Nat) (lf : Int) (st : Bool), Hid (KpI w.heap.size w wd j l p sf lf st gd cd gm cm nn) ∧ Hid (LgOk l p sf lf st a))
              case first =>
                try clear_value *
                as_aux_lemma =>
                  let _BP : Exit → Act → World → Prop := bodyPost Tryd.prog Tryd.f4 fun _ _ => True
                  by_cases hns : a < nS
                  · have hnsi : (a : Int) < (nS : Int) := by omega
                    obtain ⟨b, o, z, rfl, cz, _⟩ := ints_at HSy.out HI.out.bel.1 HNs.out hns
                    by_cases hz1 : z = 1
                    · have hz1b : (z == 1) = true := by simp [hz1]
                      clear hz1
                      obtain ⟨n, HN⟩ : ∃ n, Hid ((flatD l ++ p).length = n) := ⟨_, rfl⟩
                      obtain ⟨S, h1', h2'⟩ := HI.out.log
                      have HS : Hid _ := h1'
                      have HC : Hid _ := h2'
                      clear h1' h2'
                      go_wp2_with fail
                      refine (lkSync_c HS.out HO.out HN.out).mono ?_
                      rintro e w2 ⟨R, sf2, lf2, st2, rfl, hR, hok, hto⟩
                      have HI2 : Hid (KpI w.heap.size w w2 j l p sf2 lf2 st2 gd cd gm cm nn) := HC.out _ _ _ _ _ hto
                      have HO2 : Hid (LgOk l p sf2 lf2 st2 a) := hok
                      clear hto HS HC hok cz
                      by_cases hR0 : R = 0
                      · have hsn : ((sf2 : Int) != (n : Int)) = false := by have := hR hR0; simp; omega
                        subst hR0
                        rw [errZ]
                        clear hR
                        obtain ⟨S, h1', h2'⟩ := HI2.out.log
                        have HS : Hid _ := h1'
                        clear h1' h2'
                        go_wp2_with (first | (go_at_call 22; refine (lgSafe_c HS.out).mono ?_; rintro e w' ⟨rfl, hw⟩; rw [hw]; clear hw w') | (go_at_call 21; refine (lgBytes_c (n := n) HS.out HN.out).mono ?_; rintro e w' ⟨rfl, hw⟩; rw [hw]; clear hw w'))
                        go_meet
                        exact ⟨rfl, sf2, lf2, st2, HI2, HO2⟩
                      · rw [errN hR0]
                        clear hR hR0
                        go_wp2_with fail
                        go_meet
                        exact ⟨rfl, sf2, lf2, st2, HI2, HO2⟩
                    · have hz1b : (z == 1) = false := by simp [hz1]
                      clear hz1
                      go_wp2_with fail
                      go_meet
                      exact ⟨rfl, sf, lf, st, HI, HO⟩
                  · have hnsi : ¬ (a : Int) < (nS : Int) := by omega
                    have hnsb : decide ((a : Int) < (nS : Int)) = false := by simp; omega
                    go_wp2_with fail
                    go_meet
                    exact ⟨rfl, sf, lf, st, HI, HO⟩
              case rest =>
              obtain ⟨h158, sf2, lf2, st2, HI2, HO2⟩ := hcut
              obtain ⟨w2, hren⟩ : ∃ y, y = wc := ⟨_, rfl⟩
              subst hren
              subst h158
              clear HI HO
              obtain ⟨b, G, cb, hrb⟩ := HI2.out.at (i := nn) (Nat.le_refl _)
              have HRb : Hid (RefIs w2 b l G) := by have h := hrb; rw [List.take_of_length_le (by rw [HI2.out.1]; exact Nat.le_refl _)] at h; exact h
              have lgd := World.block_lt_of_cell? w2 _ cb
              have hnw : IntKind.i64.wrap (nn : Int) = (nn : Int) := by rw [IntKind.wrap_i64]; omega
              have hnn1 : (nn : Int) < (nn : Int) + 1 := by omega
              clear hrb
              go_upto_region 24 with fail
              clear cb lgd
              go_wp2_with fail
              refine (refCopy_c HRb.out).mono ?_
              rintro e w3 ⟨nb, G3, rfl, hr3, hG3, hb3⟩
              have HQ3 : Hid (KqJ w.heap.size w w3 j l p sf2 lf2 st2 l gd cd gm cm nn nb l) := HI2.out.next hb3 hr3 hG3
              clear hr3 hG3 hb3 HRb HI2
              obtain ⟨n, HN⟩ : ∃ n, Hid ((flatD l ++ p).length = n) := ⟨_, rfl⟩
              obtain ⟨S, h1', h2'⟩ := HQ3.out.log
              have HS : Hid _ := h1'
              clear h1' h2'
              go_wp2_with fail
              refine (lgBytes_c (n := n) HS.out HN.out).mono ?_
              rintro e w' ⟨rfl, hw⟩
              rw [hw]
              clear hw w' HS
              go_upto_if 172 with fail
              go_cut [30] (fun tv wd => wd = w3 ∧ ∃ tx : ByteArray, tv = .string tx ∧ Hid (tx.size ≤ maxLen))
              case first =>
                try clear_value *
                as_aux_lemma =>
                  let _BP : Exit → Act → World → Prop := bodyPost Tryd.prog Tryd.f4 fun _ _ => True
                  by_cases hn3 : a < nt
                  · obtain ⟨bT, oT, s, rfl, ct, hts⟩ := HT.out a hn3
                    have ct' := old_cellK HQ3.out.bel.1 ct
                    have hn4 : (a : Int) < (nt : Int) := by omega
                    clear ct
                    go_wp2_with fail
                    go_meet
                    exact ⟨rfl, s, rfl, hts⟩
                  · have hn4 : ¬ (a : Int) < (nt : Int) := by omega
                    go_wp2_with fail
                    go_meet
                    exact ⟨rfl, _, rfl, by show _ ≤ maxLen; unfold maxLen; decide⟩
              case rest =>
              obtain ⟨hwd, tx, hslot, HTx⟩ := hcut
              rw [hwd]
              clear hwd wc
              subst hslot
              go_upto_region 33 with fail
              go_cut [187] (fun c wd => wd = w3 ∧ ∃ db : Bool, c = .bool db)
              case first =>
                try clear_value *
                as_aux_lemma =>
                  let _BP : Exit → Act → World → Prop := bodyPost Tryd.prog Tryd.f4 fun _ _ => True
                  by_cases hn3 : a < nd
                  · obtain ⟨bD, oD, z, rfl, cz, _⟩ := ints_at HD.out HQ3.out.bel.1 HNd.out hn3
                    have hn4 : (a : Int) < (nd : Int) := by omega
                    have hn5 : decide ((a : Int) < (nd : Int)) = true := by simp; omega
                    obtain ⟨zb, hzb⟩ : ∃ c : Bool, (z == 1) = c := ⟨_, rfl⟩
                    go_wp2_with fail
                    go_meet
                    exact ⟨rfl, _, rfl⟩
                  · have hn4 : ¬ (a : Int) < (nd : Int) := by omega
                    have hn5 : decide ((a : Int) < (nd : Int)) = false := by simp; omega
                    go_wp2_with fail
                    go_meet
                    exact ⟨rfl, _, rfl⟩
              case rest =>
              obtain ⟨hwd, db, hslot⟩ := hcut
              rw [hwd]
              clear hwd wc
              subst hslot
              go_upto_if 187 with fail
              go_cut [31, 32, 33, 34] (fun c31 c32 c33 c34 wd => ∃ (W E n1 R : Int) (ER : Value) (o : Out) (d : Deed) (l' : List Deed) (p' : List Nat) (lf' : Int) (st' : Bool), c31 = .int .i64 W ∧ c32 = .int .i64 E ∧ c33 = .int .i64 n1 ∧ c34 = ER ∧ Hid (errV R = ER) ∧ Hid (W = o.num ∧ E = o.err) ∧ Hid (Did o d l p sf2 a n1 R l' p' lf' st') ∧ Hid (KqJ w.heap.size w wd j l' p' sf2 lf' st' l gd cd gm cm nn nb o.done))
              case first =>
                try clear_value *
                as_aux_lemma =>
                  let _BP : Exit → Act → World → Prop := bodyPost Tryd.prog Tryd.f4 fun _ _ => True
                  obtain ⟨bK, oK, z, rfl, cz, _⟩ := ints_at HK.out (Below.refl _ _) HNk.out hank
                  have cz0 : Hid (∀ w', Below w.heap.size w w' → w'.cell? ⟨bK, oK + a, none⟩ = some (.int .i64 z)) := fun w' hb => old_cellK hb cz
                  replace cz := cz0.out _ HQ3.out.bel.1
                  cases db with
                  | true =>
                    obtain ⟨G, hr, hturn⟩ := HQ3.out.turn
                    have HR : Hid _ := hr
                    have HTu : Hid _ := hturn
                    clear hr hturn
                    go_wp2_with fail
                    refine (refDelete_c nb z l G _ HR.out).mono ?_
                    rintro e w4 ⟨rfl, hleft⟩
                    have HQ4 : Hid (KqJ w.heap.size w w4 j l p sf2 lf2 st2 l gd cd gm cm nn nb (delO l z).done) := HTu.out _ _ hleft
                    clear hleft HR HTu cz
                    have cz2' := cz0.out _ HQ4.out.bel.1
                    obtain ⟨S, h1', h2'⟩ := HQ4.out.log
                    have HS : Hid _ := h1'
                    have HC : Hid _ := h2'
                    clear h1' h2'
                    go_wp2_with fail
                    refine (lkDel_c HS.out HO2.out (by omega)).mono ?_
                    rintro e w5 ⟨n1, R, l', p', lf', st', rfl, hdid, hto⟩
                    have HQ5 : Hid (KqJ w.heap.size w w5 j l' p' sf2 lf' st' l gd cd gm cm nn nb (delO l z).done) := HC.out _ _ _ _ _ _ hto
                    have HDid : Hid (Did (delO l z) ⟨z, true, ⟨#[]⟩⟩ l p sf2 a n1 R l' p' lf' st') := hdid
                    obtain ⟨ER, HER⟩ : ∃ ER, Hid (errV R = ER) := ⟨_, rfl⟩
                    rw [HER.out]
                    clear hto hdid HS HC
                    go_wp2_with fail
                    go_meet
                    exact ⟨_, _, n1, R, ER, delO l z, _, l', p', lf', st', rfl, rfl, rfl, rfl, HER, ⟨rfl, rfl⟩, HDid, HQ5⟩
                  | false =>
                    obtain ⟨G, hr, hturn⟩ := HQ3.out.turn
                    have HR : Hid _ := hr
                    have HTu : Hid _ := hturn
                    clear hr hturn
                    go_wp2_with fail
                    refine (refPut_c nb z tx l G _ HTx.out HR.out).mono ?_
                    rintro e w4 ⟨rfl, hleft⟩
                    have HQ4 : Hid (KqJ w.heap.size w w4 j l p sf2 lf2 st2 l gd cd gm cm nn nb (putO l z tx).done) := HTu.out _ _ hleft
                    clear hleft HR HTu cz
                    have cz2' := cz0.out _ HQ4.out.bel.1
                    obtain ⟨S, h1', h2'⟩ := HQ4.out.log
                    have HS : Hid _ := h1'
                    have HC : Hid _ := h2'
                    clear h1' h2'
                    go_wp2_with fail
                    refine (lkPut_c HTx.out HS.out HO2.out (by omega)).mono ?_
                    rintro e w5 ⟨n1, R, l', p', lf', st', rfl, hdid, hto⟩
                    have HQ5 : Hid (KqJ w.heap.size w w5 j l' p' sf2 lf' st' l gd cd gm cm nn nb (putO l z tx).done) := HC.out _ _ _ _ _ _ hto
                    have HDid : Hid (Did (putO l z tx) ⟨z, false, tx⟩ l p sf2 a n1 R l' p' lf' st') := hdid
                    obtain ⟨ER, HER⟩ : ∃ ER, Hid (errV R = ER) := ⟨_, rfl⟩
                    rw [HER.out]
                    clear hto hdid HS HC
                    go_wp2_with fail
                    go_meet
                    exact ⟨_, _, n1, R, ER, putO l z tx, _, l', p', lf', st', rfl, rfl, rfl, rfl, HER, ⟨rfl, rfl⟩, HDid, HQ5⟩
              case rest =>
              obtain ⟨W, E, n1, R, ER, o, d, l', p', lf', st', h31, h32, h33, h34, HER, HWE, HDid, HQ5⟩ := hcut
              obtain ⟨w5, hren⟩ : ∃ y, y = wc := ⟨_, rfl⟩
              subst hren
              have h34' := h34.symm
              subst h34' h31 h32 h33
              clear HQ3 HO2
              as_aux_lemma =>
                have HErr : Hid (∀ m W, HasErr W → Calls Tryd.prog 28 #[ER, .int .i64 m] W fun e w' => e = .returned (.bool (R == m)) ∧ Below W.heap.size W w') := fun m W hW => by rw [← HER.out]; exact error_any R m W hW
                obtain ⟨sb, HSb⟩ : ∃ c : Bool, Hid ((R == 6) = c) := ⟨_, rfl⟩
                obtain ⟨tb, HTb⟩ : ∃ c : Bool, Hid ((R == E) = c) := ⟨_, rfl⟩
                go_wp2_with fail
                refine Calls.mono (HErr.out 6 _ (HG.out.below HG.out.lt HQ5.out.bel.1)) ?_
                rw [HSb.out]
                rintro e w6 ⟨rfl, hb⟩
                have HQ6 : Hid (KqJ w.heap.size w w6 j l' p' sf2 lf' st' l gd cd gm cm nn nb o.done) := HQ5.out.grown hb
                clear hb HQ5
                go_wp2_with fail
                refine Calls.mono (HErr.out E _ (HG.out.below HG.out.lt HQ6.out.bel.1)) ?_
                rw [HTb.out]
                rintro e w7 ⟨rfl, hb⟩
                have HQ7 : Hid (KqJ w.heap.size w w7 j l' p' sf2 lf' st' l gd cd gm cm nn nb o.done) := HQ6.out.grown hb
                clear hb HQ6 HErr
                go_upto_region 41 with fail
                go_cut [243] (fun c wd => c = .bool false ∧ wd = w7)
                case first =>
                  try clear_value *
                  as_aux_lemma =>
                    let _BP : Exit → Act → World → Prop := bodyPost Tryd.prog Tryd.f4 fun _ _ => True
                    cases sb with
                    | true =>
                      go_wp2_with fail
                      go_meet
                      exact ⟨rfl, rfl⟩
                    | false =>
                      have h6 : R ≠ 6 := by have := HSb.out; simpa using this
                      have hre : R = E ∧ n1 = W := by
                        rcases HDid.out.told with h | ⟨h1, h2⟩
                        · exact absurd h h6
                        · exact ⟨h1.trans HWE.out.2.symm, h2.trans HWE.out.1.symm⟩
                      have htb : tb = true := by rw [← HTb.out]; simp [hre.1]
                      subst htb
                      have hnw : ((n1 : Int) != W) = false := by simp [hre.2]
                      clear hre h6
                      go_wp2_with fail
                      go_meet
                      exact ⟨rfl, rfl⟩
                case rest =>
                obtain ⟨h243, hwd⟩ := hcut
                rw [hwd]
                clear hwd wc
                subst h243
                obtain ⟨rb, HRb⟩ : ∃ c : Bool, Hid ((R == 0) = c) := ⟨_, rfl⟩
                go_upto_region 43 with fail
                go_cut [245] (fun c wd => c = .bool rb ∧ wd = w7)
                case first =>
                  try clear_value *
                  as_aux_lemma =>
                    let _BP : Exit → Act → World → Prop := bodyPost Tryd.prog Tryd.f4 fun _ _ => True
                    by_cases hR : R = 0
                    · have hrb : rb = true := by rw [← HRb.out]; simp [hR]
                      have her : ER = .nilIface := by rw [← HER.out, hR, errZ]
                      subst hrb her
                      go_wp2_with fail
                      go_meet
                      exact ⟨rfl, rfl⟩
                    · have hrb : rb = false := by rw [← HRb.out]; simp [hR]
                      have her : ER = .iface 71 (.int .i64 R) := by rw [← HER.out, errN hR]
                      subst hrb her
                      go_wp2_with fail
                      go_meet
                      exact ⟨rfl, rfl⟩
                case rest =>
                obtain ⟨h245, hwd⟩ := hcut
                rw [hwd]
                clear hwd wc
                subst h245
                go_upto_if 245 with fail
                go_cut [22, 23] (fun c22 c23 wd => ∃ gd cd gm cm nn : Nat, c22 = .slice (some ⟨gd, 0, none⟩) (nn + 1) cd ∧ c23 = .slice (some ⟨gm, 0, none⟩) (nn + 1) cm ∧ Hid (KpI w.heap.size w wd j l' p' sf2 lf' st' gd cd gm cm nn))
                case first =>
                  try clear_value *
                  as_aux_lemma =>
                    let _BP : Exit → Act → World → Prop := bodyPost Tryd.prog Tryd.f4 fun _ _ => True
                    cases rb with
                    | false =>
                      have hR : R ≠ 0 := by have := HRb.out; simpa using this
                      have HI7 : Hid (KpI w.heap.size w w7 j l' p' sf2 lf' st' gd cd gm cm nn) := by
                        have h := HQ7.out
                        rw [HDid.out.bad hR] at h ⊢
                        exact h.drop
                      go_wp2_with fail
                      go_meet
                      exact ⟨gd, cd, gm, cm, nn, rfl, rfl, HI7⟩
                    | true =>
                      have hR : R = 0 := by have := HRb.out; simpa using this
                      obtain ⟨hl', hod, hp0, hp1⟩ := HDid.out.good hR
                      obtain ⟨n2, HN2⟩ : ∃ n2, Hid ((flatD l' ++ p').length = n2) := ⟨_, rfl⟩
                      have hbytes : n + 2 ≤ n2 ∧ n2 ≤ 1000 := by
                        have h1 := HN.out
                        have h2 := HN2.out
                        have h3 := HDid.out.ok.flat (by omega)
                        rw [hp0, List.append_nil] at h1
                        rw [hp1, List.append_nil] at h2
                        rw [h2] at h3
                        rw [hl', flatD_append, List.length_append] at h2
                        have h4 : (flatD [d]).length = d.text.size + 2 := by simp [flatD, encD_length]
                        omega
                      have hbd : decide ((n2 : Int) < (n : Int) + 2) = false := by simp; omega
                      have HP1 : Hid (p' = []) := hp1
                      have HQ8 : Hid _ := HQ7.out
                      rw [hod] at HQ8
                      have HLd : Hid (l' = l ++ [d]) := hl'
                      clear HQ7 hl' hod hp0 hp1 hR
                      obtain ⟨S, h1', h2'⟩ := KqJ.log HQ8.out
                      have HS : Hid _ := h1'
                      clear h1' h2'
                      go_wp2_with fail
                      refine (lgBytes_c (n := n2) HS.out HN2.out).mono ?_
                      rintro e w' ⟨rfl, hw⟩
                      rw [hw]
                      clear hw w' HS
                      obtain ⟨bs, S, X, G, hrow, hbl, hq, hpre, hmark, hlen⟩ := KqJ.append HLd.out (KqJ.grown HQ8.out ((Below.refl w7.heap.size w7).alloc (Nat.le_refl _) (.cells #[.pointer (some ⟨nb, 0, none⟩)] 57)))
                      have HOa : Hid _ := hrow
                      have HVa : Hid ((w7.alloc (.cells #[.pointer (some ⟨nb, 0, none⟩)] 57)).heap[w7.heap.size]? = some (.cells #[.pointer (some ⟨nb, 0, none⟩)] 57 (0, 0))) := alloc_at _ _ _ rfl
                      have HLa : Hid (bs.length ≤ 100) := show _ ≤ _ by omega
                      have HSa : Hid (w.heap.size ≤ (w7.alloc (.cells #[.pointer (some ⟨nb, 0, none⟩)] 57)).heap.size) := hq.k.hN
                      have HKq : Hid _ := hq
                      have HPm : Hid (preL l' = preL l ++ [l'] ∧ markL l' = markL l ++ [(((flatD l').length : Nat) : Int)] ∧ l'.length = nn + 1 ∧ bs.length = nn + 1) := ⟨hpre, hmark, hlen, hbl⟩
                      clear hrow hbl hq hpre hmark hlen HQ8
                      go_wp2_with (at_builtin; refine wp_appPt _ rfl _ _ rfl w.heap.size _ bs nb rfl HOa.out _ rfl HVa.out HLa.out HSa.out ?_)
                      intro vd' wa hown hgrow hat
                      obtain ⟨HKa, g2, cap2, hv3⟩ := kq_step HKq hgrow hown hat HPm.out.2.2.2
                      subst hv3
                      clear hown hgrow hat HKq HOa HVa HLa HSa
                      have HLg : Hid (LgAt S wa j l' p' sf2 lf' st') := HKa.out.lg
                      go_wp2_with fail
                      refine (lgBytes_c (n := n2) HLg.out HN2.out).mono ?_
                      rintro e w' ⟨rfl, hw⟩
                      rw [hw]
                      clear hw w' HLg
                      have HKb : Hid _ := Kp.grown HKa.out ((Below.refl wa.heap.size wa).alloc (Nat.le_refl _) (.cells #[.int .i64 n2] 3))
                      have HVb : Hid ((wa.alloc (.cells #[.int .i64 n2] 3)).heap[wa.heap.size]? = some (.cells #[.int .i64 n2] 3 (0, 0))) := alloc_at _ _ _ rfl
                      have HOb : Hid (OwnI w.heap.size (wa.alloc (.cells #[.int .i64 n2] 3)) (.slice (some ⟨gm, 0, none⟩) (nn + 1) cm) (markL l)) := HKb.out.mks
                      have HLb : Hid ((markL l).length ≤ 100) := show _ ≤ _ by
                        have h1 := HPm.out.2.2.1
                        rw [HLd.out] at h1
                        simp at h1
                        rw [markL_len]
                        omega
                      have HSb2 : Hid (w.heap.size ≤ (wa.alloc (.cells #[.int .i64 n2] 3)).heap.size) := HKb.out.hN
                      go_wp2_with (at_builtin; refine wp_appIm _ rfl _ _ rfl w.heap.size _ (markL l) (n2 : Int) rfl HOb.out _ rfl HVb.out HLb.out HSb2.out ?_)
                      intro vm' wb hown2 hgrow2 hat2
                      have HPm2 : Hid (preL l' = preL l ++ [l'] ∧ markL l' = markL l ++ [(((flatD l').length : Nat) : Int)] ∧ l'.length = nn + 1 ∧ (bs ++ [nb]).length = nn + 1 + 1) := ⟨HPm.out.1, HPm.out.2.1, HPm.out.2.2.1, by rw [List.length_append, HPm.out.2.2.2]; rfl⟩
                      obtain ⟨g3, cap3, hv4, HI9⟩ := km_step HKb hgrow2 hown2 hat2 HPm2 HN2 HP1
                      subst hv4
                      clear hown2 hgrow2 hat2 HPm2 HKb HVb HOb HLb HSb2 HKa hbd hbytes
                      go_wp2_with fail
                      go_meet
                      exact ⟨g2, cap2, g3, cap3, nn + 1, rfl, rfl, HI9⟩
                case rest =>
                obtain ⟨gd5, cd5, gm5, cm5, nn5, h22, h23, HI8⟩ := hcut
                obtain ⟨w8, hren⟩ : ∃ y, y = wc := ⟨_, rfl⟩
                subst hren
                subst h22 h23
                have HO8 : Hid (LgOk l' p' sf2 lf' st' (a + 1)) := HDid.out.ok
                clear HQ7 HDid HER HWE HRb HSb HTb hnw hnn1 HN
                as_aux_lemma =>
                  have hnn5 : nn5 ≤ 48 := by have h1 := HI8.out.1; have h2 := HO8.out.len; omega
                  obtain ⟨b, G, cb, hrb⟩ := HI8.out.at (i := nn5) (Nat.le_refl _)
                  have HRb : Hid (RefIs w8 b l' G) := by have h := hrb; rw [List.take_of_length_le (by rw [HI8.out.1]; exact Nat.le_refl _)] at h; exact h
                  have lgd := World.block_lt_of_cell? w8 _ cb
                  have hnw : IntKind.i64.wrap (nn5 : Int) = (nn5 : Int) := by rw [IntKind.wrap_i64]; omega
                  have hnn1 : (nn5 : Int) < (nn5 : Int) + 1 := by omega
                  clear hrb
                  obtain ⟨S, h1', h2'⟩ := HI8.out.log
                  have HS : Hid _ := h1'
                  clear h1' h2'
                  go_wp2_with fail
                  refine (alike_c HS.out HRb.out (HG.out.below HG.out.lt HI8.out.bel.1)).mono ?_
                  rintro e w9 ⟨rfl, hb⟩
                  have HI9 : Hid (KpI w.heap.size w w9 j l' p' sf2 lf' st' gd5 cd5 gm5 cm5 nn5) := HI8.out.grown hb
                  clear hb HS HI8 HRb cb lgd hnw hnn1
                  go_wp2_with fail
                  go_roundw
                  case rel => exact ⟨k + 1, a + 1, l', p', sf2, lf', st', gd5, cd5, gm5, cm5, nn5, by omega, by omega, rfl, rfl, by go_num, by go_num, HI9, HO8⟩
                  case measure => simp [intOf]; omega
            · by_cases h1 : k < 12
              · have hd3 : decide ((k : Int) < 12) = true := by simp; omega
                have hd4 : decide ((a : Int) < (nk : Int)) = false := by simp; omega
                go_wp2_with fail
                go_meet
                exact ⟨a, l, p, sf, lf, st, gd, cd, gm, cm, nn, by omega, rfl, rfl, rfl, HI, HO⟩
              · have hd3 : decide ((k : Int) < 12) = false := by simp; omega
                go_wp2_with fail
                go_meet
                exact ⟨a, l, p, sf, lf, st, gd, cd, gm, cm, nn, by omega, rfl, rfl, rfl, HI, HO⟩
      case rest =>
      obtain ⟨a2, l2, p2, sf2, lf2, st2, gd2, cd2, gm2, cm2, nn2, ha2, h22, h23, h24, HI2, HO2⟩ := hcut
      obtain ⟨w2, hren⟩ : ∃ y, y = wc := ⟨_, rfl⟩
      subst hren
      subst h22 h23 h24
      clear HI1 HO1
      have hnn2 : nn2 ≤ 48 := by have h1 := HI2.out.1; have h2 := HO2.out.len; omega
      as_aux_lemma =>
        go_upto_if 273 with fail
        go_cut [38] (fun c wd => wd = w2 ∧ ∃ kp : Int, c = .int .i64 kp)
        case first =>
          try clear_value *
          as_aux_lemma =>
            let _BP : Exit → Act → World → Prop := bodyPost Tryd.prog Tryd.f4 fun _ _ => True
            by_cases hlt : r < np
            · have hlti : (r : Int) < (np : Int) := by omega
              obtain ⟨b, o, z, rfl, cz, hz⟩ := ints_at HP.out HI2.out.bel.1 HNp.out hlt
              go_wp2_with fail
              go_meet
              exact ⟨rfl, _, rfl⟩
            · have hlti : ¬ (r : Int) < (np : Int) := by omega
              go_wp2_with fail
              go_meet
              exact ⟨rfl, _, rfl⟩
        case rest =>
        obtain ⟨hwd, kp, hslot⟩ := hcut
        rw [hwd]
        clear hwd wc
        subst hslot
        obtain ⟨n, HN⟩ : ∃ n, Hid ((flatD l2 ++ p2).length = n) := ⟨_, rfl⟩
        obtain ⟨H, HH⟩ : ∃ H, Hid (keepN kp sf2 n = H) := ⟨_, rfl⟩
        obtain ⟨m, p', hm, hno, h256, hct, hiff, hok⟩ := lk_cut HO2.out HN.out kp
        have HCt : Hid (m ≤ l2.length ∧ NoRec p' ∧ (∀ x ∈ p', x < 256) ∧ (flatD l2 ++ p2).take (keepN kp sf2 n) = flatD (l2.take m) ++ p') := ⟨hm, hno, h256, hct⟩
        rw [HH.out] at hiff
        have HIff : Hid (∀ i, i ≤ l2.length → (lenD l2 i ≤ H ↔ i ≤ m)) := hiff
        have HOk : Hid (LgOk (l2.take m) [] (flatD (l2.take m)).length (-1) false a2) := hok
        have hmn : m ≤ nn2 := by rw [← HI2.out.1]; exact hm
        have hsn : sf2 ≤ n ∧ n ≤ 100000 := by
          have h1 := HO2.out.hsf
          have h2 := HO2.out.flat (by omega)
          have h3 := HN.out
          have h4 := HO2.out.pl
          rw [List.length_append] at h1 h3
          omega
        clear hm hno h256 hct hiff hok
        obtain ⟨S, h1', h2'⟩ := HI2.out.log
        have HS : Hid _ := h1'
        clear h1' h2'
        go_wp2_with (first | (go_at_call 21; refine (lgBytes_c (n := n) HS.out HN.out).mono ?_; rintro e w' ⟨rfl, hw⟩; rw [hw]; clear hw w') | (go_at_call 22; refine (lgSafe_c HS.out).mono ?_; rintro e w' ⟨rfl, hw⟩; rw [hw]; clear hw w'))
        clear HS
        obtain ⟨S, h1', h2'⟩ := HI2.out.crash
        have HS : Hid _ := h1'
        have HC : Hid _ := h2'
        clear h1' h2'
        refine (lgCrash_c (m := m) (p' := p') (n := n) kp HS.out HN.out hsn.2 hsn.1 HOk.out.fit HOk.out.tx HOk.out.ky HCt.out.2.2.2 HCt.out.2.1 HCt.out.2.2.1).mono ?_
        rintro e w3 ⟨rfl, hto⟩
        have HI3 : Hid (KpC w.heap.size w w3 j l2 m [] (flatD (l2.take m)).length (-1) false gd2 cd2 gm2 cm2 nn2) := HC.out _ _ _ _ _ _ hto
        clear hto HS HC HI2 HO2 HCt HN
        obtain ⟨ab, HAb⟩ : ∃ c : Bool, Hid ((decide (0 < kp) && decide (kp < (n : Int) - (sf2 : Int))) = c) := ⟨_, rfl⟩
        have hwns : IntKind.i64.wrap ((n : Int) - (sf2 : Int)) = (n : Int) - (sf2 : Int) := by rw [IntKind.wrap_i64]; omega
        go_upto_region 58 with fail
        go_cut [294] (fun c wd => wd = w3 ∧ c = .bool ab)
        case first =>
          try clear_value *
          as_aux_lemma =>
            let _BP : Exit → Act → World → Prop := bodyPost Tryd.prog Tryd.f4 fun _ _ => True
            by_cases h0 : 0 < kp
            · have h0b : decide (0 < kp) = true := by simpa using h0
              have hab : ab = decide (kp < (n : Int) - (sf2 : Int)) := by rw [← HAb.out, h0b]; rfl
              obtain ⟨xb, hxb⟩ : ∃ c : Bool, decide (kp < (n : Int) - (sf2 : Int)) = c := ⟨_, rfl⟩
              rw [hxb] at hab
              subst hab
              go_wp2_with fail
              go_meet
              exact ⟨rfl, rfl⟩
            · have h0b : decide (0 < kp) = false := by simpa using h0
              have hab : ab = false := by rw [← HAb.out, h0b]; rfl
              subst hab
              go_wp2_with fail
              go_meet
              exact ⟨rfl, rfl⟩
        case rest =>
        obtain ⟨hwd, h294⟩ := hcut
        rw [hwd]
        clear hwd wc hwns
        subst h294
        go_upto_if 294 with fail
        go_cut [41] (fun c wd => wd = w3 ∧ c = .int .i64 (H : Nat))
        case first =>
          try clear_value *
          as_aux_lemma =>
            let _BP : Exit → Act → World → Prop := bodyPost Tryd.prog Tryd.f4 fun _ _ => True
            cases ab with
            | true =>
              have h := HAb.out
              simp only [Bool.and_eq_true, decide_eq_true_eq] at h
              obtain ⟨kn, rfl⟩ : ∃ kn : Nat, kp = kn := ⟨kp.toNat, by omega⟩
              have hH : (sf2 : Int) + (kn : Int) = (H : Int) := by
                have h2 := HH.out
                rw [keepN, if_neg (by omega), if_pos (by omega)] at h2
                rw [← h2]
                simp
              have hwH : IntKind.i64.wrap (H : Int) = (H : Int) := by rw [IntKind.wrap_i64]; omega
              clear h
              go_wp2_with fail
              go_meet
              exact ⟨rfl, rfl⟩
            | false =>
              by_cases h0 : 0 < kp
              · have h0b : decide (0 < kp) = true := by simpa using h0
                have hH : n = H := by
                  have h := HAb.out
                  rw [h0b, Bool.true_and] at h
                  have h' : ¬ kp < (n : Int) - (sf2 : Int) := by simpa using h
                  have h2 := HH.out
                  rw [keepN, if_neg (by omega)] at h2
                  split at h2 <;> omega
                subst hH
                go_wp2_with fail
                go_meet
                exact ⟨rfl, rfl⟩
              · have h0b : decide (0 < kp) = false := by simpa using h0
                have hH : sf2 = H := by
                  have h2 := HH.out
                  rw [keepN, if_pos (by omega)] at h2
                  exact h2
                subst hH
                go_wp2_with fail
                go_meet
                exact ⟨rfl, rfl⟩
        case rest =>
        obtain ⟨hwd, h41⟩ := hcut
        rw [hwd]
        clear hwd wc
        subst h41
        go_upto_block 4 with fail
        go_cut [42, 43] (fun c42 _ wd => wd = w3 ∧ c42 = .int .i64 m)
        case first =>
          try clear_value *
          as_aux_lemma =>
            let _BP : Exit → Act → World → Prop := bodyPost Tryd.prog Tryd.f4 fun _ _ => True
            have lm : gm2 < w3.heap.size := World.block_lt_of_cell? w3 _ (HI3.out.mark (i := 0) (Nat.zero_le _))
            go_wp2_with fail
            go_loopw [42, 43] (fun c42 c43 wr => ∃ i L : Nat, i ≤ nn2 + 1 ∧ c43 = .int .i64 i ∧ c42 = .int .i64 L ∧ Hid (L = min (i - 1) m) ∧ wr = w3) (fun _ c43 _ => nn2 + 1 - (intOf c43).toNat)
            case atStart => exact ⟨0, 0, Nat.zero_le _, rfl, rfl, (by show 0 = min (0 - 1) m; omega), rfl⟩
            case round =>
              obtain ⟨i, L, hi, rfl, rfl, HL, hwr⟩ := hrel
              rw [hwr]
              clear hwr wr
              by_cases hlt : i < nn2 + 1
              · have hlti : (i : Int) < (nn2 : Int) + 1 := by omega
                have hlti' : (i : Int) < ((nn2 + 1 : Nat) : Int) := by omega
                have cm := HI3.out.mark (i := i) (by omega)
                have hfi := HIff.out i (by rw [HI3.out.1]; omega)
                generalize lenD l2 i = mk at cm hfi
                by_cases him : i ≤ m
                · have hle : (mk : Int) ≤ (H : Int) := by have := hfi.2 him; omega
                  have HL2 : Hid (i = min (i + 1 - 1) m) := by show i = min (i + 1 - 1) m; omega
                  clear hfi him
                  go_wp2_with fail
                  go_roundw
                  case rel => exact ⟨i + 1, i, by omega, by go_num, rfl, HL2, by trivial⟩
                  case measure => simp [intOf]; omega
                · have hle : ¬ (mk : Int) ≤ (H : Int) := by
                    intro h
                    exact him (hfi.1 (by omega))
                  have HL2 : Hid (L = min (i + 1 - 1) m) := by have := HL.out; show L = min (i + 1 - 1) m; omega
                  clear hfi him
                  go_wp2_with fail
                  go_roundw
                  case rel => exact ⟨i + 1, L, by omega, by go_num, rfl, HL2, by trivial⟩
                  case measure => simp [intOf]; omega
              · have hlti : ¬ (i : Int) < (nn2 : Int) + 1 := by omega
                have hLm : L = m := by have := HL.out; omega
                subst hLm
                go_wp2_with fail
                go_meet
                exact ⟨rfl, rfl⟩
        case rest =>
        obtain ⟨hwd, h42⟩ := hcut
        rw [hwd]
        clear hwd wc
        subst h42
        have HI4 : Hid (KpI w.heap.size w w3 j (l2.take m) [] (flatD (l2.take m)).length (-1) false gd2 cd2 gm2 cm2 m) := HI3.out.cut hmn
        obtain ⟨l4, HL4⟩ : ∃ l4, Hid (l2.take m = l4) := ⟨_, rfl⟩
        obtain ⟨f4, HF4⟩ : ∃ f4, Hid ((flatD l4).length = f4) := ⟨_, rfl⟩
        rw [HL4.out, HF4.out] at HI4
        rw [HL4.out, HF4.out] at HOk
        clear HI3 HIff HH HAb HL4
        obtain ⟨hc1, hc2, hc3, hc4⟩ := HI4.out.caps
        unfold maxLen at hc2 hc4
        have hcd : (m : Int) + 1 ≤ (cd2 : Int) := by omega
        have hcm : (m : Int) + 1 ≤ (cm2 : Int) := by omega
        have hm0 : (0 : Int) ≤ (m : Int) + 1 := by omega
        have hwm : IntKind.i64.wrap ((m : Int) + 1) = (m : Int) + 1 := by rw [IntKind.wrap_i64]; omega
        have hmm1 : (m : Int) < (m : Int) + 1 := by omega
        obtain ⟨b, G, cb, hrb⟩ := HI4.out.at (i := m) (Nat.le_refl _)
        have HRb : Hid (RefIs w3 b l4 G) := by have h := hrb; rw [List.take_of_length_le (by rw [HI4.out.1]; exact Nat.le_refl _)] at h; exact h
        have lgd := World.block_lt_of_cell? w3 _ cb
        obtain ⟨S, h1', h2'⟩ := HI4.out.log
        have HS : Hid _ := h1'
        clear h1' h2' hrb
        go_wp2_with fail
        refine (alike_c HS.out HRb.out (HG.out.below HG.out.lt HI4.out.bel.1)).mono ?_
        rintro e w4 ⟨rfl, hb⟩
        have HI5 : Hid (KpI w.heap.size w w4 j l4 [] f4 (-1) false gd2 cd2 gm2 cm2 m) := HI4.out.grown hb
        clear hb HS HI4 HRb cb lgd hcd hcm hm0 hwm
        have cmk := HI5.out.mark (i := m) (Nat.le_refl _)
        have lgm := World.block_lt_of_cell? w4 _ cmk
        obtain ⟨mk, HMk⟩ : ∃ mk, Hid (lenD l4 m = mk) := ⟨_, rfl⟩
        rw [HMk.out] at cmk
        have hne : ((f4 : Int) != (mk : Int)) = false := by
          have h1 := HMk.out
          rw [lenD_all (by rw [HI5.out.1]; exact Nat.le_refl _), HF4.out] at h1
          simp
          omega
        obtain ⟨S, h1', h2'⟩ := HI5.out.log
        have HS : Hid _ := h1'
        clear h1' h2'
        have HSb : Hid (∀ n, Calls Tryd.prog 21 #[.pointer (some ⟨j, 0, none⟩)] (w4.drewN n) fun e w' => e = .returned (.int .i64 f4) ∧ w' = w4.drewN n) := fun n => lgBytes_c (n := f4) (LgAt.grown HS.out (below_drewS _ w4 n)) (by rw [List.append_nil]; exact HF4.out)
        have HSs : Hid (∀ n, Calls Tryd.prog 22 #[.pointer (some ⟨j, 0, none⟩)] (w4.drewN n) fun e w' => e = .returned (.int .i64 f4) ∧ w' = w4.drewN n) := fun n => lgSafe_c (LgAt.grown HS.out (below_drewS _ w4 n))
        go_upto_region 71 with fail
        go_cut [347] (fun c wd => c = .bool false ∧ Hid (Below w4.heap.size w4 wd))
        case first =>
          try clear_value *
          as_aux_lemma =>
            let _BP : Exit → Act → World → Prop := bodyPost Tryd.prog Tryd.f4 fun _ _ => True
            go_quiet (first | (go_at_call 21; exact Calls.quiet_of_same (HSb.out _)) | (go_at_call 22; exact Calls.quiet_of_same (HSs.out _)))
            go_wp2_with fail
            go_meet
            exact ⟨rfl, below_drewS _ _ _⟩
        case rest =>
        obtain ⟨h347, HB⟩ := hcut
        subst h347
        have HI6 : Hid (KpI w.heap.size w wc j l4 [] f4 (-1) false gd2 cd2 gm2 cm2 m) := HI5.out.grown HB.out
        clear HI5 HB HS HSb HSs cmk lgm hne HMk
        go_wp2_with fail
        go_roundw
        case rel => exact ⟨r + 1, a2, l4, [], f4, -1, false, gd2, cd2, gm2, cm2, m, by omega, by omega, rfl, rfl, rfl, by go_num, HI6, HOk⟩
        case measure => simp [intOf]; omega
    · by_cases h1 : r ≤ nf
      · have hd1 : decide ((r : Int) ≤ (nf : Int)) = true := by simp; omega
        have hd2 : decide ((r : Int) < 4) = false := by simp; omega
        go_wp2_with fail
        go_ret
        exact ⟨rfl, HI.out.bel.1⟩
      · have hd1 : decide ((r : Int) ≤ (nf : Int)) = false := by simp; omega
        go_wp2_with fail
        go_ret
        exact ⟨rfl, HI.out.bel.1⟩
end Go.Proofs.YtpcnfoaoajfhlaaDoor
