/-
  merelaw3.LogKeeps answers true, whatever is put and deleted, made safe, stopped and crashed.
-/
import Derived.Test.YtpcnfoaoajfhlaaDoorLKb
namespace Go.Proofs.YtpcnfoaoajfhlaaDoor
set_option linter.unusedVariables false
set_option linter.unusedSimpArgs false
open Go.RowKit

set_option maxRecDepth 100000 in
set_option maxHeartbeats 64000000 in
theorem lkeeps_w (vk vt vd vs vf vp : Value) (ks ds ss fs ps : List Int) (nt : Nat) (w : World) (hk : IntsIs w vk ks) (ht : IsTextsK w vt nt) (hd : IntsIs w vd ds) (hs : IntsIs w vs ss) (hf : IntsIs w vf fs) (hfb : ∀ z ∈ fs, z ≤ 9223372036854775807) (hp : IntsIs w vp ps) (hg : HasErr w) :
    Calls Tryd.prog 4 #[vk, vt, vd, vs, vf, vp] w fun e w' => e = .returned (.bool true) ∧ Below w.heap.size w w' := by
  have HG : Hid (HasErr w) := hg
  have HFb : Hid (∀ z ∈ fs, z ≤ 9223372036854775807) := hfb
  obtain ⟨pk, ck, nk, rfl, HNk, hk63, HK⟩ : ∃ pk ck nk, vk = .slice pk nk ck ∧ Hid (ks.length = nk) ∧ nk ≤ 9223372036854775807 ∧ Hid (IntsIs w (.slice pk nk ck) ks) := by
    obtain ⟨h1, p', c', rfl, _⟩ := id hk; exact ⟨p', c', _, rfl, rfl, by unfold maxLen at h1; omega, hk⟩
  obtain ⟨pd, cd0, nd, rfl, HNd, hd63, HD⟩ : ∃ pk ck nk, vd = .slice pk nk ck ∧ Hid (ds.length = nk) ∧ nk ≤ 9223372036854775807 ∧ Hid (IntsIs w (.slice pk nk ck) ds) := by
    obtain ⟨h1, p', c', rfl, _⟩ := id hd; exact ⟨p', c', _, rfl, rfl, by unfold maxLen at h1; omega, hd⟩
  obtain ⟨pS, cS, nS, rfl, HNs, hs63, HSy⟩ : ∃ pk ck nk, vs = .slice pk nk ck ∧ Hid (ss.length = nk) ∧ nk ≤ 9223372036854775807 ∧ Hid (IntsIs w (.slice pk nk ck) ss) := by
    obtain ⟨h1, p', c', rfl, _⟩ := id hs; exact ⟨p', c', _, rfl, rfl, by unfold maxLen at h1; omega, hs⟩
  obtain ⟨pf, cf0, nf, rfl, HNf, hf63, HF⟩ : ∃ pk ck nk, vf = .slice pk nk ck ∧ Hid (fs.length = nk) ∧ nk ≤ 9223372036854775807 ∧ Hid (IntsIs w (.slice pk nk ck) fs) := by
    obtain ⟨h1, p', c', rfl, _⟩ := id hf; exact ⟨p', c', _, rfl, rfl, by unfold maxLen at h1; omega, hf⟩
  obtain ⟨pp, cp, np, rfl, HNp, hp63, HP⟩ : ∃ pk ck nk, vp = .slice pk nk ck ∧ Hid (ps.length = nk) ∧ nk ≤ 9223372036854775807 ∧ Hid (IntsIs w (.slice pk nk ck) ps) := by
    obtain ⟨h1, p', c', rfl, _⟩ := id hp; exact ⟨p', c', _, rfl, rfl, by unfold maxLen at h1; omega, hp⟩
  obtain ⟨pt, ct, rfl, ht63, ht1⟩ := ht
  have HT : Hid (∀ i, i < nt → ∃ b o s, pt = some ⟨b, o, none⟩ ∧ w.cell? ⟨b, o + i, none⟩ = some (.string s) ∧ s.size ≤ maxLen) := ht1
  unfold maxLen at ht63
  clear hk hd hs hf hp hfb hg ht1
  go_enter Tryd.func4, Tryd.ntmps4
  go_wp2_with fail
  refine (lgNew_c w).mono ?_
  rintro e w1 ⟨j1, rfl, ⟨S, hm, hS⟩, hb⟩
  have H1 : Hid (Lh w.heap.size w w1 j1 [] [] 0 (-1) false) := ⟨⟨S, hm, hS⟩, hb, hb.size⟩
  clear hm hS hb
  obtain ⟨S, h1', h2'⟩ := H1.out.call
  have HS : Hid _ := h1'
  have HC : Hid _ := h2'
  clear h1' h2' H1
  go_wp2_with fail
  refine (lgPut_c (t := ⟨#[120]⟩) (by unfold maxLen; decide) HS.out (by decide) (by omega) (fun _ => by omega) first_x (fun e => absurd rfl e) (fun _ => ⟨rfl, by omega, by omega, by decide⟩)).mono ?_
  rw [if_pos rfl, errZ, show lfN (-1) = -1 from rfl]
  rintro e w2 ⟨rfl, hto⟩
  have H2 : Hid (Lh w.heap.size w w2 j1 [dX] [] 0 (-1) false) := HC.out _ _ _ _ _ _ hto
  clear hto HS HC
  obtain ⟨S, h1', h2'⟩ := H2.out.call
  have HS : Hid _ := h1'
  have HC : Hid _ := h2'
  clear h1' h2' H2
  go_wp2_with fail
  refine (lgSync_go (n := 3) HS.out (by omega) (by omega) (by decide)).mono ?_
  rw [show lfN (-1) = -1 from rfl]
  rintro e w3 ⟨rfl, hto⟩
  have H3 : Hid (Lh w.heap.size w w3 j1 [dX] [] 3 (-1) false) := HC.out _ _ _ _ _ _ hto
  clear hto HS HC
  obtain ⟨S, h1', h2'⟩ := H3.out.call
  have HS : Hid _ := h1'
  have HC : Hid _ := h2'
  clear h1' h2' H3
  go_wp2_with fail
  refine (lgPut_c (t := ⟨#[121]⟩) (by unfold maxLen; decide) HS.out (by decide) (by omega) (fun _ => by omega) first_y (fun e => absurd rfl e) (fun _ => ⟨rfl, by omega, by omega, by decide⟩)).mono ?_
  rw [if_pos rfl, errZ, show lfN (-1) = -1 from rfl]
  rintro e w4 ⟨rfl, hto⟩
  have H4 : Hid (Lh w.heap.size w w4 j1 [dX, dY] [] 3 (-1) false) := HC.out _ _ _ _ _ _ hto
  clear hto HS HC
  obtain ⟨S, h1', h2'⟩ := H4.out.call
  have HS : Hid _ := h1'
  have HC : Hid _ := h2'
  clear h1' h2' H4
  go_wp2_with fail
  refine (lgCrash_c (m := 1) (p' := []) (n := 6) 0 HS.out (by decide) (by omega) (by omega) first_fits (by decide) (by decide) first_cut (by intro a b r e; cases e) (by intro x hx; cases hx)).mono ?_
  rintro e w5 ⟨rfl, hto⟩
  have H5 : Hid (Lh w.heap.size w w5 j1 [dX] [] 3 (-1) false) := HC.out _ _ _ _ _ _ hto
  clear hto HS HC
  obtain ⟨S, h1', h2'⟩ := H5.out.call
  have HS : Hid _ := h1'
  clear h1' h2'
  go_wp2_with fail
  refine (lgRead_c HS.out (congrArg Prod.fst first_read) (congrArg Prod.snd first_read)).mono ?_
  rw [errZ]
  rintro e w6 ⟨rfl, hb⟩
  have H6 : Hid (Lh w.heap.size w (w6.alloc (.cells #[.int .i64 3, .int .i64 1, .int .i64 1, .bool false, .string ⟨#[120]⟩] 38)) j1 [dX] [] 3 (-1) false) := H5.out.grown (hb.alloc hb.size _)
  have HX6 : Hid (BoxAt (w6.alloc (.cells #[.int .i64 3, .int .i64 1, .int .i64 1, .bool false, .string ⟨#[120]⟩] 38)) w6.heap.size 3 1 1 false ⟨#[120]⟩) := box_new w6 _ _ _ _ _ _ rfl
  obtain ⟨w7, HW7⟩ : ∃ w7, w7 = w6.alloc (.cells #[.int .i64 3, .int .i64 1, .int .i64 1, .bool false, .string ⟨#[120]⟩] 38) := ⟨_, rfl⟩
  obtain ⟨X, HXX⟩ : ∃ X, X = w6.heap.size := ⟨_, rfl⟩
  rw [← HW7] at H6
  rw [← HW7, ← HXX] at HX6
  clear hb HS H5
  go_upto_region 7 with fail
  rw [← HW7, ← HXX]
  clear HW7 HXX
  obtain ⟨S, h1', h2'⟩ := H6.out.call
  have HS : Hid _ := h1'
  clear h1' h2'
  obtain ⟨c0, c1, c2, c3, c4, cf⟩ := HX6.out
  have lX := HX6.out.lt
  go_wp2_with (first | (go_at_call 20; refine (lgSeq_c (n := 1) HS.out rfl).mono ?_; rintro e w' ⟨rfl, hw⟩; rw [hw]; clear hw w') | (go_at_call 22; refine (lgSafe_c HS.out).mono ?_; rintro e w' ⟨rfl, hw⟩; rw [hw]; clear hw w') | (go_at_call 21; refine (lgBytes_c (n := 3) HS.out (by decide)).mono ?_; rintro e w' ⟨rfl, hw⟩; rw [hw]; clear hw w'))
  clear c0 c1 c2 c3 c4 cf lX HX6 HS
  have B7 : Hid (Below w.heap.size w w7 ∧ w.heap.size ≤ w7.heap.size) := ⟨H6.out.bel, H6.out.hN⟩
  clear H6
  refine (lgNew_c w7).mono ?_
  rintro e w8 ⟨j, rfl, ⟨S, hm, hS⟩, hb⟩
  have HI0 : Hid _ := kp_new (N := w.heap.size) (w0 := w) hm (fun c hc => Nat.le_trans B7.out.2 (hS c hc)) (B7.out.1.trans (hb.mono B7.out.2)) (Nat.le_trans B7.out.2 hb.size)
  clear hm hS hb B7
  go_upto_block 0 with fail
  obtain ⟨w9, HW9⟩ : ∃ w9, w9 = (((w8.alloc (.cells #[.slice none 0 0] 59)).alloc (.cells #[.pointer (some ⟨w8.heap.size, 0, none⟩)] 57)).alloc (.cells #[.int .i64 0] 3)) := ⟨_, rfl⟩
  rw [← HW9] at HI0 ⊢
  clear HW9
  go_wp2_with fail
  go_loopw [22, 23, 24, 25] (fun c22 c23 c24 c25 wr => ∃ (r a : Nat) (l : List Deed) (p : List Nat) (sf : Nat) (lf : Int) (st : Bool) (gd cd gm cm nn : Nat), r ≤ 4 ∧ a ≤ 12 * r ∧ c22 = .slice (some ⟨gd, 0, none⟩) (nn + 1) cd ∧ c23 = .slice (some ⟨gm, 0, none⟩) (nn + 1) cm ∧ c24 = .int .i64 a ∧ c25 = .int .i64 r ∧ Hid (KpI w.heap.size w wr j l p sf lf st gd cd gm cm nn) ∧ Hid (LgOk l p sf lf st a)) (fun _ _ _ c25 _ => 4 - (intOf c25).toNat)
  case atStart => exact ⟨0, 0, [], [], 0, -1, false, _, _, _, _, 0, by omega, by omega, rfl, rfl, rfl, rfl, HI0, ok_new⟩
  case round =>
    obtain ⟨r, a, l, p, sf, lf, st, gd, cd, gm, cm, nn, hr4, har, rfl, rfl, rfl, rfl, HI, HO⟩ := hrel
    clear HI0
    by_cases h14 : r ≤ nf ∧ r < 4
    · obtain ⟨hrn, hr4'⟩ := h14
      have hd1 : decide ((r : Int) ≤ (nf : Int)) = true := by simp; omega
      have hd2 : decide ((r : Int) < 4) = true := by simp; omega
      go_upto_if 119 with fail
      go_cut [] (fun wd => ∃ lf', Hid (KpI w.heap.size w wd j l p sf lf' st gd cd gm cm nn) ∧ Hid (LgOk l p sf lf' st a))
      case first =>
        try clear_value *
        as_aux_lemma =>
          let _BP : Exit → Act → World → Prop := bodyPost Tryd.prog Tryd.f4 fun _ _ => True
          by_cases hlt : r < nf
          · have hlti : (r : Int) < (nf : Int) := by omega
            obtain ⟨b, o, z, rfl, cz, hz⟩ := ints_at HF.out HI.out.bel.1 HNf.out hlt
            have hzb := HFb.out z hz
            obtain ⟨S, h1', h2'⟩ := HI.out.log
            have HS : Hid _ := h1'
            have HC : Hid _ := h2'
            clear h1' h2'
            go_wp2_with fail
            refine (lgFail_c z HS.out).mono ?_
            rintro e w2 ⟨rfl, hto⟩
            have HI2 : Hid (KpI w.heap.size w w2 j l p sf z st gd cd gm cm nn) := HC.out _ _ _ _ _ hto
            have HO2 : Hid (LgOk l p sf z st a) := HO.out.fail hzb
            clear hto HS HC cz hz hzb
            go_wp2_with fail
            go_meet
            exact ⟨z, HI2, HO2⟩
          · have hlti : ¬ (r : Int) < (nf : Int) := by omega
            go_wp2_with fail
            go_meet
            exact ⟨lf, HI, HO⟩
      case rest =>
      obtain ⟨lf1, HI1, HO1⟩ := hcut
      obtain ⟨w1, hren⟩ : ∃ y, y = wc := ⟨_, rfl⟩
      subst hren
      clear HI HO hd1 hd2
      go_upto_block 2 with fail
      go_cut [22, 23, 24, 26, 27, 28, 29, 30, 31, 32, 33, 34, 35, 36, 37] (fun c22 c23 c24 _ _ _ _ _ _ _ _ _ _ _ _ wd => ∃ (a : Nat) (l : List Deed) (p : List Nat) (sf : Nat) (lf : Int) (st : Bool) (gd cd gm cm nn : Nat), a ≤ 12 * (r + 1) ∧ c22 = .slice (some ⟨gd, 0, none⟩) (nn + 1) cd ∧ c23 = .slice (some ⟨gm, 0, none⟩) (nn + 1) cm ∧ c24 = .int .i64 a ∧ Hid (KpI w.heap.size w wd j l p sf lf st gd cd gm cm nn) ∧ Hid (LgOk l p sf lf st a))
      case first =>
        try clear_value *
        as_aux_lemma =>
          let _BP : Exit → Act → World → Prop := bodyPost Tryd.prog Tryd.f4 fun _ _ => True
          refine lk_in (fs := fs) (ps := ps) _ ?hC HG HNk hk63 HK HNd hd63 HD HNs hs63 HSy ht63 HT hr4' har HI1 HO1 ?hK
          case hC => kernel_rfl
          case hK =>
            intro _ _ _ _ _ _ _ _ _ _ _ _ _ _ _ _ _ _ _ _ _ _ _ _ _ _ _ _ _ _ _ _ _ _ _ _ _ _ _ _ _ _ _ _ _ _ _ _ _ _ _ _ _ _ _ _ _ _ _ _ _ _ _ _ _ _ _ _ _ _ _ _ _ _ _ _ _ _ _ _ _ _ _ _ _ _ _ _ _ _ _ _ _ _ _ _ _ _ _ _ _ _ _ _ _ _ _ _ _ _ _ _ _ _ _ _ _ _ _ _ _ _ _ _ _ _ _ _ _ _ _ _ _ _ _ _ _ _ _ _ _ _ _ _ _ _ _ _ _ _ _ _ _ _ _ _ _ a2 l2 p2 sf2 lf2 st2 gd2 cd2 gm2 cm2 nn2 wd ha2 HI2 HO2
            dsimp only
            go_step
            go_meet
            exact ⟨a2, l2, p2, sf2, lf2, st2, gd2, cd2, gm2, cm2, nn2, ha2, rfl, rfl, rfl, HI2, HO2⟩
      case rest =>
      obtain ⟨a2, l2, p2, sf2, lf2, st2, gd2, cd2, gm2, cm2, nn2, ha2, h22, h23, h24, HI2, HO2⟩ := hcut
      obtain ⟨w2, hren⟩ : ∃ y, y = wc := ⟨_, rfl⟩
      subst hren
      subst h22 h23 h24
      clear HI1 HO1
      have hnn2 : nn2 ≤ 48 := by have h1 := HI2.out.1; have h2 := HO2.out.len; omega
      as_aux_lemma =>
        go_upto_if 273 with fail
        go_cut [38] (fun c wd => wd = w2 ∧ ∃ kp : Int, c = .int .i64 kp)
        case first =>
          try clear_value *
          as_aux_lemma =>
            let _BP : Exit → Act → World → Prop := bodyPost Tryd.prog Tryd.f4 fun _ _ => True
            by_cases hlt : r < np
            · have hlti : (r : Int) < (np : Int) := by omega
              obtain ⟨b, o, z, rfl, cz, hz⟩ := ints_at HP.out HI2.out.bel.1 HNp.out hlt
              go_wp2_with fail
              go_meet
              exact ⟨rfl, _, rfl⟩
            · have hlti : ¬ (r : Int) < (np : Int) := by omega
              go_wp2_with fail
              go_meet
              exact ⟨rfl, _, rfl⟩
        case rest =>
        obtain ⟨hwd, kp, hslot⟩ := hcut
        rw [hwd]
        clear hwd wc
        subst hslot
        obtain ⟨n, HN⟩ : ∃ n, Hid ((flatD l2 ++ p2).length = n) := ⟨_, rfl⟩
        obtain ⟨H, HH⟩ : ∃ H, Hid (keepN kp sf2 n = H) := ⟨_, rfl⟩
        obtain ⟨m, p', hm, hno, h256, hct, hiff, hok⟩ := lk_cut HO2.out HN.out kp
        have HCt : Hid (m ≤ l2.length ∧ NoRec p' ∧ (∀ x ∈ p', x < 256) ∧ (flatD l2 ++ p2).take (keepN kp sf2 n) = flatD (l2.take m) ++ p') := ⟨hm, hno, h256, hct⟩
        rw [HH.out] at hiff
        have HIff : Hid (∀ i, i ≤ l2.length → (lenD l2 i ≤ H ↔ i ≤ m)) := hiff
        have HOk : Hid (LgOk (l2.take m) [] (flatD (l2.take m)).length (-1) false a2) := hok
        have hmn : m ≤ nn2 := by rw [← HI2.out.1]; exact hm
        have hsn : sf2 ≤ n ∧ n ≤ 100000 := by
          have h1 := HO2.out.hsf
          have h2 := HO2.out.flat (by omega)
          have h3 := HN.out
          have h4 := HO2.out.pl
          rw [List.length_append] at h1 h3
          omega
        clear hm hno h256 hct hiff hok
        obtain ⟨S, h1', h2'⟩ := HI2.out.log
        have HS : Hid _ := h1'
        clear h1' h2'
        go_wp2_with (first | (go_at_call 21; refine (lgBytes_c (n := n) HS.out HN.out).mono ?_; rintro e w' ⟨rfl, hw⟩; rw [hw]; clear hw w') | (go_at_call 22; refine (lgSafe_c HS.out).mono ?_; rintro e w' ⟨rfl, hw⟩; rw [hw]; clear hw w'))
        clear HS
        obtain ⟨S, h1', h2'⟩ := HI2.out.crash
        have HS : Hid _ := h1'
        have HC : Hid _ := h2'
        clear h1' h2'
        refine (lgCrash_c (m := m) (p' := p') (n := n) kp HS.out HN.out hsn.2 hsn.1 HOk.out.fit HOk.out.tx HOk.out.ky HCt.out.2.2.2 HCt.out.2.1 HCt.out.2.2.1).mono ?_
        rintro e w3 ⟨rfl, hto⟩
        have HI3 : Hid (KpC w.heap.size w w3 j l2 m [] (flatD (l2.take m)).length (-1) false gd2 cd2 gm2 cm2 nn2) := HC.out _ _ _ _ _ _ hto
        clear hto HS HC HI2 HO2 HCt HN
        obtain ⟨ab, HAb⟩ : ∃ c : Bool, Hid ((decide (0 < kp) && decide (kp < (n : Int) - (sf2 : Int))) = c) := ⟨_, rfl⟩
        have hwns : IntKind.i64.wrap ((n : Int) - (sf2 : Int)) = (n : Int) - (sf2 : Int) := by rw [IntKind.wrap_i64]; omega
        go_upto_region 58 with fail
        go_cut [294] (fun c wd => wd = w3 ∧ c = .bool ab)
        case first =>
          try clear_value *
          as_aux_lemma =>
            let _BP : Exit → Act → World → Prop := bodyPost Tryd.prog Tryd.f4 fun _ _ => True
            by_cases h0 : 0 < kp
            · have h0b : decide (0 < kp) = true := by simpa using h0
              have hab : ab = decide (kp < (n : Int) - (sf2 : Int)) := by rw [← HAb.out, h0b]; rfl
              obtain ⟨xb, hxb⟩ : ∃ c : Bool, decide (kp < (n : Int) - (sf2 : Int)) = c := ⟨_, rfl⟩
              rw [hxb] at hab
              subst hab
              go_wp2_with fail
              go_meet
              exact ⟨rfl, rfl⟩
            · have h0b : decide (0 < kp) = false := by simpa using h0
              have hab : ab = false := by rw [← HAb.out, h0b]; rfl
              subst hab
              go_wp2_with fail
              go_meet
              exact ⟨rfl, rfl⟩
        case rest =>
        obtain ⟨hwd, h294⟩ := hcut
        rw [hwd]
        clear hwd wc hwns
        subst h294
        go_upto_if 294 with fail
        go_cut [41] (fun c wd => wd = w3 ∧ c = .int .i64 (H : Nat))
        case first =>
          try clear_value *
          as_aux_lemma =>
            let _BP : Exit → Act → World → Prop := bodyPost Tryd.prog Tryd.f4 fun _ _ => True
            cases ab with
            | true =>
              have h := HAb.out
              simp only [Bool.and_eq_true, decide_eq_true_eq] at h
              obtain ⟨kn, rfl⟩ : ∃ kn : Nat, kp = kn := ⟨kp.toNat, by omega⟩
              have hH : (sf2 : Int) + (kn : Int) = (H : Int) := by
                have h2 := HH.out
                rw [keepN, if_neg (by omega), if_pos (by omega)] at h2
                rw [← h2]
                simp
              have hwH : IntKind.i64.wrap (H : Int) = (H : Int) := by rw [IntKind.wrap_i64]; omega
              clear h
              go_wp2_with fail
              go_meet
              exact ⟨rfl, rfl⟩
            | false =>
              by_cases h0 : 0 < kp
              · have h0b : decide (0 < kp) = true := by simpa using h0
                have hH : n = H := by
                  have h := HAb.out
                  rw [h0b, Bool.true_and] at h
                  have h' : ¬ kp < (n : Int) - (sf2 : Int) := by simpa using h
                  have h2 := HH.out
                  rw [keepN, if_neg (by omega)] at h2
                  split at h2 <;> omega
                subst hH
                go_wp2_with fail
                go_meet
                exact ⟨rfl, rfl⟩
              · have h0b : decide (0 < kp) = false := by simpa using h0
                have hH : sf2 = H := by
                  have h2 := HH.out
                  rw [keepN, if_pos (by omega)] at h2
                  exact h2
                subst hH
                go_wp2_with fail
                go_meet
                exact ⟨rfl, rfl⟩
        case rest =>
        obtain ⟨hwd, h41⟩ := hcut
        rw [hwd]
        clear hwd wc
        subst h41
        go_upto_block 4 with fail
        go_cut [42, 43] (fun c42 _ wd => wd = w3 ∧ c42 = .int .i64 m)
        case first =>
          try clear_value *
          as_aux_lemma =>
            let _BP : Exit → Act → World → Prop := bodyPost Tryd.prog Tryd.f4 fun _ _ => True
            have lm : gm2 < w3.heap.size := World.block_lt_of_cell? w3 _ (HI3.out.mark (i := 0) (Nat.zero_le _))
            go_wp2_with fail
            go_loopw [42, 43] (fun c42 c43 wr => ∃ i L : Nat, i ≤ nn2 + 1 ∧ c43 = .int .i64 i ∧ c42 = .int .i64 L ∧ Hid (L = min (i - 1) m) ∧ wr = w3) (fun _ c43 _ => nn2 + 1 - (intOf c43).toNat)
            case atStart => exact ⟨0, 0, Nat.zero_le _, rfl, rfl, (by show 0 = min (0 - 1) m; omega), rfl⟩
            case round =>
              obtain ⟨i, L, hi, rfl, rfl, HL, hwr⟩ := hrel
              rw [hwr]
              clear hwr wr
              by_cases hlt : i < nn2 + 1
              · have hlti : (i : Int) < (nn2 : Int) + 1 := by omega
                have hlti' : (i : Int) < ((nn2 + 1 : Nat) : Int) := by omega
                have cm := HI3.out.mark (i := i) (by omega)
                have hfi := HIff.out i (by rw [HI3.out.1]; omega)
                generalize lenD l2 i = mk at cm hfi
                by_cases him : i ≤ m
                · have hle : (mk : Int) ≤ (H : Int) := by have := hfi.2 him; omega
                  have HL2 : Hid (i = min (i + 1 - 1) m) := by show i = min (i + 1 - 1) m; omega
                  clear hfi him
                  go_wp2_with fail
                  go_roundw
                  case rel => exact ⟨i + 1, i, by omega, by go_num, rfl, HL2, by trivial⟩
                  case measure => simp [intOf]; omega
                · have hle : ¬ (mk : Int) ≤ (H : Int) := by
                    intro h
                    exact him (hfi.1 (by omega))
                  have HL2 : Hid (L = min (i + 1 - 1) m) := by have := HL.out; show L = min (i + 1 - 1) m; omega
                  clear hfi him
                  go_wp2_with fail
                  go_roundw
                  case rel => exact ⟨i + 1, L, by omega, by go_num, rfl, HL2, by trivial⟩
                  case measure => simp [intOf]; omega
              · have hlti : ¬ (i : Int) < (nn2 : Int) + 1 := by omega
                have hLm : L = m := by have := HL.out; omega
                subst hLm
                go_wp2_with fail
                go_meet
                exact ⟨rfl, rfl⟩
        case rest =>
        obtain ⟨hwd, h42⟩ := hcut
        rw [hwd]
        clear hwd wc
        subst h42
        have HI4 : Hid (KpI w.heap.size w w3 j (l2.take m) [] (flatD (l2.take m)).length (-1) false gd2 cd2 gm2 cm2 m) := HI3.out.cut hmn
        obtain ⟨l4, HL4⟩ : ∃ l4, Hid (l2.take m = l4) := ⟨_, rfl⟩
        obtain ⟨f4, HF4⟩ : ∃ f4, Hid ((flatD l4).length = f4) := ⟨_, rfl⟩
        rw [HL4.out, HF4.out] at HI4
        rw [HL4.out, HF4.out] at HOk
        clear HI3 HIff HH HAb HL4
        obtain ⟨hc1, hc2, hc3, hc4⟩ := HI4.out.caps
        unfold maxLen at hc2 hc4
        have hcd : (m : Int) + 1 ≤ (cd2 : Int) := by omega
        have hcm : (m : Int) + 1 ≤ (cm2 : Int) := by omega
        have hm0 : (0 : Int) ≤ (m : Int) + 1 := by omega
        have hwm : IntKind.i64.wrap ((m : Int) + 1) = (m : Int) + 1 := by rw [IntKind.wrap_i64]; omega
        have hmm1 : (m : Int) < (m : Int) + 1 := by omega
        obtain ⟨b, G, cb, hrb⟩ := HI4.out.at (i := m) (Nat.le_refl _)
        have HRb : Hid (RefIs w3 b l4 G) := by have h := hrb; rw [List.take_of_length_le (by rw [HI4.out.1]; exact Nat.le_refl _)] at h; exact h
        have lgd := World.block_lt_of_cell? w3 _ cb
        obtain ⟨S, h1', h2'⟩ := HI4.out.log
        have HS : Hid _ := h1'
        clear h1' h2' hrb
        go_wp2_with fail
        refine (alike_c HS.out HRb.out (HG.out.below HG.out.lt HI4.out.bel.1)).mono ?_
        rintro e w4 ⟨rfl, hb⟩
        have HI5 : Hid (KpI w.heap.size w w4 j l4 [] f4 (-1) false gd2 cd2 gm2 cm2 m) := HI4.out.grown hb
        clear hb HS HI4 HRb cb lgd hcd hcm hm0 hwm
        have cmk := HI5.out.mark (i := m) (Nat.le_refl _)
        have lgm := World.block_lt_of_cell? w4 _ cmk
        obtain ⟨mk, HMk⟩ : ∃ mk, Hid (lenD l4 m = mk) := ⟨_, rfl⟩
        rw [HMk.out] at cmk
        have hne : ((f4 : Int) != (mk : Int)) = false := by
          have h1 := HMk.out
          rw [lenD_all (by rw [HI5.out.1]; exact Nat.le_refl _), HF4.out] at h1
          simp
          omega
        obtain ⟨S, h1', h2'⟩ := HI5.out.log
        have HS : Hid _ := h1'
        clear h1' h2'
        have HSb : Hid (∀ n, Calls Tryd.prog 21 #[.pointer (some ⟨j, 0, none⟩)] (w4.drewN n) fun e w' => e = .returned (.int .i64 f4) ∧ w' = w4.drewN n) := fun n => lgBytes_c (n := f4) (LgAt.grown HS.out (below_drewS _ w4 n)) (by rw [List.append_nil]; exact HF4.out)
        have HSs : Hid (∀ n, Calls Tryd.prog 22 #[.pointer (some ⟨j, 0, none⟩)] (w4.drewN n) fun e w' => e = .returned (.int .i64 f4) ∧ w' = w4.drewN n) := fun n => lgSafe_c (LgAt.grown HS.out (below_drewS _ w4 n))
        go_upto_region 71 with fail
        go_cut [347] (fun c wd => c = .bool false ∧ Hid (Below w4.heap.size w4 wd))
        case first =>
          try clear_value *
          as_aux_lemma =>
            let _BP : Exit → Act → World → Prop := bodyPost Tryd.prog Tryd.f4 fun _ _ => True
            go_quiet (first | (go_at_call 21; exact Calls.quiet_of_same (HSb.out _)) | (go_at_call 22; exact Calls.quiet_of_same (HSs.out _)))
            go_wp2_with fail
            go_meet
            exact ⟨rfl, below_drewS _ _ _⟩
        case rest =>
        obtain ⟨h347, HB⟩ := hcut
        subst h347
        have HI6 : Hid (KpI w.heap.size w wc j l4 [] f4 (-1) false gd2 cd2 gm2 cm2 m) := HI5.out.grown HB.out
        clear HI5 HB HS HSb HSs cmk lgm hne HMk
        go_wp2_with fail
        go_roundw
        case rel => exact ⟨r + 1, a2, l4, [], f4, -1, false, gd2, cd2, gm2, cm2, m, by omega, by omega, rfl, rfl, rfl, by go_num, HI6, HOk⟩
        case measure => simp [intOf]; omega
    · by_cases h1 : r ≤ nf
      · have hd1 : decide ((r : Int) ≤ (nf : Int)) = true := by simp; omega
        have hd2 : decide ((r : Int) < 4) = false := by simp; omega
        go_wp2_with fail
        go_ret
        exact ⟨rfl, HI.out.bel.1⟩
      · have hd1 : decide ((r : Int) ≤ (nf : Int)) = false := by simp; omega
        go_wp2_with fail
        go_ret
        exact ⟨rfl, HI.out.bel.1⟩
end Go.Proofs.YtpcnfoaoajfhlaaDoor
