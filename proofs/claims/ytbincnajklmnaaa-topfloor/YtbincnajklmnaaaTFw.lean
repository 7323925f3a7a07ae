/-
  meretop.TopFloor answers true, whatever is done.
-/
import Derived.Test.YtbincnajklmnaaaTpB
import Derived.Test.YtbincnajklmnaaaFlD
import Derived.Test.YtbincnajklmnaaaPl2
import Derived.Deep.DeepCutAuto
import Derived.Deep.CutBlock
import Derived.Deep.LoopGhost
import Derived.Deep.Draws
import Derived.Deep.RegionHeld3
import Derived.BigQuiet
import Derived.BigRegion
import Derived.WalkSmall
namespace Go.Proofs.Ytbincnajklmnaaa
set_option linter.unusedVariables false
set_option linter.unusedSimpArgs false
open Go.RowKit
attribute [local go_sem ↓] bldG_is

theorem stK_flK (k : Int) : stK k = flK k := rfl
/-- May, with letters -/
theorem flMay_o {k v a : Int} {g : Bool} {t : ByteArray} {B : Bool} (b : Nat) (h : bad k v a g t = 0) (o : Nat → Int) (w : World) (he : EightAt w b o) (hB : decide (o k.toNat ≤ a) = B) :
    Calls Try.prog 21 #[.pointer (some ⟨b, 0, none⟩), .agg #[.int .i64 k, .int .i64 v, .int .i64 a, .bool g, .string t]] w fun e w' => e = .returned (.tuple #[.bool B, .nilIface]) ∧ Below w.heap.size w w' := by
  have hk := bad_key (e := ⟨k, v, a, g, t⟩) h
  dsimp only at hk
  obtain ⟨n, rfl⟩ : ∃ n : Nat, k = n := ⟨k.toNat, by omega⟩
  subst hB
  exact flMay_ok b n (by omega) h o w he
theorem flOf_o {k x n : Int} (b : Nat) (o : Nat → Int) (w : World) (h : EightAt w b o) (hx : flOf o k = x) (hn : flErr (flK k) = n) :
    Calls Try.prog 20 #[.pointer (some ⟨b, 0, none⟩), .int .i64 k] w fun e w' => e = .returned (.tuple #[.int .i64 x, eV n]) ∧ Below w.heap.size w w' := by
  subst hx hn
  exact flOf_c b k o w h
theorem stale_o {l : List En} {fl n : Int} {xs : List Int} (h : freshStale l fl = (xs, n)) (v : Value) (w : World) (hr : RowIs w v l) :
    Calls Try.prog 24 #[v, .int .i64 fl] w fun e w' => ∃ v', e = .returned (.tuple #[v', eV n]) ∧ IntsIs w' v' xs ∧ Below w.heap.size w w' := by
  have c := freshStale_c v l fl w hr
  rw [h] at c
  exact c
theorem stale_one {x : En} {fl : Int} (hb : x.bad = 0) (h0 : 0 ≤ fl) (h1 : fl ≤ 1000) : freshStale [x] fl = (if x.a < fl then [x.k] else [], 0) := by
  have hg : badL [x] = 0 := (GoodL.of (List.pairwise_singleton _ _) (by simpa using hb)).bad
  have hs : isSeqB fl = true := by simp [isSeqB]; omega
  rw [freshStale, hs, if_neg (by simp), if_neg (by simpa using hg)]
  by_cases hx : x.a < fl
  · rw [if_pos hx]
    simp [staleE, hx]
  · rw [if_neg hx]
    simp [staleE, hx]
theorem rowF_one (w : World) (b : Nat) (x : En) (hb : b = w.heap.size) : RowIs (w.alloc (.cells #[.int .i64 x.k, .int .i64 x.v, .int .i64 x.a, .bool x.g, .string x.t] 36)) (.slice (some ⟨b, 0, none⟩) 1 1) [x] := by
  have hx := box_new w x.k x.v x.a x.g x.t b hb
  refine ⟨by simp [maxLen], _, _, rfl, fun _ => ⟨b, 0, rfl, hx.lt, fun j hj => ?_⟩⟩
  obtain rfl : j = 0 := by simpa using hj
  exact ⟨hx.c0, hx.c1, hx.c2, hx.c3, hx.c4⟩
set_option maxRecDepth 100000 in
set_option maxHeartbeats 64000000 in
theorem tfloor_w (n : Int) (vs vt : Value) (ns nt : Nat) (seq : Int) (w : World) (hs : IsSteps w vs ns) (ht : IsTexts w vt nt) :
    Calls Try.prog 4 #[.int .i64 n, vs, vt, .int .i64 seq] w fun e w' => e = .returned (.bool true) ∧ Below w.heap.size w w' := by
  obtain ⟨aS, cS, rfl, hns, hs1⟩ := hs
  have HS1 : Hid (∀ i, i < ns → ∃ b o u m, aS = some ⟨b, o, none⟩ ∧ w.cell? ⟨b, o + i, none⟩ = some u ∧ IsInts w u m) := hs1
  obtain ⟨aT, cT, rfl, hnt, ht1⟩ := ht
  have HT1 : Hid (∀ i, i < nt → ∃ b o s, aT = some ⟨b, o, none⟩ ∧ w.cell? ⟨b, o + i, none⟩ = some (.string s) ∧ s.size ≤ maxLen) := ht1
  clear hs1 ht1
  unfold maxLen at hns hnt
  go_enter Try.func4, Try.ntmps4
  go_wp2_with fail
  refine (topOne_c w).mono ?_
  rintro e w4 ⟨rfl, hb⟩
  have B4 : Hid (Below w.heap.size w w4) := hb
  clear hb
  by_cases hn : n < 1 ∨ 6 < n
  · have HN : Hid (n < 1 ∨ 6 < n) := hn
    clear hn
    go_wp2_with (go_at_call 6; refine (mNew_bad n _ HN.out).mono ?_; rintro e w' ⟨rfl, hw⟩; rw [hw]; clear hw w')
    go_ret
    exact ⟨rfl, B4.out⟩
  obtain ⟨nn, rfl⟩ : ∃ k : Nat, n = k := ⟨n.toNat, by omega⟩
  have h1 : 1 ≤ nn := by omega
  have h6 : nn ≤ 6 := by omega
  have hd1 : decide ((nn : Int) < 1) = false := by simp; omega
  have hd2 : decide ((6 : Int) < (nn : Int)) = false := by simp; omega
  clear hn
  go_wp2_with fail
  refine (mNew_ok nn w4 h1 h6).mono ?_
  rintro e w5 ⟨m, rfl, ⟨S, hm, hS⟩, hb⟩
  have hz4 := B4.out.size
  have M5 : Hid (Mh (fun _ => False) w.heap.size w w5 m [] (List.replicate nn [])) := ⟨⟨S, hm, fun c hc => ⟨by have := hS c hc; omega, id⟩⟩, B4.out.trans (hb.mono B4.out.size), Nat.le_trans B4.out.size hb.size, fun c hc => hc.elim⟩
  clear hm hS hb hz4 B4
  go_wp2_with fail
  refine (flNew_c w5).mono ?_
  rintro e w6 ⟨rfl, hw⟩
  obtain ⟨fb, HFb⟩ : ∃ z, z = w5.heap.size := ⟨_, rfl⟩
  have T6 : Hid (TfIs w.heap.size w w6 m nn fb [] (List.replicate nn []) (fun _ => 0)) := by
    have h5 := M5.out.hN
    refine ⟨?_, goodM_new nn, List.length_replicate .., ?_, okO_zero, by omega⟩
    · rw [hw, HFb]
      exact M5.out.more ((Below.refl _ _).alloc (Nat.le_refl _) _) (fun c hc => .inr (by omega)) (fun c hc => by simp; omega)
    · rw [hw]
      exact eight_new w5 _ fb HFb
  rw [← HFb]
  clear hw HFb M5 hd1 hd2
  go_upto_block 0 with fail
  go_cut [13, 14, 15, 16, 17, 18, 19, 20, 21] (fun _ _ _ _ _ _ _ _ _ wd => ∃ (l : List Deed) (cs : List (List En)) (o : Nat → Int), Hid (TfIs w.heap.size w wd m nn fb l cs o))
  case first =>
    try clear_value *
    as_aux_lemma =>
      let _BP : Exit → Act → World → Prop := bodyPost Try.prog Try.f4 fun _ _ => True
      go_wp2_with fail
      go_loopw [13] (fun c13 wr => ∃ (i : Nat) (l : List Deed) (cs : List (List En)) (o : Nat → Int), i ≤ ns ∧ i ≤ 30 ∧ c13 = .int .i64 i ∧ Hid (TfIs w.heap.size w wr m nn fb l cs o)) (fun c13 _ => ns - (intOf c13).toNat)
      case atStart => exact ⟨0, _, _, _, by omega, by omega, rfl, T6⟩
      case round =>
        obtain ⟨i, l, cs, o, hi1, hi2, rfl, HR⟩ := hrel
        clear T6
        by_cases hlt1 : i < ns ∧ i < 30
        · obtain ⟨hn1, hn2⟩ := hlt1
          have hd1 : decide ((i : Int) < (ns : Int)) = true := by simp; omega
          have hd2 : decide ((i : Int) < 30) = true := by simp; omega
          have hlti : (i : Int) < (ns : Int) := by omega
          obtain ⟨bS, oS, u, k, rfl, cu, HI⟩ := HS1.out i hn1
          have cu' := old_cell HR.out.h.bel cu
          have lS := World.block_lt_of_cell? wr _ cu'
          have HI' := HI.below HR.out.h.bel
          obtain ⟨aI, cI, rfl, hm, hz⟩ := HI'
          have HZ : Hid (∀ j, j < k → ∃ b o z, aI = some ⟨b, o, none⟩ ∧ wr.cell? ⟨b, o + j, none⟩ = some (.int .i64 z)) := hz
          unfold maxLen at hm
          clear HI cu hz
          go_upto_block 2 with fail
          go_cut [15] (fun _ wd => ∃ z0 z1 z2 : Int, wd = wr.alloc (.cells #[.int .i64 z0, .int .i64 z1, .int .i64 z2] 55))
          case first =>
            go_wp2_with fail
            go_loopg [15] 3 (fun gq j wi => ∃ q : Nat, gq + q = 3 ∧ j = .int .i64 q ∧ ∃ z0 z1 z2 : Int, wi = wr.alloc (.cells #[.int .i64 z0, .int .i64 z1, .int .i64 z2] 55))
            case atStart => exact ⟨0, by omega, rfl, 0, 0, 0, rfl⟩
            case round =>
              obtain ⟨q, hq, rfl, z0, z1, z2, rfl⟩ := hrel
              by_cases hqm : q < k ∧ q < 3
              · obtain ⟨hq1, hq2⟩ := hqm
                have hq3 : (q : Int) < (k : Int) := by omega
                have hq4 : decide ((q : Int) < (k : Int)) = true := by simp; omega
                obtain ⟨bI, oI, z, rfl, cz⟩ := HZ.out q hq1
                have lI := World.block_lt_of_cell? wr _ cz
                have h4 : q = 0 ∨ q = 1 ∨ q = 2 := by omega
                rcases h4 with rfl | rfl | rfl
                · simp only [Nat.add_zero] at cz
                  go_wp2
                  go_roundg (2 : Nat)
                  case measure => omega
                  case rel => exact ⟨1, by omega, rfl, _, _, _, rfl⟩
                · go_wp2
                  go_roundg (1 : Nat)
                  case measure => omega
                  case rel => exact ⟨2, by omega, rfl, _, _, _, rfl⟩
                · go_wp2
                  go_roundg (0 : Nat)
                  case measure => omega
                  case rel => exact ⟨3, by omega, rfl, _, _, _, rfl⟩
              · by_cases h : q < k
                · have hq5 : decide ((q : Int) < (k : Int)) = true := by simp; omega
                  have hq6 : decide ((q : Int) < 3) = false := by simp; omega
                  go_wp2_with fail
                  go_meet
                  case rel => exact ⟨z0, z1, z2, rfl⟩
                · have hq5 : decide ((q : Int) < (k : Int)) = false := by simp; omega
                  go_wp2_with fail
                  go_meet
                  case rel => exact ⟨z0, z1, z2, rfl⟩
          case rest =>
          obtain ⟨z0, z1, z2, hwc⟩ := hcut
          obtain ⟨wA, hren⟩ : ∃ x, x = wc := ⟨_, rfl⟩
          subst hren
          obtain ⟨A, HAe⟩ : ∃ A, Hid (A = wr.heap.size) := ⟨_, rfl⟩
          have hfl := HR.out.fl.lt
          have hfA : fb ≠ A := by have := HAe.out; omega
          have HA : Hid (Mh (fun c => c = fb ∨ c = A) w.heap.size w wA m l cs) := by
            unfold Hid
            rw [hwc, HAe.out]
            exact HR.out.h.more (by go_grown) (fun c hc => by rcases hc with hc | hc; exact .inl hc; exact .inr (by omega)) (fun c hc => by simp; omega)
          have ZA : Hid (Z3 wA A z0 z1 z2) := by
            unfold Hid
            rw [hwc, HAe.out]
            exact ⟨by simp, by simp, by simp⟩
          have EA : Hid (EightAt wA fb o) := by
            unfold Hid
            rw [hwc]
            exact HR.out.fl.grown (by go_grown)
          have HGd : Hid (GoodM l cs) := HR.out.good
          have HLn : Hid (cs.length = nn) := HR.out.len
          have HOk : Hid (OkO o) := HR.out.ok
          have HNb : Hid (w.heap.size ≤ fb) := HR.out.hN
          clear hwc HZ cu' lS hm HR hfl
          rw [← HAe.out]
          clear HAe
          go_upto_if 88 with fail
          go_cut [16] (fun tv wd => wd = wA ∧ ∃ tx : ByteArray, tv = .string tx ∧ Hid (tx.size ≤ maxLen))
          case first =>
            by_cases hn3 : i < nt
            · obtain ⟨bT, oT, s, rfl, ct, hts⟩ := HT1.out i hn3
              have ct' := old_cell HA.out.bel ct
              have hn4 : (i : Int) < (nt : Int) := by omega
              go_wp2_with fail
              go_meet
              case rel => exact ⟨rfl, s, rfl, hts⟩
            · have hn4 : ¬ (i : Int) < (nt : Int) := by omega
              go_wp2_with fail
              go_meet
              case rel => exact ⟨rfl, _, rfl, by unfold Hid maxLen; decide⟩
          case rest =>
          obtain ⟨hwd, tx, hslot, HTx⟩ := hcut
          rw [hwd]
          clear hwd wc
          subst hslot
          obtain ⟨a0, a1, a2⟩ := ZA.out
          have lA := ZA.out.lt
          obtain ⟨S, h1', h2'⟩ := HA.out.call
          have HS : Hid _ := h1'
          have HC : Hid _ := h2'
          clear h1' h2'
          by_cases e0 : z0 = 0
          · have e0b : (z0 == 0) = true := by simp [e0]
            clear e0
            go_upto_region 20 with fail
            refine wp_ends ?_
            go_region_with (first
              | (go_at_call 10; refine Calls.mono (mSeq_c (S := S) (l := l) (cs := cs) ?_) ?_; exact MeshAt.blocks HS.out (Nat.le_refl _) (fun _ _ => rfl); rintro e w' ⟨rfl, rfl⟩)
              | (go_at_call 19; refine Calls.mono (flRaise_c fb z2 l.length o _ ?_) ?_; exact EA.out.of_block rfl; rintro e w7 ⟨rfl, he7, ho7⟩; have HE7 : Hid _ := he7; have HO7 : Hid (Only fb wA w7) := ⟨ho7.os, ho7.tape, ho7.output, ho7.size, ho7.block⟩; clear he7 ho7))
            all_goals refine endsBy_normal ?_
            all_goals go_wp2_with fail
            all_goals go_roundw
            all_goals first
              | (show _ < _; simp [intOf]; omega)
              | exact ⟨i + 1, l, cs, flRaise o z2 l.length, by omega, by omega, by go_num, (HA.out.only HO7.out (.inl rfl) HNb.out).less (fun c hc => .inl hc), HGd.out, HLn.out, HE7.out, HOk.out.raise _ _, HNb.out⟩
          · have e0b : (z0 == 0) = false := by simp [e0]
            clear e0
            by_cases e1 : z0 = 1
            · have e1b : (z0 == 1) = true := by simp [e1]
              clear e1
              obtain ⟨R, HRp⟩ : ∃ R, Hid (mPut l cs z1 z2 tx = R) := ⟨_, rfl⟩
              obtain ⟨l', cs', kk, er⟩ := R
              have HG7 : Hid (GoodM l' cs' ∧ cs'.length = nn) := by
                have h1 := mPut_good HGd.out z1 z2 tx
                have h2 := mDone_len (putO l z2 tx) l cs z1 z2
                have h3 : mDone (putO l z2 tx) l cs z1 z2 = ⟨l', cs', kk, er⟩ := HRp.out
                rw [HRp.out] at h1
                rw [h3, HLn.out] at h2
                exact ⟨h1, h2⟩
              obtain ⟨ev, HEv⟩ : ∃ ev, Hid (eV er = ev) := ⟨_, rfl⟩
              go_wp2_with fail
              refine (mPut_c HS.out HGd.out z1 z2 tx HTx.out).mono ?_
              rw [HRp.out]
              rintro e w7 ⟨rfl, hto⟩
              dsimp only at hto ⊢
              rw [HEv.out]
              obtain ⟨h1', h2', _⟩ := HC.out _ _ _ hto
              have HEnd : Hid (TfIs w.heap.size w w7 m nn fb l' cs' o) := ⟨h1'.less (fun c hc => .inl hc), HG7.out.1, HG7.out.2, EA.out.of_block (h2' fb (.inl rfl)), HOk.out, HNb.out⟩
              clear hto h1' h2' HS HC a0 a1 a2 lA
              go_wp2_with fail
              go_roundw
              case rel => exact ⟨i + 1, _, _, _, by omega, by omega, by go_num, HEnd⟩
              case measure => simp [intOf]; omega
            · have e1b : (z0 == 1) = false := by simp [e1]
              clear e1 HS HC
              obtain ⟨fk, HFk⟩ : ∃ fk, Hid (flOf o z2 = fk) := ⟨_, rfl⟩
              obtain ⟨fe, HFe⟩ : ∃ fe, Hid (flErr (flK z2) = fe) := ⟨_, rfl⟩
              go_wp2_with fail
              refine (flOf_o fb o _ EA.out HFk.out HFe.out).mono ?_
              rintro e w7 ⟨rfl, hb⟩
              have H7 : Hid (Mh (fun c => c = fb ∨ c = A) w.heap.size w w7 m l cs) := HA.out.grown hb
              have Z7 : Hid (Z3 w7 A z0 z1 z2) := ZA.out.grown hb
              have E7 : Hid (EightAt w7 fb o) := EA.out.grown hb
              clear hb a0 a1 a2 lA
              by_cases hfe : fe = 0
              · have HKk : Hid (flK z2 = true) := by
                  cases hq : flK z2
                  · have := HFe.out
                    rw [hq, hfe] at this
                    cases this
                  · rfl
                subst hfe
                rw [eV_zeroN]
                obtain ⟨cs', ⟨x0, x1, x2, x3, x4⟩, had, er, HRg⟩ : ∃ cs' x had er, Hid (mGet l cs z1 z2 fk = (cs', x, had, er)) := ⟨_, _, _, _, rfl⟩
                have HG8 : Hid (GoodM l cs' ∧ cs'.length = nn) := by
                  have h1 := mGet_good HGd.out z1 z2 fk
                  have h2 := mGet_len l cs z1 z2 fk
                  rw [HRg.out] at h1 h2
                  exact ⟨h1, h2.trans HLn.out⟩
                obtain ⟨S, h1', h2'⟩ := H7.out.call
                have HS : Hid _ := h1'
                have HC : Hid _ := h2'
                clear h1' h2'
                obtain ⟨a0, a1, a2⟩ := Z7.out
                have lA := Z7.out.lt
                go_wp2_with fail
                refine (mGet_o HS.out HGd.out HRg.out).mono ?_
                rintro e w8 ⟨rfl, hto⟩
                obtain ⟨h1', h2', _⟩ := HC.out _ _ _ hto
                have H8 : Hid (Mh (fun c => c = fb ∨ c = A) w.heap.size w w8 m l cs') := h1'
                have E8 : Hid (EightAt w8 fb o) := E7.out.of_block (h2' fb (.inl rfl))
                clear hto h1' h2' HS HC a0 a1 a2 lA H7 Z7 E7
                have T9 : Hid (TfIs w.heap.size w (w8.alloc (.cells #[.int .i64 x0, .int .i64 x1, .int .i64 x2, .bool x3, .string x4] 36)) m nn fb l cs' o) := ⟨(H8.out.less (fun c hc => .inl hc)).grown ((Below.refl _ _).alloc (Nat.le_refl _) _), HG8.out.1, HG8.out.2, E8.out.alloc _, HOk.out, HNb.out⟩
                by_cases her : er = 0
                · subst her
                  rw [eV_zeroN]
                  obtain ⟨ht1, ht2, ht3⟩ := get_told HGd.out HRg.out
                  dsimp only at ht1 ht2
                  have HBad : Hid (bad x0 x1 x2 x3 x4 = 0) := ht3.bad HGd.out.good HGd.out.len
                  have HMay : Hid (decide (o x0.toNat ≤ x2) = true) := by
                    show _ = _
                    have := HFk.out
                    rw [flOf, if_pos HKk.out] at this
                    simp
                    rw [ht2, this]
                    exact ht1
                  clear ht1 ht2 ht3
                  have X9 : Hid (BoxAt (w8.alloc (.cells #[.int .i64 x0, .int .i64 x1, .int .i64 x2, .bool x3, .string x4] 36)) w8.heap.size x0 x1 x2 x3 x4) := box_new w8 _ _ _ _ _ _ rfl
                  obtain ⟨d0, d1, d2, d3, d4, df⟩ := X9.out
                  go_wp2_with fail
                  refine (flMay_o fb HBad.out o _ T9.out.fl HMay.out).mono ?_
                  rintro e w10 ⟨rfl, hb⟩
                  have T10 : Hid (TfIs w.heap.size w w10 m nn fb l cs' o) := T9.out.grown hb
                  clear hb d0 d1 d2 d3 d4 df X9 T9
                  go_wp2_with fail
                  go_roundw
                  case rel => exact ⟨i + 1, _, _, _, by omega, by omega, by go_num, T10⟩
                  case measure => simp [intOf]; omega
                · rw [eV_errN her]
                  go_wp2_with fail
                  go_roundw
                  case rel => exact ⟨i + 1, _, _, _, by omega, by omega, by go_num, T9⟩
                  case measure => simp [intOf]; omega
              · rw [eV_errN hfe]
                go_wp2_with fail
                go_roundw
                case rel => exact ⟨i + 1, l, cs, o, by omega, by omega, by go_num, H7.out.less (fun c hc => .inl hc), HGd.out, HLn.out, E7.out, HOk.out, HNb.out⟩
                case measure => simp [intOf]; omega
        · by_cases hn1 : i < ns
          · have hd1 : decide ((i : Int) < (ns : Int)) = true := by simp; omega
            have hd2 : decide ((i : Int) < 30) = false := by simp; omega
            go_wp2_with fail
            go_meet
            case rel => exact ⟨l, cs, o, HR⟩
          · have hd1 : decide ((i : Int) < (ns : Int)) = false := by simp; omega
            go_wp2_with fail
            go_meet
            case rel => exact ⟨l, cs, o, HR⟩
  case rest =>
  as_aux_lemma =>
  obtain ⟨l, cs, o, HM⟩ := hcut
  obtain ⟨w7, hren⟩ : ∃ x, x = wc := ⟨_, rfl⟩
  subst hren
  clear T6
  go_wp2_with fail
  refine (flAll_c fb seq o _ HM.out.fl).mono ?_
  rintro e w8 ⟨rfl, he8, ho8⟩
  have T8 : Hid (TfIs w.heap.size w w8 m nn fb l cs (flAll o seq)) := ⟨HM.out.h.only ho8 rfl HM.out.hN, HM.out.good, HM.out.len, he8, HM.out.ok.all seq, HM.out.hN⟩
  clear he8 ho8 HM
  cases hsq : flS seq
  · rw [show eV (flErr false) = .iface 65 (.int .i64 1) from eV_errN (by decide)]
    by_cases h0 : seq < 0
    · have hd : decide (seq < 0) = true := by simpa using h0
      go_wp2_with fail
      go_ret
      exact ⟨rfl, T8.out.h.bel⟩
    · have hd : decide (seq < 0) = false := by simpa using h0
      have hd2 : decide (1000 < seq) = true := by
        simp
        rcases Int.lt_or_le 1000 seq with h' | h'
        · exact h'
        · rw [flS_iff.2 ⟨by omega, h'⟩] at hsq
          cases hsq
      go_wp2_with fail
      go_ret
      exact ⟨rfl, T8.out.h.bel⟩
  rw [show eV (flErr true) = .nilIface from eV_zeroN]
  clear hsq
  obtain ⟨o', HO'⟩ : ∃ o', Hid (flAll o seq = o') := ⟨_, rfl⟩
  rw [HO'.out] at T8
  clear HO'
  go_wp2_with fail
  go_loopw [22] (fun c22 wr => ∃ c : Nat, c ≤ nn ∧ c22 = .int .i64 c ∧ Hid (TfIs w.heap.size w wr m nn fb l cs o')) (fun c22 _ => nn - (intOf c22).toNat)
  case atStart => exact ⟨0, Nat.zero_le _, rfl, T8⟩
  case round =>
    obtain ⟨c, hc, rfl, HR⟩ := hrel
    clear T8
    by_cases hlt : c < nn
    · have hlti : (c : Int) < (nn : Int) := by omega
      have hcl : c < cs.length := by rw [HR.out.len]; exact hlt
      have HO : Hid (mCacheO cs (c : Int) = (cs[c], 0)) := by
        show mCacheO cs (c : Int) = _
        rw [mCacheO, if_pos (nodeB_iff.2 ⟨by omega, by omega⟩), cacheN_at hcl]
      have HGC : Hid (GoodC l cs[c]) := HR.out.good.all _ (List.getElem_mem hcl)
      obtain ⟨x, HX⟩ : ∃ x, Hid (cs[c] = x) := ⟨cs[c], show cs[c] = cs[c] from rfl⟩
      rw [HX.out] at HO HGC
      clear HX
      obtain ⟨S, h1', _⟩ := HR.out.h.call
      have HS : Hid _ := h1'
      clear h1'
      go_wp2_with fail
      refine (mCache_o HS.out HR.out.good HO.out).mono ?_
      rintro e w9 ⟨v, rfl, hr, hf, hb⟩
      rw [eV_zeroN]
      have H8 : Hid (TfIs w.heap.size w w9 m nn fb l cs o') := HR.out.grown hb
      have R8 : Hid (RowIs w9 v x) := hr
      clear hf hb HS HR hr
      obtain ⟨hxl, pv, cv, rfl, _⟩ := R8.out
      obtain ⟨nx, HNx⟩ : ∃ nx, Hid (x.length = nx) := ⟨_, rfl⟩
      rw [HNx.out] at hxl R8 ⊢
      have hx63 : nx ≤ 9223372036854775807 := hxl
      go_wp2_with fail
      go_loopw [25] (fun c25 wq => ∃ j : Nat, j ≤ nx ∧ c25 = .int .i64 j ∧ Hid (TfIs w.heap.size w wq m nn fb l cs o') ∧ Hid (RowIs wq (.slice pv nx cv) x)) (fun c25 _ => nx - (intOf c25).toNat)
      case atStart => exact ⟨0, Nat.zero_le _, rfl, H8, R8⟩
      case round =>
        obtain ⟨j, hj, rfl, HQ, HRq⟩ := hrel
        clear H8 R8
        by_cases hlj : j < nx
        · have hlji : (j : Int) < (nx : Int) := by omega
          have hjl : j < x.length := by rw [HNx.out]; exact hlj
          obtain ⟨_, p', c', he, hrow⟩ := HRq.out
          obtain ⟨rfl, hnx, rfl⟩ : pv = p' ∧ nx = x.length ∧ cv = c' := by simpa using he
          clear hnx he
          obtain ⟨bx, ox, rfl, hbx, hat⟩ := hrow (fun h => by simp [h] at hjl)
          have HAt : Hid (EnAt wr bx (ox + j * 5) x[j]) := hat j hjl
          have HW : Hid (Was l x[j]) := HGC.out.was _ (List.getElem_mem hjl)
          obtain ⟨y, HY⟩ : ∃ y, Hid (x[j] = y) := ⟨x[j], show x[j] = x[j] from rfl⟩
          rw [HY.out] at HAt HW
          clear HY hrow hat
          obtain ⟨x0, x1, x2, x3, x4⟩ := y
          have HBad : Hid (bad x0 x1 x2 x3 x4 = 0) := HW.out.bad HQ.out.good.good HQ.out.good.len
          have hk0 : stK x0 = true := HW.out.1
          obtain ⟨fk, HFk⟩ : ∃ fk, Hid (flOf o' x0 = fk) := ⟨_, rfl⟩
          have HFe : Hid (flErr (flK x0) = 0) := by show _ = _; rw [← stK_flK, hk0]; rfl
          have hfo : o' x0.toNat = fk := by have := HFk.out; rw [flOf, if_pos (show flK x0 = true from hk0)] at this; exact this
          have HFb : Hid (0 ≤ fk ∧ fk ≤ 1000) := by rw [← hfo]; exact HQ.out.ok _
          obtain ⟨mb, HMb⟩ : ∃ mb, Hid (decide (o' x0.toNat ≤ x2) = mb) := ⟨_, rfl⟩
          have HMb2 : Hid (decide (fk ≤ x2) = mb) := by rw [← hfo]; exact HMb
          have HSt : Hid (freshStale [⟨x0, x1, x2, x3, x4⟩] fk = (if mb = true then [] else [x0], 0)) := by
            show _ = _
            rw [stale_one (x := ⟨x0, x1, x2, x3, x4⟩) HBad.out HFb.out.1 HFb.out.2]
            cases hmb : mb
            · have h' := of_decide_eq_false (HMb2.out.trans hmb)
              rw [if_pos (by show x2 < fk; omega), if_neg (by simp)]
            · have h' := of_decide_eq_true (HMb2.out.trans hmb)
              rw [if_neg (by show ¬ x2 < fk; omega), if_pos rfl]
          clear hfo hk0
          obtain ⟨c0, c1, c2, c3, c4⟩ := HAt.out
          dsimp only at c0 c1 c2 c3 c4
          go_wp2_with fail
          refine (flOf_o fb o' _ HQ.out.fl HFk.out HFe.out).mono ?_
          rintro e w11 ⟨rfl, hb⟩
          rw [eV_zeroN]
          have HQ1 : Hid (TfIs w.heap.size w w11 m nn fb l cs o') := HQ.out.grown hb
          have R1 : Hid (RowIs w11 (.slice (some ⟨bx, ox, none⟩) nx cv) x) := HRq.out.below hb
          have A1 : Hid (EnAt w11 bx (ox + j * 5) ⟨x0, x1, x2, x3, x4⟩) := HAt.out.of_block (hb.block bx hbx)
          have hbx1 : bx < w11.heap.size := Nat.lt_of_lt_of_le hbx hb.size
          clear hb c0 c1 c2 c3 c4 HQ HRq HAt hbx
          obtain ⟨c0, c1, c2, c3, c4⟩ := A1.out
          dsimp only at c0 c1 c2 c3 c4
          go_wp2_with fail
          refine (flMay_o fb HBad.out o' _ HQ1.out.fl HMb.out).mono ?_
          rintro e w12 ⟨rfl, hb⟩
          have HQ2 : Hid (TfIs w.heap.size w w12 m nn fb l cs o') := HQ1.out.grown hb
          have R2 : Hid (RowIs w12 (.slice (some ⟨bx, ox, none⟩) nx cv) x) := R1.out.below hb
          have A2 : Hid (EnAt w12 bx (ox + j * 5) ⟨x0, x1, x2, x3, x4⟩) := A1.out.of_block (hb.block bx hbx1)
          clear hb c0 c1 c2 c3 c4 HQ1 R1 A1 hbx1
          obtain ⟨c0, c1, c2, c3, c4⟩ := A2.out
          dsimp only at c0 c1 c2 c3 c4
          have hbld := build_one x0 x1 x2 x3 x4 w12
          have HB3 : Hid (Below w12.heap.size w12 (w12.alloc (.cells #[.int .i64 x0, .int .i64 x1, .int .i64 x2, .bool x3, .string x4] 36))) := (Below.refl _ _).alloc (Nat.le_refl _) _
          have HR3 : Hid (RowIs (w12.alloc (.cells #[.int .i64 x0, .int .i64 x1, .int .i64 x2, .bool x3, .string x4] 36)) (.slice (some ⟨w12.heap.size, 0, none⟩) 1 1) [⟨x0, x1, x2, x3, x4⟩]) := rowF_one w12 _ ⟨x0, x1, x2, x3, x4⟩ rfl
          go_wp2_with fail
          refine (stale_o HSt.out _ _ HR3.out).mono ?_
          clear hbld
          rintro e w13 ⟨us, rfl, hus, hb⟩
          rw [eV_zeroN]
          have hb13 : Below w12.heap.size w12 w13 := HB3.out.trans (hb.mono HB3.out.size)
          have HQ3 : Hid (TfIs w.heap.size w w13 m nn fb l cs o') := HQ2.out.grown hb13
          have R3 : Hid (RowIs w13 (.slice (some ⟨bx, ox, none⟩) nx cv) x) := R2.out.below hb13
          clear hb hb13 c0 c1 c2 c3 c4 HQ2 R2 A2 HB3 HR3
          obtain ⟨_, ps, qs, rfl, _⟩ := hus
          cases mb
          · go_wp2_with fail
            go_roundw
            case rel => exact ⟨j + 1, by omega, by go_num, HQ3, R3⟩
            case measure => simp [intOf]; omega
          · go_wp2_with fail
            go_roundw
            case rel => exact ⟨j + 1, by omega, by go_num, HQ3, R3⟩
            case measure => simp [intOf]; omega
        · obtain rfl : j = nx := by omega
          go_wp2_with fail
          go_roundw
          case rel => exact ⟨c + 1, by omega, by go_num, HQ⟩
          case measure => simp [intOf]; omega
    · obtain rfl : c = nn := by omega
      go_wp2_with fail
      go_ret
      exact ⟨rfl, HR.out.h.bel⟩
end Go.Proofs.Ytbincnajklmnaaa
