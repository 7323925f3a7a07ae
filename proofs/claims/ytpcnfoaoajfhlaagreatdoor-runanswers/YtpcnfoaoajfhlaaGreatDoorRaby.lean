/-
  The document's Line: owner.
  The document's Line: of whatever words.
-/
import Derived.Test.YtpcnfoaoajfhlaaGreatDoorRabv
import Derived.Test.YtpcnfoaoajfhlaaGreatDoorRabh
import Derived.Test.YtpcnfoaoajfhlaaGreatDoorRaba
import Derived.Test.YtpcnfoaoajfhlaaGreatDoorRabb
import Derived.Test.YtpcnfoaoajfhlaaGreatDoorRabs
import Derived.Test.YtpcnfoaoajfhlaaGreatDoorRabt
import Derived.Test.YtpcnfoaoajfhlaaGreatDoorRabu
import Derived.Test.YtpcnfoaoajfhlaaGreatDoorRabw
import Derived.Test.YtpcnfoaoajfhlaaGreatDoorRabx
namespace Go.Proofs.YtpcnfoaoajfhlaaGreatDoor
set_option linter.unusedVariables false
set_option linter.unusedSimpArgs false
set_option linter.unusedVariables false
set_option linter.unusedSimpArgs false
open Go.RowKit

theorem below_step {w W w3 : World} (h : Below w.heap.size w W) (hb : Below W.heap.size W w3) : Below w.heap.size w w3 := h.trans (hb.mono h.size)
theorem own_is : ownPts = ptsL [0, 1, 2] 4 := by rw [ownPts, ansP, if_pos bad_own]; rfl
theorem own_right : rightP ownPts = true := by decide +kernel
theorem three_ints (W : World) (q : Nat) (n : Nat) (h : W.heap[q]? = some (.cells #[.int .i64 0, .int .i64 1, .int .i64 2] 3 (0, 0))) : IntsIs W (.slice (some ⟨q, 0, none⟩) 3 n) [0, 1, 2] := by
  refine ⟨by simp [maxLen], _, _, rfl, fun _ => ⟨_, 0, rfl, ?_, fun j hj => ?_⟩⟩
  · exact (Array.getElem?_eq_some_iff.1 h).1
  · have hj' : j < 3 := hj
    rw [Lib.cell_of_heap h]
    have : j = 0 ∨ j = 1 ∨ j = 2 := by omega
    rcases this with rfl | rfl | rfl <;> rfl
set_option maxRecDepth 100000 in
set_option maxHeartbeats 64000000 in
theorem refLine_owner {S : Nat → Prop} {w : World} {m : Nat} {l : List Deed} {cs : List (List En)} (h : RkAt S w m l cs) (hG : GoodM l cs) (hcs : cs.length = 3) (s : ByteArray) (hs : s.size ≤ 3000) {rest : List ByteArray} (hw : splitS s = ⟨#[111, 119, 110, 101, 114]⟩ :: rest) :
    Calls Tryz.prog 36 #[.pointer (some ⟨m, 0, none⟩), .string s] w (LineTo S w m (answerO l cs s)) := by
  obtain ⟨k, hk⟩ : ∃ k, rest.length = k := ⟨_, rfl⟩
  have HZ : Hid (∀ x ∈ rest, x.size ≤ 3000) := fun x hx => Nat.le_trans (word_size s x (by rw [hw]; exact List.mem_cons_of_mem _ hx)) hs
  have HT : Hid (takeO l cs s = takeW (some (some (some (some (some (some ())))))) l cs rest) := by show _ = _; rw [takeO, hw]; rfl
  have HCt : Hid (Calls Tryz.prog 35 #[.string s, .int .u8 32] w fun e w' => ∃ v, e = .returned v ∧ OwnS w.heap.size w' v (⟨#[111, 119, 110, 101, 114]⟩ :: rest) ∧ Below w.heap.size w w') := by
    have c := refCut_c s 32 w (by omega)
    rw [← splitS_cutS, hw] at c
    exact c
  have hk3 : k ≤ 3000 := by
    have h1 := split_len s
    have h2 := Lib.countB_le blankS (by decide) s.size s (Nat.le_refl _)
    rw [hw, List.length_cons] at h1
    omega
  obtain ⟨R, HR⟩ : ∃ R, Hid (answerO l cs s = R) := ⟨_, rfl⟩
  rw [HR.out]
  have HK : Hid (RkAt S w m l cs) := h
  clear h hw
  go_enter Tryz.func36, Tryz.ntmps36
  go_wp2_with fail
  refine Calls.mono HCt.out ?_
  rintro e w1 ⟨v, rfl, ho, hb⟩
  have HB1 : Hid (Below w.heap.size w w1) := hb
  have HK1 : Hid (RkAt S w1 m l cs) := HK.out.grown hb
  obtain ⟨g, cap, hv, hgl, hgc, hgm, hcl⟩ := OwnS.cells ho (by simp)
  rw [List.length_cons, hk] at hv hgc
  have HC : Hid (∀ j (hj : j < rest.length), w1.cell? ⟨g, j + 1, none⟩ = some (.string rest[j])) := fun j hj => hcl (j + 1) _ (by rw [List.getElem?_cons_succ]; exact List.getElem?_eq_getElem hj)
  have c0 := hcl 0 _ rfl
  subst hv
  clear hb ho hcl HCt
  unfold maxLen at hgm
  by_cases hkm : k = 1
  · have HKm : Hid (k = 1) := hkm
    subst hkm
    have HTn : Hid (takeO l cs s = takeN (some (some (some (some (some (some ())))))) l cs (rest.drop 1) (numsL ((rest.take 1).map wordL))) := by
      show _ = _
      rw [HT.out, takeW, if_pos (by rw [hk]; rfl)]
      rfl
    clear HT
    go_upto_block 1 with fail
    go_cut [8, 9] (fun c8 c9 wd => ∃ (ns : List Nat) (u : Value), c8 = u ∧ Hid (numsL ((rest.take 1).map wordL) = some ns) ∧ Hid (OwnI w1.heap.size wd u (natZ ns)) ∧ Hid (Below w1.heap.size w1 wd))
    case first =>
      go_wp2_with fail
      go_loopw [8, 9] (fun c8 c9 wr => ∃ (j : Nat) (ns : List Nat) (u : Value), j ≤ 1 ∧ c9 = .int .i64 ((j : Int) + 1) ∧ c8 = u ∧ Hid (numsL ((rest.map wordL).take j) = some ns) ∧ Hid (OwnI w1.heap.size wr u (natZ ns)) ∧ Hid (Below w1.heap.size w1 wr)) (fun _ c9 _ => 1 + 1 - (intOf c9).toNat)
      case atStart => exact ⟨0, [], _, Nat.zero_le _, rfl, rfl, rfl, OwnI.nil _ _, Below.refl _ _⟩
      case round =>
        obtain ⟨j, ns, u, hj, rfl, hu, HNs, HO, HB⟩ := hrel
        have hu' := hu.symm
        clear hu
        subst hu'
        by_cases hlt : j < 1
        · have hlti : (j : Int) + 1 < 1 + 1 := by omega
          have hjl : j < rest.length := by omega
          have cj := kept_cell HB.out (HC.out j hjl)
          have HTk : Hid ((rest.map wordL).take (j + 1) = (rest.map wordL).take j ++ [wordL rest[j]]) := by
            show _ = _
            rw [List.take_add_one, List.getElem?_map, List.getElem?_eq_getElem hjl]
            rfl
          have HBad : Hid (numL (wordL rest[j]) = none → takeO l cs s = none) := fun h => by
            rw [HTn.out, numsL_bad (j := j) (by rw [List.length_map, List.length_take]; omega) (by rw [List.getElem_map, List.getElem_take]; exact h)]
            rfl
          have szj := HZ.out rest[j] (List.getElem_mem hjl)
          generalize rest[j] = x at cj HTk HBad szj
          have lgr := World.block_lt_of_cell? wr _ cj
          cases hq : numL (wordL x) with
          | none =>
            have hR : R = (badS, l, cs) := by rw [← HR.out, answerO, HBad.out hq]
            have HCl : Hid (∀ W, Calls Tryz.prog 85 #[.string x] W fun e w' => e = .returned (.tuple #[.int .i64 0, .bool false]) ∧ w' = W) := fun W => by
              have c := refNumber_c x W (by omega)
              rw [show numL x.data.toList = none from hq] at c
              exact c
            clear hq HBad
            subst hR
            go_wp2_with fail
            refine (HCl.out _).mono ?_
            rintro e w' ⟨rfl, hw⟩
            rw [hw]
            clear hw w'
            go_wp2_with fail
            go_ret
            exact ⟨rfl, HK.out.to (HB1.out.trans (HB.out.mono HB1.out.size))⟩
          | some y =>
            have HCl : Hid (∀ W, Calls Tryz.prog 85 #[.string x] W fun e w' => e = .returned (.tuple #[.int .i64 y, .bool true]) ∧ w' = W) := fun W => by
              have c := refNumber_c x W (by omega)
              rw [show numL x.data.toList = some y from hq] at c
              exact c
            have HN2 : Hid (numsL ((rest.map wordL).take (j + 1)) = some (ns ++ [y])) := by
              show _ = _
              rw [HTk.out]
              exact numsL_snoc HNs.out hq
            have HLa : Hid ((natZ ns).length ≤ 100) := by
              have h1 := numsL_len HNs.out
              rw [List.length_take] at h1
              show _ ≤ _
              rw [natZ, List.length_map]
              omega
            have hws : w1.heap.size ≤ wr.heap.size := HB.out.size
            have HBa : Hid (Below w1.heap.size w1 (wr.alloc (.cells #[.int .i64 y] 3))) := HB.out.alloc hws _
            have HOa : Hid (OwnI w1.heap.size (wr.alloc (.cells #[.int .i64 y] 3)) u (natZ ns)) := HO.out.below ((Below.refl _ _).alloc (Nat.le_refl _) _)
            have HVa : Hid ((wr.alloc (.cells #[.int .i64 y] 3)).heap[wr.heap.size]? = some (.cells #[.int .i64 y] 3 (0, 0))) := alloc_at _ _ _ rfl
            have HSa : Hid (w1.heap.size ≤ (wr.alloc (.cells #[.int .i64 y] 3)).heap.size) := show _ ≤ _ from (by simp; omega)
            clear hq HBad
            go_wp2_with fail
            refine (HCl.out _).mono ?_
            rintro e w' ⟨rfl, hw⟩
            rw [hw]
            clear hw w'
            go_wp2_with (at_builtin; refine wp_appI _ rfl _ _ rfl w1.heap.size _ (natZ ns) (y : Int) rfl HOa.out _ rfl HVa.out HLa.out HSa.out ?_)
            intro va wa hown hgrow
            have HOp : Hid (OwnI w1.heap.size wa va (natZ (ns ++ [y]))) := by
              have e : natZ (ns ++ [y]) = natZ ns ++ [(y : Int)] := by simp [natZ]
              show OwnI _ _ _ _
              rw [e]
              exact hown
            have HBp : Hid (Below w1.heap.size w1 wa) := below_grownF HBa.out (Nat.le_refl _) hgrow.out (fun c hc => HO.out.from c hc)
            clear hown hgrow HBa HOa HVa HSa HLa
            go_wp2_with fail
            go_roundw
            case rel => exact ⟨j + 1, ns ++ [y], va, by omega, by go_num, rfl, HN2, HOp, HBp⟩
            case measure => simp [intOf]; omega
        · obtain rfl : j = 1 := by omega
          have HN3 : Hid (numsL ((rest.take 1).map wordL) = some ns) := by
            have h1 := HNs.out
            rw [← List.map_take] at h1
            exact h1
          go_wp2_with fail
          go_meet
          exact ⟨ns, u, rfl, HN3, HO, HB⟩
    case rest =>
    obtain ⟨ns, u, h8, HNs, HO, HB⟩ := hcut
    have h8' := h8.symm
    clear h8
    subst h8'
    obtain ⟨w2, hren⟩ : ∃ y, y = wc := ⟨_, rfl⟩
    subst hren
    have HBw : Hid (Below w.heap.size w w2) := HB1.out.trans (HB.out.mono HB1.out.size)
    have HK2 : Hid (RkAt S w2 m l cs) := HK1.out.grown HB.out
    have HNl : Hid (ns.length = 1) := by
      show _ = _
      rw [numsL_len HNs.out, List.length_map, List.length_take]
      omega
    obtain ⟨a, rfl⟩ := len1 HNl.out
    obtain ⟨nb, no, ncap, hu, hnc⟩ := nums_cells HO.out.ints (by simp)
    have n0 : w2.cell? ⟨nb, no, none⟩ = some (.int .i64 (a : Nat)) := hnc 0 (by simp)
    have hul : [a].length = 1 := rfl
    rw [hul] at hu
    subst hu
    have c02 := kept_cell HB.out c0
    have HR2 : Hid (R = (nameT (doO (some (some (some (some (some (some ())))))) l cs [a] []), (doO (some (some (some (some (some (some ())))))) l cs [a] []).l, (doO (some (some (some (some (some (some ())))))) l cs [a] []).cs)) := by
      show R = _
      have hd : rest.drop 1 = [] := List.drop_of_length_le (by omega)
      rw [← HR.out, answerO, HTn.out, HNs.out, hd]
      rfl
    by_cases ha : a ≤ 7
    · have hai : ¬ (7 : Int) < (a : Int) := by omega
      obtain ⟨y, r, hy1, hy2⟩ := allO_head (l := ownPts) (key := (a : Nat)) own_right
      have hbf : badFind ownPts (a : Nat) = 0 := by
        unfold badFind
        rw [if_neg (by rw [own_right]; decide), if_neg (by simp [inR]; omega)]
      obtain ⟨X, hX, h5⟩ := own_num (a : Nat)
      have hyX : y = X := by
        rw [ownerA, if_pos hbf, hy2] at hX
        exact hX
      subst hyX
      have HRc : Hid (R = (digS X, l, cs)) := by
        have h1 := HR2.out
        have e : doO (some (some (some (some (some (some ())))))) l cs [a] [] = ⟨digS X, 0, l, cs⟩ := by
          show tellOwner l cs (a : Nat) = _
          rw [tellOwner, hX, hbf]
          rfl
        rw [e] at h1
        exact h1
      have hR := HRc.out
      have HP : Hid (∀ (u : Value) W, IntsIs W u [0, 1, 2] → Calls Tryz.prog 89 #[u, .int .i64 4] W fun e w' => ∃ u', e = .returned u' ∧ PtsIs w' u' ownPts ∧ Below W.heap.size W w') := fun u W hp => by
        rw [own_is]
        exact rPoints_c u [0, 1, 2] 4 W hp (by omega)
      have HOw : Hid (∀ (u : Value) W, PtsIs W u ownPts → Calls Tryz.prog 88 #[u, .int .i64 a] W fun e w' => ∃ u', e = .returned u' ∧ OwnI W.heap.size w' u' ((X : Int) :: r) ∧ Below W.heap.size W w') := fun u W hp => by
        have h1 := rOwners_c u ownPts a W hp own_right ha
        have h2 : ownersL (keyT a) ownPts = (X : Int) :: r := hy1
        rw [h2] at h1
        exact h1
      have HDg : Hid (∀ W, Calls Tryz.prog 87 #[.int .i64 X] W fun e w' => e = .returned (.string (digS X)) ∧ w' = W) := fun W => digits_c X (by omega) W
      clear HTn HR HR2 HRc HC HZ HK1 HNs HNl HO hnc hy1 hy2 hbf hX h5 ha
      subst hR
      go_upto_region 77 with fail
      have KN : Hid (∀ W, Below w2.heap.size w2 W → W.cell? ⟨nb, no, none⟩ = some (.int .i64 a)) := fun W hW => kept_cell hW n0
      clear c02 c0
      have HI0 : Hid (IntsIs (w2.alloc (.cells #[.int .i64 0, .int .i64 1, .int .i64 2] 3)) (.slice (some ⟨w2.heap.size, 0, none⟩) 3 3) [0, 1, 2]) := three_ints _ _ _ (alloc_at _ _ _ rfl)
      go_cut [24] (fun c24 wd => ∃ g o cp, c24 = .slice (some ⟨g, o, none⟩) (r.length + 1) cp ∧ Hid (wd.cell? ⟨g, o, none⟩ = some (.int .i64 X)) ∧ Hid (Below w2.heap.size w2 wd))
      case first =>
        go_region_held3 (fun w' => w'.cell? ⟨nb, no, none⟩ = some (.int .i64 a)) (first | go_keep | (exact KN.out _ HB5.out) | (exact KN.out _ HB3.out) | (exact KN.out _ (by go_grown))) (first | (go_at_call 89; refine Calls.mono (HP.out _ _ ?_) ?_; (first | exact HI0.out | exact HI0.out.below (by go_grown)); rintro e w3 ⟨u3, rfl, hp3, hb3⟩; have HB3 : Hid (Below w2.heap.size w2 w3) := (below_step (by go_grown) hb3); have HP3 : Hid (PtsIs w3 u3 ownPts) := hp3; clear hb3 hp3) | (go_at_call 88; refine Calls.mono (HOw.out _ _ ?_) ?_; (first | exact HP3.out | exact HP3.out.below (by go_grown)); rintro e w5 ⟨u5, rfl, ho5, hb5⟩; have HB5 : Hid (Below w2.heap.size w2 w5) := (below_step HB3.out (below_step (by go_grown) hb5)); have HI5 : Hid (IntsIs w5 u5 ((X : Int) :: r)) := ho5.ints; clear hb5 ho5))
        all_goals go_wp2_with fail
        all_goals go_meet
        all_goals obtain ⟨_, p5, cp5, hv5, hr5⟩ := HI5.out
        all_goals obtain ⟨g, o, rfl, _, hc5⟩ := hr5 (by simp)
        all_goals subst hv5
        all_goals exact ⟨g, o, cp5, rfl, hc5 0 (by simp), HB5⟩
      case rest =>
      obtain ⟨g, o, cp, h24, hg0, HD⟩ := hcut
      subst h24
      have g0 := hg0.out
      clear hg0
      go_wp2_with fail
      refine (HDg.out _).mono ?_
      rintro e w4 ⟨rfl, hw⟩
      rw [hw]
      clear hw w4
      go_wp2_with fail
      go_ret
      exact ⟨rfl, RkTo.after HBw.out (HK2.out.to HD.out)⟩
    · have hai : (7 : Int) < (a : Int) := by omega
      have HRc : Hid (R = (nameB 1, l, cs)) := by
        have h1 := HR2.out
        have hbf : badFind ownPts (a : Nat) = 1 := by
          unfold badFind
          rw [if_neg (by rw [own_right]; decide), if_pos (by simp [inR]; omega)]
        have e : doO (some (some (some (some (some (some ())))))) l cs [a] [] = ⟨digS (ownerA ownPts (a : Nat)).toNat, 1, l, cs⟩ := by
          show tellOwner l cs (a : Nat) = _
          rw [tellOwner, hbf]
        rw [e] at h1
        exact h1
      have hR := HRc.out
      have HNm : Hid (∀ W, Calls Tryz.prog 86 #[.int .i64 1] W fun e w' => e = .returned (.string (nameB 1)) ∧ Below W.heap.size W w') := fun W => refName_c 1 (by omega) (by omega) W
      clear HTn HR HR2 HRc HC HZ HK1 HNs HNl HO hnc ha
      subst hR
      go_wp2_with fail
      refine (HNm.out _).mono ?_
      rintro e w4 ⟨rfl, hb⟩
      have HD4 : Hid (Below w2.heap.size w2 w4) := hb
      clear hb
      go_wp2_with fail
      go_ret
      exact ⟨rfl, RkTo.after HBw.out (HK2.out.to HD4.out)⟩
  · have hR : R = (badS, l, cs) := by
      rw [← HR.out, answerO, HT.out, takeW, if_neg (by rw [hk]; exact hkm)]
    subst hR
    have hkb : ((1 : Int) != (k : Int)) = true := by simp; omega
    go_wp2_with fail
    go_ret
    exact ⟨rfl, HK.out.to HB1.out⟩
end Go.Proofs.YtpcnfoaoajfhlaaGreatDoor

namespace Go.Proofs.YtpcnfoaoajfhlaaGreatDoor
set_option linter.unusedVariables false
set_option linter.unusedSimpArgs false
open Go.RowKit

theorem ne_toL {f : ByteArray} {g : List UInt8} (h : f ≠ ⟨g.toArray⟩) : (f.toList == g) = false := by
  rw [beq_eq_false_iff_ne, ByteArray.toList_eq]
  intro e
  apply h
  apply ByteArray.ext
  show f.data = g.toArray
  rw [← e]
set_option maxRecDepth 100000 in
set_option maxHeartbeats 16000000 in
theorem refLine_x {S : Nat → Prop} {w : World} {m : Nat} {l : List Deed} {cs : List (List En)} (h : RkAt S w m l cs) (s : ByteArray) (hs : s.size ≤ 3000) {f : ByteArray} {rest : List ByteArray} (hw : splitS s = f :: rest) (hf : opO f = none)
    (hput : f ≠ ⟨#[112, 117, 116]⟩)
    (hdelete : f ≠ ⟨#[100, 101, 108, 101, 116, 101]⟩)
    (hget : f ≠ ⟨#[103, 101, 116]⟩)
    (hswap : f ≠ ⟨#[115, 119, 97, 112]⟩)
    (hseq : f ≠ ⟨#[115, 101, 113]⟩)
    (hcache : f ≠ ⟨#[99, 97, 99, 104, 101]⟩)
    (howner : f ≠ ⟨#[111, 119, 110, 101, 114]⟩) :
    Calls Tryz.prog 36 #[.pointer (some ⟨m, 0, none⟩), .string s] w (LineTo S w m (answerO l cs s)) := by
  obtain ⟨k, hk⟩ : ∃ k, rest.length = k := ⟨_, rfl⟩
  have hR : answerO l cs s = (badS, l, cs) := by
    rw [answerO, takeO, hw]
    simp only [hf]
  have HCt : Hid (Calls Tryz.prog 35 #[.string s, .int .u8 32] w fun e w' => ∃ v, e = .returned v ∧ OwnS w.heap.size w' v (f :: rest) ∧ Below w.heap.size w w') := by
    have c := refCut_c s 32 w (by omega)
    rw [← splitS_cutS, hw] at c
    exact c
  have hk3 : k ≤ 3000 := by
    have h1 := split_len s
    have h2 := Lib.countB_le blankS (by decide) s.size s (Nat.le_refl _)
    rw [hw, List.length_cons] at h1
    omega
  rw [hR]
  have HK : Hid (RkAt S w m l cs) := h
  have eput := ne_toL (g := [112, 117, 116]) hput
  have edelete := ne_toL (g := [100, 101, 108, 101, 116, 101]) hdelete
  have eget := ne_toL (g := [103, 101, 116]) hget
  have eswap := ne_toL (g := [115, 119, 97, 112]) hswap
  have eseq := ne_toL (g := [115, 101, 113]) hseq
  have ecache := ne_toL (g := [99, 97, 99, 104, 101]) hcache
  have eowner := ne_toL (g := [111, 119, 110, 101, 114]) howner
  clear h hw hR hf hput hdelete hget hswap hseq hcache howner
  go_enter Tryz.func36, Tryz.ntmps36
  go_wp2_with fail
  refine Calls.mono HCt.out ?_
  rintro e w1 ⟨v, rfl, ho, hb⟩
  have HB1 : Hid (Below w.heap.size w w1) := hb
  obtain ⟨g, cap, hv, hgl, hgc, hgm, hcl⟩ := OwnS.cells ho (by simp)
  rw [List.length_cons, hk] at hv hgc
  have c0 := hcl 0 _ rfl
  subst hv
  clear hb ho hcl HCt
  unfold maxLen at hgm
  have hkb : ((-1 : Int) != (k : Int)) = true := by simp
  go_wp2_with fail
  go_ret
  exact ⟨rfl, HK.out.to HB1.out⟩
theorem refLine_c {S : Nat → Prop} {w : World} {m : Nat} {l : List Deed} {cs : List (List En)} (h : RkAt S w m l cs) (hG : GoodM l cs) (hcs : cs.length = 3) (s : ByteArray) (hs : s.size ≤ 3000) :
    Calls Tryz.prog 36 #[.pointer (some ⟨m, 0, none⟩), .string s] w (LineTo S w m (answerO l cs s)) := by
  cases hw : splitS s with
  | nil =>
    have h1 := split_len s
    rw [hw] at h1
    exact absurd h1 (by simp)
  | cons f rest =>
    by_cases hput : f = ⟨#[112, 117, 116]⟩
    · subst hput
      exact refLine_put h hG hcs s hs hw
    by_cases hdelete : f = ⟨#[100, 101, 108, 101, 116, 101]⟩
    · subst hdelete
      exact refLine_delete h hG hcs s hs hw
    by_cases hget : f = ⟨#[103, 101, 116]⟩
    · subst hget
      exact refLine_get h hG hcs s hs hw
    by_cases hswap : f = ⟨#[115, 119, 97, 112]⟩
    · subst hswap
      exact refLine_swap h hG hcs s hs hw
    by_cases hseq : f = ⟨#[115, 101, 113]⟩
    · subst hseq
      exact refLine_seq h hG hcs s hs hw
    by_cases hcache : f = ⟨#[99, 97, 99, 104, 101]⟩
    · subst hcache
      exact refLine_cache h hG hcs s hs hw
    by_cases howner : f = ⟨#[111, 119, 110, 101, 114]⟩
    · subst howner
      exact refLine_owner h hG hcs s hs hw
    exact refLine_x h s hs hw (by rw [opO, if_neg (show ¬ f = putS from hput), if_neg (show ¬ f = deleteS from hdelete), if_neg (show ¬ f = getS from hget), if_neg (show ¬ f = swapS from hswap), if_neg (show ¬ f = seqS from hseq), if_neg (show ¬ f = cacheS from hcache), if_neg (show ¬ f = ownerS from howner)]) hput hdelete hget hswap hseq hcache howner
end Go.Proofs.YtpcnfoaoajfhlaaGreatDoor
