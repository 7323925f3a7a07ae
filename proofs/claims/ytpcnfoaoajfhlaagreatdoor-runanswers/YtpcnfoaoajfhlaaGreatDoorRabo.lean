/-
  The document's Line: swap.
-/
import Derived.Test.YtpcnfoaoajfhlaaGreatDoorRabn
namespace Go.Proofs.YtpcnfoaoajfhlaaGreatDoor
set_option linter.unusedVariables false
set_option linter.unusedSimpArgs false
set_option linter.unusedVariables false
set_option linter.unusedSimpArgs false
open Go.RowKit

set_option maxRecDepth 100000 in
set_option maxHeartbeats 64000000 in
theorem refLine_swap {S : Nat → Prop} {w : World} {m : Nat} {l : List Deed} {cs : List (List En)} (h : RkAt S w m l cs) (hG : GoodM l cs) (hcs : cs.length = 3) (s : ByteArray) (hs : s.size ≤ 3000) {rest : List ByteArray} (hw : splitS s = ⟨#[115, 119, 97, 112]⟩ :: rest) :
    Calls Tryz.prog 36 #[.pointer (some ⟨m, 0, none⟩), .string s] w (LineTo S w m (answerO l cs s)) := by
  obtain ⟨k, hk⟩ : ∃ k, rest.length = k := ⟨_, rfl⟩
  have HZ : Hid (∀ x ∈ rest, x.size ≤ 3000) := fun x hx => Nat.le_trans (word_size s x (by rw [hw]; exact List.mem_cons_of_mem _ hx)) hs
  have HT : Hid (takeO l cs s = takeW (some (some (some none))) l cs rest) := by show _ = _; rw [takeO, hw]; rfl
  have HCt : Hid (Calls Tryz.prog 35 #[.string s, .int .u8 32] w fun e w' => ∃ v, e = .returned v ∧ OwnS w.heap.size w' v (⟨#[115, 119, 97, 112]⟩ :: rest) ∧ Below w.heap.size w w') := by
    have c := refCut_c s 32 w (by omega)
    rw [← splitS_cutS, hw] at c
    exact c
  have hk3 : k ≤ 3000 := by
    have h1 := split_len s
    have h2 := Lib.countB_le blankS (by decide) s.size s (Nat.le_refl _)
    rw [hw, List.length_cons] at h1
    omega
  obtain ⟨R, HR⟩ : ∃ R, Hid (answerO l cs s = R) := ⟨_, rfl⟩
  rw [HR.out]
  have HK : Hid (RkAt S w m l cs) := h
  clear h hw
  go_enter Tryz.func36, Tryz.ntmps36
  go_wp2_with fail
  refine Calls.mono HCt.out ?_
  rintro e w1 ⟨v, rfl, ho, hb⟩
  have HB1 : Hid (Below w.heap.size w w1) := hb
  have HK1 : Hid (RkAt S w1 m l cs) := HK.out.grown hb
  obtain ⟨g, cap, hv, hgl, hgc, hgm, hcl⟩ := OwnS.cells ho (by simp)
  rw [List.length_cons, hk] at hv hgc
  have HC : Hid (∀ j (hj : j < rest.length), w1.cell? ⟨g, j + 1, none⟩ = some (.string rest[j])) := fun j hj => hcl (j + 1) _ (by rw [List.getElem?_cons_succ]; exact List.getElem?_eq_getElem hj)
  have c0 := hcl 0 _ rfl
  subst hv
  clear hb ho hcl HCt
  unfold maxLen at hgm
  by_cases hkm : k = 2
  · have HKm : Hid (k = 2) := hkm
    subst hkm
    have HTn : Hid (takeO l cs s = takeN (some (some (some none))) l cs (rest.drop 2) (numsL ((rest.take 2).map wordL))) := by
      show _ = _
      rw [HT.out, takeW, if_pos (by rw [hk]; rfl)]
      rfl
    clear HT
    go_upto_block 1 with fail
    go_cut [8, 9] (fun c8 c9 wd => ∃ (ns : List Nat) (u : Value), c8 = u ∧ Hid (numsL ((rest.take 2).map wordL) = some ns) ∧ Hid (OwnI w1.heap.size wd u (natZ ns)) ∧ Hid (Below w1.heap.size w1 wd))
    case first =>
      go_wp2_with fail
      go_loopw [8, 9] (fun c8 c9 wr => ∃ (j : Nat) (ns : List Nat) (u : Value), j ≤ 2 ∧ c9 = .int .i64 ((j : Int) + 1) ∧ c8 = u ∧ Hid (numsL ((rest.map wordL).take j) = some ns) ∧ Hid (OwnI w1.heap.size wr u (natZ ns)) ∧ Hid (Below w1.heap.size w1 wr)) (fun _ c9 _ => 2 + 1 - (intOf c9).toNat)
      case atStart => exact ⟨0, [], _, Nat.zero_le _, rfl, rfl, rfl, OwnI.nil _ _, Below.refl _ _⟩
      case round =>
        obtain ⟨j, ns, u, hj, rfl, hu, HNs, HO, HB⟩ := hrel
        have hu' := hu.symm
        clear hu
        subst hu'
        by_cases hlt : j < 2
        · have hlti : (j : Int) + 1 < 2 + 1 := by omega
          have hjl : j < rest.length := by omega
          have cj := kept_cell HB.out (HC.out j hjl)
          have HTk : Hid ((rest.map wordL).take (j + 1) = (rest.map wordL).take j ++ [wordL rest[j]]) := by
            show _ = _
            rw [List.take_add_one, List.getElem?_map, List.getElem?_eq_getElem hjl]
            rfl
          have HBad : Hid (numL (wordL rest[j]) = none → takeO l cs s = none) := fun h => by
            rw [HTn.out, numsL_bad (j := j) (by rw [List.length_map, List.length_take]; omega) (by rw [List.getElem_map, List.getElem_take]; exact h)]
            rfl
          have szj := HZ.out rest[j] (List.getElem_mem hjl)
          generalize rest[j] = x at cj HTk HBad szj
          have lgr := World.block_lt_of_cell? wr _ cj
          cases hq : numL (wordL x) with
          | none =>
            have hR : R = (badS, l, cs) := by rw [← HR.out, answerO, HBad.out hq]
            have HCl : Hid (∀ W, Calls Tryz.prog 85 #[.string x] W fun e w' => e = .returned (.tuple #[.int .i64 0, .bool false]) ∧ w' = W) := fun W => by
              have c := refNumber_c x W (by omega)
              rw [show numL x.data.toList = none from hq] at c
              exact c
            clear hq HBad
            subst hR
            go_wp2_with fail
            refine (HCl.out _).mono ?_
            rintro e w' ⟨rfl, hw⟩
            rw [hw]
            clear hw w'
            go_wp2_with fail
            go_ret
            exact ⟨rfl, HK.out.to (HB1.out.trans (HB.out.mono HB1.out.size))⟩
          | some y =>
            have HCl : Hid (∀ W, Calls Tryz.prog 85 #[.string x] W fun e w' => e = .returned (.tuple #[.int .i64 y, .bool true]) ∧ w' = W) := fun W => by
              have c := refNumber_c x W (by omega)
              rw [show numL x.data.toList = some y from hq] at c
              exact c
            have HN2 : Hid (numsL ((rest.map wordL).take (j + 1)) = some (ns ++ [y])) := by
              show _ = _
              rw [HTk.out]
              exact numsL_snoc HNs.out hq
            have HLa : Hid ((natZ ns).length ≤ 100) := by
              have h1 := numsL_len HNs.out
              rw [List.length_take] at h1
              show _ ≤ _
              rw [natZ, List.length_map]
              omega
            have hws : w1.heap.size ≤ wr.heap.size := HB.out.size
            have HBa : Hid (Below w1.heap.size w1 (wr.alloc (.cells #[.int .i64 y] 3))) := HB.out.alloc hws _
            have HOa : Hid (OwnI w1.heap.size (wr.alloc (.cells #[.int .i64 y] 3)) u (natZ ns)) := HO.out.below ((Below.refl _ _).alloc (Nat.le_refl _) _)
            have HVa : Hid ((wr.alloc (.cells #[.int .i64 y] 3)).heap[wr.heap.size]? = some (.cells #[.int .i64 y] 3 (0, 0))) := alloc_at _ _ _ rfl
            have HSa : Hid (w1.heap.size ≤ (wr.alloc (.cells #[.int .i64 y] 3)).heap.size) := show _ ≤ _ from (by simp; omega)
            clear hq HBad
            go_wp2_with fail
            refine (HCl.out _).mono ?_
            rintro e w' ⟨rfl, hw⟩
            rw [hw]
            clear hw w'
            go_wp2_with (at_builtin; refine wp_appI _ rfl _ _ rfl w1.heap.size _ (natZ ns) (y : Int) rfl HOa.out _ rfl HVa.out HLa.out HSa.out ?_)
            intro va wa hown hgrow
            have HOp : Hid (OwnI w1.heap.size wa va (natZ (ns ++ [y]))) := by
              have e : natZ (ns ++ [y]) = natZ ns ++ [(y : Int)] := by simp [natZ]
              show OwnI _ _ _ _
              rw [e]
              exact hown
            have HBp : Hid (Below w1.heap.size w1 wa) := below_grownF HBa.out (Nat.le_refl _) hgrow.out (fun c hc => HO.out.from c hc)
            clear hown hgrow HBa HOa HVa HSa HLa
            go_wp2_with fail
            go_roundw
            case rel => exact ⟨j + 1, ns ++ [y], va, by omega, by go_num, rfl, HN2, HOp, HBp⟩
            case measure => simp [intOf]; omega
        · obtain rfl : j = 2 := by omega
          have HN3 : Hid (numsL ((rest.take 2).map wordL) = some ns) := by
            have h1 := HNs.out
            rw [← List.map_take] at h1
            exact h1
          go_wp2_with fail
          go_meet
          exact ⟨ns, u, rfl, HN3, HO, HB⟩
    case rest =>
    obtain ⟨ns, u, h8, HNs, HO, HB⟩ := hcut
    have h8' := h8.symm
    clear h8
    subst h8'
    obtain ⟨w2, hren⟩ : ∃ y, y = wc := ⟨_, rfl⟩
    subst hren
    have HBw : Hid (Below w.heap.size w w2) := HB1.out.trans (HB.out.mono HB1.out.size)
    have HK2 : Hid (RkAt S w2 m l cs) := HK1.out.grown HB.out
    have HNl : Hid (ns.length = 2) := by
      show _ = _
      rw [numsL_len HNs.out, List.length_map, List.length_take]
      omega
    obtain ⟨a, b, rfl⟩ := len2 HNl.out
    obtain ⟨nb, no, ncap, hu, hnc⟩ := nums_cells HO.out.ints (by simp)
    have hfr : w1.heap.size ≤ nb := HO.out.from nb (by rw [hu]; rfl)
    have n0 : w2.cell? ⟨nb, no, none⟩ = some (.int .i64 (a : Nat)) := hnc 0 (by simp)
    have n1 : w2.cell? ⟨nb, no + 1, none⟩ = some (.int .i64 (b : Nat)) := hnc 1 (by simp)
    have hul : [a, b].length = 2 := rfl
    rw [hul] at hu
    subst hu
    have HNs2 : Hid (¬ S nb) := fun hS => by have h1 := HK.out.lt nb hS; have h2 := HB1.out.size; omega
    have c02 := kept_cell HB.out c0
    have HR2 : Hid (R = (nameT (doO (some (some (some none))) l cs [a, b] []), (doO (some (some (some none))) l cs [a, b] []).l, (doO (some (some (some none))) l cs [a, b] []).cs)) := by
      show R = _
      have hd : rest.drop 2 = [] := List.drop_of_length_le (by omega)
      rw [← HR.out, answerO, HTn.out, HNs.out, hd]
      rfl
    obtain ⟨cs', n, hx⟩ : ∃ cs' n, mSwap cs (a : Nat) (b : Nat) = (cs', n) := ⟨_, _, rfl⟩
    have hn08 := mSwap_err cs ((a : Nat) : Int) ((b : Nat) : Int)
    rw [hx] at hn08
    have HR3 : Hid (R = (if n = 0 then okS else nameB n, l, cs')) := by
      have h := HR2.out
      have e : doO (some (some (some none))) l cs [a, b] [] = ⟨okS, n, l, cs'⟩ := by
        show tellSwap l (mSwap cs (a : Nat) (b : Nat)) = _
        rw [hx]
        rfl
      rw [e] at h
      exact h
    have HP : Hid (∀ W, Below w2.heap.size w2 W → Calls Tryz.prog 14 #[.pointer (some ⟨m, 0, none⟩), .int .i64 a, .int .i64 b] W fun e w' => e = .returned (.int .i64 n) ∧ RkTo S w2 w' m l cs') := fun W hW =>
      (rMSwap_o (HK2.out.grown hW) hG hx).mono fun e w' hy => ⟨hy.1, RkTo.after hW hy.2⟩
    have hR := HR3.out
    clear HTn HR HR2 HR3 HC HZ HK1 HNs HNl HO hnc hfr hx hul
    go_upto_region 56 with fail
    go_cut [21] (fun c21 wd => c21 = .int .i64 n ∧ Hid (RkTo S w2 wd m l cs'))
    case first =>
      go_region_held3 (fun w' => w'.cell? ⟨nb, no, none⟩ = some (.int .i64 a) ∧ w'.cell? ⟨nb, no + 1, none⟩ = some (.int .i64 b)) (first | go_keep | (exact ⟨q1, q2⟩)) (first | (go_at_call 14; refine Calls.mono (HP.out _ ?_) ?_; exact ⟨rfl, rfl, rfl, Nat.le_refl _, fun _ _ => rfl⟩; rintro e w3 ⟨rfl, hd⟩; have q1 := hd.1.at n0 HNs2.out; have q2 := hd.1.at n1 HNs2.out; have HD : Hid _ := hd; clear hd))
      all_goals go_wp2_with fail
      all_goals go_meet
      all_goals exact ⟨rfl, HD⟩
    case rest =>
    obtain ⟨h21, HD⟩ := hcut
    subst h21
    clear n0 n1 c02 c0 HP
    by_cases hn : n = 0
    · subst hn
      rw [if_pos rfl] at hR
      subst hR
      go_wp2_with fail
      go_ret
      exact ⟨rfl, RkTo.after HBw.out HD.out⟩
    · have hnb : (n != 0) = true := by simp [hn]
      rw [if_neg hn] at hR
      subst hR
      have HNm : Hid (∀ W, Calls Tryz.prog 86 #[.int .i64 n] W fun e w' => e = .returned (.string (nameB n)) ∧ Below W.heap.size W w') := fun W => refName_c n hn08.1 hn08.2 W
      clear hn
      go_wp2_with fail
      refine (HNm.out _).mono ?_
      rintro e w4 ⟨rfl, hb⟩
      have HD4 : Hid (RkTo S w w4 m l cs') := RkTo.after HBw.out (RkTo.below HD.out hb)
      clear hb
      go_wp2_with fail
      go_ret
      exact ⟨rfl, HD4.out⟩
  · have hR : R = (badS, l, cs) := by
      rw [← HR.out, answerO, HT.out, takeW, if_neg (by rw [hk]; exact hkm)]
    subst hR
    have hkb : ((2 : Int) != (k : Int)) = true := by simp; omega
    go_wp2_with fail
    go_ret
    exact ⟨rfl, HK.out.to HB1.out⟩
end Go.Proofs.YtpcnfoaoajfhlaaGreatDoor
