/-
  The document's Line: cache.
  The document's Line: owner.
-/
import Derived.Test.YtpcnfoaoajfhlaaGreatDoorRabq
import Derived.Test.YtpcnfoaoajfhlaaGreatDoorRabc
import Derived.Test.YtpcnfoaoajfhlaaGreatDoorRaaw
import Derived.Test.YtpcnfoaoajfhlaaGreatDoorRaax
namespace Go.Proofs.YtpcnfoaoajfhlaaGreatDoor
set_option linter.unusedVariables false
set_option linter.unusedSimpArgs false
set_option linter.unusedVariables false
set_option linter.unusedSimpArgs false
open Go.RowKit

theorem RkAt.grown2 {S : Nat → Prop} {w w2 w' : World} {m : Nat} {l : List Deed} {cs : List (List En)} (h : RkAt S w2 m l cs) (hb : Below w.heap.size w w2) (hc : Below w2.heap.size w2 w') : RkTo S w w' m l cs := RkTo.after hb (h.to hc)
def joinB (ys : List ByteArray) : ByteArray := ⟨(Lib.join (ys.map (fun b => b.data.toList)) blankS.data.toList).toArray⟩
theorem joinB_one (y : ByteArray) : joinB [y] = y := by
  rw [joinB, List.map_singleton, Lib.join_one]
theorem joinB_snoc {ys : List ByteArray} (h : ys ≠ []) (y : ByteArray) : joinB (ys ++ [y]) = joinB ys ++ ⟨#[32]⟩ ++ y := by
  cases ys with
  | nil => exact absurd rfl h
  | cons z ys =>
    apply ByteArray.ext
    apply Array.ext'
    rw [ByteArray.data_append, ByteArray.data_append, Array.toList_append, Array.toList_append]
    simp only [joinB, List.cons_append, List.map_cons, List.map_append, List.map_nil, Lib.join_cons, Lib.joinTail, List.flatten_append, List.flatten_cons, List.flatten_nil, List.append_nil, List.append_assoc]
    rfl
theorem joinB_len {x : List En} (h : GoodL x) (j : Nat) : (joinB ((keyBs x).take j)).size ≤ 300 := by
  have h1 := join_len blankS.data.toList rfl (((keyBs x).take j).map (fun b => b.data.toList)) 30 (fun y hy => by
    obtain ⟨z, hz, rfl⟩ := List.mem_map.1 hy
    obtain ⟨e, he, rfl⟩ := List.mem_map.1 (List.mem_of_mem_take hz)
    have h2 := (small_bad (h.all e he)).k0.2
    have h3 := digS_size e.k.toNat (by omega)
    rw [size_list]
    omega)
  have h4 := h.len
  rw [List.length_map, List.length_take, keyBs, List.length_map] at h1
  rw [← size_list]
  refine Nat.le_trans h1 ?_
  have h5 : min j x.length ≤ 8 := by omega
  omega
theorem digS_pos (k : Nat) (h : k ≤ 7) : (digS k).size ≠ 0 := by
  have hk : k = 0 ∨ k = 1 ∨ k = 2 ∨ k = 3 ∨ k = 4 ∨ k = 5 ∨ k = 6 ∨ k = 7 := by omega
  rcases hk with rfl | rfl | rfl | rfl | rfl | rfl | rfl | rfl <;> decide +kernel
theorem joinB_pos {x : List En} (h : GoodL x) (hx : x ≠ []) : (joinB (keyBs x)).size ≠ 0 := by
  cases x with
  | nil => exact absurd rfl hx
  | cons e x =>
    have h2 := (small_bad (h.all e List.mem_cons_self)).k0.2
    have h3 := digS_pos e.k.toNat (by omega)
    rw [← size_list] at h3 ⊢
    simp only [joinB, keyBs, List.map_cons, Lib.join_cons, List.length_append]
    omega
set_option maxRecDepth 100000 in
set_option maxHeartbeats 64000000 in
theorem refLine_cache {S : Nat → Prop} {w : World} {m : Nat} {l : List Deed} {cs : List (List En)} (h : RkAt S w m l cs) (hG : GoodM l cs) (hcs : cs.length = 3) (s : ByteArray) (hs : s.size ≤ 3000) {rest : List ByteArray} (hw : splitS s = ⟨#[99, 97, 99, 104, 101]⟩ :: rest) :
    Calls Tryz.prog 36 #[.pointer (some ⟨m, 0, none⟩), .string s] w (LineTo S w m (answerO l cs s)) := by
  obtain ⟨k, hk⟩ : ∃ k, rest.length = k := ⟨_, rfl⟩
  have HZ : Hid (∀ x ∈ rest, x.size ≤ 3000) := fun x hx => Nat.le_trans (word_size s x (by rw [hw]; exact List.mem_cons_of_mem _ hx)) hs
  have HT : Hid (takeO l cs s = takeW (some (some (some (some (some none))))) l cs rest) := by show _ = _; rw [takeO, hw]; rfl
  have HCt : Hid (Calls Tryz.prog 35 #[.string s, .int .u8 32] w fun e w' => ∃ v, e = .returned v ∧ OwnS w.heap.size w' v (⟨#[99, 97, 99, 104, 101]⟩ :: rest) ∧ Below w.heap.size w w') := by
    have c := refCut_c s 32 w (by omega)
    rw [← splitS_cutS, hw] at c
    exact c
  have hk3 : k ≤ 3000 := by
    have h1 := split_len s
    have h2 := Lib.countB_le blankS (by decide) s.size s (Nat.le_refl _)
    rw [hw, List.length_cons] at h1
    omega
  obtain ⟨R, HR⟩ : ∃ R, Hid (answerO l cs s = R) := ⟨_, rfl⟩
  rw [HR.out]
  have HK : Hid (RkAt S w m l cs) := h
  clear h hw
  go_enter Tryz.func36, Tryz.ntmps36
  go_wp2_with fail
  refine Calls.mono HCt.out ?_
  rintro e w1 ⟨v, rfl, ho, hb⟩
  have HB1 : Hid (Below w.heap.size w w1) := hb
  have HK1 : Hid (RkAt S w1 m l cs) := HK.out.grown hb
  obtain ⟨g, cap, hv, hgl, hgc, hgm, hcl⟩ := OwnS.cells ho (by simp)
  rw [List.length_cons, hk] at hv hgc
  have HC : Hid (∀ j (hj : j < rest.length), w1.cell? ⟨g, j + 1, none⟩ = some (.string rest[j])) := fun j hj => hcl (j + 1) _ (by rw [List.getElem?_cons_succ]; exact List.getElem?_eq_getElem hj)
  have c0 := hcl 0 _ rfl
  subst hv
  clear hb ho hcl HCt
  unfold maxLen at hgm
  by_cases hkm : k = 1
  · have HKm : Hid (k = 1) := hkm
    subst hkm
    have HTn : Hid (takeO l cs s = takeN (some (some (some (some (some none))))) l cs (rest.drop 1) (numsL ((rest.take 1).map wordL))) := by
      show _ = _
      rw [HT.out, takeW, if_pos (by rw [hk]; rfl)]
      rfl
    clear HT
    go_upto_block 1 with fail
    go_cut [8, 9] (fun c8 c9 wd => ∃ (ns : List Nat) (u : Value), c8 = u ∧ Hid (numsL ((rest.take 1).map wordL) = some ns) ∧ Hid (OwnI w1.heap.size wd u (natZ ns)) ∧ Hid (Below w1.heap.size w1 wd))
    case first =>
      go_wp2_with fail
      go_loopw [8, 9] (fun c8 c9 wr => ∃ (j : Nat) (ns : List Nat) (u : Value), j ≤ 1 ∧ c9 = .int .i64 ((j : Int) + 1) ∧ c8 = u ∧ Hid (numsL ((rest.map wordL).take j) = some ns) ∧ Hid (OwnI w1.heap.size wr u (natZ ns)) ∧ Hid (Below w1.heap.size w1 wr)) (fun _ c9 _ => 1 + 1 - (intOf c9).toNat)
      case atStart => exact ⟨0, [], _, Nat.zero_le _, rfl, rfl, rfl, OwnI.nil _ _, Below.refl _ _⟩
      case round =>
        obtain ⟨j, ns, u, hj, rfl, hu, HNs, HO, HB⟩ := hrel
        have hu' := hu.symm
        clear hu
        subst hu'
        by_cases hlt : j < 1
        · have hlti : (j : Int) + 1 < 1 + 1 := by omega
          have hjl : j < rest.length := by omega
          have cj := kept_cell HB.out (HC.out j hjl)
          have HTk : Hid ((rest.map wordL).take (j + 1) = (rest.map wordL).take j ++ [wordL rest[j]]) := by
            show _ = _
            rw [List.take_add_one, List.getElem?_map, List.getElem?_eq_getElem hjl]
            rfl
          have HBad : Hid (numL (wordL rest[j]) = none → takeO l cs s = none) := fun h => by
            rw [HTn.out, numsL_bad (j := j) (by rw [List.length_map, List.length_take]; omega) (by rw [List.getElem_map, List.getElem_take]; exact h)]
            rfl
          have szj := HZ.out rest[j] (List.getElem_mem hjl)
          generalize rest[j] = x at cj HTk HBad szj
          have lgr := World.block_lt_of_cell? wr _ cj
          cases hq : numL (wordL x) with
          | none =>
            have hR : R = (badS, l, cs) := by rw [← HR.out, answerO, HBad.out hq]
            have HCl : Hid (∀ W, Calls Tryz.prog 85 #[.string x] W fun e w' => e = .returned (.tuple #[.int .i64 0, .bool false]) ∧ w' = W) := fun W => by
              have c := refNumber_c x W (by omega)
              rw [show numL x.data.toList = none from hq] at c
              exact c
            clear hq HBad
            subst hR
            go_wp2_with fail
            refine (HCl.out _).mono ?_
            rintro e w' ⟨rfl, hw⟩
            rw [hw]
            clear hw w'
            go_wp2_with fail
            go_ret
            exact ⟨rfl, HK.out.to (HB1.out.trans (HB.out.mono HB1.out.size))⟩
          | some y =>
            have HCl : Hid (∀ W, Calls Tryz.prog 85 #[.string x] W fun e w' => e = .returned (.tuple #[.int .i64 y, .bool true]) ∧ w' = W) := fun W => by
              have c := refNumber_c x W (by omega)
              rw [show numL x.data.toList = some y from hq] at c
              exact c
            have HN2 : Hid (numsL ((rest.map wordL).take (j + 1)) = some (ns ++ [y])) := by
              show _ = _
              rw [HTk.out]
              exact numsL_snoc HNs.out hq
            have HLa : Hid ((natZ ns).length ≤ 100) := by
              have h1 := numsL_len HNs.out
              rw [List.length_take] at h1
              show _ ≤ _
              rw [natZ, List.length_map]
              omega
            have hws : w1.heap.size ≤ wr.heap.size := HB.out.size
            have HBa : Hid (Below w1.heap.size w1 (wr.alloc (.cells #[.int .i64 y] 3))) := HB.out.alloc hws _
            have HOa : Hid (OwnI w1.heap.size (wr.alloc (.cells #[.int .i64 y] 3)) u (natZ ns)) := HO.out.below ((Below.refl _ _).alloc (Nat.le_refl _) _)
            have HVa : Hid ((wr.alloc (.cells #[.int .i64 y] 3)).heap[wr.heap.size]? = some (.cells #[.int .i64 y] 3 (0, 0))) := alloc_at _ _ _ rfl
            have HSa : Hid (w1.heap.size ≤ (wr.alloc (.cells #[.int .i64 y] 3)).heap.size) := show _ ≤ _ from (by simp; omega)
            clear hq HBad
            go_wp2_with fail
            refine (HCl.out _).mono ?_
            rintro e w' ⟨rfl, hw⟩
            rw [hw]
            clear hw w'
            go_wp2_with (at_builtin; refine wp_appI _ rfl _ _ rfl w1.heap.size _ (natZ ns) (y : Int) rfl HOa.out _ rfl HVa.out HLa.out HSa.out ?_)
            intro va wa hown hgrow
            have HOp : Hid (OwnI w1.heap.size wa va (natZ (ns ++ [y]))) := by
              have e : natZ (ns ++ [y]) = natZ ns ++ [(y : Int)] := by simp [natZ]
              show OwnI _ _ _ _
              rw [e]
              exact hown
            have HBp : Hid (Below w1.heap.size w1 wa) := below_grownF HBa.out (Nat.le_refl _) hgrow.out (fun c hc => HO.out.from c hc)
            clear hown hgrow HBa HOa HVa HSa HLa
            go_wp2_with fail
            go_roundw
            case rel => exact ⟨j + 1, ns ++ [y], va, by omega, by go_num, rfl, HN2, HOp, HBp⟩
            case measure => simp [intOf]; omega
        · obtain rfl : j = 1 := by omega
          have HN3 : Hid (numsL ((rest.take 1).map wordL) = some ns) := by
            have h1 := HNs.out
            rw [← List.map_take] at h1
            exact h1
          go_wp2_with fail
          go_meet
          exact ⟨ns, u, rfl, HN3, HO, HB⟩
    case rest =>
    obtain ⟨ns, u, h8, HNs, HO, HB⟩ := hcut
    have h8' := h8.symm
    clear h8
    subst h8'
    obtain ⟨w2, hren⟩ : ∃ y, y = wc := ⟨_, rfl⟩
    subst hren
    have HBw : Hid (Below w.heap.size w w2) := HB1.out.trans (HB.out.mono HB1.out.size)
    have HK2 : Hid (RkAt S w2 m l cs) := HK1.out.grown HB.out
    have HNl : Hid (ns.length = 1) := by
      show _ = _
      rw [numsL_len HNs.out, List.length_map, List.length_take]
      omega
    obtain ⟨a, rfl⟩ := len1 HNl.out
    obtain ⟨nb, no, ncap, hu, hnc⟩ := nums_cells HO.out.ints (by simp)
    have n0 : w2.cell? ⟨nb, no, none⟩ = some (.int .i64 (a : Nat)) := hnc 0 (by simp)
    have hul : [a].length = 1 := rfl
    rw [hul] at hu
    subst hu
    have c02 := kept_cell HB.out c0
    have HR2 : Hid (R = (nameT (doO (some (some (some (some (some none))))) l cs [a] []), (doO (some (some (some (some (some none))))) l cs [a] []).l, (doO (some (some (some (some (some none))))) l cs [a] []).cs)) := by
      show R = _
      have hd : rest.drop 1 = [] := List.drop_of_length_le (by omega)
      rw [← HR.out, answerO, HTn.out, HNs.out, hd]
      rfl
    obtain ⟨b, c, k0, k1, _, hrows⟩ := RkAt.slots HK2.out
    rw [hcs] at k1
    by_cases ha : a < 3
    · have hab : decide ((3 : Int) ≤ (a : Int)) = false := by simp; omega
      have hai : (a : Int) < 3 := by omega
      obtain ⟨v, hv, hrow⟩ := hrows a (by omega)
      obtain ⟨x, HX⟩ : ∃ x, Hid (cs[a] = x) := ⟨cs[a], show cs[a] = cs[a] from rfl⟩
      rw [HX.out] at hrow
      have HGx : Hid (GoodL x) := by
        have h1 := (hG.at (a : Int)).good
        rw [cacheN_at (by omega), HX.out] at h1
        exact h1
      have HRc : Hid (R = (cacheB x, l, cs)) := by
        have h1 := HR2.out
        have e1 : mCacheO cs (a : Nat) = (x, 0) := by
          unfold mCacheO
          rw [if_pos (nodeB_iff.2 (by omega)), cacheN_at (by omega), HX.out]
        have e : doO (some (some (some (some (some none))))) l cs [a] [] = ⟨cacheB x, 0, l, cs⟩ := by
          show tellCache l cs (mCacheO cs (a : Nat)) = _
          rw [e1]
          rfl
        rw [e] at h1
        exact h1
      have hR := HRc.out
      clear HTn HR HR2 HRc HC HZ HK1 HNs HNl HO hnc hrows
      obtain ⟨_, p, cap3, rfl, hrow⟩ := hrow
      obtain ⟨N, HN⟩ : ∃ N, Hid (x.length = N) := ⟨_, rfl⟩
      rw [HN.out] at hv
      have hN8 : N ≤ 8 := by rw [← HN.out]; exact HGx.out.len
      have HRow : Hid _ := hrow
      have nm := World.block_lt_of_cell? w2 _ k1
      clear hrow k0
      subst hR
      have k0b := k1
      go_upto_region 61 with fail
      go_quiet (fail)
      have HB3 : Hid (Below w2.heap.size w2 (w2.drewN nq)) := below_drewN _ _ _
      obtain ⟨w3, HW3⟩ : ∃ w3, w3 = w2.drewN nq := ⟨_, rfl⟩
      rw [← HW3] at HB3 ⊢
      clear HW3 nm k0b c02 c0
      go_upto_block 4 with fail
      go_cut [7] (fun c7 wd => c7 = .string (joinB (keyBs x)) ∧ Hid (Below w2.heap.size w2 wd))
      case first =>
        go_wp2_with fail
        go_loopw [7, 22] (fun c7 c22 wr => ∃ j : Nat, j ≤ N ∧ c22 = .int .i64 j ∧ c7 = .string (joinB ((keyBs x).take j)) ∧ Hid (Below w2.heap.size w2 wr)) (fun _ i _ => N - (intOf i).toNat)
        case atStart => exact ⟨0, Nat.zero_le _, rfl, rfl, HB3⟩
        case round =>
          obtain ⟨j, hj, rfl, rfl, HBr⟩ := hrel
          have k1r := kept_cell HBr.out k1
          have n0r := kept_cell HBr.out n0
          have hvr := kept_cell HBr.out hv
          by_cases hlt : j < N
          · have hlti : (j : Int) < (N : Int) := by omega
            have hjl : j < x.length := by rw [HN.out]; exact hlt
            obtain ⟨b2, o, rfl, hb2, hat⟩ := HRow.out (fun h => by rw [h] at hjl; exact Nat.not_lt_zero _ hjl)
            have HAt : Hid (EnAt wr b2 (o + j * 5) x[j]) := (hat j hjl).of_block (HBr.out.block b2 hb2)
            have HJ1 : Hid (joinB ((keyBs x).take (j + 1)) = if j = 0 then digS x[j].k.toNat else joinB ((keyBs x).take j) ++ ⟨#[32]⟩ ++ digS x[j].k.toNat) := by
              show _ = _
              rw [keyBs_more x j hjl]
              by_cases h0 : j = 0
              · subst h0
                rw [if_pos rfl, List.take_zero, List.nil_append, joinB_one]
              · rw [if_neg h0]
                exact joinB_snoc (fun e => h0 (by have h1 := congrArg List.length e; rw [List.length_take, keyBs, List.length_map, List.length_nil] at h1; omega)) _
            have hT0 := joinB_len HGx.out j
            have HSm : Hid (Small x[j]) := small_bad (HGx.out.all x[j] (List.getElem_mem hjl))
            obtain ⟨y, HY⟩ : ∃ y, Hid (x[j] = y) := ⟨x[j], show x[j] = x[j] from rfl⟩
            rw [HY.out] at HAt HSm HJ1
            obtain ⟨x0, x1, x2, x3, x4⟩ := y
            obtain ⟨k, rfl⟩ : ∃ k : Nat, x0 = k := ⟨x0.toNat, by have := HSm.out.k0.1; dsimp only at this; omega⟩
            have hk7 : k ≤ 7 := by have := HSm.out.k0.2; dsimp only at this; omega
            obtain ⟨y0, y1, y2, y3, y4⟩ := HAt.out
            dsimp only at y0 y1 y2 y3 y4
            have HJ2 : Hid (joinB ((keyBs x).take (j + 1)) = if j = 0 then digS k else joinB ((keyBs x).take j) ++ ⟨#[32]⟩ ++ digS k) := HJ1.out
            have HJ0 : Hid (j = 0 → joinB ((keyBs x).take j) = ⟨#[]⟩) := fun h => by subst h; rfl
            have HDg : Hid (∀ W, Calls Tryz.prog 87 #[.int .i64 k] W fun e w' => e = .returned (.string (digS k)) ∧ w' = W) := fun W => digits_c k (by omega) W
            have hd0 := digS_size k (by omega)
            generalize joinB ((keyBs x).take j) = T at HJ2 HJ0 hT0 ⊢
            generalize digS k = dk at HJ2 HDg hd0
            clear HY HSm HJ1 HAt hat y1 y2 y3 y4
            have z1 : ¬ (T.size + 1 > 9223372036854775807) := by omega
            have z2 : ¬ (T.size + dk.size > 9223372036854775807) := by omega
            have z3 : ¬ (T.size + 1 + dk.size > 9223372036854775807) := by omega
            by_cases hj0 : j = 0
            · have HJ3 : Hid (joinB ((keyBs x).take (j + 1)) = T ++ dk) := by
                show _ = _
                rw [HJ2.out, if_pos hj0, HJ0.out hj0]
                exact (ByteArray.empty_append).symm
              have hji : ¬ (0 : Int) < (j : Int) := by omega
              clear hj0
              go_upto_region 65 with fail
              go_quiet (fail)
              have HBq : Hid (Below w2.heap.size w2 (wr.drewN nq)) := HBr.out.trans (below_drewN _ _ _)
              have y0q : (wr.drewN nq).cell? ⟨b2, o + j * 5, none⟩ = some (.int .i64 k) := y0
              clear k1r n0r hvr y0
              obtain ⟨w4, HW4⟩ : ∃ w4, w4 = wr.drewN nq := ⟨_, rfl⟩
              rw [← HW4] at HBq y0q ⊢
              clear HW4
              have k1q := kept_cell HBq.out k1
              have n0q := kept_cell HBq.out n0
              have hvq := kept_cell HBq.out hv
              go_upto_region 69 with fail
              go_quiet (first | (go_at_call 87; exact Calls.quiet_of_same (HDg.out _)))
              have HBs : Hid (Below w2.heap.size w2 (w4.drewN nq)) := HBq.out.trans (below_drewN _ _ _)
              clear k1q n0q hvq y0q
              obtain ⟨w5, HW5⟩ : ∃ w5, w5 = w4.drewN nq := ⟨_, rfl⟩
              rw [← HW5] at HBs ⊢
              clear HW5
              go_wp2_with fail
              go_roundw
              case rel => exact ⟨j + 1, by omega, by go_num, by rw [HJ3.out], HBs⟩
              case measure => simp [intOf]; omega
            · have hjpi : (0 : Int) < (j : Int) := by omega
              have HJ3 : Hid (joinB ((keyBs x).take (j + 1)) = T ++ ⟨#[32]⟩ ++ dk) := by
                show _ = _
                rw [HJ2.out, if_neg hj0]
              go_upto_region 65 with fail
              go_quiet (fail)
              have HBq : Hid (Below w2.heap.size w2 (wr.drewN nq)) := HBr.out.trans (below_drewN _ _ _)
              have y0q : (wr.drewN nq).cell? ⟨b2, o + j * 5, none⟩ = some (.int .i64 k) := y0
              clear k1r n0r hvr y0
              obtain ⟨w4, HW4⟩ : ∃ w4, w4 = wr.drewN nq := ⟨_, rfl⟩
              rw [← HW4] at HBq y0q ⊢
              clear HW4
              have k1q := kept_cell HBq.out k1
              have n0q := kept_cell HBq.out n0
              have hvq := kept_cell HBq.out hv
              go_upto_region 69 with fail
              go_quiet (first | (go_at_call 87; exact Calls.quiet_of_same (HDg.out _)))
              have HBs : Hid (Below w2.heap.size w2 (w4.drewN nq)) := HBq.out.trans (below_drewN _ _ _)
              clear k1q n0q hvq y0q
              obtain ⟨w5, HW5⟩ : ∃ w5, w5 = w4.drewN nq := ⟨_, rfl⟩
              rw [← HW5] at HBs ⊢
              clear HW5
              go_wp2_with fail
              go_roundw
              case rel => exact ⟨j + 1, by omega, by go_num, by rw [HJ3.out], HBs⟩
              case measure => simp [intOf]; omega
          · obtain rfl : j = N := by omega
            have hlti : ¬ (j : Int) < (j : Int) := by omega
            have HT : Hid ((keyBs x).take j = keyBs x) := List.take_of_length_le (by rw [keyBs, List.length_map, HN.out]; exact Nat.le_refl _)
            go_upto_region 65 with fail
            go_quiet (fail)
            have HBq : Hid (Below w2.heap.size w2 (wr.drewN nq)) := HBr.out.trans (below_drewN _ _ _)
            go_wp2_with fail
            go_meet
            exact ⟨by rw [HT.out], HBq⟩
      case rest =>
      obtain ⟨h7, HD⟩ := hcut
      subst h7
      by_cases hN0 : N = 0
      · have HXn : Hid (x = []) := List.length_eq_zero_iff.1 (HN.out.trans hN0)
        have HJ : Hid (joinB (keyBs x) = ⟨#[]⟩) := by
          show _ = _
          rw [HXn.out]
          rfl
        have HCb : Hid (cacheB x = dashS) := by
          show _ = _
          rw [HXn.out]
          rfl
        clear HXn hN0
        rw [HJ.out]
        go_wp2_with fail
        go_ret
        exact ⟨by rw [HCb.out]; rfl, RkAt.grown2 HK2.out HBw.out HD.out⟩
      · have HCb : Hid (cacheB x = joinB (keyBs x)) := by
          cases x with
          | nil => exact absurd HN.out.symm hN0
          | cons e x => rfl
        have hjt := toL_empty (joinB_pos HGx.out (fun e => hN0 (by rw [← HN.out, e]; rfl)))
        clear hN0
        generalize joinB (keyBs x) = T at HCb hjt ⊢
        go_wp2_with fail
        go_ret
        exact ⟨by rw [HCb.out]; rfl, RkAt.grown2 HK2.out HBw.out HD.out⟩
    · have hab : decide ((3 : Int) ≤ (a : Int)) = true := by simp; omega
      have HRc : Hid (R = (nameB 1, l, cs)) := by
        have h1 := HR2.out
        have e1 : mCacheO cs (a : Nat) = ([], 1) := by
          unfold mCacheO
          rw [if_neg (fun h => by have h2 := nodeB_iff.1 h; omega)]
        have e : doO (some (some (some (some (some none))))) l cs [a] [] = ⟨⟨#[]⟩, 1, l, cs⟩ := by
          show tellCache l cs (mCacheO cs (a : Nat)) = _
          rw [e1]
          rfl
        rw [e] at h1
        exact h1
      have hR := HRc.out
      have HNm : Hid (∀ W, Calls Tryz.prog 86 #[.int .i64 1] W fun e w' => e = .returned (.string (nameB 1)) ∧ Below W.heap.size W w') := fun W => refName_c 1 (by omega) (by omega) W
      clear HTn HR HR2 HRc HC HZ HK1 HNs HNl HO hnc hrows ha
      subst hR
      go_upto_region 61 with fail
      go_quiet (fail)
      go_wp2_with fail
      refine (HNm.out _).mono ?_
      rintro e w4 ⟨rfl, hb⟩
      have HD4 : Hid (Below w2.heap.size w2 w4) := (below_drewN _ _ _).trans hb
      clear hb
      go_wp2_with fail
      go_ret
      exact ⟨rfl, RkAt.grown2 HK2.out HBw.out HD4.out⟩
  · have hR : R = (badS, l, cs) := by
      rw [← HR.out, answerO, HT.out, takeW, if_neg (by rw [hk]; exact hkm)]
    subst hR
    have hkb : ((1 : Int) != (k : Int)) = true := by simp; omega
    go_wp2_with fail
    go_ret
    exact ⟨rfl, HK.out.to HB1.out⟩
end Go.Proofs.YtpcnfoaoajfhlaaGreatDoor

namespace Go.Proofs.YtpcnfoaoajfhlaaGreatDoor
set_option linter.unusedVariables false
set_option linter.unusedSimpArgs false
open Go.RowKit

theorem below_step {w W w3 : World} (h : Below w.heap.size w W) (hb : Below W.heap.size W w3) : Below w.heap.size w w3 := h.trans (hb.mono h.size)
theorem own_is : ownPts = ptsL [0, 1, 2] 4 := by rw [ownPts, ansP, if_pos bad_own]; rfl
theorem own_right : rightP ownPts = true := by decide +kernel
theorem three_ints (W : World) (q : Nat) (n : Nat) (h : W.heap[q]? = some (.cells #[.int .i64 0, .int .i64 1, .int .i64 2] 3 (0, 0))) : IntsIs W (.slice (some ⟨q, 0, none⟩) 3 n) [0, 1, 2] := by
  refine ⟨by simp [maxLen], _, _, rfl, fun _ => ⟨_, 0, rfl, ?_, fun j hj => ?_⟩⟩
  · exact (Array.getElem?_eq_some_iff.1 h).1
  · have hj' : j < 3 := hj
    rw [Lib.cell_of_heap h]
    have : j = 0 ∨ j = 1 ∨ j = 2 := by omega
    rcases this with rfl | rfl | rfl <;> rfl
set_option maxRecDepth 100000 in
set_option maxHeartbeats 64000000 in
theorem refLine_owner {S : Nat → Prop} {w : World} {m : Nat} {l : List Deed} {cs : List (List En)} (h : RkAt S w m l cs) (hG : GoodM l cs) (hcs : cs.length = 3) (s : ByteArray) (hs : s.size ≤ 3000) {rest : List ByteArray} (hw : splitS s = ⟨#[111, 119, 110, 101, 114]⟩ :: rest) :
    Calls Tryz.prog 36 #[.pointer (some ⟨m, 0, none⟩), .string s] w (LineTo S w m (answerO l cs s)) := by
  obtain ⟨k, hk⟩ : ∃ k, rest.length = k := ⟨_, rfl⟩
  have HZ : Hid (∀ x ∈ rest, x.size ≤ 3000) := fun x hx => Nat.le_trans (word_size s x (by rw [hw]; exact List.mem_cons_of_mem _ hx)) hs
  have HT : Hid (takeO l cs s = takeW (some (some (some (some (some (some ())))))) l cs rest) := by show _ = _; rw [takeO, hw]; rfl
  have HCt : Hid (Calls Tryz.prog 35 #[.string s, .int .u8 32] w fun e w' => ∃ v, e = .returned v ∧ OwnS w.heap.size w' v (⟨#[111, 119, 110, 101, 114]⟩ :: rest) ∧ Below w.heap.size w w') := by
    have c := refCut_c s 32 w (by omega)
    rw [← splitS_cutS, hw] at c
    exact c
  have hk3 : k ≤ 3000 := by
    have h1 := split_len s
    have h2 := Lib.countB_le blankS (by decide) s.size s (Nat.le_refl _)
    rw [hw, List.length_cons] at h1
    omega
  obtain ⟨R, HR⟩ : ∃ R, Hid (answerO l cs s = R) := ⟨_, rfl⟩
  rw [HR.out]
  have HK : Hid (RkAt S w m l cs) := h
  clear h hw
  go_enter Tryz.func36, Tryz.ntmps36
  go_wp2_with fail
  refine Calls.mono HCt.out ?_
  rintro e w1 ⟨v, rfl, ho, hb⟩
  have HB1 : Hid (Below w.heap.size w w1) := hb
  have HK1 : Hid (RkAt S w1 m l cs) := HK.out.grown hb
  obtain ⟨g, cap, hv, hgl, hgc, hgm, hcl⟩ := OwnS.cells ho (by simp)
  rw [List.length_cons, hk] at hv hgc
  have HC : Hid (∀ j (hj : j < rest.length), w1.cell? ⟨g, j + 1, none⟩ = some (.string rest[j])) := fun j hj => hcl (j + 1) _ (by rw [List.getElem?_cons_succ]; exact List.getElem?_eq_getElem hj)
  have c0 := hcl 0 _ rfl
  subst hv
  clear hb ho hcl HCt
  unfold maxLen at hgm
  by_cases hkm : k = 1
  · have HKm : Hid (k = 1) := hkm
    subst hkm
    have HTn : Hid (takeO l cs s = takeN (some (some (some (some (some (some ())))))) l cs (rest.drop 1) (numsL ((rest.take 1).map wordL))) := by
      show _ = _
      rw [HT.out, takeW, if_pos (by rw [hk]; rfl)]
      rfl
    clear HT
    go_upto_block 1 with fail
    go_cut [8, 9] (fun c8 c9 wd => ∃ (ns : List Nat) (u : Value), c8 = u ∧ Hid (numsL ((rest.take 1).map wordL) = some ns) ∧ Hid (OwnI w1.heap.size wd u (natZ ns)) ∧ Hid (Below w1.heap.size w1 wd))
    case first =>
      go_wp2_with fail
      go_loopw [8, 9] (fun c8 c9 wr => ∃ (j : Nat) (ns : List Nat) (u : Value), j ≤ 1 ∧ c9 = .int .i64 ((j : Int) + 1) ∧ c8 = u ∧ Hid (numsL ((rest.map wordL).take j) = some ns) ∧ Hid (OwnI w1.heap.size wr u (natZ ns)) ∧ Hid (Below w1.heap.size w1 wr)) (fun _ c9 _ => 1 + 1 - (intOf c9).toNat)
      case atStart => exact ⟨0, [], _, Nat.zero_le _, rfl, rfl, rfl, OwnI.nil _ _, Below.refl _ _⟩
      case round =>
        obtain ⟨j, ns, u, hj, rfl, hu, HNs, HO, HB⟩ := hrel
        have hu' := hu.symm
        clear hu
        subst hu'
        by_cases hlt : j < 1
        · have hlti : (j : Int) + 1 < 1 + 1 := by omega
          have hjl : j < rest.length := by omega
          have cj := kept_cell HB.out (HC.out j hjl)
          have HTk : Hid ((rest.map wordL).take (j + 1) = (rest.map wordL).take j ++ [wordL rest[j]]) := by
            show _ = _
            rw [List.take_add_one, List.getElem?_map, List.getElem?_eq_getElem hjl]
            rfl
          have HBad : Hid (numL (wordL rest[j]) = none → takeO l cs s = none) := fun h => by
            rw [HTn.out, numsL_bad (j := j) (by rw [List.length_map, List.length_take]; omega) (by rw [List.getElem_map, List.getElem_take]; exact h)]
            rfl
          have szj := HZ.out rest[j] (List.getElem_mem hjl)
          generalize rest[j] = x at cj HTk HBad szj
          have lgr := World.block_lt_of_cell? wr _ cj
          cases hq : numL (wordL x) with
          | none =>
            have hR : R = (badS, l, cs) := by rw [← HR.out, answerO, HBad.out hq]
            have HCl : Hid (∀ W, Calls Tryz.prog 85 #[.string x] W fun e w' => e = .returned (.tuple #[.int .i64 0, .bool false]) ∧ w' = W) := fun W => by
              have c := refNumber_c x W (by omega)
              rw [show numL x.data.toList = none from hq] at c
              exact c
            clear hq HBad
            subst hR
            go_wp2_with fail
            refine (HCl.out _).mono ?_
            rintro e w' ⟨rfl, hw⟩
            rw [hw]
            clear hw w'
            go_wp2_with fail
            go_ret
            exact ⟨rfl, HK.out.to (HB1.out.trans (HB.out.mono HB1.out.size))⟩
          | some y =>
            have HCl : Hid (∀ W, Calls Tryz.prog 85 #[.string x] W fun e w' => e = .returned (.tuple #[.int .i64 y, .bool true]) ∧ w' = W) := fun W => by
              have c := refNumber_c x W (by omega)
              rw [show numL x.data.toList = some y from hq] at c
              exact c
            have HN2 : Hid (numsL ((rest.map wordL).take (j + 1)) = some (ns ++ [y])) := by
              show _ = _
              rw [HTk.out]
              exact numsL_snoc HNs.out hq
            have HLa : Hid ((natZ ns).length ≤ 100) := by
              have h1 := numsL_len HNs.out
              rw [List.length_take] at h1
              show _ ≤ _
              rw [natZ, List.length_map]
              omega
            have hws : w1.heap.size ≤ wr.heap.size := HB.out.size
            have HBa : Hid (Below w1.heap.size w1 (wr.alloc (.cells #[.int .i64 y] 3))) := HB.out.alloc hws _
            have HOa : Hid (OwnI w1.heap.size (wr.alloc (.cells #[.int .i64 y] 3)) u (natZ ns)) := HO.out.below ((Below.refl _ _).alloc (Nat.le_refl _) _)
            have HVa : Hid ((wr.alloc (.cells #[.int .i64 y] 3)).heap[wr.heap.size]? = some (.cells #[.int .i64 y] 3 (0, 0))) := alloc_at _ _ _ rfl
            have HSa : Hid (w1.heap.size ≤ (wr.alloc (.cells #[.int .i64 y] 3)).heap.size) := show _ ≤ _ from (by simp; omega)
            clear hq HBad
            go_wp2_with fail
            refine (HCl.out _).mono ?_
            rintro e w' ⟨rfl, hw⟩
            rw [hw]
            clear hw w'
            go_wp2_with (at_builtin; refine wp_appI _ rfl _ _ rfl w1.heap.size _ (natZ ns) (y : Int) rfl HOa.out _ rfl HVa.out HLa.out HSa.out ?_)
            intro va wa hown hgrow
            have HOp : Hid (OwnI w1.heap.size wa va (natZ (ns ++ [y]))) := by
              have e : natZ (ns ++ [y]) = natZ ns ++ [(y : Int)] := by simp [natZ]
              show OwnI _ _ _ _
              rw [e]
              exact hown
            have HBp : Hid (Below w1.heap.size w1 wa) := below_grownF HBa.out (Nat.le_refl _) hgrow.out (fun c hc => HO.out.from c hc)
            clear hown hgrow HBa HOa HVa HSa HLa
            go_wp2_with fail
            go_roundw
            case rel => exact ⟨j + 1, ns ++ [y], va, by omega, by go_num, rfl, HN2, HOp, HBp⟩
            case measure => simp [intOf]; omega
        · obtain rfl : j = 1 := by omega
          have HN3 : Hid (numsL ((rest.take 1).map wordL) = some ns) := by
            have h1 := HNs.out
            rw [← List.map_take] at h1
            exact h1
          go_wp2_with fail
          go_meet
          exact ⟨ns, u, rfl, HN3, HO, HB⟩
    case rest =>
    obtain ⟨ns, u, h8, HNs, HO, HB⟩ := hcut
    have h8' := h8.symm
    clear h8
    subst h8'
    obtain ⟨w2, hren⟩ : ∃ y, y = wc := ⟨_, rfl⟩
    subst hren
    have HBw : Hid (Below w.heap.size w w2) := HB1.out.trans (HB.out.mono HB1.out.size)
    have HK2 : Hid (RkAt S w2 m l cs) := HK1.out.grown HB.out
    have HNl : Hid (ns.length = 1) := by
      show _ = _
      rw [numsL_len HNs.out, List.length_map, List.length_take]
      omega
    obtain ⟨a, rfl⟩ := len1 HNl.out
    obtain ⟨nb, no, ncap, hu, hnc⟩ := nums_cells HO.out.ints (by simp)
    have n0 : w2.cell? ⟨nb, no, none⟩ = some (.int .i64 (a : Nat)) := hnc 0 (by simp)
    have hul : [a].length = 1 := rfl
    rw [hul] at hu
    subst hu
    have c02 := kept_cell HB.out c0
    have HR2 : Hid (R = (nameT (doO (some (some (some (some (some (some ())))))) l cs [a] []), (doO (some (some (some (some (some (some ())))))) l cs [a] []).l, (doO (some (some (some (some (some (some ())))))) l cs [a] []).cs)) := by
      show R = _
      have hd : rest.drop 1 = [] := List.drop_of_length_le (by omega)
      rw [← HR.out, answerO, HTn.out, HNs.out, hd]
      rfl
    by_cases ha : a ≤ 7
    · have hai : ¬ (7 : Int) < (a : Int) := by omega
      obtain ⟨y, r, hy1, hy2⟩ := allO_head (l := ownPts) (key := (a : Nat)) own_right
      have hbf : badFind ownPts (a : Nat) = 0 := by
        unfold badFind
        rw [if_neg (by rw [own_right]; decide), if_neg (by simp [inR]; omega)]
      obtain ⟨X, hX, h5⟩ := own_num (a : Nat)
      have hyX : y = X := by
        rw [ownerA, if_pos hbf, hy2] at hX
        exact hX
      subst hyX
      have HRc : Hid (R = (digS X, l, cs)) := by
        have h1 := HR2.out
        have e : doO (some (some (some (some (some (some ())))))) l cs [a] [] = ⟨digS X, 0, l, cs⟩ := by
          show tellOwner l cs (a : Nat) = _
          rw [tellOwner, hX, hbf]
          rfl
        rw [e] at h1
        exact h1
      have hR := HRc.out
      have HP : Hid (∀ (u : Value) W, IntsIs W u [0, 1, 2] → Calls Tryz.prog 89 #[u, .int .i64 4] W fun e w' => ∃ u', e = .returned u' ∧ PtsIs w' u' ownPts ∧ Below W.heap.size W w') := fun u W hp => by
        rw [own_is]
        exact rPoints_c u [0, 1, 2] 4 W hp (by omega)
      have HOw : Hid (∀ (u : Value) W, PtsIs W u ownPts → Calls Tryz.prog 88 #[u, .int .i64 a] W fun e w' => ∃ u', e = .returned u' ∧ OwnI W.heap.size w' u' ((X : Int) :: r) ∧ Below W.heap.size W w') := fun u W hp => by
        have h1 := rOwners_c u ownPts a W hp own_right ha
        have h2 : ownersL (keyT a) ownPts = (X : Int) :: r := hy1
        rw [h2] at h1
        exact h1
      have HDg : Hid (∀ W, Calls Tryz.prog 87 #[.int .i64 X] W fun e w' => e = .returned (.string (digS X)) ∧ w' = W) := fun W => digits_c X (by omega) W
      clear HTn HR HR2 HRc HC HZ HK1 HNs HNl HO hnc hy1 hy2 hbf hX h5 ha
      subst hR
      go_upto_region 77 with fail
      have KN : Hid (∀ W, Below w2.heap.size w2 W → W.cell? ⟨nb, no, none⟩ = some (.int .i64 a)) := fun W hW => kept_cell hW n0
      clear c02 c0
      have HI0 : Hid (IntsIs (w2.alloc (.cells #[.int .i64 0, .int .i64 1, .int .i64 2] 3)) (.slice (some ⟨w2.heap.size, 0, none⟩) 3 3) [0, 1, 2]) := three_ints _ _ _ (alloc_at _ _ _ rfl)
      go_cut [24] (fun c24 wd => ∃ g o cp, c24 = .slice (some ⟨g, o, none⟩) (r.length + 1) cp ∧ Hid (wd.cell? ⟨g, o, none⟩ = some (.int .i64 X)) ∧ Hid (Below w2.heap.size w2 wd))
      case first =>
        go_region_held3 (fun w' => w'.cell? ⟨nb, no, none⟩ = some (.int .i64 a)) (first | go_keep | (exact KN.out _ HB5.out) | (exact KN.out _ HB3.out) | (exact KN.out _ (by go_grown))) (first | (go_at_call 89; refine Calls.mono (HP.out _ _ ?_) ?_; (first | exact HI0.out | exact HI0.out.below (by go_grown)); rintro e w3 ⟨u3, rfl, hp3, hb3⟩; have HB3 : Hid (Below w2.heap.size w2 w3) := (below_step (by go_grown) hb3); have HP3 : Hid (PtsIs w3 u3 ownPts) := hp3; clear hb3 hp3) | (go_at_call 88; refine Calls.mono (HOw.out _ _ ?_) ?_; (first | exact HP3.out | exact HP3.out.below (by go_grown)); rintro e w5 ⟨u5, rfl, ho5, hb5⟩; have HB5 : Hid (Below w2.heap.size w2 w5) := (below_step HB3.out (below_step (by go_grown) hb5)); have HI5 : Hid (IntsIs w5 u5 ((X : Int) :: r)) := ho5.ints; clear hb5 ho5))
        all_goals go_wp2_with fail
        all_goals go_meet
        all_goals obtain ⟨_, p5, cp5, hv5, hr5⟩ := HI5.out
        all_goals obtain ⟨g, o, rfl, _, hc5⟩ := hr5 (by simp)
        all_goals subst hv5
        all_goals exact ⟨g, o, cp5, rfl, hc5 0 (by simp), HB5⟩
      case rest =>
      obtain ⟨g, o, cp, h24, hg0, HD⟩ := hcut
      subst h24
      have g0 := hg0.out
      clear hg0
      go_wp2_with fail
      refine (HDg.out _).mono ?_
      rintro e w4 ⟨rfl, hw⟩
      rw [hw]
      clear hw w4
      go_wp2_with fail
      go_ret
      exact ⟨rfl, RkTo.after HBw.out (HK2.out.to HD.out)⟩
    · have hai : (7 : Int) < (a : Int) := by omega
      have HRc : Hid (R = (nameB 1, l, cs)) := by
        have h1 := HR2.out
        have hbf : badFind ownPts (a : Nat) = 1 := by
          unfold badFind
          rw [if_neg (by rw [own_right]; decide), if_pos (by simp [inR]; omega)]
        have e : doO (some (some (some (some (some (some ())))))) l cs [a] [] = ⟨digS (ownerA ownPts (a : Nat)).toNat, 1, l, cs⟩ := by
          show tellOwner l cs (a : Nat) = _
          rw [tellOwner, hbf]
        rw [e] at h1
        exact h1
      have hR := HRc.out
      have HNm : Hid (∀ W, Calls Tryz.prog 86 #[.int .i64 1] W fun e w' => e = .returned (.string (nameB 1)) ∧ Below W.heap.size W w') := fun W => refName_c 1 (by omega) (by omega) W
      clear HTn HR HR2 HRc HC HZ HK1 HNs HNl HO hnc ha
      subst hR
      go_wp2_with fail
      refine (HNm.out _).mono ?_
      rintro e w4 ⟨rfl, hb⟩
      have HD4 : Hid (Below w2.heap.size w2 w4) := hb
      clear hb
      go_wp2_with fail
      go_ret
      exact ⟨rfl, RkTo.after HBw.out (HK2.out.to HD4.out)⟩
  · have hR : R = (badS, l, cs) := by
      rw [← HR.out, answerO, HT.out, takeW, if_neg (by rw [hk]; exact hkm)]
    subst hR
    have hkb : ((1 : Int) != (k : Int)) = true := by simp; omega
    go_wp2_with fail
    go_ret
    exact ⟨rfl, HK.out.to HB1.out⟩
end Go.Proofs.YtpcnfoaoajfhlaaGreatDoor
