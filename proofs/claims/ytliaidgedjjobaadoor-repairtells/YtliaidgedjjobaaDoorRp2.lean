/-
  Package repair by its contracts: Read.
-/
import Derived.Test.YtliaidgedjjobaaDoorRp1
import Derived.Test.YtliaidgedjjobaaDoorCaA
namespace Go.Proofs.YtliaidgedjjobaaDoor
set_option linter.unusedVariables false
set_option linter.unusedSimpArgs false
open Go.RowKit

theorem addP_o {l R1 : List En} {k vv a : Int} {g : Bool} {t : ByteArray} {R2 : Bool} {R3 : Int} (h : cacheAdd l ⟨k, vv, a, g, t⟩ = (R1, R2, R3)) (v : Value) (w : World) (hr : RowIs w v l) :
    Calls Tryd.prog 39 #[v, .agg #[.int .i64 k, .int .i64 vv, .int .i64 a, .bool g, .string t]] w fun e w' => ∃ v', e = .returned (.tuple #[v', .bool R2, eV R3]) ∧ RowIs w' v' R1 ∧ Below w.heap.size w w' := by
  refine (add_c v l k vv a g t w hr).mono ?_
  rw [h]
  rintro e w' ⟨v', he, ho, hb⟩
  exact ⟨v', he, RowIs.own ho, hb⟩
theorem read_mark (ls : List (List En)) (key : Int) : (∃ m n, tombMark ls key = (m, n) ∧ n ≠ 0 ∧ readR ls key = (zeroEn, n)) ∨ (∃ m, tombMark ls key = (m, 0) ∧ GoodLs ls ∧ isKeyB key = true ∧ readR ls key = readO (joinFrom key none ls)) := by
  by_cases hb : badLs ls = 0
  · cases hk : isKeyB key with
    | false => exact .inl ⟨0, 1, by rw [tombMark, if_neg (by simpa using hb), if_pos hk], by simp, by rw [readR, if_neg (by simpa using hb), if_pos hk]⟩
    | true => exact .inr ⟨_, by rw [tombMark, if_neg (by simpa using hb), if_neg (by rw [hk]; simp)], badLs_good hb, rfl, by rw [readR, if_neg (by simpa using hb), if_neg (by rw [hk]; simp)]⟩
  · exact .inl ⟨0, badLs ls, by rw [tombMark, if_pos hb], hb, by rw [readR, if_pos hb]⟩
theorem bad_single {y : En} (h : y.bad = 0) : badL [y] = 0 := by
  obtain ⟨h1, h2⟩ := bad_key h
  exact (GoodL.of (l := [y]) (List.pairwise_singleton _ _) (fun e he => by rw [List.mem_singleton.1 he]; exact h)).bad
/-- a cache of one key alone takes what comes as Join does -/
theorem add_step {key : Int} {o : Option En} {x : En} {ls : List (List En)} {j : Nat} (h : j < ls.length) (hg : getE ls[j] key = some x) (hx : x.bad = 0 ∧ x.k = key) (ho : ∀ y, o = some y → y.bad = 0 ∧ y.k = key) :
    (∃ b z, cacheAdd o.toList x = ([z], b, 0) ∧ (z.bad = 0 ∧ z.k = key) ∧ joinFrom key o (ls.drop j) = joinFrom key (some z) (ls.drop (j + 1))) ∨
      (∃ l b n, cacheAdd o.toList x = (l, b, n) ∧ n ≠ 0 ∧ joinFrom key o (ls.drop j) = (none, n)) := by
  obtain ⟨hxb, hxk⟩ := hx
  cases o with
  | none =>
    refine .inl ⟨true, x, ?_, ⟨hxb, hxk⟩, joinFrom_first h hg⟩
    show cacheAdd [] x = _
    rw [cacheAdd, if_neg (by simp [badL, badRow]), if_neg (by simpa using hxb)]
    rfl
  | some y =>
    obtain ⟨hyb, hyk⟩ := ho y rfl
    have hadd : cacheAdd [y] x = putE [y] x := by rw [cacheAdd, if_neg (by simpa using bad_single hyb), if_neg (by simpa using hxb)]
    have hget : getE [y] x.k = some y := by simp [getE, hyk, hxk]
    obtain ⟨z, n, hj⟩ : ∃ z n, joinE y x = (z, n) := ⟨_, _, rfl⟩
    by_cases hn : n = 0
    · subst hn
      refine .inl ⟨(putE [y] x).2.1, z, ?_, ?_, joinFrom_next h hg hj⟩
      · show cacheAdd [y] x = _
        rw [hadd]
        have hp : placeE [y] x.k = 0 := by simp [placeE, hyk, hxk]
        simp [putE, hget, hj, hp]
      · obtain ⟨_, _, hK⟩ := joinE_iff.1 hj
        rcases hK.one with rfl | rfl
        · exact ⟨hyb, hyk⟩
        · exact ⟨hxb, hxk⟩
    · refine .inr ⟨(putE [y] x).1, (putE [y] x).2.1, n, ?_, hn, joinFrom_bad h hg hj hn⟩
      show cacheAdd [y] x = _
      rw [hadd]
      simp [putE, hget, hj, hn]
theorem ret_eq {x0 x1 x2 y0 y1 y2 m n : Int} {x3 y3 : Bool} {x4 y4 : ByteArray} (h : ((⟨y0, y1, y2, y3, y4⟩ : En), n) = (⟨x0, x1, x2, x3, x4⟩, m)) :
    Ending.returned (.tuple #[.agg #[.int .i64 y0, .int .i64 y1, .int .i64 y2, .bool y3, .string y4], eV n]) = .returned (.tuple #[.agg #[.int .i64 x0, .int .i64 x1, .int .i64 x2, .bool x3, .string x4], eV m]) := by
  cases h
  rfl
theorem get_known {key : Int} {o : Option En} (hk : isKeyB key = true) (ho : ∀ y, o = some y → y.bad = 0 ∧ y.k = key) : cacheGet o.toList key = readO (o, 0) := by
  cases o with
  | none => rw [cacheGet, if_neg (by simp [badL, badRow]), hk, if_neg (by simp)]; rfl
  | some y =>
    obtain ⟨hyb, hyk⟩ := ho y rfl
    have hget : getE [y] key = some y := by simp [getE, hyk]
    show cacheGet [y] key = _
    rw [cacheGet, if_neg (by simpa using bad_single hyb), hk, if_neg (by simp), hget]
    rfl
set_option maxRecDepth 100000 in
set_option maxHeartbeats 8000000 in
theorem rread_c {w : World} {v : Value} {ls : List (List En)} {key x0 x1 x2 : Int} {x3 : Bool} {x4 : ByteArray} {m : Int} (hr : RowsIs w v ls) (h : readR ls key = (⟨x0, x1, x2, x3, x4⟩, m)) :
    Calls Tryd.prog 10 #[v, .int .i64 key] w fun e w' => e = .returned (.tuple #[.agg #[.int .i64 x0, .int .i64 x1, .int .i64 x2, .bool x3, .string x4], eV m]) ∧ Below w.heap.size w w' := by
  have HR : Hid (RowsIs w v ls) := hr
  obtain ⟨w0, HW0⟩ : ∃ w0, w0 = w.alloc (.cells #[.int .i64 0, .int .i64 0, .int .i64 0, .bool false, .string ⟨#[]⟩] 26) := ⟨_, rfl⟩
  have HB0 : Hid (Below w.heap.size w w0) := by rw [HW0]; exact (Below.refl _ w).alloc (Nat.le_refl _) _
  have E0 : Hid (BoxAt w0 w.heap.size 0 0 0 false ⟨#[]⟩) := by rw [HW0]; exact box_new w 0 0 0 false ⟨#[]⟩ _ rfl
  have hlt0 : w.heap.size < w0.heap.size := by rw [HW0]; simp
  rcases read_mark ls key with ⟨m', n, hm, hn, hz⟩ | ⟨m', hm, hgl, hk, hz⟩
  · have HM : Hid (tombMark ls key = (m', n)) := hm
    have HV : Hid (((⟨0, 0, 0, false, ⟨#[]⟩⟩ : En), n) = (⟨x0, x1, x2, x3, x4⟩, m)) := hz.symm.trans h
    clear hm hz h hr
    go_enter Tryd.func10, Tryd.ntmps10
    go_wp2_with fail
    rw [← HW0]
    refine (tmark_err HM.out hn _ _ (HR.out.below HB0.out)).mono ?_
    rintro e w1 ⟨rfl, hb⟩
    have B1 : Hid (Below w.heap.size w w1) := HB0.out.trans (hb.mono HB0.out.size)
    obtain ⟨e0, e1, e2, e3, e4, ef⟩ := E0.out.below hb hlt0
    clear hb HW0
    go_wp2_with fail
    refine bodyPost_ret (v := .tuple #[.agg #[.int .i64 0, .int .i64 0, .int .i64 0, .bool false, .string ⟨#[]⟩], .iface 83 (.int .i64 n)]) (by simp [results, Tryd.results10, go_sem, e0, e1, e2, e3, e4]) rfl ?_
    refine ⟨by rw [← eV_errP hn]; exact ret_eq HV.out, ?_⟩
    have hb := B1.out
    go_grown
  · have HM : Hid (tombMark ls key = (m', 0)) := hm
    have HJ0 : Hid (readO (joinFrom key none (ls.drop 0)) = (⟨x0, x1, x2, x3, x4⟩, m)) := hz.symm.trans h
    have HGL : Hid (GoodLs ls) := hgl
    have HK : Hid (isKeyB key = true) := hk
    clear hm hz h hgl hk
    obtain ⟨hlen, p, cap, rfl, hrow⟩ := hr
    have HRow : Hid (ls ≠ [] → ∃ b o, p = some ⟨b, o, none⟩ ∧ b < w.heap.size ∧ ∀ j (h : j < ls.length), ∃ u, w.cell? ⟨b, o + j, none⟩ = some u ∧ RowIs w u ls[j]) := hrow
    clear hrow
    obtain ⟨n, HN⟩ : ∃ n, Hid (ls.length = n) := ⟨_, rfl⟩
    rw [HN.out] at hlen HR ⊢
    have hn63 : n ≤ 9223372036854775807 := hlen
    go_enter Tryd.func10, Tryd.ntmps10
    go_wp2_with fail
    rw [← HW0]
    refine (tmark_ok HM.out _ _ (HR.out.below HB0.out)).mono ?_
    rintro e w1 ⟨rfl, hb⟩
    have B1 : Hid (Below w.heap.size w w1) := HB0.out.trans (hb.mono HB0.out.size)
    have E1 : Hid (BoxAt w1 w.heap.size 0 0 0 false ⟨#[]⟩) := E0.out.below hb hlt0
    clear hb HW0 HM HB0 E0
    go_wp2_with fail
    go_loopw [8, 26] (fun s8 s26 wr => ∃ (j : Nat) (o : Option En) (v8 : Value), s8 = v8 ∧ j ≤ n ∧ s26 = .int .i64 j ∧ Hid (RowIs wr v8 o.toList) ∧ Hid (∀ y, o = some y → y.bad = 0 ∧ y.k = key) ∧ Hid (readO (joinFrom key o (ls.drop j)) = (⟨x0, x1, x2, x3, x4⟩, m)) ∧ Hid (Below w.heap.size w wr) ∧ Hid (BoxAt wr w.heap.size 0 0 0 false ⟨#[]⟩)) (fun _ i _ => n - (intOf i).toNat)
    case atStart => exact ⟨0, none, .slice none 0 0, rfl, Nat.zero_le _, rfl, RowIs.nil _, (fun y hy => by cases hy), HJ0, B1, E1⟩
    case round =>
      obtain ⟨j, o, v8, hs8, hj, rfl, HO, HY, HJ, HB, HE⟩ := hrel
      have hs8' := hs8.symm
      clear hs8
      subst hs8'
      clear B1 E1
      have hws := HB.out.size
      have hbx := HE.out.lt
      by_cases hlt : j < n
      · have hjl : j < ls.length := by rw [HN.out]; exact hlt
        obtain ⟨b, oo, rfl, hbw, hat⟩ := HRow.out (fun h => by simp [h] at hjl)
        obtain ⟨u, hu, hru⟩ := hat j hjl
        have c0 : wr.cell? ⟨b, oo + j, none⟩ = some u := (World.cell?_of_block (a := ⟨b, oo + j, none⟩) (HB.out.block b hbw)).trans hu
        have HU : Hid (RowIs wr u ls[j]) := hru.below HB.out
        have HGj : Hid (badL ls[j] = 0) := HGL.out.all _ (List.getElem_mem hjl)
        clear hat hu hru
        have hlti : (j : Int) < (n : Int) := by omega
        cases hg : getE ls[j] key with
        | none =>
          have HJ1 : Hid (readO (joinFrom key o (ls.drop (j + 1))) = (⟨x0, x1, x2, x3, x4⟩, m)) := by
            show _ = _
            rw [← joinFrom_none hjl hg]
            exact HJ.out
          have HC : Hid _ := of_none HU.out HGj.out HK.out hg
          clear hg
          go_wp2_with fail
          refine Calls.mono HC.out ?_
          rintro e w2 ⟨rfl, hb⟩
          have B2 : Hid (Below w.heap.size w w2) := HB.out.trans (hb.mono HB.out.size)
          have O2 : Hid (RowIs w2 v8 o.toList) := HO.out.below hb
          have E2 : Hid (BoxAt w2 w.heap.size 0 0 0 false ⟨#[]⟩) := HE.out.below hb hbx
          have B3 : Hid (Below w.heap.size w (w2.alloc (.cells #[.int .i64 0, .int .i64 0, .int .i64 0, .bool false, .string ⟨#[]⟩] 26))) := B2.out.alloc B2.out.size _
          have O3 : Hid (RowIs (w2.alloc (.cells #[.int .i64 0, .int .i64 0, .int .i64 0, .bool false, .string ⟨#[]⟩] 26)) v8 o.toList) := O2.out.below ((Below.refl _ _).alloc (Nat.le_refl _) _)
          have E3 : Hid (BoxAt (w2.alloc (.cells #[.int .i64 0, .int .i64 0, .int .i64 0, .bool false, .string ⟨#[]⟩] 26)) w.heap.size 0 0 0 false ⟨#[]⟩) := E2.out.alloc _
          clear hb c0
          go_wp2_with fail
          go_roundw
          case rel => exact ⟨j + 1, o, v8, rfl, by omega, by go_num, O3, HY, HJ1, B3, E3⟩
          case measure => simp [intOf]; omega
        | some x =>
          have hxx : x.bad = 0 ∧ x.k = key := ⟨(badL_good HGj.out).all x (List.mem_of_find?_eq_some hg), by simpa using List.find?_some hg⟩
          obtain ⟨y0, y1, y2, y3, y4⟩ := x
          have HC : Hid _ := of_some HU.out HGj.out HK.out hg
          rcases add_step hjl hg hxx HY.out with ⟨bb, z, ha, hzz, hjo⟩ | ⟨ll, bb, nn, ha, hnn, hjo⟩
          · have HA : Hid (cacheAdd o.toList ⟨y0, y1, y2, y3, y4⟩ = ((some z).toList, bb, 0)) := ha
            have HZ : Hid (∀ y, some z = some y → y.bad = 0 ∧ y.k = key) := fun y hy => by obtain rfl := Option.some.inj hy; exact hzz
            have HJ1 : Hid (readO (joinFrom key (some z) (ls.drop (j + 1))) = (⟨x0, x1, x2, x3, x4⟩, m)) := by
              show _ = _
              rw [← hjo]
              exact HJ.out
            clear hg hxx ha hzz hjo
            go_wp2_with fail
            refine Calls.mono HC.out ?_
            rintro e w2 ⟨rfl, hb⟩
            have B2 : Hid (Below w.heap.size w w2) := HB.out.trans (hb.mono HB.out.size)
            have O2 : Hid (RowIs w2 v8 o.toList) := HO.out.below hb
            have E2 : Hid (BoxAt w2 w.heap.size 0 0 0 false ⟨#[]⟩) := HE.out.below hb hbx
            have B3 : Hid (Below w.heap.size w (w2.alloc (.cells #[.int .i64 y0, .int .i64 y1, .int .i64 y2, .bool y3, .string y4] 26))) := B2.out.alloc B2.out.size _
            have O3 : Hid (RowIs (w2.alloc (.cells #[.int .i64 y0, .int .i64 y1, .int .i64 y2, .bool y3, .string y4] 26)) v8 o.toList) := O2.out.below ((Below.refl _ _).alloc (Nat.le_refl _) _)
            have E3 : Hid (BoxAt (w2.alloc (.cells #[.int .i64 y0, .int .i64 y1, .int .i64 y2, .bool y3, .string y4] 26)) w.heap.size 0 0 0 false ⟨#[]⟩) := E2.out.alloc _
            clear hb c0
            go_wp2_with fail
            refine (addP_o HA.out _ _ O3.out).mono ?_
            rintro e w4 ⟨v', rfl, hrow, hb⟩
            have O4 : Hid (RowIs w4 v' (some z).toList) := hrow
            have B4 : Hid (Below w.heap.size w w4) := B3.out.trans (hb.mono B3.out.size)
            have E4 : Hid (BoxAt w4 w.heap.size 0 0 0 false ⟨#[]⟩) := E3.out.below hb E3.out.lt
            clear hb hrow
            rw [eV_zeroP]
            go_wp2_with fail
            go_roundw
            case rel => exact ⟨j + 1, some z, v', rfl, by omega, by go_num, O4, HZ, HJ1, B4, E4⟩
            case measure => simp [intOf]; omega
          · have HA : Hid (cacheAdd o.toList ⟨y0, y1, y2, y3, y4⟩ = (ll, bb, nn)) := ha
            have HV : Hid (((⟨0, 0, 0, false, ⟨#[]⟩⟩ : En), nn) = (⟨x0, x1, x2, x3, x4⟩, m)) := by
              have h2 := HJ.out
              rw [hjo] at h2
              refine Eq.trans ?_ h2
              show _ = readO (none, nn)
              rw [readO, if_pos hnn]
              rfl
            clear hg hxx ha hjo
            go_wp2_with fail
            refine Calls.mono HC.out ?_
            rintro e w2 ⟨rfl, hb⟩
            have B2 : Hid (Below w.heap.size w w2) := HB.out.trans (hb.mono HB.out.size)
            have O2 : Hid (RowIs w2 v8 o.toList) := HO.out.below hb
            have E2 : Hid (BoxAt w2 w.heap.size 0 0 0 false ⟨#[]⟩) := HE.out.below hb hbx
            have B3 : Hid (Below w.heap.size w (w2.alloc (.cells #[.int .i64 y0, .int .i64 y1, .int .i64 y2, .bool y3, .string y4] 26))) := B2.out.alloc B2.out.size _
            have O3 : Hid (RowIs (w2.alloc (.cells #[.int .i64 y0, .int .i64 y1, .int .i64 y2, .bool y3, .string y4] 26)) v8 o.toList) := O2.out.below ((Below.refl _ _).alloc (Nat.le_refl _) _)
            have E3 : Hid (BoxAt (w2.alloc (.cells #[.int .i64 y0, .int .i64 y1, .int .i64 y2, .bool y3, .string y4] 26)) w.heap.size 0 0 0 false ⟨#[]⟩) := E2.out.alloc _
            clear hb c0
            go_wp2_with fail
            refine (addP_o HA.out _ _ O3.out).mono ?_
            rintro e w4 ⟨v', rfl, hrow, hb⟩
            have B4 : Hid (Below w.heap.size w w4) := B3.out.trans (hb.mono B3.out.size)
            obtain ⟨e0, e1, e2, e3, e4, ef⟩ := E3.out.below hb E3.out.lt
            clear hb hrow
            rw [eV_errP hnn]
            go_wp2_with fail
            refine bodyPost_ret (v := .tuple #[.agg #[.int .i64 0, .int .i64 0, .int .i64 0, .bool false, .string ⟨#[]⟩], .iface 83 (.int .i64 nn)]) (by simp [results, Tryd.results10, go_sem, e0, e1, e2, e3, e4]) rfl ?_
            refine ⟨by rw [← eV_errP hnn]; exact ret_eq HV.out, ?_⟩
            have hb := B4.out
            go_grown
      · obtain rfl : j = n := by omega
        have HG : Hid (cacheGet o.toList key = (⟨x0, x1, x2, x3, x4⟩, m)) := by
          show _ = _
          rw [get_known HK.out HY.out, ← HJ.out, List.drop_eq_nil_of_le (by rw [HN.out]; exact Nat.le_refl _)]
          rfl
        go_wp2_with fail
        refine (getP_o HG.out _ _ HO.out).mono ?_
        rintro e w2 ⟨rfl, hb⟩
        have B2 : Hid (Below w.heap.size w w2) := HB.out.trans (hb.mono HB.out.size)
        obtain ⟨e0, e1, e2, e3, e4, ef⟩ := HE.out.below hb hbx
        clear hb
        obtain ⟨em, HEm⟩ : ∃ em, Hid (eV m = em) := ⟨_, rfl⟩
        rw [HEm.out]
        go_wp2_with fail
        refine bodyPost_ret (v := .tuple #[.agg #[.int .i64 x0, .int .i64 x1, .int .i64 x2, .bool x3, .string x4], em]) (by simp [results, Tryd.results10, go_sem, e0, e1, e2, e3, e4]) rfl ?_
        refine ⟨by rw [HEm.out], ?_⟩
        have hb := B2.out
        go_grown
end Go.Proofs.YtliaidgedjjobaaDoor
