/-
  merelaw1.CacheJoins answers true, whatever the two caches.
-/
import Derived.Test.YtgncclahhejcdabCaJ
import Derived.BigQuiet
namespace Go.Proofs.Ytgncclahhejcdab
set_option linter.unusedVariables false
set_option linter.unusedSimpArgs false
open Go.RowKit

theorem row_one {w : World} {b : Nat} {k v a : Int} {g : Bool} {t : ByteArray} (h : w.heap[b]? = some (.cells #[.int .i64 k, .int .i64 v, .int .i64 a, .bool g, .string t] 23)) : RowIs w (.slice (some ⟨b, 0, none⟩) 1 1) [⟨k, v, a, g, t⟩] := by
  refine ⟨by simp [maxLen], _, 1, rfl, fun _ => ⟨b, 0, rfl, (Array.getElem?_eq_some_iff.1 h).1, fun j hj => ?_⟩⟩
  obtain rfl : j = 0 := by simp at hj; omega
  have hc := fun i u hu => heap_cells h i u hu
  exact ⟨hc 0 _ rfl, hc 1 _ rfl, hc 2 _ rfl, hc 3 _ rfl, hc 4 _ rfl⟩
def F1 : En := ⟨5, 1, 2, false, ⟨#[97]⟩⟩
def F2 : En := ⟨2, 3, 3, false, ⟨#[98]⟩⟩
theorem facts : cacheBoth [⟨5, 1, 2, false, ⟨#[97]⟩⟩] [⟨2, 3, 3, false, ⟨#[98]⟩⟩] = ([⟨2, 3, 3, false, ⟨#[98]⟩⟩, ⟨5, 1, 2, false, ⟨#[97]⟩⟩], 0) := by
  have h1 : En.bad ⟨5, 1, 2, false, ⟨#[97]⟩⟩ = 0 := by simp [En.bad, bad, inR]; decide
  have h2 : En.bad ⟨2, 3, 3, false, ⟨#[98]⟩⟩ = 0 := by simp [En.bad, bad, inR]; decide
  have g1 : GoodL [⟨5, 1, 2, false, ⟨#[97]⟩⟩] := GoodL.of (List.pairwise_singleton _ _) (by simpa using h1)
  have g2 : GoodL [⟨2, 3, 3, false, ⟨#[98]⟩⟩] := GoodL.of (List.pairwise_singleton _ _) (by simpa using h2)
  rw [cacheBoth, if_neg (by simpa using g1.bad), if_neg (by simpa using g2.bad)]
  simp [allE, putE, getE, placeE]
theorem getO {l : List En} {key k vv a : Int} {g : Bool} {t : ByteArray} {n : Int} (h : cacheGet l key = (⟨k, vv, a, g, t⟩, n)) (v : Value) (w : World) (hr : RowIs w v l) :
    Calls Try.prog 12 #[v, .int .i64 key] w fun e w' => e = .returned (.tuple #[.agg #[.int .i64 k, .int .i64 vv, .int .i64 a, .bool g, .string t], eV n]) ∧ Below w.heap.size w w' := by
  have c := get_c v l key w hr
  rw [h] at c
  exact c
theorem getO_ok {l : List En} {key k vv a : Int} {g : Bool} {t : ByteArray} (h : cacheGet l key = (⟨k, vv, a, g, t⟩, 0)) (v : Value) (w : World) (hr : RowIs w v l) :
    Calls Try.prog 12 #[v, .int .i64 key] w fun e w' => e = .returned (.tuple #[.agg #[.int .i64 k, .int .i64 vv, .int .i64 a, .bool g, .string t], .nilIface]) ∧ Below w.heap.size w w' := getO h v w hr
theorem getO_err {l : List En} {key k vv a : Int} {g : Bool} {t : ByteArray} (h : cacheGet l key = (⟨k, vv, a, g, t⟩, 5)) (v : Value) (w : World) (hr : RowIs w v l) :
    Calls Try.prog 12 #[v, .int .i64 key] w fun e w' => e = .returned (.tuple #[.agg #[.int .i64 k, .int .i64 vv, .int .i64 a, .bool g, .string t], .iface 41 (.int .i64 5)]) ∧ Below w.heap.size w w' := getO h v w hr
theorem cacheGet_none {l : List En} {j : Nat} (hg : GoodL l) (hj : j < 8) (h : getE l j = none) : cacheGet l j = (⟨0, 0, 0, false, ⟨#[]⟩⟩, 5) := by
  have hk : isKeyB (j : Int) = true := by simp [isKeyB]; omega
  rw [cacheGet, if_neg (by simpa using hg.bad), hk, h]
  rfl
theorem cacheGet_some {l : List En} {j : Nat} {x : En} (hg : GoodL l) (hj : j < 8) (h : getE l j = some x) : cacheGet l j = (x, 0) := by
  have hk : isKeyB (j : Int) = true := by simp [isKeyB]; omega
  rw [cacheGet, if_neg (by simpa using hg.bad), hk, h]
  rfl
theorem both_ok {a b R1 : List En} (h : cacheBoth a b = (R1, 0)) (va vb : Value) (w : World) (hra : RowIs w va a) (hrb : RowIs w vb b) :
    Calls Try.prog 9 #[va, vb] w fun e w' => ∃ v', e = .returned (.tuple #[v', .nilIface]) ∧ w'.ownsRow w.heap.size 23 5 v' R1.length (rowC R1) ∧ Below w.heap.size w w' := both_o h va vb w hra hrb
theorem both_err {a b R1 : List En} {n : Int} (h : cacheBoth a b = (R1, n)) (hn : n ≠ 0) (va vb : Value) (w : World) (hra : RowIs w va a) (hrb : RowIs w vb b) :
    Calls Try.prog 9 #[va, vb] w fun e w' => ∃ v', e = .returned (.tuple #[v', .iface 41 (.int .i64 n)]) ∧ w'.ownsRow w.heap.size 23 5 v' R1.length (rowC R1) ∧ Below w.heap.size w w' := by
  have c := both_o h va vb w hra hrb
  rw [eV, if_neg hn] at c
  exact c
theorem same_true {a : List En} (va vb : Value) (w : World) (hra : RowIs w va a) (hrb : RowIs w vb a) :
    Calls Try.prog 10 #[va, vb] w fun e w' => e = .returned (.bool true) ∧ Below w.heap.size w w' := by
  have c := same_c va vb a a w hra hrb
  rw [sameL_iff.2 rfl] at c
  exact c

set_option maxHeartbeats 16000000 in
set_option maxRecDepth 100000 in
theorem joins_walk (va vb : Value) (a b : List En) (w : World) (hra : RowIs w va a) (hrb : RowIs w vb b) :
    Calls Try.prog 4 #[va, vb] w fun e w' => e = .returned (.bool true) ∧ Below w.heap.size w w' := by
  have HA : Hid (RowIs w va a) := hra
  have HB : Hid (RowIs w vb b) := hrb
  obtain ⟨⟨x, n⟩, HR⟩ : ∃ R, Hid (cacheBoth a b = R) := ⟨_, rfl⟩
  have HB0 : Hid (Below w.heap.size w ((w.alloc (.cells #[.int .i64 5, .int .i64 1, .int .i64 2, .bool false, .string ⟨#[97]⟩] 23)).alloc (.cells #[.int .i64 2, .int .i64 3, .int .i64 3, .bool false, .string ⟨#[98]⟩] 23))) := by show Below _ _ _; go_grown
  clear hra hrb
  go_enter Try.func4, Try.ntmps4
  go_wp2_with fail
  refine (both_ok facts _ _ _ (row_one (by rw [Below.heap_alloc _ _ _ (by simp)]; exact alloc_at _ _ _ rfl)) (row_one (alloc_at _ _ _ (by simp)))).mono ?_
  rintro e w1 ⟨v1, rfl, ho, hb⟩
  have B1 : Hid (Below w.heap.size w w1) := HB0.out.trans (hb.mono (by simp; omega))
  have hrow1 := RowIs.own ho
  obtain ⟨G1, cap1, hv1, _⟩ := ho.form (by simp)
  simp at hv1
  subst hv1
  obtain ⟨_, p1, c1, hp1, hr1⟩ := hrow1
  simp at hp1
  obtain ⟨hp1a, hp1b⟩ := hp1
  subst hp1a
  obtain ⟨gg, oo, hgo, _, hat⟩ := hr1 (by simp)
  simp at hgo
  obtain ⟨hgo1, hgo2⟩ := hgo
  subst hgo1
  subst hgo2
  have f0 := (hat 0 (by simp)).c0
  have f1 := (hat 1 (by simp)).c0
  simp at f0 f1
  clear hat hr1 ho hb hp1b
  go_wp2_with fail
  clear f0 f1
  by_cases hn : n = 0
  · subst hn
    obtain ⟨ga, gb, gx, hm⟩ := both_good HR.out
    have HGa : Hid (GoodL a) := ga
    have HGb : Hid (GoodL b) := gb
    have HGx : Hid (GoodL x) := gx
    have HM : Hid (Merged a b x) := hm
    clear ga gb gx hm
    refine (both_ok HR.out _ _ _ (HA.out.below B1.out) (HB.out.below B1.out)).mono ?_
    rintro e w2 ⟨v2, rfl, ho, hb⟩
    have B2 : Hid (Below w.heap.size w w2) := B1.out.trans (hb.mono B1.out.size)
    have X2 : Hid (RowIs w2 v2 x) := RowIs.own ho
    clear hb ho
    go_wp2_with fail
    refine (both_ok (both_turn HR.out) _ _ _ (HB.out.below B2.out) (HA.out.below B2.out)).mono ?_
    rintro e w3 ⟨v3, rfl, ho, hb⟩
    have B3 : Hid (Below w.heap.size w w3) := B2.out.trans (hb.mono B2.out.size)
    have X3 : Hid (RowIs w3 v2 x) := X2.out.below hb
    have Y3 : Hid (RowIs w3 v3 x) := RowIs.own ho
    clear hb ho
    go_wp2_with fail
    refine (both_ok (both_left HR.out) _ _ _ X3.out (HA.out.below B3.out)).mono ?_
    rintro e w4 ⟨v4, rfl, ho, hb⟩
    have B4 : Hid (Below w.heap.size w w4) := B3.out.trans (hb.mono B3.out.size)
    have X4 : Hid (RowIs w4 v2 x) := X3.out.below hb
    have Y4 : Hid (RowIs w4 v3 x) := Y3.out.below hb
    have Z4 : Hid (RowIs w4 v4 x) := RowIs.own ho
    clear hb ho
    go_wp2_with fail
    refine (both_ok (both_right HR.out) _ _ _ (HB.out.below B4.out) X4.out).mono ?_
    rintro e w5 ⟨v5, rfl, ho, hb⟩
    have B5 : Hid (Below w.heap.size w w5) := B4.out.trans (hb.mono B4.out.size)
    have X5 : Hid (RowIs w5 v2 x) := X4.out.below hb
    have Y5 : Hid (RowIs w5 v3 x) := Y4.out.below hb
    have Z5 : Hid (RowIs w5 v4 x) := Z4.out.below hb
    have W5 : Hid (RowIs w5 v5 x) := RowIs.own ho
    clear hb ho
    go_wp2_with fail
    refine (same_true _ _ _ X5.out Y5.out).mono ?_
    rintro e w6 ⟨rfl, hb⟩
    have B6 : Hid (Below w.heap.size w w6) := B5.out.trans (hb.mono B5.out.size)
    have X6 : Hid (RowIs w6 v2 x) := X5.out.below hb
    have Z6 : Hid (RowIs w6 v4 x) := Z5.out.below hb
    have W6 : Hid (RowIs w6 v5 x) := W5.out.below hb
    clear hb
    go_wp2_with fail
    refine (same_true _ _ _ X6.out Z6.out).mono ?_
    rintro e w7 ⟨rfl, hb⟩
    have B7 : Hid (Below w.heap.size w w7) := B6.out.trans (hb.mono B6.out.size)
    have X7 : Hid (RowIs w7 v2 x) := X6.out.below hb
    have W7 : Hid (RowIs w7 v5 x) := W6.out.below hb
    clear hb
    go_wp2_with fail
    refine (same_true _ _ _ X7.out W7.out).mono ?_
    rintro e w8 ⟨rfl, hb⟩
    have B8 : Hid (Below w.heap.size w w8) := B7.out.trans (hb.mono B7.out.size)
    have X8 : Hid (RowIs w8 v2 x) := X7.out.below hb
    clear hb
    go_wp2_with fail
    refine (cacheCheck_ok X8.out HGx.out.bad).mono ?_
    rintro e w9 ⟨rfl, hb⟩
    have B9 : Hid (Below w.heap.size w w9) := B8.out.trans (hb.mono B8.out.size)
    have X9 : Hid (RowIs w9 v2 x) := X8.out.below hb
    clear hb X2 X3 X4 X5 X6 X7 X8 Y3 Y4 Y5 Z4 Z5 Z6 W5 W6 W7 B1 B2 B3 B4 B5 B6 B7 B8 HB0
    go_wp2_with fail
    go_loopw [15] (fun i wr => ∃ j : Nat, j ≤ 8 ∧ i = .int .i64 j ∧ Hid (Below w9.heap.size w9 wr)) (fun i _ => 8 - (intOf i).toNat)
    case atStart => exact ⟨0, Nat.zero_le _, rfl, Below.refl _ _⟩
    case round =>
      obtain ⟨j, hj, rfl, HBr⟩ := hrel
      by_cases hlt : j < 8
      · have hlti : (j : Int) < 8 := by omega
        have hj0 : (0 : Int) ≤ (j : Int) := by omega
        have HKn : Hid (KnownAt (getE a j) (getE b j) (getE x j)) := HM.out j
        have HBw : Hid (Below w.heap.size w wr) := B9.out.trans (HBr.out.mono B9.out.size)
        have HAr : Hid (RowIs wr va a) := HA.out.below HBw.out
        have HBrr : Hid (RowIs wr vb b) := HB.out.below HBw.out
        have HXr : Hid (RowIs wr v2 x) := X9.out.below HBr.out
        cases hga : getE a j with
        | none =>
          have GA : Hid (cacheGet a j = (⟨0, 0, 0, false, ⟨#[]⟩⟩, 5)) := cacheGet_none HGa.out hlt hga
          rw [hga] at HKn
          clear hga
          cases hgb : getE b j with
          | none =>
            have GB : Hid (cacheGet b j = (⟨0, 0, 0, false, ⟨#[]⟩⟩, 5)) := cacheGet_none HGb.out hlt hgb
            rw [hgb] at HKn
            clear hgb
            have GC : Hid (cacheGet x j = (⟨0, 0, 0, false, ⟨#[]⟩⟩, 5)) := cacheGet_none HGx.out hlt HKn.out
            go_wp2_with fail
            refine (getO_err GA.out va _ HAr.out).mono ?_
            rintro e u1 ⟨rfl, hb⟩
            have C1 : Hid (Below wr.heap.size wr u1) := hb
            clear hb
            obtain ⟨d1, HD1⟩ : ∃ d, Hid (u1.heap.size = d) := ⟨_, rfl⟩
            have M1 : Hid (Below u1.heap.size u1 (u1.alloc (.cells #[.int .i64 0, .int .i64 0, .int .i64 0, .bool false, .string ⟨#[]⟩] 23))) := by show Below _ _ _; go_grown
            have E1 : Hid (BoxAt (u1.alloc (.cells #[.int .i64 0, .int .i64 0, .int .i64 0, .bool false, .string ⟨#[]⟩] 23)) u1.heap.size 0 0 0 false ⟨#[]⟩) := box_new u1 0 0 0 false ⟨#[]⟩ u1.heap.size rfl
            have N1 : Hid (Below wr.heap.size wr _) := C1.out.trans (M1.out.mono C1.out.size)
            go_wp2_with fail
            refine (getO_err GB.out vb _ (HBrr.out.below N1.out)).mono ?_
            rintro e u2 ⟨rfl, hb⟩
            have C2 : Hid (Below wr.heap.size wr u2) := N1.out.trans (hb.mono N1.out.size)
            have E2 : Hid (BoxAt u2 u1.heap.size 0 0 0 false ⟨#[]⟩) := E1.out.below hb E1.out.lt
            clear hb E1
            have M2 : Hid (Below u2.heap.size u2 (u2.alloc (.cells #[.int .i64 0, .int .i64 0, .int .i64 0, .bool false, .string ⟨#[]⟩] 23))) := by show Below _ _ _; go_grown
            have D2 : Hid (BoxAt (u2.alloc (.cells #[.int .i64 0, .int .i64 0, .int .i64 0, .bool false, .string ⟨#[]⟩] 23)) u2.heap.size 0 0 0 false ⟨#[]⟩) := box_new u2 0 0 0 false ⟨#[]⟩ u2.heap.size rfl
            have E2' : Hid (BoxAt (u2.alloc (.cells #[.int .i64 0, .int .i64 0, .int .i64 0, .bool false, .string ⟨#[]⟩] 23)) u1.heap.size 0 0 0 false ⟨#[]⟩) := E2.out.below M2.out E2.out.lt
            have N2 : Hid (Below wr.heap.size wr _) := C2.out.trans (M2.out.mono C2.out.size)
            go_wp2_with fail
            refine (getO_err GC.out v2 _ (HXr.out.below N2.out)).mono ?_
            rintro e u3 ⟨rfl, hb⟩
            have C3 : Hid (Below wr.heap.size wr u3) := N2.out.trans (hb.mono N2.out.size)
            have E3 : Hid (BoxAt u3 u1.heap.size 0 0 0 false ⟨#[]⟩) := E2'.out.below hb E2'.out.lt
            have D3 : Hid (BoxAt u3 u2.heap.size 0 0 0 false ⟨#[]⟩) := D2.out.below hb D2.out.lt
            clear hb E2 E2' D2
            have q1 : ¬ u1.heap.size = u3.heap.size := by have := E3.out.lt; omega
            have q2 : ¬ u2.heap.size = u3.heap.size := by have := D3.out.lt; omega
            have q3 : u1.heap.size < u3.heap.size := E3.out.lt
            have q4 : u2.heap.size < u3.heap.size := D3.out.lt
            obtain ⟨e0, e1, e2, e3, e4, ef⟩ := E3.out
            obtain ⟨d0, d1', d2, d3, d4, df⟩ := D3.out
            go_upto_region 18 with fail
            go_quiet (fail)
            go_wp2_with fail
            go_roundw
            case rel =>
              refine ⟨j + 1, by omega, by go_num, ?_⟩
              show Below _ _ _
              have hb : Below w9.heap.size w9 u3 := HBr.out.trans (C3.out.mono HBr.out.size)
              first | exact ((hb.alloc hb.size _).trans (below_drewS _ _ _)) | go_grown
            case measure => simp [intOf]; omega
          | some bb =>
            have GB : Hid (cacheGet b j = (bb, 0)) := cacheGet_some HGb.out hlt hgb
            rw [hgb] at HKn
            clear hgb
            have GC : Hid (cacheGet x j = (bb, 0)) := cacheGet_some HGx.out hlt HKn.out
            clear HKn
            obtain ⟨b0, b1, b2, b3, b4⟩ := bb
            have i1 : ¬ b1 < b1 := by omega
            have i2 : ¬ b2 < b2 := by omega
            go_wp2_with fail
            refine (getO_err GA.out va _ HAr.out).mono ?_
            rintro e u1 ⟨rfl, hb⟩
            have C1 : Hid (Below wr.heap.size wr u1) := hb
            clear hb
            obtain ⟨d1, HD1⟩ : ∃ d, Hid (u1.heap.size = d) := ⟨_, rfl⟩
            have M1 : Hid (Below u1.heap.size u1 (u1.alloc (.cells #[.int .i64 0, .int .i64 0, .int .i64 0, .bool false, .string ⟨#[]⟩] 23))) := by show Below _ _ _; go_grown
            have E1 : Hid (BoxAt (u1.alloc (.cells #[.int .i64 0, .int .i64 0, .int .i64 0, .bool false, .string ⟨#[]⟩] 23)) u1.heap.size 0 0 0 false ⟨#[]⟩) := box_new u1 0 0 0 false ⟨#[]⟩ u1.heap.size rfl
            have N1 : Hid (Below wr.heap.size wr _) := C1.out.trans (M1.out.mono C1.out.size)
            go_wp2_with fail
            refine (getO_ok GB.out vb _ (HBrr.out.below N1.out)).mono ?_
            rintro e u2 ⟨rfl, hb⟩
            have C2 : Hid (Below wr.heap.size wr u2) := N1.out.trans (hb.mono N1.out.size)
            have E2 : Hid (BoxAt u2 u1.heap.size 0 0 0 false ⟨#[]⟩) := E1.out.below hb E1.out.lt
            clear hb E1
            have M2 : Hid (Below u2.heap.size u2 (u2.alloc (.cells #[.int .i64 b0, .int .i64 b1, .int .i64 b2, .bool b3, .string b4] 23))) := by show Below _ _ _; go_grown
            have D2 : Hid (BoxAt (u2.alloc (.cells #[.int .i64 b0, .int .i64 b1, .int .i64 b2, .bool b3, .string b4] 23)) u2.heap.size b0 b1 b2 b3 b4) := box_new u2 b0 b1 b2 b3 b4 u2.heap.size rfl
            have E2' : Hid (BoxAt (u2.alloc (.cells #[.int .i64 b0, .int .i64 b1, .int .i64 b2, .bool b3, .string b4] 23)) u1.heap.size 0 0 0 false ⟨#[]⟩) := E2.out.below M2.out E2.out.lt
            have N2 : Hid (Below wr.heap.size wr _) := C2.out.trans (M2.out.mono C2.out.size)
            go_wp2_with fail
            refine (getO_ok GC.out v2 _ (HXr.out.below N2.out)).mono ?_
            rintro e u3 ⟨rfl, hb⟩
            have C3 : Hid (Below wr.heap.size wr u3) := N2.out.trans (hb.mono N2.out.size)
            have E3 : Hid (BoxAt u3 u1.heap.size 0 0 0 false ⟨#[]⟩) := E2'.out.below hb E2'.out.lt
            have D3 : Hid (BoxAt u3 u2.heap.size b0 b1 b2 b3 b4) := D2.out.below hb D2.out.lt
            clear hb E2 E2' D2
            have q1 : ¬ u1.heap.size = u3.heap.size := by have := E3.out.lt; omega
            have q2 : ¬ u2.heap.size = u3.heap.size := by have := D3.out.lt; omega
            have q3 : u1.heap.size < u3.heap.size := E3.out.lt
            have q4 : u2.heap.size < u3.heap.size := D3.out.lt
            obtain ⟨e0, e1, e2, e3, e4, ef⟩ := E3.out
            obtain ⟨d0, d1', d2, d3, d4, df⟩ := D3.out
            go_upto_region 18 with fail
            go_quiet (fail)
            go_wp2_with fail
            go_roundw
            case rel =>
              refine ⟨j + 1, by omega, by go_num, ?_⟩
              show Below _ _ _
              have hb : Below w9.heap.size w9 u3 := HBr.out.trans (C3.out.mono HBr.out.size)
              first | exact ((hb.alloc hb.size _).trans (below_drewS _ _ _)) | go_grown
            case measure => simp [intOf]; omega
        | some aa =>
          have GA : Hid (cacheGet a j = (aa, 0)) := cacheGet_some HGa.out hlt hga
          have HAa : Hid (aa.bad = 0) := HGa.out.all aa ((getE_iff HGa.out.rise).1 hga).1
          rw [hga] at HKn
          clear hga
          cases hgb : getE b j with
          | none =>
            have GB : Hid (cacheGet b j = (⟨0, 0, 0, false, ⟨#[]⟩⟩, 5)) := cacheGet_none HGb.out hlt hgb
            rw [hgb] at HKn
            clear hgb
            have GC : Hid (cacheGet x j = (aa, 0)) := cacheGet_some HGx.out hlt HKn.out
            clear HKn HAa
            obtain ⟨a0, a1, a2, a3, a4⟩ := aa
            have i1 : ¬ a1 < a1 := by omega
            have i2 : ¬ a2 < a2 := by omega
            go_wp2_with fail
            refine (getO_ok GA.out va _ HAr.out).mono ?_
            rintro e u1 ⟨rfl, hb⟩
            have C1 : Hid (Below wr.heap.size wr u1) := hb
            clear hb
            obtain ⟨d1, HD1⟩ : ∃ d, Hid (u1.heap.size = d) := ⟨_, rfl⟩
            have M1 : Hid (Below u1.heap.size u1 (u1.alloc (.cells #[.int .i64 a0, .int .i64 a1, .int .i64 a2, .bool a3, .string a4] 23))) := by show Below _ _ _; go_grown
            have E1 : Hid (BoxAt (u1.alloc (.cells #[.int .i64 a0, .int .i64 a1, .int .i64 a2, .bool a3, .string a4] 23)) u1.heap.size a0 a1 a2 a3 a4) := box_new u1 a0 a1 a2 a3 a4 u1.heap.size rfl
            have N1 : Hid (Below wr.heap.size wr _) := C1.out.trans (M1.out.mono C1.out.size)
            go_wp2_with fail
            refine (getO_err GB.out vb _ (HBrr.out.below N1.out)).mono ?_
            rintro e u2 ⟨rfl, hb⟩
            have C2 : Hid (Below wr.heap.size wr u2) := N1.out.trans (hb.mono N1.out.size)
            have E2 : Hid (BoxAt u2 u1.heap.size a0 a1 a2 a3 a4) := E1.out.below hb E1.out.lt
            clear hb E1
            have M2 : Hid (Below u2.heap.size u2 (u2.alloc (.cells #[.int .i64 0, .int .i64 0, .int .i64 0, .bool false, .string ⟨#[]⟩] 23))) := by show Below _ _ _; go_grown
            have D2 : Hid (BoxAt (u2.alloc (.cells #[.int .i64 0, .int .i64 0, .int .i64 0, .bool false, .string ⟨#[]⟩] 23)) u2.heap.size 0 0 0 false ⟨#[]⟩) := box_new u2 0 0 0 false ⟨#[]⟩ u2.heap.size rfl
            have E2' : Hid (BoxAt (u2.alloc (.cells #[.int .i64 0, .int .i64 0, .int .i64 0, .bool false, .string ⟨#[]⟩] 23)) u1.heap.size a0 a1 a2 a3 a4) := E2.out.below M2.out E2.out.lt
            have N2 : Hid (Below wr.heap.size wr _) := C2.out.trans (M2.out.mono C2.out.size)
            go_wp2_with fail
            refine (getO_ok GC.out v2 _ (HXr.out.below N2.out)).mono ?_
            rintro e u3 ⟨rfl, hb⟩
            have C3 : Hid (Below wr.heap.size wr u3) := N2.out.trans (hb.mono N2.out.size)
            have E3 : Hid (BoxAt u3 u1.heap.size a0 a1 a2 a3 a4) := E2'.out.below hb E2'.out.lt
            have D3 : Hid (BoxAt u3 u2.heap.size 0 0 0 false ⟨#[]⟩) := D2.out.below hb D2.out.lt
            clear hb E2 E2' D2
            have q1 : ¬ u1.heap.size = u3.heap.size := by have := E3.out.lt; omega
            have q2 : ¬ u2.heap.size = u3.heap.size := by have := D3.out.lt; omega
            have q3 : u1.heap.size < u3.heap.size := E3.out.lt
            have q4 : u2.heap.size < u3.heap.size := D3.out.lt
            obtain ⟨e0, e1, e2, e3, e4, ef⟩ := E3.out
            obtain ⟨d0, d1', d2, d3, d4, df⟩ := D3.out
            go_upto_region 18 with fail
            go_quiet (fail)
            go_wp2_with fail
            go_roundw
            case rel =>
              refine ⟨j + 1, by omega, by go_num, ?_⟩
              show Below _ _ _
              have hb : Below w9.heap.size w9 u3 := HBr.out.trans (C3.out.mono HBr.out.size)
              first | exact ((hb.alloc hb.size _).trans (below_drewS _ _ _)) | go_grown
            case measure => simp [intOf]; omega
          | some bb =>
            have GB : Hid (cacheGet b j = (bb, 0)) := cacheGet_some HGb.out hlt hgb
            have HBa : Hid (bb.bad = 0) := HGb.out.all bb ((getE_iff HGb.out.rise).1 hgb).1
            rw [hgb] at HKn
            clear hgb
            obtain ⟨cc, hcc, hkn⟩ := HKn.out
            have GC : Hid (cacheGet x j = (cc, 0)) := cacheGet_some HGx.out hlt hcc
            have hnew := hkn.new (bad_span HAa.out) (bad_span HBa.out)
            clear HKn HAa HBa hcc hkn
            obtain ⟨a0, a1, a2, a3, a4⟩ := aa
            obtain ⟨b0, b1, b2, b3, b4⟩ := bb
            obtain ⟨c0, c1, c2, c3, c4⟩ := cc
            dsimp only at hnew
            obtain ⟨n1, n2, n3, n4⟩ := hnew
            have i1 : ¬ c1 < a1 := by omega
            have i2 : ¬ c2 < a2 := by omega
            have i3 : ¬ c1 < b1 := by omega
            have i4 : ¬ c2 < b2 := by omega
            clear n1 n2 n3 n4
            go_wp2_with fail
            refine (getO_ok GA.out va _ HAr.out).mono ?_
            rintro e u1 ⟨rfl, hb⟩
            have C1 : Hid (Below wr.heap.size wr u1) := hb
            clear hb
            obtain ⟨d1, HD1⟩ : ∃ d, Hid (u1.heap.size = d) := ⟨_, rfl⟩
            have M1 : Hid (Below u1.heap.size u1 (u1.alloc (.cells #[.int .i64 a0, .int .i64 a1, .int .i64 a2, .bool a3, .string a4] 23))) := by show Below _ _ _; go_grown
            have E1 : Hid (BoxAt (u1.alloc (.cells #[.int .i64 a0, .int .i64 a1, .int .i64 a2, .bool a3, .string a4] 23)) u1.heap.size a0 a1 a2 a3 a4) := box_new u1 a0 a1 a2 a3 a4 u1.heap.size rfl
            have N1 : Hid (Below wr.heap.size wr _) := C1.out.trans (M1.out.mono C1.out.size)
            go_wp2_with fail
            refine (getO_ok GB.out vb _ (HBrr.out.below N1.out)).mono ?_
            rintro e u2 ⟨rfl, hb⟩
            have C2 : Hid (Below wr.heap.size wr u2) := N1.out.trans (hb.mono N1.out.size)
            have E2 : Hid (BoxAt u2 u1.heap.size a0 a1 a2 a3 a4) := E1.out.below hb E1.out.lt
            clear hb E1
            have M2 : Hid (Below u2.heap.size u2 (u2.alloc (.cells #[.int .i64 b0, .int .i64 b1, .int .i64 b2, .bool b3, .string b4] 23))) := by show Below _ _ _; go_grown
            have D2 : Hid (BoxAt (u2.alloc (.cells #[.int .i64 b0, .int .i64 b1, .int .i64 b2, .bool b3, .string b4] 23)) u2.heap.size b0 b1 b2 b3 b4) := box_new u2 b0 b1 b2 b3 b4 u2.heap.size rfl
            have E2' : Hid (BoxAt (u2.alloc (.cells #[.int .i64 b0, .int .i64 b1, .int .i64 b2, .bool b3, .string b4] 23)) u1.heap.size a0 a1 a2 a3 a4) := E2.out.below M2.out E2.out.lt
            have N2 : Hid (Below wr.heap.size wr _) := C2.out.trans (M2.out.mono C2.out.size)
            go_wp2_with fail
            refine (getO_ok GC.out v2 _ (HXr.out.below N2.out)).mono ?_
            rintro e u3 ⟨rfl, hb⟩
            have C3 : Hid (Below wr.heap.size wr u3) := N2.out.trans (hb.mono N2.out.size)
            have E3 : Hid (BoxAt u3 u1.heap.size a0 a1 a2 a3 a4) := E2'.out.below hb E2'.out.lt
            have D3 : Hid (BoxAt u3 u2.heap.size b0 b1 b2 b3 b4) := D2.out.below hb D2.out.lt
            clear hb E2 E2' D2
            have q1 : ¬ u1.heap.size = u3.heap.size := by have := E3.out.lt; omega
            have q2 : ¬ u2.heap.size = u3.heap.size := by have := D3.out.lt; omega
            have q3 : u1.heap.size < u3.heap.size := E3.out.lt
            have q4 : u2.heap.size < u3.heap.size := D3.out.lt
            obtain ⟨e0, e1, e2, e3, e4, ef⟩ := E3.out
            obtain ⟨d0, d1', d2, d3, d4, df⟩ := D3.out
            go_upto_region 18 with fail
            go_quiet (fail)
            go_wp2_with fail
            go_roundw
            case rel =>
              refine ⟨j + 1, by omega, by go_num, ?_⟩
              show Below _ _ _
              have hb : Below w9.heap.size w9 u3 := HBr.out.trans (C3.out.mono HBr.out.size)
              first | exact ((hb.alloc hb.size _).trans (below_drewS _ _ _)) | go_grown
            case measure => simp [intOf]; omega
      · obtain rfl : j = 8 := by omega
        go_wp2_with fail
        go_ret
        exact ⟨rfl, B9.out.trans (HBr.out.mono B9.out.size)⟩
  · refine (both_err HR.out hn _ _ _ (HA.out.below B1.out) (HB.out.below B1.out)).mono ?_
    rintro e w2 ⟨v2, rfl, ho, hb⟩
    have B2 : Hid (Below w.heap.size w w2) := B1.out.trans (hb.mono B1.out.size)
    clear hb ho
    go_wp2_with fail
    go_ret
    exact ⟨rfl, B2.out⟩
end Go.Proofs.Ytgncclahhejcdab
