/-
  Package repair by its contracts: Write; all of them.
-/
import Derived.Test.YtliaidgedjjobaaDoorRp3
namespace Go.Proofs.YtliaidgedjjobaaDoor
set_option linter.unusedVariables false
set_option linter.unusedSimpArgs false
open Go.RowKit

/-- so many caches at a block, of which the first ones are laid -/
structure LaidAt (w : World) (b n j : Nat) (zs : List (List En)) : Prop where
  lt : b < w.heap.size
  cell : ∀ k, k < n → ∃ u, w.cell? ⟨b, k, none⟩ = some u ∧ (k < j → ∀ (h : k < zs.length), RowIs w u zs[k] ∧ u.ownBlock ≠ some b)
  fz : ∀ k, w.frozen? ⟨b, k, none⟩ = false
theorem LaidAt.below {w w' : World} {b n j : Nat} {zs : List (List En)} (h : LaidAt w b n j zs) (hb : Below w.heap.size w w') : LaidAt w' b n j zs :=
  ⟨Nat.lt_of_lt_of_le h.lt hb.size, fun k hk => by
    obtain ⟨u, hu, hr⟩ := h.cell k hk
    exact ⟨u, (World.cell?_of_block (a := ⟨b, k, none⟩) (hb.block b h.lt)).trans hu, fun hj hz => ⟨(hr hj hz).1.below hb, (hr hj hz).2⟩⟩,
   fun k => (World.frozen?_of_block (a := ⟨b, k, none⟩) (hb.block b h.lt)).trans (h.fz k)⟩
theorem laid_new (w : World) (t : TypeId) (n : Nat) (zs : List (List En)) : LaidAt (w.alloc (.cells (madeCells #[.slice none 0 0] n) t)) w.heap.size n 0 zs := by
  refine ⟨by simp, fun k hk => ⟨.slice none 0 0, ?_, fun h => absurd h (Nat.not_lt_zero _)⟩, fun k => by simp⟩
  rw [World.cell?_alloc_at _ _ _ _ rfl]
  simp [madeCells, hk, Nat.mod_one]
theorem LaidAt.set {w : World} {b n j : Nat} {zs : List (List En)} (h : LaidAt w b n j zs) (hj : j < n) (v : Value) (hz : j < zs.length) (hr : RowIs w v zs[j]) (hv : v.ownBlock ≠ some b) : LaidAt (w.setCell ⟨b, j, none⟩ v) b n (j + 1) zs := by
  have keep : ∀ {u : Value} {l : List En}, RowIs w u l → u.ownBlock ≠ some b → RowIs (w.setCell ⟨b, j, none⟩ v) u l := fun hr hu =>
    hr.blocks (by rw [World.size_setCell]; exact Nat.le_refl _) (fun c hc _ => Below.heap_setCell _ _ _ c (fun e => hu (by rw [hc, e])))
  refine ⟨by rw [World.size_setCell]; exact h.lt, fun k hk => ?_, fun k => by rw [World.frozen?_setCell]; exact h.fz k⟩
  obtain ⟨u0, hu0, _⟩ := h.cell j hj
  obtain ⟨u, hu, hr'⟩ := h.cell k hk
  by_cases hkj : k = j
  · subst hkj
    exact ⟨v, World.cell?_setCell_same _ _ _ hu0, fun _ _ => ⟨keep hr hv, hv⟩⟩
  · refine ⟨u, (World.cell?_setCell_other _ _ _ _ (by simp [hkj])).trans hu, fun hlt hz' => ?_⟩
    obtain ⟨h1, h2⟩ := hr' (by omega) hz'
    exact ⟨keep h1 h2, h2⟩
theorem LaidAt.rows {w : World} {b n : Nat} {zs : List (List En)} (h : LaidAt w b n n zs) (hn : zs.length = n) (hm : n ≤ maxLen) : RowsIs w (.slice (some ⟨b, 0, none⟩) n n) zs := by
  subst hn
  refine ⟨hm, _, _, rfl, fun _ => ⟨b, 0, rfl, h.lt, fun j hj => ?_⟩⟩
  obtain ⟨u, hu, hr⟩ := h.cell j hj
  exact ⟨u, by rw [Nat.zero_add]; exact hu, (hr hj hj).1⟩
theorem infoRow : (Tryd.prog.info? 37).map (fun i => (i.zero, i.size, i.bytes)) = some (some (.slice none 0 0), 1, 24) := by kernel_rfl
theorem addW_o {l R1 : List En} {k vv a : Int} {g : Bool} {t : ByteArray} {R2 : Bool} {R3 : Int} (h : cacheAdd l ⟨k, vv, a, g, t⟩ = (R1, R2, R3)) (v : Value) (w : World) (hr : RowIs w v l) :
    Calls Tryd.prog 39 #[v, .agg #[.int .i64 k, .int .i64 vv, .int .i64 a, .bool g, .string t]] w fun e w' => ∃ v', e = .returned (.tuple #[v', .bool R2, eV R3]) ∧ RowIs w' v' R1 ∧ (∀ c, v'.ownBlock = some c → w.heap.size ≤ c) ∧ Below w.heap.size w w' := by
  refine (add_c v l k vv a g t w hr).mono ?_
  rw [h]
  rintro e w' ⟨v', he, ho, hb⟩
  exact ⟨v', he, RowIs.own ho, fun c hc => ownsRow_from ho c hc, hb⟩
set_option maxRecDepth 100000 in
set_option maxHeartbeats 8000000 in
theorem rwrite_c {w : World} {v : Value} {ls zs : List (List En)} {key m : Int} (hr : RowsIs w v ls) (h : writeR ls key = (zs, m)) :
    Calls Tryd.prog 16 #[v, .int .i64 key] w fun e w' => ∃ u, e = .returned (.tuple #[u, eV m]) ∧ RowsIs w' u zs ∧ Below w.heap.size w w' := by
  have HR : Hid (RowsIs w v ls) := hr
  obtain ⟨⟨x0, x1, x2, x3, x4⟩, n, HX⟩ : ∃ x n, Hid (readR ls key = (x, n)) := ⟨_, _, rfl⟩
  by_cases hn : n = 0
  · subst hn
    obtain ⟨hgl, hk, _⟩ := readR_ok HX.out
    have HGL : Hid (GoodLs ls) := hgl
    have hxb : En.bad ⟨x0, x1, x2, x3, x4⟩ = 0 := (readR_over HX.out).1.1
    have HA : Hid (∀ j (hj : j < ls.length), ∃ b, cacheAdd ls[j] ⟨x0, x1, x2, x3, x4⟩ = (withE ⟨x0, x1, x2, x3, x4⟩ ls[j], b, 0)) := fun j hj => by
      have h1 := HGL.out.all _ (List.getElem_mem hj)
      have h2 := readR_put HX.out (List.getElem_mem hj)
      refine ⟨(putE ls[j] ⟨x0, x1, x2, x3, x4⟩).2.1, ?_⟩
      rw [cacheAdd, if_neg (by simpa using h1), if_neg (by simpa using hxb), withE]
      rw [← h2]
    obtain ⟨hzs, rfl⟩ : ls.map (withE ⟨x0, x1, x2, x3, x4⟩) = zs ∧ (0 : Int) = m := by
      rw [writeR, HX.out, if_neg (by simp)] at h
      exact Prod.mk.inj h
    have HZl : Hid (zs.length = ls.length) := by show _ = _; rw [← hzs]; simp
    have HZ : Hid (∀ j (hj : j < ls.length) (hz : j < zs.length), withE ⟨x0, x1, x2, x3, x4⟩ ls[j] = zs[j]) := fun j hj hz => by simp [← hzs]
    clear hgl hk h hxb hzs
    obtain ⟨hlen, p, cap, rfl, hrow⟩ := hr
    have HRow : Hid (ls ≠ [] → ∃ b o, p = some ⟨b, o, none⟩ ∧ b < w.heap.size ∧ ∀ j (h : j < ls.length), ∃ u, w.cell? ⟨b, o + j, none⟩ = some u ∧ RowIs w u ls[j]) := hrow
    clear hrow
    obtain ⟨n, HN⟩ : ∃ n, Hid (ls.length = n) := ⟨_, rfl⟩
    have hn6 : n ≤ 6 := by rw [← HN.out]; exact HGL.out.len
    rw [HN.out] at hlen HR ⊢
    have hn63 : n ≤ 9223372036854775807 := hlen
    have hmk := run_make_row' (P := Tryd.prog) 22 37 (.slice none 0 0) 24 Tryd.underlying22 infoRow rfl .i64 .i64 n (by omega) (by omega)
    go_enter Tryd.func16, Tryd.ntmps16
    go_wp2_with fail
    refine (rread_c HR.out HX.out).mono ?_
    rintro e w1 ⟨rfl, hb⟩
    have B1 : Hid (Below w.heap.size w (w1.alloc (.cells #[.int .i64 x0, .int .i64 x1, .int .i64 x2, .bool x3, .string x4] 26))) := hb.alloc hb.size _
    have E1 : Hid (BoxAt (w1.alloc (.cells #[.int .i64 x0, .int .i64 x1, .int .i64 x2, .bool x3, .string x4] 26)) w1.heap.size x0 x1 x2 x3 x4) := box_new w1 x0 x1 x2 x3 x4 _ rfl
    clear hb
    rw [eV_zeroP]
    go_upto_region 4 with fail
    obtain ⟨w2, HW2⟩ : ∃ w2, w2 = w1.alloc (.cells #[.int .i64 x0, .int .i64 x1, .int .i64 x2, .bool x3, .string x4] 26) := ⟨_, rfl⟩
    obtain ⟨X, HXX⟩ : ∃ X, X = w1.heap.size := ⟨_, rfl⟩
    rw [← HW2, ← HXX] at E1 ⊢
    rw [← HW2] at B1
    clear HW2 HXX
    have hs2 := B1.out.size
    have hX := E1.out.lt
    have HL3 : Hid (LaidAt (w2.alloc (.cells (madeCells #[.slice none 0 0] n) 37)) w2.heap.size n 0 zs) := laid_new w2 _ n zs
    have B3 : Hid (Below w.heap.size w (w2.alloc (.cells (madeCells #[.slice none 0 0] n) 37))) := B1.out.alloc hs2 _
    have E3 : Hid (BoxAt (w2.alloc (.cells (madeCells #[.slice none 0 0] n) 37)) X x0 x1 x2 x3 x4) := E1.out.alloc _
    go_wp2_with fail
    obtain ⟨M, HMM⟩ : ∃ M, M = w2.heap.size := ⟨_, rfl⟩
    rw [← HMM] at HL3 hs2 hX ⊢
    clear B1 E1 hmk HMM
    go_loopw [7, 25] (fun s7 s25 wr => ∃ (j : Nat), s7 = .nilIface ∧ j ≤ n ∧ s25 = .int .i64 j ∧ Hid (LaidAt wr M n j zs) ∧ Hid (Below w.heap.size w wr) ∧ Hid (BoxAt wr X x0 x1 x2 x3 x4)) (fun _ i _ => n - (intOf i).toNat)
    case atStart => exact ⟨0, rfl, Nat.zero_le _, rfl, HL3, B3, E3⟩
    case round =>
      obtain ⟨j, rfl, hj, rfl, HL, HB, HE⟩ := hrel
      clear HL3 B3 E3
      have hws := HB.out.size
      have hbx := HE.out.lt
      have hlm := HL.out.lt
      by_cases hlt : j < n
      · have hjl : j < ls.length := by rw [HN.out]; exact hlt
        have hjz : j < zs.length := by rw [HZl.out]; exact hjl
        obtain ⟨b, oo, rfl, hbw, hat⟩ := HRow.out (fun h => by simp [h] at hjl)
        obtain ⟨u, hu, hru⟩ := hat j hjl
        have c0 : wr.cell? ⟨b, oo + j, none⟩ = some u := (World.cell?_of_block (a := ⟨b, oo + j, none⟩) (HB.out.block b hbw)).trans hu
        have HU : Hid (RowIs wr u ls[j]) := hru.below HB.out
        obtain ⟨bb, hadd⟩ := HA.out j hjl
        rw [HZ.out j hjl hjz] at hadd
        have HAd : Hid (cacheAdd ls[j] ⟨x0, x1, x2, x3, x4⟩ = (zs[j], bb, 0)) := hadd
        clear hat hu hru hadd
        have hlti : (j : Int) < (n : Int) := by omega
        obtain ⟨e0, e1, e2, e3, e4, ef⟩ := HE.out
        go_wp2_with fail
        refine (addW_o HAd.out _ _ HU.out).mono ?_
        rintro e w3 ⟨v', rfl, hrow, hown, hb⟩
        obtain ⟨pv, nv, cv, rfl⟩ : ∃ pv nv cv, v' = .slice pv nv cv := by
          obtain ⟨pv, cv, hv, _⟩ := hrow.slice
          exact ⟨_, _, _, hv⟩
        have B3 : Hid (Below w.heap.size w w3) := HB.out.trans (hb.mono HB.out.size)
        have L3 : Hid (LaidAt w3 M n j zs) := HL.out.below hb
        have hvM : (Value.slice pv nv cv).ownBlock ≠ some M := fun hc => by have := hown M hc; omega
        have E3 : Hid (BoxAt w3 X x0 x1 x2 x3 x4) := HE.out.below hb hbx
        have L4 : Hid (LaidAt (w3.setCell ⟨M, j, none⟩ (.slice pv nv cv)) M n (j + 1) zs) := L3.out.set hlt _ hjz hrow hvM
        have B4 : Hid (Below w.heap.size w (w3.setCell ⟨M, j, none⟩ (.slice pv nv cv))) := B3.out.setCell (by show w.heap.size ≤ M; omega) _
        have E4 : Hid (BoxAt (w3.setCell ⟨M, j, none⟩ (.slice pv nv cv)) X x0 x1 x2 x3 x4) := E3.out.of_block (Below.heap_setCell _ _ _ X (by show X ≠ M; omega))
        obtain ⟨u0, cj, _⟩ := L3.out.cell j hlt
        have cf := L3.out.fz j
        clear hb hrow hown e0 e1 e2 e3 e4 ef c0
        rw [eV_zeroP]
        go_wp2_with fail
        go_roundw
        case rel => exact ⟨j + 1, rfl, by omega, by go_num, L4, B4, E4⟩
        case measure => simp [intOf]; omega
      · obtain rfl : j = n := by omega
        go_wp2_with fail
        go_ret2
        exact ⟨_, rfl, HL.out.rows (HZl.out.trans HN.out) hlen, HB.out⟩
  · obtain ⟨rfl, rfl⟩ : ([] : List (List En)) = zs ∧ n = m := by
      rw [writeR, HX.out, if_pos hn] at h
      exact Prod.mk.inj h
    clear h hr
    go_enter Tryd.func16, Tryd.ntmps16
    go_wp2_with fail
    refine (rread_c HR.out HX.out).mono ?_
    rintro e w1 ⟨rfl, hb⟩
    have B1 : Hid (Below w.heap.size w (w1.alloc (.cells #[.int .i64 x0, .int .i64 x1, .int .i64 x2, .bool x3, .string x4] 26))) := hb.alloc hb.size _
    clear hb
    rw [eV_errP hn]
    go_wp2_with fail
    go_ret2
    exact ⟨.slice none 0 0, by simp [eV, hn], ⟨by simp, none, 0, rfl, fun h => absurd rfl h⟩, B1.out⟩
/-- the package by its contracts -/
theorem rpFace : RpFace := ⟨rread_c, rlacks_c, rwrite_c, rmeet_c⟩
end Go.Proofs.YtliaidgedjjobaaDoor
