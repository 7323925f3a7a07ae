/-
  Package mesh by its contracts: isNode, isKey, Seq, At, Cache.
  Package mesh by its contracts: learn.
-/
import Derived.Test.YtpcnfoaoajfhlaaGreatDoorRaak
import Derived.Test.YtpcnfoaoajfhlaaGreatDoorRaaf
import Derived.BigRegion
import Derived.BigQuiet
import Derived.Deep.RegionHeld3
namespace Go.Proofs.YtpcnfoaoajfhlaaGreatDoor
set_option linter.unusedVariables false
set_option linter.unusedSimpArgs false
set_option linter.unusedVariables false
set_option linter.unusedSimpArgs false
open Go.RowKit

theorem isNode_c (m c : Nat) (n : Nat) (node : Int) (w : World) (c1 : w.cell? ⟨m, 1, none⟩ = some (.slice (some ⟨c, 0, none⟩) n n)) :
    Calls Tryz.prog 49 #[.pointer (some ⟨m, 0, none⟩), .int .i64 node] w fun e w' => e = .returned (.bool (nodeB n node)) ∧ w' = w := by
  by_cases h : 0 ≤ node
  · have hd : decide (0 ≤ node) = true := by simpa using h
    go_enter Tryz.func49, Tryz.ntmps49
    go_wp2
    go_ret
    exact ⟨by simp [nodeB, h], rfl⟩
  · have hd : decide (0 ≤ node) = false := by simpa using h
    go_enter Tryz.func49, Tryz.ntmps49
    go_wp2
    go_ret
    refine ⟨?_, rfl⟩
    have h' : ¬ 0 ≤ node := by omega
    simp [nodeB, h']
theorem isNode_b {m c n : Nat} {node : Int} {b : Bool} (h : nodeB n node = b) (w : World) (c1 : w.cell? ⟨m, 1, none⟩ = some (.slice (some ⟨c, 0, none⟩) n n)) :
    Calls Tryz.prog 49 #[.pointer (some ⟨m, 0, none⟩), .int .i64 node] w fun e w' => e = .returned (.bool b) ∧ w' = w := by
  subst h
  exact isNode_c m c n node w c1
theorem mKey_c (k : Int) (w : World) : Calls Tryz.prog 50 #[.int .i64 k] w fun e w' => e = .returned (.bool (stK k)) ∧ w' = w := by
  by_cases h : 0 ≤ k
  · have hd : decide (0 ≤ k) = true := by simpa using h
    go_enter Tryz.func50, Tryz.ntmps50
    go_wp2
    go_ret
    exact ⟨by simp [stK, h], rfl⟩
  · have hd : decide (0 ≤ k) = false := by simpa using h
    go_enter Tryz.func50, Tryz.ntmps50
    go_wp2
    go_ret
    refine ⟨?_, rfl⟩
    have h' : ¬ 0 ≤ k := by omega
    simp [stK, h']
theorem mKey_b {k : Int} {b : Bool} (h : stK k = b) (w : World) : Calls Tryz.prog 50 #[.int .i64 k] w fun e w' => e = .returned (.bool b) ∧ w' = w := by
  subst h
  exact mKey_c k w
theorem mSeq_c {S : Nat → Prop} {w : World} {m : Nat} {l : List Deed} {cs : List (List En)} (h : MeshAt S w m l cs) :
    Calls Tryz.prog 16 #[.pointer (some ⟨m, 0, none⟩)] w fun e w' => e = .returned (.int .i64 l.length) ∧ w' = w := by
  obtain ⟨F, b, c, h⟩ := h
  have c0 := h.c0
  have HS : Hid (StoreIs w b l F) := h.st
  clear h
  go_enter Tryz.func16, Tryz.ntmps16
  go_wp2_with fail
  refine (seq_c b l F w HS.out).mono ?_
  rintro e w1 ⟨rfl, hw⟩
  subst hw
  go_wp2_with fail
  go_ret
  exact ⟨rfl, rfl⟩
theorem errV_eV (n : Int) : errV n = eV n := rfl
/-- At, with letters -/
theorem stAt_o {b : Nat} {k s x0 x1 x2 n : Int} {x3 : Bool} {x4 : ByteArray} {l : List Deed} {F : Nat → Prop} {w : World} (h : StoreIs w b l F) (hv : (atO l k s).1 = ⟨x0, x1, x2, x3, x4⟩) (hn : (atO l k s).2 = n) :
    Calls Tryz.prog 116 #[.pointer (some ⟨b, 0, none⟩), .int .i64 k, .int .i64 s] w fun e w' => e = .returned (.tuple #[.agg #[.int .i64 x0, .int .i64 x1, .int .i64 x2, .bool x3, .string x4], eV n]) ∧ Below w.heap.size w w' := by
  have c := at_c b k s l F w h
  rw [hv, hn, errV_eV] at c
  exact c
theorem stRead_o {b : Nat} {k x0 x1 x2 n : Int} {x3 : Bool} {x4 : ByteArray} {l : List Deed} {F : Nat → Prop} {w : World} (h : StoreIs w b l F) (hv : (atO l k l.length).1 = ⟨x0, x1, x2, x3, x4⟩) (hn : (atO l k l.length).2 = n) :
    Calls Tryz.prog 68 #[.pointer (some ⟨b, 0, none⟩), .int .i64 k] w fun e w' => e = .returned (.tuple #[.agg #[.int .i64 x0, .int .i64 x1, .int .i64 x2, .bool x3, .string x4], eV n]) ∧ Below w.heap.size w w' := by
  have c := read_c b k l F w h
  rw [show readO l k = atO l k l.length from rfl, hv, hn, errV_eV] at c
  exact c
/-- a node's cache, as it is told -/
def mCacheO (cs : List (List En)) (node : Int) : List En × Int := if nodeB cs.length node = true then (cacheN cs node, 0) else ([], 1)
theorem cacheN_at {cs : List (List En)} {i : Nat} (hi : i < cs.length) : cacheN cs (i : Int) = cs[i] := by
  unfold cacheN
  rw [Int.toNat_natCast, List.getD_eq_getElem?_getD, List.getElem?_eq_getElem hi]
  rfl
theorem node_nat {n : Nat} {node : Int} (h : nodeB n node = true) : ∃ i : Nat, node = i ∧ i < n := by
  rw [nodeB_iff] at h
  exact ⟨node.toNat, by omega, by omega⟩
set_option maxHeartbeats 1000000 in
theorem mCache_o {S : Nat → Prop} {w : World} {m : Nat} {node n : Int} {x : List En} {l : List Deed} {cs : List (List En)} (h : MeshAt S w m l cs) (hG : GoodM l cs) (hx : mCacheO cs node = (x, n)) :
    Calls Tryz.prog 17 #[.pointer (some ⟨m, 0, none⟩), .int .i64 node] w fun e w' => ∃ v, e = .returned (.tuple #[v, eV n]) ∧ RowIs w' v x ∧ (∀ g, v.ownBlock = some g → w.heap.size ≤ g) ∧ Below w.heap.size w w' := by
  obtain ⟨F, b, c, h⟩ := h
  have c1 := h.c1
  cases hn : nodeB cs.length node
  · have HN : Hid (nodeB cs.length node = false) := hn
    rw [mCacheO, if_neg (by rw [hn]; simp)] at hx
    obtain ⟨rfl, rfl⟩ : [] = x ∧ (1 : Int) = n := by simpa using hx
    clear hx hn h hG
    go_enter Tryz.func17, Tryz.ntmps17
    go_wp2_with (go_at_call 49; refine (isNode_b HN.out _ (by assumption)).mono ?_; rintro e w' ⟨rfl, hw⟩; subst hw)
    go_ret2
    refine ⟨.slice none 0 0, ?_, RowIs.nil _, fun g hg => by simp [Value.ownBlock] at hg, Below.refl _ _⟩
    rfl
  · have HN : Hid (nodeB cs.length node = true) := hn
    rw [mCacheO, if_pos hn] at hx
    obtain ⟨rfl, rfl⟩ : cacheN cs node = x ∧ (0 : Int) = n := by simpa using hx
    obtain ⟨i, rfl, hi⟩ := node_nat hn
    obtain ⟨v, hc, hr, hg⟩ := h.rows i hi
    rw [cacheN_at hi]
    have HR : Hid (RowIs w v cs[i]) := hr
    have H8 : Hid (cs[i].length ≤ 8) := (hG.all cs[i] (List.getElem_mem hi)).good.len
    generalize cs[i] = x at HR H8 ⊢
    clear hx hn h hG hr hg
    generalize cs.length = nc at HN hi c1 ⊢
    have hi2 : (i : Int) < (nc : Int) := by omega
    go_enter Tryz.func17, Tryz.ntmps17
    go_wp2_with (first | (go_at_call 49; refine (isNode_b HN.out _ (by assumption)).mono ?_; rintro e w' ⟨rfl, hw⟩; subst hw))
    refine (clone_c v x _ HR.out H8.out).mono ?_
    rintro e w1 ⟨v1, rfl, ho, hb⟩
    have HO : Hid _ := ho
    have HB : Hid _ := hb
    clear ho hb
    go_wp2_with fail
    go_ret2
    refine ⟨v1, ?_, RowIs.own HO.out, fun g hg => ownsRow_from HO.out g hg, HB.out⟩
    rfl
end Go.Proofs.YtpcnfoaoajfhlaaGreatDoor

namespace Go.Proofs.YtpcnfoaoajfhlaaGreatDoor
set_option linter.unusedVariables false
set_option linter.unusedSimpArgs false
open Go.RowKit

theorem Kept.setC {F : Nat → Prop} {w w' : World} (h : Kept F w w') (b k : Nat) (hF : F b ∨ w.heap.size ≤ b) (u : Value) : Kept F w (w'.setCell ⟨b, k, none⟩ u) :=
  ⟨h.os, h.tape, h.output, by rw [World.size_setCell]; exact h.size, fun y hy hn => (Below.heap_setCell _ _ _ y (fun e => by rcases hF with hf | hf; exact hn (by rw [e]; exact hf); (simp at e; omega))).trans (h.block y hy hn)⟩
theorem heap_setE (w : World) (b c : Nat) (hc : c ≠ b) (x0 x1 x2 x3 x4 : Value) : (((((w.setCell ⟨b, 0, none⟩ x0).setCell ⟨b, 1, none⟩ x1).setCell ⟨b, 2, none⟩ x2).setCell ⟨b, 3, none⟩ x3).setCell ⟨b, 4, none⟩ x4).heap[c]? = w.heap[c]? := by
  rw [Below.heap_setCell _ _ _ c hc, Below.heap_setCell _ _ _ c hc, Below.heap_setCell _ _ _ c hc, Below.heap_setCell _ _ _ c hc, Below.heap_setCell _ _ _ c hc]
set_option maxHeartbeats 1000000 in
/-- behind learn: the row of caches has a new one, the result's box is filled -/
theorem learn_end {S F : Nat → Prop} {w w4 : World} {m b c P B : Nat} {l : List Deed} {cs : List (List En)} {i : Nat} {v : Value} {x : List En} (h : Mc S F w m b c l cs) (hi : i < cs.length) (hb : Below w.heap.size w w4) (hP : w.heap.size ≤ P) (hP4 : P < B) (hB : B ≤ w4.heap.size) (ho : w4.ownsRow B 46 5 v x.length (rowC x)) (x0 x1 x2 x3 x4 : Value) :
    MeshTo S w ((((((w4.setCell ⟨c, i, none⟩ v).setCell ⟨P, 0, none⟩ x0).setCell ⟨P, 1, none⟩ x1).setCell ⟨P, 2, none⟩ x2).setCell ⟨P, 3, none⟩ x3).setCell ⟨P, 4, none⟩ x4) m l (cs.set i x) := by
  have h4 : Mc S F w4 m b c l cs := h.blocks hb.size (fun y hy => hb.block y (h.lt y hy))
  have hown : ∀ g, v.ownBlock = some g → B ≤ g ∧ g < w4.heap.size := fun g hg => ⟨ownsRow_from ho g hg, ownsRow_lt ho g hg⟩
  have h5 := h4.row i hi (RowIs.own ho) (fun g hg => ⟨h.out (fun hs => by have h1 := h.lt g hs; have h2 := (hown g hg).1; omega), (hown g hg).2⟩) (fun g hg => own_cel ho hg)
  have hcl := h.lt c h.sc
  have hPS : ∀ y, (S y ∨ v.ownBlock = some y) → y ≠ P := fun y hy e => by
    rcases hy with hy | hy
    · have := h.lt y hy
      omega
    · have := (hown y hy).1
      omega
  have hsz : (((((w4.setCell ⟨c, i, none⟩ v).setCell ⟨P, 0, none⟩ x0).setCell ⟨P, 1, none⟩ x1).setCell ⟨P, 2, none⟩ x2).setCell ⟨P, 3, none⟩ x3).heap.size = w4.heap.size := by simp only [World.size_setCell]
  have hk : Kept S w ((((((w4.setCell ⟨c, i, none⟩ v).setCell ⟨P, 0, none⟩ x0).setCell ⟨P, 1, none⟩ x1).setCell ⟨P, 2, none⟩ x2).setCell ⟨P, 3, none⟩ x3).setCell ⟨P, 4, none⟩ x4) :=
    ((((((Kept.of_below hb).setC c i (.inl h.sc) v).setC P 0 (.inr hP) x0).setC P 1 (.inr hP) x1).setC P 2 (.inr hP) x2).setC P 3 (.inr hP) x3).setC P 4 (.inr hP) x4
  refine ⟨hk, (fun y => S y ∨ v.ownBlock = some y), ⟨F, b, c, h5.blocks (by simp only [World.size_setCell]; exact Nat.le_refl _) (fun y hy => heap_setE _ P y (hPS y hy) _ _ _ _ _)⟩, fun y hy => ?_⟩
  rcases hy with hy | hy
  · exact .inl hy
  · have := (hown y hy).1
    exact .inr (by omega)
theorem eV_zeroN : eV 0 = .nilIface := by rw [eV, if_pos rfl]
theorem eV_errN {n : Int} (h : n ≠ 0) : eV n = .iface 85 (.int .i64 n) := by rw [eV, if_neg h]
theorem add_w {l R1 : List En} {k vv a : Int} {g : Bool} {t : ByteArray} {R2 : Bool} (h : cacheAdd l ⟨k, vv, a, g, t⟩ = (R1, R2, 0)) (v : Value) (w : World) (hr : RowIs w v l) :
    Calls Tryz.prog 28 #[v, .agg #[.int .i64 k, .int .i64 vv, .int .i64 a, .bool g, .string t]] w fun e w' => ∃ v', e = .returned (.tuple #[v', .bool R2, .nilIface]) ∧ w'.ownsRow w.heap.size 46 5 v' R1.length (rowC R1) ∧ Below w.heap.size w w' := by
  have c := add_c v l k vv a g t w hr
  rw [h] at c
  refine c.mono ?_
  rintro e w' ⟨v', he, ho, hb⟩
  exact ⟨v', by rw [he, eV_zeroN], ho, hb⟩
theorem atO_read {l : List Deed} {k : Int} (hk : stK k = true) : atO l k l.length = (entAt l k l.length, 0) := by
  simp only [atO, hk, true_and, Int.toNat_natCast]
  rw [if_pos (by constructor <;> omega)]
theorem kept_cell {w w' : World} {a : Addr} {v : Value} (hb : Below w.heap.size w w') (h : w.cell? a = some v) : w'.cell? a = some v := (hb.cell (p := a) (World.block_lt_of_cell? w a h)).trans h
set_option maxHeartbeats 4000000 in
theorem learn_c {S F : Nat → Prop} {w : World} {m b c : Nat} {l : List Deed} {cs : List (List En)} (h : Mc S F w m b c l cs) (hG : GoodM l cs) (i : Nat) (hi : i < cs.length) {key x0 x1 x2 : Int} {x3 : Bool} {x4 : ByteArray} (hk : stK key = true) (hx : wasE l key l.length = ⟨x0, x1, x2, x3, x4⟩) :
    Calls Tryz.prog 53 #[.pointer (some ⟨m, 0, none⟩), .int .i64 i, .int .i64 key] w fun e w' => e = .returned (.tuple #[.agg #[.int .i64 x0, .int .i64 x1, .int .i64 x2, .bool x3, .string x4], .nilIface]) ∧ MeshTo S w w' m l (learnM l cs i key) := by
  have HM : Hid (Mc S F w m b c l cs) := h
  have HI : Hid (i < cs.length) := hi
  obtain ⟨v, hv, hr, _⟩ := h.rows i hi
  have HR : Hid (RowIs w v cs[i]) := hr
  have HV : Hid (w.cell? ⟨c, i, none⟩ = some v) := hv
  obtain ⟨ch, hadd⟩ := learnC_add hG.good hG.len (hG.all cs[i] (List.getElem_mem hi)) hk
  rw [hx] at hadd
  have HL : Hid (learnM l cs i key = cs.set i (learnC l cs[i] key)) := by show learnM l cs i key = _; rw [learnM, cacheN_at hi, Int.toNat_natCast]; rfl
  obtain ⟨x, HX⟩ : ∃ x, Hid (learnC l cs[i] key = x) := ⟨learnC l cs[i] key, show learnC l cs[i] key = _ from rfl⟩
  rw [HX.out] at hadd HL
  have HA : Hid (cacheAdd cs[i] ⟨x0, x1, x2, x3, x4⟩ = (x, ch, 0)) := hadd
  have HE : Hid ((atO l key l.length).1 = ⟨x0, x1, x2, x3, x4⟩ ∧ (atO l key l.length).2 = 0) := by
    rw [atO_read hk]
    refine ⟨?_, rfl⟩
    injection hx with e0 e1 e2 e3 e4
    show entAt l key l.length = _
    rw [entAt, e1, e3, e4, e0, ← e2]
  have c0 := h.c0
  have hml := h.lt m h.sm
  have HS : Hid (StoreIs (w.alloc (.cells #[.int .i64 0, .int .i64 0, .int .i64 0, .bool false, .string ⟨#[]⟩] 46)) b l F) := h.st.below ((Below.refl _ _).alloc (Nat.le_refl _) _)
  rw [HL.out]
  generalize cs[i] = y at HR HA
  clear HX HL hadd hx hk hG hr hv h
  go_enter Tryz.func53, Tryz.ntmps53
  go_wp2_with fail
  refine (stRead_o HS.out HE.out.1 HE.out.2).mono ?_
  rintro e w1 ⟨rfl, hb⟩
  rw [eV_zeroN]
  have hs1 : w.heap.size < w1.heap.size := by have := hb.size; simp at this; omega
  have B1 : Hid (Below w.heap.size w (w1.alloc (.cells #[.int .i64 x0, .int .i64 x1, .int .i64 x2, .bool x3, .string x4] 46))) := (((Below.refl _ w).alloc (Nat.le_refl _) _).trans (hb.mono (by simp))).alloc (by omega) _
  have X1 : Hid (BoxAt (w1.alloc (.cells #[.int .i64 x0, .int .i64 x1, .int .i64 x2, .bool x3, .string x4] 46)) w.heap.size 0 0 0 false ⟨#[]⟩) := ((box_new w 0 0 0 false ⟨#[]⟩ _ rfl).below hb (by simp)).alloc _
  have Y1 : Hid (BoxAt (w1.alloc (.cells #[.int .i64 x0, .int .i64 x1, .int .i64 x2, .bool x3, .string x4] 46)) w1.heap.size x0 x1 x2 x3 x4) := box_new w1 x0 x1 x2 x3 x4 _ rfl
  clear hb HS HE c0
  go_upto_region 4 with fail
  obtain ⟨w2, HW2⟩ : ∃ z, z = w1.alloc (.cells #[.int .i64 x0, .int .i64 x1, .int .i64 x2, .bool x3, .string x4] 46) := ⟨_, rfl⟩
  obtain ⟨Y, HY⟩ : ∃ z, z = w1.heap.size := ⟨_, rfl⟩
  obtain ⟨P, HP⟩ : ∃ z, Hid (z = w.heap.size) := ⟨_, rfl⟩
  rw [← HW2] at B1 X1 Y1
  rw [← HY] at Y1 hs1
  rw [← HP.out] at X1 hs1
  rw [← HW2, ← HY, ← HP.out]
  clear HW2 HY
  have M2 : Hid (Mc S F w2 m b c l cs) := HM.out.blocks B1.out.size (fun z hz => B1.out.block z (HM.out.lt z hz))
  have d0 := M2.out.c1
  have d1 : w2.cell? ⟨c, i, none⟩ = some v := (World.cell?_of_block (a := ⟨c, i, none⟩) (B1.out.block c (HM.out.lt c HM.out.sc))).trans HV.out
  have R2 : Hid (RowIs w2 v y) := HR.out.below B1.out
  obtain ⟨nc, HNc⟩ : ∃ nc, Hid (cs.length = nc) := ⟨_, rfl⟩
  have hi2 : (i : Int) < (nc : Int) := by have := HNc.out; omega
  rw [HNc.out] at d0
  obtain ⟨g0, g1, g2, g3, g4, gf⟩ := Y1.out
  clear hi hml
  go_region_held3 (fun w' => w'.cell? ⟨m, 1, none⟩ = some (.slice (some ⟨c, 0, none⟩) nc nc) ∧ w'.cell? ⟨c, i, none⟩ = some v ∧ w'.cell? ⟨Y, 0, none⟩ = some (.int .i64 x0) ∧ w'.cell? ⟨Y, 1, none⟩ = some (.int .i64 x1) ∧ w'.cell? ⟨Y, 2, none⟩ = some (.int .i64 x2) ∧ w'.cell? ⟨Y, 3, none⟩ = some (.bool x3) ∧ w'.cell? ⟨Y, 4, none⟩ = some (.string x4)) (first | go_keep | (exact ⟨kept_cell HB3.out d0, kept_cell HB3.out d1, kept_cell HB3.out g0, kept_cell HB3.out g1, kept_cell HB3.out g2, kept_cell HB3.out g3, kept_cell HB3.out g4⟩)) (first | (go_at_call 28; refine (add_w HA.out _ _ ?_).mono ?_; exact R2.out.drew; rintro e w3 ⟨v3, rfl, ho3, hb3⟩; obtain ⟨_, p3, q3, rfl, _⟩ := RowIs.own ho3; have HO3 : Hid (w3.ownsRow w2.heap.size 46 5 (.slice p3 x.length q3) x.length (rowC x)) := ho3; have HB3 : Hid (Below w2.heap.size w2 w3) := below_undrew hb3; clear ho3 hb3))
  have B3 : Hid (Below w.heap.size w w3) := B1.out.trans (HB3.out.mono B1.out.size)
  have M3 : Hid (Mc S F w3 m b c l cs) := HM.out.blocks B3.out.size (fun z hz => B3.out.block z (HM.out.lt z hz))
  have X3 : Hid (BoxAt w3 P 0 0 0 false ⟨#[]⟩) := X1.out.below HB3.out X1.out.lt
  have Y3 : Hid (BoxAt w3 Y x0 x1 x2 x3 x4) := Y1.out.below HB3.out Y1.out.lt
  have hcP : ¬ c = P := by have h1 := HM.out.lt c HM.out.sc; have h2 := HP.out; omega
  have hcY : ¬ c = Y := by have h1 := HM.out.lt c HM.out.sc; have h2 := HP.out; omega
  have hEnd : Hid (MeshTo S w ((((((w3.setCell ⟨c, i, none⟩ (.slice p3 x.length q3)).setCell ⟨P, 0, none⟩ (.int .i64 x0)).setCell ⟨P, 1, none⟩ (.int .i64 x1)).setCell ⟨P, 2, none⟩ (.int .i64 x2)).setCell ⟨P, 3, none⟩ (.bool x3)).setCell ⟨P, 4, none⟩ (.string x4)) m l (cs.set i x)) :=
    learn_end HM.out HI.out B3.out (by have := HP.out; omega) X1.out.lt HB3.out.size HO3.out _ _ _ _ _
  have e1 := M3.out.c1
  rw [HNc.out] at e1
  have ef := M3.out.fz
  have e2 : w3.cell? ⟨c, i, none⟩ = some v := kept_cell HB3.out d1
  clear d0 d1 g0 g1 g2 g3 g4 gf B1 X1 Y1 M2 R2 HO3 HB3 M3
  go_upto_region 8 with fail
  have X5 : Hid (BoxAt (w3.setCell ⟨c, i, none⟩ (.slice p3 x.length q3)) P 0 0 0 false ⟨#[]⟩) := X3.out.of_block (Below.heap_setCell _ _ _ P (by simp; omega))
  have Y5 : Hid (BoxAt (w3.setCell ⟨c, i, none⟩ (.slice p3 x.length q3)) Y x0 x1 x2 x3 x4) := Y3.out.of_block (Below.heap_setCell _ _ _ Y (by simp; omega))
  obtain ⟨w5, HW5⟩ : ∃ z, z = w3.setCell ⟨c, i, none⟩ (.slice p3 x.length q3) := ⟨_, rfl⟩
  rw [← HW5] at hEnd X5 Y5
  rw [← HW5]
  clear HW5 e1 ef e2 X3 Y3 B3
  obtain ⟨z0, z1, z2, z3, z4, zf⟩ := (X5.out.set x0 x1 x2 x3 x4)
  obtain ⟨y0, y1, y2, y3, y4, yf⟩ := Y5.out
  obtain ⟨e0, e1, e2, e3, e4, ef⟩ := X5.out
  go_wp2_with fail
  refine bodyPost_ret (v := .tuple #[.agg #[.int .i64 x0, .int .i64 x1, .int .i64 x2, .bool x3, .string x4], .nilIface]) (by simp [results, Tryz.results53, go_sem, z0, z1, z2, z3, z4]) rfl ?_
  exact ⟨rfl, hEnd.out⟩
end Go.Proofs.YtpcnfoaoajfhlaaGreatDoor
