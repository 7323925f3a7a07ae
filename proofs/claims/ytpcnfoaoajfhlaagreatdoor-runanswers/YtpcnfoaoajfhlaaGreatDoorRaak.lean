/-
  Package mesh by its contracts: learn.
  Package mesh by its contracts: change, over whatever deed is handed to it; Put, Delete.
  Package mesh by its contracts: New, Get.
-/
import Derived.Test.YtpcnfoaoajfhlaaGreatDoorRaaj
import Derived.Deep.RegionHeld3
import Derived.Shelf.Abstract
namespace Go.Proofs.YtpcnfoaoajfhlaaGreatDoor
set_option linter.unusedVariables false
set_option linter.unusedSimpArgs false
set_option linter.unusedVariables false
set_option linter.unusedSimpArgs false
open Go.RowKit

theorem Kept.setC {F : Nat → Prop} {w w' : World} (h : Kept F w w') (b k : Nat) (hF : F b ∨ w.heap.size ≤ b) (u : Value) : Kept F w (w'.setCell ⟨b, k, none⟩ u) :=
  ⟨h.os, h.tape, h.output, by rw [World.size_setCell]; exact h.size, fun y hy hn => (Below.heap_setCell _ _ _ y (fun e => by rcases hF with hf | hf; exact hn (by rw [e]; exact hf); (simp at e; omega))).trans (h.block y hy hn)⟩
theorem heap_setE (w : World) (b c : Nat) (hc : c ≠ b) (x0 x1 x2 x3 x4 : Value) : (((((w.setCell ⟨b, 0, none⟩ x0).setCell ⟨b, 1, none⟩ x1).setCell ⟨b, 2, none⟩ x2).setCell ⟨b, 3, none⟩ x3).setCell ⟨b, 4, none⟩ x4).heap[c]? = w.heap[c]? := by
  rw [Below.heap_setCell _ _ _ c hc, Below.heap_setCell _ _ _ c hc, Below.heap_setCell _ _ _ c hc, Below.heap_setCell _ _ _ c hc, Below.heap_setCell _ _ _ c hc]
set_option maxHeartbeats 1000000 in
/-- behind learn: the row of caches has a new one, the result's box is filled -/
theorem learn_end {S F : Nat → Prop} {w w4 : World} {m b c P B : Nat} {l : List Deed} {cs : List (List En)} {i : Nat} {v : Value} {x : List En} (h : Mc S F w m b c l cs) (hi : i < cs.length) (hb : Below w.heap.size w w4) (hP : w.heap.size ≤ P) (hP4 : P < B) (hB : B ≤ w4.heap.size) (ho : w4.ownsRow B 46 5 v x.length (rowC x)) (x0 x1 x2 x3 x4 : Value) :
    MeshTo S w ((((((w4.setCell ⟨c, i, none⟩ v).setCell ⟨P, 0, none⟩ x0).setCell ⟨P, 1, none⟩ x1).setCell ⟨P, 2, none⟩ x2).setCell ⟨P, 3, none⟩ x3).setCell ⟨P, 4, none⟩ x4) m l (cs.set i x) := by
  have h4 : Mc S F w4 m b c l cs := h.blocks hb.size (fun y hy => hb.block y (h.lt y hy))
  have hown : ∀ g, v.ownBlock = some g → B ≤ g ∧ g < w4.heap.size := fun g hg => ⟨ownsRow_from ho g hg, ownsRow_lt ho g hg⟩
  have h5 := h4.row i hi (RowIs.own ho) (fun g hg => ⟨h.out (fun hs => by have h1 := h.lt g hs; have h2 := (hown g hg).1; omega), (hown g hg).2⟩) (fun g hg => own_cel ho hg)
  have hcl := h.lt c h.sc
  have hPS : ∀ y, (S y ∨ v.ownBlock = some y) → y ≠ P := fun y hy e => by
    rcases hy with hy | hy
    · have := h.lt y hy
      omega
    · have := (hown y hy).1
      omega
  have hsz : (((((w4.setCell ⟨c, i, none⟩ v).setCell ⟨P, 0, none⟩ x0).setCell ⟨P, 1, none⟩ x1).setCell ⟨P, 2, none⟩ x2).setCell ⟨P, 3, none⟩ x3).heap.size = w4.heap.size := by simp only [World.size_setCell]
  have hk : Kept S w ((((((w4.setCell ⟨c, i, none⟩ v).setCell ⟨P, 0, none⟩ x0).setCell ⟨P, 1, none⟩ x1).setCell ⟨P, 2, none⟩ x2).setCell ⟨P, 3, none⟩ x3).setCell ⟨P, 4, none⟩ x4) :=
    ((((((Kept.of_below hb).setC c i (.inl h.sc) v).setC P 0 (.inr hP) x0).setC P 1 (.inr hP) x1).setC P 2 (.inr hP) x2).setC P 3 (.inr hP) x3).setC P 4 (.inr hP) x4
  refine ⟨hk, (fun y => S y ∨ v.ownBlock = some y), ⟨F, b, c, h5.blocks (by simp only [World.size_setCell]; exact Nat.le_refl _) (fun y hy => heap_setE _ P y (hPS y hy) _ _ _ _ _)⟩, fun y hy => ?_⟩
  rcases hy with hy | hy
  · exact .inl hy
  · have := (hown y hy).1
    exact .inr (by omega)
theorem eV_zeroN : eV 0 = .nilIface := by rw [eV, if_pos rfl]
theorem eV_errN {n : Int} (h : n ≠ 0) : eV n = .iface 85 (.int .i64 n) := by rw [eV, if_neg h]
theorem add_w {l R1 : List En} {k vv a : Int} {g : Bool} {t : ByteArray} {R2 : Bool} (h : cacheAdd l ⟨k, vv, a, g, t⟩ = (R1, R2, 0)) (v : Value) (w : World) (hr : RowIs w v l) :
    Calls Tryz.prog 28 #[v, .agg #[.int .i64 k, .int .i64 vv, .int .i64 a, .bool g, .string t]] w fun e w' => ∃ v', e = .returned (.tuple #[v', .bool R2, .nilIface]) ∧ w'.ownsRow w.heap.size 46 5 v' R1.length (rowC R1) ∧ Below w.heap.size w w' := by
  have c := add_c v l k vv a g t w hr
  rw [h] at c
  refine c.mono ?_
  rintro e w' ⟨v', he, ho, hb⟩
  exact ⟨v', by rw [he, eV_zeroN], ho, hb⟩
theorem atO_read {l : List Deed} {k : Int} (hk : stK k = true) : atO l k l.length = (entAt l k l.length, 0) := by
  simp only [atO, hk, true_and, Int.toNat_natCast]
  rw [if_pos (by constructor <;> omega)]
theorem kept_cell {w w' : World} {a : Addr} {v : Value} (hb : Below w.heap.size w w') (h : w.cell? a = some v) : w'.cell? a = some v := (hb.cell (p := a) (World.block_lt_of_cell? w a h)).trans h
set_option maxHeartbeats 4000000 in
theorem learn_c {S F : Nat → Prop} {w : World} {m b c : Nat} {l : List Deed} {cs : List (List En)} (h : Mc S F w m b c l cs) (hG : GoodM l cs) (i : Nat) (hi : i < cs.length) {key x0 x1 x2 : Int} {x3 : Bool} {x4 : ByteArray} (hk : stK key = true) (hx : wasE l key l.length = ⟨x0, x1, x2, x3, x4⟩) :
    Calls Tryz.prog 53 #[.pointer (some ⟨m, 0, none⟩), .int .i64 i, .int .i64 key] w fun e w' => e = .returned (.tuple #[.agg #[.int .i64 x0, .int .i64 x1, .int .i64 x2, .bool x3, .string x4], .nilIface]) ∧ MeshTo S w w' m l (learnM l cs i key) := by
  have HM : Hid (Mc S F w m b c l cs) := h
  have HI : Hid (i < cs.length) := hi
  obtain ⟨v, hv, hr, _⟩ := h.rows i hi
  have HR : Hid (RowIs w v cs[i]) := hr
  have HV : Hid (w.cell? ⟨c, i, none⟩ = some v) := hv
  obtain ⟨ch, hadd⟩ := learnC_add hG.good hG.len (hG.all cs[i] (List.getElem_mem hi)) hk
  rw [hx] at hadd
  have HL : Hid (learnM l cs i key = cs.set i (learnC l cs[i] key)) := by show learnM l cs i key = _; rw [learnM, cacheN_at hi, Int.toNat_natCast]; rfl
  obtain ⟨x, HX⟩ : ∃ x, Hid (learnC l cs[i] key = x) := ⟨learnC l cs[i] key, show learnC l cs[i] key = _ from rfl⟩
  rw [HX.out] at hadd HL
  have HA : Hid (cacheAdd cs[i] ⟨x0, x1, x2, x3, x4⟩ = (x, ch, 0)) := hadd
  have HE : Hid ((atO l key l.length).1 = ⟨x0, x1, x2, x3, x4⟩ ∧ (atO l key l.length).2 = 0) := by
    rw [atO_read hk]
    refine ⟨?_, rfl⟩
    injection hx with e0 e1 e2 e3 e4
    show entAt l key l.length = _
    rw [entAt, e1, e3, e4, e0, ← e2]
  have c0 := h.c0
  have hml := h.lt m h.sm
  have HS : Hid (StoreIs (w.alloc (.cells #[.int .i64 0, .int .i64 0, .int .i64 0, .bool false, .string ⟨#[]⟩] 46)) b l F) := h.st.below ((Below.refl _ _).alloc (Nat.le_refl _) _)
  rw [HL.out]
  generalize cs[i] = y at HR HA
  clear HX HL hadd hx hk hG hr hv h
  go_enter Tryz.func53, Tryz.ntmps53
  go_wp2_with fail
  refine (stRead_o HS.out HE.out.1 HE.out.2).mono ?_
  rintro e w1 ⟨rfl, hb⟩
  rw [eV_zeroN]
  have hs1 : w.heap.size < w1.heap.size := by have := hb.size; simp at this; omega
  have B1 : Hid (Below w.heap.size w (w1.alloc (.cells #[.int .i64 x0, .int .i64 x1, .int .i64 x2, .bool x3, .string x4] 46))) := (((Below.refl _ w).alloc (Nat.le_refl _) _).trans (hb.mono (by simp))).alloc (by omega) _
  have X1 : Hid (BoxAt (w1.alloc (.cells #[.int .i64 x0, .int .i64 x1, .int .i64 x2, .bool x3, .string x4] 46)) w.heap.size 0 0 0 false ⟨#[]⟩) := ((box_new w 0 0 0 false ⟨#[]⟩ _ rfl).below hb (by simp)).alloc _
  have Y1 : Hid (BoxAt (w1.alloc (.cells #[.int .i64 x0, .int .i64 x1, .int .i64 x2, .bool x3, .string x4] 46)) w1.heap.size x0 x1 x2 x3 x4) := box_new w1 x0 x1 x2 x3 x4 _ rfl
  clear hb HS HE c0
  go_upto_region 4 with fail
  obtain ⟨w2, HW2⟩ : ∃ z, z = w1.alloc (.cells #[.int .i64 x0, .int .i64 x1, .int .i64 x2, .bool x3, .string x4] 46) := ⟨_, rfl⟩
  obtain ⟨Y, HY⟩ : ∃ z, z = w1.heap.size := ⟨_, rfl⟩
  obtain ⟨P, HP⟩ : ∃ z, Hid (z = w.heap.size) := ⟨_, rfl⟩
  rw [← HW2] at B1 X1 Y1
  rw [← HY] at Y1 hs1
  rw [← HP.out] at X1 hs1
  rw [← HW2, ← HY, ← HP.out]
  clear HW2 HY
  have M2 : Hid (Mc S F w2 m b c l cs) := HM.out.blocks B1.out.size (fun z hz => B1.out.block z (HM.out.lt z hz))
  have d0 := M2.out.c1
  have d1 : w2.cell? ⟨c, i, none⟩ = some v := (World.cell?_of_block (a := ⟨c, i, none⟩) (B1.out.block c (HM.out.lt c HM.out.sc))).trans HV.out
  have R2 : Hid (RowIs w2 v y) := HR.out.below B1.out
  obtain ⟨nc, HNc⟩ : ∃ nc, Hid (cs.length = nc) := ⟨_, rfl⟩
  have hi2 : (i : Int) < (nc : Int) := by have := HNc.out; omega
  rw [HNc.out] at d0
  obtain ⟨g0, g1, g2, g3, g4, gf⟩ := Y1.out
  clear hi hml
  go_region_held3 (fun w' => w'.cell? ⟨m, 1, none⟩ = some (.slice (some ⟨c, 0, none⟩) nc nc) ∧ w'.cell? ⟨c, i, none⟩ = some v ∧ w'.cell? ⟨Y, 0, none⟩ = some (.int .i64 x0) ∧ w'.cell? ⟨Y, 1, none⟩ = some (.int .i64 x1) ∧ w'.cell? ⟨Y, 2, none⟩ = some (.int .i64 x2) ∧ w'.cell? ⟨Y, 3, none⟩ = some (.bool x3) ∧ w'.cell? ⟨Y, 4, none⟩ = some (.string x4)) (first | go_keep | (exact ⟨kept_cell HB3.out d0, kept_cell HB3.out d1, kept_cell HB3.out g0, kept_cell HB3.out g1, kept_cell HB3.out g2, kept_cell HB3.out g3, kept_cell HB3.out g4⟩)) (first | (go_at_call 28; refine (add_w HA.out _ _ ?_).mono ?_; exact R2.out.drew; rintro e w3 ⟨v3, rfl, ho3, hb3⟩; obtain ⟨_, p3, q3, rfl, _⟩ := RowIs.own ho3; have HO3 : Hid (w3.ownsRow w2.heap.size 46 5 (.slice p3 x.length q3) x.length (rowC x)) := ho3; have HB3 : Hid (Below w2.heap.size w2 w3) := below_undrew hb3; clear ho3 hb3))
  have B3 : Hid (Below w.heap.size w w3) := B1.out.trans (HB3.out.mono B1.out.size)
  have M3 : Hid (Mc S F w3 m b c l cs) := HM.out.blocks B3.out.size (fun z hz => B3.out.block z (HM.out.lt z hz))
  have X3 : Hid (BoxAt w3 P 0 0 0 false ⟨#[]⟩) := X1.out.below HB3.out X1.out.lt
  have Y3 : Hid (BoxAt w3 Y x0 x1 x2 x3 x4) := Y1.out.below HB3.out Y1.out.lt
  have hcP : ¬ c = P := by have h1 := HM.out.lt c HM.out.sc; have h2 := HP.out; omega
  have hcY : ¬ c = Y := by have h1 := HM.out.lt c HM.out.sc; have h2 := HP.out; omega
  have hEnd : Hid (MeshTo S w ((((((w3.setCell ⟨c, i, none⟩ (.slice p3 x.length q3)).setCell ⟨P, 0, none⟩ (.int .i64 x0)).setCell ⟨P, 1, none⟩ (.int .i64 x1)).setCell ⟨P, 2, none⟩ (.int .i64 x2)).setCell ⟨P, 3, none⟩ (.bool x3)).setCell ⟨P, 4, none⟩ (.string x4)) m l (cs.set i x)) :=
    learn_end HM.out HI.out B3.out (by have := HP.out; omega) X1.out.lt HB3.out.size HO3.out _ _ _ _ _
  have e1 := M3.out.c1
  rw [HNc.out] at e1
  have ef := M3.out.fz
  have e2 : w3.cell? ⟨c, i, none⟩ = some v := kept_cell HB3.out d1
  clear d0 d1 g0 g1 g2 g3 g4 gf B1 X1 Y1 M2 R2 HO3 HB3 M3
  go_upto_region 8 with fail
  have X5 : Hid (BoxAt (w3.setCell ⟨c, i, none⟩ (.slice p3 x.length q3)) P 0 0 0 false ⟨#[]⟩) := X3.out.of_block (Below.heap_setCell _ _ _ P (by simp; omega))
  have Y5 : Hid (BoxAt (w3.setCell ⟨c, i, none⟩ (.slice p3 x.length q3)) Y x0 x1 x2 x3 x4) := Y3.out.of_block (Below.heap_setCell _ _ _ Y (by simp; omega))
  obtain ⟨w5, HW5⟩ : ∃ z, z = w3.setCell ⟨c, i, none⟩ (.slice p3 x.length q3) := ⟨_, rfl⟩
  rw [← HW5] at hEnd X5 Y5
  rw [← HW5]
  clear HW5 e1 ef e2 X3 Y3 B3
  obtain ⟨z0, z1, z2, z3, z4, zf⟩ := (X5.out.set x0 x1 x2 x3 x4)
  obtain ⟨y0, y1, y2, y3, y4, yf⟩ := Y5.out
  obtain ⟨e0, e1, e2, e3, e4, ef⟩ := X5.out
  go_wp2_with fail
  refine bodyPost_ret (v := .tuple #[.agg #[.int .i64 x0, .int .i64 x1, .int .i64 x2, .bool x3, .string x4], .nilIface]) (by simp [results, Tryz.results53, go_sem, z0, z1, z2, z3, z4]) rfl ?_
  exact ⟨rfl, hEnd.out⟩
end Go.Proofs.YtpcnfoaoajfhlaaGreatDoor

namespace Go.Proofs.YtpcnfoaoajfhlaaGreatDoor
set_option linter.unusedVariables false
set_option linter.unusedSimpArgs false
open Go.RowKit Go.Shelf

theorem MeshTo.next {S S1 : Nat → Prop} {w w1 w2 : World} {m : Nat} {l : List Deed} {cs : List (List En)} (hk : Kept S w w1) (hs : ∀ x, S1 x → S x ∨ w.heap.size ≤ x) (h : MeshTo S1 w1 w2 m l cs) : MeshTo S w w2 m l cs := by
  obtain ⟨k2, S', h1, h2⟩ := h
  have hz := hk.size
  refine ⟨hk.trans k2 (fun x hx h' => (hs x h').resolve_right (by omega)), S', h1, fun x hx => ?_⟩
  rcases h2 x hx with h' | h'
  · exact hs x h'
  · exact .inr (by omega)
theorem MeshTo.below {S : Nat → Prop} {w w1 w2 : World} {m : Nat} {l : List Deed} {cs : List (List En)} (h : MeshTo S w w1 m l cs) (hb : Below w1.heap.size w1 w2) : MeshTo S w w2 m l cs := by
  obtain ⟨k1, S', h1, h2⟩ := h
  exact ⟨k1.trans (Kept.of_below (F := S) hb) (fun _ _ h => h), S', h1.grown hb, h2⟩
theorem Mc.kept {S F F' : Nat → Prop} {w w' : World} {m b c : Nat} {l l' : List Deed} {cs : List (List En)} (h : Mc S F w m b c l cs) (hF : ∀ x, F' x → F x ∨ w.heap.size ≤ x) (hk : Kept F w w') : Kept S w w' ∧ ∀ x, ((S x ∧ ¬ F x) ∨ F' x) → S x ∨ w.heap.size ≤ x := by
  refine ⟨hk.mono (fun x hx => (h.sF x hx).1), fun x hx => ?_⟩
  rcases hx with hx | hx
  · exact .inl hx.1
  · rcases hF x hx with h' | h'
    · exact .inl (h.sF x h').1
    · exact .inr h'
/-- what a deed must be -/
structure OutOk (o : Out) (l : List Deed) (key : Int) : Prop where
  bad : o.err ≠ 0 → o.done = l
  good : o.err = 0 → stK key = true ∧ Good o.done ∧ o.done.length ≤ 1000 ∧ ∃ d, o.done = l ++ [d]
theorem put_bad {l : List Deed} {k : Int} {t : ByteArray} (h : (putO l k t).err ≠ 0) : (putO l k t).done = l := by
  unfold putO recO at h ⊢
  split
  · rfl
  · split
    · rfl
    · split
      · rfl
      · rename_i h1 h2 h3
        rw [if_neg h1, if_neg h2, if_neg h3] at h
        exact absurd rfl h
theorem del_bad {l : List Deed} {k : Int} (h : (delO l k).err ≠ 0) : (delO l k).done = l := by
  unfold delO recO at h ⊢
  split
  · rfl
  · split
    · rfl
    · split
      · rfl
      · rename_i h1 h2 h3
        rw [if_neg h1, if_neg h2, if_neg h3] at h
        exact absurd rfl h
theorem outOk_put {l : List Deed} {k : Int} {t : ByteArray} (hl : Good l) : OutOk (putO l k t) l k :=
  ⟨put_bad, fun h => by
    obtain ⟨h1, _, h3, h4⟩ := put_fine h
    exact ⟨h1, good_put l k t hl, by rw [h4]; simp; omega, _, by rw [h4]⟩⟩
theorem outOk_del {l : List Deed} {k : Int} (hl : Good l) : OutOk (delO l k) l k :=
  ⟨del_bad, fun h => by
    obtain ⟨h1, h3, h4⟩ := del_fine h
    exact ⟨h1, good_del l k hl, by rw [h4]; simp; omega, _, by rw [h4]⟩⟩
theorem errV_zeroN : errV 0 = .nilIface := by rw [errV, if_pos rfl]
theorem errV_errN {n : Int} (h : n ≠ 0) : errV n = .iface 85 (.int .i64 n) := by rw [errV, if_neg h]
set_option maxHeartbeats 4000000 in
theorem change_c (f : FuncId) (caps : Array Value) {S F : Nat → Prop} {w : World} {m b c : Nat} {l : List Deed} {cs : List (List En)} (h : Mc S F w m b c l cs) (hG : GoodM l cs) (node key : Int) (o : Out) (hO : OutOk o l key)
    (eg : ∀ args w, (callFunc f args).run Tryz.prog w = .ok (.enter f args) w) (hf : Calls Tryz.prog f (#[.pointer (some ⟨b, 0, none⟩)] ++ caps) w (Left b F w o)) :
    Calls Tryz.prog 42 #[.pointer (some ⟨m, 0, none⟩), .int .i64 node, .int .i64 key, .func (.func f) #[] caps] w fun e w' => e = .returned (.tuple #[.int .i64 (mDone o l cs node key).num, eV (mDone o l cs node key).err]) ∧ MeshTo S w w' m (mDone o l cs node key).done (mDone o l cs node key).cs := by
  have c0 := h.c0
  have c1 := h.c1
  have HM : Hid (Mc S F w m b c l cs) := h
  have HF : Hid (Calls Tryz.prog f (#[.pointer (some ⟨b, 0, none⟩)] ++ caps) w (Left b F w o)) := hf
  cases hn : nodeB cs.length node
  · have HN : Hid (nodeB cs.length node = false) := hn
    have HR : Hid (mDone o l cs node key = ⟨l, cs, 0, 1⟩) := by show mDone o l cs node key = _; rw [mDone, if_pos hn]
    rw [HR.out]
    clear hn h hG hf hO
    go_enter Tryz.func42, Tryz.ntmps42
    go_wp2_with (go_at_call 49; refine (isNode_b HN.out _ (by assumption)).mono ?_; rintro e w' ⟨rfl, hw⟩; rw [hw]; clear hw w')
    go_ret2
    exact ⟨rfl, MeshAt.to ⟨F, b, c, HM.out⟩ (Below.refl _ _)⟩
  · have HN : Hid (nodeB cs.length node = true) := hn
    obtain ⟨i, rfl, hi⟩ := node_nat hn
    have HG : Hid (GoodM l cs) := hG
    by_cases hz : o.err = 0
    · obtain ⟨hk, hg, h1, d, hd⟩ := hO.good hz
      obtain ⟨x0, x1, x2, x3, x4, HX⟩ : ∃ x0 x1 x2 x3 x4, Hid (wasE o.done key o.done.length = ⟨x0, x1, x2, x3, x4⟩) := ⟨_, _, _, _, _, rfl⟩
      have HK : Hid (stK key = true) := hk
      have HGd : Hid (GoodM o.done cs) := by show GoodM o.done cs; rw [hd] at hg h1 ⊢; exact hG.later hg h1
      have HR : Hid (mDone o l cs (i : Int) key = ⟨o.done, learnM o.done cs i key, o.num, 0⟩) := by
        show mDone o l cs (i : Int) key = _
        rw [mDone, if_neg (by rw [hn]; simp), if_neg (by rw [hz]; simp)]
      rw [HR.out]
      obtain ⟨on, HOn⟩ : ∃ on, Hid (o.num = on) := ⟨o.num, rfl⟩
      have HZ : Hid (errV o.err = .nilIface) := by show errV o.err = _; rw [hz]; exact errV_zeroN
      have HI : Hid (i < cs.length) := hi
      show Calls _ _ _ _ fun e w' => e = .returned (.tuple #[.int .i64 o.num, eV 0]) ∧ _
      rw [HOn.out, eV_zeroN]
      generalize cs.length = nc at HN c1
      clear hn h hG hf hO hz hk hg h1 hd
      go_enter Tryz.func42, Tryz.ntmps42
      go_wp2_with (go_at_call 49; refine (isNode_b HN.out _ (by assumption)).mono ?_; rintro e w' ⟨rfl, hw⟩; rw [hw]; clear hw w')
      refine Calls.mono HF.out ?_
      rintro e w1 ⟨rfl, F', hs, hF, hkp⟩
      rw [HZ.out, HOn.out]
      obtain ⟨F2, hs2, hf2⟩ := store_tight hs
      replace hs := hs2
      replace hF : ∀ x, F2 x → F x ∨ w.heap.size ≤ x := fun x hx => hF x (hf2 x hx).1
      have M1 : Hid (Mc (fun x => (S x ∧ ¬ F x) ∨ F2 x) F2 w1 m b c o.done cs) := HM.out.store hs hF hkp (fun x hx => (hf2 x hx).2)
      have HKp : Hid (Kept S w w1 ∧ ∀ x, ((S x ∧ ¬ F x) ∨ F2 x) → S x ∨ w.heap.size ≤ x) := HM.out.kept (l' := l) hF hkp
      clear hs hs2 hf2 hF hkp c0 c1
      go_wp2_with fail
      refine (learn_c M1.out HGd.out i HI.out HK.out HX.out).mono ?_
      rintro e w2 ⟨rfl, hto⟩
      have T2 : Hid (MeshTo S w w2 m o.done (learnM o.done cs i key)) := MeshTo.next HKp.out.1 HKp.out.2 hto
      clear hto
      go_wp2_with fail
      go_ret2
      exact ⟨rfl, T2.out.below ((Below.refl _ _).alloc (Nat.le_refl _) _)⟩
    · have HB : Hid (o.done = l) := hO.bad hz
      have HR : Hid (mDone o l cs (i : Int) key = ⟨l, cs, 0, o.err⟩) := by
        show mDone o l cs (i : Int) key = _
        rw [mDone, if_neg (by rw [hn]; simp), if_pos hz]
      rw [HR.out]
      show Calls _ _ _ _ fun e w' => e = .returned (.tuple #[.int .i64 0, eV o.err]) ∧ _
      obtain ⟨on, HOn⟩ : ∃ on, Hid (o.num = on) := ⟨o.num, rfl⟩
      obtain ⟨er, HEr⟩ : ∃ er, Hid (o.err = er) := ⟨o.err, rfl⟩
      rw [HEr.out] at hz
      have HZ : Hid (errV er = .iface 85 (.int .i64 er)) := errV_errN hz
      rw [HEr.out, eV_errN hz]
      generalize cs.length = nc at HN c1
      clear hn h hG hf hO hz hi
      go_enter Tryz.func42, Tryz.ntmps42
      go_wp2_with (go_at_call 49; refine (isNode_b HN.out _ (by assumption)).mono ?_; rintro e w' ⟨rfl, hw⟩; rw [hw]; clear hw w')
      refine Calls.mono HF.out ?_
      rintro e w1 ⟨rfl, F', hs, hF, hkp⟩
      rw [HOn.out, HEr.out, HZ.out]
      rw [HB.out] at hs
      obtain ⟨F2, hs2, hf2⟩ := store_tight hs
      replace hs := hs2
      replace hF : ∀ x, F2 x → F x ∨ w.heap.size ≤ x := fun x hx => hF x (hf2 x hx).1
      have M1 : Hid (Mc (fun x => (S x ∧ ¬ F x) ∨ F2 x) F2 w1 m b c l cs) := HM.out.store hs hF hkp (fun x hx => (hf2 x hx).2)
      have HKp : Hid (Kept S w w1 ∧ ∀ x, ((S x ∧ ¬ F x) ∨ F2 x) → S x ∨ w.heap.size ≤ x) := HM.out.kept (l' := l) hF hkp
      clear hs hs2 hf2 hF hkp c0 c1
      go_wp2_with fail
      go_ret2
      exact ⟨rfl, MeshTo.next HKp.out.1 HKp.out.2 (MeshAt.to ⟨F2, b, c, M1.out⟩ (Below.refl _ _))⟩
set_option maxHeartbeats 1000000 in
theorem put1_c (b K T : Nat) (key : Int) (t : ByteArray) (l : List Deed) (F : Nat → Prop) (w : World) (ht : t.size ≤ maxLen) (ck : w.cell? ⟨K, 0, none⟩ = some (.int .i64 key)) (ct : w.cell? ⟨T, 0, none⟩ = some (.string t)) (h : StoreIs w b l F) :
    Calls Tryz.prog 43 #[.pointer (some ⟨b, 0, none⟩), .pointer (some ⟨K, 0, none⟩), .pointer (some ⟨T, 0, none⟩)] w (Left b F w (putO l key t)) := by
  have HS : Hid (StoreIs w b l F) := h
  have HT : Hid (t.size ≤ maxLen) := ht
  clear h ht
  go_enter Tryz.func43, Tryz.ntmps43
  go_wp2_with fail
  refine (stPut_c b key t l F _ HT.out HS.out).mono ?_
  rintro e w1 ⟨rfl, HF⟩
  have HF' : Hid _ := HF
  clear HF
  go_wp2_with fail
  go_ret2
  exact ⟨rfl, HF'.out⟩
set_option maxHeartbeats 1000000 in
theorem mPut_c {S : Nat → Prop} {w : World} {m : Nat} {l : List Deed} {cs : List (List En)} (h : MeshAt S w m l cs) (hG : GoodM l cs) (node key : Int) (t : ByteArray) (ht : t.size ≤ maxLen) :
    Calls Tryz.prog 10 #[.pointer (some ⟨m, 0, none⟩), .int .i64 node, .int .i64 key, .string t] w fun e w' => e = .returned (.tuple #[.int .i64 (mPut l cs node key t).num, eV (mPut l cs node key t).err]) ∧ MeshTo S w w' m (mPut l cs node key t).done (mPut l cs node key t).cs := by
  obtain ⟨F, b, c, h⟩ := h
  have HM : Hid (Mc S F ((w.alloc (.cells #[.int .i64 key] 3)).alloc (.cells #[.string t] 9)) m b c l cs) := h.blocks (by simp; omega) (fun x hx => by have := h.lt x hx; rw [Below.heap_alloc _ _ _ (by simp; omega), Below.heap_alloc _ _ _ this])
  have HG : Hid (GoodM l cs) := hG
  have HT : Hid (t.size ≤ maxLen) := ht
  have HB : Hid (Below w.heap.size w ((w.alloc (.cells #[.int .i64 key] 3)).alloc (.cells #[.string t] 9))) := ((Below.refl _ _).alloc (Nat.le_refl _) _).alloc (by simp) _
  clear h hG ht
  unfold mPut
  have HO : Hid (OutOk (putO l key t) l key) := outOk_put HG.out.good
  obtain ⟨R, HR⟩ : ∃ R, Hid (mDone (putO l key t) l cs node key = R) := ⟨_, rfl⟩
  rw [HR.out]
  obtain ⟨R1, R2, R3, R4⟩ := R
  dsimp only
  obtain ⟨ev, HE⟩ : ∃ ev, Hid (eV R4 = ev) := ⟨_, rfl⟩
  rw [HE.out]
  go_enter Tryz.func10, Tryz.ntmps10
  go_wp2_with fail
  refine (change_c 43 #[.pointer (some ⟨w.heap.size, 0, none⟩), .pointer (some ⟨w.heap.size + 1, 0, none⟩)] HM.out HG.out node key (putO l key t) HO.out (enters_of Tryz.func43 (by kernel_rfl) rfl) (put1_c b w.heap.size (w.heap.size + 1) key t l F _ HT.out (by simp) (by simp) HM.out.st)).mono ?_
  rw [HR.out]
  rintro e w1 ⟨rfl, hto⟩
  dsimp only at hto ⊢
  rw [HE.out]
  have HTo : Hid (MeshTo S w w1 m R1 R2) := MeshTo.after HB.out hto
  clear hto
  go_wp2_with fail
  go_ret2
  exact ⟨rfl, HTo.out⟩
set_option maxHeartbeats 1000000 in
theorem del1_c (b K : Nat) (key : Int) (l : List Deed) (F : Nat → Prop) (w : World) (ck : w.cell? ⟨K, 0, none⟩ = some (.int .i64 key)) (h : StoreIs w b l F) :
    Calls Tryz.prog 45 #[.pointer (some ⟨b, 0, none⟩), .pointer (some ⟨K, 0, none⟩)] w (Left b F w (delO l key)) := by
  have HS : Hid (StoreIs w b l F) := h
  clear h
  go_enter Tryz.func45, Tryz.ntmps45
  go_wp2_with fail
  refine (delete_c b key l F _ HS.out).mono ?_
  rintro e w1 ⟨rfl, HF⟩
  have HF' : Hid _ := HF
  clear HF
  go_wp2_with fail
  go_ret2
  exact ⟨rfl, HF'.out⟩
set_option maxHeartbeats 1000000 in
theorem mDel_c {S : Nat → Prop} {w : World} {m : Nat} {l : List Deed} {cs : List (List En)} (h : MeshAt S w m l cs) (hG : GoodM l cs) (node key : Int) :
    Calls Tryz.prog 11 #[.pointer (some ⟨m, 0, none⟩), .int .i64 node, .int .i64 key] w fun e w' => e = .returned (.tuple #[.int .i64 (mDel l cs node key).num, eV (mDel l cs node key).err]) ∧ MeshTo S w w' m (mDel l cs node key).done (mDel l cs node key).cs := by
  obtain ⟨F, b, c, h⟩ := h
  have HM : Hid (Mc S F (w.alloc (.cells #[.int .i64 key] 3)) m b c l cs) := h.blocks (by simp) (fun x hx => by have := h.lt x hx; rw [Below.heap_alloc _ _ _ this])
  have HG : Hid (GoodM l cs) := hG
  have HB : Hid (Below w.heap.size w (w.alloc (.cells #[.int .i64 key] 3))) := (Below.refl _ _).alloc (Nat.le_refl _) _
  clear h hG
  unfold mDel
  have HO : Hid (OutOk (delO l key) l key) := outOk_del HG.out.good
  obtain ⟨R, HR⟩ : ∃ R, Hid (mDone (delO l key) l cs node key = R) := ⟨_, rfl⟩
  rw [HR.out]
  obtain ⟨R1, R2, R3, R4⟩ := R
  dsimp only
  obtain ⟨ev, HE⟩ : ∃ ev, Hid (eV R4 = ev) := ⟨_, rfl⟩
  rw [HE.out]
  go_enter Tryz.func11, Tryz.ntmps11
  go_wp2_with fail
  refine (change_c 45 #[.pointer (some ⟨w.heap.size, 0, none⟩)] HM.out HG.out node key (delO l key) HO.out (enters_of Tryz.func45 (by kernel_rfl) rfl) (del1_c b w.heap.size key l F _ (by simp) HM.out.st)).mono ?_
  rw [HR.out]
  rintro e w1 ⟨rfl, hto⟩
  dsimp only at hto ⊢
  rw [HE.out]
  have HTo : Hid (MeshTo S w w1 m R1 R2) := MeshTo.after HB.out hto
  clear hto
  go_wp2_with fail
  go_ret2
  exact ⟨rfl, HTo.out⟩
end Go.Proofs.YtpcnfoaoajfhlaaGreatDoor

namespace Go.Proofs.YtpcnfoaoajfhlaaGreatDoor
set_option linter.unusedVariables false
set_option linter.unusedSimpArgs false
open Go.RowKit

theorem mNew_bad (n : Int) (w : World) (h : n < 1 ∨ 6 < n) : Calls Tryz.prog 7 #[.int .i64 n] w fun e w' => e = .returned (.tuple #[.pointer none, .iface 85 (.int .i64 1)]) ∧ w' = w := by
  by_cases h1 : n < 1
  · have hd1 : decide (n < 1) = true := by simpa using h1
    go_enter Tryz.func7, Tryz.ntmps7
    go_wp2_with fail
    go_ret2
    exact ⟨rfl, rfl⟩
  · have hd1 : decide (n < 1) = false := by simpa using h1
    have h6 : 6 < n := by omega
    have hd2 : decide (6 < n) = true := by simpa using h6
    go_enter Tryz.func7, Tryz.ntmps7
    go_wp2_with fail
    go_ret2
    exact ⟨rfl, rfl⟩
theorem mc_new {w2 : World} {b c n m : Nat} (hm : m = w2.heap.size) (hs : StoreIs w2 b [] (fun x => x = b)) (hl : ∀ k, k < n → w2.cell? ⟨c, k, none⟩ = some (.slice none 0 0)) (hf : ∀ k, w2.frozen? ⟨c, k, none⟩ = false) (hc : c < w2.heap.size) (hbc : b ≠ c) (hn : n ≤ 6) (hn1 : 1 ≤ n) :
    Mc (fun x => x = b ∨ x = c ∨ x = m) (fun x => x = b) (w2.alloc (.cells #[.pointer (some ⟨b, 0, none⟩), .slice (some ⟨c, 0, none⟩) n n] 89)) m b c [] (List.replicate n []) := by
  subst hm
  have hb : b < w2.heap.size := hs.2.2.2.2.1 b rfl
  have hB : Below w2.heap.size w2 (w2.alloc (.cells #[.pointer (some ⟨b, 0, none⟩), .slice (some ⟨c, 0, none⟩) n n] 89)) := (Below.refl _ _).alloc (Nat.le_refl _) _
  refine ⟨by simp, by simp, by simpa using hn, fun j => (World.frozen?_of_block (a := ⟨c, j, none⟩) (hB.block c hc)).trans (hf j), by omega, .inr (.inr rfl), .inr (.inl rfl), hs.below hB, fun x hx => ⟨.inl hx, by omega, by omega⟩, fun j hj => ?_, fun x hx => ?_, fun x hx => ?_⟩
  · refine ⟨.slice none 0 0, (World.cell?_of_block (a := ⟨c, j, none⟩) (hB.block c hc)).trans (hl j (by simpa using hj)), ?_, fun g hg => by simp [Value.ownBlock] at hg⟩
    rw [List.getElem_replicate]
    exact RowIs.nil _
  · have : (w2.alloc (.cells #[.pointer (some ⟨b, 0, none⟩), .slice (some ⟨c, 0, none⟩) n n] 89)).heap.size = w2.heap.size + 1 := by simp
    omega
  · rcases hx with rfl | rfl | rfl
    · exact (cel_of hs.1).same (hB.block _ hb)
    · exact (cel_of (hl 0 hn1)).same (hB.block _ hc)
    · exact ⟨_, _, _, alloc_at _ _ _ rfl⟩
theorem below_drewM {B : Nat} {w w' : World} (h : Below B w w') : Below B w w'.drew := ⟨h.os, h.tape, h.output, h.size, h.block⟩
theorem infoRowM : (Tryz.prog.info? 32).map (fun i => (i.zero, i.size, i.bytes)) = some (some (.slice none 0 0), 1, 24) := by kernel_rfl
set_option maxHeartbeats 2000000 in
theorem mNew_ok (n : Nat) (w : World) (h1 : 1 ≤ n) (h6 : n ≤ 6) : Calls Tryz.prog 7 #[.int .i64 n] w fun e w' => ∃ m, e = .returned (.tuple #[.pointer (some ⟨m, 0, none⟩), .nilIface]) ∧ (∃ S, MeshAt S w' m [] (List.replicate n []) ∧ ∀ x, S x → w.heap.size ≤ x) ∧ Below w.heap.size w w' := by
  have hd1 : decide ((n : Int) < 1) = false := by simp; omega
  have hd2 : decide ((6 : Int) < (n : Int)) = false := by simp; omega
  have hmk := run_make_row' (P := Tryz.prog) 35 32 (.slice none 0 0) 24 Tryz.underlying35 infoRowM rfl .i64 .i64 n (by omega) (by omega)
  go_enter Tryz.func7, Tryz.ntmps7
  go_upto_region 3 with fail
  go_region_with (go_at_call 37; refine (new_c _).mono ?_; rintro e w1 ⟨rfl, rfl⟩)
  all_goals go_wp2_with fail
  all_goals go_ret2
  · have hw1 : (w.alloc (.cells #[.int .i64 0, .slice none 0 0, .slice none 0 0, .slice none 0 0, .slice none 0 0, .slice none 0 0, .slice none 0 0, .slice none 0 0, .slice none 0 0] 151)).heap.size = w.heap.size + 1 := by simp
    have hs := (new_is w).below ((Below.refl _ _).alloc (Nat.le_refl _) (.cells (madeCells #[.slice none 0 0] n) 32))
    refine ⟨w.heap.size + 1 + 1, by simp [Act.put, Array.setIfInBounds, Array.getD], ⟨_, MeshAt.blocks ⟨_, _, _, mc_new (b := w.heap.size) (c := w.heap.size + 1) (n := n) (m := w.heap.size + 1 + 1) (by simp) hs (fun k hk => ?_) (fun k => by simp) (by simp) (by omega) h6 h1⟩ (Nat.le_refl _) (fun _ _ => rfl), fun x hx => ?_⟩, ?_⟩
    · rw [World.cell?_alloc_at _ _ _ _ (by simp)]
      simp [madeCells, hk, Nat.mod_one]
    · rcases hx with hx | hx | hx <;> omega
    · exact below_drewM (by go_grown)
  · have hs : StoreIs ((w.alloc (.cells (madeCells #[.slice none 0 0] n) 32)).alloc (.cells #[.int .i64 0, .slice none 0 0, .slice none 0 0, .slice none 0 0, .slice none 0 0, .slice none 0 0, .slice none 0 0, .slice none 0 0, .slice none 0 0] 151)) (w.heap.size + 1) [] (fun x => x = w.heap.size + 1) := by
      have := new_is (w.alloc (.cells (madeCells #[.slice none 0 0] n) 32))
      simpa using this
    refine ⟨w.heap.size + 1 + 1, by simp [Act.put, Array.setIfInBounds, Array.getD], ⟨_, MeshAt.blocks ⟨_, _, _, mc_new (b := w.heap.size + 1) (c := w.heap.size) (n := n) (m := w.heap.size + 1 + 1) (by simp) hs (fun k hk => ?_) (fun k => ?_) (by simp; omega) (by omega) h6 h1⟩ (Nat.le_refl _) (fun _ _ => rfl), fun x hx => ?_⟩, ?_⟩
    · refine (World.cell?_of_block (a := ⟨w.heap.size, k, none⟩) (w := w.alloc (.cells (madeCells #[.slice none 0 0] n) 32)) (Below.heap_alloc _ _ _ (by simp))).trans ?_
      rw [World.cell?_alloc_at _ _ _ _ rfl]
      simp [madeCells, hk, Nat.mod_one]
    · refine (World.frozen?_of_block (a := ⟨w.heap.size, k, none⟩) (w := w.alloc (.cells (madeCells #[.slice none 0 0] n) 32)) (Below.heap_alloc _ _ _ (by simp))).trans ?_
      simp
    · rcases hx with hx | hx | hx <;> omega
    · exact below_drewM (by go_grown)
/-- what fresh.Get tells of a right cache -/
theorem fresh_some {c : List En} {key floor : Int} {x : En} (hc : GoodL c) (hk : stK key = true) (h0 : 0 ≤ floor) (h1 : floor ≤ 1000) (hg : getE c key = some x) (hf : floor ≤ x.a) : freshGet c key floor = (x, 0) := by
  have hk' : isKeyB key = true := hk
  have hs : isSeqB floor = true := by simp [isSeqB]; omega
  have hcg : cacheGet c key = (x, 0) := by rw [cacheGet, if_neg (by simpa using hc.bad), hk', if_neg (by simp), hg]
  rw [freshGet, hs, if_neg (by simp), hcg, if_neg (by simp), if_neg (by show ¬ x.a < floor; omega)]
theorem fresh_other {c : List En} {key floor : Int} (hc : GoodL c) (hk : stK key = true) (h0 : 0 ≤ floor) (h1 : floor ≤ 1000) (hg : ∀ x, getE c key = some x → x.a < floor) : ∃ n, n ≠ 0 ∧ freshGet c key floor = (zeroEn, n) := by
  have hk' : isKeyB key = true := hk
  have hs : isSeqB floor = true := by simp [isSeqB]; omega
  cases hq : getE c key with
  | none =>
    have hcg : cacheGet c key = (zeroEn, 5) := by rw [cacheGet, if_neg (by simpa using hc.bad), hk', if_neg (by simp), hq]
    exact ⟨5, by omega, by rw [freshGet, hs, if_neg (by simp), hcg, if_pos (by simp)]⟩
  | some x =>
    have hcg : cacheGet c key = (x, 0) := by rw [cacheGet, if_neg (by simpa using hc.bad), hk', if_neg (by simp), hq]
    exact ⟨8, by omega, by rw [freshGet, hs, if_neg (by simp), hcg, if_neg (by simp), if_pos (hg x hq)]⟩
theorem freshGet_o {l : List En} {key fl x0 x1 x2 n : Int} {x3 : Bool} {x4 : ByteArray} (h : freshGet l key fl = (⟨x0, x1, x2, x3, x4⟩, n)) (v : Value) (w : World) (hr : RowIs w v l) :
    Calls Tryz.prog 52 #[v, .int .i64 key, .int .i64 fl] w fun e w' => e = .returned (.tuple #[.agg #[.int .i64 x0, .int .i64 x1, .int .i64 x2, .bool x3, .string x4], eV n]) ∧ Below w.heap.size w w' := by
  have c := freshGet_c v l key fl w hr
  rw [h] at c
  exact c
end Go.Proofs.YtpcnfoaoajfhlaaGreatDoor
