/-
  The document's mesh by its contracts: Learn.
  A mesh and the document's mesh side by side, apart from each other and from some blocks.
-/
import Derived.Test.YtpcnfoaoajfhlaaGreatDoorRabh
import Derived.Test.YtpcnfoaoajfhlaaGreatDoorRaak
import Derived.Test.YtpcnfoaoajfhlaaGreatDoorRabj
import Derived.Test.YtpcnfoaoajfhlaaGreatDoorRaaj
namespace Go.Proofs.YtpcnfoaoajfhlaaGreatDoor
set_option linter.unusedVariables false
set_option linter.unusedSimpArgs false
set_option linter.unusedVariables false
set_option linter.unusedSimpArgs false
open Go.RowKit

theorem RkTo.next {S S1 : Nat → Prop} {w w1 w2 : World} {m : Nat} {l : List Deed} {cs : List (List En)} (hk : Kept S w w1) (hs : ∀ x, S1 x → S x ∨ w.heap.size ≤ x) (h : RkTo S1 w1 w2 m l cs) : RkTo S w w2 m l cs := by
  obtain ⟨k2, S', h1, h2⟩ := h
  have hz := hk.size
  refine ⟨hk.trans k2 (fun x hx h' => (hs x h').resolve_right (by omega)), S', h1, fun x hx => ?_⟩
  rcases h2 x hx with h' | h'
  · exact hs x h'
  · exact .inr (by omega)
theorem RkTo.below {S : Nat → Prop} {w w1 w2 : World} {m : Nat} {l : List Deed} {cs : List (List En)} (h : RkTo S w w1 m l cs) (hb : Below w1.heap.size w1 w2) : RkTo S w w2 m l cs := by
  obtain ⟨k1, S', h1, h2⟩ := h
  exact ⟨k1.trans (Kept.of_below (F := S) hb) (fun _ _ h => h), S', h1.grown hb, h2⟩
theorem Rc.kept {S F F' : Nat → Prop} {w w' : World} {m b c : Nat} {l : List Deed} {cs : List (List En)} (h : Rc S F w m b c l cs) (hF : ∀ x, F' x → F x ∨ w.heap.size ≤ x) (hk : Kept F w w') : Kept S w w' ∧ ∀ x, (S x ∨ F' x) → S x ∨ w.heap.size ≤ x := by
  refine ⟨hk.mono (fun x hx => (h.sF x hx).1), fun x hx => ?_⟩
  rcases hx with hx | hx
  · exact .inl hx
  · rcases hF x hx with h' | h'
    · exact .inl (h.sF x h').1
    · exact .inr h'
theorem rRead_v {b : Nat} {k : Int} {l : List Deed} {G : Nat → Prop} {w : World} (h : RefIs w b l G) {x0 x1 x2 : Int} {x3 : Bool} {x4 : ByteArray} (hx : entAt l k l.length = ⟨x0, x1, x2, x3, x4⟩) :
    Calls Tryz.prog 91 #[.pointer (some ⟨b, 0, none⟩), .int .i64 k] w fun e w' => e = .returned (.agg #[.int .i64 x0, .int .i64 x1, .int .i64 x2, .bool x3, .string x4]) ∧ Below w.heap.size w w' := by
  have h1 := refRead_c b k l G w h
  rw [hx] at h1
  exact h1
theorem learnC_some {l : List Deed} {c : List En} {key : Int} (hl : Good l) (h1 : l.length ≤ 1000) (hc : GoodC l c) (hk : stK key = true) : ∃ b, putE c (wasE l key l.length) = (learnC l c key, b, 0) ∧ learnC l c key ≠ [] := by
  obtain ⟨h2, _, z, h3, _⟩ := put_was hl h1 hc (was_mk hk (Nat.le_refl _))
  refine ⟨_, Prod.ext rfl (Prod.ext rfl h2), fun h0 => ?_⟩
  have h4 : getE (learnC l c key) key = some z := h3
  rw [h0] at h4
  cases h4
set_option maxHeartbeats 1000000 in
/-- behind Learn: the row of caches has a new one, the result's box is filled -/
theorem rlearn_end {S F : Nat → Prop} {w w4 : World} {m b c P : Nat} {l : List Deed} {cs : List (List En)} {i : Nat} {v : Value} {x : List En} (h : Rc S F w m b c l cs) (hi : i < cs.length) (hb : Below w.heap.size w w4) (hP : w.heap.size ≤ P) (hv : RowIs w4 v x) (hx0 : x ≠ []) (hf : ∀ g, v.ownBlock = some g → P < g) (x0 x1 x2 x3 x4 : Value) :
    RkTo S w ((((((w4.setCell ⟨c, i, none⟩ v).setCell ⟨P, 0, none⟩ x0).setCell ⟨P, 1, none⟩ x1).setCell ⟨P, 2, none⟩ x2).setCell ⟨P, 3, none⟩ x3).setCell ⟨P, 4, none⟩ x4) m l (cs.set i x) := by
  have h4 : Rc S F w4 m b c l cs := h.blocks hb.size (fun y hy => hb.block y (h.lt y hy))
  have hown : ∀ g, v.ownBlock = some g → P < g ∧ g < w4.heap.size := fun g hg => ⟨hf g hg, hv.own_lt hx0 g hg⟩
  have h5 := h4.row i hi hv (fun _ g hg => ⟨h.out (fun hs => by have h1 := h.lt g hs; have h2 := (hown g hg).1; omega), (hown g hg).2⟩)
  have hcl := h.lt c h.sc
  have hPS : ∀ y, (S y ∨ (x ≠ [] ∧ v.ownBlock = some y)) → y ≠ P := fun y hy e => by
    rcases hy with hy | hy
    · have := h.lt y hy
      omega
    · have := (hown y hy.2).1
      omega
  have hk : Kept S w ((((((w4.setCell ⟨c, i, none⟩ v).setCell ⟨P, 0, none⟩ x0).setCell ⟨P, 1, none⟩ x1).setCell ⟨P, 2, none⟩ x2).setCell ⟨P, 3, none⟩ x3).setCell ⟨P, 4, none⟩ x4) :=
    ((((((Kept.of_below hb).setC c i (.inl h.sc) v).setC P 0 (.inr hP) x0).setC P 1 (.inr hP) x1).setC P 2 (.inr hP) x2).setC P 3 (.inr hP) x3).setC P 4 (.inr hP) x4
  refine ⟨hk, (fun y => S y ∨ (x ≠ [] ∧ v.ownBlock = some y)), ⟨F, b, c, h5.blocks (by simp only [World.size_setCell]; exact Nat.le_refl _) (fun y hy => heap_setE _ P y (hPS y hy) _ _ _ _ _)⟩, fun y hy => ?_⟩
  rcases hy with hy | hy
  · exact .inl hy
  · have := (hown y hy.2).1
    exact .inr (by omega)
set_option maxHeartbeats 4000000 in
theorem rLearn_c {S F : Nat → Prop} {w : World} {m b c : Nat} {l : List Deed} {cs : List (List En)} (h : Rc S F w m b c l cs) (hG : GoodM l cs) (i : Nat) (hi : i < cs.length) {key x0 x1 x2 : Int} {x3 : Bool} {x4 : ByteArray} (hk : stK key = true) (hx : wasE l key l.length = ⟨x0, x1, x2, x3, x4⟩) :
    Calls Tryz.prog 41 #[.pointer (some ⟨m, 0, none⟩), .int .i64 i, .int .i64 key] w fun e w' => e = .returned (.agg #[.int .i64 x0, .int .i64 x1, .int .i64 x2, .bool x3, .string x4]) ∧ RkTo S w w' m l (learnM l cs i key) := by
  have HM : Hid (Rc S F w m b c l cs) := h
  have HI : Hid (i < cs.length) := hi
  obtain ⟨v, hv, hr, hrest⟩ := h.rows i hi
  clear hrest
  have HR : Hid (RowIs w v cs[i]) := hr
  have HV : Hid (w.cell? ⟨c, i, none⟩ = some v) := hv
  have hci := hG.all cs[i] (List.getElem_mem hi)
  obtain ⟨ch, hadd, hne⟩ := learnC_some hG.good hG.len hci hk
  have HBd : Hid (bad x0 x1 x2 x3 x4 = 0) := by
    have h1 := wasE_bad hG.good hG.len hk (Nat.le_refl l.length)
    rw [hx] at h1
    exact h1
  have HGl : Hid (GoodL cs[i]) := hci.good
  rw [hx] at hadd
  have HL : Hid (learnM l cs i key = cs.set i (learnC l cs[i] key)) := by show learnM l cs i key = _; rw [learnM, cacheN_at hi, Int.toNat_natCast]; rfl
  obtain ⟨x, HX⟩ : ∃ x, Hid (learnC l cs[i] key = x) := ⟨learnC l cs[i] key, show learnC l cs[i] key = _ from rfl⟩
  rw [HX.out] at hadd HL hne
  have HNe : Hid (x ≠ []) := hne
  have HA : Hid (putE cs[i] ⟨x0, x1, x2, x3, x4⟩ = (x, ch, 0)) := hadd
  have HE : Hid (entAt l key l.length = ⟨x0, x1, x2, x3, x4⟩) := by
    injection hx with e0 e1 e2 e3 e4
    show entAt l key l.length = _
    rw [entAt, e1, e3, e4, e0, ← e2]
  have c0 := h.c0
  have hml := h.lt m h.sm
  have HS : Hid (RefIs (w.alloc (.cells #[.int .i64 0, .int .i64 0, .int .i64 0, .bool false, .string ⟨#[]⟩] 46)) b l F) := h.st.below ((Below.refl _ _).alloc (Nat.le_refl _) _)
  rw [HL.out]
  generalize cs[i] = y at HR HA HGl
  clear HX HL hadd hx hk hG hr hv h hne hci
  go_enter Tryz.func41, Tryz.ntmps41
  go_wp2_with fail
  refine (rRead_v HS.out HE.out).mono ?_
  rintro e w1 ⟨rfl, hb⟩
  have hs1 : w.heap.size < w1.heap.size := by have := hb.size; simp at this; omega
  have B1 : Hid (Below w.heap.size w (w1.alloc (.cells #[.int .i64 x0, .int .i64 x1, .int .i64 x2, .bool x3, .string x4] 46))) := (((Below.refl _ w).alloc (Nat.le_refl _) _).trans (hb.mono (by simp))).alloc (by omega) _
  have X1 : Hid (BoxAt (w1.alloc (.cells #[.int .i64 x0, .int .i64 x1, .int .i64 x2, .bool x3, .string x4] 46)) w.heap.size 0 0 0 false ⟨#[]⟩) := ((box_new w 0 0 0 false ⟨#[]⟩ _ rfl).below hb (by simp)).alloc _
  have Y1 : Hid (BoxAt (w1.alloc (.cells #[.int .i64 x0, .int .i64 x1, .int .i64 x2, .bool x3, .string x4] 46)) w1.heap.size x0 x1 x2 x3 x4) := box_new w1 x0 x1 x2 x3 x4 _ rfl
  clear hb HS HE c0
  go_upto_region 2 with fail
  obtain ⟨w2, HW2⟩ : ∃ z, z = w1.alloc (.cells #[.int .i64 x0, .int .i64 x1, .int .i64 x2, .bool x3, .string x4] 46) := ⟨_, rfl⟩
  obtain ⟨Y, HY⟩ : ∃ z, z = w1.heap.size := ⟨_, rfl⟩
  obtain ⟨P, HP⟩ : ∃ z, Hid (z = w.heap.size) := ⟨_, rfl⟩
  rw [← HW2] at B1 X1 Y1
  rw [← HY] at Y1 hs1
  rw [← HP.out] at X1 hs1
  rw [← HW2, ← HY, ← HP.out]
  clear HW2 HY
  have M2 : Hid (Rc S F w2 m b c l cs) := HM.out.blocks B1.out.size (fun z hz => B1.out.block z (HM.out.lt z hz))
  have d0 := M2.out.c1
  have d1 : w2.cell? ⟨c, i, none⟩ = some v := (World.cell?_of_block (a := ⟨c, i, none⟩) (B1.out.block c (HM.out.lt c HM.out.sc))).trans HV.out
  have R2 : Hid (RowIs w2 v y) := HR.out.below B1.out
  obtain ⟨nc, HNc⟩ : ∃ nc, Hid (cs.length = nc) := ⟨_, rfl⟩
  have hi2 : (i : Int) < (nc : Int) := by have := HNc.out; omega
  rw [HNc.out] at d0
  obtain ⟨g0, g1, g2, g3, g4, gf⟩ := Y1.out
  clear hi hml
  go_region_held3 (fun w' => w'.cell? ⟨m, 1, none⟩ = some (.slice (some ⟨c, 0, none⟩) nc nc) ∧ w'.cell? ⟨c, i, none⟩ = some v ∧ w'.cell? ⟨Y, 0, none⟩ = some (.int .i64 x0) ∧ w'.cell? ⟨Y, 1, none⟩ = some (.int .i64 x1) ∧ w'.cell? ⟨Y, 2, none⟩ = some (.int .i64 x2) ∧ w'.cell? ⟨Y, 3, none⟩ = some (.bool x3) ∧ w'.cell? ⟨Y, 4, none⟩ = some (.string x4)) (first | go_keep | (exact ⟨kept_cell HB3.out d0, kept_cell HB3.out d1, kept_cell HB3.out g0, kept_cell HB3.out g1, kept_cell HB3.out g2, kept_cell HB3.out g3, kept_cell HB3.out g4⟩)) (first | (go_at_call 92; refine (rAdd_o HA.out _ _ ?_ HGl.out HBd.out).mono ?_; exact R2.out.drew; rintro e w3 ⟨v3, rfl, ⟨hr3, hf3⟩, hb3⟩; obtain ⟨_, p3, q3, rfl, _⟩ := id hr3; have HO3 : Hid (RowIs w3 (.slice p3 x.length q3) x ∧ ∀ g, (Value.slice p3 x.length q3).ownBlock = some g → w2.heap.size ≤ g) := ⟨hr3, hf3⟩; have HB3 : Hid (Below w2.heap.size w2 w3) := below_undrew hb3; clear hr3 hf3 hb3))
  have B3 : Hid (Below w.heap.size w w3) := B1.out.trans (HB3.out.mono B1.out.size)
  have M3 : Hid (Rc S F w3 m b c l cs) := HM.out.blocks B3.out.size (fun z hz => B3.out.block z (HM.out.lt z hz))
  have X3 : Hid (BoxAt w3 P 0 0 0 false ⟨#[]⟩) := X1.out.below HB3.out X1.out.lt
  have Y3 : Hid (BoxAt w3 Y x0 x1 x2 x3 x4) := Y1.out.below HB3.out Y1.out.lt
  have hcP : ¬ c = P := by have h1 := HM.out.lt c HM.out.sc; have h2 := HP.out; omega
  have hcY : ¬ c = Y := by have h1 := HM.out.lt c HM.out.sc; have h2 := HP.out; omega
  have hEnd : Hid (RkTo S w ((((((w3.setCell ⟨c, i, none⟩ (.slice p3 x.length q3)).setCell ⟨P, 0, none⟩ (.int .i64 x0)).setCell ⟨P, 1, none⟩ (.int .i64 x1)).setCell ⟨P, 2, none⟩ (.int .i64 x2)).setCell ⟨P, 3, none⟩ (.bool x3)).setCell ⟨P, 4, none⟩ (.string x4)) m l (cs.set i x)) :=
    rlearn_end HM.out HI.out B3.out (by have := HP.out; omega) HO3.out.1 HNe.out (fun g hg => Nat.lt_of_lt_of_le X1.out.lt (HO3.out.2 g hg)) _ _ _ _ _
  have e1 := M3.out.c1
  rw [HNc.out] at e1
  have ef := M3.out.fz
  have e2 : w3.cell? ⟨c, i, none⟩ = some v := kept_cell HB3.out d1
  clear d0 d1 g0 g1 g2 g3 g4 gf B1 X1 Y1 M2 R2 HO3 HB3 M3
  go_upto_region 4 with fail
  have X5 : Hid (BoxAt (w3.setCell ⟨c, i, none⟩ (.slice p3 x.length q3)) P 0 0 0 false ⟨#[]⟩) := X3.out.of_block (Below.heap_setCell _ _ _ P (by simp; omega))
  have Y5 : Hid (BoxAt (w3.setCell ⟨c, i, none⟩ (.slice p3 x.length q3)) Y x0 x1 x2 x3 x4) := Y3.out.of_block (Below.heap_setCell _ _ _ Y (by simp; omega))
  obtain ⟨w5, HW5⟩ : ∃ z, z = w3.setCell ⟨c, i, none⟩ (.slice p3 x.length q3) := ⟨_, rfl⟩
  rw [← HW5] at hEnd X5 Y5
  rw [← HW5]
  clear HW5 e1 ef e2 X3 Y3 B3
  obtain ⟨z0, z1, z2, z3, z4, zf⟩ := (X5.out.set x0 x1 x2 x3 x4)
  obtain ⟨y0, y1, y2, y3, y4, yf⟩ := Y5.out
  obtain ⟨e0, e1, e2, e3, e4, ef⟩ := X5.out
  go_wp2_with fail
  refine bodyPost_ret (v := .agg #[.int .i64 x0, .int .i64 x1, .int .i64 x2, .bool x3, .string x4]) (by simp [results, Tryz.results41, go_sem, z0, z1, z2, z3, z4]) rfl ?_
  exact ⟨rfl, hEnd.out⟩
end Go.Proofs.YtpcnfoaoajfhlaaGreatDoor

namespace Go.Proofs.YtpcnfoaoajfhlaaGreatDoor
set_option linter.unusedVariables false
set_option linter.unusedSimpArgs false
open Go.RowKit

structure Mt (P : Nat → Prop) (N : Nat) (w0 wc : World) (m k : Nat) (l : List Deed) (cs : List (List En)) (l2 : List Deed) (cs2 : List (List En)) : Prop where
  s : ∃ S T, MeshAt S wc m l cs ∧ RkAt T wc k l2 cs2 ∧ (∀ c, S c → N ≤ c ∧ ¬ P c ∧ ¬ T c) ∧ ∀ c, T c → N ≤ c ∧ ¬ P c
  bel : Below N w0 wc
  hN : N ≤ wc.heap.size
  hP : ∀ c, P c → c < wc.heap.size
theorem RkAt.slots {T : Nat → Prop} {w : World} {k : Nat} {l : List Deed} {cs : List (List En)} (h : RkAt T w k l cs) : ∃ b c, w.cell? ⟨k, 0, none⟩ = some (.pointer (some ⟨b, 0, none⟩)) ∧ w.cell? ⟨k, 1, none⟩ = some (.slice (some ⟨c, 0, none⟩) cs.length cs.length) ∧
    (∃ a cap, w.cell? ⟨b, 0, none⟩ = some (.slice a l.length cap) ∧ l.length ≤ 1000) ∧ ∀ j (hj : j < cs.length), ∃ v, w.cell? ⟨c, j, none⟩ = some v ∧ RowIs w v cs[j] := by
  obtain ⟨F, b, c, h⟩ := h
  exact ⟨b, c, h.c0, h.c1, h.st.slice, fun j hj => by obtain ⟨v, h1, h2, _⟩ := h.rows j hj; exact ⟨v, h1, h2⟩⟩
theorem Mt.grown {P : Nat → Prop} {N : Nat} {w0 wc w' : World} {m k : Nat} {l l2 : List Deed} {cs cs2 : List (List En)} (h : Mt P N w0 wc m k l cs l2 cs2) (hb : Below wc.heap.size wc w') : Mt P N w0 w' m k l cs l2 cs2 := by
  obtain ⟨S, T, h1, h2, h3, h4⟩ := h.s
  exact ⟨⟨S, T, h1.grown hb, h2.grown hb, h3, h4⟩, h.bel.trans (hb.mono h.hN), Nat.le_trans h.hN hb.size, fun c hc => Nat.lt_of_lt_of_le (h.hP c hc) hb.size⟩
theorem Mt.less {P P' : Nat → Prop} {N : Nat} {w0 wc : World} {m k : Nat} {l l2 : List Deed} {cs cs2 : List (List En)} (h : Mt P N w0 wc m k l cs l2 cs2) (hp : ∀ c, P' c → P c) : Mt P' N w0 wc m k l cs l2 cs2 := by
  obtain ⟨S, T, h1, h2, h3, h4⟩ := h.s
  exact ⟨⟨S, T, h1, h2, fun c hc => ⟨(h3 c hc).1, fun h' => (h3 c hc).2.1 (hp c h'), (h3 c hc).2.2⟩, fun c hc => ⟨(h4 c hc).1, fun h' => (h4 c hc).2 (hp c h')⟩⟩, h.bel, h.hN, fun c hc => h.hP c (hp c hc)⟩
theorem Mt.more {P P' : Nat → Prop} {N : Nat} {w0 wc w' : World} {m k : Nat} {l l2 : List Deed} {cs cs2 : List (List En)} (h : Mt P N w0 wc m k l cs l2 cs2) (hb : Below wc.heap.size wc w') (hp : ∀ c, P' c → P c ∨ wc.heap.size ≤ c) (hl : ∀ c, P' c → c < w'.heap.size) : Mt P' N w0 w' m k l cs l2 cs2 := by
  obtain ⟨S, T, h1, h2, h3, h4⟩ := h.s
  refine ⟨⟨S, T, h1.grown hb, h2.grown hb, fun c hc => ⟨(h3 c hc).1, fun h' => ?_, (h3 c hc).2.2⟩, fun c hc => ⟨(h4 c hc).1, fun h' => ?_⟩⟩, h.bel.trans (hb.mono h.hN), Nat.le_trans h.hN hb.size, hl⟩
  · rcases hp c h' with h' | h'
    · exact (h3 c hc).2.1 h'
    · have := h1.lt c hc
      omega
  · rcases hp c h' with h' | h'
    · exact (h4 c hc).2 h'
    · have := h2.lt c hc
      omega
/-- a call of the mesh -/
theorem Mt.callM {P : Nat → Prop} {N : Nat} {w0 wc : World} {m k : Nat} {l l2 : List Deed} {cs cs2 : List (List En)} (h : Mt P N w0 wc m k l cs l2 cs2) :
    ∃ S, MeshAt S wc m l cs ∧ ∀ w' l' cs', MeshTo S wc w' m l' cs' → Mt P N w0 w' m k l' cs' l2 cs2 ∧ (∀ c, P c → w'.heap[c]? = wc.heap[c]?) ∧ wc.heap.size ≤ w'.heap.size := by
  obtain ⟨S, T, h1, h2, h3, h4⟩ := h.s
  refine ⟨S, h1, fun w' l' cs' ht => ?_⟩
  obtain ⟨ht, S', g1, g2⟩ := ht
  have hN := h.hN
  have hT : RkAt T w' k l2 cs2 := h2.blocks ht.size (fun c hc => ht.block c (h2.lt c hc) (fun h' => (h3 c h').2.2 hc))
  refine ⟨⟨⟨S', T, g1, hT, fun c hc => ?_, h4⟩, h.bel.trans (ht.below h.hN (fun c hc => (h3 c hc).1)), Nat.le_trans h.hN ht.size, fun c hc => Nat.lt_of_lt_of_le (h.hP c hc) ht.size⟩, fun c hc => ht.block c (h.hP c hc) (fun h' => (h3 c h').2.1 hc), ht.size⟩
  rcases g2 c hc with h' | h'
  · exact h3 c h'
  · refine ⟨by omega, fun hp => ?_, fun hp => ?_⟩
    · have := h.hP c hp
      omega
    · have := h2.lt c hp
      omega
/-- a call of the document's mesh -/
theorem Mt.callK {P : Nat → Prop} {N : Nat} {w0 wc : World} {m k : Nat} {l l2 : List Deed} {cs cs2 : List (List En)} (h : Mt P N w0 wc m k l cs l2 cs2) :
    ∃ T, RkAt T wc k l2 cs2 ∧ ∀ w' l' cs', RkTo T wc w' k l' cs' → Mt P N w0 w' m k l cs l' cs' ∧ (∀ c, P c → w'.heap[c]? = wc.heap[c]?) ∧ wc.heap.size ≤ w'.heap.size := by
  obtain ⟨S, T, h1, h2, h3, h4⟩ := h.s
  refine ⟨T, h2, fun w' l' cs' ht => ?_⟩
  obtain ⟨ht, T', g1, g2⟩ := ht
  have hN := h.hN
  have hS : MeshAt S w' m l cs := h1.blocks ht.size (fun c hc => ht.block c (h1.lt c hc) (fun h' => (h3 c hc).2.2 h'))
  refine ⟨⟨⟨S, T', hS, g1, fun c hc => ⟨(h3 c hc).1, (h3 c hc).2.1, fun h' => ?_⟩, fun c hc => ?_⟩, h.bel.trans (ht.below h.hN (fun c hc => (h4 c hc).1)), Nat.le_trans h.hN ht.size, fun c hc => Nat.lt_of_lt_of_le (h.hP c hc) ht.size⟩, fun c hc => ht.block c (h.hP c hc) (fun h' => (h4 c h').2 hc), ht.size⟩
  · rcases g2 c h' with h'' | h''
    · exact (h3 c hc).2.2 h''
    · have := h1.lt c hc
      omega
  · rcases g2 c hc with h' | h'
    · exact h4 c h'
    · refine ⟨by omega, fun hp => ?_⟩
      have := h.hP c hp
      omega
/-- what the law reads of the document's mesh -/
theorem Mt.slots {P : Nat → Prop} {N : Nat} {w0 wc : World} {m k : Nat} {l l2 : List Deed} {cs cs2 : List (List En)} (h : Mt P N w0 wc m k l cs l2 cs2) : ∃ b c, wc.cell? ⟨k, 0, none⟩ = some (.pointer (some ⟨b, 0, none⟩)) ∧ wc.cell? ⟨k, 1, none⟩ = some (.slice (some ⟨c, 0, none⟩) cs2.length cs2.length) ∧
    (∃ a cap, wc.cell? ⟨b, 0, none⟩ = some (.slice a l2.length cap) ∧ l2.length ≤ 1000) ∧ ∀ j (hj : j < cs2.length), ∃ v, wc.cell? ⟨c, j, none⟩ = some v ∧ RowIs wc v cs2[j] := by
  obtain ⟨S, T, h1, h2, h3, h4⟩ := h.s
  exact h2.slots
/-- a mesh, and a new one of the document's beside it -/
theorem Mt.start {N : Nat} {w0 wc w' : World} {m k : Nat} {l l2 : List Deed} {cs cs2 : List (List En)} {T : Nat → Prop} (h : Mh (fun _ => False) N w0 wc m l cs) (hb : Below wc.heap.size wc w') (hk : RkAt T w' k l2 cs2) (hT : ∀ c, T c → wc.heap.size ≤ c) : Mt (fun _ => False) N w0 w' m k l cs l2 cs2 := by
  obtain ⟨S, h1, h2⟩ := h.s
  have hN := h.hN
  refine ⟨⟨S, T, h1.grown hb, hk, fun c hc => ⟨(h2 c hc).1, id, fun h' => ?_⟩, fun c hc => ⟨?_, id⟩⟩, h.bel.trans (hb.mono h.hN), Nat.le_trans h.hN hb.size, fun c hc => hc.elim⟩
  · have := h1.lt c hc
    have := hT c h'
    omega
  · have := hT c hc
    omega
end Go.Proofs.YtpcnfoaoajfhlaaGreatDoor
