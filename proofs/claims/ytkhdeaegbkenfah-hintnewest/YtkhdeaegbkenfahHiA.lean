/-
  Package hint by its contracts: New, All, Lost, Take.
-/
import Derived.Test.YtkhdeaegbkenfahHiA0
namespace Go.Proofs.Ytkhdeaegbkenfah
set_option linter.unusedVariables false
set_option linter.unusedSimpArgs false
open Go.RowKit

theorem hi_new (w : World) (b : Nat) (h : b = w.heap.size) : HiAt (fun c => c = b) (w.alloc (.cells #[.slice none 0 0, .int .i64 0] 54)) b [] 0 := by
  subst h
  exact ⟨.slice none 0 0, by simp, by simp, fun j => by simp, OwnH.nil _ _, by simp [Value.ownBlock], rfl, fun c hc => by simp [Value.ownBlock] at hc, fun c hc => by rw [hc]; simp⟩
/-- another row, of a later block, is stored -/
theorem Hi.stored {S : Nat → Prop} {w w1 : World} {b : Nat} {v v' : Value} {l l' : List Hn} {n : Nat} (h : Hi S w b v l n) (hb : Below w.heap.size w w1) (hr : OwnH 0 w1 v' l') (hv : ∀ c, v'.ownBlock = some c → w.heap.size ≤ c) :
    Turn S w (w1.setCell ⟨b, 0, none⟩ v') ∧ Hi (fun c => c = b ∨ v'.ownBlock = some c) (w1.setCell ⟨b, 0, none⟩ v') b v' l' n := by
  have lb := h.lt b h.s0
  have hs := hb.size
  have b1 := hb.block b lb
  have e0 : w1.cell? ⟨b, 0, none⟩ = some v := (World.cell?_of_block (a := ⟨b, 0, none⟩) b1).trans h.c0
  have e1 : w1.cell? ⟨b, 1, none⟩ = some (.int .i64 n) := (World.cell?_of_block (a := ⟨b, 1, none⟩) b1).trans h.c1
  have off : ∀ c, c ≠ b → (w1.setCell ⟨b, 0, none⟩ v').heap[c]? = w1.heap[c]? := fun c hc => Below.heap_setCell _ _ _ c hc
  refine ⟨(Turn.of_below (S := S) hb).set b 0 h.s0 _, World.cell?_setCell_same _ _ _ e0, (World.cell?_setCell_other _ _ _ _ (by simp)).trans e1, fun j => ?_, hr.blocks (fun c hc => off c (fun e => ?_)), fun e => ?_, .inl rfl, fun c hc => .inr hc, fun c hc => ?_⟩
  · rw [World.frozen?_setCell]
    exact (World.frozen?_of_block (a := ⟨b, j, none⟩) b1).trans (h.fz j)
  · have := hv c hc
    omega
  · have := hv b e
    omega
  · rw [World.size_setCell]
    rcases hc with hc | hc
    · omega
    · exact ownsRow_lt hr c hc
/-- a row that lies where it lay is stored behind a change of it, and one more was lost -/
theorem Hi.lostOne {S : Nat → Prop} {w w1 : World} {b : Nat} {v v' : Value} {l l' : List Hn} {n : Nat} (h : Hi S w b v l n) (ht : Turn (fun c => v.ownBlock = some c) w w1) (hr : OwnH 0 w1 v' l') (hv : v'.ownBlock = v.ownBlock) :
    Turn S w ((w1.setCell ⟨b, 0, none⟩ v').setCell ⟨b, 1, none⟩ (.int .i64 ((n : Int) + 1))) ∧ Hi S ((w1.setCell ⟨b, 0, none⟩ v').setCell ⟨b, 1, none⟩ (.int .i64 ((n : Int) + 1))) b v' l' (n + 1) := by
  have lb := h.lt b h.s0
  have hs := ht.size
  have b1 := ht.block b lb h.n0
  have e0 : w1.cell? ⟨b, 0, none⟩ = some v := (World.cell?_of_block (a := ⟨b, 0, none⟩) b1).trans h.c0
  have e1 : w1.cell? ⟨b, 1, none⟩ = some (.int .i64 n) := (World.cell?_of_block (a := ⟨b, 1, none⟩) b1).trans h.c1
  have off : ∀ c, c ≠ b → ((w1.setCell ⟨b, 0, none⟩ v').setCell ⟨b, 1, none⟩ (.int .i64 ((n : Int) + 1))).heap[c]? = w1.heap[c]? := fun c hc => (Below.heap_setCell _ _ _ c hc).trans (Below.heap_setCell _ _ _ c hc)
  refine ⟨((ht.mono (fun c hc => h.s2 c hc)).set b 0 h.s0 _).set b 1 h.s0 _, (World.cell?_setCell_other _ _ _ _ (by simp)).trans (World.cell?_setCell_same _ _ _ e0), World.cell?_setCell_same _ _ _ ((World.cell?_setCell_other _ _ _ _ (by simp)).trans e1), fun j => ?_, hr.blocks (fun c hc => off c (fun e => ?_)), fun e => ?_, h.s0, fun c hc => h.s2 c (hv ▸ hc), fun c hc => ?_⟩
  · rw [World.frozen?_setCell, World.frozen?_setCell]
    exact (World.frozen?_of_block (a := ⟨b, j, none⟩) b1).trans (h.fz j)
  · exact h.n0 (by rw [← hv, hc, e])
  · exact h.n0 (by rw [← hv, e])
  · rw [World.size_setCell, World.size_setCell]
    exact Nat.lt_of_lt_of_le (h.lt c hc) hs
theorem hiNew_c (w : World) : Calls Try.prog 10 #[] w fun e w' => ∃ b, e = .returned (.pointer (some ⟨b, 0, none⟩)) ∧ w.heap.size ≤ b ∧ HiAt (fun c => c = b) w' b [] 0 ∧ Below w.heap.size w w' := by
  go_enter Try.func10, Try.ntmps10
  go_wp2_with fail
  go_ret
  exact ⟨w.heap.size, rfl, Nat.le_refl _, hi_new w _ rfl, by go_grown⟩
set_option maxHeartbeats 2000000 in
theorem hiLost_c {S : Nat → Prop} {w : World} {b : Nat} {l : List Hn} {n : Nat} (h : HiAt S w b l n) :
    Calls Try.prog 13 #[.pointer (some ⟨b, 0, none⟩)] w fun e w' => e = .returned (.int .i64 n) ∧ Below w.heap.size w w' := by
  obtain ⟨v, h⟩ := h
  have lb := h.lt b h.s0
  have c1 := h.c1
  clear h
  go_enter Try.func13, Try.ntmps13
  go_wp2_with fail
  go_ret
  exact ⟨rfl, by go_grown⟩
set_option maxHeartbeats 2000000 in
theorem hiAll_c {S : Nat → Prop} {w : World} {b : Nat} {l : List Hn} {n : Nat} (h : HiAt S w b l n) (hg : GoodH l) :
    Calls Try.prog 12 #[.pointer (some ⟨b, 0, none⟩)] w fun e w' => ∃ u, e = .returned u ∧ HnsIs w' u l ∧ (∀ c, u.ownBlock = some c → w.heap.size ≤ c ∧ c < w'.heap.size) ∧ Below w.heap.size w w' := by
  obtain ⟨v, h⟩ := h
  have lb := h.lt b h.s0
  have c0 := h.c0
  have HR : Hid (HnsIs w v l) := h.own.hns
  have h10 := hg.ten
  obtain ⟨p, cap, rfl, _⟩ := HR.out.slice
  clear h hg
  go_enter Try.func12, Try.ntmps12
  go_wp2_with fail
  refine (cloneH_c _ l w HR.out h10).mono ?_
  rintro e w1 ⟨u, rfl, ho, hb⟩
  have HO : Hid (OwnH w.heap.size w1 u l) := ho
  have B1 : Hid (Below w.heap.size w w1) := hb
  clear ho hb c0
  go_wp2_with fail
  go_ret
  exact ⟨u, rfl, HO.out.hns, fun c hc => ⟨HO.out.from c hc, ownsRow_lt HO.out c hc⟩, B1.out⟩
set_option maxHeartbeats 8000000 in
set_option maxRecDepth 100000 in
theorem hiTake_c {S : Nat → Prop} {w : World} {b : Nat} {l l' t : List Hn} {n : Nat} {node m : Int} (h : HiAt S w b l n) (hg : GoodH l) (hm : (if (decide (0 ≤ node) && decide (node ≤ 5)) = true then (0 : Int) else 1) = m) (ht : (if m = 0 then takeH node l else []) = t) (hl' : (if m = 0 then leaveH node l else l) = l') :
    Calls Try.prog 14 #[.pointer (some ⟨b, 0, none⟩), .int .i64 node] w fun e w' => ∃ u, e = .returned (.tuple #[u, eV m]) ∧ HnsIs w' u t ∧ (∀ c, u.ownBlock = some c → w.heap.size ≤ c ∧ c < w'.heap.size) ∧ (∃ S', HiAt S' w' b l' n ∧ ∀ c, S' c → (S c ∨ w.heap.size ≤ c) ∧ u.ownBlock ≠ some c) ∧ Turn S w w' := by
  obtain ⟨v, h⟩ := h
  have lb := h.lt b h.s0
  have HH : Hid (Hi S w b v l n) := h
  have h10 := hg.ten
  have HR : Hid (HnsIs w v l) := h.own.hns
  obtain ⟨p, cap, rfl, _⟩ := HR.out.slice
  clear h hg
  obtain ⟨w0, HW0⟩ : ∃ w0, w0 = w.alloc (.cells #[.int .i64 node] 3) := ⟨_, rfl⟩
  have hs0 : w0.heap.size = w.heap.size + 1 := by rw [HW0]; simp
  have B0 : Hid (Below w.heap.size w w0) := by rw [HW0]; exact (Below.refl _ _).alloc (Nat.le_refl _) _
  have cn : w0.cell? ⟨w.heap.size, 0, none⟩ = some (.int .i64 node) := by rw [HW0]; simp
  have HW : Hid (w0 = w.alloc (.cells #[.int .i64 node] 3)) := HW0
  clear HW0
  cases hi : isNh node
  · have HI : Hid (isNh node = false) := hi
    have hm0 : m = 1 := by rw [← hm, if_neg (by rw [isNh] at hi; rw [hi]; simp)]
    subst hm0
    rw [if_neg (by decide)] at ht hl'
    subst ht
    subst hl'
    clear hm hi
    go_enter Try.func14, Try.ntmps14
    go_upto_region 1 with fail
    rw [← HW.out]
    go_wp2_with fail
    refine (hNode_b HI.out _).mono ?_
    rintro e w1 ⟨rfl, hb⟩
    have B1 : Hid (Below w.heap.size w w1) := B0.out.trans (hb.mono B0.out.size)
    clear hb cn
    go_wp2_with fail
    go_ret2
    refine ⟨_, rfl, HnsIs.nil _, fun c hc => by simp [Value.ownBlock] at hc, ⟨S, (HiAt.grown ⟨_, HH.out⟩ B1.out), fun c hc => ⟨.inl hc, by simp [Value.ownBlock]⟩⟩, Turn.of_below B1.out⟩
  · have HI : Hid (isNh node = true) := hi
    have hm0 : m = 0 := by rw [← hm, if_pos (by rw [isNh] at hi; rw [hi])]
    subst hm0
    rw [if_pos rfl] at ht hl'
    have HT : Hid (takeH node l = t) := ht
    have HL' : Hid (leaveH node l = l') := hl'
    clear hm hi ht hl'
    rw [eV_zero]
    go_enter Try.func14, Try.ntmps14
    go_upto_region 1 with fail
    rw [← HW.out]
    go_wp2_with fail
    refine (hNode_b HI.out _).mono ?_
    rintro e w1 ⟨rfl, hb⟩
    have B1 : Hid (Below w.heap.size w w1) := B0.out.trans (hb.mono B0.out.size)
    have CN : Hid (w1.cell? ⟨w.heap.size, 0, none⟩ = some (.int .i64 node)) := (World.cell?_of_block (a := ⟨w.heap.size, 0, none⟩) (hb.block w.heap.size (by omega))).trans cn
    have c0 : w1.cell? ⟨b, 0, none⟩ = some (.slice p l.length cap) := (World.cell?_of_block (a := ⟨b, 0, none⟩) (B1.out.block b lb)).trans HH.out.c0
    have lb1 : b < w1.heap.size := Nat.lt_of_lt_of_le lb B1.out.size
    clear hb cn
    go_wp2_with fail
    refine (splitTake_c _ node _ l w1 CN.out (HR.out.below B1.out) h10).mono ?_
    rintro e w2 ⟨u1, u2, rfl, htw, hb⟩
    rw [HT.out, HL'.out] at htw
    have B2 : Hid (Below w.heap.size w w2) := B1.out.trans (hb.mono B1.out.size)
    have HTw : Hid (TwoH w.heap.size w2 u1 u2 t l') := ⟨htw.a.base B1.out.size, htw.b.base B1.out.size, htw.ne⟩
    clear htw hb c0 CN
    obtain ⟨p2, cap2, hv2⟩ : ∃ p2 cap2, u2 = .slice p2 l'.length cap2 := by
      obtain ⟨_, p2, cap2, e, _⟩ := HTw.out.b.hns
      exact ⟨p2, cap2, e⟩
    subst hv2
    have c0 : w2.cell? ⟨b, 0, none⟩ = some (.slice p l.length cap) := (World.cell?_of_block (a := ⟨b, 0, none⟩) (B2.out.block b lb)).trans HH.out.c0
    have qf : ∀ k, w2.frozen? ⟨b, k, none⟩ = false := fun k => (World.frozen?_of_block (a := ⟨b, k, none⟩) (B2.out.block b lb)).trans (HH.out.fz k)
    have lb2 : b < w2.heap.size := Nat.lt_of_lt_of_le lb B2.out.size
    go_wp2_with fail
    go_ret2
    obtain ⟨hturn, hat⟩ := HH.out.stored B2.out (HTw.out.b.base (Nat.zero_le _)) (fun c hc => HTw.out.b.from c hc)
    have hub : ∀ c, u1.ownBlock = some c → c ≠ b := fun c hc e => by
      have := HTw.out.a.from c hc
      omega
    refine ⟨u1, rfl, HTw.out.a.hns.blocks (by rw [World.size_setCell]; exact Nat.le_refl _) (fun c hc _ => Below.heap_setCell _ _ _ c (hub c hc)), fun c hc => ⟨HTw.out.a.from c hc, by rw [World.size_setCell]; exact ownsRow_lt HTw.out.a c hc⟩, ⟨_, ⟨_, hat⟩, fun c hc => ?_⟩, hturn⟩
    rcases hc with hc | hc
    · exact ⟨.inl (by rw [hc]; exact HH.out.s0), fun e => hub c e hc⟩
    · exact ⟨.inr (HTw.out.b.from c hc), fun e => HTw.out.ne c e hc⟩
end Go.Proofs.Ytkhdeaegbkenfah
