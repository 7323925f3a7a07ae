/-
  The document's hints: Take, by its contract.
-/
import Derived.Test.YtkhdeaegbkenfaiDoorRhA
import Derived.Test.YtkhdeaegbkenfaiDoorHnW
import Derived.Maps.AppendAt
namespace Go.Proofs.YtkhdeaegbkenfaiDoor
set_option linter.unusedVariables false
set_option linter.unusedSimpArgs false
open Go.RowKit

set_option maxRecDepth 100000 in
set_option maxHeartbeats 16000000 in
theorem rhTake_n {S : Nat → Prop} {w : World} {b : Nat} {l t l' : List Hn} {n : Nat} {node : Int} (h : RhAt S w b l n) (hl : l.length ≤ 10) (ht : takeH node l = t) (hl' : leaveH node l = l') :
    Calls Tryd.prog 8 #[.pointer (some ⟨b, 0, none⟩), .int .i64 node] w fun e w' => ∃ u, e = .returned u ∧ HnsIs w' u t ∧ (∀ c, u.ownBlock = some c → w.heap.size ≤ c ∧ c < w'.heap.size) ∧ (∃ S', RhAt S' w' b l' n ∧ ∀ c, S' c → (S c ∨ w.heap.size ≤ c) ∧ u.ownBlock ≠ some c) ∧ Turn S w w' := by
  obtain ⟨v, h⟩ := h
  have HT : Hid (takeH node l = t) := ht
  have HL' : Hid (leaveH node l = l') := hl'
  clear ht hl'
  obtain ⟨hlen, p, cap, rfl, hrow⟩ := h.row
  have HRow : Hid (l ≠ [] → ∃ g o, p = some ⟨g, o, none⟩ ∧ g < w.heap.size ∧ ∀ j (h : j < l.length), HnAt w g (o + j * 3) l[j]) := hrow
  clear hrow
  obtain ⟨nl, HNl⟩ : ∃ k, Hid (l.length = k) := ⟨_, rfl⟩
  rw [HNl.out] at hlen hl h
  have HR : Hid (Rh S w b (.slice p nl cap) l n) := h
  have lb : b < w.heap.size := h.lt b h.s0
  clear h hlen
  go_enter Tryd.func8, Tryd.ntmps8
  go_wp2_with fail
  go_loopw [5, 6, 7] (fun c5 c6 c7 wr => ∃ (j : Nat) (v5 v6 : Value), j ≤ nl ∧ c5 = v5 ∧ c6 = v6 ∧ c7 = .int .i64 j ∧ Hid (TwoH w.heap.size wr v5 v6 (takeH node (l.take j)) (leaveH node (l.take j))) ∧ Hid (Below w.heap.size w wr)) (fun _ _ c7 _ => nl - (intOf c7).toNat)
  case atStart => exact ⟨0, _, _, Nat.zero_le _, rfl, rfl, rfl, ⟨OwnH.nil _ _, OwnH.nil _ _, fun c hc => by simp [Value.ownBlock] at hc⟩, Below.refl _ _⟩
  case round =>
    obtain ⟨j, v5, v6, hj, hs5, hs6, rfl, HTw, HB⟩ := hrel
    have hs5' := hs5.symm
    clear hs5
    subst hs5'
    have hs6' := hs6.symm
    clear hs6
    subst hs6'
    have k0 : wr.cell? ⟨b, 0, none⟩ = some (.slice p nl cap) := (World.cell?_of_block (a := ⟨b, 0, none⟩) (HB.out.block b lb)).trans HR.out.c0
    by_cases hlt : j < nl
    · have hl0 : l ≠ [] := by intro h; have := HNl.out; rw [h] at this; simp at this; omega
      obtain ⟨g, o, rfl, hgw, hat⟩ := HRow.out hl0
      have hjl : j < l.length := by rw [HNl.out]; exact hlt
      have HAt : Hid (HnAt wr g (o + j * 3) l[j]) := (hat j hjl).of_block (HB.out.block g hgw)
      clear hat hl0
      obtain ⟨y, HY⟩ : ∃ y, Hid (l[j] = y) := ⟨l[j], show l[j] = l[j] from rfl⟩
      rw [HY.out] at HAt
      obtain ⟨y0, y1, y2⟩ := y
      obtain ⟨c0, c1, c2⟩ := HAt.out
      dsimp only at c0 c1 c2
      have hlti : (j : Int) < (nl : Int) := by omega
      have hsz : w.heap.size ≤ wr.heap.size := HB.out.size
      have hm := take_more node l j hjl
      rw [HY.out] at hm
      have HM1 : Hid (takeH node (l.take (j + 1)) = takeH node (l.take j) ++ (if (y0 == node) = true then [⟨y0, y1, y2⟩] else [])) := hm.1
      have HM2 : Hid (leaveH node (l.take (j + 1)) = leaveH node (l.take j) ++ (if (y0 == node) = true then [] else [⟨y0, y1, y2⟩])) := hm.2
      clear hm
      have HLn : Hid ((takeH node (l.take j)).length ≤ 2000 ∧ (leaveH node (l.take j)).length ≤ 2000) := by
        have e1 : (takeH node (l.take j)).length ≤ (l.take j).length := List.length_filter_le _ _
        have e2 : (leaveH node (l.take j)).length ≤ (l.take j).length := List.length_filter_le _ _
        rw [List.length_take, HNl.out] at e1 e2
        exact ⟨by omega, by omega⟩
      have HB4 : Hid (Below w.heap.size w (wr.alloc (.cells #[.int .i64 y0, .int .i64 y1, .int .i64 y2] 32))) := HB.out.alloc hsz _
      have HTw4 : Hid (TwoH w.heap.size (wr.alloc (.cells #[.int .i64 y0, .int .i64 y1, .int .i64 y2] 32)) v5 v6 (takeH node (l.take j)) (leaveH node (l.take j))) := HTw.out.below (by go_grown)
      have HV4 : Hid ((wr.alloc (.cells #[.int .i64 y0, .int .i64 y1, .int .i64 y2] 32)).heap[wr.heap.size]? = some (.cells (Hn.cells ⟨y0, y1, y2⟩).toArray 32 (0, 0))) := alloc_at _ _ _ rfl
      have HS4 : Hid (w.heap.size ≤ (wr.alloc (.cells #[.int .i64 y0, .int .i64 y1, .int .i64 y2] 32)).heap.size) := by
        show _ ≤ _
        simp
        omega
      cases hs : (y0 == node)
      · rw [hs] at HM1 HM2
        have HM3 : Hid (takeH node (l.take (j + 1)) = takeH node (l.take j)) := HM1.out.trans (by simp)
        have HM4 : Hid (leaveH node (l.take (j + 1)) = leaveH node (l.take j) ++ [⟨y0, y1, y2⟩]) := HM2.out.trans (by simp)
        go_wp2_with (at_builtin; refine wp_appHat _ rfl _ _ rfl w.heap.size _ (leaveH node (l.take j)) ⟨y0, y1, y2⟩ rfl HTw4.out.b _ rfl HV4.out HLn.out.2 HS4.out ?_)
        intro va wa hown hgrow hloc
        have HTw5 : Hid (TwoH w.heap.size wa v5 va (takeH node (l.take (j + 1))) (leaveH node (l.take (j + 1)))) := by rw [HM3.out, HM4.out]; exact HTw4.out.right hown hgrow.out (by simpa using hloc.out)
        have HB5 : Hid (Below w.heap.size w wa) := below_grown HB4.out (Nat.le_refl _) hgrow.out (fun c hc => HTw4.out.b.from c hc)
        clear hown hgrow hloc
        go_wp2_with fail
        go_roundw
        case rel => exact ⟨j + 1, _, va, by omega, rfl, rfl, by go_num, HTw5, HB5⟩
        case measure => simp [intOf]; omega
      · rw [hs] at HM1 HM2
        have HM3 : Hid (takeH node (l.take (j + 1)) = takeH node (l.take j) ++ [⟨y0, y1, y2⟩]) := HM1.out.trans (by simp)
        have HM4 : Hid (leaveH node (l.take (j + 1)) = leaveH node (l.take j)) := HM2.out.trans (by simp)
        go_wp2_with (at_builtin; refine wp_appHat _ rfl _ _ rfl w.heap.size _ (takeH node (l.take j)) ⟨y0, y1, y2⟩ rfl HTw4.out.a _ rfl HV4.out HLn.out.1 HS4.out ?_)
        intro va wa hown hgrow hloc
        have HTw5 : Hid (TwoH w.heap.size wa va v6 (takeH node (l.take (j + 1))) (leaveH node (l.take (j + 1)))) := by rw [HM3.out, HM4.out]; exact HTw4.out.left hown hgrow.out (by simpa using hloc.out)
        have HB5 : Hid (Below w.heap.size w wa) := below_grown HB4.out (Nat.le_refl _) hgrow.out (fun c hc => HTw4.out.a.from c hc)
        clear hown hgrow hloc
        go_wp2_with fail
        go_roundw
        case rel => exact ⟨j + 1, va, _, by omega, rfl, rfl, by go_num, HTw5, HB5⟩
        case measure => simp [intOf]; omega
    · obtain rfl : j = nl := by omega
      have hts : l.take j = l := List.take_of_length_le (by rw [HNl.out]; exact Nat.le_refl _)
      rw [hts, HT.out, HL'.out] at HTw
      clear hts
      obtain ⟨p6, cap6, hv6⟩ : ∃ p6 cap6, v6 = .slice p6 l'.length cap6 := by
        obtain ⟨_, p6, cap6, e, _⟩ := HTw.out.b.hns
        exact ⟨p6, cap6, e⟩
      subst hv6
      have qf : ∀ k, wr.frozen? ⟨b, k, none⟩ = false := fun k => (World.frozen?_of_block (a := ⟨b, k, none⟩) (HB.out.block b lb)).trans (HR.out.fz k)
      have lbr : b < wr.heap.size := Nat.lt_of_lt_of_le lb HB.out.size
      go_wp2_with fail
      go_ret
      obtain ⟨hturn, hat⟩ := HR.out.storedS HB.out HTw.out.b.hns (fun c hc => HTw.out.b.from c hc) (fun c hc => ownsRow_lt HTw.out.b c hc)
      have hub : ∀ c, v5.ownBlock = some c → c ≠ b := fun c hc e => by
        have := HTw.out.a.from c hc
        omega
      refine ⟨v5, rfl, HTw.out.a.hns.blocks (by rw [World.size_setCell]; exact Nat.le_refl _) (fun c hc _ => Below.heap_setCell _ _ _ c (hub c hc)), fun c hc => ⟨HTw.out.a.from c hc, by rw [World.size_setCell]; exact ownsRow_lt HTw.out.a c hc⟩, ⟨_, hat, fun c hc => ?_⟩, hturn⟩
      rcases hc with hc | hc
      · exact ⟨.inl (by rw [hc]; exact HR.out.s0), fun e => hub c e hc⟩
      · exact ⟨.inr (HTw.out.b.from c hc), fun e => HTw.out.ne c e hc⟩
end Go.Proofs.YtkhdeaegbkenfaiDoor
