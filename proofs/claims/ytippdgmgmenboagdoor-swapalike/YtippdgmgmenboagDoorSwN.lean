/-
  The walk of merelaw4.SwapNone.
-/
import Derived.Test.YtippdgmgmenboagDoorSwK
import Derived.Test.YtippdgmgmenboagDoorCaS
namespace Go.Proofs.YtippdgmgmenboagDoor
set_option linter.unusedVariables false
set_option linter.unusedSimpArgs false
open Go.RowKit

theorem OwnI.row {B : Nat} {w : World} {v : Value} {l : List Int} (h : OwnI B w v l) : ∃ p cap, v = .slice p l.length cap := by
  obtain ⟨_, p, cap, hv, _⟩ := h.ints
  exact ⟨p, cap, hv⟩
theorem RowIs.slice {w : World} {v : Value} {l : List En} (h : RowIs w v l) : ∃ p cap, v = .slice p l.length cap := by
  obtain ⟨_, p, cap, hv, _⟩ := h
  exact ⟨p, cap, hv⟩
theorem sameS_true {a : List En} (va vb : Value) (w : World) (hra : RowIs w va a) (hrb : RowIs w vb a) :
    Calls Tryd.prog 13 #[va, vb] w fun e w' => e = .returned (.bool true) ∧ Below w.heap.size w w' := by
  have c := same_c va vb a a w hra hrb
  rw [sameL_iff.2 rfl] at c
  exact c
set_option maxHeartbeats 4000000 in
set_option maxRecDepth 100000 in
theorem swapNone_w (v : Value) (l : List En) (w : World) (hr : RowIs w v l) (hT : Lib.TabIs Tryd.prog w powName .u64 Lib.pow10Tab) :
    Calls Tryd.prog 5 #[v] w fun e w' => e = .returned (.bool true) ∧ Below w.heap.size w w' := by
  have HT : Hid (Lib.TabBelow Tryd.prog w.heap.size w powName .u64 Lib.pow10Tab) := Lib.tabBelow_of_tabIs hT
  have HR : Hid (RowIs w v l) := hr
  by_cases h0 : badL l = 0
  · have H0 : Hid (badL l = 0) := h0
    have HC1 : Hid _ := pair_ok (pair_none h0) v (.slice none 0 0) w hr (RowIs.nil _) hT
    have HK0 : Hid (badK (lackK l []) = 0) := lackK_right _ _
    have HLn : Hid ((lackK l []).length = (someE l (lackK l [])).length) := none_len h0
    have HC2 : Hid (∀ w', Below w.heap.size w w' → Calls Tryd.prog 8 #[v, .slice none 0 0] w' fun e w'' => ∃ v', e = .returned (.tuple #[v', .nilIface]) ∧ OwnI w'.heap.size w'' v' (lackK l []) ∧ Below w'.heap.size w' w'') := fun w' hb => lacks_ok v _ l [] w' (HR.out.below hb) (RowIs.nil _) h0 rfl (HT.out w' hb)
    generalize lackK l [] = K at HC1 HK0 HLn HC2
    have HC3 : Hid (∀ w' vk, Below w.heap.size w w' → OwnI w.heap.size w' vk K → Calls Tryd.prog 18 #[v, vk] w' fun e w'' => ∃ v', e = .returned (.tuple #[v', .nilIface]) ∧ RowIs w'' v' (someE l K) ∧ Below w'.heap.size w' w'') := fun w' vk hb ho => give_ok v vk l K w' (HR.out.below hb) ho.ints ho.cap H0.out HK0.out
    generalize someE l K = G at HC1 HLn HC3
    obtain ⟨m, HM⟩ : ∃ m, Hid (K.length = m) := ⟨_, rfl⟩
    obtain ⟨g, HGl⟩ : ∃ g, Hid (G.length = g) := ⟨_, rfl⟩
    have hmg : ((m : Int) == (g : Int)) = true := by
      have := HLn.out
      rw [HM.out, HGl.out] at this
      simp [this]
    clear hr hT h0 HLn
    go_enter Tryd.func5, Tryd.ntmps5
    go_wp2_with fail
    refine Calls.mono HC1.out ?_
    rintro e w1 ⟨vx, vy, rfl, hx, hy, hb⟩
    have B1 : Hid (Below w.heap.size w w1) := hb
    have X1 : Hid (RowIs w1 vx l) := hx
    have Y1 : Hid (RowIs w1 vy G) := hy
    clear hb hx hy HC1
    go_wp2_with fail
    refine (HC2.out _ B1.out).mono ?_
    rintro e w2 ⟨vk, rfl, ho, hb⟩
    have B2 : Hid (Below w.heap.size w w2) := B1.out.trans (hb.mono B1.out.size)
    have K2 : Hid (OwnI w.heap.size w2 vk K) := ho.base B1.out.size
    have X2 : Hid (RowIs w2 vx l) := X1.out.below hb
    have Y2 : Hid (RowIs w2 vy G) := Y1.out.below hb
    obtain ⟨pk, ck, hvk⟩ := ho.row
    rw [HM.out] at hvk
    clear hb ho B1 X1 Y1
    subst hvk
    go_wp2_with fail
    refine (HC3.out _ _ B2.out K2.out).mono ?_
    rintro e w3 ⟨vg, rfl, hr, hb⟩
    have B3 : Hid (Below w.heap.size w w3) := B2.out.trans (hb.mono B2.out.size)
    have X3 : Hid (RowIs w3 vx l) := X2.out.below hb
    have Y3 : Hid (RowIs w3 vy G) := Y2.out.below hb
    have G3 : Hid (RowIs w3 vg G) := hr
    obtain ⟨pg, cg, hvg⟩ := hr.slice
    rw [HGl.out] at hvg
    clear hb hr B2 X2 Y2 K2
    subst hvg
    go_wp2_with fail
    refine (sameS_true vx v _ X3.out (HR.out.below B3.out)).mono ?_
    rintro e w4 ⟨rfl, hb⟩
    have B4 : Hid (Below w.heap.size w w4) := B3.out.trans (hb.mono B3.out.size)
    have Y4 : Hid (RowIs w4 vy G) := Y3.out.below hb
    have G4 := (show Hid (RowIs w4 _ G) from G3.out.below hb)
    clear hb B3 X3 Y3 G3
    go_wp2_with fail
    refine (sameS_true vy _ _ Y4.out G4.out).mono ?_
    rintro e w5 ⟨rfl, hb⟩
    have B5 : Hid (Below w.heap.size w w5) := B4.out.trans (hb.mono B4.out.size)
    clear hb B4 Y4 G4
    go_wp2_with fail
    go_ret
    exact ⟨rfl, B5.out⟩
  · obtain ⟨n, HN⟩ : ∃ n, Hid (badL l = n) := ⟨_, rfl⟩
    have hn : n ≠ 0 := by rw [← HN.out]; exact h0
    have HC1 : Hid _ := pair_err (pairW_bad (a := l) (b := []) (n := n) (by rw [bad2, if_neg h0]; exact HN.out) hn) hn v (.slice none 0 0) w hr (RowIs.nil _) hT
    clear hr hT h0
    go_enter Tryd.func5, Tryd.ntmps5
    go_wp2_with fail
    refine Calls.mono HC1.out ?_
    rintro e w1 ⟨vx, vy, rfl, hb⟩
    have B1 : Hid (Below w.heap.size w w1) := hb
    clear hb HC1
    go_wp2_with fail
    refine (cacheCheck_err (HR.out.below B1.out) HN.out hn).mono ?_
    rintro e w2 ⟨rfl, hb⟩
    have B2 : Hid (Below w.heap.size w w2) := B1.out.trans (hb.mono B1.out.size)
    clear hb B1
    go_wp2_with fail
    go_ret
    exact ⟨rfl, B2.out⟩
end Go.Proofs.YtippdgmgmenboagDoor
