/-
  RingLone: one node alone has all.
-/
import Derived.Test.YtlpfdmmilbdcbaeDoorRgP
import Derived.Test.YtlpfdmmilbdcbaeDoorRgK
import Derived.Test.YtlpfdmmilbdcbaeDoorErrA
namespace Go.Proofs.YtlpfdmmilbdcbaeDoor
set_option linter.unusedVariables false
set_option linter.unusedSimpArgs false
open Go.RowKit

theorem badNodes_one (n : Int) : badNodes [n] = if inR n 0 5 = true then 0 else 1 := by
  show badFrom [] [n] = _
  rw [badFrom]
  cases h : inR n 0 5
  · rw [if_pos]
    · rfl
    · simp [inR] at h
      omega
  · simp [inR] at h
    rw [if_neg (by omega), if_neg (by simp)]
    rfl
theorem badPts_one (n e : Int) : badPts [n] e = if (inR n 0 5 && inR e 1 8) = true then 0 else 1 := by
  unfold badPts
  rw [badNodes_one]
  cases inR n 0 5 <;> cases inR e 1 8 <;> rfl
theorem lone_node {m each : Nat} {x : Pt} (h : x ∈ ptsL [(m : Int)] each) : x.n = (m : Int) := by
  have := (pts_node h).1
  simpa using this
theorem own_lone {m each : Nat} {t : Int} (hne : ptsL [(m : Int)] each ≠ []) : ownP t (ptsL [(m : Int)] each) = some (m : Int) := by
  have h := firstQ_lt (t := t) hne
  rw [own_first h, lone_node (List.getElem_mem h)]
theorem owners_lone {m each : Nat} {t : Int} : (ownersL t (ptsL [(m : Int)] each)).length ≤ 1 := by
  have hnd := owners_nodup t (ptsL [(m : Int)] each)
  have hm : ∀ x ∈ ownersL t (ptsL [(m : Int)] each), x = (m : Int) := fun x hx => by
    obtain ⟨y, hy, rfl⟩ := owners_mem hx
    exact lone_node hy
  generalize ownersL t (ptsL [(m : Int)] each) = l at *
  match l, hnd, hm with
  | [], _, _ => simp
  | [x], _, _ => simp
  | x :: y :: l, hnd, hm =>
    have h1 := hm x (by simp)
    have h2 := hm y (by simp)
    rw [h1, h2] at hnd
    simp at hnd
set_option maxHeartbeats 8000000 in
theorem ringLone_w (node each key : Int) (w : World) (hT : Lib.TabIs Tryd.prog w powName .u64 Lib.pow10Tab) (hg : HasErr w) :
    Calls Tryd.prog 6 #[.int .i64 node, .int .i64 each, .int .i64 key] w fun e w' => e = .returned (.bool true) ∧ Below w.heap.size w w' := by
  have HTb : Hid (Lib.TabBelow Tryd.prog w.heap.size w powName .u64 Lib.pow10Tab) := Lib.tabBelow_of_tabIs hT
  have HG : Hid (∀ w', Below w.heap.size w w' → HasErr w') := fun w' hb => hg.below hg.lt hb
  clear hT hg
  have HB0 : Hid (Below w.heap.size w (w.alloc (.cells #[.int .i64 node] 3))) := (Below.refl _ _).alloc (Nat.le_refl _) _
  have HO : Hid (OwnI w.heap.size (w.alloc (.cells #[.int .i64 node] 3)) (.slice (some ⟨w.heap.size, 0, none⟩) 1 1) [node]) := OwnI.one (Nat.le_refl _) (alloc_at _ _ _ rfl)
  cases hb : (inR node 0 5 && inR each 1 8)
  · have HP : Hid _ := points_bad (.slice (some ⟨w.heap.size, 0, none⟩) 1 1) [node] each (w.alloc (.cells #[.int .i64 node] 3)) 1 HO.out.ints HO.out.cap (by rw [badPts_one, hb]; rfl) (by omega)
    have hout : node < 0 ∨ 5 < node ∨ each < 1 ∨ 8 < each := by
      simp [inR] at hb
      omega
    clear hb
    by_cases h1 : node < 0
    · clear hout
      go_enter Tryd.func6, Tryd.ntmps6
      go_wp2_with fail
      refine Calls.mono HP.out ?_
      rintro e w1 ⟨rfl, hb1⟩
      have B1 : Hid (Below w.heap.size w w1) := HB0.out.trans (hb1.mono HB0.out.size)
      clear hb1
      go_wp2_with fail
      go_ret
      exact ⟨rfl, B1.out⟩
    by_cases h2 : 5 < node
    · clear hout
      go_enter Tryd.func6, Tryd.ntmps6
      go_wp2_with fail
      refine Calls.mono HP.out ?_
      rintro e w1 ⟨rfl, hb1⟩
      have B1 : Hid (Below w.heap.size w w1) := HB0.out.trans (hb1.mono HB0.out.size)
      clear hb1
      go_wp2_with fail
      go_ret
      exact ⟨rfl, B1.out⟩
    by_cases h3 : each < 1
    · clear hout
      go_enter Tryd.func6, Tryd.ntmps6
      go_wp2_with fail
      refine Calls.mono HP.out ?_
      rintro e w1 ⟨rfl, hb1⟩
      have B1 : Hid (Below w.heap.size w w1) := HB0.out.trans (hb1.mono HB0.out.size)
      clear hb1
      go_wp2_with fail
      go_ret
      exact ⟨rfl, B1.out⟩
    have h4 : 8 < each := by omega
    clear hout
    go_enter Tryd.func6, Tryd.ntmps6
    go_wp2_with fail
    refine Calls.mono HP.out ?_
    rintro e w1 ⟨rfl, hb1⟩
    have B1 : Hid (Below w.heap.size w w1) := HB0.out.trans (hb1.mono HB0.out.size)
    clear hb1
    go_wp2_with fail
    go_ret
    exact ⟨rfl, B1.out⟩
  · have hin : inR node 0 5 = true ∧ inR each 1 8 = true := by simpa using hb
    obtain ⟨m, rfl, hm5⟩ : ∃ m : Nat, node = (m : Int) ∧ m ≤ 5 := by
      have := hin.1
      simp [inR] at this
      exact ⟨node.toNat, by omega, by omega⟩
    obtain ⟨k, rfl, hk1, hk8⟩ : ∃ k : Nat, each = (k : Int) ∧ 1 ≤ k ∧ k ≤ 8 := by
      have := hin.2
      simp [inR] at this
      exact ⟨each.toNat, by omega, by omega, by omega⟩
    clear hin hb
    have hbn : badNodes [(m : Int)] = 0 := by
      rw [badNodes_one, if_pos]
      simp [inR]
      omega
    have HP : Hid _ := points_ok (.slice (some ⟨w.heap.size, 0, none⟩) 1 1) [(m : Int)] k (w.alloc (.cells #[.int .i64 (m : Int)] 3)) HO.out.ints HO.out.cap hbn hk1 hk8 (HTb.out _ HB0.out)
    obtain ⟨g1, g2, g3, g4⟩ := badNodes_good hbn
    have HR : Hid (rightP (ptsL [(m : Int)] k) = true) := pts_right g1 g2 hk1 hk8 g4 g3
    have hle : (ptsL [(m : Int)] k).length ≤ k := pts_one_len m k
    have hpos : 1 ≤ (ptsL [(m : Int)] k).length := (right_len HR.out).1
    have hne : ptsL [(m : Int)] k ≠ [] := by intro h; rw [h] at hpos; simp at hpos
    have HW1 : Hid (∀ t, ownP t (ptsL [(m : Int)] k) = some (m : Int)) := fun t => own_lone hne
    have HW2 : Hid (∀ t, (ownersL t (ptsL [(m : Int)] k)).length ≤ 1) := fun t => owners_lone
    clear hbn g1 g2 g3 g4 hne
    generalize ptsL [(m : Int)] k = l at *
    cases hK : inR key 0 7
    · have HK : Hid (badFind l key = 1) := by
        show _ = _
        unfold badFind
        rw [if_neg (by rw [HR.out]; simp), if_pos hK]
      have hout : key < 0 ∨ 7 < key := by
        simp [inR] at hK
        omega
      clear hK
      by_cases h1 : key < 0
      · clear hout
        go_enter Tryd.func6, Tryd.ntmps6
        go_wp2_with fail
        refine Calls.mono HP.out ?_
        rintro e w1 ⟨u, rfl, hp1, hb1⟩
        have B1 : Hid (Below w.heap.size w w1) := HB0.out.trans (hb1.mono HB0.out.size)
        have P1 : Hid (PtsIs w1 u l) := hp1
        clear hb1 hp1
        go_wp2_with fail
        refine (owner_bad u l key _ 1 P1.out HK.out (by omega)).mono ?_
        rintro e w2 ⟨rfl, hb2⟩
        have B2 : Hid (Below w.heap.size w w2) := B1.out.trans (hb2.mono B1.out.size)
        clear hb2
        go_wp2_with fail
        go_ret
        exact ⟨rfl, B2.out⟩
      have h2 : 7 < key := by omega
      clear hout
      go_enter Tryd.func6, Tryd.ntmps6
      go_wp2_with fail
      refine Calls.mono HP.out ?_
      rintro e w1 ⟨u, rfl, hp1, hb1⟩
      have B1 : Hid (Below w.heap.size w w1) := HB0.out.trans (hb1.mono HB0.out.size)
      have P1 : Hid (PtsIs w1 u l) := hp1
      clear hb1 hp1
      go_wp2_with fail
      refine (owner_bad u l key _ 1 P1.out HK.out (by omega)).mono ?_
      rintro e w2 ⟨rfl, hb2⟩
      have B2 : Hid (Below w.heap.size w w2) := B1.out.trans (hb2.mono B1.out.size)
      clear hb2
      go_wp2_with fail
      go_ret
      exact ⟨rfl, B2.out⟩
    · obtain ⟨q, rfl, hq⟩ := key_nat hK
      clear hK
      have hlm : (1 : Int) ≤ (l.length : Int) := by omega
      have hlk : (l.length : Int) ≤ (k : Int) := by omega
      go_enter Tryd.func6, Tryd.ntmps6
      go_wp2_with fail
      refine Calls.mono HP.out ?_
      rintro e w1 ⟨u, rfl, hp1, hb1⟩
      have B1 : Hid (Below w.heap.size w w1) := HB0.out.trans (hb1.mono HB0.out.size)
      have P1 : Hid (PtsIs w1 u l) := hp1
      clear hb1 hp1
      go_wp2_with fail
      refine (owner_ok u l q _ (m : Int) P1.out HR.out hq (HW1.out _) (HTb.out _ B1.out)).mono ?_
      rintro e w2 ⟨rfl, hb2⟩
      have B2 : Hid (Below w.heap.size w w2) := B1.out.trans (hb2.mono B1.out.size)
      have P2 : Hid (PtsIs w2 u l) := P1.out.below hb2
      clear hb2 P1 B1
      go_wp2_with fail
      refine (owners_ok u l q 2 _ P2.out HR.out hq (by omega) (by omega) (HTb.out _ B2.out)).mono ?_
      rintro e w3 ⟨ha, hb3⟩
      have B3 : Hid (Below w.heap.size w w3) := B2.out.trans (hb3.mono B2.out.size)
      obtain ⟨_, pu, cu, hu, _⟩ := P2.out
      clear hb3 P2 B2
      rcases ha with ⟨h2, _⟩ | ⟨_, rfl⟩
      · have := HW2.out (keyT q)
        omega
      subst hu
      have HE : Hid (Calls Tryd.prog 8 #[.iface 56 (.int .i64 5), .int .i64 5] w3 fun e w' => e = .returned (.bool true) ∧ Below w3.heap.size w3 w') := by
        have := err_same 5 w3 (HG.out _ B3.out)
        rw [eV_err (by omega)] at this
        exact this
      go_wp2_with fail
      refine Calls.mono HE.out ?_
      rintro e w4 ⟨rfl, hb4⟩
      have B4 : Hid (Below w.heap.size w w4) := B3.out.trans (hb4.mono B3.out.size)
      clear hb4
      go_wp2_with fail
      go_ret
      exact ⟨rfl, B4.out⟩
end Go.Proofs.YtlpfdmmilbdcbaeDoor
