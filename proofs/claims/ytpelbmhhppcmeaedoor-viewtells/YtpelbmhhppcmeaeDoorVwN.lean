/-
  Package view by its contracts: Answer; meresame.Members at the same members.
-/
import Derived.Test.YtpelbmhhppcmeaeDoorVwT
namespace Go.Proofs.YtpelbmhhppcmeaeDoor
set_option linter.unusedVariables false
set_option linter.unusedSimpArgs false
open Go.RowKit

/-- what Answer answers -/
def ansV (l : List Mm) (node : Int) : List Mm × Int := if badAns l node ≠ 0 then ([], badAns l node) else (ansM l node, 0)
theorem badAns_view {l : List Mm} {node : Int} (h : badV l ≠ 0) : badAns l node = badV l := by unfold badAns; rw [if_pos h]
theorem badAns_node {l : List Mm} {node : Int} (h : badV l = 0) (hn : inR node 0 5 = false) : badAns l node = 1 := by unfold badAns; rw [if_neg (by simpa using h), if_pos hn]
theorem badAns_none {l : List Mm} {node : Int} (h : badV l = 0) (hn : inR node 0 5 = true) (hg : getM l node = none) : badAns l node = 5 := by unfold badAns; rw [if_neg (by simpa using h), if_neg (by rw [hn]; simp), hg]
theorem badAns_some {l : List Mm} {node : Int} {y : Mm} (h : badV l = 0) (hn : inR node 0 5 = true) (hg : getM l node = some y) : badAns l node = if y.s ≠ 0 ∧ y.f = 100 then 4 else 0 := by unfold badAns; rw [if_neg (by simpa using h), if_neg (by rw [hn]; simp), hg]
theorem ansV_err {l : List Mm} {node E : Int} (h : badAns l node = E) (hE : E ≠ 0) : ansV l node = ([], E) := by
  subst h
  unfold ansV
  rw [if_pos hE]
theorem ansV_ok {l : List Mm} {node : Int} (h : badAns l node = 0) : ansV l node = (ansM l node, 0) := by
  unfold ansV
  rw [if_neg (by simpa using h)]
set_option maxHeartbeats 4000000 in
theorem answer_c (v : Value) (l : List Mm) (node : Int) (w : World) (hr : MmsIs w v l) :
    Calls Tryd.prog 33 #[v, .int .i64 node] w fun e w' => ∃ v', e = .returned (.tuple #[v', eV (ansV l node).2]) ∧ OwnM w.heap.size w' v' (ansV l node).1 ∧ Below w.heap.size w w' := by
  have HR : Hid (MmsIs w v l) := hr
  clear hr
  by_cases hn : badV l = 0
  · have HN : Hid (badV l = 0) := hn
    have HG : Hid (GoodV l) := badV_good hn
    clear hn
    cases hm : inR node 0 5
    · have HM : Hid (inR node 0 5 = false) := hm
      have HC : Hid (ansV l node = ([], 1)) := ansV_err (badAns_node HN.out hm) (by omega)
      clear hm
      rw [HC.out]
      go_enter Tryd.func33, Tryd.ntmps33
      go_wp2_with fail
      refine (vcheck_ok HR.out HN.out).mono ?_
      rintro e w1 ⟨rfl, hb⟩
      have B1 : Hid (Below w.heap.size w w1) := hb
      clear hb
      go_wp2_with (go_at_call 56; refine (withinV_b _ _ _ false _ HM.out).mono ?_; rintro e w' ⟨rfl, rfl⟩)
      go_ret2
      exact ⟨.slice none 0 0, rfl, OwnM.nil _ _, B1.out⟩
    · have HM : Hid (inR node 0 5 = true) := hm
      clear hm
      cases hg : getM l node with
      | none =>
        have HC : Hid (ansV l node = ([], 5)) := ansV_err (badAns_none HN.out HM.out hg) (by omega)
        have HGt : Hid (getM l node = none) := hg
        clear hg
        rw [HC.out]
        go_enter Tryd.func33, Tryd.ntmps33
        go_wp2_with fail
        refine (vcheck_ok HR.out HN.out).mono ?_
        rintro e w1 ⟨rfl, hb⟩
        have B1 : Hid (Below w.heap.size w w1) := hb
        clear hb
        go_wp2_with (go_at_call 56; refine (withinV_b _ _ _ true _ HM.out).mono ?_; rintro e w' ⟨rfl, rfl⟩)
        refine (place_c v l node _ (HR.out.below B1.out) HG.out).mono ?_
        rintro e w2 ⟨rfl, hb⟩
        rw [HGt.out]
        have B2 : Hid (Below w.heap.size w w2) := B1.out.trans (hb.mono B1.out.size)
        clear hb
        go_wp2_with fail
        go_ret2
        exact ⟨.slice none 0 0, rfl, OwnM.nil _ _, B2.out⟩
      | some x =>
        have HGt : Hid (getM l node = some x) := hg
        have HBa : Hid (badAns l node = if x.s ≠ 0 ∧ x.f = 100 then 4 else 0) := badAns_some HN.out HM.out hg
        obtain ⟨hj, hx, hxn⟩ := getM_some HG.out.1 hg
        have HUp : Hid (x.s ≠ 0 → ansM l node = l.set (placeM l node) ⟨node, x.f + 1, 0⟩) := fun h => by
          rw [ansM_set HG.out.1 hg, upM_up h, hxn]
        have HSm : Hid (x.s = 0 → ansM l node = l) := fun h => ansM_self HG.out.1 hg h
        have hxo := (Mm.ok_iff x).1 (HG.out.2 x (getM_mem hg).1)
        clear hg hxn
        have HX : Hid (∃ hj : placeM l node < l.length, l[placeM l node] = x) := ⟨hj, hx⟩
        obtain ⟨m, HMp⟩ : ∃ m, Hid (placeM l node = m) := ⟨_, rfl⟩
        clear hx
        simp only [HMp.out] at hj HUp HX
        obtain ⟨x0, x1, x2⟩ := x
        dsimp only at HBa HUp HSm hxo
        have hf0 : 0 ≤ x1 := hxo.2.1.1
        have hf1 : x1 ≤ 100 := hxo.2.1.2
        clear hxo
        obtain ⟨R, HRs⟩ : ∃ R, Hid (ansV l node = R) := ⟨_, rfl⟩
        rw [HRs.out]
        go_enter Tryd.func33, Tryd.ntmps33
        go_wp2_with fail
        refine (vcheck_ok HR.out HN.out).mono ?_
        rintro e w1 ⟨rfl, hb⟩
        have B1 : Hid (Below w.heap.size w w1) := hb
        clear hb
        go_wp2_with (go_at_call 56; refine (withinV_b _ _ _ true _ HM.out).mono ?_; rintro e w' ⟨rfl, rfl⟩)
        refine (place_c v l node _ (HR.out.below B1.out) HG.out).mono ?_
        rintro e w2 ⟨rfl, hb⟩
        rw [HGt.out, HMp.out]
        have B2 : Hid (Below w.heap.size w w2) := B1.out.trans (hb.mono B1.out.size)
        clear hb
        go_wp2_with fail
        refine (clone_c v l _ (HR.out.below B2.out) (by have := good_len HG.out; omega)).mono ?_
        rintro e w3 ⟨v3, rfl, ho, hb⟩
        have B3 : Hid (Below w.heap.size w w3) := B2.out.trans (hb.mono B2.out.size)
        have HO3 : Hid (OwnM w.heap.size w3 v3 l) := ownsRow_base ho B2.out.size
        clear hb ho
        obtain ⟨hj', hx'⟩ := HX.out
        obtain ⟨G, cap, rfl, hBG, hGw, hat, fz⟩ := own_at HO3.out hj hx'
        clear hx'
        obtain ⟨N, HNl⟩ : ∃ N, Hid (l.length = N) := ⟨_, rfl⟩
        have HSet : Hid (∀ (W : World) (J : Mm), W.heap = (w3.setCells G (m * 3) J.cells).heap → OwnM w.heap.size W (.slice (some ⟨G, 0, none⟩) N cap) (l.set m J)) := fun W J hW => by
          rw [← HNl.out]
          exact ownsRow_set HO3.out hj hW
        have HOl : Hid (OwnM w.heap.size w3 (.slice (some ⟨G, 0, none⟩) N cap) l) := by
          rw [← HNl.out]
          exact HO3.out
        rw [HNl.out]
        rw [HNl.out] at hj
        obtain ⟨c0, c1, c2⟩ := hat
        dsimp only at c0 c1 c2
        have hm1 : (m : Int) < (N : Int) := by omega
        clear HO3
        by_cases hs : x2 = 0
        · have HRe : Hid (R = (l, 0)) := by
            show R = _
            rw [← HRs.out, ansV_ok (by rw [HBa.out, if_neg (by rintro ⟨h, _⟩; exact h hs)]), HSm.out hs]
          subst hs
          go_wp2_with fail
          go_ret2
          refine ⟨.slice (some ⟨G, 0, none⟩) N cap, ?_, ?_, B3.out⟩
          · rw [HRe.out]
            rfl
          · rw [HRe.out]
            exact HOl.out
        · have hsb : (x2 == 0) = false := by simpa using hs
          by_cases hf : x1 = 100
          · have HRe : Hid (R = ([], 4)) := by
              show R = _
              rw [← HRs.out, ansV_err (by rw [HBa.out, if_pos ⟨hs, hf⟩]) (by omega)]
            subst hf
            go_wp2_with fail
            go_ret2
            refine ⟨.slice none 0 0, ?_, ?_, B3.out⟩
            · rw [HRe.out]
              rfl
            · rw [HRe.out]
              exact OwnM.nil _ _
          · have HRe : Hid (R = (l.set m ⟨node, x1 + 1, 0⟩, 0)) := by
              show R = _
              rw [← HRs.out, ansV_ok (by rw [HBa.out, if_neg (by rintro ⟨_, h⟩; exact hf h)]), HUp.out hs]
            have hfb : (x1 == 100) = false := by simpa using hf
            have hwr : IntKind.i64.wrap (x1 + 1) = x1 + 1 := by rw [IntKind.wrap_i64]; omega
            go_wp2_with fail
            go_ret2
            refine ⟨.slice (some ⟨G, 0, none⟩) N cap, ?_, ?_, ?_⟩
            · rw [HRe.out]
              rfl
            · rw [HRe.out]
              exact HSet.out _ ⟨node, x1 + 1, 0⟩ rfl
            · exact ((B3.out.setCell hBG _).setCell hBG _).setCell hBG _
  · obtain ⟨n, HN⟩ : ∃ n, Hid (badV l = n) := ⟨_, rfl⟩
    have HC : Hid (ansV l node = ([], n)) := by
      show _ = _
      rw [ansV_err (badAns_view hn) hn, HN.out]
    rw [HN.out] at hn
    rw [HC.out]
    go_enter Tryd.func33, Tryd.ntmps33
    go_wp2_with fail
    refine (vcheck_err HR.out HN.out hn).mono ?_
    rintro e w1 ⟨rfl, hb⟩
    have B1 : Hid (Below w.heap.size w w1) := hb
    clear hb
    go_wp2_with fail
    go_ret2
    refine ⟨.slice none 0 0, ?_, OwnM.nil _ _, B1.out⟩
    show _ = Ending.returned (.tuple #[.slice none 0 0, eV n])
    rw [eV_err hn]
    rfl
theorem answer_o {l R1 : List Mm} {node R2 : Int} (h : ansV l node = (R1, R2)) (v : Value) (w : World) (hr : MmsIs w v l) :
    Calls Tryd.prog 33 #[v, .int .i64 node] w fun e w' => ∃ v', e = .returned (.tuple #[v', eV R2]) ∧ OwnM w.heap.size w' v' R1 ∧ Below w.heap.size w w' := by
  have c := answer_c v l node w hr
  rw [h] at c
  exact c
set_option maxHeartbeats 4000000 in
theorem sameMm_c (va vb : Value) (l : List Mm) (w : World) (hra : MmsIs w va l) (hrb : MmsIs w vb l) :
    Calls Tryd.prog 31 #[va, vb] w fun e w' => e = .returned (.bool true) ∧ Below w.heap.size w w' := by
  obtain ⟨hla, pa, capa, rfl, hrowa⟩ := hra
  obtain ⟨hlb, pb, capb, rfl, hrowb⟩ := hrb
  have HRA : Hid (l ≠ [] → ∃ bb o, pa = some ⟨bb, o, none⟩ ∧ bb < w.heap.size ∧ ∀ j (h : j < l.length), MmAt w bb (o + j * 3) l[j]) := hrowa
  have HRB : Hid (l ≠ [] → ∃ bb o, pb = some ⟨bb, o, none⟩ ∧ bb < w.heap.size ∧ ∀ j (h : j < l.length), MmAt w bb (o + j * 3) l[j]) := hrowb
  clear hrowa hrowb
  obtain ⟨n, HN⟩ : ∃ n, Hid (l.length = n) := ⟨_, rfl⟩
  rw [HN.out] at hla hlb ⊢
  have hn63 : n ≤ 9223372036854775807 := hla
  have hgd := eqGuard_mm
  go_enter Tryd.func31, Tryd.ntmps31
  go_wp2_with fail
  go_loopw [5] (fun i wr => ∃ j : Nat, j ≤ n ∧ i = .int .i64 j ∧ Hid (Below w.heap.size w wr)) (fun i _ => n - (intOf i).toNat)
  case atStart => exact ⟨0, Nat.zero_le _, rfl, Below.refl _ _⟩
  case round =>
    obtain ⟨j, hj, rfl, HB⟩ := hrel
    by_cases hlt : j < n
    · have hjl : j < l.length := by rw [HN.out]; exact hlt
      obtain ⟨ba, oa, rfl, hbwa, hata⟩ := HRA.out (fun h => by simp [h] at hjl)
      obtain ⟨bb, ob, rfl, hbwb, hatb⟩ := HRB.out (fun h => by simp [h] at hjl)
      have HAa : Hid (MmAt wr ba (oa + j * 3) l[j]) := (hata j hjl).of_block (HB.out.block ba hbwa)
      have HAb : Hid (MmAt wr bb (ob + j * 3) l[j]) := (hatb j hjl).of_block (HB.out.block bb hbwb)
      clear hata hatb
      obtain ⟨x, HX⟩ : ∃ x, Hid (l[j] = x) := ⟨l[j], show l[j] = l[j] from rfl⟩
      rw [HX.out] at HAa HAb
      obtain ⟨x0, x1, x2⟩ := x
      have hq := neq_mm x0 x1 x2 x0 x1 x2 true (by simp [Mm.same])
      obtain ⟨c0, c1, c2⟩ := HAa.out
      obtain ⟨d0, d1, d2⟩ := HAb.out
      dsimp only at c0 c1 c2 d0 d1 d2
      have hlti : (j : Int) < (n : Int) := by omega
      go_upto_region 6 with fail
      go_quiet (fail)
      go_wp2_with fail
      go_roundw
      case rel => exact ⟨j + 1, by omega, by go_num, HB.out.trans (below_drewN _ _ _)⟩
      case measure => simp [intOf]; omega
    · obtain rfl : j = n := by omega
      go_wp2_with fail
      go_ret
      exact ⟨rfl, HB.out⟩
end Go.Proofs.YtpelbmhhppcmeaeDoor
