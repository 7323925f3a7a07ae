/-
  The document's mail: Out, by its contract.
-/
import Derived.Test.YthpcogpbgjkiaahDoorRmP
namespace Go.Proofs.YthpcogpbgjkiaahDoor
set_option linter.unusedVariables false
set_option linter.unusedSimpArgs false
open Go.RowKit

set_option maxRecDepth 100000 in
set_option maxHeartbeats 8000000 in
theorem rOut_c {S : Nat → Prop} {w : World} {b : Nat} {l : List Lt} {q : Nat → Nat → Bool} (i : Nat) (hi : i < l.length) (hl : l.length ≤ 40) (h : RmAt S w b l q) :
    Calls Tryd.prog 9 #[.pointer (some ⟨b, 0, none⟩), .int .i64 i] w fun e w' => e = .returned (.tuple #[]) ∧ RmTo S w w' b (l.eraseIdx i) q := by
  obtain ⟨vv, h⟩ := h
  rcases h.own.2 with ⟨rfl, h0⟩ | ⟨G, cap, cur, rfl, _, hG, hc1, hc2, hc3, hc4⟩
  · omega
  have HM : Hid (Rm S w b (.slice (some ⟨G, 0, none⟩) l.length cap) l q) := h
  have hGb : G ≠ b := fun e => h.n0 (by rw [← e]; rfl)
  have lG : G < w.heap.size := (Array.getElem?_eq_some_iff.1 hG).1
  have lb : b < w.heap.size := h.lt b h.s0
  have HD : Hid (∀ j u, (rowL l)[j]? = some u → w.cell? ⟨G, j, none⟩ = some u) := fun j u hu => by
    have := World.ownsRow.cells h.own (g := G) rfl j u hu
    simpa [Addr.add_lit] using this
  have c0 := h.c0
  obtain ⟨n, HN⟩ : ∃ n, Hid (l.length = n) := ⟨_, rfl⟩
  rw [HN.out] at hc1 c0 hi hl
  have hmax : cap ≤ 9223372036854775807 := hc2
  have hii : (i : Int) < (n : Int) := by omega
  have hic : i ≤ cap := by omega
  have hjc : i + 1 ≤ cap := by omega
  have hi1n : i + 1 ≤ n := by omega
  have hil : i ≤ n := by omega
  have htn : ((i : Int) + 1).toNat = i + 1 := by omega
  have hb5 : (0 : Int) ≤ (i : Int) + 1 := by omega
  have hi2 : (i : Int) + 1 ≤ (n : Int) := by omega
  have HT1 : Hid ((l.take i).length = i) := by show _ = _; rw [List.length_take, HN.out]; omega
  have HV1 : Hid (∀ j u, (rowL (l.take i))[j]? = some u → w.cell? ((⟨G, 0, none⟩ : Addr).add j) = some u) := fun j u hu => by
    rw [Addr.add_lit, Nat.zero_add]
    refine HD.out j u ?_
    rw [rowL_take] at hu
    have hlt := (List.getElem?_eq_some_iff.1 hu).1
    rw [List.length_take] at hlt
    rw [List.getElem?_take, if_pos (by omega)] at hu
    exact hu
  have HL1 : Hid (([] : List Lt).length + (l.take i).length ≤ 2000) := by show _ ≤ _; rw [HT1.out]; simp; omega
  obtain ⟨A, hA, hsrc⟩ : ∃ A : Addr, (if cap = i + 1 then some (⟨G, 0, none⟩ : Addr) else some ⟨G, (i + 1) * 7, none⟩) = some A ∧ Hid (∀ j u, (rowL (l.drop (i + 1)))[j]? = some u → w.cell? (A.add j) = some u) := by
    by_cases h : cap = i + 1
    · refine ⟨⟨G, 0, none⟩, by simp [h], fun t u hu => ?_⟩
      have h0 : l.drop (i + 1) = [] := List.drop_eq_nil_of_le (by rw [HN.out]; omega)
      rw [h0] at hu
      simp [rowL] at hu
    · refine ⟨⟨G, (i + 1) * 7, none⟩, by simp [h], fun t u hu => ?_⟩
      rw [Addr.add_lit]
      refine HD.out _ u ?_
      rw [rowL_drop, List.getElem?_drop] at hu
      exact hu
  have HT2 : Hid ((l.drop (i + 1)).length = n - (i + 1)) := by show _ = _; rw [List.length_drop, HN.out]
  clear hG hc3 hc4 h
  go_enter Tryd.func9, Tryd.ntmps9
  go_wp2_with (at_builtin; refine wp_appLs _ rfl _ _ rfl _ [] (l.take i) rfl (OwnL.nil _) ⟨G, 0, none⟩ i cap (by simp [Act.eval, Act.put]) HT1.out HV1.out HL1.out ?_)
  intro v1 w1 hown hgrow hloc
  have HO1 : Hid (OwnL w1 v1 (l.take i)) := hown
  have B1 : Hid (Below w.heap.size w w1) := ⟨hgrow.out.os, hgrow.out.tape, hgrow.out.output, hgrow.out.size, fun c hc => hgrow.out.block c hc (by simp [Value.ownBlock])⟩
  have HV1' : Hid (∀ c, v1.ownBlock = some c → w.heap.size ≤ c) := fun c hc => by
    rcases hloc.out with e | e
    · rw [e] at hc
      simp [Value.ownBlock] at hc
    · rw [e] at hc
      have : w.heap.size = c := by simpa using hc
      omega
  clear hown hgrow hloc
  have HV2 : Hid (∀ j u, (rowL (l.drop (i + 1)))[j]? = some u → w1.cell? (A.add j) = some u) := fun j u hu => (Turn.of_below (S := fun _ => False) B1.out).cell (hsrc.out j u hu) id
  have HL2 : Hid ((l.take i).length + (l.drop (i + 1)).length ≤ 2000) := by show _ ≤ _; rw [HT1.out, HT2.out]; omega
  have d0 := (Turn.of_below (S := fun _ => False) B1.out).cell c0 id
  have fz1 : w1.frozen? ⟨b, 0, none⟩ = false := (World.frozen?_of_block (a := ⟨b, 0, none⟩) (B1.out.block b lb)).trans (HM.out.fz 0)
  have lb1 : b < w1.heap.size := Nat.lt_of_lt_of_le lb B1.out.size
  clear c0
  go_wp2_with (at_builtin; refine wp_appLs _ rfl _ _ rfl _ (l.take i) (l.drop (i + 1)) rfl HO1.out A (n - (i + 1)) (cap - (i + 1)) (by simp [Act.eval, Act.put, hA]) HT2.out HV2.out HL2.out ?_)
  intro v2 w2 hown hgrow hloc
  have HO2 : Hid (OwnL w2 v2 (l.eraseIdx i)) := by rw [List.eraseIdx_eq_take_drop_succ]; exact hown
  have B2 : Hid (Below w.heap.size w w2) := B1.out.trans ⟨hgrow.out.os, hgrow.out.tape, hgrow.out.output, hgrow.out.size, fun c hc => hgrow.out.block c (Nat.lt_of_lt_of_le hc B1.out.size) (fun e => by have := HV1'.out c e.symm; omega)⟩
  have HV3 : Hid (∀ c, v2.ownBlock = some c → w.heap.size ≤ c) := fun c hc => by
    rcases hloc.out with e | e
    · rw [e] at hc
      exact HV1'.out c hc
    · rw [e] at hc
      have h1 : w1.heap.size = c := by simpa using hc
      have := B1.out.size
      omega
  clear hown hgrow hloc
  have e0 : w2.cell? ⟨b, 0, none⟩ = some (.slice (some ⟨G, 0, none⟩) n cap) := by have := (Turn.of_below (S := fun _ => False) B2.out).cell HM.out.c0 id; rw [HN.out] at this; exact this
  have fz2 : w2.frozen? ⟨b, 0, none⟩ = false := (World.frozen?_of_block (a := ⟨b, 0, none⟩) (B2.out.block b lb)).trans (HM.out.fz 0)
  have lb2 : b < w2.heap.size := Nat.lt_of_lt_of_le lb B2.out.size
  clear d0 fz1 lb1
  obtain ⟨p2, cap2, hv2⟩ := HO2.out.slice
  obtain ⟨n2, HN2⟩ : ∃ n, Hid ((l.eraseIdx i).length = n) := ⟨_, rfl⟩
  rw [HN2.out] at hv2
  subst hv2
  go_wp2_with fail
  refine bodyPost_end (v := .tuple #[]) (by simp [results, Tryd.results9, go_sem]) rfl ?_
  exact ⟨rfl, HM.out.other B2.out HO2.out HV3.out⟩
end Go.Proofs.YthpcogpbgjkiaahDoor
