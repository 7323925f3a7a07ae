/-
  Package mail by its contracts: Cut.
-/
import Derived.Test.YthpcogpbgjkiaahDoorMlG
namespace Go.Proofs.YthpcogpbgjkiaahDoor
set_option linter.unusedVariables false
set_option linter.unusedSimpArgs false
open Go.RowKit

theorem checkWay_b {f d m : Int} (h : endsE f d = m) (w : World) : Calls Tryd.prog 25 #[.agg #[.int .i64 f, .int .i64 d]] w fun e w' => e = .returned (eV m) ∧ Below w.heap.size w w' := by
  subst h
  exact checkWay_c f d w
theorem checkWay_ok {f d : Int} (h : endsE f d = 0) (w : World) : Calls Tryd.prog 25 #[.agg #[.int .i64 f, .int .i64 d]] w fun e w' => e = .returned .nilIface ∧ Below w.heap.size w w' := by
  have c := checkWay_b h w
  rw [eV, if_pos rfl] at c
  exact c
theorem checkWay_err {f d m : Int} (h : endsE f d = m) (hm : m ≠ 0) (w : World) : Calls Tryd.prog 25 #[.agg #[.int .i64 f, .int .i64 d]] w fun e w' => e = .returned (.iface 66 (.int .i64 m)) ∧ Below w.heap.size w w' := by
  have c := checkWay_b h w
  rw [eV, if_neg hm] at c
  exact c
theorem mlCut_bad {f d m : Int} (h : endsE f d = m) (hm : m ≠ 0) (b : Nat) (c : Bool) (w : World) :
    Calls Tryd.prog 14 #[.pointer (some ⟨b, 0, none⟩), .int .i64 f, .int .i64 d, .bool c] w fun e w' => e = .returned (.iface 66 (.int .i64 m)) ∧ Below w.heap.size w w' := by
  have H : Hid (endsE f d = m) := h
  clear h
  go_enter Tryd.func14, Tryd.ntmps14
  go_wp2_with fail
  refine (checkWay_err H.out hm _).mono ?_
  rintro e w1 ⟨rfl, hb⟩
  have B1 : Hid (Below w.heap.size w w1) := Below.trans (by go_grown) (hb.mono (by simp))
  clear hb
  go_wp2_with fail
  go_ret
  exact ⟨rfl, B1.out⟩
theorem Ml.recut {S : Nat → Prop} {w w2 : World} {b bm : Nat} {v : Value} {l : List Lt} {q q' : Nat → Nat → Bool} (h : Ml S w b bm v l q) (hg : w.drew.grownBy w2 (some bm)) (hc : CutAt w2 bm q') : MlTo S w w2 b l q' := by
  have hs : w.heap.size ≤ w2.heap.size := hg.size
  have hb : ∀ c, c < w.heap.size → c ≠ bm → w2.heap[c]? = w.heap[c]? := fun c hc hcb => hg.block c hc (fun e => hcb (by simpa using e))
  have lb := h.lt b h.s0
  have hbb := hb b lb (fun e => h.n2 e.symm)
  refine ⟨⟨hg.os, hg.tape, hg.output, hs, fun c hc hn => hb c hc (fun e => hn (by rw [e]; exact h.s1))⟩, S, ⟨bm, v, ?_⟩, fun c hc => .inl hc⟩
  exact ⟨(World.cell?_of_block (a := ⟨b, 0, none⟩) hbb).trans h.c0, (World.cell?_of_block (a := ⟨b, 1, none⟩) hbb).trans h.c1, fun j => (World.frozen?_of_block (a := ⟨b, j, none⟩) hbb).trans (h.fz j), h.own.blocks (fun c hc => hb c (h.own.lt c hc) (fun e => h.n1 (by rw [← e]; exact hc))), hc, h.n0, h.n1, h.n2, h.s0, h.s1, h.s2, fun c hc => Nat.lt_of_lt_of_le (h.lt c hc) hs⟩
set_option maxHeartbeats 4000000 in
theorem mlCut_on {S : Nat → Prop} {w : World} {b : Nat} {l : List Lt} {q : Nat → Nat → Bool} (h : MlAt S w b l q) (f d : Nat) (hf : f < 6) (hd : d < 6) (he : endsE f d = 0) :
    Calls Tryd.prog 14 #[.pointer (some ⟨b, 0, none⟩), .int .i64 f, .int .i64 d, .bool true] w fun e w' => e = .returned .nilIface ∧ MlTo S w w' b l (fun a c => if a = f ∧ c = d then true else q a c) := by
  obtain ⟨bm, v, h⟩ := h
  have HM : Hid (Ml S w b bm v l q) := h
  have HE : Hid (endsE f d = 0) := he
  have lb : b < w.heap.size := h.lt b h.s0
  clear h he
  go_enter Tryd.func14, Tryd.ntmps14
  go_wp2_with fail
  refine (checkWay_ok HE.out _).mono ?_
  rintro e w1 ⟨rfl, hb⟩
  have B1 : Hid (Below w.heap.size w w1) := Below.trans (by go_grown) (hb.mono (by simp))
  have y0 : w1.cell? ⟨w.heap.size, 0, none⟩ = some (.int .i64 f) := (Turn.of_below (S := fun _ => False) hb).cell (by simp) id
  have y1 : w1.cell? ⟨w.heap.size, 1, none⟩ = some (.int .i64 d) := (Turn.of_below (S := fun _ => False) hb).cell (by simp) id
  clear hb
  have M1 : Hid (Ml S w1 b bm v l q) := HM.out.blocks B1.out.size (fun c hc => B1.out.block c (HM.out.lt c hc))
  have c1 := M1.out.c1
  have lb1 : b < w1.heap.size := Nat.lt_of_lt_of_le lb B1.out.size
  obtain ⟨w2, hst, hc2, hg2⟩ := (M1.out.cut.of_block (w' := w1.drew) rfl).store f d hf hd
  have C2 : Hid (CutAt w2 bm (fun a c => if a = f ∧ c = d then true else q a c)) := hc2
  have G2 : Hid (w1.drew.grownBy w2 (some bm)) := hg2
  clear hc2 hg2
  go_wp2_with fail
  go_region
  all_goals go_wp2
  all_goals go_ret
  all_goals exact ⟨rfl, MlTo.after B1.out (M1.out.recut G2.out C2.out)⟩
set_option maxHeartbeats 4000000 in
theorem mlCut_off {S : Nat → Prop} {w : World} {b : Nat} {l : List Lt} {q : Nat → Nat → Bool} (h : MlAt S w b l q) (f d : Nat) (hf : f < 6) (hd : d < 6) (he : endsE f d = 0) :
    Calls Tryd.prog 14 #[.pointer (some ⟨b, 0, none⟩), .int .i64 f, .int .i64 d, .bool false] w fun e w' => e = .returned .nilIface ∧ MlTo S w w' b l (fun a c => if a = f ∧ c = d then false else q a c) := by
  obtain ⟨bm, v, h⟩ := h
  have HM : Hid (Ml S w b bm v l q) := h
  have HE : Hid (endsE f d = 0) := he
  have lb : b < w.heap.size := h.lt b h.s0
  clear h he
  go_enter Tryd.func14, Tryd.ntmps14
  go_wp2_with fail
  refine (checkWay_ok HE.out _).mono ?_
  rintro e w1 ⟨rfl, hb⟩
  have B1 : Hid (Below w.heap.size w w1) := Below.trans (by go_grown) (hb.mono (by simp))
  have y0 : w1.cell? ⟨w.heap.size, 0, none⟩ = some (.int .i64 f) := (Turn.of_below (S := fun _ => False) hb).cell (by simp) id
  have y1 : w1.cell? ⟨w.heap.size, 1, none⟩ = some (.int .i64 d) := (Turn.of_below (S := fun _ => False) hb).cell (by simp) id
  clear hb
  have M1 : Hid (Ml S w1 b bm v l q) := HM.out.blocks B1.out.size (fun c hc => B1.out.block c (HM.out.lt c hc))
  have c1 := M1.out.c1
  have lb1 : b < w1.heap.size := Nat.lt_of_lt_of_le lb B1.out.size
  obtain ⟨w2, hst, hc2, hg2⟩ := (M1.out.cut.of_block (w' := w1.drew) rfl).drop f d hf hd 0
  have C2 : Hid (CutAt w2 bm (fun a c => if a = f ∧ c = d then false else q a c)) := hc2
  have G2 : Hid (w1.drew.grownBy w2 (some bm)) := hg2
  clear hc2 hg2
  go_wp2_with fail
  go_region
  all_goals go_wp2
  all_goals go_ret
  all_goals exact ⟨rfl, MlTo.after B1.out (M1.out.recut G2.out C2.out)⟩
/-- Cut, whatever comes in -/
theorem mlCut_c {S : Nat → Prop} {w : World} {b : Nat} {l : List Lt} {q : Nat → Nat → Bool} (h : MlAt S w b l q) (f d m : Int) (c : Bool) (hm : endsE f d = m) :
    Calls Tryd.prog 14 #[.pointer (some ⟨b, 0, none⟩), .int .i64 f, .int .i64 d, .bool c] w fun e w' => e = .returned (eV m) ∧ MlTo S w w' b l (cutQ q f d c) := by
  by_cases h0 : m = 0
  · subst h0
    obtain ⟨x, y, rfl, rfl, hx, hy, _⟩ := endsE_ok hm
    rw [eV, if_pos rfl, cutQ, if_pos hm, Int.toNat_natCast, Int.toNat_natCast]
    cases c
    · exact mlCut_off h x y hx hy hm
    · exact mlCut_on h x y hx hy hm
  · refine (mlCut_bad hm h0 b c w).mono ?_
    rintro e w' ⟨rfl, hb⟩
    rw [eV, if_neg h0, cutQ, if_neg (by rw [hm]; exact h0)]
    exact ⟨rfl, h.to hb⟩
end Go.Proofs.YthpcogpbgjkiaahDoor
