/-
  Package run by its contracts: what a desk does with a get.
  Package ring by its contracts: Points.
-/
import Derived.Test.YtpcnfoaoajfhlaaGreatDoorRabe
import Derived.Test.YtpcnfoaoajfhlaaGreatDoorRaay
namespace Go.Proofs.YtpcnfoaoajfhlaaGreatDoor
set_option linter.unusedVariables false
set_option linter.unusedSimpArgs false
set_option linter.unusedVariables false
set_option linter.unusedSimpArgs false
open Go.RowKit

theorem Dk.grown {S : Nat → Prop} {w w' : World} {d m r : Nat} {l : List Deed} {cs : List (List En)} (h : Dk S w d m r l cs) (hb : Below w.heap.size w w') : Dk S w' d m r l cs := by
  obtain ⟨h1, h2⟩ := h.lt
  exact ⟨h.mesh.grown hb, h.good, (hb.cell (p := ⟨d, 0, none⟩) h1).trans h.d0, (hb.cell (p := ⟨d, 1, none⟩) h1).trans h.d1, (hb.block r h2).trans h.tab, h.gl.below hb, h.lo, Nat.le_trans h.ng hb.size, h.dS, h.rS⟩
theorem Dk.kept {S F : Nat → Prop} {w w' : World} {d m r : Nat} {l : List Deed} {cs : List (List En)} (h : Dk S w d m r l cs) (hk : Kept F w w') (hF : ∀ x, F x → ¬ S x ∧ x ≠ d ∧ x ≠ r ∧ 7 ≤ x) : Dk S w' d m r l cs := by
  obtain ⟨h1, h2⟩ := h.lt
  have hlow : Below 7 w w' := hk.low h.ng (fun x hx => (hF x hx).2.2.2)
  exact ⟨h.mesh.blocks hk.size (fun x hx => hk.block x (h.mesh.lt x hx) (fun hf => (hF x hf).1 hx)), h.good, (World.cell?_of_block (a := ⟨d, 0, none⟩) (hk.block d h1 (fun hf => (hF d hf).2.1 rfl))).trans h.d0, (World.cell?_of_block (a := ⟨d, 1, none⟩) (hk.block d h1 (fun hf => (hF d hf).2.1 rfl))).trans h.d1, (hk.block r h2 (fun hf => (hF r hf).2.2.1 rfl)).trans h.tab, h.gl.low h.ng hlow, h.lo, Nat.le_trans h.ng hk.size, h.dS, h.rS⟩
/-- a call of the mesh in a world that has grown, then a store into what grew -/
theorem DkTo.box {S : Nat → Prop} {w W w3 w' : World} {d m r : Nat} {l l0 : List Deed} {cs cs0 : List (List En)} (h0 : Dk S w d m r l0 cs0) (hb : Below w.heap.size w W) (h : DkTo S W w3 d m r l cs) (q : Nat) (h1 : w.heap.size ≤ q) (h2 : q < W.heap.size) (hk : Kept (fun x => x = q) w3 w') : DkTo S w w' d m r l cs := by
  obtain ⟨k3, S', hd, hs⟩ := h
  obtain ⟨d1, d2⟩ := h0.lt
  refine ⟨⟨(hk.os.trans k3.os).trans hb.os, (hk.tape.trans k3.tape).trans hb.tape, (hk.output.trans k3.output).trans hb.output, Nat.le_trans hb.size (Nat.le_trans k3.size hk.size), fun x hx hn => ?_⟩, S', hd.kept hk (fun x hx => ?_), fun x hx => ?_⟩
  · have hxW : x < W.heap.size := Nat.lt_of_lt_of_le hx hb.size
    rw [hk.block x (Nat.lt_of_lt_of_le hxW k3.size) (by omega), k3.block x hxW hn, hb.block x hx]
  · have hxq : x = q := hx
    have := h0.ng
    refine ⟨fun hS => ?_, by omega, by omega, by omega⟩
    rcases hs x hS with h' | h'
    · have := h0.mesh.lt x h'; omega
    · omega
  · rcases hs x hx with h' | h'
    · exact .inl h'
    · exact .inr (Nat.le_trans hb.size h')
theorem DkTo.after {S : Nat → Prop} {w W w' : World} {d m r : Nat} {l : List Deed} {cs : List (List En)} (hb : Below w.heap.size w W) (h : DkTo S W w' d m r l cs) : DkTo S w w' d m r l cs := by
  obtain ⟨hk, S', hd, hs⟩ := h
  refine ⟨⟨hk.os.trans hb.os, hk.tape.trans hb.tape, hk.output.trans hb.output, Nat.le_trans hb.size hk.size, fun x hx hn => (hk.block x (Nat.lt_of_lt_of_le hx hb.size) hn).trans (hb.block x hx)⟩, S', hd, fun x hx => ?_⟩
  rcases hs x hx with h' | h'
  · exact .inl h'
  · exact .inr (Nat.le_trans hb.size h')
theorem DkTo.zero {S : Nat → Prop} {w w3 : World} {d m r : Nat} {l l0 : List Deed} {cs cs0 : List (List En)} (h0 : Dk S w d m r l0 cs0) (h : DkTo S (w.alloc (.cells #[.int .i64 0, .int .i64 0, .int .i64 0, .bool false, .string ⟨#[]⟩] 46)) w3 d m r l cs) :
    w3.cell? ⟨w.heap.size, 0, none⟩ = some (.int .i64 0) ∧ w3.cell? ⟨w.heap.size, 1, none⟩ = some (.int .i64 0) ∧ w3.cell? ⟨w.heap.size, 2, none⟩ = some (.int .i64 0) ∧ w3.cell? ⟨w.heap.size, 3, none⟩ = some (.bool false) ∧ w3.cell? ⟨w.heap.size, 4, none⟩ = some (.string ⟨#[]⟩) ∧ ∀ k, w3.frozen? ⟨w.heap.size, k, none⟩ = false := by
  have yb : w3.heap[w.heap.size]? = some (.cells #[.int .i64 0, .int .i64 0, .int .i64 0, .bool false, .string ⟨#[]⟩] 46 (0, 0)) :=
    (h.1.block w.heap.size (by simp) (fun hs => absurd (h0.mesh.lt _ hs) (Nat.lt_irrefl _))).trans (alloc_at _ _ _ rfl)
  refine ⟨?_, ?_, ?_, ?_, ?_, fun k => Lib.frozen_of_heap yb k⟩ <;> rw [Lib.cell_of_heap yb] <;> rfl
theorem DkTo.undrewZ {S : Nat → Prop} {w w3 : World} {d m r : Nat} {l : List Deed} {cs : List (List En)} (h : DkTo S (w.alloc (.cells #[.int .i64 0, .int .i64 0, .int .i64 0, .bool false, .string ⟨#[]⟩] 46)).drew w3 d m r l cs) : DkTo S (w.alloc (.cells #[.int .i64 0, .int .i64 0, .int .i64 0, .bool false, .string ⟨#[]⟩] 46)) w3 d m r l cs := ⟨⟨h.1.os, h.1.tape, h.1.output, h.1.size, h.1.block⟩, h.2⟩
theorem DkTo.zeroD {S : Nat → Prop} {w w3 : World} {d m r : Nat} {l l0 : List Deed} {cs cs0 : List (List En)} (h0 : Dk S w d m r l0 cs0) (h : DkTo S (w.alloc (.cells #[.int .i64 0, .int .i64 0, .int .i64 0, .bool false, .string ⟨#[]⟩] 46)).drew w3 d m r l cs) :
    w3.cell? ⟨w.heap.size, 0, none⟩ = some (.int .i64 0) ∧ w3.cell? ⟨w.heap.size, 1, none⟩ = some (.int .i64 0) ∧ w3.cell? ⟨w.heap.size, 2, none⟩ = some (.int .i64 0) ∧ w3.cell? ⟨w.heap.size, 3, none⟩ = some (.bool false) ∧ w3.cell? ⟨w.heap.size, 4, none⟩ = some (.string ⟨#[]⟩) ∧ (∀ k, w3.frozen? ⟨w.heap.size, k, none⟩ = false) ∧ Hid (DkTo S (w.alloc (.cells #[.int .i64 0, .int .i64 0, .int .i64 0, .bool false, .string ⟨#[]⟩] 46)) w3 d m r l cs) := by
  obtain ⟨a0, a1, a2, a3, a4, a5⟩ := DkTo.zero h0 (DkTo.undrewZ h)
  exact ⟨a0, a1, a2, a3, a4, a5, DkTo.undrewZ h⟩
theorem dget_end {S : Nat → Prop} {w w3 : World} {d m r : Nat} {l l0 : List Deed} {cs cs0 : List (List En)} (h0 : Dk S w d m r l0 cs0) (h : DkTo S (w.alloc (.cells #[.int .i64 0, .int .i64 0, .int .i64 0, .bool false, .string ⟨#[]⟩] 46)) w3 d m r l cs) (x0 x1 x2 x3 x4 : Value) :
    DkTo S w (((((w3.setCell ⟨w.heap.size, 0, none⟩ x0).setCell ⟨w.heap.size, 1, none⟩ x1).setCell ⟨w.heap.size, 2, none⟩ x2).setCell ⟨w.heap.size, 3, none⟩ x3).setCell ⟨w.heap.size, 4, none⟩ x4) d m r l cs :=
  DkTo.box h0 ((Below.refl _ _).alloc (Nat.le_refl _) _) h w.heap.size (Nat.le_refl _) (by simp) ((((((Kept.refl (fun x => x = w.heap.size) w3).setCell ⟨w.heap.size, 0, none⟩ _ rfl).setCell ⟨w.heap.size, 1, none⟩ _ rfl).setCell ⟨w.heap.size, 2, none⟩ _ rfl).setCell ⟨w.heap.size, 3, none⟩ _ rfl).setCell ⟨w.heap.size, 4, none⟩ _ rfl)
/-- what a get answers -/
def getB (v a : Nat) (g : Bool) (t : ByteArray) (had : Bool) : ByteArray := if had then entB v a g t ++ cachedS else entB v a g t
set_option maxHeartbeats 8000000 in
theorem deskGet_ok {S : Nat → Prop} {w : World} {d m r : Nat} {l : List Deed} {cs cs' : List (List En)} (h : Dk S w d m r l cs) (nb no nc a b c : Nat) (vw : Value) (n0 : w.cell? ⟨nb, no, none⟩ = some (.int .i64 a)) (n1 : w.cell? ⟨nb, no + 1, none⟩ = some (.int .i64 b)) (n2 : w.cell? ⟨nb, no + 2, none⟩ = some (.int .i64 c)) (hSn : ¬ S nb)
    {x0 : Int} {x1 x2 : Nat} {x3 had : Bool} {x4 : ByteArray} (hx : mGet l cs a b c = (cs', ⟨x0, x1, x2, x3, x4⟩, had, 0)) (hv : x1 ≤ 1000) (ha : x2 ≤ 1000) (ht : x4.size ≤ 12) :
    Calls Tryz.prog 124 #[.pointer (some ⟨d, 0, none⟩), .slice (some ⟨nb, no, none⟩) 3 nc, vw] w fun e w' => e = .returned (.tuple #[.string (getB x1 x2 x3 x4 had), .nilIface]) ∧ DkTo S w w' d m r l cs' := by
  have d0 := h.d0
  have hSd := h.dS
  have hg := mGet_good h.good a b c
  rw [hx] at hg
  have HP : Hid (∀ W, Below w.heap.size w W → Calls Tryz.prog 13 #[.pointer (some ⟨m, 0, none⟩), .int .i64 a, .int .i64 b, .int .i64 c] W fun e w' => e = .returned (.tuple #[.agg #[.int .i64 x0, .int .i64 x1, .int .i64 x2, .bool x3, .string x4], .bool had, .nilIface]) ∧ DkTo S W w' d m r l cs') := fun W hW => by
    have c := mGet_o (h.mesh.grown hW) h.good hx
    rw [eV_zeroN] at c
    exact c.mono fun e w' hx => ⟨hx.1, (h.grown hW).to hx.2 hg⟩
  have kp : ∀ w3, DkTo S w w3 d m r l cs' → w3.cell? ⟨d, 0, none⟩ = some (.pointer (some ⟨m, 0, none⟩)) ∧ w3.cell? ⟨nb, no, none⟩ = some (.int .i64 a) ∧ w3.cell? ⟨nb, no + 1, none⟩ = some (.int .i64 b) ∧ w3.cell? ⟨nb, no + 2, none⟩ = some (.int .i64 c) := fun w3 hd => ⟨hd.1.at d0 hSd, hd.1.at n0 hSn, hd.1.at n1 hSn, hd.1.at n2 hSn⟩
  have KP : Hid _ := kp
  have KA : Hid (∀ w3, DkTo S w w3 d m r l cs' → ∀ o, (w3.alloc o).cell? ⟨d, 0, none⟩ = some (.pointer (some ⟨m, 0, none⟩)) ∧ (w3.alloc o).cell? ⟨nb, no, none⟩ = some (.int .i64 a) ∧ (w3.alloc o).cell? ⟨nb, no + 1, none⟩ = some (.int .i64 b) ∧ (w3.alloc o).cell? ⟨nb, no + 2, none⟩ = some (.int .i64 c)) := fun w3 hd o => kp _ (hd.below ((Below.refl _ _).alloc (Nat.le_refl _) _))
  clear kp
  have HD0 : Hid (Dk S w d m r l cs) := h
  have HS : Hid (¬ S d ∧ ¬ S nb) := ⟨hSd, hSn⟩
  have HE : Hid (∀ W, Gl W → Calls Tryz.prog 167 #[.agg #[.int .i64 x0, .int .i64 x1, .int .i64 x2, .bool x3, .string x4]] W fun e w' => e = .returned (.string (entB x1 x2 x3 x4)) ∧ Below W.heap.size W w') := fun W hW => entryText_c x0 x1 x2 x3 x4 W hv ha ht hW
  have hz : (entB x1 x2 x3 x4).size ≤ 100 := by
    have z1 := digS_size x1 (by omega)
    have z2 := digS_size x2 (by omega)
    have z3 : (if x3 then goneS else x4).size ≤ 12 := by
      cases x3
      · exact ht
      · show goneS.size ≤ 12; decide
    have e1 : dashS.size = 1 := rfl
    have e2 : blankS.size = 1 := rfl
    simp only [entB, ByteArray.size_append, e1, e2]
    omega
  have hz2 : ¬ ((entB x1 x2 x3 x4).size + 7 > 9223372036854775807) := by omega
  clear h hg hSd hSn hx hv ha ht hz
  have kd := World.new_ne w _ d0
  have kb := World.new_ne w _ n0
  have kd2 := Ne.symm kd
  have kb2 := Ne.symm kb
  go_enter Tryz.func124, Tryz.ntmps124
  go_upto_region 1 with fail
  go_cut [8, 9, 10] (fun c8 c9 c10 wc => ∃ q, c8 = .pointer (some ⟨q, 0, none⟩) ∧ c9 = .bool had ∧ c10 = .nilIface ∧ Hid (BoxAt wc q x0 x1 x2 x3 x4) ∧ Hid (DkTo S w wc d m r l cs'))
  case first =>
    go_region_held3 (fun w' => w'.cell? ⟨d, 0, none⟩ = some (.pointer (some ⟨m, 0, none⟩)) ∧ w'.cell? ⟨nb, no, none⟩ = some (.int .i64 a) ∧ w'.cell? ⟨nb, no + 1, none⟩ = some (.int .i64 b) ∧ w'.cell? ⟨nb, no + 2, none⟩ = some (.int .i64 c)) (first | go_keep | (exact KA.out _ HD.out _) | (exact KP.out _ HD.out)) (first | (go_at_call 13; refine Calls.mono (HP.out _ (by go_grown)) ?_; rintro e w3 ⟨rfl, hd⟩; have HD : Hid (DkTo S w w3 d m r l cs') := DkTo.after (by go_grown) hd; try (with_reducible (obtain ⟨y0, y1, y2, y3, y4, yf, HZ⟩ := DkTo.zeroD HD0.out hd)); obtain ⟨q0, q1, q2, q3⟩ := KP.out _ HD.out; have kn1 := World.new_ne w3 _ q0; have kn2 := World.new_ne w3 _ q1; clear hd))
    all_goals go_wp2_with fail
    all_goals go_meet
    all_goals first | exact ⟨_, rfl, rfl, rfl, BoxAt.set ⟨y0, y1, y2, y3, y4, yf⟩ _ _ _ _ _, dget_end HD0.out HZ.out _ _ _ _ _⟩ | exact ⟨_, rfl, rfl, rfl, box_new _ _ _ _ _ _ _ rfl, DkTo.below HD.out ((Below.refl _ _).alloc (Nat.le_refl _) _)⟩
  case rest =>
  obtain ⟨q, h8, h9, h10, hbx, hdk⟩ := hcut
  subst h8
  subst h9
  subst h10
  have HGl : Hid (Gl wc) := DkTo.gl hdk.out
  have HDk : Hid (DkTo S w wc d m r l cs') := hdk
  obtain ⟨g0, g1, g2, g3, g4, gf⟩ := hbx.out
  clear hbx hdk n0 n1 n2 d0 kd kb kd2 kb2 KP KA HP
  cases had
  · go_wp2_with fail
    refine (HE.out _ HGl.out).mono ?_
    rintro e w5 ⟨rfl, hb⟩
    have HB : Hid (Below wc.heap.size wc w5) := hb
    clear hb
    go_wp2_with fail
    go_ret2
    exact ⟨rfl, DkTo.below HDk.out HB.out⟩
  · go_wp2_with fail
    refine (HE.out _ HGl.out).mono ?_
    rintro e w5 ⟨rfl, hb⟩
    have HB : Hid (Below wc.heap.size wc w5) := hb
    clear hb
    go_wp2_with fail
    go_ret2
    exact ⟨rfl, DkTo.below HDk.out HB.out⟩
set_option maxHeartbeats 8000000 in
theorem deskGet_bad {S : Nat → Prop} {w : World} {d m r : Nat} {l : List Deed} {cs cs' : List (List En)} (h : Dk S w d m r l cs) (nb no nc a b c : Nat) (vw : Value) (n0 : w.cell? ⟨nb, no, none⟩ = some (.int .i64 a)) (n1 : w.cell? ⟨nb, no + 1, none⟩ = some (.int .i64 b)) (n2 : w.cell? ⟨nb, no + 2, none⟩ = some (.int .i64 c)) (hSn : ¬ S nb)
    {x0 x1 x2 n : Int} {x3 had : Bool} {x4 : ByteArray} (hx : mGet l cs a b c = (cs', ⟨x0, x1, x2, x3, x4⟩, had, n)) (hn : n ≠ 0) :
    Calls Tryz.prog 124 #[.pointer (some ⟨d, 0, none⟩), .slice (some ⟨nb, no, none⟩) 3 nc, vw] w fun e w' => e = .returned (.tuple #[.string ⟨#[]⟩, eV n]) ∧ DkTo S w w' d m r l cs' := by
  have d0 := h.d0
  have hSd := h.dS
  have hg := mGet_good h.good a b c
  rw [hx] at hg
  have HP : Hid (∀ W, Below w.heap.size w W → Calls Tryz.prog 13 #[.pointer (some ⟨m, 0, none⟩), .int .i64 a, .int .i64 b, .int .i64 c] W fun e w' => e = .returned (.tuple #[.agg #[.int .i64 x0, .int .i64 x1, .int .i64 x2, .bool x3, .string x4], .bool had, .iface 85 (.int .i64 n)]) ∧ DkTo S W w' d m r l cs') := fun W hW => by
    have c := mGet_o (h.mesh.grown hW) h.good hx
    rw [eV_errN hn] at c
    exact c.mono fun e w' hx => ⟨hx.1, (h.grown hW).to hx.2 hg⟩
  have kp : ∀ w3, DkTo S w w3 d m r l cs' → w3.cell? ⟨d, 0, none⟩ = some (.pointer (some ⟨m, 0, none⟩)) ∧ w3.cell? ⟨nb, no, none⟩ = some (.int .i64 a) ∧ w3.cell? ⟨nb, no + 1, none⟩ = some (.int .i64 b) ∧ w3.cell? ⟨nb, no + 2, none⟩ = some (.int .i64 c) := fun w3 hd => ⟨hd.1.at d0 hSd, hd.1.at n0 hSn, hd.1.at n1 hSn, hd.1.at n2 hSn⟩
  have KP : Hid _ := kp
  have KA : Hid (∀ w3, DkTo S w w3 d m r l cs' → ∀ o, (w3.alloc o).cell? ⟨d, 0, none⟩ = some (.pointer (some ⟨m, 0, none⟩)) ∧ (w3.alloc o).cell? ⟨nb, no, none⟩ = some (.int .i64 a) ∧ (w3.alloc o).cell? ⟨nb, no + 1, none⟩ = some (.int .i64 b) ∧ (w3.alloc o).cell? ⟨nb, no + 2, none⟩ = some (.int .i64 c)) := fun w3 hd o => kp _ (hd.below ((Below.refl _ _).alloc (Nat.le_refl _) _))
  clear kp
  have HD0 : Hid (Dk S w d m r l cs) := h
  have HS : Hid (¬ S d ∧ ¬ S nb) := ⟨hSd, hSn⟩
  rw [eV_errN hn]
  clear h hg hSd hSn hx
  have kd := World.new_ne w _ d0
  have kb := World.new_ne w _ n0
  have kd2 := Ne.symm kd
  have kb2 := Ne.symm kb
  go_enter Tryz.func124, Tryz.ntmps124
  go_upto_region 1 with fail
  go_cut [8, 9, 10] (fun c8 c9 c10 wc => ∃ q, c8 = .pointer (some ⟨q, 0, none⟩) ∧ c9 = .bool had ∧ c10 = .iface 85 (.int .i64 n) ∧ Hid (BoxAt wc q x0 x1 x2 x3 x4) ∧ Hid (DkTo S w wc d m r l cs'))
  case first =>
    go_region_held3 (fun w' => w'.cell? ⟨d, 0, none⟩ = some (.pointer (some ⟨m, 0, none⟩)) ∧ w'.cell? ⟨nb, no, none⟩ = some (.int .i64 a) ∧ w'.cell? ⟨nb, no + 1, none⟩ = some (.int .i64 b) ∧ w'.cell? ⟨nb, no + 2, none⟩ = some (.int .i64 c)) (first | go_keep | (exact KA.out _ HD.out _) | (exact KP.out _ HD.out)) (first | (go_at_call 13; refine Calls.mono (HP.out _ (by go_grown)) ?_; rintro e w3 ⟨rfl, hd⟩; have HD : Hid (DkTo S w w3 d m r l cs') := DkTo.after (by go_grown) hd; try (with_reducible (obtain ⟨y0, y1, y2, y3, y4, yf, HZ⟩ := DkTo.zeroD HD0.out hd)); obtain ⟨q0, q1, q2, q3⟩ := KP.out _ HD.out; have kn1 := World.new_ne w3 _ q0; have kn2 := World.new_ne w3 _ q1; clear hd))
    all_goals go_wp2_with fail
    all_goals go_meet
    all_goals first | exact ⟨_, rfl, rfl, rfl, BoxAt.set ⟨y0, y1, y2, y3, y4, yf⟩ _ _ _ _ _, dget_end HD0.out HZ.out _ _ _ _ _⟩ | exact ⟨_, rfl, rfl, rfl, box_new _ _ _ _ _ _ _ rfl, DkTo.below HD.out ((Below.refl _ _).alloc (Nat.le_refl _) _)⟩
  case rest =>
  obtain ⟨q, h8, h9, h10, hbx, hdk⟩ := hcut
  subst h8
  subst h9
  subst h10
  have HGl : Hid (Gl wc) := DkTo.gl hdk.out
  have HDk : Hid (DkTo S w wc d m r l cs') := hdk
  obtain ⟨g0, g1, g2, g3, g4, gf⟩ := hbx.out
  clear hbx hdk n0 n1 n2 d0 kd kb kd2 kb2 KP KA HP
  go_wp2_with fail
  go_ret2
  exact ⟨rfl, HDk.out⟩
end Go.Proofs.YtpcnfoaoajfhlaaGreatDoor

namespace Go.Proofs.YtpcnfoaoajfhlaaGreatDoor
set_option linter.unusedVariables false
set_option linter.unusedSimpArgs false
open Go.RowKit

/-- what is wrong with nodes and how many points each has -/
def badPts (nodes : List Int) (each : Int) : Int := if badNodes nodes ≠ 0 then badNodes nodes else if inR each 1 8 = false then 1 else 0
theorem badPts_good {nodes : List Int} {each : Int} (h : badPts nodes each = 0) : badNodes nodes = 0 ∧ ∃ k : Nat, each = (k : Int) ∧ 1 ≤ k ∧ k ≤ 8 := by
  unfold badPts at h
  split at h
  · rename_i h1
    exact absurd h h1
  · rename_i h1
    split at h
    · cases h
    · rename_i h2
      have h3 : badNodes nodes = 0 := by
        by_cases h' : badNodes nodes = 0
        · exact h'
        · exact absurd h' h1
      have h4 : inR each 1 8 = true := by simpa using h2
      simp [inR] at h4
      exact ⟨h3, each.toNat, by omega, by omega, by omega⟩
theorem badNodes_good {nodes : List Int} (h : badNodes nodes = 0) : (∀ x ∈ nodes, 0 ≤ x ∧ x ≤ 5) ∧ nodes.Nodup ∧ nodes.length ≠ 0 ∧ nodes.length ≤ 6 := by
  unfold badNodes at h
  split at h
  · cases h
  · rename_i h1
    split at h
    · cases h
    · rename_i h2
      obtain ⟨a1, a2⟩ := badFrom_good nodes [] h
      exact ⟨fun x hx => ⟨(a1 x hx).1, (a1 x hx).2.1⟩, a2, h1, by omega⟩
set_option maxHeartbeats 2000000 in
theorem points_bad (v : Value) (nodes : List Int) (each : Int) (w : World) (e0 : Int) (hr : IntsIs w v nodes) (hcap : CapOk v nodes.length) (he : badPts nodes each = e0) (h0 : e0 ≠ 0) :
    Calls Tryz.prog 20 #[v, .int .i64 each] w fun e w' => e = .returned (.tuple #[.slice none 0 0, .iface 85 (.int .i64 e0)]) ∧ Below w.heap.size w w' := by
  have HC : Hid _ := checkNodes_c v nodes w hr hcap
  clear hr hcap
  unfold badPts at he
  by_cases hn : badNodes nodes = 0
  · rw [if_neg (by simp [hn])] at he
    rw [hn, eV_zero] at HC
    cases hE : inR each 1 8
    · rw [if_pos hE] at he
      subst he
      have HE : Hid (inR each 1 8 = false) := hE
      clear hE hn
      go_enter Tryz.func20, Tryz.ntmps20
      go_wp2_with fail
      refine Calls.mono HC.out ?_
      rintro e w1 ⟨rfl, hw⟩
      have hw' := hw.symm
      clear hw
      subst hw'
      go_wp2_with (go_at_call 58; refine (withinR_b _ _ _ false _ HE.out).mono ?_; rintro e w' ⟨rfl, hw⟩; have hw' := hw.symm; clear hw; subst hw')
      go_ret2
      exact ⟨rfl, Below.refl _ _⟩
    · rw [if_neg (by rw [hE]; simp)] at he
      exact absurd he.symm h0
  · rw [if_pos hn] at he
    rw [he, eV_err h0] at HC
    clear hn he
    go_enter Tryz.func20, Tryz.ntmps20
    go_wp2_with fail
    refine Calls.mono HC.out ?_
    rintro e w1 ⟨rfl, hw⟩
    have hw' := hw.symm
    clear hw
    subst hw'
    go_wp2_with fail
    go_ret2
    exact ⟨rfl, Below.refl _ _⟩
set_option maxHeartbeats 8000000 in
theorem points_ok (v : Value) (nodes : List Int) (each : Nat) (w : World) (hr : IntsIs w v nodes) (hcap : CapOk v nodes.length) (hn : badNodes nodes = 0) (h1 : 1 ≤ each) (h8 : each ≤ 8) (hT : Lib.TabIs Tryz.prog w powName .u64 Lib.pow10Tab) :
    Calls Tryz.prog 20 #[v, .int .i64 (each : Nat)] w fun e w' => ∃ u, e = .returned (.tuple #[u, .nilIface]) ∧ PtsIs w' u (ptsL nodes each) ∧ Below w.heap.size w w' := by
  have HC : Hid _ := checkNodes_c v nodes w hr hcap
  rw [hn, eV_zero] at HC
  obtain ⟨hg, hnd, hl0, hl6⟩ := badNodes_good hn
  have HG : Hid (∀ x ∈ nodes, 0 ≤ x ∧ x ≤ 5) := hg
  have HS : Hid ((rawL each nodes).mergeSort (fun x y => !(ltOf cfP) y x) = ptsL nodes each) := sort_is hg hnd h8
  have HTb : Hid (Lib.TabBelow Tryz.prog w.heap.size w powName .u64 Lib.pow10Tab) := Lib.tabBelow_of_tabIs hT
  have HE : Hid (inR (each : Int) 1 8 = true) := by
    show inR (each : Int) 1 8 = true
    simp [inR]
    omega
  obtain ⟨_, p, cap, rfl, hrow⟩ := hr
  have HRow : Hid (nodes ≠ [] → ∃ bb o, p = some ⟨bb, o, none⟩ ∧ bb < w.heap.size ∧ ∀ j (h : j < nodes.length), w.cell? ⟨bb, o + j, none⟩ = some (.int .i64 nodes[j])) := hrow
  clear hrow hcap hn hg hnd hT
  obtain ⟨n, HN⟩ : ∃ n, Hid (nodes.length = n) := ⟨_, rfl⟩
  rw [HN.out] at HC hl0 hl6 ⊢
  go_enter Tryz.func20, Tryz.ntmps20
  go_wp2_with fail
  refine Calls.mono HC.out ?_
  rintro e w1 ⟨rfl, hw⟩
  have hw' := hw.symm
  clear hw
  subst hw'
  go_wp2_with (go_at_call 58; refine (withinR_b _ _ _ true _ HE.out).mono ?_; rintro e w' ⟨rfl, hw⟩; have hw' := hw.symm; clear hw; subst hw')
  go_loopw [7, 24] (fun s7 s24 wr => ∃ (i : Nat) (v7 : Value), s7 = v7 ∧ i ≤ n ∧ s24 = .int .i64 i ∧ Hid (OwnP w.heap.size wr v7 (rawL each (nodes.take i))) ∧ Hid (Below w.heap.size w wr)) (fun _ i _ => n - (intOf i).toNat)
  case atStart => exact ⟨0, .slice none 0 0, rfl, Nat.zero_le _, rfl, OwnP.nil _ _, Below.refl _ _⟩
  case round =>
    obtain ⟨i, v7, hs7, hi, rfl, HO, HB⟩ := hrel
    have hs7' := hs7.symm
    clear hs7
    subst hs7'
    by_cases hlt : i < n
    · have hil : i < nodes.length := by rw [HN.out]; exact hlt
      obtain ⟨b, o, rfl, hbw, hat⟩ := HRow.out (fun h => by simp [h] at hil)
      have c0 : wr.cell? ⟨b, o + i, none⟩ = some (.int .i64 nodes[i]) := (World.cell?_of_block (a := ⟨b, o + i, none⟩) (HB.out.block b hbw)).trans (hat i hil)
      clear hat
      have hlti : (i : Int) < (n : Int) := by omega
      have HNx : Hid (rawL each (nodes.take (i + 1)) = rawL each (nodes.take i) ++ rawN nodes[i] each) := rawL_take hil
      have HLn : Hid ((rawL each (nodes.take i)).length ≤ 48) := by
        show _ ≤ 48
        rw [rawL_len, List.length_take, Nat.min_eq_left (by omega)]
        have : i * each ≤ 6 * 8 := Nat.mul_le_mul (by omega) h8
        omega
      obtain ⟨x, hx0, hx5⟩ : ∃ x : Nat, nodes[i] = (x : Int) ∧ x ≤ 5 := by
        have := HG.out nodes[i] (List.getElem_mem hil)
        exact ⟨nodes[i].toNat, by omega, by omega⟩
      rw [hx0] at c0 HNx
      clear hx0
      obtain ⟨xs, HXs⟩ : ∃ xs, Hid (rawL each (nodes.take i) = xs) := ⟨_, rfl⟩
      rw [HXs.out] at HO HNx HLn
      go_wp2_with fail
      clear c0
      go_loopw [7, 29] (fun s7 s29 wq => ∃ (j : Nat) (v8 : Value), s7 = v8 ∧ j ≤ each ∧ s29 = .int .i64 j ∧ Hid (OwnP w.heap.size wq v8 (xs ++ rawN (x : Int) j)) ∧ Hid (Below w.heap.size w wq)) (fun _ i _ => each - (intOf i).toNat)
      case atStart => exact ⟨0, _, rfl, Nat.zero_le _, rfl, by show OwnP _ _ _ _; rw [rawN_zero, List.append_nil]; exact HO.out, HB⟩
      case round =>
        obtain ⟨j, v8, hs8, hj, rfl, HO2, HB2⟩ := hrel
        have hs8' := hs8.symm
        clear hs8
        subst hs8'
        by_cases hlt2 : j < each
        · have hlti2 : (j : Int) < (each : Int) := by omega
          have hws := HB2.out.size
          have HPl : Hid _ := placeR_c x j wr (by omega) (by omega) (HTb.out _ HB2.out)
          have hpl := plP_lt x j
          have HNj : Hid (rawN (x : Int) (j + 1) = rawN (x : Int) j ++ [⟨(plP x j : Int), (x : Int)⟩]) := rawN_succ (x : Int) j
          obtain ⟨a, HPa⟩ : ∃ a, Hid (plP x j = a) := ⟨_, rfl⟩
          rw [HPa.out] at HPl HNj hpl
          obtain ⟨ys, HYs⟩ : ∃ ys, Hid (xs ++ rawN (x : Int) j = ys) := ⟨_, rfl⟩
          have HY1 : Hid (xs ++ rawN (x : Int) (j + 1) = ys ++ [⟨(a : Int), (x : Int)⟩]) := by
            show _ = _
            rw [HNj.out, ← HYs.out, List.append_assoc]
          have HLy : Hid (ys.length ≤ 2000) := by
            show ys.length ≤ 2000
            rw [← HYs.out, List.length_append, rawN_len]
            have := HLn.out
            omega
          rw [HYs.out] at HO2
          go_wp2_with fail
          refine Calls.mono HPl.out ?_
          rintro e w2 ⟨rfl, hb⟩
          have HB3 : Hid (Below w.heap.size w w2) := HB2.out.trans (hb.mono HB2.out.size)
          have HO3 : Hid (OwnP w.heap.size w2 v8 ys) := HO2.out.below hb
          clear hb HPl
          have hws3 := HB3.out.size
          have HOa : Hid (OwnP w.heap.size (w2.alloc (.cells #[.int .i64 (a : Int), .int .i64 (x : Int)] 110)) v8 ys) := HO3.out.below ((Below.refl _ _).alloc (Nat.le_refl _) _)
          have HVa : Hid ((w2.alloc (.cells #[.int .i64 (a : Int), .int .i64 (x : Int)] 110)).heap[w2.heap.size]? = some (.cells (Pt.cells ⟨(a : Int), (x : Int)⟩).toArray 110 (0, 0))) := alloc_at _ _ _ rfl
          have HSa : Hid (w.heap.size ≤ (w2.alloc (.cells #[.int .i64 (a : Int), .int .i64 (x : Int)] 110)).heap.size) := show _ ≤ _ from (by simp; omega)
          have HBa : Hid (Below w.heap.size w (w2.alloc (.cells #[.int .i64 (a : Int), .int .i64 (x : Int)] 110))) := HB3.out.alloc hws3 _
          go_wp2_with (at_builtin; refine wp_appP _ rfl _ _ rfl w.heap.size _ ys ⟨(a : Int), (x : Int)⟩ rfl HOa.out _ rfl HVa.out HLy.out HSa.out ?_)
          intro va wa hown hgrow
          have HOp : Hid (OwnP w.heap.size wa va (ys ++ [⟨(a : Int), (x : Int)⟩])) := hown
          have HBp : Hid (Below w.heap.size w wa) := below_grownF HBa.out (Nat.le_refl _) hgrow.out (fun c hc => HO3.out.from c hc)
          clear hown hgrow HOa HVa HSa HBa
          go_wp2_with fail
          go_roundw
          case rel =>
            refine ⟨j + 1, _, rfl, by omega, by go_num, ?_, HBp⟩
            show OwnP _ _ _ _
            rw [HY1.out]
            exact HOp.out
          case measure => simp [intOf]; omega
        · obtain rfl : j = each := by omega
          go_wp2_with fail
          go_roundw
          case rel =>
            refine ⟨i + 1, _, rfl, by omega, by go_num, ?_, HB2⟩
            show OwnP _ _ _ _
            rw [HNx.out]
            exact HO2.out
          case measure => simp [intOf]; omega
    · obtain rfl : i = n := by omega
      have e1 : nodes.take i = nodes := by rw [← HN.out, List.take_length]
      rw [e1] at HO
      have hle : (rawL each nodes).length ≤ 2000 := by
        rw [rawL_len, HN.out]
        have : i * each ≤ 6 * 8 := Nat.mul_le_mul (by omega) h8
        omega
      have hpos : 0 < (rawL each nodes).length := by
        rw [rawL_len, HN.out]
        exact Nat.mul_pos (by omega) h1
      have HSo : Hid _ := sortRow_c w.heap.size v7 (rawL each nodes) wr HO.out (List.length_pos_iff.1 hpos) HB.out.size hle
      rw [HS.out] at HSo
      have HLp : Hid ((ptsL nodes each).length ≤ 2000) := by
        show _ ≤ 2000
        rw [← HS.out, List.length_mergeSort]
        exact hle
      clear e1 hle hpos
      go_wp2_with fail
      refine Calls.mono HSo.out ?_
      rintro e w2 ⟨rfl, hp, hb⟩
      have HP : Hid (PtsIs w2 v7 (ptsL nodes each)) := hp
      have HB2 : Hid (Below w.heap.size w w2) := HB.out.trans hb
      clear hp hb
      go_wp2_with fail
      refine (compact_c v7 (ptsL nodes each) w2 HP.out (ptsU_rise _ _ _) HLp.out).mono ?_
      rintro e w3 ⟨rfl, hb⟩
      have HP3 : Hid (PtsIs w3 v7 (ptsL nodes each)) := HP.out.below hb
      have HB3 : Hid (Below w.heap.size w w3) := HB2.out.trans (hb.mono HB2.out.size)
      clear hb
      go_wp2_with fail
      go_ret2
      exact ⟨v7, rfl, HP3.out, HB3.out⟩
end Go.Proofs.YtpcnfoaoajfhlaaGreatDoor
