/-
  Package run by its contracts: what a desk does with a get.
  slices.SortFunc at points by its contract, laid at this program (the body of each function and each type's row compared): the row holds the points sorted.
  A row of points of the call's own, sorted and compacted, by the library's contracts.
  Two points compared; slices.Compact at points that rise; meresame.Points, by their contracts.
-/
import Derived.Test.YtpcnfoaoajfhlaaGreatDoorRaax
import Derived.Shelf.SlSortCmp.NoneTotal
import Derived.Test.YtpcnfoaoajfhlaaGreatDoorRaas
import Derived.Test.YtpcnfoaoajfhlaaGreatDoorRaat
import Derived.Lib.OwnBridge
import Derived.Laws.StructEq
import Derived.BigQuiet
namespace Go.Proofs.YtpcnfoaoajfhlaaGreatDoor
set_option linter.unusedVariables false
set_option linter.unusedSimpArgs false
set_option linter.unusedVariables false
set_option linter.unusedSimpArgs false
open Go.RowKit

theorem Dk.grown {S : Nat → Prop} {w w' : World} {d m r : Nat} {l : List Deed} {cs : List (List En)} (h : Dk S w d m r l cs) (hb : Below w.heap.size w w') : Dk S w' d m r l cs := by
  obtain ⟨h1, h2⟩ := h.lt
  exact ⟨h.mesh.grown hb, h.good, (hb.cell (p := ⟨d, 0, none⟩) h1).trans h.d0, (hb.cell (p := ⟨d, 1, none⟩) h1).trans h.d1, (hb.block r h2).trans h.tab, h.gl.below hb, h.lo, Nat.le_trans h.ng hb.size, h.dS, h.rS⟩
theorem Dk.kept {S F : Nat → Prop} {w w' : World} {d m r : Nat} {l : List Deed} {cs : List (List En)} (h : Dk S w d m r l cs) (hk : Kept F w w') (hF : ∀ x, F x → ¬ S x ∧ x ≠ d ∧ x ≠ r ∧ 7 ≤ x) : Dk S w' d m r l cs := by
  obtain ⟨h1, h2⟩ := h.lt
  have hlow : Below 7 w w' := hk.low h.ng (fun x hx => (hF x hx).2.2.2)
  exact ⟨h.mesh.blocks hk.size (fun x hx => hk.block x (h.mesh.lt x hx) (fun hf => (hF x hf).1 hx)), h.good, (World.cell?_of_block (a := ⟨d, 0, none⟩) (hk.block d h1 (fun hf => (hF d hf).2.1 rfl))).trans h.d0, (World.cell?_of_block (a := ⟨d, 1, none⟩) (hk.block d h1 (fun hf => (hF d hf).2.1 rfl))).trans h.d1, (hk.block r h2 (fun hf => (hF r hf).2.2.1 rfl)).trans h.tab, h.gl.low h.ng hlow, h.lo, Nat.le_trans h.ng hk.size, h.dS, h.rS⟩
/-- a call of the mesh in a world that has grown, then a store into what grew -/
theorem DkTo.box {S : Nat → Prop} {w W w3 w' : World} {d m r : Nat} {l l0 : List Deed} {cs cs0 : List (List En)} (h0 : Dk S w d m r l0 cs0) (hb : Below w.heap.size w W) (h : DkTo S W w3 d m r l cs) (q : Nat) (h1 : w.heap.size ≤ q) (h2 : q < W.heap.size) (hk : Kept (fun x => x = q) w3 w') : DkTo S w w' d m r l cs := by
  obtain ⟨k3, S', hd, hs⟩ := h
  obtain ⟨d1, d2⟩ := h0.lt
  refine ⟨⟨(hk.os.trans k3.os).trans hb.os, (hk.tape.trans k3.tape).trans hb.tape, (hk.output.trans k3.output).trans hb.output, Nat.le_trans hb.size (Nat.le_trans k3.size hk.size), fun x hx hn => ?_⟩, S', hd.kept hk (fun x hx => ?_), fun x hx => ?_⟩
  · have hxW : x < W.heap.size := Nat.lt_of_lt_of_le hx hb.size
    rw [hk.block x (Nat.lt_of_lt_of_le hxW k3.size) (by omega), k3.block x hxW hn, hb.block x hx]
  · have hxq : x = q := hx
    have := h0.ng
    refine ⟨fun hS => ?_, by omega, by omega, by omega⟩
    rcases hs x hS with h' | h'
    · have := h0.mesh.lt x h'; omega
    · omega
  · rcases hs x hx with h' | h'
    · exact .inl h'
    · exact .inr (Nat.le_trans hb.size h')
theorem DkTo.after {S : Nat → Prop} {w W w' : World} {d m r : Nat} {l : List Deed} {cs : List (List En)} (hb : Below w.heap.size w W) (h : DkTo S W w' d m r l cs) : DkTo S w w' d m r l cs := by
  obtain ⟨hk, S', hd, hs⟩ := h
  refine ⟨⟨hk.os.trans hb.os, hk.tape.trans hb.tape, hk.output.trans hb.output, Nat.le_trans hb.size hk.size, fun x hx hn => (hk.block x (Nat.lt_of_lt_of_le hx hb.size) hn).trans (hb.block x hx)⟩, S', hd, fun x hx => ?_⟩
  rcases hs x hx with h' | h'
  · exact .inl h'
  · exact .inr (Nat.le_trans hb.size h')
theorem DkTo.zero {S : Nat → Prop} {w w3 : World} {d m r : Nat} {l l0 : List Deed} {cs cs0 : List (List En)} (h0 : Dk S w d m r l0 cs0) (h : DkTo S (w.alloc (.cells #[.int .i64 0, .int .i64 0, .int .i64 0, .bool false, .string ⟨#[]⟩] 46)) w3 d m r l cs) :
    w3.cell? ⟨w.heap.size, 0, none⟩ = some (.int .i64 0) ∧ w3.cell? ⟨w.heap.size, 1, none⟩ = some (.int .i64 0) ∧ w3.cell? ⟨w.heap.size, 2, none⟩ = some (.int .i64 0) ∧ w3.cell? ⟨w.heap.size, 3, none⟩ = some (.bool false) ∧ w3.cell? ⟨w.heap.size, 4, none⟩ = some (.string ⟨#[]⟩) ∧ ∀ k, w3.frozen? ⟨w.heap.size, k, none⟩ = false := by
  have yb : w3.heap[w.heap.size]? = some (.cells #[.int .i64 0, .int .i64 0, .int .i64 0, .bool false, .string ⟨#[]⟩] 46 (0, 0)) :=
    (h.1.block w.heap.size (by simp) (fun hs => absurd (h0.mesh.lt _ hs) (Nat.lt_irrefl _))).trans (alloc_at _ _ _ rfl)
  refine ⟨?_, ?_, ?_, ?_, ?_, fun k => Lib.frozen_of_heap yb k⟩ <;> rw [Lib.cell_of_heap yb] <;> rfl
theorem DkTo.undrewZ {S : Nat → Prop} {w w3 : World} {d m r : Nat} {l : List Deed} {cs : List (List En)} (h : DkTo S (w.alloc (.cells #[.int .i64 0, .int .i64 0, .int .i64 0, .bool false, .string ⟨#[]⟩] 46)).drew w3 d m r l cs) : DkTo S (w.alloc (.cells #[.int .i64 0, .int .i64 0, .int .i64 0, .bool false, .string ⟨#[]⟩] 46)) w3 d m r l cs := ⟨⟨h.1.os, h.1.tape, h.1.output, h.1.size, h.1.block⟩, h.2⟩
theorem DkTo.zeroD {S : Nat → Prop} {w w3 : World} {d m r : Nat} {l l0 : List Deed} {cs cs0 : List (List En)} (h0 : Dk S w d m r l0 cs0) (h : DkTo S (w.alloc (.cells #[.int .i64 0, .int .i64 0, .int .i64 0, .bool false, .string ⟨#[]⟩] 46)).drew w3 d m r l cs) :
    w3.cell? ⟨w.heap.size, 0, none⟩ = some (.int .i64 0) ∧ w3.cell? ⟨w.heap.size, 1, none⟩ = some (.int .i64 0) ∧ w3.cell? ⟨w.heap.size, 2, none⟩ = some (.int .i64 0) ∧ w3.cell? ⟨w.heap.size, 3, none⟩ = some (.bool false) ∧ w3.cell? ⟨w.heap.size, 4, none⟩ = some (.string ⟨#[]⟩) ∧ (∀ k, w3.frozen? ⟨w.heap.size, k, none⟩ = false) ∧ Hid (DkTo S (w.alloc (.cells #[.int .i64 0, .int .i64 0, .int .i64 0, .bool false, .string ⟨#[]⟩] 46)) w3 d m r l cs) := by
  obtain ⟨a0, a1, a2, a3, a4, a5⟩ := DkTo.zero h0 (DkTo.undrewZ h)
  exact ⟨a0, a1, a2, a3, a4, a5, DkTo.undrewZ h⟩
theorem dget_end {S : Nat → Prop} {w w3 : World} {d m r : Nat} {l l0 : List Deed} {cs cs0 : List (List En)} (h0 : Dk S w d m r l0 cs0) (h : DkTo S (w.alloc (.cells #[.int .i64 0, .int .i64 0, .int .i64 0, .bool false, .string ⟨#[]⟩] 46)) w3 d m r l cs) (x0 x1 x2 x3 x4 : Value) :
    DkTo S w (((((w3.setCell ⟨w.heap.size, 0, none⟩ x0).setCell ⟨w.heap.size, 1, none⟩ x1).setCell ⟨w.heap.size, 2, none⟩ x2).setCell ⟨w.heap.size, 3, none⟩ x3).setCell ⟨w.heap.size, 4, none⟩ x4) d m r l cs :=
  DkTo.box h0 ((Below.refl _ _).alloc (Nat.le_refl _) _) h w.heap.size (Nat.le_refl _) (by simp) ((((((Kept.refl (fun x => x = w.heap.size) w3).setCell ⟨w.heap.size, 0, none⟩ _ rfl).setCell ⟨w.heap.size, 1, none⟩ _ rfl).setCell ⟨w.heap.size, 2, none⟩ _ rfl).setCell ⟨w.heap.size, 3, none⟩ _ rfl).setCell ⟨w.heap.size, 4, none⟩ _ rfl)
/-- what a get answers -/
def getB (v a : Nat) (g : Bool) (t : ByteArray) (had : Bool) : ByteArray := if had then entB v a g t ++ cachedS else entB v a g t
set_option maxHeartbeats 8000000 in
theorem deskGet_ok {S : Nat → Prop} {w : World} {d m r : Nat} {l : List Deed} {cs cs' : List (List En)} (h : Dk S w d m r l cs) (nb no nc a b c : Nat) (vw : Value) (n0 : w.cell? ⟨nb, no, none⟩ = some (.int .i64 a)) (n1 : w.cell? ⟨nb, no + 1, none⟩ = some (.int .i64 b)) (n2 : w.cell? ⟨nb, no + 2, none⟩ = some (.int .i64 c)) (hSn : ¬ S nb)
    {x0 : Int} {x1 x2 : Nat} {x3 had : Bool} {x4 : ByteArray} (hx : mGet l cs a b c = (cs', ⟨x0, x1, x2, x3, x4⟩, had, 0)) (hv : x1 ≤ 1000) (ha : x2 ≤ 1000) (ht : x4.size ≤ 12) :
    Calls Tryz.prog 124 #[.pointer (some ⟨d, 0, none⟩), .slice (some ⟨nb, no, none⟩) 3 nc, vw] w fun e w' => e = .returned (.tuple #[.string (getB x1 x2 x3 x4 had), .nilIface]) ∧ DkTo S w w' d m r l cs' := by
  have d0 := h.d0
  have hSd := h.dS
  have hg := mGet_good h.good a b c
  rw [hx] at hg
  have HP : Hid (∀ W, Below w.heap.size w W → Calls Tryz.prog 13 #[.pointer (some ⟨m, 0, none⟩), .int .i64 a, .int .i64 b, .int .i64 c] W fun e w' => e = .returned (.tuple #[.agg #[.int .i64 x0, .int .i64 x1, .int .i64 x2, .bool x3, .string x4], .bool had, .nilIface]) ∧ DkTo S W w' d m r l cs') := fun W hW => by
    have c := mGet_o (h.mesh.grown hW) h.good hx
    rw [eV_zeroN] at c
    exact c.mono fun e w' hx => ⟨hx.1, (h.grown hW).to hx.2 hg⟩
  have kp : ∀ w3, DkTo S w w3 d m r l cs' → w3.cell? ⟨d, 0, none⟩ = some (.pointer (some ⟨m, 0, none⟩)) ∧ w3.cell? ⟨nb, no, none⟩ = some (.int .i64 a) ∧ w3.cell? ⟨nb, no + 1, none⟩ = some (.int .i64 b) ∧ w3.cell? ⟨nb, no + 2, none⟩ = some (.int .i64 c) := fun w3 hd => ⟨hd.1.at d0 hSd, hd.1.at n0 hSn, hd.1.at n1 hSn, hd.1.at n2 hSn⟩
  have KP : Hid _ := kp
  have KA : Hid (∀ w3, DkTo S w w3 d m r l cs' → ∀ o, (w3.alloc o).cell? ⟨d, 0, none⟩ = some (.pointer (some ⟨m, 0, none⟩)) ∧ (w3.alloc o).cell? ⟨nb, no, none⟩ = some (.int .i64 a) ∧ (w3.alloc o).cell? ⟨nb, no + 1, none⟩ = some (.int .i64 b) ∧ (w3.alloc o).cell? ⟨nb, no + 2, none⟩ = some (.int .i64 c)) := fun w3 hd o => kp _ (hd.below ((Below.refl _ _).alloc (Nat.le_refl _) _))
  clear kp
  have HD0 : Hid (Dk S w d m r l cs) := h
  have HS : Hid (¬ S d ∧ ¬ S nb) := ⟨hSd, hSn⟩
  have HE : Hid (∀ W, Gl W → Calls Tryz.prog 167 #[.agg #[.int .i64 x0, .int .i64 x1, .int .i64 x2, .bool x3, .string x4]] W fun e w' => e = .returned (.string (entB x1 x2 x3 x4)) ∧ Below W.heap.size W w') := fun W hW => entryText_c x0 x1 x2 x3 x4 W hv ha ht hW
  have hz : (entB x1 x2 x3 x4).size ≤ 100 := by
    have z1 := digS_size x1 (by omega)
    have z2 := digS_size x2 (by omega)
    have z3 : (if x3 then goneS else x4).size ≤ 12 := by
      cases x3
      · exact ht
      · show goneS.size ≤ 12; decide
    have e1 : dashS.size = 1 := rfl
    have e2 : blankS.size = 1 := rfl
    simp only [entB, ByteArray.size_append, e1, e2]
    omega
  have hz2 : ¬ ((entB x1 x2 x3 x4).size + 7 > 9223372036854775807) := by omega
  clear h hg hSd hSn hx hv ha ht hz
  have kd := World.new_ne w _ d0
  have kb := World.new_ne w _ n0
  have kd2 := Ne.symm kd
  have kb2 := Ne.symm kb
  go_enter Tryz.func124, Tryz.ntmps124
  go_upto_region 1 with fail
  go_cut [8, 9, 10] (fun c8 c9 c10 wc => ∃ q, c8 = .pointer (some ⟨q, 0, none⟩) ∧ c9 = .bool had ∧ c10 = .nilIface ∧ Hid (BoxAt wc q x0 x1 x2 x3 x4) ∧ Hid (DkTo S w wc d m r l cs'))
  case first =>
    go_region_held3 (fun w' => w'.cell? ⟨d, 0, none⟩ = some (.pointer (some ⟨m, 0, none⟩)) ∧ w'.cell? ⟨nb, no, none⟩ = some (.int .i64 a) ∧ w'.cell? ⟨nb, no + 1, none⟩ = some (.int .i64 b) ∧ w'.cell? ⟨nb, no + 2, none⟩ = some (.int .i64 c)) (first | go_keep | (exact KA.out _ HD.out _) | (exact KP.out _ HD.out)) (first | (go_at_call 13; refine Calls.mono (HP.out _ (by go_grown)) ?_; rintro e w3 ⟨rfl, hd⟩; have HD : Hid (DkTo S w w3 d m r l cs') := DkTo.after (by go_grown) hd; try (with_reducible (obtain ⟨y0, y1, y2, y3, y4, yf, HZ⟩ := DkTo.zeroD HD0.out hd)); obtain ⟨q0, q1, q2, q3⟩ := KP.out _ HD.out; have kn1 := World.new_ne w3 _ q0; have kn2 := World.new_ne w3 _ q1; clear hd))
    all_goals go_wp2_with fail
    all_goals go_meet
    all_goals first | exact ⟨_, rfl, rfl, rfl, BoxAt.set ⟨y0, y1, y2, y3, y4, yf⟩ _ _ _ _ _, dget_end HD0.out HZ.out _ _ _ _ _⟩ | exact ⟨_, rfl, rfl, rfl, box_new _ _ _ _ _ _ _ rfl, DkTo.below HD.out ((Below.refl _ _).alloc (Nat.le_refl _) _)⟩
  case rest =>
  obtain ⟨q, h8, h9, h10, hbx, hdk⟩ := hcut
  subst h8
  subst h9
  subst h10
  have HGl : Hid (Gl wc) := DkTo.gl hdk.out
  have HDk : Hid (DkTo S w wc d m r l cs') := hdk
  obtain ⟨g0, g1, g2, g3, g4, gf⟩ := hbx.out
  clear hbx hdk n0 n1 n2 d0 kd kb kd2 kb2 KP KA HP
  cases had
  · go_wp2_with fail
    refine (HE.out _ HGl.out).mono ?_
    rintro e w5 ⟨rfl, hb⟩
    have HB : Hid (Below wc.heap.size wc w5) := hb
    clear hb
    go_wp2_with fail
    go_ret2
    exact ⟨rfl, DkTo.below HDk.out HB.out⟩
  · go_wp2_with fail
    refine (HE.out _ HGl.out).mono ?_
    rintro e w5 ⟨rfl, hb⟩
    have HB : Hid (Below wc.heap.size wc w5) := hb
    clear hb
    go_wp2_with fail
    go_ret2
    exact ⟨rfl, DkTo.below HDk.out HB.out⟩
set_option maxHeartbeats 8000000 in
theorem deskGet_bad {S : Nat → Prop} {w : World} {d m r : Nat} {l : List Deed} {cs cs' : List (List En)} (h : Dk S w d m r l cs) (nb no nc a b c : Nat) (vw : Value) (n0 : w.cell? ⟨nb, no, none⟩ = some (.int .i64 a)) (n1 : w.cell? ⟨nb, no + 1, none⟩ = some (.int .i64 b)) (n2 : w.cell? ⟨nb, no + 2, none⟩ = some (.int .i64 c)) (hSn : ¬ S nb)
    {x0 x1 x2 n : Int} {x3 had : Bool} {x4 : ByteArray} (hx : mGet l cs a b c = (cs', ⟨x0, x1, x2, x3, x4⟩, had, n)) (hn : n ≠ 0) :
    Calls Tryz.prog 124 #[.pointer (some ⟨d, 0, none⟩), .slice (some ⟨nb, no, none⟩) 3 nc, vw] w fun e w' => e = .returned (.tuple #[.string ⟨#[]⟩, eV n]) ∧ DkTo S w w' d m r l cs' := by
  have d0 := h.d0
  have hSd := h.dS
  have hg := mGet_good h.good a b c
  rw [hx] at hg
  have HP : Hid (∀ W, Below w.heap.size w W → Calls Tryz.prog 13 #[.pointer (some ⟨m, 0, none⟩), .int .i64 a, .int .i64 b, .int .i64 c] W fun e w' => e = .returned (.tuple #[.agg #[.int .i64 x0, .int .i64 x1, .int .i64 x2, .bool x3, .string x4], .bool had, .iface 85 (.int .i64 n)]) ∧ DkTo S W w' d m r l cs') := fun W hW => by
    have c := mGet_o (h.mesh.grown hW) h.good hx
    rw [eV_errN hn] at c
    exact c.mono fun e w' hx => ⟨hx.1, (h.grown hW).to hx.2 hg⟩
  have kp : ∀ w3, DkTo S w w3 d m r l cs' → w3.cell? ⟨d, 0, none⟩ = some (.pointer (some ⟨m, 0, none⟩)) ∧ w3.cell? ⟨nb, no, none⟩ = some (.int .i64 a) ∧ w3.cell? ⟨nb, no + 1, none⟩ = some (.int .i64 b) ∧ w3.cell? ⟨nb, no + 2, none⟩ = some (.int .i64 c) := fun w3 hd => ⟨hd.1.at d0 hSd, hd.1.at n0 hSn, hd.1.at n1 hSn, hd.1.at n2 hSn⟩
  have KP : Hid _ := kp
  have KA : Hid (∀ w3, DkTo S w w3 d m r l cs' → ∀ o, (w3.alloc o).cell? ⟨d, 0, none⟩ = some (.pointer (some ⟨m, 0, none⟩)) ∧ (w3.alloc o).cell? ⟨nb, no, none⟩ = some (.int .i64 a) ∧ (w3.alloc o).cell? ⟨nb, no + 1, none⟩ = some (.int .i64 b) ∧ (w3.alloc o).cell? ⟨nb, no + 2, none⟩ = some (.int .i64 c)) := fun w3 hd o => kp _ (hd.below ((Below.refl _ _).alloc (Nat.le_refl _) _))
  clear kp
  have HD0 : Hid (Dk S w d m r l cs) := h
  have HS : Hid (¬ S d ∧ ¬ S nb) := ⟨hSd, hSn⟩
  rw [eV_errN hn]
  clear h hg hSd hSn hx
  have kd := World.new_ne w _ d0
  have kb := World.new_ne w _ n0
  have kd2 := Ne.symm kd
  have kb2 := Ne.symm kb
  go_enter Tryz.func124, Tryz.ntmps124
  go_upto_region 1 with fail
  go_cut [8, 9, 10] (fun c8 c9 c10 wc => ∃ q, c8 = .pointer (some ⟨q, 0, none⟩) ∧ c9 = .bool had ∧ c10 = .iface 85 (.int .i64 n) ∧ Hid (BoxAt wc q x0 x1 x2 x3 x4) ∧ Hid (DkTo S w wc d m r l cs'))
  case first =>
    go_region_held3 (fun w' => w'.cell? ⟨d, 0, none⟩ = some (.pointer (some ⟨m, 0, none⟩)) ∧ w'.cell? ⟨nb, no, none⟩ = some (.int .i64 a) ∧ w'.cell? ⟨nb, no + 1, none⟩ = some (.int .i64 b) ∧ w'.cell? ⟨nb, no + 2, none⟩ = some (.int .i64 c)) (first | go_keep | (exact KA.out _ HD.out _) | (exact KP.out _ HD.out)) (first | (go_at_call 13; refine Calls.mono (HP.out _ (by go_grown)) ?_; rintro e w3 ⟨rfl, hd⟩; have HD : Hid (DkTo S w w3 d m r l cs') := DkTo.after (by go_grown) hd; try (with_reducible (obtain ⟨y0, y1, y2, y3, y4, yf, HZ⟩ := DkTo.zeroD HD0.out hd)); obtain ⟨q0, q1, q2, q3⟩ := KP.out _ HD.out; have kn1 := World.new_ne w3 _ q0; have kn2 := World.new_ne w3 _ q1; clear hd))
    all_goals go_wp2_with fail
    all_goals go_meet
    all_goals first | exact ⟨_, rfl, rfl, rfl, BoxAt.set ⟨y0, y1, y2, y3, y4, yf⟩ _ _ _ _ _, dget_end HD0.out HZ.out _ _ _ _ _⟩ | exact ⟨_, rfl, rfl, rfl, box_new _ _ _ _ _ _ _ rfl, DkTo.below HD.out ((Below.refl _ _).alloc (Nat.le_refl _) _)⟩
  case rest =>
  obtain ⟨q, h8, h9, h10, hbx, hdk⟩ := hcut
  subst h8
  subst h9
  subst h10
  have HGl : Hid (Gl wc) := DkTo.gl hdk.out
  have HDk : Hid (DkTo S w wc d m r l cs') := hdk
  obtain ⟨g0, g1, g2, g3, g4, gf⟩ := hbx.out
  clear hbx hdk n0 n1 n2 d0 kd kb kd2 kb2 KP KA HP
  go_wp2_with fail
  go_ret2
  exact ⟨rfl, HDk.out⟩
end Go.Proofs.YtpcnfoaoajfhlaaGreatDoor

namespace Go.Proofs.YtpcnfoaoajfhlaaGreatDoor
set_option linter.unusedVariables false
set_option linter.unusedSimpArgs false
open Go.RowKit Go.Shelf Go.Lib Go.Sort

def sortR : Go.Shelf.Ren := ⟨fun | 6 => 60 | 14 => 105 | 15 => 106 | 20 => 147 | 21 => 148 | 22 => 149 | 23 => 150 | 24 => 151 | 25 => 152 | 26 => 153 | 27 => 154 | 28 => 155 | 29 => 156 | 46 => 185 | 47 => 186 | 48 => 187 | 49 => 188 | 50 => 189 | 57 => 200 | n => n, fun | 22 => 59 | 24 => 110 | 25 => 112 | 3 => 3 | 39 => 170 | 0 => 0 | 53 => 224 | 55 => 226 | 4 => 4 | 46 => 218 | 45 => 217 | 50 => 143 | 5 => 5 | 9 => 9 | 66 => 261 | 70 => 265 | 76 => 271 | 77 => 40 | n => n, fun n => n⟩
theorem sortL : Go.Proofs.SlLaysF0.n6 Tryz.prog sortR := {
  mixed := by kernel_rfl
  f6 := ⟨Tryz.f60.name, by kernel_rfl, Tryz.func60.trans (congrArg some (by kernel_rfl))⟩
  f14 := ⟨Tryz.f105.name, by kernel_rfl, Tryz.func105.trans (congrArg some (by kernel_rfl))⟩
  f15 := Tryz.func106.trans (congrArg some (by kernel_rfl))
  f20 := ⟨Tryz.f147.name, by kernel_rfl, Tryz.func147.trans (congrArg some (by kernel_rfl))⟩
  f21 := ⟨Tryz.f148.name, by kernel_rfl, Tryz.func148.trans (congrArg some (by kernel_rfl))⟩
  f22 := ⟨Tryz.f149.name, by kernel_rfl, Tryz.func149.trans (congrArg some (by kernel_rfl))⟩
  f23 := ⟨Tryz.f150.name, by kernel_rfl, Tryz.func150.trans (congrArg some (by kernel_rfl))⟩
  f24 := ⟨Tryz.f151.name, by kernel_rfl, Tryz.func151.trans (congrArg some (by kernel_rfl))⟩
  f25 := ⟨Tryz.f152.name, by kernel_rfl, Tryz.func152.trans (congrArg some (by kernel_rfl))⟩
  f26 := ⟨Tryz.f153.name, by kernel_rfl, Tryz.func153.trans (congrArg some (by kernel_rfl))⟩
  f27 := ⟨Tryz.f154.name, by kernel_rfl, Tryz.func154.trans (congrArg some (by kernel_rfl))⟩
  f28 := Tryz.func155.trans (congrArg some (by kernel_rfl))
  f29 := Tryz.func156.trans (congrArg some (by kernel_rfl))
  f46 := ⟨Tryz.f185.name, by kernel_rfl, Tryz.func185.trans (congrArg some (by kernel_rfl))⟩
  f47 := Tryz.func186.trans (congrArg some (by kernel_rfl))
  f48 := Tryz.func187.trans (congrArg some (by kernel_rfl))
  f49 := ⟨Tryz.f188.name, by kernel_rfl, Tryz.func188.trans (congrArg some (by kernel_rfl))⟩
  f50 := ⟨Tryz.f189.name, by kernel_rfl, Tryz.func189.trans (congrArg some (by kernel_rfl))⟩
  f57 := ⟨Tryz.f200.name, by kernel_rfl, Tryz.func200.trans (congrArg some (by kernel_rfl))⟩
  t22 := Tryz.underlying59
  a22 := Tryz.isAgg59
  z22 := Tryz.sizeOf59
  v22 := Tryz.zeroValue59
  t25 := Tryz.underlying112
  a25 := Tryz.isAgg112
  z25 := Tryz.sizeOf112
  v25 := Tryz.zeroValue112
  t3 := Tryz.underlying3
  a3 := Tryz.isAgg3
  z3 := Tryz.sizeOf3
  v3 := Tryz.zeroValue3
  t39 := Tryz.underlying170
  a39 := Tryz.isAgg170
  z39 := Tryz.sizeOf170
  v39 := Tryz.zeroValue170
  t0 := Tryz.underlying0
  a0 := Tryz.isAgg0
  z0 := Tryz.sizeOf0
  v0 := Tryz.zeroValue0
  t53 := Tryz.underlying224
  a53 := Tryz.isAgg224
  z53 := Tryz.sizeOf224
  v53 := Tryz.zeroValue224
  t55 := Tryz.underlying226
  a55 := Tryz.isAgg226
  z55 := Tryz.sizeOf226
  v55 := Tryz.zeroValue226
  t4 := Tryz.underlying4
  a4 := Tryz.isAgg4
  z4 := Tryz.sizeOf4
  v4 := Tryz.zeroValue4
  t46 := Tryz.underlying218
  a46 := Tryz.isAgg218
  z46 := Tryz.sizeOf218
  v46 := Tryz.zeroValue218
  t45 := Tryz.underlying217
  a45 := Tryz.isAgg217
  z45 := Tryz.sizeOf217
  v45 := Tryz.zeroValue217
  t50 := Tryz.underlying143
  a50 := Tryz.isAgg143
  z50 := Tryz.sizeOf143
  v50 := Tryz.zeroValue143
  t5 := Tryz.underlying5
  a5 := Tryz.isAgg5
  z5 := Tryz.sizeOf5
  v5 := Tryz.zeroValue5
  t9 := Tryz.underlying9
  a9 := Tryz.isAgg9
  z9 := Tryz.sizeOf9
  v9 := Tryz.zeroValue9
  t66 := Tryz.underlying261
  a66 := Tryz.isAgg261
  z66 := Tryz.sizeOf261
  v66 := Tryz.zeroValue261
  t70 := Tryz.underlying265
  a70 := Tryz.isAgg265
  z70 := Tryz.sizeOf265
  v70 := Tryz.zeroValue265
  t76 := Tryz.underlying271
  a76 := Tryz.isAgg271
  z76 := Tryz.sizeOf271
  v76 := Tryz.zeroValue271
  t77 := Tryz.underlying40
  a77 := Tryz.isAgg40
  z77 := Tryz.sizeOf40
  v77 := Tryz.zeroValue40 }

def encP (x : Pt) : List Value := [.int .i64 x.p, .int .i64 x.n]
theorem cmpLaysP [Inhabited Pt] (blk off size : Nat) (w : World) : CmpLays Tryz.prog 61 #[] encP 2 cfP blk off size w := fun _ _ _ _ x y => cmpP_c x.p x.n y.p y.n _
theorem sortFunc_c [Inhabited Pt] (blk off cap : Nat) (d : Array Pt) (w : World) (hH : HoldsK encP 2 w blk off d) (hblk : blk < w.heap.size) (hsz : d.size < 4611686018427387904) :
    Calls Tryz.prog 60 #[.slice (some ⟨blk, off, none⟩) d.size cap, .func (.func 61) #[] #[]] w fun e w' =>
      e = .returned (.tuple #[]) ∧ ∃ n os, w' = sortWorldK encP 2 w blk off n (d.toList.mergeSort fun x y => !(ltOf cfP) y x).toArray os :=
  AnyQ.slices_SortFunc_total sortL 2 Tryz.isAgg110 Tryz.sizeOf110 encP (fun _ => rfl) (fun x v hv => by simp [encP] at hv; rcases hv with rfl | rfl <;> rfl) cfP swoP 61 #[] blk off cap d w (enters_of Tryz.func61 (by kernel_rfl) rfl) (cmpLaysP blk off d.size w) hH hblk hsz totP
end Go.Proofs.YtpcnfoaoajfhlaaGreatDoor

namespace Go.Proofs.YtpcnfoaoajfhlaaGreatDoor
set_option linter.unusedVariables false
set_option linter.unusedSimpArgs false
open Go.RowKit Go.Shelf Go.Lib Go.Sort

theorem rowT_flat [Inhabited Pt] (l : List Pt) (j : Nat) (h : j < l.length * 2) : (rowT l)[j]? = some ((encP (l.toArray[j / 2]!))[j % 2]!) := by
  have hj : j / 2 < l.length := by omega
  obtain ⟨a0, a1⟩ := rowT_get l (j / 2) hj
  have e : l.toArray[j / 2]! = l[j / 2] := by simp [hj]
  rw [e]
  rcases Nat.mod_two_eq_zero_or_one j with h0 | h0
  · have hr : j = j / 2 * 2 := by omega
    rw [h0]
    conv => lhs; rw [hr]
    rw [a0]
    rfl
  · have hr : j = j / 2 * 2 + 1 := by omega
    rw [h0]
    conv => lhs; rw [hr]
    rw [a1]
    rfl
theorem holdsP [Inhabited Pt] {B : Nat} {w : World} {v : Value} {l : List Pt} (h : OwnP B w v l) (hne : l ≠ []) : ∃ g cap, v = .slice (some ⟨g, 0, none⟩) l.length cap ∧ B ≤ g ∧ g < w.heap.size ∧ HoldsK encP 2 w g 0 l.toArray := by
  have hcell : ∀ g, v.ownBlock = some g → ∀ j u, (rowT l)[j]? = some u → w.cell? ⟨g, j, none⟩ = some u := fun g hg j u hu => by
    have := h.cells (g := g) hg j u hu
    simpa [Addr.add_lit] using this
  rcases h.2 with ⟨rfl, h0⟩ | ⟨g, cap, cur, rfl, hb, hg, hc1, hc2, _⟩
  · exact absurd (List.length_eq_zero_iff.1 h0) hne
  · refine ⟨g, cap, rfl, hb, (Array.getElem?_eq_some_iff.1 hg).1, fun j hj => ?_⟩
    rw [size_flatK] at hj
    have hj' : j < l.length * 2 := by simpa using hj
    rw [get_flatK _ _ _ _ hj, Nat.zero_add]
    exact ⟨hcell g rfl j _ (rowT_flat l j hj'), by simp [World.frozen?, hg]⟩
theorem below_sorted [Inhabited Pt] {B : Nat} {w : World} {g n : Nat} {d : Array Pt} {os : Array Obj} (hg : B ≤ g) (hB : B ≤ w.heap.size) : RowKit.Below B w (sortWorldK encP 2 w g 0 n d os) := by
  have h1 : RowKit.Below B w (putRowK encP 2 (Sort.ahead w n) g 0 d) := Lib.below_putRow (RowKit.Below.refl B w) hg
  refine h1.trans ⟨rfl, rfl, rfl, ?_, fun c hc => ?_⟩
  · show _ ≤ (_ ++ os).size
    rw [Array.size_append]
    exact Nat.le_add_right _ _
  · show (_ ++ os)[c]? = _
    rw [Array.getElem?_append_left (Nat.lt_of_lt_of_le hc (Nat.le_trans hB h1.size))]
theorem sortRow_c (B : Nat) (v : Value) (l : List Pt) (w : World) (h : OwnP B w v l) (hne : l ≠ []) (hB : B ≤ w.heap.size) (hl : l.length ≤ 2000) :
    Calls Tryz.prog 60 #[v, .func (.func 61) #[] #[]] w fun e w' => e = .returned (.tuple #[]) ∧ PtsIs w' v (l.mergeSort fun x y => !(ltOf cfP) y x) ∧ RowKit.Below B w w' := by
  have inh : Inhabited Pt := ⟨⟨0, 0⟩⟩
  obtain ⟨g, cap, rfl, hb, hg, hH⟩ := holdsP h hne
  have hc := sortFunc_c g 0 cap l.toArray w hH hg (by rw [List.size_toArray]; omega)
  rw [List.size_toArray] at hc
  refine hc.mono ?_
  rintro e w' ⟨rfl, n, os, rfl⟩
  refine ⟨rfl, ?_, below_sorted hb hB⟩
  have e1 : (l.toArray.toList.mergeSort fun x y => !(ltOf cfP) y x) = (l.mergeSort fun x y => !(ltOf cfP) y x) := by simp
  rw [e1]
  have hlen : (l.mergeSort fun x y => !(ltOf cfP) y x).length = l.length := List.length_mergeSort ..
  have hs : (l.mergeSort fun x y => !(ltOf cfP) y x).toArray.size = l.toArray.size := by simp
  have hH' := holdsK_sortWorldK_c encP 2 w g 0 l.toArray (l.mergeSort fun x y => !(ltOf cfP) y x).toArray n os hH hg hs
  generalize (l.mergeSort fun x y => !(ltOf cfP) y x) = m at *
  refine ⟨by unfold maxLen; omega, _, cap, by rw [hlen], fun _ => ⟨g, 0, rfl, Nat.lt_of_lt_of_le hg (below_sorted (B := 0) (Nat.zero_le _) (Nat.zero_le _)).size, fun j hj => ?_⟩⟩
  have e2 : m.toArray[j]! = m[j] := by simp [hj]
  have k0 := (hH'.cell (i := j) (c := 0) (by simpa using hj) (by omega)).1
  have k1 := (hH'.cell (i := j) (c := 1) (by simpa using hj) (by omega)).1
  rw [e2] at k0 k1
  exact ⟨k0, k1⟩
end Go.Proofs.YtpcnfoaoajfhlaaGreatDoor

namespace Go.Proofs.YtpcnfoaoajfhlaaGreatDoor
set_option linter.unusedVariables false
set_option linter.unusedSimpArgs false
open Go.RowKit

def Pt.same (x y : Pt) : Bool := (x.p == y.p) && (x.n == y.n)
theorem Pt.same_iff (x y : Pt) : x.same y = true ↔ x = y := by
  cases x
  cases y
  simp [Pt.same]
theorem eql_ptIn (x y : Pt) (w : World) : (Op.equalIn 10000 110 x.val y.val).run Tryz.prog w = .ok (x.same y) w := by
  unfold Pt.val
  rw [run_equalIn_agg w 9999 110 _ _ (by kernel_rfl) (by kernel_rfl)]
  simp [Op.eqFields, Program.fieldsOf, Tryz.underlying110, go_sem, Tryz.underlying3, Pt.same]
  by_cases h0 : x.p = y.p <;> by_cases h1 : x.n = y.n <;> simp [h0, h1]
theorem eql_pt (x0 x1 y0 y1 : Int) (b : Bool) (h : Pt.same ⟨x0, x1⟩ ⟨y0, y1⟩ = b) (w : World) : (binOp .eql 110 (.agg #[.int .i64 x0, .int .i64 x1]) (.agg #[.int .i64 y0, .int .i64 y1])).run Tryz.prog w = .ok (.bool b) w := by
  have h1 := eql_ptIn ⟨x0, x1⟩ ⟨y0, y1⟩ w
  rw [h] at h1
  unfold Pt.val at h1
  rw [run_eql_struct, h1]
  rfl
theorem neq_pt (x0 x1 y0 y1 : Int) (b : Bool) (h : Pt.same ⟨x0, x1⟩ ⟨y0, y1⟩ = b) (w : World) : (binOp .neq 110 (.agg #[.int .i64 x0, .int .i64 x1]) (.agg #[.int .i64 y0, .int .i64 y1])).run Tryz.prog w = .ok (.bool !b) w := by
  have h1 := eql_ptIn ⟨x0, x1⟩ ⟨y0, y1⟩ w
  rw [h] at h1
  unfold Pt.val at h1
  rw [run_neq_struct, h1]
  rfl
theorem eqGuard_pt : Tryz.prog.eqGuardType Tryz.prog.depth 110 = false := by kernel_rfl
theorem rise_unlike {l : List Pt} (h : l.Pairwise ltP) {j : Nat} (hj : j + 1 < l.length) : Pt.same l[j + 1] l[j] = false := by
  have h1 := List.pairwise_iff_getElem.1 h j (j + 1) (by omega) hj (by omega)
  cases hs : Pt.same l[j + 1] l[j]
  · rfl
  · rw [Pt.same_iff] at hs
    rw [hs] at h1
    unfold ltP at h1
    omega
set_option maxHeartbeats 4000000 in
theorem compact_c (v : Value) (l : List Pt) (w : World) (hr : PtsIs w v l) (hrise : l.Pairwise ltP) (hl : l.length ≤ 2000) :
    Calls Tryz.prog 62 #[v] w fun e w' => e = .returned v ∧ Below w.heap.size w w' := by
  obtain ⟨hlen, pp, cap, rfl, hrow⟩ := hr
  have HRow : Hid (l ≠ [] → ∃ b o, pp = some ⟨b, o, none⟩ ∧ b < w.heap.size ∧ ∀ j (h : j < l.length), PtAt w b (o + j * 2) l[j]) := hrow
  have HRise : Hid (l.Pairwise ltP) := hrise
  clear hrow hrise
  by_cases h2 : l.length < 2
  · have h2i : (l.length : Int) < 2 := by omega
    clear HRow HRise
    generalize l.length = n at *
    go_enter Tryz.func62, Tryz.ntmps62
    go_wp2_with fail
    go_ret
    exact ⟨rfl, Below.refl _ _⟩
  have h2i : ¬ (l.length : Int) < 2 := by omega
  have hne : l ≠ [] := by intro h; rw [h] at h2; simp at h2
  obtain ⟨b, o, rfl, hbw, hat⟩ := HRow.out hne
  have HAt : Hid (∀ j (h : j < l.length), PtAt w b (o + j * 2) l[j]) := hat
  obtain ⟨n, HN⟩ : ∃ n, Hid (l.length = n) := ⟨_, rfl⟩
  clear hat HRow hne
  rw [HN.out] at hlen h2 h2i hl ⊢
  have hgd := eqGuard_pt
  go_enter Tryz.func62, Tryz.ntmps62
  go_wp2_with fail
  go_loopw [3] (fun s3 wr => ∃ j : Nat, j + 1 ≤ n ∧ s3 = .int .i64 ((j + 1 : Nat) : Int) ∧ Hid (Below w.heap.size w wr)) (fun i _ => n - (intOf i).toNat)
  case atStart => exact ⟨0, by omega, rfl, Below.refl _ _⟩
  case round =>
    obtain ⟨j, hj, rfl, HB⟩ := hrel
    by_cases hlt : j + 1 < n
    · have hjl : j + 1 < l.length := by rw [HN.out]; exact hlt
      have HA1 : Hid (PtAt wr b (o + (j + 1) * 2) l[j + 1]) := (HAt.out _ hjl).of_block (HB.out.block b hbw)
      have HA0 : Hid (PtAt wr b (o + j * 2) l[j]) := (HAt.out j (by omega)).of_block (HB.out.block b hbw)
      have HS : Hid (Pt.same l[j + 1] l[j] = false) := rise_unlike HRise.out hjl
      obtain ⟨x, HX⟩ : ∃ x, Hid (l[j + 1] = x) := ⟨l[j + 1], show l[j + 1] = l[j + 1] from rfl⟩
      obtain ⟨y, HY⟩ : ∃ y, Hid (l[j]'(by omega) = y) := ⟨l[j]'(by omega), show l[j]'(by omega) = l[j]'(by omega) from rfl⟩
      rw [HX.out] at HA1 HS
      rw [HY.out] at HA0 HS
      obtain ⟨x0, x1⟩ := x
      obtain ⟨y0, y1⟩ := y
      obtain ⟨c0, c1⟩ := HA1.out
      obtain ⟨d0, d1⟩ := HA0.out
      dsimp only at c0 c1 d0 d1
      have hq := eql_pt x0 x1 y0 y1 false HS.out
      have hwp : IntKind.i64.wrap (j : Int) = (j : Int) := by rw [IntKind.wrap_i64]; omega
      have hin : (j : Int) < (n : Int) := by omega
      have hin' : (j : Int) + 1 < (n : Int) := by omega
      have hin2 : ((j + 1 : Nat) : Int) < (n : Int) := by omega
      go_upto_region 6 with fail
      go_quiet (fail)
      go_wp2_with fail
      go_roundw
      case rel => exact ⟨j + 1, by omega, by go_num, HB.out.trans (below_drewN _ _ _)⟩
      case measure => simp [intOf]; omega
    · have hin2 : ¬ ((j + 1 : Nat) : Int) < (n : Int) := by omega
      have hin3 : ¬ (j : Int) + 1 < (n : Int) := by omega
      go_wp2_with fail
      go_ret
      exact ⟨rfl, HB.out⟩
end Go.Proofs.YtpcnfoaoajfhlaaGreatDoor
