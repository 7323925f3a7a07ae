/-
  Package run by its contracts: a desk; what it does with a put and a delete.
  Package run by its contracts: what a desk does with a delete, a seq, a swap.
  Package run by its contracts: how an entry is told.
  Package run by its contracts: what a desk does with a get.
-/
import Derived.Test.YtpcnfoaoajfhlaaGreatDoorRaaz
import Derived.Test.YtpcnfoaoajfhlaaGreatDoorRaar
namespace Go.Proofs.YtpcnfoaoajfhlaaGreatDoor
set_option linter.unusedVariables false
set_option linter.unusedSimpArgs false
set_option linter.unusedVariables false
set_option linter.unusedSimpArgs false
open Go.RowKit

theorem powGz : Tryz.prog.globalNamed powName = some 2 := by kernel_rfl
theorem Gl.low {w w' : World} (h : Gl w) (hs : 7 ≤ w.heap.size) (hb : Below 7 w w') : Gl w' := by
  obtain ⟨m, hm⟩ := h.max
  refine ⟨h.err.below (by omega) hb, ?_, m, (hb.cell (p := ⟨1, 0, none⟩) (by show 1 < 7; omega)).trans hm⟩
  have ht := h.tab
  unfold Lib.TabIs World.var? at ht ⊢
  rw [powGz] at ht ⊢
  simp only [Option.bind_some] at ht ⊢
  rw [hb.block 2 (by omega)]
  exact ht
theorem Kept.low {S : Nat → Prop} {w w' : World} (h : Kept S w w') (hs : 7 ≤ w.heap.size) (hS : ∀ x, S x → 7 ≤ x) : Below 7 w w' :=
  ⟨h.os, h.tape, h.output, h.size, fun k hk => h.block k (Nat.lt_of_lt_of_le hk hs) (fun hx => by have := hS k hx; omega)⟩
/-- a desk at d: its mesh at m, its table at r; the mesh lies in S -/
structure Dk (S : Nat → Prop) (w : World) (d m r : Nat) (l : List Deed) (cs : List (List En)) : Prop where
  mesh : MeshAt S w m l cs
  good : GoodM l cs
  d0 : w.cell? ⟨d, 0, none⟩ = some (.pointer (some ⟨m, 0, none⟩))
  d1 : w.cell? ⟨d, 1, none⟩ = some (.map (some r))
  tab : w.heap[r]? = some (.map wantE7 7)
  gl : Gl w
  lo : ∀ x, S x → 7 ≤ x
  ng : 7 ≤ w.heap.size
  dS : ¬ S d
  rS : ¬ S r
/-- what a desk's call leaves -/
def DkTo (S : Nat → Prop) (w w' : World) (d m r : Nat) (l : List Deed) (cs : List (List En)) : Prop := Kept S w w' ∧ ∃ S', Dk S' w' d m r l cs ∧ ∀ x, S' x → S x ∨ w.heap.size ≤ x
theorem Dk.lt {S : Nat → Prop} {w : World} {d m r : Nat} {l : List Deed} {cs : List (List En)} (h : Dk S w d m r l cs) : d < w.heap.size ∧ r < w.heap.size :=
  ⟨World.block_lt_of_cell? w _ h.d0, (Array.getElem?_eq_some_iff.1 h.tab).1⟩
theorem Dk.to {S : Nat → Prop} {w w' : World} {d m r : Nat} {l l' : List Deed} {cs cs' : List (List En)} (h : Dk S w d m r l cs) (ht : MeshTo S w w' m l' cs') (hg : GoodM l' cs') : DkTo S w w' d m r l' cs' := by
  obtain ⟨hk, S', hm, hs⟩ := ht
  obtain ⟨h1, h2⟩ := h.lt
  refine ⟨hk, S', ⟨hm, hg, (World.cell?_of_block (a := ⟨d, 0, none⟩) (hk.block d h1 h.dS)).trans h.d0, (World.cell?_of_block (a := ⟨d, 1, none⟩) (hk.block d h1 h.dS)).trans h.d1, (hk.block r h2 h.rS).trans h.tab, h.gl.low h.ng (hk.low h.ng h.lo), fun x hx => ?_, Nat.le_trans h.ng hk.size, fun hx => ?_, fun hx => ?_⟩, hs⟩
  · rcases hs x hx with h' | h'
    · exact h.lo x h'
    · have := h.ng; omega
  · rcases hs d hx with h' | h'
    · exact h.dS h'
    · omega
  · rcases hs r hx with h' | h'
    · exact h.rS h'
    · omega
theorem mDone_num (o : Out) (l : List Deed) (cs : List (List En)) (node key : Int) (h : ∃ k : Nat, o.num = k ∧ k ≤ 1001) : ∃ k : Nat, (mDone o l cs node key).num = k ∧ k ≤ 1001 := by
  unfold mDone
  split
  · exact ⟨0, rfl, by omega⟩
  · split
    · exact ⟨0, rfl, by omega⟩
    · exact h
theorem recO_num (l : List Deed) (k : Int) (g : Bool) (t : ByteArray) : ∃ n : Nat, (recO l k g t).num = n ∧ n ≤ 1001 := by
  unfold recO
  split
  · exact ⟨0, rfl, by omega⟩
  · exact ⟨l.length + 1, by simp, by omega⟩
theorem putO_num (l : List Deed) (k : Int) (t : ByteArray) : ∃ n : Nat, (putO l k t).num = n ∧ n ≤ 1001 := by
  unfold putO
  split
  · exact ⟨0, rfl, by omega⟩
  · split
    · exact ⟨0, rfl, by omega⟩
    · exact recO_num _ _ _ _
theorem delO_num (l : List Deed) (k : Int) : ∃ n : Nat, (delO l k).num = n ∧ n ≤ 1001 := by
  unfold delO
  split
  · exact ⟨0, rfl, by omega⟩
  · split
    · exact ⟨0, rfl, by omega⟩
    · exact recO_num _ _ _ _
/-- a told number, and a fault -/
def telV (o : MOut) : Value := .tuple #[.string (digS o.num.toNat), eV o.err]
theorem DkTo.below {S : Nat → Prop} {w w1 w' : World} {d m r : Nat} {l : List Deed} {cs : List (List En)} (h : DkTo S w w1 d m r l cs) (hb : Below w1.heap.size w1 w') : DkTo S w w' d m r l cs := by
  obtain ⟨hk, S', hd, hs⟩ := h
  obtain ⟨k2, S2, h2, s2⟩ := hd.to (hd.mesh.to hb) hd.good
  refine ⟨⟨k2.os.trans hk.os, k2.tape.trans hk.tape, k2.output.trans hk.output, Nat.le_trans hk.size k2.size, fun x hx hn => (hb.block x (Nat.lt_of_lt_of_le hx hk.size)).trans (hk.block x hx hn)⟩, S2, h2, fun x hx => ?_⟩
  rcases s2 x hx with h' | h'
  · exact hs x h'
  · exact .inr (Nat.le_trans hk.size h')
theorem DkTo.gl {S : Nat → Prop} {w w1 : World} {d m r : Nat} {l : List Deed} {cs : List (List En)} (h : DkTo S w w1 d m r l cs) : Gl w1 := by
  obtain ⟨_, _, hd, _⟩ := h
  exact hd.gl
/-- a cell that a call of the mesh leaves alone -/
theorem Kept.at {S : Nat → Prop} {w w1 : World} (h : Kept S w w1) {a : Addr} {v : Value} (hc : w.cell? a = some v) (hn : ¬ S a.block) : w1.cell? a = some v :=
  (World.cell?_of_block (a := a) (h.block a.block (World.block_lt_of_cell? w a hc) hn)).trans hc
set_option maxHeartbeats 8000000 in
theorem deskPut_c {S : Nat → Prop} {w : World} {d m r : Nat} {l : List Deed} {cs : List (List En)} (h : Dk S w d m r l cs) (nb no nc wb wo wc a b : Nat) (t : ByteArray) (n0 : w.cell? ⟨nb, no, none⟩ = some (.int .i64 a)) (n1 : w.cell? ⟨nb, no + 1, none⟩ = some (.int .i64 b)) (t0 : w.cell? ⟨wb, wo, none⟩ = some (.string t)) (ht : t.size ≤ maxLen) (hSn : ¬ S nb) (hSw : ¬ S wb) :
    Calls Tryz.prog 122 #[.pointer (some ⟨d, 0, none⟩), .slice (some ⟨nb, no, none⟩) 2 nc, .slice (some ⟨wb, wo, none⟩) 1 wc] w fun e w' => e = .returned (telV (mPut l cs a b t)) ∧ DkTo S w w' d m r (mPut l cs a b t).done (mPut l cs a b t).cs := by
  have d0 := h.d0
  have hSd := h.dS
  obtain ⟨o, ho⟩ : ∃ o, mPut l cs a b t = o := ⟨_, rfl⟩
  obtain ⟨k, hk, hk1⟩ : ∃ k : Nat, o.num = k ∧ k ≤ 1001 := by rw [← ho]; exact mDone_num _ _ _ _ _ (putO_num _ _ _)
  have hg := mPut_good h.good a b t
  rw [ho] at hg ⊢
  have HP : Hid (∀ W, Below w.heap.size w W → Calls Tryz.prog 10 #[.pointer (some ⟨m, 0, none⟩), .int .i64 a, .int .i64 b, .string t] W fun e w' => e = .returned (.tuple #[.int .i64 k, eV o.err]) ∧ DkTo S w w' d m r o.done o.cs) := fun W hW => by
    have c := mPut_c (h.mesh.grown hW) h.good a b t ht
    rw [ho, hk] at c
    exact c.mono fun e w' hx => ⟨hx.1, h.to (MeshTo.after hW hx.2) hg⟩
  have HW : Hid (∀ W ev, Gl W → Calls Tryz.prog 166 #[.int .i64 k, ev] W fun e w' => e = .returned (.tuple #[.string (digS k), ev]) ∧ Below W.heap.size W w') := fun W ev hW => runWritten_c k ev W (by omega) hW
  have HT : Hid (telV o = .tuple #[.string (digS k), eV o.err]) := by show _ = _; rw [telV, hk]; rfl
  rw [HT.out]
  obtain ⟨ev, hev⟩ : ∃ ev, eV o.err = ev := ⟨_, rfl⟩
  rw [hev] at HP ⊢
  have HS : Hid (¬ S d ∧ ¬ S nb ∧ ¬ S wb) := ⟨hSd, hSn, hSw⟩
  clear h hg ho hk HT hev hSd hSn hSw ht
  go_enter Tryz.func122, Tryz.ntmps122
  go_upto_region 1 with fail
  go_region_held3 (fun w' => w'.cell? ⟨d, 0, none⟩ = some (.pointer (some ⟨m, 0, none⟩)) ∧ w'.cell? ⟨nb, no, none⟩ = some (.int .i64 a) ∧ w'.cell? ⟨nb, no + 1, none⟩ = some (.int .i64 b) ∧ w'.cell? ⟨wb, wo, none⟩ = some (.string t)) (first | go_keep | (exact ⟨q0, q1, q2, q3⟩) | (exact ⟨kept_cell HB4.out q0, kept_cell HB4.out q1, kept_cell HB4.out q2, kept_cell HB4.out q3⟩)) (first | (go_at_call 10; refine Calls.mono (HP.out _ ?_) ?_; exact ⟨rfl, rfl, rfl, Nat.le_refl _, fun _ _ => rfl⟩; rintro e w3 ⟨rfl, hd⟩; have q0 := hd.1.at d0 HS.out.1; have q1 := hd.1.at n0 HS.out.2.1; have q2 := hd.1.at n1 HS.out.2.1; have q3 := hd.1.at t0 HS.out.2.2; have HD : Hid _ := hd; clear hd) | (go_at_call 166; refine Calls.mono (HW.out _ _ (DkTo.gl HD.out)) ?_; rintro e w4 ⟨rfl, hb4⟩; have HB4 : Hid (Below w3.heap.size w3 w4) := hb4; clear hb4))
  go_wp2_with fail
  go_ret2
  exact ⟨rfl, DkTo.below HD.out HB4.out⟩
end Go.Proofs.YtpcnfoaoajfhlaaGreatDoor

namespace Go.Proofs.YtpcnfoaoajfhlaaGreatDoor
set_option linter.unusedVariables false
set_option linter.unusedSimpArgs false
open Go.RowKit

set_option maxHeartbeats 8000000 in
theorem deskDelete_c {S : Nat → Prop} {w : World} {d m r : Nat} {l : List Deed} {cs : List (List En)} (h : Dk S w d m r l cs) (nb no nc a b : Nat) (vw : Value) (n0 : w.cell? ⟨nb, no, none⟩ = some (.int .i64 a)) (n1 : w.cell? ⟨nb, no + 1, none⟩ = some (.int .i64 b)) (hSn : ¬ S nb) :
    Calls Tryz.prog 123 #[.pointer (some ⟨d, 0, none⟩), .slice (some ⟨nb, no, none⟩) 2 nc, vw] w fun e w' => e = .returned (telV (mDel l cs a b)) ∧ DkTo S w w' d m r (mDel l cs a b).done (mDel l cs a b).cs := by
  have d0 := h.d0
  have hSd := h.dS
  obtain ⟨o, ho⟩ : ∃ o, mDel l cs a b = o := ⟨_, rfl⟩
  obtain ⟨k, hk, hk1⟩ : ∃ k : Nat, o.num = k ∧ k ≤ 1001 := by rw [← ho]; exact mDone_num _ _ _ _ _ (delO_num _ _)
  have hg := mDel_good h.good a b
  rw [ho] at hg ⊢
  have HP : Hid (∀ W, Below w.heap.size w W → Calls Tryz.prog 11 #[.pointer (some ⟨m, 0, none⟩), .int .i64 a, .int .i64 b] W fun e w' => e = .returned (.tuple #[.int .i64 k, eV o.err]) ∧ DkTo S w w' d m r o.done o.cs) := fun W hW => by
    have c := mDel_c (h.mesh.grown hW) h.good a b
    rw [ho, hk] at c
    exact c.mono fun e w' hx => ⟨hx.1, h.to (MeshTo.after hW hx.2) hg⟩
  have HW : Hid (∀ W ev, Gl W → Calls Tryz.prog 166 #[.int .i64 k, ev] W fun e w' => e = .returned (.tuple #[.string (digS k), ev]) ∧ Below W.heap.size W w') := fun W ev hW => runWritten_c k ev W (by omega) hW
  have HT : Hid (telV o = .tuple #[.string (digS k), eV o.err]) := by show _ = _; rw [telV, hk]; rfl
  rw [HT.out]
  obtain ⟨ev, hev⟩ : ∃ ev, eV o.err = ev := ⟨_, rfl⟩
  rw [hev] at HP ⊢
  have HS : Hid (¬ S d ∧ ¬ S nb) := ⟨hSd, hSn⟩
  clear h hg ho hk HT hev hSd hSn
  go_enter Tryz.func123, Tryz.ntmps123
  go_upto_region 1 with fail
  go_region_held3 (fun w' => w'.cell? ⟨d, 0, none⟩ = some (.pointer (some ⟨m, 0, none⟩)) ∧ w'.cell? ⟨nb, no, none⟩ = some (.int .i64 a) ∧ w'.cell? ⟨nb, no + 1, none⟩ = some (.int .i64 b)  ) (first | go_keep | (exact ⟨q0, q1, q2⟩) | (exact ⟨kept_cell HB4.out q0, kept_cell HB4.out q1, kept_cell HB4.out q2⟩)) (first | (go_at_call 11; refine Calls.mono (HP.out _ ?_) ?_; exact ⟨rfl, rfl, rfl, Nat.le_refl _, fun _ _ => rfl⟩; rintro e w3 ⟨rfl, hd⟩; have q0 := hd.1.at d0 HS.out.1; have q1 := hd.1.at n0 HS.out.2; have q2 := hd.1.at n1 HS.out.2; have HD : Hid _ := hd; clear hd) | (go_at_call 166; refine Calls.mono (HW.out _ _ (DkTo.gl HD.out)) ?_; rintro e w4 ⟨rfl, hb4⟩; have HB4 : Hid (Below w3.heap.size w3 w4) := hb4; clear hb4))
  go_wp2_with fail
  go_ret2
  exact ⟨rfl, DkTo.below HD.out HB4.out⟩
set_option maxHeartbeats 8000000 in
theorem deskSeq_c {S : Nat → Prop} {w : World} {d m r : Nat} {l : List Deed} {cs : List (List En)} (h : Dk S w d m r l cs) (vn vw : Value) :
    Calls Tryz.prog 126 #[.pointer (some ⟨d, 0, none⟩), vn, vw] w fun e w' => e = .returned (.tuple #[.string (digS l.length), .nilIface]) ∧ DkTo S w w' d m r l cs := by
  have d0 := h.d0
  have h1 := h.good.len
  obtain ⟨k, hk⟩ : ∃ k, l.length = k := ⟨_, rfl⟩
  rw [hk] at h1
  have HD : Hid (Dk S w d m r l cs) := h
  have HQ : Hid (∀ W, Below w.heap.size w W → Calls Tryz.prog 16 #[.pointer (some ⟨m, 0, none⟩)] W fun e w' => e = .returned (.int .i64 k) ∧ w' = W) := fun W hW => by
    have c := mSeq_c (h.mesh.grown hW)
    rw [hk] at c
    exact c
  have HW : Hid (∀ W ev, Gl W → Calls Tryz.prog 166 #[.int .i64 k, ev] W fun e w' => e = .returned (.tuple #[.string (digS k), ev]) ∧ Below W.heap.size W w') := fun W ev hW => runWritten_c k ev W (by omega) hW
  rw [hk]
  clear h hk
  go_enter Tryz.func126, Tryz.ntmps126
  go_wp2_with fail
  refine (HQ.out _ (Below.refl _ _)).mono ?_
  rintro e w1 ⟨rfl, hw⟩
  rw [hw]
  clear hw w1
  go_wp2_with fail
  refine (HW.out _ _ HD.out.gl).mono ?_
  rintro e w2 ⟨rfl, hb⟩
  have HB : Hid (Below w.heap.size w w2) := hb
  clear hb
  go_wp2_with fail
  go_ret2
  exact ⟨rfl, HD.out.to (HD.out.mesh.to HB.out) HD.out.good⟩
def okS : ByteArray := ⟨#[111, 107]⟩
set_option maxHeartbeats 8000000 in
theorem deskSwap_c {S : Nat → Prop} {w : World} {d m r : Nat} {l : List Deed} {cs cs' : List (List En)} (h : Dk S w d m r l cs) (nb no nc a b : Nat) (vw : Value) (n0 : w.cell? ⟨nb, no, none⟩ = some (.int .i64 a)) (n1 : w.cell? ⟨nb, no + 1, none⟩ = some (.int .i64 b)) (hSn : ¬ S nb) {n : Int} (hx : mSwap cs a b = (cs', n)) :
    Calls Tryz.prog 125 #[.pointer (some ⟨d, 0, none⟩), .slice (some ⟨nb, no, none⟩) 2 nc, vw] w fun e w' => e = .returned (.tuple #[.string okS, eV n]) ∧ DkTo S w w' d m r l cs' := by
  have d0 := h.d0
  have hSd := h.dS
  have hg := mSwap_good h.good a b
  rw [hx] at hg
  have HP : Hid (∀ W, Below w.heap.size w W → Calls Tryz.prog 15 #[.pointer (some ⟨m, 0, none⟩), .int .i64 a, .int .i64 b] W fun e w' => e = .returned (eV n) ∧ DkTo S w w' d m r l cs') := fun W hW => by
    have c := mSwap_o (h.mesh.grown hW) h.good hx (TabIs_below h.gl.tab hW)
    exact c.mono fun e w' hx => ⟨hx.1, h.to (MeshTo.after hW hx.2) hg⟩
  obtain ⟨ev, hev⟩ : ∃ ev, eV n = ev := ⟨_, rfl⟩
  rw [hev] at HP ⊢
  have HS : Hid (¬ S d ∧ ¬ S nb) := ⟨hSd, hSn⟩
  clear h hg hev hSd hSn hx
  go_enter Tryz.func125, Tryz.ntmps125
  go_upto_region 1 with fail
  go_region_held3 (fun w' => w'.cell? ⟨d, 0, none⟩ = some (.pointer (some ⟨m, 0, none⟩)) ∧ w'.cell? ⟨nb, no, none⟩ = some (.int .i64 a) ∧ w'.cell? ⟨nb, no + 1, none⟩ = some (.int .i64 b)) (first | go_keep | (exact ⟨q0, q1, q2⟩)) (first | (go_at_call 15; refine Calls.mono (HP.out _ ?_) ?_; exact ⟨rfl, rfl, rfl, Nat.le_refl _, fun _ _ => rfl⟩; rintro e w3 ⟨rfl, hd⟩; have q0 := hd.1.at d0 HS.out.1; have q1 := hd.1.at n0 HS.out.2; have q2 := hd.1.at n1 HS.out.2; have HD : Hid _ := hd; clear hd))
  go_wp2_with fail
  go_ret2
  exact ⟨rfl, HD.out⟩
end Go.Proofs.YtpcnfoaoajfhlaaGreatDoor

namespace Go.Proofs.YtpcnfoaoajfhlaaGreatDoor
set_option linter.unusedVariables false
set_option linter.unusedSimpArgs false
open Go.RowKit

def goneS : ByteArray := ⟨#[103, 111, 110, 101]⟩
def cachedS : ByteArray := ⟨#[32, 99, 97, 99, 104, 101, 100]⟩
def dashS : ByteArray := ⟨#[45]⟩
def blankS : ByteArray := ⟨#[32]⟩
/-- an entry, told -/
def entB (v a : Nat) (g : Bool) (t : ByteArray) : ByteArray := digS v ++ dashS ++ digS a ++ blankS ++ (if g then goneS else t)
theorem itoa_c (n : Nat) (hn : n ≤ 9223372036854775807) (w : World) (h : Lib.TabIs Tryz.prog w powName .u64 Lib.pow10Tab) :
    Calls Tryz.prog 168 #[.int .i64 n] w fun e w' => e = .returned (.string (digS n)) ∧ Below w.heap.size w w' := by
  refine (strconv_Itoa_s (n : Int) (by omega) (by omega) _ h).mono ?_
  rintro e w1 ⟨he, k, os, hw⟩
  rw [itoa_digS] at he
  exact ⟨he, by rw [hw]; exact Lib.below_grow _ _ (Nat.le_refl _) _ _⟩
set_option maxHeartbeats 8000000 in
theorem entryText_c (k : Int) (v a : Nat) (g : Bool) (t : ByteArray) (w : World) (hv : v ≤ 1000) (ha : a ≤ 1000) (ht : t.size ≤ 12) (h : Gl w) :
    Calls Tryz.prog 167 #[.agg #[.int .i64 k, .int .i64 v, .int .i64 a, .bool g, .string t]] w fun e w' => e = .returned (.string (entB v a g t)) ∧ Below w.heap.size w w' := by
  have b1 : Below w.heap.size w (w.alloc (.cells #[.int .i64 k, .int .i64 v, .int .i64 a, .bool g, .string t] 46)) := (Below.refl _ _).alloc (Nat.le_refl _) _
  obtain ⟨w1, hw1⟩ : ∃ w1, w1 = w.alloc (.cells #[.int .i64 k, .int .i64 v, .int .i64 a, .bool g, .string t] 46) := ⟨_, rfl⟩
  have hs1 : w1.heap.size = w.heap.size + 1 := by rw [hw1]; simp
  have HI : Hid (∀ (n : Nat) W, Below w1.heap.size w1 W → n ≤ 1000 → Calls Tryz.prog 168 #[.int .i64 n] W fun e w' => e = .returned (.string (digS n)) ∧ Below W.heap.size W w') := fun n W hW hn => itoa_c n (by omega) W (by
    rw [hw1] at hW
    exact (Lib.tabBelow_of_tabIs h.tab _ (b1.trans (hW.mono (by simp)))))
  have HB1 : Hid (Below w.heap.size w w1) := by rw [hw1]; exact b1
  have HE : Hid (∀ x, x = (if g then goneS else t) → digS v ++ dashS ++ digS a ++ blankS ++ x = entB v a g t) := fun x hx => by rw [hx]; rfl
  have zv := digS_size v (by omega)
  have za := digS_size a (by omega)
  clear h b1
  go_enter Tryz.func167, Tryz.ntmps167
  go_upto_region 1 with fail
  rw [← hw1]
  have e1 : w1.cell? ⟨w.heap.size, 1, none⟩ = some (.int .i64 v) := by rw [hw1]; simp
  have e2 : w1.cell? ⟨w.heap.size, 2, none⟩ = some (.int .i64 a) := by rw [hw1]; simp
  have e3 : w1.cell? ⟨w.heap.size, 3, none⟩ = some (.bool g) := by rw [hw1]; simp
  have e4 : w1.cell? ⟨w.heap.size, 4, none⟩ = some (.string t) := by rw [hw1]; simp
  clear hw1
  go_upto_if 7 with fail
  go_cut [3] (fun c wc => ∃ x, c = .string x ∧ wc = w1 ∧ Hid (x = (if g then goneS else t)))
  case first =>
    cases g
    · go_wp2_with fail
      go_meet
      exact ⟨_, rfl, rfl, rfl⟩
    · go_wp2_with fail
      go_meet
      exact ⟨_, rfl, rfl, rfl⟩
  case rest =>
  obtain ⟨x, hc, hwc, HX⟩ := hcut
  subst hc
  rw [hwc]
  clear hwc
  have zx : x.size ≤ 12 := by
    rw [HX.out]
    cases g
    · exact ht
    · show goneS.size ≤ 12; decide
  have z1 : ¬ ((digS v).size + 1 > 9223372036854775807) := by omega
  have z2 : ¬ ((digS v).size + 1 + (digS a).size > 9223372036854775807) := by omega
  have z3 : ¬ ((digS v).size + 1 + (digS a).size + 1 > 9223372036854775807) := by omega
  have z4 : ¬ ((digS v).size + 1 + (digS a).size + 1 + x.size > 9223372036854775807) := by omega
  go_upto_region 4 with fail
  go_region_held3 (fun w' => w'.cell? ⟨w.heap.size, 1, none⟩ = some (.int .i64 v) ∧ w'.cell? ⟨w.heap.size, 2, none⟩ = some (.int .i64 a)) (first | go_keep | (exact ⟨kept_cell HB3.out e1, kept_cell HB3.out e2⟩) | (exact ⟨kept_cell HB4.out e1, kept_cell HB4.out e2⟩)) (first | (go_at_call 168; refine Calls.mono (HI.out _ _ ?_ ?_) ?_; exact ⟨rfl, rfl, rfl, Nat.le_refl _, fun _ _ => rfl⟩; assumption; rintro e w3 ⟨rfl, hb3⟩; have HB3 : Hid (Below w1.heap.size w1 w3) := below_undrew hb3; clear hb3) | (go_at_call 168; refine Calls.mono (HI.out _ _ HB3.out ?_) ?_; assumption; rintro e w4 ⟨rfl, hb4⟩; have HB4 : Hid (Below w1.heap.size w1 w4) := HB3.out.trans (hb4.mono HB3.out.size); clear hb4))
  go_wp2_with fail
  have HF : Hid _ := HE.out x HX.out
  go_ret
  exact ⟨by rw [← HF.out]; rfl, HB1.out.trans (HB4.out.mono HB1.out.size)⟩
end Go.Proofs.YtpcnfoaoajfhlaaGreatDoor

namespace Go.Proofs.YtpcnfoaoajfhlaaGreatDoor
set_option linter.unusedVariables false
set_option linter.unusedSimpArgs false
open Go.RowKit

theorem Dk.grown {S : Nat → Prop} {w w' : World} {d m r : Nat} {l : List Deed} {cs : List (List En)} (h : Dk S w d m r l cs) (hb : Below w.heap.size w w') : Dk S w' d m r l cs := by
  obtain ⟨h1, h2⟩ := h.lt
  exact ⟨h.mesh.grown hb, h.good, (hb.cell (p := ⟨d, 0, none⟩) h1).trans h.d0, (hb.cell (p := ⟨d, 1, none⟩) h1).trans h.d1, (hb.block r h2).trans h.tab, h.gl.below hb, h.lo, Nat.le_trans h.ng hb.size, h.dS, h.rS⟩
theorem Dk.kept {S F : Nat → Prop} {w w' : World} {d m r : Nat} {l : List Deed} {cs : List (List En)} (h : Dk S w d m r l cs) (hk : Kept F w w') (hF : ∀ x, F x → ¬ S x ∧ x ≠ d ∧ x ≠ r ∧ 7 ≤ x) : Dk S w' d m r l cs := by
  obtain ⟨h1, h2⟩ := h.lt
  have hlow : Below 7 w w' := hk.low h.ng (fun x hx => (hF x hx).2.2.2)
  exact ⟨h.mesh.blocks hk.size (fun x hx => hk.block x (h.mesh.lt x hx) (fun hf => (hF x hf).1 hx)), h.good, (World.cell?_of_block (a := ⟨d, 0, none⟩) (hk.block d h1 (fun hf => (hF d hf).2.1 rfl))).trans h.d0, (World.cell?_of_block (a := ⟨d, 1, none⟩) (hk.block d h1 (fun hf => (hF d hf).2.1 rfl))).trans h.d1, (hk.block r h2 (fun hf => (hF r hf).2.2.1 rfl)).trans h.tab, h.gl.low h.ng hlow, h.lo, Nat.le_trans h.ng hk.size, h.dS, h.rS⟩
/-- a call of the mesh in a world that has grown, then a store into what grew -/
theorem DkTo.box {S : Nat → Prop} {w W w3 w' : World} {d m r : Nat} {l l0 : List Deed} {cs cs0 : List (List En)} (h0 : Dk S w d m r l0 cs0) (hb : Below w.heap.size w W) (h : DkTo S W w3 d m r l cs) (q : Nat) (h1 : w.heap.size ≤ q) (h2 : q < W.heap.size) (hk : Kept (fun x => x = q) w3 w') : DkTo S w w' d m r l cs := by
  obtain ⟨k3, S', hd, hs⟩ := h
  obtain ⟨d1, d2⟩ := h0.lt
  refine ⟨⟨(hk.os.trans k3.os).trans hb.os, (hk.tape.trans k3.tape).trans hb.tape, (hk.output.trans k3.output).trans hb.output, Nat.le_trans hb.size (Nat.le_trans k3.size hk.size), fun x hx hn => ?_⟩, S', hd.kept hk (fun x hx => ?_), fun x hx => ?_⟩
  · have hxW : x < W.heap.size := Nat.lt_of_lt_of_le hx hb.size
    rw [hk.block x (Nat.lt_of_lt_of_le hxW k3.size) (by omega), k3.block x hxW hn, hb.block x hx]
  · have hxq : x = q := hx
    have := h0.ng
    refine ⟨fun hS => ?_, by omega, by omega, by omega⟩
    rcases hs x hS with h' | h'
    · have := h0.mesh.lt x h'; omega
    · omega
  · rcases hs x hx with h' | h'
    · exact .inl h'
    · exact .inr (Nat.le_trans hb.size h')
theorem DkTo.after {S : Nat → Prop} {w W w' : World} {d m r : Nat} {l : List Deed} {cs : List (List En)} (hb : Below w.heap.size w W) (h : DkTo S W w' d m r l cs) : DkTo S w w' d m r l cs := by
  obtain ⟨hk, S', hd, hs⟩ := h
  refine ⟨⟨hk.os.trans hb.os, hk.tape.trans hb.tape, hk.output.trans hb.output, Nat.le_trans hb.size hk.size, fun x hx hn => (hk.block x (Nat.lt_of_lt_of_le hx hb.size) hn).trans (hb.block x hx)⟩, S', hd, fun x hx => ?_⟩
  rcases hs x hx with h' | h'
  · exact .inl h'
  · exact .inr (Nat.le_trans hb.size h')
theorem DkTo.zero {S : Nat → Prop} {w w3 : World} {d m r : Nat} {l l0 : List Deed} {cs cs0 : List (List En)} (h0 : Dk S w d m r l0 cs0) (h : DkTo S (w.alloc (.cells #[.int .i64 0, .int .i64 0, .int .i64 0, .bool false, .string ⟨#[]⟩] 46)) w3 d m r l cs) :
    w3.cell? ⟨w.heap.size, 0, none⟩ = some (.int .i64 0) ∧ w3.cell? ⟨w.heap.size, 1, none⟩ = some (.int .i64 0) ∧ w3.cell? ⟨w.heap.size, 2, none⟩ = some (.int .i64 0) ∧ w3.cell? ⟨w.heap.size, 3, none⟩ = some (.bool false) ∧ w3.cell? ⟨w.heap.size, 4, none⟩ = some (.string ⟨#[]⟩) ∧ ∀ k, w3.frozen? ⟨w.heap.size, k, none⟩ = false := by
  have yb : w3.heap[w.heap.size]? = some (.cells #[.int .i64 0, .int .i64 0, .int .i64 0, .bool false, .string ⟨#[]⟩] 46 (0, 0)) :=
    (h.1.block w.heap.size (by simp) (fun hs => absurd (h0.mesh.lt _ hs) (Nat.lt_irrefl _))).trans (alloc_at _ _ _ rfl)
  refine ⟨?_, ?_, ?_, ?_, ?_, fun k => Lib.frozen_of_heap yb k⟩ <;> rw [Lib.cell_of_heap yb] <;> rfl
theorem DkTo.undrewZ {S : Nat → Prop} {w w3 : World} {d m r : Nat} {l : List Deed} {cs : List (List En)} (h : DkTo S (w.alloc (.cells #[.int .i64 0, .int .i64 0, .int .i64 0, .bool false, .string ⟨#[]⟩] 46)).drew w3 d m r l cs) : DkTo S (w.alloc (.cells #[.int .i64 0, .int .i64 0, .int .i64 0, .bool false, .string ⟨#[]⟩] 46)) w3 d m r l cs := ⟨⟨h.1.os, h.1.tape, h.1.output, h.1.size, h.1.block⟩, h.2⟩
theorem DkTo.zeroD {S : Nat → Prop} {w w3 : World} {d m r : Nat} {l l0 : List Deed} {cs cs0 : List (List En)} (h0 : Dk S w d m r l0 cs0) (h : DkTo S (w.alloc (.cells #[.int .i64 0, .int .i64 0, .int .i64 0, .bool false, .string ⟨#[]⟩] 46)).drew w3 d m r l cs) :
    w3.cell? ⟨w.heap.size, 0, none⟩ = some (.int .i64 0) ∧ w3.cell? ⟨w.heap.size, 1, none⟩ = some (.int .i64 0) ∧ w3.cell? ⟨w.heap.size, 2, none⟩ = some (.int .i64 0) ∧ w3.cell? ⟨w.heap.size, 3, none⟩ = some (.bool false) ∧ w3.cell? ⟨w.heap.size, 4, none⟩ = some (.string ⟨#[]⟩) ∧ (∀ k, w3.frozen? ⟨w.heap.size, k, none⟩ = false) ∧ Hid (DkTo S (w.alloc (.cells #[.int .i64 0, .int .i64 0, .int .i64 0, .bool false, .string ⟨#[]⟩] 46)) w3 d m r l cs) := by
  obtain ⟨a0, a1, a2, a3, a4, a5⟩ := DkTo.zero h0 (DkTo.undrewZ h)
  exact ⟨a0, a1, a2, a3, a4, a5, DkTo.undrewZ h⟩
theorem dget_end {S : Nat → Prop} {w w3 : World} {d m r : Nat} {l l0 : List Deed} {cs cs0 : List (List En)} (h0 : Dk S w d m r l0 cs0) (h : DkTo S (w.alloc (.cells #[.int .i64 0, .int .i64 0, .int .i64 0, .bool false, .string ⟨#[]⟩] 46)) w3 d m r l cs) (x0 x1 x2 x3 x4 : Value) :
    DkTo S w (((((w3.setCell ⟨w.heap.size, 0, none⟩ x0).setCell ⟨w.heap.size, 1, none⟩ x1).setCell ⟨w.heap.size, 2, none⟩ x2).setCell ⟨w.heap.size, 3, none⟩ x3).setCell ⟨w.heap.size, 4, none⟩ x4) d m r l cs :=
  DkTo.box h0 ((Below.refl _ _).alloc (Nat.le_refl _) _) h w.heap.size (Nat.le_refl _) (by simp) ((((((Kept.refl (fun x => x = w.heap.size) w3).setCell ⟨w.heap.size, 0, none⟩ _ rfl).setCell ⟨w.heap.size, 1, none⟩ _ rfl).setCell ⟨w.heap.size, 2, none⟩ _ rfl).setCell ⟨w.heap.size, 3, none⟩ _ rfl).setCell ⟨w.heap.size, 4, none⟩ _ rfl)
/-- what a get answers -/
def getB (v a : Nat) (g : Bool) (t : ByteArray) (had : Bool) : ByteArray := if had then entB v a g t ++ cachedS else entB v a g t
set_option maxHeartbeats 8000000 in
theorem deskGet_ok {S : Nat → Prop} {w : World} {d m r : Nat} {l : List Deed} {cs cs' : List (List En)} (h : Dk S w d m r l cs) (nb no nc a b c : Nat) (vw : Value) (n0 : w.cell? ⟨nb, no, none⟩ = some (.int .i64 a)) (n1 : w.cell? ⟨nb, no + 1, none⟩ = some (.int .i64 b)) (n2 : w.cell? ⟨nb, no + 2, none⟩ = some (.int .i64 c)) (hSn : ¬ S nb)
    {x0 : Int} {x1 x2 : Nat} {x3 had : Bool} {x4 : ByteArray} (hx : mGet l cs a b c = (cs', ⟨x0, x1, x2, x3, x4⟩, had, 0)) (hv : x1 ≤ 1000) (ha : x2 ≤ 1000) (ht : x4.size ≤ 12) :
    Calls Tryz.prog 124 #[.pointer (some ⟨d, 0, none⟩), .slice (some ⟨nb, no, none⟩) 3 nc, vw] w fun e w' => e = .returned (.tuple #[.string (getB x1 x2 x3 x4 had), .nilIface]) ∧ DkTo S w w' d m r l cs' := by
  have d0 := h.d0
  have hSd := h.dS
  have hg := mGet_good h.good a b c
  rw [hx] at hg
  have HP : Hid (∀ W, Below w.heap.size w W → Calls Tryz.prog 13 #[.pointer (some ⟨m, 0, none⟩), .int .i64 a, .int .i64 b, .int .i64 c] W fun e w' => e = .returned (.tuple #[.agg #[.int .i64 x0, .int .i64 x1, .int .i64 x2, .bool x3, .string x4], .bool had, .nilIface]) ∧ DkTo S W w' d m r l cs') := fun W hW => by
    have c := mGet_o (h.mesh.grown hW) h.good hx
    rw [eV_zeroN] at c
    exact c.mono fun e w' hx => ⟨hx.1, (h.grown hW).to hx.2 hg⟩
  have kp : ∀ w3, DkTo S w w3 d m r l cs' → w3.cell? ⟨d, 0, none⟩ = some (.pointer (some ⟨m, 0, none⟩)) ∧ w3.cell? ⟨nb, no, none⟩ = some (.int .i64 a) ∧ w3.cell? ⟨nb, no + 1, none⟩ = some (.int .i64 b) ∧ w3.cell? ⟨nb, no + 2, none⟩ = some (.int .i64 c) := fun w3 hd => ⟨hd.1.at d0 hSd, hd.1.at n0 hSn, hd.1.at n1 hSn, hd.1.at n2 hSn⟩
  have KP : Hid _ := kp
  have KA : Hid (∀ w3, DkTo S w w3 d m r l cs' → ∀ o, (w3.alloc o).cell? ⟨d, 0, none⟩ = some (.pointer (some ⟨m, 0, none⟩)) ∧ (w3.alloc o).cell? ⟨nb, no, none⟩ = some (.int .i64 a) ∧ (w3.alloc o).cell? ⟨nb, no + 1, none⟩ = some (.int .i64 b) ∧ (w3.alloc o).cell? ⟨nb, no + 2, none⟩ = some (.int .i64 c)) := fun w3 hd o => kp _ (hd.below ((Below.refl _ _).alloc (Nat.le_refl _) _))
  clear kp
  have HD0 : Hid (Dk S w d m r l cs) := h
  have HS : Hid (¬ S d ∧ ¬ S nb) := ⟨hSd, hSn⟩
  have HE : Hid (∀ W, Gl W → Calls Tryz.prog 167 #[.agg #[.int .i64 x0, .int .i64 x1, .int .i64 x2, .bool x3, .string x4]] W fun e w' => e = .returned (.string (entB x1 x2 x3 x4)) ∧ Below W.heap.size W w') := fun W hW => entryText_c x0 x1 x2 x3 x4 W hv ha ht hW
  have hz : (entB x1 x2 x3 x4).size ≤ 100 := by
    have z1 := digS_size x1 (by omega)
    have z2 := digS_size x2 (by omega)
    have z3 : (if x3 then goneS else x4).size ≤ 12 := by
      cases x3
      · exact ht
      · show goneS.size ≤ 12; decide
    have e1 : dashS.size = 1 := rfl
    have e2 : blankS.size = 1 := rfl
    simp only [entB, ByteArray.size_append, e1, e2]
    omega
  have hz2 : ¬ ((entB x1 x2 x3 x4).size + 7 > 9223372036854775807) := by omega
  clear h hg hSd hSn hx hv ha ht hz
  have kd := World.new_ne w _ d0
  have kb := World.new_ne w _ n0
  have kd2 := Ne.symm kd
  have kb2 := Ne.symm kb
  go_enter Tryz.func124, Tryz.ntmps124
  go_upto_region 1 with fail
  go_cut [8, 9, 10] (fun c8 c9 c10 wc => ∃ q, c8 = .pointer (some ⟨q, 0, none⟩) ∧ c9 = .bool had ∧ c10 = .nilIface ∧ Hid (BoxAt wc q x0 x1 x2 x3 x4) ∧ Hid (DkTo S w wc d m r l cs'))
  case first =>
    go_region_held3 (fun w' => w'.cell? ⟨d, 0, none⟩ = some (.pointer (some ⟨m, 0, none⟩)) ∧ w'.cell? ⟨nb, no, none⟩ = some (.int .i64 a) ∧ w'.cell? ⟨nb, no + 1, none⟩ = some (.int .i64 b) ∧ w'.cell? ⟨nb, no + 2, none⟩ = some (.int .i64 c)) (first | go_keep | (exact KA.out _ HD.out _) | (exact KP.out _ HD.out)) (first | (go_at_call 13; refine Calls.mono (HP.out _ (by go_grown)) ?_; rintro e w3 ⟨rfl, hd⟩; have HD : Hid (DkTo S w w3 d m r l cs') := DkTo.after (by go_grown) hd; try (with_reducible (obtain ⟨y0, y1, y2, y3, y4, yf, HZ⟩ := DkTo.zeroD HD0.out hd)); obtain ⟨q0, q1, q2, q3⟩ := KP.out _ HD.out; have kn1 := World.new_ne w3 _ q0; have kn2 := World.new_ne w3 _ q1; clear hd))
    all_goals go_wp2_with fail
    all_goals go_meet
    all_goals first | exact ⟨_, rfl, rfl, rfl, BoxAt.set ⟨y0, y1, y2, y3, y4, yf⟩ _ _ _ _ _, dget_end HD0.out HZ.out _ _ _ _ _⟩ | exact ⟨_, rfl, rfl, rfl, box_new _ _ _ _ _ _ _ rfl, DkTo.below HD.out ((Below.refl _ _).alloc (Nat.le_refl _) _)⟩
  case rest =>
  obtain ⟨q, h8, h9, h10, hbx, hdk⟩ := hcut
  subst h8
  subst h9
  subst h10
  have HGl : Hid (Gl wc) := DkTo.gl hdk.out
  have HDk : Hid (DkTo S w wc d m r l cs') := hdk
  obtain ⟨g0, g1, g2, g3, g4, gf⟩ := hbx.out
  clear hbx hdk n0 n1 n2 d0 kd kb kd2 kb2 KP KA HP
  cases had
  · go_wp2_with fail
    refine (HE.out _ HGl.out).mono ?_
    rintro e w5 ⟨rfl, hb⟩
    have HB : Hid (Below wc.heap.size wc w5) := hb
    clear hb
    go_wp2_with fail
    go_ret2
    exact ⟨rfl, DkTo.below HDk.out HB.out⟩
  · go_wp2_with fail
    refine (HE.out _ HGl.out).mono ?_
    rintro e w5 ⟨rfl, hb⟩
    have HB : Hid (Below wc.heap.size wc w5) := hb
    clear hb
    go_wp2_with fail
    go_ret2
    exact ⟨rfl, DkTo.below HDk.out HB.out⟩
set_option maxHeartbeats 8000000 in
theorem deskGet_bad {S : Nat → Prop} {w : World} {d m r : Nat} {l : List Deed} {cs cs' : List (List En)} (h : Dk S w d m r l cs) (nb no nc a b c : Nat) (vw : Value) (n0 : w.cell? ⟨nb, no, none⟩ = some (.int .i64 a)) (n1 : w.cell? ⟨nb, no + 1, none⟩ = some (.int .i64 b)) (n2 : w.cell? ⟨nb, no + 2, none⟩ = some (.int .i64 c)) (hSn : ¬ S nb)
    {x0 x1 x2 n : Int} {x3 had : Bool} {x4 : ByteArray} (hx : mGet l cs a b c = (cs', ⟨x0, x1, x2, x3, x4⟩, had, n)) (hn : n ≠ 0) :
    Calls Tryz.prog 124 #[.pointer (some ⟨d, 0, none⟩), .slice (some ⟨nb, no, none⟩) 3 nc, vw] w fun e w' => e = .returned (.tuple #[.string ⟨#[]⟩, eV n]) ∧ DkTo S w w' d m r l cs' := by
  have d0 := h.d0
  have hSd := h.dS
  have hg := mGet_good h.good a b c
  rw [hx] at hg
  have HP : Hid (∀ W, Below w.heap.size w W → Calls Tryz.prog 13 #[.pointer (some ⟨m, 0, none⟩), .int .i64 a, .int .i64 b, .int .i64 c] W fun e w' => e = .returned (.tuple #[.agg #[.int .i64 x0, .int .i64 x1, .int .i64 x2, .bool x3, .string x4], .bool had, .iface 85 (.int .i64 n)]) ∧ DkTo S W w' d m r l cs') := fun W hW => by
    have c := mGet_o (h.mesh.grown hW) h.good hx
    rw [eV_errN hn] at c
    exact c.mono fun e w' hx => ⟨hx.1, (h.grown hW).to hx.2 hg⟩
  have kp : ∀ w3, DkTo S w w3 d m r l cs' → w3.cell? ⟨d, 0, none⟩ = some (.pointer (some ⟨m, 0, none⟩)) ∧ w3.cell? ⟨nb, no, none⟩ = some (.int .i64 a) ∧ w3.cell? ⟨nb, no + 1, none⟩ = some (.int .i64 b) ∧ w3.cell? ⟨nb, no + 2, none⟩ = some (.int .i64 c) := fun w3 hd => ⟨hd.1.at d0 hSd, hd.1.at n0 hSn, hd.1.at n1 hSn, hd.1.at n2 hSn⟩
  have KP : Hid _ := kp
  have KA : Hid (∀ w3, DkTo S w w3 d m r l cs' → ∀ o, (w3.alloc o).cell? ⟨d, 0, none⟩ = some (.pointer (some ⟨m, 0, none⟩)) ∧ (w3.alloc o).cell? ⟨nb, no, none⟩ = some (.int .i64 a) ∧ (w3.alloc o).cell? ⟨nb, no + 1, none⟩ = some (.int .i64 b) ∧ (w3.alloc o).cell? ⟨nb, no + 2, none⟩ = some (.int .i64 c)) := fun w3 hd o => kp _ (hd.below ((Below.refl _ _).alloc (Nat.le_refl _) _))
  clear kp
  have HD0 : Hid (Dk S w d m r l cs) := h
  have HS : Hid (¬ S d ∧ ¬ S nb) := ⟨hSd, hSn⟩
  rw [eV_errN hn]
  clear h hg hSd hSn hx
  have kd := World.new_ne w _ d0
  have kb := World.new_ne w _ n0
  have kd2 := Ne.symm kd
  have kb2 := Ne.symm kb
  go_enter Tryz.func124, Tryz.ntmps124
  go_upto_region 1 with fail
  go_cut [8, 9, 10] (fun c8 c9 c10 wc => ∃ q, c8 = .pointer (some ⟨q, 0, none⟩) ∧ c9 = .bool had ∧ c10 = .iface 85 (.int .i64 n) ∧ Hid (BoxAt wc q x0 x1 x2 x3 x4) ∧ Hid (DkTo S w wc d m r l cs'))
  case first =>
    go_region_held3 (fun w' => w'.cell? ⟨d, 0, none⟩ = some (.pointer (some ⟨m, 0, none⟩)) ∧ w'.cell? ⟨nb, no, none⟩ = some (.int .i64 a) ∧ w'.cell? ⟨nb, no + 1, none⟩ = some (.int .i64 b) ∧ w'.cell? ⟨nb, no + 2, none⟩ = some (.int .i64 c)) (first | go_keep | (exact KA.out _ HD.out _) | (exact KP.out _ HD.out)) (first | (go_at_call 13; refine Calls.mono (HP.out _ (by go_grown)) ?_; rintro e w3 ⟨rfl, hd⟩; have HD : Hid (DkTo S w w3 d m r l cs') := DkTo.after (by go_grown) hd; try (with_reducible (obtain ⟨y0, y1, y2, y3, y4, yf, HZ⟩ := DkTo.zeroD HD0.out hd)); obtain ⟨q0, q1, q2, q3⟩ := KP.out _ HD.out; have kn1 := World.new_ne w3 _ q0; have kn2 := World.new_ne w3 _ q1; clear hd))
    all_goals go_wp2_with fail
    all_goals go_meet
    all_goals first | exact ⟨_, rfl, rfl, rfl, BoxAt.set ⟨y0, y1, y2, y3, y4, yf⟩ _ _ _ _ _, dget_end HD0.out HZ.out _ _ _ _ _⟩ | exact ⟨_, rfl, rfl, rfl, box_new _ _ _ _ _ _ _ rfl, DkTo.below HD.out ((Below.refl _ _).alloc (Nat.le_refl _) _)⟩
  case rest =>
  obtain ⟨q, h8, h9, h10, hbx, hdk⟩ := hcut
  subst h8
  subst h9
  subst h10
  have HGl : Hid (Gl wc) := DkTo.gl hdk.out
  have HDk : Hid (DkTo S w wc d m r l cs') := hdk
  obtain ⟨g0, g1, g2, g3, g4, gf⟩ := hbx.out
  clear hbx hdk n0 n1 n2 d0 kd kb kd2 kb2 KP KA HP
  go_wp2_with fail
  go_ret2
  exact ⟨rfl, HDk.out⟩
end Go.Proofs.YtpcnfoaoajfhlaaGreatDoor
