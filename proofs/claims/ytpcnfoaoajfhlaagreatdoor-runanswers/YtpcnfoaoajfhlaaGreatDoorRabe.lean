/-
  Package run's name: how an error is told.
  Package run by its contracts: written, entryText.
  Package run by its contracts: a desk; what it does with a put and a delete.
  Package run by its contracts: what a desk does with a delete, a seq, a swap.
  Package run by its contracts: how an entry is told.
-/
import Derived.Test.YtpcnfoaoajfhlaaGreatDoorRabd
import Derived.Test.YtpcnfoaoajfhlaaGreatDoorRaao
import Derived.Test.YtpcnfoaoajfhlaaGreatDoorRaau
namespace Go.Proofs.YtpcnfoaoajfhlaaGreatDoor
set_option linter.unusedVariables false
set_option linter.unusedSimpArgs false
set_option linter.unusedVariables false
set_option linter.unusedSimpArgs false
open Go.RowKit Go.Extern.Stop Go.Stop Go.Extern

theorem asb_assignNo (w : World) : (ReflectliteType.relation "AssignableTo" ReflectliteType.assignableTo #[.agg #[.pointer (some ⟨7, 85, none⟩)], .iface 242 (.agg #[.pointer (some ⟨7, 184, none⟩)])]).run Tryz.prog w = .ok (.bool false) w := by kernel_rfl
set_option maxRecDepth 100000 in
set_option maxHeartbeats 4000000 in
theorem asb_miss (n : Int) (t : Addr) (old : Value) (w : World) (hg : w.cell? ⟨0, 0, none⟩ = some (.iface 242 (.agg #[.pointer (some ⟨7, 26, none⟩)]))) (ht0 : w.cell? t = some old) :
    Calls Tryz.prog 90 #[.iface 85 (.int .i64 n), .iface 185 (.pointer (some t))] w fun ev w' => ev = .returned (.bool false) ∧ Below w.heap.size w w' := by
  have h6 := @run_callFunc_extern Tryz.prog 134 _ (fun args => ReflectliteValue.unpack (args.getD 0 (.tuple #[]))) Tryz.func134 (by kernel_rfl) (by kernel_rfl) (by kernel_rfl) (by kernel_rfl)
  have h7 := @run_callFunc_extern Tryz.prog 135 _ (ReflectliteValue.methodAny (ReflectliteValue.valueError "reflectlite.Value.Type" 0) (fun t _ _ _ => ReflectliteType.toType t)) Tryz.func135 (by kernel_rfl) (by kernel_rfl) (by kernel_rfl) (by kernel_rfl)
  have h8 := @run_callFunc_extern Tryz.prog 136 _ (ReflectliteValue.method (ReflectliteValue.valueError "reflectlite.Value.IsNil" 0) ReflectliteValue.isNil) Tryz.func136 (by kernel_rfl) (by kernel_rfl) (by kernel_rfl) (by kernel_rfl)
  have h27 := @run_callFunc_extern Tryz.prog 243 _ (ReflectliteType.abiMethod fun t => do pure (.int .u8 (← Rtype.kind t))) Tryz.func243 (by kernel_rfl) (by kernel_rfl) (by kernel_rfl) (by kernel_rfl)
  have h37 := @run_callFunc_extern Tryz.prog 254 _ (ReflectliteType.method ReflectliteType.elem) Tryz.func254 (by kernel_rfl) (by kernel_rfl) (by kernel_rfl) (by kernel_rfl)
  have h38 := @run_callFunc_extern Tryz.prog 255 _ (ReflectliteType.relation "Implements" ReflectliteType.implements_) Tryz.func255 (by kernel_rfl) (by kernel_rfl) (by kernel_rfl) (by kernel_rfl)
  have h10 := @run_callFunc_extern Tryz.prog 177 _ ReflectliteType.typeOf Tryz.func177 (by kernel_rfl) (by kernel_rfl) (by kernel_rfl) (by kernel_rfl)
  have h35 := @run_callFunc_extern Tryz.prog 252 _ (ReflectliteType.relation "AssignableTo" ReflectliteType.assignableTo) Tryz.func252 (by kernel_rfl) (by kernel_rfl) (by kernel_rfl) (by kernel_rfl)
  have tO := as_typeOfE
  have mA := as_methodAssignableTo
  have a25 := asb_assignNo
  have f6 := asb_valueOfP
  have f7 := asb_typeP
  have mK := as_methodKind
  have mE := as_methodElem
  have mI := as_methodImplements
  have k27 := asb_kindP
  have k25 := asb_kindE
  have e27 := asb_elemP
  have i25 := asb_implementsE
  have n8 := asb_isNilP ⟨w.heap.size, 0, none⟩ t ((w.alloc (.cells #[.pointer (some t)] 185)).alloc (.cells #[.pointer (some ⟨7, 185, none⟩), .pointer (some ⟨w.heap.size, 0, none⟩), .int .u64 150] 198)) (by simp)
  have hlt : 0 < w.heap.size := by
    rcases Nat.eq_zero_or_pos w.heap.size with h0 | h
    · simp [World.cell?, h0] at hg
    · exact h
  have hg2 : ((w.alloc (.cells #[.pointer (some t)] 185)).alloc (.cells #[.pointer (some ⟨7, 185, none⟩), .pointer (some ⟨w.heap.size, 0, none⟩), .int .u64 150] 198)).cell? ⟨0, 0, none⟩ = some (.iface 242 (.agg #[.pointer (some ⟨7, 26, none⟩)])) := by
    rw [World.cell?_alloc_lt _ _ ⟨0, 0, none⟩ (by simp), World.cell?_alloc_lt _ _ ⟨0, 0, none⟩ hlt]; exact hg
  have htl : t.block < w.heap.size := by
    rcases Nat.lt_or_ge t.block w.heap.size with h | h
    · exact h
    · simp [World.cell?, Array.getElem?_eq_none h] at ht0
  have n1 : ∀ w', (Instr.typeAssert (.iface 85 (.int .i64 n)) 26 247 true).run Tryz.prog w' = .ok (.tuple #[.nilIface, .bool false]) w' := fun w' => run_typeAssert_lacksB Tryz.underlying247 (by kernel_rfl) (by kernel_rfl) _ _ w'
  have n2 : ∀ w', (Instr.typeAssert (.iface 85 (.int .i64 n)) 26 250 true).run Tryz.prog w' = .ok (.tuple #[.nilIface, .bool false]) w' := fun w' => run_typeAssert_lacksB Tryz.underlying250 (by kernel_rfl) (by kernel_rfl) _ _ w'
  have n3 : ∀ w', (Instr.typeAssert (.iface 85 (.int .i64 n)) 26 251 true).run Tryz.prog w' = .ok (.tuple #[.nilIface, .bool false]) w' := fun w' => run_typeAssert_lacksB Tryz.underlying251 (by kernel_rfl) (by kernel_rfl) _ _ w'
  go_enter Tryz.func90, Tryz.ntmps90
  go_wp2
  refine wp_loop_rounds 1 ?_
  rw [rounds_succ]
  go_wp2
  go_ret
  refine ⟨rfl, ?_⟩
  have b1 := (Below.refl w.heap.size w).alloc (Nat.le_refl _)
  exact ((b1 _).alloc (by simp) _).alloc (by simp; omega) _
def badS : ByteArray := ⟨#[98, 97, 100]⟩
/-- an error's name -/
def nameB (n : Int) : ByteArray :=
  if n = 0 then ⟨#[79, 75]⟩ else if n = 1 then ⟨#[69, 114, 114, 82, 97, 110, 103, 101]⟩ else if n = 2 then ⟨#[69, 114, 114, 83, 121, 110, 116, 97, 120]⟩ else if n = 3 then ⟨#[69, 114, 114, 83, 104, 97, 112, 101]⟩
  else if n = 4 then ⟨#[69, 114, 114, 70, 117, 108, 108]⟩ else if n = 5 then ⟨#[69, 114, 114, 78, 111, 110, 101]⟩ else if n = 6 then ⟨#[69, 114, 114, 83, 116, 97, 116, 101]⟩ else if n = 7 then ⟨#[69, 114, 114, 67, 108, 97, 115, 104]⟩ else ⟨#[69, 114, 114, 79, 108, 100]⟩
theorem error_c (n : Int) (h0 : 0 ≤ n) (h8 : n ≤ 8) (w : World) :
    Calls Tryz.prog 121 #[.int .i64 n] w fun e w' => e = .returned (.string (nameB n)) ∧ w' = w := by
  have hn : n = 0 ∨ n = 1 ∨ n = 2 ∨ n = 3 ∨ n = 4 ∨ n = 5 ∨ n = 6 ∨ n = 7 ∨ n = 8 := by omega
  rcases hn with rfl | rfl | rfl | rfl | rfl | rfl | rfl | rfl | rfl <;>
  · go_enter Tryz.func121, Tryz.ntmps121
    go_wp2
    go_ret
    exact ⟨rfl, rfl⟩
set_option maxRecDepth 100000 in
set_option maxHeartbeats 4000000 in
theorem name_bad (w : World) (hg : HasErr w) : Calls Tryz.prog 78 #[badV] w fun e w' => e = .returned (.string badS) ∧ Below w.heap.size w w' := by
  have hlt := hg.lt
  have b1 : Below w.heap.size w ((w.alloc (.cells #[.int .i64 0] 184)).alloc (.cells #[.int .i64 0] 85)) := ((Below.refl _ _).alloc (Nat.le_refl _) _).alloc (by simp) _
  have H1 : Hid (HasErr ((w.alloc (.cells #[.int .i64 0] 184)).alloc (.cells #[.int .i64 0] 85))) := hg.below hlt b1
  clear hg b1
  show Calls _ _ #[.iface 184 (.agg #[.int .i64 2])] _ _
  go_enter Tryz.func78, Tryz.ntmps78
  go_wp2_with (go_at_call 90; refine (asb_hit 2 ⟨w.heap.size, 0, none⟩ (.int .i64 0) _ H1.out (by simp) (by simp)).mono ?_; rintro e w' ⟨rfl, rfl⟩)
  go_ret
  exact ⟨rfl, by go_grown⟩
theorem as_hitB (B : Nat) (n : Int) (t : Addr) (old : Value) (w : World) (hg : HasErr w) (ht0 : w.cell? t = some old) (hf0 : w.frozen? t = false) (hB : B ≤ t.block) (hs : B ≤ w.heap.size) :
    Calls Tryz.prog 90 #[.iface 85 (.int .i64 n), .iface 153 (.pointer (some t))] w fun ev w' => ev = .returned (.bool true) ∧ Below B w w' ∧ w'.cell? t = some (.int .i64 n) := by
  have htl : t.block < w.heap.size := World.block_lt_of_cell? w t ht0
  refine (as_hit n t old w hg ht0 hf0).mono ?_
  rintro e w' ⟨rfl, rfl⟩
  refine ⟨rfl, (((((Below.refl B w).alloc hs _).alloc (by simp; omega) _).alloc (by simp; omega) _).alloc (by simp; omega) _).setCell hB _, World.cell?_setCell_same _ _ _ (u := old) ?_⟩
  rw [World.cell?_alloc_lt _ _ t (by simp; omega), World.cell?_alloc_lt _ _ t (by simp; omega), World.cell?_alloc_lt _ _ t (by simp; omega), World.cell?_alloc_lt _ _ t htl]
  exact ht0
set_option maxRecDepth 100000 in
set_option maxHeartbeats 4000000 in
theorem name_err (n : Int) (h0 : 0 ≤ n) (h8 : n ≤ 8) (w : World) (hg : HasErr w) : Calls Tryz.prog 78 #[.iface 85 (.int .i64 n)] w fun e w' => e = .returned (.string (nameB n)) ∧ Below w.heap.size w w' := by
  have hlt := hg.lt
  have b1 : Below w.heap.size w ((w.alloc (.cells #[.int .i64 0] 184)).alloc (.cells #[.int .i64 0] 85)) := ((Below.refl _ _).alloc (Nat.le_refl _) _).alloc (by simp) _
  have H1 : Hid (HasErr ((w.alloc (.cells #[.int .i64 0] 184)).alloc (.cells #[.int .i64 0] 85))) := hg.below hlt b1
  have HB1 : Hid _ := b1
  clear hg b1
  go_enter Tryz.func78, Tryz.ntmps78
  go_wp2_with fail
  refine (asb_miss n ⟨w.heap.size, 0, none⟩ (.int .i64 0) _ H1.out (by simp)).mono ?_
  rintro e w1 ⟨rfl, hb⟩
  have HB : Hid (Below w.heap.size w w1) := HB1.out.trans (hb.mono (by simp; omega)) 
  have H2 : Hid (HasErr w1) := H1.out.below (by simp) hb
  have c1 : w1.cell? ⟨w.heap.size + 1, 0, none⟩ = some (.int .i64 0) := (hb.cell (p := ⟨w.heap.size + 1, 0, none⟩) (by simp)).trans (by simp)
  have f1 : w1.frozen? ⟨w.heap.size + 1, 0, none⟩ = false := (World.frozen?_of_block (a := ⟨w.heap.size + 1, 0, none⟩) (hb.block _ (by simp))).trans (by simp)
  have s1 : w.heap.size + 2 ≤ w1.heap.size := by have := hb.size; simp at this; omega
  clear H1 hb HB1
  have HE : ∀ w', Calls Tryz.prog 121 #[.int .i64 n] w' fun e w2 => e = .returned (.string (nameB n)) ∧ w2 = w' := error_c n h0 h8
  have HC : Hid _ := HE
  clear HE
  go_wp2_with fail
  refine (as_hitB w.heap.size n ⟨w.heap.size + 1, 0, none⟩ (.int .i64 0) _ H2.out c1 f1 (Nat.le_succ _) (by omega)).mono ?_
  rintro e w2 ⟨rfl, hb2, c2⟩
  have HB2 : Hid (Below w.heap.size w w2) := HB.out.trans hb2
  clear hb2 c1 f1 H2 HB
  go_wp2_with fail
  refine (HC.out _).mono ?_
  rintro e w3 ⟨rfl, rfl⟩
  go_wp2_with fail
  go_ret
  exact ⟨rfl, HB2.out⟩
end Go.Proofs.YtpcnfoaoajfhlaaGreatDoor

namespace Go.Proofs.YtpcnfoaoajfhlaaGreatDoor
set_option linter.unusedVariables false
set_option linter.unusedSimpArgs false
open Go.RowKit

/-- what package run wants of the program's variables -/
structure Gl (w : World) : Prop where
  err : HasErr w
  tab : Lib.TabIs Tryz.prog w powName .u64 Lib.pow10Tab
  max : ∃ m, w.cell? ⟨1, 0, none⟩ = some (.int .i64 m)
theorem Gl.below {w w' : World} (h : Gl w) (hb : Below w.heap.size w w') : Gl w' := by
  obtain ⟨m, hm⟩ := h.max
  exact ⟨h.err.below h.err.lt hb, (Lib.tabBelow_of_tabIs h.tab).on hb |>.here, m, old_cellT hb hm⟩
theorem itoa_digS (n : Nat) : (⟨(Lib.itoa (n : Int)).toArray⟩ : ByteArray) = digS n := by
  unfold Lib.itoa digS
  simp
theorem runWritten_c (n : Nat) (err : Value) (w : World) (hn : n ≤ 9223372036854775807) (h : Gl w) :
    Calls Tryz.prog 166 #[.int .i64 n, err] w fun e w' => e = .returned (.tuple #[.string (digS n), err]) ∧ Below w.heap.size w w' := by
  have HT : Hid (Lib.TabIs Tryz.prog w powName .u64 Lib.pow10Tab) := h.tab
  have hi : (n : Int) ≤ 9223372036854775807 := by omega
  have hz : -9223372036854775808 ≤ (n : Int) := by omega
  clear h
  go_enter Tryz.func166, Tryz.ntmps166
  go_wp2_with fail
  refine (strconv_Itoa_s (n : Int) hz hi _ HT.out).mono ?_
  rintro e w1 ⟨he, k, os, hw⟩
  rw [itoa_digS] at he
  subst he
  have HB : Hid (Below w.heap.size w w1) := by rw [hw]; exact Lib.below_grow _ _ (Nat.le_refl _) _ _
  clear hw
  go_wp2_with fail
  go_ret2
  exact ⟨rfl, HB.out⟩
end Go.Proofs.YtpcnfoaoajfhlaaGreatDoor

namespace Go.Proofs.YtpcnfoaoajfhlaaGreatDoor
set_option linter.unusedVariables false
set_option linter.unusedSimpArgs false
open Go.RowKit

theorem powGz : Tryz.prog.globalNamed powName = some 2 := by kernel_rfl
theorem Gl.low {w w' : World} (h : Gl w) (hs : 7 ≤ w.heap.size) (hb : Below 7 w w') : Gl w' := by
  obtain ⟨m, hm⟩ := h.max
  refine ⟨h.err.below (by omega) hb, ?_, m, (hb.cell (p := ⟨1, 0, none⟩) (by show 1 < 7; omega)).trans hm⟩
  have ht := h.tab
  unfold Lib.TabIs World.var? at ht ⊢
  rw [powGz] at ht ⊢
  simp only [Option.bind_some] at ht ⊢
  rw [hb.block 2 (by omega)]
  exact ht
theorem Kept.low {S : Nat → Prop} {w w' : World} (h : Kept S w w') (hs : 7 ≤ w.heap.size) (hS : ∀ x, S x → 7 ≤ x) : Below 7 w w' :=
  ⟨h.os, h.tape, h.output, h.size, fun k hk => h.block k (Nat.lt_of_lt_of_le hk hs) (fun hx => by have := hS k hx; omega)⟩
/-- a desk at d: its mesh at m, its table at r; the mesh lies in S -/
structure Dk (S : Nat → Prop) (w : World) (d m r : Nat) (l : List Deed) (cs : List (List En)) : Prop where
  mesh : MeshAt S w m l cs
  good : GoodM l cs
  d0 : w.cell? ⟨d, 0, none⟩ = some (.pointer (some ⟨m, 0, none⟩))
  d1 : w.cell? ⟨d, 1, none⟩ = some (.map (some r))
  tab : w.heap[r]? = some (.map wantE7 7)
  gl : Gl w
  lo : ∀ x, S x → 7 ≤ x
  ng : 7 ≤ w.heap.size
  dS : ¬ S d
  rS : ¬ S r
/-- what a desk's call leaves -/
def DkTo (S : Nat → Prop) (w w' : World) (d m r : Nat) (l : List Deed) (cs : List (List En)) : Prop := Kept S w w' ∧ ∃ S', Dk S' w' d m r l cs ∧ ∀ x, S' x → S x ∨ w.heap.size ≤ x
theorem Dk.lt {S : Nat → Prop} {w : World} {d m r : Nat} {l : List Deed} {cs : List (List En)} (h : Dk S w d m r l cs) : d < w.heap.size ∧ r < w.heap.size :=
  ⟨World.block_lt_of_cell? w _ h.d0, (Array.getElem?_eq_some_iff.1 h.tab).1⟩
theorem Dk.to {S : Nat → Prop} {w w' : World} {d m r : Nat} {l l' : List Deed} {cs cs' : List (List En)} (h : Dk S w d m r l cs) (ht : MeshTo S w w' m l' cs') (hg : GoodM l' cs') : DkTo S w w' d m r l' cs' := by
  obtain ⟨hk, S', hm, hs⟩ := ht
  obtain ⟨h1, h2⟩ := h.lt
  refine ⟨hk, S', ⟨hm, hg, (World.cell?_of_block (a := ⟨d, 0, none⟩) (hk.block d h1 h.dS)).trans h.d0, (World.cell?_of_block (a := ⟨d, 1, none⟩) (hk.block d h1 h.dS)).trans h.d1, (hk.block r h2 h.rS).trans h.tab, h.gl.low h.ng (hk.low h.ng h.lo), fun x hx => ?_, Nat.le_trans h.ng hk.size, fun hx => ?_, fun hx => ?_⟩, hs⟩
  · rcases hs x hx with h' | h'
    · exact h.lo x h'
    · have := h.ng; omega
  · rcases hs d hx with h' | h'
    · exact h.dS h'
    · omega
  · rcases hs r hx with h' | h'
    · exact h.rS h'
    · omega
theorem mDone_num (o : Out) (l : List Deed) (cs : List (List En)) (node key : Int) (h : ∃ k : Nat, o.num = k ∧ k ≤ 1001) : ∃ k : Nat, (mDone o l cs node key).num = k ∧ k ≤ 1001 := by
  unfold mDone
  split
  · exact ⟨0, rfl, by omega⟩
  · split
    · exact ⟨0, rfl, by omega⟩
    · exact h
theorem recO_num (l : List Deed) (k : Int) (g : Bool) (t : ByteArray) : ∃ n : Nat, (recO l k g t).num = n ∧ n ≤ 1001 := by
  unfold recO
  split
  · exact ⟨0, rfl, by omega⟩
  · exact ⟨l.length + 1, by simp, by omega⟩
theorem putO_num (l : List Deed) (k : Int) (t : ByteArray) : ∃ n : Nat, (putO l k t).num = n ∧ n ≤ 1001 := by
  unfold putO
  split
  · exact ⟨0, rfl, by omega⟩
  · split
    · exact ⟨0, rfl, by omega⟩
    · exact recO_num _ _ _ _
theorem delO_num (l : List Deed) (k : Int) : ∃ n : Nat, (delO l k).num = n ∧ n ≤ 1001 := by
  unfold delO
  split
  · exact ⟨0, rfl, by omega⟩
  · split
    · exact ⟨0, rfl, by omega⟩
    · exact recO_num _ _ _ _
/-- a told number, and a fault -/
def telV (o : MOut) : Value := .tuple #[.string (digS o.num.toNat), eV o.err]
theorem DkTo.below {S : Nat → Prop} {w w1 w' : World} {d m r : Nat} {l : List Deed} {cs : List (List En)} (h : DkTo S w w1 d m r l cs) (hb : Below w1.heap.size w1 w') : DkTo S w w' d m r l cs := by
  obtain ⟨hk, S', hd, hs⟩ := h
  obtain ⟨k2, S2, h2, s2⟩ := hd.to (hd.mesh.to hb) hd.good
  refine ⟨⟨k2.os.trans hk.os, k2.tape.trans hk.tape, k2.output.trans hk.output, Nat.le_trans hk.size k2.size, fun x hx hn => (hb.block x (Nat.lt_of_lt_of_le hx hk.size)).trans (hk.block x hx hn)⟩, S2, h2, fun x hx => ?_⟩
  rcases s2 x hx with h' | h'
  · exact hs x h'
  · exact .inr (Nat.le_trans hk.size h')
theorem DkTo.gl {S : Nat → Prop} {w w1 : World} {d m r : Nat} {l : List Deed} {cs : List (List En)} (h : DkTo S w w1 d m r l cs) : Gl w1 := by
  obtain ⟨_, _, hd, _⟩ := h
  exact hd.gl
/-- a cell that a call of the mesh leaves alone -/
theorem Kept.at {S : Nat → Prop} {w w1 : World} (h : Kept S w w1) {a : Addr} {v : Value} (hc : w.cell? a = some v) (hn : ¬ S a.block) : w1.cell? a = some v :=
  (World.cell?_of_block (a := a) (h.block a.block (World.block_lt_of_cell? w a hc) hn)).trans hc
set_option maxHeartbeats 8000000 in
theorem deskPut_c {S : Nat → Prop} {w : World} {d m r : Nat} {l : List Deed} {cs : List (List En)} (h : Dk S w d m r l cs) (nb no nc wb wo wc a b : Nat) (t : ByteArray) (n0 : w.cell? ⟨nb, no, none⟩ = some (.int .i64 a)) (n1 : w.cell? ⟨nb, no + 1, none⟩ = some (.int .i64 b)) (t0 : w.cell? ⟨wb, wo, none⟩ = some (.string t)) (ht : t.size ≤ maxLen) (hSn : ¬ S nb) (hSw : ¬ S wb) :
    Calls Tryz.prog 122 #[.pointer (some ⟨d, 0, none⟩), .slice (some ⟨nb, no, none⟩) 2 nc, .slice (some ⟨wb, wo, none⟩) 1 wc] w fun e w' => e = .returned (telV (mPut l cs a b t)) ∧ DkTo S w w' d m r (mPut l cs a b t).done (mPut l cs a b t).cs := by
  have d0 := h.d0
  have hSd := h.dS
  obtain ⟨o, ho⟩ : ∃ o, mPut l cs a b t = o := ⟨_, rfl⟩
  obtain ⟨k, hk, hk1⟩ : ∃ k : Nat, o.num = k ∧ k ≤ 1001 := by rw [← ho]; exact mDone_num _ _ _ _ _ (putO_num _ _ _)
  have hg := mPut_good h.good a b t
  rw [ho] at hg ⊢
  have HP : Hid (∀ W, Below w.heap.size w W → Calls Tryz.prog 10 #[.pointer (some ⟨m, 0, none⟩), .int .i64 a, .int .i64 b, .string t] W fun e w' => e = .returned (.tuple #[.int .i64 k, eV o.err]) ∧ DkTo S w w' d m r o.done o.cs) := fun W hW => by
    have c := mPut_c (h.mesh.grown hW) h.good a b t ht
    rw [ho, hk] at c
    exact c.mono fun e w' hx => ⟨hx.1, h.to (MeshTo.after hW hx.2) hg⟩
  have HW : Hid (∀ W ev, Gl W → Calls Tryz.prog 166 #[.int .i64 k, ev] W fun e w' => e = .returned (.tuple #[.string (digS k), ev]) ∧ Below W.heap.size W w') := fun W ev hW => runWritten_c k ev W (by omega) hW
  have HT : Hid (telV o = .tuple #[.string (digS k), eV o.err]) := by show _ = _; rw [telV, hk]; rfl
  rw [HT.out]
  obtain ⟨ev, hev⟩ : ∃ ev, eV o.err = ev := ⟨_, rfl⟩
  rw [hev] at HP ⊢
  have HS : Hid (¬ S d ∧ ¬ S nb ∧ ¬ S wb) := ⟨hSd, hSn, hSw⟩
  clear h hg ho hk HT hev hSd hSn hSw ht
  go_enter Tryz.func122, Tryz.ntmps122
  go_upto_region 1 with fail
  go_region_held3 (fun w' => w'.cell? ⟨d, 0, none⟩ = some (.pointer (some ⟨m, 0, none⟩)) ∧ w'.cell? ⟨nb, no, none⟩ = some (.int .i64 a) ∧ w'.cell? ⟨nb, no + 1, none⟩ = some (.int .i64 b) ∧ w'.cell? ⟨wb, wo, none⟩ = some (.string t)) (first | go_keep | (exact ⟨q0, q1, q2, q3⟩) | (exact ⟨kept_cell HB4.out q0, kept_cell HB4.out q1, kept_cell HB4.out q2, kept_cell HB4.out q3⟩)) (first | (go_at_call 10; refine Calls.mono (HP.out _ ?_) ?_; exact ⟨rfl, rfl, rfl, Nat.le_refl _, fun _ _ => rfl⟩; rintro e w3 ⟨rfl, hd⟩; have q0 := hd.1.at d0 HS.out.1; have q1 := hd.1.at n0 HS.out.2.1; have q2 := hd.1.at n1 HS.out.2.1; have q3 := hd.1.at t0 HS.out.2.2; have HD : Hid _ := hd; clear hd) | (go_at_call 166; refine Calls.mono (HW.out _ _ (DkTo.gl HD.out)) ?_; rintro e w4 ⟨rfl, hb4⟩; have HB4 : Hid (Below w3.heap.size w3 w4) := hb4; clear hb4))
  go_wp2_with fail
  go_ret2
  exact ⟨rfl, DkTo.below HD.out HB4.out⟩
end Go.Proofs.YtpcnfoaoajfhlaaGreatDoor

namespace Go.Proofs.YtpcnfoaoajfhlaaGreatDoor
set_option linter.unusedVariables false
set_option linter.unusedSimpArgs false
open Go.RowKit

set_option maxHeartbeats 8000000 in
theorem deskDelete_c {S : Nat → Prop} {w : World} {d m r : Nat} {l : List Deed} {cs : List (List En)} (h : Dk S w d m r l cs) (nb no nc a b : Nat) (vw : Value) (n0 : w.cell? ⟨nb, no, none⟩ = some (.int .i64 a)) (n1 : w.cell? ⟨nb, no + 1, none⟩ = some (.int .i64 b)) (hSn : ¬ S nb) :
    Calls Tryz.prog 123 #[.pointer (some ⟨d, 0, none⟩), .slice (some ⟨nb, no, none⟩) 2 nc, vw] w fun e w' => e = .returned (telV (mDel l cs a b)) ∧ DkTo S w w' d m r (mDel l cs a b).done (mDel l cs a b).cs := by
  have d0 := h.d0
  have hSd := h.dS
  obtain ⟨o, ho⟩ : ∃ o, mDel l cs a b = o := ⟨_, rfl⟩
  obtain ⟨k, hk, hk1⟩ : ∃ k : Nat, o.num = k ∧ k ≤ 1001 := by rw [← ho]; exact mDone_num _ _ _ _ _ (delO_num _ _)
  have hg := mDel_good h.good a b
  rw [ho] at hg ⊢
  have HP : Hid (∀ W, Below w.heap.size w W → Calls Tryz.prog 11 #[.pointer (some ⟨m, 0, none⟩), .int .i64 a, .int .i64 b] W fun e w' => e = .returned (.tuple #[.int .i64 k, eV o.err]) ∧ DkTo S w w' d m r o.done o.cs) := fun W hW => by
    have c := mDel_c (h.mesh.grown hW) h.good a b
    rw [ho, hk] at c
    exact c.mono fun e w' hx => ⟨hx.1, h.to (MeshTo.after hW hx.2) hg⟩
  have HW : Hid (∀ W ev, Gl W → Calls Tryz.prog 166 #[.int .i64 k, ev] W fun e w' => e = .returned (.tuple #[.string (digS k), ev]) ∧ Below W.heap.size W w') := fun W ev hW => runWritten_c k ev W (by omega) hW
  have HT : Hid (telV o = .tuple #[.string (digS k), eV o.err]) := by show _ = _; rw [telV, hk]; rfl
  rw [HT.out]
  obtain ⟨ev, hev⟩ : ∃ ev, eV o.err = ev := ⟨_, rfl⟩
  rw [hev] at HP ⊢
  have HS : Hid (¬ S d ∧ ¬ S nb) := ⟨hSd, hSn⟩
  clear h hg ho hk HT hev hSd hSn
  go_enter Tryz.func123, Tryz.ntmps123
  go_upto_region 1 with fail
  go_region_held3 (fun w' => w'.cell? ⟨d, 0, none⟩ = some (.pointer (some ⟨m, 0, none⟩)) ∧ w'.cell? ⟨nb, no, none⟩ = some (.int .i64 a) ∧ w'.cell? ⟨nb, no + 1, none⟩ = some (.int .i64 b)  ) (first | go_keep | (exact ⟨q0, q1, q2⟩) | (exact ⟨kept_cell HB4.out q0, kept_cell HB4.out q1, kept_cell HB4.out q2⟩)) (first | (go_at_call 11; refine Calls.mono (HP.out _ ?_) ?_; exact ⟨rfl, rfl, rfl, Nat.le_refl _, fun _ _ => rfl⟩; rintro e w3 ⟨rfl, hd⟩; have q0 := hd.1.at d0 HS.out.1; have q1 := hd.1.at n0 HS.out.2; have q2 := hd.1.at n1 HS.out.2; have HD : Hid _ := hd; clear hd) | (go_at_call 166; refine Calls.mono (HW.out _ _ (DkTo.gl HD.out)) ?_; rintro e w4 ⟨rfl, hb4⟩; have HB4 : Hid (Below w3.heap.size w3 w4) := hb4; clear hb4))
  go_wp2_with fail
  go_ret2
  exact ⟨rfl, DkTo.below HD.out HB4.out⟩
set_option maxHeartbeats 8000000 in
theorem deskSeq_c {S : Nat → Prop} {w : World} {d m r : Nat} {l : List Deed} {cs : List (List En)} (h : Dk S w d m r l cs) (vn vw : Value) :
    Calls Tryz.prog 126 #[.pointer (some ⟨d, 0, none⟩), vn, vw] w fun e w' => e = .returned (.tuple #[.string (digS l.length), .nilIface]) ∧ DkTo S w w' d m r l cs := by
  have d0 := h.d0
  have h1 := h.good.len
  obtain ⟨k, hk⟩ : ∃ k, l.length = k := ⟨_, rfl⟩
  rw [hk] at h1
  have HD : Hid (Dk S w d m r l cs) := h
  have HQ : Hid (∀ W, Below w.heap.size w W → Calls Tryz.prog 16 #[.pointer (some ⟨m, 0, none⟩)] W fun e w' => e = .returned (.int .i64 k) ∧ w' = W) := fun W hW => by
    have c := mSeq_c (h.mesh.grown hW)
    rw [hk] at c
    exact c
  have HW : Hid (∀ W ev, Gl W → Calls Tryz.prog 166 #[.int .i64 k, ev] W fun e w' => e = .returned (.tuple #[.string (digS k), ev]) ∧ Below W.heap.size W w') := fun W ev hW => runWritten_c k ev W (by omega) hW
  rw [hk]
  clear h hk
  go_enter Tryz.func126, Tryz.ntmps126
  go_wp2_with fail
  refine (HQ.out _ (Below.refl _ _)).mono ?_
  rintro e w1 ⟨rfl, hw⟩
  rw [hw]
  clear hw w1
  go_wp2_with fail
  refine (HW.out _ _ HD.out.gl).mono ?_
  rintro e w2 ⟨rfl, hb⟩
  have HB : Hid (Below w.heap.size w w2) := hb
  clear hb
  go_wp2_with fail
  go_ret2
  exact ⟨rfl, HD.out.to (HD.out.mesh.to HB.out) HD.out.good⟩
def okS : ByteArray := ⟨#[111, 107]⟩
set_option maxHeartbeats 8000000 in
theorem deskSwap_c {S : Nat → Prop} {w : World} {d m r : Nat} {l : List Deed} {cs cs' : List (List En)} (h : Dk S w d m r l cs) (nb no nc a b : Nat) (vw : Value) (n0 : w.cell? ⟨nb, no, none⟩ = some (.int .i64 a)) (n1 : w.cell? ⟨nb, no + 1, none⟩ = some (.int .i64 b)) (hSn : ¬ S nb) {n : Int} (hx : mSwap cs a b = (cs', n)) :
    Calls Tryz.prog 125 #[.pointer (some ⟨d, 0, none⟩), .slice (some ⟨nb, no, none⟩) 2 nc, vw] w fun e w' => e = .returned (.tuple #[.string okS, eV n]) ∧ DkTo S w w' d m r l cs' := by
  have d0 := h.d0
  have hSd := h.dS
  have hg := mSwap_good h.good a b
  rw [hx] at hg
  have HP : Hid (∀ W, Below w.heap.size w W → Calls Tryz.prog 15 #[.pointer (some ⟨m, 0, none⟩), .int .i64 a, .int .i64 b] W fun e w' => e = .returned (eV n) ∧ DkTo S w w' d m r l cs') := fun W hW => by
    have c := mSwap_o (h.mesh.grown hW) h.good hx (TabIs_below h.gl.tab hW)
    exact c.mono fun e w' hx => ⟨hx.1, h.to (MeshTo.after hW hx.2) hg⟩
  obtain ⟨ev, hev⟩ : ∃ ev, eV n = ev := ⟨_, rfl⟩
  rw [hev] at HP ⊢
  have HS : Hid (¬ S d ∧ ¬ S nb) := ⟨hSd, hSn⟩
  clear h hg hev hSd hSn hx
  go_enter Tryz.func125, Tryz.ntmps125
  go_upto_region 1 with fail
  go_region_held3 (fun w' => w'.cell? ⟨d, 0, none⟩ = some (.pointer (some ⟨m, 0, none⟩)) ∧ w'.cell? ⟨nb, no, none⟩ = some (.int .i64 a) ∧ w'.cell? ⟨nb, no + 1, none⟩ = some (.int .i64 b)) (first | go_keep | (exact ⟨q0, q1, q2⟩)) (first | (go_at_call 15; refine Calls.mono (HP.out _ ?_) ?_; exact ⟨rfl, rfl, rfl, Nat.le_refl _, fun _ _ => rfl⟩; rintro e w3 ⟨rfl, hd⟩; have q0 := hd.1.at d0 HS.out.1; have q1 := hd.1.at n0 HS.out.2; have q2 := hd.1.at n1 HS.out.2; have HD : Hid _ := hd; clear hd))
  go_wp2_with fail
  go_ret2
  exact ⟨rfl, HD.out⟩
end Go.Proofs.YtpcnfoaoajfhlaaGreatDoor

namespace Go.Proofs.YtpcnfoaoajfhlaaGreatDoor
set_option linter.unusedVariables false
set_option linter.unusedSimpArgs false
open Go.RowKit

def goneS : ByteArray := ⟨#[103, 111, 110, 101]⟩
def cachedS : ByteArray := ⟨#[32, 99, 97, 99, 104, 101, 100]⟩
def dashS : ByteArray := ⟨#[45]⟩
def blankS : ByteArray := ⟨#[32]⟩
/-- an entry, told -/
def entB (v a : Nat) (g : Bool) (t : ByteArray) : ByteArray := digS v ++ dashS ++ digS a ++ blankS ++ (if g then goneS else t)
theorem itoa_c (n : Nat) (hn : n ≤ 9223372036854775807) (w : World) (h : Lib.TabIs Tryz.prog w powName .u64 Lib.pow10Tab) :
    Calls Tryz.prog 168 #[.int .i64 n] w fun e w' => e = .returned (.string (digS n)) ∧ Below w.heap.size w w' := by
  refine (strconv_Itoa_s (n : Int) (by omega) (by omega) _ h).mono ?_
  rintro e w1 ⟨he, k, os, hw⟩
  rw [itoa_digS] at he
  exact ⟨he, by rw [hw]; exact Lib.below_grow _ _ (Nat.le_refl _) _ _⟩
set_option maxHeartbeats 8000000 in
theorem entryText_c (k : Int) (v a : Nat) (g : Bool) (t : ByteArray) (w : World) (hv : v ≤ 1000) (ha : a ≤ 1000) (ht : t.size ≤ 12) (h : Gl w) :
    Calls Tryz.prog 167 #[.agg #[.int .i64 k, .int .i64 v, .int .i64 a, .bool g, .string t]] w fun e w' => e = .returned (.string (entB v a g t)) ∧ Below w.heap.size w w' := by
  have b1 : Below w.heap.size w (w.alloc (.cells #[.int .i64 k, .int .i64 v, .int .i64 a, .bool g, .string t] 46)) := (Below.refl _ _).alloc (Nat.le_refl _) _
  obtain ⟨w1, hw1⟩ : ∃ w1, w1 = w.alloc (.cells #[.int .i64 k, .int .i64 v, .int .i64 a, .bool g, .string t] 46) := ⟨_, rfl⟩
  have hs1 : w1.heap.size = w.heap.size + 1 := by rw [hw1]; simp
  have HI : Hid (∀ (n : Nat) W, Below w1.heap.size w1 W → n ≤ 1000 → Calls Tryz.prog 168 #[.int .i64 n] W fun e w' => e = .returned (.string (digS n)) ∧ Below W.heap.size W w') := fun n W hW hn => itoa_c n (by omega) W (by
    rw [hw1] at hW
    exact (Lib.tabBelow_of_tabIs h.tab _ (b1.trans (hW.mono (by simp)))))
  have HB1 : Hid (Below w.heap.size w w1) := by rw [hw1]; exact b1
  have HE : Hid (∀ x, x = (if g then goneS else t) → digS v ++ dashS ++ digS a ++ blankS ++ x = entB v a g t) := fun x hx => by rw [hx]; rfl
  have zv := digS_size v (by omega)
  have za := digS_size a (by omega)
  clear h b1
  go_enter Tryz.func167, Tryz.ntmps167
  go_upto_region 1 with fail
  rw [← hw1]
  have e1 : w1.cell? ⟨w.heap.size, 1, none⟩ = some (.int .i64 v) := by rw [hw1]; simp
  have e2 : w1.cell? ⟨w.heap.size, 2, none⟩ = some (.int .i64 a) := by rw [hw1]; simp
  have e3 : w1.cell? ⟨w.heap.size, 3, none⟩ = some (.bool g) := by rw [hw1]; simp
  have e4 : w1.cell? ⟨w.heap.size, 4, none⟩ = some (.string t) := by rw [hw1]; simp
  clear hw1
  go_upto_if 7 with fail
  go_cut [3] (fun c wc => ∃ x, c = .string x ∧ wc = w1 ∧ Hid (x = (if g then goneS else t)))
  case first =>
    cases g
    · go_wp2_with fail
      go_meet
      exact ⟨_, rfl, rfl, rfl⟩
    · go_wp2_with fail
      go_meet
      exact ⟨_, rfl, rfl, rfl⟩
  case rest =>
  obtain ⟨x, hc, hwc, HX⟩ := hcut
  subst hc
  rw [hwc]
  clear hwc
  have zx : x.size ≤ 12 := by
    rw [HX.out]
    cases g
    · exact ht
    · show goneS.size ≤ 12; decide
  have z1 : ¬ ((digS v).size + 1 > 9223372036854775807) := by omega
  have z2 : ¬ ((digS v).size + 1 + (digS a).size > 9223372036854775807) := by omega
  have z3 : ¬ ((digS v).size + 1 + (digS a).size + 1 > 9223372036854775807) := by omega
  have z4 : ¬ ((digS v).size + 1 + (digS a).size + 1 + x.size > 9223372036854775807) := by omega
  go_upto_region 4 with fail
  go_region_held3 (fun w' => w'.cell? ⟨w.heap.size, 1, none⟩ = some (.int .i64 v) ∧ w'.cell? ⟨w.heap.size, 2, none⟩ = some (.int .i64 a)) (first | go_keep | (exact ⟨kept_cell HB3.out e1, kept_cell HB3.out e2⟩) | (exact ⟨kept_cell HB4.out e1, kept_cell HB4.out e2⟩)) (first | (go_at_call 168; refine Calls.mono (HI.out _ _ ?_ ?_) ?_; exact ⟨rfl, rfl, rfl, Nat.le_refl _, fun _ _ => rfl⟩; assumption; rintro e w3 ⟨rfl, hb3⟩; have HB3 : Hid (Below w1.heap.size w1 w3) := below_undrew hb3; clear hb3) | (go_at_call 168; refine Calls.mono (HI.out _ _ HB3.out ?_) ?_; assumption; rintro e w4 ⟨rfl, hb4⟩; have HB4 : Hid (Below w1.heap.size w1 w4) := HB3.out.trans (hb4.mono HB3.out.size); clear hb4))
  go_wp2_with fail
  have HF : Hid _ := HE.out x HX.out
  go_ret
  exact ⟨by rw [← HF.out]; rfl, HB1.out.trans (HB4.out.mono HB1.out.size)⟩
end Go.Proofs.YtpcnfoaoajfhlaaGreatDoor
