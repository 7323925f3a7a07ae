/-
  A strings.Builder's WriteString, WriteByte, String by their contracts.
  errors.As at a target of package run's own error: hit by that error, missed by an api.Errno.
  Package run's name: how an error is told.
  Package run by its contracts: written, entryText.
-/
import Derived.Test.YtpcnfoaoajfhlaaGreatDoorRaay
import Derived.Test.YtpcnfoaoajfhlaaGreatDoorRaah
import Derived.Test.YtpcnfoaoajfhlaaGreatDoorRaam
namespace Go.Proofs.YtpcnfoaoajfhlaaGreatDoor
set_option linter.unusedVariables false
set_option linter.unusedSimpArgs false
set_option linter.unusedVariables false
set_option linter.unusedSimpArgs false
open Go.RowKit Go.Lib Go.Shelf

theorem bd_neT : (136 : TypeId) ≠ 5 := by decide
theorem Kept.grownBy {F : Nat → Prop} {w w1 w' : World} {o : Option Nat} (h : Kept F w w1) (hg : w1.grownBy w' o) (hF : ∀ x, x < w.heap.size → o = some x → F x) : Kept F w w' :=
  ⟨hg.os.trans h.os, hg.tape.trans h.tape, hg.output.trans h.output, Nat.le_trans h.size hg.size, fun x hx hn => (hg.block x (Nat.lt_of_lt_of_le hx h.size) (fun e => hn (hF x hx e.symm))).trans (h.block x hx hn)⟩
/-- what a call that writes leaves -/
def BdTo (B : Nat) (w w' : World) (b : Nat) (bs : List Value) (v : Value) : Prop :=
  ∃ v', Bd B w' b bs (.pointer (some ⟨b, 0, none⟩)) v' ∧ (∀ x, v'.ownBlock = some x → v.ownBlock = some x ∨ w.heap.size ≤ x) ∧ Kept (fun x => x = b ∨ v.ownBlock = some x) w w' ∧ Below B w w'
set_option maxHeartbeats 2000000 in
set_option maxRecDepth 100000 in
theorem writeString_c {B : Nat} {w : World} {b : Nat} {bs : List Value} {p v : Value} (h : Bd B w b bs p v) (s : ByteArray) (hl : bs.length + s.size ≤ 140737488355328) (hB : B ≤ w.heap.size) :
    Calls Tryz.prog 81 #[.pointer (some ⟨b, 0, none⟩), .string s] w fun e w' => (∃ u, e = .returned u) ∧ BdTo B w w' b (bs ++ strCells s) v := by
  obtain ⟨i0, hi, hz0, hz1, hz2⟩ := info_parts kBuilder_Extra_169.infoByte
  go_enter Tryz.func81, Tryz.ntmps81
  go_wp2_with fail
  refine (copyCheck_c h).mono ?_
  rintro e w1 ⟨rfl, h1, hk1, hs1, hb1⟩
  have c0 : w1.cell? ⟨b, 0, none⟩ = some (.pointer (some ⟨b, 0, none⟩)) := by rw [Lib.cell_of_heap h1.blk]; rfl
  have c1 : w1.cell? ⟨b, 1, none⟩ = some v := by rw [Lib.cell_of_heap h1.blk]; rfl
  go_wp2_with (at_builtin; refine wp_appStr _ rfl _ _ 115 9 rfl B 5 i0 Tryz.underlying115 Tryz.underlying9 hi hz0 hz1 hz2 _ _ _ rfl h1.own s rfl ?c3 ?c4 ?c5 ?_)
  case c3 => unfold maxLen; omega
  case c4 => omega
  case c5 => omega
  intro v' w2 hown' hgrow hat
  have hlt : b < w1.heap.size := h1.lt
  have hb2 : w2.heap[b]? = some (.cells #[.pointer (some ⟨b, 0, none⟩), v] 136 (0, 0)) := by
    rw [hgrow.block b hlt (fun e => h1.ne e.symm)]
    exact h1.blk
  have d0 : w2.cell? ⟨b, 0, none⟩ = some (.pointer (some ⟨b, 0, none⟩)) := by rw [Lib.cell_of_heap hb2]; rfl
  have d1 : w2.cell? ⟨b, 1, none⟩ = some v := by rw [Lib.cell_of_heap hb2]; rfl
  have f1 : w2.frozen? ⟨b, 1, none⟩ = false := Lib.frozen_of_heap hb2 1
  obtain ⟨ao, n', cap, rfl⟩ : ∃ ao n' cap, v' = .slice ao n' cap := by
    rcases hown'.2 with ⟨hv, _⟩ | ⟨g, cap, cur, fz, hv, _⟩
    · exact ⟨_, _, _, hv⟩
    · exact ⟨_, _, _, hv⟩
  go_wp2
  go_ret2
  have hP := Lib.BuilderAtF.put (T := 136) (e := 5) h1.le hb2 (bs' := bs ++ strCells s) (by simpa [Lib.strCells_length] using hown') bd_neT
  obtain ⟨_, v2, e1, e2, e3⟩ := hP
  have ev : v2 = .slice ao n' cap := by
    have := e1
    simp [World.setCell, Array.getElem?_modify, hb2] at this
    exact this.symm
  subst ev
  refine ⟨⟨_, rfl⟩, _, ⟨.inr rfl, e1, e2, e3, h1.le⟩, fun x hx => ?_, ?_, ?_⟩
  · rcases hat x hx with h' | h'
    · exact .inl h'
    · exact .inr (by omega)
  · refine Kept.setCell (Kept.grownBy (w1 := w1) ⟨hk1.os, hk1.tape, hk1.output, hk1.size, fun x hx hn => hk1.block x hx (fun e => hn (.inl e))⟩ hgrow (fun x _ hx => .inr hx)) _ _ (.inl rfl)
  · exact (hb1.grown hgrow (by omega) (fun k hk => (h1.own.lt k hk).1)).setCell (p := ⟨b, 1, none⟩) h1.le _
set_option maxHeartbeats 2000000 in
set_option maxRecDepth 100000 in
theorem writeByte_c {B : Nat} {w : World} {b : Nat} {bs : List Value} {p v : Value} (h : Bd B w b bs p v) (c : Int) (hl : bs.length + 1 ≤ 140737488355328) (hB : B ≤ w.heap.size) :
    Calls Tryz.prog 83 #[.pointer (some ⟨b, 0, none⟩), .int .u8 c] w fun e w' => (∃ u, e = .returned u) ∧ BdTo B w w' b (bs ++ [.int .u8 c]) v := by
  obtain ⟨i0, hi, hz0, hz1, hz2⟩ := info_parts kBuilder_Extra_169.infoByte
  go_enter Tryz.func83, Tryz.ntmps83
  go_wp2_with fail
  refine (copyCheck_c h).mono ?_
  rintro e w1 ⟨rfl, h1, hk1, hs1, hb1⟩
  have c0 : w1.cell? ⟨b, 0, none⟩ = some (.pointer (some ⟨b, 0, none⟩)) := by rw [Lib.cell_of_heap h1.blk]; rfl
  have c1 : w1.cell? ⟨b, 1, none⟩ = some v := by rw [Lib.cell_of_heap h1.blk]; rfl
  have HS : Hid (w1.heap.size = w.heap.size) := hs1
  clear hs1
  go_wp2_with (at_builtin; refine wp_appByte _ rfl _ _ 115 rfl B 5 i0 (.int .u8 0) Tryz.underlying115 hi hz0 hz1 hz2 rfl _ _ _ rfl (h1.own.alloc _) ⟨w1.heap.size, 0, none⟩ 1 (.int .u8 c) rfl ?c1 rfl ?c3 ?c4 ?c5 ?_)
  case c1 => simp
  case c3 => unfold maxLen; omega
  case c4 => omega
  case c5 => have := HS.out; simp; omega
  intro v' w2 hown' hgrow hat
  have hlt : b < w1.heap.size := h1.lt
  have hb2 : w2.heap[b]? = some (.cells #[.pointer (some ⟨b, 0, none⟩), v] 136 (0, 0)) := by
    rw [hgrow.block b (by simp; omega) (fun e => h1.ne e.symm), Lib.alloc_old w1 _ b hlt]
    exact h1.blk
  have d0 : w2.cell? ⟨b, 0, none⟩ = some (.pointer (some ⟨b, 0, none⟩)) := by rw [Lib.cell_of_heap hb2]; rfl
  have d1 : w2.cell? ⟨b, 1, none⟩ = some v := by rw [Lib.cell_of_heap hb2]; rfl
  have f1 : w2.frozen? ⟨b, 1, none⟩ = false := Lib.frozen_of_heap hb2 1
  obtain ⟨ao, n', cap, rfl⟩ : ∃ ao n' cap, v' = .slice ao n' cap := by
    rcases hown'.2 with ⟨hv, _⟩ | ⟨g, cap, cur, fz, hv, _⟩
    · exact ⟨_, _, _, hv⟩
    · exact ⟨_, _, _, hv⟩
  go_wp2
  go_ret
  have hs1 := HS.out
  have hP := Lib.BuilderAtF.put (T := 136) (e := 5) h1.le hb2 (bs' := bs ++ [.int .u8 c]) (by simpa using hown') bd_neT
  obtain ⟨_, v2, e1, e2, e3⟩ := hP
  have ev : v2 = .slice ao n' cap := by
    have := e1
    simp [World.setCell, Array.getElem?_modify, hb2] at this
    exact this.symm
  subst ev
  have ka : Kept (fun x => x = b ∨ v.ownBlock = some x) w (w1.alloc (.cells #[.int .u8 c] 5)) :=
    ⟨hk1.os, hk1.tape, hk1.output, by simp; omega, fun x hx hn => (Lib.alloc_old w1 _ x (by omega)).trans (hk1.block x hx (fun e => hn (.inl e)))⟩
  refine ⟨⟨_, rfl⟩, _, ⟨.inr rfl, e1, e2, e3, h1.le⟩, fun x hx => ?_, ?_, ?_⟩
  · rcases hat x hx with h' | h'
    · exact .inl h'
    · exact .inr (by omega)
  · exact Kept.setCell (Kept.grownBy ka hgrow (fun x _ hx => .inr hx)) _ _ (.inl rfl)
  · exact ((hb1.alloc (by omega) _).grown hgrow (by simp; omega) (fun k hk => (h1.own.lt k hk).1)).setCell (p := ⟨b, 1, none⟩) h1.le _
/-- what String answers -/
theorem string_c {B : Nat} {w : World} {b : Nat} {l : List UInt8} {p v : Value} (h : Bd B w b (Lib.byteCells l) p v) (hB : B ≤ w.heap.size) :
    Calls Tryz.prog 84 #[.pointer (some ⟨b, 0, none⟩)] w fun e w' => e = .returned (.string ⟨l.toArray⟩) ∧ Below B w w' := by
  have hI : Lib.IsBuilderF 136 5 B b (Lib.byteCells l) w := by
    rcases h.pp with rfl | rfl
    · exact .inl ⟨h.le, v, h.blk, h.own, h.ne⟩
    · exact .inr ⟨h.le, v, h.blk, h.own, h.ne⟩
  refine (Builder_String_any_k_s B b l w hI hB).mono ?_
  rintro e w' ⟨rfl, _, hb, _⟩
  exact ⟨rfl, hb⟩
end Go.Proofs.YtpcnfoaoajfhlaaGreatDoor

namespace Go.Proofs.YtpcnfoaoajfhlaaGreatDoor
set_option linter.unusedVariables false
set_option linter.unusedSimpArgs false
open Go.RowKit Go.Extern.Stop Go.Stop Go.Extern

theorem asb_valueOfP (t : Addr) (w : World) : (ReflectliteValue.unpack (.iface 185 (.pointer (some t)))).run Tryz.prog w
    = .ok (.agg #[.pointer (some ⟨7, 185, none⟩), .pointer (some ⟨w.heap.size, 0, none⟩), .int .u64 150]) (w.alloc (.cells #[.pointer (some t)] 185)) := by kernel_rfl
theorem asb_typeP (a : Addr) (w : World) : (ReflectliteValue.methodAny (ReflectliteValue.valueError "reflectlite.Value.Type" 0) (fun t _ _ _ => ReflectliteType.toType t) #[.agg #[.pointer (some ⟨7, 185, none⟩), .pointer (some a), .int .u64 150]]).run Tryz.prog w
    = .ok (.iface 242 (.agg #[.pointer (some ⟨7, 185, none⟩)])) w := by kernel_rfl
theorem asb_kindP (w : World) : ((ReflectliteType.abiMethod fun t => Functor.map (fun a : Nat => Value.int IntKind.u8 (a : Int)) (Rtype.kind t)) #[.pointer (some ⟨7, 185, none⟩)]).run Tryz.prog w = .ok (.int .u8 22) w := by kernel_rfl
theorem asb_kindE (w : World) : ((ReflectliteType.abiMethod fun t => Functor.map (fun a : Nat => Value.int IntKind.u8 (a : Int)) (Rtype.kind t)) #[.pointer (some ⟨7, 184, none⟩)]).run Tryz.prog w = .ok (.int .u8 25) w := by kernel_rfl
theorem asb_partsP (a : Addr) (w : World) : (ReflectliteValue.parts (.agg #[.pointer (some ⟨7, 185, none⟩), .pointer (some a), .int .u64 150])).run Tryz.prog w = .ok (some (185, a, 150)) w := by kernel_rfl
theorem asb_isNilP (a p : Addr) (W : World) (ha : W.cell? a = some (.pointer (some p))) :
    (ReflectliteValue.method (ReflectliteValue.valueError "reflectlite.Value.IsNil" 0) ReflectliteValue.isNil #[.agg #[.pointer (some ⟨7, 185, none⟩), .pointer (some a), .int .u64 150]]).run Tryz.prog W = .ok (.bool false) W := by
  show (ReflectliteValue.parts (.agg #[.pointer (some ⟨7, 185, none⟩), .pointer (some a), .int .u64 150]) >>= _).run Tryz.prog W = _
  rw [Sem.run_bind, asb_partsP]
  simp [ReflectliteValue.isNil, loadVar, isAgg, underlying, Tryz.underlying185, ha, Result.andThen]
theorem asb_elemP (w : World) : (ReflectliteType.method ReflectliteType.elem #[.agg #[.pointer (some ⟨7, 185, none⟩)]]).run Tryz.prog w = .ok (.iface 242 (.agg #[.pointer (some ⟨7, 184, none⟩)])) w := by kernel_rfl
theorem asb_implementsE (w : World) : (ReflectliteType.relation "Implements" ReflectliteType.implements_ #[.agg #[.pointer (some ⟨7, 184, none⟩)], .iface 242 (.agg #[.pointer (some ⟨7, 26, none⟩)])]).run Tryz.prog w = .ok (.bool true) w := by kernel_rfl
theorem asb_typeOfE (v : Value) (w : World) : (ReflectliteType.typeOf #[.iface 184 v]).run Tryz.prog w = .ok (.iface 242 (.agg #[.pointer (some ⟨7, 184, none⟩)])) w := by kernel_rfl
theorem asb_assignableE (w : World) : (ReflectliteType.relation "AssignableTo" ReflectliteType.assignableTo #[.agg #[.pointer (some ⟨7, 184, none⟩)], .iface 242 (.agg #[.pointer (some ⟨7, 184, none⟩)])]).run Tryz.prog w = .ok (.bool true) w := by kernel_rfl
theorem asb_valueOfE (n : Int) (w : World) : (ReflectliteValue.unpack (.iface 184 (.agg #[.int .i64 n]))).run Tryz.prog w
    = .ok (.agg #[.pointer (some ⟨7, 184, none⟩), .pointer (some ⟨w.heap.size, 0, none⟩), .int .u64 153]) (w.alloc (.cells #[.int .i64 n] 184)) := by kernel_rfl
theorem asb_elemOfP (w : World) : (Rtype.elem? 185).run Tryz.prog w = .ok (some 184) w := by kernel_rfl
theorem asb_mkE (p : Addr) (w : World) : (ReflectliteValue.mk 184 p ReflectliteValue.flagAddr).run Tryz.prog w = .ok (.agg #[.pointer (some ⟨7, 184, none⟩), .pointer (some p), .int .u64 409]) w := by kernel_rfl
theorem asb_elemVP (a p : Addr) (W : World) (ha : W.cell? a = some (.pointer (some p))) :
    (ReflectliteValue.method (ReflectliteValue.valueError "reflectlite.Value.Elem" 0) ReflectliteValue.elem #[.agg #[.pointer (some ⟨7, 185, none⟩), .pointer (some a), .int .u64 150]]).run Tryz.prog W
      = .ok (.agg #[.pointer (some ⟨7, 184, none⟩), .pointer (some p), .int .u64 409]) W := by
  show (ReflectliteValue.parts (.agg #[.pointer (some ⟨7, 185, none⟩), .pointer (some a), .int .u64 150]) >>= _).run Tryz.prog W = _
  rw [Sem.run_bind, asb_partsP]
  simp [ReflectliteValue.elem, loadVar, isAgg, underlying, Tryz.underlying185, ha, Result.andThen, asb_elemOfP, asb_mkE]
theorem asb_partsEa (a : Addr) (w : World) : (ReflectliteValue.parts (.agg #[.pointer (some ⟨7, 184, none⟩), .pointer (some a), .int .u64 409])).run Tryz.prog w = .ok (some (184, a, 409)) w := by kernel_rfl
theorem asb_partsE (a : Addr) (w : World) : (ReflectliteValue.parts (.agg #[.pointer (some ⟨7, 184, none⟩), .pointer (some a), .int .u64 153])).run Tryz.prog w = .ok (some (184, a, 153)) w := by kernel_rfl
theorem asb_directE (w : World) : (Rtype.directlyAssignable 184 184).run Tryz.prog w = .ok true w := by kernel_rfl
theorem asb_setE (ta b : Addr) (n : Int) (old : Value) (W : World) (hb : W.cell? b = some (.int .i64 n)) (ht : W.cell? ta = some old) (hf : W.frozen? ta = false) :
    (ReflectliteValue.set #[.agg #[.pointer (some ⟨7, 184, none⟩), .pointer (some ta), .int .u64 409], .agg #[.pointer (some ⟨7, 184, none⟩), .pointer (some b), .int .u64 153]]).run Tryz.prog W
      = .ok (.tuple #[]) (W.setCell ta (.int .i64 n)) := by
  show (ReflectliteValue.parts (.agg #[.pointer (some ⟨7, 184, none⟩), .pointer (some ta), .int .u64 409]) >>= fun r => ReflectliteValue.parts (.agg #[.pointer (some ⟨7, 184, none⟩), .pointer (some b), .int .u64 153]) >>= _).run Tryz.prog W = _
  have hlv : (loadCells b 1).run Tryz.prog W = .ok #[.int .i64 n] W := by
    have h0 := run_loadCells (P := Tryz.prog) W b 1 (fun _ => .int .i64 n) (fun j hj => by
      obtain rfl : j = 0 := by omega
      have : b.add 0 = b := by unfold Addr.add; split <;> simp_all
      rw [this]; exact hb)
    simpa using h0
  simp only [Sem.run_bind, asb_partsEa, asb_partsE, Result.andThen]
  simp [hlv, ReflectliteValue.flagAddr, loadVar, isAgg, underlying, Tryz.underlying184, hb, Result.andThen, asb_directE, storeVar, Value.cells, storeCells, Addr.add]
  rw [run_store Tryz.prog W ta _ _ (by rfl)]
  simp [ht, hf]

set_option maxHeartbeats 4000000 in
theorem asb_hit (n : Int) (t : Addr) (old : Value) (w : World) (hg : w.cell? ⟨0, 0, none⟩ = some (.iface 242 (.agg #[.pointer (some ⟨7, 26, none⟩)]))) (ht0 : w.cell? t = some old) (hf0 : w.frozen? t = false) :
    Calls Tryz.prog 90 #[.iface 184 (.agg #[.int .i64 n]), .iface 185 (.pointer (some t))] w fun ev w' => ev = .returned (.bool true) ∧ w' = ((((w.alloc (.cells #[.pointer (some t)] 185)).alloc (.cells #[.pointer (some ⟨7, 185, none⟩), .pointer (some ⟨w.heap.size, 0, none⟩), .int .u64 150] 198)).alloc (.cells #[.pointer (some ⟨7, 185, none⟩), .pointer (some ⟨w.heap.size, 0, none⟩), .int .u64 150] 198)).alloc (.cells #[.int .i64 n] 184)).setCell t (.int .i64 n) := by
  have h6 := @run_callFunc_extern Tryz.prog 134 _ (fun args => ReflectliteValue.unpack (args.getD 0 (.tuple #[]))) Tryz.func134 (by kernel_rfl) (by kernel_rfl) (by kernel_rfl) (by kernel_rfl)
  have h7 := @run_callFunc_extern Tryz.prog 135 _ (ReflectliteValue.methodAny (ReflectliteValue.valueError "reflectlite.Value.Type" 0) (fun t _ _ _ => ReflectliteType.toType t)) Tryz.func135 (by kernel_rfl) (by kernel_rfl) (by kernel_rfl) (by kernel_rfl)
  have h8 := @run_callFunc_extern Tryz.prog 136 _ (ReflectliteValue.method (ReflectliteValue.valueError "reflectlite.Value.IsNil" 0) ReflectliteValue.isNil) Tryz.func136 (by kernel_rfl) (by kernel_rfl) (by kernel_rfl) (by kernel_rfl)
  have h27 := @run_callFunc_extern Tryz.prog 243 _ (ReflectliteType.abiMethod fun t => do pure (.int .u8 (← Rtype.kind t))) Tryz.func243 (by kernel_rfl) (by kernel_rfl) (by kernel_rfl) (by kernel_rfl)
  have h37 := @run_callFunc_extern Tryz.prog 254 _ (ReflectliteType.method ReflectliteType.elem) Tryz.func254 (by kernel_rfl) (by kernel_rfl) (by kernel_rfl) (by kernel_rfl)
  have h38 := @run_callFunc_extern Tryz.prog 255 _ (ReflectliteType.relation "Implements" ReflectliteType.implements_) Tryz.func255 (by kernel_rfl) (by kernel_rfl) (by kernel_rfl) (by kernel_rfl)
  have h10 := @run_callFunc_extern Tryz.prog 177 _ ReflectliteType.typeOf Tryz.func177 (by kernel_rfl) (by kernel_rfl) (by kernel_rfl) (by kernel_rfl)
  have h35 := @run_callFunc_extern Tryz.prog 252 _ (ReflectliteType.relation "AssignableTo" ReflectliteType.assignableTo) Tryz.func252 (by kernel_rfl) (by kernel_rfl) (by kernel_rfl) (by kernel_rfl)
  have h11 := @run_callFunc_extern Tryz.prog 178 _ (ReflectliteValue.method (ReflectliteValue.valueError "reflectlite.Value.Elem" 0) ReflectliteValue.elem) Tryz.func178 (by kernel_rfl) (by kernel_rfl) (by kernel_rfl) (by kernel_rfl)
  have h12 := @run_callFunc_extern Tryz.prog 179 _ ReflectliteValue.set Tryz.func179 (by kernel_rfl) (by kernel_rfl) (by kernel_rfl) (by kernel_rfl)
  have tO := asb_typeOfE
  have mA := as_methodAssignableTo
  have a25 := asb_assignableE
  have v25 := asb_valueOfE
  have f6 := asb_valueOfP
  have f7 := asb_typeP
  have mK := as_methodKind
  have mE := as_methodElem
  have mI := as_methodImplements
  have k27 := asb_kindP
  have k25 := asb_kindE
  have e27 := asb_elemP
  have i25 := asb_implementsE
  have n8 := asb_isNilP ⟨w.heap.size, 0, none⟩ t ((w.alloc (.cells #[.pointer (some t)] 185)).alloc (.cells #[.pointer (some ⟨7, 185, none⟩), .pointer (some ⟨w.heap.size, 0, none⟩), .int .u64 150] 198)) (by simp)
  have hlt : 0 < w.heap.size := by
    rcases Nat.eq_zero_or_pos w.heap.size with h0 | h
    · simp [World.cell?, h0] at hg
    · exact h
  have hg2 : ((w.alloc (.cells #[.pointer (some t)] 185)).alloc (.cells #[.pointer (some ⟨7, 185, none⟩), .pointer (some ⟨w.heap.size, 0, none⟩), .int .u64 150] 198)).cell? ⟨0, 0, none⟩ = some (.iface 242 (.agg #[.pointer (some ⟨7, 26, none⟩)])) := by
    rw [World.cell?_alloc_lt _ _ ⟨0, 0, none⟩ (by simp), World.cell?_alloc_lt _ _ ⟨0, 0, none⟩ hlt]; exact hg
  have htl : t.block < w.heap.size := by
    rcases Nat.lt_or_ge t.block w.heap.size with h | h
    · exact h
    · simp [World.cell?, Array.getElem?_eq_none h] at ht0
  have el := asb_elemVP ⟨w.heap.size, 0, none⟩ t (((w.alloc (.cells #[.pointer (some t)] 185)).alloc (.cells #[.pointer (some ⟨7, 185, none⟩), .pointer (some ⟨w.heap.size, 0, none⟩), .int .u64 150] 198)).alloc (.cells #[.pointer (some ⟨7, 185, none⟩), .pointer (some ⟨w.heap.size, 0, none⟩), .int .u64 150] 198)) (by rw [World.cell?_alloc_lt _ _ ⟨w.heap.size, 0, none⟩ (by simp; omega)]; simp)
  have st := asb_setE t ⟨w.heap.size + 1 + 1 + 1, 0, none⟩ n old ((((w.alloc (.cells #[.pointer (some t)] 185)).alloc (.cells #[.pointer (some ⟨7, 185, none⟩), .pointer (some ⟨w.heap.size, 0, none⟩), .int .u64 150] 198)).alloc (.cells #[.pointer (some ⟨7, 185, none⟩), .pointer (some ⟨w.heap.size, 0, none⟩), .int .u64 150] 198)).alloc (.cells #[.int .i64 n] 184))
    (by rw [World.cell?_alloc_at _ _ _ _ (by simp)]; rfl)
    (by rw [World.cell?_alloc_lt _ _ t (by simp; omega), World.cell?_alloc_lt _ _ t (by simp; omega), World.cell?_alloc_lt _ _ t (by simp; omega), World.cell?_alloc_lt _ _ t htl]; exact ht0)
    (by rw [World.frozen?_alloc_old _ _ t (by simp; omega), World.frozen?_alloc_old _ _ t (by simp; omega), World.frozen?_alloc_old _ _ t (by simp; omega), World.frozen?_alloc_old _ _ t (Nat.ne_of_lt htl)]; exact hf0)
  go_enter Tryz.func90, Tryz.ntmps90
  go_wp2
  refine wp_loop_rounds 1 ?_
  rw [rounds_succ]
  go_wp2
  go_ret
  exact ⟨rfl, rfl⟩
end Go.Proofs.YtpcnfoaoajfhlaaGreatDoor

namespace Go.Proofs.YtpcnfoaoajfhlaaGreatDoor
set_option linter.unusedVariables false
set_option linter.unusedSimpArgs false
open Go.RowKit Go.Extern.Stop Go.Stop Go.Extern

theorem asb_assignNo (w : World) : (ReflectliteType.relation "AssignableTo" ReflectliteType.assignableTo #[.agg #[.pointer (some ⟨7, 85, none⟩)], .iface 242 (.agg #[.pointer (some ⟨7, 184, none⟩)])]).run Tryz.prog w = .ok (.bool false) w := by kernel_rfl
set_option maxRecDepth 100000 in
set_option maxHeartbeats 4000000 in
theorem asb_miss (n : Int) (t : Addr) (old : Value) (w : World) (hg : w.cell? ⟨0, 0, none⟩ = some (.iface 242 (.agg #[.pointer (some ⟨7, 26, none⟩)]))) (ht0 : w.cell? t = some old) :
    Calls Tryz.prog 90 #[.iface 85 (.int .i64 n), .iface 185 (.pointer (some t))] w fun ev w' => ev = .returned (.bool false) ∧ Below w.heap.size w w' := by
  have h6 := @run_callFunc_extern Tryz.prog 134 _ (fun args => ReflectliteValue.unpack (args.getD 0 (.tuple #[]))) Tryz.func134 (by kernel_rfl) (by kernel_rfl) (by kernel_rfl) (by kernel_rfl)
  have h7 := @run_callFunc_extern Tryz.prog 135 _ (ReflectliteValue.methodAny (ReflectliteValue.valueError "reflectlite.Value.Type" 0) (fun t _ _ _ => ReflectliteType.toType t)) Tryz.func135 (by kernel_rfl) (by kernel_rfl) (by kernel_rfl) (by kernel_rfl)
  have h8 := @run_callFunc_extern Tryz.prog 136 _ (ReflectliteValue.method (ReflectliteValue.valueError "reflectlite.Value.IsNil" 0) ReflectliteValue.isNil) Tryz.func136 (by kernel_rfl) (by kernel_rfl) (by kernel_rfl) (by kernel_rfl)
  have h27 := @run_callFunc_extern Tryz.prog 243 _ (ReflectliteType.abiMethod fun t => do pure (.int .u8 (← Rtype.kind t))) Tryz.func243 (by kernel_rfl) (by kernel_rfl) (by kernel_rfl) (by kernel_rfl)
  have h37 := @run_callFunc_extern Tryz.prog 254 _ (ReflectliteType.method ReflectliteType.elem) Tryz.func254 (by kernel_rfl) (by kernel_rfl) (by kernel_rfl) (by kernel_rfl)
  have h38 := @run_callFunc_extern Tryz.prog 255 _ (ReflectliteType.relation "Implements" ReflectliteType.implements_) Tryz.func255 (by kernel_rfl) (by kernel_rfl) (by kernel_rfl) (by kernel_rfl)
  have h10 := @run_callFunc_extern Tryz.prog 177 _ ReflectliteType.typeOf Tryz.func177 (by kernel_rfl) (by kernel_rfl) (by kernel_rfl) (by kernel_rfl)
  have h35 := @run_callFunc_extern Tryz.prog 252 _ (ReflectliteType.relation "AssignableTo" ReflectliteType.assignableTo) Tryz.func252 (by kernel_rfl) (by kernel_rfl) (by kernel_rfl) (by kernel_rfl)
  have tO := as_typeOfE
  have mA := as_methodAssignableTo
  have a25 := asb_assignNo
  have f6 := asb_valueOfP
  have f7 := asb_typeP
  have mK := as_methodKind
  have mE := as_methodElem
  have mI := as_methodImplements
  have k27 := asb_kindP
  have k25 := asb_kindE
  have e27 := asb_elemP
  have i25 := asb_implementsE
  have n8 := asb_isNilP ⟨w.heap.size, 0, none⟩ t ((w.alloc (.cells #[.pointer (some t)] 185)).alloc (.cells #[.pointer (some ⟨7, 185, none⟩), .pointer (some ⟨w.heap.size, 0, none⟩), .int .u64 150] 198)) (by simp)
  have hlt : 0 < w.heap.size := by
    rcases Nat.eq_zero_or_pos w.heap.size with h0 | h
    · simp [World.cell?, h0] at hg
    · exact h
  have hg2 : ((w.alloc (.cells #[.pointer (some t)] 185)).alloc (.cells #[.pointer (some ⟨7, 185, none⟩), .pointer (some ⟨w.heap.size, 0, none⟩), .int .u64 150] 198)).cell? ⟨0, 0, none⟩ = some (.iface 242 (.agg #[.pointer (some ⟨7, 26, none⟩)])) := by
    rw [World.cell?_alloc_lt _ _ ⟨0, 0, none⟩ (by simp), World.cell?_alloc_lt _ _ ⟨0, 0, none⟩ hlt]; exact hg
  have htl : t.block < w.heap.size := by
    rcases Nat.lt_or_ge t.block w.heap.size with h | h
    · exact h
    · simp [World.cell?, Array.getElem?_eq_none h] at ht0
  have n1 : ∀ w', (Instr.typeAssert (.iface 85 (.int .i64 n)) 26 247 true).run Tryz.prog w' = .ok (.tuple #[.nilIface, .bool false]) w' := fun w' => run_typeAssert_lacksB Tryz.underlying247 (by kernel_rfl) (by kernel_rfl) _ _ w'
  have n2 : ∀ w', (Instr.typeAssert (.iface 85 (.int .i64 n)) 26 250 true).run Tryz.prog w' = .ok (.tuple #[.nilIface, .bool false]) w' := fun w' => run_typeAssert_lacksB Tryz.underlying250 (by kernel_rfl) (by kernel_rfl) _ _ w'
  have n3 : ∀ w', (Instr.typeAssert (.iface 85 (.int .i64 n)) 26 251 true).run Tryz.prog w' = .ok (.tuple #[.nilIface, .bool false]) w' := fun w' => run_typeAssert_lacksB Tryz.underlying251 (by kernel_rfl) (by kernel_rfl) _ _ w'
  go_enter Tryz.func90, Tryz.ntmps90
  go_wp2
  refine wp_loop_rounds 1 ?_
  rw [rounds_succ]
  go_wp2
  go_ret
  refine ⟨rfl, ?_⟩
  have b1 := (Below.refl w.heap.size w).alloc (Nat.le_refl _)
  exact ((b1 _).alloc (by simp) _).alloc (by simp; omega) _
def badS : ByteArray := ⟨#[98, 97, 100]⟩
/-- an error's name -/
def nameB (n : Int) : ByteArray :=
  if n = 0 then ⟨#[79, 75]⟩ else if n = 1 then ⟨#[69, 114, 114, 82, 97, 110, 103, 101]⟩ else if n = 2 then ⟨#[69, 114, 114, 83, 121, 110, 116, 97, 120]⟩ else if n = 3 then ⟨#[69, 114, 114, 83, 104, 97, 112, 101]⟩
  else if n = 4 then ⟨#[69, 114, 114, 70, 117, 108, 108]⟩ else if n = 5 then ⟨#[69, 114, 114, 78, 111, 110, 101]⟩ else if n = 6 then ⟨#[69, 114, 114, 83, 116, 97, 116, 101]⟩ else if n = 7 then ⟨#[69, 114, 114, 67, 108, 97, 115, 104]⟩ else ⟨#[69, 114, 114, 79, 108, 100]⟩
theorem error_c (n : Int) (h0 : 0 ≤ n) (h8 : n ≤ 8) (w : World) :
    Calls Tryz.prog 121 #[.int .i64 n] w fun e w' => e = .returned (.string (nameB n)) ∧ w' = w := by
  have hn : n = 0 ∨ n = 1 ∨ n = 2 ∨ n = 3 ∨ n = 4 ∨ n = 5 ∨ n = 6 ∨ n = 7 ∨ n = 8 := by omega
  rcases hn with rfl | rfl | rfl | rfl | rfl | rfl | rfl | rfl | rfl <;>
  · go_enter Tryz.func121, Tryz.ntmps121
    go_wp2
    go_ret
    exact ⟨rfl, rfl⟩
set_option maxRecDepth 100000 in
set_option maxHeartbeats 4000000 in
theorem name_bad (w : World) (hg : HasErr w) : Calls Tryz.prog 78 #[badV] w fun e w' => e = .returned (.string badS) ∧ Below w.heap.size w w' := by
  have hlt := hg.lt
  have b1 : Below w.heap.size w ((w.alloc (.cells #[.int .i64 0] 184)).alloc (.cells #[.int .i64 0] 85)) := ((Below.refl _ _).alloc (Nat.le_refl _) _).alloc (by simp) _
  have H1 : Hid (HasErr ((w.alloc (.cells #[.int .i64 0] 184)).alloc (.cells #[.int .i64 0] 85))) := hg.below hlt b1
  clear hg b1
  show Calls _ _ #[.iface 184 (.agg #[.int .i64 2])] _ _
  go_enter Tryz.func78, Tryz.ntmps78
  go_wp2_with (go_at_call 90; refine (asb_hit 2 ⟨w.heap.size, 0, none⟩ (.int .i64 0) _ H1.out (by simp) (by simp)).mono ?_; rintro e w' ⟨rfl, rfl⟩)
  go_ret
  exact ⟨rfl, by go_grown⟩
theorem as_hitB (B : Nat) (n : Int) (t : Addr) (old : Value) (w : World) (hg : HasErr w) (ht0 : w.cell? t = some old) (hf0 : w.frozen? t = false) (hB : B ≤ t.block) (hs : B ≤ w.heap.size) :
    Calls Tryz.prog 90 #[.iface 85 (.int .i64 n), .iface 153 (.pointer (some t))] w fun ev w' => ev = .returned (.bool true) ∧ Below B w w' ∧ w'.cell? t = some (.int .i64 n) := by
  have htl : t.block < w.heap.size := World.block_lt_of_cell? w t ht0
  refine (as_hit n t old w hg ht0 hf0).mono ?_
  rintro e w' ⟨rfl, rfl⟩
  refine ⟨rfl, (((((Below.refl B w).alloc hs _).alloc (by simp; omega) _).alloc (by simp; omega) _).alloc (by simp; omega) _).setCell hB _, World.cell?_setCell_same _ _ _ (u := old) ?_⟩
  rw [World.cell?_alloc_lt _ _ t (by simp; omega), World.cell?_alloc_lt _ _ t (by simp; omega), World.cell?_alloc_lt _ _ t (by simp; omega), World.cell?_alloc_lt _ _ t htl]
  exact ht0
set_option maxRecDepth 100000 in
set_option maxHeartbeats 4000000 in
theorem name_err (n : Int) (h0 : 0 ≤ n) (h8 : n ≤ 8) (w : World) (hg : HasErr w) : Calls Tryz.prog 78 #[.iface 85 (.int .i64 n)] w fun e w' => e = .returned (.string (nameB n)) ∧ Below w.heap.size w w' := by
  have hlt := hg.lt
  have b1 : Below w.heap.size w ((w.alloc (.cells #[.int .i64 0] 184)).alloc (.cells #[.int .i64 0] 85)) := ((Below.refl _ _).alloc (Nat.le_refl _) _).alloc (by simp) _
  have H1 : Hid (HasErr ((w.alloc (.cells #[.int .i64 0] 184)).alloc (.cells #[.int .i64 0] 85))) := hg.below hlt b1
  have HB1 : Hid _ := b1
  clear hg b1
  go_enter Tryz.func78, Tryz.ntmps78
  go_wp2_with fail
  refine (asb_miss n ⟨w.heap.size, 0, none⟩ (.int .i64 0) _ H1.out (by simp)).mono ?_
  rintro e w1 ⟨rfl, hb⟩
  have HB : Hid (Below w.heap.size w w1) := HB1.out.trans (hb.mono (by simp; omega)) 
  have H2 : Hid (HasErr w1) := H1.out.below (by simp) hb
  have c1 : w1.cell? ⟨w.heap.size + 1, 0, none⟩ = some (.int .i64 0) := (hb.cell (p := ⟨w.heap.size + 1, 0, none⟩) (by simp)).trans (by simp)
  have f1 : w1.frozen? ⟨w.heap.size + 1, 0, none⟩ = false := (World.frozen?_of_block (a := ⟨w.heap.size + 1, 0, none⟩) (hb.block _ (by simp))).trans (by simp)
  have s1 : w.heap.size + 2 ≤ w1.heap.size := by have := hb.size; simp at this; omega
  clear H1 hb HB1
  have HE : ∀ w', Calls Tryz.prog 121 #[.int .i64 n] w' fun e w2 => e = .returned (.string (nameB n)) ∧ w2 = w' := error_c n h0 h8
  have HC : Hid _ := HE
  clear HE
  go_wp2_with fail
  refine (as_hitB w.heap.size n ⟨w.heap.size + 1, 0, none⟩ (.int .i64 0) _ H2.out c1 f1 (Nat.le_succ _) (by omega)).mono ?_
  rintro e w2 ⟨rfl, hb2, c2⟩
  have HB2 : Hid (Below w.heap.size w w2) := HB.out.trans hb2
  clear hb2 c1 f1 H2 HB
  go_wp2_with fail
  refine (HC.out _).mono ?_
  rintro e w3 ⟨rfl, rfl⟩
  go_wp2_with fail
  go_ret
  exact ⟨rfl, HB2.out⟩
end Go.Proofs.YtpcnfoaoajfhlaaGreatDoor

namespace Go.Proofs.YtpcnfoaoajfhlaaGreatDoor
set_option linter.unusedVariables false
set_option linter.unusedSimpArgs false
open Go.RowKit

/-- what package run wants of the program's variables -/
structure Gl (w : World) : Prop where
  err : HasErr w
  tab : Lib.TabIs Tryz.prog w powName .u64 Lib.pow10Tab
  max : ∃ m, w.cell? ⟨1, 0, none⟩ = some (.int .i64 m)
theorem Gl.below {w w' : World} (h : Gl w) (hb : Below w.heap.size w w') : Gl w' := by
  obtain ⟨m, hm⟩ := h.max
  exact ⟨h.err.below h.err.lt hb, (Lib.tabBelow_of_tabIs h.tab).on hb |>.here, m, old_cellT hb hm⟩
theorem itoa_digS (n : Nat) : (⟨(Lib.itoa (n : Int)).toArray⟩ : ByteArray) = digS n := by
  unfold Lib.itoa digS
  simp
theorem runWritten_c (n : Nat) (err : Value) (w : World) (hn : n ≤ 9223372036854775807) (h : Gl w) :
    Calls Tryz.prog 166 #[.int .i64 n, err] w fun e w' => e = .returned (.tuple #[.string (digS n), err]) ∧ Below w.heap.size w w' := by
  have HT : Hid (Lib.TabIs Tryz.prog w powName .u64 Lib.pow10Tab) := h.tab
  have hi : (n : Int) ≤ 9223372036854775807 := by omega
  have hz : -9223372036854775808 ≤ (n : Int) := by omega
  clear h
  go_enter Tryz.func166, Tryz.ntmps166
  go_wp2_with fail
  refine (strconv_Itoa_s (n : Int) hz hi _ HT.out).mono ?_
  rintro e w1 ⟨he, k, os, hw⟩
  rw [itoa_digS] at he
  subst he
  have HB : Hid (Below w.heap.size w w1) := by rw [hw]; exact Lib.below_grow _ _ (Nat.le_refl _) _ _
  clear hw
  go_wp2_with fail
  go_ret2
  exact ⟨rfl, HB.out⟩
end Go.Proofs.YtpcnfoaoajfhlaaGreatDoor
