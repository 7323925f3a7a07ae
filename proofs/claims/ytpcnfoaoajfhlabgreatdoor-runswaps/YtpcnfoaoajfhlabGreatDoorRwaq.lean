/-
  A strings.Builder by its contracts, with what its calls leave alone: all but its own block and its own row.
  A strings.Builder's WriteString and WriteByte: what they leave alone.
  A strings.Builder's WriteString, WriteByte, String by their contracts.
-/
import Derived.Test.YtpcnfoaoajfhlabGreatDoorRwah
import Derived.Test.YtpcnfoaoajfhlabGreatDoorSh2
import Derived.Test.YtpcnfoaoajfhlabGreatDoorRwap
import Derived.Laws.Externs
import Derived.Lib.FrozenHead2
import Derived.WalkKit
namespace Go.Proofs.YtpcnfoaoajfhlabGreatDoor
set_option linter.unusedVariables false
set_option linter.unusedSimpArgs false
set_option linter.unusedVariables false
set_option linter.unusedSimpArgs false
open Go.RowKit Go.Shelf

/-- a builder at b; its bytes; what it lies in -/
structure Bd (B : Nat) (w : World) (b : Nat) (bs : List Value) (p v : Value) : Prop where
  pp : p = .pointer none ∨ p = .pointer (some ⟨b, 0, none⟩)
  blk : w.heap[b]? = some (.cells #[p, v] 41 (0, 0))
  own : w.ownsRowF B 5 1 v bs.length bs
  ne : v.ownBlock ≠ some b
  le : B ≤ b
set_option maxHeartbeats 1000000 in
set_option maxRecDepth 100000 in
theorem copyCheck_used (b : Nat) (w : World) (h0 : w.cell? ⟨b, 0, none⟩ = some (.pointer (some ⟨b, 0, none⟩))) :
    Calls Tryz.prog 27 #[.pointer (some ⟨b, 0, none⟩)] w fun e w' => e = .returned (.tuple #[]) ∧ w' = w := by
  obtain ⟨j, hj, _⟩ := Option.map_eq_some_iff.1 kBuilder_Extra_169.toX72.sizeBuilder
  go_enter Tryz.func27, Tryz.ntmps27
  go_wp2
  rw [Lib.run_neq_ptr_same w _ Tryz.underlying38 hj]
  go_wp2
  go_end0
  exact ⟨rfl, rfl⟩
/-- a pointer as it is, and back, where it points into a row of cells -/
theorem run_toP {P : Program} (w : World) {src dst t e : TypeId} {j : TypeInfo} {cells : Nat} (a : Addr) (hs : P.underlying src = some (.pointer t)) (hd : P.underlying dst = some .unsafePointer) (ht : P.info? t = some j) (hj : j.size ≠ 0)
    (hsh : w.shape? a.block = some (e, cells)) (hoff : a.off < cells) :
    (convert src dst (.pointer (some a))).run P w = .ok (.pointer (some a)) w := by
  simp [convert, run_underlying hs, run_underlying hd, Conv.unsafePointer, Conv.seenAt, viewAt, cellsIn, hsh, sizeOf, typeInfo, ht, hj]
  intro h
  omega
theorem run_fromP {P : Program} (w : World) {src dst u e : TypeId} {j : TypeInfo} {cells : Nat} (a : Addr) (hs : P.underlying src = some .unsafePointer) (hd : P.underlying dst = some (.pointer u)) (hu : P.info? u = some j)
    (hsh : w.shape? a.block = some (e, cells)) (hlies : liesAt P P.depth e (cells / P.cellsOf e) a.off u 1 = true) :
    (convert src dst (.pointer (some a))).run P w = .ok (.pointer (some a)) w := by
  simp [convert, run_underlying hs, run_underlying hd, Conv.unsafePointer, Conv.seenAt, viewAt, hsh, variablesAt, hlies, sizeOf, typeInfo, hu]
set_option maxHeartbeats 1000000 in
set_option maxRecDepth 100000 in
theorem copyCheck_fresh (b : Nat) (w : World) (h0 : w.cell? ⟨b, 0, none⟩ = some (.pointer none)) (hsh : w.shape? b = some (41, 2)) (hfz : w.frozen? ⟨b, 0, none⟩ = false) :
    Calls Tryz.prog 27 #[.pointer (some ⟨b, 0, none⟩)] w fun e w' => e = .returned (.tuple #[]) ∧ w' = w.setCell ⟨b, 0, none⟩ (.pointer (some ⟨b, 0, none⟩)) := by
  obtain ⟨j, hj, hjs⟩ := Option.map_eq_some_iff.1 kBuilder_Extra_169.toX72.sizeBuilder
  have hl := kBuilder_Extra_169.toX72.liesBuilder
  go_enter Tryz.func27, Tryz.ntmps27
  go_wp2
  rw [run_toP w ⟨b, 0, none⟩ Tryz.underlying38 Tryz.underlying74 hj (by rw [hjs]; decide) hsh (Nat.zero_lt_succ 1)]
  simp only [Result.andThen]
  rw [Oper.upon_value]
  go_wp2
  rw [run_callFunc_extern Tryz.func46 (by kernel_rfl) (by kernel_rfl) (by kernel_rfl) (e := Extern.AbiNoEscape.same) (by kernel_rfl)]
  rw [Lib.run_noEscape]
  simp only [Result.andThen]
  rw [Oper.upon_value]
  go_wp2
  rw [run_fromP w ⟨b, 0, none⟩ Tryz.underlying74 Tryz.underlying38 hj hsh hl]
  simp only [Result.andThen]
  rw [Oper.upon_value]
  go_wp2
  go_end0
  exact ⟨rfl, rfl⟩
theorem Kept.setCell {F : Nat → Prop} {w w' : World} (h : Kept F w w') (a : Addr) (v : Value) (hF : F a.block) : Kept F w (w'.setCell a v) := by
  refine ⟨h.os, h.tape, h.output, by simpa [World.setCell] using h.size, fun x hx hn => ?_⟩
  rw [← h.block x hx hn]
  exact Below.heap_setCell _ _ _ _ (fun e => hn (by rw [e]; exact hF))
theorem Bd.lt {B : Nat} {w : World} {b : Nat} {bs : List Value} {p v : Value} (h : Bd B w b bs p v) : b < w.heap.size := by
  rcases Nat.lt_or_ge b w.heap.size with h' | h'
  · exact h'
  · have := h.blk
    simp [Array.getElem?_eq_none h'] at this
/-- behind copyCheck the builder knows its own place -/
theorem copyCheck_c {B : Nat} {w : World} {b : Nat} {bs : List Value} {p v : Value} (h : Bd B w b bs p v) :
    Calls Tryz.prog 27 #[.pointer (some ⟨b, 0, none⟩)] w fun e w' => e = .returned (.tuple #[]) ∧ Bd B w' b bs (.pointer (some ⟨b, 0, none⟩)) v ∧ Kept (fun x => x = b) w w' ∧ w'.heap.size = w.heap.size ∧ Below B w w' := by
  have c0 : w.cell? ⟨b, 0, none⟩ = some p := by rw [Lib.cell_of_heap h.blk]; rfl
  rcases h.pp with rfl | rfl
  · refine (copyCheck_fresh b w c0 (by simp [World.shape?, h.blk]) (by simp [World.frozen?, h.blk])).mono ?_
    rintro e w' ⟨rfl, rfl⟩
    refine ⟨rfl, ⟨.inr rfl, ?_, ?_, h.ne, h.le⟩, (Kept.refl _ w).setCell _ _ rfl, by simp [World.setCell], (Below.refl B w).setCell (p := ⟨b, 0, none⟩) h.le _⟩
    · simp [World.setCell, Array.getElem?_modify, h.blk]
    · exact h.own.kept (row := some b) ⟨rfl, rfl, rfl, by simp [World.setCell], fun k _ hk => Below.heap_setCell _ _ _ _ (fun e => hk (by simp [e]))⟩ (Or.inr h.ne)
  · refine (copyCheck_used b w c0).mono ?_
    rintro e w' ⟨rfl, rfl⟩
    exact ⟨rfl, h, Kept.refl _ _, rfl, Below.refl B _⟩
end Go.Proofs.YtpcnfoaoajfhlabGreatDoor

namespace Go.Proofs.YtpcnfoaoajfhlabGreatDoor
set_option linter.unusedVariables false
set_option linter.unusedSimpArgs false
open Go.RowKit Go.Lib

section
variable {P : Program}
theorem str_at (w : World) (B : Nat) (t u ty e : TypeId) (i : TypeInfo) (ht : P.underlying t = some (.slice e)) (hu : P.underlying u = some .string) (hi : P.info? e = some i) (hz : i.zero = some (.int .u8 0))
    (hsize : i.size = 1) (hby : i.bytes = 1)
    (v : Value) (n : Nat) (xs : List Value) (hown : w.ownsRowF B e 1 v n xs) (s : ByteArray)
    (h63 : n + s.size ≤ maxLen) (hbytes : n + s.size ≤ 140737488355328) (hB : B ≤ w.heap.size) :
    ∃ v' w', (Builtin.append_ #[t, u] ty #[v, .string s]).run P w = .ok v' w' ∧ w'.ownsRowF B e 1 v' (n + s.size) (xs ++ strCells s) ∧ w.grownBy w' v.ownBlock ∧ ∀ x, v'.ownBlock = some x → v.ownBlock = some x ∨ w.heap.size ≤ x := by
  obtain ⟨v', w', h1, h2, h3, _⟩ := run_append_own_stringF (P := P) w B t u ty e i ht hu hi hz hsize hby v n xs hown s h63 hbytes hB
  refine ⟨v', w', h1, h2, h3, ?_⟩
  have hsmall : n + s.size ≤ 9223372036854775807 := by simp only [maxLen] at h63; omega
  rcases hown.2 with ⟨rfl, rfl⟩ | ⟨g, cap, cur, fz, rfl, hbg, hg, hfz, hnc, hcm, hcs, htake⟩
  · obtain ⟨v1, w1, k1, k2, _⟩ := run_append_own_string (P := P) w w.heap.size t u ty e i ht hu hi hz hsize hby (.slice none 0 0) 0 xs ⟨hown.1, .inl ⟨rfl, rfl⟩⟩ s h63 hbytes (Nat.le_refl _)
    rw [h1] at k1
    injection k1 with e1 _
    subst e1
    exact fun x hx => .inr ((World.ownsRowF_of k2).lt x hx).1
  · have hxl : xs.length = n := by simpa using hown.1
    by_cases hroom : n + s.size ≤ cap
    · have hcs' : cur.size = cap := by simpa using hcs
      have hr := run_append_room_stringF (P := P) w t u ty e i ht hu hi hsize g n cap cur fz hg (by simpa using hfz) s hroom (by omega)
      rw [h1] at hr
      injection hr with e1 _
      subst e1
      exact fun x hx => .inl hx
    · have holds : ∀ j u, xs[j]? = some u → w.cell? ((⟨g, 0, none⟩ : Addr).add j) = some u := hown.cells (g := g) rfl
      have hr := run_append_grow_string (P := P) w t u ty e i (.int .u8 0) ht hu hi hz ⟨g, 0, none⟩ n cap xs (by rw [hsize]; simpa using hxl) holds s (by omega) (by omega) (by rw [hby]; exact growslice_fits (by omega) (by omega))
      rw [h1] at hr
      injection hr with e1 _
      subst e1
      refine fun x hx => .inr ?_
      obtain rfl : w.heap.size = x := by simpa [Value.ownBlock] using hx
      exact Nat.le_refl _
theorem wp_appStr {ops : Array Oper} {rest : List Oper} {o : Oper} {a : Act} {Q : Exit → Act → World → Prop} (w : World) (hgd : o.guard = none) (sl x : Operand) (t u : TypeId)
    (ho : o.op = .call { callee := .builtin .append, args := #[sl, x], argTypes := #[t, u] })
    (B : Nat) (e : TypeId) (i : TypeInfo) (ht : P.underlying t = some (.slice e)) (hu : P.underlying u = some .string) (hi : P.info? e = some i) (hz : i.zero = some (.int .u8 0))
    (hsize : i.size = 1) (hby : i.bytes = 1)
    (v : Value) (n : Nat) (xs : List Value) (hs : a.eval sl = v) (hown : w.ownsRowF B e 1 v n xs) (s : ByteArray) (hx : a.eval x = .string s)
    (h63 : n + s.size ≤ maxLen) (hbytes : n + s.size ≤ 140737488355328) (hB : B ≤ w.heap.size)
    (h : ∀ v' w', w'.ownsRowF B e 1 v' (n + s.size) (xs ++ strCells s) → w.grownBy w' v.ownBlock → (∀ x, v'.ownBlock = some x → v.ownBlock = some x ∨ w.heap.size ≤ x) → wpList P ops Q rest (a.put o.dst v') w') : wpList P ops Q (o :: rest) a w := by
  refine wpList_plain hgd fun K hK => ?_
  obtain ⟨v', w', hr, h2, h3, h4⟩ := str_at (P := P) w B t u o.type e i ht hu hi hz hsize hby v n xs hown s h63 hbytes hB
  unfold Oper.wp execOp
  simp only [ho, resolve, invoke, builtin, Sem.run_bind, Sem.run_pure, Result.andThen_ok, List.map_toArray, List.map_cons, List.map_nil, hs, hx, hr]
  exact hK _ _ (h v' w' h2 h3 h4)
theorem byte_at (w : World) (B : Nat) (t ty e : TypeId) (i : TypeInfo) (z : Value) (ht : P.underlying t = some (.slice e)) (hi : P.info? e = some i) (hz : i.zero = some z)
    (hsize : i.size = 1) (hby : i.bytes = 1) (hzs : z.cells.size = 1)
    (v : Value) (n : Nat) (xs : List Value) (hown : w.ownsRowF B e 1 v n xs)
    (a : Addr) (c : Nat) (nw : Value) (hnews : w.cell? a = some nw) (h1 : nw.oneCell' = true)
    (h63 : n + 1 ≤ maxLen) (hbytes : n + 1 ≤ 140737488355328) (hB : B ≤ w.heap.size) :
    ∃ v' w', (Builtin.append_ #[t, t] ty #[v, .slice (some a) 1 c]).run P w = .ok v' w' ∧ w'.ownsRowF B e 1 v' (n + 1) (xs ++ [nw]) ∧ w.grownBy w' v.ownBlock ∧ ∀ x, v'.ownBlock = some x → v.ownBlock = some x ∨ w.heap.size ≤ x := by
  have hn : ∀ j u, [nw][j]? = some u → w.cell? (a.add j) = some u := by
    intro j u hj
    match j, hj with
    | 0, hj => simp at hj; subst hj; simpa [Addr.add] using hnews
  have h1' : ∀ u ∈ [nw], u.oneCell' = true := by intro u hu; simp at hu; subst hu; exact h1
  obtain ⟨v', w', r1, r2, r3, _⟩ := run_append_ownF (P := P) w B t ty e i z 1 1 ht hi hz hsize hby hzs (by decide) v n xs hown a 1 c [nw] rfl hn h1' h63 (by omega) hB
  refine ⟨v', w', r1, r2, r3, ?_⟩
  rcases hown.2 with ⟨rfl, rfl⟩ | ⟨g, cap, cur, fz, rfl, hbg, hg, hfz, hnc, hcm, hcs, htake⟩
  · obtain ⟨v1, w1, k1, k2, _⟩ := run_append_own (P := P) w w.heap.size t ty e i z 1 1 ht hi hz hsize hby hzs (by decide) (.slice none 0 0) 0 xs ⟨hown.1, .inl ⟨rfl, rfl⟩⟩ a 1 c [nw] rfl hn h1' h63 (by omega) (Nat.le_refl _)
    rw [r1] at k1
    injection k1 with e1 _
    subst e1
    exact fun x hx => .inr ((World.ownsRowF_of k2).lt x hx).1
  · by_cases hroom : n + 1 ≤ cap
    · have hcs' : cur.size = cap := by simpa using hcs
      have hr := run_append_roomF (P := P) w t ty e i ht hi g n cap cur fz hg (by rw [hsize]; exact hfz) a 1 c [nw] (by rw [hsize]; rfl) hn h1' hroom (by rw [hsize]; simp; omega)
      rw [r1] at hr
      injection hr with e1 _
      subst e1
      exact fun x hx => .inl hx
    · have holds : ∀ j u, xs[j]? = some u → w.cell? ((⟨g, 0, none⟩ : Addr).add j) = some u := hown.cells (g := g) rfl
      have hr := run_append_grow (P := P) w t ty e i z ht hi hz ⟨g, 0, none⟩ n cap xs (by rw [hsize]; exact hown.1) holds a 1 c [nw] (by rw [hsize]; rfl) hn (by omega) (by simp only [maxLen] at h63; omega) (by rw [hby]; exact growslice_fits (by omega) (by omega))
      rw [r1] at hr
      injection hr with e1 _
      subst e1
      refine fun x hx => .inr ?_
      obtain rfl : w.heap.size = x := by simpa [Value.ownBlock] using hx
      exact Nat.le_refl _
theorem wp_appByte {ops : Array Oper} {rest : List Oper} {o : Oper} {a : Act} {Q : Exit → Act → World → Prop} (w : World) (hgd : o.guard = none) (sl x : Operand) (t : TypeId)
    (ho : o.op = .call { callee := .builtin .append, args := #[sl, x], argTypes := #[t, t] })
    (B : Nat) (e : TypeId) (i : TypeInfo) (z : Value) (ht : P.underlying t = some (.slice e)) (hi : P.info? e = some i) (hz : i.zero = some z)
    (hsize : i.size = 1) (hby : i.bytes = 1) (hzs : z.cells.size = 1)
    (v : Value) (n : Nat) (xs : List Value) (hs : a.eval sl = v) (hown : w.ownsRowF B e 1 v n xs) (ad : Addr) (c : Nat) (nw : Value) (hx : a.eval x = .slice (some ad) 1 c) (hnews : w.cell? ad = some nw) (h1 : nw.oneCell' = true)
    (h63 : n + 1 ≤ maxLen) (hbytes : n + 1 ≤ 140737488355328) (hB : B ≤ w.heap.size)
    (h : ∀ v' w', w'.ownsRowF B e 1 v' (n + 1) (xs ++ [nw]) → w.grownBy w' v.ownBlock → (∀ x, v'.ownBlock = some x → v.ownBlock = some x ∨ w.heap.size ≤ x) → wpList P ops Q rest (a.put o.dst v') w') : wpList P ops Q (o :: rest) a w := by
  refine wpList_plain hgd fun K hK => ?_
  obtain ⟨v', w', hr, h2, h3, h4⟩ := byte_at (P := P) w B t o.type e i z ht hi hz hsize hby hzs v n xs hown ad c nw hnews h1 h63 hbytes hB
  unfold Oper.wp execOp
  simp only [ho, resolve, invoke, builtin, Sem.run_bind, Sem.run_pure, Result.andThen_ok, List.map_toArray, List.map_cons, List.map_nil, hs, hx, hr]
  exact hK _ _ (h v' w' h2 h3 h4)
end
end Go.Proofs.YtpcnfoaoajfhlabGreatDoor

namespace Go.Proofs.YtpcnfoaoajfhlabGreatDoor
set_option linter.unusedVariables false
set_option linter.unusedSimpArgs false
open Go.RowKit Go.Lib Go.Shelf

theorem bd_neT : (41 : TypeId) ≠ 5 := by decide
theorem Kept.grownBy {F : Nat → Prop} {w w1 w' : World} {o : Option Nat} (h : Kept F w w1) (hg : w1.grownBy w' o) (hF : ∀ x, x < w.heap.size → o = some x → F x) : Kept F w w' :=
  ⟨hg.os.trans h.os, hg.tape.trans h.tape, hg.output.trans h.output, Nat.le_trans h.size hg.size, fun x hx hn => (hg.block x (Nat.lt_of_lt_of_le hx h.size) (fun e => hn (hF x hx e.symm))).trans (h.block x hx hn)⟩
/-- what a call that writes leaves -/
def BdTo (B : Nat) (w w' : World) (b : Nat) (bs : List Value) (v : Value) : Prop :=
  ∃ v', Bd B w' b bs (.pointer (some ⟨b, 0, none⟩)) v' ∧ (∀ x, v'.ownBlock = some x → v.ownBlock = some x ∨ w.heap.size ≤ x) ∧ Kept (fun x => x = b ∨ v.ownBlock = some x) w w' ∧ Below B w w'
set_option maxHeartbeats 2000000 in
set_option maxRecDepth 100000 in
theorem writeString_c {B : Nat} {w : World} {b : Nat} {bs : List Value} {p v : Value} (h : Bd B w b bs p v) (s : ByteArray) (hl : bs.length + s.size ≤ 140737488355328) (hB : B ≤ w.heap.size) :
    Calls Tryz.prog 11 #[.pointer (some ⟨b, 0, none⟩), .string s] w fun e w' => (∃ u, e = .returned u) ∧ BdTo B w w' b (bs ++ strCells s) v := by
  obtain ⟨i0, hi, hz0, hz1, hz2⟩ := info_parts kBuilder_Extra_169.infoByte
  go_enter Tryz.func11, Tryz.ntmps11
  go_wp2_with fail
  refine (copyCheck_c h).mono ?_
  rintro e w1 ⟨rfl, h1, hk1, hs1, hb1⟩
  have c0 : w1.cell? ⟨b, 0, none⟩ = some (.pointer (some ⟨b, 0, none⟩)) := by rw [Lib.cell_of_heap h1.blk]; rfl
  have c1 : w1.cell? ⟨b, 1, none⟩ = some v := by rw [Lib.cell_of_heap h1.blk]; rfl
  go_wp2_with (at_builtin; refine wp_appStr _ rfl _ _ 39 9 rfl B 5 i0 Tryz.underlying39 Tryz.underlying9 hi hz0 hz1 hz2 _ _ _ rfl h1.own s rfl ?c3 ?c4 ?c5 ?_)
  case c3 => unfold maxLen; omega
  case c4 => omega
  case c5 => omega
  intro v' w2 hown' hgrow hat
  have hlt : b < w1.heap.size := h1.lt
  have hb2 : w2.heap[b]? = some (.cells #[.pointer (some ⟨b, 0, none⟩), v] 41 (0, 0)) := by
    rw [hgrow.block b hlt (fun e => h1.ne e.symm)]
    exact h1.blk
  have d0 : w2.cell? ⟨b, 0, none⟩ = some (.pointer (some ⟨b, 0, none⟩)) := by rw [Lib.cell_of_heap hb2]; rfl
  have d1 : w2.cell? ⟨b, 1, none⟩ = some v := by rw [Lib.cell_of_heap hb2]; rfl
  have f1 : w2.frozen? ⟨b, 1, none⟩ = false := Lib.frozen_of_heap hb2 1
  obtain ⟨ao, n', cap, rfl⟩ : ∃ ao n' cap, v' = .slice ao n' cap := by
    rcases hown'.2 with ⟨hv, _⟩ | ⟨g, cap, cur, fz, hv, _⟩
    · exact ⟨_, _, _, hv⟩
    · exact ⟨_, _, _, hv⟩
  go_wp2
  go_ret2
  have hP := Lib.BuilderAtF.put (T := 41) (e := 5) h1.le hb2 (bs' := bs ++ strCells s) (by simpa [Lib.strCells_length] using hown') bd_neT
  obtain ⟨_, v2, e1, e2, e3⟩ := hP
  have ev : v2 = .slice ao n' cap := by
    have := e1
    simp [World.setCell, Array.getElem?_modify, hb2] at this
    exact this.symm
  subst ev
  refine ⟨⟨_, rfl⟩, _, ⟨.inr rfl, e1, e2, e3, h1.le⟩, fun x hx => ?_, ?_, ?_⟩
  · rcases hat x hx with h' | h'
    · exact .inl h'
    · exact .inr (by omega)
  · refine Kept.setCell (Kept.grownBy (w1 := w1) ⟨hk1.os, hk1.tape, hk1.output, hk1.size, fun x hx hn => hk1.block x hx (fun e => hn (.inl e))⟩ hgrow (fun x _ hx => .inr hx)) _ _ (.inl rfl)
  · exact (hb1.grown hgrow (by omega) (fun k hk => (h1.own.lt k hk).1)).setCell (p := ⟨b, 1, none⟩) h1.le _
set_option maxHeartbeats 2000000 in
set_option maxRecDepth 100000 in
theorem writeByte_c {B : Nat} {w : World} {b : Nat} {bs : List Value} {p v : Value} (h : Bd B w b bs p v) (c : Int) (hl : bs.length + 1 ≤ 140737488355328) (hB : B ≤ w.heap.size) :
    Calls Tryz.prog 13 #[.pointer (some ⟨b, 0, none⟩), .int .u8 c] w fun e w' => (∃ u, e = .returned u) ∧ BdTo B w w' b (bs ++ [.int .u8 c]) v := by
  obtain ⟨i0, hi, hz0, hz1, hz2⟩ := info_parts kBuilder_Extra_169.infoByte
  go_enter Tryz.func13, Tryz.ntmps13
  go_wp2_with fail
  refine (copyCheck_c h).mono ?_
  rintro e w1 ⟨rfl, h1, hk1, hs1, hb1⟩
  have c0 : w1.cell? ⟨b, 0, none⟩ = some (.pointer (some ⟨b, 0, none⟩)) := by rw [Lib.cell_of_heap h1.blk]; rfl
  have c1 : w1.cell? ⟨b, 1, none⟩ = some v := by rw [Lib.cell_of_heap h1.blk]; rfl
  have HS : Hid (w1.heap.size = w.heap.size) := hs1
  clear hs1
  go_wp2_with (at_builtin; refine wp_appByte _ rfl _ _ 39 rfl B 5 i0 (.int .u8 0) Tryz.underlying39 hi hz0 hz1 hz2 rfl _ _ _ rfl (h1.own.alloc _) ⟨w1.heap.size, 0, none⟩ 1 (.int .u8 c) rfl ?c1 rfl ?c3 ?c4 ?c5 ?_)
  case c1 => simp
  case c3 => unfold maxLen; omega
  case c4 => omega
  case c5 => have := HS.out; simp; omega
  intro v' w2 hown' hgrow hat
  have hlt : b < w1.heap.size := h1.lt
  have hb2 : w2.heap[b]? = some (.cells #[.pointer (some ⟨b, 0, none⟩), v] 41 (0, 0)) := by
    rw [hgrow.block b (by simp; omega) (fun e => h1.ne e.symm), Lib.alloc_old w1 _ b hlt]
    exact h1.blk
  have d0 : w2.cell? ⟨b, 0, none⟩ = some (.pointer (some ⟨b, 0, none⟩)) := by rw [Lib.cell_of_heap hb2]; rfl
  have d1 : w2.cell? ⟨b, 1, none⟩ = some v := by rw [Lib.cell_of_heap hb2]; rfl
  have f1 : w2.frozen? ⟨b, 1, none⟩ = false := Lib.frozen_of_heap hb2 1
  obtain ⟨ao, n', cap, rfl⟩ : ∃ ao n' cap, v' = .slice ao n' cap := by
    rcases hown'.2 with ⟨hv, _⟩ | ⟨g, cap, cur, fz, hv, _⟩
    · exact ⟨_, _, _, hv⟩
    · exact ⟨_, _, _, hv⟩
  go_wp2
  go_ret
  have hs1 := HS.out
  have hP := Lib.BuilderAtF.put (T := 41) (e := 5) h1.le hb2 (bs' := bs ++ [.int .u8 c]) (by simpa using hown') bd_neT
  obtain ⟨_, v2, e1, e2, e3⟩ := hP
  have ev : v2 = .slice ao n' cap := by
    have := e1
    simp [World.setCell, Array.getElem?_modify, hb2] at this
    exact this.symm
  subst ev
  have ka : Kept (fun x => x = b ∨ v.ownBlock = some x) w (w1.alloc (.cells #[.int .u8 c] 5)) :=
    ⟨hk1.os, hk1.tape, hk1.output, by simp; omega, fun x hx hn => (Lib.alloc_old w1 _ x (by omega)).trans (hk1.block x hx (fun e => hn (.inl e)))⟩
  refine ⟨⟨_, rfl⟩, _, ⟨.inr rfl, e1, e2, e3, h1.le⟩, fun x hx => ?_, ?_, ?_⟩
  · rcases hat x hx with h' | h'
    · exact .inl h'
    · exact .inr (by omega)
  · exact Kept.setCell (Kept.grownBy ka hgrow (fun x _ hx => .inr hx)) _ _ (.inl rfl)
  · exact ((hb1.alloc (by omega) _).grown hgrow (by simp; omega) (fun k hk => (h1.own.lt k hk).1)).setCell (p := ⟨b, 1, none⟩) h1.le _
/-- what String answers -/
theorem string_c {B : Nat} {w : World} {b : Nat} {l : List UInt8} {p v : Value} (h : Bd B w b (Lib.byteCells l) p v) (hB : B ≤ w.heap.size) :
    Calls Tryz.prog 14 #[.pointer (some ⟨b, 0, none⟩)] w fun e w' => e = .returned (.string ⟨l.toArray⟩) ∧ Below B w w' := by
  have hI : Lib.IsBuilderF 41 5 B b (Lib.byteCells l) w := by
    rcases h.pp with rfl | rfl
    · exact .inl ⟨h.le, v, h.blk, h.own, h.ne⟩
    · exact .inr ⟨h.le, v, h.blk, h.own, h.ne⟩
  refine (Builder_String_any_k_s B b l w hI hB).mono ?_
  rintro e w' ⟨rfl, _, hb, _⟩
  exact ⟨rfl, hb⟩
end Go.Proofs.YtpcnfoaoajfhlabGreatDoor
