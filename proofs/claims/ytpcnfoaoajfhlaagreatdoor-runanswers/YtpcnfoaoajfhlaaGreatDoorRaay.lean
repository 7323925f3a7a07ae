/-
  Package run by its contracts: readNumbers; a row of words.
  Package run by its contracts: the table of what each first word wants.
  A strings.Builder by its contracts, with what its calls leave alone: all but its own block and its own row.
  A strings.Builder's WriteString and WriteByte: what they leave alone.
-/
import Derived.Test.YtpcnfoaoajfhlaaGreatDoorRaax
import Derived.Test.YtpcnfoaoajfhlaaGreatDoorRaan
import Derived.Deep.LoopGhost
import Derived.MapKept
import Derived.WideMake
import Derived.Carry
import Derived.RangeFuncRecord
import Derived.Test.YtpcnfoaoajfhlaaGreatDoorSh2
import Derived.Test.YtpcnfoaoajfhlaaGreatDoorRaaj
import Derived.Laws.Externs
import Derived.Lib.FrozenHead2
import Derived.WalkKit
namespace Go.Proofs.YtpcnfoaoajfhlaaGreatDoor
set_option linter.unusedVariables false
set_option linter.unusedSimpArgs false
set_option linter.unusedVariables false
set_option linter.unusedSimpArgs false
open Go.RowKit

/-- a row of words -/
def StrsIs (w : World) (v : Value) (bs : List ByteArray) : Prop := ∃ p cap, v = .slice p bs.length cap ∧ bs.length ≤ 9223372036854775807 ∧ (bs ≠ [] → ∃ b o, p = some ⟨b, o, none⟩ ∧ b < w.heap.size ∧ ∀ j (h : j < bs.length), w.cell? ⟨b, o + j, none⟩ = some (.string bs[j]) ∧ bs[j].size ≤ 9223372036854775807)
theorem StrsIs.below {w w' : World} {v : Value} {bs : List ByteArray} (h : StrsIs w v bs) (hb : Below w.heap.size w w') : StrsIs w' v bs := by
  obtain ⟨p, cap, rfl, h1, h2⟩ := h
  refine ⟨p, cap, rfl, h1, fun h0 => ?_⟩
  obtain ⟨b, o, rfl, hl, hc⟩ := h2 h0
  exact ⟨b, o, rfl, Nat.lt_of_lt_of_le hl hb.size, fun j hj => ⟨(World.cell?_of_block (a := ⟨b, o + j, none⟩) (hb.block b hl)).trans (hc j hj).1, (hc j hj).2⟩⟩
def wordL (b : ByteArray) : List UInt8 := b.data.toList
def numsL : List (List UInt8) → Option (List Nat)
  | [] => some []
  | w :: ws => match numL w with
    | none => none
    | some n => (numsL ws).map (n :: ·)
theorem numsL_bad {ws : List (List UInt8)} {j : Nat} (h : j < ws.length) (hb : numL ws[j] = none) : numsL ws = none := by
  induction ws generalizing j with
  | nil => simp at h
  | cons x ws ih =>
    unfold numsL
    cases j with
    | zero => rw [show numL x = none from hb]
    | succ j =>
      rw [ih (by simpa using h) (by simpa using hb)]
      cases numL x <;> rfl
theorem numsL_snoc {ws : List (List UInt8)} {w : List UInt8} {ns : List Nat} {n : Nat} (h : numsL ws = some ns) (hn : numL w = some n) : numsL (ws ++ [w]) = some (ns ++ [n]) := by
  induction ws generalizing ns with
  | nil =>
    obtain rfl := Option.some.inj h
    simp [numsL, hn]
  | cons x ws ih =>
    unfold numsL at h
    cases hx : numL x with
    | none => rw [hx] at h; cases h
    | some m =>
      rw [hx] at h
      cases hs : numsL ws with
      | none => rw [hs] at h; cases h
      | some ms =>
        rw [hs] at h
        obtain rfl := Option.some.inj h
        simp [numsL, hx, ih hs]
theorem numsL_len {ws : List (List UInt8)} {ns : List Nat} (h : numsL ws = some ns) : ns.length = ws.length := by
  induction ws generalizing ns with
  | nil => obtain rfl := Option.some.inj h; rfl
  | cons x ws ih =>
    unfold numsL at h
    cases hx : numL x with
    | none => rw [hx] at h; cases h
    | some m =>
      rw [hx] at h
      cases hs : numsL ws with
      | none => rw [hs] at h; cases h
      | some ms =>
        rw [hs] at h
        obtain rfl := Option.some.inj h
        simp [ih hs]
def natZ (ns : List Nat) : List Int := ns.map (fun (n : Nat) => (n : Int))
theorem old_cellT {w w' : World} {a : Addr} {v : Value} (hb : Below w.heap.size w w') (h : w.cell? a = some v) : w'.cell? a = some v := (hb.cell (p := a) (World.block_lt_of_cell? w a h)).trans h
/-- what readNumbers answers -/
def NumsTo (w : World) (o : Option (List Nat)) (e : Ending) (w' : World) : Prop := Below w.heap.size w w' ∧ match o with
  | some ns => ∃ v, e = .returned (.tuple #[v, .nilIface]) ∧ IntsIs w' v (natZ ns) ∧ ∀ g, v.ownBlock = some g → w.heap.size ≤ g
  | none => e = .returned (.tuple #[.slice none 0 0, badV])
set_option maxHeartbeats 8000000 in
theorem readNumbers_c (v : Value) (bs : List ByteArray) (w : World) (hb : bs.length ≤ 100) (h : StrsIs w v bs) :
    Calls Tryz.prog 174 #[v] w (NumsTo w (numsL (bs.map wordL))) := by
  obtain ⟨p, cap, rfl, hl, hrow⟩ := h
  have HRow : Hid (bs ≠ [] → ∃ b o, p = some ⟨b, o, none⟩ ∧ b < w.heap.size ∧ ∀ j (h : j < bs.length), w.cell? ⟨b, o + j, none⟩ = some (.string bs[j]) ∧ bs[j].size ≤ 9223372036854775807) := hrow
  obtain ⟨n, HN⟩ : ∃ n, Hid (bs.length = n) := ⟨_, rfl⟩
  obtain ⟨R, HR⟩ : ∃ R, Hid (numsL (bs.map wordL) = R) := ⟨_, rfl⟩
  rw [HN.out] at hb hl ⊢
  rw [HR.out]
  clear hrow
  go_enter Tryz.func174, Tryz.ntmps174
  go_wp2_with fail
  go_loopw [4, 11] (fun c4 c11 wr => ∃ (j : Nat) (ns : List Nat) (u : Value), j ≤ n ∧ c11 = .int .i64 j ∧ c4 = u ∧ Hid (numsL ((bs.map wordL).take j) = some ns) ∧ Hid (OwnI w.heap.size wr u (natZ ns)) ∧ Hid (Below w.heap.size w wr)) (fun _ c _ => n - (intOf c).toNat)
  case atStart => exact ⟨0, [], _, Nat.zero_le _, rfl, rfl, rfl, OwnI.nil _ _, Below.refl _ _⟩
  case round =>
    obtain ⟨j, ns, u, hj, rfl, h4, HNs, HO, HB⟩ := hrel
    have h4' := h4.symm
    subst h4'
    by_cases hlt : j < n
    · have hlti : (j : Int) < (n : Int) := by omega
      have hjl : j < bs.length := by rw [HN.out]; exact hlt
      obtain ⟨b, o, rfl, hbl, hcj⟩ := HRow.out (fun e => by rw [e] at hjl; exact absurd hjl (by simp))
      obtain ⟨cj, szj⟩ := hcj j hjl
      have HTk : Hid ((bs.map wordL).take (j + 1) = (bs.map wordL).take j ++ [wordL bs[j]]) := by
        show _ = _
        rw [List.take_add_one, List.getElem?_map, List.getElem?_eq_getElem hjl]
        rfl
      have HBad : Hid (numL (wordL bs[j]) = none → R = none) := fun h => by
        rw [← HR.out]
        exact numsL_bad (j := j) (by simpa using hjl) (by simpa using h)
      generalize bs[j] = s at cj szj HTk HBad
      have cj' := old_cellT HB.out cj
      have lb := World.block_lt_of_cell? wr _ cj'
      clear hcj cj hjl
      cases hq : numL (wordL s) with
      | none =>
        have hR : R = none := HBad.out hq
        have hcall : ∀ w', Calls Tryz.prog 195 #[.string s] w' fun e w2 => e = .returned (.tuple #[.int .i64 0, .iface 184 (.agg #[.int .i64 2])]) ∧ w2 = w' := fun w' => by
          have c := readNumber_c s w' szj
          rw [show numL s.data.toList = none from hq] at c
          exact c
        have HC : Hid _ := hcall
        clear hcall hq HBad
        subst hR
        go_wp2_with fail
        refine (HC.out _).mono ?_
        rintro e w2 ⟨rfl, hw⟩
        rw [hw]
        clear hw w2
        go_wp2_with fail
        go_ret2
        exact ⟨HB.out, rfl⟩
      | some x =>
        have hcall : ∀ w', Calls Tryz.prog 195 #[.string s] w' fun e w2 => e = .returned (.tuple #[.int .i64 x, .nilIface]) ∧ w2 = w' := fun w' => by
          have c := readNumber_c s w' szj
          rw [show numL s.data.toList = some x from hq] at c
          exact c
        have HC : Hid _ := hcall
        have HN2 : Hid (numsL ((bs.map wordL).take (j + 1)) = some (ns ++ [x])) := by
          show _ = _
          rw [HTk.out]
          exact numsL_snoc HNs.out hq
        have HLa : Hid ((natZ ns).length ≤ 100) := by
          have h1 := numsL_len HNs.out
          rw [List.length_take] at h1
          show _ ≤ _
          rw [natZ, List.length_map]
          omega
        have hws : w.heap.size ≤ wr.heap.size := HB.out.size
        have HBa : Hid (Below w.heap.size w (wr.alloc (.cells #[.int .i64 x] 3))) := HB.out.alloc hws _
        have HOa : Hid (OwnI w.heap.size (wr.alloc (.cells #[.int .i64 x] 3)) u (natZ ns)) := HO.out.below ((Below.refl _ _).alloc (Nat.le_refl _) _)
        have HVa : Hid ((wr.alloc (.cells #[.int .i64 x] 3)).heap[wr.heap.size]? = some (.cells #[.int .i64 x] 3 (0, 0))) := alloc_at _ _ _ rfl
        have HSa : Hid (w.heap.size ≤ (wr.alloc (.cells #[.int .i64 x] 3)).heap.size) := show _ ≤ _ from (by simp; omega)
        clear hcall hq HBad
        go_wp2_with fail
        refine (HC.out _).mono ?_
        rintro e w2 ⟨rfl, hw⟩
        rw [hw]
        clear hw w2
        go_wp2_with (at_builtin; refine wp_appI _ rfl _ _ rfl w.heap.size _ (natZ ns) (x : Int) rfl HOa.out _ rfl HVa.out HLa.out HSa.out ?_)
        intro va wa hown hgrow
        have HOp : Hid (OwnI w.heap.size wa va (natZ (ns ++ [x]))) := by
          have e : natZ (ns ++ [x]) = natZ ns ++ [(x : Int)] := by simp [natZ]
          show OwnI _ _ _ _
          rw [e]
          exact hown
        have HBp : Hid (Below w.heap.size w wa) := below_grownF HBa.out (Nat.le_refl _) hgrow.out (fun c hc => HO.out.from c hc)
        clear hown hgrow HBa HOa HVa HSa HLa
        go_wp2_with fail
        go_roundw
        case rel => exact ⟨j + 1, ns ++ [x], va, by omega, by go_num, rfl, HN2, HOp, HBp⟩
        case measure => simp [intOf]; omega
    · obtain rfl : j = n := by omega
      have hR : R = some ns := by
        have h1 := HNs.out
        rw [List.take_of_length_le (by rw [List.length_map, HN.out]; exact Nat.le_refl _)] at h1
        exact HR.out.symm.trans h1
      subst hR
      go_wp2_with fail
      go_ret2
      exact ⟨HB.out, _, rfl, HO.out.ints, fun g hg => HO.out.from g hg⟩
end Go.Proofs.YtpcnfoaoajfhlaaGreatDoor

namespace Go.Proofs.YtpcnfoaoajfhlaaGreatDoor
set_option linter.unusedVariables false
set_option linter.unusedSimpArgs false
open Go.RowKit

theorem map_put (mty kt et : TypeId) (P : Program) (w : World) (es : Array MapEntry) (clock : Nat) (s : ByteArray) (val : Value) (hm : P.underlying mty = some (.map kt et)) (hk : P.underlying kt = some .string)
    (hf : Instr.findNow .string (.string s) es.toList 0 = some none) :
    (Instr.mapUpdate mty (.map (some w.heap.size)) (.string s) val).run P (w.alloc (.map es clock)) = .ok () (w.alloc (.map (es.push ⟨.string s, val, clock⟩) (clock + 1))) := by
  have hb : (w.alloc (.map es clock)).heap[w.heap.size]? = some (.map es clock) := World.alloc_heap_new w _
  have hc : (Instr.checkKey false 10000 kt (.string s)).run P (w.alloc (.map es clock)) = .ok () (w.alloc (.map es clock)) := MapKept.run_checkKey (k := .string s) hk (by simp [MapKept.IsKey]) false 9999
  simp [Instr.mapUpdate, run_underlying hm, MapKept.run_getObj_map hb, hc, MapKept.run_findKey hk hf, MapKept.run_setObj_map _ hb, Result.andThen]
  show ({ w with heap := (w.heap.push (.map es clock)).setIfInBounds w.heap.size (.map (es.push ⟨.string s, val, clock⟩) (clock + 1)) } : World) = { w with heap := w.heap.push (.map (es.push ⟨.string s, val, clock⟩) (clock + 1)) }
  congr 1
  apply Array.ext_getElem?
  intro i
  rw [Array.getElem?_setIfInBounds]
  by_cases hi : w.heap.size = i
  · subst hi; simp
  · rw [if_neg hi]; simp [Array.getElem?_push, Ne.symm hi]
def asked (z : Value) (o : Option (Nat × Value)) : Value := match o with
  | some q => q.2
  | none => z
theorem map_ask (mty kt et : TypeId) (P : Program) (w : World) (r : Nat) (es : Array MapEntry) (clock : Nat) (s : ByteArray) (z : Value) (hm : P.underlying mty = some (.map kt et)) (hk : P.underlying kt = some .string) (hz : (zeroValue et).run P w = .ok z w)
    (hb : w.heap[r]? = some (.map es clock)) {o : Option (Nat × Value)} (hf : Instr.findNow .string (.string s) es.toList 0 = some o) :
    (Instr.lookup mty (.map (some r)) (.string s) true).run P w = .ok (.tuple #[asked z o, .bool o.isSome]) w := by
  have hc : (Instr.checkKey es.isEmpty 10000 kt (.string s)).run P w = .ok () w := MapKept.run_checkKey (k := .string s) hk (by simp [MapKept.IsKey]) _ 9999
  cases o <;> simp [Instr.lookup, run_underlying hm, MapKept.run_getObj_map hb, hc, MapKept.run_findKey hk hf, hz, Result.andThen, asked]

/-- what a first word wants, as the table has it -/
def wantV (n m f : Nat) : Value := .agg #[.int .i64 n, .int .i64 m, .func (.func f) #[] #[]]
def putS : ByteArray := ⟨#[112, 117, 116]⟩
def deleteS : ByteArray := ⟨#[100, 101, 108, 101, 116, 101]⟩
def getS : ByteArray := ⟨#[103, 101, 116]⟩
def swapS : ByteArray := ⟨#[115, 119, 97, 112]⟩
def seqS : ByteArray := ⟨#[115, 101, 113]⟩
def cacheS : ByteArray := ⟨#[99, 97, 99, 104, 101]⟩
def ownerS : ByteArray := ⟨#[111, 119, 110, 101, 114]⟩
def wantE1 : Array MapEntry := (#[] : Array MapEntry).push ⟨.string putS, wantV 2 1 122, 0⟩
def wantE2 : Array MapEntry := wantE1.push ⟨.string deleteS, wantV 2 0 123, 1⟩
def wantE3 : Array MapEntry := wantE2.push ⟨.string getS, wantV 3 0 124, 2⟩
def wantE4 : Array MapEntry := wantE3.push ⟨.string swapS, wantV 2 0 125, 3⟩
def wantE5 : Array MapEntry := wantE4.push ⟨.string seqS, wantV 0 0 126, 4⟩
def wantE6 : Array MapEntry := wantE5.push ⟨.string cacheS, wantV 1 0 127, 5⟩
def wantE7 : Array MapEntry := wantE6.push ⟨.string ownerS, wantV 1 0 128, 6⟩
set_option maxHeartbeats 4000000 in
theorem wants_c (w : World) : Calls Tryz.prog 79 #[] w fun e w' => e = .returned (.map (some w.heap.size)) ∧ w' = w.alloc (.map wantE7 7) := by
  have hm : Tryz.prog.underlying 130 = some (.map 9 189) := Tryz.underlying130
  have hk : Tryz.prog.underlying 9 = some .string := Tryz.underlying9
  have put := fun es c s v hf => map_put _ _ _ Tryz.prog w es c s v hm hk hf
  have hmm := @run_makeMap Tryz.prog 130 w
  obtain ⟨w0, e0⟩ : ∃ x, x = w.alloc (.map #[] 0) := ⟨_, rfl⟩
  obtain ⟨w1, e1⟩ : ∃ x, x = w.alloc (.map wantE1 1) := ⟨_, rfl⟩
  obtain ⟨w2, e2⟩ : ∃ x, x = w.alloc (.map wantE2 2) := ⟨_, rfl⟩
  obtain ⟨w3, e3⟩ : ∃ x, x = w.alloc (.map wantE3 3) := ⟨_, rfl⟩
  obtain ⟨w4, e4⟩ : ∃ x, x = w.alloc (.map wantE4 4) := ⟨_, rfl⟩
  obtain ⟨w5, e5⟩ : ∃ x, x = w.alloc (.map wantE5 5) := ⟨_, rfl⟩
  obtain ⟨w6, e6⟩ : ∃ x, x = w.alloc (.map wantE6 6) := ⟨_, rfl⟩
  obtain ⟨w7, e7⟩ : ∃ x, x = w.alloc (.map wantE7 7) := ⟨_, rfl⟩
  have h1 : (Instr.mapUpdate 130 (.map (some w.heap.size)) (.string ⟨#[112, 117, 116]⟩) (.agg #[.int .i64 2, .int .i64 1, .func (.func 122) #[] #[]])).run Tryz.prog w0 = .ok () w1 := by
    rw [e0, e1]; exact put #[] 0 _ _ rfl
  have h2 : (Instr.mapUpdate 130 (.map (some w.heap.size)) (.string ⟨#[100, 101, 108, 101, 116, 101]⟩) (.agg #[.int .i64 2, .int .i64 0, .func (.func 123) #[] #[]])).run Tryz.prog w1 = .ok () w2 := by
    rw [e1, e2]; exact put wantE1 1 _ _ rfl
  have h3 : (Instr.mapUpdate 130 (.map (some w.heap.size)) (.string ⟨#[103, 101, 116]⟩) (.agg #[.int .i64 3, .int .i64 0, .func (.func 124) #[] #[]])).run Tryz.prog w2 = .ok () w3 := by
    rw [e2, e3]; exact put wantE2 2 _ _ rfl
  have h4 : (Instr.mapUpdate 130 (.map (some w.heap.size)) (.string ⟨#[115, 119, 97, 112]⟩) (.agg #[.int .i64 2, .int .i64 0, .func (.func 125) #[] #[]])).run Tryz.prog w3 = .ok () w4 := by
    rw [e3, e4]; exact put wantE3 3 _ _ rfl
  have h5 : (Instr.mapUpdate 130 (.map (some w.heap.size)) (.string ⟨#[115, 101, 113]⟩) (.agg #[.int .i64 0, .int .i64 0, .func (.func 126) #[] #[]])).run Tryz.prog w4 = .ok () w5 := by
    rw [e4, e5]; exact put wantE4 4 _ _ rfl
  have h6 : (Instr.mapUpdate 130 (.map (some w.heap.size)) (.string ⟨#[99, 97, 99, 104, 101]⟩) (.agg #[.int .i64 1, .int .i64 0, .func (.func 127) #[] #[]])).run Tryz.prog w5 = .ok () w6 := by
    rw [e5, e6]; exact put wantE5 5 _ _ rfl
  have h7 : (Instr.mapUpdate 130 (.map (some w.heap.size)) (.string ⟨#[111, 119, 110, 101, 114]⟩) (.agg #[.int .i64 1, .int .i64 0, .func (.func 128) #[] #[]])).run Tryz.prog w6 = .ok () w7 := by
    rw [e6, e7]; exact put wantE6 6 _ _ rfl
  rw [← e0] at hmm
  rw [← e7]
  clear e0 e1 e2 e3 e4 e5 e6 e7 put hm hk
  go_enter Tryz.func79, Tryz.ntmps79
  go_wp2_with fail
  go_ret
  exact ⟨rfl, rfl⟩
/-- what a first word wants: how many numbers, how many words, what is done -/
def wantO (s : ByteArray) : Option (Nat × Nat × Nat) :=
  if s = putS then some (2, 1, 122) else if s = deleteS then some (2, 0, 123) else if s = getS then some (3, 0, 124)
  else if s = swapS then some (2, 0, 125) else if s = seqS then some (0, 0, 126) else if s = cacheS then some (1, 0, 127)
  else if s = ownerS then some (1, 0, 128) else none
def wantR (o : Option (Nat × Nat × Nat)) : Value := match o with
  | some q => wantV q.1 q.2.1 q.2.2
  | none => .agg #[.int .i64 0, .int .i64 0, .nilFunc]
theorem find_hit {s k : ByteArray} {v : Value} {b i : Nat} {es : List MapEntry} (h : s = k) : Instr.findNow .string (.string s) (⟨.string k, v, b⟩ :: es) i = some (some (i, v)) := by
  subst h
  unfold Instr.findNow
  rw [show Instr.sameNow .string (.string s) (.string s) = some true by simp [Instr.sameNow, MapKept.bytes_beq]]
theorem find_miss {s k : ByteArray} {v : Value} {b i : Nat} {es : List MapEntry} (h : ¬ s = k) : Instr.findNow .string (.string s) (⟨.string k, v, b⟩ :: es) i = Instr.findNow .string (.string s) es (i + 1) := by
  conv => lhs; unfold Instr.findNow
  rw [show Instr.sameNow .string (.string s) (.string k) = some false from congrArg some (Bool.eq_false_iff.2 fun e => h ((MapKept.bytes_beq _ _).1 e))]
theorem wants_find (s : ByteArray) : ∃ o, Instr.findNow .string (.string s) wantE7.toList 0 = some o ∧ asked (.agg #[.int .i64 0, .int .i64 0, .nilFunc]) o = wantR (wantO s) ∧ o.isSome = (wantO s).isSome := by
  show ∃ o, Instr.findNow .string (.string s) [⟨.string putS, wantV 2 1 122, 0⟩, ⟨.string deleteS, wantV 2 0 123, 1⟩, ⟨.string getS, wantV 3 0 124, 2⟩, ⟨.string swapS, wantV 2 0 125, 3⟩, ⟨.string seqS, wantV 0 0 126, 4⟩, ⟨.string cacheS, wantV 1 0 127, 5⟩, ⟨.string ownerS, wantV 1 0 128, 6⟩] 0 = some o ∧ _
  unfold wantO
  by_cases h1 : s = putS
  · rw [find_hit h1, if_pos h1]; exact ⟨_, rfl, rfl, rfl⟩
  rw [find_miss h1, if_neg h1]
  by_cases h2 : s = deleteS
  · rw [find_hit h2, if_pos h2]; exact ⟨_, rfl, rfl, rfl⟩
  rw [find_miss h2, if_neg h2]
  by_cases h3 : s = getS
  · rw [find_hit h3, if_pos h3]; exact ⟨_, rfl, rfl, rfl⟩
  rw [find_miss h3, if_neg h3]
  by_cases h4 : s = swapS
  · rw [find_hit h4, if_pos h4]; exact ⟨_, rfl, rfl, rfl⟩
  rw [find_miss h4, if_neg h4]
  by_cases h5 : s = seqS
  · rw [find_hit h5, if_pos h5]; exact ⟨_, rfl, rfl, rfl⟩
  rw [find_miss h5, if_neg h5]
  by_cases h6 : s = cacheS
  · rw [find_hit h6, if_pos h6]; exact ⟨_, rfl, rfl, rfl⟩
  rw [find_miss h6, if_neg h6]
  by_cases h7 : s = ownerS
  · rw [find_hit h7, if_pos h7]; exact ⟨_, rfl, rfl, rfl⟩
  rw [find_miss h7, if_neg h7]
  exact ⟨none, rfl, rfl, rfl⟩
theorem wants_ask (w : World) (r : Nat) (s : ByteArray) (hb : w.heap[r]? = some (.map wantE7 7)) :
    (Instr.lookup 130 (.map (some r)) (.string s) true).run Tryz.prog w = .ok (.tuple #[wantR (wantO s), .bool (wantO s).isSome]) w := by
  have hm : Tryz.prog.underlying 130 = some (.map 9 189) := Tryz.underlying130
  have hk : Tryz.prog.underlying 9 = some .string := Tryz.underlying9
  have hz : (zeroValue 189).run Tryz.prog w = .ok (.agg #[.int .i64 0, .int .i64 0, .nilFunc]) w := by kernel_rfl
  obtain ⟨o, h1, h2, h3⟩ := wants_find s
  rw [map_ask _ _ _ Tryz.prog w r wantE7 7 s _ hm hk hz hb h1, h2, h3]
end Go.Proofs.YtpcnfoaoajfhlaaGreatDoor

namespace Go.Proofs.YtpcnfoaoajfhlaaGreatDoor
set_option linter.unusedVariables false
set_option linter.unusedSimpArgs false
open Go.RowKit Go.Shelf

/-- a builder at b; its bytes; what it lies in -/
structure Bd (B : Nat) (w : World) (b : Nat) (bs : List Value) (p v : Value) : Prop where
  pp : p = .pointer none ∨ p = .pointer (some ⟨b, 0, none⟩)
  blk : w.heap[b]? = some (.cells #[p, v] 136 (0, 0))
  own : w.ownsRowF B 5 1 v bs.length bs
  ne : v.ownBlock ≠ some b
  le : B ≤ b
set_option maxHeartbeats 1000000 in
set_option maxRecDepth 100000 in
theorem copyCheck_used (b : Nat) (w : World) (h0 : w.cell? ⟨b, 0, none⟩ = some (.pointer (some ⟨b, 0, none⟩))) :
    Calls Tryz.prog 131 #[.pointer (some ⟨b, 0, none⟩)] w fun e w' => e = .returned (.tuple #[]) ∧ w' = w := by
  obtain ⟨j, hj, _⟩ := Option.map_eq_some_iff.1 kBuilder_Extra_169.toX72.sizeBuilder
  go_enter Tryz.func131, Tryz.ntmps131
  go_wp2
  rw [Lib.run_neq_ptr_same w _ Tryz.underlying134 hj]
  go_wp2
  go_end0
  exact ⟨rfl, rfl⟩
/-- a pointer as it is, and back, where it points into a row of cells -/
theorem run_toP {P : Program} (w : World) {src dst t e : TypeId} {j : TypeInfo} {cells : Nat} (a : Addr) (hs : P.underlying src = some (.pointer t)) (hd : P.underlying dst = some .unsafePointer) (ht : P.info? t = some j) (hj : j.size ≠ 0)
    (hsh : w.shape? a.block = some (e, cells)) (hoff : a.off < cells) :
    (convert src dst (.pointer (some a))).run P w = .ok (.pointer (some a)) w := by
  simp [convert, run_underlying hs, run_underlying hd, Conv.unsafePointer, Conv.seenAt, viewAt, cellsIn, hsh, sizeOf, typeInfo, ht, hj]
  intro h
  omega
theorem run_fromP {P : Program} (w : World) {src dst u e : TypeId} {j : TypeInfo} {cells : Nat} (a : Addr) (hs : P.underlying src = some .unsafePointer) (hd : P.underlying dst = some (.pointer u)) (hu : P.info? u = some j)
    (hsh : w.shape? a.block = some (e, cells)) (hlies : liesAt P P.depth e (cells / P.cellsOf e) a.off u 1 = true) :
    (convert src dst (.pointer (some a))).run P w = .ok (.pointer (some a)) w := by
  simp [convert, run_underlying hs, run_underlying hd, Conv.unsafePointer, Conv.seenAt, viewAt, hsh, variablesAt, hlies, sizeOf, typeInfo, hu]
set_option maxHeartbeats 1000000 in
set_option maxRecDepth 100000 in
theorem copyCheck_fresh (b : Nat) (w : World) (h0 : w.cell? ⟨b, 0, none⟩ = some (.pointer none)) (hsh : w.shape? b = some (136, 2)) (hfz : w.frozen? ⟨b, 0, none⟩ = false) :
    Calls Tryz.prog 131 #[.pointer (some ⟨b, 0, none⟩)] w fun e w' => e = .returned (.tuple #[]) ∧ w' = w.setCell ⟨b, 0, none⟩ (.pointer (some ⟨b, 0, none⟩)) := by
  obtain ⟨j, hj, hjs⟩ := Option.map_eq_some_iff.1 kBuilder_Extra_169.toX72.sizeBuilder
  have hl := kBuilder_Extra_169.toX72.liesBuilder
  go_enter Tryz.func131, Tryz.ntmps131
  go_wp2
  rw [run_toP w ⟨b, 0, none⟩ Tryz.underlying134 Tryz.underlying195 hj (by rw [hjs]; decide) hsh (Nat.zero_lt_succ 1)]
  simp only [Result.andThen]
  rw [Oper.upon_value]
  go_wp2
  rw [run_callFunc_extern Tryz.func172 (by kernel_rfl) (by kernel_rfl) (by kernel_rfl) (e := Extern.AbiNoEscape.same) (by kernel_rfl)]
  rw [Lib.run_noEscape]
  simp only [Result.andThen]
  rw [Oper.upon_value]
  go_wp2
  rw [run_fromP w ⟨b, 0, none⟩ Tryz.underlying195 Tryz.underlying134 hj hsh hl]
  simp only [Result.andThen]
  rw [Oper.upon_value]
  go_wp2
  go_end0
  exact ⟨rfl, rfl⟩
theorem Kept.setCell {F : Nat → Prop} {w w' : World} (h : Kept F w w') (a : Addr) (v : Value) (hF : F a.block) : Kept F w (w'.setCell a v) := by
  refine ⟨h.os, h.tape, h.output, by simpa [World.setCell] using h.size, fun x hx hn => ?_⟩
  rw [← h.block x hx hn]
  exact Below.heap_setCell _ _ _ _ (fun e => hn (by rw [e]; exact hF))
theorem Bd.lt {B : Nat} {w : World} {b : Nat} {bs : List Value} {p v : Value} (h : Bd B w b bs p v) : b < w.heap.size := by
  rcases Nat.lt_or_ge b w.heap.size with h' | h'
  · exact h'
  · have := h.blk
    simp [Array.getElem?_eq_none h'] at this
/-- behind copyCheck the builder knows its own place -/
theorem copyCheck_c {B : Nat} {w : World} {b : Nat} {bs : List Value} {p v : Value} (h : Bd B w b bs p v) :
    Calls Tryz.prog 131 #[.pointer (some ⟨b, 0, none⟩)] w fun e w' => e = .returned (.tuple #[]) ∧ Bd B w' b bs (.pointer (some ⟨b, 0, none⟩)) v ∧ Kept (fun x => x = b) w w' ∧ w'.heap.size = w.heap.size ∧ Below B w w' := by
  have c0 : w.cell? ⟨b, 0, none⟩ = some p := by rw [Lib.cell_of_heap h.blk]; rfl
  rcases h.pp with rfl | rfl
  · refine (copyCheck_fresh b w c0 (by simp [World.shape?, h.blk]) (by simp [World.frozen?, h.blk])).mono ?_
    rintro e w' ⟨rfl, rfl⟩
    refine ⟨rfl, ⟨.inr rfl, ?_, ?_, h.ne, h.le⟩, (Kept.refl _ w).setCell _ _ rfl, by simp [World.setCell], (Below.refl B w).setCell (p := ⟨b, 0, none⟩) h.le _⟩
    · simp [World.setCell, Array.getElem?_modify, h.blk]
    · exact h.own.kept (row := some b) ⟨rfl, rfl, rfl, by simp [World.setCell], fun k _ hk => Below.heap_setCell _ _ _ _ (fun e => hk (by simp [e]))⟩ (Or.inr h.ne)
  · refine (copyCheck_used b w c0).mono ?_
    rintro e w' ⟨rfl, rfl⟩
    exact ⟨rfl, h, Kept.refl _ _, rfl, Below.refl B _⟩
end Go.Proofs.YtpcnfoaoajfhlaaGreatDoor

namespace Go.Proofs.YtpcnfoaoajfhlaaGreatDoor
set_option linter.unusedVariables false
set_option linter.unusedSimpArgs false
open Go.RowKit Go.Lib

section
variable {P : Program}
theorem str_at (w : World) (B : Nat) (t u ty e : TypeId) (i : TypeInfo) (ht : P.underlying t = some (.slice e)) (hu : P.underlying u = some .string) (hi : P.info? e = some i) (hz : i.zero = some (.int .u8 0))
    (hsize : i.size = 1) (hby : i.bytes = 1)
    (v : Value) (n : Nat) (xs : List Value) (hown : w.ownsRowF B e 1 v n xs) (s : ByteArray)
    (h63 : n + s.size ≤ maxLen) (hbytes : n + s.size ≤ 140737488355328) (hB : B ≤ w.heap.size) :
    ∃ v' w', (Builtin.append_ #[t, u] ty #[v, .string s]).run P w = .ok v' w' ∧ w'.ownsRowF B e 1 v' (n + s.size) (xs ++ strCells s) ∧ w.grownBy w' v.ownBlock ∧ ∀ x, v'.ownBlock = some x → v.ownBlock = some x ∨ w.heap.size ≤ x := by
  obtain ⟨v', w', h1, h2, h3, _⟩ := run_append_own_stringF (P := P) w B t u ty e i ht hu hi hz hsize hby v n xs hown s h63 hbytes hB
  refine ⟨v', w', h1, h2, h3, ?_⟩
  have hsmall : n + s.size ≤ 9223372036854775807 := by simp only [maxLen] at h63; omega
  rcases hown.2 with ⟨rfl, rfl⟩ | ⟨g, cap, cur, fz, rfl, hbg, hg, hfz, hnc, hcm, hcs, htake⟩
  · obtain ⟨v1, w1, k1, k2, _⟩ := run_append_own_string (P := P) w w.heap.size t u ty e i ht hu hi hz hsize hby (.slice none 0 0) 0 xs ⟨hown.1, .inl ⟨rfl, rfl⟩⟩ s h63 hbytes (Nat.le_refl _)
    rw [h1] at k1
    injection k1 with e1 _
    subst e1
    exact fun x hx => .inr ((World.ownsRowF_of k2).lt x hx).1
  · have hxl : xs.length = n := by simpa using hown.1
    by_cases hroom : n + s.size ≤ cap
    · have hcs' : cur.size = cap := by simpa using hcs
      have hr := run_append_room_stringF (P := P) w t u ty e i ht hu hi hsize g n cap cur fz hg (by simpa using hfz) s hroom (by omega)
      rw [h1] at hr
      injection hr with e1 _
      subst e1
      exact fun x hx => .inl hx
    · have holds : ∀ j u, xs[j]? = some u → w.cell? ((⟨g, 0, none⟩ : Addr).add j) = some u := hown.cells (g := g) rfl
      have hr := run_append_grow_string (P := P) w t u ty e i (.int .u8 0) ht hu hi hz ⟨g, 0, none⟩ n cap xs (by rw [hsize]; simpa using hxl) holds s (by omega) (by omega) (by rw [hby]; exact growslice_fits (by omega) (by omega))
      rw [h1] at hr
      injection hr with e1 _
      subst e1
      refine fun x hx => .inr ?_
      obtain rfl : w.heap.size = x := by simpa [Value.ownBlock] using hx
      exact Nat.le_refl _
theorem wp_appStr {ops : Array Oper} {rest : List Oper} {o : Oper} {a : Act} {Q : Exit → Act → World → Prop} (w : World) (hgd : o.guard = none) (sl x : Operand) (t u : TypeId)
    (ho : o.op = .call { callee := .builtin .append, args := #[sl, x], argTypes := #[t, u] })
    (B : Nat) (e : TypeId) (i : TypeInfo) (ht : P.underlying t = some (.slice e)) (hu : P.underlying u = some .string) (hi : P.info? e = some i) (hz : i.zero = some (.int .u8 0))
    (hsize : i.size = 1) (hby : i.bytes = 1)
    (v : Value) (n : Nat) (xs : List Value) (hs : a.eval sl = v) (hown : w.ownsRowF B e 1 v n xs) (s : ByteArray) (hx : a.eval x = .string s)
    (h63 : n + s.size ≤ maxLen) (hbytes : n + s.size ≤ 140737488355328) (hB : B ≤ w.heap.size)
    (h : ∀ v' w', w'.ownsRowF B e 1 v' (n + s.size) (xs ++ strCells s) → w.grownBy w' v.ownBlock → (∀ x, v'.ownBlock = some x → v.ownBlock = some x ∨ w.heap.size ≤ x) → wpList P ops Q rest (a.put o.dst v') w') : wpList P ops Q (o :: rest) a w := by
  refine wpList_plain hgd fun K hK => ?_
  obtain ⟨v', w', hr, h2, h3, h4⟩ := str_at (P := P) w B t u o.type e i ht hu hi hz hsize hby v n xs hown s h63 hbytes hB
  unfold Oper.wp execOp
  simp only [ho, resolve, invoke, builtin, Sem.run_bind, Sem.run_pure, Result.andThen_ok, List.map_toArray, List.map_cons, List.map_nil, hs, hx, hr]
  exact hK _ _ (h v' w' h2 h3 h4)
theorem byte_at (w : World) (B : Nat) (t ty e : TypeId) (i : TypeInfo) (z : Value) (ht : P.underlying t = some (.slice e)) (hi : P.info? e = some i) (hz : i.zero = some z)
    (hsize : i.size = 1) (hby : i.bytes = 1) (hzs : z.cells.size = 1)
    (v : Value) (n : Nat) (xs : List Value) (hown : w.ownsRowF B e 1 v n xs)
    (a : Addr) (c : Nat) (nw : Value) (hnews : w.cell? a = some nw) (h1 : nw.oneCell' = true)
    (h63 : n + 1 ≤ maxLen) (hbytes : n + 1 ≤ 140737488355328) (hB : B ≤ w.heap.size) :
    ∃ v' w', (Builtin.append_ #[t, t] ty #[v, .slice (some a) 1 c]).run P w = .ok v' w' ∧ w'.ownsRowF B e 1 v' (n + 1) (xs ++ [nw]) ∧ w.grownBy w' v.ownBlock ∧ ∀ x, v'.ownBlock = some x → v.ownBlock = some x ∨ w.heap.size ≤ x := by
  have hn : ∀ j u, [nw][j]? = some u → w.cell? (a.add j) = some u := by
    intro j u hj
    match j, hj with
    | 0, hj => simp at hj; subst hj; simpa [Addr.add] using hnews
  have h1' : ∀ u ∈ [nw], u.oneCell' = true := by intro u hu; simp at hu; subst hu; exact h1
  obtain ⟨v', w', r1, r2, r3, _⟩ := run_append_ownF (P := P) w B t ty e i z 1 1 ht hi hz hsize hby hzs (by decide) v n xs hown a 1 c [nw] rfl hn h1' h63 (by omega) hB
  refine ⟨v', w', r1, r2, r3, ?_⟩
  rcases hown.2 with ⟨rfl, rfl⟩ | ⟨g, cap, cur, fz, rfl, hbg, hg, hfz, hnc, hcm, hcs, htake⟩
  · obtain ⟨v1, w1, k1, k2, _⟩ := run_append_own (P := P) w w.heap.size t ty e i z 1 1 ht hi hz hsize hby hzs (by decide) (.slice none 0 0) 0 xs ⟨hown.1, .inl ⟨rfl, rfl⟩⟩ a 1 c [nw] rfl hn h1' h63 (by omega) (Nat.le_refl _)
    rw [r1] at k1
    injection k1 with e1 _
    subst e1
    exact fun x hx => .inr ((World.ownsRowF_of k2).lt x hx).1
  · by_cases hroom : n + 1 ≤ cap
    · have hcs' : cur.size = cap := by simpa using hcs
      have hr := run_append_roomF (P := P) w t ty e i ht hi g n cap cur fz hg (by rw [hsize]; exact hfz) a 1 c [nw] (by rw [hsize]; rfl) hn h1' hroom (by rw [hsize]; simp; omega)
      rw [r1] at hr
      injection hr with e1 _
      subst e1
      exact fun x hx => .inl hx
    · have holds : ∀ j u, xs[j]? = some u → w.cell? ((⟨g, 0, none⟩ : Addr).add j) = some u := hown.cells (g := g) rfl
      have hr := run_append_grow (P := P) w t ty e i z ht hi hz ⟨g, 0, none⟩ n cap xs (by rw [hsize]; exact hown.1) holds a 1 c [nw] (by rw [hsize]; rfl) hn (by omega) (by simp only [maxLen] at h63; omega) (by rw [hby]; exact growslice_fits (by omega) (by omega))
      rw [r1] at hr
      injection hr with e1 _
      subst e1
      refine fun x hx => .inr ?_
      obtain rfl : w.heap.size = x := by simpa [Value.ownBlock] using hx
      exact Nat.le_refl _
theorem wp_appByte {ops : Array Oper} {rest : List Oper} {o : Oper} {a : Act} {Q : Exit → Act → World → Prop} (w : World) (hgd : o.guard = none) (sl x : Operand) (t : TypeId)
    (ho : o.op = .call { callee := .builtin .append, args := #[sl, x], argTypes := #[t, t] })
    (B : Nat) (e : TypeId) (i : TypeInfo) (z : Value) (ht : P.underlying t = some (.slice e)) (hi : P.info? e = some i) (hz : i.zero = some z)
    (hsize : i.size = 1) (hby : i.bytes = 1) (hzs : z.cells.size = 1)
    (v : Value) (n : Nat) (xs : List Value) (hs : a.eval sl = v) (hown : w.ownsRowF B e 1 v n xs) (ad : Addr) (c : Nat) (nw : Value) (hx : a.eval x = .slice (some ad) 1 c) (hnews : w.cell? ad = some nw) (h1 : nw.oneCell' = true)
    (h63 : n + 1 ≤ maxLen) (hbytes : n + 1 ≤ 140737488355328) (hB : B ≤ w.heap.size)
    (h : ∀ v' w', w'.ownsRowF B e 1 v' (n + 1) (xs ++ [nw]) → w.grownBy w' v.ownBlock → (∀ x, v'.ownBlock = some x → v.ownBlock = some x ∨ w.heap.size ≤ x) → wpList P ops Q rest (a.put o.dst v') w') : wpList P ops Q (o :: rest) a w := by
  refine wpList_plain hgd fun K hK => ?_
  obtain ⟨v', w', hr, h2, h3, h4⟩ := byte_at (P := P) w B t o.type e i z ht hi hz hsize hby hzs v n xs hown ad c nw hnews h1 h63 hbytes hB
  unfold Oper.wp execOp
  simp only [ho, resolve, invoke, builtin, Sem.run_bind, Sem.run_pure, Result.andThen_ok, List.map_toArray, List.map_cons, List.map_nil, hs, hx, hr]
  exact hK _ _ (h v' w' h2 h3 h4)
end
end Go.Proofs.YtpcnfoaoajfhlaaGreatDoor
