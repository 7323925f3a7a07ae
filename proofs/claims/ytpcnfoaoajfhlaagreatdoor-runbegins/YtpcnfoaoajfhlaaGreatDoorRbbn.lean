/-
  Package run by its contracts: Run, of a text that is not too long.
  merelaw3.RunBegins answers true, of whatever text, and however many lines.
  What the rows' one listed variable (errors.errorType) gives a walk, and a world in which it is so.
  What the rows' listed tables give a walk, and a world in which they are so.
  What the row's four listed variables give a walk: the table of powers, and errors.errorType.
-/
import Derived.Test.YtpcnfoaoajfhlaaGreatDoorRbbm
import Derived.Test.YtpcnfoaoajfhlaaGreatDoorRban
import Derived.ProofKit
import Derived.OpenShut
import Derived.LaidLaws
import Derived.LaidHandle
import Derived.Deep.DeepHandedRow
import Derived.Stop.Joined
import Derived.ChangeOld
import Derived.Test.YtpcnfoaoajfhlaaGreatDoorShf
import Derived.Lib.LaidTab
namespace Go.Proofs.YtpcnfoaoajfhlaaGreatDoor
set_option linter.unusedVariables false
set_option linter.unusedSimpArgs false
set_option linter.unusedVariables false
set_option linter.unusedSimpArgs false
open Go.RowKit Go.Shelf
attribute [local go_sem] Oper.semAt_some

def csN : List (List En) := List.replicate 3 []
theorem cells_append (a b : ByteArray) : Lib.byteCells (a ++ b).data.toList = Lib.byteCells a.data.toList ++ Lib.strCells b := by
  rw [Lib.strCells_eq]
  simp [Lib.byteCells, ByteArray.data_append]
theorem sess_snoc (xs : List ByteArray) (x : ByteArray) : sessO [] csN (xs ++ [x]) = sessO [] csN xs ++ (answerO (leftO [] csN xs).1 (leftO [] csN xs).2 x).1 ++ nlS := by
  rw [sessO_append]
  show _ ++ ((answerO _ _ x).1 ++ nlS ++ (⟨#[]⟩ : ByteArray)) = _
  rw [show (⟨#[]⟩ : ByteArray) = ByteArray.empty from rfl, ByteArray.append_empty, ByteArray.append_assoc]
theorem left_snoc (xs : List ByteArray) (x : ByteArray) : leftO [] csN (xs ++ [x]) = ((answerO (leftO [] csN xs).1 (leftO [] csN xs).2 x).2.1, (answerO (leftO [] csN xs).1 (leftO [] csN xs).2 x).2.2) := by
  rw [leftO_append]
  rfl
/-- what the loop carries behind some lines -/
def RnI (w : World) (N m : Nat) (pre : List LineT) (W : World) : Prop := RnJ w N m (leftO [] csN (valsL pre)).1 (leftO [] csN (valsL pre)).2 (Lib.byteCells (sessO [] csN (valsL pre)).data.toList) W
theorem KpG.b {w : World} (hn : 7 ≤ w.heap.size) (W : World) (l : Nat) (o o' : Obj) (hl : w.heap.size ≤ l) (ho : W.heap[l]? = some o) (_ : o.isCells = false) (_ : o.isWalk = false) : KpG W (W.putObj l o') := by
  have h1 := (Array.getElem?_eq_some_iff.1 ho).1
  refine (grownBy_putObj' W l o').block 1 (by omega) (fun e => ?_)
  have : 1 = l := Option.some.inj e
  omega
theorem rn_end {w : World} {N m : Nat} {l : List Deed} {cs : List (List En)} {t : ByteArray} {W : World} (h : RnJ w N m l cs (Lib.byteCells t.data.toList) W) :
    Calls Tryz.prog 84 #[.pointer (some ⟨N + 3, 0, none⟩)] W fun e W' => e = .returned (.string t) ∧ Below w.heap.size w W' ∧ ∀ (k : Nat) (o : Obj), W.heap[k]? = some o → o.isCells = false → W'.heap[k]? = some o := by
  obtain ⟨S, p, v, h1, h2, h3, h4⟩ := h.st
  have hbig := h.big
  have hI : Lib.IsBuilderF 136 5 (N + 3) (N + 3) (Lib.byteCells t.data.toList) W := by
    rcases h2.pp with rfl | rfl
    · exact .inl ⟨h2.le, v, h2.blk, h2.own, h2.ne⟩
    · exact .inr ⟨h2.le, v, h2.blk, h2.own, h2.ne⟩
  refine (Builder_String_any_k_s (N + 3) (N + 3) t.data.toList W hI (by omega)).mono ?_
  rintro e W' ⟨rfl, _, hb, hk⟩
  refine ⟨rfl, h.bel.trans (hb.mono (by have := h.le.1; omega)), fun k o ho hc => hk k o ho (fun e => ?_) (fun c fz e => by rw [e] at hc; cases hc)⟩
  obtain rfl := Option.some.inj e
  exact not_cel h2.cel.1 ho hc rfl
theorem below_put {w W : World} {l : Nat} {o' : Obj} (h : Below w.heap.size w W) (hl : w.heap.size ≤ l) : Below w.heap.size w (W.putObj l o') := by
  have hg := grownBy_putObj' W l o'
  exact h.trans ⟨hg.os, hg.tape, hg.output, hg.size, fun c hc => hg.block c (by have := h.size; omega) (fun e => by cases e; omega)⟩
theorem run_len {s : ByteArray} (hs : s.size ≤ 3000) {pre : List LineT} (hp : pre.length < (linesB s).length) : (sessO [] csN (valsL pre)).size + 400 ≤ 140737488355328 := by
  have h1 := sessO_size (valsL pre) (goodM_new 3)
  have h2 := linesB_len s
  have h3 : (valsL pre).length = pre.length := List.length_map _
  rw [h3] at h1
  have h4 : pre.length * 301 ≤ 3001 * 301 := Nat.mul_le_mul (by omega) (Nat.le_refl _)
  have h5 : (sessO [] csN (valsL pre)).size ≤ pre.length * 301 := h1
  omega
set_option maxRecDepth 100000 in
set_option maxHeartbeats 4000000 in
theorem run_short (s : ByteArray) (w : World) (hs : s.size ≤ 3000) (hg : Gl w) (hng : 7 ≤ w.heap.size) : Calls Tryz.prog 34 #[.string s] w fun e w' => e = .returned (.string (runO s)) ∧ Below w.heap.size w w' := by
  have h1 : ¬ (3000 : Int) < (s.size : Int) := by omega
  obtain ⟨mx, hmx⟩ := hg.max
  have HO : Hid (runO s = sessO [] csN (linesB s)) := by show runO s = _; rw [runO, if_neg (by omega)]; rfl
  rw [HO.out]
  refine (callsIn_wide (n := 8)).1 ?_
  refine callsIn_of_wp_marks Tryz.func34 rfl trivial ?_ rfl
  simp only [Tryz.ntmps34, List.size_toArray, List.length_cons, List.length_nil, Nat.reduceAdd, Nat.reduceSub, Array.replicate_succ, Array.replicate_zero, List.push_toArray, List.append_toArray, List.nil_append, List.cons_append]
  gi_wp2_with (first
    | (refine ⟨trivial, ?_⟩; gi_at_call 7; refine (callsIn_wide.2 (mNew_ok 3 w (by omega) (by omega))).mono ?_; rintro e w1 ⟨m, rfl, ⟨S, hm, hS⟩, hb⟩)
    | (gi_at_call 7; refine (callsIn_wide.2 (mNew_ok 3 w (by omega) (by omega))).mono ?_; rintro e w1 ⟨m, rfl, ⟨S, hm, hS⟩, hb⟩)
    | (refine ⟨trivial, ?_⟩; gi_at_call 79; refine (callsIn_wide.2 (wants_c _)).mono ?_; rintro e w' ⟨rfl, rfl⟩)
    | (gi_at_call 79; refine (callsIn_wide.2 (wants_c _)).mono ?_; rintro e w' ⟨rfl, rfl⟩)
    | (refine ⟨trivial, ?_⟩; gi_at_call 80; refine (callsIn_wide.2 (lines_c _ _)).mono ?_; rintro e w' ⟨rfl, rfl⟩)
    | (gi_at_call 80; refine (callsIn_wide.2 (lines_c _ _)).mono ?_; rintro e w' ⟨rfl, rfl⟩))
  obtain ⟨W0, hW0⟩ : ∃ W0, (((((w1.alloc (.map wantE7 7)).alloc (.cells #[.pointer (some ⟨m, 0, none⟩), .map (some w1.heap.size)] 133)).alloc (.cells #[.pointer (some ⟨w1.heap.size + 1, 0, none⟩)] 129)).alloc (.cells #[.pointer none, .slice none 0 0] 136)).alloc (.cells #[.string s] 9)) = W0 := ⟨_, rfl⟩
  have HJ : RnJ w w1.heap.size m [] csN [] W0 ∧ W0.heap.size = w1.heap.size + 5 ∧ W0.cell? ⟨w1.heap.size + 4, 0, none⟩ = some (.string s) ∧ Below w.heap.size w W0 := run_start hg hng hm hS hb hW0
  rw [hW0]
  clear hW0
  obtain ⟨HJ, hsz, hBn, hB0⟩ := HJ
  have hmx0 : W0.cell? ⟨1, 0, none⟩ = some (.int .i64 mx) := old_cellT hB0 hmx
  obtain ⟨N, hN⟩ : ∃ N, w1.heap.size = N := ⟨_, rfl⟩
  rw [hN] at HJ hsz hBn
  rw [hN]
  have HI0 : RnI w N m [] W0 := HJ
  clear hm hS hb hmx hN w1 S
  have hn0 : 7 ≤ W0.heap.size := Nat.le_trans hng hB0.size
  refine wpIn_rangeFunc_ownH rfl (by omega) (gf := 129) (lb := #[.pointer (some ⟨N + 1 + 1 + 1 + 1, 0, none⟩)]) rfl trivial (enters_of Tryz.func129 (by kernel_rfl) rfl)
    (lines_stops 7 (by omega) (N + 1 + 1 + 1 + 1) mx s hs W0 hBn hmx0) KpG.t (KpG.b hn0) (Below.refl _ _) (fun _ => rfl)
    (RnI w N m) (fun _ _ _ => False) (RnJ.own (by omega) _ _ _) (fun _ _ _ _ _ hs _ _ => hs) HI0
    (fun x a' _ => a' = { tmps := #[.string s, undef, .string ⟨#[]⟩, .pointer (some ⟨m, 0, none⟩), .nilIface, .pointer (some ⟨N + 1 + 1, 0, none⟩), .pointer (some ⟨N + 1 + 1 + 1, 0, none⟩), .string x.1, .string s, .int .i64 s.size, .bool false, .tuple #[.pointer (some ⟨m, 0, none⟩), .nilIface], .tuple #[.pointer (some ⟨m, 0, none⟩), .nilIface], .pointer (some ⟨m, 0, none⟩), .nilIface, .nilIface, .bool false, undef, undef, undef, .pointer (some ⟨m, 0, none⟩), .map (some N), .agg #[.pointer (some ⟨m, 0, none⟩), .map (some N)], .pointer (some ⟨N + 1, 0, none⟩), .string s, .func (.func 129) #[] #[.pointer (some ⟨N + 1 + 1 + 1 + 1, 0, none⟩)], .string x.1, undef, undef, undef, undef, undef, undef], defers := [] })
    (fun x a' _ X Y row hs hg hr => hs)
    ?assign ?body ?done ?stop
  case assign =>
    rintro l pre x W K hI hK
    dsimp only [encsL]
    gi_wp2
    exact hK _ _ (KeepsFrom.refl _ _) rfl hI rfl
  case body =>
    rintro l pre x a' W hl ⟨r, hr⟩ hI rfl hlt
    have HL : Hid ((sessO [] csN (valsL pre)).size + 400 ≤ 140737488355328) := run_len hs hlt
    have HI : Hid (RnI w N m pre W) := hI
    have HA := rn_answer hI x.1 x.2
    obtain ⟨A, hA⟩ : ∃ A, (answerO (leftO [] csN (valsL pre)).1 (leftO [] csN (valsL pre)).2 x.1).1 = A := ⟨_, rfl⟩
    have hA3 : A.size ≤ 300 := by rw [← hA]; exact answerO_size (leftO_good _ (goodM_new 3)) _
    rw [hA] at HA
    have HA' : Hid _ := HA
    clear HA
    have q5 := hI.bx.cell
    have h1' : 1 ≤ 8 - 1 - 1 := by omega
    have HZ : Hid ((Lib.byteCells (sessO [] csN (valsL pre)).data.toList).length + 400 ≤ 140737488355328) := by
      show _ ≤ _
      rw [Lib.byteCells_length, size_list]
      exact HL.out
    have HEnd : Hid (RnI w N m (pre ++ [x]) = RnJ w N m (answerO (leftO [] csN (valsL pre)).1 (leftO [] csN (valsL pre)).2 x.1).2.1 (answerO (leftO [] csN (valsL pre)).1 (leftO [] csN (valsL pre)).2 x.1).2.2 ((Lib.byteCells (sessO [] csN (valsL pre)).data.toList ++ Lib.strCells A) ++ [.int .u8 10])) := by
      show RnI w N m (pre ++ [x]) = _
      unfold RnI
      rw [show valsL (pre ++ [x]) = valsL pre ++ [x.1] from List.map_append, sess_snoc, left_snoc, hA, cells_append, cells_append]
      rfl
    generalize Lib.byteCells (sessO [] csN (valsL pre)).data.toList = bs at HA' HZ HEnd
    clear hI hA HL
    dsimp only
    gi_wp2_with (first
      | (refine ⟨trivial, ?_⟩; gi_at_call 82; refine (CallsIn.inRound l (callsIn_wide.2 HA'.out)).mono ?_; rintro e W1 ⟨rfl, hj1, ht1⟩; have HJ1 : Hid _ := hj1; have HT1 : Hid (RnTo N W W1) := ht1; clear hj1 ht1)
      | (gi_at_call 82; refine (CallsIn.inRound l (callsIn_wide.2 HA'.out)).mono ?_; rintro e W1 ⟨rfl, hj1, ht1⟩; have HJ1 : Hid _ := hj1; have HT1 : Hid (RnTo N W W1) := ht1; clear hj1 ht1)
      | (refine ⟨trivial, ?_⟩; gi_at_call 81; refine (CallsIn.inRound l (callsIn_wide.2 (rn_string HJ1.out A (by have := HZ.out; omega)))).mono ?_; rintro e W2 ⟨⟨u, rfl⟩, hj2, ht2⟩; have HJ2 : Hid _ := hj2; have HT2 : Hid (RnTo N W W2) := HT1.out.trans ht2; clear hj2 ht2)
      | (gi_at_call 81; refine (CallsIn.inRound l (callsIn_wide.2 (rn_string HJ1.out A (by have := HZ.out; omega)))).mono ?_; rintro e W2 ⟨⟨u, rfl⟩, hj2, ht2⟩; have HJ2 : Hid _ := hj2; have HT2 : Hid (RnTo N W W2) := HT1.out.trans ht2; clear hj2 ht2)
      | (refine ⟨trivial, ?_⟩; gi_at_call 83; refine (CallsIn.inRound l (callsIn_wide.2 (rn_byte HJ2.out 10 (by have := HZ.out; rw [List.length_append, Lib.strCells_length]; omega)))).mono ?_; rintro e W3 ⟨⟨u3, rfl⟩, hj3, ht3⟩; have HJ3 : Hid _ := hj3; have HT3 : Hid (RnTo N W W3) := HT2.out.trans ht3; clear hj3 ht3)
      | (gi_at_call 83; refine (CallsIn.inRound l (callsIn_wide.2 (rn_byte HJ2.out 10 (by have := HZ.out; rw [List.length_append, Lib.strCells_length]; omega)))).mono ?_; rintro e W3 ⟨⟨u3, rfl⟩, hj3, ht3⟩; have HJ3 : Hid _ := hj3; have HT3 : Hid (RnTo N W W3) := HT2.out.trans ht3; clear hj3 ht3))
    refine ⟨by rw [hsz]; exact HT3.out.1, HT3.out.2, ?_⟩
    rw [HEnd.out]
    exact HJ3.out
  case done =>
    rintro D ys W hD hys hI hK
    have HS := rn_end hI
    rw [hys] at HS
    have HS' : Hid _ := HS
    have HN : Hid (w.heap.size ≤ D) := by show _ ≤ _; have := hB0.size; omega
    clear HS hI
    gi_wp2_with (first | (refine ⟨trivial, ?_⟩; gi_at_call 84; refine (callsIn_wide.2 HS'.out).mono ?_; rintro e W4 ⟨rfl, hb4, hk4⟩) | (gi_at_call 84; refine (callsIn_wide.2 HS'.out).mono ?_; rintro e W4 ⟨rfl, hb4, hk4⟩))
    refine ⟨by simp, .inl ⟨_, _, rfl, run_takeDeferred (hk4 D _ hK rfl), ?_⟩⟩
    exact ⟨.string (sessO [] csN (linesB s)), by simp [results, Tryz.results34, go_sem], rfl, below_put hb4 HN.out⟩
  case stop =>
    rintro D c pre W _ _ h _
    exact h.elim
/-- Run, of whatever text -/
theorem run_c (s : ByteArray) (w : World) (hz : s.size ≤ 9223372036854775807) (hg : Gl w) (hng : 7 ≤ w.heap.size) : Calls Tryz.prog 34 #[.string s] w fun e w' => e = .returned (.string (runO s)) ∧ Below w.heap.size w w' := by
  by_cases hs : 3000 < s.size
  · exact run_long s w hs hz
  · exact run_short s w (by omega) hg hng
end Go.Proofs.YtpcnfoaoajfhlaaGreatDoor

namespace Go.Proofs.YtpcnfoaoajfhlaaGreatDoor
set_option linter.unusedVariables false
set_option linter.unusedSimpArgs false
open Go.RowKit

/-- a session, and its answers -/
def begT : ByteArray := ⟨([112, 117, 116, 32, 48, 32, 51, 32, 120, 10, 103, 101, 116, 32, 49, 32, 51, 32, 48, 10, 112, 117, 116, 32, 48, 32, 51, 32, 121, 10, 103, 101, 116, 32, 49, 32, 51, 32, 49, 10, 103, 101, 116, 32, 49, 32, 51, 32].append [50, 10, 102, 108, 121, 10, 100, 101, 108, 101, 116, 101, 32, 50, 32, 51, 10, 103, 101, 116, 32, 48, 32, 51, 32, 48, 10, 115, 101, 113, 10, 99, 97, 99, 104, 101, 32, 50, 10, 115, 119, 97, 112, 32, 48, 32, 48, 10]).toArray⟩
def begA : ByteArray := ⟨#[49, 10, 49, 45, 49, 32, 120, 10, 50, 10, 49, 45, 49, 32, 120, 32, 99, 97, 99, 104, 101, 100, 10, 50, 45, 50, 32, 121, 10, 98, 97, 100, 10, 51, 10, 50, 45, 50, 32, 121, 32, 99, 97, 99, 104, 101, 100, 10, 51, 10, 51, 10, 69, 114, 114, 83, 104, 97, 112, 101, 10]⟩
theorem beg_run : runO begT = begA := by decide +kernel
theorem runO_size (s : ByteArray) : (runO s).size ≤ 1000000 := by
  unfold runO
  split
  · show tooLongS.size ≤ 1000000
    decide
  · have h1 := sessO_size (linesB s) (goodM_new 3)
    have h2 := linesB_len s
    have h3 : (linesB s).length * 301 ≤ 3001 * 301 := Nat.mul_le_mul (by omega) (Nat.le_refl _)
    omega
theorem app_extract (a b : ByteArray) : (a ++ b).extract 0 a.size = a := by
  rw [ByteArray.extract_append_eq_left]
  rfl
set_option maxRecDepth 100000 in
set_option maxHeartbeats 16000000 in
theorem runBegins_w (t : ByteArray) (many : Int) (w : World) (ht : t.size ≤ 9223372036854775807) (hg : Gl w) (hng : 7 ≤ w.heap.size) :
    Calls Tryz.prog 6 #[.string t, .int .i64 many] w fun e w' => e = .returned (.bool true) ∧ Below w.heap.size w w' := by
  have HR : Hid (∀ (s : ByteArray) W, s.size ≤ 9223372036854775807 → Below w.heap.size w W → Calls Tryz.prog 34 #[.string s] W fun e w' => e = .returned (.string (runO s)) ∧ Below w.heap.size w w') := fun s W hs hW =>
    (run_c s W hs (hg.below hW) (Nat.le_trans hng hW.size)).mono fun e w' hx => ⟨hx.1, hW.trans (hx.2.mono hW.size)⟩
  have HF : Hid (Calls Tryz.prog 34 #[.string ⟨([112, 117, 116, 32, 48, 32, 51, 32, 120, 10, 103, 101, 116, 32, 49, 32, 51, 32, 48, 10, 112, 117, 116, 32, 48, 32, 51, 32, 121, 10, 103, 101, 116, 32, 49, 32, 51, 32, 49, 10, 103, 101, 116, 32, 49, 32, 51, 32].append [50, 10, 102, 108, 121, 10, 100, 101, 108, 101, 116, 101, 32, 50, 32, 51, 10, 103, 101, 116, 32, 48, 32, 51, 32, 48, 10, 115, 101, 113, 10, 99, 97, 99, 104, 101, 32, 50, 10, 115, 119, 97, 112, 32, 48, 32, 48, 10]).toArray⟩] w fun e w' => e = .returned (.string ⟨#[49, 10, 49, 45, 49, 32, 120, 10, 50, 10, 49, 45, 49, 32, 120, 32, 99, 97, 99, 104, 101, 100, 10, 50, 45, 50, 32, 121, 10, 98, 97, 100, 10, 51, 10, 50, 45, 50, 32, 121, 32, 99, 97, 99, 104, 101, 100, 10, 51, 10, 51, 10, 69, 114, 114, 83, 104, 97, 112, 101, 10]⟩) ∧ Below w.heap.size w w') := by
    have c := HR.out begT w (by decide) (Below.refl _ _)
    rw [beg_run] at c
    exact c
  clear hg hng
  go_enter Tryz.func6, Tryz.ntmps6
  go_wp2_with fail
  refine Calls.mono HF.out ?_
  rintro e w1 ⟨rfl, hb⟩
  have HB1 : Hid (Below w.heap.size w w1) := hb
  clear hb HF
  by_cases h3 : 3000 < t.size
  · have h3i : (3000 : Int) < (t.size : Int) := by omega
    have HT : Hid (runO t = tooLongS) := by show runO t = _; rw [runO, if_pos h3]
    go_wp2_with fail
    refine (HR.out _ _ ht HB1.out).mono ?_
    rintro e w2 ⟨rfl, hb⟩
    rw [HT.out]
    have HB2 : Hid (Below w.heap.size w w2) := hb
    clear hb
    unfold tooLongS
    go_wp2_with fail
    go_ret
    exact ⟨rfl, HB2.out⟩
  · have h3i : ¬ (3000 : Int) < (t.size : Int) := by omega
    go_upto_block 0 with fail
    go_cut [7, 8] (fun c7 c8 wd => wd = w1 ∧ ∃ k n : Nat, c7 = .int .i64 k ∧ c8 = .int .i64 n ∧ k ≤ t.size ∧ Hid (¬ (k < t.size ∧ (n : Int) < many)) ∧ Hid (many ≤ n → k = 0 ∨ ∃ j, k = j + 1 ∧ t.data.toList[j]? = some 10))
    case first =>
      go_wp2_with fail
      go_loopw [7, 8] (fun c7 c8 wr => ∃ k n : Nat, k ≤ t.size ∧ n ≤ k ∧ c7 = .int .i64 k ∧ c8 = .int .i64 n ∧ wr = w1 ∧ Hid (many ≤ n → k = 0 ∨ ∃ j, k = j + 1 ∧ t.data.toList[j]? = some 10)) (fun c _ _ => t.size - (intOf c).toNat)
      case atStart => exact ⟨0, 0, Nat.zero_le _, Nat.le_refl _, rfl, rfl, rfl, fun _ => .inl rfl⟩
      case round =>
        obtain ⟨k, n, hk, hnk, rfl, rfl, hwr, HQ⟩ := hrel
        rw [hwr]
        clear hwr wr
        by_cases hlt : k < t.size
        · have hlti : (k : Int) < (t.size : Int) := by omega
          have hltd : decide ((k : Int) < (t.size : Int)) = true := by simp; omega
          by_cases hm : (n : Int) < many
          · have hmd : decide ((n : Int) < many) = true := by simp [hm]
            have HA : Hid (t.data.toList[k]? = some t[k]) := at_list t k hlt
            by_cases h10 : t[k].toNat = 10
            · have h10b : ((t[k].toNat : Int) == 10) = true := by rw [h10]; rfl
              have HQ2 : Hid (t.data.toList[k]? = some 10) := by
                have h := HA.out
                rw [show t[k] = 10 from UInt8.toNat_inj.1 h10] at h
                exact h
              go_wp2_with fail
              go_roundw
              case rel => exact ⟨k + 1, n + 1, by omega, by omega, by go_num, by go_num, by trivial, fun _ => .inr ⟨k, rfl, HQ2.out⟩⟩
              case measure => simp [intOf]; omega
            · have h10b : ((t[k].toNat : Int) == 10) = false := by simp; omega
              have HQ2 : Hid (¬ many ≤ (n : Int)) := by show ¬ _; omega
              go_wp2_with fail
              go_roundw
              case rel => exact ⟨k + 1, n, by omega, by omega, by go_num, rfl, by trivial, fun h => absurd h HQ2.out⟩
              case measure => simp [intOf]; omega
          · have hmd : decide ((n : Int) < many) = false := by simp; omega
            have HQ3 : Hid (¬ (k < t.size ∧ (n : Int) < many)) := fun h => hm h.2
            go_wp2_with fail
            go_meet
            exact ⟨rfl, k, n, rfl, rfl, hk, HQ3, HQ⟩
        · have hlti : ¬ (k : Int) < (t.size : Int) := by omega
          have hltd : decide ((k : Int) < (t.size : Int)) = false := by simp; omega
          have HQ3 : Hid (¬ (k < t.size ∧ (n : Int) < many)) := fun h => hlt h.1
          go_wp2_with fail
          go_meet
          exact ⟨rfl, k, n, rfl, rfl, hk, HQ3, HQ⟩
    case rest =>
    obtain ⟨hwd, k, n, h7, h8, hk, HX, HQ⟩ := hcut
    rw [hwd]
    clear hwd wc
    subst h7
    subst h8
    go_upto_region 13 with fail
    go_cut [46] (fun c46 wd => wd = w1 ∧ c46 = .bool false)
    case first =>
      by_cases hlt : k < t.size
      · have hltd : decide ((k : Int) < (t.size : Int)) = true := by simp; omega
        have hmd : decide ((n : Int) < many) = false := by have := HX.out; simp; omega
        go_wp2_with fail
        go_meet
        exact ⟨rfl, rfl⟩
      · have hltd : decide ((k : Int) < (t.size : Int)) = false := by simp; omega
        go_wp2_with fail
        go_meet
        exact ⟨rfl, rfl⟩
    case rest =>
    obtain ⟨hwd, h46⟩ := hcut
    rw [hwd]
    clear hwd wc
    subst h46
    have hki : (k : Int) ≤ (t.size : Int) := by omega
    obtain ⟨r, hr⟩ := runO_part t k (by omega) hk (by
      by_cases hs : k = t.size
      · exact .inr (.inl hs)
      · have h1 : many ≤ n := by have := HX.out; omega
        rcases HQ.out h1 with h | h
        · exact .inl h
        · exact .inr (.inr h))
    have hA := runO_size (t.extract 0 k)
    have hB := runO_size t
    have hz : (t.extract 0 k).size ≤ 9223372036854775807 := by rw [ByteArray.size_extract]; omega
    obtain ⟨A, hAe⟩ : ∃ A, runO (t.extract 0 k) = A := ⟨_, rfl⟩
    obtain ⟨B, hBe⟩ : ∃ B, runO t = B := ⟨_, rfl⟩
    rw [hAe, hBe] at hr
    rw [hAe] at hA
    rw [hBe] at hB
    have HRa : Hid (Calls Tryz.prog 34 #[.string (t.extract 0 k)] w1 fun e w' => e = .returned (.string A) ∧ Below w.heap.size w w') := by
      have c := HR.out (t.extract 0 k) w1 hz HB1.out
      rw [hAe] at c
      exact c
    have HRb : Hid (∀ W, Below w.heap.size w W → Calls Tryz.prog 34 #[.string t] W fun e w' => e = .returned (.string B) ∧ Below w.heap.size w w') := fun W hW => by
      have c := HR.out t W ht hW
      rw [hBe] at c
      exact c
    have hAB : A.size ≤ B.size := by rw [hr, ByteArray.size_append]; omega
    have hABi : (A.size : Int) ≤ (B.size : Int) := by omega
    have hABd : decide ((A.size : Int) ≤ (B.size : Int)) = true := by simp; omega
    have hex : B.extract 0 A.size = A := by rw [hr]; exact app_extract A r
    clear hr hAe hBe HX HQ HR r
    go_wp2_with fail
    refine Calls.mono HRa.out ?_
    rintro e w2 ⟨rfl, hb⟩
    have HB2 : Hid (Below w.heap.size w w2) := hb
    clear hb HRa
    go_wp2_with fail
    refine (HRb.out _ HB2.out).mono ?_
    rintro e w3 ⟨rfl, hb⟩
    have HB3 : Hid (Below w.heap.size w w3) := hb
    clear hb HRb
    go_wp2_with fail
    go_ret
    exact ⟨by first | rfl | (rw [hex]; simp), HB3.out⟩
end Go.Proofs.YtpcnfoaoajfhlaaGreatDoor

namespace Go.Proofs.YtpcnfoaoajfhlaaGreatDoor
set_option linter.unusedVariables false
set_option linter.unusedSimpArgs false
open Go.ChangeShapes Go.WideShapes Go.RowKit

theorem own : ownKnob Tryz.prog.godebug = none := by kernel_rfl
theorem laidOut : laidOutB Tryz.prog = true := by kernel_rfl
theorem etG : Tryz.prog.globalNamed "errors.errorType" = some 0 := by kernel_rfl
theorem oneRow : ((List.range 322).filter fun t => Tryz.prog.rowNamed t [101, 114, 114, 111, 114]) = [26] := by kernel_rfl
theorem manyTypes : Tryz.prog.types.size = 322 := by kernel_rfl
def laidList : List (String × DataW Unit) := [("errors.errorType", Rows.laid_errors_errorType)]

theorem handle_of_laid {W : World} (h : laidMetH Tryz.prog laidList W) : HasErr W := by
  have h' : laidMet Tryz.prog [] W ∧ handlesMet Tryz.prog laidList W := h
  obtain ⟨name, u, ty, e1, e2, e3, e4, e5⟩ := h'.2 _ (List.mem_singleton.2 rfl)
  have en : name = [101, 114, 114, 111, 114] := (Option.some.inj e1).symm
  subst en
  obtain rfl : 242 = u := Option.some.inj (Eq.trans (by kernel_rfl) e2)
  have hm : ty ∈ (List.range 322).filter fun t => Tryz.prog.rowNamed t [101, 114, 114, 111, 114] := List.mem_filter.2 ⟨List.mem_range.2 (by rw [← manyTypes]; exact e3), e4⟩
  rw [oneRow] at hm
  obtain rfl := List.mem_singleton.1 hm
  have hh : typeHandle Tryz.prog 26 = .pointer (some ⟨7, 26, none⟩) := by kernel_rfl
  rw [hh] at e5
  unfold HasErr
  simpa using World.var?_cell etG e5 0

end Go.Proofs.YtpcnfoaoajfhlaaGreatDoor

namespace Go.Proofs.YtpcnfoaoajfhlaaGreatDoor
set_option linter.unusedVariables false
set_option linter.unusedSimpArgs false
open Go.ChangeShapes Go.WideShapes Go.RowKit

theorem ownT : ownKnob Tryz.prog.godebug = none := by kernel_rfl
theorem laidOutT : laidOutB Tryz.prog = true := by kernel_rfl
theorem powG : Tryz.prog.globalNamed powName = some 2 := by kernel_rfl
theorem powT : (Tryz.prog.globals[2]?).map (·.type) = some 288 := by kernel_rfl
theorem pow_data : (Rows.laid_internal_strconv_uint64pow10 : DataW Unit) = Lib.tabData .u64 Lib.pow10Tab := by kernel_rfl
theorem pow_one : Tryz.prog.cellsOf 226 = 1 := by kernel_rfl
theorem pow_all : Tryz.prog.cellsOf 288 = 20 := by kernel_rfl

theorem tab_of_met {W : World} (h : laidMet Tryz.prog Rows.topOwnersRow.laid W) : Lib.TabIs Tryz.prog W powName .u64 Lib.pow10Tab := by
  obtain ⟨ps, ⟨g1, t1, cs1, f1, p1, q1, _, _, _, _, ⟨g2, t2, cs2, f2, p2, q2, _, _, _, _, ⟨g, t, cs, fuel, p, q, hg, ht, hvar, hd, _, _⟩, _⟩, _⟩, _⟩ := h
  obtain rfl := Option.some.inj (powG.symm.trans hg)
  obtain rfl := Option.some.inj (powT.symm.trans ht)
  have hd' : DataW.trod (fun _ => ()) Tryz.prog W 0 (fun _ => true) false fuel 288 cs.toList = some (Lib.tabData (H := Unit) .u64 Lib.pow10Tab, p) := by
    rw [← pow_data]
    exact hd
  have e := Lib.cells_of_tab Tryz.underlying288 Tryz.underlying226 pow_one pow_all hd'
  have hv : W.var? Tryz.prog powName = some cs := hvar
  unfold Lib.TabIs
  rw [hv, ← e]
theorem tab_of_laid {W : World} (h : laidMetH Tryz.prog Rows.topOwnersRow.laid W) : Lib.TabIs Tryz.prog W powName .u64 Lib.pow10Tab := tab_of_met h

/-- a table's cells -/
def tabCells : DataW Unit → Array Value
  | .agg l => (l.map fun
    | .lit (.int k z) => Value.int k z
    | _ => .nilIface).toArray
  | _ => #[]
/-- a world with a table laid -/
def tabLaid (w : World) (g : Nat) (d : DataW Unit) : World := { w with heap := w.heap.modify g fun
  | .cells _ t frozen => .cells (tabCells d) t frozen
  | o => o }
/-- a world with the tables laid -/
def tabsLaid (w : World) : World := tabLaid (tabLaid (tabLaid w 5 Rows.laid_math_bits_deBruijn32tab) 6 Rows.laid_math_bits_deBruijn64tab) 2 Rows.laid_internal_strconv_uint64pow10
end Go.Proofs.YtpcnfoaoajfhlaaGreatDoor

namespace Go.Proofs.YtpcnfoaoajfhlaaGreatDoor
set_option linter.unusedVariables false
set_option linter.unusedSimpArgs false
open Go.ChangeShapes Go.WideShapes Go.RowKit

theorem tabE_of_laid {W : World} (h : laidMetH Tryz.prog Rows.meshPlaysRow.laid W) : Lib.TabIs Tryz.prog W powName .u64 Lib.pow10Tab ∧ HasErr W := by
  have h' : laidMet Tryz.prog Rows.topOwnersRow.laid W ∧ handlesMet Tryz.prog laidList W := h
  have e : laidMetH Tryz.prog laidList W := ⟨laidMet_nil _ _, h'.2⟩
  exact ⟨tab_of_met h'.1, handle_of_laid e⟩
end Go.Proofs.YtpcnfoaoajfhlaaGreatDoor
