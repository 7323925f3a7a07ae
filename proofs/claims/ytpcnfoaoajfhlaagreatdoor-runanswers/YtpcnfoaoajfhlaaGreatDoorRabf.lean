/-
  Package run by its contracts: Run, of a text that is not too long.
-/
import Derived.Test.YtpcnfoaoajfhlaaGreatDoorRabe
namespace Go.Proofs.YtpcnfoaoajfhlaaGreatDoor
set_option linter.unusedVariables false
set_option linter.unusedSimpArgs false
set_option linter.unusedVariables false
set_option linter.unusedSimpArgs false
open Go.RowKit Go.Shelf
attribute [local go_sem] Oper.semAt_some

def csN : List (List En) := List.replicate 3 []
theorem cells_append (a b : ByteArray) : Lib.byteCells (a ++ b).data.toList = Lib.byteCells a.data.toList ++ Lib.strCells b := by
  rw [Lib.strCells_eq]
  simp [Lib.byteCells, ByteArray.data_append]
theorem sess_snoc (xs : List ByteArray) (x : ByteArray) : sessO [] csN (xs ++ [x]) = sessO [] csN xs ++ (answerO (leftO [] csN xs).1 (leftO [] csN xs).2 x).1 ++ nlS := by
  rw [sessO_append]
  show _ ++ ((answerO _ _ x).1 ++ nlS ++ (⟨#[]⟩ : ByteArray)) = _
  rw [show (⟨#[]⟩ : ByteArray) = ByteArray.empty from rfl, ByteArray.append_empty, ByteArray.append_assoc]
theorem left_snoc (xs : List ByteArray) (x : ByteArray) : leftO [] csN (xs ++ [x]) = ((answerO (leftO [] csN xs).1 (leftO [] csN xs).2 x).2.1, (answerO (leftO [] csN xs).1 (leftO [] csN xs).2 x).2.2) := by
  rw [leftO_append]
  rfl
/-- what the loop carries behind some lines -/
def RnI (w : World) (N m : Nat) (pre : List LineT) (W : World) : Prop := RnJ w N m (leftO [] csN (valsL pre)).1 (leftO [] csN (valsL pre)).2 (Lib.byteCells (sessO [] csN (valsL pre)).data.toList) W
theorem KpG.b {w : World} (hn : 7 ≤ w.heap.size) (W : World) (l : Nat) (o o' : Obj) (hl : w.heap.size ≤ l) (ho : W.heap[l]? = some o) (_ : o.isCells = false) (_ : o.isWalk = false) : KpG W (W.putObj l o') := by
  have h1 := (Array.getElem?_eq_some_iff.1 ho).1
  refine (grownBy_putObj' W l o').block 1 (by omega) (fun e => ?_)
  have : 1 = l := Option.some.inj e
  omega
theorem rn_end {w : World} {N m : Nat} {l : List Deed} {cs : List (List En)} {t : ByteArray} {W : World} (h : RnJ w N m l cs (Lib.byteCells t.data.toList) W) :
    Calls Tryz.prog 84 #[.pointer (some ⟨N + 3, 0, none⟩)] W fun e W' => e = .returned (.string t) ∧ Below w.heap.size w W' ∧ ∀ (k : Nat) (o : Obj), W.heap[k]? = some o → o.isCells = false → W'.heap[k]? = some o := by
  obtain ⟨S, p, v, h1, h2, h3, h4⟩ := h.st
  have hbig := h.big
  have hI : Lib.IsBuilderF 136 5 (N + 3) (N + 3) (Lib.byteCells t.data.toList) W := by
    rcases h2.pp with rfl | rfl
    · exact .inl ⟨h2.le, v, h2.blk, h2.own, h2.ne⟩
    · exact .inr ⟨h2.le, v, h2.blk, h2.own, h2.ne⟩
  refine (Builder_String_any_k_s (N + 3) (N + 3) t.data.toList W hI (by omega)).mono ?_
  rintro e W' ⟨rfl, _, hb, hk⟩
  refine ⟨rfl, h.bel.trans (hb.mono (by have := h.le.1; omega)), fun k o ho hc => hk k o ho (fun e => ?_) (fun c fz e => by rw [e] at hc; cases hc)⟩
  obtain rfl := Option.some.inj e
  exact not_cel h2.cel.1 ho hc rfl
theorem below_put {w W : World} {l : Nat} {o' : Obj} (h : Below w.heap.size w W) (hl : w.heap.size ≤ l) : Below w.heap.size w (W.putObj l o') := by
  have hg := grownBy_putObj' W l o'
  exact h.trans ⟨hg.os, hg.tape, hg.output, hg.size, fun c hc => hg.block c (by have := h.size; omega) (fun e => by cases e; omega)⟩
theorem run_len {s : ByteArray} (hs : s.size ≤ 3000) {pre : List LineT} (hp : pre.length < (linesB s).length) : (sessO [] csN (valsL pre)).size + 400 ≤ 140737488355328 := by
  have h1 := sessO_size (valsL pre) (goodM_new 3)
  have h2 := linesB_len s
  have h3 : (valsL pre).length = pre.length := List.length_map _
  rw [h3] at h1
  have h4 : pre.length * 301 ≤ 3001 * 301 := Nat.mul_le_mul (by omega) (Nat.le_refl _)
  have h5 : (sessO [] csN (valsL pre)).size ≤ pre.length * 301 := h1
  omega
set_option maxRecDepth 100000 in
set_option maxHeartbeats 4000000 in
theorem run_short (s : ByteArray) (w : World) (hs : s.size ≤ 3000) (hg : Gl w) (hng : 7 ≤ w.heap.size) : Calls Tryz.prog 34 #[.string s] w fun e w' => e = .returned (.string (runO s)) ∧ Below w.heap.size w w' := by
  have h1 : ¬ (3000 : Int) < (s.size : Int) := by omega
  obtain ⟨mx, hmx⟩ := hg.max
  have HO : Hid (runO s = sessO [] csN (linesB s)) := by show runO s = _; rw [runO, if_neg (by omega)]; rfl
  rw [HO.out]
  refine (callsIn_wide (n := 8)).1 ?_
  refine callsIn_of_wp_marks Tryz.func34 rfl trivial ?_ rfl
  simp only [Tryz.ntmps34, List.size_toArray, List.length_cons, List.length_nil, Nat.reduceAdd, Nat.reduceSub, Array.replicate_succ, Array.replicate_zero, List.push_toArray, List.append_toArray, List.nil_append, List.cons_append]
  gi_wp2_with (first
    | (refine ⟨trivial, ?_⟩; gi_at_call 7; refine (callsIn_wide.2 (mNew_ok 3 w (by omega) (by omega))).mono ?_; rintro e w1 ⟨m, rfl, ⟨S, hm, hS⟩, hb⟩)
    | (gi_at_call 7; refine (callsIn_wide.2 (mNew_ok 3 w (by omega) (by omega))).mono ?_; rintro e w1 ⟨m, rfl, ⟨S, hm, hS⟩, hb⟩)
    | (refine ⟨trivial, ?_⟩; gi_at_call 79; refine (callsIn_wide.2 (wants_c _)).mono ?_; rintro e w' ⟨rfl, rfl⟩)
    | (gi_at_call 79; refine (callsIn_wide.2 (wants_c _)).mono ?_; rintro e w' ⟨rfl, rfl⟩)
    | (refine ⟨trivial, ?_⟩; gi_at_call 80; refine (callsIn_wide.2 (lines_c _ _)).mono ?_; rintro e w' ⟨rfl, rfl⟩)
    | (gi_at_call 80; refine (callsIn_wide.2 (lines_c _ _)).mono ?_; rintro e w' ⟨rfl, rfl⟩))
  obtain ⟨W0, hW0⟩ : ∃ W0, (((((w1.alloc (.map wantE7 7)).alloc (.cells #[.pointer (some ⟨m, 0, none⟩), .map (some w1.heap.size)] 133)).alloc (.cells #[.pointer (some ⟨w1.heap.size + 1, 0, none⟩)] 129)).alloc (.cells #[.pointer none, .slice none 0 0] 136)).alloc (.cells #[.string s] 9)) = W0 := ⟨_, rfl⟩
  have HJ : RnJ w w1.heap.size m [] csN [] W0 ∧ W0.heap.size = w1.heap.size + 5 ∧ W0.cell? ⟨w1.heap.size + 4, 0, none⟩ = some (.string s) ∧ Below w.heap.size w W0 := run_start hg hng hm hS hb hW0
  rw [hW0]
  clear hW0
  obtain ⟨HJ, hsz, hBn, hB0⟩ := HJ
  have hmx0 : W0.cell? ⟨1, 0, none⟩ = some (.int .i64 mx) := old_cellT hB0 hmx
  obtain ⟨N, hN⟩ : ∃ N, w1.heap.size = N := ⟨_, rfl⟩
  rw [hN] at HJ hsz hBn
  rw [hN]
  have HI0 : RnI w N m [] W0 := HJ
  clear hm hS hb hmx hN w1 S
  have hn0 : 7 ≤ W0.heap.size := Nat.le_trans hng hB0.size
  refine wpIn_rangeFunc_ownH rfl (by omega) (gf := 129) (lb := #[.pointer (some ⟨N + 1 + 1 + 1 + 1, 0, none⟩)]) rfl trivial (enters_of Tryz.func129 (by kernel_rfl) rfl)
    (lines_stops 7 (by omega) (N + 1 + 1 + 1 + 1) mx s hs W0 hBn hmx0) KpG.t (KpG.b hn0) (Below.refl _ _) (fun _ => rfl)
    (RnI w N m) (fun _ _ _ => False) (RnJ.own (by omega) _ _ _) (fun _ _ _ _ _ hs _ _ => hs) HI0
    (fun x a' _ => a' = { tmps := #[.string s, undef, .string ⟨#[]⟩, .pointer (some ⟨m, 0, none⟩), .nilIface, .pointer (some ⟨N + 1 + 1, 0, none⟩), .pointer (some ⟨N + 1 + 1 + 1, 0, none⟩), .string x.1, .string s, .int .i64 s.size, .bool false, .tuple #[.pointer (some ⟨m, 0, none⟩), .nilIface], .tuple #[.pointer (some ⟨m, 0, none⟩), .nilIface], .pointer (some ⟨m, 0, none⟩), .nilIface, .nilIface, .bool false, undef, undef, undef, .pointer (some ⟨m, 0, none⟩), .map (some N), .agg #[.pointer (some ⟨m, 0, none⟩), .map (some N)], .pointer (some ⟨N + 1, 0, none⟩), .string s, .func (.func 129) #[] #[.pointer (some ⟨N + 1 + 1 + 1 + 1, 0, none⟩)], .string x.1, undef, undef, undef, undef, undef, undef], defers := [] })
    (fun x a' _ X Y row hs hg hr => hs)
    ?assign ?body ?done ?stop
  case assign =>
    rintro l pre x W K hI hK
    dsimp only [encsL]
    gi_wp2
    exact hK _ _ (KeepsFrom.refl _ _) rfl hI rfl
  case body =>
    rintro l pre x a' W hl ⟨r, hr⟩ hI rfl hlt
    have HL : Hid ((sessO [] csN (valsL pre)).size + 400 ≤ 140737488355328) := run_len hs hlt
    have HI : Hid (RnI w N m pre W) := hI
    have HA := rn_answer hI x.1 x.2
    obtain ⟨A, hA⟩ : ∃ A, (answerO (leftO [] csN (valsL pre)).1 (leftO [] csN (valsL pre)).2 x.1).1 = A := ⟨_, rfl⟩
    have hA3 : A.size ≤ 300 := by rw [← hA]; exact answerO_size (leftO_good _ (goodM_new 3)) _
    rw [hA] at HA
    have HA' : Hid _ := HA
    clear HA
    have q5 := hI.bx.cell
    have h1' : 1 ≤ 8 - 1 - 1 := by omega
    have HZ : Hid ((Lib.byteCells (sessO [] csN (valsL pre)).data.toList).length + 400 ≤ 140737488355328) := by
      show _ ≤ _
      rw [Lib.byteCells_length, size_list]
      exact HL.out
    have HEnd : Hid (RnI w N m (pre ++ [x]) = RnJ w N m (answerO (leftO [] csN (valsL pre)).1 (leftO [] csN (valsL pre)).2 x.1).2.1 (answerO (leftO [] csN (valsL pre)).1 (leftO [] csN (valsL pre)).2 x.1).2.2 ((Lib.byteCells (sessO [] csN (valsL pre)).data.toList ++ Lib.strCells A) ++ [.int .u8 10])) := by
      show RnI w N m (pre ++ [x]) = _
      unfold RnI
      rw [show valsL (pre ++ [x]) = valsL pre ++ [x.1] from List.map_append, sess_snoc, left_snoc, hA, cells_append, cells_append]
      rfl
    generalize Lib.byteCells (sessO [] csN (valsL pre)).data.toList = bs at HA' HZ HEnd
    clear hI hA HL
    dsimp only
    gi_wp2_with (first
      | (refine ⟨trivial, ?_⟩; gi_at_call 82; refine (CallsIn.inRound l (callsIn_wide.2 HA'.out)).mono ?_; rintro e W1 ⟨rfl, hj1, ht1⟩; have HJ1 : Hid _ := hj1; have HT1 : Hid (RnTo N W W1) := ht1; clear hj1 ht1)
      | (gi_at_call 82; refine (CallsIn.inRound l (callsIn_wide.2 HA'.out)).mono ?_; rintro e W1 ⟨rfl, hj1, ht1⟩; have HJ1 : Hid _ := hj1; have HT1 : Hid (RnTo N W W1) := ht1; clear hj1 ht1)
      | (refine ⟨trivial, ?_⟩; gi_at_call 81; refine (CallsIn.inRound l (callsIn_wide.2 (rn_string HJ1.out A (by have := HZ.out; omega)))).mono ?_; rintro e W2 ⟨⟨u, rfl⟩, hj2, ht2⟩; have HJ2 : Hid _ := hj2; have HT2 : Hid (RnTo N W W2) := HT1.out.trans ht2; clear hj2 ht2)
      | (gi_at_call 81; refine (CallsIn.inRound l (callsIn_wide.2 (rn_string HJ1.out A (by have := HZ.out; omega)))).mono ?_; rintro e W2 ⟨⟨u, rfl⟩, hj2, ht2⟩; have HJ2 : Hid _ := hj2; have HT2 : Hid (RnTo N W W2) := HT1.out.trans ht2; clear hj2 ht2)
      | (refine ⟨trivial, ?_⟩; gi_at_call 83; refine (CallsIn.inRound l (callsIn_wide.2 (rn_byte HJ2.out 10 (by have := HZ.out; rw [List.length_append, Lib.strCells_length]; omega)))).mono ?_; rintro e W3 ⟨⟨u3, rfl⟩, hj3, ht3⟩; have HJ3 : Hid _ := hj3; have HT3 : Hid (RnTo N W W3) := HT2.out.trans ht3; clear hj3 ht3)
      | (gi_at_call 83; refine (CallsIn.inRound l (callsIn_wide.2 (rn_byte HJ2.out 10 (by have := HZ.out; rw [List.length_append, Lib.strCells_length]; omega)))).mono ?_; rintro e W3 ⟨⟨u3, rfl⟩, hj3, ht3⟩; have HJ3 : Hid _ := hj3; have HT3 : Hid (RnTo N W W3) := HT2.out.trans ht3; clear hj3 ht3))
    refine ⟨by rw [hsz]; exact HT3.out.1, HT3.out.2, ?_⟩
    rw [HEnd.out]
    exact HJ3.out
  case done =>
    rintro D ys W hD hys hI hK
    have HS := rn_end hI
    rw [hys] at HS
    have HS' : Hid _ := HS
    have HN : Hid (w.heap.size ≤ D) := by show _ ≤ _; have := hB0.size; omega
    clear HS hI
    gi_wp2_with (first | (refine ⟨trivial, ?_⟩; gi_at_call 84; refine (callsIn_wide.2 HS'.out).mono ?_; rintro e W4 ⟨rfl, hb4, hk4⟩) | (gi_at_call 84; refine (callsIn_wide.2 HS'.out).mono ?_; rintro e W4 ⟨rfl, hb4, hk4⟩))
    refine ⟨by simp, .inl ⟨_, _, rfl, run_takeDeferred (hk4 D _ hK rfl), ?_⟩⟩
    exact ⟨.string (sessO [] csN (linesB s)), by simp [results, Tryz.results34, go_sem], rfl, below_put hb4 HN.out⟩
  case stop =>
    rintro D c pre W _ _ h _
    exact h.elim
/-- Run, of whatever text -/
theorem run_c (s : ByteArray) (w : World) (hz : s.size ≤ 9223372036854775807) (hg : Gl w) (hng : 7 ≤ w.heap.size) : Calls Tryz.prog 34 #[.string s] w fun e w' => e = .returned (.string (runO s)) ∧ Below w.heap.size w w' := by
  by_cases hs : 3000 < s.size
  · exact run_long s w hs hz
  · exact run_short s w (by omega) hg hng
end Go.Proofs.YtpcnfoaoajfhlaaGreatDoor
