/-
  Package run by its contracts: Run, of a text that is not too long.
  The document's Cut: a text cut at each byte.
  A session swaps, on lists: each of the sessions is played.
-/
import Derived.Test.YtpcnfoaoajfhlabGreatDoorRwbm
import Derived.Test.YtpcnfoaoajfhlabGreatDoorRwbj
import Derived.Deep.LoopGhost
namespace Go.Proofs.YtpcnfoaoajfhlabGreatDoor
set_option linter.unusedVariables false
set_option linter.unusedSimpArgs false
set_option linter.unusedVariables false
set_option linter.unusedSimpArgs false
open Go.RowKit Go.Shelf
attribute [local go_sem] Oper.semAt_some

def csN : List (List En) := List.replicate 3 []
theorem cells_append (a b : ByteArray) : Lib.byteCells (a ++ b).data.toList = Lib.byteCells a.data.toList ++ Lib.strCells b := by
  rw [Lib.strCells_eq]
  simp [Lib.byteCells, ByteArray.data_append]
theorem sess_snoc (xs : List ByteArray) (x : ByteArray) : sessO [] csN (xs ++ [x]) = sessO [] csN xs ++ (answerO (leftO [] csN xs).1 (leftO [] csN xs).2 x).1 ++ nlS := by
  rw [sessO_append]
  show _ ++ ((answerO _ _ x).1 ++ nlS ++ (⟨#[]⟩ : ByteArray)) = _
  rw [show (⟨#[]⟩ : ByteArray) = ByteArray.empty from rfl, ByteArray.append_empty, ByteArray.append_assoc]
theorem left_snoc (xs : List ByteArray) (x : ByteArray) : leftO [] csN (xs ++ [x]) = ((answerO (leftO [] csN xs).1 (leftO [] csN xs).2 x).2.1, (answerO (leftO [] csN xs).1 (leftO [] csN xs).2 x).2.2) := by
  rw [leftO_append]
  rfl
/-- what the loop carries behind some lines -/
def RnI (w : World) (N m : Nat) (pre : List LineT) (W : World) : Prop := RnJ w N m (leftO [] csN (valsL pre)).1 (leftO [] csN (valsL pre)).2 (Lib.byteCells (sessO [] csN (valsL pre)).data.toList) W
theorem KpG.b {w : World} (hn : 7 ≤ w.heap.size) (W : World) (l : Nat) (o o' : Obj) (hl : w.heap.size ≤ l) (ho : W.heap[l]? = some o) (_ : o.isCells = false) (_ : o.isWalk = false) : KpG W (W.putObj l o') := by
  have h1 := (Array.getElem?_eq_some_iff.1 ho).1
  refine (grownBy_putObj' W l o').block 1 (by omega) (fun e => ?_)
  have : 1 = l := Option.some.inj e
  omega
theorem rn_end {w : World} {N m : Nat} {l : List Deed} {cs : List (List En)} {t : ByteArray} {W : World} (h : RnJ w N m l cs (Lib.byteCells t.data.toList) W) :
    Calls Tryz.prog 14 #[.pointer (some ⟨N + 3, 0, none⟩)] W fun e W' => e = .returned (.string t) ∧ Below w.heap.size w W' ∧ ∀ (k : Nat) (o : Obj), W.heap[k]? = some o → o.isCells = false → W'.heap[k]? = some o := by
  obtain ⟨S, p, v, h1, h2, h3, h4⟩ := h.st
  have hbig := h.big
  have hI : Lib.IsBuilderF 41 5 (N + 3) (N + 3) (Lib.byteCells t.data.toList) W := by
    rcases h2.pp with rfl | rfl
    · exact .inl ⟨h2.le, v, h2.blk, h2.own, h2.ne⟩
    · exact .inr ⟨h2.le, v, h2.blk, h2.own, h2.ne⟩
  refine (Builder_String_any_k_s (N + 3) (N + 3) t.data.toList W hI (by omega)).mono ?_
  rintro e W' ⟨rfl, _, hb, hk⟩
  refine ⟨rfl, h.bel.trans (hb.mono (by have := h.le.1; omega)), fun k o ho hc => hk k o ho (fun e => ?_) (fun c fz e => by rw [e] at hc; cases hc)⟩
  obtain rfl := Option.some.inj e
  exact not_cel h2.cel.1 ho hc rfl
theorem below_put {w W : World} {l : Nat} {o' : Obj} (h : Below w.heap.size w W) (hl : w.heap.size ≤ l) : Below w.heap.size w (W.putObj l o') := by
  have hg := grownBy_putObj' W l o'
  exact h.trans ⟨hg.os, hg.tape, hg.output, hg.size, fun c hc => hg.block c (by have := h.size; omega) (fun e => by cases e; omega)⟩
theorem run_len {s : ByteArray} (hs : s.size ≤ 3000) {pre : List LineT} (hp : pre.length < (linesB s).length) : (sessO [] csN (valsL pre)).size + 400 ≤ 140737488355328 := by
  have h1 := sessO_size (valsL pre) (goodM_new 3)
  have h2 := linesB_len s
  have h3 : (valsL pre).length = pre.length := List.length_map _
  rw [h3] at h1
  have h4 : pre.length * 301 ≤ 3001 * 301 := Nat.mul_le_mul (by omega) (Nat.le_refl _)
  have h5 : (sessO [] csN (valsL pre)).size ≤ pre.length * 301 := h1
  omega
set_option maxRecDepth 100000 in
set_option maxHeartbeats 4000000 in
theorem run_short (s : ByteArray) (w : World) (hs : s.size ≤ 3000) (hg : Gl w) (hng : 7 ≤ w.heap.size) : Calls Tryz.prog 4 #[.string s] w fun e w' => e = .returned (.string (runO s)) ∧ Below w.heap.size w w' := by
  have h1 : ¬ (3000 : Int) < (s.size : Int) := by omega
  obtain ⟨mx, hmx⟩ := hg.max
  have HO : Hid (runO s = sessO [] csN (linesB s)) := by show runO s = _; rw [runO, if_neg (by omega)]; rfl
  rw [HO.out]
  refine (callsIn_wide (n := 8)).1 ?_
  refine callsIn_of_wp_marks Tryz.func4 rfl trivial ?_ rfl
  simp only [Tryz.ntmps4, List.size_toArray, List.length_cons, List.length_nil, Nat.reduceAdd, Nat.reduceSub, Array.replicate_succ, Array.replicate_zero, List.push_toArray, List.append_toArray, List.nil_append, List.cons_append]
  gi_wp2_with (first
    | (refine ⟨trivial, ?_⟩; gi_at_call 7; refine (callsIn_wide.2 (mNew_ok 3 w (by omega) (by omega))).mono ?_; rintro e w1 ⟨m, rfl, ⟨S, hm, hS⟩, hb⟩)
    | (gi_at_call 7; refine (callsIn_wide.2 (mNew_ok 3 w (by omega) (by omega))).mono ?_; rintro e w1 ⟨m, rfl, ⟨S, hm, hS⟩, hb⟩)
    | (refine ⟨trivial, ?_⟩; gi_at_call 9; refine (callsIn_wide.2 (wants_c _)).mono ?_; rintro e w' ⟨rfl, rfl⟩)
    | (gi_at_call 9; refine (callsIn_wide.2 (wants_c _)).mono ?_; rintro e w' ⟨rfl, rfl⟩)
    | (refine ⟨trivial, ?_⟩; gi_at_call 10; refine (callsIn_wide.2 (lines_c _ _)).mono ?_; rintro e w' ⟨rfl, rfl⟩)
    | (gi_at_call 10; refine (callsIn_wide.2 (lines_c _ _)).mono ?_; rintro e w' ⟨rfl, rfl⟩))
  obtain ⟨W0, hW0⟩ : ∃ W0, (((((w1.alloc (.map wantE7 7)).alloc (.cells #[.pointer (some ⟨m, 0, none⟩), .map (some w1.heap.size)] 37)).alloc (.cells #[.pointer (some ⟨w1.heap.size + 1, 0, none⟩)] 33)).alloc (.cells #[.pointer none, .slice none 0 0] 41)).alloc (.cells #[.string s] 9)) = W0 := ⟨_, rfl⟩
  have HJ : RnJ w w1.heap.size m [] csN [] W0 ∧ W0.heap.size = w1.heap.size + 5 ∧ W0.cell? ⟨w1.heap.size + 4, 0, none⟩ = some (.string s) ∧ Below w.heap.size w W0 := run_start hg hng hm hS hb hW0
  rw [hW0]
  clear hW0
  obtain ⟨HJ, hsz, hBn, hB0⟩ := HJ
  have hmx0 : W0.cell? ⟨1, 0, none⟩ = some (.int .i64 mx) := old_cellT hB0 hmx
  obtain ⟨N, hN⟩ : ∃ N, w1.heap.size = N := ⟨_, rfl⟩
  rw [hN] at HJ hsz hBn
  rw [hN]
  have HI0 : RnI w N m [] W0 := HJ
  clear hm hS hb hmx hN w1 S
  have hn0 : 7 ≤ W0.heap.size := Nat.le_trans hng hB0.size
  refine wpIn_rangeFunc_ownH rfl (by omega) (gf := 25) (lb := #[.pointer (some ⟨N + 1 + 1 + 1 + 1, 0, none⟩)]) rfl trivial (enters_of Tryz.func25 (by kernel_rfl) rfl)
    (lines_stops 7 (by omega) (N + 1 + 1 + 1 + 1) mx s hs W0 hBn hmx0) KpG.t (KpG.b hn0) (Below.refl _ _) (fun _ => rfl)
    (RnI w N m) (fun _ _ _ => False) (RnJ.own (by omega) _ _ _) (fun _ _ _ _ _ hs _ _ => hs) HI0
    (fun x a' _ => a' = { tmps := #[.string s, undef, .string ⟨#[]⟩, .pointer (some ⟨m, 0, none⟩), .nilIface, .pointer (some ⟨N + 1 + 1, 0, none⟩), .pointer (some ⟨N + 1 + 1 + 1, 0, none⟩), .string x.1, .string s, .int .i64 s.size, .bool false, .tuple #[.pointer (some ⟨m, 0, none⟩), .nilIface], .tuple #[.pointer (some ⟨m, 0, none⟩), .nilIface], .pointer (some ⟨m, 0, none⟩), .nilIface, .nilIface, .bool false, undef, undef, undef, .pointer (some ⟨m, 0, none⟩), .map (some N), .agg #[.pointer (some ⟨m, 0, none⟩), .map (some N)], .pointer (some ⟨N + 1, 0, none⟩), .string s, .func (.func 25) #[] #[.pointer (some ⟨N + 1 + 1 + 1 + 1, 0, none⟩)], .string x.1, undef, undef, undef, undef, undef, undef], defers := [] })
    (fun x a' _ X Y row hs hg hr => hs)
    ?assign ?body ?done ?stop
  case assign =>
    rintro l pre x W K hI hK
    dsimp only [encsL]
    gi_wp2
    exact hK _ _ (KeepsFrom.refl _ _) rfl hI rfl
  case body =>
    rintro l pre x a' W hl ⟨r, hr⟩ hI rfl hlt
    have HL : Hid ((sessO [] csN (valsL pre)).size + 400 ≤ 140737488355328) := run_len hs hlt
    have HI : Hid (RnI w N m pre W) := hI
    have HA := rn_answer hI x.1 x.2
    obtain ⟨A, hA⟩ : ∃ A, (answerO (leftO [] csN (valsL pre)).1 (leftO [] csN (valsL pre)).2 x.1).1 = A := ⟨_, rfl⟩
    have hA3 : A.size ≤ 300 := by rw [← hA]; exact answerO_size (leftO_good _ (goodM_new 3)) _
    rw [hA] at HA
    have HA' : Hid _ := HA
    clear HA
    have q5 := hI.bx.cell
    have h1' : 1 ≤ 8 - 1 - 1 := by omega
    have HZ : Hid ((Lib.byteCells (sessO [] csN (valsL pre)).data.toList).length + 400 ≤ 140737488355328) := by
      show _ ≤ _
      rw [Lib.byteCells_length, size_list]
      exact HL.out
    have HEnd : Hid (RnI w N m (pre ++ [x]) = RnJ w N m (answerO (leftO [] csN (valsL pre)).1 (leftO [] csN (valsL pre)).2 x.1).2.1 (answerO (leftO [] csN (valsL pre)).1 (leftO [] csN (valsL pre)).2 x.1).2.2 ((Lib.byteCells (sessO [] csN (valsL pre)).data.toList ++ Lib.strCells A) ++ [.int .u8 10])) := by
      show RnI w N m (pre ++ [x]) = _
      unfold RnI
      rw [show valsL (pre ++ [x]) = valsL pre ++ [x.1] from List.map_append, sess_snoc, left_snoc, hA, cells_append, cells_append]
      rfl
    generalize Lib.byteCells (sessO [] csN (valsL pre)).data.toList = bs at HA' HZ HEnd
    clear hI hA HL
    dsimp only
    gi_wp2_with (first
      | (refine ⟨trivial, ?_⟩; gi_at_call 12; refine (CallsIn.inRound l (callsIn_wide.2 HA'.out)).mono ?_; rintro e W1 ⟨rfl, hj1, ht1⟩; have HJ1 : Hid _ := hj1; have HT1 : Hid (RnTo N W W1) := ht1; clear hj1 ht1)
      | (gi_at_call 12; refine (CallsIn.inRound l (callsIn_wide.2 HA'.out)).mono ?_; rintro e W1 ⟨rfl, hj1, ht1⟩; have HJ1 : Hid _ := hj1; have HT1 : Hid (RnTo N W W1) := ht1; clear hj1 ht1)
      | (refine ⟨trivial, ?_⟩; gi_at_call 11; refine (CallsIn.inRound l (callsIn_wide.2 (rn_string HJ1.out A (by have := HZ.out; omega)))).mono ?_; rintro e W2 ⟨⟨u, rfl⟩, hj2, ht2⟩; have HJ2 : Hid _ := hj2; have HT2 : Hid (RnTo N W W2) := HT1.out.trans ht2; clear hj2 ht2)
      | (gi_at_call 11; refine (CallsIn.inRound l (callsIn_wide.2 (rn_string HJ1.out A (by have := HZ.out; omega)))).mono ?_; rintro e W2 ⟨⟨u, rfl⟩, hj2, ht2⟩; have HJ2 : Hid _ := hj2; have HT2 : Hid (RnTo N W W2) := HT1.out.trans ht2; clear hj2 ht2)
      | (refine ⟨trivial, ?_⟩; gi_at_call 13; refine (CallsIn.inRound l (callsIn_wide.2 (rn_byte HJ2.out 10 (by have := HZ.out; rw [List.length_append, Lib.strCells_length]; omega)))).mono ?_; rintro e W3 ⟨⟨u3, rfl⟩, hj3, ht3⟩; have HJ3 : Hid _ := hj3; have HT3 : Hid (RnTo N W W3) := HT2.out.trans ht3; clear hj3 ht3)
      | (gi_at_call 13; refine (CallsIn.inRound l (callsIn_wide.2 (rn_byte HJ2.out 10 (by have := HZ.out; rw [List.length_append, Lib.strCells_length]; omega)))).mono ?_; rintro e W3 ⟨⟨u3, rfl⟩, hj3, ht3⟩; have HJ3 : Hid _ := hj3; have HT3 : Hid (RnTo N W W3) := HT2.out.trans ht3; clear hj3 ht3))
    refine ⟨by rw [hsz]; exact HT3.out.1, HT3.out.2, ?_⟩
    rw [HEnd.out]
    exact HJ3.out
  case done =>
    rintro D ys W hD hys hI hK
    have HS := rn_end hI
    rw [hys] at HS
    have HS' : Hid _ := HS
    have HN : Hid (w.heap.size ≤ D) := by show _ ≤ _; have := hB0.size; omega
    clear HS hI
    gi_wp2_with (first | (refine ⟨trivial, ?_⟩; gi_at_call 14; refine (callsIn_wide.2 HS'.out).mono ?_; rintro e W4 ⟨rfl, hb4, hk4⟩) | (gi_at_call 14; refine (callsIn_wide.2 HS'.out).mono ?_; rintro e W4 ⟨rfl, hb4, hk4⟩))
    refine ⟨by simp, .inl ⟨_, _, rfl, run_takeDeferred (hk4 D _ hK rfl), ?_⟩⟩
    exact ⟨.string (sessO [] csN (linesB s)), by simp [results, Tryz.results4, go_sem], rfl, below_put hb4 HN.out⟩
  case stop =>
    rintro D c pre W _ _ h _
    exact h.elim
/-- Run, of whatever text -/
theorem run_c (s : ByteArray) (w : World) (hz : s.size ≤ 9223372036854775807) (hg : Gl w) (hng : 7 ≤ w.heap.size) : Calls Tryz.prog 4 #[.string s] w fun e w' => e = .returned (.string (runO s)) ∧ Below w.heap.size w w' := by
  by_cases hs : 3000 < s.size
  · exact run_long s w hs hz
  · exact run_short s w (by omega) hg hng
end Go.Proofs.YtpcnfoaoajfhlabGreatDoor

namespace Go.Proofs.YtpcnfoaoajfhlabGreatDoor
set_option linter.unusedVariables false
set_option linter.unusedSimpArgs false
open Go.RowKit

def mkB (b : List UInt8) : ByteArray := ⟨b.toArray⟩
/-- a text cut at each byte c -/
def cutS (c : UInt8) (s : ByteArray) : List ByteArray := (cutL c s.data.toList).map mkB
theorem mk_list (b : ByteArray) : mkB b.data.toList = b := rfl
theorem cutS_of {c : UInt8} {s : ByteArray} {out : List ByteArray} (h : out.map (fun b => b.data.toList) = cutL c s.data.toList) : out = cutS c s := by
  unfold cutS
  rw [← h, List.map_map]
  exact (List.map_id' out).symm
theorem extract_list (s : ByteArray) (f i : Nat) : (s.extract f i).data.toList = (s.data.toList.drop f).take (i - f) := by
  rw [Lib.extract_eq]
theorem cut_hit {c : UInt8} {L : List UInt8} {f i : Nat} (hfi : f ≤ i) (hi : L[i]? = some c) (hn : ∀ k, f ≤ k → k < i → L[k]? ≠ some c) : cutL c (L.drop f) = (L.drop f).take (i - f) :: cutL c (L.drop (i + 1)) := by
  have h1 : (L.drop f)[i - f]? = some c := by rw [List.getElem?_drop, show f + (i - f) = i by omega]; exact hi
  have h2 : ∀ k, k < i - f → (L.drop f)[k]? ≠ some c := fun k hk => by rw [List.getElem?_drop]; exact hn (f + k) (by omega) (by omega)
  rw [cutL_hit c h1 h2, List.drop_drop, show f + (i - f + 1) = i + 1 by omega]
theorem cut_miss {c : UInt8} {L : List UInt8} {f : Nat} (hn : ∀ k, f ≤ k → k < L.length → L[k]? ≠ some c) : cutL c (L.drop f) = [L.drop f] := by
  refine cutL_miss c (fun k => ?_)
  rw [List.getElem?_drop]
  by_cases hk : f + k < L.length
  · exact hn (f + k) (by omega) hk
  · rw [List.getElem?_eq_none (by omega)]
    simp
set_option maxHeartbeats 8000000 in
theorem refCut_c (s : ByteArray) (c : UInt8) (w : World) (hs : s.size ≤ 90000) :
    Calls Tryz.prog 6 #[.string s, .int .u8 (c.toNat : Nat)] w fun e w' => ∃ v, e = .returned v ∧ OwnS w.heap.size w' v (cutS c s) ∧ Below w.heap.size w w' := by
  go_enter Tryz.func6, Tryz.ntmps6
  go_wp2_with fail
  go_loopw [5, 6, 7] (fun c5 c6 c7 wr => ∃ (i f : Nat) (out : List ByteArray) (u : Value), c5 = u ∧ c6 = .int .i64 f ∧ c7 = .int .i64 i ∧ i ≤ s.size ∧ f ≤ i ∧ out.length ≤ i ∧ Hid (OwnS w.heap.size wr u out) ∧ Hid (out.map (fun b => b.data.toList) ++ cutL c (s.data.toList.drop f) = cutL c s.data.toList) ∧ Hid (∀ k, f ≤ k → k < i → s.data.toList[k]? ≠ some c) ∧ Hid (Below w.heap.size w wr)) (fun _ _ c7 _ => s.size - (intOf c7).toNat)
  case atStart => exact ⟨0, 0, [], .slice none 0 0, rfl, rfl, rfl, Nat.zero_le _, Nat.le_refl _, Nat.le_refl _, OwnS.nil _ _, rfl, fun k _ hk => absurd hk (Nat.not_lt_zero _), Below.refl _ _⟩
  case round =>
    obtain ⟨i, f, out, u, hu, rfl, rfl, hi, hfi, hol, HO, HC, HN, HB⟩ := hrel
    have hu' := hu.symm
    clear hu
    subst hu'
    have hws : w.heap.size ≤ wr.heap.size := HB.out.size
    by_cases hlt : i < s.size
    · have hlti : (i : Int) < (s.size : Int) := by omega
      have hfii : (f : Int) ≤ (i : Int) := by omega
      have hii : (i : Int) ≤ (s.size : Int) := by omega
      have HA : Hid (s.data.toList[i]? = some s[i]) := at_list s i hlt
      by_cases hc : s[i] = c
      · have hcb : ((s[i].toNat : Int) == (c.toNat : Int)) = true := by rw [hc]; simp
        have HX : Hid ((out ++ [s.extract f i]).map (fun b => b.data.toList) ++ cutL c (s.data.toList.drop (i + 1)) = cutL c s.data.toList) := by
          show _ = _
          rw [← HC.out, cut_hit hfi (by rw [HA.out, hc]) HN.out, List.map_append, List.append_assoc]
          show _ ++ ([(s.extract f i).data.toList] ++ _) = _
          rw [extract_list]
          rfl
        have HOa : Hid (OwnS w.heap.size (wr.alloc (.cells #[.string (s.extract f i)] 9)) u out) := HO.out.below ((Below.refl _ _).alloc (Nat.le_refl _) _)
        have HVa : Hid ((wr.alloc (.cells #[.string (s.extract f i)] 9)).heap[wr.heap.size]? = some (.cells #[.string (s.extract f i)] 9 (0, 0))) := alloc_at _ _ _ rfl
        have HSa : Hid (w.heap.size ≤ (wr.alloc (.cells #[.string (s.extract f i)] 9)).heap.size) := show _ ≤ _ from (by simp; omega)
        have HLa : Hid (out.length ≤ 100000) := show _ ≤ _ by omega
        have HBa : Hid (Below w.heap.size w (wr.alloc (.cells #[.string (s.extract f i)] 9))) := HB.out.alloc hws _
        clear hc
        go_wp2_with (at_builtin; refine wp_appW _ rfl _ _ rfl w.heap.size _ out (s.extract f i) rfl HOa.out _ rfl HVa.out HLa.out HSa.out ?_)
        intro va wa hown hgrow
        have HOp : Hid (OwnS w.heap.size wa va (out ++ [s.extract f i])) := hown
        have HBp : Hid (Below w.heap.size w wa) := below_grownF HBa.out (Nat.le_refl _) hgrow.out (fun c hc => OwnS.from HO.out c hc)
        clear hown hgrow HOa HVa HLa HSa HBa
        go_wp2_with fail
        go_roundw
        case rel => exact ⟨i + 1, i + 1, out ++ [s.extract f i], va, rfl, by go_num, by go_num, by omega, Nat.le_refl _, by simp; omega, HOp, HX, fun k h1 h2 => by omega, HBp⟩
        case measure => simp [intOf]; omega
      · have hcb : ((s[i].toNat : Int) == (c.toNat : Int)) = false := by
          simp only [beq_eq_false_iff_ne, ne_eq]
          intro h
          exact hc (UInt8.toNat_inj.1 (by omega))
        have HX : Hid (∀ k, f ≤ k → k < i + 1 → s.data.toList[k]? ≠ some c) := fun k h1 h2 => by
          by_cases hk : k = i
          · subst hk
            rw [HA.out]
            simpa using hc
          · exact HN.out k h1 (by omega)
        clear hc
        go_wp2_with fail
        go_roundw
        case rel => exact ⟨i + 1, f, out, u, rfl, rfl, by go_num, by omega, by omega, by omega, HO, HC, HX, HB⟩
        case measure => simp [intOf]; omega
    · obtain rfl : i = s.size := by omega
      have hlti : ¬ (s.size : Int) < (s.size : Int) := by omega
      have hfii : (f : Int) ≤ (s.size : Int) := by omega
      have HX : Hid (out ++ [s.extract f s.size] = cutS c s) := by
        refine cutS_of ?_
        rw [← HC.out, cut_miss (fun k h1 h2 => HN.out k h1 (by rw [size_list] at h2; exact h2)), List.map_append]
        show _ ++ [(s.extract f s.size).data.toList] = _
        rw [extract_dropL]
      have HOa : Hid (OwnS w.heap.size (wr.alloc (.cells #[.string (s.extract f s.size)] 9)) u out) := HO.out.below ((Below.refl _ _).alloc (Nat.le_refl _) _)
      have HVa : Hid ((wr.alloc (.cells #[.string (s.extract f s.size)] 9)).heap[wr.heap.size]? = some (.cells #[.string (s.extract f s.size)] 9 (0, 0))) := alloc_at _ _ _ rfl
      have HSa : Hid (w.heap.size ≤ (wr.alloc (.cells #[.string (s.extract f s.size)] 9)).heap.size) := show _ ≤ _ from (by simp; omega)
      have HLa : Hid (out.length ≤ 100000) := show _ ≤ _ by omega
      have HBa : Hid (Below w.heap.size w (wr.alloc (.cells #[.string (s.extract f s.size)] 9))) := HB.out.alloc hws _
      go_wp2_with (at_builtin; refine wp_appW _ rfl _ _ rfl w.heap.size _ out (s.extract f s.size) rfl HOa.out _ rfl HVa.out HLa.out HSa.out ?_)
      intro va wa hown hgrow
      have HOp : Hid (OwnS w.heap.size wa va (out ++ [s.extract f s.size])) := hown
      have HBp : Hid (Below w.heap.size w wa) := below_grownF HBa.out (Nat.le_refl _) hgrow.out (fun c hc => OwnS.from HO.out c hc)
      rw [HX.out] at HOp
      clear hown hgrow HOa HVa HLa HSa HBa
      go_wp2_with fail
      go_ret
      exact ⟨va, rfl, HOp.out, HBp.out⟩
end Go.Proofs.YtpcnfoaoajfhlabGreatDoor

namespace Go.Proofs.YtpcnfoaoajfhlabGreatDoor
set_option linter.unusedVariables false
set_option linter.unusedSimpArgs false
open Go.RowKit

/-- what is put, swapped, got, and told of a cache -/
def swT (a b k : Nat) : ByteArray := (⟨#[112, 117, 116, 32]⟩ : ByteArray) ++ digS a ++ ⟨#[32]⟩ ++ digS k ++ ⟨#[32, 122, 10, 115, 119, 97, 112, 32]⟩ ++ digS b ++ ⟨#[32]⟩ ++ digS a ++ ⟨#[10, 103, 101, 116, 32]⟩ ++ digS b ++ ⟨#[32]⟩ ++ digS k ++ ⟨#[32, 49, 10, 99, 97, 99, 104, 101, 32]⟩ ++ digS b ++ ⟨#[10]⟩
def selfT : ByteArray := ⟨#[115, 119, 97, 112, 32, 49, 32, 49, 10]⟩
def selfA : ByteArray := ⟨#[69, 114, 114, 83, 104, 97, 112, 101, 10]⟩
set_option maxRecDepth 100000 in
theorem sw_all : ∀ a, a < 3 → ∀ b, b < 3 → ∀ k, k < 8 → a ≠ b → cutS 10 (runO (swT a b k)) = [⟨#[49]⟩, ⟨#[111, 107]⟩, ⟨#[49, 45, 49, 32, 122, 32, 99, 97, 99, 104, 101, 100]⟩, digS k, ⟨#[]⟩] := by decide +kernel
theorem sw_self : runO selfT = selfA := by decide +kernel
theorem sw_dig : ∀ a, a < 8 → (digS a).size = 1 := by decide +kernel
end Go.Proofs.YtpcnfoaoajfhlabGreatDoor
