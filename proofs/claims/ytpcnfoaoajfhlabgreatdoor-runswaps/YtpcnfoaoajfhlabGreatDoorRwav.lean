/-
  Package mesh by its contracts: Get.
  Rows of numbers with their room; slices.Index and slices.Contains at numbers (beside the trees' rows of numbers).
-/
import Derived.Test.YtpcnfoaoajfhlabGreatDoorRwau
import Derived.Test.YtpcnfoaoajfhlabGreatDoorRwag
namespace Go.Proofs.YtpcnfoaoajfhlabGreatDoor
set_option linter.unusedVariables false
set_option linter.unusedSimpArgs false
set_option linter.unusedVariables false
set_option linter.unusedSimpArgs false
open Go.RowKit

/-- behind learn: the result's box is filled -/
theorem get_end {S : Nat → Prop} {w w1 w2 w3 : World} {m P : Nat} {l : List Deed} {cs : List (List En)} (hS : ∀ x, S x → x < w.heap.size) (hw : w.heap.size ≤ P) (hP : P < w1.heap.size) (hb : Below w.heap.size w w1) (h : MeshTo S w1 w2 m l cs) (hb2 : Below w2.heap.size w2 w3) (x0 x1 x2 x3 x4 : Value) :
    MeshTo S w (((((w3.setCell ⟨P, 0, none⟩ x0).setCell ⟨P, 1, none⟩ x1).setCell ⟨P, 2, none⟩ x2).setCell ⟨P, 3, none⟩ x3).setCell ⟨P, 4, none⟩ x4) m l cs := by
  obtain ⟨hk, S', h1, h2⟩ := h.below hb2
  have hs := hb.size
  have hk' : Kept S w w3 := (Kept.of_below (F := S) hb).trans hk (fun _ _ h => h)
  refine ⟨((((hk'.setC P 0 (.inr hw) x0).setC P 1 (.inr hw) x1).setC P 2 (.inr hw) x2).setC P 3 (.inr hw) x3).setC P 4 (.inr hw) x4, S', h1.blocks (by simp only [World.size_setCell]; exact Nat.le_refl _) (fun y hy => heap_setE _ P y (fun e => ?_) _ _ _ _ _), fun x hx => ?_⟩
  · subst e
    rcases h2 y hy with h' | h'
    · have := hS y h'
      omega
    · omega
  · rcases h2 x hx with h' | h'
    · exact .inl h'
    · exact .inr (by omega)
set_option maxHeartbeats 4000000 in
theorem mGet_bad {S : Nat → Prop} {w : World} {m : Nat} {l : List Deed} {cs : List (List En)} (h : MeshAt S w m l cs) (node key floor : Int) (hb : nodeB cs.length node = false ∨ stK key = false ∨ floor < 0 ∨ (l.length : Int) < floor) :
    Calls Tryz.prog 36 #[.pointer (some ⟨m, 0, none⟩), .int .i64 node, .int .i64 key, .int .i64 floor] w fun e w' => e = .returned (.tuple #[.agg #[.int .i64 0, .int .i64 0, .int .i64 0, .bool false, .string ⟨#[]⟩], .bool false, .iface 49 (.int .i64 1)]) ∧ Below w.heap.size w w' := by
  obtain ⟨F, b, c, h⟩ := h
  have hml := h.lt m h.sm
  have HB0 : Hid (Below w.heap.size w (w.alloc (.cells #[.int .i64 0, .int .i64 0, .int .i64 0, .bool false, .string ⟨#[]⟩] 92))) := (Below.refl _ _).alloc (Nat.le_refl _) _
  have HM : Hid (Mc S F (w.alloc (.cells #[.int .i64 0, .int .i64 0, .int .i64 0, .bool false, .string ⟨#[]⟩] 92)) m b c l cs) := h.blocks HB0.out.size (fun x hx => HB0.out.block x (h.lt x hx))
  have c0 := h.c0
  have HS : Hid (StoreIs (w.alloc (.cells #[.int .i64 0, .int .i64 0, .int .i64 0, .bool false, .string ⟨#[]⟩] 92)) b l F) := HM.out.st
  have HC1 : Hid ((w.alloc (.cells #[.int .i64 0, .int .i64 0, .int .i64 0, .bool false, .string ⟨#[]⟩] 92)).cell? ⟨m, 1, none⟩ = some (.slice (some ⟨c, 0, none⟩) cs.length cs.length)) := HM.out.c1
  clear h HM
  cases hn : nodeB cs.length node
  · have HN : Hid (nodeB cs.length node = false) := hn
    clear hn hb
    go_enter Tryz.func36, Tryz.ntmps36
    go_wp2_with (go_at_call 58; refine (isNode_b HN.out _ HC1.out).mono ?_; rintro e w' ⟨rfl, hw⟩; rw [hw]; clear hw w')
    refine bodyPost_ret (v := .tuple #[.agg #[.int .i64 0, .int .i64 0, .int .i64 0, .bool false, .string ⟨#[]⟩], .bool false, .iface 49 (.int .i64 1)]) (by simp [results, Tryz.results36, go_sem]) rfl ?_
    exact ⟨rfl, by go_grown⟩
  · have HN : Hid (nodeB cs.length node = true) := hn
    rw [hn] at hb
    replace hb := hb.resolve_left (by simp)
    clear hn
    cases hk : stK key
    · have HK : Hid (stK key = false) := hk
      clear hk hb
      go_enter Tryz.func36, Tryz.ntmps36
      go_wp2_with (first | (go_at_call 58; refine (isNode_b HN.out _ HC1.out).mono ?_; rintro e w' ⟨rfl, hw⟩; rw [hw]; clear hw w') | (go_at_call 59; refine (mKey_b HK.out _).mono ?_; rintro e w' ⟨rfl, hw⟩; rw [hw]; clear hw w'))
      refine bodyPost_ret (v := .tuple #[.agg #[.int .i64 0, .int .i64 0, .int .i64 0, .bool false, .string ⟨#[]⟩], .bool false, .iface 49 (.int .i64 1)]) (by simp [results, Tryz.results36, go_sem]) rfl ?_
      exact ⟨rfl, by go_grown⟩
    · have HK : Hid (stK key = true) := hk
      rw [hk] at hb
      replace hb := hb.resolve_left (by simp)
      clear hk
      by_cases hf : floor < 0
      · have hd : decide (floor < 0) = true := by simpa using hf
        clear hb
        go_enter Tryz.func36, Tryz.ntmps36
        go_wp2_with (first | (go_at_call 58; refine (isNode_b HN.out _ HC1.out).mono ?_; rintro e w' ⟨rfl, hw⟩; rw [hw]; clear hw w') | (go_at_call 59; refine (mKey_b HK.out _).mono ?_; rintro e w' ⟨rfl, hw⟩; rw [hw]; clear hw w'))
        refine bodyPost_ret (v := .tuple #[.agg #[.int .i64 0, .int .i64 0, .int .i64 0, .bool false, .string ⟨#[]⟩], .bool false, .iface 49 (.int .i64 1)]) (by simp [results, Tryz.results36, go_sem]) rfl ?_
        exact ⟨rfl, by go_grown⟩
      · have hd : decide (floor < 0) = false := by simpa using hf
        have hl2 := hb.resolve_left hf
        have hd2 : decide ((l.length : Int) < floor) = true := by simpa using hl2
        clear hb
        go_enter Tryz.func36, Tryz.ntmps36
        go_wp2_with (first | (go_at_call 58; refine (isNode_b HN.out _ HC1.out).mono ?_; rintro e w' ⟨rfl, hw⟩; rw [hw]; clear hw w') | (go_at_call 59; refine (mKey_b HK.out _).mono ?_; rintro e w' ⟨rfl, hw⟩; rw [hw]; clear hw w') | (go_at_call 60; refine (seq_c b l F _ HS.out).mono ?_; rintro e w' ⟨rfl, hw⟩; rw [hw]; clear hw w'))
        refine bodyPost_ret (v := .tuple #[.agg #[.int .i64 0, .int .i64 0, .int .i64 0, .bool false, .string ⟨#[]⟩], .bool false, .iface 49 (.int .i64 1)]) (by simp [results, Tryz.results36, go_sem]) rfl ?_
        exact ⟨rfl, by go_grown⟩
set_option maxHeartbeats 8000000 in
theorem mGet_own {S : Nat → Prop} {w : World} {m : Nat} {l : List Deed} {cs : List (List En)} (h : MeshAt S w m l cs) (hG : GoodM l cs) (node key floor : Int) (hn : nodeB cs.length node = true) (hk : stK key = true) (h0 : 0 ≤ floor) (h1 : floor ≤ l.length) {x0 x1 x2 : Int} {x3 : Bool} {x4 : ByteArray} (hg : getE (cacheN cs node) key = some ⟨x0, x1, x2, x3, x4⟩) (hf : floor ≤ x2) :
    Calls Tryz.prog 36 #[.pointer (some ⟨m, 0, none⟩), .int .i64 node, .int .i64 key, .int .i64 floor] w fun e w' => e = .returned (.tuple #[.agg #[.int .i64 x0, .int .i64 x1, .int .i64 x2, .bool x3, .string x4], .bool true, .nilIface]) ∧ Below w.heap.size w w' := by
  obtain ⟨F, b, c, h⟩ := h
  obtain ⟨i, rfl, hi⟩ := node_nat hn
  rw [cacheN_at hi] at hg
  have HFr : Hid (freshGet cs[i] key floor = (⟨x0, x1, x2, x3, x4⟩, 0)) := fresh_some (hG.all cs[i] (List.getElem_mem hi)).good hk h0 (by have := hG.len; omega) hg hf
  obtain ⟨v, hv, hr, _⟩ := h.rows i hi
  have hml := h.lt m h.sm
  have hcl := h.lt c h.sc
  have HB0 : Hid (Below w.heap.size w (w.alloc (.cells #[.int .i64 0, .int .i64 0, .int .i64 0, .bool false, .string ⟨#[]⟩] 92))) := (Below.refl _ _).alloc (Nat.le_refl _) _
  have HM : Hid (Mc S F (w.alloc (.cells #[.int .i64 0, .int .i64 0, .int .i64 0, .bool false, .string ⟨#[]⟩] 92)) m b c l cs) := h.blocks HB0.out.size (fun x hx => HB0.out.block x (h.lt x hx))
  have c0 := h.c0
  have c1 := h.c1
  have HR : Hid (RowIs (w.alloc (.cells #[.int .i64 0, .int .i64 0, .int .i64 0, .bool false, .string ⟨#[]⟩] 92)) v cs[i]) := hr.below HB0.out
  have HS : Hid (StoreIs (w.alloc (.cells #[.int .i64 0, .int .i64 0, .int .i64 0, .bool false, .string ⟨#[]⟩] 92)) b l F) := HM.out.st
  have HC1 : Hid ((w.alloc (.cells #[.int .i64 0, .int .i64 0, .int .i64 0, .bool false, .string ⟨#[]⟩] 92)).cell? ⟨m, 1, none⟩ = some (.slice (some ⟨c, 0, none⟩) cs.length cs.length)) := HM.out.c1
  have HN : Hid (nodeB cs.length (i : Int) = true) := hn
  have HK : Hid (stK key = true) := hk
  have hd : decide (floor < 0) = false := by simp; omega
  have hd2 : decide ((l.length : Int) < floor) = false := by simp; omega
  have hi2 : (i : Int) < (cs.length : Int) := by omega
  have X0 : Hid (BoxAt (w.alloc (.cells #[.int .i64 0, .int .i64 0, .int .i64 0, .bool false, .string ⟨#[]⟩] 92)) w.heap.size 0 0 0 false ⟨#[]⟩) := box_new w 0 0 0 false ⟨#[]⟩ _ rfl
  generalize cs[i] = y at HFr HR
  clear h HM hn hk h0 h1 hg hf hr hG hi
  go_enter Tryz.func36, Tryz.ntmps36
  go_wp2_with (first | (go_at_call 58; refine (isNode_b HN.out _ HC1.out).mono ?_; rintro e w' ⟨rfl, hw⟩; rw [hw]; clear hw w') | (go_at_call 59; refine (mKey_b HK.out _).mono ?_; rintro e w' ⟨rfl, hw⟩; rw [hw]; clear hw w') | (go_at_call 60; refine (seq_c b l F _ HS.out).mono ?_; rintro e w' ⟨rfl, hw⟩; rw [hw]; clear hw w'))
  refine (freshGet_o HFr.out _ _ HR.out).mono ?_
  rintro e w1 ⟨rfl, hb⟩
  rw [eV_zeroN]
  have B1 : Hid (Below w.heap.size w w1) := HB0.out.trans (hb.mono (by simp))
  have X1 : Hid (BoxAt w1 w.heap.size 0 0 0 false ⟨#[]⟩) := X0.out.below hb X0.out.lt
  have p1 : ¬ w.heap.size = w1.heap.size := by have := hb.size; simp at this; omega
  clear hb hv c0 c1 X0 HB0
  go_upto_region 5 with fail
  obtain ⟨w2, HW2⟩ : ∃ w2, w2 = w1.alloc (.cells #[.int .i64 x0, .int .i64 x1, .int .i64 x2, .bool x3, .string x4] 92) := ⟨_, rfl⟩
  rw [← HW2]
  have B2 : Hid (Below w.heap.size w w2) := by rw [HW2]; exact B1.out.alloc B1.out.size _
  have E2 : Hid (BoxAt w2 w.heap.size 0 0 0 false ⟨#[]⟩) := by rw [HW2]; exact X1.out.alloc _
  have F2 : Hid (BoxAt w2 w1.heap.size x0 x1 x2 x3 x4) := by rw [HW2]; exact box_new w1 x0 x1 x2 x3 x4 _ rfl
  clear HW2 B1 X1
  obtain ⟨e0, e1, e2, e3, e4, ef⟩ := E2.out
  obtain ⟨f0, f1, f2, f3, f4, ff⟩ := F2.out
  obtain ⟨z0, z1, z2, z3, z4, zf⟩ := (E2.out.set x0 x1 x2 x3 x4)
  go_wp2_with fail
  refine bodyPost_ret (v := .tuple #[.agg #[.int .i64 x0, .int .i64 x1, .int .i64 x2, .bool x3, .string x4], .bool true, .nilIface]) (by simp [results, Tryz.results36, go_sem, z0, z1, z2, z3, z4]) rfl ?_
  refine ⟨rfl, ?_⟩
  have hle := B2.out.size
  have hb := B2.out
  go_grown
set_option maxHeartbeats 8000000 in
theorem mGet_learn {S : Nat → Prop} {w : World} {m : Nat} {l : List Deed} {cs : List (List En)} (h : MeshAt S w m l cs) (hG : GoodM l cs) (node key floor : Int) (hn : nodeB cs.length node = true) (hk : stK key = true) (h0 : 0 ≤ floor) (h1 : floor ≤ l.length) {x0 x1 x2 : Int} {x3 : Bool} {x4 : ByteArray} (hg : ∀ x, getE (cacheN cs node) key = some x → x.a < floor) (hx : wasE l key l.length = ⟨x0, x1, x2, x3, x4⟩) :
    Calls Tryz.prog 36 #[.pointer (some ⟨m, 0, none⟩), .int .i64 node, .int .i64 key, .int .i64 floor] w fun e w' => e = .returned (.tuple #[.agg #[.int .i64 x0, .int .i64 x1, .int .i64 x2, .bool x3, .string x4], .bool false, .nilIface]) ∧ MeshTo S w w' m l (learnM l cs node key) := by
  obtain ⟨F, b, c, h⟩ := h
  obtain ⟨i, rfl, hi⟩ := node_nat hn
  rw [cacheN_at hi] at hg
  obtain ⟨ne, hne, hfr⟩ := fresh_other (hG.all cs[i] (List.getElem_mem hi)).good hk h0 (by have := hG.len; omega) hg
  have HFr : Hid (freshGet cs[i] key floor = (⟨0, 0, 0, false, ⟨#[]⟩⟩, ne)) := hfr
  have HNe : Hid (eV ne = .iface 49 (.int .i64 ne)) := eV_errN hne
  obtain ⟨v, hv, hr, _⟩ := h.rows i hi
  have hml := h.lt m h.sm
  have hcl := h.lt c h.sc
  have HB0 : Hid (Below w.heap.size w (w.alloc (.cells #[.int .i64 0, .int .i64 0, .int .i64 0, .bool false, .string ⟨#[]⟩] 92))) := (Below.refl _ _).alloc (Nat.le_refl _) _
  have HMw : Hid (Mc S F w m b c l cs) := h
  have HM : Hid (Mc S F (w.alloc (.cells #[.int .i64 0, .int .i64 0, .int .i64 0, .bool false, .string ⟨#[]⟩] 92)) m b c l cs) := h.blocks HB0.out.size (fun x hx => HB0.out.block x (h.lt x hx))
  have HG : Hid (GoodM l cs) := hG
  have HI : Hid (i < cs.length) := hi
  have HX : Hid (wasE l key l.length = ⟨x0, x1, x2, x3, x4⟩) := hx
  have c0 := h.c0
  have c1 := h.c1
  have HR : Hid (RowIs (w.alloc (.cells #[.int .i64 0, .int .i64 0, .int .i64 0, .bool false, .string ⟨#[]⟩] 92)) v cs[i]) := hr.below HB0.out
  have HC1 : Hid ((w.alloc (.cells #[.int .i64 0, .int .i64 0, .int .i64 0, .bool false, .string ⟨#[]⟩] 92)).cell? ⟨m, 1, none⟩ = some (.slice (some ⟨c, 0, none⟩) cs.length cs.length)) := HM.out.c1
  have HN : Hid (nodeB cs.length (i : Int) = true) := hn
  have HK : Hid (stK key = true) := hk
  have hd : decide (floor < 0) = false := by simp; omega
  have hd2 : decide ((l.length : Int) < floor) = false := by simp; omega
  have hi2 : (i : Int) < (cs.length : Int) := by omega
  have X0 : Hid (BoxAt (w.alloc (.cells #[.int .i64 0, .int .i64 0, .int .i64 0, .bool false, .string ⟨#[]⟩] 92)) w.heap.size 0 0 0 false ⟨#[]⟩) := box_new w 0 0 0 false ⟨#[]⟩ _ rfl
  generalize cs[i] = y at HFr HR
  clear h hn hk h0 h1 hg hr hG hi hx hne hfr
  go_enter Tryz.func36, Tryz.ntmps36
  go_wp2_with (first | (go_at_call 58; refine (isNode_b HN.out _ HC1.out).mono ?_; rintro e w' ⟨rfl, hw⟩; rw [hw]; clear hw w') | (go_at_call 59; refine (mKey_b HK.out _).mono ?_; rintro e w' ⟨rfl, hw⟩; rw [hw]; clear hw w') | (go_at_call 60; refine (seq_c b l F _ HM.out.st).mono ?_; rintro e w' ⟨rfl, hw⟩; rw [hw]; clear hw w'))
  refine (freshGet_o HFr.out _ _ HR.out).mono ?_
  rintro e w1 ⟨rfl, hb⟩
  rw [HNe.out]
  have B1 : Hid (Below w.heap.size w (w1.alloc (.cells #[.int .i64 0, .int .i64 0, .int .i64 0, .bool false, .string ⟨#[]⟩] 92))) := (HB0.out.trans (hb.mono (by simp))).alloc (by have := hb.size; simp at this; omega) _
  have X1 : Hid (BoxAt (w1.alloc (.cells #[.int .i64 0, .int .i64 0, .int .i64 0, .bool false, .string ⟨#[]⟩] 92)) w.heap.size 0 0 0 false ⟨#[]⟩) := (X0.out.below hb X0.out.lt).alloc _
  clear hb hv c0 c1 X0 HB0 HM
  go_upto_region 6 with fail
  obtain ⟨w2, HW2⟩ : ∃ w2, w2 = w1.alloc (.cells #[.int .i64 0, .int .i64 0, .int .i64 0, .bool false, .string ⟨#[]⟩] 92) := ⟨_, rfl⟩
  obtain ⟨P, HP⟩ : ∃ z, Hid (z = w.heap.size) := ⟨_, rfl⟩
  rw [← HW2] at B1 X1
  rw [← HP.out] at X1
  rw [← HW2, ← HP.out]
  clear HW2
  have M2 : Hid (Mc S F w2 m b c l cs) := HMw.out.blocks B1.out.size (fun z hz => B1.out.block z (HMw.out.lt z hz))
  go_wp2_with fail
  refine (learn_c M2.out HG.out i HI.out HK.out HX.out).mono ?_
  rintro e w3 ⟨rfl, hto⟩
  have T3 : Hid (MeshTo S w2 w3 m l (learnM l cs i key)) := hto
  have hPlt := X1.out.lt
  have X3 : Hid (BoxAt w3 P 0 0 0 false ⟨#[]⟩) := X1.out.of_block (hto.1.block P hPlt (fun hs => by have h1 := HMw.out.lt P hs; have h2 := HP.out; omega))
  clear hto
  have hsz3 := T3.out.1.size
  go_upto_region 7 with fail
  have X4 : Hid (BoxAt (w3.alloc (.cells #[.int .i64 x0, .int .i64 x1, .int .i64 x2, .bool x3, .string x4] 92)) P 0 0 0 false ⟨#[]⟩) := X3.out.alloc _
  have Y4 : Hid (BoxAt (w3.alloc (.cells #[.int .i64 x0, .int .i64 x1, .int .i64 x2, .bool x3, .string x4] 92)) w3.heap.size x0 x1 x2 x3 x4) := box_new w3 x0 x1 x2 x3 x4 _ rfl
  have hEnd : Hid (MeshTo S w ((((((w3.alloc (.cells #[.int .i64 x0, .int .i64 x1, .int .i64 x2, .bool x3, .string x4] 92)).setCell ⟨P, 0, none⟩ (.int .i64 x0)).setCell ⟨P, 1, none⟩ (.int .i64 x1)).setCell ⟨P, 2, none⟩ (.int .i64 x2)).setCell ⟨P, 3, none⟩ (.bool x3)).setCell ⟨P, 4, none⟩ (.string x4)) m l (learnM l cs i key)) :=
    get_end HMw.out.lt (by have := HP.out; omega) hPlt B1.out T3.out ((Below.refl _ _).alloc (Nat.le_refl _) _) _ _ _ _ _
  obtain ⟨w4, HW4⟩ : ∃ z, z = w3.alloc (.cells #[.int .i64 x0, .int .i64 x1, .int .i64 x2, .bool x3, .string x4] 92) := ⟨_, rfl⟩
  obtain ⟨Y, HY⟩ : ∃ z, z = w3.heap.size := ⟨_, rfl⟩
  rw [← HW4] at X4 Y4 hEnd
  rw [← HY] at Y4
  rw [← HW4, ← HY]
  clear HW4 HY X3 B1 X1 M2 T3 hsz3
  obtain ⟨z0, z1, z2, z3, z4, zf⟩ := (X4.out.set x0 x1 x2 x3 x4)
  obtain ⟨y0, y1, y2, y3, y4, yf⟩ := Y4.out
  obtain ⟨e0, e1, e2, e3, e4, ef⟩ := X4.out
  go_wp2_with fail
  refine bodyPost_ret (v := .tuple #[.agg #[.int .i64 x0, .int .i64 x1, .int .i64 x2, .bool x3, .string x4], .bool false, .nilIface]) (by simp [results, Tryz.results36, go_sem, z0, z1, z2, z3, z4]) rfl ?_
  exact ⟨rfl, hEnd.out⟩
/-- Get, with letters -/
theorem mGet_o {S : Nat → Prop} {w : World} {m : Nat} {l : List Deed} {cs cs' : List (List En)} (h : MeshAt S w m l cs) (hG : GoodM l cs) {node key floor x0 x1 x2 n : Int} {x3 had : Bool} {x4 : ByteArray} (hx : mGet l cs node key floor = (cs', ⟨x0, x1, x2, x3, x4⟩, had, n)) :
    Calls Tryz.prog 36 #[.pointer (some ⟨m, 0, none⟩), .int .i64 node, .int .i64 key, .int .i64 floor] w fun e w' => e = .returned (.tuple #[.agg #[.int .i64 x0, .int .i64 x1, .int .i64 x2, .bool x3, .string x4], .bool had, eV n]) ∧ MeshTo S w w' m l cs' := by
  by_cases hb : nodeB cs.length node = false ∨ stK key = false ∨ floor < 0 ∨ (l.length : Int) < floor
  · rw [mGet, if_pos hb] at hx
    injection hx with e1 hx
    injection hx with e2 hx
    injection hx with e3 e4
    injection e2 with a0 a1 a2 a3 a4
    subst e1 e3 e4 a0 a1 a2 a3 a4
    refine (mGet_bad h node key floor hb).mono ?_
    rintro e w' ⟨rfl, hw⟩
    exact ⟨by rw [eV_errN (by omega)], h.to hw⟩
  · rw [mGet, if_neg hb] at hx
    have hn : nodeB cs.length node = true := by
      cases hq : nodeB cs.length node
      · exact absurd (.inl hq) hb
      · rfl
    have hk : stK key = true := by
      cases hq : stK key
      · exact absurd (.inr (.inl hq)) hb
      · rfl
    have h0 : 0 ≤ floor := by
      rcases Int.lt_or_le floor 0 with h' | h'
      · exact absurd (.inr (.inr (.inl h'))) hb
      · exact h'
    have h1 : floor ≤ l.length := by
      rcases Int.lt_or_le l.length floor with h' | h'
      · exact absurd (.inr (.inr (.inr h'))) hb
      · exact h'
    have other : (∀ x, getE (cacheN cs node) key = some x → x.a < floor) → ((learnM l cs node key, wasE l key l.length, false, (0 : Int)) = (cs', (⟨x0, x1, x2, x3, x4⟩ : En), had, n)) → Calls Tryz.prog 36 #[.pointer (some ⟨m, 0, none⟩), .int .i64 node, .int .i64 key, .int .i64 floor] w fun e w' => e = .returned (.tuple #[.agg #[.int .i64 x0, .int .i64 x1, .int .i64 x2, .bool x3, .string x4], .bool had, eV n]) ∧ MeshTo S w w' m l cs' := by
      intro hg he
      injection he with e1 he
      injection he with e2 he
      injection he with e3 e4
      subst e1 e3 e4
      refine (mGet_learn h hG node key floor hn hk h0 h1 hg e2).mono ?_
      rintro e w' ⟨rfl, hw⟩
      exact ⟨by rw [eV_zeroN], hw⟩
    cases hg : getE (cacheN cs node) key with
    | none =>
      rw [hg] at hx
      exact other (fun x hx' => by rw [hg] at hx'; cases hx') hx
    | some x =>
      rw [hg] at hx
      dsimp only at hx
      by_cases hf : floor ≤ x.a
      · rw [if_pos hf] at hx
        injection hx with e1 hx
        injection hx with e2 hx
        injection hx with e3 e4
        subst e1 e2 e3 e4
        refine (mGet_own h hG node key floor hn hk h0 h1 hg hf).mono ?_
        rintro e w' ⟨rfl, hw⟩
        exact ⟨by rw [eV_zeroN], h.to hw⟩
      · rw [if_neg hf] at hx
        exact other (fun y hy => by rw [hg] at hy; obtain rfl := Option.some.inj hy; omega) hx
end Go.Proofs.YtpcnfoaoajfhlabGreatDoor

namespace Go.Proofs.YtpcnfoaoajfhlabGreatDoor
set_option linter.unusedVariables false
set_option linter.unusedSimpArgs false
open Go.RowKit

theorem eV_zero : eV 0 = .nilIface := by rw [eV, if_pos rfl]
theorem eV_err {n : Int} (h : n ≠ 0) : eV n = .iface 49 (.int .i64 n) := by rw [eV, if_neg h]
/-- a slice's room is not less than its length -/
def CapOk (v : Value) (n : Nat) : Prop := ∃ p c, v = .slice p n c ∧ n ≤ c ∧ c ≤ maxLen
theorem CapOk.nil : CapOk (.slice none 0 0) 0 := ⟨none, 0, rfl, Nat.le_refl _, by unfold maxLen; omega⟩
theorem OwnI.cap {B : Nat} {w : World} {v : Value} {l : List Int} (h : OwnI B w v l) : CapOk v l.length := by
  rcases h.2 with ⟨rfl, h0⟩ | ⟨g, cap, cur, rfl, _, _, hc1, hc2, _⟩
  · rw [h0]
    exact CapOk.nil
  · exact ⟨_, cap, rfl, hc1, hc2⟩

theorem hasD_hit {a : List Int} {x : Int} {j : Nat} (h : j < a.length) (hx : a[j] = x) : (a.drop j).contains x = true := by
  rw [List.drop_eq_getElem_cons h, List.contains_cons, hx]
  simp
theorem hasD_miss {a : List Int} {x : Int} {j : Nat} (h : j < a.length) (hx : ¬ a[j] = x) : (a.drop j).contains x = (a.drop (j + 1)).contains x := by
  rw [List.drop_eq_getElem_cons h, List.contains_cons]
  have : (x == a[j]) = false := by simp; exact fun h => hx h.symm
  rw [this, Bool.false_or]
set_option maxHeartbeats 4000000 in
theorem indexI_c (va : Value) (a : List Int) (x : Int) (w : World) (hra : IntsIs w va a) :
    Calls Tryz.prog 121 #[va, .int .i64 x] w fun e w' => ∃ k : Int, e = .returned (.int .i64 k) ∧ Hid (a.contains x = decide (0 ≤ k)) ∧ w' = w := by
  obtain ⟨hla, pa, capa, rfl, hrowa⟩ := hra
  have HRA : Hid (a ≠ [] → ∃ bb o, pa = some ⟨bb, o, none⟩ ∧ bb < w.heap.size ∧ ∀ j (h : j < a.length), w.cell? ⟨bb, o + j, none⟩ = some (.int .i64 a[j])) := hrowa
  clear hrowa
  obtain ⟨n, HN⟩ : ∃ n, Hid (a.length = n) := ⟨_, rfl⟩
  rw [HN.out] at hla ⊢
  have hn63 : n ≤ 9223372036854775807 := hla
  obtain ⟨R, HR⟩ : ∃ R, Hid (a.contains x = R) := ⟨_, rfl⟩
  rw [HR.out]
  go_enter Tryz.func121, Tryz.ntmps121
  go_wp2_with fail
  go_loopw [8] (fun i wr => ∃ j : Nat, j ≤ n ∧ i = .int .i64 j ∧ Hid (R = (a.drop j).contains x) ∧ wr = w) (fun i _ => n - (intOf i).toNat)
  case atStart => exact ⟨0, Nat.zero_le _, rfl, by rw [List.drop_zero]; exact HR.out.symm, rfl⟩
  case round =>
    obtain ⟨j, hj, rfl, HE, rfl⟩ := hrel
    by_cases hlt : j < n
    · have hja : j < a.length := by rw [HN.out]; exact hlt
      obtain ⟨ba, oa, rfl, hbwa, hata⟩ := HRA.out (fun h => by simp [h] at hja)
      have c0 := hata j hja
      clear hata
      have HHit : Hid (a[j] = x → R = true) := fun h => HE.out.trans (hasD_hit hja h)
      have HMiss : Hid (¬ a[j] = x → R = (a.drop (j + 1)).contains x) := fun h => HE.out.trans (hasD_miss hja h)
      obtain ⟨y, HY⟩ : ∃ y, Hid (a[j] = y) := ⟨a[j], show a[j] = a[j] from rfl⟩
      rw [HY.out] at c0 HHit HMiss
      have hlti : (j : Int) < (n : Int) := by omega
      by_cases hs : y = x
      · have HRt : Hid (R = true) := HHit.out hs
        have hxb : (x == y) = true := by simp [hs]
        clear hs
        go_wp2_with fail
        go_ret
        refine ⟨(j : Int), rfl, ?_, rfl⟩
        show R = _
        rw [HRt.out]
        simp
      · have HRt : Hid (R = (a.drop (j + 1)).contains x) := HMiss.out hs
        have hxb : (x == y) = false := by simp; exact fun h => hs h.symm
        clear hs
        go_wp2_with fail
        go_roundw
        case rel => exact ⟨j + 1, by omega, by go_num, HRt, trivial⟩
        case measure => simp [intOf]; omega
    · obtain rfl : j = n := by omega
      have HR0 : Hid (R = false) := by
        show R = false
        rw [HE.out, List.drop_eq_nil_of_le (by rw [HN.out]; exact Nat.le_refl _)]
        rfl
      go_wp2_with fail
      go_ret
      refine ⟨-1, rfl, ?_, rfl⟩
      show R = _
      rw [HR0.out]
      rfl
set_option maxHeartbeats 1000000 in
theorem containsI_c (va : Value) (a : List Int) (x : Int) (b : Bool) (w : World) (hra : IntsIs w va a) (hb : a.contains x = b) :
    Calls Tryz.prog 91 #[va, .int .i64 x] w fun e w' => e = .returned (.bool b) ∧ w' = w := by
  have HC : Hid _ := indexI_c va a x w hra
  have HB : Hid (a.contains x = b) := hb
  clear hra hb
  go_enter Tryz.func91, Tryz.ntmps91
  go_wp2_with fail
  refine Calls.mono HC.out ?_
  rintro e w1 ⟨k, rfl, HK, rfl⟩
  go_wp2_with fail
  go_ret
  refine ⟨?_, rfl⟩
  rw [← HB.out, HK.out]
  rfl

theorem IntsIs.take {w : World} {p : Option Addr} {l : List Int} {cap j cap' : Nat} {p' : Option Addr} (hr : IntsIs w (.slice p l.length cap) l) (hj : j ≤ l.length) (hp : l ≠ [] → p' = p) : IntsIs w (.slice p' j cap') (l.take j) := by
  obtain ⟨h0, q, c, e, h1⟩ := hr
  injection e with e1 e2 e3
  subst e1
  have hl : (l.take j).length = j := by simp; omega
  refine ⟨by rw [hl]; omega, p', cap', by rw [hl], fun hn => ?_⟩
  have hne : l ≠ [] := fun h => hn (by simp [h])
  rw [hp hne]
  obtain ⟨b, o, hb, hlt, hc⟩ := h1 hne
  exact ⟨b, o, hb, hlt, fun i hi => by
    have hi' : i < l.length := by rw [hl] at hi; omega
    rw [List.getElem_take]
    exact hc i hi'⟩
end Go.Proofs.YtpcnfoaoajfhlabGreatDoor
