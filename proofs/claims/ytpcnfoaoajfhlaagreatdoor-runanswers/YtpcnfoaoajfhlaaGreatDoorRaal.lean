/-
  Package mesh by its contracts: Get.
  The number of a text, on lists of bytes: a step, how it is undone, and the exclusive or bit by bit.
  Package hash by its contracts: the number of a text.
  Package hash by its contracts: numbers in decimal, a stroke between.
-/
import Derived.Test.YtpcnfoaoajfhlaaGreatDoorRaak
import Derived.Test.YtpcnfoaoajfhlaaGreatDoorRaaa
import Derived.BigRegion
import Derived.BigQuiet
import Derived.Test.YtpcnfoaoajfhlaaGreatDoorShf
import Derived.Lib.ItoaLen
import Derived.Lib.Slices
import Derived.Lib.Hide
import Derived.Laws.IdiomStrings
import Derived.OwnWalk
import Derived.BigCall
namespace Go.Proofs.YtpcnfoaoajfhlaaGreatDoor
set_option linter.unusedVariables false
set_option linter.unusedSimpArgs false
set_option linter.unusedVariables false
set_option linter.unusedSimpArgs false
open Go.RowKit

/-- behind learn: the result's box is filled -/
theorem get_end {S : Nat → Prop} {w w1 w2 w3 : World} {m P : Nat} {l : List Deed} {cs : List (List En)} (hS : ∀ x, S x → x < w.heap.size) (hw : w.heap.size ≤ P) (hP : P < w1.heap.size) (hb : Below w.heap.size w w1) (h : MeshTo S w1 w2 m l cs) (hb2 : Below w2.heap.size w2 w3) (x0 x1 x2 x3 x4 : Value) :
    MeshTo S w (((((w3.setCell ⟨P, 0, none⟩ x0).setCell ⟨P, 1, none⟩ x1).setCell ⟨P, 2, none⟩ x2).setCell ⟨P, 3, none⟩ x3).setCell ⟨P, 4, none⟩ x4) m l cs := by
  obtain ⟨hk, S', h1, h2⟩ := h.below hb2
  have hs := hb.size
  have hk' : Kept S w w3 := (Kept.of_below (F := S) hb).trans hk (fun _ _ h => h)
  refine ⟨((((hk'.setC P 0 (.inr hw) x0).setC P 1 (.inr hw) x1).setC P 2 (.inr hw) x2).setC P 3 (.inr hw) x3).setC P 4 (.inr hw) x4, S', h1.blocks (by simp only [World.size_setCell]; exact Nat.le_refl _) (fun y hy => heap_setE _ P y (fun e => ?_) _ _ _ _ _), fun x hx => ?_⟩
  · subst e
    rcases h2 y hy with h' | h'
    · have := hS y h'
      omega
    · omega
  · rcases h2 x hx with h' | h'
    · exact .inl h'
    · exact .inr (by omega)
set_option maxHeartbeats 4000000 in
theorem mGet_bad {S : Nat → Prop} {w : World} {m : Nat} {l : List Deed} {cs : List (List En)} (h : MeshAt S w m l cs) (node key floor : Int) (hb : nodeB cs.length node = false ∨ stK key = false ∨ floor < 0 ∨ (l.length : Int) < floor) :
    Calls Tryz.prog 13 #[.pointer (some ⟨m, 0, none⟩), .int .i64 node, .int .i64 key, .int .i64 floor] w fun e w' => e = .returned (.tuple #[.agg #[.int .i64 0, .int .i64 0, .int .i64 0, .bool false, .string ⟨#[]⟩], .bool false, .iface 85 (.int .i64 1)]) ∧ Below w.heap.size w w' := by
  obtain ⟨F, b, c, h⟩ := h
  have hml := h.lt m h.sm
  have HB0 : Hid (Below w.heap.size w (w.alloc (.cells #[.int .i64 0, .int .i64 0, .int .i64 0, .bool false, .string ⟨#[]⟩] 46))) := (Below.refl _ _).alloc (Nat.le_refl _) _
  have HM : Hid (Mc S F (w.alloc (.cells #[.int .i64 0, .int .i64 0, .int .i64 0, .bool false, .string ⟨#[]⟩] 46)) m b c l cs) := h.blocks HB0.out.size (fun x hx => HB0.out.block x (h.lt x hx))
  have c0 := h.c0
  have HS : Hid (StoreIs (w.alloc (.cells #[.int .i64 0, .int .i64 0, .int .i64 0, .bool false, .string ⟨#[]⟩] 46)) b l F) := HM.out.st
  have HC1 : Hid ((w.alloc (.cells #[.int .i64 0, .int .i64 0, .int .i64 0, .bool false, .string ⟨#[]⟩] 46)).cell? ⟨m, 1, none⟩ = some (.slice (some ⟨c, 0, none⟩) cs.length cs.length)) := HM.out.c1
  clear h HM
  cases hn : nodeB cs.length node
  · have HN : Hid (nodeB cs.length node = false) := hn
    clear hn hb
    go_enter Tryz.func13, Tryz.ntmps13
    go_wp2_with (go_at_call 49; refine (isNode_b HN.out _ HC1.out).mono ?_; rintro e w' ⟨rfl, hw⟩; rw [hw]; clear hw w')
    refine bodyPost_ret (v := .tuple #[.agg #[.int .i64 0, .int .i64 0, .int .i64 0, .bool false, .string ⟨#[]⟩], .bool false, .iface 85 (.int .i64 1)]) (by simp [results, Tryz.results13, go_sem]) rfl ?_
    exact ⟨rfl, by go_grown⟩
  · have HN : Hid (nodeB cs.length node = true) := hn
    rw [hn] at hb
    replace hb := hb.resolve_left (by simp)
    clear hn
    cases hk : stK key
    · have HK : Hid (stK key = false) := hk
      clear hk hb
      go_enter Tryz.func13, Tryz.ntmps13
      go_wp2_with (first | (go_at_call 49; refine (isNode_b HN.out _ HC1.out).mono ?_; rintro e w' ⟨rfl, hw⟩; rw [hw]; clear hw w') | (go_at_call 50; refine (mKey_b HK.out _).mono ?_; rintro e w' ⟨rfl, hw⟩; rw [hw]; clear hw w'))
      refine bodyPost_ret (v := .tuple #[.agg #[.int .i64 0, .int .i64 0, .int .i64 0, .bool false, .string ⟨#[]⟩], .bool false, .iface 85 (.int .i64 1)]) (by simp [results, Tryz.results13, go_sem]) rfl ?_
      exact ⟨rfl, by go_grown⟩
    · have HK : Hid (stK key = true) := hk
      rw [hk] at hb
      replace hb := hb.resolve_left (by simp)
      clear hk
      by_cases hf : floor < 0
      · have hd : decide (floor < 0) = true := by simpa using hf
        clear hb
        go_enter Tryz.func13, Tryz.ntmps13
        go_wp2_with (first | (go_at_call 49; refine (isNode_b HN.out _ HC1.out).mono ?_; rintro e w' ⟨rfl, hw⟩; rw [hw]; clear hw w') | (go_at_call 50; refine (mKey_b HK.out _).mono ?_; rintro e w' ⟨rfl, hw⟩; rw [hw]; clear hw w'))
        refine bodyPost_ret (v := .tuple #[.agg #[.int .i64 0, .int .i64 0, .int .i64 0, .bool false, .string ⟨#[]⟩], .bool false, .iface 85 (.int .i64 1)]) (by simp [results, Tryz.results13, go_sem]) rfl ?_
        exact ⟨rfl, by go_grown⟩
      · have hd : decide (floor < 0) = false := by simpa using hf
        have hl2 := hb.resolve_left hf
        have hd2 : decide ((l.length : Int) < floor) = true := by simpa using hl2
        clear hb
        go_enter Tryz.func13, Tryz.ntmps13
        go_wp2_with (first | (go_at_call 49; refine (isNode_b HN.out _ HC1.out).mono ?_; rintro e w' ⟨rfl, hw⟩; rw [hw]; clear hw w') | (go_at_call 50; refine (mKey_b HK.out _).mono ?_; rintro e w' ⟨rfl, hw⟩; rw [hw]; clear hw w') | (go_at_call 51; refine (seq_c b l F _ HS.out).mono ?_; rintro e w' ⟨rfl, hw⟩; rw [hw]; clear hw w'))
        refine bodyPost_ret (v := .tuple #[.agg #[.int .i64 0, .int .i64 0, .int .i64 0, .bool false, .string ⟨#[]⟩], .bool false, .iface 85 (.int .i64 1)]) (by simp [results, Tryz.results13, go_sem]) rfl ?_
        exact ⟨rfl, by go_grown⟩
set_option maxHeartbeats 8000000 in
theorem mGet_own {S : Nat → Prop} {w : World} {m : Nat} {l : List Deed} {cs : List (List En)} (h : MeshAt S w m l cs) (hG : GoodM l cs) (node key floor : Int) (hn : nodeB cs.length node = true) (hk : stK key = true) (h0 : 0 ≤ floor) (h1 : floor ≤ l.length) {x0 x1 x2 : Int} {x3 : Bool} {x4 : ByteArray} (hg : getE (cacheN cs node) key = some ⟨x0, x1, x2, x3, x4⟩) (hf : floor ≤ x2) :
    Calls Tryz.prog 13 #[.pointer (some ⟨m, 0, none⟩), .int .i64 node, .int .i64 key, .int .i64 floor] w fun e w' => e = .returned (.tuple #[.agg #[.int .i64 x0, .int .i64 x1, .int .i64 x2, .bool x3, .string x4], .bool true, .nilIface]) ∧ Below w.heap.size w w' := by
  obtain ⟨F, b, c, h⟩ := h
  obtain ⟨i, rfl, hi⟩ := node_nat hn
  rw [cacheN_at hi] at hg
  have HFr : Hid (freshGet cs[i] key floor = (⟨x0, x1, x2, x3, x4⟩, 0)) := fresh_some (hG.all cs[i] (List.getElem_mem hi)).good hk h0 (by have := hG.len; omega) hg hf
  obtain ⟨v, hv, hr, _⟩ := h.rows i hi
  have hml := h.lt m h.sm
  have hcl := h.lt c h.sc
  have HB0 : Hid (Below w.heap.size w (w.alloc (.cells #[.int .i64 0, .int .i64 0, .int .i64 0, .bool false, .string ⟨#[]⟩] 46))) := (Below.refl _ _).alloc (Nat.le_refl _) _
  have HM : Hid (Mc S F (w.alloc (.cells #[.int .i64 0, .int .i64 0, .int .i64 0, .bool false, .string ⟨#[]⟩] 46)) m b c l cs) := h.blocks HB0.out.size (fun x hx => HB0.out.block x (h.lt x hx))
  have c0 := h.c0
  have c1 := h.c1
  have HR : Hid (RowIs (w.alloc (.cells #[.int .i64 0, .int .i64 0, .int .i64 0, .bool false, .string ⟨#[]⟩] 46)) v cs[i]) := hr.below HB0.out
  have HS : Hid (StoreIs (w.alloc (.cells #[.int .i64 0, .int .i64 0, .int .i64 0, .bool false, .string ⟨#[]⟩] 46)) b l F) := HM.out.st
  have HC1 : Hid ((w.alloc (.cells #[.int .i64 0, .int .i64 0, .int .i64 0, .bool false, .string ⟨#[]⟩] 46)).cell? ⟨m, 1, none⟩ = some (.slice (some ⟨c, 0, none⟩) cs.length cs.length)) := HM.out.c1
  have HN : Hid (nodeB cs.length (i : Int) = true) := hn
  have HK : Hid (stK key = true) := hk
  have hd : decide (floor < 0) = false := by simp; omega
  have hd2 : decide ((l.length : Int) < floor) = false := by simp; omega
  have hi2 : (i : Int) < (cs.length : Int) := by omega
  have X0 : Hid (BoxAt (w.alloc (.cells #[.int .i64 0, .int .i64 0, .int .i64 0, .bool false, .string ⟨#[]⟩] 46)) w.heap.size 0 0 0 false ⟨#[]⟩) := box_new w 0 0 0 false ⟨#[]⟩ _ rfl
  generalize cs[i] = y at HFr HR
  clear h HM hn hk h0 h1 hg hf hr hG hi
  go_enter Tryz.func13, Tryz.ntmps13
  go_wp2_with (first | (go_at_call 49; refine (isNode_b HN.out _ HC1.out).mono ?_; rintro e w' ⟨rfl, hw⟩; rw [hw]; clear hw w') | (go_at_call 50; refine (mKey_b HK.out _).mono ?_; rintro e w' ⟨rfl, hw⟩; rw [hw]; clear hw w') | (go_at_call 51; refine (seq_c b l F _ HS.out).mono ?_; rintro e w' ⟨rfl, hw⟩; rw [hw]; clear hw w'))
  refine (freshGet_o HFr.out _ _ HR.out).mono ?_
  rintro e w1 ⟨rfl, hb⟩
  rw [eV_zeroN]
  have B1 : Hid (Below w.heap.size w w1) := HB0.out.trans (hb.mono (by simp))
  have X1 : Hid (BoxAt w1 w.heap.size 0 0 0 false ⟨#[]⟩) := X0.out.below hb X0.out.lt
  have p1 : ¬ w.heap.size = w1.heap.size := by have := hb.size; simp at this; omega
  clear hb hv c0 c1 X0 HB0
  go_upto_region 5 with fail
  obtain ⟨w2, HW2⟩ : ∃ w2, w2 = w1.alloc (.cells #[.int .i64 x0, .int .i64 x1, .int .i64 x2, .bool x3, .string x4] 46) := ⟨_, rfl⟩
  rw [← HW2]
  have B2 : Hid (Below w.heap.size w w2) := by rw [HW2]; exact B1.out.alloc B1.out.size _
  have E2 : Hid (BoxAt w2 w.heap.size 0 0 0 false ⟨#[]⟩) := by rw [HW2]; exact X1.out.alloc _
  have F2 : Hid (BoxAt w2 w1.heap.size x0 x1 x2 x3 x4) := by rw [HW2]; exact box_new w1 x0 x1 x2 x3 x4 _ rfl
  clear HW2 B1 X1
  obtain ⟨e0, e1, e2, e3, e4, ef⟩ := E2.out
  obtain ⟨f0, f1, f2, f3, f4, ff⟩ := F2.out
  obtain ⟨z0, z1, z2, z3, z4, zf⟩ := (E2.out.set x0 x1 x2 x3 x4)
  go_wp2_with fail
  refine bodyPost_ret (v := .tuple #[.agg #[.int .i64 x0, .int .i64 x1, .int .i64 x2, .bool x3, .string x4], .bool true, .nilIface]) (by simp [results, Tryz.results13, go_sem, z0, z1, z2, z3, z4]) rfl ?_
  refine ⟨rfl, ?_⟩
  have hle := B2.out.size
  have hb := B2.out
  go_grown
set_option maxHeartbeats 8000000 in
theorem mGet_learn {S : Nat → Prop} {w : World} {m : Nat} {l : List Deed} {cs : List (List En)} (h : MeshAt S w m l cs) (hG : GoodM l cs) (node key floor : Int) (hn : nodeB cs.length node = true) (hk : stK key = true) (h0 : 0 ≤ floor) (h1 : floor ≤ l.length) {x0 x1 x2 : Int} {x3 : Bool} {x4 : ByteArray} (hg : ∀ x, getE (cacheN cs node) key = some x → x.a < floor) (hx : wasE l key l.length = ⟨x0, x1, x2, x3, x4⟩) :
    Calls Tryz.prog 13 #[.pointer (some ⟨m, 0, none⟩), .int .i64 node, .int .i64 key, .int .i64 floor] w fun e w' => e = .returned (.tuple #[.agg #[.int .i64 x0, .int .i64 x1, .int .i64 x2, .bool x3, .string x4], .bool false, .nilIface]) ∧ MeshTo S w w' m l (learnM l cs node key) := by
  obtain ⟨F, b, c, h⟩ := h
  obtain ⟨i, rfl, hi⟩ := node_nat hn
  rw [cacheN_at hi] at hg
  obtain ⟨ne, hne, hfr⟩ := fresh_other (hG.all cs[i] (List.getElem_mem hi)).good hk h0 (by have := hG.len; omega) hg
  have HFr : Hid (freshGet cs[i] key floor = (⟨0, 0, 0, false, ⟨#[]⟩⟩, ne)) := hfr
  have HNe : Hid (eV ne = .iface 85 (.int .i64 ne)) := eV_errN hne
  obtain ⟨v, hv, hr, _⟩ := h.rows i hi
  have hml := h.lt m h.sm
  have hcl := h.lt c h.sc
  have HB0 : Hid (Below w.heap.size w (w.alloc (.cells #[.int .i64 0, .int .i64 0, .int .i64 0, .bool false, .string ⟨#[]⟩] 46))) := (Below.refl _ _).alloc (Nat.le_refl _) _
  have HMw : Hid (Mc S F w m b c l cs) := h
  have HM : Hid (Mc S F (w.alloc (.cells #[.int .i64 0, .int .i64 0, .int .i64 0, .bool false, .string ⟨#[]⟩] 46)) m b c l cs) := h.blocks HB0.out.size (fun x hx => HB0.out.block x (h.lt x hx))
  have HG : Hid (GoodM l cs) := hG
  have HI : Hid (i < cs.length) := hi
  have HX : Hid (wasE l key l.length = ⟨x0, x1, x2, x3, x4⟩) := hx
  have c0 := h.c0
  have c1 := h.c1
  have HR : Hid (RowIs (w.alloc (.cells #[.int .i64 0, .int .i64 0, .int .i64 0, .bool false, .string ⟨#[]⟩] 46)) v cs[i]) := hr.below HB0.out
  have HC1 : Hid ((w.alloc (.cells #[.int .i64 0, .int .i64 0, .int .i64 0, .bool false, .string ⟨#[]⟩] 46)).cell? ⟨m, 1, none⟩ = some (.slice (some ⟨c, 0, none⟩) cs.length cs.length)) := HM.out.c1
  have HN : Hid (nodeB cs.length (i : Int) = true) := hn
  have HK : Hid (stK key = true) := hk
  have hd : decide (floor < 0) = false := by simp; omega
  have hd2 : decide ((l.length : Int) < floor) = false := by simp; omega
  have hi2 : (i : Int) < (cs.length : Int) := by omega
  have X0 : Hid (BoxAt (w.alloc (.cells #[.int .i64 0, .int .i64 0, .int .i64 0, .bool false, .string ⟨#[]⟩] 46)) w.heap.size 0 0 0 false ⟨#[]⟩) := box_new w 0 0 0 false ⟨#[]⟩ _ rfl
  generalize cs[i] = y at HFr HR
  clear h hn hk h0 h1 hg hr hG hi hx hne hfr
  go_enter Tryz.func13, Tryz.ntmps13
  go_wp2_with (first | (go_at_call 49; refine (isNode_b HN.out _ HC1.out).mono ?_; rintro e w' ⟨rfl, hw⟩; rw [hw]; clear hw w') | (go_at_call 50; refine (mKey_b HK.out _).mono ?_; rintro e w' ⟨rfl, hw⟩; rw [hw]; clear hw w') | (go_at_call 51; refine (seq_c b l F _ HM.out.st).mono ?_; rintro e w' ⟨rfl, hw⟩; rw [hw]; clear hw w'))
  refine (freshGet_o HFr.out _ _ HR.out).mono ?_
  rintro e w1 ⟨rfl, hb⟩
  rw [HNe.out]
  have B1 : Hid (Below w.heap.size w (w1.alloc (.cells #[.int .i64 0, .int .i64 0, .int .i64 0, .bool false, .string ⟨#[]⟩] 46))) := (HB0.out.trans (hb.mono (by simp))).alloc (by have := hb.size; simp at this; omega) _
  have X1 : Hid (BoxAt (w1.alloc (.cells #[.int .i64 0, .int .i64 0, .int .i64 0, .bool false, .string ⟨#[]⟩] 46)) w.heap.size 0 0 0 false ⟨#[]⟩) := (X0.out.below hb X0.out.lt).alloc _
  clear hb hv c0 c1 X0 HB0 HM
  go_upto_region 6 with fail
  obtain ⟨w2, HW2⟩ : ∃ w2, w2 = w1.alloc (.cells #[.int .i64 0, .int .i64 0, .int .i64 0, .bool false, .string ⟨#[]⟩] 46) := ⟨_, rfl⟩
  obtain ⟨P, HP⟩ : ∃ z, Hid (z = w.heap.size) := ⟨_, rfl⟩
  rw [← HW2] at B1 X1
  rw [← HP.out] at X1
  rw [← HW2, ← HP.out]
  clear HW2
  have M2 : Hid (Mc S F w2 m b c l cs) := HMw.out.blocks B1.out.size (fun z hz => B1.out.block z (HMw.out.lt z hz))
  go_wp2_with fail
  refine (learn_c M2.out HG.out i HI.out HK.out HX.out).mono ?_
  rintro e w3 ⟨rfl, hto⟩
  have T3 : Hid (MeshTo S w2 w3 m l (learnM l cs i key)) := hto
  have hPlt := X1.out.lt
  have X3 : Hid (BoxAt w3 P 0 0 0 false ⟨#[]⟩) := X1.out.of_block (hto.1.block P hPlt (fun hs => by have h1 := HMw.out.lt P hs; have h2 := HP.out; omega))
  clear hto
  have hsz3 := T3.out.1.size
  go_upto_region 7 with fail
  have X4 : Hid (BoxAt (w3.alloc (.cells #[.int .i64 x0, .int .i64 x1, .int .i64 x2, .bool x3, .string x4] 46)) P 0 0 0 false ⟨#[]⟩) := X3.out.alloc _
  have Y4 : Hid (BoxAt (w3.alloc (.cells #[.int .i64 x0, .int .i64 x1, .int .i64 x2, .bool x3, .string x4] 46)) w3.heap.size x0 x1 x2 x3 x4) := box_new w3 x0 x1 x2 x3 x4 _ rfl
  have hEnd : Hid (MeshTo S w ((((((w3.alloc (.cells #[.int .i64 x0, .int .i64 x1, .int .i64 x2, .bool x3, .string x4] 46)).setCell ⟨P, 0, none⟩ (.int .i64 x0)).setCell ⟨P, 1, none⟩ (.int .i64 x1)).setCell ⟨P, 2, none⟩ (.int .i64 x2)).setCell ⟨P, 3, none⟩ (.bool x3)).setCell ⟨P, 4, none⟩ (.string x4)) m l (learnM l cs i key)) :=
    get_end HMw.out.lt (by have := HP.out; omega) hPlt B1.out T3.out ((Below.refl _ _).alloc (Nat.le_refl _) _) _ _ _ _ _
  obtain ⟨w4, HW4⟩ : ∃ z, z = w3.alloc (.cells #[.int .i64 x0, .int .i64 x1, .int .i64 x2, .bool x3, .string x4] 46) := ⟨_, rfl⟩
  obtain ⟨Y, HY⟩ : ∃ z, z = w3.heap.size := ⟨_, rfl⟩
  rw [← HW4] at X4 Y4 hEnd
  rw [← HY] at Y4
  rw [← HW4, ← HY]
  clear HW4 HY X3 B1 X1 M2 T3 hsz3
  obtain ⟨z0, z1, z2, z3, z4, zf⟩ := (X4.out.set x0 x1 x2 x3 x4)
  obtain ⟨y0, y1, y2, y3, y4, yf⟩ := Y4.out
  obtain ⟨e0, e1, e2, e3, e4, ef⟩ := X4.out
  go_wp2_with fail
  refine bodyPost_ret (v := .tuple #[.agg #[.int .i64 x0, .int .i64 x1, .int .i64 x2, .bool x3, .string x4], .bool false, .nilIface]) (by simp [results, Tryz.results13, go_sem, z0, z1, z2, z3, z4]) rfl ?_
  exact ⟨rfl, hEnd.out⟩
/-- Get, with letters -/
theorem mGet_o {S : Nat → Prop} {w : World} {m : Nat} {l : List Deed} {cs cs' : List (List En)} (h : MeshAt S w m l cs) (hG : GoodM l cs) {node key floor x0 x1 x2 n : Int} {x3 had : Bool} {x4 : ByteArray} (hx : mGet l cs node key floor = (cs', ⟨x0, x1, x2, x3, x4⟩, had, n)) :
    Calls Tryz.prog 13 #[.pointer (some ⟨m, 0, none⟩), .int .i64 node, .int .i64 key, .int .i64 floor] w fun e w' => e = .returned (.tuple #[.agg #[.int .i64 x0, .int .i64 x1, .int .i64 x2, .bool x3, .string x4], .bool had, eV n]) ∧ MeshTo S w w' m l cs' := by
  by_cases hb : nodeB cs.length node = false ∨ stK key = false ∨ floor < 0 ∨ (l.length : Int) < floor
  · rw [mGet, if_pos hb] at hx
    injection hx with e1 hx
    injection hx with e2 hx
    injection hx with e3 e4
    injection e2 with a0 a1 a2 a3 a4
    subst e1 e3 e4 a0 a1 a2 a3 a4
    refine (mGet_bad h node key floor hb).mono ?_
    rintro e w' ⟨rfl, hw⟩
    exact ⟨by rw [eV_errN (by omega)], h.to hw⟩
  · rw [mGet, if_neg hb] at hx
    have hn : nodeB cs.length node = true := by
      cases hq : nodeB cs.length node
      · exact absurd (.inl hq) hb
      · rfl
    have hk : stK key = true := by
      cases hq : stK key
      · exact absurd (.inr (.inl hq)) hb
      · rfl
    have h0 : 0 ≤ floor := by
      rcases Int.lt_or_le floor 0 with h' | h'
      · exact absurd (.inr (.inr (.inl h'))) hb
      · exact h'
    have h1 : floor ≤ l.length := by
      rcases Int.lt_or_le l.length floor with h' | h'
      · exact absurd (.inr (.inr (.inr h'))) hb
      · exact h'
    have other : (∀ x, getE (cacheN cs node) key = some x → x.a < floor) → ((learnM l cs node key, wasE l key l.length, false, (0 : Int)) = (cs', (⟨x0, x1, x2, x3, x4⟩ : En), had, n)) → Calls Tryz.prog 13 #[.pointer (some ⟨m, 0, none⟩), .int .i64 node, .int .i64 key, .int .i64 floor] w fun e w' => e = .returned (.tuple #[.agg #[.int .i64 x0, .int .i64 x1, .int .i64 x2, .bool x3, .string x4], .bool had, eV n]) ∧ MeshTo S w w' m l cs' := by
      intro hg he
      injection he with e1 he
      injection he with e2 he
      injection he with e3 e4
      subst e1 e3 e4
      refine (mGet_learn h hG node key floor hn hk h0 h1 hg e2).mono ?_
      rintro e w' ⟨rfl, hw⟩
      exact ⟨by rw [eV_zeroN], hw⟩
    cases hg : getE (cacheN cs node) key with
    | none =>
      rw [hg] at hx
      exact other (fun x hx' => by rw [hg] at hx'; cases hx') hx
    | some x =>
      rw [hg] at hx
      dsimp only at hx
      by_cases hf : floor ≤ x.a
      · rw [if_pos hf] at hx
        injection hx with e1 hx
        injection hx with e2 hx
        injection hx with e3 e4
        subst e1 e2 e3 e4
        refine (mGet_own h hG node key floor hn hk h0 h1 hg hf).mono ?_
        rintro e w' ⟨rfl, hw⟩
        exact ⟨by rw [eV_zeroN], h.to hw⟩
      · rw [if_neg hf] at hx
        exact other (fun y hy => by rw [hg] at hy; obtain rfl := Option.some.inj hy; omega) hx
end Go.Proofs.YtpcnfoaoajfhlaaGreatDoor

namespace Go.Proofs.YtpcnfoaoajfhlaaGreatDoor
set_option linter.unusedVariables false
set_option linter.unusedSimpArgs false
open Go.RowKit

/-- one byte more -/
def stepH (n c : Nat) : Nat := ((n ^^^ c) * 16777619) % 4294967296
/-- the number of a text -/
def hashL (l : List Nat) : Nat := l.foldl stepH 2166136261
theorem stepH_lt (n c : Nat) : stepH n c < 4294967296 := Nat.mod_lt _ (by omega)
theorem hashL_lt (l : List Nat) : hashL l < 4294967296 := by
  have key : ∀ (l : List Nat) (n : Nat), n < 4294967296 → l.foldl stepH n < 4294967296 := by
    intro l
    induction l with
    | nil => intro n h; exact h
    | cons c l ih => intro n _; exact ih _ (stepH_lt n c)
  exact key l _ (by omega)
theorem foldl_more {α β : Type} (f : β → α → β) (b : β) (l : List α) (c : α) : (l ++ [c]).foldl f b = f (l.foldl f b) c := by simp
theorem hashL_more (l : List Nat) (c : Nat) : hashL (l ++ [c]) = stepH (hashL l) c := foldl_more stepH 2166136261 l c
theorem mul_undo {a b : Nat} (ha : a < 4294967296) (hb : b < 4294967296) (h : (a * 16777619) % 4294967296 = (b * 16777619) % 4294967296) : a = b := by
  have e : ∀ x : Nat, x < 4294967296 → ((x * 16777619) % 4294967296 * 899433627) % 4294967296 = x := by
    intro x hx
    rw [Nat.mod_mul_mod, Nat.mul_assoc]
    have : 16777619 * 899433627 = 1 + 4294967296 * 3513497 := by decide
    rw [this, Nat.mul_add, Nat.mul_one, Nat.mul_left_comm, Nat.add_mul_mod_self_left]
    exact Nat.mod_eq_of_lt hx
  rw [← e a ha, ← e b hb, h]
theorem xor_lt32 {n c : Nat} (hn : n < 4294967296) (hc : c < 256) : n ^^^ c < 4294967296 :=
  Nat.xor_lt_two_pow (n := 32) hn (by omega)
/-- unlike bytes behind make unlike numbers -/
theorem stepH_inj {n c d : Nat} (hn : n < 4294967296) (hc : c < 256) (hd : d < 256) (h : stepH n c = stepH n d) : c = d := by
  have h1 := mul_undo (xor_lt32 hn hc) (xor_lt32 hn hd) h
  have h2 : n ^^^ (n ^^^ c) = n ^^^ (n ^^^ d) := by rw [h1]
  rwa [← Nat.xor_assoc, ← Nat.xor_assoc, Nat.xor_self, Nat.zero_xor, Nat.zero_xor] at h2
/-- the exclusive or of the low k bits, as the document sums it -/
def bitsX (a b : Nat) : Nat → Nat
  | 0 => 0
  | k + 1 => bitsX a b k + (if a / 2 ^ k % 2 ≠ b / 2 ^ k % 2 then 2 ^ k else 0)
theorem xor_bit (a b k : Nat) : (a ^^^ b) / 2 ^ k % 2 = if a / 2 ^ k % 2 ≠ b / 2 ^ k % 2 then 1 else 0 := by
  rw [← Nat.shiftRight_eq_div_pow, Nat.shiftRight_xor_distrib, Nat.shiftRight_eq_div_pow, Nat.shiftRight_eq_div_pow]
  have h := Nat.xor_mod_two_eq_one (a := a / 2 ^ k) (b := b / 2 ^ k)
  have h0 := Nat.mod_two_eq_zero_or_one (a / 2 ^ k ^^^ b / 2 ^ k)
  split
  · rename_i hne
    exact h.2 (by omega)
  · rename_i hne
    rcases h0 with h0 | h0
    · exact h0
    · have := h.1 h0
      omega
theorem bitsX_mod (a b k : Nat) : bitsX a b k = (a ^^^ b) % 2 ^ k := by
  induction k with
  | zero => simp [bitsX, Nat.mod_one]
  | succ k ih =>
    rw [bitsX, ih, Nat.mod_pow_succ, xor_bit]
    split <;> simp
theorem bitsX_eight {a b : Nat} (ha : a < 256) (hb : b < 256) : bitsX a b 8 = a ^^^ b := by
  rw [bitsX_mod]
  exact Nat.mod_eq_of_lt (Nat.xor_lt_two_pow (n := 8) ha hb)
/-- the low byte alone is changed -/
theorem low_xor {n c : Nat} (hc : c < 256) : n - n % 256 + bitsX (n % 256) c 8 = n ^^^ c := by
  rw [bitsX_eight (Nat.mod_lt _ (by omega)) hc]
  have h1 : (n ^^^ c) % 256 = (n % 256) ^^^ c := by
    have := Nat.xor_mod_two_pow (a := n) (b := c) (n := 8)
    rw [show (2 : Nat) ^ 8 = 256 from rfl] at this
    rw [this, Nat.mod_eq_of_lt hc]
  have h2 : (n ^^^ c) / 256 = n / 256 := by
    rw [show (256 : Nat) = 2 ^ 8 from rfl, ← Nat.shiftRight_eq_div_pow, Nat.shiftRight_xor_distrib, Nat.shiftRight_eq_div_pow, Nat.shiftRight_eq_div_pow, Nat.div_eq_of_lt (a := c) hc, Nat.xor_zero]
  rw [← h1]
  have h3 := Nat.div_add_mod (n ^^^ c) 256
  have h4 := Nat.div_add_mod n 256
  omega
end Go.Proofs.YtpcnfoaoajfhlaaGreatDoor

namespace Go.Proofs.YtpcnfoaoajfhlaaGreatDoor
set_option linter.unusedVariables false
set_option linter.unusedSimpArgs false
open Go.RowKit

/-- a text's bytes as numbers -/
def byN (s : ByteArray) : List Nat := s.data.toList.map UInt8.toNat
theorem byN_len (s : ByteArray) : (byN s).length = s.size := by
  rw [byN, List.length_map, Array.length_toList]
  rfl

theorem xor_u32 (a b : Nat) (ha : a < 4294967296) (hb : b < 4294967296) : bits .xor .u32 (a : Int) (b : Int) = ((a ^^^ b : Nat) : Int) := by
  have hx : a ^^^ b < 4294967296 := Nat.xor_lt_two_pow (n := 32) ha hb
  have e : ∀ x : Nat, x < 4294967296 → (BitVec.ofInt 32 (x : Int)).toNat = x := fun x h => by
    rw [BitVec.ofInt_natCast, BitVec.toNat_ofNat]
    exact Nat.mod_eq_of_lt h
  show IntKind.u32.wrap ((BitVec.ofInt 32 (a : Int) ^^^ BitVec.ofInt 32 (b : Int)).toNat : Int) = _
  rw [BitVec.toNat_xor, e a ha, e b hb]
  have hw : ∀ n : Int, IntKind.u32.wrap n = n % 4294967296 := fun n => by simp [IntKind.wrap, IntKind.bits, IntKind.signed]
  rw [hw]
  omega
/-- a step, as the program makes it -/
theorem step_u32 (m c : Nat) (hm : m < 4294967296) (hc : c < 256) : bits BinOp.xor IntKind.u32 (m : Int) ((c : Int) % 4294967296) * 16777619 % 4294967296 = (stepH m c : Nat) := by
  rw [show ((c : Int) % 4294967296) = (c : Int) by omega, xor_u32 m c hm (by omega)]
  obtain ⟨x, hx⟩ : ∃ x, x = m ^^^ c := ⟨_, rfl⟩
  have e : stepH m c = (x * 16777619) % 4294967296 := by rw [hx, stepH]
  rw [e, ← hx]
  omega
/-- one byte more of a text -/
theorem hash_take (s : ByteArray) (j : Nat) (h : j < s.size) : hashL ((byN s).take (j + 1)) = stepH (hashL ((byN s).take j)) s[j].toNat := by
  have hl : j < (byN s).length := by rw [byN_len]; exact h
  have e : (byN s)[j] = s[j].toNat := by simp [byN]; rfl
  rw [List.take_succ_eq_append_getElem hl, hashL_more, e]
theorem hash_all (s : ByteArray) (j : Nat) (h : ¬ j < s.size) : hashL ((byN s).take j) = hashL (byN s) := by
  rw [List.take_of_length_le (by rw [byN_len]; omega)]

set_option maxHeartbeats 4000000 in
theorem number_c (s : ByteArray) (w : World) (hs : s.size ≤ 9223372036854775807) :
    Calls Tryz.prog 145 #[.string s] w fun e w' => e = .returned (.int .i64 (hashL (byN s) : Nat)) ∧ w' = w := by
  obtain ⟨R, HR⟩ : ∃ R : Nat, Hid (hashL (byN s) = R) := ⟨_, rfl⟩
  rw [HR.out]
  go_enter Tryz.func145, Tryz.ntmps145
  go_wp2_with fail
  go_loopw [3, 7] (fun x i wr => ∃ (j : Nat) (m : Nat), j ≤ s.size ∧ i = .int .i64 j ∧ x = .int .u32 m ∧ m < 4294967296 ∧ wr = w ∧ Hid (m = hashL ((byN s).take j))) (fun _ i _ => s.size - (intOf i).toNat)
  case atStart => exact ⟨0, 2166136261, Nat.zero_le _, rfl, rfl, by omega, rfl, by rw [List.take_zero]; rfl⟩
  case round =>
    obtain ⟨j, m, hj, rfl, rfl, hm, rfl, HE⟩ := hrel
    by_cases hlt : j < s.size
    · go_wp2_with fail
      go_roundw
      case rel =>
        refine ⟨j + 1, stepH m s[j].toNat, by omega, by go_num, ?_, stepH_lt _ _, trivial, ?_⟩
        · rw [step_u32 m s[j].toNat hm (UInt8.toNat_lt _)]
        · show _ = _
          rw [hash_take s j hlt, ← HE.out]
      case measure => simp [intOf]; omega
    · go_wp2_with fail
      go_ret
      have e : m = R := by rw [HE.out, hash_all s j hlt]; exact HR.out
      exact ⟨by rw [← e]; rfl, rfl⟩
end Go.Proofs.YtpcnfoaoajfhlaaGreatDoor

namespace Go.Proofs.YtpcnfoaoajfhlaaGreatDoor
set_option linter.unusedVariables false
set_option linter.unusedSimpArgs false
open Go.RowKit

/-- the first k numbers as they are written -/
def wrP (l : List Int) : Nat → List UInt8
  | 0 => []
  | k + 1 => wrP l k ++ ((if 0 < k then [47] else []) ++ Lib.itoa (l.getD k 0))
/-- a row of numbers that a call has laid -/
def NumsAt (w : World) (v : Value) (l : List Int) : Prop := ∃ b o, v = .slice (some ⟨b, o, none⟩) l.length l.length ∧ b < w.heap.size ∧ ∀ j (h : j < l.length), w.cell? ⟨b, o + j, none⟩ = some (.int .i64 l[j])
theorem infoByte : (Tryz.prog.info? 5).map (fun i => (i.zero, i.size, i.bytes)) = some (some (.int .u8 0), 1, 1) := by kernel_rfl
theorem wrP_len (l : List Int) (hr : ∀ x ∈ l, -9223372036854775808 ≤ x ∧ x ≤ 9223372036854775807) : ∀ k, k ≤ l.length → (wrP l k).length ≤ 22 * k := by
  intro k
  induction k with
  | zero => intro _; exact Nat.le_refl _
  | succ k ih =>
    intro h
    have hm : l.getD k 0 ∈ l := by rw [List.getD_eq_getElem?_getD, List.getElem?_eq_getElem (by omega)]; exact List.getElem_mem _
    have := ih (by omega)
    have h1 := Lib.itoa_length_le (l.getD k 0) (hr _ hm).1 (hr _ hm).2
    rw [wrP, List.length_append, List.length_append]
    split <;> simp only [List.length_cons, List.length_nil] <;> omega
theorem itoa_pos (x : Int) : 0 < (Lib.itoa x).length := by
  have hd : ∀ u, 0 < (Lib.decDigits u).length := fun u => by
    rw [Lib.decDigits]
    split
    · exact Nat.zero_lt_one
    · rw [List.length_append]; exact Nat.succ_pos _
  unfold Lib.itoa
  split
  · exact Nat.succ_pos _
  · exact hd _
theorem wrP_pos (l : List Int) (k : Nat) (h : 0 < k) : 0 < (wrP l k).length := by
  obtain ⟨j, rfl⟩ : ∃ j, k = j + 1 := ⟨k - 1, by omega⟩
  have := itoa_pos (l.getD j 0)
  rw [wrP, List.length_append, List.length_append]
  omega

set_option maxHeartbeats 4000000 in
set_option maxRecDepth 100000 in
theorem written_c (v : Value) (l : List Int) (w : World) (hn : 0 < l.length) (hn3 : l.length ≤ 3) (hr : ∀ x ∈ l, -9223372036854775808 ≤ x ∧ x ≤ 9223372036854775807) (hI : NumsAt w v l)
    (hT : Lib.TabIs Tryz.prog w powName .u64 Lib.pow10Tab) :
    Calls Tryz.prog 146 #[v] w fun e w' => e = .returned (.string ⟨(wrP l l.length).toArray⟩) ∧ Below w.heap.size w w' := by
  obtain ⟨i0, hi, hz0, hz1, hz2⟩ := info_parts infoByte
  have HT : Hid (Lib.TabBelow Tryz.prog w.heap.size w powName .u64 Lib.pow10Tab) := Lib.tabBelow_of_tabIs hT
  clear hT
  obtain ⟨b, o, rfl, hb, hat⟩ := hI
  have HAt : Hid (∀ j (h : j < l.length), w.cell? ⟨b, o + j, none⟩ = some (.int .i64 l[j])) := hat
  have HR : Hid (∀ x ∈ l, -9223372036854775808 ≤ x ∧ x ≤ 9223372036854775807) := hr
  have HLen : Hid (∀ k, k ≤ l.length → (wrP l k).length ≤ 22 * k) := wrP_len l hr
  clear hat hr
  obtain ⟨n, HN⟩ : ∃ n, Hid (l.length = n) := ⟨_, rfl⟩
  simp only [HN.out] at hn hn3 ⊢
  go_enter Tryz.func146, Tryz.ntmps146
  go_wp2_with fail
  go_loopw [3, 8] (fun x i wr => ∃ (j : Nat) (sv : Value), j ≤ n ∧ i = .int .i64 j ∧ x = sv ∧ Hid (wr.ownsRow w.heap.size 5 1 sv (wrP l j).length (Lib.byteCells (wrP l j))) ∧ Hid (Below w.heap.size w wr)) (fun _ i _ => n - (intOf i).toNat)
  case atStart => exact ⟨0, _, Nat.zero_le _, rfl, rfl, World.ownsRow_nil _ _ _ _, Below.refl _ _⟩
  case round =>
    obtain ⟨j, sv, hj, rfl, hx, HO, HB⟩ := hrel
    have hx' := hx.symm
    subst hx'
    by_cases hlt : j < n
    · have hjl : j < l.length := by rw [HN.out]; exact hlt
      have c0 : wr.cell? ⟨b, o + j, none⟩ = some (.int .i64 l[j]) := (World.cell?_of_block (a := ⟨b, o + j, none⟩) (HB.out.block b hb)).trans (HAt.out j hjl)
      obtain ⟨x, HX⟩ : ∃ x, Hid (l[j] = x) := ⟨l[j], show l[j] = l[j] from rfl⟩
      have HXr : Hid (-9223372036854775808 ≤ x ∧ x ≤ 9223372036854775807) := by rw [← HX.out]; exact HR.out _ (List.getElem_mem _)
      rw [HX.out] at c0
      have hwl : (wrP l j).length ≤ 22 * j := HLen.out j (by omega)
      have hws := HB.out.size
      by_cases h0 : 0 < j
      · have h0i : (0 : Int) < (j : Int) := by omega
        go_upto_region 6 with fail
        go_wp2_with (at_builtin; refine wpList_append_own _ rfl _ _ 115 rfl w.heap.size 5 i0 (.int .u8 0) 1 1 Tryz.underlying115 hi hz0 hz1 hz2 rfl (by decide) _ _ _ rfl (HO.out.alloc _) ⟨wr.heap.size, 0, none⟩ 1 1 [Value.int .u8 47] rfl rfl (by intro j u' hj; match j, hj with | 0, hj => simp at hj; subst hj; simp [Addr.add]) (by intro u' hu'; simp at hu'; subst hu'; rfl) (by unfold maxLen; omega) (by omega) (by simp; omega) ?_)
        intro v2 w2 hown2 hgrow _
        have HB2 : Hid (Below w.heap.size w w2) := (HB.out.alloc (by omega) _).grown hgrow (by simp; omega) (fun k hk => (HO.out.lt k hk).1)
        have HO2 : Hid (w2.ownsRow w.heap.size 5 1 v2 (wrP l j ++ [47]).length (Lib.byteCells (wrP l j ++ [47]))) := by
          have e1 : (wrP l j ++ [47]).length = (wrP l j).length + 1 := by rw [List.length_append]; rfl
          have e2 : Lib.byteCells (wrP l j ++ [47]) = Lib.byteCells (wrP l j) ++ [Value.int .u8 47] := by simp [Lib.byteCells]
          rw [e1, e2]
          exact hown2
        clear hown2 hgrow
        have hw2 := HB2.out.size
        have hwl2 : (wrP l j ++ [47]).length ≤ 22 * j + 1 := by rw [List.length_append]; simpa using hwl
        have HE : Hid ((wrP l j ++ [47]) ++ Lib.itoa x = wrP l (j + 1)) := by
          show _ = _
          have hg : l.getD j 0 = x := by rw [List.getD_eq_getElem?_getD, List.getElem?_eq_getElem hjl]; exact HX.out
          rw [wrP, if_pos h0, hg, List.append_assoc]
        go_upto_region 7 with fail
        go_wp2_with (go_at_call 184; refine (appendInt_c w.heap.size _ x HXr.out.1 HXr.out.2 _ _ w2 HO2.out hw2 (by omega) (HT.out.on HB2.out)).mono ?_; rintro e w3 ⟨v3, rfl, hown3, hnx3, -⟩; refine Hid.out ?_)
        refine Lib.hid ?_
        have HB3 : Hid (Below w.heap.size w w3) := HB2.out.trans hnx3
        have HO3 : Hid (w3.ownsRow w.heap.size 5 1 v3 (wrP l (j + 1)).length (Lib.byteCells (wrP l (j + 1)))) := by
          show World.ownsRow _ _ _ _ _ _ _
          rw [← HE.out, List.length_append, Lib.byteCells_append]
          exact hown3
        clear hown3 hnx3
        go_wp2_with fail
        go_roundw
        case rel => exact ⟨j + 1, v3, by omega, by go_num, rfl, HO3.out, HB3.out⟩
        case measure => simp [intOf]; omega
      · go_upto_region 7 with fail
        have hw2 := HB.out.size
        go_wp2_with (go_at_call 184; refine (appendInt_c w.heap.size _ x HXr.out.1 HXr.out.2 _ _ wr HO.out hw2 (by omega) (HT.out.on HB.out)).mono ?_; rintro e w3 ⟨v3, rfl, hown3, hnx3, -⟩; refine Hid.out ?_)
        refine Lib.hid ?_
        have HB3 : Hid (Below w.heap.size w w3) := HB.out.trans hnx3
        have HE : Hid (wrP l j ++ Lib.itoa x = wrP l (j + 1)) := by
          show _ = _
          have hg : l.getD j 0 = x := by rw [List.getD_eq_getElem?_getD, List.getElem?_eq_getElem hjl]; exact HX.out
          rw [wrP, if_neg h0, hg, List.nil_append]
        have HO3 : Hid (w3.ownsRow w.heap.size 5 1 v3 (wrP l (j + 1)).length (Lib.byteCells (wrP l (j + 1)))) := by
          show World.ownsRow _ _ _ _ _ _ _
          rw [← HE.out, List.length_append, Lib.byteCells_append]
          exact hown3
        clear hown3 hnx3
        go_wp2_with fail
        go_roundw
        case rel => exact ⟨j + 1, v3, by omega, by go_num, rfl, HO3.out, HB3.out⟩
        case measure => simp [intOf]; omega
    · obtain rfl : j = n := by omega
      have hpos : 0 < (wrP l j).length := wrP_pos l j hn
      obtain ⟨L, HL⟩ : ∃ L, Hid (wrP l j = L) := ⟨_, rfl⟩
      rw [HL.out] at hpos HO
      have HO' := HO.out
      rcases HO'.2 with ⟨-, h0⟩ | ⟨g, cap, cur, rfl, -, -, -, -, -, -⟩
      · omega
      · have hcv := run_convert_bytes_back (P := Tryz.prog) wr 115 9 5 ⟨g, 0, none⟩ cap L Tryz.underlying115 Tryz.underlying5 Tryz.underlying9 (fun j hj => HO'.cells (g := g) rfl j _ (by simp [Lib.byteCells, hj]))
        clear HO' HO
        go_wp2
        go_ret
        exact ⟨by rw [HL.out]; rfl, HB.out⟩
end Go.Proofs.YtpcnfoaoajfhlaaGreatDoor
