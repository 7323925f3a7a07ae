/-
  Package mesh by its contracts: New, Get.
  Package mesh by its contracts: Get.
-/
import Derived.Test.YtpcnfoaoajfhlaaGreatDoorMqap
namespace Go.Proofs.YtpcnfoaoajfhlaaGreatDoor
set_option linter.unusedVariables false
set_option linter.unusedSimpArgs false
set_option linter.unusedVariables false
set_option linter.unusedSimpArgs false
open Go.RowKit

theorem mNew_bad (n : Int) (w : World) (h : n < 1 ∨ 6 < n) : Calls Tryz.prog 7 #[.int .i64 n] w fun e w' => e = .returned (.tuple #[.pointer none, .iface 85 (.int .i64 1)]) ∧ w' = w := by
  by_cases h1 : n < 1
  · have hd1 : decide (n < 1) = true := by simpa using h1
    go_enter Tryz.func7, Tryz.ntmps7
    go_wp2_with fail
    go_ret2
    exact ⟨rfl, rfl⟩
  · have hd1 : decide (n < 1) = false := by simpa using h1
    have h6 : 6 < n := by omega
    have hd2 : decide (6 < n) = true := by simpa using h6
    go_enter Tryz.func7, Tryz.ntmps7
    go_wp2_with fail
    go_ret2
    exact ⟨rfl, rfl⟩
theorem mc_new {w2 : World} {b c n m : Nat} (hm : m = w2.heap.size) (hs : StoreIs w2 b [] (fun x => x = b)) (hl : ∀ k, k < n → w2.cell? ⟨c, k, none⟩ = some (.slice none 0 0)) (hf : ∀ k, w2.frozen? ⟨c, k, none⟩ = false) (hc : c < w2.heap.size) (hbc : b ≠ c) (hn : n ≤ 6) :
    Mc (fun x => x = b ∨ x = c ∨ x = m) (fun x => x = b) (w2.alloc (.cells #[.pointer (some ⟨b, 0, none⟩), .slice (some ⟨c, 0, none⟩) n n] 89)) m b c [] (List.replicate n []) := by
  subst hm
  have hb : b < w2.heap.size := hs.2.2.2.2.1 b rfl
  have hB : Below w2.heap.size w2 (w2.alloc (.cells #[.pointer (some ⟨b, 0, none⟩), .slice (some ⟨c, 0, none⟩) n n] 89)) := (Below.refl _ _).alloc (Nat.le_refl _) _
  refine ⟨by simp, by simp, by simpa using hn, fun j => (World.frozen?_of_block (a := ⟨c, j, none⟩) (hB.block c hc)).trans (hf j), by omega, .inr (.inr rfl), .inr (.inl rfl), hs.below hB, fun x hx => ⟨.inl hx, by omega, by omega⟩, fun j hj => ?_, fun x hx => ?_⟩
  · refine ⟨.slice none 0 0, (World.cell?_of_block (a := ⟨c, j, none⟩) (hB.block c hc)).trans (hl j (by simpa using hj)), ?_, fun g hg => by simp [Value.ownBlock] at hg⟩
    rw [List.getElem_replicate]
    exact RowIs.nil _
  · have : (w2.alloc (.cells #[.pointer (some ⟨b, 0, none⟩), .slice (some ⟨c, 0, none⟩) n n] 89)).heap.size = w2.heap.size + 1 := by simp
    omega
theorem below_drewM {B : Nat} {w w' : World} (h : Below B w w') : Below B w w'.drew := ⟨h.os, h.tape, h.output, h.size, h.block⟩
theorem infoRowM : (Tryz.prog.info? 32).map (fun i => (i.zero, i.size, i.bytes)) = some (some (.slice none 0 0), 1, 24) := by kernel_rfl
set_option maxHeartbeats 2000000 in
theorem mNew_ok (n : Nat) (w : World) (h1 : 1 ≤ n) (h6 : n ≤ 6) : Calls Tryz.prog 7 #[.int .i64 n] w fun e w' => ∃ m, e = .returned (.tuple #[.pointer (some ⟨m, 0, none⟩), .nilIface]) ∧ (∃ S, MeshAt S w' m [] (List.replicate n []) ∧ ∀ x, S x → w.heap.size ≤ x) ∧ Below w.heap.size w w' := by
  have hd1 : decide ((n : Int) < 1) = false := by simp; omega
  have hd2 : decide ((6 : Int) < (n : Int)) = false := by simp; omega
  have hmk := run_make_row' (P := Tryz.prog) 35 32 (.slice none 0 0) 24 Tryz.underlying35 infoRowM rfl .i64 .i64 n (by omega) (by omega)
  go_enter Tryz.func7, Tryz.ntmps7
  go_upto_region 3 with fail
  go_region_with (go_at_call 37; refine (new_c _).mono ?_; rintro e w1 ⟨rfl, rfl⟩)
  all_goals go_wp2_with fail
  all_goals go_ret2
  · have hw1 : (w.alloc (.cells #[.int .i64 0, .slice none 0 0, .slice none 0 0, .slice none 0 0, .slice none 0 0, .slice none 0 0, .slice none 0 0, .slice none 0 0, .slice none 0 0] 151)).heap.size = w.heap.size + 1 := by simp
    have hs := (new_is w).below ((Below.refl _ _).alloc (Nat.le_refl _) (.cells (madeCells #[.slice none 0 0] n) 32))
    refine ⟨w.heap.size + 1 + 1, by simp [Act.put, Array.setIfInBounds, Array.getD], ⟨_, MeshAt.blocks ⟨_, _, _, mc_new (b := w.heap.size) (c := w.heap.size + 1) (n := n) (m := w.heap.size + 1 + 1) (by simp) hs (fun k hk => ?_) (fun k => by simp) (by simp) (by omega) h6⟩ (Nat.le_refl _) (fun _ _ => rfl), fun x hx => ?_⟩, ?_⟩
    · rw [World.cell?_alloc_at _ _ _ _ (by simp)]
      simp [madeCells, hk, Nat.mod_one]
    · rcases hx with hx | hx | hx <;> omega
    · exact below_drewM (by go_grown)
  · have hs : StoreIs ((w.alloc (.cells (madeCells #[.slice none 0 0] n) 32)).alloc (.cells #[.int .i64 0, .slice none 0 0, .slice none 0 0, .slice none 0 0, .slice none 0 0, .slice none 0 0, .slice none 0 0, .slice none 0 0, .slice none 0 0] 151)) (w.heap.size + 1) [] (fun x => x = w.heap.size + 1) := by
      have := new_is (w.alloc (.cells (madeCells #[.slice none 0 0] n) 32))
      simpa using this
    refine ⟨w.heap.size + 1 + 1, by simp [Act.put, Array.setIfInBounds, Array.getD], ⟨_, MeshAt.blocks ⟨_, _, _, mc_new (b := w.heap.size + 1) (c := w.heap.size) (n := n) (m := w.heap.size + 1 + 1) (by simp) hs (fun k hk => ?_) (fun k => ?_) (by simp; omega) (by omega) h6⟩ (Nat.le_refl _) (fun _ _ => rfl), fun x hx => ?_⟩, ?_⟩
    · refine (World.cell?_of_block (a := ⟨w.heap.size, k, none⟩) (w := w.alloc (.cells (madeCells #[.slice none 0 0] n) 32)) (Below.heap_alloc _ _ _ (by simp))).trans ?_
      rw [World.cell?_alloc_at _ _ _ _ rfl]
      simp [madeCells, hk, Nat.mod_one]
    · refine (World.frozen?_of_block (a := ⟨w.heap.size, k, none⟩) (w := w.alloc (.cells (madeCells #[.slice none 0 0] n) 32)) (Below.heap_alloc _ _ _ (by simp))).trans ?_
      simp
    · rcases hx with hx | hx | hx <;> omega
    · exact below_drewM (by go_grown)
/-- what fresh.Get tells of a right cache -/
theorem fresh_some {c : List En} {key floor : Int} {x : En} (hc : GoodL c) (hk : stK key = true) (h0 : 0 ≤ floor) (h1 : floor ≤ 1000) (hg : getE c key = some x) (hf : floor ≤ x.a) : freshGet c key floor = (x, 0) := by
  have hk' : isKeyB key = true := hk
  have hs : isSeqB floor = true := by simp [isSeqB]; omega
  have hcg : cacheGet c key = (x, 0) := by rw [cacheGet, if_neg (by simpa using hc.bad), hk', if_neg (by simp), hg]
  rw [freshGet, hs, if_neg (by simp), hcg, if_neg (by simp), if_neg (by show ¬ x.a < floor; omega)]
theorem fresh_other {c : List En} {key floor : Int} (hc : GoodL c) (hk : stK key = true) (h0 : 0 ≤ floor) (h1 : floor ≤ 1000) (hg : ∀ x, getE c key = some x → x.a < floor) : ∃ n, n ≠ 0 ∧ freshGet c key floor = (zeroEn, n) := by
  have hk' : isKeyB key = true := hk
  have hs : isSeqB floor = true := by simp [isSeqB]; omega
  cases hq : getE c key with
  | none =>
    have hcg : cacheGet c key = (zeroEn, 5) := by rw [cacheGet, if_neg (by simpa using hc.bad), hk', if_neg (by simp), hq]
    exact ⟨5, by omega, by rw [freshGet, hs, if_neg (by simp), hcg, if_pos (by simp)]⟩
  | some x =>
    have hcg : cacheGet c key = (x, 0) := by rw [cacheGet, if_neg (by simpa using hc.bad), hk', if_neg (by simp), hq]
    exact ⟨8, by omega, by rw [freshGet, hs, if_neg (by simp), hcg, if_neg (by simp), if_pos (hg x hq)]⟩
theorem freshGet_o {l : List En} {key fl x0 x1 x2 n : Int} {x3 : Bool} {x4 : ByteArray} (h : freshGet l key fl = (⟨x0, x1, x2, x3, x4⟩, n)) (v : Value) (w : World) (hr : RowIs w v l) :
    Calls Tryz.prog 52 #[v, .int .i64 key, .int .i64 fl] w fun e w' => e = .returned (.tuple #[.agg #[.int .i64 x0, .int .i64 x1, .int .i64 x2, .bool x3, .string x4], eV n]) ∧ Below w.heap.size w w' := by
  have c := freshGet_c v l key fl w hr
  rw [h] at c
  exact c
end Go.Proofs.YtpcnfoaoajfhlaaGreatDoor

namespace Go.Proofs.YtpcnfoaoajfhlaaGreatDoor
set_option linter.unusedVariables false
set_option linter.unusedSimpArgs false
open Go.RowKit

/-- behind learn: the result's box is filled -/
theorem get_end {S : Nat → Prop} {w w1 w2 w3 : World} {m P : Nat} {l : List Deed} {cs : List (List En)} (hS : ∀ x, S x → x < w.heap.size) (hw : w.heap.size ≤ P) (hP : P < w1.heap.size) (hb : Below w.heap.size w w1) (h : MeshTo S w1 w2 m l cs) (hb2 : Below w2.heap.size w2 w3) (x0 x1 x2 x3 x4 : Value) :
    MeshTo S w (((((w3.setCell ⟨P, 0, none⟩ x0).setCell ⟨P, 1, none⟩ x1).setCell ⟨P, 2, none⟩ x2).setCell ⟨P, 3, none⟩ x3).setCell ⟨P, 4, none⟩ x4) m l cs := by
  obtain ⟨hk, S', h1, h2⟩ := h.below hb2
  have hs := hb.size
  have hk' : Kept S w w3 := (Kept.of_below (F := S) hb).trans hk (fun _ _ h => h)
  refine ⟨((((hk'.setC P 0 (.inr hw) x0).setC P 1 (.inr hw) x1).setC P 2 (.inr hw) x2).setC P 3 (.inr hw) x3).setC P 4 (.inr hw) x4, S', h1.blocks (by simp only [World.size_setCell]; exact Nat.le_refl _) (fun y hy => heap_setE _ P y (fun e => ?_) _ _ _ _ _), fun x hx => ?_⟩
  · subst e
    rcases h2 y hy with h' | h'
    · have := hS y h'
      omega
    · omega
  · rcases h2 x hx with h' | h'
    · exact .inl h'
    · exact .inr (by omega)
set_option maxHeartbeats 4000000 in
theorem mGet_bad {S : Nat → Prop} {w : World} {m : Nat} {l : List Deed} {cs : List (List En)} (h : MeshAt S w m l cs) (node key floor : Int) (hb : nodeB cs.length node = false ∨ stK key = false ∨ floor < 0 ∨ (l.length : Int) < floor) :
    Calls Tryz.prog 13 #[.pointer (some ⟨m, 0, none⟩), .int .i64 node, .int .i64 key, .int .i64 floor] w fun e w' => e = .returned (.tuple #[.agg #[.int .i64 0, .int .i64 0, .int .i64 0, .bool false, .string ⟨#[]⟩], .bool false, .iface 85 (.int .i64 1)]) ∧ Below w.heap.size w w' := by
  obtain ⟨F, b, c, h⟩ := h
  have hml := h.lt m h.sm
  have HB0 : Hid (Below w.heap.size w (w.alloc (.cells #[.int .i64 0, .int .i64 0, .int .i64 0, .bool false, .string ⟨#[]⟩] 46))) := (Below.refl _ _).alloc (Nat.le_refl _) _
  have HM : Hid (Mc S F (w.alloc (.cells #[.int .i64 0, .int .i64 0, .int .i64 0, .bool false, .string ⟨#[]⟩] 46)) m b c l cs) := h.blocks HB0.out.size (fun x hx => HB0.out.block x (h.lt x hx))
  have c0 := h.c0
  have HS : Hid (StoreIs (w.alloc (.cells #[.int .i64 0, .int .i64 0, .int .i64 0, .bool false, .string ⟨#[]⟩] 46)) b l F) := HM.out.st
  have HC1 : Hid ((w.alloc (.cells #[.int .i64 0, .int .i64 0, .int .i64 0, .bool false, .string ⟨#[]⟩] 46)).cell? ⟨m, 1, none⟩ = some (.slice (some ⟨c, 0, none⟩) cs.length cs.length)) := HM.out.c1
  clear h HM
  cases hn : nodeB cs.length node
  · have HN : Hid (nodeB cs.length node = false) := hn
    clear hn hb
    go_enter Tryz.func13, Tryz.ntmps13
    go_wp2_with (go_at_call 49; refine (isNode_b HN.out _ HC1.out).mono ?_; rintro e w' ⟨rfl, hw⟩; rw [hw]; clear hw w')
    refine bodyPost_ret (v := .tuple #[.agg #[.int .i64 0, .int .i64 0, .int .i64 0, .bool false, .string ⟨#[]⟩], .bool false, .iface 85 (.int .i64 1)]) (by simp [results, Tryz.results13, go_sem]) rfl ?_
    exact ⟨rfl, by go_grown⟩
  · have HN : Hid (nodeB cs.length node = true) := hn
    rw [hn] at hb
    replace hb := hb.resolve_left (by simp)
    clear hn
    cases hk : stK key
    · have HK : Hid (stK key = false) := hk
      clear hk hb
      go_enter Tryz.func13, Tryz.ntmps13
      go_wp2_with (first | (go_at_call 49; refine (isNode_b HN.out _ HC1.out).mono ?_; rintro e w' ⟨rfl, hw⟩; rw [hw]; clear hw w') | (go_at_call 50; refine (mKey_b HK.out _).mono ?_; rintro e w' ⟨rfl, hw⟩; rw [hw]; clear hw w'))
      refine bodyPost_ret (v := .tuple #[.agg #[.int .i64 0, .int .i64 0, .int .i64 0, .bool false, .string ⟨#[]⟩], .bool false, .iface 85 (.int .i64 1)]) (by simp [results, Tryz.results13, go_sem]) rfl ?_
      exact ⟨rfl, by go_grown⟩
    · have HK : Hid (stK key = true) := hk
      rw [hk] at hb
      replace hb := hb.resolve_left (by simp)
      clear hk
      by_cases hf : floor < 0
      · have hd : decide (floor < 0) = true := by simpa using hf
        clear hb
        go_enter Tryz.func13, Tryz.ntmps13
        go_wp2_with (first | (go_at_call 49; refine (isNode_b HN.out _ HC1.out).mono ?_; rintro e w' ⟨rfl, hw⟩; rw [hw]; clear hw w') | (go_at_call 50; refine (mKey_b HK.out _).mono ?_; rintro e w' ⟨rfl, hw⟩; rw [hw]; clear hw w'))
        refine bodyPost_ret (v := .tuple #[.agg #[.int .i64 0, .int .i64 0, .int .i64 0, .bool false, .string ⟨#[]⟩], .bool false, .iface 85 (.int .i64 1)]) (by simp [results, Tryz.results13, go_sem]) rfl ?_
        exact ⟨rfl, by go_grown⟩
      · have hd : decide (floor < 0) = false := by simpa using hf
        have hl2 := hb.resolve_left hf
        have hd2 : decide ((l.length : Int) < floor) = true := by simpa using hl2
        clear hb
        go_enter Tryz.func13, Tryz.ntmps13
        go_wp2_with (first | (go_at_call 49; refine (isNode_b HN.out _ HC1.out).mono ?_; rintro e w' ⟨rfl, hw⟩; rw [hw]; clear hw w') | (go_at_call 50; refine (mKey_b HK.out _).mono ?_; rintro e w' ⟨rfl, hw⟩; rw [hw]; clear hw w') | (go_at_call 51; refine (seq_c b l F _ HS.out).mono ?_; rintro e w' ⟨rfl, hw⟩; rw [hw]; clear hw w'))
        refine bodyPost_ret (v := .tuple #[.agg #[.int .i64 0, .int .i64 0, .int .i64 0, .bool false, .string ⟨#[]⟩], .bool false, .iface 85 (.int .i64 1)]) (by simp [results, Tryz.results13, go_sem]) rfl ?_
        exact ⟨rfl, by go_grown⟩
set_option maxHeartbeats 8000000 in
theorem mGet_own {S : Nat → Prop} {w : World} {m : Nat} {l : List Deed} {cs : List (List En)} (h : MeshAt S w m l cs) (hG : GoodM l cs) (node key floor : Int) (hn : nodeB cs.length node = true) (hk : stK key = true) (h0 : 0 ≤ floor) (h1 : floor ≤ l.length) {x0 x1 x2 : Int} {x3 : Bool} {x4 : ByteArray} (hg : getE (cacheN cs node) key = some ⟨x0, x1, x2, x3, x4⟩) (hf : floor ≤ x2) :
    Calls Tryz.prog 13 #[.pointer (some ⟨m, 0, none⟩), .int .i64 node, .int .i64 key, .int .i64 floor] w fun e w' => e = .returned (.tuple #[.agg #[.int .i64 x0, .int .i64 x1, .int .i64 x2, .bool x3, .string x4], .bool true, .nilIface]) ∧ Below w.heap.size w w' := by
  obtain ⟨F, b, c, h⟩ := h
  obtain ⟨i, rfl, hi⟩ := node_nat hn
  rw [cacheN_at hi] at hg
  have HFr : Hid (freshGet cs[i] key floor = (⟨x0, x1, x2, x3, x4⟩, 0)) := fresh_some (hG.all cs[i] (List.getElem_mem hi)).good hk h0 (by have := hG.len; omega) hg hf
  obtain ⟨v, hv, hr, _⟩ := h.rows i hi
  have hml := h.lt m h.sm
  have hcl := h.lt c h.sc
  have HB0 : Hid (Below w.heap.size w (w.alloc (.cells #[.int .i64 0, .int .i64 0, .int .i64 0, .bool false, .string ⟨#[]⟩] 46))) := (Below.refl _ _).alloc (Nat.le_refl _) _
  have HM : Hid (Mc S F (w.alloc (.cells #[.int .i64 0, .int .i64 0, .int .i64 0, .bool false, .string ⟨#[]⟩] 46)) m b c l cs) := h.blocks HB0.out.size (fun x hx => HB0.out.block x (h.lt x hx))
  have c0 := h.c0
  have c1 := h.c1
  have HR : Hid (RowIs (w.alloc (.cells #[.int .i64 0, .int .i64 0, .int .i64 0, .bool false, .string ⟨#[]⟩] 46)) v cs[i]) := hr.below HB0.out
  have HS : Hid (StoreIs (w.alloc (.cells #[.int .i64 0, .int .i64 0, .int .i64 0, .bool false, .string ⟨#[]⟩] 46)) b l F) := HM.out.st
  have HC1 : Hid ((w.alloc (.cells #[.int .i64 0, .int .i64 0, .int .i64 0, .bool false, .string ⟨#[]⟩] 46)).cell? ⟨m, 1, none⟩ = some (.slice (some ⟨c, 0, none⟩) cs.length cs.length)) := HM.out.c1
  have HN : Hid (nodeB cs.length (i : Int) = true) := hn
  have HK : Hid (stK key = true) := hk
  have hd : decide (floor < 0) = false := by simp; omega
  have hd2 : decide ((l.length : Int) < floor) = false := by simp; omega
  have hi2 : (i : Int) < (cs.length : Int) := by omega
  have X0 : Hid (BoxAt (w.alloc (.cells #[.int .i64 0, .int .i64 0, .int .i64 0, .bool false, .string ⟨#[]⟩] 46)) w.heap.size 0 0 0 false ⟨#[]⟩) := box_new w 0 0 0 false ⟨#[]⟩ _ rfl
  generalize cs[i] = y at HFr HR
  clear h HM hn hk h0 h1 hg hf hr hG hi
  go_enter Tryz.func13, Tryz.ntmps13
  go_wp2_with (first | (go_at_call 49; refine (isNode_b HN.out _ HC1.out).mono ?_; rintro e w' ⟨rfl, hw⟩; rw [hw]; clear hw w') | (go_at_call 50; refine (mKey_b HK.out _).mono ?_; rintro e w' ⟨rfl, hw⟩; rw [hw]; clear hw w') | (go_at_call 51; refine (seq_c b l F _ HS.out).mono ?_; rintro e w' ⟨rfl, hw⟩; rw [hw]; clear hw w'))
  refine (freshGet_o HFr.out _ _ HR.out).mono ?_
  rintro e w1 ⟨rfl, hb⟩
  rw [eV_zeroN]
  have B1 : Hid (Below w.heap.size w w1) := HB0.out.trans (hb.mono (by simp))
  have X1 : Hid (BoxAt w1 w.heap.size 0 0 0 false ⟨#[]⟩) := X0.out.below hb X0.out.lt
  have p1 : ¬ w.heap.size = w1.heap.size := by have := hb.size; simp at this; omega
  clear hb hv c0 c1 X0 HB0
  go_upto_region 5 with fail
  obtain ⟨w2, HW2⟩ : ∃ w2, w2 = w1.alloc (.cells #[.int .i64 x0, .int .i64 x1, .int .i64 x2, .bool x3, .string x4] 46) := ⟨_, rfl⟩
  rw [← HW2]
  have B2 : Hid (Below w.heap.size w w2) := by rw [HW2]; exact B1.out.alloc B1.out.size _
  have E2 : Hid (BoxAt w2 w.heap.size 0 0 0 false ⟨#[]⟩) := by rw [HW2]; exact X1.out.alloc _
  have F2 : Hid (BoxAt w2 w1.heap.size x0 x1 x2 x3 x4) := by rw [HW2]; exact box_new w1 x0 x1 x2 x3 x4 _ rfl
  clear HW2 B1 X1
  obtain ⟨e0, e1, e2, e3, e4, ef⟩ := E2.out
  obtain ⟨f0, f1, f2, f3, f4, ff⟩ := F2.out
  obtain ⟨z0, z1, z2, z3, z4, zf⟩ := (E2.out.set x0 x1 x2 x3 x4)
  go_wp2_with fail
  refine bodyPost_ret (v := .tuple #[.agg #[.int .i64 x0, .int .i64 x1, .int .i64 x2, .bool x3, .string x4], .bool true, .nilIface]) (by simp [results, Tryz.results13, go_sem, z0, z1, z2, z3, z4]) rfl ?_
  refine ⟨rfl, ?_⟩
  have hle := B2.out.size
  have hb := B2.out
  go_grown
set_option maxHeartbeats 8000000 in
theorem mGet_learn {S : Nat → Prop} {w : World} {m : Nat} {l : List Deed} {cs : List (List En)} (h : MeshAt S w m l cs) (hG : GoodM l cs) (node key floor : Int) (hn : nodeB cs.length node = true) (hk : stK key = true) (h0 : 0 ≤ floor) (h1 : floor ≤ l.length) {x0 x1 x2 : Int} {x3 : Bool} {x4 : ByteArray} (hg : ∀ x, getE (cacheN cs node) key = some x → x.a < floor) (hx : wasE l key l.length = ⟨x0, x1, x2, x3, x4⟩) :
    Calls Tryz.prog 13 #[.pointer (some ⟨m, 0, none⟩), .int .i64 node, .int .i64 key, .int .i64 floor] w fun e w' => e = .returned (.tuple #[.agg #[.int .i64 x0, .int .i64 x1, .int .i64 x2, .bool x3, .string x4], .bool false, .nilIface]) ∧ MeshTo S w w' m l (learnM l cs node key) := by
  obtain ⟨F, b, c, h⟩ := h
  obtain ⟨i, rfl, hi⟩ := node_nat hn
  rw [cacheN_at hi] at hg
  obtain ⟨ne, hne, hfr⟩ := fresh_other (hG.all cs[i] (List.getElem_mem hi)).good hk h0 (by have := hG.len; omega) hg
  have HFr : Hid (freshGet cs[i] key floor = (⟨0, 0, 0, false, ⟨#[]⟩⟩, ne)) := hfr
  have HNe : Hid (eV ne = .iface 85 (.int .i64 ne)) := eV_errN hne
  obtain ⟨v, hv, hr, _⟩ := h.rows i hi
  have hml := h.lt m h.sm
  have hcl := h.lt c h.sc
  have HB0 : Hid (Below w.heap.size w (w.alloc (.cells #[.int .i64 0, .int .i64 0, .int .i64 0, .bool false, .string ⟨#[]⟩] 46))) := (Below.refl _ _).alloc (Nat.le_refl _) _
  have HMw : Hid (Mc S F w m b c l cs) := h
  have HM : Hid (Mc S F (w.alloc (.cells #[.int .i64 0, .int .i64 0, .int .i64 0, .bool false, .string ⟨#[]⟩] 46)) m b c l cs) := h.blocks HB0.out.size (fun x hx => HB0.out.block x (h.lt x hx))
  have HG : Hid (GoodM l cs) := hG
  have HI : Hid (i < cs.length) := hi
  have HX : Hid (wasE l key l.length = ⟨x0, x1, x2, x3, x4⟩) := hx
  have c0 := h.c0
  have c1 := h.c1
  have HR : Hid (RowIs (w.alloc (.cells #[.int .i64 0, .int .i64 0, .int .i64 0, .bool false, .string ⟨#[]⟩] 46)) v cs[i]) := hr.below HB0.out
  have HC1 : Hid ((w.alloc (.cells #[.int .i64 0, .int .i64 0, .int .i64 0, .bool false, .string ⟨#[]⟩] 46)).cell? ⟨m, 1, none⟩ = some (.slice (some ⟨c, 0, none⟩) cs.length cs.length)) := HM.out.c1
  have HN : Hid (nodeB cs.length (i : Int) = true) := hn
  have HK : Hid (stK key = true) := hk
  have hd : decide (floor < 0) = false := by simp; omega
  have hd2 : decide ((l.length : Int) < floor) = false := by simp; omega
  have hi2 : (i : Int) < (cs.length : Int) := by omega
  have X0 : Hid (BoxAt (w.alloc (.cells #[.int .i64 0, .int .i64 0, .int .i64 0, .bool false, .string ⟨#[]⟩] 46)) w.heap.size 0 0 0 false ⟨#[]⟩) := box_new w 0 0 0 false ⟨#[]⟩ _ rfl
  generalize cs[i] = y at HFr HR
  clear h hn hk h0 h1 hg hr hG hi hx hne hfr
  go_enter Tryz.func13, Tryz.ntmps13
  go_wp2_with (first | (go_at_call 49; refine (isNode_b HN.out _ HC1.out).mono ?_; rintro e w' ⟨rfl, hw⟩; rw [hw]; clear hw w') | (go_at_call 50; refine (mKey_b HK.out _).mono ?_; rintro e w' ⟨rfl, hw⟩; rw [hw]; clear hw w') | (go_at_call 51; refine (seq_c b l F _ HM.out.st).mono ?_; rintro e w' ⟨rfl, hw⟩; rw [hw]; clear hw w'))
  refine (freshGet_o HFr.out _ _ HR.out).mono ?_
  rintro e w1 ⟨rfl, hb⟩
  rw [HNe.out]
  have B1 : Hid (Below w.heap.size w (w1.alloc (.cells #[.int .i64 0, .int .i64 0, .int .i64 0, .bool false, .string ⟨#[]⟩] 46))) := (HB0.out.trans (hb.mono (by simp))).alloc (by have := hb.size; simp at this; omega) _
  have X1 : Hid (BoxAt (w1.alloc (.cells #[.int .i64 0, .int .i64 0, .int .i64 0, .bool false, .string ⟨#[]⟩] 46)) w.heap.size 0 0 0 false ⟨#[]⟩) := (X0.out.below hb X0.out.lt).alloc _
  clear hb hv c0 c1 X0 HB0 HM
  go_upto_region 6 with fail
  obtain ⟨w2, HW2⟩ : ∃ w2, w2 = w1.alloc (.cells #[.int .i64 0, .int .i64 0, .int .i64 0, .bool false, .string ⟨#[]⟩] 46) := ⟨_, rfl⟩
  obtain ⟨P, HP⟩ : ∃ z, Hid (z = w.heap.size) := ⟨_, rfl⟩
  rw [← HW2] at B1 X1
  rw [← HP.out] at X1
  rw [← HW2, ← HP.out]
  clear HW2
  have M2 : Hid (Mc S F w2 m b c l cs) := HMw.out.blocks B1.out.size (fun z hz => B1.out.block z (HMw.out.lt z hz))
  go_wp2_with fail
  refine (learn_c M2.out HG.out i HI.out HK.out HX.out).mono ?_
  rintro e w3 ⟨rfl, hto⟩
  have T3 : Hid (MeshTo S w2 w3 m l (learnM l cs i key)) := hto
  have hPlt := X1.out.lt
  have X3 : Hid (BoxAt w3 P 0 0 0 false ⟨#[]⟩) := X1.out.of_block (hto.1.block P hPlt (fun hs => by have h1 := HMw.out.lt P hs; have h2 := HP.out; omega))
  clear hto
  have hsz3 := T3.out.1.size
  go_upto_region 7 with fail
  have X4 : Hid (BoxAt (w3.alloc (.cells #[.int .i64 x0, .int .i64 x1, .int .i64 x2, .bool x3, .string x4] 46)) P 0 0 0 false ⟨#[]⟩) := X3.out.alloc _
  have Y4 : Hid (BoxAt (w3.alloc (.cells #[.int .i64 x0, .int .i64 x1, .int .i64 x2, .bool x3, .string x4] 46)) w3.heap.size x0 x1 x2 x3 x4) := box_new w3 x0 x1 x2 x3 x4 _ rfl
  have hEnd : Hid (MeshTo S w ((((((w3.alloc (.cells #[.int .i64 x0, .int .i64 x1, .int .i64 x2, .bool x3, .string x4] 46)).setCell ⟨P, 0, none⟩ (.int .i64 x0)).setCell ⟨P, 1, none⟩ (.int .i64 x1)).setCell ⟨P, 2, none⟩ (.int .i64 x2)).setCell ⟨P, 3, none⟩ (.bool x3)).setCell ⟨P, 4, none⟩ (.string x4)) m l (learnM l cs i key)) :=
    get_end HMw.out.lt (by have := HP.out; omega) hPlt B1.out T3.out ((Below.refl _ _).alloc (Nat.le_refl _) _) _ _ _ _ _
  obtain ⟨w4, HW4⟩ : ∃ z, z = w3.alloc (.cells #[.int .i64 x0, .int .i64 x1, .int .i64 x2, .bool x3, .string x4] 46) := ⟨_, rfl⟩
  obtain ⟨Y, HY⟩ : ∃ z, z = w3.heap.size := ⟨_, rfl⟩
  rw [← HW4] at X4 Y4 hEnd
  rw [← HY] at Y4
  rw [← HW4, ← HY]
  clear HW4 HY X3 B1 X1 M2 T3 hsz3
  obtain ⟨z0, z1, z2, z3, z4, zf⟩ := (X4.out.set x0 x1 x2 x3 x4)
  obtain ⟨y0, y1, y2, y3, y4, yf⟩ := Y4.out
  obtain ⟨e0, e1, e2, e3, e4, ef⟩ := X4.out
  go_wp2_with fail
  refine bodyPost_ret (v := .tuple #[.agg #[.int .i64 x0, .int .i64 x1, .int .i64 x2, .bool x3, .string x4], .bool false, .nilIface]) (by simp [results, Tryz.results13, go_sem, z0, z1, z2, z3, z4]) rfl ?_
  exact ⟨rfl, hEnd.out⟩
/-- Get, with letters -/
theorem mGet_o {S : Nat → Prop} {w : World} {m : Nat} {l : List Deed} {cs cs' : List (List En)} (h : MeshAt S w m l cs) (hG : GoodM l cs) {node key floor x0 x1 x2 n : Int} {x3 had : Bool} {x4 : ByteArray} (hx : mGet l cs node key floor = (cs', ⟨x0, x1, x2, x3, x4⟩, had, n)) :
    Calls Tryz.prog 13 #[.pointer (some ⟨m, 0, none⟩), .int .i64 node, .int .i64 key, .int .i64 floor] w fun e w' => e = .returned (.tuple #[.agg #[.int .i64 x0, .int .i64 x1, .int .i64 x2, .bool x3, .string x4], .bool had, eV n]) ∧ MeshTo S w w' m l cs' := by
  by_cases hb : nodeB cs.length node = false ∨ stK key = false ∨ floor < 0 ∨ (l.length : Int) < floor
  · rw [mGet, if_pos hb] at hx
    injection hx with e1 hx
    injection hx with e2 hx
    injection hx with e3 e4
    injection e2 with a0 a1 a2 a3 a4
    subst e1 e3 e4 a0 a1 a2 a3 a4
    refine (mGet_bad h node key floor hb).mono ?_
    rintro e w' ⟨rfl, hw⟩
    exact ⟨by rw [eV_errN (by omega)], h.to hw⟩
  · rw [mGet, if_neg hb] at hx
    have hn : nodeB cs.length node = true := by
      cases hq : nodeB cs.length node
      · exact absurd (.inl hq) hb
      · rfl
    have hk : stK key = true := by
      cases hq : stK key
      · exact absurd (.inr (.inl hq)) hb
      · rfl
    have h0 : 0 ≤ floor := by
      rcases Int.lt_or_le floor 0 with h' | h'
      · exact absurd (.inr (.inr (.inl h'))) hb
      · exact h'
    have h1 : floor ≤ l.length := by
      rcases Int.lt_or_le l.length floor with h' | h'
      · exact absurd (.inr (.inr (.inr h'))) hb
      · exact h'
    have other : (∀ x, getE (cacheN cs node) key = some x → x.a < floor) → ((learnM l cs node key, wasE l key l.length, false, (0 : Int)) = (cs', (⟨x0, x1, x2, x3, x4⟩ : En), had, n)) → Calls Tryz.prog 13 #[.pointer (some ⟨m, 0, none⟩), .int .i64 node, .int .i64 key, .int .i64 floor] w fun e w' => e = .returned (.tuple #[.agg #[.int .i64 x0, .int .i64 x1, .int .i64 x2, .bool x3, .string x4], .bool had, eV n]) ∧ MeshTo S w w' m l cs' := by
      intro hg he
      injection he with e1 he
      injection he with e2 he
      injection he with e3 e4
      subst e1 e3 e4
      refine (mGet_learn h hG node key floor hn hk h0 h1 hg e2).mono ?_
      rintro e w' ⟨rfl, hw⟩
      exact ⟨by rw [eV_zeroN], hw⟩
    cases hg : getE (cacheN cs node) key with
    | none =>
      rw [hg] at hx
      exact other (fun x hx' => by rw [hg] at hx'; cases hx') hx
    | some x =>
      rw [hg] at hx
      dsimp only at hx
      by_cases hf : floor ≤ x.a
      · rw [if_pos hf] at hx
        injection hx with e1 hx
        injection hx with e2 hx
        injection hx with e3 e4
        subst e1 e2 e3 e4
        refine (mGet_own h hG node key floor hn hk h0 h1 hg hf).mono ?_
        rintro e w' ⟨rfl, hw⟩
        exact ⟨by rw [eV_zeroN], h.to hw⟩
      · rw [if_neg hf] at hx
        exact other (fun y hy => by rw [hg] at hy; obtain rfl := Option.some.inj hy; omega) hx
end Go.Proofs.YtpcnfoaoajfhlaaGreatDoor
