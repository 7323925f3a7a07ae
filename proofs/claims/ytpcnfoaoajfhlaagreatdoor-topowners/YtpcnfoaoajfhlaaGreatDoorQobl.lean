/-
  Package mesh by its contracts: change, over whatever deed is handed to it; Put, Delete.
  Package mesh by its contracts: New, Get.
  Package mesh by its contracts: Get.
  What is put is told: the law's closed fact; floors beside a mesh.
-/
import Derived.Test.YtpcnfoaoajfhlaaGreatDoorQobk
import Derived.Shelf.Abstract
import Derived.Test.YtpcnfoaoajfhlaaGreatDoorQobg
import Derived.BigRegion
import Derived.BigQuiet
import Derived.WalkSmall
namespace Go.Proofs.YtpcnfoaoajfhlaaGreatDoor
set_option linter.unusedVariables false
set_option linter.unusedSimpArgs false
set_option linter.unusedVariables false
set_option linter.unusedSimpArgs false
open Go.RowKit Go.Shelf

theorem MeshTo.next {S S1 : Nat → Prop} {w w1 w2 : World} {m : Nat} {l : List Deed} {cs : List (List En)} (hk : Kept S w w1) (hs : ∀ x, S1 x → S x ∨ w.heap.size ≤ x) (h : MeshTo S1 w1 w2 m l cs) : MeshTo S w w2 m l cs := by
  obtain ⟨k2, S', h1, h2⟩ := h
  have hz := hk.size
  refine ⟨hk.trans k2 (fun x hx h' => (hs x h').resolve_right (by omega)), S', h1, fun x hx => ?_⟩
  rcases h2 x hx with h' | h'
  · exact hs x h'
  · exact .inr (by omega)
theorem MeshTo.below {S : Nat → Prop} {w w1 w2 : World} {m : Nat} {l : List Deed} {cs : List (List En)} (h : MeshTo S w w1 m l cs) (hb : Below w1.heap.size w1 w2) : MeshTo S w w2 m l cs := by
  obtain ⟨k1, S', h1, h2⟩ := h
  exact ⟨k1.trans (Kept.of_below (F := S) hb) (fun _ _ h => h), S', h1.grown hb, h2⟩
theorem Mc.kept {S F F' : Nat → Prop} {w w' : World} {m b c : Nat} {l l' : List Deed} {cs : List (List En)} (h : Mc S F w m b c l cs) (hF : ∀ x, F' x → F x ∨ w.heap.size ≤ x) (hk : Kept F w w') : Kept S w w' ∧ ∀ x, (S x ∨ F' x) → S x ∨ w.heap.size ≤ x := by
  refine ⟨hk.mono (fun x hx => (h.sF x hx).1), fun x hx => ?_⟩
  rcases hx with hx | hx
  · exact .inl hx
  · rcases hF x hx with h' | h'
    · exact .inl (h.sF x h').1
    · exact .inr h'
/-- what a deed must be -/
structure OutOk (o : Out) (l : List Deed) (key : Int) : Prop where
  bad : o.err ≠ 0 → o.done = l
  good : o.err = 0 → stK key = true ∧ Good o.done ∧ o.done.length ≤ 1000 ∧ ∃ d, o.done = l ++ [d]
theorem put_bad {l : List Deed} {k : Int} {t : ByteArray} (h : (putO l k t).err ≠ 0) : (putO l k t).done = l := by
  unfold putO recO at h ⊢
  split
  · rfl
  · split
    · rfl
    · split
      · rfl
      · rename_i h1 h2 h3
        rw [if_neg h1, if_neg h2, if_neg h3] at h
        exact absurd rfl h
theorem del_bad {l : List Deed} {k : Int} (h : (delO l k).err ≠ 0) : (delO l k).done = l := by
  unfold delO recO at h ⊢
  split
  · rfl
  · split
    · rfl
    · split
      · rfl
      · rename_i h1 h2 h3
        rw [if_neg h1, if_neg h2, if_neg h3] at h
        exact absurd rfl h
theorem outOk_put {l : List Deed} {k : Int} {t : ByteArray} (hl : Good l) : OutOk (putO l k t) l k :=
  ⟨put_bad, fun h => by
    obtain ⟨h1, _, h3, h4⟩ := put_fine h
    exact ⟨h1, good_put l k t hl, by rw [h4]; simp; omega, _, by rw [h4]⟩⟩
theorem outOk_del {l : List Deed} {k : Int} (hl : Good l) : OutOk (delO l k) l k :=
  ⟨del_bad, fun h => by
    obtain ⟨h1, h3, h4⟩ := del_fine h
    exact ⟨h1, good_del l k hl, by rw [h4]; simp; omega, _, by rw [h4]⟩⟩
theorem errV_zeroN : errV 0 = .nilIface := by rw [errV, if_pos rfl]
theorem errV_errN {n : Int} (h : n ≠ 0) : errV n = .iface 85 (.int .i64 n) := by rw [errV, if_neg h]
set_option maxHeartbeats 4000000 in
theorem change_c (f : FuncId) (caps : Array Value) {S F : Nat → Prop} {w : World} {m b c : Nat} {l : List Deed} {cs : List (List En)} (h : Mc S F w m b c l cs) (hG : GoodM l cs) (node key : Int) (o : Out) (hO : OutOk o l key)
    (eg : ∀ args w, (callFunc f args).run Tryz.prog w = .ok (.enter f args) w) (hf : Calls Tryz.prog f (#[.pointer (some ⟨b, 0, none⟩)] ++ caps) w (Left b F w o)) :
    Calls Tryz.prog 42 #[.pointer (some ⟨m, 0, none⟩), .int .i64 node, .int .i64 key, .func (.func f) #[] caps] w fun e w' => e = .returned (.tuple #[.int .i64 (mDone o l cs node key).num, eV (mDone o l cs node key).err]) ∧ MeshTo S w w' m (mDone o l cs node key).done (mDone o l cs node key).cs := by
  have c0 := h.c0
  have c1 := h.c1
  have HM : Hid (Mc S F w m b c l cs) := h
  have HF : Hid (Calls Tryz.prog f (#[.pointer (some ⟨b, 0, none⟩)] ++ caps) w (Left b F w o)) := hf
  cases hn : nodeB cs.length node
  · have HN : Hid (nodeB cs.length node = false) := hn
    have HR : Hid (mDone o l cs node key = ⟨l, cs, 0, 1⟩) := by show mDone o l cs node key = _; rw [mDone, if_pos hn]
    rw [HR.out]
    clear hn h hG hf hO
    go_enter Tryz.func42, Tryz.ntmps42
    go_wp2_with (go_at_call 49; refine (isNode_b HN.out _ (by assumption)).mono ?_; rintro e w' ⟨rfl, hw⟩; rw [hw]; clear hw w')
    go_ret2
    exact ⟨rfl, MeshAt.to ⟨F, b, c, HM.out⟩ (Below.refl _ _)⟩
  · have HN : Hid (nodeB cs.length node = true) := hn
    obtain ⟨i, rfl, hi⟩ := node_nat hn
    have HG : Hid (GoodM l cs) := hG
    by_cases hz : o.err = 0
    · obtain ⟨hk, hg, h1, d, hd⟩ := hO.good hz
      obtain ⟨x0, x1, x2, x3, x4, HX⟩ : ∃ x0 x1 x2 x3 x4, Hid (wasE o.done key o.done.length = ⟨x0, x1, x2, x3, x4⟩) := ⟨_, _, _, _, _, rfl⟩
      have HK : Hid (stK key = true) := hk
      have HGd : Hid (GoodM o.done cs) := by show GoodM o.done cs; rw [hd] at hg h1 ⊢; exact hG.later hg h1
      have HR : Hid (mDone o l cs (i : Int) key = ⟨o.done, learnM o.done cs i key, o.num, 0⟩) := by
        show mDone o l cs (i : Int) key = _
        rw [mDone, if_neg (by rw [hn]; simp), if_neg (by rw [hz]; simp)]
      rw [HR.out]
      obtain ⟨on, HOn⟩ : ∃ on, Hid (o.num = on) := ⟨o.num, rfl⟩
      have HZ : Hid (errV o.err = .nilIface) := by show errV o.err = _; rw [hz]; exact errV_zeroN
      have HI : Hid (i < cs.length) := hi
      show Calls _ _ _ _ fun e w' => e = .returned (.tuple #[.int .i64 o.num, eV 0]) ∧ _
      rw [HOn.out, eV_zeroN]
      generalize cs.length = nc at HN c1
      clear hn h hG hf hO hz hk hg h1 hd
      go_enter Tryz.func42, Tryz.ntmps42
      go_wp2_with (go_at_call 49; refine (isNode_b HN.out _ (by assumption)).mono ?_; rintro e w' ⟨rfl, hw⟩; rw [hw]; clear hw w')
      refine Calls.mono HF.out ?_
      rintro e w1 ⟨rfl, F', hs, hF, hkp⟩
      rw [HZ.out, HOn.out]
      have M1 : Hid (Mc (fun x => S x ∨ F' x) F' w1 m b c o.done cs) := HM.out.store hs hF hkp
      have HKp : Hid (Kept S w w1 ∧ ∀ x, (S x ∨ F' x) → S x ∨ w.heap.size ≤ x) := HM.out.kept (l' := l) hF hkp
      clear hs hF hkp c0 c1
      go_wp2_with fail
      refine (learn_c M1.out HGd.out i HI.out HK.out HX.out).mono ?_
      rintro e w2 ⟨rfl, hto⟩
      have T2 : Hid (MeshTo S w w2 m o.done (learnM o.done cs i key)) := MeshTo.next HKp.out.1 HKp.out.2 hto
      clear hto
      go_wp2_with fail
      go_ret2
      exact ⟨rfl, T2.out.below ((Below.refl _ _).alloc (Nat.le_refl _) _)⟩
    · have HB : Hid (o.done = l) := hO.bad hz
      have HR : Hid (mDone o l cs (i : Int) key = ⟨l, cs, 0, o.err⟩) := by
        show mDone o l cs (i : Int) key = _
        rw [mDone, if_neg (by rw [hn]; simp), if_pos hz]
      rw [HR.out]
      show Calls _ _ _ _ fun e w' => e = .returned (.tuple #[.int .i64 0, eV o.err]) ∧ _
      obtain ⟨on, HOn⟩ : ∃ on, Hid (o.num = on) := ⟨o.num, rfl⟩
      obtain ⟨er, HEr⟩ : ∃ er, Hid (o.err = er) := ⟨o.err, rfl⟩
      rw [HEr.out] at hz
      have HZ : Hid (errV er = .iface 85 (.int .i64 er)) := errV_errN hz
      rw [HEr.out, eV_errN hz]
      generalize cs.length = nc at HN c1
      clear hn h hG hf hO hz hi
      go_enter Tryz.func42, Tryz.ntmps42
      go_wp2_with (go_at_call 49; refine (isNode_b HN.out _ (by assumption)).mono ?_; rintro e w' ⟨rfl, hw⟩; rw [hw]; clear hw w')
      refine Calls.mono HF.out ?_
      rintro e w1 ⟨rfl, F', hs, hF, hkp⟩
      rw [HOn.out, HEr.out, HZ.out]
      rw [HB.out] at hs
      have M1 : Hid (Mc (fun x => S x ∨ F' x) F' w1 m b c l cs) := HM.out.store hs hF hkp
      have HKp : Hid (Kept S w w1 ∧ ∀ x, (S x ∨ F' x) → S x ∨ w.heap.size ≤ x) := HM.out.kept (l' := l) hF hkp
      clear hs hF hkp c0 c1
      go_wp2_with fail
      go_ret2
      exact ⟨rfl, MeshTo.next HKp.out.1 HKp.out.2 (MeshAt.to ⟨F', b, c, M1.out⟩ (Below.refl _ _))⟩
set_option maxHeartbeats 1000000 in
theorem put1_c (b K T : Nat) (key : Int) (t : ByteArray) (l : List Deed) (F : Nat → Prop) (w : World) (ht : t.size ≤ maxLen) (ck : w.cell? ⟨K, 0, none⟩ = some (.int .i64 key)) (ct : w.cell? ⟨T, 0, none⟩ = some (.string t)) (h : StoreIs w b l F) :
    Calls Tryz.prog 43 #[.pointer (some ⟨b, 0, none⟩), .pointer (some ⟨K, 0, none⟩), .pointer (some ⟨T, 0, none⟩)] w (Left b F w (putO l key t)) := by
  have HS : Hid (StoreIs w b l F) := h
  have HT : Hid (t.size ≤ maxLen) := ht
  clear h ht
  go_enter Tryz.func43, Tryz.ntmps43
  go_wp2_with fail
  refine (stPut_c b key t l F _ HT.out HS.out).mono ?_
  rintro e w1 ⟨rfl, HF⟩
  have HF' : Hid _ := HF
  clear HF
  go_wp2_with fail
  go_ret2
  exact ⟨rfl, HF'.out⟩
set_option maxHeartbeats 1000000 in
theorem mPut_c {S : Nat → Prop} {w : World} {m : Nat} {l : List Deed} {cs : List (List En)} (h : MeshAt S w m l cs) (hG : GoodM l cs) (node key : Int) (t : ByteArray) (ht : t.size ≤ maxLen) :
    Calls Tryz.prog 10 #[.pointer (some ⟨m, 0, none⟩), .int .i64 node, .int .i64 key, .string t] w fun e w' => e = .returned (.tuple #[.int .i64 (mPut l cs node key t).num, eV (mPut l cs node key t).err]) ∧ MeshTo S w w' m (mPut l cs node key t).done (mPut l cs node key t).cs := by
  obtain ⟨F, b, c, h⟩ := h
  have HM : Hid (Mc S F ((w.alloc (.cells #[.int .i64 key] 3)).alloc (.cells #[.string t] 9)) m b c l cs) := h.blocks (by simp; omega) (fun x hx => by have := h.lt x hx; rw [Below.heap_alloc _ _ _ (by simp; omega), Below.heap_alloc _ _ _ this])
  have HG : Hid (GoodM l cs) := hG
  have HT : Hid (t.size ≤ maxLen) := ht
  have HB : Hid (Below w.heap.size w ((w.alloc (.cells #[.int .i64 key] 3)).alloc (.cells #[.string t] 9))) := ((Below.refl _ _).alloc (Nat.le_refl _) _).alloc (by simp) _
  clear h hG ht
  unfold mPut
  have HO : Hid (OutOk (putO l key t) l key) := outOk_put HG.out.good
  obtain ⟨R, HR⟩ : ∃ R, Hid (mDone (putO l key t) l cs node key = R) := ⟨_, rfl⟩
  rw [HR.out]
  obtain ⟨R1, R2, R3, R4⟩ := R
  dsimp only
  obtain ⟨ev, HE⟩ : ∃ ev, Hid (eV R4 = ev) := ⟨_, rfl⟩
  rw [HE.out]
  go_enter Tryz.func10, Tryz.ntmps10
  go_wp2_with fail
  refine (change_c 43 #[.pointer (some ⟨w.heap.size, 0, none⟩), .pointer (some ⟨w.heap.size + 1, 0, none⟩)] HM.out HG.out node key (putO l key t) HO.out (enters_of Tryz.func43 (by kernel_rfl) rfl) (put1_c b w.heap.size (w.heap.size + 1) key t l F _ HT.out (by simp) (by simp) HM.out.st)).mono ?_
  rw [HR.out]
  rintro e w1 ⟨rfl, hto⟩
  dsimp only at hto ⊢
  rw [HE.out]
  have HTo : Hid (MeshTo S w w1 m R1 R2) := MeshTo.after HB.out hto
  clear hto
  go_wp2_with fail
  go_ret2
  exact ⟨rfl, HTo.out⟩
set_option maxHeartbeats 1000000 in
theorem del1_c (b K : Nat) (key : Int) (l : List Deed) (F : Nat → Prop) (w : World) (ck : w.cell? ⟨K, 0, none⟩ = some (.int .i64 key)) (h : StoreIs w b l F) :
    Calls Tryz.prog 45 #[.pointer (some ⟨b, 0, none⟩), .pointer (some ⟨K, 0, none⟩)] w (Left b F w (delO l key)) := by
  have HS : Hid (StoreIs w b l F) := h
  clear h
  go_enter Tryz.func45, Tryz.ntmps45
  go_wp2_with fail
  refine (delete_c b key l F _ HS.out).mono ?_
  rintro e w1 ⟨rfl, HF⟩
  have HF' : Hid _ := HF
  clear HF
  go_wp2_with fail
  go_ret2
  exact ⟨rfl, HF'.out⟩
set_option maxHeartbeats 1000000 in
theorem mDel_c {S : Nat → Prop} {w : World} {m : Nat} {l : List Deed} {cs : List (List En)} (h : MeshAt S w m l cs) (hG : GoodM l cs) (node key : Int) :
    Calls Tryz.prog 11 #[.pointer (some ⟨m, 0, none⟩), .int .i64 node, .int .i64 key] w fun e w' => e = .returned (.tuple #[.int .i64 (mDel l cs node key).num, eV (mDel l cs node key).err]) ∧ MeshTo S w w' m (mDel l cs node key).done (mDel l cs node key).cs := by
  obtain ⟨F, b, c, h⟩ := h
  have HM : Hid (Mc S F (w.alloc (.cells #[.int .i64 key] 3)) m b c l cs) := h.blocks (by simp) (fun x hx => by have := h.lt x hx; rw [Below.heap_alloc _ _ _ this])
  have HG : Hid (GoodM l cs) := hG
  have HB : Hid (Below w.heap.size w (w.alloc (.cells #[.int .i64 key] 3))) := (Below.refl _ _).alloc (Nat.le_refl _) _
  clear h hG
  unfold mDel
  have HO : Hid (OutOk (delO l key) l key) := outOk_del HG.out.good
  obtain ⟨R, HR⟩ : ∃ R, Hid (mDone (delO l key) l cs node key = R) := ⟨_, rfl⟩
  rw [HR.out]
  obtain ⟨R1, R2, R3, R4⟩ := R
  dsimp only
  obtain ⟨ev, HE⟩ : ∃ ev, Hid (eV R4 = ev) := ⟨_, rfl⟩
  rw [HE.out]
  go_enter Tryz.func11, Tryz.ntmps11
  go_wp2_with fail
  refine (change_c 45 #[.pointer (some ⟨w.heap.size, 0, none⟩)] HM.out HG.out node key (delO l key) HO.out (enters_of Tryz.func45 (by kernel_rfl) rfl) (del1_c b w.heap.size key l F _ (by simp) HM.out.st)).mono ?_
  rw [HR.out]
  rintro e w1 ⟨rfl, hto⟩
  dsimp only at hto ⊢
  rw [HE.out]
  have HTo : Hid (MeshTo S w w1 m R1 R2) := MeshTo.after HB.out hto
  clear hto
  go_wp2_with fail
  go_ret2
  exact ⟨rfl, HTo.out⟩
end Go.Proofs.YtpcnfoaoajfhlaaGreatDoor

namespace Go.Proofs.YtpcnfoaoajfhlaaGreatDoor
set_option linter.unusedVariables false
set_option linter.unusedSimpArgs false
open Go.RowKit

theorem mNew_bad (n : Int) (w : World) (h : n < 1 ∨ 6 < n) : Calls Tryz.prog 7 #[.int .i64 n] w fun e w' => e = .returned (.tuple #[.pointer none, .iface 85 (.int .i64 1)]) ∧ w' = w := by
  by_cases h1 : n < 1
  · have hd1 : decide (n < 1) = true := by simpa using h1
    go_enter Tryz.func7, Tryz.ntmps7
    go_wp2_with fail
    go_ret2
    exact ⟨rfl, rfl⟩
  · have hd1 : decide (n < 1) = false := by simpa using h1
    have h6 : 6 < n := by omega
    have hd2 : decide (6 < n) = true := by simpa using h6
    go_enter Tryz.func7, Tryz.ntmps7
    go_wp2_with fail
    go_ret2
    exact ⟨rfl, rfl⟩
theorem mc_new {w2 : World} {b c n m : Nat} (hm : m = w2.heap.size) (hs : StoreIs w2 b [] (fun x => x = b)) (hl : ∀ k, k < n → w2.cell? ⟨c, k, none⟩ = some (.slice none 0 0)) (hf : ∀ k, w2.frozen? ⟨c, k, none⟩ = false) (hc : c < w2.heap.size) (hbc : b ≠ c) (hn : n ≤ 6) :
    Mc (fun x => x = b ∨ x = c ∨ x = m) (fun x => x = b) (w2.alloc (.cells #[.pointer (some ⟨b, 0, none⟩), .slice (some ⟨c, 0, none⟩) n n] 89)) m b c [] (List.replicate n []) := by
  subst hm
  have hb : b < w2.heap.size := hs.2.2.2.2.1 b rfl
  have hB : Below w2.heap.size w2 (w2.alloc (.cells #[.pointer (some ⟨b, 0, none⟩), .slice (some ⟨c, 0, none⟩) n n] 89)) := (Below.refl _ _).alloc (Nat.le_refl _) _
  refine ⟨by simp, by simp, by simpa using hn, fun j => (World.frozen?_of_block (a := ⟨c, j, none⟩) (hB.block c hc)).trans (hf j), by omega, .inr (.inr rfl), .inr (.inl rfl), hs.below hB, fun x hx => ⟨.inl hx, by omega, by omega⟩, fun j hj => ?_, fun x hx => ?_⟩
  · refine ⟨.slice none 0 0, (World.cell?_of_block (a := ⟨c, j, none⟩) (hB.block c hc)).trans (hl j (by simpa using hj)), ?_, fun g hg => by simp [Value.ownBlock] at hg⟩
    rw [List.getElem_replicate]
    exact RowIs.nil _
  · have : (w2.alloc (.cells #[.pointer (some ⟨b, 0, none⟩), .slice (some ⟨c, 0, none⟩) n n] 89)).heap.size = w2.heap.size + 1 := by simp
    omega
theorem below_drewM {B : Nat} {w w' : World} (h : Below B w w') : Below B w w'.drew := ⟨h.os, h.tape, h.output, h.size, h.block⟩
theorem infoRowM : (Tryz.prog.info? 32).map (fun i => (i.zero, i.size, i.bytes)) = some (some (.slice none 0 0), 1, 24) := by kernel_rfl
set_option maxHeartbeats 2000000 in
theorem mNew_ok (n : Nat) (w : World) (h1 : 1 ≤ n) (h6 : n ≤ 6) : Calls Tryz.prog 7 #[.int .i64 n] w fun e w' => ∃ m, e = .returned (.tuple #[.pointer (some ⟨m, 0, none⟩), .nilIface]) ∧ (∃ S, MeshAt S w' m [] (List.replicate n []) ∧ ∀ x, S x → w.heap.size ≤ x) ∧ Below w.heap.size w w' := by
  have hd1 : decide ((n : Int) < 1) = false := by simp; omega
  have hd2 : decide ((6 : Int) < (n : Int)) = false := by simp; omega
  have hmk := run_make_row' (P := Tryz.prog) 35 32 (.slice none 0 0) 24 Tryz.underlying35 infoRowM rfl .i64 .i64 n (by omega) (by omega)
  go_enter Tryz.func7, Tryz.ntmps7
  go_upto_region 3 with fail
  go_region_with (go_at_call 37; refine (new_c _).mono ?_; rintro e w1 ⟨rfl, rfl⟩)
  all_goals go_wp2_with fail
  all_goals go_ret2
  · have hw1 : (w.alloc (.cells #[.int .i64 0, .slice none 0 0, .slice none 0 0, .slice none 0 0, .slice none 0 0, .slice none 0 0, .slice none 0 0, .slice none 0 0, .slice none 0 0] 151)).heap.size = w.heap.size + 1 := by simp
    have hs := (new_is w).below ((Below.refl _ _).alloc (Nat.le_refl _) (.cells (madeCells #[.slice none 0 0] n) 32))
    refine ⟨w.heap.size + 1 + 1, by simp [Act.put, Array.setIfInBounds, Array.getD], ⟨_, MeshAt.blocks ⟨_, _, _, mc_new (b := w.heap.size) (c := w.heap.size + 1) (n := n) (m := w.heap.size + 1 + 1) (by simp) hs (fun k hk => ?_) (fun k => by simp) (by simp) (by omega) h6⟩ (Nat.le_refl _) (fun _ _ => rfl), fun x hx => ?_⟩, ?_⟩
    · rw [World.cell?_alloc_at _ _ _ _ (by simp)]
      simp [madeCells, hk, Nat.mod_one]
    · rcases hx with hx | hx | hx <;> omega
    · exact below_drewM (by go_grown)
  · have hs : StoreIs ((w.alloc (.cells (madeCells #[.slice none 0 0] n) 32)).alloc (.cells #[.int .i64 0, .slice none 0 0, .slice none 0 0, .slice none 0 0, .slice none 0 0, .slice none 0 0, .slice none 0 0, .slice none 0 0, .slice none 0 0] 151)) (w.heap.size + 1) [] (fun x => x = w.heap.size + 1) := by
      have := new_is (w.alloc (.cells (madeCells #[.slice none 0 0] n) 32))
      simpa using this
    refine ⟨w.heap.size + 1 + 1, by simp [Act.put, Array.setIfInBounds, Array.getD], ⟨_, MeshAt.blocks ⟨_, _, _, mc_new (b := w.heap.size + 1) (c := w.heap.size) (n := n) (m := w.heap.size + 1 + 1) (by simp) hs (fun k hk => ?_) (fun k => ?_) (by simp; omega) (by omega) h6⟩ (Nat.le_refl _) (fun _ _ => rfl), fun x hx => ?_⟩, ?_⟩
    · refine (World.cell?_of_block (a := ⟨w.heap.size, k, none⟩) (w := w.alloc (.cells (madeCells #[.slice none 0 0] n) 32)) (Below.heap_alloc _ _ _ (by simp))).trans ?_
      rw [World.cell?_alloc_at _ _ _ _ rfl]
      simp [madeCells, hk, Nat.mod_one]
    · refine (World.frozen?_of_block (a := ⟨w.heap.size, k, none⟩) (w := w.alloc (.cells (madeCells #[.slice none 0 0] n) 32)) (Below.heap_alloc _ _ _ (by simp))).trans ?_
      simp
    · rcases hx with hx | hx | hx <;> omega
    · exact below_drewM (by go_grown)
/-- what fresh.Get tells of a right cache -/
theorem fresh_some {c : List En} {key floor : Int} {x : En} (hc : GoodL c) (hk : stK key = true) (h0 : 0 ≤ floor) (h1 : floor ≤ 1000) (hg : getE c key = some x) (hf : floor ≤ x.a) : freshGet c key floor = (x, 0) := by
  have hk' : isKeyB key = true := hk
  have hs : isSeqB floor = true := by simp [isSeqB]; omega
  have hcg : cacheGet c key = (x, 0) := by rw [cacheGet, if_neg (by simpa using hc.bad), hk', if_neg (by simp), hg]
  rw [freshGet, hs, if_neg (by simp), hcg, if_neg (by simp), if_neg (by show ¬ x.a < floor; omega)]
theorem fresh_other {c : List En} {key floor : Int} (hc : GoodL c) (hk : stK key = true) (h0 : 0 ≤ floor) (h1 : floor ≤ 1000) (hg : ∀ x, getE c key = some x → x.a < floor) : ∃ n, n ≠ 0 ∧ freshGet c key floor = (zeroEn, n) := by
  have hk' : isKeyB key = true := hk
  have hs : isSeqB floor = true := by simp [isSeqB]; omega
  cases hq : getE c key with
  | none =>
    have hcg : cacheGet c key = (zeroEn, 5) := by rw [cacheGet, if_neg (by simpa using hc.bad), hk', if_neg (by simp), hq]
    exact ⟨5, by omega, by rw [freshGet, hs, if_neg (by simp), hcg, if_pos (by simp)]⟩
  | some x =>
    have hcg : cacheGet c key = (x, 0) := by rw [cacheGet, if_neg (by simpa using hc.bad), hk', if_neg (by simp), hq]
    exact ⟨8, by omega, by rw [freshGet, hs, if_neg (by simp), hcg, if_neg (by simp), if_pos (hg x hq)]⟩
theorem freshGet_o {l : List En} {key fl x0 x1 x2 n : Int} {x3 : Bool} {x4 : ByteArray} (h : freshGet l key fl = (⟨x0, x1, x2, x3, x4⟩, n)) (v : Value) (w : World) (hr : RowIs w v l) :
    Calls Tryz.prog 52 #[v, .int .i64 key, .int .i64 fl] w fun e w' => e = .returned (.tuple #[.agg #[.int .i64 x0, .int .i64 x1, .int .i64 x2, .bool x3, .string x4], eV n]) ∧ Below w.heap.size w w' := by
  have c := freshGet_c v l key fl w hr
  rw [h] at c
  exact c
end Go.Proofs.YtpcnfoaoajfhlaaGreatDoor

namespace Go.Proofs.YtpcnfoaoajfhlaaGreatDoor
set_option linter.unusedVariables false
set_option linter.unusedSimpArgs false
open Go.RowKit

/-- behind learn: the result's box is filled -/
theorem get_end {S : Nat → Prop} {w w1 w2 w3 : World} {m P : Nat} {l : List Deed} {cs : List (List En)} (hS : ∀ x, S x → x < w.heap.size) (hw : w.heap.size ≤ P) (hP : P < w1.heap.size) (hb : Below w.heap.size w w1) (h : MeshTo S w1 w2 m l cs) (hb2 : Below w2.heap.size w2 w3) (x0 x1 x2 x3 x4 : Value) :
    MeshTo S w (((((w3.setCell ⟨P, 0, none⟩ x0).setCell ⟨P, 1, none⟩ x1).setCell ⟨P, 2, none⟩ x2).setCell ⟨P, 3, none⟩ x3).setCell ⟨P, 4, none⟩ x4) m l cs := by
  obtain ⟨hk, S', h1, h2⟩ := h.below hb2
  have hs := hb.size
  have hk' : Kept S w w3 := (Kept.of_below (F := S) hb).trans hk (fun _ _ h => h)
  refine ⟨((((hk'.setC P 0 (.inr hw) x0).setC P 1 (.inr hw) x1).setC P 2 (.inr hw) x2).setC P 3 (.inr hw) x3).setC P 4 (.inr hw) x4, S', h1.blocks (by simp only [World.size_setCell]; exact Nat.le_refl _) (fun y hy => heap_setE _ P y (fun e => ?_) _ _ _ _ _), fun x hx => ?_⟩
  · subst e
    rcases h2 y hy with h' | h'
    · have := hS y h'
      omega
    · omega
  · rcases h2 x hx with h' | h'
    · exact .inl h'
    · exact .inr (by omega)
set_option maxHeartbeats 4000000 in
theorem mGet_bad {S : Nat → Prop} {w : World} {m : Nat} {l : List Deed} {cs : List (List En)} (h : MeshAt S w m l cs) (node key floor : Int) (hb : nodeB cs.length node = false ∨ stK key = false ∨ floor < 0 ∨ (l.length : Int) < floor) :
    Calls Tryz.prog 13 #[.pointer (some ⟨m, 0, none⟩), .int .i64 node, .int .i64 key, .int .i64 floor] w fun e w' => e = .returned (.tuple #[.agg #[.int .i64 0, .int .i64 0, .int .i64 0, .bool false, .string ⟨#[]⟩], .bool false, .iface 85 (.int .i64 1)]) ∧ Below w.heap.size w w' := by
  obtain ⟨F, b, c, h⟩ := h
  have hml := h.lt m h.sm
  have HB0 : Hid (Below w.heap.size w (w.alloc (.cells #[.int .i64 0, .int .i64 0, .int .i64 0, .bool false, .string ⟨#[]⟩] 46))) := (Below.refl _ _).alloc (Nat.le_refl _) _
  have HM : Hid (Mc S F (w.alloc (.cells #[.int .i64 0, .int .i64 0, .int .i64 0, .bool false, .string ⟨#[]⟩] 46)) m b c l cs) := h.blocks HB0.out.size (fun x hx => HB0.out.block x (h.lt x hx))
  have c0 := h.c0
  have HS : Hid (StoreIs (w.alloc (.cells #[.int .i64 0, .int .i64 0, .int .i64 0, .bool false, .string ⟨#[]⟩] 46)) b l F) := HM.out.st
  have HC1 : Hid ((w.alloc (.cells #[.int .i64 0, .int .i64 0, .int .i64 0, .bool false, .string ⟨#[]⟩] 46)).cell? ⟨m, 1, none⟩ = some (.slice (some ⟨c, 0, none⟩) cs.length cs.length)) := HM.out.c1
  clear h HM
  cases hn : nodeB cs.length node
  · have HN : Hid (nodeB cs.length node = false) := hn
    clear hn hb
    go_enter Tryz.func13, Tryz.ntmps13
    go_wp2_with (go_at_call 49; refine (isNode_b HN.out _ HC1.out).mono ?_; rintro e w' ⟨rfl, hw⟩; rw [hw]; clear hw w')
    refine bodyPost_ret (v := .tuple #[.agg #[.int .i64 0, .int .i64 0, .int .i64 0, .bool false, .string ⟨#[]⟩], .bool false, .iface 85 (.int .i64 1)]) (by simp [results, Tryz.results13, go_sem]) rfl ?_
    exact ⟨rfl, by go_grown⟩
  · have HN : Hid (nodeB cs.length node = true) := hn
    rw [hn] at hb
    replace hb := hb.resolve_left (by simp)
    clear hn
    cases hk : stK key
    · have HK : Hid (stK key = false) := hk
      clear hk hb
      go_enter Tryz.func13, Tryz.ntmps13
      go_wp2_with (first | (go_at_call 49; refine (isNode_b HN.out _ HC1.out).mono ?_; rintro e w' ⟨rfl, hw⟩; rw [hw]; clear hw w') | (go_at_call 50; refine (mKey_b HK.out _).mono ?_; rintro e w' ⟨rfl, hw⟩; rw [hw]; clear hw w'))
      refine bodyPost_ret (v := .tuple #[.agg #[.int .i64 0, .int .i64 0, .int .i64 0, .bool false, .string ⟨#[]⟩], .bool false, .iface 85 (.int .i64 1)]) (by simp [results, Tryz.results13, go_sem]) rfl ?_
      exact ⟨rfl, by go_grown⟩
    · have HK : Hid (stK key = true) := hk
      rw [hk] at hb
      replace hb := hb.resolve_left (by simp)
      clear hk
      by_cases hf : floor < 0
      · have hd : decide (floor < 0) = true := by simpa using hf
        clear hb
        go_enter Tryz.func13, Tryz.ntmps13
        go_wp2_with (first | (go_at_call 49; refine (isNode_b HN.out _ HC1.out).mono ?_; rintro e w' ⟨rfl, hw⟩; rw [hw]; clear hw w') | (go_at_call 50; refine (mKey_b HK.out _).mono ?_; rintro e w' ⟨rfl, hw⟩; rw [hw]; clear hw w'))
        refine bodyPost_ret (v := .tuple #[.agg #[.int .i64 0, .int .i64 0, .int .i64 0, .bool false, .string ⟨#[]⟩], .bool false, .iface 85 (.int .i64 1)]) (by simp [results, Tryz.results13, go_sem]) rfl ?_
        exact ⟨rfl, by go_grown⟩
      · have hd : decide (floor < 0) = false := by simpa using hf
        have hl2 := hb.resolve_left hf
        have hd2 : decide ((l.length : Int) < floor) = true := by simpa using hl2
        clear hb
        go_enter Tryz.func13, Tryz.ntmps13
        go_wp2_with (first | (go_at_call 49; refine (isNode_b HN.out _ HC1.out).mono ?_; rintro e w' ⟨rfl, hw⟩; rw [hw]; clear hw w') | (go_at_call 50; refine (mKey_b HK.out _).mono ?_; rintro e w' ⟨rfl, hw⟩; rw [hw]; clear hw w') | (go_at_call 51; refine (seq_c b l F _ HS.out).mono ?_; rintro e w' ⟨rfl, hw⟩; rw [hw]; clear hw w'))
        refine bodyPost_ret (v := .tuple #[.agg #[.int .i64 0, .int .i64 0, .int .i64 0, .bool false, .string ⟨#[]⟩], .bool false, .iface 85 (.int .i64 1)]) (by simp [results, Tryz.results13, go_sem]) rfl ?_
        exact ⟨rfl, by go_grown⟩
set_option maxHeartbeats 8000000 in
theorem mGet_own {S : Nat → Prop} {w : World} {m : Nat} {l : List Deed} {cs : List (List En)} (h : MeshAt S w m l cs) (hG : GoodM l cs) (node key floor : Int) (hn : nodeB cs.length node = true) (hk : stK key = true) (h0 : 0 ≤ floor) (h1 : floor ≤ l.length) {x0 x1 x2 : Int} {x3 : Bool} {x4 : ByteArray} (hg : getE (cacheN cs node) key = some ⟨x0, x1, x2, x3, x4⟩) (hf : floor ≤ x2) :
    Calls Tryz.prog 13 #[.pointer (some ⟨m, 0, none⟩), .int .i64 node, .int .i64 key, .int .i64 floor] w fun e w' => e = .returned (.tuple #[.agg #[.int .i64 x0, .int .i64 x1, .int .i64 x2, .bool x3, .string x4], .bool true, .nilIface]) ∧ Below w.heap.size w w' := by
  obtain ⟨F, b, c, h⟩ := h
  obtain ⟨i, rfl, hi⟩ := node_nat hn
  rw [cacheN_at hi] at hg
  have HFr : Hid (freshGet cs[i] key floor = (⟨x0, x1, x2, x3, x4⟩, 0)) := fresh_some (hG.all cs[i] (List.getElem_mem hi)).good hk h0 (by have := hG.len; omega) hg hf
  obtain ⟨v, hv, hr, _⟩ := h.rows i hi
  have hml := h.lt m h.sm
  have hcl := h.lt c h.sc
  have HB0 : Hid (Below w.heap.size w (w.alloc (.cells #[.int .i64 0, .int .i64 0, .int .i64 0, .bool false, .string ⟨#[]⟩] 46))) := (Below.refl _ _).alloc (Nat.le_refl _) _
  have HM : Hid (Mc S F (w.alloc (.cells #[.int .i64 0, .int .i64 0, .int .i64 0, .bool false, .string ⟨#[]⟩] 46)) m b c l cs) := h.blocks HB0.out.size (fun x hx => HB0.out.block x (h.lt x hx))
  have c0 := h.c0
  have c1 := h.c1
  have HR : Hid (RowIs (w.alloc (.cells #[.int .i64 0, .int .i64 0, .int .i64 0, .bool false, .string ⟨#[]⟩] 46)) v cs[i]) := hr.below HB0.out
  have HS : Hid (StoreIs (w.alloc (.cells #[.int .i64 0, .int .i64 0, .int .i64 0, .bool false, .string ⟨#[]⟩] 46)) b l F) := HM.out.st
  have HC1 : Hid ((w.alloc (.cells #[.int .i64 0, .int .i64 0, .int .i64 0, .bool false, .string ⟨#[]⟩] 46)).cell? ⟨m, 1, none⟩ = some (.slice (some ⟨c, 0, none⟩) cs.length cs.length)) := HM.out.c1
  have HN : Hid (nodeB cs.length (i : Int) = true) := hn
  have HK : Hid (stK key = true) := hk
  have hd : decide (floor < 0) = false := by simp; omega
  have hd2 : decide ((l.length : Int) < floor) = false := by simp; omega
  have hi2 : (i : Int) < (cs.length : Int) := by omega
  have X0 : Hid (BoxAt (w.alloc (.cells #[.int .i64 0, .int .i64 0, .int .i64 0, .bool false, .string ⟨#[]⟩] 46)) w.heap.size 0 0 0 false ⟨#[]⟩) := box_new w 0 0 0 false ⟨#[]⟩ _ rfl
  generalize cs[i] = y at HFr HR
  clear h HM hn hk h0 h1 hg hf hr hG hi
  go_enter Tryz.func13, Tryz.ntmps13
  go_wp2_with (first | (go_at_call 49; refine (isNode_b HN.out _ HC1.out).mono ?_; rintro e w' ⟨rfl, hw⟩; rw [hw]; clear hw w') | (go_at_call 50; refine (mKey_b HK.out _).mono ?_; rintro e w' ⟨rfl, hw⟩; rw [hw]; clear hw w') | (go_at_call 51; refine (seq_c b l F _ HS.out).mono ?_; rintro e w' ⟨rfl, hw⟩; rw [hw]; clear hw w'))
  refine (freshGet_o HFr.out _ _ HR.out).mono ?_
  rintro e w1 ⟨rfl, hb⟩
  rw [eV_zeroN]
  have B1 : Hid (Below w.heap.size w w1) := HB0.out.trans (hb.mono (by simp))
  have X1 : Hid (BoxAt w1 w.heap.size 0 0 0 false ⟨#[]⟩) := X0.out.below hb X0.out.lt
  have p1 : ¬ w.heap.size = w1.heap.size := by have := hb.size; simp at this; omega
  clear hb hv c0 c1 X0 HB0
  go_upto_region 5 with fail
  obtain ⟨w2, HW2⟩ : ∃ w2, w2 = w1.alloc (.cells #[.int .i64 x0, .int .i64 x1, .int .i64 x2, .bool x3, .string x4] 46) := ⟨_, rfl⟩
  rw [← HW2]
  have B2 : Hid (Below w.heap.size w w2) := by rw [HW2]; exact B1.out.alloc B1.out.size _
  have E2 : Hid (BoxAt w2 w.heap.size 0 0 0 false ⟨#[]⟩) := by rw [HW2]; exact X1.out.alloc _
  have F2 : Hid (BoxAt w2 w1.heap.size x0 x1 x2 x3 x4) := by rw [HW2]; exact box_new w1 x0 x1 x2 x3 x4 _ rfl
  clear HW2 B1 X1
  obtain ⟨e0, e1, e2, e3, e4, ef⟩ := E2.out
  obtain ⟨f0, f1, f2, f3, f4, ff⟩ := F2.out
  obtain ⟨z0, z1, z2, z3, z4, zf⟩ := (E2.out.set x0 x1 x2 x3 x4)
  go_wp2_with fail
  refine bodyPost_ret (v := .tuple #[.agg #[.int .i64 x0, .int .i64 x1, .int .i64 x2, .bool x3, .string x4], .bool true, .nilIface]) (by simp [results, Tryz.results13, go_sem, z0, z1, z2, z3, z4]) rfl ?_
  refine ⟨rfl, ?_⟩
  have hle := B2.out.size
  have hb := B2.out
  go_grown
set_option maxHeartbeats 8000000 in
theorem mGet_learn {S : Nat → Prop} {w : World} {m : Nat} {l : List Deed} {cs : List (List En)} (h : MeshAt S w m l cs) (hG : GoodM l cs) (node key floor : Int) (hn : nodeB cs.length node = true) (hk : stK key = true) (h0 : 0 ≤ floor) (h1 : floor ≤ l.length) {x0 x1 x2 : Int} {x3 : Bool} {x4 : ByteArray} (hg : ∀ x, getE (cacheN cs node) key = some x → x.a < floor) (hx : wasE l key l.length = ⟨x0, x1, x2, x3, x4⟩) :
    Calls Tryz.prog 13 #[.pointer (some ⟨m, 0, none⟩), .int .i64 node, .int .i64 key, .int .i64 floor] w fun e w' => e = .returned (.tuple #[.agg #[.int .i64 x0, .int .i64 x1, .int .i64 x2, .bool x3, .string x4], .bool false, .nilIface]) ∧ MeshTo S w w' m l (learnM l cs node key) := by
  obtain ⟨F, b, c, h⟩ := h
  obtain ⟨i, rfl, hi⟩ := node_nat hn
  rw [cacheN_at hi] at hg
  obtain ⟨ne, hne, hfr⟩ := fresh_other (hG.all cs[i] (List.getElem_mem hi)).good hk h0 (by have := hG.len; omega) hg
  have HFr : Hid (freshGet cs[i] key floor = (⟨0, 0, 0, false, ⟨#[]⟩⟩, ne)) := hfr
  have HNe : Hid (eV ne = .iface 85 (.int .i64 ne)) := eV_errN hne
  obtain ⟨v, hv, hr, _⟩ := h.rows i hi
  have hml := h.lt m h.sm
  have hcl := h.lt c h.sc
  have HB0 : Hid (Below w.heap.size w (w.alloc (.cells #[.int .i64 0, .int .i64 0, .int .i64 0, .bool false, .string ⟨#[]⟩] 46))) := (Below.refl _ _).alloc (Nat.le_refl _) _
  have HMw : Hid (Mc S F w m b c l cs) := h
  have HM : Hid (Mc S F (w.alloc (.cells #[.int .i64 0, .int .i64 0, .int .i64 0, .bool false, .string ⟨#[]⟩] 46)) m b c l cs) := h.blocks HB0.out.size (fun x hx => HB0.out.block x (h.lt x hx))
  have HG : Hid (GoodM l cs) := hG
  have HI : Hid (i < cs.length) := hi
  have HX : Hid (wasE l key l.length = ⟨x0, x1, x2, x3, x4⟩) := hx
  have c0 := h.c0
  have c1 := h.c1
  have HR : Hid (RowIs (w.alloc (.cells #[.int .i64 0, .int .i64 0, .int .i64 0, .bool false, .string ⟨#[]⟩] 46)) v cs[i]) := hr.below HB0.out
  have HC1 : Hid ((w.alloc (.cells #[.int .i64 0, .int .i64 0, .int .i64 0, .bool false, .string ⟨#[]⟩] 46)).cell? ⟨m, 1, none⟩ = some (.slice (some ⟨c, 0, none⟩) cs.length cs.length)) := HM.out.c1
  have HN : Hid (nodeB cs.length (i : Int) = true) := hn
  have HK : Hid (stK key = true) := hk
  have hd : decide (floor < 0) = false := by simp; omega
  have hd2 : decide ((l.length : Int) < floor) = false := by simp; omega
  have hi2 : (i : Int) < (cs.length : Int) := by omega
  have X0 : Hid (BoxAt (w.alloc (.cells #[.int .i64 0, .int .i64 0, .int .i64 0, .bool false, .string ⟨#[]⟩] 46)) w.heap.size 0 0 0 false ⟨#[]⟩) := box_new w 0 0 0 false ⟨#[]⟩ _ rfl
  generalize cs[i] = y at HFr HR
  clear h hn hk h0 h1 hg hr hG hi hx hne hfr
  go_enter Tryz.func13, Tryz.ntmps13
  go_wp2_with (first | (go_at_call 49; refine (isNode_b HN.out _ HC1.out).mono ?_; rintro e w' ⟨rfl, hw⟩; rw [hw]; clear hw w') | (go_at_call 50; refine (mKey_b HK.out _).mono ?_; rintro e w' ⟨rfl, hw⟩; rw [hw]; clear hw w') | (go_at_call 51; refine (seq_c b l F _ HM.out.st).mono ?_; rintro e w' ⟨rfl, hw⟩; rw [hw]; clear hw w'))
  refine (freshGet_o HFr.out _ _ HR.out).mono ?_
  rintro e w1 ⟨rfl, hb⟩
  rw [HNe.out]
  have B1 : Hid (Below w.heap.size w (w1.alloc (.cells #[.int .i64 0, .int .i64 0, .int .i64 0, .bool false, .string ⟨#[]⟩] 46))) := (HB0.out.trans (hb.mono (by simp))).alloc (by have := hb.size; simp at this; omega) _
  have X1 : Hid (BoxAt (w1.alloc (.cells #[.int .i64 0, .int .i64 0, .int .i64 0, .bool false, .string ⟨#[]⟩] 46)) w.heap.size 0 0 0 false ⟨#[]⟩) := (X0.out.below hb X0.out.lt).alloc _
  clear hb hv c0 c1 X0 HB0 HM
  go_upto_region 6 with fail
  obtain ⟨w2, HW2⟩ : ∃ w2, w2 = w1.alloc (.cells #[.int .i64 0, .int .i64 0, .int .i64 0, .bool false, .string ⟨#[]⟩] 46) := ⟨_, rfl⟩
  obtain ⟨P, HP⟩ : ∃ z, Hid (z = w.heap.size) := ⟨_, rfl⟩
  rw [← HW2] at B1 X1
  rw [← HP.out] at X1
  rw [← HW2, ← HP.out]
  clear HW2
  have M2 : Hid (Mc S F w2 m b c l cs) := HMw.out.blocks B1.out.size (fun z hz => B1.out.block z (HMw.out.lt z hz))
  go_wp2_with fail
  refine (learn_c M2.out HG.out i HI.out HK.out HX.out).mono ?_
  rintro e w3 ⟨rfl, hto⟩
  have T3 : Hid (MeshTo S w2 w3 m l (learnM l cs i key)) := hto
  have hPlt := X1.out.lt
  have X3 : Hid (BoxAt w3 P 0 0 0 false ⟨#[]⟩) := X1.out.of_block (hto.1.block P hPlt (fun hs => by have h1 := HMw.out.lt P hs; have h2 := HP.out; omega))
  clear hto
  have hsz3 := T3.out.1.size
  go_upto_region 7 with fail
  have X4 : Hid (BoxAt (w3.alloc (.cells #[.int .i64 x0, .int .i64 x1, .int .i64 x2, .bool x3, .string x4] 46)) P 0 0 0 false ⟨#[]⟩) := X3.out.alloc _
  have Y4 : Hid (BoxAt (w3.alloc (.cells #[.int .i64 x0, .int .i64 x1, .int .i64 x2, .bool x3, .string x4] 46)) w3.heap.size x0 x1 x2 x3 x4) := box_new w3 x0 x1 x2 x3 x4 _ rfl
  have hEnd : Hid (MeshTo S w ((((((w3.alloc (.cells #[.int .i64 x0, .int .i64 x1, .int .i64 x2, .bool x3, .string x4] 46)).setCell ⟨P, 0, none⟩ (.int .i64 x0)).setCell ⟨P, 1, none⟩ (.int .i64 x1)).setCell ⟨P, 2, none⟩ (.int .i64 x2)).setCell ⟨P, 3, none⟩ (.bool x3)).setCell ⟨P, 4, none⟩ (.string x4)) m l (learnM l cs i key)) :=
    get_end HMw.out.lt (by have := HP.out; omega) hPlt B1.out T3.out ((Below.refl _ _).alloc (Nat.le_refl _) _) _ _ _ _ _
  obtain ⟨w4, HW4⟩ : ∃ z, z = w3.alloc (.cells #[.int .i64 x0, .int .i64 x1, .int .i64 x2, .bool x3, .string x4] 46) := ⟨_, rfl⟩
  obtain ⟨Y, HY⟩ : ∃ z, z = w3.heap.size := ⟨_, rfl⟩
  rw [← HW4] at X4 Y4 hEnd
  rw [← HY] at Y4
  rw [← HW4, ← HY]
  clear HW4 HY X3 B1 X1 M2 T3 hsz3
  obtain ⟨z0, z1, z2, z3, z4, zf⟩ := (X4.out.set x0 x1 x2 x3 x4)
  obtain ⟨y0, y1, y2, y3, y4, yf⟩ := Y4.out
  obtain ⟨e0, e1, e2, e3, e4, ef⟩ := X4.out
  go_wp2_with fail
  refine bodyPost_ret (v := .tuple #[.agg #[.int .i64 x0, .int .i64 x1, .int .i64 x2, .bool x3, .string x4], .bool false, .nilIface]) (by simp [results, Tryz.results13, go_sem, z0, z1, z2, z3, z4]) rfl ?_
  exact ⟨rfl, hEnd.out⟩
/-- Get, with letters -/
theorem mGet_o {S : Nat → Prop} {w : World} {m : Nat} {l : List Deed} {cs cs' : List (List En)} (h : MeshAt S w m l cs) (hG : GoodM l cs) {node key floor x0 x1 x2 n : Int} {x3 had : Bool} {x4 : ByteArray} (hx : mGet l cs node key floor = (cs', ⟨x0, x1, x2, x3, x4⟩, had, n)) :
    Calls Tryz.prog 13 #[.pointer (some ⟨m, 0, none⟩), .int .i64 node, .int .i64 key, .int .i64 floor] w fun e w' => e = .returned (.tuple #[.agg #[.int .i64 x0, .int .i64 x1, .int .i64 x2, .bool x3, .string x4], .bool had, eV n]) ∧ MeshTo S w w' m l cs' := by
  by_cases hb : nodeB cs.length node = false ∨ stK key = false ∨ floor < 0 ∨ (l.length : Int) < floor
  · rw [mGet, if_pos hb] at hx
    injection hx with e1 hx
    injection hx with e2 hx
    injection hx with e3 e4
    injection e2 with a0 a1 a2 a3 a4
    subst e1 e3 e4 a0 a1 a2 a3 a4
    refine (mGet_bad h node key floor hb).mono ?_
    rintro e w' ⟨rfl, hw⟩
    exact ⟨by rw [eV_errN (by omega)], h.to hw⟩
  · rw [mGet, if_neg hb] at hx
    have hn : nodeB cs.length node = true := by
      cases hq : nodeB cs.length node
      · exact absurd (.inl hq) hb
      · rfl
    have hk : stK key = true := by
      cases hq : stK key
      · exact absurd (.inr (.inl hq)) hb
      · rfl
    have h0 : 0 ≤ floor := by
      rcases Int.lt_or_le floor 0 with h' | h'
      · exact absurd (.inr (.inr (.inl h'))) hb
      · exact h'
    have h1 : floor ≤ l.length := by
      rcases Int.lt_or_le l.length floor with h' | h'
      · exact absurd (.inr (.inr (.inr h'))) hb
      · exact h'
    have other : (∀ x, getE (cacheN cs node) key = some x → x.a < floor) → ((learnM l cs node key, wasE l key l.length, false, (0 : Int)) = (cs', (⟨x0, x1, x2, x3, x4⟩ : En), had, n)) → Calls Tryz.prog 13 #[.pointer (some ⟨m, 0, none⟩), .int .i64 node, .int .i64 key, .int .i64 floor] w fun e w' => e = .returned (.tuple #[.agg #[.int .i64 x0, .int .i64 x1, .int .i64 x2, .bool x3, .string x4], .bool had, eV n]) ∧ MeshTo S w w' m l cs' := by
      intro hg he
      injection he with e1 he
      injection he with e2 he
      injection he with e3 e4
      subst e1 e3 e4
      refine (mGet_learn h hG node key floor hn hk h0 h1 hg e2).mono ?_
      rintro e w' ⟨rfl, hw⟩
      exact ⟨by rw [eV_zeroN], hw⟩
    cases hg : getE (cacheN cs node) key with
    | none =>
      rw [hg] at hx
      exact other (fun x hx' => by rw [hg] at hx'; cases hx') hx
    | some x =>
      rw [hg] at hx
      dsimp only at hx
      by_cases hf : floor ≤ x.a
      · rw [if_pos hf] at hx
        injection hx with e1 hx
        injection hx with e2 hx
        injection hx with e3 e4
        subst e1 e2 e3 e4
        refine (mGet_own h hG node key floor hn hk h0 h1 hg hf).mono ?_
        rintro e w' ⟨rfl, hw⟩
        exact ⟨by rw [eV_zeroN], h.to hw⟩
      · rw [if_neg hf] at hx
        exact other (fun y hy => by rw [hg] at hy; obtain rfl := Option.some.inj hy; omega) hx
end Go.Proofs.YtpcnfoaoajfhlaaGreatDoor

namespace Go.Proofs.YtpcnfoaoajfhlaaGreatDoor
set_option linter.unusedVariables false
set_option linter.unusedSimpArgs false
open Go.RowKit

theorem one_put : (mPut [] (List.replicate 1 []) 0 2 ⟨#[121]⟩).num = 1 ∧ (mPut [] (List.replicate 1 []) 0 2 ⟨#[121]⟩).err = 0 := ⟨by kernel_rfl, by kernel_rfl⟩
theorem one_get : (mGet (mPut [] (List.replicate 1 []) 0 2 ⟨#[121]⟩).done (mPut [] (List.replicate 1 []) 0 2 ⟨#[121]⟩).cs 0 2 1).2 = (⟨2, 1, 1, false, ⟨#[121]⟩⟩, true, 0) := by kernel_rfl
set_option maxHeartbeats 4000000 in
theorem topOne_c (w : World) : Calls Tryz.prog 19 #[] w fun e w' => e = .returned (.bool true) ∧ Below w.heap.size w w' := by
  go_enter Tryz.func19, Tryz.ntmps19
  go_wp2_with fail
  refine (mNew_ok 1 w (by omega) (by omega)).mono ?_
  rintro e w1 ⟨m0, rfl, ⟨S, hm, hS⟩, hb⟩
  have H1 : Hid (Mh (fun _ => False) w.heap.size w w1 m0 [] (List.replicate 1 [])) := ⟨⟨S, hm, fun c hc => ⟨hS c hc, id⟩⟩, hb, hb.size, fun c hc => hc.elim⟩
  have HGM : Hid (GoodM [] (List.replicate 1 [])) := goodM_new 1
  clear hm hS hb
  obtain ⟨R, HR⟩ : ∃ R, Hid (mPut [] (List.replicate 1 []) 0 2 ⟨#[121]⟩ = R) := ⟨_, rfl⟩
  have HP1 : Hid (R.num = 1 ∧ R.err = 0) := by have := one_put; rw [HR.out] at this; exact this
  have HP2 : Hid (GoodM R.done R.cs) := by have := mPut_good HGM.out 0 2 ⟨#[121]⟩; rw [HR.out] at this; exact this
  have HP3 : Hid ((mGet R.done R.cs 0 2 1).2 = (⟨2, 1, 1, false, ⟨#[121]⟩⟩, true, 0)) := by have := one_get; rw [HR.out] at this; exact this
  obtain ⟨R1, R2, R3, R4⟩ := R
  dsimp only at HP1 HP2 HP3
  obtain ⟨rfl, rfl⟩ := HP1.out
  obtain ⟨S, h1', h2'⟩ := H1.out.call
  have HS : Hid _ := h1'
  have HC : Hid _ := h2'
  clear h1' h2' HP1
  go_wp2_with fail
  refine (mPut_c HS.out HGM.out 0 2 ⟨#[121]⟩ (by unfold maxLen; decide)).mono ?_
  rw [HR.out]
  rintro e w2 ⟨rfl, hto⟩
  dsimp only at hto ⊢
  have H2 : Hid (Mh (fun _ => False) w.heap.size w w2 m0 R1 R2) := (HC.out _ _ _ hto).1
  clear hto HS HC H1 HGM HR
  rw [eV_zeroN]
  obtain ⟨cs2, HG2⟩ : ∃ cs2, Hid (mGet R1 R2 0 2 1 = (cs2, ⟨2, 1, 1, false, ⟨#[121]⟩⟩, true, 0)) := ⟨_, Prod.ext rfl HP3.out⟩
  obtain ⟨S, h1', h2'⟩ := H2.out.call
  have HS : Hid _ := h1'
  have HC : Hid _ := h2'
  clear h1' h2'
  go_wp2_with fail
  refine (mGet_o HS.out HP2.out HG2.out).mono ?_
  rintro e w3 ⟨rfl, hto⟩
  have B3 : Hid (Below w.heap.size w w3) := (HC.out _ _ _ hto).1.bel
  clear hto HS HC H2 HP2 HP3 HG2
  rw [eV_zeroN]
  go_wp2_with fail
  go_ret
  exact ⟨rfl, B3.out.alloc B3.out.size _⟩
/-- three numbers at a block -/
structure Z3 (w : World) (A : Nat) (z0 z1 z2 : Int) : Prop where
  c0 : w.cell? ⟨A, 0, none⟩ = some (.int .i64 z0)
  c1 : w.cell? ⟨A, 1, none⟩ = some (.int .i64 z1)
  c2 : w.cell? ⟨A, 2, none⟩ = some (.int .i64 z2)
theorem Z3.of_block {w w' : World} {A : Nat} {z0 z1 z2 : Int} (h : Z3 w A z0 z1 z2) (hb : w'.heap[A]? = w.heap[A]?) : Z3 w' A z0 z1 z2 :=
  ⟨(World.cell?_of_block (a := ⟨A, 0, none⟩) hb).trans h.c0, (World.cell?_of_block (a := ⟨A, 1, none⟩) hb).trans h.c1, (World.cell?_of_block (a := ⟨A, 2, none⟩) hb).trans h.c2⟩
theorem Z3.lt {w : World} {A : Nat} {z0 z1 z2 : Int} (h : Z3 w A z0 z1 z2) : A < w.heap.size := World.block_lt_of_cell? w _ h.c0
theorem Z3.grown {w w' : World} {A : Nat} {z0 z1 z2 : Int} (h : Z3 w A z0 z1 z2) (hb : Below w.heap.size w w') : Z3 w' A z0 z1 z2 := h.of_block (hb.block A h.lt)
end Go.Proofs.YtpcnfoaoajfhlaaGreatDoor
