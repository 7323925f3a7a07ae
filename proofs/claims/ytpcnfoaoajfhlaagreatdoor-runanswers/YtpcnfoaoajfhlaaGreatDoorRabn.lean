/-
  The document's mesh by its contracts: Put (and Delete), Swap.
  What the document's Line leaves.
  The document's Line: seq.
-/
import Derived.Test.YtpcnfoaoajfhlaaGreatDoorRabl
import Derived.Test.YtpcnfoaoajfhlaaGreatDoorRabm
import Derived.Test.YtpcnfoaoajfhlaaGreatDoorRaar
import Derived.Test.YtpcnfoaoajfhlaaGreatDoorRabg
namespace Go.Proofs.YtpcnfoaoajfhlaaGreatDoor
set_option linter.unusedVariables false
set_option linter.unusedSimpArgs false
set_option linter.unusedVariables false
set_option linter.unusedSimpArgs false
open Go.RowKit

theorem putO_none {l : List Deed} {k : Int} {t : ByteArray} (h : (putO l k t).err ≠ 0) : (putO l k t).num = 0 := by
  unfold putO recO at *
  split <;> rename_i h1
  · rfl
  · rw [if_neg h1] at h
    split <;> rename_i h2
    · rfl
    · rw [if_neg h2] at h
      split <;> rename_i h3
      · rfl
      · rw [if_neg h3] at h; exact absurd rfl h
theorem delO_none {l : List Deed} {k : Int} (h : (delO l k).err ≠ 0) : (delO l k).num = 0 := by
  unfold delO recO at *
  split <;> rename_i h1
  · rfl
  · rw [if_neg h1] at h
    split <;> rename_i h2
    · rfl
    · rw [if_neg h2] at h
      split <;> rename_i h3
      · rfl
      · rw [if_neg h3] at h; exact absurd rfl h
set_option maxHeartbeats 8000000 in
/-- Put or Delete, over whatever the store does -/
theorem rMPut_g {S : Nat → Prop} {w : World} {m : Nat} {l : List Deed} {cs : List (List En)} (h : RkAt S w m l cs) (hG : GoodM l cs) (node key : Int) (t : ByteArray) (gone : Bool) (o : Out) (hO : OutOk o l key) (hnum : o.err ≠ 0 → o.num = 0)
    (hcall : ∀ b G w', RefIs w' b l G → (gone = false → Calls Tryz.prog 40 #[.pointer (some ⟨b, 0, none⟩), .int .i64 key, .string t] w' (LeftR b G w' o)) ∧ (gone = true → Calls Tryz.prog 39 #[.pointer (some ⟨b, 0, none⟩), .int .i64 key] w' (LeftR b G w' o))) :
    Calls Tryz.prog 9 #[.pointer (some ⟨m, 0, none⟩), .int .i64 node, .int .i64 key, .string t, .bool gone] w fun e w' => e = .returned (.tuple #[.int .i64 (mDone o l cs node key).num, .int .i64 (mDone o l cs node key).err]) ∧ RkTo S w w' m (mDone o l cs node key).done (mDone o l cs node key).cs := by
  have hc6 := h.len
  obtain ⟨nc, HNc⟩ : ∃ nc, Hid (cs.length = nc) := ⟨_, rfl⟩
  rw [HNc.out] at hc6
  have HAt : Hid (RkAt S w m l cs) := h
  obtain ⟨F, b, c, h⟩ := h
  have c0 := h.c0
  have c1 := h.c1
  rw [HNc.out] at c1
  cases hn : nodeB cs.length node
  · have hr : mDone o l cs node key = ⟨l, cs, 0, 1⟩ := by rw [mDone, if_pos hn]
    rw [hr]
    dsimp only
    rw [HNc.out] at hn
    clear hr hcall hnum hO hG h
    by_cases hn0 : node < 0
    · have hd0 : decide (node < 0) = true := by simpa using hn0
      clear hn hn0
      go_enter Tryz.func9, Tryz.ntmps9
      go_wp2_with fail
      go_ret2
      exact ⟨rfl, HAt.out.to (Below.refl _ _)⟩
    · have hd0 : decide (node < 0) = false := by simpa using hn0
      have hd1 : decide ((nc : Int) ≤ node) = true := by
        rcases nodeB_no hn with h' | h'
        · exact absurd h' hn0
        · simpa using h'
      clear hn hn0
      go_enter Tryz.func9, Tryz.ntmps9
      go_wp2_with fail
      go_ret2
      exact ⟨rfl, HAt.out.to (Below.refl _ _)⟩
  · obtain ⟨i, rfl, hi⟩ := node_nat hn
    have HM : Hid (Rc S F w m b c l cs) := h
    have HI : Hid (i < cs.length) := hi
    have HCall : Hid (∀ b G w', RefIs w' b l G → (gone = false → Calls Tryz.prog 40 #[.pointer (some ⟨b, 0, none⟩), .int .i64 key, .string t] w' (LeftR b G w' o)) ∧ (gone = true → Calls Tryz.prog 39 #[.pointer (some ⟨b, 0, none⟩), .int .i64 key] w' (LeftR b G w' o))) := hcall
    rw [HNc.out] at hi
    have hd0 : decide ((i : Int) < 0) = false := by simp
    have hd1 : decide ((nc : Int) ≤ (i : Int)) = false := by simp; omega
    have hi2 : (i : Int) < (nc : Int) := by omega
    clear h HAt hi
    by_cases he : o.err = 0
    · have heb : (o.err == 0) = true := by simp [he]
      obtain ⟨hk, hg2, hl2, d, hd⟩ := hO.good he
      have HK : Hid (stK key = true) := hk
      have HG2 : Hid (GoodM o.done cs) := by
        have h1 := hG.later (m := [d]) (by rw [← hd]; exact hg2) (by rw [← hd]; exact hl2)
        rw [← hd] at h1
        exact h1
      have hr : mDone o l cs (i : Int) key = ⟨o.done, learnM o.done cs i key, o.num, 0⟩ := by rw [mDone, if_neg (by rw [hn]; simp), if_neg (by simpa using he)]
      rw [hr]
      dsimp only
      have HEr : Hid (o.err = 0) := he
      obtain ⟨⟨x0, x1, x2, x3, x4⟩, HX⟩ : ∃ x, Hid (wasE o.done key o.done.length = x) := ⟨_, rfl⟩
      clear hn hr he hk hg2 hl2 hd hO hnum hG hcall
      cases gone with
      | false =>
        go_enter Tryz.func9, Tryz.ntmps9
        go_wp2_with fail
        refine ((HCall.out b F w HM.out.st).1 (by simp)).mono ?_
        rintro e wc ⟨rfl, G', hr1, hr2, hr3⟩
        have M1 : Hid (Rc (fun x => S x ∨ G' x) G' wc m b c o.done cs) := HM.out.store hr1 hr2 hr3
        have K1 : Hid (Kept S w wc ∧ ∀ x, (S x ∨ G' x) → S x ∨ w.heap.size ≤ x) := HM.out.kept hr2 hr3
        clear hr1 hr2 hr3 HCall c0 c1 hd0 hd1
        go_wp2_with fail
        refine (rLearn_c M1.out HG2.out i HI.out HK.out HX.out).mono ?_
        rintro e w2 ⟨rfl, hto⟩
        have T2 : Hid (RkTo S w w2 m o.done (learnM o.done cs i key)) := hto.next K1.out.1 K1.out.2
        clear hto
        go_wp2_with fail
        go_ret2
        exact ⟨(show _ = Ending.returned (.tuple #[.int .i64 o.num, .int .i64 o.err]) from rfl).trans (by rw [HEr.out]), T2.out⟩
      | true =>
        go_enter Tryz.func9, Tryz.ntmps9
        go_wp2_with fail
        refine ((HCall.out b F w HM.out.st).2 (by simp)).mono ?_
        rintro e wc ⟨rfl, G', hr1, hr2, hr3⟩
        have M1 : Hid (Rc (fun x => S x ∨ G' x) G' wc m b c o.done cs) := HM.out.store hr1 hr2 hr3
        have K1 : Hid (Kept S w wc ∧ ∀ x, (S x ∨ G' x) → S x ∨ w.heap.size ≤ x) := HM.out.kept hr2 hr3
        clear hr1 hr2 hr3 HCall c0 c1 hd0 hd1
        go_wp2_with fail
        refine (rLearn_c M1.out HG2.out i HI.out HK.out HX.out).mono ?_
        rintro e w2 ⟨rfl, hto⟩
        have T2 : Hid (RkTo S w w2 m o.done (learnM o.done cs i key)) := hto.next K1.out.1 K1.out.2
        clear hto
        go_wp2_with fail
        go_ret2
        exact ⟨(show _ = Ending.returned (.tuple #[.int .i64 o.num, .int .i64 o.err]) from rfl).trans (by rw [HEr.out]), T2.out⟩
    · have heb : (o.err == 0) = false := by simp [he]
      have hr : mDone o l cs (i : Int) key = ⟨l, cs, 0, o.err⟩ := by rw [mDone, if_neg (by rw [hn]; simp), if_pos he]
      have HNo : Hid (o.num = 0) := hnum he
      have HDn : Hid (o.done = l) := hO.bad he
      rw [hr]
      dsimp only
      clear hn hr he hO hnum hG hcall
      cases gone with
      | false =>
        go_enter Tryz.func9, Tryz.ntmps9
        go_wp2_with fail
        refine ((HCall.out b F w HM.out.st).1 (by simp)).mono ?_
        rintro e wc ⟨rfl, G', hr1, hr2, hr3⟩
        have M1 : Hid (Rc (fun x => S x ∨ G' x) G' wc m b c o.done cs) := HM.out.store hr1 hr2 hr3
        have K1 : Hid (Kept S w wc ∧ ∀ x, (S x ∨ G' x) → S x ∨ w.heap.size ≤ x) := HM.out.kept hr2 hr3
        clear hr1 hr2 hr3 HCall c0 c1 hd0 hd1
        have T2 : Hid (RkTo S w wc m l cs) := by
          have h1 := M1.out
          rw [HDn.out] at h1
          exact ⟨K1.out.1, _, ⟨_, _, _, h1⟩, K1.out.2⟩
        clear M1 K1
        go_wp2_with fail
        go_ret2
        exact ⟨(show _ = Ending.returned (.tuple #[.int .i64 o.num, .int .i64 o.err]) from rfl).trans (by rw [HNo.out]), T2.out⟩
      | true =>
        go_enter Tryz.func9, Tryz.ntmps9
        go_wp2_with fail
        refine ((HCall.out b F w HM.out.st).2 (by simp)).mono ?_
        rintro e wc ⟨rfl, G', hr1, hr2, hr3⟩
        have M1 : Hid (Rc (fun x => S x ∨ G' x) G' wc m b c o.done cs) := HM.out.store hr1 hr2 hr3
        have K1 : Hid (Kept S w wc ∧ ∀ x, (S x ∨ G' x) → S x ∨ w.heap.size ≤ x) := HM.out.kept hr2 hr3
        clear hr1 hr2 hr3 HCall c0 c1 hd0 hd1
        have T2 : Hid (RkTo S w wc m l cs) := by
          have h1 := M1.out
          rw [HDn.out] at h1
          exact ⟨K1.out.1, _, ⟨_, _, _, h1⟩, K1.out.2⟩
        clear M1 K1
        go_wp2_with fail
        go_ret2
        exact ⟨(show _ = Ending.returned (.tuple #[.int .i64 o.num, .int .i64 o.err]) from rfl).trans (by rw [HNo.out]), T2.out⟩
theorem rMPut_c {S : Nat → Prop} {w : World} {m : Nat} {l : List Deed} {cs : List (List En)} (h : RkAt S w m l cs) (hG : GoodM l cs) (node key : Int) (t : ByteArray) (ht : t.size ≤ maxLen) :
    Calls Tryz.prog 9 #[.pointer (some ⟨m, 0, none⟩), .int .i64 node, .int .i64 key, .string t, .bool false] w fun e w' => e = .returned (.tuple #[.int .i64 (mPut l cs node key t).num, .int .i64 (mPut l cs node key t).err]) ∧ RkTo S w w' m (mPut l cs node key t).done (mPut l cs node key t).cs :=
  rMPut_g h hG node key t false (putO l key t) (outOk_put hG.good) (fun h => putO_none h) (fun b G w' hr => ⟨fun _ => refPut_c b key t l G w' ht hr, fun h => (by cases h)⟩)
theorem rMDel_c {S : Nat → Prop} {w : World} {m : Nat} {l : List Deed} {cs : List (List En)} (h : RkAt S w m l cs) (hG : GoodM l cs) (node key : Int) (t : ByteArray) :
    Calls Tryz.prog 9 #[.pointer (some ⟨m, 0, none⟩), .int .i64 node, .int .i64 key, .string t, .bool true] w fun e w' => e = .returned (.tuple #[.int .i64 (mDel l cs node key).num, .int .i64 (mDel l cs node key).err]) ∧ RkTo S w w' m (mDel l cs node key).done (mDel l cs node key).cs :=
  rMPut_g h hG node key t true (delO l key) (outOk_del hG.good) (fun h => delO_none h) (fun b G w' hr => ⟨fun h => (by cases h), fun _ => refDelete_c b key l G w' hr⟩)
/-- behind Swap: two nodes' caches have turned -/
theorem rows_len {w w4 : World} {v : Value} {a z : List En} (h : RowIs w v a) (h' : RowIs w4 v z) (h0 : z ≠ []) : a ≠ [] := by
  obtain ⟨_, p, cap, rfl, _⟩ := h
  obtain ⟨_, p', cap', e, _⟩ := h'
  have e2 : a.length = z.length := by injection e
  intro ha
  rw [ha] at e2
  exact h0 (List.eq_nil_of_length_eq_zero e2.symm)
theorem rswap_end {S F : Nat → Prop} {w w4 : World} {m b c : Nat} {l : List Deed} {cs : List (List En)} {i j : Nat} {va vb v1 v2 : Value} {x y : List En} (h : Rc S F w m b c l cs) (hi : i < cs.length) (hj : j < cs.length) (hb : Below w.heap.size w w4)
    (ha : w.cell? ⟨c, i, none⟩ = some va) (hbv : w.cell? ⟨c, j, none⟩ = some vb)
    (r1 : RowIs w4 v1 x) (r2 : RowIs w4 v2 y) (f1 : v1 = va ∨ ∀ g, v1.ownBlock = some g → w.heap.size ≤ g) (f2 : v2 = vb ∨ ∀ g, v2.ownBlock = some g → w.heap.size ≤ g) :
    RkTo S w ((w4.setCell ⟨c, i, none⟩ v1).setCell ⟨c, j, none⟩ v2) m l ((cs.set i x).set j y) := by
  have h4 : Rc S F w4 m b c l cs := h.blocks hb.size (fun y hy => hb.block y (h.lt y hy))
  have own : ∀ (k : Nat) (hk : k < cs.length) (u v : Value) (z : List En), w.cell? ⟨c, k, none⟩ = some u → RowIs w4 v z → (v = u ∨ ∀ g, v.ownBlock = some g → w.heap.size ≤ g) → z ≠ [] → ∀ g, v.ownBlock = some g → (S g ∨ w.heap.size ≤ g) ∧ (¬ F g ∧ g ≠ m ∧ g ≠ c) ∧ g < w4.heap.size := by
    intro k hk u v z hu hr hf h0 g hg
    refine ⟨?_, ?_, hr.own_lt h0 g hg⟩
    · rcases hf with rfl | hf
      · obtain ⟨u', e1, e2, e3⟩ := h.rows k hk
        rw [hu] at e1
        obtain rfl := Option.some.inj e1
        exact .inl (e3 (rows_len e2 hr h0) g hg).1
      · exact .inr (hf g hg)
    · rcases hf with rfl | hf
      · obtain ⟨u', e1, e2, e3⟩ := h.rows k hk
        rw [hu] at e1
        obtain rfl := Option.some.inj e1
        exact (e3 (rows_len e2 hr h0) g hg).2
      · exact h.out (fun hs => by have := h.lt g hs; have := hf g hg; omega)
  have o1 := own i hi va v1 x ha r1 f1
  have o2 := own j hj vb v2 y hbv r2 f2
  have h5 := h4.row i hi r1 (fun h0 g hg => (o1 h0 g hg).2)
  have r2' : RowIs (w4.setCell ⟨c, i, none⟩ v1) v2 y := r2.part (by rw [World.size_setCell]; exact Nat.le_refl _) (fun h0 g hg => Below.heap_setCell _ _ _ g (o2 h0 g hg).2.1.2.2)
  have h6 := h5.row j (by rw [List.length_set]; exact hj) r2' (fun h0 g hg => ⟨(o2 h0 g hg).2.1, by rw [World.size_setCell]; exact (o2 h0 g hg).2.2⟩)
  refine ⟨((Kept.of_below hb).setC c i (.inl h.sc) v1).setC c j (.inl h.sc) v2, _, ⟨_, _, _, h6⟩, fun z hz => ?_⟩
  rcases hz with (hz | hz) | hz
  · exact .inl hz
  · exact (o1 hz.1 z hz.2).1
  · exact (o2 hz.1 z hz.2).1
set_option maxHeartbeats 4000000 in
theorem rMSwap_bad {S : Nat → Prop} {w : World} {m : Nat} {l : List Deed} {cs : List (List En)} (h : RkAt S w m l cs) (a b : Int) (hb : nodeB cs.length a = false ∨ nodeB cs.length b = false) :
    Calls Tryz.prog 14 #[.pointer (some ⟨m, 0, none⟩), .int .i64 a, .int .i64 b] w fun e w' => e = .returned (.int .i64 1) ∧ w' = w := by
  have hc6 := h.len
  obtain ⟨F, bs, c, h⟩ := h
  have c1 := h.c1
  obtain ⟨nc, HNc⟩ : ∃ nc, Hid (cs.length = nc) := ⟨_, rfl⟩
  rw [HNc.out] at c1 hb hc6
  clear h HNc
  by_cases ha0 : a < 0
  · have hd0 : decide (a < 0) = true := by simpa using ha0
    clear hb ha0
    go_enter Tryz.func14, Tryz.ntmps14
    go_wp2_with fail
    go_ret
    exact ⟨rfl, rfl⟩
  have hd0 : decide (a < 0) = false := by simpa using ha0
  by_cases ha1 : (nc : Int) ≤ a
  · have hd1 : decide ((nc : Int) ≤ a) = true := by simpa using ha1
    clear hb ha0 ha1
    go_enter Tryz.func14, Tryz.ntmps14
    go_wp2_with fail
    go_ret
    exact ⟨rfl, rfl⟩
  have hd1 : decide ((nc : Int) ≤ a) = false := by simpa using ha1
  replace hb := hb.resolve_left (fun h => by rcases nodeB_no h with h' | h' <;> omega)
  clear ha0 ha1
  by_cases hb0 : b < 0
  · have hd2 : decide (b < 0) = true := by simpa using hb0
    clear hb hb0
    go_enter Tryz.func14, Tryz.ntmps14
    go_wp2_with fail
    go_ret
    exact ⟨rfl, rfl⟩
  · have hd2 : decide (b < 0) = false := by simpa using hb0
    have hd3 : decide ((nc : Int) ≤ b) = true := by
      rcases nodeB_no hb with h' | h'
      · exact absurd h' hb0
      · simpa using h'
    clear hb hb0
    go_enter Tryz.func14, Tryz.ntmps14
    go_wp2_with fail
    go_ret
    exact ⟨rfl, rfl⟩
theorem nodeB_yes {n : Nat} {a : Int} (h : nodeB n a = true) : decide (a < 0) = false ∧ decide ((n : Int) ≤ a) = false := by
  have := nodeB_iff.1 h
  constructor <;> simp <;> omega
theorem rMSwap_self {S : Nat → Prop} {w : World} {m : Nat} {l : List Deed} {cs : List (List En)} (h : RkAt S w m l cs) (a : Int) (ha : nodeB cs.length a = true) :
    Calls Tryz.prog 14 #[.pointer (some ⟨m, 0, none⟩), .int .i64 a, .int .i64 a] w fun e w' => e = .returned (.int .i64 3) ∧ w' = w := by
  have hc6 := h.len
  obtain ⟨F, bs, c, h⟩ := h
  have c1 := h.c1
  obtain ⟨nc, HNc⟩ : ∃ nc, Hid (cs.length = nc) := ⟨_, rfl⟩
  rw [HNc.out] at c1 ha hc6
  obtain ⟨hd0, hd1⟩ := nodeB_yes ha
  clear h HNc ha
  go_enter Tryz.func14, Tryz.ntmps14
  go_wp2_with fail
  go_ret
  exact ⟨rfl, rfl⟩
set_option maxRecDepth 100000 in
set_option maxHeartbeats 8000000 in
theorem rMSwap_two {S : Nat → Prop} {w : World} {m : Nat} {l : List Deed} {cs : List (List En)} (h : RkAt S w m l cs) (i j : Nat) (hi : i < cs.length) (hj : j < cs.length) (hij : i ≠ j) {x y : List En} (hp : pairW cs[i] cs[j] = (x, y, 0)) :
    Calls Tryz.prog 14 #[.pointer (some ⟨m, 0, none⟩), .int .i64 i, .int .i64 j] w fun e w' => e = .returned (.int .i64 0) ∧ RkTo S w w' m l ((cs.set i x).set j y) := by
  have hc6 := h.len
  obtain ⟨F, bs, c, h⟩ := h
  have HM : Hid (Rc S F w m bs c l cs) := h
  have HI : Hid (i < cs.length ∧ j < cs.length ∧ i ≠ j) := ⟨hi, hj, hij⟩
  have c1 := h.c1
  obtain ⟨vi, ci, hri, hx1⟩ := h.rows i hi
  obtain ⟨vj, cj, hrj, hx2⟩ := h.rows j hj
  clear hx1 hx2
  have HPr : Hid (∀ W, Below w.heap.size w W → Calls Tryz.prog 54 #[vi, vj] W fun e w' => ∃ v1 v2, e = .returned (.tuple #[v1, v2, .int .i64 0]) ∧ (RowIs w' v1 x ∧ (v1 = vi ∨ ∀ g, v1.ownBlock = some g → W.heap.size ≤ g)) ∧ (RowIs w' v2 y ∧ (v2 = vj ∨ ∀ g, v2.ownBlock = some g → W.heap.size ≤ g)) ∧ Below W.heap.size W w') := fun W hW => rSwapF hp vi vj W (hri.below hW) (hrj.below hW)
  have HCi : Hid (w.cell? ⟨c, i, none⟩ = some vi ∧ w.cell? ⟨c, j, none⟩ = some vj) := ⟨ci, cj⟩
  have hml := h.lt m h.sm
  have hcl := h.lt c h.sc
  obtain ⟨nc, HNc⟩ : ∃ nc, Hid (cs.length = nc) := ⟨_, rfl⟩
  have hi2 : (i : Int) < (nc : Int) := by have := HNc.out; omega
  have hj2 : (j : Int) < (nc : Int) := by have := HNc.out; omega
  have hij2 : ((i : Int) == (j : Int)) = false := by simp; omega
  rw [HNc.out] at c1 hc6
  have hd0 : decide ((i : Int) < 0) = false := by simp
  have hd1 : decide ((nc : Int) ≤ (i : Int)) = false := by simp; omega
  have hd2 : decide ((j : Int) < 0) = false := by simp
  have hd3 : decide ((nc : Int) ≤ (j : Int)) = false := by simp; omega
  clear h hi hj hij hri hrj hp
  go_enter Tryz.func14, Tryz.ntmps14
  go_upto_region 5 with fail
  clear hd0 hd1 hd2 hd3
  go_region_held3 (fun w' => w'.cell? ⟨m, 1, none⟩ = some (.slice (some ⟨c, 0, none⟩) nc nc) ∧ w'.cell? ⟨c, i, none⟩ = some vi ∧ w'.cell? ⟨c, j, none⟩ = some vj) (first | go_keep | (exact ⟨kept_cell HB3.out c1, kept_cell HB3.out ci, kept_cell HB3.out cj⟩)) (first | (go_at_call 54; refine Calls.mono (HPr.out _ ?_) ?_; exact ⟨rfl, rfl, rfl, Nat.le_refl _, fun _ _ => rfl⟩; rintro e w3 ⟨v1, v2, rfl, ⟨hr1, hf1⟩, ⟨hr2, hf2⟩, hb3⟩; have HB3 : Hid (Below w.heap.size w w3) := below_undrew hb3; clear hb3))
  have R1 : Hid (RowIs w3 v1 x) := hr1
  have R2 : Hid (RowIs w3 v2 y) := hr2
  obtain ⟨_, p1, q1, rfl, _⟩ := hr1
  obtain ⟨_, p2, q2, rfl, _⟩ := hr2
  have M3 : Hid (Rc S F w3 m bs c l cs) := HM.out.blocks HB3.out.size (fun z hz => HB3.out.block z (HM.out.lt z hz))
  have E1 : Hid (RkTo S w ((w3.setCell ⟨c, i, none⟩ (.slice p1 x.length q1)).setCell ⟨c, j, none⟩ (.slice p2 y.length q2)) m l ((cs.set i x).set j y)) := rswap_end HM.out HI.out.1 HI.out.2.1 HB3.out HCi.out.1 HCi.out.2 R1.out R2.out hf1 hf2
  have e1 := M3.out.c1
  rw [HNc.out] at e1
  have ef := M3.out.fz
  have e2 : w3.cell? ⟨c, i, none⟩ = some vi := kept_cell HB3.out ci
  have e3 : w3.cell? ⟨c, j, none⟩ = some vj := kept_cell HB3.out cj
  have hml3 : m < w3.heap.size := Nat.lt_of_lt_of_le hml HB3.out.size
  have hcl3 : c < w3.heap.size := Nat.lt_of_lt_of_le hcl HB3.out.size
  have hmc := HM.out.mc
  have hijn : i ≠ j := HI.out.2.2
  clear c1 ci cj hf1 hf2 M3 R1 R2
  go_wp2_with fail
  go_ret
  exact ⟨rfl, E1.out⟩
/-- Swap, with letters -/
theorem rMSwap_o {S : Nat → Prop} {w : World} {m : Nat} {l : List Deed} {cs cs' : List (List En)} (h : RkAt S w m l cs) (hG : GoodM l cs) {a b n : Int} (hx : mSwap cs a b = (cs', n)) :
    Calls Tryz.prog 14 #[.pointer (some ⟨m, 0, none⟩), .int .i64 a, .int .i64 b] w fun e w' => e = .returned (.int .i64 n) ∧ RkTo S w w' m l cs' := by
  by_cases hb : nodeB cs.length a = false ∨ nodeB cs.length b = false
  · rw [mSwap, if_pos hb] at hx
    injection hx with e1 e2
    subst e1 e2
    refine (rMSwap_bad h a b hb).mono ?_
    rintro e w' ⟨rfl, rfl⟩
    exact ⟨rfl, h.to (Below.refl _ _)⟩
  · have ha : nodeB cs.length a = true := by
      cases hq : nodeB cs.length a
      · exact absurd (.inl hq) hb
      · rfl
    have hb2 : nodeB cs.length b = true := by
      cases hq : nodeB cs.length b
      · exact absurd (.inr hq) hb
      · rfl
    rw [mSwap, if_neg hb] at hx
    by_cases hab : a = b
    · rw [if_pos hab] at hx
      injection hx with e1 e2
      subst e1 e2 hab
      refine (rMSwap_self h a ha).mono ?_
      rintro e w' ⟨rfl, rfl⟩
      exact ⟨rfl, h.to (Below.refl _ _)⟩
    · rw [if_neg hab] at hx
      injection hx with e1 e2
      obtain ⟨i, rfl, hi⟩ := node_nat ha
      obtain ⟨j, rfl, hj⟩ := node_nat hb2
      rw [cacheN_at hi, cacheN_at hj, Int.toNat_natCast, Int.toNat_natCast] at e1
      obtain ⟨x, y, hp, _, _⟩ := pair_was hG.good hG.len (hG.all _ (List.getElem_mem hi)) (hG.all _ (List.getElem_mem hj))
      rw [hp] at e1
      subst e1 e2
      exact rMSwap_two h i j hi hj (by omega) hp
end Go.Proofs.YtpcnfoaoajfhlaaGreatDoor

namespace Go.Proofs.YtpcnfoaoajfhlaaGreatDoor
set_option linter.unusedVariables false
set_option linter.unusedSimpArgs false
open Go.RowKit

/-- what a line tells, and leaves -/
def LineTo (S : Nat → Prop) (w : World) (m : Nat) (A : ByteArray × List Deed × List (List En)) (e : Ending) (w' : World) : Prop := e = .returned (.string A.1) ∧ RkTo S w w' m A.2.1 A.2.2
end Go.Proofs.YtpcnfoaoajfhlaaGreatDoor

namespace Go.Proofs.YtpcnfoaoajfhlaaGreatDoor
set_option linter.unusedVariables false
set_option linter.unusedSimpArgs false
open Go.RowKit

set_option maxRecDepth 100000 in
set_option maxHeartbeats 64000000 in
theorem refLine_seq {S : Nat → Prop} {w : World} {m : Nat} {l : List Deed} {cs : List (List En)} (h : RkAt S w m l cs) (hG : GoodM l cs) (hcs : cs.length = 3) (s : ByteArray) (hs : s.size ≤ 3000) {rest : List ByteArray} (hw : splitS s = ⟨#[115, 101, 113]⟩ :: rest) :
    Calls Tryz.prog 36 #[.pointer (some ⟨m, 0, none⟩), .string s] w (LineTo S w m (answerO l cs s)) := by
  obtain ⟨k, hk⟩ : ∃ k, rest.length = k := ⟨_, rfl⟩
  have HZ : Hid (∀ x ∈ rest, x.size ≤ 3000) := fun x hx => Nat.le_trans (word_size s x (by rw [hw]; exact List.mem_cons_of_mem _ hx)) hs
  have HT : Hid (takeO l cs s = takeW (some (some (some (some none)))) l cs rest) := by show _ = _; rw [takeO, hw]; rfl
  have HCt : Hid (Calls Tryz.prog 35 #[.string s, .int .u8 32] w fun e w' => ∃ v, e = .returned v ∧ OwnS w.heap.size w' v (⟨#[115, 101, 113]⟩ :: rest) ∧ Below w.heap.size w w') := by
    have c := refCut_c s 32 w (by omega)
    rw [← splitS_cutS, hw] at c
    exact c
  have hk3 : k ≤ 3000 := by
    have h1 := split_len s
    have h2 := Lib.countB_le blankS (by decide) s.size s (Nat.le_refl _)
    rw [hw, List.length_cons] at h1
    omega
  obtain ⟨R, HR⟩ : ∃ R, Hid (answerO l cs s = R) := ⟨_, rfl⟩
  rw [HR.out]
  have HK : Hid (RkAt S w m l cs) := h
  clear h hw
  go_enter Tryz.func36, Tryz.ntmps36
  go_wp2_with fail
  refine Calls.mono HCt.out ?_
  rintro e w1 ⟨v, rfl, ho, hb⟩
  have HB1 : Hid (Below w.heap.size w w1) := hb
  have HK1 : Hid (RkAt S w1 m l cs) := HK.out.grown hb
  obtain ⟨g, cap, hv, hgl, hgc, hgm, hcl⟩ := OwnS.cells ho (by simp)
  rw [List.length_cons, hk] at hv hgc
  have HC : Hid (∀ j (hj : j < rest.length), w1.cell? ⟨g, j + 1, none⟩ = some (.string rest[j])) := fun j hj => hcl (j + 1) _ (by rw [List.getElem?_cons_succ]; exact List.getElem?_eq_getElem hj)
  have c0 := hcl 0 _ rfl
  subst hv
  clear hb ho hcl HCt
  unfold maxLen at hgm
  by_cases hkm : k = 0
  · have HKm : Hid (k = 0) := hkm
    subst hkm
    have HTn : Hid (takeO l cs s = takeN (some (some (some (some none)))) l cs (rest.drop 0) (numsL ((rest.take 0).map wordL))) := by
      show _ = _
      rw [HT.out, takeW, if_pos (by rw [hk]; rfl)]
      rfl
    clear HT
    go_upto_block 1 with fail
    go_cut [8, 9] (fun c8 c9 wd => ∃ (ns : List Nat) (u : Value), c8 = u ∧ Hid (numsL ((rest.take 0).map wordL) = some ns) ∧ Hid (OwnI w1.heap.size wd u (natZ ns)) ∧ Hid (Below w1.heap.size w1 wd))
    case first =>
      go_wp2_with fail
      go_loopw [8, 9] (fun c8 c9 wr => ∃ (j : Nat) (ns : List Nat) (u : Value), j ≤ 0 ∧ c9 = .int .i64 ((j : Int) + 1) ∧ c8 = u ∧ Hid (numsL ((rest.map wordL).take j) = some ns) ∧ Hid (OwnI w1.heap.size wr u (natZ ns)) ∧ Hid (Below w1.heap.size w1 wr)) (fun _ c9 _ => 0 + 1 - (intOf c9).toNat)
      case atStart => exact ⟨0, [], _, Nat.zero_le _, rfl, rfl, rfl, OwnI.nil _ _, Below.refl _ _⟩
      case round =>
        obtain ⟨j, ns, u, hj, rfl, hu, HNs, HO, HB⟩ := hrel
        have hu' := hu.symm
        clear hu
        subst hu'
        by_cases hlt : j < 0
        · exact absurd hlt (Nat.not_lt_zero _)
        · obtain rfl : j = 0 := by omega
          have HN3 : Hid (numsL ((rest.take 0).map wordL) = some ns) := by
            have h1 := HNs.out
            rw [← List.map_take] at h1
            exact h1
          go_wp2_with fail
          go_meet
          exact ⟨ns, u, rfl, HN3, HO, HB⟩
    case rest =>
    obtain ⟨ns, u, h8, HNs, HO, HB⟩ := hcut
    have h8' := h8.symm
    clear h8
    subst h8'
    obtain ⟨w2, hren⟩ : ∃ y, y = wc := ⟨_, rfl⟩
    subst hren
    have HBw : Hid (Below w.heap.size w w2) := HB1.out.trans (HB.out.mono HB1.out.size)
    have HK2 : Hid (RkAt S w2 m l cs) := HK1.out.grown HB.out
    have HNl : Hid (ns.length = 0) := by
      show _ = _
      rw [numsL_len HNs.out, List.length_map, List.length_take]
      omega
    have HR2 : Hid (R = (nameT (doO (some (some (some (some none)))) l cs ns []), (doO (some (some (some (some none)))) l cs ns []).l, (doO (some (some (some (some none)))) l cs ns []).cs)) := by
      show R = _
      have hd : rest.drop 0 = [] := List.drop_of_length_le (by omega)
      rw [← HR.out, answerO, HTn.out, HNs.out, hd]
      rfl
    have HRs : Hid (R = (digS l.length, l, cs)) := HR2.out
    obtain ⟨b, c, k0, k1, ⟨ba, cap2, kb, hl1⟩, _⟩ := RkAt.slots HK2.out
    have hR := HRs.out
    clear HTn HR HR2 HRs
    subst hR
    have HDg : Hid (∀ W, Calls Tryz.prog 87 #[.int .i64 l.length] W fun e w' => e = .returned (.string (digS l.length)) ∧ w' = W) := fun W => digits_c l.length (by omega) W
    clear HC HZ HK1 HNs HNl hl1
    have c02 := kept_cell HB.out c0
    go_wp2_with fail
    refine (HDg.out _).mono ?_
    rintro e w' ⟨rfl, hw⟩
    rw [hw]
    clear hw w'
    go_wp2_with fail
    go_ret
    exact ⟨rfl, HK.out.to HBw.out⟩
  · have hR : R = (badS, l, cs) := by
      rw [← HR.out, answerO, HT.out, takeW, if_neg (by rw [hk]; exact hkm)]
    subst hR
    have hkb : ((0 : Int) != (k : Int)) = true := by simp; omega
    go_wp2_with fail
    go_ret
    exact ⟨rfl, HK.out.to HB1.out⟩
end Go.Proofs.YtpcnfoaoajfhlaaGreatDoor
