/-
  How long answers are, on lists.
  Package run by its contracts: what Run's loop carries.
-/
import Derived.Test.YtpcnfoaoajfhlaaGreatDoorRabd
namespace Go.Proofs.YtpcnfoaoajfhlaaGreatDoor
set_option linter.unusedVariables false
set_option linter.unusedSimpArgs false
set_option linter.unusedVariables false
set_option linter.unusedSimpArgs false
open Go.RowKit

theorem nameB_size (n : Int) : (nameB n).size ≤ 9 := by
  unfold nameB
  repeat' split
  all_goals decide
theorem getB_size (v a : Nat) (g : Bool) (t : ByteArray) (had : Bool) (hv : v ≤ 1000) (ha : a ≤ 1000) (ht : t.size ≤ 12) : (getB v a g t had).size ≤ 100 := by
  have z1 := digS_size v (by omega)
  have z2 := digS_size a (by omega)
  have z3 : (if g then goneS else t).size ≤ 12 := by
    cases g
    · exact ht
    · show goneS.size ≤ 12; decide
  have e1 : dashS.size = 1 := rfl
  have e2 : blankS.size = 1 := rfl
  have e3 : cachedS.size = 7 := rfl
  cases had <;> simp only [getB, entB, ByteArray.size_append, e1, e2, e3, if_true, if_false, Bool.false_eq_true] <;> omega
theorem cacheB_size (x : List En) (hx : GoodL x) : (cacheB x).size ≤ 300 := by
  cases x with
  | nil => show dashS.size ≤ 300; decide
  | cons e x =>
    have h1 := join_len blankS.data.toList rfl ((keyBs (e :: x)).map (fun b => b.data.toList)) 30 (fun y hy => by
      simp only [keyBs, List.map_map, List.mem_map] at hy
      obtain ⟨z, hz, rfl⟩ := hy
      have h2 := (small_bad (hx.all z hz)).k0.2
      have h3 := digS_size z.k.toNat (by omega)
      show (digS z.k.toNat).data.toList.length ≤ 30
      rw [size_list]
      omega)
    have h2 := hx.len
    rw [List.length_map, keyBs, List.length_map] at h1
    show (List.toArray _).size ≤ 300
    rw [List.size_toArray]
    have h3 : (e :: x).length * (30 + 1) ≤ 8 * 31 := Nat.mul_le_mul h2 (Nat.le_refl _)
    exact Nat.le_trans h1 (by omega)
theorem doO_size {l : List Deed} {cs : List (List En)} (h : GoodM l cs) (o : Op) (ns : List Nat) (ws : List ByteArray) (he : (doO o l cs ns ws).err = 0) : (doO o l cs ns ws).txt.size ≤ 300 := by
  rcases o with _ | _ | _ | _ | _ | _ | _
  · obtain ⟨k, hk, hk1⟩ := mDone_num (putO l ((ns.getD 1 0 : Nat) : Int) (ws.getD 0 ⟨#[]⟩)) l cs ((ns.getD 0 0 : Nat) : Int) ((ns.getD 1 0 : Nat) : Int) (putO_num _ _ _)
    show (digS (mDone _ l cs _ _).num.toNat).size ≤ 300
    rw [hk, Int.toNat_natCast]
    exact Nat.le_trans (digS_size k (by omega)) (by omega)
  · obtain ⟨k, hk, hk1⟩ := mDone_num (delO l ((ns.getD 1 0 : Nat) : Int)) l cs ((ns.getD 0 0 : Nat) : Int) ((ns.getD 1 0 : Nat) : Int) (delO_num _ _)
    show (digS (mDone _ l cs _ _).num.toNat).size ≤ 300
    rw [hk, Int.toNat_natCast]
    exact Nat.le_trans (digS_size k (by omega)) (by omega)
  · revert he
    show (tellGet l (mGet l cs _ _ _)).err = 0 → (tellGet l (mGet l cs _ _ _)).txt.size ≤ 300
    obtain ⟨cs', x, had, n, hx⟩ : ∃ cs' x had n, mGet l cs ((ns.getD 0 0 : Nat) : Int) ((ns.getD 1 0 : Nat) : Int) ((ns.getD 2 0 : Nat) : Int) = (cs', x, had, n) := ⟨_, _, _, _, rfl⟩
    rw [hx]
    intro he
    have he' : n = 0 := he
    subst he'
    have hs := mGet_small h hx
    have h1 := hs.v0
    have h2 := hs.a0
    exact Nat.le_trans (getB_size x.v.toNat x.a.toNat x.g x.t had (by omega) (by omega) hs.t0) (by omega)
  · show okS.size ≤ 300
    decide
  · show (digS l.length).size ≤ 300
    have := h.len
    exact Nat.le_trans (digS_size l.length (by omega)) (by omega)
  · revert he
    show (tellCache l cs (mCacheO cs _)).err = 0 → (tellCache l cs (mCacheO cs _)).txt.size ≤ 300
    unfold mCacheO
    split
    · intro _
      exact cacheB_size _ (h.at _).good
    · intro he
      have he' : (1 : Int) = 0 := he
      omega
  · obtain ⟨X, hX, h5⟩ := own_num ((ns.getD 0 0 : Nat) : Int)
    show (digS (ownerA ownPts _).toNat).size ≤ 300
    rw [hX, Int.toNat_natCast]
    exact Nat.le_trans (digS_size X (by omega)) (by omega)
theorem takeW_size {l : List Deed} {cs : List (List En)} (h : GoodM l cs) {o : Op} {ws : List ByteArray} {t : Tell} (ht : takeW o l cs ws = some t) (he : t.err = 0) : t.txt.size ≤ 300 := by
  unfold takeW at ht
  split at ht
  · unfold takeN at ht
    split at ht
    · cases ht
    · split at ht
      · cases ht
      · obtain rfl := Option.some.inj ht
        exact doO_size h _ _ _ he
  · cases ht
theorem answerO_size {l : List Deed} {cs : List (List En)} (h : GoodM l cs) (s : ByteArray) : (answerO l cs s).1.size ≤ 300 := by
  unfold answerO
  split
  · show badS.size ≤ 300
    decide
  · rename_i t ht
    show (nameT t).size ≤ 300
    unfold nameT
    split
    · rename_i he
      unfold takeO at ht
      split at ht
      · cases ht
      · split at ht
        · cases ht
        · exact takeW_size h ht he
    · exact Nat.le_trans (nameB_size _) (by omega)
theorem sessO_size : ∀ (xs : List ByteArray) {l : List Deed} {cs : List (List En)}, GoodM l cs → (sessO l cs xs).size ≤ xs.length * 301
  | [], _, _, _ => Nat.zero_le _
  | x :: xs, l, cs, h => by
    have h1 := answerO_size h x
    have h2 := sessO_size xs (answerO_good h x).1
    show ((answerO l cs x).1 ++ nlS ++ sessO _ _ xs).size ≤ _
    rw [ByteArray.size_append, ByteArray.size_append, List.length_cons, Nat.succ_mul]
    have e : nlS.size = 1 := rfl
    omega
theorem leftO_good : ∀ (xs : List ByteArray) {l : List Deed} {cs : List (List En)}, GoodM l cs → GoodM (leftO l cs xs).1 (leftO l cs xs).2
  | [], _, _, h => h
  | x :: xs, _, _, h => leftO_good xs (answerO_good h x).1
theorem leftO_append : ∀ (xs ys : List ByteArray) (l : List Deed) (cs : List (List En)), leftO l cs (xs ++ ys) = leftO (leftO l cs xs).1 (leftO l cs xs).2 ys
  | [], _, _, _ => rfl
  | x :: xs, ys, l, cs => leftO_append xs ys (answerO l cs x).2.1 (answerO l cs x).2.2
theorem cutL_len (c : UInt8) : ∀ s : List UInt8, (cutL c s).length ≤ s.length + 1
  | [] => Nat.le_refl _
  | x :: s => by
    have ih := cutL_len c s
    unfold cutL
    split
    · simp
      omega
    · split
      · simp
      · rename_i a b hq
        rw [hq] at ih
        simp at ih ⊢
        omega
theorem linesB_len (s : ByteArray) : (linesB s).length ≤ s.size + 1 := by
  have h := cutL_len 10 s.data.toList
  rw [size_list] at h
  unfold linesB linesL
  rw [List.length_map]
  split
  · rw [List.length_dropLast]
    omega
  · exact h
end Go.Proofs.YtpcnfoaoajfhlaaGreatDoor

namespace Go.Proofs.YtpcnfoaoajfhlaaGreatDoor
set_option linter.unusedVariables false
set_option linter.unusedSimpArgs false
open Go.RowKit Go.Shelf

theorem MeshAt.tg {S : Nat → Prop} {w : World} {m : Nat} {l : List Deed} {cs : List (List En)} (h : MeshAt S w m l cs) : ∀ x, S x → CelAt w x := by
  obtain ⟨F, b, c, h⟩ := h
  exact h.tg
theorem Bd.blocks {B : Nat} {w w' : World} {b : Nat} {bs : List Value} {p v : Value} (h : Bd B w b bs p v) (hb : w'.heap[b]? = w.heap[b]?) (hv : ∀ g, v.ownBlock = some g → w'.heap[g]? = w.heap[g]?) : Bd B w' b bs p v := by
  refine ⟨h.pp, hb.trans h.blk, ⟨h.own.1, ?_⟩, h.ne, h.le⟩
  rcases h.own.2 with hn | ⟨g, cap, cur, fz, rfl, hB, hg, rest⟩
  · exact .inl hn
  · exact .inr ⟨g, cap, cur, fz, rfl, hB, (hv g rfl).trans hg, rest⟩
theorem Bd.cel {B : Nat} {w : World} {b : Nat} {bs : List Value} {p v : Value} (h : Bd B w b bs p v) : CelAt w b ∧ ∀ g, v.ownBlock = some g → CelAt w g := by
  refine ⟨⟨_, _, _, h.blk⟩, fun g hg => ?_⟩
  rcases h.own.2 with ⟨rfl, _⟩ | ⟨g', cap, cur, fz, rfl, _, hx, _⟩
  · simp [Value.ownBlock] at hg
  · obtain rfl : g' = g := by simpa [Value.ownBlock] using hg
    exact ⟨_, _, _, hx⟩
/-- what Run carries: its desk at N + 1, its table at N, the desk's box at N + 2, the builder at N + 3 -/
structure RnJ (w : World) (N m : Nat) (l : List Deed) (cs : List (List En)) (bs : List Value) (W : World) : Prop where
  st : ∃ S p v, Dk S W (N + 1) m N l cs ∧ Bd (N + 3) W (N + 3) bs p v ∧ (∀ x, S x → w.heap.size ≤ x ∧ x ≠ N + 2 ∧ x ≠ N + 3 ∧ v.ownBlock ≠ some x) ∧ ∀ x, v.ownBlock = some x → N + 5 ≤ x
  bx : Boxed W (N + 2) 129 (.pointer (some ⟨N + 1, 0, none⟩))
  bel : Below w.heap.size w W
  big : N + 5 ≤ W.heap.size
  le : w.heap.size ≤ N ∧ 7 ≤ w.heap.size
theorem not_cel {W : World} {x r : Nat} {o : Obj} (h : CelAt W x) (hr : W.heap[r]? = some o) (ho : o.isCells = false) : x ≠ r := by
  rintro rfl
  obtain ⟨cur, e, fz, hx⟩ := h
  rw [hr] at hx
  cases hx
  cases ho
theorem RnJ.own {w : World} {N m : Nat} {B : Nat} (hB : N + 5 ≤ B) {β : Type} (l : β → List Deed) (cs : β → List (List En)) (bs : β → List Value) : OwnFrom B (fun (x : β) W => RnJ w N m (l x) (cs x) (bs x) W) := by
  intro x X Y row hs hg hr
  obtain ⟨S, p, v, h1, h2, h3, h4⟩ := hs.st
  obtain ⟨hw, hn⟩ := hs.le
  have hbig := hs.big
  have hrow : ∀ r, row = some r → N + 5 ≤ r ∧ ∃ o : Obj, X.heap[r]? = some o ∧ o.isCells = false := fun r hr' => ⟨by have := (hr r hr').1; omega, (hr r hr').2⟩
  have hk : Kept (fun y => row = some y) X Y := ⟨hg.os, hg.tape, hg.output, hg.size, fun y hy hn => hg.block y hy (fun e => hn e.symm)⟩
  have hne : ∀ y, CelAt X y → row ≠ some y := fun y hy e => by
    obtain ⟨_, o, ho, hc⟩ := hrow y e
    exact not_cel hy ho hc rfl
  have hlt : ∀ y, CelAt X y → y < X.heap.size := fun y hy => by
    obtain ⟨_, _, _, hx⟩ := hy
    exact (Array.getElem?_eq_some_iff.1 hx).1
  refine ⟨⟨S, p, v, h1.kept hk (fun y hy => ⟨fun hS => hne y (h1.mesh.tg y hS) hy, ?_, ?_, ?_⟩), h2.blocks (hk.block _ (hlt _ h2.cel.1) (hne _ h2.cel.1)) (fun g hg' => hk.block _ (hlt _ (h2.cel.2 g hg')) (hne _ (h2.cel.2 g hg'))), h3, h4⟩, hs.bx.kept hg ?_, hs.bel.trans ⟨hg.os, hg.tape, hg.output, hg.size, fun c hc => hg.block c (by have := hs.bel.size; omega) (fun e => by have := (hrow c e.symm).1; omega)⟩, Nat.le_trans hs.big hg.size, hs.le⟩
  · have := (hrow y hy).1; omega
  · have := (hrow y hy).1; omega
  · have := (hrow y hy).1; omega
  · exact fun e => hne (N + 2) ⟨_, _, _, hs.bx⟩ e.symm
/-- a call that keeps what is not cells -/
def RnTo (N : Nat) (W W' : World) : Prop := KeepsFrom (N + 5) W W' ∧ KpG W W'
theorem RnTo.trans {N : Nat} {A B C : World} (h : RnTo N A B) (k : RnTo N B C) : RnTo N A C := ⟨h.1.trans k.1, KpG.t h.2 k.2⟩
theorem kept_rnTo {N : Nat} {F : Nat → Prop} {W W' : World} (h : Kept F W W') (hF : ∀ x, F x → CelAt W x ∧ 7 ≤ x) (hn : 7 ≤ W.heap.size) : RnTo N W W' :=
  ⟨⟨h.size, fun k o _ ho hc => (h.block k (Array.getElem?_eq_some_iff.1 ho).1 (fun hf => not_cel (hF k hf).1 ho hc rfl)).trans ho⟩, h.block _ (Nat.lt_of_lt_of_le (by decide) hn) (fun hf => absurd (hF _ hf).2 (by decide))⟩
theorem rn_answer {w : World} {N m : Nat} {l : List Deed} {cs : List (List En)} {bs : List Value} {W : World} (h : RnJ w N m l cs bs W) (s : ByteArray) (hs : s.size ≤ 3000) :
    Calls Tryz.prog 82 #[.pointer (some ⟨N + 1, 0, none⟩), .string s] W fun e W' => e = .returned (.string (answerO l cs s).1) ∧ RnJ w N m (answerO l cs s).2.1 (answerO l cs s).2.2 bs W' ∧ RnTo N W W' := by
  obtain ⟨S, p, v, h1, h2, h3, h4⟩ := h.st
  obtain ⟨hw, hn⟩ := h.le
  have hbig := h.big
  have hWs := h.bel.size
  refine (answer_c h1 s hs).mono ?_
  rintro e W' ⟨rfl, hk, S', h1', hS'⟩
  have hlt : ∀ y, CelAt W y → y < W.heap.size := fun y hy => by
    obtain ⟨_, _, _, hx⟩ := hy
    exact (Array.getElem?_eq_some_iff.1 hx).1
  have hvl : ∀ g, v.ownBlock = some g → g < W.heap.size := fun g hg => hlt g (h2.cel.2 g hg)
  refine ⟨rfl, ⟨⟨S', p, v, h1', h2.blocks (hk.block _ h2.lt (fun hS => (h3 _ hS).2.2.1 rfl)) (fun g hg => hk.block g (hvl g hg) (fun hS => (h3 g hS).2.2.2 hg)), fun x hx => ?_, h4⟩, ?_, ?_, Nat.le_trans hbig hk.size, h.le⟩, kept_rnTo hk (fun x hx => ⟨h1.mesh.tg x hx, h1.lo x hx⟩) (by omega)⟩
  · rcases hS' x hx with h' | h'
    · exact h3 x h'
    · exact ⟨by omega, by omega, by omega, fun e => by have := hvl x e; omega⟩
  · exact (hk.block _ h.bx.lt (fun hS => (h3 _ hS).2.1 rfl)).trans h.bx
  · exact h.bel.trans (hk.below (B := w.heap.size) hWs (fun x hx => (h3 x hx).1))
theorem bd_rn {w : World} {N m : Nat} {l : List Deed} {cs : List (List En)} {bs bs' : List Value} {W W' : World} {S : Nat → Prop} {p v : Value} (h : RnJ w N m l cs bs W) (h1 : Dk S W (N + 1) m N l cs) (h2 : Bd (N + 3) W (N + 3) bs p v) (h3 : ∀ x, S x → w.heap.size ≤ x ∧ x ≠ N + 2 ∧ x ≠ N + 3 ∧ v.ownBlock ≠ some x) (h4 : ∀ x, v.ownBlock = some x → N + 5 ≤ x) (hto : BdTo (N + 3) W W' (N + 3) bs' v) :
    RnJ w N m l cs bs' W' ∧ RnTo N W W' := by
  obtain ⟨hw, hn⟩ := h.le
  have hbig := h.big
  have hWs := h.bel.size
  obtain ⟨v', g1, g2, hk, hb⟩ := hto
  have hF : ∀ x, (x = N + 3 ∨ v.ownBlock = some x) → N + 3 ≤ x ∧ CelAt W x ∧ ¬ S x := fun x hx => by
    rcases hx with rfl | hx
    · exact ⟨Nat.le_refl _, h2.cel.1, fun hS => (h3 _ hS).2.2.1 rfl⟩
    · exact ⟨by have := h4 x hx; omega, h2.cel.2 x hx, fun hS => (h3 _ hS).2.2.2 hx⟩
  refine ⟨⟨⟨S, _, v', h1.kept hk (fun x hx => ⟨(hF x hx).2.2, ?_, ?_, ?_⟩), g1, fun x hx => ?_, fun x hx => ?_⟩, ?_, h.bel.trans (hb.mono (by omega)), Nat.le_trans hbig hk.size, h.le⟩, kept_rnTo hk (fun x hx => ⟨(hF x hx).2.1, by have := (hF x hx).1; omega⟩) (by omega)⟩
  · have := (hF x hx).1; omega
  · have := (hF x hx).1; omega
  · have := (hF x hx).1; omega
  · obtain ⟨a1, a2, a3, a4⟩ := h3 x hx
    refine ⟨a1, a2, a3, fun e => ?_⟩
    rcases g2 x e with h' | h'
    · exact a4 h'
    · have := h1.mesh.lt x hx; omega
  · rcases g2 x hx with h' | h'
    · exact h4 x h'
    · omega
  · refine (hk.block _ h.bx.lt (fun hf => ?_)).trans h.bx
    have := (hF _ hf).1
    omega
theorem rn_string {w : World} {N m : Nat} {l : List Deed} {cs : List (List En)} {bs : List Value} {W : World} (h : RnJ w N m l cs bs W) (t : ByteArray) (hl : bs.length + t.size ≤ 140737488355328) :
    Calls Tryz.prog 81 #[.pointer (some ⟨N + 3, 0, none⟩), .string t] W fun e W' => (∃ u, e = .returned u) ∧ RnJ w N m l cs (bs ++ Lib.strCells t) W' ∧ RnTo N W W' := by
  obtain ⟨S, p, v, h1, h2, h3, h4⟩ := h.st
  refine (writeString_c h2 t hl (by have := h.big; omega)).mono ?_
  rintro e W' ⟨hu, hto⟩
  exact ⟨hu, bd_rn h h1 h2 h3 h4 hto⟩
theorem rn_byte {w : World} {N m : Nat} {l : List Deed} {cs : List (List En)} {bs : List Value} {W : World} (h : RnJ w N m l cs bs W) (c : Int) (hl : bs.length + 1 ≤ 140737488355328) :
    Calls Tryz.prog 83 #[.pointer (some ⟨N + 3, 0, none⟩), .int .u8 c] W fun e W' => (∃ u, e = .returned u) ∧ RnJ w N m l cs (bs ++ [.int .u8 c]) W' ∧ RnTo N W W' := by
  obtain ⟨S, p, v, h1, h2, h3, h4⟩ := h.st
  refine (writeByte_c h2 c hl (by have := h.big; omega)).mono ?_
  rintro e W' ⟨hu, hto⟩
  exact ⟨hu, bd_rn h h1 h2 h3 h4 hto⟩
theorem run_start {w w1 W0 : World} {m : Nat} {S : Nat → Prop} {s : ByteArray} (hg : Gl w) (hng : 7 ≤ w.heap.size) (hm : MeshAt S w1 m [] (List.replicate 3 [])) (hS : ∀ x, S x → w.heap.size ≤ x) (hb : Below w.heap.size w w1)
    (hW0 : (((((w1.alloc (.map wantE7 7)).alloc (.cells #[.pointer (some ⟨m, 0, none⟩), .map (some w1.heap.size)] 133)).alloc (.cells #[.pointer (some ⟨w1.heap.size + 1, 0, none⟩)] 129)).alloc (.cells #[.pointer none, .slice none 0 0] 136)).alloc (.cells #[.string s] 9)) = W0) :
    RnJ w w1.heap.size m [] (List.replicate 3 []) [] W0 ∧ W0.heap.size = w1.heap.size + 5 ∧ W0.cell? ⟨w1.heap.size + 4, 0, none⟩ = some (.string s) ∧ Below w.heap.size w W0 := by
  have hs1 := hb.size
  obtain ⟨A1, a1⟩ : ∃ A1, A1 = w1.alloc (.map wantE7 7) := ⟨_, rfl⟩
  obtain ⟨A2, a2⟩ : ∃ A2, A2 = A1.alloc (.cells #[.pointer (some ⟨m, 0, none⟩), .map (some w1.heap.size)] 133) := ⟨_, rfl⟩
  obtain ⟨A3, a3⟩ : ∃ A3, A3 = A2.alloc (.cells #[.pointer (some ⟨w1.heap.size + 1, 0, none⟩)] 129) := ⟨_, rfl⟩
  obtain ⟨A4, a4⟩ : ∃ A4, A4 = A3.alloc (.cells #[.pointer none, .slice none 0 0] 136) := ⟨_, rfl⟩
  rw [← a1, ← a2, ← a3, ← a4] at hW0
  have z1 : A1.heap.size = w1.heap.size + 1 := by rw [a1]; simp
  have z2 : A2.heap.size = w1.heap.size + 2 := by rw [a2]; simp; omega
  have z3 : A3.heap.size = w1.heap.size + 3 := by rw [a3]; simp; omega
  have z4 : A4.heap.size = w1.heap.size + 4 := by rw [a4]; simp; omega
  have z5 : W0.heap.size = w1.heap.size + 5 := by rw [← hW0]; simp; omega
  have b1 : Below w1.heap.size w1 A1 := by rw [a1]; exact (Below.refl _ _).alloc (Nat.le_refl _) _
  have b2 : Below (w1.heap.size + 1) A1 A2 := by rw [a2]; exact (Below.refl _ _).alloc (by omega) _
  have b3 : Below (w1.heap.size + 2) A2 A3 := by rw [a3]; exact (Below.refl _ _).alloc (by omega) _
  have b4 : Below (w1.heap.size + 3) A3 A4 := by rw [a4]; exact (Below.refl _ _).alloc (by omega) _
  have b5 : Below (w1.heap.size + 4) A4 W0 := by rw [← hW0]; exact (Below.refl _ _).alloc (by omega) _
  have c4 : Below (w1.heap.size + 3) A3 W0 := b4.trans (b5.mono (by omega))
  have c3 : Below (w1.heap.size + 2) A2 W0 := b3.trans (c4.mono (by omega))
  have c2 : Below (w1.heap.size + 1) A1 W0 := b2.trans (c3.mono (by omega))
  have c1 : Below w1.heap.size w1 W0 := b1.trans (c2.mono (by omega))
  have hB : Below w.heap.size w W0 := hb.trans (c1.mono hs1)
  have r1 : A1.heap[w1.heap.size]? = some (.map wantE7 7) := by rw [a1]; exact World.alloc_heap_new w1 _
  have r2 : A2.heap[w1.heap.size + 1]? = some (.cells #[.pointer (some ⟨m, 0, none⟩), .map (some w1.heap.size)] 133 (0, 0)) := by
    have h := World.alloc_heap_new A1 (.cells #[.pointer (some ⟨m, 0, none⟩), .map (some w1.heap.size)] 133)
    rw [z1] at h
    rw [a2]
    exact h
  have r3 : A3.heap[w1.heap.size + 2]? = some (.cells #[.pointer (some ⟨w1.heap.size + 1, 0, none⟩)] 129 (0, 0)) := by
    have h := World.alloc_heap_new A2 (.cells #[.pointer (some ⟨w1.heap.size + 1, 0, none⟩)] 129)
    rw [z2] at h
    rw [a3]
    exact h
  have r4 : A4.heap[w1.heap.size + 3]? = some (.cells #[.pointer none, .slice none 0 0] 136 (0, 0)) := by
    have h := World.alloc_heap_new A3 (.cells #[.pointer none, .slice none 0 0] 136)
    rw [z3] at h
    rw [a4]
    exact h
  have r5 : W0.heap[w1.heap.size + 4]? = some (.cells #[.string s] 9 (0, 0)) := by
    have h := World.alloc_heap_new A4 (.cells #[.string s] 9)
    rw [z4] at h
    rw [← hW0]
    exact h
  have q1 : W0.heap[w1.heap.size]? = some (.map wantE7 7) := (c2.block _ (by omega)).trans r1
  have q2 : W0.heap[w1.heap.size + 1]? = some (.cells #[.pointer (some ⟨m, 0, none⟩), .map (some w1.heap.size)] 133 (0, 0)) := (c3.block _ (by omega)).trans r2
  have q3 : W0.heap[w1.heap.size + 2]? = some (.cells #[.pointer (some ⟨w1.heap.size + 1, 0, none⟩)] 129 (0, 0)) := (c4.block _ (by omega)).trans r3
  have q4 : W0.heap[w1.heap.size + 3]? = some (.cells #[.pointer none, .slice none 0 0] 136 (0, 0)) := (b5.block _ (by omega)).trans r4
  have hSl : ∀ x, S x → x < w1.heap.size := hm.lt
  refine ⟨⟨⟨S, .pointer none, .slice none 0 0, ⟨hm.grown c1, goodM_new 3, by rw [Lib.cell_of_heap q2]; rfl, by rw [Lib.cell_of_heap q2]; rfl, q1, hg.below hB, fun x hx => Nat.le_trans hng (hS x hx), by omega, fun hx => by have := hSl _ hx; omega, fun hx => by have := hSl _ hx; omega⟩,
    ⟨.inl rfl, q4, World.ownsRowF_nil W0 _ _ _, by simp [Value.ownBlock], Nat.le_refl _⟩, fun x hx => ⟨hS x hx, by have := hSl x hx; omega, by have := hSl x hx; omega, by simp [Value.ownBlock]⟩, fun x hx => by simp [Value.ownBlock] at hx⟩, q3, hB, by omega, hs1, hng⟩, z5, by rw [Lib.cell_of_heap r5]; rfl, hB⟩
end Go.Proofs.YtpcnfoaoajfhlaaGreatDoor
