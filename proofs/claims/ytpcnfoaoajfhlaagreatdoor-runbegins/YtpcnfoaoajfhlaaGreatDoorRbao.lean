/-
  package store by its contracts: a store in memory that holds what was done ('StoreIs'); put, delete, swap, at, read, seq and new do what the plain functions say, and write nothing but the store's own blocks.
  package store by its contracts, the calls: checkPut, Put, Delete, Swap, At, Read, Seq, New.
-/
import Derived.Test.YtpcnfoaoajfhlaaGreatDoorRban
import Derived.Test.YtpcnfoaoajfhlaaGreatDoorRbah
namespace Go.Proofs.YtpcnfoaoajfhlaaGreatDoor
set_option linter.unusedVariables false
set_option linter.unusedSimpArgs false
set_option linter.unusedVariables false
set_option linter.unusedSimpArgs false
open Go.RowKit

/-- nothing but the blocks in F has turned -/
structure Kept (F : Nat → Prop) (w w' : World) : Prop where
  os : w'.os = w.os
  tape : w'.tape = w.tape
  output : w'.output = w.output
  size : w.heap.size ≤ w'.heap.size
  block : ∀ c, c < w.heap.size → ¬ F c → w'.heap[c]? = w.heap[c]?
theorem Kept.refl (F : Nat → Prop) (w : World) : Kept F w w := ⟨rfl, rfl, rfl, Nat.le_refl _, fun _ _ _ => rfl⟩
theorem Kept.trans {F G : Nat → Prop} {a b c : World} (h : Kept F a b) (k : Kept G b c) (hG : ∀ x, x < a.heap.size → G x → F x) : Kept F a c :=
  ⟨k.os.trans h.os, k.tape.trans h.tape, k.output.trans h.output, Nat.le_trans h.size k.size, fun x hx hF => (k.block x (Nat.lt_of_lt_of_le hx h.size) (fun g => hF (hG x hx g))).trans (h.block x hx hF)⟩
theorem Kept.of_below {F : Nat → Prop} {w w' : World} (h : Below w.heap.size w w') : Kept F w w' :=
  ⟨h.os, h.tape, h.output, h.size, fun c hc _ => h.block c hc⟩
theorem Kept.below {F : Nat → Prop} {w w' : World} {B : Nat} (h : Kept F w w') (hB : B ≤ w.heap.size) (hF : ∀ c, F c → B ≤ c) : Below B w w' :=
  ⟨h.os, h.tape, h.output, h.size, fun c hc => h.block c (Nat.lt_of_lt_of_le hc hB) (fun f => by have := hF c f; omega)⟩
theorem Kept.mono {F G : Nat → Prop} {w w' : World} (h : Kept F w w') (hG : ∀ x, F x → G x) : Kept G w w' :=
  ⟨h.os, h.tape, h.output, h.size, fun c hc hg => h.block c hc (fun f => hg (hG c f))⟩
theorem Kept.cell {F : Nat → Prop} {w w' : World} (h : Kept F w w') (a : Addr) (ha : a.block < w.heap.size) (hF : ¬ F a.block) : w'.cell? a = w.cell? a := World.cell?_of_block (h.block a.block ha hF)
theorem Kept.frozen {F : Nat → Prop} {w w' : World} (h : Kept F w w') (a : Addr) (ha : a.block < w.heap.size) (hF : ¬ F a.block) : w'.frozen? a = w.frozen? a := World.frozen?_of_block (h.block a.block ha hF)
theorem HasErr.kept {F : Nat → Prop} {w w' : World} (h : HasErr w) (k : Kept F w w') (hF : ¬ F 0) : HasErr w' := h.of_block (k.block 0 h.lt hF)

theorem ownsRow_blocks {w w' : World} {base : Nat} {e : TypeId} {size : Nat} {v : Value} {n : Nat} {xs : List Value} (h : w.ownsRow base e size v n xs) (hb : ∀ g, v.ownBlock = some g → w'.heap[g]? = w.heap[g]?) : w'.ownsRow base e size v n xs := by
  refine ⟨h.1, ?_⟩
  rcases h.2 with hn | ⟨g, cap, cur, rfl, h1, hg, rest⟩
  · exact .inl hn
  · exact .inr ⟨g, cap, cur, rfl, h1, (hb g rfl).trans hg, rest⟩
theorem cell_heap {w w' : World} (h : w'.heap = w.heap) (a : Addr) : w'.cell? a = w.cell? a := World.cell?_of_block (by rw [h])
theorem frozen_heap {w w' : World} (h : w'.heap = w.heap) (a : Addr) : w'.frozen? a = w.frozen? a := World.frozen?_of_block (by rw [h])

/-- a store at block b that holds what was done; its blocks are in F -/
def StoreIs (w : World) (b : Nat) (l : List Deed) (F : Nat → Prop) : Prop :=
  w.cell? ⟨b, 0, none⟩ = some (.int .i64 l.length) ∧ w.frozen? ⟨b, 0, none⟩ = false ∧ l.length ≤ 1000 ∧ F b ∧ (∀ c, F c → c < w.heap.size) ∧
  ∃ V : Nat → Value, (∀ k, k < 8 → w.cell? ⟨b, 1 + k, none⟩ = some (V k) ∧ w.frozen? ⟨b, 1 + k, none⟩ = false ∧ w.ownsRow 0 160 3 (V k) (pastOf l k).length (rowOf (pastOf l k)) ∧ (V k).ownBlock ≠ some b ∧ ∀ c, (V k).ownBlock = some c → F c) ∧
    ∀ j k, j < 8 → k < 8 → j ≠ k → ∀ c, (V j).ownBlock = some c → (V k).ownBlock ≠ some c

theorem StoreIs.blocks {w w' : World} {b : Nat} {l : List Deed} {F : Nat → Prop} (h : StoreIs w b l F) (hs : w.heap.size ≤ w'.heap.size) (hb : ∀ c, F c → w'.heap[c]? = w.heap[c]?) : StoreIs w' b l F := by
  obtain ⟨c0, f0, hl, Fb, Fl, V, hV, hd⟩ := h
  have eb := hb b Fb
  refine ⟨(World.cell?_of_block (a := ⟨b, 0, none⟩) eb).trans c0, (World.frozen?_of_block (a := ⟨b, 0, none⟩) eb).trans f0, hl, Fb, fun c hc => Nat.lt_of_lt_of_le (Fl c hc) hs, V, fun k hk => ?_, hd⟩
  obtain ⟨a1, a2, a3, a4, a5⟩ := hV k hk
  exact ⟨(World.cell?_of_block (a := ⟨b, 1 + k, none⟩) eb).trans a1, (World.frozen?_of_block (a := ⟨b, 1 + k, none⟩) eb).trans a2, ownsRow_blocks a3 (fun g hg => hb g (a5 g hg)), a4, a5⟩
theorem StoreIs.below {w w' : World} {b : Nat} {l : List Deed} {F : Nat → Prop} (h : StoreIs w b l F) (hb : Below w.heap.size w w') : StoreIs w' b l F :=
  h.blocks hb.size (fun c hc => hb.block c (h.2.2.2.2.1 c hc))
theorem StoreIs.kept {w w' : World} {b : Nat} {l : List Deed} {F G : Nat → Prop} (h : StoreIs w b l F) (hb : Kept G w w') (hn : ∀ c, F c → ¬ G c) : StoreIs w' b l F :=
  h.blocks hb.size (fun c hc => hb.block c (h.2.2.2.2.1 c hc) (hn c hc))

/-- an error by its number: 0: none -/
def errV (n : Int) : Value := if n = 0 then .nilIface else .iface 85 (.int .i64 n)
theorem error_any (n m : Int) (w : World) (hg : HasErr w) : Calls Tryz.prog 8 #[errV n, .int .i64 m] w fun e w' => e = .returned (.bool (n == m)) ∧ Below w.heap.size w w' := by
  by_cases h : n = 0
  · subst h
    exact (error_nil m w).mono fun e w' ⟨he, hw⟩ => ⟨he, hw ▸ Below.refl _ _⟩
  · have e : errV n = .iface 85 (.int .i64 n) := by simp [errV, h]
    rw [e]
    exact error_err n m w hg

theorem record_ok (b k : Nat) (gone : Bool) (text : ByteArray) (l : List Deed) (F : Nat → Prop) (w : World) (hk8 : k < 8) (hs : l.length < 1000) (h : StoreIs w b l F) :
    Calls Tryz.prog 94 #[.pointer (some ⟨b, 0, none⟩), .int .i64 k, .bool gone, .string text] w fun e w' =>
      e = .returned (.tuple #[.int .i64 (l.length + 1), .nilIface]) ∧ ∃ F', StoreIs w' b (l ++ [⟨k, gone, text⟩]) F' ∧ (∀ c, F' c → F c ∨ w.heap.size ≤ c) ∧ Kept F w w' := by
  obtain ⟨c0, f0, hl, Fb, Fl, V, hV, hd⟩ := h
  obtain ⟨a1, a2, a3, a4, a5⟩ := hV k hk8
  refine (record_w b k gone text l.length (pastOf l k) (V k) w hk8 hs c0 f0 a1 a2 a3 (pastOf_length k l) a4).mono ?_
  rintro e w' ⟨rfl, g, cap, w1, hh, ho, ht, hout, hown, hgrow, hat, hlt⟩
  have lb : b < w.heap.size := Fl b Fb
  have hs1 : w.heap.size + 1 ≤ w1.heap.size := by have := hgrow.size; simpa using this
  -- a block that is neither the store's own nor the row's
  have keep : ∀ c, c < w.heap.size → c ≠ b → (V k).ownBlock ≠ some c → w'.heap[c]? = w.heap[c]? := by
    intro c hc hcb hne
    rw [hh, Below.heap_setCell w1 _ _ c hcb, hgrow.block c (by simp <;> omega) (Ne.symm hne)]
    show ((w.setCell _ _).alloc _).heap[c]? = _
    rw [Below.heap_alloc _ _ c (by simp <;> omega), Below.heap_setCell w _ _ c hcb]
  -- the store's own cells
  have own : ∀ j, w1.cell? ⟨b, j, none⟩ = (w.setCell ⟨b, 0, none⟩ (.int .i64 ((l.length : Int) + 1))).cell? ⟨b, j, none⟩ := by
    intro j
    refine (World.cell?_of_block (a := ⟨b, j, none⟩) ?_)
    rw [hgrow.block b (by simp <;> omega) (Ne.symm a4)]
    show ((w.setCell _ _).alloc _).heap[b]? = _
    rw [Below.heap_alloc _ _ b (by simp <;> omega)]
  have ownF : ∀ j, w1.frozen? ⟨b, j, none⟩ = w.frozen? ⟨b, j, none⟩ := by
    intro j
    refine Eq.trans (World.frozen?_of_block (a := ⟨b, j, none⟩) (w := w.setCell ⟨b, 0, none⟩ (.int .i64 ((l.length : Int) + 1))) ?_) (World.frozen?_setCell _ _ _ _)
    rw [hgrow.block b (by simp <;> omega) (Ne.symm a4)]
    show ((w.setCell _ _).alloc _).heap[b]? = _
    rw [Below.heap_alloc _ _ b (by simp <;> omega)]
  refine ⟨rfl, fun c => F c ∨ c = g, ?_, ?_, ?_⟩
  · have gnb : g ≠ b := by
      rcases hat with h | h
      · intro e; subst e; exact a4 h
      · omega
    refine ⟨?_, ?_, by simp; omega, .inl Fb, ?_, fun j => if j = k then .slice (some ⟨g, 0, none⟩) ((pastOf l k).length + 1) cap else V j, ?_, ?_⟩
    · rw [cell_heap hh, World.cell?_setCell_other _ _ _ _ (by simp <;> omega), own, World.cell?_setCell_same _ _ _ c0]; simp
    · rw [frozen_heap hh, World.frozen?_setCell, ownF]; exact f0
    · intro c hc
      rw [hh, World.size_setCell]
      rcases hc with hc | rfl
      · have := Fl c hc; omega
      · exact hlt
    · intro j hj
      obtain ⟨b1, b2, b3, b4, b5⟩ := hV j hj
      by_cases hjk : j = k
      · subst hjk
        have hpast : pastOf (l ++ [⟨(j : Int), gone, text⟩]) j = pastOf l j ++ [⟨(l.length : Int) + 1, gone, text⟩] := by rw [pastOf_snoc, if_pos rfl]
        simp only [if_true]
        refine ⟨?_, ?_, ?_, ?_, ?_⟩
        · rw [cell_heap hh]
          exact World.cell?_setCell_same _ _ _ ((own _).trans ((World.cell?_setCell_other _ _ _ _ (by simp <;> omega)).trans b1))
        · rw [frozen_heap hh, World.frozen?_setCell, ownF]; exact b2
        · rw [hpast, rowOf_append, List.length_append]
          refine ownsRow_blocks hown (fun g' hg' => ?_)
          obtain rfl : g = g' := by simpa [Value.ownBlock] using hg'
          rw [hh, Below.heap_setCell w1 _ _ g gnb]
        · simpa [Value.ownBlock] using gnb
        · intro c hc
          exact .inr (by simpa [Value.ownBlock] using hc.symm)
      · have hpast : pastOf (l ++ [⟨(k : Int), gone, text⟩]) j = pastOf l j := by rw [pastOf_snoc, if_neg (by simp <;> omega)]
        simp only [if_neg hjk]
        refine ⟨?_, ?_, ?_, b4, fun c hc => .inl (b5 c hc)⟩
        · rw [cell_heap hh, World.cell?_setCell_other _ _ _ _ (by simp <;> omega), own, World.cell?_setCell_other _ _ _ _ (by simp <;> omega)]; exact b1
        · rw [frozen_heap hh, World.frozen?_setCell, ownF]; exact b2
        · rw [hpast]
          refine ownsRow_blocks b3 (fun c hc => keep c (Fl c (b5 c hc)) (fun e => b4 (by rw [hc, e])) (fun e => hd j k hj hk8 hjk c hc e))
    · intro i j hi hj hij c hc
      dsimp only at hc ⊢
      by_cases hik : i = k
      · subst hik
        rw [if_neg (Ne.symm hij)]
        simp only [if_true, Value.ownBlock, Option.some.injEq] at hc
        intro e
        rcases hat with h | h
        · exact hd i j hi hj hij g h (by rw [e, hc])
        · have := Fl c ((hV j hj).2.2.2.2 c e); omega
      · rw [if_neg hik] at hc
        by_cases hjk : j = k
        · subst hjk
          simp only [if_true, Value.ownBlock, ne_eq, Option.some.injEq]
          intro e
          subst e
          rcases hat with h | h
          · exact hd i j hi hj hij g hc h
          · have := Fl g ((hV i hi).2.2.2.2 g hc); omega
        · rw [if_neg hjk]
          exact hd i j hi hj hij c hc
  · intro c hc
    rcases hc with h | rfl
    · exact .inl h
    · rcases hat with h | h
      · exact .inl (a5 _ h)
      · exact .inr (by omega)
  · refine ⟨ho, ht, hout, by rw [hh, World.size_setCell]; omega, fun c hc hF => keep c hc (fun e => hF (e ▸ Fb)) (fun e => hF (a5 c e))⟩
end Go.Proofs.YtpcnfoaoajfhlaaGreatDoor

namespace Go.Proofs.YtpcnfoaoajfhlaaGreatDoor
set_option linter.unusedVariables false
set_option linter.unusedSimpArgs false
open Go.RowKit

theorem fld0 (x : Int) (y : Bool) (z : ByteArray) (w : World) : (Instr.field 160 (.agg #[.int .i64 x, .bool y, .string z]) 0).run Tryz.prog w = .ok (.int .i64 x) w := by kernel_rfl
theorem fld1 (x : Int) (y : Bool) (z : ByteArray) (w : World) : (Instr.field 160 (.agg #[.int .i64 x, .bool y, .string z]) 1).run Tryz.prog w = .ok (.bool y) w := by kernel_rfl
theorem stKey_b (k : Int) (b : Bool) (w : World) (h : stK k = b) : Calls Tryz.prog 95 #[.int .i64 k] w fun e w' => e = .returned (.bool b) ∧ w' = w := by
  subst h; exact stKey_c k w

theorem record_full (b : Nat) (k : Int) (gone : Bool) (text : ByteArray) (l : List Deed) (F : Nat → Prop) (w : World) (hs : ¬ l.length < 1000) (h : StoreIs w b l F) :
    Calls Tryz.prog 94 #[.pointer (some ⟨b, 0, none⟩), .int .i64 k, .bool gone, .string text] w fun e w' =>
      e = .returned (.tuple #[.int .i64 0, .iface 85 (.int .i64 4)]) ∧ w' = w := by
  have c0 := h.1
  have h4 : (1000 : Int) ≤ (l.length : Int) := by omega
  clear h hs
  go_enter Tryz.func94, Tryz.ntmps94
  go_wp2
  go_ret2
  exact ⟨rfl, rfl⟩

/-- what is wrong with a key and its text -/
def chk (k : Int) (t : ByteArray) : Int := if ¬ stK k = true then 1 else if 12 < t.size then 4 else 0
theorem checkPut_c (k : Int) (t : ByteArray) (w : World) (ht : t.size ≤ maxLen) : Calls Tryz.prog 93 #[.int .i64 k, .string t] w fun e w' => e = .returned (errV (chk k t)) ∧ w' = w := by
  unfold maxLen at ht
  cases hk : stK k
  · have HK : Hid (stK k = false) := hk
    clear hk
    go_enter Tryz.func93, Tryz.ntmps93
    go_wp2_with (go_at_call 95; refine (stKey_b _ false _ HK.out).mono ?_; rintro e w' ⟨rfl, rfl⟩)
    go_ret
    exact ⟨by simp [chk, errV, HK.out], rfl⟩
  · have HK : Hid (stK k = true) := hk
    clear hk
    by_cases h : 12 < t.size
    · have h' : (12 : Int) < (t.size : Int) := by omega
      go_enter Tryz.func93, Tryz.ntmps93
      go_wp2_with (go_at_call 95; refine (stKey_b _ true _ HK.out).mono ?_; rintro e w' ⟨rfl, rfl⟩)
      go_ret
      exact ⟨by simp [chk, errV, HK.out, h], rfl⟩
    · have h' : ¬ (12 : Int) < (t.size : Int) := by omega
      go_enter Tryz.func93, Tryz.ntmps93
      go_wp2_with (go_at_call 95; refine (stKey_b _ true _ HK.out).mono ?_; rintro e w' ⟨rfl, rfl⟩)
      go_ret
      exact ⟨by simp [chk, errV, HK.out, h], rfl⟩

/-- what a call of the store leaves -/
def Left (b : Nat) (F : Nat → Prop) (w : World) (o : Out) (e : Ending) (w' : World) : Prop :=
  e = .returned (.tuple #[.int .i64 o.num, errV o.err]) ∧ ∃ F', StoreIs w' b o.done F' ∧ (∀ c, F' c → F c ∨ w.heap.size ≤ c) ∧ Kept F w w'
theorem Left.same {b : Nat} {F : Nat → Prop} {w w' : World} {l : List Deed} {n : Int} (h : StoreIs w b l F) (hb : Below w.heap.size w w') : Left b F w ⟨l, 0, n⟩ (.returned (.tuple #[.int .i64 0, errV n])) w' :=
  ⟨rfl, F, h.below hb, fun _ hc => .inl hc, Kept.of_below hb⟩
theorem Left.same' {b : Nat} {F : Nat → Prop} {w w' : World} {l : List Deed} {n : Int} {e : Value} {o : Out} (h : StoreIs w b l F) (hb : Below w.heap.size w w') (he : e = errV n) (ho : o = ⟨l, 0, n⟩) : Left b F w o (.returned (.tuple #[.int .i64 0, e])) w' := by
  subst he; subst ho; exact Left.same h hb
theorem Left.step {b : Nat} {F : Nat → Prop} {w w1 w' : World} {o : Out} {e : Ending} (hb : Below w.heap.size w w1) (h : Left b F w1 o e w') : Left b F w o e w' := by
  obtain ⟨he, F', hs, hf, hk⟩ := h
  refine ⟨he, F', hs, fun c hc => ?_, (Kept.of_below (F := F) hb).trans hk (fun _ _ h => h)⟩
  rcases hf c hc with h | h
  · exact .inl h
  · exact .inr (Nat.le_trans hb.size h)

theorem key_nat {k : Int} (h : stK k = true) : ∃ n : Nat, k = n ∧ n < 8 := by
  rw [stK_iff] at h
  exact ⟨k.toNat, by omega, by omega⟩

theorem record_any (b : Nat) (k : Int) (gone : Bool) (text : ByteArray) (l : List Deed) (F : Nat → Prop) (w : World) (hk : stK k = true) (h : StoreIs w b l F) :
    Calls Tryz.prog 94 #[.pointer (some ⟨b, 0, none⟩), .int .i64 k, .bool gone, .string text] w
      (Left b F w (recO l k gone text)) := by
  unfold recO
  obtain ⟨n, rfl, hn⟩ := key_nat hk
  by_cases hs : l.length < 1000
  · rw [if_neg (by omega)]
    refine (record_ok b n gone text l F w hn hs h).mono ?_
    rintro e w' ⟨rfl, F', h1, h2, h3⟩
    exact ⟨rfl, F', h1, h2, h3⟩
  · rw [if_pos (by omega)]
    refine (record_full b n gone text l F w hs h).mono ?_
    rintro e w' ⟨rfl, rfl⟩
    exact Left.same' h (Below.refl _ _) rfl rfl

theorem changeAt_s (b : Nat) (k : Int) (s : Nat) (l : List Deed) (F : Nat → Prop) (w : World) (hk : stK k = true) (h : StoreIs w b l F) :
    Calls Tryz.prog 96 #[.pointer (some ⟨b, 0, none⟩), .int .i64 k, .int .i64 s] w fun e w' => e = .returned (lastOf (l.take s) k).val ∧ Below w.heap.size w w' := by
  obtain ⟨n, rfl, hn⟩ := key_nat hk
  obtain ⟨c0, f0, hl, Fb, Fl, V, hV, hd⟩ := h
  obtain ⟨a1, a2, a3, a4, a5⟩ := hV n hn
  rw [← pick_pastOf]
  exact changeAt_c b n s (pastOf l n) (V n) w 0 hn a1 a3 (Nat.le_trans (pastOf_length _ _) hl)

theorem stPut_c (b : Nat) (k : Int) (t : ByteArray) (l : List Deed) (F : Nat → Prop) (w : World) (ht : t.size ≤ maxLen) (h : StoreIs w b l F) :
    Calls Tryz.prog 44 #[.pointer (some ⟨b, 0, none⟩), .int .i64 k, .string t] w (Left b F w (putO l k t)) := by
  have HS : Hid (StoreIs w b l F) := h
  clear h
  by_cases hc : chk k t = 0
  · have hk : stK k = true := by
      cases e : stK k
      · simp [chk, e] at hc
      · rfl
    have h12 : ¬ 12 < t.size := by
      intro e
      simp [chk, hk, e] at hc
    have HP : Hid (putO l k t = recO l k false t) := by simp [Hid, putO, hk, h12]
    have HE : Hid (errV (chk k t) = .nilIface) := by simp [Hid, hc, errV]
    have HK : Hid (stK k = true) := hk
    clear hk hc h12
    go_enter Tryz.func44, Tryz.ntmps44
    go_wp2_with (first | (go_at_call 93; refine (checkPut_c _ _ _ ht).mono ?_; rintro e w' ⟨rfl, rfl⟩; rw [HE.out]) | (go_at_call 94; refine (record_any b k false t l F _ HK.out HS.out).mono ?_; rintro e w' ⟨rfl, HF⟩))
    go_ret2
    rw [HP.out]
    exact ⟨rfl, HF⟩
  · have HP : Hid (putO l k t = ⟨l, 0, chk k t⟩) := by
      unfold Hid putO chk
      unfold chk at hc
      split
      · rfl
      · split
        · rfl
        · rename_i h1 h2; simp [h1, h2] at hc
    have HE : Hid (errV (chk k t) = .iface 85 (.int .i64 (chk k t))) := by simp [Hid, hc, errV]
    generalize hg : chk k t = x at *
    go_enter Tryz.func44, Tryz.ntmps44
    go_wp2_with (first | (go_at_call 93; refine (checkPut_c _ _ _ ht).mono ?_; rintro e w' ⟨rfl, rfl⟩; rw [hg, HE.out]))
    go_ret2
    exact Left.same' HS.out (Below.refl _ _) HE.out.symm HP.out

theorem seq_c (b : Nat) (l : List Deed) (F : Nat → Prop) (w : World) (h : StoreIs w b l F) :
    Calls Tryz.prog 51 #[.pointer (some ⟨b, 0, none⟩)] w fun e w' => e = .returned (.int .i64 l.length) ∧ w' = w := by
  have c0 := h.1
  clear h
  go_enter Tryz.func51, Tryz.ntmps51
  go_wp2
  go_ret
  exact ⟨rfl, rfl⟩

theorem delete_c (b : Nat) (k : Int) (l : List Deed) (F : Nat → Prop) (w : World) (h : StoreIs w b l F) :
    Calls Tryz.prog 46 #[.pointer (some ⟨b, 0, none⟩), .int .i64 k] w (Left b F w (delO l k)) := by
  have c0 := h.1
  have HS : Hid (StoreIs w b l F) := h
  clear h
  cases hk : stK k
  · have HK : Hid (stK k = false) := hk
    clear hk
    go_enter Tryz.func46, Tryz.ntmps46
    go_wp2_with (go_at_call 95; refine (stKey_b _ false _ HK.out).mono ?_; rintro e w' ⟨rfl, rfl⟩)
    go_ret2
    exact Left.same' (n := 1) HS.out (Below.refl _ _) rfl (by simp [delO, HK.out])
  · have HK : Hid (stK k = true) := hk
    clear hk
    cases hg : (lastOf l k).gone
    · obtain ⟨ver, text, HL⟩ : ∃ ver text, Hid ((lastOf (l.take l.length) k).val = .agg #[.int .i64 ver, .bool false, .string text]) := ⟨(lastOf l k).ver, (lastOf l k).text, by unfold Hid Chg.val; rw [List.take_length, hg]⟩
      have HD : Hid (delO l k = recO l k true ByteArray.empty) := by simp [Hid, delO, HK.out, hg]
      clear hg
      have ff := fld1
      go_enter Tryz.func46, Tryz.ntmps46
      go_wp2_with (first | (go_at_call 95; refine (stKey_b _ true _ HK.out).mono ?_; rintro e w' ⟨rfl, rfl⟩) | (go_at_call 96; refine (changeAt_s b k l.length l F _ HK.out HS.out).mono ?_; rintro e w1 ⟨rfl, hb⟩; rw [HL.out]) | (go_at_call 94; refine (record_any b k true ByteArray.empty l F _ HK.out (HS.out.below hb)).mono ?_; rintro e w' ⟨rfl, HF⟩))
      go_ret2
      rw [HD.out]
      exact Left.step hb ⟨rfl, HF⟩
    · obtain ⟨ver, text, HL⟩ : ∃ ver text, Hid ((lastOf (l.take l.length) k).val = .agg #[.int .i64 ver, .bool true, .string text]) := ⟨(lastOf l k).ver, (lastOf l k).text, by unfold Hid Chg.val; rw [List.take_length, hg]⟩
      have HD : Hid (delO l k = ⟨l, 0, 5⟩) := by simp [Hid, delO, HK.out, hg]
      clear hg
      have ff := fld1
      go_enter Tryz.func46, Tryz.ntmps46
      go_wp2_with (first | (go_at_call 95; refine (stKey_b _ true _ HK.out).mono ?_; rintro e w' ⟨rfl, rfl⟩) | (go_at_call 96; refine (changeAt_s b k l.length l F _ HK.out HS.out).mono ?_; rintro e w1 ⟨rfl, hb⟩; rw [HL.out]))
      go_ret2
      exact Left.same' (n := 5) HS.out hb rfl HD.out

end Go.Proofs.YtpcnfoaoajfhlaaGreatDoor
