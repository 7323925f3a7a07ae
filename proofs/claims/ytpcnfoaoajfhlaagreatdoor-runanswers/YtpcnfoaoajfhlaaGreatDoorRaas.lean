/-
  A row of points in memory, and one appended to it.
  cmp.Compare, cmp.Or and package ring's compare, by their contracts.
  meresame.Ints and mereref1.In by their contracts.
  Rows of numbers compared (as package tomb has them).
  The number of two numbers, in a form that can be reckoned; of one node no two points are the same.
  A ring's points on lists: points of nodes, who comes takes only for himself.
-/
import Derived.Test.YtpcnfoaoajfhlaaGreatDoorRaar
import Derived.BigQuiet
import Derived.Deep.RegionHeld3
import Derived.Sort.Grow
import Derived.Test.YtpcnfoaoajfhlaaGreatDoorRaan
import Derived.Test.YtpcnfoaoajfhlaaGreatDoorRaam
namespace Go.Proofs.YtpcnfoaoajfhlaaGreatDoor
set_option linter.unusedVariables false
set_option linter.unusedSimpArgs false
set_option linter.unusedVariables false
set_option linter.unusedSimpArgs false
open Go.RowKit

def Pt.val (e : Pt) : Value := .agg #[.int .i64 e.p, .int .i64 e.n]
def Pt.cells (e : Pt) : List Value := [.int .i64 e.p, .int .i64 e.n]
def rowT : List Pt → List Value
  | [] => []
  | e :: l => e.cells ++ rowT l
theorem Pt.cells_length (e : Pt) : e.cells.length = 2 := rfl
theorem rowT_append (l m : List Pt) : rowT (l ++ m) = rowT l ++ rowT m := by
  induction l with
  | nil => rfl
  | cons c l ih => simp only [List.cons_append, rowT, ih, List.append_assoc]
theorem rowT_length (l : List Pt) : (rowT l).length = l.length * 2 := by
  induction l with
  | nil => rfl
  | cons c l ih => simp only [rowT, List.length_append, Pt.cells_length, ih, List.length_cons]; omega
theorem rowT_one (l : List Pt) : ∀ u ∈ rowT l, u.oneCell' = true := by
  induction l with
  | nil => intro u hu; simp [rowT] at hu
  | cons c l ih =>
    intro u hu
    simp only [rowT, List.mem_append] at hu
    rcases hu with h | h
    · simp only [Pt.cells, List.mem_cons, List.not_mem_nil, or_false] at h
      rcases h with rfl | rfl <;> rfl
    · exact ih u h
theorem rowT_get (l : List Pt) (j : Nat) (h : j < l.length) : (rowT l)[j * 2]? = some (.int .i64 l[j].p) ∧ (rowT l)[j * 2 + 1]? = some (.int .i64 l[j].n) := by
  induction l generalizing j with
  | nil => simp at h
  | cons c l ih =>
    cases j with
    | zero => simp [rowT, Pt.cells]
    | succ j =>
      have e := ih j (by simpa using h)
      have e0 : (j + 1) * 2 = j * 2 + 2 := by omega
      simp only [rowT, Pt.cells, List.cons_append, List.nil_append, e0, List.getElem_cons_succ]
      have e1 : j * 2 + 2 + 1 = (j * 2 + 1) + 2 := by omega
      rw [e1]
      simpa using e
/-- a point's two cells at a place -/
structure PtAt (w : World) (b o : Nat) (e : Pt) : Prop where
  c0 : w.cell? ⟨b, o, none⟩ = some (.int .i64 e.p)
  c1 : w.cell? ⟨b, o + 1, none⟩ = some (.int .i64 e.n)
theorem PtAt.of_block {w w' : World} {b o : Nat} {e : Pt} (h : PtAt w b o e) (hb : w'.heap[b]? = w.heap[b]?) : PtAt w' b o e :=
  ⟨(World.cell?_of_block (a := ⟨b, o, none⟩) hb).trans h.c0, (World.cell?_of_block (a := ⟨b, o + 1, none⟩) hb).trans h.c1⟩
/-- a slice that holds a row of points -/
def PtsIs (w : World) (v : Value) (l : List Pt) : Prop :=
  l.length ≤ maxLen ∧ ∃ p cap, v = .slice p l.length cap ∧ (l ≠ [] → ∃ b o, p = some ⟨b, o, none⟩ ∧ b < w.heap.size ∧ ∀ j (h : j < l.length), PtAt w b (o + j * 2) l[j])
theorem PtsIs.blocks {w w' : World} {v : Value} {l : List Pt} (h : PtsIs w v l) (hs : w.heap.size ≤ w'.heap.size) (hb : ∀ c, v.ownBlock = some c → c < w.heap.size → w'.heap[c]? = w.heap[c]?) : PtsIs w' v l := by
  obtain ⟨h0, p, cap, rfl, h1⟩ := h
  refine ⟨h0, p, cap, rfl, fun hn => ?_⟩
  obtain ⟨b, o, rfl, hlt, hc⟩ := h1 hn
  exact ⟨b, o, rfl, Nat.lt_of_lt_of_le hlt hs, fun j hj => (hc j hj).of_block (hb b rfl hlt)⟩
theorem PtsIs.below {w w' : World} {v : Value} {l : List Pt} (h : PtsIs w v l) (hb : Below w.heap.size w w') : PtsIs w' v l :=
  h.blocks hb.size (fun c _ hc => hb.block c hc)
theorem PtsIs.nil (w : World) : PtsIs w (.slice none 0 0) [] := ⟨by simp, none, 0, rfl, fun h => absurd rfl h⟩
/-- a row of points of the call's own -/
def OwnP (B : Nat) (w : World) (v : Value) (l : List Pt) : Prop := w.ownsRow B 110 2 v l.length (rowT l)
theorem OwnP.nil (B : Nat) (w : World) : OwnP B w (.slice none 0 0) [] := World.ownsRow_nil w B _ 2
theorem OwnP.below {B : Nat} {w w' : World} {v : Value} {l : List Pt} (h : OwnP B w v l) (hb : Below w.heap.size w w') : OwnP B w' v l := ownsRow_belowF h hb
theorem OwnP.from {B : Nat} {w : World} {v : Value} {l : List Pt} (h : OwnP B w v l) (c : Nat) (hc : v.ownBlock = some c) : B ≤ c := ownsRow_fromF h c hc
theorem OwnP.pts {w : World} {B : Nat} {v : Value} {l : List Pt} (h : OwnP B w v l) : PtsIs w v l := by
  have hcell : ∀ g, v.ownBlock = some g → ∀ j u, (rowT l)[j]? = some u → w.cell? ⟨g, j, none⟩ = some u := fun g hg j u hu => by
    have := h.cells (g := g) hg j u hu
    simpa [Addr.add_lit] using this
  rcases h.2 with ⟨rfl, h0⟩ | ⟨g, cap, cur, rfl, _, hg, hc1, hc2, _⟩
  · rw [List.length_eq_zero_iff.1 h0]
    exact PtsIs.nil w
  · refine ⟨Nat.le_trans hc1 hc2, _, cap, rfl, fun _ => ⟨g, 0, rfl, (Array.getElem?_eq_some_iff.1 hg).1, fun j hj => ?_⟩⟩
    obtain ⟨a0, a1⟩ := rowT_get l j hj
    exact ⟨by simpa using hcell g rfl _ _ a0, by simpa using hcell g rfl _ _ a1⟩
theorem infoPt : (Tryz.prog.info? 110).map (fun i => (i.zero, i.size, i.bytes)) = some (some (.agg #[.int .i64 0, .int .i64 0]), 2, 16) := by kernel_rfl
theorem wp_appP {ops : Array Oper} {rest : List Oper} {o : Oper} {ac : Act} {Q : Exit → Act → World → Prop} (w : World) (hgd : o.guard = none) (s x : Operand)
    (ho : o.op = .call { callee := .builtin .append, args := #[s, x], argTypes := #[59, 59] }) (B : Nat) (v : Value) (out : List Pt) (e : Pt) (hs : ac.eval s = v)
    (hown : OwnP B w v out) (vb : Nat) (hx : ac.eval x = .slice (some ⟨vb, 0, none⟩) 1 1) (hv : w.heap[vb]? = some (.cells e.cells.toArray 110 (0, 0))) (hl : out.length ≤ 2000) (hB : B ≤ w.heap.size)
    (h : ∀ v' w', OwnP B w' v' (out ++ [e]) → Hid (w.grownBy w' v.ownBlock) → wpList Tryz.prog ops Q rest (ac.put o.dst v') w') : wpList Tryz.prog ops Q (o :: rest) ac w := by
  obtain ⟨i0, hi0, hz0, hz1, hz2⟩ := info_parts infoPt
  have q3 : ∀ (u : Value), u ∈ e.cells → u.oneCell' = true := fun u hu => rowT_one [e] u (by simpa [rowT] using hu)
  refine wpList_append_own w hgd s x 59 ho B 110 i0 _ 2 16 Tryz.underlying59 hi0 hz0 hz1 hz2 rfl (by omega) v out.length (rowT out) hs hown ⟨vb, 0, none⟩ 1 1 e.cells hx rfl (World.news_of_block hv) q3 (by unfold maxLen; omega) (by omega) hB ?_
  intro v' w' h1 h2 _
  refine h v' w' (show World.ownsRow _ _ _ _ _ _ _ from ?_) h2
  have hr : rowT (out ++ [e]) = rowT out ++ e.cells := by rw [rowT_append]; simp [rowT]
  rw [hr, List.length_append]
  exact h1
/-- a point's two cells at a block of its own -/
structure BoxP (w : World) (b : Nat) (p n : Int) : Prop where
  c0 : w.cell? ⟨b, 0, none⟩ = some (.int .i64 p)
  c1 : w.cell? ⟨b, 1, none⟩ = some (.int .i64 n)
  fz : ∀ j, w.frozen? ⟨b, j, none⟩ = false
theorem BoxP.of_block {w w' : World} {b : Nat} {p n : Int} (h : BoxP w b p n) (hb : w'.heap[b]? = w.heap[b]?) : BoxP w' b p n :=
  ⟨(World.cell?_of_block (a := ⟨b, 0, none⟩) hb).trans h.c0, (World.cell?_of_block (a := ⟨b, 1, none⟩) hb).trans h.c1, fun j => (World.frozen?_of_block (a := ⟨b, j, none⟩) hb).trans (h.fz j)⟩
theorem BoxP.lt {w : World} {b : Nat} {p n : Int} (h : BoxP w b p n) : b < w.heap.size := World.block_lt_of_cell? w _ h.c0
theorem BoxP.below {w w' : World} {b B : Nat} {p n : Int} (h : BoxP w b p n) (hb : Below B w w') (hB : b < B) : BoxP w' b p n := h.of_block (hb.block b hB)
theorem boxP_new (w : World) (p n : Int) (b : Nat) (h : b = w.heap.size) : BoxP (w.alloc (.cells #[.int .i64 p, .int .i64 n] 110)) b p n := by
  subst h
  exact ⟨by simp, by simp, fun j => by simp⟩
end Go.Proofs.YtpcnfoaoajfhlaaGreatDoor

namespace Go.Proofs.YtpcnfoaoajfhlaaGreatDoor
set_option linter.unusedVariables false
set_option linter.unusedSimpArgs false
open Go.RowKit Go.Sort

theorem compareP_c (x y : Int) (w : World) : Calls Tryz.prog 108 #[.int .i64 x, .int .i64 y] w fun e w' => e = .returned (.int .i64 (Lib.compareInt x y)) ∧ w' = w := by
  by_cases h1 : x < y
  · go_enter Tryz.func108, Tryz.ntmps108
    go_wp2
    go_ret
    exact ⟨by simp [Lib.compareInt, h1], rfl⟩
  · by_cases h2 : y < x
    · go_enter Tryz.func108, Tryz.ntmps108
      go_wp2
      go_ret
      exact ⟨by rw [Lib.compareInt, if_neg (by omega), if_pos h2]; rfl, rfl⟩
    · go_enter Tryz.func108, Tryz.ntmps108
      go_wp2
      go_ret
      exact ⟨by rw [Lib.compareInt, if_neg (by omega), if_neg (by omega)]; rfl, rfl⟩

set_option maxHeartbeats 1000000 in
theorem or_c (b : Nat) (x y : Int) (w : World) (h0 : w.cell? ⟨b, 0, none⟩ = some (.int .i64 x)) (h1 : w.cell? ⟨b, 1, none⟩ = some (.int .i64 y)) :
    Calls Tryz.prog 107 #[.slice (some ⟨b, 0, none⟩) 2 2] w fun e w' => e = .returned (.int .i64 (if x = 0 then y else x)) ∧ w' = w := by
  by_cases hx : x = 0
  · subst hx
    rw [if_pos rfl]
    by_cases hy : y = 0
    · subst hy
      go_enter Tryz.func107, Tryz.ntmps107
      go_wp2_with fail
      refine wp_loop_rounds 3 ?_
      rw [rounds_succ]
      go_wp2_with fail
      rw [rounds_succ]
      go_wp2_with fail
      rw [rounds_succ]
      go_wp2_with fail
      go_ret
      exact ⟨rfl, rfl⟩
    · go_enter Tryz.func107, Tryz.ntmps107
      go_wp2_with fail
      refine wp_loop_rounds 3 ?_
      rw [rounds_succ]
      go_wp2_with fail
      rw [rounds_succ]
      go_wp2_with fail
      go_ret
      exact ⟨rfl, rfl⟩
  · rw [if_neg hx]
    go_enter Tryz.func107, Tryz.ntmps107
    go_wp2_with fail
    refine wp_loop_rounds 3 ?_
    rw [rounds_succ]
    go_wp2_with fail
    go_ret
    exact ⟨rfl, rfl⟩

theorem grow_three (w : World) (o1 o2 o3 : Obj) : ((w.alloc o1).alloc o2).drew.alloc o3 = grow (w.drewN 1) #[o1, o2, o3] := by
  have e : ((w.alloc o1).alloc o2).drew.alloc o3 = ((w.drewN 1).alloc o1 |>.alloc o2 |>.alloc o3) := rfl
  rw [e, alloc_eq_grow, alloc_eq_grow, alloc_eq_grow, grow_grow, grow_grow]
  rfl
set_option maxHeartbeats 4000000 in
/-- the order in which points rise: two blocks and a row of two are laid -/
theorem cmpP_c (p n q m : Int) (w : World) : Calls Tryz.prog 61 #[.agg #[.int .i64 p, .int .i64 n], .agg #[.int .i64 q, .int .i64 m]] w fun e w' => e = .returned (.int .i64 (cfP ⟨p, n⟩ ⟨q, m⟩)) ∧ ∃ k os, w' = grow (w.drewN k) os := by
  have e0 : cfP ⟨p, n⟩ ⟨q, m⟩ = if Lib.compareInt p q = 0 then Lib.compareInt n m else Lib.compareInt p q := rfl
  rw [e0]
  clear e0
  have H1 : Hid (∀ w, Calls Tryz.prog 108 #[.int .i64 p, .int .i64 q] w fun e w' => e = .returned (.int .i64 (Lib.compareInt p q)) ∧ w' = w) := fun w => compareP_c p q w
  have H2 : Hid (∀ w, Calls Tryz.prog 108 #[.int .i64 n, .int .i64 m] w fun e w' => e = .returned (.int .i64 (Lib.compareInt n m)) ∧ w' = w) := fun w => compareP_c n m w
  generalize Lib.compareInt p q = c1 at H1 ⊢
  generalize Lib.compareInt n m = c2 at H2 ⊢
  have H3 : Hid (∀ b w, w.cell? ⟨b, 0, none⟩ = some (.int .i64 c1) → w.cell? ⟨b, 1, none⟩ = some (.int .i64 c2) → Calls Tryz.prog 107 #[.slice (some ⟨b, 0, none⟩) 2 2] w fun e w' => e = .returned (.int .i64 (if c1 = 0 then c2 else c1)) ∧ w' = w) := fun b w h0 h1 => or_c b c1 c2 w h0 h1
  generalize (if c1 = 0 then c2 else c1) = R at H3 ⊢
  go_enter Tryz.func61, Tryz.ntmps61
  go_upto_region 1 with fail
  obtain ⟨w2, HW⟩ : ∃ x, x = (w.alloc (.cells #[.int .i64 p, .int .i64 n] 110)).alloc (.cells #[.int .i64 q, .int .i64 m] 110) := ⟨_, rfl⟩
  rw [← HW]
  have hz : w2.heap.size = w.heap.size + 1 + 1 := by rw [HW]; simp
  have c0 : w2.cell? ⟨w.heap.size, 0, none⟩ = some (.int .i64 p) := by rw [HW]; simp
  have c1' : w2.cell? ⟨w.heap.size, 1, none⟩ = some (.int .i64 n) := by rw [HW]; simp
  have d0 : w2.cell? ⟨w.heap.size + 1, 0, none⟩ = some (.int .i64 q) := by rw [HW]; simp
  have d1 : w2.cell? ⟨w.heap.size + 1, 1, none⟩ = some (.int .i64 m) := by rw [HW]; simp
  have HW' : Hid (w2 = (w.alloc (.cells #[.int .i64 p, .int .i64 n] 110)).alloc (.cells #[.int .i64 q, .int .i64 m] 110)) := HW
  clear HW
  go_region_held3 (fun w' => w'.cell? ⟨w.heap.size, 0, none⟩ = some (.int .i64 p) ∧ w'.cell? ⟨w.heap.size, 1, none⟩ = some (.int .i64 n) ∧ w'.cell? ⟨w.heap.size + 1, 0, none⟩ = some (.int .i64 q) ∧ w'.cell? ⟨w.heap.size + 1, 1, none⟩ = some (.int .i64 m)) (first | go_keep | (exact ⟨c0, c1', d0, d1⟩)) (first
    | (go_at_call_of 108 (Value.int IntKind.i64 p); refine (H1.out _).mono ?_; rintro e w1 ⟨rfl, rfl⟩)
    | (go_at_call_of 108 (Value.int IntKind.i64 n); refine (H2.out _).mono ?_; rintro e w1 ⟨rfl, rfl⟩)
    | (go_at_call 107; refine (H3.out _ _ (by show (w2.alloc (.cells #[.int .i64 c1, .int .i64 c2] 3)).cell? ⟨w.heap.size + 1 + 1, 0, none⟩ = _; rw [World.cell?_alloc_at _ _ _ _ (by simp [hz])]; rfl) (by show (w2.alloc (.cells #[.int .i64 c1, .int .i64 c2] 3)).cell? ⟨w.heap.size + 1 + 1, 1, none⟩ = _; rw [World.cell?_alloc_at _ _ _ _ (by simp [hz])]; rfl)).mono ?_; rintro e w1 ⟨rfl, rfl⟩))
  go_wp2_with fail
  go_ret
  exact ⟨rfl, 1, _, by rw [HW'.out]; exact grow_three _ _ _ _⟩
/-- the same as a fact on what lay below -/
theorem cmpP_b (p n q m : Int) (w : World) : Calls Tryz.prog 61 #[.agg #[.int .i64 p, .int .i64 n], .agg #[.int .i64 q, .int .i64 m]] w fun e w' => e = .returned (.int .i64 (cfP ⟨p, n⟩ ⟨q, m⟩)) ∧ Below w.heap.size w w' :=
  (cmpP_c p n q m w).mono fun _ _ ⟨he, k, os, hw⟩ => ⟨he, by
    rw [hw]
    refine ⟨rfl, rfl, rfl, ?_, fun c hc => ?_⟩
    · show w.heap.size ≤ (w.heap ++ os).size
      simp
    · show (w.heap ++ os)[c]? = w.heap[c]?
      rw [Array.getElem?_append_left hc]⟩
end Go.Proofs.YtpcnfoaoajfhlaaGreatDoor

namespace Go.Proofs.YtpcnfoaoajfhlaaGreatDoor
set_option linter.unusedVariables false
set_option linter.unusedSimpArgs false
open Go.RowKit

theorem eqI_step {a b : List Int} {j : Nat} (ha : j < a.length) (hb : j < b.length) : (a.drop j == b.drop j) = ((a[j] == b[j]) && (a.drop (j + 1) == b.drop (j + 1))) := by
  rw [List.drop_eq_getElem_cons ha, List.drop_eq_getElem_cons hb]
  rfl
theorem eqI_len {a b : List Int} (h : a.length ≠ b.length) : (a == b) = false := by
  rw [beq_eq_false_iff_ne]
  intro h'
  exact h (by rw [h'])


theorem hasI_hit {a : List Int} {x : Int} {j : Nat} (h : j < a.length) (hx : a[j] = x) : (a.drop j).contains x = true := by
  rw [List.drop_eq_getElem_cons h, List.contains_cons, hx]
  simp
theorem hasI_miss {a : List Int} {x : Int} {j : Nat} (h : j < a.length) (hx : ¬ a[j] = x) : (a.drop j).contains x = (a.drop (j + 1)).contains x := by
  rw [List.drop_eq_getElem_cons h, List.contains_cons]
  have : (x == a[j]) = false := by simp; exact fun h => hx h.symm
  rw [this, Bool.false_or]

set_option maxHeartbeats 4000000 in
theorem in_c (va : Value) (a : List Int) (x : Int) (w : World) (hra : IntsIs w va a) :
    Calls Tryz.prog 33 #[va, .int .i64 x] w fun e w' => e = .returned (.bool (a.contains x)) ∧ Below w.heap.size w w' := by
  obtain ⟨hla, pa, capa, rfl, hrowa⟩ := hra
  have HRA : Hid (a ≠ [] → ∃ bb o, pa = some ⟨bb, o, none⟩ ∧ bb < w.heap.size ∧ ∀ j (h : j < a.length), w.cell? ⟨bb, o + j, none⟩ = some (.int .i64 a[j])) := hrowa
  clear hrowa
  obtain ⟨n, HN⟩ : ∃ n, Hid (a.length = n) := ⟨_, rfl⟩
  rw [HN.out] at hla ⊢
  have hn63 : n ≤ 9223372036854775807 := hla
  obtain ⟨R, HR⟩ : ∃ R, Hid (a.contains x = R) := ⟨_, rfl⟩
  rw [HR.out]
  go_enter Tryz.func33, Tryz.ntmps33
  go_wp2_with fail
  go_loopw [5] (fun i wr => ∃ j : Nat, j ≤ n ∧ i = .int .i64 j ∧ Hid (R = (a.drop j).contains x) ∧ Hid (Below w.heap.size w wr)) (fun i _ => n - (intOf i).toNat)
  case atStart => exact ⟨0, Nat.zero_le _, rfl, by rw [List.drop_zero]; exact HR.out.symm, Below.refl _ _⟩
  case round =>
    obtain ⟨j, hj, rfl, HE, HB⟩ := hrel
    by_cases hlt : j < n
    · have hja : j < a.length := by rw [HN.out]; exact hlt
      obtain ⟨ba, oa, rfl, hbwa, hata⟩ := HRA.out (fun h => by simp [h] at hja)
      have c0 : wr.cell? ⟨ba, oa + j, none⟩ = some (.int .i64 a[j]) := (World.cell?_of_block (a := ⟨ba, oa + j, none⟩) (HB.out.block ba hbwa)).trans (hata j hja)
      clear hata
      have HHit : Hid (a[j] = x → R = true) := fun h => HE.out.trans (hasI_hit hja h)
      have HMiss : Hid (¬ a[j] = x → R = (a.drop (j + 1)).contains x) := fun h => HE.out.trans (hasI_miss hja h)
      obtain ⟨y, HY⟩ : ∃ y, Hid (a[j] = y) := ⟨a[j], show a[j] = a[j] from rfl⟩
      rw [HY.out] at c0 HHit HMiss
      have hlti : (j : Int) < (n : Int) := by omega
      by_cases hs : y = x
      · have HRt : Hid (R = true) := HHit.out hs
        go_wp2_with fail
        go_ret
        exact ⟨by rw [HRt.out]; rfl, by have hb := HB.out; go_grown⟩
      · have HRt : Hid (R = (a.drop (j + 1)).contains x) := HMiss.out hs
        go_wp2_with fail
        go_roundw
        case rel => exact ⟨j + 1, by omega, by go_num, HRt, HB⟩
        case measure => simp [intOf]; omega
    · obtain rfl : j = n := by omega
      have HR0 : Hid (R = false) := by
        show R = false
        rw [HE.out, List.drop_eq_nil_of_le (by rw [HN.out]; exact Nat.le_refl _)]
        rfl
      go_wp2_with fail
      go_ret
      exact ⟨by rw [HR0.out]; rfl, HB.out⟩
end Go.Proofs.YtpcnfoaoajfhlaaGreatDoor

namespace Go.Proofs.YtpcnfoaoajfhlaaGreatDoor
set_option linter.unusedVariables false
set_option linter.unusedSimpArgs false
end Go.Proofs.YtpcnfoaoajfhlaaGreatDoor

namespace Go.Proofs.YtpcnfoaoajfhlaaGreatDoor
set_option linter.unusedVariables false
set_option linter.unusedSimpArgs false
open Go.RowKit

/-- of one node no two numbers are at the same place -/
theorem pairF_unlike : ∀ n, n < 6 → ∀ i, i < 8 → ∀ j, j < 8 → pairF n i % 256 = pairF n j % 256 → i = j := by decide +kernel
theorem pairH_unlike {n i j : Nat} (hn : n < 6) (hi : i < 8) (hj : j < 8) (h : pairH n i % 256 = pairH n j % 256) : i = j := by
  rw [pairH_eq] at h
  exact pairF_unlike n hn i hi j hj h
end Go.Proofs.YtpcnfoaoajfhlaaGreatDoor

namespace Go.Proofs.YtpcnfoaoajfhlaaGreatDoor
set_option linter.unusedVariables false
set_option linter.unusedSimpArgs false
open Go.RowKit

/-- is a node's number of i there, for some i below each? -/
def hitN (each n a : Nat) : Bool := (List.range each).any (fun i => pairH n i % 256 == a)
def hasN (nodes : List Int) (each a n : Nat) : Bool := nodes.contains (n : Int) && hitN each n a
/-- the points at one place, of the nodes below m -/
def rowP (nodes : List Int) (each a m : Nat) : List Pt := ((List.range m).filter (fun n => hasN nodes each a n)).map (fun n : Nat => (⟨(a : Int), (n : Int)⟩ : Pt))
/-- the points at the places below a -/
def ptsU (nodes : List Int) (each : Nat) : Nat → List Pt
  | 0 => []
  | a + 1 => ptsU nodes each a ++ rowP nodes each a 6
def ptsL (nodes : List Int) (each : Nat) : List Pt := ptsU nodes each 256
theorem rowP_zero (nodes : List Int) (each a : Nat) : rowP nodes each a 0 = [] := rfl
theorem rowP_yes {nodes : List Int} {each a m : Nat} (h : hasN nodes each a m = true) : rowP nodes each a (m + 1) = rowP nodes each a m ++ [⟨(a : Int), (m : Int)⟩] := by
  unfold rowP
  rw [List.range_succ, List.filter_append, List.map_append]
  have e : [m].filter (fun n => hasN nodes each a n) = [m] := by simp [h]
  rw [e]
  rfl
theorem rowP_no {nodes : List Int} {each a m : Nat} (h : hasN nodes each a m = false) : rowP nodes each a (m + 1) = rowP nodes each a m := by
  unfold rowP
  rw [List.range_succ, List.filter_append, List.map_append]
  have e : [m].filter (fun n => hasN nodes each a n) = [] := by simp [h]
  rw [e]
  simp
theorem mem_rowP {nodes : List Int} {each a m : Nat} {x : Pt} : x ∈ rowP nodes each a m ↔ ∃ n : Nat, n < m ∧ hasN nodes each a n = true ∧ x = ⟨(a : Int), (n : Int)⟩ := by
  unfold rowP
  simp only [List.mem_map, List.mem_filter, List.mem_range]
  constructor
  · rintro ⟨n, ⟨h1, h2⟩, h3⟩
    exact ⟨n, h1, h2, h3.symm⟩
  · rintro ⟨n, h1, h2, h3⟩
    exact ⟨n, ⟨h1, h2⟩, h3.symm⟩
theorem mem_ptsU {nodes : List Int} {each : Nat} {x : Pt} : ∀ a, x ∈ ptsU nodes each a ↔ ∃ q n : Nat, q < a ∧ n < 6 ∧ hasN nodes each q n = true ∧ x = ⟨(q : Int), (n : Int)⟩ := by
  intro a
  induction a with
  | zero =>
    constructor
    · intro h
      cases h
    · rintro ⟨q, n, h, _⟩
      omega
  | succ a ih =>
    rw [ptsU, List.mem_append, ih, mem_rowP]
    constructor
    · rintro (⟨q, n, h1, h2, h3, h4⟩ | ⟨n, h2, h3, h4⟩)
      · exact ⟨q, n, by omega, h2, h3, h4⟩
      · exact ⟨a, n, by omega, h2, h3, h4⟩
    · rintro ⟨q, n, h1, h2, h3, h4⟩
      by_cases e : q = a
      · subst e
        exact .inr ⟨n, h2, h3, h4⟩
      · exact .inl ⟨q, n, by omega, h2, h3, h4⟩
theorem rowP_rise (nodes : List Int) (each a : Nat) : ∀ m, (rowP nodes each a m).Pairwise ltP := by
  intro m
  induction m with
  | zero => exact List.Pairwise.nil
  | succ m ih =>
    cases h : hasN nodes each a m with
    | false => rw [rowP_no h]; exact ih
    | true =>
      rw [rowP_yes h, List.pairwise_append]
      refine ⟨ih, by simp, fun x hx y hy => ?_⟩
      obtain ⟨n, h1, _, rfl⟩ := mem_rowP.1 hx
      rw [List.mem_singleton.1 hy]
      exact .inr ⟨rfl, by show (n : Int) < (m : Int); omega⟩
theorem ptsU_rise (nodes : List Int) (each : Nat) : ∀ a, (ptsU nodes each a).Pairwise ltP := by
  intro a
  induction a with
  | zero => exact List.Pairwise.nil
  | succ a ih =>
    rw [ptsU, List.pairwise_append]
    refine ⟨ih, rowP_rise nodes each a 6, fun x hx y hy => ?_⟩
    obtain ⟨q, n, h1, _, _, rfl⟩ := (mem_ptsU a).1 hx
    obtain ⟨n', _, _, rfl⟩ := mem_rowP.1 hy
    exact .inl (by show (q : Int) < (a : Int); omega)
/-- the points without a node that came are those from before -/
theorem pts_more (nodes : List Int) (each : Nat) (more : Int) (h : nodes.contains more = false) : (ptsL (nodes ++ [more]) each).filter (fun x => decide (x.n ≠ more)) = ptsL nodes each := by
  refine rise_ext ((ptsU_rise _ _ _).filter _) (ptsU_rise _ _ _) (fun x => ?_)
  unfold ptsL
  rw [List.mem_filter, mem_ptsU, mem_ptsU]
  constructor
  · rintro ⟨⟨q, n, h1, h2, h3, rfl⟩, hn⟩
    have hn' : (n : Int) ≠ more := by simpa using hn
    refine ⟨q, n, h1, h2, ?_, rfl⟩
    unfold hasN at h3 ⊢
    rw [Bool.and_eq_true] at h3 ⊢
    refine ⟨?_, h3.2⟩
    have := h3.1
    simp only [List.contains_iff_mem, List.mem_append, List.mem_singleton] at this ⊢
    rcases this with h | h
    · exact h
    · exact absurd h hn'
  · rintro ⟨q, n, h1, h2, h3, rfl⟩
    unfold hasN at h3
    rw [Bool.and_eq_true] at h3
    refine ⟨⟨q, n, h1, h2, ?_, rfl⟩, ?_⟩
    · unfold hasN
      rw [Bool.and_eq_true]
      refine ⟨?_, h3.2⟩
      have := h3.1
      simp only [List.contains_iff_mem, List.mem_append] at this ⊢
      exact .inl this
    · have hc : (n : Int) ≠ more := by
        intro e
        rw [e] at h3
        rw [h] at h3
        simp at h3
      simpa using hc
theorem pts_node {nodes : List Int} {each : Nat} {x : Pt} (h : x ∈ ptsL nodes each) : nodes.contains x.n = true ∧ 0 ≤ x.p ∧ x.p ≤ 255 ∧ 0 ≤ x.n ∧ x.n ≤ 5 := by
  obtain ⟨q, n, h1, h2, h3, rfl⟩ := (mem_ptsU 256).1 h
  unfold hasN at h3
  rw [Bool.and_eq_true] at h3
  refine ⟨h3.1, ?_, ?_, ?_, ?_⟩
  · show (0 : Int) ≤ (q : Int); omega
  · show (q : Int) ≤ 255; omega
  · show (0 : Int) ≤ (n : Int); omega
  · show (n : Int) ≤ 5; omega
/-- of a node that is there, there is a point -/
theorem pts_some {nodes : List Int} {each n : Nat} (hn : n < 6) (hc : nodes.contains (n : Int) = true) (he : 1 ≤ each) : (⟨((pairH n 0 % 256 : Nat) : Int), (n : Int)⟩ : Pt) ∈ ptsL nodes each := by
  refine (mem_ptsU 256).2 ⟨pairH n 0 % 256, n, Nat.mod_lt _ (by omega), hn, ?_, rfl⟩
  unfold hasN hitN
  rw [hc, Bool.true_and, List.any_eq_true]
  exact ⟨0, List.mem_range.2 (by omega), by simp⟩
/-- of one node there are no more points than numbers -/
theorem pts_one_len (n each : Nat) : (ptsL [(n : Int)] each).length ≤ each := by
  have hr := ptsU_rise [(n : Int)] each 256
  have hm : ∀ x ∈ ptsL [(n : Int)] each, x.n = (n : Int) ∧ ∃ q i : Nat, x.p = (q : Int) ∧ i < each ∧ pairH n i % 256 = q := fun x hx => by
    obtain ⟨q, k, h1, h2, h3, rfl⟩ := (mem_ptsU 256).1 hx
    unfold hasN hitN at h3
    rw [Bool.and_eq_true, List.any_eq_true] at h3
    obtain ⟨h3, i, hi, he⟩ := h3
    have hk : (k : Int) = (n : Int) := by simpa using h3
    have hkn : k = n := by omega
    subst hkn
    exact ⟨rfl, q, i, rfl, List.mem_range.1 hi, by simpa using he⟩
  have e : (ptsL [(n : Int)] each).length = ((ptsL [(n : Int)] each).map (fun x => x.p.toNat)).length := by rw [List.length_map]
  rw [e]
  refine few_of each (fun i => pairH n i % 256) _ ?_ (fun x hx => ?_)
  · unfold List.Nodup
    rw [List.pairwise_map]
    refine hr.imp_of_mem (fun {x y} hx hy hxy => ?_)
    obtain ⟨e1, q1, _, p1, _⟩ := hm x hx
    obtain ⟨e2, q2, _, p2, _⟩ := hm y hy
    rcases hxy with h | ⟨_, h⟩
    · omega
    · omega
  · obtain ⟨y, hy, rfl⟩ := List.mem_map.1 hx
    obtain ⟨_, q, i, h1, h2, h3⟩ := hm y hy
    refine ⟨i, h2, ?_⟩
    show pairH n i % 256 = y.p.toNat
    omega
end Go.Proofs.YtpcnfoaoajfhlaaGreatDoor
