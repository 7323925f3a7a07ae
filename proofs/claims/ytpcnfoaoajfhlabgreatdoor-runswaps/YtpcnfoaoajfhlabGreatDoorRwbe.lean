/-
  cmp.Compare, cmp.Or and package ring's compare, by their contracts.
  The number of two numbers, in a form that can be reckoned; of one node no two points are the same.
  A ring's points on lists: points of nodes, who comes takes only for himself.
  The points as the program makes them, on lists: each node's numbers in their turn, sorted.
-/
import Derived.Test.YtpcnfoaoajfhlabGreatDoorRwbd
import Derived.BigQuiet
import Derived.Deep.RegionHeld3
import Derived.Sort.Grow
import Derived.Test.YtpcnfoaoajfhlabGreatDoorRwac
import Derived.Test.YtpcnfoaoajfhlabGreatDoorRwad
import Derived.Shelf.SlSortCmp.NoneTotal
namespace Go.Proofs.YtpcnfoaoajfhlabGreatDoor
set_option linter.unusedVariables false
set_option linter.unusedSimpArgs false
set_option linter.unusedVariables false
set_option linter.unusedSimpArgs false
open Go.RowKit Go.Sort

theorem compareP_c (x y : Int) (w : World) : Calls Tryz.prog 96 #[.int .i64 x, .int .i64 y] w fun e w' => e = .returned (.int .i64 (Lib.compareInt x y)) ∧ w' = w := by
  by_cases h1 : x < y
  · go_enter Tryz.func96, Tryz.ntmps96
    go_wp2
    go_ret
    exact ⟨by simp [Lib.compareInt, h1], rfl⟩
  · by_cases h2 : y < x
    · go_enter Tryz.func96, Tryz.ntmps96
      go_wp2
      go_ret
      exact ⟨by rw [Lib.compareInt, if_neg (by omega), if_pos h2]; rfl, rfl⟩
    · go_enter Tryz.func96, Tryz.ntmps96
      go_wp2
      go_ret
      exact ⟨by rw [Lib.compareInt, if_neg (by omega), if_neg (by omega)]; rfl, rfl⟩

set_option maxHeartbeats 1000000 in
theorem or_c (b : Nat) (x y : Int) (w : World) (h0 : w.cell? ⟨b, 0, none⟩ = some (.int .i64 x)) (h1 : w.cell? ⟨b, 1, none⟩ = some (.int .i64 y)) :
    Calls Tryz.prog 95 #[.slice (some ⟨b, 0, none⟩) 2 2] w fun e w' => e = .returned (.int .i64 (if x = 0 then y else x)) ∧ w' = w := by
  by_cases hx : x = 0
  · subst hx
    rw [if_pos rfl]
    by_cases hy : y = 0
    · subst hy
      go_enter Tryz.func95, Tryz.ntmps95
      go_wp2_with fail
      refine wp_loop_rounds 3 ?_
      rw [rounds_succ]
      go_wp2_with fail
      rw [rounds_succ]
      go_wp2_with fail
      rw [rounds_succ]
      go_wp2_with fail
      go_ret
      exact ⟨rfl, rfl⟩
    · go_enter Tryz.func95, Tryz.ntmps95
      go_wp2_with fail
      refine wp_loop_rounds 3 ?_
      rw [rounds_succ]
      go_wp2_with fail
      rw [rounds_succ]
      go_wp2_with fail
      go_ret
      exact ⟨rfl, rfl⟩
  · rw [if_neg hx]
    go_enter Tryz.func95, Tryz.ntmps95
    go_wp2_with fail
    refine wp_loop_rounds 3 ?_
    rw [rounds_succ]
    go_wp2_with fail
    go_ret
    exact ⟨rfl, rfl⟩

theorem grow_three (w : World) (o1 o2 o3 : Obj) : ((w.alloc o1).alloc o2).drew.alloc o3 = grow (w.drewN 1) #[o1, o2, o3] := by
  have e : ((w.alloc o1).alloc o2).drew.alloc o3 = ((w.drewN 1).alloc o1 |>.alloc o2 |>.alloc o3) := rfl
  rw [e, alloc_eq_grow, alloc_eq_grow, alloc_eq_grow, grow_grow, grow_grow]
  rfl
set_option maxHeartbeats 4000000 in
/-- the order in which points rise: two blocks and a row of two are laid -/
theorem cmpP_c (p n q m : Int) (w : World) : Calls Tryz.prog 71 #[.agg #[.int .i64 p, .int .i64 n], .agg #[.int .i64 q, .int .i64 m]] w fun e w' => e = .returned (.int .i64 (cfP ⟨p, n⟩ ⟨q, m⟩)) ∧ ∃ k os, w' = grow (w.drewN k) os := by
  have e0 : cfP ⟨p, n⟩ ⟨q, m⟩ = if Lib.compareInt p q = 0 then Lib.compareInt n m else Lib.compareInt p q := rfl
  rw [e0]
  clear e0
  have H1 : Hid (∀ w, Calls Tryz.prog 96 #[.int .i64 p, .int .i64 q] w fun e w' => e = .returned (.int .i64 (Lib.compareInt p q)) ∧ w' = w) := fun w => compareP_c p q w
  have H2 : Hid (∀ w, Calls Tryz.prog 96 #[.int .i64 n, .int .i64 m] w fun e w' => e = .returned (.int .i64 (Lib.compareInt n m)) ∧ w' = w) := fun w => compareP_c n m w
  generalize Lib.compareInt p q = c1 at H1 ⊢
  generalize Lib.compareInt n m = c2 at H2 ⊢
  have H3 : Hid (∀ b w, w.cell? ⟨b, 0, none⟩ = some (.int .i64 c1) → w.cell? ⟨b, 1, none⟩ = some (.int .i64 c2) → Calls Tryz.prog 95 #[.slice (some ⟨b, 0, none⟩) 2 2] w fun e w' => e = .returned (.int .i64 (if c1 = 0 then c2 else c1)) ∧ w' = w) := fun b w h0 h1 => or_c b c1 c2 w h0 h1
  generalize (if c1 = 0 then c2 else c1) = R at H3 ⊢
  go_enter Tryz.func71, Tryz.ntmps71
  go_upto_region 1 with fail
  obtain ⟨w2, HW⟩ : ∃ x, x = (w.alloc (.cells #[.int .i64 p, .int .i64 n] 140)).alloc (.cells #[.int .i64 q, .int .i64 m] 140) := ⟨_, rfl⟩
  rw [← HW]
  have hz : w2.heap.size = w.heap.size + 1 + 1 := by rw [HW]; simp
  have c0 : w2.cell? ⟨w.heap.size, 0, none⟩ = some (.int .i64 p) := by rw [HW]; simp
  have c1' : w2.cell? ⟨w.heap.size, 1, none⟩ = some (.int .i64 n) := by rw [HW]; simp
  have d0 : w2.cell? ⟨w.heap.size + 1, 0, none⟩ = some (.int .i64 q) := by rw [HW]; simp
  have d1 : w2.cell? ⟨w.heap.size + 1, 1, none⟩ = some (.int .i64 m) := by rw [HW]; simp
  have HW' : Hid (w2 = (w.alloc (.cells #[.int .i64 p, .int .i64 n] 140)).alloc (.cells #[.int .i64 q, .int .i64 m] 140)) := HW
  clear HW
  go_region_held3 (fun w' => w'.cell? ⟨w.heap.size, 0, none⟩ = some (.int .i64 p) ∧ w'.cell? ⟨w.heap.size, 1, none⟩ = some (.int .i64 n) ∧ w'.cell? ⟨w.heap.size + 1, 0, none⟩ = some (.int .i64 q) ∧ w'.cell? ⟨w.heap.size + 1, 1, none⟩ = some (.int .i64 m)) (first | go_keep | (exact ⟨c0, c1', d0, d1⟩)) (first
    | (go_at_call_of 96 (Value.int IntKind.i64 p); refine (H1.out _).mono ?_; rintro e w1 ⟨rfl, rfl⟩)
    | (go_at_call_of 96 (Value.int IntKind.i64 n); refine (H2.out _).mono ?_; rintro e w1 ⟨rfl, rfl⟩)
    | (go_at_call 95; refine (H3.out _ _ (by show (w2.alloc (.cells #[.int .i64 c1, .int .i64 c2] 3)).cell? ⟨w.heap.size + 1 + 1, 0, none⟩ = _; rw [World.cell?_alloc_at _ _ _ _ (by simp [hz])]; rfl) (by show (w2.alloc (.cells #[.int .i64 c1, .int .i64 c2] 3)).cell? ⟨w.heap.size + 1 + 1, 1, none⟩ = _; rw [World.cell?_alloc_at _ _ _ _ (by simp [hz])]; rfl)).mono ?_; rintro e w1 ⟨rfl, rfl⟩))
  go_wp2_with fail
  go_ret
  exact ⟨rfl, 1, _, by rw [HW'.out]; exact grow_three _ _ _ _⟩
/-- the same as a fact on what lay below -/
theorem cmpP_b (p n q m : Int) (w : World) : Calls Tryz.prog 71 #[.agg #[.int .i64 p, .int .i64 n], .agg #[.int .i64 q, .int .i64 m]] w fun e w' => e = .returned (.int .i64 (cfP ⟨p, n⟩ ⟨q, m⟩)) ∧ Below w.heap.size w w' :=
  (cmpP_c p n q m w).mono fun _ _ ⟨he, k, os, hw⟩ => ⟨he, by
    rw [hw]
    refine ⟨rfl, rfl, rfl, ?_, fun c hc => ?_⟩
    · show w.heap.size ≤ (w.heap ++ os).size
      simp
    · show (w.heap ++ os)[c]? = w.heap[c]?
      rw [Array.getElem?_append_left hc]⟩
end Go.Proofs.YtpcnfoaoajfhlabGreatDoor

namespace Go.Proofs.YtpcnfoaoajfhlabGreatDoor
set_option linter.unusedVariables false
set_option linter.unusedSimpArgs false
open Go.RowKit

/-- of one node no two numbers are at the same place -/
theorem pairF_unlike : ∀ n, n < 6 → ∀ i, i < 8 → ∀ j, j < 8 → pairF n i % 256 = pairF n j % 256 → i = j := by decide +kernel
theorem pairH_unlike {n i j : Nat} (hn : n < 6) (hi : i < 8) (hj : j < 8) (h : pairH n i % 256 = pairH n j % 256) : i = j := by
  rw [pairH_eq] at h
  exact pairF_unlike n hn i hi j hj h
end Go.Proofs.YtpcnfoaoajfhlabGreatDoor

namespace Go.Proofs.YtpcnfoaoajfhlabGreatDoor
set_option linter.unusedVariables false
set_option linter.unusedSimpArgs false
open Go.RowKit

/-- is a node's number of i there, for some i below each? -/
def hitN (each n a : Nat) : Bool := (List.range each).any (fun i => pairH n i % 256 == a)
def hasN (nodes : List Int) (each a n : Nat) : Bool := nodes.contains (n : Int) && hitN each n a
/-- the points at one place, of the nodes below m -/
def rowP (nodes : List Int) (each a m : Nat) : List Pt := ((List.range m).filter (fun n => hasN nodes each a n)).map (fun n : Nat => (⟨(a : Int), (n : Int)⟩ : Pt))
/-- the points at the places below a -/
def ptsU (nodes : List Int) (each : Nat) : Nat → List Pt
  | 0 => []
  | a + 1 => ptsU nodes each a ++ rowP nodes each a 6
def ptsL (nodes : List Int) (each : Nat) : List Pt := ptsU nodes each 256
theorem rowP_zero (nodes : List Int) (each a : Nat) : rowP nodes each a 0 = [] := rfl
theorem rowP_yes {nodes : List Int} {each a m : Nat} (h : hasN nodes each a m = true) : rowP nodes each a (m + 1) = rowP nodes each a m ++ [⟨(a : Int), (m : Int)⟩] := by
  unfold rowP
  rw [List.range_succ, List.filter_append, List.map_append]
  have e : [m].filter (fun n => hasN nodes each a n) = [m] := by simp [h]
  rw [e]
  rfl
theorem rowP_no {nodes : List Int} {each a m : Nat} (h : hasN nodes each a m = false) : rowP nodes each a (m + 1) = rowP nodes each a m := by
  unfold rowP
  rw [List.range_succ, List.filter_append, List.map_append]
  have e : [m].filter (fun n => hasN nodes each a n) = [] := by simp [h]
  rw [e]
  simp
theorem mem_rowP {nodes : List Int} {each a m : Nat} {x : Pt} : x ∈ rowP nodes each a m ↔ ∃ n : Nat, n < m ∧ hasN nodes each a n = true ∧ x = ⟨(a : Int), (n : Int)⟩ := by
  unfold rowP
  simp only [List.mem_map, List.mem_filter, List.mem_range]
  constructor
  · rintro ⟨n, ⟨h1, h2⟩, h3⟩
    exact ⟨n, h1, h2, h3.symm⟩
  · rintro ⟨n, h1, h2, h3⟩
    exact ⟨n, ⟨h1, h2⟩, h3.symm⟩
theorem mem_ptsU {nodes : List Int} {each : Nat} {x : Pt} : ∀ a, x ∈ ptsU nodes each a ↔ ∃ q n : Nat, q < a ∧ n < 6 ∧ hasN nodes each q n = true ∧ x = ⟨(q : Int), (n : Int)⟩ := by
  intro a
  induction a with
  | zero =>
    constructor
    · intro h
      cases h
    · rintro ⟨q, n, h, _⟩
      omega
  | succ a ih =>
    rw [ptsU, List.mem_append, ih, mem_rowP]
    constructor
    · rintro (⟨q, n, h1, h2, h3, h4⟩ | ⟨n, h2, h3, h4⟩)
      · exact ⟨q, n, by omega, h2, h3, h4⟩
      · exact ⟨a, n, by omega, h2, h3, h4⟩
    · rintro ⟨q, n, h1, h2, h3, h4⟩
      by_cases e : q = a
      · subst e
        exact .inr ⟨n, h2, h3, h4⟩
      · exact .inl ⟨q, n, by omega, h2, h3, h4⟩
theorem rowP_rise (nodes : List Int) (each a : Nat) : ∀ m, (rowP nodes each a m).Pairwise ltP := by
  intro m
  induction m with
  | zero => exact List.Pairwise.nil
  | succ m ih =>
    cases h : hasN nodes each a m with
    | false => rw [rowP_no h]; exact ih
    | true =>
      rw [rowP_yes h, List.pairwise_append]
      refine ⟨ih, by simp, fun x hx y hy => ?_⟩
      obtain ⟨n, h1, _, rfl⟩ := mem_rowP.1 hx
      rw [List.mem_singleton.1 hy]
      exact .inr ⟨rfl, by show (n : Int) < (m : Int); omega⟩
theorem ptsU_rise (nodes : List Int) (each : Nat) : ∀ a, (ptsU nodes each a).Pairwise ltP := by
  intro a
  induction a with
  | zero => exact List.Pairwise.nil
  | succ a ih =>
    rw [ptsU, List.pairwise_append]
    refine ⟨ih, rowP_rise nodes each a 6, fun x hx y hy => ?_⟩
    obtain ⟨q, n, h1, _, _, rfl⟩ := (mem_ptsU a).1 hx
    obtain ⟨n', _, _, rfl⟩ := mem_rowP.1 hy
    exact .inl (by show (q : Int) < (a : Int); omega)
/-- the points without a node that came are those from before -/
theorem pts_more (nodes : List Int) (each : Nat) (more : Int) (h : nodes.contains more = false) : (ptsL (nodes ++ [more]) each).filter (fun x => decide (x.n ≠ more)) = ptsL nodes each := by
  refine rise_ext ((ptsU_rise _ _ _).filter _) (ptsU_rise _ _ _) (fun x => ?_)
  unfold ptsL
  rw [List.mem_filter, mem_ptsU, mem_ptsU]
  constructor
  · rintro ⟨⟨q, n, h1, h2, h3, rfl⟩, hn⟩
    have hn' : (n : Int) ≠ more := by simpa using hn
    refine ⟨q, n, h1, h2, ?_, rfl⟩
    unfold hasN at h3 ⊢
    rw [Bool.and_eq_true] at h3 ⊢
    refine ⟨?_, h3.2⟩
    have := h3.1
    simp only [List.contains_iff_mem, List.mem_append, List.mem_singleton] at this ⊢
    rcases this with h | h
    · exact h
    · exact absurd h hn'
  · rintro ⟨q, n, h1, h2, h3, rfl⟩
    unfold hasN at h3
    rw [Bool.and_eq_true] at h3
    refine ⟨⟨q, n, h1, h2, ?_, rfl⟩, ?_⟩
    · unfold hasN
      rw [Bool.and_eq_true]
      refine ⟨?_, h3.2⟩
      have := h3.1
      simp only [List.contains_iff_mem, List.mem_append] at this ⊢
      exact .inl this
    · have hc : (n : Int) ≠ more := by
        intro e
        rw [e] at h3
        rw [h] at h3
        simp at h3
      simpa using hc
theorem pts_node {nodes : List Int} {each : Nat} {x : Pt} (h : x ∈ ptsL nodes each) : nodes.contains x.n = true ∧ 0 ≤ x.p ∧ x.p ≤ 255 ∧ 0 ≤ x.n ∧ x.n ≤ 5 := by
  obtain ⟨q, n, h1, h2, h3, rfl⟩ := (mem_ptsU 256).1 h
  unfold hasN at h3
  rw [Bool.and_eq_true] at h3
  refine ⟨h3.1, ?_, ?_, ?_, ?_⟩
  · show (0 : Int) ≤ (q : Int); omega
  · show (q : Int) ≤ 255; omega
  · show (0 : Int) ≤ (n : Int); omega
  · show (n : Int) ≤ 5; omega
/-- of a node that is there, there is a point -/
theorem pts_some {nodes : List Int} {each n : Nat} (hn : n < 6) (hc : nodes.contains (n : Int) = true) (he : 1 ≤ each) : (⟨((pairH n 0 % 256 : Nat) : Int), (n : Int)⟩ : Pt) ∈ ptsL nodes each := by
  refine (mem_ptsU 256).2 ⟨pairH n 0 % 256, n, Nat.mod_lt _ (by omega), hn, ?_, rfl⟩
  unfold hasN hitN
  rw [hc, Bool.true_and, List.any_eq_true]
  exact ⟨0, List.mem_range.2 (by omega), by simp⟩
/-- of one node there are no more points than numbers -/
theorem pts_one_len (n each : Nat) : (ptsL [(n : Int)] each).length ≤ each := by
  have hr := ptsU_rise [(n : Int)] each 256
  have hm : ∀ x ∈ ptsL [(n : Int)] each, x.n = (n : Int) ∧ ∃ q i : Nat, x.p = (q : Int) ∧ i < each ∧ pairH n i % 256 = q := fun x hx => by
    obtain ⟨q, k, h1, h2, h3, rfl⟩ := (mem_ptsU 256).1 hx
    unfold hasN hitN at h3
    rw [Bool.and_eq_true, List.any_eq_true] at h3
    obtain ⟨h3, i, hi, he⟩ := h3
    have hk : (k : Int) = (n : Int) := by simpa using h3
    have hkn : k = n := by omega
    subst hkn
    exact ⟨rfl, q, i, rfl, List.mem_range.1 hi, by simpa using he⟩
  have e : (ptsL [(n : Int)] each).length = ((ptsL [(n : Int)] each).map (fun x => x.p.toNat)).length := by rw [List.length_map]
  rw [e]
  refine few_of each (fun i => pairH n i % 256) _ ?_ (fun x hx => ?_)
  · unfold List.Nodup
    rw [List.pairwise_map]
    refine hr.imp_of_mem (fun {x y} hx hy hxy => ?_)
    obtain ⟨e1, q1, _, p1, _⟩ := hm x hx
    obtain ⟨e2, q2, _, p2, _⟩ := hm y hy
    rcases hxy with h | ⟨_, h⟩
    · omega
    · omega
  · obtain ⟨y, hy, rfl⟩ := List.mem_map.1 hx
    obtain ⟨_, q, i, h1, h2, h3⟩ := hm y hy
    refine ⟨i, h2, ?_⟩
    show pairH n i % 256 = y.p.toNat
    omega
end Go.Proofs.YtpcnfoaoajfhlabGreatDoor

namespace Go.Proofs.YtpcnfoaoajfhlabGreatDoor
set_option linter.unusedVariables false
set_option linter.unusedSimpArgs false
open Go.RowKit Go.Lib Go.Sort

/-- where a node's number i lies -/
def plP (n i : Nat) : Nat := pairH n i % 256
theorem plP_lt (n i : Nat) : plP n i < 256 := Nat.mod_lt _ (by omega)
/-- a node's points, of the numbers below j -/
def rawN (n : Int) (j : Nat) : List Pt := (List.range j).map (fun i => (⟨(plP n.toNat i : Int), n⟩ : Pt))
/-- the nodes' points, each in its turn -/
def rawL (each : Nat) : List Int → List Pt
  | [] => []
  | n :: l => rawN n each ++ rawL each l
theorem rawN_zero (n : Int) : rawN n 0 = [] := rfl
theorem rawN_succ (n : Int) (j : Nat) : rawN n (j + 1) = rawN n j ++ [⟨(plP n.toNat j : Int), n⟩] := by simp [rawN, List.range_succ]
theorem rawN_len (n : Int) (j : Nat) : (rawN n j).length = j := by simp [rawN]
theorem rawL_append (each : Nat) (l m : List Int) : rawL each (l ++ m) = rawL each l ++ rawL each m := by
  induction l with
  | nil => rfl
  | cons n l ih => simp only [List.cons_append, rawL, ih, List.append_assoc]
theorem rawL_take {each k : Nat} {nodes : List Int} (h : k < nodes.length) : rawL each (nodes.take (k + 1)) = rawL each (nodes.take k) ++ rawN nodes[k] each := by
  rw [List.take_succ_eq_append_getElem h, rawL_append]
  simp [rawL]
theorem rawL_len (each : Nat) (l : List Int) : (rawL each l).length = l.length * each := by
  induction l with
  | nil => simp [rawL]
  | cons n l ih => rw [rawL, List.length_append, rawN_len, ih, List.length_cons, Nat.add_mul, Nat.one_mul, Nat.add_comm]
theorem mem_rawN {n : Int} {j : Nat} {x : Pt} : x ∈ rawN n j ↔ ∃ i, i < j ∧ x = ⟨(plP n.toNat i : Int), n⟩ := by
  unfold rawN
  simp only [List.mem_map, List.mem_range]
  constructor
  · rintro ⟨i, h1, h2⟩
    exact ⟨i, h1, h2.symm⟩
  · rintro ⟨i, h1, h2⟩
    exact ⟨i, h1, h2.symm⟩
theorem mem_rawL {each : Nat} {x : Pt} : ∀ {l : List Int}, x ∈ rawL each l ↔ ∃ n ∈ l, ∃ i, i < each ∧ x = ⟨(plP n.toNat i : Int), n⟩ := by
  intro l
  induction l with
  | nil =>
    constructor
    · intro h
      cases h
    · rintro ⟨n, h, _⟩
      cases h
  | cons m l ih =>
    rw [rawL, List.mem_append, mem_rawN, ih]
    constructor
    · rintro (⟨i, h1, h2⟩ | ⟨n, h1, h2⟩)
      · exact ⟨m, by simp, i, h1, h2⟩
      · exact ⟨n, List.mem_cons_of_mem _ h1, h2⟩
    · rintro ⟨n, h1, h2⟩
      rcases List.mem_cons.1 h1 with rfl | h1
      · exact .inl h2
      · exact .inr ⟨n, h1, h2⟩
theorem rawN_nodup {n : Int} (h0 : 0 ≤ n) (h5 : n ≤ 5) {j : Nat} (hj : j ≤ 8) : (rawN n j).Nodup := by
  unfold rawN List.Nodup
  rw [List.pairwise_map]
  refine (List.nodup_range (n := j)).imp_of_mem (fun {a b} ha hb hab => ?_)
  intro e
  have e1 : (plP n.toNat a : Int) = (plP n.toNat b : Int) := congrArg Pt.p e
  have e2 : plP n.toNat a = plP n.toNat b := by omega
  have ha' := List.mem_range.1 ha
  have hb' := List.mem_range.1 hb
  exact hab (pairH_unlike (by omega) (by omega) (by omega) e2)
theorem rawL_nodup {each : Nat} (he : each ≤ 8) : ∀ {l : List Int}, (∀ x ∈ l, 0 ≤ x ∧ x ≤ 5) → l.Nodup → (rawL each l).Nodup := by
  intro l
  induction l with
  | nil => intro _ _; exact List.nodup_nil
  | cons m l ih =>
    intro h hn
    obtain ⟨h1, h2⟩ := List.nodup_cons.1 hn
    rw [rawL, List.nodup_append]
    refine ⟨rawN_nodup (h m (by simp)).1 (h m (by simp)).2 he, ih (fun x hx => h x (List.mem_cons_of_mem _ hx)) h2, fun a ha b hb e => ?_⟩
    subst e
    obtain ⟨i, _, e1⟩ := mem_rawN.1 ha
    obtain ⟨n, hn', j, _, e2⟩ := mem_rawL.1 hb
    have e3 : a.n = m := by rw [e1]
    have e4 : a.n = n := by rw [e2]
    rw [← e3, e4] at h1
    exact h1 hn'
theorem ltO (x y : Pt) : ltOf cfP x y = decide (ltP x y) := by
  unfold ltOf
  rw [decide_eq_decide]
  exact cfP_neg x y
theorem swoP : SWO (ltOf cfP) where
  irrefl x := by rw [ltO]; unfold ltP; simp
  trans x y z h1 h2 := by
    rw [ltO, decide_eq_true_eq] at *
    unfold ltP at *
    omega
  ntrans x y z h1 h2 := by
    rw [ltO, decide_eq_false_iff_not] at *
    unfold ltP at *
    omega
theorem totP (x y : Pt) (h1 : ltOf cfP x y = false) (h2 : ltOf cfP y x = false) : x = y := by
  rw [ltO, decide_eq_false_iff_not] at *
  unfold ltP at *
  exact pt_ext (by omega) (by omega)
/-- the points of right nodes, sorted, are the document's -/
theorem sort_is {nodes : List Int} {each : Nat} (hg : ∀ x ∈ nodes, 0 ≤ x ∧ x ≤ 5) (hn : nodes.Nodup) (he : each ≤ 8) : (rawL each nodes).mergeSort (fun x y => !(ltOf cfP) y x) = ptsL nodes each := by
  have hp := List.mergeSort_perm (rawL each nodes) (fun x y => !(ltOf cfP) y x)
  have hs := List.pairwise_mergeSort (le := fun x y => !(ltOf cfP) y x) (fun a b c h1 h2 => by
      simp only [Bool.not_eq_true'] at *
      exact swoP.ntrans c b a h2 h1) (fun a b => by
      cases h : ltOf cfP b a with
      | false => simp
      | true =>
        have : ltOf cfP a b = false := by
          cases h' : ltOf cfP a b with
          | false => rfl
          | true =>
            have := swoP.trans a b a h' h
            rw [swoP.irrefl] at this
            cases this
        simp [this]) (rawL each nodes)
  have hd := (hp.nodup_iff).2 (rawL_nodup he hg hn)
  refine rise_ext ((List.pairwise_and_iff.2 ⟨hs, hd⟩).imp (fun {a b} h => ?_)) (ptsU_rise _ _ _) (fun x => ?_)
  · obtain ⟨h1, h2⟩ := h
    simp only [Bool.not_eq_true'] at h1
    by_cases h3 : ltP a b
    · exact h3
    · exact absurd (totP a b (by rw [ltO]; simpa using h3) h1) h2
  · rw [hp.mem_iff, mem_rawL]
    unfold ptsL
    rw [mem_ptsU]
    constructor
    · rintro ⟨n, h1, i, h2, rfl⟩
      obtain ⟨g1, g2⟩ := hg n h1
      obtain ⟨m, rfl⟩ : ∃ m : Nat, n = (m : Int) := ⟨n.toNat, by omega⟩
      refine ⟨plP m i, m, plP_lt _ _, by omega, ?_, rfl⟩
      unfold hasN hitN
      rw [Bool.and_eq_true, List.any_eq_true]
      exact ⟨by simpa [List.contains_iff_mem] using h1, i, List.mem_range.2 h2, by simp [plP]⟩
    · rintro ⟨q, m, _, _, h, rfl⟩
      unfold hasN hitN at h
      rw [Bool.and_eq_true, List.any_eq_true] at h
      obtain ⟨h1, i, hi, h2⟩ := h
      refine ⟨(m : Int), by simpa [List.contains_iff_mem] using h1, i, List.mem_range.1 hi, ?_⟩
      have : pairH m i % 256 = q := by simpa using h2
      rw [← this]
      rfl
theorem pts_len_le {nodes : List Int} {each : Nat} (hg : ∀ x ∈ nodes, 0 ≤ x ∧ x ≤ 5) (hn : nodes.Nodup) (he : each ≤ 8) : (ptsL nodes each).length = nodes.length * each := by
  rw [← sort_is hg hn he, List.length_mergeSort, rawL_len]
/-- the points of right nodes are right -/
theorem pts_right {nodes : List Int} {each : Nat} (hg : ∀ x ∈ nodes, 0 ≤ x ∧ x ≤ 5) (hn : nodes.Nodup) (h1 : 1 ≤ each) (he : each ≤ 8) (hl : nodes.length ≤ 6) (h0 : nodes.length ≠ 0) : rightP (ptsL nodes each) = true := by
  have hlen := pts_len_le hg hn he
  have hm : nodes.length * each ≤ 6 * 8 := Nat.mul_le_mul hl he
  have hp : 0 < nodes.length * each := Nat.mul_pos (by omega) h1
  unfold rightP
  rw [right_of (ptsL nodes each) none (ptsU_rise _ _ _) (fun x hx => ?_) (fun y hy => by cases hy)]
  · rw [hlen]
    simp only [Bool.and_true, Bool.and_eq_true, decide_eq_true_eq]
    omega
  · obtain ⟨_, a1, a2, a3, a4⟩ := pts_node hx
    simp [inP, a1, a2, a3, a4]
/-- the place of a key -/
def keyT (k : Nat) : Int := (plP k k : Int)
end Go.Proofs.YtpcnfoaoajfhlabGreatDoor
