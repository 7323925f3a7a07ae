/-
  Package cache by its contracts: Get.
  A cache's tree on lists: each key's number, each node's; sixteen numbers at a block.
-/
import Derived.Test.YtpcnfoaoajfhlaaGreatDoorRbae
import Derived.Test.YtpcnfoaoajfhlaaGreatDoorRbad
namespace Go.Proofs.YtpcnfoaoajfhlaaGreatDoor
set_option linter.unusedVariables false
set_option linter.unusedSimpArgs false
set_option linter.unusedVariables false
set_option linter.unusedSimpArgs false
open Go.RowKit

def zeroEn : En := ⟨0, 0, 0, false, ⟨#[]⟩⟩
def isKeyB (k : Int) : Bool := decide (0 ≤ k) && decide (k < 8)
/-- Get, on lists -/
def cacheGet (l : List En) (key : Int) : En × Int :=
  if badL l ≠ 0 then (zeroEn, badL l) else if isKeyB key = false then (zeroEn, 1) else match getE l key with | none => (zeroEn, 5) | some x => (x, 0)

theorem isKey_c (k : Int) (w : World) : Calls Tryz.prog 120 #[.int .i64 k] w fun e w' => e = .returned (.bool (isKeyB k)) ∧ w' = w := by
  by_cases h : 0 ≤ k
  · have hd : decide (0 ≤ k) = true := by simpa using h
    go_enter Tryz.func120, Tryz.ntmps120
    go_wp2
    go_ret
    exact ⟨by simp [isKeyB, h], rfl⟩
  · have hd : decide (0 ≤ k) = false := by simpa using h
    go_enter Tryz.func120, Tryz.ntmps120
    go_wp2
    go_ret
    refine ⟨?_, rfl⟩
    have h' : ¬ 0 ≤ k := by omega
    simp [isKeyB, h']
theorem cacheCheck_o {v : Value} {l : List En} {w : World} {n : Int} (hr : RowIs w v l) (h : badL l = n) :
    Calls Tryz.prog 70 #[v] w fun e w' => e = .returned (eV n) ∧ Below w.heap.size w w' := by
  subst h
  exact cacheCheck_c v l w hr
theorem cacheCheck_ok {v : Value} {l : List En} {w : World} (hr : RowIs w v l) (h : badL l = 0) :
    Calls Tryz.prog 70 #[v] w fun e w' => e = .returned .nilIface ∧ Below w.heap.size w w' := cacheCheck_o hr h
theorem cacheCheck_err {v : Value} {l : List En} {w : World} {n : Int} (hr : RowIs w v l) (h : badL l = n) (hn : n ≠ 0) :
    Calls Tryz.prog 70 #[v] w fun e w' => e = .returned (.iface 85 (.int .i64 n)) ∧ Below w.heap.size w w' := by
  have c := cacheCheck_o hr h
  rw [eV, if_neg hn] at c
  exact c

set_option maxHeartbeats 4000000 in
theorem get_c (v : Value) (l : List En) (key : Int) (w : World) (hr : RowIs w v l) :
    Calls Tryz.prog 73 #[v, .int .i64 key] w fun e w' => e = .returned (.tuple #[(cacheGet l key).1.val, eV (cacheGet l key).2]) ∧ Below w.heap.size w w' := by
  have HR : Hid (RowIs w v l) := hr
  have hlt : w.heap.size < (w.alloc (.cells #[.int .i64 0, .int .i64 0, .int .i64 0, .bool false, .string ⟨#[]⟩] 46)).heap.size := by simp
  have HB0 : Hid (Below w.heap.size w (w.alloc (.cells #[.int .i64 0, .int .i64 0, .int .i64 0, .bool false, .string ⟨#[]⟩] 46))) := by show Below _ _ _; go_grown
  clear hr hlt
  by_cases hn : badL l = 0
  · have HN : Hid (badL l = 0) := hn
    have HG : Hid (GoodL l) := badL_good hn
    clear hn
    cases hk : isKeyB key
    · have HC : Hid (cacheGet l key = (zeroEn, 1)) := by
        show cacheGet l key = _
        rw [cacheGet, if_neg (by simpa using HN.out), if_pos hk]
      have HKb : Hid (isKeyB key = false) := hk
      clear hk
      rw [HC.out]
      go_enter Tryz.func73, Tryz.ntmps73
      go_wp2_with fail
      refine (cacheCheck_ok (HR.out.below HB0.out) HN.out).mono ?_
      rintro e w1 ⟨rfl, hb⟩
      have B1 : Hid (Below w.heap.size w w1) := HB0.out.trans (hb.mono (by simp))
      obtain ⟨e0, e1, e2, e3, e4, ef⟩ := (box_new w 0 0 0 false ⟨#[]⟩ w.heap.size rfl).below hb (by simp)
      clear hb
      go_wp2_with (go_at_call 120; refine (isKey_c _ _).mono ?_; rintro e w' ⟨rfl, rfl⟩; rw [HKb.out])
      refine bodyPost_ret (v := .tuple #[.agg #[.int .i64 0, .int .i64 0, .int .i64 0, .bool false, .string ⟨#[]⟩], .iface 85 (.int .i64 1)]) (by simp [results, Tryz.results73, go_sem, e0, e1, e2, e3, e4]) rfl ?_
      refine ⟨rfl, ?_⟩
      have hb := B1.out
      go_grown
    · have HKb : Hid (isKeyB key = true) := hk
      clear hk
      cases hg : getE l key with
      | none =>
        have HC : Hid (cacheGet l key = (zeroEn, 5)) := by
          show cacheGet l key = _
          rw [cacheGet, if_neg (by simpa using HN.out), if_neg (by rw [HKb.out]; simp), hg]
        have HGt : Hid (getE l key = none) := hg
        clear hg
        rw [HC.out]
        go_enter Tryz.func73, Tryz.ntmps73
        go_wp2_with fail
        refine (cacheCheck_ok (HR.out.below HB0.out) HN.out).mono ?_
        rintro e w1 ⟨rfl, hb⟩
        have B1 : Hid (Below w.heap.size w w1) := HB0.out.trans (hb.mono (by simp))
        have E1 : Hid (BoxAt w1 w.heap.size 0 0 0 false ⟨#[]⟩) := (box_new w 0 0 0 false ⟨#[]⟩ w.heap.size rfl).below hb (by simp)
        clear hb
        go_wp2_with (go_at_call 120; refine (isKey_c _ _).mono ?_; rintro e w' ⟨rfl, rfl⟩; rw [HKb.out])
        refine (place_c v l key _ (HR.out.below B1.out) HG.out).mono ?_
        rintro e w2 ⟨rfl, hb⟩
        rw [HGt.out]
        have B2 : Hid (Below w.heap.size w w2) := B1.out.trans (hb.mono B1.out.size)
        obtain ⟨e0, e1, e2, e3, e4, ef⟩ := E1.out.below hb E1.out.lt
        clear hb
        go_wp2_with fail
        refine bodyPost_ret (v := .tuple #[.agg #[.int .i64 0, .int .i64 0, .int .i64 0, .bool false, .string ⟨#[]⟩], .iface 85 (.int .i64 5)]) (by simp [results, Tryz.results73, go_sem, e0, e1, e2, e3, e4]) rfl ?_
        refine ⟨rfl, ?_⟩
        have hb := B2.out
        go_grown
      | some x =>
        have HC : Hid (cacheGet l key = (x, 0)) := by
          show cacheGet l key = _
          rw [cacheGet, if_neg (by simpa using HN.out), if_neg (by rw [HKb.out]; simp), hg]
        have HGt : Hid (getE l key = some x) := hg
        obtain ⟨hm, hx, hxk⟩ := getE_some HG.out.rise hg
        clear hg hxk
        obtain ⟨hlen, p, cap, rfl, hrow⟩ := HR.out
        obtain ⟨b, o, rfl, hbw, hat⟩ := hrow (fun h => by simp [h] at hm)
        have HAt : Hid (EnAt w b (o + placeE l key * 5) x) := by
          have := hat _ hm
          rw [hx] at this
          exact this
        clear hrow hat hx
        rw [HC.out]
        obtain ⟨m, HM⟩ : ∃ m, Hid (placeE l key = m) := ⟨_, rfl⟩
        rw [HM.out] at hm HAt
        obtain ⟨N, HNl⟩ : ∃ N, Hid (l.length = N) := ⟨_, rfl⟩
        rw [HNl.out] at hm HR hlen ⊢
        have hm1 : (m : Int) < (N : Int) := by omega
        obtain ⟨x0, x1, x2, x3, x4⟩ := x
        go_enter Tryz.func73, Tryz.ntmps73
        go_wp2_with fail
        refine (cacheCheck_ok (HR.out.below HB0.out) HN.out).mono ?_
        rintro e w1 ⟨rfl, hb⟩
        have B1 : Hid (Below w.heap.size w w1) := HB0.out.trans (hb.mono (by simp))
        have E1 : Hid (BoxAt w1 w.heap.size 0 0 0 false ⟨#[]⟩) := (box_new w 0 0 0 false ⟨#[]⟩ w.heap.size rfl).below hb (by simp)
        clear hb
        go_wp2_with (go_at_call 120; refine (isKey_c _ _).mono ?_; rintro e w' ⟨rfl, rfl⟩; rw [HKb.out])
        refine (place_c _ l key _ (HR.out.below B1.out) HG.out).mono ?_
        rintro e w2 ⟨rfl, hb⟩
        rw [HGt.out, HM.out]
        have B2 : Hid (Below w.heap.size w w2) := B1.out.trans (hb.mono B1.out.size)
        obtain ⟨e0, e1, e2, e3, e4, ef⟩ := E1.out.below hb E1.out.lt
        obtain ⟨c0, c1, c2, c3, c4⟩ := HAt.out.of_block (B2.out.block b hbw)
        dsimp only at c0 c1 c2 c3 c4
        have p1 : ¬ b = w.heap.size := by omega
        have p2 : ¬ w.heap.size = b := by omega
        clear hb
        go_wp2_with fail
        refine bodyPost_ret (v := .tuple #[.agg #[.int .i64 x0, .int .i64 x1, .int .i64 x2, .bool x3, .string x4], .nilIface]) (by simp [results, Tryz.results73, go_sem, e0, e1, e2, e3, e4]) rfl ?_
        refine ⟨rfl, ?_⟩
        have hb := B2.out
        go_grown
  · obtain ⟨n, HN⟩ : ∃ n, Hid (badL l = n) := ⟨_, rfl⟩
    have HC : Hid (cacheGet l key = (zeroEn, n)) := by
      show cacheGet l key = _
      rw [cacheGet, if_pos hn, HN.out]
    rw [HN.out] at hn
    rw [HC.out]
    go_enter Tryz.func73, Tryz.ntmps73
    go_wp2_with fail
    refine (cacheCheck_err (HR.out.below HB0.out) HN.out hn).mono ?_
    rintro e w1 ⟨rfl, hb⟩
    have B1 : Hid (Below w.heap.size w w1) := HB0.out.trans (hb.mono (by simp))
    obtain ⟨e0, e1, e2, e3, e4, ef⟩ := (box_new w 0 0 0 false ⟨#[]⟩ w.heap.size rfl).below hb (by simp)
    clear hb
    go_wp2_with fail
    refine bodyPost_ret (v := .tuple #[.agg #[.int .i64 0, .int .i64 0, .int .i64 0, .bool false, .string ⟨#[]⟩], .iface 85 (.int .i64 n)]) (by simp [results, Tryz.results73, go_sem, e0, e1, e2, e3, e4]) rfl ?_
    refine ⟨by simp [eV, hn]; rfl, ?_⟩
    have hb := B1.out
    go_grown
end Go.Proofs.YtpcnfoaoajfhlaaGreatDoor

namespace Go.Proofs.YtpcnfoaoajfhlaaGreatDoor
set_option linter.unusedVariables false
set_option linter.unusedSimpArgs false
open Go.RowKit

/-- an entry's number -/
def numE (x : En) : Nat := entH x.k.toNat x.v.toNat x.g x.t
/-- the number at a key's end -/
def leafN (l : List En) (k : Nat) : Nat := match getE l (k : Int) with
  | none => 0
  | some x => numE x
theorem leafN_none {l : List En} {k : Nat} (h : getE l (k : Int) = none) : leafN l k = 0 := by rw [leafN, h]
theorem leafN_some {l : List En} {k : Nat} {x : En} (h : getE l (k : Int) = some x) : leafN l k = numE x := by rw [leafN, h]
theorem numE_lt (x : En) : numE x < 4294967296 := hashL_lt _
theorem leafN_lt (l : List En) (k : Nat) : leafN l k < 4294967296 := by
  unfold leafN
  split
  · omega
  · exact numE_lt _
/-- how many rows a node is above the ends -/
def dep (i : Nat) : Nat := if i < 2 then 3 else if i < 4 then 2 else if i < 8 then 1 else 0
/-- a tree's node -/
def trN (f : Nat → Nat) (i : Nat) : Nat := nd pairH f (dep i) i
theorem dep_end {i : Nat} (h : 8 ≤ i) : dep i = 0 := by
  unfold dep
  rw [if_neg (by omega), if_neg (by omega), if_neg (by omega)]
theorem dep_two {i : Nat} (h0 : 1 ≤ i) (h : i < 8) : dep i = dep (2 * i) + 1 ∧ dep (2 * i + 1) = dep (2 * i) := by
  have h8 : i = 1 ∨ i = 2 ∨ i = 3 ∨ i = 4 ∨ i = 5 ∨ i = 6 ∨ i = 7 := by omega
  rcases h8 with rfl | rfl | rfl | rfl | rfl | rfl | rfl <;> exact ⟨rfl, rfl⟩
theorem trN_end (f : Nat → Nat) {i : Nat} (h : 8 ≤ i) : trN f i = f (i - 8) := by
  rw [trN, dep_end h]
  rfl
theorem trN_two (f : Nat → Nat) {i : Nat} (h0 : 1 ≤ i) (h : i < 8) : trN f i = pairH (trN f (2 * i)) (trN f (2 * i + 1)) := by
  obtain ⟨h1, h2⟩ := dep_two h0 h
  rw [trN, trN, trN, h2, h1]
  rfl
theorem trN_lt (f : Nat → Nat) (hf : ∀ k, f k < 4294967296) (i : Nat) : trN f i < 4294967296 := by
  unfold trN
  cases dep i with
  | zero => exact hf _
  | succ d => exact pairH_lt _ _
/-- the nodes behind i, the others 0 -/
def downTo (f : Nat → Nat) (i k : Nat) : Nat := if i < k then trN f k else 0
theorem downTo_lt (f : Nat → Nat) (hf : ∀ k, f k < 4294967296) (i k : Nat) : downTo f i k < 4294967296 := by
  unfold downTo
  split
  · exact trN_lt f hf k
  · omega
def updN (o : Nat → Nat) (k z : Nat) : Nat → Nat := fun j => if j = k then z else o j
theorem downTo_step (f : Nat → Nat) {i : Nat} (h : i + 1 < 8) : updN (downTo f (i + 1)) (i + 1) (pairH (downTo f (i + 1) (2 * (i + 1))) (downTo f (i + 1) (2 * (i + 1) + 1))) = downTo f i := by
  funext k
  have h1 : downTo f (i + 1) (2 * (i + 1)) = trN f (2 * (i + 1)) := if_pos (by omega)
  have h2 : downTo f (i + 1) (2 * (i + 1) + 1) = trN f (2 * (i + 1) + 1) := if_pos (by omega)
  rw [h1, h2, ← trN_two f (by omega) h]
  unfold updN downTo
  by_cases e : k = i + 1
  · subst e
    rw [if_pos rfl, if_pos (by omega)]
  · rw [if_neg e]
    by_cases e2 : i + 1 < k
    · rw [if_pos e2, if_pos (by omega)]
    · rw [if_neg e2, if_neg (by omega)]
/-- the ends of the first j entries, all else 0 -/
def endsOf (l : List En) (j k : Nat) : Nat := if 8 ≤ k then leafN (l.take j) (k - 8) else 0
theorem endsOf_zero (l : List En) : endsOf l 0 = fun _ => 0 := by
  funext k
  unfold endsOf
  split
  · rfl
  · rfl
theorem endsOf_all (l : List En) : endsOf l l.length = downTo (leafN l) 7 := by
  funext k
  unfold endsOf downTo
  rw [List.take_length]
  by_cases h : 8 ≤ k
  · rw [if_pos h, if_pos (by omega), trN_end _ h]
  · rw [if_neg h, if_neg (by omega)]
theorem getE_take {l : List En} (hr : Rising l) {j : Nat} (hj : j < l.length) (q : Int) : getE (l.take (j + 1)) q = if q = l[j].k then some l[j] else getE (l.take j) q := by
  have e : l.take (j + 1) = l.take j ++ [l[j]] := by rw [List.take_succ_eq_append_getElem hj]
  unfold getE
  rw [e, List.find?_append]
  by_cases h : q = l[j].k
  · rw [if_pos h]
    have hn : List.find? (fun e => e.k == q) (l.take j) = none := by
      rw [List.find?_eq_none]
      intro x hx hxq
      have hxk : x.k = q := by simpa using hxq
      obtain ⟨i, hi, rfl⟩ := List.mem_iff_getElem.1 hx
      rw [List.length_take] at hi
      have hlt := (List.pairwise_iff_getElem.1 hr) i j (by omega) hj (by omega)
      rw [List.getElem_take] at hxk
      have hlt' : l[i].k < l[j].k := hlt
      omega
    have hs : List.find? (fun e => e.k == q) [l[j]] = some l[j] := List.find?_cons_of_pos (by simp [h])
    rw [hn, hs]
    rfl
  · rw [if_neg h]
    have hs : List.find? (fun e => e.k == q) [l[j]] = none := by
      rw [List.find?_cons_of_neg (by simpa using fun h' => h h'.symm)]
      rfl
    rw [hs]
    cases List.find? (fun e => e.k == q) (l.take j) <;> rfl
theorem endsOf_step {l : List En} (hr : Rising l) {j K : Nat} (hj : j < l.length) (hK : l[j].k = (K : Int)) : updN (endsOf l j) (8 + K) (numE l[j]) = endsOf l (j + 1) := by
  funext k
  unfold updN endsOf
  by_cases h8 : 8 ≤ k
  · rw [if_pos h8, if_pos h8]
    unfold leafN
    rw [getE_take hr hj]
    by_cases e : k = 8 + K
    · rw [if_pos e, if_pos (by omega)]
    · rw [if_neg e, if_neg (by omega)]
  · rw [if_neg h8, if_neg h8, if_neg (by omega)]

/-- sixteen numbers at a block -/
structure SixAt (w : World) (b : Nat) (o : Nat → Nat) : Prop where
  cell : ∀ k, k < 16 → w.cell? ⟨b, k, none⟩ = some (.int .i64 (o k : Nat))
  fz : ∀ j, w.frozen? ⟨b, j, none⟩ = false
theorem SixAt.of_block {w w' : World} {b : Nat} {o : Nat → Nat} (h : SixAt w b o) (hb : w'.heap[b]? = w.heap[b]?) : SixAt w' b o :=
  ⟨fun k hk => (World.cell?_of_block (a := ⟨b, k, none⟩) hb).trans (h.cell k hk), fun j => (World.frozen?_of_block (a := ⟨b, j, none⟩) hb).trans (h.fz j)⟩
theorem SixAt.lt {w : World} {b : Nat} {o : Nat → Nat} (h : SixAt w b o) : b < w.heap.size := World.block_lt_of_cell? w _ (h.cell 0 (by omega))
theorem SixAt.below {w w' : World} {b B : Nat} {o : Nat → Nat} (h : SixAt w b o) (hb : Below B w w') (hB : b < B) : SixAt w' b o := h.of_block (hb.block b hB)
theorem SixAt.grown {w w' : World} {b : Nat} {o : Nat → Nat} (h : SixAt w b o) (hb : Below w.heap.size w w') : SixAt w' b o := h.below hb h.lt
theorem SixAt.alloc {w : World} {b : Nat} {o : Nat → Nat} (h : SixAt w b o) (x : Obj) : SixAt (w.alloc x) b o := h.of_block (Below.heap_alloc _ _ _ h.lt)
theorem SixAt.other {w : World} {b : Nat} {o : Nat → Nat} (h : SixAt w b o) (a : Addr) (hc : b ≠ a.block) (u : Value) : SixAt (w.setCell a u) b o := h.of_block (Below.heap_setCell _ _ _ b hc)
theorem SixAt.set {w : World} {b : Nat} {o : Nat → Nat} (h : SixAt w b o) (k : Nat) (hk : k < 16) (z : Nat) : SixAt (w.setCell ⟨b, k, none⟩ (.int .i64 (z : Nat))) b (updN o k z) := by
  refine ⟨fun j hj => ?_, fun j => by rw [World.frozen?_setCell]; exact h.fz j⟩
  by_cases e : j = k
  · subst e
    rw [updN, if_pos rfl]
    exact World.cell?_setCell_same _ _ _ (h.cell j hj)
  · rw [updN, if_neg e, World.cell?_setCell_other _ _ _ _ (by simp [e])]
    exact h.cell j hj
theorem six_new (w : World) (t : TypeId) (b : Nat) (h : b = w.heap.size) (o : Nat → Nat) : SixAt (w.alloc (.cells #[.int .i64 (o 0 : Nat), .int .i64 (o 1 : Nat), .int .i64 (o 2 : Nat), .int .i64 (o 3 : Nat), .int .i64 (o 4 : Nat), .int .i64 (o 5 : Nat), .int .i64 (o 6 : Nat), .int .i64 (o 7 : Nat), .int .i64 (o 8 : Nat), .int .i64 (o 9 : Nat), .int .i64 (o 10 : Nat), .int .i64 (o 11 : Nat), .int .i64 (o 12 : Nat), .int .i64 (o 13 : Nat), .int .i64 (o 14 : Nat), .int .i64 (o 15 : Nat)] t)) b o := by
  subst h
  refine ⟨fun k hk => ?_, fun j => by simp⟩
  have h8 : k = 0 ∨ k = 1 ∨ k = 2 ∨ k = 3 ∨ k = 4 ∨ k = 5 ∨ k = 6 ∨ k = 7 ∨ k = 8 ∨ k = 9 ∨ k = 10 ∨ k = 11 ∨ k = 12 ∨ k = 13 ∨ k = 14 ∨ k = 15 := by omega
  rcases h8 with rfl | rfl | rfl | rfl | rfl | rfl | rfl | rfl | rfl | rfl | rfl | rfl | rfl | rfl | rfl | rfl <;> simp
/-- sixteen numbers as a value -/
def ag16 (o : Nat → Nat) : Value := .agg #[.int .i64 (o 0 : Nat), .int .i64 (o 1 : Nat), .int .i64 (o 2 : Nat), .int .i64 (o 3 : Nat), .int .i64 (o 4 : Nat), .int .i64 (o 5 : Nat), .int .i64 (o 6 : Nat), .int .i64 (o 7 : Nat), .int .i64 (o 8 : Nat), .int .i64 (o 9 : Nat), .int .i64 (o 10 : Nat), .int .i64 (o 11 : Nat), .int .i64 (o 12 : Nat), .int .i64 (o 13 : Nat), .int .i64 (o 14 : Nat), .int .i64 (o 15 : Nat)]
/-- the sixteen cells of a block, stored -/
def set16 (w : World) (b : Nat) (o : Nat → Nat) : World := ((((((((((((((((w.setCell ⟨b, 0, none⟩ (.int .i64 (o 0 : Nat))).setCell ⟨b, 1, none⟩ (.int .i64 (o 1 : Nat))).setCell ⟨b, 2, none⟩ (.int .i64 (o 2 : Nat))).setCell ⟨b, 3, none⟩ (.int .i64 (o 3 : Nat))).setCell ⟨b, 4, none⟩ (.int .i64 (o 4 : Nat))).setCell ⟨b, 5, none⟩ (.int .i64 (o 5 : Nat))).setCell ⟨b, 6, none⟩ (.int .i64 (o 6 : Nat))).setCell ⟨b, 7, none⟩ (.int .i64 (o 7 : Nat))).setCell ⟨b, 8, none⟩ (.int .i64 (o 8 : Nat))).setCell ⟨b, 9, none⟩ (.int .i64 (o 9 : Nat))).setCell ⟨b, 10, none⟩ (.int .i64 (o 10 : Nat))).setCell ⟨b, 11, none⟩ (.int .i64 (o 11 : Nat))).setCell ⟨b, 12, none⟩ (.int .i64 (o 12 : Nat))).setCell ⟨b, 13, none⟩ (.int .i64 (o 13 : Nat))).setCell ⟨b, 14, none⟩ (.int .i64 (o 14 : Nat))).setCell ⟨b, 15, none⟩ (.int .i64 (o 15 : Nat)))
theorem upd16 (u o : Nat → Nat) (k : Nat) (h : k < 16) : updN (updN (updN (updN (updN (updN (updN (updN (updN (updN (updN (updN (updN (updN (updN (updN u 0 (o 0)) 1 (o 1)) 2 (o 2)) 3 (o 3)) 4 (o 4)) 5 (o 5)) 6 (o 6)) 7 (o 7)) 8 (o 8)) 9 (o 9)) 10 (o 10)) 11 (o 11)) 12 (o 12)) 13 (o 13)) 14 (o 14)) 15 (o 15) k = o k := by
  have h8 : k = 0 ∨ k = 1 ∨ k = 2 ∨ k = 3 ∨ k = 4 ∨ k = 5 ∨ k = 6 ∨ k = 7 ∨ k = 8 ∨ k = 9 ∨ k = 10 ∨ k = 11 ∨ k = 12 ∨ k = 13 ∨ k = 14 ∨ k = 15 := by omega
  rcases h8 with rfl | rfl | rfl | rfl | rfl | rfl | rfl | rfl | rfl | rfl | rfl | rfl | rfl | rfl | rfl | rfl <;> simp [updN]
theorem SixAt.set16 {w : World} {b : Nat} {u : Nat → Nat} (h : SixAt w b u) (o : Nat → Nat) : SixAt (set16 w b o) b o := by
  have h' := (((((((((((((((h.set 0 (by omega) (o 0)).set 1 (by omega) (o 1)).set 2 (by omega) (o 2)).set 3 (by omega) (o 3)).set 4 (by omega) (o 4)).set 5 (by omega) (o 5)).set 6 (by omega) (o 6)).set 7 (by omega) (o 7)).set 8 (by omega) (o 8)).set 9 (by omega) (o 9)).set 10 (by omega) (o 10)).set 11 (by omega) (o 11)).set 12 (by omega) (o 12)).set 13 (by omega) (o 13)).set 14 (by omega) (o 14)).set 15 (by omega) (o 15)
  exact ⟨fun k hk => (h'.cell k hk).trans (by rw [upd16 u o k hk]), h'.fz⟩
theorem set16_below {w w' : World} {B b : Nat} (h : Below B w w') (hb : B ≤ b) (o : Nat → Nat) : Below B w (set16 w' b o) := by
  unfold Go.Proofs.YtpcnfoaoajfhlaaGreatDoor.set16
  have s : ∀ {x : World}, Below B w x → ∀ k u, Below B w (x.setCell ⟨b, k, none⟩ u) := fun hx k u => ⟨hx.os, hx.tape, hx.output, by rw [World.size_setCell]; exact hx.size, fun c hc => (Below.heap_setCell _ _ _ c (by show c ≠ b; omega)).trans (hx.block c hc)⟩
  exact s (s (s (s (s (s (s (s (s (s (s (s (s (s (s (s h _ _) _ _) _ _) _ _) _ _) _ _) _ _) _ _) _ _) _ _) _ _) _ _) _ _) _ _) _ _) _ _
theorem six_cells {w : World} {b : Nat} {o : Nat → Nat} (h : SixAt w b o) : w.cell? ⟨b, 0, none⟩ = some (.int .i64 (o 0 : Nat)) ∧ w.cell? ⟨b, 1, none⟩ = some (.int .i64 (o 1 : Nat)) ∧ w.cell? ⟨b, 2, none⟩ = some (.int .i64 (o 2 : Nat)) ∧ w.cell? ⟨b, 3, none⟩ = some (.int .i64 (o 3 : Nat)) ∧ w.cell? ⟨b, 4, none⟩ = some (.int .i64 (o 4 : Nat)) ∧ w.cell? ⟨b, 5, none⟩ = some (.int .i64 (o 5 : Nat)) ∧ w.cell? ⟨b, 6, none⟩ = some (.int .i64 (o 6 : Nat)) ∧ w.cell? ⟨b, 7, none⟩ = some (.int .i64 (o 7 : Nat)) ∧ w.cell? ⟨b, 8, none⟩ = some (.int .i64 (o 8 : Nat)) ∧ w.cell? ⟨b, 9, none⟩ = some (.int .i64 (o 9 : Nat)) ∧ w.cell? ⟨b, 10, none⟩ = some (.int .i64 (o 10 : Nat)) ∧ w.cell? ⟨b, 11, none⟩ = some (.int .i64 (o 11 : Nat)) ∧ w.cell? ⟨b, 12, none⟩ = some (.int .i64 (o 12 : Nat)) ∧ w.cell? ⟨b, 13, none⟩ = some (.int .i64 (o 13 : Nat)) ∧ w.cell? ⟨b, 14, none⟩ = some (.int .i64 (o 14 : Nat)) ∧ w.cell? ⟨b, 15, none⟩ = some (.int .i64 (o 15 : Nat)) :=
  ⟨h.cell 0 (by omega), h.cell 1 (by omega), h.cell 2 (by omega), h.cell 3 (by omega), h.cell 4 (by omega), h.cell 5 (by omega), h.cell 6 (by omega), h.cell 7 (by omega), h.cell 8 (by omega), h.cell 9 (by omega), h.cell 10 (by omega), h.cell 11 (by omega), h.cell 12 (by omega), h.cell 13 (by omega), h.cell 14 (by omega), h.cell 15 (by omega)⟩
end Go.Proofs.YtpcnfoaoajfhlaaGreatDoor
