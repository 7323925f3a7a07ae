/-
  Package cache by its contracts: Get.
  What put does to lists: a right cache stays one.
  Package cache by its contracts: Add.
  Package cache by its contracts: Both.
-/
import Derived.Test.YtpcnfoaoajfhlaaGreatDoorRaac
import Derived.Test.YtpcnfoaoajfhlaaGreatDoorRaae
namespace Go.Proofs.YtpcnfoaoajfhlaaGreatDoor
set_option linter.unusedVariables false
set_option linter.unusedSimpArgs false
set_option linter.unusedVariables false
set_option linter.unusedSimpArgs false
open Go.RowKit

def zeroEn : En := ⟨0, 0, 0, false, ⟨#[]⟩⟩
def isKeyB (k : Int) : Bool := decide (0 ≤ k) && decide (k < 8)
/-- Get, on lists -/
def cacheGet (l : List En) (key : Int) : En × Int :=
  if badL l ≠ 0 then (zeroEn, badL l) else if isKeyB key = false then (zeroEn, 1) else match getE l key with | none => (zeroEn, 5) | some x => (x, 0)

theorem isKey_c (k : Int) (w : World) : Calls Tryz.prog 120 #[.int .i64 k] w fun e w' => e = .returned (.bool (isKeyB k)) ∧ w' = w := by
  by_cases h : 0 ≤ k
  · have hd : decide (0 ≤ k) = true := by simpa using h
    go_enter Tryz.func120, Tryz.ntmps120
    go_wp2
    go_ret
    exact ⟨by simp [isKeyB, h], rfl⟩
  · have hd : decide (0 ≤ k) = false := by simpa using h
    go_enter Tryz.func120, Tryz.ntmps120
    go_wp2
    go_ret
    refine ⟨?_, rfl⟩
    have h' : ¬ 0 ≤ k := by omega
    simp [isKeyB, h']
theorem cacheCheck_o {v : Value} {l : List En} {w : World} {n : Int} (hr : RowIs w v l) (h : badL l = n) :
    Calls Tryz.prog 70 #[v] w fun e w' => e = .returned (eV n) ∧ Below w.heap.size w w' := by
  subst h
  exact cacheCheck_c v l w hr
theorem cacheCheck_ok {v : Value} {l : List En} {w : World} (hr : RowIs w v l) (h : badL l = 0) :
    Calls Tryz.prog 70 #[v] w fun e w' => e = .returned .nilIface ∧ Below w.heap.size w w' := cacheCheck_o hr h
theorem cacheCheck_err {v : Value} {l : List En} {w : World} {n : Int} (hr : RowIs w v l) (h : badL l = n) (hn : n ≠ 0) :
    Calls Tryz.prog 70 #[v] w fun e w' => e = .returned (.iface 85 (.int .i64 n)) ∧ Below w.heap.size w w' := by
  have c := cacheCheck_o hr h
  rw [eV, if_neg hn] at c
  exact c

set_option maxHeartbeats 4000000 in
theorem get_c (v : Value) (l : List En) (key : Int) (w : World) (hr : RowIs w v l) :
    Calls Tryz.prog 73 #[v, .int .i64 key] w fun e w' => e = .returned (.tuple #[(cacheGet l key).1.val, eV (cacheGet l key).2]) ∧ Below w.heap.size w w' := by
  have HR : Hid (RowIs w v l) := hr
  have hlt : w.heap.size < (w.alloc (.cells #[.int .i64 0, .int .i64 0, .int .i64 0, .bool false, .string ⟨#[]⟩] 46)).heap.size := by simp
  have HB0 : Hid (Below w.heap.size w (w.alloc (.cells #[.int .i64 0, .int .i64 0, .int .i64 0, .bool false, .string ⟨#[]⟩] 46))) := by show Below _ _ _; go_grown
  clear hr hlt
  by_cases hn : badL l = 0
  · have HN : Hid (badL l = 0) := hn
    have HG : Hid (GoodL l) := badL_good hn
    clear hn
    cases hk : isKeyB key
    · have HC : Hid (cacheGet l key = (zeroEn, 1)) := by
        show cacheGet l key = _
        rw [cacheGet, if_neg (by simpa using HN.out), if_pos hk]
      have HKb : Hid (isKeyB key = false) := hk
      clear hk
      rw [HC.out]
      go_enter Tryz.func73, Tryz.ntmps73
      go_wp2_with fail
      refine (cacheCheck_ok (HR.out.below HB0.out) HN.out).mono ?_
      rintro e w1 ⟨rfl, hb⟩
      have B1 : Hid (Below w.heap.size w w1) := HB0.out.trans (hb.mono (by simp))
      obtain ⟨e0, e1, e2, e3, e4, ef⟩ := (box_new w 0 0 0 false ⟨#[]⟩ w.heap.size rfl).below hb (by simp)
      clear hb
      go_wp2_with (go_at_call 120; refine (isKey_c _ _).mono ?_; rintro e w' ⟨rfl, rfl⟩; rw [HKb.out])
      refine bodyPost_ret (v := .tuple #[.agg #[.int .i64 0, .int .i64 0, .int .i64 0, .bool false, .string ⟨#[]⟩], .iface 85 (.int .i64 1)]) (by simp [results, Tryz.results73, go_sem, e0, e1, e2, e3, e4]) rfl ?_
      refine ⟨rfl, ?_⟩
      have hb := B1.out
      go_grown
    · have HKb : Hid (isKeyB key = true) := hk
      clear hk
      cases hg : getE l key with
      | none =>
        have HC : Hid (cacheGet l key = (zeroEn, 5)) := by
          show cacheGet l key = _
          rw [cacheGet, if_neg (by simpa using HN.out), if_neg (by rw [HKb.out]; simp), hg]
        have HGt : Hid (getE l key = none) := hg
        clear hg
        rw [HC.out]
        go_enter Tryz.func73, Tryz.ntmps73
        go_wp2_with fail
        refine (cacheCheck_ok (HR.out.below HB0.out) HN.out).mono ?_
        rintro e w1 ⟨rfl, hb⟩
        have B1 : Hid (Below w.heap.size w w1) := HB0.out.trans (hb.mono (by simp))
        have E1 : Hid (BoxAt w1 w.heap.size 0 0 0 false ⟨#[]⟩) := (box_new w 0 0 0 false ⟨#[]⟩ w.heap.size rfl).below hb (by simp)
        clear hb
        go_wp2_with (go_at_call 120; refine (isKey_c _ _).mono ?_; rintro e w' ⟨rfl, rfl⟩; rw [HKb.out])
        refine (place_c v l key _ (HR.out.below B1.out) HG.out).mono ?_
        rintro e w2 ⟨rfl, hb⟩
        rw [HGt.out]
        have B2 : Hid (Below w.heap.size w w2) := B1.out.trans (hb.mono B1.out.size)
        obtain ⟨e0, e1, e2, e3, e4, ef⟩ := E1.out.below hb E1.out.lt
        clear hb
        go_wp2_with fail
        refine bodyPost_ret (v := .tuple #[.agg #[.int .i64 0, .int .i64 0, .int .i64 0, .bool false, .string ⟨#[]⟩], .iface 85 (.int .i64 5)]) (by simp [results, Tryz.results73, go_sem, e0, e1, e2, e3, e4]) rfl ?_
        refine ⟨rfl, ?_⟩
        have hb := B2.out
        go_grown
      | some x =>
        have HC : Hid (cacheGet l key = (x, 0)) := by
          show cacheGet l key = _
          rw [cacheGet, if_neg (by simpa using HN.out), if_neg (by rw [HKb.out]; simp), hg]
        have HGt : Hid (getE l key = some x) := hg
        obtain ⟨hm, hx, hxk⟩ := getE_some HG.out.rise hg
        clear hg hxk
        obtain ⟨hlen, p, cap, rfl, hrow⟩ := HR.out
        obtain ⟨b, o, rfl, hbw, hat⟩ := hrow (fun h => by simp [h] at hm)
        have HAt : Hid (EnAt w b (o + placeE l key * 5) x) := by
          have := hat _ hm
          rw [hx] at this
          exact this
        clear hrow hat hx
        rw [HC.out]
        obtain ⟨m, HM⟩ : ∃ m, Hid (placeE l key = m) := ⟨_, rfl⟩
        rw [HM.out] at hm HAt
        obtain ⟨N, HNl⟩ : ∃ N, Hid (l.length = N) := ⟨_, rfl⟩
        rw [HNl.out] at hm HR hlen ⊢
        have hm1 : (m : Int) < (N : Int) := by omega
        obtain ⟨x0, x1, x2, x3, x4⟩ := x
        go_enter Tryz.func73, Tryz.ntmps73
        go_wp2_with fail
        refine (cacheCheck_ok (HR.out.below HB0.out) HN.out).mono ?_
        rintro e w1 ⟨rfl, hb⟩
        have B1 : Hid (Below w.heap.size w w1) := HB0.out.trans (hb.mono (by simp))
        have E1 : Hid (BoxAt w1 w.heap.size 0 0 0 false ⟨#[]⟩) := (box_new w 0 0 0 false ⟨#[]⟩ w.heap.size rfl).below hb (by simp)
        clear hb
        go_wp2_with (go_at_call 120; refine (isKey_c _ _).mono ?_; rintro e w' ⟨rfl, rfl⟩; rw [HKb.out])
        refine (place_c _ l key _ (HR.out.below B1.out) HG.out).mono ?_
        rintro e w2 ⟨rfl, hb⟩
        rw [HGt.out, HM.out]
        have B2 : Hid (Below w.heap.size w w2) := B1.out.trans (hb.mono B1.out.size)
        obtain ⟨e0, e1, e2, e3, e4, ef⟩ := E1.out.below hb E1.out.lt
        obtain ⟨c0, c1, c2, c3, c4⟩ := HAt.out.of_block (B2.out.block b hbw)
        dsimp only at c0 c1 c2 c3 c4
        have p1 : ¬ b = w.heap.size := by omega
        have p2 : ¬ w.heap.size = b := by omega
        clear hb
        go_wp2_with fail
        refine bodyPost_ret (v := .tuple #[.agg #[.int .i64 x0, .int .i64 x1, .int .i64 x2, .bool x3, .string x4], .nilIface]) (by simp [results, Tryz.results73, go_sem, e0, e1, e2, e3, e4]) rfl ?_
        refine ⟨rfl, ?_⟩
        have hb := B2.out
        go_grown
  · obtain ⟨n, HN⟩ : ∃ n, Hid (badL l = n) := ⟨_, rfl⟩
    have HC : Hid (cacheGet l key = (zeroEn, n)) := by
      show cacheGet l key = _
      rw [cacheGet, if_pos hn, HN.out]
    rw [HN.out] at hn
    rw [HC.out]
    go_enter Tryz.func73, Tryz.ntmps73
    go_wp2_with fail
    refine (cacheCheck_err (HR.out.below HB0.out) HN.out hn).mono ?_
    rintro e w1 ⟨rfl, hb⟩
    have B1 : Hid (Below w.heap.size w w1) := HB0.out.trans (hb.mono (by simp))
    obtain ⟨e0, e1, e2, e3, e4, ef⟩ := (box_new w 0 0 0 false ⟨#[]⟩ w.heap.size rfl).below hb (by simp)
    clear hb
    go_wp2_with fail
    refine bodyPost_ret (v := .tuple #[.agg #[.int .i64 0, .int .i64 0, .int .i64 0, .bool false, .string ⟨#[]⟩], .iface 85 (.int .i64 n)]) (by simp [results, Tryz.results73, go_sem, e0, e1, e2, e3, e4]) rfl ?_
    refine ⟨by simp [eV, hn]; rfl, ?_⟩
    have hb := B1.out
    go_grown
end Go.Proofs.YtpcnfoaoajfhlaaGreatDoor

namespace Go.Proofs.YtpcnfoaoajfhlaaGreatDoor
set_option linter.unusedVariables false
set_option linter.unusedSimpArgs false
open Go.RowKit

theorem bad_key {e : En} (h : e.bad = 0) : 0 ≤ e.k ∧ e.k ≤ 7 := by
  unfold En.bad bad at h
  split at h
  · omega
  · rename_i h1
    simp [inR] at h1
    omega
theorem Rising.at {l : List En} (h : Rising l) (h0 : ∀ e ∈ l, 0 ≤ e.k) (j : Nat) (hj : j < l.length) : (j : Int) ≤ l[j].k := by
  induction j with
  | zero => exact h0 _ (List.getElem_mem _)
  | succ j ih =>
    have := ih (by omega)
    have := List.pairwise_iff_getElem.1 h j (j + 1) (by omega) hj (by omega)
    omega
theorem Rising.len {l : List En} (h : Rising l) (hb : ∀ e ∈ l, e.bad = 0) : l.length ≤ 8 := by
  rcases Nat.lt_or_ge 8 l.length with h8 | h8
  · have := h.at (fun e he => (bad_key (hb e he)).1) 8 h8
    have := (bad_key (hb l[8] (List.getElem_mem _))).2
    omega
  · exact h8
theorem GoodL.of {l : List En} (h : Rising l) (hb : ∀ e ∈ l, e.bad = 0) : GoodL l := ⟨h.len hb, hb, h⟩
theorem goodL_nil : GoodL [] := ⟨by simp, by simp, List.Pairwise.nil⟩

theorem joinE_ok {x y J : En} (h : joinE x y = (J, 0)) : x.bad = 0 ∧ y.bad = 0 ∧ x.k = y.k ∧ (J = x ∨ J = y) := by
  unfold joinE at h
  split at h
  · rename_i hb
    rw [Prod.mk.injEq] at h
    exact absurd h.2 hb
  · rename_i hb
    have hb : bad2 (bad x.k x.v x.a x.g x.t) (bad y.k y.v y.a y.g y.t) = 0 := by simpa using hb
    have hx : x.bad = 0 := by
      unfold bad2 at hb
      split at hb
      · assumption
      · rename_i h; exact absurd hb h
    have hy : y.bad = 0 := by
      unfold bad2 at hb
      rw [if_pos (show bad x.k x.v x.a x.g x.t = 0 from hx)] at hb
      exact hb
    split at h
    · simp at h
    · rename_i hk
      refine ⟨hx, hy, by simpa using hk, ?_⟩
      split at h
      · split at h
        · simp at h
        · simp at h; exact .inl h.symm
      · split at h
        · simp at h
        · simp at h; exact .inr h.symm

theorem getE_none {l : List En} {key : Int} (h : getE l key = none) : ∀ e ∈ l, e.k ≠ key := by
  intro e he hk
  rw [getE, List.find?_eq_none] at h
  exact h e he (by simpa using hk)
theorem rising_ins {l : List En} (h : Rising l) (x : En) (hn : getE l x.k = none) : Rising (l.take (placeE l x.k) ++ x :: l.drop (placeE l x.k)) := by
  unfold Rising
  rw [List.pairwise_append]
  refine ⟨List.Pairwise.sublist (List.take_sublist _ _) h, List.pairwise_cons.2 ⟨?_, List.Pairwise.sublist (List.drop_sublist _ _) h⟩, ?_⟩
  · intro y hy
    obtain ⟨j, hj, rfl⟩ := List.getElem_of_mem hy
    rw [List.length_drop] at hj
    rw [List.getElem_drop]
    have := placeE_more l x.k h (placeE l x.k + j) (by omega) (by omega)
    have := getE_none hn l[placeE l x.k + j] (List.getElem_mem _)
    omega
  · intro y hy z hz
    obtain ⟨j, hj, rfl⟩ := List.getElem_of_mem hy
    rw [List.length_take] at hj
    rw [List.getElem_take]
    have h1 := placeE_less l x.k j (by omega) (by omega)
    rcases List.mem_cons.1 hz with rfl | hz
    · exact h1
    · obtain ⟨i, hi, rfl⟩ := List.getElem_of_mem hz
      rw [List.length_drop] at hi
      rw [List.getElem_drop]
      have := placeE_more l x.k h (placeE l x.k + i) (by omega) (by omega)
      omega
theorem rising_set {l : List En} (h : Rising l) (m : Nat) (hm : m < l.length) (x : En) (hx : x.k = l[m].k) : Rising (l.set m x) := by
  unfold Rising
  rw [List.pairwise_iff_getElem]
  intro i j hi hj hij
  rw [List.length_set] at hi hj
  have := List.pairwise_iff_getElem.1 h i j hi hj hij
  rw [List.getElem_set, List.getElem_set]
  split
  · rename_i h1
    subst h1
    rw [if_neg (by omega), hx]
    exact this
  · split
    · rename_i h2
      subst h2
      rw [hx]
      exact this
    · exact this
theorem putE_good {l : List En} {e : En} (hg : GoodL l) (he : e.bad = 0) (h : (putE l e).2.2 = 0) : GoodL (putE l e).1 := by
  unfold putE at h ⊢
  cases hk : getE l e.k with
  | none =>
    simp only
    refine GoodL.of (rising_ins hg.rise e hk) ?_
    intro y hy
    rcases List.mem_append.1 hy with h1 | h1
    · exact hg.all y (List.mem_of_mem_take h1)
    · rcases List.mem_cons.1 h1 with rfl | h1
      · exact he
      · exact hg.all y (List.mem_of_mem_drop h1)
  | some x =>
    simp only [hk] at h ⊢
    split at h
    · rename_i hn; exact absurd h hn
    · rename_i hn
      rw [if_neg hn]
      have hn : (joinE x e).2 = 0 := by simpa using hn
      obtain ⟨hx, hy, hxy, hJ⟩ := joinE_ok (x := x) (y := e) (J := (joinE x e).1) (by rw [← hn])
      obtain ⟨hm, hmx, hmk⟩ := getE_some hg.rise hk
      refine GoodL.of (rising_set hg.rise _ hm _ ?_) ?_
      · rw [hmx]
        rcases hJ with h' | h' <;> rw [h']
        exact hxy.symm
      · intro y hy'
        rcases List.mem_or_eq_of_mem_set hy' with h' | rfl
        · exact hg.all y h'
        · rcases hJ with h' | h' <;> rw [h'] <;> assumption

/-- Add, on lists -/
def cacheAdd (l : List En) (e : En) : List En × Bool × Int :=
  if badL l ≠ 0 then ([], false, badL l) else if e.bad ≠ 0 then ([], false, e.bad) else putE l e
/-- all of a row put -/
def allE : List En → List En → List En × Int
  | l, [] => (l, 0)
  | l, e :: b => if (putE l e).2.2 ≠ 0 then ([], (putE l e).2.2) else allE (putE l e).1 b
/-- Both, on lists -/
def cacheBoth (a b : List En) : List En × Int :=
  if badL a ≠ 0 then ([], badL a) else if badL b ≠ 0 then ([], badL b) else allE a b
theorem allE_step {l b : List En} {j : Nat} (hj : j < b.length) : allE l (b.drop j) = if (putE l b[j]).2.2 ≠ 0 then ([], (putE l b[j]).2.2) else allE (putE l b[j]).1 (b.drop (j + 1)) := by
  rw [List.drop_eq_getElem_cons hj, allE]
theorem allE_good {l b : List En} (hg : GoodL l) (hb : ∀ e ∈ b, e.bad = 0) (h : (allE l b).2 = 0) : GoodL (allE l b).1 := by
  induction b generalizing l with
  | nil => exact hg
  | cons e b ih =>
    rw [allE] at h ⊢
    by_cases hn : (putE l e).2.2 = 0
    · rw [if_neg (by simpa using hn)] at h ⊢
      exact ih (putE_good hg (hb e (by simp)) hn) (fun x hx => hb x (by simp [hx])) h
    · rw [if_pos hn] at h
      exact absurd h hn
end Go.Proofs.YtpcnfoaoajfhlaaGreatDoor

namespace Go.Proofs.YtpcnfoaoajfhlaaGreatDoor
set_option linter.unusedVariables false
set_option linter.unusedSimpArgs false
open Go.RowKit Go.Lib

/-- what Add leaves -/
def AddIs (w : World) (r : List En × Bool × Int) (e : Ending) (w' : World) : Prop :=
  ∃ v', e = .returned (.tuple #[v', .bool r.2.1, eV r.2.2]) ∧ w'.ownsRow w.heap.size 46 5 v' r.1.length (rowC r.1) ∧ Below w.heap.size w w'
theorem put_x (B : Nat) (v : Value) (l : List En) (k vv a : Int) (g : Bool) (t : ByteArray) (w : World) (ho : w.ownsRow B 46 5 v l.length (rowC l)) (hB : B ≤ w.heap.size) (hg : GoodL l) :
    Calls Tryz.prog 71 #[v, .agg #[.int .i64 k, .int .i64 vv, .int .i64 a, .bool g, .string t]] w (PutIs B w v (putE l ⟨k, vv, a, g, t⟩)) := put_c B v l ⟨k, vv, a, g, t⟩ w ho hB hg
theorem put_o {l : List En} {k vv a : Int} {g : Bool} {t : ByteArray} {R1 : List En} {R2 : Bool} {R3 : Int} (h : putE l ⟨k, vv, a, g, t⟩ = (R1, R2, R3)) (B : Nat) (v : Value) (w : World) (ho : w.ownsRow B 46 5 v l.length (rowC l)) (hB : B ≤ w.heap.size) (hg : GoodL l) :
    Calls Tryz.prog 71 #[v, .agg #[.int .i64 k, .int .i64 vv, .int .i64 a, .bool g, .string t]] w fun e w' => ∃ v', e = .returned (.tuple #[v', .bool R2, eV R3]) ∧ w'.ownsRow B 46 5 v' R1.length (rowC R1) ∧ w.grownBy w' v.ownBlock := by
  have c := put_x B v l k vv a g t w ho hB hg
  rw [h] at c
  exact c
theorem ownsRow_base {w : World} {B C : Nat} {e : TypeId} {size : Nat} {v : Value} {n : Nat} {xs : List Value} (h : w.ownsRow B e size v n xs) (hC : C ≤ B) : w.ownsRow C e size v n xs := by
  refine ⟨h.1, ?_⟩
  rcases h.2 with hn | ⟨g, cap, cur, rfl, h1, hg, rest⟩
  · exact .inl hn
  · exact .inr ⟨g, cap, cur, rfl, Nat.le_trans hC h1, hg, rest⟩
theorem ownsRow_from {w : World} {B : Nat} {e : TypeId} {size : Nat} {v : Value} {n : Nat} {xs : List Value} (h : w.ownsRow B e size v n xs) (c : Nat) (hc : v.ownBlock = some c) : B ≤ c := by
  rcases h.2 with ⟨rfl, _⟩ | ⟨g', cap, cur, rfl, h1, _⟩
  · cases hc
  · obtain rfl : g' = c := by simpa [Value.ownBlock] using hc
    exact h1
theorem below_grown {B : Nat} {w w1 w' : World} {v : Value} (h : Below B w w1) (hB : B ≤ w.heap.size) (hg : w1.grownBy w' v.ownBlock) (hv : ∀ c, v.ownBlock = some c → B ≤ c) : Below B w w' :=
  h.trans ⟨hg.os, hg.tape, hg.output, hg.size, fun c hc => hg.block c (Nat.lt_of_lt_of_le hc (Nat.le_trans hB h.size)) (fun e => by have := hv c e.symm; omega)⟩
theorem RowIs.drew {w : World} {v : Value} {l : List En} (h : RowIs w v l) : RowIs w.drew v l := h.blocks (Nat.le_refl _) (fun _ _ _ => rfl)

set_option maxHeartbeats 1000000 in
theorem add_c (v : Value) (l : List En) (k vv a : Int) (g : Bool) (t : ByteArray) (w : World) (hr : RowIs w v l) :
    Calls Tryz.prog 28 #[v, .agg #[.int .i64 k, .int .i64 vv, .int .i64 a, .bool g, .string t]] w (AddIs w (cacheAdd l ⟨k, vv, a, g, t⟩)) := by
  have HR : Hid (RowIs w v l) := hr
  have HB0 : Hid (Below w.heap.size w (w.alloc (.cells #[.int .i64 k, .int .i64 vv, .int .i64 a, .bool g, .string t] 46))) := by show Below _ _ _; go_grown
  clear hr
  by_cases hn : badL l = 0
  · have HN : Hid (badL l = 0) := hn
    have HG : Hid (GoodL l) := badL_good hn
    clear hn
    by_cases hm : bad k vv a g t = 0
    · have HM : Hid (bad k vv a g t = 0) := hm
      have HC : Hid (cacheAdd l ⟨k, vv, a, g, t⟩ = putE l ⟨k, vv, a, g, t⟩) := by
        show cacheAdd l _ = _
        rw [cacheAdd, if_neg (by simpa using HN.out), if_neg (by simpa [En.bad] using HM.out)]
      clear hm
      obtain ⟨R, HRs⟩ : ∃ R, Hid (putE l ⟨k, vv, a, g, t⟩ = R) := ⟨_, rfl⟩
      rw [HC.out, HRs.out]
      obtain ⟨R1, R2, R3⟩ := R
      go_enter Tryz.func28, Tryz.ntmps28
      go_wp2_with fail
      refine (cacheCheck_ok (HR.out.below HB0.out) HN.out).mono ?_
      rintro e w1 ⟨rfl, hb⟩
      have B1 : Hid (Below w.heap.size w w1) := HB0.out.trans (hb.mono (by simp))
      have E1 : Hid (BoxAt w1 w.heap.size k vv a g t) := (box_new w k vv a g t w.heap.size rfl).below hb (by simp)
      obtain ⟨a0, a1, a2, a3, a4, af⟩ := E1.out
      clear hb
      go_wp2_with fail
      refine (check_ok HM.out _).mono ?_
      rintro e w2 ⟨rfl, hb⟩
      have B2 : Hid (Below w.heap.size w w2) := B1.out.trans (hb.mono B1.out.size)
      have E2 : Hid (BoxAt w2 w.heap.size k vv a g t) := E1.out.below hb E1.out.lt
      clear hb a0 a1 a2 a3 a4 af
      obtain ⟨a0, a1, a2, a3, a4, af⟩ := E2.out
      go_upto_region 7 with fail
      go_region_with (first
        | (go_at_call 56; refine (clone_c v l _ ?_ HG.out.len).mono ?_; exact (HR.out.below B2.out).drew; rintro e w3 ⟨v3, rfl, ho3, hb3⟩; have HO3 : Hid (w3.ownsRow w2.heap.size 46 5 v3 l.length (rowC l)) := ho3; have HB3 : Hid (Below w2.heap.size w2 w3) := below_undrew hb3; clear ho3 hb3; obtain ⟨d0, d1, d2, d3, d4, df⟩ := E2.out.below HB3.out E2.out.lt)
        | (go_at_call 71; refine (put_o HRs.out w2.heap.size v3 _ HO3.out HB3.out.size HG.out).mono ?_; rintro e w4 ⟨v4, rfl, ho4, hg4⟩; have HO4 : Hid _ := ho4; have HG4 : Hid _ := hg4; clear ho4 hg4))
      all_goals go_wp2_with fail
      all_goals go_ret3
      all_goals exact ⟨v4, by simp [Act.put, Array.setIfInBounds, Array.getD], ownsRow_base HO4.out B2.out.size, below_grown (B2.out.trans (HB3.out.mono B2.out.size)) (Nat.le_refl _) HG4.out (fun c hc => Nat.le_trans B2.out.size (ownsRow_from HO3.out c hc))⟩
    · obtain ⟨m, HM⟩ : ∃ m, Hid (bad k vv a g t = m) := ⟨_, rfl⟩
      have HC : Hid (cacheAdd l ⟨k, vv, a, g, t⟩ = ([], false, m)) := by
        show cacheAdd l _ = _
        rw [cacheAdd, if_neg (by simpa using HN.out), if_pos (by simpa [En.bad] using hm)]
        show ([], false, bad k vv a g t) = _
        rw [HM.out]
      rw [HM.out] at hm
      rw [HC.out]
      go_enter Tryz.func28, Tryz.ntmps28
      go_wp2_with fail
      refine (cacheCheck_ok (HR.out.below HB0.out) HN.out).mono ?_
      rintro e w1 ⟨rfl, hb⟩
      have B1 : Hid (Below w.heap.size w w1) := HB0.out.trans (hb.mono (by simp))
      obtain ⟨a0, a1, a2, a3, a4, af⟩ := (box_new w k vv a g t w.heap.size rfl).below hb (by simp)
      clear hb
      go_wp2_with fail
      refine (check_err HM.out hm _).mono ?_
      rintro e w2 ⟨rfl, hb⟩
      have B2 : Hid (Below w.heap.size w w2) := B1.out.trans (hb.mono B1.out.size)
      clear hb
      go_wp2_with fail
      go_ret3
      refine ⟨.slice none 0 0, ?_, World.ownsRow_nil _ _ _ _, B2.out⟩
      show _ = Ending.returned (.tuple #[.slice none 0 0, .bool false, eV m])
      rw [eV, if_neg hm]
      rfl
  · obtain ⟨n, HN⟩ : ∃ n, Hid (badL l = n) := ⟨_, rfl⟩
    have HC : Hid (cacheAdd l ⟨k, vv, a, g, t⟩ = ([], false, n)) := by
      show cacheAdd l _ = _
      rw [cacheAdd, if_pos hn, HN.out]
    rw [HN.out] at hn
    rw [HC.out]
    go_enter Tryz.func28, Tryz.ntmps28
    go_wp2_with fail
    refine (cacheCheck_err (HR.out.below HB0.out) HN.out hn).mono ?_
    rintro e w1 ⟨rfl, hb⟩
    have B1 : Hid (Below w.heap.size w w1) := HB0.out.trans (hb.mono (by simp))
    clear hb
    go_wp2_with fail
    go_ret3
    refine ⟨.slice none 0 0, ?_, World.ownsRow_nil _ _ _ _, B1.out⟩
    show _ = Ending.returned (.tuple #[.slice none 0 0, .bool false, eV n])
    rw [eV, if_neg hn]
    rfl
end Go.Proofs.YtpcnfoaoajfhlaaGreatDoor

namespace Go.Proofs.YtpcnfoaoajfhlaaGreatDoor
set_option linter.unusedVariables false
set_option linter.unusedSimpArgs false
open Go.RowKit

/-- what Both leaves -/
def BothIs (w : World) (r : List En × Int) (e : Ending) (w' : World) : Prop :=
  ∃ v', e = .returned (.tuple #[v', eV r.2]) ∧ w'.ownsRow w.heap.size 46 5 v' r.1.length (rowC r.1) ∧ Below w.heap.size w w'

set_option maxHeartbeats 4000000 in
theorem both_c (va vb : Value) (a b : List En) (w : World) (hra : RowIs w va a) (hrb : RowIs w vb b) :
    Calls Tryz.prog 143 #[va, vb] w (BothIs w (cacheBoth a b)) := by
  have HA : Hid (RowIs w va a) := hra
  have HBr : Hid (RowIs w vb b) := hrb
  by_cases hn : badL a = 0
  · have HN : Hid (badL a = 0) := hn
    have HG : Hid (GoodL a) := badL_good hn
    clear hn
    by_cases hm : badL b = 0
    · have HM : Hid (badL b = 0) := hm
      have HGb : Hid (GoodL b) := badL_good hm
      have HC : Hid (cacheBoth a b = allE a (b.drop 0)) := by
        show cacheBoth a b = _
        rw [cacheBoth, if_neg (by simpa using HN.out), if_neg (by simpa using HM.out), List.drop_zero]
      clear hm hra
      obtain ⟨hlen, p, cap, rfl, hrow⟩ := hrb
      have HRow : Hid (b ≠ [] → ∃ bb o, p = some ⟨bb, o, none⟩ ∧ bb < w.heap.size ∧ ∀ j (h : j < b.length), EnAt w bb (o + j * 5) b[j]) := hrow
      clear hrow
      obtain ⟨nb, HNb⟩ : ∃ nb, Hid (b.length = nb) := ⟨_, rfl⟩
      rw [HNb.out] at hlen HBr ⊢
      obtain ⟨R, HR⟩ : ∃ R, Hid (cacheBoth a b = R) := ⟨_, rfl⟩
      rw [HR.out]
      have h8 : nb ≤ 8 := by rw [← HNb.out]; exact HGb.out.len
      go_enter Tryz.func143, Tryz.ntmps143
      go_wp2_with fail
      refine (cacheCheck_ok HA.out HN.out).mono ?_
      rintro e w1 ⟨rfl, hb⟩
      have B1 : Hid (Below w.heap.size w w1) := hb
      clear hb
      go_wp2_with fail
      refine (cacheCheck_ok (HBr.out.below B1.out) HM.out).mono ?_
      rintro e w2 ⟨rfl, hb⟩
      have B2 : Hid (Below w.heap.size w w2) := B1.out.trans (hb.mono B1.out.size)
      clear hb
      go_wp2_with fail
      refine (clone_c va a _ (HA.out.below B2.out) HG.out.len).mono ?_
      rintro e w3 ⟨v3, rfl, ho, hb⟩
      have B3 : Hid (Below w.heap.size w w3) := B2.out.trans (hb.mono B2.out.size)
      have HO3 : Hid (w3.ownsRow w.heap.size 46 5 v3 a.length (rowC a)) := ownsRow_base ho B2.out.size
      clear hb ho
      go_wp2_with fail
      go_loopw [8, 26] (fun s8 s26 wr => ∃ (j : Nat) (cur : List En) (v8 : Value), s8 = v8 ∧ j ≤ nb ∧ s26 = .int .i64 j ∧ Hid (wr.ownsRow w.heap.size 46 5 v8 cur.length (rowC cur)) ∧ Hid (GoodL cur) ∧ Hid (R = allE cur (b.drop j)) ∧ Hid (Below w.heap.size w wr)) (fun _ i _ => nb - (intOf i).toNat)
      case atStart => exact ⟨0, a, v3, rfl, Nat.zero_le _, rfl, HO3, HG, HR.out.symm.trans HC.out, B3⟩
      case round =>
        obtain ⟨j, cur, s8, hs8, hj, rfl, HO, HGc, HE, HB⟩ := hrel
        have hs8' := hs8.symm
        clear hs8
        subst hs8'
        by_cases hlt : j < nb
        · have hjl : j < b.length := by rw [HNb.out]; exact hlt
          obtain ⟨bb, o, rfl, hbw, hat⟩ := HRow.out (fun h => by simp [h] at hjl)
          have HAt : Hid (EnAt wr bb (o + j * 5) b[j]) := (hat j hjl).of_block (HB.out.block bb hbw)
          clear hat
          have HBad : Hid (b[j].bad = 0) := HGb.out.all _ (List.getElem_mem _)
          have HStep : Hid (R = if (putE cur b[j]).2.2 ≠ 0 then ([], (putE cur b[j]).2.2) else allE (putE cur b[j]).1 (b.drop (j + 1))) := HE.out.trans (allE_step hjl)
          obtain ⟨x, HX⟩ : ∃ x, Hid (b[j] = x) := ⟨b[j], show b[j] = b[j] from rfl⟩
          rw [HX.out] at HAt HBad HStep
          obtain ⟨⟨R1, R2, R3⟩, HPt⟩ : ∃ P, Hid (putE cur x = P) := ⟨_, rfl⟩
          rw [HPt.out] at HStep
          dsimp only at HStep
          obtain ⟨k, vv, aa, g, t⟩ := x
          obtain ⟨c0, c1, c2, c3, c4⟩ := HAt.out
          dsimp only at c0 c1 c2 c3 c4
          have hlti : (j : Int) < (nb : Int) := by omega
          have hbr : bb < wr.heap.size := by have := HB.out.size; omega
          have B4 : Hid (Below w.heap.size w (wr.alloc (.cells #[.int .i64 k, .int .i64 vv, .int .i64 aa, .bool g, .string t] 46))) := HB.out.alloc HB.out.size _
          have HO4 : Hid ((wr.alloc (.cells #[.int .i64 k, .int .i64 vv, .int .i64 aa, .bool g, .string t] 46)).ownsRow w.heap.size 46 5 s8 cur.length (rowC cur)) := ownsRow_below HO.out ((Below.refl _ wr).alloc (Nat.le_refl _) _)
          go_wp2_with fail
          refine (put_o HPt.out w.heap.size s8 _ HO4.out (by have := B4.out.size; omega) HGc.out).mono ?_
          rintro e w5 ⟨v5, rfl, ho5, hg5⟩
          have HO5 : Hid (w5.ownsRow w.heap.size 46 5 v5 R1.length (rowC R1)) := ho5
          have B5 : Hid (Below w.heap.size w w5) := below_grown B4.out (Nat.le_refl _) hg5 (fun c hc => ownsRow_from HO.out c hc)
          clear ho5 hg5 c0 c1 c2 c3 c4
          by_cases h3 : R3 = 0
          · subst h3
            rw [if_neg (by simp)] at HStep
            have HG5 : Hid (GoodL R1) := by
              have := putE_good (e := ⟨k, vv, aa, g, t⟩) HGc.out HBad.out (by rw [HPt.out])
              rw [HPt.out] at this
              exact this
            rw [eV, if_pos rfl]
            go_wp2_with fail
            go_roundw
            case rel => exact ⟨j + 1, R1, v5, rfl, by omega, by go_num, HO5, HG5, HStep, B5⟩
            case measure => simp [intOf]; omega
          · rw [if_pos h3] at HStep
            rw [eV, if_neg h3]
            go_wp2_with fail
            go_ret2
            refine ⟨.slice none 0 0, ?_, ?_, B5.out⟩
            · rw [HStep.out]
              show _ = Ending.returned (.tuple #[.slice none 0 0, eV R3])
              rw [eV, if_neg h3]
              rfl
            · rw [HStep.out]
              exact World.ownsRow_nil _ _ _ _
        · obtain rfl : j = nb := by omega
          have HR0 : Hid (R = (cur, 0)) := by
            show R = _
            rw [HE.out, List.drop_eq_nil_of_le (by rw [HNb.out]; exact Nat.le_refl _)]
            rfl
          go_wp2_with fail
          go_ret2
          refine ⟨s8, ?_, ?_, HB.out⟩
          · rw [HR0.out]
            rfl
          · rw [HR0.out]
            exact HO.out
    · obtain ⟨n, HM⟩ : ∃ n, Hid (badL b = n) := ⟨_, rfl⟩
      have HC : Hid (cacheBoth a b = ([], n)) := by
        show cacheBoth a b = _
        rw [cacheBoth, if_neg (by simpa using HN.out), if_pos hm, HM.out]
      rw [HM.out] at hm
      rw [HC.out]
      clear hra hrb
      go_enter Tryz.func143, Tryz.ntmps143
      go_wp2_with fail
      refine (cacheCheck_ok HA.out HN.out).mono ?_
      rintro e w1 ⟨rfl, hb⟩
      have B1 : Hid (Below w.heap.size w w1) := hb
      clear hb
      go_wp2_with fail
      refine (cacheCheck_err (HBr.out.below B1.out) HM.out hm).mono ?_
      rintro e w2 ⟨rfl, hb⟩
      have B2 : Hid (Below w.heap.size w w2) := B1.out.trans (hb.mono B1.out.size)
      clear hb
      go_wp2_with fail
      go_ret2
      refine ⟨.slice none 0 0, ?_, World.ownsRow_nil _ _ _ _, B2.out⟩
      show _ = Ending.returned (.tuple #[.slice none 0 0, eV n])
      rw [eV, if_neg hm]
      rfl
  · obtain ⟨n, HM⟩ : ∃ n, Hid (badL a = n) := ⟨_, rfl⟩
    have HC : Hid (cacheBoth a b = ([], n)) := by
      show cacheBoth a b = _
      rw [cacheBoth, if_pos hn, HM.out]
    rw [HM.out] at hn
    rw [HC.out]
    clear hra hrb
    go_enter Tryz.func143, Tryz.ntmps143
    go_wp2_with fail
    refine (cacheCheck_err HA.out HM.out hn).mono ?_
    rintro e w2 ⟨rfl, hb⟩
    have B2 : Hid (Below w.heap.size w w2) := hb
    clear hb
    go_wp2_with fail
    go_ret2
    refine ⟨.slice none 0 0, ?_, World.ownsRow_nil _ _ _ _, B2.out⟩
    show _ = Ending.returned (.tuple #[.slice none 0 0, eV n])
    rw [eV, if_neg hn]
    rfl
theorem both_o {a b R1 : List En} {R2 : Int} (h : cacheBoth a b = (R1, R2)) (va vb : Value) (w : World) (hra : RowIs w va a) (hrb : RowIs w vb b) :
    Calls Tryz.prog 143 #[va, vb] w fun e w' => ∃ v', e = .returned (.tuple #[v', eV R2]) ∧ w'.ownsRow w.heap.size 46 5 v' R1.length (rowC R1) ∧ Below w.heap.size w w' := by
  have c := both_c va vb a b w hra hrb
  rw [h] at c
  exact c
end Go.Proofs.YtpcnfoaoajfhlaaGreatDoor
