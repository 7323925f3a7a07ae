/-
  The document's Node and Part (mereref1) by their contracts.
  meresame.Ints and mereref1.In by their contracts.
-/
import Derived.Test.YtpcnfoaoajfhlaaGreatDoorMqbd
import Derived.Test.YtpcnfoaoajfhlaaGreatDoorMqag
import Derived.Test.YtpcnfoaoajfhlaaGreatDoorMqbe
import Derived.Test.YtpcnfoaoajfhlaaGreatDoorMqal
import Derived.BigQuiet
namespace Go.Proofs.YtpcnfoaoajfhlaaGreatDoor
set_option linter.unusedVariables false
set_option linter.unusedSimpArgs false
set_option linter.unusedVariables false
set_option linter.unusedSimpArgs false
open Go.RowKit

theorem found_right {l : List En} {K : Nat} {x : En} (hb : badL l = 0) (hg : getE l (K : Int) = some x) : x.bad = 0 := by
  have G := badL_good hb
  obtain ⟨hj, hx, hk⟩ := getE_some G.rise hg
  exact G.all x (by rw [← hx]; exact List.getElem_mem _)

set_option maxHeartbeats 4000000 in
theorem rNode_end (l : List En) (v : Value) (i : Nat) (h8 : 8 ≤ i) (h16 : i < 16) (hb : badL l = 0) (w : World) (hr : RowIs w v l) :
    Calls Tryz.prog 140 #[v, .int .i64 (i : Nat)] w fun e w' => e = .returned (.int .i64 (trN (leafN l) i : Nat)) ∧ Below w.heap.size w w' := by
  have HR : Hid (RowIs w v l) := hr
  rw [trN_end _ h8]
  obtain ⟨K, hK⟩ : ∃ K, i - 8 = K := ⟨_, rfl⟩
  rw [hK]
  have i1 : (8 : Int) ≤ (i : Int) := by omega
  have i2 : (i : Int) - 8 = (K : Int) := by omega
  clear hK hr
  cases hgt : getE l (K : Int) with
  | none =>
    rw [leafN_none hgt]
    have HGt : Hid (getE l (K : Int) = none) := hgt
    clear hgt
    go_enter Tryz.func140, Tryz.ntmps140
    go_wp2_with fail
    refine (rGet_none HGt.out v _ HR.out).mono ?_
    rintro e w1 ⟨rfl, hb⟩
    have B1 : Hid (Below w.heap.size w w1) := hb
    clear hb
    go_wp2_with fail
    go_ret
    exact ⟨rfl, B1.out.alloc B1.out.size _⟩
  | some x =>
    rw [leafN_some hgt]
    have HGt : Hid (getE l (K : Int) = some x) := hgt
    have hxb := found_right hb hgt
    obtain ⟨N, HN⟩ : ∃ N, Hid (numE x = N) := ⟨_, rfl⟩
    rw [HN.out]
    obtain ⟨x0, x1, x2, x3, x4⟩ := x
    obtain ⟨K', V, rfl, rfl, hK, hV, ht⟩ := good_nats (show bad x0 x1 x2 x3 x4 = 0 from hxb)
    have HE : Hid (∀ w, Calls Tryz.prog 180 #[.agg #[.int .i64 (K' : Nat), .int .i64 (V : Nat), .int .i64 x2, .bool x3, .string x4]] w fun e w' => e = .returned (.int .i64 (N : Nat)) ∧ Below w.heap.size w w') := by
      rw [← HN.out]
      exact fun w => rOne_c K' V x2 x3 x4 (by omega) hV ht w
    clear hgt hxb HN hb
    go_enter Tryz.func140, Tryz.ntmps140
    go_wp2_with fail
    refine (rGet_some HGt.out v _ HR.out).mono ?_
    rintro e w1 ⟨rfl, hb⟩
    have B1 : Hid (Below w.heap.size w (w1.alloc (.cells #[.int .i64 (K' : Nat), .int .i64 (V : Nat), .int .i64 x2, .bool x3, .string x4] 46))) := hb.alloc hb.size _
    clear hb
    go_wp2_with fail
    refine (HE.out _).mono ?_
    rintro e w2 ⟨rfl, hb⟩
    have B2 : Hid (Below w.heap.size w w2) := B1.out.trans (hb.mono B1.out.size)
    clear hb B1
    go_wp2_with fail
    go_ret
    exact ⟨rfl, B2.out⟩

set_option maxHeartbeats 4000000 in
theorem rNode_c (l : List En) (v : Value) (hb : badL l = 0) : ∀ d i, dep i = d → 1 ≤ i → i < 16 → ∀ w, RowIs w v l →
    Calls Tryz.prog 140 #[v, .int .i64 (i : Nat)] w fun e w' => e = .returned (.int .i64 (trN (leafN l) i : Nat)) ∧ Below w.heap.size w w' := by
  intro d
  induction d with
  | zero =>
    intro i hd h1 h16 w hr
    have h8 : 8 ≤ i := by
      unfold dep at hd
      split at hd
      · omega
      · split at hd
        · omega
        · split at hd <;> omega
    exact rNode_end l v i h8 h16 hb w hr
  | succ d ih =>
    intro i hd h1 h16 w hr
    have h8 : i < 8 := by
      unfold dep at hd
      split at hd
      · omega
      · split at hd
        · omega
        · split at hd <;> omega
    obtain ⟨d1, d2⟩ := dep_two h1 h8
    have hA := trN_lt (leafN l) (leafN_lt l) (2 * i)
    have hB := trN_lt (leafN l) (leafN_lt l) (2 * i + 1)
    have cA := ih (2 * i) (by omega) (by omega) (by omega)
    have cB := ih (2 * i + 1) (by omega) (by omega) (by omega)
    rw [trN_two _ h1 h8]
    clear ih
    obtain ⟨A, hA'⟩ : ∃ A, trN (leafN l) (2 * i) = A := ⟨_, rfl⟩
    obtain ⟨B, hB'⟩ : ∃ B, trN (leafN l) (2 * i + 1) = B := ⟨_, rfl⟩
    rw [hA'] at hA cA ⊢
    rw [hB'] at hB cB ⊢
    obtain ⟨P1, hP1⟩ : ∃ P : Nat, 2 * i = P := ⟨_, rfl⟩
    obtain ⟨P2, hP2⟩ : ∃ P : Nat, P1 + 1 = P := ⟨_, rfl⟩
    have j1 : (2 : Int) * (i : Int) = (P1 : Int) := by omega
    have j2 : (P1 : Int) + 1 = (P2 : Int) := by omega
    have j3 : IntKind.i64.wrap (P1 : Int) = (P1 : Int) := wrap_small _ (by omega) (by omega)
    have j4 : IntKind.i64.wrap (P2 : Int) = (P2 : Int) := wrap_small _ (by omega) (by omega)
    have i3 : ¬ (8 : Int) ≤ (i : Int) := by omega
    rw [hP1, hP2] at cB
    rw [hP1] at cA
    have HR : Hid (RowIs w v l) := hr
    have HCa : Hid (∀ w, RowIs w v l → Calls Tryz.prog 140 #[v, .int .i64 (P1 : Nat)] w fun e w' => e = .returned (.int .i64 (A : Nat)) ∧ Below w.heap.size w w') := cA
    have HCb : Hid (∀ w, RowIs w v l → Calls Tryz.prog 140 #[v, .int .i64 (P2 : Nat)] w fun e w' => e = .returned (.int .i64 (B : Nat)) ∧ Below w.heap.size w w') := cB
    obtain ⟨R, hR⟩ : ∃ R, pairH A B = R := ⟨_, rfl⟩
    have HP : Hid (∀ w, Calls Tryz.prog 133 #[.int .i64 (A : Nat), .int .i64 (B : Nat)] w fun e w' => e = .returned (.int .i64 (R : Nat)) ∧ Below w.heap.size w w') := by
      rw [← hR]
      exact fun w => rPair_c A B (by omega) (by omega) w
    rw [hR]
    clear hA hB hA' hB' hP1 hP2 cA cB hR hr d1 d2 hd hb
    go_enter Tryz.func140, Tryz.ntmps140
    go_wp2_with fail
    refine (HCa.out _ HR.out).mono ?_
    rintro e w1 ⟨rfl, hb⟩
    have B1 : Hid (Below w.heap.size w w1) := hb
    clear hb HCa
    go_wp2_with fail
    refine (HCb.out _ (HR.out.below B1.out)).mono ?_
    rintro e w2 ⟨rfl, hb⟩
    have B2 : Hid (Below w.heap.size w w2) := B1.out.trans (hb.mono B1.out.size)
    clear hb HCb B1
    go_wp2_with fail
    refine (HP.out _).mono ?_
    rintro e w3 ⟨rfl, hb⟩
    have B3 : Hid (Below w.heap.size w w3) := B2.out.trans (hb.mono B2.out.size)
    clear hb HP B2
    go_wp2_with fail
    go_ret
    exact ⟨rfl, B3.out⟩

/-- Part by what it asks: alike, at an end, above it -/
theorem rPart_alike (va vb : Value) (i x : Nat) (w0 : World)
    (ca : ∀ w, Below w0.heap.size w0 w → Calls Tryz.prog 140 #[va, .int .i64 (i : Nat)] w fun e w' => e = .returned (.int .i64 (x : Nat)) ∧ Below w.heap.size w w')
    (cb : ∀ w, Below w0.heap.size w0 w → Calls Tryz.prog 140 #[vb, .int .i64 (i : Nat)] w fun e w' => e = .returned (.int .i64 (x : Nat)) ∧ Below w.heap.size w w') (w : World) (hw : Below w0.heap.size w0 w) :
    Calls Tryz.prog 98 #[va, vb, .int .i64 (i : Nat)] w fun e w' => e = .returned (.tuple #[.slice none 0 0, .int .i64 1]) ∧ Below w.heap.size w w' := by
  have HA : Hid (∀ w, Below w0.heap.size w0 w → Calls Tryz.prog 140 #[va, .int .i64 (i : Nat)] w fun e w' => e = .returned (.int .i64 (x : Nat)) ∧ Below w.heap.size w w') := ca
  have HB : Hid (∀ w, Below w0.heap.size w0 w → Calls Tryz.prog 140 #[vb, .int .i64 (i : Nat)] w fun e w' => e = .returned (.int .i64 (x : Nat)) ∧ Below w.heap.size w w') := cb
  have HW := (show Hid (Below _ _ _) from hw)
  clear ca cb hw
  go_enter Tryz.func98, Tryz.ntmps98
  go_wp2_with fail
  refine (HA.out _ HW.out).mono ?_
  rintro e w1 ⟨rfl, hb⟩
  have B1 : Hid (Below w.heap.size w w1) := hb
  clear hb HA
  go_wp2_with fail
  refine (HB.out _ (HW.out.trans (B1.out.mono HW.out.size))).mono ?_
  rintro e w2 ⟨rfl, hb⟩
  have B2 : Hid (Below w.heap.size w w2) := B1.out.trans (hb.mono B1.out.size)
  clear hb HB B1
  go_wp2_with fail
  go_ret2
  exact ⟨rfl, B2.out⟩
theorem rPart_end (va vb : Value) (i x y : Nat) (h8 : 8 ≤ i) (h16 : i < 16) (hxy : x ≠ y) (w0 : World)
    (ca : ∀ w, Below w0.heap.size w0 w → Calls Tryz.prog 140 #[va, .int .i64 (i : Nat)] w fun e w' => e = .returned (.int .i64 (x : Nat)) ∧ Below w.heap.size w w')
    (cb : ∀ w, Below w0.heap.size w0 w → Calls Tryz.prog 140 #[vb, .int .i64 (i : Nat)] w fun e w' => e = .returned (.int .i64 (y : Nat)) ∧ Below w.heap.size w w') (w : World) (hw : Below w0.heap.size w0 w) :
    Calls Tryz.prog 98 #[va, vb, .int .i64 (i : Nat)] w fun e w' => ∃ v', e = .returned (.tuple #[v', .int .i64 1]) ∧ OwnI w.heap.size w' v' [((i - 8 : Nat) : Int)] ∧ Below w.heap.size w w' := by
  have HA : Hid (∀ w, Below w0.heap.size w0 w → Calls Tryz.prog 140 #[va, .int .i64 (i : Nat)] w fun e w' => e = .returned (.int .i64 (x : Nat)) ∧ Below w.heap.size w w') := ca
  have HB : Hid (∀ w, Below w0.heap.size w0 w → Calls Tryz.prog 140 #[vb, .int .i64 (i : Nat)] w fun e w' => e = .returned (.int .i64 (y : Nat)) ∧ Below w.heap.size w w') := cb
  have HW := (show Hid (Below _ _ _) from hw)
  have hx : ¬ (x : Int) = (y : Int) := by omega
  obtain ⟨k, hk⟩ : ∃ k, i - 8 = k := ⟨_, rfl⟩
  have i3 : (8 : Int) ≤ (i : Int) := by omega
  have i4 : (i : Int) - 8 = (k : Int) := by omega
  rw [hk]
  clear ca cb hw hxy hk
  go_enter Tryz.func98, Tryz.ntmps98
  go_wp2_with fail
  refine (HA.out _ HW.out).mono ?_
  rintro e w1 ⟨rfl, hb⟩
  have B1 : Hid (Below w.heap.size w w1) := hb
  clear hb HA
  go_wp2_with fail
  refine (HB.out _ (HW.out.trans (B1.out.mono HW.out.size))).mono ?_
  rintro e w2 ⟨rfl, hb⟩
  have B2 : Hid (Below w.heap.size w w2) := B1.out.trans (hb.mono B1.out.size)
  clear hb HB B1
  go_wp2_with fail
  go_ret2
  refine ⟨_, rfl, OwnI.one B2.out.size ?_, B2.out.alloc B2.out.size _⟩
  exact heap_alloc_new w2 _
set_option maxHeartbeats 4000000 in
theorem rPart_two (va vb : Value) (i x y : Nat) (l0 : 1 ≤ i) (l8 : i < 8) (hxy : x ≠ y) (w0 : World)
    (ca : ∀ w, Below w0.heap.size w0 w → Calls Tryz.prog 140 #[va, .int .i64 (i : Nat)] w fun e w' => e = .returned (.int .i64 (x : Nat)) ∧ Below w.heap.size w w')
    (cb : ∀ w, Below w0.heap.size w0 w → Calls Tryz.prog 140 #[vb, .int .i64 (i : Nat)] w fun e w' => e = .returned (.int .i64 (y : Nat)) ∧ Below w.heap.size w w')
    (p q : List Int) (n m : Nat) (hp : p.length ≤ 8) (hq : q.length ≤ 8) (hn : n ≤ 15) (hm : m ≤ 15)
    (cp : ∀ w, Below w0.heap.size w0 w → Calls Tryz.prog 98 #[va, vb, .int .i64 (2 * i : Nat)] w fun e w' => ∃ v', e = .returned (.tuple #[v', .int .i64 (n : Nat)]) ∧ OwnI w.heap.size w' v' p ∧ Below w.heap.size w w')
    (cq : ∀ w, Below w0.heap.size w0 w → Calls Tryz.prog 98 #[va, vb, .int .i64 (2 * i + 1 : Nat)] w fun e w' => ∃ v', e = .returned (.tuple #[v', .int .i64 (m : Nat)]) ∧ OwnI w.heap.size w' v' q ∧ Below w.heap.size w w') (w : World) (hw : Below w0.heap.size w0 w) :
    Calls Tryz.prog 98 #[va, vb, .int .i64 (i : Nat)] w fun e w' => ∃ v', e = .returned (.tuple #[v', .int .i64 (n + m + 1 : Nat)]) ∧ OwnI w.heap.size w' v' (p ++ q) ∧ Below w.heap.size w w' := by
  have HA : Hid (∀ w, Below w0.heap.size w0 w → Calls Tryz.prog 140 #[va, .int .i64 (i : Nat)] w fun e w' => e = .returned (.int .i64 (x : Nat)) ∧ Below w.heap.size w w') := ca
  have HB : Hid (∀ w, Below w0.heap.size w0 w → Calls Tryz.prog 140 #[vb, .int .i64 (i : Nat)] w fun e w' => e = .returned (.int .i64 (y : Nat)) ∧ Below w.heap.size w w') := cb
  have HW := (show Hid (Below _ _ _) from hw)
  have hx : ¬ (x : Int) = (y : Int) := by omega
  have i3 : ¬ (8 : Int) ≤ (i : Int) := by omega
  obtain ⟨P1, hP1⟩ : ∃ P : Nat, 2 * i = P := ⟨_, rfl⟩
  obtain ⟨P2, hP2⟩ : ∃ P : Nat, P1 + 1 = P := ⟨_, rfl⟩
  have j1 : (2 : Int) * (i : Int) = (P1 : Int) := by omega
  have j2 : (P1 : Int) + 1 = (P2 : Int) := by omega
  have j3 : IntKind.i64.wrap (P1 : Int) = (P1 : Int) := wrap_small _ (by omega) (by omega)
  have j4 : IntKind.i64.wrap (P2 : Int) = (P2 : Int) := wrap_small _ (by omega) (by omega)
  rw [hP1, hP2] at cq
  rw [hP1] at cp
  have HCp : Hid (∀ w, Below w0.heap.size w0 w → Calls Tryz.prog 98 #[va, vb, .int .i64 (P1 : Nat)] w fun e w' => ∃ v', e = .returned (.tuple #[v', .int .i64 (n : Nat)]) ∧ OwnI w.heap.size w' v' p ∧ Below w.heap.size w w') := cp
  have HCq : Hid (∀ w, Below w0.heap.size w0 w → Calls Tryz.prog 98 #[va, vb, .int .i64 (P2 : Nat)] w fun e w' => ∃ v', e = .returned (.tuple #[v', .int .i64 (m : Nat)]) ∧ OwnI w.heap.size w' v' q ∧ Below w.heap.size w w') := cq
  obtain ⟨N, hN⟩ : ∃ N, n + m + 1 = N := ⟨_, rfl⟩
  have j5 : (n : Int) + (m : Int) + 1 = (N : Int) := by omega
  rw [hN]
  clear ca cb hw hxy cp cq hP1 hP2 hN
  go_enter Tryz.func98, Tryz.ntmps98
  go_wp2_with fail
  refine (HA.out _ HW.out).mono ?_
  rintro e w1 ⟨rfl, hb⟩
  have B1 : Hid (Below w.heap.size w w1) := hb
  clear hb HA
  go_wp2_with fail
  refine (HB.out _ (HW.out.trans (B1.out.mono HW.out.size))).mono ?_
  rintro e w2 ⟨rfl, hb⟩
  have B2 : Hid (Below w.heap.size w w2) := B1.out.trans (hb.mono B1.out.size)
  clear hb HB B1
  go_wp2_with fail
  refine (HCp.out _ (HW.out.trans (B2.out.mono HW.out.size))).mono ?_
  rintro e w3 ⟨v1, rfl, ho1, hb⟩
  have B3 : Hid (Below w.heap.size w w3) := B2.out.trans (hb.mono B2.out.size)
  have O3 : Hid (OwnI w.heap.size w3 v1 p) := ho1.base B2.out.size
  clear hb HCp B2 ho1
  go_wp2_with fail
  refine (HCq.out _ (HW.out.trans (B3.out.mono HW.out.size))).mono ?_
  rintro e w4 ⟨v2, rfl, ho2, hb⟩
  have B4 : Hid (Below w.heap.size w w4) := B3.out.trans (hb.mono B3.out.size)
  have O4 : Hid (OwnI w.heap.size w4 v1 p) := O3.out.below hb
  have Q4 : Hid (OwnI w.heap.size w4 v2 q) := ho2.base B3.out.size
  clear hb HCq B3 ho2 O3
  have HL1 : Hid (([] : List Int).length + p.length ≤ 100) := by show _ ≤ _; simp; omega
  have HL2 : Hid (p.length + q.length ≤ 100) := by show _ ≤ _; omega
  have HS4 : Hid (w.heap.size ≤ w4.heap.size) := B4.out.size
  have HN4 : Hid (OwnI w.heap.size w4 (.slice none 0 0) []) := OwnI.nil _ _
  go_wp2_with (at_builtin; refine wp_appRow _ rfl _ _ rfl w.heap.size _ [] rfl HN4.out w.heap.size _ p rfl O4.out HL1.out HS4.out ?_)
  intro v3 w5 O5 G5
  have HO5 : Hid (OwnI w.heap.size w5 v3 p) := O5
  have B5 : Hid (Below w.heap.size w w5) := below_grownF B4.out (Nat.le_refl _) G5.out (fun c hc => by cases hc)
  have Q5 : Hid (OwnI w.heap.size w5 v2 q) := Q4.out.blocks fun c _ hc => G5.out.block c hc (by simp [Value.ownBlock])
  have HS5 : Hid (w.heap.size ≤ w5.heap.size) := B5.out.size
  clear O5 G5 B4 O4 Q4 HS4 HN4 HL1
  go_wp2_with (at_builtin; refine wp_appRow _ rfl _ _ rfl w.heap.size _ p rfl HO5.out w.heap.size _ q rfl Q5.out HL2.out HS5.out ?_)
  intro v4 w6 O6 G6
  have HO6 := (show Hid (OwnI _ _ _ _) from O6)
  clear O6
  go_wp2_with fail
  go_ret2
  exact ⟨_, rfl, HO6.out, below_grownF B5.out (Nat.le_refl _) G6.out (fun c hc => HO5.out.from c hc)⟩

theorem rPart_c (a b : List En) (va vb : Value) (ha : badL a = 0) (hb : badL b = 0) (w0 : World) (hra : RowIs w0 va a) (hrb : RowIs w0 vb b) : ∀ d i, dep i = d → 1 ≤ i → i < 16 → ∀ w, Below w0.heap.size w0 w →
    Calls Tryz.prog 98 #[va, vb, .int .i64 (i : Nat)] w fun e w' => ∃ v', e = .returned (.tuple #[v', .int .i64 (partN (leafN a) (leafN b) i : Nat)]) ∧ OwnI w.heap.size w' v' (partK (leafN a) (leafN b) i) ∧ Below w.heap.size w w' := by
  intro d
  induction d with
  | zero =>
    intro i hd h1 h16 w hw
    have h8 : 8 ≤ i := by
      unfold dep at hd
      split at hd
      · omega
      · split at hd
        · omega
        · split at hd <;> omega
    by_cases hx : trN (leafN a) i = trN (leafN b) i
    · obtain ⟨e1, e2⟩ := part_alike hx
      rw [e1, e2]
      refine (rPart_alike va vb i _ w0 (fun w hw => rNode_c a va ha 0 i hd h1 h16 w (hra.below hw)) (fun w hw => by rw [hx]; exact rNode_c b vb hb 0 i hd h1 h16 w (hrb.below hw)) w hw).mono ?_
      rintro e w' ⟨rfl, hb⟩
      exact ⟨_, rfl, OwnI.nil _ _, hb⟩
    · obtain ⟨e1, e2⟩ := part_end h8 hx
      rw [e1, e2]
      exact rPart_end va vb i _ _ h8 h16 hx w0 (fun w hw => rNode_c a va ha 0 i hd h1 h16 w (hra.below hw)) (fun w hw => rNode_c b vb hb 0 i hd h1 h16 w (hrb.below hw)) w hw
  | succ d ih =>
    intro i hd h1 h16 w hw
    have h8 : i < 8 := by
      unfold dep at hd
      split at hd
      · omega
      · split at hd
        · omega
        · split at hd <;> omega
    by_cases hx : trN (leafN a) i = trN (leafN b) i
    · obtain ⟨e1, e2⟩ := part_alike hx
      rw [e1, e2]
      refine (rPart_alike va vb i _ w0 (fun w hw => rNode_c a va ha (d + 1) i hd h1 h16 w (hra.below hw)) (fun w hw => by rw [hx]; exact rNode_c b vb hb (d + 1) i hd h1 h16 w (hrb.below hw)) w hw).mono ?_
      rintro e w' ⟨rfl, hb⟩
      exact ⟨_, rfl, OwnI.nil _ _, hb⟩
    · obtain ⟨e1, e2⟩ := part_two h1 h8 hx
      obtain ⟨d1, d2⟩ := dep_two h1 h8
      rw [e1, e2]
      exact rPart_two va vb i _ _ h1 h8 hx w0 (fun w hw => rNode_c a va ha (d + 1) i hd h1 h16 w (hra.below hw)) (fun w hw => rNode_c b vb hb (d + 1) i hd h1 h16 w (hrb.below hw)) _ _ _ _ (partK_len _ _ _) (partK_len _ _ _) (partN_len _ _ _) (partN_len _ _ _) (ih (2 * i) (by omega) (by omega) (by omega)) (ih (2 * i + 1) (by omega) (by omega) (by omega)) w hw
end Go.Proofs.YtpcnfoaoajfhlaaGreatDoor

namespace Go.Proofs.YtpcnfoaoajfhlaaGreatDoor
set_option linter.unusedVariables false
set_option linter.unusedSimpArgs false
open Go.RowKit

theorem eqI_step {a b : List Int} {j : Nat} (ha : j < a.length) (hb : j < b.length) : (a.drop j == b.drop j) = ((a[j] == b[j]) && (a.drop (j + 1) == b.drop (j + 1))) := by
  rw [List.drop_eq_getElem_cons ha, List.drop_eq_getElem_cons hb]
  rfl
theorem eqI_len {a b : List Int} (h : a.length ≠ b.length) : (a == b) = false := by
  rw [beq_eq_false_iff_ne]
  intro h'
  exact h (by rw [h'])


theorem hasI_hit {a : List Int} {x : Int} {j : Nat} (h : j < a.length) (hx : a[j] = x) : (a.drop j).contains x = true := by
  rw [List.drop_eq_getElem_cons h, List.contains_cons, hx]
  simp
theorem hasI_miss {a : List Int} {x : Int} {j : Nat} (h : j < a.length) (hx : ¬ a[j] = x) : (a.drop j).contains x = (a.drop (j + 1)).contains x := by
  rw [List.drop_eq_getElem_cons h, List.contains_cons]
  have : (x == a[j]) = false := by simp; exact fun h => hx h.symm
  rw [this, Bool.false_or]

set_option maxHeartbeats 4000000 in
theorem in_c (va : Value) (a : List Int) (x : Int) (w : World) (hra : IntsIs w va a) :
    Calls Tryz.prog 33 #[va, .int .i64 x] w fun e w' => e = .returned (.bool (a.contains x)) ∧ Below w.heap.size w w' := by
  obtain ⟨hla, pa, capa, rfl, hrowa⟩ := hra
  have HRA : Hid (a ≠ [] → ∃ bb o, pa = some ⟨bb, o, none⟩ ∧ bb < w.heap.size ∧ ∀ j (h : j < a.length), w.cell? ⟨bb, o + j, none⟩ = some (.int .i64 a[j])) := hrowa
  clear hrowa
  obtain ⟨n, HN⟩ : ∃ n, Hid (a.length = n) := ⟨_, rfl⟩
  rw [HN.out] at hla ⊢
  have hn63 : n ≤ 9223372036854775807 := hla
  obtain ⟨R, HR⟩ : ∃ R, Hid (a.contains x = R) := ⟨_, rfl⟩
  rw [HR.out]
  go_enter Tryz.func33, Tryz.ntmps33
  go_wp2_with fail
  go_loopw [5] (fun i wr => ∃ j : Nat, j ≤ n ∧ i = .int .i64 j ∧ Hid (R = (a.drop j).contains x) ∧ Hid (Below w.heap.size w wr)) (fun i _ => n - (intOf i).toNat)
  case atStart => exact ⟨0, Nat.zero_le _, rfl, by rw [List.drop_zero]; exact HR.out.symm, Below.refl _ _⟩
  case round =>
    obtain ⟨j, hj, rfl, HE, HB⟩ := hrel
    by_cases hlt : j < n
    · have hja : j < a.length := by rw [HN.out]; exact hlt
      obtain ⟨ba, oa, rfl, hbwa, hata⟩ := HRA.out (fun h => by simp [h] at hja)
      have c0 : wr.cell? ⟨ba, oa + j, none⟩ = some (.int .i64 a[j]) := (World.cell?_of_block (a := ⟨ba, oa + j, none⟩) (HB.out.block ba hbwa)).trans (hata j hja)
      clear hata
      have HHit : Hid (a[j] = x → R = true) := fun h => HE.out.trans (hasI_hit hja h)
      have HMiss : Hid (¬ a[j] = x → R = (a.drop (j + 1)).contains x) := fun h => HE.out.trans (hasI_miss hja h)
      obtain ⟨y, HY⟩ : ∃ y, Hid (a[j] = y) := ⟨a[j], show a[j] = a[j] from rfl⟩
      rw [HY.out] at c0 HHit HMiss
      have hlti : (j : Int) < (n : Int) := by omega
      by_cases hs : y = x
      · have HRt : Hid (R = true) := HHit.out hs
        go_wp2_with fail
        go_ret
        exact ⟨by rw [HRt.out]; rfl, by have hb := HB.out; go_grown⟩
      · have HRt : Hid (R = (a.drop (j + 1)).contains x) := HMiss.out hs
        go_wp2_with fail
        go_roundw
        case rel => exact ⟨j + 1, by omega, by go_num, HRt, HB⟩
        case measure => simp [intOf]; omega
    · obtain rfl : j = n := by omega
      have HR0 : Hid (R = false) := by
        show R = false
        rw [HE.out, List.drop_eq_nil_of_le (by rw [HN.out]; exact Nat.le_refl _)]
        rfl
      go_wp2_with fail
      go_ret
      exact ⟨by rw [HR0.out]; rfl, HB.out⟩
end Go.Proofs.YtpcnfoaoajfhlaaGreatDoor
