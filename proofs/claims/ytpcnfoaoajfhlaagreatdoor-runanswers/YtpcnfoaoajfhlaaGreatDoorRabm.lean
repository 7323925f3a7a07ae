/-
  The document's Node and Part (mereref1) by their contracts.
  The document's Some and Swap.
-/
import Derived.Test.YtpcnfoaoajfhlaaGreatDoorRaaq
import Derived.Test.YtpcnfoaoajfhlaaGreatDoorRaau
import Derived.Test.YtpcnfoaoajfhlaaGreatDoorRabl
import Derived.Test.YtpcnfoaoajfhlaaGreatDoorRaao
import Derived.Test.YtpcnfoaoajfhlaaGreatDoorRabj
import Derived.Test.YtpcnfoaoajfhlaaGreatDoorRaas
namespace Go.Proofs.YtpcnfoaoajfhlaaGreatDoor
set_option linter.unusedVariables false
set_option linter.unusedSimpArgs false
set_option linter.unusedVariables false
set_option linter.unusedSimpArgs false
open Go.RowKit

theorem found_right {l : List En} {K : Nat} {x : En} (hb : badL l = 0) (hg : getE l (K : Int) = some x) : x.bad = 0 := by
  have G := badL_good hb
  obtain ⟨hj, hx, hk⟩ := getE_some G.rise hg
  exact G.all x (by rw [← hx]; exact List.getElem_mem _)

set_option maxHeartbeats 4000000 in
theorem rNode_end (l : List En) (v : Value) (i : Nat) (h8 : 8 ≤ i) (h16 : i < 16) (hb : badL l = 0) (w : World) (hr : RowIs w v l) :
    Calls Tryz.prog 140 #[v, .int .i64 (i : Nat)] w fun e w' => e = .returned (.int .i64 (trN (leafN l) i : Nat)) ∧ Below w.heap.size w w' := by
  have HR : Hid (RowIs w v l) := hr
  rw [trN_end _ h8]
  obtain ⟨K, hK⟩ : ∃ K, i - 8 = K := ⟨_, rfl⟩
  rw [hK]
  have i1 : (8 : Int) ≤ (i : Int) := by omega
  have i2 : (i : Int) - 8 = (K : Int) := by omega
  clear hK hr
  cases hgt : getE l (K : Int) with
  | none =>
    rw [leafN_none hgt]
    have HGt : Hid (getE l (K : Int) = none) := hgt
    clear hgt
    go_enter Tryz.func140, Tryz.ntmps140
    go_wp2_with fail
    refine (rGet_none HGt.out v _ HR.out).mono ?_
    rintro e w1 ⟨rfl, hb⟩
    have B1 : Hid (Below w.heap.size w w1) := hb
    clear hb
    go_wp2_with fail
    go_ret
    exact ⟨rfl, B1.out.alloc B1.out.size _⟩
  | some x =>
    rw [leafN_some hgt]
    have HGt : Hid (getE l (K : Int) = some x) := hgt
    have hxb := found_right hb hgt
    obtain ⟨N, HN⟩ : ∃ N, Hid (numE x = N) := ⟨_, rfl⟩
    rw [HN.out]
    obtain ⟨x0, x1, x2, x3, x4⟩ := x
    obtain ⟨K', V, rfl, rfl, hK, hV, ht⟩ := good_nats (show bad x0 x1 x2 x3 x4 = 0 from hxb)
    have HE : Hid (∀ w, Calls Tryz.prog 180 #[.agg #[.int .i64 (K' : Nat), .int .i64 (V : Nat), .int .i64 x2, .bool x3, .string x4]] w fun e w' => e = .returned (.int .i64 (N : Nat)) ∧ Below w.heap.size w w') := by
      rw [← HN.out]
      exact fun w => rOne_c K' V x2 x3 x4 (by omega) hV ht w
    clear hgt hxb HN hb
    go_enter Tryz.func140, Tryz.ntmps140
    go_wp2_with fail
    refine (rGet_some HGt.out v _ HR.out).mono ?_
    rintro e w1 ⟨rfl, hb⟩
    have B1 : Hid (Below w.heap.size w (w1.alloc (.cells #[.int .i64 (K' : Nat), .int .i64 (V : Nat), .int .i64 x2, .bool x3, .string x4] 46))) := hb.alloc hb.size _
    clear hb
    go_wp2_with fail
    refine (HE.out _).mono ?_
    rintro e w2 ⟨rfl, hb⟩
    have B2 : Hid (Below w.heap.size w w2) := B1.out.trans (hb.mono B1.out.size)
    clear hb B1
    go_wp2_with fail
    go_ret
    exact ⟨rfl, B2.out⟩

set_option maxHeartbeats 4000000 in
theorem rNode_c (l : List En) (v : Value) (hb : badL l = 0) : ∀ d i, dep i = d → 1 ≤ i → i < 16 → ∀ w, RowIs w v l →
    Calls Tryz.prog 140 #[v, .int .i64 (i : Nat)] w fun e w' => e = .returned (.int .i64 (trN (leafN l) i : Nat)) ∧ Below w.heap.size w w' := by
  intro d
  induction d with
  | zero =>
    intro i hd h1 h16 w hr
    have h8 : 8 ≤ i := by
      unfold dep at hd
      split at hd
      · omega
      · split at hd
        · omega
        · split at hd <;> omega
    exact rNode_end l v i h8 h16 hb w hr
  | succ d ih =>
    intro i hd h1 h16 w hr
    have h8 : i < 8 := by
      unfold dep at hd
      split at hd
      · omega
      · split at hd
        · omega
        · split at hd <;> omega
    obtain ⟨d1, d2⟩ := dep_two h1 h8
    have hA := trN_lt (leafN l) (leafN_lt l) (2 * i)
    have hB := trN_lt (leafN l) (leafN_lt l) (2 * i + 1)
    have cA := ih (2 * i) (by omega) (by omega) (by omega)
    have cB := ih (2 * i + 1) (by omega) (by omega) (by omega)
    rw [trN_two _ h1 h8]
    clear ih
    obtain ⟨A, hA'⟩ : ∃ A, trN (leafN l) (2 * i) = A := ⟨_, rfl⟩
    obtain ⟨B, hB'⟩ : ∃ B, trN (leafN l) (2 * i + 1) = B := ⟨_, rfl⟩
    rw [hA'] at hA cA ⊢
    rw [hB'] at hB cB ⊢
    obtain ⟨P1, hP1⟩ : ∃ P : Nat, 2 * i = P := ⟨_, rfl⟩
    obtain ⟨P2, hP2⟩ : ∃ P : Nat, P1 + 1 = P := ⟨_, rfl⟩
    have j1 : (2 : Int) * (i : Int) = (P1 : Int) := by omega
    have j2 : (P1 : Int) + 1 = (P2 : Int) := by omega
    have j3 : IntKind.i64.wrap (P1 : Int) = (P1 : Int) := wrap_small _ (by omega) (by omega)
    have j4 : IntKind.i64.wrap (P2 : Int) = (P2 : Int) := wrap_small _ (by omega) (by omega)
    have i3 : ¬ (8 : Int) ≤ (i : Int) := by omega
    rw [hP1, hP2] at cB
    rw [hP1] at cA
    have HR : Hid (RowIs w v l) := hr
    have HCa : Hid (∀ w, RowIs w v l → Calls Tryz.prog 140 #[v, .int .i64 (P1 : Nat)] w fun e w' => e = .returned (.int .i64 (A : Nat)) ∧ Below w.heap.size w w') := cA
    have HCb : Hid (∀ w, RowIs w v l → Calls Tryz.prog 140 #[v, .int .i64 (P2 : Nat)] w fun e w' => e = .returned (.int .i64 (B : Nat)) ∧ Below w.heap.size w w') := cB
    obtain ⟨R, hR⟩ : ∃ R, pairH A B = R := ⟨_, rfl⟩
    have HP : Hid (∀ w, Calls Tryz.prog 133 #[.int .i64 (A : Nat), .int .i64 (B : Nat)] w fun e w' => e = .returned (.int .i64 (R : Nat)) ∧ Below w.heap.size w w') := by
      rw [← hR]
      exact fun w => rPair_c A B (by omega) (by omega) w
    rw [hR]
    clear hA hB hA' hB' hP1 hP2 cA cB hR hr d1 d2 hd hb
    go_enter Tryz.func140, Tryz.ntmps140
    go_wp2_with fail
    refine (HCa.out _ HR.out).mono ?_
    rintro e w1 ⟨rfl, hb⟩
    have B1 : Hid (Below w.heap.size w w1) := hb
    clear hb HCa
    go_wp2_with fail
    refine (HCb.out _ (HR.out.below B1.out)).mono ?_
    rintro e w2 ⟨rfl, hb⟩
    have B2 : Hid (Below w.heap.size w w2) := B1.out.trans (hb.mono B1.out.size)
    clear hb HCb B1
    go_wp2_with fail
    refine (HP.out _).mono ?_
    rintro e w3 ⟨rfl, hb⟩
    have B3 : Hid (Below w.heap.size w w3) := B2.out.trans (hb.mono B2.out.size)
    clear hb HP B2
    go_wp2_with fail
    go_ret
    exact ⟨rfl, B3.out⟩

/-- Part by what it asks: alike, at an end, above it -/
theorem rPart_alike (va vb : Value) (i x : Nat) (w0 : World)
    (ca : ∀ w, Below w0.heap.size w0 w → Calls Tryz.prog 140 #[va, .int .i64 (i : Nat)] w fun e w' => e = .returned (.int .i64 (x : Nat)) ∧ Below w.heap.size w w')
    (cb : ∀ w, Below w0.heap.size w0 w → Calls Tryz.prog 140 #[vb, .int .i64 (i : Nat)] w fun e w' => e = .returned (.int .i64 (x : Nat)) ∧ Below w.heap.size w w') (w : World) (hw : Below w0.heap.size w0 w) :
    Calls Tryz.prog 98 #[va, vb, .int .i64 (i : Nat)] w fun e w' => e = .returned (.tuple #[.slice none 0 0, .int .i64 1]) ∧ Below w.heap.size w w' := by
  have HA : Hid (∀ w, Below w0.heap.size w0 w → Calls Tryz.prog 140 #[va, .int .i64 (i : Nat)] w fun e w' => e = .returned (.int .i64 (x : Nat)) ∧ Below w.heap.size w w') := ca
  have HB : Hid (∀ w, Below w0.heap.size w0 w → Calls Tryz.prog 140 #[vb, .int .i64 (i : Nat)] w fun e w' => e = .returned (.int .i64 (x : Nat)) ∧ Below w.heap.size w w') := cb
  have HW := (show Hid (Below _ _ _) from hw)
  clear ca cb hw
  go_enter Tryz.func98, Tryz.ntmps98
  go_wp2_with fail
  refine (HA.out _ HW.out).mono ?_
  rintro e w1 ⟨rfl, hb⟩
  have B1 : Hid (Below w.heap.size w w1) := hb
  clear hb HA
  go_wp2_with fail
  refine (HB.out _ (HW.out.trans (B1.out.mono HW.out.size))).mono ?_
  rintro e w2 ⟨rfl, hb⟩
  have B2 : Hid (Below w.heap.size w w2) := B1.out.trans (hb.mono B1.out.size)
  clear hb HB B1
  go_wp2_with fail
  go_ret2
  exact ⟨rfl, B2.out⟩
theorem rPart_end (va vb : Value) (i x y : Nat) (h8 : 8 ≤ i) (h16 : i < 16) (hxy : x ≠ y) (w0 : World)
    (ca : ∀ w, Below w0.heap.size w0 w → Calls Tryz.prog 140 #[va, .int .i64 (i : Nat)] w fun e w' => e = .returned (.int .i64 (x : Nat)) ∧ Below w.heap.size w w')
    (cb : ∀ w, Below w0.heap.size w0 w → Calls Tryz.prog 140 #[vb, .int .i64 (i : Nat)] w fun e w' => e = .returned (.int .i64 (y : Nat)) ∧ Below w.heap.size w w') (w : World) (hw : Below w0.heap.size w0 w) :
    Calls Tryz.prog 98 #[va, vb, .int .i64 (i : Nat)] w fun e w' => ∃ v', e = .returned (.tuple #[v', .int .i64 1]) ∧ OwnI w.heap.size w' v' [((i - 8 : Nat) : Int)] ∧ Below w.heap.size w w' := by
  have HA : Hid (∀ w, Below w0.heap.size w0 w → Calls Tryz.prog 140 #[va, .int .i64 (i : Nat)] w fun e w' => e = .returned (.int .i64 (x : Nat)) ∧ Below w.heap.size w w') := ca
  have HB : Hid (∀ w, Below w0.heap.size w0 w → Calls Tryz.prog 140 #[vb, .int .i64 (i : Nat)] w fun e w' => e = .returned (.int .i64 (y : Nat)) ∧ Below w.heap.size w w') := cb
  have HW := (show Hid (Below _ _ _) from hw)
  have hx : ¬ (x : Int) = (y : Int) := by omega
  obtain ⟨k, hk⟩ : ∃ k, i - 8 = k := ⟨_, rfl⟩
  have i3 : (8 : Int) ≤ (i : Int) := by omega
  have i4 : (i : Int) - 8 = (k : Int) := by omega
  rw [hk]
  clear ca cb hw hxy hk
  go_enter Tryz.func98, Tryz.ntmps98
  go_wp2_with fail
  refine (HA.out _ HW.out).mono ?_
  rintro e w1 ⟨rfl, hb⟩
  have B1 : Hid (Below w.heap.size w w1) := hb
  clear hb HA
  go_wp2_with fail
  refine (HB.out _ (HW.out.trans (B1.out.mono HW.out.size))).mono ?_
  rintro e w2 ⟨rfl, hb⟩
  have B2 : Hid (Below w.heap.size w w2) := B1.out.trans (hb.mono B1.out.size)
  clear hb HB B1
  go_wp2_with fail
  go_ret2
  refine ⟨_, rfl, OwnI.one B2.out.size ?_, B2.out.alloc B2.out.size _⟩
  exact heap_alloc_new w2 _
set_option maxHeartbeats 4000000 in
theorem rPart_two (va vb : Value) (i x y : Nat) (l0 : 1 ≤ i) (l8 : i < 8) (hxy : x ≠ y) (w0 : World)
    (ca : ∀ w, Below w0.heap.size w0 w → Calls Tryz.prog 140 #[va, .int .i64 (i : Nat)] w fun e w' => e = .returned (.int .i64 (x : Nat)) ∧ Below w.heap.size w w')
    (cb : ∀ w, Below w0.heap.size w0 w → Calls Tryz.prog 140 #[vb, .int .i64 (i : Nat)] w fun e w' => e = .returned (.int .i64 (y : Nat)) ∧ Below w.heap.size w w')
    (p q : List Int) (n m : Nat) (hp : p.length ≤ 8) (hq : q.length ≤ 8) (hn : n ≤ 15) (hm : m ≤ 15)
    (cp : ∀ w, Below w0.heap.size w0 w → Calls Tryz.prog 98 #[va, vb, .int .i64 (2 * i : Nat)] w fun e w' => ∃ v', e = .returned (.tuple #[v', .int .i64 (n : Nat)]) ∧ OwnI w.heap.size w' v' p ∧ Below w.heap.size w w')
    (cq : ∀ w, Below w0.heap.size w0 w → Calls Tryz.prog 98 #[va, vb, .int .i64 (2 * i + 1 : Nat)] w fun e w' => ∃ v', e = .returned (.tuple #[v', .int .i64 (m : Nat)]) ∧ OwnI w.heap.size w' v' q ∧ Below w.heap.size w w') (w : World) (hw : Below w0.heap.size w0 w) :
    Calls Tryz.prog 98 #[va, vb, .int .i64 (i : Nat)] w fun e w' => ∃ v', e = .returned (.tuple #[v', .int .i64 (n + m + 1 : Nat)]) ∧ OwnI w.heap.size w' v' (p ++ q) ∧ Below w.heap.size w w' := by
  have HA : Hid (∀ w, Below w0.heap.size w0 w → Calls Tryz.prog 140 #[va, .int .i64 (i : Nat)] w fun e w' => e = .returned (.int .i64 (x : Nat)) ∧ Below w.heap.size w w') := ca
  have HB : Hid (∀ w, Below w0.heap.size w0 w → Calls Tryz.prog 140 #[vb, .int .i64 (i : Nat)] w fun e w' => e = .returned (.int .i64 (y : Nat)) ∧ Below w.heap.size w w') := cb
  have HW := (show Hid (Below _ _ _) from hw)
  have hx : ¬ (x : Int) = (y : Int) := by omega
  have i3 : ¬ (8 : Int) ≤ (i : Int) := by omega
  obtain ⟨P1, hP1⟩ : ∃ P : Nat, 2 * i = P := ⟨_, rfl⟩
  obtain ⟨P2, hP2⟩ : ∃ P : Nat, P1 + 1 = P := ⟨_, rfl⟩
  have j1 : (2 : Int) * (i : Int) = (P1 : Int) := by omega
  have j2 : (P1 : Int) + 1 = (P2 : Int) := by omega
  have j3 : IntKind.i64.wrap (P1 : Int) = (P1 : Int) := wrap_small _ (by omega) (by omega)
  have j4 : IntKind.i64.wrap (P2 : Int) = (P2 : Int) := wrap_small _ (by omega) (by omega)
  rw [hP1, hP2] at cq
  rw [hP1] at cp
  have HCp : Hid (∀ w, Below w0.heap.size w0 w → Calls Tryz.prog 98 #[va, vb, .int .i64 (P1 : Nat)] w fun e w' => ∃ v', e = .returned (.tuple #[v', .int .i64 (n : Nat)]) ∧ OwnI w.heap.size w' v' p ∧ Below w.heap.size w w') := cp
  have HCq : Hid (∀ w, Below w0.heap.size w0 w → Calls Tryz.prog 98 #[va, vb, .int .i64 (P2 : Nat)] w fun e w' => ∃ v', e = .returned (.tuple #[v', .int .i64 (m : Nat)]) ∧ OwnI w.heap.size w' v' q ∧ Below w.heap.size w w') := cq
  obtain ⟨N, hN⟩ : ∃ N, n + m + 1 = N := ⟨_, rfl⟩
  have j5 : (n : Int) + (m : Int) + 1 = (N : Int) := by omega
  rw [hN]
  clear ca cb hw hxy cp cq hP1 hP2 hN
  go_enter Tryz.func98, Tryz.ntmps98
  go_wp2_with fail
  refine (HA.out _ HW.out).mono ?_
  rintro e w1 ⟨rfl, hb⟩
  have B1 : Hid (Below w.heap.size w w1) := hb
  clear hb HA
  go_wp2_with fail
  refine (HB.out _ (HW.out.trans (B1.out.mono HW.out.size))).mono ?_
  rintro e w2 ⟨rfl, hb⟩
  have B2 : Hid (Below w.heap.size w w2) := B1.out.trans (hb.mono B1.out.size)
  clear hb HB B1
  go_wp2_with fail
  refine (HCp.out _ (HW.out.trans (B2.out.mono HW.out.size))).mono ?_
  rintro e w3 ⟨v1, rfl, ho1, hb⟩
  have B3 : Hid (Below w.heap.size w w3) := B2.out.trans (hb.mono B2.out.size)
  have O3 : Hid (OwnI w.heap.size w3 v1 p) := ho1.base B2.out.size
  clear hb HCp B2 ho1
  go_wp2_with fail
  refine (HCq.out _ (HW.out.trans (B3.out.mono HW.out.size))).mono ?_
  rintro e w4 ⟨v2, rfl, ho2, hb⟩
  have B4 : Hid (Below w.heap.size w w4) := B3.out.trans (hb.mono B3.out.size)
  have O4 : Hid (OwnI w.heap.size w4 v1 p) := O3.out.below hb
  have Q4 : Hid (OwnI w.heap.size w4 v2 q) := ho2.base B3.out.size
  clear hb HCq B3 ho2 O3
  have HL1 : Hid (([] : List Int).length + p.length ≤ 100) := by show _ ≤ _; simp; omega
  have HL2 : Hid (p.length + q.length ≤ 100) := by show _ ≤ _; omega
  have HS4 : Hid (w.heap.size ≤ w4.heap.size) := B4.out.size
  have HN4 : Hid (OwnI w.heap.size w4 (.slice none 0 0) []) := OwnI.nil _ _
  go_wp2_with (at_builtin; refine wp_appRow _ rfl _ _ rfl w.heap.size _ [] rfl HN4.out w.heap.size _ p rfl O4.out HL1.out HS4.out ?_)
  intro v3 w5 O5 G5
  have HO5 : Hid (OwnI w.heap.size w5 v3 p) := O5
  have B5 : Hid (Below w.heap.size w w5) := below_grownF B4.out (Nat.le_refl _) G5.out (fun c hc => by cases hc)
  have Q5 : Hid (OwnI w.heap.size w5 v2 q) := Q4.out.blocks fun c _ hc => G5.out.block c hc (by simp [Value.ownBlock])
  have HS5 : Hid (w.heap.size ≤ w5.heap.size) := B5.out.size
  clear O5 G5 B4 O4 Q4 HS4 HN4 HL1
  go_wp2_with (at_builtin; refine wp_appRow _ rfl _ _ rfl w.heap.size _ p rfl HO5.out w.heap.size _ q rfl Q5.out HL2.out HS5.out ?_)
  intro v4 w6 O6 G6
  have HO6 := (show Hid (OwnI _ _ _ _) from O6)
  clear O6
  go_wp2_with fail
  go_ret2
  exact ⟨_, rfl, HO6.out, below_grownF B5.out (Nat.le_refl _) G6.out (fun c hc => HO5.out.from c hc)⟩

theorem rPart_c (a b : List En) (va vb : Value) (ha : badL a = 0) (hb : badL b = 0) (w0 : World) (hra : RowIs w0 va a) (hrb : RowIs w0 vb b) : ∀ d i, dep i = d → 1 ≤ i → i < 16 → ∀ w, Below w0.heap.size w0 w →
    Calls Tryz.prog 98 #[va, vb, .int .i64 (i : Nat)] w fun e w' => ∃ v', e = .returned (.tuple #[v', .int .i64 (partN (leafN a) (leafN b) i : Nat)]) ∧ OwnI w.heap.size w' v' (partK (leafN a) (leafN b) i) ∧ Below w.heap.size w w' := by
  intro d
  induction d with
  | zero =>
    intro i hd h1 h16 w hw
    have h8 : 8 ≤ i := by
      unfold dep at hd
      split at hd
      · omega
      · split at hd
        · omega
        · split at hd <;> omega
    by_cases hx : trN (leafN a) i = trN (leafN b) i
    · obtain ⟨e1, e2⟩ := part_alike hx
      rw [e1, e2]
      refine (rPart_alike va vb i _ w0 (fun w hw => rNode_c a va ha 0 i hd h1 h16 w (hra.below hw)) (fun w hw => by rw [hx]; exact rNode_c b vb hb 0 i hd h1 h16 w (hrb.below hw)) w hw).mono ?_
      rintro e w' ⟨rfl, hb⟩
      exact ⟨_, rfl, OwnI.nil _ _, hb⟩
    · obtain ⟨e1, e2⟩ := part_end h8 hx
      rw [e1, e2]
      exact rPart_end va vb i _ _ h8 h16 hx w0 (fun w hw => rNode_c a va ha 0 i hd h1 h16 w (hra.below hw)) (fun w hw => rNode_c b vb hb 0 i hd h1 h16 w (hrb.below hw)) w hw
  | succ d ih =>
    intro i hd h1 h16 w hw
    have h8 : i < 8 := by
      unfold dep at hd
      split at hd
      · omega
      · split at hd
        · omega
        · split at hd <;> omega
    by_cases hx : trN (leafN a) i = trN (leafN b) i
    · obtain ⟨e1, e2⟩ := part_alike hx
      rw [e1, e2]
      refine (rPart_alike va vb i _ w0 (fun w hw => rNode_c a va ha (d + 1) i hd h1 h16 w (hra.below hw)) (fun w hw => by rw [hx]; exact rNode_c b vb hb (d + 1) i hd h1 h16 w (hrb.below hw)) w hw).mono ?_
      rintro e w' ⟨rfl, hb⟩
      exact ⟨_, rfl, OwnI.nil _ _, hb⟩
    · obtain ⟨e1, e2⟩ := part_two h1 h8 hx
      obtain ⟨d1, d2⟩ := dep_two h1 h8
      rw [e1, e2]
      exact rPart_two va vb i _ _ h1 h8 hx w0 (fun w hw => rNode_c a va ha (d + 1) i hd h1 h16 w (hra.below hw)) (fun w hw => rNode_c b vb hb (d + 1) i hd h1 h16 w (hrb.below hw)) _ _ _ _ (partK_len _ _ _) (partK_len _ _ _) (partN_len _ _ _) (partN_len _ _ _) (ih (2 * i) (by omega) (by omega) (by omega)) (ih (2 * i + 1) (by omega) (by omega) (by omega)) w hw
end Go.Proofs.YtpcnfoaoajfhlaaGreatDoor

namespace Go.Proofs.YtpcnfoaoajfhlaaGreatDoor
set_option linter.unusedVariables false
set_option linter.unusedSimpArgs false
open Go.RowKit

theorem inS_o (va : Value) (a : List Int) (x : Int) (c : Bool) (h : a.contains x = c) (w : World) (hra : IntsIs w va a) :
    Calls Tryz.prog 33 #[va, .int .i64 x] w fun e w' => e = .returned (.bool c) ∧ Below w.heap.size w w' := by
  subst h
  exact in_c va a x w hra
set_option maxHeartbeats 8000000 in
theorem rSome_c (v vk : Value) (l : List En) (K : List Int) (w : World) (hr : RowIs w v l) (hk : IntsIs w vk K) (hg : GoodL l) :
    Calls Tryz.prog 100 #[v, vk] w fun e w' => ∃ v', e = .returned v' ∧ RowIs w' v' (someE l K) ∧ Below w.heap.size w w' := by
  have HR : Hid (RowIs w v l) := hr
  have HK : Hid (IntsIs w vk K) := hk
  have HG : Hid (GoodL l) := hg
  have HS : Hid (someE l K = someE (l.take l.length) K) := by show _ = _; rw [List.take_length]
  rw [HS.out]
  clear hk hg HS
  obtain ⟨hlen, p, cap, rfl, hrow⟩ := hr
  have HRow : Hid (l ≠ [] → ∃ b o, p = some ⟨b, o, none⟩ ∧ b < w.heap.size ∧ ∀ j (h : j < l.length), EnAt w b (o + j * 5) l[j]) := hrow
  clear hrow
  obtain ⟨n, HN⟩ : ∃ n, Hid (l.length = n) := ⟨_, rfl⟩
  rw [HN.out] at hlen HR ⊢
  have hn63 : n ≤ 9223372036854775807 := hlen
  go_enter Tryz.func100, Tryz.ntmps100
  go_wp2_with fail
  go_loopw [5, 6] (fun s5 s6 wr => ∃ (j : Nat) (v5 : Value), s5 = v5 ∧ j ≤ n ∧ s6 = .int .i64 j ∧ Hid (wr.ownsRow w.heap.size 46 5 v5 (someE (l.take j) K).length (rowC (someE (l.take j) K))) ∧ Hid (Below w.heap.size w wr)) (fun _ i _ => n - (intOf i).toNat)
  case atStart => exact ⟨0, .slice none 0 0, rfl, Nat.zero_le _, rfl, World.ownsRow_nil _ _ _ _, Below.refl _ _⟩
  case round =>
    obtain ⟨j, v5, hs5, hj, rfl, HO, HB⟩ := hrel
    have hs5' := hs5.symm
    clear hs5
    subst hs5'
    by_cases hlt : j < n
    · have hjl : j < l.length := by rw [HN.out]; exact hlt
      obtain ⟨b, o, rfl, hbw, hat⟩ := HRow.out (fun h => by simp [h] at hjl)
      have HAt : Hid (EnAt wr b (o + j * 5) l[j]) := (hat j hjl).of_block (HB.out.block b hbw)
      clear hat
      have hlti : (j : Int) < (n : Int) := by omega
      have HY : Hid (K.contains l[j].k = true → someE (l.take (j + 1)) K = someE (l.take j) K ++ [l[j]]) := fun ha => someE_yes hjl ha
      have HNo : Hid (K.contains l[j].k = false → someE (l.take (j + 1)) K = someE (l.take j) K) := fun ha => someE_no hjl ha
      have HL8 : Hid ((someE (l.take j) K).length ≤ 100) := Nat.le_trans (someE_len _ _) (Nat.le_trans (List.length_take_le _ _) (Nat.le_trans hj (Nat.le_trans (by rw [← HN.out]; exact HG.out.len) (by omega))))
      obtain ⟨x, HX⟩ : ∃ x, Hid (l[j] = x) := ⟨l[j], show l[j] = l[j] from rfl⟩
      rw [HX.out] at HAt HY HNo
      obtain ⟨x0, x1, x2, x3, x4⟩ := x
      obtain ⟨c0, c1, c2, c3, c4⟩ := HAt.out
      dsimp only at c0 c1 c2 c3 c4
      obtain ⟨xs, HXs⟩ : ∃ xs, Hid (someE (l.take j) K = xs) := ⟨_, rfl⟩
      rw [HXs.out] at HO HY HNo HL8
      clear HXs HX
      have hbr : b < wr.heap.size := by have := HB.out.size; omega
      cases hc : K.contains x0
      · have HC0 : Hid (K.contains x0 = false) := hc
        have HE : Hid (someE (l.take (j + 1)) K = xs) := HNo.out hc
        clear hc HY HNo
        go_wp2_with fail
        refine (inS_o vk K x0 false HC0.out _ (HK.out.below HB.out)).mono ?_
        rintro e w4 ⟨rfl, hb⟩
        have B4 : Hid (Below w.heap.size w w4) := HB.out.trans (hb.mono HB.out.size)
        have O4 : Hid (w4.ownsRow w.heap.size 46 5 v5 xs.length (rowC xs)) := ownsRow_belowF HO.out hb
        clear hb c0 c1 c2 c3 c4
        go_wp2_with fail
        go_roundw
        case rel =>
          refine ⟨j + 1, v5, rfl, by omega, by go_num, ?_, B4⟩
          show World.ownsRow _ _ _ _ _ _ _
          rw [HE.out]
          exact O4.out
        case measure => simp [intOf]; omega
      · have HC0 : Hid (K.contains x0 = true) := hc
        have HE : Hid (someE (l.take (j + 1)) K = xs ++ [En.mk x0 x1 x2 x3 x4]) := HY.out hc
        clear hc HY HNo
        go_wp2_with fail
        refine (inS_o vk K x0 true HC0.out _ (HK.out.below HB.out)).mono ?_
        rintro e w4 ⟨rfl, hb⟩
        have B4 : Hid (Below w.heap.size w w4) := HB.out.trans (hb.mono HB.out.size)
        have O4 : Hid (w4.ownsRow w.heap.size 46 5 v5 xs.length (rowC xs)) := ownsRow_belowF HO.out hb
        have HAt4 : Hid (EnAt w4 b (o + j * 5) ⟨x0, x1, x2, x3, x4⟩) := HAt.out.of_block (hb.block b hbr)
        clear hb c0 c1 c2 c3 c4
        have hws4 := B4.out.size
        have hbr4 : b < w4.heap.size := by omega
        obtain ⟨c0, c1, c2, c3, c4⟩ := HAt4.out
        dsimp only at c0 c1 c2 c3 c4
        have HBa : Hid (Below w.heap.size w (w4.alloc (.cells #[.int .i64 x0, .int .i64 x1, .int .i64 x2, .bool x3, .string x4] 46))) := B4.out.alloc hws4 _
        have HOa : Hid ((w4.alloc (.cells #[.int .i64 x0, .int .i64 x1, .int .i64 x2, .bool x3, .string x4] 46)).ownsRow w.heap.size 46 5 v5 xs.length (rowC xs)) := O4.out.alloc _
        have HVa : Hid ((w4.alloc (.cells #[.int .i64 x0, .int .i64 x1, .int .i64 x2, .bool x3, .string x4] 46)).heap[w4.heap.size]? = some (.cells (En.cells (En.mk x0 x1 x2 x3 x4)).toArray 46 (0, 0))) := alloc_at _ _ _ rfl
        have HSa : Hid (w.heap.size ≤ (w4.alloc (.cells #[.int .i64 x0, .int .i64 x1, .int .i64 x2, .bool x3, .string x4] 46)).heap.size) := show _ ≤ _ from (by simp; omega)
        go_wp2_with (at_builtin; refine wp_app _ rfl _ _ rfl w.heap.size _ xs (En.mk x0 x1 x2 x3 x4) rfl HOa.out _ rfl HVa.out HL8.out HSa.out ?_)
        intro va wa hown hgrow
        have HOp : Hid (wa.ownsRow w.heap.size 46 5 va (xs ++ [En.mk x0 x1 x2 x3 x4]).length (rowC (xs ++ [En.mk x0 x1 x2 x3 x4]))) := hown
        have HBp : Hid (Below w.heap.size w wa) := below_grownF (HBa.out) (Nat.le_refl _) hgrow.out (fun c hc => ownsRow_fromF O4.out c hc)
        clear hown hgrow HOa HVa HL8 HSa HBa
        clear c0 c1 c2 c3 c4
        go_wp2_with fail
        go_roundw
        case rel =>
          refine ⟨j + 1, va, rfl, by omega, by go_num, ?_, HBp⟩
          show World.ownsRow _ _ _ _ _ _ _
          rw [HE.out]
          exact HOp.out
        case measure => simp [intOf]; omega
    · obtain rfl : j = n := by omega
      go_wp2_with fail
      go_ret
      exact ⟨v5, rfl, RowIs.own HO.out, HB.out⟩

set_option maxHeartbeats 2000000 in
/-- a swap that goes: each row is the old one or a new one -/
theorem rSwapF {a b x y : List En} (h : pairW a b = (x, y, 0)) (va vb : Value) (w : World) (hra : RowIs w va a) (hrb : RowIs w vb b) :
    Calls Tryz.prog 54 #[va, vb] w fun e w' => ∃ v1 v2, e = .returned (.tuple #[v1, v2, .int .i64 0]) ∧ (RowIs w' v1 x ∧ (v1 = va ∨ ∀ g, v1.ownBlock = some g → w.heap.size ≤ g)) ∧ (RowIs w' v2 y ∧ (v2 = vb ∨ ∀ g, v2.ownBlock = some g → w.heap.size ≤ g)) ∧ Below w.heap.size w w' := by
  obtain ⟨ha, hb, hx, hy⟩ := pairW_fine h
  have HC := rPart_c a b va vb ha hb w hra hrb 3 1 rfl (by omega) (by omega) w (Below.refl _ _)
  have HA : Hid (RowIs w va a) := hra
  have HB : Hid (RowIs w vb b) := hrb
  have HGa : Hid (GoodL a) := badL_good ha
  have HGb : Hid (GoodL b) := badL_good hb
  have e0 : partK (leafN a) (leafN b) 1 = lackK a b := rfl
  rw [e0] at HC
  clear e0 h
  generalize lackK a b = K at HC hx hy
  generalize partN (leafN a) (leafN b) 1 = N at HC
  have HCh : Hid _ := HC
  have HX' : Hid (allE a (someE b K) = (x, 0)) := hx
  have HY' : Hid (allE b (someE a K) = (y, 0)) := hy
  have HSa : Hid (GoodL (someE a K)) := someE_good HGa.out
  have HSb : Hid (GoodL (someE b K)) := someE_good HGb.out
  clear HC hra hrb ha hb hx hy
  go_enter Tryz.func54, Tryz.ntmps54
  go_wp2_with fail
  refine Calls.mono HCh.out ?_
  rintro e w1 ⟨vk, rfl, ho, hb⟩
  have B1 : Hid (Below w.heap.size w w1) := hb
  have K1 : Hid (IntsIs w1 vk K) := ho.ints
  clear hb ho HCh
  go_wp2_with fail
  refine (rSome_c vb vk b K _ (HB.out.below B1.out) K1.out HGb.out).mono ?_
  rintro e w2 ⟨v2, rfl, hr, hb⟩
  have B2 : Hid (Below w.heap.size w w2) := B1.out.trans (hb.mono B1.out.size)
  have K2 : Hid (IntsIs w2 vk K) := K1.out.below hb
  have R2 : Hid (RowIs w2 v2 (someE b K)) := hr
  clear hb hr B1 K1
  go_wp2_with fail
  refine (rAll_c va v2 a (someE b K) x 0 _ (HA.out.below B2.out) R2.out HGa.out HSb.out HX'.out).mono ?_
  rintro e w3 ⟨v3, rfl, hr, hb⟩
  have B3 : Hid (Below w.heap.size w w3) := B2.out.trans (hb.mono B2.out.size)
  have K3 : Hid (IntsIs w3 vk K) := K2.out.below hb
  have X3 : Hid (RowIs w3 v3 x ∧ (v3 = va ∨ ∀ g, v3.ownBlock = some g → w.heap.size ≤ g)) := ⟨hr.1, hr.2.imp id (fun h g hg => Nat.le_trans B2.out.size (h g hg))⟩
  clear hb hr B2 K2 R2
  go_wp2_with fail
  refine (rSome_c va vk a K _ (HA.out.below B3.out) K3.out HGa.out).mono ?_
  rintro e w4 ⟨v4, rfl, hr, hb⟩
  have B4 : Hid (Below w.heap.size w w4) := B3.out.trans (hb.mono B3.out.size)
  have X4 : Hid (RowIs w4 v3 x ∧ (v3 = va ∨ ∀ g, v3.ownBlock = some g → w.heap.size ≤ g)) := ⟨X3.out.1.below hb, X3.out.2⟩
  have R4 : Hid (RowIs w4 v4 (someE a K)) := hr
  clear hb hr B3 K3 X3
  go_wp2_with fail
  refine (rAll_c vb v4 b (someE a K) y 0 _ (HB.out.below B4.out) R4.out HGb.out HSa.out HY'.out).mono ?_
  rintro e w5 ⟨v5, rfl, hr, hb⟩
  have B5 : Hid (Below w.heap.size w w5) := B4.out.trans (hb.mono B4.out.size)
  have X5 : Hid (RowIs w5 v3 x ∧ (v3 = va ∨ ∀ g, v3.ownBlock = some g → w.heap.size ≤ g)) := ⟨X4.out.1.below hb, X4.out.2⟩
  have Y5 : Hid (RowIs w5 v5 y ∧ (v5 = vb ∨ ∀ g, v5.ownBlock = some g → w.heap.size ≤ g)) := ⟨hr.1, hr.2.imp id (fun h g hg => Nat.le_trans B4.out.size (h g hg))⟩
  clear hb hr B4 X4 R4
  go_wp2_with fail
  go_ret3
  exact ⟨v3, v5, rfl, X5.out, Y5.out, B5.out⟩
end Go.Proofs.YtpcnfoaoajfhlaaGreatDoor
