/-
  Package gossip by its contracts: Play, Done.
  Done and Plan with letters; the plan is right, and by it all know all.
-/
import Derived.Test.YtpcnfoaoajfhlaaDoorTqaj
import Derived.Deep.OwnRows
import Derived.Test.YtpcnfoaoajfhlaaDoorTqak
namespace Go.Proofs.YtpcnfoaoajfhlaaDoor
set_option linter.unusedVariables false
set_option linter.unusedSimpArgs false
set_option linter.unusedVariables false
set_option linter.unusedSimpArgs false
open Go.RowKit Go.Shelf

/-- so many numbers at a block -/
structure ManyAt (w : World) (b m : Nat) (o : Nat → Int) : Prop where
  lt : b < w.heap.size
  cell : ∀ k, k < m → w.cell? ⟨b, k, none⟩ = some (.int .i64 (o k))
  fz : ∀ j, w.frozen? ⟨b, j, none⟩ = false
theorem ManyAt.of_block {w w' : World} {b m : Nat} {o : Nat → Int} (h : ManyAt w b m o) (hs : w.heap.size ≤ w'.heap.size) (hb : w'.heap[b]? = w.heap[b]?) : ManyAt w' b m o :=
  ⟨Nat.lt_of_lt_of_le h.lt hs, fun k hk => (World.cell?_of_block (a := ⟨b, k, none⟩) hb).trans (h.cell k hk), fun j => (World.frozen?_of_block (a := ⟨b, j, none⟩) hb).trans (h.fz j)⟩
theorem ManyAt.below {w w' : World} {b m : Nat} {o : Nat → Int} (h : ManyAt w b m o) (hb : Below w.heap.size w w') : ManyAt w' b m o := h.of_block hb.size (hb.block b h.lt)
theorem ManyAt.set {w : World} {b m : Nat} {o : Nat → Int} (h : ManyAt w b m o) (k : Nat) (hk : k < m) (z : Int) : ManyAt (w.setCell ⟨b, k, none⟩ (.int .i64 z)) b m (fun j => if j = k then z else o j) := by
  refine ⟨by rw [World.size_setCell]; exact h.lt, fun j hj => ?_, fun j => by rw [World.frozen?_setCell]; exact h.fz j⟩
  by_cases e : j = k
  · subst e
    rw [if_pos rfl]
    exact World.cell?_setCell_same _ _ _ (h.cell j hj)
  · rw [if_neg e, World.cell?_setCell_other _ _ _ _ (by simp [e])]
    exact h.cell j hj
theorem ManyAt.to {w : World} {b m : Nat} {o o' : Nat → Int} (h : ManyAt w b m o) (e : ∀ k, k < m → o k = o' k) : ManyAt w b m o' := ⟨h.lt, fun k hk => by rw [← e k hk]; exact h.cell k hk, h.fz⟩
theorem many_new (w : World) (t : TypeId) (m : Nat) : ManyAt (w.alloc (.cells (madeCells #[.int .i64 0] m) t)) w.heap.size m (fun _ => 0) := by
  refine ⟨by simp, fun k hk => ?_, fun j => by simp⟩
  rw [World.cell?_alloc_at _ _ _ _ rfl]
  simp [madeCells, hk, Nat.mod_one]
/-- a list of numbers, as a row tells them -/
def atZ (s : List Nat) (j : Nat) : Int := ((s.getD j 0 : Nat) : Int)
theorem ManyAt.ints {w : World} {b m c : Nat} {s : List Nat} (h : ManyAt w b m (atZ s)) (hl : s.length = m) (hm : m ≤ maxLen) : IntsIs w (.slice (some ⟨b, 0, none⟩) m c) (numZ s) := by
  have hl2 : (numZ s).length = m := by rw [numZ, List.length_map, hl]
  refine ⟨by rw [hl2]; exact hm, some ⟨b, 0, none⟩, c, by rw [hl2], fun _ => ⟨b, 0, rfl, h.lt, fun j hj => ?_⟩⟩
  rw [Nat.zero_add, h.cell j (by omega), atZ, getD_at _ _ _ (by omega)]
  simp [numZ]
theorem or_i64 (a b : Nat) (ha : a < 64) (hb : b < 64) : bits .or .i64 (a : Int) (b : Int) = ((a ||| b : Nat) : Int) := by
  have hx : a ||| b < 2 ^ 6 := Nat.or_lt_two_pow (n := 6) ha hb
  have e : ∀ x : Nat, x < 64 → (BitVec.ofInt 64 (x : Int)).toNat = x := fun x h => by
    rw [BitVec.ofInt_natCast, BitVec.toNat_ofNat]
    exact Nat.mod_eq_of_lt (by omega)
  show IntKind.i64.wrap ((BitVec.ofInt 64 (a : Int) ||| BitVec.ofInt 64 (b : Int)).toNat : Int) = _
  rw [BitVec.toNat_or, e a ha, e b hb, IntKind.wrap_i64]
  omega
theorem old_cellG {w w' : World} {a : Addr} {v : Value} (hb : Below w.heap.size w w') (h : w.cell? a = some v) : w'.cell? a = some v :=
  (hb.cell (World.block_lt_of_cell? w a h)).trans h
theorem ownZ (n j : Nat) (h : j < n) : atZ (ownG n) j = ((2 ^ j : Nat) : Int) := by
  rw [atZ, getD_at _ _ _ (by rw [ownG_len]; exact h)]
  simp [ownG]
/-- what both know is laid at two places -/
theorem ManyAt.step {w : World} {g m : Nat} {s : List Nat} (h : ManyAt w g m (atZ s)) (hl : s.length = m) {a b : Nat} (hok : okC m (a, b)) :
    ManyAt ((w.setCell ⟨g, a, none⟩ (.int .i64 ((s.getD a 0 ||| s.getD b 0 : Nat) : Int))).setCell ⟨g, b, none⟩ (.int .i64 ((s.getD a 0 ||| s.getD b 0 : Nat) : Int))) g m (atZ (stepG s (a, b))) := by
  obtain ⟨ha, hb, hab⟩ := hok
  refine ((h.set a ha _).set b hb _).to (fun k _ => ?_)
  unfold atZ
  by_cases h2 : k = b
  · subst h2
    rw [if_pos rfl, stepG_two (c := (a, k)) (by show k < s.length; omega)]
  · rw [if_neg h2]
    by_cases h1 : k = a
    · subst h1
      rw [if_pos rfl, stepG_one (c := (k, b)) (by show k < s.length; omega) hab]
    · rw [if_neg h1, stepG_other (c := (a, b)) h1 h2]
set_option maxHeartbeats 4000000 in
theorem play_bad (n : Int) (v : Value) (cs : List (List Int)) (E : Int) (hE : callsE n cs = E) (hne : E ≠ 0) (w : World) (hr : CallsIs w v cs) :
    Calls Tryd.prog 37 #[.int .i64 n, v] w fun e w' => e = .returned (.tuple #[.slice none 0 0, eV E]) ∧ Below w.heap.size w w' := by
  have HE : Hid (callsE n cs = E) := hE
  have HN : Hid (E ≠ 0) := hne
  have HR : Hid (CallsIs w v cs) := hr
  obtain ⟨_, p, cap, rfl, _⟩ := hr.parts
  clear hE hne hr
  go_enter Tryd.func37, Tryd.ntmps37
  go_wp2_with fail
  refine (gcheck_c n _ cs E HE.out _ HR.out).mono ?_
  rintro e w1 ⟨rfl, hb⟩
  have B1 : Hid (Below w.heap.size w w1) := hb
  clear hb
  rw [eV_err HN.out]
  go_wp2_with fail
  go_ret2
  exact ⟨by rw [eV_err HN.out] <;> rfl, B1.out⟩
set_option maxHeartbeats 16000000 in
theorem play_ok (n : Nat) (v : Value) (cs : List (List Int)) (hE : callsE n cs = 0) (w : World) (hr : CallsIs w v cs) :
    Calls Tryd.prog 37 #[.int .i64 n, v] w fun e w' => (∃ g, e = .returned (.tuple #[.slice (some ⟨g, 0, none⟩) n n, .nilIface]) ∧ ManyAt w' g n (atZ (knowG n cs)) ∧ w.heap.size ≤ g) ∧ Below w.heap.size w w' := by
  have HE : Hid (callsE n cs = 0) := hE
  have HR : Hid (CallsIs w v cs) := hr
  obtain ⟨⟨k, hk, hk1, hk6⟩, h40, hok⟩ := callsE_ok hE
  obtain rfl : k = n := by omega
  have HOk : Hid (∀ c ∈ cs, callE k c = 0) := hok
  obtain ⟨hlen, p, cap, rfl, hrow⟩ := hr.parts
  have HRow : Hid (cs ≠ [] → ∃ b o, p = some ⟨b, o, none⟩ ∧ b < w.heap.size ∧ ∀ j (h : j < cs.length), ∃ u, w.cell? ⟨b, o + j, none⟩ = some u ∧ IntsIs w u cs[j]) := hrow
  clear hE hr hrow hok hk
  obtain ⟨N, HN⟩ : ∃ N, Hid (cs.length = N) := ⟨_, rfl⟩
  rw [HN.out] at hlen h40 HR ⊢
  have hmk := run_make_row' (P := Tryd.prog) 30 3 (.int .i64 0) 8 Tryd.underlying30 infoInt rfl .i64 .i64 k (by omega) (by omega)
  go_enter Tryd.func37, Tryd.ntmps37
  go_wp2_with fail
  refine (gcheck_c k _ cs 0 HE.out _ HR.out).mono ?_
  rintro e w1 ⟨rfl, hb⟩
  have B1 : Hid (Below w.heap.size w w1) := hb
  clear hb
  rw [eV_zero]
  go_upto_region 5 with fail
  have HM : Hid (ManyAt (w1.alloc (.cells (madeCells #[.int .i64 0] k) 3)) w1.heap.size k (fun _ => 0)) := many_new w1 _ k
  have HB0 : Hid (Below w.heap.size w (w1.alloc (.cells (madeCells #[.int .i64 0] k) 3))) := B1.out.alloc B1.out.size _
  have HG : Hid (w.heap.size ≤ w1.heap.size) := B1.out.size
  generalize w1.alloc (.cells (madeCells #[.int .i64 0] k) 3) = w2 at HM HB0 ⊢
  generalize w1.heap.size = g at HM HG ⊢
  clear B1 hmk
  go_wp2_with fail
  go_loopw [21] (fun i wr => ∃ j : Nat, j ≤ k ∧ i = .int .i64 j ∧ Hid (ManyAt wr g k (fun q => if q < j then atZ (ownG k) q else 0)) ∧ Hid (Below w.heap.size w wr)) (fun i _ => k - (intOf i).toNat)
  case atStart => exact ⟨0, Nat.zero_le _, rfl, HM.out.to (fun q _ => by simp), HB0⟩
  case round =>
    obtain ⟨j, hj, rfl, HMj, HB⟩ := hrel
    by_cases hlt : j < k
    · have hlti : (j : Int) < (k : Int) := by omega
      have c0 := HMj.out.cell j hlt
      have cf := HMj.out.fz j
      rw [if_neg (Nat.lt_irrefl j)] at c0
      have HS : ∀ z : Int, z = ((2 ^ j : Nat) : Int) → Hid (ManyAt (wr.setCell ⟨g, j, none⟩ (.int .i64 z)) g k (fun q => if q < j + 1 then atZ (ownG k) q else 0)) := fun z hz => (HMj.out.set j hlt z).to (fun q _ => by
        by_cases e : q = j
        · subst e
          rw [if_pos rfl, if_pos (by omega), hz, ownZ k q hlt]
        · rw [if_neg e]
          by_cases h : q < j
          · rw [if_pos h, if_pos (by omega)]
          · rw [if_neg h, if_neg (by omega)])
      have HBS : ∀ z : Int, Hid (Below w.heap.size w (wr.setCell ⟨g, j, none⟩ (.int .i64 z))) := fun z => HB.out.setCell HG.out _
      have h6 : j = 0 ∨ j = 1 ∨ j = 2 ∨ j = 3 ∨ j = 4 ∨ j = 5 := by omega
      rcases h6 with rfl | rfl | rfl | rfl | rfl | rfl
      · have S := HS 1 rfl
        have S2 := HBS 1
        clear HS HBS
        go_wp2_with fail
        go_roundw
        case rel => exact ⟨1, by omega, by go_num, S, S2⟩
        case measure => simp [intOf]; omega
      · have S := HS 2 rfl
        have S2 := HBS 2
        clear HS HBS
        go_wp2_with fail
        go_roundw
        case rel => exact ⟨2, by omega, by go_num, S, S2⟩
        case measure => simp [intOf]; omega
      · have S := HS 4 rfl
        have S2 := HBS 4
        clear HS HBS
        go_wp2_with fail
        go_roundw
        case rel => exact ⟨3, by omega, by go_num, S, S2⟩
        case measure => simp [intOf]; omega
      · have S := HS 8 rfl
        have S2 := HBS 8
        clear HS HBS
        go_wp2_with fail
        go_roundw
        case rel => exact ⟨4, by omega, by go_num, S, S2⟩
        case measure => simp [intOf]; omega
      · have S := HS 16 rfl
        have S2 := HBS 16
        clear HS HBS
        go_wp2_with fail
        go_roundw
        case rel => exact ⟨5, by omega, by go_num, S, S2⟩
        case measure => simp [intOf]; omega
      · have S := HS 32 rfl
        have S2 := HBS 32
        clear HS HBS
        go_wp2_with fail
        go_roundw
        case rel => exact ⟨6, by omega, by go_num, S, S2⟩
        case measure => simp [intOf]; omega
    · obtain rfl : j = k := by omega
      have M0 : Hid (ManyAt wr g j (atZ (knowG j (cs.take 0)))) := HMj.out.to (fun q hq => by rw [if_pos hq]; rfl)
      have BR : Hid (Below w.heap.size w wr) := HB
      clear HMj HB HM HB0
      obtain ⟨w3, hren⟩ : ∃ x, x = wr := ⟨_, rfl⟩
      subst hren
      go_wp2_with fail
      go_loopw [32] (fun i wr => ∃ q : Nat, q ≤ N ∧ i = .int .i64 q ∧ Hid (ManyAt wr g j (atZ (knowG j (cs.take q)))) ∧ Hid (Below w.heap.size w wr)) (fun i _ => N - (intOf i).toNat)
      case atStart => exact ⟨0, Nat.zero_le _, rfl, M0, BR⟩
      case round =>
        obtain ⟨q, hq, rfl, HMq, HBq⟩ := hrel
        clear M0 BR
        by_cases hqn : q < N
        · have hqi : (q : Int) < (N : Int) := by omega
          have hql : q < cs.length := by rw [HN.out]; exact hqn
          obtain ⟨b, o, rfl, hbw, hat⟩ := HRow.out (fun h => by simp [h] at hql)
          obtain ⟨u, hu, hru⟩ := hat q hql
          have c0 : wr.cell? ⟨b, o + q, none⟩ = some u := (World.cell?_of_block (a := ⟨b, o + q, none⟩) (HBq.out.block b hbw)).trans hu
          obtain ⟨hokq, hcq⟩ := callE_pair (HOk.out cs[q] (List.getElem_mem hql))
          have HT : Hid (knowG j (cs.take (q + 1)) = stepG (knowG j (cs.take q)) (pairC cs[q])) := knowG_take hql
          obtain ⟨⟨x, y⟩, hxy⟩ : ∃ c, c = pairC cs[q] := ⟨_, rfl⟩
          rw [← hxy] at hokq HT
          rw [hcq, ← hxy] at hru
          clear hat hu hcq hxy
          obtain ⟨_, pu, cu, rfl, hrowu⟩ := hru
          obtain ⟨bu, ou, rfl, hbu, hcu⟩ := hrowu (by simp)
          have x0 : wr.cell? ⟨bu, ou, none⟩ = some (.int .i64 (x : Nat)) := (World.cell?_of_block (a := ⟨bu, ou, none⟩) (HBq.out.block bu hbu)).trans (hcu 0 (by simp))
          have y0 : wr.cell? ⟨bu, ou + 1, none⟩ = some (.int .i64 (y : Nat)) := (World.cell?_of_block (a := ⟨bu, ou + 1, none⟩) (HBq.out.block bu hbu)).trans (hcu 1 (by simp))
          clear hcu hrowu
          have HO : Hid (okC j (x, y)) := hokq
          obtain ⟨hx, hy, hnxy⟩ := hokq
          dsimp only at hx hy hnxy
          have HSl : Hid ((knowG j (cs.take q)).length = j) := knowG_len _ _
          have hsm := knowG_small j (cs.take q)
          generalize knowG j (cs.take q) = s at HMq HT HSl hsm
          have hp6 : 2 ^ j ≤ 64 := Nat.pow_le_pow_right (n := 2) (by omega) (show j ≤ 6 by omega)
          have hsx := hsm x
          have hsy := hsm y
          clear hsm
          have kx := HMq.out.cell x hx
          have ky := HMq.out.cell y hy
          have fx := HMq.out.fz x
          have fy := HMq.out.fz y
          unfold atZ at kx ky
          have HStep := HMq.out.step HSl.out HO.out
          rw [← HT.out] at HStep
          have HStep' : Hid _ := HStep
          clear HStep
          obtain ⟨X, HX⟩ : ∃ X, Hid (s.getD x 0 = X) := ⟨_, rfl⟩
          obtain ⟨Y, HY⟩ : ∃ Y, Hid (s.getD y 0 = Y) := ⟨_, rfl⟩
          rw [HX.out] at kx hsx HStep'
          rw [HY.out] at ky hsy HStep'
          have hor := or_i64 X Y (by omega) (by omega)
          obtain ⟨Z, HZ⟩ : ∃ Z, Hid (X ||| Y = Z) := ⟨_, rfl⟩
          rw [HZ.out] at hor HStep'
          have hxi : (x : Int) < (j : Int) := by omega
          have hyi : (y : Int) < (j : Int) := by omega
          have hgb : bu ≠ g := by have := HG.out; omega
          have hlg := HMq.out.lt
          have hlb : bu < wr.heap.size := Nat.lt_of_lt_of_le hbu HBq.out.size
          have hpn : ¬ ((⟨g, x, none⟩ : Addr) = ⟨g, y, none⟩) := by simp [hnxy]
          clear hp6 hsx hsy
          go_upto_region 13 with fail
          go_quiet (fail)
          go_upto_region 14 with fail
          go_region
          all_goals go_wp2_with fail
          all_goals go_roundw
          case rel => exact ⟨q + 1, by omega, by go_num, HStep'.out.of_block (by simp) rfl, (by show Below _ _ _; refine Below.setCell (Below.setCell (HBq.out.trans (below_drewN _ _ _)) ?_ _) ?_ _ <;> exact HG.out)⟩
          case measure => simp [intOf]; omega
        · obtain rfl : q = N := by omega
          have HF : Hid (knowG j (cs.take q) = knowG j cs) := by
            show _ = _
            rw [List.take_of_length_le (by rw [HN.out]; exact Nat.le_refl _)]
          go_wp2_with fail
          go_ret2
          exact ⟨⟨g, rfl, by rw [← HF.out]; exact HMq.out, HG.out⟩, HBq.out⟩
theorem lacksG_c (F x : Int) (fb : Nat) (B : Bool) (hB : (x != F) = B) (w : World) (ck : w.cell? ⟨fb, 0, none⟩ = some (.int .i64 F)) :
    Calls Tryd.prog 39 #[.int .i64 x, .pointer (some ⟨fb, 0, none⟩)] w fun e w' => e = .returned (.bool B) ∧ Below w.heap.size w w' := by
  go_enter Tryd.func39, Tryd.ntmps39
  go_wp2_with fail
  go_ret
  exact ⟨rfl, Below.refl _ _⟩
theorem any_full (s : List Nat) (f : Nat) : (numZ s).any (fun x => x != (f : Int)) = !s.all (fun x => x == f) := by
  unfold numZ
  induction s with
  | nil => rfl
  | cons a s ih =>
    rw [List.map_cons, List.any_cons, ih, List.all_cons, Bool.not_and]
    congr 1
    by_cases h : a = f
    · simp [h]
    · have h2 : ((a : Int) != (f : Int)) = true := by simp; omega
      rw [h2]
      simp [h]
theorem done_bad (n : Int) (v : Value) (cs : List (List Int)) (E : Int) (hE : callsE n cs = E) (hne : E ≠ 0) (w : World) (hr : CallsIs w v cs) :
    Calls Tryd.prog 9 #[.int .i64 n, v] w fun e w' => e = .returned (.tuple #[.bool false, eV E]) ∧ Below w.heap.size w w' := by
  have HE : Hid (callsE n cs = E) := hE
  have HN : Hid (E ≠ 0) := hne
  have HR : Hid (CallsIs w v cs) := hr
  obtain ⟨_, p, cap, rfl, _⟩ := hr.parts
  clear hE hne hr
  go_enter Tryd.func9, Tryd.ntmps9
  go_wp2_with fail
  refine (play_bad n _ cs E HE.out HN.out _ HR.out).mono ?_
  rintro e w1 ⟨rfl, hb⟩
  have B1 : Hid (Below w.heap.size w w1) := hb
  clear hb
  rw [eV_err HN.out]
  go_wp2_with fail
  go_ret2
  exact ⟨by rw [eV_err HN.out] <;> rfl, B1.out⟩
set_option maxHeartbeats 8000000 in
theorem done_ok (n : Nat) (v : Value) (cs : List (List Int)) (hE : callsE n cs = 0) (D : Bool) (hD : (knowG n cs).all (fun x => x == fullG n) = D) (w : World) (hr : CallsIs w v cs) :
    Calls Tryd.prog 9 #[.int .i64 n, v] w fun e w' => e = .returned (.tuple #[.bool D, .nilIface]) ∧ Below w.heap.size w w' := by
  have HE : Hid (callsE n cs = 0) := hE
  have HR : Hid (CallsIs w v cs) := hr
  obtain ⟨⟨k, hk, hk1, hk6⟩, _, _⟩ := callsE_ok hE
  obtain rfl : k = n := by omega
  obtain ⟨_, p, cap, rfl, _⟩ := hr.parts
  clear hE hr hk
  have HW : Hid (∀ (W W1 : World) (g fb : Nat), ManyAt W1 g k (atZ (knowG k cs)) → Below W1.heap.size W1 W → W.cell? ⟨fb, 0, none⟩ = some (.int .i64 ((fullG k : Nat) : Int)) →
      Calls Tryd.prog 38 #[.slice (some ⟨g, 0, none⟩) k k, .func (.func 39) #[] #[.pointer (some ⟨fb, 0, none⟩)]] W fun e w' => e = .returned (.bool (!D)) ∧ Below W.heap.size W w') := by
    intro W W1 g fb hm hb hc
    have hi : IntsIs W (.slice (some ⟨g, 0, none⟩) k k) (numZ (knowG k cs)) := ((hm.ints (knowG_len _ _) (by unfold maxLen; omega)).below hb)
    refine containsF_c 39 #[.pointer (some ⟨fb, 0, none⟩)] _ (numZ (knowG k cs)) (fun j => (numZ (knowG k cs)).getD j 0 != ((fullG k : Nat) : Int)) (!D) W hi (enters_of Tryd.func39 (by kernel_rfl) rfl) ?_ ?_
    · intro j hj W' hW'
      rw [getD_at _ _ _ hj]
      exact lacksG_c _ _ fb _ rfl W' (old_cellG hW' hc)
    · rw [any_range (numZ (knowG k cs)) 0 (fun x => x != ((fullG k : Nat) : Int)), any_full, hD]
  clear hD
  have h6 : k = 1 ∨ k = 2 ∨ k = 3 ∨ k = 4 ∨ k = 5 ∨ k = 6 := by omega
  rcases h6 with rfl | rfl | rfl | rfl | rfl | rfl
  all_goals
    go_enter Tryd.func9, Tryd.ntmps9
    go_wp2_with fail
    refine (play_ok _ _ cs HE.out _ HR.out).mono ?_
    rintro e w1 ⟨⟨g, rfl, hm, hg⟩, hb⟩
    have HM : Hid _ := hm
    have B1 : Hid (Below w.heap.size w w1) := hb
    clear hb hm
    go_wp2_with fail
    refine Calls.mono (HW.out _ w1 g _ HM.out (by go_grown) (by simp [fullG])) ?_
    rintro e w2 ⟨rfl, hb⟩
    have B2 : Hid (Below w.heap.size w w2) := (B1.out.trans (show Below w.heap.size w1 _ from (show Below w1.heap.size w1 _ by go_grown).mono B1.out.size)).trans (hb.mono (Nat.le_trans B1.out.size (by simp)))
    clear hb
    go_wp2_with fail
    go_ret2
    exact ⟨by simp, B2.out⟩
end Go.Proofs.YtpcnfoaoajfhlaaDoor

namespace Go.Proofs.YtpcnfoaoajfhlaaDoor
set_option linter.unusedVariables false
set_option linter.unusedSimpArgs false
open Go.RowKit

theorem done_n (n : Int) (v : Value) (cs : List (List Int)) (E : Int) (D : Bool) (hE : callsE n cs = E) (hD : doneZ n cs = D) (w : World) (hr : CallsIs w v cs) :
    Calls Tryd.prog 9 #[.int .i64 n, v] w fun e w' => e = .returned (.tuple #[.bool D, eV E]) ∧ Below w.heap.size w w' := by
  by_cases h : E = 0
  · subst h
    obtain ⟨⟨k, rfl, hk1, hk6⟩, _, _⟩ := callsE_ok hE
    have hD2 : (knowG k cs).all (fun x => x == fullG k) = D := by
      rw [← hD, doneZ, hE, Int.toNat_natCast]
      simp
    refine (done_ok k v cs hE D hD2 w hr).mono ?_
    rintro e w' ⟨rfl, hb⟩
    exact ⟨by rw [eV_zero], hb⟩
  · have hD2 : D = false := by
      rw [← hD, doneZ, hE]
      simp [h]
    subst hD2
    exact done_bad n v cs E hE h w hr
/-- the plan of whatever number -/
theorem plan_right (k : Nat) (h1 : 1 ≤ k) (h6 : k ≤ 6) : callsE k (planL k) = 0 ∧ (knowG k (planL k)).all (fun x => x == fullG k) = true := by
  have h : k = 1 ∨ k = 2 ∨ k = 3 ∨ k = 4 ∨ k = 5 ∨ k = 6 := by omega
  rcases h with rfl | rfl | rfl | rfl | rfl | rfl <;> exact ⟨by decide, by decide⟩
/-- calls that are right, and by which all would know all or not -/
structure CallsOk (n : Nat) (D : Bool) (cs : List (List Int)) : Prop where
  right : callsE n cs = 0
  done : D = true → doneG n (knowG n cs)
theorem callsOk_plan (k : Nat) (h1 : 1 ≤ k) (h6 : k ≤ 6) : CallsOk k true (planL k) :=
  ⟨(plan_right k h1 h6).1, fun _ => (doneG_all (knowG_len k _)).1 (plan_right k h1 h6).2⟩
theorem callsOk_own {k : Nat} {D : Bool} {cs : List (List Int)} (hE : callsE k cs = 0) (hD : doneZ k cs = D) : CallsOk k D cs := by
  refine ⟨hE, fun h => (doneG_all (knowG_len k cs)).1 ?_⟩
  rw [h, doneZ, hE, Int.toNat_natCast] at hD
  simpa using hD
theorem CallsOk.at {n : Nat} {D : Bool} {cs : List (List Int)} (h : CallsOk n D cs) {i : Nat} (hi : i < cs.length) : ∃ a b : Nat, cs[i] = [(a : Int), (b : Int)] ∧ a < n ∧ b < n ∧ a ≠ b ∧ knowG n (cs.take (i + 1)) = stepG (knowG n (cs.take i)) (a, b) := by
  obtain ⟨a, b, e, ha, hb, hab⟩ := callE_ok ((callsE_ok h.right).2.2 cs[i] (List.getElem_mem hi))
  refine ⟨a, b, e, ha, hb, hab, ?_⟩
  rw [knowG_take hi, e]
  rfl
/-- calls of two nodes each, and where they lie -/
def CallsAt (X : Nat → Prop) (w : World) (v : Value) (ls : List (List Int)) : Prop :=
  ∃ p cap, v = .slice p ls.length cap ∧ (ls ≠ [] → ∃ b o, p = some ⟨b, o, none⟩ ∧ X b ∧ b < w.heap.size ∧ ∀ j (_ : j < ls.length), ∃ g o2 c2 x y, w.cell? ⟨b, o + j, none⟩ = some (.slice (some ⟨g, o2, none⟩) 2 c2) ∧ X g ∧ g < w.heap.size ∧ ls[j] = [x, y] ∧ w.cell? ⟨g, o2, none⟩ = some (.int .i64 x) ∧ w.cell? ⟨g, o2 + 1, none⟩ = some (.int .i64 y))
theorem CallsAt.keep {X : Nat → Prop} {w w' : World} {v : Value} {ls : List (List Int)} (h : CallsAt X w v ls) (hs : w.heap.size ≤ w'.heap.size) (hb : ∀ c, X c → c < w.heap.size → w'.heap[c]? = w.heap[c]?) : CallsAt X w' v ls := by
  obtain ⟨p, cap, rfl, h1⟩ := h
  refine ⟨p, cap, rfl, fun h0 => ?_⟩
  obtain ⟨b, o, rfl, hX, hl, hj⟩ := h1 h0
  refine ⟨b, o, rfl, hX, Nat.lt_of_lt_of_le hl hs, fun j hj' => ?_⟩
  obtain ⟨g, o2, c2, x, y, k1, k2, k3, k4, k5, k6⟩ := hj j hj'
  exact ⟨g, o2, c2, x, y, (World.cell?_of_block (a := ⟨b, o + j, none⟩) (hb b hX hl)).trans k1, k2, Nat.lt_of_lt_of_le k3 hs, k4, (World.cell?_of_block (a := ⟨g, o2, none⟩) (hb g k2 k3)).trans k5, (World.cell?_of_block (a := ⟨g, o2 + 1, none⟩) (hb g k2 k3)).trans k6⟩
theorem callsAt_of {X : Nat → Prop} {w : World} {v : Value} {us : List Value} {ls : List (List Int)} {n : Nat} {D : Bool} (ok : CallsOk n D ls) (hu : us.length = ls.length) (hv : ValsIs w v us) (hi : ∀ j (h : j < us.length) (h' : j < ls.length), IntsIs w us[j] ls[j])
    (hX : ∀ c, v.ownBlock = some c → c < w.heap.size → X c) (hY : ∀ u ∈ us, ∀ c, u.ownBlock = some c → c < w.heap.size → X c) : CallsAt X w v ls := by
  obtain ⟨_, p, cap, rfl, _, h1⟩ := hv
  rw [hu]
  refine ⟨p, cap, rfl, fun h0 => ?_⟩
  obtain ⟨b, o, rfl, hl, hj⟩ := h1 (fun e => by rw [e] at hu; exact h0 (List.length_eq_zero_iff.1 hu.symm))
  refine ⟨b, o, rfl, hX b rfl hl, hl, fun j hj' => ?_⟩
  have hju : j < us.length := by omega
  obtain ⟨x, y, e, _⟩ := ok.at hj'
  have h2 := hi j hju hj'
  have h3 := hY us[j] (List.getElem_mem hju)
  have h4 := hj j hju
  rw [e] at h2
  generalize us[j] = u at h2 h3 h4
  obtain ⟨_, q, c2, rfl, h5⟩ := h2
  obtain ⟨g, o2, rfl, hg, h6⟩ := h5 (by simp)
  refine ⟨g, o2, c2, x, y, h4, h3 g rfl hg, hg, e, ?_, ?_⟩
  · have := h6 0 (by simp)
    simpa using this
  · have := h6 1 (by simp)
    simpa using this
theorem CallsOk.len {n : Nat} {D : Bool} {cs : List (List Int)} (h : CallsOk n D cs) : cs.length ≤ 40 := (callsE_ok h.right).2.1
end Go.Proofs.YtpcnfoaoajfhlaaDoor
