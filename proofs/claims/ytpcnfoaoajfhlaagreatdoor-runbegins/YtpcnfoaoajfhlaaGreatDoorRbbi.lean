/-
  Package ring by its contracts: Owner, Owners.
  What a row of numbers and a row of points that came in are.
  meresame.Error by its contract, whatever the error's number.
  Package ring's answers to whatever it is asked, with letters.
-/
import Derived.Test.YtpcnfoaoajfhlaaGreatDoorRbbh
import Derived.Test.YtpcnfoaoajfhlaaGreatDoorRbbf
import Derived.Test.YtpcnfoaoajfhlaaGreatDoorRbbd
import Derived.ProofKit
import Derived.OpenShut
import Derived.Deep.Fields
import Derived.ChangeOld
import Derived.RowKitTokens
import Derived.Deep.Slices
import Derived.Test.YtpcnfoaoajfhlaaGreatDoorRban
import Derived.Test.YtpcnfoaoajfhlaaGreatDoorRbaa
import Derived.Test.YtpcnfoaoajfhlaaGreatDoorRbbg
namespace Go.Proofs.YtpcnfoaoajfhlaaGreatDoor
set_option linter.unusedVariables false
set_option linter.unusedSimpArgs false
set_option linter.unusedVariables false
set_option linter.unusedSimpArgs false
open Go.RowKit

set_option maxHeartbeats 1000000 in
theorem owner_bad (v : Value) (l : List Pt) (key : Int) (w : World) (e0 : Int) (hr : PtsIs w v l) (he : badFind l key = e0) (h0 : e0 ≠ 0) :
    Calls Tryz.prog 170 #[v, .int .i64 key] w fun e w' => e = .returned (.tuple #[.int .i64 0, .iface 85 (.int .i64 e0)]) ∧ Below w.heap.size w w' := by
  have HF : Hid _ := find_bad v l key w e0 hr he h0
  clear hr he
  go_enter Tryz.func170, Tryz.ntmps170
  go_wp2_with fail
  refine Calls.mono HF.out ?_
  rintro e w1 ⟨rfl, hb⟩
  have B1 : Hid (Below w.heap.size w w1) := hb
  clear hb
  go_wp2_with fail
  go_ret2
  exact ⟨rfl, B1.out⟩
set_option maxHeartbeats 1000000 in
theorem owner_ok (v : Value) (l : List Pt) (k : Nat) (w : World) (x : Int) (hr : PtsIs w v l) (hR : rightP l = true) (hk : k ≤ 7) (hx : ownP (keyT k) l = some x) (hT : Lib.TabIs Tryz.prog w powName .u64 Lib.pow10Tab) :
    Calls Tryz.prog 170 #[v, .int .i64 (k : Nat)] w fun e w' => e = .returned (.tuple #[.int .i64 x, .nilIface]) ∧ Below w.heap.size w w' := by
  have HF : Hid _ := find_ok v l k w hr hR hk hT
  have hlen := right_len hR
  have hne : l ≠ [] := by intro h; rw [h] at hlen; simp at hlen
  have hlt := firstQ_lt (t := keyT k) hne
  have hv : l[firstQ (keyT k) l].n = x := by
    rw [own_first hlt] at hx
    exact Option.some.inj hx
  obtain ⟨_, p, cap, rfl, hrow⟩ := hr
  obtain ⟨b, o, rfl, hbw, hat⟩ := hrow hne
  have HAt : Hid (PtAt w b (o + firstQ (keyT k) l * 2) l[firstQ (keyT k) l]) := hat _ hlt
  have hl1 : (firstQ (keyT k) l : Int) < (l.length : Int) := by omega
  generalize l[firstQ (keyT k) l] = y at *
  clear hx hR hT hrow hat
  generalize firstQ (keyT k) l = Q at *
  have hl48 : l.length ≤ 48 := hlen.2
  clear hlen hne
  generalize l.length = n at *
  go_enter Tryz.func170, Tryz.ntmps170
  go_wp2_with fail
  refine Calls.mono HF.out ?_
  rintro e w1 ⟨rfl, hb⟩
  have B1 : Hid (Below w.heap.size w w1) := hb
  clear hb
  have c1 := (HAt.out.of_block (B1.out.block b hbw)).c1
  rw [hv] at c1
  go_wp2_with fail
  go_ret2
  exact ⟨rfl, B1.out⟩
set_option maxHeartbeats 1000000 in
theorem owners_bad (v : Value) (l : List Pt) (key many : Int) (w : World) (e0 : Int) (hr : PtsIs w v l) (he : badFind l key = e0) (h0 : e0 ≠ 0) :
    Calls Tryz.prog 21 #[v, .int .i64 key, .int .i64 many] w fun e w' => e = .returned (.tuple #[.slice none 0 0, .iface 85 (.int .i64 e0)]) ∧ Below w.heap.size w w' := by
  have HF : Hid _ := find_bad v l key w e0 hr he h0
  clear hr he
  go_enter Tryz.func21, Tryz.ntmps21
  go_wp2_with fail
  refine Calls.mono HF.out ?_
  rintro e w1 ⟨rfl, hb⟩
  have B1 : Hid (Below w.heap.size w w1) := hb
  clear hb
  go_wp2_with fail
  go_ret2
  exact ⟨rfl, B1.out⟩
set_option maxHeartbeats 1000000 in
theorem owners_many (v : Value) (l : List Pt) (k : Nat) (many : Int) (w : World) (hr : PtsIs w v l) (hR : rightP l = true) (hk : k ≤ 7) (hm : inR many 1 6 = false) (hT : Lib.TabIs Tryz.prog w powName .u64 Lib.pow10Tab) :
    Calls Tryz.prog 21 #[v, .int .i64 (k : Nat), .int .i64 many] w fun e w' => e = .returned (.tuple #[.slice none 0 0, .iface 85 (.int .i64 1)]) ∧ Below w.heap.size w w' := by
  have HF : Hid _ := find_ok v l k w hr hR hk hT
  have HM : Hid (inR many 1 6 = false) := hm
  clear hr hR hT hm
  generalize firstQ (keyT k) l = Q at *
  go_enter Tryz.func21, Tryz.ntmps21
  go_wp2_with fail
  refine Calls.mono HF.out ?_
  rintro e w1 ⟨rfl, hb⟩
  have B1 : Hid (Below w.heap.size w w1) := hb
  clear hb
  go_wp2_with (go_at_call 58; refine (withinR_b _ _ _ false _ HM.out).mono ?_; rintro e w' ⟨rfl, rfl⟩)
  go_ret2
  exact ⟨rfl, B1.out⟩
theorem rem_nat (a n : Nat) : ((a : Int)).tmod (n : Int) = ((a % n : Nat) : Int) := (Int.ofNat_tmod a n).symm ▸ rfl
/-- what Owners answers, all being right -/
def OwnersAns (B : Nat) (w : World) (e : Ending) (os : List Int) (m : Nat) : Prop :=
  (m ≤ os.length ∧ ∃ v, e = .returned (.tuple #[v, .nilIface]) ∧ OwnI B w v (os.take m)) ∨ (¬ m ≤ os.length ∧ e = .returned (.tuple #[.slice none 0 0, .iface 85 (.int .i64 5)]))
set_option maxHeartbeats 8000000 in
theorem owners_ok (v : Value) (l : List Pt) (k m : Nat) (w : World) (hr : PtsIs w v l) (hR : rightP l = true) (hk : k ≤ 7) (h1 : 1 ≤ m) (h6 : m ≤ 6) (hT : Lib.TabIs Tryz.prog w powName .u64 Lib.pow10Tab) :
    Calls Tryz.prog 21 #[v, .int .i64 (k : Nat), .int .i64 (m : Nat)] w fun e w' => OwnersAns w.heap.size w' e (ownersL (keyT k) l) m ∧ Below w.heap.size w w' := by
  have HF : Hid _ := find_ok v l k w hr hR hk hT
  have HM : Hid (inR (m : Int) 1 6 = true) := by
    show inR (m : Int) 1 6 = true
    simp [inR]
    omega
  have hlen := right_len hR
  have hne : l ≠ [] := by intro h; rw [h] at hlen; simp at hlen
  have hlt := firstQ_lt (t := keyT k) hne
  have HIn : Hid (∀ x ∈ l, inP x = true) := right_in l none (by
    unfold rightP at hR
    rw [Bool.and_eq_true] at hR
    exact hR.2)
  obtain ⟨_, p, cap, rfl, hrow⟩ := hr
  obtain ⟨b, o, rfl, hbw, hat⟩ := hrow hne
  have HAt : Hid (∀ j (h : j < l.length), PtAt w b (o + j * 2) l[j]) := hat
  obtain ⟨Q, HQ⟩ : ∃ Q, Hid (firstQ (keyT k) l = Q) := ⟨_, rfl⟩
  obtain ⟨n, HN⟩ : ∃ n, Hid (l.length = n) := ⟨_, rfl⟩
  clear hrow hat hR hT hne
  rw [HQ.out] at HF hlt
  rw [HN.out] at HF hlt hlen ⊢
  have h48 : n ≤ 48 := hlen.2
  have h0n : 1 ≤ n := hlen.1
  clear hlen
  go_enter Tryz.func21, Tryz.ntmps21
  go_wp2_with fail
  refine Calls.mono HF.out ?_
  rintro e w1 ⟨rfl, hb⟩
  have B1 : Hid (Below w.heap.size w w1) := hb
  clear hb
  go_wp2_with (go_at_call 58; refine (withinR_b _ _ _ true _ HM.out).mono ?_; rintro e w' ⟨rfl, hw⟩; have hw' := hw.symm; clear hw; subst hw')
  go_loopw [10, 28] (fun s10 s28 wr => ∃ (j : Nat) (v10 : Value), s10 = v10 ∧ j ≤ n ∧ s28 = .int .i64 j ∧ Hid (OwnI w.heap.size wr v10 (metN (keyT k) l j)) ∧ Hid ((metN (keyT k) l j).length < m) ∧ Hid (Below w.heap.size w wr)) (fun _ i _ => n - (intOf i).toNat)
  case atStart => exact ⟨0, .slice none 0 0, rfl, Nat.zero_le _, rfl, OwnI.nil _ _, by show (metN (keyT k) l 0).length < m; rw [metN_zero]; simp; omega, B1⟩
  case round =>
    obtain ⟨j, v10, hs10, hj, rfl, HO, HL, HB⟩ := hrel
    have hs10' := hs10.symm
    clear hs10
    subst hs10'
    by_cases hltj : j < n
    · have hlti : (j : Int) < (n : Int) := by omega
      have hws := HB.out.size
      obtain ⟨r, HRm⟩ : ∃ r, Hid ((Q + j) % n = r) := ⟨_, rfl⟩
      have hrn : r < n := by rw [← HRm.out]; exact Nat.mod_lt _ (by omega)
      have hrl : r < l.length := by rw [HN.out]; exact hrn
      have hrem : ((Q : Int) + (j : Int)).tmod (n : Int) = (r : Int) := by
        rw [← HRm.out, ← rem_nat]
        rfl
      have hri : (r : Int) < (n : Int) := by omega
      have c1 := ((HAt.out r hrl).of_block (HB.out.block b hbw)).c1
      have HStep : Hid (metN (keyT k) l (j + 1) = if (metN (keyT k) l j).contains l[r].n = true then metN (keyT k) l j else metN (keyT k) l j ++ [l[r].n]) := by
        refine metN_step (by rw [HN.out]; exact hltj) (fun hr' => ?_)
        rw [rotN_get (by rw [HN.out]; exact hltj) (Nat.mod_lt _ (by omega)) hr']
        have e : (firstQ (keyT k) l + j) % l.length = r := by rw [HQ.out, HN.out]; exact HRm.out
        simp only [e]
      have HFew : Hid ((metN (keyT k) l (j + 1)).length ≤ 6) := metN_few HIn.out _
      obtain ⟨x, HX⟩ : ∃ x, Hid (l[r].n = x) := ⟨l[r].n, show l[r].n = l[r].n from rfl⟩
      rw [HX.out] at c1 HStep
      obtain ⟨xs, HXs⟩ : ∃ xs, Hid (metN (keyT k) l j = xs) := ⟨_, rfl⟩
      rw [HXs.out] at HO HL HStep
      obtain ⟨hxl, pv, cv, hv10, _⟩ := HO.out.ints
      subst hv10
      cases hc : xs.contains x
      · have HE : Hid (metN (keyT k) l (j + 1) = xs ++ [x]) := by show _ = _; rw [HStep.out, if_neg (by rw [hc]; simp)]
        have HC : Hid (xs.contains x = false) := hc
        rw [HE.out] at HFew
        have hx6 : xs.length + 1 ≤ 6 := by have := HFew.out; rw [List.length_append] at this; exact this
        have HOa : Hid (OwnI w.heap.size (wr.alloc (.cells #[.int .i64 x] 3)) (.slice pv xs.length cv) xs) := HO.out.below ((Below.refl _ _).alloc (Nat.le_refl _) _)
        have HVa : Hid ((wr.alloc (.cells #[.int .i64 x] 3)).heap[wr.heap.size]? = some (.cells #[.int .i64 x] 3 (0, 0))) := alloc_at _ _ _ rfl
        have HSa : Hid (w.heap.size ≤ (wr.alloc (.cells #[.int .i64 x] 3)).heap.size) := show _ ≤ _ from (by simp; omega)
        have HLa : Hid (xs.length ≤ 100) := show xs.length ≤ 100 from (by omega)
        have HBa : Hid (Below w.heap.size w (wr.alloc (.cells #[.int .i64 x] 3))) := HB.out.alloc hws _
        clear hc
        go_wp2_with fail
        refine (containsI_c _ xs x false _ HO.out.ints HC.out).mono ?_
        rintro e w2 ⟨rfl, hw⟩
        have hw' := hw.symm
        clear hw
        subst hw'
        go_wp2_with (at_builtin; refine wp_appI _ rfl _ _ rfl w.heap.size _ xs x rfl HOa.out _ rfl HVa.out HLa.out HSa.out ?_)
        intro va wa hown hgrow
        have HOp : Hid (OwnI w.heap.size wa va (xs ++ [x])) := hown
        have HBp : Hid (Below w.heap.size w wa) := below_grownF HBa.out (Nat.le_refl _) hgrow.out (fun c hc => HO.out.from c hc)
        clear hown hgrow HOa HVa HLa HSa HBa c1
        obtain ⟨hal, pa, ca, hva, _⟩ := HOp.out.ints
        subst hva
        rw [List.length_append] at HOp
        have hl1 : (xs ++ [x]).length = xs.length + 1 := by simp
        rw [hl1]
        by_cases hm : xs.length + 1 = m
        · have hmb : (((xs.length + 1 : Nat) : Int) == (m : Int)) = true := by simp; omega
          have HTk : Hid ((ownersL (keyT k) l).take m = xs ++ [x] ∧ m ≤ (ownersL (keyT k) l).length) := by
            have := metN_take (t := keyT k) (l := l) (i := j + 1) (m := m) (by rw [HE.out, hl1]; exact hm)
            rw [HE.out] at this
            exact this
          go_wp2_with fail
          go_ret2
          refine ⟨.inl ⟨HTk.out.2, _, rfl, ?_⟩, HBp.out⟩
          rw [HTk.out.1]
          exact HOp.out
        · have hmb : (((xs.length + 1 : Nat) : Int) == (m : Int)) = false := by simp; omega
          have HLn : Hid ((metN (keyT k) l (j + 1)).length < m) := by
            show _ < m
            rw [HE.out, hl1]
            have := HL.out
            omega
          go_wp2_with fail
          go_roundw
          case rel =>
            refine ⟨j + 1, _, rfl, by omega, by go_num, ?_, HLn, HBp⟩
            show OwnI _ _ _ _
            rw [HE.out]
            exact HOp.out
          case measure => simp [intOf]; omega
      · have HE : Hid (metN (keyT k) l (j + 1) = xs) := by show _ = _; rw [HStep.out, if_pos hc]
        have HC : Hid (xs.contains x = true) := hc
        have hlm : ¬ ((xs.length : Int) = (m : Int)) := by have := HL.out; omega
        have hlb : ((xs.length : Int) == (m : Int)) = false := by simpa using hlm
        clear hc
        go_wp2_with fail
        refine (containsI_c _ xs x true _ HO.out.ints HC.out).mono ?_
        rintro e w2 ⟨rfl, hw⟩
        have hw' := hw.symm
        clear hw
        subst hw'
        go_wp2_with fail
        go_roundw
        case rel =>
          refine ⟨j + 1, _, rfl, by omega, by go_num, ?_, ?_, HB⟩
          · show OwnI _ _ _ _
            rw [HE.out]
            exact HO.out
          · show _ < m
            rw [HE.out]
            exact HL.out
        case measure => simp [intOf]; omega
    · obtain rfl : j = n := by omega
      have HA : Hid (¬ m ≤ (ownersL (keyT k) l).length) := by
        show ¬ _
        rw [← metN_all, HN.out]
        have := HL.out
        omega
      go_wp2_with fail
      go_ret2
      exact ⟨.inr ⟨HA.out, rfl⟩, HB.out⟩
end Go.Proofs.YtpcnfoaoajfhlaaGreatDoor

namespace Go.Proofs.YtpcnfoaoajfhlaaGreatDoor
set_option linter.unusedVariables false
set_option linter.unusedSimpArgs false
open Go.ChangeShapes Go.WideShapes Go.RowKit Go.Deep

set_option maxRecDepth 100000 in
theorem cell_pt {H : Type} {enc : TypeId × Value → H} {w : World} {base : Nat} {spare : Nat → Bool} {held : Bool} {n : Nat} {a : Addr} {cs : List Value} {x : DataW H × List MemPlace}
    (h1 : w.cells? base a 2 = some cs) (h2 : DataW.trod enc Tryz.prog w base spare held n 110 cs = some x) :
    ∃ e : Pt, w.cell? (a.add 0) = some (.int .i64 e.p) ∧ w.cell? (a.add 1) = some (.int .i64 e.n) := by
  obtain ⟨_, hlen, hcell⟩ := World.cells?_some h1
  obtain ⟨xs, k, _, _, _, hxl, hf⟩ := DataW.trod_struct Tryz.underlying110 h2
  match xs, hxl, cs, hlen, hcell, hf with
  | [y0, y1], _, [c0, c1], _, hcell, hf =>
    have g0 := hf 0 _ rfl
    have g1 := hf 1 _ rfl
    have ci : Tryz.prog.cellsOf 3 = 1 := by kernel_rfl
    simp [ci] at g0 g1
    obtain ⟨x0, e0, _, _⟩ := DataW.trod_int Tryz.underlying3 g0
    obtain ⟨x1, e1, _, _⟩ := DataW.trod_int Tryz.underlying3 g1
    simp at e0 e1
    subst e0 e1
    have k0 := hcell 0 (by omega)
    have k1 := hcell 1 (by omega)
    exact ⟨⟨x0, x1⟩, by simpa using k0, by simpa using k1⟩
set_option maxRecDepth 100000 in
/-- points that came in -/
theorem pts_of {H : Type} {enc : TypeId × Value → H} {w : World} {base : Nat} {spare : Nat → Bool} {held : Bool} {r : Reach} {b0 : Nat} {v : Value} {d : DataW H} {p : List MemPlace}
    (hv : Value.okWide Tryz.prog w r b0 59 v) (h : DataW.Trod enc Tryz.prog w base spare held 59 v d p) : ∃ l, PtsIs w v l := by
  obtain ⟨a0, len0, cap0, rfl⟩ := okWide_slice Tryz.underlying59 hv
  obtain ⟨fuel, hf⟩ := h
  rcases open_slice Tryz.underlying59 hf with ⟨hcs, _⟩ | ⟨a, len, cap, m, n, D, Pl, hcs, _, hl, hm, hmm, _, hx⟩
  · simp [Value.cells] at hcs
    obtain ⟨rfl, rfl, rfl⟩ := hcs
    exact ⟨[], PtsIs.nil w⟩
  · simp [Value.cells] at hcs
    obtain ⟨rfl, rfl, rfl⟩ := hcs
    have hlm : len0 ≤ m := by rw [hmm]; split <;> omega
    have ce : Tryz.prog.cellsOf 110 = 2 := by kernel_rfl
    have each : ∀ i, i < len0 → ∃ e : Pt, w.cell? (a.add (i * 2)) = some (.int .i64 e.p) ∧ w.cell? (a.add (i * 2 + 1)) = some (.int .i64 e.n) := by
      intro i hi
      obtain ⟨cs', h1, h2⟩ := hx i (by omega)
      rw [ce] at h1
      obtain ⟨e, k0, k1⟩ := cell_pt h1 h2
      rw [add_add] at k0 k1
      exact ⟨e, k0, k1⟩
    have inh : Inhabited Pt := ⟨⟨0, 0⟩⟩
    obtain ⟨f, hfe⟩ := choose_lt each
    refine ⟨(List.range len0).map f, by simp; omega, some a, cap0, by simp, fun hne => ?_⟩
    have h0 : 0 < len0 := by
      rcases Nat.eq_zero_or_pos len0 with h | h
      · subst h; simp at hne
      · exact h
    obtain ⟨b, o, spot⟩ := a
    have hs : spot = none := by simpa [Addr.add] using World.cell?_spot (hfe 0 h0).1
    subst hs
    refine ⟨b, o, rfl, ?_, fun j hj => ?_⟩
    · have := World.block_lt_of_cell? w _ (hfe 0 h0).1
      simpa [Addr.add] using this
    · have hj' : j < len0 := by simpa using hj
      obtain ⟨k0, k1⟩ := hfe j hj'
      rw [Addr.add_lit] at k0 k1
      simp only [List.getElem_map, List.getElem_range]
      exact ⟨k0, by rw [Nat.add_assoc]; exact k1⟩
/-- numbers that came in, and the room behind them -/
def IntsCap (w : World) (v : Value) (l : List Int) : Prop := IntsIs w v l ∧ CapOk v l.length
set_option maxRecDepth 100000 in
theorem nums_of {H : Type} {enc : TypeId × Value → H} {w : World} {base : Nat} {spare : Nat → Bool} {held : Bool} {r : Reach} {b0 : Nat} {v : Value} {d : DataW H} {p : List MemPlace}
    (hv : Value.okWide Tryz.prog w r b0 39 v) (h : DataW.Trod enc Tryz.prog w base spare held 39 v d p) : ∃ l, IntsCap w v l := by
  obtain ⟨a0, len0, cap0, rfl⟩ := okWide_slice Tryz.underlying39 hv
  obtain ⟨fuel, hf⟩ := h
  rcases open_slice Tryz.underlying39 hf with ⟨hcs, _⟩ | ⟨a, len, cap, m, n, D, Pl, hcs, _, hl, hm, hmm, _, hx⟩
  · simp [Value.cells] at hcs
    obtain ⟨rfl, rfl, rfl⟩ := hcs
    exact ⟨[], IntsIs.nil w, CapOk.nil⟩
  · simp [Value.cells] at hcs
    obtain ⟨rfl, rfl, rfl⟩ := hcs
    have hlm : len0 ≤ m := by rw [hmm]; split <;> omega
    have ce : Tryz.prog.cellsOf 3 = 1 := by kernel_rfl
    have each : ∀ i, i < len0 → ∃ e : Int, w.cell? (a.add i) = some (.int .i64 e) := by
      intro i hi
      obtain ⟨cs', h1, h2⟩ := hx i (by omega)
      rw [ce, Nat.mul_one] at h1
      obtain ⟨_, hlen, hcell⟩ := World.cells?_some h1
      obtain ⟨x0, e0, _, _⟩ := DataW.trod_int Tryz.underlying3 h2
      subst e0
      have k0 := hcell 0 (by omega)
      exact ⟨x0, by simpa [add_add] using k0⟩
    obtain ⟨f, hfe⟩ := choose_lt each
    refine ⟨(List.range len0).map f, ⟨by simp; omega, some a, cap0, by simp, fun hne => ?_⟩, ⟨some a, cap0, by simp, by simpa using hl, hm⟩⟩
    have h0 : 0 < len0 := by
      rcases Nat.eq_zero_or_pos len0 with h | h
      · subst h; simp at hne
      · exact h
    obtain ⟨b, o, spot⟩ := a
    have hs : spot = none := by simpa [Addr.add] using World.cell?_spot (hfe 0 h0)
    subst hs
    refine ⟨b, o, rfl, ?_, fun j hj => ?_⟩
    · have := World.block_lt_of_cell? w _ (hfe 0 h0)
      simpa [Addr.add] using this
    · have hj' : j < len0 := by simpa using hj
      have k0 := hfe j hj'
      rw [Addr.add_lit] at k0
      simp only [List.getElem_map, List.getElem_range]
      exact k0
end Go.Proofs.YtpcnfoaoajfhlaaGreatDoor

namespace Go.Proofs.YtpcnfoaoajfhlaaGreatDoor
set_option linter.unusedVariables false
set_option linter.unusedSimpArgs false
open Go.RowKit
theorem err_any (n m : Int) (w : World) (hg : HasErr w) : Calls Tryz.prog 8 #[eV n, .int .i64 m] w fun e w' => e = .returned (.bool (n == m)) ∧ Below w.heap.size w w' := by
  by_cases h : n = 0
  · subst h
    exact (error_nil m w).mono fun e w' ⟨he, hw⟩ => ⟨he, hw ▸ Below.refl _ _⟩
  · have e : eV n = .iface 85 (.int .i64 n) := by simp [eV, h]
    rw [e]
    exact error_err n m w hg
theorem err_same (n : Int) (w : World) (hg : HasErr w) : Calls Tryz.prog 8 #[eV n, .int .i64 n] w fun e w' => e = .returned (.bool true) ∧ Below w.heap.size w w' := by
  have c := err_any n n w hg
  simp only [beq_self_eq_true] at c
  exact c
end Go.Proofs.YtpcnfoaoajfhlaaGreatDoor

namespace Go.Proofs.YtpcnfoaoajfhlaaGreatDoor
set_option linter.unusedVariables false
set_option linter.unusedSimpArgs false
open Go.RowKit

def ansP (nodes : List Int) (each : Int) : List Pt := if badPts nodes each = 0 then ptsL nodes each.toNat else []
theorem points_any {nodes : List Int} {each E1 : Int} {A : List Pt} (hE : badPts nodes each = E1) (hA : ansP nodes each = A) (v : Value) (w : World) (hr : IntsCap w v nodes) (hT : Lib.TabIs Tryz.prog w powName .u64 Lib.pow10Tab) :
    Calls Tryz.prog 20 #[v, .int .i64 each] w fun e w' => ∃ u, e = .returned (.tuple #[u, eV E1]) ∧ PtsIs w' u A ∧ Below w.heap.size w w' := by
  subst hA
  unfold ansP
  by_cases h : E1 = 0
  · rw [if_pos (hE.trans h)]
    subst h
    rw [eV_zero]
    obtain ⟨h1, k, rfl, h2, h3⟩ := badPts_good hE
    exact points_ok v nodes k w hr.1 hr.2 h1 h2 h3 hT
  · rw [if_neg (by rw [hE]; exact h), eV_err h]
    refine (points_bad v nodes each w E1 hr.1 hr.2 hE h).mono ?_
    rintro e w' ⟨rfl, hb⟩
    exact ⟨_, rfl, PtsIs.nil _, hb⟩
def ownerA (l : List Pt) (key : Int) : Int := if badFind l key = 0 then (ownP (keyT key.toNat) l).getD 0 else 0
theorem right_ne {l : List Pt} (h : rightP l = true) : l ≠ [] := by
  intro e
  have := right_len h
  rw [e] at this
  simp at this
theorem own_some {l : List Pt} (h : rightP l = true) (t : Int) : ∃ x, ownP t l = some x := ⟨_, own_first (firstQ_lt (right_ne h))⟩
theorem owner_any {l : List Pt} {key E2 X : Int} (hE : badFind l key = E2) (hX : ownerA l key = X) (v : Value) (w : World) (hr : PtsIs w v l) (hT : Lib.TabIs Tryz.prog w powName .u64 Lib.pow10Tab) :
    Calls Tryz.prog 170 #[v, .int .i64 key] w fun e w' => e = .returned (.tuple #[.int .i64 X, eV E2]) ∧ Below w.heap.size w w' := by
  subst hX
  unfold ownerA
  by_cases h : E2 = 0
  · rw [if_pos (hE.trans h)]
    subst h
    rw [eV_zero]
    obtain ⟨h1, h2⟩ := badFind_zero hE
    obtain ⟨k, rfl, hk⟩ := keyP_nat h2
    obtain ⟨x, hx⟩ := own_some h1 (keyT k)
    have e : (ownP (keyT (k : Int).toNat) l).getD 0 = x := by
      rw [Int.toNat_natCast, hx]
      rfl
    rw [e]
    exact owner_ok v l k w x hr h1 hk hx hT
  · rw [if_neg (by rw [hE]; exact h), eV_err h]
    exact owner_bad v l key w E2 hr hE h
/-- the owners of a key by right points, as many as there are -/
def allO (l : List Pt) (key : Int) : List Int := ownersL (keyT key.toNat) l
def badOwn (l : List Pt) (key many : Int) : Int := if badFind l key ≠ 0 then badFind l key else if inR many 1 6 = false then 1 else if ((allO l key).length : Int) < many then 5 else 0
def ansO (l : List Pt) (key many : Int) : List Int := if badOwn l key many = 0 then (allO l key).take many.toNat else []
theorem owners_any {l : List Pt} {key many E3 : Int} {O : List Int} (hE : badOwn l key many = E3) (hO : ansO l key many = O) (v : Value) (w : World) (hr : PtsIs w v l) (hT : Lib.TabIs Tryz.prog w powName .u64 Lib.pow10Tab) :
    Calls Tryz.prog 21 #[v, .int .i64 key, .int .i64 many] w fun e w' => ∃ u, e = .returned (.tuple #[u, eV E3]) ∧ IntsCap w' u O ∧ Below w.heap.size w w' := by
  subst hO
  unfold ansO
  rw [hE]
  unfold badOwn at hE
  by_cases h : badFind l key = 0
  · rw [if_neg (by simpa using h)] at hE
    obtain ⟨h1, h2⟩ := badFind_zero h
    obtain ⟨k, rfl, hk⟩ := keyP_nat h2
    cases hm : inR many 1 6
    · rw [if_pos hm] at hE
      subst hE
      rw [if_neg (by omega), eV_err (by omega)]
      refine (owners_many v l k many w hr h1 hk hm hT).mono ?_
      rintro e w' ⟨rfl, hb⟩
      exact ⟨_, rfl, ⟨IntsIs.nil _, CapOk.nil⟩, hb⟩
    · rw [if_neg (by rw [hm]; simp)] at hE
      obtain ⟨m, rfl, hm1, hm6⟩ : ∃ m : Nat, many = (m : Int) ∧ 1 ≤ m ∧ m ≤ 6 := by
        simp [inR] at hm
        exact ⟨many.toNat, by omega, by omega, by omega⟩
      refine (owners_ok v l k m w hr h1 hk hm1 hm6 hT).mono ?_
      rintro e w' ⟨ha, hb⟩
      have ea : allO l (k : Int) = ownersL (keyT k) l := by unfold allO; rw [Int.toNat_natCast]
      rw [ea] at hE ⊢
      rcases ha with ⟨hle, u, rfl, hu⟩ | ⟨hle, rfl⟩
      · rw [if_neg (by omega)] at hE
        subst hE
        rw [if_pos rfl, eV_zero, Int.toNat_natCast]
        exact ⟨u, rfl, ⟨hu.ints, hu.cap⟩, hb⟩
      · rw [if_pos (by omega)] at hE
        subst hE
        rw [if_neg (by omega), eV_err (by omega)]
        exact ⟨_, rfl, ⟨IntsIs.nil _, CapOk.nil⟩, hb⟩
  · rw [if_pos h] at hE
    rw [hE] at h
    rw [if_neg h, eV_err h]
    refine (owners_bad v l key many w E3 hr hE h).mono ?_
    rintro e w' ⟨rfl, hb⟩
    exact ⟨_, rfl, ⟨IntsIs.nil _, CapOk.nil⟩, hb⟩
theorem IntsCap.below {w w' : World} {v : Value} {l : List Int} (h : IntsCap w v l) (hb : Below w.heap.size w w') : IntsCap w' v l := ⟨h.1.below hb, h.2⟩
theorem allO_head {l : List Pt} {key : Int} (h : rightP l = true) : ∃ x r, allO l key = x :: r ∧ ownP (keyT key.toNat) l = some x := by
  obtain ⟨x, hx⟩ := own_some h (keyT key.toNat)
  have hh := owners_head (keyT key.toNat) l
  rw [hx] at hh
  unfold allO
  cases hl : ownersL (keyT key.toNat) l with
  | nil => rw [hl] at hh; cases hh
  | cons y r =>
    rw [hl] at hh
    exact ⟨y, r, rfl, by rw [hx]; exact hh.symm⟩
end Go.Proofs.YtpcnfoaoajfhlaaGreatDoor
