/-
  Package mail by its contracts: Twice.
-/
import Derived.Test.YtbincnajklmnaaaMlS
namespace Go.Proofs.Ytbincnajklmnaaa
set_option linter.unusedVariables false
set_option linter.unusedSimpArgs false
open Go.RowKit
attribute [local go_sem ↓] Go.wp_at_zero Go.wp_at_succ

/-- the fault of Twice, and what is there behind it -/
def twiceE (n : Nat) (i : Int) : Int := if (decide (0 ≤ i) && decide (i < n)) = true then (if 40 ≤ n then 4 else 0) else 1
def twiceL (l : List Lt) (i : Int) : List Lt := if twiceE l.length i = 0 then l ++ (l.drop i.toNat).take 1 else l
theorem mlTwice_bad {w : World} {b n : Nat} {p : Option Addr} {cap : Nat} {i : Int} (h : w.cell? ⟨b, 0, none⟩ = some (.slice p n cap)) (hi : (decide (0 ≤ i) && decide (i < n)) = false) :
    Calls Try.prog 13 #[.pointer (some ⟨b, 0, none⟩), .int .i64 i] w fun e w' => e = .returned (.iface 65 (.int .i64 1)) ∧ Below w.heap.size w w' := by
  have HI : Hid ((decide (0 ≤ i) && decide (i < n)) = false) := hi
  clear hi
  go_enter Try.func13, Try.ntmps13
  go_wp2_with fail
  refine (mlHas_b h HI.out).mono ?_
  rintro e w1 ⟨rfl, rfl⟩
  go_wp2_with fail
  go_ret
  exact ⟨rfl, Below.refl _ _⟩
theorem mlTwice_full {w : World} {b n : Nat} {p : Option Addr} {cap : Nat} {i : Int} (h : w.cell? ⟨b, 0, none⟩ = some (.slice p n cap)) (hi : (decide (0 ≤ i) && decide (i < n)) = true) (hn : 40 ≤ n) :
    Calls Try.prog 13 #[.pointer (some ⟨b, 0, none⟩), .int .i64 i] w fun e w' => e = .returned (.iface 65 (.int .i64 4)) ∧ Below w.heap.size w w' := by
  have HI : Hid ((decide (0 ≤ i) && decide (i < n)) = true) := hi
  have HF : Hid (decide (40 ≤ n) = true) := by show _ = true; simpa using hn
  clear hi hn
  go_enter Try.func13, Try.ntmps13
  go_wp2_with fail
  refine (mlHas_b h HI.out).mono ?_
  rintro e w1 ⟨rfl, rfl⟩
  go_wp2_with fail
  refine (mlFull_b h HF.out).mono ?_
  rintro e w1 ⟨rfl, rfl⟩
  go_wp2_with fail
  go_ret
  exact ⟨rfl, Below.refl _ _⟩
set_option maxHeartbeats 8000000 in
set_option maxRecDepth 100000 in
theorem mlTwice_ok {S : Nat → Prop} {w : World} {b : Nat} {l : List Lt} {q : Nat → Nat → Bool} (i : Nat) (hi : i < l.length) (hl : ¬ 40 ≤ l.length) (h : MlAt S w b l q) (f d k v a : Int) (g : Bool) (t : ByteArray) (hx : l[i] = ⟨f, d, ⟨k, v, a, g, t⟩⟩) :
    Calls Try.prog 13 #[.pointer (some ⟨b, 0, none⟩), .int .i64 i] w fun e w' => e = .returned .nilIface ∧ MlTo S w w' b (l ++ [⟨f, d, ⟨k, v, a, g, t⟩⟩]) q := by
  obtain ⟨bm, vv, h⟩ := h
  rcases h.own.2 with ⟨rfl, h0⟩ | ⟨G0, cap, cur, rfl, _, hG, hc1, hc2, hc3, hc4⟩
  · omega
  obtain ⟨i0, hi0, hz0, hz1, hz2⟩ := info_parts infoLt
  have HM : Hid (Ml S w b bm (.slice (some ⟨G0, 0, none⟩) l.length cap) l q) := h
  have hGb : G0 ≠ b := fun e => h.n0 (by rw [← e]; rfl)
  have lG : G0 < w.heap.size := (Array.getElem?_eq_some_iff.1 hG).1
  have lb : b < w.heap.size := h.lt b h.s0
  have HLt : Hid (LtAt w G0 (0 + i * 7) l[i]) := by
    obtain ⟨_, p, cap', e, hr⟩ := h.own.lts
    obtain ⟨b', o', e1, _, hat⟩ := hr (fun e => by simp [e] at hi)
    have e2 : some (⟨G0, 0, none⟩ : Addr) = some ⟨b', o', none⟩ := by injection e with e3; rw [e3, e1]
    have e4 : b' = G0 ∧ o' = 0 := by simpa using e2.symm
    rw [← e4.1, ← e4.2]
    exact hat i hi
  rw [hx] at HLt
  obtain ⟨n, HN⟩ : ∃ n, Hid (l.length = n) := ⟨_, rfl⟩
  have OW : Hid (w.ownsRow 0 42 7 (.slice (some ⟨G0, 0, none⟩) n cap) n (rowL l)) := by have := h.own; unfold OwnL at this; rw [HN.out] at this; exact this
  have hne : (Value.slice (some ⟨G0, 0, none⟩) n cap).ownBlock ≠ some b := by have := h.n0; rw [HN.out] at this; exact this
  have c0 := h.c0
  have fz := h.fz 0
  rw [HN.out] at c0 hc1 hi hl
  have hl40 : n < 40 := by omega
  have hii : (i : Int) < (n : Int) := by omega
  have HI : Hid ((decide (0 ≤ (i : Int)) && decide ((i : Int) < (n : Int))) = true) := by show _ = true; simp; omega
  have HF : Hid (decide (40 ≤ n) = false) := by show _ = false; simpa using hl
  obtain ⟨x0, x1, x2, x3, x4, x5, x6⟩ := HLt.out
  dsimp only at x0 x1 x2 x3 x4 x5 x6
  simp only [Nat.zero_add] at x0 x1 x2 x3 x4 x5 x6
  clear hx hG hc3 hc4 h hl
  go_enter Try.func13, Try.ntmps13
  go_wp2_with fail
  refine (mlHas_b c0 HI.out).mono ?_
  rintro e w1 ⟨rfl, rfl⟩
  go_wp2_with fail
  refine (mlFull_b c0 HF.out).mono ?_
  rintro e w1 ⟨rfl, rfl⟩
  go_upto_region 5 with fail
  go_region_law
    ((refine step_append_lies _ (by rfl) _ _ _ (by rfl) 0 42 i0 _ 7 64 Try.underlying72 hi0 hz0 hz1 hz2 rfl (by omega) (.slice (some ⟨G0, 0, none⟩) n cap) n (rowL l) (by rfl) ((OW.out.alloc _).drew)
        ⟨w.heap.size, 0, none⟩ 1 1 [.int .i64 f, .int .i64 d, .int .i64 k, .int .i64 v, .int .i64 a, .bool g, .string t] (by rfl) (by rfl) (World.news_of_block (cs := #[.int .i64 f, .int .i64 d, .int .i64 k, .int .i64 v, .int .i64 a, .bool g, .string t]) (t := 42) (fr := (0, 0)) (heap_alloc_new w _)) (by simp [Value.oneCell'])
        (by omega) (by unfold maxLen; omega) (by omega) (by simp) (w.heap.size + 1) (by simp) ?_; intro G cap' w4 hown1 hgrow hat hlt; have fz4 : w4.frozen? ⟨b, 0, none⟩ = false := (hgrow.frozen_far _ (by simp; omega) (Ne.symm hne)).trans ((World.frozen?_alloc_old _ _ ⟨b, 0, none⟩ (Nat.ne_of_lt lb)).trans fz); have cz : w4.cell? ⟨b, 0, none⟩ = some (.slice (some ⟨G0, 0, none⟩) n cap) := (hgrow.cell_far _ (by simp; omega) (Ne.symm hne)).trans ((World.cell?_alloc_lt _ _ ⟨b, 0, none⟩ lb).trans c0)))
  all_goals go_wp2
  all_goals go_ret
  all_goals exact ⟨rfl, (HM.out.sent (x := ⟨f, d, ⟨k, v, a, g, t⟩⟩) HN.out (by rw [HN.out]; exact hgrow) hown1 (by rw [HN.out]; simpa using hat) hlt)⟩
/-- Twice, whatever comes in -/
theorem mlTwice_c {S : Nat → Prop} {w : World} {b : Nat} {l : List Lt} {q : Nat → Nat → Bool} (i : Int) (h : MlAt S w b l q) :
    Calls Try.prog 13 #[.pointer (some ⟨b, 0, none⟩), .int .i64 i] w fun e w' => e = .returned (eV (twiceE l.length i)) ∧ MlTo S w w' b (twiceL l i) q := by
  have hml := h
  obtain ⟨bm, vv, h⟩ := h
  obtain ⟨p, cap, rfl⟩ := h.own.slice
  cases hc : (decide (0 ≤ i) && decide (i < l.length))
  · refine (mlTwice_bad h.c0 hc).mono ?_
    rintro e w' ⟨rfl, hb⟩
    have he : twiceE l.length i = 1 := by rw [twiceE, hc]; rfl
    rw [twiceL, he, if_neg (by omega), eV, if_neg (by omega)]
    exact ⟨rfl, hml.to hb⟩
  · by_cases hn : 40 ≤ l.length
    · refine (mlTwice_full h.c0 hc hn).mono ?_
      rintro e w' ⟨rfl, hb⟩
      have he : twiceE l.length i = 4 := by rw [twiceE, hc, if_pos rfl, if_pos hn]
      rw [twiceL, he, if_neg (by omega), eV, if_neg (by omega)]
      exact ⟨rfl, hml.to hb⟩
    · have he : twiceE l.length i = 0 := by rw [twiceE, hc, if_pos rfl, if_neg hn]
      obtain ⟨n, rfl, hi⟩ : ∃ n : Nat, i = n ∧ n < l.length := by
        simp at hc
        exact ⟨i.toNat, by omega, by omega⟩
      rw [twiceL, he, if_pos rfl, eV, if_pos rfl, Int.toNat_natCast]
      have hd : (l.drop n).take 1 = [l[n]] := by rw [List.drop_eq_getElem_cons hi]; rfl
      rw [hd]
      exact mlTwice_ok n hi hn hml _ _ _ _ _ _ _ rfl
end Go.Proofs.Ytbincnajklmnaaa
