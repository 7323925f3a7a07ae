/-
  Package cache by its contracts: Add.
-/
import Derived.Test.YtbincnajklmnaaaCaM
namespace Go.Proofs.Ytbincnajklmnaaa
set_option linter.unusedVariables false
set_option linter.unusedSimpArgs false
open Go.RowKit Go.Lib

/-- what Add leaves -/
def AddIs (w : World) (r : List En × Bool × Int) (e : Ending) (w' : World) : Prop :=
  ∃ v', e = .returned (.tuple #[v', .bool r.2.1, eV r.2.2]) ∧ w'.ownsRow w.heap.size 36 5 v' r.1.length (rowC r.1) ∧ Below w.heap.size w w'
theorem put_x (B : Nat) (v : Value) (l : List En) (k vv a : Int) (g : Bool) (t : ByteArray) (w : World) (ho : w.ownsRow B 36 5 v l.length (rowC l)) (hB : B ≤ w.heap.size) (hg : GoodL l) :
    Calls Try.prog 39 #[v, .agg #[.int .i64 k, .int .i64 vv, .int .i64 a, .bool g, .string t]] w (PutIs B w v (putE l ⟨k, vv, a, g, t⟩)) := put_c B v l ⟨k, vv, a, g, t⟩ w ho hB hg
theorem put_o {l : List En} {k vv a : Int} {g : Bool} {t : ByteArray} {R1 : List En} {R2 : Bool} {R3 : Int} (h : putE l ⟨k, vv, a, g, t⟩ = (R1, R2, R3)) (B : Nat) (v : Value) (w : World) (ho : w.ownsRow B 36 5 v l.length (rowC l)) (hB : B ≤ w.heap.size) (hg : GoodL l) :
    Calls Try.prog 39 #[v, .agg #[.int .i64 k, .int .i64 vv, .int .i64 a, .bool g, .string t]] w fun e w' => ∃ v', e = .returned (.tuple #[v', .bool R2, eV R3]) ∧ w'.ownsRow B 36 5 v' R1.length (rowC R1) ∧ w.grownBy w' v.ownBlock := by
  have c := put_x B v l k vv a g t w ho hB hg
  rw [h] at c
  exact c
theorem ownsRow_base {w : World} {B C : Nat} {e : TypeId} {size : Nat} {v : Value} {n : Nat} {xs : List Value} (h : w.ownsRow B e size v n xs) (hC : C ≤ B) : w.ownsRow C e size v n xs := by
  refine ⟨h.1, ?_⟩
  rcases h.2 with hn | ⟨g, cap, cur, rfl, h1, hg, rest⟩
  · exact .inl hn
  · exact .inr ⟨g, cap, cur, rfl, Nat.le_trans hC h1, hg, rest⟩
theorem ownsRow_from {w : World} {B : Nat} {e : TypeId} {size : Nat} {v : Value} {n : Nat} {xs : List Value} (h : w.ownsRow B e size v n xs) (c : Nat) (hc : v.ownBlock = some c) : B ≤ c := by
  rcases h.2 with ⟨rfl, _⟩ | ⟨g', cap, cur, rfl, h1, _⟩
  · cases hc
  · obtain rfl : g' = c := by simpa [Value.ownBlock] using hc
    exact h1
theorem below_grown {B : Nat} {w w1 w' : World} {v : Value} (h : Below B w w1) (hB : B ≤ w.heap.size) (hg : w1.grownBy w' v.ownBlock) (hv : ∀ c, v.ownBlock = some c → B ≤ c) : Below B w w' :=
  h.trans ⟨hg.os, hg.tape, hg.output, hg.size, fun c hc => hg.block c (Nat.lt_of_lt_of_le hc (Nat.le_trans hB h.size)) (fun e => by have := hv c e.symm; omega)⟩
theorem RowIs.drew {w : World} {v : Value} {l : List En} (h : RowIs w v l) : RowIs w.drew v l := h.blocks (Nat.le_refl _) (fun _ _ _ => rfl)

set_option maxHeartbeats 1000000 in
theorem add_c (v : Value) (l : List En) (k vv a : Int) (g : Bool) (t : ByteArray) (w : World) (hr : RowIs w v l) :
    Calls Try.prog 15 #[v, .agg #[.int .i64 k, .int .i64 vv, .int .i64 a, .bool g, .string t]] w (AddIs w (cacheAdd l ⟨k, vv, a, g, t⟩)) := by
  have HR : Hid (RowIs w v l) := hr
  have HB0 : Hid (Below w.heap.size w (w.alloc (.cells #[.int .i64 k, .int .i64 vv, .int .i64 a, .bool g, .string t] 36))) := by show Below _ _ _; go_grown
  clear hr
  by_cases hn : badL l = 0
  · have HN : Hid (badL l = 0) := hn
    have HG : Hid (GoodL l) := badL_good hn
    clear hn
    by_cases hm : bad k vv a g t = 0
    · have HM : Hid (bad k vv a g t = 0) := hm
      have HC : Hid (cacheAdd l ⟨k, vv, a, g, t⟩ = putE l ⟨k, vv, a, g, t⟩) := by
        show cacheAdd l _ = _
        rw [cacheAdd, if_neg (by simpa using HN.out), if_neg (by simpa [En.bad] using HM.out)]
      clear hm
      obtain ⟨R, HRs⟩ : ∃ R, Hid (putE l ⟨k, vv, a, g, t⟩ = R) := ⟨_, rfl⟩
      rw [HC.out, HRs.out]
      obtain ⟨R1, R2, R3⟩ := R
      go_enter Try.func15, Try.ntmps15
      go_wp2_with fail
      refine (cacheCheck_ok (HR.out.below HB0.out) HN.out).mono ?_
      rintro e w1 ⟨rfl, hb⟩
      have B1 : Hid (Below w.heap.size w w1) := HB0.out.trans (hb.mono (by simp))
      have E1 : Hid (BoxAt w1 w.heap.size k vv a g t) := (box_new w k vv a g t w.heap.size rfl).below hb (by simp)
      obtain ⟨a0, a1, a2, a3, a4, af⟩ := E1.out
      clear hb
      go_wp2_with fail
      refine (check_ok HM.out _).mono ?_
      rintro e w2 ⟨rfl, hb⟩
      have B2 : Hid (Below w.heap.size w w2) := B1.out.trans (hb.mono B1.out.size)
      have E2 : Hid (BoxAt w2 w.heap.size k vv a g t) := E1.out.below hb E1.out.lt
      clear hb a0 a1 a2 a3 a4 af
      obtain ⟨a0, a1, a2, a3, a4, af⟩ := E2.out
      go_upto_region 7 with fail
      go_region_with (first
        | (go_at_call 40; refine (clone_c v l _ ?_ HG.out.len).mono ?_; exact (HR.out.below B2.out).drew; rintro e w3 ⟨v3, rfl, ho3, hb3⟩; have HO3 : Hid (w3.ownsRow w2.heap.size 36 5 v3 l.length (rowC l)) := ho3; have HB3 : Hid (Below w2.heap.size w2 w3) := below_undrew hb3; clear ho3 hb3; obtain ⟨d0, d1, d2, d3, d4, df⟩ := E2.out.below HB3.out E2.out.lt)
        | (go_at_call 39; refine (put_o HRs.out w2.heap.size v3 _ HO3.out HB3.out.size HG.out).mono ?_; rintro e w4 ⟨v4, rfl, ho4, hg4⟩; have HO4 : Hid _ := ho4; have HG4 : Hid _ := hg4; clear ho4 hg4))
      all_goals go_wp2_with fail
      all_goals go_ret3
      all_goals exact ⟨v4, by simp [Act.put, Array.setIfInBounds, Array.getD], ownsRow_base HO4.out B2.out.size, below_grown (B2.out.trans (HB3.out.mono B2.out.size)) (Nat.le_refl _) HG4.out (fun c hc => Nat.le_trans B2.out.size (ownsRow_from HO3.out c hc))⟩
    · obtain ⟨m, HM⟩ : ∃ m, Hid (bad k vv a g t = m) := ⟨_, rfl⟩
      have HC : Hid (cacheAdd l ⟨k, vv, a, g, t⟩ = ([], false, m)) := by
        show cacheAdd l _ = _
        rw [cacheAdd, if_neg (by simpa using HN.out), if_pos (by simpa [En.bad] using hm)]
        show ([], false, bad k vv a g t) = _
        rw [HM.out]
      rw [HM.out] at hm
      rw [HC.out]
      go_enter Try.func15, Try.ntmps15
      go_wp2_with fail
      refine (cacheCheck_ok (HR.out.below HB0.out) HN.out).mono ?_
      rintro e w1 ⟨rfl, hb⟩
      have B1 : Hid (Below w.heap.size w w1) := HB0.out.trans (hb.mono (by simp))
      obtain ⟨a0, a1, a2, a3, a4, af⟩ := (box_new w k vv a g t w.heap.size rfl).below hb (by simp)
      clear hb
      go_wp2_with fail
      refine (check_err HM.out hm _).mono ?_
      rintro e w2 ⟨rfl, hb⟩
      have B2 : Hid (Below w.heap.size w w2) := B1.out.trans (hb.mono B1.out.size)
      clear hb
      go_wp2_with fail
      go_ret3
      refine ⟨.slice none 0 0, ?_, World.ownsRow_nil _ _ _ _, B2.out⟩
      show _ = Ending.returned (.tuple #[.slice none 0 0, .bool false, eV m])
      rw [eV, if_neg hm]
      rfl
  · obtain ⟨n, HN⟩ : ∃ n, Hid (badL l = n) := ⟨_, rfl⟩
    have HC : Hid (cacheAdd l ⟨k, vv, a, g, t⟩ = ([], false, n)) := by
      show cacheAdd l _ = _
      rw [cacheAdd, if_pos hn, HN.out]
    rw [HN.out] at hn
    rw [HC.out]
    go_enter Try.func15, Try.ntmps15
    go_wp2_with fail
    refine (cacheCheck_err (HR.out.below HB0.out) HN.out hn).mono ?_
    rintro e w1 ⟨rfl, hb⟩
    have B1 : Hid (Below w.heap.size w w1) := HB0.out.trans (hb.mono (by simp))
    clear hb
    go_wp2_with fail
    go_ret3
    refine ⟨.slice none 0 0, ?_, World.ownsRow_nil _ _ _ _, B1.out⟩
    show _ = Ending.returned (.tuple #[.slice none 0 0, .bool false, eV n])
    rw [eV, if_neg hn]
    rfl
end Go.Proofs.Ytbincnajklmnaaa
