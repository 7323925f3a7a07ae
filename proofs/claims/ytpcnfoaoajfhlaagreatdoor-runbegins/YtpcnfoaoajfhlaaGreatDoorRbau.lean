/-
  Package mesh by its contracts: New, Get.
-/
import Derived.Test.YtpcnfoaoajfhlaaGreatDoorRbat
namespace Go.Proofs.YtpcnfoaoajfhlaaGreatDoor
set_option linter.unusedVariables false
set_option linter.unusedSimpArgs false
set_option linter.unusedVariables false
set_option linter.unusedSimpArgs false
open Go.RowKit

theorem mNew_bad (n : Int) (w : World) (h : n < 1 ∨ 6 < n) : Calls Tryz.prog 7 #[.int .i64 n] w fun e w' => e = .returned (.tuple #[.pointer none, .iface 85 (.int .i64 1)]) ∧ w' = w := by
  by_cases h1 : n < 1
  · have hd1 : decide (n < 1) = true := by simpa using h1
    go_enter Tryz.func7, Tryz.ntmps7
    go_wp2_with fail
    go_ret2
    exact ⟨rfl, rfl⟩
  · have hd1 : decide (n < 1) = false := by simpa using h1
    have h6 : 6 < n := by omega
    have hd2 : decide (6 < n) = true := by simpa using h6
    go_enter Tryz.func7, Tryz.ntmps7
    go_wp2_with fail
    go_ret2
    exact ⟨rfl, rfl⟩
theorem mc_new {w2 : World} {b c n m : Nat} (hm : m = w2.heap.size) (hs : StoreIs w2 b [] (fun x => x = b)) (hl : ∀ k, k < n → w2.cell? ⟨c, k, none⟩ = some (.slice none 0 0)) (hf : ∀ k, w2.frozen? ⟨c, k, none⟩ = false) (hc : c < w2.heap.size) (hbc : b ≠ c) (hn : n ≤ 6) (hn1 : 1 ≤ n) :
    Mc (fun x => x = b ∨ x = c ∨ x = m) (fun x => x = b) (w2.alloc (.cells #[.pointer (some ⟨b, 0, none⟩), .slice (some ⟨c, 0, none⟩) n n] 89)) m b c [] (List.replicate n []) := by
  subst hm
  have hb : b < w2.heap.size := hs.2.2.2.2.1 b rfl
  have hB : Below w2.heap.size w2 (w2.alloc (.cells #[.pointer (some ⟨b, 0, none⟩), .slice (some ⟨c, 0, none⟩) n n] 89)) := (Below.refl _ _).alloc (Nat.le_refl _) _
  refine ⟨by simp, by simp, by simpa using hn, fun j => (World.frozen?_of_block (a := ⟨c, j, none⟩) (hB.block c hc)).trans (hf j), by omega, .inr (.inr rfl), .inr (.inl rfl), hs.below hB, fun x hx => ⟨.inl hx, by omega, by omega⟩, fun j hj => ?_, fun x hx => ?_, fun x hx => ?_⟩
  · refine ⟨.slice none 0 0, (World.cell?_of_block (a := ⟨c, j, none⟩) (hB.block c hc)).trans (hl j (by simpa using hj)), ?_, fun g hg => by simp [Value.ownBlock] at hg⟩
    rw [List.getElem_replicate]
    exact RowIs.nil _
  · have : (w2.alloc (.cells #[.pointer (some ⟨b, 0, none⟩), .slice (some ⟨c, 0, none⟩) n n] 89)).heap.size = w2.heap.size + 1 := by simp
    omega
  · rcases hx with rfl | rfl | rfl
    · exact (cel_of hs.1).same (hB.block _ hb)
    · exact (cel_of (hl 0 hn1)).same (hB.block _ hc)
    · exact ⟨_, _, _, alloc_at _ _ _ rfl⟩
theorem below_drewM {B : Nat} {w w' : World} (h : Below B w w') : Below B w w'.drew := ⟨h.os, h.tape, h.output, h.size, h.block⟩
theorem infoRowM : (Tryz.prog.info? 32).map (fun i => (i.zero, i.size, i.bytes)) = some (some (.slice none 0 0), 1, 24) := by kernel_rfl
set_option maxHeartbeats 2000000 in
theorem mNew_ok (n : Nat) (w : World) (h1 : 1 ≤ n) (h6 : n ≤ 6) : Calls Tryz.prog 7 #[.int .i64 n] w fun e w' => ∃ m, e = .returned (.tuple #[.pointer (some ⟨m, 0, none⟩), .nilIface]) ∧ (∃ S, MeshAt S w' m [] (List.replicate n []) ∧ ∀ x, S x → w.heap.size ≤ x) ∧ Below w.heap.size w w' := by
  have hd1 : decide ((n : Int) < 1) = false := by simp; omega
  have hd2 : decide ((6 : Int) < (n : Int)) = false := by simp; omega
  have hmk := run_make_row' (P := Tryz.prog) 35 32 (.slice none 0 0) 24 Tryz.underlying35 infoRowM rfl .i64 .i64 n (by omega) (by omega)
  go_enter Tryz.func7, Tryz.ntmps7
  go_upto_region 3 with fail
  go_region_with (go_at_call 37; refine (new_c _).mono ?_; rintro e w1 ⟨rfl, rfl⟩)
  all_goals go_wp2_with fail
  all_goals go_ret2
  · have hw1 : (w.alloc (.cells #[.int .i64 0, .slice none 0 0, .slice none 0 0, .slice none 0 0, .slice none 0 0, .slice none 0 0, .slice none 0 0, .slice none 0 0, .slice none 0 0] 151)).heap.size = w.heap.size + 1 := by simp
    have hs := (new_is w).below ((Below.refl _ _).alloc (Nat.le_refl _) (.cells (madeCells #[.slice none 0 0] n) 32))
    refine ⟨w.heap.size + 1 + 1, by simp [Act.put, Array.setIfInBounds, Array.getD], ⟨_, MeshAt.blocks ⟨_, _, _, mc_new (b := w.heap.size) (c := w.heap.size + 1) (n := n) (m := w.heap.size + 1 + 1) (by simp) hs (fun k hk => ?_) (fun k => by simp) (by simp) (by omega) h6 h1⟩ (Nat.le_refl _) (fun _ _ => rfl), fun x hx => ?_⟩, ?_⟩
    · rw [World.cell?_alloc_at _ _ _ _ (by simp)]
      simp [madeCells, hk, Nat.mod_one]
    · rcases hx with hx | hx | hx <;> omega
    · exact below_drewM (by go_grown)
  · have hs : StoreIs ((w.alloc (.cells (madeCells #[.slice none 0 0] n) 32)).alloc (.cells #[.int .i64 0, .slice none 0 0, .slice none 0 0, .slice none 0 0, .slice none 0 0, .slice none 0 0, .slice none 0 0, .slice none 0 0, .slice none 0 0] 151)) (w.heap.size + 1) [] (fun x => x = w.heap.size + 1) := by
      have := new_is (w.alloc (.cells (madeCells #[.slice none 0 0] n) 32))
      simpa using this
    refine ⟨w.heap.size + 1 + 1, by simp [Act.put, Array.setIfInBounds, Array.getD], ⟨_, MeshAt.blocks ⟨_, _, _, mc_new (b := w.heap.size + 1) (c := w.heap.size) (n := n) (m := w.heap.size + 1 + 1) (by simp) hs (fun k hk => ?_) (fun k => ?_) (by simp; omega) (by omega) h6 h1⟩ (Nat.le_refl _) (fun _ _ => rfl), fun x hx => ?_⟩, ?_⟩
    · refine (World.cell?_of_block (a := ⟨w.heap.size, k, none⟩) (w := w.alloc (.cells (madeCells #[.slice none 0 0] n) 32)) (Below.heap_alloc _ _ _ (by simp))).trans ?_
      rw [World.cell?_alloc_at _ _ _ _ rfl]
      simp [madeCells, hk, Nat.mod_one]
    · refine (World.frozen?_of_block (a := ⟨w.heap.size, k, none⟩) (w := w.alloc (.cells (madeCells #[.slice none 0 0] n) 32)) (Below.heap_alloc _ _ _ (by simp))).trans ?_
      simp
    · rcases hx with hx | hx | hx <;> omega
    · exact below_drewM (by go_grown)
/-- what fresh.Get tells of a right cache -/
theorem fresh_some {c : List En} {key floor : Int} {x : En} (hc : GoodL c) (hk : stK key = true) (h0 : 0 ≤ floor) (h1 : floor ≤ 1000) (hg : getE c key = some x) (hf : floor ≤ x.a) : freshGet c key floor = (x, 0) := by
  have hk' : isKeyB key = true := hk
  have hs : isSeqB floor = true := by simp [isSeqB]; omega
  have hcg : cacheGet c key = (x, 0) := by rw [cacheGet, if_neg (by simpa using hc.bad), hk', if_neg (by simp), hg]
  rw [freshGet, hs, if_neg (by simp), hcg, if_neg (by simp), if_neg (by show ¬ x.a < floor; omega)]
theorem fresh_other {c : List En} {key floor : Int} (hc : GoodL c) (hk : stK key = true) (h0 : 0 ≤ floor) (h1 : floor ≤ 1000) (hg : ∀ x, getE c key = some x → x.a < floor) : ∃ n, n ≠ 0 ∧ freshGet c key floor = (zeroEn, n) := by
  have hk' : isKeyB key = true := hk
  have hs : isSeqB floor = true := by simp [isSeqB]; omega
  cases hq : getE c key with
  | none =>
    have hcg : cacheGet c key = (zeroEn, 5) := by rw [cacheGet, if_neg (by simpa using hc.bad), hk', if_neg (by simp), hq]
    exact ⟨5, by omega, by rw [freshGet, hs, if_neg (by simp), hcg, if_pos (by simp)]⟩
  | some x =>
    have hcg : cacheGet c key = (x, 0) := by rw [cacheGet, if_neg (by simpa using hc.bad), hk', if_neg (by simp), hq]
    exact ⟨8, by omega, by rw [freshGet, hs, if_neg (by simp), hcg, if_neg (by simp), if_pos (hg x hq)]⟩
theorem freshGet_o {l : List En} {key fl x0 x1 x2 n : Int} {x3 : Bool} {x4 : ByteArray} (h : freshGet l key fl = (⟨x0, x1, x2, x3, x4⟩, n)) (v : Value) (w : World) (hr : RowIs w v l) :
    Calls Tryz.prog 52 #[v, .int .i64 key, .int .i64 fl] w fun e w' => e = .returned (.tuple #[.agg #[.int .i64 x0, .int .i64 x1, .int .i64 x2, .bool x3, .string x4], eV n]) ∧ Below w.heap.size w w' := by
  have c := freshGet_c v l key fl w hr
  rw [h] at c
  exact c
end Go.Proofs.YtpcnfoaoajfhlaaGreatDoor
