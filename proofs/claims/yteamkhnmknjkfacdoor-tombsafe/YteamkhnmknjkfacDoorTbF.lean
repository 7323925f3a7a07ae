/-
  slices.IndexFunc and slices.ContainsFunc at a cache and at a row of caches, over whatever function tells the same of the same.
-/
import Derived.Test.YteamkhnmknjkfacDoorTbP
import Derived.BigQuiet
namespace Go.Proofs.YteamkhnmknjkfacDoor
set_option linter.unusedVariables false
set_option linter.unusedSimpArgs false
open Go.RowKit

set_option maxHeartbeats 4000000 in
theorem indexE_c (f : FuncId) (caps : Array Value) (v : Value) (l : List En) (p : Nat → Bool) (w : World) (hr : RowIs w v l)
    (eg : ∀ args w, (callFunc f args).run Tryd.prog w = .ok (.enter f args) w) (hf : ∀ j (h : j < l.length) w', Below w.heap.size w w' → Calls Tryd.prog f (#[l[j].val] ++ caps) w' fun e w'' => e = .returned (.bool (p j)) ∧ Below w'.heap.size w' w'') :
    Calls Tryd.prog 30 #[v, .func (.func f) #[] caps] w fun e w' => e = .returned (.int .i64 (idxI l.length p l.length)) ∧ Below w.heap.size w w' := by
  obtain ⟨hlen, pp, cap, rfl, hrow⟩ := hr
  have HRow : Hid (l ≠ [] → ∃ b o, pp = some ⟨b, o, none⟩ ∧ b < w.heap.size ∧ ∀ j (h : j < l.length), EnAt w b (o + j * 5) l[j]) := hrow
  have HF : Hid (∀ j (h : j < l.length) w', Below w.heap.size w w' → Calls Tryd.prog f (#[l[j].val] ++ caps) w' fun e w'' => e = .returned (.bool (p j)) ∧ Below w'.heap.size w' w'') := hf
  clear hrow hf
  obtain ⟨n, HN⟩ : ∃ n, Hid (l.length = n) := ⟨_, rfl⟩
  rw [HN.out] at hlen ⊢
  have hn63 : n ≤ 9223372036854775807 := hlen
  obtain ⟨R, HR⟩ : ∃ R, Hid (idxI n p n = R) := ⟨_, rfl⟩
  rw [HR.out]
  go_enter Tryd.func30, Tryd.ntmps30
  go_wp2_with fail
  go_loopw [8] (fun i wr => ∃ j : Nat, j ≤ n ∧ i = .int .i64 j ∧ Hid (R = idxI n p (n - j)) ∧ Hid (Below w.heap.size w wr)) (fun i _ => n - (intOf i).toNat)
  case atStart => exact ⟨0, Nat.zero_le _, rfl, HR.out.symm, Below.refl _ _⟩
  case round =>
    obtain ⟨j, hj, rfl, HJ, HB⟩ := hrel
    by_cases hlt : j < n
    · have hlti : (j : Int) < (n : Int) := by omega
      have hjl : j < l.length := by rw [HN.out]; exact hlt
      obtain ⟨b, o, rfl, hbw, hat⟩ := HRow.out (fun h => by simp [h] at hjl)
      have HAt : Hid (EnAt wr b (o + j * 5) l[j]) := (hat j hjl).of_block (HB.out.block b hbw)
      have HC : Hid _ := HF.out j hjl wr HB.out
      clear hat
      obtain ⟨x, HX⟩ : ∃ x, Hid (l[j] = x) := ⟨l[j], show l[j] = l[j] from rfl⟩
      rw [HX.out] at HAt HC
      obtain ⟨x0, x1, x2, x3, x4⟩ := x
      obtain ⟨c0, c1, c2, c3, c4⟩ := HAt.out
      dsimp only at c0 c1 c2 c3 c4
      cases hp : p j
      · rw [idxI_miss hlt hp] at HJ
        rw [hp] at HC
        go_wp2_with fail
        refine Calls.mono HC.out ?_
        rintro e w1 ⟨rfl, hb⟩
        have B1 : Hid (Below w.heap.size w w1) := HB.out.trans (hb.mono HB.out.size)
        clear hb c0 c1 c2 c3 c4
        go_wp2_with fail
        go_roundw
        case rel => exact ⟨j + 1, by omega, by go_num, HJ, B1⟩
        case measure => simp [intOf]; omega
      · rw [idxI_hit hlt hp] at HJ
        rw [hp] at HC
        go_wp2_with fail
        refine Calls.mono HC.out ?_
        rintro e w1 ⟨rfl, hb⟩
        have B1 : Hid (Below w.heap.size w w1) := HB.out.trans (hb.mono HB.out.size)
        clear hb c0 c1 c2 c3 c4
        go_wp2_with fail
        go_ret
        exact ⟨by rw [HJ.out]; rfl, B1.out⟩
    · obtain rfl : j = n := by omega
      rw [idxI_end] at HJ
      go_wp2_with fail
      go_ret
      exact ⟨by rw [HJ.out]; rfl, HB.out⟩

theorem idxB (n : Nat) (p : Nat → Bool) : decide ((0 : Int) ≤ idxI n p n) = (List.range n).any p := by
  rcases idxI_cases n p with ⟨h, hn⟩ | ⟨m, h, hm, hp, _⟩
  · rw [h]
    symm
    rw [List.any_eq_false.2 (fun j hj => by rw [hn j (List.mem_range.1 hj)]; simp)]
    rfl
  · rw [h]
    symm
    rw [List.any_eq_true.2 ⟨m, List.mem_range.2 hm, hp⟩]
    simp

set_option maxHeartbeats 4000000 in
theorem containsE_c (f : FuncId) (caps : Array Value) (v : Value) (l : List En) (p : Nat → Bool) (B : Bool) (w : World) (hr : RowIs w v l)
    (eg : ∀ args w, (callFunc f args).run Tryd.prog w = .ok (.enter f args) w) (hf : ∀ j (h : j < l.length) w', Below w.heap.size w w' → Calls Tryd.prog f (#[l[j].val] ++ caps) w' fun e w'' => e = .returned (.bool (p j)) ∧ Below w'.heap.size w' w'') (hB : (List.range l.length).any p = B) :
    Calls Tryd.prog 42 #[v, .func (.func f) #[] caps] w fun e w' => e = .returned (.bool B) ∧ Below w.heap.size w w' := by
  have HF : Hid _ := indexE_c f caps v l p w hr eg hf
  rw [← idxB] at hB
  generalize idxI l.length p l.length = I at HF hB
  clear hf hr eg
  go_enter Tryd.func42, Tryd.ntmps42
  go_wp2_with fail
  refine Calls.mono HF.out ?_
  rintro e w1 ⟨rfl, hb⟩
  have B1 : Hid (Below w.heap.size w w1) := hb
  clear hb
  go_wp2_with fail
  go_ret
  exact ⟨by rw [← hB]; rfl, B1.out⟩

set_option maxHeartbeats 4000000 in
theorem indexR_c (f : FuncId) (caps : Array Value) (v : Value) (l : List (List En)) (p : Nat → Bool) (w : World) (hr : RowsIs w v l)
    (eg : ∀ args w, (callFunc f args).run Tryd.prog w = .ok (.enter f args) w) (hf : ∀ j (h : j < l.length) u w', Below w.heap.size w w' → RowIs w' u l[j] → Calls Tryd.prog f (#[u] ++ caps) w' fun e w'' => e = .returned (.bool (p j)) ∧ Below w'.heap.size w' w'') :
    Calls Tryd.prog 44 #[v, .func (.func f) #[] caps] w fun e w' => e = .returned (.int .i64 (idxI l.length p l.length)) ∧ Below w.heap.size w w' := by
  obtain ⟨hlen, pp, cap, rfl, hrow⟩ := hr
  have HRow : Hid (l ≠ [] → ∃ b o, pp = some ⟨b, o, none⟩ ∧ b < w.heap.size ∧ ∀ j (h : j < l.length), ∃ u, w.cell? ⟨b, o + j, none⟩ = some u ∧ RowIs w u l[j]) := hrow
  have HF : Hid (∀ j (h : j < l.length) u w', Below w.heap.size w w' → RowIs w' u l[j] → Calls Tryd.prog f (#[u] ++ caps) w' fun e w'' => e = .returned (.bool (p j)) ∧ Below w'.heap.size w' w'') := hf
  clear hrow hf
  obtain ⟨n, HN⟩ : ∃ n, Hid (l.length = n) := ⟨_, rfl⟩
  rw [HN.out] at hlen ⊢
  have hn63 : n ≤ 9223372036854775807 := hlen
  obtain ⟨R, HR⟩ : ∃ R, Hid (idxI n p n = R) := ⟨_, rfl⟩
  rw [HR.out]
  go_enter Tryd.func44, Tryd.ntmps44
  go_wp2_with fail
  go_loopw [8] (fun i wr => ∃ j : Nat, j ≤ n ∧ i = .int .i64 j ∧ Hid (R = idxI n p (n - j)) ∧ Hid (Below w.heap.size w wr)) (fun i _ => n - (intOf i).toNat)
  case atStart => exact ⟨0, Nat.zero_le _, rfl, HR.out.symm, Below.refl _ _⟩
  case round =>
    obtain ⟨j, hj, rfl, HJ, HB⟩ := hrel
    by_cases hlt : j < n
    · have hlti : (j : Int) < (n : Int) := by omega
      have hjl : j < l.length := by rw [HN.out]; exact hlt
      obtain ⟨b, o, rfl, hbw, hat⟩ := HRow.out (fun h => by simp [h] at hjl)
      obtain ⟨u, hu, hru⟩ := hat j hjl
      have c0 : wr.cell? ⟨b, o + j, none⟩ = some u := (World.cell?_of_block (a := ⟨b, o + j, none⟩) (HB.out.block b hbw)).trans hu
      have HC : Hid _ := HF.out j hjl u wr HB.out (hru.below HB.out)
      clear hat hu hru
      cases hp : p j
      · rw [idxI_miss hlt hp] at HJ
        rw [hp] at HC
        go_wp2_with fail
        refine Calls.mono HC.out ?_
        rintro e w1 ⟨rfl, hb⟩
        have B1 : Hid (Below w.heap.size w w1) := HB.out.trans (hb.mono HB.out.size)
        clear hb c0
        go_wp2_with fail
        go_roundw
        case rel => exact ⟨j + 1, by omega, by go_num, HJ, B1⟩
        case measure => simp [intOf]; omega
      · rw [idxI_hit hlt hp] at HJ
        rw [hp] at HC
        go_wp2_with fail
        refine Calls.mono HC.out ?_
        rintro e w1 ⟨rfl, hb⟩
        have B1 : Hid (Below w.heap.size w w1) := HB.out.trans (hb.mono HB.out.size)
        clear hb c0
        go_wp2_with fail
        go_ret
        exact ⟨by rw [HJ.out]; rfl, B1.out⟩
    · obtain rfl : j = n := by omega
      rw [idxI_end] at HJ
      go_wp2_with fail
      go_ret
      exact ⟨by rw [HJ.out]; rfl, HB.out⟩

set_option maxHeartbeats 4000000 in
theorem containsR_c (f : FuncId) (caps : Array Value) (v : Value) (l : List (List En)) (p : Nat → Bool) (B : Bool) (w : World) (hr : RowsIs w v l)
    (eg : ∀ args w, (callFunc f args).run Tryd.prog w = .ok (.enter f args) w) (hf : ∀ j (h : j < l.length) u w', Below w.heap.size w w' → RowIs w' u l[j] → Calls Tryd.prog f (#[u] ++ caps) w' fun e w'' => e = .returned (.bool (p j)) ∧ Below w'.heap.size w' w'') (hB : (List.range l.length).any p = B) :
    Calls Tryd.prog 34 #[v, .func (.func f) #[] caps] w fun e w' => e = .returned (.bool B) ∧ Below w.heap.size w w' := by
  have HF : Hid _ := indexR_c f caps v l p w hr eg hf
  rw [← idxB] at hB
  generalize idxI l.length p l.length = I at HF hB
  clear hf hr eg
  go_enter Tryd.func34, Tryd.ntmps34
  go_wp2_with fail
  refine Calls.mono HF.out ?_
  rintro e w1 ⟨rfl, hb⟩
  have B1 : Hid (Below w.heap.size w w1) := hb
  clear hb
  go_wp2_with fail
  go_ret
  exact ⟨by rw [← hB]; rfl, B1.out⟩
end Go.Proofs.YteamkhnmknjkfacDoor
