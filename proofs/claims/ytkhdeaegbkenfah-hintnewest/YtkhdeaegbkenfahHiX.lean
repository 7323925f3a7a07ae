/-
  slices.IndexFunc and slices.ContainsFunc at hints, over whatever function tells the same of the same.
-/
import Derived.Test.YtkhdeaegbkenfahHiP
import Derived.BigQuiet
namespace Go.Proofs.Ytkhdeaegbkenfah
set_option linter.unusedVariables false
set_option linter.unusedSimpArgs false
open Go.RowKit

/-- where the first is that is so, -1: none -/
def idxI (n : Nat) (p : Nat → Bool) : Nat → Int
  | 0 => -1
  | f + 1 => if p (n - (f + 1)) = true then ((n - (f + 1) : Nat) : Int) else idxI n p f
theorem idxI_hit {n : Nat} {p : Nat → Bool} {j : Nat} (h : j < n) (hp : p j = true) : idxI n p (n - j) = j := by
  obtain ⟨f, hf⟩ : ∃ f, n - j = f + 1 := ⟨n - j - 1, by omega⟩
  rw [hf, idxI, show n - (f + 1) = j by omega, if_pos hp]
theorem idxI_miss {n : Nat} {p : Nat → Bool} {j : Nat} (h : j < n) (hp : p j = false) : idxI n p (n - j) = idxI n p (n - (j + 1)) := by
  obtain ⟨f, hf⟩ : ∃ f, n - j = f + 1 := ⟨n - j - 1, by omega⟩
  rw [hf, idxI, show n - (f + 1) = j by omega, if_neg (by rw [hp]; simp), show n - (j + 1) = f by omega]
theorem idxI_end (n : Nat) (p : Nat → Bool) : idxI n p (n - n) = -1 := by rw [Nat.sub_self]; rfl
theorem idxI_cases (n : Nat) (p : Nat → Bool) : (idxI n p n = -1 ∧ ∀ j, j < n → p j = false) ∨ ∃ m : Nat, idxI n p n = m ∧ m < n ∧ p m = true ∧ ∀ j, j < m → p j = false := by
  have key : ∀ d j, n - j = d → j ≤ n → (∀ i, i < j → p i = false) → ((idxI n p (n - j) = -1 ∧ ∀ j, j < n → p j = false) ∨ ∃ m : Nat, idxI n p (n - j) = m ∧ m < n ∧ p m = true ∧ ∀ j, j < m → p j = false) := by
    intro d
    induction d with
    | zero =>
      intro j hd hj hlow
      obtain rfl : j = n := by omega
      exact Or.inl ⟨idxI_end _ _, hlow⟩
    | succ d ih =>
      intro j hd hj hlow
      have hjn : j < n := by omega
      cases hp : p j with
      | true => exact Or.inr ⟨j, idxI_hit hjn hp, hjn, hp, hlow⟩
      | false =>
        rw [idxI_miss hjn hp]
        refine ih (j + 1) (by omega) (by omega) (fun i hi => ?_)
        rcases Nat.lt_or_ge i j with h | h
        · exact hlow i h
        · obtain rfl : i = j := by omega
          exact hp
  exact key n 0 (by omega) (by omega) (fun i hi => by omega)
theorem idxB (n : Nat) (p : Nat → Bool) : decide ((0 : Int) ≤ idxI n p n) = (List.range n).any p := by
  rcases idxI_cases n p with ⟨h, hn⟩ | ⟨m, h, hm, hp, _⟩
  · rw [h]
    symm
    rw [List.any_eq_false.2 (fun j hj => by rw [hn j (List.mem_range.1 hj)]; simp)]
    rfl
  · rw [h]
    symm
    rw [List.any_eq_true.2 ⟨m, List.mem_range.2 hm, hp⟩]
    simp
theorem getD_at {α : Type} (l : List α) (d : α) (j : Nat) (h : j < l.length) : l.getD j d = l[j] := by
  simp [List.getD_eq_getElem?_getD, h]
theorem any_range {α : Type} (l : List α) (d : α) (q : α → Bool) : (List.range l.length).any (fun j => q (l.getD j d)) = l.any q := by
  rw [Bool.eq_iff_iff, List.any_eq_true, List.any_eq_true]
  constructor
  · rintro ⟨j, hj, h⟩
    have hj := List.mem_range.1 hj
    rw [getD_at _ _ _ hj] at h
    exact ⟨_, List.getElem_mem hj, h⟩
  · rintro ⟨x, hx, h⟩
    obtain ⟨j, hj, rfl⟩ := List.getElem_of_mem hx
    exact ⟨j, List.mem_range.2 hj, by rw [getD_at _ _ _ hj]; exact h⟩

set_option maxHeartbeats 4000000 in
theorem indexH_c (f : FuncId) (caps : Array Value) (v : Value) (l : List Hn) (p : Nat → Bool) (w : World) (hr : HnsIs w v l)
    (eg : ∀ args w, (callFunc f args).run Try.prog w = .ok (.enter f args) w) (hf : ∀ j (h : j < l.length) w', Below w.heap.size w w' → Calls Try.prog f (#[l[j].val] ++ caps) w' fun e w'' => e = .returned (.bool (p j)) ∧ Below w'.heap.size w' w'') :
    Calls Try.prog 34 #[v, .func (.func f) #[] caps] w fun e w' => e = .returned (.int .i64 (idxI l.length p l.length)) ∧ Below w.heap.size w w' := by
  obtain ⟨hlen, pp, cap, rfl, hrow⟩ := hr
  have HRow : Hid (l ≠ [] → ∃ b o, pp = some ⟨b, o, none⟩ ∧ b < w.heap.size ∧ ∀ j (h : j < l.length), HnAt w b (o + j * 3) l[j]) := hrow
  have HF : Hid (∀ j (h : j < l.length) w', Below w.heap.size w w' → Calls Try.prog f (#[l[j].val] ++ caps) w' fun e w'' => e = .returned (.bool (p j)) ∧ Below w'.heap.size w' w'') := hf
  clear hrow hf
  obtain ⟨n, HN⟩ : ∃ n, Hid (l.length = n) := ⟨_, rfl⟩
  rw [HN.out] at hlen ⊢
  have hn63 : n ≤ 9223372036854775807 := hlen
  obtain ⟨R, HR⟩ : ∃ R, Hid (idxI n p n = R) := ⟨_, rfl⟩
  rw [HR.out]
  go_enter Try.func34, Try.ntmps34
  go_wp2_with fail
  go_loopw [8] (fun i wr => ∃ j : Nat, j ≤ n ∧ i = .int .i64 j ∧ Hid (R = idxI n p (n - j)) ∧ Hid (Below w.heap.size w wr)) (fun i _ => n - (intOf i).toNat)
  case atStart => exact ⟨0, Nat.zero_le _, rfl, HR.out.symm, Below.refl _ _⟩
  case round =>
    obtain ⟨j, hj, rfl, HJ, HB⟩ := hrel
    by_cases hlt : j < n
    · have hlti : (j : Int) < (n : Int) := by omega
      have hjl : j < l.length := by rw [HN.out]; exact hlt
      obtain ⟨b, o, rfl, hbw, hat⟩ := HRow.out (fun h => by simp [h] at hjl)
      have HAt : Hid (HnAt wr b (o + j * 3) l[j]) := (hat j hjl).of_block (HB.out.block b hbw)
      have HC : Hid _ := HF.out j hjl wr HB.out
      clear hat
      obtain ⟨x, HX⟩ : ∃ x, Hid (l[j] = x) := ⟨l[j], show l[j] = l[j] from rfl⟩
      rw [HX.out] at HAt HC
      obtain ⟨x0, x1, x2⟩ := x
      obtain ⟨c0, c1, c2⟩ := HAt.out
      dsimp only at c0 c1 c2
      cases hp : p j
      · rw [idxI_miss hlt hp] at HJ
        rw [hp] at HC
        go_wp2_with fail
        refine Calls.mono HC.out ?_
        rintro e w1 ⟨rfl, hb⟩
        have B1 : Hid (Below w.heap.size w w1) := HB.out.trans (hb.mono HB.out.size)
        clear hb c0 c1 c2
        go_wp2_with fail
        go_roundw
        case rel => exact ⟨j + 1, by omega, by go_num, HJ, B1⟩
        case measure => simp [intOf]; omega
      · rw [idxI_hit hlt hp] at HJ
        rw [hp] at HC
        go_wp2_with fail
        refine Calls.mono HC.out ?_
        rintro e w1 ⟨rfl, hb⟩
        have B1 : Hid (Below w.heap.size w w1) := HB.out.trans (hb.mono HB.out.size)
        clear hb c0 c1 c2
        go_wp2_with fail
        go_ret
        exact ⟨by rw [HJ.out]; rfl, B1.out⟩
    · obtain rfl : j = n := by omega
      rw [idxI_end] at HJ
      go_wp2_with fail
      go_ret
      exact ⟨by rw [HJ.out]; rfl, HB.out⟩

set_option maxHeartbeats 4000000 in
theorem containsH_c (f : FuncId) (caps : Array Value) (v : Value) (l : List Hn) (p : Nat → Bool) (B : Bool) (w : World) (hr : HnsIs w v l)
    (eg : ∀ args w, (callFunc f args).run Try.prog w = .ok (.enter f args) w) (hf : ∀ j (h : j < l.length) w', Below w.heap.size w w' → Calls Try.prog f (#[l[j].val] ++ caps) w' fun e w'' => e = .returned (.bool (p j)) ∧ Below w'.heap.size w' w'') (hB : (List.range l.length).any p = B) :
    Calls Try.prog 24 #[v, .func (.func f) #[] caps] w fun e w' => e = .returned (.bool B) ∧ Below w.heap.size w w' := by
  have HF : Hid _ := indexH_c f caps v l p w hr eg hf
  rw [← idxB] at hB
  generalize idxI l.length p l.length = I at HF hB
  clear hf hr eg
  go_enter Try.func24, Try.ntmps24
  go_wp2_with fail
  refine Calls.mono HF.out ?_
  rintro e w1 ⟨rfl, hb⟩
  have B1 : Hid (Below w.heap.size w w1) := hb
  clear hb
  go_wp2_with fail
  go_ret
  exact ⟨by rw [← hB]; rfl, B1.out⟩

end Go.Proofs.Ytkhdeaegbkenfah
