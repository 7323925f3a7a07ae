/-
  With fewer calls than the plan has, whichever these are, never all know all.
-/
import Derived.Test.YtnffnmmhbnljcahGoP
namespace Go.Proofs.Ytnffnmmhbnljcah
set_option linter.unusedVariables false
set_option linter.unusedSimpArgs false
open Go.RowKit

def normC (c : Nat × Nat) : Nat × Nat := if c.1 < c.2 then c else (c.2, c.1)
theorem stepG_norm {s : List Nat} {c : Nat × Nat} (h : c.1 ≠ c.2) : stepG s (normC c) = stepG s c := by
  unfold normC
  split
  · rfl
  · unfold stepG
    dsimp only
    rw [Nat.or_comm (s.getD c.2 0), List.set_comm _ _ (Ne.symm h)]
theorem playG_norm {n : Nat} : ∀ {cs : List (Nat × Nat)} {s : List Nat}, (∀ c ∈ cs, okC n c) → playG s (cs.map normC) = playG s cs := by
  intro cs
  induction cs with
  | nil => intro s _; rfl
  | cons c cs ih =>
    intro s h
    show playG (stepG s (normC c)) (cs.map normC) = playG (stepG s c) cs
    rw [stepG_norm (h c (by simp)).2.2, ih (fun x hx => h x (List.mem_cons_of_mem _ hx))]
theorem norm_ok {n : Nat} {c : Nat × Nat} (h : okC n c) : (normC c).1 < (normC c).2 ∧ (normC c).2 < n := by
  obtain ⟨h1, h2, h3⟩ := h
  unfold normC
  split
  · exact ⟨by assumption, h2⟩
  · exact ⟨by dsimp only; omega, h1⟩
theorem lt_pairs6 : ∀ b, b < 6 → ∀ a, a < b → (a, b) ∈ pairs6 := by decide +kernel
theorem lt_pairs5 : ∀ b, b < 5 → ∀ a, a < b → (a, b) ∈ pairs5 := by decide +kernel
theorem lt_pairs4 : ∀ b, b < 4 → ∀ a, a < b → (a, b) ∈ pairs4 := by decide +kernel
theorem lt_pairs3 : ∀ b, b < 3 → ∀ a, a < b → (a, b) ∈ pairs3 := by decide +kernel
/-- what was reckoned, for calls as they come -/
theorem pre_of {n k : Nat} {ps : List (Nat × Nat)} {P : List Nat → Bool} (hp : ∀ b, b < n → ∀ a, a < b → (a, b) ∈ ps) (h : allPre ps P k (ownG n) = true) {cs : List (Nat × Nat)} (hl : cs.length = k) (hc : ∀ c ∈ cs, okC n c) : P (playG (ownG n) cs) = true := by
  rw [← playG_norm hc]
  refine allPre_all h _ (by simpa using hl) (fun c hm => ?_)
  obtain ⟨d, hd, rfl⟩ := List.mem_map.1 hm
  have := norm_ok (hc d hd)
  exact hp _ this.2 _ this.1
theorem all_ne {s : List Nat} {x i : Nat} (h : s.all (fun y => y != x) = true) (hi : i < s.length) : s.getD i 0 ≠ x := by
  rw [List.all_eq_true] at h
  rw [List.getD_eq_getElem?_getD, List.getElem?_eq_getElem hi]
  have := h _ (List.getElem_mem hi)
  simpa using this
theorem cover6 : ∀ a b c d e : Fin 6, ∃ i : Fin 6, i ≠ a ∧ i ≠ b ∧ i ≠ c ∧ i ≠ d ∧ i ≠ e := by decide +kernel
theorem cover5 : ∀ a b c d : Fin 5, ∃ i : Fin 5, i ≠ a ∧ i ≠ b ∧ i ≠ c ∧ i ≠ d := by decide +kernel
theorem cover4 : ∀ a b : Fin 4, ∃ i : Fin 4, i ≠ a ∧ i ≠ b := by decide +kernel
theorem cover3 : ∀ a b : Fin 3, ∃ i : Fin 3, i ≠ a ∧ i ≠ b := by decide +kernel
theorem free6 {a b c d e : Nat} (ha : a < 6) (hb : b < 6) (hc : c < 6) (hd : d < 6) (he : e < 6) : ∃ i, i < 6 ∧ i ≠ a ∧ i ≠ b ∧ i ≠ c ∧ i ≠ d ∧ i ≠ e := by
  obtain ⟨i, h1, h2, h3, h4, h5⟩ := cover6 ⟨a, ha⟩ ⟨b, hb⟩ ⟨c, hc⟩ ⟨d, hd⟩ ⟨e, he⟩
  exact ⟨i.1, i.2, fun h => h1 (Fin.ext h), fun h => h2 (Fin.ext h), fun h => h3 (Fin.ext h), fun h => h4 (Fin.ext h), fun h => h5 (Fin.ext h)⟩
theorem free5 {a b c d : Nat} (ha : a < 5) (hb : b < 5) (hc : c < 5) (hd : d < 5) : ∃ i, i < 5 ∧ i ≠ a ∧ i ≠ b ∧ i ≠ c ∧ i ≠ d := by
  obtain ⟨i, h1, h2, h3, h4⟩ := cover5 ⟨a, ha⟩ ⟨b, hb⟩ ⟨c, hc⟩ ⟨d, hd⟩
  exact ⟨i.1, i.2, fun h => h1 (Fin.ext h), fun h => h2 (Fin.ext h), fun h => h3 (Fin.ext h), fun h => h4 (Fin.ext h)⟩
theorem free4 {a b : Nat} (ha : a < 4) (hb : b < 4) : ∃ i, i < 4 ∧ i ≠ a ∧ i ≠ b := by
  obtain ⟨i, h1, h2⟩ := cover4 ⟨a, ha⟩ ⟨b, hb⟩
  exact ⟨i.1, i.2, fun h => h1 (Fin.ext h), fun h => h2 (Fin.ext h)⟩
theorem free3 {a b : Nat} (ha : a < 3) (hb : b < 3) : ∃ i, i < 3 ∧ i ≠ a ∧ i ≠ b := by
  obtain ⟨i, h1, h2⟩ := cover3 ⟨a, ha⟩ ⟨b, hb⟩
  exact ⟨i.1, i.2, fun h => h1 (Fin.ext h), fun h => h2 (Fin.ext h)⟩
/-- three calls behind a quiet state do not make all know all -/
theorem three_more {s : List Nat} (hl : s.length = 6) (hq : quiet6 s = true) {x y z : Nat × Nat} (hx : okC 6 x) (hy : okC 6 y) (hz : okC 6 z) : ¬ doneG 6 (stepG (stepG (stepG s x) y) z) := by
  intro hd
  have h63 : fullG 6 = 63 := by decide +kernel
  unfold doneG at hd
  rw [h63] at hd
  unfold quiet6 at hq
  rw [Bool.and_eq_true] at hq
  obtain ⟨hq1, hq2⟩ := hq
  obtain ⟨a, b⟩ := x
  obtain ⟨c, d⟩ := y
  obtain ⟨e, f⟩ := z
  obtain ⟨ha, hb, hab⟩ := hx
  obtain ⟨hc, hdd, hcd⟩ := hy
  obtain ⟨he, hf, hef⟩ := hz
  dsimp only at ha hb hab hc hdd hcd he hf hef
  have cov : ∀ i, i < 6 → i = a ∨ i = b ∨ i = c ∨ i = d ∨ i = e ∨ i = f := fun i hi => by
    rcases Nat.decEq i a with n1 | y1
    · rcases Nat.decEq i b with n2 | y2
      · rcases Nat.decEq i c with n3 | y3
        · rcases Nat.decEq i d with n4 | y4
          · rcases Nat.decEq i e with n5 | y5
            · rcases Nat.decEq i f with n6 | y6
              · exfalso
                have h := hd i hi
                rw [stepG_other n5 n6, stepG_other n3 n4, stepG_other n1 n2] at h
                exact all_ne hq1 (by omega) h
              · exact .inr (.inr (.inr (.inr (.inr y6))))
            · exact .inr (.inr (.inr (.inr (.inl y5))))
          · exact .inr (.inr (.inr (.inl y4)))
        · exact .inr (.inr (.inl y3))
      · exact .inr (.inl y2)
    · exact .inl y1
  have ap : ∀ p q r u v : Nat, p < 6 → q < 6 → r < 6 → u < 6 → v < 6 → (∀ i, i < 6 → i = p ∨ i = q ∨ i = r ∨ i = u ∨ i = v) → False := fun p q r u v h1 h2 h3 h4 h5 h => by
    obtain ⟨i, hi, g1, g2, g3, g4, g5⟩ := free6 h1 h2 h3 h4 h5
    rcases h i hi with h | h | h | h | h
    · exact g1 h
    · exact g2 h
    · exact g3 h
    · exact g4 h
    · exact g5 h
  have hac : a ≠ c := fun h => ap b c d e f hb hc hdd he hf (fun i hi => by have := cov i hi; omega)
  have had : a ≠ d := fun h => ap b c d e f hb hc hdd he hf (fun i hi => by have := cov i hi; omega)
  have hae : a ≠ e := fun h => ap b c d e f hb hc hdd he hf (fun i hi => by have := cov i hi; omega)
  have haf : a ≠ f := fun h => ap b c d e f hb hc hdd he hf (fun i hi => by have := cov i hi; omega)
  have hbc : b ≠ c := fun h => ap a c d e f ha hc hdd he hf (fun i hi => by have := cov i hi; omega)
  have hbd : b ≠ d := fun h => ap a c d e f ha hc hdd he hf (fun i hi => by have := cov i hi; omega)
  have hbe : b ≠ e := fun h => ap a c d e f ha hc hdd he hf (fun i hi => by have := cov i hi; omega)
  have hbf : b ≠ f := fun h => ap a c d e f ha hc hdd he hf (fun i hi => by have := cov i hi; omega)
  have hce : c ≠ e := fun h => ap a b d e f ha hb hdd he hf (fun i hi => by have := cov i hi; omega)
  have hcf : c ≠ f := fun h => ap a b d e f ha hb hdd he hf (fun i hi => by have := cov i hi; omega)
  have hde : d ≠ e := fun h => ap a b c e f ha hb hc he hf (fun i hi => by have := cov i hi; omega)
  have hdf : d ≠ f := fun h => ap a b c e f ha hb hc he hf (fun i hi => by have := cov i hi; omega)
  have fa : s.getD a 0 ||| s.getD b 0 = 63 := by
    have h := hd a ha
    rw [stepG_other hae haf, stepG_other hac had, stepG_one (c := (a, b)) (by dsimp only; omega) hab] at h
    exact h
  have fc : s.getD c 0 ||| s.getD d 0 = 63 := by
    have h := hd c hc
    rw [stepG_other hce hcf, stepG_one (c := (c, d)) (by rw [stepG_len]; dsimp only; omega) hcd, stepG_other (i := c) (c := (a, b)) (Ne.symm hac) (Ne.symm hbc), stepG_other (i := d) (c := (a, b)) (Ne.symm had) (Ne.symm hbd)] at h
    exact h
  have fe : s.getD e 0 ||| s.getD f 0 = 63 := by
    have h := hd e he
    rw [stepG_one (c := (e, f)) (by rw [stepG_len, stepG_len]; dsimp only; omega) hef, stepG_other (i := e) (c := (c, d)) (Ne.symm hce) (Ne.symm hde), stepG_other (i := f) (c := (c, d)) (Ne.symm hcf) (Ne.symm hdf), stepG_other (i := e) (c := (a, b)) (Ne.symm hae) (Ne.symm hbe), stepG_other (i := f) (c := (a, b)) (Ne.symm haf) (Ne.symm hbf)] at h
    exact h
  rw [List.any_eq_true] at hq2
  obtain ⟨u, hu, hall⟩ := hq2
  rw [List.all_eq_true] at hall
  obtain ⟨i, hi, rfl⟩ := List.getElem_of_mem hu
  have gi : ∀ j, j < 6 → s.getD i 0 ||| s.getD j 0 ≠ 63 := fun j hj => by
    rw [List.getD_eq_getElem?_getD, List.getElem?_eq_getElem hi, List.getD_eq_getElem?_getD, List.getElem?_eq_getElem (show j < s.length by omega)]
    have := hall _ (List.getElem_mem (show j < s.length by omega))
    simpa using this
  rcases cov i (by omega) with rfl | rfl | rfl | rfl | rfl | rfl
  · exact gi b hb fa
  · exact gi a ha (by rw [Nat.or_comm]; exact fa)
  · exact gi d hdd fc
  · exact gi c hc (by rw [Nat.or_comm]; exact fc)
  · exact gi f hf fe
  · exact gi e he (by rw [Nat.or_comm]; exact fe)
theorem ok_of {n : Nat} {cs : List (Nat × Nat)} (h : ∀ c ∈ cs, okC n c) {c : Nat × Nat} (hc : c ∈ cs) : okC n c := h c hc
theorem six_seven {cs : List (Nat × Nat)} (hl : cs.length = 7) (hc : ∀ c ∈ cs, okC 6 c) : ¬ doneG 6 (playG (ownG 6) cs) := by
  match cs, hl, hc with
  | [c1, c2, c3, c4, c5, c6, c7], _, hc =>
    have hq := pre_of lt_pairs6 six_four (cs := [c1, c2, c3, c4]) rfl (fun c h => hc c (by simp at h ⊢; rcases h with h | h | h | h <;> simp [h]))
    exact three_more (by rw [playG_len, ownG_len]) hq (hc c5 (by simp)) (hc c6 (by simp)) (hc c7 (by simp))
theorem five_five {cs : List (Nat × Nat)} (hl : cs.length = 5) (hc : ∀ c ∈ cs, okC 5 c) : ¬ doneG 5 (playG (ownG 5) cs) := by
  match cs, hl, hc with
  | [c1, c2, c3, c4, c5], _, hc =>
    intro hd
    have hq := pre_of lt_pairs5 five_three (cs := [c1, c2, c3]) rfl (fun c h => hc c (by simp at h ⊢; rcases h with h | h | h <;> simp [h]))
    have k4 := hc c4 (by simp)
    have k5 := hc c5 (by simp)
    obtain ⟨i, hi, g1, g2, g3, g4⟩ := free5 k4.1 k4.2.1 k5.1 k5.2.1
    have h := hd i hi
    change (stepG (stepG (playG (ownG 5) [c1, c2, c3]) c4) c5).getD i 0 = _ at h
    rw [stepG_other g3 g4, stepG_other g1 g2] at h
    exact all_ne hq (by rw [playG_len, ownG_len]; exact hi) h
theorem four_three {cs : List (Nat × Nat)} (hl : cs.length = 3) (hc : ∀ c ∈ cs, okC 4 c) : ¬ doneG 4 (playG (ownG 4) cs) := by
  match cs, hl, hc with
  | [c1, c2, c3], _, hc =>
    intro hd
    have hq := pre_of lt_pairs4 four_two (cs := [c1, c2]) rfl (fun c h => hc c (by simp at h ⊢; rcases h with h | h <;> simp [h]))
    have k3 := hc c3 (by simp)
    obtain ⟨i, hi, g1, g2⟩ := free4 k3.1 k3.2.1
    have h := hd i hi
    change (stepG (playG (ownG 4) [c1, c2]) c3).getD i 0 = _ at h
    rw [stepG_other g1 g2] at h
    exact all_ne hq (by rw [playG_len, ownG_len]; exact hi) h
theorem three_two {cs : List (Nat × Nat)} (hl : cs.length = 2) (hc : ∀ c ∈ cs, okC 3 c) : ¬ doneG 3 (playG (ownG 3) cs) := by
  match cs, hl, hc with
  | [c1, c2], _, hc =>
    intro hd
    have hq := pre_of lt_pairs3 three_one (cs := [c1]) rfl (fun c h => hc c (by simp at h ⊢; simp [h]))
    have k2 := hc c2 (by simp)
    obtain ⟨i, hi, g1, g2⟩ := free3 k2.1 k2.2.1
    have h := hd i hi
    change (stepG (playG (ownG 3) [c1]) c2).getD i 0 = _ at h
    rw [stepG_other g1 g2] at h
    exact all_ne hq (by rw [playG_len, ownG_len]; exact hi) h
/-- how many calls the plan has -/
def planG (n : Nat) : Nat := if n ≤ 1 then 0 else if n = 2 then 1 else if n = 3 then 3 else 2 * n - 4
/-- with fewer calls than the plan has, whichever these are, never all know all -/
theorem gossip_needs {n : Nat} (hn : n ≤ 6) {cs : List (Nat × Nat)} (hc : ∀ c ∈ cs, okC n c) (hl : cs.length < planG n) : ¬ doneG n (playG (ownG n) cs) := by
  have pad : ∀ k, 2 ≤ n → cs.length ≤ k → (∀ ds : List (Nat × Nat), ds.length = k → (∀ c ∈ ds, okC n c) → ¬ doneG n (playG (ownG n) ds)) → ¬ doneG n (playG (ownG n) cs) := fun k h2 hk h hd => by
    have ho : ∀ c ∈ List.replicate (k - cs.length) ((0, 1) : Nat × Nat), okC n c := fun c hm => by
      rw [List.eq_of_mem_replicate hm]
      exact ⟨by show 0 < n; omega, by show 1 < n; omega, by show 0 ≠ 1; omega⟩
    refine h (cs ++ List.replicate (k - cs.length) (0, 1)) (by simp; omega) (fun c hm => ?_) ?_
    · rcases List.mem_append.1 hm with hm | hm
      · exact hc c hm
      · exact ho c hm
    · rw [playG_app]
      exact playG_done ho (playG_small (ownG_small n)) hd
  unfold planG at hl
  match n, hn with
  | 0, _ => simp at hl
  | 1, _ => simp at hl
  | 2, _ =>
    have h0 : cs.length = 0 := by simpa using hl
    rw [List.length_eq_zero_iff.1 h0]
    intro hd
    have := hd 0 (by omega)
    revert this
    decide +kernel
  | 3, _ => exact pad 2 (by omega) (by simp at hl; omega) (fun ds h1 h2 => three_two h1 h2)
  | 4, _ => exact pad 3 (by omega) (by simp at hl; omega) (fun ds h1 h2 => four_three h1 h2)
  | 5, _ => exact pad 5 (by omega) (by simp at hl; omega) (fun ds h1 h2 => five_five h1 h2)
  | 6, _ => exact pad 7 (by omega) (by simp at hl; omega) (fun ds h1 h2 => six_seven h1 h2)
end Go.Proofs.Ytnffnmmhbnljcah
