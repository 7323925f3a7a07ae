/-
  Rumors on lists: sorted stably by how often they were told they lie as they are told.
-/
import Derived.Test.YtpelbmhhppcmeafRuP
import Derived.Sort.LotA
namespace Go.Proofs.Ytpelbmhhppcmeaf
set_option linter.unusedVariables false
set_option linter.unusedSimpArgs false
open Go.RowKit

def ltT (a b : Ru) : Bool := decide (a.t < b.t)
theorem swo_lex : Go.Sort.SWO lexB := ⟨lexB_irr, fun _ _ _ h1 h2 => lexB_trans h1 h2, fun x y z h1 h2 => by
  rw [Bool.eq_false_iff] at *
  rw [ne_eq, lexB_iff] at *
  omega⟩
theorem insInner_eq [Inhabited Ru] {lt1 lt2 : Ru → Ru → Bool} : ∀ (j : Nat) (d : Array Ru), j < d.size → (∀ p, p < j → lt1 d[j]! d[p]! = lt2 d[j]! d[p]!) → Go.Sort.insInner lt1 0 j d = Go.Sort.insInner lt2 0 j d
  | 0, d, _, _ => by unfold Go.Sort.insInner; rfl
  | j + 1, d, hj, h => by
    unfold Go.Sort.insInner
    rw [h j (by omega)]
    split
    · refine insInner_eq j _ (by rw [Go.Sort.swp_size]; omega) (fun p hp => ?_)
      have g := Go.Sort.swp_get d hj (show j < d.size by omega)
      rw [g, g, if_pos rfl, if_neg (by omega), if_neg (by omega)]
      exact h p (by omega)
    · rfl
theorem insInner_perm [Inhabited Ru] {lt : Ru → Ru → Bool} (i : Nat) : ∀ (j : Nat) (d : Array Ru), j ≤ i → i + 1 ≤ d.size → Go.Sort.PermIn 0 (i + 1) d (Go.Sort.insInner lt 0 j d)
  | 0, d, _, _ => by unfold Go.Sort.insInner; exact Go.Sort.permIn_refl d 0 (i + 1)
  | j + 1, d, hj, hs => by
    unfold Go.Sort.insInner
    split
    · exact Go.Sort.permIn_trans _ _ _ 0 (i + 1) (Go.Sort.swp_permIn d 0 (i + 1) (j + 1) j (by omega) (by omega) (by omega) (by omega) hs) (insInner_perm i j _ (by omega) (by rw [Go.Sort.swp_size]; exact hs))
    · exact Go.Sort.permIn_refl d 0 (i + 1)
theorem insOuter_eq [Inhabited Ru] {lt1 lt2 : Ru → Ru → Bool} (b : Nat) : ∀ (n i : Nat) (d : Array Ru), b - i = n → d.size = b → (∀ p q, p < q → i ≤ q → q < b → lt1 d[q]! d[p]! = lt2 d[q]! d[p]!) → Go.Sort.insOuter lt1 0 b i d = Go.Sort.insOuter lt2 0 b i d
  | 0, i, d, hn, _, _ => by
    unfold Go.Sort.insOuter
    rw [if_neg (by omega), if_neg (by omega)]
  | n + 1, i, d, hn, hs, h => by
    have hi : i < b := by omega
    rw [Go.Sort.insOuter, if_pos hi, Go.Sort.insOuter.eq_1 lt2, if_pos hi, insInner_eq i d (by omega) (fun p hp => h p i hp (Nat.le_refl _) hi)]
    have hp := insInner_perm (lt := lt2) i i d (Nat.le_refl _) (by omega)
    refine insOuter_eq b n (i + 1) _ (by omega) (by rw [hp.1]; exact hs) (fun p q hpq hq hqb => ?_)
    rw [hp.2.1 q (.inr hq)]
    by_cases h1 : p < i + 1
    · exact Go.Sort.permIn_all d _ 0 (i + 1) (fun x => lt1 d[q]! x = lt2 d[q]! x) (by omega) hp (fun p' _ hp' => h p' q (by omega) (by omega) hqb) p (by omega) h1
    · rw [hp.2.1 p (.inr (by omega))]
      exact h p q hpq (by omega) hqb
theorem stable_eq [Inhabited Ru] {l : List Ru} (hr : RiseR l) : Go.Sort.insertionSort ltT l.toArray 0 l.length = Go.Sort.insertionSort lexB l.toArray 0 l.length := by
  unfold Go.Sort.insertionSort
  refine insOuter_eq l.length _ _ _ rfl (by simp) (fun p q hpq _ hq => ?_)
  have e1 : l.toArray[q]! = l[q] := by simp [hq]
  have e2 : l.toArray[p]! = l[p] := by simp [show p < l.length by omega]
  rw [e1, e2]
  have := List.pairwise_iff_getElem.1 hr p q (by omega) hq hpq
  unfold ltT lexB
  rw [decide_eq_false (show ¬ l[q].m.n < l[p].m.n by omega), Bool.and_false, Bool.or_false]
/-- as they are told -/
def srtR [Inhabited Ru] (l : List Ru) : List Ru := (Go.Sort.insertionSort lexB l.toArray 0 l.length).toList
theorem srt_spec [Inhabited Ru] {l : List Ru} (hr : RiseR l) : (srtR l).Perm l ∧ (srtR l).Pairwise (fun a b => lexB a b = true) := by
  obtain ⟨h1, h2⟩ := Go.Sort.insertionSort_holds swo_lex l.toArray 0 l.length (Nat.zero_le _) (by simp)
  have hs : (Go.Sort.insertionSort lexB l.toArray 0 l.length).size = l.length := by rw [h1.1]; simp
  have hp : (srtR l).Perm l := by
    have h3 := h1.2.2
    have e1 : ((Go.Sort.insertionSort lexB l.toArray 0 l.length).extract 0 l.length).toList = srtR l := by
      unfold srtR
      generalize Go.Sort.insertionSort lexB l.toArray 0 l.length = d at hs
      rw [← hs, Array.extract_size]
    have e2 : (l.toArray.extract 0 l.length).toList = l := by simp
    rw [e1, e2] at h3
    exact h3
  refine ⟨hp, ?_⟩
  have hne : (srtR l).Pairwise (fun a b => a.m.n ≠ b.m.n) := by
    refine (hp.pairwise_iff (fun {_ _} h => fun e => h e.symm)).2 (hr.imp (fun {a b} h => ?_))
    omega
  rw [List.pairwise_iff_getElem] at hne ⊢
  intro i j hi hj hij
  have hj' : j < (Go.Sort.insertionSort lexB l.toArray 0 l.length).size := hj
  have hi' : i < (Go.Sort.insertionSort lexB l.toArray 0 l.length).size := hi
  have h3 := h2 i j (Nat.zero_le _) hij (by rw [← hs]; exact hj')
  rw [getElem!_pos _ j hj', getElem!_pos _ i hi'] at h3
  rcases lexB_total (hne i j hi hj hij) with h | h
  · exact h
  · exact Bool.noConfusion (h.symm.trans h3)
theorem lexB_asymm {a b : Ru} (h : lexB a b = true) : lexB b a = false := by
  cases h' : lexB b a
  · rfl
  · have := lexB_trans h h'
    rw [lexB_irr] at this
    cases this
theorem rank_at : ∀ {s : List Ru}, s.Pairwise (fun a b => lexB a b = true) → ∀ i (h : i < s.length), rkR s s[i] = i := by
  intro s
  induction s with
  | nil => intro _ i h; simp at h
  | cons a s ih =>
    intro hp i h
    obtain ⟨h1, h2⟩ := List.pairwise_cons.1 hp
    cases i with
    | zero =>
      unfold rkR
      rw [List.countP_eq_zero]
      intro x hx
      rcases List.mem_cons.1 hx with rfl | hx
      · rw [List.getElem_cons_zero, lexB_irr]
        simp
      · rw [List.getElem_cons_zero, lexB_asymm (h1 x hx)]
        simp
    | succ i =>
      have hi : i < s.length := by simpa using h
      have := ih h2 i hi
      unfold rkR at *
      rw [List.getElem_cons_succ, List.countP_cons, this, if_pos (h1 _ (List.getElem_mem hi))]
/-- so many of them are those that are told next -/
theorem take_got [Inhabited Ru] {l : List Ru} (hr : RiseR l) (k : Nat) {r : Ru} (hm : r ∈ l) : r ∈ (srtR l).take k ↔ gotR l k r = true := by
  obtain ⟨hp, hs⟩ := srt_spec hr
  have hrk : ∀ r, rkR l r = rkR (srtR l) r := fun r => (hp.countP_eq _).symm
  rw [gotR_iff, hrk]
  obtain ⟨i, hi, rfl⟩ := List.getElem_of_mem (hp.mem_iff.2 hm)
  rw [rank_at hs i hi]
  constructor
  · intro h
    obtain ⟨j, hj, e⟩ := List.getElem_of_mem h
    rw [List.getElem_take] at e
    have hjk : j < k := by
      rw [List.length_take] at hj
      omega
    have h1 := rank_at hs j (by rw [List.length_take] at hj; omega)
    rw [e, rank_at hs i hi] at h1
    omega
  · intro h
    exact List.mem_take_iff_getElem.2 ⟨i, by omega, rfl⟩
theorem srt_len [Inhabited Ru] {l : List Ru} (hr : RiseR l) : (srtR l).length = l.length := (srt_spec hr).1.length_eq
end Go.Proofs.Ytpelbmhhppcmeaf
