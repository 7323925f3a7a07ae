/-
  Rumors on lists: told turn by turn, each is told just as often as the limit says.
-/
import Derived.Test.YtpelbmhhppcmeafRuP
namespace Go.Proofs.Ytpelbmhhppcmeaf
set_option linter.unusedVariables false
set_option linter.unusedSimpArgs false
open Go.RowKit

theorem fm_congr {α β : Type} {f g : α → Option β} : ∀ {l : List α}, (∀ x ∈ l, f x = g x) → l.filterMap f = l.filterMap g := by
  intro l
  induction l with
  | nil => intro _; rfl
  | cons x l ih =>
    intro h
    rw [List.filterMap_cons, List.filterMap_cons, h x (by simp), ih (fun y hy => h y (List.mem_cons_of_mem _ hy))]
/-- new rumors of members, each told so often as c tells, without those that were told limit times -/
def xC (base : List Mm) (c : Int → Nat) (limit : Nat) : List Ru := base.filterMap (fun m => if c m.n < limit then some ⟨m, (c m.n : Int)⟩ else none)
theorem xC_mem {base : List Mm} {c : Int → Nat} {limit : Nat} {r : Ru} (h : r ∈ xC base c limit) : r.m ∈ base ∧ c r.m.n < limit ∧ r.t = (c r.m.n : Int) := by
  obtain ⟨m, hm, h1⟩ := List.mem_filterMap.1 h
  split at h1
  · rename_i h2
    injection h1 with h1
    subst h1
    exact ⟨hm, h2, rfl⟩
  · cases h1
theorem mem_xC {base : List Mm} {c : Int → Nat} {limit : Nat} {m : Mm} (h : m ∈ base) (hc : c m.n < limit) : (⟨m, (c m.n : Int)⟩ : Ru) ∈ xC base c limit :=
  List.mem_filterMap.2 ⟨m, h, by rw [if_pos hc]⟩
theorem xC_rise {base : List Mm} {c : Int → Nat} {limit : Nat} (h : RiseM base) : RiseR (xC base c limit) := by
  induction base with
  | nil => exact List.Pairwise.nil
  | cons m base ih =>
    obtain ⟨h1, h2⟩ := List.pairwise_cons.1 h
    unfold xC
    rw [List.filterMap_cons]
    split
    · exact ih h2
    · rename_i r hr
      split at hr
      · injection hr with hr
        subst hr
        refine List.pairwise_cons.2 ⟨fun s hs => ?_, ih h2⟩
        exact h1 _ (xC_mem (c := c) (limit := limit) hs).1
      · cases hr
/-- how often a node is among those that are told -/
def tmN (l : List Mm) (k : Int) : Nat := l.countP (fun m => m.n == k)
theorem tm_told {base : List Mm} {c : Int → Nat} {limit many : Nat} (hb : RiseM base) {m : Mm} (hm : m ∈ base) (hc : c m.n < limit) :
    tmN (toldR (xC base c limit) many) m.n = if gotR (xC base c limit) many ⟨m, (c m.n : Int)⟩ = true then 1 else 0 := by
  have hr := xC_rise (c := c) (limit := limit) hb
  have hx := mem_xC (c := c) (limit := limit) hm hc
  generalize xC base c limit = x at *
  unfold tmN toldR
  rw [List.countP_map, List.countP_filter]
  split
  · rename_i hg
    refine count_one hr hx _ (fun s hs => ?_)
    simp only [Function.comp_apply, Bool.and_eq_true, beq_iff_eq]
    exact ⟨fun h => rise_inj hr hs hx h.1, fun h => by subst h; exact ⟨rfl, hg⟩⟩
  · rename_i hg
    rw [List.countP_eq_zero]
    intro s hs h
    simp only [Function.comp_apply, Bool.and_eq_true, beq_iff_eq] at h
    rw [rise_inj hr hs hx h.1] at h
    exact hg h.2
theorem tm_none {base : List Mm} {c : Int → Nat} {limit many : Nat} {k : Int} (hc : ¬ c k < limit) : tmN (toldR (xC base c limit) many) k = 0 := by
  unfold tmN toldR
  rw [List.countP_map, List.countP_filter, List.countP_eq_zero]
  intro s hs h
  simp only [Function.comp_apply, Bool.and_eq_true, beq_iff_eq] at h
  have := (xC_mem hs).2.1
  rw [h.1] at this
  exact hc this
/-- behind a turn -/
def nextC (base : List Mm) (c : Int → Nat) (limit many : Nat) (k : Int) : Nat := c k + tmN (toldR (xC base c limit) many) k
theorem left_next {base : List Mm} {c : Int → Nat} {limit many : Nat} (hb : RiseM base) : leftR (xC base c limit) many (limit : Int) = xC base (nextC base c limit many) limit := by
  have key : ∀ m ∈ base, (if c m.n < limit then some (⟨m, (c m.n : Int)⟩ : Ru) else none).bind (fun r => bumpR (gotR (xC base c limit) many r) (limit : Int) r) = (if nextC base c limit many m.n < limit then some (⟨m, (nextC base c limit many m.n : Int)⟩ : Ru) else none) := by
    intro m hm
    by_cases hc : c m.n < limit
    · rw [if_pos hc]
      show bumpR _ _ _ = _
      have ht := tm_told (many := many) hb hm hc
      unfold nextC
      rw [ht]
      unfold bumpR
      split
      · dsimp only
        by_cases h1 : c m.n + 1 < limit
        · rw [if_neg (by omega), if_pos h1]
          congr 2
        · rw [if_pos (by omega), if_neg h1]
      · rw [Nat.add_zero, if_pos hc]
    · rw [if_neg hc, if_neg]
      · rfl
      · unfold nextC
        omega
  unfold leftR
  show (List.filterMap _ (List.filterMap _ base)) = _
  rw [List.filterMap_filterMap]
  unfold xC
  exact fm_congr key
/-- none is told more than once more than another one, and none more often than the limit says -/
structure Spread (base : List Mm) (c : Int → Nat) (limit : Nat) : Prop where
  top : ∀ m ∈ base, c m.n ≤ limit
  near : ∀ a ∈ base, ∀ b ∈ base, c a.n ≤ c b.n + 1
theorem Spread.next {base : List Mm} {c : Int → Nat} {limit many : Nat} (hb : RiseM base) (h : Spread base c limit) : Spread base (nextC base c limit many) limit := by
  refine ⟨fun m hm => ?_, fun a ha b hbb => ?_⟩
  · unfold nextC
    by_cases hc : c m.n < limit
    · rw [tm_told hb hm hc]
      split <;> omega
    · rw [tm_none hc]
      exact h.top m hm
  · have h1 := h.near a ha b hbb
    unfold nextC
    by_cases hc : c a.n < limit
    · rw [tm_told hb ha hc]
      split
      · rename_i hg
        by_cases hle : c a.n ≤ c b.n
        · omega
        · have hcb : c b.n < limit := by omega
          rw [tm_told hb hbb hcb, if_pos]
          · omega
          · rw [gotR_iff] at *
            refine Nat.lt_trans (rk_mono (mem_xC hbb hcb) ?_) hg
            rw [lexB_iff]
            left
            show (c b.n : Int) < (c a.n : Int)
            omega
      · omega
    · rw [tm_none hc]
      omega
def sumC (base : List Mm) (c : Int → Nat) : Nat := (base.map (fun m => c m.n)).sum
theorem sumC_le {base : List Mm} {c : Int → Nat} {limit : Nat} (h : ∀ m ∈ base, c m.n ≤ limit) : sumC base c ≤ base.length * limit := by
  induction base with
  | nil => simp [sumC]
  | cons m base ih =>
    have h1 := h m (by simp)
    have h2 := ih (fun x hx => h x (List.mem_cons_of_mem _ hx))
    unfold sumC at *
    rw [List.map_cons, List.sum_cons, List.length_cons, Nat.add_mul]
    omega
theorem sumC_mono {base : List Mm} {c d : Int → Nat} (h : ∀ m ∈ base, c m.n ≤ d m.n) : sumC base c ≤ sumC base d := by
  induction base with
  | nil => simp [sumC]
  | cons m base ih =>
    have h1 := h m (by simp)
    have h2 := ih (fun x hx => h x (List.mem_cons_of_mem _ hx))
    unfold sumC at *
    rw [List.map_cons, List.sum_cons, List.map_cons, List.sum_cons]
    omega
theorem sumC_lt {base : List Mm} {c d : Int → Nat} (h : ∀ m ∈ base, c m.n ≤ d m.n) (hx : ∃ m ∈ base, c m.n < d m.n) : sumC base c < sumC base d := by
  induction base with
  | nil => obtain ⟨m, hm, _⟩ := hx; cases hm
  | cons m base ih =>
    have h1 := h m (by simp)
    have h2 : ∀ x ∈ base, c x.n ≤ d x.n := fun x hx => h x (List.mem_cons_of_mem _ hx)
    have h3 := sumC_mono h2
    obtain ⟨y, hy, hlt⟩ := hx
    rcases List.mem_cons.1 hy with rfl | hy
    · unfold sumC at *
      rw [List.map_cons, List.sum_cons, List.map_cons, List.sum_cons]
      omega
    · have := ih h2 ⟨y, hy, hlt⟩
      unfold sumC at *
      rw [List.map_cons, List.sum_cons, List.map_cons, List.sum_cons]
      omega
theorem sumC_next {base : List Mm} {c : Int → Nat} {limit many : Nat} (hb : RiseM base) (hm : 1 ≤ many) (hx : xC base c limit ≠ []) : sumC base c < sumC base (nextC base c limit many) := by
  refine sumC_lt (fun m _ => by unfold nextC; omega) ?_
  have hl := told_len (xC_rise (c := c) (limit := limit) hb) many
  have h1 : 0 < (xC base c limit).length := List.length_pos_iff.2 hx
  have h2 : 0 < (toldR (xC base c limit) many).length := by rw [hl]; omega
  obtain ⟨t, ht⟩ := List.exists_mem_of_length_pos h2
  have hin : t ∈ base := by
    obtain ⟨r, hr, rfl⟩ := List.mem_map.1 ht
    exact (xC_mem ((List.mem_filter.1 hr).1)).1
  refine ⟨t, hin, ?_⟩
  have : 0 < tmN (toldR (xC base c limit) many) t.n := List.countP_pos_iff.2 ⟨t, ht, by simp⟩
  unfold nextC
  omega
/-- when none is left each was told limit times -/
theorem all_told {base : List Mm} {c : Int → Nat} {limit : Nat} (h : Spread base c limit) (hx : xC base c limit = []) {m : Mm} (hm : m ∈ base) : c m.n = limit := by
  have h1 := h.top m hm
  by_cases hc : c m.n < limit
  · have := mem_xC hm hc
    rw [hx] at this
    cases this
  · omega
/-- at first all are there, and none was told -/
theorem xC_first (base : List Mm) {limit : Nat} (hl : 1 ≤ limit) : xC base (fun _ => 0) limit = base.map (fun m => (⟨m, 0⟩ : Ru)) := by
  unfold xC
  rw [← List.filterMap_eq_map]
  refine fm_congr (fun m _ => ?_)
  rw [if_pos (show 0 < limit by omega)]
  rfl
theorem Spread.first (base : List Mm) (limit : Nat) : Spread base (fun _ => 0) limit := ⟨fun _ _ => Nat.zero_le _, fun _ _ _ _ => Nat.zero_le _⟩
end Go.Proofs.Ytpelbmhhppcmeaf
