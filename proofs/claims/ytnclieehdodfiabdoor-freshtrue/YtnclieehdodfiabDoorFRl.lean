/-
  Package fresh, on lists: a key is told just if it is not stale; who says that nothing came between makes it as new; who says that something did takes it away.
-/
import Derived.Test.YtnclieehdodfiabDoorFT
namespace Go.Proofs.YtnclieehdodfiabDoor
set_option linter.unusedVariables false
set_option linter.unusedSimpArgs false
open Go.RowKit

theorem stale_has {l : List En} {key fl : Int} {x : En} (hr : Rising l) (hg : getE l key = some x) : (staleE l fl).contains key = decide (x.a < fl) := by
  have hx := (getE_iff hr).1 hg
  rw [Bool.eq_iff_iff, List.contains_iff_mem, decide_eq_true_iff]
  constructor
  · intro h
    obtain ⟨e, he, hk⟩ := List.mem_map.1 h
    obtain ⟨h1, h2⟩ := List.mem_filter.1 he
    have : getE l key = some e := (getE_iff hr).2 ⟨h1, hk⟩
    rw [hg] at this
    obtain rfl := Option.some.inj this
    simpa using h2
  · intro h
    exact List.mem_map.2 ⟨x, List.mem_filter.2 ⟨hx.1, by simpa using h⟩, hx.2⟩

theorem bad_all {e : En} (h : e.bad = 0) : 0 ≤ e.v ∧ e.v ≤ e.a ∧ e.a ≤ 1000 := by
  unfold En.bad bad at h
  split at h
  · omega
  · rename_i h1
    simp [inR] at h1
    omega
theorem bad_later {e : En} (h : e.bad = 0) {A : Int} (h1 : e.v ≤ A) (h2 : A ≤ 1000) : En.bad ⟨e.k, e.v, A, e.g, e.t⟩ = 0 := by
  have hk := bad_key h
  have ha := bad_all h
  unfold En.bad bad at h ⊢
  dsimp only at h ⊢
  have e1 : (inR e.k 0 7 && inR e.v 0 1000 && inR e.a e.v 1000) = true := by simp [inR]; omega
  have e2 : (inR e.k 0 7 && inR e.v 0 1000 && inR A e.v 1000) = true := by simp [inR]; omega
  rw [e1] at h
  rw [e2]
  exact h

theorem good_set {l : List En} {key : Int} {x y : En} (hg : GoodL l) (hx : getE l key = some x) (hk : y.k = x.k) (hb : y.bad = 0) : GoodL (l.set (placeE l key) y) ∧ getE (l.set (placeE l key) y) key = some y := by
  obtain ⟨hj, hxj, hxk⟩ := getE_some hg.rise hx
  have hr : Rising (l.set (placeE l key) y) := rising_set hg.rise _ hj y (by rw [hxj, hk])
  refine ⟨GoodL.of hr (fun e he => ?_), (getE_iff hr).2 ⟨List.mem_set hj y, by rw [hk, hxk]⟩⟩
  rcases List.mem_or_eq_of_mem_set he with h | h
  · exact hg.all e h
  · rw [h]; exact hb
theorem good_erase {l : List En} {key : Int} {x : En} (hg : GoodL l) (hx : getE l key = some x) : GoodL (l.eraseIdx (placeE l key)) ∧ getE (l.eraseIdx (placeE l key)) key = none ∧ (l.eraseIdx (placeE l key)).length = l.length - 1 := by
  obtain ⟨hj, hxj, hxk⟩ := getE_some hg.rise hx
  have hr : Rising (l.eraseIdx (placeE l key)) := List.Pairwise.sublist (List.eraseIdx_sublist _ _) hg.rise
  refine ⟨GoodL.of hr (fun e he => hg.all e (List.mem_of_mem_eraseIdx he)), ?_, by rw [List.length_eraseIdx, if_pos hj]⟩
  cases hq : getE (l.eraseIdx (placeE l key)) key with
  | none => rfl
  | some z =>
    exfalso
    obtain ⟨h1, h2⟩ := (getE_iff hr).1 hq
    obtain ⟨i, hi, hne⟩ := List.mem_eraseIdx_iff_getElem.1 h1
    obtain ⟨hne, rfl⟩ := hne
    have hp := List.pairwise_iff_getElem.1 hg.rise
    rcases Nat.lt_or_gt_of_ne hne with h | h
    · have := hp i (placeE l key) hi hj h
      rw [hxj] at this
      omega
    · have := hp (placeE l key) i hj hi h
      rw [hxj] at this
      omega

theorem cg_good {l : List En} {key : Int} {x : En} (hg : GoodL l) (hk : isK key = true) (hx : getE l key = some x) : cacheGet l key = (x, 0) := cg_some hg.bad hk hx
theorem says_seq {ver seq : Int} (h : saysB ver seq = true) : 0 ≤ ver ∧ ver ≤ seq ∧ seq ≤ 1000 := by
  simp [saysB, isSeqB] at h
  omega
/-- who says that nothing came between -/
theorem touch_same {l : List En} {key seq : Int} {x : En} {T1 : List En} (hc : cacheGet l key = (x, 0)) (ht : freshTouch l key x.v seq = (T1, 0)) : cacheGet T1 key = (⟨x.k, x.v, max x.a seq, x.g, x.t⟩, 0) := by
  obtain ⟨hg, hk, hx⟩ := cacheGet_ok hc
  obtain ⟨y, hy, hs, hd, rfl⟩ := ft_fine ht
  rw [hc] at hy
  obtain rfl := (pair_eq hy).1
  have hb := hg.all x ((getE_iff hg.rise).1 hx).1
  have ha := bad_all hb
  have hq := says_seq hs
  rw [touchE, if_neg (by omega)]
  obtain ⟨h1, h2⟩ := good_set (y := ⟨x.k, x.v, max x.a seq, x.g, x.t⟩) hg hx rfl (bad_later hb (by omega) (by omega))
  exact cg_good h1 hk h2
/-- who says that something did -/
theorem touch_more {l : List En} {key seq : Int} {x : En} {U1 : List En} (hc : cacheGet l key = (x, 0)) (ht : freshTouch l key (x.a + 1) seq = (U1, 0)) : cacheGet U1 key = (zeroEn, 5) ∧ U1.length = l.length - 1 := by
  obtain ⟨hg, hk, hx⟩ := cacheGet_ok hc
  obtain ⟨y, hy, hs, hd, rfl⟩ := ft_fine ht
  rw [hc] at hy
  obtain rfl := (pair_eq hy).1
  have hb := hg.all x ((getE_iff hg.rise).1 hx).1
  have ha := bad_all hb
  rw [touchE, if_pos (by omega)]
  obtain ⟨h1, h2, h3⟩ := good_erase hg hx
  exact ⟨cg_none h1.bad hk h2, h3⟩

def oneE : En := ⟨1, 2, 4, false, ⟨#[120]⟩⟩
theorem one_get : cacheGet [oneE] 1 = (oneE, 0) := by rfl
theorem one_touch : freshTouch [oneE] 1 2 9 = ([⟨1, 2, 9, false, ⟨#[120]⟩⟩], 0) := by rfl
theorem one_old : freshGet [oneE] 1 5 = (⟨0, 0, 0, false, ⟨#[]⟩⟩, 8) := by rfl
end Go.Proofs.YtnclieehdodfiabDoor
