/-
  What is known by two entries, as numbers: either way round, and as often as one likes.
-/
import Derived.Test.YtpcnfoaoajfhlaaDoorCaP
namespace Go.Proofs.YtpcnfoaoajfhlaaDoor
set_option linter.unusedVariables false
set_option linter.unusedSimpArgs false
open Go.RowKit
theorem bytes_inj {a b : ByteArray} (h : a.toList = b.toList) : a = b := by
  rw [ByteArray.toList_eq, ByteArray.toList_eq] at h
  exact ByteArray.ext (Array.toList_inj.mp h)
/-- x is what is known by a and b -/
def Known (a b x : En) : Prop := a.k = b.k ∧ ((a.v = b.v ∧ a.g = b.g ∧ a.t = b.t ∧ b.a < a.a ∧ x = a) ∨ (a.v = b.v ∧ a.g = b.g ∧ a.t = b.t ∧ a.a ≤ b.a ∧ x = b) ∨ (b.v < a.v ∧ b.a < a.v ∧ x = a) ∨ (a.v < b.v ∧ a.a < b.v ∧ x = b))
theorem bad2_zero {m n : Int} : bad2 m n = 0 ↔ m = 0 ∧ n = 0 := by
  unfold bad2
  by_cases h : m = 0 <;> simp [h]
theorem joinE_iff {a b x : En} : joinE a b = (x, 0) ↔ a.bad = 0 ∧ b.bad = 0 ∧ Known a b x := by
  unfold joinE Known En.bad
  by_cases hb : bad2 (bad a.k a.v a.a a.g a.t) (bad b.k b.v b.a b.g b.t) = 0
  · rw [if_neg (by simpa using hb)]
    have hb2 := bad2_zero.1 hb
    rw [hb2.1, hb2.2]
    by_cases hk : a.k = b.k
    · rw [if_neg (by simpa using hk)]
      simp only [hk, true_and]
      by_cases hv : a.v = b.v
      · have hlt : ¬ a.v < b.v := by omega
        have hgt : ¬ b.v < a.v := by omega
        by_cases hg : a.g = b.g
        · by_cases ht : a.t = b.t
          · by_cases ha : b.a < a.a
            · have hna : ¬ a.a ≤ b.a := by omega
              simp [newerB, clashB, hv, hg, ht, ha, hna, eq_comm]
            · have hna : a.a ≤ b.a := by omega
              simp [newerB, clashB, hv, hg, ht, ha, hna, eq_comm]
          · have htl : ¬ a.t.toList = b.t.toList := fun h => ht (bytes_inj h)
            have htl' : ¬ b.t.toList = a.t.toList := fun h => ht (bytes_inj h.symm)
            simp [newerB, clashB, hv, ht, htl, htl']
        · have hg' : ¬ b.g = a.g := fun h => hg h.symm
          simp [newerB, clashB, hv, hg, hg']
      · have hv' : ¬ b.v = a.v := fun h => hv h.symm
        by_cases hlt : b.v < a.v
        · have hgt : ¬ a.v < b.v := by omega
          by_cases hc : a.v ≤ b.a
          · have hnc : ¬ b.a < a.v := by omega
            simp [newerB, clashB, hv, hv', hlt, hgt, hc, hnc]
          · have hnc : b.a < a.v := by omega
            simp [newerB, clashB, hv, hv', hlt, hgt, hc, hnc, eq_comm]
        · have hgt : a.v < b.v := by omega
          by_cases hc : b.v ≤ a.a
          · have hnc : ¬ a.a < b.v := by omega
            simp [newerB, clashB, hv, hv', hlt, hgt, hc, hnc]
          · have hnc : a.a < b.v := by omega
            simp [newerB, clashB, hv, hv', hlt, hgt, hc, hnc, eq_comm]
    · simp [hk]
  · rw [if_pos hb]
    constructor
    · intro h
      simp only [Prod.mk.injEq] at h
      exact absurd h.2 hb
    · rintro ⟨h1, h2, _⟩
      exact absurd (bad2_zero.2 ⟨h1, h2⟩) hb
theorem En.eqs {a b : En} (h0 : a.k = b.k) (h1 : a.v = b.v) (h2 : a.a = b.a) (h3 : a.g = b.g) (h4 : a.t = b.t) : a = b := by
  cases a; cases b
  simp at *
  exact ⟨h0, h1, h2, h3, h4⟩
theorem Known.comm {a b x : En} (h : Known a b x) : Known b a x := by
  obtain ⟨hk, h⟩ := h
  refine ⟨hk.symm, ?_⟩
  rcases h with ⟨h1, h2, h3, h4, rfl⟩ | ⟨h1, h2, h3, h4, rfl⟩ | ⟨h1, h2, rfl⟩ | ⟨h1, h2, rfl⟩
  · exact Or.inr (Or.inl ⟨h1.symm, h2.symm, h3.symm, by omega, rfl⟩)
  · by_cases he : a.a < x.a
    · exact Or.inl ⟨h1.symm, h2.symm, h3.symm, he, rfl⟩
    · exact Or.inr (Or.inl ⟨h1.symm, h2.symm, h3.symm, by omega, (En.eqs hk h1 (by omega) h2 h3).symm⟩)
  · exact Or.inr (Or.inr (Or.inr ⟨h1, h2, rfl⟩))
  · exact Or.inr (Or.inr (Or.inl ⟨h1, h2, rfl⟩))
theorem Known.self (a : En) : Known a a a := ⟨rfl, Or.inr (Or.inl ⟨rfl, rfl, rfl, Int.le_refl _, rfl⟩)⟩
theorem Known.one {a b x : En} (h : Known a b x) : x = a ∨ x = b := by
  obtain ⟨hk, h⟩ := h
  rcases h with ⟨h1, h2, h3, h4, rfl⟩ | ⟨h1, h2, h3, h4, rfl⟩ | ⟨h1, h2, rfl⟩ | ⟨h1, h2, rfl⟩ <;> simp
theorem Known.left {a b x : En} (h : Known a b x) : Known x a x := by
  rcases h.one with rfl | rfl
  · exact Known.self _
  · exact h.comm
theorem Known.right {a b x : En} (h : Known a b x) : Known x b x := by
  rcases h.one with rfl | rfl
  · exact h
  · exact Known.self _
theorem Known.new {a b x : En} (h : Known a b x) (ha : a.v ≤ a.a) (hb : b.v ≤ b.a) : a.v ≤ x.v ∧ b.v ≤ x.v ∧ a.a ≤ x.a ∧ b.a ≤ x.a := by
  obtain ⟨hk, h⟩ := h
  rcases h with ⟨h1, h2, h3, h4, rfl⟩ | ⟨h1, h2, h3, h4, rfl⟩ | ⟨h1, h2, rfl⟩ | ⟨h1, h2, rfl⟩ <;> refine ⟨?_, ?_, ?_, ?_⟩ <;> omega
/-- the newer of two by version, and then by time -/
def Upto (a b : En) : Prop := a.v < b.v ∨ (a.v = b.v ∧ a.a ≤ b.a)
theorem Known.upto {a b x : En} (h : Known a b x) : Upto a x ∧ Upto b x := by
  obtain ⟨hk, h⟩ := h
  unfold Upto
  rcases h with ⟨h1, h2, h3, h4, rfl⟩ | ⟨h1, h2, h3, h4, rfl⟩ | ⟨h1, h2, rfl⟩ | ⟨h1, h2, rfl⟩ <;> constructor <;> omega
theorem Known.of_upto {a b y : En} (h : Known a b y) (hx : Upto a b) : y = b := by
  obtain ⟨hk, h⟩ := h
  unfold Upto at hx
  rcases h with ⟨h1, h2, h3, h4, rfl⟩ | ⟨h1, h2, h3, h4, rfl⟩ | ⟨h1, h2, rfl⟩ | ⟨h1, h2, rfl⟩
  · omega
  · rfl
  · omega
  · rfl
theorem Upto.trans {a b c : En} (h : Upto a b) (k : Upto b c) : Upto a c := by
  unfold Upto at *
  omega
/-- three in any order alike -/
theorem Known.three {a b c x p y z : En} (h1 : Known a b x) (h2 : Known x c p) (h3 : Known b c y) (h4 : Known a c z) : Known a y p := by
  have u1 := h1.upto; have u2 := h2.upto; have u3 := h3.upto; have u4 := h4.upto
  rcases h3.one with rfl | rfl
  · -- y = b
    have hp : p = x := by
      rcases h2.one with rfl | rfl
      · rfl
      · have : Upto y x := u1.2
        exact (Known.of_upto (h2.comm) (u3.2.trans this)).symm ▸ rfl
    rw [hp]
    exact h1
  · rcases h1.one with rfl | rfl
    · exact h2
    · have e := Known.of_upto h2 (show Upto x y from u3.1)
      rw [e]
      have e4 := Known.of_upto h4 (u1.1.trans u3.1)
      rw [e4] at h4
      exact h4
end Go.Proofs.YtpcnfoaoajfhlaaDoor
