/-
  What is known by two entries, as numbers: either way round, and as often as one likes.
  meresame.Cache by its contract: whether two rows are the same.
  Both caches, key by key: either way round, and with one of both again.
-/
import Derived.Test.YtpcnfoaoajfhlaaGreatDoorRaac
import Derived.BigQuiet
import Derived.Test.YtpcnfoaoajfhlaaGreatDoorRaaf
namespace Go.Proofs.YtpcnfoaoajfhlaaGreatDoor
set_option linter.unusedVariables false
set_option linter.unusedSimpArgs false
set_option linter.unusedVariables false
set_option linter.unusedSimpArgs false
open Go.RowKit
theorem bytes_inj {a b : ByteArray} (h : a.toList = b.toList) : a = b := by
  rw [ByteArray.toList_eq, ByteArray.toList_eq] at h
  exact ByteArray.ext (Array.toList_inj.mp h)
/-- x is what is known by a and b -/
def Known (a b x : En) : Prop := a.k = b.k ∧ ((a.v = b.v ∧ a.g = b.g ∧ a.t = b.t ∧ b.a < a.a ∧ x = a) ∨ (a.v = b.v ∧ a.g = b.g ∧ a.t = b.t ∧ a.a ≤ b.a ∧ x = b) ∨ (b.v < a.v ∧ b.a < a.v ∧ x = a) ∨ (a.v < b.v ∧ a.a < b.v ∧ x = b))
theorem bad2_zero {m n : Int} : bad2 m n = 0 ↔ m = 0 ∧ n = 0 := by
  unfold bad2
  by_cases h : m = 0 <;> simp [h]
theorem joinE_iff {a b x : En} : joinE a b = (x, 0) ↔ a.bad = 0 ∧ b.bad = 0 ∧ Known a b x := by
  unfold joinE Known En.bad
  by_cases hb : bad2 (bad a.k a.v a.a a.g a.t) (bad b.k b.v b.a b.g b.t) = 0
  · rw [if_neg (by simpa using hb)]
    have hb2 := bad2_zero.1 hb
    rw [hb2.1, hb2.2]
    by_cases hk : a.k = b.k
    · rw [if_neg (by simpa using hk)]
      simp only [hk, true_and]
      by_cases hv : a.v = b.v
      · have hlt : ¬ a.v < b.v := by omega
        have hgt : ¬ b.v < a.v := by omega
        by_cases hg : a.g = b.g
        · by_cases ht : a.t = b.t
          · by_cases ha : b.a < a.a
            · have hna : ¬ a.a ≤ b.a := by omega
              simp [newerB, clashB, hv, hg, ht, ha, hna, eq_comm]
            · have hna : a.a ≤ b.a := by omega
              simp [newerB, clashB, hv, hg, ht, ha, hna, eq_comm]
          · have htl : ¬ a.t.toList = b.t.toList := fun h => ht (bytes_inj h)
            have htl' : ¬ b.t.toList = a.t.toList := fun h => ht (bytes_inj h.symm)
            simp [newerB, clashB, hv, ht, htl, htl']
        · have hg' : ¬ b.g = a.g := fun h => hg h.symm
          simp [newerB, clashB, hv, hg, hg']
      · have hv' : ¬ b.v = a.v := fun h => hv h.symm
        by_cases hlt : b.v < a.v
        · have hgt : ¬ a.v < b.v := by omega
          by_cases hc : a.v ≤ b.a
          · have hnc : ¬ b.a < a.v := by omega
            simp [newerB, clashB, hv, hv', hlt, hgt, hc, hnc]
          · have hnc : b.a < a.v := by omega
            simp [newerB, clashB, hv, hv', hlt, hgt, hc, hnc, eq_comm]
        · have hgt : a.v < b.v := by omega
          by_cases hc : b.v ≤ a.a
          · have hnc : ¬ a.a < b.v := by omega
            simp [newerB, clashB, hv, hv', hlt, hgt, hc, hnc]
          · have hnc : a.a < b.v := by omega
            simp [newerB, clashB, hv, hv', hlt, hgt, hc, hnc, eq_comm]
    · simp [hk]
  · rw [if_pos hb]
    constructor
    · intro h
      simp only [Prod.mk.injEq] at h
      exact absurd h.2 hb
    · rintro ⟨h1, h2, _⟩
      exact absurd (bad2_zero.2 ⟨h1, h2⟩) hb
theorem En.eqs {a b : En} (h0 : a.k = b.k) (h1 : a.v = b.v) (h2 : a.a = b.a) (h3 : a.g = b.g) (h4 : a.t = b.t) : a = b := by
  cases a; cases b
  simp at *
  exact ⟨h0, h1, h2, h3, h4⟩
theorem Known.comm {a b x : En} (h : Known a b x) : Known b a x := by
  obtain ⟨hk, h⟩ := h
  refine ⟨hk.symm, ?_⟩
  rcases h with ⟨h1, h2, h3, h4, rfl⟩ | ⟨h1, h2, h3, h4, rfl⟩ | ⟨h1, h2, rfl⟩ | ⟨h1, h2, rfl⟩
  · exact Or.inr (Or.inl ⟨h1.symm, h2.symm, h3.symm, by omega, rfl⟩)
  · by_cases he : a.a < x.a
    · exact Or.inl ⟨h1.symm, h2.symm, h3.symm, he, rfl⟩
    · exact Or.inr (Or.inl ⟨h1.symm, h2.symm, h3.symm, by omega, (En.eqs hk h1 (by omega) h2 h3).symm⟩)
  · exact Or.inr (Or.inr (Or.inr ⟨h1, h2, rfl⟩))
  · exact Or.inr (Or.inr (Or.inl ⟨h1, h2, rfl⟩))
theorem Known.self (a : En) : Known a a a := ⟨rfl, Or.inr (Or.inl ⟨rfl, rfl, rfl, Int.le_refl _, rfl⟩)⟩
theorem Known.one {a b x : En} (h : Known a b x) : x = a ∨ x = b := by
  obtain ⟨hk, h⟩ := h
  rcases h with ⟨h1, h2, h3, h4, rfl⟩ | ⟨h1, h2, h3, h4, rfl⟩ | ⟨h1, h2, rfl⟩ | ⟨h1, h2, rfl⟩ <;> simp
theorem Known.left {a b x : En} (h : Known a b x) : Known x a x := by
  rcases h.one with rfl | rfl
  · exact Known.self _
  · exact h.comm
theorem Known.right {a b x : En} (h : Known a b x) : Known x b x := by
  rcases h.one with rfl | rfl
  · exact h
  · exact Known.self _
theorem Known.new {a b x : En} (h : Known a b x) (ha : a.v ≤ a.a) (hb : b.v ≤ b.a) : a.v ≤ x.v ∧ b.v ≤ x.v ∧ a.a ≤ x.a ∧ b.a ≤ x.a := by
  obtain ⟨hk, h⟩ := h
  rcases h with ⟨h1, h2, h3, h4, rfl⟩ | ⟨h1, h2, h3, h4, rfl⟩ | ⟨h1, h2, rfl⟩ | ⟨h1, h2, rfl⟩ <;> refine ⟨?_, ?_, ?_, ?_⟩ <;> omega
/-- the newer of two by version, and then by time -/
def Upto (a b : En) : Prop := a.v < b.v ∨ (a.v = b.v ∧ a.a ≤ b.a)
theorem Known.upto {a b x : En} (h : Known a b x) : Upto a x ∧ Upto b x := by
  obtain ⟨hk, h⟩ := h
  unfold Upto
  rcases h with ⟨h1, h2, h3, h4, rfl⟩ | ⟨h1, h2, h3, h4, rfl⟩ | ⟨h1, h2, rfl⟩ | ⟨h1, h2, rfl⟩ <;> constructor <;> omega
theorem Known.of_upto {a b y : En} (h : Known a b y) (hx : Upto a b) : y = b := by
  obtain ⟨hk, h⟩ := h
  unfold Upto at hx
  rcases h with ⟨h1, h2, h3, h4, rfl⟩ | ⟨h1, h2, h3, h4, rfl⟩ | ⟨h1, h2, rfl⟩ | ⟨h1, h2, rfl⟩
  · omega
  · rfl
  · omega
  · rfl
theorem Upto.trans {a b c : En} (h : Upto a b) (k : Upto b c) : Upto a c := by
  unfold Upto at *
  omega
/-- three in any order alike -/
theorem Known.three {a b c x p y z : En} (h1 : Known a b x) (h2 : Known x c p) (h3 : Known b c y) (h4 : Known a c z) : Known a y p := by
  have u1 := h1.upto; have u2 := h2.upto; have u3 := h3.upto; have u4 := h4.upto
  rcases h3.one with rfl | rfl
  · -- y = b
    have hp : p = x := by
      rcases h2.one with rfl | rfl
      · rfl
      · have : Upto y x := u1.2
        exact (Known.of_upto (h2.comm) (u3.2.trans this)).symm ▸ rfl
    rw [hp]
    exact h1
  · rcases h1.one with rfl | rfl
    · exact h2
    · have e := Known.of_upto h2 (show Upto x y from u3.1)
      rw [e]
      have e4 := Known.of_upto h4 (u1.1.trans u3.1)
      rw [e4] at h4
      exact h4
end Go.Proofs.YtpcnfoaoajfhlaaGreatDoor

namespace Go.Proofs.YtpcnfoaoajfhlaaGreatDoor
set_option linter.unusedVariables false
set_option linter.unusedSimpArgs false
open Go.RowKit

def sameL : List En → List En → Bool
  | [], [] => true
  | x :: a, y :: b => x.same y && sameL a b
  | _, _ => false
theorem En.same_iff {x y : En} : x.same y = true ↔ x = y := by
  constructor
  · intro h
    simp [En.same] at h
    exact En.eqs h.1 h.2.1 h.2.2.1 h.2.2.2.1 (bytes_inj h.2.2.2.2)
  · rintro rfl
    exact En.same_self x
theorem sameL_iff {a b : List En} : sameL a b = true ↔ a = b := by
  induction a generalizing b with
  | nil => cases b <;> simp [sameL]
  | cons x a ih => cases b <;> simp [sameL, ih, En.same_iff]
theorem sameL_len {a b : List En} (h : a.length ≠ b.length) : sameL a b = false := by
  cases hs : sameL a b
  · rfl
  · exact absurd (by rw [sameL_iff.1 hs]) h
theorem sameL_step {a b : List En} {j : Nat} (ha : j < a.length) (hb : j < b.length) : sameL (a.drop j) (b.drop j) = (a[j].same b[j] && sameL (a.drop (j + 1)) (b.drop (j + 1))) := by
  rw [List.drop_eq_getElem_cons ha, List.drop_eq_getElem_cons hb, sameL]

theorem neq_cellsS (x0 x1 x2 : Int) (x3 : Bool) (x4 : ByteArray) (y0 y1 y2 : Int) (y3 : Bool) (y4 : ByteArray) (b : Bool) (h : En.same ⟨x0, x1, x2, x3, x4⟩ ⟨y0, y1, y2, y3, y4⟩ = b) (w : World) : (binOp .neq 46 (.agg #[.int .i64 x0, .int .i64 x1, .int .i64 x2, .bool x3, .string x4]) (.agg #[.int .i64 y0, .int .i64 y1, .int .i64 y2, .bool y3, .string y4])).run Tryz.prog w = .ok (.bool !b) w := by
  have h1 := eql_enIn ⟨x0, x1, x2, x3, x4⟩ ⟨y0, y1, y2, y3, y4⟩ w
  rw [h] at h1
  unfold En.val at h1
  rw [run_neq_struct, h1]
  rfl
theorem below_drewS (B : Nat) (w : World) (n : Nat) : Below B w (w.drewN n) := ⟨rfl, rfl, rfl, Nat.le_refl _, fun _ _ => rfl⟩

set_option maxHeartbeats 4000000 in
theorem same_c (va vb : Value) (a b : List En) (w : World) (hra : RowIs w va a) (hrb : RowIs w vb b) :
    Calls Tryz.prog 18 #[va, vb] w fun e w' => e = .returned (.bool (sameL a b)) ∧ Below w.heap.size w w' := by
  obtain ⟨hla, pa, capa, rfl, hrowa⟩ := hra
  obtain ⟨hlb, pb, capb, rfl, hrowb⟩ := hrb
  by_cases hl : a.length = b.length
  · have HRA : Hid (a ≠ [] → ∃ bb o, pa = some ⟨bb, o, none⟩ ∧ bb < w.heap.size ∧ ∀ j (h : j < a.length), EnAt w bb (o + j * 5) a[j]) := hrowa
    have HRB : Hid (b ≠ [] → ∃ bb o, pb = some ⟨bb, o, none⟩ ∧ bb < w.heap.size ∧ ∀ j (h : j < b.length), EnAt w bb (o + j * 5) b[j]) := hrowb
    clear hrowa hrowb
    have HL : Hid (a.length = b.length) := hl
    obtain ⟨n, HN⟩ : ∃ n, Hid (a.length = n) := ⟨_, rfl⟩
    have HNb : Hid (b.length = n) := HL.out.symm.trans HN.out
    rw [HN.out] at hla ⊢
    rw [HNb.out] at hlb ⊢
    have hn63 : n ≤ 9223372036854775807 := hla
    clear hl
    obtain ⟨R, HR⟩ : ∃ R, Hid (sameL a b = R) := ⟨_, rfl⟩
    rw [HR.out]
    have hgd := eqGuard_en
    go_enter Tryz.func18, Tryz.ntmps18
    go_wp2_with fail
    go_loopw [5] (fun i wr => ∃ j : Nat, j ≤ n ∧ i = .int .i64 j ∧ Hid (R = sameL (a.drop j) (b.drop j)) ∧ Hid (Below w.heap.size w wr)) (fun i _ => n - (intOf i).toNat)
    case atStart => exact ⟨0, Nat.zero_le _, rfl, by rw [List.drop_zero, List.drop_zero]; exact HR.out.symm, Below.refl _ _⟩
    case round =>
      obtain ⟨j, hj, rfl, HE, HB⟩ := hrel
      by_cases hlt : j < n
      · have hja : j < a.length := by rw [HN.out]; exact hlt
        have hjb : j < b.length := by rw [HNb.out]; exact hlt
        obtain ⟨ba, oa, rfl, hbwa, hata⟩ := HRA.out (fun h => by simp [h] at hja)
        obtain ⟨bb, ob, rfl, hbwb, hatb⟩ := HRB.out (fun h => by simp [h] at hjb)
        have HAa : Hid (EnAt wr ba (oa + j * 5) a[j]) := (hata j hja).of_block (HB.out.block ba hbwa)
        have HAb : Hid (EnAt wr bb (ob + j * 5) b[j]) := (hatb j hjb).of_block (HB.out.block bb hbwb)
        clear hata hatb
        have HStep : Hid (R = (a[j].same b[j] && sameL (a.drop (j + 1)) (b.drop (j + 1)))) := HE.out.trans (sameL_step hja hjb)
        obtain ⟨x, HX⟩ : ∃ x, Hid (a[j] = x) := ⟨a[j], show a[j] = a[j] from rfl⟩
        obtain ⟨y, HY⟩ : ∃ y, Hid (b[j] = y) := ⟨b[j], show b[j] = b[j] from rfl⟩
        rw [HX.out] at HAa HStep
        rw [HY.out] at HAb HStep
        obtain ⟨x0, x1, x2, x3, x4⟩ := x
        obtain ⟨y0, y1, y2, y3, y4⟩ := y
        obtain ⟨sm, HS⟩ : ∃ sm, Hid (En.same ⟨x0, x1, x2, x3, x4⟩ ⟨y0, y1, y2, y3, y4⟩ = sm) := ⟨_, rfl⟩
        rw [HS.out] at HStep
        have hq := neq_cellsS x0 x1 x2 x3 x4 y0 y1 y2 y3 y4 sm HS.out
        obtain ⟨c0, c1, c2, c3, c4⟩ := HAa.out
        obtain ⟨d0, d1, d2, d3, d4⟩ := HAb.out
        dsimp only at c0 c1 c2 c3 c4 d0 d1 d2 d3 d4
        have hlti : (j : Int) < (n : Int) := by omega
        cases sm
        · go_upto_region 6 with fail
          go_quiet (fail)
          go_wp2_with fail
          go_ret
          refine ⟨by rw [HStep.out]; rfl, HB.out.trans (below_drewS _ _ _)⟩
        · go_upto_region 6 with fail
          go_quiet (fail)
          go_wp2_with fail
          go_roundw
          case rel => exact ⟨j + 1, by omega, by go_num, HStep.out.trans (by rw [Bool.true_and]), HB.out.trans (below_drewS _ _ _)⟩
          case measure => simp [intOf]; omega
      · obtain rfl : j = n := by omega
        have HR0 : Hid (R = true) := by
          show R = true
          rw [HE.out, List.drop_eq_nil_of_le (by rw [HN.out]; exact Nat.le_refl _), List.drop_eq_nil_of_le (by rw [HNb.out]; exact Nat.le_refl _)]
          rfl
        go_wp2_with fail
        go_ret
        exact ⟨by rw [HR0.out]; rfl, HB.out⟩
  · rw [sameL_len hl]
    clear hrowa hrowb
    have hli : ¬ ((a.length : Int) = (b.length : Int)) := by omega
    generalize a.length = n at *
    generalize b.length = m at *
    go_enter Tryz.func18, Tryz.ntmps18
    go_wp2_with fail
    go_ret
    exact ⟨rfl, Below.refl _ _⟩
end Go.Proofs.YtpcnfoaoajfhlaaGreatDoor

namespace Go.Proofs.YtpcnfoaoajfhlaaGreatDoor
set_option linter.unusedVariables false
set_option linter.unusedSimpArgs false
open Go.RowKit

theorem getE_iff {l : List En} (hr : Rising l) {k : Int} {x : En} : getE l k = some x ↔ x ∈ l ∧ x.k = k := by
  constructor
  · intro h
    exact ⟨List.mem_of_find?_eq_some h, by simpa using List.find?_some h⟩
  · rintro ⟨hx, hk⟩
    cases hg : getE l k with
    | none => exact absurd hk (getE_none hg x hx)
    | some y =>
      have hy : y ∈ l := List.mem_of_find?_eq_some hg
      have hyk : y.k = k := by simpa using List.find?_some hg
      obtain ⟨i, hi, rfl⟩ := List.getElem_of_mem hx
      obtain ⟨j, hj, rfl⟩ := List.getElem_of_mem hy
      rcases Nat.lt_trichotomy i j with h | h | h
      · have := List.pairwise_iff_getElem.1 hr _ _ hi hj h; omega
      · subst h; rfl
      · have := List.pairwise_iff_getElem.1 hr _ _ hj hi h; omega
theorem opt_ext {a b : Option En} (h : ∀ x, a = some x ↔ b = some x) : a = b := by
  cases a with
  | none =>
    cases b with
    | none => rfl
    | some y => exact absurd ((h y).2 rfl) (by simp)
  | some x => exact ((h x).1 rfl).symm
/-- a rising row is told by its keys -/
theorem rising_ext {x y : List En} (hx : Rising x) (hy : Rising y) (h : ∀ k, getE x k = getE y k) : x = y := by
  have hm : ∀ e, e ∈ x ↔ e ∈ y := fun e => by
    have h1 := getE_iff hx (k := e.k) (x := e)
    have h2 := getE_iff hy (k := e.k) (x := e)
    rw [h e.k] at h1
    simp only [and_true] at h1 h2
    exact h1.symm.trans h2
  clear h
  induction x generalizing y with
  | nil =>
    cases y with
    | nil => rfl
    | cons e y => exact absurd ((hm e).2 (by simp)) (by simp)
  | cons a x ih =>
    cases y with
    | nil => exact absurd ((hm a).1 (by simp)) (by simp)
    | cons b y =>
      have hx' := List.pairwise_cons.1 hx
      have hy' := List.pairwise_cons.1 hy
      have hab : a = b := by
        rcases List.mem_cons.1 ((hm a).1 (by simp)) with h | h
        · exact h
        · rcases List.mem_cons.1 ((hm b).2 (by simp)) with h' | h'
          · exact h'.symm
          · have := hy'.1 a h
            have := hx'.1 b h'
            omega
      subst hab
      rw [ih hx'.2 hy'.2 (fun e => ?_)]
      constructor
      · intro he
        rcases List.mem_cons.1 ((hm e).1 (by simp [he])) with h | h
        · subst h
          have := hx'.1 e he
          omega
        · exact h
      · intro he
        rcases List.mem_cons.1 ((hm e).2 (by simp [he])) with h | h
        · subst h
          have := hy'.1 e he
          omega
        · exact h

/-- what put leaves of a key -/
theorem getE_put {l : List En} {e : En} (hg : GoodL l) (he : e.bad = 0) (h : (putE l e).2.2 = 0) (k : Int) :
    getE (putE l e).1 k = if k = e.k then (match getE l e.k with | none => some e | some a => some (joinE a e).1) else getE l k := by
  have hgood := putE_good hg he h
  apply opt_ext
  intro x
  rw [getE_iff hgood.rise]
  unfold putE at h ⊢
  cases hk : getE l e.k with
  | none =>
    simp only [hk]
    have hn := getE_none hk
    have hmem : x ∈ l.take (placeE l e.k) ++ e :: l.drop (placeE l e.k) ↔ x = e ∨ x ∈ l := by
      rw [List.mem_append, List.mem_cons]
      constructor
      · rintro (h | h | h)
        · exact .inr (List.mem_of_mem_take h)
        · exact .inl h
        · exact .inr (List.mem_of_mem_drop h)
      · rintro (h | h)
        · exact .inr (.inl h)
        · rw [← List.take_append_drop (placeE l e.k) l] at h
          rcases List.mem_append.1 h with h | h
          · exact .inl h
          · exact .inr (.inr h)
    rw [hmem]
    by_cases hke : k = e.k
    · rw [if_pos hke]
      constructor
      · rintro ⟨h1 | h1, h2⟩
        · rw [h1]
        · exact absurd (h2.trans hke) (hn x h1)
      · intro h1
        have h1 : e = x := by simpa using h1
        exact ⟨.inl h1.symm, by rw [← h1, hke]⟩
    · rw [if_neg hke, getE_iff hg.rise]
      constructor
      · rintro ⟨h1 | h1, h2⟩
        · rw [h1] at h2; exact absurd h2.symm hke
        · exact ⟨h1, h2⟩
      · rintro ⟨h1, h2⟩
        exact ⟨.inr h1, h2⟩
  | some a =>
    simp only [hk] at h ⊢
    have hn : (joinE a e).2 = 0 := by
      by_cases hz : (joinE a e).2 = 0
      · exact hz
      · rw [if_pos hz] at h; exact absurd h hz
    rw [if_neg (by simpa using hn)]
    obtain ⟨ha, _, hae, hJ⟩ := joinE_ok (x := a) (y := e) (J := (joinE a e).1) (by rw [← hn])
    obtain ⟨hm, hma, hmk⟩ := getE_some hg.rise hk
    have hJk : (joinE a e).1.k = e.k := by rcases hJ with h' | h' <;> rw [h']; exact hae
    generalize (joinE a e).1 = J at hJk ⊢
    have hJm : J ∈ l.set (placeE l e.k) J := List.mem_iff_getElem.2 ⟨placeE l e.k, by simpa using hm, by simp⟩
    by_cases hke : k = e.k
    · rw [if_pos hke]
      constructor
      · rintro ⟨h1, h2⟩
        rcases List.mem_or_eq_of_mem_set h1 with h3 | h3
        · obtain ⟨i, hi, rfl⟩ := List.getElem_of_mem h1
          rw [List.length_set] at hi
          rw [List.getElem_set] at h2 ⊢
          split
          · rfl
          · rename_i hne
            rw [if_neg hne] at h2
            have h4 : l[i].k = l[placeE l e.k].k := by rw [h2, hma, hmk, hke]
            rcases Nat.lt_trichotomy i (placeE l e.k) with h' | h' | h'
            · have := List.pairwise_iff_getElem.1 hg.rise _ _ hi hm h'; omega
            · exact absurd h'.symm hne
            · have := List.pairwise_iff_getElem.1 hg.rise _ _ hm hi h'; omega
        · rw [h3]
      · intro h1
        have h1 : J = x := by simpa using h1
        exact ⟨by rw [← h1]; exact hJm, by rw [← h1, hJk, hke]⟩
    · rw [if_neg hke, getE_iff hg.rise]
      constructor
      · rintro ⟨h1, h2⟩
        rcases List.mem_or_eq_of_mem_set h1 with h3 | h3
        · exact ⟨h3, h2⟩
        · rw [h3, hJk] at h2; exact absurd h2.symm hke
      · rintro ⟨h1, h2⟩
        refine ⟨?_, h2⟩
        obtain ⟨i, hi, rfl⟩ := List.getElem_of_mem h1
        refine List.mem_iff_getElem.2 ⟨i, by simpa using hi, ?_⟩
        rw [List.getElem_set, if_neg]
        intro h'
        have : l[i].k = e.k := by simp only [← h']; rw [hma]; exact hmk
        omega

/-- what two caches know of a key -/
def KnownAt : Option En → Option En → Option En → Prop
  | none, none, r => r = none
  | some a, none, r => r = some a
  | none, some b, r => r = some b
  | some a, some b, r => ∃ c, r = some c ∧ Known a b c
theorem KnownAt.comm {a b r : Option En} (h : KnownAt a b r) : KnownAt b a r := by
  cases a <;> cases b <;> simp only [KnownAt] at h ⊢
  · exact h
  · exact h
  · exact h
  · obtain ⟨c, h1, h2⟩ := h
    exact ⟨c, h1, h2.comm⟩
theorem KnownAt.left {a b r : Option En} (h : KnownAt a b r) : KnownAt r a r := by
  cases a <;> cases b <;> simp only [KnownAt] at h
  · subst h; rfl
  · subst h; rfl
  · subst h; exact ⟨_, rfl, Known.self _⟩
  · obtain ⟨c, rfl, h2⟩ := h
    exact ⟨c, rfl, h2.left⟩
theorem KnownAt.right {a b r : Option En} (h : KnownAt a b r) : KnownAt b r r := h.comm.left.comm
def Merged (a b x : List En) : Prop := ∀ k, KnownAt (getE a k) (getE b k) (getE x k)
theorem getE_cons_same {e : En} {b : List En} : getE (e :: b) e.k = some e := by simp [getE]
theorem getE_cons_other {e : En} {b : List En} {k : Int} (h : k ≠ e.k) : getE (e :: b) k = getE b k := by
  have : ¬ e.k = k := fun h' => h h'.symm
  simp [getE, this]
theorem getE_tail {e : En} {b : List En} (h : Rising (e :: b)) : getE b e.k = none := by
  cases hg : getE b e.k with
  | none => rfl
  | some y =>
    have h1 := (getE_iff (List.pairwise_cons.1 h).2).1 hg
    have := (List.pairwise_cons.1 h).1 y h1.1
    omega
theorem allE_merged {l b x : List En} (hl : GoodL l) (hb : Rising b) (hbb : ∀ e ∈ b, e.bad = 0) (h : allE l b = (x, 0)) : Merged l b x := by
  induction b generalizing l with
  | nil =>
    rw [allE] at h
    obtain rfl : l = x := by simpa using h
    intro k
    have : getE [] k = none := rfl
    rw [this]
    cases getE l k <;> rfl
  | cons e b ih =>
    rw [allE] at h
    by_cases hn : (putE l e).2.2 = 0
    · rw [if_neg (by simpa using hn)] at h
      have he := hbb e (by simp)
      have hm := ih (putE_good hl he hn) (List.pairwise_cons.1 hb).2 (fun y hy => hbb y (by simp [hy])) h
      intro k
      have hk := hm k
      rw [getE_put hl he hn] at hk
      by_cases hke : k = e.k
      · subst hke
        rw [if_pos rfl, getE_tail hb] at hk
        rw [getE_cons_same]
        cases ha : getE l e.k with
        | none => simp only [ha, KnownAt] at hk ⊢; exact hk
        | some a =>
          simp only [ha, KnownAt] at hk ⊢
          refine ⟨_, hk, ?_⟩
          have hj : joinE a e = ((joinE a e).1, 0) := by
            unfold putE at hn
            simp only [ha] at hn
            by_cases hz : (joinE a e).2 = 0
            · rw [← hz]
            · rw [if_pos hz] at hn; exact absurd hn hz
          exact (joinE_iff.1 hj).2.2
      · rw [if_neg hke] at hk
        rw [getE_cons_other hke]
        exact hk
    · rw [if_pos hn] at h
      simp only [Prod.mk.injEq] at h
      exact absurd h.2 hn
theorem merged_allE {l b x : List En} (hl : GoodL l) (hb : Rising b) (hbb : ∀ e ∈ b, e.bad = 0) (hx : Rising x) (h : Merged l b x) : allE l b = (x, 0) := by
  induction b generalizing l with
  | nil =>
    rw [allE]
    refine Prod.ext (rising_ext hl.rise hx fun k => ?_) rfl
    have hk := h k
    have hn : getE [] k = none := rfl
    rw [hn] at hk
    cases hc : getE l k with
    | none => rw [hc] at hk; simp only [KnownAt] at hk; rw [hk]
    | some a => rw [hc] at hk; simp only [KnownAt] at hk; rw [hk]
  | cons e b ih =>
    have he := hbb e (by simp)
    have hn : (putE l e).2.2 = 0 ∧ (∀ a, getE l e.k = some a → ∃ c, getE x e.k = some c ∧ (joinE a e).1 = c ∧ Known a e c) := by
      have hk := h e.k
      rw [getE_cons_same] at hk
      cases ha : getE l e.k with
      | none =>
        refine ⟨?_, by simp⟩
        unfold putE
        simp only [ha]
      | some a =>
        rw [ha] at hk
        simp only [KnownAt] at hk
        obtain ⟨c, hc, hkn⟩ := hk
        have hj : joinE a e = (c, 0) := joinE_iff.2 ⟨hl.all a ((getE_iff hl.rise).1 ha).1, he, hkn⟩
        refine ⟨?_, ?_⟩
        · unfold putE
          simp only [ha, hj]
          simp
        · intro a' ha'
          obtain rfl := Option.some.inj ha'
          exact ⟨c, hc, by rw [hj], hkn⟩
    rw [allE, if_neg (by simpa using hn.1)]
    refine ih (putE_good hl he hn.1) (List.pairwise_cons.1 hb).2 (fun y hy => hbb y (by simp [hy])) fun k => ?_
    rw [getE_put hl he hn.1]
    by_cases hke : k = e.k
    · subst hke
      rw [if_pos rfl, getE_tail hb]
      have hk := h e.k
      rw [getE_cons_same] at hk
      cases ha : getE l e.k with
      | none => rw [ha] at hk; simp only [KnownAt] at hk ⊢; exact hk
      | some a =>
        obtain ⟨c, hc, hj, _⟩ := hn.2 a ha
        simp only [KnownAt]
        rw [hc, hj]
    · rw [if_neg hke]
      have hk := h k
      rw [getE_cons_other hke] at hk
      exact hk

theorem both_good {a b x : List En} (h : cacheBoth a b = (x, 0)) : GoodL a ∧ GoodL b ∧ GoodL x ∧ Merged a b x := by
  unfold cacheBoth at h
  by_cases ha : badL a = 0
  · rw [if_neg (by simpa using ha)] at h
    by_cases hb : badL b = 0
    · rw [if_neg (by simpa using hb)] at h
      have ga := badL_good ha
      have gb := badL_good hb
      have gx := allE_good ga gb.all (by rw [h])
      rw [h] at gx
      exact ⟨ga, gb, gx, allE_merged ga gb.rise gb.all h⟩
    · rw [if_pos hb] at h
      simp only [Prod.mk.injEq] at h
      exact absurd h.2 hb
  · rw [if_pos ha] at h
    simp only [Prod.mk.injEq] at h
    exact absurd h.2 ha
theorem both_of {a b x : List En} (ha : GoodL a) (hb : GoodL b) (hx : GoodL x) (h : Merged a b x) : cacheBoth a b = (x, 0) := by
  rw [cacheBoth, if_neg (by simpa using ha.bad), if_neg (by simpa using hb.bad)]
  exact merged_allE ha hb.rise hb.all hx.rise h
theorem both_turn {a b x : List En} (h : cacheBoth a b = (x, 0)) : cacheBoth b a = (x, 0) := by
  obtain ⟨ga, gb, gx, hm⟩ := both_good h
  exact both_of gb ga gx fun k => (hm k).comm
theorem both_left {a b x : List En} (h : cacheBoth a b = (x, 0)) : cacheBoth x a = (x, 0) := by
  obtain ⟨ga, gb, gx, hm⟩ := both_good h
  exact both_of gx ga gx fun k => (hm k).left
theorem both_right {a b x : List En} (h : cacheBoth a b = (x, 0)) : cacheBoth b x = (x, 0) := by
  obtain ⟨ga, gb, gx, hm⟩ := both_good h
  exact both_of gb gx gx fun k => (hm k).right
theorem bad_span {e : En} (h : e.bad = 0) : e.v ≤ e.a := by
  unfold En.bad bad at h
  split at h
  · omega
  · rename_i h1
    simp [inR] at h1
    omega
end Go.Proofs.YtpcnfoaoajfhlaaGreatDoor
