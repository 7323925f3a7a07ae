/-
  A view on lists: members, one of each node, rising; what is heard is joined, either way round, and as often as one likes.
-/
import Derived.Test.YtpelbmhhppcmeaeDoorEn2
namespace Go.Proofs.YtpelbmhhppcmeaeDoor
set_option linter.unusedVariables false
set_option linter.unusedSimpArgs false
open Go.RowKit

/-- a member: its node, its life, its state -/
structure Mm where
  n : Int
  f : Int
  s : Int
theorem mm_ext {x y : Mm} (h1 : x.n = y.n) (h2 : x.f = y.f) (h3 : x.s = y.s) : x = y := by
  cases x
  cases y
  cases h1
  cases h2
  cases h3
  rfl
def Mm.ok (m : Mm) : Bool := ((decide (0 ≤ m.n) && decide (m.n ≤ 5)) && (decide (0 ≤ m.f) && decide (m.f ≤ 100))) && (decide (0 ≤ m.s) && decide (m.s ≤ 2))
/-- is a newer than b? -/
def nwB (a b : Mm) : Bool := decide (b.f < a.f) || (decide (a.f = b.f) && decide (b.s < a.s))
theorem nwB_iff (a b : Mm) : nwB a b = true ↔ b.f < a.f ∨ (a.f = b.f ∧ b.s < a.s) := by simp [nwB]
/-- what is wrong with members one by one, behind a node -/
def badVF : Option Int → List Mm → Int
  | _, [] => 0
  | q, m :: l => if m.ok = false then 1 else if (match q with | some k => decide (m.n ≤ k) | none => false) = true then 3 else badVF (some m.n) l
/-- what is wrong with a view -/
def badV (l : List Mm) : Int := if 6 < l.length then 4 else badVF none l
/-- by nodes, rising -/
def RiseM (l : List Mm) : Prop := l.Pairwise (fun x y => x.n < y.n)
/-- the member of a node -/
def getM (l : List Mm) (k : Int) : Option Mm := l.find? (fun x => x.n == k)
/-- one that is newer, or whose node is not there, is there now -/
def addM (m : Mm) : List Mm → List Mm
  | [] => [m]
  | x :: l => if x.n = m.n then (if nwB m x = true then m :: l else x :: l) else if m.n < x.n then m :: x :: l else x :: addM m l
/-- is it there now? -/
def isM (m : Mm) (l : List Mm) : Bool := match getM l m.n with
  | none => true
  | some x => nwB m x
def bothM (a b : List Mm) : List Mm := b.foldl (fun l m => addM m l) a
/-- the newer of two of a node -/
def mxM : Option Mm → Option Mm → Option Mm
  | none, y => y
  | x, none => x
  | some x, some y => if nwB y x = true then some y else some x
theorem getM_none {l : List Mm} {k : Int} (h : ∀ x ∈ l, x.n ≠ k) : getM l k = none := by
  unfold getM
  rw [List.find?_eq_none]
  intro x hx
  simpa using h x hx
theorem getM_cons (x : Mm) (l : List Mm) (k : Int) : getM (x :: l) k = if x.n = k then some x else getM l k := by
  unfold getM
  by_cases h : x.n = k
  · rw [List.find?_cons_of_pos (by simpa using h), if_pos h]
  · rw [List.find?_cons_of_neg (by simpa using h), if_neg h]
theorem getM_mem {l : List Mm} {k : Int} {x : Mm} (h : getM l k = some x) : x ∈ l ∧ x.n = k := by
  unfold getM at h
  exact ⟨List.mem_of_find?_eq_some h, by simpa using List.find?_some h⟩
theorem getM_at {l : List Mm} (hr : RiseM l) {x : Mm} (hx : x ∈ l) : getM l x.n = some x := by
  induction l with
  | nil => cases hx
  | cons y l ih =>
    obtain ⟨h1, h2⟩ := List.pairwise_cons.1 hr
    rw [getM_cons]
    rcases List.mem_cons.1 hx with rfl | hx
    · rw [if_pos rfl]
    · have := h1 x hx
      rw [if_neg (by omega)]
      exact ih h2 hx
theorem getM_low {l : List Mm} {y : Mm} (h : ∀ x ∈ l, y.n < x.n) : getM l y.n = none := getM_none (fun x hx => by have := h x hx; omega)
theorem addM_mem {m x : Mm} : ∀ {l : List Mm}, x ∈ addM m l → x = m ∨ x ∈ l := by
  intro l
  induction l with
  | nil => intro h; rw [addM] at h; exact .inl (List.mem_singleton.1 h)
  | cons y l ih =>
    intro h
    rw [addM] at h
    split at h
    · split at h
      · rcases List.mem_cons.1 h with h | h
        · exact .inl h
        · exact .inr (List.mem_cons_of_mem _ h)
      · exact .inr h
    · split at h
      · rcases List.mem_cons.1 h with h | h
        · exact .inl h
        · exact .inr h
      · rcases List.mem_cons.1 h with rfl | h
        · exact .inr (by simp)
        · rcases ih h with h | h
          · exact .inl h
          · exact .inr (List.mem_cons_of_mem _ h)
theorem addM_rise {m : Mm} : ∀ {l : List Mm}, RiseM l → RiseM (addM m l) := by
  intro l
  induction l with
  | nil => intro _; rw [addM]; exact List.pairwise_singleton _ _
  | cons y l ih =>
    intro hr
    obtain ⟨h1, h2⟩ := List.pairwise_cons.1 hr
    rw [addM]
    split
    · rename_i he
      split
      · exact List.pairwise_cons.2 ⟨fun x hx => by have := h1 x hx; omega, h2⟩
      · exact hr
    · rename_i he
      split
      · rename_i hl
        refine List.pairwise_cons.2 ⟨fun x hx => ?_, hr⟩
        rcases List.mem_cons.1 hx with rfl | hx
        · exact hl
        · have := h1 x hx
          omega
      · rename_i hl
        refine List.pairwise_cons.2 ⟨fun x hx => ?_, ih h2⟩
        rcases addM_mem hx with rfl | hx
        · omega
        · exact h1 x hx
theorem getM_add {m : Mm} {k : Int} : ∀ {l : List Mm}, RiseM l → getM (addM m l) k = if k = m.n then mxM (getM l k) (some m) else getM l k := by
  intro l
  induction l with
  | nil =>
    intro _
    rw [addM, getM_cons]
    by_cases h : k = m.n
    · rw [if_pos h.symm, if_pos h]
      rfl
    · rw [if_neg (fun e => h e.symm), if_neg h]
  | cons y l ih =>
    intro hr
    obtain ⟨h1, h2⟩ := List.pairwise_cons.1 hr
    rw [addM]
    by_cases he : y.n = m.n
    · rw [if_pos he]
      by_cases hn : nwB m y = true
      · rw [if_pos hn, getM_cons, getM_cons]
        by_cases hk : k = m.n
        · rw [if_pos hk.symm, if_pos hk, if_pos (by omega), mxM, if_pos hn]
        · rw [if_neg (fun e => hk e.symm), if_neg hk, if_neg (by omega)]
      · rw [if_neg hn, getM_cons]
        by_cases hk : k = m.n
        · rw [if_pos (by omega), if_pos hk, mxM, if_neg hn]
        · rw [if_neg hk]
    · rw [if_neg he]
      by_cases hl : m.n < y.n
      · rw [if_pos hl, getM_cons]
        by_cases hk : k = m.n
        · rw [if_pos hk.symm, if_pos hk, getM_none (fun x hx => ?_)]
          · rfl
          · rcases List.mem_cons.1 hx with rfl | hx
            · omega
            · have := h1 x hx
              omega
        · rw [if_neg (fun e => hk e.symm), if_neg hk]
      · rw [if_neg hl, getM_cons, getM_cons, ih h2]
        by_cases hy : y.n = k
        · rw [if_pos hy, if_pos hy, if_neg (by omega)]
        · rw [if_neg hy, if_neg hy]
theorem addM_self {m : Mm} {l : List Mm} (hr : RiseM l) (h : isM m l = false) : addM m l = l := by
  induction l with
  | nil => cases h
  | cons y l ih =>
    obtain ⟨h1, h2⟩ := List.pairwise_cons.1 hr
    unfold isM at h
    rw [getM_cons] at h
    rw [addM]
    by_cases he : y.n = m.n
    · rw [if_pos he] at h ⊢
      have h' : nwB m y = false := h
      rw [if_neg (by rw [h']; simp)]
    · rw [if_neg he] at h ⊢
      by_cases hl : m.n < y.n
      · rw [getM_none (fun x hx => by have := h1 x hx; omega)] at h
        cases h
      · rw [if_neg hl, ih h2 h]
theorem mx_node {x y : Option Mm} {k : Int} (hx : ∀ z, x = some z → z.n = k) (hy : ∀ z, y = some z → z.n = k) : ∀ z, mxM x y = some z → z.n = k := by
  intro z h
  cases x with
  | none => exact hy z (by simpa [mxM] using h)
  | some a =>
    cases y with
    | none => exact hx z (by simpa [mxM] using h)
    | some b =>
      rw [mxM] at h
      split at h
      · exact hy z h
      · exact hx z h
theorem mx_comm {x y : Option Mm} {k : Int} (hx : ∀ z, x = some z → z.n = k) (hy : ∀ z, y = some z → z.n = k) : mxM x y = mxM y x := by
  cases x with
  | none => cases y <;> rfl
  | some a =>
    cases y with
    | none => rfl
    | some b =>
      have e1 := hx a rfl
      have e2 := hy b rfl
      rw [mxM, mxM]
      by_cases h1 : nwB b a = true
      · rw [if_pos h1, if_neg]
        rw [nwB_iff] at h1 ⊢
        omega
      · rw [if_neg h1]
        by_cases h2 : nwB a b = true
        · rw [if_pos h2]
        · rw [if_neg h2]
          rw [nwB_iff] at h1 h2
          rw [mm_ext (x := a) (y := b) (by omega) (by omega) (by omega)]
theorem mx_assoc (x y z : Option Mm) : mxM (mxM x y) z = mxM x (mxM y z) := by
  cases x with
  | none => cases y <;> cases z <;> rfl
  | some a =>
    cases y with
    | none => cases z <;> rfl
    | some b =>
      cases z with
      | none =>
        have : mxM (some b) none = some b := rfl
        rw [this]
        cases hm : mxM (some a) (some b) <;> rfl
      | some c =>
        have i1 := nwB_iff b a
        have i2 := nwB_iff c b
        have i3 := nwB_iff c a
        cases h1 : nwB b a <;> cases h2 : nwB c b <;> cases h3 : nwB c a <;> first | (simp [mxM, h1, h2, h3]; done) | (exfalso; rw [h1] at i1; rw [h2] at i2; rw [h3] at i3; simp only [Bool.false_eq_true, false_iff, true_iff] at i1 i2 i3; omega)
theorem mx_self (x : Option Mm) : mxM x x = x := by
  cases x with
  | none => rfl
  | some a =>
    rw [mxM, if_neg]
    rw [nwB_iff]
    omega
theorem both_rise : ∀ {b a : List Mm}, RiseM a → RiseM (bothM a b) := by
  intro b
  induction b with
  | nil => intro a h; exact h
  | cons m b ih => intro a h; exact ih (addM_rise h)
theorem get_both {k : Int} : ∀ {b a : List Mm}, RiseM a → RiseM b → getM (bothM a b) k = mxM (getM a k) (getM b k) := by
  intro b
  induction b with
  | nil =>
    intro a _ _
    show getM a k = mxM (getM a k) none
    cases getM a k <;> rfl
  | cons m b ih =>
    intro a ha hb
    obtain ⟨h1, h2⟩ := List.pairwise_cons.1 hb
    show getM (bothM (addM m a) b) k = _
    rw [ih (addM_rise ha) h2, getM_add ha, getM_cons]
    by_cases hk : k = m.n
    · rw [if_pos hk, if_pos hk.symm]
      have e : getM b k = none := by rw [hk]; exact getM_low h1
      rw [e]
      cases mxM (getM a k) (some m) <;> rfl
    · rw [if_neg hk, if_neg (fun e => hk e.symm)]
/-- rising rows that have the same of each node are the same -/
theorem view_ext : ∀ {x y : List Mm}, RiseM x → RiseM y → (∀ k, getM x k = getM y k) → x = y := by
  intro x
  induction x with
  | nil =>
    intro y _ hy h
    cases y with
    | nil => rfl
    | cons v y =>
      have := h v.n
      rw [getM_cons, if_pos rfl] at this
      cases this
  | cons u x ih =>
    intro y hx hy h
    cases y with
    | nil =>
      have := h u.n
      rw [getM_cons, if_pos rfl] at this
      cases this
    | cons v y =>
      obtain ⟨hu, hx'⟩ := List.pairwise_cons.1 hx
      obtain ⟨hv, hy'⟩ := List.pairwise_cons.1 hy
      have a1 := h u.n
      have a2 := h v.n
      rw [getM_cons, if_pos rfl, getM_cons] at a1
      rw [getM_cons, getM_cons, if_pos rfl] at a2
      have e : u = v := by
        by_cases e1 : v.n = u.n
        · rw [if_pos e1] at a1
          exact Option.some.inj a1
        · rw [if_neg e1] at a1
          rw [if_neg (fun e => e1 e.symm)] at a2
          have m1 := getM_mem a1.symm
          have m2 := getM_mem a2
          have := hv u m1.1
          have := hu v m2.1
          omega
      subst e
      rw [ih hx' hy' (fun k => ?_)]
      have := h k
      rw [getM_cons, getM_cons] at this
      by_cases hk : u.n = k
      · subst hk
        rw [getM_low hu, getM_low hv]
      · rw [if_neg hk, if_neg hk] at this
        exact this
theorem get_node (l : List Mm) (k : Int) : ∀ z, getM l k = some z → z.n = k := fun z h => (getM_mem h).2
/-- either way round -/
theorem both_turn {a b : List Mm} (ha : RiseM a) (hb : RiseM b) : bothM a b = bothM b a :=
  view_ext (both_rise ha) (both_rise hb) (fun k => by rw [get_both ha hb, get_both hb ha]; exact mx_comm (get_node a k) (get_node b k))
/-- with one of both again the same -/
theorem both_again {a b : List Mm} (ha : RiseM a) (hb : RiseM b) : bothM (bothM a b) a = bothM a b :=
  view_ext (both_rise (both_rise ha)) (both_rise ha) (fun k => by
    rw [get_both (both_rise ha) ha, get_both ha hb, mx_comm (mx_node (get_node a k) (get_node b k)) (get_node a k), ← mx_assoc, mx_self])
/-- three in any order -/
theorem both_three {a b c : List Mm} (ha : RiseM a) (hb : RiseM b) (hc : RiseM c) : bothM (bothM a b) c = bothM a (bothM b c) :=
  view_ext (both_rise (both_rise ha)) (both_rise ha) (fun k => by
    rw [get_both (both_rise ha) hc, get_both ha hb, get_both ha (both_rise hb), get_both hb hc, mx_assoc])
/-- a right view -/
def GoodV (l : List Mm) : Prop := RiseM l ∧ ∀ x ∈ l, x.ok = true
theorem Mm.ok_iff (m : Mm) : m.ok = true ↔ (0 ≤ m.n ∧ m.n ≤ 5) ∧ (0 ≤ m.f ∧ m.f ≤ 100) ∧ (0 ≤ m.s ∧ m.s ≤ 2) := by
  simp [Mm.ok, and_assoc]
/-- is a node behind the one ahead? -/
def aftB : Option Int → Int → Bool
  | some k, n => decide (n ≤ k)
  | none, _ => false
theorem badVF_cons (q : Option Int) (m : Mm) (l : List Mm) : badVF q (m :: l) = if m.ok = false then 1 else if aftB q m.n = true then 3 else badVF (some m.n) l := by
  cases q <;> rfl
theorem badVF_good : ∀ {l : List Mm} {q : Option Int}, badVF q l = 0 → GoodV l ∧ ∀ k, q = some k → ∀ x ∈ l, k < x.n := by
  intro l
  induction l with
  | nil => intro q _; exact ⟨⟨List.Pairwise.nil, fun x hx => by cases hx⟩, fun k _ x hx => by cases hx⟩
  | cons m l ih =>
    intro q h
    rw [badVF_cons] at h
    split at h
    · cases h
    · rename_i h1
      split at h
      · cases h
      · rename_i h2
        obtain ⟨⟨a1, a2⟩, a3⟩ := ih h
        refine ⟨⟨List.pairwise_cons.2 ⟨fun x hx => a3 m.n rfl x hx, a1⟩, fun x hx => ?_⟩, fun k hk x hx => ?_⟩
        · rcases List.mem_cons.1 hx with rfl | hx
          · simpa using h1
          · exact a2 x hx
        · subst hk
          have h3 : k < m.n := by
            have : ¬ m.n ≤ k := by simpa [aftB] using h2
            omega
          rcases List.mem_cons.1 hx with rfl | hx
          · exact h3
          · have := a3 m.n rfl x hx
            omega
theorem good_badVF : ∀ {l : List Mm} {q : Option Int}, GoodV l → (∀ k, q = some k → ∀ x ∈ l, k < x.n) → badVF q l = 0 := by
  intro l
  induction l with
  | nil => intro q _ _; rfl
  | cons m l ih =>
    intro q h hq
    obtain ⟨h1, h2⟩ := List.pairwise_cons.1 h.1
    rw [badVF_cons, if_neg (by rw [h.2 m (by simp)]; simp), if_neg]
    · exact ih ⟨h2, fun x hx => h.2 x (List.mem_cons_of_mem _ hx)⟩ (fun k hk x hx => by cases hk; exact h1 x hx)
    · cases q with
      | none => simp [aftB]
      | some k =>
        have := hq k rfl m (by simp)
        simp [aftB]
        omega
theorem rise_len : ∀ {l : List Mm} {c : Nat}, RiseM l → (∀ x ∈ l, (c : Int) ≤ x.n ∧ x.n ≤ 5) → l.length + c ≤ 6 ∨ l = [] := by
  intro l
  induction l with
  | nil => intro c _ _; exact .inr rfl
  | cons m l ih =>
    intro c hr h
    left
    obtain ⟨h1, h2⟩ := List.pairwise_cons.1 hr
    have hm := h m (by simp)
    have h0 : ∀ x ∈ l, ((c + 1 : Nat) : Int) ≤ x.n ∧ x.n ≤ 5 := fun x hx => by
      have := h1 x hx
      have := h x (List.mem_cons_of_mem _ hx)
      omega
    rcases ih h2 h0 with h3 | rfl
    · rw [List.length_cons]
      omega
    · rw [List.length_singleton]
      omega
theorem good_len {l : List Mm} (h : GoodV l) : l.length ≤ 6 := by
  rcases rise_len (c := 0) h.1 (fun x hx => by have := (Mm.ok_iff x).1 (h.2 x hx); omega) with h | rfl
  · omega
  · simp
theorem badV_good {l : List Mm} (h : badV l = 0) : GoodV l := by
  unfold badV at h
  split at h
  · cases h
  · exact (badVF_good h).1
theorem good_badV {l : List Mm} (h : GoodV l) : badV l = 0 := by
  unfold badV
  have := good_len h
  rw [if_neg (by omega)]
  exact good_badVF h (fun k hk => by cases hk)
theorem add_good {m : Mm} {l : List Mm} (h : GoodV l) (hm : m.ok = true) : GoodV (addM m l) := ⟨addM_rise h.1, fun x hx => by
  rcases addM_mem hx with rfl | hx
  · exact hm
  · exact h.2 x hx⟩
theorem both_good : ∀ {b a : List Mm}, GoodV a → GoodV b → GoodV (bothM a b) := by
  intro b
  induction b with
  | nil => intro a h _; exact h
  | cons m b ih =>
    intro a ha hb
    exact ih (add_good ha (hb.2 m (by simp))) ⟨(List.pairwise_cons.1 hb.1).2, fun x hx => hb.2 x (List.mem_cons_of_mem _ hx)⟩
/-- a member that says that it is alive -/
def upM (y : Mm) : Mm := if y.s = 0 then y else ⟨y.n, y.f + 1, 0⟩
theorem upM_n (y : Mm) : (upM y).n = y.n := by
  unfold upM
  split <;> rfl
theorem upM_s (y : Mm) : (upM y).s = 0 := by
  unfold upM
  split
  · assumption
  · rfl
/-- what is wrong with an answer -/
def badAns (l : List Mm) (node : Int) : Int := if badV l ≠ 0 then badV l else if inR node 0 5 = false then 1 else match getM l node with
  | none => 5
  | some y => if y.s ≠ 0 ∧ y.f = 100 then 4 else 0
def ansM (l : List Mm) (node : Int) : List Mm := l.map (fun y => if y.n = node then upM y else y)
theorem ans_rise {l : List Mm} {node : Int} (h : RiseM l) : RiseM (ansM l node) := by
  unfold ansM RiseM
  rw [List.pairwise_map]
  refine List.Pairwise.imp (fun {x y} hxy => ?_) h
  have e : ∀ z : Mm, (if z.n = node then upM z else z).n = z.n := fun z => by
    split
    · exact upM_n z
    · rfl
  rw [e, e]
  exact hxy
theorem get_ans (node k : Int) : ∀ l : List Mm, getM (ansM l node) k = if k = node then (getM l k).map upM else getM l k := by
  intro l
  induction l with
  | nil =>
    show none = _
    split <;> rfl
  | cons y l ih =>
    have e : ansM (y :: l) node = (if y.n = node then upM y else y) :: ansM l node := rfl
    rw [e, getM_cons, getM_cons, ih]
    by_cases hy : y.n = node
    · rw [if_pos hy, upM_n]
      by_cases hk : y.n = k
      · rw [if_pos hk, if_pos hk, if_pos (by omega)]
        rfl
      · rw [if_neg hk, if_neg hk]
    · rw [if_neg hy]
      by_cases hk : y.n = k
      · rw [if_pos hk, if_pos hk, if_neg (by omega)]
      · rw [if_neg hk, if_neg hk]
/-- who answers is heard by all who know no more -/
theorem both_ans {l a : List Mm} {node : Int} (hl : RiseM l) (ha : RiseM a) (h : bothM l a = a) : bothM l (ansM a node) = ansM a node := by
  refine view_ext (both_rise hl) (ans_rise ha) (fun k => ?_)
  have hk : mxM (getM l k) (getM a k) = getM a k := by rw [← get_both hl ha, h]
  rw [get_both hl (ans_rise ha), get_ans]
  by_cases e : k = node
  · rw [if_pos e]
    cases hx : getM l k with
    | none => rfl
    | some x =>
      rw [hx] at hk
      cases hy : getM a k with
      | none =>
        rw [hy] at hk
        cases hk
      | some y =>
        rw [hy] at hk
        show mxM (some x) (some (upM y)) = some (upM y)
        unfold upM
        by_cases hs : y.s = 0
        · rw [if_pos hs]
          exact hk
        · rw [if_neg hs, mxM, if_pos]
          rw [mxM] at hk
          by_cases hn : nwB y x = true
          · rw [nwB_iff] at hn ⊢
            dsimp only
            omega
          · rw [if_neg hn] at hk
            have := Option.some.inj hk
            subst this
            rw [nwB_iff]
            dsimp only
            omega
  · rw [if_neg e]
    exact hk
theorem both_more {a b : List Mm} (ha : RiseM a) (hb : RiseM b) : bothM a (bothM a b) = bothM a b :=
  view_ext (both_rise ha) (both_rise ha) (fun k => by rw [get_both ha (both_rise ha), get_both ha hb, ← mx_assoc, mx_self])
end Go.Proofs.YtpelbmhhppcmeaeDoor
