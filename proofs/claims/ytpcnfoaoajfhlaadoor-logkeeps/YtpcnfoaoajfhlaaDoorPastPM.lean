/-
  Plain mathematics of a store's past: what was at a number stays; from its version on it is the same; ahead of it it is older; what is kept is right.
-/
import Derived.Test.YtpcnfoaoajfhlaaDoorRefPM
namespace Go.Proofs.YtpcnfoaoajfhlaaDoor
set_option linter.unusedVariables false
set_option linter.unusedSimpArgs false

theorem lastOf_ver (l : List Deed) (k : Int) : 0 ≤ (lastOf l k).ver ∧ (lastOf l k).ver ≤ l.length := by
  obtain ⟨r, rfl⟩ : ∃ r, l = List.reverse r := ⟨l.reverse, by simp⟩
  induction r with
  | nil => simp [lastOf, lastFrom, none0]
  | cons d r ih =>
    rw [List.reverse_cons, lastOf_snoc]
    simp only [List.length_append, List.length_cons, List.length_nil]
    split
    · simp only []; omega
    · omega
theorem lastOf_take_ver (l : List Deed) (k : Int) (s : Nat) : 0 ≤ (lastOf (l.take s) k).ver ∧ (lastOf (l.take s) k).ver ≤ s := by
  have h := lastOf_ver (l.take s) k
  have : (l.take s).length ≤ s := List.length_take_le _ _
  omega
/-- from its version on, up to its time, each time tells the same -/
theorem lastOf_between (l : List Deed) (k : Int) (s q : Nat) (hs : s ≤ l.length) (h1 : (lastOf (l.take s) k).ver ≤ q) (h2 : q ≤ s) : lastOf (l.take q) k = lastOf (l.take s) k := by
  induction s with
  | zero => obtain rfl : q = 0 := by omega
            rfl
  | succ s ih =>
    have hlt : s < l.length := by omega
    by_cases hq : q = s + 1
    · rw [hq]
    · by_cases hk : l[s].key = k
      · rw [lastOf_take_hit l k s hlt hk] at h1
        simp only [] at h1
        omega
      · rw [lastOf_take_miss l k s hlt hk] at h1 ⊢
        exact ih (by omega) h1 (by omega)
/-- what was at a number is the same whatever is done later -/
theorem lastOf_later (l m : List Deed) (k : Int) (s : Nat) (hs : s ≤ l.length) : lastOf ((l ++ m).take s) k = lastOf (l.take s) k := by
  rw [List.take_append_of_le_length hs]

/-- what is right: texts of at most 12 bytes, of what is gone none -/
def GoodD (d : Deed) : Prop := d.text.size ≤ 12 ∧ (d.gone = true → d.text = ByteArray.empty)
def Good (l : List Deed) : Prop := ∀ d ∈ l, GoodD d
theorem lastFrom_good (k : Int) (l : List Deed) (h : Good l) (n : Nat) (c : Chg) (hc : c.text.size ≤ 12 ∧ (c.gone = true → c.text = ByteArray.empty)) :
    (lastFrom k n l c).text.size ≤ 12 ∧ ((lastFrom k n l c).gone = true → (lastFrom k n l c).text = ByteArray.empty) := by
  induction l generalizing n c with
  | nil => exact hc
  | cons d l ih =>
    simp only [lastFrom]
    refine ih (fun x hx => h x (List.mem_cons_of_mem _ hx)) _ _ ?_
    split
    · exact h d List.mem_cons_self
    · exact hc
theorem lastOf_good (k : Int) (l : List Deed) (h : Good l) : (lastOf l k).text.size ≤ 12 ∧ ((lastOf l k).gone = true → (lastOf l k).text = ByteArray.empty) :=
  lastFrom_good k l h 0 none0 ⟨by decide, fun _ => rfl⟩
theorem good_take (l : List Deed) (h : Good l) (s : Nat) : Good (l.take s) := fun d hd => h d (List.mem_of_mem_take hd)
theorem good_rec (l : List Deed) (k : Int) (g : Bool) (t : ByteArray) (h : Good l) (hd : GoodD ⟨k, g, t⟩) : Good (recO l k g t).done := by
  unfold recO
  split
  · exact h
  · intro d hm
    rcases List.mem_append.1 hm with h1 | h1
    · exact h d h1
    · rw [List.mem_singleton.1 h1]; exact hd
theorem good_put (l : List Deed) (k : Int) (t : ByteArray) (h : Good l) : Good (putO l k t).done := by
  unfold putO
  split
  · exact h
  · split
    · exact h
    · rename_i h12
      exact good_rec l k false t h ⟨by simp only []; omega, fun e => by cases e⟩
theorem good_del (l : List Deed) (k : Int) (h : Good l) : Good (delO l k).done := by
  unfold delO
  split
  · exact h
  · split
    · exact h
    · exact good_rec l k true ByteArray.empty h ⟨show ByteArray.empty.size ≤ 12 by decide, fun _ => rfl⟩
theorem rec_grows (l : List Deed) (k : Int) (g : Bool) (t : ByteArray) : ∃ m, (recO l k g t).done = l ++ m := by
  unfold recO
  split
  · exact ⟨[], by simp⟩
  · exact ⟨_, rfl⟩
theorem put_grows (l : List Deed) (k : Int) (t : ByteArray) : ∃ m, (putO l k t).done = l ++ m := by
  unfold putO
  split
  · exact ⟨[], by simp⟩
  · split
    · exact ⟨[], by simp⟩
    · exact rec_grows l k false t
theorem del_grows (l : List Deed) (k : Int) : ∃ m, (delO l k).done = l ++ m := by
  unfold delO
  split
  · exact ⟨[], by simp⟩
  · split
    · exact ⟨[], by simp⟩
    · exact rec_grows l k true ByteArray.empty
end Go.Proofs.YtpcnfoaoajfhlaaDoor
