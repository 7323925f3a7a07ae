/-
  LogKeeps: what a log is behind each step; the stores and the marks of its deeds.
-/
import Derived.Test.YtpcnfoaoajfhlaaDoorLkA
namespace Go.Proofs.YtpcnfoaoajfhlaaDoor
set_option linter.unusedVariables false
set_option linter.unusedSimpArgs false
open Go.RowKit

/-- the document's stores of a log's deeds, one behind the other -/
def preL (l : List Deed) : List (List Deed) := (List.range (l.length + 1)).map (fun i => l.take i)
def markL (l : List Deed) : List Int := (List.range (l.length + 1)).map (fun i => ((lenD l i : Nat) : Int))
theorem preL_len (l : List Deed) : (preL l).length = l.length + 1 := by simp [preL]
theorem markL_len (l : List Deed) : (markL l).length = l.length + 1 := by simp [markL]
theorem preL_at (l : List Deed) (i : Nat) (h : i < (preL l).length) : (preL l)[i] = l.take i := by simp [preL]
theorem markL_at (l : List Deed) (i : Nat) (h : i < (markL l).length) : (markL l)[i] = ((lenD l i : Nat) : Int) := by simp [markL]
theorem preL_snoc (l : List Deed) (d : Deed) : preL (l ++ [d]) = preL l ++ [l ++ [d]] := by
  apply List.ext_getElem
  · simp [preL]
  · intro i h1 h2
    rw [preL_at]
    by_cases hi : i < (preL l).length
    · rw [List.getElem_append_left hi, preL_at, List.take_append_of_le_length (by rw [preL_len] at hi; omega)]
    · have e : i = l.length + 1 := by rw [preL_len] at h1 hi; simp at h1; omega
      have e2 : (l ++ [d]).take (l.length + 1) = l ++ [d] := List.take_of_length_le (by simp)
      rw [List.getElem_append_right (by omega)]
      subst e
      rw [e2]
      simp
theorem markL_snoc (l : List Deed) (d : Deed) : markL (l ++ [d]) = markL l ++ [(((flatD (l ++ [d])).length : Nat) : Int)] := by
  apply List.ext_getElem
  · simp [markL]
  · intro i h1 h2
    rw [markL_at]
    by_cases hi : i < (markL l).length
    · rw [List.getElem_append_left hi, markL_at, lenD_append (by rw [markL_len] at hi; omega)]
    · have e : i = l.length + 1 := by rw [markL_len] at h1 hi; simp at h1; omega
      rw [List.getElem_append_right (by omega), lenD_all (by simp; omega)]
      simp
theorem preL_take (l : List Deed) {m : Nat} (h : m ≤ l.length) : (preL l).take (m + 1) = preL (l.take m) := by
  apply List.ext_getElem
  · rw [List.length_take, preL_len, preL_len, List.length_take]; omega
  · intro i h1 h2
    rw [List.getElem_take, preL_at, preL_at, List.take_take, Nat.min_eq_left]
    rw [preL_len, List.length_take] at h2
    omega
theorem markL_take (l : List Deed) {m : Nat} (h : m ≤ l.length) : (markL l).take (m + 1) = markL (l.take m) := by
  apply List.ext_getElem
  · rw [List.length_take, markL_len, markL_len, List.length_take]; omega
  · intro i h1 h2
    rw [List.getElem_take, markL_at, markL_at, lenD_take]
    rw [markL_len, List.length_take] at h2
    omega
theorem flat_le {l : List Deed} (h : ∀ d ∈ l, d.text.size ≤ 12) : (flatD l).length ≤ 14 * l.length := by
  induction l with
  | nil => exact Nat.le_refl _
  | cons d l ih =>
    have h1 := ih (fun x hx => h x (List.mem_cons_of_mem _ hx))
    have h2 := h d (List.mem_cons_self ..)
    rw [flatD, List.length_append, encD_length, List.length_cons]
    omega
theorem enc_byte {d : Deed} (hk : 0 ≤ d.key ∧ d.key < 8) (ht : d.text.size ≤ 12) : ∀ x ∈ encD d, x < 256 := by
  intro x hx
  rw [encD] at hx
  rcases List.mem_cons.1 hx with rfl | hx
  · have : d.key.toNat < 8 := by omega
    unfold whatN
    cases d.gone <;> simp <;> omega
  · rcases List.mem_cons.1 hx with rfl | hx
    · omega
    · exact txtN_byte _ _ hx
theorem flat_byte {l : List Deed} (hk : ∀ d ∈ l, 0 ≤ d.key ∧ d.key < 8) (ht : ∀ d ∈ l, d.text.size ≤ 12) : ∀ x ∈ flatD l, x < 256 := by
  induction l with
  | nil => intro x hx; cases hx
  | cons d l ih =>
    intro x hx
    rw [flatD] at hx
    rcases List.mem_append.1 hx with hx | hx
    · exact enc_byte (hk d (List.mem_cons_self ..)) (ht d (List.mem_cons_self ..)) x hx
    · exact ih (fun y hy => hk y (List.mem_cons_of_mem _ hy)) (fun y hy => ht y (List.mem_cons_of_mem _ hy)) x hx
/-- a log as the law has it -/
structure LgOk (l : List Deed) (p : List Nat) (sf : Nat) (lf : Int) (st : Bool) (a : Nat) : Prop where
  hp : Part p
  hst : st = false → p = []
  hsf : sf ≤ (flatD l ++ p).length
  hlf : lf ≤ 9223372036854775807
  fit : Fits l
  tx : ∀ d ∈ l, d.text.size ≤ 12
  ky : ∀ d ∈ l, 0 ≤ d.key ∧ d.key < 8
  len : l.length ≤ a
  pb : ∀ x ∈ p, x < 256
  pl : p.length ≤ 14
theorem LgOk.more {l : List Deed} {p : List Nat} {sf : Nat} {lf : Int} {st : Bool} {a b : Nat} (h : LgOk l p sf lf st a) (hb : a ≤ b) : LgOk l p sf lf st b := ⟨h.hp, h.hst, h.hsf, h.hlf, h.fit, h.tx, h.ky, Nat.le_trans h.len hb, h.pb, h.pl⟩
theorem LgOk.flat {l : List Deed} {p : List Nat} {sf : Nat} {lf : Int} {st : Bool} {a : Nat} (h : LgOk l p sf lf st a) (ha : a ≤ 48) : (flatD l).length ≤ 672 := by
  have h1 := flat_le h.tx
  have h2 := h.len
  omega
theorem LgOk.fail {l : List Deed} {p : List Nat} {sf : Nat} {lf : Int} {st : Bool} {a : Nat} (h : LgOk l p sf lf st a) {n : Int} (hn : n ≤ 9223372036854775807) : LgOk l p sf n st a := ⟨h.hp, h.hst, h.hsf, hn, h.fit, h.tx, h.ky, h.len, h.pb, h.pl⟩
theorem lfN_le {lf : Int} (h : lf ≤ 9223372036854775807) : lfN lf ≤ 9223372036854775807 := by rw [lfN]; split <;> omega
theorem ok_new : LgOk [] [] 0 (-1) false 0 := ⟨part_nil, fun _ => rfl, by decide, by decide, fits_nil, (fun d h => by cases h), (fun d h => by cases h), by decide, (fun x h => by cases h), by decide⟩
/-- what a Put or Delete of a log does -/
structure Did (o : Out) (d : Deed) (l : List Deed) (p : List Nat) (sf : Nat) (a : Nat) (n R : Int) (l' : List Deed) (p' : List Nat) (lf' : Int) (st' : Bool) : Prop where
  ok : LgOk l' p' sf lf' st' (a + 1)
  told : R = 6 ∨ (R = o.err ∧ n = o.num)
  good : R = 0 → l' = l ++ [d] ∧ o.done = l' ∧ p = [] ∧ p' = []
  bad : R ≠ 0 → l' = l
theorem LgOk.done {l : List Deed} {sf : Nat} {lf : Int} {a : Nat} (h : LgOk l [] sf lf false a) {d : Deed} (hd : (doO l d).err = 0) (he : (doO l d).done = l ++ [d]) (ht : d.text.size ≤ 12) (hk : 0 ≤ d.key ∧ d.key < 8) : LgOk (l ++ [d]) [] sf (lfN lf) false (a + 1) := by
  refine ⟨part_nil, fun _ => rfl, ?_, lfN_le h.hlf, h.fit.snoc hd he, fun x hx => ?_, fun x hx => ?_, ?_, (fun x h => by cases h), by decide⟩
  · have := h.hsf
    rw [flatD_append]
    simp only [List.length_append, List.length_nil] at this ⊢
    omega
  · rcases List.mem_append.1 hx with hx | hx
    · exact h.tx x hx
    · obtain rfl := List.mem_singleton.1 hx; exact ht
  · rcases List.mem_append.1 hx with hx | hx
    · exact h.ky x hx
    · obtain rfl := List.mem_singleton.1 hx; exact hk
  · have := h.len; simp; omega
theorem LgOk.stop {l : List Deed} {sf : Nat} {lf : Int} {a : Nat} (h : LgOk l [] sf lf false a) (d : Deed) {m : Nat} (hm : m < (encD d).length) (hk : 0 ≤ d.key ∧ d.key < 8) (ht : d.text.size ≤ 12) : LgOk l ((encD d).take m) sf 0 true (a + 1) := by
  refine ⟨⟨d, m, hm, rfl⟩, (fun e => by cases e), ?_, by decide, h.fit, h.tx, h.ky, by have := h.len; omega, fun x hx => enc_byte hk ht x (List.mem_of_mem_take hx), by rw [List.length_take]; rw [encD_length] at hm ⊢; omega⟩
  have := h.hsf
  simp only [List.length_append, List.length_nil] at this ⊢
  omega
theorem putO_num {l : List Deed} {k : Int} {t : ByteArray} (h : (putO l k t).err ≠ 0) : (putO l k t).num = 0 := by
  unfold putO recO at *
  split <;> rename_i h1
  · rfl
  · rw [if_neg h1] at h
    split <;> rename_i h2
    · rfl
    · rw [if_neg h2] at h
      split <;> rename_i h3
      · rfl
      · rw [if_neg h3] at h; exact absurd rfl h
theorem delO_num {l : List Deed} {k : Int} (h : (delO l k).err ≠ 0) : (delO l k).num = 0 := by
  unfold delO recO at *
  split <;> rename_i h1
  · rfl
  · rw [if_neg h1] at h
    split <;> rename_i h2
    · rfl
    · rw [if_neg h2] at h
      split <;> rename_i h3
      · rfl
      · rw [if_neg h3] at h; exact absurd rfl h
theorem putO_bad {l : List Deed} {k : Int} {t : ByteArray} (h : (putO l k t).err ≠ 0) : (putO l k t).done = l := by
  unfold putO recO at *
  split <;> rename_i h1
  · rfl
  · rw [if_neg h1] at h
    split <;> rename_i h2
    · rfl
    · rw [if_neg h2] at h
      split <;> rename_i h3
      · rfl
      · rw [if_neg h3] at h; exact absurd rfl h
theorem delO_bad {l : List Deed} {k : Int} (h : (delO l k).err ≠ 0) : (delO l k).done = l := by
  unfold delO recO at *
  split <;> rename_i h1
  · rfl
  · rw [if_neg h1] at h
    split <;> rename_i h2
    · rfl
    · rw [if_neg h2] at h
      split <;> rename_i h3
      · rfl
      · rw [if_neg h3] at h; exact absurd rfl h
theorem putO_fine {l : List Deed} {k : Int} {t : ByteArray} (h : (putO l k t).err = 0) : (0 ≤ k ∧ k < 8) ∧ t.size ≤ 12 ∧ putO l k t = ⟨l ++ [⟨k, false, t⟩], (l.length : Int) + 1, 0⟩ := by
  unfold putO recO at *
  split at h <;> rename_i h1
  · cases h
  · split at h <;> rename_i h2
    · cases h
    · split at h <;> rename_i h3
      · cases h
      · refine ⟨(stK_iff k).1 (by simpa using h1), by omega, ?_⟩
        rw [if_neg h1, if_neg h2, if_neg h3]
theorem delO_fine {l : List Deed} {k : Int} (h : (delO l k).err = 0) : (0 ≤ k ∧ k < 8) ∧ delO l k = ⟨l ++ [⟨k, true, ByteArray.empty⟩], (l.length : Int) + 1, 0⟩ := by
  unfold delO recO at *
  split at h <;> rename_i h1
  · cases h
  · split at h <;> rename_i h2
    · cases h
    · split at h <;> rename_i h3
      · cases h
      · refine ⟨(stK_iff k).1 (by simpa using h1), ?_⟩
        rw [if_neg h1, if_neg h2, if_neg h3]
theorem out_eta {o : Out} {l : List Deed} (h1 : o.done = l) (h2 : o.num = 0) : o = ⟨l, 0, o.err⟩ := by
  cases o
  dsimp only at h1 h2 ⊢
  rw [h1, h2]
theorem lkPut_c {k : Int} {t : ByteArray} (ht : t.size ≤ maxLen) {S : Nat → Prop} {w : World} {j a : Nat} {l : List Deed} {p : List Nat} {sf : Nat} {lf : Int} {st : Bool} (h : LgAt S w j l p sf lf st) (ok : LgOk l p sf lf st a) (ha : a ≤ 48) :
    Calls Tryd.prog 16 #[.pointer (some ⟨j, 0, none⟩), .int .i64 k, .string t] w fun e w' => ∃ n R l' p' lf' st', e = .returned (.tuple #[.int .i64 n, errV R]) ∧ Did (putO l k t) ⟨k, false, t⟩ l p sf a n R l' p' lf' st' ∧ LgTo S w w' j l' p' sf lf' st' := by
  have hfl := ok.flat ha
  cases st with
  | true =>
    refine (lgPut_stopped h).mono ?_
    rintro e w' ⟨he, hto⟩
    exact ⟨0, 6, l, p, lf, true, he, ⟨ok.more (Nat.le_succ _), .inl rfl, (fun h => by cases h), fun _ => rfl⟩, hto⟩
  | false =>
    obtain rfl := ok.hst rfl
    by_cases he : (putO l k t).err = 0
    · obtain ⟨hk, h12, ho⟩ := putO_fine he
      by_cases hz : lf = 0
      · subst hz
        refine (lgPut_stop ht h (by omega) ok.fit ok.tx ok.ky ho ⟨hk.1, hk.2, h12⟩).mono ?_
        rintro e w' ⟨he', hto⟩
        exact ⟨0, 6, l, _, 0, true, he', ⟨ok.stop _ (by rw [encD_length]; show (t.size + 2) / 2 < t.size + 2; omega) hk h12, .inl rfl, (fun h => by cases h), fun _ => rfl⟩, hto⟩
      · refine (lgPut_c ht h (by omega) ok.hlf (fun _ => hz) ho (fun e => absurd rfl e) (fun _ => ⟨rfl, hk.1, hk.2, h12⟩)).mono ?_
        rw [if_pos rfl]
        rintro e w' ⟨he', hto⟩
        refine ⟨_, 0, _, [], _, false, he', ⟨ok.done (d := ⟨k, false, t⟩) (congrArg Out.err ho) (congrArg Out.done ho) h12 hk, .inr ⟨he.symm, (congrArg Out.num ho).symm⟩, fun _ => ⟨rfl, congrArg Out.done ho, rfl, rfl⟩, fun h => absurd rfl h⟩, hto⟩
    · have h1 := putO_bad he
      have h2 := putO_num he
      refine (lgPut_c ht h (by omega) ok.hlf (fun e => absurd e he) (od := l) (on := 0) (oe := (putO l k t).err) (out_eta h1 h2) (fun _ => ⟨rfl, rfl⟩) (fun e => absurd e he)).mono ?_
      rw [if_neg he]
      rintro e w' ⟨he', hto⟩
      exact ⟨0, _, l, [], lf, false, he', ⟨ok.more (Nat.le_succ _), .inr ⟨rfl, h2.symm⟩, fun h => absurd h he, fun _ => rfl⟩, hto⟩
set_option maxRecDepth 100000 in
set_option maxHeartbeats 8000000 in
theorem lgDel_stop {k : Int} {S : Nat → Prop} {w : World} {j : Nat} {l od : List Deed} {sf : Nat} {on : Int} (h : LgAt S w j l [] sf 0 false) (hl : (flatD l).length ≤ 50000)
    (hfit : Fits l) (hd : ∀ d ∈ l, d.text.size ≤ 12) (hk8 : ∀ d ∈ l, 0 ≤ d.key ∧ d.key < 8) (ho : delO l k = ⟨od, on, 0⟩) (hgo : 0 ≤ k ∧ k < 8) :
    Calls Tryd.prog 26 #[.pointer (some ⟨j, 0, none⟩), .int .i64 k] w fun e w' => e = .returned (.tuple #[.int .i64 0, errV 6]) ∧ LgTo S w w' j l ((encD ⟨k, true, ⟨#[]⟩⟩).take ((0 + 2) / 2)) sf 0 true := by
  have H : Hid _ := change_stop k true ⟨#[]⟩ (by unfold maxLen; decide) h hl hfit hd hk8 (show doO l ⟨k, true, ⟨#[]⟩⟩ = _ from ho) ⟨hgo.1, hgo.2, by decide⟩
  obtain ⟨p', HP⟩ : ∃ p', Hid ((encD ⟨k, true, ⟨#[]⟩⟩).take ((0 + 2) / 2) = p') := ⟨_, rfl⟩
  rw [show ((⟨#[]⟩ : ByteArray).size + 2) / 2 = (0 + 2) / 2 from rfl, errN (by omega), HP.out] at H
  rw [errN (by omega), HP.out]
  clear h hl hfit hd hk8 ho hgo
  go_enter Tryd.func26, Tryd.ntmps26
  go_wp2_with fail
  refine Calls.mono H.out ?_
  rintro e w1 ⟨rfl, ht⟩
  have HT : Hid (LgTo S w w1 j l p' sf 0 true) := ht
  clear ht
  go_wp2_with fail
  go_ret2
  exact ⟨rfl, HT.out⟩
theorem lkDel_c {k : Int} {S : Nat → Prop} {w : World} {j a : Nat} {l : List Deed} {p : List Nat} {sf : Nat} {lf : Int} {st : Bool} (h : LgAt S w j l p sf lf st) (ok : LgOk l p sf lf st a) (ha : a ≤ 48) :
    Calls Tryd.prog 26 #[.pointer (some ⟨j, 0, none⟩), .int .i64 k] w fun e w' => ∃ n R l' p' lf' st', e = .returned (.tuple #[.int .i64 n, errV R]) ∧ Did (delO l k) ⟨k, true, ⟨#[]⟩⟩ l p sf a n R l' p' lf' st' ∧ LgTo S w w' j l' p' sf lf' st' := by
  have hfl := ok.flat ha
  cases st with
  | true =>
    refine (lgDel_stopped h).mono ?_
    rintro e w' ⟨he, hto⟩
    exact ⟨0, 6, l, p, lf, true, he, ⟨ok.more (Nat.le_succ _), .inl rfl, (fun h => by cases h), fun _ => rfl⟩, hto⟩
  | false =>
    obtain rfl := ok.hst rfl
    by_cases he : (delO l k).err = 0
    · obtain ⟨hk, ho⟩ := delO_fine he
      by_cases hz : lf = 0
      · subst hz
        refine (lgDel_stop h (by omega) ok.fit ok.tx ok.ky ho hk).mono ?_
        rintro e w' ⟨he', hto⟩
        exact ⟨0, 6, l, _, 0, true, he', ⟨ok.stop ⟨k, true, ⟨#[]⟩⟩ (by rw [encD_length]; show (0 + 2) / 2 < 0 + 2; omega) hk (show (0 : Nat) ≤ 12 by omega), .inl rfl, (fun h => by cases h), fun _ => rfl⟩, hto⟩
      · refine (lgDel_c h (by omega) ok.hlf (fun _ => hz) ho (fun e => absurd rfl e) (fun _ => ⟨rfl, hk.1, hk.2⟩)).mono ?_
        rw [if_pos rfl]
        rintro e w' ⟨he', hto⟩
        refine ⟨_, 0, _, [], _, false, he', ⟨ok.done (d := ⟨k, true, ⟨#[]⟩⟩) (congrArg Out.err ho) (congrArg Out.done ho) (show (0 : Nat) ≤ 12 by omega) hk, .inr ⟨he.symm, (congrArg Out.num ho).symm⟩, fun _ => ⟨rfl, congrArg Out.done ho, rfl, rfl⟩, fun h => absurd rfl h⟩, hto⟩
    · have h1 := delO_bad he
      have h2 := delO_num he
      refine (lgDel_c h (by omega) ok.hlf (fun e => absurd e he) (od := l) (on := 0) (oe := (delO l k).err) (out_eta h1 h2) (fun _ => ⟨rfl, rfl⟩) (fun e => absurd e he)).mono ?_
      rw [if_neg he]
      rintro e w' ⟨he', hto⟩
      exact ⟨0, _, l, [], lf, false, he', ⟨ok.more (Nat.le_succ _), .inr ⟨rfl, h2.symm⟩, fun h => absurd h he, fun _ => rfl⟩, hto⟩
/-- a Sync, whatever comes of it -/
theorem lkSync_c {S : Nat → Prop} {w : World} {j a n : Nat} {l : List Deed} {p : List Nat} {sf : Nat} {lf : Int} {st : Bool} (h : LgAt S w j l p sf lf st) (ok : LgOk l p sf lf st a) (hn : (flatD l ++ p).length = n) :
    Calls Tryd.prog 17 #[.pointer (some ⟨j, 0, none⟩)] w fun e w' => ∃ R sf' lf' st', e = .returned (errV R) ∧ (R = 0 → sf' = n) ∧ LgOk l p sf' lf' st' a ∧ LgTo S w w' j l p sf' lf' st' := by
  cases st with
  | true =>
    refine (lgSync_stopped h).mono ?_
    rintro e w' ⟨he, hw⟩
    rw [hw]
    exact ⟨6, sf, lf, true, he, (fun h => by cases h), ok, h.to (Below.refl _ _)⟩
  | false =>
    obtain rfl := ok.hst rfl
    by_cases hz : lf = 0
    · subst hz
      refine (lgSync_stop h).mono ?_
      rintro e w' ⟨he, hto⟩
      exact ⟨6, sf, 0, true, he, (fun h => by cases h), ⟨ok.hp, (fun h => by cases h), ok.hsf, ok.hlf, ok.fit, ok.tx, ok.ky, ok.len, ok.pb, ok.pl⟩, hto⟩
    · refine (lgSync_go h hz ok.hlf hn).mono ?_
      rintro e w' ⟨he, hto⟩
      exact ⟨0, n, _, false, he.trans (by rw [errZ]), fun _ => rfl, ⟨ok.hp, fun _ => rfl, Nat.le_of_eq hn.symm, lfN_le ok.hlf, ok.fit, ok.tx, ok.ky, ok.len, ok.pb, ok.pl⟩, hto⟩
/-- what a crash leaves -/
theorem lk_cut {l : List Deed} {p : List Nat} {sf : Nat} {lf : Int} {st : Bool} {a n : Nat} (ok : LgOk l p sf lf st a) (hn : (flatD l ++ p).length = n) (keep : Int) : ∃ m p', m ≤ l.length ∧ NoRec p' ∧ (∀ x ∈ p', x < 256) ∧ (flatD l ++ p).take (keepN keep sf n) = flatD (l.take m) ++ p' ∧
    (∀ i, i ≤ l.length → (lenD l i ≤ keepN keep sf n ↔ i ≤ m)) ∧ LgOk (l.take m) [] (flatD (l.take m)).length (-1) false a := by
  obtain ⟨m, p', h1, h2, h3, h4, h5⟩ := cut_bytes l ok.hp (keepN keep sf n)
  refine ⟨m, p', h1, h2.no, fun x hx => ?_, h3, fun i hi => ⟨fun h => ?_, fun h => ?_⟩, ?_⟩
  · have hx' : x ∈ (flatD l ++ p).take (keepN keep sf n) := by rw [h3]; exact List.mem_append_right _ hx
    rcases List.mem_append.1 (List.mem_of_mem_take hx') with h | h
    · exact flat_byte ok.ky ok.tx x h
    · exact ok.pb x h
  · exact Nat.le_of_not_lt (fun hlt => by have := h5 i hlt hi; omega)
  · have := lenD_mono h h1; omega
  · refine ⟨part_nil, fun _ => rfl, by simp, by decide, ok.fit.take m, fun d hd => ok.tx d (List.mem_of_mem_take hd), fun d hd => ok.ky d (List.mem_of_mem_take hd), ?_, (fun x h => by cases h), by decide⟩
    have := ok.len
    rw [List.length_take]
    omega
end Go.Proofs.YtpcnfoaoajfhlaaDoor
