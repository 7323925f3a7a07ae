/-
  package store by its contracts, the calls: checkPut, Put, Delete, Swap, At, Read, Seq, New.
-/
import Derived.Test.YtpcnfoaoajfhlaaDoorStCM
namespace Go.Proofs.YtpcnfoaoajfhlaaDoor
set_option linter.unusedVariables false
set_option linter.unusedSimpArgs false
open Go.RowKit

theorem fld0 (x : Int) (y : Bool) (z : ByteArray) (w : World) : (Instr.field 136 (.agg #[.int .i64 x, .bool y, .string z]) 0).run Tryd.prog w = .ok (.int .i64 x) w := by kernel_rfl
theorem fld1 (x : Int) (y : Bool) (z : ByteArray) (w : World) : (Instr.field 136 (.agg #[.int .i64 x, .bool y, .string z]) 1).run Tryd.prog w = .ok (.bool y) w := by kernel_rfl
theorem stKey_b (k : Int) (b : Bool) (w : World) (h : stK k = b) : Calls Tryd.prog 80 #[.int .i64 k] w fun e w' => e = .returned (.bool b) ∧ w' = w := by
  subst h; exact stKey_c k w

theorem record_full (b : Nat) (k : Int) (gone : Bool) (text : ByteArray) (l : List Deed) (F : Nat → Prop) (w : World) (hs : ¬ l.length < 1000) (h : StoreIs w b l F) :
    Calls Tryd.prog 60 #[.pointer (some ⟨b, 0, none⟩), .int .i64 k, .bool gone, .string text] w fun e w' =>
      e = .returned (.tuple #[.int .i64 0, .iface 71 (.int .i64 4)]) ∧ w' = w := by
  have c0 := h.1
  have h4 : (1000 : Int) ≤ (l.length : Int) := by omega
  clear h hs
  go_enter Tryd.func60, Tryd.ntmps60
  go_wp2
  go_ret2
  exact ⟨rfl, rfl⟩

/-- what is wrong with a key and its text -/
def chk (k : Int) (t : ByteArray) : Int := if ¬ stK k = true then 1 else if 12 < t.size then 4 else 0
theorem checkPut_c (k : Int) (t : ByteArray) (w : World) (ht : t.size ≤ maxLen) : Calls Tryd.prog 59 #[.int .i64 k, .string t] w fun e w' => e = .returned (errV (chk k t)) ∧ w' = w := by
  unfold maxLen at ht
  cases hk : stK k
  · have HK : Hid (stK k = false) := hk
    clear hk
    go_enter Tryd.func59, Tryd.ntmps59
    go_wp2_with (go_at_call 80; refine (stKey_b _ false _ HK.out).mono ?_; rintro e w' ⟨rfl, rfl⟩)
    go_ret
    exact ⟨by simp [chk, errV, HK.out], rfl⟩
  · have HK : Hid (stK k = true) := hk
    clear hk
    by_cases h : 12 < t.size
    · have h' : (12 : Int) < (t.size : Int) := by omega
      go_enter Tryd.func59, Tryd.ntmps59
      go_wp2_with (go_at_call 80; refine (stKey_b _ true _ HK.out).mono ?_; rintro e w' ⟨rfl, rfl⟩)
      go_ret
      exact ⟨by simp [chk, errV, HK.out, h], rfl⟩
    · have h' : ¬ (12 : Int) < (t.size : Int) := by omega
      go_enter Tryd.func59, Tryd.ntmps59
      go_wp2_with (go_at_call 80; refine (stKey_b _ true _ HK.out).mono ?_; rintro e w' ⟨rfl, rfl⟩)
      go_ret
      exact ⟨by simp [chk, errV, HK.out, h], rfl⟩

/-- what a call of the store leaves -/
def Left (b : Nat) (F : Nat → Prop) (w : World) (o : Out) (e : Ending) (w' : World) : Prop :=
  e = .returned (.tuple #[.int .i64 o.num, errV o.err]) ∧ ∃ F', StoreIs w' b o.done F' ∧ (∀ c, F' c → F c ∨ w.heap.size ≤ c) ∧ Kept F w w'
theorem Left.same {b : Nat} {F : Nat → Prop} {w w' : World} {l : List Deed} {n : Int} (h : StoreIs w b l F) (hb : Below w.heap.size w w') : Left b F w ⟨l, 0, n⟩ (.returned (.tuple #[.int .i64 0, errV n])) w' :=
  ⟨rfl, F, h.below hb, fun _ hc => .inl hc, Kept.of_below hb⟩
theorem Left.same' {b : Nat} {F : Nat → Prop} {w w' : World} {l : List Deed} {n : Int} {e : Value} {o : Out} (h : StoreIs w b l F) (hb : Below w.heap.size w w') (he : e = errV n) (ho : o = ⟨l, 0, n⟩) : Left b F w o (.returned (.tuple #[.int .i64 0, e])) w' := by
  subst he; subst ho; exact Left.same h hb
theorem Left.step {b : Nat} {F : Nat → Prop} {w w1 w' : World} {o : Out} {e : Ending} (hb : Below w.heap.size w w1) (h : Left b F w1 o e w') : Left b F w o e w' := by
  obtain ⟨he, F', hs, hf, hk⟩ := h
  refine ⟨he, F', hs, fun c hc => ?_, (Kept.of_below (F := F) hb).trans hk (fun _ _ h => h)⟩
  rcases hf c hc with h | h
  · exact .inl h
  · exact .inr (Nat.le_trans hb.size h)

theorem key_nat {k : Int} (h : stK k = true) : ∃ n : Nat, k = n ∧ n < 8 := by
  rw [stK_iff] at h
  exact ⟨k.toNat, by omega, by omega⟩

theorem record_any (b : Nat) (k : Int) (gone : Bool) (text : ByteArray) (l : List Deed) (F : Nat → Prop) (w : World) (hk : stK k = true) (h : StoreIs w b l F) :
    Calls Tryd.prog 60 #[.pointer (some ⟨b, 0, none⟩), .int .i64 k, .bool gone, .string text] w
      (Left b F w (recO l k gone text)) := by
  unfold recO
  obtain ⟨n, rfl, hn⟩ := key_nat hk
  by_cases hs : l.length < 1000
  · rw [if_neg (by omega)]
    refine (record_ok b n gone text l F w hn hs h).mono ?_
    rintro e w' ⟨rfl, F', h1, h2, h3⟩
    exact ⟨rfl, F', h1, h2, h3⟩
  · rw [if_pos (by omega)]
    refine (record_full b n gone text l F w hs h).mono ?_
    rintro e w' ⟨rfl, rfl⟩
    exact Left.same' h (Below.refl _ _) rfl rfl

theorem changeAt_s (b : Nat) (k : Int) (s : Nat) (l : List Deed) (F : Nat → Prop) (w : World) (hk : stK k = true) (h : StoreIs w b l F) :
    Calls Tryd.prog 90 #[.pointer (some ⟨b, 0, none⟩), .int .i64 k, .int .i64 s] w fun e w' => e = .returned (lastOf (l.take s) k).val ∧ Below w.heap.size w w' := by
  obtain ⟨n, rfl, hn⟩ := key_nat hk
  obtain ⟨c0, f0, hl, Fb, Fl, V, hV, hd⟩ := h
  obtain ⟨a1, a2, a3, a4, a5⟩ := hV n hn
  rw [← pick_pastOf]
  exact changeAt_c b n s (pastOf l n) (V n) w 0 hn a1 a3 (Nat.le_trans (pastOf_length _ _) hl)

theorem stPut_c (b : Nat) (k : Int) (t : ByteArray) (l : List Deed) (F : Nat → Prop) (w : World) (ht : t.size ≤ maxLen) (h : StoreIs w b l F) :
    Calls Tryd.prog 34 #[.pointer (some ⟨b, 0, none⟩), .int .i64 k, .string t] w (Left b F w (putO l k t)) := by
  have HS : Hid (StoreIs w b l F) := h
  clear h
  by_cases hc : chk k t = 0
  · have hk : stK k = true := by
      cases e : stK k
      · simp [chk, e] at hc
      · rfl
    have h12 : ¬ 12 < t.size := by
      intro e
      simp [chk, hk, e] at hc
    have HP : Hid (putO l k t = recO l k false t) := by simp [Hid, putO, hk, h12]
    have HE : Hid (errV (chk k t) = .nilIface) := by simp [Hid, hc, errV]
    have HK : Hid (stK k = true) := hk
    clear hk hc h12
    go_enter Tryd.func34, Tryd.ntmps34
    go_wp2_with (first | (go_at_call 59; refine (checkPut_c _ _ _ ht).mono ?_; rintro e w' ⟨rfl, rfl⟩; rw [HE.out]) | (go_at_call 60; refine (record_any b k false t l F _ HK.out HS.out).mono ?_; rintro e w' ⟨rfl, HF⟩))
    go_ret2
    rw [HP.out]
    exact ⟨rfl, HF⟩
  · have HP : Hid (putO l k t = ⟨l, 0, chk k t⟩) := by
      unfold Hid putO chk
      unfold chk at hc
      split
      · rfl
      · split
        · rfl
        · rename_i h1 h2; simp [h1, h2] at hc
    have HE : Hid (errV (chk k t) = .iface 71 (.int .i64 (chk k t))) := by simp [Hid, hc, errV]
    generalize hg : chk k t = x at *
    go_enter Tryd.func34, Tryd.ntmps34
    go_wp2_with (first | (go_at_call 59; refine (checkPut_c _ _ _ ht).mono ?_; rintro e w' ⟨rfl, rfl⟩; rw [hg, HE.out]))
    go_ret2
    exact Left.same' HS.out (Below.refl _ _) HE.out.symm HP.out

theorem seq_c (b : Nat) (l : List Deed) (F : Nat → Prop) (w : World) (h : StoreIs w b l F) :
    Calls Tryd.prog 52 #[.pointer (some ⟨b, 0, none⟩)] w fun e w' => e = .returned (.int .i64 l.length) ∧ w' = w := by
  have c0 := h.1
  clear h
  go_enter Tryd.func52, Tryd.ntmps52
  go_wp2
  go_ret
  exact ⟨rfl, rfl⟩

theorem delete_c (b : Nat) (k : Int) (l : List Deed) (F : Nat → Prop) (w : World) (h : StoreIs w b l F) :
    Calls Tryd.prog 88 #[.pointer (some ⟨b, 0, none⟩), .int .i64 k] w (Left b F w (delO l k)) := by
  have c0 := h.1
  have HS : Hid (StoreIs w b l F) := h
  clear h
  cases hk : stK k
  · have HK : Hid (stK k = false) := hk
    clear hk
    go_enter Tryd.func88, Tryd.ntmps88
    go_wp2_with (go_at_call 80; refine (stKey_b _ false _ HK.out).mono ?_; rintro e w' ⟨rfl, rfl⟩)
    go_ret2
    exact Left.same' (n := 1) HS.out (Below.refl _ _) rfl (by simp [delO, HK.out])
  · have HK : Hid (stK k = true) := hk
    clear hk
    cases hg : (lastOf l k).gone
    · obtain ⟨ver, text, HL⟩ : ∃ ver text, Hid ((lastOf (l.take l.length) k).val = .agg #[.int .i64 ver, .bool false, .string text]) := ⟨(lastOf l k).ver, (lastOf l k).text, by unfold Hid Chg.val; rw [List.take_length, hg]⟩
      have HD : Hid (delO l k = recO l k true ByteArray.empty) := by simp [Hid, delO, HK.out, hg]
      clear hg
      have ff := fld1
      go_enter Tryd.func88, Tryd.ntmps88
      go_wp2_with (first | (go_at_call 80; refine (stKey_b _ true _ HK.out).mono ?_; rintro e w' ⟨rfl, rfl⟩) | (go_at_call 90; refine (changeAt_s b k l.length l F _ HK.out HS.out).mono ?_; rintro e w1 ⟨rfl, hb⟩; rw [HL.out]) | (go_at_call 60; refine (record_any b k true ByteArray.empty l F _ HK.out (HS.out.below hb)).mono ?_; rintro e w' ⟨rfl, HF⟩))
      go_ret2
      rw [HD.out]
      exact Left.step hb ⟨rfl, HF⟩
    · obtain ⟨ver, text, HL⟩ : ∃ ver text, Hid ((lastOf (l.take l.length) k).val = .agg #[.int .i64 ver, .bool true, .string text]) := ⟨(lastOf l k).ver, (lastOf l k).text, by unfold Hid Chg.val; rw [List.take_length, hg]⟩
      have HD : Hid (delO l k = ⟨l, 0, 5⟩) := by simp [Hid, delO, HK.out, hg]
      clear hg
      have ff := fld1
      go_enter Tryd.func88, Tryd.ntmps88
      go_wp2_with (first | (go_at_call 80; refine (stKey_b _ true _ HK.out).mono ?_; rintro e w' ⟨rfl, rfl⟩) | (go_at_call 90; refine (changeAt_s b k l.length l F _ HK.out HS.out).mono ?_; rintro e w1 ⟨rfl, hb⟩; rw [HL.out]))
      go_ret2
      exact Left.same' (n := 5) HS.out hb rfl HD.out

end Go.Proofs.YtpcnfoaoajfhlaaDoor
