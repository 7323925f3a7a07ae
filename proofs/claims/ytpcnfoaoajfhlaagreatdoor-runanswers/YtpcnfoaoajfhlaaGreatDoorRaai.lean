/-
  package store by its contracts, the calls: checkPut, Put, Delete, Swap, At, Read, Seq, New.
  package store by its contracts, what is asked: At, Read, New.
  package store by its contracts, what is asked: At outside its range, Read, New.
-/
import Derived.Test.YtpcnfoaoajfhlaaGreatDoorRaah
namespace Go.Proofs.YtpcnfoaoajfhlaaGreatDoor
set_option linter.unusedVariables false
set_option linter.unusedSimpArgs false
set_option linter.unusedVariables false
set_option linter.unusedSimpArgs false
open Go.RowKit

theorem fld0 (x : Int) (y : Bool) (z : ByteArray) (w : World) : (Instr.field 160 (.agg #[.int .i64 x, .bool y, .string z]) 0).run Tryz.prog w = .ok (.int .i64 x) w := by kernel_rfl
theorem fld1 (x : Int) (y : Bool) (z : ByteArray) (w : World) : (Instr.field 160 (.agg #[.int .i64 x, .bool y, .string z]) 1).run Tryz.prog w = .ok (.bool y) w := by kernel_rfl
theorem stKey_b (k : Int) (b : Bool) (w : World) (h : stK k = b) : Calls Tryz.prog 95 #[.int .i64 k] w fun e w' => e = .returned (.bool b) ∧ w' = w := by
  subst h; exact stKey_c k w

theorem record_full (b : Nat) (k : Int) (gone : Bool) (text : ByteArray) (l : List Deed) (F : Nat → Prop) (w : World) (hs : ¬ l.length < 1000) (h : StoreIs w b l F) :
    Calls Tryz.prog 94 #[.pointer (some ⟨b, 0, none⟩), .int .i64 k, .bool gone, .string text] w fun e w' =>
      e = .returned (.tuple #[.int .i64 0, .iface 85 (.int .i64 4)]) ∧ w' = w := by
  have c0 := h.1
  have h4 : (1000 : Int) ≤ (l.length : Int) := by omega
  clear h hs
  go_enter Tryz.func94, Tryz.ntmps94
  go_wp2
  go_ret2
  exact ⟨rfl, rfl⟩

/-- what is wrong with a key and its text -/
def chk (k : Int) (t : ByteArray) : Int := if ¬ stK k = true then 1 else if 12 < t.size then 4 else 0
theorem checkPut_c (k : Int) (t : ByteArray) (w : World) (ht : t.size ≤ maxLen) : Calls Tryz.prog 93 #[.int .i64 k, .string t] w fun e w' => e = .returned (errV (chk k t)) ∧ w' = w := by
  unfold maxLen at ht
  cases hk : stK k
  · have HK : Hid (stK k = false) := hk
    clear hk
    go_enter Tryz.func93, Tryz.ntmps93
    go_wp2_with (go_at_call 95; refine (stKey_b _ false _ HK.out).mono ?_; rintro e w' ⟨rfl, rfl⟩)
    go_ret
    exact ⟨by simp [chk, errV, HK.out], rfl⟩
  · have HK : Hid (stK k = true) := hk
    clear hk
    by_cases h : 12 < t.size
    · have h' : (12 : Int) < (t.size : Int) := by omega
      go_enter Tryz.func93, Tryz.ntmps93
      go_wp2_with (go_at_call 95; refine (stKey_b _ true _ HK.out).mono ?_; rintro e w' ⟨rfl, rfl⟩)
      go_ret
      exact ⟨by simp [chk, errV, HK.out, h], rfl⟩
    · have h' : ¬ (12 : Int) < (t.size : Int) := by omega
      go_enter Tryz.func93, Tryz.ntmps93
      go_wp2_with (go_at_call 95; refine (stKey_b _ true _ HK.out).mono ?_; rintro e w' ⟨rfl, rfl⟩)
      go_ret
      exact ⟨by simp [chk, errV, HK.out, h], rfl⟩

/-- what a call of the store leaves -/
def Left (b : Nat) (F : Nat → Prop) (w : World) (o : Out) (e : Ending) (w' : World) : Prop :=
  e = .returned (.tuple #[.int .i64 o.num, errV o.err]) ∧ ∃ F', StoreIs w' b o.done F' ∧ (∀ c, F' c → F c ∨ w.heap.size ≤ c) ∧ Kept F w w'
theorem Left.same {b : Nat} {F : Nat → Prop} {w w' : World} {l : List Deed} {n : Int} (h : StoreIs w b l F) (hb : Below w.heap.size w w') : Left b F w ⟨l, 0, n⟩ (.returned (.tuple #[.int .i64 0, errV n])) w' :=
  ⟨rfl, F, h.below hb, fun _ hc => .inl hc, Kept.of_below hb⟩
theorem Left.same' {b : Nat} {F : Nat → Prop} {w w' : World} {l : List Deed} {n : Int} {e : Value} {o : Out} (h : StoreIs w b l F) (hb : Below w.heap.size w w') (he : e = errV n) (ho : o = ⟨l, 0, n⟩) : Left b F w o (.returned (.tuple #[.int .i64 0, e])) w' := by
  subst he; subst ho; exact Left.same h hb
theorem Left.step {b : Nat} {F : Nat → Prop} {w w1 w' : World} {o : Out} {e : Ending} (hb : Below w.heap.size w w1) (h : Left b F w1 o e w') : Left b F w o e w' := by
  obtain ⟨he, F', hs, hf, hk⟩ := h
  refine ⟨he, F', hs, fun c hc => ?_, (Kept.of_below (F := F) hb).trans hk (fun _ _ h => h)⟩
  rcases hf c hc with h | h
  · exact .inl h
  · exact .inr (Nat.le_trans hb.size h)

theorem key_nat {k : Int} (h : stK k = true) : ∃ n : Nat, k = n ∧ n < 8 := by
  rw [stK_iff] at h
  exact ⟨k.toNat, by omega, by omega⟩

theorem record_any (b : Nat) (k : Int) (gone : Bool) (text : ByteArray) (l : List Deed) (F : Nat → Prop) (w : World) (hk : stK k = true) (h : StoreIs w b l F) :
    Calls Tryz.prog 94 #[.pointer (some ⟨b, 0, none⟩), .int .i64 k, .bool gone, .string text] w
      (Left b F w (recO l k gone text)) := by
  unfold recO
  obtain ⟨n, rfl, hn⟩ := key_nat hk
  by_cases hs : l.length < 1000
  · rw [if_neg (by omega)]
    refine (record_ok b n gone text l F w hn hs h).mono ?_
    rintro e w' ⟨rfl, F', h1, h2, h3⟩
    exact ⟨rfl, F', h1, h2, h3⟩
  · rw [if_pos (by omega)]
    refine (record_full b n gone text l F w hs h).mono ?_
    rintro e w' ⟨rfl, rfl⟩
    exact Left.same' h (Below.refl _ _) rfl rfl

theorem changeAt_s (b : Nat) (k : Int) (s : Nat) (l : List Deed) (F : Nat → Prop) (w : World) (hk : stK k = true) (h : StoreIs w b l F) :
    Calls Tryz.prog 96 #[.pointer (some ⟨b, 0, none⟩), .int .i64 k, .int .i64 s] w fun e w' => e = .returned (lastOf (l.take s) k).val ∧ Below w.heap.size w w' := by
  obtain ⟨n, rfl, hn⟩ := key_nat hk
  obtain ⟨c0, f0, hl, Fb, Fl, V, hV, hd⟩ := h
  obtain ⟨a1, a2, a3, a4, a5⟩ := hV n hn
  rw [← pick_pastOf]
  exact changeAt_c b n s (pastOf l n) (V n) w 0 hn a1 a3 (Nat.le_trans (pastOf_length _ _) hl)

theorem stPut_c (b : Nat) (k : Int) (t : ByteArray) (l : List Deed) (F : Nat → Prop) (w : World) (ht : t.size ≤ maxLen) (h : StoreIs w b l F) :
    Calls Tryz.prog 44 #[.pointer (some ⟨b, 0, none⟩), .int .i64 k, .string t] w (Left b F w (putO l k t)) := by
  have HS : Hid (StoreIs w b l F) := h
  clear h
  by_cases hc : chk k t = 0
  · have hk : stK k = true := by
      cases e : stK k
      · simp [chk, e] at hc
      · rfl
    have h12 : ¬ 12 < t.size := by
      intro e
      simp [chk, hk, e] at hc
    have HP : Hid (putO l k t = recO l k false t) := by simp [Hid, putO, hk, h12]
    have HE : Hid (errV (chk k t) = .nilIface) := by simp [Hid, hc, errV]
    have HK : Hid (stK k = true) := hk
    clear hk hc h12
    go_enter Tryz.func44, Tryz.ntmps44
    go_wp2_with (first | (go_at_call 93; refine (checkPut_c _ _ _ ht).mono ?_; rintro e w' ⟨rfl, rfl⟩; rw [HE.out]) | (go_at_call 94; refine (record_any b k false t l F _ HK.out HS.out).mono ?_; rintro e w' ⟨rfl, HF⟩))
    go_ret2
    rw [HP.out]
    exact ⟨rfl, HF⟩
  · have HP : Hid (putO l k t = ⟨l, 0, chk k t⟩) := by
      unfold Hid putO chk
      unfold chk at hc
      split
      · rfl
      · split
        · rfl
        · rename_i h1 h2; simp [h1, h2] at hc
    have HE : Hid (errV (chk k t) = .iface 85 (.int .i64 (chk k t))) := by simp [Hid, hc, errV]
    generalize hg : chk k t = x at *
    go_enter Tryz.func44, Tryz.ntmps44
    go_wp2_with (first | (go_at_call 93; refine (checkPut_c _ _ _ ht).mono ?_; rintro e w' ⟨rfl, rfl⟩; rw [hg, HE.out]))
    go_ret2
    exact Left.same' HS.out (Below.refl _ _) HE.out.symm HP.out

theorem seq_c (b : Nat) (l : List Deed) (F : Nat → Prop) (w : World) (h : StoreIs w b l F) :
    Calls Tryz.prog 51 #[.pointer (some ⟨b, 0, none⟩)] w fun e w' => e = .returned (.int .i64 l.length) ∧ w' = w := by
  have c0 := h.1
  clear h
  go_enter Tryz.func51, Tryz.ntmps51
  go_wp2
  go_ret
  exact ⟨rfl, rfl⟩

theorem delete_c (b : Nat) (k : Int) (l : List Deed) (F : Nat → Prop) (w : World) (h : StoreIs w b l F) :
    Calls Tryz.prog 46 #[.pointer (some ⟨b, 0, none⟩), .int .i64 k] w (Left b F w (delO l k)) := by
  have c0 := h.1
  have HS : Hid (StoreIs w b l F) := h
  clear h
  cases hk : stK k
  · have HK : Hid (stK k = false) := hk
    clear hk
    go_enter Tryz.func46, Tryz.ntmps46
    go_wp2_with (go_at_call 95; refine (stKey_b _ false _ HK.out).mono ?_; rintro e w' ⟨rfl, rfl⟩)
    go_ret2
    exact Left.same' (n := 1) HS.out (Below.refl _ _) rfl (by simp [delO, HK.out])
  · have HK : Hid (stK k = true) := hk
    clear hk
    cases hg : (lastOf l k).gone
    · obtain ⟨ver, text, HL⟩ : ∃ ver text, Hid ((lastOf (l.take l.length) k).val = .agg #[.int .i64 ver, .bool false, .string text]) := ⟨(lastOf l k).ver, (lastOf l k).text, by unfold Hid Chg.val; rw [List.take_length, hg]⟩
      have HD : Hid (delO l k = recO l k true ByteArray.empty) := by simp [Hid, delO, HK.out, hg]
      clear hg
      have ff := fld1
      go_enter Tryz.func46, Tryz.ntmps46
      go_wp2_with (first | (go_at_call 95; refine (stKey_b _ true _ HK.out).mono ?_; rintro e w' ⟨rfl, rfl⟩) | (go_at_call 96; refine (changeAt_s b k l.length l F _ HK.out HS.out).mono ?_; rintro e w1 ⟨rfl, hb⟩; rw [HL.out]) | (go_at_call 94; refine (record_any b k true ByteArray.empty l F _ HK.out (HS.out.below hb)).mono ?_; rintro e w' ⟨rfl, HF⟩))
      go_ret2
      rw [HD.out]
      exact Left.step hb ⟨rfl, HF⟩
    · obtain ⟨ver, text, HL⟩ : ∃ ver text, Hid ((lastOf (l.take l.length) k).val = .agg #[.int .i64 ver, .bool true, .string text]) := ⟨(lastOf l k).ver, (lastOf l k).text, by unfold Hid Chg.val; rw [List.take_length, hg]⟩
      have HD : Hid (delO l k = ⟨l, 0, 5⟩) := by simp [Hid, delO, HK.out, hg]
      clear hg
      have ff := fld1
      go_enter Tryz.func46, Tryz.ntmps46
      go_wp2_with (first | (go_at_call 95; refine (stKey_b _ true _ HK.out).mono ?_; rintro e w' ⟨rfl, rfl⟩) | (go_at_call 96; refine (changeAt_s b k l.length l F _ HK.out HS.out).mono ?_; rintro e w1 ⟨rfl, hb⟩; rw [HL.out]))
      go_ret2
      exact Left.same' (n := 5) HS.out hb rfl HD.out

end Go.Proofs.YtpcnfoaoajfhlaaGreatDoor

namespace Go.Proofs.YtpcnfoaoajfhlaaGreatDoor
set_option linter.unusedVariables false
set_option linter.unusedSimpArgs false
open Go.RowKit

theorem bcell {W w1 : World} (hb : Below W.heap.size W w1) : (∀ b o, b < W.heap.size → w1.cell? ⟨b, o, none⟩ = W.cell? ⟨b, o, none⟩) ∧ (∀ b o, b < W.heap.size → w1.frozen? ⟨b, o, none⟩ = W.frozen? ⟨b, o, none⟩) :=
  ⟨fun b o h => hb.cell (p := ⟨b, o, none⟩) h, fun b o h => hb.frozen (p := ⟨b, o, none⟩) h⟩

/-- an api.Entry -/
structure Ent where
  key : Int
  ver : Int
  asof : Int
  gone : Bool
  text : ByteArray
def Ent.val (e : Ent) : Value := .agg #[.int .i64 e.key, .int .i64 e.ver, .int .i64 e.asof, .bool e.gone, .string e.text]
def Ent.zero : Ent := ⟨0, 0, 0, false, ByteArray.empty⟩
def entAt (l : List Deed) (k : Int) (s : Nat) : Ent := ⟨k, (lastOf (l.take s) k).ver, s, (lastOf (l.take s) k).gone, (lastOf (l.take s) k).text⟩

set_option maxHeartbeats 1000000 in
theorem at_yes (b : Nat) (k : Int) (s : Nat) (l : List Deed) (F : Nat → Prop) (w : World) (hk : stK k = true) (hs : s ≤ l.length) (h : StoreIs w b l F) :
    Calls Tryz.prog 116 #[.pointer (some ⟨b, 0, none⟩), .int .i64 k, .int .i64 s] w fun e w' => e = .returned (.tuple #[(entAt l k s).val, .nilIface]) ∧ Below w.heap.size w w' := by
  have c0 := h.1
  have hl := h.2.2.1
  have lb : b < w.heap.size := h.2.2.2.2.1 b h.2.2.2.1
  have HS : Hid (StoreIs w b l F) := h
  clear h
  have HK : Hid (stK k = true) := hk
  clear hk
  have h1 : decide ((s : Int) < 0) = false := by simp
  have h2 : decide ((l.length : Int) < (s : Int)) = false := by simp; omega
  obtain ⟨ver, gone, text, HL, HL2⟩ : ∃ ver gone text, Hid ((lastOf (l.take s) k).val = .agg #[.int .i64 ver, .bool gone, .string text]) ∧ Hid ((entAt l k s).val = .agg #[.int .i64 k, .int .i64 ver, .int .i64 s, .bool gone, .string text]) := ⟨(lastOf (l.take s) k).ver, (lastOf (l.take s) k).gone, (lastOf (l.take s) k).text, rfl, rfl⟩
  go_enter Tryz.func116, Tryz.ntmps116
  go_wp2_with (first | (go_at_call 95; refine (stKey_b _ true _ HK.out).mono ?_; rintro e w' ⟨rfl, rfl⟩))
  refine (changeAt_s b k s l F _ HK.out (HS.out.below ((Below.refl _ _).alloc (Nat.le_refl _) _))).mono ?_
  rintro e w1 ⟨rfl, hb⟩
  rw [HL.out]
  have e0 : w1.cell? ⟨w.heap.size, 0, none⟩ = some (.int .i64 0) := (hb.cell (p := ⟨w.heap.size, 0, none⟩) (by simp)).trans (by simp)
  have e1 : w1.cell? ⟨w.heap.size, 1, none⟩ = some (.int .i64 0) := (hb.cell (p := ⟨w.heap.size, 1, none⟩) (by simp)).trans (by simp)
  have e2 : w1.cell? ⟨w.heap.size, 2, none⟩ = some (.int .i64 0) := (hb.cell (p := ⟨w.heap.size, 2, none⟩) (by simp)).trans (by simp)
  have e3 : w1.cell? ⟨w.heap.size, 3, none⟩ = some (.bool false) := (hb.cell (p := ⟨w.heap.size, 3, none⟩) (by simp)).trans (by simp)
  have e4 : w1.cell? ⟨w.heap.size, 4, none⟩ = some (.string ⟨#[]⟩) := (hb.cell (p := ⟨w.heap.size, 4, none⟩) (by simp)).trans (by simp)
  have ef : ∀ j, w1.frozen? ⟨w.heap.size, j, none⟩ = false := fun j => (hb.frozen (p := ⟨w.heap.size, j, none⟩) (by simp)).trans (by simp)
  have hz : w.heap.size + 1 ≤ w1.heap.size := by have := hb.size; simpa using this
  have hz1 : w.heap.size < w1.heap.size := by omega
  have hz2 : ¬ w.heap.size = w1.heap.size := by omega
  have HB : Hid _ := hb
  clear hb
  go_wp2_with fail
  refine bodyPost_ret (v := .tuple #[.agg #[.int .i64 k, .int .i64 ver, .int .i64 s, .bool gone, .string text], .nilIface]) (by simp [results, Tryz.results116, go_sem, e0, e1, e2, e3, e4, hz1, hz2]) rfl ?_
  refine ⟨by rw [HL2.out], ?_⟩
  have hb := HB.out
  have hbw : Below w.heap.size w w1 := ((Below.refl _ _).alloc (Nat.le_refl _) _).trans (hb.mono (by simp))
  go_grown
end Go.Proofs.YtpcnfoaoajfhlaaGreatDoor

namespace Go.Proofs.YtpcnfoaoajfhlaaGreatDoor
set_option linter.unusedVariables false
set_option linter.unusedSimpArgs false
open Go.RowKit

theorem at_noKey (b : Nat) (k s : Int) (w : World) (hk : stK k = false) :
    Calls Tryz.prog 116 #[.pointer (some ⟨b, 0, none⟩), .int .i64 k, .int .i64 s] w fun e w' => e = .returned (.tuple #[Ent.zero.val, .iface 85 (.int .i64 1)]) ∧ Below w.heap.size w w' := by
  have HK : Hid (stK k = false) := hk
  clear hk
  go_enter Tryz.func116, Tryz.ntmps116
  go_wp2_with (first | (go_at_call 95; refine (stKey_b _ false _ HK.out).mono ?_; rintro e w' ⟨rfl, rfl⟩))
  refine bodyPost_ret (v := .tuple #[Ent.zero.val, .iface 85 (.int .i64 1)]) (by simp [results, Tryz.results116, go_sem, Ent.val, Ent.zero]; rfl) rfl ⟨rfl, ?_⟩
  go_grown

theorem at_noSeq (b : Nat) (k s : Int) (l : List Deed) (F : Nat → Prop) (w : World) (hk : stK k = true) (hs : s < 0 ∨ l.length < s) (h : StoreIs w b l F) :
    Calls Tryz.prog 116 #[.pointer (some ⟨b, 0, none⟩), .int .i64 k, .int .i64 s] w fun e w' => e = .returned (.tuple #[Ent.zero.val, .iface 85 (.int .i64 1)]) ∧ Below w.heap.size w w' := by
  have HK : Hid (stK k = true) := hk
  clear hk
  have c0 := h.1
  have lb : b < w.heap.size := h.2.2.2.2.1 b h.2.2.2.1
  clear h
  by_cases h0 : s < 0
  · have h1 : decide (s < 0) = true := by simpa using h0
    go_enter Tryz.func116, Tryz.ntmps116
    go_wp2_with (first | (go_at_call 95; refine (stKey_b _ true _ HK.out).mono ?_; rintro e w' ⟨rfl, rfl⟩))
    refine bodyPost_ret (v := .tuple #[Ent.zero.val, .iface 85 (.int .i64 1)]) (by simp [results, Tryz.results116, go_sem, Ent.val, Ent.zero]; rfl) rfl ⟨rfl, ?_⟩
    go_grown
  · have h1 : decide (s < 0) = false := by simpa using h0
    have h2 : (l.length : Int) < s := by omega
    have h3 : decide ((l.length : Int) < s) = true := by simpa using h2
    clear hs
    go_enter Tryz.func116, Tryz.ntmps116
    go_wp2_with (first | (go_at_call 95; refine (stKey_b _ true _ HK.out).mono ?_; rintro e w' ⟨rfl, rfl⟩))
    refine bodyPost_ret (v := .tuple #[Ent.zero.val, .iface 85 (.int .i64 1)]) (by simp [results, Tryz.results116, go_sem, Ent.val, Ent.zero]; rfl) rfl ⟨rfl, ?_⟩
    go_grown

/-- what At tells: an entry, or 1 -/
def atO (l : List Deed) (k s : Int) : Ent × Int := if stK k = true ∧ 0 ≤ s ∧ s ≤ l.length then (entAt l k s.toNat, 0) else (Ent.zero, 1)
theorem at_c (b : Nat) (k s : Int) (l : List Deed) (F : Nat → Prop) (w : World) (h : StoreIs w b l F) :
    Calls Tryz.prog 116 #[.pointer (some ⟨b, 0, none⟩), .int .i64 k, .int .i64 s] w fun e w' => e = .returned (.tuple #[(atO l k s).1.val, errV (atO l k s).2]) ∧ Below w.heap.size w w' := by
  by_cases hk : stK k = true
  · by_cases hs : 0 ≤ s ∧ s ≤ l.length
    · obtain ⟨n, rfl⟩ := Int.eq_ofNat_of_zero_le hs.1
      have e : atO l k n = (entAt l k n, 0) := by simp only [atO, hk, hs, true_and, if_true, and_self, Int.toNat_natCast]
      rw [e]
      exact at_yes b k n l F w hk (by omega) h
    · have e : atO l k s = (Ent.zero, 1) := by simp only [atO, hk, hs, true_and, if_false]
      rw [e]
      exact at_noSeq b k s l F w hk (by omega) h
  · have e : atO l k s = (Ent.zero, 1) := by simp [atO, hk]
    rw [e]
    exact at_noKey b k s w (by simpa using hk)

/-- what Read tells -/
def readO (l : List Deed) (k : Int) : Ent × Int := atO l k l.length
set_option maxHeartbeats 1000000 in
theorem read_c (b : Nat) (k : Int) (l : List Deed) (F : Nat → Prop) (w : World) (h : StoreIs w b l F) :
    Calls Tryz.prog 68 #[.pointer (some ⟨b, 0, none⟩), .int .i64 k] w fun e w' => e = .returned (.tuple #[(readO l k).1.val, errV (readO l k).2]) ∧ Below w.heap.size w w' := by
  have c0 := h.1
  have lb : b < w.heap.size := h.2.2.2.2.1 b h.2.2.2.1
  have HS : Hid (StoreIs w b l F) := h
  clear h
  obtain ⟨x0, x1, x2, x3, x4, HR⟩ : ∃ x0 x1 x2 x3 x4, Hid ((atO l k l.length).1.val = .agg #[.int .i64 x0, .int .i64 x1, .int .i64 x2, .bool x3, .string x4]) := ⟨_, _, _, _, _, rfl⟩
  have HR2 : Hid ((readO l k).1.val = .agg #[.int .i64 x0, .int .i64 x1, .int .i64 x2, .bool x3, .string x4]) := HR
  have HE : Hid (errV (readO l k).2 = errV (atO l k l.length).2) := rfl
  generalize hev : errV (atO l k l.length).2 = ev at *
  have HEV : Hid (errV (atO l k l.length).2 = ev) := hev
  clear hev
  go_enter Tryz.func68, Tryz.ntmps68
  go_wp2_with fail
  refine (at_c b k l.length l F _ (HS.out.below ((Below.refl _ _).alloc (Nat.le_refl _) _))).mono ?_
  rintro e w1 ⟨rfl, hb⟩
  rw [HR.out, HEV.out]
  have e0 : w1.cell? ⟨w.heap.size, 0, none⟩ = some (.int .i64 0) := (hb.cell (p := ⟨w.heap.size, 0, none⟩) (by simp)).trans (by simp)
  have e1 : w1.cell? ⟨w.heap.size, 1, none⟩ = some (.int .i64 0) := (hb.cell (p := ⟨w.heap.size, 1, none⟩) (by simp)).trans (by simp)
  have e2 : w1.cell? ⟨w.heap.size, 2, none⟩ = some (.int .i64 0) := (hb.cell (p := ⟨w.heap.size, 2, none⟩) (by simp)).trans (by simp)
  have e3 : w1.cell? ⟨w.heap.size, 3, none⟩ = some (.bool false) := (hb.cell (p := ⟨w.heap.size, 3, none⟩) (by simp)).trans (by simp)
  have e4 : w1.cell? ⟨w.heap.size, 4, none⟩ = some (.string ⟨#[]⟩) := (hb.cell (p := ⟨w.heap.size, 4, none⟩) (by simp)).trans (by simp)
  have ef : ∀ j, w1.frozen? ⟨w.heap.size, j, none⟩ = false := fun j => (hb.frozen (p := ⟨w.heap.size, j, none⟩) (by simp)).trans (by simp)
  have HBW : Hid (Below w.heap.size w w1) := ((Below.refl _ _).alloc (Nat.le_refl _) _).trans (hb.mono (by simp))
  have hz1 : w.heap.size < w1.heap.size := by have := hb.size; simp at this; omega
  clear hb
  go_wp2_with fail
  refine bodyPost_ret (v := .tuple #[.agg #[.int .i64 x0, .int .i64 x1, .int .i64 x2, .bool x3, .string x4], ev]) (by simp [results, Tryz.results68, go_sem, e0, e1, e2, e3, e4]) rfl ?_
  refine ⟨by rw [HR2.out, HE.out], ?_⟩
  have hbw := HBW.out
  go_grown

theorem new_c (w : World) : Calls Tryz.prog 37 #[] w fun e w' => e = .returned (.pointer (some ⟨w.heap.size, 0, none⟩)) ∧ w' = w.alloc (.cells #[.int .i64 0, .slice none 0 0, .slice none 0 0, .slice none 0 0, .slice none 0 0, .slice none 0 0, .slice none 0 0, .slice none 0 0, .slice none 0 0] 151) := by
  go_enter Tryz.func37, Tryz.ntmps37
  go_wp2
  go_ret
  exact ⟨rfl, rfl⟩
theorem new_is (w : World) : StoreIs (w.alloc (.cells #[.int .i64 0, .slice none 0 0, .slice none 0 0, .slice none 0 0, .slice none 0 0, .slice none 0 0, .slice none 0 0, .slice none 0 0, .slice none 0 0] 151)) w.heap.size [] (fun c => c = w.heap.size) := by
  refine ⟨by simp, by simp, by simp, rfl, fun c hc => by subst hc; simp, fun _ => .slice none 0 0, fun k hk => ⟨?_, by simp, World.ownsRow_nil _ _ _ _, by simp [Value.ownBlock], fun c hc => by simp [Value.ownBlock] at hc⟩, fun i j _ _ _ c hc => by simp [Value.ownBlock] at hc⟩
  match k, hk with
  | 0, _ => simp
  | 1, _ => simp
  | 2, _ => simp
  | 3, _ => simp
  | 4, _ => simp
  | 5, _ => simp
  | 6, _ => simp
  | 7, _ => simp
end Go.Proofs.YtpcnfoaoajfhlaaGreatDoor
