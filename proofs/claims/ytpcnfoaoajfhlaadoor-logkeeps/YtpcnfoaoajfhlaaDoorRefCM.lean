/-
  The document's store (mereref1.Store) by its contracts: Put, Delete, Swap, whatever comes.
-/
import Derived.Test.YtpcnfoaoajfhlaaDoorRefBM
namespace Go.Proofs.YtpcnfoaoajfhlaaDoor
set_option linter.unusedVariables false
set_option linter.unusedSimpArgs false
open Go.RowKit

theorem RefIs.slice {w : World} {b : Nat} {l : List Deed} {G : Nat → Prop} (h : RefIs w b l G) : ∃ a cap, w.cell? ⟨b, 0, none⟩ = some (.slice a l.length cap) ∧ l.length ≤ 1000 := by
  obtain ⟨v, c0, f0, ho, hn, hg, Gb, Gl, hl⟩ := h
  rcases ho.2 with ⟨rfl, h0⟩ | ⟨g, cap, cur, rfl, _⟩
  · exact ⟨none, 0, by rw [h0]; exact c0, hl⟩
  · exact ⟨_, _, c0, hl⟩

set_option maxHeartbeats 1000000 in
theorem refPut_c (b : Nat) (k : Int) (t : ByteArray) (l : List Deed) (G : Nat → Prop) (w : World) (hm : t.size ≤ maxLen) (h : RefIs w b l G) :
    Calls Tryd.prog 27 #[.pointer (some ⟨b, 0, none⟩), .int .i64 k, .string t] w (LeftR b G w (putO l k t)) := by
  unfold maxLen at hm
  cases hk : stK k
  · have HK : Hid (stK k = false) := hk
    have HS : Hid (RefIs w b l G) := h
    have HP : Hid (putO l k t = ⟨l, 0, 1⟩) := by simp [Hid, putO, hk]
    clear hk h
    go_enter Tryd.func27, Tryd.ntmps27
    go_wp2_with (go_at_call 53; refine (refKey_b _ false _ HK.out).mono ?_; rintro e w' ⟨rfl, rfl⟩)
    go_ret2
    exact LeftR.same HS.out (Below.refl _ _) HP.out
  · by_cases ht : 12 < t.size
    · have HK : Hid (stK k = true) := hk
      have HS : Hid (RefIs w b l G) := h
      have HP : Hid (putO l k t = ⟨l, 0, 4⟩) := by simp [Hid, putO, hk, ht]
      have h12 : decide ((12 : Int) < (t.size : Int)) = true := by simp; omega
      clear hk h
      go_enter Tryd.func27, Tryd.ntmps27
      go_wp2_with (go_at_call 53; refine (refKey_b _ true _ HK.out).mono ?_; rintro e w' ⟨rfl, rfl⟩)
      go_ret2
      exact LeftR.same HS.out (Below.refl _ _) HP.out
    · by_cases hl : l.length < 1000
      · have e : putO l k t = ⟨l ++ [⟨k, false, t⟩], (l.length : Int) + 1, 0⟩ := by simp [putO, hk, ht, recO, hl]
        rw [e]
        exact refPut_ok b k t l G w hk ht hl h
      · have HK : Hid (stK k = true) := hk
        have HS : Hid (RefIs w b l G) := h
        have HP : Hid (putO l k t = ⟨l, 0, 4⟩) := by simp [Hid, putO, hk, ht, recO, hl]
        have h12 : decide ((12 : Int) < (t.size : Int)) = false := by simp; omega
        have h1000 : (1000 : Int) ≤ (l.length : Int) := by omega
        obtain ⟨a, cap, c0, hl1⟩ := h.slice
        clear hk h
        go_enter Tryd.func27, Tryd.ntmps27
        go_wp2_with (go_at_call 53; refine (refKey_b _ true _ HK.out).mono ?_; rintro e w' ⟨rfl, rfl⟩)
        go_ret2
        exact LeftR.same HS.out (Below.refl _ _) HP.out

set_option maxHeartbeats 1000000 in
theorem refDelete_c (b : Nat) (k : Int) (l : List Deed) (G : Nat → Prop) (w : World) (h : RefIs w b l G) :
    Calls Tryd.prog 25 #[.pointer (some ⟨b, 0, none⟩), .int .i64 k] w (LeftR b G w (delO l k)) := by
  obtain ⟨i0, hi0, hz0, hz1, hz2⟩ := info_parts infoEnt
  have HS : Hid (RefIs w b l G) := h
  cases hk : stK k
  · have HK : Hid (stK k = false) := hk
    have HP : Hid (delO l k = ⟨l, 0, 1⟩) := by simp [Hid, delO, hk]
    clear hk h
    go_enter Tryd.func25, Tryd.ntmps25
    go_wp2_with (go_at_call 53; refine (refKey_b _ false _ HK.out).mono ?_; rintro e w' ⟨rfl, rfl⟩)
    go_ret2
    exact LeftR.same HS.out (Below.refl _ _) HP.out
  · have HK : Hid (stK k = true) := hk
    clear hk
    obtain ⟨x0, x1, x2, x4, HR⟩ : ∃ x0 x1 x2 x4, Hid ((entAt l k l.length).val = .agg #[.int .i64 x0, .int .i64 x1, .int .i64 x2, .bool (lastOf l k).gone, .string x4]) := ⟨k, (lastOf l k).ver, l.length, (lastOf l k).text, by unfold Hid entAt Ent.val; rw [List.take_length]⟩
    cases hgo : (lastOf l k).gone
    · rw [hgo] at HR
      have hl : l.length ≤ 1000 := h.slice.elim fun _ h => h.elim fun _ h => h.2
      by_cases hlt : l.length < 1000
      · have HP : Hid (delO l k = ⟨l ++ [⟨k, true, ByteArray.empty⟩], (l.length : Int) + 1, 0⟩) := by simp [Hid, delO, HK.out, hgo, recO, hlt]
        clear h hgo
        have h1 : decide ((1000 : Int) ≤ (l.length : Int)) = false := by simp; omega
        go_enter Tryd.func25, Tryd.ntmps25
        go_wp2_with (go_at_call 53; refine (refKey_b _ true _ HK.out).mono ?_; rintro e w' ⟨rfl, rfl⟩)
        refine (refRead_c b k l G _ HS.out).mono ?_
        rintro e w1 ⟨rfl, hb⟩
        rw [HR.out]
        have HB : Hid (Below w.heap.size w (w1.alloc (.cells #[.int .i64 x0, .int .i64 x1, .int .i64 x2, .bool false, .string x4] 38))) := hb.alloc hb.size _
        have HS2 : Hid (RefIs (w1.alloc (.cells #[.int .i64 x0, .int .i64 x1, .int .i64 x2, .bool false, .string x4] 38)) b l G) := HS.out.below HB.out
        clear hb
        obtain ⟨v, c02, f02, ho, hn, hg, Gb, Gl, hl2⟩ := HS2.out
        have lb2 := Gl b Gb
        have lb3 : b < w1.heap.size + 1 := by simpa using lb2
        obtain ⟨a, cap0, hv⟩ : ∃ a cap, v = .slice a l.length cap := by
          rcases ho.2 with ⟨rfl, h0⟩ | ⟨g, cap, cur, rfl, _⟩
          · exact ⟨none, 0, by rw [h0]⟩
          · exact ⟨_, _, rfl⟩
        subst hv
        have cr : (w1.alloc (.cells #[.int .i64 x0, .int .i64 x1, .int .i64 x2, .bool false, .string x4] 38)).cell? ⟨w1.heap.size, 3, none⟩ = some (.bool false) := by simp
        have HO1 : Hid ((w1.alloc (.cells #[.int .i64 x0, .int .i64 x1, .int .i64 x2, .bool false, .string x4] 38)).ownsRow 0 38 5 (.slice a l.length cap0) l.length (rowE l)) := ho
        have AFT := fun w3 o g cap => ref_after b l G (w1.alloc (.cells #[.int .i64 x0, .int .i64 x1, .int .i64 x2, .bool false, .string x4] 38)) w3 (.slice a l.length cap0) o ⟨k, true, ByteArray.empty⟩ g cap hlt c02 f02 hn hg Gb Gl
        have HA : Hid (∀ w1 o g cap, _) := AFT
        clear AFT ho
        have NB : Hid (((w1.alloc (.cells #[.int .i64 x0, .int .i64 x1, .int .i64 x2, .bool false, .string x4] 38)).alloc (.cells #[.int .i64 k, .int .i64 0, .int .i64 0, .bool true, .string ⟨#[]⟩] 38)).heap[w1.heap.size + 1]? = some (.cells #[.int .i64 k, .int .i64 0, .int .i64 0, .bool true, .string ⟨#[]⟩] 38 (0, 0))) := by
          have := heap_alloc_new (w1.alloc (.cells #[.int .i64 x0, .int .i64 x1, .int .i64 x2, .bool false, .string x4] 38)) (.cells #[.int .i64 k, .int .i64 0, .int .i64 0, .bool true, .string ⟨#[]⟩] 38)
          rw [World.size_alloc] at this
          exact this
        go_wp2_with (at_builtin; refine wpList_append_lies _ (by rfl) _ _ _ (by rfl) 0 38 i0 _ 5 48 Tryd.underlying34 hi0 hz0 hz1 hz2 rfl (by omega) (.slice a l.length cap0) l.length (rowE l) (by rfl) (HO1.out.alloc _) ⟨w1.heap.size + 1, 0, none⟩ 1 1 [.int .i64 k, .int .i64 0, .int .i64 0, .bool true, .string ⟨#[]⟩] (by rfl) (by rfl) (World.news_of_block (cs := #[.int .i64 k, .int .i64 0, .int .i64 0, .bool true, .string ⟨#[]⟩]) (t := 38) (fr := (0, 0)) NB.out) (by simp [Value.oneCell']) (by omega) (by unfold maxLen; omega) (by omega) (by simp) (w1.heap.size + 1 + 1) (by simp) ?_; intro g cap w3 hown1 hgrow hat hlt; have cz : w3.cell? ⟨b, 0, none⟩ = some (.slice a l.length cap0) := (hgrow.cell_far _ (by simp; omega) (Ne.symm hn)).trans ((World.cell?_alloc_lt _ _ ⟨b, 0, none⟩ lb2).trans c02); have fz : w3.frozen? ⟨b, 0, none⟩ = false := (hgrow.frozen_far _ (by simp; omega) (Ne.symm hn)).trans ((World.frozen?_alloc_old _ _ ⟨b, 0, none⟩ (Nat.ne_of_lt lb2)).trans f02))
        go_ret2
        rw [HP.out]
        exact LeftR.step HB.out (HA.out w3 _ g cap hown1 hgrow (by simpa using hat) hlt)
      · have HP : Hid (delO l k = ⟨l, 0, 4⟩) := by simp [Hid, delO, HK.out, hgo, recO, hlt]
        have h1 : (1000 : Int) ≤ (l.length : Int) := by omega
        clear h hgo
        go_enter Tryd.func25, Tryd.ntmps25
        go_wp2_with (go_at_call 53; refine (refKey_b _ true _ HK.out).mono ?_; rintro e w' ⟨rfl, rfl⟩)
        refine (refRead_c b k l G _ HS.out).mono ?_
        rintro e w1 ⟨rfl, hb⟩
        rw [HR.out]
        have HB : Hid (Below w.heap.size w w1) := hb
        obtain ⟨a, cap, c0, hl1⟩ := (HS.out.below hb).slice
        have lb2 := World.block_lt_of_cell? w1 _ c0
        clear hb
        go_wp2_with fail
        go_ret2
        exact LeftR.same HS.out (HB.out.alloc HB.out.size _) HP.out
    · have HP : Hid (delO l k = ⟨l, 0, 5⟩) := by simp [Hid, delO, HK.out, hgo]
      rw [hgo] at HR
      clear hgo h
      go_enter Tryd.func25, Tryd.ntmps25
      go_wp2_with (go_at_call 53; refine (refKey_b _ true _ HK.out).mono ?_; rintro e w' ⟨rfl, rfl⟩)
      refine (refRead_c b k l G _ HS.out).mono ?_
      rintro e w1 ⟨rfl, hb⟩
      rw [HR.out]
      have HB : Hid (Below w.heap.size w w1) := hb
      clear hb
      go_wp2_with fail
      go_ret2
      exact LeftR.same HS.out (HB.out.alloc HB.out.size _) HP.out

end Go.Proofs.YtpcnfoaoajfhlaaDoor
