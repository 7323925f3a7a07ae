/-
  The document's store (mereref1.Store) by its contracts: Key, At, Read.
-/
import Derived.Test.YtpcnfoaoajfhlaaDoorStFM
import Derived.Test.YtpcnfoaoajfhlaaDoorRefPM
namespace Go.Proofs.YtpcnfoaoajfhlaaDoor
set_option linter.unusedVariables false
set_option linter.unusedSimpArgs false
open Go.RowKit

theorem refKey_c (k : Int) (w : World) : Calls Tryd.prog 53 #[.int .i64 k] w fun e w' => e = .returned (.bool (stK k)) ∧ w' = w := by
  by_cases h : 0 ≤ k
  · have hd : decide (0 ≤ k) = true := by simpa using h
    go_enter Tryd.func53, Tryd.ntmps53
    go_wp2
    go_ret
    have e : decide (k ≤ 7) = decide (k < 8) := decide_eq_decide.2 ⟨fun h => by omega, fun h => by omega⟩
    exact ⟨by simp [stK, h, e], rfl⟩
  · have hd : decide (0 ≤ k) = false := by simpa using h
    go_enter Tryd.func53, Tryd.ntmps53
    go_wp2
    go_ret
    exact ⟨by simp [stK, h] <;> omega, rfl⟩
theorem refKey_b (k : Int) (b : Bool) (w : World) (h : stK k = b) : Calls Tryd.prog 53 #[.int .i64 k] w fun e w' => e = .returned (.bool b) ∧ w = w' := by
  subst h; exact (refKey_c k w).mono fun _ _ h => ⟨h.1, h.2.symm⟩

/-- the document's store at block b holds what was done; its blocks are in G -/
def RefIs (w : World) (b : Nat) (l : List Deed) (G : Nat → Prop) : Prop :=
  ∃ v, w.cell? ⟨b, 0, none⟩ = some v ∧ w.frozen? ⟨b, 0, none⟩ = false ∧ w.ownsRow 0 38 5 v l.length (rowE l) ∧ v.ownBlock ≠ some b ∧ (∀ c, v.ownBlock = some c → G c) ∧ G b ∧ (∀ c, G c → c < w.heap.size) ∧ l.length ≤ 1000
theorem RefIs.blocks {w w' : World} {b : Nat} {l : List Deed} {G : Nat → Prop} (h : RefIs w b l G) (hs : w.heap.size ≤ w'.heap.size) (hb : ∀ c, G c → w'.heap[c]? = w.heap[c]?) : RefIs w' b l G := by
  obtain ⟨v, c0, f0, ho, hn, hg, Gb, Gl, hl⟩ := h
  have eb := hb b Gb
  exact ⟨v, (World.cell?_of_block (a := ⟨b, 0, none⟩) eb).trans c0, (World.frozen?_of_block (a := ⟨b, 0, none⟩) eb).trans f0, ownsRow_blocks ho (fun g hg' => hb g (hg g hg')), hn, hg, Gb, fun c hc => Nat.lt_of_lt_of_le (Gl c hc) hs, hl⟩
theorem RefIs.lt {w : World} {b : Nat} {l : List Deed} {G : Nat → Prop} (h : RefIs w b l G) : ∀ c, G c → c < w.heap.size := by
  obtain ⟨v, c0, f0, ho, hn, hg, Gb, Gl, hl⟩ := h
  exact Gl
theorem RefIs.below {w w' : World} {b : Nat} {l : List Deed} {G : Nat → Prop} (h : RefIs w b l G) (hb : Below w.heap.size w w') : RefIs w' b l G :=
  h.blocks hb.size (fun c hc => hb.block c (h.lt c hc))
theorem RefIs.kept {w w' : World} {b : Nat} {l : List Deed} {F G : Nat → Prop} (h : RefIs w b l G) (hb : Kept F w w') (hn : ∀ c, G c → ¬ F c) : RefIs w' b l G :=
  h.blocks hb.size (fun c hc => hb.block c (h.lt c hc) (hn c hc))

set_option maxHeartbeats 1000000 in
theorem refAt_c (b : Nat) (k : Int) (s : Nat) (l : List Deed) (G : Nat → Prop) (w : World) (hs : s ≤ l.length) (h : RefIs w b l G) :
    Calls Tryd.prog 76 #[.pointer (some ⟨b, 0, none⟩), .int .i64 k, .int .i64 s] w fun e w' => e = .returned (entAt l k s).val ∧ Below w.heap.size w w' := by
  obtain ⟨v, c0, f0, ho, hn, hg, Gb, Gl, hl⟩ := h
  have lb := Gl b Gb
  clear Gl Gb hg f0
  have HC : Hid (∀ g, v.ownBlock = some g → ∀ j u, (rowE l)[j]? = some u → w.cell? ⟨g, j, none⟩ = some u) := fun g hg j u hu => by
    have := ho.cells (g := g) hg j u hu
    simpa [Addr.add_lit] using this
  have HV : Hid (v = .slice none 0 0 ∧ l.length = 0 ∨ ∃ g cap, v = .slice (some ⟨g, 0, none⟩) l.length cap ∧ g < w.heap.size) := by
    rcases ho.2 with ⟨rfl, h0⟩ | ⟨g, cap, cur, rfl, _, hgg, _⟩
    · exact .inl ⟨rfl, h0⟩
    · exact .inr ⟨g, cap, rfl, (Array.getElem?_eq_some_iff.1 hgg).1⟩
  clear ho hn
  have hs1 : (s : Int) ≤ 1000 := by omega
  go_enter Tryd.func76, Tryd.ntmps76
  go_wp2_with fail
  go_loopw [8] (fun i wr => ∃ j : Nat, j ≤ s ∧ i = .int .i64 j ∧ ∃ ver gone text, Hid (lastOf (l.take j) k = ⟨ver, gone, text⟩) ∧ wr = (w.alloc (.cells #[.int .i64 0, .int .i64 0, .int .i64 0, .bool false, .string ⟨#[]⟩] 38)).alloc (.cells #[.int .i64 k, .int .i64 ver, .int .i64 s, .bool gone, .string text] 38)) (fun i _ => s - (intOf i).toNat)
  case atStart => exact ⟨0, Nat.zero_le _, rfl, 0, true, ByteArray.empty, rfl, rfl⟩
  case round =>
    obtain ⟨j, hj, rfl, ver, gone, text, HL, rfl⟩ := hrel
    by_cases hlt : j < s
    · have hjl : j < l.length := by omega
      rcases HV.out with ⟨rfl, h0⟩ | ⟨g, cap, rfl, hgl⟩
      · omega
      · have hgg := rowE_get l j hjl
        have x0 := HC.out g rfl _ _ hgg.1
        have x3 := HC.out g rfl _ _ hgg.2.1
        have x4 := HC.out g rfl _ _ hgg.2.2
        clear hgg
        by_cases hk : l[j].key = k
        · have hkb : (l[j].key == k) = true := by simp [hk]
          have HN : Hid (lastOf (l.take (j + 1)) k = ⟨(j : Int) + 1, l[j].gone, l[j].text⟩) := lastOf_take_hit l k j hjl hk
          clear HL hk
          go_wp2
          go_roundw
          case rel => exact ⟨j + 1, by omega, by go_num, _, _, _, HN, rfl⟩
          case measure => simp [intOf]; omega
        · have hkb : (l[j].key == k) = false := by simp [hk]
          have HN : Hid (lastOf (l.take (j + 1)) k = ⟨ver, gone, text⟩) := (lastOf_take_miss l k j hjl hk).trans HL.out
          clear HL hk
          go_wp2
          go_roundw
          case rel => exact ⟨j + 1, by omega, by go_num, _, _, _, HN, rfl⟩
          case measure => simp [intOf]; omega
    · obtain rfl : j = s := by omega
      have HE : Hid ((entAt l k j).val = .agg #[.int .i64 k, .int .i64 ver, .int .i64 j, .bool gone, .string text]) := by
        unfold Hid entAt Ent.val
        rw [HL.out]
      go_wp2
      refine bodyPost_ret (v := .agg #[.int .i64 k, .int .i64 ver, .int .i64 j, .bool gone, .string text]) (by simp [results, Tryd.results76, go_sem]) rfl ?_
      exact ⟨by rw [HE.out], by go_grown⟩
end Go.Proofs.YtpcnfoaoajfhlaaDoor
