/-
  The document's store (mereref1.Store) by its contracts: Key, At, Read.
  mereref1.Key by its contract (as the document's store has it).
  mereref1.Entry and mereref1.Join by their contracts: the document's answers are those of package entry.
  The document's caches (mereref1.Cache, Get) by their contracts.
  The document's Get of a cache (mereref1.Get) by its contract.
  mereref1.Join by its contract.
-/
import Derived.Test.YtpcnfoaoajfhlaaGreatDoorRaaj
import Derived.Test.YtpcnfoaoajfhlaaGreatDoorRaaa
import Derived.Test.YtpcnfoaoajfhlaaGreatDoorRaab
import Derived.Test.YtpcnfoaoajfhlaaGreatDoorRaaf
import Derived.BigRegion
import Derived.BigQuiet
namespace Go.Proofs.YtpcnfoaoajfhlaaGreatDoor
set_option linter.unusedVariables false
set_option linter.unusedSimpArgs false
set_option linter.unusedVariables false
set_option linter.unusedSimpArgs false
open Go.RowKit

theorem refKey_c (k : Int) (w : World) : Calls Tryz.prog 47 #[.int .i64 k] w fun e w' => e = .returned (.bool (stK k)) ∧ w' = w := by
  by_cases h : 0 ≤ k
  · have hd : decide (0 ≤ k) = true := by simpa using h
    go_enter Tryz.func47, Tryz.ntmps47
    go_wp2
    go_ret
    have e : decide (k ≤ 7) = decide (k < 8) := decide_eq_decide.2 ⟨fun h => by omega, fun h => by omega⟩
    exact ⟨by simp [stK, h, e], rfl⟩
  · have hd : decide (0 ≤ k) = false := by simpa using h
    go_enter Tryz.func47, Tryz.ntmps47
    go_wp2
    go_ret
    exact ⟨by simp [stK, h] <;> omega, rfl⟩
theorem refKey_b (k : Int) (b : Bool) (w : World) (h : stK k = b) : Calls Tryz.prog 47 #[.int .i64 k] w fun e w' => e = .returned (.bool b) ∧ w = w' := by
  subst h; exact (refKey_c k w).mono fun _ _ h => ⟨h.1, h.2.symm⟩

/-- the document's store at block b holds what was done; its blocks are in G -/
def RefIs (w : World) (b : Nat) (l : List Deed) (G : Nat → Prop) : Prop :=
  ∃ v, w.cell? ⟨b, 0, none⟩ = some v ∧ w.frozen? ⟨b, 0, none⟩ = false ∧ w.ownsRow 0 46 5 v l.length (rowE l) ∧ v.ownBlock ≠ some b ∧ (∀ c, v.ownBlock = some c → G c) ∧ G b ∧ (∀ c, G c → c < w.heap.size) ∧ l.length ≤ 1000
theorem RefIs.blocks {w w' : World} {b : Nat} {l : List Deed} {G : Nat → Prop} (h : RefIs w b l G) (hs : w.heap.size ≤ w'.heap.size) (hb : ∀ c, G c → w'.heap[c]? = w.heap[c]?) : RefIs w' b l G := by
  obtain ⟨v, c0, f0, ho, hn, hg, Gb, Gl, hl⟩ := h
  have eb := hb b Gb
  exact ⟨v, (World.cell?_of_block (a := ⟨b, 0, none⟩) eb).trans c0, (World.frozen?_of_block (a := ⟨b, 0, none⟩) eb).trans f0, ownsRow_blocks ho (fun g hg' => hb g (hg g hg')), hn, hg, Gb, fun c hc => Nat.lt_of_lt_of_le (Gl c hc) hs, hl⟩
theorem RefIs.lt {w : World} {b : Nat} {l : List Deed} {G : Nat → Prop} (h : RefIs w b l G) : ∀ c, G c → c < w.heap.size := by
  obtain ⟨v, c0, f0, ho, hn, hg, Gb, Gl, hl⟩ := h
  exact Gl
theorem RefIs.below {w w' : World} {b : Nat} {l : List Deed} {G : Nat → Prop} (h : RefIs w b l G) (hb : Below w.heap.size w w') : RefIs w' b l G :=
  h.blocks hb.size (fun c hc => hb.block c (h.lt c hc))
theorem RefIs.kept {w w' : World} {b : Nat} {l : List Deed} {F G : Nat → Prop} (h : RefIs w b l G) (hb : Kept F w w') (hn : ∀ c, G c → ¬ F c) : RefIs w' b l G :=
  h.blocks hb.size (fun c hc => hb.block c (h.lt c hc) (hn c hc))

set_option maxHeartbeats 1000000 in
theorem refAt_c (b : Nat) (k : Int) (s : Nat) (l : List Deed) (G : Nat → Prop) (w : World) (hs : s ≤ l.length) (h : RefIs w b l G) :
    Calls Tryz.prog 138 #[.pointer (some ⟨b, 0, none⟩), .int .i64 k, .int .i64 s] w fun e w' => e = .returned (entAt l k s).val ∧ Below w.heap.size w w' := by
  obtain ⟨v, c0, f0, ho, hn, hg, Gb, Gl, hl⟩ := h
  have lb := Gl b Gb
  clear Gl Gb hg f0
  have HC : Hid (∀ g, v.ownBlock = some g → ∀ j u, (rowE l)[j]? = some u → w.cell? ⟨g, j, none⟩ = some u) := fun g hg j u hu => by
    have := ho.cells (g := g) hg j u hu
    simpa [Addr.add_lit] using this
  have HV : Hid (v = .slice none 0 0 ∧ l.length = 0 ∨ ∃ g cap, v = .slice (some ⟨g, 0, none⟩) l.length cap ∧ g < w.heap.size) := by
    rcases ho.2 with ⟨rfl, h0⟩ | ⟨g, cap, cur, rfl, _, hgg, _⟩
    · exact .inl ⟨rfl, h0⟩
    · exact .inr ⟨g, cap, rfl, (Array.getElem?_eq_some_iff.1 hgg).1⟩
  clear ho hn
  have hs1 : (s : Int) ≤ 1000 := by omega
  go_enter Tryz.func138, Tryz.ntmps138
  go_wp2_with fail
  go_loopw [8] (fun i wr => ∃ j : Nat, j ≤ s ∧ i = .int .i64 j ∧ ∃ ver gone text, Hid (lastOf (l.take j) k = ⟨ver, gone, text⟩) ∧ wr = (w.alloc (.cells #[.int .i64 0, .int .i64 0, .int .i64 0, .bool false, .string ⟨#[]⟩] 46)).alloc (.cells #[.int .i64 k, .int .i64 ver, .int .i64 s, .bool gone, .string text] 46)) (fun i _ => s - (intOf i).toNat)
  case atStart => exact ⟨0, Nat.zero_le _, rfl, 0, true, ByteArray.empty, rfl, rfl⟩
  case round =>
    obtain ⟨j, hj, rfl, ver, gone, text, HL, rfl⟩ := hrel
    by_cases hlt : j < s
    · have hjl : j < l.length := by omega
      rcases HV.out with ⟨rfl, h0⟩ | ⟨g, cap, rfl, hgl⟩
      · omega
      · have hgg := rowE_get l j hjl
        have x0 := HC.out g rfl _ _ hgg.1
        have x3 := HC.out g rfl _ _ hgg.2.1
        have x4 := HC.out g rfl _ _ hgg.2.2
        clear hgg
        by_cases hk : l[j].key = k
        · have hkb : (l[j].key == k) = true := by simp [hk]
          have HN : Hid (lastOf (l.take (j + 1)) k = ⟨(j : Int) + 1, l[j].gone, l[j].text⟩) := lastOf_take_hit l k j hjl hk
          clear HL hk
          go_wp2
          go_roundw
          case rel => exact ⟨j + 1, by omega, by go_num, _, _, _, HN, rfl⟩
          case measure => simp [intOf]; omega
        · have hkb : (l[j].key == k) = false := by simp [hk]
          have HN : Hid (lastOf (l.take (j + 1)) k = ⟨ver, gone, text⟩) := (lastOf_take_miss l k j hjl hk).trans HL.out
          clear HL hk
          go_wp2
          go_roundw
          case rel => exact ⟨j + 1, by omega, by go_num, _, _, _, HN, rfl⟩
          case measure => simp [intOf]; omega
    · obtain rfl : j = s := by omega
      have HE : Hid ((entAt l k j).val = .agg #[.int .i64 k, .int .i64 ver, .int .i64 j, .bool gone, .string text]) := by
        unfold Hid entAt Ent.val
        rw [HL.out]
      go_wp2
      refine bodyPost_ret (v := .agg #[.int .i64 k, .int .i64 ver, .int .i64 j, .bool gone, .string text]) (by simp [results, Tryz.results138, go_sem]) rfl ?_
      exact ⟨by rw [HE.out], by go_grown⟩
end Go.Proofs.YtpcnfoaoajfhlaaGreatDoor

namespace Go.Proofs.YtpcnfoaoajfhlaaGreatDoor
set_option linter.unusedVariables false
set_option linter.unusedSimpArgs false
end Go.Proofs.YtpcnfoaoajfhlaaGreatDoor

namespace Go.Proofs.YtpcnfoaoajfhlaaGreatDoor
set_option linter.unusedVariables false
set_option linter.unusedSimpArgs false
open Go.RowKit
theorem bad1 {k v a : Int} {g : Bool} {t : ByteArray} (h : ¬ (0 ≤ k ∧ k < 8 ∧ 0 ≤ v ∧ v ≤ 1000 ∧ v ≤ a ∧ a ≤ 1000)) : bad k v a g t = 1 := by
  refine bad_ver ?_
  cases hx : (inR k 0 7 && inR v 0 1000 && inR a v 1000)
  · rfl
  · simp [inR] at hx
    omega
theorem in_all {k v a : Int} (h : 0 ≤ k ∧ k < 8 ∧ 0 ≤ v ∧ v ≤ 1000 ∧ v ≤ a ∧ a ≤ 1000) : (inR k 0 7 && inR v 0 1000 && inR a v 1000) = true := by
  simp [inR]
  omega
theorem bad4 {k v a : Int} {g : Bool} {t : ByteArray} (h : 0 ≤ k ∧ k < 8 ∧ 0 ≤ v ∧ v ≤ 1000 ∧ v ≤ a ∧ a ≤ 1000) (h2 : 12 < (t.size : Int)) : bad k v a g t = 4 := bad_full (in_all h) h2
theorem bad3 {k v a : Int} {t : ByteArray} (h : 0 ≤ k ∧ k < 8 ∧ 0 ≤ v ∧ v ≤ 1000 ∧ v ≤ a ∧ a ≤ 1000) (h2 : ¬ 12 < (t.size : Int)) (h3 : (!t.toList.isEmpty) = true) : bad k v a true t = 3 := bad_shape (in_all h) h2 (by rw [h3]; rfl)
theorem bad0 {k v a : Int} {t : ByteArray} (h : 0 ≤ k ∧ k < 8 ∧ 0 ≤ v ∧ v ≤ 1000 ∧ v ≤ a ∧ a ≤ 1000) (h2 : ¬ 12 < (t.size : Int)) (h3 : (!t.toList.isEmpty) = false) : bad k v a true t = 0 := bad_none (in_all h) h2 (by rw [h3]; rfl)
theorem bad0f {k v a : Int} {t : ByteArray} (h : 0 ≤ k ∧ k < 8 ∧ 0 ≤ v ∧ v ≤ 1000 ∧ v ≤ a ∧ a ≤ 1000) (h2 : ¬ 12 < (t.size : Int)) : bad k v a false t = 0 := bad_none (in_all h) h2 rfl
/-- Join of two right entries of one key -/
theorem joinE_go {x y : En} (hb : bad2 (bad x.k x.v x.a x.g x.t) (bad y.k y.v y.a y.g y.t) = 0) (hk : x.k = y.k) : joinE x y = if newerB x.v x.a y.v y.a = true then (if clashB y.v y.a y.g y.t x.v x.g x.t = true then (⟨0, 0, 0, false, ⟨#[]⟩⟩, 7) else (x, 0)) else if clashB x.v x.a x.g x.t y.v y.g y.t = true then (⟨0, 0, 0, false, ⟨#[]⟩⟩, 7) else (y, 0) := by
  unfold joinE
  rw [if_neg (by simpa using hb), if_neg (by simpa using hk)]
theorem go_eq7 {x y : En} (hb : bad2 (bad x.k x.v x.a x.g x.t) (bad y.k y.v y.a y.g y.t) = 0) (hk : x.k = y.k) (hv : x.v = y.v) (h : ((!(x.g == y.g)) || !(x.t.toList == y.t.toList)) = true) : joinE x y = (⟨0, 0, 0, false, ⟨#[]⟩⟩, 7) := by
  have h' : ((!(y.g == x.g)) || !(y.t.toList == x.t.toList)) = true := by
    rw [Bool.beq_comm (a := y.g), BEq.comm (a := y.t.toList)]
    exact h
  rw [joinE_go hb hk]
  unfold clashB
  rw [if_pos hv, if_pos hv.symm, h, h']
  simp
theorem go_eqa {x y : En} (hb : bad2 (bad x.k x.v x.a x.g x.t) (bad y.k y.v y.a y.g y.t) = 0) (hk : x.k = y.k) (hv : x.v = y.v) (h : ((!(x.g == y.g)) || !(x.t.toList == y.t.toList)) = false) (ha : y.a < x.a) : joinE x y = (x, 0) := by
  have h' : ((!(y.g == x.g)) || !(y.t.toList == x.t.toList)) = false := by
    rw [Bool.beq_comm (a := y.g), BEq.comm (a := y.t.toList)]
    exact h
  rw [joinE_go hb hk]
  unfold clashB newerB
  rw [if_pos hv, if_pos hv, if_pos hv.symm, h, h']
  simp [ha]
theorem go_eqb {x y : En} (hb : bad2 (bad x.k x.v x.a x.g x.t) (bad y.k y.v y.a y.g y.t) = 0) (hk : x.k = y.k) (hv : x.v = y.v) (h : ((!(x.g == y.g)) || !(x.t.toList == y.t.toList)) = false) (ha : ¬ y.a < x.a) : joinE x y = (y, 0) := by
  rw [joinE_go hb hk]
  unfold clashB newerB
  rw [if_pos hv, if_pos hv, if_pos hv.symm, h]
  simp [ha]
theorem go_lt7 {x y : En} (hb : bad2 (bad x.k x.v x.a x.g x.t) (bad y.k y.v y.a y.g y.t) = 0) (hk : x.k = y.k) (hv : x.v < y.v) (ha : y.v ≤ x.a) : joinE x y = (⟨0, 0, 0, false, ⟨#[]⟩⟩, 7) := by
  rw [joinE_go hb hk]
  unfold clashB newerB
  have n1 : ¬ x.v = y.v := by omega
  have n2 : ¬ y.v = x.v := by omega
  have n3 : ¬ y.v < x.v := by omega
  simp only [n1, n2, n3, ha, if_false, decide_false, decide_true, Bool.false_eq_true, if_true]
theorem go_ltb {x y : En} (hb : bad2 (bad x.k x.v x.a x.g x.t) (bad y.k y.v y.a y.g y.t) = 0) (hk : x.k = y.k) (hv : x.v < y.v) (ha : ¬ y.v ≤ x.a) : joinE x y = (y, 0) := by
  rw [joinE_go hb hk]
  unfold clashB newerB
  have n1 : ¬ x.v = y.v := by omega
  have n2 : ¬ y.v = x.v := by omega
  have n3 : ¬ y.v < x.v := by omega
  simp only [n1, n2, n3, ha, if_false, decide_false, decide_true, Bool.false_eq_true, if_true]
theorem go_swap {x y : En} (hb : bad2 (bad x.k x.v x.a x.g x.t) (bad y.k y.v y.a y.g y.t) = 0) (hk : x.k = y.k) (hv : y.v < x.v) : joinE x y = joinE y x := by
  have hb' : bad2 (bad y.k y.v y.a y.g y.t) (bad x.k x.v x.a x.g x.t) = 0 := by
    unfold bad2 at *
    split at hb <;> simp_all
  by_cases ha : x.v ≤ y.a
  · rw [go_lt7 hb' hk.symm hv ha, joinE_go hb hk]
    unfold clashB newerB
    have n1 : ¬ x.v = y.v := by omega
    have n2 : ¬ y.v = x.v := by omega
    simp only [n1, n2, hv, ha, if_false, decide_false, decide_true, Bool.false_eq_true, if_true]
  · rw [go_ltb hb' hk.symm hv ha, joinE_go hb hk]
    unfold clashB newerB
    have n1 : ¬ x.v = y.v := by omega
    have n2 : ¬ y.v = x.v := by omega
    simp only [n1, n2, hv, ha, if_false, decide_false, decide_true, Bool.false_eq_true, if_true]
end Go.Proofs.YtpcnfoaoajfhlaaGreatDoor

namespace Go.Proofs.YtpcnfoaoajfhlaaGreatDoor
set_option linter.unusedVariables false
set_option linter.unusedSimpArgs false
open Go.RowKit

end Go.Proofs.YtpcnfoaoajfhlaaGreatDoor

namespace Go.Proofs.YtpcnfoaoajfhlaaGreatDoor
set_option linter.unusedVariables false
set_option linter.unusedSimpArgs false
open Go.RowKit

theorem getE_hit {l : List En} {key : Int} {j : Nat} (h : j < l.length) (hk : l[j].k = key) : getE (l.drop j) key = some l[j] := by
  rw [List.drop_eq_getElem_cons h]
  unfold getE
  rw [List.find?_cons_of_pos (by simpa using hk)]
theorem getE_miss {l : List En} {key : Int} {j : Nat} (h : j < l.length) (hk : ¬ l[j].k = key) : getE (l.drop j) key = getE (l.drop (j + 1)) key := by
  rw [List.drop_eq_getElem_cons h]
  unfold getE
  rw [List.find?_cons_of_neg (by simpa using hk)]
/-- what the document's Get answers -/
def hadE (o : Option En) : En := match o with | some x => x | none => ⟨0, 0, 0, false, ⟨#[]⟩⟩
set_option maxHeartbeats 4000000 in
theorem rGet_c (v : Value) (l : List En) (key : Int) (w : World) (hr : RowIs w v l) :
    Calls Tryz.prog 48 #[v, .int .i64 key] w fun e w' => e = .returned (.tuple #[(hadE (getE l key)).val, .bool (getE l key).isSome]) ∧ Below w.heap.size w w' := by
  obtain ⟨hlen, p, cap, rfl, hrow⟩ := hr
  have HRow : Hid (l ≠ [] → ∃ b o, p = some ⟨b, o, none⟩ ∧ b < w.heap.size ∧ ∀ j (h : j < l.length), EnAt w b (o + j * 5) l[j]) := hrow
  clear hrow
  obtain ⟨n, HN⟩ : ∃ n, Hid (l.length = n) := ⟨_, rfl⟩
  rw [HN.out] at hlen ⊢
  have hn63 : n ≤ 9223372036854775807 := hlen
  obtain ⟨R, HR⟩ : ∃ R, Hid (getE l key = R) := ⟨_, rfl⟩
  rw [HR.out]
  go_enter Tryz.func48, Tryz.ntmps48
  go_wp2_with fail
  go_loopw [6] (fun i wr => ∃ j : Nat, j ≤ n ∧ i = .int .i64 j ∧ Hid (R = getE (l.drop j) key) ∧ wr = w.alloc (.cells #[.int .i64 0, .int .i64 0, .int .i64 0, .bool false, .string ⟨#[]⟩] 46)) (fun i _ => n - (intOf i).toNat)
  case atStart => exact ⟨0, Nat.zero_le _, rfl, by rw [List.drop_zero]; exact HR.out.symm, rfl⟩
  case round =>
    obtain ⟨j, hj, rfl, HE, rfl⟩ := hrel
    by_cases hlt : j < n
    · have hjl : j < l.length := by rw [HN.out]; exact hlt
      obtain ⟨b, o, rfl, hbw, hat⟩ := HRow.out (fun h => by simp [h] at hjl)
      have HAt : Hid (EnAt (w.alloc (.cells #[.int .i64 0, .int .i64 0, .int .i64 0, .bool false, .string ⟨#[]⟩] 46)) b (o + j * 5) l[j]) := (hat j hjl).of_block (Below.heap_alloc _ _ _ hbw)
      clear hat
      have hlti : (j : Int) < (n : Int) := by omega
      obtain ⟨x, HX⟩ : ∃ x, Hid (l[j] = x) := ⟨l[j], show l[j] = l[j] from rfl⟩
      have HH : Hid (x.k = key → R = some x) := fun hk => by rw [HE.out, getE_hit hjl (by rw [HX.out]; exact hk), HX.out]
      have HMs : Hid (¬ x.k = key → R = getE (l.drop (j + 1)) key) := fun hk => by rw [HE.out, getE_miss hjl (by rw [HX.out]; exact hk)]
      rw [HX.out] at HAt
      obtain ⟨x0, x1, x2, x3, x4⟩ := x
      obtain ⟨c0, c1, c2, c3, c4⟩ := HAt.out
      dsimp only at c0 c1 c2 c3 c4
      have p1 : ¬ b = w.heap.size := by omega
      have p2 : ¬ w.heap.size = b := by omega
      by_cases hk : x0 = key
      · have hkb : (x0 == key) = true := by simp [hk]
        have HS : Hid (R = some ⟨x0, x1, x2, x3, x4⟩) := HH.out hk
        clear hk
        go_wp2_with fail
        refine bodyPost_ret (v := .tuple #[.agg #[.int .i64 x0, .int .i64 x1, .int .i64 x2, .bool x3, .string x4], .bool true]) (by simp [results, Tryz.results48, go_sem]) rfl ?_
        refine ⟨by rw [HS.out]; rfl, ?_⟩
        go_grown
      · have hkb : (x0 == key) = false := by simp [hk]
        have HS : Hid (R = getE (l.drop (j + 1)) key) := HMs.out hk
        clear hk
        go_wp2_with fail
        go_roundw
        case rel => exact ⟨j + 1, by omega, by go_num, HS, by first | rfl | trivial⟩
        case measure => simp [intOf]; omega
    · obtain rfl : j = n := by omega
      have HS : Hid (R = none) := by
        show R = none
        rw [HE.out, List.drop_eq_nil_of_le (by rw [HN.out]; exact Nat.le_refl _)]
        rfl
      go_wp2_with fail
      refine bodyPost_ret (v := .tuple #[.agg #[.int .i64 0, .int .i64 0, .int .i64 0, .bool false, .string ⟨#[]⟩], .bool false]) (by simp [results, Tryz.results48, go_sem]) rfl ?_
      refine ⟨by rw [HS.out]; rfl, ?_⟩
      go_grown
theorem rGet_none {l : List En} {key : Int} (h : getE l key = none) (v : Value) (w : World) (hr : RowIs w v l) :
    Calls Tryz.prog 48 #[v, .int .i64 key] w fun e w' => e = .returned (.tuple #[.agg #[.int .i64 0, .int .i64 0, .int .i64 0, .bool false, .string ⟨#[]⟩], .bool false]) ∧ Below w.heap.size w w' := by
  have c := rGet_c v l key w hr
  rw [h] at c
  exact c
theorem rGet_some {l : List En} {key x0 x1 x2 : Int} {x3 : Bool} {x4 : ByteArray} (h : getE l key = some ⟨x0, x1, x2, x3, x4⟩) (v : Value) (w : World) (hr : RowIs w v l) :
    Calls Tryz.prog 48 #[v, .int .i64 key] w fun e w' => e = .returned (.tuple #[.agg #[.int .i64 x0, .int .i64 x1, .int .i64 x2, .bool x3, .string x4], .bool true]) ∧ Below w.heap.size w w' := by
  have c := rGet_c v l key w hr
  rw [h] at c
  exact c
end Go.Proofs.YtpcnfoaoajfhlaaGreatDoor

namespace Go.Proofs.YtpcnfoaoajfhlaaGreatDoor
set_option linter.unusedVariables false
set_option linter.unusedSimpArgs false
open Go.RowKit
set_option maxHeartbeats 4000000 in
theorem rJoin_le (ka va aa : Int) (ga : Bool) (ta : ByteArray) (kb vb ab : Int) (gb : Bool) (tb : ByteArray) (w : World) (hb : bad2 (bad ka va aa ga ta) (bad kb vb ab gb tb) = 0) (hk : ka = kb) (hv : va ≤ vb) :
    Calls Tryz.prog 139 #[.agg #[.int .i64 ka, .int .i64 va, .int .i64 aa, .bool ga, .string ta], .agg #[.int .i64 kb, .int .i64 vb, .int .i64 ab, .bool gb, .string tb]] w fun e w' => e = .returned (.tuple #[(joinE ⟨ka, va, aa, ga, ta⟩ ⟨kb, vb, ab, gb, tb⟩).1.val, .int .i64 (joinE ⟨ka, va, aa, ga, ta⟩ ⟨kb, vb, ab, gb, tb⟩).2]) ∧ Below w.heap.size w w' := by
  obtain ⟨J, HE⟩ : ∃ J, Hid (joinE ⟨ka, va, aa, ga, ta⟩ ⟨kb, vb, ab, gb, tb⟩ = J) := ⟨_, rfl⟩
  rw [HE.out]
  have H : Hid (bad2 (bad ka va aa ga ta) (bad kb vb ab gb tb) = 0) := hb
  have HK : Hid (ka = kb) := hk
  clear hb hk
  by_cases he : va = vb
  · have he2 : (va == vb) = true := by simp [he]
    have HV : Hid (va = vb) := he
    clear he hv
    go_enter Tryz.func139, Tryz.ntmps139
    go_wp2_with fail
    · rename_i hg ht
      subst hg
      refine bodyPost_ret (v := .tuple #[.agg #[.int .i64 0, .int .i64 0, .int .i64 0, .bool false, .string ⟨#[]⟩], .int .i64 7]) (by simp [results, Tryz.results139, go_sem]) rfl ?_
      refine ⟨by rw [← HE.out, go_eq7 H.out HK.out HV.out (by simpa using ht)]; rfl, ?_⟩
      go_grown
    · have hg : ga = gb := by assumption
      have ht : (!ta.toList == tb.toList) = false := by assumption
      have ha : ab < aa := by assumption
      subst hg
      refine bodyPost_ret (v := .tuple #[.agg #[.int .i64 ka, .int .i64 va, .int .i64 aa, .bool ga, .string ta], .int .i64 0]) (by simp [results, Tryz.results139, go_sem]) rfl ?_
      refine ⟨by rw [← HE.out, go_eqa H.out HK.out HV.out (by simpa using ht) (by show ab < aa; omega)]; rfl, ?_⟩
      go_grown
    · have hg : ga = gb := by assumption
      have ht : (!ta.toList == tb.toList) = false := by assumption
      have ha : aa ≤ ab := by assumption
      subst hg
      refine bodyPost_ret (v := .tuple #[.agg #[.int .i64 kb, .int .i64 vb, .int .i64 ab, .bool ga, .string tb], .int .i64 0]) (by simp [results, Tryz.results139, go_sem]) rfl ?_
      refine ⟨by rw [← HE.out, go_eqb H.out HK.out HV.out (by simpa using ht) (by show ¬ ab < aa; omega)]; rfl, ?_⟩
      go_grown
    · rename_i hg
      refine bodyPost_ret (v := .tuple #[.agg #[.int .i64 0, .int .i64 0, .int .i64 0, .bool false, .string ⟨#[]⟩], .int .i64 7]) (by simp [results, Tryz.results139, go_sem]) rfl ?_
      refine ⟨by rw [← HE.out, go_eq7 H.out HK.out HV.out (by simp [hg])]; rfl, ?_⟩
      go_grown
  · have hl : va < vb := by omega
    have he2 : (va == vb) = false := by simp [he]
    have HV : Hid (va < vb) := hl
    have hn : ¬ vb < va := by omega
    by_cases ha : vb ≤ aa
    · go_enter Tryz.func139, Tryz.ntmps139
      go_wp2_with fail
      refine bodyPost_ret (v := .tuple #[.agg #[.int .i64 0, .int .i64 0, .int .i64 0, .bool false, .string ⟨#[]⟩], .int .i64 7]) (by simp [results, Tryz.results139, go_sem]) rfl ?_
      refine ⟨by rw [← HE.out, go_lt7 H.out HK.out HV.out ha]; rfl, ?_⟩
      go_grown
    · go_enter Tryz.func139, Tryz.ntmps139
      go_wp2_with fail
      refine bodyPost_ret (v := .tuple #[.agg #[.int .i64 kb, .int .i64 vb, .int .i64 ab, .bool gb, .string tb], .int .i64 0]) (by simp [results, Tryz.results139, go_sem]) rfl ?_
      refine ⟨by rw [← HE.out, go_ltb H.out HK.out HV.out (by show ¬ vb ≤ aa; omega)]; rfl, ?_⟩
      go_grown
theorem bad2_swap {m n : Int} (h : bad2 m n = 0) : bad2 n m = 0 := by
  unfold bad2 at *
  split at h <;> simp_all
set_option maxHeartbeats 4000000 in
theorem rJoin_c (ka va aa : Int) (ga : Bool) (ta : ByteArray) (kb vb ab : Int) (gb : Bool) (tb : ByteArray) (w : World) (hb : bad2 (bad ka va aa ga ta) (bad kb vb ab gb tb) = 0) (hk : ka = kb) :
    Calls Tryz.prog 139 #[.agg #[.int .i64 ka, .int .i64 va, .int .i64 aa, .bool ga, .string ta], .agg #[.int .i64 kb, .int .i64 vb, .int .i64 ab, .bool gb, .string tb]] w fun e w' => e = .returned (.tuple #[(joinE ⟨ka, va, aa, ga, ta⟩ ⟨kb, vb, ab, gb, tb⟩).1.val, .int .i64 (joinE ⟨ka, va, aa, ga, ta⟩ ⟨kb, vb, ab, gb, tb⟩).2]) ∧ Below w.heap.size w w' := by
  by_cases hv : va ≤ vb
  · exact rJoin_le ka va aa ga ta kb vb ab gb tb w hb hk hv
  have hl : vb < va := by omega
  have he2 : (va == vb) = false := by simp; omega
  rw [go_swap (x := ⟨ka, va, aa, ga, ta⟩) (y := ⟨kb, vb, ab, gb, tb⟩) hb hk hl]
  have H : Hid (bad2 (bad ka va aa ga ta) (bad kb vb ab gb tb) = 0) := hb
  have HK : Hid (ka = kb) := hk
  obtain ⟨jk, jv, ja, jg, jt, n, HE⟩ : ∃ jk jv ja jg jt n, Hid (joinE ⟨kb, vb, ab, gb, tb⟩ ⟨ka, va, aa, ga, ta⟩ = (⟨jk, jv, ja, jg, jt⟩, n)) := ⟨_, _, _, _, _, _, rfl⟩
  clear hb hk hv
  rw [HE.out]
  go_enter Tryz.func139, Tryz.ntmps139
  go_wp2_with fail
  refine (rJoin_le kb vb ab gb tb ka va aa ga ta _ (bad2_swap H.out) HK.out.symm (by omega)).mono ?_
  rintro e w1 ⟨rfl, hb⟩
  rw [HE.out]
  have B1 : Hid (Below w.heap.size w w1) := Below.trans (by go_grown) (hb.mono (by simp; omega))
  obtain ⟨e0, e1, e2, e3, e4, ef⟩ := (box_new _ 0 0 0 false ⟨#[]⟩ (w.heap.size + 1 + 1) (by simp)).below hb (by simp)
  clear hb
  simp only [En.val]
  go_wp2_with fail
  refine bodyPost_ret (v := .tuple #[.agg #[.int .i64 jk, .int .i64 jv, .int .i64 ja, .bool jg, .string jt], .int .i64 n]) (by simp [results, Tryz.results139, go_sem, e0, e1, e2, e3, e4]) rfl ?_
  refine ⟨rfl, ?_⟩
  have hb := B1.out
  go_grown
end Go.Proofs.YtpcnfoaoajfhlaaGreatDoor
