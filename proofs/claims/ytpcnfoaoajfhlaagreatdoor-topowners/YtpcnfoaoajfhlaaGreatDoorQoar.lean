/-
  Package log by its contracts: New, what counts a step, what changes it where it does not stop, what tells of it.
  Package log: a Put or Delete where it does not stop.
  Package log: Put, Delete, and what tells of it, by their contracts.
  Package log: Sync, Fail, Safe, Read, by their contracts.
-/
import Derived.Test.YtpcnfoaoajfhlaaGreatDoorQoao
import Derived.Maps.AppendAt
import Derived.Deep.RegionHeld3
import Derived.WalkSmall
namespace Go.Proofs.YtpcnfoaoajfhlaaGreatDoor
set_option linter.unusedVariables false
set_option linter.unusedSimpArgs false
set_option linter.unusedVariables false
set_option linter.unusedSimpArgs false
open Go.RowKit

theorem setKept {F : Nat → Prop} {w w' : World} (h : Kept F w w') (b k : Nat) (hF : F b ∨ w.heap.size ≤ b) (u : Value) : Kept F w (w'.setCell ⟨b, k, none⟩ u) :=
  ⟨h.os, h.tape, h.output, by rw [World.size_setCell]; exact h.size, fun c hc hn => (Below.heap_setCell _ _ _ c (fun e => by
    subst e
    rcases hF with h' | h'
    · exact hn h'
    · exact absurd hc (Nat.not_lt.2 h'))).trans (h.block c hc hn)⟩
/-- append of a row of bytes to a row of bytes -/
theorem wp_appB {ops : Array Oper} {rest : List Oper} {o : Oper} {ac : Act} {Q : Exit → Act → World → Prop} (w : World) (hgd : o.guard = none) (s x : Operand)
    (ho : o.op = .call { callee := .builtin .append, args := #[s, x], argTypes := #[115, 115] }) (v : Value) (out : List Nat) (hs : ac.eval s = v) (hown : OwnB w v out)
    (g n cap : Nat) (more : List Nat) (hx : ac.eval x = .slice (some ⟨g, 0, none⟩) n cap) (hm : OwnB w (.slice (some ⟨g, 0, none⟩) n cap) more) (hl : out.length + more.length ≤ 100000)
    (h : ∀ v' w', OwnB w' v' (out ++ more) → Hid (w.grownBy w' v.ownBlock) → Hid (v'.ownBlock = v.ownBlock ∨ v'.ownBlock = some w.heap.size) → wpList Tryz.prog ops Q rest (ac.put o.dst v') w') : wpList Tryz.prog ops Q (o :: rest) ac w := by
  obtain ⟨i0, hi0, hz0, hz1, hz2⟩ := info_parts infoB
  rcases hm.2 with ⟨he, _⟩ | ⟨g', cap', cur, he, _, hg, hc1, hc2, hc3, hc4⟩
  · cases he
  · obtain ⟨rfl, rfl, rfl⟩ : g = g' ∧ n = more.length ∧ cap = cap' := by simpa using he
    have q2 : ∀ (j : Nat) (u : Value), (rowB more)[j]? = some u → w.cell? ((⟨g, 0, none⟩ : Addr).add j) = some u := fun j u hu => by
      rw [← hc4] at hu
      have hj : (cur.toList.take (more.length * 1))[j]? = some u := hu
      rw [List.getElem?_take] at hj
      split at hj
      · have hq : cur[j]? = some u := by simpa using hj
        show w.cell? ((⟨g, 0, none⟩ : Addr).add j) = some u
        by_cases hj0 : j = 0
        · subst hj0; simp [World.cell?, Addr.add, hg, hq]
        · simp [World.cell?, Addr.add, hj0, hg, hq]
      · cases hj
    refine wpList_append_own_at w hgd s x 115 ho 0 5 i0 _ 1 1 Tryz.underlying115 hi0 hz0 hz1 hz2 rfl (by omega) v out.length (rowB out) hs hown ⟨g, 0, none⟩ more.length cap (rowB more) hx (by rw [rowB_length]; omega) q2 (rowB_one more) (by unfold maxLen; omega) (by omega) (Nat.zero_le _) ?_
    intro v' w' h1 h2 _ h4
    refine h v' w' (show World.ownsRow _ _ _ _ _ _ _ from ?_) h2 h4
    rw [rowB_append, List.length_append]
    exact h1
set_option maxHeartbeats 4000000 in
theorem lgNew_c (w : World) : Calls Tryz.prog 22 #[] w fun e w' => ∃ j, e = .returned (.pointer (some ⟨j, 0, none⟩)) ∧ (∃ S, LgAt S w' j [] [] 0 (-1) false ∧ ∀ c, S c → w.heap.size ≤ c) ∧ Below w.heap.size w w' := by
  go_enter Tryz.func22, Tryz.ntmps22
  go_wp2_with fail
  refine (new_c _).mono ?_
  rintro e w1 ⟨rfl, hw⟩
  have HS : Hid (StoreIs w1 w.heap.size [] (fun c => c = w.heap.size)) := by rw [hw]; exact new_is w
  have HB : Hid (Below w.heap.size w w1) := by rw [hw]; exact (Below.refl _ _).alloc (Nat.le_refl _) _
  have HZ : Hid (w1.heap.size = w.heap.size + 1) := by show w1.heap.size = w.heap.size + 1; rw [hw]; simp
  clear hw
  go_wp2_with fail
  go_ret
  have hz := HZ.out
  refine ⟨w1.heap.size, rfl, ⟨fun c => c = w.heap.size ∨ c = w1.heap.size, ⟨fun c => c = w.heap.size, w.heap.size, .slice none 0 0, ?_⟩, fun c hc => by omega⟩, HB.out.trans (((Below.refl _ _).alloc (Nat.le_refl _) _).mono HB.out.size)⟩
  refine ⟨by simp, by simp, by simp, by simp, by simp, fun k => by simp, HS.out.below ((Below.refl _ _).alloc (Nat.le_refl _) _), OwnB.nil _, .inr rfl, fun x hx => ⟨.inl hx, by omega⟩, fun g hg => by simp [Value.ownBlock] at hg, fun x hx => by simp; omega⟩
def lfN (lf : Int) : Int := if 0 < lf then lf - 1 else lf
/-- a step is counted -/
theorem stops_c {S F : Nat → Prop} {w : World} {j b : Nat} {v : Value} {l : List Deed} {bs : List Nat} {sf : Nat} {lf : Int} {st : Bool} (h : Lq S F w j b v l bs sf lf st) (hlf2 : lf ≤ 9223372036854775807) :
    Calls Tryz.prog 66 #[.pointer (some ⟨j, 0, none⟩)] w fun e w' => e = .returned (.bool (lf == 0)) ∧ Lq S F w' j b v l bs sf (lfN lf) (lf == 0) ∧ Kept S w w' := by
  have HQ : Hid (Lq S F w j b v l bs sf lf st) := h
  have c3 := h.c3
  have c4 := h.c4
  have f4 := h.fz 4
  have f3 := h.fz 3
  have lj : j < w.heap.size := h.lt j h.sj
  have H1 : Hid (∀ (z : Int) (s : Bool), Lq S F (w.setCell ⟨j, 4, none⟩ (.bool s)) j b v l bs sf lf s ∧ Kept S w (w.setCell ⟨j, 4, none⟩ (.bool s)) ∧ Lq S F ((w.setCell ⟨j, 4, none⟩ (.bool s)).setCell ⟨j, 3, none⟩ (.int .i64 z)) j b v l bs sf z s ∧ Kept S w ((w.setCell ⟨j, 4, none⟩ (.bool s)).setCell ⟨j, 3, none⟩ (.int .i64 z))) :=
    fun z s => ⟨h.setSt s, setKept (Kept.refl _ _) j 4 (.inl h.sj) _, (h.setSt s).setLf z, setKept (setKept (Kept.refl _ _) j 4 (.inl h.sj) _) j 3 (.inl h.sj) _⟩
  clear h
  by_cases h0 : lf = 0
  · subst h0
    go_enter Tryz.func66, Tryz.ntmps66
    go_wp2_with fail
    go_ret
    exact ⟨rfl, (H1.out 0 true).1, (H1.out 0 true).2.1⟩
  · have h0b : (lf == 0) = false := by simp [h0]
    rw [h0b]
    by_cases h1 : 0 < lf
    · have hN : Hid (lfN lf = lf - 1) := by show lfN lf = _; rw [lfN, if_pos h1]
      rw [hN.out]
      have h1b : decide (0 < lf) = true := by simpa using h1
      have hlt : lf ≤ 9223372036854775807 := hlf2
      go_enter Tryz.func66, Tryz.ntmps66
      go_wp2_with fail
      go_ret
      exact ⟨rfl, (H1.out (lf - 1) false).2.2.1, (H1.out (lf - 1) false).2.2.2⟩
    · have hN : Hid (lfN lf = lf) := by show lfN lf = _; rw [lfN, if_neg h1]
      rw [hN.out]
      have h1b : decide (0 < lf) = false := by simpa using h1
      go_enter Tryz.func66, Tryz.ntmps66
      go_wp2_with fail
      go_ret
      exact ⟨rfl, (H1.out 0 false).1, (H1.out 0 false).2.1⟩
end Go.Proofs.YtpcnfoaoajfhlaaGreatDoor

namespace Go.Proofs.YtpcnfoaoajfhlaaGreatDoor
set_option linter.unusedVariables false
set_option linter.unusedSimpArgs false
open Go.RowKit

theorem errZ : errV 0 = .nilIface := by rw [errV, if_pos rfl]
theorem errN {n : Int} (h : n ≠ 0) : errV n = .iface 85 (.int .i64 n) := by rw [errV, if_neg h]
/-- a record in a box -/
structure BoxR (w : World) (b : Nat) (k : Int) (g : Bool) (t : ByteArray) : Prop where
  c0 : w.cell? ⟨b, 0, none⟩ = some (.int .i64 k)
  c1 : w.cell? ⟨b, 1, none⟩ = some (.bool g)
  c2 : w.cell? ⟨b, 2, none⟩ = some (.string t)
theorem BoxR.of_block {w w' : World} {b : Nat} {k : Int} {g : Bool} {t : ByteArray} (h : BoxR w b k g t) (hb : w'.heap[b]? = w.heap[b]?) : BoxR w' b k g t :=
  ⟨(World.cell?_of_block (a := ⟨b, 0, none⟩) hb).trans h.c0, (World.cell?_of_block (a := ⟨b, 1, none⟩) hb).trans h.c1, (World.cell?_of_block (a := ⟨b, 2, none⟩) hb).trans h.c2⟩
theorem BoxR.lt {w : World} {b : Nat} {k : Int} {g : Bool} {t : ByteArray} (h : BoxR w b k g t) : b < w.heap.size := World.block_lt_of_cell? w _ h.c0
theorem boxR_new (w : World) (k : Int) (g : Bool) (t : ByteArray) : BoxR (w.alloc (.cells #[.int .i64 k, .bool g, .string t] 120)) w.heap.size k g t := ⟨by simp, by simp, by simp⟩
theorem stopped_c (r : Int) (g : Bool) (t : ByteArray) {S : Nat → Prop} {w : World} {j : Nat} {l : List Deed} {p : List Nat} {sf : Nat} {lf : Int} (h : LgAt S w j l p sf lf true) :
    Calls Tryz.prog 65 #[.pointer (some ⟨j, 0, none⟩), .agg #[.int .i64 r, .bool g, .string t]] w fun e w' => e = .returned (.tuple #[.int .i64 0, errV 6]) ∧ LgTo S w w' j l p sf lf true := by
  have HL : Hid (LgAt S w j l p sf lf true) := h
  obtain ⟨F, b, v, h⟩ := h
  have c4 := h.c4
  have lj : j < w.heap.size := h.lt j h.sj
  rw [errN (by omega)]
  clear h
  go_enter Tryz.func65, Tryz.ntmps65
  go_wp2_with fail
  go_ret2
  exact ⟨rfl, HL.out.to ((Below.refl _ _).alloc (Nat.le_refl _) _)⟩
set_option maxRecDepth 100000 in
set_option maxHeartbeats 8000000 in
theorem lgChange_c (k : Int) (g : Bool) (t : ByteArray) (ht : t.size ≤ maxLen) {S : Nat → Prop} {w : World} {j : Nat} {l od : List Deed} {sf : Nat} {lf on oe : Int} (h : LgAt S w j l [] sf lf false) (hl : (flatD l).length ≤ 50000) (hlf : lf ≤ 9223372036854775807) (h0 : oe = 0 → lf ≠ 0)
    (ho : doO l ⟨k, g, t⟩ = ⟨od, on, oe⟩) (hbad : oe ≠ 0 → od = l ∧ on = 0) (hgo : oe = 0 → od = l ++ [⟨k, g, t⟩] ∧ 0 ≤ k ∧ k < 8 ∧ t.size ≤ 12) :
    Calls Tryz.prog 65 #[.pointer (some ⟨j, 0, none⟩), .agg #[.int .i64 k, .bool g, .string t]] w fun e w' => e = .returned (.tuple #[.int .i64 on, errV oe]) ∧ LgTo S w w' j od [] sf (if oe = 0 then lfN lf else lf) false := by
  obtain ⟨F, b, v, h⟩ := h
  have HL : Hid (Lg S F w j b v l [] sf lf false) := h
  have HO : Hid (doO l ⟨k, g, t⟩ = ⟨od, on, oe⟩) := ho
  have HT : Hid (t.size ≤ maxLen) := ht
  have HH : Hid ((oe ≠ 0 → od = l ∧ on = 0) ∧ (oe = 0 → od = l ++ [⟨k, g, t⟩] ∧ 0 ≤ k ∧ k < 8 ∧ t.size ≤ 12)) := ⟨hbad, hgo⟩
  have HLf : Hid (lf ≤ 9223372036854775807 ∧ (oe = 0 → lf ≠ 0) ∧ (flatD l).length ≤ 50000) := ⟨hlf, h0, hl⟩
  have c4 := h.c4
  have lj : j < w.heap.size := h.lt j h.sj
  have HA : Hid (Lg S F (w.alloc (.cells #[.int .i64 k, .bool g, .string t] 120)) j b v l [] sf lf false) := h.grown ((Below.refl _ _).alloc (Nat.le_refl _) _)
  have HR : Hid (BoxR (w.alloc (.cells #[.int .i64 k, .bool g, .string t] 120)) w.heap.size k g t) := boxR_new w k g t
  have HBa : Hid (Below w.heap.size w (w.alloc (.cells #[.int .i64 k, .bool g, .string t] 120))) := (Below.refl _ _).alloc (Nat.le_refl _) _
  have HZa : Hid ((w.alloc (.cells #[.int .i64 k, .bool g, .string t] 120)).heap.size = w.heap.size + 1) := by show _ = _; simp
  obtain ⟨ev, HEv⟩ : ∃ ev, Hid (errV oe = ev) := ⟨_, rfl⟩
  obtain ⟨lf2, HL2⟩ : ∃ z, Hid ((if oe = 0 then lfN lf else lf) = z) := ⟨_, rfl⟩
  rw [HEv.out, HL2.out]
  clear h ho ht hbad hgo hlf h0 hl
  go_enter Tryz.func65, Tryz.ntmps65
  go_upto_region 3 with fail
  obtain ⟨wa, HWa⟩ : ∃ wa, wa = w.alloc (.cells #[.int .i64 k, .bool g, .string t] 120) := ⟨_, rfl⟩
  rw [← HWa] at HA HR HBa HZa ⊢
  obtain ⟨R, HRr⟩ : ∃ R, R = w.heap.size := ⟨_, rfl⟩
  have HRz : Hid (R = w.heap.size) := HRr
  rw [← HRr] at HR ⊢
  clear HWa HRr c4 lj
  have a0 := HA.out.c0
  have lj : j < wa.heap.size := HA.out.lt j HA.out.sj
  obtain ⟨r0, r1, r2⟩ := HR.out
  have lR := HR.out.lt
  go_cut [6, 7] (fun c6 c7 wd => c6 = .int .i64 on ∧ c7 = ev ∧ ∃ F', Hid (StoreIs wd b od F' ∧ (∀ c, F' c → F c ∨ wa.heap.size ≤ c) ∧ Kept F wa wd))
  case first =>
    refine wp_region_noPanic ?_
    go_region_with (go_at_call 113; refine Calls.mono (do_c b k g t l F _ HT.out (HA.out.sto.below (by go_grown))) ?_; rw [HO.out]; rintro e w1 ⟨rfl, F', hs, hf, hk⟩; rw [HEv.out]; have HX : Hid (∃ F', StoreIs w1 b od F' ∧ (∀ c, F' c → F c ∨ wa.heap.size ≤ c) ∧ Kept F wa w1) := ⟨F', hs, hf, ⟨hk.os, hk.tape, hk.output, hk.size, hk.block⟩⟩; clear hs hf hk)
    all_goals refine NoPanic.normal ?_
    all_goals go_wp2_with fail
    all_goals go_meet
    all_goals exact ⟨rfl, rfl, HX.out⟩
  case rest =>
  obtain ⟨h6, h7, F', HX⟩ := hcut
  obtain ⟨w1, hren⟩ : ∃ x, x = wc := ⟨_, rfl⟩
  subst hren
  subst h6 h7
  clear a0 r0 r1 r2
  have HQ1 : Hid (Lq (fun x => S x ∨ F' x) F' w1 j b v od (flatD l) sf lf false) := by
    have h := HA.out.q.store HX.out.1 HX.out.2.1 HX.out.2.2
    rw [List.append_nil] at h
    exact h
  have HR1 : Hid (BoxR w1 R k g t) := HR.out.of_block (HX.out.2.2.block R lR (fun hf => by have h1 := HL.out.lt R (HL.out.sF R hf).1; have h2 := HRz.out; omega))
  have HK1 : Hid (Kept S w w1) := (Kept.of_below (F := S) HBa.out).trans HX.out.2.2 (fun x _ hx => (HL.out.sF x hx).1)
  have HS1 : Hid (∀ x, (S x ∨ F' x) → S x ∨ w.heap.size ≤ x) := fun x hx => by
    rcases hx with hx | hx
    · exact .inl hx
    · rcases HX.out.2.1 x hx with hx | hx
      · exact .inl (HL.out.sF x hx).1
      · have := HZa.out; exact .inr (by omega)
  clear HX HA HR
  by_cases he : oe = 0
  · subst he
    have hev := HEv.out
    rw [errZ] at hev
    subst hev
    have HL3 : Hid (lf2 = lfN lf) := by have := HL2.out; rw [if_pos rfl] at this; exact this.symm
    clear HL2
    obtain ⟨hod, hk0, hk8, ht12⟩ := HH.out.2 rfl
    obtain ⟨kn, rfl⟩ : ∃ n : Nat, k = n := ⟨k.toNat, by omega⟩
    have HKn : Hid (kn < 8 ∧ t.size ≤ 12 ∧ od = l ++ [⟨(kn : Int), g, t⟩]) := ⟨by omega, ht12, hod⟩
    clear hod hk0 hk8 ht12 HH
    obtain ⟨r0, r1, r2⟩ := HR1.out
    have lR1 := HR1.out.lt
    go_wp2_with fail
    refine (recBytes_c kn g t _ HKn.out.1 HKn.out.2.1).mono ?_
    rintro e w2 ⟨v8, rfl, ho8, hf8, hb⟩
    have HO8 : Hid (OwnB w2 v8 (encD ⟨(kn : Int), g, t⟩)) := ho8
    have HF8 : Hid (∀ x, v8.ownBlock = some x → w1.heap.size ≤ x) := hf8
    have HB2 : Hid (Below w1.heap.size w1 w2) := hb
    have HQ2 : Hid (Lq (fun x => S x ∨ F' x) F' w2 j b v od (flatD l) sf lf false) := HQ1.out.grown hb
    clear ho8 hf8 hb r0 r1 r2 lR1 HR1
    go_wp2_with fail
    refine (stops_c HQ2.out HLf.out.1).mono ?_
    rintro e w3 ⟨rfl, hq, hk⟩
    have hz : (lf == 0) = false := by have := HLf.out.2.1 (by first | rfl | trivial); simp [this]
    rw [hz] at hq ⊢
    have HQ3 : Hid (Lq (fun x => S x ∨ F' x) F' w3 j b v od (flatD l) sf (lfN lf) false) := hq
    have HO9 : Hid (OwnB w3 v8 (encD ⟨(kn : Int), g, t⟩)) := HO8.out.blocks (fun x hx => hk.block x (HO8.out.lt x hx) (fun hs => by have h1 := HF8.out x hx; have h2 := HQ1.out.lt x hs; omega))
    have HK3 : Hid (Kept S w w3) := (HK1.out.trans (Kept.of_below (F := S) HB2.out) (fun _ _ h => h)).trans hk (fun x hx hs => by
      rcases HS1.out x hs with h' | h'
      · exact h'
      · exact absurd hx (Nat.not_lt.2 h'))
    clear hq hk hz HQ2 HO8 HF8 HB2 HQ1
    rcases HO9.out.slice with ⟨_, h2⟩ | ⟨g8, cap8, rfl, hcap, _⟩
    · cases h2
    have a1 := HQ3.out.c1
    have lj3 : j < w3.heap.size := HQ3.out.lt j HQ3.out.sj
    obtain ⟨n8, HN8⟩ : ∃ n, Hid ((encD ⟨(kn : Int), g, t⟩).length = n) := ⟨_, rfl⟩
    rw [HN8.out] at HO9 hcap ⊢
    have HLen : Hid ((flatD l).length + (encD ⟨(kn : Int), g, t⟩).length ≤ 100000) := by
      have h1 := HLf.out.2.2
      have h2 := HKn.out.2.1
      show _ ≤ _
      rw [encD_length]
      show _ + (t.size + 2) ≤ 100000
      omega
    clear hcap
    go_upto_region 11 with fail
    have lj4 := lj3
    go_wp2_with (at_builtin; refine wp_appB _ rfl _ _ rfl v _ rfl HQ3.out.row g8 n8 cap8 _ rfl HO9.out HLen.out ?_)
    intro v' w4 hown hgrow hloc
    have HJ4 : Hid (w4.heap[j]? = w3.heap[j]?) := hgrow.out.block j lj3 (fun e => (HQ3.out.sv j e.symm).2.2 rfl)
    have HQ5 : Hid (Lq (fun x => (S x ∨ F' x) ∨ v'.ownBlock = some x) F' (w4.setCell ⟨j, 1, none⟩ v') j b v' od (flatD l ++ encD ⟨(kn : Int), g, t⟩) sf (lfN lf) false) := HQ3.out.setRow hgrow.out hown (by
      rcases hloc.out with h | h
      · exact .inl h
      · refine .inr (fun x hx => ?_)
        rw [h] at hx
        have : w3.heap.size = x := by simpa using hx
        omega)
    have HK5 : Hid (Kept S w (w4.setCell ⟨j, 1, none⟩ v')) := by
      refine setKept (HK3.out.trans (F := S) (G := fun x => v.ownBlock = some x) ⟨hgrow.out.os, hgrow.out.tape, hgrow.out.output, hgrow.out.size, fun c hc hn => hgrow.out.block c hc (fun e => hn e.symm)⟩ (fun x hx hv => ?_)) j 1 (.inl HL.out.sj) v'
      rcases HS1.out x (HQ3.out.sv x hv).1 with h' | h'
      · exact h'
      · exact absurd hx (Nat.not_lt.2 h')
    have HS5 : Hid (∀ x, ((S x ∨ F' x) ∨ v'.ownBlock = some x) → S x ∨ w.heap.size ≤ x) := fun x hx => by
      rcases hx with hx | hx
      · exact HS1.out x hx
      · rcases hloc.out with h | h
        · exact HS1.out x (HQ3.out.sv x (h ▸ hx)).1
        · rw [h] at hx
          have h1 : w3.heap.size = x := by simpa using hx
          have := HK3.out.size
          exact .inr (by omega)
    obtain ⟨p4, n4, q4, hv4⟩ : ∃ p n c, v' = .slice p n c := (sliceB hown).elim fun p h => h.elim fun c h => ⟨p, _, c, h⟩
    have d1 := (World.cell?_of_block (a := ⟨j, 1, none⟩) HJ4.out).trans HQ3.out.c1
    have d1f := (World.frozen?_of_block (a := ⟨j, 1, none⟩) HJ4.out).trans (HQ3.out.fz 1)
    subst hv4
    clear hown hgrow hloc HJ4 HQ3 HO9 a1 lj3 lj4 HK3
    go_wp2_with fail
    go_ret2
    refine ⟨rfl, HK5.out, _, ⟨F', b, .slice p4 n4 q4, ?_⟩, HS5.out⟩
    rw [HL3.out]
    refine HQ5.out.g ?_
    rw [HKn.out.2.2, flatD_snoc, List.append_nil]
  · have hev := HEv.out
    rw [errN he] at hev
    subst hev
    have HL3 : Hid (lf2 = lf) := by have := HL2.out; rw [if_neg he] at this; exact this.symm
    obtain ⟨hod, hon⟩ := HH.out.1 he
    subst hon
    have HOd : Hid (od = l) := hod
    clear HL2 HH hod
    go_wp2_with fail
    go_ret2
    refine ⟨rfl, HK1.out, _, ⟨F', b, v, ?_⟩, HS1.out⟩
    rw [HL3.out]
    exact HQ1.out.g (by rw [HOd.out, List.append_nil])
end Go.Proofs.YtpcnfoaoajfhlaaGreatDoor

namespace Go.Proofs.YtpcnfoaoajfhlaaGreatDoor
set_option linter.unusedVariables false
set_option linter.unusedSimpArgs false
open Go.RowKit

theorem lgPut_c {k : Int} {t : ByteArray} (ht : t.size ≤ maxLen) {S : Nat → Prop} {w : World} {j : Nat} {l od : List Deed} {sf : Nat} {lf on oe : Int} (h : LgAt S w j l [] sf lf false) (hl : (flatD l).length ≤ 50000) (hlf : lf ≤ 9223372036854775807) (h0 : oe = 0 → lf ≠ 0)
    (ho : putO l k t = ⟨od, on, oe⟩) (hbad : oe ≠ 0 → od = l ∧ on = 0) (hgo : oe = 0 → od = l ++ [⟨k, false, t⟩] ∧ 0 ≤ k ∧ k < 8 ∧ t.size ≤ 12) :
    Calls Tryz.prog 23 #[.pointer (some ⟨j, 0, none⟩), .int .i64 k, .string t] w fun e w' => e = .returned (.tuple #[.int .i64 on, errV oe]) ∧ LgTo S w w' j od [] sf (if oe = 0 then lfN lf else lf) false := by
  have H : Hid _ := lgChange_c k false t ht h hl hlf h0 (show doO l ⟨k, false, t⟩ = _ from ho) hbad hgo
  obtain ⟨ev, HEv⟩ : ∃ ev, Hid (errV oe = ev) := ⟨_, rfl⟩
  obtain ⟨lf2, HL2⟩ : ∃ z, Hid ((if oe = 0 then lfN lf else lf) = z) := ⟨_, rfl⟩
  rw [HEv.out, HL2.out] at H ⊢
  clear ht h hl hlf h0 ho hbad hgo
  go_enter Tryz.func23, Tryz.ntmps23
  go_wp2_with fail
  refine Calls.mono H.out ?_
  rintro e w1 ⟨rfl, ht⟩
  have HT : Hid (LgTo S w w1 j od [] sf lf2 false) := ht
  clear ht
  go_wp2_with fail
  go_ret2
  exact ⟨rfl, HT.out⟩
end Go.Proofs.YtpcnfoaoajfhlaaGreatDoor

namespace Go.Proofs.YtpcnfoaoajfhlaaGreatDoor
set_option linter.unusedVariables false
set_option linter.unusedSimpArgs false
open Go.RowKit

theorem Lq.to {S S' F' : Nat → Prop} {w w' : World} {j b' : Nat} {v' : Value} {l' : List Deed} {bs p : List Nat} {sf : Nat} {lf : Int} {st : Bool} (h : Lq S' F' w' j b' v' l' bs sf lf st) (e : bs = flatD l' ++ p) (hk : Kept S w w') (hs : ∀ x, S' x → S x ∨ w.heap.size ≤ x) : LgTo S w w' j l' p sf lf st :=
  ⟨hk, S', ⟨F', b', v', h.g e⟩, hs⟩
theorem lgSync_stopped {S : Nat → Prop} {w : World} {j : Nat} {l : List Deed} {p : List Nat} {sf : Nat} {lf : Int} (h : LgAt S w j l p sf lf true) :
    Calls Tryz.prog 24 #[.pointer (some ⟨j, 0, none⟩)] w fun e w' => e = .returned (errV 6) ∧ w' = w := by
  obtain ⟨F, b, v, h⟩ := h
  have c4 := h.c4
  rw [errN (by omega)]
  clear h
  go_enter Tryz.func24, Tryz.ntmps24
  go_wp2_with fail
  go_ret
  exact ⟨rfl, rfl⟩
theorem lgSync_stop {S : Nat → Prop} {w : World} {j : Nat} {l : List Deed} {p : List Nat} {sf : Nat} (h : LgAt S w j l p sf 0 false) :
    Calls Tryz.prog 24 #[.pointer (some ⟨j, 0, none⟩)] w fun e w' => e = .returned (errV 6) ∧ LgTo S w w' j l p sf 0 true := by
  obtain ⟨F, b, v, h⟩ := h
  have c4 := h.c4
  have HQ : Hid (Lq S F w j b v l (flatD l ++ p) sf 0 false) := h.q
  rw [errN (by omega)]
  clear h
  go_enter Tryz.func24, Tryz.ntmps24
  go_wp2_with (go_at_call 66; refine (stops_c HQ.out (by omega)).mono ?_; rintro e w1 ⟨rfl, hq, hk⟩; have HQ1 : Hid (Lq S F w1 j b v l (flatD l ++ p) sf 0 true) := hq; have HK1 : Hid (Kept S w w1) := hk; clear hq hk; rw [show ((0 : Int) == 0) = true from rfl])
  go_ret
  exact ⟨rfl, HQ1.out.to rfl HK1.out (fun x hx => .inl hx)⟩
theorem lgSync_go {S : Nat → Prop} {w : World} {j n : Nat} {l : List Deed} {p : List Nat} {sf : Nat} {lf : Int} (h : LgAt S w j l p sf lf false) (h0 : lf ≠ 0) (hlf : lf ≤ 9223372036854775807) (hn : (flatD l ++ p).length = n) :
    Calls Tryz.prog 24 #[.pointer (some ⟨j, 0, none⟩)] w fun e w' => e = .returned .nilIface ∧ LgTo S w w' j l p n (lfN lf) false := by
  obtain ⟨F, b, v, h⟩ := h
  have c4 := h.c4
  have HQ : Hid (Lq S F w j b v l (flatD l ++ p) sf lf false) := h.q
  have HN : Hid ((flatD l ++ p).length = n) := hn
  have HLf : Hid (lf ≤ 9223372036854775807 ∧ (lf == 0) = false) := ⟨hlf, by simp [h0]⟩
  obtain ⟨p4, q4, hv4⟩ := sliceB h.row
  rw [hn] at hv4
  subst hv4
  have HSj : Hid (S j) := h.sj
  clear h hn h0 hlf
  go_enter Tryz.func24, Tryz.ntmps24
  go_upto_if 10 with (go_at_call 66; refine (stops_c HQ.out HLf.out.1).mono ?_; rintro e w1 ⟨rfl, hq, hk⟩; have HQ1 : Hid (Lq S F w1 j b (.slice p4 n q4) l (flatD l ++ p) sf (lfN lf) (lf == 0)) := hq; have HK1 : Hid (Kept S w w1) := hk; clear hq hk; rw [HLf.out.2] at HQ1 ⊢; have d1 := HQ1.out.c1; have d2 := HQ1.out.c2; have df := HQ1.out.fz 2)
  go_wp2_with fail
  go_ret
  exact ⟨rfl, (HQ1.out.setSf n).to rfl (setKept HK1.out j 2 (.inl HSj.out) _) (fun x hx => .inl hx)⟩
end Go.Proofs.YtpcnfoaoajfhlaaGreatDoor
