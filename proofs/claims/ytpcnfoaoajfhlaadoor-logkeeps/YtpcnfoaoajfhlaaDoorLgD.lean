/-
  Package log: a Put or Delete where it does not stop.
-/
import Derived.Test.YtpcnfoaoajfhlaaDoorLgC
namespace Go.Proofs.YtpcnfoaoajfhlaaDoor
set_option linter.unusedVariables false
set_option linter.unusedSimpArgs false
open Go.RowKit

theorem errZ : errV 0 = .nilIface := by rw [errV, if_pos rfl]
theorem errN {n : Int} (h : n ≠ 0) : errV n = .iface 71 (.int .i64 n) := by rw [errV, if_neg h]
/-- a record in a box -/
structure BoxR (w : World) (b : Nat) (k : Int) (g : Bool) (t : ByteArray) : Prop where
  c0 : w.cell? ⟨b, 0, none⟩ = some (.int .i64 k)
  c1 : w.cell? ⟨b, 1, none⟩ = some (.bool g)
  c2 : w.cell? ⟨b, 2, none⟩ = some (.string t)
theorem BoxR.of_block {w w' : World} {b : Nat} {k : Int} {g : Bool} {t : ByteArray} (h : BoxR w b k g t) (hb : w'.heap[b]? = w.heap[b]?) : BoxR w' b k g t :=
  ⟨(World.cell?_of_block (a := ⟨b, 0, none⟩) hb).trans h.c0, (World.cell?_of_block (a := ⟨b, 1, none⟩) hb).trans h.c1, (World.cell?_of_block (a := ⟨b, 2, none⟩) hb).trans h.c2⟩
theorem BoxR.lt {w : World} {b : Nat} {k : Int} {g : Bool} {t : ByteArray} (h : BoxR w b k g t) : b < w.heap.size := World.block_lt_of_cell? w _ h.c0
theorem boxR_new (w : World) (k : Int) (g : Bool) (t : ByteArray) : BoxR (w.alloc (.cells #[.int .i64 k, .bool g, .string t] 97)) w.heap.size k g t := ⟨by simp, by simp, by simp⟩
theorem stopped_c (r : Int) (g : Bool) (t : ByteArray) {S : Nat → Prop} {w : World} {j : Nat} {l : List Deed} {p : List Nat} {sf : Nat} {lf : Int} (h : LgAt S w j l p sf lf true) :
    Calls Tryd.prog 48 #[.pointer (some ⟨j, 0, none⟩), .agg #[.int .i64 r, .bool g, .string t]] w fun e w' => e = .returned (.tuple #[.int .i64 0, errV 6]) ∧ LgTo S w w' j l p sf lf true := by
  have HL : Hid (LgAt S w j l p sf lf true) := h
  obtain ⟨F, b, v, h⟩ := h
  have c4 := h.c4
  have lj : j < w.heap.size := h.lt j h.sj
  rw [errN (by omega)]
  clear h
  go_enter Tryd.func48, Tryd.ntmps48
  go_wp2_with fail
  go_ret2
  exact ⟨rfl, HL.out.to ((Below.refl _ _).alloc (Nat.le_refl _) _)⟩
set_option maxRecDepth 100000 in
set_option maxHeartbeats 8000000 in
theorem lgChange_c (k : Int) (g : Bool) (t : ByteArray) (ht : t.size ≤ maxLen) {S : Nat → Prop} {w : World} {j : Nat} {l od : List Deed} {sf : Nat} {lf on oe : Int} (h : LgAt S w j l [] sf lf false) (hl : (flatD l).length ≤ 50000) (hlf : lf ≤ 9223372036854775807) (h0 : oe = 0 → lf ≠ 0)
    (ho : doO l ⟨k, g, t⟩ = ⟨od, on, oe⟩) (hbad : oe ≠ 0 → od = l ∧ on = 0) (hgo : oe = 0 → od = l ++ [⟨k, g, t⟩] ∧ 0 ≤ k ∧ k < 8 ∧ t.size ≤ 12) :
    Calls Tryd.prog 48 #[.pointer (some ⟨j, 0, none⟩), .agg #[.int .i64 k, .bool g, .string t]] w fun e w' => e = .returned (.tuple #[.int .i64 on, errV oe]) ∧ LgTo S w w' j od [] sf (if oe = 0 then lfN lf else lf) false := by
  obtain ⟨F, b, v, h⟩ := h
  have HL : Hid (Lg S F w j b v l [] sf lf false) := h
  have HO : Hid (doO l ⟨k, g, t⟩ = ⟨od, on, oe⟩) := ho
  have HT : Hid (t.size ≤ maxLen) := ht
  have HH : Hid ((oe ≠ 0 → od = l ∧ on = 0) ∧ (oe = 0 → od = l ++ [⟨k, g, t⟩] ∧ 0 ≤ k ∧ k < 8 ∧ t.size ≤ 12)) := ⟨hbad, hgo⟩
  have HLf : Hid (lf ≤ 9223372036854775807 ∧ (oe = 0 → lf ≠ 0) ∧ (flatD l).length ≤ 50000) := ⟨hlf, h0, hl⟩
  have c4 := h.c4
  have lj : j < w.heap.size := h.lt j h.sj
  have HA : Hid (Lg S F (w.alloc (.cells #[.int .i64 k, .bool g, .string t] 97)) j b v l [] sf lf false) := h.grown ((Below.refl _ _).alloc (Nat.le_refl _) _)
  have HR : Hid (BoxR (w.alloc (.cells #[.int .i64 k, .bool g, .string t] 97)) w.heap.size k g t) := boxR_new w k g t
  have HBa : Hid (Below w.heap.size w (w.alloc (.cells #[.int .i64 k, .bool g, .string t] 97))) := (Below.refl _ _).alloc (Nat.le_refl _) _
  have HZa : Hid ((w.alloc (.cells #[.int .i64 k, .bool g, .string t] 97)).heap.size = w.heap.size + 1) := by show _ = _; simp
  obtain ⟨ev, HEv⟩ : ∃ ev, Hid (errV oe = ev) := ⟨_, rfl⟩
  obtain ⟨lf2, HL2⟩ : ∃ z, Hid ((if oe = 0 then lfN lf else lf) = z) := ⟨_, rfl⟩
  rw [HEv.out, HL2.out]
  clear h ho ht hbad hgo hlf h0 hl
  go_enter Tryd.func48, Tryd.ntmps48
  go_upto_region 3 with fail
  obtain ⟨wa, HWa⟩ : ∃ wa, wa = w.alloc (.cells #[.int .i64 k, .bool g, .string t] 97) := ⟨_, rfl⟩
  rw [← HWa] at HA HR HBa HZa ⊢
  obtain ⟨R, HRr⟩ : ∃ R, R = w.heap.size := ⟨_, rfl⟩
  have HRz : Hid (R = w.heap.size) := HRr
  rw [← HRr] at HR ⊢
  clear HWa HRr c4 lj
  have a0 := HA.out.c0
  have lj : j < wa.heap.size := HA.out.lt j HA.out.sj
  obtain ⟨r0, r1, r2⟩ := HR.out
  have lR := HR.out.lt
  go_cut [6, 7] (fun c6 c7 wd => c6 = .int .i64 on ∧ c7 = ev ∧ ∃ F', Hid (StoreIs wd b od F' ∧ (∀ c, F' c → F c ∨ wa.heap.size ≤ c) ∧ Kept F wa wd))
  case first =>
    refine wp_region_noPanic ?_
    go_region_with (go_at_call 72; refine Calls.mono (do_c b k g t l F _ HT.out (HA.out.sto.below (by go_grown))) ?_; rw [HO.out]; rintro e w1 ⟨rfl, F', hs, hf, hk⟩; rw [HEv.out]; have HX : Hid (∃ F', StoreIs w1 b od F' ∧ (∀ c, F' c → F c ∨ wa.heap.size ≤ c) ∧ Kept F wa w1) := ⟨F', hs, hf, ⟨hk.os, hk.tape, hk.output, hk.size, hk.block⟩⟩; clear hs hf hk)
    all_goals refine NoPanic.normal ?_
    all_goals go_wp2_with fail
    all_goals go_meet
    all_goals exact ⟨rfl, rfl, HX.out⟩
  case rest =>
  obtain ⟨h6, h7, F', HX⟩ := hcut
  obtain ⟨w1, hren⟩ : ∃ x, x = wc := ⟨_, rfl⟩
  subst hren
  subst h6 h7
  clear a0 r0 r1 r2
  have HQ1 : Hid (Lq (fun x => S x ∨ F' x) F' w1 j b v od (flatD l) sf lf false) := by
    have h := HA.out.q.store HX.out.1 HX.out.2.1 HX.out.2.2
    rw [List.append_nil] at h
    exact h
  have HR1 : Hid (BoxR w1 R k g t) := HR.out.of_block (HX.out.2.2.block R lR (fun hf => by have h1 := HL.out.lt R (HL.out.sF R hf).1; have h2 := HRz.out; omega))
  have HK1 : Hid (Kept S w w1) := (Kept.of_below (F := S) HBa.out).trans HX.out.2.2 (fun x _ hx => (HL.out.sF x hx).1)
  have HS1 : Hid (∀ x, (S x ∨ F' x) → S x ∨ w.heap.size ≤ x) := fun x hx => by
    rcases hx with hx | hx
    · exact .inl hx
    · rcases HX.out.2.1 x hx with hx | hx
      · exact .inl (HL.out.sF x hx).1
      · have := HZa.out; exact .inr (by omega)
  clear HX HA HR
  by_cases he : oe = 0
  · subst he
    have hev := HEv.out
    rw [errZ] at hev
    subst hev
    have HL3 : Hid (lf2 = lfN lf) := by have := HL2.out; rw [if_pos rfl] at this; exact this.symm
    clear HL2
    obtain ⟨hod, hk0, hk8, ht12⟩ := HH.out.2 rfl
    obtain ⟨kn, rfl⟩ : ∃ n : Nat, k = n := ⟨k.toNat, by omega⟩
    have HKn : Hid (kn < 8 ∧ t.size ≤ 12 ∧ od = l ++ [⟨(kn : Int), g, t⟩]) := ⟨by omega, ht12, hod⟩
    clear hod hk0 hk8 ht12 HH
    obtain ⟨r0, r1, r2⟩ := HR1.out
    have lR1 := HR1.out.lt
    go_wp2_with fail
    refine (recBytes_c kn g t _ HKn.out.1 HKn.out.2.1).mono ?_
    rintro e w2 ⟨v8, rfl, ho8, hf8, hb⟩
    have HO8 : Hid (OwnB w2 v8 (encD ⟨(kn : Int), g, t⟩)) := ho8
    have HF8 : Hid (∀ x, v8.ownBlock = some x → w1.heap.size ≤ x) := hf8
    have HB2 : Hid (Below w1.heap.size w1 w2) := hb
    have HQ2 : Hid (Lq (fun x => S x ∨ F' x) F' w2 j b v od (flatD l) sf lf false) := HQ1.out.grown hb
    clear ho8 hf8 hb r0 r1 r2 lR1 HR1
    go_wp2_with fail
    refine (stops_c HQ2.out HLf.out.1).mono ?_
    rintro e w3 ⟨rfl, hq, hk⟩
    have hz : (lf == 0) = false := by have := HLf.out.2.1 (by first | rfl | trivial); simp [this]
    rw [hz] at hq ⊢
    have HQ3 : Hid (Lq (fun x => S x ∨ F' x) F' w3 j b v od (flatD l) sf (lfN lf) false) := hq
    have HO9 : Hid (OwnB w3 v8 (encD ⟨(kn : Int), g, t⟩)) := HO8.out.blocks (fun x hx => hk.block x (HO8.out.lt x hx) (fun hs => by have h1 := HF8.out x hx; have h2 := HQ1.out.lt x hs; omega))
    have HK3 : Hid (Kept S w w3) := (HK1.out.trans (Kept.of_below (F := S) HB2.out) (fun _ _ h => h)).trans hk (fun x hx hs => by
      rcases HS1.out x hs with h' | h'
      · exact h'
      · exact absurd hx (Nat.not_lt.2 h'))
    clear hq hk hz HQ2 HO8 HF8 HB2 HQ1
    rcases HO9.out.slice with ⟨_, h2⟩ | ⟨g8, cap8, rfl, hcap, _⟩
    · cases h2
    have a1 := HQ3.out.c1
    have lj3 : j < w3.heap.size := HQ3.out.lt j HQ3.out.sj
    obtain ⟨n8, HN8⟩ : ∃ n, Hid ((encD ⟨(kn : Int), g, t⟩).length = n) := ⟨_, rfl⟩
    rw [HN8.out] at HO9 hcap ⊢
    have HLen : Hid ((flatD l).length + (encD ⟨(kn : Int), g, t⟩).length ≤ 100000) := by
      have h1 := HLf.out.2.2
      have h2 := HKn.out.2.1
      show _ ≤ _
      rw [encD_length]
      show _ + (t.size + 2) ≤ 100000
      omega
    clear hcap
    go_upto_region 11 with fail
    have lj4 := lj3
    go_wp2_with (at_builtin; refine wp_appB _ rfl _ _ rfl v _ rfl HQ3.out.row g8 n8 cap8 _ rfl HO9.out HLen.out ?_)
    intro v' w4 hown hgrow hloc
    have HJ4 : Hid (w4.heap[j]? = w3.heap[j]?) := hgrow.out.block j lj3 (fun e => (HQ3.out.sv j e.symm).2.2 rfl)
    have HQ5 : Hid (Lq (fun x => (S x ∨ F' x) ∨ v'.ownBlock = some x) F' (w4.setCell ⟨j, 1, none⟩ v') j b v' od (flatD l ++ encD ⟨(kn : Int), g, t⟩) sf (lfN lf) false) := HQ3.out.setRow hgrow.out hown (by
      rcases hloc.out with h | h
      · exact .inl h
      · refine .inr (fun x hx => ?_)
        rw [h] at hx
        have : w3.heap.size = x := by simpa using hx
        omega)
    have HK5 : Hid (Kept S w (w4.setCell ⟨j, 1, none⟩ v')) := by
      refine setKept (HK3.out.trans (F := S) (G := fun x => v.ownBlock = some x) ⟨hgrow.out.os, hgrow.out.tape, hgrow.out.output, hgrow.out.size, fun c hc hn => hgrow.out.block c hc (fun e => hn e.symm)⟩ (fun x hx hv => ?_)) j 1 (.inl HL.out.sj) v'
      rcases HS1.out x (HQ3.out.sv x hv).1 with h' | h'
      · exact h'
      · exact absurd hx (Nat.not_lt.2 h')
    have HS5 : Hid (∀ x, ((S x ∨ F' x) ∨ v'.ownBlock = some x) → S x ∨ w.heap.size ≤ x) := fun x hx => by
      rcases hx with hx | hx
      · exact HS1.out x hx
      · rcases hloc.out with h | h
        · exact HS1.out x (HQ3.out.sv x (h ▸ hx)).1
        · rw [h] at hx
          have h1 : w3.heap.size = x := by simpa using hx
          have := HK3.out.size
          exact .inr (by omega)
    obtain ⟨p4, n4, q4, hv4⟩ : ∃ p n c, v' = .slice p n c := (sliceB hown).elim fun p h => h.elim fun c h => ⟨p, _, c, h⟩
    have d1 := (World.cell?_of_block (a := ⟨j, 1, none⟩) HJ4.out).trans HQ3.out.c1
    have d1f := (World.frozen?_of_block (a := ⟨j, 1, none⟩) HJ4.out).trans (HQ3.out.fz 1)
    subst hv4
    clear hown hgrow hloc HJ4 HQ3 HO9 a1 lj3 lj4 HK3
    go_wp2_with fail
    go_ret2
    refine ⟨rfl, HK5.out, _, ⟨F', b, .slice p4 n4 q4, ?_⟩, HS5.out⟩
    rw [HL3.out]
    refine HQ5.out.g ?_
    rw [HKn.out.2.2, flatD_snoc, List.append_nil]
  · have hev := HEv.out
    rw [errN he] at hev
    subst hev
    have HL3 : Hid (lf2 = lf) := by have := HL2.out; rw [if_neg he] at this; exact this.symm
    obtain ⟨hod, hon⟩ := HH.out.1 he
    subst hon
    have HOd : Hid (od = l) := hod
    clear HL2 HH hod
    go_wp2_with fail
    go_ret2
    refine ⟨rfl, HK1.out, _, ⟨F', b, v, ?_⟩, HS1.out⟩
    rw [HL3.out]
    exact HQ1.out.g (by rw [HOd.out, List.append_nil])
end Go.Proofs.YtpcnfoaoajfhlaaDoor
