/-
  Package log: a Put or Delete at which it stops.
-/
import Derived.Test.YtpcnfoaoajfhlaaDoorLgL
namespace Go.Proofs.YtpcnfoaoajfhlaaDoor
set_option linter.unusedVariables false
set_option linter.unusedSimpArgs false
open Go.RowKit

/-- append, not laid open: its run is then met as a fact -/
def appB (ats : Array TypeId) (ty : TypeId) (args : Array Value) : Sem Value := Builtin.append_ ats ty args
theorem appB_is (ats : Array TypeId) (ty : TypeId) (args : Array Value) : Builtin.append_ ats ty args = appB ats ty args := rfl
attribute [local go_sem ↓] appB_is
theorem run_appB (w : World) (v : Value) (out : List Nat) (hown : OwnB w v out) (g n cap : Nat) (more : List Nat) (hm : OwnB w (.slice (some ⟨g, 0, none⟩) n cap) more) (hn : more.length = n) (hl : out.length + more.length ≤ 100000) :
    ∃ v' w', (appB #[92, 92] 92 #[v, .slice (some ⟨g, 0, none⟩) n cap]).run Tryd.prog w = .ok v' w' ∧ OwnB w' v' (out ++ more) ∧ w.grownBy w' v.ownBlock ∧ (v'.ownBlock = v.ownBlock ∨ v'.ownBlock = some w.heap.size) := by
  subst hn
  obtain ⟨i0, hi0, hz0, hz1, hz2⟩ := info_parts infoB
  rcases hm.2 with ⟨he, _⟩ | ⟨g2, cap2, cur, he, _, hg, hc1, hc2, hc3, hc4⟩
  · cases he
  · obtain ⟨rfl, rfl⟩ : g = g2 ∧ cap = cap2 := by simpa using he
    have q2 : ∀ (j : Nat) (u : Value), (rowB more)[j]? = some u → w.cell? ((⟨g, 0, none⟩ : Addr).add j) = some u := fun j u hu => by
      rw [← hc4] at hu
      have hj : (cur.toList.take (more.length * 1))[j]? = some u := hu
      rw [List.getElem?_take] at hj
      split at hj
      · have hq : cur[j]? = some u := by simpa using hj
        by_cases hj0 : j = 0
        · subst hj0; simp [World.cell?, Addr.add, hg, hq]
        · simp [World.cell?, Addr.add, hj0, hg, hq]
      · cases hj
    obtain ⟨v3, w3, h1, h2, h3, _, h5⟩ := run_append_own_at (P := Tryd.prog) w 0 92 92 5 i0 _ 1 1 Tryd.underlying92 hi0 hz0 hz1 hz2 rfl (by omega) v out.length (rowB out) hown ⟨g, 0, none⟩ more.length cap (rowB more) (by rw [rowB_length]; omega) q2 (rowB_one more) (by unfold maxLen; omega) (by omega) (Nat.zero_le _)
    refine ⟨v3, w3, h1, (show World.ownsRow _ _ _ _ _ _ _ from ?_), h3, h5⟩
    rw [rowB_append, List.length_append]
    exact h2
set_option maxRecDepth 100000 in
set_option maxHeartbeats 8000000 in
theorem change_stop (k : Int) (g : Bool) (t : ByteArray) (ht : t.size ≤ maxLen) {S : Nat → Prop} {w : World} {j : Nat} {l od : List Deed} {sf : Nat} {on : Int} (h : LgAt S w j l [] sf 0 false) (hl : (flatD l).length ≤ 50000)
    (hfit : Fits l) (hd : ∀ d ∈ l, d.text.size ≤ 12) (hk8 : ∀ d ∈ l, 0 ≤ d.key ∧ d.key < 8)
    (ho : doO l ⟨k, g, t⟩ = ⟨od, on, 0⟩) (hgo : 0 ≤ k ∧ k < 8 ∧ t.size ≤ 12) :
    Calls Tryd.prog 48 #[.pointer (some ⟨j, 0, none⟩), .agg #[.int .i64 k, .bool g, .string t]] w fun e w' => e = .returned (.tuple #[.int .i64 0, errV 6]) ∧ LgTo S w w' j l ((encD ⟨k, g, t⟩).take ((t.size + 2) / 2)) sf 0 true := by
  obtain ⟨F, b, v, h⟩ := h
  have HL : Hid (Lg S F w j b v l [] sf 0 false) := h
  have HO : Hid (doO l ⟨k, g, t⟩ = ⟨od, on, 0⟩) := ho
  have HT : Hid (t.size ≤ maxLen) := ht
  have HH : Hid (0 ≤ k ∧ k < 8 ∧ t.size ≤ 12) := hgo
  have HLf : Hid ((flatD l).length ≤ 50000 ∧ Fits l ∧ (∀ d ∈ l, d.text.size ≤ 12) ∧ ∀ d ∈ l, 0 ≤ d.key ∧ d.key < 8) := ⟨hl, hfit, hd, hk8⟩
  rw [errN (by omega)]
  have c4 := h.c4
  have lj : j < w.heap.size := h.lt j h.sj
  have HA : Hid (Lg S F (w.alloc (.cells #[.int .i64 k, .bool g, .string t] 97)) j b v l [] sf 0 false) := h.grown ((Below.refl _ _).alloc (Nat.le_refl _) _)
  have HR : Hid (BoxR (w.alloc (.cells #[.int .i64 k, .bool g, .string t] 97)) w.heap.size k g t) := boxR_new w k g t
  have HBa : Hid (Below w.heap.size w (w.alloc (.cells #[.int .i64 k, .bool g, .string t] 97))) := (Below.refl _ _).alloc (Nat.le_refl _) _
  have HZa : Hid ((w.alloc (.cells #[.int .i64 k, .bool g, .string t] 97)).heap.size = w.heap.size + 1) := by show _ = _; simp
  clear h ho ht hgo hl hfit hd hk8
  go_enter Tryd.func48, Tryd.ntmps48
  go_upto_region 3 with fail
  obtain ⟨wa, HWa⟩ : ∃ wa, wa = w.alloc (.cells #[.int .i64 k, .bool g, .string t] 97) := ⟨_, rfl⟩
  rw [← HWa] at HA HR HBa HZa ⊢
  obtain ⟨R, HRr⟩ : ∃ R, R = w.heap.size := ⟨_, rfl⟩
  have HRz : Hid (R = w.heap.size) := HRr
  rw [← HRr] at HR ⊢
  clear HWa HRr c4 lj
  have a0 := HA.out.c0
  have lj : j < wa.heap.size := HA.out.lt j HA.out.sj
  obtain ⟨r0, r1, r2⟩ := HR.out
  have lR := HR.out.lt
  go_cut [6, 7] (fun c6 c7 wd => c6 = .int .i64 on ∧ c7 = .nilIface ∧ ∃ F', Hid (StoreIs wd b od F' ∧ (∀ c, F' c → F c ∨ wa.heap.size ≤ c) ∧ Kept F wa wd))
  case first =>
    refine wp_region_noPanic ?_
    go_region_with (go_at_call 72; refine Calls.mono (do_c b k g t l F _ HT.out (HA.out.sto.below (by go_grown))) ?_; rw [HO.out]; rintro e w1 ⟨rfl, F', hs, hf, hk⟩; rw [errZ]; have HX : Hid (∃ F', StoreIs w1 b od F' ∧ (∀ c, F' c → F c ∨ wa.heap.size ≤ c) ∧ Kept F wa w1) := ⟨F', hs, hf, ⟨hk.os, hk.tape, hk.output, hk.size, hk.block⟩⟩; clear hs hf hk)
    all_goals refine NoPanic.normal ?_
    all_goals go_wp2_with fail
    all_goals go_meet
    all_goals exact ⟨rfl, rfl, HX.out⟩
  case rest =>
  obtain ⟨h6, h7, F', HX⟩ := hcut
  obtain ⟨w1, hren⟩ : ∃ x, x = wc := ⟨_, rfl⟩
  subst hren
  subst h6 h7
  clear a0 r0 r1 r2
  have HQ1 : Hid (Lq (fun x => S x ∨ F' x) F' w1 j b v od (flatD l) sf 0 false) := by
    have h := HA.out.q.store HX.out.1 HX.out.2.1 HX.out.2.2
    rw [List.append_nil] at h
    exact h
  have HR1 : Hid (BoxR w1 R k g t) := HR.out.of_block (HX.out.2.2.block R lR (fun hf => by have h1 := HL.out.lt R (HL.out.sF R hf).1; have h2 := HRz.out; omega))
  have HK1 : Hid (Kept S w w1) := (Kept.of_below (F := S) HBa.out).trans HX.out.2.2 (fun x _ hx => (HL.out.sF x hx).1)
  have HS1 : Hid (∀ x, (S x ∨ F' x) → S x ∨ w.heap.size ≤ x) := fun x hx => by
    rcases hx with hx | hx
    · exact .inl hx
    · rcases HX.out.2.1 x hx with hx | hx
      · exact .inl (HL.out.sF x hx).1
      · have := HZa.out; exact .inr (by omega)
  clear HX HA HR
  obtain ⟨hk0, hk8, ht12⟩ := HH.out
  obtain ⟨kn, rfl⟩ : ∃ n : Nat, k = n := ⟨k.toNat, by omega⟩
  have HKn : Hid (kn < 8 ∧ t.size ≤ 12) := ⟨by omega, ht12⟩
  clear hk0 hk8 ht12 HH
  obtain ⟨r0, r1, r2⟩ := HR1.out
  have lR1 := HR1.out.lt
  go_wp2_with fail
  refine (recBytes_c kn g t _ HKn.out.1 HKn.out.2).mono ?_
  rintro e w2 ⟨v8, rfl, ho8, hf8, hb⟩
  have HO8 : Hid (OwnB w2 v8 (encD ⟨(kn : Int), g, t⟩)) := ho8
  have HF8 : Hid (∀ x, v8.ownBlock = some x → w1.heap.size ≤ x) := hf8
  have HB2 : Hid (Below w1.heap.size w1 w2) := hb
  have HQ2 : Hid (Lq (fun x => S x ∨ F' x) F' w2 j b v od (flatD l) sf 0 false) := HQ1.out.grown hb
  clear ho8 hf8 hb r0 r1 r2 lR1 HR1
  go_wp2_with fail
  refine (stops_c HQ2.out (by omega)).mono ?_
  rintro e w3 ⟨rfl, hq, hk⟩
  rw [show ((0 : Int) == 0) = true from rfl] at hq ⊢
  have HQ3 : Hid (Lq (fun x => S x ∨ F' x) F' w3 j b v od (flatD l) sf 0 true) := hq
  have HO9 : Hid (OwnB w3 v8 (encD ⟨(kn : Int), g, t⟩)) := HO8.out.blocks (fun x hx => hk.block x (HO8.out.lt x hx) (fun hs => by have h1 := HF8.out x hx; have h2 := HQ1.out.lt x hs; omega))
  have HK3 : Hid (Kept S w w3) := (HK1.out.trans (Kept.of_below (F := S) HB2.out) (fun _ _ h => h)).trans hk (fun x hx hs => by
    rcases HS1.out x hs with h' | h'
    · exact h'
    · exact absurd hx (Nat.not_lt.2 h'))
  have HF9 : Hid (∀ x, v8.ownBlock = some x → x ≠ j) := fun x hx e => by
    have h1 := HF8.out x hx
    have h2 := HQ1.out.lt j HQ1.out.sj
    omega
  clear hq hk HQ2 HO8 HF8 HB2 HQ1
  rcases HO9.out.slice with ⟨_, h2⟩ | ⟨g8, cap8, rfl, hcap, hcm8⟩
  · cases h2
  obtain ⟨pv, cv, rfl⟩ := sliceB HQ3.out.row
  have a1 := HQ3.out.c1
  have lj3 : j < w3.heap.size := HQ3.out.lt j HQ3.out.sj
  have HBy : Hid (BytesAt w3 (.slice pv (flatD l).length cv) (flatD l ++ [])) := by
    have h := HQ3.out.row.bytes (by have := HLf.out.1; omega)
    rw [List.append_nil]
    exact h
  have HLt : Hid (∀ x, (Value.slice pv (flatD l).length cv).ownBlock = some x → x < w3.heap.size) := HQ3.out.row.lt
  obtain ⟨nv, HNv⟩ : ∃ n, Hid ((flatD l).length = n) := ⟨_, rfl⟩
  rw [HNv.out] at HBy HLt a1 HQ3
  obtain ⟨n8, HN8⟩ : ∃ n, Hid ((encD ⟨(kn : Int), g, t⟩).length = n) := ⟨_, rfl⟩
  rw [HN8.out] at HO9 hcap ⊢
  unfold maxLen at hcm8
  go_wp2_with fail
  refine (replay_c pv nv cv l [] HLf.out.2.1 HLf.out.2.2.1 HLf.out.2.2.2 part_nil.no (fun x hx => by cases hx) w3 HBy.out HLt.out).mono ?_
  rintro e w4 ⟨b2, rfl, ⟨F2, hs2, hf2⟩, hb4⟩
  have HQ4 : Hid (Lq (fun x => S x ∨ F' x) F' w4 j b (.slice pv nv cv) od (flatD l) sf 0 true) := HQ3.out.grown hb4
  have HO4 : Hid (OwnB w4 (.slice (some ⟨g8, 0, none⟩) n8 cap8) (encD ⟨(kn : Int), g, t⟩)) := HO9.out.below hb4
  have HS2 : Hid (StoreIs w4 b2 l F2 ∧ ∀ x, F2 x → w3.heap.size ≤ x) := ⟨hs2, hf2⟩
  have HK4 : Hid (Kept S w w4) := HK3.out.trans (Kept.of_below (F := S) hb4) (fun _ _ h => h)
  have d0 := HQ4.out.c0
  have df := HQ4.out.fz 0
  have lj4 : j < w4.heap.size := HQ4.out.lt j HQ4.out.sj
  have HZ3 : Hid (w.heap.size ≤ w3.heap.size) := HK3.out.size
  have HLj : Hid (j < w3.heap.size ∧ ∀ x, (S x ∨ F' x) → x < w3.heap.size) := ⟨lj3, HQ3.out.lt⟩
  clear hs2 hf2 hb4 HQ3 HO9 HK3 a1 HBy
  go_upto_region 9 with fail
  obtain ⟨w5, HW5⟩ : ∃ z, z = w4.setCell ⟨j, 0, none⟩ (.pointer (some ⟨b2, 0, none⟩)) := ⟨_, rfl⟩
  rw [← HW5]
  have HQ5 : Hid (Lq (fun x => (S x ∨ F' x) ∨ F2 x) F2 w5 j b2 (.slice pv nv cv) l (flatD l) sf 0 true) := by
    rw [HW5]
    refine HQ4.out.set 0 _ (World.cell?_setCell_same _ _ _ HQ4.out.c0) ((World.cell?_setCell_other _ _ _ _ (by simp)).trans HQ4.out.c1) ((World.cell?_setCell_other _ _ _ _ (by simp)).trans HQ4.out.c2) ((World.cell?_setCell_other _ _ _ _ (by simp)).trans HQ4.out.c3) ((World.cell?_setCell_other _ _ _ _ (by simp)).trans HQ4.out.c4) HS2.out.1 HQ4.out.row (.inl HQ4.out.sj) (fun x hx => ⟨.inr hx, fun e => ?_⟩) (fun x hx => ⟨.inl (HQ4.out.sv x hx).1, fun hf => ?_, (HQ4.out.sv x hx).2.2⟩) (fun x hx => ?_)
    · have h1 := HS2.out.2 x hx
      have h2 := HLj.out.1
      omega
    · have h1 := HS2.out.2 x hf
      have h2 := HLt.out x hx
      omega
    · rcases hx with hx | hx
      · exact HQ4.out.lt x hx
      · exact HS2.out.1.2.2.2.2.1 x hx
  have HO5 : Hid (OwnB w5 (.slice (some ⟨g8, 0, none⟩) n8 cap8) (encD ⟨(kn : Int), g, t⟩)) := by
    rw [HW5]
    refine HO4.out.blocks (fun x hx => Below.heap_setCell _ _ _ x (HF9.out x hx))
  have HK5 : Hid (Kept S w w5) := by rw [HW5]; exact setKept HK4.out j 0 (.inl HL.out.sj) _
  clear HW5 HQ4 HO4 HK4 d0 df lj4
  obtain ⟨i0, hi0, hz0, hz1, hz2⟩ := info_parts infoB
  obtain ⟨h8, HH8⟩ : ∃ h8, Hid (n8 / 2 = h8) := ⟨_, rfl⟩
  have hh8 : (n8 : Int) / 2 = (h8 : Int) := by have := HH8.out; omega
  have hh9 : h8 ≤ cap8 := by have := HH8.out; omega
  have HMore : Hid (OwnB w5 (.slice (some ⟨g8, 0, none⟩) h8 cap8) ((encD ⟨(kn : Int), g, t⟩).take h8)) := HO5.out.take h8 (by rw [HN8.out]; have := HH8.out; omega)
  have HLn : Hid ((flatD l).length + h8 ≤ 100000 ∧ ((encD ⟨(kn : Int), g, t⟩).take h8).length = h8) := by
    have h1 := HLf.out.1
    have h2 := HKn.out.2
    have h3 := HN8.out
    have h4 := HH8.out
    rw [encD_length] at h3
    dsimp only at h3
    refine ⟨by omega, ?_⟩
    rw [List.length_take, encD_length]
    show min h8 (t.size + 2) = h8
    omega
  obtain ⟨v', w6, hrun, hown, hgrow, hat⟩ := run_appB w5.drew (.slice pv nv cv) (flatD l) (HQ5.out.row.blocks (fun _ _ => rfl)) g8 h8 cap8 ((encD ⟨(kn : Int), g, t⟩).take h8) (HMore.out.blocks (fun _ _ => rfl)) HLn.out.2 (by rw [HLn.out.2]; exact HLn.out.1)
  obtain ⟨p6, n6, q6, hv6⟩ : ∃ p n c, v' = .slice p n c := (sliceB hown).elim fun p h => h.elim fun c h => ⟨p, _, c, h⟩
  subst hv6
  have hg5 : w5.grownBy w6 (Value.slice pv nv cv).ownBlock := ⟨hgrow.os, hgrow.tape, hgrow.output, hgrow.size, hgrow.block⟩
  have HQ7 : Hid (Lq (fun x => ((S x ∨ F' x) ∨ F2 x) ∨ (Value.slice p6 n6 q6).ownBlock = some x) F2 (w6.setCell ⟨j, 1, none⟩ (.slice p6 n6 q6)) j b2 (.slice p6 n6 q6) l (flatD l ++ (encD ⟨(kn : Int), g, t⟩).take h8) sf 0 true) := HQ5.out.setRow hg5 hown (by
    rcases hat with h | h
    · exact .inl h
    · refine .inr (fun x hx => ?_)
      rw [h] at hx
      have : w5.drew.heap.size = x := by simpa using hx
      exact Nat.le_of_eq this)
  have hj5 : j < w5.heap.size := HQ5.out.lt j HQ5.out.sj
  have hj6 : w6.heap[j]? = w5.heap[j]? := hg5.block j hj5 (fun e => (HQ5.out.sv j e.symm).2.2 rfl)
  have e1 := HQ5.out.c1
  have e6 := (World.cell?_of_block (a := ⟨j, 1, none⟩) hj6).trans HQ5.out.c1
  have e6f := (World.frozen?_of_block (a := ⟨j, 1, none⟩) hj6).trans (HQ5.out.fz 1)
  have HS5 : Hid (∀ x, (((S x ∨ F' x) ∨ F2 x) ∨ (Value.slice p6 n6 q6).ownBlock = some x) → S x ∨ w.heap.size ≤ x) := fun x hx => by
    have h5 : ∀ x, ((S x ∨ F' x) ∨ F2 x) → S x ∨ w.heap.size ≤ x := fun x hx => by
      rcases hx with hx | hx
      · exact HS1.out x hx
      · have h1 := HS2.out.2 x hx
        have h2 := HZ3.out
        exact .inr (by omega)
    rcases hx with hx | hx
    · exact h5 x hx
    · rcases hat with h | h
      · exact h5 x (HQ5.out.sv x (h ▸ hx)).1
      · rw [h] at hx
        have h1 : w5.drew.heap.size = x := by simpa using hx
        have h2 : w.heap.size ≤ w5.heap.size := HK5.out.size
        exact .inr (by rw [← h1]; exact h2)
  have HK7 : Hid (Kept S w (w6.setCell ⟨j, 1, none⟩ (.slice p6 n6 q6))) := by
    refine setKept (HK5.out.trans (F := S) (G := fun x => (Value.slice pv nv cv).ownBlock = some x) ⟨hg5.os, hg5.tape, hg5.output, hg5.size, fun c hc hn => hg5.block c hc (fun e => hn e.symm)⟩ (fun x hx hv => ?_)) j 1 (.inl HL.out.sj) _
    rcases HQ5.out.sv x hv with ⟨h1, _, _⟩
    rcases h1 with h1 | h1
    · rcases HS1.out x h1 with h' | h'
      · exact h'
      · exact absurd hx (Nat.not_lt.2 h')
    · have h2 := HS2.out.2 x h1
      have h3 := HLt.out x hv
      omega
  clear hown hgrow hat hg5 hj6 HQ5 HO5 HK5 HMore
  refine wp_region_noPanic ?_
  go_region
  all_goals refine NoPanic.normal ?_
  all_goals go_wp2_with fail
  all_goals go_ret2
  all_goals refine ⟨rfl, HQ7.out.to (p := (encD ⟨(kn : Int), g, t⟩).take ((t.size + 2) / 2)) ?_ HK7.out HS5.out⟩
  all_goals have h1 := HN8.out
  all_goals rw [encD_length] at h1
  all_goals have h2 : (t.size + 2) / 2 = h8 := (by rw [← HH8.out, ← h1])
  all_goals rw [h2]
end Go.Proofs.YtpcnfoaoajfhlaaDoor
