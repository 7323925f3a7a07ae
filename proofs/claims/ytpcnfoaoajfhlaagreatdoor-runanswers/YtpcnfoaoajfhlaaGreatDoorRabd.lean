/-
  Package run by its contracts: take, of one line.
  Package run by its contracts: answer, of one line.
  The answers to a beginning are a beginning of the answers, on lists.
  Package run by its contracts: the iterator over the lines of a text.
  Package run by its contracts: Run.
-/
import Derived.Test.YtpcnfoaoajfhlaaGreatDoorRabc
import Derived.Laws.EntriesVeiled
import Derived.Test.YtpcnfoaoajfhlaaGreatDoorRabb
import Derived.Laws.BytesArg
import Derived.LoopIn
import Derived.LoopNIn
import Derived.OwnWalkIn
import Derived.RangeFuncBound
import Derived.RangeFuncCalls
import Derived.RangeFuncLeaves
import Derived.RangeFuncNested
import Derived.Shelf.Abstract
import Derived.Shelf.RegionOpen
import Derived.Sort.QuietIn
import Derived.WalkKit
namespace Go.Proofs.YtpcnfoaoajfhlaaGreatDoor
set_option linter.unusedVariables false
set_option linter.unusedSimpArgs false
set_option linter.unusedVariables false
set_option linter.unusedSimpArgs false
open Go.RowKit

theorem op_le (o : Op) : opN o ≤ 3 ∧ opW o ≤ 1 := by
  rcases o with _ | _ | _ | _ | _ | _ | _ <;> simp [opN, opW]
/-- what take tells -/
def TakeTo (S : Nat → Prop) (w : World) (d m r : Nat) (l : List Deed) (cs : List (List En)) : Option Tell → Ending → World → Prop
  | none, e, w' => e = .returned (.tuple #[.string ⟨#[]⟩, badV]) ∧ DkTo S w w' d m r l cs
  | some t, e, w' => DoTo S w d m r t e w'
theorem split_len (s : ByteArray) : (splitS s).length = Lib.countB s blankS + 1 := Lib.splitB_all blankS (by decide) 0 _ s rfl
theorem cutL_size (c : UInt8) : ∀ (s : List UInt8), ∀ x ∈ cutL c s, x.length ≤ s.length
  | [], x, h => by
    have : x = [] := by simpa [cutL] using h
    subst this
    exact Nat.le_refl _
  | y :: s, x, h => by
    have ih := cutL_size c s
    unfold cutL at h
    split at h
    · rcases List.mem_cons.1 h with rfl | h
      · simp
      · exact Nat.le_trans (ih x h) (by simp)
    · split at h
      · have : x = [y] := by simpa using h
        subst this
        simp
      · rename_i a b hq
        rw [hq] at ih
        rcases List.mem_cons.1 h with rfl | h
        · have := ih a List.mem_cons_self
          simp
          omega
        · exact Nat.le_trans (ih x (List.mem_cons_of_mem _ h)) (by simp)
theorem word_size (s : ByteArray) : ∀ x ∈ splitS s, x.size ≤ s.size := by
  intro x hx
  have h := splitB_cutL 32 (Lib.countB s blankS) s rfl
  have hm : x.data.toList ∈ cutL 32 s.data.toList := by
    rw [← h]
    exact List.mem_map_of_mem hx
  have := cutL_size 32 _ _ hm
  rw [size_list, size_list] at this
  exact this
/-- what a first word wants, in letters -/
def WantIs (w0 : ByteArray) (is : Bool) (n q : Nat) (fv : Value) : Prop := (is = false ∧ opO w0 = none ∧ n = 0 ∧ q = 0 ∧ fv = .nilFunc) ∨ ∃ o, is = true ∧ opO w0 = some o ∧ n = opN o ∧ q = opW o ∧ fv = .func (.func (opF o)) #[] #[]
theorem want_is (w0 : ByteArray) (r : Nat) : ∃ (is : Bool) (n q : Nat) (fv : Value), Hid (∀ W, W.heap[r]? = some (.map wantE7 7) → (Instr.lookup 130 (.map (some r)) (.string w0) true).run Tryz.prog W = .ok (.tuple #[.agg #[.int .i64 n, .int .i64 q, fv], .bool is]) W) ∧ Hid (WantIs w0 is n q fv) := by
  cases ho : opO w0 with
  | none =>
    refine ⟨false, 0, 0, .nilFunc, fun W hW => ?_, .inl ⟨rfl, ho, rfl, rfl, rfl⟩⟩
    have h := wants_ask W r w0 hW
    rw [wantO_op, ho] at h
    exact h
  | some o =>
    refine ⟨true, opN o, opW o, .func (.func (opF o)) #[] #[], fun W hW => ?_, .inr ⟨o, rfl, ho, rfl, rfl, rfl⟩⟩
    have h := wants_ask W r w0 hW
    rw [wantO_op, ho] at h
    exact h
/-- a box that holds what a first word wants -/
structure WantAt (w : World) (b n q : Nat) (fv : Value) : Prop where
  c0 : w.cell? ⟨b, 0, none⟩ = some (.int .i64 n)
  c1 : w.cell? ⟨b, 1, none⟩ = some (.int .i64 q)
  c2 : w.cell? ⟨b, 2, none⟩ = some fv
theorem contains_em {w : World} {p : Option Addr} {q c : Nat} {wl : List ByteArray} (h : StrsIs w (.slice p q c) wl) (h1 : wl.length ≤ 1) :
    Calls Tryz.prog 175 #[.slice p q c, .string ⟨#[]⟩] w fun e w' => e = .returned (.bool (emptyIn wl)) ∧ w' = w := by
  obtain ⟨p', cap', he, _, hr⟩ := h
  obtain ⟨rfl, rfl, rfl⟩ : p = p' ∧ q = wl.length ∧ c = cap' := by simpa using he
  match wl, h1, hr with
  | [], _, _ => exact slices_Contains_string_empty_s p c ⟨#[]⟩ w
  | [x], _, hr =>
    obtain ⟨b, o, rfl, _, hc⟩ := hr (by simp)
    have hk := slices_Contains_string_s b o 1 c [x] ⟨#[]⟩ w (Nat.le_refl _) (by omega) (fun j hj => by
      obtain rfl : j = 0 := by simpa using hj
      exact (hc 0 (by simp)).1)
    have e : Lib.containsS ([x].take 1) ⟨#[]⟩ = emptyIn [x] := by
      rw [Bool.eq_iff_iff, Lib.containsS_iff]
      simp only [List.take_succ_cons, List.take_nil, List.mem_singleton, emptyIn, List.any_cons, List.any_nil, Bool.or_false, beq_iff_eq]
      constructor
      · rintro rfl
        rfl
      · intro h0
        exact (empty_of h0).symm
    rw [e] at hk
    exact hk
theorem want_new (w : World) (n q : Nat) (fv : Value) : Hid (WantAt (w.alloc (.cells #[.int .i64 n, .int .i64 q, fv] 189)).drew w.heap.size n q fv) :=
  ⟨by show (w.alloc _).cell? _ = _; simp, by show (w.alloc _).cell? _ = _; simp, by show (w.alloc _).cell? _ = _; simp⟩
set_option maxRecDepth 100000 in
set_option maxHeartbeats 16000000 in
theorem take_c {S : Nat → Prop} {w : World} {d m r : Nat} {l : List Deed} {cs : List (List En)} (h : Dk S w d m r l cs) (s : ByteArray) (hs : s.size ≤ 3000) :
    Calls Tryz.prog 132 #[.pointer (some ⟨d, 0, none⟩), .string s] w (TakeTo S w d m r l cs (takeO l cs s)) := by
  obtain ⟨R, HR⟩ : ∃ R, Hid (takeO l cs s = R) := ⟨_, rfl⟩
  rw [HR.out]
  obtain ⟨k, hk⟩ : ∃ k, Lib.countB s blankS = k := ⟨_, rfl⟩
  have hlen := split_len s
  rw [hk] at hlen
  obtain ⟨w0, rest, hws⟩ : ∃ w0 rest, splitS s = w0 :: rest := by
    cases hq : splitS s with
    | nil => rw [hq] at hlen; simp at hlen
    | cons a b => exact ⟨a, b, rfl⟩
  have hrl : rest.length = k := by rw [hws] at hlen; simpa using hlen
  have HZ : Hid (∀ x ∈ w0 :: rest, x.size ≤ 3000) := fun x hx => Nat.le_trans (word_size s x (by rw [hws]; exact hx)) hs
  have hk3 : k ≤ 3000 := by rw [← hk]; exact Nat.le_trans (Lib.countB_le blankS (by decide) s.size s (Nat.le_refl _)) hs
  obtain ⟨mx, hmx⟩ := h.gl.max
  have HSp : Hid (Calls Tryz.prog 173 #[.string s, .string ⟨#[32]⟩] w fun e w' => e = .returned (.slice (some ⟨w.heap.size, 0, none⟩) (k + 1) (k + 1)) ∧ w' = w.alloc (.cells ((w0 :: rest).map Value.string).toArray 9)) := by
    have c := strings_Split_s s blankS mx w (by omega) hmx (by decide)
    rw [hk] at c
    unfold splitS at hws
    rw [hk] at hws
    rw [hws] at c
    exact c
  have HD : Hid (Dk S w d m r l cs) := h
  have HS0 : Hid (∀ x, S x → x < w.heap.size) := h.mesh.lt
  have d0 := h.d0
  have hdl := h.lt.1
  clear hmx hk hlen h
  go_enter Tryz.func132, Tryz.ntmps132
  go_wp2_with fail
  refine Calls.mono HSp.out ?_
  rintro e w1 ⟨rfl, hw1⟩
  obtain ⟨is, n, q, fv, HLk, HWo⟩ : ∃ (is : Bool) (n q : Nat) (fv : Value), Hid (∀ W, W.heap[r]? = some (.map wantE7 7) → (Instr.lookup 130 (.map (some r)) (.string w0) true).run Tryz.prog W = .ok (.tuple #[.agg #[.int .i64 n, .int .i64 q, fv], .bool is]) W) ∧ Hid (WantIs w0 is n q fv) := want_is w0 r
  have HD1 : Hid (Dk S w1 d m r l cs) := by rw [hw1]; exact HD.out.grown ((Below.refl _ _).alloc (Nat.le_refl _) _)
  have HB1 : Hid (Below w.heap.size w w1) := by rw [hw1]; exact (Below.refl _ _).alloc (Nat.le_refl _) _
  obtain ⟨B, hB⟩ : ∃ B, B = w.heap.size := ⟨_, rfl⟩
  have HC1 : Hid (∀ (j : Nat) x, (w0 :: rest)[j]? = some x → w1.cell? ⟨B, j, none⟩ = some (.string x)) := by
    intro j x hx
    rw [hw1, hB]
    rw [World.cell?_alloc_at _ _ _ _ rfl, List.getElem?_toArray, List.getElem?_map, hx]
    rfl
  have HBl : Hid (B < w1.heap.size ∧ B = w.heap.size) := ⟨by rw [hw1, hB]; simp, hB⟩
  rw [← hB]
  clear HSp hw1 hB
  go_upto_region 2 with fail
  have e0 := HD1.out.d0
  have e1 := HD1.out.d1
  have et := HD1.out.tab
  have f0 := HC1.out 0 w0 rfl
  have kd := World.new_ne w1 _ e0
  have kb := World.new_ne w1 _ f0
  go_cut [7, 8] (fun c7 c8 wc => ∃ Bx, c7 = .pointer (some ⟨Bx, 0, none⟩) ∧ c8 = .bool is ∧ Hid (WantAt wc Bx n q fv) ∧ Hid (Below w1.heap.size w1 wc))
  case first =>
    have hk1 := HLk.out w1.drew et
    have kd2 := Ne.symm kd
    have kb2 := Ne.symm kb
    have hk2 := HLk.out (w1.alloc (.cells #[.int .i64 0, .int .i64 0, .nilFunc] 189)).drew ((Below.heap_alloc w1 _ _ HD1.out.lt.2).trans et)
    have g0 : (w1.alloc (.cells #[.int .i64 0, .int .i64 0, .nilFunc] 189)).cell? ⟨B, 0, none⟩ = some (.string w0) := kept_cell ((Below.refl _ _).alloc (Nat.le_refl _) _) f0
    have g1 : (w1.alloc (.cells #[.int .i64 0, .int .i64 0, .nilFunc] 189)).cell? ⟨d, 1, none⟩ = some (.map (some r)) := kept_cell ((Below.refl _ _).alloc (Nat.le_refl _) _) e1
    rcases HWo.out with ⟨h1, _, h2, h3, h4⟩ | ⟨o, h1, _, h2, h3, h4⟩
    · subst h1 h2 h3 h4
      go_region
      all_goals go_wp2_with fail
      all_goals go_meet
      all_goals exact ⟨_, rfl, rfl, want_new _ _ _ _, below_drewM (by go_grown)⟩
    · obtain ⟨f, hf⟩ : ∃ f, opF o = f := ⟨_, rfl⟩
      rw [hf] at h4
      subst h1 h2 h3 h4
      go_region
      all_goals go_wp2_with fail
      all_goals go_meet
      all_goals exact ⟨_, rfl, rfl, want_new _ _ _ _, below_drewM (by go_grown)⟩
  case rest =>
  obtain ⟨Bx, h7, h8, HWa, HBx⟩ := hcut
  obtain ⟨w2, hren⟩ : ∃ y, y = wc := ⟨_, rfl⟩
  subst hren
  subst h7
  subst h8
  have HB2 : Hid (Below w.heap.size w w2) := HB1.out.trans (HBx.out.mono HB1.out.size)
  have HD2 : Hid (Dk S w2 d m r l cs) := HD1.out.grown HBx.out
  have HC2 : Hid (∀ (j : Nat) x, (w0 :: rest)[j]? = some x → w2.cell? ⟨B, j, none⟩ = some (.string x)) := fun j x hx => kept_cell HBx.out (HC1.out j x hx)
  have HBl2 : Hid (B < w2.heap.size) := Nat.lt_of_lt_of_le HBl.out.1 HBx.out.size
  clear HD1 HB1 HC1 HBx HLk e0 e1 et f0 kd kb d0 HD
  go_upto_region 3 with fail
  go_cut [6] (fun c6 wd => wd = w2 ∧ ∃ p, c6 = .slice p k k ∧ Hid (k ≠ 0 → p = some ⟨B, 1, none⟩) ∧ Hid (∀ x : Addr, p = some x → x.block = B))
  case first =>
    have hk1 : (1 : Int) ≤ (k : Int) + 1 := by omega
    by_cases hk0 : k = 0
    · subst hk0
      go_wp2_with fail
      go_meet
      exact ⟨rfl, _, rfl, fun h => absurd rfl h, fun x hx => by cases hx; rfl⟩
    · go_wp2_with fail
      go_meet
      exact ⟨rfl, _, rfl, fun _ => rfl, fun x hx => by cases hx; rfl⟩
  case rest =>
  obtain ⟨hwd, p, h6, HP, HPb⟩ := hcut
  rw [hwd]
  clear hwd wc
  subst h6
  obtain ⟨x0, x1, x2⟩ := HWa.out
  have HStr : Hid (StrsIs w2 (.slice p k k) rest) := by
    refine ⟨p, k, by rw [hrl], by omega, fun h0 => ⟨B, 1, HP.out (by intro e; rw [e] at hrl; exact h0 (List.length_eq_zero_iff.1 hrl)), HBl2.out, fun j hj => ⟨?_, ?_⟩⟩⟩
    · rw [Nat.add_comm 1 j]
      exact HC2.out (j + 1) _ (by rw [List.getElem?_cons_succ]; exact List.getElem?_eq_getElem hj)
    · have := HZ.out _ (List.mem_cons_of_mem w0 (List.getElem_mem hj))
      omega
  have HTk : Hid (takeO l cs s = match opO w0 with | none => none | some o => takeW o l cs rest) := by
    show takeO l cs s = _
    unfold takeO
    rw [hws]
    rfl
  clear hws
  rcases HWo.out with ⟨h1, ho, h2, h3, h4⟩ | ⟨o, h1, ho, h2, h3, h4⟩
  · have hR : R = none := by
      rw [← HR.out, HTk.out, ho]
    subst h1 hR
    go_wp2_with fail
    go_ret2
    exact ⟨rfl, DkTo.after HB2.out (HD2.out.to (HD2.out.mesh.to (Below.refl _ _)) HD2.out.good)⟩
  · have HTw : Hid (takeW o l cs rest = R) := by
      show _ = R
      rw [← HR.out, HTk.out, ho]
    have HF : Hid (n = opN o ∧ q = opW o ∧ fv = .func (.func (opF o)) #[] #[]) := ⟨h2, h3, h4⟩
    have hn3 : n ≤ 3 := by rw [h2]; exact (op_le o).1
    have hq1 : q ≤ 1 := by rw [h3]; exact (op_le o).2
    subst h1
    by_cases hkq : k = n + q
    · have hkb : ((k : Int) != (n : Int) + (q : Int)) = false := by simp; omega
      have hnk : (n : Int) ≤ (k : Int) := by omega
      have hnk2 : n ≤ k := by omega
      have HL1 : Hid ((rest.take n).length = n) := by show _ = _; rw [List.length_take]; omega
      have HS1 : Hid (StrsIs w2 (.slice p n k) (rest.take n)) := by
        obtain ⟨p', cap', he, hl, hr⟩ := HStr.out
        obtain ⟨rfl, _, rfl⟩ : p = p' ∧ k = rest.length ∧ k = cap' := by simpa using he
        refine ⟨p, k, by rw [HL1.out], by rw [HL1.out]; omega, fun h0 => ?_⟩
        obtain ⟨b, o', hp, hlt, hc⟩ := hr (by intro e; rw [e] at h0; simp at h0)
        refine ⟨b, o', hp, hlt, fun j hj => ?_⟩
        rw [List.getElem_take]
        exact hc j (by rw [List.length_take] at hj; omega)
      obtain ⟨O, HO⟩ : ∃ O, Hid (numsL ((rest.take n).map wordL) = O) := ⟨_, rfl⟩
      have HRd : Hid (Calls Tryz.prog 174 #[.slice p n k] w2 (NumsTo w2 O)) := by
        have c := readNumbers_c (.slice p n k) (rest.take n) w2 (by rw [HL1.out]; omega) HS1.out
        rw [HO.out] at c
        exact c
      have HTw2 : Hid (takeN o l cs (rest.drop n) O = R) := by
        show _ = R
        rw [← HTw.out, takeW, if_pos (by rw [hrl, ← h2, ← h3]; exact hkq), ← h2, HO.out]
      have HKq : Hid (k = n + q) := hkq
      clear HTw HS1 h2 h3 h4 hkq
      go_wp2_with fail
      refine Calls.mono HRd.out ?_
      cases O with
      | none =>
        have hR : R = none := HTw2.out.symm
        subst hR
        rintro e w3 ⟨hb, rfl⟩
        have HB3 : Hid (Below w.heap.size w w3) := HB2.out.trans (hb.mono HB2.out.size)
        have HD3 : Hid (Dk S w3 d m r l cs) := HD2.out.grown hb
        clear hb x0 x1 x2 HRd
        unfold badV
        go_wp2_with fail
        go_ret2
        exact ⟨rfl, DkTo.after HB3.out (HD3.out.to (HD3.out.mesh.to (Below.refl _ _)) HD3.out.good)⟩
      | some ns =>
        rintro e w3 ⟨hb, v, rfl, hin, hfr⟩
        have HB3 : Hid (Below w.heap.size w w3) := HB2.out.trans (hb.mono HB2.out.size)
        have HD3 : Hid (Dk S w3 d m r l cs) := HD2.out.grown hb
        have HIn : Hid (IntsIs w3 v (natZ ns)) := hin
        have HFr : Hid (∀ g, v.ownBlock = some g → w2.heap.size ≤ g) := hfr
        have HNl : Hid (ns.length = n) := by show _ = _; rw [numsL_len HO.out, List.length_map]; exact HL1.out
        have y0 := kept_cell hb x0
        have y2 := kept_cell hb x2
        have HStr3 : Hid (StrsIs w3 (.slice p k k) rest) := HStr.out.below hb
        clear hb x0 x1 x2 HRd hin hfr
        go_upto_region 9 with fail
        go_cut [6] (fun c6 wd => wd = w3 ∧ ∃ p2, c6 = .slice p2 q q ∧ Hid (q ≠ 0 → p2 = some ⟨B, 1 + n, none⟩) ∧ Hid (∀ x : Addr, p2 = some x → x.block = B))
        case first =>
          by_cases hq0 : q = 0
          · subst hq0
            obtain rfl : k = n := by have := HKq.out; omega
            go_wp2_with fail
            go_meet
            exact ⟨rfl, _, rfl, fun h => absurd rfl h, HPb.out⟩
          · obtain rfl : q = 1 := by omega
            obtain rfl : p = some ⟨B, 1, none⟩ := HP.out (by have := HKq.out; omega)
            have hne : ¬ k = n := by have := HKq.out; omega
            have hkn1 : k - n = 1 := by have := HKq.out; omega
            go_wp2_with fail
            go_meet
            exact ⟨rfl, _, rfl, fun _ => rfl, fun x hx => by cases hx; rfl⟩
        case rest =>
        obtain ⟨hwd, p2, h6, HP2, HPb2⟩ := hcut
        rw [hwd]
        clear hwd wc
        subst h6
        obtain ⟨wl, HWl⟩ : ∃ wl, Hid (rest.drop n = wl) := ⟨_, rfl⟩
        have HWn : Hid (wl.length = q) := by
          show _ = _
          rw [← HWl.out, List.length_drop, hrl]
          have := HKq.out
          omega
        have HSw3 : Hid (StrsIs w3 (.slice p2 q q) wl) := by
          refine ⟨p2, q, by rw [HWn.out], by rw [HWn.out]; omega, fun h0 => ?_⟩
          have hq0 : q ≠ 0 := fun e => h0 (List.length_eq_zero_iff.1 (HWn.out.trans e))
          obtain ⟨p', cap', he, hl, hr⟩ := HStr3.out
          obtain ⟨rfl, _, rfl⟩ : p = p' ∧ k = rest.length ∧ k = cap' := by simpa using he
          obtain ⟨b, o', hp, hlt, hc⟩ := hr (by intro e; rw [e] at hrl; have := HKq.out; simp at hrl; omega)
          have hp2 := hp.symm.trans (HP.out (by have := HKq.out; omega))
          obtain ⟨rfl, rfl⟩ : b = B ∧ o' = 1 := by simpa using hp2
          refine ⟨b, 1 + n, HP2.out hq0, hlt, fun j hj => ?_⟩
          have hjr : n + j < rest.length := by rw [← HWl.out, List.length_drop] at hj; omega
          have h1 := hc (n + j) hjr
          have e1 : wl[j] = rest[n + j] := by
            have : wl[j]? = rest[n + j]? := by rw [← HWl.out, List.getElem?_drop]
            rw [List.getElem?_eq_getElem hj, List.getElem?_eq_getElem hjr] at this
            exact Option.some.inj this
          rw [e1, Nat.add_assoc]
          exact h1
        rw [HWl.out] at HTw2
        obtain ⟨eb, HEb⟩ : ∃ eb, Hid (emptyIn wl = eb) := ⟨_, rfl⟩
        have HCt : Hid (Calls Tryz.prog 175 #[.slice p2 q q, .string ⟨#[]⟩] w3 fun e w' => e = .returned (.bool eb) ∧ w' = w3) := by
          have c := contains_em HSw3.out (by rw [HWn.out]; omega)
          rw [HEb.out] at c
          exact c
        have HNe : Hid (∀ x ∈ wl, x.size ≤ maxLen) := fun x hx => by
          have h1 := HZ.out x (List.mem_cons_of_mem w0 (List.mem_of_mem_drop (by rw [HWl.out]; exact hx)))
          unfold maxLen
          omega
        have HDo : Hid (Calls Tryz.prog (opF o) #[.pointer (some ⟨d, 0, none⟩), v, .slice p2 q q] w3 (DoTo S w3 d m r (doO o l cs ns wl))) :=
          do_c o HD3.out v (.slice p2 q q) ns wl HIn.out (by rw [HNl.out]; exact HF.out.1) HSw3.out (by rw [HWn.out]; exact HF.out.2.1) HNe.out (fun g hg hs => by have h1 := HFr.out g hg; have h2 := HD2.out.mesh.lt g hs; omega) (fun g hg hs => by
            cases p2 with
            | none => simp [Value.ownBlock] at hg
            | some x => have h1 := HPb2.out x rfl; have h2 := HS0.out g hs; have h3 := HBl.out.2; have h4 : x.block = g := (by simpa [Value.ownBlock] using hg); omega)
        rw [HF.out.2.2] at y2
        have hen := op_enters o
        obtain ⟨f, hf⟩ : ∃ f, opF o = f := ⟨_, rfl⟩
        rw [hf] at y2 hen HDo
        clear hf HStr HStr3 HSw3 HIn HFr HNe
        go_wp2_with fail
        refine Calls.mono HCt.out ?_
        rintro e w' ⟨rfl, hw⟩
        rw [hw]
        clear hw w'
        cases eb with
        | true =>
          have hR : R = none := by rw [← HTw2.out, takeN, if_pos HEb.out]
          subst hR
          clear HDo hen y2
          go_wp2_with fail
          go_ret2
          exact ⟨rfl, DkTo.after HB3.out (HD3.out.to (HD3.out.mesh.to (Below.refl _ _)) HD3.out.good)⟩
        | false =>
          have hR : R = some (doO o l cs ns wl) := by rw [← HTw2.out, takeN, if_neg (by rw [HEb.out]; simp)]
          subst hR
          obtain ⟨T, HT⟩ : ∃ T, Hid (doO o l cs ns wl = T) := ⟨_, rfl⟩
          rw [HT.out] at HDo HTw2
          go_wp2_with fail
          refine Calls.mono HDo.out ?_
          rintro e w4 ⟨tx, rfl, ht, hd⟩
          have HDt : Hid ((T.err = 0 → tx = T.txt) ∧ DkTo S w w4 d m r T.l T.cs) := ⟨ht, DkTo.after HB3.out hd⟩
          clear ht hd hen y2 HDo
          go_wp2_with fail
          go_ret2
          rw [HT.out]
          exact ⟨_, rfl, HDt.out.1, HDt.out.2⟩
    · have hR : R = none := by
        rw [← HTw.out, takeW, if_neg (by rw [hrl, ← h2, ← h3]; exact hkq)]
      have hkb : ((k : Int) != (n : Int) + (q : Int)) = true := by simp; omega
      subst hR
      clear h2 h3 h4
      go_wp2_with fail
      go_ret2
      exact ⟨rfl, DkTo.after HB2.out (HD2.out.to (HD2.out.mesh.to (Below.refl _ _)) HD2.out.good)⟩
end Go.Proofs.YtpcnfoaoajfhlaaGreatDoor

namespace Go.Proofs.YtpcnfoaoajfhlaaGreatDoor
set_option linter.unusedVariables false
set_option linter.unusedSimpArgs false
open Go.RowKit

set_option maxRecDepth 100000 in
set_option maxHeartbeats 4000000 in
theorem answer_c {S : Nat → Prop} {w : World} {d m r : Nat} {l : List Deed} {cs : List (List En)} (h : Dk S w d m r l cs) (s : ByteArray) (hs : s.size ≤ 3000) :
    Calls Tryz.prog 82 #[.pointer (some ⟨d, 0, none⟩), .string s] w fun e w' => e = .returned (.string (answerO l cs s).1) ∧ DkTo S w w' d m r (answerO l cs s).2.1 (answerO l cs s).2.2 := by
  have HT : Hid (Calls Tryz.prog 132 #[.pointer (some ⟨d, 0, none⟩), .string s] w (TakeTo S w d m r l cs (takeO l cs s))) := take_c h s hs
  cases ho : takeO l cs s with
  | none =>
    rw [ho] at HT
    have HA : Hid (answerO l cs s = (badS, l, cs)) := by show answerO l cs s = _; rw [answerO, ho]
    rw [HA.out]
    clear h ho
    go_enter Tryz.func82, Tryz.ntmps82
    go_wp2_with fail
    refine Calls.mono HT.out ?_
    rintro e w1 ⟨rfl, hd⟩
    have HD : Hid (DkTo S w w1 d m r l cs) := hd
    clear hd HT
    have HN : Hid (Calls Tryz.prog 78 #[badV] w1 fun e w' => e = .returned (.string badS) ∧ Below w1.heap.size w1 w') := name_bad w1 (DkTo.gl HD.out).err
    unfold badV at HN ⊢
    go_wp2_with fail
    refine Calls.mono HN.out ?_
    rintro e w2 ⟨rfl, hb⟩
    have HD2 : Hid (DkTo S w w2 d m r l cs) := DkTo.below HD.out hb
    clear hb
    go_wp2_with fail
    go_ret
    exact ⟨rfl, HD2.out⟩
  | some t =>
    obtain ⟨_, _, he0, he8⟩ := takeO_good h.good ho
    rw [ho] at HT
    have HA : Hid (answerO l cs s = (nameT t, t.l, t.cs)) := by show answerO l cs s = _; rw [answerO, ho]
    rw [HA.out]
    obtain ⟨tx0, er, l', cs'⟩ := t
    dsimp only at he0 he8
    by_cases hz : er = 0
    · subst hz
      have HN : Hid (nameT ⟨tx0, 0, l', cs'⟩ = tx0) := rfl
      rw [HN.out]
      clear h ho he0 he8
      go_enter Tryz.func82, Tryz.ntmps82
      go_wp2_with fail
      refine Calls.mono HT.out ?_
      rintro e w1 ⟨tx, he, ht, hd⟩
      have htx : tx = tx0 := ht rfl
      subst htx
      rw [eV_zeroN] at he
      subst he
      have HD : Hid (DkTo S w w1 d m r l' cs') := hd
      clear ht hd HT
      go_wp2_with fail
      go_ret
      exact ⟨rfl, HD.out⟩
    · have HN : Hid (nameT ⟨tx0, er, l', cs'⟩ = nameB er) := by show nameT _ = _; rw [nameT, if_neg hz]
      rw [HN.out]
      clear h ho
      go_enter Tryz.func82, Tryz.ntmps82
      go_wp2_with fail
      refine Calls.mono HT.out ?_
      rintro e w1 ⟨tx, he, ht, hd⟩
      rw [show eV (Tell.mk tx0 er l' cs').err = .iface 85 (.int .i64 er) from eV_errN hz] at he
      subst he
      have HD : Hid (DkTo S w w1 d m r l' cs') := hd
      clear ht hd HT
      have HN2 : Hid (Calls Tryz.prog 78 #[.iface 85 (.int .i64 er)] w1 fun e w' => e = .returned (.string (nameB er)) ∧ Below w1.heap.size w1 w') := name_err er he0 he8 w1 (DkTo.gl HD.out).err
      go_wp2_with fail
      refine Calls.mono HN2.out ?_
      rintro e w2 ⟨rfl, hb⟩
      have HD2 : Hid (DkTo S w w2 d m r l' cs') := DkTo.below HD.out hb
      clear hb
      go_wp2_with fail
      go_ret
      exact ⟨rfl, HD2.out⟩
end Go.Proofs.YtpcnfoaoajfhlaaGreatDoor

namespace Go.Proofs.YtpcnfoaoajfhlaaGreatDoor
set_option linter.unusedVariables false
set_option linter.unusedSimpArgs false
open Go.RowKit

theorem first_at {c : UInt8} : ∀ {t : List UInt8}, c ∈ t → ∃ i : Nat, t[i]? = some c ∧ ∀ k : Nat, k < i → t[k]? ≠ some c
  | [], h => by simp at h
  | x :: t, h => by
    by_cases hx : x = c
    · exact ⟨0, by simp [hx], fun k hk => absurd hk (Nat.not_lt_zero _)⟩
    · have h' : c ∈ t := by simpa [Ne.symm hx] using h
      obtain ⟨i, h1, h2⟩ := first_at h'
      refine ⟨i + 1, by simpa using h1, fun k hk => ?_⟩
      cases k with
      | zero => simpa using hx
      | succ k => simpa using h2 k (by omega)
/-- the lines of a text of which a part ends in a byte 10 -/
theorem linesL_part (n : Nat) : ∀ (a b : List UInt8), a.length = n → linesL (a ++ 10 :: b) = linesL (a ++ [10]) ++ linesL b := by
  induction n using Nat.strongRecOn with
  | _ n ih =>
    intro a b hn
    by_cases ha : (10 : UInt8) ∈ a
    · obtain ⟨i, h1, h2⟩ := first_at ha
      have hi : i < a.length := (List.getElem?_eq_some_iff.1 h1).1
      have g1 : ∀ r : List UInt8, (a ++ r)[i]? = some 10 := fun r => by rw [List.getElem?_append_left hi]; exact h1
      have g2 : ∀ r : List UInt8, ∀ k, k < i → (a ++ r)[k]? ≠ some 10 := fun r k hk => by rw [List.getElem?_append_left (by omega)]; exact h2 k hk
      have g3 : ∀ r : List UInt8, (a ++ r).take i = a.take i := fun r => List.take_append_of_le_length (by omega)
      have g4 : ∀ r : List UInt8, (a ++ r).drop (i + 1) = a.drop (i + 1) ++ r := fun r => List.drop_append_of_le_length (by omega)
      rw [linesL_hit (g1 _) (g2 _), linesL_hit (g1 _) (g2 _), g3, g3, g4, g4, ih (a.drop (i + 1)).length (by rw [List.length_drop]; omega) (a.drop (i + 1)) b rfl]
      rfl
    · have g0 : ∀ k : Nat, a[k]? ≠ some 10 := fun k hk => ha (List.mem_of_getElem? hk)
      have g1 : ∀ r : List UInt8, (a ++ 10 :: r)[a.length]? = some 10 := fun r => by simp
      have g2 : ∀ r : List UInt8, ∀ k, k < a.length → (a ++ 10 :: r)[k]? ≠ some 10 := fun r k hk => by rw [List.getElem?_append_left hk]; exact g0 k
      rw [linesL_hit (g1 _) (g2 _), linesL_hit (g1 _) (g2 _)]
      have g3 : ∀ r : List UInt8, (a ++ 10 :: r).take a.length = a := fun r => by simp
      have g4 : ∀ r : List UInt8, (a ++ 10 :: r).drop (a.length + 1) = r := fun r => by
        rw [show a.length + 1 = (a ++ [10]).length by simp, show a ++ 10 :: r = (a ++ [10]) ++ r by simp, List.drop_left]
      rw [g3, g3, g4, g4, linesL_nil]
      rfl
/-- what lines leave -/
def leftO : List Deed → List (List En) → List ByteArray → List Deed × List (List En)
  | l, cs, [] => (l, cs)
  | l, cs, s :: ss => leftO (answerO l cs s).2.1 (answerO l cs s).2.2 ss
theorem sessO_append : ∀ (xs ys : List ByteArray) (l : List Deed) (cs : List (List En)), sessO l cs (xs ++ ys) = sessO l cs xs ++ sessO (leftO l cs xs).1 (leftO l cs xs).2 ys
  | [], ys, l, cs => by
    show sessO l cs ys = (⟨#[]⟩ : ByteArray) ++ sessO l cs ys
    rw [show (⟨#[]⟩ : ByteArray) = ByteArray.empty from rfl, ByteArray.empty_append]
  | x :: xs, ys, l, cs => by
    have ih := sessO_append xs ys (answerO l cs x).2.1 (answerO l cs x).2.2
    show (answerO l cs x).1 ++ nlS ++ sessO _ _ (xs ++ ys) = (answerO l cs x).1 ++ nlS ++ sessO _ _ xs ++ _
    rw [ih]
    exact (ByteArray.append_assoc).symm
theorem linesB_part (t : ByteArray) (k : Nat) (hk : k ≤ t.size) (h : k = 0 ∨ k = t.size ∨ ∃ j, k = j + 1 ∧ t.data.toList[j]? = some 10) : ∃ ys, linesB t = linesB (t.extract 0 k) ++ ys := by
  unfold linesB
  rw [extract_takeL]
  rcases h with rfl | rfl | ⟨j, rfl, hj⟩
  · exact ⟨_, by rw [List.take_zero, linesL_nil]; rfl⟩
  · exact ⟨[], by rw [List.take_of_length_le (by rw [size_list]; exact Nat.le_refl _), List.append_nil]⟩
  · have hjl : j < t.data.toList.length := (List.getElem?_eq_some_iff.1 hj).1
    have e1 : t.data.toList.take (j + 1) = t.data.toList.take j ++ [10] := by
      rw [List.take_add_one, hj]
      rfl
    have e2 : t.data.toList = t.data.toList.take j ++ 10 :: t.data.toList.drop (j + 1) := by
      have h1 := List.take_append_drop (j + 1) t.data.toList
      rw [e1, List.append_assoc] at h1
      exact h1.symm
    refine ⟨(linesL (t.data.toList.drop (j + 1))).map (fun b => ⟨b.toArray⟩), ?_⟩
    rw [e1]
    conv => lhs; rw [e2]
    rw [linesL_part _ _ _ rfl, List.map_append]
/-- the answers to a beginning are a beginning of the answers -/
theorem runO_part (t : ByteArray) (k : Nat) (ht : t.size ≤ 3000) (hk : k ≤ t.size) (h : k = 0 ∨ k = t.size ∨ ∃ j, k = j + 1 ∧ t.data.toList[j]? = some 10) : ∃ r, runO t = runO (t.extract 0 k) ++ r := by
  obtain ⟨ys, hy⟩ := linesB_part t k hk h
  have hs : (t.extract 0 k).size ≤ 3000 := by rw [ByteArray.size_extract]; omega
  unfold runO
  rw [if_neg (by omega), if_neg (by omega), hy, sessO_append]
  exact ⟨_, rfl⟩
end Go.Proofs.YtpcnfoaoajfhlaaGreatDoor

namespace Go.Proofs.YtpcnfoaoajfhlaaGreatDoor
set_option linter.unusedVariables false
set_option linter.unusedSimpArgs false
open Go.RowKit Go.Shelf
attribute [local go_sem] Oper.semAt_some

/-- a line -/
def LineT := {b : ByteArray // b.size ≤ 3000}
def encsL (x : LineT) : Array Value := #[.string x.1]
def valsL (xs : List LineT) : List ByteArray := xs.map (fun x => x.1)
/-- one block is as it was -/
def KpG (W W' : World) : Prop := W'.heap[1]? = W.heap[1]?
theorem KpG.t {A B C : World} (h : KpG A B) (k : KpG B C) : KpG A C := Eq.trans k h
def sizeV : Value → Nat
  | .string r => r.size
  | _ => 0
/-- what strings.Cut takes off -/
theorem line_cut (r : ByteArray) (hz : r.size ≠ 0) (hr : r.size ≤ 3000) (mx : Int) : ∃ (a b : ByteArray) (fl : Bool), Hid (∀ W : World, W.cell? ⟨1, 0, none⟩ = some (.int .i64 mx) → Calls Tryz.prog 130 #[.string r, .string ⟨#[10]⟩] W fun e w' => e = .returned (.tuple #[.string a, .string b, .bool fl]) ∧ ∃ k, w' = W.drewN k) ∧ linesB r = a :: linesB b ∧ b.size < r.size ∧ a.size ≤ 3000 := by
  have h0 := list_ne hz
  refine ⟨⟨(Lib.cut r.data.toList [10]).1.toArray⟩, ⟨(Lib.cut r.data.toList [10]).2.1.toArray⟩, _, fun W hW => strings_Cut_s r ⟨#[10]⟩ mx W (by omega) hW, ?_, ?_, ?_⟩
  · unfold linesB
    rw [linesL_cut r h0]
    simp
  · have h1 := linesL_less r h0
    rw [size_list] at h1
    show (List.toArray _).size < _
    rw [List.size_toArray]
    exact h1
  · have h1 := linesL_cut r h0
    have h2 : (Lib.cut r.data.toList [10]).1 ∈ linesL r.data.toList := by rw [h1]; exact List.mem_cons_self
    have h3 : (Lib.cut r.data.toList [10]).1 ∈ cutL 10 r.data.toList := by
      unfold linesL at h2
      split at h2
      · exact (List.dropLast_sublist _).subset h2
      · exact h2
    have h4 := cutL_size 10 _ _ h3
    rw [size_list] at h4
    show (List.toArray _).size ≤ _
    rw [List.size_toArray]
    omega
set_option maxRecDepth 100000 in
set_option maxHeartbeats 4000000 in
theorem lines_in (n : Nat) (hn : 1 ≤ n) (l Bn : Nat) (mx : Int) (s : ByteArray) (hs : s.size ≤ 3000)
    (J Jx : List LineT → World → Prop)
    (hY : ∀ pre x W, J pre W → pre.length < (linesB s).length → YieldAt Fence.wide (n - 1) Tryz.prog l (encsL x) W fun e W' =>
      (e = .returned (.bool true) ∧ J (pre ++ [x]) W' ∧ KpG W W') ∨ (e = .returned (.bool false) ∧ Jx (pre ++ [x]) W'))
    (hJa : ∀ s W o, J s W → J s (W.alloc o)) (hJd : ∀ s W k, J s W → J s (W.drewN k))
    (W : World) (hBn : W.cell? ⟨Bn, 0, none⟩ = some (.string s)) (hm : W.cell? ⟨1, 0, none⟩ = some (.int .i64 mx)) (h0 : J [] W) :
    CallsIn Fence.wide n Tryz.prog 129 #[.func (.yield l) #[] #[], .pointer (some ⟨Bn, 0, none⟩)] W fun e W' => (∃ u, e = .returned u) ∧
      ((∃ ys, valsL ys = linesB s ∧ J ys W') ∨ (∃ pre, valsL pre <+: linesB s ∧ Jx pre W')) := by
  refine callsIn_of_wp Tryz.func129 rfl trivial ?_ rfl
  simp only [Tryz.ntmps129, List.size_toArray, List.length_cons, List.length_nil, Nat.reduceAdd, Nat.reduceSub, Array.replicate_succ, Array.replicate_zero, List.push_toArray, List.append_toArray, List.nil_append, List.cons_append]
  gi_wp2
  gi_loopw [3] (fun c3 wr => ∃ (pre : List LineT) (r : ByteArray), c3 = .string r ∧ Hid (valsL pre ++ linesB r = linesB s) ∧ Hid (J pre wr) ∧ r.size ≤ 3000 ∧ Hid (wr.cell? ⟨1, 0, none⟩ = some (.int .i64 mx))) (fun c3 _ => sizeV c3)
  case atStart => exact ⟨[], s, rfl, rfl, h0, hs, hm⟩
  case round =>
    obtain ⟨pre, r, rfl, HL, HJ, hr, HM⟩ := hrel
    by_cases hz : r.size = 0
    · obtain rfl := empty_of hz
      have HE : Hid (valsL pre = linesB s) := by
        have h := HL.out
        rw [show linesB ⟨#[]⟩ = [] from rfl, List.append_nil] at h
        exact h
      gi_wp2
      go_end0
      exact ⟨⟨_, rfl⟩, .inl ⟨_, HE.out, HJ.out⟩⟩
    · have he := toL_empty hz
      obtain ⟨a, b, fl, HC, hab, hbr, ha3⟩ := line_cut r hz hr mx
      have HAB : Hid (linesB r = a :: linesB b) := hab
      have hbl : b.size < r.size := hbr
      clear hab hbr
      gi_wp2_with (first | (refine ⟨trivial, ?_⟩; gi_at_call 130; refine (callsIn_wide.2 (HC.out _ HM.out)).mono ?_; rintro e w' ⟨rfl, k, hw⟩) | (gi_at_call 130; refine (callsIn_wide.2 (HC.out _ HM.out)).mono ?_; rintro e w' ⟨rfl, k, hw⟩))
      have hlen : pre.length < (linesB s).length := by
        have h := congrArg List.length HL.out
        rw [HAB.out, List.length_append, List.length_cons, valsL, List.length_map] at h
        omega
      obtain ⟨fn, tmps, assign, body, hy, hR⟩ := hY pre ⟨a, ha3⟩ (wr.drewN k) (hJd _ _ _ HJ.out) hlen
      dsimp only [encsL] at hy
      have HV : Hid (valsL (pre ++ [⟨a, ha3⟩]) ++ linesB b = linesB s) := by
        have h := HL.out
        rw [HAB.out] at h
        show _ = _
        rw [← h, valsL, List.map_append, List.append_assoc]
        rfl
      have hb3 : b.size ≤ 3000 := by omega
      clear HC hlen
      rw [hy]
      gi_wp2
      all_goals refine hR.mono ?_
      all_goals rintro e W3 (⟨rfl, hJ4, hk4⟩ | ⟨rfl, hJx4⟩)
      all_goals gi_wp2
      all_goals first
        | (refine bodyPost_ret (results_none rfl _ _ _) rfl ?_; exact ⟨⟨_, rfl⟩, .inr ⟨_, ⟨_, HV.out⟩, hJx4⟩⟩)
        | go_roundw
      all_goals first
        | exact ⟨_, b, rfl, HV, hJ4, hb3, (World.cell?_of_block (a := ⟨1, 0, none⟩) hk4).trans HM.out⟩
        | exact hbl
        | trace_state
end Go.Proofs.YtpcnfoaoajfhlaaGreatDoor

namespace Go.Proofs.YtpcnfoaoajfhlaaGreatDoor
set_option linter.unusedVariables false
set_option linter.unusedSimpArgs false
open Go.RowKit Go.Shelf
attribute [local go_sem] Oper.semAt_some

theorem lines_stops (n : Nat) (hn : 1 ≤ n) (Bn : Nat) (mx : Int) (s : ByteArray) (hs : s.size ≤ 3000) (w : World) (hBn : w.cell? ⟨Bn, 0, none⟩ = some (.string s)) (hm : w.cell? ⟨1, 0, none⟩ = some (.int .i64 mx)) :
    SeqStopsK Fence.wide n Tryz.prog 129 #[.pointer (some ⟨Bn, 0, none⟩)] encsL KpG (fun xs => valsL xs = linesB s) (fun pre => valsL pre <+: linesB s) (linesB s).length w :=
  fun l J Jx W hW hJ hJx hY h0 => lines_in n hn l Bn mx s hs J Jx hY
    (fun s X o hs => hJ s X _ none hs (World.grownBy_alloc X o none) (fun r e => by cases e))
    (fun s X k hs => hJ s X _ none hs ⟨rfl, rfl, rfl, Nat.le_refl _, fun _ _ _ => rfl⟩ (fun r e => by cases e))
    W ((hW.cell (p := ⟨Bn, 0, none⟩) (World.block_lt_of_cell? w _ hBn)).trans hBn) ((hW.cell (p := ⟨1, 0, none⟩) (World.block_lt_of_cell? w _ hm)).trans hm) h0
theorem lines_c (s : ByteArray) (w : World) : Calls Tryz.prog 80 #[.string s] w fun e w' => e = .returned (.func (.func 129) #[] #[.pointer (some ⟨w.heap.size, 0, none⟩)]) ∧ w' = w.alloc (.cells #[.string s] 9) := by
  go_enter Tryz.func80, Tryz.ntmps80
  go_wp2_with fail
  go_ret
  exact ⟨rfl, rfl⟩
theorem run_long (s : ByteArray) (w : World) (hs : 3000 < s.size) (hz : s.size ≤ 9223372036854775807) : Calls Tryz.prog 34 #[.string s] w fun e w' => e = .returned (.string (runO s)) ∧ Below w.heap.size w w' := by
  have HR : Hid (runO s = tooLongS) := by show runO s = _; rw [runO, if_pos hs]
  rw [HR.out]
  have h1 : (3000 : Int) < (s.size : Int) := by omega
  clear hs
  go_enter Tryz.func34, Tryz.ntmps34
  go_wp2_with fail
  go_ret
  exact ⟨rfl, Below.refl _ _⟩
end Go.Proofs.YtpcnfoaoajfhlaaGreatDoor
