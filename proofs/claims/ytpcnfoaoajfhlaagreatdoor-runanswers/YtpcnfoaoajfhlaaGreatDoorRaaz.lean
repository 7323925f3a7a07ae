/-
  Package ring by its contracts: Points.
  Package ring by its contracts: find, Owner.
  Package ring by its contracts: Owner, Owners.
-/
import Derived.Test.YtpcnfoaoajfhlaaGreatDoorRaay
import Derived.Test.YtpcnfoaoajfhlaaGreatDoorRaat
import Derived.Shelf.Abstract
namespace Go.Proofs.YtpcnfoaoajfhlaaGreatDoor
set_option linter.unusedVariables false
set_option linter.unusedSimpArgs false
set_option linter.unusedVariables false
set_option linter.unusedSimpArgs false
open Go.RowKit

/-- what is wrong with nodes and how many points each has -/
def badPts (nodes : List Int) (each : Int) : Int := if badNodes nodes ≠ 0 then badNodes nodes else if inR each 1 8 = false then 1 else 0
theorem badPts_good {nodes : List Int} {each : Int} (h : badPts nodes each = 0) : badNodes nodes = 0 ∧ ∃ k : Nat, each = (k : Int) ∧ 1 ≤ k ∧ k ≤ 8 := by
  unfold badPts at h
  split at h
  · rename_i h1
    exact absurd h h1
  · rename_i h1
    split at h
    · cases h
    · rename_i h2
      have h3 : badNodes nodes = 0 := by
        by_cases h' : badNodes nodes = 0
        · exact h'
        · exact absurd h' h1
      have h4 : inR each 1 8 = true := by simpa using h2
      simp [inR] at h4
      exact ⟨h3, each.toNat, by omega, by omega, by omega⟩
theorem badNodes_good {nodes : List Int} (h : badNodes nodes = 0) : (∀ x ∈ nodes, 0 ≤ x ∧ x ≤ 5) ∧ nodes.Nodup ∧ nodes.length ≠ 0 ∧ nodes.length ≤ 6 := by
  unfold badNodes at h
  split at h
  · cases h
  · rename_i h1
    split at h
    · cases h
    · rename_i h2
      obtain ⟨a1, a2⟩ := badFrom_good nodes [] h
      exact ⟨fun x hx => ⟨(a1 x hx).1, (a1 x hx).2.1⟩, a2, h1, by omega⟩
set_option maxHeartbeats 2000000 in
theorem points_bad (v : Value) (nodes : List Int) (each : Int) (w : World) (e0 : Int) (hr : IntsIs w v nodes) (hcap : CapOk v nodes.length) (he : badPts nodes each = e0) (h0 : e0 ≠ 0) :
    Calls Tryz.prog 20 #[v, .int .i64 each] w fun e w' => e = .returned (.tuple #[.slice none 0 0, .iface 85 (.int .i64 e0)]) ∧ Below w.heap.size w w' := by
  have HC : Hid _ := checkNodes_c v nodes w hr hcap
  clear hr hcap
  unfold badPts at he
  by_cases hn : badNodes nodes = 0
  · rw [if_neg (by simp [hn])] at he
    rw [hn, eV_zero] at HC
    cases hE : inR each 1 8
    · rw [if_pos hE] at he
      subst he
      have HE : Hid (inR each 1 8 = false) := hE
      clear hE hn
      go_enter Tryz.func20, Tryz.ntmps20
      go_wp2_with fail
      refine Calls.mono HC.out ?_
      rintro e w1 ⟨rfl, hw⟩
      have hw' := hw.symm
      clear hw
      subst hw'
      go_wp2_with (go_at_call 58; refine (withinR_b _ _ _ false _ HE.out).mono ?_; rintro e w' ⟨rfl, hw⟩; have hw' := hw.symm; clear hw; subst hw')
      go_ret2
      exact ⟨rfl, Below.refl _ _⟩
    · rw [if_neg (by rw [hE]; simp)] at he
      exact absurd he.symm h0
  · rw [if_pos hn] at he
    rw [he, eV_err h0] at HC
    clear hn he
    go_enter Tryz.func20, Tryz.ntmps20
    go_wp2_with fail
    refine Calls.mono HC.out ?_
    rintro e w1 ⟨rfl, hw⟩
    have hw' := hw.symm
    clear hw
    subst hw'
    go_wp2_with fail
    go_ret2
    exact ⟨rfl, Below.refl _ _⟩
set_option maxHeartbeats 8000000 in
theorem points_ok (v : Value) (nodes : List Int) (each : Nat) (w : World) (hr : IntsIs w v nodes) (hcap : CapOk v nodes.length) (hn : badNodes nodes = 0) (h1 : 1 ≤ each) (h8 : each ≤ 8) (hT : Lib.TabIs Tryz.prog w powName .u64 Lib.pow10Tab) :
    Calls Tryz.prog 20 #[v, .int .i64 (each : Nat)] w fun e w' => ∃ u, e = .returned (.tuple #[u, .nilIface]) ∧ PtsIs w' u (ptsL nodes each) ∧ Below w.heap.size w w' := by
  have HC : Hid _ := checkNodes_c v nodes w hr hcap
  rw [hn, eV_zero] at HC
  obtain ⟨hg, hnd, hl0, hl6⟩ := badNodes_good hn
  have HG : Hid (∀ x ∈ nodes, 0 ≤ x ∧ x ≤ 5) := hg
  have HS : Hid ((rawL each nodes).mergeSort (fun x y => !(ltOf cfP) y x) = ptsL nodes each) := sort_is hg hnd h8
  have HTb : Hid (Lib.TabBelow Tryz.prog w.heap.size w powName .u64 Lib.pow10Tab) := Lib.tabBelow_of_tabIs hT
  have HE : Hid (inR (each : Int) 1 8 = true) := by
    show inR (each : Int) 1 8 = true
    simp [inR]
    omega
  obtain ⟨_, p, cap, rfl, hrow⟩ := hr
  have HRow : Hid (nodes ≠ [] → ∃ bb o, p = some ⟨bb, o, none⟩ ∧ bb < w.heap.size ∧ ∀ j (h : j < nodes.length), w.cell? ⟨bb, o + j, none⟩ = some (.int .i64 nodes[j])) := hrow
  clear hrow hcap hn hg hnd hT
  obtain ⟨n, HN⟩ : ∃ n, Hid (nodes.length = n) := ⟨_, rfl⟩
  rw [HN.out] at HC hl0 hl6 ⊢
  go_enter Tryz.func20, Tryz.ntmps20
  go_wp2_with fail
  refine Calls.mono HC.out ?_
  rintro e w1 ⟨rfl, hw⟩
  have hw' := hw.symm
  clear hw
  subst hw'
  go_wp2_with (go_at_call 58; refine (withinR_b _ _ _ true _ HE.out).mono ?_; rintro e w' ⟨rfl, hw⟩; have hw' := hw.symm; clear hw; subst hw')
  go_loopw [7, 24] (fun s7 s24 wr => ∃ (i : Nat) (v7 : Value), s7 = v7 ∧ i ≤ n ∧ s24 = .int .i64 i ∧ Hid (OwnP w.heap.size wr v7 (rawL each (nodes.take i))) ∧ Hid (Below w.heap.size w wr)) (fun _ i _ => n - (intOf i).toNat)
  case atStart => exact ⟨0, .slice none 0 0, rfl, Nat.zero_le _, rfl, OwnP.nil _ _, Below.refl _ _⟩
  case round =>
    obtain ⟨i, v7, hs7, hi, rfl, HO, HB⟩ := hrel
    have hs7' := hs7.symm
    clear hs7
    subst hs7'
    by_cases hlt : i < n
    · have hil : i < nodes.length := by rw [HN.out]; exact hlt
      obtain ⟨b, o, rfl, hbw, hat⟩ := HRow.out (fun h => by simp [h] at hil)
      have c0 : wr.cell? ⟨b, o + i, none⟩ = some (.int .i64 nodes[i]) := (World.cell?_of_block (a := ⟨b, o + i, none⟩) (HB.out.block b hbw)).trans (hat i hil)
      clear hat
      have hlti : (i : Int) < (n : Int) := by omega
      have HNx : Hid (rawL each (nodes.take (i + 1)) = rawL each (nodes.take i) ++ rawN nodes[i] each) := rawL_take hil
      have HLn : Hid ((rawL each (nodes.take i)).length ≤ 48) := by
        show _ ≤ 48
        rw [rawL_len, List.length_take, Nat.min_eq_left (by omega)]
        have : i * each ≤ 6 * 8 := Nat.mul_le_mul (by omega) h8
        omega
      obtain ⟨x, hx0, hx5⟩ : ∃ x : Nat, nodes[i] = (x : Int) ∧ x ≤ 5 := by
        have := HG.out nodes[i] (List.getElem_mem hil)
        exact ⟨nodes[i].toNat, by omega, by omega⟩
      rw [hx0] at c0 HNx
      clear hx0
      obtain ⟨xs, HXs⟩ : ∃ xs, Hid (rawL each (nodes.take i) = xs) := ⟨_, rfl⟩
      rw [HXs.out] at HO HNx HLn
      go_wp2_with fail
      clear c0
      go_loopw [7, 29] (fun s7 s29 wq => ∃ (j : Nat) (v8 : Value), s7 = v8 ∧ j ≤ each ∧ s29 = .int .i64 j ∧ Hid (OwnP w.heap.size wq v8 (xs ++ rawN (x : Int) j)) ∧ Hid (Below w.heap.size w wq)) (fun _ i _ => each - (intOf i).toNat)
      case atStart => exact ⟨0, _, rfl, Nat.zero_le _, rfl, by show OwnP _ _ _ _; rw [rawN_zero, List.append_nil]; exact HO.out, HB⟩
      case round =>
        obtain ⟨j, v8, hs8, hj, rfl, HO2, HB2⟩ := hrel
        have hs8' := hs8.symm
        clear hs8
        subst hs8'
        by_cases hlt2 : j < each
        · have hlti2 : (j : Int) < (each : Int) := by omega
          have hws := HB2.out.size
          have HPl : Hid _ := placeR_c x j wr (by omega) (by omega) (HTb.out _ HB2.out)
          have hpl := plP_lt x j
          have HNj : Hid (rawN (x : Int) (j + 1) = rawN (x : Int) j ++ [⟨(plP x j : Int), (x : Int)⟩]) := rawN_succ (x : Int) j
          obtain ⟨a, HPa⟩ : ∃ a, Hid (plP x j = a) := ⟨_, rfl⟩
          rw [HPa.out] at HPl HNj hpl
          obtain ⟨ys, HYs⟩ : ∃ ys, Hid (xs ++ rawN (x : Int) j = ys) := ⟨_, rfl⟩
          have HY1 : Hid (xs ++ rawN (x : Int) (j + 1) = ys ++ [⟨(a : Int), (x : Int)⟩]) := by
            show _ = _
            rw [HNj.out, ← HYs.out, List.append_assoc]
          have HLy : Hid (ys.length ≤ 2000) := by
            show ys.length ≤ 2000
            rw [← HYs.out, List.length_append, rawN_len]
            have := HLn.out
            omega
          rw [HYs.out] at HO2
          go_wp2_with fail
          refine Calls.mono HPl.out ?_
          rintro e w2 ⟨rfl, hb⟩
          have HB3 : Hid (Below w.heap.size w w2) := HB2.out.trans (hb.mono HB2.out.size)
          have HO3 : Hid (OwnP w.heap.size w2 v8 ys) := HO2.out.below hb
          clear hb HPl
          have hws3 := HB3.out.size
          have HOa : Hid (OwnP w.heap.size (w2.alloc (.cells #[.int .i64 (a : Int), .int .i64 (x : Int)] 110)) v8 ys) := HO3.out.below ((Below.refl _ _).alloc (Nat.le_refl _) _)
          have HVa : Hid ((w2.alloc (.cells #[.int .i64 (a : Int), .int .i64 (x : Int)] 110)).heap[w2.heap.size]? = some (.cells (Pt.cells ⟨(a : Int), (x : Int)⟩).toArray 110 (0, 0))) := alloc_at _ _ _ rfl
          have HSa : Hid (w.heap.size ≤ (w2.alloc (.cells #[.int .i64 (a : Int), .int .i64 (x : Int)] 110)).heap.size) := show _ ≤ _ from (by simp; omega)
          have HBa : Hid (Below w.heap.size w (w2.alloc (.cells #[.int .i64 (a : Int), .int .i64 (x : Int)] 110))) := HB3.out.alloc hws3 _
          go_wp2_with (at_builtin; refine wp_appP _ rfl _ _ rfl w.heap.size _ ys ⟨(a : Int), (x : Int)⟩ rfl HOa.out _ rfl HVa.out HLy.out HSa.out ?_)
          intro va wa hown hgrow
          have HOp : Hid (OwnP w.heap.size wa va (ys ++ [⟨(a : Int), (x : Int)⟩])) := hown
          have HBp : Hid (Below w.heap.size w wa) := below_grownF HBa.out (Nat.le_refl _) hgrow.out (fun c hc => HO3.out.from c hc)
          clear hown hgrow HOa HVa HSa HBa
          go_wp2_with fail
          go_roundw
          case rel =>
            refine ⟨j + 1, _, rfl, by omega, by go_num, ?_, HBp⟩
            show OwnP _ _ _ _
            rw [HY1.out]
            exact HOp.out
          case measure => simp [intOf]; omega
        · obtain rfl : j = each := by omega
          go_wp2_with fail
          go_roundw
          case rel =>
            refine ⟨i + 1, _, rfl, by omega, by go_num, ?_, HB2⟩
            show OwnP _ _ _ _
            rw [HNx.out]
            exact HO2.out
          case measure => simp [intOf]; omega
    · obtain rfl : i = n := by omega
      have e1 : nodes.take i = nodes := by rw [← HN.out, List.take_length]
      rw [e1] at HO
      have hle : (rawL each nodes).length ≤ 2000 := by
        rw [rawL_len, HN.out]
        have : i * each ≤ 6 * 8 := Nat.mul_le_mul (by omega) h8
        omega
      have hpos : 0 < (rawL each nodes).length := by
        rw [rawL_len, HN.out]
        exact Nat.mul_pos (by omega) h1
      have HSo : Hid _ := sortRow_c w.heap.size v7 (rawL each nodes) wr HO.out (List.length_pos_iff.1 hpos) HB.out.size hle
      rw [HS.out] at HSo
      have HLp : Hid ((ptsL nodes each).length ≤ 2000) := by
        show _ ≤ 2000
        rw [← HS.out, List.length_mergeSort]
        exact hle
      clear e1 hle hpos
      go_wp2_with fail
      refine Calls.mono HSo.out ?_
      rintro e w2 ⟨rfl, hp, hb⟩
      have HP : Hid (PtsIs w2 v7 (ptsL nodes each)) := hp
      have HB2 : Hid (Below w.heap.size w w2) := HB.out.trans hb
      clear hp hb
      go_wp2_with fail
      refine (compact_c v7 (ptsL nodes each) w2 HP.out (ptsU_rise _ _ _) HLp.out).mono ?_
      rintro e w3 ⟨rfl, hb⟩
      have HP3 : Hid (PtsIs w3 v7 (ptsL nodes each)) := HP.out.below hb
      have HB3 : Hid (Below w.heap.size w w3) := HB2.out.trans (hb.mono HB2.out.size)
      clear hb
      go_wp2_with fail
      go_ret2
      exact ⟨v7, rfl, HP3.out, HB3.out⟩
end Go.Proofs.YtpcnfoaoajfhlaaGreatDoor

namespace Go.Proofs.YtpcnfoaoajfhlaaGreatDoor
set_option linter.unusedVariables false
set_option linter.unusedSimpArgs false
open Go.RowKit Go.Shelf

/-- where the first is that is so, -1: none -/
def idxP (n : Nat) (p : Nat → Bool) : Nat → Int
  | 0 => -1
  | f + 1 => if p (n - (f + 1)) = true then ((n - (f + 1) : Nat) : Int) else idxP n p f
theorem idxP_hit {n : Nat} {p : Nat → Bool} {j : Nat} (h : j < n) (hp : p j = true) : idxP n p (n - j) = j := by
  obtain ⟨f, hf⟩ : ∃ f, n - j = f + 1 := ⟨n - j - 1, by omega⟩
  rw [hf, idxP, show n - (f + 1) = j by omega, if_pos hp]
theorem idxP_miss {n : Nat} {p : Nat → Bool} {j : Nat} (h : j < n) (hp : p j = false) : idxP n p (n - j) = idxP n p (n - (j + 1)) := by
  obtain ⟨f, hf⟩ : ∃ f, n - j = f + 1 := ⟨n - j - 1, by omega⟩
  rw [hf, idxP, show n - (f + 1) = j by omega, if_neg (by rw [hp]; simp), show n - (j + 1) = f by omega]
theorem idxP_end (n : Nat) (p : Nat → Bool) : idxP n p (n - n) = -1 := by rw [Nat.sub_self]; rfl
set_option maxHeartbeats 4000000 in
theorem indexP_c (f : FuncId) (caps : Array Value) (v : Value) (l : List Pt) (p : Nat → Bool) (w : World) (hr : PtsIs w v l)
    (eg : ∀ args w, (callFunc f args).run Tryz.prog w = .ok (.enter f args) w) (hf : ∀ j (h : j < l.length) w', Below w.heap.size w w' → Calls Tryz.prog f (#[l[j].val] ++ caps) w' fun e w'' => e = .returned (.bool (p j)) ∧ Below w'.heap.size w' w'') :
    Calls Tryz.prog 110 #[v, .func (.func f) #[] caps] w fun e w' => e = .returned (.int .i64 (idxP l.length p l.length)) ∧ Below w.heap.size w w' := by
  obtain ⟨hlen, pp, cap, rfl, hrow⟩ := hr
  have HRow : Hid (l ≠ [] → ∃ b o, pp = some ⟨b, o, none⟩ ∧ b < w.heap.size ∧ ∀ j (h : j < l.length), PtAt w b (o + j * 2) l[j]) := hrow
  have HF : Hid (∀ j (h : j < l.length) w', Below w.heap.size w w' → Calls Tryz.prog f (#[l[j].val] ++ caps) w' fun e w'' => e = .returned (.bool (p j)) ∧ Below w'.heap.size w' w'') := hf
  clear hrow hf
  obtain ⟨n, HN⟩ : ∃ n, Hid (l.length = n) := ⟨_, rfl⟩
  rw [HN.out] at hlen ⊢
  have hn63 : n ≤ 9223372036854775807 := hlen
  obtain ⟨R, HR⟩ : ∃ R, Hid (idxP n p n = R) := ⟨_, rfl⟩
  rw [HR.out]
  go_enter Tryz.func110, Tryz.ntmps110
  go_wp2_with fail
  go_loopw [8] (fun i wr => ∃ j : Nat, j ≤ n ∧ i = .int .i64 j ∧ Hid (R = idxP n p (n - j)) ∧ Hid (Below w.heap.size w wr)) (fun i _ => n - (intOf i).toNat)
  case atStart => exact ⟨0, Nat.zero_le _, rfl, HR.out.symm, Below.refl _ _⟩
  case round =>
    obtain ⟨j, hj, rfl, HJ, HB⟩ := hrel
    by_cases hlt : j < n
    · have hlti : (j : Int) < (n : Int) := by omega
      have hjl : j < l.length := by rw [HN.out]; exact hlt
      obtain ⟨b, o, rfl, hbw, hat⟩ := HRow.out (fun h => by simp [h] at hjl)
      have HAt : Hid (PtAt wr b (o + j * 2) l[j]) := (hat j hjl).of_block (HB.out.block b hbw)
      have HC : Hid _ := HF.out j hjl wr HB.out
      clear hat
      obtain ⟨x, HX⟩ : ∃ x, Hid (l[j] = x) := ⟨l[j], show l[j] = l[j] from rfl⟩
      rw [HX.out] at HAt HC
      obtain ⟨x0, x1⟩ := x
      obtain ⟨c0, c1⟩ := HAt.out
      dsimp only at c0 c1
      cases hp : p j
      · rw [idxP_miss hlt hp] at HJ
        rw [hp] at HC
        go_wp2_with fail
        refine Calls.mono HC.out ?_
        rintro e w1 ⟨rfl, hb⟩
        have B1 : Hid (Below w.heap.size w w1) := HB.out.trans (hb.mono HB.out.size)
        clear hb c0 c1
        go_wp2_with fail
        go_roundw
        case rel => exact ⟨j + 1, by omega, by go_num, HJ, B1⟩
        case measure => simp [intOf]; omega
      · rw [idxP_hit hlt hp] at HJ
        rw [hp] at HC
        go_wp2_with fail
        refine Calls.mono HC.out ?_
        rintro e w1 ⟨rfl, hb⟩
        have B1 : Hid (Below w.heap.size w w1) := HB.out.trans (hb.mono HB.out.size)
        clear hb c0 c1
        go_wp2_with fail
        go_ret
        exact ⟨by rw [HJ.out]; rfl, B1.out⟩
    · obtain rfl : j = n := by omega
      rw [idxP_end] at HJ
      go_wp2_with fail
      go_ret
      exact ⟨by rw [HJ.out]; rfl, HB.out⟩
/-- how far from a place on the first point is that is not below t -/
theorem idx_first (t : Int) (l : List Pt) : ∀ d j, l.length - j = d → j ≤ l.length → idxP l.length (fun j => decide (t ≤ (l.getD j ⟨0, 0⟩).p)) (l.length - j) = if firstP t (l.drop j) < l.length - j then ((j + firstP t (l.drop j) : Nat) : Int) else -1 := by
  intro d
  induction d with
  | zero =>
    intro j hd hj
    obtain rfl : j = l.length := by omega
    rw [idxP_end, List.drop_length, if_neg (by omega)]
  | succ d ih =>
    intro j hd hj
    have hjl : j < l.length := by omega
    have hg : l.getD j ⟨0, 0⟩ = l[j] := by simp [List.getD_eq_getElem?_getD, hjl]
    rw [List.drop_eq_getElem_cons hjl, firstP]
    by_cases hp : l[j].p < t
    · rw [idxP_miss hjl (by rw [hg]; simp; omega), ih (j + 1) (by omega) (by omega), if_pos hp]
      by_cases h : firstP t (l.drop (j + 1)) < l.length - (j + 1)
      · rw [if_pos h, if_pos (by omega)]
        congr 1
        omega
      · rw [if_neg h, if_neg (by omega)]
    · rw [idxP_hit hjl (by rw [hg]; simp; omega), if_neg hp, if_pos (by omega)]
      rfl
theorem idx_all (t : Int) (l : List Pt) : idxP l.length (fun j => decide (t ≤ (l.getD j ⟨0, 0⟩).p)) l.length = if firstP t l < l.length then (firstP t l : Int) else -1 := by
  have h := idx_first t l l.length 0 (by omega) (by omega)
  rw [Nat.sub_zero, List.drop_zero, Nat.zero_add] at h
  exact h
set_option maxHeartbeats 1000000 in
theorem find1_c (t x0 x1 : Int) (tb : Nat) (w : World) (ct : w.cell? ⟨tb, 0, none⟩ = some (.int .i64 t)) :
    Calls Tryz.prog 111 #[.agg #[.int .i64 x0, .int .i64 x1], .pointer (some ⟨tb, 0, none⟩)] w fun e w' => e = .returned (.bool (decide (t ≤ x0))) ∧ Below w.heap.size w w' := by
  have htl := World.block_lt_of_cell? w _ ct
  dsimp only at htl
  go_enter Tryz.func111, Tryz.ntmps111
  go_wp2_with fail
  go_ret
  exact ⟨rfl, by go_grown⟩
/-- what is wrong with points and a key -/
def badFind (l : List Pt) (key : Int) : Int := if rightP l = false then 3 else if inR key 0 7 = false then 1 else 0
theorem badFind_zero {l : List Pt} {key : Int} (h : badFind l key = 0) : rightP l = true ∧ inR key 0 7 = true := by
  unfold badFind at h
  split at h
  · cases h
  · rename_i h1
    split at h
    · cases h
    · rename_i h2
      exact ⟨by simpa using h1, by simpa using h2⟩
theorem keyP_nat {key : Int} (h : inR key 0 7 = true) : ∃ k : Nat, key = (k : Int) ∧ k ≤ 7 := by
  simp [inR] at h
  exact ⟨key.toNat, by omega, by omega⟩
set_option maxHeartbeats 4000000 in
theorem find_bad (v : Value) (l : List Pt) (key : Int) (w : World) (e0 : Int) (hr : PtsIs w v l) (he : badFind l key = e0) (h0 : e0 ≠ 0) :
    Calls Tryz.prog 63 #[v, .int .i64 key] w fun e w' => e = .returned (.tuple #[.int .i64 0, .iface 85 (.int .i64 e0)]) ∧ Below w.heap.size w w' := by
  have HA : Hid _ := areRight_c v l w hr
  clear hr
  unfold badFind at he
  cases hR : rightP l
  · rw [if_pos hR] at he
    subst he
    rw [hR] at HA
    clear hR
    go_enter Tryz.func63, Tryz.ntmps63
    go_wp2_with fail
    refine Calls.mono HA.out ?_
    rintro e w1 ⟨rfl, hb⟩
    have B1 : Hid (Below w.heap.size w w1) := hb
    clear hb
    go_wp2_with fail
    go_ret2
    exact ⟨rfl, B1.out⟩
  · rw [if_neg (by rw [hR]; simp)] at he
    rw [hR] at HA
    clear hR
    cases hK : inR key 0 7
    · rw [if_pos hK] at he
      subst he
      have HK : Hid (inR key 0 7 = false) := hK
      clear hK
      go_enter Tryz.func63, Tryz.ntmps63
      go_wp2_with fail
      refine Calls.mono HA.out ?_
      rintro e w1 ⟨rfl, hb⟩
      have B1 : Hid (Below w.heap.size w w1) := hb
      clear hb
      go_wp2_with (go_at_call 58; refine (withinR_b _ _ _ false _ HK.out).mono ?_; rintro e w' ⟨rfl, rfl⟩)
      go_ret2
      exact ⟨rfl, B1.out⟩
    · rw [if_neg (by rw [hK]; simp)] at he
      exact absurd he.symm h0
set_option maxHeartbeats 4000000 in
theorem find_ok (v : Value) (l : List Pt) (k : Nat) (w : World) (hr : PtsIs w v l) (hR : rightP l = true) (hk : k ≤ 7) (hT : Lib.TabIs Tryz.prog w powName .u64 Lib.pow10Tab) :
    Calls Tryz.prog 63 #[v, .int .i64 (k : Nat)] w fun e w' => e = .returned (.tuple #[.int .i64 (firstQ (keyT k) l : Nat), .nilIface]) ∧ Below w.heap.size w w' := by
  have HA : Hid _ := areRight_c v l w hr
  rw [hR] at HA
  have HV : Hid (PtsIs w v l) := hr
  have HTb : Hid (Lib.TabBelow Tryz.prog w.heap.size w powName .u64 Lib.pow10Tab) := Lib.tabBelow_of_tabIs hT
  have HK : Hid (inR (k : Int) 0 7 = true) := by
    show inR (k : Int) 0 7 = true
    simp [inR]
    omega
  clear hr hR hT
  have HPl : Hid (∀ W, Lib.TabIs Tryz.prog W powName .u64 Lib.pow10Tab → Calls Tryz.prog 59 #[.int .i64 (k : Nat), .int .i64 (k : Nat)] W fun e w' => e = .returned (.tuple #[.int .i64 (plP k k : Nat), .nilIface]) ∧ Below W.heap.size W w') := fun W hW => placeR_c k k W (by omega) (by omega) hW
  have hkt : keyT k = (plP k k : Int) := rfl
  rw [hkt]
  clear hkt
  generalize plP k k = t at HPl ⊢
  have HFst : Hid ((firstP (t : Int) l < l.length ∧ firstQ (t : Int) l = firstP (t : Int) l) ∨ (¬ firstP (t : Int) l < l.length ∧ firstQ (t : Int) l = 0)) := by
    show _ ∨ _
    unfold firstQ
    by_cases h : firstP (t : Int) l < l.length
    · exact .inl ⟨h, if_pos h⟩
    · exact .inr ⟨h, if_neg h⟩
  generalize firstQ (t : Int) l = Q at HFst ⊢
  go_enter Tryz.func63, Tryz.ntmps63
  go_wp2_with fail
  refine Calls.mono HA.out ?_
  rintro e w1 ⟨rfl, hb⟩
  have B1 : Hid (Below w.heap.size w w1) := hb
  clear hb
  go_wp2_with fail
  refine (withinR_b _ _ _ true _ HK.out).mono ?_
  rintro e w2 ⟨rfl, hw⟩
  have hw' := hw.symm
  clear hw
  subst hw'
  go_wp2_with fail
  refine (HPl.out _ (HTb.out _ B1.out)).mono ?_
  rintro e w2 ⟨rfl, hb⟩
  have B2 : Hid (Below w.heap.size w w2) := B1.out.trans (hb.mono B1.out.size)
  clear hb B1
  go_upto_region 8 with fail
  obtain ⟨w3, HW⟩ : ∃ w3, w3 = w2.alloc (.cells #[.int .i64 (t : Int)] 3) := ⟨_, rfl⟩
  rw [← HW]
  have B3 : Hid (Below w.heap.size w w3) := by rw [HW]; exact B2.out.alloc B2.out.size _
  have CT : Hid (w3.cell? ⟨w2.heap.size, 0, none⟩ = some (.int .i64 (t : Int)) ∧ w2.heap.size < w3.heap.size) := by
    rw [HW]
    exact ⟨by simp, by simp⟩
  clear HW
  have HI : Hid (Calls Tryz.prog 110 #[v, .func (.func 111) #[] #[.pointer (some ⟨w2.heap.size, 0, none⟩)]] w3 fun e w' => e = .returned (.int .i64 (if firstP (t : Int) l < l.length then (firstP (t : Int) l : Int) else -1)) ∧ Below w3.heap.size w3 w') := by
    rw [← idx_all]
    refine indexP_c 111 #[.pointer (some ⟨w2.heap.size, 0, none⟩)] v l (fun j => decide ((t : Int) ≤ (l.getD j ⟨0, 0⟩).p)) w3 (HV.out.below B3.out) (enters_of Tryz.func111 (by kernel_rfl) rfl) ?_
    intro j hj W hW
    have hg : l.getD j ⟨0, 0⟩ = l[j] := by simp [List.getD_eq_getElem?_getD, hj]
    simp only [hg]
    generalize l[j] = x
    obtain ⟨x0, x1⟩ := x
    exact find1_c (t : Int) x0 x1 _ W ((World.cell?_of_block (a := ⟨w2.heap.size, 0, none⟩) (hW.block _ CT.out.2)).trans CT.out.1)
  have hmx := HV.out.1
  rcases HFst.out with ⟨hlt, hq⟩ | ⟨hlt, hq⟩
  · rw [if_pos hlt, ← hq] at HI
    have hQ : Q ≤ 9223372036854775807 := by unfold maxLen at hmx; omega
    clear hlt hmx hq
    go_wp2_with fail
    refine Calls.mono HI.out ?_
    rintro e w4 ⟨rfl, hb⟩
    have B4 : Hid (Below w.heap.size w w4) := B3.out.trans (hb.mono B3.out.size)
    clear hb
    go_wp2_with fail
    go_ret2
    exact ⟨rfl, B4.out⟩
  · rw [if_neg hlt] at HI
    subst hq
    clear hlt hmx
    go_wp2_with fail
    refine Calls.mono HI.out ?_
    rintro e w4 ⟨rfl, hb⟩
    have B4 : Hid (Below w.heap.size w w4) := B3.out.trans (hb.mono B3.out.size)
    clear hb
    go_wp2_with fail
    go_ret2
    exact ⟨rfl, B4.out⟩
end Go.Proofs.YtpcnfoaoajfhlaaGreatDoor

namespace Go.Proofs.YtpcnfoaoajfhlaaGreatDoor
set_option linter.unusedVariables false
set_option linter.unusedSimpArgs false
open Go.RowKit

set_option maxHeartbeats 1000000 in
theorem owner_bad (v : Value) (l : List Pt) (key : Int) (w : World) (e0 : Int) (hr : PtsIs w v l) (he : badFind l key = e0) (h0 : e0 ≠ 0) :
    Calls Tryz.prog 170 #[v, .int .i64 key] w fun e w' => e = .returned (.tuple #[.int .i64 0, .iface 85 (.int .i64 e0)]) ∧ Below w.heap.size w w' := by
  have HF : Hid _ := find_bad v l key w e0 hr he h0
  clear hr he
  go_enter Tryz.func170, Tryz.ntmps170
  go_wp2_with fail
  refine Calls.mono HF.out ?_
  rintro e w1 ⟨rfl, hb⟩
  have B1 : Hid (Below w.heap.size w w1) := hb
  clear hb
  go_wp2_with fail
  go_ret2
  exact ⟨rfl, B1.out⟩
set_option maxHeartbeats 1000000 in
theorem owner_ok (v : Value) (l : List Pt) (k : Nat) (w : World) (x : Int) (hr : PtsIs w v l) (hR : rightP l = true) (hk : k ≤ 7) (hx : ownP (keyT k) l = some x) (hT : Lib.TabIs Tryz.prog w powName .u64 Lib.pow10Tab) :
    Calls Tryz.prog 170 #[v, .int .i64 (k : Nat)] w fun e w' => e = .returned (.tuple #[.int .i64 x, .nilIface]) ∧ Below w.heap.size w w' := by
  have HF : Hid _ := find_ok v l k w hr hR hk hT
  have hlen := right_len hR
  have hne : l ≠ [] := by intro h; rw [h] at hlen; simp at hlen
  have hlt := firstQ_lt (t := keyT k) hne
  have hv : l[firstQ (keyT k) l].n = x := by
    rw [own_first hlt] at hx
    exact Option.some.inj hx
  obtain ⟨_, p, cap, rfl, hrow⟩ := hr
  obtain ⟨b, o, rfl, hbw, hat⟩ := hrow hne
  have HAt : Hid (PtAt w b (o + firstQ (keyT k) l * 2) l[firstQ (keyT k) l]) := hat _ hlt
  have hl1 : (firstQ (keyT k) l : Int) < (l.length : Int) := by omega
  generalize l[firstQ (keyT k) l] = y at *
  clear hx hR hT hrow hat
  generalize firstQ (keyT k) l = Q at *
  have hl48 : l.length ≤ 48 := hlen.2
  clear hlen hne
  generalize l.length = n at *
  go_enter Tryz.func170, Tryz.ntmps170
  go_wp2_with fail
  refine Calls.mono HF.out ?_
  rintro e w1 ⟨rfl, hb⟩
  have B1 : Hid (Below w.heap.size w w1) := hb
  clear hb
  have c1 := (HAt.out.of_block (B1.out.block b hbw)).c1
  rw [hv] at c1
  go_wp2_with fail
  go_ret2
  exact ⟨rfl, B1.out⟩
set_option maxHeartbeats 1000000 in
theorem owners_bad (v : Value) (l : List Pt) (key many : Int) (w : World) (e0 : Int) (hr : PtsIs w v l) (he : badFind l key = e0) (h0 : e0 ≠ 0) :
    Calls Tryz.prog 21 #[v, .int .i64 key, .int .i64 many] w fun e w' => e = .returned (.tuple #[.slice none 0 0, .iface 85 (.int .i64 e0)]) ∧ Below w.heap.size w w' := by
  have HF : Hid _ := find_bad v l key w e0 hr he h0
  clear hr he
  go_enter Tryz.func21, Tryz.ntmps21
  go_wp2_with fail
  refine Calls.mono HF.out ?_
  rintro e w1 ⟨rfl, hb⟩
  have B1 : Hid (Below w.heap.size w w1) := hb
  clear hb
  go_wp2_with fail
  go_ret2
  exact ⟨rfl, B1.out⟩
set_option maxHeartbeats 1000000 in
theorem owners_many (v : Value) (l : List Pt) (k : Nat) (many : Int) (w : World) (hr : PtsIs w v l) (hR : rightP l = true) (hk : k ≤ 7) (hm : inR many 1 6 = false) (hT : Lib.TabIs Tryz.prog w powName .u64 Lib.pow10Tab) :
    Calls Tryz.prog 21 #[v, .int .i64 (k : Nat), .int .i64 many] w fun e w' => e = .returned (.tuple #[.slice none 0 0, .iface 85 (.int .i64 1)]) ∧ Below w.heap.size w w' := by
  have HF : Hid _ := find_ok v l k w hr hR hk hT
  have HM : Hid (inR many 1 6 = false) := hm
  clear hr hR hT hm
  generalize firstQ (keyT k) l = Q at *
  go_enter Tryz.func21, Tryz.ntmps21
  go_wp2_with fail
  refine Calls.mono HF.out ?_
  rintro e w1 ⟨rfl, hb⟩
  have B1 : Hid (Below w.heap.size w w1) := hb
  clear hb
  go_wp2_with (go_at_call 58; refine (withinR_b _ _ _ false _ HM.out).mono ?_; rintro e w' ⟨rfl, rfl⟩)
  go_ret2
  exact ⟨rfl, B1.out⟩
theorem rem_nat (a n : Nat) : ((a : Int)).tmod (n : Int) = ((a % n : Nat) : Int) := (Int.ofNat_tmod a n).symm ▸ rfl
/-- what Owners answers, all being right -/
def OwnersAns (B : Nat) (w : World) (e : Ending) (os : List Int) (m : Nat) : Prop :=
  (m ≤ os.length ∧ ∃ v, e = .returned (.tuple #[v, .nilIface]) ∧ OwnI B w v (os.take m)) ∨ (¬ m ≤ os.length ∧ e = .returned (.tuple #[.slice none 0 0, .iface 85 (.int .i64 5)]))
set_option maxHeartbeats 8000000 in
theorem owners_ok (v : Value) (l : List Pt) (k m : Nat) (w : World) (hr : PtsIs w v l) (hR : rightP l = true) (hk : k ≤ 7) (h1 : 1 ≤ m) (h6 : m ≤ 6) (hT : Lib.TabIs Tryz.prog w powName .u64 Lib.pow10Tab) :
    Calls Tryz.prog 21 #[v, .int .i64 (k : Nat), .int .i64 (m : Nat)] w fun e w' => OwnersAns w.heap.size w' e (ownersL (keyT k) l) m ∧ Below w.heap.size w w' := by
  have HF : Hid _ := find_ok v l k w hr hR hk hT
  have HM : Hid (inR (m : Int) 1 6 = true) := by
    show inR (m : Int) 1 6 = true
    simp [inR]
    omega
  have hlen := right_len hR
  have hne : l ≠ [] := by intro h; rw [h] at hlen; simp at hlen
  have hlt := firstQ_lt (t := keyT k) hne
  have HIn : Hid (∀ x ∈ l, inP x = true) := right_in l none (by
    unfold rightP at hR
    rw [Bool.and_eq_true] at hR
    exact hR.2)
  obtain ⟨_, p, cap, rfl, hrow⟩ := hr
  obtain ⟨b, o, rfl, hbw, hat⟩ := hrow hne
  have HAt : Hid (∀ j (h : j < l.length), PtAt w b (o + j * 2) l[j]) := hat
  obtain ⟨Q, HQ⟩ : ∃ Q, Hid (firstQ (keyT k) l = Q) := ⟨_, rfl⟩
  obtain ⟨n, HN⟩ : ∃ n, Hid (l.length = n) := ⟨_, rfl⟩
  clear hrow hat hR hT hne
  rw [HQ.out] at HF hlt
  rw [HN.out] at HF hlt hlen ⊢
  have h48 : n ≤ 48 := hlen.2
  have h0n : 1 ≤ n := hlen.1
  clear hlen
  go_enter Tryz.func21, Tryz.ntmps21
  go_wp2_with fail
  refine Calls.mono HF.out ?_
  rintro e w1 ⟨rfl, hb⟩
  have B1 : Hid (Below w.heap.size w w1) := hb
  clear hb
  go_wp2_with (go_at_call 58; refine (withinR_b _ _ _ true _ HM.out).mono ?_; rintro e w' ⟨rfl, hw⟩; have hw' := hw.symm; clear hw; subst hw')
  go_loopw [10, 28] (fun s10 s28 wr => ∃ (j : Nat) (v10 : Value), s10 = v10 ∧ j ≤ n ∧ s28 = .int .i64 j ∧ Hid (OwnI w.heap.size wr v10 (metN (keyT k) l j)) ∧ Hid ((metN (keyT k) l j).length < m) ∧ Hid (Below w.heap.size w wr)) (fun _ i _ => n - (intOf i).toNat)
  case atStart => exact ⟨0, .slice none 0 0, rfl, Nat.zero_le _, rfl, OwnI.nil _ _, by show (metN (keyT k) l 0).length < m; rw [metN_zero]; simp; omega, B1⟩
  case round =>
    obtain ⟨j, v10, hs10, hj, rfl, HO, HL, HB⟩ := hrel
    have hs10' := hs10.symm
    clear hs10
    subst hs10'
    by_cases hltj : j < n
    · have hlti : (j : Int) < (n : Int) := by omega
      have hws := HB.out.size
      obtain ⟨r, HRm⟩ : ∃ r, Hid ((Q + j) % n = r) := ⟨_, rfl⟩
      have hrn : r < n := by rw [← HRm.out]; exact Nat.mod_lt _ (by omega)
      have hrl : r < l.length := by rw [HN.out]; exact hrn
      have hrem : ((Q : Int) + (j : Int)).tmod (n : Int) = (r : Int) := by
        rw [← HRm.out, ← rem_nat]
        rfl
      have hri : (r : Int) < (n : Int) := by omega
      have c1 := ((HAt.out r hrl).of_block (HB.out.block b hbw)).c1
      have HStep : Hid (metN (keyT k) l (j + 1) = if (metN (keyT k) l j).contains l[r].n = true then metN (keyT k) l j else metN (keyT k) l j ++ [l[r].n]) := by
        refine metN_step (by rw [HN.out]; exact hltj) (fun hr' => ?_)
        rw [rotN_get (by rw [HN.out]; exact hltj) (Nat.mod_lt _ (by omega)) hr']
        have e : (firstQ (keyT k) l + j) % l.length = r := by rw [HQ.out, HN.out]; exact HRm.out
        simp only [e]
      have HFew : Hid ((metN (keyT k) l (j + 1)).length ≤ 6) := metN_few HIn.out _
      obtain ⟨x, HX⟩ : ∃ x, Hid (l[r].n = x) := ⟨l[r].n, show l[r].n = l[r].n from rfl⟩
      rw [HX.out] at c1 HStep
      obtain ⟨xs, HXs⟩ : ∃ xs, Hid (metN (keyT k) l j = xs) := ⟨_, rfl⟩
      rw [HXs.out] at HO HL HStep
      obtain ⟨hxl, pv, cv, hv10, _⟩ := HO.out.ints
      subst hv10
      cases hc : xs.contains x
      · have HE : Hid (metN (keyT k) l (j + 1) = xs ++ [x]) := by show _ = _; rw [HStep.out, if_neg (by rw [hc]; simp)]
        have HC : Hid (xs.contains x = false) := hc
        rw [HE.out] at HFew
        have hx6 : xs.length + 1 ≤ 6 := by have := HFew.out; rw [List.length_append] at this; exact this
        have HOa : Hid (OwnI w.heap.size (wr.alloc (.cells #[.int .i64 x] 3)) (.slice pv xs.length cv) xs) := HO.out.below ((Below.refl _ _).alloc (Nat.le_refl _) _)
        have HVa : Hid ((wr.alloc (.cells #[.int .i64 x] 3)).heap[wr.heap.size]? = some (.cells #[.int .i64 x] 3 (0, 0))) := alloc_at _ _ _ rfl
        have HSa : Hid (w.heap.size ≤ (wr.alloc (.cells #[.int .i64 x] 3)).heap.size) := show _ ≤ _ from (by simp; omega)
        have HLa : Hid (xs.length ≤ 100) := show xs.length ≤ 100 from (by omega)
        have HBa : Hid (Below w.heap.size w (wr.alloc (.cells #[.int .i64 x] 3))) := HB.out.alloc hws _
        clear hc
        go_wp2_with fail
        refine (containsI_c _ xs x false _ HO.out.ints HC.out).mono ?_
        rintro e w2 ⟨rfl, hw⟩
        have hw' := hw.symm
        clear hw
        subst hw'
        go_wp2_with (at_builtin; refine wp_appI _ rfl _ _ rfl w.heap.size _ xs x rfl HOa.out _ rfl HVa.out HLa.out HSa.out ?_)
        intro va wa hown hgrow
        have HOp : Hid (OwnI w.heap.size wa va (xs ++ [x])) := hown
        have HBp : Hid (Below w.heap.size w wa) := below_grownF HBa.out (Nat.le_refl _) hgrow.out (fun c hc => HO.out.from c hc)
        clear hown hgrow HOa HVa HLa HSa HBa c1
        obtain ⟨hal, pa, ca, hva, _⟩ := HOp.out.ints
        subst hva
        rw [List.length_append] at HOp
        have hl1 : (xs ++ [x]).length = xs.length + 1 := by simp
        rw [hl1]
        by_cases hm : xs.length + 1 = m
        · have hmb : (((xs.length + 1 : Nat) : Int) == (m : Int)) = true := by simp; omega
          have HTk : Hid ((ownersL (keyT k) l).take m = xs ++ [x] ∧ m ≤ (ownersL (keyT k) l).length) := by
            have := metN_take (t := keyT k) (l := l) (i := j + 1) (m := m) (by rw [HE.out, hl1]; exact hm)
            rw [HE.out] at this
            exact this
          go_wp2_with fail
          go_ret2
          refine ⟨.inl ⟨HTk.out.2, _, rfl, ?_⟩, HBp.out⟩
          rw [HTk.out.1]
          exact HOp.out
        · have hmb : (((xs.length + 1 : Nat) : Int) == (m : Int)) = false := by simp; omega
          have HLn : Hid ((metN (keyT k) l (j + 1)).length < m) := by
            show _ < m
            rw [HE.out, hl1]
            have := HL.out
            omega
          go_wp2_with fail
          go_roundw
          case rel =>
            refine ⟨j + 1, _, rfl, by omega, by go_num, ?_, HLn, HBp⟩
            show OwnI _ _ _ _
            rw [HE.out]
            exact HOp.out
          case measure => simp [intOf]; omega
      · have HE : Hid (metN (keyT k) l (j + 1) = xs) := by show _ = _; rw [HStep.out, if_pos hc]
        have HC : Hid (xs.contains x = true) := hc
        have hlm : ¬ ((xs.length : Int) = (m : Int)) := by have := HL.out; omega
        have hlb : ((xs.length : Int) == (m : Int)) = false := by simpa using hlm
        clear hc
        go_wp2_with fail
        refine (containsI_c _ xs x true _ HO.out.ints HC.out).mono ?_
        rintro e w2 ⟨rfl, hw⟩
        have hw' := hw.symm
        clear hw
        subst hw'
        go_wp2_with fail
        go_roundw
        case rel =>
          refine ⟨j + 1, _, rfl, by omega, by go_num, ?_, ?_, HB⟩
          · show OwnI _ _ _ _
            rw [HE.out]
            exact HO.out
          · show _ < m
            rw [HE.out]
            exact HL.out
        case measure => simp [intOf]; omega
    · obtain rfl : j = n := by omega
      have HA : Hid (¬ m ≤ (ownersL (keyT k) l).length) := by
        show ¬ _
        rw [← metN_all, HN.out]
        have := HL.out
        omega
      go_wp2_with fail
      go_ret2
      exact ⟨.inr ⟨HA.out, rfl⟩, HB.out⟩
end Go.Proofs.YtpcnfoaoajfhlaaGreatDoor
