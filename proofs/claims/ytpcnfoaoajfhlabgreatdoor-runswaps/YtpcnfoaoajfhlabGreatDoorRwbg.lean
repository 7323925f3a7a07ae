/-
  A row of points of the call's own, sorted and compacted, by the library's contracts.
  Two points compared; slices.Compact at points that rise; meresame.Points, by their contracts.
  Package ring by its contracts: Points.
-/
import Derived.Test.YtpcnfoaoajfhlabGreatDoorRwbf
import Derived.Lib.OwnBridge
import Derived.Laws.StructEq
import Derived.BigQuiet
namespace Go.Proofs.YtpcnfoaoajfhlabGreatDoor
set_option linter.unusedVariables false
set_option linter.unusedSimpArgs false
set_option linter.unusedVariables false
set_option linter.unusedSimpArgs false
open Go.RowKit Go.Shelf Go.Lib Go.Sort

theorem rowT_flat [Inhabited Pt] (l : List Pt) (j : Nat) (h : j < l.length * 2) : (rowT l)[j]? = some ((encP (l.toArray[j / 2]!))[j % 2]!) := by
  have hj : j / 2 < l.length := by omega
  obtain ⟨a0, a1⟩ := rowT_get l (j / 2) hj
  have e : l.toArray[j / 2]! = l[j / 2] := by simp [hj]
  rw [e]
  rcases Nat.mod_two_eq_zero_or_one j with h0 | h0
  · have hr : j = j / 2 * 2 := by omega
    rw [h0]
    conv => lhs; rw [hr]
    rw [a0]
    rfl
  · have hr : j = j / 2 * 2 + 1 := by omega
    rw [h0]
    conv => lhs; rw [hr]
    rw [a1]
    rfl
theorem holdsP [Inhabited Pt] {B : Nat} {w : World} {v : Value} {l : List Pt} (h : OwnP B w v l) (hne : l ≠ []) : ∃ g cap, v = .slice (some ⟨g, 0, none⟩) l.length cap ∧ B ≤ g ∧ g < w.heap.size ∧ HoldsK encP 2 w g 0 l.toArray := by
  have hcell : ∀ g, v.ownBlock = some g → ∀ j u, (rowT l)[j]? = some u → w.cell? ⟨g, j, none⟩ = some u := fun g hg j u hu => by
    have := h.cells (g := g) hg j u hu
    simpa [Addr.add_lit] using this
  rcases h.2 with ⟨rfl, h0⟩ | ⟨g, cap, cur, rfl, hb, hg, hc1, hc2, _⟩
  · exact absurd (List.length_eq_zero_iff.1 h0) hne
  · refine ⟨g, cap, rfl, hb, (Array.getElem?_eq_some_iff.1 hg).1, fun j hj => ?_⟩
    rw [size_flatK] at hj
    have hj' : j < l.length * 2 := by simpa using hj
    rw [get_flatK _ _ _ _ hj, Nat.zero_add]
    exact ⟨hcell g rfl j _ (rowT_flat l j hj'), by simp [World.frozen?, hg]⟩
theorem below_sorted [Inhabited Pt] {B : Nat} {w : World} {g n : Nat} {d : Array Pt} {os : Array Obj} (hg : B ≤ g) (hB : B ≤ w.heap.size) : RowKit.Below B w (sortWorldK encP 2 w g 0 n d os) := by
  have h1 : RowKit.Below B w (putRowK encP 2 (Sort.ahead w n) g 0 d) := Lib.below_putRow (RowKit.Below.refl B w) hg
  refine h1.trans ⟨rfl, rfl, rfl, ?_, fun c hc => ?_⟩
  · show _ ≤ (_ ++ os).size
    rw [Array.size_append]
    exact Nat.le_add_right _ _
  · show (_ ++ os)[c]? = _
    rw [Array.getElem?_append_left (Nat.lt_of_lt_of_le hc (Nat.le_trans hB h1.size))]
theorem sortRow_c (B : Nat) (v : Value) (l : List Pt) (w : World) (h : OwnP B w v l) (hne : l ≠ []) (hB : B ≤ w.heap.size) (hl : l.length ≤ 2000) :
    Calls Tryz.prog 70 #[v, .func (.func 71) #[] #[]] w fun e w' => e = .returned (.tuple #[]) ∧ PtsIs w' v (l.mergeSort fun x y => !(ltOf cfP) y x) ∧ RowKit.Below B w w' := by
  have inh : Inhabited Pt := ⟨⟨0, 0⟩⟩
  obtain ⟨g, cap, rfl, hb, hg, hH⟩ := holdsP h hne
  have hc := sortFunc_c g 0 cap l.toArray w hH hg (by rw [List.size_toArray]; omega)
  rw [List.size_toArray] at hc
  refine hc.mono ?_
  rintro e w' ⟨rfl, n, os, rfl⟩
  refine ⟨rfl, ?_, below_sorted hb hB⟩
  have e1 : (l.toArray.toList.mergeSort fun x y => !(ltOf cfP) y x) = (l.mergeSort fun x y => !(ltOf cfP) y x) := by simp
  rw [e1]
  have hlen : (l.mergeSort fun x y => !(ltOf cfP) y x).length = l.length := List.length_mergeSort ..
  have hs : (l.mergeSort fun x y => !(ltOf cfP) y x).toArray.size = l.toArray.size := by simp
  have hH' := holdsK_sortWorldK_c encP 2 w g 0 l.toArray (l.mergeSort fun x y => !(ltOf cfP) y x).toArray n os hH hg hs
  generalize (l.mergeSort fun x y => !(ltOf cfP) y x) = m at *
  refine ⟨by unfold maxLen; omega, _, cap, by rw [hlen], fun _ => ⟨g, 0, rfl, Nat.lt_of_lt_of_le hg (below_sorted (B := 0) (Nat.zero_le _) (Nat.zero_le _)).size, fun j hj => ?_⟩⟩
  have e2 : m.toArray[j]! = m[j] := by simp [hj]
  have k0 := (hH'.cell (i := j) (c := 0) (by simpa using hj) (by omega)).1
  have k1 := (hH'.cell (i := j) (c := 1) (by simpa using hj) (by omega)).1
  rw [e2] at k0 k1
  exact ⟨k0, k1⟩
end Go.Proofs.YtpcnfoaoajfhlabGreatDoor

namespace Go.Proofs.YtpcnfoaoajfhlabGreatDoor
set_option linter.unusedVariables false
set_option linter.unusedSimpArgs false
open Go.RowKit

def Pt.same (x y : Pt) : Bool := (x.p == y.p) && (x.n == y.n)
theorem Pt.same_iff (x y : Pt) : x.same y = true ↔ x = y := by
  cases x
  cases y
  simp [Pt.same]
theorem eql_ptIn (x y : Pt) (w : World) : (Op.equalIn 10000 140 x.val y.val).run Tryz.prog w = .ok (x.same y) w := by
  unfold Pt.val
  rw [run_equalIn_agg w 9999 140 _ _ (by kernel_rfl) (by kernel_rfl)]
  simp [Op.eqFields, Program.fieldsOf, Tryz.underlying140, go_sem, Tryz.underlying3, Pt.same]
  by_cases h0 : x.p = y.p <;> by_cases h1 : x.n = y.n <;> simp [h0, h1]
theorem eql_pt (x0 x1 y0 y1 : Int) (b : Bool) (h : Pt.same ⟨x0, x1⟩ ⟨y0, y1⟩ = b) (w : World) : (binOp .eql 140 (.agg #[.int .i64 x0, .int .i64 x1]) (.agg #[.int .i64 y0, .int .i64 y1])).run Tryz.prog w = .ok (.bool b) w := by
  have h1 := eql_ptIn ⟨x0, x1⟩ ⟨y0, y1⟩ w
  rw [h] at h1
  unfold Pt.val at h1
  rw [run_eql_struct, h1]
  rfl
theorem neq_pt (x0 x1 y0 y1 : Int) (b : Bool) (h : Pt.same ⟨x0, x1⟩ ⟨y0, y1⟩ = b) (w : World) : (binOp .neq 140 (.agg #[.int .i64 x0, .int .i64 x1]) (.agg #[.int .i64 y0, .int .i64 y1])).run Tryz.prog w = .ok (.bool !b) w := by
  have h1 := eql_ptIn ⟨x0, x1⟩ ⟨y0, y1⟩ w
  rw [h] at h1
  unfold Pt.val at h1
  rw [run_neq_struct, h1]
  rfl
theorem eqGuard_pt : Tryz.prog.eqGuardType Tryz.prog.depth 140 = false := by kernel_rfl
theorem rise_unlike {l : List Pt} (h : l.Pairwise ltP) {j : Nat} (hj : j + 1 < l.length) : Pt.same l[j + 1] l[j] = false := by
  have h1 := List.pairwise_iff_getElem.1 h j (j + 1) (by omega) hj (by omega)
  cases hs : Pt.same l[j + 1] l[j]
  · rfl
  · rw [Pt.same_iff] at hs
    rw [hs] at h1
    unfold ltP at h1
    omega
set_option maxHeartbeats 4000000 in
theorem compact_c (v : Value) (l : List Pt) (w : World) (hr : PtsIs w v l) (hrise : l.Pairwise ltP) (hl : l.length ≤ 2000) :
    Calls Tryz.prog 72 #[v] w fun e w' => e = .returned v ∧ Below w.heap.size w w' := by
  obtain ⟨hlen, pp, cap, rfl, hrow⟩ := hr
  have HRow : Hid (l ≠ [] → ∃ b o, pp = some ⟨b, o, none⟩ ∧ b < w.heap.size ∧ ∀ j (h : j < l.length), PtAt w b (o + j * 2) l[j]) := hrow
  have HRise : Hid (l.Pairwise ltP) := hrise
  clear hrow hrise
  by_cases h2 : l.length < 2
  · have h2i : (l.length : Int) < 2 := by omega
    clear HRow HRise
    generalize l.length = n at *
    go_enter Tryz.func72, Tryz.ntmps72
    go_wp2_with fail
    go_ret
    exact ⟨rfl, Below.refl _ _⟩
  have h2i : ¬ (l.length : Int) < 2 := by omega
  have hne : l ≠ [] := by intro h; rw [h] at h2; simp at h2
  obtain ⟨b, o, rfl, hbw, hat⟩ := HRow.out hne
  have HAt : Hid (∀ j (h : j < l.length), PtAt w b (o + j * 2) l[j]) := hat
  obtain ⟨n, HN⟩ : ∃ n, Hid (l.length = n) := ⟨_, rfl⟩
  clear hat HRow hne
  rw [HN.out] at hlen h2 h2i hl ⊢
  have hgd := eqGuard_pt
  go_enter Tryz.func72, Tryz.ntmps72
  go_wp2_with fail
  go_loopw [3] (fun s3 wr => ∃ j : Nat, j + 1 ≤ n ∧ s3 = .int .i64 ((j + 1 : Nat) : Int) ∧ Hid (Below w.heap.size w wr)) (fun i _ => n - (intOf i).toNat)
  case atStart => exact ⟨0, by omega, rfl, Below.refl _ _⟩
  case round =>
    obtain ⟨j, hj, rfl, HB⟩ := hrel
    by_cases hlt : j + 1 < n
    · have hjl : j + 1 < l.length := by rw [HN.out]; exact hlt
      have HA1 : Hid (PtAt wr b (o + (j + 1) * 2) l[j + 1]) := (HAt.out _ hjl).of_block (HB.out.block b hbw)
      have HA0 : Hid (PtAt wr b (o + j * 2) l[j]) := (HAt.out j (by omega)).of_block (HB.out.block b hbw)
      have HS : Hid (Pt.same l[j + 1] l[j] = false) := rise_unlike HRise.out hjl
      obtain ⟨x, HX⟩ : ∃ x, Hid (l[j + 1] = x) := ⟨l[j + 1], show l[j + 1] = l[j + 1] from rfl⟩
      obtain ⟨y, HY⟩ : ∃ y, Hid (l[j]'(by omega) = y) := ⟨l[j]'(by omega), show l[j]'(by omega) = l[j]'(by omega) from rfl⟩
      rw [HX.out] at HA1 HS
      rw [HY.out] at HA0 HS
      obtain ⟨x0, x1⟩ := x
      obtain ⟨y0, y1⟩ := y
      obtain ⟨c0, c1⟩ := HA1.out
      obtain ⟨d0, d1⟩ := HA0.out
      dsimp only at c0 c1 d0 d1
      have hq := eql_pt x0 x1 y0 y1 false HS.out
      have hwp : IntKind.i64.wrap (j : Int) = (j : Int) := by rw [IntKind.wrap_i64]; omega
      have hin : (j : Int) < (n : Int) := by omega
      have hin' : (j : Int) + 1 < (n : Int) := by omega
      have hin2 : ((j + 1 : Nat) : Int) < (n : Int) := by omega
      go_upto_region 6 with fail
      go_quiet (fail)
      go_wp2_with fail
      go_roundw
      case rel => exact ⟨j + 1, by omega, by go_num, HB.out.trans (below_drewN _ _ _)⟩
      case measure => simp [intOf]; omega
    · have hin2 : ¬ ((j + 1 : Nat) : Int) < (n : Int) := by omega
      have hin3 : ¬ (j : Int) + 1 < (n : Int) := by omega
      go_wp2_with fail
      go_ret
      exact ⟨rfl, HB.out⟩
end Go.Proofs.YtpcnfoaoajfhlabGreatDoor

namespace Go.Proofs.YtpcnfoaoajfhlabGreatDoor
set_option linter.unusedVariables false
set_option linter.unusedSimpArgs false
open Go.RowKit

/-- what is wrong with nodes and how many points each has -/
def badPts (nodes : List Int) (each : Int) : Int := if badNodes nodes ≠ 0 then badNodes nodes else if inR each 1 8 = false then 1 else 0
theorem badPts_good {nodes : List Int} {each : Int} (h : badPts nodes each = 0) : badNodes nodes = 0 ∧ ∃ k : Nat, each = (k : Int) ∧ 1 ≤ k ∧ k ≤ 8 := by
  unfold badPts at h
  split at h
  · rename_i h1
    exact absurd h h1
  · rename_i h1
    split at h
    · cases h
    · rename_i h2
      have h3 : badNodes nodes = 0 := by
        by_cases h' : badNodes nodes = 0
        · exact h'
        · exact absurd h' h1
      have h4 : inR each 1 8 = true := by simpa using h2
      simp [inR] at h4
      exact ⟨h3, each.toNat, by omega, by omega, by omega⟩
theorem badNodes_good {nodes : List Int} (h : badNodes nodes = 0) : (∀ x ∈ nodes, 0 ≤ x ∧ x ≤ 5) ∧ nodes.Nodup ∧ nodes.length ≠ 0 ∧ nodes.length ≤ 6 := by
  unfold badNodes at h
  split at h
  · cases h
  · rename_i h1
    split at h
    · cases h
    · rename_i h2
      obtain ⟨a1, a2⟩ := badFrom_good nodes [] h
      exact ⟨fun x hx => ⟨(a1 x hx).1, (a1 x hx).2.1⟩, a2, h1, by omega⟩
set_option maxHeartbeats 2000000 in
theorem points_bad (v : Value) (nodes : List Int) (each : Int) (w : World) (e0 : Int) (hr : IntsIs w v nodes) (hcap : CapOk v nodes.length) (he : badPts nodes each = e0) (h0 : e0 ≠ 0) :
    Calls Tryz.prog 43 #[v, .int .i64 each] w fun e w' => e = .returned (.tuple #[.slice none 0 0, .iface 49 (.int .i64 e0)]) ∧ Below w.heap.size w w' := by
  have HC : Hid _ := checkNodes_c v nodes w hr hcap
  clear hr hcap
  unfold badPts at he
  by_cases hn : badNodes nodes = 0
  · rw [if_neg (by simp [hn])] at he
    rw [hn, eV_zero] at HC
    cases hE : inR each 1 8
    · rw [if_pos hE] at he
      subst he
      have HE : Hid (inR each 1 8 = false) := hE
      clear hE hn
      go_enter Tryz.func43, Tryz.ntmps43
      go_wp2_with fail
      refine Calls.mono HC.out ?_
      rintro e w1 ⟨rfl, hw⟩
      have hw' := hw.symm
      clear hw
      subst hw'
      go_wp2_with (go_at_call 68; refine (withinR_b _ _ _ false _ HE.out).mono ?_; rintro e w' ⟨rfl, hw⟩; have hw' := hw.symm; clear hw; subst hw')
      go_ret2
      exact ⟨rfl, Below.refl _ _⟩
    · rw [if_neg (by rw [hE]; simp)] at he
      exact absurd he.symm h0
  · rw [if_pos hn] at he
    rw [he, eV_err h0] at HC
    clear hn he
    go_enter Tryz.func43, Tryz.ntmps43
    go_wp2_with fail
    refine Calls.mono HC.out ?_
    rintro e w1 ⟨rfl, hw⟩
    have hw' := hw.symm
    clear hw
    subst hw'
    go_wp2_with fail
    go_ret2
    exact ⟨rfl, Below.refl _ _⟩
set_option maxHeartbeats 8000000 in
theorem points_ok (v : Value) (nodes : List Int) (each : Nat) (w : World) (hr : IntsIs w v nodes) (hcap : CapOk v nodes.length) (hn : badNodes nodes = 0) (h1 : 1 ≤ each) (h8 : each ≤ 8) (hT : Lib.TabIs Tryz.prog w powName .u64 Lib.pow10Tab) :
    Calls Tryz.prog 43 #[v, .int .i64 (each : Nat)] w fun e w' => ∃ u, e = .returned (.tuple #[u, .nilIface]) ∧ PtsIs w' u (ptsL nodes each) ∧ Below w.heap.size w w' := by
  have HC : Hid _ := checkNodes_c v nodes w hr hcap
  rw [hn, eV_zero] at HC
  obtain ⟨hg, hnd, hl0, hl6⟩ := badNodes_good hn
  have HG : Hid (∀ x ∈ nodes, 0 ≤ x ∧ x ≤ 5) := hg
  have HS : Hid ((rawL each nodes).mergeSort (fun x y => !(ltOf cfP) y x) = ptsL nodes each) := sort_is hg hnd h8
  have HTb : Hid (Lib.TabBelow Tryz.prog w.heap.size w powName .u64 Lib.pow10Tab) := Lib.tabBelow_of_tabIs hT
  have HE : Hid (inR (each : Int) 1 8 = true) := by
    show inR (each : Int) 1 8 = true
    simp [inR]
    omega
  obtain ⟨_, p, cap, rfl, hrow⟩ := hr
  have HRow : Hid (nodes ≠ [] → ∃ bb o, p = some ⟨bb, o, none⟩ ∧ bb < w.heap.size ∧ ∀ j (h : j < nodes.length), w.cell? ⟨bb, o + j, none⟩ = some (.int .i64 nodes[j])) := hrow
  clear hrow hcap hn hg hnd hT
  obtain ⟨n, HN⟩ : ∃ n, Hid (nodes.length = n) := ⟨_, rfl⟩
  rw [HN.out] at HC hl0 hl6 ⊢
  go_enter Tryz.func43, Tryz.ntmps43
  go_wp2_with fail
  refine Calls.mono HC.out ?_
  rintro e w1 ⟨rfl, hw⟩
  have hw' := hw.symm
  clear hw
  subst hw'
  go_wp2_with (go_at_call 68; refine (withinR_b _ _ _ true _ HE.out).mono ?_; rintro e w' ⟨rfl, hw⟩; have hw' := hw.symm; clear hw; subst hw')
  go_loopw [7, 24] (fun s7 s24 wr => ∃ (i : Nat) (v7 : Value), s7 = v7 ∧ i ≤ n ∧ s24 = .int .i64 i ∧ Hid (OwnP w.heap.size wr v7 (rawL each (nodes.take i))) ∧ Hid (Below w.heap.size w wr)) (fun _ i _ => n - (intOf i).toNat)
  case atStart => exact ⟨0, .slice none 0 0, rfl, Nat.zero_le _, rfl, OwnP.nil _ _, Below.refl _ _⟩
  case round =>
    obtain ⟨i, v7, hs7, hi, rfl, HO, HB⟩ := hrel
    have hs7' := hs7.symm
    clear hs7
    subst hs7'
    by_cases hlt : i < n
    · have hil : i < nodes.length := by rw [HN.out]; exact hlt
      obtain ⟨b, o, rfl, hbw, hat⟩ := HRow.out (fun h => by simp [h] at hil)
      have c0 : wr.cell? ⟨b, o + i, none⟩ = some (.int .i64 nodes[i]) := (World.cell?_of_block (a := ⟨b, o + i, none⟩) (HB.out.block b hbw)).trans (hat i hil)
      clear hat
      have hlti : (i : Int) < (n : Int) := by omega
      have HNx : Hid (rawL each (nodes.take (i + 1)) = rawL each (nodes.take i) ++ rawN nodes[i] each) := rawL_take hil
      have HLn : Hid ((rawL each (nodes.take i)).length ≤ 48) := by
        show _ ≤ 48
        rw [rawL_len, List.length_take, Nat.min_eq_left (by omega)]
        have : i * each ≤ 6 * 8 := Nat.mul_le_mul (by omega) h8
        omega
      obtain ⟨x, hx0, hx5⟩ : ∃ x : Nat, nodes[i] = (x : Int) ∧ x ≤ 5 := by
        have := HG.out nodes[i] (List.getElem_mem hil)
        exact ⟨nodes[i].toNat, by omega, by omega⟩
      rw [hx0] at c0 HNx
      clear hx0
      obtain ⟨xs, HXs⟩ : ∃ xs, Hid (rawL each (nodes.take i) = xs) := ⟨_, rfl⟩
      rw [HXs.out] at HO HNx HLn
      go_wp2_with fail
      clear c0
      go_loopw [7, 29] (fun s7 s29 wq => ∃ (j : Nat) (v8 : Value), s7 = v8 ∧ j ≤ each ∧ s29 = .int .i64 j ∧ Hid (OwnP w.heap.size wq v8 (xs ++ rawN (x : Int) j)) ∧ Hid (Below w.heap.size w wq)) (fun _ i _ => each - (intOf i).toNat)
      case atStart => exact ⟨0, _, rfl, Nat.zero_le _, rfl, by show OwnP _ _ _ _; rw [rawN_zero, List.append_nil]; exact HO.out, HB⟩
      case round =>
        obtain ⟨j, v8, hs8, hj, rfl, HO2, HB2⟩ := hrel
        have hs8' := hs8.symm
        clear hs8
        subst hs8'
        by_cases hlt2 : j < each
        · have hlti2 : (j : Int) < (each : Int) := by omega
          have hws := HB2.out.size
          have HPl : Hid _ := placeR_c x j wr (by omega) (by omega) (HTb.out _ HB2.out)
          have hpl := plP_lt x j
          have HNj : Hid (rawN (x : Int) (j + 1) = rawN (x : Int) j ++ [⟨(plP x j : Int), (x : Int)⟩]) := rawN_succ (x : Int) j
          obtain ⟨a, HPa⟩ : ∃ a, Hid (plP x j = a) := ⟨_, rfl⟩
          rw [HPa.out] at HPl HNj hpl
          obtain ⟨ys, HYs⟩ : ∃ ys, Hid (xs ++ rawN (x : Int) j = ys) := ⟨_, rfl⟩
          have HY1 : Hid (xs ++ rawN (x : Int) (j + 1) = ys ++ [⟨(a : Int), (x : Int)⟩]) := by
            show _ = _
            rw [HNj.out, ← HYs.out, List.append_assoc]
          have HLy : Hid (ys.length ≤ 2000) := by
            show ys.length ≤ 2000
            rw [← HYs.out, List.length_append, rawN_len]
            have := HLn.out
            omega
          rw [HYs.out] at HO2
          go_wp2_with fail
          refine Calls.mono HPl.out ?_
          rintro e w2 ⟨rfl, hb⟩
          have HB3 : Hid (Below w.heap.size w w2) := HB2.out.trans (hb.mono HB2.out.size)
          have HO3 : Hid (OwnP w.heap.size w2 v8 ys) := HO2.out.below hb
          clear hb HPl
          have hws3 := HB3.out.size
          have HOa : Hid (OwnP w.heap.size (w2.alloc (.cells #[.int .i64 (a : Int), .int .i64 (x : Int)] 140)) v8 ys) := HO3.out.below ((Below.refl _ _).alloc (Nat.le_refl _) _)
          have HVa : Hid ((w2.alloc (.cells #[.int .i64 (a : Int), .int .i64 (x : Int)] 140)).heap[w2.heap.size]? = some (.cells (Pt.cells ⟨(a : Int), (x : Int)⟩).toArray 140 (0, 0))) := alloc_at _ _ _ rfl
          have HSa : Hid (w.heap.size ≤ (w2.alloc (.cells #[.int .i64 (a : Int), .int .i64 (x : Int)] 140)).heap.size) := show _ ≤ _ from (by simp; omega)
          have HBa : Hid (Below w.heap.size w (w2.alloc (.cells #[.int .i64 (a : Int), .int .i64 (x : Int)] 140))) := HB3.out.alloc hws3 _
          go_wp2_with (at_builtin; refine wp_appP _ rfl _ _ rfl w.heap.size _ ys ⟨(a : Int), (x : Int)⟩ rfl HOa.out _ rfl HVa.out HLy.out HSa.out ?_)
          intro va wa hown hgrow
          have HOp : Hid (OwnP w.heap.size wa va (ys ++ [⟨(a : Int), (x : Int)⟩])) := hown
          have HBp : Hid (Below w.heap.size w wa) := below_grownF HBa.out (Nat.le_refl _) hgrow.out (fun c hc => HO3.out.from c hc)
          clear hown hgrow HOa HVa HSa HBa
          go_wp2_with fail
          go_roundw
          case rel =>
            refine ⟨j + 1, _, rfl, by omega, by go_num, ?_, HBp⟩
            show OwnP _ _ _ _
            rw [HY1.out]
            exact HOp.out
          case measure => simp [intOf]; omega
        · obtain rfl : j = each := by omega
          go_wp2_with fail
          go_roundw
          case rel =>
            refine ⟨i + 1, _, rfl, by omega, by go_num, ?_, HB2⟩
            show OwnP _ _ _ _
            rw [HNx.out]
            exact HO2.out
          case measure => simp [intOf]; omega
    · obtain rfl : i = n := by omega
      have e1 : nodes.take i = nodes := by rw [← HN.out, List.take_length]
      rw [e1] at HO
      have hle : (rawL each nodes).length ≤ 2000 := by
        rw [rawL_len, HN.out]
        have : i * each ≤ 6 * 8 := Nat.mul_le_mul (by omega) h8
        omega
      have hpos : 0 < (rawL each nodes).length := by
        rw [rawL_len, HN.out]
        exact Nat.mul_pos (by omega) h1
      have HSo : Hid _ := sortRow_c w.heap.size v7 (rawL each nodes) wr HO.out (List.length_pos_iff.1 hpos) HB.out.size hle
      rw [HS.out] at HSo
      have HLp : Hid ((ptsL nodes each).length ≤ 2000) := by
        show _ ≤ 2000
        rw [← HS.out, List.length_mergeSort]
        exact hle
      clear e1 hle hpos
      go_wp2_with fail
      refine Calls.mono HSo.out ?_
      rintro e w2 ⟨rfl, hp, hb⟩
      have HP : Hid (PtsIs w2 v7 (ptsL nodes each)) := hp
      have HB2 : Hid (Below w.heap.size w w2) := HB.out.trans hb
      clear hp hb
      go_wp2_with fail
      refine (compact_c v7 (ptsL nodes each) w2 HP.out (ptsU_rise _ _ _) HLp.out).mono ?_
      rintro e w3 ⟨rfl, hb⟩
      have HP3 : Hid (PtsIs w3 v7 (ptsL nodes each)) := HP.out.below hb
      have HB3 : Hid (Below w.heap.size w w3) := HB2.out.trans (hb.mono HB2.out.size)
      clear hb
      go_wp2_with fail
      go_ret2
      exact ⟨v7, rfl, HP3.out, HB3.out⟩
end Go.Proofs.YtpcnfoaoajfhlabGreatDoor
