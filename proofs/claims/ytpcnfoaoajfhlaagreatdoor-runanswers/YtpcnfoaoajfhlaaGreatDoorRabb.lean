/-
  Package ring by its contracts: Points.
  What a row of numbers and a row of points that came in are.
  meresame.Error by its contract, whatever the error's number.
  Package ring's answers to whatever it is asked, with letters.
  A session on lists: what each line is answered, and what it leaves.
  What a line does, on lists: all that is known stays good, and no fault is past the last one.
-/
import Derived.Test.YtpcnfoaoajfhlaaGreatDoorRaav
import Derived.Test.YtpcnfoaoajfhlaaGreatDoorRaat
import Derived.Test.YtpcnfoaoajfhlaaGreatDoorRaas
import Derived.ProofKit
import Derived.OpenShut
import Derived.Deep.Fields
import Derived.ChangeOld
import Derived.RowKitTokens
import Derived.Deep.Slices
import Derived.Test.YtpcnfoaoajfhlaaGreatDoorRaah
import Derived.Test.YtpcnfoaoajfhlaaGreatDoorRaaa
import Derived.Test.YtpcnfoaoajfhlaaGreatDoorRaaw
import Derived.Test.YtpcnfoaoajfhlaaGreatDoorRaba
import Derived.Lib.JoinLaws
namespace Go.Proofs.YtpcnfoaoajfhlaaGreatDoor
set_option linter.unusedVariables false
set_option linter.unusedSimpArgs false
set_option linter.unusedVariables false
set_option linter.unusedSimpArgs false
open Go.RowKit

/-- what is wrong with nodes and how many points each has -/
def badPts (nodes : List Int) (each : Int) : Int := if badNodes nodes ≠ 0 then badNodes nodes else if inR each 1 8 = false then 1 else 0
theorem badPts_good {nodes : List Int} {each : Int} (h : badPts nodes each = 0) : badNodes nodes = 0 ∧ ∃ k : Nat, each = (k : Int) ∧ 1 ≤ k ∧ k ≤ 8 := by
  unfold badPts at h
  split at h
  · rename_i h1
    exact absurd h h1
  · rename_i h1
    split at h
    · cases h
    · rename_i h2
      have h3 : badNodes nodes = 0 := by
        by_cases h' : badNodes nodes = 0
        · exact h'
        · exact absurd h' h1
      have h4 : inR each 1 8 = true := by simpa using h2
      simp [inR] at h4
      exact ⟨h3, each.toNat, by omega, by omega, by omega⟩
theorem badNodes_good {nodes : List Int} (h : badNodes nodes = 0) : (∀ x ∈ nodes, 0 ≤ x ∧ x ≤ 5) ∧ nodes.Nodup ∧ nodes.length ≠ 0 ∧ nodes.length ≤ 6 := by
  unfold badNodes at h
  split at h
  · cases h
  · rename_i h1
    split at h
    · cases h
    · rename_i h2
      obtain ⟨a1, a2⟩ := badFrom_good nodes [] h
      exact ⟨fun x hx => ⟨(a1 x hx).1, (a1 x hx).2.1⟩, a2, h1, by omega⟩
set_option maxHeartbeats 2000000 in
theorem points_bad (v : Value) (nodes : List Int) (each : Int) (w : World) (e0 : Int) (hr : IntsIs w v nodes) (hcap : CapOk v nodes.length) (he : badPts nodes each = e0) (h0 : e0 ≠ 0) :
    Calls Tryz.prog 20 #[v, .int .i64 each] w fun e w' => e = .returned (.tuple #[.slice none 0 0, .iface 85 (.int .i64 e0)]) ∧ Below w.heap.size w w' := by
  have HC : Hid _ := checkNodes_c v nodes w hr hcap
  clear hr hcap
  unfold badPts at he
  by_cases hn : badNodes nodes = 0
  · rw [if_neg (by simp [hn])] at he
    rw [hn, eV_zero] at HC
    cases hE : inR each 1 8
    · rw [if_pos hE] at he
      subst he
      have HE : Hid (inR each 1 8 = false) := hE
      clear hE hn
      go_enter Tryz.func20, Tryz.ntmps20
      go_wp2_with fail
      refine Calls.mono HC.out ?_
      rintro e w1 ⟨rfl, hw⟩
      have hw' := hw.symm
      clear hw
      subst hw'
      go_wp2_with (go_at_call 58; refine (withinR_b _ _ _ false _ HE.out).mono ?_; rintro e w' ⟨rfl, hw⟩; have hw' := hw.symm; clear hw; subst hw')
      go_ret2
      exact ⟨rfl, Below.refl _ _⟩
    · rw [if_neg (by rw [hE]; simp)] at he
      exact absurd he.symm h0
  · rw [if_pos hn] at he
    rw [he, eV_err h0] at HC
    clear hn he
    go_enter Tryz.func20, Tryz.ntmps20
    go_wp2_with fail
    refine Calls.mono HC.out ?_
    rintro e w1 ⟨rfl, hw⟩
    have hw' := hw.symm
    clear hw
    subst hw'
    go_wp2_with fail
    go_ret2
    exact ⟨rfl, Below.refl _ _⟩
set_option maxHeartbeats 8000000 in
theorem points_ok (v : Value) (nodes : List Int) (each : Nat) (w : World) (hr : IntsIs w v nodes) (hcap : CapOk v nodes.length) (hn : badNodes nodes = 0) (h1 : 1 ≤ each) (h8 : each ≤ 8) (hT : Lib.TabIs Tryz.prog w powName .u64 Lib.pow10Tab) :
    Calls Tryz.prog 20 #[v, .int .i64 (each : Nat)] w fun e w' => ∃ u, e = .returned (.tuple #[u, .nilIface]) ∧ PtsIs w' u (ptsL nodes each) ∧ Below w.heap.size w w' := by
  have HC : Hid _ := checkNodes_c v nodes w hr hcap
  rw [hn, eV_zero] at HC
  obtain ⟨hg, hnd, hl0, hl6⟩ := badNodes_good hn
  have HG : Hid (∀ x ∈ nodes, 0 ≤ x ∧ x ≤ 5) := hg
  have HS : Hid ((rawL each nodes).mergeSort (fun x y => !(ltOf cfP) y x) = ptsL nodes each) := sort_is hg hnd h8
  have HTb : Hid (Lib.TabBelow Tryz.prog w.heap.size w powName .u64 Lib.pow10Tab) := Lib.tabBelow_of_tabIs hT
  have HE : Hid (inR (each : Int) 1 8 = true) := by
    show inR (each : Int) 1 8 = true
    simp [inR]
    omega
  obtain ⟨_, p, cap, rfl, hrow⟩ := hr
  have HRow : Hid (nodes ≠ [] → ∃ bb o, p = some ⟨bb, o, none⟩ ∧ bb < w.heap.size ∧ ∀ j (h : j < nodes.length), w.cell? ⟨bb, o + j, none⟩ = some (.int .i64 nodes[j])) := hrow
  clear hrow hcap hn hg hnd hT
  obtain ⟨n, HN⟩ : ∃ n, Hid (nodes.length = n) := ⟨_, rfl⟩
  rw [HN.out] at HC hl0 hl6 ⊢
  go_enter Tryz.func20, Tryz.ntmps20
  go_wp2_with fail
  refine Calls.mono HC.out ?_
  rintro e w1 ⟨rfl, hw⟩
  have hw' := hw.symm
  clear hw
  subst hw'
  go_wp2_with (go_at_call 58; refine (withinR_b _ _ _ true _ HE.out).mono ?_; rintro e w' ⟨rfl, hw⟩; have hw' := hw.symm; clear hw; subst hw')
  go_loopw [7, 24] (fun s7 s24 wr => ∃ (i : Nat) (v7 : Value), s7 = v7 ∧ i ≤ n ∧ s24 = .int .i64 i ∧ Hid (OwnP w.heap.size wr v7 (rawL each (nodes.take i))) ∧ Hid (Below w.heap.size w wr)) (fun _ i _ => n - (intOf i).toNat)
  case atStart => exact ⟨0, .slice none 0 0, rfl, Nat.zero_le _, rfl, OwnP.nil _ _, Below.refl _ _⟩
  case round =>
    obtain ⟨i, v7, hs7, hi, rfl, HO, HB⟩ := hrel
    have hs7' := hs7.symm
    clear hs7
    subst hs7'
    by_cases hlt : i < n
    · have hil : i < nodes.length := by rw [HN.out]; exact hlt
      obtain ⟨b, o, rfl, hbw, hat⟩ := HRow.out (fun h => by simp [h] at hil)
      have c0 : wr.cell? ⟨b, o + i, none⟩ = some (.int .i64 nodes[i]) := (World.cell?_of_block (a := ⟨b, o + i, none⟩) (HB.out.block b hbw)).trans (hat i hil)
      clear hat
      have hlti : (i : Int) < (n : Int) := by omega
      have HNx : Hid (rawL each (nodes.take (i + 1)) = rawL each (nodes.take i) ++ rawN nodes[i] each) := rawL_take hil
      have HLn : Hid ((rawL each (nodes.take i)).length ≤ 48) := by
        show _ ≤ 48
        rw [rawL_len, List.length_take, Nat.min_eq_left (by omega)]
        have : i * each ≤ 6 * 8 := Nat.mul_le_mul (by omega) h8
        omega
      obtain ⟨x, hx0, hx5⟩ : ∃ x : Nat, nodes[i] = (x : Int) ∧ x ≤ 5 := by
        have := HG.out nodes[i] (List.getElem_mem hil)
        exact ⟨nodes[i].toNat, by omega, by omega⟩
      rw [hx0] at c0 HNx
      clear hx0
      obtain ⟨xs, HXs⟩ : ∃ xs, Hid (rawL each (nodes.take i) = xs) := ⟨_, rfl⟩
      rw [HXs.out] at HO HNx HLn
      go_wp2_with fail
      clear c0
      go_loopw [7, 29] (fun s7 s29 wq => ∃ (j : Nat) (v8 : Value), s7 = v8 ∧ j ≤ each ∧ s29 = .int .i64 j ∧ Hid (OwnP w.heap.size wq v8 (xs ++ rawN (x : Int) j)) ∧ Hid (Below w.heap.size w wq)) (fun _ i _ => each - (intOf i).toNat)
      case atStart => exact ⟨0, _, rfl, Nat.zero_le _, rfl, by show OwnP _ _ _ _; rw [rawN_zero, List.append_nil]; exact HO.out, HB⟩
      case round =>
        obtain ⟨j, v8, hs8, hj, rfl, HO2, HB2⟩ := hrel
        have hs8' := hs8.symm
        clear hs8
        subst hs8'
        by_cases hlt2 : j < each
        · have hlti2 : (j : Int) < (each : Int) := by omega
          have hws := HB2.out.size
          have HPl : Hid _ := placeR_c x j wr (by omega) (by omega) (HTb.out _ HB2.out)
          have hpl := plP_lt x j
          have HNj : Hid (rawN (x : Int) (j + 1) = rawN (x : Int) j ++ [⟨(plP x j : Int), (x : Int)⟩]) := rawN_succ (x : Int) j
          obtain ⟨a, HPa⟩ : ∃ a, Hid (plP x j = a) := ⟨_, rfl⟩
          rw [HPa.out] at HPl HNj hpl
          obtain ⟨ys, HYs⟩ : ∃ ys, Hid (xs ++ rawN (x : Int) j = ys) := ⟨_, rfl⟩
          have HY1 : Hid (xs ++ rawN (x : Int) (j + 1) = ys ++ [⟨(a : Int), (x : Int)⟩]) := by
            show _ = _
            rw [HNj.out, ← HYs.out, List.append_assoc]
          have HLy : Hid (ys.length ≤ 2000) := by
            show ys.length ≤ 2000
            rw [← HYs.out, List.length_append, rawN_len]
            have := HLn.out
            omega
          rw [HYs.out] at HO2
          go_wp2_with fail
          refine Calls.mono HPl.out ?_
          rintro e w2 ⟨rfl, hb⟩
          have HB3 : Hid (Below w.heap.size w w2) := HB2.out.trans (hb.mono HB2.out.size)
          have HO3 : Hid (OwnP w.heap.size w2 v8 ys) := HO2.out.below hb
          clear hb HPl
          have hws3 := HB3.out.size
          have HOa : Hid (OwnP w.heap.size (w2.alloc (.cells #[.int .i64 (a : Int), .int .i64 (x : Int)] 110)) v8 ys) := HO3.out.below ((Below.refl _ _).alloc (Nat.le_refl _) _)
          have HVa : Hid ((w2.alloc (.cells #[.int .i64 (a : Int), .int .i64 (x : Int)] 110)).heap[w2.heap.size]? = some (.cells (Pt.cells ⟨(a : Int), (x : Int)⟩).toArray 110 (0, 0))) := alloc_at _ _ _ rfl
          have HSa : Hid (w.heap.size ≤ (w2.alloc (.cells #[.int .i64 (a : Int), .int .i64 (x : Int)] 110)).heap.size) := show _ ≤ _ from (by simp; omega)
          have HBa : Hid (Below w.heap.size w (w2.alloc (.cells #[.int .i64 (a : Int), .int .i64 (x : Int)] 110))) := HB3.out.alloc hws3 _
          go_wp2_with (at_builtin; refine wp_appP _ rfl _ _ rfl w.heap.size _ ys ⟨(a : Int), (x : Int)⟩ rfl HOa.out _ rfl HVa.out HLy.out HSa.out ?_)
          intro va wa hown hgrow
          have HOp : Hid (OwnP w.heap.size wa va (ys ++ [⟨(a : Int), (x : Int)⟩])) := hown
          have HBp : Hid (Below w.heap.size w wa) := below_grownF HBa.out (Nat.le_refl _) hgrow.out (fun c hc => HO3.out.from c hc)
          clear hown hgrow HOa HVa HSa HBa
          go_wp2_with fail
          go_roundw
          case rel =>
            refine ⟨j + 1, _, rfl, by omega, by go_num, ?_, HBp⟩
            show OwnP _ _ _ _
            rw [HY1.out]
            exact HOp.out
          case measure => simp [intOf]; omega
        · obtain rfl : j = each := by omega
          go_wp2_with fail
          go_roundw
          case rel =>
            refine ⟨i + 1, _, rfl, by omega, by go_num, ?_, HB2⟩
            show OwnP _ _ _ _
            rw [HNx.out]
            exact HO2.out
          case measure => simp [intOf]; omega
    · obtain rfl : i = n := by omega
      have e1 : nodes.take i = nodes := by rw [← HN.out, List.take_length]
      rw [e1] at HO
      have hle : (rawL each nodes).length ≤ 2000 := by
        rw [rawL_len, HN.out]
        have : i * each ≤ 6 * 8 := Nat.mul_le_mul (by omega) h8
        omega
      have hpos : 0 < (rawL each nodes).length := by
        rw [rawL_len, HN.out]
        exact Nat.mul_pos (by omega) h1
      have HSo : Hid _ := sortRow_c w.heap.size v7 (rawL each nodes) wr HO.out (List.length_pos_iff.1 hpos) HB.out.size hle
      rw [HS.out] at HSo
      have HLp : Hid ((ptsL nodes each).length ≤ 2000) := by
        show _ ≤ 2000
        rw [← HS.out, List.length_mergeSort]
        exact hle
      clear e1 hle hpos
      go_wp2_with fail
      refine Calls.mono HSo.out ?_
      rintro e w2 ⟨rfl, hp, hb⟩
      have HP : Hid (PtsIs w2 v7 (ptsL nodes each)) := hp
      have HB2 : Hid (Below w.heap.size w w2) := HB.out.trans hb
      clear hp hb
      go_wp2_with fail
      refine (compact_c v7 (ptsL nodes each) w2 HP.out (ptsU_rise _ _ _) HLp.out).mono ?_
      rintro e w3 ⟨rfl, hb⟩
      have HP3 : Hid (PtsIs w3 v7 (ptsL nodes each)) := HP.out.below hb
      have HB3 : Hid (Below w.heap.size w w3) := HB2.out.trans (hb.mono HB2.out.size)
      clear hb
      go_wp2_with fail
      go_ret2
      exact ⟨v7, rfl, HP3.out, HB3.out⟩
end Go.Proofs.YtpcnfoaoajfhlaaGreatDoor

namespace Go.Proofs.YtpcnfoaoajfhlaaGreatDoor
set_option linter.unusedVariables false
set_option linter.unusedSimpArgs false
open Go.ChangeShapes Go.WideShapes Go.RowKit Go.Deep

set_option maxRecDepth 100000 in
theorem cell_pt {H : Type} {enc : TypeId × Value → H} {w : World} {base : Nat} {spare : Nat → Bool} {held : Bool} {n : Nat} {a : Addr} {cs : List Value} {x : DataW H × List MemPlace}
    (h1 : w.cells? base a 2 = some cs) (h2 : DataW.trod enc Tryz.prog w base spare held n 110 cs = some x) :
    ∃ e : Pt, w.cell? (a.add 0) = some (.int .i64 e.p) ∧ w.cell? (a.add 1) = some (.int .i64 e.n) := by
  obtain ⟨_, hlen, hcell⟩ := World.cells?_some h1
  obtain ⟨xs, k, _, _, _, hxl, hf⟩ := DataW.trod_struct Tryz.underlying110 h2
  match xs, hxl, cs, hlen, hcell, hf with
  | [y0, y1], _, [c0, c1], _, hcell, hf =>
    have g0 := hf 0 _ rfl
    have g1 := hf 1 _ rfl
    have ci : Tryz.prog.cellsOf 3 = 1 := by kernel_rfl
    simp [ci] at g0 g1
    obtain ⟨x0, e0, _, _⟩ := DataW.trod_int Tryz.underlying3 g0
    obtain ⟨x1, e1, _, _⟩ := DataW.trod_int Tryz.underlying3 g1
    simp at e0 e1
    subst e0 e1
    have k0 := hcell 0 (by omega)
    have k1 := hcell 1 (by omega)
    exact ⟨⟨x0, x1⟩, by simpa using k0, by simpa using k1⟩
set_option maxRecDepth 100000 in
/-- points that came in -/
theorem pts_of {H : Type} {enc : TypeId × Value → H} {w : World} {base : Nat} {spare : Nat → Bool} {held : Bool} {r : Reach} {b0 : Nat} {v : Value} {d : DataW H} {p : List MemPlace}
    (hv : Value.okWide Tryz.prog w r b0 59 v) (h : DataW.Trod enc Tryz.prog w base spare held 59 v d p) : ∃ l, PtsIs w v l := by
  obtain ⟨a0, len0, cap0, rfl⟩ := okWide_slice Tryz.underlying59 hv
  obtain ⟨fuel, hf⟩ := h
  rcases open_slice Tryz.underlying59 hf with ⟨hcs, _⟩ | ⟨a, len, cap, m, n, D, Pl, hcs, _, hl, hm, hmm, _, hx⟩
  · simp [Value.cells] at hcs
    obtain ⟨rfl, rfl, rfl⟩ := hcs
    exact ⟨[], PtsIs.nil w⟩
  · simp [Value.cells] at hcs
    obtain ⟨rfl, rfl, rfl⟩ := hcs
    have hlm : len0 ≤ m := by rw [hmm]; split <;> omega
    have ce : Tryz.prog.cellsOf 110 = 2 := by kernel_rfl
    have each : ∀ i, i < len0 → ∃ e : Pt, w.cell? (a.add (i * 2)) = some (.int .i64 e.p) ∧ w.cell? (a.add (i * 2 + 1)) = some (.int .i64 e.n) := by
      intro i hi
      obtain ⟨cs', h1, h2⟩ := hx i (by omega)
      rw [ce] at h1
      obtain ⟨e, k0, k1⟩ := cell_pt h1 h2
      rw [add_add] at k0 k1
      exact ⟨e, k0, k1⟩
    have inh : Inhabited Pt := ⟨⟨0, 0⟩⟩
    obtain ⟨f, hfe⟩ := choose_lt each
    refine ⟨(List.range len0).map f, by simp; omega, some a, cap0, by simp, fun hne => ?_⟩
    have h0 : 0 < len0 := by
      rcases Nat.eq_zero_or_pos len0 with h | h
      · subst h; simp at hne
      · exact h
    obtain ⟨b, o, spot⟩ := a
    have hs : spot = none := by simpa [Addr.add] using World.cell?_spot (hfe 0 h0).1
    subst hs
    refine ⟨b, o, rfl, ?_, fun j hj => ?_⟩
    · have := World.block_lt_of_cell? w _ (hfe 0 h0).1
      simpa [Addr.add] using this
    · have hj' : j < len0 := by simpa using hj
      obtain ⟨k0, k1⟩ := hfe j hj'
      rw [Addr.add_lit] at k0 k1
      simp only [List.getElem_map, List.getElem_range]
      exact ⟨k0, by rw [Nat.add_assoc]; exact k1⟩
/-- numbers that came in, and the room behind them -/
def IntsCap (w : World) (v : Value) (l : List Int) : Prop := IntsIs w v l ∧ CapOk v l.length
set_option maxRecDepth 100000 in
theorem nums_of {H : Type} {enc : TypeId × Value → H} {w : World} {base : Nat} {spare : Nat → Bool} {held : Bool} {r : Reach} {b0 : Nat} {v : Value} {d : DataW H} {p : List MemPlace}
    (hv : Value.okWide Tryz.prog w r b0 39 v) (h : DataW.Trod enc Tryz.prog w base spare held 39 v d p) : ∃ l, IntsCap w v l := by
  obtain ⟨a0, len0, cap0, rfl⟩ := okWide_slice Tryz.underlying39 hv
  obtain ⟨fuel, hf⟩ := h
  rcases open_slice Tryz.underlying39 hf with ⟨hcs, _⟩ | ⟨a, len, cap, m, n, D, Pl, hcs, _, hl, hm, hmm, _, hx⟩
  · simp [Value.cells] at hcs
    obtain ⟨rfl, rfl, rfl⟩ := hcs
    exact ⟨[], IntsIs.nil w, CapOk.nil⟩
  · simp [Value.cells] at hcs
    obtain ⟨rfl, rfl, rfl⟩ := hcs
    have hlm : len0 ≤ m := by rw [hmm]; split <;> omega
    have ce : Tryz.prog.cellsOf 3 = 1 := by kernel_rfl
    have each : ∀ i, i < len0 → ∃ e : Int, w.cell? (a.add i) = some (.int .i64 e) := by
      intro i hi
      obtain ⟨cs', h1, h2⟩ := hx i (by omega)
      rw [ce, Nat.mul_one] at h1
      obtain ⟨_, hlen, hcell⟩ := World.cells?_some h1
      obtain ⟨x0, e0, _, _⟩ := DataW.trod_int Tryz.underlying3 h2
      subst e0
      have k0 := hcell 0 (by omega)
      exact ⟨x0, by simpa [add_add] using k0⟩
    obtain ⟨f, hfe⟩ := choose_lt each
    refine ⟨(List.range len0).map f, ⟨by simp; omega, some a, cap0, by simp, fun hne => ?_⟩, ⟨some a, cap0, by simp, by simpa using hl, hm⟩⟩
    have h0 : 0 < len0 := by
      rcases Nat.eq_zero_or_pos len0 with h | h
      · subst h; simp at hne
      · exact h
    obtain ⟨b, o, spot⟩ := a
    have hs : spot = none := by simpa [Addr.add] using World.cell?_spot (hfe 0 h0)
    subst hs
    refine ⟨b, o, rfl, ?_, fun j hj => ?_⟩
    · have := World.block_lt_of_cell? w _ (hfe 0 h0)
      simpa [Addr.add] using this
    · have hj' : j < len0 := by simpa using hj
      have k0 := hfe j hj'
      rw [Addr.add_lit] at k0
      simp only [List.getElem_map, List.getElem_range]
      exact k0
end Go.Proofs.YtpcnfoaoajfhlaaGreatDoor

namespace Go.Proofs.YtpcnfoaoajfhlaaGreatDoor
set_option linter.unusedVariables false
set_option linter.unusedSimpArgs false
open Go.RowKit
theorem err_any (n m : Int) (w : World) (hg : HasErr w) : Calls Tryz.prog 8 #[eV n, .int .i64 m] w fun e w' => e = .returned (.bool (n == m)) ∧ Below w.heap.size w w' := by
  by_cases h : n = 0
  · subst h
    exact (error_nil m w).mono fun e w' ⟨he, hw⟩ => ⟨he, hw ▸ Below.refl _ _⟩
  · have e : eV n = .iface 85 (.int .i64 n) := by simp [eV, h]
    rw [e]
    exact error_err n m w hg
theorem err_same (n : Int) (w : World) (hg : HasErr w) : Calls Tryz.prog 8 #[eV n, .int .i64 n] w fun e w' => e = .returned (.bool true) ∧ Below w.heap.size w w' := by
  have c := err_any n n w hg
  simp only [beq_self_eq_true] at c
  exact c
end Go.Proofs.YtpcnfoaoajfhlaaGreatDoor

namespace Go.Proofs.YtpcnfoaoajfhlaaGreatDoor
set_option linter.unusedVariables false
set_option linter.unusedSimpArgs false
open Go.RowKit

def ansP (nodes : List Int) (each : Int) : List Pt := if badPts nodes each = 0 then ptsL nodes each.toNat else []
theorem points_any {nodes : List Int} {each E1 : Int} {A : List Pt} (hE : badPts nodes each = E1) (hA : ansP nodes each = A) (v : Value) (w : World) (hr : IntsCap w v nodes) (hT : Lib.TabIs Tryz.prog w powName .u64 Lib.pow10Tab) :
    Calls Tryz.prog 20 #[v, .int .i64 each] w fun e w' => ∃ u, e = .returned (.tuple #[u, eV E1]) ∧ PtsIs w' u A ∧ Below w.heap.size w w' := by
  subst hA
  unfold ansP
  by_cases h : E1 = 0
  · rw [if_pos (hE.trans h)]
    subst h
    rw [eV_zero]
    obtain ⟨h1, k, rfl, h2, h3⟩ := badPts_good hE
    exact points_ok v nodes k w hr.1 hr.2 h1 h2 h3 hT
  · rw [if_neg (by rw [hE]; exact h), eV_err h]
    refine (points_bad v nodes each w E1 hr.1 hr.2 hE h).mono ?_
    rintro e w' ⟨rfl, hb⟩
    exact ⟨_, rfl, PtsIs.nil _, hb⟩
def ownerA (l : List Pt) (key : Int) : Int := if badFind l key = 0 then (ownP (keyT key.toNat) l).getD 0 else 0
theorem right_ne {l : List Pt} (h : rightP l = true) : l ≠ [] := by
  intro e
  have := right_len h
  rw [e] at this
  simp at this
theorem own_some {l : List Pt} (h : rightP l = true) (t : Int) : ∃ x, ownP t l = some x := ⟨_, own_first (firstQ_lt (right_ne h))⟩
theorem owner_any {l : List Pt} {key E2 X : Int} (hE : badFind l key = E2) (hX : ownerA l key = X) (v : Value) (w : World) (hr : PtsIs w v l) (hT : Lib.TabIs Tryz.prog w powName .u64 Lib.pow10Tab) :
    Calls Tryz.prog 170 #[v, .int .i64 key] w fun e w' => e = .returned (.tuple #[.int .i64 X, eV E2]) ∧ Below w.heap.size w w' := by
  subst hX
  unfold ownerA
  by_cases h : E2 = 0
  · rw [if_pos (hE.trans h)]
    subst h
    rw [eV_zero]
    obtain ⟨h1, h2⟩ := badFind_zero hE
    obtain ⟨k, rfl, hk⟩ := keyP_nat h2
    obtain ⟨x, hx⟩ := own_some h1 (keyT k)
    have e : (ownP (keyT (k : Int).toNat) l).getD 0 = x := by
      rw [Int.toNat_natCast, hx]
      rfl
    rw [e]
    exact owner_ok v l k w x hr h1 hk hx hT
  · rw [if_neg (by rw [hE]; exact h), eV_err h]
    exact owner_bad v l key w E2 hr hE h
/-- the owners of a key by right points, as many as there are -/
def allO (l : List Pt) (key : Int) : List Int := ownersL (keyT key.toNat) l
def badOwn (l : List Pt) (key many : Int) : Int := if badFind l key ≠ 0 then badFind l key else if inR many 1 6 = false then 1 else if ((allO l key).length : Int) < many then 5 else 0
def ansO (l : List Pt) (key many : Int) : List Int := if badOwn l key many = 0 then (allO l key).take many.toNat else []
theorem owners_any {l : List Pt} {key many E3 : Int} {O : List Int} (hE : badOwn l key many = E3) (hO : ansO l key many = O) (v : Value) (w : World) (hr : PtsIs w v l) (hT : Lib.TabIs Tryz.prog w powName .u64 Lib.pow10Tab) :
    Calls Tryz.prog 21 #[v, .int .i64 key, .int .i64 many] w fun e w' => ∃ u, e = .returned (.tuple #[u, eV E3]) ∧ IntsCap w' u O ∧ Below w.heap.size w w' := by
  subst hO
  unfold ansO
  rw [hE]
  unfold badOwn at hE
  by_cases h : badFind l key = 0
  · rw [if_neg (by simpa using h)] at hE
    obtain ⟨h1, h2⟩ := badFind_zero h
    obtain ⟨k, rfl, hk⟩ := keyP_nat h2
    cases hm : inR many 1 6
    · rw [if_pos hm] at hE
      subst hE
      rw [if_neg (by omega), eV_err (by omega)]
      refine (owners_many v l k many w hr h1 hk hm hT).mono ?_
      rintro e w' ⟨rfl, hb⟩
      exact ⟨_, rfl, ⟨IntsIs.nil _, CapOk.nil⟩, hb⟩
    · rw [if_neg (by rw [hm]; simp)] at hE
      obtain ⟨m, rfl, hm1, hm6⟩ : ∃ m : Nat, many = (m : Int) ∧ 1 ≤ m ∧ m ≤ 6 := by
        simp [inR] at hm
        exact ⟨many.toNat, by omega, by omega, by omega⟩
      refine (owners_ok v l k m w hr h1 hk hm1 hm6 hT).mono ?_
      rintro e w' ⟨ha, hb⟩
      have ea : allO l (k : Int) = ownersL (keyT k) l := by unfold allO; rw [Int.toNat_natCast]
      rw [ea] at hE ⊢
      rcases ha with ⟨hle, u, rfl, hu⟩ | ⟨hle, rfl⟩
      · rw [if_neg (by omega)] at hE
        subst hE
        rw [if_pos rfl, eV_zero, Int.toNat_natCast]
        exact ⟨u, rfl, ⟨hu.ints, hu.cap⟩, hb⟩
      · rw [if_pos (by omega)] at hE
        subst hE
        rw [if_neg (by omega), eV_err (by omega)]
        exact ⟨_, rfl, ⟨IntsIs.nil _, CapOk.nil⟩, hb⟩
  · rw [if_pos h] at hE
    rw [hE] at h
    rw [if_neg h, eV_err h]
    refine (owners_bad v l key many w E3 hr hE h).mono ?_
    rintro e w' ⟨rfl, hb⟩
    exact ⟨_, rfl, ⟨IntsIs.nil _, CapOk.nil⟩, hb⟩
theorem IntsCap.below {w w' : World} {v : Value} {l : List Int} (h : IntsCap w v l) (hb : Below w.heap.size w w') : IntsCap w' v l := ⟨h.1.below hb, h.2⟩
theorem allO_head {l : List Pt} {key : Int} (h : rightP l = true) : ∃ x r, allO l key = x :: r ∧ ownP (keyT key.toNat) l = some x := by
  obtain ⟨x, hx⟩ := own_some h (keyT key.toNat)
  have hh := owners_head (keyT key.toNat) l
  rw [hx] at hh
  unfold allO
  cases hl : ownersL (keyT key.toNat) l with
  | nil => rw [hl] at hh; cases hh
  | cons y r =>
    rw [hl] at hh
    exact ⟨y, r, rfl, by rw [hx]; exact hh.symm⟩
end Go.Proofs.YtpcnfoaoajfhlaaGreatDoor

namespace Go.Proofs.YtpcnfoaoajfhlaaGreatDoor
set_option linter.unusedVariables false
set_option linter.unusedSimpArgs false
open Go.RowKit

/-- the keys of a cache, told -/
def keyBs (x : List En) : List ByteArray := x.map (fun e => digS e.k.toNat)
def cacheB (x : List En) : ByteArray := match x with
  | [] => dashS
  | e :: x => ⟨(Lib.join ((keyBs (e :: x)).map (fun b => b.data.toList)) blankS.data.toList).toArray⟩
/-- whose a key is by four points of each of three nodes -/
def ownPts : List Pt := ansP [0, 1, 2] 4
/-- what a line does -/
abbrev Op := Option (Option (Option (Option (Option (Option Unit)))))
def opN : Op → Nat
  | none => 2
  | some none => 2
  | some (some none) => 3
  | some (some (some none)) => 2
  | some (some (some (some none))) => 0
  | some (some (some (some (some none)))) => 1
  | some (some (some (some (some (some _))))) => 1
def opW : Op → Nat
  | none => 1
  | _ => 0
def opF : Op → Nat
  | none => 122
  | some none => 123
  | some (some none) => 124
  | some (some (some none)) => 125
  | some (some (some (some none))) => 126
  | some (some (some (some (some none)))) => 127
  | some (some (some (some (some (some _))))) => 128
def opO (s : ByteArray) : Option Op :=
  if s = putS then some (none) else if s = deleteS then some (some none) else if s = getS then some (some (some none)) else if s = swapS then some (some (some (some none))) else if s = seqS then some (some (some (some (some none)))) else if s = cacheS then some (some (some (some (some (some none))))) else if s = ownerS then some (some (some (some (some (some (some ())))))) else none
theorem wantO_op (s : ByteArray) : wantO s = (opO s).map (fun o => (opN o, opW o, opF o)) := by
  unfold wantO opO
  split
  · rfl
  split
  · rfl
  split
  · rfl
  split
  · rfl
  split
  · rfl
  split
  · rfl
  split
  · rfl
  · rfl
/-- what is told, the fault, and what is left -/
structure Tell where
  txt : ByteArray
  err : Int
  l : List Deed
  cs : List (List En)
def tellOut (o : MOut) : Tell := ⟨digS o.num.toNat, o.err, o.done, o.cs⟩
def tellGet (l : List Deed) (g : List (List En) × En × Bool × Int) : Tell := ⟨if g.2.2.2 = 0 then getB g.2.1.v.toNat g.2.1.a.toNat g.2.1.g g.2.1.t g.2.2.1 else ⟨#[]⟩, g.2.2.2, l, g.1⟩
def tellSwap (l : List Deed) (g : List (List En) × Int) : Tell := ⟨okS, g.2, l, g.1⟩
def tellCache (l : List Deed) (cs : List (List En)) (g : List En × Int) : Tell := ⟨if g.2 = 0 then cacheB g.1 else ⟨#[]⟩, g.2, l, cs⟩
def tellOwner (l : List Deed) (cs : List (List En)) (key : Int) : Tell := ⟨digS (ownerA ownPts key).toNat, badFind ownPts key, l, cs⟩
def doO (o : Op) (l : List Deed) (cs : List (List En)) (ns : List Nat) (ws : List ByteArray) : Tell := match o with
  | none => tellOut (mPut l cs (ns.getD 0 0 : Nat) (ns.getD 1 0 : Nat) (ws.getD 0 ⟨#[]⟩))
  | some none => tellOut (mDel l cs (ns.getD 0 0 : Nat) (ns.getD 1 0 : Nat))
  | some (some none) => tellGet l (mGet l cs (ns.getD 0 0 : Nat) (ns.getD 1 0 : Nat) (ns.getD 2 0 : Nat))
  | some (some (some none)) => tellSwap l (mSwap cs (ns.getD 0 0 : Nat) (ns.getD 1 0 : Nat))
  | some (some (some (some none))) => ⟨digS l.length, 0, l, cs⟩
  | some (some (some (some (some none)))) => tellCache l cs (mCacheO cs (ns.getD 0 0 : Nat))
  | some (some (some (some (some (some _))))) => tellOwner l cs (ns.getD 0 0 : Nat)
/-- a line's words -/
def splitS (s : ByteArray) : List ByteArray := Lib.splitB blankS 0 (Lib.countB s blankS) s
/-- is one of some words empty? -/
def emptyIn (ws : List ByteArray) : Bool := ws.any (fun b => b.size == 0)
/-- what is done with a line's numbers, and the words behind them -/
def takeN (o : Op) (l : List Deed) (cs : List (List En)) (ws : List ByteArray) : Option (List Nat) → Option Tell
  | none => none
  | some ns => if emptyIn ws = true then none else some (doO o l cs ns ws)
/-- what is done with a line's words behind the first, if it may be -/
def takeW (o : Op) (l : List Deed) (cs : List (List En)) (ws : List ByteArray) : Option Tell := if ws.length = opN o + opW o then takeN o l cs (ws.drop (opN o)) (numsL ((ws.take (opN o)).map wordL)) else none
def takeO (l : List Deed) (cs : List (List En)) (s : ByteArray) : Option Tell := match splitS s with
  | [] => none
  | w :: ws => match opO w with
    | none => none
    | some o => takeW o l cs ws
def nameT (t : Tell) : ByteArray := if t.err = 0 then t.txt else nameB t.err
/-- what a line is answered, and what it leaves -/
def answerO (l : List Deed) (cs : List (List En)) (s : ByteArray) : ByteArray × List Deed × List (List En) := match takeO l cs s with
  | none => (badS, l, cs)
  | some t => (nameT t, t.l, t.cs)
def nlS : ByteArray := ⟨#[10]⟩
/-- the answers to lines -/
def sessO : List Deed → List (List En) → List ByteArray → ByteArray
  | _, _, [] => ⟨#[]⟩
  | l, cs, s :: ss => (answerO l cs s).1 ++ nlS ++ sessO (answerO l cs s).2.1 (answerO l cs s).2.2 ss
def linesB (t : ByteArray) : List ByteArray := (linesL t.data.toList).map (fun b => ⟨b.toArray⟩)
def tooLongS : ByteArray := ⟨#[116, 111, 111, 32, 108, 111, 110, 103, 10]⟩
/-- the answers to a text -/
def runO (t : ByteArray) : ByteArray := if 3000 < t.size then tooLongS else sessO [] (List.replicate 3 []) (linesB t)
theorem ok0 : (0 : Int) ≤ 0 ∧ (0 : Int) ≤ 8 := by omega
theorem ok1 : (0 : Int) ≤ 1 ∧ (1 : Int) ≤ 8 := by omega
theorem ok3 : (0 : Int) ≤ 3 ∧ (3 : Int) ≤ 8 := by omega
theorem ok4 : (0 : Int) ≤ 4 ∧ (4 : Int) ≤ 8 := by omega
theorem ok5 : (0 : Int) ≤ 5 ∧ (5 : Int) ≤ 8 := by omega
theorem pairW_err {l : List Deed} {a b : List En} (hl : Good l) (h1 : l.length ≤ 1000) (ha : GoodC l a) (hb : GoodC l b) : (pairW a b).2.2 = 0 := by
  obtain ⟨x, y, h, _⟩ := pair_was hl h1 ha hb
  rw [h]
theorem mDone_err {o : Out} {l : List Deed} {cs : List (List En)} {a b : Int} (h : 0 ≤ o.err ∧ o.err ≤ 8) : 0 ≤ (mDone o l cs a b).err ∧ (mDone o l cs a b).err ≤ 8 := by
  unfold mDone
  split
  · exact (by first | exact ok0 | exact ok1 | exact ok3 | exact ok4 | exact ok5)
  · split
    · exact h
    · exact (by first | exact ok0 | exact ok1 | exact ok3 | exact ok4 | exact ok5)
theorem recO_err (l : List Deed) (k : Int) (g : Bool) (t : ByteArray) : 0 ≤ (recO l k g t).err ∧ (recO l k g t).err ≤ 8 := by
  unfold recO
  split <;> exact (by first | exact ok0 | exact ok1 | exact ok3 | exact ok4 | exact ok5)
theorem putO_err (l : List Deed) (k : Int) (t : ByteArray) : 0 ≤ (putO l k t).err ∧ (putO l k t).err ≤ 8 := by
  unfold putO
  split
  · exact (by first | exact ok0 | exact ok1 | exact ok3 | exact ok4 | exact ok5)
  · split
    · exact (by first | exact ok0 | exact ok1 | exact ok3 | exact ok4 | exact ok5)
    · exact recO_err _ _ _ _
theorem delO_err (l : List Deed) (k : Int) : 0 ≤ (delO l k).err ∧ (delO l k).err ≤ 8 := by
  unfold delO
  split
  · exact (by first | exact ok0 | exact ok1 | exact ok3 | exact ok4 | exact ok5)
  · split
    · exact (by first | exact ok0 | exact ok1 | exact ok3 | exact ok4 | exact ok5)
    · exact recO_err _ _ _ _
theorem mGet_err (l : List Deed) (cs : List (List En)) (a b c : Int) : 0 ≤ (mGet l cs a b c).2.2.2 ∧ (mGet l cs a b c).2.2.2 ≤ 8 := by
  unfold mGet
  split
  · exact (by first | exact ok0 | exact ok1 | exact ok3 | exact ok4 | exact ok5)
  · split
    · split <;> exact (by first | exact ok0 | exact ok1 | exact ok3 | exact ok4 | exact ok5)
    · exact (by first | exact ok0 | exact ok1 | exact ok3 | exact ok4 | exact ok5)
theorem mSwap_err (cs : List (List En)) (a b : Int) : 0 ≤ (mSwap cs a b).2 ∧ (mSwap cs a b).2 ≤ 8 := by
  unfold mSwap
  split
  · exact (by first | exact ok0 | exact ok1 | exact ok3 | exact ok4 | exact ok5)
  · split <;> exact (by first | exact ok0 | exact ok1 | exact ok3 | exact ok4 | exact ok5)
theorem mCacheO_err (cs : List (List En)) (a : Int) : 0 ≤ (mCacheO cs a).2 ∧ (mCacheO cs a).2 ≤ 8 := by
  unfold mCacheO
  split <;> exact (by first | exact ok0 | exact ok1 | exact ok3 | exact ok4 | exact ok5)
end Go.Proofs.YtpcnfoaoajfhlaaGreatDoor

namespace Go.Proofs.YtpcnfoaoajfhlaaGreatDoor
set_option linter.unusedVariables false
set_option linter.unusedSimpArgs false
open Go.RowKit

/-- an entry's numbers are small, its text is short -/
structure Small (x : En) : Prop where
  k0 : 0 ≤ x.k ∧ x.k ≤ 7
  v0 : 0 ≤ x.v ∧ x.v ≤ 1000
  a0 : 0 ≤ x.a ∧ x.a ≤ 1000
  t0 : x.t.size ≤ 12
theorem small_bad {x : En} (h : x.bad = 0) : Small x := by
  obtain ⟨k, v, a, g, t⟩ := x
  have h' : bad k v a g t = 0 := h
  by_cases hr : (inR k 0 7 && inR v 0 1000 && inR a v 1000) = true
  · by_cases ht : 12 < (t.size : Int)
    · rw [bad_full hr ht] at h'
      cases h'
    · simp only [Bool.and_eq_true, inR, decide_eq_true_eq] at hr
      refine ⟨⟨?_, ?_⟩, ⟨?_, ?_⟩, ⟨?_, ?_⟩, ?_⟩ <;> dsimp only <;> omega
  · rw [bad_ver (by simpa using hr)] at h'
    cases h'
theorem mGet_small {l : List Deed} {cs cs' : List (List En)} {a b c : Int} {x : En} {had : Bool} (h : GoodM l cs) (hx : mGet l cs a b c = (cs', x, had, 0)) : Small x := by
  unfold mGet at hx
  split at hx
  · simp at hx
  · rename_i hn
    have hk : stK b = true := by
      cases e : stK b
      · exact absurd (.inr (.inl e)) hn
      · rfl
    have hw : Small (wasE l b l.length) := small_bad (wasE_bad h.good h.len hk (Nat.le_refl _))
    split at hx
    · rename_i y hy
      have hm : y ∈ cacheN cs a := List.mem_of_find?_eq_some hy
      have hs : Small y := small_bad ((h.at a).good.all y hm)
      split at hx
      · obtain ⟨_, rfl, _⟩ : cs = cs' ∧ y = x ∧ true = had := by simpa using hx
        exact hs
      · obtain ⟨_, rfl, _⟩ : learnM l cs a b = cs' ∧ wasE l b l.length = x ∧ false = had := by simpa using hx
        exact hw
    · obtain ⟨_, rfl, _⟩ : learnM l cs a b = cs' ∧ wasE l b l.length = x ∧ false = had := by simpa using hx
      exact hw
theorem doO_good {l : List Deed} {cs : List (List En)} (h : GoodM l cs) (o : Op) (ns : List Nat) (ws : List ByteArray) : GoodM (doO o l cs ns ws).l (doO o l cs ns ws).cs := by
  rcases o with _ | _ | _ | _ | _ | _ | _
  · exact mPut_good h _ _ _
  · exact mDel_good h _ _
  · exact mGet_good h _ _ _
  · exact mSwap_good h _ _
  · exact h
  · exact h
  · exact h
theorem doO_len {l : List Deed} {cs : List (List En)} (o : Op) (ns : List Nat) (ws : List ByteArray) : (doO o l cs ns ws).cs.length = cs.length := by
  rcases o with _ | _ | _ | _ | _ | _ | _
  · exact mDone_len _ _ _ _ _
  · exact mDone_len _ _ _ _ _
  · exact mGet_len _ _ _ _ _
  · exact mSwap_len _ _ _
  · rfl
  · rfl
  · rfl
theorem badFind_err (l : List Pt) (key : Int) : 0 ≤ badFind l key ∧ badFind l key ≤ 8 := by
  unfold badFind
  split
  · exact ok3
  · split
    · exact ok1
    · exact ok0
theorem doO_err {l : List Deed} {cs : List (List En)} (o : Op) (ns : List Nat) (ws : List ByteArray) : 0 ≤ (doO o l cs ns ws).err ∧ (doO o l cs ns ws).err ≤ 8 := by
  rcases o with _ | _ | _ | _ | _ | _ | _
  · exact mDone_err (putO_err _ _ _)
  · exact mDone_err (delO_err _ _)
  · exact mGet_err _ _ _ _ _
  · exact mSwap_err _ _ _
  · exact ok0
  · exact mCacheO_err _ _
  · simp only [doO, tellOwner]
    exact badFind_err ownPts _
theorem takeW_good {l : List Deed} {cs : List (List En)} (h : GoodM l cs) {o : Op} {ws : List ByteArray} {t : Tell} (ht : takeW o l cs ws = some t) : GoodM t.l t.cs ∧ t.cs.length = cs.length ∧ 0 ≤ t.err ∧ t.err ≤ 8 := by
  unfold takeW at ht
  split at ht
  · unfold takeN at ht
    split at ht
    · cases ht
    · split at ht
      · cases ht
      · obtain rfl := Option.some.inj ht
        exact ⟨doO_good h _ _ _, doO_len _ _ _, doO_err _ _ _⟩
  · cases ht
theorem takeO_good {l : List Deed} {cs : List (List En)} (h : GoodM l cs) {s : ByteArray} {t : Tell} (ht : takeO l cs s = some t) : GoodM t.l t.cs ∧ t.cs.length = cs.length ∧ 0 ≤ t.err ∧ t.err ≤ 8 := by
  unfold takeO at ht
  split at ht
  · cases ht
  · split at ht
    · cases ht
    · exact takeW_good h ht
theorem answerO_good {l : List Deed} {cs : List (List En)} (h : GoodM l cs) (s : ByteArray) : GoodM (answerO l cs s).2.1 (answerO l cs s).2.2 ∧ (answerO l cs s).2.2.length = cs.length := by
  unfold answerO
  split
  · exact ⟨h, rfl⟩
  · rename_i t ht
    obtain ⟨h1, h2, _⟩ := takeO_good h ht
    exact ⟨h1, h2⟩
end Go.Proofs.YtpcnfoaoajfhlaaGreatDoor
