/-
  Package hash by its contracts: numbers in decimal, a stroke between.
-/
import Derived.Test.YtpcnfoaoajfhlaaGreatDoorShf
import Derived.Test.YtpcnfoaoajfhlaaGreatDoorQoac
import Derived.Lib.ItoaLen
import Derived.Lib.Slices
import Derived.Lib.Hide
import Derived.Laws.IdiomStrings
import Derived.OwnWalk
import Derived.BigCall
namespace Go.Proofs.YtpcnfoaoajfhlaaGreatDoor
set_option linter.unusedVariables false
set_option linter.unusedSimpArgs false
set_option linter.unusedVariables false
set_option linter.unusedSimpArgs false
open Go.RowKit

/-- the first k numbers as they are written -/
def wrP (l : List Int) : Nat → List UInt8
  | 0 => []
  | k + 1 => wrP l k ++ ((if 0 < k then [47] else []) ++ Lib.itoa (l.getD k 0))
/-- a row of numbers that a call has laid -/
def NumsAt (w : World) (v : Value) (l : List Int) : Prop := ∃ b o, v = .slice (some ⟨b, o, none⟩) l.length l.length ∧ b < w.heap.size ∧ ∀ j (h : j < l.length), w.cell? ⟨b, o + j, none⟩ = some (.int .i64 l[j])
theorem infoByte : (Tryz.prog.info? 5).map (fun i => (i.zero, i.size, i.bytes)) = some (some (.int .u8 0), 1, 1) := by kernel_rfl
theorem wrP_len (l : List Int) (hr : ∀ x ∈ l, -9223372036854775808 ≤ x ∧ x ≤ 9223372036854775807) : ∀ k, k ≤ l.length → (wrP l k).length ≤ 22 * k := by
  intro k
  induction k with
  | zero => intro _; exact Nat.le_refl _
  | succ k ih =>
    intro h
    have hm : l.getD k 0 ∈ l := by rw [List.getD_eq_getElem?_getD, List.getElem?_eq_getElem (by omega)]; exact List.getElem_mem _
    have := ih (by omega)
    have h1 := Lib.itoa_length_le (l.getD k 0) (hr _ hm).1 (hr _ hm).2
    rw [wrP, List.length_append, List.length_append]
    split <;> simp only [List.length_cons, List.length_nil] <;> omega
theorem itoa_pos (x : Int) : 0 < (Lib.itoa x).length := by
  have hd : ∀ u, 0 < (Lib.decDigits u).length := fun u => by
    rw [Lib.decDigits]
    split
    · exact Nat.zero_lt_one
    · rw [List.length_append]; exact Nat.succ_pos _
  unfold Lib.itoa
  split
  · exact Nat.succ_pos _
  · exact hd _
theorem wrP_pos (l : List Int) (k : Nat) (h : 0 < k) : 0 < (wrP l k).length := by
  obtain ⟨j, rfl⟩ : ∃ j, k = j + 1 := ⟨k - 1, by omega⟩
  have := itoa_pos (l.getD j 0)
  rw [wrP, List.length_append, List.length_append]
  omega

set_option maxHeartbeats 4000000 in
set_option maxRecDepth 100000 in
theorem written_c (v : Value) (l : List Int) (w : World) (hn : 0 < l.length) (hn3 : l.length ≤ 3) (hr : ∀ x ∈ l, -9223372036854775808 ≤ x ∧ x ≤ 9223372036854775807) (hI : NumsAt w v l)
    (hT : Lib.TabIs Tryz.prog w powName .u64 Lib.pow10Tab) :
    Calls Tryz.prog 146 #[v] w fun e w' => e = .returned (.string ⟨(wrP l l.length).toArray⟩) ∧ Below w.heap.size w w' := by
  obtain ⟨i0, hi, hz0, hz1, hz2⟩ := info_parts infoByte
  have HT : Hid (Lib.TabBelow Tryz.prog w.heap.size w powName .u64 Lib.pow10Tab) := Lib.tabBelow_of_tabIs hT
  clear hT
  obtain ⟨b, o, rfl, hb, hat⟩ := hI
  have HAt : Hid (∀ j (h : j < l.length), w.cell? ⟨b, o + j, none⟩ = some (.int .i64 l[j])) := hat
  have HR : Hid (∀ x ∈ l, -9223372036854775808 ≤ x ∧ x ≤ 9223372036854775807) := hr
  have HLen : Hid (∀ k, k ≤ l.length → (wrP l k).length ≤ 22 * k) := wrP_len l hr
  clear hat hr
  obtain ⟨n, HN⟩ : ∃ n, Hid (l.length = n) := ⟨_, rfl⟩
  simp only [HN.out] at hn hn3 ⊢
  go_enter Tryz.func146, Tryz.ntmps146
  go_wp2_with fail
  go_loopw [3, 8] (fun x i wr => ∃ (j : Nat) (sv : Value), j ≤ n ∧ i = .int .i64 j ∧ x = sv ∧ Hid (wr.ownsRow w.heap.size 5 1 sv (wrP l j).length (Lib.byteCells (wrP l j))) ∧ Hid (Below w.heap.size w wr)) (fun _ i _ => n - (intOf i).toNat)
  case atStart => exact ⟨0, _, Nat.zero_le _, rfl, rfl, World.ownsRow_nil _ _ _ _, Below.refl _ _⟩
  case round =>
    obtain ⟨j, sv, hj, rfl, hx, HO, HB⟩ := hrel
    have hx' := hx.symm
    subst hx'
    by_cases hlt : j < n
    · have hjl : j < l.length := by rw [HN.out]; exact hlt
      have c0 : wr.cell? ⟨b, o + j, none⟩ = some (.int .i64 l[j]) := (World.cell?_of_block (a := ⟨b, o + j, none⟩) (HB.out.block b hb)).trans (HAt.out j hjl)
      obtain ⟨x, HX⟩ : ∃ x, Hid (l[j] = x) := ⟨l[j], show l[j] = l[j] from rfl⟩
      have HXr : Hid (-9223372036854775808 ≤ x ∧ x ≤ 9223372036854775807) := by rw [← HX.out]; exact HR.out _ (List.getElem_mem _)
      rw [HX.out] at c0
      have hwl : (wrP l j).length ≤ 22 * j := HLen.out j (by omega)
      have hws := HB.out.size
      by_cases h0 : 0 < j
      · have h0i : (0 : Int) < (j : Int) := by omega
        go_upto_region 6 with fail
        go_wp2_with (at_builtin; refine wpList_append_own _ rfl _ _ 115 rfl w.heap.size 5 i0 (.int .u8 0) 1 1 Tryz.underlying115 hi hz0 hz1 hz2 rfl (by decide) _ _ _ rfl (HO.out.alloc _) ⟨wr.heap.size, 0, none⟩ 1 1 [Value.int .u8 47] rfl rfl (by intro j u' hj; match j, hj with | 0, hj => simp at hj; subst hj; simp [Addr.add]) (by intro u' hu'; simp at hu'; subst hu'; rfl) (by unfold maxLen; omega) (by omega) (by simp; omega) ?_)
        intro v2 w2 hown2 hgrow _
        have HB2 : Hid (Below w.heap.size w w2) := (HB.out.alloc (by omega) _).grown hgrow (by simp; omega) (fun k hk => (HO.out.lt k hk).1)
        have HO2 : Hid (w2.ownsRow w.heap.size 5 1 v2 (wrP l j ++ [47]).length (Lib.byteCells (wrP l j ++ [47]))) := by
          have e1 : (wrP l j ++ [47]).length = (wrP l j).length + 1 := by rw [List.length_append]; rfl
          have e2 : Lib.byteCells (wrP l j ++ [47]) = Lib.byteCells (wrP l j) ++ [Value.int .u8 47] := by simp [Lib.byteCells]
          rw [e1, e2]
          exact hown2
        clear hown2 hgrow
        have hw2 := HB2.out.size
        have hwl2 : (wrP l j ++ [47]).length ≤ 22 * j + 1 := by rw [List.length_append]; simpa using hwl
        have HE : Hid ((wrP l j ++ [47]) ++ Lib.itoa x = wrP l (j + 1)) := by
          show _ = _
          have hg : l.getD j 0 = x := by rw [List.getD_eq_getElem?_getD, List.getElem?_eq_getElem hjl]; exact HX.out
          rw [wrP, if_pos h0, hg, List.append_assoc]
        go_upto_region 7 with fail
        go_wp2_with (go_at_call 184; refine (appendInt_c w.heap.size _ x HXr.out.1 HXr.out.2 _ _ w2 HO2.out hw2 (by omega) (HT.out.on HB2.out)).mono ?_; rintro e w3 ⟨v3, rfl, hown3, hnx3, -⟩; refine Hid.out ?_)
        refine Lib.hid ?_
        have HB3 : Hid (Below w.heap.size w w3) := HB2.out.trans hnx3
        have HO3 : Hid (w3.ownsRow w.heap.size 5 1 v3 (wrP l (j + 1)).length (Lib.byteCells (wrP l (j + 1)))) := by
          show World.ownsRow _ _ _ _ _ _ _
          rw [← HE.out, List.length_append, Lib.byteCells_append]
          exact hown3
        clear hown3 hnx3
        go_wp2_with fail
        go_roundw
        case rel => exact ⟨j + 1, v3, by omega, by go_num, rfl, HO3.out, HB3.out⟩
        case measure => simp [intOf]; omega
      · go_upto_region 7 with fail
        have hw2 := HB.out.size
        go_wp2_with (go_at_call 184; refine (appendInt_c w.heap.size _ x HXr.out.1 HXr.out.2 _ _ wr HO.out hw2 (by omega) (HT.out.on HB.out)).mono ?_; rintro e w3 ⟨v3, rfl, hown3, hnx3, -⟩; refine Hid.out ?_)
        refine Lib.hid ?_
        have HB3 : Hid (Below w.heap.size w w3) := HB.out.trans hnx3
        have HE : Hid (wrP l j ++ Lib.itoa x = wrP l (j + 1)) := by
          show _ = _
          have hg : l.getD j 0 = x := by rw [List.getD_eq_getElem?_getD, List.getElem?_eq_getElem hjl]; exact HX.out
          rw [wrP, if_neg h0, hg, List.nil_append]
        have HO3 : Hid (w3.ownsRow w.heap.size 5 1 v3 (wrP l (j + 1)).length (Lib.byteCells (wrP l (j + 1)))) := by
          show World.ownsRow _ _ _ _ _ _ _
          rw [← HE.out, List.length_append, Lib.byteCells_append]
          exact hown3
        clear hown3 hnx3
        go_wp2_with fail
        go_roundw
        case rel => exact ⟨j + 1, v3, by omega, by go_num, rfl, HO3.out, HB3.out⟩
        case measure => simp [intOf]; omega
    · obtain rfl : j = n := by omega
      have hpos : 0 < (wrP l j).length := wrP_pos l j hn
      obtain ⟨L, HL⟩ : ∃ L, Hid (wrP l j = L) := ⟨_, rfl⟩
      rw [HL.out] at hpos HO
      have HO' := HO.out
      rcases HO'.2 with ⟨-, h0⟩ | ⟨g, cap, cur, rfl, -, -, -, -, -, -⟩
      · omega
      · have hcv := run_convert_bytes_back (P := Tryz.prog) wr 115 9 5 ⟨g, 0, none⟩ cap L Tryz.underlying115 Tryz.underlying5 Tryz.underlying9 (fun j hj => HO'.cells (g := g) rfl j _ (by simp [Lib.byteCells, hj]))
        clear HO' HO
        go_wp2
        go_ret
        exact ⟨by rw [HL.out]; rfl, HB.out⟩
end Go.Proofs.YtpcnfoaoajfhlaaGreatDoor
