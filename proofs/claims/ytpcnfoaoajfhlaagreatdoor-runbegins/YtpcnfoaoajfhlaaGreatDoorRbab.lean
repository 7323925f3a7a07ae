/-
  Package hash by its contracts: numbers in decimal, a stroke between.
  The document's digits, by their contract: they are the library's.
  Package entry by its contracts: what two entries know.
-/
import Derived.Test.YtpcnfoaoajfhlaaGreatDoorShf
import Derived.Test.YtpcnfoaoajfhlaaGreatDoorRbaa
import Derived.Lib.ItoaLen
import Derived.Lib.Slices
import Derived.Lib.Hide
import Derived.Laws.IdiomStrings
import Derived.OwnWalk
import Derived.BigCall
import Derived.Lib.ItoaNum
namespace Go.Proofs.YtpcnfoaoajfhlaaGreatDoor
set_option linter.unusedVariables false
set_option linter.unusedSimpArgs false
set_option linter.unusedVariables false
set_option linter.unusedSimpArgs false
open Go.RowKit

/-- the first k numbers as they are written -/
def wrP (l : List Int) : Nat → List UInt8
  | 0 => []
  | k + 1 => wrP l k ++ ((if 0 < k then [47] else []) ++ Lib.itoa (l.getD k 0))
/-- a row of numbers that a call has laid -/
def NumsAt (w : World) (v : Value) (l : List Int) : Prop := ∃ b o, v = .slice (some ⟨b, o, none⟩) l.length l.length ∧ b < w.heap.size ∧ ∀ j (h : j < l.length), w.cell? ⟨b, o + j, none⟩ = some (.int .i64 l[j])
theorem infoByte : (Tryz.prog.info? 5).map (fun i => (i.zero, i.size, i.bytes)) = some (some (.int .u8 0), 1, 1) := by kernel_rfl
theorem wrP_len (l : List Int) (hr : ∀ x ∈ l, -9223372036854775808 ≤ x ∧ x ≤ 9223372036854775807) : ∀ k, k ≤ l.length → (wrP l k).length ≤ 22 * k := by
  intro k
  induction k with
  | zero => intro _; exact Nat.le_refl _
  | succ k ih =>
    intro h
    have hm : l.getD k 0 ∈ l := by rw [List.getD_eq_getElem?_getD, List.getElem?_eq_getElem (by omega)]; exact List.getElem_mem _
    have := ih (by omega)
    have h1 := Lib.itoa_length_le (l.getD k 0) (hr _ hm).1 (hr _ hm).2
    rw [wrP, List.length_append, List.length_append]
    split <;> simp only [List.length_cons, List.length_nil] <;> omega
theorem itoa_pos (x : Int) : 0 < (Lib.itoa x).length := by
  have hd : ∀ u, 0 < (Lib.decDigits u).length := fun u => by
    rw [Lib.decDigits]
    split
    · exact Nat.zero_lt_one
    · rw [List.length_append]; exact Nat.succ_pos _
  unfold Lib.itoa
  split
  · exact Nat.succ_pos _
  · exact hd _
theorem wrP_pos (l : List Int) (k : Nat) (h : 0 < k) : 0 < (wrP l k).length := by
  obtain ⟨j, rfl⟩ : ∃ j, k = j + 1 := ⟨k - 1, by omega⟩
  have := itoa_pos (l.getD j 0)
  rw [wrP, List.length_append, List.length_append]
  omega

set_option maxHeartbeats 4000000 in
set_option maxRecDepth 100000 in
theorem written_c (v : Value) (l : List Int) (w : World) (hn : 0 < l.length) (hn3 : l.length ≤ 3) (hr : ∀ x ∈ l, -9223372036854775808 ≤ x ∧ x ≤ 9223372036854775807) (hI : NumsAt w v l)
    (hT : Lib.TabIs Tryz.prog w powName .u64 Lib.pow10Tab) :
    Calls Tryz.prog 146 #[v] w fun e w' => e = .returned (.string ⟨(wrP l l.length).toArray⟩) ∧ Below w.heap.size w w' := by
  obtain ⟨i0, hi, hz0, hz1, hz2⟩ := info_parts infoByte
  have HT : Hid (Lib.TabBelow Tryz.prog w.heap.size w powName .u64 Lib.pow10Tab) := Lib.tabBelow_of_tabIs hT
  clear hT
  obtain ⟨b, o, rfl, hb, hat⟩ := hI
  have HAt : Hid (∀ j (h : j < l.length), w.cell? ⟨b, o + j, none⟩ = some (.int .i64 l[j])) := hat
  have HR : Hid (∀ x ∈ l, -9223372036854775808 ≤ x ∧ x ≤ 9223372036854775807) := hr
  have HLen : Hid (∀ k, k ≤ l.length → (wrP l k).length ≤ 22 * k) := wrP_len l hr
  clear hat hr
  obtain ⟨n, HN⟩ : ∃ n, Hid (l.length = n) := ⟨_, rfl⟩
  simp only [HN.out] at hn hn3 ⊢
  go_enter Tryz.func146, Tryz.ntmps146
  go_wp2_with fail
  go_loopw [3, 8] (fun x i wr => ∃ (j : Nat) (sv : Value), j ≤ n ∧ i = .int .i64 j ∧ x = sv ∧ Hid (wr.ownsRow w.heap.size 5 1 sv (wrP l j).length (Lib.byteCells (wrP l j))) ∧ Hid (Below w.heap.size w wr)) (fun _ i _ => n - (intOf i).toNat)
  case atStart => exact ⟨0, _, Nat.zero_le _, rfl, rfl, World.ownsRow_nil _ _ _ _, Below.refl _ _⟩
  case round =>
    obtain ⟨j, sv, hj, rfl, hx, HO, HB⟩ := hrel
    have hx' := hx.symm
    subst hx'
    by_cases hlt : j < n
    · have hjl : j < l.length := by rw [HN.out]; exact hlt
      have c0 : wr.cell? ⟨b, o + j, none⟩ = some (.int .i64 l[j]) := (World.cell?_of_block (a := ⟨b, o + j, none⟩) (HB.out.block b hb)).trans (HAt.out j hjl)
      obtain ⟨x, HX⟩ : ∃ x, Hid (l[j] = x) := ⟨l[j], show l[j] = l[j] from rfl⟩
      have HXr : Hid (-9223372036854775808 ≤ x ∧ x ≤ 9223372036854775807) := by rw [← HX.out]; exact HR.out _ (List.getElem_mem _)
      rw [HX.out] at c0
      have hwl : (wrP l j).length ≤ 22 * j := HLen.out j (by omega)
      have hws := HB.out.size
      by_cases h0 : 0 < j
      · have h0i : (0 : Int) < (j : Int) := by omega
        go_upto_region 6 with fail
        go_wp2_with (at_builtin; refine wpList_append_own _ rfl _ _ 115 rfl w.heap.size 5 i0 (.int .u8 0) 1 1 Tryz.underlying115 hi hz0 hz1 hz2 rfl (by decide) _ _ _ rfl (HO.out.alloc _) ⟨wr.heap.size, 0, none⟩ 1 1 [Value.int .u8 47] rfl rfl (by intro j u' hj; match j, hj with | 0, hj => simp at hj; subst hj; simp [Addr.add]) (by intro u' hu'; simp at hu'; subst hu'; rfl) (by unfold maxLen; omega) (by omega) (by simp; omega) ?_)
        intro v2 w2 hown2 hgrow _
        have HB2 : Hid (Below w.heap.size w w2) := (HB.out.alloc (by omega) _).grown hgrow (by simp; omega) (fun k hk => (HO.out.lt k hk).1)
        have HO2 : Hid (w2.ownsRow w.heap.size 5 1 v2 (wrP l j ++ [47]).length (Lib.byteCells (wrP l j ++ [47]))) := by
          have e1 : (wrP l j ++ [47]).length = (wrP l j).length + 1 := by rw [List.length_append]; rfl
          have e2 : Lib.byteCells (wrP l j ++ [47]) = Lib.byteCells (wrP l j) ++ [Value.int .u8 47] := by simp [Lib.byteCells]
          rw [e1, e2]
          exact hown2
        clear hown2 hgrow
        have hw2 := HB2.out.size
        have hwl2 : (wrP l j ++ [47]).length ≤ 22 * j + 1 := by rw [List.length_append]; simpa using hwl
        have HE : Hid ((wrP l j ++ [47]) ++ Lib.itoa x = wrP l (j + 1)) := by
          show _ = _
          have hg : l.getD j 0 = x := by rw [List.getD_eq_getElem?_getD, List.getElem?_eq_getElem hjl]; exact HX.out
          rw [wrP, if_pos h0, hg, List.append_assoc]
        go_upto_region 7 with fail
        go_wp2_with (go_at_call 184; refine (appendInt_c w.heap.size _ x HXr.out.1 HXr.out.2 _ _ w2 HO2.out hw2 (by omega) (HT.out.on HB2.out)).mono ?_; rintro e w3 ⟨v3, rfl, hown3, hnx3, -⟩; refine Hid.out ?_)
        refine Lib.hid ?_
        have HB3 : Hid (Below w.heap.size w w3) := HB2.out.trans hnx3
        have HO3 : Hid (w3.ownsRow w.heap.size 5 1 v3 (wrP l (j + 1)).length (Lib.byteCells (wrP l (j + 1)))) := by
          show World.ownsRow _ _ _ _ _ _ _
          rw [← HE.out, List.length_append, Lib.byteCells_append]
          exact hown3
        clear hown3 hnx3
        go_wp2_with fail
        go_roundw
        case rel => exact ⟨j + 1, v3, by omega, by go_num, rfl, HO3.out, HB3.out⟩
        case measure => simp [intOf]; omega
      · go_upto_region 7 with fail
        have hw2 := HB.out.size
        go_wp2_with (go_at_call 184; refine (appendInt_c w.heap.size _ x HXr.out.1 HXr.out.2 _ _ wr HO.out hw2 (by omega) (HT.out.on HB.out)).mono ?_; rintro e w3 ⟨v3, rfl, hown3, hnx3, -⟩; refine Hid.out ?_)
        refine Lib.hid ?_
        have HB3 : Hid (Below w.heap.size w w3) := HB.out.trans hnx3
        have HE : Hid (wrP l j ++ Lib.itoa x = wrP l (j + 1)) := by
          show _ = _
          have hg : l.getD j 0 = x := by rw [List.getD_eq_getElem?_getD, List.getElem?_eq_getElem hjl]; exact HX.out
          rw [wrP, if_neg h0, hg, List.nil_append]
        have HO3 : Hid (w3.ownsRow w.heap.size 5 1 v3 (wrP l (j + 1)).length (Lib.byteCells (wrP l (j + 1)))) := by
          show World.ownsRow _ _ _ _ _ _ _
          rw [← HE.out, List.length_append, Lib.byteCells_append]
          exact hown3
        clear hown3 hnx3
        go_wp2_with fail
        go_roundw
        case rel => exact ⟨j + 1, v3, by omega, by go_num, rfl, HO3.out, HB3.out⟩
        case measure => simp [intOf]; omega
    · obtain rfl : j = n := by omega
      have hpos : 0 < (wrP l j).length := wrP_pos l j hn
      obtain ⟨L, HL⟩ : ∃ L, Hid (wrP l j = L) := ⟨_, rfl⟩
      rw [HL.out] at hpos HO
      have HO' := HO.out
      rcases HO'.2 with ⟨-, h0⟩ | ⟨g, cap, cur, rfl, -, -, -, -, -, -⟩
      · omega
      · have hcv := run_convert_bytes_back (P := Tryz.prog) wr 115 9 5 ⟨g, 0, none⟩ cap L Tryz.underlying115 Tryz.underlying5 Tryz.underlying9 (fun j hj => HO'.cells (g := g) rfl j _ (by simp [Lib.byteCells, hj]))
        clear HO' HO
        go_wp2
        go_ret
        exact ⟨by rw [HL.out]; rfl, HB.out⟩
end Go.Proofs.YtpcnfoaoajfhlaaGreatDoor

namespace Go.Proofs.YtpcnfoaoajfhlaaGreatDoor
set_option linter.unusedVariables false
set_option linter.unusedSimpArgs false
open Go.RowKit

/-- digits as a text -/
def digS (u : Nat) : ByteArray := ⟨(Lib.decDigits u).toArray⟩
theorem nDigits_le (u : Nat) : ∀ k, u < 10 ^ (k + 1) → Lib.nDigits u ≤ k + 1 := by
  intro k
  induction k generalizing u with
  | zero => intro h; rw [Lib.nDigits, dif_pos (by omega)]; exact Nat.le_refl _
  | succ k ih =>
    intro h
    rw [Lib.nDigits]
    split
    · omega
    · have := ih (u / 10) (by rw [Nat.pow_succ] at h; omega)
      omega

theorem one_dig : ∀ k : Fin 10, (⟨#[48, 49, 50, 51, 52, 53, 54, 55, 56, 57]⟩ : ByteArray).extract k.val (k.val + 1) = ⟨#[UInt8.ofNat (48 + k.val)]⟩ := by decide
theorem digS_one {u : Nat} (h : u < 10) : digS u = ⟨#[UInt8.ofNat (48 + u)]⟩ := by rw [digS, Lib.decDigits_one h]
theorem digS_more {u : Nat} (h : ¬ u < 10) : digS u = digS (u / 10) ++ digS (u % 10) := by
  have e : Lib.decDigits u = Lib.decDigits (u / 10) ++ Lib.decDigits (u % 10) := by
    rw [Lib.decDigits, dif_neg h, Lib.decDigits_one (Nat.mod_lt _ (by omega))]
  rw [digS, e]
  apply ByteArray.ext
  rw [ByteArray.data_append]
  simp [digS]
theorem digS_size (u : Nat) (h : u ≤ 9223372036854775807) : (digS u).size ≤ 19 := by
  show (Lib.decDigits u).toArray.size ≤ 19
  rw [List.size_toArray, Lib.decDigits_length]
  exact nDigits_le u 18 (by omega)
theorem slice_dig (k : Nat) (h : k < 10) (w : World) : (Instr.slice 9 (Value.string ⟨#[48, 49, 50, 51, 52, 53, 54, 55, 56, 57]⟩) (some (Value.int IntKind.i64 (k : Int))) (some (Value.int IntKind.i64 ((k : Int) + 1))) none).run Tryz.prog w = .ok (.string (digS k)) w := by
  have hsz : ((⟨#[48, 49, 50, 51, 52, 53, 54, 55, 56, 57]⟩ : ByteArray).size : Int) = 10 := rfl
  have := run_slice_string (P := Tryz.prog) w 9 ⟨#[48, 49, 50, 51, 52, 53, 54, 55, 56, 57]⟩ .i64 .i64 (k : Int) ((k : Int) + 1) Tryz.underlying9 (by omega) (by omega) (by rw [hsz]; omega)
  rw [this]
  have e1 : ((k : Int)).toNat = k := by omega
  have e2 : ((k : Int) + 1).toNat = k + 1 := by omega
  rw [e1, e2, one_dig ⟨k, h⟩, digS_one h]

set_option maxHeartbeats 4000000 in
set_option maxRecDepth 100000 in
theorem digits_c (u : Nat) : u ≤ 9223372036854775807 → ∀ (w : World),
    Calls Tryz.prog 87 #[.int .i64 (u : Nat)] w fun e w' => e = .returned (.string (digS u)) ∧ w' = w := by
  induction u using Nat.strongRecOn with
  | _ u ih =>
  intro hu w
  by_cases h10 : u < 10
  · have hsl := slice_dig u h10 w
    go_enter Tryz.func87, Tryz.ntmps87
    go_wp2_with fail
    go_ret
    exact ⟨rfl, rfl⟩
  · have E := digS_more h10
    obtain ⟨k, hk⟩ : ∃ k, k = u % 10 := ⟨_, rfl⟩
    have hk10 : k < 10 := by omega
    have hki : (u : Int) % 10 = (k : Int) := by omega
    rw [← hk] at E
    have hsl := slice_dig k hk10 w
    have HE : Hid (digS u = digS (u / 10) ++ digS k) := E
    clear E hk
    go_enter Tryz.func87, Tryz.ntmps87
    go_wp2_with fail
    have hq : (u : Int) / 10 = ((u / 10 : Nat) : Int) := by omega
    rw [hq]
    refine (ih (u / 10) (by omega) (by omega) w).mono ?_
    rintro e w1 ⟨rfl, rfl⟩
    obtain ⟨d, HD⟩ : ∃ d, Hid (digS (u / 10) = d) := ⟨_, show digS (u / 10) = digS (u / 10) from rfl⟩
    rw [HD.out] at HE
    have hsd : d.size ≤ 19 := by rw [← HD.out]; exact digS_size _ (by omega)
    have hsk : (digS k).size ≤ 19 := digS_size _ (by omega)
    have hsum : ¬ d.size + (digS k).size > 9223372036854775807 := by omega
    simp only [HD.out]
    go_wp2_with fail
    go_ret
    exact ⟨by rw [HE.out]; rfl, rfl⟩
end Go.Proofs.YtpcnfoaoajfhlaaGreatDoor

namespace Go.Proofs.YtpcnfoaoajfhlaaGreatDoor
set_option linter.unusedVariables false
set_option linter.unusedSimpArgs false
open Go.RowKit
def newerB (va aa vb ab : Int) : Bool := if va = vb then decide (ab < aa) else decide (vb < va)
def clashB (v1 a1 : Int) (g1 : Bool) (t1 : ByteArray) (v2 : Int) (g2 : Bool) (t2 : ByteArray) : Bool := if v1 = v2 then (!(g1 == g2)) || !(t1.toList == t2.toList) else decide (v2 ≤ a1)
theorem isNewer_c (ka va aa : Int) (ga : Bool) (ta : ByteArray) (kb vb ab : Int) (gb : Bool) (tb : ByteArray) (w : World) :
    Calls Tryz.prog 164 #[.agg #[.int .i64 ka, .int .i64 va, .int .i64 aa, .bool ga, .string ta], .agg #[.int .i64 kb, .int .i64 vb, .int .i64 ab, .bool gb, .string tb]] w fun e w' => e = .returned (.bool (newerB va aa vb ab)) ∧ Below w.heap.size w w' := by
  go_enter Tryz.func164, Tryz.ntmps164
  go_wp2
  · go_ret
    rename_i h
    refine ⟨?_, by go_grown⟩
    simp_all [newerB]
  · go_ret
    rename_i h
    refine ⟨?_, by go_grown⟩
    simp_all [newerB]
theorem clash_c (ka va aa : Int) (ga : Bool) (ta : ByteArray) (kb vb ab : Int) (gb : Bool) (tb : ByteArray) (w : World) :
    Calls Tryz.prog 165 #[.agg #[.int .i64 ka, .int .i64 va, .int .i64 aa, .bool ga, .string ta], .agg #[.int .i64 kb, .int .i64 vb, .int .i64 ab, .bool gb, .string tb]] w fun e w' => e = .returned (.bool (clashB va aa ga ta vb gb tb)) ∧ Below w.heap.size w w' := by
  go_enter Tryz.func165, Tryz.ntmps165
  go_wp2
  · go_ret
    refine ⟨?_, by go_grown⟩
    simp_all [clashB]
  · go_ret
    refine ⟨?_, by go_grown⟩
    simp_all [clashB]
  · go_ret
    refine ⟨?_, by go_grown⟩
    simp_all [clashB]
theorem check_ok {k v a : Int} {g : Bool} {t : ByteArray} (h : bad k v a g t = 0) (w : World) :
    Calls Tryz.prog 27 #[.agg #[.int .i64 k, .int .i64 v, .int .i64 a, .bool g, .string t]] w fun e w' => e = .returned .nilIface ∧ Below w.heap.size w w' := by
  have c := check_c k v a g t w
  rw [h] at c
  exact c
theorem check_err {k v a : Int} {g : Bool} {t : ByteArray} {n : Int} (h : bad k v a g t = n) (hn : n ≠ 0) (w : World) :
    Calls Tryz.prog 27 #[.agg #[.int .i64 k, .int .i64 v, .int .i64 a, .bool g, .string t]] w fun e w' => e = .returned (.iface 85 (.int .i64 n)) ∧ Below w.heap.size w w' := by
  have c := check_c k v a g t w
  rw [h, eV, if_neg hn] at c
  exact c
/-- the fault of the first of two that has one -/
def bad2 (m n : Int) : Int := if m = 0 then n else m
theorem two_cells {b : Nat} {ka va aa : Int} {ga : Bool} {ta : ByteArray} {kb vb ab : Int} {gb : Bool} {tb : ByteArray} {w : World} (h : w.heap[b]? = some (.cells #[.int .i64 ka, .int .i64 va, .int .i64 aa, .bool ga, .string ta, .int .i64 kb, .int .i64 vb, .int .i64 ab, .bool gb, .string tb] 46)) :
    w.cell? ⟨b, 0, none⟩ = some (.int .i64 ka) ∧ w.cell? ⟨b, 1, none⟩ = some (.int .i64 va) ∧ w.cell? ⟨b, 2, none⟩ = some (.int .i64 aa) ∧ w.cell? ⟨b, 3, none⟩ = some (.bool ga) ∧ w.cell? ⟨b, 4, none⟩ = some (.string ta) ∧
    w.cell? ⟨b, 5, none⟩ = some (.int .i64 kb) ∧ w.cell? ⟨b, 6, none⟩ = some (.int .i64 vb) ∧ w.cell? ⟨b, 7, none⟩ = some (.int .i64 ab) ∧ w.cell? ⟨b, 8, none⟩ = some (.bool gb) ∧ w.cell? ⟨b, 9, none⟩ = some (.string tb) := by
  unfold World.cell?
  simp only [h]
  simp
set_option maxHeartbeats 4000000 in
theorem all_c (b : Nat) (ka va aa : Int) (ga : Bool) (ta : ByteArray) (kb vb ab : Int) (gb : Bool) (tb : ByteArray) (w : World)
    (h : w.heap[b]? = some (.cells #[.int .i64 ka, .int .i64 va, .int .i64 aa, .bool ga, .string ta, .int .i64 kb, .int .i64 vb, .int .i64 ab, .bool gb, .string tb] 46)) :
    Calls Tryz.prog 163 #[.slice (some ⟨b, 0, none⟩) 2 2] w fun e w' => e = .returned (eV (bad2 (bad ka va aa ga ta) (bad kb vb ab gb tb))) ∧ Below w.heap.size w w' := by
  have HH : Hid (w.heap[b]? = some (.cells #[.int .i64 ka, .int .i64 va, .int .i64 aa, .bool ga, .string ta, .int .i64 kb, .int .i64 vb, .int .i64 ab, .bool gb, .string tb] 46)) := h
  have HL : b < w.heap.size := (Array.getElem?_eq_some_iff.mp h).1
  obtain ⟨m, HM⟩ : ∃ m, Hid (bad ka va aa ga ta = m) := ⟨_, rfl⟩
  obtain ⟨n, HN⟩ : ∃ n, Hid (bad kb vb ab gb tb = n) := ⟨_, rfl⟩
  rw [HM.out, HN.out]
  clear h
  obtain ⟨z0, z1, z2, z3, z4, z5, z6, z7, z8, z9⟩ := two_cells HH.out
  go_enter Tryz.func163, Tryz.ntmps163
  go_wp2_with fail
  refine wp_loop_rounds 3 ?_
  rw [rounds_succ]
  go_wp2_with fail
  by_cases hm : m = 0
  · subst hm
    refine (check_ok HM.out _).mono ?_
    rintro e w1 ⟨rfl, hb⟩
    have B1 : Hid (Below w.heap.size w w1) := Below.trans (by go_grown) (hb.mono (by simp))
    have H1 : Hid (w1.heap[b]? = some (.cells #[.int .i64 ka, .int .i64 va, .int .i64 aa, .bool ga, .string ta, .int .i64 kb, .int .i64 vb, .int .i64 ab, .bool gb, .string tb] 46)) := (B1.out.block b HL).trans HH.out
    clear z0 z1 z2 z3 z4 z5 z6 z7 z8 z9 hb
    obtain ⟨z0, z1, z2, z3, z4, z5, z6, z7, z8, z9⟩ := two_cells H1.out
    go_wp2_with fail
    rw [rounds_succ]
    go_wp2_with fail
    by_cases hn : n = 0
    · subst hn
      refine (check_ok HN.out _).mono ?_
      rintro e w2 ⟨rfl, hb⟩
      have B2 : Hid (Below w.heap.size w w2) := (B1.out.alloc B1.out.size _).trans (hb.mono (by have := B1.out.size; simp; omega))
      clear hb
      go_wp2_with fail
      rw [rounds_succ]
      go_wp2_with fail
      go_ret
      exact ⟨by simp [bad2, eV], B2.out⟩
    · refine (check_err HN.out hn _).mono ?_
      rintro e w2 ⟨rfl, hb⟩
      have B2 : Hid (Below w.heap.size w w2) := (B1.out.alloc B1.out.size _).trans (hb.mono (by have := B1.out.size; simp; omega))
      clear hb
      go_wp2_with fail
      go_ret
      exact ⟨by simp [bad2, eV, hn], B2.out⟩
  · refine (check_err HM.out hm _).mono ?_
    rintro e w1 ⟨rfl, hb⟩
    have B1 : Hid (Below w.heap.size w w1) := Below.trans (by go_grown) (hb.mono (by simp))
    clear hb
    go_wp2_with fail
    go_ret
    refine ⟨?_, B1.out⟩
    simp [bad2, eV, hm]
/-- the result of Join -/
def joinE (x y : En) : En × Int :=
  if bad2 (bad x.k x.v x.a x.g x.t) (bad y.k y.v y.a y.g y.t) ≠ 0 then (⟨0, 0, 0, false, ⟨#[]⟩⟩, bad2 (bad x.k x.v x.a x.g x.t) (bad y.k y.v y.a y.g y.t))
  else if x.k ≠ y.k then (⟨0, 0, 0, false, ⟨#[]⟩⟩, 3)
  else if newerB x.v x.a y.v y.a = true then (if clashB y.v y.a y.g y.t x.v x.g x.t = true then (⟨0, 0, 0, false, ⟨#[]⟩⟩, 7) else (x, 0))
  else if clashB x.v x.a x.g x.t y.v y.g y.t = true then (⟨0, 0, 0, false, ⟨#[]⟩⟩, 7) else (y, 0)
/-- an entry's five cells at a block -/
structure BoxAt (w : World) (b : Nat) (k v a : Int) (g : Bool) (t : ByteArray) : Prop where
  c0 : w.cell? ⟨b, 0, none⟩ = some (.int .i64 k)
  c1 : w.cell? ⟨b, 1, none⟩ = some (.int .i64 v)
  c2 : w.cell? ⟨b, 2, none⟩ = some (.int .i64 a)
  c3 : w.cell? ⟨b, 3, none⟩ = some (.bool g)
  c4 : w.cell? ⟨b, 4, none⟩ = some (.string t)
  fz : ∀ j, w.frozen? ⟨b, j, none⟩ = false
theorem BoxAt.of_block {w w' : World} {b : Nat} {k v a : Int} {g : Bool} {t : ByteArray} (h : BoxAt w b k v a g t) (hb : w'.heap[b]? = w.heap[b]?) : BoxAt w' b k v a g t :=
  ⟨(World.cell?_of_block (a := ⟨b, 0, none⟩) hb).trans h.c0, (World.cell?_of_block (a := ⟨b, 1, none⟩) hb).trans h.c1, (World.cell?_of_block (a := ⟨b, 2, none⟩) hb).trans h.c2, (World.cell?_of_block (a := ⟨b, 3, none⟩) hb).trans h.c3, (World.cell?_of_block (a := ⟨b, 4, none⟩) hb).trans h.c4, fun j => (World.frozen?_of_block (a := ⟨b, j, none⟩) hb).trans (h.fz j)⟩
theorem BoxAt.below {w w' : World} {b B : Nat} {k v a : Int} {g : Bool} {t : ByteArray} (h : BoxAt w b k v a g t) (hb : Below B w w') (hB : b < B) : BoxAt w' b k v a g t := h.of_block (hb.block b hB)
theorem box_new (w : World) (k v a : Int) (g : Bool) (t : ByteArray) (b : Nat) (h : b = w.heap.size) : BoxAt (w.alloc (.cells #[.int .i64 k, .int .i64 v, .int .i64 a, .bool g, .string t] 46)) b k v a g t := by
  subst h
  exact ⟨by simp, by simp, by simp, by simp, by simp, fun j => by simp⟩
theorem BoxAt.alloc {w : World} {b : Nat} {k v a : Int} {g : Bool} {t : ByteArray} (h : BoxAt w b k v a g t) (o : Obj) : BoxAt (w.alloc o) b k v a g t :=
  h.of_block (Below.heap_alloc _ _ _ (World.block_lt_of_cell? w _ h.c0))
theorem BoxAt.lt {w : World} {b : Nat} {k v a : Int} {g : Bool} {t : ByteArray} (h : BoxAt w b k v a g t) : b < w.heap.size := World.block_lt_of_cell? w _ h.c0
theorem BoxAt.drew {w : World} {b : Nat} {k v a : Int} {g : Bool} {t : ByteArray} (h : BoxAt w b k v a g t) : BoxAt w.drew b k v a g t := h.of_block rfl
theorem BoxAt.set {w : World} {b : Nat} {k v a : Int} {g : Bool} {t : ByteArray} (h : BoxAt w b k v a g t) (x0 x1 x2 : Int) (x3 : Bool) (x4 : ByteArray) :
    BoxAt (((((w.setCell ⟨b, 0, none⟩ (.int .i64 x0)).setCell ⟨b, 1, none⟩ (.int .i64 x1)).setCell ⟨b, 2, none⟩ (.int .i64 x2)).setCell ⟨b, 3, none⟩ (.bool x3)).setCell ⟨b, 4, none⟩ (.string x4)) b x0 x1 x2 x3 x4 := by
  obtain ⟨h0, h1, h2, h3, h4, hf⟩ := h
  refine ⟨?_, ?_, ?_, ?_, ?_, fun j => by simp only [World.frozen?_setCell]; exact hf j⟩
  · rw [World.cell?_setCell_other _ _ _ _ (by simp), World.cell?_setCell_other _ _ _ _ (by simp), World.cell?_setCell_other _ _ _ _ (by simp), World.cell?_setCell_other _ _ _ _ (by simp), World.cell?_setCell_same _ _ _ h0]
  · rw [World.cell?_setCell_other _ _ _ _ (by simp), World.cell?_setCell_other _ _ _ _ (by simp), World.cell?_setCell_other _ _ _ _ (by simp)]
    exact World.cell?_setCell_same _ _ _ ((World.cell?_setCell_other _ _ _ _ (by simp)).trans h1)
  · rw [World.cell?_setCell_other _ _ _ _ (by simp), World.cell?_setCell_other _ _ _ _ (by simp)]
    exact World.cell?_setCell_same _ _ _ ((World.cell?_setCell_other _ _ _ _ (by simp)).trans ((World.cell?_setCell_other _ _ _ _ (by simp)).trans h2))
  · rw [World.cell?_setCell_other _ _ _ _ (by simp)]
    exact World.cell?_setCell_same _ _ _ ((World.cell?_setCell_other _ _ _ _ (by simp)).trans ((World.cell?_setCell_other _ _ _ _ (by simp)).trans ((World.cell?_setCell_other _ _ _ _ (by simp)).trans h3)))
  · exact World.cell?_setCell_same _ _ _ ((World.cell?_setCell_other _ _ _ _ (by simp)).trans ((World.cell?_setCell_other _ _ _ _ (by simp)).trans ((World.cell?_setCell_other _ _ _ _ (by simp)).trans ((World.cell?_setCell_other _ _ _ _ (by simp)).trans h4))))
theorem BoxAt.other {w : World} {b c : Nat} {k v a : Int} {g : Bool} {t : ByteArray} (h : BoxAt w b k v a g t) (hc : b ≠ c) (x0 x1 x2 x3 x4 : Value) :
    BoxAt (((((w.setCell ⟨c, 0, none⟩ x0).setCell ⟨c, 1, none⟩ x1).setCell ⟨c, 2, none⟩ x2).setCell ⟨c, 3, none⟩ x3).setCell ⟨c, 4, none⟩ x4) b k v a g t :=
  h.of_block (by rw [Below.heap_setCell _ _ _ b hc, Below.heap_setCell _ _ _ b hc, Below.heap_setCell _ _ _ b hc, Below.heap_setCell _ _ _ b hc, Below.heap_setCell _ _ _ b hc])
theorem alloc_at (w : World) (o : Obj) (b : Nat) (h : b = w.heap.size) : (w.alloc o).heap[b]? = some o := by
  subst h
  exact Array.getElem?_push_size
set_option maxHeartbeats 4000000 in
theorem join_bad (ka va aa : Int) (ga : Bool) (ta : ByteArray) (kb vb ab : Int) (gb : Bool) (tb : ByteArray) (w : World) (n : Int) (hn : n ≠ 0) (h : bad2 (bad ka va aa ga ta) (bad kb vb ab gb tb) = n) :
    Calls Tryz.prog 119 #[.agg #[.int .i64 ka, .int .i64 va, .int .i64 aa, .bool ga, .string ta], .agg #[.int .i64 kb, .int .i64 vb, .int .i64 ab, .bool gb, .string tb]] w fun e w' => e = .returned (.tuple #[.agg #[.int .i64 0, .int .i64 0, .int .i64 0, .bool false, .string ⟨#[]⟩], .iface 85 (.int .i64 n)]) ∧ Below w.heap.size w w' := by
  have H : Hid (bad2 (bad ka va aa ga ta) (bad kb vb ab gb tb) = n) := h
  clear h
  go_enter Tryz.func119, Tryz.ntmps119
  go_wp2_with fail
  refine (all_c (w.heap.size + 1 + 1 + 1) ka va aa ga ta kb vb ab gb tb _ (alloc_at _ _ _ (by simp))).mono ?_
  rintro e w1 ⟨rfl, hb⟩
  rw [H.out, eV, if_neg hn]
  have B1 : Hid (Below w.heap.size w w1) := Below.trans (by go_grown) (hb.mono (by simp; omega))
  obtain ⟨e0, e1, e2, e3, e4, ef⟩ := ((box_new _ 0 0 0 false ⟨#[]⟩ (w.heap.size + 1 + 1) (by simp)).alloc _).below hb (by simp)
  clear hb
  go_wp2_with fail
  refine bodyPost_ret (v := .tuple #[.agg #[.int .i64 0, .int .i64 0, .int .i64 0, .bool false, .string ⟨#[]⟩], .iface 85 (.int .i64 n)]) (by simp [results, Tryz.results119, go_sem, e0, e1, e2, e3, e4]) rfl ?_
  refine ⟨rfl, ?_⟩
  have hb := B1.out
  go_grown
set_option maxHeartbeats 4000000 in
theorem join_key (ka va aa : Int) (ga : Bool) (ta : ByteArray) (kb vb ab : Int) (gb : Bool) (tb : ByteArray) (w : World) (h : bad2 (bad ka va aa ga ta) (bad kb vb ab gb tb) = 0) (hk : ka ≠ kb) :
    Calls Tryz.prog 119 #[.agg #[.int .i64 ka, .int .i64 va, .int .i64 aa, .bool ga, .string ta], .agg #[.int .i64 kb, .int .i64 vb, .int .i64 ab, .bool gb, .string tb]] w fun e w' => e = .returned (.tuple #[.agg #[.int .i64 0, .int .i64 0, .int .i64 0, .bool false, .string ⟨#[]⟩], .iface 85 (.int .i64 3)]) ∧ Below w.heap.size w w' := by
  have H : Hid (bad2 (bad ka va aa ga ta) (bad kb vb ab gb tb) = 0) := h
  clear h
  go_enter Tryz.func119, Tryz.ntmps119
  go_wp2_with fail
  refine (all_c (w.heap.size + 1 + 1 + 1) ka va aa ga ta kb vb ab gb tb _ (alloc_at _ _ _ (by simp))).mono ?_
  rintro e w1 ⟨rfl, hb⟩
  rw [H.out, eV, if_pos rfl]
  have B1 : Hid (Below w.heap.size w w1) := Below.trans (by go_grown) (hb.mono (by simp; omega))
  obtain ⟨e0, e1, e2, e3, e4, ef⟩ := ((box_new _ 0 0 0 false ⟨#[]⟩ (w.heap.size + 1 + 1) (by simp)).alloc _).below hb (by simp)
  obtain ⟨a0, a1, a2, a3, a4, af⟩ := ((((box_new w ka va aa ga ta w.heap.size rfl).alloc _).alloc _).alloc _).below hb (by simp; omega)
  obtain ⟨b0, b1, b2, b3, b4, bf⟩ := (((box_new _ kb vb ab gb tb (w.heap.size + 1) (by simp)).alloc _).alloc _).below hb (by simp)
  clear hb
  go_wp2_with fail
  refine bodyPost_ret (v := .tuple #[.agg #[.int .i64 0, .int .i64 0, .int .i64 0, .bool false, .string ⟨#[]⟩], .iface 85 (.int .i64 3)]) (by simp [results, Tryz.results119, go_sem, e0, e1, e2, e3, e4]) rfl ?_
  refine ⟨rfl, ?_⟩
  have hb := B1.out
  go_grown
end Go.Proofs.YtpcnfoaoajfhlaaGreatDoor
