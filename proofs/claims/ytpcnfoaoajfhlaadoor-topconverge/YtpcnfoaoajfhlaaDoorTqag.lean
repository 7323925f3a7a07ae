/-
  The document's digits, by their contract: they are the library's.
  Package hash by its contracts: Text, Two, Entry.
  Package hash by its contracts: Entry.
-/
import Derived.Test.YtpcnfoaoajfhlaaDoorTqaf
import Derived.Lib.ItoaNum
import Derived.Lib.ItoaLen
import Derived.Test.YtpcnfoaoajfhlaaDoorTqaa
import Derived.BigGuard
import Derived.Deep.RegionHeld3
import Derived.BigCall
namespace Go.Proofs.YtpcnfoaoajfhlaaDoor
set_option linter.unusedVariables false
set_option linter.unusedSimpArgs false
set_option linter.unusedVariables false
set_option linter.unusedSimpArgs false
open Go.RowKit

/-- digits as a text -/
def digS (u : Nat) : ByteArray := ⟨(Lib.decDigits u).toArray⟩
theorem nDigits_le (u : Nat) : ∀ k, u < 10 ^ (k + 1) → Lib.nDigits u ≤ k + 1 := by
  intro k
  induction k generalizing u with
  | zero => intro h; rw [Lib.nDigits, dif_pos (by omega)]; exact Nat.le_refl _
  | succ k ih =>
    intro h
    rw [Lib.nDigits]
    split
    · omega
    · have := ih (u / 10) (by rw [Nat.pow_succ] at h; omega)
      omega

theorem one_dig : ∀ k : Fin 10, (⟨#[48, 49, 50, 51, 52, 53, 54, 55, 56, 57]⟩ : ByteArray).extract k.val (k.val + 1) = ⟨#[UInt8.ofNat (48 + k.val)]⟩ := by decide
theorem digS_one {u : Nat} (h : u < 10) : digS u = ⟨#[UInt8.ofNat (48 + u)]⟩ := by rw [digS, Lib.decDigits_one h]
theorem digS_more {u : Nat} (h : ¬ u < 10) : digS u = digS (u / 10) ++ digS (u % 10) := by
  have e : Lib.decDigits u = Lib.decDigits (u / 10) ++ Lib.decDigits (u % 10) := by
    rw [Lib.decDigits, dif_neg h, Lib.decDigits_one (Nat.mod_lt _ (by omega))]
  rw [digS, e]
  apply ByteArray.ext
  rw [ByteArray.data_append]
  simp [digS]
theorem digS_size (u : Nat) (h : u ≤ 9223372036854775807) : (digS u).size ≤ 19 := by
  show (Lib.decDigits u).toArray.size ≤ 19
  rw [List.size_toArray, Lib.decDigits_length]
  exact nDigits_le u 18 (by omega)
theorem slice_dig (k : Nat) (h : k < 10) (w : World) : (Instr.slice 9 (Value.string ⟨#[48, 49, 50, 51, 52, 53, 54, 55, 56, 57]⟩) (some (Value.int IntKind.i64 (k : Int))) (some (Value.int IntKind.i64 ((k : Int) + 1))) none).run Tryd.prog w = .ok (.string (digS k)) w := by
  have hsz : ((⟨#[48, 49, 50, 51, 52, 53, 54, 55, 56, 57]⟩ : ByteArray).size : Int) = 10 := rfl
  have := run_slice_string (P := Tryd.prog) w 9 ⟨#[48, 49, 50, 51, 52, 53, 54, 55, 56, 57]⟩ .i64 .i64 (k : Int) ((k : Int) + 1) Tryd.underlying9 (by omega) (by omega) (by rw [hsz]; omega)
  rw [this]
  have e1 : ((k : Int)).toNat = k := by omega
  have e2 : ((k : Int) + 1).toNat = k + 1 := by omega
  rw [e1, e2, one_dig ⟨k, h⟩, digS_one h]

end Go.Proofs.YtpcnfoaoajfhlaaDoor

namespace Go.Proofs.YtpcnfoaoajfhlaaDoor
set_option linter.unusedVariables false
set_option linter.unusedSimpArgs false
open Go.RowKit

/-- the stroke between -/
def slS : ByteArray := ⟨#[47]⟩
/-- two numbers as a text -/
def str2 (a b : Nat) : ByteArray := digS a ++ slS ++ digS b
/-- three numbers as a text -/
def str3 (a b c : Nat) : ByteArray := digS a ++ slS ++ digS b ++ slS ++ digS c
theorem wr_two (a b : Nat) : (⟨(wrP [(a : Int), (b : Int)] 2).toArray⟩ : ByteArray) = str2 a b := by
  apply ByteArray.ext
  have e : wrP [(a : Int), (b : Int)] 2 = Lib.decDigits a ++ [47] ++ Lib.decDigits b := by
    simp [wrP, Lib.itoa_nonneg]
  rw [e, str2, ByteArray.data_append, ByteArray.data_append]
  simp [digS, slS]
theorem wr_three (a b c : Nat) : (⟨(wrP [(a : Int), (b : Int), (c : Int)] 3).toArray⟩ : ByteArray) = str3 a b c := by
  apply ByteArray.ext
  have e : wrP [(a : Int), (b : Int), (c : Int)] 3 = Lib.decDigits a ++ [47] ++ Lib.decDigits b ++ [47] ++ Lib.decDigits c := by
    simp [wrP, Lib.itoa_nonneg]
  rw [e, str3, ByteArray.data_append, ByteArray.data_append, ByteArray.data_append, ByteArray.data_append]
  simp [digS, slS]
theorem str2_size (a b : Nat) (ha : a ≤ 9223372036854775807) (hb : b ≤ 9223372036854775807) : (str2 a b).size ≤ 39 := by
  have h1 := digS_size a ha
  have h2 := digS_size b hb
  rw [str2, ByteArray.size_append, ByteArray.size_append, show slS.size = 1 from rfl]
  omega
theorem str3_size (a b c : Nat) (ha : a ≤ 9223372036854775807) (hb : b ≤ 9223372036854775807) (hc : c ≤ 9223372036854775807) : (str3 a b c).size ≤ 59 := by
  have h1 := digS_size a ha
  have h2 := digS_size b hb
  have h3 := digS_size c hc
  rw [str3, ByteArray.size_append, ByteArray.size_append, ByteArray.size_append, ByteArray.size_append, show slS.size = 1 from rfl]
  omega

theorem nums_two (w : World) (a b : Int) : NumsAt (w.alloc (.cells #[.int .i64 a, .int .i64 b] 3)) (.slice (some ⟨w.heap.size, 0, none⟩) 2 2) [a, b] := by
  refine ⟨w.heap.size, 0, rfl, by simp, fun j h => ?_⟩
  match j, h with
  | 0, _ => simp
  | 1, _ => simp
theorem nums_three (w : World) (a b c : Int) : NumsAt (w.alloc (.cells #[.int .i64 a, .int .i64 b, .int .i64 c] 3)) (.slice (some ⟨w.heap.size, 0, none⟩) 3 3) [a, b, c] := by
  refine ⟨w.heap.size, 0, rfl, by simp, fun j h => ?_⟩
  match j, h with
  | 0, _ => simp
  | 1, _ => simp
  | 2, _ => simp


/-- is it a number of the hash? -/
def isN (n : Int) : Bool := decide (0 ≤ n) && decide (n ≤ 4294967295)
theorem isNumber_c (n : Int) (w : World) (b : Bool) (hb : isN n = b) : Calls Tryd.prog 99 #[.int .i64 n] w fun e w' => e = .returned (.bool b) ∧ w' = w := by
  subst hb
  by_cases h0 : 0 ≤ n
  · by_cases h1 : n ≤ 4294967295
    · have e : isN n = true := by simp [isN, h0, h1]
      rw [e]
      go_enter Tryd.func99, Tryd.ntmps99
      go_wp2_with fail
      go_ret
      exact ⟨rfl, rfl⟩
    · have e : isN n = false := by simp [isN, h1]
      rw [e]
      go_enter Tryd.func99, Tryd.ntmps99
      go_wp2_with fail
      go_ret
      exact ⟨rfl, rfl⟩
  · have e : isN n = false := by simp [isN, h0]
    rw [e]
    go_enter Tryd.func99, Tryd.ntmps99
    go_wp2_with fail
    go_ret
    exact ⟨rfl, rfl⟩

set_option maxHeartbeats 4000000 in
theorem two_bad (a b : Int) (w : World) (h : (isN a && isN b) = false) :
    Calls Tryd.prog 83 #[.int .i64 a, .int .i64 b] w fun e w' => e = .returned (.tuple #[.int .i64 0, .iface 71 (.int .i64 1)]) ∧ w' = w := by
  cases ha : isN a with
  | false =>
    have HA : Hid (isN a = false) := ha
    clear ha h
    go_enter Tryd.func83, Tryd.ntmps83
    go_wp2_with (go_at_call 99; refine (isNumber_c a _ false HA.out).mono ?_; rintro e w1 ⟨rfl, rfl⟩)
    go_ret2
    exact ⟨rfl, rfl⟩
  | true =>
    have HA : Hid (isN a = true) := ha
    have HB : Hid (isN b = false) := by
      show _ = _
      simpa [ha] using h
    clear ha h
    go_enter Tryd.func83, Tryd.ntmps83
    go_wp2_with fail
    refine (isNumber_c a _ true HA.out).mono ?_
    rintro e w1 ⟨rfl, rfl⟩
    go_wp2_with fail
    refine (isNumber_c b _ false HB.out).mono ?_
    rintro e w1 ⟨rfl, rfl⟩
    go_wp2_with fail
    go_ret2
    exact ⟨rfl, rfl⟩
set_option maxHeartbeats 4000000 in
theorem two_ok (a b : Nat) (w : World) (ha : a ≤ 4294967295) (hb : b ≤ 4294967295) (hT : Lib.TabIs Tryd.prog w powName .u64 Lib.pow10Tab) :
    Calls Tryd.prog 83 #[.int .i64 (a : Nat), .int .i64 (b : Nat)] w fun e w' => e = .returned (.tuple #[.int .i64 (hashL (byN (str2 a b)) : Nat), .nilIface]) ∧ Below w.heap.size w w' := by
  have HA : Hid (isN (a : Int) = true) := by
    show _ = _
    simp only [isN, Bool.and_eq_true, decide_eq_true_eq]
    omega
  have HB : Hid (isN (b : Int) = true) := by
    show _ = _
    simp only [isN, Bool.and_eq_true, decide_eq_true_eq]
    omega
  have HT : Hid (Lib.TabBelow Tryd.prog w.heap.size w powName .u64 Lib.pow10Tab) := Lib.tabBelow_of_tabIs hT
  clear hT
  have hsz := str2_size a b (by omega) (by omega)
  have HW := wr_two a b
  obtain ⟨S, HS⟩ : ∃ S, Hid (str2 a b = S) := ⟨_, rfl⟩
  rw [HS.out] at hsz HW ⊢
  have HW' : Hid ((⟨(wrP [(a : Int), (b : Int)] 2).toArray⟩ : ByteArray) = S) := HW
  clear HW
  go_enter Tryd.func83, Tryd.ntmps83
  go_wp2_with fail
  refine (isNumber_c (a : Int) _ true HA.out).mono ?_
  rintro e w1 ⟨rfl, rfl⟩
  go_wp2_with fail
  refine (isNumber_c (b : Int) _ true HB.out).mono ?_
  rintro e w1 ⟨rfl, rfl⟩
  go_wp2_with fail
  have hnx : Below w1.heap.size w1 (w1.alloc (.cells #[.int .i64 a, .int .i64 b] 3)) := by go_grown
  refine (written_c _ [(a : Int), (b : Int)] _ (by simp) (by simp) (fun x hx => by simp at hx; omega) (nums_two w1 a b) (HT.out _ hnx)).mono ?_
  rintro e w2 ⟨rfl, hb2⟩
  have HB2 : Hid (Below w1.heap.size w1 w2) := hnx.trans (hb2.mono (by simp))
  clear hb2 hnx
  have e2 : (⟨(wrP [(a : Int), (b : Int)] [(a : Int), (b : Int)].length).toArray⟩ : ByteArray) = S := HW'.out
  simp only [e2]
  clear e2
  go_wp2_with (go_at_call 97; refine (number_c S _ (by omega)).mono ?_; rintro e w3 ⟨rfl, rfl⟩)
  go_ret2
  exact ⟨rfl, HB2.out⟩
end Go.Proofs.YtpcnfoaoajfhlaaDoor

namespace Go.Proofs.YtpcnfoaoajfhlaaDoor
set_option linter.unusedVariables false
set_option linter.unusedSimpArgs false
open Go.RowKit

/-- an entry as a text -/
def strE (k v : Nat) (g : Bool) (t : ByteArray) : ByteArray := str3 k v (if g = true then 1 else 0) ++ slS ++ t

theorem cell_on {w w' : World} {a : Addr} {v : Value} {B : Nat} (hb : Below B w w') (hB : a.block < B) (h : w.cell? a = some v) : w'.cell? a = some v := (World.cell?_of_block (hb.block a.block hB)).trans h
theorem NumsAt.drew {w : World} {v : Value} {l : List Int} (h : NumsAt w v l) : NumsAt w.drew v l := h

set_option maxHeartbeats 4000000 in
theorem hentry_bad {k v a : Int} {g : Bool} {t : ByteArray} {n : Int} (h : bad k v a g t = n) (hn : n ≠ 0) (w : World) :
    Calls Tryd.prog 82 #[.agg #[.int .i64 k, .int .i64 v, .int .i64 a, .bool g, .string t]] w fun e w' => e = .returned (.tuple #[.int .i64 0, .iface 71 (.int .i64 n)]) ∧ Below w.heap.size w w' := by
  have H : Hid (bad k v a g t = n) := h
  clear h
  go_enter Tryd.func82, Tryd.ntmps82
  go_wp2_with fail
  refine (check_err H.out hn _).mono ?_
  rintro e w1 ⟨rfl, hb⟩
  have B1 : Hid (Below w.heap.size w w1) := Below.trans (by go_grown) (hb.mono (by simp))
  obtain ⟨a0, a1, a2, a3, a4, af⟩ := (box_new w k v a g t w.heap.size rfl).below hb (by simp)
  clear hb
  go_wp2_with fail
  go_ret2
  exact ⟨rfl, B1.out⟩

set_option maxHeartbeats 4000000 in
theorem hentry_ok (k v : Nat) (a : Int) (g : Bool) (t : ByteArray) (h : bad (k : Int) (v : Int) a g t = 0) (hk : k ≤ 1000) (hv : v ≤ 1000) (ht : t.size ≤ 12) (w : World) (hT : Lib.TabIs Tryd.prog w powName .u64 Lib.pow10Tab) :
    Calls Tryd.prog 82 #[.agg #[.int .i64 (k : Nat), .int .i64 (v : Nat), .int .i64 a, .bool g, .string t]] w fun e w' => e = .returned (.tuple #[.int .i64 (hashL (byN (strE k v g t)) : Nat), .nilIface]) ∧ Below w.heap.size w w' := by
  have H : Hid (bad (k : Int) (v : Int) a g t = 0) := h
  clear h
  have HT : Hid (Lib.TabBelow Tryd.prog w.heap.size w powName .u64 Lib.pow10Tab) := Lib.tabBelow_of_tabIs hT
  clear hT
  cases g with
  | false =>
    have hsz := str3_size k v 0 (by omega) (by omega) (by omega)
    have HW0 := wr_three k v 0
    have HE0 : strE k v false t = str3 k v 0 ++ slS ++ t := rfl
    obtain ⟨S, HS⟩ : ∃ S, Hid (str3 k v 0 = S) := ⟨_, rfl⟩
    rw [HS.out] at hsz HW0 HE0
    rw [HE0]
    have HW : Hid ((⟨(wrP [(k : Int), (v : Int), ((0 : Nat) : Int)] 3).toArray⟩ : ByteArray) = S) := HW0
    clear HW0 HE0
    go_enter Tryd.func82, Tryd.ntmps82
    go_wp2_with fail
    refine (check_ok H.out _).mono ?_
    rintro e w1 ⟨rfl, hb⟩
    have B1 : Hid (Below w.heap.size w w1) := Below.trans (by go_grown) (hb.mono (by simp))
    obtain ⟨a0, a1, a2, a3, a4, af⟩ := (box_new w k v a false t w.heap.size rfl).below hb (by simp)
    clear hb
    have HX : Hid (Below w.heap.size w (w1.alloc (.cells #[.int .i64 k, .int .i64 v, .int .i64 0] 3)).drew) := (B1.out.alloc B1.out.size _).drew
    have hz1 : (⟨#[47]⟩ : ByteArray).size = 1 := rfl
    have hs5 : ¬ 9223372036854775807 < S.size + 1 := by omega
    have hs6 : ¬ 9223372036854775807 < S.size + 1 + t.size := by omega
    have HS3 : Hid ((S ++ (⟨#[47]⟩ : ByteArray) ++ t).size ≤ 9223372036854775807) := by
      show _ ≤ _
      rw [ByteArray.size_append, ByteArray.size_append, hz1]
      omega
    clear hz1
    have HW3 : Hid ((⟨(wrP [(k : Int), (v : Int), 0] [(k : Int), (v : Int), 0].length).toArray⟩ : ByteArray) = S) := HW.out
    have hlt1 : w.heap.size < w1.heap.size := World.block_lt_of_cell? w1 _ a4
    have HY : Hid (Below w1.heap.size w1 (w1.alloc (.cells #[.int .i64 k, .int .i64 v, .int .i64 0] 3)).drew) := ((Below.refl _ _).alloc (Nat.le_refl _) _).drew
    have HA0 : Hid ((w1.alloc (.cells #[.int .i64 k, .int .i64 v, .int .i64 0] 3)).drew.cell? ⟨w.heap.size, 0, none⟩ = some (.int .i64 (k : Int))) := cell_on HY.out hlt1 a0
    have HA1 : Hid ((w1.alloc (.cells #[.int .i64 k, .int .i64 v, .int .i64 0] 3)).drew.cell? ⟨w.heap.size, 1, none⟩ = some (.int .i64 (v : Int))) := cell_on HY.out hlt1 a1
    have HA4 : Hid ((w1.alloc (.cells #[.int .i64 k, .int .i64 v, .int .i64 0] 3)).drew.cell? ⟨w.heap.size, 4, none⟩ = some (.string t)) := cell_on HY.out hlt1 a4
    have HL : Hid (w.heap.size < (w1.alloc (.cells #[.int .i64 k, .int .i64 v, .int .i64 0] 3)).drew.heap.size) := by
      show _ < _
      simp
      omega
    have HM : Hid (w.heap.size ≤ (w1.alloc (.cells #[.int .i64 k, .int .i64 v, .int .i64 0] 3)).drew.heap.size) := Nat.le_of_lt HL.out
    go_upto_region 7 with fail
    go_region_held3 (fun w' => w'.cell? ⟨w.heap.size, 0, none⟩ = some (.int .i64 (k : Int)) ∧ w'.cell? ⟨w.heap.size, 1, none⟩ = some (.int .i64 (v : Int)) ∧ w'.cell? ⟨w.heap.size, 4, none⟩ = some (.string t)) (first | go_keep | (exact ⟨cell_on hb2 HL.out HA0.out, cell_on hb2 HL.out HA1.out, cell_on hb2 HL.out HA4.out⟩)) (first | (go_at_call 98; refine (written_c _ [(k : Int), (v : Int), 0] _ (by simp) (by simp) (fun x hx => by simp at hx; omega) (nums_three w1 k v 0).drew (HT.out _ HX.out)).mono ?_; rintro e w2 ⟨rfl, hb2⟩; simp only [HW3.out]) | (go_at_call 97; refine (number_c _ _ HS3.out).mono ?_; rintro e w3 ⟨rfl, rfl⟩))
    have HB2 : Hid (Below w.heap.size w w3) := HX.out.trans (hb2.mono HM.out)
    clear hb2
    go_wp2_with fail
    go_ret2
    exact ⟨rfl, HB2.out⟩
  | true =>
    have hsz := str3_size k v 1 (by omega) (by omega) (by omega)
    have HW0 := wr_three k v 1
    have HE0 : strE k v true t = str3 k v 1 ++ slS ++ t := rfl
    obtain ⟨S, HS⟩ : ∃ S, Hid (str3 k v 1 = S) := ⟨_, rfl⟩
    rw [HS.out] at hsz HW0 HE0
    rw [HE0]
    have HW : Hid ((⟨(wrP [(k : Int), (v : Int), ((1 : Nat) : Int)] 3).toArray⟩ : ByteArray) = S) := HW0
    clear HW0 HE0
    go_enter Tryd.func82, Tryd.ntmps82
    go_wp2_with fail
    refine (check_ok H.out _).mono ?_
    rintro e w1 ⟨rfl, hb⟩
    have B1 : Hid (Below w.heap.size w w1) := Below.trans (by go_grown) (hb.mono (by simp))
    obtain ⟨a0, a1, a2, a3, a4, af⟩ := (box_new w k v a true t w.heap.size rfl).below hb (by simp)
    clear hb
    have HX : Hid (Below w.heap.size w (w1.alloc (.cells #[.int .i64 k, .int .i64 v, .int .i64 1] 3)).drew) := (B1.out.alloc B1.out.size _).drew
    have hz1 : (⟨#[47]⟩ : ByteArray).size = 1 := rfl
    have hs5 : ¬ 9223372036854775807 < S.size + 1 := by omega
    have hs6 : ¬ 9223372036854775807 < S.size + 1 + t.size := by omega
    have HS3 : Hid ((S ++ (⟨#[47]⟩ : ByteArray) ++ t).size ≤ 9223372036854775807) := by
      show _ ≤ _
      rw [ByteArray.size_append, ByteArray.size_append, hz1]
      omega
    clear hz1
    have HW3 : Hid ((⟨(wrP [(k : Int), (v : Int), 1] [(k : Int), (v : Int), 1].length).toArray⟩ : ByteArray) = S) := HW.out
    have hlt1 : w.heap.size < w1.heap.size := World.block_lt_of_cell? w1 _ a4
    have HY : Hid (Below w1.heap.size w1 (w1.alloc (.cells #[.int .i64 k, .int .i64 v, .int .i64 1] 3)).drew) := ((Below.refl _ _).alloc (Nat.le_refl _) _).drew
    have HA0 : Hid ((w1.alloc (.cells #[.int .i64 k, .int .i64 v, .int .i64 1] 3)).drew.cell? ⟨w.heap.size, 0, none⟩ = some (.int .i64 (k : Int))) := cell_on HY.out hlt1 a0
    have HA1 : Hid ((w1.alloc (.cells #[.int .i64 k, .int .i64 v, .int .i64 1] 3)).drew.cell? ⟨w.heap.size, 1, none⟩ = some (.int .i64 (v : Int))) := cell_on HY.out hlt1 a1
    have HA4 : Hid ((w1.alloc (.cells #[.int .i64 k, .int .i64 v, .int .i64 1] 3)).drew.cell? ⟨w.heap.size, 4, none⟩ = some (.string t)) := cell_on HY.out hlt1 a4
    have HL : Hid (w.heap.size < (w1.alloc (.cells #[.int .i64 k, .int .i64 v, .int .i64 1] 3)).drew.heap.size) := by
      show _ < _
      simp
      omega
    have HM : Hid (w.heap.size ≤ (w1.alloc (.cells #[.int .i64 k, .int .i64 v, .int .i64 1] 3)).drew.heap.size) := Nat.le_of_lt HL.out
    go_upto_region 7 with fail
    go_region_held3 (fun w' => w'.cell? ⟨w.heap.size, 0, none⟩ = some (.int .i64 (k : Int)) ∧ w'.cell? ⟨w.heap.size, 1, none⟩ = some (.int .i64 (v : Int)) ∧ w'.cell? ⟨w.heap.size, 4, none⟩ = some (.string t)) (first | go_keep | (exact ⟨cell_on hb2 HL.out HA0.out, cell_on hb2 HL.out HA1.out, cell_on hb2 HL.out HA4.out⟩)) (first | (go_at_call 98; refine (written_c _ [(k : Int), (v : Int), 1] _ (by simp) (by simp) (fun x hx => by simp at hx; omega) (nums_three w1 k v 1).drew (HT.out _ HX.out)).mono ?_; rintro e w2 ⟨rfl, hb2⟩; simp only [HW3.out]) | (go_at_call 97; refine (number_c _ _ HS3.out).mono ?_; rintro e w3 ⟨rfl, rfl⟩))
    have HB2 : Hid (Below w.heap.size w w3) := HX.out.trans (hb2.mono HM.out)
    clear hb2
    go_wp2_with fail
    go_ret2
    exact ⟨rfl, HB2.out⟩
end Go.Proofs.YtpcnfoaoajfhlaaDoor
