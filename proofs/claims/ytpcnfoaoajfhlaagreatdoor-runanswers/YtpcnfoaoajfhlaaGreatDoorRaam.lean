/-
  The document's digits, by their contract: they are the library's.
  Package hash by its contracts: Text, Two, Entry.
  Package hash by its contracts: Entry.
  A tree over eight keys, on functions: f tells a key's number, P that of two numbers. Where two trees part, and how many nodes are asked.
  The number of two numbers and of an entry, in a form that can be reckoned; the one tree's fact.
-/
import Derived.Test.YtpcnfoaoajfhlaaGreatDoorRaal
import Derived.Lib.ItoaNum
import Derived.Lib.ItoaLen
import Derived.Test.YtpcnfoaoajfhlaaGreatDoorRaaa
import Derived.BigGuard
import Derived.Deep.RegionHeld3
import Derived.BigCall
namespace Go.Proofs.YtpcnfoaoajfhlaaGreatDoor
set_option linter.unusedVariables false
set_option linter.unusedSimpArgs false
set_option linter.unusedVariables false
set_option linter.unusedSimpArgs false
open Go.RowKit

/-- digits as a text -/
def digS (u : Nat) : ByteArray := ⟨(Lib.decDigits u).toArray⟩
theorem nDigits_le (u : Nat) : ∀ k, u < 10 ^ (k + 1) → Lib.nDigits u ≤ k + 1 := by
  intro k
  induction k generalizing u with
  | zero => intro h; rw [Lib.nDigits, dif_pos (by omega)]; exact Nat.le_refl _
  | succ k ih =>
    intro h
    rw [Lib.nDigits]
    split
    · omega
    · have := ih (u / 10) (by rw [Nat.pow_succ] at h; omega)
      omega

theorem one_dig : ∀ k : Fin 10, (⟨#[48, 49, 50, 51, 52, 53, 54, 55, 56, 57]⟩ : ByteArray).extract k.val (k.val + 1) = ⟨#[UInt8.ofNat (48 + k.val)]⟩ := by decide
theorem digS_one {u : Nat} (h : u < 10) : digS u = ⟨#[UInt8.ofNat (48 + u)]⟩ := by rw [digS, Lib.decDigits_one h]
theorem digS_more {u : Nat} (h : ¬ u < 10) : digS u = digS (u / 10) ++ digS (u % 10) := by
  have e : Lib.decDigits u = Lib.decDigits (u / 10) ++ Lib.decDigits (u % 10) := by
    rw [Lib.decDigits, dif_neg h, Lib.decDigits_one (Nat.mod_lt _ (by omega))]
  rw [digS, e]
  apply ByteArray.ext
  rw [ByteArray.data_append]
  simp [digS]
theorem digS_size (u : Nat) (h : u ≤ 9223372036854775807) : (digS u).size ≤ 19 := by
  show (Lib.decDigits u).toArray.size ≤ 19
  rw [List.size_toArray, Lib.decDigits_length]
  exact nDigits_le u 18 (by omega)
theorem slice_dig (k : Nat) (h : k < 10) (w : World) : (Instr.slice 9 (Value.string ⟨#[48, 49, 50, 51, 52, 53, 54, 55, 56, 57]⟩) (some (Value.int IntKind.i64 (k : Int))) (some (Value.int IntKind.i64 ((k : Int) + 1))) none).run Tryz.prog w = .ok (.string (digS k)) w := by
  have hsz : ((⟨#[48, 49, 50, 51, 52, 53, 54, 55, 56, 57]⟩ : ByteArray).size : Int) = 10 := rfl
  have := run_slice_string (P := Tryz.prog) w 9 ⟨#[48, 49, 50, 51, 52, 53, 54, 55, 56, 57]⟩ .i64 .i64 (k : Int) ((k : Int) + 1) Tryz.underlying9 (by omega) (by omega) (by rw [hsz]; omega)
  rw [this]
  have e1 : ((k : Int)).toNat = k := by omega
  have e2 : ((k : Int) + 1).toNat = k + 1 := by omega
  rw [e1, e2, one_dig ⟨k, h⟩, digS_one h]

set_option maxHeartbeats 4000000 in
set_option maxRecDepth 100000 in
theorem digits_c (u : Nat) : u ≤ 9223372036854775807 → ∀ (w : World),
    Calls Tryz.prog 87 #[.int .i64 (u : Nat)] w fun e w' => e = .returned (.string (digS u)) ∧ w' = w := by
  induction u using Nat.strongRecOn with
  | _ u ih =>
  intro hu w
  by_cases h10 : u < 10
  · have hsl := slice_dig u h10 w
    go_enter Tryz.func87, Tryz.ntmps87
    go_wp2_with fail
    go_ret
    exact ⟨rfl, rfl⟩
  · have E := digS_more h10
    obtain ⟨k, hk⟩ : ∃ k, k = u % 10 := ⟨_, rfl⟩
    have hk10 : k < 10 := by omega
    have hki : (u : Int) % 10 = (k : Int) := by omega
    rw [← hk] at E
    have hsl := slice_dig k hk10 w
    have HE : Hid (digS u = digS (u / 10) ++ digS k) := E
    clear E hk
    go_enter Tryz.func87, Tryz.ntmps87
    go_wp2_with fail
    have hq : (u : Int) / 10 = ((u / 10 : Nat) : Int) := by omega
    rw [hq]
    refine (ih (u / 10) (by omega) (by omega) w).mono ?_
    rintro e w1 ⟨rfl, rfl⟩
    obtain ⟨d, HD⟩ : ∃ d, Hid (digS (u / 10) = d) := ⟨_, show digS (u / 10) = digS (u / 10) from rfl⟩
    rw [HD.out] at HE
    have hsd : d.size ≤ 19 := by rw [← HD.out]; exact digS_size _ (by omega)
    have hsk : (digS k).size ≤ 19 := digS_size _ (by omega)
    have hsum : ¬ d.size + (digS k).size > 9223372036854775807 := by omega
    simp only [HD.out]
    go_wp2_with fail
    go_ret
    exact ⟨by rw [HE.out]; rfl, rfl⟩
end Go.Proofs.YtpcnfoaoajfhlaaGreatDoor

namespace Go.Proofs.YtpcnfoaoajfhlaaGreatDoor
set_option linter.unusedVariables false
set_option linter.unusedSimpArgs false
open Go.RowKit

/-- the stroke between -/
def slS : ByteArray := ⟨#[47]⟩
/-- two numbers as a text -/
def str2 (a b : Nat) : ByteArray := digS a ++ slS ++ digS b
/-- three numbers as a text -/
def str3 (a b c : Nat) : ByteArray := digS a ++ slS ++ digS b ++ slS ++ digS c
theorem wr_two (a b : Nat) : (⟨(wrP [(a : Int), (b : Int)] 2).toArray⟩ : ByteArray) = str2 a b := by
  apply ByteArray.ext
  have e : wrP [(a : Int), (b : Int)] 2 = Lib.decDigits a ++ [47] ++ Lib.decDigits b := by
    simp [wrP, Lib.itoa_nonneg]
  rw [e, str2, ByteArray.data_append, ByteArray.data_append]
  simp [digS, slS]
theorem wr_three (a b c : Nat) : (⟨(wrP [(a : Int), (b : Int), (c : Int)] 3).toArray⟩ : ByteArray) = str3 a b c := by
  apply ByteArray.ext
  have e : wrP [(a : Int), (b : Int), (c : Int)] 3 = Lib.decDigits a ++ [47] ++ Lib.decDigits b ++ [47] ++ Lib.decDigits c := by
    simp [wrP, Lib.itoa_nonneg]
  rw [e, str3, ByteArray.data_append, ByteArray.data_append, ByteArray.data_append, ByteArray.data_append]
  simp [digS, slS]
theorem str2_size (a b : Nat) (ha : a ≤ 9223372036854775807) (hb : b ≤ 9223372036854775807) : (str2 a b).size ≤ 39 := by
  have h1 := digS_size a ha
  have h2 := digS_size b hb
  rw [str2, ByteArray.size_append, ByteArray.size_append, show slS.size = 1 from rfl]
  omega
theorem str3_size (a b c : Nat) (ha : a ≤ 9223372036854775807) (hb : b ≤ 9223372036854775807) (hc : c ≤ 9223372036854775807) : (str3 a b c).size ≤ 59 := by
  have h1 := digS_size a ha
  have h2 := digS_size b hb
  have h3 := digS_size c hc
  rw [str3, ByteArray.size_append, ByteArray.size_append, ByteArray.size_append, ByteArray.size_append, show slS.size = 1 from rfl]
  omega

theorem nums_two (w : World) (a b : Int) : NumsAt (w.alloc (.cells #[.int .i64 a, .int .i64 b] 3)) (.slice (some ⟨w.heap.size, 0, none⟩) 2 2) [a, b] := by
  refine ⟨w.heap.size, 0, rfl, by simp, fun j h => ?_⟩
  match j, h with
  | 0, _ => simp
  | 1, _ => simp
theorem nums_three (w : World) (a b c : Int) : NumsAt (w.alloc (.cells #[.int .i64 a, .int .i64 b, .int .i64 c] 3)) (.slice (some ⟨w.heap.size, 0, none⟩) 3 3) [a, b, c] := by
  refine ⟨w.heap.size, 0, rfl, by simp, fun j h => ?_⟩
  match j, h with
  | 0, _ => simp
  | 1, _ => simp
  | 2, _ => simp


/-- is it a number of the hash? -/
def isN (n : Int) : Bool := decide (0 ≤ n) && decide (n ≤ 4294967295)
theorem isNumber_c (n : Int) (w : World) (b : Bool) (hb : isN n = b) : Calls Tryz.prog 144 #[.int .i64 n] w fun e w' => e = .returned (.bool b) ∧ w' = w := by
  subst hb
  by_cases h0 : 0 ≤ n
  · by_cases h1 : n ≤ 4294967295
    · have e : isN n = true := by simp [isN, h0, h1]
      rw [e]
      go_enter Tryz.func144, Tryz.ntmps144
      go_wp2_with fail
      go_ret
      exact ⟨rfl, rfl⟩
    · have e : isN n = false := by simp [isN, h1]
      rw [e]
      go_enter Tryz.func144, Tryz.ntmps144
      go_wp2_with fail
      go_ret
      exact ⟨rfl, rfl⟩
  · have e : isN n = false := by simp [isN, h0]
    rw [e]
    go_enter Tryz.func144, Tryz.ntmps144
    go_wp2_with fail
    go_ret
    exact ⟨rfl, rfl⟩

set_option maxHeartbeats 4000000 in
theorem two_bad (a b : Int) (w : World) (h : (isN a && isN b) = false) :
    Calls Tryz.prog 104 #[.int .i64 a, .int .i64 b] w fun e w' => e = .returned (.tuple #[.int .i64 0, .iface 85 (.int .i64 1)]) ∧ w' = w := by
  cases ha : isN a with
  | false =>
    have HA : Hid (isN a = false) := ha
    clear ha h
    go_enter Tryz.func104, Tryz.ntmps104
    go_wp2_with (go_at_call 144; refine (isNumber_c a _ false HA.out).mono ?_; rintro e w1 ⟨rfl, rfl⟩)
    go_ret2
    exact ⟨rfl, rfl⟩
  | true =>
    have HA : Hid (isN a = true) := ha
    have HB : Hid (isN b = false) := by
      show _ = _
      simpa [ha] using h
    clear ha h
    go_enter Tryz.func104, Tryz.ntmps104
    go_wp2_with fail
    refine (isNumber_c a _ true HA.out).mono ?_
    rintro e w1 ⟨rfl, rfl⟩
    go_wp2_with fail
    refine (isNumber_c b _ false HB.out).mono ?_
    rintro e w1 ⟨rfl, rfl⟩
    go_wp2_with fail
    go_ret2
    exact ⟨rfl, rfl⟩
set_option maxHeartbeats 4000000 in
theorem two_ok (a b : Nat) (w : World) (ha : a ≤ 4294967295) (hb : b ≤ 4294967295) (hT : Lib.TabIs Tryz.prog w powName .u64 Lib.pow10Tab) :
    Calls Tryz.prog 104 #[.int .i64 (a : Nat), .int .i64 (b : Nat)] w fun e w' => e = .returned (.tuple #[.int .i64 (hashL (byN (str2 a b)) : Nat), .nilIface]) ∧ Below w.heap.size w w' := by
  have HA : Hid (isN (a : Int) = true) := by
    show _ = _
    simp only [isN, Bool.and_eq_true, decide_eq_true_eq]
    omega
  have HB : Hid (isN (b : Int) = true) := by
    show _ = _
    simp only [isN, Bool.and_eq_true, decide_eq_true_eq]
    omega
  have HT : Hid (Lib.TabBelow Tryz.prog w.heap.size w powName .u64 Lib.pow10Tab) := Lib.tabBelow_of_tabIs hT
  clear hT
  have hsz := str2_size a b (by omega) (by omega)
  have HW := wr_two a b
  obtain ⟨S, HS⟩ : ∃ S, Hid (str2 a b = S) := ⟨_, rfl⟩
  rw [HS.out] at hsz HW ⊢
  have HW' : Hid ((⟨(wrP [(a : Int), (b : Int)] 2).toArray⟩ : ByteArray) = S) := HW
  clear HW
  go_enter Tryz.func104, Tryz.ntmps104
  go_wp2_with fail
  refine (isNumber_c (a : Int) _ true HA.out).mono ?_
  rintro e w1 ⟨rfl, rfl⟩
  go_wp2_with fail
  refine (isNumber_c (b : Int) _ true HB.out).mono ?_
  rintro e w1 ⟨rfl, rfl⟩
  go_wp2_with fail
  have hnx : Below w1.heap.size w1 (w1.alloc (.cells #[.int .i64 a, .int .i64 b] 3)) := by go_grown
  refine (written_c _ [(a : Int), (b : Int)] _ (by simp) (by simp) (fun x hx => by simp at hx; omega) (nums_two w1 a b) (HT.out _ hnx)).mono ?_
  rintro e w2 ⟨rfl, hb2⟩
  have HB2 : Hid (Below w1.heap.size w1 w2) := hnx.trans (hb2.mono (by simp))
  clear hb2 hnx
  have e2 : (⟨(wrP [(a : Int), (b : Int)] [(a : Int), (b : Int)].length).toArray⟩ : ByteArray) = S := HW'.out
  simp only [e2]
  clear e2
  go_wp2_with (go_at_call 145; refine (number_c S _ (by omega)).mono ?_; rintro e w3 ⟨rfl, rfl⟩)
  go_ret2
  exact ⟨rfl, HB2.out⟩
end Go.Proofs.YtpcnfoaoajfhlaaGreatDoor

namespace Go.Proofs.YtpcnfoaoajfhlaaGreatDoor
set_option linter.unusedVariables false
set_option linter.unusedSimpArgs false
open Go.RowKit

/-- an entry as a text -/
def strE (k v : Nat) (g : Bool) (t : ByteArray) : ByteArray := str3 k v (if g = true then 1 else 0) ++ slS ++ t

theorem cell_on {w w' : World} {a : Addr} {v : Value} {B : Nat} (hb : Below B w w') (hB : a.block < B) (h : w.cell? a = some v) : w'.cell? a = some v := (World.cell?_of_block (hb.block a.block hB)).trans h
theorem NumsAt.drew {w : World} {v : Value} {l : List Int} (h : NumsAt w v l) : NumsAt w.drew v l := h

set_option maxHeartbeats 4000000 in
theorem hentry_bad {k v a : Int} {g : Bool} {t : ByteArray} {n : Int} (h : bad k v a g t = n) (hn : n ≠ 0) (w : World) :
    Calls Tryz.prog 197 #[.agg #[.int .i64 k, .int .i64 v, .int .i64 a, .bool g, .string t]] w fun e w' => e = .returned (.tuple #[.int .i64 0, .iface 85 (.int .i64 n)]) ∧ Below w.heap.size w w' := by
  have H : Hid (bad k v a g t = n) := h
  clear h
  go_enter Tryz.func197, Tryz.ntmps197
  go_wp2_with fail
  refine (check_err H.out hn _).mono ?_
  rintro e w1 ⟨rfl, hb⟩
  have B1 : Hid (Below w.heap.size w w1) := Below.trans (by go_grown) (hb.mono (by simp))
  obtain ⟨a0, a1, a2, a3, a4, af⟩ := (box_new w k v a g t w.heap.size rfl).below hb (by simp)
  clear hb
  go_wp2_with fail
  go_ret2
  exact ⟨rfl, B1.out⟩

set_option maxHeartbeats 4000000 in
theorem hentry_ok (k v : Nat) (a : Int) (g : Bool) (t : ByteArray) (h : bad (k : Int) (v : Int) a g t = 0) (hk : k ≤ 1000) (hv : v ≤ 1000) (ht : t.size ≤ 12) (w : World) (hT : Lib.TabIs Tryz.prog w powName .u64 Lib.pow10Tab) :
    Calls Tryz.prog 197 #[.agg #[.int .i64 (k : Nat), .int .i64 (v : Nat), .int .i64 a, .bool g, .string t]] w fun e w' => e = .returned (.tuple #[.int .i64 (hashL (byN (strE k v g t)) : Nat), .nilIface]) ∧ Below w.heap.size w w' := by
  have H : Hid (bad (k : Int) (v : Int) a g t = 0) := h
  clear h
  have HT : Hid (Lib.TabBelow Tryz.prog w.heap.size w powName .u64 Lib.pow10Tab) := Lib.tabBelow_of_tabIs hT
  clear hT
  cases g with
  | false =>
    have hsz := str3_size k v 0 (by omega) (by omega) (by omega)
    have HW0 := wr_three k v 0
    have HE0 : strE k v false t = str3 k v 0 ++ slS ++ t := rfl
    obtain ⟨S, HS⟩ : ∃ S, Hid (str3 k v 0 = S) := ⟨_, rfl⟩
    rw [HS.out] at hsz HW0 HE0
    rw [HE0]
    have HW : Hid ((⟨(wrP [(k : Int), (v : Int), ((0 : Nat) : Int)] 3).toArray⟩ : ByteArray) = S) := HW0
    clear HW0 HE0
    go_enter Tryz.func197, Tryz.ntmps197
    go_wp2_with fail
    refine (check_ok H.out _).mono ?_
    rintro e w1 ⟨rfl, hb⟩
    have B1 : Hid (Below w.heap.size w w1) := Below.trans (by go_grown) (hb.mono (by simp))
    obtain ⟨a0, a1, a2, a3, a4, af⟩ := (box_new w k v a false t w.heap.size rfl).below hb (by simp)
    clear hb
    have HX : Hid (Below w.heap.size w (w1.alloc (.cells #[.int .i64 k, .int .i64 v, .int .i64 0] 3)).drew) := (B1.out.alloc B1.out.size _).drew
    have hz1 : (⟨#[47]⟩ : ByteArray).size = 1 := rfl
    have hs5 : ¬ 9223372036854775807 < S.size + 1 := by omega
    have hs6 : ¬ 9223372036854775807 < S.size + 1 + t.size := by omega
    have HS3 : Hid ((S ++ (⟨#[47]⟩ : ByteArray) ++ t).size ≤ 9223372036854775807) := by
      show _ ≤ _
      rw [ByteArray.size_append, ByteArray.size_append, hz1]
      omega
    clear hz1
    have HW3 : Hid ((⟨(wrP [(k : Int), (v : Int), 0] [(k : Int), (v : Int), 0].length).toArray⟩ : ByteArray) = S) := HW.out
    have hlt1 : w.heap.size < w1.heap.size := World.block_lt_of_cell? w1 _ a4
    have HY : Hid (Below w1.heap.size w1 (w1.alloc (.cells #[.int .i64 k, .int .i64 v, .int .i64 0] 3)).drew) := ((Below.refl _ _).alloc (Nat.le_refl _) _).drew
    have HA0 : Hid ((w1.alloc (.cells #[.int .i64 k, .int .i64 v, .int .i64 0] 3)).drew.cell? ⟨w.heap.size, 0, none⟩ = some (.int .i64 (k : Int))) := cell_on HY.out hlt1 a0
    have HA1 : Hid ((w1.alloc (.cells #[.int .i64 k, .int .i64 v, .int .i64 0] 3)).drew.cell? ⟨w.heap.size, 1, none⟩ = some (.int .i64 (v : Int))) := cell_on HY.out hlt1 a1
    have HA4 : Hid ((w1.alloc (.cells #[.int .i64 k, .int .i64 v, .int .i64 0] 3)).drew.cell? ⟨w.heap.size, 4, none⟩ = some (.string t)) := cell_on HY.out hlt1 a4
    have HL : Hid (w.heap.size < (w1.alloc (.cells #[.int .i64 k, .int .i64 v, .int .i64 0] 3)).drew.heap.size) := by
      show _ < _
      simp
      omega
    have HM : Hid (w.heap.size ≤ (w1.alloc (.cells #[.int .i64 k, .int .i64 v, .int .i64 0] 3)).drew.heap.size) := Nat.le_of_lt HL.out
    go_upto_region 7 with fail
    go_region_held3 (fun w' => w'.cell? ⟨w.heap.size, 0, none⟩ = some (.int .i64 (k : Int)) ∧ w'.cell? ⟨w.heap.size, 1, none⟩ = some (.int .i64 (v : Int)) ∧ w'.cell? ⟨w.heap.size, 4, none⟩ = some (.string t)) (first | go_keep | (exact ⟨cell_on hb2 HL.out HA0.out, cell_on hb2 HL.out HA1.out, cell_on hb2 HL.out HA4.out⟩)) (first | (go_at_call 146; refine (written_c _ [(k : Int), (v : Int), 0] _ (by simp) (by simp) (fun x hx => by simp at hx; omega) (nums_three w1 k v 0).drew (HT.out _ HX.out)).mono ?_; rintro e w2 ⟨rfl, hb2⟩; simp only [HW3.out]) | (go_at_call 145; refine (number_c _ _ HS3.out).mono ?_; rintro e w3 ⟨rfl, rfl⟩))
    have HB2 : Hid (Below w.heap.size w w3) := HX.out.trans (hb2.mono HM.out)
    clear hb2
    go_wp2_with fail
    go_ret2
    exact ⟨rfl, HB2.out⟩
  | true =>
    have hsz := str3_size k v 1 (by omega) (by omega) (by omega)
    have HW0 := wr_three k v 1
    have HE0 : strE k v true t = str3 k v 1 ++ slS ++ t := rfl
    obtain ⟨S, HS⟩ : ∃ S, Hid (str3 k v 1 = S) := ⟨_, rfl⟩
    rw [HS.out] at hsz HW0 HE0
    rw [HE0]
    have HW : Hid ((⟨(wrP [(k : Int), (v : Int), ((1 : Nat) : Int)] 3).toArray⟩ : ByteArray) = S) := HW0
    clear HW0 HE0
    go_enter Tryz.func197, Tryz.ntmps197
    go_wp2_with fail
    refine (check_ok H.out _).mono ?_
    rintro e w1 ⟨rfl, hb⟩
    have B1 : Hid (Below w.heap.size w w1) := Below.trans (by go_grown) (hb.mono (by simp))
    obtain ⟨a0, a1, a2, a3, a4, af⟩ := (box_new w k v a true t w.heap.size rfl).below hb (by simp)
    clear hb
    have HX : Hid (Below w.heap.size w (w1.alloc (.cells #[.int .i64 k, .int .i64 v, .int .i64 1] 3)).drew) := (B1.out.alloc B1.out.size _).drew
    have hz1 : (⟨#[47]⟩ : ByteArray).size = 1 := rfl
    have hs5 : ¬ 9223372036854775807 < S.size + 1 := by omega
    have hs6 : ¬ 9223372036854775807 < S.size + 1 + t.size := by omega
    have HS3 : Hid ((S ++ (⟨#[47]⟩ : ByteArray) ++ t).size ≤ 9223372036854775807) := by
      show _ ≤ _
      rw [ByteArray.size_append, ByteArray.size_append, hz1]
      omega
    clear hz1
    have HW3 : Hid ((⟨(wrP [(k : Int), (v : Int), 1] [(k : Int), (v : Int), 1].length).toArray⟩ : ByteArray) = S) := HW.out
    have hlt1 : w.heap.size < w1.heap.size := World.block_lt_of_cell? w1 _ a4
    have HY : Hid (Below w1.heap.size w1 (w1.alloc (.cells #[.int .i64 k, .int .i64 v, .int .i64 1] 3)).drew) := ((Below.refl _ _).alloc (Nat.le_refl _) _).drew
    have HA0 : Hid ((w1.alloc (.cells #[.int .i64 k, .int .i64 v, .int .i64 1] 3)).drew.cell? ⟨w.heap.size, 0, none⟩ = some (.int .i64 (k : Int))) := cell_on HY.out hlt1 a0
    have HA1 : Hid ((w1.alloc (.cells #[.int .i64 k, .int .i64 v, .int .i64 1] 3)).drew.cell? ⟨w.heap.size, 1, none⟩ = some (.int .i64 (v : Int))) := cell_on HY.out hlt1 a1
    have HA4 : Hid ((w1.alloc (.cells #[.int .i64 k, .int .i64 v, .int .i64 1] 3)).drew.cell? ⟨w.heap.size, 4, none⟩ = some (.string t)) := cell_on HY.out hlt1 a4
    have HL : Hid (w.heap.size < (w1.alloc (.cells #[.int .i64 k, .int .i64 v, .int .i64 1] 3)).drew.heap.size) := by
      show _ < _
      simp
      omega
    have HM : Hid (w.heap.size ≤ (w1.alloc (.cells #[.int .i64 k, .int .i64 v, .int .i64 1] 3)).drew.heap.size) := Nat.le_of_lt HL.out
    go_upto_region 7 with fail
    go_region_held3 (fun w' => w'.cell? ⟨w.heap.size, 0, none⟩ = some (.int .i64 (k : Int)) ∧ w'.cell? ⟨w.heap.size, 1, none⟩ = some (.int .i64 (v : Int)) ∧ w'.cell? ⟨w.heap.size, 4, none⟩ = some (.string t)) (first | go_keep | (exact ⟨cell_on hb2 HL.out HA0.out, cell_on hb2 HL.out HA1.out, cell_on hb2 HL.out HA4.out⟩)) (first | (go_at_call 146; refine (written_c _ [(k : Int), (v : Int), 1] _ (by simp) (by simp) (fun x hx => by simp at hx; omega) (nums_three w1 k v 1).drew (HT.out _ HX.out)).mono ?_; rintro e w2 ⟨rfl, hb2⟩; simp only [HW3.out]) | (go_at_call 145; refine (number_c _ _ HS3.out).mono ?_; rintro e w3 ⟨rfl, rfl⟩))
    have HB2 : Hid (Below w.heap.size w w3) := HX.out.trans (hb2.mono HM.out)
    clear hb2
    go_wp2_with fail
    go_ret2
    exact ⟨rfl, HB2.out⟩
end Go.Proofs.YtpcnfoaoajfhlaaGreatDoor

namespace Go.Proofs.YtpcnfoaoajfhlaaGreatDoor
set_option linter.unusedVariables false
set_option linter.unusedSimpArgs false
open Go.RowKit

/-- the node i, d rows above the ends -/
def nd (P : Nat → Nat → Nat) (f : Nat → Nat) : Nat → Nat → Nat
  | 0, i => f (i - 8)
  | d + 1, i => P (nd P f d (2 * i)) (nd P f d (2 * i + 1))
/-- the keys where two trees part from a node on -/
def ptK (P : Nat → Nat → Nat) (f g : Nat → Nat) : Nat → Nat → List Nat
  | 0, i => if f (i - 8) = g (i - 8) then [] else [i - 8]
  | d + 1, i => if nd P f (d + 1) i = nd P g (d + 1) i then [] else ptK P f g d (2 * i) ++ ptK P f g d (2 * i + 1)
/-- how many nodes are asked -/
def ptN (P : Nat → Nat → Nat) (f g : Nat → Nat) : Nat → Nat → Nat
  | 0, _ => 1
  | d + 1, i => if nd P f (d + 1) i = nd P g (d + 1) i then 1 else ptN P f g d (2 * i) + ptN P f g d (2 * i + 1) + 1

theorem ptK_alike {P : Nat → Nat → Nat} {f g : Nat → Nat} {d i : Nat} (h : nd P f d i = nd P g d i) : ptK P f g d i = [] := by
  cases d with
  | zero => exact if_pos h
  | succ d => exact if_pos h
theorem ptN_alike {P : Nat → Nat → Nat} {f g : Nat → Nat} {d i : Nat} (h : nd P f d i = nd P g d i) : ptN P f g d i = 1 := by
  cases d with
  | zero => rfl
  | succ d => exact if_pos h
theorem ptK_turn (P : Nat → Nat → Nat) (f g : Nat → Nat) : ∀ d i, ptK P f g d i = ptK P g f d i := by
  intro d
  induction d with
  | zero => intro i; unfold ptK; split <;> rename_i h <;> first | rw [if_pos h.symm] | rw [if_neg (fun e => h e.symm)]
  | succ d ih => intro i; unfold ptK; rw [ih, ih]; split <;> rename_i h <;> first | rw [if_pos h.symm] | rw [if_neg (fun e => h e.symm)]
theorem ptN_turn (P : Nat → Nat → Nat) (f g : Nat → Nat) : ∀ d i, ptN P f g d i = ptN P g f d i := by
  intro d
  induction d with
  | zero => intro i; rfl
  | succ d ih => intro i; unfold ptN; rw [ih, ih]; split <;> rename_i h <;> first | rw [if_pos h.symm] | rw [if_neg (fun e => h e.symm)]
/-- unlike nodes have an end below that is unlike -/
theorem ptK_some {P : Nat → Nat → Nat} {f g : Nat → Nat} : ∀ {d i : Nat}, nd P f d i ≠ nd P g d i → 1 ≤ (ptK P f g d i).length := by
  intro d
  induction d with
  | zero =>
    intro i h
    have h' : ¬ f (i - 8) = g (i - 8) := h
    rw [ptK, if_neg h']
    exact Nat.le_refl _
  | succ d ih =>
    intro i h
    rw [ptK, if_neg h, List.length_append]
    by_cases h1 : nd P f d (2 * i) = nd P g d (2 * i)
    · by_cases h2 : nd P f d (2 * i + 1) = nd P g d (2 * i + 1)
      · exact absurd (by rw [nd, nd, h1, h2]) h
      · have := ih h2
        omega
    · have := ih h1
      omega
theorem ptN_pos (P : Nat → Nat → Nat) (f g : Nat → Nat) (d i : Nat) : 1 ≤ ptN P f g d i := by
  cases d with
  | zero => exact Nat.le_refl _
  | succ d => unfold ptN; split <;> omega
/-- little is asked -/
theorem ptN_few (P : Nat → Nat → Nat) (f g : Nat → Nat) : ∀ d i, ptN P f g d i ≤ 1 + 2 * d * (ptK P f g d i).length := by
  intro d
  induction d with
  | zero => intro i; exact Nat.le_add_right _ _
  | succ d ih =>
    intro i
    by_cases h : nd P f (d + 1) i = nd P g (d + 1) i
    · rw [ptN_alike h]
      exact Nat.le_add_right _ _
    · have h1 := ptK_some h
      have h2 := ih (2 * i)
      have h3 := ih (2 * i + 1)
      rw [ptK, if_neg h, List.length_append] at h1 ⊢
      rw [ptN, if_neg h]
      obtain ⟨p, hp⟩ : ∃ p, p = (ptK P f g d (2 * i)).length := ⟨_, rfl⟩
      obtain ⟨q, hq⟩ : ∃ q, q = (ptK P f g d (2 * i + 1)).length := ⟨_, rfl⟩
      rw [← hp] at h1 h2 ⊢
      rw [← hq] at h1 h3 ⊢
      have e : 2 * (d + 1) * (p + q) = 2 * d * p + 2 * d * q + 2 * (p + q) := by
        rw [Nat.mul_add 2 d 1, Nat.add_mul, Nat.mul_add (2 * d) p q]
      rw [e]
      omega
/-- the keys below a node -/
def under (d i k : Nat) : Prop := i * 2 ^ d ≤ k + 8 ∧ k + 8 < (i + 1) * 2 ^ d
theorem under_left {d i k : Nat} (h : under d (2 * i) k) : under (d + 1) i k := by
  obtain ⟨h1, h2⟩ := h
  have e : 2 ^ (d + 1) = 2 * 2 ^ d := by rw [Nat.pow_succ, Nat.mul_comm]
  constructor
  · rw [e, ← Nat.mul_assoc, Nat.mul_comm i 2]; exact h1
  · rw [e, ← Nat.mul_assoc, Nat.mul_comm (i + 1) 2]
    refine Nat.lt_of_lt_of_le h2 (Nat.mul_le_mul_right _ (by omega))
theorem under_right {d i k : Nat} (h : under d (2 * i + 1) k) : under (d + 1) i k := by
  obtain ⟨h1, h2⟩ := h
  have e : 2 ^ (d + 1) = 2 * 2 ^ d := by rw [Nat.pow_succ, Nat.mul_comm]
  constructor
  · rw [e, ← Nat.mul_assoc, Nat.mul_comm i 2]
    exact Nat.le_trans (Nat.mul_le_mul_right _ (by omega)) h1
  · rw [e, ← Nat.mul_assoc, Nat.mul_comm (i + 1) 2]
    exact h2
theorem under_part {d i k q : Nat} (h : under d (2 * i) k) (h' : under d (2 * i + 1) q) : k < q := by
  have h1 := h.2
  have h2 := h'.1
  omega
theorem ptK_under (P : Nat → Nat → Nat) (f g : Nat → Nat) : ∀ d i k, 8 ≤ i * 2 ^ d → k ∈ ptK P f g d i → under d i k ∧ f k ≠ g k := by
  intro d
  induction d with
  | zero =>
    intro i k h8 hk
    unfold ptK at hk
    split at hk
    · simp at hk
    · rename_i h
      simp only [List.mem_singleton] at hk
      subst hk
      refine ⟨⟨?_, ?_⟩, h⟩ <;> simp only [Nat.pow_zero, Nat.mul_one] at h8 ⊢ <;> omega
  | succ d ih =>
    intro i k h8 hk
    have e : 2 ^ (d + 1) = 2 * 2 ^ d := by rw [Nat.pow_succ, Nat.mul_comm]
    have hl : 8 ≤ 2 * i * 2 ^ d := by rw [e, ← Nat.mul_assoc, Nat.mul_comm i 2] at h8; exact h8
    have hr : 8 ≤ (2 * i + 1) * 2 ^ d := Nat.le_trans hl (Nat.mul_le_mul_right _ (by omega))
    unfold ptK at hk
    split at hk
    · simp at hk
    · rcases List.mem_append.1 hk with h | h
      · exact ⟨under_left (ih _ _ hl h).1, (ih _ _ hl h).2⟩
      · exact ⟨under_right (ih _ _ hr h).1, (ih _ _ hr h).2⟩
/-- the keys rise -/
theorem ptK_rise (P : Nat → Nat → Nat) (f g : Nat → Nat) : ∀ d i, 8 ≤ i * 2 ^ d → (ptK P f g d i).Pairwise (· < ·) := by
  intro d
  induction d with
  | zero => intro i _; unfold ptK; split <;> simp
  | succ d ih =>
    intro i h8
    have e : 2 ^ (d + 1) = 2 * 2 ^ d := by rw [Nat.pow_succ, Nat.mul_comm]
    have hl : 8 ≤ 2 * i * 2 ^ d := by rw [e, ← Nat.mul_assoc, Nat.mul_comm i 2] at h8; exact h8
    have hr : 8 ≤ (2 * i + 1) * 2 ^ d := Nat.le_trans hl (Nat.mul_le_mul_right _ (by omega))
    unfold ptK
    split
    · exact List.Pairwise.nil
    · rw [List.pairwise_append]
      exact ⟨ih _ hl, ih _ hr, fun a ha b hb => under_part (ptK_under P f g d _ a hl ha).1 (ptK_under P f g d _ b hr hb).1⟩
theorem nd_ext (P : Nat → Nat → Nat) (f g : Nat → Nat) : ∀ d i, 8 ≤ i * 2 ^ d → (∀ k, under d i k → f k = g k) → nd P f d i = nd P g d i := by
  intro d
  induction d with
  | zero =>
    intro i h8 h
    simp only [Nat.pow_zero, Nat.mul_one] at h8
    exact h (i - 8) ⟨by simp only [Nat.pow_zero, Nat.mul_one]; omega, by simp only [Nat.pow_zero, Nat.mul_one]; omega⟩
  | succ d ih =>
    intro i h8 h
    have e : 2 ^ (d + 1) = 2 * 2 ^ d := by rw [Nat.pow_succ, Nat.mul_comm]
    have hl : 8 ≤ 2 * i * 2 ^ d := by rw [e, ← Nat.mul_assoc, Nat.mul_comm i 2] at h8; exact h8
    have hr : 8 ≤ (2 * i + 1) * 2 ^ d := Nat.le_trans hl (Nat.mul_le_mul_right _ (by omega))
    rw [nd, nd, ih _ hl (fun k hk => h k (under_left hk)), ih _ hr (fun k hk => h k (under_right hk))]
/-- with what was told of one of both put into the other one they part no more -/
theorem nd_mended (P : Nat → Nat → Nat) (f g h : Nat → Nat) : ∀ d i, 8 ≤ i * 2 ^ d → (∀ k, under d i k → (k ∈ ptK P f g d i → h k = f k) ∧ (k ∉ ptK P f g d i → h k = g k)) → nd P h d i = nd P f d i := by
  intro d
  induction d with
  | zero =>
    intro i h8 hh
    simp only [Nat.pow_zero, Nat.mul_one] at h8
    have := hh (i - 8) ⟨by simp only [Nat.pow_zero, Nat.mul_one]; omega, by simp only [Nat.pow_zero, Nat.mul_one]; omega⟩
    by_cases e : f (i - 8) = g (i - 8)
    · have h1 := this.2 (by rw [ptK, if_pos e]; simp)
      show h (i - 8) = f (i - 8)
      rw [h1, e]
    · exact this.1 (by rw [ptK, if_neg e]; simp)
  | succ d ih =>
    intro i h8 hh
    have e : 2 ^ (d + 1) = 2 * 2 ^ d := by rw [Nat.pow_succ, Nat.mul_comm]
    have hl : 8 ≤ 2 * i * 2 ^ d := by rw [e, ← Nat.mul_assoc, Nat.mul_comm i 2] at h8; exact h8
    have hr : 8 ≤ (2 * i + 1) * 2 ^ d := Nat.le_trans hl (Nat.mul_le_mul_right _ (by omega))
    by_cases hn : nd P f (d + 1) i = nd P g (d + 1) i
    · rw [hn]
      refine nd_ext P h g (d + 1) i h8 (fun k hk => (hh k hk).2 ?_)
      rw [ptK_alike hn]
      simp
    · have hm : ∀ k, k ∈ ptK P f g (d + 1) i ↔ k ∈ ptK P f g d (2 * i) ∨ k ∈ ptK P f g d (2 * i + 1) := fun k => by
        rw [ptK, if_neg hn, List.mem_append]
      have e1 : nd P h d (2 * i) = nd P f d (2 * i) := by
        refine ih _ hl (fun k hk => ⟨fun hx => (hh k (under_left hk)).1 ((hm k).2 (Or.inl hx)), fun hx => (hh k (under_left hk)).2 (fun hy => ?_)⟩)
        rcases (hm k).1 hy with h1 | h1
        · exact hx h1
        · exact absurd (under_part hk (ptK_under P f g d _ k hr h1).1) (Nat.lt_irrefl _)
      have e2 : nd P h d (2 * i + 1) = nd P f d (2 * i + 1) := by
        refine ih _ hr (fun k hk => ⟨fun hx => (hh k (under_right hk)).1 ((hm k).2 (Or.inr hx)), fun hx => (hh k (under_right hk)).2 (fun hy => ?_)⟩)
        rcases (hm k).1 hy with h1 | h1
        · exact absurd (under_part (ptK_under P f g d _ k hl h1).1 hk) (Nat.lt_irrefl _)
        · exact hx h1
      rw [nd, nd, e1, e2]
end Go.Proofs.YtpcnfoaoajfhlaaGreatDoor

namespace Go.Proofs.YtpcnfoaoajfhlaaGreatDoor
set_option linter.unusedVariables false
set_option linter.unusedSimpArgs false
open Go.RowKit

/-- decimal digits, n steps at most -/
def digF : Nat → Nat → List Nat
  | 0, u => [48 + u]
  | n + 1, u => if u < 10 then [48 + u] else digF n (u / 10) ++ [48 + u % 10]
theorem u8_dig {x : Nat} (h : x < 10) : (UInt8.ofNat (48 + x)).toNat = 48 + x := by
  rw [UInt8.toNat_ofNat']
  omega
theorem digF_eq : ∀ n u, u ≤ n → digF n u = (Lib.decDigits u).map UInt8.toNat := by
  intro n
  induction n with
  | zero =>
    intro u h
    obtain rfl : u = 0 := by omega
    rw [Lib.decDigits_one (by omega), List.map_singleton, u8_dig (by omega)]
    rfl
  | succ n ih =>
    intro u h
    rw [digF]
    split
    · rename_i h10
      rw [Lib.decDigits_one h10, List.map_singleton, u8_dig h10]
    · rename_i h10
      have e : Lib.decDigits u = Lib.decDigits (u / 10) ++ [UInt8.ofNat (48 + u % 10)] := by rw [Lib.decDigits, dif_neg h10]
      rw [ih (u / 10) (by omega), e, List.map_append, List.map_singleton, u8_dig (Nat.mod_lt _ (by omega))]
theorem byN_dig (u : Nat) : byN (digS u) = digF u u := by
  rw [digF_eq u u (Nat.le_refl _)]
  rfl
theorem byN_append (a b : ByteArray) : byN (a ++ b) = byN a ++ byN b := by simp [byN, ByteArray.data_append]
/-- the number of two numbers -/
def pairH (a b : Nat) : Nat := hashL (byN (str2 a b))
def pairF (a b : Nat) : Nat := hashL (digF a a ++ [47] ++ digF b b)
theorem pairH_eq : pairH = pairF := by
  funext a b
  rw [pairH, pairF, str2, byN_append, byN_append, byN_dig, byN_dig]
  rfl
theorem pairH_lt (a b : Nat) : pairH a b < 4294967296 := hashL_lt _
/-- the number of an entry -/
def entH (k v : Nat) (g : Bool) (t : ByteArray) : Nat := hashL (byN (strE k v g t))
def entF (k v : Nat) (g : Bool) (t : List Nat) : Nat := hashL (digF k k ++ [47] ++ digF v v ++ [47] ++ digF (if g = true then 1 else 0) (if g = true then 1 else 0) ++ [47] ++ t)
theorem entH_eq (k v : Nat) (g : Bool) (t : ByteArray) : entH k v g t = entF k v g (byN t) := by
  rw [entH, entF, strE, str3, byN_append, byN_append, byN_append, byN_append, byN_append, byN_append, byN_dig, byN_dig, byN_dig]
  rfl
/-- one entry alone against nothing: the key 6, seven nodes -/
def oneF (k : Nat) : Nat := if k = 6 then entF 6 1 false [120] else 0
theorem one_part : ptK pairF oneF (fun _ => 0) 3 1 = [6] ∧ ptN pairF oneF (fun _ => 0) 3 1 = 7 := by decide +kernel
end Go.Proofs.YtpcnfoaoajfhlaaGreatDoor
