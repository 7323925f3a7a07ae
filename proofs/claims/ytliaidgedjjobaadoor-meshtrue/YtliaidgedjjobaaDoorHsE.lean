/-
  Package hash by its contracts: Entry.
-/
import Derived.Test.YtliaidgedjjobaaDoorHsT
import Derived.BigGuard
import Derived.Deep.RegionHeld3
import Derived.BigCall
namespace Go.Proofs.YtliaidgedjjobaaDoor
set_option linter.unusedVariables false
set_option linter.unusedSimpArgs false
open Go.RowKit

/-- an entry as a text -/
def strE (k v : Nat) (g : Bool) (t : ByteArray) : ByteArray := str3 k v (if g = true then 1 else 0) ++ slS ++ t

theorem cell_on {w w' : World} {a : Addr} {v : Value} {B : Nat} (hb : Below B w w') (hB : a.block < B) (h : w.cell? a = some v) : w'.cell? a = some v := (World.cell?_of_block (hb.block a.block hB)).trans h
theorem NumsAt.drew {w : World} {v : Value} {l : List Int} (h : NumsAt w v l) : NumsAt w.drew v l := h

set_option maxHeartbeats 4000000 in
theorem hentry_bad {k v a : Int} {g : Bool} {t : ByteArray} {n : Int} (h : bad k v a g t = n) (hn : n ≠ 0) (w : World) :
    Calls Tryd.prog 98 #[.agg #[.int .i64 k, .int .i64 v, .int .i64 a, .bool g, .string t]] w fun e w' => e = .returned (.tuple #[.int .i64 0, .iface 83 (.int .i64 n)]) ∧ Below w.heap.size w w' := by
  have H : Hid (bad k v a g t = n) := h
  clear h
  go_enter Tryd.func98, Tryd.ntmps98
  go_wp2_with fail
  refine (check_err H.out hn _).mono ?_
  rintro e w1 ⟨rfl, hb⟩
  have B1 : Hid (Below w.heap.size w w1) := Below.trans (by go_grown) (hb.mono (by simp))
  obtain ⟨a0, a1, a2, a3, a4, af⟩ := (box_new w k v a g t w.heap.size rfl).below hb (by simp)
  clear hb
  go_wp2_with fail
  go_ret2
  exact ⟨rfl, B1.out⟩

set_option maxHeartbeats 4000000 in
theorem hentry_ok (k v : Nat) (a : Int) (g : Bool) (t : ByteArray) (h : bad (k : Int) (v : Int) a g t = 0) (hk : k ≤ 1000) (hv : v ≤ 1000) (ht : t.size ≤ 12) (w : World) (hT : Lib.TabIs Tryd.prog w powName .u64 Lib.pow10Tab) :
    Calls Tryd.prog 98 #[.agg #[.int .i64 (k : Nat), .int .i64 (v : Nat), .int .i64 a, .bool g, .string t]] w fun e w' => e = .returned (.tuple #[.int .i64 (hashL (byN (strE k v g t)) : Nat), .nilIface]) ∧ Below w.heap.size w w' := by
  have H : Hid (bad (k : Int) (v : Int) a g t = 0) := h
  clear h
  have HT : Hid (Lib.TabBelow Tryd.prog w.heap.size w powName .u64 Lib.pow10Tab) := Lib.tabBelow_of_tabIs hT
  clear hT
  cases g with
  | false =>
    have hsz := str3_size k v 0 (by omega) (by omega) (by omega)
    have HW0 := wr_three k v 0
    have HE0 : strE k v false t = str3 k v 0 ++ slS ++ t := rfl
    obtain ⟨S, HS⟩ : ∃ S, Hid (str3 k v 0 = S) := ⟨_, rfl⟩
    rw [HS.out] at hsz HW0 HE0
    rw [HE0]
    have HW : Hid ((⟨(wrP [(k : Int), (v : Int), ((0 : Nat) : Int)] 3).toArray⟩ : ByteArray) = S) := HW0
    clear HW0 HE0
    go_enter Tryd.func98, Tryd.ntmps98
    go_wp2_with fail
    refine (check_ok H.out _).mono ?_
    rintro e w1 ⟨rfl, hb⟩
    have B1 : Hid (Below w.heap.size w w1) := Below.trans (by go_grown) (hb.mono (by simp))
    obtain ⟨a0, a1, a2, a3, a4, af⟩ := (box_new w k v a false t w.heap.size rfl).below hb (by simp)
    clear hb
    have HX : Hid (Below w.heap.size w (w1.alloc (.cells #[.int .i64 k, .int .i64 v, .int .i64 0] 3)).drew) := (B1.out.alloc B1.out.size _).drew
    have hz1 : (⟨#[47]⟩ : ByteArray).size = 1 := rfl
    have hs5 : ¬ 9223372036854775807 < S.size + 1 := by omega
    have hs6 : ¬ 9223372036854775807 < S.size + 1 + t.size := by omega
    have HS3 : Hid ((S ++ (⟨#[47]⟩ : ByteArray) ++ t).size ≤ 9223372036854775807) := by
      show _ ≤ _
      rw [ByteArray.size_append, ByteArray.size_append, hz1]
      omega
    clear hz1
    have HW3 : Hid ((⟨(wrP [(k : Int), (v : Int), 0] [(k : Int), (v : Int), 0].length).toArray⟩ : ByteArray) = S) := HW.out
    have hlt1 : w.heap.size < w1.heap.size := World.block_lt_of_cell? w1 _ a4
    have HY : Hid (Below w1.heap.size w1 (w1.alloc (.cells #[.int .i64 k, .int .i64 v, .int .i64 0] 3)).drew) := ((Below.refl _ _).alloc (Nat.le_refl _) _).drew
    have HA0 : Hid ((w1.alloc (.cells #[.int .i64 k, .int .i64 v, .int .i64 0] 3)).drew.cell? ⟨w.heap.size, 0, none⟩ = some (.int .i64 (k : Int))) := cell_on HY.out hlt1 a0
    have HA1 : Hid ((w1.alloc (.cells #[.int .i64 k, .int .i64 v, .int .i64 0] 3)).drew.cell? ⟨w.heap.size, 1, none⟩ = some (.int .i64 (v : Int))) := cell_on HY.out hlt1 a1
    have HA4 : Hid ((w1.alloc (.cells #[.int .i64 k, .int .i64 v, .int .i64 0] 3)).drew.cell? ⟨w.heap.size, 4, none⟩ = some (.string t)) := cell_on HY.out hlt1 a4
    have HL : Hid (w.heap.size < (w1.alloc (.cells #[.int .i64 k, .int .i64 v, .int .i64 0] 3)).drew.heap.size) := by
      show _ < _
      simp
      omega
    have HM : Hid (w.heap.size ≤ (w1.alloc (.cells #[.int .i64 k, .int .i64 v, .int .i64 0] 3)).drew.heap.size) := Nat.le_of_lt HL.out
    go_upto_region 7 with fail
    go_region_held3 (fun w' => w'.cell? ⟨w.heap.size, 0, none⟩ = some (.int .i64 (k : Int)) ∧ w'.cell? ⟨w.heap.size, 1, none⟩ = some (.int .i64 (v : Int)) ∧ w'.cell? ⟨w.heap.size, 4, none⟩ = some (.string t)) (first | go_keep | (exact ⟨cell_on hb2 HL.out HA0.out, cell_on hb2 HL.out HA1.out, cell_on hb2 HL.out HA4.out⟩)) (first | (go_at_call 113; refine (written_c _ [(k : Int), (v : Int), 0] _ (by simp) (by simp) (fun x hx => by simp at hx; omega) (nums_three w1 k v 0).drew (HT.out _ HX.out)).mono ?_; rintro e w2 ⟨rfl, hb2⟩; simp only [HW3.out]) | (go_at_call 112; refine (number_c _ _ HS3.out).mono ?_; rintro e w3 ⟨rfl, rfl⟩))
    have HB2 : Hid (Below w.heap.size w w3) := HX.out.trans (hb2.mono HM.out)
    clear hb2
    go_wp2_with fail
    go_ret2
    exact ⟨rfl, HB2.out⟩
  | true =>
    have hsz := str3_size k v 1 (by omega) (by omega) (by omega)
    have HW0 := wr_three k v 1
    have HE0 : strE k v true t = str3 k v 1 ++ slS ++ t := rfl
    obtain ⟨S, HS⟩ : ∃ S, Hid (str3 k v 1 = S) := ⟨_, rfl⟩
    rw [HS.out] at hsz HW0 HE0
    rw [HE0]
    have HW : Hid ((⟨(wrP [(k : Int), (v : Int), ((1 : Nat) : Int)] 3).toArray⟩ : ByteArray) = S) := HW0
    clear HW0 HE0
    go_enter Tryd.func98, Tryd.ntmps98
    go_wp2_with fail
    refine (check_ok H.out _).mono ?_
    rintro e w1 ⟨rfl, hb⟩
    have B1 : Hid (Below w.heap.size w w1) := Below.trans (by go_grown) (hb.mono (by simp))
    obtain ⟨a0, a1, a2, a3, a4, af⟩ := (box_new w k v a true t w.heap.size rfl).below hb (by simp)
    clear hb
    have HX : Hid (Below w.heap.size w (w1.alloc (.cells #[.int .i64 k, .int .i64 v, .int .i64 1] 3)).drew) := (B1.out.alloc B1.out.size _).drew
    have hz1 : (⟨#[47]⟩ : ByteArray).size = 1 := rfl
    have hs5 : ¬ 9223372036854775807 < S.size + 1 := by omega
    have hs6 : ¬ 9223372036854775807 < S.size + 1 + t.size := by omega
    have HS3 : Hid ((S ++ (⟨#[47]⟩ : ByteArray) ++ t).size ≤ 9223372036854775807) := by
      show _ ≤ _
      rw [ByteArray.size_append, ByteArray.size_append, hz1]
      omega
    clear hz1
    have HW3 : Hid ((⟨(wrP [(k : Int), (v : Int), 1] [(k : Int), (v : Int), 1].length).toArray⟩ : ByteArray) = S) := HW.out
    have hlt1 : w.heap.size < w1.heap.size := World.block_lt_of_cell? w1 _ a4
    have HY : Hid (Below w1.heap.size w1 (w1.alloc (.cells #[.int .i64 k, .int .i64 v, .int .i64 1] 3)).drew) := ((Below.refl _ _).alloc (Nat.le_refl _) _).drew
    have HA0 : Hid ((w1.alloc (.cells #[.int .i64 k, .int .i64 v, .int .i64 1] 3)).drew.cell? ⟨w.heap.size, 0, none⟩ = some (.int .i64 (k : Int))) := cell_on HY.out hlt1 a0
    have HA1 : Hid ((w1.alloc (.cells #[.int .i64 k, .int .i64 v, .int .i64 1] 3)).drew.cell? ⟨w.heap.size, 1, none⟩ = some (.int .i64 (v : Int))) := cell_on HY.out hlt1 a1
    have HA4 : Hid ((w1.alloc (.cells #[.int .i64 k, .int .i64 v, .int .i64 1] 3)).drew.cell? ⟨w.heap.size, 4, none⟩ = some (.string t)) := cell_on HY.out hlt1 a4
    have HL : Hid (w.heap.size < (w1.alloc (.cells #[.int .i64 k, .int .i64 v, .int .i64 1] 3)).drew.heap.size) := by
      show _ < _
      simp
      omega
    have HM : Hid (w.heap.size ≤ (w1.alloc (.cells #[.int .i64 k, .int .i64 v, .int .i64 1] 3)).drew.heap.size) := Nat.le_of_lt HL.out
    go_upto_region 7 with fail
    go_region_held3 (fun w' => w'.cell? ⟨w.heap.size, 0, none⟩ = some (.int .i64 (k : Int)) ∧ w'.cell? ⟨w.heap.size, 1, none⟩ = some (.int .i64 (v : Int)) ∧ w'.cell? ⟨w.heap.size, 4, none⟩ = some (.string t)) (first | go_keep | (exact ⟨cell_on hb2 HL.out HA0.out, cell_on hb2 HL.out HA1.out, cell_on hb2 HL.out HA4.out⟩)) (first | (go_at_call 113; refine (written_c _ [(k : Int), (v : Int), 1] _ (by simp) (by simp) (fun x hx => by simp at hx; omega) (nums_three w1 k v 1).drew (HT.out _ HX.out)).mono ?_; rintro e w2 ⟨rfl, hb2⟩; simp only [HW3.out]) | (go_at_call 112; refine (number_c _ _ HS3.out).mono ?_; rintro e w3 ⟨rfl, rfl⟩))
    have HB2 : Hid (Below w.heap.size w w3) := HX.out.trans (hb2.mono HM.out)
    clear hb2
    go_wp2_with fail
    go_ret2
    exact ⟨rfl, HB2.out⟩
end Go.Proofs.YtliaidgedjjobaaDoor
