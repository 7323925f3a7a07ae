/-
  Package hash by its contracts: Entry.
  The number of two numbers and of an entry, in a form that can be reckoned; the one tree's fact.
  A cache's tree on lists: each key's number, each node's; sixteen numbers at a block.
-/
import Derived.Test.YtpcnfoaoajfhlaaGreatDoorMqaw
import Derived.BigGuard
import Derived.Deep.RegionHeld3
import Derived.BigCall
import Derived.Test.YtpcnfoaoajfhlaaGreatDoorMqav
import Derived.Test.YtpcnfoaoajfhlaaGreatDoorMqag
namespace Go.Proofs.YtpcnfoaoajfhlaaGreatDoor
set_option linter.unusedVariables false
set_option linter.unusedSimpArgs false
set_option linter.unusedVariables false
set_option linter.unusedSimpArgs false
open Go.RowKit

/-- an entry as a text -/
def strE (k v : Nat) (g : Bool) (t : ByteArray) : ByteArray := str3 k v (if g = true then 1 else 0) ++ slS ++ t

theorem cell_on {w w' : World} {a : Addr} {v : Value} {B : Nat} (hb : Below B w w') (hB : a.block < B) (h : w.cell? a = some v) : w'.cell? a = some v := (World.cell?_of_block (hb.block a.block hB)).trans h
theorem NumsAt.drew {w : World} {v : Value} {l : List Int} (h : NumsAt w v l) : NumsAt w.drew v l := h

set_option maxHeartbeats 4000000 in
theorem hentry_bad {k v a : Int} {g : Bool} {t : ByteArray} {n : Int} (h : bad k v a g t = n) (hn : n ≠ 0) (w : World) :
    Calls Tryz.prog 197 #[.agg #[.int .i64 k, .int .i64 v, .int .i64 a, .bool g, .string t]] w fun e w' => e = .returned (.tuple #[.int .i64 0, .iface 85 (.int .i64 n)]) ∧ Below w.heap.size w w' := by
  have H : Hid (bad k v a g t = n) := h
  clear h
  go_enter Tryz.func197, Tryz.ntmps197
  go_wp2_with fail
  refine (check_err H.out hn _).mono ?_
  rintro e w1 ⟨rfl, hb⟩
  have B1 : Hid (Below w.heap.size w w1) := Below.trans (by go_grown) (hb.mono (by simp))
  obtain ⟨a0, a1, a2, a3, a4, af⟩ := (box_new w k v a g t w.heap.size rfl).below hb (by simp)
  clear hb
  go_wp2_with fail
  go_ret2
  exact ⟨rfl, B1.out⟩

set_option maxHeartbeats 4000000 in
theorem hentry_ok (k v : Nat) (a : Int) (g : Bool) (t : ByteArray) (h : bad (k : Int) (v : Int) a g t = 0) (hk : k ≤ 1000) (hv : v ≤ 1000) (ht : t.size ≤ 12) (w : World) (hT : Lib.TabIs Tryz.prog w powName .u64 Lib.pow10Tab) :
    Calls Tryz.prog 197 #[.agg #[.int .i64 (k : Nat), .int .i64 (v : Nat), .int .i64 a, .bool g, .string t]] w fun e w' => e = .returned (.tuple #[.int .i64 (hashL (byN (strE k v g t)) : Nat), .nilIface]) ∧ Below w.heap.size w w' := by
  have H : Hid (bad (k : Int) (v : Int) a g t = 0) := h
  clear h
  have HT : Hid (Lib.TabBelow Tryz.prog w.heap.size w powName .u64 Lib.pow10Tab) := Lib.tabBelow_of_tabIs hT
  clear hT
  cases g with
  | false =>
    have hsz := str3_size k v 0 (by omega) (by omega) (by omega)
    have HW0 := wr_three k v 0
    have HE0 : strE k v false t = str3 k v 0 ++ slS ++ t := rfl
    obtain ⟨S, HS⟩ : ∃ S, Hid (str3 k v 0 = S) := ⟨_, rfl⟩
    rw [HS.out] at hsz HW0 HE0
    rw [HE0]
    have HW : Hid ((⟨(wrP [(k : Int), (v : Int), ((0 : Nat) : Int)] 3).toArray⟩ : ByteArray) = S) := HW0
    clear HW0 HE0
    go_enter Tryz.func197, Tryz.ntmps197
    go_wp2_with fail
    refine (check_ok H.out _).mono ?_
    rintro e w1 ⟨rfl, hb⟩
    have B1 : Hid (Below w.heap.size w w1) := Below.trans (by go_grown) (hb.mono (by simp))
    obtain ⟨a0, a1, a2, a3, a4, af⟩ := (box_new w k v a false t w.heap.size rfl).below hb (by simp)
    clear hb
    have HX : Hid (Below w.heap.size w (w1.alloc (.cells #[.int .i64 k, .int .i64 v, .int .i64 0] 3)).drew) := (B1.out.alloc B1.out.size _).drew
    have hz1 : (⟨#[47]⟩ : ByteArray).size = 1 := rfl
    have hs5 : ¬ 9223372036854775807 < S.size + 1 := by omega
    have hs6 : ¬ 9223372036854775807 < S.size + 1 + t.size := by omega
    have HS3 : Hid ((S ++ (⟨#[47]⟩ : ByteArray) ++ t).size ≤ 9223372036854775807) := by
      show _ ≤ _
      rw [ByteArray.size_append, ByteArray.size_append, hz1]
      omega
    clear hz1
    have HW3 : Hid ((⟨(wrP [(k : Int), (v : Int), 0] [(k : Int), (v : Int), 0].length).toArray⟩ : ByteArray) = S) := HW.out
    have hlt1 : w.heap.size < w1.heap.size := World.block_lt_of_cell? w1 _ a4
    have HY : Hid (Below w1.heap.size w1 (w1.alloc (.cells #[.int .i64 k, .int .i64 v, .int .i64 0] 3)).drew) := ((Below.refl _ _).alloc (Nat.le_refl _) _).drew
    have HA0 : Hid ((w1.alloc (.cells #[.int .i64 k, .int .i64 v, .int .i64 0] 3)).drew.cell? ⟨w.heap.size, 0, none⟩ = some (.int .i64 (k : Int))) := cell_on HY.out hlt1 a0
    have HA1 : Hid ((w1.alloc (.cells #[.int .i64 k, .int .i64 v, .int .i64 0] 3)).drew.cell? ⟨w.heap.size, 1, none⟩ = some (.int .i64 (v : Int))) := cell_on HY.out hlt1 a1
    have HA4 : Hid ((w1.alloc (.cells #[.int .i64 k, .int .i64 v, .int .i64 0] 3)).drew.cell? ⟨w.heap.size, 4, none⟩ = some (.string t)) := cell_on HY.out hlt1 a4
    have HL : Hid (w.heap.size < (w1.alloc (.cells #[.int .i64 k, .int .i64 v, .int .i64 0] 3)).drew.heap.size) := by
      show _ < _
      simp
      omega
    have HM : Hid (w.heap.size ≤ (w1.alloc (.cells #[.int .i64 k, .int .i64 v, .int .i64 0] 3)).drew.heap.size) := Nat.le_of_lt HL.out
    go_upto_region 7 with fail
    go_region_held3 (fun w' => w'.cell? ⟨w.heap.size, 0, none⟩ = some (.int .i64 (k : Int)) ∧ w'.cell? ⟨w.heap.size, 1, none⟩ = some (.int .i64 (v : Int)) ∧ w'.cell? ⟨w.heap.size, 4, none⟩ = some (.string t)) (first | go_keep | (exact ⟨cell_on hb2 HL.out HA0.out, cell_on hb2 HL.out HA1.out, cell_on hb2 HL.out HA4.out⟩)) (first | (go_at_call 146; refine (written_c _ [(k : Int), (v : Int), 0] _ (by simp) (by simp) (fun x hx => by simp at hx; omega) (nums_three w1 k v 0).drew (HT.out _ HX.out)).mono ?_; rintro e w2 ⟨rfl, hb2⟩; simp only [HW3.out]) | (go_at_call 145; refine (number_c _ _ HS3.out).mono ?_; rintro e w3 ⟨rfl, rfl⟩))
    have HB2 : Hid (Below w.heap.size w w3) := HX.out.trans (hb2.mono HM.out)
    clear hb2
    go_wp2_with fail
    go_ret2
    exact ⟨rfl, HB2.out⟩
  | true =>
    have hsz := str3_size k v 1 (by omega) (by omega) (by omega)
    have HW0 := wr_three k v 1
    have HE0 : strE k v true t = str3 k v 1 ++ slS ++ t := rfl
    obtain ⟨S, HS⟩ : ∃ S, Hid (str3 k v 1 = S) := ⟨_, rfl⟩
    rw [HS.out] at hsz HW0 HE0
    rw [HE0]
    have HW : Hid ((⟨(wrP [(k : Int), (v : Int), ((1 : Nat) : Int)] 3).toArray⟩ : ByteArray) = S) := HW0
    clear HW0 HE0
    go_enter Tryz.func197, Tryz.ntmps197
    go_wp2_with fail
    refine (check_ok H.out _).mono ?_
    rintro e w1 ⟨rfl, hb⟩
    have B1 : Hid (Below w.heap.size w w1) := Below.trans (by go_grown) (hb.mono (by simp))
    obtain ⟨a0, a1, a2, a3, a4, af⟩ := (box_new w k v a true t w.heap.size rfl).below hb (by simp)
    clear hb
    have HX : Hid (Below w.heap.size w (w1.alloc (.cells #[.int .i64 k, .int .i64 v, .int .i64 1] 3)).drew) := (B1.out.alloc B1.out.size _).drew
    have hz1 : (⟨#[47]⟩ : ByteArray).size = 1 := rfl
    have hs5 : ¬ 9223372036854775807 < S.size + 1 := by omega
    have hs6 : ¬ 9223372036854775807 < S.size + 1 + t.size := by omega
    have HS3 : Hid ((S ++ (⟨#[47]⟩ : ByteArray) ++ t).size ≤ 9223372036854775807) := by
      show _ ≤ _
      rw [ByteArray.size_append, ByteArray.size_append, hz1]
      omega
    clear hz1
    have HW3 : Hid ((⟨(wrP [(k : Int), (v : Int), 1] [(k : Int), (v : Int), 1].length).toArray⟩ : ByteArray) = S) := HW.out
    have hlt1 : w.heap.size < w1.heap.size := World.block_lt_of_cell? w1 _ a4
    have HY : Hid (Below w1.heap.size w1 (w1.alloc (.cells #[.int .i64 k, .int .i64 v, .int .i64 1] 3)).drew) := ((Below.refl _ _).alloc (Nat.le_refl _) _).drew
    have HA0 : Hid ((w1.alloc (.cells #[.int .i64 k, .int .i64 v, .int .i64 1] 3)).drew.cell? ⟨w.heap.size, 0, none⟩ = some (.int .i64 (k : Int))) := cell_on HY.out hlt1 a0
    have HA1 : Hid ((w1.alloc (.cells #[.int .i64 k, .int .i64 v, .int .i64 1] 3)).drew.cell? ⟨w.heap.size, 1, none⟩ = some (.int .i64 (v : Int))) := cell_on HY.out hlt1 a1
    have HA4 : Hid ((w1.alloc (.cells #[.int .i64 k, .int .i64 v, .int .i64 1] 3)).drew.cell? ⟨w.heap.size, 4, none⟩ = some (.string t)) := cell_on HY.out hlt1 a4
    have HL : Hid (w.heap.size < (w1.alloc (.cells #[.int .i64 k, .int .i64 v, .int .i64 1] 3)).drew.heap.size) := by
      show _ < _
      simp
      omega
    have HM : Hid (w.heap.size ≤ (w1.alloc (.cells #[.int .i64 k, .int .i64 v, .int .i64 1] 3)).drew.heap.size) := Nat.le_of_lt HL.out
    go_upto_region 7 with fail
    go_region_held3 (fun w' => w'.cell? ⟨w.heap.size, 0, none⟩ = some (.int .i64 (k : Int)) ∧ w'.cell? ⟨w.heap.size, 1, none⟩ = some (.int .i64 (v : Int)) ∧ w'.cell? ⟨w.heap.size, 4, none⟩ = some (.string t)) (first | go_keep | (exact ⟨cell_on hb2 HL.out HA0.out, cell_on hb2 HL.out HA1.out, cell_on hb2 HL.out HA4.out⟩)) (first | (go_at_call 146; refine (written_c _ [(k : Int), (v : Int), 1] _ (by simp) (by simp) (fun x hx => by simp at hx; omega) (nums_three w1 k v 1).drew (HT.out _ HX.out)).mono ?_; rintro e w2 ⟨rfl, hb2⟩; simp only [HW3.out]) | (go_at_call 145; refine (number_c _ _ HS3.out).mono ?_; rintro e w3 ⟨rfl, rfl⟩))
    have HB2 : Hid (Below w.heap.size w w3) := HX.out.trans (hb2.mono HM.out)
    clear hb2
    go_wp2_with fail
    go_ret2
    exact ⟨rfl, HB2.out⟩
end Go.Proofs.YtpcnfoaoajfhlaaGreatDoor

namespace Go.Proofs.YtpcnfoaoajfhlaaGreatDoor
set_option linter.unusedVariables false
set_option linter.unusedSimpArgs false
open Go.RowKit

/-- decimal digits, n steps at most -/
def digF : Nat → Nat → List Nat
  | 0, u => [48 + u]
  | n + 1, u => if u < 10 then [48 + u] else digF n (u / 10) ++ [48 + u % 10]
theorem u8_dig {x : Nat} (h : x < 10) : (UInt8.ofNat (48 + x)).toNat = 48 + x := by
  rw [UInt8.toNat_ofNat']
  omega
theorem digF_eq : ∀ n u, u ≤ n → digF n u = (Lib.decDigits u).map UInt8.toNat := by
  intro n
  induction n with
  | zero =>
    intro u h
    obtain rfl : u = 0 := by omega
    rw [Lib.decDigits_one (by omega), List.map_singleton, u8_dig (by omega)]
    rfl
  | succ n ih =>
    intro u h
    rw [digF]
    split
    · rename_i h10
      rw [Lib.decDigits_one h10, List.map_singleton, u8_dig h10]
    · rename_i h10
      have e : Lib.decDigits u = Lib.decDigits (u / 10) ++ [UInt8.ofNat (48 + u % 10)] := by rw [Lib.decDigits, dif_neg h10]
      rw [ih (u / 10) (by omega), e, List.map_append, List.map_singleton, u8_dig (Nat.mod_lt _ (by omega))]
theorem byN_dig (u : Nat) : byN (digS u) = digF u u := by
  rw [digF_eq u u (Nat.le_refl _)]
  rfl
theorem byN_append (a b : ByteArray) : byN (a ++ b) = byN a ++ byN b := by simp [byN, ByteArray.data_append]
/-- the number of two numbers -/
def pairH (a b : Nat) : Nat := hashL (byN (str2 a b))
def pairF (a b : Nat) : Nat := hashL (digF a a ++ [47] ++ digF b b)
theorem pairH_eq : pairH = pairF := by
  funext a b
  rw [pairH, pairF, str2, byN_append, byN_append, byN_dig, byN_dig]
  rfl
theorem pairH_lt (a b : Nat) : pairH a b < 4294967296 := hashL_lt _
/-- the number of an entry -/
def entH (k v : Nat) (g : Bool) (t : ByteArray) : Nat := hashL (byN (strE k v g t))
def entF (k v : Nat) (g : Bool) (t : List Nat) : Nat := hashL (digF k k ++ [47] ++ digF v v ++ [47] ++ digF (if g = true then 1 else 0) (if g = true then 1 else 0) ++ [47] ++ t)
theorem entH_eq (k v : Nat) (g : Bool) (t : ByteArray) : entH k v g t = entF k v g (byN t) := by
  rw [entH, entF, strE, str3, byN_append, byN_append, byN_append, byN_append, byN_append, byN_append, byN_dig, byN_dig, byN_dig]
  rfl
/-- one entry alone against nothing: the key 6, seven nodes -/
def oneF (k : Nat) : Nat := if k = 6 then entF 6 1 false [120] else 0
theorem one_part : ptK pairF oneF (fun _ => 0) 3 1 = [6] ∧ ptN pairF oneF (fun _ => 0) 3 1 = 7 := by decide +kernel
end Go.Proofs.YtpcnfoaoajfhlaaGreatDoor

namespace Go.Proofs.YtpcnfoaoajfhlaaGreatDoor
set_option linter.unusedVariables false
set_option linter.unusedSimpArgs false
open Go.RowKit

/-- an entry's number -/
def numE (x : En) : Nat := entH x.k.toNat x.v.toNat x.g x.t
/-- the number at a key's end -/
def leafN (l : List En) (k : Nat) : Nat := match getE l (k : Int) with
  | none => 0
  | some x => numE x
theorem leafN_none {l : List En} {k : Nat} (h : getE l (k : Int) = none) : leafN l k = 0 := by rw [leafN, h]
theorem leafN_some {l : List En} {k : Nat} {x : En} (h : getE l (k : Int) = some x) : leafN l k = numE x := by rw [leafN, h]
theorem numE_lt (x : En) : numE x < 4294967296 := hashL_lt _
theorem leafN_lt (l : List En) (k : Nat) : leafN l k < 4294967296 := by
  unfold leafN
  split
  · omega
  · exact numE_lt _
/-- how many rows a node is above the ends -/
def dep (i : Nat) : Nat := if i < 2 then 3 else if i < 4 then 2 else if i < 8 then 1 else 0
/-- a tree's node -/
def trN (f : Nat → Nat) (i : Nat) : Nat := nd pairH f (dep i) i
theorem dep_end {i : Nat} (h : 8 ≤ i) : dep i = 0 := by
  unfold dep
  rw [if_neg (by omega), if_neg (by omega), if_neg (by omega)]
theorem dep_two {i : Nat} (h0 : 1 ≤ i) (h : i < 8) : dep i = dep (2 * i) + 1 ∧ dep (2 * i + 1) = dep (2 * i) := by
  have h8 : i = 1 ∨ i = 2 ∨ i = 3 ∨ i = 4 ∨ i = 5 ∨ i = 6 ∨ i = 7 := by omega
  rcases h8 with rfl | rfl | rfl | rfl | rfl | rfl | rfl <;> exact ⟨rfl, rfl⟩
theorem trN_end (f : Nat → Nat) {i : Nat} (h : 8 ≤ i) : trN f i = f (i - 8) := by
  rw [trN, dep_end h]
  rfl
theorem trN_two (f : Nat → Nat) {i : Nat} (h0 : 1 ≤ i) (h : i < 8) : trN f i = pairH (trN f (2 * i)) (trN f (2 * i + 1)) := by
  obtain ⟨h1, h2⟩ := dep_two h0 h
  rw [trN, trN, trN, h2, h1]
  rfl
theorem trN_lt (f : Nat → Nat) (hf : ∀ k, f k < 4294967296) (i : Nat) : trN f i < 4294967296 := by
  unfold trN
  cases dep i with
  | zero => exact hf _
  | succ d => exact pairH_lt _ _
/-- the nodes behind i, the others 0 -/
def downTo (f : Nat → Nat) (i k : Nat) : Nat := if i < k then trN f k else 0
theorem downTo_lt (f : Nat → Nat) (hf : ∀ k, f k < 4294967296) (i k : Nat) : downTo f i k < 4294967296 := by
  unfold downTo
  split
  · exact trN_lt f hf k
  · omega
def updN (o : Nat → Nat) (k z : Nat) : Nat → Nat := fun j => if j = k then z else o j
theorem downTo_step (f : Nat → Nat) {i : Nat} (h : i + 1 < 8) : updN (downTo f (i + 1)) (i + 1) (pairH (downTo f (i + 1) (2 * (i + 1))) (downTo f (i + 1) (2 * (i + 1) + 1))) = downTo f i := by
  funext k
  have h1 : downTo f (i + 1) (2 * (i + 1)) = trN f (2 * (i + 1)) := if_pos (by omega)
  have h2 : downTo f (i + 1) (2 * (i + 1) + 1) = trN f (2 * (i + 1) + 1) := if_pos (by omega)
  rw [h1, h2, ← trN_two f (by omega) h]
  unfold updN downTo
  by_cases e : k = i + 1
  · subst e
    rw [if_pos rfl, if_pos (by omega)]
  · rw [if_neg e]
    by_cases e2 : i + 1 < k
    · rw [if_pos e2, if_pos (by omega)]
    · rw [if_neg e2, if_neg (by omega)]
/-- the ends of the first j entries, all else 0 -/
def endsOf (l : List En) (j k : Nat) : Nat := if 8 ≤ k then leafN (l.take j) (k - 8) else 0
theorem endsOf_zero (l : List En) : endsOf l 0 = fun _ => 0 := by
  funext k
  unfold endsOf
  split
  · rfl
  · rfl
theorem endsOf_all (l : List En) : endsOf l l.length = downTo (leafN l) 7 := by
  funext k
  unfold endsOf downTo
  rw [List.take_length]
  by_cases h : 8 ≤ k
  · rw [if_pos h, if_pos (by omega), trN_end _ h]
  · rw [if_neg h, if_neg (by omega)]
theorem getE_take {l : List En} (hr : Rising l) {j : Nat} (hj : j < l.length) (q : Int) : getE (l.take (j + 1)) q = if q = l[j].k then some l[j] else getE (l.take j) q := by
  have e : l.take (j + 1) = l.take j ++ [l[j]] := by rw [List.take_succ_eq_append_getElem hj]
  unfold getE
  rw [e, List.find?_append]
  by_cases h : q = l[j].k
  · rw [if_pos h]
    have hn : List.find? (fun e => e.k == q) (l.take j) = none := by
      rw [List.find?_eq_none]
      intro x hx hxq
      have hxk : x.k = q := by simpa using hxq
      obtain ⟨i, hi, rfl⟩ := List.mem_iff_getElem.1 hx
      rw [List.length_take] at hi
      have hlt := (List.pairwise_iff_getElem.1 hr) i j (by omega) hj (by omega)
      rw [List.getElem_take] at hxk
      have hlt' : l[i].k < l[j].k := hlt
      omega
    have hs : List.find? (fun e => e.k == q) [l[j]] = some l[j] := List.find?_cons_of_pos (by simp [h])
    rw [hn, hs]
    rfl
  · rw [if_neg h]
    have hs : List.find? (fun e => e.k == q) [l[j]] = none := by
      rw [List.find?_cons_of_neg (by simpa using fun h' => h h'.symm)]
      rfl
    rw [hs]
    cases List.find? (fun e => e.k == q) (l.take j) <;> rfl
theorem endsOf_step {l : List En} (hr : Rising l) {j K : Nat} (hj : j < l.length) (hK : l[j].k = (K : Int)) : updN (endsOf l j) (8 + K) (numE l[j]) = endsOf l (j + 1) := by
  funext k
  unfold updN endsOf
  by_cases h8 : 8 ≤ k
  · rw [if_pos h8, if_pos h8]
    unfold leafN
    rw [getE_take hr hj]
    by_cases e : k = 8 + K
    · rw [if_pos e, if_pos (by omega)]
    · rw [if_neg e, if_neg (by omega)]
  · rw [if_neg h8, if_neg h8, if_neg (by omega)]

/-- sixteen numbers at a block -/
structure SixAt (w : World) (b : Nat) (o : Nat → Nat) : Prop where
  cell : ∀ k, k < 16 → w.cell? ⟨b, k, none⟩ = some (.int .i64 (o k : Nat))
  fz : ∀ j, w.frozen? ⟨b, j, none⟩ = false
theorem SixAt.of_block {w w' : World} {b : Nat} {o : Nat → Nat} (h : SixAt w b o) (hb : w'.heap[b]? = w.heap[b]?) : SixAt w' b o :=
  ⟨fun k hk => (World.cell?_of_block (a := ⟨b, k, none⟩) hb).trans (h.cell k hk), fun j => (World.frozen?_of_block (a := ⟨b, j, none⟩) hb).trans (h.fz j)⟩
theorem SixAt.lt {w : World} {b : Nat} {o : Nat → Nat} (h : SixAt w b o) : b < w.heap.size := World.block_lt_of_cell? w _ (h.cell 0 (by omega))
theorem SixAt.below {w w' : World} {b B : Nat} {o : Nat → Nat} (h : SixAt w b o) (hb : Below B w w') (hB : b < B) : SixAt w' b o := h.of_block (hb.block b hB)
theorem SixAt.grown {w w' : World} {b : Nat} {o : Nat → Nat} (h : SixAt w b o) (hb : Below w.heap.size w w') : SixAt w' b o := h.below hb h.lt
theorem SixAt.alloc {w : World} {b : Nat} {o : Nat → Nat} (h : SixAt w b o) (x : Obj) : SixAt (w.alloc x) b o := h.of_block (Below.heap_alloc _ _ _ h.lt)
theorem SixAt.other {w : World} {b : Nat} {o : Nat → Nat} (h : SixAt w b o) (a : Addr) (hc : b ≠ a.block) (u : Value) : SixAt (w.setCell a u) b o := h.of_block (Below.heap_setCell _ _ _ b hc)
theorem SixAt.set {w : World} {b : Nat} {o : Nat → Nat} (h : SixAt w b o) (k : Nat) (hk : k < 16) (z : Nat) : SixAt (w.setCell ⟨b, k, none⟩ (.int .i64 (z : Nat))) b (updN o k z) := by
  refine ⟨fun j hj => ?_, fun j => by rw [World.frozen?_setCell]; exact h.fz j⟩
  by_cases e : j = k
  · subst e
    rw [updN, if_pos rfl]
    exact World.cell?_setCell_same _ _ _ (h.cell j hj)
  · rw [updN, if_neg e, World.cell?_setCell_other _ _ _ _ (by simp [e])]
    exact h.cell j hj
theorem six_new (w : World) (t : TypeId) (b : Nat) (h : b = w.heap.size) (o : Nat → Nat) : SixAt (w.alloc (.cells #[.int .i64 (o 0 : Nat), .int .i64 (o 1 : Nat), .int .i64 (o 2 : Nat), .int .i64 (o 3 : Nat), .int .i64 (o 4 : Nat), .int .i64 (o 5 : Nat), .int .i64 (o 6 : Nat), .int .i64 (o 7 : Nat), .int .i64 (o 8 : Nat), .int .i64 (o 9 : Nat), .int .i64 (o 10 : Nat), .int .i64 (o 11 : Nat), .int .i64 (o 12 : Nat), .int .i64 (o 13 : Nat), .int .i64 (o 14 : Nat), .int .i64 (o 15 : Nat)] t)) b o := by
  subst h
  refine ⟨fun k hk => ?_, fun j => by simp⟩
  have h8 : k = 0 ∨ k = 1 ∨ k = 2 ∨ k = 3 ∨ k = 4 ∨ k = 5 ∨ k = 6 ∨ k = 7 ∨ k = 8 ∨ k = 9 ∨ k = 10 ∨ k = 11 ∨ k = 12 ∨ k = 13 ∨ k = 14 ∨ k = 15 := by omega
  rcases h8 with rfl | rfl | rfl | rfl | rfl | rfl | rfl | rfl | rfl | rfl | rfl | rfl | rfl | rfl | rfl | rfl <;> simp
/-- sixteen numbers as a value -/
def ag16 (o : Nat → Nat) : Value := .agg #[.int .i64 (o 0 : Nat), .int .i64 (o 1 : Nat), .int .i64 (o 2 : Nat), .int .i64 (o 3 : Nat), .int .i64 (o 4 : Nat), .int .i64 (o 5 : Nat), .int .i64 (o 6 : Nat), .int .i64 (o 7 : Nat), .int .i64 (o 8 : Nat), .int .i64 (o 9 : Nat), .int .i64 (o 10 : Nat), .int .i64 (o 11 : Nat), .int .i64 (o 12 : Nat), .int .i64 (o 13 : Nat), .int .i64 (o 14 : Nat), .int .i64 (o 15 : Nat)]
/-- the sixteen cells of a block, stored -/
def set16 (w : World) (b : Nat) (o : Nat → Nat) : World := ((((((((((((((((w.setCell ⟨b, 0, none⟩ (.int .i64 (o 0 : Nat))).setCell ⟨b, 1, none⟩ (.int .i64 (o 1 : Nat))).setCell ⟨b, 2, none⟩ (.int .i64 (o 2 : Nat))).setCell ⟨b, 3, none⟩ (.int .i64 (o 3 : Nat))).setCell ⟨b, 4, none⟩ (.int .i64 (o 4 : Nat))).setCell ⟨b, 5, none⟩ (.int .i64 (o 5 : Nat))).setCell ⟨b, 6, none⟩ (.int .i64 (o 6 : Nat))).setCell ⟨b, 7, none⟩ (.int .i64 (o 7 : Nat))).setCell ⟨b, 8, none⟩ (.int .i64 (o 8 : Nat))).setCell ⟨b, 9, none⟩ (.int .i64 (o 9 : Nat))).setCell ⟨b, 10, none⟩ (.int .i64 (o 10 : Nat))).setCell ⟨b, 11, none⟩ (.int .i64 (o 11 : Nat))).setCell ⟨b, 12, none⟩ (.int .i64 (o 12 : Nat))).setCell ⟨b, 13, none⟩ (.int .i64 (o 13 : Nat))).setCell ⟨b, 14, none⟩ (.int .i64 (o 14 : Nat))).setCell ⟨b, 15, none⟩ (.int .i64 (o 15 : Nat)))
theorem upd16 (u o : Nat → Nat) (k : Nat) (h : k < 16) : updN (updN (updN (updN (updN (updN (updN (updN (updN (updN (updN (updN (updN (updN (updN (updN u 0 (o 0)) 1 (o 1)) 2 (o 2)) 3 (o 3)) 4 (o 4)) 5 (o 5)) 6 (o 6)) 7 (o 7)) 8 (o 8)) 9 (o 9)) 10 (o 10)) 11 (o 11)) 12 (o 12)) 13 (o 13)) 14 (o 14)) 15 (o 15) k = o k := by
  have h8 : k = 0 ∨ k = 1 ∨ k = 2 ∨ k = 3 ∨ k = 4 ∨ k = 5 ∨ k = 6 ∨ k = 7 ∨ k = 8 ∨ k = 9 ∨ k = 10 ∨ k = 11 ∨ k = 12 ∨ k = 13 ∨ k = 14 ∨ k = 15 := by omega
  rcases h8 with rfl | rfl | rfl | rfl | rfl | rfl | rfl | rfl | rfl | rfl | rfl | rfl | rfl | rfl | rfl | rfl <;> simp [updN]
theorem SixAt.set16 {w : World} {b : Nat} {u : Nat → Nat} (h : SixAt w b u) (o : Nat → Nat) : SixAt (set16 w b o) b o := by
  have h' := (((((((((((((((h.set 0 (by omega) (o 0)).set 1 (by omega) (o 1)).set 2 (by omega) (o 2)).set 3 (by omega) (o 3)).set 4 (by omega) (o 4)).set 5 (by omega) (o 5)).set 6 (by omega) (o 6)).set 7 (by omega) (o 7)).set 8 (by omega) (o 8)).set 9 (by omega) (o 9)).set 10 (by omega) (o 10)).set 11 (by omega) (o 11)).set 12 (by omega) (o 12)).set 13 (by omega) (o 13)).set 14 (by omega) (o 14)).set 15 (by omega) (o 15)
  exact ⟨fun k hk => (h'.cell k hk).trans (by rw [upd16 u o k hk]), h'.fz⟩
theorem set16_below {w w' : World} {B b : Nat} (h : Below B w w') (hb : B ≤ b) (o : Nat → Nat) : Below B w (set16 w' b o) := by
  unfold Go.Proofs.YtpcnfoaoajfhlaaGreatDoor.set16
  have s : ∀ {x : World}, Below B w x → ∀ k u, Below B w (x.setCell ⟨b, k, none⟩ u) := fun hx k u => ⟨hx.os, hx.tape, hx.output, by rw [World.size_setCell]; exact hx.size, fun c hc => (Below.heap_setCell _ _ _ c (by show c ≠ b; omega)).trans (hx.block c hc)⟩
  exact s (s (s (s (s (s (s (s (s (s (s (s (s (s (s (s h _ _) _ _) _ _) _ _) _ _) _ _) _ _) _ _) _ _) _ _) _ _) _ _) _ _) _ _) _ _) _ _
theorem six_cells {w : World} {b : Nat} {o : Nat → Nat} (h : SixAt w b o) : w.cell? ⟨b, 0, none⟩ = some (.int .i64 (o 0 : Nat)) ∧ w.cell? ⟨b, 1, none⟩ = some (.int .i64 (o 1 : Nat)) ∧ w.cell? ⟨b, 2, none⟩ = some (.int .i64 (o 2 : Nat)) ∧ w.cell? ⟨b, 3, none⟩ = some (.int .i64 (o 3 : Nat)) ∧ w.cell? ⟨b, 4, none⟩ = some (.int .i64 (o 4 : Nat)) ∧ w.cell? ⟨b, 5, none⟩ = some (.int .i64 (o 5 : Nat)) ∧ w.cell? ⟨b, 6, none⟩ = some (.int .i64 (o 6 : Nat)) ∧ w.cell? ⟨b, 7, none⟩ = some (.int .i64 (o 7 : Nat)) ∧ w.cell? ⟨b, 8, none⟩ = some (.int .i64 (o 8 : Nat)) ∧ w.cell? ⟨b, 9, none⟩ = some (.int .i64 (o 9 : Nat)) ∧ w.cell? ⟨b, 10, none⟩ = some (.int .i64 (o 10 : Nat)) ∧ w.cell? ⟨b, 11, none⟩ = some (.int .i64 (o 11 : Nat)) ∧ w.cell? ⟨b, 12, none⟩ = some (.int .i64 (o 12 : Nat)) ∧ w.cell? ⟨b, 13, none⟩ = some (.int .i64 (o 13 : Nat)) ∧ w.cell? ⟨b, 14, none⟩ = some (.int .i64 (o 14 : Nat)) ∧ w.cell? ⟨b, 15, none⟩ = some (.int .i64 (o 15 : Nat)) :=
  ⟨h.cell 0 (by omega), h.cell 1 (by omega), h.cell 2 (by omega), h.cell 3 (by omega), h.cell 4 (by omega), h.cell 5 (by omega), h.cell 6 (by omega), h.cell 7 (by omega), h.cell 8 (by omega), h.cell 9 (by omega), h.cell 10 (by omega), h.cell 11 (by omega), h.cell 12 (by omega), h.cell 13 (by omega), h.cell 14 (by omega), h.cell 15 (by omega)⟩
end Go.Proofs.YtpcnfoaoajfhlaaGreatDoor
