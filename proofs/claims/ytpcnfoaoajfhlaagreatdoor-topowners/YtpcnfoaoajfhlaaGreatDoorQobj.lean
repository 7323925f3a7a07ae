/-
  Package mesh by its contracts: isNode, isKey, Seq, At, Cache.
-/
import Derived.Test.YtpcnfoaoajfhlaaGreatDoorQobh
import Derived.Test.YtpcnfoaoajfhlaaGreatDoorQobi
import Derived.Test.YtpcnfoaoajfhlaaGreatDoorQoaf
import Derived.BigRegion
import Derived.BigQuiet
namespace Go.Proofs.YtpcnfoaoajfhlaaGreatDoor
set_option linter.unusedVariables false
set_option linter.unusedSimpArgs false
set_option linter.unusedVariables false
set_option linter.unusedSimpArgs false
open Go.RowKit

theorem isNode_c (m c : Nat) (n : Nat) (node : Int) (w : World) (c1 : w.cell? ⟨m, 1, none⟩ = some (.slice (some ⟨c, 0, none⟩) n n)) :
    Calls Tryz.prog 49 #[.pointer (some ⟨m, 0, none⟩), .int .i64 node] w fun e w' => e = .returned (.bool (nodeB n node)) ∧ w' = w := by
  by_cases h : 0 ≤ node
  · have hd : decide (0 ≤ node) = true := by simpa using h
    go_enter Tryz.func49, Tryz.ntmps49
    go_wp2
    go_ret
    exact ⟨by simp [nodeB, h], rfl⟩
  · have hd : decide (0 ≤ node) = false := by simpa using h
    go_enter Tryz.func49, Tryz.ntmps49
    go_wp2
    go_ret
    refine ⟨?_, rfl⟩
    have h' : ¬ 0 ≤ node := by omega
    simp [nodeB, h']
theorem isNode_b {m c n : Nat} {node : Int} {b : Bool} (h : nodeB n node = b) (w : World) (c1 : w.cell? ⟨m, 1, none⟩ = some (.slice (some ⟨c, 0, none⟩) n n)) :
    Calls Tryz.prog 49 #[.pointer (some ⟨m, 0, none⟩), .int .i64 node] w fun e w' => e = .returned (.bool b) ∧ w' = w := by
  subst h
  exact isNode_c m c n node w c1
theorem mKey_c (k : Int) (w : World) : Calls Tryz.prog 50 #[.int .i64 k] w fun e w' => e = .returned (.bool (stK k)) ∧ w' = w := by
  by_cases h : 0 ≤ k
  · have hd : decide (0 ≤ k) = true := by simpa using h
    go_enter Tryz.func50, Tryz.ntmps50
    go_wp2
    go_ret
    exact ⟨by simp [stK, h], rfl⟩
  · have hd : decide (0 ≤ k) = false := by simpa using h
    go_enter Tryz.func50, Tryz.ntmps50
    go_wp2
    go_ret
    refine ⟨?_, rfl⟩
    have h' : ¬ 0 ≤ k := by omega
    simp [stK, h']
theorem mKey_b {k : Int} {b : Bool} (h : stK k = b) (w : World) : Calls Tryz.prog 50 #[.int .i64 k] w fun e w' => e = .returned (.bool b) ∧ w' = w := by
  subst h
  exact mKey_c k w
theorem mSeq_c {S : Nat → Prop} {w : World} {m : Nat} {l : List Deed} {cs : List (List En)} (h : MeshAt S w m l cs) :
    Calls Tryz.prog 16 #[.pointer (some ⟨m, 0, none⟩)] w fun e w' => e = .returned (.int .i64 l.length) ∧ w' = w := by
  obtain ⟨F, b, c, h⟩ := h
  have c0 := h.c0
  have HS : Hid (StoreIs w b l F) := h.st
  clear h
  go_enter Tryz.func16, Tryz.ntmps16
  go_wp2_with fail
  refine (seq_c b l F w HS.out).mono ?_
  rintro e w1 ⟨rfl, hw⟩
  subst hw
  go_wp2_with fail
  go_ret
  exact ⟨rfl, rfl⟩
theorem errV_eV (n : Int) : errV n = eV n := rfl
/-- At, with letters -/
theorem stAt_o {b : Nat} {k s x0 x1 x2 n : Int} {x3 : Bool} {x4 : ByteArray} {l : List Deed} {F : Nat → Prop} {w : World} (h : StoreIs w b l F) (hv : (atO l k s).1 = ⟨x0, x1, x2, x3, x4⟩) (hn : (atO l k s).2 = n) :
    Calls Tryz.prog 116 #[.pointer (some ⟨b, 0, none⟩), .int .i64 k, .int .i64 s] w fun e w' => e = .returned (.tuple #[.agg #[.int .i64 x0, .int .i64 x1, .int .i64 x2, .bool x3, .string x4], eV n]) ∧ Below w.heap.size w w' := by
  have c := at_c b k s l F w h
  rw [hv, hn, errV_eV] at c
  exact c
theorem stRead_o {b : Nat} {k x0 x1 x2 n : Int} {x3 : Bool} {x4 : ByteArray} {l : List Deed} {F : Nat → Prop} {w : World} (h : StoreIs w b l F) (hv : (atO l k l.length).1 = ⟨x0, x1, x2, x3, x4⟩) (hn : (atO l k l.length).2 = n) :
    Calls Tryz.prog 68 #[.pointer (some ⟨b, 0, none⟩), .int .i64 k] w fun e w' => e = .returned (.tuple #[.agg #[.int .i64 x0, .int .i64 x1, .int .i64 x2, .bool x3, .string x4], eV n]) ∧ Below w.heap.size w w' := by
  have c := read_c b k l F w h
  rw [show readO l k = atO l k l.length from rfl, hv, hn, errV_eV] at c
  exact c
/-- a node's cache, as it is told -/
def mCacheO (cs : List (List En)) (node : Int) : List En × Int := if nodeB cs.length node = true then (cacheN cs node, 0) else ([], 1)
theorem cacheN_at {cs : List (List En)} {i : Nat} (hi : i < cs.length) : cacheN cs (i : Int) = cs[i] := by
  unfold cacheN
  rw [Int.toNat_natCast, List.getD_eq_getElem?_getD, List.getElem?_eq_getElem hi]
  rfl
theorem node_nat {n : Nat} {node : Int} (h : nodeB n node = true) : ∃ i : Nat, node = i ∧ i < n := by
  rw [nodeB_iff] at h
  exact ⟨node.toNat, by omega, by omega⟩
set_option maxHeartbeats 1000000 in
theorem mCache_o {S : Nat → Prop} {w : World} {m : Nat} {node n : Int} {x : List En} {l : List Deed} {cs : List (List En)} (h : MeshAt S w m l cs) (hG : GoodM l cs) (hx : mCacheO cs node = (x, n)) :
    Calls Tryz.prog 17 #[.pointer (some ⟨m, 0, none⟩), .int .i64 node] w fun e w' => ∃ v, e = .returned (.tuple #[v, eV n]) ∧ RowIs w' v x ∧ (∀ g, v.ownBlock = some g → w.heap.size ≤ g) ∧ Below w.heap.size w w' := by
  obtain ⟨F, b, c, h⟩ := h
  have c1 := h.c1
  cases hn : nodeB cs.length node
  · have HN : Hid (nodeB cs.length node = false) := hn
    rw [mCacheO, if_neg (by rw [hn]; simp)] at hx
    obtain ⟨rfl, rfl⟩ : [] = x ∧ (1 : Int) = n := by simpa using hx
    clear hx hn h hG
    go_enter Tryz.func17, Tryz.ntmps17
    go_wp2_with (go_at_call 49; refine (isNode_b HN.out _ (by assumption)).mono ?_; rintro e w' ⟨rfl, hw⟩; subst hw)
    go_ret2
    refine ⟨.slice none 0 0, ?_, RowIs.nil _, fun g hg => by simp [Value.ownBlock] at hg, Below.refl _ _⟩
    rfl
  · have HN : Hid (nodeB cs.length node = true) := hn
    rw [mCacheO, if_pos hn] at hx
    obtain ⟨rfl, rfl⟩ : cacheN cs node = x ∧ (0 : Int) = n := by simpa using hx
    obtain ⟨i, rfl, hi⟩ := node_nat hn
    obtain ⟨v, hc, hr, hg⟩ := h.rows i hi
    rw [cacheN_at hi]
    have HR : Hid (RowIs w v cs[i]) := hr
    have H8 : Hid (cs[i].length ≤ 8) := (hG.all cs[i] (List.getElem_mem hi)).good.len
    generalize cs[i] = x at HR H8 ⊢
    clear hx hn h hG hr hg
    generalize cs.length = nc at HN hi c1 ⊢
    have hi2 : (i : Int) < (nc : Int) := by omega
    go_enter Tryz.func17, Tryz.ntmps17
    go_wp2_with (first | (go_at_call 49; refine (isNode_b HN.out _ (by assumption)).mono ?_; rintro e w' ⟨rfl, hw⟩; subst hw))
    refine (clone_c v x _ HR.out H8.out).mono ?_
    rintro e w1 ⟨v1, rfl, ho, hb⟩
    have HO : Hid _ := ho
    have HB : Hid _ := hb
    clear ho hb
    go_wp2_with fail
    go_ret2
    refine ⟨v1, ?_, RowIs.own HO.out, fun g hg => ownsRow_from HO.out g hg, HB.out⟩
    rfl
end Go.Proofs.YtpcnfoaoajfhlaaGreatDoor
