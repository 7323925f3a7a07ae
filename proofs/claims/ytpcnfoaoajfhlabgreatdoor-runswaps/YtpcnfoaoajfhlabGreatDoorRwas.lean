/-
  Package fresh by its contracts: Get.
  Package mesh by its contracts: isNode, isKey, Seq, At, Cache.
-/
import Derived.Test.YtpcnfoaoajfhlabGreatDoorRwaf
import Derived.Test.YtpcnfoaoajfhlabGreatDoorRwap
import Derived.Test.YtpcnfoaoajfhlabGreatDoorRwak
import Derived.BigRegion
import Derived.BigQuiet
namespace Go.Proofs.YtpcnfoaoajfhlabGreatDoor
set_option linter.unusedVariables false
set_option linter.unusedSimpArgs false
set_option linter.unusedVariables false
set_option linter.unusedSimpArgs false
open Go.RowKit

def isSeqB (n : Int) : Bool := decide (0 ≤ n) && decide (n ≤ 1000)
/-- fresh.Get, on lists -/
def freshGet (l : List En) (key fl : Int) : En × Int :=
  if isSeqB fl = false then (zeroEn, 1) else if (cacheGet l key).2 ≠ 0 then (zeroEn, (cacheGet l key).2) else if (cacheGet l key).1.a < fl then (zeroEn, 8) else ((cacheGet l key).1, 0)

theorem isSeq_c (k : Int) (w : World) : Calls Tryz.prog 82 #[.int .i64 k] w fun e w' => e = .returned (.bool (isSeqB k)) ∧ w' = w := by
  by_cases h : 0 ≤ k
  · have hd : decide (0 ≤ k) = true := by simpa using h
    go_enter Tryz.func82, Tryz.ntmps82
    go_wp2
    go_ret
    exact ⟨by simp [isSeqB, h], rfl⟩
  · have hd : decide (0 ≤ k) = false := by simpa using h
    go_enter Tryz.func82, Tryz.ntmps82
    go_wp2
    go_ret
    refine ⟨?_, rfl⟩
    have h' : ¬ 0 ≤ k := by omega
    simp [isSeqB, h']
theorem isSeq_b {k : Int} {b : Bool} (h : isSeqB k = b) (w : World) : Calls Tryz.prog 82 #[.int .i64 k] w fun e w' => e = .returned (.bool b) ∧ w' = w := by
  subst h
  exact isSeq_c k w
theorem getF_ok {l : List En} {key k vv a : Int} {g : Bool} {t : ByteArray} (h : cacheGet l key = (⟨k, vv, a, g, t⟩, 0)) (v : Value) (w : World) (hr : RowIs w v l) :
    Calls Tryz.prog 83 #[v, .int .i64 key] w fun e w' => e = .returned (.tuple #[.agg #[.int .i64 k, .int .i64 vv, .int .i64 a, .bool g, .string t], .nilIface]) ∧ Below w.heap.size w w' := by
  have c := get_c v l key w hr
  rw [h] at c
  exact c
theorem getF_err {l : List En} {key k vv a : Int} {g : Bool} {t : ByteArray} {n : Int} (h : cacheGet l key = (⟨k, vv, a, g, t⟩, n)) (hn : n ≠ 0) (v : Value) (w : World) (hr : RowIs w v l) :
    Calls Tryz.prog 83 #[v, .int .i64 key] w fun e w' => e = .returned (.tuple #[.agg #[.int .i64 k, .int .i64 vv, .int .i64 a, .bool g, .string t], .iface 49 (.int .i64 n)]) ∧ Below w.heap.size w w' := by
  have c := get_c v l key w hr
  rw [h, eV, if_neg hn] at c
  exact c

set_option maxHeartbeats 4000000 in
theorem freshGet_c (v : Value) (l : List En) (key fl : Int) (w : World) (hr : RowIs w v l) :
    Calls Tryz.prog 61 #[v, .int .i64 key, .int .i64 fl] w fun e w' => e = .returned (.tuple #[(freshGet l key fl).1.val, eV (freshGet l key fl).2]) ∧ Below w.heap.size w w' := by
  have HR : Hid (RowIs w v l) := hr
  clear hr
  cases hk : isSeqB fl
  · have HC : Hid (freshGet l key fl = (zeroEn, 1)) := by
      show freshGet l key fl = _
      rw [freshGet, if_pos hk]
    have HS : Hid (isSeqB fl = false) := hk
    clear hk
    rw [HC.out]
    go_enter Tryz.func61, Tryz.ntmps61
    go_wp2_with (go_at_call 82; refine (isSeq_b HS.out _).mono ?_; rintro e w ⟨rfl, rfl⟩)
    refine bodyPost_ret (v := .tuple #[.agg #[.int .i64 0, .int .i64 0, .int .i64 0, .bool false, .string ⟨#[]⟩], .iface 49 (.int .i64 1)]) (by simp [results, Tryz.results61, go_sem]) rfl ?_
    exact ⟨rfl, by go_grown⟩
  · have HS : Hid (isSeqB fl = true) := hk
    clear hk
    have hlt : w.heap.size < (w.alloc (.cells #[.int .i64 0, .int .i64 0, .int .i64 0, .bool false, .string ⟨#[]⟩] 92)).heap.size := by simp
    have HB0 : Hid (Below w.heap.size w (w.alloc (.cells #[.int .i64 0, .int .i64 0, .int .i64 0, .bool false, .string ⟨#[]⟩] 92))) := by show Below _ _ _; go_grown
    obtain ⟨⟨x0, x1, x2, x3, x4⟩, n, HG⟩ : ∃ x n, Hid (cacheGet l key = (x, n)) := ⟨_, _, rfl⟩
    by_cases hn : n = 0
    · subst hn
      by_cases hf : x2 < fl
      · have HC : Hid (freshGet l key fl = (zeroEn, 8)) := by
          show freshGet l key fl = _
          rw [freshGet, if_neg (by rw [HS.out]; simp), HG.out, if_neg (by simp), if_pos hf]
        rw [HC.out]
        go_enter Tryz.func61, Tryz.ntmps61
        go_wp2_with fail
        refine (isSeq_b HS.out _).mono ?_
        rintro e w ⟨rfl, rfl⟩
        go_wp2_with fail
        refine (getF_ok HG.out _ _ (HR.out.below HB0.out)).mono ?_
        rintro e w1 ⟨rfl, hb⟩
        have B1 : Hid (Below w.heap.size w w1) := HB0.out.trans (hb.mono (by simp))
        have E1 : Hid (BoxAt w1 w.heap.size 0 0 0 false ⟨#[]⟩) := (box_new w 0 0 0 false ⟨#[]⟩ w.heap.size rfl).below hb (by simp)
        have p1 : ¬ w.heap.size = w1.heap.size := by have := hb.size; simp at this; omega
        have p2 : ¬ w1.heap.size = w.heap.size := fun h => p1 h.symm
        clear hb
        go_upto_region 7 with fail
        obtain ⟨w2, HW2⟩ : ∃ w2, w2 = w1.alloc (.cells #[.int .i64 x0, .int .i64 x1, .int .i64 x2, .bool x3, .string x4] 92) := ⟨_, rfl⟩
        rw [← HW2]
        have B2 : Hid (Below w.heap.size w w2) := by rw [HW2]; exact B1.out.alloc B1.out.size _
        have E2 : Hid (BoxAt w2 w.heap.size 0 0 0 false ⟨#[]⟩) := by rw [HW2]; exact E1.out.alloc _
        clear HW2
        obtain ⟨e0, e1, e2, e3, e4, ef⟩ := E2.out
        go_wp2_with fail
        refine bodyPost_ret (v := .tuple #[.agg #[.int .i64 0, .int .i64 0, .int .i64 0, .bool false, .string ⟨#[]⟩], .iface 49 (.int .i64 8)]) (by simp [results, Tryz.results61, go_sem, e0, e1, e2, e3, e4]) rfl ?_
        refine ⟨rfl, ?_⟩
        have hle := B2.out.size
        have hb := B2.out
        go_grown
      · have HC : Hid (freshGet l key fl = (⟨x0, x1, x2, x3, x4⟩, 0)) := by
          show freshGet l key fl = _
          rw [freshGet, if_neg (by rw [HS.out]; simp), HG.out, if_neg (by simp), if_neg hf]
        rw [HC.out]
        go_enter Tryz.func61, Tryz.ntmps61
        go_wp2_with fail
        refine (isSeq_b HS.out _).mono ?_
        rintro e w ⟨rfl, rfl⟩
        go_wp2_with fail
        refine (getF_ok HG.out _ _ (HR.out.below HB0.out)).mono ?_
        rintro e w1 ⟨rfl, hb⟩
        have B1 : Hid (Below w.heap.size w w1) := HB0.out.trans (hb.mono (by simp))
        have E1 : Hid (BoxAt w1 w.heap.size 0 0 0 false ⟨#[]⟩) := (box_new w 0 0 0 false ⟨#[]⟩ w.heap.size rfl).below hb (by simp)
        have p1 : ¬ w.heap.size = w1.heap.size := by have := hb.size; simp at this; omega
        have p2 : ¬ w1.heap.size = w.heap.size := fun h => p1 h.symm
        clear hb
        go_upto_region 8 with fail
        obtain ⟨w2, HW2⟩ : ∃ w2, w2 = w1.alloc (.cells #[.int .i64 x0, .int .i64 x1, .int .i64 x2, .bool x3, .string x4] 92) := ⟨_, rfl⟩
        rw [← HW2]
        have B2 : Hid (Below w.heap.size w w2) := by rw [HW2]; exact B1.out.alloc B1.out.size _
        have E2 : Hid (BoxAt w2 w.heap.size 0 0 0 false ⟨#[]⟩) := by rw [HW2]; exact E1.out.alloc _
        have F2 : Hid (BoxAt w2 w1.heap.size x0 x1 x2 x3 x4) := by rw [HW2]; exact box_new w1 x0 x1 x2 x3 x4 _ rfl
        clear HW2
        obtain ⟨e0, e1, e2, e3, e4, ef⟩ := E2.out
        obtain ⟨f0, f1, f2, f3, f4, ff⟩ := F2.out
        go_wp2_with fail
        refine bodyPost_ret (v := .tuple #[.agg #[.int .i64 x0, .int .i64 x1, .int .i64 x2, .bool x3, .string x4], .nilIface]) (by simp [results, Tryz.results61, go_sem, e0, e1, e2, e3, e4]) rfl ?_
        refine ⟨rfl, ?_⟩
        have hle := B2.out.size
        have hb := B2.out
        go_grown
    · have HC : Hid (freshGet l key fl = (zeroEn, n)) := by
        show freshGet l key fl = _
        rw [freshGet, if_neg (by rw [HS.out]; simp), HG.out, if_pos hn]
      rw [HC.out]
      go_enter Tryz.func61, Tryz.ntmps61
      go_wp2_with fail
      refine (isSeq_b HS.out _).mono ?_
      rintro e w ⟨rfl, rfl⟩
      go_wp2_with fail
      refine (getF_err HG.out hn _ _ (HR.out.below HB0.out)).mono ?_
      rintro e w1 ⟨rfl, hb⟩
      have B1 : Hid (Below w.heap.size w w1) := HB0.out.trans (hb.mono (by simp))
      have E1 : Hid (BoxAt w1 w.heap.size 0 0 0 false ⟨#[]⟩) := (box_new w 0 0 0 false ⟨#[]⟩ w.heap.size rfl).below hb (by simp)
      have p1 : ¬ w.heap.size = w1.heap.size := by have := hb.size; simp at this; omega
      have p2 : ¬ w1.heap.size = w.heap.size := fun h => p1 h.symm
      clear hb
      go_upto_region 5 with fail
      obtain ⟨w2, HW2⟩ : ∃ w2, w2 = w1.alloc (.cells #[.int .i64 x0, .int .i64 x1, .int .i64 x2, .bool x3, .string x4] 92) := ⟨_, rfl⟩
      rw [← HW2]
      have B2 : Hid (Below w.heap.size w w2) := by rw [HW2]; exact B1.out.alloc B1.out.size _
      have E2 : Hid (BoxAt w2 w.heap.size 0 0 0 false ⟨#[]⟩) := by rw [HW2]; exact E1.out.alloc _
      clear HW2
      obtain ⟨e0, e1, e2, e3, e4, ef⟩ := E2.out
      go_wp2_with fail
      refine bodyPost_ret (v := .tuple #[.agg #[.int .i64 0, .int .i64 0, .int .i64 0, .bool false, .string ⟨#[]⟩], .iface 49 (.int .i64 n)]) (by simp [results, Tryz.results61, go_sem, e0, e1, e2, e3, e4]) rfl ?_
      refine ⟨by simp [eV, hn]; rfl, ?_⟩
      have hle := B2.out.size
      have hb := B2.out
      go_grown
end Go.Proofs.YtpcnfoaoajfhlabGreatDoor

namespace Go.Proofs.YtpcnfoaoajfhlabGreatDoor
set_option linter.unusedVariables false
set_option linter.unusedSimpArgs false
open Go.RowKit

theorem isNode_c (m c : Nat) (n : Nat) (node : Int) (w : World) (c1 : w.cell? ⟨m, 1, none⟩ = some (.slice (some ⟨c, 0, none⟩) n n)) :
    Calls Tryz.prog 58 #[.pointer (some ⟨m, 0, none⟩), .int .i64 node] w fun e w' => e = .returned (.bool (nodeB n node)) ∧ w' = w := by
  by_cases h : 0 ≤ node
  · have hd : decide (0 ≤ node) = true := by simpa using h
    go_enter Tryz.func58, Tryz.ntmps58
    go_wp2
    go_ret
    exact ⟨by simp [nodeB, h], rfl⟩
  · have hd : decide (0 ≤ node) = false := by simpa using h
    go_enter Tryz.func58, Tryz.ntmps58
    go_wp2
    go_ret
    refine ⟨?_, rfl⟩
    have h' : ¬ 0 ≤ node := by omega
    simp [nodeB, h']
theorem isNode_b {m c n : Nat} {node : Int} {b : Bool} (h : nodeB n node = b) (w : World) (c1 : w.cell? ⟨m, 1, none⟩ = some (.slice (some ⟨c, 0, none⟩) n n)) :
    Calls Tryz.prog 58 #[.pointer (some ⟨m, 0, none⟩), .int .i64 node] w fun e w' => e = .returned (.bool b) ∧ w' = w := by
  subst h
  exact isNode_c m c n node w c1
theorem mKey_c (k : Int) (w : World) : Calls Tryz.prog 59 #[.int .i64 k] w fun e w' => e = .returned (.bool (stK k)) ∧ w' = w := by
  by_cases h : 0 ≤ k
  · have hd : decide (0 ≤ k) = true := by simpa using h
    go_enter Tryz.func59, Tryz.ntmps59
    go_wp2
    go_ret
    exact ⟨by simp [stK, h], rfl⟩
  · have hd : decide (0 ≤ k) = false := by simpa using h
    go_enter Tryz.func59, Tryz.ntmps59
    go_wp2
    go_ret
    refine ⟨?_, rfl⟩
    have h' : ¬ 0 ≤ k := by omega
    simp [stK, h']
theorem mKey_b {k : Int} {b : Bool} (h : stK k = b) (w : World) : Calls Tryz.prog 59 #[.int .i64 k] w fun e w' => e = .returned (.bool b) ∧ w' = w := by
  subst h
  exact mKey_c k w
theorem mSeq_c {S : Nat → Prop} {w : World} {m : Nat} {l : List Deed} {cs : List (List En)} (h : MeshAt S w m l cs) :
    Calls Tryz.prog 39 #[.pointer (some ⟨m, 0, none⟩)] w fun e w' => e = .returned (.int .i64 l.length) ∧ w' = w := by
  obtain ⟨F, b, c, h⟩ := h
  have c0 := h.c0
  have HS : Hid (StoreIs w b l F) := h.st
  clear h
  go_enter Tryz.func39, Tryz.ntmps39
  go_wp2_with fail
  refine (seq_c b l F w HS.out).mono ?_
  rintro e w1 ⟨rfl, hw⟩
  subst hw
  go_wp2_with fail
  go_ret
  exact ⟨rfl, rfl⟩
theorem errV_eV (n : Int) : errV n = eV n := rfl
/-- At, with letters -/
theorem stAt_o {b : Nat} {k s x0 x1 x2 n : Int} {x3 : Bool} {x4 : ByteArray} {l : List Deed} {F : Nat → Prop} {w : World} (h : StoreIs w b l F) (hv : (atO l k s).1 = ⟨x0, x1, x2, x3, x4⟩) (hn : (atO l k s).2 = n) :
    Calls Tryz.prog 110 #[.pointer (some ⟨b, 0, none⟩), .int .i64 k, .int .i64 s] w fun e w' => e = .returned (.tuple #[.agg #[.int .i64 x0, .int .i64 x1, .int .i64 x2, .bool x3, .string x4], eV n]) ∧ Below w.heap.size w w' := by
  have c := at_c b k s l F w h
  rw [hv, hn, errV_eV] at c
  exact c
theorem stRead_o {b : Nat} {k x0 x1 x2 n : Int} {x3 : Bool} {x4 : ByteArray} {l : List Deed} {F : Nat → Prop} {w : World} (h : StoreIs w b l F) (hv : (atO l k l.length).1 = ⟨x0, x1, x2, x3, x4⟩) (hn : (atO l k l.length).2 = n) :
    Calls Tryz.prog 84 #[.pointer (some ⟨b, 0, none⟩), .int .i64 k] w fun e w' => e = .returned (.tuple #[.agg #[.int .i64 x0, .int .i64 x1, .int .i64 x2, .bool x3, .string x4], eV n]) ∧ Below w.heap.size w w' := by
  have c := read_c b k l F w h
  rw [show readO l k = atO l k l.length from rfl, hv, hn, errV_eV] at c
  exact c
/-- a node's cache, as it is told -/
def mCacheO (cs : List (List En)) (node : Int) : List En × Int := if nodeB cs.length node = true then (cacheN cs node, 0) else ([], 1)
theorem cacheN_at {cs : List (List En)} {i : Nat} (hi : i < cs.length) : cacheN cs (i : Int) = cs[i] := by
  unfold cacheN
  rw [Int.toNat_natCast, List.getD_eq_getElem?_getD, List.getElem?_eq_getElem hi]
  rfl
theorem node_nat {n : Nat} {node : Int} (h : nodeB n node = true) : ∃ i : Nat, node = i ∧ i < n := by
  rw [nodeB_iff] at h
  exact ⟨node.toNat, by omega, by omega⟩
set_option maxHeartbeats 1000000 in
theorem mCache_o {S : Nat → Prop} {w : World} {m : Nat} {node n : Int} {x : List En} {l : List Deed} {cs : List (List En)} (h : MeshAt S w m l cs) (hG : GoodM l cs) (hx : mCacheO cs node = (x, n)) :
    Calls Tryz.prog 40 #[.pointer (some ⟨m, 0, none⟩), .int .i64 node] w fun e w' => ∃ v, e = .returned (.tuple #[v, eV n]) ∧ RowIs w' v x ∧ (∀ g, v.ownBlock = some g → w.heap.size ≤ g) ∧ Below w.heap.size w w' := by
  obtain ⟨F, b, c, h⟩ := h
  have c1 := h.c1
  cases hn : nodeB cs.length node
  · have HN : Hid (nodeB cs.length node = false) := hn
    rw [mCacheO, if_neg (by rw [hn]; simp)] at hx
    obtain ⟨rfl, rfl⟩ : [] = x ∧ (1 : Int) = n := by simpa using hx
    clear hx hn h hG
    go_enter Tryz.func40, Tryz.ntmps40
    go_wp2_with (go_at_call 58; refine (isNode_b HN.out _ (by assumption)).mono ?_; rintro e w' ⟨rfl, hw⟩; subst hw)
    go_ret2
    refine ⟨.slice none 0 0, ?_, RowIs.nil _, fun g hg => by simp [Value.ownBlock] at hg, Below.refl _ _⟩
    rfl
  · have HN : Hid (nodeB cs.length node = true) := hn
    rw [mCacheO, if_pos hn] at hx
    obtain ⟨rfl, rfl⟩ : cacheN cs node = x ∧ (0 : Int) = n := by simpa using hx
    obtain ⟨i, rfl, hi⟩ := node_nat hn
    obtain ⟨v, hc, hr, hg⟩ := h.rows i hi
    rw [cacheN_at hi]
    have HR : Hid (RowIs w v cs[i]) := hr
    have H8 : Hid (cs[i].length ≤ 8) := (hG.all cs[i] (List.getElem_mem hi)).good.len
    generalize cs[i] = x at HR H8 ⊢
    clear hx hn h hG hr hg
    generalize cs.length = nc at HN hi c1 ⊢
    have hi2 : (i : Int) < (nc : Int) := by omega
    go_enter Tryz.func40, Tryz.ntmps40
    go_wp2_with (first | (go_at_call 58; refine (isNode_b HN.out _ (by assumption)).mono ?_; rintro e w' ⟨rfl, hw⟩; subst hw))
    refine (clone_c v x _ HR.out H8.out).mono ?_
    rintro e w1 ⟨v1, rfl, ho, hb⟩
    have HO : Hid _ := ho
    have HB : Hid _ := hb
    clear ho hb
    go_wp2_with fail
    go_ret2
    refine ⟨v1, ?_, RowIs.own HO.out, fun g hg => ownsRow_from HO.out g hg, HB.out⟩
    rfl
end Go.Proofs.YtpcnfoaoajfhlabGreatDoor
