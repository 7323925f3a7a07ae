/-
  Package cache by its contracts: Get.
-/
import Derived.Test.YtpcnfoaoajfhlaaDoorCaF
namespace Go.Proofs.YtpcnfoaoajfhlaaDoor
set_option linter.unusedVariables false
set_option linter.unusedSimpArgs false
open Go.RowKit

def zeroEn : En := ⟨0, 0, 0, false, ⟨#[]⟩⟩
def isKeyB (k : Int) : Bool := decide (0 ≤ k) && decide (k < 8)
/-- Get, on lists -/
def cacheGet (l : List En) (key : Int) : En × Int :=
  if badL l ≠ 0 then (zeroEn, badL l) else if isKeyB key = false then (zeroEn, 1) else match getE l key with | none => (zeroEn, 5) | some x => (x, 0)

theorem isKey_c (k : Int) (w : World) : Calls Tryd.prog 45 #[.int .i64 k] w fun e w' => e = .returned (.bool (isKeyB k)) ∧ w' = w := by
  by_cases h : 0 ≤ k
  · have hd : decide (0 ≤ k) = true := by simpa using h
    go_enter Tryd.func45, Tryd.ntmps45
    go_wp2
    go_ret
    exact ⟨by simp [isKeyB, h], rfl⟩
  · have hd : decide (0 ≤ k) = false := by simpa using h
    go_enter Tryd.func45, Tryd.ntmps45
    go_wp2
    go_ret
    refine ⟨?_, rfl⟩
    have h' : ¬ 0 ≤ k := by omega
    simp [isKeyB, h']
theorem cacheCheck_o {v : Value} {l : List En} {w : World} {n : Int} (hr : RowIs w v l) (h : badL l = n) :
    Calls Tryd.prog 44 #[v] w fun e w' => e = .returned (eV n) ∧ Below w.heap.size w w' := by
  subst h
  exact cacheCheck_c v l w hr
theorem cacheCheck_ok {v : Value} {l : List En} {w : World} (hr : RowIs w v l) (h : badL l = 0) :
    Calls Tryd.prog 44 #[v] w fun e w' => e = .returned .nilIface ∧ Below w.heap.size w w' := cacheCheck_o hr h
theorem cacheCheck_err {v : Value} {l : List En} {w : World} {n : Int} (hr : RowIs w v l) (h : badL l = n) (hn : n ≠ 0) :
    Calls Tryd.prog 44 #[v] w fun e w' => e = .returned (.iface 71 (.int .i64 n)) ∧ Below w.heap.size w w' := by
  have c := cacheCheck_o hr h
  rw [eV, if_neg hn] at c
  exact c

set_option maxHeartbeats 4000000 in
theorem get_c (v : Value) (l : List En) (key : Int) (w : World) (hr : RowIs w v l) :
    Calls Tryd.prog 12 #[v, .int .i64 key] w fun e w' => e = .returned (.tuple #[(cacheGet l key).1.val, eV (cacheGet l key).2]) ∧ Below w.heap.size w w' := by
  have HR : Hid (RowIs w v l) := hr
  have hlt : w.heap.size < (w.alloc (.cells #[.int .i64 0, .int .i64 0, .int .i64 0, .bool false, .string ⟨#[]⟩] 38)).heap.size := by simp
  have HB0 : Hid (Below w.heap.size w (w.alloc (.cells #[.int .i64 0, .int .i64 0, .int .i64 0, .bool false, .string ⟨#[]⟩] 38))) := by show Below _ _ _; go_grown
  clear hr hlt
  by_cases hn : badL l = 0
  · have HN : Hid (badL l = 0) := hn
    have HG : Hid (GoodL l) := badL_good hn
    clear hn
    cases hk : isKeyB key
    · have HC : Hid (cacheGet l key = (zeroEn, 1)) := by
        show cacheGet l key = _
        rw [cacheGet, if_neg (by simpa using HN.out), if_pos hk]
      have HKb : Hid (isKeyB key = false) := hk
      clear hk
      rw [HC.out]
      go_enter Tryd.func12, Tryd.ntmps12
      go_wp2_with fail
      refine (cacheCheck_ok (HR.out.below HB0.out) HN.out).mono ?_
      rintro e w1 ⟨rfl, hb⟩
      have B1 : Hid (Below w.heap.size w w1) := HB0.out.trans (hb.mono (by simp))
      obtain ⟨e0, e1, e2, e3, e4, ef⟩ := (box_new w 0 0 0 false ⟨#[]⟩ w.heap.size rfl).below hb (by simp)
      clear hb
      go_wp2_with (go_at_call 45; refine (isKey_c _ _).mono ?_; rintro e w' ⟨rfl, rfl⟩; rw [HKb.out])
      refine bodyPost_ret (v := .tuple #[.agg #[.int .i64 0, .int .i64 0, .int .i64 0, .bool false, .string ⟨#[]⟩], .iface 71 (.int .i64 1)]) (by simp [results, Tryd.results12, go_sem, e0, e1, e2, e3, e4]) rfl ?_
      refine ⟨rfl, ?_⟩
      have hb := B1.out
      go_grown
    · have HKb : Hid (isKeyB key = true) := hk
      clear hk
      cases hg : getE l key with
      | none =>
        have HC : Hid (cacheGet l key = (zeroEn, 5)) := by
          show cacheGet l key = _
          rw [cacheGet, if_neg (by simpa using HN.out), if_neg (by rw [HKb.out]; simp), hg]
        have HGt : Hid (getE l key = none) := hg
        clear hg
        rw [HC.out]
        go_enter Tryd.func12, Tryd.ntmps12
        go_wp2_with fail
        refine (cacheCheck_ok (HR.out.below HB0.out) HN.out).mono ?_
        rintro e w1 ⟨rfl, hb⟩
        have B1 : Hid (Below w.heap.size w w1) := HB0.out.trans (hb.mono (by simp))
        have E1 : Hid (BoxAt w1 w.heap.size 0 0 0 false ⟨#[]⟩) := (box_new w 0 0 0 false ⟨#[]⟩ w.heap.size rfl).below hb (by simp)
        clear hb
        go_wp2_with (go_at_call 45; refine (isKey_c _ _).mono ?_; rintro e w' ⟨rfl, rfl⟩; rw [HKb.out])
        refine (place_c v l key _ (HR.out.below B1.out) HG.out).mono ?_
        rintro e w2 ⟨rfl, hb⟩
        rw [HGt.out]
        have B2 : Hid (Below w.heap.size w w2) := B1.out.trans (hb.mono B1.out.size)
        obtain ⟨e0, e1, e2, e3, e4, ef⟩ := E1.out.below hb E1.out.lt
        clear hb
        go_wp2_with fail
        refine bodyPost_ret (v := .tuple #[.agg #[.int .i64 0, .int .i64 0, .int .i64 0, .bool false, .string ⟨#[]⟩], .iface 71 (.int .i64 5)]) (by simp [results, Tryd.results12, go_sem, e0, e1, e2, e3, e4]) rfl ?_
        refine ⟨rfl, ?_⟩
        have hb := B2.out
        go_grown
      | some x =>
        have HC : Hid (cacheGet l key = (x, 0)) := by
          show cacheGet l key = _
          rw [cacheGet, if_neg (by simpa using HN.out), if_neg (by rw [HKb.out]; simp), hg]
        have HGt : Hid (getE l key = some x) := hg
        obtain ⟨hm, hx, hxk⟩ := getE_some HG.out.rise hg
        clear hg hxk
        obtain ⟨hlen, p, cap, rfl, hrow⟩ := HR.out
        obtain ⟨b, o, rfl, hbw, hat⟩ := hrow (fun h => by simp [h] at hm)
        have HAt : Hid (EnAt w b (o + placeE l key * 5) x) := by
          have := hat _ hm
          rw [hx] at this
          exact this
        clear hrow hat hx
        rw [HC.out]
        obtain ⟨m, HM⟩ : ∃ m, Hid (placeE l key = m) := ⟨_, rfl⟩
        rw [HM.out] at hm HAt
        obtain ⟨N, HNl⟩ : ∃ N, Hid (l.length = N) := ⟨_, rfl⟩
        rw [HNl.out] at hm HR hlen ⊢
        have hm1 : (m : Int) < (N : Int) := by omega
        obtain ⟨x0, x1, x2, x3, x4⟩ := x
        go_enter Tryd.func12, Tryd.ntmps12
        go_wp2_with fail
        refine (cacheCheck_ok (HR.out.below HB0.out) HN.out).mono ?_
        rintro e w1 ⟨rfl, hb⟩
        have B1 : Hid (Below w.heap.size w w1) := HB0.out.trans (hb.mono (by simp))
        have E1 : Hid (BoxAt w1 w.heap.size 0 0 0 false ⟨#[]⟩) := (box_new w 0 0 0 false ⟨#[]⟩ w.heap.size rfl).below hb (by simp)
        clear hb
        go_wp2_with (go_at_call 45; refine (isKey_c _ _).mono ?_; rintro e w' ⟨rfl, rfl⟩; rw [HKb.out])
        refine (place_c _ l key _ (HR.out.below B1.out) HG.out).mono ?_
        rintro e w2 ⟨rfl, hb⟩
        rw [HGt.out, HM.out]
        have B2 : Hid (Below w.heap.size w w2) := B1.out.trans (hb.mono B1.out.size)
        obtain ⟨e0, e1, e2, e3, e4, ef⟩ := E1.out.below hb E1.out.lt
        obtain ⟨c0, c1, c2, c3, c4⟩ := HAt.out.of_block (B2.out.block b hbw)
        dsimp only at c0 c1 c2 c3 c4
        have p1 : ¬ b = w.heap.size := by omega
        have p2 : ¬ w.heap.size = b := by omega
        clear hb
        go_wp2_with fail
        refine bodyPost_ret (v := .tuple #[.agg #[.int .i64 x0, .int .i64 x1, .int .i64 x2, .bool x3, .string x4], .nilIface]) (by simp [results, Tryd.results12, go_sem, e0, e1, e2, e3, e4]) rfl ?_
        refine ⟨rfl, ?_⟩
        have hb := B2.out
        go_grown
  · obtain ⟨n, HN⟩ : ∃ n, Hid (badL l = n) := ⟨_, rfl⟩
    have HC : Hid (cacheGet l key = (zeroEn, n)) := by
      show cacheGet l key = _
      rw [cacheGet, if_pos hn, HN.out]
    rw [HN.out] at hn
    rw [HC.out]
    go_enter Tryd.func12, Tryd.ntmps12
    go_wp2_with fail
    refine (cacheCheck_err (HR.out.below HB0.out) HN.out hn).mono ?_
    rintro e w1 ⟨rfl, hb⟩
    have B1 : Hid (Below w.heap.size w w1) := HB0.out.trans (hb.mono (by simp))
    obtain ⟨e0, e1, e2, e3, e4, ef⟩ := (box_new w 0 0 0 false ⟨#[]⟩ w.heap.size rfl).below hb (by simp)
    clear hb
    go_wp2_with fail
    refine bodyPost_ret (v := .tuple #[.agg #[.int .i64 0, .int .i64 0, .int .i64 0, .bool false, .string ⟨#[]⟩], .iface 71 (.int .i64 n)]) (by simp [results, Tryd.results12, go_sem, e0, e1, e2, e3, e4]) rfl ?_
    refine ⟨by simp [eV, hn]; rfl, ?_⟩
    have hb := B1.out
    go_grown
end Go.Proofs.YtpcnfoaoajfhlaaDoor
