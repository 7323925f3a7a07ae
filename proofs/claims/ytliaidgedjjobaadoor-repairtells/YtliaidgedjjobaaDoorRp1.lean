/-
  Package repair by its contracts: within, Meet, of.
-/
import Derived.Test.YtliaidgedjjobaaDoorRpF
import Derived.Test.YtliaidgedjjobaaDoorTbM
import Derived.BigRegion
import Derived.BigQuiet
namespace Go.Proofs.YtliaidgedjjobaaDoor
set_option linter.unusedVariables false
set_option linter.unusedSimpArgs false
open Go.RowKit

def inB (n lo hi : Int) : Bool := decide (lo ≤ n) && decide (n ≤ hi)
set_option maxHeartbeats 1000000 in
theorem inR_b {n lo hi : Int} {b : Bool} (h : inB n lo hi = b) (w : World) : Calls Tryd.prog 42 #[.int .i64 n, .int .i64 lo, .int .i64 hi] w fun e w' => e = .returned (.bool b) ∧ w' = w := by
  have HB : Hid (inB n lo hi = b) := h
  clear h
  by_cases h1 : lo ≤ n
  · have h1b : decide (lo ≤ n) = true := by simpa using h1
    obtain ⟨c, h2b⟩ : ∃ c, decide (n ≤ hi) = c := ⟨_, rfl⟩
    have HBf : Hid (b = c) := by show b = c; rw [← HB.out, ← h2b, inB, h1b, Bool.true_and]
    go_enter Tryd.func42, Tryd.ntmps42
    go_wp2_with fail
    go_ret
    exact ⟨by rw [HBf.out]; rfl, rfl⟩
  · have h1b : decide (lo ≤ n) = false := by simpa using h1
    have HBf : Hid (b = false) := by show b = false; rw [← HB.out, inB, h1b, Bool.false_and]
    go_enter Tryd.func42, Tryd.ntmps42
    go_wp2_with fail
    go_ret
    exact ⟨by rw [HBf.out]; rfl, rfl⟩
theorem inB_yes {n lo hi : Int} (h : inB n lo hi = true) : lo ≤ n ∧ n ≤ hi := by simpa [inB] using h
theorem inB_no {n lo hi : Int} (h : inB n lo hi = false) : ¬ (lo ≤ n ∧ n ≤ hi) := by simpa [inB] using h
set_option maxHeartbeats 2000000 in
theorem rmeet_c {w : World} {n r q m : Int} {b : Bool} (hm : meetE n r q = m) (hb : meetB n r q = b) :
    Calls Tryd.prog 18 #[.int .i64 n, .int .i64 r, .int .i64 q] w fun e w' => e = .returned (.tuple #[.bool b, eV m]) ∧ Below w.heap.size w w' := by
  cases h1 : inB n 1 6
  · have HE : Hid (m = 1) := by
      show m = 1
      rw [← hm, meetE, if_neg (fun h => inB_no h1 h.1)]
    have HBf : Hid (b = false) := by
      show b = false
      rw [← hb, meetB, hm, HE.out]
      rfl
    rw [HE.out, HBf.out]
    have H1 : Hid (inB n 1 6 = false) := h1
    clear h1 hm hb
    go_enter Tryd.func18, Tryd.ntmps18
    go_wp2_with fail
    refine (inR_b H1.out _).mono ?_
    rintro e w' ⟨rfl, rfl⟩
    go_wp2_with fail
    go_ret2
    exact ⟨rfl, by go_grown⟩
  · cases h2 : inB r 0 n
    · have HE : Hid (m = 1) := by
        show m = 1
        rw [← hm, meetE, if_neg (fun h => inB_no h2 h.2.1)]
      have HBf : Hid (b = false) := by
        show b = false
        rw [← hb, meetB, hm, HE.out]
        rfl
      rw [HE.out, HBf.out]
      have H1 : Hid (inB n 1 6 = true) := h1
      have H2 : Hid (inB r 0 n = false) := h2
      clear h1 h2 hm hb
      go_enter Tryd.func18, Tryd.ntmps18
      go_wp2_with fail
      refine (inR_b H1.out _).mono ?_
      rintro e w' ⟨rfl, rfl⟩
      go_wp2_with fail
      refine (inR_b H2.out _).mono ?_
      rintro e w'' ⟨rfl, rfl⟩
      go_wp2_with fail
      go_ret2
      exact ⟨rfl, by go_grown⟩
    · cases h3 : inB q 0 n
      · have HE : Hid (m = 1) := by
          show m = 1
          rw [← hm, meetE, if_neg (fun h => inB_no h3 h.2.2)]
        have HBf : Hid (b = false) := by
          show b = false
          rw [← hb, meetB, hm, HE.out]
          rfl
        rw [HE.out, HBf.out]
        have H1 : Hid (inB n 1 6 = true) := h1
        have H2 : Hid (inB r 0 n = true) := h2
        have H3 : Hid (inB q 0 n = false) := h3
        clear h1 h2 h3 hm hb
        go_enter Tryd.func18, Tryd.ntmps18
        go_wp2_with fail
        refine (inR_b H1.out _).mono ?_
        rintro e w' ⟨rfl, rfl⟩
        go_wp2_with fail
        refine (inR_b H2.out _).mono ?_
        rintro e w'' ⟨rfl, rfl⟩
        go_wp2_with fail
        refine (inR_b H3.out _).mono ?_
        rintro e w'' ⟨rfl, rfl⟩
        go_wp2_with fail
        go_ret2
        exact ⟨rfl, by go_grown⟩
      · obtain ⟨n1, n2⟩ := inB_yes h1
        obtain ⟨r1, r2⟩ := inB_yes h2
        obtain ⟨q1, q2⟩ := inB_yes h3
        have HE : Hid (m = 0) := by
          show m = 0
          rw [← hm, meetE, if_pos ⟨⟨n1, n2⟩, ⟨r1, r2⟩, q1, q2⟩]
        obtain ⟨c, hc⟩ : ∃ c, decide (n < r + q) = c := ⟨_, rfl⟩
        have HBf : Hid (b = c) := by
          show b = c
          rw [← hb, meetB, hm, HE.out, hc]
          simp
        rw [HE.out, HBf.out]
        have H1 : Hid (inB n 1 6 = true) := h1
        have H2 : Hid (inB r 0 n = true) := h2
        have H3 : Hid (inB q 0 n = true) := h3
        clear h1 h2 h3 hm hb
        go_enter Tryd.func18, Tryd.ntmps18
        go_wp2_with fail
        refine (inR_b H1.out _).mono ?_
        rintro e w' ⟨rfl, rfl⟩
        go_wp2_with fail
        refine (inR_b H2.out _).mono ?_
        rintro e w'' ⟨rfl, rfl⟩
        go_wp2_with fail
        refine (inR_b H3.out _).mono ?_
        rintro e w'' ⟨rfl, rfl⟩
        go_wp2_with fail
        go_ret2
        exact ⟨rfl, by go_grown⟩
set_option maxHeartbeats 2000000 in
theorem of_c {v : Value} {l : List En} {key x0 x1 x2 : Int} {x3 : Bool} {x4 : ByteArray} {n : Int} {b : Bool} {w : World} (hr : RowIs w v l) (h : cacheGet l key = (⟨x0, x1, x2, x3, x4⟩, n)) (hb : (n == 0) = b) :
    Calls Tryd.prog 38 #[v, .int .i64 key] w fun e w' => e = .returned (.tuple #[.agg #[.int .i64 x0, .int .i64 x1, .int .i64 x2, .bool x3, .string x4], .bool b]) ∧ Below w.heap.size w w' := by
  have HR : Hid (RowIs w v l) := hr
  have HG : Hid (cacheGet l key = (⟨x0, x1, x2, x3, x4⟩, n)) := h
  have HB0 : Hid (Below w.heap.size w (w.alloc (.cells #[.int .i64 0, .int .i64 0, .int .i64 0, .bool false, .string ⟨#[]⟩] 26))) := by show Below _ _ _; go_grown
  clear hr h
  by_cases hn : n = 0
  · subst hn
    have HBt : Hid (b = true) := by rw [← hb]; rfl
    rw [HBt.out]
    clear hb
    go_enter Tryd.func38, Tryd.ntmps38
    go_wp2_with fail
    refine (getP_o HG.out _ _ (HR.out.below HB0.out)).mono ?_
    rintro e w1 ⟨rfl, hb⟩
    rw [eV_zeroP]
    have B1 : Hid (Below w.heap.size w w1) := HB0.out.trans (hb.mono (by simp))
    have E1 : Hid (BoxAt w1 w.heap.size 0 0 0 false ⟨#[]⟩) := (box_new w 0 0 0 false ⟨#[]⟩ w.heap.size rfl).below hb (by simp)
    have p1 : ¬ w.heap.size = w1.heap.size := by have := hb.size; simp at this; omega
    have p2 : ¬ w1.heap.size = w.heap.size := fun h => p1 h.symm
    clear hb
    go_upto_region 2 with fail
    obtain ⟨w2, HW2⟩ : ∃ w2, w2 = w1.alloc (.cells #[.int .i64 x0, .int .i64 x1, .int .i64 x2, .bool x3, .string x4] 26) := ⟨_, rfl⟩
    rw [← HW2]
    have B2 : Hid (Below w.heap.size w w2) := by rw [HW2]; exact B1.out.alloc B1.out.size _
    have E2 : Hid (BoxAt w2 w.heap.size 0 0 0 false ⟨#[]⟩) := by rw [HW2]; exact E1.out.alloc _
    have F2 : Hid (BoxAt w2 w1.heap.size x0 x1 x2 x3 x4) := by rw [HW2]; exact box_new w1 x0 x1 x2 x3 x4 _ rfl
    clear HW2
    obtain ⟨e0, e1, e2, e3, e4, ef⟩ := E2.out
    obtain ⟨f0, f1, f2, f3, f4, ff⟩ := F2.out
    go_region
    go_wp2_with fail
    refine bodyPost_ret (v := .tuple #[.agg #[.int .i64 x0, .int .i64 x1, .int .i64 x2, .bool x3, .string x4], .bool true]) (by simp [results, Tryd.results38, go_sem, e0, e1, e2, e3, e4]) rfl ?_
    refine ⟨rfl, ?_⟩
    have hle := B2.out.size
    have hb := B2.out
    go_grown
  · have HBt : Hid (b = false) := by rw [← hb]; show (n == 0) = false; simpa using hn
    rw [HBt.out]
    clear hb
    go_enter Tryd.func38, Tryd.ntmps38
    go_wp2_with fail
    refine (getP_o HG.out _ _ (HR.out.below HB0.out)).mono ?_
    rintro e w1 ⟨rfl, hb⟩
    rw [eV_errP hn]
    have B1 : Hid (Below w.heap.size w w1) := HB0.out.trans (hb.mono (by simp))
    have E1 : Hid (BoxAt w1 w.heap.size 0 0 0 false ⟨#[]⟩) := (box_new w 0 0 0 false ⟨#[]⟩ w.heap.size rfl).below hb (by simp)
    have p1 : ¬ w.heap.size = w1.heap.size := by have := hb.size; simp at this; omega
    have p2 : ¬ w1.heap.size = w.heap.size := fun h => p1 h.symm
    clear hb
    go_upto_region 2 with fail
    obtain ⟨w2, HW2⟩ : ∃ w2, w2 = w1.alloc (.cells #[.int .i64 x0, .int .i64 x1, .int .i64 x2, .bool x3, .string x4] 26) := ⟨_, rfl⟩
    rw [← HW2]
    have B2 : Hid (Below w.heap.size w w2) := by rw [HW2]; exact B1.out.alloc B1.out.size _
    have E2 : Hid (BoxAt w2 w.heap.size 0 0 0 false ⟨#[]⟩) := by rw [HW2]; exact E1.out.alloc _
    have F2 : Hid (BoxAt w2 w1.heap.size x0 x1 x2 x3 x4) := by rw [HW2]; exact box_new w1 x0 x1 x2 x3 x4 _ rfl
    clear HW2
    obtain ⟨e0, e1, e2, e3, e4, ef⟩ := E2.out
    obtain ⟨f0, f1, f2, f3, f4, ff⟩ := F2.out
    go_region
    go_wp2_with fail
    refine bodyPost_ret (v := .tuple #[.agg #[.int .i64 x0, .int .i64 x1, .int .i64 x2, .bool x3, .string x4], .bool false]) (by simp [results, Tryd.results38, go_sem, e0, e1, e2, e3, e4]) rfl ?_
    refine ⟨rfl, ?_⟩
    have hle := B2.out.size
    have hb := B2.out
    go_grown
theorem of_none {v : Value} {l : List En} {key : Int} {w : World} (hr : RowIs w v l) (hg : badL l = 0) (hk : isKeyB key = true) (h : getE l key = none) :
    Calls Tryd.prog 38 #[v, .int .i64 key] w fun e w' => e = .returned (.tuple #[.agg #[.int .i64 0, .int .i64 0, .int .i64 0, .bool false, .string ⟨#[]⟩], .bool false]) ∧ Below w.heap.size w w' :=
  of_c hr (n := 5) (by rw [cacheGet, if_neg (by simpa using hg), hk, if_neg (by simp), h]; rfl) rfl
theorem of_some {v : Value} {l : List En} {key x0 x1 x2 : Int} {x3 : Bool} {x4 : ByteArray} {w : World} (hr : RowIs w v l) (hg : badL l = 0) (hk : isKeyB key = true) (h : getE l key = some ⟨x0, x1, x2, x3, x4⟩) :
    Calls Tryd.prog 38 #[v, .int .i64 key] w fun e w' => e = .returned (.tuple #[.agg #[.int .i64 x0, .int .i64 x1, .int .i64 x2, .bool x3, .string x4], .bool true]) ∧ Below w.heap.size w w' :=
  of_c hr (n := 0) (by rw [cacheGet, if_neg (by simpa using hg), hk, if_neg (by simp), h]) rfl
end Go.Proofs.YtliaidgedjjobaaDoor
