/-
  Package repair by its contracts: within, Meet, of.
  Package repair by its contracts: Read.
  Package repair by its contracts: Lacks.
  Caches of which some have one and the same entry: what is read of them, which lack it, up to where all know it.
-/
import Derived.Test.YtpcnfoaoajfhlaaGreatDoorQoah
import Derived.Test.YtpcnfoaoajfhlaaGreatDoorQoai
import Derived.BigRegion
import Derived.BigQuiet
import Derived.Test.YtpcnfoaoajfhlaaGreatDoorQoaf
import Derived.Test.YtpcnfoaoajfhlaaGreatDoorQoag
namespace Go.Proofs.YtpcnfoaoajfhlaaGreatDoor
set_option linter.unusedVariables false
set_option linter.unusedSimpArgs false
set_option linter.unusedVariables false
set_option linter.unusedSimpArgs false
open Go.RowKit

def inB (n lo hi : Int) : Bool := decide (lo ≤ n) && decide (n ≤ hi)
set_option maxHeartbeats 1000000 in
theorem inR_b {n lo hi : Int} {b : Bool} (h : inB n lo hi = b) (w : World) : Calls Tryz.prog 74 #[.int .i64 n, .int .i64 lo, .int .i64 hi] w fun e w' => e = .returned (.bool b) ∧ w' = w := by
  have HB : Hid (inB n lo hi = b) := h
  clear h
  by_cases h1 : lo ≤ n
  · have h1b : decide (lo ≤ n) = true := by simpa using h1
    obtain ⟨c, h2b⟩ : ∃ c, decide (n ≤ hi) = c := ⟨_, rfl⟩
    have HBf : Hid (b = c) := by show b = c; rw [← HB.out, ← h2b, inB, h1b, Bool.true_and]
    go_enter Tryz.func74, Tryz.ntmps74
    go_wp2_with fail
    go_ret
    exact ⟨by rw [HBf.out]; rfl, rfl⟩
  · have h1b : decide (lo ≤ n) = false := by simpa using h1
    have HBf : Hid (b = false) := by show b = false; rw [← HB.out, inB, h1b, Bool.false_and]
    go_enter Tryz.func74, Tryz.ntmps74
    go_wp2_with fail
    go_ret
    exact ⟨by rw [HBf.out]; rfl, rfl⟩
theorem inB_yes {n lo hi : Int} (h : inB n lo hi = true) : lo ≤ n ∧ n ≤ hi := by simpa [inB] using h
theorem inB_no {n lo hi : Int} (h : inB n lo hi = false) : ¬ (lo ≤ n ∧ n ≤ hi) := by simpa [inB] using h
set_option maxHeartbeats 2000000 in
theorem rmeet_c {w : World} {n r q m : Int} {b : Bool} (hm : meetE n r q = m) (hb : meetB n r q = b) :
    Calls Tryz.prog 31 #[.int .i64 n, .int .i64 r, .int .i64 q] w fun e w' => e = .returned (.tuple #[.bool b, eV m]) ∧ Below w.heap.size w w' := by
  cases h1 : inB n 1 6
  · have HE : Hid (m = 1) := by
      show m = 1
      rw [← hm, meetE, if_neg (fun h => inB_no h1 h.1)]
    have HBf : Hid (b = false) := by
      show b = false
      rw [← hb, meetB, hm, HE.out]
      rfl
    rw [HE.out, HBf.out]
    have H1 : Hid (inB n 1 6 = false) := h1
    clear h1 hm hb
    go_enter Tryz.func31, Tryz.ntmps31
    go_wp2_with fail
    refine (inR_b H1.out _).mono ?_
    rintro e w' ⟨rfl, rfl⟩
    go_wp2_with fail
    go_ret2
    exact ⟨rfl, by go_grown⟩
  · cases h2 : inB r 0 n
    · have HE : Hid (m = 1) := by
        show m = 1
        rw [← hm, meetE, if_neg (fun h => inB_no h2 h.2.1)]
      have HBf : Hid (b = false) := by
        show b = false
        rw [← hb, meetB, hm, HE.out]
        rfl
      rw [HE.out, HBf.out]
      have H1 : Hid (inB n 1 6 = true) := h1
      have H2 : Hid (inB r 0 n = false) := h2
      clear h1 h2 hm hb
      go_enter Tryz.func31, Tryz.ntmps31
      go_wp2_with fail
      refine (inR_b H1.out _).mono ?_
      rintro e w' ⟨rfl, rfl⟩
      go_wp2_with fail
      refine (inR_b H2.out _).mono ?_
      rintro e w'' ⟨rfl, rfl⟩
      go_wp2_with fail
      go_ret2
      exact ⟨rfl, by go_grown⟩
    · cases h3 : inB q 0 n
      · have HE : Hid (m = 1) := by
          show m = 1
          rw [← hm, meetE, if_neg (fun h => inB_no h3 h.2.2)]
        have HBf : Hid (b = false) := by
          show b = false
          rw [← hb, meetB, hm, HE.out]
          rfl
        rw [HE.out, HBf.out]
        have H1 : Hid (inB n 1 6 = true) := h1
        have H2 : Hid (inB r 0 n = true) := h2
        have H3 : Hid (inB q 0 n = false) := h3
        clear h1 h2 h3 hm hb
        go_enter Tryz.func31, Tryz.ntmps31
        go_wp2_with fail
        refine (inR_b H1.out _).mono ?_
        rintro e w' ⟨rfl, rfl⟩
        go_wp2_with fail
        refine (inR_b H2.out _).mono ?_
        rintro e w'' ⟨rfl, rfl⟩
        go_wp2_with fail
        refine (inR_b H3.out _).mono ?_
        rintro e w'' ⟨rfl, rfl⟩
        go_wp2_with fail
        go_ret2
        exact ⟨rfl, by go_grown⟩
      · obtain ⟨n1, n2⟩ := inB_yes h1
        obtain ⟨r1, r2⟩ := inB_yes h2
        obtain ⟨q1, q2⟩ := inB_yes h3
        have HE : Hid (m = 0) := by
          show m = 0
          rw [← hm, meetE, if_pos ⟨⟨n1, n2⟩, ⟨r1, r2⟩, q1, q2⟩]
        obtain ⟨c, hc⟩ : ∃ c, decide (n < r + q) = c := ⟨_, rfl⟩
        have HBf : Hid (b = c) := by
          show b = c
          rw [← hb, meetB, hm, HE.out, hc]
          simp
        rw [HE.out, HBf.out]
        have H1 : Hid (inB n 1 6 = true) := h1
        have H2 : Hid (inB r 0 n = true) := h2
        have H3 : Hid (inB q 0 n = true) := h3
        clear h1 h2 h3 hm hb
        go_enter Tryz.func31, Tryz.ntmps31
        go_wp2_with fail
        refine (inR_b H1.out _).mono ?_
        rintro e w' ⟨rfl, rfl⟩
        go_wp2_with fail
        refine (inR_b H2.out _).mono ?_
        rintro e w'' ⟨rfl, rfl⟩
        go_wp2_with fail
        refine (inR_b H3.out _).mono ?_
        rintro e w'' ⟨rfl, rfl⟩
        go_wp2_with fail
        go_ret2
        exact ⟨rfl, by go_grown⟩
set_option maxHeartbeats 2000000 in
theorem of_c {v : Value} {l : List En} {key x0 x1 x2 : Int} {x3 : Bool} {x4 : ByteArray} {n : Int} {b : Bool} {w : World} (hr : RowIs w v l) (h : cacheGet l key = (⟨x0, x1, x2, x3, x4⟩, n)) (hb : (n == 0) = b) :
    Calls Tryz.prog 72 #[v, .int .i64 key] w fun e w' => e = .returned (.tuple #[.agg #[.int .i64 x0, .int .i64 x1, .int .i64 x2, .bool x3, .string x4], .bool b]) ∧ Below w.heap.size w w' := by
  have HR : Hid (RowIs w v l) := hr
  have HG : Hid (cacheGet l key = (⟨x0, x1, x2, x3, x4⟩, n)) := h
  have HB0 : Hid (Below w.heap.size w (w.alloc (.cells #[.int .i64 0, .int .i64 0, .int .i64 0, .bool false, .string ⟨#[]⟩] 46))) := by show Below _ _ _; go_grown
  clear hr h
  by_cases hn : n = 0
  · subst hn
    have HBt : Hid (b = true) := by rw [← hb]; rfl
    rw [HBt.out]
    clear hb
    go_enter Tryz.func72, Tryz.ntmps72
    go_wp2_with fail
    refine (getP_o HG.out _ _ (HR.out.below HB0.out)).mono ?_
    rintro e w1 ⟨rfl, hb⟩
    rw [eV_zeroP]
    have B1 : Hid (Below w.heap.size w w1) := HB0.out.trans (hb.mono (by simp))
    have E1 : Hid (BoxAt w1 w.heap.size 0 0 0 false ⟨#[]⟩) := (box_new w 0 0 0 false ⟨#[]⟩ w.heap.size rfl).below hb (by simp)
    have p1 : ¬ w.heap.size = w1.heap.size := by have := hb.size; simp at this; omega
    have p2 : ¬ w1.heap.size = w.heap.size := fun h => p1 h.symm
    clear hb
    go_upto_region 2 with fail
    obtain ⟨w2, HW2⟩ : ∃ w2, w2 = w1.alloc (.cells #[.int .i64 x0, .int .i64 x1, .int .i64 x2, .bool x3, .string x4] 46) := ⟨_, rfl⟩
    rw [← HW2]
    have B2 : Hid (Below w.heap.size w w2) := by rw [HW2]; exact B1.out.alloc B1.out.size _
    have E2 : Hid (BoxAt w2 w.heap.size 0 0 0 false ⟨#[]⟩) := by rw [HW2]; exact E1.out.alloc _
    have F2 : Hid (BoxAt w2 w1.heap.size x0 x1 x2 x3 x4) := by rw [HW2]; exact box_new w1 x0 x1 x2 x3 x4 _ rfl
    clear HW2
    obtain ⟨e0, e1, e2, e3, e4, ef⟩ := E2.out
    obtain ⟨f0, f1, f2, f3, f4, ff⟩ := F2.out
    go_region
    go_wp2_with fail
    refine bodyPost_ret (v := .tuple #[.agg #[.int .i64 x0, .int .i64 x1, .int .i64 x2, .bool x3, .string x4], .bool true]) (by simp [results, Tryz.results72, go_sem, e0, e1, e2, e3, e4]) rfl ?_
    refine ⟨rfl, ?_⟩
    have hle := B2.out.size
    have hb := B2.out
    go_grown
  · have HBt : Hid (b = false) := by rw [← hb]; show (n == 0) = false; simpa using hn
    rw [HBt.out]
    clear hb
    go_enter Tryz.func72, Tryz.ntmps72
    go_wp2_with fail
    refine (getP_o HG.out _ _ (HR.out.below HB0.out)).mono ?_
    rintro e w1 ⟨rfl, hb⟩
    rw [eV_errP hn]
    have B1 : Hid (Below w.heap.size w w1) := HB0.out.trans (hb.mono (by simp))
    have E1 : Hid (BoxAt w1 w.heap.size 0 0 0 false ⟨#[]⟩) := (box_new w 0 0 0 false ⟨#[]⟩ w.heap.size rfl).below hb (by simp)
    have p1 : ¬ w.heap.size = w1.heap.size := by have := hb.size; simp at this; omega
    have p2 : ¬ w1.heap.size = w.heap.size := fun h => p1 h.symm
    clear hb
    go_upto_region 2 with fail
    obtain ⟨w2, HW2⟩ : ∃ w2, w2 = w1.alloc (.cells #[.int .i64 x0, .int .i64 x1, .int .i64 x2, .bool x3, .string x4] 46) := ⟨_, rfl⟩
    rw [← HW2]
    have B2 : Hid (Below w.heap.size w w2) := by rw [HW2]; exact B1.out.alloc B1.out.size _
    have E2 : Hid (BoxAt w2 w.heap.size 0 0 0 false ⟨#[]⟩) := by rw [HW2]; exact E1.out.alloc _
    have F2 : Hid (BoxAt w2 w1.heap.size x0 x1 x2 x3 x4) := by rw [HW2]; exact box_new w1 x0 x1 x2 x3 x4 _ rfl
    clear HW2
    obtain ⟨e0, e1, e2, e3, e4, ef⟩ := E2.out
    obtain ⟨f0, f1, f2, f3, f4, ff⟩ := F2.out
    go_region
    go_wp2_with fail
    refine bodyPost_ret (v := .tuple #[.agg #[.int .i64 x0, .int .i64 x1, .int .i64 x2, .bool x3, .string x4], .bool false]) (by simp [results, Tryz.results72, go_sem, e0, e1, e2, e3, e4]) rfl ?_
    refine ⟨rfl, ?_⟩
    have hle := B2.out.size
    have hb := B2.out
    go_grown
theorem of_none {v : Value} {l : List En} {key : Int} {w : World} (hr : RowIs w v l) (hg : badL l = 0) (hk : isKeyB key = true) (h : getE l key = none) :
    Calls Tryz.prog 72 #[v, .int .i64 key] w fun e w' => e = .returned (.tuple #[.agg #[.int .i64 0, .int .i64 0, .int .i64 0, .bool false, .string ⟨#[]⟩], .bool false]) ∧ Below w.heap.size w w' :=
  of_c hr (n := 5) (by rw [cacheGet, if_neg (by simpa using hg), hk, if_neg (by simp), h]; rfl) rfl
theorem of_some {v : Value} {l : List En} {key x0 x1 x2 : Int} {x3 : Bool} {x4 : ByteArray} {w : World} (hr : RowIs w v l) (hg : badL l = 0) (hk : isKeyB key = true) (h : getE l key = some ⟨x0, x1, x2, x3, x4⟩) :
    Calls Tryz.prog 72 #[v, .int .i64 key] w fun e w' => e = .returned (.tuple #[.agg #[.int .i64 x0, .int .i64 x1, .int .i64 x2, .bool x3, .string x4], .bool true]) ∧ Below w.heap.size w w' :=
  of_c hr (n := 0) (by rw [cacheGet, if_neg (by simpa using hg), hk, if_neg (by simp), h]) rfl
end Go.Proofs.YtpcnfoaoajfhlaaGreatDoor

namespace Go.Proofs.YtpcnfoaoajfhlaaGreatDoor
set_option linter.unusedVariables false
set_option linter.unusedSimpArgs false
open Go.RowKit

theorem addP_o {l R1 : List En} {k vv a : Int} {g : Bool} {t : ByteArray} {R2 : Bool} {R3 : Int} (h : cacheAdd l ⟨k, vv, a, g, t⟩ = (R1, R2, R3)) (v : Value) (w : World) (hr : RowIs w v l) :
    Calls Tryz.prog 28 #[v, .agg #[.int .i64 k, .int .i64 vv, .int .i64 a, .bool g, .string t]] w fun e w' => ∃ v', e = .returned (.tuple #[v', .bool R2, eV R3]) ∧ RowIs w' v' R1 ∧ Below w.heap.size w w' := by
  refine (add_c v l k vv a g t w hr).mono ?_
  rw [h]
  rintro e w' ⟨v', he, ho, hb⟩
  exact ⟨v', he, RowIs.own ho, hb⟩
theorem read_mark (ls : List (List En)) (key : Int) : (∃ m n, tombMark ls key = (m, n) ∧ n ≠ 0 ∧ readR ls key = (zeroEn, n)) ∨ (∃ m, tombMark ls key = (m, 0) ∧ GoodLs ls ∧ isKeyB key = true ∧ readR ls key = readQ (joinFrom key none ls)) := by
  by_cases hb : badLs ls = 0
  · cases hk : isKeyB key with
    | false => exact .inl ⟨0, 1, by rw [tombMark, if_neg (by simpa using hb), if_pos hk], by simp, by rw [readR, if_neg (by simpa using hb), if_pos hk]⟩
    | true => exact .inr ⟨_, by rw [tombMark, if_neg (by simpa using hb), if_neg (by rw [hk]; simp)], badLs_good hb, rfl, by rw [readR, if_neg (by simpa using hb), if_neg (by rw [hk]; simp)]⟩
  · exact .inl ⟨0, badLs ls, by rw [tombMark, if_pos hb], hb, by rw [readR, if_pos hb]⟩
theorem bad_single {y : En} (h : y.bad = 0) : badL [y] = 0 := by
  obtain ⟨h1, h2⟩ := bad_key h
  exact (GoodL.of (l := [y]) (List.pairwise_singleton _ _) (fun e he => by rw [List.mem_singleton.1 he]; exact h)).bad
/-- a cache of one key alone takes what comes as Join does -/
theorem add_step {key : Int} {o : Option En} {x : En} {ls : List (List En)} {j : Nat} (h : j < ls.length) (hg : getE ls[j] key = some x) (hx : x.bad = 0 ∧ x.k = key) (ho : ∀ y, o = some y → y.bad = 0 ∧ y.k = key) :
    (∃ b z, cacheAdd o.toList x = ([z], b, 0) ∧ (z.bad = 0 ∧ z.k = key) ∧ joinFrom key o (ls.drop j) = joinFrom key (some z) (ls.drop (j + 1))) ∨
      (∃ l b n, cacheAdd o.toList x = (l, b, n) ∧ n ≠ 0 ∧ joinFrom key o (ls.drop j) = (none, n)) := by
  obtain ⟨hxb, hxk⟩ := hx
  cases o with
  | none =>
    refine .inl ⟨true, x, ?_, ⟨hxb, hxk⟩, joinFrom_first h hg⟩
    show cacheAdd [] x = _
    rw [cacheAdd, if_neg (by simp [badL, badRow]), if_neg (by simpa using hxb)]
    rfl
  | some y =>
    obtain ⟨hyb, hyk⟩ := ho y rfl
    have hadd : cacheAdd [y] x = putE [y] x := by rw [cacheAdd, if_neg (by simpa using bad_single hyb), if_neg (by simpa using hxb)]
    have hget : getE [y] x.k = some y := by simp [getE, hyk, hxk]
    obtain ⟨z, n, hj⟩ : ∃ z n, joinE y x = (z, n) := ⟨_, _, rfl⟩
    by_cases hn : n = 0
    · subst hn
      refine .inl ⟨(putE [y] x).2.1, z, ?_, ?_, joinFrom_next h hg hj⟩
      · show cacheAdd [y] x = _
        rw [hadd]
        have hp : placeE [y] x.k = 0 := by simp [placeE, hyk, hxk]
        simp [putE, hget, hj, hp]
      · obtain ⟨_, _, hK⟩ := joinE_iff.1 hj
        rcases hK.one with rfl | rfl
        · exact ⟨hyb, hyk⟩
        · exact ⟨hxb, hxk⟩
    · refine .inr ⟨(putE [y] x).1, (putE [y] x).2.1, n, ?_, hn, joinFrom_bad h hg hj hn⟩
      show cacheAdd [y] x = _
      rw [hadd]
      simp [putE, hget, hj, hn]
theorem ret_eq {x0 x1 x2 y0 y1 y2 m n : Int} {x3 y3 : Bool} {x4 y4 : ByteArray} (h : ((⟨y0, y1, y2, y3, y4⟩ : En), n) = (⟨x0, x1, x2, x3, x4⟩, m)) :
    Ending.returned (.tuple #[.agg #[.int .i64 y0, .int .i64 y1, .int .i64 y2, .bool y3, .string y4], eV n]) = .returned (.tuple #[.agg #[.int .i64 x0, .int .i64 x1, .int .i64 x2, .bool x3, .string x4], eV m]) := by
  cases h
  rfl
theorem get_known {key : Int} {o : Option En} (hk : isKeyB key = true) (ho : ∀ y, o = some y → y.bad = 0 ∧ y.k = key) : cacheGet o.toList key = readQ (o, 0) := by
  cases o with
  | none => rw [cacheGet, if_neg (by simp [badL, badRow]), hk, if_neg (by simp)]; rfl
  | some y =>
    obtain ⟨hyb, hyk⟩ := ho y rfl
    have hget : getE [y] key = some y := by simp [getE, hyk]
    show cacheGet [y] key = _
    rw [cacheGet, if_neg (by simpa using bad_single hyb), hk, if_neg (by simp), hget]
    rfl
set_option maxRecDepth 100000 in
set_option maxHeartbeats 8000000 in
theorem rread_c {w : World} {v : Value} {ls : List (List En)} {key x0 x1 x2 : Int} {x3 : Bool} {x4 : ByteArray} {m : Int} (hr : RowsIs w v ls) (h : readR ls key = (⟨x0, x1, x2, x3, x4⟩, m)) :
    Calls Tryz.prog 29 #[v, .int .i64 key] w fun e w' => e = .returned (.tuple #[.agg #[.int .i64 x0, .int .i64 x1, .int .i64 x2, .bool x3, .string x4], eV m]) ∧ Below w.heap.size w w' := by
  have HR : Hid (RowsIs w v ls) := hr
  obtain ⟨w0, HW0⟩ : ∃ w0, w0 = w.alloc (.cells #[.int .i64 0, .int .i64 0, .int .i64 0, .bool false, .string ⟨#[]⟩] 46) := ⟨_, rfl⟩
  have HB0 : Hid (Below w.heap.size w w0) := by rw [HW0]; exact (Below.refl _ w).alloc (Nat.le_refl _) _
  have E0 : Hid (BoxAt w0 w.heap.size 0 0 0 false ⟨#[]⟩) := by rw [HW0]; exact box_new w 0 0 0 false ⟨#[]⟩ _ rfl
  have hlt0 : w.heap.size < w0.heap.size := by rw [HW0]; simp
  rcases read_mark ls key with ⟨m', n, hm, hn, hz⟩ | ⟨m', hm, hgl, hk, hz⟩
  · have HM : Hid (tombMark ls key = (m', n)) := hm
    have HV : Hid (((⟨0, 0, 0, false, ⟨#[]⟩⟩ : En), n) = (⟨x0, x1, x2, x3, x4⟩, m)) := hz.symm.trans h
    clear hm hz h hr
    go_enter Tryz.func29, Tryz.ntmps29
    go_wp2_with fail
    rw [← HW0]
    refine (tmark_err HM.out hn _ _ (HR.out.below HB0.out)).mono ?_
    rintro e w1 ⟨rfl, hb⟩
    have B1 : Hid (Below w.heap.size w w1) := HB0.out.trans (hb.mono HB0.out.size)
    obtain ⟨e0, e1, e2, e3, e4, ef⟩ := E0.out.below hb hlt0
    clear hb HW0
    go_wp2_with fail
    refine bodyPost_ret (v := .tuple #[.agg #[.int .i64 0, .int .i64 0, .int .i64 0, .bool false, .string ⟨#[]⟩], .iface 85 (.int .i64 n)]) (by simp [results, Tryz.results29, go_sem, e0, e1, e2, e3, e4]) rfl ?_
    refine ⟨by rw [← eV_errP hn]; exact ret_eq HV.out, ?_⟩
    have hb := B1.out
    go_grown
  · have HM : Hid (tombMark ls key = (m', 0)) := hm
    have HJ0 : Hid (readQ (joinFrom key none (ls.drop 0)) = (⟨x0, x1, x2, x3, x4⟩, m)) := hz.symm.trans h
    have HGL : Hid (GoodLs ls) := hgl
    have HK : Hid (isKeyB key = true) := hk
    clear hm hz h hgl hk
    obtain ⟨hlen, p, cap, rfl, hrow⟩ := hr
    have HRow : Hid (ls ≠ [] → ∃ b o, p = some ⟨b, o, none⟩ ∧ b < w.heap.size ∧ ∀ j (h : j < ls.length), ∃ u, w.cell? ⟨b, o + j, none⟩ = some u ∧ RowIs w u ls[j]) := hrow
    clear hrow
    obtain ⟨n, HN⟩ : ∃ n, Hid (ls.length = n) := ⟨_, rfl⟩
    rw [HN.out] at hlen HR ⊢
    have hn63 : n ≤ 9223372036854775807 := hlen
    go_enter Tryz.func29, Tryz.ntmps29
    go_wp2_with fail
    rw [← HW0]
    refine (tmark_ok HM.out _ _ (HR.out.below HB0.out)).mono ?_
    rintro e w1 ⟨rfl, hb⟩
    have B1 : Hid (Below w.heap.size w w1) := HB0.out.trans (hb.mono HB0.out.size)
    have E1 : Hid (BoxAt w1 w.heap.size 0 0 0 false ⟨#[]⟩) := E0.out.below hb hlt0
    clear hb HW0 HM HB0 E0
    go_wp2_with fail
    go_loopw [8, 26] (fun s8 s26 wr => ∃ (j : Nat) (o : Option En) (v8 : Value), s8 = v8 ∧ j ≤ n ∧ s26 = .int .i64 j ∧ Hid (RowIs wr v8 o.toList) ∧ Hid (∀ y, o = some y → y.bad = 0 ∧ y.k = key) ∧ Hid (readQ (joinFrom key o (ls.drop j)) = (⟨x0, x1, x2, x3, x4⟩, m)) ∧ Hid (Below w.heap.size w wr) ∧ Hid (BoxAt wr w.heap.size 0 0 0 false ⟨#[]⟩)) (fun _ i _ => n - (intOf i).toNat)
    case atStart => exact ⟨0, none, .slice none 0 0, rfl, Nat.zero_le _, rfl, RowIs.nil _, (fun y hy => by cases hy), HJ0, B1, E1⟩
    case round =>
      obtain ⟨j, o, v8, hs8, hj, rfl, HO, HY, HJ, HB, HE⟩ := hrel
      have hs8' := hs8.symm
      clear hs8
      subst hs8'
      clear B1 E1
      have hws := HB.out.size
      have hbx := HE.out.lt
      by_cases hlt : j < n
      · have hjl : j < ls.length := by rw [HN.out]; exact hlt
        obtain ⟨b, oo, rfl, hbw, hat⟩ := HRow.out (fun h => by simp [h] at hjl)
        obtain ⟨u, hu, hru⟩ := hat j hjl
        have c0 : wr.cell? ⟨b, oo + j, none⟩ = some u := (World.cell?_of_block (a := ⟨b, oo + j, none⟩) (HB.out.block b hbw)).trans hu
        have HU : Hid (RowIs wr u ls[j]) := hru.below HB.out
        have HGj : Hid (badL ls[j] = 0) := HGL.out.all _ (List.getElem_mem hjl)
        clear hat hu hru
        have hlti : (j : Int) < (n : Int) := by omega
        cases hg : getE ls[j] key with
        | none =>
          have HJ1 : Hid (readQ (joinFrom key o (ls.drop (j + 1))) = (⟨x0, x1, x2, x3, x4⟩, m)) := by
            show _ = _
            rw [← joinFrom_none hjl hg]
            exact HJ.out
          have HC : Hid _ := of_none HU.out HGj.out HK.out hg
          clear hg
          go_wp2_with fail
          refine Calls.mono HC.out ?_
          rintro e w2 ⟨rfl, hb⟩
          have B2 : Hid (Below w.heap.size w w2) := HB.out.trans (hb.mono HB.out.size)
          have O2 : Hid (RowIs w2 v8 o.toList) := HO.out.below hb
          have E2 : Hid (BoxAt w2 w.heap.size 0 0 0 false ⟨#[]⟩) := HE.out.below hb hbx
          have B3 : Hid (Below w.heap.size w (w2.alloc (.cells #[.int .i64 0, .int .i64 0, .int .i64 0, .bool false, .string ⟨#[]⟩] 46))) := B2.out.alloc B2.out.size _
          have O3 : Hid (RowIs (w2.alloc (.cells #[.int .i64 0, .int .i64 0, .int .i64 0, .bool false, .string ⟨#[]⟩] 46)) v8 o.toList) := O2.out.below ((Below.refl _ _).alloc (Nat.le_refl _) _)
          have E3 : Hid (BoxAt (w2.alloc (.cells #[.int .i64 0, .int .i64 0, .int .i64 0, .bool false, .string ⟨#[]⟩] 46)) w.heap.size 0 0 0 false ⟨#[]⟩) := E2.out.alloc _
          clear hb c0
          go_wp2_with fail
          go_roundw
          case rel => exact ⟨j + 1, o, v8, rfl, by omega, by go_num, O3, HY, HJ1, B3, E3⟩
          case measure => simp [intOf]; omega
        | some x =>
          have hxx : x.bad = 0 ∧ x.k = key := ⟨(badL_good HGj.out).all x (List.mem_of_find?_eq_some hg), by simpa using List.find?_some hg⟩
          obtain ⟨y0, y1, y2, y3, y4⟩ := x
          have HC : Hid _ := of_some HU.out HGj.out HK.out hg
          rcases add_step hjl hg hxx HY.out with ⟨bb, z, ha, hzz, hjo⟩ | ⟨ll, bb, nn, ha, hnn, hjo⟩
          · have HA : Hid (cacheAdd o.toList ⟨y0, y1, y2, y3, y4⟩ = ((some z).toList, bb, 0)) := ha
            have HZ : Hid (∀ y, some z = some y → y.bad = 0 ∧ y.k = key) := fun y hy => by obtain rfl := Option.some.inj hy; exact hzz
            have HJ1 : Hid (readQ (joinFrom key (some z) (ls.drop (j + 1))) = (⟨x0, x1, x2, x3, x4⟩, m)) := by
              show _ = _
              rw [← hjo]
              exact HJ.out
            clear hg hxx ha hzz hjo
            go_wp2_with fail
            refine Calls.mono HC.out ?_
            rintro e w2 ⟨rfl, hb⟩
            have B2 : Hid (Below w.heap.size w w2) := HB.out.trans (hb.mono HB.out.size)
            have O2 : Hid (RowIs w2 v8 o.toList) := HO.out.below hb
            have E2 : Hid (BoxAt w2 w.heap.size 0 0 0 false ⟨#[]⟩) := HE.out.below hb hbx
            have B3 : Hid (Below w.heap.size w (w2.alloc (.cells #[.int .i64 y0, .int .i64 y1, .int .i64 y2, .bool y3, .string y4] 46))) := B2.out.alloc B2.out.size _
            have O3 : Hid (RowIs (w2.alloc (.cells #[.int .i64 y0, .int .i64 y1, .int .i64 y2, .bool y3, .string y4] 46)) v8 o.toList) := O2.out.below ((Below.refl _ _).alloc (Nat.le_refl _) _)
            have E3 : Hid (BoxAt (w2.alloc (.cells #[.int .i64 y0, .int .i64 y1, .int .i64 y2, .bool y3, .string y4] 46)) w.heap.size 0 0 0 false ⟨#[]⟩) := E2.out.alloc _
            clear hb c0
            go_wp2_with fail
            refine (addP_o HA.out _ _ O3.out).mono ?_
            rintro e w4 ⟨v', rfl, hrow, hb⟩
            have O4 : Hid (RowIs w4 v' (some z).toList) := hrow
            have B4 : Hid (Below w.heap.size w w4) := B3.out.trans (hb.mono B3.out.size)
            have E4 : Hid (BoxAt w4 w.heap.size 0 0 0 false ⟨#[]⟩) := E3.out.below hb E3.out.lt
            clear hb hrow
            rw [eV_zeroP]
            go_wp2_with fail
            go_roundw
            case rel => exact ⟨j + 1, some z, v', rfl, by omega, by go_num, O4, HZ, HJ1, B4, E4⟩
            case measure => simp [intOf]; omega
          · have HA : Hid (cacheAdd o.toList ⟨y0, y1, y2, y3, y4⟩ = (ll, bb, nn)) := ha
            have HV : Hid (((⟨0, 0, 0, false, ⟨#[]⟩⟩ : En), nn) = (⟨x0, x1, x2, x3, x4⟩, m)) := by
              have h2 := HJ.out
              rw [hjo] at h2
              refine Eq.trans ?_ h2
              show _ = readQ (none, nn)
              rw [readQ, if_pos hnn]
              rfl
            clear hg hxx ha hjo
            go_wp2_with fail
            refine Calls.mono HC.out ?_
            rintro e w2 ⟨rfl, hb⟩
            have B2 : Hid (Below w.heap.size w w2) := HB.out.trans (hb.mono HB.out.size)
            have O2 : Hid (RowIs w2 v8 o.toList) := HO.out.below hb
            have E2 : Hid (BoxAt w2 w.heap.size 0 0 0 false ⟨#[]⟩) := HE.out.below hb hbx
            have B3 : Hid (Below w.heap.size w (w2.alloc (.cells #[.int .i64 y0, .int .i64 y1, .int .i64 y2, .bool y3, .string y4] 46))) := B2.out.alloc B2.out.size _
            have O3 : Hid (RowIs (w2.alloc (.cells #[.int .i64 y0, .int .i64 y1, .int .i64 y2, .bool y3, .string y4] 46)) v8 o.toList) := O2.out.below ((Below.refl _ _).alloc (Nat.le_refl _) _)
            have E3 : Hid (BoxAt (w2.alloc (.cells #[.int .i64 y0, .int .i64 y1, .int .i64 y2, .bool y3, .string y4] 46)) w.heap.size 0 0 0 false ⟨#[]⟩) := E2.out.alloc _
            clear hb c0
            go_wp2_with fail
            refine (addP_o HA.out _ _ O3.out).mono ?_
            rintro e w4 ⟨v', rfl, hrow, hb⟩
            have B4 : Hid (Below w.heap.size w w4) := B3.out.trans (hb.mono B3.out.size)
            obtain ⟨e0, e1, e2, e3, e4, ef⟩ := E3.out.below hb E3.out.lt
            clear hb hrow
            rw [eV_errP hnn]
            go_wp2_with fail
            refine bodyPost_ret (v := .tuple #[.agg #[.int .i64 0, .int .i64 0, .int .i64 0, .bool false, .string ⟨#[]⟩], .iface 85 (.int .i64 nn)]) (by simp [results, Tryz.results29, go_sem, e0, e1, e2, e3, e4]) rfl ?_
            refine ⟨by rw [← eV_errP hnn]; exact ret_eq HV.out, ?_⟩
            have hb := B4.out
            go_grown
      · obtain rfl : j = n := by omega
        have HG : Hid (cacheGet o.toList key = (⟨x0, x1, x2, x3, x4⟩, m)) := by
          show _ = _
          rw [get_known HK.out HY.out, ← HJ.out, List.drop_eq_nil_of_le (by rw [HN.out]; exact Nat.le_refl _)]
          rfl
        go_wp2_with fail
        refine (getP_o HG.out _ _ HO.out).mono ?_
        rintro e w2 ⟨rfl, hb⟩
        have B2 : Hid (Below w.heap.size w w2) := HB.out.trans (hb.mono HB.out.size)
        obtain ⟨e0, e1, e2, e3, e4, ef⟩ := HE.out.below hb hbx
        clear hb
        obtain ⟨em, HEm⟩ : ∃ em, Hid (eV m = em) := ⟨_, rfl⟩
        rw [HEm.out]
        go_wp2_with fail
        refine bodyPost_ret (v := .tuple #[.agg #[.int .i64 x0, .int .i64 x1, .int .i64 x2, .bool x3, .string x4], em]) (by simp [results, Tryz.results29, go_sem, e0, e1, e2, e3, e4]) rfl ?_
        refine ⟨by rw [HEm.out], ?_⟩
        have hb := B2.out
        go_grown
end Go.Proofs.YtpcnfoaoajfhlaaGreatDoor

namespace Go.Proofs.YtpcnfoaoajfhlaaGreatDoor
set_option linter.unusedVariables false
set_option linter.unusedSimpArgs false
open Go.RowKit

set_option maxRecDepth 100000 in
set_option maxHeartbeats 8000000 in
theorem rlacks_c {w : World} {v : Value} {ls : List (List En)} {key m : Int} {k : List Int} (hr : RowsIs w v ls) (h : lacksR ls key = (k, m)) :
    Calls Tryz.prog 30 #[v, .int .i64 key] w fun e w' => ∃ u, e = .returned (.tuple #[u, eV m]) ∧ IntsIs w' u k ∧ Below w.heap.size w w' := by
  have HR : Hid (RowsIs w v ls) := hr
  obtain ⟨⟨x0, x1, x2, x3, x4⟩, n, HX⟩ : ∃ x n, Hid (readR ls key = (x, n)) := ⟨_, _, rfl⟩
  by_cases hn : n = 0
  · subst hn
    obtain ⟨hgl, hk, _⟩ := readR_ok HX.out
    have HGL : Hid (GoodLs ls) := hgl
    have HK : Hid (isKeyB key = true) := hk
    obtain ⟨rfl, rfl⟩ : lackN ls key x1 ls.length = k ∧ (0 : Int) = m := by
      rw [lacksR, HX.out, if_neg (by simp)] at h
      exact Prod.mk.inj h
    clear hgl hk h
    obtain ⟨hlen, p, cap, rfl, hrow⟩ := hr
    have HRow : Hid (ls ≠ [] → ∃ b o, p = some ⟨b, o, none⟩ ∧ b < w.heap.size ∧ ∀ j (h : j < ls.length), ∃ u, w.cell? ⟨b, o + j, none⟩ = some u ∧ RowIs w u ls[j]) := hrow
    clear hrow
    obtain ⟨n, HN⟩ : ∃ n, Hid (ls.length = n) := ⟨_, rfl⟩
    have HL6 : Hid (n ≤ 6) := by show n ≤ 6; rw [← HN.out]; exact HGL.out.len
    rw [HN.out] at hlen HR ⊢
    have hn63 : n ≤ 9223372036854775807 := hlen
    go_enter Tryz.func30, Tryz.ntmps30
    go_wp2_with fail
    refine (rread_c HR.out HX.out).mono ?_
    rintro e w1 ⟨rfl, hb⟩
    have B1 : Hid (Below w.heap.size w (w1.alloc (.cells #[.int .i64 x0, .int .i64 x1, .int .i64 x2, .bool x3, .string x4] 46))) := hb.alloc hb.size _
    have E1 : Hid (BoxAt (w1.alloc (.cells #[.int .i64 x0, .int .i64 x1, .int .i64 x2, .bool x3, .string x4] 46)) w1.heap.size x0 x1 x2 x3 x4) := box_new w1 x0 x1 x2 x3 x4 _ rfl
    have hs1 : w.heap.size ≤ w1.heap.size := hb.size
    obtain ⟨X, HXX⟩ : ∃ X, Hid (w1.heap.size = X) := ⟨_, rfl⟩
    clear hb
    rw [eV_zeroP]
    go_wp2_with fail
    rw [HXX.out] at E1 hs1 ⊢
    have hsX : w.heap.size ≤ X := hs1
    clear hs1
    go_loopw [8, 24] (fun s8 s24 wr => ∃ (j : Nat) (v8 : Value), s8 = v8 ∧ j ≤ n ∧ s24 = .int .i64 j ∧ Hid (wr.ownsRow (X + 1) 3 1 v8 (lackN ls key x1 j).length (intC (lackN ls key x1 j))) ∧ Hid (Below w.heap.size w wr) ∧ Hid (BoxAt wr X x0 x1 x2 x3 x4)) (fun _ i _ => n - (intOf i).toNat)
    case atStart => exact ⟨0, .slice none 0 0, rfl, Nat.zero_le _, rfl, World.ownsRow_nil _ _ _ _, B1, E1⟩
    case round =>
      obtain ⟨j, v8, hs8, hj, rfl, HO, HB, HE⟩ := hrel
      have HXn : Hid (v8.ownBlock ≠ some X) := fun hc => by have := ownsRow_fromF HO.out X hc; omega
      have hs8' := hs8.symm
      clear hs8
      subst hs8'
      clear B1 E1
      have hws := HB.out.size
      have hbx := HE.out.lt
      by_cases hlt : j < n
      · have hjl : j < ls.length := by rw [HN.out]; exact hlt
        obtain ⟨b, oo, rfl, hbw, hat⟩ := HRow.out (fun h => by simp [h] at hjl)
        obtain ⟨u, hu, hru⟩ := hat j hjl
        have c0 : wr.cell? ⟨b, oo + j, none⟩ = some u := (World.cell?_of_block (a := ⟨b, oo + j, none⟩) (HB.out.block b hbw)).trans hu
        have HU : Hid (RowIs wr u ls[j]) := hru.below HB.out
        have HGj : Hid (badL ls[j] = 0) := HGL.out.all _ (List.getElem_mem hjl)
        have hgd : ls.getD j [] = ls[j] := getD_at _ _ _ hjl
        have HYs : Hid (lackB key x1 ls[j] = true → lackN ls key x1 (j + 1) = lackN ls key x1 j ++ [(j : Int)]) := fun hh => lackN_yes (by rw [hgd]; exact hh)
        have HNo : Hid (lackB key x1 ls[j] = false → lackN ls key x1 (j + 1) = lackN ls key x1 j) := fun hh => lackN_no (by rw [hgd]; exact hh)
        have HLa : Hid ((lackN ls key x1 j).length ≤ 100) := Nat.le_trans (lackN_len _ _ _ _) (by have := HL6.out; omega)
        clear hat hu hru hgd
        have hlti : (j : Int) < (n : Int) := by omega
        obtain ⟨xs, HXs⟩ : ∃ xs, Hid (lackN ls key x1 j = xs) := ⟨_, rfl⟩
        rw [HXs.out] at HO HYs HNo HLa
        cases hg : getE ls[j] key with
        | none =>
          have HC : Hid _ := of_none HU.out HGj.out HK.out hg
          have HE1 : Hid (lackN ls key x1 (j + 1) = xs ++ [(j : Int)]) := HYs.out (by rw [lackB, hg])
          clear hg HYs HNo
          go_wp2_with fail
          refine Calls.mono HC.out ?_
          rintro e w2 ⟨rfl, hb⟩
          obtain ⟨w3, HW3⟩ : ∃ w3, w3 = w2.alloc (.cells #[.int .i64 0, .int .i64 0, .int .i64 0, .bool false, .string ⟨#[]⟩] 46) := ⟨_, rfl⟩
          have hb3 : Below wr.heap.size wr w3 := by rw [HW3]; exact hb.alloc hb.size _
          have B3 : Hid (Below w.heap.size w w3) := HB.out.trans (hb3.mono HB.out.size)
          have O3 : Hid (w3.ownsRow (X + 1) 3 1 v8 xs.length (intC xs)) := ownsRow_belowF HO.out hb3
          have E3 : Hid (BoxAt w3 X x0 x1 x2 x3 x4) := HE.out.below hb3 hbx
          clear hb hb3 c0
          go_upto_region 9 with fail
          rw [← HW3]
          clear HW3
          have hws3 := B3.out.size
          have HOb : Hid ((w3.alloc (.cells #[.int .i64 (j : Int)] 3)).ownsRow (X + 1) 3 1 v8 xs.length (intC xs)) := O3.out.alloc _
          have HVa : Hid ((w3.alloc (.cells #[.int .i64 (j : Int)] 3)).heap[w3.heap.size]? = some (.cells #[.int .i64 (j : Int)] 3 (0, 0))) := alloc_at _ _ _ rfl
          have HSa : Hid (X + 1 ≤ (w3.alloc (.cells #[.int .i64 (j : Int)] 3)).heap.size) := show _ ≤ _ from (by have := E3.out.lt; simp; omega)
          have hb5 : Below w3.heap.size w3 (w3.alloc (.cells #[.int .i64 (j : Int)] 3)) := (Below.refl _ _).alloc (Nat.le_refl _) _
          have HBb : Hid (Below w.heap.size w (w3.alloc (.cells #[.int .i64 (j : Int)] 3))) := B3.out.trans (hb5.mono B3.out.size)
          have HEb : Hid (BoxAt (w3.alloc (.cells #[.int .i64 (j : Int)] 3)) X x0 x1 x2 x3 x4) := E3.out.alloc _
          have HXa : Hid (∀ c, v8.ownBlock = some c → w.heap.size ≤ c) := fun c hc => by have := ownsRow_fromF HO.out c hc; have := hsX; omega
          clear hb5
          go_wp2_with (at_builtin; refine wp_appI _ rfl _ _ rfl (X + 1) _ xs (j : Int) rfl HOb.out _ rfl HVa.out HLa.out HSa.out ?_)
          intro va wa hown hgrow
          have HOp : Hid (wa.ownsRow (X + 1) 3 1 va (xs ++ [(j : Int)]).length (intC (xs ++ [(j : Int)]))) := hown
          have HBp : Hid (Below w.heap.size w wa) := below_grownF (HBb.out) (Nat.le_refl _) hgrow.out HXa.out
          have HEp : Hid (BoxAt wa X x0 x1 x2 x3 x4) := HEb.out.of_block (hgrow.out.block X HEb.out.lt (fun hc => HXn.out hc.symm))
          clear hown hgrow HOb HVa HLa HSa
          go_wp2_with fail
          go_roundw
          case rel =>
            refine ⟨j + 1, va, rfl, by omega, by go_num, ?_, HBp, HEp⟩
            show World.ownsRow _ _ _ _ _ _ _
            rw [HE1.out]
            exact HOp.out
          case measure => simp [intOf]; omega
        | some y =>
          obtain ⟨y0, y1, y2, y3, y4⟩ := y
          have HC : Hid _ := of_some HU.out HGj.out HK.out hg
          cases hd : decide (y1 < x1)
          · have HE1 : Hid (lackN ls key x1 (j + 1) = xs) := HNo.out (by rw [lackB, hg]; exact hd)
            clear hg HYs HNo
            go_wp2_with fail
            refine Calls.mono HC.out ?_
            rintro e w2 ⟨rfl, hb⟩
            obtain ⟨w3, HW3⟩ : ∃ w3, w3 = w2.alloc (.cells #[.int .i64 y0, .int .i64 y1, .int .i64 y2, .bool y3, .string y4] 46) := ⟨_, rfl⟩
            have hb3 : Below wr.heap.size wr w3 := by rw [HW3]; exact hb.alloc hb.size _
            have B3 : Hid (Below w.heap.size w w3) := HB.out.trans (hb3.mono HB.out.size)
            have O3 : Hid (w3.ownsRow (X + 1) 3 1 v8 xs.length (intC xs)) := ownsRow_belowF HO.out hb3
            have E3 : Hid (BoxAt w3 X x0 x1 x2 x3 x4) := HE.out.below hb3 hbx
            have F3 : Hid (BoxAt w3 w2.heap.size y0 y1 y2 y3 y4) := by rw [HW3]; exact box_new w2 y0 y1 y2 y3 y4 _ rfl
            clear hb hb3 c0
            go_upto_region 9 with fail
            rw [← HW3]
            clear HW3
            obtain ⟨e0, e1, e2, e3, e4, ef⟩ := E3.out
            obtain ⟨f0, f1, f2, f3, f4, ff⟩ := F3.out
            go_wp2_with fail
            clear e0 e1 e2 e3 e4 ef f0 f1 f2 f3 f4 ff
            go_roundw
            case rel =>
              refine ⟨j + 1, v8, rfl, by omega, by go_num, ?_, B3, E3⟩
              show World.ownsRow _ _ _ _ _ _ _
              rw [HE1.out]
              exact O3.out
            case measure => simp [intOf]; omega
          · have HE1 : Hid (lackN ls key x1 (j + 1) = xs ++ [(j : Int)]) := HYs.out (by rw [lackB, hg]; exact hd)
            clear hg HYs HNo
            go_wp2_with fail
            refine Calls.mono HC.out ?_
            rintro e w2 ⟨rfl, hb⟩
            obtain ⟨w3, HW3⟩ : ∃ w3, w3 = w2.alloc (.cells #[.int .i64 y0, .int .i64 y1, .int .i64 y2, .bool y3, .string y4] 46) := ⟨_, rfl⟩
            have hb3 : Below wr.heap.size wr w3 := by rw [HW3]; exact hb.alloc hb.size _
            have B3 : Hid (Below w.heap.size w w3) := HB.out.trans (hb3.mono HB.out.size)
            have O3 : Hid (w3.ownsRow (X + 1) 3 1 v8 xs.length (intC xs)) := ownsRow_belowF HO.out hb3
            have E3 : Hid (BoxAt w3 X x0 x1 x2 x3 x4) := HE.out.below hb3 hbx
            have F3 : Hid (BoxAt w3 w2.heap.size y0 y1 y2 y3 y4) := by rw [HW3]; exact box_new w2 y0 y1 y2 y3 y4 _ rfl
            clear hb hb3 c0
            go_upto_region 9 with fail
            rw [← HW3]
            clear HW3
            obtain ⟨e0, e1, e2, e3, e4, ef⟩ := E3.out
            obtain ⟨f0, f1, f2, f3, f4, ff⟩ := F3.out
            have hws3 := B3.out.size
            have HOb : Hid ((w3.alloc (.cells #[.int .i64 (j : Int)] 3)).ownsRow (X + 1) 3 1 v8 xs.length (intC xs)) := O3.out.alloc _
            have HVa : Hid ((w3.alloc (.cells #[.int .i64 (j : Int)] 3)).heap[w3.heap.size]? = some (.cells #[.int .i64 (j : Int)] 3 (0, 0))) := alloc_at _ _ _ rfl
            have HSa : Hid (X + 1 ≤ (w3.alloc (.cells #[.int .i64 (j : Int)] 3)).heap.size) := show _ ≤ _ from (by have := E3.out.lt; simp; omega)
            have hb5 : Below w3.heap.size w3 (w3.alloc (.cells #[.int .i64 (j : Int)] 3)) := (Below.refl _ _).alloc (Nat.le_refl _) _
            have HBb : Hid (Below w.heap.size w (w3.alloc (.cells #[.int .i64 (j : Int)] 3))) := B3.out.trans (hb5.mono B3.out.size)
            have HEb : Hid (BoxAt (w3.alloc (.cells #[.int .i64 (j : Int)] 3)) X x0 x1 x2 x3 x4) := E3.out.alloc _
            have HXa : Hid (∀ c, v8.ownBlock = some c → w.heap.size ≤ c) := fun c hc => by have := ownsRow_fromF HO.out c hc; have := hsX; omega
            clear hb5
            go_wp2_with (at_builtin; refine wp_appI _ rfl _ _ rfl (X + 1) _ xs (j : Int) rfl HOb.out _ rfl HVa.out HLa.out HSa.out ?_)
            intro va wa hown hgrow
            have HOp : Hid (wa.ownsRow (X + 1) 3 1 va (xs ++ [(j : Int)]).length (intC (xs ++ [(j : Int)]))) := hown
            have HBp : Hid (Below w.heap.size w wa) := below_grownF (HBb.out) (Nat.le_refl _) hgrow.out HXa.out
            have HEp : Hid (BoxAt wa X x0 x1 x2 x3 x4) := HEb.out.of_block (hgrow.out.block X HEb.out.lt (fun hc => HXn.out hc.symm))
            clear hown hgrow HOb HVa HLa HSa
            clear e0 e1 e2 e3 e4 ef f0 f1 f2 f3 f4 ff
            go_wp2_with fail
            go_roundw
            case rel =>
              refine ⟨j + 1, va, rfl, by omega, by go_num, ?_, HBp, HEp⟩
              show World.ownsRow _ _ _ _ _ _ _
              rw [HE1.out]
              exact HOp.out
            case measure => simp [intOf]; omega
      · obtain rfl : j = n := by omega
        go_wp2_with fail
        go_ret2
        exact ⟨v8, rfl, IntsIs.own HO.out, HB.out⟩
  · obtain ⟨rfl, rfl⟩ : ([] : List Int) = k ∧ n = m := by
      rw [lacksR, HX.out, if_pos hn] at h
      exact Prod.mk.inj h
    clear h hr
    go_enter Tryz.func30, Tryz.ntmps30
    go_wp2_with fail
    refine (rread_c HR.out HX.out).mono ?_
    rintro e w1 ⟨rfl, hb⟩
    have B1 : Hid (Below w.heap.size w (w1.alloc (.cells #[.int .i64 x0, .int .i64 x1, .int .i64 x2, .bool x3, .string x4] 46))) := hb.alloc hb.size _
    clear hb
    rw [eV_errP hn]
    go_wp2_with fail
    go_ret2
    exact ⟨.slice none 0 0, by simp [eV, hn], IntsIs.nil _, B1.out⟩
end Go.Proofs.YtpcnfoaoajfhlaaGreatDoor

namespace Go.Proofs.YtpcnfoaoajfhlaaGreatDoor
set_option linter.unusedVariables false
set_option linter.unusedSimpArgs false
open Go.RowKit

/-- so many caches; those that are named have x, the others nothing -/
def hasL (x : En) (o : List Int) (n : Nat) : List (List En) := (List.range n).map (fun (i : Nat) => if o.contains (i : Int) = true then [x] else [])
theorem hasL_len (x : En) (o : List Int) (n : Nat) : (hasL x o n).length = n := by simp [hasL]
theorem hasL_get (x : En) (o : List Int) (n : Nat) (i : Nat) (h : i < (hasL x o n).length) : (hasL x o n)[i] = if o.contains (i : Int) = true then [x] else [] := by simp [hasL]
theorem hasL_nil (x : En) (n : Nat) : hasL x [] n = List.replicate n [] := by
  apply List.ext_getElem
  · simp [hasL]
  · intro i h1 h2
    rw [hasL_get]
    simp
theorem hasL_set (x : En) (o : List Int) (n k : Nat) : (hasL x o n).set k [x] = hasL x (o ++ [(k : Int)]) n := by
  apply List.ext_getElem
  · simp [hasL]
  · intro i h1 h2
    rw [List.getElem_set, hasL_get, hasL_get]
    by_cases hk : k = i
    · subst hk; simp
    · rw [if_neg hk]
      have e : (o ++ [(k : Int)]).contains (i : Int) = o.contains (i : Int) := by
        simp
        intro h
        exact absurd h.symm (by omega)
      rw [e]
theorem hasL_mem {x : En} {o : List Int} {n : Nat} {l : List En} (h : l ∈ hasL x o n) : l = [] ∨ l = [x] := by
  simp only [hasL, List.mem_map] at h
  obtain ⟨i, _, rfl⟩ := h
  split
  · exact .inr rfl
  · exact .inl rfl
theorem getE_lone (x : En) : getE [x] x.k = some x := by simp [getE]
theorem getE_empty (k : Int) : getE [] k = none := rfl
theorem join_self {x : En} (hb : x.bad = 0) : joinE x x = (x, 0) := (Over.refl x).join hb hb
theorem join_more {x : En} (hb : x.bad = 0) : ∀ ls : List (List En), (∀ l ∈ ls, l = [] ∨ l = [x]) → joinFrom x.k (some x) ls = (some x, 0)
  | [], _ => rfl
  | l :: ls, h => by
    have ih := join_more hb ls (fun m hm => h m (List.mem_cons_of_mem _ hm))
    rcases h l (List.mem_cons_self ..) with rfl | rfl
    · rw [joinFrom, getE_empty]; exact ih
    · rw [joinFrom, getE_lone]
      dsimp only
      rw [join_self hb, if_neg (by simp)]
      exact ih
theorem join_first {x : En} (hb : x.bad = 0) : ∀ ls : List (List En), (∀ l ∈ ls, l = [] ∨ l = [x]) → [x] ∈ ls → joinFrom x.k none ls = (some x, 0)
  | [], _, h => by cases h
  | l :: ls, h, hm => by
    have ht : ∀ m ∈ ls, m = [] ∨ m = [x] := fun m hm => h m (List.mem_cons_of_mem _ hm)
    rcases h l (List.mem_cons_self ..) with rfl | rfl
    · rw [joinFrom, getE_empty]
      refine join_first hb ls ht ?_
      rcases List.mem_cons.1 hm with e | e
      · cases e
      · exact e
    · rw [joinFrom, getE_lone]
      exact join_more hb ls ht
theorem badEach_has {x : En} (hb : x.bad = 0) : ∀ ls : List (List En), (∀ l ∈ ls, l = [] ∨ l = [x]) → badEach ls = 0
  | [], _ => rfl
  | l :: ls, h => by
    have ih := badEach_has hb ls (fun m hm => h m (List.mem_cons_of_mem _ hm))
    have h0 : badL l = 0 := by
      rcases h l (List.mem_cons_self ..) with rfl | rfl
      · rfl
      · exact bad_single hb
    rw [badEach, if_neg (by rw [h0]; simp)]
    exact ih
theorem badLs_has {x : En} (hb : x.bad = 0) {ls : List (List En)} (h : ∀ l ∈ ls, l = [] ∨ l = [x]) (h0 : ls.length ≠ 0) (h6 : ls.length ≤ 6) : badLs ls = 0 := by
  rw [badLs, if_neg h0, if_neg (by omega)]
  exact badEach_has hb ls h
theorem read_has {x : En} (hb : x.bad = 0) (hk : isKeyB x.k = true) {ls : List (List En)} (h : ∀ l ∈ ls, l = [] ∨ l = [x]) (h6 : ls.length ≤ 6) (hm : [x] ∈ ls) : readR ls x.k = (x, 0) := by
  have h0 : ls.length ≠ 0 := by intro e; rw [List.length_eq_zero_iff.1 e] at hm; cases hm
  rw [readR, if_neg (by rw [badLs_has hb h h0 h6]; simp), if_neg (by rw [hk]; simp), join_first hb ls h hm]
  rfl
theorem count_less : ∀ {l : List Nat} {k : Nat}, l.Nodup → k ∈ l → (l.filter (fun i => i != k)).length + 1 = l.length := by
  intro l k hn hk
  rw [← List.Nodup.erase_eq_filter hn, List.length_erase_of_mem hk]
  have : 0 < l.length := List.length_pos_of_mem hk
  omega
/-- those that are not named -/
def restI (o : List Int) : List Nat := (List.range 6).filter (fun (i : Nat) => !(o.contains (i : Int)))
theorem rest_len : ∀ (o : List Int), o.Nodup → (∀ x ∈ o, 0 ≤ x ∧ x ≤ 5) → (restI o).length + o.length = 6
  | [], _, _ => by decide
  | x :: o, hn, hr => by
    obtain ⟨hx, hn'⟩ := List.nodup_cons.1 hn
    have ih := rest_len o hn' (fun y hy => hr y (List.mem_cons_of_mem _ hy))
    obtain ⟨h0, h5⟩ := hr x (List.mem_cons_self ..)
    obtain ⟨k, rfl⟩ : ∃ k : Nat, x = k := ⟨x.toNat, by omega⟩
    have e : restI ((k : Int) :: o) = (restI o).filter (fun i => i != k) := by
      rw [restI, restI, List.filter_filter]
      apply List.filter_congr
      intro i _
      by_cases hik : i = k
      · subst hik; simp
      · have : ¬ ((i : Int) = (k : Int)) := by omega
        simp [hik, this]
    have hm : k ∈ restI o := by
      rw [restI, List.mem_filter]
      refine ⟨by simp; omega, ?_⟩
      simpa using hx
    have hnd : (restI o).Nodup := List.Nodup.sublist List.filter_sublist List.nodup_range
    have := count_less hnd hm
    rw [e, List.length_cons]
    omega
theorem lackB_has {x : En} {o : List Int} {i : Nat} (h : i < 6) : lackB x.k x.v ((hasL x o 6).getD i []) = !(o.contains (i : Int)) := by
  have hl : i < (hasL x o 6).length := by rw [hasL_len]; exact h
  have e : (hasL x o 6).getD i [] = (hasL x o 6)[i] := by simp [List.getD_eq_getElem?_getD, hl]
  rw [e, hasL_get]
  cases hc : o.contains (i : Int)
  · rw [if_neg (by simp)]; rfl
  · rw [if_pos rfl, lackB, getE_lone]; simp
theorem lacks_has {x : En} (hb : x.bad = 0) (hk : isKeyB x.k = true) {o : List Int} (hm : [x] ∈ hasL x o 6) : lacksR (hasL x o 6) x.k = ((restI o).map (fun i => ((i : Nat) : Int)), 0) := by
  have hr := read_has hb hk (fun l hl => hasL_mem hl) (by rw [hasL_len]; omega) hm
  rw [lacksR, if_neg (by rw [hr]; simp), hr, hasL_len]
  rw [lackN, restI]
  congr 2
  apply List.filter_congr
  intro i hi
  exact lackB_has (List.mem_range.1 hi)
theorem mark_miss {key : Int} : ∀ (ls : List (List En)) (m : Int), (∃ l ∈ ls, getE l key = none) → markFrom key m ls = 0
  | [], _, h => by obtain ⟨_, h, _⟩ := h; cases h
  | l :: ls, m, h => by
    cases hg : getE l key with
    | none => rw [markFrom, hg]
    | some y =>
      rw [markFrom, hg]
      obtain ⟨l', hl', hn⟩ := h
      rcases List.mem_cons.1 hl' with rfl | h'
      · rw [hg] at hn; cases hn
      · exact mark_miss ls _ ⟨l', h', hn⟩
theorem mark_all {x : En} : ∀ (ls : List (List En)) (m : Int), x.a ≤ m → (∀ l ∈ ls, l = [x]) → (ls = [] → x.a = m) → markFrom x.k m ls = x.a
  | [], m, _, _, h => (h rfl).symm
  | l :: ls, m, hle, h, _ => by
    have e := h l (List.mem_cons_self ..)
    subst e
    rw [markFrom, getE_lone]
    dsimp only
    have e : (if x.a < m then x.a else m) = x.a := by split <;> omega
    rw [e]
    exact mark_all ls x.a (Int.le_refl _) (fun l hl => h l (List.mem_cons_of_mem _ hl)) (fun _ => rfl)
theorem mark_has {x : En} (hb : x.bad = 0) (hk : isKeyB x.k = true) {o : List Int} (hn : o.Nodup) (hr : ∀ y ∈ o, 0 ≤ y ∧ y ≤ 5) (ha : x.a ≤ 1000) : tombMark (hasL x o 6) x.k = (if o.length = 6 then x.a else 0, 0) := by
  have hbl : badLs (hasL x o 6) = 0 := badLs_has hb (fun l hl => hasL_mem hl) (by rw [hasL_len]; omega) (by rw [hasL_len]; omega)
  rw [tombMark, if_neg (by rw [hbl]; simp), if_neg (by rw [hk]; simp)]
  have hl := rest_len o hn hr
  congr 1
  split
  · rename_i h6
    have hz : restI o = [] := List.length_eq_zero_iff.1 (by omega)
    refine mark_all _ _ ha (fun l hm => ?_) (fun e => by have := hasL_len x o 6; rw [e] at this; simp at this)
    simp only [hasL, List.mem_map] at hm
    obtain ⟨i, hi, rfl⟩ := hm
    have : o.contains (i : Int) = true := by
      cases hc : o.contains (i : Int)
      · have : i ∈ restI o := by rw [restI, List.mem_filter]; exact ⟨hi, by rw [hc]; rfl⟩
        rw [hz] at this; cases this
      · rfl
    rw [if_pos this]
  · rename_i h6
    have hz : restI o ≠ [] := by intro e; rw [e] at hl; simp at hl; omega
    obtain ⟨i, hi⟩ := List.exists_mem_of_ne_nil _ hz
    rw [restI, List.mem_filter] at hi
    refine mark_miss _ _ ⟨[], ?_, rfl⟩
    simp only [hasL, List.mem_map]
    refine ⟨i, hi.1, ?_⟩
    have : ¬ o.contains (i : Int) = true := by have := hi.2; simpa using this
    rw [if_neg this]
theorem has_mem {x : En} {o : List Int} (h0 : o ≠ []) (hr : ∀ y ∈ o, 0 ≤ y ∧ y ≤ 5) : [x] ∈ hasL x o 6 := by
  obtain ⟨y, hy⟩ := List.exists_mem_of_ne_nil _ h0
  obtain ⟨h0, h5⟩ := hr y hy
  obtain ⟨k, rfl⟩ : ∃ k : Nat, y = k := ⟨y.toNat, by omega⟩
  simp only [hasL, List.mem_map]
  refine ⟨k, by simp; omega, ?_⟩
  rw [if_pos (by simpa using hy)]
theorem rest_not {o : List Int} {z : Int} (h : z ∈ (restI o).map (fun i => ((i : Nat) : Int))) : o.contains z = false := by
  rw [List.mem_map] at h
  obtain ⟨i, hi, rfl⟩ := h
  have := (List.mem_filter.1 (show i ∈ (List.range 6).filter (fun (i : Nat) => !(o.contains (i : Int))) from hi)).2
  simpa using this
end Go.Proofs.YtpcnfoaoajfhlaaGreatDoor
