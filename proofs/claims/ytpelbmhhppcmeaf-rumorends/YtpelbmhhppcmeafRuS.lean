/-
  slices.SortStableFunc at rumors, of at most twenty: the library's insertion sort by its contract; and package rumor's toldLeast.
-/
import Derived.Shelf.SlSortCmp.InsertionK
import Derived.Lib.OwnBridge
import Derived.Shelf.Abstract
import Derived.Test.YtpelbmhhppcmeafRuL
import Derived.Test.YtpelbmhhppcmeafRuC
import Derived.Test.YtpelbmhhppcmeafVwK
namespace Go.Proofs.Ytpelbmhhppcmeaf
set_option linter.unusedVariables false
set_option linter.unusedSimpArgs false
open Go.RowKit Go.Shelf Go.Lib Go.Sort

def sortR : Go.Shelf.Ren := ⟨fun | 20 => 31 | n => n, fun | 22 => 27 | 24 => 35 | 25 => 58 | 3 => 3 | 0 => 0 | 4 => 4 | n => n, fun n => n⟩
theorem sortL : Go.Proofs.SlLaysF0.n20 Try.prog sortR := {
  mixed := by kernel_rfl
  f20 := ⟨Try.f31.name, by kernel_rfl, Try.func31.trans (congrArg some (by kernel_rfl))⟩
  t22 := Try.underlying27
  a22 := Try.isAgg27
  z22 := Try.sizeOf27
  v22 := Try.zeroValue27
  t25 := Try.underlying58
  a25 := Try.isAgg58
  z25 := Try.sizeOf58
  v25 := Try.zeroValue58
  t3 := Try.underlying3
  a3 := Try.isAgg3
  z3 := Try.sizeOf3
  v3 := Try.zeroValue3
  t0 := Try.underlying0
  a0 := Try.isAgg0
  z0 := Try.sizeOf0
  v0 := Try.zeroValue0
  t4 := Try.underlying4
  a4 := Try.isAgg4
  z4 := Try.sizeOf4
  v4 := Try.zeroValue4 }
def cfR (a b : Ru) : Int := Lib.compareInt a.t b.t
theorem ltOf_cfR : ltOf cfR = ltT := by
  funext a b
  unfold ltOf cfR ltT Lib.compareInt
  by_cases h1 : a.t < b.t
  · rw [if_pos h1, decide_eq_true h1]
    rfl
  · rw [if_neg h1, decide_eq_false h1]
    split <;> rfl
theorem grow_two (w : World) (o1 o2 : Obj) : (w.alloc o1).alloc o2 = grow (w.drewN 0) #[o1, o2] := by
  have e : (w.alloc o1).alloc o2 = ((w.drewN 0).alloc o1 |>.alloc o2) := rfl
  rw [e, alloc_eq_grow, alloc_eq_grow, grow_grow]
  rfl
set_option maxHeartbeats 4000000 in
/-- by how often they were told -/
theorem cmpR_c (k f s t k' f' s' t' : Int) (w : World) : Calls Try.prog 24 #[.agg #[.int .i64 k, .int .i64 f, .int .i64 s, .int .i64 t], .agg #[.int .i64 k', .int .i64 f', .int .i64 s', .int .i64 t']] w fun e w' => e = .returned (.int .i64 (Lib.compareInt t t')) ∧ ∃ q os, w' = grow (w.drewN q) os := by
  go_enter Try.func24, Try.ntmps24
  go_wp2_with fail
  refine (compare_c t t' _).mono ?_
  rintro e w1 ⟨rfl, hw⟩
  have HW : Hid (w1 = _) := hw
  clear hw
  go_wp2_with fail
  go_ret
  exact ⟨rfl, 0, _, by rw [HW.out]; exact grow_two _ _ _⟩
theorem cmpLaysR [Inhabited Ru] (blk off size : Nat) (w : World) : CmpLays Try.prog 24 #[] Ru.cells 4 cfR blk off size w := fun _ _ _ _ x y => cmpR_c x.m.n x.m.f x.m.s x.t y.m.n y.m.f y.m.s y.t _
theorem insSort_c [Inhabited Ru] (blk off cap : Nat) (l : List Ru) (w : World) (hH : HoldsK Ru.cells 4 w blk off l.toArray) (hblk : blk < w.heap.size) (hsz : l.length < 4611686018427387904) :
    Calls Try.prog 31 #[.slice (some ⟨blk, off, none⟩) l.length cap, .int .i64 0, .int .i64 l.length, .func (.func 24) #[] #[]] w fun e w' =>
      e = .returned (.tuple #[]) ∧ ∃ n os, w' = sortWorldK Ru.cells 4 w blk off n (Go.Sort.insertionSort ltT l.toArray 0 l.length) os := by
  have c := AnyQ.insertionSortCmpFunc sortL 4 Try.isAgg35 Try.sizeOf35 Ru.cells Ru.cells_length (fun x v hv => rowR_one [x] v (by simpa [rowR] using hv)) cfR 24 #[] blk off cap 0 l.length l.toArray w (enters_of Try.func24 (by kernel_rfl) rfl) (cmpLaysR blk off l.toArray.size w) hH hblk (Nat.zero_le _) (by simp) (by simpa using hsz)
  rw [ltOf_cfR, List.size_toArray] at c
  exact c
theorem rowR_flat [Inhabited Ru] (l : List Ru) (j : Nat) (h : j < l.length * 4) : (rowR l)[j]? = some ((Ru.cells (l.toArray[j / 4]!))[j % 4]!) := by
  have hj : j / 4 < l.length := by omega
  obtain ⟨a0, a1, a2, a3⟩ := rowR_get l (j / 4) hj
  have e : l.toArray[j / 4]! = l[j / 4] := by simp [hj]
  rw [e]
  have h5 : j % 4 < 4 := by omega
  have hr : j = j / 4 * 4 + j % 4 := by omega
  conv => lhs; rw [hr]
  generalize j % 4 = r at h5
  match r, h5 with
  | 0, _ => rw [Nat.add_zero, a0]; rfl
  | 1, _ => rw [a1]; rfl
  | 2, _ => rw [a2]; rfl
  | 3, _ => rw [a3]; rfl
theorem holdsR [Inhabited Ru] {B : Nat} {w : World} {v : Value} {l : List Ru} (h : OwnR B w v l) (hne : l ≠ []) : ∃ g cap, v = .slice (some ⟨g, 0, none⟩) l.length cap ∧ B ≤ g ∧ g < w.heap.size ∧ HoldsK Ru.cells 4 w g 0 l.toArray := by
  have hcell : ∀ g, v.ownBlock = some g → ∀ j u, (rowR l)[j]? = some u → w.cell? ⟨g, j, none⟩ = some u := fun g hg j u hu => by
    have := h.cells (g := g) hg j u hu
    simpa [Addr.add_lit] using this
  rcases h.2 with ⟨rfl, h0⟩ | ⟨g, cap, cur, rfl, hb, hg, hc1, hc2, _⟩
  · exact absurd (List.length_eq_zero_iff.1 h0) hne
  · refine ⟨g, cap, rfl, hb, (Array.getElem?_eq_some_iff.1 hg).1, fun j hj => ?_⟩
    rw [size_flatK] at hj
    have hj' : j < l.length * 4 := by simpa using hj
    rw [get_flatK _ _ _ _ hj, Nat.zero_add]
    exact ⟨hcell g rfl j _ (rowR_flat l j hj'), by simp [World.frozen?, hg]⟩
theorem below_sortedR [Inhabited Ru] {B : Nat} {w : World} {g n : Nat} {d : Array Ru} {os : Array Obj} (hg : B ≤ g) (hB : B ≤ w.heap.size) : RowKit.Below B w (sortWorldK Ru.cells 4 w g 0 n d os) := by
  have h1 : RowKit.Below B w (putRowK Ru.cells 4 (Sort.ahead w n) g 0 d) := Lib.below_putRow (RowKit.Below.refl B w) hg
  refine h1.trans ⟨rfl, rfl, rfl, ?_, fun c hc => ?_⟩
  · show _ ≤ (_ ++ os).size
    rw [Array.size_append]
    exact Nat.le_add_right _ _
  · show (_ ++ os)[c]? = _
    rw [Array.getElem?_append_left (Nat.lt_of_lt_of_le hc (Nat.le_trans hB h1.size))]
/-- an own row sorted -/
theorem insRow_c [Inhabited Ru] (B : Nat) (v : Value) (l : List Ru) (w : World) (h : OwnR B w v l) (hne : l ≠ []) (hB : B ≤ w.heap.size) (hl : l.length ≤ 20) (hr : RiseR l) :
    Calls Try.prog 31 #[v, .int .i64 0, .int .i64 l.length, .func (.func 24) #[] #[]] w fun e w' => e = .returned (.tuple #[]) ∧ RusIs w' v (srtR l) ∧ RowKit.Below B w w' := by
  obtain ⟨g, cap, rfl, hb, hg, hH⟩ := holdsR h hne
  refine (insSort_c g 0 cap l w hH hg (by omega)).mono ?_
  rintro e w' ⟨rfl, n, os, rfl⟩
  refine ⟨rfl, ?_, below_sortedR hb hB⟩
  rw [stable_eq hr]
  have hlen : (srtR l).length = l.length := srt_len hr
  have hs : (Go.Sort.insertionSort lexB l.toArray 0 l.length).size = l.toArray.size := by rw [List.size_toArray]; exact hlen
  have hH' := holdsK_sortWorldK_c Ru.cells 4 w g 0 l.toArray (Go.Sort.insertionSort lexB l.toArray 0 l.length) n os hH hg hs
  have e1 : (srtR l).toArray = Go.Sort.insertionSort lexB l.toArray 0 l.length := rfl
  rw [← e1] at hH' ⊢
  clear e1 hs
  generalize srtR l = m at *
  refine ⟨by unfold maxLen; omega, _, cap, by rw [hlen], fun _ => ⟨g, 0, rfl, Nat.lt_of_lt_of_le hg (below_sortedR (B := 0) (Nat.zero_le _) (Nat.zero_le _)).size, fun j hj => ?_⟩⟩
  have e2 : m.toArray[j]! = m[j] := by simp [hj]
  have k0 := (hH'.cell (i := j) (c := 0) (by simpa using hj) (by omega)).1
  have k1 := (hH'.cell (i := j) (c := 1) (by simpa using hj) (by omega)).1
  have k2 := (hH'.cell (i := j) (c := 2) (by simpa using hj) (by omega)).1
  have k3 := (hH'.cell (i := j) (c := 3) (by simpa using hj) (by omega)).1
  rw [e2] at k0 k1 k2 k3
  exact ⟨k0, k1, k2, k3⟩
end Go.Proofs.Ytpelbmhhppcmeaf
