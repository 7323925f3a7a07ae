/-
  slices.SortFunc at points by its contract, laid at this program (the body of each function and each type's row compared): the row holds the points sorted.
  A row of points of the call's own, sorted and compacted, by the library's contracts.
  Two points compared; slices.Compact at points that rise; meresame.Points, by their contracts.
  The document's Nodes and Key, and meresame.Points at the same points, by their contracts.
-/
import Derived.Shelf.SlSortCmp.NoneTotal
import Derived.Test.YtpcnfoaoajfhlaaGreatDoorRaas
import Derived.Test.YtpcnfoaoajfhlaaGreatDoorRaat
import Derived.Lib.OwnBridge
import Derived.Laws.StructEq
import Derived.BigQuiet
namespace Go.Proofs.YtpcnfoaoajfhlaaGreatDoor
set_option linter.unusedVariables false
set_option linter.unusedSimpArgs false
set_option linter.unusedVariables false
set_option linter.unusedSimpArgs false
open Go.RowKit Go.Shelf Go.Lib Go.Sort

def sortR : Go.Shelf.Ren := ⟨fun | 6 => 60 | 14 => 105 | 15 => 106 | 20 => 147 | 21 => 148 | 22 => 149 | 23 => 150 | 24 => 151 | 25 => 152 | 26 => 153 | 27 => 154 | 28 => 155 | 29 => 156 | 46 => 185 | 47 => 186 | 48 => 187 | 49 => 188 | 50 => 189 | 57 => 200 | n => n, fun | 22 => 59 | 24 => 110 | 25 => 112 | 3 => 3 | 39 => 170 | 0 => 0 | 53 => 224 | 55 => 226 | 4 => 4 | 46 => 218 | 45 => 217 | 50 => 143 | 5 => 5 | 9 => 9 | 66 => 261 | 70 => 265 | 76 => 271 | 77 => 40 | n => n, fun n => n⟩
theorem sortL : Go.Proofs.SlLaysF0.n6 Tryz.prog sortR := {
  mixed := by kernel_rfl
  f6 := ⟨Tryz.f60.name, by kernel_rfl, Tryz.func60.trans (congrArg some (by kernel_rfl))⟩
  f14 := ⟨Tryz.f105.name, by kernel_rfl, Tryz.func105.trans (congrArg some (by kernel_rfl))⟩
  f15 := Tryz.func106.trans (congrArg some (by kernel_rfl))
  f20 := ⟨Tryz.f147.name, by kernel_rfl, Tryz.func147.trans (congrArg some (by kernel_rfl))⟩
  f21 := ⟨Tryz.f148.name, by kernel_rfl, Tryz.func148.trans (congrArg some (by kernel_rfl))⟩
  f22 := ⟨Tryz.f149.name, by kernel_rfl, Tryz.func149.trans (congrArg some (by kernel_rfl))⟩
  f23 := ⟨Tryz.f150.name, by kernel_rfl, Tryz.func150.trans (congrArg some (by kernel_rfl))⟩
  f24 := ⟨Tryz.f151.name, by kernel_rfl, Tryz.func151.trans (congrArg some (by kernel_rfl))⟩
  f25 := ⟨Tryz.f152.name, by kernel_rfl, Tryz.func152.trans (congrArg some (by kernel_rfl))⟩
  f26 := ⟨Tryz.f153.name, by kernel_rfl, Tryz.func153.trans (congrArg some (by kernel_rfl))⟩
  f27 := ⟨Tryz.f154.name, by kernel_rfl, Tryz.func154.trans (congrArg some (by kernel_rfl))⟩
  f28 := Tryz.func155.trans (congrArg some (by kernel_rfl))
  f29 := Tryz.func156.trans (congrArg some (by kernel_rfl))
  f46 := ⟨Tryz.f185.name, by kernel_rfl, Tryz.func185.trans (congrArg some (by kernel_rfl))⟩
  f47 := Tryz.func186.trans (congrArg some (by kernel_rfl))
  f48 := Tryz.func187.trans (congrArg some (by kernel_rfl))
  f49 := ⟨Tryz.f188.name, by kernel_rfl, Tryz.func188.trans (congrArg some (by kernel_rfl))⟩
  f50 := ⟨Tryz.f189.name, by kernel_rfl, Tryz.func189.trans (congrArg some (by kernel_rfl))⟩
  f57 := ⟨Tryz.f200.name, by kernel_rfl, Tryz.func200.trans (congrArg some (by kernel_rfl))⟩
  t22 := Tryz.underlying59
  a22 := Tryz.isAgg59
  z22 := Tryz.sizeOf59
  v22 := Tryz.zeroValue59
  t25 := Tryz.underlying112
  a25 := Tryz.isAgg112
  z25 := Tryz.sizeOf112
  v25 := Tryz.zeroValue112
  t3 := Tryz.underlying3
  a3 := Tryz.isAgg3
  z3 := Tryz.sizeOf3
  v3 := Tryz.zeroValue3
  t39 := Tryz.underlying170
  a39 := Tryz.isAgg170
  z39 := Tryz.sizeOf170
  v39 := Tryz.zeroValue170
  t0 := Tryz.underlying0
  a0 := Tryz.isAgg0
  z0 := Tryz.sizeOf0
  v0 := Tryz.zeroValue0
  t53 := Tryz.underlying224
  a53 := Tryz.isAgg224
  z53 := Tryz.sizeOf224
  v53 := Tryz.zeroValue224
  t55 := Tryz.underlying226
  a55 := Tryz.isAgg226
  z55 := Tryz.sizeOf226
  v55 := Tryz.zeroValue226
  t4 := Tryz.underlying4
  a4 := Tryz.isAgg4
  z4 := Tryz.sizeOf4
  v4 := Tryz.zeroValue4
  t46 := Tryz.underlying218
  a46 := Tryz.isAgg218
  z46 := Tryz.sizeOf218
  v46 := Tryz.zeroValue218
  t45 := Tryz.underlying217
  a45 := Tryz.isAgg217
  z45 := Tryz.sizeOf217
  v45 := Tryz.zeroValue217
  t50 := Tryz.underlying143
  a50 := Tryz.isAgg143
  z50 := Tryz.sizeOf143
  v50 := Tryz.zeroValue143
  t5 := Tryz.underlying5
  a5 := Tryz.isAgg5
  z5 := Tryz.sizeOf5
  v5 := Tryz.zeroValue5
  t9 := Tryz.underlying9
  a9 := Tryz.isAgg9
  z9 := Tryz.sizeOf9
  v9 := Tryz.zeroValue9
  t66 := Tryz.underlying261
  a66 := Tryz.isAgg261
  z66 := Tryz.sizeOf261
  v66 := Tryz.zeroValue261
  t70 := Tryz.underlying265
  a70 := Tryz.isAgg265
  z70 := Tryz.sizeOf265
  v70 := Tryz.zeroValue265
  t76 := Tryz.underlying271
  a76 := Tryz.isAgg271
  z76 := Tryz.sizeOf271
  v76 := Tryz.zeroValue271
  t77 := Tryz.underlying40
  a77 := Tryz.isAgg40
  z77 := Tryz.sizeOf40
  v77 := Tryz.zeroValue40 }

def encP (x : Pt) : List Value := [.int .i64 x.p, .int .i64 x.n]
theorem cmpLaysP [Inhabited Pt] (blk off size : Nat) (w : World) : CmpLays Tryz.prog 61 #[] encP 2 cfP blk off size w := fun _ _ _ _ x y => cmpP_c x.p x.n y.p y.n _
theorem sortFunc_c [Inhabited Pt] (blk off cap : Nat) (d : Array Pt) (w : World) (hH : HoldsK encP 2 w blk off d) (hblk : blk < w.heap.size) (hsz : d.size < 4611686018427387904) :
    Calls Tryz.prog 60 #[.slice (some ⟨blk, off, none⟩) d.size cap, .func (.func 61) #[] #[]] w fun e w' =>
      e = .returned (.tuple #[]) ∧ ∃ n os, w' = sortWorldK encP 2 w blk off n (d.toList.mergeSort fun x y => !(ltOf cfP) y x).toArray os :=
  AnyQ.slices_SortFunc_total sortL 2 Tryz.isAgg110 Tryz.sizeOf110 encP (fun _ => rfl) (fun x v hv => by simp [encP] at hv; rcases hv with rfl | rfl <;> rfl) cfP swoP 61 #[] blk off cap d w (enters_of Tryz.func61 (by kernel_rfl) rfl) (cmpLaysP blk off d.size w) hH hblk hsz totP
end Go.Proofs.YtpcnfoaoajfhlaaGreatDoor

namespace Go.Proofs.YtpcnfoaoajfhlaaGreatDoor
set_option linter.unusedVariables false
set_option linter.unusedSimpArgs false
open Go.RowKit Go.Shelf Go.Lib Go.Sort

theorem rowT_flat [Inhabited Pt] (l : List Pt) (j : Nat) (h : j < l.length * 2) : (rowT l)[j]? = some ((encP (l.toArray[j / 2]!))[j % 2]!) := by
  have hj : j / 2 < l.length := by omega
  obtain ⟨a0, a1⟩ := rowT_get l (j / 2) hj
  have e : l.toArray[j / 2]! = l[j / 2] := by simp [hj]
  rw [e]
  rcases Nat.mod_two_eq_zero_or_one j with h0 | h0
  · have hr : j = j / 2 * 2 := by omega
    rw [h0]
    conv => lhs; rw [hr]
    rw [a0]
    rfl
  · have hr : j = j / 2 * 2 + 1 := by omega
    rw [h0]
    conv => lhs; rw [hr]
    rw [a1]
    rfl
theorem holdsP [Inhabited Pt] {B : Nat} {w : World} {v : Value} {l : List Pt} (h : OwnP B w v l) (hne : l ≠ []) : ∃ g cap, v = .slice (some ⟨g, 0, none⟩) l.length cap ∧ B ≤ g ∧ g < w.heap.size ∧ HoldsK encP 2 w g 0 l.toArray := by
  have hcell : ∀ g, v.ownBlock = some g → ∀ j u, (rowT l)[j]? = some u → w.cell? ⟨g, j, none⟩ = some u := fun g hg j u hu => by
    have := h.cells (g := g) hg j u hu
    simpa [Addr.add_lit] using this
  rcases h.2 with ⟨rfl, h0⟩ | ⟨g, cap, cur, rfl, hb, hg, hc1, hc2, _⟩
  · exact absurd (List.length_eq_zero_iff.1 h0) hne
  · refine ⟨g, cap, rfl, hb, (Array.getElem?_eq_some_iff.1 hg).1, fun j hj => ?_⟩
    rw [size_flatK] at hj
    have hj' : j < l.length * 2 := by simpa using hj
    rw [get_flatK _ _ _ _ hj, Nat.zero_add]
    exact ⟨hcell g rfl j _ (rowT_flat l j hj'), by simp [World.frozen?, hg]⟩
theorem below_sorted [Inhabited Pt] {B : Nat} {w : World} {g n : Nat} {d : Array Pt} {os : Array Obj} (hg : B ≤ g) (hB : B ≤ w.heap.size) : RowKit.Below B w (sortWorldK encP 2 w g 0 n d os) := by
  have h1 : RowKit.Below B w (putRowK encP 2 (Sort.ahead w n) g 0 d) := Lib.below_putRow (RowKit.Below.refl B w) hg
  refine h1.trans ⟨rfl, rfl, rfl, ?_, fun c hc => ?_⟩
  · show _ ≤ (_ ++ os).size
    rw [Array.size_append]
    exact Nat.le_add_right _ _
  · show (_ ++ os)[c]? = _
    rw [Array.getElem?_append_left (Nat.lt_of_lt_of_le hc (Nat.le_trans hB h1.size))]
theorem sortRow_c (B : Nat) (v : Value) (l : List Pt) (w : World) (h : OwnP B w v l) (hne : l ≠ []) (hB : B ≤ w.heap.size) (hl : l.length ≤ 2000) :
    Calls Tryz.prog 60 #[v, .func (.func 61) #[] #[]] w fun e w' => e = .returned (.tuple #[]) ∧ PtsIs w' v (l.mergeSort fun x y => !(ltOf cfP) y x) ∧ RowKit.Below B w w' := by
  have inh : Inhabited Pt := ⟨⟨0, 0⟩⟩
  obtain ⟨g, cap, rfl, hb, hg, hH⟩ := holdsP h hne
  have hc := sortFunc_c g 0 cap l.toArray w hH hg (by rw [List.size_toArray]; omega)
  rw [List.size_toArray] at hc
  refine hc.mono ?_
  rintro e w' ⟨rfl, n, os, rfl⟩
  refine ⟨rfl, ?_, below_sorted hb hB⟩
  have e1 : (l.toArray.toList.mergeSort fun x y => !(ltOf cfP) y x) = (l.mergeSort fun x y => !(ltOf cfP) y x) := by simp
  rw [e1]
  have hlen : (l.mergeSort fun x y => !(ltOf cfP) y x).length = l.length := List.length_mergeSort ..
  have hs : (l.mergeSort fun x y => !(ltOf cfP) y x).toArray.size = l.toArray.size := by simp
  have hH' := holdsK_sortWorldK_c encP 2 w g 0 l.toArray (l.mergeSort fun x y => !(ltOf cfP) y x).toArray n os hH hg hs
  generalize (l.mergeSort fun x y => !(ltOf cfP) y x) = m at *
  refine ⟨by unfold maxLen; omega, _, cap, by rw [hlen], fun _ => ⟨g, 0, rfl, Nat.lt_of_lt_of_le hg (below_sorted (B := 0) (Nat.zero_le _) (Nat.zero_le _)).size, fun j hj => ?_⟩⟩
  have e2 : m.toArray[j]! = m[j] := by simp [hj]
  have k0 := (hH'.cell (i := j) (c := 0) (by simpa using hj) (by omega)).1
  have k1 := (hH'.cell (i := j) (c := 1) (by simpa using hj) (by omega)).1
  rw [e2] at k0 k1
  exact ⟨k0, k1⟩
end Go.Proofs.YtpcnfoaoajfhlaaGreatDoor

namespace Go.Proofs.YtpcnfoaoajfhlaaGreatDoor
set_option linter.unusedVariables false
set_option linter.unusedSimpArgs false
open Go.RowKit

def Pt.same (x y : Pt) : Bool := (x.p == y.p) && (x.n == y.n)
theorem Pt.same_iff (x y : Pt) : x.same y = true ↔ x = y := by
  cases x
  cases y
  simp [Pt.same]
theorem eql_ptIn (x y : Pt) (w : World) : (Op.equalIn 10000 110 x.val y.val).run Tryz.prog w = .ok (x.same y) w := by
  unfold Pt.val
  rw [run_equalIn_agg w 9999 110 _ _ (by kernel_rfl) (by kernel_rfl)]
  simp [Op.eqFields, Program.fieldsOf, Tryz.underlying110, go_sem, Tryz.underlying3, Pt.same]
  by_cases h0 : x.p = y.p <;> by_cases h1 : x.n = y.n <;> simp [h0, h1]
theorem eql_pt (x0 x1 y0 y1 : Int) (b : Bool) (h : Pt.same ⟨x0, x1⟩ ⟨y0, y1⟩ = b) (w : World) : (binOp .eql 110 (.agg #[.int .i64 x0, .int .i64 x1]) (.agg #[.int .i64 y0, .int .i64 y1])).run Tryz.prog w = .ok (.bool b) w := by
  have h1 := eql_ptIn ⟨x0, x1⟩ ⟨y0, y1⟩ w
  rw [h] at h1
  unfold Pt.val at h1
  rw [run_eql_struct, h1]
  rfl
theorem neq_pt (x0 x1 y0 y1 : Int) (b : Bool) (h : Pt.same ⟨x0, x1⟩ ⟨y0, y1⟩ = b) (w : World) : (binOp .neq 110 (.agg #[.int .i64 x0, .int .i64 x1]) (.agg #[.int .i64 y0, .int .i64 y1])).run Tryz.prog w = .ok (.bool !b) w := by
  have h1 := eql_ptIn ⟨x0, x1⟩ ⟨y0, y1⟩ w
  rw [h] at h1
  unfold Pt.val at h1
  rw [run_neq_struct, h1]
  rfl
theorem eqGuard_pt : Tryz.prog.eqGuardType Tryz.prog.depth 110 = false := by kernel_rfl
theorem rise_unlike {l : List Pt} (h : l.Pairwise ltP) {j : Nat} (hj : j + 1 < l.length) : Pt.same l[j + 1] l[j] = false := by
  have h1 := List.pairwise_iff_getElem.1 h j (j + 1) (by omega) hj (by omega)
  cases hs : Pt.same l[j + 1] l[j]
  · rfl
  · rw [Pt.same_iff] at hs
    rw [hs] at h1
    unfold ltP at h1
    omega
set_option maxHeartbeats 4000000 in
theorem compact_c (v : Value) (l : List Pt) (w : World) (hr : PtsIs w v l) (hrise : l.Pairwise ltP) (hl : l.length ≤ 2000) :
    Calls Tryz.prog 62 #[v] w fun e w' => e = .returned v ∧ Below w.heap.size w w' := by
  obtain ⟨hlen, pp, cap, rfl, hrow⟩ := hr
  have HRow : Hid (l ≠ [] → ∃ b o, pp = some ⟨b, o, none⟩ ∧ b < w.heap.size ∧ ∀ j (h : j < l.length), PtAt w b (o + j * 2) l[j]) := hrow
  have HRise : Hid (l.Pairwise ltP) := hrise
  clear hrow hrise
  by_cases h2 : l.length < 2
  · have h2i : (l.length : Int) < 2 := by omega
    clear HRow HRise
    generalize l.length = n at *
    go_enter Tryz.func62, Tryz.ntmps62
    go_wp2_with fail
    go_ret
    exact ⟨rfl, Below.refl _ _⟩
  have h2i : ¬ (l.length : Int) < 2 := by omega
  have hne : l ≠ [] := by intro h; rw [h] at h2; simp at h2
  obtain ⟨b, o, rfl, hbw, hat⟩ := HRow.out hne
  have HAt : Hid (∀ j (h : j < l.length), PtAt w b (o + j * 2) l[j]) := hat
  obtain ⟨n, HN⟩ : ∃ n, Hid (l.length = n) := ⟨_, rfl⟩
  clear hat HRow hne
  rw [HN.out] at hlen h2 h2i hl ⊢
  have hgd := eqGuard_pt
  go_enter Tryz.func62, Tryz.ntmps62
  go_wp2_with fail
  go_loopw [3] (fun s3 wr => ∃ j : Nat, j + 1 ≤ n ∧ s3 = .int .i64 ((j + 1 : Nat) : Int) ∧ Hid (Below w.heap.size w wr)) (fun i _ => n - (intOf i).toNat)
  case atStart => exact ⟨0, by omega, rfl, Below.refl _ _⟩
  case round =>
    obtain ⟨j, hj, rfl, HB⟩ := hrel
    by_cases hlt : j + 1 < n
    · have hjl : j + 1 < l.length := by rw [HN.out]; exact hlt
      have HA1 : Hid (PtAt wr b (o + (j + 1) * 2) l[j + 1]) := (HAt.out _ hjl).of_block (HB.out.block b hbw)
      have HA0 : Hid (PtAt wr b (o + j * 2) l[j]) := (HAt.out j (by omega)).of_block (HB.out.block b hbw)
      have HS : Hid (Pt.same l[j + 1] l[j] = false) := rise_unlike HRise.out hjl
      obtain ⟨x, HX⟩ : ∃ x, Hid (l[j + 1] = x) := ⟨l[j + 1], show l[j + 1] = l[j + 1] from rfl⟩
      obtain ⟨y, HY⟩ : ∃ y, Hid (l[j]'(by omega) = y) := ⟨l[j]'(by omega), show l[j]'(by omega) = l[j]'(by omega) from rfl⟩
      rw [HX.out] at HA1 HS
      rw [HY.out] at HA0 HS
      obtain ⟨x0, x1⟩ := x
      obtain ⟨y0, y1⟩ := y
      obtain ⟨c0, c1⟩ := HA1.out
      obtain ⟨d0, d1⟩ := HA0.out
      dsimp only at c0 c1 d0 d1
      have hq := eql_pt x0 x1 y0 y1 false HS.out
      have hwp : IntKind.i64.wrap (j : Int) = (j : Int) := by rw [IntKind.wrap_i64]; omega
      have hin : (j : Int) < (n : Int) := by omega
      have hin' : (j : Int) + 1 < (n : Int) := by omega
      have hin2 : ((j + 1 : Nat) : Int) < (n : Int) := by omega
      go_upto_region 6 with fail
      go_quiet (fail)
      go_wp2_with fail
      go_roundw
      case rel => exact ⟨j + 1, by omega, by go_num, HB.out.trans (below_drewN _ _ _)⟩
      case measure => simp [intOf]; omega
    · have hin2 : ¬ ((j + 1 : Nat) : Int) < (n : Int) := by omega
      have hin3 : ¬ (j : Int) + 1 < (n : Int) := by omega
      go_wp2_with fail
      go_ret
      exact ⟨rfl, HB.out⟩
end Go.Proofs.YtpcnfoaoajfhlaaGreatDoor

namespace Go.Proofs.YtpcnfoaoajfhlaaGreatDoor
set_option linter.unusedVariables false
set_option linter.unusedSimpArgs false
open Go.RowKit

set_option maxHeartbeats 4000000 in
theorem inW_c (va : Value) (a : List Int) (x : Int) (R : Bool) (w : World) (hra : IntsIs w va a) (hR : a.contains x = R) :
    Calls Tryz.prog 33 #[va, .int .i64 x] w fun e w' => e = .returned (.bool R) ∧ w' = w := by
  obtain ⟨hla, pa, capa, rfl, hrowa⟩ := hra
  have HRA : Hid (a ≠ [] → ∃ bb o, pa = some ⟨bb, o, none⟩ ∧ bb < w.heap.size ∧ ∀ j (h : j < a.length), w.cell? ⟨bb, o + j, none⟩ = some (.int .i64 a[j])) := hrowa
  clear hrowa
  obtain ⟨n, HN⟩ : ∃ n, Hid (a.length = n) := ⟨_, rfl⟩
  rw [HN.out] at hla ⊢
  have hn63 : n ≤ 9223372036854775807 := hla
  have HR : Hid (a.contains x = R) := hR
  clear hR
  go_enter Tryz.func33, Tryz.ntmps33
  go_wp2_with fail
  go_loopw [5] (fun i wr => ∃ j : Nat, j ≤ n ∧ i = .int .i64 j ∧ Hid (R = (a.drop j).contains x) ∧ wr = w) (fun i _ => n - (intOf i).toNat)
  case atStart => exact ⟨0, Nat.zero_le _, rfl, by rw [List.drop_zero]; exact HR.out.symm, rfl⟩
  case round =>
    obtain ⟨j, hj, rfl, HE, rfl⟩ := hrel
    by_cases hlt : j < n
    · have hja : j < a.length := by rw [HN.out]; exact hlt
      obtain ⟨ba, oa, rfl, hbwa, hata⟩ := HRA.out (fun h => by simp [h] at hja)
      have c0 := hata j hja
      clear hata
      have HHit : Hid (a[j] = x → R = true) := fun h => HE.out.trans (hasI_hit hja h)
      have HMiss : Hid (¬ a[j] = x → R = (a.drop (j + 1)).contains x) := fun h => HE.out.trans (hasI_miss hja h)
      obtain ⟨y, HY⟩ : ∃ y, Hid (a[j] = y) := ⟨a[j], show a[j] = a[j] from rfl⟩
      rw [HY.out] at c0 HHit HMiss
      have hlti : (j : Int) < (n : Int) := by omega
      by_cases hs : y = x
      · have HRt : Hid (R = true) := HHit.out hs
        go_wp2_with fail
        go_ret
        exact ⟨by rw [HRt.out]; rfl, rfl⟩
      · have HRt : Hid (R = (a.drop (j + 1)).contains x) := HMiss.out hs
        go_wp2_with fail
        go_roundw
        case rel => exact ⟨j + 1, by omega, by go_num, HRt, trivial⟩
        case measure => simp [intOf]; omega
    · obtain rfl : j = n := by omega
      have HR0 : Hid (R = false) := by
        show R = false
        rw [HE.out, List.drop_eq_nil_of_le (by rw [HN.out]; exact Nat.le_refl _)]
        rfl
      go_wp2_with fail
      go_ret
      exact ⟨by rw [HR0.out]; rfl, rfl⟩
theorem keyR_c (k : Int) (w : World) : Calls Tryz.prog 47 #[.int .i64 k] w fun e w' => e = .returned (.bool (inR k 0 7)) ∧ w' = w := by
  go_enter Tryz.func47, Tryz.ntmps47
  go_wp2_with fail
  · go_ret
    refine ⟨?_, rfl⟩
    rename_i h
    simp [inR, h]
  · go_ret
    refine ⟨?_, rfl⟩
    rename_i h
    have h2 : ¬ 0 ≤ k := by omega
    simp [inR, h2]
theorem drew_ints {w : World} {v : Value} {l : List Int} (h : IntsIs w v l) (n : Nat) : IntsIs (w.drewN n) v l := h.below (below_drewN _ _ _)
end Go.Proofs.YtpcnfoaoajfhlaaGreatDoor
