/-
  What TreeParts' walk asks: Diff and Get with letters.
-/
import Derived.Test.YtpfljcacdcpojadDoorTrD
import Derived.Test.YtpfljcacdcpojadDoorTrQ
import Derived.Test.YtpfljcacdcpojadDoorTbJ
namespace Go.Proofs.YtpfljcacdcpojadDoor
set_option linter.unusedVariables false
set_option linter.unusedSimpArgs false
open Go.RowKit

theorem row_one {w : World} {b : Nat} (hbx : BoxAt w b 6 1 1 false ⟨#[120]⟩) : RowIs w (.slice (some ⟨b, 0, none⟩) 1 1) [oneE] := by
  refine ⟨by simp [maxLen], _, 1, rfl, fun _ => ⟨b, 0, rfl, hbx.lt, fun j hj => ?_⟩⟩
  obtain rfl : j = 0 := by simpa using hj
  exact ⟨hbx.c0, hbx.c1, hbx.c2, hbx.c3, hbx.c4⟩
/-- the law's first Diff -/
theorem diff_fact {w : World} {b : Nat} (hbx : BoxAt w b 6 1 1 false ⟨#[120]⟩) (hT : Lib.TabIs Tryd.prog w powName .u64 Lib.pow10Tab) :
    Calls Tryd.prog 21 #[.slice (some ⟨b, 0, none⟩) 1 1, .slice none 0 0] w fun e w' => ∃ b' o' cap', e = .returned (.tuple #[.slice (some ⟨b', o', none⟩) 1 cap', .int .i64 7, .nilIface]) ∧ w'.cell? ⟨b', o', none⟩ = some (.int .i64 6) ∧ Below w.heap.size w w' := by
  obtain ⟨h1, h2⟩ := part_one
  have c := diff_ok (.slice (some ⟨b, 0, none⟩) 1 1) (.slice none 0 0) [oneE] [] w (row_one hbx) (RowIs.nil w) one_good rfl hT
  rw [h1, h2] at c
  refine c.mono ?_
  rintro e w' ⟨v', rfl, ho, hb⟩
  obtain ⟨_, p, cap, rfl, hrow⟩ := ho.ints
  obtain ⟨b', o', rfl, _, hc⟩ := hrow (by simp)
  exact ⟨b', o', cap, rfl, hc 0 (by simp), hb⟩
theorem diff_fails (va vb : Value) (a b : List En) (w : World) (hra : RowIs w va a) (hrb : RowIs w vb b) (h : ¬ (badL a = 0 ∧ badL b = 0)) (hT : Lib.TabIs Tryd.prog w powName .u64 Lib.pow10Tab) :
    ∃ n : Int, Calls Tryd.prog 21 #[va, vb] w fun e w' => e = .returned (.tuple #[.slice none 0 0, .int .i64 0, .iface 54 (.int .i64 n)]) ∧ Below w.heap.size w w' := by
  by_cases ha : badL a = 0
  · exact ⟨_, diff_other va vb a b _ w hra hrb ha rfl (fun hb => h ⟨ha, hb⟩) hT⟩
  · exact ⟨_, diff_one va vb a _ w hra rfl ha⟩
theorem diff_p (va vb : Value) (a b : List En) (w0 : World) (hra : RowIs w0 va a) (hrb : RowIs w0 vb b) (ha : badL a = 0) (hb : badL b = 0) (hT : Lib.TabBelow Tryd.prog w0.heap.size w0 powName .u64 Lib.pow10Tab) (K : List Int) (N : Nat) (hK : partK (leafN a) (leafN b) 1 = K) (hN : partN (leafN a) (leafN b) 1 = N) (w : World) (hw : Below w0.heap.size w0 w) :
    Calls Tryd.prog 21 #[va, vb] w fun e w' => ∃ v', e = .returned (.tuple #[v', .int .i64 (N : Nat), .nilIface]) ∧ OwnI w.heap.size w' v' K ∧ Below w.heap.size w w' := by
  have c := diff_ok va vb a b w (hra.below hw) (hrb.below hw) ha hb (hT w hw)
  rw [hK, hN] at c
  exact c
/-- a row of numbers, taken apart -/
theorem OwnI.slice {B : Nat} {w : World} {v : Value} {l : List Int} (h : OwnI B w v l) : ∃ p cap, v = .slice p l.length cap := by
  obtain ⟨_, p, cap, hv, _⟩ := h.ints
  exact ⟨p, cap, hv⟩
theorem OwnI.cell {B : Nat} {w : World} {p : Option Addr} {n cap : Nat} {l : List Int} (h : OwnI B w (.slice p n cap) l) (j : Nat) (hj : j < l.length) : ∃ b, p = some ⟨b, 0, none⟩ ∧ b < w.heap.size ∧ ∀ i (hi : i < l.length), w.cell? ⟨b, i, none⟩ = some (.int .i64 l[i]) := by
  rcases h.2 with ⟨_, h0⟩ | ⟨g, cap', cur, hv, _, hg, _⟩
  · omega
  · obtain ⟨rfl, _, _⟩ : p = some ⟨g, 0, none⟩ ∧ n = l.length ∧ cap = cap' := by simpa using hv
    refine ⟨g, rfl, (Array.getElem?_eq_some_iff.1 hg).1, fun i hi => ?_⟩
    have := h.cells (g := g) rfl i (.int .i64 l[i]) (by simp [intC, List.getElem?_map, hi])
    simpa [Addr.add_lit] using this

/-- what Get answers of a right cache, with letters -/
theorem getP_e (v : Value) (l : List En) (K : Nat) (hb : badL l = 0) (hK : K < 8) (w0 : World) (hr : RowIs w0 v l) : ∃ (x0 x1 x2 : Int) (x3 : Bool) (x4 : ByteArray) (EV : Value),
    (∀ w, Below w0.heap.size w0 w → Calls Tryd.prog 23 #[v, .int .i64 (K : Nat)] w fun e w' => e = .returned (.tuple #[.agg #[.int .i64 x0, .int .i64 x1, .int .i64 x2, .bool x3, .string x4], EV]) ∧ Below w.heap.size w w') ∧
    ((EV = .nilIface ∧ getE l (K : Int) = some ⟨x0, x1, x2, x3, x4⟩) ∨ (EV = .iface 54 (.int .i64 5) ∧ getE l (K : Int) = none)) := by
  have hk : isKeyB (K : Int) = true := by
    simp [isKeyB]
    omega
  cases hg : getE l (K : Int) with
  | none =>
    refine ⟨0, 0, 0, false, ⟨#[]⟩, _, fun w hw => ?_, .inr ⟨rfl, rfl⟩⟩
    have c := get_c v l (K : Int) w (hr.below hw)
    rw [cacheGet, if_neg (by simpa using hb), if_neg (by simp [hk]), hg] at c
    exact c
  | some x =>
    obtain ⟨x0, x1, x2, x3, x4⟩ := x
    refine ⟨x0, x1, x2, x3, x4, _, fun w hw => ?_, .inl ⟨rfl, rfl⟩⟩
    have c := get_c v l (K : Int) w (hr.below hw)
    rw [cacheGet, if_neg (by simpa using hb), if_neg (by simp [hk]), hg] at c
    exact c
theorem in_o (va : Value) (a : List Int) (x : Int) (c : Bool) (h : a.contains x = c) (w : World) (hra : IntsIs w va a) :
    Calls Tryd.prog 24 #[va, .int .i64 x] w fun e w' => e = .returned (.bool c) ∧ Below w.heap.size w w' := by
  subst h
  exact in_c va a x w hra
/-- the entries of a key that was told, as Get answers -/
theorem told_how {a b : List En} (ha : badL a = 0) (hb : badL b = 0) {q : Nat} (h : leafN a q ≠ leafN b q) {x y : En} {EA EB : Value}
    (h1 : (EA = .nilIface ∧ getE a (q : Int) = some x) ∨ (EA = .iface 54 (.int .i64 5) ∧ getE a (q : Int) = none)) (h2 : (EB = .nilIface ∧ getE b (q : Int) = some y) ∨ (EB = .iface 54 (.int .i64 5) ∧ getE b (q : Int) = none)) :
    (EA = .nilIface ∧ EB = .iface 54 (.int .i64 5)) ∨ (EA = .iface 54 (.int .i64 5) ∧ EB = .nilIface) ∨ (EA = .nilIface ∧ EB = .nilIface ∧ (x.v ≠ y.v ∨ (x.v = y.v ∧ x.g ≠ y.g) ∨ (x.v = y.v ∧ x.g = y.g ∧ x.t ≠ y.t))) := by
  rcases unlike_how ha hb h with ⟨x', g1, g2⟩ | ⟨y', g1, g2⟩ | ⟨x', y', g1, g2, hu⟩
  · rw [g1] at h1
    rw [g2] at h2
    rcases h1 with ⟨e1, _⟩ | ⟨_, e1⟩
    · rcases h2 with ⟨_, e2⟩ | ⟨e2, _⟩
      · cases e2
      · exact .inl ⟨e1, e2⟩
    · cases e1
  · rw [g1] at h1
    rw [g2] at h2
    rcases h1 with ⟨_, e1⟩ | ⟨e1, _⟩
    · cases e1
    · rcases h2 with ⟨e2, _⟩ | ⟨_, e2⟩
      · exact .inr (.inl ⟨e1, e2⟩)
      · cases e2
  · rw [g1] at h1
    rw [g2] at h2
    rcases h1 with ⟨e1, f1⟩ | ⟨_, f1⟩
    · rcases h2 with ⟨e2, f2⟩ | ⟨_, f2⟩
      · obtain rfl := Option.some.inj f1
        obtain rfl := Option.some.inj f2
        exact .inr (.inr ⟨e1, e2, hu⟩)
      · cases f2
    · cases f1
end Go.Proofs.YtpfljcacdcpojadDoor
