/-
  Mail in memory: a row of letters and a map of ways that are cut, behind a pointer; what package mail does to it, as plain functions.
-/
import Derived.Test.YtbincnajklmnaaaLtD
import Derived.Test.YtbincnajklmnaaaMpA
import Derived.DeepKeys4
namespace Go.Proofs.Ytbincnajklmnaaa
set_option linter.unusedVariables false
set_option linter.unusedSimpArgs false
open Go.RowKit Go.Maps Go.ChangeMaps

theorem laidOutM : laidOutB Try.prog = true := by kernel_rfl
theorem wayRow : (81 : TypeId) < Try.prog.types.size := of_decide_eq_true (by kernel_rfl)
theorem wayWide : (match Try.prog.underlying 81 with | some (.array _ _) | some (.struct _) => true | _ => false) = true := by rw [Try.underlying81]
set_option maxRecDepth 100000 in
theorem wayKeyed : Keyed Try.prog 81 := Keyed.of_law (deep_law_laid laidOutM (m := 3) (by omega) wayRow (by kernel_rfl) wayWide)
def wayV (f d : Int) : Value := .agg #[.int .i64 f, .int .i64 d]
theorem way_key (f d : Nat) (hf : f < 6) (hd : d < 6) : ∃ kl, keyOf Try.prog 81 (.agg #[.int .i64 (f : Int), .int .i64 (d : Int)]) = some kl := by
  have h1 : Try.prog.keyType 81 = true := by kernel_rfl
  have h2 : (Value.agg #[.int .i64 (f : Int), .int .i64 (d : Int)]).formed Try.prog 81 = true := by
    have hc : Try.prog.cellsOf 81 = 2 := by kernel_rfl
    simp [Value.formed, Try.underlying81, hc]
  have hc : Try.prog.cellsOf 81 = 2 := by kernel_rfl
  have hi : Try.prog.cellsOf 3 = 1 := by kernel_rfl
  have w1 : (Lit.int .i64 (f : Int)).wf = true := by
    have : f = 0 ∨ f = 1 ∨ f = 2 ∨ f = 3 ∨ f = 4 ∨ f = 5 := by omega
    rcases this with rfl | rfl | rfl | rfl | rfl | rfl <;> rfl
  have w2 : (Lit.int .i64 (d : Int)).wf = true := by
    have : d = 0 ∨ d = 1 ∨ d = 2 ∨ d = 3 ∨ d = 4 ∨ d = 5 := by omega
    rcases this with rfl | rfl | rfl | rfl | rfl | rfl <;> rfl
  have K : ∀ n, Try.prog.keyLits (n + 1 + 1) 81 [.int .i64 (f : Int), .int .i64 (d : Int)] = some [.int .i64 (f : Int), .int .i64 (d : Int)] := by
    intro n
    have r : List.range 2 = [0, 1] := rfl
    unfold Program.keyLits
    simp only [Try.underlying81, hc, hi, r]
    simp [Program.keyLits, Try.underlying3, w1, w2]
  have hs : (81 : Nat) < Try.prog.types.size := wayRow
  obtain ⟨n, hn⟩ : ∃ n, Try.prog.types.size + 1 = n + 1 + 1 := ⟨Try.prog.types.size - 1, by omega⟩
  unfold keyOf
  rw [Try.underlying81]
  have K1 := K n
  rw [← hn] at K1
  refine ⟨.string (keyBytes [.int .i64 (f : Int), .int .i64 (d : Int)]), ?_⟩
  simp only [h1, h2]
  rw [show (Value.agg #[.int .i64 (f : Int), .int .i64 (d : Int)]).cells.toList = [.int .i64 (f : Int), .int .i64 (d : Int)] from rfl, K1]
  rfl
/-- is a number a node? -/
def isNd (n : Int) : Bool := decide (0 ≤ n) && decide (n < 6)
theorem isNd_nat {n : Int} (h : isNd n = true) : ∃ k : Nat, n = k ∧ k < 6 := by
  simp [isNd] at h
  exact ⟨n.toNat, by omega, by omega⟩
/-- the fault of two ends -/
def endsE (f d : Int) : Int := if (isNd f && isNd d) = true then (if f = d then 3 else 0) else 1
theorem endsE_ok {f d : Int} (h : endsE f d = 0) : ∃ a b : Nat, f = a ∧ d = b ∧ a < 6 ∧ b < 6 ∧ a ≠ b := by
  unfold endsE at h
  split at h
  · rename_i h1
    split at h
    · omega
    · rename_i h2
      rw [Bool.and_eq_true] at h1
      obtain ⟨a, rfl, ha⟩ := isNd_nat h1.1
      obtain ⟨b, rfl, hb⟩ := isNd_nat h1.2
      exact ⟨a, b, rfl, rfl, ha, hb, fun e => h2 (by rw [e])⟩
  · omega
/-- the fault of a letter that is sent, where so many are there -/
def sendE (n : Nat) (x : Lt) : Int := if endsE x.f x.d ≠ 0 then endsE x.f x.d else if x.e.bad ≠ 0 then x.e.bad else if 40 ≤ n then 4 else 0
/-- what is there behind it -/
def sendL (l : List Lt) (q : Nat → Nat → Bool) (x : Lt) : List Lt := if sendE l.length x = 0 ∧ q x.f.toNat x.d.toNat = false then l ++ [x] else l
/-- the ways that are cut behind Cut -/
def cutQ (q : Nat → Nat → Bool) (f d : Int) (c : Bool) : Nat → Nat → Bool := if endsE f d = 0 then (fun a b => if a = f.toNat ∧ b = d.toNat then c else q a b) else q

/-- a block that holds the ways that are cut -/
def CutAt (w : World) (bm : Nat) (q : Nat → Nat → Bool) : Prop :=
  ∃ n f, MapAt Try.prog 81 w bm n f ∧ ∀ x y : Nat, x < 6 → y < 6 → f (.agg #[.int .i64 (x : Int), .int .i64 (y : Int)]) = if q x y = true then some (.agg #[]) else none
theorem CutAt.of_block {w w' : World} {b : Nat} {q : Nat → Nat → Bool} (h : CutAt w b q) (hb : w'.heap[b]? = w.heap[b]?) : CutAt w' b q := by
  obtain ⟨n, f, h1, h2⟩ := h
  exact ⟨n, f, h1.of_block hb, h2⟩
theorem CutAt.lt {w : World} {b : Nat} {q : Nat → Nat → Bool} (h : CutAt w b q) : b < w.heap.size := by
  obtain ⟨n, f, h1, h2⟩ := h
  exact h1.lt
theorem infoNone (w : World) : (zeroValue 84).run Try.prog w = .ok (.agg #[]) w := by kernel_rfl
/-- _, lost := m.cut[w] -/
theorem CutAt.look {w : World} {b : Nat} {q : Nat → Nat → Bool} (h : CutAt w b q) (x y : Nat) (hx : x < 6) (hy : y < 6) :
    (Instr.lookup 71 (.map (some b)) (.agg #[.int .i64 (x : Int), .int .i64 (y : Int)]) true).run Try.prog w = .ok (.tuple #[.agg #[], .bool (q x y)]) w := by
  obtain ⟨n, f, h1, h2⟩ := h
  obtain ⟨kl, hk⟩ := way_key x y hx hy
  have := h1.look true wayKeyed Try.underlying71 (infoNone w) hk
  rw [this, h2 x y hx hy]
  cases hq : q x y <;> simp
/-- m.cut[w] = struct{}{} -/
theorem CutAt.store {w : World} {b : Nat} {q : Nat → Nat → Bool} (h : CutAt w b q) (x y : Nat) (hx : x < 6) (hy : y < 6) :
    ∃ w', (Instr.mapUpdate 71 (.map (some b)) (.agg #[.int .i64 (x : Int), .int .i64 (y : Int)]) (.agg #[])).run Try.prog w = .ok () w' ∧ CutAt w' b (fun a c => if a = x ∧ c = y then true else q a c) ∧ w.grownBy w' (some b) := by
  classical
  obtain ⟨n, f, h1, h2⟩ := h
  obtain ⟨kl, hk⟩ := way_key x y hx hy
  obtain ⟨w', g1, g2, g3⟩ := h1.store (f' := fun z => if z = .agg #[.int .i64 (x : Int), .int .i64 (y : Int)] then some (.agg #[]) else f z) wayKeyed Try.underlying71 hk (v := .agg #[]) (by simp) (fun z hz => by simp [hz])
  refine ⟨w', g1, ⟨n + 1, _, g2, fun a c ha hc => ?_⟩, g3⟩
  by_cases e : a = x ∧ c = y
  · obtain ⟨rfl, rfl⟩ := e
    simp
  · rw [if_neg (by intro hh; simp at hh; exact e ⟨by omega, by omega⟩)]
    simp only [if_neg e]
    exact h2 a c ha hc
/-- delete(m.cut, w) -/
theorem CutAt.drop {w : World} {b : Nat} {q : Nat → Nat → Bool} (h : CutAt w b q) (x y : Nat) (hx : x < 6) (hy : y < 6) (ty : TypeId) :
    ∃ w', (Builtin.delete_ #[71, 81] ty #[.map (some b), .agg #[.int .i64 (x : Int), .int .i64 (y : Int)]]).run Try.prog w = .ok (.tuple #[]) w' ∧ CutAt w' b (fun a c => if a = x ∧ c = y then false else q a c) ∧ w.grownBy w' (some b) := by
  classical
  obtain ⟨n, f, h1, h2⟩ := h
  obtain ⟨kl, hk⟩ := way_key x y hx hy
  obtain ⟨w', g1, g2, g3⟩ := h1.drop (f' := fun z => if z = .agg #[.int .i64 (x : Int), .int .i64 (y : Int)] then none else f z) (ty := ty) wayKeyed Try.underlying71 hk (by simp) (fun z hz => by simp [hz])
  refine ⟨w', g1, ⟨n, _, g2, fun a c ha hc => ?_⟩, g3⟩
  by_cases e : a = x ∧ c = y
  · obtain ⟨rfl, rfl⟩ := e
    simp
  · rw [if_neg (by intro hh; simp at hh; exact e ⟨by omega, by omega⟩)]
    simp only [if_neg e]
    exact h2 a c ha hc
/-- mail behind a pointer: its letters, the ways that are cut; all of it lies in S -/
structure Ml (S : Nat → Prop) (w : World) (b bm : Nat) (v : Value) (l : List Lt) (q : Nat → Nat → Bool) : Prop where
  c0 : w.cell? ⟨b, 0, none⟩ = some v
  c1 : w.cell? ⟨b, 1, none⟩ = some (.map (some bm))
  fz : ∀ j, w.frozen? ⟨b, j, none⟩ = false
  own : OwnL w v l
  cut : CutAt w bm q
  n0 : v.ownBlock ≠ some b
  n1 : v.ownBlock ≠ some bm
  n2 : bm ≠ b
  s0 : S b
  s1 : S bm
  s2 : ∀ c, v.ownBlock = some c → S c
  lt : ∀ c, S c → c < w.heap.size
def MlAt (S : Nat → Prop) (w : World) (b : Nat) (l : List Lt) (q : Nat → Nat → Bool) : Prop := ∃ bm v, Ml S w b bm v l q
/-- mail behind a call that turned it -/
def MlTo (S : Nat → Prop) (w w' : World) (b : Nat) (l : List Lt) (q : Nat → Nat → Bool) : Prop := Turn S w w' ∧ ∃ S', MlAt S' w' b l q ∧ ∀ c, S' c → S c ∨ w.heap.size ≤ c
theorem Ml.blocks {S : Nat → Prop} {w w' : World} {b bm : Nat} {v : Value} {l : List Lt} {q : Nat → Nat → Bool} (h : Ml S w b bm v l q) (hs : w.heap.size ≤ w'.heap.size) (hb : ∀ c, S c → w'.heap[c]? = w.heap[c]?) : Ml S w' b bm v l q :=
  ⟨(World.cell?_of_block (a := ⟨b, 0, none⟩) (hb b h.s0)).trans h.c0, (World.cell?_of_block (a := ⟨b, 1, none⟩) (hb b h.s0)).trans h.c1, fun j => (World.frozen?_of_block (a := ⟨b, j, none⟩) (hb b h.s0)).trans (h.fz j), h.own.blocks (fun c hc => hb c (h.s2 c hc)), h.cut.of_block (hb bm h.s1), h.n0, h.n1, h.n2, h.s0, h.s1, h.s2, fun c hc => Nat.lt_of_lt_of_le (h.lt c hc) hs⟩
theorem MlAt.blocks {S : Nat → Prop} {w w' : World} {b : Nat} {l : List Lt} {q : Nat → Nat → Bool} (h : MlAt S w b l q) (hs : w.heap.size ≤ w'.heap.size) (hb : ∀ c, S c → w'.heap[c]? = w.heap[c]?) : MlAt S w' b l q := by
  obtain ⟨bm, v, h1⟩ := h
  exact ⟨bm, v, h1.blocks hs hb⟩
theorem MlAt.lt {S : Nat → Prop} {w : World} {b : Nat} {l : List Lt} {q : Nat → Nat → Bool} (h : MlAt S w b l q) : ∀ c, S c → c < w.heap.size := by
  obtain ⟨bm, v, h1⟩ := h
  exact h1.lt
theorem MlAt.grown {S : Nat → Prop} {w w' : World} {b : Nat} {l : List Lt} {q : Nat → Nat → Bool} (h : MlAt S w b l q) (hb : Below w.heap.size w w') : MlAt S w' b l q := h.blocks hb.size fun c hc => hb.block c (h.lt c hc)
theorem MlAt.turn {S T : Nat → Prop} {w w' : World} {b : Nat} {l : List Lt} {q : Nat → Nat → Bool} (h : MlAt S w b l q) (ht : Turn T w w') (hd : ∀ c, S c → ¬ T c) : MlAt S w' b l q := h.blocks ht.size fun c hc => ht.block c (h.lt c hc) (hd c hc)
theorem MlAt.to {S : Nat → Prop} {w w' : World} {b : Nat} {l : List Lt} {q : Nat → Nat → Bool} (h : MlAt S w b l q) (hb : Below w.heap.size w w') : MlTo S w w' b l q := ⟨Turn.of_below hb, S, h.grown hb, fun c hc => .inl hc⟩
/-- a call that turned it, behind memory that grew, and ahead of memory that grows -/
theorem MlTo.after {S : Nat → Prop} {w w1 w' : World} {b : Nat} {l : List Lt} {q : Nat → Nat → Bool} (hb : Below w.heap.size w w1) (h : MlTo S w1 w' b l q) : MlTo S w w' b l q := by
  obtain ⟨ht, S', h1, h2⟩ := h
  have hs := hb.size
  refine ⟨(Turn.of_below hb).trans ht (fun c hc => .inl hc), S', h1, fun c hc => ?_⟩
  rcases h2 c hc with h | h
  · exact .inl h
  · exact .inr (by omega)
theorem MlTo.grown {S : Nat → Prop} {w w1 w' : World} {b : Nat} {l : List Lt} {q : Nat → Nat → Bool} (h : MlTo S w w1 b l q) (hb : Below w1.heap.size w1 w') : MlTo S w w' b l q := by
  obtain ⟨ht, S', h1, h2⟩ := h
  exact ⟨ht.trans (S' := S) (Turn.of_below hb) (fun c hc => .inl hc), S', h1.grown hb, h2⟩
end Go.Proofs.Ytbincnajklmnaaa
