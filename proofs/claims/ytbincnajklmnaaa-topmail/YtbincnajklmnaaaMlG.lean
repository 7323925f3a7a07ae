/-
  Package mail by its contracts: Give, Lose.
-/
import Derived.Test.YtbincnajklmnaaaMlC
namespace Go.Proofs.Ytbincnajklmnaaa
set_option linter.unusedVariables false
set_option linter.unusedSimpArgs false
open Go.RowKit

theorem Turn.then {S : Nat → Prop} {w w1 w' : World} (h : Turn S w w1) (hb : Below w.heap.size w1 w') : Turn S w w' :=
  ⟨hb.os.trans h.os, hb.tape.trans h.tape, hb.output.trans h.output, Nat.le_trans h.size hb.size, fun c hc hs => (hb.block c hc).trans (h.block c hc hs)⟩
theorem BoxL.other {w : World} {b : Nat} {f d k v a : Int} {g : Bool} {t : ByteArray} (h : BoxL w b f d k v a g t) (x : Addr) (hx : b ≠ x.block) (u : Value) : BoxL (w.setCell x u) b f d k v a g t := h.of_block (Below.heap_setCell _ _ _ b hx)
theorem mlGive_bad {w : World} {b n : Nat} {p : Option Addr} {cap : Nat} {i : Int} (h : w.cell? ⟨b, 0, none⟩ = some (.slice p n cap)) (hi : (decide (0 ≤ i) && decide (i < n)) = false) :
    Calls Try.prog 14 #[.pointer (some ⟨b, 0, none⟩), .int .i64 i] w fun e w' => e = .returned (.tuple #[.agg #[.int .i64 0, .int .i64 0, .int .i64 0, .int .i64 0, .int .i64 0, .bool false, .string ⟨#[]⟩], .iface 65 (.int .i64 1)]) ∧ Below w.heap.size w w' := by
  have HI : Hid ((decide (0 ≤ i) && decide (i < n)) = false) := hi
  have lb := World.block_lt_of_cell? w _ h
  have HC : Hid ((w.alloc (.cells #[.int .i64 0, .int .i64 0, .int .i64 0, .int .i64 0, .int .i64 0, .bool false, .string ⟨#[]⟩] 42)).cell? ⟨b, 0, none⟩ = some (.slice p n cap)) := (World.cell?_alloc_lt _ _ ⟨b, 0, none⟩ lb).trans h
  clear hi h
  go_enter Try.func14, Try.ntmps14
  go_wp2_with fail
  refine (mlHas_b HC.out HI.out).mono ?_
  rintro e w1 ⟨rfl, rfl⟩
  go_wp2_with fail
  refine bodyPost_ret (v := .tuple #[.agg #[.int .i64 0, .int .i64 0, .int .i64 0, .int .i64 0, .int .i64 0, .bool false, .string ⟨#[]⟩], .iface 65 (.int .i64 1)]) (by simp [results, Try.results14, go_sem]) rfl ?_
  exact ⟨rfl, by go_grown⟩
set_option maxHeartbeats 8000000 in
set_option maxRecDepth 100000 in
theorem mlGive_ok {S : Nat → Prop} {w : World} {b : Nat} {l : List Lt} {q : Nat → Nat → Bool} (i : Nat) (hi : i < l.length) (h : MlAt S w b l q) (f d k v a : Int) (g : Bool) (t : ByteArray) (hx : l[i] = ⟨f, d, ⟨k, v, a, g, t⟩⟩) :
    Calls Try.prog 14 #[.pointer (some ⟨b, 0, none⟩), .int .i64 i] w fun e w' => e = .returned (.tuple #[.agg #[.int .i64 f, .int .i64 d, .int .i64 k, .int .i64 v, .int .i64 a, .bool g, .string t], .nilIface]) ∧ MlTo S w w' b (l.eraseIdx i) q := by
  obtain ⟨bm, vv, h⟩ := h
  rcases h.own.2 with ⟨rfl, h0⟩ | ⟨G, cap, cur, rfl, _, hG, hc1, hc2, hc3, hc4⟩
  · omega
  have HM : Hid (Ml S w b bm (.slice (some ⟨G, 0, none⟩) l.length cap) l q) := h
  have HCur : Hid (cur.size = cap * 7) := hc3
  have HG : Hid (w.heap[G]? = some (.cells cur 42 (0, 0))) := hG
  have HX : Hid (l[i] = ⟨f, d, ⟨k, v, a, g, t⟩⟩) := hx
  have hGb : G ≠ b := fun e => h.n0 (by rw [← e]; rfl)
  have lG : G < w.heap.size := (Array.getElem?_eq_some_iff.1 hG).1
  have lb : b < w.heap.size := h.lt b h.s0
  have SG : Hid (S G) := h.s2 G rfl
  have HLt : Hid (LtAt w G (0 + i * 7) l[i]) := by
    obtain ⟨_, p, cap', e, hr⟩ := h.own.lts
    obtain ⟨b', o', e1, _, hat⟩ := hr (fun e => by simp [e] at hi)
    have e2 : some (⟨G, 0, none⟩ : Addr) = some ⟨b', o', none⟩ := by injection e with e3; rw [e3, e1]
    have e4 : b' = G ∧ o' = 0 := by simpa using e2.symm
    rw [← e4.1, ← e4.2]
    exact hat i hi
  rw [HX.out] at HLt
  clear hx hG hc3 hc4 h
  obtain ⟨n, HN⟩ : ∃ n, Hid (l.length = n) := ⟨_, rfl⟩
  rw [HN.out] at hc1
  have hin : i < n := by rw [← HN.out]; exact hi
  have hmax : cap ≤ 9223372036854775807 := hc2
  have hii : (i : Int) < (n : Int) := by omega
  have HI : Hid ((decide (0 ≤ (i : Int)) && decide ((i : Int) < (n : Int))) = true) := by show _ = true; simp; omega
  obtain ⟨w0, HW0⟩ : ∃ w0, Hid (w0 = w.alloc (.cells #[.int .i64 0, .int .i64 0, .int .i64 0, .int .i64 0, .int .i64 0, .bool false, .string ⟨#[]⟩] 42)) := ⟨_, rfl⟩
  have hs0 : w0.heap.size = w.heap.size + 1 := by rw [HW0.out]; simp
  have B0 : Hid (Below w.heap.size w w0) := by rw [HW0.out]; show Below _ _ _; go_grown
  have R0 : Hid (BoxL w0 w.heap.size 0 0 0 0 0 false ⟨#[]⟩) := by rw [HW0.out]; exact boxL_new w 0 0 0 0 0 false ⟨#[]⟩ _ rfl
  have C0 : Hid (w0.cell? ⟨b, 0, none⟩ = some (.slice (some ⟨G, 0, none⟩) n cap)) := by have := HM.out.c0; rw [HN.out] at this; exact (Turn.of_below (S := fun _ => False) B0.out).cell this id
  go_enter Try.func14, Try.ntmps14
  go_wp2_with fail
  rw [← HW0.out]
  refine (mlHas_b C0.out HI.out).mono ?_
  rintro e w1 ⟨rfl, rfl⟩
  have c0 := C0.out
  obtain ⟨x0, x1, x2, x3, x4, x5, x6⟩ := HLt.out.of_block (B0.out.block G lG)
  dsimp only at x0 x1 x2 x3 x4 x5 x6
  have lG0 : G < w0.heap.size := by omega
  have lb0 : b < w0.heap.size := by omega
  simp only [Nat.zero_add] at x0 x1 x2 x3 x4 x5 x6
  go_upto_region 4 with fail
  obtain ⟨w1, HW1⟩ : ∃ w1, w1 = w0.alloc (.cells #[.int .i64 f, .int .i64 d, .int .i64 k, .int .i64 v, .int .i64 a, .bool g, .string t] 42) := ⟨_, rfl⟩
  rw [← HW1]
  have hs1 : w1.heap.size = w.heap.size + 1 + 1 := by rw [HW1]; simp [hs0]
  have B1 : Hid (Below w.heap.size w w1) := by rw [HW1]; exact B0.out.alloc (by omega) _
  have R1 : Hid (BoxL w1 w.heap.size 0 0 0 0 0 false ⟨#[]⟩) := by rw [HW1]; exact R0.out.alloc _
  have X1 : Hid (BoxL w1 (w.heap.size + 1) f d k v a g t) := by rw [HW1]; exact boxL_new w0 f d k v a g t _ (by omega)
  clear HW1 c0 x0 x1 x2 x3 x4 x5 x6 C0 R0 B0 HW0 lG0 lb0 HI HLt
  have M1 : Hid (Ml S w1 b bm (.slice (some ⟨G, 0, none⟩) l.length cap) l q) := HM.out.blocks B1.out.size (fun c hc => B1.out.block c (HM.out.lt c hc))
  have c0 := M1.out.c0
  rw [HN.out] at c0
  have lb1 : b < w1.heap.size := by omega
  have HD : Hid (∀ j u, (rowL l)[j]? = some u → w1.cell? ⟨G, j, none⟩ = some u) := fun j u hu => by
    have := World.ownsRow.cells M1.out.own (g := G) rfl j u hu
    simpa [Addr.add_lit] using this
  go_wp2_with fail
  have hD := deleteL_c G cap i cur l w1 ((B1.out.block G lG).trans HG.out) HCur.out HD.out hi (by rw [HN.out]; exact hc1) hc2
  rw [HN.out] at hD
  refine hD.mono ?_
  rintro e w2 ⟨rfl, ho, ht⟩
  have HO2 : Hid (OwnL w2 (.slice (some ⟨G, 0, none⟩) (n - 1) cap) (l.eraseIdx i)) := ho
  have HT2 : Hid (Turn (fun c => c = G) w1 w2) := ht
  have c0' := ht.cell c0 (fun e => hGb e.symm)
  have fz' : w2.frozen? ⟨b, 0, none⟩ = false := (World.frozen?_of_block (a := ⟨b, 0, none⟩) (ht.block b lb1 (fun e => hGb e.symm))).trans (M1.out.fz 0)
  have hs2 := ht.size
  have lb2 : b < w2.heap.size := by omega
  clear hD ho ht c0 HD
  go_upto_region 5 with fail
  obtain ⟨w3, HW3⟩ : ∃ w3, w3 = w2.setCell ⟨b, 0, none⟩ (.slice (some ⟨G, 0, none⟩) (n - 1) cap) := ⟨_, rfl⟩
  rw [← HW3]
  have R3 : Hid (BoxL w3 w.heap.size 0 0 0 0 0 false ⟨#[]⟩) := by
    rw [HW3]
    exact (R1.out.of_block (HT2.out.block _ (by omega) (by omega))).other _ (by simp; omega) _
  have X3 : Hid (BoxL w3 (w.heap.size + 1) f d k v a g t) := by
    rw [HW3]
    exact (X1.out.of_block (HT2.out.block _ (by omega) (by omega))).other _ (by simp; omega) _
  have hs3 : w3.heap.size = w2.heap.size := by rw [HW3]; simp
  have T3 : Hid (Turn S w w3) := by
    rw [HW3]
    refine Turn.set ?_ b 0 HM.out.s0 _
    exact (Turn.of_below B1.out).trans HT2.out (fun c hc => .inl (by rw [hc]; exact SG.out))
  have M3 : Hid (Ml S w3 b bm (.slice (some ⟨G, 0, none⟩) (n - 1) cap) (l.eraseIdx i) q) := by
    have hm := M1.out
    have hbm : bm ≠ G := fun e => hm.n1 (by rw [e]; rfl)
    have hG : ∀ c, (Value.slice (some ⟨G, 0, none⟩) (n - 1) cap).ownBlock = some c → G = c := fun c hc => by simpa [Value.ownBlock] using hc
    have hown : ∀ c, (Value.slice (some ⟨G, 0, none⟩) (n - 1) cap).ownBlock = some c → S c := fun c hc => by
      rw [← hG c hc]
      exact SG.out
    rw [HW3]
    refine ⟨World.cell?_setCell_same _ _ _ c0', ?_, fun j => ?_, ?_, ?_, fun e => hGb (hG _ e), fun e => hbm (hG _ e).symm, hm.n2, hm.s0, hm.s1, fun c hc => hown c hc, fun c hc => ?_⟩
    · rw [World.cell?_setCell_other _ _ _ _ (by simp)]
      exact HT2.out.cell hm.c1 (fun e => hGb e.symm)
    · rw [World.frozen?_setCell]
      exact (World.frozen?_of_block (a := ⟨b, j, none⟩) (HT2.out.block b lb1 (fun e => hGb e.symm))).trans (hm.fz j)
    · exact HO2.out.blocks (fun c hc => Below.heap_setCell _ _ _ c (fun e => hGb ((hG c hc).trans e)))
    · refine hm.cut.of_block ?_
      rw [Below.heap_setCell _ _ _ bm (by simpa using hm.n2)]
      exact HT2.out.block bm hm.cut.lt (by simpa using hbm)
    · have := hm.lt c hc
      simp
      omega
  have LS : Hid (∀ c, S c → c < w.heap.size) := HM.out.lt
  clear HW3 c0' fz' HO2 HT2 M1 HM R1 X1
  obtain ⟨r0, r1, r2, r3, r4, r5, r6, rf⟩ := R3.out
  obtain ⟨x0, x1, x2, x3, x4, x5, x6, xf⟩ := X3.out
  have lR : w.heap.size < w3.heap.size := by omega
  have lX : w.heap.size + 1 < w3.heap.size := by omega
  go_wp2_with fail
  refine bodyPost_ret (v := .tuple #[.agg #[.int .i64 f, .int .i64 d, .int .i64 k, .int .i64 v, .int .i64 a, .bool g, .string t], .nilIface]) (by simp [results, Try.results14, go_sem, r0, r1, r2, r3, r4, r5, r6]) rfl ?_
  have hB : Below w.heap.size w3 (((((((w3.setCell ⟨w.heap.size, 0, none⟩ (.int .i64 f)).setCell ⟨w.heap.size, 1, none⟩ (.int .i64 d)).setCell ⟨w.heap.size, 2, none⟩ (.int .i64 k)).setCell ⟨w.heap.size, 3, none⟩ (.int .i64 v)).setCell ⟨w.heap.size, 4, none⟩ (.int .i64 a)).setCell ⟨w.heap.size, 5, none⟩ (.bool g)).setCell ⟨w.heap.size, 6, none⟩ (.string t)) := by
    refine Below.setCell (Below.setCell (Below.setCell (Below.setCell (Below.setCell (Below.setCell (Below.setCell (Below.refl _ _) ?_ _) ?_ _) ?_ _) ?_ _) ?_ _) ?_ _) ?_ _ <;> exact Nat.le_refl _
  exact ⟨rfl, T3.out.then hB, S, ⟨bm, _, M3.out.blocks hB.size (fun c hc => hB.block c (LS.out c hc))⟩, fun c hc => .inl hc⟩
theorem mlGive_err {S : Nat → Prop} {w : World} {b : Nat} {l : List Lt} {q : Nat → Nat → Bool} {i : Int} (h : MlAt S w b l q) (hi : (decide (0 ≤ i) && decide (i < l.length)) = false) :
    Calls Try.prog 14 #[.pointer (some ⟨b, 0, none⟩), .int .i64 i] w fun e w' => e = .returned (.tuple #[.agg #[.int .i64 0, .int .i64 0, .int .i64 0, .int .i64 0, .int .i64 0, .bool false, .string ⟨#[]⟩], .iface 65 (.int .i64 1)]) ∧ Below w.heap.size w w' := by
  obtain ⟨bm, v, h⟩ := h
  obtain ⟨p, cap, rfl⟩ := h.own.slice
  exact mlGive_bad h.c0 hi
/-- what Lose leaves -/
def loseL (l : List Lt) (i : Int) : List Lt := if (decide (0 ≤ i) && decide (i < l.length)) = true then l.eraseIdx i.toNat else l
def hasE (n : Nat) (i : Int) : Int := if (decide (0 ≤ i) && decide (i < n)) = true then 0 else 1
set_option maxHeartbeats 4000000 in
theorem mlLose_c {S : Nat → Prop} {w : World} {b : Nat} {l : List Lt} {q : Nat → Nat → Bool} (i : Int) (h : MlAt S w b l q) :
    Calls Try.prog 12 #[.pointer (some ⟨b, 0, none⟩), .int .i64 i] w fun e w' => e = .returned (eV (hasE l.length i)) ∧ MlTo S w w' b (loseL l i) q := by
  have HM : Hid (MlAt S w b l q) := h
  clear h
  cases hc : (decide (0 ≤ i) && decide (i < l.length))
  · have HC : Hid ((decide (0 ≤ i) && decide (i < l.length)) = false) := hc
    rw [hasE, hc, loseL, hc, if_neg (by simp), if_neg (by simp), eV, if_neg (by omega)]
    clear hc
    go_enter Try.func12, Try.ntmps12
    go_wp2_with fail
    refine (mlGive_err HM.out HC.out).mono ?_
    rintro e w1 ⟨rfl, hb⟩
    have B1 : Hid (Below w.heap.size w w1) := hb
    clear hb
    go_wp2_with fail
    go_ret
    refine ⟨rfl, HM.out.to ?_⟩
    have hb := B1.out
    have hs := B1.out.size
    go_grown
  · obtain ⟨n, rfl, hn⟩ : ∃ n : Nat, i = n ∧ n < l.length := by
      simp at hc
      exact ⟨i.toNat, by omega, by omega⟩
    rw [hasE, hc, loseL, hc, if_pos rfl, if_pos rfl, eV, if_pos rfl, Int.toNat_natCast]
    clear hc
    obtain ⟨⟨f, d, k, v, a, g, t⟩, HX⟩ : ∃ x, Hid (l[n] = x) := ⟨l[n], show l[n] = l[n] from rfl⟩
    go_enter Try.func12, Try.ntmps12
    go_wp2_with fail
    refine (mlGive_ok n hn HM.out f d k v a g t HX.out).mono ?_
    rintro e w1 ⟨rfl, hm⟩
    have M1 : Hid (MlTo S w w1 b (l.eraseIdx n) q) := hm
    clear hm
    go_wp2_with fail
    go_ret
    exact ⟨rfl, M1.out.grown (by go_grown)⟩
end Go.Proofs.Ytbincnajklmnaaa
