/-
  Package fresh by its contracts: Stale.
-/
import Derived.Test.YtbincnajklmnaaaFrG
import Derived.Deep.AppendLies
namespace Go.Proofs.Ytbincnajklmnaaa
set_option linter.unusedVariables false
set_option linter.unusedSimpArgs false
open Go.RowKit

/-- a slice that holds a row of numbers -/
def IntsIs (w : World) (v : Value) (l : List Int) : Prop :=
  l.length ≤ maxLen ∧ ∃ p cap, v = .slice p l.length cap ∧ (l ≠ [] → ∃ b o, p = some ⟨b, o, none⟩ ∧ b < w.heap.size ∧ ∀ j (h : j < l.length), w.cell? ⟨b, o + j, none⟩ = some (.int .i64 l[j]))
theorem IntsIs.blocks {w w' : World} {v : Value} {l : List Int} (h : IntsIs w v l) (hs : w.heap.size ≤ w'.heap.size) (hb : ∀ c, v.ownBlock = some c → c < w.heap.size → w'.heap[c]? = w.heap[c]?) : IntsIs w' v l := by
  obtain ⟨h0, p, cap, rfl, h1⟩ := h
  refine ⟨h0, p, cap, rfl, fun hn => ?_⟩
  obtain ⟨b, o, rfl, hlt, hc⟩ := h1 hn
  exact ⟨b, o, rfl, Nat.lt_of_lt_of_le hlt hs, fun j hj => (World.cell?_of_block (a := ⟨b, o + j, none⟩) (hb b rfl hlt)).trans (hc j hj)⟩
theorem IntsIs.below {w w' : World} {v : Value} {l : List Int} (h : IntsIs w v l) (hb : Below w.heap.size w w') : IntsIs w' v l :=
  h.blocks hb.size (fun c _ hc => hb.block c hc)
theorem IntsIs.nil (w : World) : IntsIs w (.slice none 0 0) [] := ⟨by simp, none, 0, rfl, fun h => absurd rfl h⟩
def intC (l : List Int) : List Value := l.map (Value.int .i64)
theorem IntsIs.own {w : World} {B : Nat} {v : Value} {l : List Int} (h : w.ownsRow B 3 1 v l.length (intC l)) : IntsIs w v l := by
  have hcell : ∀ g, v.ownBlock = some g → ∀ j u, (intC l)[j]? = some u → w.cell? ⟨g, j, none⟩ = some u := fun g hg j u hu => by
    have := h.cells (g := g) hg j u hu
    simpa [Addr.add_lit] using this
  rcases h.2 with ⟨rfl, h0⟩ | ⟨g, cap, cur, rfl, _, hg, hc1, hc2, _⟩
  · rw [List.length_eq_zero_iff.1 h0]
    exact IntsIs.nil w
  · refine ⟨Nat.le_trans hc1 hc2, _, cap, rfl, fun _ => ⟨g, 0, rfl, (Array.getElem?_eq_some_iff.1 hg).1, fun j hj => ?_⟩⟩
    have := hcell g rfl j (.int .i64 l[j]) (by simp [intC, List.getElem?_map, hj])
    simpa using this
theorem infoInt : (Try.prog.info? 3).map (fun i => (i.zero, i.size, i.bytes)) = some (some (.int .i64 0), 1, 8) := by kernel_rfl

theorem ownsRow_belowF {w w' : World} {B : Nat} {e : TypeId} {size : Nat} {v : Value} {n : Nat} {xs : List Value} (h : w.ownsRow B e size v n xs) (hb : Below w.heap.size w w') : w'.ownsRow B e size v n xs := by
  refine ⟨h.1, ?_⟩
  rcases h.2 with hn | ⟨g, cap, cur, rfl, h1, hg, rest⟩
  · exact .inl hn
  · exact .inr ⟨g, cap, cur, rfl, h1, (hb.block g (Array.getElem?_eq_some_iff.1 hg).1).trans hg, rest⟩
theorem ownsRow_fromF {w : World} {B : Nat} {e : TypeId} {size : Nat} {v : Value} {n : Nat} {xs : List Value} (h : w.ownsRow B e size v n xs) (c : Nat) (hc : v.ownBlock = some c) : B ≤ c := by
  rcases h.2 with ⟨rfl, _⟩ | ⟨g', cap, cur, rfl, h1, _⟩
  · cases hc
  · obtain rfl : g' = c := by simpa [Value.ownBlock] using hc
    exact h1
theorem below_grownF {B : Nat} {w w1 w' : World} {v : Value} (h : Below B w w1) (hB : B ≤ w.heap.size) (hg : w1.grownBy w' v.ownBlock) (hv : ∀ c, v.ownBlock = some c → B ≤ c) : Below B w w' :=
  h.trans ⟨hg.os, hg.tape, hg.output, hg.size, fun c hc => hg.block c (Nat.lt_of_lt_of_le hc (Nat.le_trans hB h.size)) (fun e => by have := hv c e.symm; omega)⟩
theorem intC_append (l m : List Int) : intC (l ++ m) = intC l ++ intC m := by simp [intC]
/-- a row of the call's own that holds numbers and one more -/
def OwnedMoreI (B : Nat) (w : World) (v : Value) (out : List Int) (e : Int) : Prop := w.ownsRow B 3 1 v (out ++ [e]).length (intC (out ++ [e]))
theorem wp_appI {ops : Array Oper} {rest : List Oper} {o : Oper} {ac : Act} {Q : Exit → Act → World → Prop} (w : World) (hgd : o.guard = none) (s x : Operand)
    (ho : o.op = .call { callee := .builtin .append, args := #[s, x], argTypes := #[32, 32] }) (B : Nat) (v : Value) (out : List Int) (e : Int) (hs : ac.eval s = v)
    (hown : w.ownsRow B 3 1 v out.length (intC out)) (vb : Nat) (hx : ac.eval x = .slice (some ⟨vb, 0, none⟩) 1 1) (hv : w.heap[vb]? = some (.cells #[.int .i64 e] 3 (0, 0))) (hl : out.length ≤ 100) (hB : B ≤ w.heap.size)
    (h : ∀ v' w', OwnedMoreI B w' v' out e → Hid (w.grownBy w' v.ownBlock) → wpList Try.prog ops Q rest (ac.put o.dst v') w') : wpList Try.prog ops Q (o :: rest) ac w := by
  obtain ⟨i0, hi0, hz0, hz1, hz2⟩ := info_parts infoInt
  have q3 : ∀ (u : Value), u ∈ [Value.int .i64 e] → u.oneCell' = true := fun u hu => by simp at hu; subst hu; rfl
  have q2 : ∀ (j : Nat) (u : Value), [Value.int .i64 e][j]? = some u → w.cell? ((⟨vb, 0, none⟩ : Addr).add j) = some u := World.news_of_block hv
  refine wpList_append_own w hgd s x 32 ho B 3 i0 _ 1 8 Try.underlying32 hi0 hz0 hz1 hz2 rfl (by omega) v out.length (intC out) hs hown ⟨vb, 0, none⟩ 1 1 [.int .i64 e] hx rfl q2 q3 (by unfold maxLen; omega) (by omega) hB ?_
  intro v' w' h1 h2 _
  refine h v' w' (show World.ownsRow _ _ _ _ _ _ _ from ?_) h2
  have hr : intC (out ++ [e]) = intC out ++ [.int .i64 e] := by simp [intC]
  rw [hr, List.length_append]
  exact h1

/-- the keys of what is older than a floor -/
def staleE (l : List En) (fl : Int) : List Int := (l.filter (fun e => decide (e.a < fl))).map (·.k)
theorem staleE_len (l : List En) (fl : Int) : (staleE l fl).length ≤ l.length := by
  rw [staleE, List.length_map]
  exact List.length_filter_le _ _
theorem staleE_yes {l : List En} {fl : Int} {j : Nat} (h : j < l.length) (ha : l[j].a < fl) : staleE (l.take (j + 1)) fl = staleE (l.take j) fl ++ [l[j].k] := by
  rw [List.take_succ_eq_append_getElem h, staleE, List.filter_append, List.map_append]
  simp [staleE, ha]
theorem staleE_no {l : List En} {fl : Int} {j : Nat} (h : j < l.length) (ha : ¬ l[j].a < fl) : staleE (l.take (j + 1)) fl = staleE (l.take j) fl := by
  rw [List.take_succ_eq_append_getElem h, staleE, List.filter_append, List.map_append]
  simp [staleE, ha]
/-- fresh.Stale, on lists -/
def freshStale (l : List En) (fl : Int) : List Int × Int :=
  if isSeqB fl = false then ([], 1) else if badL l ≠ 0 then ([], badL l) else (staleE l fl, 0)
def StaleIs (w : World) (xs : List Int) (n : Int) (e : Ending) (w' : World) : Prop := ∃ v', e = .returned (.tuple #[v', eV n]) ∧ IntsIs w' v' xs ∧ Below w.heap.size w w'

set_option maxHeartbeats 4000000 in
theorem freshStale_c (v : Value) (l : List En) (fl : Int) (w : World) (hr : RowIs w v l) :
    Calls Try.prog 24 #[v, .int .i64 fl] w (StaleIs w (freshStale l fl).1 (freshStale l fl).2) := by
  have HR : Hid (RowIs w v l) := hr
  clear hr
  cases hk : isSeqB fl
  · have HC : Hid (freshStale l fl = ([], 1)) := by
      show freshStale l fl = _
      rw [freshStale, if_pos hk]
    have HS : Hid (isSeqB fl = false) := hk
    clear hk
    rw [HC.out]
    go_enter Try.func24, Try.ntmps24
    go_wp2_with fail
    refine (isSeq_b HS.out _).mono ?_
    rintro e w ⟨rfl, rfl⟩
    go_wp2_with fail
    go_ret2
    exact ⟨.slice none 0 0, rfl, IntsIs.nil _, Below.refl _ _⟩
  · have HS : Hid (isSeqB fl = true) := hk
    clear hk
    by_cases hn : badL l = 0
    · have HG : Hid (GoodL l) := badL_good hn
      have HN0 : Hid (badL l = 0) := hn
      have HC : Hid (freshStale l fl = (staleE (l.take l.length) fl, 0)) := by
        show freshStale l fl = _
        rw [freshStale, if_neg (by rw [HS.out]; simp), if_neg (by simpa using hn), List.take_length]
      clear hn
      rw [HC.out]
      obtain ⟨hlen, p, cap, rfl, hrow⟩ := HR.out
      have HRow : Hid (l ≠ [] → ∃ b o, p = some ⟨b, o, none⟩ ∧ b < w.heap.size ∧ ∀ j (h : j < l.length), EnAt w b (o + j * 5) l[j]) := hrow
      clear hrow
      obtain ⟨n, HN⟩ : ∃ n, Hid (l.length = n) := ⟨_, rfl⟩
      rw [HN.out] at hlen HR ⊢
      have hn63 : n ≤ 9223372036854775807 := hlen
      go_enter Try.func24, Try.ntmps24
      go_wp2_with fail
      refine (isSeq_b HS.out _).mono ?_
      rintro e w ⟨rfl, rfl⟩
      go_wp2_with fail
      refine (cacheCheck_ok HR.out HN0.out).mono ?_
      rintro e w1 ⟨rfl, hb⟩
      have B1 : Hid (Below w.heap.size w w1) := hb
      clear hb
      go_wp2_with fail
      go_loopw [7, 21] (fun s7 s21 wr => ∃ (j : Nat) (v7 : Value), s7 = v7 ∧ j ≤ n ∧ s21 = .int .i64 j ∧ Hid (wr.ownsRow w.heap.size 3 1 v7 (staleE (l.take j) fl).length (intC (staleE (l.take j) fl))) ∧ Hid (Below w.heap.size w wr)) (fun _ i _ => n - (intOf i).toNat)
      case atStart => exact ⟨0, .slice none 0 0, rfl, Nat.zero_le _, rfl, World.ownsRow_nil _ _ _ _, B1⟩
      case round =>
        obtain ⟨j, v7, hs7, hj, rfl, HO, HB⟩ := hrel
        have hs7' := hs7.symm
        clear hs7
        subst hs7'
        by_cases hlt : j < n
        · have hjl : j < l.length := by rw [HN.out]; exact hlt
          obtain ⟨b, o, rfl, hbw, hat⟩ := HRow.out (fun h => by simp [h] at hjl)
          have HAt : Hid (EnAt wr b (o + j * 5) l[j]) := (hat j hjl).of_block (HB.out.block b hbw)
          clear hat
          have hbr : b < wr.heap.size := by have := HB.out.size; omega
          have hlti : (j : Int) < (n : Int) := by omega
          have hws := HB.out.size
          have HY : Hid (∀ ha : l[j].a < fl, staleE (l.take (j + 1)) fl = staleE (l.take j) fl ++ [l[j].k]) := fun ha => staleE_yes hjl ha
          have HNo : Hid (∀ ha : ¬ l[j].a < fl, staleE (l.take (j + 1)) fl = staleE (l.take j) fl) := fun ha => staleE_no hjl ha
          have HL : Hid ((staleE (l.take j) fl).length ≤ 8) := Nat.le_trans (staleE_len _ _) (Nat.le_trans (List.length_take_le _ _) (Nat.le_trans hj (by rw [← HN.out]; exact HG.out.len)))
          obtain ⟨x, HX⟩ : ∃ x, Hid (l[j] = x) := ⟨l[j], show l[j] = l[j] from rfl⟩
          rw [HX.out] at HAt HY HNo
          obtain ⟨x0, x1, x2, x3, x4⟩ := x
          obtain ⟨c0, c1, c2, c3, c4⟩ := HAt.out
          dsimp only at c0 c1 c2 c3 c4
          obtain ⟨xs, HXs⟩ : ∃ xs, Hid (staleE (l.take j) fl = xs) := ⟨_, rfl⟩
          rw [HXs.out] at HO HY HNo HL
          by_cases hf : x2 < fl
          · have HE : Hid (staleE (l.take (j + 1)) fl = xs ++ [x0]) := HY.out hf
            clear HY HNo
            have HOa : Hid (((wr.alloc (.cells #[.int .i64 x0, .int .i64 x1, .int .i64 x2, .bool x3, .string x4] 36)).alloc (.cells #[.int .i64 x0] 3)).ownsRow w.heap.size 3 1 v7 xs.length (intC xs)) := (HO.out.alloc _).alloc _
            have HVa : Hid (((wr.alloc (.cells #[.int .i64 x0, .int .i64 x1, .int .i64 x2, .bool x3, .string x4] 36)).alloc (.cells #[.int .i64 x0] 3)).heap[wr.heap.size + 1]? = some (.cells #[.int .i64 x0] 3 (0, 0))) := alloc_at _ _ _ (by simp)
            have HSa : Hid (w.heap.size ≤ ((wr.alloc (.cells #[.int .i64 x0, .int .i64 x1, .int .i64 x2, .bool x3, .string x4] 36)).alloc (.cells #[.int .i64 x0] 3)).heap.size) := show _ ≤ _ from (by simp; omega)
            have HLa : Hid (xs.length ≤ 100) := Nat.le_trans HL.out (by omega)
            have HBa : Hid (Below w.heap.size w ((wr.alloc (.cells #[.int .i64 x0, .int .i64 x1, .int .i64 x2, .bool x3, .string x4] 36)).alloc (.cells #[.int .i64 x0] 3))) := (HB.out.alloc hws _).alloc (by simp; omega) _
            go_wp2_with (at_builtin; refine wp_appI _ rfl _ _ rfl w.heap.size _ xs x0 rfl HOa.out _ rfl HVa.out HLa.out HSa.out ?_)
            intro va wa hown hgrow
            have HOp : Hid (wa.ownsRow w.heap.size 3 1 va (xs ++ [x0]).length (intC (xs ++ [x0]))) := hown
            have HBp : Hid (Below w.heap.size w wa) := below_grownF (HBa.out) (Nat.le_refl _) hgrow.out (fun c hc => ownsRow_fromF HO.out c hc)
            clear hown hgrow HOa HVa HLa HSa
            clear c0 c1 c2 c3 c4
            go_wp2_with fail
            go_roundw
            case rel =>
              refine ⟨j + 1, va, rfl, by omega, by go_num, ?_, HBp⟩
              show World.ownsRow _ _ _ _ _ _ _
              rw [HE.out]
              exact HOp.out
            case measure => simp [intOf]; omega
          · have HE : Hid (staleE (l.take (j + 1)) fl = xs) := HNo.out hf
            clear HY HNo
            go_wp2_with fail
            go_roundw
            case rel =>
              refine ⟨j + 1, v7, rfl, by omega, by go_num, ?_, ?_⟩
              · show World.ownsRow _ _ _ _ _ _ _
                rw [HE.out]
                exact HO.out.alloc _
              · exact HB.out.alloc hws _
            case measure => simp [intOf]; omega
        · obtain rfl : j = n := by omega
          go_wp2_with fail
          go_ret2
          exact ⟨v7, rfl, IntsIs.own HO.out, HB.out⟩
    · obtain ⟨n, HN⟩ : ∃ n, Hid (badL l = n) := ⟨_, rfl⟩
      have HC : Hid (freshStale l fl = ([], n)) := by
        show freshStale l fl = _
        rw [freshStale, if_neg (by rw [HS.out]; simp), if_pos hn, HN.out]
      rw [HN.out] at hn
      rw [HC.out]
      go_enter Try.func24, Try.ntmps24
      go_wp2_with fail
      refine (isSeq_b HS.out _).mono ?_
      rintro e w ⟨rfl, rfl⟩
      go_wp2_with fail
      refine (cacheCheck_err HR.out HN.out hn).mono ?_
      rintro e w1 ⟨rfl, hb⟩
      have B1 : Hid (Below w.heap.size w w1) := hb
      clear hb
      go_wp2_with fail
      go_ret2
      exact ⟨.slice none 0 0, by simp [eV, hn], IntsIs.nil _, B1.out⟩
end Go.Proofs.Ytbincnajklmnaaa
