/-
  Package hint by its contracts: split, over whatever function tells the same of the same.
-/
import Derived.Test.YtkhdeaegbkenfahHnW
import Derived.Test.YtkhdeaegbkenfahHiX
import Derived.BigQuiet
namespace Go.Proofs.Ytkhdeaegbkenfah
set_option linter.unusedVariables false
set_option linter.unusedSimpArgs false
open Go.RowKit

theorem filter_more (p : Hn → Bool) (l : List Hn) (j : Nat) (h : j < l.length) :
    (l.take (j + 1)).filter p = (l.take j).filter p ++ (if p l[j] = true then [l[j]] else []) ∧
    (l.take (j + 1)).filter (fun y => !p y) = (l.take j).filter (fun y => !p y) ++ (if p l[j] = true then [] else [l[j]]) := by
  rw [List.take_succ_eq_append_getElem h, List.filter_append, List.filter_append]
  cases hb : p l[j] <;> simp [hb]

set_option maxRecDepth 100000 in
set_option maxHeartbeats 16000000 in
theorem split_c (f : FuncId) (caps : Array Value) (v : Value) (l : List Hn) (p : Hn → Bool) (w : World) (hr : HnsIs w v l) (hl : l.length ≤ 2000)
    (eg : ∀ args w, (callFunc f args).run Try.prog w = .ok (.enter f args) w) (hf : ∀ j (h : j < l.length) w', Below w.heap.size w w' → Calls Try.prog f (#[l[j].val] ++ caps) w' fun e w'' => e = .returned (.bool (p l[j])) ∧ Below w'.heap.size w' w'') :
    Calls Try.prog 22 #[v, .func (.func f) #[] caps] w fun e w' => ∃ u1 u2, e = .returned (.tuple #[u1, u2]) ∧ TwoH w.heap.size w' u1 u2 (l.filter p) (l.filter (fun y => !p y)) ∧ Below w.heap.size w w' := by
  obtain ⟨hlen, pp, cap, rfl, hrow⟩ := hr
  have HRow : Hid (l ≠ [] → ∃ b o, pp = some ⟨b, o, none⟩ ∧ b < w.heap.size ∧ ∀ j (h : j < l.length), HnAt w b (o + j * 3) l[j]) := hrow
  have HF : Hid (∀ j (h : j < l.length) w', Below w.heap.size w w' → Calls Try.prog f (#[l[j].val] ++ caps) w' fun e w'' => e = .returned (.bool (p l[j])) ∧ Below w'.heap.size w' w'') := hf
  clear hrow hf
  obtain ⟨n, HN⟩ : ∃ n, Hid (l.length = n) := ⟨_, rfl⟩
  rw [HN.out] at hlen hl ⊢
  have hn63 : n ≤ 9223372036854775807 := hlen
  go_enter Try.func22, Try.ntmps22
  go_wp2_with fail
  go_loopw [4, 5, 10] (fun c4 c5 c10 wr => ∃ (j : Nat) (v4 v5 : Value), j ≤ n ∧ c4 = v4 ∧ c5 = v5 ∧ c10 = .int .i64 j ∧ Hid (TwoH w.heap.size wr v4 v5 ((l.take j).filter p) ((l.take j).filter (fun y => !p y))) ∧ Hid (Below w.heap.size w wr)) (fun _ _ c10 _ => n - (intOf c10).toNat)
  case atStart => exact ⟨0, _, _, Nat.zero_le _, rfl, rfl, rfl, ⟨OwnH.nil _ _, OwnH.nil _ _, fun c hc => by simp [Value.ownBlock] at hc⟩, Below.refl _ _⟩
  case round =>
    obtain ⟨j, v4, v5, hj, hs4, hs5, rfl, HTw, HB⟩ := hrel
    have hs4' := hs4.symm
    clear hs4
    subst hs4'
    have hs5' := hs5.symm
    clear hs5
    subst hs5'
    by_cases hlt : j < n
    · have hlti : (j : Int) < (n : Int) := by omega
      have hjl : j < l.length := by rw [HN.out]; exact hlt
      obtain ⟨b, o, rfl, hbw, hat⟩ := HRow.out (fun h => by simp [h] at hjl)
      have HAt : Hid (HnAt wr b (o + j * 3) l[j]) := (hat j hjl).of_block (HB.out.block b hbw)
      have HC : Hid (∀ W, Below w.heap.size w W → Calls Try.prog f (#[l[j].val] ++ caps) W fun e w'' => e = .returned (.bool (p l[j])) ∧ Below W.heap.size W w'') := fun W hW => HF.out j hjl W hW
      have hm := filter_more p l j hjl
      clear hat
      obtain ⟨y, HY⟩ : ∃ y, Hid (l[j] = y) := ⟨l[j], show l[j] = l[j] from rfl⟩
      rw [HY.out] at HAt HC hm
      obtain ⟨y0, y1, y2⟩ := y
      obtain ⟨c0, c1, c2⟩ := HAt.out
      dsimp only at c0 c1 c2
      have hsz : w.heap.size ≤ wr.heap.size := HB.out.size
      obtain ⟨la, HLa⟩ : ∃ x, Hid ((l.take j).filter p = x) := ⟨_, rfl⟩
      obtain ⟨lb, HLb⟩ : ∃ x, Hid ((l.take j).filter (fun y => !p y) = x) := ⟨_, rfl⟩
      have HLn : Hid (la.length ≤ 2000 ∧ lb.length ≤ 2000) := by
        have e1 : ((l.take j).filter p).length ≤ (l.take j).length := List.length_filter_le _ _
        have e2 : ((l.take j).filter (fun y => !p y)).length ≤ (l.take j).length := List.length_filter_le _ _
        rw [List.length_take, HN.out] at e1 e2
        rw [← HLa.out, ← HLb.out]
        exact ⟨by omega, by omega⟩
      rw [HLa.out, HLb.out] at HTw
      rw [HLa.out, HLb.out] at hm
      have HB4 : Hid (Below w.heap.size w (wr.alloc (.cells #[.int .i64 y0, .int .i64 y1, .int .i64 y2] 39))) := HB.out.alloc hsz _
      have HTw4 : Hid (TwoH w.heap.size (wr.alloc (.cells #[.int .i64 y0, .int .i64 y1, .int .i64 y2] 39)) v4 v5 la lb) := HTw.out.below (by go_grown)
      have HBx : Hid (BoxH (wr.alloc (.cells #[.int .i64 y0, .int .i64 y1, .int .i64 y2] 39)) wr.heap.size y0 y1 y2) := boxH_new wr y0 y1 y2 wr.heap.size rfl
      clear HB HTw HLa HLb
      cases hp : p ⟨y0, y1, y2⟩
      · rw [hp] at hm HC
        have HM1 : Hid ((l.take (j + 1)).filter p = la) := hm.1.trans (by simp)
        have HM2 : Hid ((l.take (j + 1)).filter (fun y => !p y) = lb ++ [⟨y0, y1, y2⟩]) := hm.2.trans (by simp)
        clear hm hp
        go_wp2_with fail
        refine Calls.mono (HC.out _ HB4.out) ?_
        rintro e w1 ⟨rfl, hb⟩
        have B1 : Hid (Below w.heap.size w w1) := HB4.out.trans (hb.mono HB4.out.size)
        have HTw5 : Hid (TwoH w.heap.size w1 v4 v5 la lb) := HTw4.out.below hb
        have HBx5 : Hid (BoxH w1 wr.heap.size y0 y1 y2) := HBx.out.below hb HBx.out.lt
        have hsz1 : w.heap.size ≤ w1.heap.size := B1.out.size
        clear hb c0 c1 c2 HB4 HTw4 HBx
        obtain ⟨c0, c1, c2, cf⟩ := HBx5.out
        have HB6 : Hid (Below w.heap.size w (w1.alloc (.cells #[.int .i64 y0, .int .i64 y1, .int .i64 y2] 39))) := B1.out.alloc hsz1 _
        have HTw6 : Hid (TwoH w.heap.size (w1.alloc (.cells #[.int .i64 y0, .int .i64 y1, .int .i64 y2] 39)) v4 v5 la lb) := HTw5.out.below (by go_grown)
        have HV6 : Hid ((w1.alloc (.cells #[.int .i64 y0, .int .i64 y1, .int .i64 y2] 39)).heap[w1.heap.size]? = some (.cells (Hn.cells ⟨y0, y1, y2⟩).toArray 39 (0, 0))) := alloc_at _ _ _ rfl
        have HS6 : Hid (w.heap.size ≤ (w1.alloc (.cells #[.int .i64 y0, .int .i64 y1, .int .i64 y2] 39)).heap.size) := by
          show _ ≤ _
          simp
          omega
        go_wp2_with (at_builtin; refine wp_appHat _ rfl _ _ rfl w.heap.size _ lb ⟨y0, y1, y2⟩ rfl HTw6.out.b _ rfl HV6.out HLn.out.2 HS6.out ?_)
        intro va wa hown hgrow hloc
        have HTw7 : Hid (TwoH w.heap.size wa v4 va ((l.take (j + 1)).filter p) ((l.take (j + 1)).filter (fun y => !p y))) := by rw [HM1.out, HM2.out]; exact HTw6.out.right hown hgrow.out (by simpa using hloc.out)
        have HB7 : Hid (Below w.heap.size w wa) := below_grown HB6.out (Nat.le_refl _) hgrow.out (fun c hc => HTw6.out.b.from c hc)
        clear hown hgrow hloc c0 c1 c2 cf
        go_wp2_with fail
        go_roundw
        case rel => exact ⟨j + 1, _, va, by omega, rfl, rfl, by go_num, HTw7, HB7⟩
        case measure => simp [intOf]; omega
      · rw [hp] at hm HC
        have HM1 : Hid ((l.take (j + 1)).filter p = la ++ [⟨y0, y1, y2⟩]) := hm.1.trans (by simp)
        have HM2 : Hid ((l.take (j + 1)).filter (fun y => !p y) = lb) := hm.2.trans (by simp)
        clear hm hp
        go_wp2_with fail
        refine Calls.mono (HC.out _ HB4.out) ?_
        rintro e w1 ⟨rfl, hb⟩
        have B1 : Hid (Below w.heap.size w w1) := HB4.out.trans (hb.mono HB4.out.size)
        have HTw5 : Hid (TwoH w.heap.size w1 v4 v5 la lb) := HTw4.out.below hb
        have HBx5 : Hid (BoxH w1 wr.heap.size y0 y1 y2) := HBx.out.below hb HBx.out.lt
        have hsz1 : w.heap.size ≤ w1.heap.size := B1.out.size
        clear hb c0 c1 c2 HB4 HTw4 HBx
        obtain ⟨c0, c1, c2, cf⟩ := HBx5.out
        have HB6 : Hid (Below w.heap.size w (w1.alloc (.cells #[.int .i64 y0, .int .i64 y1, .int .i64 y2] 39))) := B1.out.alloc hsz1 _
        have HTw6 : Hid (TwoH w.heap.size (w1.alloc (.cells #[.int .i64 y0, .int .i64 y1, .int .i64 y2] 39)) v4 v5 la lb) := HTw5.out.below (by go_grown)
        have HV6 : Hid ((w1.alloc (.cells #[.int .i64 y0, .int .i64 y1, .int .i64 y2] 39)).heap[w1.heap.size]? = some (.cells (Hn.cells ⟨y0, y1, y2⟩).toArray 39 (0, 0))) := alloc_at _ _ _ rfl
        have HS6 : Hid (w.heap.size ≤ (w1.alloc (.cells #[.int .i64 y0, .int .i64 y1, .int .i64 y2] 39)).heap.size) := by
          show _ ≤ _
          simp
          omega
        go_wp2_with (at_builtin; refine wp_appHat _ rfl _ _ rfl w.heap.size _ la ⟨y0, y1, y2⟩ rfl HTw6.out.a _ rfl HV6.out HLn.out.1 HS6.out ?_)
        intro va wa hown hgrow hloc
        have HTw7 : Hid (TwoH w.heap.size wa va v5 ((l.take (j + 1)).filter p) ((l.take (j + 1)).filter (fun y => !p y))) := by rw [HM1.out, HM2.out]; exact HTw6.out.left hown hgrow.out (by simpa using hloc.out)
        have HB7 : Hid (Below w.heap.size w wa) := below_grown HB6.out (Nat.le_refl _) hgrow.out (fun c hc => HTw6.out.a.from c hc)
        clear hown hgrow hloc c0 c1 c2 cf
        go_wp2_with fail
        go_roundw
        case rel => exact ⟨j + 1, va, _, by omega, rfl, rfl, by go_num, HTw7, HB7⟩
        case measure => simp [intOf]; omega
    · obtain rfl : j = n := by omega
      have hts : l.take j = l := List.take_of_length_le (by rw [HN.out]; exact Nat.le_refl _)
      rw [hts] at HTw
      clear hts
      go_wp2_with fail
      go_ret2
      exact ⟨v4, v5, rfl, HTw.out, HB.out⟩
end Go.Proofs.Ytkhdeaegbkenfah
