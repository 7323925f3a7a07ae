/-
  Package rumor by its contracts: Pick.
-/
import Derived.Test.YtpelbmhhppcmeafRuT
import Derived.Test.YtpelbmhhppcmeafRuK
import Derived.Test.YtpelbmhhppcmeafRuE
namespace Go.Proofs.Ytpelbmhhppcmeaf
set_option linter.unusedVariables false
set_option linter.unusedSimpArgs false
open Go.RowKit

/-- what Pick answers -/
def pickR (l : List Ru) (many limit : Int) : List Mm × List Ru × Int := if badR l ≠ 0 then ([], [], badR l) else if (inR many 0 6 && inR limit 1 60) = false then ([], [], 1) else (toldR l many.toNat, leftR l many.toNat limit, 0)
theorem pickR_bad {l : List Ru} {a b n : Int} (h : badR l = n) (hn : n ≠ 0) : pickR l a b = ([], [], n) := by rw [pickR, if_pos (by rw [h]; exact hn), h]
theorem pickR_range {l : List Ru} {a b : Int} (h : badR l = 0) (hr : (inR a 0 6 && inR b 1 60) = false) : pickR l a b = ([], [], 1) := by rw [pickR, if_neg (by simpa using h), if_pos hr]
theorem pickR_ok {l : List Ru} {a b : Int} (h : badR l = 0) (hr : (inR a 0 6 && inR b 1 60) = true) : pickR l a b = (toldR l a.toNat, leftR l a.toNat b, 0) := by rw [pickR, if_neg (by simpa using h), if_neg (by rw [hr]; simp)]
theorem cont_got [Inhabited Ru] {l : List Ru} (hr : RiseR l) (k : Nat) {r : Ru} (hm : r ∈ l) : ((srtR l).take k).any (fun y => Ru.same r y) = gotR l k r := by
  have h := take_got hr k hm
  cases hg : gotR l k r
  · rw [List.any_eq_false]
    intro x hx hs
    rw [Ru.same_iff] at hs
    subst hs
    rw [h, hg] at hx
    cases hx
  · rw [List.any_eq_true]
    exact ⟨r, h.2 hg, (Ru.same_iff r r).2 rfl⟩
theorem ownsRow_other {w w' : World} {B : Nat} {e1 e2 : TypeId} {s1 s2 : Nat} {v1 v2 : Value} {n1 n2 : Nat} {xs1 xs2 : List Value} (h1 : w.ownsRow B e1 s1 v1 n1 xs1) (h2 : w.ownsRow B e2 s2 v2 n2 xs2) (hne : e1 ≠ e2) (hg : w.grownBy w' v2.ownBlock) : w'.ownsRow B e1 s1 v1 n1 xs1 := by
  refine ⟨h1.1, ?_⟩
  rcases h1.2 with hn | ⟨g, cap, cur, rfl, hB, hg1, rest⟩
  · exact .inl hn
  · refine .inr ⟨g, cap, cur, rfl, hB, (hg.block g (Array.getElem?_eq_some_iff.1 hg1).1 ?_).trans hg1, rest⟩
    intro hc
    rcases h2.2 with ⟨rfl, _⟩ | ⟨g', cap', cur', rfl, _, hg2, _⟩
    · cases hc
    · have e : g = g' := Option.some.inj hc
      subst e
      rw [hg1] at hg2
      simp at hg2
      exact hne hg2.2
theorem OwnM.beside {B : Nat} {w w' : World} {v u : Value} {l : List Mm} {m : List Ru} (h : OwnM B w v l) (h2 : OwnR B w u m) (hg : w.grownBy w' u.ownBlock) : OwnM B w' v l := ownsRow_other h h2 (by decide) hg
theorem OwnR.beside {B : Nat} {w w' : World} {v u : Value} {l : List Ru} {m : List Mm} (h : OwnR B w v l) (h2 : OwnM B w u m) (hg : w.grownBy w' u.ownBlock) : OwnR B w' v l := ownsRow_other h h2 (by decide) hg
/-- what was told of the first j -/
def toldTo (l : List Ru) (k j : Nat) : List Mm := ((l.take j).filter (gotR l k)).map Ru.m
/-- what is left of the first j -/
def leftTo (l : List Ru) (k : Nat) (limit : Int) (j : Nat) : List Ru := (l.take j).filterMap (fun r => bumpR (gotR l k r) limit r)
theorem toldTo_len (l : List Ru) (k j : Nat) : (toldTo l k j).length ≤ j := by
  unfold toldTo
  rw [List.length_map]
  exact Nat.le_trans (List.length_filter_le _ _) (by simp; omega)
theorem leftTo_len (l : List Ru) (k : Nat) (limit : Int) (j : Nat) : (leftTo l k limit j).length ≤ j := by
  unfold leftTo
  exact Nat.le_trans (List.length_filterMap_le _ _) (by simp; omega)
theorem toldTo_succ {l : List Ru} {k j : Nat} {x : Ru} {g : Bool} (hj : j < l.length) (hx : l[j] = x) (hg : gotR l k x = g) : toldTo l k (j + 1) = if g = true then toldTo l k j ++ [x.m] else toldTo l k j := by
  unfold toldTo
  rw [List.take_succ_eq_append_getElem hj, List.filter_append, List.map_append, hx]
  cases g
  · rw [List.filter_cons_of_neg (by rw [hg]; simp)]
    simp
  · rw [List.filter_cons_of_pos hg]
    simp
theorem leftTo_succ {l : List Ru} {k j : Nat} {limit : Int} {x : Ru} {g : Bool} (hj : j < l.length) (hx : l[j] = x) (hg : gotR l k x = g) : leftTo l k limit (j + 1) = leftTo l k limit j ++ (bumpR g limit x).toList := by
  unfold leftTo
  rw [List.take_succ_eq_append_getElem hj, List.filterMap_append, hx]
  congr 1
  rw [List.filterMap_cons, hg]
  cases bumpR g limit x <;> rfl
theorem ownsRow_keep {w w' : World} {B : Nat} {e : TypeId} {size : Nat} {v : Value} {n : Nat} {xs : List Value} (h : w.ownsRow B e size v n xs) (hb : ∀ c, v.ownBlock = some c → w'.heap[c]? = w.heap[c]?) : w'.ownsRow B e size v n xs := by
  refine ⟨h.1, ?_⟩
  rcases h.2 with hn | ⟨g, cap, cur, rfl, h1, hg, rest⟩
  · exact .inl hn
  · exact .inr ⟨g, cap, cur, rfl, h1, (hb g rfl).trans hg, rest⟩
set_option maxHeartbeats 8000000 in
theorem pick_ok (v : Value) (l : List Ru) (many limit : Int) (w : World) (hr : RusIs w v l) (hb : badR l = 0) (hm : inR many 0 6 = true) (hl : inR limit 1 60 = true) :
    Calls Try.prog 6 #[v, .int .i64 many, .int .i64 limit] w fun e w' => ∃ v1 v2, e = .returned (.tuple #[v1, v2, .nilIface]) ∧ OwnM w.heap.size w' v1 (toldR l many.toNat) ∧ OwnR w.heap.size w' v2 (leftR l many.toNat limit) ∧ Below w.heap.size w w' := by
  have inh : Inhabited Ru := ⟨⟨⟨0, 0, 0⟩, 0⟩⟩
  have HBd : Hid (badR l = 0) := hb
  have HG : Hid (GoodR l) := badR_good hb
  have HM : Hid (inR many 0 6 = true) := hm
  have HL : Hid (inR limit 1 60 = true) := hl
  have hm0 : 0 ≤ many ∧ many ≤ 6 := by simpa [inR] using hm
  obtain ⟨k, rfl⟩ : ∃ k : Nat, many = (k : Int) := ⟨many.toNat, by omega⟩
  rw [show ((k : Int)).toNat = k by omega]
  have h6 := goodR_len HG.out
  have HV : Hid (RusIs w v l) := hr
  obtain ⟨hlen, p, cap, rfl, hrow⟩ := hr
  have HRow : Hid (l ≠ [] → ∃ b o, p = some ⟨b, o, none⟩ ∧ b < w.heap.size ∧ ∀ j (h : j < l.length), RuAt w b (o + j * 4) l[j]) := hrow
  have HE1 : Hid (toldR l k = toldTo l k l.length) := by
    show _ = _
    unfold toldTo toldR
    rw [List.take_length]
  have HE2 : Hid (leftR l k limit = leftTo l k limit l.length) := by
    show _ = _
    unfold leftTo leftR
    rw [List.take_length]
  clear hrow hb hm hl
  obtain ⟨n, HN⟩ : ∃ n, Hid (l.length = n) := ⟨_, rfl⟩
  rw [HN.out] at h6 hlen HV HE1 HE2 ⊢
  go_enter Try.func6, Try.ntmps6
  go_wp2_with fail
  refine (rcheck_ok HV.out HBd.out).mono ?_
  rintro e w1 ⟨rfl, hb1⟩
  have B1 : Hid (Below w.heap.size w w1) := hb1
  clear hb1
  go_wp2_with fail
  refine (withinR_b k 0 6 true _ HM.out).mono ?_
  rintro e w1' ⟨rfl, hw⟩
  have hw' := hw.symm
  clear hw
  subst hw'
  go_wp2_with fail
  refine (withinR_b limit 1 60 true _ HL.out).mono ?_
  rintro e w1' ⟨rfl, hw⟩
  have hw' := hw.symm
  clear hw
  subst hw'
  go_wp2_with fail
  refine (least_c _ l k _ (HV.out.below B1.out) HG.out).mono ?_
  rintro e w3 ⟨v3, rfl, hr3, hb3⟩
  have HR3 : Hid (RusIs w3 v3 ((srtR l).take k)) := hr3
  have B3 : Hid (Below w.heap.size w w3) := B1.out.trans (hb3.mono B1.out.size)
  clear hr3 hb3
  go_wp2_with fail
  go_loopw [11, 12, 34] (fun s11 s12 s34 wr => ∃ (j : Nat) (v11 v12 : Value), s11 = v11 ∧ s12 = v12 ∧ s34 = .int .i64 j ∧ j ≤ n ∧ Hid (OwnM w3.heap.size wr v11 (toldTo l k j)) ∧ Hid (OwnR w3.heap.size wr v12 (leftTo l k limit j)) ∧ Hid (Below w3.heap.size w3 wr)) (fun _ _ i _ => n - (intOf i).toNat)
  case atStart => exact ⟨0, _, _, rfl, rfl, rfl, Nat.zero_le _, OwnM.nil _ _, OwnR.nil _ _, Below.refl _ _⟩
  case round =>
    obtain ⟨j, v11, v12, h11, h12, rfl, hj, HO1, HO2, HB⟩ := hrel
    have h11' := h11.symm
    clear h11
    subst h11'
    have h12' := h12.symm
    clear h12
    subst h12'
    by_cases hlt : j < n
    · have hl0 : l ≠ [] := by intro h; have := HN.out; rw [h] at this; simp at this; omega
      obtain ⟨b, o, rfl, hbw, hat⟩ := HRow.out hl0
      have hjl : j < l.length := by rw [HN.out]; exact hlt
      have HBw : Hid (Below w.heap.size w wr) := B3.out.trans (HB.out.mono B3.out.size)
      have HA : Hid (RuAt wr b (o + j * 4) l[j]) := (hat j hjl).of_block (HBw.out.block b hbw)
      clear hat
      have hws : w3.heap.size ≤ wr.heap.size := HB.out.size
      obtain ⟨x, HX⟩ : ∃ x, Hid (l[j] = x) := ⟨l[j], show l[j] = l[j] from rfl⟩
      have hmem : l[j] ∈ l := List.getElem_mem hjl
      rw [HX.out] at HA hmem
      have hxo := (Ru.ok_iff x).1 (HG.out.2 x hmem)
      obtain ⟨g, HGt⟩ : ∃ g, Hid (gotR l k x = g) := ⟨_, rfl⟩
      have HC : Hid (((srtR l).take k).any (fun y => Ru.same x y) = g) := (cont_got HG.out.1 k hmem).trans HGt.out
      have HS1 : Hid (toldTo l k (j + 1) = if g = true then toldTo l k j ++ [x.m] else toldTo l k j) := toldTo_succ hjl HX.out HGt.out
      have HS2 : Hid (leftTo l k limit (j + 1) = leftTo l k limit j ++ (bumpR g limit x).toList) := leftTo_succ hjl HX.out HGt.out
      have hl1 := toldTo_len l k j
      have hl2 := leftTo_len l k limit j
      clear hmem
      obtain ⟨⟨x0, x1, x2⟩, x3⟩ := x
      have hx3 : 0 ≤ x3 ∧ x3 ≤ 60 := hxo.2
      clear hxo
      obtain ⟨c0, c1, c2, c3⟩ := HA.out
      dsimp only at c0 c1 c2 c3
      have hlti : (j : Int) < (n : Int) := by omega
      obtain ⟨T, HT⟩ : ∃ T, Hid (toldTo l k j = T) := ⟨_, rfl⟩
      obtain ⟨L, HL'⟩ : ∃ L, Hid (leftTo l k limit j = L) := ⟨_, rfl⟩
      rw [HT.out] at HO1 HS1 hl1
      rw [HL'.out] at HO2 HS2 hl2
      go_upto_region 12 with fail
      obtain ⟨w4, HW4⟩ : ∃ x, x = wr.alloc (.cells #[.int .i64 x0, .int .i64 x1, .int .i64 x2, .int .i64 x3] 35) := ⟨_, rfl⟩
      rw [← HW4]
      have X4 : Hid (BoxR w4 wr.heap.size x0 x1 x2 x3) := by rw [HW4]; exact boxR_new wr x0 x1 x2 x3 _ rfl
      have HY4 : Hid (w4.heap[wr.heap.size]? = some (.cells #[.int .i64 x0, .int .i64 x1, .int .i64 x2, .int .i64 x3] 35 (0, 0))) := by rw [HW4]; exact alloc_at _ _ _ rfl
      have HB4 : Hid (Below w3.heap.size w3 w4) := by rw [HW4]; exact HB.out.alloc hws _
      have B44 : Hid (Below wr.heap.size wr w4) := by rw [HW4]; exact (Below.refl _ _).alloc (Nat.le_refl _) _
      clear HW4 c0 c1 c2 c3
      obtain ⟨d0, d1, d2, d3, df⟩ := X4.out
      go_wp2_with fail
      refine (containsR_c v3 ((srtR l).take k) x0 x1 x2 x3 g _ (HR3.out.below HB4.out) HC.out).mono ?_
      rintro e w5 ⟨rfl, hb5⟩
      have X5 : Hid (BoxR w5 wr.heap.size x0 x1 x2 x3) := X4.out.below hb5 X4.out.lt
      have HY5 : Hid (w5.heap[wr.heap.size]? = some (.cells #[.int .i64 x0, .int .i64 x1, .int .i64 x2, .int .i64 x3] 35 (0, 0))) := (hb5.block _ X4.out.lt).trans HY4.out
      have HB5 : Hid (Below w3.heap.size w3 w5) := HB4.out.trans (hb5.mono HB4.out.size)
      have B55 : Hid (Below wr.heap.size wr w5) := B44.out.trans (hb5.mono B44.out.size)
      have O51 : Hid (OwnM w3.heap.size w5 v11 T) := HO1.out.below B55.out
      have O52 : Hid (OwnR w3.heap.size w5 v12 L) := HO2.out.below B55.out
      have hlt1 : Hid (∀ c, v11.ownBlock = some c → c < wr.heap.size) := ownsRow_lt HO1.out
      have hlt2 : Hid (∀ c, v12.ownBlock = some c → c < wr.heap.size) := ownsRow_lt HO2.out
      clear hb5 d0 d1 d2 d3 df X4 HB4 B44 HO1 HO2
      obtain ⟨d0, d1, d2, d3, df⟩ := X5.out
      cases g
      · have HOa : Hid (OwnR w3.heap.size (w5.alloc (.cells #[.int .i64 x0, .int .i64 x1, .int .i64 x2, .int .i64 x3] 35)) v12 L) := O52.out.below ((Below.refl _ _).alloc (Nat.le_refl _) _)
        have HVa : Hid ((w5.alloc (.cells #[.int .i64 x0, .int .i64 x1, .int .i64 x2, .int .i64 x3] 35)).heap[w5.heap.size]? = some (.cells (Ru.cells ⟨⟨x0, x1, x2⟩, x3⟩).toArray 35 (0, 0))) := alloc_at _ _ _ rfl
        have HSa : Hid (w3.heap.size ≤ (w5.alloc (.cells #[.int .i64 x0, .int .i64 x1, .int .i64 x2, .int .i64 x3] 35)).heap.size) := show _ ≤ _ from (by have := HB5.out.size; simp; omega)
        have HOb : Hid (OwnM w3.heap.size (w5.alloc (.cells #[.int .i64 x0, .int .i64 x1, .int .i64 x2, .int .i64 x3] 35)) v11 T) := O51.out.below ((Below.refl _ _).alloc (Nat.le_refl _) _)
        go_wp2_with (at_builtin; refine wp_appR _ rfl _ _ rfl w3.heap.size _ L ⟨⟨x0, x1, x2⟩, x3⟩ rfl HOa.out _ rfl HVa.out (by omega) HSa.out ?_)
        intro va wa hown hgrow
        have HOp : Hid (OwnR w3.heap.size wa va (L ++ [⟨⟨x0, x1, x2⟩, x3⟩])) := hown
        have HOm : Hid (OwnM w3.heap.size wa v11 T) := HOb.out.beside HOa.out hgrow.out
        have HBp : Hid (Below w3.heap.size w3 wa) := below_grown (HB5.out.alloc HB5.out.size _) (Nat.le_refl _) hgrow.out (fun c hc => O52.out.from c hc)
        clear hown hgrow HOa HVa HSa HOb d0 d1 d2 d3 df
        go_wp2_with fail
        go_roundw
        case rel =>
          refine ⟨j + 1, _, _, rfl, rfl, by go_num, by omega, ?_, ?_, HBp⟩
          · rw [HS1.out, if_neg (by simp)]
            exact HOm
          · rw [HS2.out]
            exact HOp
        case measure => simp [intOf]; omega
      · have HOa : Hid (OwnM w3.heap.size (w5.alloc (.cells #[.int .i64 x0, .int .i64 x1, .int .i64 x2] 31)) v11 T) := O51.out.below ((Below.refl _ _).alloc (Nat.le_refl _) _)
        have HVa : Hid ((w5.alloc (.cells #[.int .i64 x0, .int .i64 x1, .int .i64 x2] 31)).heap[w5.heap.size]? = some (.cells (Mm.cells ⟨x0, x1, x2⟩).toArray 31 (0, 0))) := alloc_at _ _ _ rfl
        have HSa : Hid (w3.heap.size ≤ (w5.alloc (.cells #[.int .i64 x0, .int .i64 x1, .int .i64 x2] 31)).heap.size) := show _ ≤ _ from (by have := HB5.out.size; simp; omega)
        have HOb : Hid (OwnR w3.heap.size (w5.alloc (.cells #[.int .i64 x0, .int .i64 x1, .int .i64 x2] 31)) v12 L) := O52.out.below ((Below.refl _ _).alloc (Nat.le_refl _) _)
        go_wp2_with (at_builtin; refine wp_appM _ rfl _ _ rfl w3.heap.size _ T ⟨x0, x1, x2⟩ rfl HOa.out _ rfl HVa.out (by omega) HSa.out ?_)
        intro va wa hown hgrow
        have HOp : Hid (OwnM w3.heap.size wa va (T ++ [⟨x0, x1, x2⟩])) := hown
        have HOm : Hid (OwnR w3.heap.size wa v12 L) := HOb.out.beside HOa.out hgrow.out
        have HBp : Hid (Below w3.heap.size w3 wa) := below_grown (HB5.out.alloc HB5.out.size _) (Nat.le_refl _) hgrow.out (fun c hc => O51.out.from c hc)
        have Xa : Hid (BoxR wa wr.heap.size x0 x1 x2 x3) := (X5.out.alloc _).of_block (hgrow.out.block _ (by have := X5.out.lt; simp; omega) (fun h => by have := hlt1.out _ h.symm; omega))
        have HYa : Hid (wa.heap[wr.heap.size]? = some (.cells #[.int .i64 x0, .int .i64 x1, .int .i64 x2, .int .i64 x3] 35 (0, 0))) := ((hgrow.out.block _ (by have := X5.out.lt; simp; omega) (fun h => by have := hlt1.out _ h.symm; omega)).trans (Below.heap_alloc _ _ _ X5.out.lt)).trans HY5.out
        have HLa : Hid (∀ c, va.ownBlock = some c → c ≠ wr.heap.size) := by
          intro c hc hcw
          subst hcw
          rcases HOp.out.2 with ⟨rfl, _⟩ | ⟨g, cap', cur, rfl, _, hg, _⟩
          · cases hc
          · have e : g = wr.heap.size := Option.some.inj hc
            subst e
            rw [HYa.out] at hg
            simp at hg
        clear hown hgrow HOa HVa HSa HOb d0 d1 d2 d3 df O51 O52 HB5 B55
        obtain ⟨d0, d1, d2, d3, df⟩ := Xa.out
        have hwr : IntKind.i64.wrap (x3 + 1) = x3 + 1 := by rw [IntKind.wrap_i64]; omega
        go_upto_region 16 with fail
        obtain ⟨wb, HWb⟩ : ∃ x, x = wa.setCell ⟨wr.heap.size, 3, none⟩ (.int .i64 (x3 + 1)) := ⟨_, rfl⟩
        rw [← HWb]
        have Xb : Hid (BoxR wb wr.heap.size x0 x1 x2 (x3 + 1)) := by rw [HWb]; exact Xa.out.told _
        have HBb : Hid (Below w3.heap.size w3 wb) := by rw [HWb]; exact HBp.out.setCell hws _
        have Ob1 : Hid (OwnM w3.heap.size wb va (T ++ [⟨x0, x1, x2⟩])) := by
          rw [HWb]
          exact ownsRow_keep HOp.out (fun c hc => Below.heap_setCell _ _ _ c (HLa.out c hc))
        have Ob2 : Hid (OwnR w3.heap.size wb v12 L) := by
          rw [HWb]
          exact ownsRow_keep HOm.out (fun c hc => Below.heap_setCell _ _ _ c (by have := hlt2.out c hc; simp; omega))
        clear HWb d0 d1 d2 d3 df Xa HBp HOp HOm HLa HYa X5 HY5 HY4
        obtain ⟨d0, d1, d2, d3, df⟩ := Xb.out
        by_cases hlm : x3 + 1 < limit
        · have HS2' : Hid (leftTo l k limit (j + 1) = L ++ [⟨⟨x0, x1, x2⟩, x3 + 1⟩]) := by
            show _ = _
            rw [HS2.out, bumpR, if_pos rfl, if_neg (by dsimp only; omega)]
            rfl
          have HOa : Hid (OwnR w3.heap.size (wb.alloc (.cells #[.int .i64 x0, .int .i64 x1, .int .i64 x2, .int .i64 (x3 + 1)] 35)) v12 L) := Ob2.out.below ((Below.refl _ _).alloc (Nat.le_refl _) _)
          have HVa : Hid ((wb.alloc (.cells #[.int .i64 x0, .int .i64 x1, .int .i64 x2, .int .i64 (x3 + 1)] 35)).heap[wb.heap.size]? = some (.cells (Ru.cells ⟨⟨x0, x1, x2⟩, x3 + 1⟩).toArray 35 (0, 0))) := alloc_at _ _ _ rfl
          have HSa : Hid (w3.heap.size ≤ (wb.alloc (.cells #[.int .i64 x0, .int .i64 x1, .int .i64 x2, .int .i64 (x3 + 1)] 35)).heap.size) := show _ ≤ _ from (by have := HBb.out.size; simp; omega)
          have HOb : Hid (OwnM w3.heap.size (wb.alloc (.cells #[.int .i64 x0, .int .i64 x1, .int .i64 x2, .int .i64 (x3 + 1)] 35)) va (T ++ [⟨x0, x1, x2⟩])) := Ob1.out.below ((Below.refl _ _).alloc (Nat.le_refl _) _)
          go_wp2_with (at_builtin; refine wp_appR _ rfl _ _ rfl w3.heap.size _ L ⟨⟨x0, x1, x2⟩, x3 + 1⟩ rfl HOa.out _ rfl HVa.out (by omega) HSa.out ?_)
          intro vc wc hown hgrow
          have HOp : Hid (OwnR w3.heap.size wc vc (L ++ [⟨⟨x0, x1, x2⟩, x3 + 1⟩])) := hown
          have HOm : Hid (OwnM w3.heap.size wc va (T ++ [⟨x0, x1, x2⟩])) := HOb.out.beside HOa.out hgrow.out
          have HBp : Hid (Below w3.heap.size w3 wc) := below_grown (HBb.out.alloc HBb.out.size _) (Nat.le_refl _) hgrow.out (fun c hc => Ob2.out.from c hc)
          clear hown hgrow HOa HVa HSa HOb d0 d1 d2 d3 df
          go_wp2_with fail
          go_roundw
          case rel =>
            refine ⟨j + 1, _, _, rfl, rfl, by go_num, by omega, ?_, ?_, HBp⟩
            · rw [HS1.out, if_pos (by simp)]
              exact HOm
            · rw [HS2'.out]
              exact HOp
          case measure => simp [intOf]; omega
        · have HS2' : Hid (leftTo l k limit (j + 1) = L) := by
            show _ = _
            rw [HS2.out, bumpR, if_pos rfl, if_pos (by dsimp only; omega)]
            simp
          go_wp2_with fail
          go_roundw
          case rel =>
            refine ⟨j + 1, _, _, rfl, rfl, by go_num, by omega, ?_, ?_, HBb⟩
            · rw [HS1.out, if_pos (by simp)]
              exact Ob1
            · rw [HS2'.out]
              exact Ob2
          case measure => simp [intOf]; omega
    · obtain rfl : j = n := by omega
      go_wp2_with fail
      go_ret3
      refine ⟨_, _, rfl, ?_, ?_, B3.out.trans (HB.out.mono B3.out.size)⟩
      · rw [HE1.out]
        exact HO1.out.base B3.out.size
      · rw [HE2.out]
        exact HO2.out.base B3.out.size
set_option maxHeartbeats 4000000 in
theorem pick_c (v : Value) (l : List Ru) (many limit : Int) (w : World) (hr : RusIs w v l) :
    Calls Try.prog 6 #[v, .int .i64 many, .int .i64 limit] w fun e w' => ∃ v1 v2, e = .returned (.tuple #[v1, v2, eV (pickR l many limit).2.2]) ∧ OwnM w.heap.size w' v1 (pickR l many limit).1 ∧ OwnR w.heap.size w' v2 (pickR l many limit).2.1 ∧ Below w.heap.size w w' := by
  have HR : Hid (RusIs w v l) := hr
  by_cases hn : badR l = 0
  · have HN : Hid (badR l = 0) := hn
    cases h1 : inR many 0 6
    · have HM : Hid (inR many 0 6 = false) := h1
      have HP : Hid (pickR l many limit = ([], [], 1)) := pickR_range hn (by rw [h1]; rfl)
      rw [HP.out]
      clear hr hn h1
      go_enter Try.func6, Try.ntmps6
      go_wp2_with fail
      refine (rcheck_ok HR.out HN.out).mono ?_
      rintro e w1 ⟨rfl, hb1⟩
      have B1 : Hid (Below w.heap.size w w1) := hb1
      clear hb1
      go_wp2_with fail
      refine (withinR_b many 0 6 false _ HM.out).mono ?_
      rintro e w1' ⟨rfl, hw⟩
      have hw' := hw.symm
      clear hw
      subst hw'
      go_wp2_with fail
      go_ret3
      exact ⟨_, _, rfl, OwnM.nil _ _, OwnR.nil _ _, B1.out⟩
    · have HM : Hid (inR many 0 6 = true) := h1
      cases h2 : inR limit 1 60
      · have HL : Hid (inR limit 1 60 = false) := h2
        have HP : Hid (pickR l many limit = ([], [], 1)) := pickR_range hn (by rw [h2]; simp)
        rw [HP.out]
        clear hr hn h1 h2
        go_enter Try.func6, Try.ntmps6
        go_wp2_with fail
        refine (rcheck_ok HR.out HN.out).mono ?_
        rintro e w1 ⟨rfl, hb1⟩
        have B1 : Hid (Below w.heap.size w w1) := hb1
        clear hb1
        go_wp2_with fail
        refine (withinR_b many 0 6 true _ HM.out).mono ?_
        rintro e w1' ⟨rfl, hw⟩
        have hw' := hw.symm
        clear hw
        subst hw'
        go_wp2_with fail
        refine (withinR_b limit 1 60 false _ HL.out).mono ?_
        rintro e w1' ⟨rfl, hw⟩
        have hw' := hw.symm
        clear hw
        subst hw'
        go_wp2_with fail
        go_ret3
        exact ⟨_, _, rfl, OwnM.nil _ _, OwnR.nil _ _, B1.out⟩
      · rw [pickR_ok hn (by rw [h1, h2]; rfl)]
        have c := pick_ok v l many limit w hr hn h1 h2
        rw [← eV_zero] at c
        exact c
  · obtain ⟨n, HN⟩ : ∃ n, Hid (badR l = n) := ⟨_, rfl⟩
    rw [HN.out] at hn
    have HP : Hid (pickR l many limit = ([], [], n)) := pickR_bad HN.out hn
    rw [HP.out]
    clear hr
    go_enter Try.func6, Try.ntmps6
    go_wp2_with fail
    refine (rcheck_err HR.out HN.out hn).mono ?_
    rintro e w1 ⟨rfl, hb1⟩
    have B1 : Hid (Below w.heap.size w w1) := hb1
    clear hb1
    go_wp2_with fail
    go_ret3
    refine ⟨_, _, ?_, OwnM.nil _ _, OwnR.nil _ _, B1.out⟩
    show _ = Ending.returned (.tuple #[.slice none 0 0, .slice none 0 0, eV n])
    rw [eV_err hn]
    rfl
theorem pick_o {l : List Ru} {many limit : Int} {R1 : List Mm} {R2 : List Ru} {R3 : Int} (h : pickR l many limit = (R1, R2, R3)) (v : Value) (w : World) (hr : RusIs w v l) :
    Calls Try.prog 6 #[v, .int .i64 many, .int .i64 limit] w fun e w' => ∃ v1 v2, e = .returned (.tuple #[v1, v2, eV R3]) ∧ OwnM w.heap.size w' v1 R1 ∧ OwnR w.heap.size w' v2 R2 ∧ Below w.heap.size w w' := by
  have c := pick_c v l many limit w hr
  rw [h] at c
  exact c
end Go.Proofs.Ytpelbmhhppcmeaf
