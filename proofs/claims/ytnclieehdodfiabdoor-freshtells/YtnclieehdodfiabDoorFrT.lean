/-
  Package fresh by its contracts: Touch.
-/
import Derived.Test.YtnclieehdodfiabDoorFrX
import Derived.Test.YtnclieehdodfiabDoorFrD
import Derived.Test.YtnclieehdodfiabDoorPut
namespace Go.Proofs.YtnclieehdodfiabDoor
set_option linter.unusedVariables false
set_option linter.unusedSimpArgs false
open Go.RowKit Go.Lib

/-- what is left of a cache when somebody who knows says so -/
def touchE (l : List En) (e : En) (m : Nat) (ver seq : Int) : List En := if e.v < ver then l.eraseIdx m else l.set m ⟨e.k, e.v, max e.a seq, e.g, e.t⟩
def saysB (ver seq : Int) : Bool := decide (0 ≤ ver) && (decide (ver ≤ seq) && isSeqB seq)
/-- fresh.Touch, on lists -/
def freshTouch (l : List En) (key ver seq : Int) : List En × Int :=
  if (cacheGet l key).2 ≠ 0 then ([], (cacheGet l key).2) else if saysB ver seq = false then ([], 1)
  else if deniesB (cacheGet l key).1.v (cacheGet l key).1.a ver = true then ([], 7) else (touchE l (cacheGet l key).1 (placeE l key) ver seq, 0)
def TouchIs (w : World) (xs : List En) (n : Int) (e : Ending) (w' : World) : Prop := ∃ v', e = .returned (.tuple #[v', eV n]) ∧ RowIs w' v' xs ∧ Below w.heap.size w w'

theorem cacheGet_ok {l : List En} {key : Int} {x : En} (h : cacheGet l key = (x, 0)) : GoodL l ∧ isKeyB key = true ∧ getE l key = some x := by
  unfold cacheGet at h
  split at h
  · rename_i hb
    rw [Prod.mk.injEq] at h
    exact absurd h.2 hb
  · rename_i hb
    split at h
    · rw [Prod.mk.injEq] at h
      exact absurd h.2 (by decide)
    · rename_i hk
      have hg : badL l = 0 := by simpa using hb
      refine ⟨badL_good hg, by simpa using hk, ?_⟩
      cases hq : getE l key with
      | none => rw [hq] at h; rw [Prod.mk.injEq] at h; exact absurd h.2 (by decide)
      | some y => rw [hq] at h; rw [Prod.mk.injEq] at h; rw [h.1]

theorem denies_o {k v a : Int} {g : Bool} {t : ByteArray} {ver : Int} {b : Bool} (h : deniesB v a ver = b) (w : World) :
    Calls Tryd.prog 31 #[.agg #[.int .i64 k, .int .i64 v, .int .i64 a, .bool g, .string t], .int .i64 ver] w fun e w' => e = .returned (.bool b) ∧ Below w.heap.size w w' := by
  subst h
  exact denies_c k v a g t ver w
theorem isSeq_d {k : Int} {b : Bool} (h : isSeqB k = b) (w : World) : Calls Tryd.prog 30 #[.int .i64 k] w fun e w' => e = .returned (.bool b) ∧ Below w.heap.size w w' := by
  refine (isSeq_b h w).mono ?_
  rintro e w' ⟨rfl, rfl⟩
  exact ⟨rfl, Below.refl _ _⟩
theorem same_low {x y : En} (h : y.k < x.k) : x.same y = false := by
  have : (x.k == y.k) = false := by simp; omega
  simp [En.same, this]

theorem en_other {w : World} {g o p : Nat} {e : En} {u : Value} (h : EnAt w g o e) (hp : p < o ∨ o + 4 < p) : EnAt (w.setCell ⟨g, p, none⟩ u) g o e := by
  obtain ⟨c0, c1, c2, c3, c4⟩ := h
  refine ⟨?_, ?_, ?_, ?_, ?_⟩
  · rw [World.cell?_setCell_other _ _ _ _ (fun h => by have := congrArg Addr.off h; simp at this; omega)]; exact c0
  · rw [World.cell?_setCell_other _ _ _ _ (fun h => by have := congrArg Addr.off h; simp at this; omega)]; exact c1
  · rw [World.cell?_setCell_other _ _ _ _ (fun h => by have := congrArg Addr.off h; simp at this; omega)]; exact c2
  · rw [World.cell?_setCell_other _ _ _ _ (fun h => by have := congrArg Addr.off h; simp at this; omega)]; exact c3
  · rw [World.cell?_setCell_other _ _ _ _ (fun h => by have := congrArg Addr.off h; simp at this; omega)]; exact c4
theorem en_time {w : World} {g o : Nat} {e : En} (A : Int) (h : EnAt w g o e) : EnAt (w.setCell ⟨g, o + 2, none⟩ (.int .i64 A)) g o ⟨e.k, e.v, A, e.g, e.t⟩ := by
  obtain ⟨c0, c1, c2, c3, c4⟩ := h
  refine ⟨?_, ?_, ?_, ?_, ?_⟩
  · rw [World.cell?_setCell_other _ _ _ _ (fun h => by have := congrArg Addr.off h; simp at this)]; exact c0
  · rw [World.cell?_setCell_other _ _ _ _ (fun h => by have := congrArg Addr.off h; simp at this)]; exact c1
  · exact World.cell?_setCell_same _ _ _ c2
  · rw [World.cell?_setCell_other _ _ _ _ (fun h => by have := congrArg Addr.off h; simp at this)]; exact c3
  · rw [World.cell?_setCell_other _ _ _ _ (fun h => by have := congrArg Addr.off h; simp at this)]; exact c4
theorem row_touch {w : World} {g cap : Nat} {l : List En} {m : Nat} {x : En} (A : Int) (hr : RowIs w (.slice (some ⟨g, 0, none⟩) l.length cap) l) (hm : m < l.length) (hx : l[m] = x) :
    RowIs (w.setCell ⟨g, m * 5 + 2, none⟩ (.int .i64 A)) (.slice (some ⟨g, 0, none⟩) l.length cap) (l.set m ⟨x.k, x.v, A, x.g, x.t⟩) := by
  obtain ⟨hl, p, c, he, hc⟩ := hr
  injection he with hp _ hcc
  subst hp
  obtain ⟨b, o, hb, hbw, hat⟩ := hc (fun h => by simp [h] at hm)
  injection hb with hb
  injection hb with hb1 hb2
  subst hb1
  subst hb2
  refine ⟨by simpa using hl, _, cap, by rw [List.length_set], fun _ => ⟨g, 0, rfl, by rw [World.size_setCell]; exact hbw, fun j hj => ?_⟩⟩
  have hj' : j < l.length := by simpa using hj
  by_cases hjm : j = m
  · subst hjm
    rw [List.getElem_set_self]
    have := hat j hj'
    rw [hx, Nat.zero_add] at this
    rw [Nat.zero_add]
    exact en_time A this
  · rw [List.getElem_set_ne (fun h => hjm h.symm)]
    exact en_other (hat j hj') (by omega)

set_option maxHeartbeats 4000000 in
theorem freshTouch_c (v : Value) (l : List En) (key ver seq : Int) (w : World) (hr : RowIs w v l) :
    Calls Tryd.prog 21 #[v, .int .i64 key, .int .i64 ver, .int .i64 seq] w (TouchIs w (freshTouch l key ver seq).1 (freshTouch l key ver seq).2) := by
  have HR : Hid (RowIs w v l) := hr
  clear hr
  obtain ⟨⟨x0, x1, x2, x3, x4⟩, n, HG⟩ : ∃ x n, Hid (cacheGet l key = (x, n)) := ⟨_, _, rfl⟩
  by_cases hn : n = 0
  · subst hn
    obtain ⟨hgood, hkey, hget⟩ := cacheGet_ok HG.out
    have HGd : Hid (GoodL l) := hgood
    have HGet : Hid (getE l key = some ⟨x0, x1, x2, x3, x4⟩) := hget
    clear hgood hkey hget
    cases hs : saysB ver seq
    · have HC : Hid (freshTouch l key ver seq = ([], 1)) := by
        show freshTouch l key ver seq = _
        rw [freshTouch, HG.out, if_neg (by simp), if_pos hs]
      rw [HC.out]
      clear HC
      by_cases h0 : ver < 0
      · have hd0 : decide (ver < 0) = true := by simpa using h0
        clear hs
        go_enter Tryd.func21, Tryd.ntmps21
        go_wp2_with fail
        refine (getF_ok HG.out _ _ HR.out).mono ?_
        rintro e w1 ⟨rfl, hb⟩
        have B1 : Hid (Below w.heap.size w w1) := hb
        have hle := hb.size
        clear hb
        go_wp2_with fail
        go_ret2
        exact ⟨.slice none 0 0, rfl, RowIs.nil _, by have hb := B1.out; go_grown⟩
      · by_cases h1 : seq < ver
        · have hd0 : decide (ver < 0) = false := by simpa using h0
          have hd1 : decide (seq < ver) = true := by simpa using h1
          clear hs
          go_enter Tryd.func21, Tryd.ntmps21
          go_wp2_with fail
          refine (getF_ok HG.out _ _ HR.out).mono ?_
          rintro e w1 ⟨rfl, hb⟩
          have B1 : Hid (Below w.heap.size w w1) := hb
          have hle := hb.size
          clear hb
          go_wp2_with fail
          go_ret2
          exact ⟨.slice none 0 0, rfl, RowIs.nil _, by have hb := B1.out; go_grown⟩
        · have HS : Hid (isSeqB seq = false) := by
            show _ = _
            have e0 : (0 : Int) ≤ ver := by omega
            have e1 : ver ≤ seq := by omega
            simpa [saysB, e0, e1] using hs
          have hd0 : decide (ver < 0) = false := by simpa using h0
          have hd1 : decide (seq < ver) = false := by simpa using h1
          clear hs
          go_enter Tryd.func21, Tryd.ntmps21
          go_wp2_with fail
          refine (getF_ok HG.out _ _ HR.out).mono ?_
          rintro e w1 ⟨rfl, hb⟩
          have B1 : Hid (Below w.heap.size w w1) := hb
          have hle := hb.size
          clear hb
          go_wp2_with fail
          refine (isSeq_d HS.out _).mono ?_
          rintro e w2 ⟨rfl, hb⟩
          have B2 : Hid (Below w.heap.size w w2) := (B1.out.alloc hle _).trans (hb.mono (by simp; omega))
          clear hb
          go_wp2_with fail
          go_ret2
          exact ⟨.slice none 0 0, rfl, RowIs.nil _, B2.out⟩
    · have hs0 : 0 ≤ ver := by simp [saysB] at hs; exact hs.1
      have hs1 : ver ≤ seq := by simp [saysB] at hs; exact hs.2.1
      have HS : Hid (isSeqB seq = true) := by show _ = _; simp [saysB] at hs; exact hs.2.2
      have hs2 : decide (ver < 0) = false := by simpa using hs0
      have hs3 : decide (seq < ver) = false := by simpa using hs1
      cases hd : deniesB x1 x2 ver
      · have HD : Hid (deniesB x1 x2 ver = false) := hd
        have HC : Hid (freshTouch l key ver seq = (touchE l ⟨x0, x1, x2, x3, x4⟩ (placeE l key) ver seq, 0)) := by
          show freshTouch l key ver seq = _
          rw [freshTouch, HG.out, if_neg (by simp), if_neg (by rw [hs]; simp), if_neg (by simp [hd])]
        obtain ⟨T, HTt⟩ : ∃ T, Hid (touchE l ⟨x0, x1, x2, x3, x4⟩ (placeE l key) ver seq = T) := ⟨_, rfl⟩
        rw [HC.out, HTt.out]
        clear hd hs HC
        go_enter Tryd.func21, Tryd.ntmps21
        go_wp2_with fail
        refine (getF_ok HG.out _ _ HR.out).mono ?_
        rintro e w1 ⟨rfl, hb⟩
        have B1 : Hid (Below w.heap.size w w1) := hb
        have hle := hb.size
        clear hb
        go_wp2_with fail
        refine (isSeq_d HS.out _).mono ?_
        rintro e w2 ⟨rfl, hb⟩
        have B2 : Hid (Below w.heap.size w w2) := (B1.out.alloc hle _).trans (hb.mono (by simp; omega))
        have E2 : Hid (BoxAt w2 w1.heap.size x0 x1 x2 x3 x4) := (box_new w1 x0 x1 x2 x3 x4 w1.heap.size rfl).below hb (by simp)
        clear hb
        obtain ⟨e0, e1, e2, e3, e4, ef⟩ := E2.out
        go_wp2_with fail
        refine (denies_o HD.out _).mono ?_
        rintro e w3 ⟨rfl, hb⟩
        have B3 : Hid (Below w.heap.size w w3) := B2.out.trans (hb.mono B2.out.size)
        have E3 : Hid (BoxAt w3 w1.heap.size x0 x1 x2 x3 x4) := E2.out.below hb E2.out.lt
        clear hb e0 e1 e2 e3 e4 ef
        obtain ⟨hmL, hmE, hmK⟩ := getE_some HGd.out.rise HGet.out
        obtain ⟨m, HMm⟩ : ∃ m, Hid (placeE l key = m) := ⟨_, rfl⟩
        have HLow : Hid (∀ j (h : j < l.length), j < m → En.same ⟨x0, x1, x2, x3, x4⟩ l[j] = false) := fun j h hj => same_low (by rw [← HMm.out] at hj; have := placeE_less l key j h hj; rw [hmK]; exact this)
        have HLe : Hid (∃ h : m < l.length, l[m] = ⟨x0, x1, x2, x3, x4⟩) := by
          show _
          have hmm := HMm.out
          subst hmm
          exact ⟨hmL, hmE⟩
        rw [HMm.out] at HTt
        have H8 : Hid (l.length ≤ 8) := HGd.out.len
        clear hmL hmE hmK
        go_wp2_with fail
        refine (clone_c v l _ (HR.out.below B3.out) H8.out).mono ?_
        rintro e w4 ⟨v4, rfl, ho, hb⟩
        have B4 : Hid (Below w.heap.size w w4) := B3.out.trans (hb.mono B3.out.size)
        have E4 : Hid (BoxAt w4 w1.heap.size x0 x1 x2 x3 x4) := E3.out.below hb E3.out.lt
        have HO4 : Hid (w4.ownsRow w3.heap.size 24 5 v4 l.length (rowC l)) := ho
        have p13 : w1.heap.size < w3.heap.size := E3.out.lt
        clear hb ho
        obtain ⟨e0, e1, e2, e3, e4, ef⟩ := E4.out
        go_wp2_with fail
        refine (index_c _ l x0 x1 x2 x3 x4 m _ (RowIs.own HO4.out) HLe.out.1 HLe.out.2 HLow.out).mono ?_
        rintro e w5 ⟨rfl, hb⟩
        have B5 : Hid (Below w.heap.size w w5) := B4.out.trans (hb.mono B4.out.size)
        have E5 : Hid (BoxAt w5 w1.heap.size x0 x1 x2 x3 x4) := E4.out.below hb E4.out.lt
        have HO5 : Hid (w5.ownsRow w3.heap.size 24 5 v4 l.length (rowC l)) := ownsRow_below HO4.out hb
        clear hb e0 e1 e2 e3 e4 ef
        obtain ⟨e0, e1, e2, e3, e4, ef⟩ := E5.out
        have hm8 : m < 8 := by have := HLe.out.1; have := H8.out; omega
        obtain ⟨g, cap, cur, hv4, hgB, hgh, hcap, hmax, hcur⟩ : ∃ g cap cur, v4 = .slice (some ⟨g, 0, none⟩) l.length cap ∧ w3.heap.size ≤ g ∧ w5.heap[g]? = some (.cells cur 24 (0, 0)) ∧ l.length ≤ cap ∧ cap ≤ maxLen ∧ cur.size = cap * 5 := by
          rcases HO5.out.2 with ⟨_, h0⟩ | ⟨g, cap, cur, rfl, h1, h2, h3, h4, h5, _⟩
          · have := HLe.out.1; omega
          · exact ⟨g, cap, cur, rfl, h1, h2, h3, h4, h5⟩
        subst hv4
        have HX5 : Hid (∀ j u, (rowC l)[j]? = some u → w5.cell? ⟨g, j, none⟩ = some u) := fun j u hu => by
          have := HO5.out.cells (g := g) rfl j u hu
          simpa [Addr.add_lit] using this
        have hg5 : g < w5.heap.size := (Array.getElem?_eq_some_iff.1 hgh).1
        have HGh : Hid (w5.heap[g]? = some (.cells cur 24 (0, 0))) := hgh
        have HM : Hid (m < l.length) := HLe.out.1
        have pg : ¬ g = w1.heap.size := by omega
        have pg' : ¬ w1.heap.size = g := by omega
        have hwg : w.heap.size ≤ g := by have := B3.out.size; omega
        clear hgh
        have c2 : w5.cell? ⟨g, m * 5 + 2, none⟩ = some (.int .i64 x2) := HX5.out _ _ (by have := (rowC_get l m HLe.out.1).2.2.1; rw [HLe.out.2] at this; exact this)
        have fz : ∀ j, w5.frozen? ⟨g, j, none⟩ = false := fun j => by simp [World.frozen?, HGh.out]
        obtain ⟨n, HN⟩ : ∃ n, Hid (l.length = n) := ⟨_, rfl⟩
        have hmn : m < n := by rw [← HN.out]; exact HM.out
        have hmni : (m : Int) < (n : Int) := by omega
        by_cases hver : x1 < ver
        · have HT : Hid (T = l.eraseIdx m) := by show T = _; rw [← HTt.out, touchE, if_pos hver]
          clear c2 fz
          have hw1 : IntKind.i64.wrap ((m : Int) + 1) = (m : Int) + 1 := by rw [IntKind.wrap_i64]; omega
          go_wp2_with fail
          refine (delete_c w.heap.size g cap m cur l _ hwg HGh.out hcur HX5.out HM.out hcap hmax).mono ?_
          rintro e w6 ⟨v6, rfl, hr6, hb⟩
          have B6 : Hid (Below w.heap.size w w6) := B5.out.trans hb
          have HR6 : Hid (RowIs w6 v6 (l.eraseIdx m)) := hr6
          clear hb hr6 e0 e1 e2 e3 e4 ef
          go_wp2_with fail
          go_ret2
          exact ⟨v6, rfl, by rw [HT.out]; exact HR6.out, B6.out⟩
        · have HT : Hid (T = l.set m ⟨x0, x1, max x2 seq, x3, x4⟩) := by show T = _; rw [← HTt.out, touchE, if_neg hver]
          rw [HN.out]
          go_wp2_with fail
          go_ret2
          exact ⟨_, rfl, by rw [HT.out, ← HN.out]; exact row_touch (max x2 seq) (RowIs.own HO5.out) HM.out HLe.out.2, B5.out.setCell hwg _⟩
      · have HC : Hid (freshTouch l key ver seq = ([], 7)) := by
          show freshTouch l key ver seq = _
          rw [freshTouch, HG.out, if_neg (by simp), if_neg (by rw [hs]; simp), if_pos hd]
        rw [HC.out]
        have HD : Hid (deniesB x1 x2 ver = true) := hd
        clear hd hs
        go_enter Tryd.func21, Tryd.ntmps21
        go_wp2_with fail
        refine (getF_ok HG.out _ _ HR.out).mono ?_
        rintro e w1 ⟨rfl, hb⟩
        have B1 : Hid (Below w.heap.size w w1) := hb
        have hle := hb.size
        clear hb
        go_wp2_with fail
        refine (isSeq_d HS.out _).mono ?_
        rintro e w2 ⟨rfl, hb⟩
        have B2 : Hid (Below w.heap.size w w2) := (B1.out.alloc hle _).trans (hb.mono (by simp; omega))
        have E2 : Hid (BoxAt w2 w1.heap.size x0 x1 x2 x3 x4) := (box_new w1 x0 x1 x2 x3 x4 w1.heap.size rfl).below hb (by simp)
        clear hb
        obtain ⟨e0, e1, e2, e3, e4, ef⟩ := E2.out
        go_wp2_with fail
        refine (denies_o HD.out _).mono ?_
        rintro e w3 ⟨rfl, hb⟩
        have B3 : Hid (Below w.heap.size w w3) := B2.out.trans (hb.mono B2.out.size)
        have E3 : Hid (BoxAt w3 w1.heap.size x0 x1 x2 x3 x4) := E2.out.below hb E2.out.lt
        clear hb e0 e1 e2 e3 e4 ef
        go_wp2_with fail
        go_ret2
        exact ⟨.slice none 0 0, rfl, RowIs.nil _, B3.out⟩
  · have HC : Hid (freshTouch l key ver seq = ([], n)) := by
      show freshTouch l key ver seq = _
      rw [freshTouch, HG.out, if_pos hn]
    rw [HC.out]
    go_enter Tryd.func21, Tryd.ntmps21
    go_wp2_with fail
    refine (getF_err HG.out hn _ _ HR.out).mono ?_
    rintro e w1 ⟨rfl, hb⟩
    have B1 : Hid (Below w.heap.size w w1) := hb
    clear hb
    have hle := B1.out.size
    go_wp2_with fail
    go_ret2
    exact ⟨.slice none 0 0, by simp [eV, hn], RowIs.nil _, by have hb := B1.out; go_grown⟩
end Go.Proofs.YtnclieehdodfiabDoor
