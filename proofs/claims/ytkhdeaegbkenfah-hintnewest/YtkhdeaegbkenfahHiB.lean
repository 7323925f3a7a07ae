/-
  Package hint by its contracts: Add, and the whole face.
-/
import Derived.Test.YtkhdeaegbkenfahHiA
import Derived.Deep.DeepCutAuto
import Derived.Deep.CutBlock
namespace Go.Proofs.Ytkhdeaegbkenfah
set_option linter.unusedVariables false
set_option linter.unusedSimpArgs false
open Go.RowKit Go.Lib

/-- the first of a row of the call's own is taken out -/
theorem deleteH_first (p : Option Addr) (k cap : Nat) (l : List Hn) (w : World) (ho : OwnH 0 w (.slice p k cap) l) (hk : l.length = k) (h0 : 0 < l.length) :
    Calls Try.prog 26 #[.slice p k cap, .int .i64 0, .int .i64 1] w fun e w' => ∃ p' k' cap', e = .returned (.slice p' k' cap') ∧ OwnH 0 w' (.slice p' k' cap') l.tail ∧ (Value.slice p' k' cap').ownBlock = (Value.slice p k cap).ownBlock ∧ Turn (fun c => (Value.slice p k cap).ownBlock = some c) w w' := by
  subst hk
  have hcell : ∀ g, (Value.slice p l.length cap).ownBlock = some g → ∀ j u, (rowH l)[j]? = some u → w.cell? ⟨g, j, none⟩ = some u := fun g hg j u hu => by
    have := World.ownsRow.cells ho (g := g) hg j u hu
    simpa [Addr.add_lit] using this
  rcases ho.2 with ⟨_, e2⟩ | ⟨g, cap', cur, e, _, hg, hc1, hc2, hc3, _⟩
  · omega
  · injection e with e1 e2 e3
    subst e1
    subst e3
    have hD := deleteH_c g cap 0 cur l w hg hc3 (fun j u hu => hcell g rfl j u hu) h0 hc1 hc2
    have e01 : ((0 : Nat) : Int) + 1 = 1 := rfl
    rw [e01] at hD
    refine hD.mono ?_
    rintro e w' ⟨rfl, h1, h2⟩
    rw [List.eraseIdx_zero] at h1
    exact ⟨_, _, _, rfl, h1, rfl, h2.mono (fun c hc => by rw [hc]; rfl)⟩
theorem add_not {x : Hn} {l : List Hn} (h : x.ok = false) : addH x l = l ∧ addN x l = 0 ∧ addE x = 1 := by
  refine ⟨by rw [addH, if_neg (by rw [h]; simp)], by rw [addN, if_neg (by rw [h]; simp)], by rw [addE, if_neg (by rw [h]; simp)]⟩
theorem add_old {x : Hn} {l : List Hn} (h : x.ok = true) (hn : newerH x l = true) : addH x l = l ∧ addN x l = 0 ∧ addE x = 0 := by
  refine ⟨by rw [addH, if_pos h, putH, if_pos hn], by rw [addN, lostH, if_pos hn, if_neg (by simp)], by rw [addE, if_pos h]⟩
theorem add_few {x : Hn} {l : List Hn} (h : x.ok = true) (hn : newerH x l = false) (hf : ¬ 10 < (offH x l ++ [x]).length) : addH x l = offH x l ++ [x] ∧ addN x l = 0 ∧ addE x = 0 := by
  refine ⟨by rw [addH, if_pos h, putH, if_neg (by rw [hn]; simp), if_neg hf], by rw [addN, if_neg (fun h' => by have h2 := h'.2; rw [lostH, if_neg (by rw [hn]; simp), decide_eq_false hf] at h2; cases h2)], by rw [addE, if_pos h]⟩
theorem add_many {x : Hn} {l : List Hn} (h : x.ok = true) (hn : newerH x l = false) (hf : 10 < (offH x l ++ [x]).length) : addH x l = (offH x l ++ [x]).tail ∧ addN x l = 1 ∧ addE x = 0 := by
  refine ⟨by rw [addH, if_pos h, putH, if_neg (by rw [hn]; simp), if_pos hf], by rw [addN, if_pos ⟨h, by rw [lostH, if_neg (by rw [hn]; simp), decide_eq_true hf]⟩], by rw [addE, if_pos h]⟩
set_option maxHeartbeats 16000000 in
set_option maxRecDepth 100000 in
theorem hiAdd_c {S : Nat → Prop} {w : World} {b : Nat} {l l' : List Hn} {n n' : Nat} {x0 x1 x2 m : Int} (h : HiAt S w b l n) (hg : GoodH l) (hn : n ≤ 1000000) (hm : addE ⟨x0, x1, x2⟩ = m) (hl' : addH ⟨x0, x1, x2⟩ l = l') (hn' : n + addN ⟨x0, x1, x2⟩ l = n') :
    Calls Try.prog 11 #[.pointer (some ⟨b, 0, none⟩), .agg #[.int .i64 x0, .int .i64 x1, .int .i64 x2]] w fun e w' => e = .returned (eV m) ∧ HiTo S w w' b l' n' := by
  obtain ⟨v, h⟩ := h
  have lb := h.lt b h.s0
  have HH : Hid (Hi S w b v l n) := h
  have h10 := hg.ten
  have HR : Hid (HnsIs w v l) := h.own.hns
  obtain ⟨p, cap, rfl, _⟩ := HR.out.slice
  clear h hg
  obtain ⟨w0, HW0⟩ : ∃ w0, w0 = w.alloc (.cells #[.int .i64 x0, .int .i64 x1, .int .i64 x2] 39) := ⟨_, rfl⟩
  have hs0 : w0.heap.size = w.heap.size + 1 := by rw [HW0]; simp
  have B0 : Hid (Below w.heap.size w w0) := by rw [HW0]; exact (Below.refl _ _).alloc (Nat.le_refl _) _
  have X0 : Hid (BoxH w0 w.heap.size x0 x1 x2) := by rw [HW0]; exact boxH_new w x0 x1 x2 w.heap.size rfl
  have HW : Hid (w0 = w.alloc (.cells #[.int .i64 x0, .int .i64 x1, .int .i64 x2] 39)) := HW0
  clear HW0
  cases hi : Hn.ok ⟨x0, x1, x2⟩
  · have HI : Hid (Hn.ok ⟨x0, x1, x2⟩ = false) := hi
    obtain ⟨a1, a2, a3⟩ := add_not (l := l) hi
    rw [a1] at hl'
    rw [a2, Nat.add_zero] at hn'
    rw [a3] at hm
    subst hl'
    subst hn'
    subst hm
    clear a1 a2 a3 hi
    obtain ⟨c0, c1, c2, cf⟩ := X0.out
    go_enter Try.func11, Try.ntmps11
    go_upto_region 1 with fail
    rw [← HW.out]
    go_wp2_with fail
    refine (hRight_b x0 x1 x2 false _ HI.out).mono ?_
    rintro e w1 ⟨rfl, hb⟩
    have B1 : Hid (Below w.heap.size w w1) := B0.out.trans (hb.mono B0.out.size)
    clear hb c0 c1 c2 cf
    go_wp2_with fail
    go_ret
    exact ⟨rfl, HiAt.to ⟨_, HH.out⟩ B1.out⟩
  · have HI : Hid (Hn.ok ⟨x0, x1, x2⟩ = true) := hi
    obtain ⟨c0, c1, c2, cf⟩ := X0.out
    cases hnw : newerH ⟨x0, x1, x2⟩ l
    · have HNw : Hid (newerH ⟨x0, x1, x2⟩ l = false) := hnw
      obtain ⟨lo, HLo⟩ : ∃ lo, Hid (offH ⟨x0, x1, x2⟩ l = lo) := ⟨_, rfl⟩
      have hlo : lo.length ≤ 10 := by rw [← HLo.out]; exact Nat.le_trans (off_sub _ _).length_le h10
      have HAd : Hid (eV m = .nilIface ∧ ((10 < (lo ++ [(⟨x0, x1, x2⟩ : Hn)]).length ∧ l' = (lo ++ [(⟨x0, x1, x2⟩ : Hn)]).tail ∧ n' = n + 1) ∨ (¬ 10 < (lo ++ [(⟨x0, x1, x2⟩ : Hn)]).length ∧ l' = lo ++ [(⟨x0, x1, x2⟩ : Hn)] ∧ n' = n))) := by
        by_cases hf : 10 < (offH ⟨x0, x1, x2⟩ l ++ [(⟨x0, x1, x2⟩ : Hn)]).length
        · obtain ⟨a1, a2, a3⟩ := add_many hi hnw hf
          rw [← HLo.out]
          exact ⟨by rw [← hm, a3, eV_zero], .inl ⟨hf, hl'.symm.trans a1, by rw [← hn', a2]⟩⟩
        · obtain ⟨a1, a2, a3⟩ := add_few hi hnw hf
          rw [← HLo.out]
          exact ⟨by rw [← hm, a3, eV_zero], .inr ⟨hf, hl'.symm.trans a1, by rw [← hn', a2]; rfl⟩⟩
      rw [HAd.out.1]
      clear hm hl' hn' hi hnw
      go_enter Try.func11, Try.ntmps11
      go_upto_region 1 with fail
      rw [← HW.out]
      go_wp2_with fail
      refine (hRight_b x0 x1 x2 true _ HI.out).mono ?_
      rintro e w1 ⟨rfl, hb⟩
      have B1 : Hid (Below w.heap.size w w1) := B0.out.trans (hb.mono B0.out.size)
      have X1 : Hid (BoxH w1 w.heap.size x0 x1 x2) := X0.out.below hb X0.out.lt
      clear hb c0 c1 c2 cf
      have lb1 : b < w1.heap.size := Nat.lt_of_lt_of_le lb B1.out.size
      have c0 : w1.cell? ⟨b, 0, none⟩ = some (.slice p l.length cap) := (World.cell?_of_block (a := ⟨b, 0, none⟩) (B1.out.block b lb)).trans HH.out.c0
      go_wp2_with fail
      refine (splitAdd_c _ x0 x1 x2 _ l w1 X1.out (HR.out.below B1.out) h10).mono ?_
      rintro e w2 ⟨u1, u2, rfl, htw, hb⟩
      rw [HLo.out] at htw
      have B2 : Hid (Below w.heap.size w w2) := B1.out.trans (hb.mono B1.out.size)
      have X2 : Hid (BoxH w2 w.heap.size x0 x1 x2) := X1.out.below hb X1.out.lt
      have HTw : Hid (TwoH w.heap.size w2 u1 u2 (l.filter (hSame ⟨x0, x1, x2⟩)) lo) := ⟨htw.a.base B1.out.size, htw.b.base B1.out.size, htw.ne⟩
      clear htw hb c0
      go_wp2_with fail
      refine (newerAdd_c _ x0 x1 x2 _ l false w2 X2.out HTw.out.a.hns HNw.out).mono ?_
      rintro e w3 ⟨rfl, hb⟩
      have B3 : Hid (Below w.heap.size w w3) := B2.out.trans (hb.mono B2.out.size)
      have X3 : Hid (BoxH w3 w.heap.size x0 x1 x2) := X2.out.below hb X2.out.lt
      have HO3 : Hid (OwnH w.heap.size w3 u2 lo) := HTw.out.b.below hb
      clear hb HTw
      obtain ⟨c0, c1, c2, cf⟩ := X3.out
      have hsz3 : w.heap.size ≤ w3.heap.size := B3.out.size
      have HB6 : Hid (Below w.heap.size w (w3.alloc (.cells #[.int .i64 x0, .int .i64 x1, .int .i64 x2] 39))) := B3.out.alloc hsz3 _
      have HO6 : Hid (OwnH w.heap.size (w3.alloc (.cells #[.int .i64 x0, .int .i64 x1, .int .i64 x2] 39)) u2 lo) := HO3.out.below (by go_grown)
      have HV6 : Hid ((w3.alloc (.cells #[.int .i64 x0, .int .i64 x1, .int .i64 x2] 39)).heap[w3.heap.size]? = some (.cells (Hn.cells ⟨x0, x1, x2⟩).toArray 39 (0, 0))) := alloc_at _ _ _ rfl
      have HS6 : Hid (w.heap.size ≤ (w3.alloc (.cells #[.int .i64 x0, .int .i64 x1, .int .i64 x2] 39)).heap.size) := by
        show _ ≤ _
        simp
        omega
      have HL6 : Hid (lo.length ≤ 2000) := by show _ ≤ _; omega
      go_wp2_with (at_builtin; refine wp_appH _ rfl _ _ rfl w.heap.size _ lo ⟨x0, x1, x2⟩ rfl HO6.out _ rfl HV6.out HL6.out HS6.out ?_)
      intro va wa hown hgrow
      have HOa : Hid (OwnH w.heap.size wa va (lo ++ [(⟨x0, x1, x2⟩ : Hn)])) := hown
      have Ba : Hid (Below w.heap.size w wa) := below_grown HB6.out (Nat.le_refl _) hgrow.out (fun c hc => HO6.out.from c hc)
      clear hown hgrow c0 c1 c2 cf HV6 HO6 HB6 HS6
      obtain ⟨la, HLa⟩ : ∃ la, Hid (lo ++ [(⟨x0, x1, x2⟩ : Hn)] = la) := ⟨_, rfl⟩
      rw [HLa.out] at HOa HAd
      obtain ⟨pa, capa, hva⟩ : ∃ pa capa, va = .slice pa la.length capa := by
        obtain ⟨_, pa, capa, e, _⟩ := HOa.out.hns
        exact ⟨pa, capa, e⟩
      subst hva
      obtain ⟨na, HNa⟩ : ∃ na, Hid (la.length = na) := ⟨_, rfl⟩
      have hna : na ≤ 11 := by rw [← HNa.out, ← HLa.out]; simp; omega
      rw [HNa.out] at HOa HAd
      rw [HNa.out]
      have c0 : wa.cell? ⟨b, 0, none⟩ = some (.slice p l.length cap) := (World.cell?_of_block (a := ⟨b, 0, none⟩) (Ba.out.block b lb)).trans HH.out.c0
      have qf : ∀ k, wa.frozen? ⟨b, k, none⟩ = false := fun k => (World.frozen?_of_block (a := ⟨b, k, none⟩) (Ba.out.block b lb)).trans (HH.out.fz k)
      have lba : b < wa.heap.size := Nat.lt_of_lt_of_le lb Ba.out.size
      have HSt : Hid (Turn S w (wa.setCell ⟨b, 0, none⟩ (.slice pa na capa)) ∧ Hi (fun c => c = b ∨ (Value.slice pa na capa).ownBlock = some c) (wa.setCell ⟨b, 0, none⟩ (.slice pa na capa)) b (.slice pa na capa) la n) := HH.out.stored Ba.out (HOa.out.base (Nat.zero_le _)) (fun c hc => HOa.out.from c hc)
      have HFr : Hid (∀ c, (Value.slice pa na capa).ownBlock = some c → w.heap.size ≤ c) := fun c hc => HOa.out.from c hc
      go_upto_region 7 with fail
      obtain ⟨w4, HW4⟩ : ∃ w4, w4 = wa.setCell ⟨b, 0, none⟩ (.slice pa na capa) := ⟨_, rfl⟩
      rw [← HW4]
      rw [← HW4] at HSt
      have lb4 : b < w4.heap.size := by rw [HW4, World.size_setCell]; exact lba
      clear HW4 c0 qf
      have c0 := HSt.out.2.c0
      have c1 := HSt.out.2.c1
      have qf := HSt.out.2.fz
      rcases HAd.out.2 with ⟨hf, rfl, rfl⟩ | ⟨hf, rfl, rfl⟩
      · have hfi : (10 : Int) < (na : Int) := by omega
        have HO4 : Hid (OwnH 0 w4 (.slice pa na capa) la) := HSt.out.2.own
        go_wp2_with fail
        refine (deleteH_first pa na capa la w4 HO4.out HNa.out (by rw [HNa.out]; omega)).mono ?_
        rintro e w5 ⟨p5, k5, cap5, rfl, ho5, hv5, ht5⟩
        have HD : Hid _ := HSt.out.2.lostOne ht5 ho5 hv5
        have hs5 := ht5.size
        have lb5 : b < w5.heap.size := by omega
        have b5 := ht5.block b lb4 HSt.out.2.n0
        have d0 : w5.cell? ⟨b, 0, none⟩ = some (.slice pa na capa) := (World.cell?_of_block (a := ⟨b, 0, none⟩) b5).trans c0
        have d1 : w5.cell? ⟨b, 1, none⟩ = some (.int .i64 n) := (World.cell?_of_block (a := ⟨b, 1, none⟩) b5).trans c1
        have df : ∀ k, w5.frozen? ⟨b, k, none⟩ = false := fun k => (World.frozen?_of_block (a := ⟨b, k, none⟩) b5).trans (qf k)
        clear c0 c1 qf b5 ho5 hv5 ht5
        go_wp2_with fail
        go_ret
        refine ⟨rfl, HSt.out.1.trans HD.out.1 (fun c hc => ?_), _, ⟨_, HD.out.2⟩, fun c hc => ?_⟩
        · rcases hc with hc | hc
          · exact .inl (by rw [hc]; exact HH.out.s0)
          · exact .inr (HFr.out c hc)
        · rcases hc with hc | hc
          · exact .inl (by rw [hc]; exact HH.out.s0)
          · exact .inr (HFr.out c hc)
      · have hfi : ¬ (10 : Int) < (na : Int) := by omega
        go_wp2_with fail
        go_ret
        refine ⟨rfl, HSt.out.1, _, ⟨_, HSt.out.2⟩, fun c hc => ?_⟩
        rcases hc with hc | hc
        · exact .inl (by rw [hc]; exact HH.out.s0)
        · exact .inr (HFr.out c hc)
    · have HNw : Hid (newerH ⟨x0, x1, x2⟩ l = true) := hnw
      obtain ⟨a1, a2, a3⟩ := add_old hi hnw
      rw [a1] at hl'
      rw [a2, Nat.add_zero] at hn'
      rw [a3] at hm
      subst hl'
      subst hn'
      subst hm
      rw [eV_zero]
      clear a1 a2 a3 hi hnw
      go_enter Try.func11, Try.ntmps11
      go_upto_region 1 with fail
      rw [← HW.out]
      go_wp2_with fail
      refine (hRight_b x0 x1 x2 true _ HI.out).mono ?_
      rintro e w1 ⟨rfl, hb⟩
      have B1 : Hid (Below w.heap.size w w1) := B0.out.trans (hb.mono B0.out.size)
      have X1 : Hid (BoxH w1 w.heap.size x0 x1 x2) := X0.out.below hb X0.out.lt
      clear hb c0 c1 c2 cf
      have lb1 : b < w1.heap.size := Nat.lt_of_lt_of_le lb B1.out.size
      have c0 : w1.cell? ⟨b, 0, none⟩ = some (.slice p l.length cap) := (World.cell?_of_block (a := ⟨b, 0, none⟩) (B1.out.block b lb)).trans HH.out.c0
      go_wp2_with fail
      refine (splitAdd_c _ x0 x1 x2 _ l w1 X1.out (HR.out.below B1.out) h10).mono ?_
      rintro e w2 ⟨u1, u2, rfl, htw, hb⟩
      have B2 : Hid (Below w.heap.size w w2) := B1.out.trans (hb.mono B1.out.size)
      have X2 : Hid (BoxH w2 w.heap.size x0 x1 x2) := X1.out.below hb X1.out.lt
      have HTw : Hid (HnsIs w2 u1 (l.filter (hSame ⟨x0, x1, x2⟩))) := htw.a.hns
      clear htw hb c0
      go_wp2_with fail
      refine (newerAdd_c _ x0 x1 x2 _ l true w2 X2.out HTw.out HNw.out).mono ?_
      rintro e w3 ⟨rfl, hb⟩
      have B3 : Hid (Below w.heap.size w w3) := B2.out.trans (hb.mono B2.out.size)
      clear hb
      go_wp2_with fail
      go_ret
      exact ⟨rfl, HiAt.to ⟨_, HH.out⟩ B3.out⟩
theorem hiFace : HiFace where
  new := hiNew_c
  add := hiAdd_c
  all := hiAll_c
  lost := hiLost_c
  take := hiTake_c
end Go.Proofs.Ytkhdeaegbkenfah
