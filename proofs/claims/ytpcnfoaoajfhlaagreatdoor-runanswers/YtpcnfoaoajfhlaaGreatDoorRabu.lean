/-
  merelaw3.RunAnswers answers true, of whatever text: Run answers as the document's Line does, line by line.
-/
import Derived.Test.YtpcnfoaoajfhlaaGreatDoorRabf
import Derived.Test.YtpcnfoaoajfhlaaGreatDoorRabt
namespace Go.Proofs.YtpcnfoaoajfhlaaGreatDoor
set_option linter.unusedVariables false
set_option linter.unusedSimpArgs false
set_option linter.unusedVariables false
set_option linter.unusedSimpArgs false
open Go.RowKit

theorem last_lines (t : ByteArray) {k : Nat} {x : ByteArray} (hk : (cutS 10 t).length = k + 1) (hx : (cutS 10 t)[k]? = some x) : (x.size = 0 → linesB t = (cutS 10 t).take k) ∧ (x.size ≠ 0 → linesB t = cutS 10 t) := by
  have hl : (cutL 10 t.data.toList).length = k + 1 := by rw [← hk, cutS, List.length_map]
  obtain ⟨y, hy, hyx⟩ : ∃ y, (cutL 10 t.data.toList)[k]? = some y ∧ mkB y = x := by
    rw [cutS, List.getElem?_map] at hx
    exact Option.map_eq_some_iff.1 hx
  have hg : (cutL 10 t.data.toList).getLast? = some y := by rw [List.getLast?_eq_getElem?, hl]; exact hy
  have hs : x.size = y.length := by rw [← hyx]; exact List.size_toArray
  refine ⟨fun h0 => ?_, fun h0 => ?_⟩
  · have hy0 : y = [] := List.length_eq_zero_iff.1 (by omega)
    rw [linesB, linesL, hg, hy0, if_pos rfl, List.dropLast_eq_take, hl, cutS, ← List.map_take]
    rfl
  · rw [linesB, linesL, hg, if_neg (fun e => h0 (by rw [hs, Option.some.inj e]; rfl))]
    rfl
theorem linesB_small (t : ByteArray) : ∀ x ∈ linesB t, x.size ≤ t.size := by
  intro x hx
  obtain ⟨y, hy, rfl⟩ := List.mem_map.1 hx
  have h3 : y ∈ cutL 10 t.data.toList := by
    unfold linesL at hy
    split at hy
    · exact (List.dropLast_sublist _).subset hy
    · exact hy
  have h4 := cutL_size 10 _ _ h3
  rw [size_list] at h4
  show (List.toArray _).size ≤ _
  rw [List.size_toArray]
  exact h4
/-- a new mesh of the document's -/
theorem rk_new (w : World) (n : Nat) (h6 : n ≤ 6) : ∃ T, RkAt T (((w.alloc (.cells #[.slice none 0 0] 34)).alloc (.cells (madeCells #[.slice none 0 0] n) 32)).alloc (.cells #[.pointer (some ⟨w.heap.size, 0, none⟩), .slice (some ⟨w.heap.size + 1, 0, none⟩) n n] 37)) (w.heap.size + 1 + 1) [] (List.replicate n []) ∧ ∀ x, T x → w.heap.size ≤ x := by
  have b1 : Below (w.heap.size + 1) (w.alloc (.cells #[.slice none 0 0] 34)) ((w.alloc (.cells #[.slice none 0 0] 34)).alloc (.cells (madeCells #[.slice none 0 0] n) 32)) := (Below.refl _ _).alloc (by simp) _
  have a0 : ((w.alloc (.cells #[.slice none 0 0] 34)).alloc (.cells (madeCells #[.slice none 0 0] n) 32)).heap[w.heap.size]? = some (.cells #[.slice none 0 0] 34) := (b1.block _ (by omega)).trans (alloc_at w _ _ rfl)
  have hs : RefIs ((w.alloc (.cells #[.slice none 0 0] 34)).alloc (.cells (madeCells #[.slice none 0 0] n) 32)) w.heap.size [] (fun x => x = w.heap.size) :=
    ⟨.slice none 0 0, by simp [World.cell?, a0], by simp [World.frozen?, a0], ⟨rfl, .inl ⟨rfl, rfl⟩⟩, by simp [Value.ownBlock], fun c hc => by simp [Value.ownBlock] at hc, rfl, fun c hc => by subst hc; simp; omega, by simp⟩
  refine ⟨_, ⟨_, _, _, rc_new (b := w.heap.size) (c := w.heap.size + 1) (n := n) (m := w.heap.size + 1 + 1) (by simp) hs (fun k hk => ?_) (fun k => by simp) (by simp) (by omega) h6⟩, fun x hx => ?_⟩
  · rw [World.cell?_alloc_at _ _ _ _ (by simp)]
    simp [madeCells, hk, Nat.mod_one]
  · rcases hx with hx | hx | hx <;> omega
/-- a mesh of the document's, younger than a world -/
def RkR (w2 : World) (m : Nat) (r : List Deed × List (List En)) (W : World) : Prop := ∃ S, RkAt S W m r.1 r.2 ∧ (∀ x, S x → w2.heap.size ≤ x) ∧ Below w2.heap.size w2 W
theorem RkR.next {S : Nat → Prop} {w2 W W' : World} {m : Nat} {l : List Deed} {cs : List (List En)} (hS : ∀ x, S x → w2.heap.size ≤ x) (hb : Below w2.heap.size w2 W) (h : RkTo S W W' m l cs) : RkR w2 m (l, cs) W' := by
  obtain ⟨hk, S', h1, h2⟩ := h
  have hz := hb.size
  refine ⟨S', h1, fun x hx => ?_, hb.trans ⟨hk.os, hk.tape, hk.output, hk.size, fun c hc => hk.block c (by omega) (fun hs => ?_)⟩⟩
  · rcases h2 x hx with h | h
    · exact hS x h
    · omega
  · have := hS c hs
    omega
theorem leftO_len : ∀ (xs : List ByteArray) {l : List Deed} {cs : List (List En)}, GoodM l cs → (leftO l cs xs).2.length = cs.length
  | [], _, _, _ => rfl
  | x :: xs, _, _, h => (leftO_len xs (answerO_good h x).1).trans (answerO_good h x).2
set_option maxRecDepth 100000 in
set_option maxHeartbeats 16000000 in
theorem runAnswers_w (t : ByteArray) (w : World) (ht : t.size ≤ 9223372036854775807) (hg : Gl w) (hng : 7 ≤ w.heap.size) :
    Calls Tryz.prog 5 #[.string t] w fun e w' => e = .returned (.bool true) ∧ Below w.heap.size w w' := by
  obtain ⟨A, hA⟩ : ∃ A, runO t = A := ⟨_, rfl⟩
  have HRun : Hid (Calls Tryz.prog 34 #[.string t] w fun e w' => e = .returned (.string A) ∧ Below w.heap.size w w') := by
    have c := run_c t w ht hg hng
    rw [hA] at c
    exact c
  clear hg hng
  go_enter Tryz.func5, Tryz.ntmps5
  go_wp2_with fail
  refine Calls.mono HRun.out ?_
  rintro e w1 ⟨rfl, hb⟩
  have HB1 : Hid (Below w.heap.size w w1) := hb
  clear hb HRun
  by_cases h3 : 3000 < t.size
  · have h3i : (3000 : Int) < (t.size : Int) := by omega
    have hT : A = tooLongS := by rw [← hA, runO, if_pos h3]
    subst hT
    clear hA
    unfold tooLongS
    go_wp2_with fail
    go_ret
    exact ⟨rfl, HB1.out⟩
  · have h3i : ¬ (3000 : Int) < (t.size : Int) := by omega
    have HA : Hid (sessO [] csN (linesB t) = A) := by
      show _ = _
      rw [← hA, runO, if_neg h3]
      rfl
    have HCt : Hid (∀ W, Calls Tryz.prog 35 #[.string t, .int .u8 10] W fun e w' => ∃ v, e = .returned v ∧ OwnS W.heap.size w' v (cutS 10 t) ∧ Below W.heap.size W w') := fun W => refCut_c t 10 W (by omega)
    have HLn : Hid ((linesB t).length ≤ 3001) := Nat.le_trans (linesB_len t) (by omega)
    have HLs : Hid (∀ x ∈ linesB t, x.size ≤ 3000) := fun x hx => Nat.le_trans (linesB_small t x hx) (by omega)
    clear hA
    go_wp2_with fail
    refine (HCt.out _).mono ?_
    rintro e w2 ⟨v, rfl, ho, hb⟩
    have HB2 : Hid (Below w.heap.size w w2) := HB1.out.trans (hb.mono HB1.out.size)
    have hne : cutS 10 t ≠ [] := fun e => cutL_ne 10 t.data.toList (List.map_eq_nil_iff.1 e)
    obtain ⟨g, cap, hv, hgl, hgc, hgm, hcl⟩ := OwnS.cells ho hne
    obtain ⟨k, hk⟩ : ∃ k, (cutS 10 t).length = k + 1 := ⟨(cutS 10 t).length - 1, by have := List.length_pos_iff.2 hne; omega⟩
    obtain ⟨x, hx⟩ : ∃ x, (cutS 10 t)[k]? = some x := ⟨_, List.getElem?_eq_getElem (by omega)⟩
    have HLa := last_lines t hk hx
    rw [hk] at hv hgc
    subst hv
    have ck := hcl k x hx
    have HCl : Hid (∀ (j : Nat) y, (cutS 10 t)[j]? = some y → w2.cell? ⟨g, j, none⟩ = some (.string y)) := hcl
    have HLb : Hid ((x.size = 0 → linesB t = (cutS 10 t).take k) ∧ (x.size ≠ 0 → linesB t = cutS 10 t)) := HLa
    have HK : Hid ((cutS 10 t).length = k + 1) := hk
    have hk64 : k + 1 ≤ cap := hgc
    unfold maxLen at hgm
    clear hb ho hne hcl HCt HLa hx hk hgc
    obtain ⟨N, HN⟩ : ∃ N, Hid ((linesB t).length = N) := ⟨_, rfl⟩
    by_cases hx0 : x.size = 0
    · have hl : linesB t = (cutS 10 t).take k := HLb.out.1 hx0
      have hN : k = N := by rw [← HN.out, hl, List.length_take, HK.out]; omega
      have HCk : Hid (∀ (j : Nat) y, (linesB t)[j]? = some y → w2.cell? ⟨g, j, none⟩ = some (.string y)) := fun j y hy => HCl.out j y (by
        rw [hl, List.getElem?_take] at hy
        split at hy
        · exact hy
        · cases hy)
      obtain rfl := empty_of hx0
      subst hN
      have hNc : k ≤ cap := by omega
      clear hl hx0
      go_upto_region 7 with fail
      clear HLb HK HCl ck hk64
      have hN1 : k ≤ 3001 := by rw [← HN.out]; exact HLn.out
      obtain ⟨N, hNk⟩ : ∃ N, N = k := ⟨_, rfl⟩
      rw [← hNk] at HN hNc hN1
      rw [← hNk]
      clear hNk
      have hmk := run_make_row' (P := Tryz.prog) 35 32 (.slice none 0 0) 24 Tryz.underlying35 infoRowM rfl .i64 .i64 3 (by omega) (by omega)
      rw [show ((3 : Nat) : Int) = 3 from rfl] at hmk
      go_upto_region 8 with fail
      obtain ⟨T, hT1, hT2⟩ := rk_new w2 3 (by omega)
      obtain ⟨m, HKe⟩ : ∃ m, Hid (w2.heap.size + 1 + 1 = m) := ⟨_, rfl⟩
      obtain ⟨w3, HW3⟩ : ∃ w3, w3 = (((w2.alloc (.cells #[.slice none 0 0] 34)).alloc (.cells (madeCells #[.slice none 0 0] 3) 32)).alloc (.cells #[.pointer (some ⟨w2.heap.size, 0, none⟩), .slice (some ⟨w2.heap.size + 1, 0, none⟩) 3 3] 37)) := ⟨_, rfl⟩
      have hb3 : Below w2.heap.size w2 w3 := by rw [HW3]; go_grown
      rw [← HW3, HKe.out] at hT1
      have R0 : Hid (RkR w2 m ([], csN) w3) := ⟨T, hT1, hT2, hb3⟩
      first | rw [← HW3, HKe.out] | (simp only [← HW3, HKe.out])
      clear HW3 HKe hb3 hT1 hT2 hmk
      go_upto_block 0 with fail
      go_cut [6] (fun c6 wd => c6 = .string A ∧ Hid (Below w2.heap.size w2 wd))
      case first =>
        go_wp2_with fail
        go_loopw [6, 7] (fun c6 c7 wr => ∃ j : Nat, j ≤ N ∧ c7 = .int .i64 j ∧ c6 = .string (sessO [] csN ((linesB t).take j)) ∧ Hid (RkR w2 m (leftO [] csN ((linesB t).take j)) wr)) (fun _ i _ => N - (intOf i).toNat)
        case atStart => exact ⟨0, Nat.zero_le _, rfl, rfl, R0⟩
        case round =>
          obtain ⟨j, hj, rfl, rfl, HR⟩ := hrel
          by_cases hlt : j < N
          · have hlti : (j : Int) < (N : Int) := by omega
            have hjl : j < (linesB t).length := by rw [HN.out]; exact hlt
            have HTk : Hid ((linesB t).take (j + 1) = (linesB t).take j ++ [(linesB t)[j]]) := by
              show _ = _
              rw [List.take_add_one, List.getElem?_eq_getElem hjl]
              rfl
            have HCc : Hid (∀ W, Below w2.heap.size w2 W → W.cell? ⟨g, j, none⟩ = some (.string (linesB t)[j])) := fun W hb => kept_cell hb (HCk.out j _ (List.getElem?_eq_getElem hjl))
            have hz := HLs.out _ (List.getElem_mem hjl)
            have hsz := sessO_size ((linesB t).take j) (goodM_new 3)
            have hln : ((linesB t).take j).length * 301 ≤ 3001 * 301 := Nat.mul_le_mul (by rw [List.length_take]; omega) (Nat.le_refl _)
            have hG := leftO_good ((linesB t).take j) (goodM_new 3)
            have hc3 : (leftO [] csN ((linesB t).take j)).2.length = 3 := leftO_len ((linesB t).take j) (goodM_new 3)
            have HN1 : Hid (∀ x, sessO [] csN ((linesB t).take j ++ [x]) = sessO [] csN ((linesB t).take j) ++ (answerO (leftO [] csN ((linesB t).take j)).1 (leftO [] csN ((linesB t).take j)).2 x).1 ++ nlS) := fun x => sess_snoc _ x
            have HN2 : Hid (∀ x, leftO [] csN ((linesB t).take j ++ [x]) = ((answerO (leftO [] csN ((linesB t).take j)).1 (leftO [] csN ((linesB t).take j)).2 x).2.1, (answerO (leftO [] csN ((linesB t).take j)).1 (leftO [] csN ((linesB t).take j)).2 x).2.2)) := fun x => left_snoc _ x
            have hsz2 : (sessO [] csN ((linesB t).take j)).size ≤ 3001 * 301 := Nat.le_trans hsz hln
            have HG1 : Hid (GoodM (leftO [] csN ((linesB t).take j)).1 (leftO [] csN ((linesB t).take j)).2) := hG
            clear hsz hln hG
            generalize (linesB t)[j] = x at HTk HCc hz
            clear hjl
            generalize sessO [] csN ((linesB t).take j) = P at HN1 hsz2 ⊢
            generalize leftO [] csN ((linesB t).take j) = lc at HR hc3 HN1 HN2 HG1
            have HAx := answerO_size HG1.out x
            obtain ⟨S, hk1, hS, hb⟩ := HR.out
            have cj := HCc.out _ hb
            have HC : Hid (Calls Tryz.prog 36 #[.pointer (some ⟨m, 0, none⟩), .string x] _ (LineTo S _ m (answerO lc.1 lc.2 x))) := refLine_c hk1 HG1.out hc3 x hz
            have HSS : Hid (∀ x, S x → w2.heap.size ≤ x) := hS
            have HBr : Hid _ := hb
            obtain ⟨⟨A2, l2, cs2⟩, HA2⟩ : ∃ r, Hid (answerO lc.1 lc.2 x = r) := ⟨_, rfl⟩
            rw [HA2.out] at HAx HC
            have h9 : A2.size ≤ 300 := HAx
            have z1 : ¬ (P.size + A2.size > 9223372036854775807) := by omega
            have z2 : ¬ (P.size + A2.size + 1 > 9223372036854775807) := by omega
            have HX1 : Hid (sessO [] csN ((linesB t).take (j + 1)) = P ++ A2 ++ nlS) := by
              show _ = _
              rw [HTk.out, HN1.out, HA2.out]
            have HX2 : Hid (leftO [] csN ((linesB t).take (j + 1)) = (l2, cs2)) := by
              show _ = _
              rw [HTk.out, HN2.out, HA2.out]
            clear HTk HN1 HN2 HA2 HAx HG1 HCc hk1 hS hb HR hc3 hsz2 hz
            go_wp2_with fail
            refine (HC.out).mono ?_
            rintro e w5 ⟨rfl, hto⟩
            have HR5 : Hid (RkR w2 m (l2, cs2) w5) := RkR.next HSS.out HBr.out hto
            clear hto HC
            go_wp2_with fail
            go_roundw
            case rel => exact ⟨j + 1, by omega, by go_num, by rw [HX1.out]; rfl, by rw [HX2.out]; exact HR5⟩
            case measure => simp [intOf]; omega
          · obtain rfl : j = N := by omega
            have hlti : ¬ (j : Int) < (j : Int) := by omega
            have HT : Hid ((linesB t).take j = linesB t) := List.take_of_length_le (by rw [HN.out]; exact Nat.le_refl _)
            have HBr : Hid (Below w2.heap.size w2 _) := HR.out.choose_spec.2.2
            go_wp2_with fail
            go_meet
            exact ⟨by rw [HT.out, HA.out], HBr⟩
      case rest =>
      obtain ⟨h6, HD⟩ := hcut
      subst h6
      go_wp2_with fail
      go_ret
      exact ⟨by first | rfl | simp, HB2.out.trans (HD.out.mono HB2.out.size)⟩
    · have hl : linesB t = cutS 10 t := HLb.out.2 hx0
      have hN : N = k + 1 := by rw [← HN.out, hl, HK.out]
      have HCk : Hid (∀ (j : Nat) y, (linesB t)[j]? = some y → w2.cell? ⟨g, j, none⟩ = some (.string y)) := fun j y hy => HCl.out j y (by rw [← hl]; exact hy)
      have hxb := toL_empty hx0
      have hNc : N ≤ cap := by omega
      have HNk : Hid (N = k + 1) := hN
      clear hl hx0 hN
      go_upto_region 7 with fail
      clear HLb HK HCl ck hk64 hxb
      have hN1 : N ≤ 3001 := by rw [← HN.out]; exact HLn.out
      rw [← HNk.out]
      clear HNk
      have hmk := run_make_row' (P := Tryz.prog) 35 32 (.slice none 0 0) 24 Tryz.underlying35 infoRowM rfl .i64 .i64 3 (by omega) (by omega)
      rw [show ((3 : Nat) : Int) = 3 from rfl] at hmk
      go_upto_region 8 with fail
      obtain ⟨T, hT1, hT2⟩ := rk_new w2 3 (by omega)
      obtain ⟨m, HKe⟩ : ∃ m, Hid (w2.heap.size + 1 + 1 = m) := ⟨_, rfl⟩
      obtain ⟨w3, HW3⟩ : ∃ w3, w3 = (((w2.alloc (.cells #[.slice none 0 0] 34)).alloc (.cells (madeCells #[.slice none 0 0] 3) 32)).alloc (.cells #[.pointer (some ⟨w2.heap.size, 0, none⟩), .slice (some ⟨w2.heap.size + 1, 0, none⟩) 3 3] 37)) := ⟨_, rfl⟩
      have hb3 : Below w2.heap.size w2 w3 := by rw [HW3]; go_grown
      rw [← HW3, HKe.out] at hT1
      have R0 : Hid (RkR w2 m ([], csN) w3) := ⟨T, hT1, hT2, hb3⟩
      first | rw [← HW3, HKe.out] | (simp only [← HW3, HKe.out])
      clear HW3 HKe hb3 hT1 hT2 hmk
      go_upto_block 0 with fail
      go_cut [6] (fun c6 wd => c6 = .string A ∧ Hid (Below w2.heap.size w2 wd))
      case first =>
        go_wp2_with fail
        go_loopw [6, 7] (fun c6 c7 wr => ∃ j : Nat, j ≤ N ∧ c7 = .int .i64 j ∧ c6 = .string (sessO [] csN ((linesB t).take j)) ∧ Hid (RkR w2 m (leftO [] csN ((linesB t).take j)) wr)) (fun _ i _ => N - (intOf i).toNat)
        case atStart => exact ⟨0, Nat.zero_le _, rfl, rfl, R0⟩
        case round =>
          obtain ⟨j, hj, rfl, rfl, HR⟩ := hrel
          by_cases hlt : j < N
          · have hlti : (j : Int) < (N : Int) := by omega
            have hjl : j < (linesB t).length := by rw [HN.out]; exact hlt
            have HTk : Hid ((linesB t).take (j + 1) = (linesB t).take j ++ [(linesB t)[j]]) := by
              show _ = _
              rw [List.take_add_one, List.getElem?_eq_getElem hjl]
              rfl
            have HCc : Hid (∀ W, Below w2.heap.size w2 W → W.cell? ⟨g, j, none⟩ = some (.string (linesB t)[j])) := fun W hb => kept_cell hb (HCk.out j _ (List.getElem?_eq_getElem hjl))
            have hz := HLs.out _ (List.getElem_mem hjl)
            have hsz := sessO_size ((linesB t).take j) (goodM_new 3)
            have hln : ((linesB t).take j).length * 301 ≤ 3001 * 301 := Nat.mul_le_mul (by rw [List.length_take]; omega) (Nat.le_refl _)
            have hG := leftO_good ((linesB t).take j) (goodM_new 3)
            have hc3 : (leftO [] csN ((linesB t).take j)).2.length = 3 := leftO_len ((linesB t).take j) (goodM_new 3)
            have HN1 : Hid (∀ x, sessO [] csN ((linesB t).take j ++ [x]) = sessO [] csN ((linesB t).take j) ++ (answerO (leftO [] csN ((linesB t).take j)).1 (leftO [] csN ((linesB t).take j)).2 x).1 ++ nlS) := fun x => sess_snoc _ x
            have HN2 : Hid (∀ x, leftO [] csN ((linesB t).take j ++ [x]) = ((answerO (leftO [] csN ((linesB t).take j)).1 (leftO [] csN ((linesB t).take j)).2 x).2.1, (answerO (leftO [] csN ((linesB t).take j)).1 (leftO [] csN ((linesB t).take j)).2 x).2.2)) := fun x => left_snoc _ x
            have hsz2 : (sessO [] csN ((linesB t).take j)).size ≤ 3001 * 301 := Nat.le_trans hsz hln
            have HG1 : Hid (GoodM (leftO [] csN ((linesB t).take j)).1 (leftO [] csN ((linesB t).take j)).2) := hG
            clear hsz hln hG
            generalize (linesB t)[j] = x at HTk HCc hz
            clear hjl
            generalize sessO [] csN ((linesB t).take j) = P at HN1 hsz2 ⊢
            generalize leftO [] csN ((linesB t).take j) = lc at HR hc3 HN1 HN2 HG1
            have HAx := answerO_size HG1.out x
            obtain ⟨S, hk1, hS, hb⟩ := HR.out
            have cj := HCc.out _ hb
            have HC : Hid (Calls Tryz.prog 36 #[.pointer (some ⟨m, 0, none⟩), .string x] _ (LineTo S _ m (answerO lc.1 lc.2 x))) := refLine_c hk1 HG1.out hc3 x hz
            have HSS : Hid (∀ x, S x → w2.heap.size ≤ x) := hS
            have HBr : Hid _ := hb
            obtain ⟨⟨A2, l2, cs2⟩, HA2⟩ : ∃ r, Hid (answerO lc.1 lc.2 x = r) := ⟨_, rfl⟩
            rw [HA2.out] at HAx HC
            have h9 : A2.size ≤ 300 := HAx
            have z1 : ¬ (P.size + A2.size > 9223372036854775807) := by omega
            have z2 : ¬ (P.size + A2.size + 1 > 9223372036854775807) := by omega
            have HX1 : Hid (sessO [] csN ((linesB t).take (j + 1)) = P ++ A2 ++ nlS) := by
              show _ = _
              rw [HTk.out, HN1.out, HA2.out]
            have HX2 : Hid (leftO [] csN ((linesB t).take (j + 1)) = (l2, cs2)) := by
              show _ = _
              rw [HTk.out, HN2.out, HA2.out]
            clear HTk HN1 HN2 HA2 HAx HG1 HCc hk1 hS hb HR hc3 hsz2 hz
            go_wp2_with fail
            refine (HC.out).mono ?_
            rintro e w5 ⟨rfl, hto⟩
            have HR5 : Hid (RkR w2 m (l2, cs2) w5) := RkR.next HSS.out HBr.out hto
            clear hto HC
            go_wp2_with fail
            go_roundw
            case rel => exact ⟨j + 1, by omega, by go_num, by rw [HX1.out]; rfl, by rw [HX2.out]; exact HR5⟩
            case measure => simp [intOf]; omega
          · obtain rfl : j = N := by omega
            have hlti : ¬ (j : Int) < (j : Int) := by omega
            have HT : Hid ((linesB t).take j = linesB t) := List.take_of_length_le (by rw [HN.out]; exact Nat.le_refl _)
            have HBr : Hid (Below w2.heap.size w2 _) := HR.out.choose_spec.2.2
            go_wp2_with fail
            go_meet
            exact ⟨by rw [HT.out, HA.out], HBr⟩
      case rest =>
      obtain ⟨h6, HD⟩ := hcut
      subst h6
      go_wp2_with fail
      go_ret
      exact ⟨by first | rfl | simp, HB2.out.trans (HD.out.mono HB2.out.size)⟩
end Go.Proofs.YtpcnfoaoajfhlaaGreatDoor
