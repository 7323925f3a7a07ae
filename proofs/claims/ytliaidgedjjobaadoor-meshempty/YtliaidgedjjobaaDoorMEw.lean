/-
  merelaw4.MeshEmpty answers true, whatever the numbers.
-/
import Derived.Test.YtliaidgedjjobaaDoorMsH
import Derived.Test.YtliaidgedjjobaaDoorErrA
import Derived.BigRegion
import Derived.BigQuiet
import Derived.WalkSmall
namespace Go.Proofs.YtliaidgedjjobaaDoor
set_option linter.unusedVariables false
set_option linter.unusedSimpArgs false
open Go.RowKit

theorem neverHad (n : Nat) (node : Int) : cacheN (List.replicate n []) node = [] := by
  unfold cacheN
  rw [List.getD_eq_getElem?_getD]
  cases hq : (List.replicate n ([] : List En))[node.toNat]? with
  | none => rfl
  | some c =>
    have := List.mem_of_getElem? hq
    rw [List.eq_of_mem_replicate this]
    rfl
theorem learn_first (key : Int) : learnC [] [] key = [wasE [] key 0] := by
  unfold learnC putE
  rfl
/-- what is told at first -/
theorem empty_first {n i : Nat} {key : Int} (hi : i < n) (hk : stK key = true) : mGet [] (List.replicate n []) i key 0 = ((List.replicate n []).set i [wasE [] key 0], wasE [] key 0, false, 0) := by
  have hn : nodeB (List.replicate n ([] : List En)).length (i : Int) = true := by rw [nodeB_iff, List.length_replicate]; omega
  rw [mGet, if_neg (by rw [hn, hk]; simp), neverHad]
  show (learnM [] (List.replicate n []) i key, wasE [] key 0, false, (0 : Int)) = _
  rw [learnM, neverHad, learn_first, Int.toNat_natCast]
theorem empty_again {n i : Nat} {key : Int} (hi : i < n) (hk : stK key = true) : mGet [] ((List.replicate n []).set i [wasE [] key 0]) i key 0 = ((List.replicate n []).set i [wasE [] key 0], wasE [] key 0, true, 0) := by
  have hl : ((List.replicate n ([] : List En)).set i [wasE [] key 0]).length = n := by simp
  have hn : nodeB ((List.replicate n ([] : List En)).set i [wasE [] key 0]).length (i : Int) = true := by rw [nodeB_iff, hl]; omega
  have hc : cacheN ((List.replicate n ([] : List En)).set i [wasE [] key 0]) (i : Int) = [wasE [] key 0] := by
    rw [cacheN_at (by rw [hl]; exact hi)]
    simp
  have hg : getE [wasE [] key 0] key = some (wasE [] key 0) := by simp [getE, wasE]
  rw [mGet, if_neg (by rw [hn, hk]; simp), hc, hg]
  show (if (0 : Int) ≤ (wasE [] key 0).a then _ else _) = _
  rw [if_pos (by show (0 : Int) ≤ ((0 : Nat) : Int); omega)]
theorem empty_later {n : Nat} {cs : List (List En)} {i : Nat} {key : Int} : mGet [] cs i key 1 = (cs, ⟨0, 0, 0, false, ⟨#[]⟩⟩, false, 1) := by
  rw [mGet, if_pos (.inr (.inr (.inr (by simp))))]
theorem empty_key {cs : List (List En)} {node key f : Int} (hk : stK key = false) : mGet [] cs node key f = (cs, ⟨0, 0, 0, false, ⟨#[]⟩⟩, false, 1) := by
  rw [mGet, if_pos (.inr (.inl hk))]
set_option maxRecDepth 100000 in
set_option maxHeartbeats 8000000 in
theorem mempty_w (n node key : Int) (w : World) (hg : HasErr w) :
    Calls Tryd.prog 5 #[.int .i64 n, .int .i64 node, .int .i64 key] w fun e w' => e = .returned (.bool true) ∧ Below w.heap.size w w' := by
  have HG : Hid (HasErr w) := hg
  clear hg
  by_cases hn : n < 1 ∨ 6 < n
  · have HN : Hid (n < 1 ∨ 6 < n) := hn
    by_cases h1 : n < 1
    · have hd1 : decide (n < 1) = true := by simpa using h1
      clear hn h1
      go_enter Tryd.func5, Tryd.ntmps5
      go_wp2_with (go_at_call 19; refine (mNew_bad n _ HN.out).mono ?_; rintro e w' ⟨rfl, hw⟩; rw [hw]; clear hw w')
      go_ret
      exact ⟨rfl, Below.refl _ _⟩
    · have hd1 : decide (n < 1) = false := by simpa using h1
      have hd2 : decide (6 < n) = true := by simp; omega
      clear hn h1
      go_enter Tryd.func5, Tryd.ntmps5
      go_wp2_with (go_at_call 19; refine (mNew_bad n _ HN.out).mono ?_; rintro e w' ⟨rfl, hw⟩; rw [hw]; clear hw w')
      go_ret
      exact ⟨rfl, Below.refl _ _⟩
  obtain ⟨nn, rfl⟩ : ∃ k : Nat, n = k := ⟨n.toNat, by omega⟩
  have h1 : 1 ≤ nn := by omega
  have h6 : nn ≤ 6 := by omega
  have HN : Hid (1 ≤ nn ∧ nn ≤ 6) := ⟨h1, h6⟩
  clear hn
  go_enter Tryd.func5, Tryd.ntmps5
  go_wp2_with fail
  refine (mNew_ok nn w HN.out.1 HN.out.2).mono ?_
  rintro e w1 ⟨m, rfl, ⟨S, hm, hS⟩, hb⟩
  have H1 : Hid (Mh (fun _ => False) w.heap.size w w1 m [] (List.replicate nn [])) := ⟨⟨S, hm, fun c hc => ⟨hS c hc, id⟩⟩, hb, hb.size, fun c hc => hc.elim⟩
  have HGM : Hid (GoodM [] (List.replicate nn [])) := goodM_new nn
  clear hm hS hb
  cases hnode : nodeB nn node
  · have HO : Hid (mCacheO (List.replicate nn []) node = ([], 1)) := by show _ = _; rw [mCacheO, List.length_replicate, hnode, if_neg (by simp)]
    obtain ⟨S, h1', _⟩ := H1.out.call
    have HS : Hid _ := h1'
    clear h1'
    have hnd : node < 0 ∨ (nn : Int) ≤ node := by
      rcases Int.lt_or_le node 0 with h | h
      · exact .inl h
      · refine .inr ?_
        rcases Int.lt_or_le node nn with h' | h'
        · rw [nodeB_iff.2 ⟨h, h'⟩] at hnode; cases hnode
        · exact h'
    clear hnode
    go_wp2_with fail
    refine (mCache_o HS.out HGM.out HO.out).mono ?_
    rintro e w2 ⟨v, rfl, hr, hf, hb⟩
    rw [eV_errN (by omega)]
    have B2 : Hid (Below w.heap.size w w2) := H1.out.bel.trans (hb.mono H1.out.hN)
    clear hr hf hb
    by_cases h0 : node < 0
    · have hd : decide (node < 0) = true := by simpa using h0
      clear hnd h0
      go_wp2_with fail
      go_ret
      exact ⟨rfl, B2.out⟩
    · have hd : decide (node < 0) = false := by simpa using h0
      have hd2 : decide ((nn : Int) ≤ node) = true := by simp; omega
      clear hnd h0
      go_wp2_with fail
      go_ret
      exact ⟨rfl, B2.out⟩
  · obtain ⟨i, rfl, hi⟩ := node_nat hnode
    have HI : Hid (i < nn) := hi
    have HO : Hid (mCacheO (List.replicate nn []) (i : Int) = ([], 0)) := by show _ = _; rw [mCacheO, List.length_replicate, hnode, if_pos rfl, neverHad]
    obtain ⟨S, h1', _⟩ := H1.out.call
    have HS : Hid _ := h1'
    clear h1' hnode
    go_wp2_with fail
    refine (mCache_o HS.out HGM.out HO.out).mono ?_
    rintro e w2 ⟨v, rfl, hr, hf, hb⟩
    obtain ⟨_, pv, cv, rfl, _⟩ := hr
    rw [eV_zeroN]
    have H2 : Hid (Mh (fun _ => False) w.heap.size w w2 m [] (List.replicate nn [])) := H1.out.grown hb
    clear hf hb H1 HS
    obtain ⟨S, h1', h2'⟩ := H2.out.call
    have HS : Hid _ := h1'
    have HC : Hid _ := h2'
    clear h1' h2'
    cases hk : stK key
    · have HK : Hid _ := empty_key (cs := List.replicate nn []) (node := (i : Int)) (f := 0) hk
      have hkd : key < 0 ∨ 7 < key := by
        rcases Int.lt_or_le key 0 with h | h
        · exact .inl h
        · refine .inr ?_
          rcases Int.lt_or_le key 8 with h' | h'
          · rw [(stK_iff key).2 ⟨h, h'⟩] at hk; cases hk
          · omega
      clear hk
      go_wp2_with fail
      refine (mGet_o HS.out HGM.out HK.out).mono ?_
      rintro e w3 ⟨rfl, hto⟩
      rw [eV_errN (by omega)]
      have H3 : Hid _ := (HC.out _ _ _ hto).1
      clear hto HS HC
      by_cases h0 : key < 0
      · have hd : decide (key < 0) = true := by simpa using h0
        clear hkd h0
        go_wp2_with fail
        go_ret
        exact ⟨rfl, (H3.out.grown ((Below.refl _ _).alloc (Nat.le_refl _) _)).bel⟩
      · have hd : decide (key < 0) = false := by simpa using h0
        have hd2 : decide (7 < key) = true := by simp; omega
        clear hkd h0
        go_wp2_with fail
        go_ret
        exact ⟨rfl, (H3.out.grown ((Below.refl _ _).alloc (Nat.le_refl _) _)).bel⟩
    · have HK : Hid (stK key = true) := hk
      clear hk
      obtain ⟨x4, HX⟩ : ∃ x4, Hid (wasE [] key 0 = ⟨key, 0, 0, true, x4⟩) := ⟨_, rfl⟩
      obtain ⟨cs1, HCs⟩ : ∃ cs1, Hid ((List.replicate nn []).set i [wasE [] key 0] = cs1) := ⟨_, rfl⟩
      have E1 : Hid (mGet [] (List.replicate nn []) i key 0 = (cs1, ⟨key, 0, 0, true, x4⟩, false, 0)) := by show _ = _; rw [empty_first HI.out HK.out, HCs.out, HX.out]
      have E2 : Hid (mGet [] cs1 i key 0 = (cs1, ⟨key, 0, 0, true, x4⟩, true, 0)) := by show _ = _; rw [← HCs.out, empty_again HI.out HK.out, HX.out]
      have E3 : Hid (mGet [] cs1 i key 1 = (cs1, ⟨0, 0, 0, false, ⟨#[]⟩⟩, false, 1)) := empty_later (n := nn)
      have HG1 : Hid (GoodM [] cs1) := by have := mGet_good HGM.out i key 0; rw [E1.out] at this; exact this
      clear HX HCs
      go_wp2_with fail
      refine (mGet_o HS.out HGM.out E1.out).mono ?_
      rintro e w3 ⟨rfl, hto⟩
      rw [eV_zeroN]
      have H3 : Hid (Mh (fun _ => False) w.heap.size w w3 m [] cs1) := (HC.out _ _ _ hto).1
      clear hto HS HC H2
      have H4 : Hid (Mh (fun c => c = w3.heap.size) w.heap.size w (w3.alloc (.cells #[.int .i64 key, .int .i64 0, .int .i64 0, .bool true, .string x4] 26)) m [] cs1) := H3.out.more ((Below.refl _ _).alloc (Nat.le_refl _) _) (fun c hc => .inr (by omega)) (fun c hc => by simp; omega)
      have X4 : Hid (BoxAt (w3.alloc (.cells #[.int .i64 key, .int .i64 0, .int .i64 0, .bool true, .string x4] 26)) w3.heap.size key 0 0 true x4) := box_new w3 _ _ _ _ _ _ rfl
      clear H3
      obtain ⟨S, h1', h2'⟩ := H4.out.call
      have HS : Hid _ := h1'
      have HC : Hid _ := h2'
      clear h1' h2'
      go_wp2_with fail
      refine (mGet_o HS.out HG1.out E2.out).mono ?_
      rintro e w4 ⟨rfl, hto⟩
      rw [eV_zeroN]
      obtain ⟨h1', h2', _⟩ := HC.out _ _ _ hto
      have H5 : Hid (Mh (fun c => c = w3.heap.size) w.heap.size w w4 m [] cs1) := h1'
      have X5 : Hid (BoxAt w4 w3.heap.size key 0 0 true x4) := X4.out.of_block (h2' _ rfl)
      clear hto h1' h2' HS HC H4 X4
      have hz := X5.out.lt
      have H6 : Hid (Mh (fun c => c = w3.heap.size ∨ c = w4.heap.size) w.heap.size w (w4.alloc (.cells #[.int .i64 key, .int .i64 0, .int .i64 0, .bool true, .string x4] 26)) m [] cs1) := H5.out.more ((Below.refl _ _).alloc (Nat.le_refl _) _) (fun c hc => by rcases hc with hc | hc; exact .inl hc; exact .inr (by omega)) (fun c hc => by simp; omega)
      have X6 : Hid (BoxAt (w4.alloc (.cells #[.int .i64 key, .int .i64 0, .int .i64 0, .bool true, .string x4] 26)) w3.heap.size key 0 0 true x4) := X5.out.alloc _
      have Y6 : Hid (BoxAt (w4.alloc (.cells #[.int .i64 key, .int .i64 0, .int .i64 0, .bool true, .string x4] 26)) w4.heap.size key 0 0 true x4) := box_new w4 _ _ _ _ _ _ rfl
      clear H5 X5
      obtain ⟨S, h1', h2'⟩ := H6.out.call
      have HS : Hid _ := h1'
      have HC : Hid _ := h2'
      clear h1' h2'
      go_wp2_with fail
      refine (mGet_o HS.out HG1.out E3.out).mono ?_
      rintro e w5 ⟨rfl, hto⟩
      obtain ⟨h1', h2', _⟩ := HC.out _ _ _ hto
      have H7 : Hid (Mh (fun c => c = w3.heap.size ∨ c = w4.heap.size) w.heap.size w w5 m [] cs1) := h1'
      have X7 : Hid (BoxAt w5 w3.heap.size key 0 0 true x4) := X6.out.of_block (h2' _ (.inl rfl))
      have Y7 : Hid (BoxAt w5 w4.heap.size key 0 0 true x4) := Y6.out.of_block (h2' _ (.inr rfl))
      clear hto h1' h2' HS HC H6 X6 Y6
      have X8 : Hid (BoxAt (w5.alloc (.cells #[.int .i64 0, .int .i64 0, .int .i64 0, .bool false, .string ⟨#[]⟩] 26)) w3.heap.size key 0 0 true x4) := X7.out.alloc _
      have Y8 : Hid (BoxAt (w5.alloc (.cells #[.int .i64 0, .int .i64 0, .int .i64 0, .bool false, .string ⟨#[]⟩] 26)) w4.heap.size key 0 0 true x4) := Y7.out.alloc _
      have B8 : Hid (Below w.heap.size w (w5.alloc (.cells #[.int .i64 0, .int .i64 0, .int .i64 0, .bool false, .string ⟨#[]⟩] 26))) := H7.out.bel.alloc H7.out.hN _
      obtain ⟨c0, c1, c2, c3, c4, cf⟩ := X8.out
      obtain ⟨d0, d1, d2, d3, d4, df⟩ := Y8.out
      have hq := eql_cells key 0 0 true x4
      have hgd := eqGuard_en
      have HGe : Hid (HasErr (w5.alloc (.cells #[.int .i64 0, .int .i64 0, .int .i64 0, .bool false, .string ⟨#[]⟩] 26))) := HG.out.below HG.out.lt B8.out
      go_wp2_with (go_at_call 11; refine (err_same 1 _ HGe.out).mono ?_; rintro e w6 ⟨rfl, hb6⟩; have HB6 : Hid _ := hb6; clear hb6)
      go_ret
      exact ⟨rfl, B8.out.trans (HB6.out.mono B8.out.size)⟩
end Go.Proofs.YtliaidgedjjobaaDoor
