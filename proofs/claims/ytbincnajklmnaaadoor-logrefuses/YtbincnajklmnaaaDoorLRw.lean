/-
  merelaw4.LogRefuses answers true, whatever key and text.
-/
import Derived.Test.YtbincnajklmnaaaDoorLgE
namespace Go.Proofs.YtbincnajklmnaaaDoor
set_option linter.unusedVariables false
set_option linter.unusedSimpArgs false
open Go.RowKit

theorem del_first (k : Int) : ∃ n : Int, n ≠ 0 ∧ delO [] k = ⟨[], 0, n⟩ := by
  unfold delO
  split
  · exact ⟨1, by omega, rfl⟩
  · exact ⟨5, by omega, by rw [if_pos (show (lastOf [] k).gone = true from rfl)]⟩
theorem put_first {k : Int} {t : ByteArray} : (∃ n : Int, n ≠ 0 ∧ (k < 0 ∨ 7 < k ∨ 12 < t.size) ∧ putO [] k t = ⟨[], 0, n⟩) ∨ (0 ≤ k ∧ k < 8 ∧ t.size ≤ 12 ∧ putO [] k t = ⟨[⟨k, false, t⟩], 1, 0⟩) := by
  unfold putO
  split
  · rename_i h
    refine .inl ⟨1, by omega, ?_, rfl⟩
    rw [stK_iff] at h
    omega
  · rename_i h
    have h' := (stK_iff k).1 (by simpa using h)
    split
    · rename_i h2
      exact .inl ⟨4, by omega, .inr (.inr h2), rfl⟩
    · rename_i h2
      exact .inr ⟨h'.1, h'.2, by omega, rfl⟩
theorem put_nine {l : List Deed} {t : ByteArray} : putO l 9 t = ⟨l, 0, 1⟩ := by
  unfold putO
  rw [if_pos (by decide)]
set_option maxRecDepth 100000 in
set_option maxHeartbeats 8000000 in
theorem lrefuses_w (k : Int) (t : ByteArray) (w : World) (ht : t.size ≤ maxLen) (hg : HasErr w) :
    Calls Tryd.prog 5 #[.int .i64 k, .string t] w fun e w' => e = .returned (.bool true) ∧ Below w.heap.size w w' := by
  have HG : Hid (HasErr w) := hg
  have HT : Hid (t.size ≤ maxLen) := ht
  unfold maxLen at ht
  clear hg
  obtain ⟨n1, hn1, hd1⟩ := del_first k
  have HD1 : Hid (n1 ≠ 0 ∧ delO [] k = ⟨[], 0, n1⟩) := ⟨hn1, hd1⟩
  clear hn1 hd1
  go_enter Tryd.func5, Tryd.ntmps5
  go_wp2_with fail
  refine (lgNew_c w).mono ?_
  rintro e w1 ⟨j, rfl, ⟨S, hm, hS⟩, hb⟩
  have H1 : Hid (Lh w.heap.size w w1 j [] [] 0 (-1) false) := ⟨⟨S, hm, hS⟩, hb, hb.size⟩
  clear hm hS hb
  obtain ⟨S, h1', h2'⟩ := H1.out.call
  have HS : Hid _ := h1'
  have HC : Hid _ := h2'
  clear h1' h2' H1
  go_wp2_with fail
  refine (lgDel_c HS.out (by decide) (by omega) (by omega) HD1.out.2 (fun _ => ⟨rfl, rfl⟩) (fun e => absurd e HD1.out.1)).mono ?_
  rw [if_neg HD1.out.1, errN HD1.out.1]
  rintro e w2 ⟨rfl, hto⟩
  have H2 : Hid _ := HC.out _ _ _ _ _ _ hto
  clear hto HS HC
  obtain ⟨S, h1', h2'⟩ := H2.out.call
  have HS : Hid _ := h1'
  have HC : Hid _ := h2'
  clear h1' h2' H2
  rcases put_first (k := k) (t := t) with ⟨n2, hn2, hwhy, hp⟩ | ⟨hk0, hk8, ht12, hp⟩
  · have HP : Hid (n2 ≠ 0 ∧ putO [] k t = ⟨[], 0, n2⟩) := ⟨hn2, hp⟩
    clear hn2 hp
    go_wp2_with (go_at_call 26; refine (lgBytes_c (n := 0) HS.out rfl).mono ?_; rintro e w' ⟨rfl, hw⟩; rw [hw]; clear hw w')
    refine (lgPut_c HT.out HS.out (by decide) (by omega) (by omega) HP.out.2 (fun _ => ⟨rfl, rfl⟩) (fun e => absurd e HP.out.1)).mono ?_
    rw [if_neg HP.out.1, errN HP.out.1]
    rintro e w3 ⟨rfl, hto⟩
    have H3 : Hid _ := HC.out _ _ _ _ _ _ hto
    clear hto HS HC
    obtain ⟨S, h1', _⟩ := H3.out.call
    have HS : Hid _ := h1'
    clear h1'
    have B3 : Hid (Below w.heap.size w w3) := H3.out.bel
    by_cases h1 : k < 0
    · have hd1 : decide (k < 0) = true := by simpa using h1
      clear h1 hwhy
      go_wp2_with (first | (go_at_call 26; refine (lgBytes_c (n := 0) HS.out rfl).mono ?_; rintro e w' ⟨rfl, hw⟩; rw [hw]; clear hw w') | (go_at_call 23; refine (lgSeq_c (n := 0) HS.out rfl).mono ?_; rintro e w' ⟨rfl, hw⟩; rw [hw]; clear hw w'))
      go_ret
      exact ⟨rfl, B3.out⟩
    · have hd1 : decide (k < 0) = false := by simpa using h1
      by_cases h2 : 7 < k
      · have hd2 : decide (7 < k) = true := by simpa using h2
        clear h1 h2 hwhy
        go_wp2_with (first | (go_at_call 26; refine (lgBytes_c (n := 0) HS.out rfl).mono ?_; rintro e w' ⟨rfl, hw⟩; rw [hw]; clear hw w') | (go_at_call 23; refine (lgSeq_c (n := 0) HS.out rfl).mono ?_; rintro e w' ⟨rfl, hw⟩; rw [hw]; clear hw w'))
        go_ret
        exact ⟨rfl, B3.out⟩
      · have hd2 : decide (7 < k) = false := by simpa using h2
        have h3 : (12 : Int) < (t.size : Int) := by omega
        have hd3 : decide ((12 : Int) < (t.size : Int)) = true := by simpa using h3
        clear h1 h2 h3 hwhy
        go_wp2_with (first | (go_at_call 26; refine (lgBytes_c (n := 0) HS.out rfl).mono ?_; rintro e w' ⟨rfl, hw⟩; rw [hw]; clear hw w') | (go_at_call 23; refine (lgSeq_c (n := 0) HS.out rfl).mono ?_; rintro e w' ⟨rfl, hw⟩; rw [hw]; clear hw w'))
        go_ret
        exact ⟨rfl, B3.out⟩
  · have HP : Hid (putO [] k t = ⟨[⟨k, false, t⟩], 1, 0⟩) := hp
    have HK : Hid (0 ≤ k ∧ k < 8 ∧ t.size ≤ 12) := ⟨hk0, hk8, ht12⟩
    clear hp hk0 hk8 ht12
    go_wp2_with (go_at_call 26; refine (lgBytes_c (n := 0) HS.out rfl).mono ?_; rintro e w' ⟨rfl, hw⟩; rw [hw]; clear hw w')
    refine (lgPut_c HT.out HS.out (by decide) (by omega) (by omega) HP.out (fun e => absurd rfl e) (fun _ => ⟨rfl, HK.out⟩)).mono ?_
    rw [if_pos rfl, errZ]
    rintro e w3 ⟨rfl, hto⟩
    have H3 : Hid _ := HC.out _ _ _ _ _ _ hto
    clear hto HS HC
    obtain ⟨S, h1', h2'⟩ := H3.out.call
    have HS : Hid _ := h1'
    have HC : Hid _ := h2'
    clear h1' h2'
    have HN : Hid ((flatD [⟨k, false, t⟩] ++ []).length = t.size + 2) := by
      show _ = _
      rw [List.append_nil]
      show (encD ⟨k, false, t⟩ ++ []).length = _
      rw [List.append_nil, encD_length]
    have HL : Hid ((flatD [⟨k, false, t⟩]).length ≤ 50000) := by
      show (encD ⟨k, false, t⟩ ++ []).length ≤ _
      rw [List.append_nil, encD_length]
      have := HK.out.2.2
      show t.size + 2 ≤ _
      omega
    obtain ⟨nb, HNb⟩ : ∃ nb, Hid (t.size + 2 = nb) := ⟨_, rfl⟩
    rw [HNb.out] at HN
    have hnb : 2 ≤ nb := by have := HNb.out; omega
    have hnb2 : nb ≤ 14 := by have := HNb.out; have := HK.out.2.2; omega
    go_wp2_with (go_at_call 26; refine (lgBytes_c (n := nb) HS.out HN.out).mono ?_; rintro e w' ⟨rfl, hw⟩; rw [hw]; clear hw w')
    refine (lgPut_c (t := ⟨#[120]⟩) (by unfold maxLen; decide) HS.out HL.out (by rw [lfN]; omega) (by rw [lfN]; omega) put_nine (fun _ => ⟨rfl, rfl⟩) (fun e => absurd e (by omega))).mono ?_
    rw [if_neg (by omega), errN (by omega)]
    rintro e w4 ⟨rfl, hto⟩
    have H4 : Hid _ := HC.out _ _ _ _ _ _ hto
    clear hto HS HC H3
    obtain ⟨S, h1', _⟩ := H4.out.call
    have HS : Hid _ := h1'
    clear h1'
    have B4 : Hid (Below w.heap.size w w4) := H4.out.bel
    have hnd : decide ((2 : Int) ≤ (nb : Int)) = true := by simp; omega
    have HG4 : Hid (HasErr w4) := HG.out.below HG.out.lt B4.out
    go_wp2_with (first | (go_at_call 19; refine (error_err 1 1 _ HG4.out).mono ?_; rintro e w5 ⟨rfl, hb⟩; rw [show ((1 : Int) == 1) = true from rfl]; have HB5 : Hid _ := hb; clear hb) | (go_at_call 26; refine (lgBytes_c (n := nb) (LgAt.grown HS.out HB5.out) HN.out).mono ?_; rintro e w' ⟨rfl, hw⟩; rw [hw]; clear hw w'))
    go_ret
    exact ⟨rfl, B4.out.trans (HB5.out.mono B4.out.size)⟩
end Go.Proofs.YtbincnajklmnaaaDoor
