/-
  The document's Line: of whatever words.
-/
import Derived.Test.YtpcnfoaoajfhlaaGreatDoorRabn
import Derived.Test.YtpcnfoaoajfhlaaGreatDoorRabo
import Derived.Test.YtpcnfoaoajfhlaaGreatDoorRabp
import Derived.Test.YtpcnfoaoajfhlaaGreatDoorRabq
import Derived.Test.YtpcnfoaoajfhlaaGreatDoorRabr
import Derived.Test.YtpcnfoaoajfhlaaGreatDoorRabs
namespace Go.Proofs.YtpcnfoaoajfhlaaGreatDoor
set_option linter.unusedVariables false
set_option linter.unusedSimpArgs false
set_option linter.unusedVariables false
set_option linter.unusedSimpArgs false
open Go.RowKit

theorem ne_toL {f : ByteArray} {g : List UInt8} (h : f ≠ ⟨g.toArray⟩) : (f.toList == g) = false := by
  rw [beq_eq_false_iff_ne, ByteArray.toList_eq]
  intro e
  apply h
  apply ByteArray.ext
  show f.data = g.toArray
  rw [← e]
set_option maxRecDepth 100000 in
set_option maxHeartbeats 16000000 in
theorem refLine_x {S : Nat → Prop} {w : World} {m : Nat} {l : List Deed} {cs : List (List En)} (h : RkAt S w m l cs) (s : ByteArray) (hs : s.size ≤ 3000) {f : ByteArray} {rest : List ByteArray} (hw : splitS s = f :: rest) (hf : opO f = none)
    (hput : f ≠ ⟨#[112, 117, 116]⟩)
    (hdelete : f ≠ ⟨#[100, 101, 108, 101, 116, 101]⟩)
    (hget : f ≠ ⟨#[103, 101, 116]⟩)
    (hswap : f ≠ ⟨#[115, 119, 97, 112]⟩)
    (hseq : f ≠ ⟨#[115, 101, 113]⟩)
    (hcache : f ≠ ⟨#[99, 97, 99, 104, 101]⟩)
    (howner : f ≠ ⟨#[111, 119, 110, 101, 114]⟩) :
    Calls Tryz.prog 36 #[.pointer (some ⟨m, 0, none⟩), .string s] w (LineTo S w m (answerO l cs s)) := by
  obtain ⟨k, hk⟩ : ∃ k, rest.length = k := ⟨_, rfl⟩
  have hR : answerO l cs s = (badS, l, cs) := by
    rw [answerO, takeO, hw]
    simp only [hf]
  have HCt : Hid (Calls Tryz.prog 35 #[.string s, .int .u8 32] w fun e w' => ∃ v, e = .returned v ∧ OwnS w.heap.size w' v (f :: rest) ∧ Below w.heap.size w w') := by
    have c := refCut_c s 32 w (by omega)
    rw [← splitS_cutS, hw] at c
    exact c
  have hk3 : k ≤ 3000 := by
    have h1 := split_len s
    have h2 := Lib.countB_le blankS (by decide) s.size s (Nat.le_refl _)
    rw [hw, List.length_cons] at h1
    omega
  rw [hR]
  have HK : Hid (RkAt S w m l cs) := h
  have eput := ne_toL (g := [112, 117, 116]) hput
  have edelete := ne_toL (g := [100, 101, 108, 101, 116, 101]) hdelete
  have eget := ne_toL (g := [103, 101, 116]) hget
  have eswap := ne_toL (g := [115, 119, 97, 112]) hswap
  have eseq := ne_toL (g := [115, 101, 113]) hseq
  have ecache := ne_toL (g := [99, 97, 99, 104, 101]) hcache
  have eowner := ne_toL (g := [111, 119, 110, 101, 114]) howner
  clear h hw hR hf hput hdelete hget hswap hseq hcache howner
  go_enter Tryz.func36, Tryz.ntmps36
  go_wp2_with fail
  refine Calls.mono HCt.out ?_
  rintro e w1 ⟨v, rfl, ho, hb⟩
  have HB1 : Hid (Below w.heap.size w w1) := hb
  obtain ⟨g, cap, hv, hgl, hgc, hgm, hcl⟩ := OwnS.cells ho (by simp)
  rw [List.length_cons, hk] at hv hgc
  have c0 := hcl 0 _ rfl
  subst hv
  clear hb ho hcl HCt
  unfold maxLen at hgm
  have hkb : ((-1 : Int) != (k : Int)) = true := by simp
  go_wp2_with fail
  go_ret
  exact ⟨rfl, HK.out.to HB1.out⟩
theorem refLine_c {S : Nat → Prop} {w : World} {m : Nat} {l : List Deed} {cs : List (List En)} (h : RkAt S w m l cs) (hG : GoodM l cs) (hcs : cs.length = 3) (s : ByteArray) (hs : s.size ≤ 3000) :
    Calls Tryz.prog 36 #[.pointer (some ⟨m, 0, none⟩), .string s] w (LineTo S w m (answerO l cs s)) := by
  cases hw : splitS s with
  | nil =>
    have h1 := split_len s
    rw [hw] at h1
    exact absurd h1 (by simp)
  | cons f rest =>
    by_cases hput : f = ⟨#[112, 117, 116]⟩
    · subst hput
      exact refLine_put h hG hcs s hs hw
    by_cases hdelete : f = ⟨#[100, 101, 108, 101, 116, 101]⟩
    · subst hdelete
      exact refLine_delete h hG hcs s hs hw
    by_cases hget : f = ⟨#[103, 101, 116]⟩
    · subst hget
      exact refLine_get h hG hcs s hs hw
    by_cases hswap : f = ⟨#[115, 119, 97, 112]⟩
    · subst hswap
      exact refLine_swap h hG hcs s hs hw
    by_cases hseq : f = ⟨#[115, 101, 113]⟩
    · subst hseq
      exact refLine_seq h hG hcs s hs hw
    by_cases hcache : f = ⟨#[99, 97, 99, 104, 101]⟩
    · subst hcache
      exact refLine_cache h hG hcs s hs hw
    by_cases howner : f = ⟨#[111, 119, 110, 101, 114]⟩
    · subst howner
      exact refLine_owner h hG hcs s hs hw
    exact refLine_x h s hs hw (by rw [opO, if_neg (show ¬ f = putS from hput), if_neg (show ¬ f = deleteS from hdelete), if_neg (show ¬ f = getS from hget), if_neg (show ¬ f = swapS from hswap), if_neg (show ¬ f = seqS from hseq), if_neg (show ¬ f = cacheS from hcache), if_neg (show ¬ f = ownerS from howner)]) hput hdelete hget hswap hseq hcache howner
end Go.Proofs.YtpcnfoaoajfhlaaGreatDoor
