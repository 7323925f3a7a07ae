/-
  The document's Cut: a text cut at each byte.
  The document's number: of at most four digits, without a needless 0.
  The document's names of the errors; a line's words as the program and the document cut them.
  The document's store (mereref1.Store) by its contracts: Read, Put, Delete, Swap.
  The document's store (mereref1.Store) by its contracts: Put, Delete, Swap, whatever comes.
-/
import Derived.Test.YtpcnfoaoajfhlaaGreatDoorRabc
import Derived.Deep.LoopGhost
import Derived.Test.YtpcnfoaoajfhlaaGreatDoorRaax
import Derived.Test.YtpcnfoaoajfhlaaGreatDoorRabe
import Derived.Test.YtpcnfoaoajfhlaaGreatDoorRaam
import Derived.Test.YtpcnfoaoajfhlaaGreatDoorRaat
import Derived.Deep.AppendLies
namespace Go.Proofs.YtpcnfoaoajfhlaaGreatDoor
set_option linter.unusedVariables false
set_option linter.unusedSimpArgs false
set_option linter.unusedVariables false
set_option linter.unusedSimpArgs false
open Go.RowKit

def mkB (b : List UInt8) : ByteArray := ⟨b.toArray⟩
/-- a text cut at each byte c -/
def cutS (c : UInt8) (s : ByteArray) : List ByteArray := (cutL c s.data.toList).map mkB
theorem mk_list (b : ByteArray) : mkB b.data.toList = b := rfl
theorem cutS_of {c : UInt8} {s : ByteArray} {out : List ByteArray} (h : out.map (fun b => b.data.toList) = cutL c s.data.toList) : out = cutS c s := by
  unfold cutS
  rw [← h, List.map_map]
  exact (List.map_id' out).symm
theorem extract_list (s : ByteArray) (f i : Nat) : (s.extract f i).data.toList = (s.data.toList.drop f).take (i - f) := by
  rw [Lib.extract_eq]
theorem cut_hit {c : UInt8} {L : List UInt8} {f i : Nat} (hfi : f ≤ i) (hi : L[i]? = some c) (hn : ∀ k, f ≤ k → k < i → L[k]? ≠ some c) : cutL c (L.drop f) = (L.drop f).take (i - f) :: cutL c (L.drop (i + 1)) := by
  have h1 : (L.drop f)[i - f]? = some c := by rw [List.getElem?_drop, show f + (i - f) = i by omega]; exact hi
  have h2 : ∀ k, k < i - f → (L.drop f)[k]? ≠ some c := fun k hk => by rw [List.getElem?_drop]; exact hn (f + k) (by omega) (by omega)
  rw [cutL_hit c h1 h2, List.drop_drop, show f + (i - f + 1) = i + 1 by omega]
theorem cut_miss {c : UInt8} {L : List UInt8} {f : Nat} (hn : ∀ k, f ≤ k → k < L.length → L[k]? ≠ some c) : cutL c (L.drop f) = [L.drop f] := by
  refine cutL_miss c (fun k => ?_)
  rw [List.getElem?_drop]
  by_cases hk : f + k < L.length
  · exact hn (f + k) (by omega) hk
  · rw [List.getElem?_eq_none (by omega)]
    simp
set_option maxHeartbeats 8000000 in
theorem refCut_c (s : ByteArray) (c : UInt8) (w : World) (hs : s.size ≤ 90000) :
    Calls Tryz.prog 35 #[.string s, .int .u8 (c.toNat : Nat)] w fun e w' => ∃ v, e = .returned v ∧ OwnS w.heap.size w' v (cutS c s) ∧ Below w.heap.size w w' := by
  go_enter Tryz.func35, Tryz.ntmps35
  go_wp2_with fail
  go_loopw [5, 6, 7] (fun c5 c6 c7 wr => ∃ (i f : Nat) (out : List ByteArray) (u : Value), c5 = u ∧ c6 = .int .i64 f ∧ c7 = .int .i64 i ∧ i ≤ s.size ∧ f ≤ i ∧ out.length ≤ i ∧ Hid (OwnS w.heap.size wr u out) ∧ Hid (out.map (fun b => b.data.toList) ++ cutL c (s.data.toList.drop f) = cutL c s.data.toList) ∧ Hid (∀ k, f ≤ k → k < i → s.data.toList[k]? ≠ some c) ∧ Hid (Below w.heap.size w wr)) (fun _ _ c7 _ => s.size - (intOf c7).toNat)
  case atStart => exact ⟨0, 0, [], .slice none 0 0, rfl, rfl, rfl, Nat.zero_le _, Nat.le_refl _, Nat.le_refl _, OwnS.nil _ _, rfl, fun k _ hk => absurd hk (Nat.not_lt_zero _), Below.refl _ _⟩
  case round =>
    obtain ⟨i, f, out, u, hu, rfl, rfl, hi, hfi, hol, HO, HC, HN, HB⟩ := hrel
    have hu' := hu.symm
    clear hu
    subst hu'
    have hws : w.heap.size ≤ wr.heap.size := HB.out.size
    by_cases hlt : i < s.size
    · have hlti : (i : Int) < (s.size : Int) := by omega
      have hfii : (f : Int) ≤ (i : Int) := by omega
      have hii : (i : Int) ≤ (s.size : Int) := by omega
      have HA : Hid (s.data.toList[i]? = some s[i]) := at_list s i hlt
      by_cases hc : s[i] = c
      · have hcb : ((s[i].toNat : Int) == (c.toNat : Int)) = true := by rw [hc]; simp
        have HX : Hid ((out ++ [s.extract f i]).map (fun b => b.data.toList) ++ cutL c (s.data.toList.drop (i + 1)) = cutL c s.data.toList) := by
          show _ = _
          rw [← HC.out, cut_hit hfi (by rw [HA.out, hc]) HN.out, List.map_append, List.append_assoc]
          show _ ++ ([(s.extract f i).data.toList] ++ _) = _
          rw [extract_list]
          rfl
        have HOa : Hid (OwnS w.heap.size (wr.alloc (.cells #[.string (s.extract f i)] 9)) u out) := HO.out.below ((Below.refl _ _).alloc (Nat.le_refl _) _)
        have HVa : Hid ((wr.alloc (.cells #[.string (s.extract f i)] 9)).heap[wr.heap.size]? = some (.cells #[.string (s.extract f i)] 9 (0, 0))) := alloc_at _ _ _ rfl
        have HSa : Hid (w.heap.size ≤ (wr.alloc (.cells #[.string (s.extract f i)] 9)).heap.size) := show _ ≤ _ from (by simp; omega)
        have HLa : Hid (out.length ≤ 100000) := show _ ≤ _ by omega
        have HBa : Hid (Below w.heap.size w (wr.alloc (.cells #[.string (s.extract f i)] 9))) := HB.out.alloc hws _
        clear hc
        go_wp2_with (at_builtin; refine wp_appW _ rfl _ _ rfl w.heap.size _ out (s.extract f i) rfl HOa.out _ rfl HVa.out HLa.out HSa.out ?_)
        intro va wa hown hgrow
        have HOp : Hid (OwnS w.heap.size wa va (out ++ [s.extract f i])) := hown
        have HBp : Hid (Below w.heap.size w wa) := below_grownF HBa.out (Nat.le_refl _) hgrow.out (fun c hc => OwnS.from HO.out c hc)
        clear hown hgrow HOa HVa HLa HSa HBa
        go_wp2_with fail
        go_roundw
        case rel => exact ⟨i + 1, i + 1, out ++ [s.extract f i], va, rfl, by go_num, by go_num, by omega, Nat.le_refl _, by simp; omega, HOp, HX, fun k h1 h2 => by omega, HBp⟩
        case measure => simp [intOf]; omega
      · have hcb : ((s[i].toNat : Int) == (c.toNat : Int)) = false := by
          simp only [beq_eq_false_iff_ne, ne_eq]
          intro h
          exact hc (UInt8.toNat_inj.1 (by omega))
        have HX : Hid (∀ k, f ≤ k → k < i + 1 → s.data.toList[k]? ≠ some c) := fun k h1 h2 => by
          by_cases hk : k = i
          · subst hk
            rw [HA.out]
            simpa using hc
          · exact HN.out k h1 (by omega)
        clear hc
        go_wp2_with fail
        go_roundw
        case rel => exact ⟨i + 1, f, out, u, rfl, rfl, by go_num, by omega, by omega, by omega, HO, HC, HX, HB⟩
        case measure => simp [intOf]; omega
    · obtain rfl : i = s.size := by omega
      have hlti : ¬ (s.size : Int) < (s.size : Int) := by omega
      have hfii : (f : Int) ≤ (s.size : Int) := by omega
      have HX : Hid (out ++ [s.extract f s.size] = cutS c s) := by
        refine cutS_of ?_
        rw [← HC.out, cut_miss (fun k h1 h2 => HN.out k h1 (by rw [size_list] at h2; exact h2)), List.map_append]
        show _ ++ [(s.extract f s.size).data.toList] = _
        rw [extract_dropL]
      have HOa : Hid (OwnS w.heap.size (wr.alloc (.cells #[.string (s.extract f s.size)] 9)) u out) := HO.out.below ((Below.refl _ _).alloc (Nat.le_refl _) _)
      have HVa : Hid ((wr.alloc (.cells #[.string (s.extract f s.size)] 9)).heap[wr.heap.size]? = some (.cells #[.string (s.extract f s.size)] 9 (0, 0))) := alloc_at _ _ _ rfl
      have HSa : Hid (w.heap.size ≤ (wr.alloc (.cells #[.string (s.extract f s.size)] 9)).heap.size) := show _ ≤ _ from (by simp; omega)
      have HLa : Hid (out.length ≤ 100000) := show _ ≤ _ by omega
      have HBa : Hid (Below w.heap.size w (wr.alloc (.cells #[.string (s.extract f s.size)] 9))) := HB.out.alloc hws _
      go_wp2_with (at_builtin; refine wp_appW _ rfl _ _ rfl w.heap.size _ out (s.extract f s.size) rfl HOa.out _ rfl HVa.out HLa.out HSa.out ?_)
      intro va wa hown hgrow
      have HOp : Hid (OwnS w.heap.size wa va (out ++ [s.extract f s.size])) := hown
      have HBp : Hid (Below w.heap.size w wa) := below_grownF HBa.out (Nat.le_refl _) hgrow.out (fun c hc => OwnS.from HO.out c hc)
      rw [HX.out] at HOp
      clear hown hgrow HOa HVa HLa HSa HBa
      go_wp2_with fail
      go_ret
      exact ⟨va, rfl, HOp.out, HBp.out⟩
end Go.Proofs.YtpcnfoaoajfhlaaGreatDoor

namespace Go.Proofs.YtpcnfoaoajfhlaaGreatDoor
set_option linter.unusedVariables false
set_option linter.unusedSimpArgs false
open Go.RowKit

/-- what number answers -/
def numD (o : Option Nat) : Value := match o with
  | some n => .tuple #[.int .i64 n, .bool true]
  | none => .tuple #[.int .i64 0, .bool false]
set_option maxHeartbeats 4000000 in
theorem refNumber_c (s : ByteArray) (w : World) (hs : s.size ≤ 9223372036854775807) :
    Calls Tryz.prog 85 #[.string s] w fun e w' => e = .returned (numD (numL s.data.toList)) ∧ w' = w := by
  have hbad : numL s.data.toList = none → numD (numL s.data.toList) = .tuple #[.int .i64 0, .bool false] := fun h => by rw [h]; rfl
  by_cases h0 : s.size = 0
  · rw [hbad (by rw [empty_of h0]; rfl)]
    have e := empty_of h0
    subst e
    clear h0 hs hbad
    go_enter Tryz.func85, Tryz.ntmps85
    go_wp2_with fail
    go_ret2
    exact ⟨rfl, rfl⟩
  have he := toL_empty h0
  by_cases h4 : 4 < s.size
  · have h4i : (4 : Int) < (s.size : Int) := by omega
    rw [hbad (by unfold numL; rw [if_pos (.inr (.inl (by rw [size_list]; exact h4)))])]
    clear hbad
    go_enter Tryz.func85, Tryz.ntmps85
    go_wp2_with fail
    go_ret2
    exact ⟨rfl, rfl⟩
  have h4i : ¬ (4 : Int) < (s.size : Int) := by omega
  have h0s : 0 < s.size := by omega
  by_cases hz : s.data.toList.head? = some 48 ∧ 1 < s.size
  · have hz0 : s[0] = 48 := by
      have h1 := hz.1
      rw [List.head?_eq_getElem?, at_list s 0 h0s] at h1
      exact Option.some.inj h1
    have hz1 : (1 : Int) < (s.size : Int) := by have := hz.2; omega
    have hz2 : ((s[0].toNat : Int) == 48) = true := by rw [hz0]; rfl
    rw [hbad (by unfold numL; rw [if_pos (.inr (.inr ⟨hz.1, by rw [size_list]; exact hz.2⟩))])]
    clear hbad hz
    go_enter Tryz.func85, Tryz.ntmps85
    go_wp2_with fail
    go_ret2
    exact ⟨rfl, rfl⟩
  go_enter Tryz.func85, Tryz.ntmps85
  go_upto_region 1 with fail
  go_cut [22] (fun c wd => wd = w ∧ c = .bool false)
  case first =>
    by_cases h48 : s[0].toNat = 48
    · have hz2 : ((s[0].toNat : Int) == 48) = true := by rw [h48]; rfl
      have hz1 : ¬ (1 : Int) < (s.size : Int) := by
        intro h
        refine hz ⟨?_, by omega⟩
        rw [List.head?_eq_getElem?, at_list s 0 h0s]
        exact congrArg some (UInt8.toNat_inj.1 h48)
      go_wp2_with fail
      go_meet
      case rel => exact ⟨rfl, rfl⟩
    · have hz2 : ((s[0].toNat : Int) == 48) = false := by simp; omega
      go_wp2_with fail
      go_meet
      case rel => exact ⟨rfl, rfl⟩
  case rest =>
  obtain ⟨hwd, rfl⟩ := hcut
  rw [hwd]
  clear hwd wc he h4i hbad
  go_wp2_with fail
  go_loopw [4, 5] (fun c4 c27 wr => ∃ j : Nat, j ≤ s.size ∧ c27 = .int .i64 j ∧ c4 = .int .i64 (upD s j : Nat) ∧ wr = w ∧ Hid (∀ i (h : i < s.size), i < j → digitB s[i] = true)) (fun _ c _ => s.size - (intOf c).toNat)
  case atStart => exact ⟨0, Nat.zero_le _, rfl, rfl, rfl, fun i _ h => absurd h (by omega)⟩
  case round =>
    obtain ⟨j, hj, rfl, rfl, hwr, HD⟩ := hrel
    rw [hwr]
    clear hwr wr
    by_cases hlt : j < s.size
    · have hlti : (j : Int) < (s.size : Int) := by omega
      by_cases hx : s[j].toNat < 48
      · have hx1 : (s[j].toNat : Int) < 48 := by omega
        have hb : numL s.data.toList = none := numL_bad hlt (by simp [digitB]; omega)
        go_wp2_with fail
        go_ret2
        exact ⟨by first | rfl | (rw [hb]; rfl), rfl⟩
      have hx1 : ¬ (s[j].toNat : Int) < 48 := by omega
      by_cases hy : 57 < s[j].toNat
      · have hy1 : (57 : Int) < (s[j].toNat : Int) := by omega
        have hb : numL s.data.toList = none := numL_bad hlt (by simp [digitB]; omega)
        go_wp2_with fail
        go_ret2
        exact ⟨by first | rfl | (rw [hb]; rfl), rfl⟩
      have hy1 : ¬ (57 : Int) < (s[j].toNat : Int) := by omega
      have HD2 : Hid (∀ i (h : i < s.size), i < j + 1 → digitB s[i] = true) := fun i h hi => by
        by_cases h2 : i < j
        · exact HD.out i h h2
        · obtain rfl : i = j := by omega
          simp [digitB]
          omega
      have hup := upD_lt s j hj (by omega) HD.out
      have hmore := upD_more s j hlt
      unfold stepD at hmore
      go_wp2_with fail
      go_roundw
      case rel => exact ⟨j + 1, by omega, by go_num, by rw [hmore]; go_num, trivial, HD2⟩
      case measure => simp [intOf]; omega
    · obtain rfl : j = s.size := by omega
      have hb : numL s.data.toList = some (upD s s.size) := numL_ok h0 (by omega) hz (fun i h => HD.out i h h)
      go_wp2_with fail
      go_ret2
      exact ⟨by first | rfl | (rw [hb]; rfl), rfl⟩
end Go.Proofs.YtpcnfoaoajfhlaaGreatDoor

namespace Go.Proofs.YtpcnfoaoajfhlaaGreatDoor
set_option linter.unusedVariables false
set_option linter.unusedSimpArgs false
open Go.RowKit

theorem splitS_cutS (s : ByteArray) : splitS s = cutS 32 s := cutS_of (splitB_cutL 32 (Lib.countB s blankS) s rfl)
set_option maxHeartbeats 4000000 in
theorem refName_c (n : Int) (h0 : 0 ≤ n) (h8 : n ≤ 8) (w : World) :
    Calls Tryz.prog 86 #[.int .i64 n] w fun e w' => e = .returned (.string (nameB n)) ∧ Below w.heap.size w w' := by
  have hn : n = 0 ∨ n = 1 ∨ n = 2 ∨ n = 3 ∨ n = 4 ∨ n = 5 ∨ n = 6 ∨ n = 7 ∨ n = 8 := by omega
  rcases hn with rfl | rfl | rfl | rfl | rfl | rfl | rfl | rfl | rfl <;>
  · go_enter Tryz.func86, Tryz.ntmps86
    go_wp2_with fail
    go_ret
    exact ⟨rfl, by go_grown⟩
/-- a row of words that is kept -/
theorem OwnS.strs {B : Nat} {w : World} {v : Value} {l : List ByteArray} (h : OwnS B w v l) (hz : ∀ x ∈ l, x.size ≤ 9223372036854775807) (hl : l.length ≤ 9223372036854775807) : StrsIs w v l := by
  by_cases h0 : l = []
  · subst h0
    rcases h.2 with ⟨rfl, _⟩ | ⟨g, cap, cur, rfl, _⟩
    · exact ⟨_, _, rfl, Nat.zero_le _, fun h => absurd rfl h⟩
    · exact ⟨_, _, rfl, Nat.zero_le _, fun h => absurd rfl h⟩
  · obtain ⟨g, cap, rfl, hgl, _, _, hc⟩ := OwnS.cells h h0
    refine ⟨_, cap, rfl, hl, fun _ => ⟨g, 0, rfl, hgl, fun j hj => ⟨?_, hz _ (List.getElem_mem hj)⟩⟩⟩
    rw [Nat.zero_add]
    exact hc j _ (List.getElem?_eq_getElem hj)
end Go.Proofs.YtpcnfoaoajfhlaaGreatDoor

namespace Go.Proofs.YtpcnfoaoajfhlaaGreatDoor
set_option linter.unusedVariables false
set_option linter.unusedSimpArgs false
open Go.RowKit

set_option maxHeartbeats 1000000 in
theorem refRead_c (b : Nat) (k : Int) (l : List Deed) (G : Nat → Prop) (w : World) (h : RefIs w b l G) :
    Calls Tryz.prog 91 #[.pointer (some ⟨b, 0, none⟩), .int .i64 k] w fun e w' => e = .returned (entAt l k l.length).val ∧ Below w.heap.size w w' := by
  have HS : Hid (RefIs w b l G) := h
  obtain ⟨v, c0, f0, ho, hn, hg, Gb, Gl, hl⟩ := h
  have lb := Gl b Gb
  have HV : Hid (v = .slice none 0 0 ∧ l.length = 0 ∨ ∃ g cap, v = .slice (some ⟨g, 0, none⟩) l.length cap) := by
    rcases ho.2 with ⟨rfl, h0⟩ | ⟨g, cap, cur, rfl, _, hgg, _⟩
    · exact .inl ⟨rfl, h0⟩
    · exact .inr ⟨g, cap, rfl⟩
  clear Gl Gb hg f0 ho hn
  obtain ⟨x0, x1, x2, x3, x4, HR⟩ : ∃ x0 x1 x2 x3 x4, Hid ((entAt l k l.length).val = .agg #[.int .i64 x0, .int .i64 x1, .int .i64 x2, .bool x3, .string x4]) := ⟨_, _, _, _, _, rfl⟩
  obtain ⟨a, cap, rfl⟩ : ∃ a cap, v = .slice a l.length cap := by
    rcases HV.out with ⟨rfl, h0⟩ | ⟨g, cap, rfl⟩
    · exact ⟨none, 0, by rw [h0]⟩
    · exact ⟨_, _, rfl⟩
  clear HV
  go_enter Tryz.func91, Tryz.ntmps91
  go_wp2_with fail
  refine (refAt_c b k l.length l G _ (Nat.le_refl _) (HS.out.below ((Below.refl _ _).alloc (Nat.le_refl _) _))).mono ?_
  rintro e w1 ⟨rfl, hb⟩
  rw [HR.out]
  have e0 : w1.cell? ⟨w.heap.size, 0, none⟩ = some (.int .i64 0) := (hb.cell (p := ⟨w.heap.size, 0, none⟩) (by simp)).trans (by simp)
  have e1 : w1.cell? ⟨w.heap.size, 1, none⟩ = some (.int .i64 0) := (hb.cell (p := ⟨w.heap.size, 1, none⟩) (by simp)).trans (by simp)
  have e2 : w1.cell? ⟨w.heap.size, 2, none⟩ = some (.int .i64 0) := (hb.cell (p := ⟨w.heap.size, 2, none⟩) (by simp)).trans (by simp)
  have e3 : w1.cell? ⟨w.heap.size, 3, none⟩ = some (.bool false) := (hb.cell (p := ⟨w.heap.size, 3, none⟩) (by simp)).trans (by simp)
  have e4 : w1.cell? ⟨w.heap.size, 4, none⟩ = some (.string ⟨#[]⟩) := (hb.cell (p := ⟨w.heap.size, 4, none⟩) (by simp)).trans (by simp)
  have ef : ∀ j, w1.frozen? ⟨w.heap.size, j, none⟩ = false := fun j => (hb.frozen (p := ⟨w.heap.size, j, none⟩) (by simp)).trans (by simp)
  have HBW : Hid (Below w.heap.size w w1) := ((Below.refl _ _).alloc (Nat.le_refl _) _).trans (hb.mono (by simp))
  have hz1 : w.heap.size < w1.heap.size := by have := hb.size; simp at this; omega
  clear hb
  go_wp2_with fail
  refine bodyPost_ret (v := .agg #[.int .i64 x0, .int .i64 x1, .int .i64 x2, .bool x3, .string x4]) (by simp [results, Tryz.results91, go_sem, e0, e1, e2, e3, e4]) rfl ?_
  refine ⟨by rw [HR.out], ?_⟩
  have hbw := HBW.out
  go_grown

theorem infoEnt : (Tryz.prog.info? 46).map (fun i => (i.zero, i.size, i.bytes)) = some (some (.agg #[.int .i64 0, .int .i64 0, .int .i64 0, .bool false, .string ⟨#[]⟩]), 5, 48) := by kernel_rfl

/-- what a call of the document's store leaves -/
def LeftR (b : Nat) (G : Nat → Prop) (w : World) (o : Out) (e : Ending) (w' : World) : Prop :=
  e = .returned (.tuple #[.int .i64 o.num, .int .i64 o.err]) ∧ ∃ G', RefIs w' b o.done G' ∧ (∀ c, G' c → G c ∨ w.heap.size ≤ c) ∧ Kept G w w'
theorem LeftR.same {b : Nat} {G : Nat → Prop} {w w' : World} {l : List Deed} {n : Int} {o : Out} (h : RefIs w b l G) (hb : Below w.heap.size w w') (ho : o = ⟨l, 0, n⟩) : LeftR b G w o (.returned (.tuple #[.int .i64 0, .int .i64 n])) w' := by
  subst ho
  exact ⟨rfl, G, h.below hb, fun _ hc => .inl hc, Kept.of_below hb⟩
theorem LeftR.step {b : Nat} {G : Nat → Prop} {w w1 w' : World} {o : Out} {e : Ending} (hb : Below w.heap.size w w1) (h : LeftR b G w1 o e w') : LeftR b G w o e w' := by
  obtain ⟨he, F', hs, hf, hk⟩ := h
  refine ⟨he, F', hs, fun c hc => ?_, (Kept.of_below (F := G) hb).trans hk (fun _ _ h => h)⟩
  rcases hf c hc with h | h
  · exact .inl h
  · exact .inr (Nat.le_trans hb.size h)

theorem ref_after (b : Nat) (l : List Deed) (G : Nat → Prop) (w w1 : World) (v : Value) (o : Obj) (d : Deed) (g cap : Nat) (hl1 : l.length < 1000)
    (c0 : w.cell? ⟨b, 0, none⟩ = some v) (f0 : w.frozen? ⟨b, 0, none⟩ = false) (hn : v.ownBlock ≠ some b) (hg : ∀ c, v.ownBlock = some c → G c) (Gb : G b) (Gl : ∀ c, G c → c < w.heap.size)
    (hown : w1.ownsRow 0 46 5 (.slice (some ⟨g, 0, none⟩) (l.length + 1) cap) (l.length + 1) (rowE l ++ d.cells)) (hgrow : (w.alloc o).grownBy w1 v.ownBlock) (hat : v.ownBlock = some g ∨ g = w.heap.size + 1) (hlt : g < w1.heap.size) :
    LeftR b G w ⟨l ++ [d], (l.length : Int) + 1, 0⟩ (.returned (.tuple #[.int .i64 ((l.length : Int) + 1), .int .i64 0])) (w1.setCell ⟨b, 0, none⟩ (.slice (some ⟨g, 0, none⟩) (l.length + 1) cap)) := by
  have lb := Gl b Gb
  have hs1 : w.heap.size + 1 ≤ w1.heap.size := by have := hgrow.size; simpa using this
  have gnb : g ≠ b := by
    rcases hat with h | h
    · intro e; subst e; exact hn h
    · omega
  have keep : ∀ c, c < w.heap.size → c ≠ b → v.ownBlock ≠ some c → (w1.setCell ⟨b, 0, none⟩ (.slice (some ⟨g, 0, none⟩) (l.length + 1) cap)).heap[c]? = w.heap[c]? := by
    intro c hc hcb hne
    rw [Below.heap_setCell w1 _ _ c hcb, hgrow.block c (by simp; omega) (Ne.symm hne), Below.heap_alloc _ _ c hc]
  have ob : w1.heap[b]? = w.heap[b]? := by rw [hgrow.block b (by simp; omega) (Ne.symm hn), Below.heap_alloc _ _ b lb]
  refine ⟨rfl, fun c => G c ∨ c = g, ⟨_, World.cell?_setCell_same _ _ _ ((World.cell?_of_block (a := ⟨b, 0, none⟩) ob).trans c0), ?_, ?_, by simpa [Value.ownBlock] using gnb, fun c hc => .inr (by simpa [Value.ownBlock] using hc.symm), .inl Gb, ?_, by simp; omega⟩, ?_, ?_⟩
  · rw [World.frozen?_setCell]; exact (World.frozen?_of_block (a := ⟨b, 0, none⟩) ob).trans f0
  · rw [rowE_append, List.length_append]
    have e : rowE [d] = d.cells := by simp [rowE]
    rw [e]
    refine ownsRow_blocks hown (fun g' hg' => ?_)
    obtain rfl : g = g' := by simpa [Value.ownBlock] using hg'
    exact Below.heap_setCell w1 _ _ g gnb
  · intro c hc
    rw [World.size_setCell]
    rcases hc with hc | rfl
    · have := Gl c hc; omega
    · exact hlt
  · intro c hc
    rcases hc with h | rfl
    · exact .inl h
    · rcases hat with h | h
      · exact .inl (hg _ h)
      · exact .inr (by omega)
  · exact ⟨hgrow.os, hgrow.tape, hgrow.output, by rw [World.size_setCell]; omega, fun c hc hG => keep c hc (fun e => hG (e ▸ Gb)) (fun e => hG (hg c e))⟩

set_option maxHeartbeats 1000000 in
theorem refPut_ok (b : Nat) (k : Int) (t : ByteArray) (l : List Deed) (G : Nat → Prop) (w : World) (hk : stK k = true) (ht : ¬ 12 < t.size) (hl1 : l.length < 1000) (h : RefIs w b l G) :
    Calls Tryz.prog 40 #[.pointer (some ⟨b, 0, none⟩), .int .i64 k, .string t] w (LeftR b G w ⟨l ++ [⟨k, false, t⟩], (l.length : Int) + 1, 0⟩) := by
  obtain ⟨i0, hi0, hz0, hz1, hz2⟩ := info_parts infoEnt
  have HK : Hid (stK k = true) := hk
  clear hk
  obtain ⟨v, c0, f0, ho, hn, hg, Gb, Gl, hl⟩ := h
  have lb := Gl b Gb
  have AFT := fun w1 o g cap => ref_after b l G w w1 v o ⟨k, false, t⟩ g cap hl1 c0 f0 hn hg Gb Gl
  have HA : Hid (∀ w1 o g cap, _) := AFT
  clear AFT
  have HO : Hid (w.ownsRow 0 46 5 v l.length (rowE l)) := ho
  obtain ⟨a, cap0, hv⟩ : ∃ a cap, v = .slice a l.length cap := by
    rcases ho.2 with ⟨rfl, h0⟩ | ⟨g, cap, cur, rfl, _⟩
    · exact ⟨none, 0, by rw [h0]⟩
    · exact ⟨_, _, rfl⟩
  subst hv
  clear ho
  have h12 : decide ((12 : Int) < (t.size : Int)) = false := by simp; omega
  have h1000 : decide ((1000 : Int) ≤ (l.length : Int)) = false := by simp; omega
  have ht' : t.size ≤ 12 := by omega
  go_enter Tryz.func40, Tryz.ntmps40
  go_wp2_with (first | (go_at_call 47; refine (refKey_b _ true _ HK.out).mono ?_; rintro e w' ⟨rfl, rfl⟩) | (at_builtin; refine wpList_append_lies _ (by rfl) _ _ _ (by rfl) 0 46 i0 _ 5 48 Tryz.underlying32 hi0 hz0 hz1 hz2 rfl (by omega) (.slice a l.length cap0) l.length (rowE l) (by rfl) (HO.out.alloc _) ⟨w.heap.size, 0, none⟩ 1 1 [.int .i64 k, .int .i64 0, .int .i64 0, .bool false, .string t] (by rfl) (by rfl) (World.news_of_block (cs := #[.int .i64 k, .int .i64 0, .int .i64 0, .bool false, .string t]) (t := 46) (fr := (0, 0)) (heap_alloc_new w _)) (by simp [Value.oneCell']) (by omega) (by unfold maxLen; omega) (by omega) (by simp) (w.heap.size + 1) (by simp) ?_; intro g cap w1 hown1 hgrow hat hlt; have cz : w1.cell? ⟨b, 0, none⟩ = some (.slice a l.length cap0) := (hgrow.cell_far _ (by simp; omega) (Ne.symm hn)).trans ((World.cell?_alloc_lt _ _ ⟨b, 0, none⟩ lb).trans c0); have fz : w1.frozen? ⟨b, 0, none⟩ = false := (hgrow.frozen_far _ (by simp; omega) (Ne.symm hn)).trans ((World.frozen?_alloc_old _ _ ⟨b, 0, none⟩ (Nat.ne_of_lt lb)).trans f0)))
  go_ret2
  exact HA.out w1 _ g cap hown1 hgrow hat hlt
end Go.Proofs.YtpcnfoaoajfhlaaGreatDoor

namespace Go.Proofs.YtpcnfoaoajfhlaaGreatDoor
set_option linter.unusedVariables false
set_option linter.unusedSimpArgs false
open Go.RowKit

theorem RefIs.slice {w : World} {b : Nat} {l : List Deed} {G : Nat → Prop} (h : RefIs w b l G) : ∃ a cap, w.cell? ⟨b, 0, none⟩ = some (.slice a l.length cap) ∧ l.length ≤ 1000 := by
  obtain ⟨v, c0, f0, ho, hn, hg, Gb, Gl, hl⟩ := h
  rcases ho.2 with ⟨rfl, h0⟩ | ⟨g, cap, cur, rfl, _⟩
  · exact ⟨none, 0, by rw [h0]; exact c0, hl⟩
  · exact ⟨_, _, c0, hl⟩

set_option maxHeartbeats 1000000 in
theorem refPut_c (b : Nat) (k : Int) (t : ByteArray) (l : List Deed) (G : Nat → Prop) (w : World) (hm : t.size ≤ maxLen) (h : RefIs w b l G) :
    Calls Tryz.prog 40 #[.pointer (some ⟨b, 0, none⟩), .int .i64 k, .string t] w (LeftR b G w (putO l k t)) := by
  unfold maxLen at hm
  cases hk : stK k
  · have HK : Hid (stK k = false) := hk
    have HS : Hid (RefIs w b l G) := h
    have HP : Hid (putO l k t = ⟨l, 0, 1⟩) := by simp [Hid, putO, hk]
    clear hk h
    go_enter Tryz.func40, Tryz.ntmps40
    go_wp2_with (go_at_call 47; refine (refKey_b _ false _ HK.out).mono ?_; rintro e w' ⟨rfl, rfl⟩)
    go_ret2
    exact LeftR.same HS.out (Below.refl _ _) HP.out
  · by_cases ht : 12 < t.size
    · have HK : Hid (stK k = true) := hk
      have HS : Hid (RefIs w b l G) := h
      have HP : Hid (putO l k t = ⟨l, 0, 4⟩) := by simp [Hid, putO, hk, ht]
      have h12 : decide ((12 : Int) < (t.size : Int)) = true := by simp; omega
      clear hk h
      go_enter Tryz.func40, Tryz.ntmps40
      go_wp2_with (go_at_call 47; refine (refKey_b _ true _ HK.out).mono ?_; rintro e w' ⟨rfl, rfl⟩)
      go_ret2
      exact LeftR.same HS.out (Below.refl _ _) HP.out
    · by_cases hl : l.length < 1000
      · have e : putO l k t = ⟨l ++ [⟨k, false, t⟩], (l.length : Int) + 1, 0⟩ := by simp [putO, hk, ht, recO, hl]
        rw [e]
        exact refPut_ok b k t l G w hk ht hl h
      · have HK : Hid (stK k = true) := hk
        have HS : Hid (RefIs w b l G) := h
        have HP : Hid (putO l k t = ⟨l, 0, 4⟩) := by simp [Hid, putO, hk, ht, recO, hl]
        have h12 : decide ((12 : Int) < (t.size : Int)) = false := by simp; omega
        have h1000 : (1000 : Int) ≤ (l.length : Int) := by omega
        obtain ⟨a, cap, c0, hl1⟩ := h.slice
        clear hk h
        go_enter Tryz.func40, Tryz.ntmps40
        go_wp2_with (go_at_call 47; refine (refKey_b _ true _ HK.out).mono ?_; rintro e w' ⟨rfl, rfl⟩)
        go_ret2
        exact LeftR.same HS.out (Below.refl _ _) HP.out

set_option maxHeartbeats 1000000 in
theorem refDelete_c (b : Nat) (k : Int) (l : List Deed) (G : Nat → Prop) (w : World) (h : RefIs w b l G) :
    Calls Tryz.prog 39 #[.pointer (some ⟨b, 0, none⟩), .int .i64 k] w (LeftR b G w (delO l k)) := by
  obtain ⟨i0, hi0, hz0, hz1, hz2⟩ := info_parts infoEnt
  have HS : Hid (RefIs w b l G) := h
  cases hk : stK k
  · have HK : Hid (stK k = false) := hk
    have HP : Hid (delO l k = ⟨l, 0, 1⟩) := by simp [Hid, delO, hk]
    clear hk h
    go_enter Tryz.func39, Tryz.ntmps39
    go_wp2_with (go_at_call 47; refine (refKey_b _ false _ HK.out).mono ?_; rintro e w' ⟨rfl, rfl⟩)
    go_ret2
    exact LeftR.same HS.out (Below.refl _ _) HP.out
  · have HK : Hid (stK k = true) := hk
    clear hk
    obtain ⟨x0, x1, x2, x4, HR⟩ : ∃ x0 x1 x2 x4, Hid ((entAt l k l.length).val = .agg #[.int .i64 x0, .int .i64 x1, .int .i64 x2, .bool (lastOf l k).gone, .string x4]) := ⟨k, (lastOf l k).ver, l.length, (lastOf l k).text, by unfold Hid entAt Ent.val; rw [List.take_length]⟩
    cases hgo : (lastOf l k).gone
    · rw [hgo] at HR
      have hl : l.length ≤ 1000 := h.slice.elim fun _ h => h.elim fun _ h => h.2
      by_cases hlt : l.length < 1000
      · have HP : Hid (delO l k = ⟨l ++ [⟨k, true, ByteArray.empty⟩], (l.length : Int) + 1, 0⟩) := by simp [Hid, delO, HK.out, hgo, recO, hlt]
        clear h hgo
        have h1 : decide ((1000 : Int) ≤ (l.length : Int)) = false := by simp; omega
        go_enter Tryz.func39, Tryz.ntmps39
        go_wp2_with (go_at_call 47; refine (refKey_b _ true _ HK.out).mono ?_; rintro e w' ⟨rfl, rfl⟩)
        refine (refRead_c b k l G _ HS.out).mono ?_
        rintro e w1 ⟨rfl, hb⟩
        rw [HR.out]
        have HB : Hid (Below w.heap.size w (w1.alloc (.cells #[.int .i64 x0, .int .i64 x1, .int .i64 x2, .bool false, .string x4] 46))) := hb.alloc hb.size _
        have HS2 : Hid (RefIs (w1.alloc (.cells #[.int .i64 x0, .int .i64 x1, .int .i64 x2, .bool false, .string x4] 46)) b l G) := HS.out.below HB.out
        clear hb
        obtain ⟨v, c02, f02, ho, hn, hg, Gb, Gl, hl2⟩ := HS2.out
        have lb2 := Gl b Gb
        have lb3 : b < w1.heap.size + 1 := by simpa using lb2
        obtain ⟨a, cap0, hv⟩ : ∃ a cap, v = .slice a l.length cap := by
          rcases ho.2 with ⟨rfl, h0⟩ | ⟨g, cap, cur, rfl, _⟩
          · exact ⟨none, 0, by rw [h0]⟩
          · exact ⟨_, _, rfl⟩
        subst hv
        have cr : (w1.alloc (.cells #[.int .i64 x0, .int .i64 x1, .int .i64 x2, .bool false, .string x4] 46)).cell? ⟨w1.heap.size, 3, none⟩ = some (.bool false) := by simp
        have HO1 : Hid ((w1.alloc (.cells #[.int .i64 x0, .int .i64 x1, .int .i64 x2, .bool false, .string x4] 46)).ownsRow 0 46 5 (.slice a l.length cap0) l.length (rowE l)) := ho
        have AFT := fun w3 o g cap => ref_after b l G (w1.alloc (.cells #[.int .i64 x0, .int .i64 x1, .int .i64 x2, .bool false, .string x4] 46)) w3 (.slice a l.length cap0) o ⟨k, true, ByteArray.empty⟩ g cap hlt c02 f02 hn hg Gb Gl
        have HA : Hid (∀ w1 o g cap, _) := AFT
        clear AFT ho
        have NB : Hid (((w1.alloc (.cells #[.int .i64 x0, .int .i64 x1, .int .i64 x2, .bool false, .string x4] 46)).alloc (.cells #[.int .i64 k, .int .i64 0, .int .i64 0, .bool true, .string ⟨#[]⟩] 46)).heap[w1.heap.size + 1]? = some (.cells #[.int .i64 k, .int .i64 0, .int .i64 0, .bool true, .string ⟨#[]⟩] 46 (0, 0))) := by
          have := heap_alloc_new (w1.alloc (.cells #[.int .i64 x0, .int .i64 x1, .int .i64 x2, .bool false, .string x4] 46)) (.cells #[.int .i64 k, .int .i64 0, .int .i64 0, .bool true, .string ⟨#[]⟩] 46)
          rw [World.size_alloc] at this
          exact this
        go_wp2_with (at_builtin; refine wpList_append_lies _ (by rfl) _ _ _ (by rfl) 0 46 i0 _ 5 48 Tryz.underlying32 hi0 hz0 hz1 hz2 rfl (by omega) (.slice a l.length cap0) l.length (rowE l) (by rfl) (HO1.out.alloc _) ⟨w1.heap.size + 1, 0, none⟩ 1 1 [.int .i64 k, .int .i64 0, .int .i64 0, .bool true, .string ⟨#[]⟩] (by rfl) (by rfl) (World.news_of_block (cs := #[.int .i64 k, .int .i64 0, .int .i64 0, .bool true, .string ⟨#[]⟩]) (t := 46) (fr := (0, 0)) NB.out) (by simp [Value.oneCell']) (by omega) (by unfold maxLen; omega) (by omega) (by simp) (w1.heap.size + 1 + 1) (by simp) ?_; intro g cap w3 hown1 hgrow hat hlt; have cz : w3.cell? ⟨b, 0, none⟩ = some (.slice a l.length cap0) := (hgrow.cell_far _ (by simp; omega) (Ne.symm hn)).trans ((World.cell?_alloc_lt _ _ ⟨b, 0, none⟩ lb2).trans c02); have fz : w3.frozen? ⟨b, 0, none⟩ = false := (hgrow.frozen_far _ (by simp; omega) (Ne.symm hn)).trans ((World.frozen?_alloc_old _ _ ⟨b, 0, none⟩ (Nat.ne_of_lt lb2)).trans f02))
        go_ret2
        rw [HP.out]
        exact LeftR.step HB.out (HA.out w3 _ g cap hown1 hgrow (by simpa using hat) hlt)
      · have HP : Hid (delO l k = ⟨l, 0, 4⟩) := by simp [Hid, delO, HK.out, hgo, recO, hlt]
        have h1 : (1000 : Int) ≤ (l.length : Int) := by omega
        clear h hgo
        go_enter Tryz.func39, Tryz.ntmps39
        go_wp2_with (go_at_call 47; refine (refKey_b _ true _ HK.out).mono ?_; rintro e w' ⟨rfl, rfl⟩)
        refine (refRead_c b k l G _ HS.out).mono ?_
        rintro e w1 ⟨rfl, hb⟩
        rw [HR.out]
        have HB : Hid (Below w.heap.size w w1) := hb
        obtain ⟨a, cap, c0, hl1⟩ := (HS.out.below hb).slice
        have lb2 := World.block_lt_of_cell? w1 _ c0
        clear hb
        go_wp2_with fail
        go_ret2
        exact LeftR.same HS.out (HB.out.alloc HB.out.size _) HP.out
    · have HP : Hid (delO l k = ⟨l, 0, 5⟩) := by simp [Hid, delO, HK.out, hgo]
      rw [hgo] at HR
      clear hgo h
      go_enter Tryz.func39, Tryz.ntmps39
      go_wp2_with (go_at_call 47; refine (refKey_b _ true _ HK.out).mono ?_; rintro e w' ⟨rfl, rfl⟩)
      refine (refRead_c b k l G _ HS.out).mono ?_
      rintro e w1 ⟨rfl, hb⟩
      rw [HR.out]
      have HB : Hid (Below w.heap.size w w1) := hb
      clear hb
      go_wp2_with fail
      go_ret2
      exact LeftR.same HS.out (HB.out.alloc HB.out.size _) HP.out

end Go.Proofs.YtpcnfoaoajfhlaaGreatDoor
