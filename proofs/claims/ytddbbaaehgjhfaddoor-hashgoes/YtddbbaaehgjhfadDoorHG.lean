/-
  HashGoes: one byte more is one step more: every road.
-/
import Derived.Test.YtddbbaaehgjhfadDoorHsE
import Derived.Deep.CutBlock
namespace Go.Proofs.YtddbbaaehgjhfadDoor
set_option linter.unusedVariables false
set_option linter.unusedSimpArgs false
open Go.RowKit

/-- what Text answers, with letters -/
theorem text_o (s : ByteArray) : ∃ (N : Nat) (E : Value), (∀ w, Calls Tryd.prog 7 #[.string s] w fun e w' => e = .returned (.tuple #[.int .i64 (N : Nat), E]) ∧ w' = w) ∧ (¬ 60 < s.size → E = .nilIface ∧ N = hashL (byN s)) ∧ (60 < s.size → E = .iface 38 (.int .i64 4)) := by
  by_cases h : 60 < s.size
  · exact ⟨0, _, fun w => text_full s w h, fun h' => absurd h h', fun _ => rfl⟩
  · exact ⟨_, _, fun w => text_ok s w h, fun _ => ⟨rfl, rfl⟩, fun h' => absurd h' h⟩
theorem byN_more (s : ByteArray) (c : UInt8) : byN (s ++ ⟨#[c]⟩) = byN s ++ [c.toNat] := by
  simp [byN, ByteArray.data_append]
theorem hash_empty : hashL (byN ⟨#[]⟩) = 2166136261 := by decide
theorem hash_a : hashL (byN ⟨#[97]⟩) = 3826002220 := by decide
theorem text_empty (w : World) : Calls Tryd.prog 7 #[.string ⟨#[]⟩] w fun e w' => e = .returned (.tuple #[.int .i64 2166136261, .nilIface]) ∧ w' = w := by
  have h := text_ok ⟨#[]⟩ w (by decide)
  rw [hash_empty] at h
  exact h
theorem text_a (w : World) : Calls Tryd.prog 7 #[.string ⟨#[97]⟩] w fun e w' => e = .returned (.tuple #[.int .i64 3826002220, .nilIface]) ∧ w' = w := by
  have h := text_ok ⟨#[97]⟩ w (by decide)
  rw [hash_a] at h
  exact h

theorem good_parts {k v a : Int} {g : Bool} {t : ByteArray} (h : bad k v a g t = 0) : ∃ K V : Nat, k = (K : Int) ∧ v = (V : Int) ∧ K ≤ 1000 ∧ V ≤ 1000 ∧ t.size ≤ 12 ∧ v ≤ a ∧ a ≤ 1000 := by
  unfold bad at h
  split at h
  · cases h
  · rename_i h1
    split at h
    · cases h
    · rename_i h2
      simp only [inR, Bool.and_eq_true, decide_eq_true_eq, Bool.not_eq_true', Bool.not_eq_false] at h1
      exact ⟨k.toNat, v.toNat, by omega, by omega, by omega, by omega, by omega, by omega, by omega⟩
theorem good_later {k v a : Int} {g : Bool} {t : ByteArray} (h : bad k v a g t = 0) (ha : a < 1000) : bad k v (a + 1) g t = 0 := by
  have hp := good_parts h
  unfold bad at h ⊢
  split at h
  · cases h
  · rename_i h1
    rw [if_neg ?_]
    · exact h
    · simp only [inR, Bool.and_eq_true, decide_eq_true_eq, Bool.not_eq_true', Bool.not_eq_false] at h1 ⊢
      omega

theorem conv_one (W : World) (c : UInt8) : (convert 35 9 (.slice (some ⟨W.heap.size, 0, none⟩) 1 1)).run Tryd.prog (W.alloc (.cells #[.int .u8 (c.toNat : Nat)] 5)) = .ok (.string ⟨#[c]⟩) (W.alloc (.cells #[.int .u8 (c.toNat : Nat)] 5)) :=
  run_convert_bytes_back (P := Tryd.prog) _ 35 9 5 ⟨W.heap.size, 0, none⟩ 1 [c] Tryd.underlying35 Tryd.underlying5 Tryd.underlying9 (fun j hj => by
    obtain rfl : j = 0 := by simpa using hj
    simp [Addr.add])

set_option maxHeartbeats 4000000 in
set_option maxRecDepth 100000 in
theorem hashGoes_w (s : ByteArray) (c d : UInt8) (k v a : Int) (g : Bool) (t : ByteArray) (hs : s.size ≤ 140737488355328) (w : World) (hT : Lib.TabIs Tryd.prog w powName .u64 Lib.pow10Tab) :
    Calls Tryd.prog 4 #[.string s, .int .u8 (c.toNat : Nat), .int .u8 (d.toNat : Nat), .agg #[.int .i64 k, .int .i64 v, .int .i64 a, .bool g, .string t]] w fun e w' => e = .returned (.bool true) ∧ Below w.heap.size w w' := by
  have HT : Hid (Lib.TabBelow Tryd.prog w.heap.size w powName .u64 Lib.pow10Tab) := Lib.tabBelow_of_tabIs hT
  clear hT
  obtain ⟨Na, Ea, HTa, HA1, HA2⟩ := text_o (s ++ ⟨#[c]⟩)
  obtain ⟨Nb, Eb, HTb, HB1, HB2⟩ := text_o (s ++ ⟨#[d]⟩)
  obtain ⟨Nn, En, HTn, HN1, HN2⟩ := text_o s
  have hs1 : ¬ 9223372036854775807 < s.size + 1 := by omega
  go_enter Tryd.func4, Tryd.ntmps4
  go_wp2_with fail
  refine (text_empty _).mono ?_
  rintro e w1 ⟨rfl, hw1⟩
  subst hw1
  go_wp2_with fail
  refine (text_a _).mono ?_
  rintro e w1 ⟨rfl, hw1⟩
  subst hw1
  go_upto_region 5 with fail
  obtain ⟨wa, HWA⟩ : ∃ wa, wa = w.alloc (.cells #[.int .i64 k, .int .i64 v, .int .i64 a, .bool g, .string t] 23) := ⟨_, rfl⟩
  have XA : Hid (BoxAt wa w.heap.size k v a g t) := by
    rw [HWA]
    exact box_new w k v a g t w.heap.size rfl
  have BA : Hid (Below w.heap.size w wa) := by
    rw [HWA]
    show Below _ _ _
    go_grown
  rw [← HWA]
  clear HWA
  have hcv := conv_one wa c
  go_wp2_with fail
  refine (HTa _).mono ?_
  rintro e w1 ⟨rfl, hw1⟩
  subst hw1
  clear hcv
  go_upto_region 6 with fail
  obtain ⟨wb, HWB⟩ : ∃ wb, wb = wa.alloc (.cells #[.int .u8 (c.toNat : Nat)] 5) := ⟨_, rfl⟩
  have XB : Hid (BoxAt wb w.heap.size k v a g t) := by
    rw [HWB]
    exact XA.out.alloc _
  have BB : Hid (Below w.heap.size w wb) := by
    rw [HWB]
    exact BA.out.alloc BA.out.size _
  rw [← HWB]
  clear HWB XA BA
  have hcv := conv_one wb d
  go_wp2_with fail
  refine (HTb _).mono ?_
  rintro e w1 ⟨rfl, hw1⟩
  subst hw1
  clear hcv
  go_upto_region 7 with fail
  obtain ⟨wc, HWC⟩ : ∃ wc, wc = wb.alloc (.cells #[.int .u8 (d.toNat : Nat)] 5) := ⟨_, rfl⟩
  have XC : Hid (BoxAt wc w.heap.size k v a g t) := by
    rw [HWC]
    exact XB.out.alloc _
  have BC : Hid (Below w.heap.size w wc) := by
    rw [HWC]
    exact BB.out.alloc BB.out.size _
  rw [← HWC]
  clear HWC XB BB
  go_wp2_with fail
  refine (HTn _).mono ?_
  rintro e w1 ⟨rfl, hw1⟩
  subst hw1
  clear HTa HTb HTn
  have HA : Hid ((¬ 60 < (s ++ (⟨#[c]⟩ : ByteArray)).size → Ea = .nilIface ∧ Na = hashL (byN (s ++ ⟨#[c]⟩))) ∧ (60 < (s ++ (⟨#[c]⟩ : ByteArray)).size → Ea = .iface 38 (.int .i64 4))) := ⟨HA1, HA2⟩
  have HB : Hid ((¬ 60 < (s ++ (⟨#[d]⟩ : ByteArray)).size → Eb = .nilIface ∧ Nb = hashL (byN (s ++ ⟨#[d]⟩))) ∧ (60 < (s ++ (⟨#[d]⟩ : ByteArray)).size → Eb = .iface 38 (.int .i64 4))) := ⟨HB1, HB2⟩
  have HN : Hid ((¬ 60 < s.size → En = .nilIface ∧ Nn = hashL (byN s)) ∧ (60 < s.size → En = .iface 38 (.int .i64 4))) := ⟨HN1, HN2⟩
  clear HA1 HA2 HB1 HB2 HN1 HN2
  have hsc : (s ++ (⟨#[c]⟩ : ByteArray)).size = s.size + 1 := by rw [ByteArray.size_append]; rfl
  have hsd : (s ++ (⟨#[d]⟩ : ByteArray)).size = s.size + 1 := by rw [ByteArray.size_append]; rfl
  rw [hsc] at HA
  rw [hsd] at HB
  clear hsc hsd
  go_upto_region 8 with fail
  go_cut [77] (fun v77 wf => ∃ cb : Bool, v77 = .bool cb ∧ Hid (cb = true → s.size < 60) ∧ Hid (Below w.heap.size w wf) ∧ Hid (BoxAt wf w.heap.size k v a g t))
  case first =>
    by_cases h1 : 60 < s.size + 1
    · obtain rfl := HA.out.2 h1
      go_wp2_with fail
      go_meet
      case rel => exact ⟨false, rfl, (show false = true → s.size < 60 from fun h => Bool.noConfusion h), BC, XC⟩
    · obtain ⟨rfl, q1⟩ := HA.out.1 h1
      obtain ⟨rfl, q2⟩ := HB.out.1 h1
      obtain ⟨rfl, q3⟩ := HN.out.1 (by omega)
      clear q1 q2 q3
      go_wp2_with fail
      go_meet
      case rel => exact ⟨true, rfl, (show true = true → s.size < 60 from fun _ => by omega), BC, XC⟩
  case rest =>
    obtain ⟨wd, h⟩ : ∃ x, x = wc := ⟨_, rfl⟩
    subst h
    obtain ⟨cb, rfl, HCB, BD, XD⟩ := hcut
    clear BC XC
    go_upto_if 77 with fail
    go_cut [] (fun wf => Hid (Below w.heap.size w wf) ∧ Hid (BoxAt wf w.heap.size k v a g t))
    case first =>
      cases cb with
      | false =>
        go_wp2_with fail
        go_meet
        case rel => exact ⟨BD, XD⟩
      | true =>
        have hlt := HCB.out rfl
        have e1 := (HA.out.1 (by omega)).2
        have e2 := (HB.out.1 (by omega)).2
        have e3 := (HN.out.1 (by omega)).2
        rw [byN_more, hashL_more, ← e3] at e1 e2
        have hNn : Nn < 4294967296 := by rw [e3]; exact hashL_lt _
        have hNa : Na < 4294967296 := by rw [e1]; exact stepH_lt _ _
        have hNb : Nb < 4294967296 := by rw [e2]; exact stepH_lt _ _
        have q1 : ¬ (4294967295 : Int) < (Nn : Int) := by omega
        have q2 : ¬ (4294967295 : Int) < (Na : Int) := by omega
        have q3 : ¬ (4294967295 : Int) < (Nb : Int) := by omega
        by_cases hcd : c = d
        · have r1 : ((Na : Int) == (Nb : Int)) = true := by
            have : Na = Nb := by rw [e1, e2, hcd]
            simp [this]
          have r2 : ((c.toNat : Int) == (d.toNat : Int)) = true := by simp [hcd]
          clear e1 e2 e3 hcd
          go_wp2_with fail
          go_meet
          case rel => exact ⟨BD, XD⟩
        · have hne : c.toNat ≠ d.toNat := fun h => hcd (UInt8.toNat_inj.1 h)
          have r1 : ((Na : Int) == (Nb : Int)) = false := by
            have : Na ≠ Nb := by
              rw [e1, e2]
              exact fun h => hne (stepH_inj hNn (UInt8.toNat_lt _) (UInt8.toNat_lt _) h)
            simp only [beq_eq_false_iff_ne]
            omega
          have r2 : ((c.toNat : Int) == (d.toNat : Int)) = false := by
            simp only [beq_eq_false_iff_ne]
            omega
          clear e1 e2 e3 hcd hne
          go_wp2_with fail
          go_meet
          case rel => exact ⟨BD, XD⟩
    case rest =>
      obtain ⟨we, h⟩ : ∃ x, x = wc := ⟨_, rfl⟩
      subst h
      obtain ⟨BE, XE⟩ := hcut
      clear BD XD HCB HA HB HN
      obtain ⟨a0, a1, a2, a3, a4, af⟩ := XE.out
      by_cases hb : bad k v a g t = 0
      · obtain ⟨K, V, rfl, rfl, hK, hV, ht, hva, ha⟩ := good_parts hb
        have HBd : Hid (bad (K : Int) (V : Int) a g t = 0) := hb
        clear hb
        obtain ⟨R, HR⟩ : ∃ R, Hid (hashL (byN (strE K V g t)) = R) := ⟨_, rfl⟩
        have HC : Hid (∀ (a : Int) (w : World), bad (K : Int) (V : Int) a g t = 0 → Lib.TabIs Tryd.prog w powName .u64 Lib.pow10Tab → Calls Tryd.prog 11 #[.agg #[.int .i64 (K : Nat), .int .i64 (V : Nat), .int .i64 a, .bool g, .string t]] w fun e w' => e = .returned (.tuple #[.int .i64 (R : Nat), .nilIface]) ∧ Below w.heap.size w w') := by
          rw [← HR.out]
          exact fun a w h hT => hentry_ok K V a g t h hK hV ht w hT
        clear HR
        go_wp2_with fail
        refine (HC.out a _ HBd.out (HT.out _ BE.out)).mono ?_
        rintro e wg ⟨rfl, hb⟩
        have BG : Hid (Below w.heap.size w wg) := BE.out.trans (hb.mono BE.out.size)
        have XG : Hid (BoxAt wg w.heap.size K V a g t) := XE.out.below hb XE.out.lt
        clear hb a0 a1 a2 a3 a4 af XE BE
        obtain ⟨a0, a1, a2, a3, a4, af⟩ := XG.out
        by_cases h1000 : 1000 ≤ a
        · go_wp2_with fail
          go_ret
          exact ⟨rfl, BG.out⟩
        · have HLt : Hid (bad (K : Int) (V : Int) (a + 1) g t = 0) := good_later HBd.out (by omega)
          have hvi : (0 : Int) ≤ a := by omega
          go_wp2_with fail
          have BH : Hid (Below w.heap.size w (wg.setCell ⟨w.heap.size, 2, none⟩ (.int .i64 (a + 1)))) := BG.out.setCell (Nat.le_refl _) _
          refine (HC.out (a + 1) _ HLt.out (HT.out _ BH.out)).mono ?_
          rintro e wh ⟨rfl, hb⟩
          have BI : Hid (Below w.heap.size w wh) := BH.out.trans (hb.mono BH.out.size)
          clear hb
          go_wp2_with fail
          go_ret
          exact ⟨rfl, BI.out⟩
      · obtain ⟨n, hn⟩ : ∃ n, bad k v a g t = n := ⟨_, rfl⟩
        rw [hn] at hb
        have HBd : Hid (bad k v a g t = n) := hn
        clear hn
        go_wp2_with fail
        refine (hentry_bad HBd.out hb _).mono ?_
        rintro e wg ⟨rfl, hbg⟩
        have BG : Hid (Below w.heap.size w wg) := BE.out.trans (hbg.mono BE.out.size)
        clear hbg
        go_wp2_with fail
        go_ret
        exact ⟨rfl, BG.out⟩
end Go.Proofs.YtddbbaaehgjhfadDoor
