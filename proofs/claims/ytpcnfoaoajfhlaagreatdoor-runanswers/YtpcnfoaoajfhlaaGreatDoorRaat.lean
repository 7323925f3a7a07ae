/-
  The points as the program makes them, on lists: each node's numbers in their turn, sorted.
  Package ring by its contracts: within, isNode, place, checkNodes; slices.Index and slices.Contains at numbers.
  Package ring by its contracts: areRight.
  The document's store (mereref1.Store) by its contracts: Key, At, Read.
  mereref1.Key by its contract (as the document's store has it).
-/
import Derived.Test.YtpcnfoaoajfhlaaGreatDoorRaas
import Derived.Shelf.SlSortCmp.NoneTotal
import Derived.Test.YtpcnfoaoajfhlaaGreatDoorRaar
import Derived.Test.YtpcnfoaoajfhlaaGreatDoorRaan
import Derived.Shelf.SlSortCmp.QuietGrown
import Derived.Test.YtpcnfoaoajfhlaaGreatDoorRaai
import Derived.Test.YtpcnfoaoajfhlaaGreatDoorRaaa
import Derived.Test.YtpcnfoaoajfhlaaGreatDoorRaab
namespace Go.Proofs.YtpcnfoaoajfhlaaGreatDoor
set_option linter.unusedVariables false
set_option linter.unusedSimpArgs false
set_option linter.unusedVariables false
set_option linter.unusedSimpArgs false
open Go.RowKit Go.Lib Go.Sort

/-- where a node's number i lies -/
def plP (n i : Nat) : Nat := pairH n i % 256
theorem plP_lt (n i : Nat) : plP n i < 256 := Nat.mod_lt _ (by omega)
/-- a node's points, of the numbers below j -/
def rawN (n : Int) (j : Nat) : List Pt := (List.range j).map (fun i => (⟨(plP n.toNat i : Int), n⟩ : Pt))
/-- the nodes' points, each in its turn -/
def rawL (each : Nat) : List Int → List Pt
  | [] => []
  | n :: l => rawN n each ++ rawL each l
theorem rawN_zero (n : Int) : rawN n 0 = [] := rfl
theorem rawN_succ (n : Int) (j : Nat) : rawN n (j + 1) = rawN n j ++ [⟨(plP n.toNat j : Int), n⟩] := by simp [rawN, List.range_succ]
theorem rawN_len (n : Int) (j : Nat) : (rawN n j).length = j := by simp [rawN]
theorem rawL_append (each : Nat) (l m : List Int) : rawL each (l ++ m) = rawL each l ++ rawL each m := by
  induction l with
  | nil => rfl
  | cons n l ih => simp only [List.cons_append, rawL, ih, List.append_assoc]
theorem rawL_take {each k : Nat} {nodes : List Int} (h : k < nodes.length) : rawL each (nodes.take (k + 1)) = rawL each (nodes.take k) ++ rawN nodes[k] each := by
  rw [List.take_succ_eq_append_getElem h, rawL_append]
  simp [rawL]
theorem rawL_len (each : Nat) (l : List Int) : (rawL each l).length = l.length * each := by
  induction l with
  | nil => simp [rawL]
  | cons n l ih => rw [rawL, List.length_append, rawN_len, ih, List.length_cons, Nat.add_mul, Nat.one_mul, Nat.add_comm]
theorem mem_rawN {n : Int} {j : Nat} {x : Pt} : x ∈ rawN n j ↔ ∃ i, i < j ∧ x = ⟨(plP n.toNat i : Int), n⟩ := by
  unfold rawN
  simp only [List.mem_map, List.mem_range]
  constructor
  · rintro ⟨i, h1, h2⟩
    exact ⟨i, h1, h2.symm⟩
  · rintro ⟨i, h1, h2⟩
    exact ⟨i, h1, h2.symm⟩
theorem mem_rawL {each : Nat} {x : Pt} : ∀ {l : List Int}, x ∈ rawL each l ↔ ∃ n ∈ l, ∃ i, i < each ∧ x = ⟨(plP n.toNat i : Int), n⟩ := by
  intro l
  induction l with
  | nil =>
    constructor
    · intro h
      cases h
    · rintro ⟨n, h, _⟩
      cases h
  | cons m l ih =>
    rw [rawL, List.mem_append, mem_rawN, ih]
    constructor
    · rintro (⟨i, h1, h2⟩ | ⟨n, h1, h2⟩)
      · exact ⟨m, by simp, i, h1, h2⟩
      · exact ⟨n, List.mem_cons_of_mem _ h1, h2⟩
    · rintro ⟨n, h1, h2⟩
      rcases List.mem_cons.1 h1 with rfl | h1
      · exact .inl h2
      · exact .inr ⟨n, h1, h2⟩
theorem rawN_nodup {n : Int} (h0 : 0 ≤ n) (h5 : n ≤ 5) {j : Nat} (hj : j ≤ 8) : (rawN n j).Nodup := by
  unfold rawN List.Nodup
  rw [List.pairwise_map]
  refine (List.nodup_range (n := j)).imp_of_mem (fun {a b} ha hb hab => ?_)
  intro e
  have e1 : (plP n.toNat a : Int) = (plP n.toNat b : Int) := congrArg Pt.p e
  have e2 : plP n.toNat a = plP n.toNat b := by omega
  have ha' := List.mem_range.1 ha
  have hb' := List.mem_range.1 hb
  exact hab (pairH_unlike (by omega) (by omega) (by omega) e2)
theorem rawL_nodup {each : Nat} (he : each ≤ 8) : ∀ {l : List Int}, (∀ x ∈ l, 0 ≤ x ∧ x ≤ 5) → l.Nodup → (rawL each l).Nodup := by
  intro l
  induction l with
  | nil => intro _ _; exact List.nodup_nil
  | cons m l ih =>
    intro h hn
    obtain ⟨h1, h2⟩ := List.nodup_cons.1 hn
    rw [rawL, List.nodup_append]
    refine ⟨rawN_nodup (h m (by simp)).1 (h m (by simp)).2 he, ih (fun x hx => h x (List.mem_cons_of_mem _ hx)) h2, fun a ha b hb e => ?_⟩
    subst e
    obtain ⟨i, _, e1⟩ := mem_rawN.1 ha
    obtain ⟨n, hn', j, _, e2⟩ := mem_rawL.1 hb
    have e3 : a.n = m := by rw [e1]
    have e4 : a.n = n := by rw [e2]
    rw [← e3, e4] at h1
    exact h1 hn'
theorem ltO (x y : Pt) : ltOf cfP x y = decide (ltP x y) := by
  unfold ltOf
  rw [decide_eq_decide]
  exact cfP_neg x y
theorem swoP : SWO (ltOf cfP) where
  irrefl x := by rw [ltO]; unfold ltP; simp
  trans x y z h1 h2 := by
    rw [ltO, decide_eq_true_eq] at *
    unfold ltP at *
    omega
  ntrans x y z h1 h2 := by
    rw [ltO, decide_eq_false_iff_not] at *
    unfold ltP at *
    omega
theorem totP (x y : Pt) (h1 : ltOf cfP x y = false) (h2 : ltOf cfP y x = false) : x = y := by
  rw [ltO, decide_eq_false_iff_not] at *
  unfold ltP at *
  exact pt_ext (by omega) (by omega)
/-- the points of right nodes, sorted, are the document's -/
theorem sort_is {nodes : List Int} {each : Nat} (hg : ∀ x ∈ nodes, 0 ≤ x ∧ x ≤ 5) (hn : nodes.Nodup) (he : each ≤ 8) : (rawL each nodes).mergeSort (fun x y => !(ltOf cfP) y x) = ptsL nodes each := by
  have hp := List.mergeSort_perm (rawL each nodes) (fun x y => !(ltOf cfP) y x)
  have hs := List.pairwise_mergeSort (le := fun x y => !(ltOf cfP) y x) (fun a b c h1 h2 => by
      simp only [Bool.not_eq_true'] at *
      exact swoP.ntrans c b a h2 h1) (fun a b => by
      cases h : ltOf cfP b a with
      | false => simp
      | true =>
        have : ltOf cfP a b = false := by
          cases h' : ltOf cfP a b with
          | false => rfl
          | true =>
            have := swoP.trans a b a h' h
            rw [swoP.irrefl] at this
            cases this
        simp [this]) (rawL each nodes)
  have hd := (hp.nodup_iff).2 (rawL_nodup he hg hn)
  refine rise_ext ((List.pairwise_and_iff.2 ⟨hs, hd⟩).imp (fun {a b} h => ?_)) (ptsU_rise _ _ _) (fun x => ?_)
  · obtain ⟨h1, h2⟩ := h
    simp only [Bool.not_eq_true'] at h1
    by_cases h3 : ltP a b
    · exact h3
    · exact absurd (totP a b (by rw [ltO]; simpa using h3) h1) h2
  · rw [hp.mem_iff, mem_rawL]
    unfold ptsL
    rw [mem_ptsU]
    constructor
    · rintro ⟨n, h1, i, h2, rfl⟩
      obtain ⟨g1, g2⟩ := hg n h1
      obtain ⟨m, rfl⟩ : ∃ m : Nat, n = (m : Int) := ⟨n.toNat, by omega⟩
      refine ⟨plP m i, m, plP_lt _ _, by omega, ?_, rfl⟩
      unfold hasN hitN
      rw [Bool.and_eq_true, List.any_eq_true]
      exact ⟨by simpa [List.contains_iff_mem] using h1, i, List.mem_range.2 h2, by simp [plP]⟩
    · rintro ⟨q, m, _, _, h, rfl⟩
      unfold hasN hitN at h
      rw [Bool.and_eq_true, List.any_eq_true] at h
      obtain ⟨h1, i, hi, h2⟩ := h
      refine ⟨(m : Int), by simpa [List.contains_iff_mem] using h1, i, List.mem_range.1 hi, ?_⟩
      have : pairH m i % 256 = q := by simpa using h2
      rw [← this]
      rfl
theorem pts_len_le {nodes : List Int} {each : Nat} (hg : ∀ x ∈ nodes, 0 ≤ x ∧ x ≤ 5) (hn : nodes.Nodup) (he : each ≤ 8) : (ptsL nodes each).length = nodes.length * each := by
  rw [← sort_is hg hn he, List.length_mergeSort, rawL_len]
/-- the points of right nodes are right -/
theorem pts_right {nodes : List Int} {each : Nat} (hg : ∀ x ∈ nodes, 0 ≤ x ∧ x ≤ 5) (hn : nodes.Nodup) (h1 : 1 ≤ each) (he : each ≤ 8) (hl : nodes.length ≤ 6) (h0 : nodes.length ≠ 0) : rightP (ptsL nodes each) = true := by
  have hlen := pts_len_le hg hn he
  have hm : nodes.length * each ≤ 6 * 8 := Nat.mul_le_mul hl he
  have hp : 0 < nodes.length * each := Nat.mul_pos (by omega) h1
  unfold rightP
  rw [right_of (ptsL nodes each) none (ptsU_rise _ _ _) (fun x hx => ?_) (fun y hy => by cases hy)]
  · rw [hlen]
    simp only [Bool.and_true, Bool.and_eq_true, decide_eq_true_eq]
    omega
  · obtain ⟨_, a1, a2, a3, a4⟩ := pts_node hx
    simp [inP, a1, a2, a3, a4]
/-- the place of a key -/
def keyT (k : Nat) : Int := (plP k k : Int)
end Go.Proofs.YtpcnfoaoajfhlaaGreatDoor

namespace Go.Proofs.YtpcnfoaoajfhlaaGreatDoor
set_option linter.unusedVariables false
set_option linter.unusedSimpArgs false
open Go.RowKit

theorem withinR_c (n lo hi : Int) (w : World) : Calls Tryz.prog 58 #[.int .i64 n, .int .i64 lo, .int .i64 hi] w fun e w' => e = .returned (.bool (inR n lo hi)) ∧ w' = w := by
  go_enter Tryz.func58, Tryz.ntmps58
  go_wp2_with fail
  · go_ret
    refine ⟨?_, rfl⟩
    rename_i h
    simp [inR, h]
  · go_ret
    refine ⟨?_, rfl⟩
    rename_i h
    have h2 : ¬ lo ≤ n := by omega
    simp [inR, h2]
theorem withinR_b (n lo hi : Int) (b : Bool) (w : World) (hb : inR n lo hi = b) : Calls Tryz.prog 58 #[.int .i64 n, .int .i64 lo, .int .i64 hi] w fun e w' => e = .returned (.bool b) ∧ w' = w := by
  subst hb
  exact withinR_c n lo hi w
theorem isNodeR_b (n : Int) (b : Bool) (w : World) (hb : inR n 0 5 = b) : Calls Tryz.prog 103 #[.int .i64 n] w fun e w' => e = .returned (.bool b) ∧ w' = w := by
  have H : Hid (inR n 0 5 = b) := hb
  clear hb
  go_enter Tryz.func103, Tryz.ntmps103
  go_wp2_with (go_at_call 58; refine (withinR_b _ _ _ b _ H.out).mono ?_; rintro e w' ⟨rfl, rfl⟩)
  go_ret
  exact ⟨rfl, rfl⟩

set_option maxHeartbeats 1000000 in
theorem placeR_c (a b : Nat) (w : World) (ha : a ≤ 4294967295) (hb : b ≤ 4294967295) (hT : Lib.TabIs Tryz.prog w powName .u64 Lib.pow10Tab) :
    Calls Tryz.prog 59 #[.int .i64 (a : Nat), .int .i64 (b : Nat)] w fun e w' => e = .returned (.tuple #[.int .i64 (plP a b : Nat), .nilIface]) ∧ Below w.heap.size w w' := by
  have HC : Hid _ := two_ok a b w ha hb hT
  have e0 : plP a b = hashL (byN (str2 a b)) % 256 := rfl
  rw [e0]
  clear e0 hT
  have hlt : hashL (byN (str2 a b)) < 4294967296 := hashL_lt _
  generalize hashL (byN (str2 a b)) = x at HC hlt ⊢
  go_enter Tryz.func59, Tryz.ntmps59
  go_wp2_with fail
  refine Calls.mono HC.out ?_
  rintro e w1 ⟨rfl, hb⟩
  have HB : Hid (Below w.heap.size w w1) := hb
  clear hb
  go_wp2_with fail
  go_ret2
  exact ⟨rfl, HB.out⟩

theorem nat_zero {n : Nat} (h : n = 0) : ((n : Int) == 0) = true := by simp [h]
theorem nat_some {n : Nat} (h : n ≠ 0) : ((n : Int) == 0) = false := by simp; exact h
theorem badNodes_zero {l : List Int} (h : l.length = 0) : badNodes l = 5 := by rw [badNodes, if_pos h]
theorem badNodes_full {l : List Int} (h : 6 < l.length) : badNodes l = 4 := by rw [badNodes, if_neg (by omega), if_pos h]
theorem badNodes_else {l : List Int} (h0 : l.length ≠ 0) (h : ¬ 6 < l.length) : badNodes l = badFrom (l.take 0) (l.drop 0) := by rw [badNodes, if_neg h0, if_neg h]; rfl
theorem badFrom_range {l : List Int} {j : Nat} (h : j < l.length) (hr : inR l[j] 0 5 = false) : badFrom (l.take j) (l.drop j) = 1 := by
  rw [badFrom_step h, if_pos]
  simp [inR] at hr
  omega
theorem badFrom_clash {l : List Int} {j : Nat} (h : j < l.length) (hr : inR l[j] 0 5 = true) (hc : (l.take j).contains l[j] = true) : badFrom (l.take j) (l.drop j) = 7 := by
  rw [badFrom_step h, if_neg, if_pos hc]
  simp [inR] at hr
  omega
theorem badFrom_next {l : List Int} {j : Nat} (h : j < l.length) (hr : inR l[j] 0 5 = true) (hc : (l.take j).contains l[j] = false) : badFrom (l.take j) (l.drop j) = badFrom (l.take (j + 1)) (l.drop (j + 1)) := by
  rw [badFrom_step h, if_neg, if_neg (by rw [hc]; simp)]
  simp [inR] at hr
  omega
set_option maxHeartbeats 4000000 in
theorem checkNodes_c (v : Value) (l : List Int) (w : World) (hr : IntsIs w v l) (hcap : CapOk v l.length) :
    Calls Tryz.prog 57 #[v] w fun e w' => e = .returned (eV (badNodes l)) ∧ w' = w := by
  obtain ⟨p, cap, rfl, hc1, hc2⟩ := hcap
  have HRow : Hid (IntsIs w (.slice p l.length cap) l) := hr
  obtain ⟨_, q, c, e, hrow⟩ := hr
  injection e with e1 e2 e3
  subst e1
  have HR : Hid (l ≠ [] → ∃ bb o, p = some ⟨bb, o, none⟩ ∧ bb < w.heap.size ∧ ∀ j (h : j < l.length), w.cell? ⟨bb, o + j, none⟩ = some (.int .i64 l[j])) := hrow
  clear hrow e2 e3
  by_cases h0 : l.length = 0
  · rw [badNodes_zero h0, eV_err (by omega)]
    have hi0 := nat_zero h0
    clear HR HRow
    generalize l.length = n at *
    go_enter Tryz.func57, Tryz.ntmps57
    go_wp2_with fail
    go_ret
    exact ⟨rfl, rfl⟩
  by_cases h6 : 6 < l.length
  · rw [badNodes_full h6, eV_err (by omega)]
    have hi0 := nat_some h0
    have hi6 : (6 : Int) < (l.length : Int) := by omega
    clear HR HRow
    generalize l.length = n at *
    go_enter Tryz.func57, Tryz.ntmps57
    go_wp2_with fail
    go_ret
    exact ⟨rfl, rfl⟩
  rw [badNodes_else h0 h6]
  obtain ⟨R, HE⟩ : ∃ R, Hid (badFrom (l.take 0) (l.drop 0) = R) := ⟨_, rfl⟩
  rw [HE.out]
  have hi0 := nat_some h0
  have hi6 : ¬ (6 : Int) < (l.length : Int) := by omega
  obtain ⟨n, HN⟩ : ∃ n, Hid (l.length = n) := ⟨_, rfl⟩
  rw [HN.out] at hc1 h0 h6 hi0 hi6 HRow ⊢
  have hc63 : cap ≤ 9223372036854775807 := hc2
  go_enter Tryz.func57, Tryz.ntmps57
  go_wp2_with fail
  go_loopw [15] (fun i wr => ∃ j : Nat, j ≤ n ∧ i = .int .i64 j ∧ Hid (badFrom (l.take j) (l.drop j) = R) ∧ wr = w) (fun i _ => n - (intOf i).toNat)
  case atStart => exact ⟨0, Nat.zero_le _, rfl, HE, rfl⟩
  case round =>
    obtain ⟨j, hj, rfl, HJ, rfl⟩ := hrel
    by_cases hlt : j < n
    · have hja : j < l.length := by rw [HN.out]; exact hlt
      obtain ⟨ba, oa, hp, hbwa, hata⟩ := HR.out (fun h => by simp [h] at hja)
      have c0 := hata j hja
      clear hata
      subst hp
      have HRow' : Hid (IntsIs wr (.slice (some ⟨ba, oa, none⟩) l.length cap) l) := by rw [HN.out]; exact HRow
      have hlti : (j : Int) < (n : Int) := by omega
      cases hin : inR l[j] 0 5
      · have HRv : Hid (R = 1) := HJ.out.symm.trans (badFrom_range hja hin)
        have HIn : Hid (inR l[j] 0 5 = false) := hin
        clear hin
        generalize l[j] = x at *
        go_wp2_with (go_at_call 103; refine (isNodeR_b x false _ HIn.out).mono ?_; rintro e w' ⟨rfl, rfl⟩)
        go_ret
        refine ⟨?_, rfl⟩
        rw [HRv.out, eV_err (by omega)]
        rfl
      · have HIn : Hid (inR l[j] 0 5 = true) := hin
        cases hco : (l.take j).contains l[j]
        · have HRv : Hid (badFrom (l.take (j + 1)) (l.drop (j + 1)) = R) := (badFrom_next hja hin hco).symm.trans HJ.out
          have HCo : Hid ((l.take j).contains l[j] = false) := hco
          clear hin hco
          generalize l[j] = x at *
          go_wp2_with fail
          refine (isNodeR_b x true _ HIn.out).mono ?_
          rintro e w' ⟨rfl, rfl⟩
          go_wp2_with fail
          refine (containsI_c _ (l.take j) x false _ (IntsIs.take HRow'.out (by rw [HN.out]; exact hj) (fun _ => rfl)) HCo.out).mono ?_
          rintro e w2 ⟨rfl, rfl⟩
          go_wp2_with fail
          go_roundw
          case rel => exact ⟨j + 1, by omega, by go_num, HRv, trivial⟩
          case measure => simp [intOf]; omega
        · have HRv : Hid (R = 7) := HJ.out.symm.trans (badFrom_clash hja hin hco)
          have HCo : Hid ((l.take j).contains l[j] = true) := hco
          clear hin hco
          generalize l[j] = x at *
          go_wp2_with fail
          refine (isNodeR_b x true _ HIn.out).mono ?_
          rintro e w' ⟨rfl, rfl⟩
          go_wp2_with fail
          refine (containsI_c _ (l.take j) x true _ (IntsIs.take HRow'.out (by rw [HN.out]; exact hj) (fun _ => rfl)) HCo.out).mono ?_
          rintro e w2 ⟨rfl, rfl⟩
          go_wp2_with fail
          go_ret
          refine ⟨?_, rfl⟩
          rw [HRv.out, eV_err (by omega)]
          rfl
    · obtain rfl : j = n := by omega
      have HR0 : Hid (R = 0) := by
        show R = 0
        rw [← HJ.out, List.drop_eq_nil_of_le (by rw [HN.out]; exact Nat.le_refl _)]
        rfl
      go_wp2_with fail
      go_ret
      exact ⟨by rw [HR0.out, eV_zero]; rfl, rfl⟩
end Go.Proofs.YtpcnfoaoajfhlaaGreatDoor

namespace Go.Proofs.YtpcnfoaoajfhlaaGreatDoor
set_option linter.unusedVariables false
set_option linter.unusedSimpArgs false
open Go.RowKit Go.Sort

theorem below_growD (B : Nat) (w : World) (n : Nat) (os : Array Obj) (hB : B ≤ w.heap.size) : Below B w (grow (w.drewN n) os) := by
  refine ⟨rfl, rfl, rfl, ?_, fun c hc => ?_⟩
  · show w.heap.size ≤ (w.heap ++ os).size
    simp
  · show (w.heap ++ os)[c]? = w.heap[c]?
    rw [Array.getElem?_append_left (Nat.lt_of_lt_of_le hc hB)]
theorem inP_in (p n : Int) : inP ⟨p, n⟩ = (inR p 0 255 && inR n 0 5) := rfl
theorem rightP_len {l : List Pt} (h : inR (l.length : Int) 1 48 = false) : rightP l = false := by
  unfold rightP
  simp [inR] at h
  by_cases h1 : 1 ≤ l.length
  · have : ¬ l.length ≤ 48 := by have := h (by omega); omega
    simp [this]
  · simp [h1]
theorem rightP_else {l : List Pt} (h : inR (l.length : Int) 1 48 = true) : rightP l = rightFrom (aheadP l 0) (l.drop 0) := by
  unfold rightP
  simp [inR] at h
  have h1 : 1 ≤ l.length := by omega
  have h2 : l.length ≤ 48 := by omega
  rw [decide_eq_true h1, decide_eq_true h2]
  rfl
theorem ahead_zero (l : List Pt) : aheadP l 0 = none := rfl
theorem ahead_succ {l : List Pt} {j : Nat} (h : j < l.length) : aheadP l (j + 1) = some l[j] := by simp [aheadP, h]
set_option maxHeartbeats 8000000 in
theorem areRight_c (v : Value) (l : List Pt) (w : World) (hr : PtsIs w v l) :
    Calls Tryz.prog 109 #[v] w fun e w' => e = .returned (.bool (rightP l)) ∧ Below w.heap.size w w' := by
  obtain ⟨hlen, pp, cap, rfl, hrow⟩ := hr
  have HRow : Hid (l ≠ [] → ∃ b o, pp = some ⟨b, o, none⟩ ∧ b < w.heap.size ∧ ∀ j (h : j < l.length), PtAt w b (o + j * 2) l[j]) := hrow
  clear hrow
  cases hin : inR (l.length : Int) 1 48
  · rw [rightP_len hin]
    have HIn : Hid (inR (l.length : Int) 1 48 = false) := hin
    clear hin HRow
    generalize l.length = n at *
    go_enter Tryz.func109, Tryz.ntmps109
    go_wp2_with (go_at_call 58; refine (withinR_b _ _ _ false _ HIn.out).mono ?_; rintro e w' ⟨rfl, rfl⟩)
    go_ret
    exact ⟨rfl, Below.refl _ _⟩
  · rw [rightP_else hin]
    have HIn : Hid (inR (l.length : Int) 1 48 = true) := hin
    clear hin
    obtain ⟨n, HN⟩ : ∃ n, Hid (l.length = n) := ⟨_, rfl⟩
    rw [HN.out] at hlen HIn ⊢
    have hn63 : n ≤ 9223372036854775807 := hlen
    obtain ⟨R, HR⟩ : ∃ R, Hid (rightFrom (aheadP l 0) (l.drop 0) = R) := ⟨_, rfl⟩
    rw [HR.out]
    go_enter Tryz.func109, Tryz.ntmps109
    go_wp2_with (go_at_call 58; refine (withinR_b _ _ _ true _ HIn.out).mono ?_; rintro e w' ⟨rfl, hw⟩; have hw' := hw.symm; clear hw; subst hw')
    go_loopw [11] (fun i wr => ∃ j : Nat, j ≤ n ∧ i = .int .i64 j ∧ Hid (R = rightFrom (aheadP l j) (l.drop j)) ∧ Hid (Below w.heap.size w wr)) (fun i _ => n - (intOf i).toNat)
    case atStart => exact ⟨0, Nat.zero_le _, rfl, HR.out.symm, Below.refl _ _⟩
    case round =>
      obtain ⟨j, hj, rfl, HJ, HB⟩ := hrel
      by_cases hlt : j < n
      · have hlti : (j : Int) < (n : Int) := by omega
        have hjl : j < l.length := by rw [HN.out]; exact hlt
        obtain ⟨b, o, rfl, hbw, hat⟩ := HRow.out (fun h => by simp [h] at hjl)
        have HAt : Hid (PtAt wr b (o + j * 2) l[j]) := (hat j hjl).of_block (HB.out.block b hbw)
        have HStep : Hid (R = (inP l[j] && behindB (aheadP l j) l[j] && rightFrom (aheadP l (j + 1)) (l.drop (j + 1)))) := HJ.out.trans (right_step hjl)
        have HPrev : Hid (∀ i, j = i + 1 → ∃ y, aheadP l j = some y ∧ PtAt wr b (o + i * 2) y) := fun i hi => by
          subst hi
          exact ⟨_, ahead_succ (by omega), (hat i (by omega)).of_block (HB.out.block b hbw)⟩
        have HZ : Hid (j = 0 → aheadP l j = none) := fun h => by rw [h]; rfl
        clear hat
        obtain ⟨x, HX⟩ : ∃ x, Hid (l[j] = x) := ⟨l[j], show l[j] = l[j] from rfl⟩
        rw [HX.out] at HAt HStep
        obtain ⟨x0, x1⟩ := x
        obtain ⟨c0, c1⟩ := HAt.out
        dsimp only at c0 c1
        rw [inP_in] at HStep
        obtain ⟨R', HR1⟩ : ∃ R', Hid (R' = rightFrom (aheadP l (j + 1)) (l.drop (j + 1))) := ⟨_, rfl⟩
        rw [← HR1.out] at HStep
        cases h0 : inR x0 0 255
        · have HI0 : Hid (inR x0 0 255 = false) := h0
          have HRf : Hid (R = false) := by show R = false; rw [HStep.out, h0]; rfl
          clear h0
          go_wp2_with (go_at_call 58; refine (withinR_b _ _ _ false _ HI0.out).mono ?_; rintro e w' ⟨rfl, rfl⟩)
          go_ret
          exact ⟨by rw [HRf.out]; rfl, HB.out.alloc HB.out.size _⟩
        · have HI0 : Hid (inR x0 0 255 = true) := h0
          cases h1 : inR x1 0 5
          · have HI1 : Hid (inR x1 0 5 = false) := h1
            have HRf : Hid (R = false) := by show R = false; rw [HStep.out, h0, h1]; rfl
            clear h0 h1
            go_wp2_with (first
              | (go_at_call 58; refine (withinR_b _ _ _ true _ HI0.out).mono ?_; rintro e w' ⟨rfl, rfl⟩)
              | (go_at_call 103; refine (isNodeR_b _ false _ HI1.out).mono ?_; rintro e w' ⟨rfl, rfl⟩))
            go_ret
            exact ⟨by rw [HRf.out]; rfl, HB.out.alloc HB.out.size _⟩
          · have HI1 : Hid (inR x1 0 5 = true) := h1
            have HRs : Hid (R = (behindB (aheadP l j) ⟨x0, x1⟩ && R')) := by show R = _; rw [HStep.out, h0, h1]; rfl
            clear h0 h1 HStep
            go_upto_region 8 with (first
              | (go_at_call 58; refine (withinR_b _ _ _ true _ HI0.out).mono ?_; rintro e w' ⟨rfl, hw⟩; have hw' := hw.symm; clear hw; subst hw')
              | (go_at_call 103; refine (isNodeR_b _ true _ HI1.out).mono ?_; rintro e w' ⟨rfl, hw⟩; have hw' := hw.symm; clear hw; subst hw'))
            obtain ⟨w1, HW⟩ : ∃ w1, w1 = wr.alloc (.cells #[.int .i64 x0, .int .i64 x1] 110) := ⟨_, rfl⟩
            rw [← HW]
            have HB1 : Hid (Below w.heap.size w w1) := by rw [HW]; exact HB.out.alloc HB.out.size _
            have HW1 : Hid (Below wr.heap.size wr w1) := by rw [HW]; exact (Below.refl _ _).alloc (Nat.le_refl _) _
            have HBox : Hid (BoxP w1 wr.heap.size x0 x1) := by rw [HW]; exact boxP_new wr x0 x1 _ rfl
            clear HW c0 c1
            by_cases hz : j = 0
            · have HRs' : Hid (R = R') := by show R = R'; rw [HRs.out, HZ.out hz]; rfl
              have hg : decide ((0 : Int) < (j : Int)) = false := by simp [hz]
              have hg' : ¬ ((0 : Int) < (j : Int)) := by omega
              go_quiet (fail)
              go_wp2_with fail
              go_roundw
              case rel => exact ⟨j + 1, by omega, by go_num, HRs'.out.trans HR1.out, HB1.out.trans (below_drewN _ _ _)⟩
              case measure => simp [intOf]; omega
            · obtain ⟨i, hi⟩ : ∃ i, j = i + 1 := ⟨j - 1, by omega⟩
              obtain ⟨y, HY, HYat⟩ := HPrev.out i hi
              have HY1 : Hid (PtAt w1 b (o + i * 2) y) := HYat.of_block (HW1.out.block b (World.block_lt_of_cell? wr _ HYat.c0))
              rw [HY] at HRs
              clear HPrev HZ HY HYat hz
              subst hi
              obtain ⟨y0, y1⟩ := y
              obtain ⟨c, HC⟩ : ∃ c, Hid (cfP ⟨y0, y1⟩ ⟨x0, x1⟩ = c) := ⟨_, rfl⟩
              have HCall : Hid (∀ n os, Calls Tryz.prog 61 #[.agg #[.int .i64 y0, .int .i64 y1], .agg #[.int .i64 x0, .int .i64 x1]] (grow (w1.drewN n) os) fun e w' => e = .returned (.int .i64 c) ∧ ∃ q os', w' = grow ((grow (w1.drewN n) os).drewN q) os') := fun n os => by
                rw [← HC.out]
                exact cmpP_c y0 y1 x0 x1 _
              have hbl : b < w1.heap.size := Nat.lt_of_lt_of_le hbw HB1.out.size
              have d0 := fun n os => cell_grown (a := ⟨b, o + i * 2, none⟩) hbl HY1.out.c0 n os
              have d1 := fun n os => cell_grown (a := ⟨b, o + i * 2 + 1, none⟩) hbl HY1.out.c1 n os
              have e0 := fun n os => cell_grown (a := ⟨wr.heap.size, 0, none⟩) HBox.out.lt HBox.out.c0 n os
              have e1 := fun n os => cell_grown (a := ⟨wr.heap.size, 1, none⟩) HBox.out.lt HBox.out.c1 n os
              dsimp only at d0 d1
              have mixed : Tryz.prog.follows .mixedOrders = true := by kernel_rfl
              have hg1 : decide ((0 : Int) < ((i + 1 : Nat) : Int)) = true := decide_eq_true (by omega)
              have hg2 : (0 : Int) < ((i + 1 : Nat) : Int) := by omega
              have hwp : IntKind.i64.wrap (i : Int) = (i : Int) := by rw [IntKind.wrap_i64]; omega
              have hin : (i : Int) < (n : Int) := by omega
              have hin' : (i : Int) + 1 < (n : Int) := by omega
              by_cases hc : c < 0
              · have HRs' : Hid (R = R') := by
                  show R = R'
                  rw [HRs.out]
                  have : ltP ⟨y0, y1⟩ ⟨x0, x1⟩ := (cfP_neg _ _).1 (by rw [HC.out]; exact hc)
                  simp [behindB, this]
                have hcb : decide (0 ≤ c) = false := decide_eq_false (by omega)
                go_quiet_grown (first | (go_at_call 61; refine Calls.grown_of (HCall.out _ _)))
                go_wp2_with fail
                go_roundw
                case rel => exact ⟨i + 1 + 1, by omega, by go_num, HRs'.out.trans HR1.out, HB1.out.trans (below_growD _ _ _ _ HB1.out.size)⟩
                case measure => simp [intOf]; omega
              · have HRf : Hid (R = false) := by
                  show R = false
                  rw [HRs.out]
                  have : ¬ ltP ⟨y0, y1⟩ ⟨x0, x1⟩ := fun h => hc (by rw [← HC.out]; exact (cfP_neg _ _).2 h)
                  simp [behindB, this]
                have hcb : decide (0 ≤ c) = true := decide_eq_true (by omega)
                go_quiet_grown (first | (go_at_call 61; refine Calls.grown_of (HCall.out _ _)))
                go_wp2_with fail
                go_ret
                exact ⟨by rw [HRf.out]; rfl, HB1.out.trans (below_growD _ _ _ _ HB1.out.size)⟩
      · obtain rfl : j = n := by omega
        have HR0 : Hid (R = true) := by
          show R = true
          rw [HJ.out, List.drop_eq_nil_of_le (by rw [HN.out]; exact Nat.le_refl _)]
          rfl
        go_wp2_with fail
        go_ret
        exact ⟨by rw [HR0.out]; rfl, HB.out⟩
end Go.Proofs.YtpcnfoaoajfhlaaGreatDoor

namespace Go.Proofs.YtpcnfoaoajfhlaaGreatDoor
set_option linter.unusedVariables false
set_option linter.unusedSimpArgs false
open Go.RowKit

theorem refKey_c (k : Int) (w : World) : Calls Tryz.prog 47 #[.int .i64 k] w fun e w' => e = .returned (.bool (stK k)) ∧ w' = w := by
  by_cases h : 0 ≤ k
  · have hd : decide (0 ≤ k) = true := by simpa using h
    go_enter Tryz.func47, Tryz.ntmps47
    go_wp2
    go_ret
    have e : decide (k ≤ 7) = decide (k < 8) := decide_eq_decide.2 ⟨fun h => by omega, fun h => by omega⟩
    exact ⟨by simp [stK, h, e], rfl⟩
  · have hd : decide (0 ≤ k) = false := by simpa using h
    go_enter Tryz.func47, Tryz.ntmps47
    go_wp2
    go_ret
    exact ⟨by simp [stK, h] <;> omega, rfl⟩
theorem refKey_b (k : Int) (b : Bool) (w : World) (h : stK k = b) : Calls Tryz.prog 47 #[.int .i64 k] w fun e w' => e = .returned (.bool b) ∧ w = w' := by
  subst h; exact (refKey_c k w).mono fun _ _ h => ⟨h.1, h.2.symm⟩

/-- the document's store at block b holds what was done; its blocks are in G -/
def RefIs (w : World) (b : Nat) (l : List Deed) (G : Nat → Prop) : Prop :=
  ∃ v, w.cell? ⟨b, 0, none⟩ = some v ∧ w.frozen? ⟨b, 0, none⟩ = false ∧ w.ownsRow 0 46 5 v l.length (rowE l) ∧ v.ownBlock ≠ some b ∧ (∀ c, v.ownBlock = some c → G c) ∧ G b ∧ (∀ c, G c → c < w.heap.size) ∧ l.length ≤ 1000
theorem RefIs.blocks {w w' : World} {b : Nat} {l : List Deed} {G : Nat → Prop} (h : RefIs w b l G) (hs : w.heap.size ≤ w'.heap.size) (hb : ∀ c, G c → w'.heap[c]? = w.heap[c]?) : RefIs w' b l G := by
  obtain ⟨v, c0, f0, ho, hn, hg, Gb, Gl, hl⟩ := h
  have eb := hb b Gb
  exact ⟨v, (World.cell?_of_block (a := ⟨b, 0, none⟩) eb).trans c0, (World.frozen?_of_block (a := ⟨b, 0, none⟩) eb).trans f0, ownsRow_blocks ho (fun g hg' => hb g (hg g hg')), hn, hg, Gb, fun c hc => Nat.lt_of_lt_of_le (Gl c hc) hs, hl⟩
theorem RefIs.lt {w : World} {b : Nat} {l : List Deed} {G : Nat → Prop} (h : RefIs w b l G) : ∀ c, G c → c < w.heap.size := by
  obtain ⟨v, c0, f0, ho, hn, hg, Gb, Gl, hl⟩ := h
  exact Gl
theorem RefIs.below {w w' : World} {b : Nat} {l : List Deed} {G : Nat → Prop} (h : RefIs w b l G) (hb : Below w.heap.size w w') : RefIs w' b l G :=
  h.blocks hb.size (fun c hc => hb.block c (h.lt c hc))
theorem RefIs.kept {w w' : World} {b : Nat} {l : List Deed} {F G : Nat → Prop} (h : RefIs w b l G) (hb : Kept F w w') (hn : ∀ c, G c → ¬ F c) : RefIs w' b l G :=
  h.blocks hb.size (fun c hc => hb.block c (h.lt c hc) (hn c hc))

set_option maxHeartbeats 1000000 in
theorem refAt_c (b : Nat) (k : Int) (s : Nat) (l : List Deed) (G : Nat → Prop) (w : World) (hs : s ≤ l.length) (h : RefIs w b l G) :
    Calls Tryz.prog 138 #[.pointer (some ⟨b, 0, none⟩), .int .i64 k, .int .i64 s] w fun e w' => e = .returned (entAt l k s).val ∧ Below w.heap.size w w' := by
  obtain ⟨v, c0, f0, ho, hn, hg, Gb, Gl, hl⟩ := h
  have lb := Gl b Gb
  clear Gl Gb hg f0
  have HC : Hid (∀ g, v.ownBlock = some g → ∀ j u, (rowE l)[j]? = some u → w.cell? ⟨g, j, none⟩ = some u) := fun g hg j u hu => by
    have := ho.cells (g := g) hg j u hu
    simpa [Addr.add_lit] using this
  have HV : Hid (v = .slice none 0 0 ∧ l.length = 0 ∨ ∃ g cap, v = .slice (some ⟨g, 0, none⟩) l.length cap ∧ g < w.heap.size) := by
    rcases ho.2 with ⟨rfl, h0⟩ | ⟨g, cap, cur, rfl, _, hgg, _⟩
    · exact .inl ⟨rfl, h0⟩
    · exact .inr ⟨g, cap, rfl, (Array.getElem?_eq_some_iff.1 hgg).1⟩
  clear ho hn
  have hs1 : (s : Int) ≤ 1000 := by omega
  go_enter Tryz.func138, Tryz.ntmps138
  go_wp2_with fail
  go_loopw [8] (fun i wr => ∃ j : Nat, j ≤ s ∧ i = .int .i64 j ∧ ∃ ver gone text, Hid (lastOf (l.take j) k = ⟨ver, gone, text⟩) ∧ wr = (w.alloc (.cells #[.int .i64 0, .int .i64 0, .int .i64 0, .bool false, .string ⟨#[]⟩] 46)).alloc (.cells #[.int .i64 k, .int .i64 ver, .int .i64 s, .bool gone, .string text] 46)) (fun i _ => s - (intOf i).toNat)
  case atStart => exact ⟨0, Nat.zero_le _, rfl, 0, true, ByteArray.empty, rfl, rfl⟩
  case round =>
    obtain ⟨j, hj, rfl, ver, gone, text, HL, rfl⟩ := hrel
    by_cases hlt : j < s
    · have hjl : j < l.length := by omega
      rcases HV.out with ⟨rfl, h0⟩ | ⟨g, cap, rfl, hgl⟩
      · omega
      · have hgg := rowE_get l j hjl
        have x0 := HC.out g rfl _ _ hgg.1
        have x3 := HC.out g rfl _ _ hgg.2.1
        have x4 := HC.out g rfl _ _ hgg.2.2
        clear hgg
        by_cases hk : l[j].key = k
        · have hkb : (l[j].key == k) = true := by simp [hk]
          have HN : Hid (lastOf (l.take (j + 1)) k = ⟨(j : Int) + 1, l[j].gone, l[j].text⟩) := lastOf_take_hit l k j hjl hk
          clear HL hk
          go_wp2
          go_roundw
          case rel => exact ⟨j + 1, by omega, by go_num, _, _, _, HN, rfl⟩
          case measure => simp [intOf]; omega
        · have hkb : (l[j].key == k) = false := by simp [hk]
          have HN : Hid (lastOf (l.take (j + 1)) k = ⟨ver, gone, text⟩) := (lastOf_take_miss l k j hjl hk).trans HL.out
          clear HL hk
          go_wp2
          go_roundw
          case rel => exact ⟨j + 1, by omega, by go_num, _, _, _, HN, rfl⟩
          case measure => simp [intOf]; omega
    · obtain rfl : j = s := by omega
      have HE : Hid ((entAt l k j).val = .agg #[.int .i64 k, .int .i64 ver, .int .i64 j, .bool gone, .string text]) := by
        unfold Hid entAt Ent.val
        rw [HL.out]
      go_wp2
      refine bodyPost_ret (v := .agg #[.int .i64 k, .int .i64 ver, .int .i64 j, .bool gone, .string text]) (by simp [results, Tryz.results138, go_sem]) rfl ?_
      exact ⟨by rw [HE.out], by go_grown⟩
end Go.Proofs.YtpcnfoaoajfhlaaGreatDoor

namespace Go.Proofs.YtpcnfoaoajfhlaaGreatDoor
set_option linter.unusedVariables false
set_option linter.unusedSimpArgs false
end Go.Proofs.YtpcnfoaoajfhlaaGreatDoor
