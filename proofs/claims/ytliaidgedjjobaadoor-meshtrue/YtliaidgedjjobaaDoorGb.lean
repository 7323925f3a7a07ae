/-
  A swap of two caches on lists: each is given what the other one has of some keys.
  Two trees whose ends were made alike where they parted are alike, whatever numbers are alike.
  Rows of numbers with their room; slices.Index and slices.Contains at numbers (beside the trees' rows of numbers).
  A swap on lists: which keys may be asked for, what each gives, what both have then, and that their trees part no more.
  Package swap by its contracts: isKey, checkKeys, Give.
  Package swap by its contracts: Lacks, take, Pair.
  Package swap by its contracts: Pair where it goes, and that what comes back is new.
-/
import Derived.Test.YtliaidgedjjobaaDoorCaJ
import Derived.Test.YtliaidgedjjobaaDoorTrP
import Derived.Test.YtliaidgedjjobaaDoorTrA
import Derived.Test.YtliaidgedjjobaaDoorTrQ
import Derived.Test.YtliaidgedjjobaaDoorTrD
import Derived.Test.YtliaidgedjjobaaDoorCaB
namespace Go.Proofs.YtliaidgedjjobaaDoor
set_option linter.unusedVariables false
set_option linter.unusedSimpArgs false
set_option linter.unusedVariables false
set_option linter.unusedSimpArgs false
open Go.RowKit

/-- the entries of some keys -/
def someE (l : List En) (K : List Int) : List En := l.filter (fun e => K.contains e.k)
theorem someE_good {l : List En} {K : List Int} (h : GoodL l) : GoodL (someE l K) :=
  GoodL.of (List.Pairwise.sublist List.filter_sublist h.rise) (fun e he => h.all e (List.mem_filter.1 he).1)
theorem someE_at {l : List En} {K : List Int} (h : GoodL l) (k : Int) : getE (someE l K) k = if K.contains k = true then getE l k else none := by
  apply opt_ext
  intro x
  rw [getE_iff (someE_good h).rise]
  unfold someE
  rw [List.mem_filter]
  by_cases hc : K.contains k = true
  · rw [if_pos hc, getE_iff h.rise]
    constructor
    · rintro ⟨⟨h1, _⟩, h2⟩
      exact ⟨h1, h2⟩
    · rintro ⟨h1, h2⟩
      exact ⟨⟨h1, by rw [h2]; exact hc⟩, h2⟩
  · rw [if_neg hc]
    constructor
    · rintro ⟨⟨_, h1⟩, h2⟩
      rw [h2] at h1
      exact absurd h1 hc
    · intro h1
      cases h1
theorem someE_nil (l : List En) : someE l [] = [] := by
  unfold someE
  rw [List.filter_eq_nil_iff]
  intro e _
  simp
theorem someE_none (K : List Int) : someE [] K = [] := rfl
theorem known_fun {a b c d : En} (hc : Known a b c) (hd : Known a b d) : c = d := by
  obtain ⟨_, hc⟩ := hc
  obtain ⟨_, hd⟩ := hd
  rcases hc with ⟨h1, h2, h3, h4, rfl⟩ | ⟨h1, h2, h3, h4, rfl⟩ | ⟨h1, h2, rfl⟩ | ⟨h1, h2, rfl⟩ <;> rcases hd with ⟨g1, g2, g3, g4, rfl⟩ | ⟨g1, g2, g3, g4, rfl⟩ | ⟨g1, g2, rfl⟩ | ⟨g1, g2, rfl⟩ <;> first | rfl | (exfalso; omega)
theorem bad_time {e : En} (h : e.bad = 0) : e.v ≤ e.a := by
  unfold En.bad bad at h
  split at h
  · omega
  · rename_i h1
    simp [inR] at h1
    omega
theorem known_one {a b x y : Option En} (hx : KnownAt a b x) (hy : KnownAt a b y) : x = y := by
  cases a with
  | none =>
    cases b with
    | none => simp only [KnownAt] at hx hy; rw [hx, hy]
    | some b => simp only [KnownAt] at hx hy; rw [hx, hy]
  | some a =>
    cases b with
    | none => simp only [KnownAt] at hx hy; rw [hx, hy]
    | some b =>
      simp only [KnownAt] at hx hy
      obtain ⟨c, rfl, hc⟩ := hx
      obtain ⟨d, rfl, hd⟩ := hy
      rw [known_fun hc hd]
/-- what one has behind it -/
def giveE (a b : List En) (K : List Int) : List En × Int := allE a (someE b K)
theorem give_good {a b x : List En} {K : List Int} (ha : GoodL a) (hb : GoodL b) (h : giveE a b K = (x, 0)) : GoodL x ∧ ∀ k, KnownAt (getE a k) (if K.contains k = true then getE b k else none) (getE x k) := by
  have h1 : cacheBoth a (someE b K) = (x, 0) := by
    rw [cacheBoth, if_neg (by simpa using ha.bad), if_neg (by simpa using (someE_good hb).bad)]
    exact h
  obtain ⟨_, _, gx, hm⟩ := both_good h1
  refine ⟨gx, fun k => ?_⟩
  have := hm k
  rw [someE_at hb k] at this
  exact this
theorem known_none {a x : Option En} (h : KnownAt a none x) : x = a := by
  cases a <;> simpa [KnownAt] using h
/-- of a key that is not told each has what it had -/
theorem give_off {a b x : List En} {K : List Int} (ha : GoodL a) (hb : GoodL b) (h : giveE a b K = (x, 0)) {k : Int} (hk : ¬ K.contains k = true) : getE x k = getE a k := by
  have := (give_good ha hb h).2 k
  rw [if_neg hk] at this
  exact known_none this
/-- of a key that is told both have the same -/
theorem give_on {a b x y : List En} {K : List Int} (ha : GoodL a) (hb : GoodL b) (hx : giveE a b K = (x, 0)) (hy : giveE b a K = (y, 0)) {k : Int} (hk : K.contains k = true) : getE x k = getE y k := by
  have h1 := (give_good ha hb hx).2 k
  have h2 := (give_good hb ha hy).2 k
  rw [if_pos hk] at h1 h2
  exact known_one h1 h2.comm
/-- .. which is what both know -/
theorem give_both {a b x z : List En} {K : List Int} (ha : GoodL a) (hb : GoodL b) (hx : giveE a b K = (x, 0)) (hz : cacheBoth a b = (z, 0)) {k : Int} (hk : K.contains k = true) : getE z k = getE x k := by
  have h1 := (give_good ha hb hx).2 k
  rw [if_pos hk] at h1
  exact known_one ((both_good hz).2.2.2 k) h1
/-- .. and is there, if one of both had it -/
theorem give_some {a b x : List En} {K : List Int} (ha : GoodL a) (hb : GoodL b) (hx : giveE a b K = (x, 0)) {k : Int} (hk : K.contains k = true) (h : getE a k ≠ none ∨ getE b k ≠ none) : ∃ u, getE x k = some u := by
  have h1 := (give_good ha hb hx).2 k
  rw [if_pos hk] at h1
  cases h2 : getE a k with
  | none =>
    cases h3 : getE b k with
    | none =>
      rcases h with h | h
      · exact absurd h2 h
      · exact absurd h3 h
    | some v => rw [h2, h3] at h1; exact ⟨v, h1⟩
  | some u =>
    cases h3 : getE b k with
    | none => rw [h2, h3] at h1; exact ⟨u, h1⟩
    | some v =>
      rw [h2, h3] at h1
      obtain ⟨c, hc, _⟩ := h1
      exact ⟨c, hc⟩
/-- nothing is older than it was -/
theorem give_newer {a b x : List En} {K : List Int} (ha : GoodL a) (hb : GoodL b) (hx : giveE a b K = (x, 0)) {k : Int} {u : En} (hu : getE a k = some u) : ∃ v, getE x k = some v ∧ u.v ≤ v.v ∧ u.a ≤ v.a := by
  have h1 := (give_good ha hb hx).2 k
  rw [hu] at h1
  cases h2 : (if K.contains k = true then getE b k else none) with
  | none =>
    rw [h2] at h1
    exact ⟨u, h1, Int.le_refl _, Int.le_refl _⟩
  | some v =>
    rw [h2] at h1
    obtain ⟨c, hc, hk⟩ := h1
    have ba : u.bad = 0 := ha.all u ((getE_iff ha.rise).1 hu).1
    have bb : v.bad = 0 := by
      split at h2
      · exact hb.all v ((getE_iff hb.rise).1 h2).1
      · cases h2
    have := hk.new (bad_time ba) (bad_time bb)
    exact ⟨c, hc, this.1, this.2.2.1⟩
theorem give_none (a b : List En) : giveE a b [] = (a, 0) := by
  unfold giveE
  rw [someE_nil]
  rfl
end Go.Proofs.YtliaidgedjjobaaDoor

namespace Go.Proofs.YtliaidgedjjobaaDoor
set_option linter.unusedVariables false
set_option linter.unusedSimpArgs false
open Go.RowKit

/-- off the keys told each tree has what it had, on them both have the same: then their nodes are the same -/
theorem nd_swapped (P : Nat → Nat → Nat) (f g f' g' : Nat → Nat) : ∀ d i, 8 ≤ i * 2 ^ d → (∀ k, under d i k → (k ∈ ptK P f g d i → f' k = g' k) ∧ (k ∉ ptK P f g d i → f' k = f k ∧ g' k = g k)) → nd P f' d i = nd P g' d i := by
  intro d
  induction d with
  | zero =>
    intro i h8 h
    have hu : under 0 i (i - 8) := by
      constructor <;> simp only [Nat.pow_zero, Nat.mul_one] at h8 ⊢ <;> omega
    obtain ⟨h1, h2⟩ := h (i - 8) hu
    show f' (i - 8) = g' (i - 8)
    by_cases e : f (i - 8) = g (i - 8)
    · obtain ⟨e1, e2⟩ := h2 (by rw [ptK, if_pos e]; simp)
      rw [e1, e2, e]
    · exact h1 (by rw [ptK, if_neg e]; simp)
  | succ d ih =>
    intro i h8 h
    have e : 2 ^ (d + 1) = 2 * 2 ^ d := by rw [Nat.pow_succ, Nat.mul_comm]
    have hl : 8 ≤ 2 * i * 2 ^ d := by rw [Nat.mul_comm 2 i, Nat.mul_assoc, ← e]; exact h8
    have hr : 8 ≤ (2 * i + 1) * 2 ^ d := Nat.le_trans hl (Nat.mul_le_mul_right _ (by omega))
    by_cases hn : nd P f (d + 1) i = nd P g (d + 1) i
    · have h0 : ptK P f g (d + 1) i = [] := ptK_alike hn
      have hf : nd P f' (d + 1) i = nd P f (d + 1) i := nd_ext P f' f (d + 1) i h8 (fun k hk => ((h k hk).2 (by rw [h0]; simp)).1)
      have hg : nd P g' (d + 1) i = nd P g (d + 1) i := nd_ext P g' g (d + 1) i h8 (fun k hk => ((h k hk).2 (by rw [h0]; simp)).2)
      rw [hf, hg, hn]
    · have hK : ptK P f g (d + 1) i = ptK P f g d (2 * i) ++ ptK P f g d (2 * i + 1) := by rw [ptK, if_neg hn]
      have e1 : nd P f' d (2 * i) = nd P g' d (2 * i) := ih (2 * i) hl (fun k hk => by
        obtain ⟨h1, h2⟩ := h k (under_left hk)
        rw [hK] at h1 h2
        refine ⟨fun hm => h1 (List.mem_append_left _ hm), fun hm => h2 (fun hm' => ?_)⟩
        rcases List.mem_append.1 hm' with h3 | h3
        · exact hm h3
        · have := (ptK_under P f g d (2 * i + 1) k hr h3).1
          have := under_part hk this
          omega)
      have e2 : nd P f' d (2 * i + 1) = nd P g' d (2 * i + 1) := ih (2 * i + 1) hr (fun k hk => by
        obtain ⟨h1, h2⟩ := h k (under_right hk)
        rw [hK] at h1 h2
        refine ⟨fun hm => h1 (List.mem_append_right _ hm), fun hm => h2 (fun hm' => ?_)⟩
        rcases List.mem_append.1 hm' with h3 | h3
        · have := (ptK_under P f g d (2 * i) k hl h3).1
          have := under_part this hk
          omega
        · exact hm h3)
      rw [nd, nd, e1, e2]
end Go.Proofs.YtliaidgedjjobaaDoor

namespace Go.Proofs.YtliaidgedjjobaaDoor
set_option linter.unusedVariables false
set_option linter.unusedSimpArgs false
open Go.RowKit

theorem eV_zero : eV 0 = .nilIface := by rw [eV, if_pos rfl]
theorem eV_err {n : Int} (h : n ≠ 0) : eV n = .iface 83 (.int .i64 n) := by rw [eV, if_neg h]
/-- a slice's room is not less than its length -/
def CapOk (v : Value) (n : Nat) : Prop := ∃ p c, v = .slice p n c ∧ n ≤ c ∧ c ≤ maxLen
theorem CapOk.nil : CapOk (.slice none 0 0) 0 := ⟨none, 0, rfl, Nat.le_refl _, by unfold maxLen; omega⟩
theorem OwnI.cap {B : Nat} {w : World} {v : Value} {l : List Int} (h : OwnI B w v l) : CapOk v l.length := by
  rcases h.2 with ⟨rfl, h0⟩ | ⟨g, cap, cur, rfl, _, _, hc1, hc2, _⟩
  · rw [h0]
    exact CapOk.nil
  · exact ⟨_, cap, rfl, hc1, hc2⟩

theorem hasD_hit {a : List Int} {x : Int} {j : Nat} (h : j < a.length) (hx : a[j] = x) : (a.drop j).contains x = true := by
  rw [List.drop_eq_getElem_cons h, List.contains_cons, hx]
  simp
theorem hasD_miss {a : List Int} {x : Int} {j : Nat} (h : j < a.length) (hx : ¬ a[j] = x) : (a.drop j).contains x = (a.drop (j + 1)).contains x := by
  rw [List.drop_eq_getElem_cons h, List.contains_cons]
  have : (x == a[j]) = false := by simp; exact fun h => hx h.symm
  rw [this, Bool.false_or]
set_option maxHeartbeats 4000000 in
theorem indexI_c (va : Value) (a : List Int) (x : Int) (w : World) (hra : IntsIs w va a) :
    Calls Tryd.prog 117 #[va, .int .i64 x] w fun e w' => ∃ k : Int, e = .returned (.int .i64 k) ∧ Hid (a.contains x = decide (0 ≤ k)) ∧ w' = w := by
  obtain ⟨hla, pa, capa, rfl, hrowa⟩ := hra
  have HRA : Hid (a ≠ [] → ∃ bb o, pa = some ⟨bb, o, none⟩ ∧ bb < w.heap.size ∧ ∀ j (h : j < a.length), w.cell? ⟨bb, o + j, none⟩ = some (.int .i64 a[j])) := hrowa
  clear hrowa
  obtain ⟨n, HN⟩ : ∃ n, Hid (a.length = n) := ⟨_, rfl⟩
  rw [HN.out] at hla ⊢
  have hn63 : n ≤ 9223372036854775807 := hla
  obtain ⟨R, HR⟩ : ∃ R, Hid (a.contains x = R) := ⟨_, rfl⟩
  rw [HR.out]
  go_enter Tryd.func117, Tryd.ntmps117
  go_wp2_with fail
  go_loopw [8] (fun i wr => ∃ j : Nat, j ≤ n ∧ i = .int .i64 j ∧ Hid (R = (a.drop j).contains x) ∧ wr = w) (fun i _ => n - (intOf i).toNat)
  case atStart => exact ⟨0, Nat.zero_le _, rfl, by rw [List.drop_zero]; exact HR.out.symm, rfl⟩
  case round =>
    obtain ⟨j, hj, rfl, HE, rfl⟩ := hrel
    by_cases hlt : j < n
    · have hja : j < a.length := by rw [HN.out]; exact hlt
      obtain ⟨ba, oa, rfl, hbwa, hata⟩ := HRA.out (fun h => by simp [h] at hja)
      have c0 := hata j hja
      clear hata
      have HHit : Hid (a[j] = x → R = true) := fun h => HE.out.trans (hasD_hit hja h)
      have HMiss : Hid (¬ a[j] = x → R = (a.drop (j + 1)).contains x) := fun h => HE.out.trans (hasD_miss hja h)
      obtain ⟨y, HY⟩ : ∃ y, Hid (a[j] = y) := ⟨a[j], show a[j] = a[j] from rfl⟩
      rw [HY.out] at c0 HHit HMiss
      have hlti : (j : Int) < (n : Int) := by omega
      by_cases hs : y = x
      · have HRt : Hid (R = true) := HHit.out hs
        have hxb : (x == y) = true := by simp [hs]
        clear hs
        go_wp2_with fail
        go_ret
        refine ⟨(j : Int), rfl, ?_, rfl⟩
        show R = _
        rw [HRt.out]
        simp
      · have HRt : Hid (R = (a.drop (j + 1)).contains x) := HMiss.out hs
        have hxb : (x == y) = false := by simp; exact fun h => hs h.symm
        clear hs
        go_wp2_with fail
        go_roundw
        case rel => exact ⟨j + 1, by omega, by go_num, HRt, trivial⟩
        case measure => simp [intOf]; omega
    · obtain rfl : j = n := by omega
      have HR0 : Hid (R = false) := by
        show R = false
        rw [HE.out, List.drop_eq_nil_of_le (by rw [HN.out]; exact Nat.le_refl _)]
        rfl
      go_wp2_with fail
      go_ret
      refine ⟨-1, rfl, ?_, rfl⟩
      show R = _
      rw [HR0.out]
      rfl
set_option maxHeartbeats 1000000 in
theorem containsI_c (va : Value) (a : List Int) (x : Int) (b : Bool) (w : World) (hra : IntsIs w va a) (hb : a.contains x = b) :
    Calls Tryd.prog 110 #[va, .int .i64 x] w fun e w' => e = .returned (.bool b) ∧ w' = w := by
  have HC : Hid _ := indexI_c va a x w hra
  have HB : Hid (a.contains x = b) := hb
  clear hra hb
  go_enter Tryd.func110, Tryd.ntmps110
  go_wp2_with fail
  refine Calls.mono HC.out ?_
  rintro e w1 ⟨k, rfl, HK, rfl⟩
  go_wp2_with fail
  go_ret
  refine ⟨?_, rfl⟩
  rw [← HB.out, HK.out]
  rfl

theorem IntsIs.take {w : World} {p : Option Addr} {l : List Int} {cap j cap' : Nat} {p' : Option Addr} (hr : IntsIs w (.slice p l.length cap) l) (hj : j ≤ l.length) (hp : l ≠ [] → p' = p) : IntsIs w (.slice p' j cap') (l.take j) := by
  obtain ⟨h0, q, c, e, h1⟩ := hr
  injection e with e1 e2 e3
  subst e1
  have hl : (l.take j).length = j := by simp; omega
  refine ⟨by rw [hl]; omega, p', cap', by rw [hl], fun hn => ?_⟩
  have hne : l ≠ [] := fun h => hn (by simp [h])
  rw [hp hne]
  obtain ⟨b, o, hb, hlt, hc⟩ := h1 hne
  exact ⟨b, o, hb, hlt, fun i hi => by
    have hi' : i < l.length := by rw [hl] at hi; omega
    rw [List.getElem_take]
    exact hc i hi'⟩
end Go.Proofs.YtliaidgedjjobaaDoor

namespace Go.Proofs.YtliaidgedjjobaaDoor
set_option linter.unusedVariables false
set_option linter.unusedSimpArgs false
open Go.RowKit

/-- what is wrong with keys, behind such as were named -/
def badKF : List Int → List Int → Int
  | _, [] => 0
  | seen, k :: l => if isKeyB k = false then 1 else if seen.contains k = true then 7 else badKF (seen ++ [k]) l
/-- what is wrong with keys that are asked for -/
def badK (l : List Int) : Int := if 8 < l.length then 4 else badKF [] l
theorem badKF_step {l : List Int} {j : Nat} (h : j < l.length) : badKF (l.take j) (l.drop j) = if isKeyB l[j] = false then 1 else if (l.take j).contains l[j] = true then 7 else badKF (l.take (j + 1)) (l.drop (j + 1)) := by
  rw [List.drop_eq_getElem_cons h, badKF, List.take_succ_eq_append_getElem h]
theorem badK_full {l : List Int} (h : 8 < l.length) : badK l = 4 := by rw [badK, if_pos h]
theorem badK_else {l : List Int} (h : ¬ 8 < l.length) : badK l = badKF (l.take 0) (l.drop 0) := by rw [badK, if_neg h]; rfl
theorem badKF_range {l : List Int} {j : Nat} (h : j < l.length) (hr : isKeyB l[j] = false) : badKF (l.take j) (l.drop j) = 1 := by rw [badKF_step h, if_pos hr]
theorem badKF_clash {l : List Int} {j : Nat} (h : j < l.length) (hr : isKeyB l[j] = true) (hc : (l.take j).contains l[j] = true) : badKF (l.take j) (l.drop j) = 7 := by rw [badKF_step h, if_neg (by rw [hr]; simp), if_pos hc]
theorem badKF_next {l : List Int} {j : Nat} (h : j < l.length) (hr : isKeyB l[j] = true) (hc : (l.take j).contains l[j] = false) : badKF (l.take j) (l.drop j) = badKF (l.take (j + 1)) (l.drop (j + 1)) := by rw [badKF_step h, if_neg (by rw [hr]; simp), if_neg (by rw [hc]; simp)]
theorem badKF_end (l : List Int) : badKF (l.take l.length) (l.drop l.length) = 0 := by
  rw [List.drop_length]
  rfl
theorem badKF_zero : ∀ (l seen : List Int), l.Pairwise (· < ·) → (∀ k ∈ l, isKeyB k = true) → (∀ k ∈ l, k ∉ seen) → badKF seen l = 0 := by
  intro l
  induction l with
  | nil => intro seen _ _ _; rfl
  | cons k l ih =>
    intro seen h1 h2 h3
    rw [List.pairwise_cons] at h1
    rw [badKF, if_neg (by rw [h2 k (by simp)]; simp), if_neg (by simpa using h3 k (by simp))]
    refine ih _ h1.2 (fun q hq => h2 q (by simp [hq])) (fun q hq hm => ?_)
    rcases List.mem_append.1 hm with h | h
    · exact h3 q (by simp [hq]) h
    · have := h1.1 q hq
      simp at h
      omega
/-- the keys in which two trees part may be asked for -/
theorem partK_right (f g : Nat → Nat) : badK (partK f g 1) = 0 := by
  rw [badK, if_neg (by have := partK_len f g 1; omega)]
  refine badKF_zero _ _ (part_rise f g) (fun k hk => ?_) (by simp)
  obtain ⟨q, rfl, hq, _⟩ := part_mem hk
  simp [isKeyB]
  omega

theorem partK_has (f g : Nat → Nat) (q : Nat) : (partK f g 1).contains (q : Int) = true ↔ q ∈ ptK pairH f g 3 1 := by
  rw [List.contains_iff_mem]
  unfold partK
  rw [List.mem_map]
  constructor
  · rintro ⟨x, hx, hxq⟩
    have : x = q := by omega
    subst this
    exact hx
  · exact fun hq => ⟨q, hq, rfl⟩
/-- two trees whose ends were made alike where they parted part no more -/
theorem part_swapped (f g f' g' : Nat → Nat) (h : ∀ q : Nat, ((partK f g 1).contains (q : Int) = true → f' q = g' q) ∧ (¬ (partK f g 1).contains (q : Int) = true → f' q = f q ∧ g' q = g q)) : partK f' g' 1 = [] ∧ partN f' g' 1 = 1 := by
  refine part_alike (show nd pairH f' 3 1 = nd pairH g' 3 1 from ?_)
  refine nd_swapped pairH f g f' g' 3 1 (by decide) (fun k _ => ?_)
  obtain ⟨h1, h2⟩ := h k
  rw [partK_has] at h1 h2
  exact ⟨h1, h2⟩

/-- the keys in which two caches part -/
def lackK (a b : List En) : List Int := partK (leafN a) (leafN b) 1
theorem lackK_turn (a b : List En) : lackK b a = lackK a b := (part_turn _ _ 1).1
theorem lackK_right (a b : List En) : badK (lackK a b) = 0 := partK_right _ _
theorem lackK_mem {a b : List En} {k : Int} (h : k ∈ lackK a b) : ∃ q : Nat, k = (q : Int) ∧ q < 8 ∧ leafN a q ≠ leafN b q := part_mem h
theorem leafN_get {a b : List En} {q : Nat} (h : getE a (q : Int) = getE b (q : Int)) : leafN a q = leafN b q := by unfold leafN; rw [h]
/-- behind a swap they part no more -/
theorem swap_alike {a b x y : List En} (ha : GoodL a) (hb : GoodL b) (hx : giveE a b (lackK a b) = (x, 0)) (hy : giveE b a (lackK a b) = (y, 0)) : lackK x y = [] ∧ partN (leafN x) (leafN y) 1 = 1 := by
  refine part_swapped (leafN a) (leafN b) (leafN x) (leafN y) (fun q => ⟨fun hc => ?_, fun hc => ?_⟩)
  · exact leafN_get (give_on ha hb hx hy hc)
  · exact ⟨leafN_get (give_off ha hb hx hc), leafN_get (give_off hb ha hy hc)⟩

/-- what Give answers -/
def giveW (l : List En) (K : List Int) : List En × Int := if badL l ≠ 0 then ([], badL l) else if badK K ≠ 0 then ([], badK K) else (someE l K, 0)
theorem giveW_one {l : List En} {K : List Int} {n : Int} (h : badL l = n) (hn : n ≠ 0) : giveW l K = ([], n) := by rw [giveW, if_pos (by rw [h]; exact hn), h]
theorem giveW_two {l : List En} {K : List Int} {n : Int} (h : badL l = 0) (hK : badK K = n) (hn : n ≠ 0) : giveW l K = ([], n) := by rw [giveW, if_neg (by simpa using h), if_pos (by rw [hK]; exact hn), hK]
theorem giveW_ok {l : List En} {K : List Int} (h : badL l = 0) (hK : badK K = 0) : giveW l K = (someE l K, 0) := by rw [giveW, if_neg (by simpa using h), if_neg (by simpa using hK)]
theorem someE_yes {l : List En} {K : List Int} {j : Nat} (h : j < l.length) (hc : K.contains l[j].k = true) : someE (l.take (j + 1)) K = someE (l.take j) K ++ [l[j]] := by
  unfold someE
  rw [List.take_succ_eq_append_getElem h, List.filter_append, List.filter_cons_of_pos (by exact hc)]
  rfl
theorem someE_no {l : List En} {K : List Int} {j : Nat} (h : j < l.length) (hc : K.contains l[j].k = false) : someE (l.take (j + 1)) K = someE (l.take j) K := by
  unfold someE
  rw [List.take_succ_eq_append_getElem h, List.filter_append, List.filter_cons_of_neg (by rw [hc]; simp)]
  simp
theorem someE_len (l : List En) (K : List Int) : (someE l K).length ≤ l.length := List.length_filter_le _ _
theorem give_as_both {a b : List En} {K : List Int} (ha : GoodL a) (hb : GoodL b) : cacheBoth a (someE b K) = giveE a b K := by
  rw [cacheBoth, if_neg (by simpa using ha.bad), if_neg (by simpa using (someE_good hb).bad)]
  rfl
theorem all_err {l b R1 : List En} {R2 : Int} (h : allE l b = (R1, R2)) (hn : R2 ≠ 0) : R1 = [] := by
  induction b generalizing l with
  | nil => rw [allE] at h; simp at h; exact absurd h.2.symm hn
  | cons e b ih =>
    rw [allE] at h
    split at h
    · simp at h; exact h.1
    · exact ih h
theorem give_err {a b x : List En} {K : List Int} {n : Int} (h : giveE a b K = (x, n)) (hn : n ≠ 0) : x = [] := all_err h hn

/-- what Pair answers -/
def pairW (a b : List En) : List En × List En × Int :=
  if bad2 (badL a) (badL b) ≠ 0 then ([], [], bad2 (badL a) (badL b))
  else if (giveE a b (lackK a b)).2 ≠ 0 then ([], [], (giveE a b (lackK a b)).2)
  else if (giveE b a (lackK a b)).2 ≠ 0 then ([], [], (giveE b a (lackK a b)).2)
  else ((giveE a b (lackK a b)).1, (giveE b a (lackK a b)).1, 0)
theorem pairW_bad {a b : List En} {n : Int} (h : bad2 (badL a) (badL b) = n) (hn : n ≠ 0) : pairW a b = ([], [], n) := by rw [pairW, if_pos (by rw [h]; exact hn), h]
theorem bad2_good {m n : Int} (h : bad2 m n = 0) : m = 0 ∧ n = 0 := by
  unfold bad2 at h
  split at h
  · exact ⟨by assumption, h⟩
  · exact absurd h (by assumption)
theorem bad2_both {m n : Int} (h : m = 0) (h' : n = 0) : bad2 m n = 0 := by rw [bad2, if_pos h, h']
theorem pairW_one {a b x : List En} {n : Int} (h : bad2 (badL a) (badL b) = 0) (hx : giveE a b (lackK a b) = (x, n)) (hn : n ≠ 0) : pairW a b = ([], [], n) := by rw [pairW, if_neg (by simpa using h), hx, if_pos hn]
theorem pairW_two {a b x y : List En} {n : Int} (h : bad2 (badL a) (badL b) = 0) (hx : giveE a b (lackK a b) = (x, 0)) (hy : giveE b a (lackK a b) = (y, n)) (hn : n ≠ 0) : pairW a b = ([], [], n) := by rw [pairW, if_neg (by simpa using h), hx, if_neg (by simp), hy, if_pos hn]
theorem pairW_ok {a b x y : List En} (h : bad2 (badL a) (badL b) = 0) (hx : giveE a b (lackK a b) = (x, 0)) (hy : giveE b a (lackK a b) = (y, 0)) : pairW a b = (x, y, 0) := by rw [pairW, if_neg (by simpa using h), hx, if_neg (by simp), hy, if_neg (by simp)]
/-- what there is where nothing is wrong -/
theorem pairW_fine {a b x y : List En} (h : pairW a b = (x, y, 0)) : badL a = 0 ∧ badL b = 0 ∧ giveE a b (lackK a b) = (x, 0) ∧ giveE b a (lackK a b) = (y, 0) := by
  obtain ⟨n, hn⟩ : ∃ n, bad2 (badL a) (badL b) = n := ⟨_, rfl⟩
  by_cases h0 : n = 0
  · subst h0
    obtain ⟨h1, h2⟩ := bad2_good hn
    obtain ⟨⟨x', m⟩, hx⟩ : ∃ R, giveE a b (lackK a b) = R := ⟨_, rfl⟩
    obtain ⟨⟨y', m'⟩, hy⟩ : ∃ R, giveE b a (lackK a b) = R := ⟨_, rfl⟩
    by_cases hm : m = 0
    · subst hm
      by_cases hm' : m' = 0
      · subst hm'
        rw [pairW_ok hn hx hy] at h
        simp at h
        rw [hx, hy, h.1, h.2]
        exact ⟨h1, h2, rfl, rfl⟩
      · rw [pairW_two hn hx hy hm'] at h
        simp at h
        exact absurd h.2.2 hm'
    · rw [pairW_one hn hx hm] at h
      simp at h
      exact absurd h.2.2 hm
  · rw [pairW_bad hn h0] at h
    simp at h
    exact absurd h.2.2 h0
theorem pairW_fault {a b x y : List En} {n : Int} (h : pairW a b = (x, y, n)) (hn : n ≠ 0) : x = [] ∧ y = [] := by
  unfold pairW at h
  split at h
  · simp at h; exact ⟨h.1, h.2.1⟩
  · split at h
    · simp at h; exact ⟨h.1, h.2.1⟩
    · split at h
      · simp at h; exact ⟨h.1, h.2.1⟩
      · simp at h; exact absurd h.2.2.symm hn

/-- a swap with one that has nothing -/
theorem give_to_none {l : List En} {K : List Int} (h : GoodL l) : giveE [] l K = (someE l K, 0) :=
  merged_allE goodL_nil (someE_good h).rise (someE_good h).all (someE_good h).rise (fun k => show KnownAt none _ _ from by
    cases getE (someE l K) k <;> simp [KnownAt])
theorem give_from_none (l : List En) (K : List Int) : giveE l [] K = (l, 0) := rfl
theorem pair_none {l : List En} (h : badL l = 0) : pairW l [] = (l, someE l (lackK l []), 0) :=
  pairW_ok (bad2_both h rfl) (give_from_none _ _) (give_to_none (badL_good h))
theorem rise_same : ∀ {x y : List Int}, x.Pairwise (· < ·) → y.Pairwise (· < ·) → (∀ k, k ∈ x ↔ k ∈ y) → x = y := by
  intro x
  induction x with
  | nil =>
    intro y _ _ h
    cases y with
    | nil => rfl
    | cons k y => exact absurd ((h k).2 (by simp)) (by simp)
  | cons k x ih =>
    intro y hx hy h
    cases y with
    | nil => exact absurd ((h k).1 (by simp)) (by simp)
    | cons q y =>
      rw [List.pairwise_cons] at hx hy
      have hkq : k = q := by
        have h1 := (h k).1 (by simp)
        have h2 := (h q).2 (by simp)
        rcases List.mem_cons.1 h1 with e | e
        · exact e
        · rcases List.mem_cons.1 h2 with e' | e'
          · exact e'.symm
          · have := hy.1 k e
            have := hx.1 q e'
            omega
      subst hkq
      rw [ih hx.2 hy.2 (fun z => ?_)]
      constructor
      · intro hz
        have h1 := (h z).1 (by simp [hz])
        rcases List.mem_cons.1 h1 with e | e
        · have := hx.1 z hz
          omega
        · exact e
      · intro hz
        have h1 := (h z).2 (by simp [hz])
        rcases List.mem_cons.1 h1 with e | e
        · have := hy.1 z hz
          omega
        · exact e
theorem none_keys {l : List En} (h : badL l = 0) : (someE l (lackK l [])).map (fun e => e.k) = lackK l [] := by
  have hg := badL_good h
  refine rise_same ?_ (part_rise _ _) (fun k => ?_)
  · rw [List.pairwise_map]
    exact (someE_good hg).rise
  · rw [List.mem_map]
    constructor
    · rintro ⟨e, he, rfl⟩
      have := (List.mem_filter.1 he).2
      simpa using this
    · intro hk
      obtain ⟨q, rfl, _, hu⟩ := lackK_mem hk
      cases hg' : getE l (q : Int) with
      | none =>
        refine absurd ?_ hu
        rw [leafN_none hg', leafN_none rfl]
      | some x =>
        obtain ⟨hm, hx⟩ := (getE_iff hg.rise).1 hg'
        refine ⟨x, List.mem_filter.2 ⟨hm, ?_⟩, hx⟩
        rw [hx]
        simpa using hk
theorem none_len {l : List En} (h : badL l = 0) : (lackK l []).length = (someE l (lackK l [])).length := by
  have e := congrArg List.length (none_keys h)
  rw [List.length_map] at e
  exact e.symm
end Go.Proofs.YtliaidgedjjobaaDoor

namespace Go.Proofs.YtliaidgedjjobaaDoor
set_option linter.unusedVariables false
set_option linter.unusedSimpArgs false
open Go.RowKit

theorem isKeyS_c (k : Int) (w : World) : Calls Tryd.prog 116 #[.int .i64 k] w fun e w' => e = .returned (.bool (isKeyB k)) ∧ w' = w := by
  by_cases h : 0 ≤ k
  · have hd : decide (0 ≤ k) = true := by simpa using h
    go_enter Tryd.func116, Tryd.ntmps116
    go_wp2
    go_ret
    exact ⟨by simp [isKeyB, h], rfl⟩
  · have hd : decide (0 ≤ k) = false := by simpa using h
    go_enter Tryd.func116, Tryd.ntmps116
    go_wp2
    go_ret
    refine ⟨?_, rfl⟩
    have h' : ¬ 0 ≤ k := by omega
    simp [isKeyB, h']
theorem isKeyS_b (k : Int) (b : Bool) (w : World) (hb : isKeyB k = b) : Calls Tryd.prog 116 #[.int .i64 k] w fun e w' => e = .returned (.bool b) ∧ w' = w := by
  subst hb
  exact isKeyS_c k w

set_option maxHeartbeats 4000000 in
theorem checkKeys_c (v : Value) (l : List Int) (w : World) (hr : IntsIs w v l) (hcap : CapOk v l.length) :
    Calls Tryd.prog 109 #[v] w fun e w' => e = .returned (eV (badK l)) ∧ w' = w := by
  obtain ⟨p, cap, rfl, hc1, hc2⟩ := hcap
  have HRow : Hid (IntsIs w (.slice p l.length cap) l) := hr
  obtain ⟨_, q, c, e, hrow⟩ := hr
  injection e with e1 e2 e3
  subst e1
  have HR : Hid (l ≠ [] → ∃ bb o, p = some ⟨bb, o, none⟩ ∧ bb < w.heap.size ∧ ∀ j (h : j < l.length), w.cell? ⟨bb, o + j, none⟩ = some (.int .i64 l[j])) := hrow
  clear hrow e2 e3
  by_cases h8 : 8 < l.length
  · rw [badK_full h8, eV_err (by omega)]
    have hi8 : (8 : Int) < (l.length : Int) := by omega
    clear HR HRow
    generalize l.length = n at *
    go_enter Tryd.func109, Tryd.ntmps109
    go_wp2_with fail
    go_ret
    exact ⟨rfl, rfl⟩
  rw [badK_else h8]
  obtain ⟨R, HE⟩ : ∃ R, Hid (badKF (l.take 0) (l.drop 0) = R) := ⟨_, rfl⟩
  rw [HE.out]
  have hi8 : ¬ (8 : Int) < (l.length : Int) := by omega
  obtain ⟨n, HN⟩ : ∃ n, Hid (l.length = n) := ⟨_, rfl⟩
  rw [HN.out] at hc1 h8 hi8 HRow ⊢
  have hc63 : cap ≤ 9223372036854775807 := hc2
  go_enter Tryd.func109, Tryd.ntmps109
  go_wp2_with fail
  go_loopw [11] (fun i wr => ∃ j : Nat, j ≤ n ∧ i = .int .i64 j ∧ Hid (badKF (l.take j) (l.drop j) = R) ∧ wr = w) (fun i _ => n - (intOf i).toNat)
  case atStart => exact ⟨0, Nat.zero_le _, rfl, HE, rfl⟩
  case round =>
    obtain ⟨j, hj, rfl, HJ, rfl⟩ := hrel
    by_cases hlt : j < n
    · have hja : j < l.length := by rw [HN.out]; exact hlt
      obtain ⟨ba, oa, hp, hbwa, hata⟩ := HR.out (fun h => by simp [h] at hja)
      have c0 := hata j hja
      clear hata
      subst hp
      have HRow' : Hid (IntsIs wr (.slice (some ⟨ba, oa, none⟩) l.length cap) l) := by rw [HN.out]; exact HRow
      have hlti : (j : Int) < (n : Int) := by omega
      cases hin : isKeyB l[j]
      · have HRv : Hid (R = 1) := HJ.out.symm.trans (badKF_range hja hin)
        have HIn : Hid (isKeyB l[j] = false) := hin
        clear hin
        generalize l[j] = x at *
        go_wp2_with (go_at_call 116; refine (isKeyS_b x false _ HIn.out).mono ?_; rintro e w' ⟨rfl, rfl⟩)
        go_ret
        refine ⟨?_, rfl⟩
        rw [HRv.out, eV_err (by omega)]
        rfl
      · have HIn : Hid (isKeyB l[j] = true) := hin
        cases hco : (l.take j).contains l[j]
        · have HRv : Hid (badKF (l.take (j + 1)) (l.drop (j + 1)) = R) := (badKF_next hja hin hco).symm.trans HJ.out
          have HCo : Hid ((l.take j).contains l[j] = false) := hco
          clear hin hco
          generalize l[j] = x at *
          go_wp2_with fail
          refine (isKeyS_b x true _ HIn.out).mono ?_
          rintro e w' ⟨rfl, rfl⟩
          go_wp2_with fail
          refine (containsI_c _ (l.take j) x false _ (IntsIs.take HRow'.out (by rw [HN.out]; exact hj) (fun _ => rfl)) HCo.out).mono ?_
          rintro e w2 ⟨rfl, rfl⟩
          go_wp2_with fail
          go_roundw
          case rel => exact ⟨j + 1, by omega, by go_num, HRv, trivial⟩
          case measure => simp [intOf]; omega
        · have HRv : Hid (R = 7) := HJ.out.symm.trans (badKF_clash hja hin hco)
          have HCo : Hid ((l.take j).contains l[j] = true) := hco
          clear hin hco
          generalize l[j] = x at *
          go_wp2_with fail
          refine (isKeyS_b x true _ HIn.out).mono ?_
          rintro e w' ⟨rfl, rfl⟩
          go_wp2_with fail
          refine (containsI_c _ (l.take j) x true _ (IntsIs.take HRow'.out (by rw [HN.out]; exact hj) (fun _ => rfl)) HCo.out).mono ?_
          rintro e w2 ⟨rfl, rfl⟩
          go_wp2_with fail
          go_ret
          refine ⟨?_, rfl⟩
          rw [HRv.out, eV_err (by omega)]
          rfl
    · obtain rfl : j = n := by omega
      have HR0 : Hid (R = 0) := by
        show R = 0
        rw [← HJ.out, ← HN.out]
        exact badKF_end l
      go_wp2_with fail
      go_ret
      exact ⟨by rw [HR0.out, eV_zero]; rfl, rfl⟩
theorem checkKeys_o {v : Value} {l : List Int} {w : World} {n : Int} (hr : IntsIs w v l) (hcap : CapOk v l.length) (h : badK l = n) :
    Calls Tryd.prog 109 #[v] w fun e w' => e = .returned (eV n) ∧ w' = w := by
  subst h
  exact checkKeys_c v l w hr hcap
theorem checkKeys_ok {v : Value} {l : List Int} {w : World} (hr : IntsIs w v l) (hcap : CapOk v l.length) (h : badK l = 0) :
    Calls Tryd.prog 109 #[v] w fun e w' => e = .returned .nilIface ∧ w' = w := checkKeys_o hr hcap h
theorem checkKeys_err {v : Value} {l : List Int} {w : World} {n : Int} (hr : IntsIs w v l) (hcap : CapOk v l.length) (h : badK l = n) (hn : n ≠ 0) :
    Calls Tryd.prog 109 #[v] w fun e w' => e = .returned (.iface 83 (.int .i64 n)) ∧ w' = w := by
  have c := checkKeys_o hr hcap h
  rw [eV_err hn] at c
  exact c

/-- entries and an error come back -/
def GiveIs (w : World) (L : List En) (n : Int) (e : Ending) (w' : World) : Prop := ∃ v', e = .returned (.tuple #[v', eV n]) ∧ RowIs w' v' L ∧ Below w.heap.size w w'
set_option maxHeartbeats 8000000 in
theorem give_ok (v vk : Value) (l : List En) (K : List Int) (w : World) (hr : RowIs w v l) (hk : IntsIs w vk K) (hcap : CapOk vk K.length) (hl : badL l = 0) (hK : badK K = 0) :
    Calls Tryd.prog 95 #[v, vk] w (GiveIs w (someE l K) 0) := by
  have HR : Hid (RowIs w v l) := hr
  have HK : Hid (IntsIs w vk K) := hk
  have HC : Hid (CapOk vk K.length) := hcap
  have HL0 : Hid (badL l = 0) := hl
  have HK0 : Hid (badK K = 0) := hK
  have HG : Hid (GoodL l) := badL_good hl
  have HS : Hid (someE l K = someE (l.take l.length) K) := by show _ = _; rw [List.take_length]
  rw [HS.out]
  clear hk hcap hl hK HS
  obtain ⟨hlen, p, cap, rfl, hrow⟩ := hr
  have HRow : Hid (l ≠ [] → ∃ b o, p = some ⟨b, o, none⟩ ∧ b < w.heap.size ∧ ∀ j (h : j < l.length), EnAt w b (o + j * 5) l[j]) := hrow
  clear hrow
  obtain ⟨n, HN⟩ : ∃ n, Hid (l.length = n) := ⟨_, rfl⟩
  rw [HN.out] at hlen HR ⊢
  have hn63 : n ≤ 9223372036854775807 := hlen
  go_enter Tryd.func95, Tryd.ntmps95
  go_wp2_with fail
  refine (cacheCheck_ok HR.out HL0.out).mono ?_
  rintro e w1 ⟨rfl, hb⟩
  have B1 : Hid (Below w.heap.size w w1) := hb
  clear hb
  go_wp2_with fail
  refine (checkKeys_ok (HK.out.below B1.out) HC.out HK0.out).mono ?_
  rintro e w2 ⟨rfl, hw⟩
  have B2 : Hid (Below w.heap.size w w2) := by rw [hw]; exact B1
  clear hw B1
  go_wp2_with fail
  go_loopw [8, 23] (fun s6 s22 wr => ∃ (j : Nat) (v6 : Value), s6 = v6 ∧ j ≤ n ∧ s22 = .int .i64 j ∧ Hid (wr.ownsRow w.heap.size 26 5 v6 (someE (l.take j) K).length (rowC (someE (l.take j) K))) ∧ Hid (Below w.heap.size w wr)) (fun _ i _ => n - (intOf i).toNat)
  case atStart => exact ⟨0, .slice none 0 0, rfl, Nat.zero_le _, rfl, World.ownsRow_nil _ _ _ _, B2⟩
  case round =>
    obtain ⟨j, v6, hs6, hj, rfl, HO, HB⟩ := hrel
    have hs6' := hs6.symm
    clear hs6
    subst hs6'
    by_cases hlt : j < n
    · have hjl : j < l.length := by rw [HN.out]; exact hlt
      obtain ⟨b, o, rfl, hbw, hat⟩ := HRow.out (fun h => by simp [h] at hjl)
      have HAt : Hid (EnAt wr b (o + j * 5) l[j]) := (hat j hjl).of_block (HB.out.block b hbw)
      clear hat
      have hlti : (j : Int) < (n : Int) := by omega
      have hws := HB.out.size
      have HY : Hid (K.contains l[j].k = true → someE (l.take (j + 1)) K = someE (l.take j) K ++ [l[j]]) := fun ha => someE_yes hjl ha
      have HNo : Hid (K.contains l[j].k = false → someE (l.take (j + 1)) K = someE (l.take j) K) := fun ha => someE_no hjl ha
      have HL8 : Hid ((someE (l.take j) K).length ≤ 100) := Nat.le_trans (someE_len _ _) (Nat.le_trans (List.length_take_le _ _) (Nat.le_trans hj (Nat.le_trans (by rw [← HN.out]; exact HG.out.len) (by omega))))
      obtain ⟨x, HX⟩ : ∃ x, Hid (l[j] = x) := ⟨l[j], show l[j] = l[j] from rfl⟩
      rw [HX.out] at HAt HY HNo
      obtain ⟨x0, x1, x2, x3, x4⟩ := x
      obtain ⟨c0, c1, c2, c3, c4⟩ := HAt.out
      dsimp only at c0 c1 c2 c3 c4
      obtain ⟨xs, HXs⟩ : ∃ xs, Hid (someE (l.take j) K = xs) := ⟨_, rfl⟩
      rw [HXs.out] at HO HY HNo HL8
      clear HXs HX
      obtain ⟨w3, HW3⟩ : ∃ x, x = wr.alloc (.cells #[.int .i64 x0, .int .i64 x1, .int .i64 x2, .bool x3, .string x4] 26) := ⟨_, rfl⟩
      have B3 : Hid (Below w.heap.size w w3) := by
        rw [HW3]
        exact HB.out.alloc hws _
      have O3 : Hid (w3.ownsRow w.heap.size 26 5 v6 xs.length (rowC xs)) := by
        rw [HW3]
        exact HO.out.alloc _
      have X3 : Hid (BoxAt w3 wr.heap.size x0 x1 x2 x3 x4) := by
        rw [HW3]
        exact box_new wr x0 x1 x2 x3 x4 _ rfl
      cases hc : K.contains x0
      · have HC0 : Hid (K.contains x0 = false) := hc
        have HE : Hid (someE (l.take (j + 1)) K = xs) := HNo.out hc
        clear hc HY HNo
        go_wp2_with fail
        refine (containsI_c vk K x0 false _ (HK.out.below (by rw [← HW3]; exact B3.out)) HC0.out).mono ?_
        rintro e w4 ⟨rfl, hw⟩
        have B4 : Hid (Below w.heap.size w w4) := by rw [hw, ← HW3]; exact B3
        have O4 : Hid (w4.ownsRow w.heap.size 26 5 v6 xs.length (rowC xs)) := by rw [hw, ← HW3]; exact O3
        clear hw HW3 B3 O3 X3 c0 c1 c2 c3 c4
        go_wp2_with fail
        go_roundw
        case rel =>
          refine ⟨j + 1, v6, rfl, by omega, by go_num, ?_, B4⟩
          show World.ownsRow _ _ _ _ _ _ _
          rw [HE.out]
          exact O4.out
        case measure => simp [intOf]; omega
      · have HC0 : Hid (K.contains x0 = true) := hc
        have HE : Hid (someE (l.take (j + 1)) K = xs ++ [En.mk x0 x1 x2 x3 x4]) := HY.out hc
        clear hc HY HNo
        go_wp2_with fail
        refine (containsI_c vk K x0 true _ (HK.out.below (by rw [← HW3]; exact B3.out)) HC0.out).mono ?_
        rintro e w4 ⟨rfl, hw⟩
        obtain ⟨eb, HEb⟩ : ∃ eb, Hid (wr.heap.size = eb) := ⟨_, rfl⟩
        rw [HEb.out] at X3 ⊢
        have B4 : Hid (Below w.heap.size w w4) := by rw [hw, ← HW3]; exact B3
        have O4 : Hid (w4.ownsRow w.heap.size 26 5 v6 xs.length (rowC xs)) := by rw [hw, ← HW3]; exact O3
        have X4 : Hid (BoxAt w4 eb x0 x1 x2 x3 x4) := by rw [hw, ← HW3]; exact X3
        clear hw HW3 B3 O3 X3 c0 c1 c2 c3 c4 HEb
        have hws4 := B4.out.size
        obtain ⟨c0, c1, c2, c3, c4, cf⟩ := X4.out
        have HBa : Hid (Below w.heap.size w (w4.alloc (.cells #[.int .i64 x0, .int .i64 x1, .int .i64 x2, .bool x3, .string x4] 26))) := B4.out.alloc hws4 _
        have HOa : Hid ((w4.alloc (.cells #[.int .i64 x0, .int .i64 x1, .int .i64 x2, .bool x3, .string x4] 26)).ownsRow w.heap.size 26 5 v6 xs.length (rowC xs)) := O4.out.alloc _
        have HVa : Hid ((w4.alloc (.cells #[.int .i64 x0, .int .i64 x1, .int .i64 x2, .bool x3, .string x4] 26)).heap[w4.heap.size]? = some (.cells (En.cells (En.mk x0 x1 x2 x3 x4)).toArray 26 (0, 0))) := alloc_at _ _ _ rfl
        have HSa : Hid (w.heap.size ≤ (w4.alloc (.cells #[.int .i64 x0, .int .i64 x1, .int .i64 x2, .bool x3, .string x4] 26)).heap.size) := show _ ≤ _ from (by simp; omega)
        go_wp2_with (at_builtin; refine wp_app _ rfl _ _ rfl w.heap.size _ xs (En.mk x0 x1 x2 x3 x4) rfl HOa.out _ rfl HVa.out HL8.out HSa.out ?_)
        intro va wa hown hgrow
        have HOp : Hid (wa.ownsRow w.heap.size 26 5 va (xs ++ [En.mk x0 x1 x2 x3 x4]).length (rowC (xs ++ [En.mk x0 x1 x2 x3 x4]))) := hown
        have HBp : Hid (Below w.heap.size w wa) := below_grownF (HBa.out) (Nat.le_refl _) hgrow.out (fun c hc => ownsRow_fromF O4.out c hc)
        clear hown hgrow HOa HVa HL8 HSa HBa
        clear c0 c1 c2 c3 c4 cf X4
        go_wp2_with fail
        go_roundw
        case rel =>
          refine ⟨j + 1, va, rfl, by omega, by go_num, ?_, HBp⟩
          show World.ownsRow _ _ _ _ _ _ _
          rw [HE.out]
          exact HOp.out
        case measure => simp [intOf]; omega
    · obtain rfl : j = n := by omega
      go_wp2_with fail
      go_ret2
      exact ⟨v6, rfl, RowIs.own HO.out, HB.out⟩
theorem give_one (v vk : Value) (l : List En) (n : Int) (w : World) (hr : RowIs w v l) (hl : badL l = n) (hn : n ≠ 0) :
    Calls Tryd.prog 95 #[v, vk] w (GiveIs w [] n) := by
  have HR : Hid (RowIs w v l) := hr
  have HL : Hid (badL l = n) := hl
  clear hr hl
  go_enter Tryd.func95, Tryd.ntmps95
  go_wp2_with fail
  refine (cacheCheck_err HR.out HL.out hn).mono ?_
  rintro e w1 ⟨rfl, hb⟩
  have B1 : Hid (Below w.heap.size w w1) := hb
  clear hb
  go_wp2_with fail
  go_ret2
  refine ⟨.slice none 0 0, ?_, RowIs.nil _, B1.out⟩
  rw [eV_err hn]
  rfl
theorem give_two (v vk : Value) (l : List En) (K : List Int) (n : Int) (w : World) (hr : RowIs w v l) (hk : IntsIs w vk K) (hcap : CapOk vk K.length) (hl : badL l = 0) (hK : badK K = n) (hn : n ≠ 0) :
    Calls Tryd.prog 95 #[v, vk] w (GiveIs w [] n) := by
  have HR : Hid (RowIs w v l) := hr
  have HL : Hid (badL l = 0) := hl
  have HKi : Hid (IntsIs w vk K) := hk
  have HC : Hid (CapOk vk K.length) := hcap
  have HK : Hid (badK K = n) := hK
  clear hr hl hk hcap hK
  go_enter Tryd.func95, Tryd.ntmps95
  go_wp2_with fail
  refine (cacheCheck_ok HR.out HL.out).mono ?_
  rintro e w1 ⟨rfl, hb⟩
  have B1 : Hid (Below w.heap.size w w1) := hb
  clear hb
  go_wp2_with fail
  refine (checkKeys_err (HKi.out.below B1.out) HC.out HK.out hn).mono ?_
  rintro e w2 ⟨rfl, hw⟩
  have B2 : Hid (Below w.heap.size w w2) := by rw [hw]; exact B1
  clear hw B1
  go_wp2_with fail
  go_ret2
  refine ⟨.slice none 0 0, ?_, RowIs.nil _, B2.out⟩
  rw [eV_err hn]
  rfl
theorem give_c (v vk : Value) (l : List En) (K : List Int) (w : World) (hr : RowIs w v l) (hk : IntsIs w vk K) (hcap : CapOk vk K.length) :
    Calls Tryd.prog 95 #[v, vk] w (GiveIs w (giveW l K).1 (giveW l K).2) := by
  by_cases h : badL l = 0
  · by_cases hK : badK K = 0
    · rw [giveW_ok h hK]
      exact give_ok v vk l K w hr hk hcap h hK
    · rw [giveW_two h rfl hK]
      exact give_two v vk l K _ w hr hk hcap h rfl hK
  · rw [giveW_one rfl h]
    exact give_one v vk l _ w hr rfl h
end Go.Proofs.YtliaidgedjjobaaDoor

namespace Go.Proofs.YtliaidgedjjobaaDoor
set_option linter.unusedVariables false
set_option linter.unusedSimpArgs false
open Go.RowKit

theorem lacks_ok (va vb : Value) (a b : List En) (w : World) (hra : RowIs w va a) (hrb : RowIs w vb b) (h : badL a = 0) (h' : badL b = 0) (hT : Lib.TabIs Tryd.prog w powName .u64 Lib.pow10Tab) :
    Calls Tryd.prog 32 #[va, vb] w fun e w' => ∃ v', e = .returned (.tuple #[v', .nilIface]) ∧ OwnI w.heap.size w' v' (lackK a b) ∧ Below w.heap.size w w' := by
  have c := diff_ok va vb a b w hra hrb h h' hT
  have e0 : partK (leafN a) (leafN b) 1 = lackK a b := rfl
  rw [e0] at c
  obtain ⟨K, HK⟩ : ∃ K, Hid (lackK a b = K) := ⟨_, rfl⟩
  obtain ⟨N, HN⟩ : ∃ N, Hid (partN (leafN a) (leafN b) 1 = N) := ⟨_, rfl⟩
  rw [HK.out, HN.out] at c
  rw [HK.out]
  have HC : Hid _ := c
  clear c e0 hra hrb h h' hT HK HN
  go_enter Tryd.func32, Tryd.ntmps32
  go_wp2_with fail
  refine Calls.mono HC.out ?_
  rintro e w1 ⟨v1, rfl, ho, hb⟩
  have B1 : Hid (Below w.heap.size w w1) := hb
  have O1 : Hid (OwnI w.heap.size w1 v1 K) := ho
  clear hb ho HC
  go_wp2_with fail
  go_ret2
  exact ⟨v1, rfl, O1.out, B1.out⟩
theorem diff_bad (va vb : Value) (a b : List En) (n : Int) (w : World) (hra : RowIs w va a) (hrb : RowIs w vb b) (h : bad2 (badL a) (badL b) = n) (hn : n ≠ 0) (hT : Lib.TabIs Tryd.prog w powName .u64 Lib.pow10Tab) :
    Calls Tryd.prog 64 #[va, vb] w fun e w' => e = .returned (.tuple #[.slice none 0 0, .int .i64 0, .iface 83 (.int .i64 n)]) ∧ Below w.heap.size w w' := by
  unfold bad2 at h
  split at h
  · exact diff_other va vb a b n w hra hrb (by assumption) h hn hT
  · exact diff_one va vb a n w hra h hn
theorem lacks_bad (va vb : Value) (a b : List En) (n : Int) (w : World) (hra : RowIs w va a) (hrb : RowIs w vb b) (h : bad2 (badL a) (badL b) = n) (hn : n ≠ 0) (hT : Lib.TabIs Tryd.prog w powName .u64 Lib.pow10Tab) :
    Calls Tryd.prog 32 #[va, vb] w fun e w' => e = .returned (.tuple #[.slice none 0 0, .iface 83 (.int .i64 n)]) ∧ Below w.heap.size w w' := by
  have HC : Hid _ := diff_bad va vb a b n w hra hrb h hn hT
  clear hra hrb h hn hT
  go_enter Tryd.func32, Tryd.ntmps32
  go_wp2_with fail
  refine Calls.mono HC.out ?_
  rintro e w1 ⟨rfl, hb⟩
  have B1 : Hid (Below w.heap.size w w1) := hb
  clear hb HC
  go_wp2_with fail
  go_ret2
  exact ⟨rfl, B1.out⟩

/-- what one is given is Added -/
theorem take_o (vo vf vk : Value) (own from' : List En) (K : List Int) (R1 : List En) (R2 : Int) (w : World) (hro : RowIs w vo own) (hrf : RowIs w vf from') (hk : IntsIs w vk K) (hcap : CapOk vk K.length) (hbo : badL own = 0) (hbf : badL from' = 0) (hbk : badK K = 0) (h : giveE own from' K = (R1, R2)) :
    Calls Tryd.prog 79 #[vo, vf, vk] w fun e w' => ∃ v', e = .returned (.tuple #[v', eV R2]) ∧ RowIs w' v' R1 ∧ Below w.heap.size w w' := by
  have HC : Hid (Calls Tryd.prog 95 #[vf, vk] w fun e w' => ∃ v', e = .returned (.tuple #[v', .nilIface]) ∧ RowIs w' v' (someE from' K) ∧ Below w.heap.size w w') := give_ok vf vk from' K w hrf hk hcap hbf hbk
  have HO : Hid (RowIs w vo own) := hro
  have HG : Hid (cacheBoth own (someE from' K) = (R1, R2)) := (give_as_both (badL_good hbo) (badL_good hbf)).trans h
  clear hro hrf hk hcap hbo hbf hbk h
  obtain ⟨G, HGv⟩ : ∃ G, Hid (someE from' K = G) := ⟨_, rfl⟩
  rw [HGv.out] at HC HG
  clear HGv
  obtain ⟨E, HE⟩ : ∃ E, Hid (eV R2 = E) := ⟨_, rfl⟩
  rw [HE.out]
  go_enter Tryd.func79, Tryd.ntmps79
  go_wp2_with fail
  refine Calls.mono HC.out ?_
  rintro e w1 ⟨v1, rfl, hr, hb⟩
  have B1 : Hid (Below w.heap.size w w1) := hb
  have R1' : Hid (RowIs w1 v1 G) := hr
  clear hb hr HC
  go_wp2_with fail
  refine (both_o HG.out vo v1 _ (HO.out.below B1.out) R1'.out).mono ?_
  rintro e w2 ⟨v2, he, ho, hb⟩
  rw [HE.out] at he
  subst he
  have B2 : Hid (Below w.heap.size w w2) := B1.out.trans (hb.mono B1.out.size)
  have O2 : Hid (RowIs w2 v2 R1) := RowIs.own ho
  clear hb ho B1 R1'
  go_wp2_with fail
  go_ret2
  exact ⟨v2, rfl, O2.out, B2.out⟩
theorem take_ok (vo vf vk : Value) (own from' : List En) (K : List Int) (R1 : List En) (w : World) (hro : RowIs w vo own) (hrf : RowIs w vf from') (hk : IntsIs w vk K) (hcap : CapOk vk K.length) (hbo : badL own = 0) (hbf : badL from' = 0) (hbk : badK K = 0) (h : giveE own from' K = (R1, 0)) :
    Calls Tryd.prog 79 #[vo, vf, vk] w fun e w' => ∃ v', e = .returned (.tuple #[v', .nilIface]) ∧ RowIs w' v' R1 ∧ Below w.heap.size w w' := take_o vo vf vk own from' K R1 0 w hro hrf hk hcap hbo hbf hbk h
theorem take_err (vo vf vk : Value) (own from' : List En) (K : List Int) (R1 : List En) (n : Int) (w : World) (hro : RowIs w vo own) (hrf : RowIs w vf from') (hk : IntsIs w vk K) (hcap : CapOk vk K.length) (hbo : badL own = 0) (hbf : badL from' = 0) (hbk : badK K = 0) (h : giveE own from' K = (R1, n)) (hn : n ≠ 0) :
    Calls Tryd.prog 79 #[vo, vf, vk] w fun e w' => ∃ v', e = .returned (.tuple #[v', .iface 83 (.int .i64 n)]) ∧ Below w.heap.size w w' := by
  have c := take_o vo vf vk own from' K R1 n w hro hrf hk hcap hbo hbf hbk h
  rw [eV_err hn] at c
  refine c.mono ?_
  rintro e w' ⟨v', he, _, hb⟩
  exact ⟨v', he, hb⟩

/-- two rows and an error come back -/
def PairIs (w : World) (X Y : List En) (n : Int) (e : Ending) (w' : World) : Prop := ∃ v1 v2, e = .returned (.tuple #[v1, v2, eV n]) ∧ RowIs w' v1 X ∧ RowIs w' v2 Y ∧ Below w.heap.size w w'
theorem pair_bad (va vb : Value) (a b : List En) (n : Int) (w : World) (hra : RowIs w va a) (hrb : RowIs w vb b) (h : bad2 (badL a) (badL b) = n) (hn : n ≠ 0) (hT : Lib.TabIs Tryd.prog w powName .u64 Lib.pow10Tab) :
    Calls Tryd.prog 54 #[va, vb] w (PairIs w [] [] n) := by
  have HC : Hid _ := lacks_bad va vb a b n w hra hrb h hn hT
  clear hra hrb h hT
  go_enter Tryd.func54, Tryd.ntmps54
  go_wp2_with fail
  refine Calls.mono HC.out ?_
  rintro e w1 ⟨rfl, hb⟩
  have B1 : Hid (Below w.heap.size w w1) := hb
  clear hb HC
  go_wp2_with fail
  go_ret3
  refine ⟨.slice none 0 0, .slice none 0 0, ?_, RowIs.nil _, RowIs.nil _, B1.out⟩
  rw [eV_err hn]
  rfl
set_option maxHeartbeats 1000000 in
theorem pair_good (va vb : Value) (a b : List En) (w : World) (hra : RowIs w va a) (hrb : RowIs w vb b) (h : badL a = 0) (h' : badL b = 0) (hT : Lib.TabIs Tryd.prog w powName .u64 Lib.pow10Tab) :
    Calls Tryd.prog 54 #[va, vb] w (PairIs w (pairW a b).1 (pairW a b).2.1 (pairW a b).2.2) := by
  have HC := lacks_ok va vb a b w hra hrb h h' hT
  have HA : Hid (RowIs w va a) := hra
  have HB : Hid (RowIs w vb b) := hrb
  have HGa : Hid (badL a = 0) := h
  have HGb : Hid (badL b = 0) := h'
  have HK0 : Hid (badK (lackK a b) = 0) := lackK_right a b
  have H1 : Hid (∀ x n, giveE a b (lackK a b) = (x, n) → n ≠ 0 → pairW a b = ([], [], n)) := fun x n hx hn => pairW_one (bad2_both HGa.out HGb.out) hx hn
  have H2 : Hid (∀ x y n, giveE a b (lackK a b) = (x, 0) → giveE b a (lackK a b) = (y, n) → n ≠ 0 → pairW a b = ([], [], n)) := fun x y n hx hy hn => pairW_two (bad2_both HGa.out HGb.out) hx hy hn
  have H3 : Hid (∀ x y, giveE a b (lackK a b) = (x, 0) → giveE b a (lackK a b) = (y, 0) → pairW a b = (x, y, 0)) := fun x y hx hy => pairW_ok (bad2_both HGa.out HGb.out) hx hy
  generalize lackK a b = K at HC HK0 H1 H2 H3
  have HCh : Hid _ := HC
  obtain ⟨⟨x, n⟩, HX⟩ : ∃ R, Hid (giveE a b K = R) := ⟨_, rfl⟩
  obtain ⟨⟨y, m⟩, HY⟩ : ∃ R, Hid (giveE b a K = R) := ⟨_, rfl⟩
  clear HC hra hrb h h' hT
  by_cases hn : n = 0
  · subst hn
    by_cases hm : m = 0
    · subst hm
      rw [H3.out x y HX.out HY.out]
      go_enter Tryd.func54, Tryd.ntmps54
      go_wp2_with fail
      refine Calls.mono HCh.out ?_
      rintro e w1 ⟨vk, rfl, ho, hb⟩
      have B1 : Hid (Below w.heap.size w w1) := hb
      have K1 : Hid (OwnI w.heap.size w1 vk K) := ho
      clear hb ho HCh
      go_wp2_with fail
      refine (take_ok va vb vk a b K x _ (HA.out.below B1.out) (HB.out.below B1.out) K1.out.ints K1.out.cap HGa.out HGb.out HK0.out HX.out).mono ?_
      rintro e w2 ⟨v2, rfl, hr, hb⟩
      have B2 : Hid (Below w.heap.size w w2) := B1.out.trans (hb.mono B1.out.size)
      have K2 : Hid (OwnI w.heap.size w2 vk K) := K1.out.below hb
      have R2 : Hid (RowIs w2 v2 x) := hr
      clear hb hr B1 K1
      go_wp2_with fail
      refine (take_ok vb va vk b a K y _ (HB.out.below B2.out) (HA.out.below B2.out) K2.out.ints K2.out.cap HGb.out HGa.out HK0.out HY.out).mono ?_
      rintro e w3 ⟨v3, rfl, hr, hb⟩
      have B3 : Hid (Below w.heap.size w w3) := B2.out.trans (hb.mono B2.out.size)
      have R3 : Hid (RowIs w3 v2 x) := R2.out.below hb
      have S3 : Hid (RowIs w3 v3 y) := hr
      clear hb hr B2 K2 R2
      go_wp2_with fail
      go_ret3
      exact ⟨v2, v3, rfl, R3.out, S3.out, B3.out⟩
    · rw [H2.out x y m HX.out HY.out hm]
      go_enter Tryd.func54, Tryd.ntmps54
      go_wp2_with fail
      refine Calls.mono HCh.out ?_
      rintro e w1 ⟨vk, rfl, ho, hb⟩
      have B1 : Hid (Below w.heap.size w w1) := hb
      have K1 : Hid (OwnI w.heap.size w1 vk K) := ho
      clear hb ho HCh
      go_wp2_with fail
      refine (take_ok va vb vk a b K x _ (HA.out.below B1.out) (HB.out.below B1.out) K1.out.ints K1.out.cap HGa.out HGb.out HK0.out HX.out).mono ?_
      rintro e w2 ⟨v2, rfl, hr, hb⟩
      have B2 : Hid (Below w.heap.size w w2) := B1.out.trans (hb.mono B1.out.size)
      have K2 : Hid (OwnI w.heap.size w2 vk K) := K1.out.below hb
      clear hb hr B1 K1
      go_wp2_with fail
      refine (take_err vb va vk b a K y m _ (HB.out.below B2.out) (HA.out.below B2.out) K2.out.ints K2.out.cap HGb.out HGa.out HK0.out HY.out hm).mono ?_
      rintro e w3 ⟨v3, rfl, hb⟩
      have B3 : Hid (Below w.heap.size w w3) := B2.out.trans (hb.mono B2.out.size)
      clear hb B2 K2
      go_wp2_with fail
      go_ret3
      refine ⟨.slice none 0 0, .slice none 0 0, ?_, RowIs.nil _, RowIs.nil _, B3.out⟩
      rw [eV_err hm]
      rfl
  · rw [H1.out x n HX.out hn]
    go_enter Tryd.func54, Tryd.ntmps54
    go_wp2_with fail
    refine Calls.mono HCh.out ?_
    rintro e w1 ⟨vk, rfl, ho, hb⟩
    have B1 : Hid (Below w.heap.size w w1) := hb
    have K1 : Hid (OwnI w.heap.size w1 vk K) := ho
    clear hb ho HCh
    go_wp2_with fail
    refine (take_err va vb vk a b K x n _ (HA.out.below B1.out) (HB.out.below B1.out) K1.out.ints K1.out.cap HGa.out HGb.out HK0.out HX.out hn).mono ?_
    rintro e w2 ⟨v2, rfl, hb⟩
    have B2 : Hid (Below w.heap.size w w2) := B1.out.trans (hb.mono B1.out.size)
    clear hb B1 K1
    go_wp2_with fail
    go_ret3
    refine ⟨.slice none 0 0, .slice none 0 0, ?_, RowIs.nil _, RowIs.nil _, B2.out⟩
    rw [eV_err hn]
    rfl
theorem pair_c (va vb : Value) (a b : List En) (w : World) (hra : RowIs w va a) (hrb : RowIs w vb b) (hT : Lib.TabIs Tryd.prog w powName .u64 Lib.pow10Tab) :
    Calls Tryd.prog 54 #[va, vb] w (PairIs w (pairW a b).1 (pairW a b).2.1 (pairW a b).2.2) := by
  obtain ⟨n, hn⟩ : ∃ n, bad2 (badL a) (badL b) = n := ⟨_, rfl⟩
  by_cases h0 : n = 0
  · subst h0
    obtain ⟨h1, h2⟩ := bad2_good hn
    exact pair_good va vb a b w hra hrb h1 h2 hT
  · rw [pairW_bad hn h0]
    exact pair_bad va vb a b n w hra hrb hn h0 hT
theorem pair_o {a b X Y : List En} {n : Int} (h : pairW a b = (X, Y, n)) (va vb : Value) (w : World) (hra : RowIs w va a) (hrb : RowIs w vb b) (hT : Lib.TabIs Tryd.prog w powName .u64 Lib.pow10Tab) :
    Calls Tryd.prog 54 #[va, vb] w fun e w' => ∃ v1 v2, e = .returned (.tuple #[v1, v2, eV n]) ∧ RowIs w' v1 X ∧ RowIs w' v2 Y ∧ Below w.heap.size w w' := by
  have c := pair_c va vb a b w hra hrb hT
  rw [h] at c
  exact c
theorem pair_ok {a b X Y : List En} (h : pairW a b = (X, Y, 0)) (va vb : Value) (w : World) (hra : RowIs w va a) (hrb : RowIs w vb b) (hT : Lib.TabIs Tryd.prog w powName .u64 Lib.pow10Tab) :
    Calls Tryd.prog 54 #[va, vb] w fun e w' => ∃ v1 v2, e = .returned (.tuple #[v1, v2, .nilIface]) ∧ RowIs w' v1 X ∧ RowIs w' v2 Y ∧ Below w.heap.size w w' := pair_o h va vb w hra hrb hT
theorem pair_err {a b X Y : List En} {n : Int} (h : pairW a b = (X, Y, n)) (hn : n ≠ 0) (va vb : Value) (w : World) (hra : RowIs w va a) (hrb : RowIs w vb b) (hT : Lib.TabIs Tryd.prog w powName .u64 Lib.pow10Tab) :
    Calls Tryd.prog 54 #[va, vb] w fun e w' => ∃ v1 v2, e = .returned (.tuple #[v1, v2, .iface 83 (.int .i64 n)]) ∧ Below w.heap.size w w' := by
  have c := pair_o h va vb w hra hrb hT
  rw [eV_err hn] at c
  refine c.mono ?_
  rintro e w' ⟨v1, v2, he, _, _, hb⟩
  exact ⟨v1, v2, he, hb⟩
end Go.Proofs.YtliaidgedjjobaaDoor

namespace Go.Proofs.YtliaidgedjjobaaDoor
set_option linter.unusedVariables false
set_option linter.unusedSimpArgs false
open Go.RowKit

/-- what one is given is Added -/
theorem takeF_o (vo vf vk : Value) (own from' : List En) (K : List Int) (R1 : List En) (R2 : Int) (w : World) (hro : RowIs w vo own) (hrf : RowIs w vf from') (hk : IntsIs w vk K) (hcap : CapOk vk K.length) (hbo : badL own = 0) (hbf : badL from' = 0) (hbk : badK K = 0) (h : giveE own from' K = (R1, R2)) :
    Calls Tryd.prog 79 #[vo, vf, vk] w fun e w' => ∃ v', e = .returned (.tuple #[v', eV R2]) ∧ RowIs w' v' R1 ∧ (∀ g, v'.ownBlock = some g → w.heap.size ≤ g ∧ g < w'.heap.size) ∧ Below w.heap.size w w' := by
  have HC : Hid (Calls Tryd.prog 95 #[vf, vk] w fun e w' => ∃ v', e = .returned (.tuple #[v', .nilIface]) ∧ RowIs w' v' (someE from' K) ∧ Below w.heap.size w w') := give_ok vf vk from' K w hrf hk hcap hbf hbk
  have HO : Hid (RowIs w vo own) := hro
  have HG : Hid (cacheBoth own (someE from' K) = (R1, R2)) := (give_as_both (badL_good hbo) (badL_good hbf)).trans h
  clear hro hrf hk hcap hbo hbf hbk h
  obtain ⟨G, HGv⟩ : ∃ G, Hid (someE from' K = G) := ⟨_, rfl⟩
  rw [HGv.out] at HC HG
  clear HGv
  obtain ⟨E, HE⟩ : ∃ E, Hid (eV R2 = E) := ⟨_, rfl⟩
  rw [HE.out]
  go_enter Tryd.func79, Tryd.ntmps79
  go_wp2_with fail
  refine Calls.mono HC.out ?_
  rintro e w1 ⟨v1, rfl, hr, hb⟩
  have B1 : Hid (Below w.heap.size w w1) := hb
  have R1' : Hid (RowIs w1 v1 G) := hr
  clear hb hr HC
  go_wp2_with fail
  refine (both_o HG.out vo v1 _ (HO.out.below B1.out) R1'.out).mono ?_
  rintro e w2 ⟨v2, he, ho, hb⟩
  rw [HE.out] at he
  subst he
  have B2 : Hid (Below w.heap.size w w2) := B1.out.trans (hb.mono B1.out.size)
  have O2 : Hid (RowIs w2 v2 R1) := RowIs.own ho
  have F2 : Hid (∀ g, v2.ownBlock = some g → w.heap.size ≤ g ∧ g < w2.heap.size) := fun g hg => ⟨Nat.le_trans B1.out.size (ownsRow_from ho g hg), ownsRow_lt ho g hg⟩
  clear hb ho B1 R1'
  go_wp2_with fail
  go_ret2
  exact ⟨v2, rfl, O2.out, F2.out, B2.out⟩
set_option maxHeartbeats 1000000 in
theorem pairF_ok (va vb : Value) (a b : List En) (w : World) (hra : RowIs w va a) (hrb : RowIs w vb b) {X Y : List En} (hp : pairW a b = (X, Y, 0)) (hT : Lib.TabIs Tryd.prog w powName .u64 Lib.pow10Tab) :
    Calls Tryd.prog 54 #[va, vb] w fun e w' => ∃ v1 v2, e = .returned (.tuple #[v1, v2, .nilIface]) ∧ RowIs w' v1 X ∧ RowIs w' v2 Y ∧ (∀ g, v1.ownBlock = some g → w.heap.size ≤ g ∧ g < w'.heap.size) ∧ (∀ g, v2.ownBlock = some g → w.heap.size ≤ g ∧ g < w'.heap.size) ∧ Below w.heap.size w w' := by
  obtain ⟨h, h', hx, hy⟩ := pairW_fine hp
  have HC := lacks_ok va vb a b w hra hrb h h' hT
  have HA : Hid (RowIs w va a) := hra
  have HB : Hid (RowIs w vb b) := hrb
  have HGa : Hid (badL a = 0) := h
  have HGb : Hid (badL b = 0) := h'
  have HK0 : Hid (badK (lackK a b) = 0) := lackK_right a b
  have HX : Hid (giveE a b (lackK a b) = (X, 0)) := hx
  have HY : Hid (giveE b a (lackK a b) = (Y, 0)) := hy
  clear hx hy hp
  generalize lackK a b = K at HC HK0 HX HY
  have HCh : Hid _ := HC
  clear HC hra hrb h h' hT
  go_enter Tryd.func54, Tryd.ntmps54
  go_wp2_with fail
  refine Calls.mono HCh.out ?_
  rintro e w1 ⟨vk, rfl, ho, hb⟩
  have B1 : Hid (Below w.heap.size w w1) := hb
  have K1 : Hid (OwnI w.heap.size w1 vk K) := ho
  clear hb ho HCh
  go_wp2_with fail
  refine (takeF_o va vb vk a b K X 0 _ (HA.out.below B1.out) (HB.out.below B1.out) K1.out.ints K1.out.cap HGa.out HGb.out HK0.out HX.out).mono ?_
  rintro e w2 ⟨v2, rfl, hr, hf, hb⟩
  rw [eV_zero]
  have F2 : Hid (∀ g, v2.ownBlock = some g → w.heap.size ≤ g ∧ g < w2.heap.size) := fun g hg => ⟨Nat.le_trans B1.out.size (hf g hg).1, (hf g hg).2⟩
  clear hf
  have B2 : Hid (Below w.heap.size w w2) := B1.out.trans (hb.mono B1.out.size)
  have K2 : Hid (OwnI w.heap.size w2 vk K) := K1.out.below hb
  have R2 : Hid (RowIs w2 v2 X) := hr
  clear hb hr B1 K1
  go_wp2_with fail
  refine (takeF_o vb va vk b a K Y 0 _ (HB.out.below B2.out) (HA.out.below B2.out) K2.out.ints K2.out.cap HGb.out HGa.out HK0.out HY.out).mono ?_
  rintro e w3 ⟨v3, rfl, hr, hf, hb⟩
  rw [eV_zero]
  have F3 : Hid (∀ g, v3.ownBlock = some g → w.heap.size ≤ g ∧ g < w3.heap.size) := fun g hg => ⟨Nat.le_trans B2.out.size (hf g hg).1, (hf g hg).2⟩
  have F2' : Hid (∀ g, v2.ownBlock = some g → w.heap.size ≤ g ∧ g < w3.heap.size) := fun g hg => ⟨(F2.out g hg).1, Nat.lt_of_lt_of_le (F2.out g hg).2 hb.size⟩
  clear hf
  have B3 : Hid (Below w.heap.size w w3) := B2.out.trans (hb.mono B2.out.size)
  have R3 : Hid (RowIs w3 v2 X) := R2.out.below hb
  have S3 : Hid (RowIs w3 v3 Y) := hr
  clear hb hr B2 K2 R2
  go_wp2_with fail
  go_ret3
  exact ⟨v2, v3, rfl, R3.out, S3.out, F2'.out, F3.out, B3.out⟩
end Go.Proofs.YtliaidgedjjobaaDoor
