/-
  One row of numbers appended to another one; where two trees part, on lists.
  Rows of numbers with their room; slices.Index and slices.Contains at numbers (beside the trees' rows of numbers).
  A swap of two caches on lists: each is given what the other one has of some keys.
  Two trees whose ends were made alike where they parted are alike, whatever numbers are alike.
  What TreeParts says of two trees, on lists.
-/
import Derived.Test.YtpcnfoaoajfhlaaGreatDoorRaap
import Derived.Laws.AppendOwnNone
import Derived.Test.YtpcnfoaoajfhlaaGreatDoorRaag
namespace Go.Proofs.YtpcnfoaoajfhlaaGreatDoor
set_option linter.unusedVariables false
set_option linter.unusedSimpArgs false
set_option linter.unusedVariables false
set_option linter.unusedSimpArgs false
open Go.RowKit

theorem ptK_len (P : Nat → Nat → Nat) (f g : Nat → Nat) : ∀ d i, (ptK P f g d i).length ≤ 2 ^ d := by
  intro d
  induction d with
  | zero => intro i; unfold ptK; split <;> simp
  | succ d ih =>
    intro i
    unfold ptK
    split
    · simp
    · rw [List.length_append, Nat.pow_succ]
      have h1 := ih (2 * i)
      have h2 := ih (2 * i + 1)
      omega
theorem ptN_len (P : Nat → Nat → Nat) (f g : Nat → Nat) : ∀ d i, ptN P f g d i + 1 ≤ 2 ^ (d + 1) := by
  intro d
  induction d with
  | zero => intro i; exact Nat.le_refl _
  | succ d ih =>
    intro i
    have h1 := ih (2 * i)
    have h2 := ih (2 * i + 1)
    have e : 2 ^ (d + 1 + 1) = 2 ^ (d + 1) + 2 ^ (d + 1) := by rw [Nat.pow_succ 2 (d + 1)]; omega
    unfold ptN
    split
    · omega
    · omega
/-- the keys where two part, as numbers -/
def partK (f g : Nat → Nat) (i : Nat) : List Int := (ptK pairH f g (dep i) i).map (fun k : Nat => (k : Int))
def partN (f g : Nat → Nat) (i : Nat) : Nat := ptN pairH f g (dep i) i
theorem dep_le (i : Nat) : dep i ≤ 3 := by
  unfold dep
  split
  · omega
  · split
    · omega
    · split <;> omega
theorem partK_len (f g : Nat → Nat) (i : Nat) : (partK f g i).length ≤ 8 := by
  rw [partK, List.length_map]
  refine Nat.le_trans (ptK_len _ _ _ _ _) ?_
  exact Nat.le_trans (Nat.pow_le_pow_right (by omega) (dep_le i)) (by omega)
theorem partN_len (f g : Nat → Nat) (i : Nat) : partN f g i ≤ 15 := by
  have h := ptN_len pairH f g (dep i) i
  have h2 : 2 ^ (dep i + 1) ≤ 2 ^ 4 := Nat.pow_le_pow_right (by omega) (by have := dep_le i; omega)
  unfold partN
  omega
theorem part_alike {f g : Nat → Nat} {i : Nat} (h : trN f i = trN g i) : partK f g i = [] ∧ partN f g i = 1 := by
  refine ⟨?_, ptN_alike h⟩
  rw [partK, ptK_alike h]
  rfl
theorem part_end {f g : Nat → Nat} {i : Nat} (h8 : 8 ≤ i) (h : trN f i ≠ trN g i) : partK f g i = [((i - 8 : Nat) : Int)] ∧ partN f g i = 1 := by
  rw [trN_end f h8, trN_end g h8] at h
  unfold partK partN
  rw [dep_end h8, ptK, if_neg h]
  exact ⟨rfl, rfl⟩
theorem part_two {f g : Nat → Nat} {i : Nat} (h0 : 1 ≤ i) (h8 : i < 8) (h : trN f i ≠ trN g i) : partK f g i = partK f g (2 * i) ++ partK f g (2 * i + 1) ∧ partN f g i = partN f g (2 * i) + partN f g (2 * i + 1) + 1 := by
  obtain ⟨h1, h2⟩ := dep_two h0 h8
  unfold trN at h
  rw [h1] at h
  unfold partK partN
  rw [h2, h1, ptK, if_neg h, ptN, if_neg h, List.map_append]
  exact ⟨rfl, rfl⟩

/-- a row of numbers of the call's own -/
def OwnI (B : Nat) (w : World) (v : Value) (l : List Int) : Prop := w.ownsRow B 3 1 v l.length (intC l)
theorem OwnI.nil (B : Nat) (w : World) : OwnI B w (.slice none 0 0) [] := World.ownsRow_nil w B _ 1
theorem OwnI.one {B : Nat} {w : World} {b : Nat} {x : Int} (hB : B ≤ b) (h : w.heap[b]? = some (.cells #[.int .i64 x] 3 (0, 0))) : OwnI B w (.slice (some ⟨b, 0, none⟩) 1 1) [x] :=
  ⟨rfl, .inr ⟨b, 1, _, rfl, hB, h, Nat.le_refl _, by unfold maxLen; omega, rfl, rfl⟩⟩
theorem OwnI.base {B B' : Nat} {w : World} {v : Value} {l : List Int} (h : OwnI B w v l) (hB : B' ≤ B) : OwnI B' w v l := by
  refine ⟨h.1, ?_⟩
  rcases h.2 with hn | ⟨g, cap, cur, rfl, h1, rest⟩
  · exact .inl hn
  · exact .inr ⟨g, cap, cur, rfl, Nat.le_trans hB h1, rest⟩
theorem OwnI.blocks {B : Nat} {w w' : World} {v : Value} {l : List Int} (h : OwnI B w v l) (hb : ∀ c, v.ownBlock = some c → c < w.heap.size → w'.heap[c]? = w.heap[c]?) : OwnI B w' v l := by
  refine ⟨h.1, ?_⟩
  rcases h.2 with hn | ⟨g, cap, cur, rfl, h1, hg, rest⟩
  · exact .inl hn
  · exact .inr ⟨g, cap, cur, rfl, h1, (hb g rfl (Array.getElem?_eq_some_iff.1 hg).1).trans hg, rest⟩
theorem OwnI.below {B : Nat} {w w' : World} {v : Value} {l : List Int} (h : OwnI B w v l) (hb : Below w.heap.size w w') : OwnI B w' v l := h.blocks fun c _ hc => hb.block c hc
theorem OwnI.ints {B : Nat} {w : World} {v : Value} {l : List Int} (h : OwnI B w v l) : IntsIs w v l := IntsIs.own h
theorem OwnI.from {B : Nat} {w : World} {v : Value} {l : List Int} (h : OwnI B w v l) (c : Nat) (hc : v.ownBlock = some c) : B ≤ c := ownsRow_fromF h c hc

/-- two rows of unlike types, of which one grows -/
theorem own_beside {w w' : World} {B : Nat} {e1 e2 : TypeId} {s1 s2 : Nat} {v1 v2 : Value} {n1 n2 : Nat} {xs1 xs2 : List Value} (h1 : w.ownsRow B e1 s1 v1 n1 xs1) (h2 : w.ownsRow B e2 s2 v2 n2 xs2) (hne : e1 ≠ e2) (hg : w.grownBy w' v2.ownBlock) : w'.ownsRow B e1 s1 v1 n1 xs1 := by
  refine ⟨h1.1, ?_⟩
  rcases h1.2 with hn | ⟨g, cap, cur, rfl, hB, hg1, rest⟩
  · exact .inl hn
  · refine .inr ⟨g, cap, cur, rfl, hB, (hg.block g (Array.getElem?_eq_some_iff.1 hg1).1 ?_).trans hg1, rest⟩
    intro hc
    rcases h2.2 with ⟨rfl, _⟩ | ⟨g', cap', cur', rfl, _, hg2, _⟩
    · cases hc
    · have e : g = g' := Option.some.inj hc
      subst e
      rw [hg1] at hg2
      simp at hg2
      exact hne hg2.2
theorem wp_appRow {ops : Array Oper} {rest : List Oper} {o : Oper} {ac : Act} {Q : Exit → Act → World → Prop} (w : World) (hgd : o.guard = none) (s x : Operand)
    (ho : o.op = .call { callee := .builtin .append, args := #[s, x], argTypes := #[39, 39] }) (B : Nat) (v : Value) (out : List Int) (hs : ac.eval s = v)
    (hown : OwnI B w v out) (B2 : Nat) (u : Value) (more : List Int) (hx : ac.eval x = u) (hm : OwnI B2 w u more) (hl : out.length + more.length ≤ 100) (hB : B ≤ w.heap.size)
    (h : ∀ v' w', OwnI B w' v' (out ++ more) → Hid (w.grownBy w' v.ownBlock) → wpList Tryz.prog ops Q rest (ac.put o.dst v') w') : wpList Tryz.prog ops Q (o :: rest) ac w := by
  obtain ⟨i0, hi0, hz0, hz1, hz2⟩ := info_parts infoInt
  rcases hm.2 with ⟨rfl, h0⟩ | ⟨g, cap, cur, rfl, _, hg, hc1, hc2, hc3, hc4⟩
  · rw [List.length_eq_zero_iff.1 h0, List.append_nil] at h
    exact wpList_append_own_none hgd s x 39 ho B 3 i0 1 Tryz.underlying39 hi0 v out.length (intC out) hs hown hx (h v w hown ⟨rfl, rfl, rfl, Nat.le_refl _, fun _ _ _ => rfl⟩)
  · have q3 : ∀ u ∈ intC more, u.oneCell' = true := fun u hu => by
      obtain ⟨z, _, rfl⟩ := List.mem_map.1 hu
      rfl
    have q2 : ∀ (j : Nat) (u : Value), (intC more)[j]? = some u → w.cell? ((⟨g, 0, none⟩ : Addr).add j) = some u := fun j u hu => hm.cells (g := g) rfl j u hu
    refine wpList_append_own w hgd s x 39 ho B 3 i0 _ 1 8 Tryz.underlying39 hi0 hz0 hz1 hz2 rfl (by omega) v out.length (intC out) hs hown ⟨g, 0, none⟩ more.length cap (intC more) hx (by simp [intC]) q2 q3 (by unfold maxLen; omega) (by omega) hB ?_
    intro v' w' h1 h2 _
    refine h v' w' (show World.ownsRow _ _ _ _ _ _ _ from ?_) h2
    rw [intC_append, List.length_append]
    exact h1
end Go.Proofs.YtpcnfoaoajfhlaaGreatDoor

namespace Go.Proofs.YtpcnfoaoajfhlaaGreatDoor
set_option linter.unusedVariables false
set_option linter.unusedSimpArgs false
open Go.RowKit

theorem eV_zero : eV 0 = .nilIface := by rw [eV, if_pos rfl]
theorem eV_err {n : Int} (h : n ≠ 0) : eV n = .iface 85 (.int .i64 n) := by rw [eV, if_neg h]
/-- a slice's room is not less than its length -/
def CapOk (v : Value) (n : Nat) : Prop := ∃ p c, v = .slice p n c ∧ n ≤ c ∧ c ≤ maxLen
theorem CapOk.nil : CapOk (.slice none 0 0) 0 := ⟨none, 0, rfl, Nat.le_refl _, by unfold maxLen; omega⟩
theorem OwnI.cap {B : Nat} {w : World} {v : Value} {l : List Int} (h : OwnI B w v l) : CapOk v l.length := by
  rcases h.2 with ⟨rfl, h0⟩ | ⟨g, cap, cur, rfl, _, _, hc1, hc2, _⟩
  · rw [h0]
    exact CapOk.nil
  · exact ⟨_, cap, rfl, hc1, hc2⟩

theorem hasD_hit {a : List Int} {x : Int} {j : Nat} (h : j < a.length) (hx : a[j] = x) : (a.drop j).contains x = true := by
  rw [List.drop_eq_getElem_cons h, List.contains_cons, hx]
  simp
theorem hasD_miss {a : List Int} {x : Int} {j : Nat} (h : j < a.length) (hx : ¬ a[j] = x) : (a.drop j).contains x = (a.drop (j + 1)).contains x := by
  rw [List.drop_eq_getElem_cons h, List.contains_cons]
  have : (x == a[j]) = false := by simp; exact fun h => hx h.symm
  rw [this, Bool.false_or]
set_option maxHeartbeats 4000000 in
theorem indexI_c (va : Value) (a : List Int) (x : Int) (w : World) (hra : IntsIs w va a) :
    Calls Tryz.prog 112 #[va, .int .i64 x] w fun e w' => ∃ k : Int, e = .returned (.int .i64 k) ∧ Hid (a.contains x = decide (0 ≤ k)) ∧ w' = w := by
  obtain ⟨hla, pa, capa, rfl, hrowa⟩ := hra
  have HRA : Hid (a ≠ [] → ∃ bb o, pa = some ⟨bb, o, none⟩ ∧ bb < w.heap.size ∧ ∀ j (h : j < a.length), w.cell? ⟨bb, o + j, none⟩ = some (.int .i64 a[j])) := hrowa
  clear hrowa
  obtain ⟨n, HN⟩ : ∃ n, Hid (a.length = n) := ⟨_, rfl⟩
  rw [HN.out] at hla ⊢
  have hn63 : n ≤ 9223372036854775807 := hla
  obtain ⟨R, HR⟩ : ∃ R, Hid (a.contains x = R) := ⟨_, rfl⟩
  rw [HR.out]
  go_enter Tryz.func112, Tryz.ntmps112
  go_wp2_with fail
  go_loopw [8] (fun i wr => ∃ j : Nat, j ≤ n ∧ i = .int .i64 j ∧ Hid (R = (a.drop j).contains x) ∧ wr = w) (fun i _ => n - (intOf i).toNat)
  case atStart => exact ⟨0, Nat.zero_le _, rfl, by rw [List.drop_zero]; exact HR.out.symm, rfl⟩
  case round =>
    obtain ⟨j, hj, rfl, HE, rfl⟩ := hrel
    by_cases hlt : j < n
    · have hja : j < a.length := by rw [HN.out]; exact hlt
      obtain ⟨ba, oa, rfl, hbwa, hata⟩ := HRA.out (fun h => by simp [h] at hja)
      have c0 := hata j hja
      clear hata
      have HHit : Hid (a[j] = x → R = true) := fun h => HE.out.trans (hasD_hit hja h)
      have HMiss : Hid (¬ a[j] = x → R = (a.drop (j + 1)).contains x) := fun h => HE.out.trans (hasD_miss hja h)
      obtain ⟨y, HY⟩ : ∃ y, Hid (a[j] = y) := ⟨a[j], show a[j] = a[j] from rfl⟩
      rw [HY.out] at c0 HHit HMiss
      have hlti : (j : Int) < (n : Int) := by omega
      by_cases hs : y = x
      · have HRt : Hid (R = true) := HHit.out hs
        have hxb : (x == y) = true := by simp [hs]
        clear hs
        go_wp2_with fail
        go_ret
        refine ⟨(j : Int), rfl, ?_, rfl⟩
        show R = _
        rw [HRt.out]
        simp
      · have HRt : Hid (R = (a.drop (j + 1)).contains x) := HMiss.out hs
        have hxb : (x == y) = false := by simp; exact fun h => hs h.symm
        clear hs
        go_wp2_with fail
        go_roundw
        case rel => exact ⟨j + 1, by omega, by go_num, HRt, trivial⟩
        case measure => simp [intOf]; omega
    · obtain rfl : j = n := by omega
      have HR0 : Hid (R = false) := by
        show R = false
        rw [HE.out, List.drop_eq_nil_of_le (by rw [HN.out]; exact Nat.le_refl _)]
        rfl
      go_wp2_with fail
      go_ret
      refine ⟨-1, rfl, ?_, rfl⟩
      show R = _
      rw [HR0.out]
      rfl
set_option maxHeartbeats 1000000 in
theorem containsI_c (va : Value) (a : List Int) (x : Int) (b : Bool) (w : World) (hra : IntsIs w va a) (hb : a.contains x = b) :
    Calls Tryz.prog 64 #[va, .int .i64 x] w fun e w' => e = .returned (.bool b) ∧ w' = w := by
  have HC : Hid _ := indexI_c va a x w hra
  have HB : Hid (a.contains x = b) := hb
  clear hra hb
  go_enter Tryz.func64, Tryz.ntmps64
  go_wp2_with fail
  refine Calls.mono HC.out ?_
  rintro e w1 ⟨k, rfl, HK, rfl⟩
  go_wp2_with fail
  go_ret
  refine ⟨?_, rfl⟩
  rw [← HB.out, HK.out]
  rfl

theorem IntsIs.take {w : World} {p : Option Addr} {l : List Int} {cap j cap' : Nat} {p' : Option Addr} (hr : IntsIs w (.slice p l.length cap) l) (hj : j ≤ l.length) (hp : l ≠ [] → p' = p) : IntsIs w (.slice p' j cap') (l.take j) := by
  obtain ⟨h0, q, c, e, h1⟩ := hr
  injection e with e1 e2 e3
  subst e1
  have hl : (l.take j).length = j := by simp; omega
  refine ⟨by rw [hl]; omega, p', cap', by rw [hl], fun hn => ?_⟩
  have hne : l ≠ [] := fun h => hn (by simp [h])
  rw [hp hne]
  obtain ⟨b, o, hb, hlt, hc⟩ := h1 hne
  exact ⟨b, o, hb, hlt, fun i hi => by
    have hi' : i < l.length := by rw [hl] at hi; omega
    rw [List.getElem_take]
    exact hc i hi'⟩
end Go.Proofs.YtpcnfoaoajfhlaaGreatDoor

namespace Go.Proofs.YtpcnfoaoajfhlaaGreatDoor
set_option linter.unusedVariables false
set_option linter.unusedSimpArgs false
open Go.RowKit

/-- the entries of some keys -/
def someE (l : List En) (K : List Int) : List En := l.filter (fun e => K.contains e.k)
theorem someE_good {l : List En} {K : List Int} (h : GoodL l) : GoodL (someE l K) :=
  GoodL.of (List.Pairwise.sublist List.filter_sublist h.rise) (fun e he => h.all e (List.mem_filter.1 he).1)
theorem someE_at {l : List En} {K : List Int} (h : GoodL l) (k : Int) : getE (someE l K) k = if K.contains k = true then getE l k else none := by
  apply opt_ext
  intro x
  rw [getE_iff (someE_good h).rise]
  unfold someE
  rw [List.mem_filter]
  by_cases hc : K.contains k = true
  · rw [if_pos hc, getE_iff h.rise]
    constructor
    · rintro ⟨⟨h1, _⟩, h2⟩
      exact ⟨h1, h2⟩
    · rintro ⟨h1, h2⟩
      exact ⟨⟨h1, by rw [h2]; exact hc⟩, h2⟩
  · rw [if_neg hc]
    constructor
    · rintro ⟨⟨_, h1⟩, h2⟩
      rw [h2] at h1
      exact absurd h1 hc
    · intro h1
      cases h1
theorem someE_nil (l : List En) : someE l [] = [] := by
  unfold someE
  rw [List.filter_eq_nil_iff]
  intro e _
  simp
theorem someE_none (K : List Int) : someE [] K = [] := rfl
theorem known_fun {a b c d : En} (hc : Known a b c) (hd : Known a b d) : c = d := by
  obtain ⟨_, hc⟩ := hc
  obtain ⟨_, hd⟩ := hd
  rcases hc with ⟨h1, h2, h3, h4, rfl⟩ | ⟨h1, h2, h3, h4, rfl⟩ | ⟨h1, h2, rfl⟩ | ⟨h1, h2, rfl⟩ <;> rcases hd with ⟨g1, g2, g3, g4, rfl⟩ | ⟨g1, g2, g3, g4, rfl⟩ | ⟨g1, g2, rfl⟩ | ⟨g1, g2, rfl⟩ <;> first | rfl | (exfalso; omega)
theorem bad_time {e : En} (h : e.bad = 0) : e.v ≤ e.a := by
  unfold En.bad bad at h
  split at h
  · omega
  · rename_i h1
    simp [inR] at h1
    omega
theorem known_one {a b x y : Option En} (hx : KnownAt a b x) (hy : KnownAt a b y) : x = y := by
  cases a with
  | none =>
    cases b with
    | none => simp only [KnownAt] at hx hy; rw [hx, hy]
    | some b => simp only [KnownAt] at hx hy; rw [hx, hy]
  | some a =>
    cases b with
    | none => simp only [KnownAt] at hx hy; rw [hx, hy]
    | some b =>
      simp only [KnownAt] at hx hy
      obtain ⟨c, rfl, hc⟩ := hx
      obtain ⟨d, rfl, hd⟩ := hy
      rw [known_fun hc hd]
/-- what one has behind it -/
def giveE (a b : List En) (K : List Int) : List En × Int := allE a (someE b K)
theorem give_good {a b x : List En} {K : List Int} (ha : GoodL a) (hb : GoodL b) (h : giveE a b K = (x, 0)) : GoodL x ∧ ∀ k, KnownAt (getE a k) (if K.contains k = true then getE b k else none) (getE x k) := by
  have h1 : cacheBoth a (someE b K) = (x, 0) := by
    rw [cacheBoth, if_neg (by simpa using ha.bad), if_neg (by simpa using (someE_good hb).bad)]
    exact h
  obtain ⟨_, _, gx, hm⟩ := both_good h1
  refine ⟨gx, fun k => ?_⟩
  have := hm k
  rw [someE_at hb k] at this
  exact this
theorem known_none {a x : Option En} (h : KnownAt a none x) : x = a := by
  cases a <;> simpa [KnownAt] using h
/-- of a key that is not told each has what it had -/
theorem give_off {a b x : List En} {K : List Int} (ha : GoodL a) (hb : GoodL b) (h : giveE a b K = (x, 0)) {k : Int} (hk : ¬ K.contains k = true) : getE x k = getE a k := by
  have := (give_good ha hb h).2 k
  rw [if_neg hk] at this
  exact known_none this
/-- of a key that is told both have the same -/
theorem give_on {a b x y : List En} {K : List Int} (ha : GoodL a) (hb : GoodL b) (hx : giveE a b K = (x, 0)) (hy : giveE b a K = (y, 0)) {k : Int} (hk : K.contains k = true) : getE x k = getE y k := by
  have h1 := (give_good ha hb hx).2 k
  have h2 := (give_good hb ha hy).2 k
  rw [if_pos hk] at h1 h2
  exact known_one h1 h2.comm
/-- .. which is what both know -/
theorem give_both {a b x z : List En} {K : List Int} (ha : GoodL a) (hb : GoodL b) (hx : giveE a b K = (x, 0)) (hz : cacheBoth a b = (z, 0)) {k : Int} (hk : K.contains k = true) : getE z k = getE x k := by
  have h1 := (give_good ha hb hx).2 k
  rw [if_pos hk] at h1
  exact known_one ((both_good hz).2.2.2 k) h1
/-- .. and is there, if one of both had it -/
theorem give_some {a b x : List En} {K : List Int} (ha : GoodL a) (hb : GoodL b) (hx : giveE a b K = (x, 0)) {k : Int} (hk : K.contains k = true) (h : getE a k ≠ none ∨ getE b k ≠ none) : ∃ u, getE x k = some u := by
  have h1 := (give_good ha hb hx).2 k
  rw [if_pos hk] at h1
  cases h2 : getE a k with
  | none =>
    cases h3 : getE b k with
    | none =>
      rcases h with h | h
      · exact absurd h2 h
      · exact absurd h3 h
    | some v => rw [h2, h3] at h1; exact ⟨v, h1⟩
  | some u =>
    cases h3 : getE b k with
    | none => rw [h2, h3] at h1; exact ⟨u, h1⟩
    | some v =>
      rw [h2, h3] at h1
      obtain ⟨c, hc, _⟩ := h1
      exact ⟨c, hc⟩
/-- nothing is older than it was -/
theorem give_newer {a b x : List En} {K : List Int} (ha : GoodL a) (hb : GoodL b) (hx : giveE a b K = (x, 0)) {k : Int} {u : En} (hu : getE a k = some u) : ∃ v, getE x k = some v ∧ u.v ≤ v.v ∧ u.a ≤ v.a := by
  have h1 := (give_good ha hb hx).2 k
  rw [hu] at h1
  cases h2 : (if K.contains k = true then getE b k else none) with
  | none =>
    rw [h2] at h1
    exact ⟨u, h1, Int.le_refl _, Int.le_refl _⟩
  | some v =>
    rw [h2] at h1
    obtain ⟨c, hc, hk⟩ := h1
    have ba : u.bad = 0 := ha.all u ((getE_iff ha.rise).1 hu).1
    have bb : v.bad = 0 := by
      split at h2
      · exact hb.all v ((getE_iff hb.rise).1 h2).1
      · cases h2
    have := hk.new (bad_time ba) (bad_time bb)
    exact ⟨c, hc, this.1, this.2.2.1⟩
theorem give_none (a b : List En) : giveE a b [] = (a, 0) := by
  unfold giveE
  rw [someE_nil]
  rfl
end Go.Proofs.YtpcnfoaoajfhlaaGreatDoor

namespace Go.Proofs.YtpcnfoaoajfhlaaGreatDoor
set_option linter.unusedVariables false
set_option linter.unusedSimpArgs false
open Go.RowKit

/-- off the keys told each tree has what it had, on them both have the same: then their nodes are the same -/
theorem nd_swapped (P : Nat → Nat → Nat) (f g f' g' : Nat → Nat) : ∀ d i, 8 ≤ i * 2 ^ d → (∀ k, under d i k → (k ∈ ptK P f g d i → f' k = g' k) ∧ (k ∉ ptK P f g d i → f' k = f k ∧ g' k = g k)) → nd P f' d i = nd P g' d i := by
  intro d
  induction d with
  | zero =>
    intro i h8 h
    have hu : under 0 i (i - 8) := by
      constructor <;> simp only [Nat.pow_zero, Nat.mul_one] at h8 ⊢ <;> omega
    obtain ⟨h1, h2⟩ := h (i - 8) hu
    show f' (i - 8) = g' (i - 8)
    by_cases e : f (i - 8) = g (i - 8)
    · obtain ⟨e1, e2⟩ := h2 (by rw [ptK, if_pos e]; simp)
      rw [e1, e2, e]
    · exact h1 (by rw [ptK, if_neg e]; simp)
  | succ d ih =>
    intro i h8 h
    have e : 2 ^ (d + 1) = 2 * 2 ^ d := by rw [Nat.pow_succ, Nat.mul_comm]
    have hl : 8 ≤ 2 * i * 2 ^ d := by rw [Nat.mul_comm 2 i, Nat.mul_assoc, ← e]; exact h8
    have hr : 8 ≤ (2 * i + 1) * 2 ^ d := Nat.le_trans hl (Nat.mul_le_mul_right _ (by omega))
    by_cases hn : nd P f (d + 1) i = nd P g (d + 1) i
    · have h0 : ptK P f g (d + 1) i = [] := ptK_alike hn
      have hf : nd P f' (d + 1) i = nd P f (d + 1) i := nd_ext P f' f (d + 1) i h8 (fun k hk => ((h k hk).2 (by rw [h0]; simp)).1)
      have hg : nd P g' (d + 1) i = nd P g (d + 1) i := nd_ext P g' g (d + 1) i h8 (fun k hk => ((h k hk).2 (by rw [h0]; simp)).2)
      rw [hf, hg, hn]
    · have hK : ptK P f g (d + 1) i = ptK P f g d (2 * i) ++ ptK P f g d (2 * i + 1) := by rw [ptK, if_neg hn]
      have e1 : nd P f' d (2 * i) = nd P g' d (2 * i) := ih (2 * i) hl (fun k hk => by
        obtain ⟨h1, h2⟩ := h k (under_left hk)
        rw [hK] at h1 h2
        refine ⟨fun hm => h1 (List.mem_append_left _ hm), fun hm => h2 (fun hm' => ?_)⟩
        rcases List.mem_append.1 hm' with h3 | h3
        · exact hm h3
        · have := (ptK_under P f g d (2 * i + 1) k hr h3).1
          have := under_part hk this
          omega)
      have e2 : nd P f' d (2 * i + 1) = nd P g' d (2 * i + 1) := ih (2 * i + 1) hr (fun k hk => by
        obtain ⟨h1, h2⟩ := h k (under_right hk)
        rw [hK] at h1 h2
        refine ⟨fun hm => h1 (List.mem_append_right _ hm), fun hm => h2 (fun hm' => ?_)⟩
        rcases List.mem_append.1 hm' with h3 | h3
        · have := (ptK_under P f g d (2 * i) k hl h3).1
          have := under_part this hk
          omega
        · exact hm h3)
      rw [nd, nd, e1, e2]
end Go.Proofs.YtpcnfoaoajfhlaaGreatDoor

namespace Go.Proofs.YtpcnfoaoajfhlaaGreatDoor
set_option linter.unusedVariables false
set_option linter.unusedSimpArgs false
open Go.RowKit

theorem part_turn (f g : Nat → Nat) (i : Nat) : partK g f i = partK f g i ∧ partN g f i = partN f g i := by
  unfold partK partN
  rw [ptK_turn, ptN_turn]
  exact ⟨rfl, rfl⟩
theorem part_few (f g : Nat → Nat) : partN f g 1 ≤ 1 + 6 * (partK f g 1).length := by
  have h := ptN_few pairH f g 3 1
  unfold partN partK
  rw [List.length_map]
  exact h
theorem part_pos (f g : Nat → Nat) (i : Nat) : 1 ≤ partN f g i := ptN_pos _ _ _ _ _
theorem part_mem {f g : Nat → Nat} {k : Int} (h : k ∈ partK f g 1) : ∃ q : Nat, k = (q : Int) ∧ q < 8 ∧ f q ≠ g q := by
  obtain ⟨q, hq, rfl⟩ := List.mem_map.1 h
  obtain ⟨hu, hn⟩ := ptK_under pairH f g 3 1 q (by decide) hq
  have h2 : q + 8 < (1 + 1) * 2 ^ 3 := hu.2
  exact ⟨q, rfl, by omega, hn⟩
theorem part_rise (f g : Nat → Nat) : (partK f g 1).Pairwise (· < ·) := by
  unfold partK
  rw [List.pairwise_map]
  exact (ptK_rise pairH f g 3 1 (by decide)).imp (fun h => by omega)
theorem part_mended (f g h : Nat → Nat) (hh : ∀ q, q < 8 → h q = if (partK f g 1).contains (q : Int) = true then f q else g q) : trN h 1 = trN f 1 := by
  have hm : ∀ q : Nat, (partK f g 1).contains (q : Int) = true ↔ q ∈ ptK pairH f g 3 1 := fun q => by
    rw [List.contains_iff_mem]
    unfold partK
    rw [List.mem_map]
    constructor
    · rintro ⟨x, hx, hxq⟩
      have : x = q := by omega
      subst this
      exact hx
    · exact fun hq => ⟨q, hq, rfl⟩
  refine nd_mended pairH f g h 3 1 (by decide) (fun k hk => ?_)
  have h2 : k + 8 < (1 + 1) * 2 ^ 3 := hk.2
  have e := hh k (by omega)
  constructor
  · intro hx
    rw [if_pos ((hm k).2 hx)] at e
    exact e
  · intro hx
    rw [if_neg (fun hc => hx ((hm k).1 hc))] at e
    exact e

/-- the one entry of the law's first row -/
def oneE : En := ⟨6, 1, 1, false, ⟨#[120]⟩⟩
theorem one_good : badL [oneE] = 0 := by decide +kernel
theorem leaf_one : leafN [oneE] = oneF := by
  funext k
  unfold oneF
  by_cases h : k = 6
  · subst h
    rw [if_pos rfl]
    have e : getE [oneE] ((6 : Nat) : Int) = some oneE := rfl
    rw [leafN_some e]
    exact entH_eq 6 1 false ⟨#[120]⟩
  · rw [if_neg h]
    refine leafN_none ?_
    unfold getE
    rw [List.find?_cons_of_neg (by
      show ¬ (((6 : Int) == (k : Int)) = true)
      simp
      omega)]
    rfl
theorem leaf_nil : leafN [] = fun _ => 0 := by
  funext k
  rfl
theorem part_one : partK (leafN [oneE]) (leafN []) 1 = [6] ∧ partN (leafN [oneE]) (leafN []) 1 = 7 := by
  obtain ⟨h1, h2⟩ := one_part
  rw [leaf_one, leaf_nil]
  unfold partK partN
  rw [pairH_eq, show dep 1 = 3 from rfl, h1, h2]
  exact ⟨rfl, rfl⟩

/-- where two numbers are unlike, how the entries are -/
theorem unlike_how {a b : List En} (ha : badL a = 0) (hb : badL b = 0) {q : Nat} (h : leafN a q ≠ leafN b q) :
    (∃ x, getE a (q : Int) = some x ∧ getE b (q : Int) = none) ∨ (∃ y, getE a (q : Int) = none ∧ getE b (q : Int) = some y) ∨
    ∃ x y, getE a (q : Int) = some x ∧ getE b (q : Int) = some y ∧ (x.v ≠ y.v ∨ (x.v = y.v ∧ x.g ≠ y.g) ∨ (x.v = y.v ∧ x.g = y.g ∧ x.t ≠ y.t)) := by
  cases h1 : getE a (q : Int) with
  | none =>
    cases h2 : getE b (q : Int) with
    | none => exact absurd (by rw [leafN_none h1, leafN_none h2]) h
    | some y => exact .inr (.inl ⟨y, rfl, rfl⟩)
  | some x =>
    cases h2 : getE b (q : Int) with
    | none => exact .inl ⟨x, rfl, rfl⟩
    | some y =>
      refine .inr (.inr ⟨x, y, rfl, rfl, ?_⟩)
      obtain ⟨_, _, kx⟩ := getE_some (badL_good ha).rise h1
      obtain ⟨_, _, ky⟩ := getE_some (badL_good hb).rise h2
      by_cases e1 : x.v = y.v
      · by_cases e2 : x.g = y.g
        · by_cases e3 : x.t = y.t
          · refine absurd ?_ h
            rw [leafN_some h1, leafN_some h2, numE, numE, kx, ky, e1, e2, e3]
          · exact .inr (.inr ⟨e1, e2, e3⟩)
        · exact .inr (.inl ⟨e1, e2⟩)
      · exact .inl e1

/-- b's entries, but a's of some keys, below j -/
def mixU (a b : List En) (K : List Int) : Nat → List En
  | 0 => []
  | j + 1 => mixU a b K j ++ (match getE (if K.contains (j : Int) = true then a else b) (j : Int) with
    | none => []
    | some x => [x])
/-- where a key's entry is taken from -/
def fromU (a b : List En) (K : List Int) (j : Nat) : List En := if K.contains (j : Int) = true then a else b
theorem mixU_none {a b : List En} {K : List Int} {j : Nat} (h : getE (fromU a b K j) (j : Int) = none) : mixU a b K (j + 1) = mixU a b K j := by
  unfold fromU at h
  rw [mixU, h, List.append_nil]
theorem mixU_some {a b : List En} {K : List Int} {j : Nat} {x : En} (h : getE (fromU a b K j) (j : Int) = some x) : mixU a b K (j + 1) = mixU a b K j ++ [x] := by
  unfold fromU at h
  rw [mixU, h]
theorem fromU_good {a b : List En} {K : List Int} {j : Nat} (ha : badL a = 0) (hb : badL b = 0) : badL (fromU a b K j) = 0 := by
  unfold fromU
  split
  · exact ha
  · exact hb
theorem mixU_props {a b : List En} (K : List Int) (ha : badL a = 0) (hb : badL b = 0) : ∀ j, (mixU a b K j).length ≤ j ∧ Rising (mixU a b K j) ∧ (∀ e ∈ mixU a b K j, e.bad = 0 ∧ e.k < (j : Int)) ∧
    ∀ q : Nat, getE (mixU a b K j) (q : Int) = if q < j then getE (fromU a b K q) (q : Int) else none := by
  intro j
  induction j with
  | zero => exact ⟨Nat.le_refl _, List.Pairwise.nil, fun e he => (by cases he), fun q => rfl⟩
  | succ j ih =>
    obtain ⟨h1, h2, h3, h4⟩ := ih
    cases hg : getE (fromU a b K j) (j : Int) with
    | none =>
      rw [mixU_none hg]
      refine ⟨by omega, h2, fun e he => ⟨(h3 e he).1, by have := (h3 e he).2; omega⟩, fun q => ?_⟩
      rw [h4 q]
      by_cases e1 : q < j
      · rw [if_pos e1, if_pos (by omega)]
      · by_cases e2 : q = j
        · subst e2
          rw [if_neg e1, if_pos (by omega), hg]
        · rw [if_neg e1, if_neg (by omega)]
    | some x =>
      have G := badL_good (fromU_good (K := K) (j := j) ha hb)
      obtain ⟨hj, hx, hk⟩ := getE_some G.rise hg
      have hxb : x.bad = 0 := G.all x (by rw [← hx]; exact List.getElem_mem _)
      rw [mixU_some hg]
      refine ⟨by rw [List.length_append]; simp; omega, ?_, ?_, fun q => ?_⟩
      · unfold Rising
        rw [List.pairwise_append]
        refine ⟨h2, by simp, fun u hu v hv => ?_⟩
        rw [List.mem_singleton.1 hv, hk]
        exact (h3 u hu).2
      · intro e he
        rcases List.mem_append.1 he with he | he
        · exact ⟨(h3 e he).1, by have := (h3 e he).2; omega⟩
        · rw [List.mem_singleton.1 he]
          exact ⟨hxb, by rw [hk]; omega⟩
      · have e0 : getE (mixU a b K j ++ [x]) (q : Int) = (getE (mixU a b K j) (q : Int)).or (getE [x] (q : Int)) := by
          unfold getE
          exact List.find?_append
        rw [e0, h4 q]
        by_cases e1 : q < j
        · rw [if_pos e1, if_pos (by omega)]
          have e2 : getE [x] (q : Int) = none := by
            unfold getE
            rw [List.find?_cons_of_neg (by rw [hk]; simp; omega)]
            rfl
          rw [e2]
          cases getE (fromU a b K q) (q : Int) <;> rfl
        · by_cases e2 : q = j
          · subst e2
            rw [if_neg e1, if_pos (by omega), hg]
            have e3 : getE [x] (q : Int) = some x := by
              unfold getE
              exact List.find?_cons_of_pos (by rw [hk]; simp)
            rw [e3]
            rfl
          · rw [if_neg e1, if_neg (by omega)]
            have e3 : getE [x] (q : Int) = none := by
              unfold getE
              rw [List.find?_cons_of_neg (by rw [hk]; simp; omega)]
              rfl
            rw [e3]
            rfl
theorem mixU_good {a b : List En} (K : List Int) (ha : badL a = 0) (hb : badL b = 0) : badL (mixU a b K 8) = 0 := by
  obtain ⟨h1, h2, h3, _⟩ := mixU_props K ha hb 8
  exact GoodL.bad ⟨h1, fun e he => (h3 e he).1, h2⟩
theorem mixU_leaf {a b : List En} (K : List Int) (ha : badL a = 0) (hb : badL b = 0) (q : Nat) (hq : q < 8) : leafN (mixU a b K 8) q = if K.contains (q : Int) = true then leafN a q else leafN b q := by
  obtain ⟨_, _, _, h4⟩ := mixU_props K ha hb 8
  have h5 := h4 q
  rw [if_pos hq] at h5
  unfold leafN
  rw [h5]
  unfold fromU
  by_cases hc : K.contains (q : Int) = true
  · rw [if_pos hc, if_pos hc]
  · rw [if_neg hc, if_neg hc]
/-- with a's entries of the keys told they part no more -/
theorem mixU_alike {a b : List En} (ha : badL a = 0) (hb : badL b = 0) : partK (leafN a) (leafN (mixU a b (partK (leafN a) (leafN b) 1) 8)) 1 = [] :=
  (part_alike (part_mended (leafN a) (leafN b) _ (fun q hq => mixU_leaf _ ha hb q hq)).symm).1
end Go.Proofs.YtpcnfoaoajfhlaaGreatDoor
