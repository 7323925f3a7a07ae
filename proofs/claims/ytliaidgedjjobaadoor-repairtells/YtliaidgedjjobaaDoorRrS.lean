/-
  Rows of caches that a call makes: one more appended; the document's row of rows held against the program's.
-/
import Derived.Test.YtliaidgedjjobaaDoorRpF
import Derived.Test.YtliaidgedjjobaaDoorCaS
import Derived.Test.YtliaidgedjjobaaDoorCaA
import Derived.Laws.AppendOwnNone
import Derived.Deep.RegionHeld3
import Derived.BigRegion
import Derived.BigQuiet
namespace Go.Proofs.YtliaidgedjjobaaDoor
set_option linter.unusedVariables false
set_option linter.unusedSimpArgs false
open Go.RowKit

/-- a slice that holds a row of values -/
def ValsIsW (w : World) (v : Value) (us : List Value) : Prop :=
  us.length ≤ maxLen ∧ ∃ p cap, v = .slice p us.length cap ∧ (p = none → cap = 0) ∧ (us ≠ [] → ∃ b o, p = some ⟨b, o, none⟩ ∧ b < w.heap.size ∧ ∀ j (h : j < us.length), w.cell? ⟨b, o + j, none⟩ = some us[j])
theorem ValsIsW.below {w w' : World} {v : Value} {us : List Value} (h : ValsIsW w v us) (hb : Below w.heap.size w w') : ValsIsW w' v us := by
  obtain ⟨h0, p, cap, rfl, h1, h2⟩ := h
  refine ⟨h0, p, cap, rfl, h1, fun hn => ?_⟩
  obtain ⟨b, o, rfl, hlt, hc⟩ := h2 hn
  exact ⟨b, o, rfl, Nat.lt_of_lt_of_le hlt hb.size, fun j hj => (World.cell?_of_block (a := ⟨b, o + j, none⟩) (hb.block b hlt)).trans (hc j hj)⟩
theorem ValsIsW.nil (w : World) : ValsIsW w (.slice none 0 0) [] := ⟨by simp, none, 0, rfl, fun _ => rfl, fun h => absurd rfl h⟩
/-- a row of values of the call's own -/
def OwnW (B : Nat) (w : World) (v : Value) (us : List Value) : Prop := w.ownsRow B 37 1 v us.length us
theorem OwnW.nil (B : Nat) (w : World) : OwnW B w (.slice none 0 0) [] := ⟨rfl, .inl ⟨rfl, rfl⟩⟩
theorem OwnW.vals {B : Nat} {w : World} {v : Value} {us : List Value} (h : OwnW B w v us) : ValsIsW w v us := by
  have hcell : ∀ g, v.ownBlock = some g → ∀ j u, us[j]? = some u → w.cell? ⟨g, j, none⟩ = some u := fun g hg j u hu => by
    have := World.ownsRow.cells h (g := g) hg j u hu
    simpa [Addr.add_lit] using this
  rcases h.2 with ⟨rfl, h0⟩ | ⟨g, cap, cur, rfl, _, hg, hc1, hc2, _⟩
  · rw [List.length_eq_zero_iff.1 h0]
    exact ValsIsW.nil w
  · refine ⟨Nat.le_trans hc1 hc2, _, cap, rfl, fun e => by simp at e, fun _ => ⟨g, 0, rfl, (Array.getElem?_eq_some_iff.1 hg).1, fun j hj => ?_⟩⟩
    have := hcell g rfl j us[j] (by simp [hj])
    simpa using this
theorem OwnW.below {B : Nat} {w w' : World} {v : Value} {us : List Value} (h : OwnW B w v us) (hb : Below w.heap.size w w') : OwnW B w' v us := ownsRow_belowF h hb
theorem OwnW.from {B : Nat} {w : World} {v : Value} {us : List Value} (h : OwnW B w v us) (c : Nat) (hc : v.ownBlock = some c) : B ≤ c := ownsRow_fromF h c hc
theorem infoSlW : (Tryd.prog.info? 37).map (fun i => (i.zero, i.size, i.bytes)) = some (some (.slice none 0 0), 1, 24) := by kernel_rfl
/-- a row of caches of the call's own; what is in it lies elsewhere -/
def GrowW (B : Nat) (w : World) (v : Value) (ls : List (List En)) : Prop := ∃ us : List Value, us.length = ls.length ∧ OwnW B w v us ∧ (∀ j (h : j < us.length) (h' : j < ls.length), RowIs w us[j] ls[j]) ∧ ∀ u ∈ us, ∀ g, u.ownBlock = some g → g < w.heap.size ∧ v.ownBlock ≠ some g
theorem GrowW.nil (B : Nat) (w : World) : GrowW B w (.slice none 0 0) [] := ⟨[], rfl, OwnW.nil B w, fun j h _ => by simp at h, fun u hu => by simp at hu⟩
theorem GrowW.below {B : Nat} {w w' : World} {v : Value} {ls : List (List En)} (h : GrowW B w v ls) (hb : Below w.heap.size w w') : GrowW B w' v ls := by
  obtain ⟨us, h0, h1, h2, h3⟩ := h
  exact ⟨us, h0, h1.below hb, fun j h h' => (h2 j h h').below hb, fun u hu g hg => ⟨Nat.lt_of_lt_of_le (h3 u hu g hg).1 hb.size, (h3 u hu g hg).2⟩⟩
theorem GrowW.rows {B : Nat} {w : World} {v : Value} {ls : List (List En)} (h : GrowW B w v ls) : RowsIs w v ls := by
  obtain ⟨us, h0, h1, h2, _⟩ := h
  obtain ⟨h3, p, cap, rfl, _, h4⟩ := h1.vals
  refine ⟨by omega, p, cap, by rw [h0], fun hn => ?_⟩
  have hu : us ≠ [] := fun e => by
    subst e
    exact hn (List.length_eq_zero_iff.1 h0.symm)
  obtain ⟨b, o, rfl, hlt, hc⟩ := h4 hu
  exact ⟨b, o, rfl, hlt, fun j hj => ⟨us[j]'(by omega), hc j (by omega), h2 j (by omega) hj⟩⟩
theorem GrowW.from {B : Nat} {w : World} {v : Value} {ls : List (List En)} (h : GrowW B w v ls) (c : Nat) (hc : v.ownBlock = some c) : B ≤ c := by
  obtain ⟨us, _, h1, _⟩ := h
  exact h1.from c hc
theorem GrowW.lt {B : Nat} {w : World} {v : Value} {ls : List (List En)} (h : GrowW B w v ls) (c : Nat) (hc : v.ownBlock = some c) : c < w.heap.size := by
  obtain ⟨us, _, h1, _⟩ := h
  exact ownsRow_lt h1 c hc
theorem RowIs.lt {w : World} {v : Value} {l : List En} (h : RowIs w v l) (hn : l ≠ []) (g : Nat) (hg : v.ownBlock = some g) : g < w.heap.size := by
  obtain ⟨_, p, cap, rfl, h1⟩ := h
  obtain ⟨b, o, rfl, hlt, _⟩ := h1 hn
  obtain rfl : b = g := by simpa [Value.ownBlock] using hg
  exact hlt
/-- append of one cache -/
theorem wp_growW {ops : Array Oper} {rest : List Oper} {o : Oper} {ac : Act} {Q : Exit → Act → World → Prop} (w : World) (hgd : o.guard = none) (s x : Operand)
    (ho : o.op = .call { callee := .builtin .append, args := #[s, x], argTypes := #[22, 22] }) (B : Nat) (v : Value) (ls : List (List En)) (e : Value) (l : List En) (hs : ac.eval s = v)
    (hown : GrowW B w v ls) (vb : Nat) (hx : ac.eval x = .slice (some ⟨vb, 0, none⟩) 1 1) (hv : w.heap[vb]? = some (.cells #[e] 37 (0, 0))) (he : RowIs w e l) (hel : ∀ g, e.ownBlock = some g → g < w.heap.size ∧ v.ownBlock ≠ some g) (hl : ls.length ≤ 100) (hB : B ≤ w.heap.size)
    (h : ∀ v' w', GrowW B w' v' (ls ++ [l]) → Hid (w.grownBy w' v.ownBlock) → wpList Tryd.prog ops Q rest (ac.put o.dst v') w') : wpList Tryd.prog ops Q (o :: rest) ac w := by
  obtain ⟨us, h0, h1, h2, h3⟩ := hown
  obtain ⟨i0, hi0, hz0, hz1, hz2⟩ := info_parts infoSlW
  have hec : e.oneCell' = true := by
    obtain ⟨_, p, cap, rfl, _⟩ := he
    rfl
  have q3 : ∀ (u : Value), u ∈ [e] → u.oneCell' = true := fun u hu => by simp at hu; subst hu; exact hec
  have q2 : ∀ (j : Nat) (u : Value), [e][j]? = some u → w.cell? ((⟨vb, 0, none⟩ : Addr).add j) = some u := World.news_of_block hv
  refine wpList_append_own_at w hgd s x 22 ho B 37 i0 _ 1 24 Tryd.underlying22 hi0 hz0 hz1 hz2 rfl (by omega) v us.length us hs h1 ⟨vb, 0, none⟩ 1 1 [e] hx rfl q2 q3 (by unfold maxLen; omega) (by omega) hB ?_
  intro v' w' g1 g2 _ g4
  have hkeep : ∀ u l', RowIs w u l' → (∀ g, u.ownBlock = some g → g < w.heap.size ∧ v.ownBlock ≠ some g) → RowIs w' u l' := fun u l' hr hg => hr.blocks g2.size (fun c hc hlt => g2.block c hlt (fun e => (hg c hc).2 e.symm))
  have hsep : ∀ u : Value, (∀ g, u.ownBlock = some g → g < w.heap.size ∧ v.ownBlock ≠ some g) → ∀ g, u.ownBlock = some g → g < w'.heap.size ∧ v'.ownBlock ≠ some g := fun u hu g hg => by
    obtain ⟨q1, q2⟩ := hu g hg
    have hz := g2.size
    refine ⟨by omega, fun e => ?_⟩
    rcases g4 with h' | h'
    · exact q2 (by rw [← h']; exact e)
    · rw [h'] at e
      have : w.heap.size = g := by simpa using e
      omega
  refine h v' w' ⟨us ++ [e], by simp [h0], (show World.ownsRow _ _ _ _ _ _ _ from by rw [List.length_append]; exact g1), fun j hj hj' => ?_, fun u hu => ?_⟩ g2
  · by_cases hjl : j < us.length
    · rw [List.getElem_append_left hjl, List.getElem_append_left (by omega)]
      exact hkeep _ _ (h2 j hjl (by omega)) (h3 _ (List.getElem_mem _))
    · have hj2 : j = us.length := by simp at hj; omega
      subst hj2
      rw [List.getElem_append_right (Nat.le_refl _), List.getElem_append_right (by omega)]
      simp only [h0, Nat.sub_self, List.getElem_cons_zero]
      exact hkeep _ _ he hel
  · rcases List.mem_append.1 hu with hu | hu
    · exact hsep u (h3 u hu)
    · obtain rfl : u = e := by simpa using hu
      exact hsep u hel
theorem old_cellW {w w' : World} {a : Addr} {v : Value} (hb : Below w.heap.size w w') (h : w.cell? a = some v) : w'.cell? a = some v := (hb.cell (p := a) (World.block_lt_of_cell? w a h)).trans h
theorem below_drewW (B : Nat) (w : World) (n : Nat) : Below B w (w.drewN n) := ⟨rfl, rfl, rfl, Nat.le_refl _, fun _ _ => rfl⟩
theorem same_self (va vb : Value) (a : List En) (w : World) (hra : RowIs w va a) (hrb : RowIs w vb a) :
    Calls Tryd.prog 41 #[va, vb] w fun e w' => e = .returned (.bool true) ∧ Below w.heap.size w w' := by
  have c := same_c va vb a a w hra hrb
  rw [sameL_iff.2 rfl] at c
  exact c
set_option maxHeartbeats 4000000 in
theorem sameRows_c (va vb : Value) (a : List (List En)) (w : World) (hra : RowsIs w va a) (hrb : RowsIs w vb a) :
    Calls Tryd.prog 17 #[va, vb] w fun e w' => e = .returned (.bool true) ∧ Below w.heap.size w w' := by
  obtain ⟨hla, pa, ca, rfl, hrowa⟩ := hra
  obtain ⟨hlb, pb, cb, rfl, hrowb⟩ := hrb
  have HRA : Hid (a ≠ [] → ∃ b o, pa = some ⟨b, o, none⟩ ∧ b < w.heap.size ∧ ∀ j (h : j < a.length), ∃ u, w.cell? ⟨b, o + j, none⟩ = some u ∧ RowIs w u a[j]) := hrowa
  have HRB : Hid (a ≠ [] → ∃ b o, pb = some ⟨b, o, none⟩ ∧ b < w.heap.size ∧ ∀ j (h : j < a.length), ∃ u, w.cell? ⟨b, o + j, none⟩ = some u ∧ RowIs w u a[j]) := hrowb
  clear hrowa hrowb
  obtain ⟨N, HN⟩ : ∃ N, Hid (a.length = N) := ⟨_, rfl⟩
  obtain ⟨M, HM⟩ : ∃ M, Hid (a.length = M) := ⟨_, rfl⟩
  have HNM : Hid (N = M) := HN.out.symm.trans HM.out
  have hnm : ((N : Int) != (M : Int)) = false := by rw [HNM.out]; simp
  suffices hs : Calls Tryd.prog 17 #[.slice pa N ca, .slice pb M cb] w fun e w' => e = .returned (.bool true) ∧ Below w.heap.size w w' by
    have e1 := HN.out
    have e2 := HM.out
    subst e1
    subst e2
    exact hs
  have hn63 : N ≤ 9223372036854775807 := by have := HN.out; unfold maxLen at hla; omega
  clear hla hlb
  go_enter Tryd.func17, Tryd.ntmps17
  go_wp2_with fail
  go_loopw [5] (fun i wr => ∃ j : Nat, j ≤ N ∧ i = .int .i64 j ∧ Hid (Below w.heap.size w wr)) (fun i _ => N - (intOf i).toNat)
  case atStart => exact ⟨0, Nat.zero_le _, rfl, Below.refl _ _⟩
  case round =>
    obtain ⟨j, hj, rfl, HB⟩ := hrel
    by_cases hlt : j < N
    · have hlti : (j : Int) < (N : Int) := by omega
      have hltm : (j : Int) < (M : Int) := by have := HNM.out; omega
      have hja : j < a.length := by rw [HN.out]; exact hlt
      obtain ⟨ba, oa, rfl, hba, hata⟩ := HRA.out (fun h => by simp [h] at hja)
      obtain ⟨bb, ob, rfl, hbb, hatb⟩ := HRB.out (fun h => by simp [h] at hja)
      obtain ⟨ua, hua, hia⟩ := hata j hja
      obtain ⟨ub, hub, hib⟩ := hatb j hja
      have c0 : wr.cell? ⟨ba, oa + j, none⟩ = some ua := (World.cell?_of_block (a := ⟨ba, oa + j, none⟩) (HB.out.block ba hba)).trans hua
      have d0 : wr.cell? ⟨bb, ob + j, none⟩ = some ub := (World.cell?_of_block (a := ⟨bb, ob + j, none⟩) (HB.out.block bb hbb)).trans hub
      have HI : Hid (Calls Tryd.prog 41 #[ua, ub] wr.drew fun e w' => e = .returned (.bool true) ∧ Below wr.drew.heap.size wr.drew w') := same_self ua ub a[j] wr.drew (hia.below (HB.out.trans (below_drewW _ _ 1))) (hib.below (HB.out.trans (below_drewW _ _ 1)))
      obtain ⟨p1, k1, e1, _⟩ := hia.slice
      obtain ⟨p2, k2, e2, _⟩ := hib.slice
      obtain ⟨L, HL⟩ : ∃ L, Hid (a[j].length = L) := ⟨a[j].length, show a[j].length = a[j].length from rfl⟩
      rw [HL.out] at e1 e2
      rw [e1] at c0 HI
      rw [e2] at d0 HI
      have C0 : Hid _ := c0
      have D0 : Hid _ := d0
      clear hata hatb hua hub hia hib e1 e2
      go_upto_region 6 with fail
      go_region_held3 (fun w' => w'.cell? ⟨ba, oa + j, none⟩ = some (.slice p1 L k1) ∧ w'.cell? ⟨bb, ob + j, none⟩ = some (.slice p2 L k2)) (first | (exact ⟨C0.out, D0.out⟩) | (exact ⟨old_cellW hb3 C0.out, old_cellW hb3 D0.out⟩) | go_keep) (first | (go_at_call 41; refine (HI.out).mono ?_; rintro e w3 ⟨rfl, hb3⟩))
      have B3 : Hid (Below w.heap.size w w3) := (HB.out.trans (below_drewW _ _ 1)).trans (hb3.mono HB.out.size)
      clear hb3 HI C0 D0 c0 d0
      go_wp2_with fail
      go_roundw
      case rel => exact ⟨j + 1, by omega, by go_num, B3⟩
      case measure => simp [intOf]; omega
    · obtain rfl : j = N := by omega
      go_wp2_with fail
      go_ret
      exact ⟨rfl, HB.out⟩
end Go.Proofs.YtliaidgedjjobaaDoor
