/-
  A row of words of the call's own, and one more; a row of words joined.
  Package run by its contracts: what a desk does with a cache.
  Package run by its contracts: what a desk does with an owner.
  Package run by its contracts: what a desk does with numbers and words, whichever line it is.
-/
import Derived.Test.YtpcnfoaoajfhlaaGreatDoorRaba
import Derived.Test.YtpcnfoaoajfhlaaGreatDoorSh2
import Derived.Lib.JoinLaws
import Derived.Test.YtpcnfoaoajfhlaaGreatDoorRabb
namespace Go.Proofs.YtpcnfoaoajfhlaaGreatDoor
set_option linter.unusedVariables false
set_option linter.unusedSimpArgs false
set_option linter.unusedVariables false
set_option linter.unusedSimpArgs false
open Go.RowKit

def strC (l : List ByteArray) : List Value := l.map Value.string
theorem infoStr : (Tryz.prog.info? 9).map (fun i => (i.zero, i.size, i.bytes)) = some (some (.string ⟨#[]⟩), 1, 16) := by kernel_rfl
/-- a row of words of the call's own -/
def OwnS (B : Nat) (w : World) (v : Value) (l : List ByteArray) : Prop := w.ownsRow B 9 1 v l.length (strC l)
theorem OwnS.nil (B : Nat) (w : World) : OwnS B w (.slice none 0 0) [] := World.ownsRow_nil w B _ 1
theorem OwnS.below {B : Nat} {w w' : World} {v : Value} {l : List ByteArray} (h : OwnS B w v l) (hb : Below w.heap.size w w') : OwnS B w' v l := ownsRow_belowF h hb
theorem OwnS.from {B : Nat} {w : World} {v : Value} {l : List ByteArray} (h : OwnS B w v l) (c : Nat) (hc : v.ownBlock = some c) : B ≤ c := ownsRow_fromF h c hc
/-- its cells -/
theorem OwnS.cells {B : Nat} {w : World} {v : Value} {l : List ByteArray} (h : OwnS B w v l) (h0 : l ≠ []) : ∃ g cap, v = .slice (some ⟨g, 0, none⟩) l.length cap ∧ g < w.heap.size ∧ l.length ≤ cap ∧ cap ≤ maxLen ∧ ∀ (j : Nat) x, l[j]? = some x → w.cell? ⟨g, j, none⟩ = some (.string x) := by
  have hcell : ∀ g, v.ownBlock = some g → ∀ j u, (strC l)[j]? = some u → w.cell? ⟨g, j, none⟩ = some u := fun g hg j u hu => by
    have := World.ownsRow.cells h (g := g) hg j u hu
    simpa [Addr.add_lit] using this
  rcases h.2 with ⟨_, h1⟩ | ⟨g, cap, cur, rfl, _, hg, hc1, hc2, _⟩
  · exact absurd (List.length_eq_zero_iff.1 h1) h0
  · refine ⟨g, cap, rfl, (Array.getElem?_eq_some_iff.1 hg).1, hc1, hc2, fun j x hx => ?_⟩
    exact hcell g rfl j (.string x) (by simp [strC, List.getElem?_map, hx])
theorem wp_appW {ops : Array Oper} {rest : List Oper} {o : Oper} {ac : Act} {Q : Exit → Act → World → Prop} (w : World) (hgd : o.guard = none) (s x : Operand)
    (ho : o.op = .call { callee := .builtin .append, args := #[s, x], argTypes := #[23, 23] }) (B : Nat) (v : Value) (out : List ByteArray) (e : ByteArray) (hs : ac.eval s = v)
    (hown : OwnS B w v out) (vb : Nat) (hx : ac.eval x = .slice (some ⟨vb, 0, none⟩) 1 1) (hv : w.heap[vb]? = some (.cells #[.string e] 9 (0, 0))) (hl : out.length ≤ 100000) (hB : B ≤ w.heap.size)
    (h : ∀ v' w', OwnS B w' v' (out ++ [e]) → Hid (w.grownBy w' v.ownBlock) → wpList Tryz.prog ops Q rest (ac.put o.dst v') w') : wpList Tryz.prog ops Q (o :: rest) ac w := by
  obtain ⟨i0, hi0, hz0, hz1, hz2⟩ := info_parts infoStr
  have q3 : ∀ (u : Value), u ∈ [Value.string e] → u.oneCell' = true := fun u hu => by simp at hu; subst hu; rfl
  have q2 : ∀ (j : Nat) (u : Value), [Value.string e][j]? = some u → w.cell? ((⟨vb, 0, none⟩ : Addr).add j) = some u := World.news_of_block hv
  refine wpList_append_own w hgd s x 23 ho B 9 i0 _ 1 16 Tryz.underlying23 hi0 hz0 hz1 hz2 rfl (by omega) v out.length (strC out) hs hown ⟨vb, 0, none⟩ 1 1 [.string e] hx rfl q2 q3 (by unfold maxLen; omega) (by omega) hB ?_
  intro v' w' h1 h2 _
  refine h v' w' (show World.ownsRow _ _ _ _ _ _ _ from ?_) h2
  have hr : strC (out ++ [e]) = strC out ++ [.string e] := by simp [strC]
  rw [hr, List.length_append]
  exact h1
end Go.Proofs.YtpcnfoaoajfhlaaGreatDoor

namespace Go.Proofs.YtpcnfoaoajfhlaaGreatDoor
set_option linter.unusedVariables false
set_option linter.unusedSimpArgs false
open Go.RowKit

theorem keyBs_more (x : List En) (j : Nat) (h : j < x.length) : (keyBs x).take (j + 1) = (keyBs x).take j ++ [digS x[j].k.toNat] := by
  rw [List.take_add_one, keyBs, List.getElem?_map, List.getElem?_eq_getElem h]
  rfl
theorem join_len (sep : List UInt8) (h1 : sep.length = 1) : ∀ (xs : List (List UInt8)) (k : Nat), (∀ x ∈ xs, x.length ≤ k) → (Lib.join xs sep).length ≤ xs.length * (k + 1)
  | [], k, _ => by simp [Lib.join_nil]
  | x :: xs, k, h => by
    rw [Lib.join_cons, List.length_append]
    have h2 : ∀ ys : List (List UInt8), (∀ y ∈ ys, y.length ≤ k) → (Lib.joinTail sep ys).length ≤ ys.length * (k + 1) := by
      intro ys
      induction ys with
      | nil => intro _; simp [Lib.joinTail]
      | cons y ys ih =>
        intro hy
        have i1 := ih (fun z hz => hy z (List.mem_cons_of_mem _ hz))
        have i2 := hy y List.mem_cons_self
        simp only [Lib.joinTail, List.map_cons, List.flatten_cons, List.length_append, List.length_cons] at i1 ⊢
        rw [Nat.succ_mul, h1]
        omega
    have h3 := h2 xs (fun y hy => h y (List.mem_cons_of_mem _ hy))
    have h4 := h x List.mem_cons_self
    rw [List.length_cons, Nat.succ_mul]
    omega
set_option maxHeartbeats 8000000 in
theorem deskCache_ok {S : Nat → Prop} {w : World} {d m r : Nat} {l : List Deed} {cs : List (List En)} (h : Dk S w d m r l cs) (nb no nc a : Nat) (vw : Value) (n0 : w.cell? ⟨nb, no, none⟩ = some (.int .i64 a)) {x : List En} (hx : mCacheO cs a = (x, 0)) :
    Calls Tryz.prog 127 #[.pointer (some ⟨d, 0, none⟩), .slice (some ⟨nb, no, none⟩) 1 nc, vw] w fun e w' => e = .returned (.tuple #[.string (cacheB x), .nilIface]) ∧ Below w.heap.size w w' := by
  have d0 := h.d0
  have HG : Hid (GoodL x) := by
    have hg := (h.good.at a).good
    unfold mCacheO at hx
    split at hx
    · obtain ⟨rfl, _⟩ : cacheN cs a = x ∧ True := by simpa using hx
      exact hg
    · simp at hx
  obtain ⟨N, HN⟩ : ∃ N, Hid (x.length = N) := ⟨_, rfl⟩
  have HP : Hid (∀ W, Below w.heap.size w W → Calls Tryz.prog 17 #[.pointer (some ⟨m, 0, none⟩), .int .i64 a] W fun e w' => ∃ p cap, e = .returned (.tuple #[.slice p N cap, Value.nilIface]) ∧ (x ≠ [] → ∃ b o, p = some ⟨b, o, none⟩ ∧ b < w'.heap.size ∧ ∀ j (h : j < x.length), EnAt w' b (o + j * 5) x[j]) ∧ Below w.heap.size w w') := fun W hW => by
    have c := mCache_o (h.mesh.grown hW) h.good hx
    refine c.mono fun e w' ⟨v, h1, h2, _, h4⟩ => ?_
    obtain ⟨_, p, cap, rfl, h5⟩ := h2
    exact ⟨p, cap, by rw [h1, HN.out, eV_zeroN], h5, hW.trans (h4.mono hW.size)⟩
  have HGl : Hid (Gl w) := h.gl
  have hN8 : N ≤ 8 := by rw [← HN.out]; exact HG.out.len
  clear h hx
  go_enter Tryz.func127, Tryz.ntmps127
  go_upto_region 1 with fail
  go_cut [8, 9] (fun c8 c9 wc => ∃ p cap, c8 = .slice p N cap ∧ c9 = Value.nilIface ∧ Hid (x ≠ [] → ∃ b o, p = some ⟨b, o, none⟩ ∧ b < wc.heap.size ∧ ∀ j (h : j < x.length), EnAt wc b (o + j * 5) x[j]) ∧ Hid (Below w.heap.size w wc))
  case first =>
    go_region_held3 (fun w' => w'.cell? ⟨d, 0, none⟩ = some (.pointer (some ⟨m, 0, none⟩)) ∧ w'.cell? ⟨nb, no, none⟩ = some (.int .i64 a)) (first | go_keep | (exact ⟨kept_cell HB3.out d0, kept_cell HB3.out n0⟩)) (first | (go_at_call 17; refine Calls.mono (HP.out _ ?_) ?_; exact ⟨rfl, rfl, rfl, Nat.le_refl _, fun _ _ => rfl⟩; rintro e w3 ⟨p, cap, rfl, hr3, hb3⟩; have HB3 : Hid (Below w.heap.size w w3) := hb3; have HR3 : Hid (x ≠ [] → ∃ b o, p = some ⟨b, o, none⟩ ∧ b < w3.heap.size ∧ ∀ j (h : j < x.length), EnAt w3 b (o + j * 5) x[j]) := hr3; clear hr3 hb3))
    all_goals go_wp2_with fail
    all_goals go_meet
    all_goals exact ⟨_, _, rfl, rfl, HR3, HB3⟩
  case rest =>
  obtain ⟨p, cap, h8, h9, HRow, HB⟩ := hcut
  subst h8
  subst h9
  by_cases hN0 : N = 0
  · have hN0b : ((N : Int) == 0) = true := by simp [hN0]
    have HX : Hid (cacheB x = dashS) := by
      have : x = [] := List.length_eq_zero_iff.1 (HN.out.trans hN0)
      rw [this]
      rfl
    clear hN0
    go_wp2_with fail
    go_ret2
    exact ⟨by rw [HX.out]; rfl, HB.out⟩
  · have hN0b : ((N : Int) == 0) = false := by simp; omega
    have hNp : 0 < N := by omega
    have HX : Hid (cacheB x = ⟨(Lib.join ((keyBs x).map (fun b => b.data.toList)) blankS.data.toList).toArray⟩) := by
      cases x with
      | nil => exact absurd HN.out.symm hN0
      | cons e x => rfl
    obtain ⟨b, o, rfl, hbw, hat⟩ := HRow.out (fun h => by rw [h] at HN; exact hN0 HN.out.symm)
    have HAt0 : Hid (∀ j (h : j < x.length), EnAt wc b (o + j * 5) x[j]) := hat
    clear hat hN0 HRow
    go_wp2_with fail
    go_loopw [10, 32] (fun c10 c32 wr => ∃ (j : Nat) (u : Value), c10 = u ∧ j ≤ N ∧ c32 = .int .i64 j ∧ Hid (OwnS wc.heap.size wr u ((keyBs x).take j)) ∧ Hid (Below wc.heap.size wc wr)) (fun _ i _ => N - (intOf i).toNat)
    case atStart => exact ⟨0, .slice none 0 0, rfl, Nat.zero_le _, rfl, OwnS.nil _ _, Below.refl _ _⟩
    case round =>
      obtain ⟨j, u, hu, hj, rfl, HO, HBr⟩ := hrel
      have hu' := hu.symm
      clear hu
      subst hu'
      have HBw : Hid (Below w.heap.size w wr) := HB.out.trans (HBr.out.mono HB.out.size)
      by_cases hlt : j < N
      · have hjl : j < x.length := by rw [HN.out]; exact hlt
        have HAt : Hid (EnAt wr b (o + j * 5) x[j]) := (HAt0.out j hjl).of_block (HBr.out.block b hbw)
        have hbr : b < wr.heap.size := by have := HBr.out.size; omega
        have hlti : (j : Int) < (N : Int) := by omega
        have hws : w.heap.size ≤ wr.heap.size := HBw.out.size
        have HK : Hid ((keyBs x).take (j + 1) = (keyBs x).take j ++ [digS x[j].k.toNat]) := keyBs_more x j hjl
        have HSm : Hid (Small x[j]) := small_bad (HG.out.all x[j] (List.getElem_mem hjl))
        obtain ⟨y, HY⟩ : ∃ y, Hid (x[j] = y) := ⟨x[j], show x[j] = x[j] from rfl⟩
        rw [HY.out] at HAt HK HSm
        obtain ⟨x0, x1, x2, x3, x4⟩ := y
        obtain ⟨k, rfl⟩ : ∃ k : Nat, x0 = k := ⟨x0.toNat, by have := HSm.out.k0.1; dsimp only at this; omega⟩
        have hk7 : k ≤ 7 := by have := HSm.out.k0.2; dsimp only at this; omega
        obtain ⟨c0, c1, c2, c3, c4⟩ := HAt.out
        dsimp only at c0 c1 c2 c3 c4
        obtain ⟨xs, HXs⟩ : ∃ xs, Hid ((keyBs x).take j = xs) := ⟨_, rfl⟩
        rw [HXs.out] at HO HK
        have HKk : Hid ((keyBs x).take (j + 1) = xs ++ [digS k]) := HK.out
        have HL : Hid (xs.length ≤ 100) := by
          have h1 := HG.out.len
          have h2 := congrArg List.length HXs.out
          rw [List.length_take, keyBs, List.length_map] at h2
          show _ ≤ _
          omega
        have HI : Hid (∀ W, Below w.heap.size w W → Calls Tryz.prog 168 #[.int .i64 k] W fun e w' => e = .returned (.string (digS k)) ∧ Below W.heap.size W w') := fun W hW => itoa_c k (by omega) W (HGl.out.below hW).tab
        clear HY HSm HK HXs
        go_wp2_with fail
        have HB4 : Hid (Below w.heap.size w (wr.alloc (.cells #[.int .i64 k, .int .i64 x1, .int .i64 x2, .bool x3, .string x4] 46))) := HBw.out.alloc hws _
        have HO4 : Hid (OwnS wc.heap.size (wr.alloc (.cells #[.int .i64 k, .int .i64 x1, .int .i64 x2, .bool x3, .string x4] 46)) u xs) := HO.out.below ((Below.refl _ _).alloc (Nat.le_refl _) _)
        have HBr4 : Hid (Below wc.heap.size wc (wr.alloc (.cells #[.int .i64 k, .int .i64 x1, .int .i64 x2, .bool x3, .string x4] 46))) := HBr.out.alloc HBr.out.size _
        refine (HI.out _ HB4.out).mono ?_
        rintro e w5 ⟨rfl, hb5⟩
        have HB5 : Hid (Below w.heap.size w w5) := HB4.out.trans (hb5.mono HB4.out.size)
        have HO5 : Hid (OwnS wc.heap.size w5 u xs) := HO4.out.below hb5
        have HBr5 : Hid (Below wc.heap.size wc w5) := HBr4.out.trans (hb5.mono HBr4.out.size)
        clear hb5 HB4 HO4 HBr4 c0 c1 c2 c3 c4 HAt HI
        have HOa : Hid (OwnS wc.heap.size (w5.alloc (.cells #[.string (digS k)] 9)) u xs) := HO5.out.below ((Below.refl _ _).alloc (Nat.le_refl _) _)
        have HVa : Hid ((w5.alloc (.cells #[.string (digS k)] 9)).heap[w5.heap.size]? = some (.cells #[.string (digS k)] 9 (0, 0))) := alloc_at _ _ _ rfl
        have HSa : Hid (wc.heap.size ≤ (w5.alloc (.cells #[.string (digS k)] 9)).heap.size) := show _ ≤ _ from (by have := HBr5.out.size; simp; omega)
        have HLa : Hid (xs.length ≤ 100000) := Nat.le_trans HL.out (by omega)
        have HBa : Hid (Below wc.heap.size wc (w5.alloc (.cells #[.string (digS k)] 9))) := HBr5.out.alloc HBr5.out.size _
        go_wp2_with (at_builtin; refine wp_appW _ rfl _ _ rfl wc.heap.size _ xs (digS k) rfl HOa.out _ rfl HVa.out HLa.out HSa.out ?_)
        intro va wa hown hgrow
        have HOp : Hid (OwnS wc.heap.size wa va (xs ++ [digS k])) := hown
        have HBp : Hid (Below wc.heap.size wc wa) := by
          exact below_grownF HBa.out (Nat.le_refl _) hgrow.out (fun c hc => OwnS.from HO5.out c hc)
        clear hown hgrow HOa HVa HLa HSa HBa
        go_wp2_with fail
        go_roundw
        case rel => exact ⟨j + 1, va, rfl, by omega, by go_num, by rw [HKk.out]; exact HOp, HBp⟩
        case measure => simp [intOf]; omega
      · obtain rfl : j = N := by omega
        have hlti : ¬ (j : Int) < (j : Int) := by omega
        have HT : Hid ((keyBs x).take j = keyBs x) := List.take_of_length_le (by rw [keyBs, List.length_map, HN.out]; exact Nat.le_refl _)
        rw [HT.out] at HO
        obtain ⟨g, cap2, rfl, hgl, hgc, hgm, hcells⟩ := OwnS.cells HO.out (by intro e; have h1 := congrArg List.length e; rw [keyBs, List.length_map, HN.out] at h1; simp at h1; omega)
        have HNk : Hid ((keyBs x).length = j) := by show _ = _; rw [keyBs, List.length_map, HN.out]
        have HC : Hid _ := hcells
        have HJl : Hid ((Lib.join ((keyBs x).map (·.data.toList)) blankS.data.toList).length ≤ 140737488355328) := by
          have h1 := join_len blankS.data.toList rfl ((keyBs x).map (·.data.toList)) 30 (fun y hy => by
            simp only [keyBs, List.map_map, List.mem_map] at hy
            obtain ⟨e, he, rfl⟩ := hy
            have h2 := (small_bad (HG.out.all e he)).k0.2
            have h3 := digS_size e.k.toNat (by omega)
            show (digS e.k.toNat).data.toList.length ≤ 30
            rw [size_list]
            omega)
          rw [List.length_map, HNk.out] at h1
          show _ ≤ _
          omega
        have HJ : Hid (Calls Tryz.prog 169 #[.slice (some ⟨g, 0, none⟩) (keyBs x).length cap2, .string ⟨#[32]⟩] wr fun e w' => e = .returned (.string (cacheB x)) ∧ Below wr.heap.size wr w') := by
          show Calls _ _ _ _ _
          rw [HX.out]
          exact strings_Join_s g 0 cap2 (keyBs x) blankS wr (fun i y hy => by rw [Nat.zero_add]; exact HC.out i y hy) hgl (by rw [HNk.out]; omega) (by rw [HNk.out] at hgc ⊢; exact hgc) HJl.out
        clear hgc hcells HJl HC HAt0
        go_wp2_with fail
        refine Calls.mono HJ.out ?_
        rintro e w5 ⟨rfl, hb⟩
        have HB5 : Hid (Below w.heap.size w w5) := HBw.out.trans (hb.mono HBw.out.size)
        clear hb
        go_wp2_with fail
        go_ret2
        exact ⟨rfl, HB5.out⟩
set_option maxHeartbeats 8000000 in
theorem deskCache_bad {S : Nat → Prop} {w : World} {d m r : Nat} {l : List Deed} {cs : List (List En)} (h : Dk S w d m r l cs) (nb no nc a : Nat) (vw : Value) (n0 : w.cell? ⟨nb, no, none⟩ = some (.int .i64 a)) {x : List En} {n : Int} (hx : mCacheO cs a = (x, n)) (hn : n ≠ 0) :
    Calls Tryz.prog 127 #[.pointer (some ⟨d, 0, none⟩), .slice (some ⟨nb, no, none⟩) 1 nc, vw] w fun e w' => e = .returned (.tuple #[.string ⟨#[]⟩, eV n]) ∧ Below w.heap.size w w' := by
  have d0 := h.d0
  have HG : Hid (GoodL x) := by
    have hg := (h.good.at a).good
    unfold mCacheO at hx
    split at hx
    · obtain ⟨rfl, _⟩ : cacheN cs a = x ∧ (0 : Int) = n := by simpa using hx
      exact hg
    · obtain ⟨rfl, _⟩ : [] = x ∧ (1 : Int) = n := by simpa using hx
      exact goodL_nil
  obtain ⟨N, HN⟩ : ∃ N, Hid (x.length = N) := ⟨_, rfl⟩
  have HP : Hid (∀ W, Below w.heap.size w W → Calls Tryz.prog 17 #[.pointer (some ⟨m, 0, none⟩), .int .i64 a] W fun e w' => ∃ p cap, e = .returned (.tuple #[.slice p N cap, .iface 85 (.int .i64 n)]) ∧ (x ≠ [] → ∃ b o, p = some ⟨b, o, none⟩ ∧ b < w'.heap.size ∧ ∀ j (h : j < x.length), EnAt w' b (o + j * 5) x[j]) ∧ Below w.heap.size w w') := fun W hW => by
    have c := mCache_o (h.mesh.grown hW) h.good hx
    refine c.mono fun e w' ⟨v, h1, h2, _, h4⟩ => ?_
    obtain ⟨_, p, cap, rfl, h5⟩ := h2
    exact ⟨p, cap, by rw [h1, HN.out, eV_errN hn], h5, hW.trans (h4.mono hW.size)⟩
  have HGl : Hid (Gl w) := h.gl
  have hN8 : N ≤ 8 := by rw [← HN.out]; exact HG.out.len
  rw [eV_errN hn]
  clear h hx
  go_enter Tryz.func127, Tryz.ntmps127
  go_upto_region 1 with fail
  go_cut [8, 9] (fun c8 c9 wc => ∃ p cap, c8 = .slice p N cap ∧ c9 = .iface 85 (.int .i64 n) ∧ Hid (x ≠ [] → ∃ b o, p = some ⟨b, o, none⟩ ∧ b < wc.heap.size ∧ ∀ j (h : j < x.length), EnAt wc b (o + j * 5) x[j]) ∧ Hid (Below w.heap.size w wc))
  case first =>
    go_region_held3 (fun w' => w'.cell? ⟨d, 0, none⟩ = some (.pointer (some ⟨m, 0, none⟩)) ∧ w'.cell? ⟨nb, no, none⟩ = some (.int .i64 a)) (first | go_keep | (exact ⟨kept_cell HB3.out d0, kept_cell HB3.out n0⟩)) (first | (go_at_call 17; refine Calls.mono (HP.out _ ?_) ?_; exact ⟨rfl, rfl, rfl, Nat.le_refl _, fun _ _ => rfl⟩; rintro e w3 ⟨p, cap, rfl, hr3, hb3⟩; have HB3 : Hid (Below w.heap.size w w3) := hb3; have HR3 : Hid (x ≠ [] → ∃ b o, p = some ⟨b, o, none⟩ ∧ b < w3.heap.size ∧ ∀ j (h : j < x.length), EnAt w3 b (o + j * 5) x[j]) := hr3; clear hr3 hb3))
    all_goals go_wp2_with fail
    all_goals go_meet
    all_goals exact ⟨_, _, rfl, rfl, HR3, HB3⟩
  case rest =>
  obtain ⟨p, cap, h8, h9, HRow, HB⟩ := hcut
  subst h8
  subst h9
  go_wp2_with fail
  go_ret2
  exact ⟨rfl, HB.out⟩
end Go.Proofs.YtpcnfoaoajfhlaaGreatDoor

namespace Go.Proofs.YtpcnfoaoajfhlaaGreatDoor
set_option linter.unusedVariables false
set_option linter.unusedSimpArgs false
open Go.RowKit

theorem own_num (a : Int) : ∃ X : Nat, ownerA ownPts a = X ∧ X ≤ 5 := by
  generalize ownPts = l
  unfold ownerA
  split
  · rename_i h
    obtain ⟨hR, _⟩ := badFind_zero h
    have hin : ∀ x ∈ l, inP x = true := by
      unfold rightP at hR
      simp only [Bool.and_eq_true] at hR
      exact right_in l none hR.2
    have hx : ∀ x ∈ l, ∃ X : Nat, x.n = X ∧ X ≤ 5 := fun x hx => by
      have h1 := hin x hx
      simp only [inP, inR, Bool.and_eq_true, decide_eq_true_eq] at h1
      exact ⟨x.n.toNat, by omega, by omega⟩
    unfold ownP
    split
    · rename_i y hy
      exact hx y (List.mem_of_find?_eq_some hy)
    · cases l with
      | nil => exact ⟨0, rfl, by omega⟩
      | cons y l => exact hx y List.mem_cons_self
  · exact ⟨0, rfl, by omega⟩
theorem bad_own : badPts [0, 1, 2] 4 = 0 := by decide
set_option maxHeartbeats 8000000 in
theorem deskOwner_c {S : Nat → Prop} {w : World} {d m r : Nat} {l : List Deed} {cs : List (List En)} (h : Dk S w d m r l cs) (nb no nc a : Nat) (vw : Value) (n0 : w.cell? ⟨nb, no, none⟩ = some (.int .i64 a)) :
    Calls Tryz.prog 128 #[.pointer (some ⟨d, 0, none⟩), .slice (some ⟨nb, no, none⟩) 1 nc, vw] w fun e w' => e = .returned (.tuple #[.string (digS (ownerA ownPts a).toNat), eV (badFind ownPts a)]) ∧ Below w.heap.size w w' := by
  obtain ⟨X, hX, h5⟩ := own_num a
  obtain ⟨E, hE⟩ : ∃ E, badFind ownPts a = E := ⟨_, rfl⟩
  have HGl : Hid (Gl w) := h.gl
  have HO : Hid (∀ (u : Value) W, PtsIs W u ownPts → Below w.heap.size w W → Calls Tryz.prog 170 #[u, .int .i64 a] W fun e w' => e = .returned (.tuple #[.int .i64 X, eV E]) ∧ Below W.heap.size W w') := fun u W hp hW => owner_any hE hX u W hp (HGl.out.below hW).tab
  have HW : Hid (∀ W ev, Below w.heap.size w W → Calls Tryz.prog 166 #[.int .i64 X, ev] W fun e w' => e = .returned (.tuple #[.string (digS X), ev]) ∧ Below W.heap.size W w') := fun W ev hW => runWritten_c X ev W (by omega) (HGl.out.below hW)
  have HP : Hid (∀ (u : Value) W, IntsCap W u [0, 1, 2] → Below w.heap.size w W → Calls Tryz.prog 20 #[u, .int .i64 4] W fun e w' => ∃ u', e = .returned (.tuple #[u', .nilIface]) ∧ PtsIs w' u' ownPts ∧ Below W.heap.size W w') := fun u W hp hW => by
    have c := points_any (A := ownPts) bad_own rfl u W hp (HGl.out.below hW).tab
    rw [eV_zeroN] at c
    exact c
  rw [hX, hE, Int.toNat_natCast]
  have b1 : Below w.heap.size w (w.alloc (.cells #[.int .i64 0, .int .i64 1, .int .i64 2] 3)) := (Below.refl _ _).alloc (Nat.le_refl _) _
  have HB1 : Hid _ := b1
  have HC1 : Hid (IntsCap (w.alloc (.cells #[.int .i64 0, .int .i64 1, .int .i64 2] 3)) (.slice (some ⟨w.heap.size, 0, none⟩) 3 3) [0, 1, 2]) := by
    refine ⟨⟨by simp [maxLen], _, _, rfl, fun _ => ⟨_, 0, rfl, by simp, fun j hj => ?_⟩⟩, _, _, rfl, Nat.le_refl _, by unfold maxLen; omega⟩
    have hj' : j < 3 := hj
    have : j = 0 ∨ j = 1 ∨ j = 2 := by omega
    rcases this with rfl | rfl | rfl <;> simp
  obtain ⟨ev, hev⟩ : ∃ ev, eV E = ev := ⟨_, rfl⟩
  rw [hev] at HO ⊢
  clear h hX hE h5 b1 hev
  go_enter Tryz.func128, Tryz.ntmps128
  go_wp2_with fail
  refine (HP.out _ _ HC1.out HB1.out).mono ?_
  rintro e w2 ⟨u, rfl, hp, hb⟩
  have HB2 : Hid (Below w.heap.size w w2) := HB1.out.trans (hb.mono HB1.out.size)
  have HP2 : Hid (PtsIs w2 u ownPts) := hp
  have n2 := old_cellT HB2.out n0
  clear hp hb HC1 HB1 HP n0
  go_wp2_with fail
  refine (HO.out _ _ HP2.out HB2.out).mono ?_
  rintro e w3 ⟨rfl, hb⟩
  have HB3 : Hid (Below w.heap.size w w3) := HB2.out.trans (hb.mono HB2.out.size)
  clear hb HP2 n2
  go_wp2_with fail
  refine (HW.out _ _ HB3.out).mono ?_
  rintro e w4 ⟨rfl, hb⟩
  have HB4 : Hid (Below w.heap.size w w4) := HB3.out.trans (hb.mono HB3.out.size)
  clear hb
  go_wp2_with fail
  go_ret2
  exact ⟨rfl, HB4.out⟩
end Go.Proofs.YtpcnfoaoajfhlaaGreatDoor

namespace Go.Proofs.YtpcnfoaoajfhlaaGreatDoor
set_option linter.unusedVariables false
set_option linter.unusedSimpArgs false
open Go.RowKit

theorem nums_cells {w : World} {v : Value} {ns : List Nat} (h : IntsIs w v (natZ ns)) (h0 : ns ≠ []) : ∃ b o cap, v = .slice (some ⟨b, o, none⟩) ns.length cap ∧ ∀ j (hj : j < ns.length), w.cell? ⟨b, o + j, none⟩ = some (.int .i64 (ns[j] : Nat)) := by
  obtain ⟨_, p, cap, rfl, hr⟩ := h
  obtain ⟨b, o, rfl, _, hc⟩ := hr (by intro e; exact h0 (List.map_eq_nil_iff.1 e))
  refine ⟨b, o, cap, by rw [natZ, List.length_map], fun j hj => ?_⟩
  have := hc j (by rw [natZ, List.length_map]; exact hj)
  rw [this]
  simp [natZ]
theorem words_cells {w : World} {v : Value} {ws : List ByteArray} (h : StrsIs w v ws) (h0 : ws ≠ []) : ∃ b o cap, v = .slice (some ⟨b, o, none⟩) ws.length cap ∧ ∀ j (hj : j < ws.length), w.cell? ⟨b, o + j, none⟩ = some (.string ws[j]) := by
  obtain ⟨p, cap, rfl, _, hr⟩ := h
  obtain ⟨b, o, rfl, _, hc⟩ := hr h0
  exact ⟨b, o, cap, rfl, fun j hj => (hc j hj).1⟩
/-- what a desk's call tells -/
def DoTo (S : Nat → Prop) (w : World) (d m r : Nat) (t : Tell) (e : Ending) (w' : World) : Prop := ∃ tx, e = .returned (.tuple #[.string tx, eV t.err]) ∧ (t.err = 0 → tx = t.txt) ∧ DkTo S w w' d m r t.l t.cs
theorem op_enters (o : Op) : ∀ args w, (callFunc (opF o) args).run Tryz.prog w = .ok (.enter (opF o) args) w := by
  rcases o with _ | _ | _ | _ | _ | _ | _
  · exact enters_of Tryz.func122 (by kernel_rfl) rfl
  · exact enters_of Tryz.func123 (by kernel_rfl) rfl
  · exact enters_of Tryz.func124 (by kernel_rfl) rfl
  · exact enters_of Tryz.func125 (by kernel_rfl) rfl
  · exact enters_of Tryz.func126 (by kernel_rfl) rfl
  · exact enters_of Tryz.func127 (by kernel_rfl) rfl
  · exact enters_of Tryz.func128 (by kernel_rfl) rfl
theorem len1 {α : Type} {l : List α} (h : l.length = 1) : ∃ a, l = [a] := List.length_eq_one_iff.1 h
theorem len2 {α : Type} {l : List α} (h : l.length = 2) : ∃ a b, l = [a, b] := by
  match l, h with
  | [a, b], _ => exact ⟨a, b, rfl⟩
theorem len3 {α : Type} {l : List α} (h : l.length = 3) : ∃ a b c, l = [a, b, c] := by
  match l, h with
  | [a, b, c], _ => exact ⟨a, b, c, rfl⟩
theorem do_c (o : Op) {S : Nat → Prop} {w : World} {d m r : Nat} {l : List Deed} {cs : List (List En)} (h : Dk S w d m r l cs) (vn vw : Value) (ns : List Nat) (ws : List ByteArray) (hn : IntsIs w vn (natZ ns)) (hln : ns.length = opN o) (hw : StrsIs w vw ws) (hlw : ws.length = opW o) (hz : ∀ x ∈ ws, x.size ≤ maxLen)
    (hSn : ∀ g, vn.ownBlock = some g → ¬ S g) (hSw : ∀ g, vw.ownBlock = some g → ¬ S g) :
    Calls Tryz.prog (opF o) #[.pointer (some ⟨d, 0, none⟩), vn, vw] w (DoTo S w d m r (doO o l cs ns ws)) := by
  rcases o with _ | _ | _ | _ | _ | _ | _
  · obtain ⟨a, b, rfl⟩ := len2 hln
    obtain ⟨t, rfl⟩ := len1 hlw
    obtain ⟨nb, no, nc, rfl, hc⟩ := nums_cells hn (by simp)
    obtain ⟨wb, wo, wc, rfl, hc2⟩ := words_cells hw (by simp)
    exact (deskPut_c h nb no nc wb wo wc a b t (hc 0 (by simp)) (hc 1 (by simp)) (hc2 0 (by simp)) (hz t (by simp)) (hSn nb rfl) (hSw wb rfl)).mono fun e w' hx => ⟨_, hx.1, fun _ => rfl, hx.2⟩
  · obtain ⟨a, b, rfl⟩ := len2 hln
    obtain ⟨nb, no, nc, rfl, hc⟩ := nums_cells hn (by simp)
    exact (deskDelete_c h nb no nc a b vw (hc 0 (by simp)) (hc 1 (by simp)) (hSn nb rfl)).mono fun e w' hx => ⟨_, hx.1, fun _ => rfl, hx.2⟩
  · obtain ⟨a, b, c, rfl⟩ := len3 hln
    obtain ⟨nb, no, nc, rfl, hc⟩ := nums_cells hn (by simp)
    show Calls _ _ _ _ (DoTo S w d m r (tellGet l (mGet l cs (a : Nat) (b : Nat) (c : Nat))))
    obtain ⟨cs', x, had, n, hx⟩ : ∃ cs' x had n, mGet l cs (a : Nat) (b : Nat) (c : Nat) = (cs', x, had, n) := ⟨_, _, _, _, rfl⟩
    rw [hx]
    by_cases h0 : n = 0
    · subst h0
      have hs := mGet_small h.good hx
      obtain ⟨x0, x1, x2, x3, x4⟩ := x
      obtain ⟨y1, rfl⟩ : ∃ y1 : Nat, x1 = y1 := ⟨x1.toNat, by have := hs.v0.1; dsimp only at this; omega⟩
      obtain ⟨y2, rfl⟩ : ∃ y2 : Nat, x2 = y2 := ⟨x2.toNat, by have := hs.a0.1; dsimp only at this; omega⟩
      exact (deskGet_ok h nb no nc a b c vw (hc 0 (by simp)) (hc 1 (by simp)) (hc 2 (by simp)) (hSn nb rfl) hx (by have := hs.v0.2; dsimp only at this; omega) (by have := hs.a0.2; dsimp only at this; omega) hs.t0).mono fun e w' hx => ⟨_, hx.1.trans (by rw [← eV_zeroN]; rfl), fun _ => rfl, hx.2⟩
    · obtain ⟨x0, x1, x2, x3, x4⟩ := x
      exact (deskGet_bad h nb no nc a b c vw (hc 0 (by simp)) (hc 1 (by simp)) (hc 2 (by simp)) (hSn nb rfl) hx h0).mono fun e w' hx => ⟨_, hx.1, fun hz => absurd hz h0, hx.2⟩
  · obtain ⟨a, b, rfl⟩ := len2 hln
    obtain ⟨nb, no, nc, rfl, hc⟩ := nums_cells hn (by simp)
    exact (deskSwap_c h nb no nc a b vw (hc 0 (by simp)) (hc 1 (by simp)) (hSn nb rfl) (Prod.ext rfl rfl)).mono fun e w' hx => ⟨_, hx.1, fun _ => rfl, hx.2⟩
  · exact (deskSeq_c h vn vw).mono fun e w' hx => ⟨_, hx.1.trans (by rw [← eV_zeroN]; rfl), fun _ => rfl, hx.2⟩
  · obtain ⟨a, rfl⟩ := len1 hln
    obtain ⟨nb, no, nc, rfl, hc⟩ := nums_cells hn (by simp)
    show Calls _ _ _ _ (DoTo S w d m r (tellCache l cs (mCacheO cs (a : Nat))))
    obtain ⟨x, n, hx⟩ : ∃ x n, mCacheO cs (a : Nat) = (x, n) := ⟨_, _, rfl⟩
    rw [hx]
    by_cases h0 : n = 0
    · subst h0
      exact (deskCache_ok h nb no nc a vw (hc 0 (by simp)) hx).mono fun e w' hx => ⟨_, hx.1.trans (by rw [← eV_zeroN]; rfl), fun _ => rfl, h.to (h.mesh.to hx.2) h.good⟩
    · exact (deskCache_bad h nb no nc a vw (hc 0 (by simp)) hx h0).mono fun e w' hx => ⟨_, hx.1, fun hz => absurd hz h0, h.to (h.mesh.to hx.2) h.good⟩
  · obtain ⟨a, rfl⟩ := len1 hln
    obtain ⟨nb, no, nc, rfl, hc⟩ := nums_cells hn (by simp)
    show Calls _ _ _ _ (DoTo S w d m r (tellOwner l cs (a : Nat)))
    have ho := deskOwner_c h nb no nc a vw (hc 0 (by simp))
    unfold DoTo tellOwner
    generalize ownPts = P at ho ⊢
    exact ho.mono fun e w' hx => ⟨_, hx.1, fun _ => rfl, h.to (h.mesh.to hx.2) h.good⟩
end Go.Proofs.YtpcnfoaoajfhlaaGreatDoor
