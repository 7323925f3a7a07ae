/-
  meretop.TopOwners answers true, whatever the nodes, the key and the text.
-/
import Derived.Test.YtpcnfoaoajfhlaaGreatDoorQobm
import Derived.Test.YtpcnfoaoajfhlaaGreatDoorQobo
import Derived.Deep.DeepCutAuto
import Derived.Deep.CutBlock
import Derived.Deep.LoopGhost
import Derived.Deep.Draws
import Derived.Deep.RegionHeld3
import Derived.BigQuiet
import Derived.BigRegion
import Derived.WalkSmall
namespace Go.Proofs.YtpcnfoaoajfhlaaGreatDoor
set_option linter.unusedVariables false
set_option linter.unusedSimpArgs false
set_option linter.unusedVariables false
set_option linter.unusedSimpArgs false
open Go.RowKit

/-- what the walk carries: the entry that was read, the owners, the caches -/
structure OwAt (w0 w : World) (X M : Nat) (k : Nat) (t : ByteArray) (vo : Value) (o : List Int) (zs : List (List En)) : Prop where
  bel : Below w0.heap.size w0 w
  box : BoxAt w X k 1 1 false t
  own : IntsIs w vo o
  rows : RowsAt w M 6 zs
  hM : w0.heap.size ≤ M
  hXM : X ≠ M
  hoM : vo.ownBlock ≠ some M
theorem OwAt.grown {w0 w w' : World} {X M k : Nat} {t : ByteArray} {vo : Value} {o : List Int} {zs : List (List En)} (h : OwAt w0 w X M k t vo o zs) (hb : Below w.heap.size w w') : OwAt w0 w' X M k t vo o zs :=
  ⟨h.bel.trans (hb.mono h.bel.size), h.box.below hb h.box.lt, h.own.below hb, h.rows.below hb, h.hM, h.hXM, h.hoM⟩
theorem OwAt.store {w0 w : World} {X M k : Nat} {t : ByteArray} {vo : Value} {o : List Int} {zs : List (List En)} (h : OwAt w0 w X M k t vo o zs) {j : Nat} (hj : j < 6) {v : Value} {l : List En} (hr : RowIs w v l) (hv : v.ownBlock ≠ some M) : OwAt w0 (w.setCell ⟨M, j, none⟩ v) X M k t vo o (zs.set j l) :=
  ⟨h.bel.setCell (by show w0.heap.size ≤ M; exact h.hM) _, h.box.of_block (Below.heap_setCell _ _ _ X (by show X ≠ M; exact h.hXM)),
   h.own.blocks (by rw [World.size_setCell]; exact Nat.le_refl _) (fun c hc _ => Below.heap_setCell _ _ _ c (fun e => h.hoM (by rw [hc, e]))), h.rows.set hj v hr hv, h.hM, h.hXM, h.hoM⟩
theorem OwAt.size {w0 w : World} {X M k : Nat} {t : ByteArray} {vo : Value} {o : List Int} {zs : List (List En)} (h : OwAt w0 w X M k t vo o zs) : w0.heap.size ≤ w.heap.size := h.bel.size
theorem addT_o {l R1 : List En} {k vv a : Int} {g : Bool} {t : ByteArray} {R2 : Bool} (h : cacheAdd l ⟨k, vv, a, g, t⟩ = (R1, R2, 0)) (v : Value) (w : World) (hr : RowIs w v l) :
    Calls Tryz.prog 28 #[v, .agg #[.int .i64 k, .int .i64 vv, .int .i64 a, .bool g, .string t]] w fun e w' => ∃ pu nu cu, e = .returned (.tuple #[.slice pu nu cu, .bool R2, .nilIface]) ∧ RowIs w' (.slice pu nu cu) R1 ∧ (∀ c, (Value.slice pu nu cu).ownBlock = some c → w.heap.size ≤ c) ∧ Below w.heap.size w w' := by
  refine (add_c v l k vv a g t w hr).mono ?_
  rw [h]
  rintro e w' ⟨v', he, ho, hb⟩
  have hr' := RowIs.own ho
  obtain ⟨pu, cu, rfl, _⟩ := hr'.slice
  exact ⟨pu, _, cu, he.trans (by rw [eV_zeroP]), hr', fun c hc => ownsRow_from ho c hc, hb⟩
theorem old_cellT {w w' : World} {a : Addr} {v : Value} (hb : Below w.heap.size w w') (h : w.cell? a = some v) : w'.cell? a = some v := (hb.cell (p := a) (World.block_lt_of_cell? w a h)).trans h
theorem add_own {x : En} (hb : x.bad = 0) {l : List En} (hl : l = []) : ∃ b, cacheAdd l x = ([x], b, 0) := by
  subst hl
  have e : putE [] x = ([x], (putE [] x).2.1, 0) := by rfl
  refine ⟨(putE [] x).2.1, ?_⟩
  rw [cacheAdd, if_neg (by decide), if_neg (by rw [hb]; simp)]
  exact e
set_option maxRecDepth 100000 in
set_option maxHeartbeats 64000000 in
theorem town_w (vn : Value) (nodes : List Int) (each key : Int) (t : ByteArray) (many : Int) (w : World) (hn : IntsCap w vn nodes) (ht : t.size ≤ maxLen) (hT : Lib.TabIs Tryz.prog w powName .u64 Lib.pow10Tab) :
    Calls Tryz.prog 4 #[vn, .int .i64 each, .int .i64 key, .string t, .int .i64 many] w fun e w' => e = .returned (.bool true) ∧ Below w.heap.size w w' := by
  have HTb : Hid (Lib.TabBelow Tryz.prog w.heap.size w powName .u64 Lib.pow10Tab) := Lib.tabBelow_of_tabIs hT
  have HVn : Hid (IntsCap w vn nodes) := hn
  have HTs : Hid (t.size ≤ maxLen) := ht
  clear hT hn ht
  obtain ⟨E1, HE1⟩ : ∃ x, Hid (badPts nodes each = x) := ⟨_, rfl⟩
  go_enter Tryz.func4, Tryz.ntmps4
  go_wp2_with fail
  refine (topOne_c w).mono ?_
  rintro e w1 ⟨rfl, hb⟩
  have B1 : Hid (Below w.heap.size w w1) := hb
  clear hb
  by_cases he : E1 = 0
  rotate_left
  · go_wp2_with fail
    refine (points_bad vn nodes each _ E1 (HVn.out.1.below B1.out) HVn.out.2 HE1.out he).mono ?_
    rintro e w2 ⟨rfl, hb⟩
    have B2 : Hid (Below w.heap.size w w2) := B1.out.trans (hb.mono B1.out.size)
    clear hb
    go_wp2_with fail
    go_ret
    exact ⟨rfl, B2.out⟩
  subst he
  obtain ⟨hbn, ec, rfl, he1, he8⟩ := badPts_good HE1.out
  obtain ⟨hg1, hg2, hg3, hg4⟩ := badNodes_good hbn
  have HGn : Hid (∀ x ∈ nodes, 0 ≤ x ∧ x ≤ 5) := hg1
  have HR : Hid (rightP (ptsL nodes ec) = true) := pts_right hg1 hg2 he1 he8 hg4 hg3
  have HB0 : Hid (badNodes nodes = 0) := hbn
  clear hg1 hg2 hg3 hg4 hbn
  go_wp2_with fail
  refine (points_ok vn nodes ec _ (HVn.out.1.below B1.out) HVn.out.2 HB0.out he1 he8 (HTb.out _ B1.out)).mono ?_
  rintro e w2 ⟨vp, rfl, hp, hb⟩
  have B2 : Hid (Below w.heap.size w w2) := B1.out.trans (hb.mono B1.out.size)
  have HP : Hid (PtsIs w2 vp (ptsL nodes ec)) := hp
  obtain ⟨l, HLl⟩ : ∃ l, Hid (ptsL nodes ec = l) := ⟨_, rfl⟩
  rw [HLl.out] at HP HR
  clear hb hp B1 HE1 HVn HB0 he1 he8
  by_cases hk : 0 ≤ key ∧ key ≤ 7
  rotate_left
  · have HF : Hid (badFind l key = 1) := by
      show badFind l key = 1
      rw [badFind, if_neg (by rw [HR.out]; simp), if_pos (by simp [inR]; omega)]
    clear hk
    go_wp2_with fail
    refine (owners_bad vp l key many _ 1 HP.out HF.out (by omega)).mono ?_
    rintro e w3 ⟨rfl, hb⟩
    have B3 : Hid (Below w.heap.size w w3) := B2.out.trans (hb.mono B2.out.size)
    clear hb
    go_wp2_with fail
    go_ret
    exact ⟨rfl, B3.out⟩
  obtain ⟨k, rfl⟩ : ∃ k : Nat, key = k := ⟨key.toNat, by omega⟩
  have hk7 : k ≤ 7 := by omega
  clear hk
  by_cases hm : 1 ≤ many ∧ many ≤ 6
  rotate_left
  · have HM : Hid (inR many 1 6 = false) := by show _ = _; simp [inR]; omega
    clear hm
    go_wp2_with fail
    refine (owners_many vp l k many _ HP.out HR.out hk7 HM.out (HTb.out _ B2.out)).mono ?_
    rintro e w3 ⟨rfl, hb⟩
    have B3 : Hid (Below w.heap.size w w3) := B2.out.trans (hb.mono B2.out.size)
    clear hb
    go_wp2_with fail
    go_ret
    exact ⟨rfl, B3.out⟩
  obtain ⟨m, rfl⟩ : ∃ m : Nat, many = m := ⟨many.toNat, by omega⟩
  have hm1 : 1 ≤ m := by omega
  have hm6 : m ≤ 6 := by omega
  clear hm
  go_wp2_with fail
  refine (owners_ok vp l k m _ HP.out HR.out hk7 hm1 hm6 (HTb.out _ B2.out)).mono ?_
  rintro e w3 ⟨hans, hb⟩
  have B3 : Hid (Below w.heap.size w w3) := B2.out.trans (hb.mono B2.out.size)
  have HS2 : Hid (w.heap.size ≤ w2.heap.size) := B2.out.size
  clear hb
  rcases hans with ⟨hle, vo, rfl, hown⟩ | ⟨_, rfl⟩
  rotate_left
  · go_wp2_with fail
    go_ret
    exact ⟨rfl, B3.out⟩
  rw [← HLl.out] at hle hown
  obtain ⟨o1, o2, o3⟩ := owners_few HGn.out hle
  obtain ⟨o, HO⟩ : ∃ o, Hid ((ownersL (keyT k) (ptsL nodes ec)).take m = o) := ⟨_, rfl⟩
  rw [HO.out] at o1 o2 o3 hown
  have HOn : Hid (o.Nodup ∧ (∀ x ∈ o, 0 ≤ x ∧ x ≤ 5) ∧ o.length = m) := ⟨o1, o2, o3⟩
  have HVo : Hid (IntsIs w3 vo o) := hown.ints
  have HOb : Hid (∀ c, vo.ownBlock = some c → c < w3.heap.size) := fun c hc => ownsRow_lt hown c hc
  clear o1 o2 o3 hown hle HO HLl HP HR HGn B2
  obtain ⟨hxl, pv, cv, hsl, _⟩ := HVo.out
  subst hsl
  rw [HOn.out.2.2] at hxl HVo HOb ⊢
  clear hxl HS2
  go_wp2_with fail
  refine (lgNew_c w3).mono ?_
  rintro e w4 ⟨j, rfl, ⟨S, hm, hS⟩, hb⟩
  have H4 : Hid (Lh w3.heap.size w3 w4 j [] [] 0 (-1) false) := ⟨⟨S, hm, hS⟩, hb, hb.size⟩
  clear hm hS hb
  obtain ⟨S, h1', h2'⟩ := H4.out.call
  have HS : Hid _ := h1'
  have HC : Hid _ := h2'
  clear h1' h2' H4
  by_cases htx : 12 < t.size
  · have HP1 : Hid (putO [] k t = ⟨[], 0, 4⟩) := put_long hk7 htx
    have htx' : decide ((12 : Int) < (t.size : Int)) = true := by simp; omega
    clear htx
    go_wp2_with fail
    refine (lgPut_c (t := t) HTs.out HS.out (by decide) (by omega) (fun _ => by omega) HP1.out (fun _ => ⟨rfl, rfl⟩) (fun e => absurd e (by omega))).mono ?_
    rw [if_neg (by omega), errN (by omega)]
    rintro e w5 ⟨rfl, hto⟩
    have H5 : Hid (Lh w3.heap.size w3 w5 j [] [] 0 (-1) false) := HC.out _ _ _ _ _ _ hto
    clear hto
    go_wp2_with fail
    go_ret
    exact ⟨rfl, B3.out.trans (H5.out.bel.mono B3.out.size)⟩
  have ht12 : t.size ≤ 12 := by omega
  clear htx
  have HP1 : Hid (putO [] k t = ⟨[⟨k, false, t⟩], 1, 0⟩) := put_first hk7 ht12
  go_wp2_with fail
  refine (lgPut_c (t := t) HTs.out HS.out (by decide) (by omega) (fun _ => by omega) HP1.out (fun e => absurd rfl e) (fun _ => ⟨rfl, by omega, by omega, ht12⟩)).mono ?_
  rw [if_pos rfl, errZ, show lfN (-1) = -1 from rfl]
  rintro e w5 ⟨rfl, hto⟩
  obtain ⟨d, HD⟩ : ∃ d, Hid ([(⟨k, false, t⟩ : Deed)] = d) := ⟨[(⟨k, false, t⟩ : Deed)], show _ = _ from rfl⟩
  rw [HD.out] at hto
  have H5 : Hid (Lh w3.heap.size w3 w5 j d [] 0 (-1) false) := HC.out _ _ _ _ _ _ hto
  clear hto HS HC HP1
  obtain ⟨n, HN⟩ : ∃ n : Nat, Hid ((flatD d ++ ([] : List Nat)).length = n) := ⟨(flatD d ++ ([] : List Nat)).length, show (flatD d ++ ([] : List Nat)).length = _ from rfl⟩
  have HN2 : Hid (n ≤ 14) := by
    show n ≤ 14
    rw [← HN.out, ← HD.out]
    simp [flatD, encD_length]
    omega
  obtain ⟨S, h1', h2'⟩ := H5.out.call
  have HS : Hid _ := h1'
  have HC : Hid _ := h2'
  clear h1' h2' H5
  go_wp2_with fail
  refine (lgSync_go (n := n) HS.out (by omega) (by omega) HN.out).mono ?_
  rw [show lfN (-1) = -1 from rfl]
  rintro e w6 ⟨rfl, hto⟩
  have H6 : Hid (Lh w3.heap.size w3 w6 j d [] n (-1) false) := HC.out _ _ _ _ _ _ hto
  clear hto HS HC
  obtain ⟨S, h1', h2'⟩ := H6.out.call
  have HS : Hid _ := h1'
  have HC : Hid _ := h2'
  clear h1' h2' H6
  have HFit : Hid (Fits d) := by show Fits d; rw [← HD.out]; exact fits_first hk7 ht12
  have HOk : Hid ((∀ x ∈ d, x.text.size ≤ 12) ∧ ∀ x ∈ d, 0 ≤ x.key ∧ x.key < 8) := by
    show _ ∧ _
    rw [← HD.out]
    refine ⟨fun x hx => ?_, fun x hx => ?_⟩
    · obtain rfl := List.mem_singleton.1 hx; exact ht12
    · obtain rfl := List.mem_singleton.1 hx; exact ⟨by show (0 : Int) ≤ (k : Int); omega, by show (k : Int) < 8; omega⟩
  have HTk : Hid (d.take 1 = d) := by show _ = _; rw [← HD.out]; rfl
  have HCut : Hid ((flatD d ++ ([] : List Nat)).take (keepN 0 n n) = flatD d ++ []) := by
    show _ = _
    rw [show keepN 0 n n = n by simp [keepN], ← HN.out, List.take_length]
  go_wp2_with fail
  refine (lgCrash_c (m := 1) (p' := []) 0 HS.out HN.out (by have := HN2.out; omega) (Nat.le_refl _) (by rw [HTk.out]; exact HFit.out) (by rw [HTk.out]; exact HOk.out.1) (by rw [HTk.out]; exact HOk.out.2) (by rw [HTk.out]; exact HCut.out) (by intro a b r e; cases e) (by intro x hx; cases hx)).mono ?_
  rw [HTk.out]
  rintro e w7 ⟨rfl, hto⟩
  have H7 : Hid (Lh w3.heap.size w3 w7 j d [] (flatD d).length (-1) false) := HC.out _ _ _ _ _ _ hto
  clear hto HS HC HFit HOk HTk HCut HN HN2
  obtain ⟨S, h1', h2'⟩ := H7.out.call
  have HS : Hid _ := h1'
  clear h1' h2'
  have HR5 : Hid ((atO d (k : Int) d.length).1 = ⟨k, 1, 1, false, t⟩ ∧ (atO d (k : Int) d.length).2 = 0) := by rw [← HD.out]; exact read_first hk7 t
  go_wp2_with fail
  refine (lgRead_c HS.out HR5.out.1 HR5.out.2).mono ?_
  rw [errZ]
  rintro e w8 ⟨rfl, hb⟩
  have hb3 : Below w3.heap.size w3 w8 := H7.out.bel.trans (hb.mono H7.out.hN)
  have B8 : Hid (Below w.heap.size w w8) := B3.out.trans (hb3.mono B3.out.size)
  have V8 : Hid (IntsIs w8 (.slice pv m cv) o) := HVo.out.below hb3
  have O8 : Hid (∀ c, (Value.slice pv m cv).ownBlock = some c → c < w8.heap.size) := fun c hc => Nat.lt_of_lt_of_le (HOb.out c hc) hb3.size
  clear hb3 hb HS H7 HR5 HVo HOb B3
  go_upto_region 18 with fail
  have B9 : Hid (Below w.heap.size w (w8.alloc (.cells #[.int .i64 k, .int .i64 1, .int .i64 1, .bool false, .string t] 46))) := B8.out.alloc B8.out.size _
  have X9 : Hid (BoxAt (w8.alloc (.cells #[.int .i64 k, .int .i64 1, .int .i64 1, .bool false, .string t] 46)) w8.heap.size k 1 1 false t) := box_new w8 _ _ _ _ _ _ rfl
  have V9 : Hid (IntsIs (w8.alloc (.cells #[.int .i64 k, .int .i64 1, .int .i64 1, .bool false, .string t] 46)) (.slice pv m cv) o) := V8.out.below ((Below.refl _ _).alloc (Nat.le_refl _) _)
  have S9 : Hid ((w8.alloc (.cells #[.int .i64 k, .int .i64 1, .int .i64 1, .bool false, .string t] 46)).heap.size = w8.heap.size + 1) := by show _ = _; simp
  obtain ⟨w9, HW9⟩ : ∃ w9, w9 = w8.alloc (.cells #[.int .i64 k, .int .i64 1, .int .i64 1, .bool false, .string t] 46) := ⟨_, rfl⟩
  obtain ⟨X, HXX⟩ : ∃ X, X = w8.heap.size := ⟨_, rfl⟩
  rw [← HW9, ← HXX] at X9 ⊢
  rw [← HW9] at B9 V9
  rw [← HW9, ← HXX] at S9
  rw [← HXX] at O8
  clear HW9 HXX V8 B8
  have HBd : Hid (bad k 1 1 false t = 0) := by
    show bad k 1 1 false t = 0
    refine bad_none (by simp [inR]; omega) (by omega) rfl
  obtain ⟨c0, c1, c2, c3, c4, cf⟩ := X9.out
  go_wp2_with fail
  refine (check_ok HBd.out _).mono ?_
  rintro e w10 ⟨rfl, hb⟩
  have X10 : Hid (BoxAt w10 X k 1 1 false t) := X9.out.below hb X9.out.lt
  have B10 : Hid (Below w.heap.size w w10) := B9.out.trans (hb.mono B9.out.size)
  have V10 : Hid (IntsIs w10 (.slice pv m cv) o) := V9.out.below hb
  have S10 : Hid (X < w10.heap.size ∧ ∀ c, (Value.slice pv m cv).ownBlock = some c → c < w10.heap.size) :=
    ⟨X10.out.lt, fun c hc => by have h1 := O8.out c hc; have h2 := hb.size; have h3 := S9.out; omega⟩
  obtain ⟨x, HX⟩ : ∃ x : En, Hid ((⟨k, 1, 1, false, t⟩ : En) = x) := ⟨⟨k, 1, 1, false, t⟩, show _ = _ from rfl⟩
  have HBx : Hid (x.bad = 0 ∧ x.k = (k : Int) ∧ x.a = 1 ∧ isKeyB x.k = true) := by
    show _ ∧ _
    rw [← HX.out]
    exact ⟨HBd.out, rfl, rfl, by show isKeyB (k : Int) = true; simp [isKeyB]; omega⟩
  clear c0 c1 c2 c3 c4 cf hb X9 B9 V9 S9 O8 HBd
  have hmk : ∀ W : World, (Instr.makeSlice 35 (.int .i64 6) (.int .i64 6)).run Tryz.prog W = .ok (.slice (some ⟨W.heap.size, 0, none⟩) 6 6) (W.alloc (.cells (madeCells #[.slice none 0 0] 6) 32)) := fun W => run_make_row' (P := Tryz.prog) 35 32 (.slice none 0 0) 24 Tryz.underlying35 infoRowM rfl .i64 .i64 6 (by omega) (by omega) W
  go_upto_region 20 with fail
  go_upto_block 0 with fail
  have HW0 : Hid (OwAt w (w10.alloc (.cells (madeCells #[.slice none 0 0] 6) 32)) X w10.heap.size k t (.slice pv m cv) o (hasL x [] 6)) := by
    have hbb : Below w10.heap.size w10 (w10.alloc (.cells (madeCells #[.slice none 0 0] 6) 32)) := (Below.refl _ _).alloc (Nat.le_refl _) _
    refine ⟨B10.out.trans (hbb.mono B10.out.size), X10.out.below hbb S10.out.1, V10.out.below hbb, ?_, B10.out.size, by have := S10.out.1; omega, fun hc => by have := S10.out.2 _ hc; omega⟩
    rw [hasL_nil]
    exact rowsAt_new _ _ _ _ rfl
  obtain ⟨w11, HW11⟩ : ∃ w11, w11 = w10.alloc (.cells (madeCells #[.slice none 0 0] 6) 32) := ⟨_, rfl⟩
  obtain ⟨M, HMM⟩ : ∃ M, M = w10.heap.size := ⟨_, rfl⟩
  rw [← HW11, ← HMM] at HW0 ⊢
  clear HW11 HMM X10 B10 V10 S10 hmk
  go_cut [19, 20, 21, 22] (fun _ _ _ _ wd => Hid (OwAt w wd X M k t (.slice pv m cv) o (hasL x o 6)))
  case first =>
    go_wp2_with fail
    go_loopw [19] (fun c19 wr => ∃ i : Nat, i ≤ m ∧ c19 = .int .i64 i ∧ Hid (OwAt w wr X M k t (.slice pv m cv) o (hasL x (o.take i) 6))) (fun c19 _ => m - (intOf c19).toNat)
    case atStart => exact ⟨0, Nat.zero_le _, rfl, HW0⟩
    case round =>
      obtain ⟨i, hi, rfl, HR⟩ := hrel
      clear HW0
      by_cases hlt : i < m
      · have hlti : (i : Int) < (m : Int) := by omega
        have hil : i < o.length := by rw [HOn.out.2.2]; exact hlt
        obtain ⟨_, p', c', hep, hrow⟩ := HR.out.own
        obtain ⟨rfl, hml, rfl⟩ : pv = p' ∧ m = o.length ∧ cv = c' := by simpa using hep
        clear hml hep
        obtain ⟨bo, oo, rfl, hbo, hat⟩ := hrow (fun h => by simp [h] at hil)
        have hci := hat i hil
        have hz5 := HOn.out.2.1 _ (List.getElem_mem hil)
        obtain ⟨z, HZ⟩ : ∃ z : Nat, Hid (o[i] = (z : Int)) := ⟨(o[i]).toNat, by show o[i] = _; omega⟩
        rw [HZ.out] at hci hz5
        have hz6 : z < 6 := by omega
        have hz6i : (z : Int) < 6 := by omega
        have hzd : decide ((5 : Int) < (z : Int)) = false := by simp; omega
        have HTk : Hid (o.take (i + 1) = o.take i ++ [(z : Int)]) := by show _ = _; rw [List.take_succ_eq_append_getElem hil, HZ.out]
        have hnin : (o.take i).contains (z : Int) = false := by
          have hnd : (o.take (i + 1)).Nodup := List.Nodup.sublist (List.take_sublist _ _) HOn.out.1
          rw [HTk.out, List.nodup_append] at hnd
          have h3 := hnd.2.2
          simp only [List.contains_eq_mem, decide_eq_false_iff_not]
          intro hmem
          exact h3 _ hmem _ (List.mem_singleton_self _) rfl
        have hzl : z < (hasL x (o.take i) 6).length := by rw [hasL_len]; exact hz6
        obtain ⟨u, hu, hru, hun⟩ := HR.out.rows.cell z hzl
        have hget : (hasL x (o.take i) 6)[z] = [] := by rw [hasL_get, hnin]; rfl
        rw [hget] at hru
        obtain ⟨bb, hadd⟩ := add_own HBx.out.1 (l := []) rfl
        rw [← HX.out] at hadd
        have HAdd : Hid (cacheAdd [] ⟨k, 1, 1, false, t⟩ = ([⟨k, 1, 1, false, t⟩], bb, 0)) := hadd
        have HU : Hid (RowIs wr u []) := hru
        have HCells : Hid (wr.cell? ⟨bo, oo + i, none⟩ = some (.int .i64 (z : Int)) ∧ wr.cell? ⟨M, z, none⟩ = some u) := ⟨hci, hu⟩
        clear hadd hru hget hnin hrow hat hun HZ hil
        obtain ⟨c0, c1, c2, c3, c4, cf⟩ := HR.out.box
        have lX := HR.out.box.lt
        have lM := HR.out.rows.lt
        go_upto_region 26 with fail
        go_cut [20, 21, 22] (fun c20 _ c22 wd => ∃ pu nu cu, c20 = .slice pu nu cu ∧ c22 = .nilIface ∧ Hid (RowIs wd (.slice pu nu cu) [⟨k, 1, 1, false, t⟩]) ∧ Hid ((Value.slice pu nu cu).ownBlock ≠ some M) ∧ Hid (Below wr.heap.size wr wd))
        case first =>
          have KP : Hid (∀ w', Below wr.heap.size wr w' → w'.cell? ⟨bo, oo + i, none⟩ = some (.int .i64 (z : Int)) ∧ w'.cell? ⟨M, z, none⟩ = some u ∧ w'.cell? ⟨X, 0, none⟩ = some (.int .i64 (k : Int)) ∧ w'.cell? ⟨X, 1, none⟩ = some (.int .i64 1) ∧ w'.cell? ⟨X, 2, none⟩ = some (.int .i64 1) ∧ w'.cell? ⟨X, 3, none⟩ = some (.bool false) ∧ w'.cell? ⟨X, 4, none⟩ = some (.string t)) := fun w' hb => by
            have hx := HR.out.box.below hb HR.out.box.lt
            exact ⟨old_cellT hb HCells.out.1, old_cellT hb HCells.out.2, hx.c0, hx.c1, hx.c2, hx.c3, hx.c4⟩
          go_region_held3 (fun w' => w'.cell? ⟨bo, oo + i, none⟩ = some (.int .i64 (z : Int)) ∧ w'.cell? ⟨M, z, none⟩ = some u ∧ w'.cell? ⟨X, 0, none⟩ = some (.int .i64 (k : Int)) ∧ w'.cell? ⟨X, 1, none⟩ = some (.int .i64 1) ∧ w'.cell? ⟨X, 2, none⟩ = some (.int .i64 1) ∧ w'.cell? ⟨X, 3, none⟩ = some (.bool false) ∧ w'.cell? ⟨X, 4, none⟩ = some (.string t)) (first | go_keep | (exact KP.out _ HB7.out)) (first | (go_at_call 28; refine Calls.mono (addT_o HAdd.out u _ (RowIs.below HU.out (by go_grown))) ?_; rintro e w7 ⟨pu, nu, cu, rfl, hr, hown, hb⟩; have HB7 : Hid (Below wr.heap.size wr w7) := Below.trans (by go_grown) (hb.mono (by simp)); have HR7 : Hid (RowIs w7 (.slice pu nu cu) [⟨k, 1, 1, false, t⟩] ∧ (Value.slice pu nu cu).ownBlock ≠ some M) := ⟨hr, fun hc => by have := hown M hc; simp at this; omega⟩; clear hb hr hown))
          all_goals go_wp2_with fail
          all_goals go_meet
          all_goals exact ⟨_, _, _, rfl, rfl, HR7.out.1, HR7.out.2, HB7.out⟩
        case rest =>
        obtain ⟨pu, nu, cu, h20, h22, HR7, HN7, HB7⟩ := hcut
        obtain ⟨w7, hren⟩ : ∃ y, y = wc := ⟨_, rfl⟩
        subst hren
        subst h20 h22
        have HW7 : Hid (OwAt w w7 X M k t (.slice (some ⟨bo, oo, none⟩) m cv) o (hasL x (o.take i) 6)) := HR.out.grown HB7.out
        have HW8 : Hid (OwAt w (w7.setCell ⟨M, z, none⟩ (.slice pu nu cu)) X M k t (.slice (some ⟨bo, oo, none⟩) m cv) o (hasL x (o.take (i + 1)) 6)) := by
          have hrx := HR7.out
          rw [HX.out] at hrx
          have h := HW7.out.store hz6 hrx HN7.out
          rw [hasL_set, ← HTk.out] at h
          exact h
        have d0 := old_cellT HB7.out HCells.out.1
        have lb := World.block_lt_of_cell? w7 _ d0
        obtain ⟨u0, cj, _⟩ := HW7.out.rows.cell z hzl
        have cfj := HW7.out.rows.fz z
        have lM7 := HW7.out.rows.lt
        clear HR7 HN7 HB7 HCells c0 c1 c2 c3 c4 cf lX lM hu hci HU HAdd HR HTk hbo HW7
        go_wp2_with fail
        go_roundw
        case rel => exact ⟨i + 1, by omega, by go_num, HW8⟩
        case measure => simp [intOf]; omega
      · obtain rfl : i = m := by omega
        have HRm : Hid (OwAt w wr X M k t (.slice pv i cv) o (hasL x o 6)) := by
          have h := HR.out
          rw [List.take_of_length_le (by rw [HOn.out.2.2]; exact Nat.le_refl _)] at h
          exact h
        clear HR
        go_wp2_with fail
        go_meet
        exact HRm
  case rest =>
  obtain ⟨w12, hren⟩ : ∃ y, y = wc := ⟨_, rfl⟩
  subst hren
  have HW2 : Hid (OwAt w w12 X M k t (.slice pv m cv) o (hasL x o 6)) := hcut
  clear hcut HW0
  have HRd : Hid (readR [[], [⟨k, 1, 1, false, t⟩]] (k : Int) = (⟨k, 1, 1, false, t⟩, 0)) := by
    show readR [[], [⟨k, 1, 1, false, t⟩]] (k : Int) = _
    rw [HX.out, ← HBx.out.2.1]
    exact read_has HBx.out.1 HBx.out.2.2.2 (fun l hl => by simp at hl; exact hl) (by simp) (by simp)
  go_upto_block 2 with fail
  go_cut [23, 24, 25] (fun _ _ _ wd => Hid (OwAt w wd X M k t (.slice pv m cv) o (hasL x o 6)))
  case first =>
    go_wp2_with fail
    go_loopw [23] (fun c23 wr => ∃ i : Nat, i ≤ m ∧ c23 = .int .i64 i ∧ Hid (OwAt w wr X M k t (.slice pv m cv) o (hasL x o 6))) (fun c23 _ => m - (intOf c23).toNat)
    case atStart => exact ⟨0, Nat.zero_le _, rfl, HW2⟩
    case round =>
      obtain ⟨i, hi, rfl, HR⟩ := hrel
      clear HW2
      by_cases hlt : i < m
      · have hlti : (i : Int) < (m : Int) := by omega
        have hil : i < o.length := by rw [HOn.out.2.2]; exact hlt
        obtain ⟨_, p', c', hep, hrow⟩ := HR.out.own
        obtain ⟨rfl, hml, rfl⟩ : pv = p' ∧ m = o.length ∧ cv = c' := by simpa using hep
        clear hml hep
        obtain ⟨bo, oo, rfl, hbo, hat⟩ := hrow (fun h => by simp [h] at hil)
        have hci := hat i hil
        have hz5 := HOn.out.2.1 _ (List.getElem_mem hil)
        obtain ⟨z, HZ⟩ : ∃ z : Nat, Hid (o[i] = (z : Int)) := ⟨(o[i]).toNat, by show o[i] = _; omega⟩
        have hzin : o.contains (z : Int) = true := by rw [← HZ.out]; simp
        rw [HZ.out] at hci hz5
        have hz6 : z < 6 := by omega
        have hz6i : (z : Int) < 6 := by omega
        have hzl : z < (hasL x o 6).length := by rw [hasL_len]; exact hz6
        obtain ⟨u, hu, hru, _⟩ := HR.out.rows.cell z hzl
        have hget : (hasL x o 6)[z] = [x] := by rw [hasL_get, hzin]; rfl
        rw [hget] at hru
        obtain ⟨pu, cu, rfl, _⟩ := hru.slice
        rw [← HX.out] at hru
        have HU : Hid (RowIs wr (.slice pu 1 cu) [⟨k, 1, 1, false, t⟩]) := hru
        have hu' : wr.cell? ⟨M, z, none⟩ = some (.slice pu 1 cu) := hu
        have lM := HR.out.rows.lt
        clear hru hget hzin hrow hat HZ hil hu
        go_wp2_with fail
        refine (rread_c (rows_two wr _ _ _ HU.out rfl) HRd.out).mono ?_
        rintro e w7 ⟨rfl, hb⟩
        rw [eV_zeroP]
        have hb7 : Below wr.heap.size wr w7 := ((Below.refl wr.heap.size wr).alloc (Nat.le_refl _) (.cells #[.slice none 0 0, .slice pu 1 cu] 32)).trans (hb.mono (by simp))
        have HW7 : Hid (OwAt w w7 X M k t (.slice (some ⟨bo, oo, none⟩) m cv) o (hasL x o 6)) := HR.out.grown hb7
        clear hb hb7 HR hci hu' HU lM hbo
        go_upto_region 34 with fail
        have HW8 : Hid (OwAt w (w7.alloc (.cells #[.int .i64 k, .int .i64 1, .int .i64 1, .bool false, .string t] 46)) X M k t (.slice (some ⟨bo, oo, none⟩) m cv) o (hasL x o 6)) := HW7.out.grown ((Below.refl _ _).alloc (Nat.le_refl _) _)
        have HY8 : Hid (BoxAt (w7.alloc (.cells #[.int .i64 k, .int .i64 1, .int .i64 1, .bool false, .string t] 46)) w7.heap.size k 1 1 false t) := box_new w7 _ _ _ _ _ _ rfl
        obtain ⟨w8, HW8e⟩ : ∃ w8, w8 = w7.alloc (.cells #[.int .i64 k, .int .i64 1, .int .i64 1, .bool false, .string t] 46) := ⟨_, rfl⟩
        obtain ⟨Y, HYe⟩ : ∃ Y, Y = w7.heap.size := ⟨_, rfl⟩
        rw [← HW8e, ← HYe] at HY8 ⊢
        rw [← HW8e] at HW8
        clear HW8e HYe HW7
        obtain ⟨c0, c1, c2, c3, c4, cf⟩ := HW8.out.box
        obtain ⟨d0, d1, d2, d3, d4, df⟩ := HY8.out
        have lX := HW8.out.box.lt
        have lY := HY8.out.lt
        have hq := neq_cellsS k 1 1 false t k 1 1 false t true (by simp [En.same])
        have hgd := eqGuard_en
        go_wp2_with fail
        clear c0 c1 c2 c3 c4 cf d0 d1 d2 d3 d4 df lX lY hq hgd
        go_roundw
        case rel => exact ⟨i + 1, by omega, by go_num, HW8⟩
        case measure => simp [intOf]; omega
      · obtain rfl : i = m := by omega
        go_wp2_with fail
        go_meet
        exact HR
  case rest =>
  obtain ⟨w13, hren⟩ : ∃ y, y = wc := ⟨_, rfl⟩
  subst hren
  have HW3 : Hid (OwAt w w13 X M k t (.slice pv m cv) o (hasL x o 6)) := hcut
  clear hcut HW2 HRd
  have h0 : o ≠ [] := fun e => by have := HOn.out.2.2; rw [e] at this; simp at this; omega
  have hrl := rest_len o HOn.out.1 HOn.out.2.1
  have hrn : ∀ z ∈ (restI o).map (fun i => ((i : Nat) : Int)), o.contains z = false := fun z hz => rest_not hz
  have hlk := lacks_has HBx.out.1 HBx.out.2.2.2 (has_mem (x := x) h0 HOn.out.2.1)
  have hmk := mark_has HBx.out.1 HBx.out.2.2.2 HOn.out.1 HOn.out.2.1 (by rw [HBx.out.2.2.1]; omega)
  rw [HBx.out.2.1] at hlk hmk
  rw [HBx.out.2.2.1, HOn.out.2.2] at hmk
  obtain ⟨L, HL⟩ : ∃ L, Hid ((restI o).map (fun i => ((i : Nat) : Int)) = L) := ⟨_, rfl⟩
  rw [HL.out] at hlk hrn
  obtain ⟨nl, HNl⟩ : ∃ nl, Hid (L.length = nl) := ⟨_, rfl⟩
  obtain ⟨r, hr6⟩ : ∃ r : Nat, m + r = 6 := ⟨6 - m, by omega⟩
  have hnl : nl = r := by rw [← HNl.out, ← HL.out, List.length_map]; rw [HOn.out.2.2] at hrl; omega
  have HLk : Hid (lacksR (hasL x o 6) (k : Int) = (L, 0)) := hlk
  have HMk : Hid (tombMark (hasL x o 6) (k : Int) = (if m = 6 then 1 else 0, 0)) := hmk
  have HRn : Hid (∀ z ∈ L, o.contains z = false) := hrn
  clear h0 hrl hrn hlk hmk HL
  have hmr : (6 : Int) - (m : Int) = (r : Int) := by omega
  have hwr : IntKind.i64.wrap (r : Int) = (r : Int) := by rw [IntKind.wrap_i64]; omega
  have hnr : ((nl : Int) != (r : Int)) = false := by simp; omega
  have hr5 : r ≤ 5 := by omega
  clear hnl
  go_upto_region 36 with fail
  go_wp2_with fail
  refine (rlacks_c (HW3.out.rows.rows (by unfold maxLen; omega)) HLk.out).mono ?_
  rintro e w14 ⟨u, rfl, hu, hb⟩
  rw [eV_zeroP]
  obtain ⟨pl, cl, rfl, hl63⟩ := hu.slice
  rw [HNl.out] at hu hl63 ⊢
  have HLv : Hid (IntsIs w14 (.slice pl nl cl) L) := hu
  have HW4 : Hid (OwAt w w14 X M k t (.slice pv m cv) o (hasL x o 6)) := HW3.out.grown hb
  have hl64 : nl ≤ 9223372036854775807 := hl63
  clear hu hb HW3 HLk hl63
  have HMe : Hid (meetE 6 (m : Int) ((r : Int) + 1) = 0) := by show meetE _ _ _ = 0; rw [meetE, if_pos (by omega)]
  have HMb : Hid (meetB 6 (m : Int) ((r : Int) + 1) = true) := by show meetB _ _ _ = true; rw [meetB, HMe.out]; simp; omega
  go_wp2_with fail
  refine (rmeet_c HMe.out HMb.out).mono ?_
  rintro e w15 ⟨rfl, hb⟩
  rw [eV_zeroP]
  have HLv5 : Hid (IntsIs w15 (.slice pl nl cl) L) := HLv.out.below hb
  have HW5 : Hid (OwAt w w15 X M k t (.slice pv m cv) o (hasL x o 6)) := HW4.out.grown hb
  clear hb HW4 HLv HMe HMb
  obtain ⟨mk, HMv⟩ : ∃ mk : Int, Hid ((if m = 6 then (1 : Int) else 0) = mk) := ⟨_, rfl⟩
  rw [HMv.out] at HMk
  go_wp2_with fail
  refine (tmark_ok HMk.out _ _ (HW5.out.rows.rows (by unfold maxLen; omega))).mono ?_
  rintro e w16 ⟨rfl, hb⟩
  have HLv6 : Hid (IntsIs w16 (.slice pl nl cl) L) := HLv5.out.below hb
  have HW6 : Hid (OwAt w w16 X M k t (.slice pv m cv) o (hasL x o 6)) := HW5.out.grown hb
  clear hb HW5 HLv5 HMk
  go_upto_region 39 with fail
  go_cut [220] (fun c wd => c = .bool false ∧ wd = w16)
  case first =>
    obtain ⟨c0, c1, c2, c3, c4, cf⟩ := HW6.out.box
    by_cases h6 : m = 6
    · have hm1 : ((m : Int) == 6) = true := by simp; omega
      have hm2 : decide ((m : Int) < 6) = false := by simp; omega
      have hmk1 : mk = 1 := by rw [← HMv.out, if_pos h6]
      subst hmk1
      clear h6 hr6
      go_wp2_with fail
      go_meet
      exact ⟨rfl, rfl⟩
    · have hm1 : ((m : Int) == 6) = false := by simp; omega
      have hm2 : decide ((m : Int) < 6) = true := by simp; omega
      have hmk1 : mk = 0 := by rw [← HMv.out, if_neg h6]
      subst hmk1
      clear h6 hr6
      go_wp2_with fail
      go_meet
      exact ⟨rfl, rfl⟩
  case rest =>
  obtain ⟨h220, hwc⟩ := hcut
  subst hwc
  subst h220
  clear hmr hwr hnr HMv
  go_wp2_with fail
  go_loopw [31] (fun c31 wr => ∃ i : Nat, i ≤ nl ∧ c31 = .int .i64 i ∧ Hid (Below wc.heap.size wc wr)) (fun c31 _ => nl - (intOf c31).toNat)
  case atStart => exact ⟨0, Nat.zero_le _, rfl, Below.refl _ _⟩
  case round =>
    obtain ⟨i, hi, rfl, HB⟩ := hrel
    by_cases hlt : i < nl
    · have hlti : (i : Int) < (nl : Int) := by omega
      have hil : i < L.length := by rw [HNl.out]; exact hlt
      obtain ⟨_, p', c', hep, hrow⟩ := (HLv6.out.below HB.out)
      obtain ⟨rfl, hml, rfl⟩ : pl = p' ∧ nl = L.length ∧ cl = c' := by simpa using hep
      clear hml hep
      obtain ⟨bo, oo, rfl, hbo, hat⟩ := hrow (fun h => by simp [h] at hil)
      have hci := hat i hil
      obtain ⟨z, HZ⟩ : ∃ z, Hid (L[i] = z) := ⟨L[i], show L[i] = L[i] from rfl⟩
      have hin := HRn.out _ (List.getElem_mem hil)
      rw [HZ.out] at hci hin
      have HIn : Hid (o.contains z = false) := hin
      have HVr : Hid (IntsIs wr (.slice pv m cv) o) := HW6.out.own.below HB.out
      clear hrow hat HZ hil hin
      go_wp2_with fail
      refine (in_c _ o z _ HVr.out).mono ?_
      rw [HIn.out]
      rintro e w17 ⟨rfl, hb⟩
      have HB7 : Hid (Below wc.heap.size wc w17) := HB.out.trans (hb.mono HB.out.size)
      clear hb HVr HB hci hbo
      go_wp2_with fail
      go_roundw
      case rel => exact ⟨i + 1, by omega, by go_num, HB7⟩
      case measure => simp [intOf]; omega
    · obtain rfl : i = nl := by omega
      go_wp2_with fail
      go_ret
      exact ⟨rfl, HW6.out.bel.trans (HB.out.mono HW6.out.bel.size)⟩
end Go.Proofs.YtpcnfoaoajfhlaaGreatDoor
