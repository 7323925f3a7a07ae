/-
  The iterator over the whole records.
-/
import Derived.Test.YtpcnfoaoajfhlaaDoorLgI
import Derived.Sort.QuietIn
namespace Go.Proofs.YtpcnfoaoajfhlaaDoor
set_option linter.unusedVariables false
set_option linter.unusedSimpArgs false
open Go.RowKit Go.Shelf
attribute [local go_sem] Oper.semAt_some

theorem items_get (o : Nat) (l : List Deed) (h : ∀ d ∈ l, d.text.size ≤ 12) (k : Nat) (hk : k < l.length) : ∃ hq : l[k].text.size ≤ 12, (itemsD o l h)[k]? = some (⟨(o + lenD l (k + 1), l[k]), hq⟩ : It) := by
  induction l generalizing o k with
  | nil => simp at hk
  | cons d l ih =>
    cases k with
    | zero => exact ⟨h d List.mem_cons_self, by simp [itemsD, lenD, flatD]⟩
    | succ k =>
      have hk' : k < l.length := by simpa using hk
      obtain ⟨hq, e⟩ := ih (o + (encD d).length) (fun x hx => h x (List.mem_cons_of_mem _ hx)) k hk'
      refine ⟨hq, ?_⟩
      simp only [itemsD, List.getElem?_cons_succ, e, List.getElem_cons_succ]
      have : lenD (d :: l) (k + 1 + 1) = (encD d).length + lenD l (k + 1) := by simp [lenD, flatD]
      rw [this]
      congr 3
      omega
theorem items_take (o : Nat) (l : List Deed) (h : ∀ d ∈ l, d.text.size ≤ 12) (k : Nat) (hk : k < l.length) (hq : l[k].text.size ≤ 12) : (itemsD o l h).take (k + 1) = (itemsD o l h).take k ++ [⟨(o + lenD l (k + 1), l[k]), hq⟩] := by
  obtain ⟨_, e⟩ := items_get o l h k hk
  have hl : k < (itemsD o l h).length := by rw [itemsD_length]; exact hk
  rw [List.take_succ_eq_append_getElem hl]
  congr 2
  rw [List.getElem?_eq_getElem hl] at e
  exact Option.some.inj e
/-- the bytes of a record, where it stands -/
theorem flat_at {ds : List Deed} {p : List Nat} {k : Nat} (hk : k < ds.length) : (flatD ds ++ p).drop (lenD ds k) = encD ds[k] ++ (flatD (ds.drop (k + 1)) ++ p) := by
  have h1 : flatD ds = flatD (ds.take k) ++ flatD (ds.drop k) := by rw [← flatD_append, List.take_append_drop]
  have h2 : flatD (ds.drop k) = encD ds[k] ++ flatD (ds.drop (k + 1)) := by rw [List.drop_eq_getElem_cons hk]; rfl
  rw [h1, List.append_assoc, lenD, List.drop_left, h2, List.append_assoc]
theorem drop_get {l r : List Nat} {n i a : Nat} (h : l.drop n = r) (hr : r[i]? = some a) : l[n + i]? = some a := by
  rw [← h, List.getElem?_drop] at hr
  exact hr
theorem str_txt (t : ByteArray) : strOfNums ((txtN t).map (fun n : Nat => (n : Int))) = t := by
  unfold strOfNums txtN
  apply ByteArray.ext
  rw [List.map_map, List.map_map]
  have e : (((fun n : Int => UInt8.ofNat n.toNat) ∘ (fun n : Nat => (n : Int))) ∘ fun b : UInt8 => b.toNat) = id := by
    funext b
    simp
  rw [e]
  simp
theorem conv_txt (W : World) (g o c : Nat) (t : ByteArray) (h : ∀ (i z : Nat), (txtN t)[i]? = some z → W.cell? ⟨g, o + i, none⟩ = some (.int .u8 (z : Int))) :
    (convert 92 9 (.slice (some ⟨g, o, none⟩) t.size c)).run Tryd.prog W = .ok (.string t) W := by
  have r := run_convert_bytes_arg (P := Tryd.prog) W 92 5 Tryd.underlying92 Tryd.underlying5 g o t.size c ((txtN t).map (fun n : Nat => (n : Int))) (by rw [List.length_map, txtN_length]) (fun i hi => by
    have hl : i < (txtN t).length := by rw [txtN_length]; exact hi
    rw [h i _ (List.getElem?_eq_getElem hl)]
    simp [List.getD, hl]) 9 Tryd.underlying9
  rw [str_txt] at r
  exact r
set_option maxRecDepth 100000 in
set_option maxHeartbeats 4000000 in
theorem recs_in (n : Nat) (hn : 1 ≤ n) (l Bn : Nat) (v : Value) (ds : List Deed) (p : List Nat) (hd : ∀ d ∈ ds, d.text.size ≤ 12) (hk8 : ∀ d ∈ ds, 0 ≤ d.key ∧ d.key < 8) (hp : NoRec p) (hp8 : ∀ x ∈ p, x < 256)
    (J Jx : List It → World → Prop)
    (hY : ∀ pre x W, J pre W → pre.length < ds.length → YieldAt Fence.wide (n - 1) Tryd.prog l (encsIt x) W fun e W' =>
      (e = .returned (.bool true) ∧ J (pre ++ [x]) W' ∧ KpB Bn v W W') ∨ (e = .returned (.bool false) ∧ Jx (pre ++ [x]) W'))
    (hJa : ∀ s W o, J s W → J s (W.alloc o)) (hJd : ∀ s W k, J s W → J s (W.drewN k))
    (W : World) (hBn : W.cell? ⟨Bn, 0, none⟩ = some v) (hb : BytesAt W v (flatD ds ++ p)) (h0 : J [] W) :
    CallsIn Fence.wide n Tryd.prog 89 #[.func (.yield l) #[] #[], .pointer (some ⟨Bn, 0, none⟩)] W fun e W' => (∃ u, e = .returned u) ∧
      ((∃ ys, ys = itemsD 0 ds hd ∧ J ys W') ∨ (∃ pre, pre <+: itemsD 0 ds hd ∧ Jx pre W')) := by
  refine callsIn_of_wp Tryd.func89 rfl trivial ?_ rfl
  simp only [Tryd.ntmps89, List.size_toArray, List.length_cons, List.length_nil, Nat.reduceAdd, Nat.reduceSub, Array.replicate_succ, Array.replicate_zero, List.push_toArray, List.append_toArray, List.nil_append, List.cons_append]
  gi_wp2
  gi_loopw [3] (fun c3 wr => ∃ k : Nat, k ≤ ds.length ∧ c3 = .int .i64 (lenD ds k : Int) ∧ Hid (J ((itemsD 0 ds hd).take k) wr) ∧ Hid (wr.cell? ⟨Bn, 0, none⟩ = some v) ∧ Hid (BytesAt wr v (flatD ds ++ p)))
    (fun c3 _ => (flatD ds ++ p).length - (intOf c3).toNat)
  case atStart =>
    exact ⟨0, Nat.zero_le _, by rw [lenD_zero]; rfl, h0, hBn, hb⟩
  case round =>
    obtain ⟨k, hk, rfl, HJ, HBn, HB⟩ := hrel
    obtain ⟨pv, cap, rfl, hN, hr⟩ := HB.out.shape
    have HR : Hid _ := hr
    obtain ⟨N, HNn⟩ : ∃ N, Hid ((flatD ds ++ p).length = N) := ⟨_, rfl⟩
    rw [HNn.out] at hN
    obtain ⟨hN, hNc, hcm⟩ := hN
    unfold maxLen at hcm
    have hbn := HBn.out
    rw [HNn.out] at hbn
    clear hr
    by_cases hlt : k < ds.length
    · obtain ⟨s, HSs⟩ : ∃ s, Hid (lenD ds k = s) := ⟨_, rfl⟩
      rw [HSs.out]
      have HD : Hid (ds[k].text.size ≤ 12 ∧ 0 ≤ ds[k].key ∧ ds[k].key < 8) := ⟨hd _ (List.getElem_mem hlt), hk8 _ (List.getElem_mem hlt)⟩
      have HTk : Hid ((itemsD 0 ds hd).take (k + 1) = (itemsD 0 ds hd).take k ++ [⟨(0 + lenD ds (k + 1), ds[k]), HD.out.1⟩]) := items_take 0 ds hd k hlt HD.out.1
      have HTl : Hid (((itemsD 0 ds hd).take k).length < ds.length) := by show _ < _; rw [List.length_take, itemsD_length]; omega
      have HSn : Hid (lenD ds (k + 1) = s + (ds[k].text.size + 2)) := by show _ = _; rw [lenD_succ hlt, HSs.out]
      have HFl : Hid ((flatD ds ++ p).drop s = encD ds[k] ++ (flatD (ds.drop (k + 1)) ++ p)) := by show _ = _; rw [← HSs.out]; exact flat_at hlt
      have hsN : s + (ds[k].text.size + 2) ≤ N := by
        have h1 := congrArg List.length HFl.out
        rw [List.length_drop, HNn.out, List.length_append, encD_length] at h1
        omega
      obtain ⟨d, HDd⟩ : ∃ d, Hid (ds[k] = d) := ⟨ds[k], show ds[k] = ds[k] from rfl⟩
      rw [HDd.out] at hsN HSn HFl
      obtain ⟨kd, gd, td⟩ := d
      dsimp only at hsN HSn
      have HD' : Hid (td.size ≤ 12 ∧ 0 ≤ kd ∧ kd < 8) := by have h := HD.out; rw [HDd.out] at h; exact h
      obtain ⟨a, HA⟩ : ∃ a, Hid (whatN ⟨kd, gd, td⟩ = a) := ⟨_, rfl⟩
      obtain ⟨b, HBb⟩ : ∃ b, Hid (td.size = b) := ⟨_, rfl⟩
      have hb12 : b ≤ 12 := by have := HD'.out.1; have := HBb.out; omega
      have ha16 : a < 16 := by
        have h1 := HD'.out.2
        have h2 := HA.out
        unfold whatN at h2
        dsimp only at h2
        split at h2 <;> omega
      rw [HBb.out] at hsN HSn
      obtain ⟨g, rfl, hc⟩ := HR.out (by intro e; have := HNn.out; rw [e] at this; simp at this; omega)
      have c0 : wr.cell? ⟨g, s, none⟩ = some (.int .u8 (a : Int)) := hc s a (drop_get (i := 0) HFl.out (by rw [← HA.out]; rfl))
      have c1 : wr.cell? ⟨g, s + 1, none⟩ = some (.int .u8 (b : Int)) := hc (s + 1) b (drop_get (i := 1) HFl.out (by rw [← HBb.out]; rfl))
      have HTx : Hid (∀ (i z : Nat), (txtN td)[i]? = some z → wr.cell? ⟨g, s + 2 + i, none⟩ = some (.int .u8 (z : Int))) := fun (i z : Nat) hz => by
        have hi : i < (txtN td).length := by
          rcases Nat.lt_or_ge i (txtN td).length with h | h
          · exact h
          · rw [List.getElem?_eq_none h] at hz; cases hz
        refine hc (s + 2 + i) z ?_
        have : (encD ⟨kd, gd, td⟩ ++ (flatD (ds.drop (k + 1)) ++ p))[2 + i]? = some z := by
          rw [List.getElem?_append_left (by simp [encD]; omega)]
          simp only [encD]
          rw [show 2 + i = i + 1 + 1 by omega]
          exact hz
        have h3 := drop_get HFl.out this
        rw [← Nat.add_assoc] at h3
        exact h3
      have hs63 : N ≤ 100000 := hN
      have h2d : decide ((s : Int) + 2 ≤ (N : Int)) = true := by simp; omega
      have hi1 : (s : Int) < (N : Int) := by omega
      have hi2 : (s : Int) + 1 < (N : Int) := by omega
      have hgt : decide ((N : Int) < (s : Int) + 2 + (b : Int)) = false := by simp; omega
      have lg := World.block_lt_of_cell? wr _ c0
      have hbc : (s : Int) + 2 + (b : Int) ≤ (cap : Int) := by omega
      have hka : (a : Int) % 8 = kd := by rw [← HA.out]; exact what_key (d := ⟨kd, gd, td⟩) HD'.out.2.1 HD'.out.2.2
      have hga : decide (8 ≤ (a : Int)) = gd := by rw [← HA.out]; exact what_gone (d := ⟨kd, gd, td⟩) HD'.out.2.1 HD'.out.2.2
      obtain ⟨e1, He1⟩ : ∃ e1 : Nat, Hid (s + 2 + b = e1) := ⟨_, rfl⟩
      have hE1 : (s : Int) + 2 + (b : Int) = (e1 : Int) := by have := He1.out; omega
      have HX : Hid (((itemsD 0 ds hd).take (k + 1)) = (itemsD 0 ds hd).take k ++ [⟨(e1, ⟨kd, gd, td⟩), HD'.out.1⟩]) := by
        have h := HTk.out
        have e2 : 0 + lenD ds (k + 1) = e1 := by rw [HSn.out, ← He1.out]; omega
        show _ = _
        rw [h]
        congr 2
        exact Subtype.ext (Prod.ext e2 HDd.out)
      have HSe : Hid (lenD ds (k + 1) = e1) := by show _ = _; rw [HSn.out, ← He1.out]; omega
      rw [hE1] at hgt hbc
      clear hc HTk HFl HSn HD HDd HR
      gi_wp2
      gi_quiet (fail)
      obtain ⟨w2, HW2⟩ : ∃ z, z = wr.drewN nq := ⟨_, rfl⟩
      rw [← HW2]
      have HTx2 : Hid (∀ (i z : Nat), (txtN td)[i]? = some z → w2.cell? ⟨g, s + 2 + i, none⟩ = some (.int .u8 (z : Int))) := by rw [HW2]; exact HTx.out
      have HJ2 : Hid (J ((itemsD 0 ds hd).take k) w2) := by rw [HW2]; exact hJd _ _ _ HJ.out
      have HBn2 : Hid (w2.cell? ⟨Bn, 0, none⟩ = some (.slice (some ⟨g, 0, none⟩) (flatD ds ++ p).length cap)) := by rw [HW2]; exact HBn.out
      have HB2 : Hid (BytesAt w2 (.slice (some ⟨g, 0, none⟩) (flatD ds ++ p).length cap) (flatD ds ++ p)) := by rw [HW2]; exact HB.out.blocks (fun _ _ => rfl)
      have hbn2 : w2.cell? ⟨Bn, 0, none⟩ = some (.slice (some ⟨g, 0, none⟩) N cap) := by rw [HW2]; exact hbn
      have lg2 : g < w2.heap.size := by rw [HW2]; exact lg
      have lB2 := World.block_lt_of_cell? w2 _ hbn2
      clear HW2 HTx HJ HBn HB hbn lg c0 c1
      have HJ3 : Hid (J ((itemsD 0 ds hd).take k) (w2.alloc (.cells #[.int .i64 kd, .bool gd, .string td] 97))) := hJa _ _ _ HJ2.out
      obtain ⟨fn, tmps, assign, body, hy, hR⟩ := hY _ ⟨(e1, ⟨kd, gd, td⟩), HD'.out.1⟩ _ HJ3.out HTl.out
      dsimp only [encsIt] at hy
      have hb1 : e1 - (s + 2) = b := by have := He1.out; omega
      have hcv : (convert 92 9 (.slice (some ⟨g, s + 2, none⟩) (e1 - (s + 2)) (cap - (s + 2)))).run Tryd.prog w2 = .ok (.string td) w2 := by
        have h := conv_txt w2 g (s + 2) (cap - (s + 2)) td HTx2.out
        rw [HBb.out, ← hb1] at h
        exact h
      have hcv0 : cap = s + 2 → (convert 92 9 (.slice (some ⟨g, 0, none⟩) (e1 - (s + 2)) 0)).run Tryd.prog w2 = .ok (.string td) w2 := fun hc0 => by
        have hz : b = 0 := by omega
        have h := conv_txt w2 g 0 0 td (fun i z hz' => by
          have h1 : (txtN td).length = 0 := by rw [txtN_length, HBb.out, hz]
          have h2 : txtN td = [] := List.length_eq_zero_iff.1 h1
          rw [h2] at hz'
          cases hz')
        rw [HBb.out, ← hb1] at h
        exact h
      clear hb1
      have he1s : s < e1 := by have := He1.out; omega
      have HRe : Hid (∀ (W3 : World) (o : Obj), KpB Bn (.slice (some ⟨g, 0, none⟩) (flatD ds ++ p).length cap) (w2.alloc o) W3 → W3.cell? ⟨Bn, 0, none⟩ = some (.slice (some ⟨g, 0, none⟩) (flatD ds ++ p).length cap) ∧ BytesAt W3 (.slice (some ⟨g, 0, none⟩) (flatD ds ++ p).length cap) (flatD ds ++ p)) := fun W3 o hk3 => by
        refine ⟨(World.cell?_of_block (a := ⟨Bn, 0, none⟩) (hk3.1.trans (Below.heap_alloc w2 o Bn lB2))).trans HBn2.out, HB2.out.blocks (fun g' hg' => (hk3.2 g' hg').trans (Below.heap_alloc w2 o g' ?_))⟩
        have : g = g' := by simpa [Value.ownBlock] using hg'
        omega
      gi_wp2
      all_goals refine hR.mono ?_
      all_goals rintro e W3 (⟨rfl, hJ4, hk4⟩ | ⟨rfl, hJx4⟩)
      all_goals gi_wp2
      all_goals first
        | (refine bodyPost_ret (results_none rfl _ _ _) rfl ?_; exact ⟨⟨_, rfl⟩, .inr ⟨_, by rw [← HX.out]; exact List.take_prefix _ _, hJx4⟩⟩)
        | go_roundw
      all_goals first
        | exact ⟨k + 1, by omega, by rw [HSe.out], by show J _ _; rw [HX.out]; exact hJ4, (HRe.out _ _ hk4).1, (HRe.out _ _ hk4).2⟩
        | (rw [HNn.out]; simp only [intOf, Int.toNat_natCast]; omega)
    · obtain rfl : k = ds.length := by omega
      obtain ⟨s, HSs⟩ : ∃ s, Hid (lenD ds ds.length = s) := ⟨_, rfl⟩
      rw [HSs.out]
      have hsN : s + p.length = N := by rw [← HNn.out, ← HSs.out, List.length_append, lenD_all (Nat.le_refl _)]
      have HJe : Hid (J (itemsD 0 ds hd) wr) := by
        have := HJ.out
        rw [List.take_of_length_le (by rw [itemsD_length]; exact Nat.le_refl _)] at this
        exact this
      by_cases h2 : s + 2 ≤ N
      · obtain ⟨a, b, r, hpe⟩ : ∃ a b r, p = a :: b :: r := by
          match p, hsN with
          | [], h => simp at h; omega
          | [x], h => simp at h; omega
          | a :: b :: r, _ => exact ⟨a, b, r, rfl⟩
        have hrb := hp a b r hpe
        have hb8 : b < 256 := hp8 b (by rw [hpe]; simp)
        have ha8 : a < 256 := hp8 a (by rw [hpe]; simp)
        have hlen : s + (r.length + 2) = N := by rw [← hsN, hpe]; rfl
        have hs0 : (flatD ds).length = s := by rw [← HSs.out, lenD_all (Nat.le_refl _)]
        obtain ⟨g, rfl, hc⟩ := HR.out (by rw [hpe]; simp)
        have c0 : wr.cell? ⟨g, s, none⟩ = some (.int .u8 (a : Int)) := hc s a (by rw [hpe, ← hs0, List.getElem?_append_right (Nat.le_refl _)]; simp)
        have c1 : wr.cell? ⟨g, s + 1, none⟩ = some (.int .u8 (b : Int)) := hc (s + 1) b (by rw [hpe, ← hs0, List.getElem?_append_right (by omega)]; simp)
        have hs63 : N ≤ 100000 := hN
        have h2d : decide ((s : Int) + 2 ≤ (N : Int)) = true := by simp; omega
        have hi1 : (s : Int) < (N : Int) := by omega
        have hi2 : (s : Int) + 1 < (N : Int) := by omega
        have hgt : decide ((N : Int) < (s : Int) + 2 + (b : Int)) = true := by simp; omega
        have lg := World.block_lt_of_cell? wr _ c0
        gi_wp2
        gi_quiet (fail)
        gi_wp2
        refine bodyPost_ret (results_none rfl _ _ _) rfl ?_
        exact ⟨⟨_, rfl⟩, .inl ⟨_, rfl, hJd _ _ _ HJe.out⟩⟩
      · have h2d : decide ((s : Int) + 2 ≤ (N : Int)) = false := by simp; omega
        gi_wp2
        go_end0
        exact ⟨⟨_, rfl⟩, .inl ⟨_, rfl, HJe.out⟩⟩
end Go.Proofs.YtpcnfoaoajfhlaaDoor
