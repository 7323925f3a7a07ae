/-
  A row of bytes; what a record does to a store; a record's bytes.
-/
import Derived.Test.YtpcnfoaoajfhlaaDoorLgP
import Derived.Test.YtpcnfoaoajfhlaaDoorStFM
import Derived.Lib.AppendStr
import Derived.Laws.AppendOwnNone
import Derived.BigRegion
import Derived.BigQuiet
import Derived.Deep.DeepCutAuto
namespace Go.Proofs.YtpcnfoaoajfhlaaDoor
set_option linter.unusedVariables false
set_option linter.unusedSimpArgs false
open Go.RowKit

def rowB (bs : List Nat) : List Value := bs.map (fun (n : Nat) => Value.int .u8 (n : Int))
theorem rowB_length (bs : List Nat) : (rowB bs).length = bs.length := by simp [rowB]
theorem rowB_append (a b : List Nat) : rowB (a ++ b) = rowB a ++ rowB b := by simp [rowB]
theorem rowB_take (bs : List Nat) (n : Nat) : rowB (bs.take n) = (rowB bs).take n := by simp [rowB]
theorem rowB_one (bs : List Nat) : ∀ u ∈ rowB bs, u.oneCell' = true := by
  intro u hu
  obtain ⟨n, _, rfl⟩ := List.mem_map.1 hu
  rfl
theorem strCells_txt (t : ByteArray) : Lib.strCells t = rowB (txtN t) := by
  unfold Lib.strCells rowB txtN
  rw [List.map_map]
  first | rfl | (congr 1)
/-- a row of bytes of the call's own -/
def OwnB (w : World) (v : Value) (bs : List Nat) : Prop := w.ownsRow 0 5 1 v bs.length (rowB bs)
theorem infoB : (Tryd.prog.info? 5).map (fun i => (i.zero, i.size, i.bytes)) = some (some (.int .u8 0), 1, 1) := by kernel_rfl
theorem OwnB.nil (w : World) : OwnB w (.slice none 0 0) [] := World.ownsRow_nil w 0 _ 1
theorem OwnB.blocks {w w' : World} {v : Value} {bs : List Nat} (h : OwnB w v bs) (hb : ∀ g, v.ownBlock = some g → w'.heap[g]? = w.heap[g]?) : OwnB w' v bs := ownsRow_blocks h hb
theorem OwnB.lt {w : World} {v : Value} {bs : List Nat} (h : OwnB w v bs) (g : Nat) (hg : v.ownBlock = some g) : g < w.heap.size := by
  rcases h.2 with ⟨rfl, _⟩ | ⟨g', cap, cur, rfl, _, hg', _⟩
  · cases hg
  · obtain rfl : g' = g := by simpa [Value.ownBlock] using hg
    exact (Array.getElem?_eq_some_iff.1 hg').1
theorem OwnB.below {w w' : World} {v : Value} {bs : List Nat} (h : OwnB w v bs) (hb : Below w.heap.size w w') : OwnB w' v bs := h.blocks fun g hg => hb.block g (h.lt g hg)
theorem OwnB.slice {w : World} {v : Value} {bs : List Nat} (h : OwnB w v bs) : (v = .slice none 0 0 ∧ bs = []) ∨ ∃ g cap, v = .slice (some ⟨g, 0, none⟩) bs.length cap ∧ bs.length ≤ cap ∧ cap ≤ maxLen := by
  rcases h.2 with ⟨rfl, h0⟩ | ⟨g, cap, cur, rfl, _, _, h1, h2, _⟩
  · exact .inl ⟨rfl, List.length_eq_zero_iff.1 h0⟩
  · exact .inr ⟨g, cap, rfl, h1, h2⟩
/-- a beginning of the row -/
theorem OwnB.take {w : World} {g cap : Nat} {bs : List Nat} {n0 : Nat} (h : OwnB w (.slice (some ⟨g, 0, none⟩) n0 cap) bs) (n : Nat) (hn : n ≤ bs.length) : OwnB w (.slice (some ⟨g, 0, none⟩) n cap) (bs.take n) := by
  refine ⟨by rw [rowB_length]; simp, ?_⟩
  rcases h.2 with ⟨he, _⟩ | ⟨g', cap', cur, he, h0, hg, h1, h2, h3, h4⟩
  · cases he
  · obtain ⟨rfl, rfl, rfl⟩ : g = g' ∧ n0 = bs.length ∧ cap = cap' := by simpa using he
    refine .inr ⟨g, cap, cur, by rw [List.length_take, Nat.min_eq_left hn], h0, hg, by rw [List.length_take]; omega, h2, h3, ?_⟩
    rw [rowB_take, ← h4, List.take_take, List.length_take, Nat.min_eq_left hn, Nat.min_eq_left (by omega), Nat.mul_one]
theorem below_grownB {w w' : World} {v : Value} {B : Nat} (h : w.grownBy w' v.ownBlock) (hB : B ≤ w.heap.size) (hv : ∀ g, v.ownBlock = some g → B ≤ g) : Below B w w' :=
  ⟨h.os, h.tape, h.output, h.size, fun c hc => h.block c (by omega) (fun e => by have := hv c e.symm; omega)⟩
theorem rowB_base {w : World} {B C : Nat} {e : TypeId} {size : Nat} {v : Value} {n : Nat} {xs : List Value} (h : w.ownsRow B e size v n xs) (hC : C ≤ B) : w.ownsRow C e size v n xs := by
  refine ⟨h.1, ?_⟩
  rcases h.2 with hn | ⟨g, cap, cur, rfl, h1, hg, rest⟩
  · exact .inl hn
  · exact .inr ⟨g, cap, cur, rfl, Nat.le_trans hC h1, hg, rest⟩
theorem rowB_from {w : World} {B : Nat} {e : TypeId} {size : Nat} {v : Value} {n : Nat} {xs : List Value} (h : w.ownsRow B e size v n xs) (c : Nat) (hc : v.ownBlock = some c) : B ≤ c := by
  rcases h.2 with ⟨rfl, _⟩ | ⟨g', cap, cur, rfl, h1, _⟩
  · cases hc
  · obtain rfl : g' = c := by simpa [Value.ownBlock] using hc
    exact h1
theorem alloc_atB (w : World) (o : Obj) (b : Nat) (h : b = w.heap.size) : (w.alloc o).heap[b]? = some o := by
  subst h
  exact Array.getElem?_push_size
theorem sliceB {w : World} {B : Nat} {e : TypeId} {size : Nat} {v : Value} {n : Nat} {xs : List Value} (h : w.ownsRow B e size v n xs) : ∃ p c, v = .slice p n c := by
  rcases h.2 with ⟨rfl, rfl⟩ | ⟨g', cap, cur, rfl, h1, _⟩
  · exact ⟨none, 0, rfl⟩
  · exact ⟨_, cap, rfl⟩
set_option maxHeartbeats 4000000 in
theorem do_c (b : Nat) (k : Int) (gone : Bool) (t : ByteArray) (l : List Deed) (F : Nat → Prop) (w : World) (ht : t.size ≤ maxLen) (h : StoreIs w b l F) :
    Calls Tryd.prog 72 #[.agg #[.int .i64 k, .bool gone, .string t], .pointer (some ⟨b, 0, none⟩)] w (Left b F w (doO l ⟨k, gone, t⟩)) := by
  have HS : Hid (StoreIs (w.alloc (.cells #[.int .i64 k, .bool gone, .string t] 97)) b l F) := h.below ((Below.refl _ _).alloc (Nat.le_refl _) _)
  have HB : Hid (Below w.heap.size w (w.alloc (.cells #[.int .i64 k, .bool gone, .string t] 97))) := (Below.refl _ _).alloc (Nat.le_refl _) _
  have HT : Hid (t.size ≤ maxLen) := ht
  clear h ht
  cases gone
  · obtain ⟨o, HO⟩ : ∃ o, Hid (putO l k t = o) := ⟨_, rfl⟩
    have e0 : doO l ⟨k, false, t⟩ = o := HO.out
    rw [e0]
    go_enter Tryd.func72, Tryd.ntmps72
    go_wp2_with fail
    refine (stPut_c b k t l F _ HT.out HS.out).mono ?_
    rw [HO.out]
    rintro e w1 ⟨rfl, hr⟩
    have HR : Hid (∃ F', StoreIs w1 b o.done F' ∧ (∀ c, F' c → F c ∨ (w.alloc (.cells #[.int .i64 k, .bool false, .string t] 97)).heap.size ≤ c) ∧ Kept F (w.alloc (.cells #[.int .i64 k, .bool false, .string t] 97)) w1) := hr
    clear hr
    go_wp2_with fail
    go_ret2
    exact Left.step HB.out ⟨rfl, HR.out⟩
  · obtain ⟨o, HO⟩ : ∃ o, Hid (delO l k = o) := ⟨_, rfl⟩
    have e0 : doO l ⟨k, true, t⟩ = o := HO.out
    rw [e0]
    go_enter Tryd.func72, Tryd.ntmps72
    go_wp2_with fail
    refine (delete_c b k l F _ HS.out).mono ?_
    rw [HO.out]
    rintro e w1 ⟨rfl, hr⟩
    have HR : Hid (∃ F', StoreIs w1 b o.done F' ∧ (∀ c, F' c → F c ∨ (w.alloc (.cells #[.int .i64 k, .bool true, .string t] 97)).heap.size ≤ c) ∧ Kept F (w.alloc (.cells #[.int .i64 k, .bool true, .string t] 97)) w1) := hr
    clear hr
    go_wp2_with fail
    go_ret2
    exact Left.step HB.out ⟨rfl, HR.out⟩
set_option maxRecDepth 100000 in
set_option maxHeartbeats 4000000 in
theorem recBytes_c (k : Nat) (gone : Bool) (t : ByteArray) (w : World) (hk : k < 8) (ht : t.size ≤ 12) :
    Calls Tryd.prog 73 #[.agg #[.int .i64 k, .bool gone, .string t]] w fun e w' => ∃ v, e = .returned v ∧ OwnB w' v (encD ⟨k, gone, t⟩) ∧ (∀ g, v.ownBlock = some g → w.heap.size ≤ g) ∧ Below w.heap.size w w' := by
  obtain ⟨i0, hi0, hz0, hz1, hz2⟩ := info_parts infoB
  have hk1 : IntKind.u8.wrap (k : Int) = (k : Int) := (by decide : ∀ n : Fin 8, IntKind.u8.wrap (n.val : Int) = n.val) ⟨k, hk⟩
  have hk2 : IntKind.u8.wrap ((k : Int) + 8) = (k : Int) + 8 := (by decide : ∀ n : Fin 8, IntKind.u8.wrap ((n.val : Int) + 8) = (n.val : Int) + 8) ⟨k, hk⟩
  have hk3 : IntKind.u8.wrap (t.size : Int) = (t.size : Int) := (by decide : ∀ n : Fin 13, IntKind.u8.wrap (n.val : Int) = n.val) ⟨t.size, by omega⟩
  have hk7 : (k : Int) ≤ 7 := by omega
  cases gone
  · have HOw : Hid (((w.alloc (.cells #[.int .i64 k, .bool false, .string t] 97)).alloc (.cells #[.int .u8 ((k : Int)), .int .u8 t.size] 5)).ownsRow w.heap.size 5 1 (.slice (some ⟨w.heap.size + 1, 0, none⟩) 2 2) 2 [.int .u8 ((k : Int)), .int .u8 t.size]) := by
      have hq := alloc_atB (w.alloc (.cells #[.int .i64 k, .bool false, .string t] 97)) (.cells #[.int .u8 ((k : Int)), .int .u8 t.size] 5) (w.heap.size + 1) (by simp)
      exact ⟨rfl, .inr ⟨w.heap.size + 1, 2, _, rfl, by omega, hq, by omega, by unfold maxLen; omega, rfl, rfl⟩⟩
    go_enter Tryd.func73, Tryd.ntmps73
    go_wp2_with (at_builtin; refine Lib.wpList_append_own_string _ rfl _ _ 92 9 rfl w.heap.size 5 i0 Tryd.underlying92 Tryd.underlying9 hi0 hz0 hz1 hz2 _ 2 _ rfl HOw.out t rfl (by unfold maxLen; omega) (by omega) (by simp <;> omega) ?_)
    intro v' w' hown hgrow _
    have HOwn : Hid (w'.ownsRow w.heap.size 5 1 v' (2 + t.size) ([.int .u8 ((k : Int)), .int .u8 t.size] ++ Lib.strCells t)) := hown
    have hvv : ∀ g, (Value.slice (some ⟨w.heap.size + 1, 0, none⟩) 2 2).ownBlock = some g → w.heap.size ≤ g := by
      intro g hg
      have h : w.heap.size + 1 = g := by simpa [Value.ownBlock] using hg
      omega
    have HG : Hid (Below w.heap.size w w') := (((Below.refl _ _).alloc (Nat.le_refl _) _).alloc (by simp <;> omega) _).trans (below_grownB hgrow (by simp <;> omega) hvv)
    obtain ⟨p', c', rfl⟩ := sliceB hown
    clear hown hgrow hvv
    go_wp2_with fail
    go_ret
    refine ⟨_, rfl, ?_, rowB_from HOwn.out, HG.out⟩
    have he : [.int .u8 ((k : Int)), .int .u8 t.size] ++ Lib.strCells t = rowB (encD ⟨k, false, t⟩) := by rw [strCells_txt]; simp [encD, rowB, whatN]
    have hl : 2 + t.size = (encD ⟨k, false, t⟩).length := by rw [encD_length]; show 2 + t.size = t.size + 2; omega
    have := HOwn.out
    rw [he, hl] at this
    have h2 := rowB_base this (Nat.zero_le _)
    rw [← hl] at h2
    show World.ownsRow _ _ _ _ _ _ _
    rw [← hl]
    exact h2
  · have HOw : Hid (((w.alloc (.cells #[.int .i64 k, .bool true, .string t] 97)).alloc (.cells #[.int .u8 ((k : Int) + 8), .int .u8 t.size] 5)).ownsRow w.heap.size 5 1 (.slice (some ⟨w.heap.size + 1, 0, none⟩) 2 2) 2 [.int .u8 ((k : Int) + 8), .int .u8 t.size]) := by
      have hq := alloc_atB (w.alloc (.cells #[.int .i64 k, .bool true, .string t] 97)) (.cells #[.int .u8 ((k : Int) + 8), .int .u8 t.size] 5) (w.heap.size + 1) (by simp)
      exact ⟨rfl, .inr ⟨w.heap.size + 1, 2, _, rfl, by omega, hq, by omega, by unfold maxLen; omega, rfl, rfl⟩⟩
    go_enter Tryd.func73, Tryd.ntmps73
    go_wp2_with (at_builtin; refine Lib.wpList_append_own_string _ rfl _ _ 92 9 rfl w.heap.size 5 i0 Tryd.underlying92 Tryd.underlying9 hi0 hz0 hz1 hz2 _ 2 _ rfl HOw.out t rfl (by unfold maxLen; omega) (by omega) (by simp <;> omega) ?_)
    intro v' w' hown hgrow _
    have HOwn : Hid (w'.ownsRow w.heap.size 5 1 v' (2 + t.size) ([.int .u8 ((k : Int) + 8), .int .u8 t.size] ++ Lib.strCells t)) := hown
    have hvv : ∀ g, (Value.slice (some ⟨w.heap.size + 1, 0, none⟩) 2 2).ownBlock = some g → w.heap.size ≤ g := by
      intro g hg
      have h : w.heap.size + 1 = g := by simpa [Value.ownBlock] using hg
      omega
    have HG : Hid (Below w.heap.size w w') := (((Below.refl _ _).alloc (Nat.le_refl _) _).alloc (by simp <;> omega) _).trans (below_grownB hgrow (by simp <;> omega) hvv)
    obtain ⟨p', c', rfl⟩ := sliceB hown
    clear hown hgrow hvv
    go_wp2_with fail
    go_ret
    refine ⟨_, rfl, ?_, rowB_from HOwn.out, HG.out⟩
    have he : [.int .u8 ((k : Int) + 8), .int .u8 t.size] ++ Lib.strCells t = rowB (encD ⟨k, true, t⟩) := by rw [strCells_txt]; simp [encD, rowB, whatN]
    have hl : 2 + t.size = (encD ⟨k, true, t⟩).length := by rw [encD_length]; show 2 + t.size = t.size + 2; omega
    have := HOwn.out
    rw [he, hl] at this
    have h2 := rowB_base this (Nat.zero_le _)
    rw [← hl] at h2
    show World.ownsRow _ _ _ _ _ _ _
    rw [← hl]
    exact h2
end Go.Proofs.YtpcnfoaoajfhlaaDoor
