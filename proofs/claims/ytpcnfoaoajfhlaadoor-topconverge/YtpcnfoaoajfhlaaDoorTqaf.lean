/-
  slices.IndexFunc and slices.ContainsFunc at a row of numbers, over whatever function tells the same of the same.
  The number of a text, on lists of bytes: a step, how it is undone, and the exclusive or bit by bit.
  Package hash by its contracts: the number of a text.
  Package hash by its contracts: numbers in decimal, a stroke between.
-/
import Derived.Test.YtpcnfoaoajfhlaaDoorTqae
import Derived.BigQuiet
import Derived.Test.YtpcnfoaoajfhlaaDoorTqaa
import Derived.BigRegion
import Derived.Test.YtpcnfoaoajfhlaaDoorShf
import Derived.Lib.ItoaLen
import Derived.Lib.Slices
import Derived.Lib.Hide
import Derived.Laws.IdiomStrings
import Derived.OwnWalk
import Derived.BigCall
namespace Go.Proofs.YtpcnfoaoajfhlaaDoor
set_option linter.unusedVariables false
set_option linter.unusedSimpArgs false
set_option linter.unusedVariables false
set_option linter.unusedSimpArgs false
open Go.RowKit

/-- where the first is that is so, -1: none -/
def idxI (n : Nat) (p : Nat → Bool) : Nat → Int
  | 0 => -1
  | f + 1 => if p (n - (f + 1)) = true then ((n - (f + 1) : Nat) : Int) else idxI n p f
theorem idxI_hit {n : Nat} {p : Nat → Bool} {j : Nat} (h : j < n) (hp : p j = true) : idxI n p (n - j) = j := by
  obtain ⟨f, hf⟩ : ∃ f, n - j = f + 1 := ⟨n - j - 1, by omega⟩
  rw [hf, idxI, show n - (f + 1) = j by omega, if_pos hp]
theorem idxI_miss {n : Nat} {p : Nat → Bool} {j : Nat} (h : j < n) (hp : p j = false) : idxI n p (n - j) = idxI n p (n - (j + 1)) := by
  obtain ⟨f, hf⟩ : ∃ f, n - j = f + 1 := ⟨n - j - 1, by omega⟩
  rw [hf, idxI, show n - (f + 1) = j by omega, if_neg (by rw [hp]; simp), show n - (j + 1) = f by omega]
theorem idxI_end (n : Nat) (p : Nat → Bool) : idxI n p (n - n) = -1 := by rw [Nat.sub_self]; rfl
theorem idxI_cases (n : Nat) (p : Nat → Bool) : (idxI n p n = -1 ∧ ∀ j, j < n → p j = false) ∨ ∃ m : Nat, idxI n p n = m ∧ m < n ∧ p m = true ∧ ∀ j, j < m → p j = false := by
  have key : ∀ d j, n - j = d → j ≤ n → (∀ i, i < j → p i = false) → ((idxI n p (n - j) = -1 ∧ ∀ j, j < n → p j = false) ∨ ∃ m : Nat, idxI n p (n - j) = m ∧ m < n ∧ p m = true ∧ ∀ j, j < m → p j = false) := by
    intro d
    induction d with
    | zero =>
      intro j hd hj hlow
      obtain rfl : j = n := by omega
      exact Or.inl ⟨idxI_end _ _, hlow⟩
    | succ d ih =>
      intro j hd hj hlow
      have hjn : j < n := by omega
      cases hp : p j with
      | true => exact Or.inr ⟨j, idxI_hit hjn hp, hjn, hp, hlow⟩
      | false =>
        rw [idxI_miss hjn hp]
        refine ih (j + 1) (by omega) (by omega) (fun i hi => ?_)
        rcases Nat.lt_or_ge i j with h | h
        · exact hlow i h
        · obtain rfl : i = j := by omega
          exact hp
  exact key n 0 (by omega) (by omega) (fun i hi => by omega)
theorem idxB (n : Nat) (p : Nat → Bool) : decide ((0 : Int) ≤ idxI n p n) = (List.range n).any p := by
  rcases idxI_cases n p with ⟨h, hn⟩ | ⟨m, h, hm, hp, _⟩
  · rw [h]
    symm
    rw [List.any_eq_false.2 (fun j hj => by rw [hn j (List.mem_range.1 hj)]; simp)]
    rfl
  · rw [h]
    symm
    rw [List.any_eq_true.2 ⟨m, List.mem_range.2 hm, hp⟩]
    simp
theorem getD_at {α : Type} (l : List α) (d : α) (j : Nat) (h : j < l.length) : l.getD j d = l[j] := by
  simp [List.getD_eq_getElem?_getD, h]
theorem any_range {α : Type} (l : List α) (d : α) (q : α → Bool) : (List.range l.length).any (fun j => q (l.getD j d)) = l.any q := by
  rw [Bool.eq_iff_iff, List.any_eq_true, List.any_eq_true]
  constructor
  · rintro ⟨j, hj, h⟩
    have hj := List.mem_range.1 hj
    rw [getD_at _ _ _ hj] at h
    exact ⟨_, List.getElem_mem hj, h⟩
  · rintro ⟨x, hx, h⟩
    obtain ⟨j, hj, rfl⟩ := List.getElem_of_mem hx
    exact ⟨j, List.mem_range.2 hj, by rw [getD_at _ _ _ hj]; exact h⟩

set_option maxHeartbeats 4000000 in
theorem indexF_c (f : FuncId) (caps : Array Value) (v : Value) (l : List Int) (p : Nat → Bool) (w : World) (hr : IntsIs w v l)
    (eg : ∀ args w, (callFunc f args).run Tryd.prog w = .ok (.enter f args) w) (hf : ∀ j (h : j < l.length) w', Below w.heap.size w w' → Calls Tryd.prog f (#[.int .i64 l[j]] ++ caps) w' fun e w'' => e = .returned (.bool (p j)) ∧ Below w'.heap.size w' w'') :
    Calls Tryd.prog 62 #[v, .func (.func f) #[] caps] w fun e w' => e = .returned (.int .i64 (idxI l.length p l.length)) ∧ Below w.heap.size w w' := by
  obtain ⟨hlen, pp, cap, rfl, hrow⟩ := hr
  have HRow : Hid (l ≠ [] → ∃ b o, pp = some ⟨b, o, none⟩ ∧ b < w.heap.size ∧ ∀ j (h : j < l.length), w.cell? ⟨b, o + j, none⟩ = some (.int .i64 l[j])) := hrow
  have HF : Hid (∀ j (h : j < l.length) w', Below w.heap.size w w' → Calls Tryd.prog f (#[.int .i64 l[j]] ++ caps) w' fun e w'' => e = .returned (.bool (p j)) ∧ Below w'.heap.size w' w'') := hf
  clear hrow hf
  obtain ⟨n, HN⟩ : ∃ n, Hid (l.length = n) := ⟨_, rfl⟩
  rw [HN.out] at hlen ⊢
  have hn63 : n ≤ 9223372036854775807 := hlen
  obtain ⟨R, HR⟩ : ∃ R, Hid (idxI n p n = R) := ⟨_, rfl⟩
  rw [HR.out]
  go_enter Tryd.func62, Tryd.ntmps62
  go_wp2_with fail
  go_loopw [8] (fun i wr => ∃ j : Nat, j ≤ n ∧ i = .int .i64 j ∧ Hid (R = idxI n p (n - j)) ∧ Hid (Below w.heap.size w wr)) (fun i _ => n - (intOf i).toNat)
  case atStart => exact ⟨0, Nat.zero_le _, rfl, HR.out.symm, Below.refl _ _⟩
  case round =>
    obtain ⟨j, hj, rfl, HJ, HB⟩ := hrel
    by_cases hlt : j < n
    · have hlti : (j : Int) < (n : Int) := by omega
      have hjl : j < l.length := by rw [HN.out]; exact hlt
      obtain ⟨b, o, rfl, hbw, hat⟩ := HRow.out (fun h => by simp [h] at hjl)
      have c0 : wr.cell? ⟨b, o + j, none⟩ = some (.int .i64 l[j]) := (World.cell?_of_block (a := ⟨b, o + j, none⟩) (HB.out.block b hbw)).trans (hat j hjl)
      have HC : Hid _ := HF.out j hjl wr HB.out
      clear hat
      obtain ⟨x, HX⟩ : ∃ x, Hid (l[j] = x) := ⟨l[j], show l[j] = l[j] from rfl⟩
      rw [HX.out] at c0 HC
      cases hp : p j
      · rw [idxI_miss hlt hp] at HJ
        rw [hp] at HC
        go_wp2_with fail
        refine Calls.mono HC.out ?_
        rintro e w1 ⟨rfl, hb⟩
        have B1 : Hid (Below w.heap.size w w1) := HB.out.trans (hb.mono HB.out.size)
        clear hb c0
        go_wp2_with fail
        go_roundw
        case rel => exact ⟨j + 1, by omega, by go_num, HJ, B1⟩
        case measure => simp [intOf]; omega
      · rw [idxI_hit hlt hp] at HJ
        rw [hp] at HC
        go_wp2_with fail
        refine Calls.mono HC.out ?_
        rintro e w1 ⟨rfl, hb⟩
        have B1 : Hid (Below w.heap.size w w1) := HB.out.trans (hb.mono HB.out.size)
        clear hb c0
        go_wp2_with fail
        go_ret
        exact ⟨by rw [HJ.out]; rfl, B1.out⟩
    · obtain rfl : j = n := by omega
      rw [idxI_end] at HJ
      go_wp2_with fail
      go_ret
      exact ⟨by rw [HJ.out]; rfl, HB.out⟩

set_option maxHeartbeats 4000000 in
theorem containsF_c (f : FuncId) (caps : Array Value) (v : Value) (l : List Int) (p : Nat → Bool) (B : Bool) (w : World) (hr : IntsIs w v l)
    (eg : ∀ args w, (callFunc f args).run Tryd.prog w = .ok (.enter f args) w) (hf : ∀ j (h : j < l.length) w', Below w.heap.size w w' → Calls Tryd.prog f (#[.int .i64 l[j]] ++ caps) w' fun e w'' => e = .returned (.bool (p j)) ∧ Below w'.heap.size w' w'') (hB : (List.range l.length).any p = B) :
    Calls Tryd.prog 38 #[v, .func (.func f) #[] caps] w fun e w' => e = .returned (.bool B) ∧ Below w.heap.size w w' := by
  have HF : Hid _ := indexF_c f caps v l p w hr eg hf
  rw [← idxB] at hB
  generalize idxI l.length p l.length = I at HF hB
  clear hf hr eg
  go_enter Tryd.func38, Tryd.ntmps38
  go_wp2_with fail
  refine Calls.mono HF.out ?_
  rintro e w1 ⟨rfl, hb⟩
  have B1 : Hid (Below w.heap.size w w1) := hb
  clear hb
  go_wp2_with fail
  go_ret
  exact ⟨by rw [← hB]; rfl, B1.out⟩
end Go.Proofs.YtpcnfoaoajfhlaaDoor

namespace Go.Proofs.YtpcnfoaoajfhlaaDoor
set_option linter.unusedVariables false
set_option linter.unusedSimpArgs false
open Go.RowKit

/-- one byte more -/
def stepH (n c : Nat) : Nat := ((n ^^^ c) * 16777619) % 4294967296
/-- the number of a text -/
def hashL (l : List Nat) : Nat := l.foldl stepH 2166136261
theorem stepH_lt (n c : Nat) : stepH n c < 4294967296 := Nat.mod_lt _ (by omega)
theorem hashL_lt (l : List Nat) : hashL l < 4294967296 := by
  have key : ∀ (l : List Nat) (n : Nat), n < 4294967296 → l.foldl stepH n < 4294967296 := by
    intro l
    induction l with
    | nil => intro n h; exact h
    | cons c l ih => intro n _; exact ih _ (stepH_lt n c)
  exact key l _ (by omega)
theorem foldl_more {α β : Type} (f : β → α → β) (b : β) (l : List α) (c : α) : (l ++ [c]).foldl f b = f (l.foldl f b) c := by simp
theorem hashL_more (l : List Nat) (c : Nat) : hashL (l ++ [c]) = stepH (hashL l) c := foldl_more stepH 2166136261 l c
theorem mul_undo {a b : Nat} (ha : a < 4294967296) (hb : b < 4294967296) (h : (a * 16777619) % 4294967296 = (b * 16777619) % 4294967296) : a = b := by
  have e : ∀ x : Nat, x < 4294967296 → ((x * 16777619) % 4294967296 * 899433627) % 4294967296 = x := by
    intro x hx
    rw [Nat.mod_mul_mod, Nat.mul_assoc]
    have : 16777619 * 899433627 = 1 + 4294967296 * 3513497 := by decide
    rw [this, Nat.mul_add, Nat.mul_one, Nat.mul_left_comm, Nat.add_mul_mod_self_left]
    exact Nat.mod_eq_of_lt hx
  rw [← e a ha, ← e b hb, h]
theorem xor_lt32 {n c : Nat} (hn : n < 4294967296) (hc : c < 256) : n ^^^ c < 4294967296 :=
  Nat.xor_lt_two_pow (n := 32) hn (by omega)
/-- unlike bytes behind make unlike numbers -/
theorem stepH_inj {n c d : Nat} (hn : n < 4294967296) (hc : c < 256) (hd : d < 256) (h : stepH n c = stepH n d) : c = d := by
  have h1 := mul_undo (xor_lt32 hn hc) (xor_lt32 hn hd) h
  have h2 : n ^^^ (n ^^^ c) = n ^^^ (n ^^^ d) := by rw [h1]
  rwa [← Nat.xor_assoc, ← Nat.xor_assoc, Nat.xor_self, Nat.zero_xor, Nat.zero_xor] at h2
/-- the exclusive or of the low k bits, as the document sums it -/
def bitsX (a b : Nat) : Nat → Nat
  | 0 => 0
  | k + 1 => bitsX a b k + (if a / 2 ^ k % 2 ≠ b / 2 ^ k % 2 then 2 ^ k else 0)
theorem xor_bit (a b k : Nat) : (a ^^^ b) / 2 ^ k % 2 = if a / 2 ^ k % 2 ≠ b / 2 ^ k % 2 then 1 else 0 := by
  rw [← Nat.shiftRight_eq_div_pow, Nat.shiftRight_xor_distrib, Nat.shiftRight_eq_div_pow, Nat.shiftRight_eq_div_pow]
  have h := Nat.xor_mod_two_eq_one (a := a / 2 ^ k) (b := b / 2 ^ k)
  have h0 := Nat.mod_two_eq_zero_or_one (a / 2 ^ k ^^^ b / 2 ^ k)
  split
  · rename_i hne
    exact h.2 (by omega)
  · rename_i hne
    rcases h0 with h0 | h0
    · exact h0
    · have := h.1 h0
      omega
theorem bitsX_mod (a b k : Nat) : bitsX a b k = (a ^^^ b) % 2 ^ k := by
  induction k with
  | zero => simp [bitsX, Nat.mod_one]
  | succ k ih =>
    rw [bitsX, ih, Nat.mod_pow_succ, xor_bit]
    split <;> simp
theorem bitsX_eight {a b : Nat} (ha : a < 256) (hb : b < 256) : bitsX a b 8 = a ^^^ b := by
  rw [bitsX_mod]
  exact Nat.mod_eq_of_lt (Nat.xor_lt_two_pow (n := 8) ha hb)
/-- the low byte alone is changed -/
theorem low_xor {n c : Nat} (hc : c < 256) : n - n % 256 + bitsX (n % 256) c 8 = n ^^^ c := by
  rw [bitsX_eight (Nat.mod_lt _ (by omega)) hc]
  have h1 : (n ^^^ c) % 256 = (n % 256) ^^^ c := by
    have := Nat.xor_mod_two_pow (a := n) (b := c) (n := 8)
    rw [show (2 : Nat) ^ 8 = 256 from rfl] at this
    rw [this, Nat.mod_eq_of_lt hc]
  have h2 : (n ^^^ c) / 256 = n / 256 := by
    rw [show (256 : Nat) = 2 ^ 8 from rfl, ← Nat.shiftRight_eq_div_pow, Nat.shiftRight_xor_distrib, Nat.shiftRight_eq_div_pow, Nat.shiftRight_eq_div_pow, Nat.div_eq_of_lt (a := c) hc, Nat.xor_zero]
  rw [← h1]
  have h3 := Nat.div_add_mod (n ^^^ c) 256
  have h4 := Nat.div_add_mod n 256
  omega
end Go.Proofs.YtpcnfoaoajfhlaaDoor

namespace Go.Proofs.YtpcnfoaoajfhlaaDoor
set_option linter.unusedVariables false
set_option linter.unusedSimpArgs false
open Go.RowKit

/-- a text's bytes as numbers -/
def byN (s : ByteArray) : List Nat := s.data.toList.map UInt8.toNat
theorem byN_len (s : ByteArray) : (byN s).length = s.size := by
  rw [byN, List.length_map, Array.length_toList]
  rfl

theorem xor_u32 (a b : Nat) (ha : a < 4294967296) (hb : b < 4294967296) : bits .xor .u32 (a : Int) (b : Int) = ((a ^^^ b : Nat) : Int) := by
  have hx : a ^^^ b < 4294967296 := Nat.xor_lt_two_pow (n := 32) ha hb
  have e : ∀ x : Nat, x < 4294967296 → (BitVec.ofInt 32 (x : Int)).toNat = x := fun x h => by
    rw [BitVec.ofInt_natCast, BitVec.toNat_ofNat]
    exact Nat.mod_eq_of_lt h
  show IntKind.u32.wrap ((BitVec.ofInt 32 (a : Int) ^^^ BitVec.ofInt 32 (b : Int)).toNat : Int) = _
  rw [BitVec.toNat_xor, e a ha, e b hb]
  have hw : ∀ n : Int, IntKind.u32.wrap n = n % 4294967296 := fun n => by simp [IntKind.wrap, IntKind.bits, IntKind.signed]
  rw [hw]
  omega
/-- a step, as the program makes it -/
theorem step_u32 (m c : Nat) (hm : m < 4294967296) (hc : c < 256) : bits BinOp.xor IntKind.u32 (m : Int) ((c : Int) % 4294967296) * 16777619 % 4294967296 = (stepH m c : Nat) := by
  rw [show ((c : Int) % 4294967296) = (c : Int) by omega, xor_u32 m c hm (by omega)]
  obtain ⟨x, hx⟩ : ∃ x, x = m ^^^ c := ⟨_, rfl⟩
  have e : stepH m c = (x * 16777619) % 4294967296 := by rw [hx, stepH]
  rw [e, ← hx]
  omega
/-- one byte more of a text -/
theorem hash_take (s : ByteArray) (j : Nat) (h : j < s.size) : hashL ((byN s).take (j + 1)) = stepH (hashL ((byN s).take j)) s[j].toNat := by
  have hl : j < (byN s).length := by rw [byN_len]; exact h
  have e : (byN s)[j] = s[j].toNat := by simp [byN]; rfl
  rw [List.take_succ_eq_append_getElem hl, hashL_more, e]
theorem hash_all (s : ByteArray) (j : Nat) (h : ¬ j < s.size) : hashL ((byN s).take j) = hashL (byN s) := by
  rw [List.take_of_length_le (by rw [byN_len]; omega)]

set_option maxHeartbeats 4000000 in
theorem number_c (s : ByteArray) (w : World) (hs : s.size ≤ 9223372036854775807) :
    Calls Tryd.prog 97 #[.string s] w fun e w' => e = .returned (.int .i64 (hashL (byN s) : Nat)) ∧ w' = w := by
  obtain ⟨R, HR⟩ : ∃ R : Nat, Hid (hashL (byN s) = R) := ⟨_, rfl⟩
  rw [HR.out]
  go_enter Tryd.func97, Tryd.ntmps97
  go_wp2_with fail
  go_loopw [3, 7] (fun x i wr => ∃ (j : Nat) (m : Nat), j ≤ s.size ∧ i = .int .i64 j ∧ x = .int .u32 m ∧ m < 4294967296 ∧ wr = w ∧ Hid (m = hashL ((byN s).take j))) (fun _ i _ => s.size - (intOf i).toNat)
  case atStart => exact ⟨0, 2166136261, Nat.zero_le _, rfl, rfl, by omega, rfl, by rw [List.take_zero]; rfl⟩
  case round =>
    obtain ⟨j, m, hj, rfl, rfl, hm, rfl, HE⟩ := hrel
    by_cases hlt : j < s.size
    · go_wp2_with fail
      go_roundw
      case rel =>
        refine ⟨j + 1, stepH m s[j].toNat, by omega, by go_num, ?_, stepH_lt _ _, trivial, ?_⟩
        · rw [step_u32 m s[j].toNat hm (UInt8.toNat_lt _)]
        · show _ = _
          rw [hash_take s j hlt, ← HE.out]
      case measure => simp [intOf]; omega
    · go_wp2_with fail
      go_ret
      have e : m = R := by rw [HE.out, hash_all s j hlt]; exact HR.out
      exact ⟨by rw [← e]; rfl, rfl⟩
end Go.Proofs.YtpcnfoaoajfhlaaDoor

namespace Go.Proofs.YtpcnfoaoajfhlaaDoor
set_option linter.unusedVariables false
set_option linter.unusedSimpArgs false
open Go.RowKit

/-- the first k numbers as they are written -/
def wrP (l : List Int) : Nat → List UInt8
  | 0 => []
  | k + 1 => wrP l k ++ ((if 0 < k then [47] else []) ++ Lib.itoa (l.getD k 0))
/-- a row of numbers that a call has laid -/
def NumsAt (w : World) (v : Value) (l : List Int) : Prop := ∃ b o, v = .slice (some ⟨b, o, none⟩) l.length l.length ∧ b < w.heap.size ∧ ∀ j (h : j < l.length), w.cell? ⟨b, o + j, none⟩ = some (.int .i64 l[j])
theorem infoByte : (Tryd.prog.info? 5).map (fun i => (i.zero, i.size, i.bytes)) = some (some (.int .u8 0), 1, 1) := by kernel_rfl
theorem wrP_len (l : List Int) (hr : ∀ x ∈ l, -9223372036854775808 ≤ x ∧ x ≤ 9223372036854775807) : ∀ k, k ≤ l.length → (wrP l k).length ≤ 22 * k := by
  intro k
  induction k with
  | zero => intro _; exact Nat.le_refl _
  | succ k ih =>
    intro h
    have hm : l.getD k 0 ∈ l := by rw [List.getD_eq_getElem?_getD, List.getElem?_eq_getElem (by omega)]; exact List.getElem_mem _
    have := ih (by omega)
    have h1 := Lib.itoa_length_le (l.getD k 0) (hr _ hm).1 (hr _ hm).2
    rw [wrP, List.length_append, List.length_append]
    split <;> simp only [List.length_cons, List.length_nil] <;> omega
theorem itoa_pos (x : Int) : 0 < (Lib.itoa x).length := by
  have hd : ∀ u, 0 < (Lib.decDigits u).length := fun u => by
    rw [Lib.decDigits]
    split
    · exact Nat.zero_lt_one
    · rw [List.length_append]; exact Nat.succ_pos _
  unfold Lib.itoa
  split
  · exact Nat.succ_pos _
  · exact hd _
theorem wrP_pos (l : List Int) (k : Nat) (h : 0 < k) : 0 < (wrP l k).length := by
  obtain ⟨j, rfl⟩ : ∃ j, k = j + 1 := ⟨k - 1, by omega⟩
  have := itoa_pos (l.getD j 0)
  rw [wrP, List.length_append, List.length_append]
  omega

set_option maxHeartbeats 4000000 in
set_option maxRecDepth 100000 in
theorem written_c (v : Value) (l : List Int) (w : World) (hn : 0 < l.length) (hn3 : l.length ≤ 3) (hr : ∀ x ∈ l, -9223372036854775808 ≤ x ∧ x ≤ 9223372036854775807) (hI : NumsAt w v l)
    (hT : Lib.TabIs Tryd.prog w powName .u64 Lib.pow10Tab) :
    Calls Tryd.prog 98 #[v] w fun e w' => e = .returned (.string ⟨(wrP l l.length).toArray⟩) ∧ Below w.heap.size w w' := by
  obtain ⟨i0, hi, hz0, hz1, hz2⟩ := info_parts infoByte
  have HT : Hid (Lib.TabBelow Tryd.prog w.heap.size w powName .u64 Lib.pow10Tab) := Lib.tabBelow_of_tabIs hT
  clear hT
  obtain ⟨b, o, rfl, hb, hat⟩ := hI
  have HAt : Hid (∀ j (h : j < l.length), w.cell? ⟨b, o + j, none⟩ = some (.int .i64 l[j])) := hat
  have HR : Hid (∀ x ∈ l, -9223372036854775808 ≤ x ∧ x ≤ 9223372036854775807) := hr
  have HLen : Hid (∀ k, k ≤ l.length → (wrP l k).length ≤ 22 * k) := wrP_len l hr
  clear hat hr
  obtain ⟨n, HN⟩ : ∃ n, Hid (l.length = n) := ⟨_, rfl⟩
  simp only [HN.out] at hn hn3 ⊢
  go_enter Tryd.func98, Tryd.ntmps98
  go_wp2_with fail
  go_loopw [3, 8] (fun x i wr => ∃ (j : Nat) (sv : Value), j ≤ n ∧ i = .int .i64 j ∧ x = sv ∧ Hid (wr.ownsRow w.heap.size 5 1 sv (wrP l j).length (Lib.byteCells (wrP l j))) ∧ Hid (Below w.heap.size w wr)) (fun _ i _ => n - (intOf i).toNat)
  case atStart => exact ⟨0, _, Nat.zero_le _, rfl, rfl, World.ownsRow_nil _ _ _ _, Below.refl _ _⟩
  case round =>
    obtain ⟨j, sv, hj, rfl, hx, HO, HB⟩ := hrel
    have hx' := hx.symm
    subst hx'
    by_cases hlt : j < n
    · have hjl : j < l.length := by rw [HN.out]; exact hlt
      have c0 : wr.cell? ⟨b, o + j, none⟩ = some (.int .i64 l[j]) := (World.cell?_of_block (a := ⟨b, o + j, none⟩) (HB.out.block b hb)).trans (HAt.out j hjl)
      obtain ⟨x, HX⟩ : ∃ x, Hid (l[j] = x) := ⟨l[j], show l[j] = l[j] from rfl⟩
      have HXr : Hid (-9223372036854775808 ≤ x ∧ x ≤ 9223372036854775807) := by rw [← HX.out]; exact HR.out _ (List.getElem_mem _)
      rw [HX.out] at c0
      have hwl : (wrP l j).length ≤ 22 * j := HLen.out j (by omega)
      have hws := HB.out.size
      by_cases h0 : 0 < j
      · have h0i : (0 : Int) < (j : Int) := by omega
        go_upto_region 6 with fail
        go_wp2_with (at_builtin; refine wpList_append_own _ rfl _ _ 92 rfl w.heap.size 5 i0 (.int .u8 0) 1 1 Tryd.underlying92 hi hz0 hz1 hz2 rfl (by decide) _ _ _ rfl (HO.out.alloc _) ⟨wr.heap.size, 0, none⟩ 1 1 [Value.int .u8 47] rfl rfl (by intro j u' hj; match j, hj with | 0, hj => simp at hj; subst hj; simp [Addr.add]) (by intro u' hu'; simp at hu'; subst hu'; rfl) (by unfold maxLen; omega) (by omega) (by simp; omega) ?_)
        intro v2 w2 hown2 hgrow _
        have HB2 : Hid (Below w.heap.size w w2) := (HB.out.alloc (by omega) _).grown hgrow (by simp; omega) (fun k hk => (HO.out.lt k hk).1)
        have HO2 : Hid (w2.ownsRow w.heap.size 5 1 v2 (wrP l j ++ [47]).length (Lib.byteCells (wrP l j ++ [47]))) := by
          have e1 : (wrP l j ++ [47]).length = (wrP l j).length + 1 := by rw [List.length_append]; rfl
          have e2 : Lib.byteCells (wrP l j ++ [47]) = Lib.byteCells (wrP l j) ++ [Value.int .u8 47] := by simp [Lib.byteCells]
          rw [e1, e2]
          exact hown2
        clear hown2 hgrow
        have hw2 := HB2.out.size
        have hwl2 : (wrP l j ++ [47]).length ≤ 22 * j + 1 := by rw [List.length_append]; simpa using hwl
        have HE : Hid ((wrP l j ++ [47]) ++ Lib.itoa x = wrP l (j + 1)) := by
          show _ = _
          have hg : l.getD j 0 = x := by rw [List.getD_eq_getElem?_getD, List.getElem?_eq_getElem hjl]; exact HX.out
          rw [wrP, if_pos h0, hg, List.append_assoc]
        go_upto_region 7 with fail
        go_wp2_with (go_at_call 107; refine (appendInt_c w.heap.size _ x HXr.out.1 HXr.out.2 _ _ w2 HO2.out hw2 (by omega) (HT.out.on HB2.out)).mono ?_; rintro e w3 ⟨v3, rfl, hown3, hnx3, -⟩; refine Hid.out ?_)
        refine Lib.hid ?_
        have HB3 : Hid (Below w.heap.size w w3) := HB2.out.trans hnx3
        have HO3 : Hid (w3.ownsRow w.heap.size 5 1 v3 (wrP l (j + 1)).length (Lib.byteCells (wrP l (j + 1)))) := by
          show World.ownsRow _ _ _ _ _ _ _
          rw [← HE.out, List.length_append, Lib.byteCells_append]
          exact hown3
        clear hown3 hnx3
        go_wp2_with fail
        go_roundw
        case rel => exact ⟨j + 1, v3, by omega, by go_num, rfl, HO3.out, HB3.out⟩
        case measure => simp [intOf]; omega
      · go_upto_region 7 with fail
        have hw2 := HB.out.size
        go_wp2_with (go_at_call 107; refine (appendInt_c w.heap.size _ x HXr.out.1 HXr.out.2 _ _ wr HO.out hw2 (by omega) (HT.out.on HB.out)).mono ?_; rintro e w3 ⟨v3, rfl, hown3, hnx3, -⟩; refine Hid.out ?_)
        refine Lib.hid ?_
        have HB3 : Hid (Below w.heap.size w w3) := HB.out.trans hnx3
        have HE : Hid (wrP l j ++ Lib.itoa x = wrP l (j + 1)) := by
          show _ = _
          have hg : l.getD j 0 = x := by rw [List.getD_eq_getElem?_getD, List.getElem?_eq_getElem hjl]; exact HX.out
          rw [wrP, if_neg h0, hg, List.nil_append]
        have HO3 : Hid (w3.ownsRow w.heap.size 5 1 v3 (wrP l (j + 1)).length (Lib.byteCells (wrP l (j + 1)))) := by
          show World.ownsRow _ _ _ _ _ _ _
          rw [← HE.out, List.length_append, Lib.byteCells_append]
          exact hown3
        clear hown3 hnx3
        go_wp2_with fail
        go_roundw
        case rel => exact ⟨j + 1, v3, by omega, by go_num, rfl, HO3.out, HB3.out⟩
        case measure => simp [intOf]; omega
    · obtain rfl : j = n := by omega
      have hpos : 0 < (wrP l j).length := wrP_pos l j hn
      obtain ⟨L, HL⟩ : ∃ L, Hid (wrP l j = L) := ⟨_, rfl⟩
      rw [HL.out] at hpos HO
      have HO' := HO.out
      rcases HO'.2 with ⟨-, h0⟩ | ⟨g, cap, cur, rfl, -, -, -, -, -, -⟩
      · omega
      · have hcv := run_convert_bytes_back (P := Tryd.prog) wr 92 9 5 ⟨g, 0, none⟩ cap L Tryd.underlying92 Tryd.underlying5 Tryd.underlying9 (fun j hj => HO'.cells (g := g) rfl j _ (by simp [Lib.byteCells, hj]))
        clear HO' HO
        go_wp2
        go_ret
        exact ⟨by rw [HL.out]; rfl, HB.out⟩
end Go.Proofs.YtpcnfoaoajfhlaaDoor
