/-
  A mesh on lists: what its caches have was so; what put, delete, get and swap leave of it.
  A mesh behind a pointer: its store, and a row of caches; all of it lies in S.
  Package mesh by its contracts: isNode, isKey, Seq, At, Cache.
  Package mesh by its contracts: learn.
  Package mesh by its contracts: change, over whatever deed is handed to it; Put, Delete.
  Package mesh by its contracts: New, Get.
  Package mesh by its contracts: Get.
  What a mesh tells, on lists: what was put is told; what is told is not older; between its version and its time an entry is the same.
  A mesh's Swap: on lists, and by its contract.
-/
import Derived.Test.YtliaidgedjjobaaDoorGa
import Derived.Test.YtliaidgedjjobaaDoorCaJ
import Derived.Test.YtliaidgedjjobaaDoorFrG
import Derived.Test.YtliaidgedjjobaaDoorCaA
import Derived.BigRegion
import Derived.BigQuiet
import Derived.Deep.RegionHeld3
import Derived.Shelf.Abstract
import Derived.Test.YtliaidgedjjobaaDoorGb
import Derived.Deep.DeepCutAuto
namespace Go.Proofs.YtliaidgedjjobaaDoor
set_option linter.unusedVariables false
set_option linter.unusedSimpArgs false
set_option linter.unusedVariables false
set_option linter.unusedSimpArgs false
open Go.RowKit

/-- what the store tells of a key at a number -/
def wasE (l : List Deed) (k : Int) (s : Nat) : En := ⟨k, (lastOf (l.take s) k).ver, s, (lastOf (l.take s) k).gone, (lastOf (l.take s) k).text⟩
/-- it was so -/
def Was (l : List Deed) (x : En) : Prop := stK x.k = true ∧ ∃ s : Nat, s ≤ l.length ∧ x = wasE l x.k s
theorem was_mk {l : List Deed} {k : Int} {s : Nat} (hk : stK k = true) (hs : s ≤ l.length) : Was l (wasE l k s) := ⟨hk, s, hs, rfl⟩
theorem wasE_bad {l : List Deed} {k : Int} {s : Nat} (hl : Good l) (h1 : l.length ≤ 1000) (hk : stK k = true) (hs : s ≤ l.length) : (wasE l k s).bad = 0 := by
  have hv := lastOf_take_ver l k s
  obtain ⟨hg1, hg2⟩ := lastOf_good k (l.take s) (good_take l hl s)
  rw [stK_iff] at hk
  unfold En.bad wasE
  refine bad_none ?_ (by dsimp only; omega) ?_
  · simp [inR]
    omega
  · dsimp only
    cases hg : (lastOf (l.take s) k).gone
    · rfl
    · rw [hg2 hg, ByteArray.toList_eq]
      rfl
theorem Was.bad {l : List Deed} {x : En} (h : Was l x) (hl : Good l) (h1 : l.length ≤ 1000) : x.bad = 0 := by
  obtain ⟨hk, s, hs, he⟩ := h
  rw [he]
  exact wasE_bad hl h1 hk hs
theorem wasE_later {l m : List Deed} {k : Int} {s : Nat} (hs : s ≤ l.length) : wasE (l ++ m) k s = wasE l k s := by
  unfold wasE
  rw [lastOf_later l m k s hs]
theorem Was.later {l : List Deed} {x : En} (h : Was l x) (m : List Deed) : Was (l ++ m) x := by
  obtain ⟨hk, s, hs, he⟩ := h
  exact ⟨hk, s, by rw [List.length_append]; omega, by rw [wasE_later hs]; exact he⟩
theorem was_known {l : List Deed} (k : Int) {s q : Nat} (hq : q ≤ l.length) (h : s ≤ q) : Known (wasE l k s) (wasE l k q) (wasE l k q) := by
  refine ⟨rfl, ?_⟩
  by_cases hv : (lastOf (l.take q) k).ver ≤ s
  · have e := lastOf_between l k q s hq hv h
    refine .inr (.inl ⟨?_, ?_, ?_, ?_, rfl⟩)
    · show (lastOf (l.take s) k).ver = _; rw [e]; rfl
    · show (lastOf (l.take s) k).gone = _; rw [e]; rfl
    · show (lastOf (l.take s) k).text = _; rw [e]; rfl
    · show (s : Int) ≤ (q : Int); omega
  · have hs := lastOf_take_ver l k s
    refine .inr (.inr (.inr ⟨?_, ?_, rfl⟩))
    · show (lastOf (l.take s) k).ver < (lastOf (l.take q) k).ver; omega
    · show (s : Int) < (lastOf (l.take q) k).ver; omega
/-- two that were so do not clash -/
theorem was_join {l : List Deed} {x y : En} (hl : Good l) (h1 : l.length ≤ 1000) (hx : Was l x) (hy : Was l y) (hk : x.k = y.k) : ∃ z, joinE x y = (z, 0) ∧ Was l z ∧ (z = x ∨ z = y) ∧ x.a ≤ z.a ∧ y.a ≤ z.a := by
  have bx := hx.bad hl h1
  have bY := hy.bad hl h1
  have hx' := hx
  have hy' := hy
  obtain ⟨_, s, hs, ex⟩ := hx
  obtain ⟨_, q, hq, ey⟩ := hy
  rw [← hk] at ey
  rcases Nat.le_total s q with h | h
  · have K := was_known (l := l) x.k hq h
    rw [← ex, ← ey] at K
    refine ⟨y, joinE_iff.2 ⟨bx, bY, K⟩, hy', .inr rfl, ?_, Int.le_refl _⟩
    rw [ex, ey]
    show (s : Int) ≤ (q : Int)
    omega
  · have K := was_known (l := l) x.k hs h
    rw [← ex, ← ey] at K
    have K2 : Known x y x := K.comm
    refine ⟨x, joinE_iff.2 ⟨bx, bY, K2⟩, hx', .inl rfl, Int.le_refl _, ?_⟩
    rw [ex, ey]
    show (q : Int) ≤ (s : Int)
    omega
/-- a cache of what was so -/
structure GoodC (l : List Deed) (c : List En) : Prop where
  good : GoodL c
  was : ∀ x ∈ c, Was l x
theorem goodC_nil (l : List Deed) : GoodC l [] := ⟨goodL_nil, by simp⟩
theorem GoodC.later {l : List Deed} {c : List En} (h : GoodC l c) (m : List Deed) : GoodC (l ++ m) c := ⟨h.good, fun x hx => (h.was x hx).later m⟩
theorem put_was {l : List Deed} {c : List En} {e : En} (hl : Good l) (h1 : l.length ≤ 1000) (hc : GoodC l c) (he : Was l e) : (putE c e).2.2 = 0 ∧ GoodC l (putE c e).1 ∧ ∃ z, getE (putE c e).1 e.k = some z ∧ e.a ≤ z.a := by
  have be := he.bad hl h1
  have h0 : (putE c e).2.2 = 0 ∧ ∃ z, (match getE c e.k with | none => some e | some a => some (joinE a e).1) = some z ∧ Was l z ∧ e.a ≤ z.a := by
    unfold putE
    cases hg : getE c e.k with
    | none => exact ⟨rfl, e, rfl, he, Int.le_refl _⟩
    | some a =>
      have ha := (getE_iff hc.good.rise).1 hg
      obtain ⟨z, hz, hw, _, _, hle⟩ := was_join hl h1 (hc.was a ha.1) he ha.2
      refine ⟨by simp [hz], z, by simp [hz], hw, hle⟩
  obtain ⟨hz, z, hm, hw, hle⟩ := h0
  have hg' := putE_good hc.good be hz
  have hget := getE_put hc.good be hz
  refine ⟨hz, ⟨hg', fun x hx => ?_⟩, z, ?_, hle⟩
  · have hx' : getE (putE c e).1 x.k = some x := (getE_iff hg'.rise).2 ⟨hx, rfl⟩
    rw [hget] at hx'
    split at hx'
    · exact Option.some.inj (hm.symm.trans hx') ▸ hw
    · exact hc.was x ((getE_iff hc.good.rise).1 hx').1
  · rw [hget, if_pos rfl]
    exact hm
theorem all_was {l : List Deed} {c b : List En} (hl : Good l) (h1 : l.length ≤ 1000) (hc : GoodC l c) (hb : ∀ e ∈ b, Was l e) : ∃ x, allE c b = (x, 0) ∧ GoodC l x := by
  induction b generalizing c with
  | nil => exact ⟨c, rfl, hc⟩
  | cons e b ih =>
    obtain ⟨p1, p2, _⟩ := put_was hl h1 hc (hb e List.mem_cons_self)
    rw [allE, if_neg (by simpa using p1)]
    exact ih p2 (fun x hx => hb x (List.mem_cons_of_mem _ hx))
/-- all that a mesh has was so -/
structure GoodM (l : List Deed) (cs : List (List En)) : Prop where
  good : Good l
  len : l.length ≤ 1000
  all : ∀ c ∈ cs, GoodC l c
theorem goodM_new (n : Nat) : GoodM [] (List.replicate n []) := ⟨by intro d hd; simp at hd, by simp, fun c hc => by rw [List.eq_of_mem_replicate hc]; exact goodC_nil _⟩
def cacheN (cs : List (List En)) (node : Int) : List En := cs.getD node.toNat []
theorem GoodM.at {l : List Deed} {cs : List (List En)} (h : GoodM l cs) (node : Int) : GoodC l (cacheN cs node) := by
  unfold cacheN
  rw [List.getD_eq_getElem?_getD]
  cases hq : cs[node.toNat]? with
  | none => exact goodC_nil _
  | some c => exact h.all c (List.mem_of_getElem? hq)
theorem GoodM.set {l : List Deed} {cs : List (List En)} (h : GoodM l cs) (n : Nat) {c : List En} (hc : GoodC l c) : GoodM l (cs.set n c) :=
  ⟨h.good, h.len, fun x hx => by
    rcases List.mem_or_eq_of_mem_set hx with h' | h'
    · exact h.all x h'
    · rw [h']; exact hc⟩
theorem GoodM.later {l : List Deed} {cs : List (List En)} (h : GoodM l cs) {m : List Deed} (hg : Good (l ++ m)) (h1 : (l ++ m).length ≤ 1000) : GoodM (l ++ m) cs :=
  ⟨hg, h1, fun c hc => (h.all c hc).later m⟩

def nodeB (n : Nat) (node : Int) : Bool := decide (0 ≤ node) && decide (node < n)
theorem nodeB_iff {n : Nat} {node : Int} : nodeB n node = true ↔ 0 ≤ node ∧ node < n := by simp [nodeB]
/-- what a node's cache has when it has heard of a key -/
def learnC (l : List Deed) (c : List En) (key : Int) : List En := (putE c (wasE l key l.length)).1
def learnM (l : List Deed) (cs : List (List En)) (node key : Int) : List (List En) := cs.set node.toNat (learnC l (cacheN cs node) key)
/-- what put and delete leave -/
structure MOut where
  done : List Deed
  cs : List (List En)
  num : Int
  err : Int
def mDone (o : Out) (l : List Deed) (cs : List (List En)) (node key : Int) : MOut :=
  if nodeB cs.length node = false then ⟨l, cs, 0, 1⟩ else if o.err ≠ 0 then ⟨l, cs, 0, o.err⟩ else ⟨o.done, learnM o.done cs node key, o.num, 0⟩
def mPut (l : List Deed) (cs : List (List En)) (node key : Int) (t : ByteArray) : MOut := mDone (putO l key t) l cs node key
def mDel (l : List Deed) (cs : List (List En)) (node key : Int) : MOut := mDone (delO l key) l cs node key
theorem rec_fine {l : List Deed} {k : Int} {g : Bool} {t : ByteArray} (h : (recO l k g t).err = 0) : l.length < 1000 ∧ recO l k g t = ⟨l ++ [⟨k, g, t⟩], (l.length : Int) + 1, 0⟩ := by
  unfold recO at h ⊢
  split at h
  · cases h
  · rename_i hn
    exact ⟨by omega, by rw [if_neg hn]⟩
theorem put_fine {l : List Deed} {k : Int} {t : ByteArray} (h : (putO l k t).err = 0) : stK k = true ∧ t.size ≤ 12 ∧ l.length < 1000 ∧ putO l k t = ⟨l ++ [⟨k, false, t⟩], (l.length : Int) + 1, 0⟩ := by
  unfold putO at h ⊢
  split at h
  · cases h
  · rename_i hk
    split at h
    · cases h
    · rename_i h12
      rw [if_neg hk, if_neg h12]
      obtain ⟨h1, h2⟩ := rec_fine h
      exact ⟨by simpa using hk, by omega, h1, h2⟩
theorem del_fine {l : List Deed} {k : Int} (h : (delO l k).err = 0) : stK k = true ∧ l.length < 1000 ∧ delO l k = ⟨l ++ [⟨k, true, ByteArray.empty⟩], (l.length : Int) + 1, 0⟩ := by
  unfold delO at h ⊢
  split at h
  · cases h
  · rename_i hk
    split at h
    · cases h
    · rename_i hg
      rw [if_neg hk, if_neg hg]
      obtain ⟨h1, h2⟩ := rec_fine h
      exact ⟨by simpa using hk, h1, h2⟩
theorem learnC_good {l : List Deed} {c : List En} {key : Int} (hl : Good l) (h1 : l.length ≤ 1000) (hc : GoodC l c) (hk : stK key = true) : GoodC l (learnC l c key) := (put_was hl h1 hc (was_mk hk (Nat.le_refl _))).2.1
theorem learnC_add {l : List Deed} {c : List En} {key : Int} (hl : Good l) (h1 : l.length ≤ 1000) (hc : GoodC l c) (hk : stK key = true) : ∃ b, cacheAdd c (wasE l key l.length) = (learnC l c key, b, 0) := by
  have hw := was_mk hk (Nat.le_refl l.length)
  refine ⟨(putE c (wasE l key l.length)).2.1, ?_⟩
  rw [cacheAdd, if_neg (by simpa using hc.good.bad), if_neg (by simpa using hw.bad hl h1)]
  exact Prod.ext rfl (Prod.ext rfl (put_was hl h1 hc hw).1)
theorem GoodM.learn {l : List Deed} {cs : List (List En)} (h : GoodM l cs) (node : Int) {key : Int} (hk : stK key = true) : GoodM l (learnM l cs node key) :=
  h.set _ (learnC_good h.good h.len (h.at node) hk)
theorem mPut_good {l : List Deed} {cs : List (List En)} (h : GoodM l cs) (node key : Int) (t : ByteArray) : GoodM (mPut l cs node key t).done (mPut l cs node key t).cs := by
  unfold mPut mDone
  split
  · exact h
  · split
    · exact h
    · rename_i h0
      have h0 : (putO l key t).err = 0 := by simpa using h0
      obtain ⟨h1, h2, h3, h4⟩ := put_fine h0
      have hg := good_put l key t h.good
      rw [h4] at hg ⊢
      exact (h.later hg (by simp; omega)).learn node h1
theorem mDel_good {l : List Deed} {cs : List (List En)} (h : GoodM l cs) (node key : Int) : GoodM (mDel l cs node key).done (mDel l cs node key).cs := by
  unfold mDel mDone
  split
  · exact h
  · split
    · exact h
    · rename_i h0
      have h0 : (delO l key).err = 0 := by simpa using h0
      obtain ⟨h1, h3, h4⟩ := del_fine h0
      have hg := good_del l key h.good
      rw [h4] at hg ⊢
      exact (h.later hg (by simp; omega)).learn node h1
theorem learnM_len (l : List Deed) (cs : List (List En)) (node key : Int) : (learnM l cs node key).length = cs.length := by simp [learnM]
theorem mDone_len (o : Out) (l : List Deed) (cs : List (List En)) (node key : Int) : (mDone o l cs node key).cs.length = cs.length := by
  unfold mDone
  split
  · rfl
  · split
    · rfl
    · exact learnM_len _ _ _ _
/-- what get leaves: the caches, the entry, was it of the cache, the fault -/
def mGet (l : List Deed) (cs : List (List En)) (node key floor : Int) : List (List En) × En × Bool × Int :=
  if nodeB cs.length node = false ∨ stK key = false ∨ floor < 0 ∨ (l.length : Int) < floor then (cs, ⟨0, 0, 0, false, ⟨#[]⟩⟩, false, 1)
  else match getE (cacheN cs node) key with
    | some x => if floor ≤ x.a then (cs, x, true, 0) else (learnM l cs node key, wasE l key l.length, false, 0)
    | none => (learnM l cs node key, wasE l key l.length, false, 0)
theorem mGet_good {l : List Deed} {cs : List (List En)} (h : GoodM l cs) (node key floor : Int) : GoodM l (mGet l cs node key floor).1 := by
  unfold mGet
  split
  · exact h
  · rename_i hn
    have hk : stK key = true := by
      cases e : stK key
      · exact absurd (.inr (.inl e)) hn
      · rfl
    split
    · split
      · exact h
      · exact h.learn node hk
    · exact h.learn node hk
theorem mGet_len (l : List Deed) (cs : List (List En)) (node key floor : Int) : (mGet l cs node key floor).1.length = cs.length := by
  unfold mGet
  split
  · rfl
  · split
    · split
      · rfl
      · exact learnM_len _ _ _ _
    · exact learnM_len _ _ _ _
end Go.Proofs.YtliaidgedjjobaaDoor

namespace Go.Proofs.YtliaidgedjjobaaDoor
set_option linter.unusedVariables false
set_option linter.unusedSimpArgs false
open Go.RowKit

/-- a mesh at m: its store at b (in F), the row of its caches at c -/
structure Mc (S F : Nat → Prop) (w : World) (m b c : Nat) (l : List Deed) (cs : List (List En)) : Prop where
  c0 : w.cell? ⟨m, 0, none⟩ = some (.pointer (some ⟨b, 0, none⟩))
  c1 : w.cell? ⟨m, 1, none⟩ = some (.slice (some ⟨c, 0, none⟩) cs.length cs.length)
  len : cs.length ≤ 6
  fz : ∀ j, w.frozen? ⟨c, j, none⟩ = false
  mc : m ≠ c
  sm : S m
  sc : S c
  st : StoreIs w b l F
  sF : ∀ x, F x → S x ∧ x ≠ m ∧ x ≠ c
  rows : ∀ j (h : j < cs.length), ∃ v, w.cell? ⟨c, j, none⟩ = some v ∧ RowIs w v cs[j] ∧ ∀ g, v.ownBlock = some g → S g ∧ ¬ F g ∧ g ≠ m ∧ g ≠ c
  lt : ∀ x, S x → x < w.heap.size
theorem Mc.blocks {S F : Nat → Prop} {w w' : World} {m b c : Nat} {l : List Deed} {cs : List (List En)} (h : Mc S F w m b c l cs) (hs : w.heap.size ≤ w'.heap.size) (hb : ∀ x, S x → w'.heap[x]? = w.heap[x]?) : Mc S F w' m b c l cs :=
  ⟨(World.cell?_of_block (a := ⟨m, 0, none⟩) (hb m h.sm)).trans h.c0, (World.cell?_of_block (a := ⟨m, 1, none⟩) (hb m h.sm)).trans h.c1, h.len, fun j => (World.frozen?_of_block (a := ⟨c, j, none⟩) (hb c h.sc)).trans (h.fz j), h.mc, h.sm, h.sc,
   h.st.blocks hs (fun x hx => hb x (h.sF x hx).1), h.sF, fun j hj => by
    obtain ⟨v, h1, h2, h3⟩ := h.rows j hj
    exact ⟨v, (World.cell?_of_block (a := ⟨c, j, none⟩) (hb c h.sc)).trans h1, h2.blocks hs (fun g hg _ => hb g (h3 g hg).1), h3⟩, fun x hx => Nat.lt_of_lt_of_le (h.lt x hx) hs⟩
/-- the store has turned -/
theorem Mc.store {S F F' : Nat → Prop} {w w' : World} {m b c : Nat} {l l' : List Deed} {cs : List (List En)} (h : Mc S F w m b c l cs) (hs : StoreIs w' b l' F') (hF : ∀ x, F' x → F x ∨ w.heap.size ≤ x) (hk : Kept F w w') : Mc (fun x => S x ∨ F' x) F' w' m b c l' cs := by
  have hm : w'.heap[m]? = w.heap[m]? := hk.block m (h.lt m h.sm) (fun hf => (h.sF m hf).2.1 rfl)
  have hc : w'.heap[c]? = w.heap[c]? := hk.block c (h.lt c h.sc) (fun hf => (h.sF c hf).2.2 rfl)
  have hn : ∀ x, F' x → x ≠ m ∧ x ≠ c := fun x hx => by
    rcases hF x hx with hf | hf
    · exact (h.sF x hf).2
    · have h1 := h.lt m h.sm
      have h2 := h.lt c h.sc
      omega
  refine ⟨(World.cell?_of_block (a := ⟨m, 0, none⟩) hm).trans h.c0, (World.cell?_of_block (a := ⟨m, 1, none⟩) hm).trans h.c1, h.len, fun j => (World.frozen?_of_block (a := ⟨c, j, none⟩) hc).trans (h.fz j), h.mc, .inl h.sm, .inl h.sc, hs, fun x hx => ⟨.inr hx, hn x hx⟩, fun j hj => ?_, fun x hx => ?_⟩
  · obtain ⟨v, h1, h2, h3⟩ := h.rows j hj
    refine ⟨v, (World.cell?_of_block (a := ⟨c, j, none⟩) hc).trans h1, h2.blocks hk.size (fun g hg hl => hk.block g hl (h3 g hg).2.1), fun g hg => ?_⟩
    obtain ⟨g1, g2, g3⟩ := h3 g hg
    refine ⟨.inl g1, fun hf => ?_, g3⟩
    rcases hF g hf with h' | h'
    · exact g2 h'
    · have := h.lt g g1
      omega
  · rcases hx with hx | hx
    · exact Nat.lt_of_lt_of_le (h.lt x hx) hk.size
    · exact hs.2.2.2.2.1 x hx
/-- a node's cache has turned -/
theorem Mc.row {S F : Nat → Prop} {w : World} {m b c : Nat} {l : List Deed} {cs : List (List En)} (h : Mc S F w m b c l cs) (i : Nat) (hi : i < cs.length) {v : Value} {x : List En} (hv : RowIs w v x) (hg : ∀ g, v.ownBlock = some g → (¬ F g ∧ g ≠ m ∧ g ≠ c) ∧ g < w.heap.size) :
    Mc (fun y => S y ∨ v.ownBlock = some y) F (w.setCell ⟨c, i, none⟩ v) m b c l (cs.set i x) := by
  have hb : ∀ y, y ≠ c → (w.setCell ⟨c, i, none⟩ v).heap[y]? = w.heap[y]? := fun y hy => Below.heap_setCell _ _ _ y hy
  have hsz : (w.setCell ⟨c, i, none⟩ v).heap.size = w.heap.size := World.size_setCell _ _ _
  have hvc : ∀ g, v.ownBlock = some g → g ≠ c := fun g hgg => (hg g hgg).1.2.2
  refine ⟨(World.cell?_of_block (a := ⟨m, 0, none⟩) (hb m h.mc)).trans h.c0, by rw [List.length_set]; exact (World.cell?_of_block (a := ⟨m, 1, none⟩) (hb m h.mc)).trans h.c1, by rw [List.length_set]; exact h.len, fun j => by rw [World.frozen?_setCell]; exact h.fz j, h.mc, .inl h.sm, .inl h.sc,
    h.st.blocks (by rw [hsz]; exact Nat.le_refl _) (fun y hy => hb y (h.sF y hy).2.2), fun y hy => ⟨.inl (h.sF y hy).1, (h.sF y hy).2⟩, fun j hj => ?_, fun y hy => by
      rw [hsz]
      rcases hy with hy | hy
      · exact h.lt y hy
      · exact (hg y hy).2⟩
  rw [List.length_set] at hj
  obtain ⟨u, h1, h2, h3⟩ := h.rows j hj
  rw [List.getElem_set]
  by_cases hij : i = j
  · subst hij
    rw [if_pos rfl]
    refine ⟨v, World.cell?_setCell_same _ _ _ h1, hv.blocks (by rw [hsz]; exact Nat.le_refl _) (fun g hgg _ => hb g (hvc g hgg)), fun g hgg => ⟨.inr hgg, (hg g hgg).1⟩⟩
  · rw [if_neg hij]
    refine ⟨u, (World.cell?_setCell_other _ _ _ _ (by simp <;> omega)).trans h1, h2.blocks (by rw [hsz]; exact Nat.le_refl _) (fun g hgg _ => hb g (h3 g hgg).2.2.2), fun g hgg => ⟨.inl (h3 g hgg).1, (h3 g hgg).2⟩⟩

/-- what S does not hold may be a row's block -/
theorem Mc.out {S F : Nat → Prop} {w : World} {m b c : Nat} {l : List Deed} {cs : List (List En)} (h : Mc S F w m b c l cs) {g : Nat} (hg : ¬ S g) : ¬ F g ∧ g ≠ m ∧ g ≠ c :=
  ⟨fun hf => hg (h.sF g hf).1, fun e => hg (by rw [e]; exact h.sm), fun e => hg (by rw [e]; exact h.sc)⟩
def MeshAt (S : Nat → Prop) (w : World) (m : Nat) (l : List Deed) (cs : List (List En)) : Prop := ∃ F b c, Mc S F w m b c l cs
/-- behind a call: nothing old but what is in S has turned -/
def MeshTo (S : Nat → Prop) (w w' : World) (m : Nat) (l : List Deed) (cs : List (List En)) : Prop := Kept S w w' ∧ ∃ S', MeshAt S' w' m l cs ∧ ∀ x, S' x → S x ∨ w.heap.size ≤ x
theorem MeshAt.lt {S : Nat → Prop} {w : World} {m : Nat} {l : List Deed} {cs : List (List En)} (h : MeshAt S w m l cs) : ∀ x, S x → x < w.heap.size := by
  obtain ⟨F, b, c, h⟩ := h
  exact h.lt
theorem MeshAt.len {S : Nat → Prop} {w : World} {m : Nat} {l : List Deed} {cs : List (List En)} (h : MeshAt S w m l cs) : cs.length ≤ 6 := by
  obtain ⟨F, b, c, h⟩ := h
  exact h.len
theorem MeshAt.blocks {S : Nat → Prop} {w w' : World} {m : Nat} {l : List Deed} {cs : List (List En)} (h : MeshAt S w m l cs) (hs : w.heap.size ≤ w'.heap.size) (hb : ∀ x, S x → w'.heap[x]? = w.heap[x]?) : MeshAt S w' m l cs := by
  obtain ⟨F, b, c, h⟩ := h
  exact ⟨F, b, c, h.blocks hs hb⟩
theorem MeshAt.grown {S : Nat → Prop} {w w' : World} {m : Nat} {l : List Deed} {cs : List (List En)} (h : MeshAt S w m l cs) (hb : Below w.heap.size w w') : MeshAt S w' m l cs := h.blocks hb.size (fun x hx => hb.block x (h.lt x hx))
theorem MeshAt.to {S : Nat → Prop} {w w' : World} {m : Nat} {l : List Deed} {cs : List (List En)} (h : MeshAt S w m l cs) (hb : Below w.heap.size w w') : MeshTo S w w' m l cs := ⟨Kept.of_below hb, S, h.grown hb, fun _ hx => .inl hx⟩
theorem MeshTo.after {S : Nat → Prop} {w w1 w' : World} {m : Nat} {l : List Deed} {cs : List (List En)} (hb : Below w.heap.size w w1) (h : MeshTo S w1 w' m l cs) : MeshTo S w w' m l cs := by
  obtain ⟨hk, S', h1, h2⟩ := h
  have hs := hb.size
  refine ⟨(Kept.of_below (F := S) hb).trans hk (fun _ _ h => h), S', h1, fun x hx => ?_⟩
  rcases h2 x hx with h | h
  · exact .inl h
  · exact .inr (by omega)
/-- a mesh at m, apart from the blocks in P; nothing older than N has turned -/
structure Mh (P : Nat → Prop) (N : Nat) (w0 wc : World) (m : Nat) (l : List Deed) (cs : List (List En)) : Prop where
  s : ∃ S, MeshAt S wc m l cs ∧ ∀ c, S c → N ≤ c ∧ ¬ P c
  bel : Below N w0 wc
  hN : N ≤ wc.heap.size
  hP : ∀ c, P c → c < wc.heap.size
theorem Mh.grown {P : Nat → Prop} {N : Nat} {w0 wc w' : World} {m : Nat} {l : List Deed} {cs : List (List En)} (h : Mh P N w0 wc m l cs) (hb : Below wc.heap.size wc w') : Mh P N w0 w' m l cs := by
  obtain ⟨S, h1, h2⟩ := h.s
  exact ⟨⟨S, h1.grown hb, h2⟩, h.bel.trans (hb.mono h.hN), Nat.le_trans h.hN hb.size, fun c hc => Nat.lt_of_lt_of_le (h.hP c hc) hb.size⟩
theorem Mh.less {P P' : Nat → Prop} {N : Nat} {w0 wc : World} {m : Nat} {l : List Deed} {cs : List (List En)} (h : Mh P N w0 wc m l cs) (hp : ∀ c, P' c → P c) : Mh P' N w0 wc m l cs := by
  obtain ⟨S, h1, h2⟩ := h.s
  exact ⟨⟨S, h1, fun c hc => ⟨(h2 c hc).1, fun h' => (h2 c hc).2 (hp c h')⟩⟩, h.bel, h.hN, fun c hc => h.hP c (hp c hc)⟩
/-- a new block is not its own -/
theorem Mh.more {P P' : Nat → Prop} {N : Nat} {w0 wc w' : World} {m : Nat} {l : List Deed} {cs : List (List En)} (h : Mh P N w0 wc m l cs) (hb : Below wc.heap.size wc w') (hp : ∀ c, P' c → P c ∨ wc.heap.size ≤ c) (hl : ∀ c, P' c → c < w'.heap.size) : Mh P' N w0 w' m l cs := by
  obtain ⟨S, h1, h2⟩ := h.s
  refine ⟨⟨S, h1.grown hb, fun c hc => ⟨(h2 c hc).1, fun h' => ?_⟩⟩, h.bel.trans (hb.mono h.hN), Nat.le_trans h.hN hb.size, hl⟩
  rcases hp c h' with h' | h'
  · exact (h2 c hc).2 h'
  · have := h1.lt c hc
    omega
theorem Mh.call {P : Nat → Prop} {N : Nat} {w0 wc : World} {m : Nat} {l : List Deed} {cs : List (List En)} (h : Mh P N w0 wc m l cs) :
    ∃ S, MeshAt S wc m l cs ∧ ∀ w' l' cs', MeshTo S wc w' m l' cs' → Mh P N w0 w' m l' cs' ∧ (∀ c, P c → w'.heap[c]? = wc.heap[c]?) ∧ wc.heap.size ≤ w'.heap.size := by
  obtain ⟨S, h1, h2⟩ := h.s
  refine ⟨S, h1, fun w' l' cs' ht => ?_⟩
  obtain ⟨ht, S', g1, g2⟩ := ht
  have hN := h.hN
  refine ⟨⟨⟨S', g1, fun c hc => ?_⟩, h.bel.trans (ht.below h.hN (fun c hc => (h2 c hc).1)), Nat.le_trans h.hN ht.size, fun c hc => Nat.lt_of_lt_of_le (h.hP c hc) ht.size⟩, fun c hc => ht.block c (h.hP c hc) (fun h' => (h2 c h').2 hc), ht.size⟩
  rcases g2 c hc with h' | h'
  · exact h2 c h'
  · refine ⟨by omega, fun hp => ?_⟩
    have := h.hP c hp
    omega
/-- a store into a block of P -/
theorem Mh.set {P : Nat → Prop} {N : Nat} {w0 wc : World} {m : Nat} {l : List Deed} {cs : List (List En)} (h : Mh P N w0 wc m l cs) (A k : Nat) (hA : P A) (hAN : N ≤ A) (u : Value) : Mh P N w0 (wc.setCell ⟨A, k, none⟩ u) m l cs := by
  obtain ⟨S, h1, h2⟩ := h.s
  have hb : ∀ c, c ≠ A → (wc.setCell ⟨A, k, none⟩ u).heap[c]? = wc.heap[c]? := fun c hc => Below.heap_setCell _ _ _ c hc
  refine ⟨⟨S, h1.blocks (by rw [World.size_setCell]; exact Nat.le_refl _) (fun c hc => hb c (fun e => (h2 c hc).2 (by rw [e]; exact hA))), h2⟩, ?_, by rw [World.size_setCell]; exact h.hN, fun c hc => by rw [World.size_setCell]; exact h.hP c hc⟩
  exact h.bel.trans ⟨rfl, rfl, rfl, by rw [World.size_setCell]; exact Nat.le_refl _, fun c hc => hb c (by omega)⟩
end Go.Proofs.YtliaidgedjjobaaDoor

namespace Go.Proofs.YtliaidgedjjobaaDoor
set_option linter.unusedVariables false
set_option linter.unusedSimpArgs false
open Go.RowKit

theorem isNode_c (m c : Nat) (n : Nat) (node : Int) (w : World) (c1 : w.cell? ⟨m, 1, none⟩ = some (.slice (some ⟨c, 0, none⟩) n n)) :
    Calls Tryd.prog 47 #[.pointer (some ⟨m, 0, none⟩), .int .i64 node] w fun e w' => e = .returned (.bool (nodeB n node)) ∧ w' = w := by
  by_cases h : 0 ≤ node
  · have hd : decide (0 ≤ node) = true := by simpa using h
    go_enter Tryd.func47, Tryd.ntmps47
    go_wp2
    go_ret
    exact ⟨by simp [nodeB, h], rfl⟩
  · have hd : decide (0 ≤ node) = false := by simpa using h
    go_enter Tryd.func47, Tryd.ntmps47
    go_wp2
    go_ret
    refine ⟨?_, rfl⟩
    have h' : ¬ 0 ≤ node := by omega
    simp [nodeB, h']
theorem isNode_b {m c n : Nat} {node : Int} {b : Bool} (h : nodeB n node = b) (w : World) (c1 : w.cell? ⟨m, 1, none⟩ = some (.slice (some ⟨c, 0, none⟩) n n)) :
    Calls Tryd.prog 47 #[.pointer (some ⟨m, 0, none⟩), .int .i64 node] w fun e w' => e = .returned (.bool b) ∧ w' = w := by
  subst h
  exact isNode_c m c n node w c1
theorem mKey_c (k : Int) (w : World) : Calls Tryd.prog 48 #[.int .i64 k] w fun e w' => e = .returned (.bool (stK k)) ∧ w' = w := by
  by_cases h : 0 ≤ k
  · have hd : decide (0 ≤ k) = true := by simpa using h
    go_enter Tryd.func48, Tryd.ntmps48
    go_wp2
    go_ret
    exact ⟨by simp [stK, h], rfl⟩
  · have hd : decide (0 ≤ k) = false := by simpa using h
    go_enter Tryd.func48, Tryd.ntmps48
    go_wp2
    go_ret
    refine ⟨?_, rfl⟩
    have h' : ¬ 0 ≤ k := by omega
    simp [stK, h']
theorem mKey_b {k : Int} {b : Bool} (h : stK k = b) (w : World) : Calls Tryd.prog 48 #[.int .i64 k] w fun e w' => e = .returned (.bool b) ∧ w' = w := by
  subst h
  exact mKey_c k w
theorem mSeq_c {S : Nat → Prop} {w : World} {m : Nat} {l : List Deed} {cs : List (List En)} (h : MeshAt S w m l cs) :
    Calls Tryd.prog 26 #[.pointer (some ⟨m, 0, none⟩)] w fun e w' => e = .returned (.int .i64 l.length) ∧ w' = w := by
  obtain ⟨F, b, c, h⟩ := h
  have c0 := h.c0
  have HS : Hid (StoreIs w b l F) := h.st
  clear h
  go_enter Tryd.func26, Tryd.ntmps26
  go_wp2_with fail
  refine (seq_c b l F w HS.out).mono ?_
  rintro e w1 ⟨rfl, hw⟩
  subst hw
  go_wp2_with fail
  go_ret
  exact ⟨rfl, rfl⟩
theorem errV_eV (n : Int) : errV n = eV n := rfl
/-- At, with letters -/
theorem stAt_o {b : Nat} {k s x0 x1 x2 n : Int} {x3 : Bool} {x4 : ByteArray} {l : List Deed} {F : Nat → Prop} {w : World} (h : StoreIs w b l F) (hv : (atO l k s).1 = ⟨x0, x1, x2, x3, x4⟩) (hn : (atO l k s).2 = n) :
    Calls Tryd.prog 57 #[.pointer (some ⟨b, 0, none⟩), .int .i64 k, .int .i64 s] w fun e w' => e = .returned (.tuple #[.agg #[.int .i64 x0, .int .i64 x1, .int .i64 x2, .bool x3, .string x4], eV n]) ∧ Below w.heap.size w w' := by
  have c := at_c b k s l F w h
  rw [hv, hn, errV_eV] at c
  exact c
theorem stRead_o {b : Nat} {k x0 x1 x2 n : Int} {x3 : Bool} {x4 : ByteArray} {l : List Deed} {F : Nat → Prop} {w : World} (h : StoreIs w b l F) (hv : (atO l k l.length).1 = ⟨x0, x1, x2, x3, x4⟩) (hn : (atO l k l.length).2 = n) :
    Calls Tryd.prog 76 #[.pointer (some ⟨b, 0, none⟩), .int .i64 k] w fun e w' => e = .returned (.tuple #[.agg #[.int .i64 x0, .int .i64 x1, .int .i64 x2, .bool x3, .string x4], eV n]) ∧ Below w.heap.size w w' := by
  have c := read_c b k l F w h
  rw [show readO l k = atO l k l.length from rfl, hv, hn, errV_eV] at c
  exact c
set_option maxHeartbeats 1000000 in
theorem mAt_o {S : Nat → Prop} {w : World} {m : Nat} {k s x0 x1 x2 n : Int} {x3 : Bool} {x4 : ByteArray} {l : List Deed} {cs : List (List En)} (h : MeshAt S w m l cs) (hv : (atO l k s).1 = ⟨x0, x1, x2, x3, x4⟩) (hn : (atO l k s).2 = n) :
    Calls Tryd.prog 28 #[.pointer (some ⟨m, 0, none⟩), .int .i64 k, .int .i64 s] w fun e w' => e = .returned (.tuple #[.agg #[.int .i64 x0, .int .i64 x1, .int .i64 x2, .bool x3, .string x4], eV n]) ∧ Below w.heap.size w w' := by
  obtain ⟨F, b, c, h⟩ := h
  have c0 := h.c0
  have hm := h.lt m h.sm
  have HS : Hid (StoreIs (w.alloc (.cells #[.int .i64 0, .int .i64 0, .int .i64 0, .bool false, .string ⟨#[]⟩] 26)) b l F) := h.st.below ((Below.refl _ _).alloc (Nat.le_refl _) _)
  have HV : Hid ((atO l k s).1 = ⟨x0, x1, x2, x3, x4⟩) := hv
  have HN : Hid ((atO l k s).2 = n) := hn
  clear h hv hn
  obtain ⟨ev, HE⟩ : ∃ ev, Hid (eV n = ev) := ⟨_, rfl⟩
  rw [HE.out]
  go_enter Tryd.func28, Tryd.ntmps28
  go_wp2_with fail
  refine (stAt_o HS.out HV.out HN.out).mono ?_
  rintro e w1 ⟨rfl, hb⟩
  rw [HE.out]
  have B1 : Hid (Below w.heap.size w w1) := ((Below.refl _ w).alloc (Nat.le_refl _) _).trans (hb.mono (by simp))
  have X1 : Hid (BoxAt w1 w.heap.size 0 0 0 false ⟨#[]⟩) := (box_new w 0 0 0 false ⟨#[]⟩ _ rfl).below hb (by simp)
  clear hb
  obtain ⟨e0, e1, e2, e3, e4, ef⟩ := X1.out
  have hz1 : w.heap.size < w1.heap.size := X1.out.lt
  go_wp2_with fail
  refine bodyPost_ret (v := .tuple #[.agg #[.int .i64 x0, .int .i64 x1, .int .i64 x2, .bool x3, .string x4], ev]) (by simp [results, Tryd.results28, go_sem, e0, e1, e2, e3, e4]) rfl ?_
  refine ⟨rfl, ?_⟩
  have hbw := B1.out
  go_grown
/-- a node's cache, as it is told -/
def mCacheO (cs : List (List En)) (node : Int) : List En × Int := if nodeB cs.length node = true then (cacheN cs node, 0) else ([], 1)
theorem cacheN_at {cs : List (List En)} {i : Nat} (hi : i < cs.length) : cacheN cs (i : Int) = cs[i] := by
  unfold cacheN
  rw [Int.toNat_natCast, List.getD_eq_getElem?_getD, List.getElem?_eq_getElem hi]
  rfl
theorem node_nat {n : Nat} {node : Int} (h : nodeB n node = true) : ∃ i : Nat, node = i ∧ i < n := by
  rw [nodeB_iff] at h
  exact ⟨node.toNat, by omega, by omega⟩
set_option maxHeartbeats 1000000 in
theorem mCache_o {S : Nat → Prop} {w : World} {m : Nat} {node n : Int} {x : List En} {l : List Deed} {cs : List (List En)} (h : MeshAt S w m l cs) (hG : GoodM l cs) (hx : mCacheO cs node = (x, n)) :
    Calls Tryd.prog 24 #[.pointer (some ⟨m, 0, none⟩), .int .i64 node] w fun e w' => ∃ v, e = .returned (.tuple #[v, eV n]) ∧ RowIs w' v x ∧ (∀ g, v.ownBlock = some g → w.heap.size ≤ g) ∧ Below w.heap.size w w' := by
  obtain ⟨F, b, c, h⟩ := h
  have c1 := h.c1
  cases hn : nodeB cs.length node
  · have HN : Hid (nodeB cs.length node = false) := hn
    rw [mCacheO, if_neg (by rw [hn]; simp)] at hx
    obtain ⟨rfl, rfl⟩ : [] = x ∧ (1 : Int) = n := by simpa using hx
    clear hx hn h hG
    go_enter Tryd.func24, Tryd.ntmps24
    go_wp2_with (go_at_call 47; refine (isNode_b HN.out _ (by assumption)).mono ?_; rintro e w' ⟨rfl, hw⟩; subst hw)
    go_ret2
    refine ⟨.slice none 0 0, ?_, RowIs.nil _, fun g hg => by simp [Value.ownBlock] at hg, Below.refl _ _⟩
    rfl
  · have HN : Hid (nodeB cs.length node = true) := hn
    rw [mCacheO, if_pos hn] at hx
    obtain ⟨rfl, rfl⟩ : cacheN cs node = x ∧ (0 : Int) = n := by simpa using hx
    obtain ⟨i, rfl, hi⟩ := node_nat hn
    obtain ⟨v, hc, hr, hg⟩ := h.rows i hi
    rw [cacheN_at hi]
    have HR : Hid (RowIs w v cs[i]) := hr
    have H8 : Hid (cs[i].length ≤ 8) := (hG.all cs[i] (List.getElem_mem hi)).good.len
    generalize cs[i] = x at HR H8 ⊢
    clear hx hn h hG hr hg
    generalize cs.length = nc at HN hi c1 ⊢
    have hi2 : (i : Int) < (nc : Int) := by omega
    go_enter Tryd.func24, Tryd.ntmps24
    go_wp2_with (first | (go_at_call 47; refine (isNode_b HN.out _ (by assumption)).mono ?_; rintro e w' ⟨rfl, hw⟩; subst hw))
    refine (clone_c v x _ HR.out H8.out).mono ?_
    rintro e w1 ⟨v1, rfl, ho, hb⟩
    have HO : Hid _ := ho
    have HB : Hid _ := hb
    clear ho hb
    go_wp2_with fail
    go_ret2
    refine ⟨v1, ?_, RowIs.own HO.out, fun g hg => ownsRow_from HO.out g hg, HB.out⟩
    rfl
end Go.Proofs.YtliaidgedjjobaaDoor

namespace Go.Proofs.YtliaidgedjjobaaDoor
set_option linter.unusedVariables false
set_option linter.unusedSimpArgs false
open Go.RowKit

theorem Kept.setC {F : Nat → Prop} {w w' : World} (h : Kept F w w') (b k : Nat) (hF : F b ∨ w.heap.size ≤ b) (u : Value) : Kept F w (w'.setCell ⟨b, k, none⟩ u) :=
  ⟨h.os, h.tape, h.output, by rw [World.size_setCell]; exact h.size, fun y hy hn => (Below.heap_setCell _ _ _ y (fun e => by rcases hF with hf | hf; exact hn (by rw [e]; exact hf); (simp at e; omega))).trans (h.block y hy hn)⟩
theorem heap_setE (w : World) (b c : Nat) (hc : c ≠ b) (x0 x1 x2 x3 x4 : Value) : (((((w.setCell ⟨b, 0, none⟩ x0).setCell ⟨b, 1, none⟩ x1).setCell ⟨b, 2, none⟩ x2).setCell ⟨b, 3, none⟩ x3).setCell ⟨b, 4, none⟩ x4).heap[c]? = w.heap[c]? := by
  rw [Below.heap_setCell _ _ _ c hc, Below.heap_setCell _ _ _ c hc, Below.heap_setCell _ _ _ c hc, Below.heap_setCell _ _ _ c hc, Below.heap_setCell _ _ _ c hc]
set_option maxHeartbeats 1000000 in
/-- behind learn: the row of caches has a new one, the result's box is filled -/
theorem learn_end {S F : Nat → Prop} {w w4 : World} {m b c P B : Nat} {l : List Deed} {cs : List (List En)} {i : Nat} {v : Value} {x : List En} (h : Mc S F w m b c l cs) (hi : i < cs.length) (hb : Below w.heap.size w w4) (hP : w.heap.size ≤ P) (hP4 : P < B) (hB : B ≤ w4.heap.size) (ho : w4.ownsRow B 26 5 v x.length (rowC x)) (x0 x1 x2 x3 x4 : Value) :
    MeshTo S w ((((((w4.setCell ⟨c, i, none⟩ v).setCell ⟨P, 0, none⟩ x0).setCell ⟨P, 1, none⟩ x1).setCell ⟨P, 2, none⟩ x2).setCell ⟨P, 3, none⟩ x3).setCell ⟨P, 4, none⟩ x4) m l (cs.set i x) := by
  have h4 : Mc S F w4 m b c l cs := h.blocks hb.size (fun y hy => hb.block y (h.lt y hy))
  have hown : ∀ g, v.ownBlock = some g → B ≤ g ∧ g < w4.heap.size := fun g hg => ⟨ownsRow_from ho g hg, ownsRow_lt ho g hg⟩
  have h5 := h4.row i hi (RowIs.own ho) (fun g hg => ⟨h.out (fun hs => by have h1 := h.lt g hs; have h2 := (hown g hg).1; omega), (hown g hg).2⟩)
  have hcl := h.lt c h.sc
  have hPS : ∀ y, (S y ∨ v.ownBlock = some y) → y ≠ P := fun y hy e => by
    rcases hy with hy | hy
    · have := h.lt y hy
      omega
    · have := (hown y hy).1
      omega
  have hsz : (((((w4.setCell ⟨c, i, none⟩ v).setCell ⟨P, 0, none⟩ x0).setCell ⟨P, 1, none⟩ x1).setCell ⟨P, 2, none⟩ x2).setCell ⟨P, 3, none⟩ x3).heap.size = w4.heap.size := by simp only [World.size_setCell]
  have hk : Kept S w ((((((w4.setCell ⟨c, i, none⟩ v).setCell ⟨P, 0, none⟩ x0).setCell ⟨P, 1, none⟩ x1).setCell ⟨P, 2, none⟩ x2).setCell ⟨P, 3, none⟩ x3).setCell ⟨P, 4, none⟩ x4) :=
    ((((((Kept.of_below hb).setC c i (.inl h.sc) v).setC P 0 (.inr hP) x0).setC P 1 (.inr hP) x1).setC P 2 (.inr hP) x2).setC P 3 (.inr hP) x3).setC P 4 (.inr hP) x4
  refine ⟨hk, (fun y => S y ∨ v.ownBlock = some y), ⟨F, b, c, h5.blocks (by simp only [World.size_setCell]; exact Nat.le_refl _) (fun y hy => heap_setE _ P y (hPS y hy) _ _ _ _ _)⟩, fun y hy => ?_⟩
  rcases hy with hy | hy
  · exact .inl hy
  · have := (hown y hy).1
    exact .inr (by omega)
theorem eV_zeroN : eV 0 = .nilIface := by rw [eV, if_pos rfl]
theorem eV_errN {n : Int} (h : n ≠ 0) : eV n = .iface 83 (.int .i64 n) := by rw [eV, if_neg h]
theorem add_w {l R1 : List En} {k vv a : Int} {g : Bool} {t : ByteArray} {R2 : Bool} (h : cacheAdd l ⟨k, vv, a, g, t⟩ = (R1, R2, 0)) (v : Value) (w : World) (hr : RowIs w v l) :
    Calls Tryd.prog 39 #[v, .agg #[.int .i64 k, .int .i64 vv, .int .i64 a, .bool g, .string t]] w fun e w' => ∃ v', e = .returned (.tuple #[v', .bool R2, .nilIface]) ∧ w'.ownsRow w.heap.size 26 5 v' R1.length (rowC R1) ∧ Below w.heap.size w w' := by
  have c := add_c v l k vv a g t w hr
  rw [h] at c
  refine c.mono ?_
  rintro e w' ⟨v', he, ho, hb⟩
  exact ⟨v', by rw [he, eV_zeroN], ho, hb⟩
theorem atO_read {l : List Deed} {k : Int} (hk : stK k = true) : atO l k l.length = (entAt l k l.length, 0) := by
  simp only [atO, hk, true_and, Int.toNat_natCast]
  rw [if_pos (by constructor <;> omega)]
theorem kept_cell {w w' : World} {a : Addr} {v : Value} (hb : Below w.heap.size w w') (h : w.cell? a = some v) : w'.cell? a = some v := (hb.cell (p := a) (World.block_lt_of_cell? w a h)).trans h
set_option maxHeartbeats 4000000 in
theorem learn_c {S F : Nat → Prop} {w : World} {m b c : Nat} {l : List Deed} {cs : List (List En)} (h : Mc S F w m b c l cs) (hG : GoodM l cs) (i : Nat) (hi : i < cs.length) {key x0 x1 x2 : Int} {x3 : Bool} {x4 : ByteArray} (hk : stK key = true) (hx : wasE l key l.length = ⟨x0, x1, x2, x3, x4⟩) :
    Calls Tryd.prog 51 #[.pointer (some ⟨m, 0, none⟩), .int .i64 i, .int .i64 key] w fun e w' => e = .returned (.tuple #[.agg #[.int .i64 x0, .int .i64 x1, .int .i64 x2, .bool x3, .string x4], .nilIface]) ∧ MeshTo S w w' m l (learnM l cs i key) := by
  have HM : Hid (Mc S F w m b c l cs) := h
  have HI : Hid (i < cs.length) := hi
  obtain ⟨v, hv, hr, _⟩ := h.rows i hi
  have HR : Hid (RowIs w v cs[i]) := hr
  have HV : Hid (w.cell? ⟨c, i, none⟩ = some v) := hv
  obtain ⟨ch, hadd⟩ := learnC_add hG.good hG.len (hG.all cs[i] (List.getElem_mem hi)) hk
  rw [hx] at hadd
  have HL : Hid (learnM l cs i key = cs.set i (learnC l cs[i] key)) := by show learnM l cs i key = _; rw [learnM, cacheN_at hi, Int.toNat_natCast]; rfl
  obtain ⟨x, HX⟩ : ∃ x, Hid (learnC l cs[i] key = x) := ⟨learnC l cs[i] key, show learnC l cs[i] key = _ from rfl⟩
  rw [HX.out] at hadd HL
  have HA : Hid (cacheAdd cs[i] ⟨x0, x1, x2, x3, x4⟩ = (x, ch, 0)) := hadd
  have HE : Hid ((atO l key l.length).1 = ⟨x0, x1, x2, x3, x4⟩ ∧ (atO l key l.length).2 = 0) := by
    rw [atO_read hk]
    refine ⟨?_, rfl⟩
    injection hx with e0 e1 e2 e3 e4
    show entAt l key l.length = _
    rw [entAt, e1, e3, e4, e0, ← e2]
  have c0 := h.c0
  have hml := h.lt m h.sm
  have HS : Hid (StoreIs (w.alloc (.cells #[.int .i64 0, .int .i64 0, .int .i64 0, .bool false, .string ⟨#[]⟩] 26)) b l F) := h.st.below ((Below.refl _ _).alloc (Nat.le_refl _) _)
  rw [HL.out]
  generalize cs[i] = y at HR HA
  clear HX HL hadd hx hk hG hr hv h
  go_enter Tryd.func51, Tryd.ntmps51
  go_wp2_with fail
  refine (stRead_o HS.out HE.out.1 HE.out.2).mono ?_
  rintro e w1 ⟨rfl, hb⟩
  rw [eV_zeroN]
  have hs1 : w.heap.size < w1.heap.size := by have := hb.size; simp at this; omega
  have B1 : Hid (Below w.heap.size w (w1.alloc (.cells #[.int .i64 x0, .int .i64 x1, .int .i64 x2, .bool x3, .string x4] 26))) := (((Below.refl _ w).alloc (Nat.le_refl _) _).trans (hb.mono (by simp))).alloc (by omega) _
  have X1 : Hid (BoxAt (w1.alloc (.cells #[.int .i64 x0, .int .i64 x1, .int .i64 x2, .bool x3, .string x4] 26)) w.heap.size 0 0 0 false ⟨#[]⟩) := ((box_new w 0 0 0 false ⟨#[]⟩ _ rfl).below hb (by simp)).alloc _
  have Y1 : Hid (BoxAt (w1.alloc (.cells #[.int .i64 x0, .int .i64 x1, .int .i64 x2, .bool x3, .string x4] 26)) w1.heap.size x0 x1 x2 x3 x4) := box_new w1 x0 x1 x2 x3 x4 _ rfl
  clear hb HS HE c0
  go_upto_region 4 with fail
  obtain ⟨w2, HW2⟩ : ∃ z, z = w1.alloc (.cells #[.int .i64 x0, .int .i64 x1, .int .i64 x2, .bool x3, .string x4] 26) := ⟨_, rfl⟩
  obtain ⟨Y, HY⟩ : ∃ z, z = w1.heap.size := ⟨_, rfl⟩
  obtain ⟨P, HP⟩ : ∃ z, Hid (z = w.heap.size) := ⟨_, rfl⟩
  rw [← HW2] at B1 X1 Y1
  rw [← HY] at Y1 hs1
  rw [← HP.out] at X1 hs1
  rw [← HW2, ← HY, ← HP.out]
  clear HW2 HY
  have M2 : Hid (Mc S F w2 m b c l cs) := HM.out.blocks B1.out.size (fun z hz => B1.out.block z (HM.out.lt z hz))
  have d0 := M2.out.c1
  have d1 : w2.cell? ⟨c, i, none⟩ = some v := (World.cell?_of_block (a := ⟨c, i, none⟩) (B1.out.block c (HM.out.lt c HM.out.sc))).trans HV.out
  have R2 : Hid (RowIs w2 v y) := HR.out.below B1.out
  obtain ⟨nc, HNc⟩ : ∃ nc, Hid (cs.length = nc) := ⟨_, rfl⟩
  have hi2 : (i : Int) < (nc : Int) := by have := HNc.out; omega
  rw [HNc.out] at d0
  obtain ⟨g0, g1, g2, g3, g4, gf⟩ := Y1.out
  clear hi hml
  go_region_held3 (fun w' => w'.cell? ⟨m, 1, none⟩ = some (.slice (some ⟨c, 0, none⟩) nc nc) ∧ w'.cell? ⟨c, i, none⟩ = some v ∧ w'.cell? ⟨Y, 0, none⟩ = some (.int .i64 x0) ∧ w'.cell? ⟨Y, 1, none⟩ = some (.int .i64 x1) ∧ w'.cell? ⟨Y, 2, none⟩ = some (.int .i64 x2) ∧ w'.cell? ⟨Y, 3, none⟩ = some (.bool x3) ∧ w'.cell? ⟨Y, 4, none⟩ = some (.string x4)) (first | go_keep | (exact ⟨kept_cell HB3.out d0, kept_cell HB3.out d1, kept_cell HB3.out g0, kept_cell HB3.out g1, kept_cell HB3.out g2, kept_cell HB3.out g3, kept_cell HB3.out g4⟩)) (first | (go_at_call 39; refine (add_w HA.out _ _ ?_).mono ?_; exact R2.out.drew; rintro e w3 ⟨v3, rfl, ho3, hb3⟩; obtain ⟨_, p3, q3, rfl, _⟩ := RowIs.own ho3; have HO3 : Hid (w3.ownsRow w2.heap.size 26 5 (.slice p3 x.length q3) x.length (rowC x)) := ho3; have HB3 : Hid (Below w2.heap.size w2 w3) := below_undrew hb3; clear ho3 hb3))
  have B3 : Hid (Below w.heap.size w w3) := B1.out.trans (HB3.out.mono B1.out.size)
  have M3 : Hid (Mc S F w3 m b c l cs) := HM.out.blocks B3.out.size (fun z hz => B3.out.block z (HM.out.lt z hz))
  have X3 : Hid (BoxAt w3 P 0 0 0 false ⟨#[]⟩) := X1.out.below HB3.out X1.out.lt
  have Y3 : Hid (BoxAt w3 Y x0 x1 x2 x3 x4) := Y1.out.below HB3.out Y1.out.lt
  have hcP : ¬ c = P := by have h1 := HM.out.lt c HM.out.sc; have h2 := HP.out; omega
  have hcY : ¬ c = Y := by have h1 := HM.out.lt c HM.out.sc; have h2 := HP.out; omega
  have hEnd : Hid (MeshTo S w ((((((w3.setCell ⟨c, i, none⟩ (.slice p3 x.length q3)).setCell ⟨P, 0, none⟩ (.int .i64 x0)).setCell ⟨P, 1, none⟩ (.int .i64 x1)).setCell ⟨P, 2, none⟩ (.int .i64 x2)).setCell ⟨P, 3, none⟩ (.bool x3)).setCell ⟨P, 4, none⟩ (.string x4)) m l (cs.set i x)) :=
    learn_end HM.out HI.out B3.out (by have := HP.out; omega) X1.out.lt HB3.out.size HO3.out _ _ _ _ _
  have e1 := M3.out.c1
  rw [HNc.out] at e1
  have ef := M3.out.fz
  have e2 : w3.cell? ⟨c, i, none⟩ = some v := kept_cell HB3.out d1
  clear d0 d1 g0 g1 g2 g3 g4 gf B1 X1 Y1 M2 R2 HO3 HB3 M3
  go_upto_region 8 with fail
  have X5 : Hid (BoxAt (w3.setCell ⟨c, i, none⟩ (.slice p3 x.length q3)) P 0 0 0 false ⟨#[]⟩) := X3.out.of_block (Below.heap_setCell _ _ _ P (by simp; omega))
  have Y5 : Hid (BoxAt (w3.setCell ⟨c, i, none⟩ (.slice p3 x.length q3)) Y x0 x1 x2 x3 x4) := Y3.out.of_block (Below.heap_setCell _ _ _ Y (by simp; omega))
  obtain ⟨w5, HW5⟩ : ∃ z, z = w3.setCell ⟨c, i, none⟩ (.slice p3 x.length q3) := ⟨_, rfl⟩
  rw [← HW5] at hEnd X5 Y5
  rw [← HW5]
  clear HW5 e1 ef e2 X3 Y3 B3
  obtain ⟨z0, z1, z2, z3, z4, zf⟩ := (X5.out.set x0 x1 x2 x3 x4)
  obtain ⟨y0, y1, y2, y3, y4, yf⟩ := Y5.out
  obtain ⟨e0, e1, e2, e3, e4, ef⟩ := X5.out
  go_wp2_with fail
  refine bodyPost_ret (v := .tuple #[.agg #[.int .i64 x0, .int .i64 x1, .int .i64 x2, .bool x3, .string x4], .nilIface]) (by simp [results, Tryd.results51, go_sem, z0, z1, z2, z3, z4]) rfl ?_
  exact ⟨rfl, hEnd.out⟩
end Go.Proofs.YtliaidgedjjobaaDoor

namespace Go.Proofs.YtliaidgedjjobaaDoor
set_option linter.unusedVariables false
set_option linter.unusedSimpArgs false
open Go.RowKit Go.Shelf

theorem MeshTo.next {S S1 : Nat → Prop} {w w1 w2 : World} {m : Nat} {l : List Deed} {cs : List (List En)} (hk : Kept S w w1) (hs : ∀ x, S1 x → S x ∨ w.heap.size ≤ x) (h : MeshTo S1 w1 w2 m l cs) : MeshTo S w w2 m l cs := by
  obtain ⟨k2, S', h1, h2⟩ := h
  have hz := hk.size
  refine ⟨hk.trans k2 (fun x hx h' => (hs x h').resolve_right (by omega)), S', h1, fun x hx => ?_⟩
  rcases h2 x hx with h' | h'
  · exact hs x h'
  · exact .inr (by omega)
theorem MeshTo.below {S : Nat → Prop} {w w1 w2 : World} {m : Nat} {l : List Deed} {cs : List (List En)} (h : MeshTo S w w1 m l cs) (hb : Below w1.heap.size w1 w2) : MeshTo S w w2 m l cs := by
  obtain ⟨k1, S', h1, h2⟩ := h
  exact ⟨k1.trans (Kept.of_below (F := S) hb) (fun _ _ h => h), S', h1.grown hb, h2⟩
theorem Mc.kept {S F F' : Nat → Prop} {w w' : World} {m b c : Nat} {l l' : List Deed} {cs : List (List En)} (h : Mc S F w m b c l cs) (hF : ∀ x, F' x → F x ∨ w.heap.size ≤ x) (hk : Kept F w w') : Kept S w w' ∧ ∀ x, (S x ∨ F' x) → S x ∨ w.heap.size ≤ x := by
  refine ⟨hk.mono (fun x hx => (h.sF x hx).1), fun x hx => ?_⟩
  rcases hx with hx | hx
  · exact .inl hx
  · rcases hF x hx with h' | h'
    · exact .inl (h.sF x h').1
    · exact .inr h'
/-- what a deed must be -/
structure OutOk (o : Out) (l : List Deed) (key : Int) : Prop where
  bad : o.err ≠ 0 → o.done = l
  good : o.err = 0 → stK key = true ∧ Good o.done ∧ o.done.length ≤ 1000 ∧ ∃ d, o.done = l ++ [d]
theorem put_bad {l : List Deed} {k : Int} {t : ByteArray} (h : (putO l k t).err ≠ 0) : (putO l k t).done = l := by
  unfold putO recO at h ⊢
  split
  · rfl
  · split
    · rfl
    · split
      · rfl
      · rename_i h1 h2 h3
        rw [if_neg h1, if_neg h2, if_neg h3] at h
        exact absurd rfl h
theorem del_bad {l : List Deed} {k : Int} (h : (delO l k).err ≠ 0) : (delO l k).done = l := by
  unfold delO recO at h ⊢
  split
  · rfl
  · split
    · rfl
    · split
      · rfl
      · rename_i h1 h2 h3
        rw [if_neg h1, if_neg h2, if_neg h3] at h
        exact absurd rfl h
theorem outOk_put {l : List Deed} {k : Int} {t : ByteArray} (hl : Good l) : OutOk (putO l k t) l k :=
  ⟨put_bad, fun h => by
    obtain ⟨h1, _, h3, h4⟩ := put_fine h
    exact ⟨h1, good_put l k t hl, by rw [h4]; simp; omega, _, by rw [h4]⟩⟩
theorem outOk_del {l : List Deed} {k : Int} (hl : Good l) : OutOk (delO l k) l k :=
  ⟨del_bad, fun h => by
    obtain ⟨h1, h3, h4⟩ := del_fine h
    exact ⟨h1, good_del l k hl, by rw [h4]; simp; omega, _, by rw [h4]⟩⟩
theorem errV_zeroN : errV 0 = .nilIface := by rw [errV, if_pos rfl]
theorem errV_errN {n : Int} (h : n ≠ 0) : errV n = .iface 83 (.int .i64 n) := by rw [errV, if_neg h]
set_option maxHeartbeats 4000000 in
theorem change_c (f : FuncId) (caps : Array Value) {S F : Nat → Prop} {w : World} {m b c : Nat} {l : List Deed} {cs : List (List En)} (h : Mc S F w m b c l cs) (hG : GoodM l cs) (node key : Int) (o : Out) (hO : OutOk o l key)
    (eg : ∀ args w, (callFunc f args).run Tryd.prog w = .ok (.enter f args) w) (hf : Calls Tryd.prog f (#[.pointer (some ⟨b, 0, none⟩)] ++ caps) w (Left b F w o)) :
    Calls Tryd.prog 44 #[.pointer (some ⟨m, 0, none⟩), .int .i64 node, .int .i64 key, .func (.func f) #[] caps] w fun e w' => e = .returned (.tuple #[.int .i64 (mDone o l cs node key).num, eV (mDone o l cs node key).err]) ∧ MeshTo S w w' m (mDone o l cs node key).done (mDone o l cs node key).cs := by
  have c0 := h.c0
  have c1 := h.c1
  have HM : Hid (Mc S F w m b c l cs) := h
  have HF : Hid (Calls Tryd.prog f (#[.pointer (some ⟨b, 0, none⟩)] ++ caps) w (Left b F w o)) := hf
  cases hn : nodeB cs.length node
  · have HN : Hid (nodeB cs.length node = false) := hn
    have HR : Hid (mDone o l cs node key = ⟨l, cs, 0, 1⟩) := by show mDone o l cs node key = _; rw [mDone, if_pos hn]
    rw [HR.out]
    clear hn h hG hf hO
    go_enter Tryd.func44, Tryd.ntmps44
    go_wp2_with (go_at_call 47; refine (isNode_b HN.out _ (by assumption)).mono ?_; rintro e w' ⟨rfl, hw⟩; rw [hw]; clear hw w')
    go_ret2
    exact ⟨rfl, MeshAt.to ⟨F, b, c, HM.out⟩ (Below.refl _ _)⟩
  · have HN : Hid (nodeB cs.length node = true) := hn
    obtain ⟨i, rfl, hi⟩ := node_nat hn
    have HG : Hid (GoodM l cs) := hG
    by_cases hz : o.err = 0
    · obtain ⟨hk, hg, h1, d, hd⟩ := hO.good hz
      obtain ⟨x0, x1, x2, x3, x4, HX⟩ : ∃ x0 x1 x2 x3 x4, Hid (wasE o.done key o.done.length = ⟨x0, x1, x2, x3, x4⟩) := ⟨_, _, _, _, _, rfl⟩
      have HK : Hid (stK key = true) := hk
      have HGd : Hid (GoodM o.done cs) := by show GoodM o.done cs; rw [hd] at hg h1 ⊢; exact hG.later hg h1
      have HR : Hid (mDone o l cs (i : Int) key = ⟨o.done, learnM o.done cs i key, o.num, 0⟩) := by
        show mDone o l cs (i : Int) key = _
        rw [mDone, if_neg (by rw [hn]; simp), if_neg (by rw [hz]; simp)]
      rw [HR.out]
      obtain ⟨on, HOn⟩ : ∃ on, Hid (o.num = on) := ⟨o.num, rfl⟩
      have HZ : Hid (errV o.err = .nilIface) := by show errV o.err = _; rw [hz]; exact errV_zeroN
      have HI : Hid (i < cs.length) := hi
      show Calls _ _ _ _ fun e w' => e = .returned (.tuple #[.int .i64 o.num, eV 0]) ∧ _
      rw [HOn.out, eV_zeroN]
      generalize cs.length = nc at HN c1
      clear hn h hG hf hO hz hk hg h1 hd
      go_enter Tryd.func44, Tryd.ntmps44
      go_wp2_with (go_at_call 47; refine (isNode_b HN.out _ (by assumption)).mono ?_; rintro e w' ⟨rfl, hw⟩; rw [hw]; clear hw w')
      refine Calls.mono HF.out ?_
      rintro e w1 ⟨rfl, F', hs, hF, hkp⟩
      rw [HZ.out, HOn.out]
      have M1 : Hid (Mc (fun x => S x ∨ F' x) F' w1 m b c o.done cs) := HM.out.store hs hF hkp
      have HKp : Hid (Kept S w w1 ∧ ∀ x, (S x ∨ F' x) → S x ∨ w.heap.size ≤ x) := HM.out.kept (l' := l) hF hkp
      clear hs hF hkp c0 c1
      go_wp2_with fail
      refine (learn_c M1.out HGd.out i HI.out HK.out HX.out).mono ?_
      rintro e w2 ⟨rfl, hto⟩
      have T2 : Hid (MeshTo S w w2 m o.done (learnM o.done cs i key)) := MeshTo.next HKp.out.1 HKp.out.2 hto
      clear hto
      go_wp2_with fail
      go_ret2
      exact ⟨rfl, T2.out.below ((Below.refl _ _).alloc (Nat.le_refl _) _)⟩
    · have HB : Hid (o.done = l) := hO.bad hz
      have HR : Hid (mDone o l cs (i : Int) key = ⟨l, cs, 0, o.err⟩) := by
        show mDone o l cs (i : Int) key = _
        rw [mDone, if_neg (by rw [hn]; simp), if_pos hz]
      rw [HR.out]
      show Calls _ _ _ _ fun e w' => e = .returned (.tuple #[.int .i64 0, eV o.err]) ∧ _
      obtain ⟨on, HOn⟩ : ∃ on, Hid (o.num = on) := ⟨o.num, rfl⟩
      obtain ⟨er, HEr⟩ : ∃ er, Hid (o.err = er) := ⟨o.err, rfl⟩
      rw [HEr.out] at hz
      have HZ : Hid (errV er = .iface 83 (.int .i64 er)) := errV_errN hz
      rw [HEr.out, eV_errN hz]
      generalize cs.length = nc at HN c1
      clear hn h hG hf hO hz hi
      go_enter Tryd.func44, Tryd.ntmps44
      go_wp2_with (go_at_call 47; refine (isNode_b HN.out _ (by assumption)).mono ?_; rintro e w' ⟨rfl, hw⟩; rw [hw]; clear hw w')
      refine Calls.mono HF.out ?_
      rintro e w1 ⟨rfl, F', hs, hF, hkp⟩
      rw [HOn.out, HEr.out, HZ.out]
      rw [HB.out] at hs
      have M1 : Hid (Mc (fun x => S x ∨ F' x) F' w1 m b c l cs) := HM.out.store hs hF hkp
      have HKp : Hid (Kept S w w1 ∧ ∀ x, (S x ∨ F' x) → S x ∨ w.heap.size ≤ x) := HM.out.kept (l' := l) hF hkp
      clear hs hF hkp c0 c1
      go_wp2_with fail
      go_ret2
      exact ⟨rfl, MeshTo.next HKp.out.1 HKp.out.2 (MeshAt.to ⟨F', b, c, M1.out⟩ (Below.refl _ _))⟩
set_option maxHeartbeats 1000000 in
theorem put1_c (b K T : Nat) (key : Int) (t : ByteArray) (l : List Deed) (F : Nat → Prop) (w : World) (ht : t.size ≤ maxLen) (ck : w.cell? ⟨K, 0, none⟩ = some (.int .i64 key)) (ct : w.cell? ⟨T, 0, none⟩ = some (.string t)) (h : StoreIs w b l F) :
    Calls Tryd.prog 45 #[.pointer (some ⟨b, 0, none⟩), .pointer (some ⟨K, 0, none⟩), .pointer (some ⟨T, 0, none⟩)] w (Left b F w (putO l key t)) := by
  have HS : Hid (StoreIs w b l F) := h
  have HT : Hid (t.size ≤ maxLen) := ht
  clear h ht
  go_enter Tryd.func45, Tryd.ntmps45
  go_wp2_with fail
  refine (stPut_c b key t l F _ HT.out HS.out).mono ?_
  rintro e w1 ⟨rfl, HF⟩
  have HF' : Hid _ := HF
  clear HF
  go_wp2_with fail
  go_ret2
  exact ⟨rfl, HF'.out⟩
set_option maxHeartbeats 1000000 in
theorem mPut_c {S : Nat → Prop} {w : World} {m : Nat} {l : List Deed} {cs : List (List En)} (h : MeshAt S w m l cs) (hG : GoodM l cs) (node key : Int) (t : ByteArray) (ht : t.size ≤ maxLen) :
    Calls Tryd.prog 20 #[.pointer (some ⟨m, 0, none⟩), .int .i64 node, .int .i64 key, .string t] w fun e w' => e = .returned (.tuple #[.int .i64 (mPut l cs node key t).num, eV (mPut l cs node key t).err]) ∧ MeshTo S w w' m (mPut l cs node key t).done (mPut l cs node key t).cs := by
  obtain ⟨F, b, c, h⟩ := h
  have HM : Hid (Mc S F ((w.alloc (.cells #[.int .i64 key] 3)).alloc (.cells #[.string t] 9)) m b c l cs) := h.blocks (by simp; omega) (fun x hx => by have := h.lt x hx; rw [Below.heap_alloc _ _ _ (by simp; omega), Below.heap_alloc _ _ _ this])
  have HG : Hid (GoodM l cs) := hG
  have HT : Hid (t.size ≤ maxLen) := ht
  have HB : Hid (Below w.heap.size w ((w.alloc (.cells #[.int .i64 key] 3)).alloc (.cells #[.string t] 9))) := ((Below.refl _ _).alloc (Nat.le_refl _) _).alloc (by simp) _
  clear h hG ht
  unfold mPut
  have HO : Hid (OutOk (putO l key t) l key) := outOk_put HG.out.good
  obtain ⟨R, HR⟩ : ∃ R, Hid (mDone (putO l key t) l cs node key = R) := ⟨_, rfl⟩
  rw [HR.out]
  obtain ⟨R1, R2, R3, R4⟩ := R
  dsimp only
  obtain ⟨ev, HE⟩ : ∃ ev, Hid (eV R4 = ev) := ⟨_, rfl⟩
  rw [HE.out]
  go_enter Tryd.func20, Tryd.ntmps20
  go_wp2_with fail
  refine (change_c 45 #[.pointer (some ⟨w.heap.size, 0, none⟩), .pointer (some ⟨w.heap.size + 1, 0, none⟩)] HM.out HG.out node key (putO l key t) HO.out (enters_of Tryd.func45 (by kernel_rfl) rfl) (put1_c b w.heap.size (w.heap.size + 1) key t l F _ HT.out (by simp) (by simp) HM.out.st)).mono ?_
  rw [HR.out]
  rintro e w1 ⟨rfl, hto⟩
  dsimp only at hto ⊢
  rw [HE.out]
  have HTo : Hid (MeshTo S w w1 m R1 R2) := MeshTo.after HB.out hto
  clear hto
  go_wp2_with fail
  go_ret2
  exact ⟨rfl, HTo.out⟩
set_option maxHeartbeats 1000000 in
theorem del1_c (b K : Nat) (key : Int) (l : List Deed) (F : Nat → Prop) (w : World) (ck : w.cell? ⟨K, 0, none⟩ = some (.int .i64 key)) (h : StoreIs w b l F) :
    Calls Tryd.prog 52 #[.pointer (some ⟨b, 0, none⟩), .pointer (some ⟨K, 0, none⟩)] w (Left b F w (delO l key)) := by
  have HS : Hid (StoreIs w b l F) := h
  clear h
  go_enter Tryd.func52, Tryd.ntmps52
  go_wp2_with fail
  refine (delete_c b key l F _ HS.out).mono ?_
  rintro e w1 ⟨rfl, HF⟩
  have HF' : Hid _ := HF
  clear HF
  go_wp2_with fail
  go_ret2
  exact ⟨rfl, HF'.out⟩
set_option maxHeartbeats 1000000 in
theorem mDel_c {S : Nat → Prop} {w : World} {m : Nat} {l : List Deed} {cs : List (List En)} (h : MeshAt S w m l cs) (hG : GoodM l cs) (node key : Int) :
    Calls Tryd.prog 22 #[.pointer (some ⟨m, 0, none⟩), .int .i64 node, .int .i64 key] w fun e w' => e = .returned (.tuple #[.int .i64 (mDel l cs node key).num, eV (mDel l cs node key).err]) ∧ MeshTo S w w' m (mDel l cs node key).done (mDel l cs node key).cs := by
  obtain ⟨F, b, c, h⟩ := h
  have HM : Hid (Mc S F (w.alloc (.cells #[.int .i64 key] 3)) m b c l cs) := h.blocks (by simp) (fun x hx => by have := h.lt x hx; rw [Below.heap_alloc _ _ _ this])
  have HG : Hid (GoodM l cs) := hG
  have HB : Hid (Below w.heap.size w (w.alloc (.cells #[.int .i64 key] 3))) := (Below.refl _ _).alloc (Nat.le_refl _) _
  clear h hG
  unfold mDel
  have HO : Hid (OutOk (delO l key) l key) := outOk_del HG.out.good
  obtain ⟨R, HR⟩ : ∃ R, Hid (mDone (delO l key) l cs node key = R) := ⟨_, rfl⟩
  rw [HR.out]
  obtain ⟨R1, R2, R3, R4⟩ := R
  dsimp only
  obtain ⟨ev, HE⟩ : ∃ ev, Hid (eV R4 = ev) := ⟨_, rfl⟩
  rw [HE.out]
  go_enter Tryd.func22, Tryd.ntmps22
  go_wp2_with fail
  refine (change_c 52 #[.pointer (some ⟨w.heap.size, 0, none⟩)] HM.out HG.out node key (delO l key) HO.out (enters_of Tryd.func52 (by kernel_rfl) rfl) (del1_c b w.heap.size key l F _ (by simp) HM.out.st)).mono ?_
  rw [HR.out]
  rintro e w1 ⟨rfl, hto⟩
  dsimp only at hto ⊢
  rw [HE.out]
  have HTo : Hid (MeshTo S w w1 m R1 R2) := MeshTo.after HB.out hto
  clear hto
  go_wp2_with fail
  go_ret2
  exact ⟨rfl, HTo.out⟩
end Go.Proofs.YtliaidgedjjobaaDoor

namespace Go.Proofs.YtliaidgedjjobaaDoor
set_option linter.unusedVariables false
set_option linter.unusedSimpArgs false
open Go.RowKit

theorem mNew_bad (n : Int) (w : World) (h : n < 1 ∨ 6 < n) : Calls Tryd.prog 19 #[.int .i64 n] w fun e w' => e = .returned (.tuple #[.pointer none, .iface 83 (.int .i64 1)]) ∧ w' = w := by
  by_cases h1 : n < 1
  · have hd1 : decide (n < 1) = true := by simpa using h1
    go_enter Tryd.func19, Tryd.ntmps19
    go_wp2_with fail
    go_ret2
    exact ⟨rfl, rfl⟩
  · have hd1 : decide (n < 1) = false := by simpa using h1
    have h6 : 6 < n := by omega
    have hd2 : decide (6 < n) = true := by simpa using h6
    go_enter Tryd.func19, Tryd.ntmps19
    go_wp2_with fail
    go_ret2
    exact ⟨rfl, rfl⟩
theorem mc_new {w2 : World} {b c n m : Nat} (hm : m = w2.heap.size) (hs : StoreIs w2 b [] (fun x => x = b)) (hl : ∀ k, k < n → w2.cell? ⟨c, k, none⟩ = some (.slice none 0 0)) (hf : ∀ k, w2.frozen? ⟨c, k, none⟩ = false) (hc : c < w2.heap.size) (hbc : b ≠ c) (hn : n ≤ 6) :
    Mc (fun x => x = b ∨ x = c ∨ x = m) (fun x => x = b) (w2.alloc (.cells #[.pointer (some ⟨b, 0, none⟩), .slice (some ⟨c, 0, none⟩) n n] 89)) m b c [] (List.replicate n []) := by
  subst hm
  have hb : b < w2.heap.size := hs.2.2.2.2.1 b rfl
  have hB : Below w2.heap.size w2 (w2.alloc (.cells #[.pointer (some ⟨b, 0, none⟩), .slice (some ⟨c, 0, none⟩) n n] 89)) := (Below.refl _ _).alloc (Nat.le_refl _) _
  refine ⟨by simp, by simp, by simpa using hn, fun j => (World.frozen?_of_block (a := ⟨c, j, none⟩) (hB.block c hc)).trans (hf j), by omega, .inr (.inr rfl), .inr (.inl rfl), hs.below hB, fun x hx => ⟨.inl hx, by omega, by omega⟩, fun j hj => ?_, fun x hx => ?_⟩
  · refine ⟨.slice none 0 0, (World.cell?_of_block (a := ⟨c, j, none⟩) (hB.block c hc)).trans (hl j (by simpa using hj)), ?_, fun g hg => by simp [Value.ownBlock] at hg⟩
    rw [List.getElem_replicate]
    exact RowIs.nil _
  · have : (w2.alloc (.cells #[.pointer (some ⟨b, 0, none⟩), .slice (some ⟨c, 0, none⟩) n n] 89)).heap.size = w2.heap.size + 1 := by simp
    omega
theorem below_drewM {B : Nat} {w w' : World} (h : Below B w w') : Below B w w'.drew := ⟨h.os, h.tape, h.output, h.size, h.block⟩
theorem infoRowM : (Tryd.prog.info? 37).map (fun i => (i.zero, i.size, i.bytes)) = some (some (.slice none 0 0), 1, 24) := by kernel_rfl
set_option maxHeartbeats 2000000 in
theorem mNew_ok (n : Nat) (w : World) (h1 : 1 ≤ n) (h6 : n ≤ 6) : Calls Tryd.prog 19 #[.int .i64 n] w fun e w' => ∃ m, e = .returned (.tuple #[.pointer (some ⟨m, 0, none⟩), .nilIface]) ∧ (∃ S, MeshAt S w' m [] (List.replicate n []) ∧ ∀ x, S x → w.heap.size ≤ x) ∧ Below w.heap.size w w' := by
  have hd1 : decide ((n : Int) < 1) = false := by simp; omega
  have hd2 : decide ((6 : Int) < (n : Int)) = false := by simp; omega
  have hmk := run_make_row' (P := Tryd.prog) 22 37 (.slice none 0 0) 24 Tryd.underlying22 infoRowM rfl .i64 .i64 n (by omega) (by omega)
  go_enter Tryd.func19, Tryd.ntmps19
  go_upto_region 3 with fail
  go_region_with (go_at_call 43; refine (new_c _).mono ?_; rintro e w1 ⟨rfl, rfl⟩)
  all_goals go_wp2_with fail
  all_goals go_ret2
  · have hw1 : (w.alloc (.cells #[.int .i64 0, .slice none 0 0, .slice none 0 0, .slice none 0 0, .slice none 0 0, .slice none 0 0, .slice none 0 0, .slice none 0 0, .slice none 0 0] 115)).heap.size = w.heap.size + 1 := by simp
    have hs := (new_is w).below ((Below.refl _ _).alloc (Nat.le_refl _) (.cells (madeCells #[.slice none 0 0] n) 37))
    refine ⟨w.heap.size + 1 + 1, by simp [Act.put, Array.setIfInBounds, Array.getD], ⟨_, MeshAt.blocks ⟨_, _, _, mc_new (b := w.heap.size) (c := w.heap.size + 1) (n := n) (m := w.heap.size + 1 + 1) (by simp) hs (fun k hk => ?_) (fun k => by simp) (by simp) (by omega) h6⟩ (Nat.le_refl _) (fun _ _ => rfl), fun x hx => ?_⟩, ?_⟩
    · rw [World.cell?_alloc_at _ _ _ _ (by simp)]
      simp [madeCells, hk, Nat.mod_one]
    · rcases hx with hx | hx | hx <;> omega
    · exact below_drewM (by go_grown)
  · have hs : StoreIs ((w.alloc (.cells (madeCells #[.slice none 0 0] n) 37)).alloc (.cells #[.int .i64 0, .slice none 0 0, .slice none 0 0, .slice none 0 0, .slice none 0 0, .slice none 0 0, .slice none 0 0, .slice none 0 0, .slice none 0 0] 115)) (w.heap.size + 1) [] (fun x => x = w.heap.size + 1) := by
      have := new_is (w.alloc (.cells (madeCells #[.slice none 0 0] n) 37))
      simpa using this
    refine ⟨w.heap.size + 1 + 1, by simp [Act.put, Array.setIfInBounds, Array.getD], ⟨_, MeshAt.blocks ⟨_, _, _, mc_new (b := w.heap.size + 1) (c := w.heap.size) (n := n) (m := w.heap.size + 1 + 1) (by simp) hs (fun k hk => ?_) (fun k => ?_) (by simp; omega) (by omega) h6⟩ (Nat.le_refl _) (fun _ _ => rfl), fun x hx => ?_⟩, ?_⟩
    · refine (World.cell?_of_block (a := ⟨w.heap.size, k, none⟩) (w := w.alloc (.cells (madeCells #[.slice none 0 0] n) 37)) (Below.heap_alloc _ _ _ (by simp))).trans ?_
      rw [World.cell?_alloc_at _ _ _ _ rfl]
      simp [madeCells, hk, Nat.mod_one]
    · refine (World.frozen?_of_block (a := ⟨w.heap.size, k, none⟩) (w := w.alloc (.cells (madeCells #[.slice none 0 0] n) 37)) (Below.heap_alloc _ _ _ (by simp))).trans ?_
      simp
    · rcases hx with hx | hx | hx <;> omega
    · exact below_drewM (by go_grown)
/-- what fresh.Get tells of a right cache -/
theorem fresh_some {c : List En} {key floor : Int} {x : En} (hc : GoodL c) (hk : stK key = true) (h0 : 0 ≤ floor) (h1 : floor ≤ 1000) (hg : getE c key = some x) (hf : floor ≤ x.a) : freshGet c key floor = (x, 0) := by
  have hk' : isKeyB key = true := hk
  have hs : isSeqB floor = true := by simp [isSeqB]; omega
  have hcg : cacheGet c key = (x, 0) := by rw [cacheGet, if_neg (by simpa using hc.bad), hk', if_neg (by simp), hg]
  rw [freshGet, hs, if_neg (by simp), hcg, if_neg (by simp), if_neg (by show ¬ x.a < floor; omega)]
theorem fresh_other {c : List En} {key floor : Int} (hc : GoodL c) (hk : stK key = true) (h0 : 0 ≤ floor) (h1 : floor ≤ 1000) (hg : ∀ x, getE c key = some x → x.a < floor) : ∃ n, n ≠ 0 ∧ freshGet c key floor = (zeroEn, n) := by
  have hk' : isKeyB key = true := hk
  have hs : isSeqB floor = true := by simp [isSeqB]; omega
  cases hq : getE c key with
  | none =>
    have hcg : cacheGet c key = (zeroEn, 5) := by rw [cacheGet, if_neg (by simpa using hc.bad), hk', if_neg (by simp), hq]
    exact ⟨5, by omega, by rw [freshGet, hs, if_neg (by simp), hcg, if_pos (by simp)]⟩
  | some x =>
    have hcg : cacheGet c key = (x, 0) := by rw [cacheGet, if_neg (by simpa using hc.bad), hk', if_neg (by simp), hq]
    exact ⟨8, by omega, by rw [freshGet, hs, if_neg (by simp), hcg, if_neg (by simp), if_pos (hg x hq)]⟩
theorem freshGet_o {l : List En} {key fl x0 x1 x2 n : Int} {x3 : Bool} {x4 : ByteArray} (h : freshGet l key fl = (⟨x0, x1, x2, x3, x4⟩, n)) (v : Value) (w : World) (hr : RowIs w v l) :
    Calls Tryd.prog 50 #[v, .int .i64 key, .int .i64 fl] w fun e w' => e = .returned (.tuple #[.agg #[.int .i64 x0, .int .i64 x1, .int .i64 x2, .bool x3, .string x4], eV n]) ∧ Below w.heap.size w w' := by
  have c := freshGet_c v l key fl w hr
  rw [h] at c
  exact c
end Go.Proofs.YtliaidgedjjobaaDoor

namespace Go.Proofs.YtliaidgedjjobaaDoor
set_option linter.unusedVariables false
set_option linter.unusedSimpArgs false
open Go.RowKit

/-- behind learn: the result's box is filled -/
theorem get_end {S : Nat → Prop} {w w1 w2 w3 : World} {m P : Nat} {l : List Deed} {cs : List (List En)} (hS : ∀ x, S x → x < w.heap.size) (hw : w.heap.size ≤ P) (hP : P < w1.heap.size) (hb : Below w.heap.size w w1) (h : MeshTo S w1 w2 m l cs) (hb2 : Below w2.heap.size w2 w3) (x0 x1 x2 x3 x4 : Value) :
    MeshTo S w (((((w3.setCell ⟨P, 0, none⟩ x0).setCell ⟨P, 1, none⟩ x1).setCell ⟨P, 2, none⟩ x2).setCell ⟨P, 3, none⟩ x3).setCell ⟨P, 4, none⟩ x4) m l cs := by
  obtain ⟨hk, S', h1, h2⟩ := h.below hb2
  have hs := hb.size
  have hk' : Kept S w w3 := (Kept.of_below (F := S) hb).trans hk (fun _ _ h => h)
  refine ⟨((((hk'.setC P 0 (.inr hw) x0).setC P 1 (.inr hw) x1).setC P 2 (.inr hw) x2).setC P 3 (.inr hw) x3).setC P 4 (.inr hw) x4, S', h1.blocks (by simp only [World.size_setCell]; exact Nat.le_refl _) (fun y hy => heap_setE _ P y (fun e => ?_) _ _ _ _ _), fun x hx => ?_⟩
  · subst e
    rcases h2 y hy with h' | h'
    · have := hS y h'
      omega
    · omega
  · rcases h2 x hx with h' | h'
    · exact .inl h'
    · exact .inr (by omega)
set_option maxHeartbeats 4000000 in
theorem mGet_bad {S : Nat → Prop} {w : World} {m : Nat} {l : List Deed} {cs : List (List En)} (h : MeshAt S w m l cs) (node key floor : Int) (hb : nodeB cs.length node = false ∨ stK key = false ∨ floor < 0 ∨ (l.length : Int) < floor) :
    Calls Tryd.prog 21 #[.pointer (some ⟨m, 0, none⟩), .int .i64 node, .int .i64 key, .int .i64 floor] w fun e w' => e = .returned (.tuple #[.agg #[.int .i64 0, .int .i64 0, .int .i64 0, .bool false, .string ⟨#[]⟩], .bool false, .iface 83 (.int .i64 1)]) ∧ Below w.heap.size w w' := by
  obtain ⟨F, b, c, h⟩ := h
  have hml := h.lt m h.sm
  have HB0 : Hid (Below w.heap.size w (w.alloc (.cells #[.int .i64 0, .int .i64 0, .int .i64 0, .bool false, .string ⟨#[]⟩] 26))) := (Below.refl _ _).alloc (Nat.le_refl _) _
  have HM : Hid (Mc S F (w.alloc (.cells #[.int .i64 0, .int .i64 0, .int .i64 0, .bool false, .string ⟨#[]⟩] 26)) m b c l cs) := h.blocks HB0.out.size (fun x hx => HB0.out.block x (h.lt x hx))
  have c0 := h.c0
  have HS : Hid (StoreIs (w.alloc (.cells #[.int .i64 0, .int .i64 0, .int .i64 0, .bool false, .string ⟨#[]⟩] 26)) b l F) := HM.out.st
  have HC1 : Hid ((w.alloc (.cells #[.int .i64 0, .int .i64 0, .int .i64 0, .bool false, .string ⟨#[]⟩] 26)).cell? ⟨m, 1, none⟩ = some (.slice (some ⟨c, 0, none⟩) cs.length cs.length)) := HM.out.c1
  clear h HM
  cases hn : nodeB cs.length node
  · have HN : Hid (nodeB cs.length node = false) := hn
    clear hn hb
    go_enter Tryd.func21, Tryd.ntmps21
    go_wp2_with (go_at_call 47; refine (isNode_b HN.out _ HC1.out).mono ?_; rintro e w' ⟨rfl, hw⟩; rw [hw]; clear hw w')
    refine bodyPost_ret (v := .tuple #[.agg #[.int .i64 0, .int .i64 0, .int .i64 0, .bool false, .string ⟨#[]⟩], .bool false, .iface 83 (.int .i64 1)]) (by simp [results, Tryd.results21, go_sem]) rfl ?_
    exact ⟨rfl, by go_grown⟩
  · have HN : Hid (nodeB cs.length node = true) := hn
    rw [hn] at hb
    replace hb := hb.resolve_left (by simp)
    clear hn
    cases hk : stK key
    · have HK : Hid (stK key = false) := hk
      clear hk hb
      go_enter Tryd.func21, Tryd.ntmps21
      go_wp2_with (first | (go_at_call 47; refine (isNode_b HN.out _ HC1.out).mono ?_; rintro e w' ⟨rfl, hw⟩; rw [hw]; clear hw w') | (go_at_call 48; refine (mKey_b HK.out _).mono ?_; rintro e w' ⟨rfl, hw⟩; rw [hw]; clear hw w'))
      refine bodyPost_ret (v := .tuple #[.agg #[.int .i64 0, .int .i64 0, .int .i64 0, .bool false, .string ⟨#[]⟩], .bool false, .iface 83 (.int .i64 1)]) (by simp [results, Tryd.results21, go_sem]) rfl ?_
      exact ⟨rfl, by go_grown⟩
    · have HK : Hid (stK key = true) := hk
      rw [hk] at hb
      replace hb := hb.resolve_left (by simp)
      clear hk
      by_cases hf : floor < 0
      · have hd : decide (floor < 0) = true := by simpa using hf
        clear hb
        go_enter Tryd.func21, Tryd.ntmps21
        go_wp2_with (first | (go_at_call 47; refine (isNode_b HN.out _ HC1.out).mono ?_; rintro e w' ⟨rfl, hw⟩; rw [hw]; clear hw w') | (go_at_call 48; refine (mKey_b HK.out _).mono ?_; rintro e w' ⟨rfl, hw⟩; rw [hw]; clear hw w'))
        refine bodyPost_ret (v := .tuple #[.agg #[.int .i64 0, .int .i64 0, .int .i64 0, .bool false, .string ⟨#[]⟩], .bool false, .iface 83 (.int .i64 1)]) (by simp [results, Tryd.results21, go_sem]) rfl ?_
        exact ⟨rfl, by go_grown⟩
      · have hd : decide (floor < 0) = false := by simpa using hf
        have hl2 := hb.resolve_left hf
        have hd2 : decide ((l.length : Int) < floor) = true := by simpa using hl2
        clear hb
        go_enter Tryd.func21, Tryd.ntmps21
        go_wp2_with (first | (go_at_call 47; refine (isNode_b HN.out _ HC1.out).mono ?_; rintro e w' ⟨rfl, hw⟩; rw [hw]; clear hw w') | (go_at_call 48; refine (mKey_b HK.out _).mono ?_; rintro e w' ⟨rfl, hw⟩; rw [hw]; clear hw w') | (go_at_call 49; refine (seq_c b l F _ HS.out).mono ?_; rintro e w' ⟨rfl, hw⟩; rw [hw]; clear hw w'))
        refine bodyPost_ret (v := .tuple #[.agg #[.int .i64 0, .int .i64 0, .int .i64 0, .bool false, .string ⟨#[]⟩], .bool false, .iface 83 (.int .i64 1)]) (by simp [results, Tryd.results21, go_sem]) rfl ?_
        exact ⟨rfl, by go_grown⟩
set_option maxHeartbeats 8000000 in
theorem mGet_own {S : Nat → Prop} {w : World} {m : Nat} {l : List Deed} {cs : List (List En)} (h : MeshAt S w m l cs) (hG : GoodM l cs) (node key floor : Int) (hn : nodeB cs.length node = true) (hk : stK key = true) (h0 : 0 ≤ floor) (h1 : floor ≤ l.length) {x0 x1 x2 : Int} {x3 : Bool} {x4 : ByteArray} (hg : getE (cacheN cs node) key = some ⟨x0, x1, x2, x3, x4⟩) (hf : floor ≤ x2) :
    Calls Tryd.prog 21 #[.pointer (some ⟨m, 0, none⟩), .int .i64 node, .int .i64 key, .int .i64 floor] w fun e w' => e = .returned (.tuple #[.agg #[.int .i64 x0, .int .i64 x1, .int .i64 x2, .bool x3, .string x4], .bool true, .nilIface]) ∧ Below w.heap.size w w' := by
  obtain ⟨F, b, c, h⟩ := h
  obtain ⟨i, rfl, hi⟩ := node_nat hn
  rw [cacheN_at hi] at hg
  have HFr : Hid (freshGet cs[i] key floor = (⟨x0, x1, x2, x3, x4⟩, 0)) := fresh_some (hG.all cs[i] (List.getElem_mem hi)).good hk h0 (by have := hG.len; omega) hg hf
  obtain ⟨v, hv, hr, _⟩ := h.rows i hi
  have hml := h.lt m h.sm
  have hcl := h.lt c h.sc
  have HB0 : Hid (Below w.heap.size w (w.alloc (.cells #[.int .i64 0, .int .i64 0, .int .i64 0, .bool false, .string ⟨#[]⟩] 26))) := (Below.refl _ _).alloc (Nat.le_refl _) _
  have HM : Hid (Mc S F (w.alloc (.cells #[.int .i64 0, .int .i64 0, .int .i64 0, .bool false, .string ⟨#[]⟩] 26)) m b c l cs) := h.blocks HB0.out.size (fun x hx => HB0.out.block x (h.lt x hx))
  have c0 := h.c0
  have c1 := h.c1
  have HR : Hid (RowIs (w.alloc (.cells #[.int .i64 0, .int .i64 0, .int .i64 0, .bool false, .string ⟨#[]⟩] 26)) v cs[i]) := hr.below HB0.out
  have HS : Hid (StoreIs (w.alloc (.cells #[.int .i64 0, .int .i64 0, .int .i64 0, .bool false, .string ⟨#[]⟩] 26)) b l F) := HM.out.st
  have HC1 : Hid ((w.alloc (.cells #[.int .i64 0, .int .i64 0, .int .i64 0, .bool false, .string ⟨#[]⟩] 26)).cell? ⟨m, 1, none⟩ = some (.slice (some ⟨c, 0, none⟩) cs.length cs.length)) := HM.out.c1
  have HN : Hid (nodeB cs.length (i : Int) = true) := hn
  have HK : Hid (stK key = true) := hk
  have hd : decide (floor < 0) = false := by simp; omega
  have hd2 : decide ((l.length : Int) < floor) = false := by simp; omega
  have hi2 : (i : Int) < (cs.length : Int) := by omega
  have X0 : Hid (BoxAt (w.alloc (.cells #[.int .i64 0, .int .i64 0, .int .i64 0, .bool false, .string ⟨#[]⟩] 26)) w.heap.size 0 0 0 false ⟨#[]⟩) := box_new w 0 0 0 false ⟨#[]⟩ _ rfl
  generalize cs[i] = y at HFr HR
  clear h HM hn hk h0 h1 hg hf hr hG hi
  go_enter Tryd.func21, Tryd.ntmps21
  go_wp2_with (first | (go_at_call 47; refine (isNode_b HN.out _ HC1.out).mono ?_; rintro e w' ⟨rfl, hw⟩; rw [hw]; clear hw w') | (go_at_call 48; refine (mKey_b HK.out _).mono ?_; rintro e w' ⟨rfl, hw⟩; rw [hw]; clear hw w') | (go_at_call 49; refine (seq_c b l F _ HS.out).mono ?_; rintro e w' ⟨rfl, hw⟩; rw [hw]; clear hw w'))
  refine (freshGet_o HFr.out _ _ HR.out).mono ?_
  rintro e w1 ⟨rfl, hb⟩
  rw [eV_zeroN]
  have B1 : Hid (Below w.heap.size w w1) := HB0.out.trans (hb.mono (by simp))
  have X1 : Hid (BoxAt w1 w.heap.size 0 0 0 false ⟨#[]⟩) := X0.out.below hb X0.out.lt
  have p1 : ¬ w.heap.size = w1.heap.size := by have := hb.size; simp at this; omega
  clear hb hv c0 c1 X0 HB0
  go_upto_region 5 with fail
  obtain ⟨w2, HW2⟩ : ∃ w2, w2 = w1.alloc (.cells #[.int .i64 x0, .int .i64 x1, .int .i64 x2, .bool x3, .string x4] 26) := ⟨_, rfl⟩
  rw [← HW2]
  have B2 : Hid (Below w.heap.size w w2) := by rw [HW2]; exact B1.out.alloc B1.out.size _
  have E2 : Hid (BoxAt w2 w.heap.size 0 0 0 false ⟨#[]⟩) := by rw [HW2]; exact X1.out.alloc _
  have F2 : Hid (BoxAt w2 w1.heap.size x0 x1 x2 x3 x4) := by rw [HW2]; exact box_new w1 x0 x1 x2 x3 x4 _ rfl
  clear HW2 B1 X1
  obtain ⟨e0, e1, e2, e3, e4, ef⟩ := E2.out
  obtain ⟨f0, f1, f2, f3, f4, ff⟩ := F2.out
  obtain ⟨z0, z1, z2, z3, z4, zf⟩ := (E2.out.set x0 x1 x2 x3 x4)
  go_wp2_with fail
  refine bodyPost_ret (v := .tuple #[.agg #[.int .i64 x0, .int .i64 x1, .int .i64 x2, .bool x3, .string x4], .bool true, .nilIface]) (by simp [results, Tryd.results21, go_sem, z0, z1, z2, z3, z4]) rfl ?_
  refine ⟨rfl, ?_⟩
  have hle := B2.out.size
  have hb := B2.out
  go_grown
set_option maxHeartbeats 8000000 in
theorem mGet_learn {S : Nat → Prop} {w : World} {m : Nat} {l : List Deed} {cs : List (List En)} (h : MeshAt S w m l cs) (hG : GoodM l cs) (node key floor : Int) (hn : nodeB cs.length node = true) (hk : stK key = true) (h0 : 0 ≤ floor) (h1 : floor ≤ l.length) {x0 x1 x2 : Int} {x3 : Bool} {x4 : ByteArray} (hg : ∀ x, getE (cacheN cs node) key = some x → x.a < floor) (hx : wasE l key l.length = ⟨x0, x1, x2, x3, x4⟩) :
    Calls Tryd.prog 21 #[.pointer (some ⟨m, 0, none⟩), .int .i64 node, .int .i64 key, .int .i64 floor] w fun e w' => e = .returned (.tuple #[.agg #[.int .i64 x0, .int .i64 x1, .int .i64 x2, .bool x3, .string x4], .bool false, .nilIface]) ∧ MeshTo S w w' m l (learnM l cs node key) := by
  obtain ⟨F, b, c, h⟩ := h
  obtain ⟨i, rfl, hi⟩ := node_nat hn
  rw [cacheN_at hi] at hg
  obtain ⟨ne, hne, hfr⟩ := fresh_other (hG.all cs[i] (List.getElem_mem hi)).good hk h0 (by have := hG.len; omega) hg
  have HFr : Hid (freshGet cs[i] key floor = (⟨0, 0, 0, false, ⟨#[]⟩⟩, ne)) := hfr
  have HNe : Hid (eV ne = .iface 83 (.int .i64 ne)) := eV_errN hne
  obtain ⟨v, hv, hr, _⟩ := h.rows i hi
  have hml := h.lt m h.sm
  have hcl := h.lt c h.sc
  have HB0 : Hid (Below w.heap.size w (w.alloc (.cells #[.int .i64 0, .int .i64 0, .int .i64 0, .bool false, .string ⟨#[]⟩] 26))) := (Below.refl _ _).alloc (Nat.le_refl _) _
  have HMw : Hid (Mc S F w m b c l cs) := h
  have HM : Hid (Mc S F (w.alloc (.cells #[.int .i64 0, .int .i64 0, .int .i64 0, .bool false, .string ⟨#[]⟩] 26)) m b c l cs) := h.blocks HB0.out.size (fun x hx => HB0.out.block x (h.lt x hx))
  have HG : Hid (GoodM l cs) := hG
  have HI : Hid (i < cs.length) := hi
  have HX : Hid (wasE l key l.length = ⟨x0, x1, x2, x3, x4⟩) := hx
  have c0 := h.c0
  have c1 := h.c1
  have HR : Hid (RowIs (w.alloc (.cells #[.int .i64 0, .int .i64 0, .int .i64 0, .bool false, .string ⟨#[]⟩] 26)) v cs[i]) := hr.below HB0.out
  have HC1 : Hid ((w.alloc (.cells #[.int .i64 0, .int .i64 0, .int .i64 0, .bool false, .string ⟨#[]⟩] 26)).cell? ⟨m, 1, none⟩ = some (.slice (some ⟨c, 0, none⟩) cs.length cs.length)) := HM.out.c1
  have HN : Hid (nodeB cs.length (i : Int) = true) := hn
  have HK : Hid (stK key = true) := hk
  have hd : decide (floor < 0) = false := by simp; omega
  have hd2 : decide ((l.length : Int) < floor) = false := by simp; omega
  have hi2 : (i : Int) < (cs.length : Int) := by omega
  have X0 : Hid (BoxAt (w.alloc (.cells #[.int .i64 0, .int .i64 0, .int .i64 0, .bool false, .string ⟨#[]⟩] 26)) w.heap.size 0 0 0 false ⟨#[]⟩) := box_new w 0 0 0 false ⟨#[]⟩ _ rfl
  generalize cs[i] = y at HFr HR
  clear h hn hk h0 h1 hg hr hG hi hx hne hfr
  go_enter Tryd.func21, Tryd.ntmps21
  go_wp2_with (first | (go_at_call 47; refine (isNode_b HN.out _ HC1.out).mono ?_; rintro e w' ⟨rfl, hw⟩; rw [hw]; clear hw w') | (go_at_call 48; refine (mKey_b HK.out _).mono ?_; rintro e w' ⟨rfl, hw⟩; rw [hw]; clear hw w') | (go_at_call 49; refine (seq_c b l F _ HM.out.st).mono ?_; rintro e w' ⟨rfl, hw⟩; rw [hw]; clear hw w'))
  refine (freshGet_o HFr.out _ _ HR.out).mono ?_
  rintro e w1 ⟨rfl, hb⟩
  rw [HNe.out]
  have B1 : Hid (Below w.heap.size w (w1.alloc (.cells #[.int .i64 0, .int .i64 0, .int .i64 0, .bool false, .string ⟨#[]⟩] 26))) := (HB0.out.trans (hb.mono (by simp))).alloc (by have := hb.size; simp at this; omega) _
  have X1 : Hid (BoxAt (w1.alloc (.cells #[.int .i64 0, .int .i64 0, .int .i64 0, .bool false, .string ⟨#[]⟩] 26)) w.heap.size 0 0 0 false ⟨#[]⟩) := (X0.out.below hb X0.out.lt).alloc _
  clear hb hv c0 c1 X0 HB0 HM
  go_upto_region 6 with fail
  obtain ⟨w2, HW2⟩ : ∃ w2, w2 = w1.alloc (.cells #[.int .i64 0, .int .i64 0, .int .i64 0, .bool false, .string ⟨#[]⟩] 26) := ⟨_, rfl⟩
  obtain ⟨P, HP⟩ : ∃ z, Hid (z = w.heap.size) := ⟨_, rfl⟩
  rw [← HW2] at B1 X1
  rw [← HP.out] at X1
  rw [← HW2, ← HP.out]
  clear HW2
  have M2 : Hid (Mc S F w2 m b c l cs) := HMw.out.blocks B1.out.size (fun z hz => B1.out.block z (HMw.out.lt z hz))
  go_wp2_with fail
  refine (learn_c M2.out HG.out i HI.out HK.out HX.out).mono ?_
  rintro e w3 ⟨rfl, hto⟩
  have T3 : Hid (MeshTo S w2 w3 m l (learnM l cs i key)) := hto
  have hPlt := X1.out.lt
  have X3 : Hid (BoxAt w3 P 0 0 0 false ⟨#[]⟩) := X1.out.of_block (hto.1.block P hPlt (fun hs => by have h1 := HMw.out.lt P hs; have h2 := HP.out; omega))
  clear hto
  have hsz3 := T3.out.1.size
  go_upto_region 7 with fail
  have X4 : Hid (BoxAt (w3.alloc (.cells #[.int .i64 x0, .int .i64 x1, .int .i64 x2, .bool x3, .string x4] 26)) P 0 0 0 false ⟨#[]⟩) := X3.out.alloc _
  have Y4 : Hid (BoxAt (w3.alloc (.cells #[.int .i64 x0, .int .i64 x1, .int .i64 x2, .bool x3, .string x4] 26)) w3.heap.size x0 x1 x2 x3 x4) := box_new w3 x0 x1 x2 x3 x4 _ rfl
  have hEnd : Hid (MeshTo S w ((((((w3.alloc (.cells #[.int .i64 x0, .int .i64 x1, .int .i64 x2, .bool x3, .string x4] 26)).setCell ⟨P, 0, none⟩ (.int .i64 x0)).setCell ⟨P, 1, none⟩ (.int .i64 x1)).setCell ⟨P, 2, none⟩ (.int .i64 x2)).setCell ⟨P, 3, none⟩ (.bool x3)).setCell ⟨P, 4, none⟩ (.string x4)) m l (learnM l cs i key)) :=
    get_end HMw.out.lt (by have := HP.out; omega) hPlt B1.out T3.out ((Below.refl _ _).alloc (Nat.le_refl _) _) _ _ _ _ _
  obtain ⟨w4, HW4⟩ : ∃ z, z = w3.alloc (.cells #[.int .i64 x0, .int .i64 x1, .int .i64 x2, .bool x3, .string x4] 26) := ⟨_, rfl⟩
  obtain ⟨Y, HY⟩ : ∃ z, z = w3.heap.size := ⟨_, rfl⟩
  rw [← HW4] at X4 Y4 hEnd
  rw [← HY] at Y4
  rw [← HW4, ← HY]
  clear HW4 HY X3 B1 X1 M2 T3 hsz3
  obtain ⟨z0, z1, z2, z3, z4, zf⟩ := (X4.out.set x0 x1 x2 x3 x4)
  obtain ⟨y0, y1, y2, y3, y4, yf⟩ := Y4.out
  obtain ⟨e0, e1, e2, e3, e4, ef⟩ := X4.out
  go_wp2_with fail
  refine bodyPost_ret (v := .tuple #[.agg #[.int .i64 x0, .int .i64 x1, .int .i64 x2, .bool x3, .string x4], .bool false, .nilIface]) (by simp [results, Tryd.results21, go_sem, z0, z1, z2, z3, z4]) rfl ?_
  exact ⟨rfl, hEnd.out⟩
/-- Get, with letters -/
theorem mGet_o {S : Nat → Prop} {w : World} {m : Nat} {l : List Deed} {cs cs' : List (List En)} (h : MeshAt S w m l cs) (hG : GoodM l cs) {node key floor x0 x1 x2 n : Int} {x3 had : Bool} {x4 : ByteArray} (hx : mGet l cs node key floor = (cs', ⟨x0, x1, x2, x3, x4⟩, had, n)) :
    Calls Tryd.prog 21 #[.pointer (some ⟨m, 0, none⟩), .int .i64 node, .int .i64 key, .int .i64 floor] w fun e w' => e = .returned (.tuple #[.agg #[.int .i64 x0, .int .i64 x1, .int .i64 x2, .bool x3, .string x4], .bool had, eV n]) ∧ MeshTo S w w' m l cs' := by
  by_cases hb : nodeB cs.length node = false ∨ stK key = false ∨ floor < 0 ∨ (l.length : Int) < floor
  · rw [mGet, if_pos hb] at hx
    injection hx with e1 hx
    injection hx with e2 hx
    injection hx with e3 e4
    injection e2 with a0 a1 a2 a3 a4
    subst e1 e3 e4 a0 a1 a2 a3 a4
    refine (mGet_bad h node key floor hb).mono ?_
    rintro e w' ⟨rfl, hw⟩
    exact ⟨by rw [eV_errN (by omega)], h.to hw⟩
  · rw [mGet, if_neg hb] at hx
    have hn : nodeB cs.length node = true := by
      cases hq : nodeB cs.length node
      · exact absurd (.inl hq) hb
      · rfl
    have hk : stK key = true := by
      cases hq : stK key
      · exact absurd (.inr (.inl hq)) hb
      · rfl
    have h0 : 0 ≤ floor := by
      rcases Int.lt_or_le floor 0 with h' | h'
      · exact absurd (.inr (.inr (.inl h'))) hb
      · exact h'
    have h1 : floor ≤ l.length := by
      rcases Int.lt_or_le l.length floor with h' | h'
      · exact absurd (.inr (.inr (.inr h'))) hb
      · exact h'
    have other : (∀ x, getE (cacheN cs node) key = some x → x.a < floor) → ((learnM l cs node key, wasE l key l.length, false, (0 : Int)) = (cs', (⟨x0, x1, x2, x3, x4⟩ : En), had, n)) → Calls Tryd.prog 21 #[.pointer (some ⟨m, 0, none⟩), .int .i64 node, .int .i64 key, .int .i64 floor] w fun e w' => e = .returned (.tuple #[.agg #[.int .i64 x0, .int .i64 x1, .int .i64 x2, .bool x3, .string x4], .bool had, eV n]) ∧ MeshTo S w w' m l cs' := by
      intro hg he
      injection he with e1 he
      injection he with e2 he
      injection he with e3 e4
      subst e1 e3 e4
      refine (mGet_learn h hG node key floor hn hk h0 h1 hg e2).mono ?_
      rintro e w' ⟨rfl, hw⟩
      exact ⟨by rw [eV_zeroN], hw⟩
    cases hg : getE (cacheN cs node) key with
    | none =>
      rw [hg] at hx
      exact other (fun x hx' => by rw [hg] at hx'; cases hx') hx
    | some x =>
      rw [hg] at hx
      dsimp only at hx
      by_cases hf : floor ≤ x.a
      · rw [if_pos hf] at hx
        injection hx with e1 hx
        injection hx with e2 hx
        injection hx with e3 e4
        subst e1 e2 e3 e4
        refine (mGet_own h hG node key floor hn hk h0 h1 hg hf).mono ?_
        rintro e w' ⟨rfl, hw⟩
        exact ⟨by rw [eV_zeroN], h.to hw⟩
      · rw [if_neg hf] at hx
        exact other (fun y hy => by rw [hg] at hy; obtain rfl := Option.some.inj hy; omega) hx
end Go.Proofs.YtliaidgedjjobaaDoor

namespace Go.Proofs.YtliaidgedjjobaaDoor
set_option linter.unusedVariables false
set_option linter.unusedSimpArgs false
open Go.RowKit

/-- what was just put is told by who put it -/
theorem put_get {l l' : List Deed} {cs cs' : List (List En)} {node key k : Int} {t : ByteArray} (hG : GoodM l cs) (h : mPut l cs node key t = ⟨l', cs', k, 0⟩) :
    mGet l' cs' node key k = (cs', ⟨key, k, k, false, t⟩, true, 0) := by
  unfold mPut mDone at h
  split at h
  · injection h with _ _ _ h4
    cases h4
  · rename_i hn
    have hn : nodeB cs.length node = true := by
      cases hq : nodeB cs.length node
      · exact absurd hq hn
      · rfl
    split at h
    · rename_i he
      injection h with _ _ _ h4
      exact absurd h4 he
    · rename_i he
      have he : (putO l key t).err = 0 := by simpa using he
      obtain ⟨h1, h2, h3, h4⟩ := put_fine he
      have hg := good_put l key t hG.good
      rw [h4] at h hg
      injection h with e1 e2 e3 _
      dsimp only at e1 e2 e3
      have hlen : (l ++ [⟨key, false, t⟩] : List Deed).length = l.length + 1 := by simp
      have hGl : GoodM (l ++ [⟨key, false, t⟩]) cs := hG.later hg (by rw [hlen]; omega)
      have hw := was_mk h1 (Nat.le_refl (l ++ [⟨key, false, t⟩] : List Deed).length)
      obtain ⟨p1, p2, z, p3, p4⟩ := put_was hGl.good hGl.len (hGl.at node) hw
      have hlast : lastOf (l ++ [⟨key, false, t⟩]) key = ⟨(l.length : Int) + 1, false, t⟩ := by rw [lastOf_snoc, if_pos rfl]
      have hwe : wasE (l ++ [⟨key, false, t⟩]) key (l ++ [⟨key, false, t⟩] : List Deed).length = ⟨key, k, k, false, t⟩ := by
        rw [wasE, List.take_length, hlast, hlen, ← e3]
        simp
      have hzw := p2.was z ((getE_iff p2.good.rise).1 p3).1
      have hzk : z.k = key := ((getE_iff p2.good.rise).1 p3).2
      have hz : z = ⟨key, k, k, false, t⟩ := by
        obtain ⟨_, s, hs, ez⟩ := hzw
        rw [hzk] at ez
        have hza : z.a = s := by rw [ez]; rfl
        have hwa : (wasE (l ++ [⟨key, false, t⟩]) key (l ++ [⟨key, false, t⟩] : List Deed).length).a = ((l ++ [⟨key, false, t⟩] : List Deed).length : Int) := rfl
        have hsl : s = (l ++ [⟨key, false, t⟩] : List Deed).length := by rw [hwa, hza] at p4; omega
        rw [ez, hsl, hwe]
      obtain ⟨i, rfl, hi⟩ : ∃ i : Nat, node = i ∧ i < cs.length := by
        rw [nodeB_iff] at hn
        exact ⟨node.toNat, by omega, by omega⟩
      have hcn : cacheN cs' (i : Int) = (putE (cacheN cs i) (wasE (l ++ [⟨key, false, t⟩]) key (l ++ [⟨key, false, t⟩] : List Deed).length)).1 := by
        rw [← e2]
        unfold cacheN learnM learnC
        rw [List.getD_eq_getElem?_getD, Int.toNat_natCast, List.getElem?_set_self hi]
        rfl
      have hlc : cs'.length = cs.length := by rw [← e2]; exact learnM_len _ _ _ _
      have hkl : k = (l'.length : Int) := by rw [← e3, ← e1, hlen]; simp
      rw [mGet, if_neg (by rw [hlc, hn, h1]; simp; omega), hcn]
      have hgz : getE (putE (cacheN cs i) (wasE (l ++ [⟨key, false, t⟩]) key (l ++ [⟨key, false, t⟩] : List Deed).length)).1 key = some z := p3
      rw [hgz, hz]
      show (if k ≤ k then _ else _) = _
      rw [if_pos (Int.le_refl _)]
/-- what is told is not older than it was asked for, and was so -/
theorem get_told {l : List Deed} {cs cs' : List (List En)} {node key floor : Int} {x : En} {had : Bool} (hG : GoodM l cs) (h : mGet l cs node key floor = (cs', x, had, 0)) : floor ≤ x.a ∧ x.k = key ∧ Was l x := by
  unfold mGet at h
  split at h
  · simp at h
  · rename_i hb
    have h1 : floor ≤ l.length := by
      rcases Int.lt_or_le l.length floor with h' | h'
      · exact absurd (.inr (.inr (.inr h'))) hb
      · exact h'
    have hk : stK key = true := by
      cases hq : stK key
      · exact absurd (.inr (.inl hq)) hb
      · rfl
    have other : ((learnM l cs node key, wasE l key l.length, false, (0 : Int)) = (cs', x, had, (0 : Int))) → floor ≤ x.a ∧ x.k = key ∧ Was l x := by
      intro he
      injection he with _ he
      injection he with he _
      rw [← he]
      exact ⟨h1, rfl, was_mk hk (Nat.le_refl _)⟩
    split at h
    · rename_i y hy
      split at h
      · rename_i hf
        injection h with _ h
        injection h with h _
        rw [← h]
        have := (getE_iff (hG.at node).good.rise).1 hy
        exact ⟨hf, this.2, (hG.at node).was y this.1⟩
      · exact other h
    · exact other h
/-- from its version on, up to its time, each time tells the same -/
theorem was_between {l : List Deed} {x : En} {q : Nat} (h : Was l x) (h1 : x.v ≤ q) (h2 : (q : Int) ≤ x.a) : q ≤ l.length ∧ wasE l x.k q = ⟨x.k, x.v, q, x.g, x.t⟩ := by
  obtain ⟨hk, s, hs, he⟩ := h
  have ha : x.a = s := by rw [he]; rfl
  have hv : x.v = (lastOf (l.take s) x.k).ver := by rw [he]; rfl
  have hg : x.g = (lastOf (l.take s) x.k).gone := by rw [he]; rfl
  have ht : x.t = (lastOf (l.take s) x.k).text := by rw [he]; rfl
  have e := lastOf_between l x.k s q hs (by rw [← hv]; exact h1) (by omega)
  refine ⟨by omega, ?_⟩
  rw [wasE, e, ← hv, ← hg, ← ht]
theorem Was.span {l : List Deed} {x : En} (h : Was l x) : 0 ≤ x.v ∧ x.v ≤ x.a ∧ x.a ≤ l.length := by
  obtain ⟨hk, s, hs, he⟩ := h
  have ha : x.a = s := by rw [he]; rfl
  have hv : x.v = (lastOf (l.take s) x.k).ver := by rw [he]; rfl
  have := lastOf_take_ver l x.k s
  omega
end Go.Proofs.YtliaidgedjjobaaDoor

namespace Go.Proofs.YtliaidgedjjobaaDoor
set_option linter.unusedVariables false
set_option linter.unusedSimpArgs false
open Go.RowKit

theorem some_was {l : List Deed} {c : List En} {K : List Int} (h : GoodC l c) : ∀ e ∈ someE c K, Was l e := fun e he => h.was e (List.mem_filter.1 he).1
/-- two caches of what was so swap without a clash -/
theorem pair_was {l : List Deed} {a b : List En} (hl : Good l) (h1 : l.length ≤ 1000) (ha : GoodC l a) (hb : GoodC l b) : ∃ x y, pairW a b = (x, y, 0) ∧ GoodC l x ∧ GoodC l y := by
  obtain ⟨x, hx, gx⟩ := all_was hl h1 ha (some_was hb (K := lackK a b))
  obtain ⟨y, hy, gy⟩ := all_was hl h1 hb (some_was ha (K := lackK a b))
  exact ⟨x, y, pairW_ok (bad2_both ha.good.bad hb.good.bad) hx hy, gx, gy⟩
/-- what Swap leaves: the caches, the fault -/
def mSwap (cs : List (List En)) (a b : Int) : List (List En) × Int :=
  if nodeB cs.length a = false ∨ nodeB cs.length b = false then (cs, 1) else if a = b then (cs, 3)
  else ((cs.set a.toNat (pairW (cacheN cs a) (cacheN cs b)).1).set b.toNat (pairW (cacheN cs a) (cacheN cs b)).2.1, 0)
theorem mSwap_good {l : List Deed} {cs : List (List En)} (h : GoodM l cs) (a b : Int) : GoodM l (mSwap cs a b).1 := by
  unfold mSwap
  split
  · exact h
  · split
    · exact h
    · obtain ⟨x, y, hp, gx, gy⟩ := pair_was h.good h.len (h.at a) (h.at b)
      rw [hp]
      exact (h.set _ gx).set _ gy
theorem mSwap_len (cs : List (List En)) (a b : Int) : (mSwap cs a b).1.length = cs.length := by
  unfold mSwap
  split
  · rfl
  · split
    · rfl
    · simp
theorem TabIs_below {w w' : World} (h : Lib.TabIs Tryd.prog w powName .u64 Lib.pow10Tab) (hb : Below w.heap.size w w') : Lib.TabIs Tryd.prog w' powName .u64 Lib.pow10Tab := Lib.tabBelow_of_tabIs h w' hb
/-- behind Pair: both rows are stored -/
theorem swap_end {S F : Nat → Prop} {w w4 : World} {m b c : Nat} {l : List Deed} {cs : List (List En)} {i j : Nat} {v1 v2 : Value} {x y : List En} (h : Mc S F w m b c l cs) (hi : i < cs.length) (hj : j < cs.length) (hb : Below w.heap.size w w4)
    (r1 : RowIs w4 v1 x) (r2 : RowIs w4 v2 y) (f1 : ∀ g, v1.ownBlock = some g → w.heap.size ≤ g ∧ g < w4.heap.size) (f2 : ∀ g, v2.ownBlock = some g → w.heap.size ≤ g ∧ g < w4.heap.size) :
    MeshTo S w ((w4.setCell ⟨c, i, none⟩ v1).setCell ⟨c, j, none⟩ v2) m l ((cs.set i x).set j y) := by
  have h4 : Mc S F w4 m b c l cs := h.blocks hb.size (fun y hy => hb.block y (h.lt y hy))
  have hn : ∀ g, (w.heap.size ≤ g ∧ g < w4.heap.size) → ¬ S g := fun g hg hs => by have := h.lt g hs; omega
  have h5 := h4.row i hi r1 (fun g hg => ⟨h.out (hn g (f1 g hg)), (f1 g hg).2⟩)
  have hk : Kept S w ((w4.setCell ⟨c, i, none⟩ v1).setCell ⟨c, j, none⟩ v2) := ((Kept.of_below hb).setC c i (.inl h.sc) v1).setC c j (.inl h.sc) v2
  have hcl := h.lt c h.sc
  have r2' : RowIs (w4.setCell ⟨c, i, none⟩ v1) v2 y := r2.blocks (by rw [World.size_setCell]; exact Nat.le_refl _) (fun g hg _ => Below.heap_setCell _ _ _ g (by have := (f2 g hg).1; simp; omega))
  have h6 := h5.row j (by rw [List.length_set]; exact hj) r2' (fun g hg => ⟨h.out (hn g (f2 g hg)), by rw [World.size_setCell]; exact (f2 g hg).2⟩)
  refine ⟨hk, _, ⟨F, b, c, h6⟩, fun z hz => ?_⟩
  rcases hz with (hz | hz) | hz
  · exact .inl hz
  · exact .inr (f1 z hz).1
  · exact .inr (f2 z hz).1
set_option maxHeartbeats 4000000 in
theorem mSwap_bad {S : Nat → Prop} {w : World} {m : Nat} {l : List Deed} {cs : List (List En)} (h : MeshAt S w m l cs) (a b : Int) (hb : nodeB cs.length a = false ∨ nodeB cs.length b = false) :
    Calls Tryd.prog 23 #[.pointer (some ⟨m, 0, none⟩), .int .i64 a, .int .i64 b] w fun e w' => e = .returned (.iface 83 (.int .i64 1)) ∧ w' = w := by
  obtain ⟨F, bs, c, h⟩ := h
  have c1 := h.c1
  clear h
  cases ha : nodeB cs.length a
  · have HN : Hid (nodeB cs.length a = false) := ha
    clear ha hb
    go_enter Tryd.func23, Tryd.ntmps23
    go_wp2_with (go_at_call 47; refine (isNode_b HN.out _ (by assumption)).mono ?_; rintro e w' ⟨rfl, hw⟩; rw [hw]; clear hw w')
    go_ret
    exact ⟨rfl, rfl⟩
  · have HN : Hid (nodeB cs.length a = true) := ha
    rw [ha] at hb
    have HN2 : Hid (nodeB cs.length b = false) := hb.resolve_left (by simp)
    clear ha hb
    go_enter Tryd.func23, Tryd.ntmps23
    go_wp2_with fail
    refine (isNode_b HN.out _ (by assumption)).mono ?_
    rintro e w' ⟨rfl, hw⟩
    rw [hw]
    clear hw w'
    go_wp2_with fail
    refine (isNode_b HN2.out _ (by assumption)).mono ?_
    rintro e w' ⟨rfl, hw⟩
    rw [hw]
    clear hw w'
    go_wp2_with fail
    go_ret
    exact ⟨rfl, rfl⟩
theorem mSwap_self {S : Nat → Prop} {w : World} {m : Nat} {l : List Deed} {cs : List (List En)} (h : MeshAt S w m l cs) (a : Int) (ha : nodeB cs.length a = true) :
    Calls Tryd.prog 23 #[.pointer (some ⟨m, 0, none⟩), .int .i64 a, .int .i64 a] w fun e w' => e = .returned (.iface 83 (.int .i64 3)) ∧ w' = w := by
  obtain ⟨F, bs, c, h⟩ := h
  have c1 := h.c1
  have HN : Hid (nodeB cs.length a = true) := ha
  clear h ha
  go_enter Tryd.func23, Tryd.ntmps23
  go_wp2_with (go_at_call 47; refine (isNode_b HN.out _ (by assumption)).mono ?_; rintro e w' ⟨rfl, hw⟩; rw [hw]; clear hw w')
  go_ret
  exact ⟨rfl, rfl⟩
set_option maxRecDepth 100000 in
set_option maxHeartbeats 8000000 in
theorem mSwap_two {S : Nat → Prop} {w : World} {m : Nat} {l : List Deed} {cs : List (List En)} (h : MeshAt S w m l cs) (hG : GoodM l cs) (i j : Nat) (hi : i < cs.length) (hj : j < cs.length) (hij : i ≠ j) {x y : List En} (hp : pairW cs[i] cs[j] = (x, y, 0)) (hT : Lib.TabIs Tryd.prog w powName .u64 Lib.pow10Tab) :
    Calls Tryd.prog 23 #[.pointer (some ⟨m, 0, none⟩), .int .i64 i, .int .i64 j] w fun e w' => e = .returned .nilIface ∧ MeshTo S w w' m l ((cs.set i x).set j y) := by
  obtain ⟨F, bs, c, h⟩ := h
  have HM : Hid (Mc S F w m bs c l cs) := h
  have HN : Hid (nodeB cs.length (i : Int) = true) := by show _ = _; rw [nodeB_iff]; omega
  have HN2 : Hid (nodeB cs.length (j : Int) = true) := by show _ = _; rw [nodeB_iff]; omega
  have HI : Hid (i < cs.length ∧ j < cs.length ∧ i ≠ j) := ⟨hi, hj, hij⟩
  have c1 := h.c1
  obtain ⟨vi, ci, hri, _⟩ := h.rows i hi
  obtain ⟨vj, cj, hrj, _⟩ := h.rows j hj
  have HPr : Hid (∀ W, Below w.heap.size w W → Calls Tryd.prog 54 #[vi, vj] W fun e w' => ∃ v1 v2, e = .returned (.tuple #[v1, v2, .nilIface]) ∧ RowIs w' v1 x ∧ RowIs w' v2 y ∧ (∀ g, v1.ownBlock = some g → W.heap.size ≤ g ∧ g < w'.heap.size) ∧ (∀ g, v2.ownBlock = some g → W.heap.size ≤ g ∧ g < w'.heap.size) ∧ Below W.heap.size W w') := fun W hW => pairF_ok vi vj _ _ W (hri.below hW) (hrj.below hW) hp (TabIs_below hT hW)
  have hml := h.lt m h.sm
  have hcl := h.lt c h.sc
  obtain ⟨nc, HNc⟩ : ∃ nc, Hid (cs.length = nc) := ⟨_, rfl⟩
  have hi2 : (i : Int) < (nc : Int) := by have := HNc.out; omega
  have hj2 : (j : Int) < (nc : Int) := by have := HNc.out; omega
  have hij2 : ((i : Int) == (j : Int)) = false := by simp; omega
  rw [HNc.out] at c1 HN HN2
  clear h hi hj hij hri hrj hp hT hG
  go_enter Tryd.func23, Tryd.ntmps23
  go_wp2_with fail
  refine (isNode_b HN.out _ (by assumption)).mono ?_
  rintro e w' ⟨rfl, hw⟩
  rw [hw]
  clear hw w'
  go_wp2_with fail
  refine (isNode_b HN2.out _ (by assumption)).mono ?_
  rintro e w' ⟨rfl, hw⟩
  rw [hw]
  clear hw w'
  go_upto_region 5 with fail
  go_region_held3 (fun w' => w'.cell? ⟨m, 1, none⟩ = some (.slice (some ⟨c, 0, none⟩) nc nc) ∧ w'.cell? ⟨c, i, none⟩ = some vi ∧ w'.cell? ⟨c, j, none⟩ = some vj) (first | go_keep | (exact ⟨kept_cell HB3.out c1, kept_cell HB3.out ci, kept_cell HB3.out cj⟩)) (first | (go_at_call 54; refine Calls.mono (HPr.out _ ?_) ?_; exact ⟨rfl, rfl, rfl, Nat.le_refl _, fun _ _ => rfl⟩; rintro e w3 ⟨v1, v2, rfl, hr1, hr2, hf1, hf2, hb3⟩; have HB3 : Hid (Below w.heap.size w w3) := below_undrew hb3; clear hb3))
  have R1 : Hid (RowIs w3 v1 x) := hr1
  have R2 : Hid (RowIs w3 v2 y) := hr2
  obtain ⟨_, p1, q1, rfl, _⟩ := hr1
  obtain ⟨_, p2, q2, rfl, _⟩ := hr2
  have M3 : Hid (Mc S F w3 m bs c l cs) := HM.out.blocks HB3.out.size (fun z hz => HB3.out.block z (HM.out.lt z hz))
  have E1 : Hid (MeshTo S w ((w3.setCell ⟨c, i, none⟩ (.slice p1 x.length q1)).setCell ⟨c, j, none⟩ (.slice p2 y.length q2)) m l ((cs.set i x).set j y)) := swap_end HM.out HI.out.1 HI.out.2.1 HB3.out R1.out R2.out hf1 hf2
  have E2 : Hid (MeshTo S w ((w3.setCell ⟨c, j, none⟩ (.slice p2 y.length q2)).setCell ⟨c, i, none⟩ (.slice p1 x.length q1)) m l ((cs.set i x).set j y)) := by
    show MeshTo _ _ _ _ _ _
    rw [List.set_comm _ _ HI.out.2.2]
    exact swap_end HM.out HI.out.2.1 HI.out.1 HB3.out R2.out R1.out hf2 hf1
  have e1 := M3.out.c1
  rw [HNc.out] at e1
  have ef := M3.out.fz
  have e2 : w3.cell? ⟨c, i, none⟩ = some vi := kept_cell HB3.out ci
  have e3 : w3.cell? ⟨c, j, none⟩ = some vj := kept_cell HB3.out cj
  have hml3 : m < w3.heap.size := Nat.lt_of_lt_of_le hml HB3.out.size
  have hcl3 : c < w3.heap.size := Nat.lt_of_lt_of_le hcl HB3.out.size
  have hmc := HM.out.mc
  have hijn : i ≠ j := HI.out.2.2
  clear c1 ci cj hf1 hf2 M3 R1 R2
  go_upto_region 8 with fail
  go_cut [] (fun wd => Hid (MeshTo S w wd m l ((cs.set i x).set j y)))
  case first =>
    go_region
    all_goals go_wp2_with fail
    all_goals go_meet
    all_goals first | exact E1 | exact E2 | exact E1.out.below (below_drewN _ _ _) | exact E2.out.below (below_drewN _ _ _)
  case rest =>
  have HT : Hid _ := hcut
  clear hcut
  go_wp2_with fail
  go_ret
  exact ⟨rfl, HT.out⟩
/-- Swap, with letters -/
theorem mSwap_o {S : Nat → Prop} {w : World} {m : Nat} {l : List Deed} {cs cs' : List (List En)} (h : MeshAt S w m l cs) (hG : GoodM l cs) {a b n : Int} (hx : mSwap cs a b = (cs', n)) (hT : Lib.TabIs Tryd.prog w powName .u64 Lib.pow10Tab) :
    Calls Tryd.prog 23 #[.pointer (some ⟨m, 0, none⟩), .int .i64 a, .int .i64 b] w fun e w' => e = .returned (eV n) ∧ MeshTo S w w' m l cs' := by
  by_cases hb : nodeB cs.length a = false ∨ nodeB cs.length b = false
  · rw [mSwap, if_pos hb] at hx
    injection hx with e1 e2
    subst e1 e2
    refine (mSwap_bad h a b hb).mono ?_
    rintro e w' ⟨rfl, hw⟩
    exact ⟨by rw [eV_errN (by omega)], by rw [hw]; exact h.to (Below.refl _ _)⟩
  · rw [mSwap, if_neg hb] at hx
    have ha : nodeB cs.length a = true := by
      cases hq : nodeB cs.length a
      · exact absurd (.inl hq) hb
      · rfl
    have hb' : nodeB cs.length b = true := by
      cases hq : nodeB cs.length b
      · exact absurd (.inr hq) hb
      · rfl
    by_cases hab : a = b
    · rw [if_pos hab] at hx
      injection hx with e1 e2
      subst e1 e2 hab
      refine (mSwap_self h a ha).mono ?_
      rintro e w' ⟨rfl, hw⟩
      exact ⟨by rw [eV_errN (by omega)], by rw [hw]; exact h.to (Below.refl _ _)⟩
    · rw [if_neg hab] at hx
      obtain ⟨i, rfl, hi⟩ := node_nat ha
      obtain ⟨j, rfl, hj⟩ := node_nat hb'
      obtain ⟨x, y, hp, _, _⟩ := pair_was hG.good hG.len (hG.all cs[i] (List.getElem_mem hi)) (hG.all cs[j] (List.getElem_mem hj))
      rw [cacheN_at hi, cacheN_at hj, hp] at hx
      injection hx with e1 e2
      subst e1 e2
      refine (mSwap_two h hG i j hi hj (fun e => hab (by rw [e])) hp hT).mono ?_
      rintro e w' ⟨rfl, hw⟩
      exact ⟨by rw [eV_zeroN], hw⟩
end Go.Proofs.YtliaidgedjjobaaDoor
