/-
  A mesh on lists: what its caches have was so; what put, delete, get and swap leave of it.
  errors.As, plain.Told and meresame.Error by their contracts, where the error is nil or an api.Errno: Told gives 0, or the number; Error tells whether that is the number asked for; nothing old in memory turns.
  plain.Told and meresame.Error by their contracts, where the error is nil or an api.Errno: Told gives 0, or the number; Error tells whether that is the number asked for; nothing old in memory turns.
-/
import Derived.Test.YtpcnfoaoajfhlaaGreatDoorRaaa
import Derived.Test.YtpcnfoaoajfhlaaGreatDoorRaag
import Derived.Test.YtpcnfoaoajfhlaaGreatDoorRows
import Derived.WalkKit
import Derived.LaidEql
import Derived.Stop.Asserts
import Derived.RowKitTokens
import Derived.Handy
namespace Go.Proofs.YtpcnfoaoajfhlaaGreatDoor
set_option linter.unusedVariables false
set_option linter.unusedSimpArgs false
set_option linter.unusedVariables false
set_option linter.unusedSimpArgs false
open Go.RowKit

/-- what the store tells of a key at a number -/
def wasE (l : List Deed) (k : Int) (s : Nat) : En := ⟨k, (lastOf (l.take s) k).ver, s, (lastOf (l.take s) k).gone, (lastOf (l.take s) k).text⟩
/-- it was so -/
def Was (l : List Deed) (x : En) : Prop := stK x.k = true ∧ ∃ s : Nat, s ≤ l.length ∧ x = wasE l x.k s
theorem was_mk {l : List Deed} {k : Int} {s : Nat} (hk : stK k = true) (hs : s ≤ l.length) : Was l (wasE l k s) := ⟨hk, s, hs, rfl⟩
theorem wasE_bad {l : List Deed} {k : Int} {s : Nat} (hl : Good l) (h1 : l.length ≤ 1000) (hk : stK k = true) (hs : s ≤ l.length) : (wasE l k s).bad = 0 := by
  have hv := lastOf_take_ver l k s
  obtain ⟨hg1, hg2⟩ := lastOf_good k (l.take s) (good_take l hl s)
  rw [stK_iff] at hk
  unfold En.bad wasE
  refine bad_none ?_ (by dsimp only; omega) ?_
  · simp [inR]
    omega
  · dsimp only
    cases hg : (lastOf (l.take s) k).gone
    · rfl
    · rw [hg2 hg, ByteArray.toList_eq]
      rfl
theorem Was.bad {l : List Deed} {x : En} (h : Was l x) (hl : Good l) (h1 : l.length ≤ 1000) : x.bad = 0 := by
  obtain ⟨hk, s, hs, he⟩ := h
  rw [he]
  exact wasE_bad hl h1 hk hs
theorem wasE_later {l m : List Deed} {k : Int} {s : Nat} (hs : s ≤ l.length) : wasE (l ++ m) k s = wasE l k s := by
  unfold wasE
  rw [lastOf_later l m k s hs]
theorem Was.later {l : List Deed} {x : En} (h : Was l x) (m : List Deed) : Was (l ++ m) x := by
  obtain ⟨hk, s, hs, he⟩ := h
  exact ⟨hk, s, by rw [List.length_append]; omega, by rw [wasE_later hs]; exact he⟩
theorem was_known {l : List Deed} (k : Int) {s q : Nat} (hq : q ≤ l.length) (h : s ≤ q) : Known (wasE l k s) (wasE l k q) (wasE l k q) := by
  refine ⟨rfl, ?_⟩
  by_cases hv : (lastOf (l.take q) k).ver ≤ s
  · have e := lastOf_between l k q s hq hv h
    refine .inr (.inl ⟨?_, ?_, ?_, ?_, rfl⟩)
    · show (lastOf (l.take s) k).ver = _; rw [e]; rfl
    · show (lastOf (l.take s) k).gone = _; rw [e]; rfl
    · show (lastOf (l.take s) k).text = _; rw [e]; rfl
    · show (s : Int) ≤ (q : Int); omega
  · have hs := lastOf_take_ver l k s
    refine .inr (.inr (.inr ⟨?_, ?_, rfl⟩))
    · show (lastOf (l.take s) k).ver < (lastOf (l.take q) k).ver; omega
    · show (s : Int) < (lastOf (l.take q) k).ver; omega
/-- two that were so do not clash -/
theorem was_join {l : List Deed} {x y : En} (hl : Good l) (h1 : l.length ≤ 1000) (hx : Was l x) (hy : Was l y) (hk : x.k = y.k) : ∃ z, joinE x y = (z, 0) ∧ Was l z ∧ (z = x ∨ z = y) ∧ x.a ≤ z.a ∧ y.a ≤ z.a := by
  have bx := hx.bad hl h1
  have bY := hy.bad hl h1
  have hx' := hx
  have hy' := hy
  obtain ⟨_, s, hs, ex⟩ := hx
  obtain ⟨_, q, hq, ey⟩ := hy
  rw [← hk] at ey
  rcases Nat.le_total s q with h | h
  · have K := was_known (l := l) x.k hq h
    rw [← ex, ← ey] at K
    refine ⟨y, joinE_iff.2 ⟨bx, bY, K⟩, hy', .inr rfl, ?_, Int.le_refl _⟩
    rw [ex, ey]
    show (s : Int) ≤ (q : Int)
    omega
  · have K := was_known (l := l) x.k hs h
    rw [← ex, ← ey] at K
    have K2 : Known x y x := K.comm
    refine ⟨x, joinE_iff.2 ⟨bx, bY, K2⟩, hx', .inl rfl, Int.le_refl _, ?_⟩
    rw [ex, ey]
    show (q : Int) ≤ (s : Int)
    omega
/-- a cache of what was so -/
structure GoodC (l : List Deed) (c : List En) : Prop where
  good : GoodL c
  was : ∀ x ∈ c, Was l x
theorem goodC_nil (l : List Deed) : GoodC l [] := ⟨goodL_nil, by simp⟩
theorem GoodC.later {l : List Deed} {c : List En} (h : GoodC l c) (m : List Deed) : GoodC (l ++ m) c := ⟨h.good, fun x hx => (h.was x hx).later m⟩
theorem put_was {l : List Deed} {c : List En} {e : En} (hl : Good l) (h1 : l.length ≤ 1000) (hc : GoodC l c) (he : Was l e) : (putE c e).2.2 = 0 ∧ GoodC l (putE c e).1 ∧ ∃ z, getE (putE c e).1 e.k = some z ∧ e.a ≤ z.a := by
  have be := he.bad hl h1
  have h0 : (putE c e).2.2 = 0 ∧ ∃ z, (match getE c e.k with | none => some e | some a => some (joinE a e).1) = some z ∧ Was l z ∧ e.a ≤ z.a := by
    unfold putE
    cases hg : getE c e.k with
    | none => exact ⟨rfl, e, rfl, he, Int.le_refl _⟩
    | some a =>
      have ha := (getE_iff hc.good.rise).1 hg
      obtain ⟨z, hz, hw, _, _, hle⟩ := was_join hl h1 (hc.was a ha.1) he ha.2
      refine ⟨by simp [hz], z, by simp [hz], hw, hle⟩
  obtain ⟨hz, z, hm, hw, hle⟩ := h0
  have hg' := putE_good hc.good be hz
  have hget := getE_put hc.good be hz
  refine ⟨hz, ⟨hg', fun x hx => ?_⟩, z, ?_, hle⟩
  · have hx' : getE (putE c e).1 x.k = some x := (getE_iff hg'.rise).2 ⟨hx, rfl⟩
    rw [hget] at hx'
    split at hx'
    · exact Option.some.inj (hm.symm.trans hx') ▸ hw
    · exact hc.was x ((getE_iff hc.good.rise).1 hx').1
  · rw [hget, if_pos rfl]
    exact hm
theorem all_was {l : List Deed} {c b : List En} (hl : Good l) (h1 : l.length ≤ 1000) (hc : GoodC l c) (hb : ∀ e ∈ b, Was l e) : ∃ x, allE c b = (x, 0) ∧ GoodC l x := by
  induction b generalizing c with
  | nil => exact ⟨c, rfl, hc⟩
  | cons e b ih =>
    obtain ⟨p1, p2, _⟩ := put_was hl h1 hc (hb e List.mem_cons_self)
    rw [allE, if_neg (by simpa using p1)]
    exact ih p2 (fun x hx => hb x (List.mem_cons_of_mem _ hx))
/-- all that a mesh has was so -/
structure GoodM (l : List Deed) (cs : List (List En)) : Prop where
  good : Good l
  len : l.length ≤ 1000
  all : ∀ c ∈ cs, GoodC l c
theorem goodM_new (n : Nat) : GoodM [] (List.replicate n []) := ⟨by intro d hd; simp at hd, by simp, fun c hc => by rw [List.eq_of_mem_replicate hc]; exact goodC_nil _⟩
def cacheN (cs : List (List En)) (node : Int) : List En := cs.getD node.toNat []
theorem GoodM.at {l : List Deed} {cs : List (List En)} (h : GoodM l cs) (node : Int) : GoodC l (cacheN cs node) := by
  unfold cacheN
  rw [List.getD_eq_getElem?_getD]
  cases hq : cs[node.toNat]? with
  | none => exact goodC_nil _
  | some c => exact h.all c (List.mem_of_getElem? hq)
theorem GoodM.set {l : List Deed} {cs : List (List En)} (h : GoodM l cs) (n : Nat) {c : List En} (hc : GoodC l c) : GoodM l (cs.set n c) :=
  ⟨h.good, h.len, fun x hx => by
    rcases List.mem_or_eq_of_mem_set hx with h' | h'
    · exact h.all x h'
    · rw [h']; exact hc⟩
theorem GoodM.later {l : List Deed} {cs : List (List En)} (h : GoodM l cs) {m : List Deed} (hg : Good (l ++ m)) (h1 : (l ++ m).length ≤ 1000) : GoodM (l ++ m) cs :=
  ⟨hg, h1, fun c hc => (h.all c hc).later m⟩

def nodeB (n : Nat) (node : Int) : Bool := decide (0 ≤ node) && decide (node < n)
theorem nodeB_iff {n : Nat} {node : Int} : nodeB n node = true ↔ 0 ≤ node ∧ node < n := by simp [nodeB]
/-- what a node's cache has when it has heard of a key -/
def learnC (l : List Deed) (c : List En) (key : Int) : List En := (putE c (wasE l key l.length)).1
def learnM (l : List Deed) (cs : List (List En)) (node key : Int) : List (List En) := cs.set node.toNat (learnC l (cacheN cs node) key)
/-- what put and delete leave -/
structure MOut where
  done : List Deed
  cs : List (List En)
  num : Int
  err : Int
def mDone (o : Out) (l : List Deed) (cs : List (List En)) (node key : Int) : MOut :=
  if nodeB cs.length node = false then ⟨l, cs, 0, 1⟩ else if o.err ≠ 0 then ⟨l, cs, 0, o.err⟩ else ⟨o.done, learnM o.done cs node key, o.num, 0⟩
def mPut (l : List Deed) (cs : List (List En)) (node key : Int) (t : ByteArray) : MOut := mDone (putO l key t) l cs node key
def mDel (l : List Deed) (cs : List (List En)) (node key : Int) : MOut := mDone (delO l key) l cs node key
theorem rec_fine {l : List Deed} {k : Int} {g : Bool} {t : ByteArray} (h : (recO l k g t).err = 0) : l.length < 1000 ∧ recO l k g t = ⟨l ++ [⟨k, g, t⟩], (l.length : Int) + 1, 0⟩ := by
  unfold recO at h ⊢
  split at h
  · cases h
  · rename_i hn
    exact ⟨by omega, by rw [if_neg hn]⟩
theorem put_fine {l : List Deed} {k : Int} {t : ByteArray} (h : (putO l k t).err = 0) : stK k = true ∧ t.size ≤ 12 ∧ l.length < 1000 ∧ putO l k t = ⟨l ++ [⟨k, false, t⟩], (l.length : Int) + 1, 0⟩ := by
  unfold putO at h ⊢
  split at h
  · cases h
  · rename_i hk
    split at h
    · cases h
    · rename_i h12
      rw [if_neg hk, if_neg h12]
      obtain ⟨h1, h2⟩ := rec_fine h
      exact ⟨by simpa using hk, by omega, h1, h2⟩
theorem del_fine {l : List Deed} {k : Int} (h : (delO l k).err = 0) : stK k = true ∧ l.length < 1000 ∧ delO l k = ⟨l ++ [⟨k, true, ByteArray.empty⟩], (l.length : Int) + 1, 0⟩ := by
  unfold delO at h ⊢
  split at h
  · cases h
  · rename_i hk
    split at h
    · cases h
    · rename_i hg
      rw [if_neg hk, if_neg hg]
      obtain ⟨h1, h2⟩ := rec_fine h
      exact ⟨by simpa using hk, h1, h2⟩
theorem learnC_good {l : List Deed} {c : List En} {key : Int} (hl : Good l) (h1 : l.length ≤ 1000) (hc : GoodC l c) (hk : stK key = true) : GoodC l (learnC l c key) := (put_was hl h1 hc (was_mk hk (Nat.le_refl _))).2.1
theorem learnC_add {l : List Deed} {c : List En} {key : Int} (hl : Good l) (h1 : l.length ≤ 1000) (hc : GoodC l c) (hk : stK key = true) : ∃ b, cacheAdd c (wasE l key l.length) = (learnC l c key, b, 0) := by
  have hw := was_mk hk (Nat.le_refl l.length)
  refine ⟨(putE c (wasE l key l.length)).2.1, ?_⟩
  rw [cacheAdd, if_neg (by simpa using hc.good.bad), if_neg (by simpa using hw.bad hl h1)]
  exact Prod.ext rfl (Prod.ext rfl (put_was hl h1 hc hw).1)
theorem GoodM.learn {l : List Deed} {cs : List (List En)} (h : GoodM l cs) (node : Int) {key : Int} (hk : stK key = true) : GoodM l (learnM l cs node key) :=
  h.set _ (learnC_good h.good h.len (h.at node) hk)
theorem mPut_good {l : List Deed} {cs : List (List En)} (h : GoodM l cs) (node key : Int) (t : ByteArray) : GoodM (mPut l cs node key t).done (mPut l cs node key t).cs := by
  unfold mPut mDone
  split
  · exact h
  · split
    · exact h
    · rename_i h0
      have h0 : (putO l key t).err = 0 := by simpa using h0
      obtain ⟨h1, h2, h3, h4⟩ := put_fine h0
      have hg := good_put l key t h.good
      rw [h4] at hg ⊢
      exact (h.later hg (by simp; omega)).learn node h1
theorem mDel_good {l : List Deed} {cs : List (List En)} (h : GoodM l cs) (node key : Int) : GoodM (mDel l cs node key).done (mDel l cs node key).cs := by
  unfold mDel mDone
  split
  · exact h
  · split
    · exact h
    · rename_i h0
      have h0 : (delO l key).err = 0 := by simpa using h0
      obtain ⟨h1, h3, h4⟩ := del_fine h0
      have hg := good_del l key h.good
      rw [h4] at hg ⊢
      exact (h.later hg (by simp; omega)).learn node h1
theorem learnM_len (l : List Deed) (cs : List (List En)) (node key : Int) : (learnM l cs node key).length = cs.length := by simp [learnM]
theorem mDone_len (o : Out) (l : List Deed) (cs : List (List En)) (node key : Int) : (mDone o l cs node key).cs.length = cs.length := by
  unfold mDone
  split
  · rfl
  · split
    · rfl
    · exact learnM_len _ _ _ _
/-- what get leaves: the caches, the entry, was it of the cache, the fault -/
def mGet (l : List Deed) (cs : List (List En)) (node key floor : Int) : List (List En) × En × Bool × Int :=
  if nodeB cs.length node = false ∨ stK key = false ∨ floor < 0 ∨ (l.length : Int) < floor then (cs, ⟨0, 0, 0, false, ⟨#[]⟩⟩, false, 1)
  else match getE (cacheN cs node) key with
    | some x => if floor ≤ x.a then (cs, x, true, 0) else (learnM l cs node key, wasE l key l.length, false, 0)
    | none => (learnM l cs node key, wasE l key l.length, false, 0)
theorem mGet_good {l : List Deed} {cs : List (List En)} (h : GoodM l cs) (node key floor : Int) : GoodM l (mGet l cs node key floor).1 := by
  unfold mGet
  split
  · exact h
  · rename_i hn
    have hk : stK key = true := by
      cases e : stK key
      · exact absurd (.inr (.inl e)) hn
      · rfl
    split
    · split
      · exact h
      · exact h.learn node hk
    · exact h.learn node hk
theorem mGet_len (l : List Deed) (cs : List (List En)) (node key floor : Int) : (mGet l cs node key floor).1.length = cs.length := by
  unfold mGet
  split
  · rfl
  · split
    · split
      · rfl
      · exact learnM_len _ _ _ _
    · exact learnM_len _ _ _ _
end Go.Proofs.YtpcnfoaoajfhlaaGreatDoor

namespace Go.Proofs.YtpcnfoaoajfhlaaGreatDoor
set_option linter.unusedVariables false
set_option linter.unusedSimpArgs false
open Go.RowKit Go.Extern.Stop Go.Stop Go.Extern

theorem as_nil (t : Value) (w : World) :
    Calls Tryz.prog 90 #[.nilIface, t] w fun e w' => e = .returned (.bool false) ∧ w' = w := by
  go_enter Tryz.func90, Tryz.ntmps90
  go_wp2
  go_ret
  exact ⟨rfl, rfl⟩

theorem as_valueOfP (t : Addr) (w : World) : (ReflectliteValue.unpack (.iface 153 (.pointer (some t)))).run Tryz.prog w
    = .ok (.agg #[.pointer (some ⟨7, 153, none⟩), .pointer (some ⟨w.heap.size, 0, none⟩), .int .u64 150]) (w.alloc (.cells #[.pointer (some t)] 153)) := by kernel_rfl
theorem as_typeP (a : Addr) (w : World) : (ReflectliteValue.methodAny (ReflectliteValue.valueError "reflectlite.Value.Type" 0) (fun t _ _ _ => ReflectliteType.toType t) #[.agg #[.pointer (some ⟨7, 153, none⟩), .pointer (some a), .int .u64 150]]).run Tryz.prog w
    = .ok (.iface 242 (.agg #[.pointer (some ⟨7, 153, none⟩)])) w := by kernel_rfl
theorem as_methodKind (h : Value) (w : World) : (Go.method 422 242 (.agg #[h]) "Kind").run Tryz.prog w = .ok (243, h) w := by kernel_rfl
theorem as_kindP (w : World) : ((ReflectliteType.abiMethod fun t => Functor.map (fun a : Nat => Value.int IntKind.u8 (a : Int)) (Rtype.kind t)) #[.pointer (some ⟨7, 153, none⟩)]).run Tryz.prog w = .ok (.int .u8 22) w := by kernel_rfl
theorem as_kindE (w : World) : ((ReflectliteType.abiMethod fun t => Functor.map (fun a : Nat => Value.int IntKind.u8 (a : Int)) (Rtype.kind t)) #[.pointer (some ⟨7, 85, none⟩)]).run Tryz.prog w = .ok (.int .u8 2) w := by kernel_rfl
theorem as_partsP (a : Addr) (w : World) : (ReflectliteValue.parts (.agg #[.pointer (some ⟨7, 153, none⟩), .pointer (some a), .int .u64 150])).run Tryz.prog w = .ok (some (153, a, 150)) w := by kernel_rfl
theorem as_isNilP (a p : Addr) (W : World) (ha : W.cell? a = some (.pointer (some p))) :
    (ReflectliteValue.method (ReflectliteValue.valueError "reflectlite.Value.IsNil" 0) ReflectliteValue.isNil #[.agg #[.pointer (some ⟨7, 153, none⟩), .pointer (some a), .int .u64 150]]).run Tryz.prog W = .ok (.bool false) W := by
  show (ReflectliteValue.parts (.agg #[.pointer (some ⟨7, 153, none⟩), .pointer (some a), .int .u64 150]) >>= _).run Tryz.prog W = _
  rw [Sem.run_bind, as_partsP]
  simp [ReflectliteValue.isNil, loadVar, isAgg, underlying, Tryz.underlying153, ha, Result.andThen]
theorem as_methodElem (h : Value) (w : World) : (Go.method 422 242 (.agg #[h]) "Elem").run Tryz.prog w = .ok (254, .agg #[h]) w := by kernel_rfl
theorem as_methodImplements (h : Value) (w : World) : (Go.method 422 242 (.agg #[h]) "Implements").run Tryz.prog w = .ok (255, .agg #[h]) w := by kernel_rfl
theorem as_methodAssignableTo (h : Value) (w : World) : (Go.method 422 242 (.agg #[h]) "AssignableTo").run Tryz.prog w = .ok (252, .agg #[h]) w := by kernel_rfl
theorem as_elemP (w : World) : (ReflectliteType.method ReflectliteType.elem #[.agg #[.pointer (some ⟨7, 153, none⟩)]]).run Tryz.prog w = .ok (.iface 242 (.agg #[.pointer (some ⟨7, 85, none⟩)])) w := by kernel_rfl
theorem as_implementsE (w : World) : (ReflectliteType.relation "Implements" ReflectliteType.implements_ #[.agg #[.pointer (some ⟨7, 85, none⟩)], .iface 242 (.agg #[.pointer (some ⟨7, 26, none⟩)])]).run Tryz.prog w = .ok (.bool true) w := by kernel_rfl
theorem as_typeOfE (v : Value) (w : World) : (ReflectliteType.typeOf #[.iface 85 v]).run Tryz.prog w = .ok (.iface 242 (.agg #[.pointer (some ⟨7, 85, none⟩)])) w := by kernel_rfl
theorem as_assignableE (w : World) : (ReflectliteType.relation "AssignableTo" ReflectliteType.assignableTo #[.agg #[.pointer (some ⟨7, 85, none⟩)], .iface 242 (.agg #[.pointer (some ⟨7, 85, none⟩)])]).run Tryz.prog w = .ok (.bool true) w := by kernel_rfl
theorem as_valueOfE (n : Int) (w : World) : (ReflectliteValue.unpack (.iface 85 (.int .i64 n))).run Tryz.prog w
    = .ok (.agg #[.pointer (some ⟨7, 85, none⟩), .pointer (some ⟨w.heap.size, 0, none⟩), .int .u64 130]) (w.alloc (.cells #[.int .i64 n] 85)) := by kernel_rfl
theorem as_elemOfP (w : World) : (Rtype.elem? 153).run Tryz.prog w = .ok (some 85) w := by kernel_rfl
theorem as_mkE (p : Addr) (w : World) : (ReflectliteValue.mk 85 p ReflectliteValue.flagAddr).run Tryz.prog w = .ok (.agg #[.pointer (some ⟨7, 85, none⟩), .pointer (some p), .int .u64 386]) w := by kernel_rfl
theorem as_elemVP (a p : Addr) (W : World) (ha : W.cell? a = some (.pointer (some p))) :
    (ReflectliteValue.method (ReflectliteValue.valueError "reflectlite.Value.Elem" 0) ReflectliteValue.elem #[.agg #[.pointer (some ⟨7, 153, none⟩), .pointer (some a), .int .u64 150]]).run Tryz.prog W
      = .ok (.agg #[.pointer (some ⟨7, 85, none⟩), .pointer (some p), .int .u64 386]) W := by
  show (ReflectliteValue.parts (.agg #[.pointer (some ⟨7, 153, none⟩), .pointer (some a), .int .u64 150]) >>= _).run Tryz.prog W = _
  rw [Sem.run_bind, as_partsP]
  simp [ReflectliteValue.elem, loadVar, isAgg, underlying, Tryz.underlying153, ha, Result.andThen, as_elemOfP, as_mkE]
theorem as_partsEa (a : Addr) (w : World) : (ReflectliteValue.parts (.agg #[.pointer (some ⟨7, 85, none⟩), .pointer (some a), .int .u64 386])).run Tryz.prog w = .ok (some (85, a, 386)) w := by kernel_rfl
theorem as_partsE (a : Addr) (w : World) : (ReflectliteValue.parts (.agg #[.pointer (some ⟨7, 85, none⟩), .pointer (some a), .int .u64 130])).run Tryz.prog w = .ok (some (85, a, 130)) w := by kernel_rfl
theorem as_directE (w : World) : (Rtype.directlyAssignable 85 85).run Tryz.prog w = .ok true w := by kernel_rfl
theorem as_setE (ta b : Addr) (n : Int) (old : Value) (W : World) (hb : W.cell? b = some (.int .i64 n)) (ht : W.cell? ta = some old) (hf : W.frozen? ta = false) :
    (ReflectliteValue.set #[.agg #[.pointer (some ⟨7, 85, none⟩), .pointer (some ta), .int .u64 386], .agg #[.pointer (some ⟨7, 85, none⟩), .pointer (some b), .int .u64 130]]).run Tryz.prog W
      = .ok (.tuple #[]) (W.setCell ta (.int .i64 n)) := by
  show (ReflectliteValue.parts (.agg #[.pointer (some ⟨7, 85, none⟩), .pointer (some ta), .int .u64 386]) >>= fun r => ReflectliteValue.parts (.agg #[.pointer (some ⟨7, 85, none⟩), .pointer (some b), .int .u64 130]) >>= _).run Tryz.prog W = _
  simp only [Sem.run_bind, as_partsEa, as_partsE, Result.andThen]
  simp [ReflectliteValue.flagAddr, loadVar, isAgg, underlying, Tryz.underlying85, hb, Result.andThen, as_directE, storeVar, Value.cells, storeCells, Addr.add]
  rw [run_store Tryz.prog W ta _ _ (by rfl)]
  simp [ht, hf]

end Go.Proofs.YtpcnfoaoajfhlaaGreatDoor

namespace Go.Proofs.YtpcnfoaoajfhlaaGreatDoor
set_option linter.unusedVariables false
set_option linter.unusedSimpArgs false
open Go.RowKit Go.Extern.Stop Go.Stop Go.Extern

set_option maxHeartbeats 4000000 in
theorem as_hit (n : Int) (t : Addr) (old : Value) (w : World) (hg : w.cell? ⟨0, 0, none⟩ = some (.iface 242 (.agg #[.pointer (some ⟨7, 26, none⟩)]))) (ht0 : w.cell? t = some old) (hf0 : w.frozen? t = false) :
    Calls Tryz.prog 90 #[.iface 85 (.int .i64 n), .iface 153 (.pointer (some t))] w fun ev w' => ev = .returned (.bool true) ∧ w' = ((((w.alloc (.cells #[.pointer (some t)] 153)).alloc (.cells #[.pointer (some ⟨7, 153, none⟩), .pointer (some ⟨w.heap.size, 0, none⟩), .int .u64 150] 198)).alloc (.cells #[.pointer (some ⟨7, 153, none⟩), .pointer (some ⟨w.heap.size, 0, none⟩), .int .u64 150] 198)).alloc (.cells #[.int .i64 n] 85)).setCell t (.int .i64 n) := by
  have h6 := @run_callFunc_extern Tryz.prog 134 _ (fun args => ReflectliteValue.unpack (args.getD 0 (.tuple #[]))) Tryz.func134 (by kernel_rfl) (by kernel_rfl) (by kernel_rfl) (by kernel_rfl)
  have h7 := @run_callFunc_extern Tryz.prog 135 _ (ReflectliteValue.methodAny (ReflectliteValue.valueError "reflectlite.Value.Type" 0) (fun t _ _ _ => ReflectliteType.toType t)) Tryz.func135 (by kernel_rfl) (by kernel_rfl) (by kernel_rfl) (by kernel_rfl)
  have h8 := @run_callFunc_extern Tryz.prog 136 _ (ReflectliteValue.method (ReflectliteValue.valueError "reflectlite.Value.IsNil" 0) ReflectliteValue.isNil) Tryz.func136 (by kernel_rfl) (by kernel_rfl) (by kernel_rfl) (by kernel_rfl)
  have h27 := @run_callFunc_extern Tryz.prog 243 _ (ReflectliteType.abiMethod fun t => do pure (.int .u8 (← Rtype.kind t))) Tryz.func243 (by kernel_rfl) (by kernel_rfl) (by kernel_rfl) (by kernel_rfl)
  have h37 := @run_callFunc_extern Tryz.prog 254 _ (ReflectliteType.method ReflectliteType.elem) Tryz.func254 (by kernel_rfl) (by kernel_rfl) (by kernel_rfl) (by kernel_rfl)
  have h38 := @run_callFunc_extern Tryz.prog 255 _ (ReflectliteType.relation "Implements" ReflectliteType.implements_) Tryz.func255 (by kernel_rfl) (by kernel_rfl) (by kernel_rfl) (by kernel_rfl)
  have h10 := @run_callFunc_extern Tryz.prog 177 _ ReflectliteType.typeOf Tryz.func177 (by kernel_rfl) (by kernel_rfl) (by kernel_rfl) (by kernel_rfl)
  have h35 := @run_callFunc_extern Tryz.prog 252 _ (ReflectliteType.relation "AssignableTo" ReflectliteType.assignableTo) Tryz.func252 (by kernel_rfl) (by kernel_rfl) (by kernel_rfl) (by kernel_rfl)
  have h11 := @run_callFunc_extern Tryz.prog 178 _ (ReflectliteValue.method (ReflectliteValue.valueError "reflectlite.Value.Elem" 0) ReflectliteValue.elem) Tryz.func178 (by kernel_rfl) (by kernel_rfl) (by kernel_rfl) (by kernel_rfl)
  have h12 := @run_callFunc_extern Tryz.prog 179 _ ReflectliteValue.set Tryz.func179 (by kernel_rfl) (by kernel_rfl) (by kernel_rfl) (by kernel_rfl)
  have tO := as_typeOfE
  have mA := as_methodAssignableTo
  have a25 := as_assignableE
  have v25 := as_valueOfE
  have f6 := as_valueOfP
  have f7 := as_typeP
  have mK := as_methodKind
  have mE := as_methodElem
  have mI := as_methodImplements
  have k27 := as_kindP
  have k25 := as_kindE
  have e27 := as_elemP
  have i25 := as_implementsE
  have n8 := as_isNilP ⟨w.heap.size, 0, none⟩ t ((w.alloc (.cells #[.pointer (some t)] 153)).alloc (.cells #[.pointer (some ⟨7, 153, none⟩), .pointer (some ⟨w.heap.size, 0, none⟩), .int .u64 150] 198)) (by simp)
  have hlt : 0 < w.heap.size := by
    rcases Nat.eq_zero_or_pos w.heap.size with h0 | h
    · simp [World.cell?, h0] at hg
    · exact h
  have hg2 : ((w.alloc (.cells #[.pointer (some t)] 153)).alloc (.cells #[.pointer (some ⟨7, 153, none⟩), .pointer (some ⟨w.heap.size, 0, none⟩), .int .u64 150] 198)).cell? ⟨0, 0, none⟩ = some (.iface 242 (.agg #[.pointer (some ⟨7, 26, none⟩)])) := by
    rw [World.cell?_alloc_lt _ _ ⟨0, 0, none⟩ (by simp), World.cell?_alloc_lt _ _ ⟨0, 0, none⟩ hlt]; exact hg
  have htl : t.block < w.heap.size := by
    rcases Nat.lt_or_ge t.block w.heap.size with h | h
    · exact h
    · simp [World.cell?, Array.getElem?_eq_none h] at ht0
  have el := as_elemVP ⟨w.heap.size, 0, none⟩ t (((w.alloc (.cells #[.pointer (some t)] 153)).alloc (.cells #[.pointer (some ⟨7, 153, none⟩), .pointer (some ⟨w.heap.size, 0, none⟩), .int .u64 150] 198)).alloc (.cells #[.pointer (some ⟨7, 153, none⟩), .pointer (some ⟨w.heap.size, 0, none⟩), .int .u64 150] 198)) (by rw [World.cell?_alloc_lt _ _ ⟨w.heap.size, 0, none⟩ (by simp; omega)]; simp)
  have st := as_setE t ⟨w.heap.size + 1 + 1 + 1, 0, none⟩ n old ((((w.alloc (.cells #[.pointer (some t)] 153)).alloc (.cells #[.pointer (some ⟨7, 153, none⟩), .pointer (some ⟨w.heap.size, 0, none⟩), .int .u64 150] 198)).alloc (.cells #[.pointer (some ⟨7, 153, none⟩), .pointer (some ⟨w.heap.size, 0, none⟩), .int .u64 150] 198)).alloc (.cells #[.int .i64 n] 85))
    (by rw [World.cell?_alloc_at _ _ _ _ (by simp)]; rfl)
    (by rw [World.cell?_alloc_lt _ _ t (by simp; omega), World.cell?_alloc_lt _ _ t (by simp; omega), World.cell?_alloc_lt _ _ t (by simp; omega), World.cell?_alloc_lt _ _ t htl]; exact ht0)
    (by rw [World.frozen?_alloc_old _ _ t (by simp; omega), World.frozen?_alloc_old _ _ t (by simp; omega), World.frozen?_alloc_old _ _ t (by simp; omega), World.frozen?_alloc_old _ _ t (Nat.ne_of_lt htl)]; exact hf0)
  go_enter Tryz.func90, Tryz.ntmps90
  go_wp2
  refine wp_loop_rounds 1 ?_
  rw [rounds_succ]
  go_wp2
  go_ret
  exact ⟨rfl, rfl⟩
theorem told_nil (w : World) : Calls Tryz.prog 38 #[.nilIface] w fun e w' => e = .returned (.int .i64 0) ∧ w' = w := by
  go_enter Tryz.func38, Tryz.ntmps38
  go_wp2
  go_ret
  exact ⟨rfl, rfl⟩

/-- package errors' variable errorType, as the program's text lays it -/
def HasErr (w : World) : Prop := w.cell? ⟨0, 0, none⟩ = some (.iface 242 (.agg #[.pointer (some ⟨7, 26, none⟩)]))
theorem HasErr.lt {w : World} (h : HasErr w) : 0 < w.heap.size := by
  unfold HasErr at h
  rcases Nat.eq_zero_or_pos w.heap.size with h0 | h1
  · simp [World.cell?, h0] at h
  · exact h1
theorem HasErr.of_block {w w' : World} (h : HasErr w) (hb : w'.heap[0]? = w.heap[0]?) : HasErr w' :=
  (World.cell?_of_block (a := ⟨0, 0, none⟩) hb).trans h
theorem HasErr.below {w w' : World} {B : Nat} (h : HasErr w) (hB : 0 < B) (hb : Below B w w') : HasErr w' := h.of_block (hb.block 0 hB)

set_option maxHeartbeats 1000000 in
theorem told_err (n : Int) (w : World) (hg : HasErr w) : Calls Tryz.prog 38 #[.iface 85 (.int .i64 n)] w fun e w' => e = .returned (.int .i64 n) ∧ Below w.heap.size w w' := by
  have hlt := hg.lt
  have H1 : Hid (HasErr (w.alloc (.cells #[.int .i64 0] 85))) := hg.below hlt ((Below.refl _ _).alloc (Nat.le_refl _) _)
  clear hg
  go_enter Tryz.func38, Tryz.ntmps38
  go_wp2_with (go_at_call 90; refine (as_hit n ⟨w.heap.size, 0, none⟩ (.int .i64 0) _ H1.out (by simp) (by simp)).mono ?_; rintro e w' ⟨rfl, rfl⟩)
  go_ret
  exact ⟨rfl, by go_grown⟩

theorem error_nil (m : Int) (w : World) : Calls Tryz.prog 8 #[.nilIface, .int .i64 m] w fun e w' => e = .returned (.bool (0 == m)) ∧ w' = w := by
  go_enter Tryz.func8, Tryz.ntmps8
  go_wp2_with (go_at_call 38; refine (told_nil _).mono ?_; rintro e w' ⟨rfl, rfl⟩)
  go_ret
  exact ⟨rfl, rfl⟩
theorem error_err (n m : Int) (w : World) (hg : HasErr w) : Calls Tryz.prog 8 #[.iface 85 (.int .i64 n), .int .i64 m] w fun e w' => e = .returned (.bool (n == m)) ∧ Below w.heap.size w w' := by
  have H1 : Hid (HasErr w) := hg
  clear hg
  go_enter Tryz.func8, Tryz.ntmps8
  go_wp2_with (go_at_call 38; refine (told_err n _ H1.out).mono ?_; rintro e w' ⟨rfl, hb⟩)
  go_ret
  exact ⟨rfl, hb⟩

end Go.Proofs.YtpcnfoaoajfhlaaGreatDoor
