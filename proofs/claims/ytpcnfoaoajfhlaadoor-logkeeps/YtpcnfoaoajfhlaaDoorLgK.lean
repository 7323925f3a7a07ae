/-
  Package log: replay, by its contract.
-/
import Derived.Test.YtpcnfoaoajfhlaaDoorLgJ
import Derived.Test.YtpcnfoaoajfhlaaDoorLgC
namespace Go.Proofs.YtpcnfoaoajfhlaaDoor
set_option linter.unusedVariables false
set_option linter.unusedSimpArgs false
open Go.RowKit Go.Shelf
attribute [local go_sem] Oper.semAt_some

/-- a store's own blocks are cells -/
theorem store_tight {W : World} {b : Nat} {l : List Deed} {F : Nat → Prop} (h : StoreIs W b l F) : ∃ F', StoreIs W b l F' ∧ ∀ x, F' x → F x ∧ ∃ cur e fz, W.heap[x]? = some (.cells cur e fz) := by
  obtain ⟨c0, f0, hl, Fb, Fl, V, hV, hd⟩ := h
  have hF : ∀ x, (x = b ∨ ∃ k, k < 8 ∧ (V k).ownBlock = some x) → F x := fun x hx => by
    rcases hx with rfl | ⟨k, hk, hx⟩
    · exact Fb
    · exact (hV k hk).2.2.2.2 x hx
  refine ⟨fun x => x = b ∨ ∃ k, k < 8 ∧ (V k).ownBlock = some x, ⟨c0, f0, hl, .inl rfl, fun c hc => Fl c (hF c hc), V, fun k hk => ?_, hd⟩, fun x hx => ⟨hF x hx, ?_⟩⟩
  · obtain ⟨a1, a2, a3, a4, a5⟩ := hV k hk
    exact ⟨a1, a2, a3, a4, fun c hc => .inr ⟨k, hk, hc⟩⟩
  · rcases hx with rfl | ⟨k, hk, hx⟩
    · unfold World.cell? at c0
      split at c0
      · rename_i hh
        exact ⟨_, _, _, hh⟩
      · cases c0
    · obtain ⟨a1, a2, a3, a4, a5⟩ := hV k hk
      rcases a3.2 with ⟨e, _⟩ | ⟨g, cap, cur, e, _, hg, _⟩
      · rw [e] at hx; simp [Value.ownBlock] at hx
      · rw [e] at hx
        obtain rfl : g = x := by simpa [Value.ownBlock] using hx
        exact ⟨_, _, _, hg⟩
def playD (pre : List It) : List Deed := pre.foldl (fun l x => (doO l x.1.2).done) []
def endD (pre : List It) : Nat := pre.foldl (fun _ x => x.1.1) 0
theorem playD_snoc (pre : List It) (x : It) : playD (pre ++ [x]) = (doO (playD pre) x.1.2).done := by simp [playD, List.foldl_append]
theorem endD_snoc (pre : List It) (x : It) : endD (pre ++ [x]) = x.1.1 := by simp [endD, List.foldl_append]
theorem play_from (l1 l2 : List Deed) (o : Nat) (h : ∀ d ∈ l2, d.text.size ≤ 12) (hf : Fits (l1 ++ l2)) : (itemsD o l2 h).foldl (fun l x => (doO l x.1.2).done) l1 = l1 ++ l2 := by
  induction l2 generalizing l1 o with
  | nil => simp [itemsD]
  | cons d l ih =>
    simp only [itemsD, List.foldl_cons]
    have h1 := (hf l1.length (by simp)).2
    rw [List.take_append_of_le_length (Nat.le_refl _), List.take_length, List.getElem_append_right (Nat.le_refl _)] at h1
    simp only [Nat.sub_self, List.getElem_cons_zero] at h1
    have h2 : (l1 ++ d :: l).take (l1.length + 1) = l1 ++ [d] := by rw [List.take_append, List.take_of_length_le (by omega)]; simp
    rw [h1, h2, ih (l1 ++ [d]) _ _ (by rw [List.append_assoc]; exact hf)]
    simp
theorem end_from (l : List Deed) (o : Nat) (h : ∀ d ∈ l, d.text.size ≤ 12) : (itemsD o l h).foldl (fun _ x => x.1.1) o = o + (flatD l).length := by
  induction l generalizing o with
  | nil => simp [itemsD, flatD]
  | cons d l ih =>
    simp only [itemsD, List.foldl_cons, flatD, List.length_append]
    rw [ih]
    omega
theorem recMk_c (p : Option Addr) (n c : Nat) (w : World) : Calls Tryd.prog 74 #[.slice p n c] w fun e w' => e = .returned (.func (.func 89) #[] #[.pointer (some ⟨w.heap.size, 0, none⟩)]) ∧ w' = w.alloc (.cells #[.slice p n c] 92) := by
  go_enter Tryd.func74, Tryd.ntmps74
  go_wp2_with fail
  go_ret
  exact ⟨rfl, rfl⟩
theorem recs_stops (n : Nat) (hn : 1 ≤ n) (Bn : Nat) (v : Value) (ds : List Deed) (p : List Nat) (hd : ∀ d ∈ ds, d.text.size ≤ 12) (hk8 : ∀ d ∈ ds, 0 ≤ d.key ∧ d.key < 8) (hp : NoRec p) (hp8 : ∀ x ∈ p, x < 256) (w : World) (hBn : w.cell? ⟨Bn, 0, none⟩ = some v) (hb : BytesAt w v (flatD ds ++ p)) (hv : ∀ g, v.ownBlock = some g → g < w.heap.size) :
    SeqStopsK Fence.wide n Tryd.prog 89 #[.pointer (some ⟨Bn, 0, none⟩)] encsIt (KpB Bn v) (fun xs => xs = itemsD 0 ds hd) (fun pre => pre <+: itemsD 0 ds hd) ds.length w :=
  fun l J Jx W hW hJ hJx hY h0 => recs_in n hn l Bn v ds p hd hk8 hp hp8 J Jx hY
    (fun s X o hs => hJ s X _ none hs (World.grownBy_alloc X o none) (fun r e => by cases e))
    (fun s X k hs => hJ s X _ none hs ⟨rfl, rfl, rfl, Nat.le_refl _, fun _ _ _ => rfl⟩ (fun r e => by cases e))
    W ((hW.cell (p := ⟨Bn, 0, none⟩) (World.block_lt_of_cell? w _ hBn)).trans hBn) (hb.blocks (fun g hg => hW.block g (hv g hg))) h0
/-- a record's own block -/
def RecAt (W : World) (B : Nat) (d : Deed) : Prop := W.heap[B]? = some (.cells #[.int .i64 d.key, .bool d.gone, .string d.text] 97 (0, 0))
theorem RecAt.c0 {W : World} {B : Nat} {d : Deed} (h : RecAt W B d) : W.cell? ⟨B, 0, none⟩ = some (.int .i64 d.key) ∧ W.cell? ⟨B, 1, none⟩ = some (.bool d.gone) ∧ W.cell? ⟨B, 2, none⟩ = some (.string d.text) := by
  unfold RecAt at h
  exact ⟨by simp [World.cell?, h], by simp [World.cell?, h], by simp [World.cell?, h]⟩
/-- what the loop carries -/
structure RpI (w : World) (pre : List It) (W : World) : Prop where
  st : ∃ F, StoreIs W w.heap.size (playD pre) F ∧ ∀ x, F x → w.heap.size ≤ x ∧ x ≠ w.heap.size + 1 ∧ x ≠ w.heap.size + 2 ∧ x ≠ w.heap.size + 3
  b4 : Boxed W (w.heap.size + 1) 72 (.pointer (some ⟨w.heap.size, 0, none⟩))
  b5 : Boxed W (w.heap.size + 2) 3 (.int .i64 (endD pre : Int))
  bel : Below w.heap.size w W
  big : w.heap.size + 4 ≤ W.heap.size
theorem RpI.own (w : World) {B : Nat} (hB : w.heap.size ≤ B) : OwnFrom B (RpI w) := fun pre X Y row hs hg hr => by
  obtain ⟨F, h1, h2⟩ := hs.st
  obtain ⟨F', h3, h4⟩ := store_tight h1
  have hb : ∀ x cur e fz, X.heap[x]? = some (.cells cur e fz) → some x ≠ row := fun x cur e fz hx e' => by
    obtain ⟨_, o, ho, hc⟩ := hr x e'.symm
    rw [hx] at ho
    cases ho
    cases hc
  refine ⟨⟨F', h3.blocks hg.size (fun x hx => ?_), fun x hx => h2 x (h4 x hx).1⟩, hs.b4.kept hg (hb _ _ _ _ hs.b4), hs.b5.kept hg (hb _ _ _ _ hs.b5), hs.bel.trans ⟨hg.os, hg.tape, hg.output, hg.size, fun c hc => hg.block c (by have := hs.bel.size; omega) (fun e => by have := (hr c e.symm).1; omega)⟩, Nat.le_trans hs.big hg.size⟩
  obtain ⟨_, cur, e, fz, hx'⟩ := h4 x hx
  exact hg.block x (Array.getElem?_eq_some_iff.1 hx').1 (hb x _ _ _ hx')
theorem RpI.alloc {w W : World} {pre : List It} (h : RpI w pre W) (o : Obj) : RpI w pre (W.alloc o) := by
  obtain ⟨F, h1, h2⟩ := h.st
  exact ⟨⟨F, h1.below ((Below.refl _ _).alloc (Nat.le_refl _) _), h2⟩, h.b4.alloc _, h.b5.alloc _, h.bel.alloc h.bel.size _, by have := h.big; simp; omega⟩
set_option maxRecDepth 100000 in
set_option maxHeartbeats 4000000 in
theorem replay_c (pv : Option Addr) (nv cv : Nat) (ds : List Deed) (p : List Nat) (hfit : Fits ds) (hd : ∀ d ∈ ds, d.text.size ≤ 12) (hk8 : ∀ d ∈ ds, 0 ≤ d.key ∧ d.key < 8) (hp : NoRec p) (hp8 : ∀ x ∈ p, x < 256) (w : World) (hb : BytesAt w (.slice pv nv cv) (flatD ds ++ p)) (hv : ∀ g, (Value.slice pv nv cv).ownBlock = some g → g < w.heap.size) :
    Calls Tryd.prog 50 #[.slice pv nv cv] w fun e w' => ∃ b, e = .returned (.tuple #[.pointer (some ⟨b, 0, none⟩), .int .i64 ((flatD ds).length : Int)]) ∧ (∃ F, StoreIs w' b ds F ∧ ∀ x, F x → w.heap.size ≤ x) ∧ Below w.heap.size w w' := by
  refine (callsIn_wide (n := 8)).1 ?_
  refine callsIn_of_wp_marks Tryd.func50 rfl trivial ?_ rfl
  simp only [Tryd.ntmps50, List.size_toArray, List.length_cons, List.length_nil, Nat.reduceAdd, Nat.reduceSub, Array.replicate_succ, Array.replicate_zero, List.push_toArray, List.append_toArray, List.nil_append, List.cons_append]
  gi_wp2_with (first | (refine ⟨trivial, ?_⟩; gi_at_call 31; refine (callsIn_wide.2 (new_c _)).mono ?_; rintro e w' ⟨rfl, rfl⟩) | (refine ⟨trivial, ?_⟩; gi_at_call 74; refine (callsIn_wide.2 (recMk_c _ _ _ _)).mono ?_; rintro e w' ⟨rfl, rfl⟩) | (gi_at_call 31; refine (callsIn_wide.2 (new_c _)).mono ?_; rintro e w' ⟨rfl, rfl⟩) | (gi_at_call 74; refine (callsIn_wide.2 (recMk_c _ _ _ _)).mono ?_; rintro e w' ⟨rfl, rfl⟩))
  have hsz : ((((w.alloc (.cells #[.int .i64 0, .slice none 0 0, .slice none 0 0, .slice none 0 0, .slice none 0 0, .slice none 0 0, .slice none 0 0, .slice none 0 0, .slice none 0 0] 107)).alloc (.cells #[.pointer (some ⟨w.heap.size, 0, none⟩)] 72)).alloc (.cells #[.int .i64 0] 3)).alloc (.cells #[.slice pv nv cv] 92)).heap.size = w.heap.size + 4 := by simp
  have hB0 : Below w.heap.size w ((((w.alloc (.cells #[.int .i64 0, .slice none 0 0, .slice none 0 0, .slice none 0 0, .slice none 0 0, .slice none 0 0, .slice none 0 0, .slice none 0 0, .slice none 0 0] 107)).alloc (.cells #[.pointer (some ⟨w.heap.size, 0, none⟩)] 72)).alloc (.cells #[.int .i64 0] 3)).alloc (.cells #[.slice pv nv cv] 92)) := ((((Below.refl _ w).alloc (Nat.le_refl _) _).alloc (by simp) _).alloc (by simp; omega) _).alloc (by simp; omega) _
  have HI0 : RpI w [] ((((w.alloc (.cells #[.int .i64 0, .slice none 0 0, .slice none 0 0, .slice none 0 0, .slice none 0 0, .slice none 0 0, .slice none 0 0, .slice none 0 0, .slice none 0 0] 107)).alloc (.cells #[.pointer (some ⟨w.heap.size, 0, none⟩)] 72)).alloc (.cells #[.int .i64 0] 3)).alloc (.cells #[.slice pv nv cv] 92)) := by
    refine ⟨⟨fun c => c = w.heap.size, (((new_is w).below ((Below.refl _ _).alloc (Nat.le_refl _) _)).below ((Below.refl _ _).alloc (Nat.le_refl _) _)).below ((Below.refl _ _).alloc (Nat.le_refl _) _), fun x hx => by have hx' : x = w.heap.size := hx; omega⟩, ?_, ?_, hB0, by rw [hsz]; exact Nat.le_refl _⟩
    · have h := Boxed.new (w.alloc (.cells #[.int .i64 0, .slice none 0 0, .slice none 0 0, .slice none 0 0, .slice none 0 0, .slice none 0 0, .slice none 0 0, .slice none 0 0, .slice none 0 0] 107)) 72 (.pointer (some ⟨w.heap.size, 0, none⟩))
      rw [World.size_alloc] at h
      exact (h.alloc _).alloc _
    · have h := Boxed.new ((w.alloc (.cells #[.int .i64 0, .slice none 0 0, .slice none 0 0, .slice none 0 0, .slice none 0 0, .slice none 0 0, .slice none 0 0, .slice none 0 0, .slice none 0 0] 107)).alloc (.cells #[.pointer (some ⟨w.heap.size, 0, none⟩)] 72)) 3 (.int .i64 0)
      rw [World.size_alloc, World.size_alloc] at h
      exact h.alloc _
  have hBn : ((((w.alloc (.cells #[.int .i64 0, .slice none 0 0, .slice none 0 0, .slice none 0 0, .slice none 0 0, .slice none 0 0, .slice none 0 0, .slice none 0 0, .slice none 0 0] 107)).alloc (.cells #[.pointer (some ⟨w.heap.size, 0, none⟩)] 72)).alloc (.cells #[.int .i64 0] 3)).alloc (.cells #[.slice pv nv cv] 92)).cell? ⟨w.heap.size + 3, 0, none⟩ = some (.slice pv nv cv) := by
    have h := (Boxed.new (((w.alloc (.cells #[.int .i64 0, .slice none 0 0, .slice none 0 0, .slice none 0 0, .slice none 0 0, .slice none 0 0, .slice none 0 0, .slice none 0 0, .slice none 0 0] 107)).alloc (.cells #[.pointer (some ⟨w.heap.size, 0, none⟩)] 72)).alloc (.cells #[.int .i64 0] 3)) 92 (.slice pv nv cv)).cell
    rw [World.size_alloc, World.size_alloc, World.size_alloc] at h
    exact h
  obtain ⟨W0, hW0⟩ : ∃ W0, ((((w.alloc (.cells #[.int .i64 0, .slice none 0 0, .slice none 0 0, .slice none 0 0, .slice none 0 0, .slice none 0 0, .slice none 0 0, .slice none 0 0, .slice none 0 0] 107)).alloc (.cells #[.pointer (some ⟨w.heap.size, 0, none⟩)] 72)).alloc (.cells #[.int .i64 0] 3)).alloc (.cells #[.slice pv nv cv] 92)) = W0 := ⟨_, rfl⟩
  rw [hW0] at hsz hB0 HI0 hBn ⊢
  clear hW0
  have hvW : ∀ g, (Value.slice pv nv cv).ownBlock = some g → g < W0.heap.size := fun g hg => by have := hv g hg; omega
  refine wpIn_rangeFunc_ownH rfl (by omega) (gf := 89) (lb := #[.pointer (some ⟨w.heap.size + 3, 0, none⟩)]) rfl trivial (enters_of Tryd.func89 (by kernel_rfl) rfl)
    (recs_stops 7 (by omega) (w.heap.size + 3) (.slice pv nv cv) ds p hd hk8 hp hp8 W0 hBn (hb.blocks (fun g hg => hB0.block g (hv g hg))) hvW) KpB.t (KpB.b (by omega) hvW) (Below.refl _ _) (fun _ => rfl)
    (RpI w) (fun _ _ _ => False) (RpI.own w (by omega)) (fun _ _ _ _ _ hs _ _ => hs) HI0
    (fun x a' W => ∃ Bx, RecAt W Bx x.1.2 ∧ a' = { tmps := #[.slice pv nv cv, undef, .pointer none, .int .i64 0, .pointer (some ⟨w.heap.size + 1, 0, none⟩), .pointer (some ⟨w.heap.size + 1 + 1, 0, none⟩), .int .i64 (x.1.1 : Int), .pointer (some ⟨Bx, 0, none⟩), .pointer (some ⟨w.heap.size, 0, none⟩), .slice pv nv cv, .func (.func 89) #[] #[.pointer (some ⟨w.heap.size + 1 + 1 + 1, 0, none⟩)], .int .i64 (x.1.1 : Int), .agg #[.int .i64 x.1.2.key, .bool x.1.2.gone, .string x.1.2.text], undef, undef, undef, undef, undef, undef, undef, undef, undef], defers := [] })
    (fun x a' _ X Y row hs hg hr => by
      obtain ⟨Bx, h1, h2⟩ := hs
      refine ⟨Bx, (hg.block Bx (Array.getElem?_eq_some_iff.1 h1).1 (fun e => ?_)).trans h1, h2⟩
      obtain ⟨_, o, ho, hc⟩ := hr Bx e.symm
      rw [show X.heap[Bx]? = _ from h1] at ho
      cases ho
      cases hc)
    ?assign ?body ?done ?stop
  case assign =>
    rintro l pre ⟨⟨e1, ⟨kd, gd, td⟩⟩, hx⟩ W K hI hK
    have lBn : w.heap.size + 3 < W.heap.size := by have := hI.big; omega
    dsimp only [encsIt]
    gi_wp2
    exact hK _ _ ((KeepsOthers.alloc _ _).from _) ⟨Below.heap_alloc W _ _ lBn, fun g hg => Below.heap_alloc W _ g (by have := hv g hg; have := hI.bel.size; omega)⟩ (hI.alloc _) ⟨W.heap.size, World.alloc_heap_new W _, rfl⟩
  case body =>
    rintro l pre ⟨⟨e1, ⟨kd, gd, td⟩⟩, hx⟩ a' W hl ⟨r, hr⟩ hI ⟨Bx, hBx, rfl⟩ hlt
    obtain ⟨F, hS, hF⟩ := hI.st
    obtain ⟨F0, hS0, hF0⟩ := store_tight hS
    have HS0 : Hid (StoreIs W w.heap.size (playD pre) F0) := hS0
    have HF0 : Hid (∀ x, F0 x → (w.heap.size ≤ x ∧ x ≠ w.heap.size + 1 ∧ x ≠ w.heap.size + 2 ∧ x ≠ w.heap.size + 3) ∧ ∃ cur e fz, W.heap[x]? = some (.cells cur e fz)) := fun x hx => ⟨hF x (hF0 x hx).1, (hF0 x hx).2⟩
    have HI : Hid (RpI w pre W) := hI
    have HX : Hid (td.size ≤ 12) := hx
    obtain ⟨q0, q1, q2⟩ := RecAt.c0 hBx
    have q4 := hI.b4.cell
    have q5 := hI.b5.cell
    have l5 := hI.b5.lt
    dsimp only at q0 q1 q2 hx ⊢
    clear hS hF hF0 hS0 hI
    have h1' : 1 ≤ 8 - 1 - 1 := by omega
    gi_wp2_with (first | (gi_at_call 72; refine (CallsIn.inRound l (callsIn_wide.2 (do_c w.heap.size kd gd td (playD pre) F0 W (by have := HX.out; unfold maxLen; omega) HS0.out))).mono ?_; rintro e W1 ⟨rfl, F1, hs1, hf1, hk1⟩; have HR1 : Hid (∃ F1, StoreIs W1 w.heap.size (doO (playD pre) ⟨kd, gd, td⟩).done F1 ∧ (∀ c, F1 c → F0 c ∨ W.heap.size ≤ c) ∧ Kept F0 W W1) := ⟨F1, hs1, hf1, hk1⟩; have HB5 : Hid (Boxed W1 (w.heap.size + 2) 3 (.int .i64 (endD pre : Int))) := (hk1.block _ l5 (fun hf => ((HF0.out _ hf).1.2.2.1 rfl))).trans HI.out.b5; have p5 := HB5.out.cell; have p5f := HB5.out.frozen; clear hs1 hf1 hk1) | (refine ⟨trivial, ?_⟩; gi_at_call 72; refine (CallsIn.inRound l (callsIn_wide.2 (do_c w.heap.size kd gd td (playD pre) F0 W (by have := HX.out; unfold maxLen; omega) HS0.out))).mono ?_; rintro e W1 ⟨rfl, F1, hs1, hf1, hk1⟩; have HR1 : Hid (∃ F1, StoreIs W1 w.heap.size (doO (playD pre) ⟨kd, gd, td⟩).done F1 ∧ (∀ c, F1 c → F0 c ∨ W.heap.size ≤ c) ∧ Kept F0 W W1) := ⟨F1, hs1, hf1, hk1⟩; have HB5 : Hid (Boxed W1 (w.heap.size + 2) 3 (.int .i64 (endD pre : Int))) := (hk1.block _ l5 (fun hf => ((HF0.out _ hf).1.2.2.1 rfl))).trans HI.out.b5; have p5 := HB5.out.cell; have p5f := HB5.out.frozen; clear hs1 hf1 hk1))
    obtain ⟨F1, hs1, hf1, hk1⟩ := HR1.out
    have hnc : ∀ (k : Nat) (o : Obj), W.heap[k]? = some o → o.isCells = false → ¬ F0 k := fun k o ho hc hf => by
      obtain ⟨_, cur, e, fz, hx'⟩ := HF0.out k hf
      rw [hx'] at ho
      cases ho
      cases hc
    have hKO : KeepsOthers W W1 := ⟨hk1.size, fun k o ho hc => (hk1.block k (Array.getElem?_eq_some_iff.1 ho).1 (hnc k o ho hc)).trans ho⟩
    have hbg := HI.out.big
    have hF1 : ∀ x, F1 x → w.heap.size ≤ x ∧ x ≠ w.heap.size + 1 ∧ x ≠ w.heap.size + 2 ∧ x ≠ w.heap.size + 3 := fun x hx' => by
      rcases hf1 x hx' with h | h
      · exact (HF0.out x h).1
      · omega
    have hsame : ∀ x, x ≠ w.heap.size + 2 → (W1.setCell ⟨w.heap.size + 2, 0, none⟩ (.int .i64 (e1 : Int))).heap[x]? = W1.heap[x]? := fun x hx' => Below.heap_setCell _ _ _ x hx'
    refine ⟨(hKO.trans (KeepsOthers.setCell _ _ _)).from _, ⟨(hsame _ (by omega)).trans (hk1.block _ (by omega) (fun hf => (HF0.out _ hf).1.2.2.2 rfl)), fun g hg => ?_⟩, ?_⟩
    · have h1 := hv g hg
      exact (hsame g (by omega)).trans (hk1.block g (by omega) (fun hf => by have := (HF0.out g hf).1.1; omega))
    · refine ⟨⟨F1, ?_, hF1⟩, ?_, ?_, ?_, ?_⟩
      · rw [playD_snoc]
        exact hs1.blocks (by rw [World.size_setCell]; exact Nat.le_refl _) (fun x hx' => hsame x (hF1 x hx').2.2.1)
      · have h4 : Boxed W1 (w.heap.size + 1) 72 (.pointer (some ⟨w.heap.size, 0, none⟩)) := (hk1.block _ (by omega) (fun hf => (HF0.out _ hf).1.2.1 rfl)).trans HI.out.b4
        exact h4.other (by omega) _
      · rw [endD_snoc]
        exact HB5.out.set _
      · exact HI.out.bel.trans ((hk1.below (B := w.heap.size) (by omega) (fun c hc => (HF0.out c hc).1.1)).setCell (p := ⟨w.heap.size + 2, 0, none⟩) (by simp) _)
      · rw [World.size_setCell]
        have := hk1.size
        omega
  case done =>
    rintro D ys W hD rfl hI hK
    have q4 := hI.b4.cell
    have q5 := hI.b5.cell
    gi_wp2
    gi_quiet (fail)
    gi_wp2
    have hI2 : RpI w (itemsD 0 ds hd) (W.drewN nq) := RpI.own w (Nat.le_refl _) _ W (W.drewN nq) none hI ⟨rfl, rfl, rfl, Nat.le_refl _, fun _ _ _ => rfl⟩ (fun r e => by cases e)
    refine ⟨by simp, .inl ⟨_, _, rfl, run_takeDeferred (show (W.drewN nq).heap[D]? = _ from hK), ?_⟩⟩
    have hI3 := (RpI.own w (B := W0.heap.size) (by omega)).putObj (.deferred none) hI2 hD (show (W.drewN nq).heap[D]? = _ from hK) rfl
    obtain ⟨F, hS, hF⟩ := hI3.st
    have hp1 : playD (itemsD 0 ds hd) = ds := (play_from [] ds 0 hd (by simpa using hfit)).trans (List.nil_append ds)
    have hp2 : endD (itemsD 0 ds hd) = (flatD ds).length := (end_from ds 0 hd).trans (Nat.zero_add _)
    rw [hp1] at hS
    refine ⟨.tuple #[.pointer (some ⟨w.heap.size, 0, none⟩), .int .i64 (endD (itemsD 0 ds hd) : Int)], by simp [results, Tryd.results50, go_sem], w.heap.size, by rw [hp2], ⟨F, hS, fun x hx => (hF x hx).1⟩, hI3.bel⟩
  case stop =>
    rintro D c pre W _ _ h _
    exact h.elim
end Go.Proofs.YtpcnfoaoajfhlaaDoor
