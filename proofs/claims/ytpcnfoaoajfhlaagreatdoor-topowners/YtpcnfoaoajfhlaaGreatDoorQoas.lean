/-
  Package log: replay, by its contract.
  Package log: Crash, by its contract.
  Package log: Crash.
  Package log: a Put or Delete at which it stops.
  Package log: Put and Delete where it stops, or has stopped; Read.
  Package log: Read; what LogStops asks, on lists.
-/
import Derived.Test.YtpcnfoaoajfhlaaGreatDoorQoaq
import Derived.Test.YtpcnfoaoajfhlaaGreatDoorQoar
namespace Go.Proofs.YtpcnfoaoajfhlaaGreatDoor
set_option linter.unusedVariables false
set_option linter.unusedSimpArgs false
set_option linter.unusedVariables false
set_option linter.unusedSimpArgs false
open Go.RowKit Go.Shelf
attribute [local go_sem] Oper.semAt_some

/-- a store's own blocks are cells -/
theorem store_tight {W : World} {b : Nat} {l : List Deed} {F : Nat → Prop} (h : StoreIs W b l F) : ∃ F', StoreIs W b l F' ∧ ∀ x, F' x → F x ∧ ∃ cur e fz, W.heap[x]? = some (.cells cur e fz) := by
  obtain ⟨c0, f0, hl, Fb, Fl, V, hV, hd⟩ := h
  have hF : ∀ x, (x = b ∨ ∃ k, k < 8 ∧ (V k).ownBlock = some x) → F x := fun x hx => by
    rcases hx with rfl | ⟨k, hk, hx⟩
    · exact Fb
    · exact (hV k hk).2.2.2.2 x hx
  refine ⟨fun x => x = b ∨ ∃ k, k < 8 ∧ (V k).ownBlock = some x, ⟨c0, f0, hl, .inl rfl, fun c hc => Fl c (hF c hc), V, fun k hk => ?_, hd⟩, fun x hx => ⟨hF x hx, ?_⟩⟩
  · obtain ⟨a1, a2, a3, a4, a5⟩ := hV k hk
    exact ⟨a1, a2, a3, a4, fun c hc => .inr ⟨k, hk, hc⟩⟩
  · rcases hx with rfl | ⟨k, hk, hx⟩
    · unfold World.cell? at c0
      split at c0
      · rename_i hh
        exact ⟨_, _, _, hh⟩
      · cases c0
    · obtain ⟨a1, a2, a3, a4, a5⟩ := hV k hk
      rcases a3.2 with ⟨e, _⟩ | ⟨g, cap, cur, e, _, hg, _⟩
      · rw [e] at hx; simp [Value.ownBlock] at hx
      · rw [e] at hx
        obtain rfl : g = x := by simpa [Value.ownBlock] using hx
        exact ⟨_, _, _, hg⟩
def playD (pre : List It) : List Deed := pre.foldl (fun l x => (doO l x.1.2).done) []
def endD (pre : List It) : Nat := pre.foldl (fun _ x => x.1.1) 0
theorem playD_snoc (pre : List It) (x : It) : playD (pre ++ [x]) = (doO (playD pre) x.1.2).done := by simp [playD, List.foldl_append]
theorem endD_snoc (pre : List It) (x : It) : endD (pre ++ [x]) = x.1.1 := by simp [endD, List.foldl_append]
theorem play_from (l1 l2 : List Deed) (o : Nat) (h : ∀ d ∈ l2, d.text.size ≤ 12) (hf : Fits (l1 ++ l2)) : (itemsD o l2 h).foldl (fun l x => (doO l x.1.2).done) l1 = l1 ++ l2 := by
  induction l2 generalizing l1 o with
  | nil => simp [itemsD]
  | cons d l ih =>
    simp only [itemsD, List.foldl_cons]
    have h1 := (hf l1.length (by simp)).2
    rw [List.take_append_of_le_length (Nat.le_refl _), List.take_length, List.getElem_append_right (Nat.le_refl _)] at h1
    simp only [Nat.sub_self, List.getElem_cons_zero] at h1
    have h2 : (l1 ++ d :: l).take (l1.length + 1) = l1 ++ [d] := by rw [List.take_append, List.take_of_length_le (by omega)]; simp
    rw [h1, h2, ih (l1 ++ [d]) _ _ (by rw [List.append_assoc]; exact hf)]
    simp
theorem end_from (l : List Deed) (o : Nat) (h : ∀ d ∈ l, d.text.size ≤ 12) : (itemsD o l h).foldl (fun _ x => x.1.1) o = o + (flatD l).length := by
  induction l generalizing o with
  | nil => simp [itemsD, flatD]
  | cons d l ih =>
    simp only [itemsD, List.foldl_cons, flatD, List.length_append]
    rw [ih]
    omega
theorem recMk_c (p : Option Addr) (n c : Nat) (w : World) : Calls Tryz.prog 115 #[.slice p n c] w fun e w' => e = .returned (.func (.func 158) #[] #[.pointer (some ⟨w.heap.size, 0, none⟩)]) ∧ w' = w.alloc (.cells #[.slice p n c] 115) := by
  go_enter Tryz.func115, Tryz.ntmps115
  go_wp2_with fail
  go_ret
  exact ⟨rfl, rfl⟩
theorem recs_stops (n : Nat) (hn : 1 ≤ n) (Bn : Nat) (v : Value) (ds : List Deed) (p : List Nat) (hd : ∀ d ∈ ds, d.text.size ≤ 12) (hk8 : ∀ d ∈ ds, 0 ≤ d.key ∧ d.key < 8) (hp : NoRec p) (hp8 : ∀ x ∈ p, x < 256) (w : World) (hBn : w.cell? ⟨Bn, 0, none⟩ = some v) (hb : BytesAt w v (flatD ds ++ p)) (hv : ∀ g, v.ownBlock = some g → g < w.heap.size) :
    SeqStopsK Fence.wide n Tryz.prog 158 #[.pointer (some ⟨Bn, 0, none⟩)] encsIt (KpB Bn v) (fun xs => xs = itemsD 0 ds hd) (fun pre => pre <+: itemsD 0 ds hd) ds.length w :=
  fun l J Jx W hW hJ hJx hY h0 => recs_in n hn l Bn v ds p hd hk8 hp hp8 J Jx hY
    (fun s X o hs => hJ s X _ none hs (World.grownBy_alloc X o none) (fun r e => by cases e))
    (fun s X k hs => hJ s X _ none hs ⟨rfl, rfl, rfl, Nat.le_refl _, fun _ _ _ => rfl⟩ (fun r e => by cases e))
    W ((hW.cell (p := ⟨Bn, 0, none⟩) (World.block_lt_of_cell? w _ hBn)).trans hBn) (hb.blocks (fun g hg => hW.block g (hv g hg))) h0
/-- a record's own block -/
def RecAt (W : World) (B : Nat) (d : Deed) : Prop := W.heap[B]? = some (.cells #[.int .i64 d.key, .bool d.gone, .string d.text] 120 (0, 0))
theorem RecAt.c0 {W : World} {B : Nat} {d : Deed} (h : RecAt W B d) : W.cell? ⟨B, 0, none⟩ = some (.int .i64 d.key) ∧ W.cell? ⟨B, 1, none⟩ = some (.bool d.gone) ∧ W.cell? ⟨B, 2, none⟩ = some (.string d.text) := by
  unfold RecAt at h
  exact ⟨by simp [World.cell?, h], by simp [World.cell?, h], by simp [World.cell?, h]⟩
/-- what the loop carries -/
structure RpI (w : World) (pre : List It) (W : World) : Prop where
  st : ∃ F, StoreIs W w.heap.size (playD pre) F ∧ ∀ x, F x → w.heap.size ≤ x ∧ x ≠ w.heap.size + 1 ∧ x ≠ w.heap.size + 2 ∧ x ≠ w.heap.size + 3
  b4 : Boxed W (w.heap.size + 1) 86 (.pointer (some ⟨w.heap.size, 0, none⟩))
  b5 : Boxed W (w.heap.size + 2) 3 (.int .i64 (endD pre : Int))
  bel : Below w.heap.size w W
  big : w.heap.size + 4 ≤ W.heap.size
theorem RpI.own (w : World) {B : Nat} (hB : w.heap.size ≤ B) : OwnFrom B (RpI w) := fun pre X Y row hs hg hr => by
  obtain ⟨F, h1, h2⟩ := hs.st
  obtain ⟨F', h3, h4⟩ := store_tight h1
  have hb : ∀ x cur e fz, X.heap[x]? = some (.cells cur e fz) → some x ≠ row := fun x cur e fz hx e' => by
    obtain ⟨_, o, ho, hc⟩ := hr x e'.symm
    rw [hx] at ho
    cases ho
    cases hc
  refine ⟨⟨F', h3.blocks hg.size (fun x hx => ?_), fun x hx => h2 x (h4 x hx).1⟩, hs.b4.kept hg (hb _ _ _ _ hs.b4), hs.b5.kept hg (hb _ _ _ _ hs.b5), hs.bel.trans ⟨hg.os, hg.tape, hg.output, hg.size, fun c hc => hg.block c (by have := hs.bel.size; omega) (fun e => by have := (hr c e.symm).1; omega)⟩, Nat.le_trans hs.big hg.size⟩
  obtain ⟨_, cur, e, fz, hx'⟩ := h4 x hx
  exact hg.block x (Array.getElem?_eq_some_iff.1 hx').1 (hb x _ _ _ hx')
theorem RpI.alloc {w W : World} {pre : List It} (h : RpI w pre W) (o : Obj) : RpI w pre (W.alloc o) := by
  obtain ⟨F, h1, h2⟩ := h.st
  exact ⟨⟨F, h1.below ((Below.refl _ _).alloc (Nat.le_refl _) _), h2⟩, h.b4.alloc _, h.b5.alloc _, h.bel.alloc h.bel.size _, by have := h.big; simp; omega⟩
set_option maxRecDepth 100000 in
set_option maxHeartbeats 4000000 in
theorem replay_c (pv : Option Addr) (nv cv : Nat) (ds : List Deed) (p : List Nat) (hfit : Fits ds) (hd : ∀ d ∈ ds, d.text.size ≤ 12) (hk8 : ∀ d ∈ ds, 0 ≤ d.key ∧ d.key < 8) (hp : NoRec p) (hp8 : ∀ x ∈ p, x < 256) (w : World) (hb : BytesAt w (.slice pv nv cv) (flatD ds ++ p)) (hv : ∀ g, (Value.slice pv nv cv).ownBlock = some g → g < w.heap.size) :
    Calls Tryz.prog 67 #[.slice pv nv cv] w fun e w' => ∃ b, e = .returned (.tuple #[.pointer (some ⟨b, 0, none⟩), .int .i64 ((flatD ds).length : Int)]) ∧ (∃ F, StoreIs w' b ds F ∧ ∀ x, F x → w.heap.size ≤ x) ∧ Below w.heap.size w w' := by
  refine (callsIn_wide (n := 8)).1 ?_
  refine callsIn_of_wp_marks Tryz.func67 rfl trivial ?_ rfl
  simp only [Tryz.ntmps67, List.size_toArray, List.length_cons, List.length_nil, Nat.reduceAdd, Nat.reduceSub, Array.replicate_succ, Array.replicate_zero, List.push_toArray, List.append_toArray, List.nil_append, List.cons_append]
  gi_wp2_with (first | (refine ⟨trivial, ?_⟩; gi_at_call 37; refine (callsIn_wide.2 (new_c _)).mono ?_; rintro e w' ⟨rfl, rfl⟩) | (refine ⟨trivial, ?_⟩; gi_at_call 115; refine (callsIn_wide.2 (recMk_c _ _ _ _)).mono ?_; rintro e w' ⟨rfl, rfl⟩) | (gi_at_call 37; refine (callsIn_wide.2 (new_c _)).mono ?_; rintro e w' ⟨rfl, rfl⟩) | (gi_at_call 115; refine (callsIn_wide.2 (recMk_c _ _ _ _)).mono ?_; rintro e w' ⟨rfl, rfl⟩))
  have hsz : ((((w.alloc (.cells #[.int .i64 0, .slice none 0 0, .slice none 0 0, .slice none 0 0, .slice none 0 0, .slice none 0 0, .slice none 0 0, .slice none 0 0, .slice none 0 0] 151)).alloc (.cells #[.pointer (some ⟨w.heap.size, 0, none⟩)] 86)).alloc (.cells #[.int .i64 0] 3)).alloc (.cells #[.slice pv nv cv] 115)).heap.size = w.heap.size + 4 := by simp
  have hB0 : Below w.heap.size w ((((w.alloc (.cells #[.int .i64 0, .slice none 0 0, .slice none 0 0, .slice none 0 0, .slice none 0 0, .slice none 0 0, .slice none 0 0, .slice none 0 0, .slice none 0 0] 151)).alloc (.cells #[.pointer (some ⟨w.heap.size, 0, none⟩)] 86)).alloc (.cells #[.int .i64 0] 3)).alloc (.cells #[.slice pv nv cv] 115)) := ((((Below.refl _ w).alloc (Nat.le_refl _) _).alloc (by simp) _).alloc (by simp; omega) _).alloc (by simp; omega) _
  have HI0 : RpI w [] ((((w.alloc (.cells #[.int .i64 0, .slice none 0 0, .slice none 0 0, .slice none 0 0, .slice none 0 0, .slice none 0 0, .slice none 0 0, .slice none 0 0, .slice none 0 0] 151)).alloc (.cells #[.pointer (some ⟨w.heap.size, 0, none⟩)] 86)).alloc (.cells #[.int .i64 0] 3)).alloc (.cells #[.slice pv nv cv] 115)) := by
    refine ⟨⟨fun c => c = w.heap.size, (((new_is w).below ((Below.refl _ _).alloc (Nat.le_refl _) _)).below ((Below.refl _ _).alloc (Nat.le_refl _) _)).below ((Below.refl _ _).alloc (Nat.le_refl _) _), fun x hx => by have hx' : x = w.heap.size := hx; omega⟩, ?_, ?_, hB0, by rw [hsz]; exact Nat.le_refl _⟩
    · have h := Boxed.new (w.alloc (.cells #[.int .i64 0, .slice none 0 0, .slice none 0 0, .slice none 0 0, .slice none 0 0, .slice none 0 0, .slice none 0 0, .slice none 0 0, .slice none 0 0] 151)) 86 (.pointer (some ⟨w.heap.size, 0, none⟩))
      rw [World.size_alloc] at h
      exact (h.alloc _).alloc _
    · have h := Boxed.new ((w.alloc (.cells #[.int .i64 0, .slice none 0 0, .slice none 0 0, .slice none 0 0, .slice none 0 0, .slice none 0 0, .slice none 0 0, .slice none 0 0, .slice none 0 0] 151)).alloc (.cells #[.pointer (some ⟨w.heap.size, 0, none⟩)] 86)) 3 (.int .i64 0)
      rw [World.size_alloc, World.size_alloc] at h
      exact h.alloc _
  have hBn : ((((w.alloc (.cells #[.int .i64 0, .slice none 0 0, .slice none 0 0, .slice none 0 0, .slice none 0 0, .slice none 0 0, .slice none 0 0, .slice none 0 0, .slice none 0 0] 151)).alloc (.cells #[.pointer (some ⟨w.heap.size, 0, none⟩)] 86)).alloc (.cells #[.int .i64 0] 3)).alloc (.cells #[.slice pv nv cv] 115)).cell? ⟨w.heap.size + 3, 0, none⟩ = some (.slice pv nv cv) := by
    have h := (Boxed.new (((w.alloc (.cells #[.int .i64 0, .slice none 0 0, .slice none 0 0, .slice none 0 0, .slice none 0 0, .slice none 0 0, .slice none 0 0, .slice none 0 0, .slice none 0 0] 151)).alloc (.cells #[.pointer (some ⟨w.heap.size, 0, none⟩)] 86)).alloc (.cells #[.int .i64 0] 3)) 115 (.slice pv nv cv)).cell
    rw [World.size_alloc, World.size_alloc, World.size_alloc] at h
    exact h
  obtain ⟨W0, hW0⟩ : ∃ W0, ((((w.alloc (.cells #[.int .i64 0, .slice none 0 0, .slice none 0 0, .slice none 0 0, .slice none 0 0, .slice none 0 0, .slice none 0 0, .slice none 0 0, .slice none 0 0] 151)).alloc (.cells #[.pointer (some ⟨w.heap.size, 0, none⟩)] 86)).alloc (.cells #[.int .i64 0] 3)).alloc (.cells #[.slice pv nv cv] 115)) = W0 := ⟨_, rfl⟩
  rw [hW0] at hsz hB0 HI0 hBn ⊢
  clear hW0
  have hvW : ∀ g, (Value.slice pv nv cv).ownBlock = some g → g < W0.heap.size := fun g hg => by have := hv g hg; omega
  refine wpIn_rangeFunc_ownH rfl (by omega) (gf := 158) (lb := #[.pointer (some ⟨w.heap.size + 3, 0, none⟩)]) rfl trivial (enters_of Tryz.func158 (by kernel_rfl) rfl)
    (recs_stops 7 (by omega) (w.heap.size + 3) (.slice pv nv cv) ds p hd hk8 hp hp8 W0 hBn (hb.blocks (fun g hg => hB0.block g (hv g hg))) hvW) KpB.t (KpB.b (by omega) hvW) (Below.refl _ _) (fun _ => rfl)
    (RpI w) (fun _ _ _ => False) (RpI.own w (by omega)) (fun _ _ _ _ _ hs _ _ => hs) HI0
    (fun x a' W => ∃ Bx, RecAt W Bx x.1.2 ∧ a' = { tmps := #[.slice pv nv cv, undef, .pointer none, .int .i64 0, .pointer (some ⟨w.heap.size + 1, 0, none⟩), .pointer (some ⟨w.heap.size + 1 + 1, 0, none⟩), .int .i64 (x.1.1 : Int), .pointer (some ⟨Bx, 0, none⟩), .pointer (some ⟨w.heap.size, 0, none⟩), .slice pv nv cv, .func (.func 158) #[] #[.pointer (some ⟨w.heap.size + 1 + 1 + 1, 0, none⟩)], .int .i64 (x.1.1 : Int), .agg #[.int .i64 x.1.2.key, .bool x.1.2.gone, .string x.1.2.text], undef, undef, undef, undef, undef, undef, undef, undef, undef], defers := [] })
    (fun x a' _ X Y row hs hg hr => by
      obtain ⟨Bx, h1, h2⟩ := hs
      refine ⟨Bx, (hg.block Bx (Array.getElem?_eq_some_iff.1 h1).1 (fun e => ?_)).trans h1, h2⟩
      obtain ⟨_, o, ho, hc⟩ := hr Bx e.symm
      rw [show X.heap[Bx]? = _ from h1] at ho
      cases ho
      cases hc)
    ?assign ?body ?done ?stop
  case assign =>
    rintro l pre ⟨⟨e1, ⟨kd, gd, td⟩⟩, hx⟩ W K hI hK
    have lBn : w.heap.size + 3 < W.heap.size := by have := hI.big; omega
    dsimp only [encsIt]
    gi_wp2
    exact hK _ _ ((KeepsOthers.alloc _ _).from _) ⟨Below.heap_alloc W _ _ lBn, fun g hg => Below.heap_alloc W _ g (by have := hv g hg; have := hI.bel.size; omega)⟩ (hI.alloc _) ⟨W.heap.size, World.alloc_heap_new W _, rfl⟩
  case body =>
    rintro l pre ⟨⟨e1, ⟨kd, gd, td⟩⟩, hx⟩ a' W hl ⟨r, hr⟩ hI ⟨Bx, hBx, rfl⟩ hlt
    obtain ⟨F, hS, hF⟩ := hI.st
    obtain ⟨F0, hS0, hF0⟩ := store_tight hS
    have HS0 : Hid (StoreIs W w.heap.size (playD pre) F0) := hS0
    have HF0 : Hid (∀ x, F0 x → (w.heap.size ≤ x ∧ x ≠ w.heap.size + 1 ∧ x ≠ w.heap.size + 2 ∧ x ≠ w.heap.size + 3) ∧ ∃ cur e fz, W.heap[x]? = some (.cells cur e fz)) := fun x hx => ⟨hF x (hF0 x hx).1, (hF0 x hx).2⟩
    have HI : Hid (RpI w pre W) := hI
    have HX : Hid (td.size ≤ 12) := hx
    obtain ⟨q0, q1, q2⟩ := RecAt.c0 hBx
    have q4 := hI.b4.cell
    have q5 := hI.b5.cell
    have l5 := hI.b5.lt
    dsimp only at q0 q1 q2 hx ⊢
    clear hS hF hF0 hS0 hI
    have h1' : 1 ≤ 8 - 1 - 1 := by omega
    gi_wp2_with (first | (gi_at_call 113; refine (CallsIn.inRound l (callsIn_wide.2 (do_c w.heap.size kd gd td (playD pre) F0 W (by have := HX.out; unfold maxLen; omega) HS0.out))).mono ?_; rintro e W1 ⟨rfl, F1, hs1, hf1, hk1⟩; have HR1 : Hid (∃ F1, StoreIs W1 w.heap.size (doO (playD pre) ⟨kd, gd, td⟩).done F1 ∧ (∀ c, F1 c → F0 c ∨ W.heap.size ≤ c) ∧ Kept F0 W W1) := ⟨F1, hs1, hf1, hk1⟩; have HB5 : Hid (Boxed W1 (w.heap.size + 2) 3 (.int .i64 (endD pre : Int))) := (hk1.block _ l5 (fun hf => ((HF0.out _ hf).1.2.2.1 rfl))).trans HI.out.b5; have p5 := HB5.out.cell; have p5f := HB5.out.frozen; clear hs1 hf1 hk1) | (refine ⟨trivial, ?_⟩; gi_at_call 113; refine (CallsIn.inRound l (callsIn_wide.2 (do_c w.heap.size kd gd td (playD pre) F0 W (by have := HX.out; unfold maxLen; omega) HS0.out))).mono ?_; rintro e W1 ⟨rfl, F1, hs1, hf1, hk1⟩; have HR1 : Hid (∃ F1, StoreIs W1 w.heap.size (doO (playD pre) ⟨kd, gd, td⟩).done F1 ∧ (∀ c, F1 c → F0 c ∨ W.heap.size ≤ c) ∧ Kept F0 W W1) := ⟨F1, hs1, hf1, hk1⟩; have HB5 : Hid (Boxed W1 (w.heap.size + 2) 3 (.int .i64 (endD pre : Int))) := (hk1.block _ l5 (fun hf => ((HF0.out _ hf).1.2.2.1 rfl))).trans HI.out.b5; have p5 := HB5.out.cell; have p5f := HB5.out.frozen; clear hs1 hf1 hk1))
    obtain ⟨F1, hs1, hf1, hk1⟩ := HR1.out
    have hnc : ∀ (k : Nat) (o : Obj), W.heap[k]? = some o → o.isCells = false → ¬ F0 k := fun k o ho hc hf => by
      obtain ⟨_, cur, e, fz, hx'⟩ := HF0.out k hf
      rw [hx'] at ho
      cases ho
      cases hc
    have hKO : KeepsOthers W W1 := ⟨hk1.size, fun k o ho hc => (hk1.block k (Array.getElem?_eq_some_iff.1 ho).1 (hnc k o ho hc)).trans ho⟩
    have hbg := HI.out.big
    have hF1 : ∀ x, F1 x → w.heap.size ≤ x ∧ x ≠ w.heap.size + 1 ∧ x ≠ w.heap.size + 2 ∧ x ≠ w.heap.size + 3 := fun x hx' => by
      rcases hf1 x hx' with h | h
      · exact (HF0.out x h).1
      · omega
    have hsame : ∀ x, x ≠ w.heap.size + 2 → (W1.setCell ⟨w.heap.size + 2, 0, none⟩ (.int .i64 (e1 : Int))).heap[x]? = W1.heap[x]? := fun x hx' => Below.heap_setCell _ _ _ x hx'
    refine ⟨(hKO.trans (KeepsOthers.setCell _ _ _)).from _, ⟨(hsame _ (by omega)).trans (hk1.block _ (by omega) (fun hf => (HF0.out _ hf).1.2.2.2 rfl)), fun g hg => ?_⟩, ?_⟩
    · have h1 := hv g hg
      exact (hsame g (by omega)).trans (hk1.block g (by omega) (fun hf => by have := (HF0.out g hf).1.1; omega))
    · refine ⟨⟨F1, ?_, hF1⟩, ?_, ?_, ?_, ?_⟩
      · rw [playD_snoc]
        exact hs1.blocks (by rw [World.size_setCell]; exact Nat.le_refl _) (fun x hx' => hsame x (hF1 x hx').2.2.1)
      · have h4 : Boxed W1 (w.heap.size + 1) 86 (.pointer (some ⟨w.heap.size, 0, none⟩)) := (hk1.block _ (by omega) (fun hf => (HF0.out _ hf).1.2.1 rfl)).trans HI.out.b4
        exact h4.other (by omega) _
      · rw [endD_snoc]
        exact HB5.out.set _
      · exact HI.out.bel.trans ((hk1.below (B := w.heap.size) (by omega) (fun c hc => (HF0.out c hc).1.1)).setCell (p := ⟨w.heap.size + 2, 0, none⟩) (by simp) _)
      · rw [World.size_setCell]
        have := hk1.size
        omega
  case done =>
    rintro D ys W hD rfl hI hK
    have q4 := hI.b4.cell
    have q5 := hI.b5.cell
    gi_wp2
    gi_quiet (fail)
    gi_wp2
    have hI2 : RpI w (itemsD 0 ds hd) (W.drewN nq) := RpI.own w (Nat.le_refl _) _ W (W.drewN nq) none hI ⟨rfl, rfl, rfl, Nat.le_refl _, fun _ _ _ => rfl⟩ (fun r e => by cases e)
    refine ⟨by simp, .inl ⟨_, _, rfl, run_takeDeferred (show (W.drewN nq).heap[D]? = _ from hK), ?_⟩⟩
    have hI3 := (RpI.own w (B := W0.heap.size) (by omega)).putObj (.deferred none) hI2 hD (show (W.drewN nq).heap[D]? = _ from hK) rfl
    obtain ⟨F, hS, hF⟩ := hI3.st
    have hp1 : playD (itemsD 0 ds hd) = ds := (play_from [] ds 0 hd (by simpa using hfit)).trans (List.nil_append ds)
    have hp2 : endD (itemsD 0 ds hd) = (flatD ds).length := (end_from ds 0 hd).trans (Nat.zero_add _)
    rw [hp1] at hS
    refine ⟨.tuple #[.pointer (some ⟨w.heap.size, 0, none⟩), .int .i64 (endD (itemsD 0 ds hd) : Int)], by simp [results, Tryz.results67, go_sem], w.heap.size, by rw [hp2], ⟨F, hS, fun x hx => (hF x hx).1⟩, hI3.bel⟩
  case stop =>
    rintro D c pre W _ _ h _
    exact h.elim
end Go.Proofs.YtpcnfoaoajfhlaaGreatDoor

namespace Go.Proofs.YtpcnfoaoajfhlaaGreatDoor
set_option linter.unusedVariables false
set_option linter.unusedSimpArgs false
open Go.RowKit

/-- how many bytes are left behind a crash -/
def keepN (keep : Int) (sf n : Nat) : Nat := if keep ≤ 0 then sf else if keep ≤ ((n - sf : Nat) : Int) then sf + keep.toNat else n
theorem keepN_le {keep : Int} {sf n : Nat} (h : sf ≤ n) : sf ≤ keepN keep sf n ∧ keepN keep sf n ≤ n := by
  unfold keepN
  split
  · omega
  · split <;> omega
/-- five cells at a block turn -/
theorem Lq.reset {S F : Nat → Prop} {w : World} {j b : Nat} {v : Value} {l : List Deed} {bs : List Nat} {sf : Nat} {lf : Int} {st : Bool} (h : Lq S F w j b v l bs sf lf st) {F2 : Nat → Prop} {b2 : Nat} {v2 : Value} {l2 : List Deed} {bs2 : List Nat} {sf2 : Nat} {lf2 : Int} {st2 : Bool}
    (hs : StoreIs w b2 l2 F2) (hF : ∀ x, F2 x → x ≠ j) (hr : OwnB w v2 bs2) (hv : ∀ g, v2.ownBlock = some g → S g ∧ ¬ F2 g ∧ g ≠ j) :
    Lq (fun x => S x ∨ F2 x) F2 (((((w.setCell ⟨j, 0, none⟩ (.pointer (some ⟨b2, 0, none⟩))).setCell ⟨j, 1, none⟩ v2).setCell ⟨j, 2, none⟩ (.int .i64 sf2)).setCell ⟨j, 3, none⟩ (.int .i64 lf2)).setCell ⟨j, 4, none⟩ (.bool st2)) j b2 v2 l2 bs2 sf2 lf2 st2 := by
  obtain ⟨w5, hw⟩ : ∃ w5, w5 = (((((w.setCell ⟨j, 0, none⟩ (.pointer (some ⟨b2, 0, none⟩))).setCell ⟨j, 1, none⟩ v2).setCell ⟨j, 2, none⟩ (.int .i64 sf2)).setCell ⟨j, 3, none⟩ (.int .i64 lf2)).setCell ⟨j, 4, none⟩ (.bool st2)) := ⟨_, rfl⟩
  have hsz : w5.heap.size = w.heap.size := by rw [hw]; simp only [World.size_setCell]
  have hb : ∀ x, x ≠ j → w5.heap[x]? = w.heap[x]? := fun x hx => by
    rw [hw, Below.heap_setCell _ _ _ x hx, Below.heap_setCell _ _ _ x hx, Below.heap_setCell _ _ _ x hx, Below.heap_setCell _ _ _ x hx, Below.heap_setCell _ _ _ x hx]
  have e0 : w5.cell? ⟨j, 0, none⟩ = some (.pointer (some ⟨b2, 0, none⟩)) := by
    rw [hw, World.cell?_setCell_other _ _ _ _ (by simp), World.cell?_setCell_other _ _ _ _ (by simp), World.cell?_setCell_other _ _ _ _ (by simp), World.cell?_setCell_other _ _ _ _ (by simp)]
    exact World.cell?_setCell_same _ _ _ h.c0
  have e1 : w5.cell? ⟨j, 1, none⟩ = some v2 := by
    rw [hw, World.cell?_setCell_other _ _ _ _ (by simp), World.cell?_setCell_other _ _ _ _ (by simp), World.cell?_setCell_other _ _ _ _ (by simp)]
    exact World.cell?_setCell_same _ _ _ ((World.cell?_setCell_other _ _ _ _ (by simp)).trans h.c1)
  have e2 : w5.cell? ⟨j, 2, none⟩ = some (.int .i64 sf2) := by
    rw [hw, World.cell?_setCell_other _ _ _ _ (by simp), World.cell?_setCell_other _ _ _ _ (by simp)]
    refine World.cell?_setCell_same _ _ _ (u := .int .i64 sf) ?_
    rw [World.cell?_setCell_other _ _ _ _ (by simp), World.cell?_setCell_other _ _ _ _ (by simp)]
    exact h.c2
  have e3 : w5.cell? ⟨j, 3, none⟩ = some (.int .i64 lf2) := by
    rw [hw, World.cell?_setCell_other _ _ _ _ (by simp)]
    refine World.cell?_setCell_same _ _ _ (u := .int .i64 lf) ?_
    rw [World.cell?_setCell_other _ _ _ _ (by simp), World.cell?_setCell_other _ _ _ _ (by simp), World.cell?_setCell_other _ _ _ _ (by simp)]
    exact h.c3
  have e4 : w5.cell? ⟨j, 4, none⟩ = some (.bool st2) := by
    rw [hw]
    refine World.cell?_setCell_same _ _ _ (u := .bool st) ?_
    rw [World.cell?_setCell_other _ _ _ _ (by simp), World.cell?_setCell_other _ _ _ _ (by simp), World.cell?_setCell_other _ _ _ _ (by simp), World.cell?_setCell_other _ _ _ _ (by simp)]
    exact h.c4
  have ef : ∀ k, w5.frozen? ⟨j, k, none⟩ = false := fun k => by rw [hw]; simp only [World.frozen?_setCell]; exact h.fz k
  rw [← hw]
  exact ⟨e0, e1, e2, e3, e4, ef, hs.blocks (by rw [hsz]; exact Nat.le_refl _) (fun x hx => hb x (hF x hx)), hr.blocks (fun g hg => hb g (hv g hg).2.2), .inl h.sj, fun x hx => ⟨.inr hx, hF x hx⟩, fun g hg => ⟨.inl (hv g hg).1, (hv g hg).2⟩, fun x hx => by
    rw [hsz]
    rcases hx with hx | hx
    · exact h.lt x hx
    · exact hs.2.2.2.2.1 x hx⟩
end Go.Proofs.YtpcnfoaoajfhlaaGreatDoor

namespace Go.Proofs.YtpcnfoaoajfhlaaGreatDoor
set_option linter.unusedVariables false
set_option linter.unusedSimpArgs false
open Go.RowKit

set_option maxRecDepth 100000 in
set_option maxHeartbeats 8000000 in
theorem lgCrash_c {S : Nat → Prop} {w : World} {j n m : Nat} {l : List Deed} {p p' : List Nat} {sf : Nat} {lf : Int} {st : Bool} (keep : Int) (h : LgAt S w j l p sf lf st) (hn : (flatD l ++ p).length = n) (hn5 : n ≤ 100000) (hsf : sf ≤ n) (hfit : Fits (l.take m)) (hd : ∀ d ∈ l.take m, d.text.size ≤ 12) (hk8 : ∀ d ∈ l.take m, 0 ≤ d.key ∧ d.key < 8)
    (hcut : (flatD l ++ p).take (keepN keep sf n) = flatD (l.take m) ++ p') (hp : NoRec p') (hp8 : ∀ x ∈ p', x < 256) :
    Calls Tryz.prog 25 #[.pointer (some ⟨j, 0, none⟩), .int .i64 keep] w fun e w' => e = .returned (.tuple #[]) ∧ LgTo S w w' j (l.take m) [] (flatD (l.take m)).length (-1) false := by
  obtain ⟨F, b, v, h⟩ := h
  have HQ : Hid (Lq S F w j b v l (flatD l ++ p) sf lf st) := h.q
  have HFit : Hid (Fits (l.take m) ∧ (∀ d ∈ l.take m, d.text.size ≤ 12) ∧ (∀ d ∈ l.take m, 0 ≤ d.key ∧ d.key < 8) ∧ NoRec p' ∧ ∀ x ∈ p', x < 256) := ⟨hfit, hd, hk8, hp, hp8⟩
  have hK := keepN_le (keep := keep) hsf
  obtain ⟨K, HK⟩ : ∃ K, Hid (keepN keep sf n = K) := ⟨_, rfl⟩
  rw [HK.out] at hcut hK
  have HCut : Hid ((flatD l ++ p).take K = flatD (l.take m) ++ p') := hcut
  have HN : Hid ((flatD l ++ p).length = n) := hn
  have HKn : Hid (sf ≤ K ∧ K ≤ n) := hK
  have hkeq : keepN keep sf n = K := HK.out
  have HKl : Hid ((flatD (l.take m)).length ≤ K) := by
    have h1 : (flatD (l.take m) ++ p').length ≤ K := by rw [← hcut]; exact List.length_take_le _ _
    rw [List.length_append] at h1
    show _ ≤ _
    omega
  have c1 := h.c1
  have c2 := h.c2
  rcases h.row.slice with ⟨hv, hnil⟩ | ⟨g, cap, hv, hcap, hcm⟩
  · subst hv
    have hn0 : n = 0 := by rw [← hn, hnil]; rfl
    subst hn0
    have hs0 : sf = 0 := by omega
    subst hs0
    have hK0 : K = 0 := by omega
    subst hK0
    have HE0 : Hid (flatD (l.take m) ++ p' = []) := by show _ = _; rw [← hcut]; rfl
    have HE1 : Hid ((flatD (l.take m)).length = 0) := by
      have h1 := congrArg List.length HE0.out
      rw [List.length_append] at h1
      show _ = _
      simp at h1 ⊢
      exact h1.1
    clear h hfit hd hk8 hp hp8 hcut hn hK HK hkeq hnil
    go_enter Tryz.func25, Tryz.ntmps25
    go_upto_region 1 with (go_quiet (fail))
    obtain ⟨w2, HW2⟩ : ∃ z, z = w.drewN nq := ⟨_, rfl⟩
    rw [← HW2]
    have HQ2 : Hid (Lq S F w2 j b (.slice none 0 0) l (flatD l ++ p) 0 lf st) := by rw [HW2]; exact HQ.out.blocks (Nat.le_refl _) (fun _ _ => rfl)
    have HB2 : Hid (Below w.heap.size w w2) := by rw [HW2]; exact ⟨rfl, rfl, rfl, Nat.le_refl _, fun _ _ => rfl⟩
    clear HW2 HQ c1 c2
    have c1 := HQ2.out.c1
    have c2 := HQ2.out.c2
    go_cut [5] (fun c5 wd => c5 = .slice none 0 0 ∧ Hid (Below w2.heap.size w2 wd))
    case first =>
      by_cases h2 : keep < 0
      · go_quiet (fail)
        go_wp2_with fail
        go_meet
        case rel => exact ⟨by first | rfl | simp, show Below _ _ _ from ⟨rfl, rfl, rfl, Nat.le_refl _, fun _ _ => rfl⟩⟩
      · obtain ⟨kn, rfl⟩ : ∃ k : Nat, keep = k := ⟨keep.toNat, by omega⟩
        by_cases h3 : kn = 0
        · subst h3
          go_quiet (fail)
          go_wp2_with fail
          go_meet
          case rel => exact ⟨by first | rfl | simp, show Below _ _ _ from ⟨rfl, rfl, rfl, Nat.le_refl _, fun _ _ => rfl⟩⟩
        · have h4 : (0 : Int) < (kn : Int) := by omega
          go_quiet (fail)
          go_wp2_with fail
          go_meet
          case rel => exact ⟨by first | rfl | simp, show Below _ _ _ from ⟨rfl, rfl, rfl, Nat.le_refl _, fun _ _ => rfl⟩⟩
    case rest =>
    obtain ⟨h5, HB3⟩ := hcut
    obtain ⟨w3, hren⟩ : ∃ x, x = wc := ⟨_, rfl⟩
    subst hren
    subst h5
    have HQ3 : Hid (Lq S F w3 j b (.slice none 0 0) l (flatD l ++ p) 0 lf st) := HQ2.out.grown HB3.out
    have HSz : Hid (w.heap.size ≤ w3.heap.size) := Nat.le_trans HB2.out.size HB3.out.size
    have HB3' : Hid (Below w.heap.size w w3) := HB2.out.trans (HB3.out.mono HB2.out.size)
    have HBy : Hid (BytesAt w3 (.slice none 0 0) (flatD (l.take m) ++ p')) := by rw [HE0.out]; exact (OwnB.nil w3).bytes (by simp)
    clear HQ2 c1 c2 HB3 HB2
    go_wp2_with fail
    refine (replay_c none 0 0 (l.take m) p' HFit.out.1 HFit.out.2.1 HFit.out.2.2.1 HFit.out.2.2.2.1 HFit.out.2.2.2.2 w3 HBy.out (fun g' hg' => by simp [Value.ownBlock] at hg')).mono ?_
    rintro e w4 ⟨b2, rfl, ⟨F2, hs2, hf2⟩, hb4⟩
    have HQ4 : Hid (Lq S F w4 j b (.slice none 0 0) l (flatD l ++ p) 0 lf st) := HQ3.out.grown hb4
    have HB4 : Hid (Below w.heap.size w w4) := HB3'.out.trans (hb4.mono HSz.out)
    have HS2 : Hid (StoreIs w4 b2 (l.take m) F2 ∧ ∀ x, F2 x → w3.heap.size ≤ x) := ⟨hs2, hf2⟩
    have hfl : flatD (l.take m) = [] := List.length_eq_zero_iff.1 HE1.out
    have HEnd : Hid (Lq (fun x => S x ∨ F2 x) F2 (((((w4.setCell ⟨j, 0, none⟩ (.pointer (some ⟨b2, 0, none⟩))).setCell ⟨j, 1, none⟩ (.slice none 0 0)).setCell ⟨j, 2, none⟩ (.int .i64 ((0 : Nat) : Int))).setCell ⟨j, 3, none⟩ (.int .i64 (-1))).setCell ⟨j, 4, none⟩ (.bool false)) j b2 (.slice none 0 0) (l.take m) [] 0 (-1) false) :=
      HQ4.out.reset hs2 (fun x hx => by have h1 := hf2 x hx; have h2 := HQ3.out.lt j HQ3.out.sj; omega) (OwnB.nil _) (fun g' hg' => by simp [Value.ownBlock] at hg')
    have HKp : Hid (Kept S w (((((w4.setCell ⟨j, 0, none⟩ (.pointer (some ⟨b2, 0, none⟩))).setCell ⟨j, 1, none⟩ (.slice none 0 0)).setCell ⟨j, 2, none⟩ (.int .i64 ((0 : Nat) : Int))).setCell ⟨j, 3, none⟩ (.int .i64 (-1))).setCell ⟨j, 4, none⟩ (.bool false))) :=
      setKept (setKept (setKept (setKept (setKept (Kept.of_below HB4.out) j 0 (.inl HQ4.out.sj) _) j 1 (.inl HQ4.out.sj) _) j 2 (.inl HQ4.out.sj) _) j 3 (.inl HQ4.out.sj) _) j 4 (.inl HQ4.out.sj) _
    have HFl : Hid (flatD (l.take m) = []) := hfl
    rw [HE1.out]
    have d0 := HQ4.out.c0
    have d1 := HQ4.out.c1
    have d2 := HQ4.out.c2
    have d3 := HQ4.out.c3
    have d4 := HQ4.out.c4
    have df := HQ4.out.fz
    clear hs2 hf2 hb4 HQ3 HQ4 HB4 HB3' hfl
    go_wp2_with fail
    refine bodyPost_end (v := .tuple #[]) (by simp [results, Tryz.results25, go_sem]) rfl ?_
    refine ⟨rfl, ?_⟩
    rw [HE1.out]
    exact HEnd.out.to (p := []) (by rw [HFl.out]; rfl) HKp.out (fun x hx => by
      rcases hx with hx | hx
      · exact .inl hx
      · have h1 := HS2.out.2 x hx
        have h2 := HSz.out
        exact .inr (by omega))
  · rw [HN.out] at hv hcap
    subst hv
    unfold maxLen at hcm
    have HRow : Hid (OwnB w (.slice (some ⟨g, 0, none⟩) n cap) (flatD l ++ p)) := h.row
    have HRk : Hid (OwnB w (.slice (some ⟨g, 0, none⟩) K cap) (flatD (l.take m) ++ p')) := by
      have h1 := h.row.take K (by rw [HN.out]; exact hK.2)
      rw [hcut] at h1
      exact h1
    have hkc : K ≤ cap := by omega
    clear h hfit hd hk8 hp hp8 hcut hn hK HK
    go_enter Tryz.func25, Tryz.ntmps25
    go_upto_region 1 with (go_quiet (fail))
    obtain ⟨w2, HW2⟩ : ∃ z, z = w.drewN nq := ⟨_, rfl⟩
    rw [← HW2]
    have HQ2 : Hid (Lq S F w2 j b (.slice (some ⟨g, 0, none⟩) n cap) l (flatD l ++ p) sf lf st) := by rw [HW2]; exact HQ.out.blocks (Nat.le_refl _) (fun _ _ => rfl)
    have HRk2 : Hid (OwnB w2 (.slice (some ⟨g, 0, none⟩) K cap) (flatD (l.take m) ++ p')) := by rw [HW2]; exact HRk.out.blocks (fun _ _ => rfl)
    have HB2 : Hid (Below w.heap.size w w2) := by rw [HW2]; exact ⟨rfl, rfl, rfl, Nat.le_refl _, fun _ _ => rfl⟩
    clear HW2 HQ HRow HRk c1 c2
    have c1 := HQ2.out.c1
    have c2 := HQ2.out.c2
    go_cut [5] (fun c5 wd => c5 = .slice (some ⟨g, 0, none⟩) K cap ∧ Hid (Below w2.heap.size w2 wd))
    case first =>
      unfold keepN at hkeq
      by_cases h1 : keep ≤ 0
      · rw [if_pos h1] at hkeq
        subst hkeq
        by_cases h2 : keep < 0
        · go_quiet (fail)
          go_wp2_with fail
          go_meet
          case rel => exact ⟨rfl, show Below _ _ _ from ⟨rfl, rfl, rfl, Nat.le_refl _, fun _ _ => rfl⟩⟩
        · obtain rfl : keep = 0 := by omega
          go_quiet (fail)
          go_wp2_with fail
          go_meet
          case rel => exact ⟨by first | rfl | simp, show Below _ _ _ from ⟨rfl, rfl, rfl, Nat.le_refl _, fun _ _ => rfl⟩⟩
      · rw [if_neg h1] at hkeq
        obtain ⟨kn, rfl⟩ : ∃ k : Nat, keep = k := ⟨keep.toNat, by omega⟩
        by_cases h2 : (kn : Int) ≤ ((n - sf : Nat) : Int)
        · rw [if_pos h2] at hkeq
          have HE : Hid (sf + kn = K) := by show _ = _; rw [← hkeq]; simp
          go_quiet (fail)
          go_wp2_with fail
          go_meet
          case rel => exact ⟨by rw [HE.out], show Below _ _ _ from ⟨rfl, rfl, rfl, Nat.le_refl _, fun _ _ => rfl⟩⟩
        · rw [if_neg h2] at hkeq
          have HE : Hid (n = K) := hkeq
          have h3 : ¬ (kn : Int) ≤ (n : Int) - (sf : Int) := by omega
          have h4 : (n : Int) - (sf : Int) < (kn : Int) := by omega
          have HE2 : Hid (sf + (n - sf) = K) := by show _ = _; rw [← HE.out]; omega
          clear h2 hkeq
          go_quiet (fail)
          go_wp2_with fail
          go_meet
          case rel => exact ⟨by first | rw [HE2.out] | rw [HE.out], show Below _ _ _ from ⟨rfl, rfl, rfl, Nat.le_refl _, fun _ _ => rfl⟩⟩
    case rest =>
    obtain ⟨h5, HB3⟩ := hcut
    obtain ⟨w3, hren⟩ : ∃ x, x = wc := ⟨_, rfl⟩
    subst hren
    subst h5
    have HQ3 : Hid (Lq S F w3 j b (.slice (some ⟨g, 0, none⟩) n cap) l (flatD l ++ p) sf lf st) := HQ2.out.grown HB3.out
    have HRk3 : Hid (OwnB w3 (.slice (some ⟨g, 0, none⟩) K cap) (flatD (l.take m) ++ p')) := HRk2.out.below HB3.out
    have HSz : Hid (w.heap.size ≤ w3.heap.size) := Nat.le_trans HB2.out.size HB3.out.size
    have HB3' : Hid (Below w.heap.size w w3) := HB2.out.trans (HB3.out.mono HB2.out.size)
    have lg := HRk3.out.lt g rfl
    have HLk : Hid ((flatD (l.take m) ++ p').length ≤ 100000) := by
      show _ ≤ _
      rw [← HCut.out]
      have := List.length_take_le K (flatD l ++ p)
      have := HKn.out
      omega
    have HGl : Hid (∀ g', (Value.slice (some ⟨g, 0, none⟩) K cap).ownBlock = some g' → g' < w3.heap.size) := fun g' hg' => HRk3.out.lt g' hg'
    clear HQ2 HRk2 c1 c2 HB3 HB2
    go_wp2_with fail
    refine (replay_c (some ⟨g, 0, none⟩) K cap (l.take m) p' HFit.out.1 HFit.out.2.1 HFit.out.2.2.1 HFit.out.2.2.2.1 HFit.out.2.2.2.2 w3 (HRk3.out.bytes HLk.out) HGl.out).mono ?_
    rintro e w4 ⟨b2, rfl, ⟨F2, hs2, hf2⟩, hb4⟩
    have HQ4 : Hid (Lq S F w4 j b (.slice (some ⟨g, 0, none⟩) n cap) l (flatD l ++ p) sf lf st) := HQ3.out.grown hb4
    have HB4 : Hid (Below w.heap.size w w4) := HB3'.out.trans (hb4.mono HSz.out)
    have HR4 : Hid (OwnB w4 (.slice (some ⟨g, 0, none⟩) (flatD (l.take m)).length cap) (flatD (l.take m))) := by
      have h := (HRk3.out.below hb4).take (flatD (l.take m)).length (by rw [List.length_append]; omega)
      rw [List.take_left] at h
      exact h
    have HS2 : Hid (StoreIs w4 b2 (l.take m) F2 ∧ ∀ x, F2 x → w3.heap.size ≤ x) := ⟨hs2, hf2⟩
    have HEnd : Hid (Lq (fun x => S x ∨ F2 x) F2 (((((w4.setCell ⟨j, 0, none⟩ (.pointer (some ⟨b2, 0, none⟩))).setCell ⟨j, 1, none⟩ (.slice (some ⟨g, 0, none⟩) (flatD (l.take m)).length cap)).setCell ⟨j, 2, none⟩ (.int .i64 ((flatD (l.take m)).length : Nat))).setCell ⟨j, 3, none⟩ (.int .i64 (-1))).setCell ⟨j, 4, none⟩ (.bool false)) j b2 (.slice (some ⟨g, 0, none⟩) (flatD (l.take m)).length cap) (l.take m) (flatD (l.take m)) (flatD (l.take m)).length (-1) false) :=
      HQ4.out.reset hs2 (fun x hx => by have h1 := hf2 x hx; have h2 := HQ3.out.lt j HQ3.out.sj; omega) HR4.out (fun g' hg' => by
        have h1 := HQ4.out.sv g' hg'
        refine ⟨h1.1, fun hf => ?_, h1.2.2⟩
        have h2 := hf2 g' hf
        have h3 := HRk3.out.lt g' hg'
        omega)
    have HKp : Hid (Kept S w (((((w4.setCell ⟨j, 0, none⟩ (.pointer (some ⟨b2, 0, none⟩))).setCell ⟨j, 1, none⟩ (.slice (some ⟨g, 0, none⟩) (flatD (l.take m)).length cap)).setCell ⟨j, 2, none⟩ (.int .i64 ((flatD (l.take m)).length : Nat))).setCell ⟨j, 3, none⟩ (.int .i64 (-1))).setCell ⟨j, 4, none⟩ (.bool false))) :=
      setKept (setKept (setKept (setKept (setKept (Kept.of_below HB4.out) j 0 (.inl HQ4.out.sj) _) j 1 (.inl HQ4.out.sj) _) j 2 (.inl HQ4.out.sj) _) j 3 (.inl HQ4.out.sj) _) j 4 (.inl HQ4.out.sj) _
    obtain ⟨k2, HK2⟩ : ∃ k2, Hid ((flatD (l.take m)).length = k2) := ⟨_, rfl⟩
    rw [HK2.out] at HEnd HKp HKl ⊢
    have hk2 : k2 ≤ cap := by have := HKl.out; omega
    have d0 := HQ4.out.c0
    have d1 := HQ4.out.c1
    have d2 := HQ4.out.c2
    have d3 := HQ4.out.c3
    have d4 := HQ4.out.c4
    have df := HQ4.out.fz
    clear hs2 hf2 hb4 HQ3 HRk3 HQ4 HR4 HB4 HB3'
    go_wp2_with fail
    refine bodyPost_end (v := .tuple #[]) (by simp [results, Tryz.results25, go_sem]) rfl ?_
    refine ⟨rfl, ?_⟩
    rw [HK2.out]
    exact HEnd.out.to (p := []) (by simp) HKp.out (fun x hx => by
      rcases hx with hx | hx
      · exact .inl hx
      · have h1 := HS2.out.2 x hx
        have h2 := HSz.out
        exact .inr (by omega))
end Go.Proofs.YtpcnfoaoajfhlaaGreatDoor

namespace Go.Proofs.YtpcnfoaoajfhlaaGreatDoor
set_option linter.unusedVariables false
set_option linter.unusedSimpArgs false
open Go.RowKit

/-- append, not laid open: its run is then met as a fact -/
def appB (ats : Array TypeId) (ty : TypeId) (args : Array Value) : Sem Value := Builtin.append_ ats ty args
theorem appB_is (ats : Array TypeId) (ty : TypeId) (args : Array Value) : Builtin.append_ ats ty args = appB ats ty args := rfl
attribute [local go_sem ↓] appB_is
theorem run_appB (w : World) (v : Value) (out : List Nat) (hown : OwnB w v out) (g n cap : Nat) (more : List Nat) (hm : OwnB w (.slice (some ⟨g, 0, none⟩) n cap) more) (hn : more.length = n) (hl : out.length + more.length ≤ 100000) :
    ∃ v' w', (appB #[115, 115] 115 #[v, .slice (some ⟨g, 0, none⟩) n cap]).run Tryz.prog w = .ok v' w' ∧ OwnB w' v' (out ++ more) ∧ w.grownBy w' v.ownBlock ∧ (v'.ownBlock = v.ownBlock ∨ v'.ownBlock = some w.heap.size) := by
  subst hn
  obtain ⟨i0, hi0, hz0, hz1, hz2⟩ := info_parts infoB
  rcases hm.2 with ⟨he, _⟩ | ⟨g2, cap2, cur, he, _, hg, hc1, hc2, hc3, hc4⟩
  · cases he
  · obtain ⟨rfl, rfl⟩ : g = g2 ∧ cap = cap2 := by simpa using he
    have q2 : ∀ (j : Nat) (u : Value), (rowB more)[j]? = some u → w.cell? ((⟨g, 0, none⟩ : Addr).add j) = some u := fun j u hu => by
      rw [← hc4] at hu
      have hj : (cur.toList.take (more.length * 1))[j]? = some u := hu
      rw [List.getElem?_take] at hj
      split at hj
      · have hq : cur[j]? = some u := by simpa using hj
        by_cases hj0 : j = 0
        · subst hj0; simp [World.cell?, Addr.add, hg, hq]
        · simp [World.cell?, Addr.add, hj0, hg, hq]
      · cases hj
    obtain ⟨v3, w3, h1, h2, h3, _, h5⟩ := run_append_own_at (P := Tryz.prog) w 0 115 115 5 i0 _ 1 1 Tryz.underlying115 hi0 hz0 hz1 hz2 rfl (by omega) v out.length (rowB out) hown ⟨g, 0, none⟩ more.length cap (rowB more) (by rw [rowB_length]; omega) q2 (rowB_one more) (by unfold maxLen; omega) (by omega) (Nat.zero_le _)
    refine ⟨v3, w3, h1, (show World.ownsRow _ _ _ _ _ _ _ from ?_), h3, h5⟩
    rw [rowB_append, List.length_append]
    exact h2
set_option maxRecDepth 100000 in
set_option maxHeartbeats 8000000 in
theorem change_stop (k : Int) (g : Bool) (t : ByteArray) (ht : t.size ≤ maxLen) {S : Nat → Prop} {w : World} {j : Nat} {l od : List Deed} {sf : Nat} {on : Int} (h : LgAt S w j l [] sf 0 false) (hl : (flatD l).length ≤ 50000)
    (hfit : Fits l) (hd : ∀ d ∈ l, d.text.size ≤ 12) (hk8 : ∀ d ∈ l, 0 ≤ d.key ∧ d.key < 8)
    (ho : doO l ⟨k, g, t⟩ = ⟨od, on, 0⟩) (hgo : 0 ≤ k ∧ k < 8 ∧ t.size ≤ 12) :
    Calls Tryz.prog 65 #[.pointer (some ⟨j, 0, none⟩), .agg #[.int .i64 k, .bool g, .string t]] w fun e w' => e = .returned (.tuple #[.int .i64 0, errV 6]) ∧ LgTo S w w' j l ((encD ⟨k, g, t⟩).take ((t.size + 2) / 2)) sf 0 true := by
  obtain ⟨F, b, v, h⟩ := h
  have HL : Hid (Lg S F w j b v l [] sf 0 false) := h
  have HO : Hid (doO l ⟨k, g, t⟩ = ⟨od, on, 0⟩) := ho
  have HT : Hid (t.size ≤ maxLen) := ht
  have HH : Hid (0 ≤ k ∧ k < 8 ∧ t.size ≤ 12) := hgo
  have HLf : Hid ((flatD l).length ≤ 50000 ∧ Fits l ∧ (∀ d ∈ l, d.text.size ≤ 12) ∧ ∀ d ∈ l, 0 ≤ d.key ∧ d.key < 8) := ⟨hl, hfit, hd, hk8⟩
  rw [errN (by omega)]
  have c4 := h.c4
  have lj : j < w.heap.size := h.lt j h.sj
  have HA : Hid (Lg S F (w.alloc (.cells #[.int .i64 k, .bool g, .string t] 120)) j b v l [] sf 0 false) := h.grown ((Below.refl _ _).alloc (Nat.le_refl _) _)
  have HR : Hid (BoxR (w.alloc (.cells #[.int .i64 k, .bool g, .string t] 120)) w.heap.size k g t) := boxR_new w k g t
  have HBa : Hid (Below w.heap.size w (w.alloc (.cells #[.int .i64 k, .bool g, .string t] 120))) := (Below.refl _ _).alloc (Nat.le_refl _) _
  have HZa : Hid ((w.alloc (.cells #[.int .i64 k, .bool g, .string t] 120)).heap.size = w.heap.size + 1) := by show _ = _; simp
  clear h ho ht hgo hl hfit hd hk8
  go_enter Tryz.func65, Tryz.ntmps65
  go_upto_region 3 with fail
  obtain ⟨wa, HWa⟩ : ∃ wa, wa = w.alloc (.cells #[.int .i64 k, .bool g, .string t] 120) := ⟨_, rfl⟩
  rw [← HWa] at HA HR HBa HZa ⊢
  obtain ⟨R, HRr⟩ : ∃ R, R = w.heap.size := ⟨_, rfl⟩
  have HRz : Hid (R = w.heap.size) := HRr
  rw [← HRr] at HR ⊢
  clear HWa HRr c4 lj
  have a0 := HA.out.c0
  have lj : j < wa.heap.size := HA.out.lt j HA.out.sj
  obtain ⟨r0, r1, r2⟩ := HR.out
  have lR := HR.out.lt
  go_cut [6, 7] (fun c6 c7 wd => c6 = .int .i64 on ∧ c7 = .nilIface ∧ ∃ F', Hid (StoreIs wd b od F' ∧ (∀ c, F' c → F c ∨ wa.heap.size ≤ c) ∧ Kept F wa wd))
  case first =>
    refine wp_region_noPanic ?_
    go_region_with (go_at_call 113; refine Calls.mono (do_c b k g t l F _ HT.out (HA.out.sto.below (by go_grown))) ?_; rw [HO.out]; rintro e w1 ⟨rfl, F', hs, hf, hk⟩; rw [errZ]; have HX : Hid (∃ F', StoreIs w1 b od F' ∧ (∀ c, F' c → F c ∨ wa.heap.size ≤ c) ∧ Kept F wa w1) := ⟨F', hs, hf, ⟨hk.os, hk.tape, hk.output, hk.size, hk.block⟩⟩; clear hs hf hk)
    all_goals refine NoPanic.normal ?_
    all_goals go_wp2_with fail
    all_goals go_meet
    all_goals exact ⟨rfl, rfl, HX.out⟩
  case rest =>
  obtain ⟨h6, h7, F', HX⟩ := hcut
  obtain ⟨w1, hren⟩ : ∃ x, x = wc := ⟨_, rfl⟩
  subst hren
  subst h6 h7
  clear a0 r0 r1 r2
  have HQ1 : Hid (Lq (fun x => S x ∨ F' x) F' w1 j b v od (flatD l) sf 0 false) := by
    have h := HA.out.q.store HX.out.1 HX.out.2.1 HX.out.2.2
    rw [List.append_nil] at h
    exact h
  have HR1 : Hid (BoxR w1 R k g t) := HR.out.of_block (HX.out.2.2.block R lR (fun hf => by have h1 := HL.out.lt R (HL.out.sF R hf).1; have h2 := HRz.out; omega))
  have HK1 : Hid (Kept S w w1) := (Kept.of_below (F := S) HBa.out).trans HX.out.2.2 (fun x _ hx => (HL.out.sF x hx).1)
  have HS1 : Hid (∀ x, (S x ∨ F' x) → S x ∨ w.heap.size ≤ x) := fun x hx => by
    rcases hx with hx | hx
    · exact .inl hx
    · rcases HX.out.2.1 x hx with hx | hx
      · exact .inl (HL.out.sF x hx).1
      · have := HZa.out; exact .inr (by omega)
  clear HX HA HR
  obtain ⟨hk0, hk8, ht12⟩ := HH.out
  obtain ⟨kn, rfl⟩ : ∃ n : Nat, k = n := ⟨k.toNat, by omega⟩
  have HKn : Hid (kn < 8 ∧ t.size ≤ 12) := ⟨by omega, ht12⟩
  clear hk0 hk8 ht12 HH
  obtain ⟨r0, r1, r2⟩ := HR1.out
  have lR1 := HR1.out.lt
  go_wp2_with fail
  refine (recBytes_c kn g t _ HKn.out.1 HKn.out.2).mono ?_
  rintro e w2 ⟨v8, rfl, ho8, hf8, hb⟩
  have HO8 : Hid (OwnB w2 v8 (encD ⟨(kn : Int), g, t⟩)) := ho8
  have HF8 : Hid (∀ x, v8.ownBlock = some x → w1.heap.size ≤ x) := hf8
  have HB2 : Hid (Below w1.heap.size w1 w2) := hb
  have HQ2 : Hid (Lq (fun x => S x ∨ F' x) F' w2 j b v od (flatD l) sf 0 false) := HQ1.out.grown hb
  clear ho8 hf8 hb r0 r1 r2 lR1 HR1
  go_wp2_with fail
  refine (stops_c HQ2.out (by omega)).mono ?_
  rintro e w3 ⟨rfl, hq, hk⟩
  rw [show ((0 : Int) == 0) = true from rfl] at hq ⊢
  have HQ3 : Hid (Lq (fun x => S x ∨ F' x) F' w3 j b v od (flatD l) sf 0 true) := hq
  have HO9 : Hid (OwnB w3 v8 (encD ⟨(kn : Int), g, t⟩)) := HO8.out.blocks (fun x hx => hk.block x (HO8.out.lt x hx) (fun hs => by have h1 := HF8.out x hx; have h2 := HQ1.out.lt x hs; omega))
  have HK3 : Hid (Kept S w w3) := (HK1.out.trans (Kept.of_below (F := S) HB2.out) (fun _ _ h => h)).trans hk (fun x hx hs => by
    rcases HS1.out x hs with h' | h'
    · exact h'
    · exact absurd hx (Nat.not_lt.2 h'))
  have HF9 : Hid (∀ x, v8.ownBlock = some x → x ≠ j) := fun x hx e => by
    have h1 := HF8.out x hx
    have h2 := HQ1.out.lt j HQ1.out.sj
    omega
  clear hq hk HQ2 HO8 HF8 HB2 HQ1
  rcases HO9.out.slice with ⟨_, h2⟩ | ⟨g8, cap8, rfl, hcap, hcm8⟩
  · cases h2
  obtain ⟨pv, cv, rfl⟩ := sliceB HQ3.out.row
  have a1 := HQ3.out.c1
  have lj3 : j < w3.heap.size := HQ3.out.lt j HQ3.out.sj
  have HBy : Hid (BytesAt w3 (.slice pv (flatD l).length cv) (flatD l ++ [])) := by
    have h := HQ3.out.row.bytes (by have := HLf.out.1; omega)
    rw [List.append_nil]
    exact h
  have HLt : Hid (∀ x, (Value.slice pv (flatD l).length cv).ownBlock = some x → x < w3.heap.size) := HQ3.out.row.lt
  obtain ⟨nv, HNv⟩ : ∃ n, Hid ((flatD l).length = n) := ⟨_, rfl⟩
  rw [HNv.out] at HBy HLt a1 HQ3
  obtain ⟨n8, HN8⟩ : ∃ n, Hid ((encD ⟨(kn : Int), g, t⟩).length = n) := ⟨_, rfl⟩
  rw [HN8.out] at HO9 hcap ⊢
  unfold maxLen at hcm8
  go_wp2_with fail
  refine (replay_c pv nv cv l [] HLf.out.2.1 HLf.out.2.2.1 HLf.out.2.2.2 part_nil.no (fun x hx => by cases hx) w3 HBy.out HLt.out).mono ?_
  rintro e w4 ⟨b2, rfl, ⟨F2, hs2, hf2⟩, hb4⟩
  have HQ4 : Hid (Lq (fun x => S x ∨ F' x) F' w4 j b (.slice pv nv cv) od (flatD l) sf 0 true) := HQ3.out.grown hb4
  have HO4 : Hid (OwnB w4 (.slice (some ⟨g8, 0, none⟩) n8 cap8) (encD ⟨(kn : Int), g, t⟩)) := HO9.out.below hb4
  have HS2 : Hid (StoreIs w4 b2 l F2 ∧ ∀ x, F2 x → w3.heap.size ≤ x) := ⟨hs2, hf2⟩
  have HK4 : Hid (Kept S w w4) := HK3.out.trans (Kept.of_below (F := S) hb4) (fun _ _ h => h)
  have d0 := HQ4.out.c0
  have df := HQ4.out.fz 0
  have lj4 : j < w4.heap.size := HQ4.out.lt j HQ4.out.sj
  have HZ3 : Hid (w.heap.size ≤ w3.heap.size) := HK3.out.size
  have HLj : Hid (j < w3.heap.size ∧ ∀ x, (S x ∨ F' x) → x < w3.heap.size) := ⟨lj3, HQ3.out.lt⟩
  clear hs2 hf2 hb4 HQ3 HO9 HK3 a1 HBy
  go_upto_region 9 with fail
  obtain ⟨w5, HW5⟩ : ∃ z, z = w4.setCell ⟨j, 0, none⟩ (.pointer (some ⟨b2, 0, none⟩)) := ⟨_, rfl⟩
  rw [← HW5]
  have HQ5 : Hid (Lq (fun x => (S x ∨ F' x) ∨ F2 x) F2 w5 j b2 (.slice pv nv cv) l (flatD l) sf 0 true) := by
    rw [HW5]
    refine HQ4.out.set 0 _ (World.cell?_setCell_same _ _ _ HQ4.out.c0) ((World.cell?_setCell_other _ _ _ _ (by simp)).trans HQ4.out.c1) ((World.cell?_setCell_other _ _ _ _ (by simp)).trans HQ4.out.c2) ((World.cell?_setCell_other _ _ _ _ (by simp)).trans HQ4.out.c3) ((World.cell?_setCell_other _ _ _ _ (by simp)).trans HQ4.out.c4) HS2.out.1 HQ4.out.row (.inl HQ4.out.sj) (fun x hx => ⟨.inr hx, fun e => ?_⟩) (fun x hx => ⟨.inl (HQ4.out.sv x hx).1, fun hf => ?_, (HQ4.out.sv x hx).2.2⟩) (fun x hx => ?_)
    · have h1 := HS2.out.2 x hx
      have h2 := HLj.out.1
      omega
    · have h1 := HS2.out.2 x hf
      have h2 := HLt.out x hx
      omega
    · rcases hx with hx | hx
      · exact HQ4.out.lt x hx
      · exact HS2.out.1.2.2.2.2.1 x hx
  have HO5 : Hid (OwnB w5 (.slice (some ⟨g8, 0, none⟩) n8 cap8) (encD ⟨(kn : Int), g, t⟩)) := by
    rw [HW5]
    refine HO4.out.blocks (fun x hx => Below.heap_setCell _ _ _ x (HF9.out x hx))
  have HK5 : Hid (Kept S w w5) := by rw [HW5]; exact setKept HK4.out j 0 (.inl HL.out.sj) _
  clear HW5 HQ4 HO4 HK4 d0 df lj4
  obtain ⟨i0, hi0, hz0, hz1, hz2⟩ := info_parts infoB
  obtain ⟨h8, HH8⟩ : ∃ h8, Hid (n8 / 2 = h8) := ⟨_, rfl⟩
  have hh8 : (n8 : Int) / 2 = (h8 : Int) := by have := HH8.out; omega
  have hh9 : h8 ≤ cap8 := by have := HH8.out; omega
  have HMore : Hid (OwnB w5 (.slice (some ⟨g8, 0, none⟩) h8 cap8) ((encD ⟨(kn : Int), g, t⟩).take h8)) := HO5.out.take h8 (by rw [HN8.out]; have := HH8.out; omega)
  have HLn : Hid ((flatD l).length + h8 ≤ 100000 ∧ ((encD ⟨(kn : Int), g, t⟩).take h8).length = h8) := by
    have h1 := HLf.out.1
    have h2 := HKn.out.2
    have h3 := HN8.out
    have h4 := HH8.out
    rw [encD_length] at h3
    dsimp only at h3
    refine ⟨by omega, ?_⟩
    rw [List.length_take, encD_length]
    show min h8 (t.size + 2) = h8
    omega
  obtain ⟨v', w6, hrun, hown, hgrow, hat⟩ := run_appB w5.drew (.slice pv nv cv) (flatD l) (HQ5.out.row.blocks (fun _ _ => rfl)) g8 h8 cap8 ((encD ⟨(kn : Int), g, t⟩).take h8) (HMore.out.blocks (fun _ _ => rfl)) HLn.out.2 (by rw [HLn.out.2]; exact HLn.out.1)
  obtain ⟨p6, n6, q6, hv6⟩ : ∃ p n c, v' = .slice p n c := (sliceB hown).elim fun p h => h.elim fun c h => ⟨p, _, c, h⟩
  subst hv6
  have hg5 : w5.grownBy w6 (Value.slice pv nv cv).ownBlock := ⟨hgrow.os, hgrow.tape, hgrow.output, hgrow.size, hgrow.block⟩
  have HQ7 : Hid (Lq (fun x => ((S x ∨ F' x) ∨ F2 x) ∨ (Value.slice p6 n6 q6).ownBlock = some x) F2 (w6.setCell ⟨j, 1, none⟩ (.slice p6 n6 q6)) j b2 (.slice p6 n6 q6) l (flatD l ++ (encD ⟨(kn : Int), g, t⟩).take h8) sf 0 true) := HQ5.out.setRow hg5 hown (by
    rcases hat with h | h
    · exact .inl h
    · refine .inr (fun x hx => ?_)
      rw [h] at hx
      have : w5.drew.heap.size = x := by simpa using hx
      exact Nat.le_of_eq this)
  have hj5 : j < w5.heap.size := HQ5.out.lt j HQ5.out.sj
  have hj6 : w6.heap[j]? = w5.heap[j]? := hg5.block j hj5 (fun e => (HQ5.out.sv j e.symm).2.2 rfl)
  have e1 := HQ5.out.c1
  have e6 := (World.cell?_of_block (a := ⟨j, 1, none⟩) hj6).trans HQ5.out.c1
  have e6f := (World.frozen?_of_block (a := ⟨j, 1, none⟩) hj6).trans (HQ5.out.fz 1)
  have HS5 : Hid (∀ x, (((S x ∨ F' x) ∨ F2 x) ∨ (Value.slice p6 n6 q6).ownBlock = some x) → S x ∨ w.heap.size ≤ x) := fun x hx => by
    have h5 : ∀ x, ((S x ∨ F' x) ∨ F2 x) → S x ∨ w.heap.size ≤ x := fun x hx => by
      rcases hx with hx | hx
      · exact HS1.out x hx
      · have h1 := HS2.out.2 x hx
        have h2 := HZ3.out
        exact .inr (by omega)
    rcases hx with hx | hx
    · exact h5 x hx
    · rcases hat with h | h
      · exact h5 x (HQ5.out.sv x (h ▸ hx)).1
      · rw [h] at hx
        have h1 : w5.drew.heap.size = x := by simpa using hx
        have h2 : w.heap.size ≤ w5.heap.size := HK5.out.size
        exact .inr (by rw [← h1]; exact h2)
  have HK7 : Hid (Kept S w (w6.setCell ⟨j, 1, none⟩ (.slice p6 n6 q6))) := by
    refine setKept (HK5.out.trans (F := S) (G := fun x => (Value.slice pv nv cv).ownBlock = some x) ⟨hg5.os, hg5.tape, hg5.output, hg5.size, fun c hc hn => hg5.block c hc (fun e => hn e.symm)⟩ (fun x hx hv => ?_)) j 1 (.inl HL.out.sj) _
    rcases HQ5.out.sv x hv with ⟨h1, _, _⟩
    rcases h1 with h1 | h1
    · rcases HS1.out x h1 with h' | h'
      · exact h'
      · exact absurd hx (Nat.not_lt.2 h')
    · have h2 := HS2.out.2 x h1
      have h3 := HLt.out x hv
      omega
  clear hown hgrow hat hg5 hj6 HQ5 HO5 HK5 HMore
  refine wp_region_noPanic ?_
  go_region
  all_goals refine NoPanic.normal ?_
  all_goals go_wp2_with fail
  all_goals go_ret2
  all_goals refine ⟨rfl, HQ7.out.to (p := (encD ⟨(kn : Int), g, t⟩).take ((t.size + 2) / 2)) ?_ HK7.out HS5.out⟩
  all_goals have h1 := HN8.out
  all_goals rw [encD_length] at h1
  all_goals have h2 : (t.size + 2) / 2 = h8 := (by rw [← HH8.out, ← h1])
  all_goals rw [h2]
end Go.Proofs.YtpcnfoaoajfhlaaGreatDoor

namespace Go.Proofs.YtpcnfoaoajfhlaaGreatDoor
set_option linter.unusedVariables false
set_option linter.unusedSimpArgs false
open Go.RowKit

theorem lgPut_stopped {k : Int} {t : ByteArray} {S : Nat → Prop} {w : World} {j : Nat} {l : List Deed} {p : List Nat} {sf : Nat} {lf : Int} (h : LgAt S w j l p sf lf true) :
    Calls Tryz.prog 23 #[.pointer (some ⟨j, 0, none⟩), .int .i64 k, .string t] w fun e w' => e = .returned (.tuple #[.int .i64 0, errV 6]) ∧ LgTo S w w' j l p sf lf true := by
  have H : Hid _ := stopped_c k false t h
  rw [errN (by omega)] at H ⊢
  clear h
  go_enter Tryz.func23, Tryz.ntmps23
  go_wp2_with fail
  refine Calls.mono H.out ?_
  rintro e w1 ⟨rfl, ht⟩
  have HT : Hid (LgTo S w w1 j l p sf lf true) := ht
  clear ht
  go_wp2_with fail
  go_ret2
  exact ⟨rfl, HT.out⟩
theorem lgPut_stop {k : Int} {t : ByteArray} (ht : t.size ≤ maxLen) {S : Nat → Prop} {w : World} {j : Nat} {l od : List Deed} {sf : Nat} {on : Int} (h : LgAt S w j l [] sf 0 false) (hl : (flatD l).length ≤ 50000)
    (hfit : Fits l) (hd : ∀ d ∈ l, d.text.size ≤ 12) (hk8 : ∀ d ∈ l, 0 ≤ d.key ∧ d.key < 8) (ho : putO l k t = ⟨od, on, 0⟩) (hgo : 0 ≤ k ∧ k < 8 ∧ t.size ≤ 12) :
    Calls Tryz.prog 23 #[.pointer (some ⟨j, 0, none⟩), .int .i64 k, .string t] w fun e w' => e = .returned (.tuple #[.int .i64 0, errV 6]) ∧ LgTo S w w' j l ((encD ⟨k, false, t⟩).take ((t.size + 2) / 2)) sf 0 true := by
  have H : Hid _ := change_stop k false t ht h hl hfit hd hk8 (show doO l ⟨k, false, t⟩ = _ from ho) hgo
  obtain ⟨p', HP⟩ : ∃ p', Hid ((encD ⟨k, false, t⟩).take ((t.size + 2) / 2) = p') := ⟨_, rfl⟩
  rw [errN (by omega), HP.out] at H ⊢
  clear h ht hl hfit hd hk8 ho hgo
  go_enter Tryz.func23, Tryz.ntmps23
  go_wp2_with fail
  refine Calls.mono H.out ?_
  rintro e w1 ⟨rfl, ht⟩
  have HT : Hid (LgTo S w w1 j l p' sf 0 true) := ht
  clear ht
  go_wp2_with fail
  go_ret2
  exact ⟨rfl, HT.out⟩
end Go.Proofs.YtpcnfoaoajfhlaaGreatDoor

namespace Go.Proofs.YtpcnfoaoajfhlaaGreatDoor
set_option linter.unusedVariables false
set_option linter.unusedSimpArgs false
open Go.RowKit

theorem lgStRead_o {b : Nat} {k x0 x1 x2 n : Int} {x3 : Bool} {x4 : ByteArray} {l : List Deed} {F : Nat → Prop} {w : World} (h : StoreIs w b l F) (hv : (atO l k l.length).1 = ⟨x0, x1, x2, x3, x4⟩) (hn : (atO l k l.length).2 = n) :
    Calls Tryz.prog 68 #[.pointer (some ⟨b, 0, none⟩), .int .i64 k] w fun e w' => e = .returned (.tuple #[.agg #[.int .i64 x0, .int .i64 x1, .int .i64 x2, .bool x3, .string x4], errV n]) ∧ Below w.heap.size w w' := by
  have c := read_c b k l F w h
  rw [readO] at c
  rw [hn, hv] at c
  exact c
theorem lgRead_c {S : Nat → Prop} {w : World} {j : Nat} {k x0 x1 x2 n : Int} {x3 : Bool} {x4 : ByteArray} {l : List Deed} {p : List Nat} {sf : Nat} {lf : Int} {st : Bool} (h : LgAt S w j l p sf lf st) (hv : (atO l k l.length).1 = ⟨x0, x1, x2, x3, x4⟩) (hn : (atO l k l.length).2 = n) :
    Calls Tryz.prog 26 #[.pointer (some ⟨j, 0, none⟩), .int .i64 k] w fun e w' => e = .returned (.tuple #[.agg #[.int .i64 x0, .int .i64 x1, .int .i64 x2, .bool x3, .string x4], errV n]) ∧ Below w.heap.size w w' := by
  obtain ⟨F, b, v, h⟩ := h
  have c0 := h.c0
  have lj : j < w.heap.size := h.lt j h.sj
  have HS : Hid (StoreIs (w.alloc (.cells #[.int .i64 0, .int .i64 0, .int .i64 0, .bool false, .string ⟨#[]⟩] 46)) b l F) := h.sto.below ((Below.refl _ _).alloc (Nat.le_refl _) _)
  have HV : Hid ((atO l k l.length).1 = ⟨x0, x1, x2, x3, x4⟩) := hv
  have HN : Hid ((atO l k l.length).2 = n) := hn
  clear h hv hn
  obtain ⟨ev, HE⟩ : ∃ ev, Hid (errV n = ev) := ⟨_, rfl⟩
  rw [HE.out]
  go_enter Tryz.func26, Tryz.ntmps26
  go_wp2_with fail
  refine (lgStRead_o HS.out HV.out HN.out).mono ?_
  rintro e w1 ⟨rfl, hb⟩
  rw [HE.out]
  have B1 : Hid (Below w.heap.size w w1) := ((Below.refl _ w).alloc (Nat.le_refl _) _).trans (hb.mono (by simp))
  have e0 : w1.cell? ⟨w.heap.size, 0, none⟩ = some (.int .i64 0) := (hb.cell (p := ⟨w.heap.size, 0, none⟩) (by simp)).trans (by simp)
  have e1 : w1.cell? ⟨w.heap.size, 1, none⟩ = some (.int .i64 0) := (hb.cell (p := ⟨w.heap.size, 1, none⟩) (by simp)).trans (by simp)
  have e2 : w1.cell? ⟨w.heap.size, 2, none⟩ = some (.int .i64 0) := (hb.cell (p := ⟨w.heap.size, 2, none⟩) (by simp)).trans (by simp)
  have e3 : w1.cell? ⟨w.heap.size, 3, none⟩ = some (.bool false) := (hb.cell (p := ⟨w.heap.size, 3, none⟩) (by simp)).trans (by simp)
  have e4 : w1.cell? ⟨w.heap.size, 4, none⟩ = some (.string ⟨#[]⟩) := (hb.cell (p := ⟨w.heap.size, 4, none⟩) (by simp)).trans (by simp)
  have ef : ∀ j, w1.frozen? ⟨w.heap.size, j, none⟩ = false := fun j => (hb.frozen (p := ⟨w.heap.size, j, none⟩) (by simp)).trans (by simp)
  have hz1 : w.heap.size < w1.heap.size := by have := hb.size; simp at this; omega
  clear hb
  go_wp2_with fail
  refine bodyPost_ret (v := .tuple #[.agg #[.int .i64 x0, .int .i64 x1, .int .i64 x2, .bool x3, .string x4], ev]) (by simp [results, Tryz.results26, go_sem, e0, e1, e2, e3, e4]) rfl ?_
  refine ⟨rfl, ?_⟩
  have hbw := B1.out
  go_grown
/-- the deed that is done over and over -/
def oneX : Deed := ⟨1, false, ⟨#[120]⟩⟩
theorem put_more (s : Nat) (h : s < 1000) : putO (List.replicate s oneX) 1 ⟨#[120]⟩ = ⟨List.replicate (s + 1) oneX, (s : Int) + 1, 0⟩ := by
  unfold putO recO
  rw [if_neg (by decide), if_neg (by decide), List.length_replicate, if_neg (by omega), List.replicate_succ']
  rfl
theorem fits_rep (s : Nat) (h : s ≤ 1000) : Fits (List.replicate s oneX) := by
  induction s with
  | zero => exact fits_nil
  | succ s ih =>
    have e : doO (List.replicate s oneX) oneX = ⟨List.replicate (s + 1) oneX, (s : Int) + 1, 0⟩ := put_more s (by omega)
    rw [List.replicate_succ']
    exact (ih (by omega)).snoc (by rw [e]) (by rw [e, List.replicate_succ'])
theorem rep_ok (s : Nat) : (∀ d ∈ List.replicate s oneX, d.text.size ≤ 12) ∧ ∀ d ∈ List.replicate s oneX, 0 ≤ d.key ∧ d.key < 8 :=
  ⟨fun d hd => by rw [List.eq_of_mem_replicate hd]; decide, fun d hd => by rw [List.eq_of_mem_replicate hd]; decide⟩
theorem flat_rep (s : Nat) : (flatD (List.replicate s oneX)).length = 3 * s := by
  induction s with
  | zero => rfl
  | succ s ih =>
    rw [List.replicate_succ, flatD, List.length_append, ih, encD_length]
    show 1 + 2 + 3 * s = _
    omega
theorem take_rep (s m : Nat) : (List.replicate s oneX).take m = List.replicate (min m s) oneX := List.take_replicate
end Go.Proofs.YtpcnfoaoajfhlaaGreatDoor
