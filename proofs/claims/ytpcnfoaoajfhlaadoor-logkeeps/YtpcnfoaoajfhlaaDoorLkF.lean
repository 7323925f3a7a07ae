/-
  LogKeeps: the two appends of a deed that goes.
-/
import Derived.Test.YtpcnfoaoajfhlaaDoorLkE
namespace Go.Proofs.YtpcnfoaoajfhlaaDoor
set_option linter.unusedVariables false
set_option linter.unusedSimpArgs false
open Go.RowKit

/-- the store that was made next lies behind the others -/
theorem kq_step {S X G : Nat → Prop} {N nb nn gd cd j : Nat} {w0 w7 wa : World} {l' : List Deed} {p' : List Nat} {sf : Nat} {lf : Int} {st : Bool} {vm vd' : Value} {bs : List Nat} {zs : List (List Deed)} {ms : List Int}
    (h : Hid (Kq S X G N w0 (w7.alloc (.cells #[.pointer (some ⟨nb, 0, none⟩)] 57)) j l' p' sf lf st (.slice (some ⟨gd, 0, none⟩) (nn + 1) cd) vm bs zs ms nb l'))
    (hg : Hid ((w7.alloc (.cells #[.pointer (some ⟨nb, 0, none⟩)] 57)).grownBy wa (Value.slice (some ⟨gd, 0, none⟩) (nn + 1) cd).ownBlock)) (ho : OwnedMoreP N wa vd' bs nb)
    (hat : Hid (vd'.ownBlock = (Value.slice (some ⟨gd, 0, none⟩) (nn + 1) cd).ownBlock ∨ vd'.ownBlock = some (w7.heap.size + 1))) (hl : bs.length = nn + 1) :
    Hid (Kp S (fun c => X c ∨ G c) N w0 wa j l' p' sf lf st vd' vm (bs ++ [nb]) (zs ++ [l']) ms) ∧ ∃ g2 cap2, vd' = .slice (some ⟨g2, 0, none⟩) (nn + 1 + 1) cap2 := by
  have ho' : OwnP N wa vd' (bs ++ [nb]) := ho
  refine ⟨Kq.append h.out hg.out ho' ?_, ?_⟩
  · rcases hat.out with e | e
    · exact .inl e
    · refine .inr (fun c hc => ?_)
      rw [e] at hc
      have e2 : w7.heap.size + 1 = c := Option.some.inj hc
      simp
      omega
  · obtain ⟨g2, cap2, hv2, _⟩ := OwnP.cells ho' (by simp)
    exact ⟨g2, cap2, by rw [hv2, List.length_append, hl]; rfl⟩
/-- .. and its mark behind the other marks -/
theorem km_step {S X : Nat → Prop} {N nn gm cm j n2 : Nat} {w0 wa wb : World} {l l' : List Deed} {p' : List Nat} {sf : Nat} {lf : Int} {st : Bool} {gd cd : Nat} {vm' : Value} {bs : List Nat}
    (h : Hid (Kp S X N w0 (wa.alloc (.cells #[.int .i64 n2] 3)) j l' p' sf lf st (.slice (some ⟨gd, 0, none⟩) (nn + 1 + 1) cd) (.slice (some ⟨gm, 0, none⟩) (nn + 1) cm) bs (preL l ++ [l']) (markL l)))
    (hg : Hid ((wa.alloc (.cells #[.int .i64 n2] 3)).grownBy wb (Value.slice (some ⟨gm, 0, none⟩) (nn + 1) cm).ownBlock)) (ho : OwnedMoreI N wb vm' (markL l) (n2 : Int))
    (hat : Hid (vm'.ownBlock = (Value.slice (some ⟨gm, 0, none⟩) (nn + 1) cm).ownBlock ∨ vm'.ownBlock = some (wa.heap.size + 1)))
    (hp : Hid (preL l' = preL l ++ [l'] ∧ markL l' = markL l ++ [(((flatD l').length : Nat) : Int)] ∧ l'.length = nn + 1 ∧ bs.length = nn + 1 + 1)) (hn : Hid ((flatD l' ++ p').length = n2)) (hp0 : Hid (p' = [])) :
    ∃ g3 cap3, vm' = .slice (some ⟨g3, 0, none⟩) (nn + 1 + 1) cap3 ∧ Hid (KpI N w0 wb j l' p' sf lf st gd cd g3 cap3 (nn + 1)) := by
  have ho' : OwnI N wb vm' (markL l ++ [(n2 : Int)]) := ho
  have hkc := Kp.mark (ms' := markL l ++ [(n2 : Int)]) h.out hg.out ho' (by
    rcases hat.out with e | e
    · exact .inl e
    · refine .inr (fun c hc => ?_)
      rw [e] at hc
      have e2 : wa.heap.size + 1 = c := Option.some.inj hc
      simp
      omega)
  obtain ⟨h1, h2, h3, h4⟩ := hp.out
  have hn2f : (n2 : Int) = (((flatD l').length : Nat) : Int) := by
    have h5 := hn.out
    rw [hp0.out, List.append_nil] at h5
    rw [← h5]
  have hml : (markL l ++ [(n2 : Int)]).length = nn + 1 + 1 := by
    rw [hn2f, ← h2, markL_len, h3]
  obtain ⟨g3, cap3, hv4⟩ : ∃ g3 cap3, vm' = .slice (some ⟨g3, 0, none⟩) (nn + 1 + 1) cap3 := by
    rcases ho'.2 with ⟨_, h0⟩ | ⟨g, cap, cur, he, _⟩
    · rw [hml] at h0; omega
    · rw [hml] at he; exact ⟨g, cap, he⟩
  subst hv4
  rw [hn2f, ← h2, ← h1] at hkc
  exact ⟨g3, cap3, rfl, h3, _, _, _, hkc⟩
end Go.Proofs.YtpcnfoaoajfhlaaDoor
