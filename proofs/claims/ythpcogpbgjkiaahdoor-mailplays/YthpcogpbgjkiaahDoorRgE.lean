/-
  A piece of code that ends, whatever is asked where it does not.
-/
import Derived.Test.YthpcogpbgjkiaahDoorRg48
namespace Go.Proofs.YthpcogpbgjkiaahDoor
set_option linter.unusedVariables false
set_option linter.unusedSimpArgs false
open Go.RowKit
theorem wp_ends {c : Code} {R : Act → World → Prop} {E : Exit → Act → World → Prop} {a : Act} {w : World} (h : Code.wp Tryd.prog c (endsBy R) a w) : Code.wp Tryd.prog c (Exit.then R E) a w :=
  Code.wp_mono (Q := endsBy R) (fun e x y hx => by cases e <;> first | exact hx | exact hx.elim) h
theorem endsBy_normal {R : Act → World → Prop} {a : Act} {w : World} (h : R a w) : endsBy R .normal a w := h
end Go.Proofs.YthpcogpbgjkiaahDoor
