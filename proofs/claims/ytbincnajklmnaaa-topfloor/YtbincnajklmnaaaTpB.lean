/-
  A row of one entry, made of an entry: its run, not laid open.
-/
import Derived.Test.YtbincnajklmnaaaTpF
import Derived.BigRegion
import Derived.WalkSmall
namespace Go.Proofs.Ytbincnajklmnaaa
set_option linter.unusedVariables false
set_option linter.unusedSimpArgs false
open Go.RowKit

def bldG (t : TypeId) (n : Nat) (parts : Array (Nat × Value)) : Sem Value := Instr.buildSlice t n parts
theorem bldG_is (t : TypeId) (n : Nat) (parts : Array (Nat × Value)) : Instr.buildSlice t n parts = bldG t n parts := rfl
theorem build_one (x0 x1 x2 : Int) (x3 : Bool) (x4 : ByteArray) (w : World) : (bldG 43 1 #[(0, .agg #[.int .i64 x0, .int .i64 x1, .int .i64 x2, .bool x3, .string x4])]).run Try.prog w = .ok (.slice (some ⟨w.heap.size, 0, none⟩) 1 1) (w.alloc (.cells #[.int .i64 x0, .int .i64 x1, .int .i64 x2, .bool x3, .string x4] 36)) := by kernel_rfl
end Go.Proofs.Ytbincnajklmnaaa
