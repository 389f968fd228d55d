/-
  ClockOver, as its shell asks.
-/
import Derived.Test.YtnlpbldpbnlekaaCkK
import Derived.Test.YtnlpbldpbnlekaaCkS
set_option linter.unusedVariables false
namespace Go.Proofs.Ytnlpbldpbnlekaa
open Go.RowKit

theorem ClockOver_walk (a0 a1 : Int) (w : World) (w0 : (Lit.int .i64 a0).wf = true) (w1 : (Lit.int .i64 a1).wf = true) :
    Calls Try.prog 6 #[.int .i64 a0, .int .i64 a1] w fun e w' => e = .returned (.bool true) ∧ Below w.heap.size w w' :=
  ClockOver_body a0 a1 w

end Go.Proofs.Ytnlpbldpbnlekaa
