/-
  ClockDrift, as its shell asks.
-/
import Derived.Test.YtnlpbldpbnlekaaCkJ
import Derived.Test.YtnlpbldpbnlekaaCkS
set_option linter.unusedVariables false
namespace Go.Proofs.Ytnlpbldpbnlekaa
open Go.RowKit

theorem ClockDrift_walk (a0 a1 : Int) (w : World) (w0 : (Lit.int .i64 a0).wf = true) (w1 : (Lit.int .i64 a1).wf = true) :
    Calls Try.prog 5 #[.int .i64 a0, .int .i64 a1] w fun e w' => e = .returned (.bool true) ∧ Below w.heap.size w w' :=
  ClockDrift_body a0 a1 w

end Go.Proofs.Ytnlpbldpbnlekaa
