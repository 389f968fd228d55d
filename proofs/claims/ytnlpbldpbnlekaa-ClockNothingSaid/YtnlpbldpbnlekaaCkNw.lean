/-
  ClockNothing, as its shell asks.
-/
import Derived.Test.YtnlpbldpbnlekaaCkI
import Derived.Test.YtnlpbldpbnlekaaCkS
set_option linter.unusedVariables false
namespace Go.Proofs.Ytnlpbldpbnlekaa
open Go.RowKit

theorem ClockNothing_walk (a0 : Sm) (w : World) :
    Calls Try.prog 7 #[.agg #[.int .i64 a0.w, .int .i64 a0.l, .int .i64 a0.n]] w fun e w' => e = .returned (.bool true) ∧ Below w.heap.size w w' :=
  ClockNothing_body a0 w

end Go.Proofs.Ytnlpbldpbnlekaa
