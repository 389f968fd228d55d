/-
  ClockRises, as its shell asks.
-/
import Derived.Test.YtnlpbldpbnlekaaCkM
set_option linter.unusedVariables false
namespace Go.Proofs.Ytnlpbldpbnlekaa
open Go.RowKit

theorem ClockRises_walk (a0 a1 : Int) (a2 : Option Addr) (len2 cap2 : Nat) (ss2 : List St) (w : World) (w0 : (Lit.int .i64 a0).wf = true) (w1 : (Lit.int .i64 a1).wf = true) (w2 : StepsIn w a2 len2 ss2 ∧ len2 ≤ maxLen) :
    Calls Try.prog 4 #[.int .i64 a0, .int .i64 a1, .slice a2 len2 cap2] w fun e w' => e = .returned (.bool true) ∧ Below w.heap.size w w' :=
  ClockRises_body a0 a1 a2 len2 cap2 ss2 w w2.1 w2.2

end Go.Proofs.Ytnlpbldpbnlekaa
