/-
  ClockLives, as its shell asks.
-/
import Derived.Test.YtnlpbldpbnlekaaCkN
set_option linter.unusedVariables false
namespace Go.Proofs.Ytnlpbldpbnlekaa
open Go.RowKit

theorem ClockLives_walk (a0 : Option Addr) (len0 cap0 : Nat) (ss0 : List St) (a1 : Option Addr) (len1 cap1 : Nat) (ss1 : List St) (w : World) (w0 : StepsIn w a0 len0 ss0 ∧ len0 ≤ maxLen) (w1 : StepsIn w a1 len1 ss1 ∧ len1 ≤ maxLen) :
    Calls Try.prog 8 #[.slice a0 len0 cap0, .slice a1 len1 cap1] w fun e w' => e = .returned (.bool true) ∧ Below w.heap.size w w' :=
  ClockLives_body a0 len0 cap0 ss0 a1 len1 cap1 ss1 w w0.1 w0.2 w1.1 w1.2

end Go.Proofs.Ytnlpbldpbnlekaa
