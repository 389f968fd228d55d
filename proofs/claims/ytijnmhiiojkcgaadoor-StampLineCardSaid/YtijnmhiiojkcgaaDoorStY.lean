/-
  StampLine: its three cases together.
-/
import Derived.Test.YtijnmhiiojkcgaaDoorStXA
import Derived.Test.YtijnmhiiojkcgaaDoorStXB
import Derived.Test.YtijnmhiiojkcgaaDoorStXC
import Derived.Test.YtijnmhiiojkcgaaDoorStXD
set_option linter.unusedVariables false
namespace Go.Proofs.YtijnmhiiojkcgaaDoor
open Go.RowKit

theorem StampLine_body (a b c : Sm) (w : World) (h0 : SmI a) (h1 : SmI b) (h2 : SmI c) (ht : Tab w) :
    Calls Tryd.prog 7 #[.agg #[.int .i64 a.w, .int .i64 a.l, .int .i64 a.n], .agg #[.int .i64 b.w, .int .i64 b.l, .int .i64 b.n], .agg #[.int .i64 c.w, .int .i64 c.l, .int .i64 c.n]] w (TelPost (.bool true) w) := by
  cases k1 : lessB a b with
  | true =>
    cases k3 : lessB b c with
    | true => exact line_a a b c w h0 h1 h2 ht k1 k3
    | false => exact line_b a b c w h0 h1 h2 ht k1 k3
  | false =>
    cases k2 : lessB b a with
    | true => exact line_c a b c w h0 h1 h2 ht k1 k2
    | false => exact line_d a b c w h0 h1 h2 ht k1 k2

end Go.Proofs.YtijnmhiiojkcgaaDoor
