/-
  What the reference's set answers, of any runes.
-/
import Derived.Test.YtmijhgecdkdkmaaRefY
set_option linter.unusedVariables false
namespace Go.Proofs.Ytmijhgecdkdkmaa
open Go.RowKit

theorem rSet_any (v : Value) (T : List Nat) (w : World) (h : RnAt w v T) (hT : T.length ≤ 1000) :
    Calls Try.prog 46 #[v] w (RSetPost T w) := by
  obtain ⟨a, cap, rfl, hc⟩ := h
  by_cases h0 : T = []
  · subst h0; exact rSet_nil w a cap
  · obtain ⟨g, o, rfl, hd⟩ := hc h0
    have hpos : 0 < T.length := List.length_pos_iff.2 h0
    by_cases h94 : T[0] = 94
    · exact rSet_hat T w g o cap hd hT hpos h94
    · exact rSet_bare T w g o cap hd hT hpos h94

end Go.Proofs.Ytmijhgecdkdkmaa
