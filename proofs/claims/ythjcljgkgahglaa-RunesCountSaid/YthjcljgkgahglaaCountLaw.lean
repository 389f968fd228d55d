/-
  RunesCount: the walk of the law's text.
-/
import Derived.Test.YthjcljgkgahglaaRefA
import Derived.WalkLawsBesides
set_option linter.unusedVariables false
namespace Go.Proofs.Ythjcljgkgahglaa
open Go.RowKit

set_option maxHeartbeats 4000000 in
set_option maxRecDepth 1000000 in
theorem RunesCount_walk (s : ByteArray) (k : Int) (hs : s.size ≤ maxLen) (_hk : (Lit.int .i64 k).wf = true) (w : World) :
    Calls Try.prog 3 #[.string s, .int .i64 k] w fun e w' => e = .returned (.bool true) ∧ Below w.heap.size w w' := by
  have B0 := Below.refl w.heap.size w
  clear _hk
  by_cases h1 : 1000 < s.size
  · go_enter Try.func3, Try.ntmps3
    go_wp2_with (go_at_call 11; refine (awake_b w _ B0).mono ?_)
    first | rintro e W1 rfl b1 | rintro e W1 ⟨rfl, b1⟩
    go_wp2
    go_ret
    exact ⟨rfl, b1⟩
  have hsz : s.size ≤ 1000000 := by omega
  have hsz1 : s.size ≤ 1000 := by omega
  clear h1
  obtain ⟨r, p, ok, hat⟩ : ∃ (r p : Int) (ok : Bool), atVal (atOf s.data.toList k) = .returned (.tuple #[.int .i32 r, .int .i64 p, .bool ok]) := by
    cases atOf s.data.toList k with
    | none => exact ⟨0, 0, false, rfl⟩
    | some x => exact ⟨x.1, x.2, true, rfl⟩
  have hA1 : ∀ wx, Below w.heap.size w wx → Calls Try.prog 12 #[.string s, .int .i64 k] wx fun e w' => e = .returned (.tuple #[.int .i32 r, .int .i64 p, .bool ok]) ∧ Below w.heap.size w w' := fun wx hb => by
    have := base hb (At_any s k wx hs); rw [hat] at this; exact this
  have hA2 : ∀ wx, Below w.heap.size w wx → Calls Try.prog 13 #[.string s, .int .i64 k] wx fun e w' => e = .returned (.tuple #[.int .i32 r, .int .i64 p, .bool ok]) ∧ Below w.heap.size w w' := fun wx hb => by
    have := base hb (rAt_any s k wx hsz); rw [hat] at this; exact this
  have hC2 : ∀ wx, Below w.heap.size w wx → Calls Try.prog 17 #[.string s] wx fun e w' => e = .returned (.int .i64 (cntB s)) ∧ Below w.heap.size w w' := fun wx hb => base hb (rCount_any s wx hsz)
  have hV2 : ∀ wx, Below w.heap.size w wx → Calls Try.prog 15 #[.string s] wx fun e w' => e = .returned (.bool (vldB s)) ∧ Below w.heap.size w w' := fun wx hb => base hb (rValid_any s wx hsz)
  clear hat hs
  go_enter Try.func3, Try.ntmps3
  go_wp2_with (first | (go_at_call 12; refine (hA1 _ (by assumption)).mono ?_; rintro e W1 ⟨rfl, b1⟩) | (go_at_call 13; refine (hA2 _ (by assumption)).mono ?_; rintro e W1 ⟨rfl, b1⟩) | (go_at_call 14; refine (Valid_b s w _ hsz (by assumption)).mono ?_; rintro e W1 ⟨rfl, b1⟩) | (go_at_call 15; refine (hV2 _ (by assumption)).mono ?_; rintro e W1 ⟨rfl, b1⟩) | (go_at_call 16; refine (Count_b s w _ hsz (by assumption)).mono ?_; rintro e W1 ⟨rfl, b1⟩) | (go_at_call 17; refine (hC2 _ (by assumption)).mono ?_; rintro e W1 ⟨rfl, b1⟩) | (go_at_call 11; refine (awake_b w _ (by assumption)).mono ?_; rintro e W1 ⟨rfl, b1⟩))
  go_ret
  exact ⟨rfl, by assumption⟩

end Go.Proofs.Ythjcljgkgahglaa
