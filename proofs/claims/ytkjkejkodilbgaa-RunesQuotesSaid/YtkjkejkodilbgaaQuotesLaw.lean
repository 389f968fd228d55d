/-
  RunesQuotes: the walk of the law's text.
-/
import Derived.Test.YtkjkejkodilbgaaRefU
import Derived.WalkLawsBesides
set_option linter.unusedVariables false
namespace Go.Proofs.Ytkjkejkodilbgaa
open Go.RowKit

theorem plEnd_form (o : Option (List UInt8)) : ∃ (x : ByteArray) (b : Bool), plEnd o = .returned (.tuple #[.string x, .bool b]) := by
  cases o with
  | none => exact ⟨_, _, rfl⟩
  | some t => exact ⟨_, _, rfl⟩

set_option maxHeartbeats 4000000 in
set_option maxRecDepth 1000000 in
theorem RunesQuotes_walk (s : ByteArray) (hs : s.size ≤ maxLen) (w : World) :
    Calls Try.prog 3 #[.string s] w fun e w' => e = .returned (.bool true) ∧ Below w.heap.size w w' := by
  have B0 := Below.refl w.heap.size w
  by_cases h1 : 1000 < s.size
  · go_enter Try.func3, Try.ntmps3
    go_wp2_with (go_at_call 12; refine (awake_b w _ B0).mono ?_)
    first | rintro e W1 rfl b1 | rintro e W1 ⟨rfl, b1⟩
    go_wp2
    go_ret
    exact ⟨rfl, b1⟩
  have hsz : s.size ≤ 1000000 := by omega
  clear h1
  obtain ⟨x, o, hx⟩ := plEnd_form (unq s.data.toList)
  have c1 : ∀ wx, Below w.heap.size w wx → Calls Try.prog 13 #[.string s] wx fun e w' => e = .returned (.tuple #[.string x, .bool o]) ∧ Below w.heap.size w w' := fun wx hb => by
    have := base hb (Unquote_any s wx hsz); rw [hx] at this; exact this
  have c2 : ∀ wx, Below w.heap.size w wx → Calls Try.prog 14 #[.string s] wx fun e w' => e = .returned (.tuple #[.string x, .bool o]) ∧ Below w.heap.size w w' := fun wx hb => by
    have := base hb (rUnquote_any s wx hsz); rw [hx] at this; exact this
  have c3 : ∀ wx, Below w.heap.size w wx → Calls Try.prog 15 #[.string s] wx fun e w' => e = .returned (.string (quoB s)) ∧ Below w.heap.size w w' := fun wx hb => Quote_b s w wx hsz hb
  have c4 : ∀ wx, Below w.heap.size w wx → Calls Try.prog 16 #[.string s] wx fun e w' => e = .returned (.string (quoB s)) ∧ Below w.heap.size w w' := fun wx hb => base hb (rQuote_any s wx hsz)
  clear hs hx
  go_enter Try.func3, Try.ntmps3
  go_wp2_with (first | (go_at_call 13; refine (c1 _ (by assumption)).mono ?_; rintro e W1 ⟨rfl, b1⟩) | (go_at_call 14; refine (c2 _ (by assumption)).mono ?_; rintro e W1 ⟨rfl, b1⟩) | (go_at_call 15; refine (c3 _ (by assumption)).mono ?_; rintro e W1 ⟨rfl, b1⟩) | (go_at_call 16; refine (c4 _ (by assumption)).mono ?_; rintro e W1 ⟨rfl, b1⟩) | (go_at_call 12; refine (awake_b w _ (by assumption)).mono ?_; rintro e W1 ⟨rfl, b1⟩))
  all_goals (go_ret; exact ⟨rfl, by assumption⟩)

end Go.Proofs.Ytkjkejkodilbgaa
