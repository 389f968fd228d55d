/-
  GlobMatches: the walk of the law's text.
-/
import Derived.Test.YtmijhgecdkdkmaaRefL
set_option linter.unusedVariables false
namespace Go.Proofs.Ytmijhgecdkdkmaa
open Go.RowKit

set_option maxHeartbeats 4000000 in
set_option maxRecDepth 100000 in
theorem GlobMatches_walk (p s : ByteArray) (hp : p.size ≤ maxLen) (hs : s.size ≤ maxLen) (w : World) :
    Calls Try.prog 4 #[.string p, .string s] w fun e w' => e = .returned (.bool true) ∧ Below w.heap.size w w' := by
  have B0 := Below.refl w.heap.size w
  clear hp hs
  by_cases hp : 300 < p.size
  · go_enter Try.func4, Try.ntmps4
    go_wp2_with (first | (go_at_call 17; refine (awake2_b w _ (by assumption)).mono ?_; rintro e W1 ⟨rfl, b1⟩))
    all_goals (go_ret; exact ⟨rfl, by assumption⟩)
  by_cases hs : 300 < s.size
  · go_enter Try.func4, Try.ntmps4
    go_wp2_with (first | (go_at_call 17; refine (awake2_b w _ (by assumption)).mono ?_; rintro e W1 ⟨rfl, b1⟩))
    all_goals (go_ret; exact ⟨rfl, by assumption⟩)
  have k1 := fun (wx : World) (hb : Below w.heap.size w wx) => Check_b p w wx (by omega) hb
  have k2 : ∀ (wx : World), Below w.heap.size w wx → Calls Try.prog 19 #[.string p] wx fun e w' => e = .returned (.int .i64 (if chkB p = true then 0 else 1)) ∧ Below w.heap.size w w' := fun wx hb => by
    have h := base hb (rCheck_any p wx (by omega))
    rw [rPat_same] at h
    exact h
  have k3 := fun (wx : World) (hb : Below w.heap.size w wx) => Match_b p s w wx (by omega) (by omega) hb
  have k4 : ∀ (wx : World), Below w.heap.size w wx → Calls Try.prog 21 #[.string p, .string s] wx fun e w' => e = .returned (.bool (matB p s)) ∧ Below w.heap.size w w' := fun wx hb => base hb (rMatch_any p s wx (by omega) (by omega))
  obtain ⟨c, hc⟩ : ∃ c : Int, c = if chkB p = true then 0 else 1 := ⟨_, rfl⟩
  obtain ⟨b, hb⟩ : ∃ b, b = matB p s := ⟨_, rfl⟩
  rw [← hc] at k1 k2
  rw [← hb] at k3 k4
  clear hc hb
  cases b
  all_goals
    go_enter Try.func4, Try.ntmps4
    go_wp2_with (first | (go_at_call 18; (with_reducible refine (k1 _ (by assumption)).mono ?_); rintro e W1 ⟨rfl, b1⟩) | (go_at_call 19; (with_reducible refine (k2 _ (by assumption)).mono ?_); rintro e W2 ⟨rfl, b2⟩) | (go_at_call 20; (with_reducible refine (k3 _ (by assumption)).mono ?_); rintro e W3 ⟨rfl, b3⟩) | (go_at_call 21; (with_reducible refine (k4 _ (by assumption)).mono ?_); rintro e W4 ⟨rfl, b4⟩) | (go_at_call 17; refine (awake2_b w _ (by assumption)).mono ?_; rintro e W5 ⟨rfl, b5⟩))
    all_goals (go_ret; exact ⟨rfl, by assumption⟩)

end Go.Proofs.Ytmijhgecdkdkmaa
