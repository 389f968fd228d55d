/-
  What the document fixes of runes (its examples): the program says so.
-/
import Derived.Test.YtmijhgecdkdkmaaRunesQ
set_option linter.unusedVariables false
namespace Go.Proofs.Ytmijhgecdkdkmaa
open Go.RowKit

theorem aw_at0 : atOf [97, 195, 169] 1 = some (233, 1) := by decide +kernel
theorem aw_at : atVal (atOf [97, 195, 169] 1) = .returned (.tuple #[.int .i32 233, .int .i64 1, .bool true]) := by rw [aw_at0]; rfl
theorem aw_count : (pieces [97, 195, 169]).length = 2 := by decide +kernel
theorem aw_quote : quote [97, 255] = [34, 97, 92, 120, 102, 102, 34] := by decide +kernel

theorem aw_At (w : World) : Calls Try.prog 25 #[.string ⟨#[97, 195, 169]⟩, .int .i64 1] w fun e w' => e = .returned (.tuple #[.int .i32 233, .int .i64 1, .bool true]) ∧ Below w.heap.size w w' := by
  refine (At_any ⟨#[97, 195, 169]⟩ 1 w (by decide)).mono ?_
  rintro e w' ⟨rfl, hb⟩
  exact ⟨aw_at, hb⟩
theorem aw_Count (w : World) : Calls Try.prog 26 #[.string ⟨#[97, 195, 169]⟩] w fun e w' => e = .returned (.int .i64 2) ∧ Below w.heap.size w w' := by
  refine (Count_any ⟨#[97, 195, 169]⟩ w (by decide)).mono ?_
  rintro e w' ⟨rfl, hb⟩
  refine ⟨?_, hb⟩
  have := aw_count
  show Ending.returned (.int .i64 ((pieces [97, 195, 169]).length : Int)) = _
  rw [this]; rfl
theorem aw_Quote (w : World) : Calls Try.prog 15 #[.string ⟨#[97, 255]⟩] w fun e w' => e = .returned (.string ⟨#[34, 97, 92, 120, 102, 102, 34]⟩) ∧ Below w.heap.size w w' := by
  refine (Quote_any ⟨#[97, 255]⟩ w (by decide)).mono ?_
  rintro e w' ⟨rfl, hb⟩
  refine ⟨?_, hb⟩
  have := aw_quote
  show Ending.returned (.string ⟨(quote [97, 255]).toArray⟩) = _
  rw [this]

set_option maxHeartbeats 1000000 in
set_option maxRecDepth 100000 in
theorem awake_any (w : World) :
    Calls Try.prog 12 #[] w fun e w' => e = .returned (.bool true) ∧ Below w.heap.size w w' := by
  go_enter Try.func12, Try.ntmps12
  go_wp2_with (go_at_call 25; refine (aw_At _).mono ?_)
  first | rintro e W1 rfl b1 | rintro e W1 ⟨rfl, b1⟩
  go_wp2_with (go_at_call 26; refine (aw_Count _).mono ?_)
  first | rintro e W2 rfl b2 | rintro e W2 ⟨rfl, b2⟩
  go_wp2_with (go_at_call 15; refine (aw_Quote _).mono ?_)
  first | rintro e W3 rfl b3 | rintro e W3 ⟨rfl, b3⟩
  go_wp2
  go_ret
  exact ⟨rfl, (b1.trans (b2.mono b1.size)).trans (b3.mono (Nat.le_trans b1.size b2.size))⟩

end Go.Proofs.Ytmijhgecdkdkmaa
