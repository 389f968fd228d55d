/-
  RunesNames: the walk of the law's text.
-/
import Derived.Test.YthjcljgkgahglaaRefN
import Derived.Test.YthjcljgkgahglaaRefF
import Derived.WalkLawsBesides
set_option linter.unusedVariables false
namespace Go.Proofs.Ythjcljgkgahglaa
open Go.RowKit

def namB (s : ByteArray) : Bool := isName s.data.toList
def kyB (s : ByteArray) : Bool := isKey s.data.toList
def fldB (s : ByteArray) : ByteArray := ⟨(s.data.toList.map foldB).toArray⟩

set_option maxHeartbeats 4000000 in
set_option maxRecDepth 1000000 in
theorem RunesNames_walk (s : ByteArray) (n : Int) (hs : s.size ≤ maxLen) (_hk : (Lit.int .i64 n).wf = true) (w : World) :
    Calls Try.prog 4 #[.string s, .int .i64 n] w fun e w' => e = .returned (.bool true) ∧ Below w.heap.size w w' := by
  have B0 := Below.refl w.heap.size w
  clear _hk
  by_cases h1 : 1000 < s.size
  · go_enter Try.func4, Try.ntmps4
    go_wp2_with (go_at_call 11; refine (awake_b w _ B0).mono ?_)
    first | rintro e W1 rfl b1 | rintro e W1 ⟨rfl, b1⟩
    go_wp2
    go_ret
    exact ⟨rfl, b1⟩
  have hsz : s.size ≤ 1000000 := by omega
  clear h1
  have c1 : ∀ wx, Below w.heap.size w wx → Calls Try.prog 18 #[.string s] wx fun e w' => e = .returned (.bool (namB s)) ∧ Below w.heap.size w w' := fun wx hb => base hb (Name_any s wx hs)
  have c2 : ∀ wx, Below w.heap.size w wx → Calls Try.prog 19 #[.string s] wx fun e w' => e = .returned (.bool (namB s)) ∧ Below w.heap.size w w' := fun wx hb => base hb (rName_any s wx hsz)
  have c3 : ∀ wx, Below w.heap.size w wx → Calls Try.prog 20 #[.string s] wx fun e w' => e = .returned (.bool (kyB s)) ∧ Below w.heap.size w w' := fun wx hb => base hb (Key_any s wx hs)
  have c4 : ∀ wx, Below w.heap.size w wx → Calls Try.prog 21 #[.string s] wx fun e w' => e = .returned (.bool (kyB s)) ∧ Below w.heap.size w w' := fun wx hb => base hb (rKey_any s wx hsz)
  have c5 : ∀ wx, Below w.heap.size w wx → Calls Try.prog 22 #[.string s] wx fun e w' => e = .returned (.string (fldB s)) ∧ Below w.heap.size w w' := fun wx hb => base hb (Fold_any s wx hs)
  have c6 : ∀ wx, Below w.heap.size w wx → Calls Try.prog 23 #[.string s] wx fun e w' => e = .returned (.string (fldB s)) ∧ Below w.heap.size w w' := fun wx hb => base hb (rFold_any s wx hsz)
  have c7 : ∀ wx, Below w.heap.size w wx → Calls Try.prog 24 #[.string s, .int .i64 n] wx fun e w' => e = .returned (.string (cuB s n)) ∧ Below w.heap.size w w' := fun wx hb => base hb (Cut_any s n wx hsz)
  have c8 : ∀ wx, Below w.heap.size w wx → Calls Try.prog 25 #[.string s, .int .i64 n] wx fun e w' => e = .returned (.string (cuB s n)) ∧ Below w.heap.size w w' := fun wx hb => base hb (rCut_any s n wx hsz)
  clear hs
  go_enter Try.func4, Try.ntmps4
  go_wp2_with (first | (go_at_call 18; refine (c1 _ (by assumption)).mono ?_; rintro e W1 ⟨rfl, b1⟩) | (go_at_call 19; refine (c2 _ (by assumption)).mono ?_; rintro e W1 ⟨rfl, b1⟩) | (go_at_call 20; refine (c3 _ (by assumption)).mono ?_; rintro e W1 ⟨rfl, b1⟩) | (go_at_call 21; refine (c4 _ (by assumption)).mono ?_; rintro e W1 ⟨rfl, b1⟩) | (go_at_call 22; refine (c5 _ (by assumption)).mono ?_; rintro e W1 ⟨rfl, b1⟩) | (go_at_call 23; refine (c6 _ (by assumption)).mono ?_; rintro e W1 ⟨rfl, b1⟩) | (go_at_call 24; refine (c7 _ (by assumption)).mono ?_; rintro e W1 ⟨rfl, b1⟩) | (go_at_call 25; refine (c8 _ (by assumption)).mono ?_; rintro e W1 ⟨rfl, b1⟩) | (go_at_call 11; refine (awake_b w _ (by assumption)).mono ?_; rintro e W1 ⟨rfl, b1⟩))
  all_goals (go_ret; exact ⟨rfl, by assumption⟩)

end Go.Proofs.Ythjcljgkgahglaa
