/-
  The contracts of runes, held against a world in which the call began, under names of their own.
-/
import Derived.Test.YtmijhgecdkdkmaaAwake
import Derived.Test.YtmijhgecdkdkmaaPureJ
import Derived.Lib.Bytes
set_option linter.unusedVariables false
namespace Go.Proofs.Ytmijhgecdkdkmaa
open Go.RowKit

/-- A callee's contract, held against the world in which the call began. -/
theorem base {P : Program} {f : Nat} {args : Array Value} {e0 : Ending} {w wx : World} (hb : Below w.heap.size w wx)
    (h : Calls P f args wx fun e w' => e = e0 ∧ Below wx.heap.size wx w') : Calls P f args wx fun e w' => e = e0 ∧ Below w.heap.size w w' :=
  h.mono fun e w' ⟨he, hb'⟩ => ⟨he, hb.trans (hb'.mono hb.size)⟩

theorem append_list (a b : ByteArray) : (a ++ b).data.toList = a.data.toList ++ b.data.toList := by simp

/-- What the functions tell, by names of their own. -/
def cntB (s : ByteArray) : Nat := (pieces s.data.toList).length
def vldB (s : ByteArray) : Bool := valid s.data.toList
def quoB (s : ByteArray) : ByteArray := ⟨(quote s.data.toList).toArray⟩

theorem Count_b (s : ByteArray) (w wx : World) (hs : s.size ≤ 1000000) (hb : Below w.heap.size w wx) :
    Calls Try.prog 26 #[.string s] wx fun e w' => e = .returned (.int .i64 (cntB s)) ∧ Below w.heap.size w w' := base hb (Count_any s wx (by unfold maxLen; omega))
theorem Valid_b (s : ByteArray) (w wx : World) (hs : s.size ≤ 1000000) (hb : Below w.heap.size w wx) :
    Calls Try.prog 37 #[.string s] wx fun e w' => e = .returned (.bool (vldB s)) ∧ Below w.heap.size w w' := base hb (Valid_any s wx (by unfold maxLen; omega))
theorem Quote_b (s : ByteArray) (w wx : World) (hs : s.size ≤ 1000000) (hb : Below w.heap.size w wx) :
    Calls Try.prog 15 #[.string s] wx fun e w' => e = .returned (.string (quoB s)) ∧ Below w.heap.size w w' := base hb (Quote_any s wx (by omega))
theorem awake_b (w wx : World) (hb : Below w.heap.size w wx) :
    Calls Try.prog 12 #[] wx fun e w' => e = .returned (.bool true) ∧ Below w.heap.size w w' := base hb (awake_any wx)

theorem vldB_append (a b : ByteArray) (ha : vldB a = true) (hb : vldB b = true) : vldB (a ++ b) = true := by
  unfold vldB at *; rw [append_list]; exact valid_append _ _ ha hb
theorem cntB_append (a b : ByteArray) (ha : vldB a = true) : cntB (a ++ b) = cntB a + cntB b := by
  unfold cntB vldB at *; rw [append_list]; exact count_append _ _ ha
theorem quoB_size (s : ByteArray) : 2 ≤ (quoB s).size ∧ (quoB s).size ≤ 2 + 4 * s.size := by
  have h := quote_len s.data.toList
  have : (quoB s).size = (quote s.data.toList).length := by simp [quoB, ByteArray.size]
  rw [this, size_len s]; exact h

end Go.Proofs.Ytmijhgecdkdkmaa
