/-
  The contracts of glob, held against a world in which the call began; penstocklaw2.awake; texts made by laying one behind the other.
-/
import Derived.Test.YtmijhgecdkdkmaaGlobM
set_option linter.unusedVariables false
namespace Go.Proofs.Ytmijhgecdkdkmaa
open Go.RowKit

def matB (p s : ByteArray) : Bool := matR p.data.toList s.data.toList
def chkB (p : ByteArray) : Bool := (patR p.data.toList).isSome

theorem Match_b (p s : ByteArray) (w wx : World) (hp : p.size ≤ 1000000) (hs : s.size ≤ 1000000) (hb : Below w.heap.size w wx) :
    Calls Try.prog 20 #[.string p, .string s] wx fun e w' => e = .returned (.bool (matB p s)) ∧ Below w.heap.size w w' := base hb (Match_any p s wx hp hs)
theorem Check_b (p : ByteArray) (w wx : World) (hp : p.size ≤ 1000000) (hb : Below w.heap.size w wx) :
    Calls Try.prog 18 #[.string p] wx fun e w' => e = .returned (.int .i64 (if chkB p = true then 0 else 1)) ∧ Below w.heap.size w w' := base hb (Check_any p wx hp)

set_option maxHeartbeats 1000000 in
set_option maxRecDepth 100000 in
theorem awake2_any (w : World) : Calls Try.prog 17 #[] w fun e w' => e = .returned (.bool true) ∧ Below w.heap.size w w' := by
  have B0 := Below.refl w.heap.size w
  have m1 : matB ⟨#[97, 42, 91, 48, 45, 57, 93]⟩ ⟨#[97, 98, 99, 55]⟩ = true := by decide +kernel
  have m2 : matB ⟨#[63]⟩ ⟨#[195, 169]⟩ = true := by decide +kernel
  have m3 : matB ⟨#[97]⟩ ⟨#[98]⟩ = false := by decide +kernel
  have m4 : chkB ⟨#[91, 122, 45, 97, 93]⟩ = false := by decide +kernel
  have c1 : ∀ wx, Below w.heap.size w wx → Calls Try.prog 20 #[.string ⟨#[97, 42, 91, 48, 45, 57, 93]⟩, .string ⟨#[97, 98, 99, 55]⟩] wx fun e w' => e = .returned (.bool true) ∧ Below w.heap.size w w' := fun wx hb => by
    have := Match_b ⟨#[97, 42, 91, 48, 45, 57, 93]⟩ ⟨#[97, 98, 99, 55]⟩ w wx (Nat.le_of_ble_eq_true rfl) (Nat.le_of_ble_eq_true rfl) hb; rw [m1] at this; exact this
  have c2 : ∀ wx, Below w.heap.size w wx → Calls Try.prog 20 #[.string ⟨#[63]⟩, .string ⟨#[195, 169]⟩] wx fun e w' => e = .returned (.bool true) ∧ Below w.heap.size w w' := fun wx hb => by
    have := Match_b ⟨#[63]⟩ ⟨#[195, 169]⟩ w wx (Nat.le_of_ble_eq_true rfl) (Nat.le_of_ble_eq_true rfl) hb; rw [m2] at this; exact this
  have c3 : ∀ wx, Below w.heap.size w wx → Calls Try.prog 20 #[.string ⟨#[97]⟩, .string ⟨#[98]⟩] wx fun e w' => e = .returned (.bool false) ∧ Below w.heap.size w w' := fun wx hb => by
    have := Match_b ⟨#[97]⟩ ⟨#[98]⟩ w wx (Nat.le_of_ble_eq_true rfl) (Nat.le_of_ble_eq_true rfl) hb; rw [m3] at this; exact this
  have c4 : ∀ wx, Below w.heap.size w wx → Calls Try.prog 18 #[.string ⟨#[91, 122, 45, 97, 93]⟩] wx fun e w' => e = .returned (.int .i64 1) ∧ Below w.heap.size w w' := fun wx hb => by
    have := Check_b ⟨#[91, 122, 45, 97, 93]⟩ w wx (Nat.le_of_ble_eq_true rfl) hb; rw [m4] at this; exact this
  clear m1 m2 m3 m4
  go_enter Try.func17, Try.ntmps17
  go_wp2_with (first | (go_at_call 20; (with_reducible refine (c1 _ (by assumption)).mono ?_); rintro e W1 ⟨rfl, b1⟩) | (go_at_call 20; (with_reducible refine (c2 _ (by assumption)).mono ?_); rintro e W1 ⟨rfl, b1⟩) | (go_at_call 20; (with_reducible refine (c3 _ (by assumption)).mono ?_); rintro e W1 ⟨rfl, b1⟩) | (go_at_call 18; (with_reducible refine (c4 _ (by assumption)).mono ?_); rintro e W1 ⟨rfl, b1⟩))
  all_goals (go_ret; exact ⟨rfl, by assumption⟩)

theorem awake2_b (w wx : World) (hb : Below w.heap.size w wx) :
    Calls Try.prog 17 #[] wx fun e w' => e = .returned (.bool true) ∧ Below w.heap.size w w' := base hb (awake2_any wx)

/-- One text laid so many times. -/
def repB (u : ByteArray) : Nat → ByteArray
  | 0 => ⟨#[]⟩
  | n + 1 => repB u n ++ u

theorem repB_size (u : ByteArray) (n : Nat) : (repB u n).size = n * u.size := by
  induction n with
  | zero => simp [repB]; rfl
  | succ n ih => rw [repB, ByteArray.size_append, ih, Nat.add_mul]; omega

theorem repB_list (u : ByteArray) (n : Nat) : (repB u n).data.toList = (List.replicate n u.data.toList).flatten := by
  induction n with
  | zero => rfl
  | succ n ih => rw [repB, append_list, ih, List.replicate_succ', List.flatten_append]; simp

end Go.Proofs.Ytmijhgecdkdkmaa
