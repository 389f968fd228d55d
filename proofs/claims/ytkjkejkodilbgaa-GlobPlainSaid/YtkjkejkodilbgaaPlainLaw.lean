/-
  GlobPlain: the walk of the law's text.
-/
import Derived.Test.YtkjkejkodilbgaaGlobL
set_option linter.unusedVariables false
namespace Go.Proofs.Ytkjkejkodilbgaa
open Go.RowKit

set_option maxHeartbeats 8000000 in
set_option maxRecDepth 100000 in
theorem GlobPlain_walk (s t : ByteArray) (hs : s.size ≤ maxLen) (ht : t.size ≤ maxLen) (w : World) :
    Calls Try.prog 5 #[.string s, .string t] w fun e w' => e = .returned (.bool true) ∧ Below w.heap.size w w' := by
  have B0 := Below.refl w.heap.size w
  clear hs ht
  by_cases hs : 300 < s.size
  · go_enter Try.func5, Try.ntmps5
    go_wp2_with (first | (go_at_call 17; refine (awake2_b w _ (by assumption)).mono ?_; rintro e W1 ⟨rfl, b1⟩))
    all_goals (go_ret; exact ⟨rfl, by assumption⟩)
  by_cases ht : 300 < t.size
  · go_enter Try.func5, Try.ntmps5
    go_wp2_with (first | (go_at_call 17; refine (awake2_b w _ (by assumption)).mono ?_; rintro e W1 ⟨rfl, b1⟩))
    all_goals (go_ret; exact ⟨rfl, by assumption⟩)
  have cL := fun wx => plain_any2 s wx (by omega)
  cases hp : plainB s with
  | false =>
    rw [hp] at cL
    clear hp
    go_enter Try.func5, Try.ntmps5
    go_wp2_with (first | (go_at_call 22; refine (cL _).mono ?_; rintro e W1 ⟨rfl, rfl⟩) | (go_at_call 17; refine (awake2_b w _ (by assumption)).mono ?_; rintro e W1 ⟨rfl, b1⟩))
    all_goals (go_ret; exact ⟨rfl, by assumption⟩)
  | true =>
  rw [hp] at cL
  have cK := fun (wx : World) (hb : Below w.heap.size w wx) => Check_b s w wx (by omega) hb
  cases hk : chkB s with
  | false =>
    rw [hk] at cK
    simp only [Bool.false_eq_true, if_false] at cK
    clear hp hk
    go_enter Try.func5, Try.ntmps5
    go_wp2_with (first | (go_at_call 22; refine (cL _).mono ?_; rintro e W1 ⟨rfl, rfl⟩) | (go_at_call 18; (with_reducible refine (cK _ (by assumption)).mono ?_); rintro e W1 ⟨rfl, b1⟩) | (go_at_call 17; refine (awake2_b w _ (by assumption)).mono ?_; rintro e W1 ⟨rfl, b1⟩))
    all_goals (go_ret; exact ⟨rfl, by assumption⟩)
  | true =>
  rw [hk] at cK
  simp only [if_true] at cK
  obtain ⟨hv, hc⟩ := chk_valid hk
  have cV := fun (wx : World) (hb : Below w.heap.size w wx) => rValid_b t w wx (by omega) hb
  have mS : ∀ u b, u.size ≤ 300 → matB s u = b → ∀ wx, Below w.heap.size w wx → Calls Try.prog 20 #[.string s, .string u] wx fun e w' => e = .returned (.bool b) ∧ Below w.heap.size w w' := fun u b hu hb0 wx hb => by
    have := Match_b s u w wx (by omega) (by omega) hb; rw [hb0] at this; exact this
  have m1 : ∀ b, vldB t = b → ∀ wx, Below w.heap.size w wx → Calls Try.prog 20 #[.string ⟨#[42]⟩, .string t] wx fun e w' => e = .returned (.bool b) ∧ Below w.heap.size w w' := fun b hb0 wx hb => by
    have := Match_b ⟨#[42]⟩ t w wx (Nat.le_of_ble_eq_true rfl) (by omega) hb; rw [(star_mat t).1, hb0] at this; exact this
  have m2 : ∀ b, vldB t = b → ∀ wx, Below w.heap.size w wx → Calls Try.prog 20 #[.string ⟨#[42, 42]⟩, .string t] wx fun e w' => e = .returned (.bool b) ∧ Below w.heap.size w w' := fun b hb0 wx hb => by
    have := Match_b ⟨#[42, 42]⟩ t w wx (Nat.le_of_ble_eq_true rfl) (by omega) hb; rw [(star_mat t).2, hb0] at this; exact this
  cases hvt : vldB t with
  | false =>
    rw [hvt] at cV
    have k1 := m1 _ hvt
    have k0 := mS t false (by omega) (Bool.eq_false_iff.2 (fun h => by have := ((plain_mat hp hv hc).1 h).1; rw [hvt] at this; cases this))
    clear hp hk hv hc mS m1 m2 hvt
    go_enter Try.func5, Try.ntmps5
    go_wp2_with (first | (go_at_call 22; refine (cL _).mono ?_; rintro e W1 ⟨rfl, rfl⟩) | (go_at_call 18; (with_reducible refine (cK _ (by assumption)).mono ?_); rintro e W1 ⟨rfl, b1⟩) | (go_at_call 23; refine (cV _ (by assumption)).mono ?_; rintro e W1 ⟨rfl, b1⟩) | (go_at_call 20; (with_reducible refine (k1 _ (by assumption)).mono ?_); rintro e W1 ⟨rfl, b1⟩) | (go_at_call 20; (with_reducible refine (k0 _ (by assumption)).mono ?_); rintro e W1 ⟨rfl, b1⟩) | (go_at_call 17; refine (awake2_b w _ (by assumption)).mono ?_; rintro e W1 ⟨rfl, b1⟩))
    all_goals (go_ret; exact ⟨rfl, by assumption⟩)
  | true =>
    rw [hvt] at cV
    have k1 := m1 _ hvt
    have k2 := m2 _ hvt
    by_cases he : s = t
    · have k0 := mS t true (by omega) ((plain_mat hp hv hc).2 ⟨hvt, he⟩)
      subst he
      clear hp hk hv hc mS m1 m2 hvt
      go_enter Try.func5, Try.ntmps5
      go_wp2_with (first | (go_at_call 22; refine (cL _).mono ?_; rintro e W1 ⟨rfl, rfl⟩) | (go_at_call 18; (with_reducible refine (cK _ (by assumption)).mono ?_); rintro e W1 ⟨rfl, b1⟩) | (go_at_call 23; refine (cV _ (by assumption)).mono ?_; rintro e W1 ⟨rfl, b1⟩) | (go_at_call 20; (with_reducible refine (k1 _ (by assumption)).mono ?_); rintro e W1 ⟨rfl, b1⟩) | (go_at_call 20; (with_reducible refine (k2 _ (by assumption)).mono ?_); rintro e W1 ⟨rfl, b1⟩) | (go_at_call 20; (with_reducible refine (k0 _ (by assumption)).mono ?_); rintro e W1 ⟨rfl, b1⟩) | (go_at_call 17; refine (awake2_b w _ (by assumption)).mono ?_; rintro e W1 ⟨rfl, b1⟩))
      all_goals (go_ret; exact ⟨rfl, by assumption⟩)
    · have k0 := mS t false (by omega) (Bool.eq_false_iff.2 (fun h => he ((plain_mat hp hv hc).1 h).2))
      have k3 := mS s true (by omega) ((plain_mat hp hv hc).2 ⟨hv, rfl⟩)
      have c1 : (s.toList == t.toList) = false := beq_false_of_ne (by
        rw [Lib.toList_data, Lib.toList_data]
        intro e; exact he (Go.WideShapes.bytes_inj e))
      clear hp hk hv hc mS m1 m2 hvt he
      go_enter Try.func5, Try.ntmps5
      go_wp2_with (first | (go_at_call 22; refine (cL _).mono ?_; rintro e W1 ⟨rfl, rfl⟩) | (go_at_call 18; (with_reducible refine (cK _ (by assumption)).mono ?_); rintro e W1 ⟨rfl, b1⟩) | (go_at_call 23; refine (cV _ (by assumption)).mono ?_; rintro e W1 ⟨rfl, b1⟩) | (go_at_call 20; (with_reducible refine (k1 _ (by assumption)).mono ?_); rintro e W1 ⟨rfl, b1⟩) | (go_at_call 20; (with_reducible refine (k2 _ (by assumption)).mono ?_); rintro e W1 ⟨rfl, b1⟩) | (go_at_call 20; (with_reducible refine (k0 _ (by assumption)).mono ?_); rintro e W1 ⟨rfl, b1⟩) | (go_at_call 20; (with_reducible refine (k3 _ (by assumption)).mono ?_); rintro e W1 ⟨rfl, b1⟩) | (go_at_call 17; refine (awake2_b w _ (by assumption)).mono ?_; rintro e W1 ⟨rfl, b1⟩))
      all_goals (go_ret; exact ⟨rfl, by assumption⟩)

end Go.Proofs.Ytkjkejkodilbgaa
