/-
  GlobSets: the walk of the law's text.
-/
import Derived.Test.YtkjkejkodilbgaaSetsM
set_option linter.unusedVariables false
namespace Go.Proofs.Ytkjkejkodilbgaa
open Go.RowKit

set_option maxHeartbeats 16000000 in
set_option maxRecDepth 100000 in
theorem GlobSets_walk (a b c : Int) (_ha : (Lit.int .i32 a).wf = true) (_hb : (Lit.int .i32 b).wf = true) (_hc : (Lit.int .i32 c).wf = true) (w : World) :
    Calls Try.prog 7 #[.int .i32 a, .int .i32 b, .int .i32 c] w fun e w' => e = .returned (.bool true) ∧ Below w.heap.size w w' := by
  have B0 := Below.refl w.heap.size w
  clear _ha _hb _hc
  by_cases h1 : b < a
  · go_enter Try.func7, Try.ntmps7
    go_wp2_with (first | (go_at_call 17; refine (awake2_b w _ (by assumption)).mono ?_; rintro e W1 ⟨rfl, b1⟩))
    all_goals (go_ret; exact ⟨rfl, by assumption⟩)
  by_cases h2 : a < 256
  · go_enter Try.func7, Try.ntmps7
    go_wp2_with (first | (go_at_call 17; refine (awake2_b w _ (by assumption)).mono ?_; rintro e W1 ⟨rfl, b1⟩))
    all_goals (go_ret; exact ⟨rfl, by assumption⟩)
  by_cases h3 : 1114111 < b
  · go_enter Try.func7, Try.ntmps7
    go_wp2_with (first | (go_at_call 17; refine (awake2_b w _ (by assumption)).mono ?_; rintro e W1 ⟨rfl, b1⟩))
    all_goals (go_ret; exact ⟨rfl, by assumption⟩)
  by_cases h4 : c < 0
  · go_enter Try.func7, Try.ntmps7
    go_wp2_with (first | (go_at_call 17; refine (awake2_b w _ (by assumption)).mono ?_; rintro e W1 ⟨rfl, b1⟩))
    all_goals (go_ret; exact ⟨rfl, by assumption⟩)
  by_cases h5 : 1114111 < c
  · go_enter Try.func7, Try.ntmps7
    go_wp2_with (first | (go_at_call 17; refine (awake2_b w _ (by assumption)).mono ?_; rintro e W1 ⟨rfl, b1⟩))
    all_goals (go_ret; exact ⟨rfl, by assumption⟩)
  by_cases h6 : 55296 ≤ a ∧ a ≤ 57343
  · obtain ⟨h6, h7⟩ := h6
    go_enter Try.func7, Try.ntmps7
    go_wp2_with (first | (go_at_call 17; refine (awake2_b w _ (by assumption)).mono ?_; rintro e W1 ⟨rfl, b1⟩))
    all_goals (go_ret; exact ⟨rfl, by assumption⟩)
  have sa : a < 55296 ∨ (55296 ≤ a ∧ ¬ a ≤ 57343) := by omega
  by_cases h7 : 55296 ≤ b ∧ b ≤ 57343
  · obtain ⟨h7, h8⟩ := h7
    clear h6
    rcases sa with h6 | ⟨h6, h6'⟩
    all_goals (
      go_enter Try.func7, Try.ntmps7
      go_wp2_with (first | (go_at_call 17; refine (awake2_b w _ (by assumption)).mono ?_; rintro e W1 ⟨rfl, b1⟩))
      all_goals (go_ret; exact ⟨rfl, by assumption⟩))
  have sb : b < 55296 ∨ (55296 ≤ b ∧ ¬ b ≤ 57343) := by omega
  by_cases h8 : 55296 ≤ c ∧ c ≤ 57343
  · obtain ⟨h8, h9⟩ := h8
    clear h6 h7
    rcases sa with h6 | ⟨h6, h6'⟩ <;> rcases sb with h7 | ⟨h7, h7'⟩
    all_goals (
      go_enter Try.func7, Try.ntmps7
      go_wp2_with (first | (go_at_call 17; refine (awake2_b w _ (by assumption)).mono ?_; rintro e W1 ⟨rfl, b1⟩))
      all_goals (go_ret; exact ⟨rfl, by assumption⟩))
  have sc : c < 55296 ∨ (55296 ≤ c ∧ ¬ c ≤ 57343) := by omega
  obtain ⟨na, hna⟩ : ∃ n : Nat, a = (n : Int) := ⟨a.toNat, by omega⟩
  obtain ⟨nb, hnb⟩ : ∃ n : Nat, b = (n : Int) := ⟨b.toNat, by omega⟩
  obtain ⟨nc, hnc⟩ : ∃ n : Nat, c = (n : Int) := ⟨c.toNat, by omega⟩
  obtain ⟨m1, m2, m3⟩ := set_mat na nb nc (by omega) (by omega) (by omega) (by omega) (by omega) (by omega) (by omega)
  obtain ⟨inn, hin⟩ : ∃ x, x = (decide (na ≤ nc) && decide (nc ≤ nb)) := ⟨_, rfl⟩
  rw [← hin] at m1 m2
  rw [← hna, ← hnb, ← hnc] at m1 m2
  rw [← hna, ← hnb] at m3
  have hinn : (inn = true ∧ a ≤ c ∧ c ≤ b) ∨ (inn = false ∧ a ≤ c ∧ ¬ c ≤ b) ∨ (inn = false ∧ ¬ a ≤ c) := by
    by_cases j1 : na ≤ nc
    · by_cases j2 : nc ≤ nb
      · exact .inl ⟨by rw [hin]; simp [j1, j2], by omega, by omega⟩
      · exact .inr (.inl ⟨by rw [hin]; simp [j2], by omega, by omega⟩)
    · exact .inr (.inr ⟨by rw [hin]; simp [j1], by omega⟩)
  clear hna hnb hnc hin
  have zA := enc_size a
  have zB := enc_size b
  have zC := enc_size c
  obtain ⟨A, hA⟩ : ∃ A, Utf8.encode a = A := ⟨_, rfl⟩
  obtain ⟨B, hB⟩ : ∃ B, Utf8.encode b = B := ⟨_, rfl⟩
  obtain ⟨C, hC⟩ : ∃ C, Utf8.encode c = C := ⟨_, rfl⟩
  rw [hA, hB, hC] at m1 m2
  rw [hA, hB] at m3
  rw [hA] at zA
  rw [hB] at zB
  rw [hC] at zC
  have z1 : (A ++ ⟨#[45]⟩).size ≤ 5 := by rw [ByteArray.size_append]; show _ + 1 ≤ _; omega
  have z2 : (A ++ ⟨#[45]⟩ ++ B).size ≤ 9 := by rw [ByteArray.size_append]; omega
  have z3 : (A ++ ⟨#[45]⟩ ++ B ++ ⟨#[93]⟩).size ≤ 10 := by rw [ByteArray.size_append]; show _ + 1 ≤ _; omega
  have z4 : (⟨#[91]⟩ ++ (A ++ ⟨#[45]⟩ ++ B ++ ⟨#[93]⟩)).size ≤ 11 := by rw [ByteArray.size_append]; show 1 + _ ≤ _; omega
  have z5 : (⟨#[91, 94]⟩ ++ (A ++ ⟨#[45]⟩ ++ B ++ ⟨#[93]⟩)).size ≤ 12 := by rw [ByteArray.size_append]; show 2 + _ ≤ _; omega
  unfold setTail at m1 m2 m3
  have c1 : ∀ wx, Below w.heap.size w wx → Calls Try.prog 20 #[.string (⟨#[91]⟩ ++ (A ++ ⟨#[45]⟩ ++ B ++ ⟨#[93]⟩)), .string C] wx fun e w' => e = .returned (.bool inn) ∧ Below w.heap.size w w' := fun wx hb => by
    have := Match_b _ C w wx (Nat.le_trans z4 (by omega)) (by omega) hb; rw [m1] at this; exact this
  have c2 : ∀ wx, Below w.heap.size w wx → Calls Try.prog 20 #[.string (⟨#[91, 94]⟩ ++ (A ++ ⟨#[45]⟩ ++ B ++ ⟨#[93]⟩)), .string C] wx fun e w' => e = .returned (.bool !inn) ∧ Below w.heap.size w w' := fun wx hb => by
    have := Match_b _ C w wx (Nat.le_trans z5 (by omega)) (by omega) hb; rw [m2] at this; exact this
  have c3 : ∀ wx, Below w.heap.size w wx → Calls Try.prog 20 #[.string (⟨#[91]⟩ ++ (A ++ ⟨#[45]⟩ ++ B ++ ⟨#[93]⟩)), .string ⟨#[]⟩] wx fun e w' => e = .returned (.bool false) ∧ Below w.heap.size w w' := fun wx hb => by
    have := Match_b _ ⟨#[]⟩ w wx (Nat.le_trans z4 (by omega)) (Nat.le_of_ble_eq_true rfl) hb; rw [m3] at this; exact this
  clear m1 m2 m3 h6 h7 h8
  rcases hinn with ⟨rfl, i1, i2⟩ | ⟨rfl, i1, i2⟩ | ⟨rfl, i1⟩
  all_goals (
    rcases sa with h6 | ⟨h6, h6'⟩ <;> rcases sb with h7 | ⟨h7, h7'⟩ <;> rcases sc with h8 | ⟨h8, h8'⟩
    all_goals (
        go_enter Try.func7, Try.ntmps7
        go_wp2_with (first | (go_at_call 20; (with_reducible refine (c1 _ (by assumption)).mono ?_); rintro e W1 ⟨rfl, b1⟩) | (go_at_call 20; (with_reducible refine (c2 _ (by assumption)).mono ?_); rintro e W1 ⟨rfl, b1⟩) | (go_at_call 20; (with_reducible refine (c3 _ (by assumption)).mono ?_); rintro e W1 ⟨rfl, b1⟩) | (go_at_call 17; refine (awake2_b w _ (by assumption)).mono ?_; rintro e W1 ⟨rfl, b1⟩))
        all_goals (go_ret; exact ⟨rfl, by assumption⟩)))

end Go.Proofs.Ytkjkejkodilbgaa
