/-
  GlobStars: the walk of the law's text.
-/
import Derived.Test.YtkjkejkodilbgaaGlobS
set_option linter.unusedVariables false
namespace Go.Proofs.Ytkjkejkodilbgaa
open Go.RowKit

theorem ext_list (t : ByteArray) (a b : Nat) : (t.extract a b).data.toList = (t.data.toList.drop a).take (b - a) := by
  rw [Lib.extract_data]

theorem bytes_beq (x y : ByteArray) : (x.toList == y.toList) = true ↔ x.data.toList = y.data.toList := by
  rw [beq_iff_eq, Lib.toList_data, Lib.toList_data]

theorem ends_iff (s t : ByteArray) : (∃ x, t.data.toList = x ++ s.data.toList) ↔ (s.size ≤ t.size ∧ ((t.extract (t.size - s.size) t.size).toList == s.toList) = true) := by
  rw [bytes_beq, ext_list, size_len, size_len]
  constructor
  · rintro ⟨x, h⟩
    rw [h]
    refine ⟨by simp, ?_⟩
    rw [show (x ++ s.data.toList).length - s.data.toList.length = x.length by simp, List.drop_left]
    apply List.take_of_length_le; simp
  · rintro ⟨h1, h2⟩
    refine ⟨t.data.toList.take (t.data.toList.length - s.data.toList.length), ?_⟩
    rw [List.take_of_length_le (by rw [List.length_drop]; omega)] at h2
    rw [← h2, List.length_drop, show t.data.toList.length - (t.data.toList.length - (t.data.toList.length - s.data.toList.length)) = t.data.toList.length - s.data.toList.length by omega, List.take_append_drop]

theorem begins_iff (s t : ByteArray) : (∃ y, t.data.toList = s.data.toList ++ y) ↔ (s.size ≤ t.size ∧ ((t.extract 0 s.size).toList == s.toList) = true) := by
  rw [bytes_beq, ext_list, size_len, size_len]
  simp only [Nat.sub_zero, List.drop_zero]
  constructor
  · rintro ⟨y, h⟩
    rw [h]
    exact ⟨by simp, List.take_left ..⟩
  · rintro ⟨h1, h2⟩
    exact ⟨t.data.toList.drop s.data.toList.length, by conv => lhs; rw [← List.take_append_drop s.data.toList.length t.data.toList, h2]⟩

def hasAt (s t : ByteArray) (j : Nat) : Bool := (t.extract j (j + s.size)).toList == s.toList
theorem has_iff (s t : ByteArray) : (∃ x y, t.data.toList = x ++ (s.data.toList ++ y)) ↔ ∃ j, j + s.size ≤ t.size ∧ hasAt s t j = true := by
  constructor
  · rintro ⟨x, y, h⟩
    refine ⟨x.length, by rw [size_len, size_len, h]; simp, ?_⟩
    unfold hasAt
    rw [bytes_beq, ext_list, h, List.drop_left, size_len, show x.length + s.data.toList.length - x.length = s.data.toList.length by omega, List.take_left]
  · rintro ⟨j, h1, h2⟩
    unfold hasAt at h2
    rw [bytes_beq, ext_list, show j + s.size - j = s.size by omega] at h2
    refine ⟨t.data.toList.take j, (t.data.toList.drop j).drop s.size, ?_⟩
    rw [← h2, List.take_append_drop, List.take_append_drop]

set_option maxHeartbeats 16000000 in
set_option maxRecDepth 100000 in
theorem GlobStars_walk (s t : ByteArray) (hs : s.size ≤ maxLen) (ht : t.size ≤ maxLen) (w : World) :
    Calls Try.prog 6 #[.string s, .string t] w fun e w' => e = .returned (.bool true) ∧ Below w.heap.size w w' := by
  have B0 := Below.refl w.heap.size w
  clear hs ht
  by_cases hs : 100 < s.size
  · go_enter Try.func6, Try.ntmps6
    go_wp2_with (first | (go_at_call 17; refine (awake2_b w _ (by assumption)).mono ?_; rintro e W1 ⟨rfl, b1⟩))
    all_goals (go_ret; exact ⟨rfl, by assumption⟩)
  by_cases ht : 300 < t.size
  · go_enter Try.func6, Try.ntmps6
    go_wp2_with (first | (go_at_call 17; refine (awake2_b w _ (by assumption)).mono ?_; rintro e W1 ⟨rfl, b1⟩))
    all_goals (go_ret; exact ⟨rfl, by assumption⟩)
  have cL := fun wx => plain_any2 s wx (by omega)
  cases hp : plainB s with
  | false =>
    rw [hp] at cL
    clear hp
    go_enter Try.func6, Try.ntmps6
    go_wp2_with (first | (go_at_call 22; refine (cL _).mono ?_; rintro e W1 ⟨rfl, rfl⟩) | (go_at_call 17; refine (awake2_b w _ (by assumption)).mono ?_; rintro e W1 ⟨rfl, b1⟩))
    all_goals (go_ret; exact ⟨rfl, by assumption⟩)
  | true =>
  rw [hp] at cL
  have cS := fun (wx : World) (hb : Below w.heap.size w wx) => rValid_b s w wx (by omega) hb
  cases hv : vldB s with
  | false =>
    rw [hv] at cS
    clear hp hv
    go_enter Try.func6, Try.ntmps6
    go_wp2_with (first | (go_at_call 22; refine (cL _).mono ?_; rintro e W1 ⟨rfl, rfl⟩) | (go_at_call 23; (with_reducible refine (cS _ (by assumption)).mono ?_); rintro e W1 ⟨rfl, b1⟩) | (go_at_call 17; refine (awake2_b w _ (by assumption)).mono ?_; rintro e W1 ⟨rfl, b1⟩))
    all_goals (go_ret; exact ⟨rfl, by assumption⟩)
  | true =>
  rw [hv] at cS
  have cT := fun (wx : World) (hb : Below w.heap.size w wx) => rValid_b t w wx (by omega) hb
  cases hvt : vldB t with
  | false =>
    rw [hvt] at cT
    clear hp hv hvt
    go_enter Try.func6, Try.ntmps6
    go_wp2_with (first | (go_at_call 22; refine (cL _).mono ?_; rintro e W1 ⟨rfl, rfl⟩) | (go_at_call 23; (with_reducible refine (cS _ (by assumption)).mono ?_); rintro e W1 ⟨rfl, b1⟩) | (go_at_call 23; (with_reducible refine (cT _ (by assumption)).mono ?_); rintro e W1 ⟨rfl, b1⟩) | (go_at_call 17; refine (awake2_b w _ (by assumption)).mono ?_; rintro e W1 ⟨rfl, b1⟩))
    all_goals (go_ret; exact ⟨rfl, by assumption⟩)
  | true =>
  rw [hvt] at cT
  have cN := fun (wx : World) (hb : Below w.heap.size w wx) => rCount_b s w wx (by omega) hb
  have hns : cntB s ≤ s.size := by have := pieces_length_le s.data.toList; rw [← size_len] at this; exact this
  obtain ⟨N, hN⟩ : ∃ N, N = cntB s := ⟨_, rfl⟩
  rw [← hN] at cN hns
  by_cases h38 : 38 < N
  · have h38i : (38 : Int) < (N : Int) := by omega
    clear hp hv hvt hN
    go_enter Try.func6, Try.ntmps6
    go_wp2_with (first | (go_at_call 22; refine (cL _).mono ?_; rintro e W1 ⟨rfl, rfl⟩) | (go_at_call 23; (with_reducible refine (cS _ (by assumption)).mono ?_); rintro e W1 ⟨rfl, b1⟩) | (go_at_call 23; (with_reducible refine (cT _ (by assumption)).mono ?_); rintro e W1 ⟨rfl, b1⟩) | (go_at_call 24; refine (cN _ (by assumption)).mono ?_; rintro e W1 ⟨rfl, b1⟩) | (go_at_call 17; refine (awake2_b w _ (by assumption)).mono ?_; rintro e W1 ⟨rfl, b1⟩))
    all_goals (go_ret; exact ⟨rfl, by assumption⟩)
  have h38i : ¬ (38 : Int) < (N : Int) := by omega
  obtain ⟨q1, q2, q3⟩ := stars_mat (s := s) (t := t) hp hv (by omega) hvt
  rw [ends_iff] at q1
  rw [begins_iff] at q2
  rw [has_iff] at q3
  have z1 : (⟨#[42]⟩ ++ s).size ≤ 101 := by rw [ByteArray.size_append]; show 1 + _ ≤ _; omega
  have z2 : (s ++ ⟨#[42]⟩).size ≤ 101 := by rw [ByteArray.size_append]; show _ + 1 ≤ _; omega
  have z3 : (⟨#[42]⟩ ++ s ++ ⟨#[42]⟩).size ≤ 102 := by rw [ByteArray.size_append]; show _ + 1 ≤ _; omega
  have m1 : ∀ b, matB (⟨#[42]⟩ ++ s) t = b → ∀ wx, Below w.heap.size w wx → Calls Try.prog 20 #[.string (⟨#[42]⟩ ++ s), .string t] wx fun e w' => e = .returned (.bool b) ∧ Below w.heap.size w w' := fun b hb0 wx hb => by
    have := Match_b _ t w wx (Nat.le_trans z1 (by omega)) (by omega) hb; rw [hb0] at this; exact this
  have m2 : ∀ b, matB (s ++ ⟨#[42]⟩) t = b → ∀ wx, Below w.heap.size w wx → Calls Try.prog 20 #[.string (s ++ ⟨#[42]⟩), .string t] wx fun e w' => e = .returned (.bool b) ∧ Below w.heap.size w w' := fun b hb0 wx hb => by
    have := Match_b _ t w wx (Nat.le_trans z2 (by omega)) (by omega) hb; rw [hb0] at this; exact this
  have M3 : Hid (∀ b, matB (⟨#[42]⟩ ++ s ++ ⟨#[42]⟩) t = b → ∀ wx, Below w.heap.size w wx → Calls Try.prog 20 #[.string (⟨#[42]⟩ ++ s ++ ⟨#[42]⟩), .string t] wx fun e w' => e = .returned (.bool b) ∧ Below w.heap.size w w') := fun b hb0 wx hb => by
    have := Match_b _ t w wx (Nat.le_trans z3 (by omega)) (by omega) hb; rw [hb0] at this; exact this
  have Q3 : Hid (matB (⟨#[42]⟩ ++ s ++ ⟨#[42]⟩) t = true ↔ ∃ j, j + s.size ≤ t.size ∧ hasAt s t j = true) := q3
  -- ends and begins, as the law's text tells them
  have hcases : ∃ E Bg : Bool, matB (⟨#[42]⟩ ++ s) t = E ∧ matB (s ++ ⟨#[42]⟩) t = Bg ∧ ((¬ s.size ≤ t.size ∧ E = false ∧ Bg = false) ∨
      (s.size ≤ t.size ∧ ((t.extract (t.size - s.size) t.size).toList == s.toList) = E ∧ ((t.extract 0 s.size).toList == s.toList) = Bg)) := by
    refine ⟨_, _, rfl, rfl, ?_⟩
    by_cases hle : s.size ≤ t.size
    · refine .inr ⟨hle, ?_, ?_⟩
      · rw [Bool.eq_iff_iff, q1]; simp [hle]
      · rw [Bool.eq_iff_iff, q2]; simp [hle]
    · exact .inl ⟨hle, Bool.eq_false_iff.2 (fun h => hle (q1.1 h).1), Bool.eq_false_iff.2 (fun h => hle (q2.1 h).1)⟩
  obtain ⟨E, Bg, hE, hB, hcase⟩ := hcases
  have c1 := m1 E hE
  have c2 := m2 Bg hB
  clear m1 m2 q1 q2 q3 hE hB hp hv hvt hN z1 z2 z3 h38
  rcases hcase with ⟨hle, rfl, rfl⟩ | ⟨hle, hX, hY⟩
  · have hlei : ¬ (s.size : Int) ≤ (t.size : Int) := by omega
    go_enter Try.func6, Try.ntmps6
    go_wp2_with (first | (go_at_call 22; refine (cL _).mono ?_; rintro e W1 ⟨rfl, rfl⟩) | (go_at_call 23; (with_reducible refine (cS _ (by assumption)).mono ?_); rintro e W1 ⟨rfl, b1⟩) | (go_at_call 23; (with_reducible refine (cT _ (by assumption)).mono ?_); rintro e W1 ⟨rfl, b1⟩) | (go_at_call 24; refine (cN _ (by assumption)).mono ?_; rintro e W1 ⟨rfl, b1⟩))
    go_loop [7, 8] (fun h i => ∃ (j : Nat) (H : Bool), i = .int .i64 j ∧ h = .bool H ∧ j ≤ t.size + 1 ∧ Hid (H = true ↔ ∃ k, k < j ∧ k + s.size ≤ t.size ∧ hasAt s t k = true)) (fun _ i => t.size + 1 - (intOf i).toNat)
    case atStart => exact ⟨0, false, rfl, rfl, Nat.zero_le _, by show _ ↔ _; simp⟩
    case round =>
      obtain ⟨j, H, rfl, rfl, hj, HH⟩ := hrel
      by_cases hjs : j + s.size ≤ t.size
      · have hji : (j : Int) + (s.size : Int) ≤ (t.size : Int) := by omega
        cases H with
        | true =>
          have HH2 : Hid (true = true ↔ ∃ k, k < j + 1 ∧ k + s.size ≤ t.size ∧ hasAt s t k = true) := by
            show _ ↔ _
            obtain ⟨k, h1, h2⟩ := HH.out.1 rfl
            exact ⟨fun _ => ⟨k, by omega, h2⟩, fun _ => rfl⟩
          go_wp2
          go_round
          case rel => exact ⟨j + 1, true, by go_num, rfl, by omega, HH2⟩
          case measure => simp [intOf]; omega
        | false =>
          have d0 : (0 : Int) ≤ (j : Int) := by omega
          have d1 : (j : Int) ≤ (j : Int) + (s.size : Int) := by omega
          have d2 : ((j : Int) + (s.size : Int)).toNat = j + s.size := by omega
          obtain ⟨hb, hbd⟩ : ∃ b, hasAt s t j = b := ⟨_, rfl⟩
          have hbX : ((t.extract j (j + s.size)).toList == s.toList) = hb := hbd
          have HH2 : Hid (hb = true ↔ ∃ k, k < j + 1 ∧ k + s.size ≤ t.size ∧ hasAt s t k = true) := by
            show _ ↔ _
            constructor
            · intro h; exact ⟨j, by omega, hjs, by rw [hbd]; exact h⟩
            · rintro ⟨k, h1, h2, h3⟩
              by_cases hk : k < j
              · exact absurd (HH.out.2 ⟨k, hk, h2, h3⟩) (by simp)
              · obtain rfl : k = j := by omega
                rw [hbd] at h3; exact h3
          clear hbd
          go_wp2
          go_round
          case rel => exact ⟨j + 1, hb, by go_num, rfl, by omega, HH2⟩
          case measure => simp [intOf]; omega
      · have hji : ¬ (j : Int) + (s.size : Int) ≤ (t.size : Int) := by omega
        have c3 := M3.out H (by
          rw [Bool.eq_iff_iff, Q3.out, HH.out]
          constructor
          · rintro ⟨k, h1, h2⟩; exact ⟨k, by omega, h1, h2⟩
          · rintro ⟨k, _, h1, h2⟩; exact ⟨k, h1, h2⟩)
        go_wp2_with (first | (go_at_call 20; (with_reducible refine (c1 _ (by assumption)).mono ?_); rintro e W9 ⟨rfl, b9⟩) | (go_at_call 20; (with_reducible refine (c2 _ (by assumption)).mono ?_); rintro e W9 ⟨rfl, b9⟩) | (go_at_call 20; (with_reducible refine (c3 _ (by assumption)).mono ?_); rintro e W9 ⟨rfl, b9⟩) | (go_at_call 17; refine (awake2_b w _ (by assumption)).mono ?_; rintro e W9 ⟨rfl, b9⟩))
        all_goals (go_ret; exact ⟨by first | rfl | simp, by assumption⟩)
  · have hlei : (s.size : Int) ≤ (t.size : Int) := by omega
    have k0 : (0 : Int) ≤ (t.size : Int) - (s.size : Int) := by omega
    have k1 : IntKind.i64.wrap ((t.size : Int) - (s.size : Int)) = (t.size : Int) - (s.size : Int) := IntWalk.i64_in _ (by omega)
    have k2 : ((t.size : Int) - (s.size : Int)).toNat = t.size - s.size := by omega
    go_enter Try.func6, Try.ntmps6
    go_wp2_with (first | (go_at_call 22; refine (cL _).mono ?_; rintro e W1 ⟨rfl, rfl⟩) | (go_at_call 23; (with_reducible refine (cS _ (by assumption)).mono ?_); rintro e W1 ⟨rfl, b1⟩) | (go_at_call 23; (with_reducible refine (cT _ (by assumption)).mono ?_); rintro e W1 ⟨rfl, b1⟩) | (go_at_call 24; refine (cN _ (by assumption)).mono ?_; rintro e W1 ⟨rfl, b1⟩))
    go_loop [7, 8] (fun h i => ∃ (j : Nat) (H : Bool), i = .int .i64 j ∧ h = .bool H ∧ j ≤ t.size + 1 ∧ Hid (H = true ↔ ∃ k, k < j ∧ k + s.size ≤ t.size ∧ hasAt s t k = true)) (fun _ i => t.size + 1 - (intOf i).toNat)
    case atStart => exact ⟨0, false, rfl, rfl, Nat.zero_le _, by show _ ↔ _; simp⟩
    case round =>
      obtain ⟨j, H, rfl, rfl, hj, HH⟩ := hrel
      by_cases hjs : j + s.size ≤ t.size
      · have hji : (j : Int) + (s.size : Int) ≤ (t.size : Int) := by omega
        cases H with
        | true =>
          have HH2 : Hid (true = true ↔ ∃ k, k < j + 1 ∧ k + s.size ≤ t.size ∧ hasAt s t k = true) := by
            show _ ↔ _
            obtain ⟨k, h1, h2⟩ := HH.out.1 rfl
            exact ⟨fun _ => ⟨k, by omega, h2⟩, fun _ => rfl⟩
          go_wp2
          go_round
          case rel => exact ⟨j + 1, true, by go_num, rfl, by omega, HH2⟩
          case measure => simp [intOf]; omega
        | false =>
          have d0 : (0 : Int) ≤ (j : Int) := by omega
          have d1 : (j : Int) ≤ (j : Int) + (s.size : Int) := by omega
          have d2 : ((j : Int) + (s.size : Int)).toNat = j + s.size := by omega
          obtain ⟨hb, hbd⟩ : ∃ b, hasAt s t j = b := ⟨_, rfl⟩
          have hbX : ((t.extract j (j + s.size)).toList == s.toList) = hb := hbd
          have HH2 : Hid (hb = true ↔ ∃ k, k < j + 1 ∧ k + s.size ≤ t.size ∧ hasAt s t k = true) := by
            show _ ↔ _
            constructor
            · intro h; exact ⟨j, by omega, hjs, by rw [hbd]; exact h⟩
            · rintro ⟨k, h1, h2, h3⟩
              by_cases hk : k < j
              · exact absurd (HH.out.2 ⟨k, hk, h2, h3⟩) (by simp)
              · obtain rfl : k = j := by omega
                rw [hbd] at h3; exact h3
          clear hbd
          go_wp2
          go_round
          case rel => exact ⟨j + 1, hb, by go_num, rfl, by omega, HH2⟩
          case measure => simp [intOf]; omega
      · have hji : ¬ (j : Int) + (s.size : Int) ≤ (t.size : Int) := by omega
        have c3 := M3.out H (by
          rw [Bool.eq_iff_iff, Q3.out, HH.out]
          constructor
          · rintro ⟨k, h1, h2⟩; exact ⟨k, by omega, h1, h2⟩
          · rintro ⟨k, _, h1, h2⟩; exact ⟨k, h1, h2⟩)
        go_wp2_with (first | (go_at_call 20; (with_reducible refine (c1 _ (by assumption)).mono ?_); rintro e W9 ⟨rfl, b9⟩) | (go_at_call 20; (with_reducible refine (c2 _ (by assumption)).mono ?_); rintro e W9 ⟨rfl, b9⟩) | (go_at_call 20; (with_reducible refine (c3 _ (by assumption)).mono ?_); rintro e W9 ⟨rfl, b9⟩) | (go_at_call 17; refine (awake2_b w _ (by assumption)).mono ?_; rintro e W9 ⟨rfl, b9⟩))
        all_goals (go_ret; exact ⟨by first | rfl | simp, by assumption⟩)

end Go.Proofs.Ytkjkejkodilbgaa
