/-
  GlobLimit: the walk of the law's text.
-/
import Derived.Test.YtkjkejkodilbgaaGlobW
import Derived.LoopTactic
set_option linter.unusedVariables false
namespace Go.Proofs.Ytkjkejkodilbgaa
open Go.RowKit

theorem lim_all : ∀ n : Fin 61, (chkB (repB ⟨#[195, 169]⟩ n.val) = decide (n.val ≤ 40) ∧ matB (repB ⟨#[195, 169]⟩ n.val) (repB ⟨#[195, 169]⟩ n.val) = decide (n.val ≤ 40)) ∧
    (chkB (repB ⟨#[63]⟩ n.val) = decide (n.val ≤ 40) ∧ matB (repB ⟨#[63]⟩ n.val) (repB ⟨#[63]⟩ n.val) = decide (n.val ≤ 40)) := by decide +kernel

set_option maxHeartbeats 4000000 in
set_option maxRecDepth 100000 in
theorem GlobLimit_walk (n : Int) (wide : Bool) (_hn : (Lit.int .i64 n).wf = true) (w : World) :
    Calls Try.prog 11 #[.int .i64 n, .bool wide] w fun e w' => e = .returned (.bool true) ∧ Below w.heap.size w w' := by
  have B0 := Below.refl w.heap.size w
  clear _hn
  by_cases h1 : n < 0
  · go_enter Try.func11, Try.ntmps11
    go_wp2_with (go_at_call 17; refine (awake2_b w _ B0).mono ?_; rintro e W1 ⟨rfl, b1⟩)
    go_ret
    exact ⟨rfl, b1⟩
  by_cases h2 : 60 < n
  · go_enter Try.func11, Try.ntmps11
    go_wp2_with (go_at_call 17; refine (awake2_b w _ B0).mono ?_; rintro e W1 ⟨rfl, b1⟩)
    go_ret
    exact ⟨rfl, b1⟩
  obtain ⟨m, rfl⟩ : ∃ m : Nat, n = (m : Int) := ⟨n.toNat, by omega⟩
  have hm : m ≤ 60 := by omega
  obtain ⟨u, hu⟩ : ∃ u : ByteArray, u = if wide = true then ⟨#[195, 169]⟩ else ⟨#[63]⟩ := ⟨_, rfl⟩
  have hus : u.size ≤ 2 := by rw [hu]; cases wide <;> exact Nat.le_of_ble_eq_true rfl
  have hrs : ∀ i, i ≤ 60 → (repB u i).size ≤ 200 := fun i hi => by rw [repB_size]; have : i * u.size ≤ 60 * 2 := Nat.mul_le_mul hi hus; omega
  have hlim := lim_all ⟨m, by omega⟩
  have hc0 : chkB (repB u m) = decide (m ≤ 40) ∧ matB (repB u m) (repB u m) = decide (m ≤ 40) := by
    rw [hu]; cases wide
    · exact hlim.2
    · exact hlim.1
  obtain ⟨p, hp⟩ : ∃ p, p = repB u m := ⟨_, rfl⟩
  have hps := hrs m hm
  rw [← hp] at hc0 hps
  have HRS : Hid (∀ i, i ≤ 60 → (repB u i).size ≤ 200) := hrs
  have HP : Hid (p = repB u m) := hp
  have HU : Hid (u = if wide = true then ⟨#[195, 169]⟩ else ⟨#[63]⟩) := hu
  clear hlim hp hrs hus hu h1 h2
  have hfin : ∀ (b : Bool), b = decide (m ≤ 40) → chkB p = b → matB p p = b → (∀ wx, Below w.heap.size w wx → Calls Try.prog 18 #[.string p] wx fun e w' => e = .returned (.int .i64 (if b = true then 0 else 1)) ∧ Below w.heap.size w w') ∧ (∀ wx, Below w.heap.size w wx → Calls Try.prog 20 #[.string p, .string p] wx fun e w' => e = .returned (.bool b) ∧ Below w.heap.size w w') := by
    intro b hb h1 h2
    refine ⟨fun wx hb => ?_, fun wx hb => ?_⟩
    · have := Check_b p w wx (by omega) hb; rw [h1] at this; exact this
    · have := Match_b p p w wx (by omega) (by omega) hb; rw [h2] at this; exact this
  obtain ⟨cK, cM⟩ := hfin _ rfl hc0.1 hc0.2
  clear hfin hc0
  have hni : (0 : Int) ≤ (m : Int) := by omega
  have hni2 : ¬ (60 : Int) < (m : Int) := by omega
  go_enter Try.func11, Try.ntmps11
  go_wp2
  go_loop [5, 6] (fun x i => ∃ j : Nat, i = .int .i64 j ∧ j ≤ m ∧ x = .string (repB u j)) (fun _ i => m - (intOf i).toNat)
  case atStart => exact ⟨0, rfl, Nat.zero_le _, rfl⟩
  case round =>
    obtain ⟨j, rfl, hj, rfl⟩ := hrel
    by_cases hlt : j < m
    · have hlti : (j : Int) < (m : Int) := by omega
      have hjs := HRS.out j (by omega)
      cases wide with
      | true =>
        have hstep : Hid (repB u (j + 1) = repB u j ++ ⟨#[195, 169]⟩) := by show repB u j ++ u = _; exact congrArg (repB u j ++ ·) HU.out
        go_wp2
        go_round
        case rel => exact ⟨j + 1, by go_num, by omega, by rw [hstep.out]⟩
        case measure => simp [intOf]; omega
      | false =>
        have hstep : Hid (repB u (j + 1) = repB u j ++ ⟨#[63]⟩) := by show repB u j ++ u = _; exact congrArg (repB u j ++ ·) HU.out
        go_wp2
        go_round
        case rel => exact ⟨j + 1, by go_num, by omega, by rw [hstep.out]⟩
        case measure => simp [intOf]; omega
    · have hjm : j = m := by omega
      subst hjm
      rw [← HP.out]
      by_cases h40 : j ≤ 40
      · have h40i : (j : Int) ≤ 40 := by omega
        simp only [decide_eq_true h40] at cK cM
        go_wp2_with (first | (go_at_call 18; (with_reducible refine (cK _ (by assumption)).mono ?_); rintro e W1 ⟨rfl, b1⟩) | (go_at_call 20; (with_reducible refine (cM _ (by assumption)).mono ?_); rintro e W1 ⟨rfl, b1⟩) | (go_at_call 17; refine (awake2_b w _ (by assumption)).mono ?_; rintro e W1 ⟨rfl, b1⟩))
        all_goals (go_ret; exact ⟨rfl, by assumption⟩)
      · have h40i : ¬ (j : Int) ≤ 40 := by omega
        simp only [decide_eq_false h40] at cK cM
        go_wp2_with (first | (go_at_call 18; (with_reducible refine (cK _ (by assumption)).mono ?_); rintro e W1 ⟨rfl, b1⟩) | (go_at_call 20; (with_reducible refine (cM _ (by assumption)).mono ?_); rintro e W1 ⟨rfl, b1⟩) | (go_at_call 17; refine (awake2_b w _ (by assumption)).mono ?_; rintro e W1 ⟨rfl, b1⟩))
        all_goals (go_ret; exact ⟨by simp [h40i], by assumption⟩)

end Go.Proofs.Ytkjkejkodilbgaa
