/-
  ClockOver.
-/
import Derived.Test.YtnlpbldpbnlekaaCkI
set_option linter.unusedVariables false
namespace Go.Proofs.Ytnlpbldpbnlekaa
open Go.RowKit

set_option maxHeartbeats 8000000 in
set_option maxRecDepth 100000 in
theorem over_out (a0 a1 : Int) (w : World) (h : ¬ (0 ≤ a0 ∧ a0 < 65536 ∧ 0 ≤ a1 ∧ a1 ≤ 1000)) :
    Calls Try.prog 6 #[.int .i64 a0, .int .i64 a1] w (TelPost (.bool true) w) := by
  have c6 := awake_any w
  by_cases h1 : 0 ≤ a0
  · by_cases h2 : a0 < 65536
    · by_cases h3 : 0 ≤ a1
      · have h4 : ¬ a1 ≤ 1000 := fun e => h ⟨h1, h2, h3, e⟩
        clear h
        go_enter Try.func6, Try.ntmps6
        go_wp2_with (go_at_call 9; (with_reducible refine c6.mono ?_); rintro e W ⟨rfl, b⟩)
        go_ret
        exact ⟨rfl, b⟩
      · clear h
        go_enter Try.func6, Try.ntmps6
        go_wp2_with (go_at_call 9; (with_reducible refine c6.mono ?_); rintro e W ⟨rfl, b⟩)
        go_ret
        exact ⟨rfl, b⟩
    · clear h
      go_enter Try.func6, Try.ntmps6
      go_wp2_with (go_at_call 9; (with_reducible refine c6.mono ?_); rintro e W ⟨rfl, b⟩)
      go_ret
      exact ⟨rfl, b⟩
  · clear h
    go_enter Try.func6, Try.ntmps6
    go_wp2_with (go_at_call 9; (with_reducible refine c6.mono ?_); rintro e W ⟨rfl, b⟩)
    go_ret
    exact ⟨rfl, b⟩

set_option maxHeartbeats 8000000 in
set_option maxRecDepth 100000 in
theorem ClockOver_body (a0 a1 : Int) (w : World) :
    Calls Try.prog 6 #[.int .i64 a0, .int .i64 a1] w (TelPost (.bool true) w) := by
  by_cases hin : 0 ≤ a0 ∧ a0 < 65536 ∧ 0 ≤ a1 ∧ a1 ≤ 1000
  case neg => exact over_out a0 a1 w hin
  obtain ⟨i0, i1, i2, i3⟩ := hin
  obtain ⟨g, hg⟩ : ∃ g, w.heap.size = g := ⟨_, rfl⟩
  have HG := Lib.hid hg
  have cN := new_as 1 0 (by decide) w g hg
  have hok1 : CkOk ⟨0, ⟨500, a0, 1⟩⟩ := ⟨by simp, by simp, by simp, by simp, by simp only; omega, by simp only; omega, by simp, by simp⟩
  have hok2 : CkOk ⟨a1, ⟨500, a0, 1⟩⟩ := ⟨by simp only; omega, by simp only; omega, by simp, by simp, by simp only; omega, by simp only; omega, by simp, by simp⟩
  have hrd : readC a1 ⟨0, ⟨500, a0, 1⟩⟩ = ⟨a1, ⟨500, a0, 1⟩⟩ := by
    unfold readC
    rw [if_pos (show wallB a1 = true from decide_eq_true (by omega)), show max (0 : Int) a1 = a1 by omega]
  have hsn : soundB ⟨500, a0, 2⟩ = true := decide_eq_true (by simp only; omega)
  have hdr : driftB ⟨500, a0, 2⟩ ⟨0, ⟨0, 0, 1⟩⟩ = false := decide_eq_false (by simp only; omega)
  have he : mergeE ⟨500, a0, 2⟩ ⟨0, ⟨0, 0, 1⟩⟩ = 0 := by unfold mergeE; rw [hsn, hdr]; rfl
  have hc : mergeC ⟨500, a0, 2⟩ ⟨0, ⟨0, 0, 1⟩⟩ = ⟨0, ⟨500, a0, 1⟩⟩ := by
    unfold mergeC
    rw [if_pos ⟨he, decide_eq_true (by simp only; omega)⟩]
  have c6 := fun wx => awake_any wx
  unfold TelPost at c6
  clear hg hsn hdr
  go_enter Try.func6, Try.ntmps6
  go_wp2_with (go_at_call 10; (with_reducible refine cN.mono ?_))
  rintro e W0 ⟨rfl, A0, B0⟩
  have c1 := merge_as g ⟨0, ⟨0, 0, 1⟩⟩ ⟨500, a0, 2⟩ _ _ hc he W0 A0 ok1
  have HB0 := Lib.hid B0
  clear A0 B0 cN hc he
  go_wp2_with (go_at_call 16; (with_reducible refine c1.mono ?_))
  rintro e W1 ⟨rfl, A1, K1⟩
  have c2 := read_as g ⟨0, ⟨500, a0, 1⟩⟩ a1 _ hrd W1 A1 hok1
  have HB1 := Lib.hid (kept_below HB0.out K1 (Nat.le_refl _) (by rw [HG.out]; exact Nat.le_refl _))
  clear A1 K1 c1 hrd hok1
  go_wp2_with (go_at_call 12; (with_reducible refine c2.mono ?_))
  rintro e W2 ⟨rfl, A2, K2⟩
  have HB2 := Lib.hid (kept_below HB1.out K2 (Nat.le_refl _) (by rw [HG.out]; exact Nat.le_refl _))
  clear K2 c2
  by_cases hr : 500 < a1
  · have c3 := tick_as g ⟨a1, ⟨500, a0, 1⟩⟩ ⟨a1, 0, 1⟩ _ 0 (by unfold tickS overB tellS; rw [if_neg (by simp; omega), if_pos (by simp only; omega)]) rfl (by unfold tickE overB; rw [if_neg (by simp; omega)]) W2 A2 hok2
    clear A2 hok2
    go_wp2_with (go_at_call 14; (with_reducible refine c3.mono ?_))
    rintro e W3 ⟨rfl, A3, K3⟩
    have hb3 := kept_below HB2.out K3 (Nat.le_refl _) (by rw [HG.out]; exact Nat.le_refl _)
    have HB3 := Lib.hid (hb3.alloc (by have := hb3.size; have := HG.out; omega))
    clear A3 K3 c3 hb3
    have hee : (a1 == a1) = true := by simp
    go_wp2_with (go_at_call 9; (with_reducible refine (c6 _).mono ?_))
    rintro e W6 ⟨rfl, b6⟩
    have HB6 := Lib.hid ((HB3.out _).trans (b6.mono (by have := (HB3.out (.cells #[] 0)).size; rw [World.size_alloc] at this ⊢; have := HG.out; omega)))
    clear b6
    go_wp2
    go_ret
    exact ⟨rfl, by rw [HG.out]; exact HB6.out⟩
  · by_cases hl : a0 = 65535
    · have c3 := tick_as g ⟨a1, ⟨500, a0, 1⟩⟩ ⟨0, 0, 0⟩ _ 7 (by unfold tickS overB; rw [if_pos (by simp; omega)]) rfl (by unfold tickE overB; rw [if_pos (by simp; omega)]) W2 A2 hok2
      clear A2 hok2
      go_wp2_with (go_at_call 14; (with_reducible refine c3.mono ?_))
      rintro e W3 ⟨rfl, A3, K3⟩
      have hb3 := kept_below HB2.out K3 (Nat.le_refl _) (by rw [HG.out]; exact Nat.le_refl _)
      have HB3 := Lib.hid (hb3.alloc (by have := hb3.size; have := HG.out; omega))
      clear A3 K3 c3 hb3
      have hee : (a0 == 65535) = true := by simpa using hl
      go_wp2_with (go_at_call 9; (with_reducible refine (c6 _).mono ?_))
      rintro e W6 ⟨rfl, b6⟩
      have HB6 := Lib.hid ((HB3.out _).trans (b6.mono (by have := (HB3.out (.cells #[] 0)).size; rw [World.size_alloc] at this ⊢; have := HG.out; omega)))
      clear b6
      go_wp2
      go_ret
      exact ⟨rfl, by rw [HG.out]; exact HB6.out⟩
    · have c3 := tick_as g ⟨a1, ⟨500, a0, 1⟩⟩ ⟨500, a0 + 1, 1⟩ _ 0 (by unfold tickS overB tellS; rw [if_neg (by simp; omega), if_neg (by simp only; omega)]) rfl (by unfold tickE overB; rw [if_neg (by simp; omega)]) W2 A2 hok2
      clear A2 hok2
      go_wp2_with (go_at_call 14; (with_reducible refine c3.mono ?_))
      rintro e W3 ⟨rfl, A3, K3⟩
      have hb3 := kept_below HB2.out K3 (Nat.le_refl _) (by rw [HG.out]; exact Nat.le_refl _)
      have HB3 := Lib.hid (hb3.alloc (by have := hb3.size; have := HG.out; omega))
      clear A3 K3 c3 hb3
      have hee : (a0 == 65535) = false := by simpa using hl
      have hee2 : (a0 + 1 == a0 + 1) = true := by simp
      go_wp2_with (go_at_call 9; (with_reducible refine (c6 _).mono ?_))
      rintro e W6 ⟨rfl, b6⟩
      have HB6 := Lib.hid ((HB3.out _).trans (b6.mono (by have := (HB3.out (.cells #[] 0)).size; rw [World.size_alloc] at this ⊢; have := HG.out; omega)))
      clear b6
      go_wp2
      go_ret
      exact ⟨rfl, by rw [HG.out]; exact HB6.out⟩

end Go.Proofs.Ytnlpbldpbnlekaa
