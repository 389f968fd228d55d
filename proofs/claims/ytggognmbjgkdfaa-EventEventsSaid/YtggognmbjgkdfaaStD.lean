/-
  Stamps: Sound, made.
-/
import Derived.Test.YtggognmbjgkdfaaStB
set_option linter.unusedVariables false
namespace Go.Proofs.Ytggognmbjgkdfaa
open Go.RowKit

set_option maxHeartbeats 4000000 in
set_option maxRecDepth 100000 in
theorem sound_any (a : Sm) (w : World) :
    Calls Try.prog 84 #[.agg #[.int .i64 a.w, .int .i64 a.l, .int .i64 a.n]] w (TelPost (.bool (soundB a)) w) := by
  obtain ⟨aw, al, an⟩ := a
  simp only
  have H := Lib.hid (show soundB ⟨aw, al, an⟩ = decide (0 ≤ aw ∧ aw ≤ 1125899906842624 ∧ 0 ≤ al ∧ al < 65536 ∧ 0 ≤ an ∧ an ≤ 5) from rfl)
  have hbel := Lib.hid ((Below.refl w.heap.size w).alloc (Nat.le_refl _) (.cells #[.int .i64 aw, .int .i64 al, .int .i64 an] 40))
  by_cases h0 : 0 ≤ aw
  · skip
    by_cases h1 : aw ≤ 1125899906842624
    · skip
      by_cases h2 : 0 ≤ al
      · skip
        by_cases h3 : al < 65536
        · skip
          by_cases h4 : 0 ≤ an
          · skip
            by_cases h5 : an ≤ 5
            · skip
              go_enter Try.func84, Try.ntmps84
              go_wp2
              go_ret
              exact ⟨retB (by rw [H.out]; simp; omega), hbel.out⟩
            · skip
              go_enter Try.func84, Try.ntmps84
              go_wp2
              go_ret
              exact ⟨retB (by rw [H.out]; simp; omega), hbel.out⟩
          · skip
            go_enter Try.func84, Try.ntmps84
            go_wp2
            go_ret
            exact ⟨retB (by rw [H.out]; simp; omega), hbel.out⟩
        · skip
          go_enter Try.func84, Try.ntmps84
          go_wp2
          go_ret
          exact ⟨retB (by rw [H.out]; simp; omega), hbel.out⟩
      · skip
        go_enter Try.func84, Try.ntmps84
        go_wp2
        go_ret
        exact ⟨retB (by rw [H.out]; simp; omega), hbel.out⟩
    · skip
      go_enter Try.func84, Try.ntmps84
      go_wp2
      go_ret
      exact ⟨retB (by rw [H.out]; simp; omega), hbel.out⟩
  · skip
    go_enter Try.func84, Try.ntmps84
    go_wp2
    go_ret
    exact ⟨retB (by rw [H.out]; simp; omega), hbel.out⟩

set_option maxHeartbeats 4000000 in
set_option maxRecDepth 100000 in
theorem rSound_any (a : Sm) (w : World) :
    Calls Try.prog 59 #[.agg #[.int .i64 a.w, .int .i64 a.l, .int .i64 a.n]] w (TelPost (.bool (soundB a)) w) := by
  obtain ⟨aw, al, an⟩ := a
  simp only
  have H := Lib.hid (show soundB ⟨aw, al, an⟩ = decide (0 ≤ aw ∧ aw ≤ 1125899906842624 ∧ 0 ≤ al ∧ al < 65536 ∧ 0 ≤ an ∧ an ≤ 5) from rfl)
  have hbel := Lib.hid ((Below.refl w.heap.size w).alloc (Nat.le_refl _) (.cells #[.int .i64 aw, .int .i64 al, .int .i64 an] 40))
  by_cases h0 : 0 ≤ aw
  · skip
    by_cases h1 : aw ≤ 1125899906842624
    · skip
      by_cases h2 : 0 ≤ al
      · skip
        by_cases h3 : al < 65536
        · skip
          by_cases h4 : 0 ≤ an
          · skip
            by_cases h5 : an ≤ 5
            · skip
              go_enter Try.func59, Try.ntmps59
              go_wp2
              go_ret
              exact ⟨retB (by rw [H.out]; simp; omega), hbel.out⟩
            · skip
              go_enter Try.func59, Try.ntmps59
              go_wp2
              go_ret
              exact ⟨retB (by rw [H.out]; simp; omega), hbel.out⟩
          · skip
            go_enter Try.func59, Try.ntmps59
            go_wp2
            go_ret
            exact ⟨retB (by rw [H.out]; simp; omega), hbel.out⟩
        · skip
          go_enter Try.func59, Try.ntmps59
          go_wp2
          go_ret
          exact ⟨retB (by rw [H.out]; simp; omega), hbel.out⟩
      · skip
        go_enter Try.func59, Try.ntmps59
        go_wp2
        go_ret
        exact ⟨retB (by rw [H.out]; simp; omega), hbel.out⟩
    · skip
      go_enter Try.func59, Try.ntmps59
      go_wp2
      go_ret
      exact ⟨retB (by rw [H.out]; simp; omega), hbel.out⟩
  · skip
    go_enter Try.func59, Try.ntmps59
    go_wp2
    go_ret
    exact ⟨retB (by rw [H.out]; simp; omega), hbel.out⟩

set_option maxHeartbeats 2000000 in
set_option maxRecDepth 100000 in
theorem sMade_any (x y z : Int) (w : World) :
    Calls Try.prog 115 #[.agg #[.int .i64 x, .int .i64 y, .int .i64 z]] w (TelPost (.agg #[.int .i64 x, .int .i64 y, .int .i64 z]) w) := by
  go_enter Try.func115, Try.ntmps115
  go_wp2
  have G := heap_alloc_new (w.alloc (.cells #[.int .i64 x, .int .i64 y, .int .i64 z] 133)) (.cells #[.int .i64 x, .int .i64 y, .int .i64 z] 40)
  rw [World.size_alloc] at G
  obtain ⟨x0, x1, x2, _⟩ := box_cells G
  refine bodyPost_ret (v := .agg #[.int .i64 x, .int .i64 y, .int .i64 z]) (by simp [results, Try.results115, go_sem, x0, x1, x2]) rfl ?_
  exact ⟨rfl, ((Below.refl _ w).alloc (Nat.le_refl _) _).alloc (by simp) _⟩

end Go.Proofs.Ytggognmbjgkdfaa
