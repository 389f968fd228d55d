/-
  Stamps: Sound, and the reference's.
-/
import Derived.Test.YtnlpbldpbnlekaaStC
set_option linter.unusedVariables false
namespace Go.Proofs.Ytnlpbldpbnlekaa
open Go.RowKit

set_option maxHeartbeats 4000000 in
set_option maxRecDepth 100000 in
theorem sound_any (a : Sm) (w : World) :
    Calls Try.prog 25 #[.agg #[.int .i64 a.w, .int .i64 a.l, .int .i64 a.n]] w (TelPost (.bool (soundB a)) w) := by
  obtain ⟨aw, al, an⟩ := a
  simp only
  have H := Lib.hid (show soundB ⟨aw, al, an⟩ = decide (0 ≤ aw ∧ aw ≤ 1125899906842624 ∧ 0 ≤ al ∧ al < 65536 ∧ 0 ≤ an ∧ an ≤ 5) from rfl)
  have hbel := Lib.hid ((Below.refl w.heap.size w).alloc (Nat.le_refl _) (.cells #[.int .i64 aw, .int .i64 al, .int .i64 an] 32))
  by_cases h0 : 0 ≤ aw
  · skip
    by_cases h1 : aw ≤ 1125899906842624
    · skip
      by_cases h2 : 0 ≤ al
      · skip
        by_cases h3 : al < 65536
        · skip
          by_cases h4 : 0 ≤ an
          · skip
            by_cases h5 : an ≤ 5
            · skip
              go_enter Try.func25, Try.ntmps25
              go_wp2
              go_ret
              exact ⟨retB (by rw [H.out]; simp; omega), hbel.out⟩
            · skip
              go_enter Try.func25, Try.ntmps25
              go_wp2
              go_ret
              exact ⟨retB (by rw [H.out]; simp; omega), hbel.out⟩
          · skip
            go_enter Try.func25, Try.ntmps25
            go_wp2
            go_ret
            exact ⟨retB (by rw [H.out]; simp; omega), hbel.out⟩
        · skip
          go_enter Try.func25, Try.ntmps25
          go_wp2
          go_ret
          exact ⟨retB (by rw [H.out]; simp; omega), hbel.out⟩
      · skip
        go_enter Try.func25, Try.ntmps25
        go_wp2
        go_ret
        exact ⟨retB (by rw [H.out]; simp; omega), hbel.out⟩
    · skip
      go_enter Try.func25, Try.ntmps25
      go_wp2
      go_ret
      exact ⟨retB (by rw [H.out]; simp; omega), hbel.out⟩
  · skip
    go_enter Try.func25, Try.ntmps25
    go_wp2
    go_ret
    exact ⟨retB (by rw [H.out]; simp; omega), hbel.out⟩

set_option maxHeartbeats 4000000 in
set_option maxRecDepth 100000 in
theorem rSound_any (a : Sm) (w : World) :
    Calls Try.prog 27 #[.agg #[.int .i64 a.w, .int .i64 a.l, .int .i64 a.n]] w (TelPost (.bool (soundB a)) w) := by
  obtain ⟨aw, al, an⟩ := a
  simp only
  have H := Lib.hid (show soundB ⟨aw, al, an⟩ = decide (0 ≤ aw ∧ aw ≤ 1125899906842624 ∧ 0 ≤ al ∧ al < 65536 ∧ 0 ≤ an ∧ an ≤ 5) from rfl)
  have hbel := Lib.hid ((Below.refl w.heap.size w).alloc (Nat.le_refl _) (.cells #[.int .i64 aw, .int .i64 al, .int .i64 an] 32))
  by_cases h0 : 0 ≤ aw
  · skip
    by_cases h1 : aw ≤ 1125899906842624
    · skip
      by_cases h2 : 0 ≤ al
      · skip
        by_cases h3 : al < 65536
        · skip
          by_cases h4 : 0 ≤ an
          · skip
            by_cases h5 : an ≤ 5
            · skip
              go_enter Try.func27, Try.ntmps27
              go_wp2
              go_ret
              exact ⟨retB (by rw [H.out]; simp; omega), hbel.out⟩
            · skip
              go_enter Try.func27, Try.ntmps27
              go_wp2
              go_ret
              exact ⟨retB (by rw [H.out]; simp; omega), hbel.out⟩
          · skip
            go_enter Try.func27, Try.ntmps27
            go_wp2
            go_ret
            exact ⟨retB (by rw [H.out]; simp; omega), hbel.out⟩
        · skip
          go_enter Try.func27, Try.ntmps27
          go_wp2
          go_ret
          exact ⟨retB (by rw [H.out]; simp; omega), hbel.out⟩
      · skip
        go_enter Try.func27, Try.ntmps27
        go_wp2
        go_ret
        exact ⟨retB (by rw [H.out]; simp; omega), hbel.out⟩
    · skip
      go_enter Try.func27, Try.ntmps27
      go_wp2
      go_ret
      exact ⟨retB (by rw [H.out]; simp; omega), hbel.out⟩
  · skip
    go_enter Try.func27, Try.ntmps27
    go_wp2
    go_ret
    exact ⟨retB (by rw [H.out]; simp; omega), hbel.out⟩

end Go.Proofs.Ytnlpbldpbnlekaa
