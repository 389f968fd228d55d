/-
  Stamps: Less, Sound, made, isDigit, and the reference's.
-/
import Derived.Test.YtnlpbldpbnlekaaStB
set_option linter.unusedVariables false
namespace Go.Proofs.Ytnlpbldpbnlekaa
open Go.RowKit

theorem box_cells {w : World} {g : Nat} {x y z : Value} {t : TypeId} (h : w.heap[g]? = some (.cells #[x, y, z] t (0, 0))) :
    w.cell? ⟨g, 0, none⟩ = some x ∧ w.cell? ⟨g, 1, none⟩ = some y ∧ w.cell? ⟨g, 2, none⟩ = some z ∧ w.frozen? ⟨g, 0, none⟩ = false ∧ w.frozen? ⟨g, 1, none⟩ = false ∧ w.frozen? ⟨g, 2, none⟩ = false := by
  refine ⟨?_, ?_, ?_, frozen_of_row _ g 0 _ _ h, frozen_of_row _ g 1 _ _ h, frozen_of_row _ g 2 _ _ h⟩ <;> rw [cell_of_row _ g _ _ _ _ h] <;> rfl
theorem box_below {B : Nat} {w w' : World} {g : Nat} {o : Obj} (h : w.heap[g]? = some o) (hb : Below B w w') (hg : g < B) : w'.heap[g]? = some o := (hb.block g hg).trans h
theorem box_alloc {w : World} {g : Nat} {o : Obj} (h : w.heap[g]? = some o) (o2 : Obj) : (w.alloc o2).heap[g]? = some o := (Below.heap_alloc w o2 g (lt_of_block h)).trans h

theorem retB {a b : Bool} (h : a = b) : Ending.returned (.bool a) = .returned (.bool b) := by rw [h]

set_option maxHeartbeats 2000000 in
set_option maxRecDepth 100000 in
theorem less_any (a b : Sm) (w : World) :
    Calls Try.prog 28 #[.agg #[.int .i64 a.w, .int .i64 a.l, .int .i64 a.n], .agg #[.int .i64 b.w, .int .i64 b.l, .int .i64 b.n]] w (TelPost (.bool (lessB a b)) w) := by
  have c := fun wx => compare_any a b wx
  have H := Lib.hid (less_cmp a b)
  obtain ⟨k, hk⟩ : ∃ k, k = cmpS a b := ⟨_, rfl⟩
  rw [← hk] at c H
  unfold TelPost at c
  clear hk
  go_enter Try.func28, Try.ntmps28
  go_wp2_with (go_at_call 29; (with_reducible refine (c _).mono ?_); rintro e W ⟨rfl, hb⟩)
  go_ret
  exact ⟨retB H.out, (((Below.refl _ w).alloc (Nat.le_refl _) _).alloc (by simp) _).trans (hb.mono (by simp; omega))⟩

set_option maxHeartbeats 2000000 in
set_option maxRecDepth 100000 in
theorem rLess_any (a b : Sm) (w : World) :
    Calls Try.prog 21 #[.agg #[.int .i64 a.w, .int .i64 a.l, .int .i64 a.n], .agg #[.int .i64 b.w, .int .i64 b.l, .int .i64 b.n]] w (TelPost (.bool (lessB a b)) w) := by
  obtain ⟨aw, al, an⟩ := a
  obtain ⟨bw, bl, bn⟩ := b
  simp only
  have H := Lib.hid (show lessB ⟨aw, al, an⟩ ⟨bw, bl, bn⟩ = if aw ≠ bw then decide (aw < bw) else if al ≠ bl then decide (al < bl) else decide (an < bn) from rfl)
  have hbel := Lib.hid (((Below.refl w.heap.size w).alloc (Nat.le_refl _) (.cells #[.int .i64 aw, .int .i64 al, .int .i64 an] 32)).alloc (by simp) (.cells #[.int .i64 bw, .int .i64 bl, .int .i64 bn] 32))
  by_cases h1 : aw = bw
  · by_cases h2 : al = bl
    · have e1 : (aw != bw) = false := by simpa using h1
      have e2 : (al != bl) = false := by simpa using h2
      rw [if_neg (by simpa using h1), if_neg (by simpa using h2)] at H
      clear h1 h2
      go_enter Try.func21, Try.ntmps21
      go_wp2
      go_ret
      exact ⟨retB H.out.symm, hbel.out⟩
    · have e1 : (aw != bw) = false := by simpa using h1
      have e2 : (al != bl) = true := by simpa using h2
      rw [if_neg (by simpa using h1), if_pos h2] at H
      clear h1 h2
      go_enter Try.func21, Try.ntmps21
      go_wp2
      go_ret
      exact ⟨retB H.out.symm, hbel.out⟩
  · have e1 : (aw != bw) = true := by simpa using h1
    rw [if_pos h1] at H
    clear h1
    go_enter Try.func21, Try.ntmps21
    go_wp2
    go_ret
    exact ⟨retB H.out.symm, hbel.out⟩

end Go.Proofs.Ytnlpbldpbnlekaa
