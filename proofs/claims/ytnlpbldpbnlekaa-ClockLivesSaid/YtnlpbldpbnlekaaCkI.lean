/-
  ClockNothing; ClockOver.
-/
import Derived.Test.YtnlpbldpbnlekaaCkH
set_option linter.unusedVariables false
namespace Go.Proofs.Ytnlpbldpbnlekaa
open Go.RowKit

theorem below_sz {B : Nat} {w w' : World} {b : Nat} (h : Below B w w') (hb : b < w.heap.size) : b < w'.heap.size := Nat.lt_of_lt_of_le hb h.size

set_option maxHeartbeats 8000000 in
set_option maxRecDepth 100000 in
theorem ClockNothing_body (a0 : Sm) (w : World) :
    Calls Try.prog 7 #[.agg #[.int .i64 a0.w, .int .i64 a0.l, .int .i64 a0.n]] w (TelPost (.bool true) w) := by
  have c1 := fun wx => read_nil 5 wx
  have c2 := fun wx => tick_nil wx
  have c3 := fun wx => merge_nil a0 wx
  have c4 := fun wx => now_nil wx
  have c5 := fun wx => reading_nil wx
  have c6 := fun wx => awake_any wx
  unfold TelPost at c2 c3 c4 c6
  have bA := (Below.refl w.heap.size w).alloc (Nat.le_refl _) (.cells #[.int .i64 a0.w, .int .i64 a0.l, .int .i64 a0.n] 32)
  have hA := Bx.new w a0
  have HA := Lib.hid hA
  have HBA := Lib.hid bA
  clear hA bA
  go_enter Try.func7, Try.ntmps7
  go_wp2_with (first
    | (go_at_call 12; (with_reducible refine (c1 _).mono ?_); rintro e W ⟨rfl, rfl⟩)
    | (go_at_call 14; (with_reducible refine (c2 _).mono ?_)))
  rintro e W2 ⟨rfl, b2⟩
  have HX2 := Lib.hid ((HA.out.later b2).alloc (.cells #[.int .i64 0, .int .i64 0, .int .i64 0] 32))
  have HB2 := Lib.hid ((HBA.out.trans (b2.mono HBA.out.size)).alloc (HBA.out.trans (b2.mono HBA.out.size)).size (.cells #[.int .i64 0, .int .i64 0, .int .i64 0] 32))
  have X2 : (W2.alloc (.cells #[.int .i64 0, .int .i64 0, .int .i64 0] 32)).heap[w.heap.size]? = some (.cells #[.int .i64 a0.w, .int .i64 a0.l, .int .i64 a0.n] 32 (0, 0)) := HX2.out
  obtain ⟨x0, x1, x2, _⟩ := box_cells X2
  clear X2 b2
  go_wp2_with (go_at_call 16; (with_reducible refine (c3 _).mono ?_))
  rintro e W3 ⟨rfl, b3⟩
  have HB3 := Lib.hid (HB2.out.trans (b3.mono HB2.out.size))
  clear b3
  go_wp2_with (go_at_call 18; (with_reducible refine (c4 _).mono ?_))
  rintro e W4 ⟨rfl, b4⟩
  have HB4 := Lib.hid (HB3.out.trans (b4.mono HB3.out.size))
  clear b4
  go_wp2_with (first
    | (go_at_call 20; (with_reducible refine (c5 _).mono ?_); rintro e W ⟨rfl, rfl⟩)
    | (go_at_call 9; (with_reducible refine (c6 _).mono ?_)))
  rintro e W5 ⟨rfl, b5⟩
  have HB5 := Lib.hid (HB4.out.trans (b5.mono HB4.out.size))
  clear b5
  go_wp2
  go_ret
  exact ⟨rfl, HB5.out⟩

end Go.Proofs.Ytnlpbldpbnlekaa
