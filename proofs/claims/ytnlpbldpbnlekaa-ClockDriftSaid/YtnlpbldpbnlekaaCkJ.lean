/-
  ClockDrift.
-/
import Derived.Test.YtnlpbldpbnlekaaCkI
set_option linter.unusedVariables false
namespace Go.Proofs.Ytnlpbldpbnlekaa
open Go.RowKit

set_option maxHeartbeats 8000000 in
set_option maxRecDepth 100000 in
theorem drift_out (a0 a1 : Int) (w : World) (h : ¬ (0 ≤ a0 ∧ a0 ≤ 1099511627776 ∧ 0 ≤ a1 ∧ a1 ≤ 5000)) :
    Calls Try.prog 5 #[.int .i64 a0, .int .i64 a1] w (TelPost (.bool true) w) := by
  have c6 := awake_any w
  by_cases h1 : 0 ≤ a0
  · by_cases h2 : a0 ≤ 1099511627776
    · by_cases h3 : 0 ≤ a1
      · have h4 : ¬ a1 ≤ 5000 := fun e => h ⟨h1, h2, h3, e⟩
        clear h
        go_enter Try.func5, Try.ntmps5
        go_wp2_with (go_at_call 9; (with_reducible refine c6.mono ?_); rintro e W ⟨rfl, b⟩)
        go_ret
        exact ⟨rfl, b⟩
      · clear h
        go_enter Try.func5, Try.ntmps5
        go_wp2_with (go_at_call 9; (with_reducible refine c6.mono ?_); rintro e W ⟨rfl, b⟩)
        go_ret
        exact ⟨rfl, b⟩
    · clear h
      go_enter Try.func5, Try.ntmps5
      go_wp2_with (go_at_call 9; (with_reducible refine c6.mono ?_); rintro e W ⟨rfl, b⟩)
      go_ret
      exact ⟨rfl, b⟩
  · clear h
    go_enter Try.func5, Try.ntmps5
    go_wp2_with (go_at_call 9; (with_reducible refine c6.mono ?_); rintro e W ⟨rfl, b⟩)
    go_ret
    exact ⟨rfl, b⟩

theorem keepW {w V W : World} {g : Nat} {k : Ck} {b : Nat} {x y z : Int} (h : Below w.heap.size w V ∧ CkAt V g k ∧ V.cell? ⟨b, 0, none⟩ = some (.int .i64 x) ∧ V.cell? ⟨b, 1, none⟩ = some (.int .i64 y) ∧ V.cell? ⟨b, 2, none⟩ = some (.int .i64 z)) (hb : Below V.heap.size V W) :
    Below w.heap.size w W ∧ CkAt W g k ∧ W.cell? ⟨b, 0, none⟩ = some (.int .i64 x) ∧ W.cell? ⟨b, 1, none⟩ = some (.int .i64 y) ∧ W.cell? ⟨b, 2, none⟩ = some (.int .i64 z) :=
  ⟨h.1.trans (hb.mono h.1.size), h.2.1.later hb, (hb.cell (World.block_lt_of_cell? _ _ h.2.2.1)).trans h.2.2.1, (hb.cell (World.block_lt_of_cell? _ _ h.2.2.2.1)).trans h.2.2.2.1, (hb.cell (World.block_lt_of_cell? _ _ h.2.2.2.2)).trans h.2.2.2.2⟩

set_option maxHeartbeats 8000000 in
set_option maxRecDepth 100000 in
theorem ClockDrift_body (a0 a1 : Int) (w : World) :
    Calls Try.prog 5 #[.int .i64 a0, .int .i64 a1] w (TelPost (.bool true) w) := by
  by_cases hin : 0 ≤ a0 ∧ a0 ≤ 1099511627776 ∧ 0 ≤ a1 ∧ a1 ≤ 5000
  case neg => exact drift_out a0 a1 w hin
  obtain ⟨i0, i1, i2, i3⟩ := hin
  obtain ⟨g, hg⟩ : ∃ g, w.heap.size = g := ⟨_, rfl⟩
  have HG := Lib.hid hg
  have cN := new_as 1 0 (by decide) w g hg
  have hok1 : CkOk ⟨a0, ⟨0, 0, 1⟩⟩ := ⟨i0, by simp only; omega, by simp, by simp, by simp, by simp, by simp, by simp⟩
  have hrd : readC a0 ⟨0, ⟨0, 0, 1⟩⟩ = ⟨a0, ⟨0, 0, 1⟩⟩ := by
    unfold readC
    rw [if_pos (show wallB a0 = true from decide_eq_true (by omega)), show max (0 : Int) a0 = a0 by omega]
  have hsn : soundB ⟨a0 + a1, 7, 2⟩ = true := decide_eq_true (by simp only; omega)
  clear hg
  go_enter Try.func5, Try.ntmps5
  go_wp2_with (go_at_call 10; (with_reducible refine cN.mono ?_))
  rintro e W0 ⟨rfl, A0, B0⟩
  have c1 := read_as g ⟨0, ⟨0, 0, 1⟩⟩ a0 _ hrd W0 A0 ok1
  have HB0 := Lib.hid B0
  clear A0 B0 cN hrd
  go_wp2_with (go_at_call 12; (with_reducible refine c1.mono ?_))
  rintro e W1 ⟨rfl, A1, K1⟩
  have c2 : Calls Try.prog 18 #[.pointer (some ⟨g, 0, none⟩)] W1 (TelPost (.agg #[.int .i64 0, .int .i64 0, .int .i64 1]) W1) := now_any g _ W1 A1
  have HB1 := Lib.hid (kept_below HB0.out K1 (Nat.le_refl _) (by rw [HG.out]; exact Nat.le_refl _))
  have HA1 := Lib.hid A1
  clear A1 K1 c1
  go_wp2_with (go_at_call 18; (with_reducible refine c2.mono ?_))
  rintro e W2 ⟨rfl, b2⟩
  have hz2 : g < W2.heap.size := below_sz b2 (lt_of_block HA1.out)
  have HA2 := Lib.hid ((HA1.out.later b2).alloc (.cells #[.int .i64 0, .int .i64 0, .int .i64 1] 32))
  have HX2 := Lib.hid (Bx.new W2 ⟨0, 0, 1⟩)
  have HB2 := Lib.hid ((HB1.out.trans (b2.mono (by have := HB1.out.size; have := HG.out; omega))).alloc (by omega) (.cells #[.int .i64 0, .int .i64 0, .int .i64 1] 32))
  clear b2 c2
  have HA3 := Lib.hid (HA2.out.alloc (.cells #[.int .i64 (a0 + a1), .int .i64 7, .int .i64 2] 32))
  have HX3 := Lib.hid (HX2.out.alloc (.cells #[.int .i64 (a0 + a1), .int .i64 7, .int .i64 2] 32))
  have HY3 := Lib.hid (Bx.new (W2.alloc (.cells #[.int .i64 0, .int .i64 0, .int .i64 1] 32)) ⟨a0 + a1, 7, 2⟩)
  have HB3 := Lib.hid (HB2.out.alloc (by simp; omega) (.cells #[.int .i64 (a0 + a1), .int .i64 7, .int .i64 2] 32))
  have c6 := fun wx => awake_any wx
  unfold TelPost at c6
  by_cases hbig : 1000 < a1
  · have hdr : driftB ⟨a0 + a1, 7, 2⟩ ⟨a0, ⟨0, 0, 1⟩⟩ = true := decide_eq_true (by simp only; omega)
    have he : mergeE ⟨a0 + a1, 7, 2⟩ ⟨a0, ⟨0, 0, 1⟩⟩ = 6 := by unfold mergeE; rw [hsn, hdr]; rfl
    have hc : mergeC ⟨a0 + a1, 7, 2⟩ ⟨a0, ⟨0, 0, 1⟩⟩ = ⟨a0, ⟨0, 0, 1⟩⟩ := by unfold mergeC; rw [he]; rfl
    have c3 := merge_as g ⟨a0, ⟨0, 0, 1⟩⟩ ⟨a0 + a1, 7, 2⟩ _ _ hc he _ HA3.out hok1
    clear hsn hdr he hc
    go_wp2_with (go_at_call 16; (with_reducible refine c3.mono ?_))
    rintro e W4 ⟨rfl, A4, K4⟩
    have hb4 := kept_below HB3.out K4 (Nat.le_refl _) (by rw [HG.out]; exact Nat.le_refl _)
    have X4 : W4.heap[W2.heap.size]? = some (.cells #[.int .i64 0, .int .i64 0, .int .i64 1] 32 (0, 0)) := HX3.out.kept K4 (ne_gt (by omega))
    obtain ⟨x0, x1, x2, _⟩ := box_cells X4
    have c4 := fun wx (h : CkAt wx g ⟨a0, ⟨0, 0, 1⟩⟩) => (show Calls Try.prog 18 #[.pointer (some ⟨g, 0, none⟩)] wx (TelPost (.agg #[.int .i64 0, .int .i64 0, .int .i64 1]) wx) from now_any g _ wx h)
    have C4 := Lib.hid c4
    have HS4 := Lib.hid (show Below w.heap.size w W4.drew ∧ CkAt W4.drew g ⟨a0, ⟨0, 0, 1⟩⟩ ∧ W4.drew.cell? ⟨W2.heap.size, 0, none⟩ = some (.int .i64 0) ∧ W4.drew.cell? ⟨W2.heap.size, 1, none⟩ = some (.int .i64 0) ∧ W4.drew.cell? ⟨W2.heap.size, 2, none⟩ = some (.int .i64 1) from ⟨by rw [HG.out]; exact hb4.drew, A4, x0, x1, x2⟩)
    clear A4 K4 c3 X4 hb4 c4
    go_wp2_with fail
    go_region_held3 (fun w' => Below w.heap.size w w' ∧ CkAt w' g ⟨a0, ⟨0, 0, 1⟩⟩ ∧ w'.cell? ⟨W2.heap.size, 0, none⟩ = some (.int .i64 0) ∧ w'.cell? ⟨W2.heap.size, 1, none⟩ = some (.int .i64 0) ∧ w'.cell? ⟨W2.heap.size, 2, none⟩ = some (.int .i64 1))
      (first | exact HS4.out | exact hs6 | exact hs5 | exact keepW (by assumption) (Below.refl _ _).drew | go_keep)
      (first
        | (go_at_call 18; (with_reducible refine (C4.out _ (And.left (And.right (by assumption)))).mono ?_); rintro e W5 ⟨rfl, b5⟩; have hs5 := keepW (by assumption) b5)
        | (go_at_call 9; (with_reducible refine (c6 _).mono ?_); rintro e W6 ⟨rfl, b6⟩; have hs6 := keepW (by assumption) b6))
    all_goals (
      have HZ := Lib.hid hs6.1
      go_wp2
      go_ret
      exact ⟨rfl, HZ.out⟩)
  · have hdr : driftB ⟨a0 + a1, 7, 2⟩ ⟨a0, ⟨0, 0, 1⟩⟩ = false := decide_eq_false (by simp only; omega)
    have he : mergeE ⟨a0 + a1, 7, 2⟩ ⟨a0, ⟨0, 0, 1⟩⟩ = 0 := by unfold mergeE; rw [hsn, hdr]; rfl
    have hc : mergeC ⟨a0 + a1, 7, 2⟩ ⟨a0, ⟨0, 0, 1⟩⟩ = ⟨a0, ⟨a0 + a1, 7, 1⟩⟩ := by
      unfold mergeC
      rw [if_pos ⟨he, decide_eq_true (by simp only; omega)⟩]
    have c3 := merge_as g ⟨a0, ⟨0, 0, 1⟩⟩ ⟨a0 + a1, 7, 2⟩ _ _ hc he _ HA3.out hok1
    clear hsn hdr he hc
    go_wp2_with (go_at_call 16; (with_reducible refine c3.mono ?_))
    rintro e W4 ⟨rfl, A4, K4⟩
    have hz4 := K4.size
    rw [World.size_alloc, World.size_alloc] at hz4
    have hb4 := kept_below HB3.out K4 (Nat.le_refl _) (by rw [HG.out]; exact Nat.le_refl _)
    have HY4 := Lib.hid (HY3.out.kept K4 (ne_gt (by simp; omega)))
    have c4 : Calls Try.prog 18 #[.pointer (some ⟨g, 0, none⟩)] W4 (TelPost (.agg #[.int .i64 (a0 + a1), .int .i64 7, .int .i64 1]) W4) := now_any g _ W4 A4
    have HB4 := Lib.hid hb4
    clear A4 K4 c3 hb4
    go_wp2_with (go_at_call 18; (with_reducible refine c4.mono ?_))
    rintro e W5 ⟨rfl, b5⟩
    have hz5 := b5.size
    have Y5 : (W5.alloc (.cells #[.int .i64 (a0 + a1), .int .i64 7, .int .i64 1] 32)).heap[W2.heap.size + 1]? = some (.cells #[.int .i64 (a0 + a1), .int .i64 7, .int .i64 2] 32 (0, 0)) := by
      have := (HY4.out.later b5).alloc (.cells #[.int .i64 (a0 + a1), .int .i64 7, .int .i64 1] 32)
      rw [World.size_alloc] at this
      exact this
    obtain ⟨y0, y1, y2, _⟩ := box_cells Y5
    have HB5 := Lib.hid ((HB4.out.trans (b5.mono (by omega))).alloc (by omega) (.cells #[.int .i64 (a0 + a1), .int .i64 7, .int .i64 1] 32))
    have hee : (a0 + a1 == a0 + a1) = true := by simp
    clear b5 c4 Y5
    go_wp2_with (go_at_call 9; (with_reducible refine (c6 _).mono ?_))
    rintro e W6 ⟨rfl, b6⟩
    have HB6 := Lib.hid (HB5.out.trans (b6.mono (by simp; omega)))
    clear b6
    go_wp2
    go_ret
    exact ⟨rfl, by rw [HG.out]; exact HB6.out⟩

end Go.Proofs.Ytnlpbldpbnlekaa
