/-
  Package clock: Merge, of a stamp that it takes.
-/
import Derived.Test.YtnlpbldpbnlekaaCkD
set_option linter.unusedVariables false
namespace Go.Proofs.Ytnlpbldpbnlekaa
open Go.RowKit

set_option maxHeartbeats 16000000 in
set_option maxRecDepth 100000 in
theorem merge_take (g : Nat) (k : Ck) (s : Sm) (w : World) (h : CkAt w g k) (hk : CkOk k) (hs : soundB s = true) (hd : driftB s k = false) (M : Sm) (hM : maxOf [k.s, ⟨s.w, s.l, k.s.n⟩] = M) :
    Calls Try.prog 16 #[.pointer (some ⟨g, 0, none⟩), .agg #[.int .i64 s.w, .int .i64 s.l, .int .i64 s.n]] w (CkPost g ⟨k.r, M⟩ (.int .i64 0) w) := by
  have c1 := made_at g k _ (box_alloc h (.cells #[.int .i64 s.w, .int .i64 s.l, .int .i64 s.n] 32)) hk.n0
  have c2 := fun wx => sound_any s wx
  have cM := fun V g h => max_two k.s ⟨s.w, s.l, k.s.n⟩ M hM V g h
  have CM := Lib.hid cM
  have hs2 := of_decide_eq_true hs
  have hd2 := of_decide_eq_false hd
  have hg := lt_of_block h
  obtain ⟨r0, r1, q0, q1, l0, l1, n0, n1⟩ := hk
  rw [hs] at c2
  unfold TelPost at c2
  have GS := Lib.hid (heap_alloc_new w (.cells #[.int .i64 s.w, .int .i64 s.l, .int .i64 s.n] 32))
  have HA := Lib.hid (box_alloc h (.cells #[.int .i64 s.w, .int .i64 s.l, .int .i64 s.n] 32))
  clear h hs hd cM hM
  go_enter Try.func16, Try.ntmps16
  go_wp2_with (first | (go_at_call 23; (with_reducible refine c1.mono ?_); rintro e W ⟨rfl, rfl⟩) | (go_at_call 25; (with_reducible refine (c2 _).mono ?_)))
  rintro e W3 ⟨rfl, b3⟩
  have A3 := box_below HA.out b3 (lt_of_block HA.out)
  have S3 := box_below GS.out b3 (lt_of_block GS.out)
  obtain ⟨s0, s1, s2, v0, v1, v2⟩ := box_cells S3
  obtain ⟨d0, d1, d2, d3, f0, f1, f2, f3⟩ := four_cells A3
  have HS3 := Lib.hid S3
  have HA3 := Lib.hid A3
  have HB3 := Lib.hid (((Below.refl w.heap.size w).alloc (Nat.le_refl _) (.cells #[.int .i64 s.w, .int .i64 s.l, .int .i64 s.n] 32)).trans (b3.mono (by simp)))
  clear A3 S3 b3
  obtain ⟨X, hX⟩ : ∃ X : Bool, X = decide (1000 < s.w - k.r) := ⟨_, rfl⟩
  cases X with
  | true =>
    have g1 : decide (1000 < s.w - k.r) = true := hX.symm
    have g2 : decide (k.s.w < s.w) = false := decide_eq_false (by have := of_decide_eq_true g1; omega)
    clear hX
    go_wp2_with fail
    go_quiet (fail)
    go_wp2_with fail
    have S4 : ((W3.drewN nq).setCell ⟨w.heap.size, 2, none⟩ (.int .i64 k.s.n)).heap[w.heap.size]? = some (.cells #[.int .i64 s.w, .int .i64 s.l, .int .i64 k.s.n] 32 (0, 0)) := heap_setCell_same _ _ 2 _ _ _ (box_drew HS3.out nq)
    have A4 : CkAt ((W3.drewN nq).setCell ⟨w.heap.size, 2, none⟩ (.int .i64 k.s.n)) g k := box_other (box_drew HA3.out nq) _ (by simp; omega) _
    have B4 : Below w.heap.size w ((W3.drewN nq).setCell ⟨w.heap.size, 2, none⟩ (.int .i64 k.s.n)) := (below_drewN HB3.out nq).setCell (Nat.le_refl _) _
    generalize ((W3.drewN nq).setCell ⟨w.heap.size, 2, none⟩ (.int .i64 k.s.n)) = W4 at S4 A4 B4 ⊢
    clear s0 s1 s2 v0 v1 v2 d0 d1 d2 d3 f0 f1 f2 f3 HS3 HA3 HB3
    obtain ⟨s0, s1, s2, v0, v1, v2⟩ := box_cells S4
    obtain ⟨d0, d1, d2, d3, f0, f1, f2, f3⟩ := four_cells A4
    have HA4 := Lib.hid A4
    have HB4 := Lib.hid B4
    clear S4 A4 B4
    go_region_law (first
      | ((rw [if_pos (by rfl)]; go_simp; go_at_call 26; (refine (CM.out _ _ ?hh).mono ?_); (case hh => exact heap_alloc_new _ _); rintro e W5 ⟨rfl, b5⟩; have b6 : Below W4.heap.size W4 W5 := ((Below.refl _ W4).drew.alloc (by exact Nat.le_refl _) _).trans (b5.mono (by simp)); have a5 := box_below HA4.out b6 (lt_of_block HA4.out); obtain ⟨x0, x1, x2, x3, y0, y1, y2, y3⟩ := four_cells a5; go_simp)))
    all_goals (
      have HA5 := Lib.hid a5
      have HB5 := Lib.hid (HB4.out.trans (b6.mono HB4.out.size))
      clear a5 b5 b6
      go_wp2
      go_ret
      exact ⟨rfl, CkAt.put HA5.out M, kept_put (S := fun i => i = g) (g := g) (Kept.of_below HB5.out) rfl _ _ _⟩)
  | false =>
    have g1 : decide (1000 < s.w - k.r) = false := hX.symm
    clear hX
    go_wp2_with fail
    go_quiet (fail)
    go_wp2_with fail
    have S4 : ((W3.drewN nq).setCell ⟨w.heap.size, 2, none⟩ (.int .i64 k.s.n)).heap[w.heap.size]? = some (.cells #[.int .i64 s.w, .int .i64 s.l, .int .i64 k.s.n] 32 (0, 0)) := heap_setCell_same _ _ 2 _ _ _ (box_drew HS3.out nq)
    have A4 : CkAt ((W3.drewN nq).setCell ⟨w.heap.size, 2, none⟩ (.int .i64 k.s.n)) g k := box_other (box_drew HA3.out nq) _ (by simp; omega) _
    have B4 : Below w.heap.size w ((W3.drewN nq).setCell ⟨w.heap.size, 2, none⟩ (.int .i64 k.s.n)) := (below_drewN HB3.out nq).setCell (Nat.le_refl _) _
    generalize ((W3.drewN nq).setCell ⟨w.heap.size, 2, none⟩ (.int .i64 k.s.n)) = W4 at S4 A4 B4 ⊢
    clear s0 s1 s2 v0 v1 v2 d0 d1 d2 d3 f0 f1 f2 f3 HS3 HA3 HB3
    obtain ⟨s0, s1, s2, v0, v1, v2⟩ := box_cells S4
    obtain ⟨d0, d1, d2, d3, f0, f1, f2, f3⟩ := four_cells A4
    have HA4 := Lib.hid A4
    have HB4 := Lib.hid B4
    clear S4 A4 B4
    go_region_law (first
      | ((rw [if_pos (by rfl)]; go_simp; go_at_call 26; (refine (CM.out _ _ ?hh).mono ?_); (case hh => exact heap_alloc_new _ _); rintro e W5 ⟨rfl, b5⟩; have b6 : Below W4.heap.size W4 W5 := ((Below.refl _ W4).drew.alloc (by exact Nat.le_refl _) _).trans (b5.mono (by simp)); have a5 := box_below HA4.out b6 (lt_of_block HA4.out); obtain ⟨x0, x1, x2, x3, y0, y1, y2, y3⟩ := four_cells a5; go_simp)))
    all_goals (
      have HA5 := Lib.hid a5
      have HB5 := Lib.hid (HB4.out.trans (b6.mono HB4.out.size))
      clear a5 b5 b6
      go_wp2
      go_ret
      exact ⟨rfl, CkAt.put HA5.out M, kept_put (S := fun i => i = g) (g := g) (Kept.of_below HB5.out) rfl _ _ _⟩)

theorem merge_any (g : Nat) (k : Ck) (s : Sm) (w : World) (h : CkAt w g k) (hk : CkOk k) :
    Calls Try.prog 16 #[.pointer (some ⟨g, 0, none⟩), .agg #[.int .i64 s.w, .int .i64 s.l, .int .i64 s.n]] w (CkPost g (mergeC s k) (.int .i64 (mergeE s k)) w) := by
  cases hs : soundB s with
  | false =>
    have e : mergeE s k = 1 := by unfold mergeE; rw [hs]; rfl
    have e2 : mergeC s k = k := by unfold mergeC; rw [e]; rfl
    rw [e, e2]
    exact merge_bad g k s w h hk hs
  | true =>
    cases hd : driftB s k with
    | true =>
      have e : mergeE s k = 6 := by unfold mergeE; rw [hs, hd]; rfl
      have e2 : mergeC s k = k := by unfold mergeC; rw [e]; rfl
      rw [e, e2]
      exact merge_drift g k s w h hk hs hd
    | false =>
      have e : mergeE s k = 0 := by unfold mergeE; rw [hs, hd]; rfl
      have e2 : mergeC s k = ⟨k.r, maxOf [k.s, ⟨s.w, s.l, k.s.n⟩]⟩ := by
        unfold mergeC
        rw [max_node]
        by_cases ha : k.s.w < s.w ∨ (k.s.w = s.w ∧ k.s.l < s.l)
        · rw [if_pos ⟨e, decide_eq_true ha⟩, if_pos ha]
        · rw [if_neg (fun hx => ha (of_decide_eq_true hx.2)), if_neg ha]
      rw [e, e2]
      exact merge_take g k s w h hk hs hd _ rfl

end Go.Proofs.Ytnlpbldpbnlekaa
