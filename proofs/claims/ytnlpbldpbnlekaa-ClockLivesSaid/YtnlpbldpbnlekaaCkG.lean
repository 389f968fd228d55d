/-
  The reference's clock: Merge.
-/
import Derived.Test.YtnlpbldpbnlekaaCkF
import Derived.Test.YtnlpbldpbnlekaaCkE
set_option linter.unusedVariables false
namespace Go.Proofs.Ytnlpbldpbnlekaa
open Go.RowKit

set_option maxHeartbeats 4000000 in
set_option maxRecDepth 100000 in
theorem rMerge_bad (g : Nat) (k : Ck) (s : Sm) (w : World) (h : RkAt w g k) (hs : soundB s = false) :
    Calls Try.prog 17 #[.pointer (some ⟨g, 0, none⟩), .agg #[.int .i64 s.w, .int .i64 s.l, .int .i64 s.n]] w (RkPost g k (.int .i64 1) w) := by
  have c2 := fun wx => rSound_any s wx
  rw [hs] at c2
  unfold TelPost at c2
  have HA := Lib.hid (box_alloc h (.cells #[.int .i64 s.w, .int .i64 s.l, .int .i64 s.n] 32))
  clear h hs
  go_enter Try.func17, Try.ntmps17
  go_wp2_with (go_at_call 27; (with_reducible refine (c2 _).mono ?_); rintro e W3 ⟨rfl, b3⟩)
  go_ret
  exact ⟨rfl, box_below HA.out b3 (lt_of_block HA.out), Kept.of_below (((Below.refl _ w).alloc (Nat.le_refl _) _).trans (b3.mono (by simp)))⟩

set_option maxHeartbeats 4000000 in
set_option maxRecDepth 100000 in
theorem rm_drift (g : Nat) (k : Ck) (s : Sm) (w : World) (h : RkAt w g k) (hk : CkOk k) (hs : soundB s = true) (g1 : decide (k.r + 1000 < s.w) = true) (g2 : decide (k.s.w < s.w) = true) :
    Calls Try.prog 17 #[.pointer (some ⟨g, 0, none⟩), .agg #[.int .i64 s.w, .int .i64 s.l, .int .i64 s.n]] w (RkPost g k (.int .i64 6) w) := by
  have c2 := fun wx => rSound_any s wx
  have hs2 := of_decide_eq_true hs
  obtain ⟨r0, r1, q0, q1, l0, l1, n0, n1⟩ := hk
  have hg := lt_of_block h
  rw [hs] at c2
  unfold TelPost at c2
  have GS := Lib.hid (heap_alloc_new w (.cells #[.int .i64 s.w, .int .i64 s.l, .int .i64 s.n] 32))
  have HA := Lib.hid (box_alloc h (.cells #[.int .i64 s.w, .int .i64 s.l, .int .i64 s.n] 32))
  clear h hs
  go_enter Try.func17, Try.ntmps17
  go_wp2_with (go_at_call 27; (with_reducible refine (c2 _).mono ?_))
  rintro e W3 ⟨rfl, b3⟩
  have A3 := box_below HA.out b3 (lt_of_block HA.out)
  have S3 := box_below GS.out b3 (lt_of_block GS.out)
  obtain ⟨s0, s1, s2, v0, v1, v2⟩ := box_cells S3
  obtain ⟨d0, d1, d2, d3, f0, f1, f2, f3⟩ := four_cells A3
  have HA3 := Lib.hid A3
  have HB3 := Lib.hid (((Below.refl w.heap.size w).alloc (Nat.le_refl _) (.cells #[.int .i64 s.w, .int .i64 s.l, .int .i64 s.n] 32)).trans (b3.mono (by simp)))
  clear A3 S3 b3
  go_wp2_with fail
  go_quiet (fail)
  go_wp2
  go_ret
  exact ⟨rfl, by first | exact box_drew HA3.out _ | exact box_drew (box_drew HA3.out _) _, Kept.of_below (by first | exact below_drewN HB3.out _ | exact below_drewN (below_drewN HB3.out _) _)⟩

set_option maxHeartbeats 4000000 in
set_option maxRecDepth 100000 in
theorem rm_tk1 (g : Nat) (k : Ck) (s : Sm) (w : World) (h : RkAt w g k) (hk : CkOk k) (hs : soundB s = true) (g1 : decide (k.r + 1000 < s.w) = false) (g2 : decide (k.s.w < s.w) = true) :
    Calls Try.prog 17 #[.pointer (some ⟨g, 0, none⟩), .agg #[.int .i64 s.w, .int .i64 s.l, .int .i64 s.n]] w (RkPost g ⟨k.r, ⟨s.w, s.l, k.s.n⟩⟩ (.int .i64 0) w) := by
  have c2 := fun wx => rSound_any s wx
  have hs2 := of_decide_eq_true hs
  obtain ⟨r0, r1, q0, q1, l0, l1, n0, n1⟩ := hk
  have hg := lt_of_block h
  rw [hs] at c2
  unfold TelPost at c2
  have GS := Lib.hid (heap_alloc_new w (.cells #[.int .i64 s.w, .int .i64 s.l, .int .i64 s.n] 32))
  have HA := Lib.hid (box_alloc h (.cells #[.int .i64 s.w, .int .i64 s.l, .int .i64 s.n] 32))
  clear h hs
  go_enter Try.func17, Try.ntmps17
  go_wp2_with (go_at_call 27; (with_reducible refine (c2 _).mono ?_))
  rintro e W3 ⟨rfl, b3⟩
  have A3 := box_below HA.out b3 (lt_of_block HA.out)
  have S3 := box_below GS.out b3 (lt_of_block GS.out)
  obtain ⟨s0, s1, s2, v0, v1, v2⟩ := box_cells S3
  obtain ⟨d0, d1, d2, d3, f0, f1, f2, f3⟩ := four_cells A3
  have HA3 := Lib.hid A3
  have HB3 := Lib.hid (((Below.refl w.heap.size w).alloc (Nat.le_refl _) (.cells #[.int .i64 s.w, .int .i64 s.l, .int .i64 s.n] 32)).trans (b3.mono (by simp)))
  clear A3 S3 b3
  go_wp2_with fail
  go_quiet (fail)
  go_wp2_with fail
  go_quiet (fail)
  go_wp2
  go_ret
  exact ⟨rfl, RkAt.put (w := W3.drewN _) HA3.out s.w s.l, ((Kept.of_below (S := fun i => i = g) (below_drewN HB3.out _)).setCell (p := ⟨g, 1, none⟩) (fun _ => rfl) _).setCell (p := ⟨g, 2, none⟩) (fun _ => rfl) _⟩

set_option maxHeartbeats 4000000 in
set_option maxRecDepth 100000 in
theorem rm_tk2 (g : Nat) (k : Ck) (s : Sm) (w : World) (h : RkAt w g k) (hk : CkOk k) (hs : soundB s = true) (g1 : decide (k.r + 1000 < s.w) = true) (g2 : decide (k.s.w < s.w) = false) (g3 : (s.w == k.s.w) = true) (g4 : decide (k.s.l < s.l) = true) :
    Calls Try.prog 17 #[.pointer (some ⟨g, 0, none⟩), .agg #[.int .i64 s.w, .int .i64 s.l, .int .i64 s.n]] w (RkPost g ⟨k.r, ⟨s.w, s.l, k.s.n⟩⟩ (.int .i64 0) w) := by
  have c2 := fun wx => rSound_any s wx
  have hs2 := of_decide_eq_true hs
  obtain ⟨r0, r1, q0, q1, l0, l1, n0, n1⟩ := hk
  have hg := lt_of_block h
  rw [hs] at c2
  unfold TelPost at c2
  have GS := Lib.hid (heap_alloc_new w (.cells #[.int .i64 s.w, .int .i64 s.l, .int .i64 s.n] 32))
  have HA := Lib.hid (box_alloc h (.cells #[.int .i64 s.w, .int .i64 s.l, .int .i64 s.n] 32))
  clear h hs
  go_enter Try.func17, Try.ntmps17
  go_wp2_with (go_at_call 27; (with_reducible refine (c2 _).mono ?_))
  rintro e W3 ⟨rfl, b3⟩
  have A3 := box_below HA.out b3 (lt_of_block HA.out)
  have S3 := box_below GS.out b3 (lt_of_block GS.out)
  obtain ⟨s0, s1, s2, v0, v1, v2⟩ := box_cells S3
  obtain ⟨d0, d1, d2, d3, f0, f1, f2, f3⟩ := four_cells A3
  have HA3 := Lib.hid A3
  have HB3 := Lib.hid (((Below.refl w.heap.size w).alloc (Nat.le_refl _) (.cells #[.int .i64 s.w, .int .i64 s.l, .int .i64 s.n] 32)).trans (b3.mono (by simp)))
  clear A3 S3 b3
  go_wp2_with fail
  go_quiet (fail)
  go_wp2_with fail
  go_quiet (fail)
  go_wp2
  go_ret
  exact ⟨rfl, RkAt.put (w := W3.drewN _) HA3.out s.w s.l, ((Kept.of_below (S := fun i => i = g) (below_drewN HB3.out _)).setCell (p := ⟨g, 1, none⟩) (fun _ => rfl) _).setCell (p := ⟨g, 2, none⟩) (fun _ => rfl) _⟩

set_option maxHeartbeats 4000000 in
set_option maxRecDepth 100000 in
theorem rm_kp1 (g : Nat) (k : Ck) (s : Sm) (w : World) (h : RkAt w g k) (hk : CkOk k) (hs : soundB s = true) (g1 : decide (k.r + 1000 < s.w) = true) (g2 : decide (k.s.w < s.w) = false) (g3 : (s.w == k.s.w) = true) (g4 : decide (k.s.l < s.l) = false) :
    Calls Try.prog 17 #[.pointer (some ⟨g, 0, none⟩), .agg #[.int .i64 s.w, .int .i64 s.l, .int .i64 s.n]] w (RkPost g k (.int .i64 0) w) := by
  have c2 := fun wx => rSound_any s wx
  have hs2 := of_decide_eq_true hs
  obtain ⟨r0, r1, q0, q1, l0, l1, n0, n1⟩ := hk
  have hg := lt_of_block h
  rw [hs] at c2
  unfold TelPost at c2
  have GS := Lib.hid (heap_alloc_new w (.cells #[.int .i64 s.w, .int .i64 s.l, .int .i64 s.n] 32))
  have HA := Lib.hid (box_alloc h (.cells #[.int .i64 s.w, .int .i64 s.l, .int .i64 s.n] 32))
  clear h hs
  go_enter Try.func17, Try.ntmps17
  go_wp2_with (go_at_call 27; (with_reducible refine (c2 _).mono ?_))
  rintro e W3 ⟨rfl, b3⟩
  have A3 := box_below HA.out b3 (lt_of_block HA.out)
  have S3 := box_below GS.out b3 (lt_of_block GS.out)
  obtain ⟨s0, s1, s2, v0, v1, v2⟩ := box_cells S3
  obtain ⟨d0, d1, d2, d3, f0, f1, f2, f3⟩ := four_cells A3
  have HA3 := Lib.hid A3
  have HB3 := Lib.hid (((Below.refl w.heap.size w).alloc (Nat.le_refl _) (.cells #[.int .i64 s.w, .int .i64 s.l, .int .i64 s.n] 32)).trans (b3.mono (by simp)))
  clear A3 S3 b3
  go_wp2_with fail
  go_quiet (fail)
  go_wp2_with fail
  go_quiet (fail)
  go_wp2
  go_ret
  exact ⟨rfl, by first | exact box_drew HA3.out _ | exact box_drew (box_drew HA3.out _) _, Kept.of_below (by first | exact below_drewN HB3.out _ | exact below_drewN (below_drewN HB3.out _) _)⟩

set_option maxHeartbeats 4000000 in
set_option maxRecDepth 100000 in
theorem rm_kp2 (g : Nat) (k : Ck) (s : Sm) (w : World) (h : RkAt w g k) (hk : CkOk k) (hs : soundB s = true) (g1 : decide (k.r + 1000 < s.w) = true) (g2 : decide (k.s.w < s.w) = false) (g3 : (s.w == k.s.w) = false) :
    Calls Try.prog 17 #[.pointer (some ⟨g, 0, none⟩), .agg #[.int .i64 s.w, .int .i64 s.l, .int .i64 s.n]] w (RkPost g k (.int .i64 0) w) := by
  have c2 := fun wx => rSound_any s wx
  have hs2 := of_decide_eq_true hs
  obtain ⟨r0, r1, q0, q1, l0, l1, n0, n1⟩ := hk
  have hg := lt_of_block h
  rw [hs] at c2
  unfold TelPost at c2
  have GS := Lib.hid (heap_alloc_new w (.cells #[.int .i64 s.w, .int .i64 s.l, .int .i64 s.n] 32))
  have HA := Lib.hid (box_alloc h (.cells #[.int .i64 s.w, .int .i64 s.l, .int .i64 s.n] 32))
  clear h hs
  go_enter Try.func17, Try.ntmps17
  go_wp2_with (go_at_call 27; (with_reducible refine (c2 _).mono ?_))
  rintro e W3 ⟨rfl, b3⟩
  have A3 := box_below HA.out b3 (lt_of_block HA.out)
  have S3 := box_below GS.out b3 (lt_of_block GS.out)
  obtain ⟨s0, s1, s2, v0, v1, v2⟩ := box_cells S3
  obtain ⟨d0, d1, d2, d3, f0, f1, f2, f3⟩ := four_cells A3
  have HA3 := Lib.hid A3
  have HB3 := Lib.hid (((Below.refl w.heap.size w).alloc (Nat.le_refl _) (.cells #[.int .i64 s.w, .int .i64 s.l, .int .i64 s.n] 32)).trans (b3.mono (by simp)))
  clear A3 S3 b3
  go_wp2_with fail
  go_quiet (fail)
  go_wp2_with fail
  go_quiet (fail)
  go_wp2
  go_ret
  exact ⟨rfl, by first | exact box_drew HA3.out _ | exact box_drew (box_drew HA3.out _) _, Kept.of_below (by first | exact below_drewN HB3.out _ | exact below_drewN (below_drewN HB3.out _) _)⟩

set_option maxHeartbeats 4000000 in
set_option maxRecDepth 100000 in
theorem rm_tk3 (g : Nat) (k : Ck) (s : Sm) (w : World) (h : RkAt w g k) (hk : CkOk k) (hs : soundB s = true) (g1 : decide (k.r + 1000 < s.w) = false) (g2 : decide (k.s.w < s.w) = false) (g3 : (s.w == k.s.w) = true) (g4 : decide (k.s.l < s.l) = true) :
    Calls Try.prog 17 #[.pointer (some ⟨g, 0, none⟩), .agg #[.int .i64 s.w, .int .i64 s.l, .int .i64 s.n]] w (RkPost g ⟨k.r, ⟨s.w, s.l, k.s.n⟩⟩ (.int .i64 0) w) := by
  have c2 := fun wx => rSound_any s wx
  have hs2 := of_decide_eq_true hs
  obtain ⟨r0, r1, q0, q1, l0, l1, n0, n1⟩ := hk
  have hg := lt_of_block h
  rw [hs] at c2
  unfold TelPost at c2
  have GS := Lib.hid (heap_alloc_new w (.cells #[.int .i64 s.w, .int .i64 s.l, .int .i64 s.n] 32))
  have HA := Lib.hid (box_alloc h (.cells #[.int .i64 s.w, .int .i64 s.l, .int .i64 s.n] 32))
  clear h hs
  go_enter Try.func17, Try.ntmps17
  go_wp2_with (go_at_call 27; (with_reducible refine (c2 _).mono ?_))
  rintro e W3 ⟨rfl, b3⟩
  have A3 := box_below HA.out b3 (lt_of_block HA.out)
  have S3 := box_below GS.out b3 (lt_of_block GS.out)
  obtain ⟨s0, s1, s2, v0, v1, v2⟩ := box_cells S3
  obtain ⟨d0, d1, d2, d3, f0, f1, f2, f3⟩ := four_cells A3
  have HA3 := Lib.hid A3
  have HB3 := Lib.hid (((Below.refl w.heap.size w).alloc (Nat.le_refl _) (.cells #[.int .i64 s.w, .int .i64 s.l, .int .i64 s.n] 32)).trans (b3.mono (by simp)))
  clear A3 S3 b3
  go_wp2_with fail
  go_quiet (fail)
  go_wp2_with fail
  go_quiet (fail)
  go_wp2
  go_ret
  exact ⟨rfl, RkAt.put (w := W3.drewN _) HA3.out s.w s.l, ((Kept.of_below (S := fun i => i = g) (below_drewN HB3.out _)).setCell (p := ⟨g, 1, none⟩) (fun _ => rfl) _).setCell (p := ⟨g, 2, none⟩) (fun _ => rfl) _⟩

set_option maxHeartbeats 4000000 in
set_option maxRecDepth 100000 in
theorem rm_kp3 (g : Nat) (k : Ck) (s : Sm) (w : World) (h : RkAt w g k) (hk : CkOk k) (hs : soundB s = true) (g1 : decide (k.r + 1000 < s.w) = false) (g2 : decide (k.s.w < s.w) = false) (g3 : (s.w == k.s.w) = true) (g4 : decide (k.s.l < s.l) = false) :
    Calls Try.prog 17 #[.pointer (some ⟨g, 0, none⟩), .agg #[.int .i64 s.w, .int .i64 s.l, .int .i64 s.n]] w (RkPost g k (.int .i64 0) w) := by
  have c2 := fun wx => rSound_any s wx
  have hs2 := of_decide_eq_true hs
  obtain ⟨r0, r1, q0, q1, l0, l1, n0, n1⟩ := hk
  have hg := lt_of_block h
  rw [hs] at c2
  unfold TelPost at c2
  have GS := Lib.hid (heap_alloc_new w (.cells #[.int .i64 s.w, .int .i64 s.l, .int .i64 s.n] 32))
  have HA := Lib.hid (box_alloc h (.cells #[.int .i64 s.w, .int .i64 s.l, .int .i64 s.n] 32))
  clear h hs
  go_enter Try.func17, Try.ntmps17
  go_wp2_with (go_at_call 27; (with_reducible refine (c2 _).mono ?_))
  rintro e W3 ⟨rfl, b3⟩
  have A3 := box_below HA.out b3 (lt_of_block HA.out)
  have S3 := box_below GS.out b3 (lt_of_block GS.out)
  obtain ⟨s0, s1, s2, v0, v1, v2⟩ := box_cells S3
  obtain ⟨d0, d1, d2, d3, f0, f1, f2, f3⟩ := four_cells A3
  have HA3 := Lib.hid A3
  have HB3 := Lib.hid (((Below.refl w.heap.size w).alloc (Nat.le_refl _) (.cells #[.int .i64 s.w, .int .i64 s.l, .int .i64 s.n] 32)).trans (b3.mono (by simp)))
  clear A3 S3 b3
  go_wp2_with fail
  go_quiet (fail)
  go_wp2_with fail
  go_quiet (fail)
  go_wp2
  go_ret
  exact ⟨rfl, by first | exact box_drew HA3.out _ | exact box_drew (box_drew HA3.out _) _, Kept.of_below (by first | exact below_drewN HB3.out _ | exact below_drewN (below_drewN HB3.out _) _)⟩

set_option maxHeartbeats 4000000 in
set_option maxRecDepth 100000 in
theorem rm_kp4 (g : Nat) (k : Ck) (s : Sm) (w : World) (h : RkAt w g k) (hk : CkOk k) (hs : soundB s = true) (g1 : decide (k.r + 1000 < s.w) = false) (g2 : decide (k.s.w < s.w) = false) (g3 : (s.w == k.s.w) = false) :
    Calls Try.prog 17 #[.pointer (some ⟨g, 0, none⟩), .agg #[.int .i64 s.w, .int .i64 s.l, .int .i64 s.n]] w (RkPost g k (.int .i64 0) w) := by
  have c2 := fun wx => rSound_any s wx
  have hs2 := of_decide_eq_true hs
  obtain ⟨r0, r1, q0, q1, l0, l1, n0, n1⟩ := hk
  have hg := lt_of_block h
  rw [hs] at c2
  unfold TelPost at c2
  have GS := Lib.hid (heap_alloc_new w (.cells #[.int .i64 s.w, .int .i64 s.l, .int .i64 s.n] 32))
  have HA := Lib.hid (box_alloc h (.cells #[.int .i64 s.w, .int .i64 s.l, .int .i64 s.n] 32))
  clear h hs
  go_enter Try.func17, Try.ntmps17
  go_wp2_with (go_at_call 27; (with_reducible refine (c2 _).mono ?_))
  rintro e W3 ⟨rfl, b3⟩
  have A3 := box_below HA.out b3 (lt_of_block HA.out)
  have S3 := box_below GS.out b3 (lt_of_block GS.out)
  obtain ⟨s0, s1, s2, v0, v1, v2⟩ := box_cells S3
  obtain ⟨d0, d1, d2, d3, f0, f1, f2, f3⟩ := four_cells A3
  have HA3 := Lib.hid A3
  have HB3 := Lib.hid (((Below.refl w.heap.size w).alloc (Nat.le_refl _) (.cells #[.int .i64 s.w, .int .i64 s.l, .int .i64 s.n] 32)).trans (b3.mono (by simp)))
  clear A3 S3 b3
  go_wp2_with fail
  go_quiet (fail)
  go_wp2_with fail
  go_quiet (fail)
  go_wp2
  go_ret
  exact ⟨rfl, by first | exact box_drew HA3.out _ | exact box_drew (box_drew HA3.out _) _, Kept.of_below (by first | exact below_drewN HB3.out _ | exact below_drewN (below_drewN HB3.out _) _)⟩

theorem rMerge_any (g : Nat) (k : Ck) (s : Sm) (w : World) (h : RkAt w g k) (hk : CkOk k) :
    Calls Try.prog 17 #[.pointer (some ⟨g, 0, none⟩), .agg #[.int .i64 s.w, .int .i64 s.l, .int .i64 s.n]] w (RkPost g (mergeC s k) (.int .i64 (mergeE s k)) w) := by
  cases hs : soundB s with
  | false =>
    have e : mergeE s k = 1 := by unfold mergeE; rw [hs]; rfl
    have e2 : mergeC s k = k := by unfold mergeC; rw [e]; rfl
    rw [e, e2]
    exact rMerge_bad g k s w h hs
  | true =>
    have keep : mergeE s k = 0 → ¬ (k.s.w < s.w ∨ (k.s.w = s.w ∧ k.s.l < s.l)) → mergeC s k = k := fun e hn => by
      unfold mergeC; rw [if_neg (fun hx => hn (of_decide_eq_true hx.2))]
    have take : mergeE s k = 0 → (k.s.w < s.w ∨ (k.s.w = s.w ∧ k.s.l < s.l)) → mergeC s k = ⟨k.r, ⟨s.w, s.l, k.s.n⟩⟩ := fun e hn => by
      unfold mergeC; rw [if_pos ⟨e, decide_eq_true hn⟩]
    by_cases h1 : k.r + 1000 < s.w <;> by_cases h2 : k.s.w < s.w
    · have hd : driftB s k = true := decide_eq_true ⟨h1, h2⟩
      have e : mergeE s k = 6 := by unfold mergeE; rw [hs, hd]; rfl
      have e2 : mergeC s k = k := by unfold mergeC; rw [e]; rfl
      rw [e, e2]
      exact rm_drift g k s w h hk hs (decide_eq_true h1) (decide_eq_true h2)
    · have hd : driftB s k = false := decide_eq_false (fun x => h2 x.2)
      have e : mergeE s k = 0 := by unfold mergeE; rw [hs, hd]; rfl
      by_cases h3 : s.w = k.s.w
      · by_cases h4 : k.s.l < s.l
        · rw [take e (.inr ⟨h3.symm, h4⟩), e]
          exact rm_tk2 g k s w h hk hs (decide_eq_true h1) (decide_eq_false h2) (by simpa using h3) (decide_eq_true h4)
        · rw [keep e (by omega), e]
          exact rm_kp1 g k s w h hk hs (decide_eq_true h1) (decide_eq_false h2) (by simpa using h3) (decide_eq_false h4)
      · rw [keep e (by omega), e]
        exact rm_kp2 g k s w h hk hs (decide_eq_true h1) (decide_eq_false h2) (by simpa using h3)
    · have hd : driftB s k = false := decide_eq_false (fun x => h1 x.1)
      have e : mergeE s k = 0 := by unfold mergeE; rw [hs, hd]; rfl
      rw [take e (.inl h2), e]
      exact rm_tk1 g k s w h hk hs (decide_eq_false h1) (decide_eq_true h2)
    · have hd : driftB s k = false := decide_eq_false (fun x => h1 x.1)
      have e : mergeE s k = 0 := by unfold mergeE; rw [hs, hd]; rfl
      by_cases h3 : s.w = k.s.w
      · by_cases h4 : k.s.l < s.l
        · rw [take e (.inr ⟨h3.symm, h4⟩), e]
          exact rm_tk3 g k s w h hk hs (decide_eq_false h1) (decide_eq_false h2) (by simpa using h3) (decide_eq_true h4)
        · rw [keep e (by omega), e]
          exact rm_kp3 g k s w h hk hs (decide_eq_false h1) (decide_eq_false h2) (by simpa using h3) (decide_eq_false h4)
      · rw [keep e (by omega), e]
        exact rm_kp4 g k s w h hk hs (decide_eq_false h1) (decide_eq_false h2) (by simpa using h3)

end Go.Proofs.Ytnlpbldpbnlekaa
