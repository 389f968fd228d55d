/-
  Package clock: Merge.
-/
import Derived.Test.YtnlpbldpbnlekaaCkC
set_option linter.unusedVariables false
namespace Go.Proofs.Ytnlpbldpbnlekaa
open Go.RowKit

theorem sms_two {V : World} {g : Nat} {a b : Sm} {t : TypeId} (h : V.heap[g]? = some (.cells #[.int .i64 a.w, .int .i64 a.l, .int .i64 a.n, .int .i64 b.w, .int .i64 b.l, .int .i64 b.n] t (0, 0))) : SmsIn V (some ⟨g, 0, none⟩) 2 [a, b] := by
  have hc : ∀ i, V.cell? ((⟨g, 0, none⟩ : Addr).add i) = (#[Value.int .i64 a.w, .int .i64 a.l, .int .i64 a.n, .int .i64 b.w, .int .i64 b.l, .int .i64 b.n])[i]? := fun i => by
    have e : (⟨g, 0, none⟩ : Addr).add i = ⟨g, i, none⟩ := by unfold Addr.add; split <;> simp_all
    rw [e, cell_of_row _ _ _ _ _ _ h]
  refine ⟨rfl, .inr ⟨_, rfl, fun i hi => ?_⟩⟩
  rcases i with _ | _ | i
  · exact ⟨hc 0, hc 1, hc 2⟩
  · exact ⟨hc 3, hc 4, hc 5⟩
  · simp at hi; omega
theorem max_two (a b M : Sm) (hM : maxOf [a, b] = M) (V : World) (g : Nat) (h : V.heap[g]? = some (.cells #[.int .i64 a.w, .int .i64 a.l, .int .i64 a.n, .int .i64 b.w, .int .i64 b.l, .int .i64 b.n] 32 (0, 0))) :
    Calls Try.prog 26 #[.slice (some ⟨g, 0, none⟩) 2 2] V (TelPost (.agg #[.int .i64 M.w, .int .i64 M.l, .int .i64 M.n]) V) := by
  subst hM
  exact max_any _ 2 2 _ V (by omega) (sms_two h)
theorem max_node (a : Sm) (x y : Int) : maxOf [a, ⟨x, y, a.n⟩] = if a.w < x ∨ (a.w = x ∧ a.l < y) then ⟨x, y, a.n⟩ else a := by
  have e : maxOf [a, ⟨x, y, a.n⟩] = bif lessB a ⟨x, y, a.n⟩ then ⟨x, y, a.n⟩ else a := rfl
  have e2 : lessB a ⟨x, y, a.n⟩ = decide (a.w < x ∨ (a.w = x ∧ a.l < y)) := by
    unfold lessB
    simp only
    by_cases h1 : a.w = x
    · rw [if_neg (by simpa using h1)]
      by_cases h2 : a.l = y
      · rw [if_neg (by simpa using h2), decide_eq_decide]; omega
      · rw [if_pos h2, decide_eq_decide]; omega
    · rw [if_pos h1, decide_eq_decide]; omega
  rw [e, e2]
  by_cases h : a.w < x ∨ (a.w = x ∧ a.l < y)
  · rw [if_pos h, decide_eq_true h]; rfl
  · rw [if_neg h, decide_eq_false h]; rfl

set_option maxRecDepth 100000 in
theorem merge_nil (s : Sm) (w : World) : Calls Try.prog 16 #[.pointer none, .agg #[.int .i64 s.w, .int .i64 s.l, .int .i64 s.n]] w (TelPost (.int .i64 1) w) := by
  have c1 := fun wx => made_nil wx
  go_enter Try.func16, Try.ntmps16
  go_wp2_with (go_at_call 23; (with_reducible refine (c1 _).mono ?_); rintro e W ⟨rfl, rfl⟩)
  go_ret
  exact ⟨rfl, (Below.refl _ _).alloc (Nat.le_refl _) _⟩

set_option maxHeartbeats 8000000 in
set_option maxRecDepth 100000 in
theorem merge_bad (g : Nat) (k : Ck) (s : Sm) (w : World) (h : CkAt w g k) (hk : CkOk k) (hs : soundB s = false) :
    Calls Try.prog 16 #[.pointer (some ⟨g, 0, none⟩), .agg #[.int .i64 s.w, .int .i64 s.l, .int .i64 s.n]] w (CkPost g k (.int .i64 1) w) := by
  have c1 := made_at g k _ (box_alloc h (.cells #[.int .i64 s.w, .int .i64 s.l, .int .i64 s.n] 32)) hk.n0
  have c2 := fun wx => sound_any s wx
  rw [hs] at c2
  unfold TelPost at c2
  have HA := Lib.hid (box_alloc h (.cells #[.int .i64 s.w, .int .i64 s.l, .int .i64 s.n] 32))
  clear h hs
  go_enter Try.func16, Try.ntmps16
  go_wp2_with (first | (go_at_call 23; (with_reducible refine c1.mono ?_); rintro e W ⟨rfl, rfl⟩) | (go_at_call 25; (with_reducible refine (c2 _).mono ?_); rintro e W3 ⟨rfl, b3⟩))
  go_ret
  exact ⟨rfl, box_below HA.out b3 (lt_of_block HA.out), Kept.of_below (((Below.refl _ w).alloc (Nat.le_refl _) _).trans (b3.mono (by simp)))⟩

set_option maxHeartbeats 8000000 in
set_option maxRecDepth 100000 in
theorem merge_drift (g : Nat) (k : Ck) (s : Sm) (w : World) (h : CkAt w g k) (hk : CkOk k) (hs : soundB s = true) (hd : driftB s k = true) :
    Calls Try.prog 16 #[.pointer (some ⟨g, 0, none⟩), .agg #[.int .i64 s.w, .int .i64 s.l, .int .i64 s.n]] w (CkPost g k (.int .i64 6) w) := by
  have c1 := made_at g k _ (box_alloc h (.cells #[.int .i64 s.w, .int .i64 s.l, .int .i64 s.n] 32)) hk.n0
  have c2 := fun wx => sound_any s wx
  have hs2 := of_decide_eq_true hs
  have hd2 := of_decide_eq_true hd
  obtain ⟨r0, r1, q0, q1, l0, l1, n0, n1⟩ := hk
  rw [hs] at c2
  unfold TelPost at c2
  have GS := Lib.hid (heap_alloc_new w (.cells #[.int .i64 s.w, .int .i64 s.l, .int .i64 s.n] 32))
  have HA := Lib.hid (box_alloc h (.cells #[.int .i64 s.w, .int .i64 s.l, .int .i64 s.n] 32))
  clear h hs hd
  go_enter Try.func16, Try.ntmps16
  go_wp2_with (first | (go_at_call 23; (with_reducible refine c1.mono ?_); rintro e W ⟨rfl, rfl⟩) | (go_at_call 25; (with_reducible refine (c2 _).mono ?_)))
  rintro e W3 ⟨rfl, b3⟩
  have A3 := box_below HA.out b3 (lt_of_block HA.out)
  have S3 := box_below GS.out b3 (lt_of_block GS.out)
  obtain ⟨s0, s1, s2, _⟩ := box_cells S3
  obtain ⟨d0, d1, d2, d3, f0, f1, f2, f3⟩ := four_cells A3
  have HA3 := Lib.hid A3
  have HB3 := Lib.hid (((Below.refl w.heap.size w).alloc (Nat.le_refl _) (.cells #[.int .i64 s.w, .int .i64 s.l, .int .i64 s.n] 32)).trans (b3.mono (by simp)))
  clear A3 S3 b3
  have g1 : decide (1000 < s.w - k.r) = true := decide_eq_true (by omega)
  have g2 : decide (k.s.w < s.w) = true := decide_eq_true (by omega)
  go_wp2_with fail
  go_quiet (fail)
  go_wp2
  go_ret
  exact ⟨rfl, box_drew HA3.out _, Kept.of_below (below_drewN HB3.out _)⟩

end Go.Proofs.Ytnlpbldpbnlekaa
