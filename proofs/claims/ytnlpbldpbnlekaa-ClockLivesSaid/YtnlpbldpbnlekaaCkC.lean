/-
  Package clock: Tick.
-/
import Derived.Test.YtnlpbldpbnlekaaCkB
set_option linter.unusedVariables false
namespace Go.Proofs.Ytnlpbldpbnlekaa
open Go.RowKit

set_option maxRecDepth 100000 in
theorem tick_nil (w : World) : Calls Try.prog 14 #[.pointer none] w (TelPost (.tuple #[.agg #[.int .i64 0, .int .i64 0, .int .i64 0], .int .i64 1]) w) := by
  have c1 := fun wx => made_nil wx
  obtain ⟨z0, z1, z2, _⟩ := box_cells (heap_alloc_new w (.cells #[.int .i64 0, .int .i64 0, .int .i64 0] 32))
  go_enter Try.func14, Try.ntmps14
  go_wp2_with (go_at_call 23; (with_reducible refine (c1 _).mono ?_); rintro e W ⟨rfl, rfl⟩)
  refine bodyPost_ret (v := .tuple #[.agg #[.int .i64 0, .int .i64 0, .int .i64 0], .int .i64 1]) (by simp [results, Try.results14, go_sem, z0, z1, z2]) rfl ?_
  exact ⟨rfl, (Below.refl _ _).alloc (Nat.le_refl _) _⟩

/-- What Tick leaves. -/
def TickPost (g : Nat) (k : Ck) (w : World) (e : Ending) (w' : World) : Prop :=
  e = .returned (.tuple #[.agg #[.int .i64 (tickS k).w, .int .i64 (tickS k).l, .int .i64 (tickS k).n], .int .i64 (tickE k)]) ∧ CkAt w' g (tickC k) ∧ Kept (fun i => i = g) w w'

set_option maxHeartbeats 4000000 in
set_option maxRecDepth 100000 in
theorem tick_any (g : Nat) (k : Ck) (w : World) (h : CkAt w g k) (hk : CkOk k) :
    Calls Try.prog 14 #[.pointer (some ⟨g, 0, none⟩)] w (TickPost g k w) := by
  have hg := lt_of_block h
  have hA := box_alloc h (.cells #[.int .i64 0, .int .i64 0, .int .i64 0] 32)
  have c1 := made_at g k _ hA hk.n0
  have c2 := next_any g k _ hA hk
  have c3 := fun wx => sound_any (tellS k) wx
  rw [tell_sound hk] at c3
  obtain ⟨s, hs⟩ : ∃ s, s = tellS k := ⟨_, rfl⟩
  have G := Lib.hid (heap_alloc_new w (.cells #[.int .i64 0, .int .i64 0, .int .i64 0] 32))
  have HA := Lib.hid hA
  have HB := Lib.hid ((Below.refl w.heap.size w).alloc (Nat.le_refl _) (.cells #[.int .i64 0, .int .i64 0, .int .i64 0] 32))
  rw [← hs] at c2 c3
  clear h hA
  by_cases ho : overB k = true
  · rw [ho] at c3
    have HS : Hid (tickS k = ⟨0, 0, 0⟩ ∧ tickC k = k ∧ tickE k = 7) := by
      refine ⟨?_, ?_, ?_⟩
      · unfold tickS; rw [if_pos ho]
      · unfold tickC; rw [if_pos ho]
      · unfold tickE; rw [if_pos ho]
    clear ho hs
    unfold TelPost at c2 c3
    go_enter Try.func14, Try.ntmps14
    go_wp2_with (first | (go_at_call 23; (with_reducible refine c1.mono ?_); rintro e W ⟨rfl, rfl⟩) | (go_at_call 24; (with_reducible refine c2.mono ?_)))
    rintro e W2 ⟨rfl, b2⟩
    have HB2 := Lib.hid (HB.out.trans (b2.mono (by simp)))
    have G2 := Lib.hid (box_alloc (box_below G.out b2 (by simp)) (.cells #[.int .i64 s.w, .int .i64 s.l, .int .i64 s.n] 32))
    have S2 := Lib.hid (heap_alloc_new W2 (.cells #[.int .i64 s.w, .int .i64 s.l, .int .i64 s.n] 32))
    have A2 := Lib.hid (box_alloc (box_below HA.out b2 (lt_of_block HA.out)) (.cells #[.int .i64 s.w, .int .i64 s.l, .int .i64 s.n] 32))
    have hz2 : w.heap.size < W2.heap.size := by have := b2.size; simp at this; omega
    clear b2
    go_wp2_with (go_at_call 25; (with_reducible refine (c3 _).mono ?_))
    rintro e W3 ⟨rfl, b3⟩
    have HB3 := Lib.hid ((HB2.out.alloc (by omega) (.cells #[.int .i64 s.w, .int .i64 s.l, .int .i64 s.n] 32)).trans (b3.mono (by simp; omega)))
    have G3 := box_below G2.out b3 (lt_of_block G2.out)
    have S3 := box_below S2.out b3 (lt_of_block S2.out)
    have A3 := box_below A2.out b3 (lt_of_block A2.out)
    clear b3
    obtain ⟨x0, x1, x2, y0, y1, y2⟩ := box_cells G3
    obtain ⟨s0, s1, s2, _⟩ := box_cells S3
    obtain ⟨d0, d1, d2, d3, f0, f1, f2, f3⟩ := four_cells A3
    have HG3 := Lib.hid G3
    have HA3 := Lib.hid A3
    clear G3 S3 A3
    obtain ⟨z0, z1, z2⟩ := end3 HG3.out (.int .i64 0) (.int .i64 0) (.int .i64 0)
    go_wp2
    refine bodyPost_ret (v := .tuple #[.agg #[.int .i64 0, .int .i64 0, .int .i64 0], .int .i64 7]) (by simp [results, Try.results14, go_sem, z0, z1, z2]) rfl ?_
    obtain ⟨e1, e2, e3⟩ := HS.out
    refine ⟨by rw [e1, e3], ?_, (Kept.of_below HB3.out).box (Nat.le_refl _) _ _ _⟩
    rw [e2]
    exact CkAt.box HA3.out (by omega) _ _ _
  · rw [show overB k = false by simpa using ho] at c3
    have HS : Hid (tickS k = s ∧ tickC k = ⟨k.r, s⟩ ∧ tickE k = 0) := by
      refine ⟨?_, ?_, ?_⟩
      · unfold tickS; rw [if_neg ho, hs]
      · unfold tickC; rw [if_neg ho, hs]
      · unfold tickE; rw [if_neg ho]
    clear ho hs
    unfold TelPost at c2 c3
    go_enter Try.func14, Try.ntmps14
    go_wp2_with (first | (go_at_call 23; (with_reducible refine c1.mono ?_); rintro e W ⟨rfl, rfl⟩) | (go_at_call 24; (with_reducible refine c2.mono ?_)))
    rintro e W2 ⟨rfl, b2⟩
    have HB2 := Lib.hid (HB.out.trans (b2.mono (by simp)))
    have G2 := Lib.hid (box_alloc (box_below G.out b2 (by simp)) (.cells #[.int .i64 s.w, .int .i64 s.l, .int .i64 s.n] 32))
    have S2 := Lib.hid (heap_alloc_new W2 (.cells #[.int .i64 s.w, .int .i64 s.l, .int .i64 s.n] 32))
    have A2 := Lib.hid (box_alloc (box_below HA.out b2 (lt_of_block HA.out)) (.cells #[.int .i64 s.w, .int .i64 s.l, .int .i64 s.n] 32))
    have hz2 : w.heap.size < W2.heap.size := by have := b2.size; simp at this; omega
    clear b2
    go_wp2_with (go_at_call 25; (with_reducible refine (c3 _).mono ?_))
    rintro e W3 ⟨rfl, b3⟩
    have HB3 := Lib.hid ((HB2.out.alloc (by omega) (.cells #[.int .i64 s.w, .int .i64 s.l, .int .i64 s.n] 32)).trans (b3.mono (by simp; omega)))
    have G3 := box_below G2.out b3 (lt_of_block G2.out)
    have S3 := box_below S2.out b3 (lt_of_block S2.out)
    have A3 := box_below A2.out b3 (lt_of_block A2.out)
    clear b3
    obtain ⟨x0, x1, x2, y0, y1, y2⟩ := box_cells G3
    obtain ⟨s0, s1, s2, _⟩ := box_cells S3
    obtain ⟨d0, d1, d2, d3, f0, f1, f2, f3⟩ := four_cells A3
    have HG3 := Lib.hid G3
    have HA3 := Lib.hid A3
    clear G3 S3 A3
    have hne : w.heap.size ≠ g := by omega
    have X3 : (((W3.setCell ⟨g, 1, none⟩ (.int .i64 s.w)).setCell ⟨g, 2, none⟩ (.int .i64 s.l)).setCell ⟨g, 3, none⟩ (.int .i64 s.n)).heap[w.heap.size]? = some (.cells #[.int .i64 0, .int .i64 0, .int .i64 0] 32 (0, 0)) := box_other (box_other (box_other HG3.out _ hne _) _ hne _) _ hne _
    obtain ⟨z0, z1, z2⟩ := end3 X3 (.int .i64 s.w) (.int .i64 s.l) (.int .i64 s.n)
    clear X3
    go_wp2
    refine bodyPost_ret (v := .tuple #[.agg #[.int .i64 s.w, .int .i64 s.l, .int .i64 s.n], .int .i64 0]) (by simp [results, Try.results14, go_sem, z0, z1, z2]) rfl ?_
    obtain ⟨e1, e2, e3⟩ := HS.out
    refine ⟨by rw [e1, e3], ?_, (kept_put (S := fun i => i = g) (g := g) (Kept.of_below HB3.out) rfl _ _ _).box (Nat.le_refl _) _ _ _⟩
    rw [e2]
    exact CkAt.box (CkAt.put HA3.out s) (by omega) _ _ _

end Go.Proofs.Ytnlpbldpbnlekaa
