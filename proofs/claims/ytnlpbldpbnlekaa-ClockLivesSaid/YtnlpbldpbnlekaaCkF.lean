/-
  The reference's clock.
-/
import Derived.Test.YtnlpbldpbnlekaaCkB
set_option linter.unusedVariables false
namespace Go.Proofs.Ytnlpbldpbnlekaa
open Go.RowKit

/-- The reference's clock as it lies. -/
def RkAt (w : World) (g : Nat) (k : Ck) : Prop := w.heap[g]? = some (.cells #[.int .i64 k.s.n, .int .i64 k.s.w, .int .i64 k.s.l, .int .i64 k.r] 45 (0, 0))
theorem RkAt.kept {w w' : World} {g : Nat} {k : Ck} {S : Nat → Prop} (h : RkAt w g k) (hk : Kept S w w') (hs : ¬ S g) : RkAt w' g k := (hk.block g (lt_of_block h) hs).trans h
theorem RkAt.later {w w' : World} {g : Nat} {k : Ck} (h : RkAt w g k) (hb : Below w.heap.size w w') : RkAt w' g k := (hb.block g (lt_of_block h)).trans h
def RkPost (g : Nat) (k : Ck) (v : Value) (w : World) (e : Ending) (w' : World) : Prop := e = .returned v ∧ RkAt w' g k ∧ Kept (fun i => i = g) w w'

/-- What NewClock leaves. -/
def RNewPost (node floor : Int) (w : World) (e : Ending) (w' : World) : Prop :=
  e = .returned (.tuple #[.pointer (some ⟨w.heap.size, 0, none⟩), .int .i64 0]) ∧ RkAt w' w.heap.size (newC node floor) ∧ Below w.heap.size w w'
set_option maxRecDepth 100000 in
theorem rNew_yes (node floor : Int) (h : newB node floor = true) (w : World) : Calls Try.prog 11 #[.int .i64 node, .int .i64 floor] w (RNewPost node floor w) := by
  have h2 := of_decide_eq_true h
  obtain ⟨h3, h4, h5, h6⟩ := h2
  have G := Lib.hid (heap_alloc_new w (.cells #[.int .i64 node, .int .i64 floor, .int .i64 0, .int .i64 0] 45))
  clear h
  go_enter Try.func11, Try.ntmps11
  go_wp2
  refine bodyPost_ret (v := .tuple #[.pointer (some ⟨w.heap.size, 0, none⟩), .int .i64 0]) (by simp [results, Try.results11, go_sem]) rfl ?_
  exact ⟨rfl, G.out, (Below.refl _ w).alloc (Nat.le_refl _) _⟩
set_option maxRecDepth 100000 in
theorem rNew_no (node floor : Int) (h : newB node floor = false) (w : World) : Calls Try.prog 11 #[.int .i64 node, .int .i64 floor] w fun e w' => e = .returned (.tuple #[.pointer none, .int .i64 1]) ∧ w = w' := by
  have h2 := of_decide_eq_false h
  clear h
  by_cases h3 : 1 ≤ node
  · by_cases h4 : node ≤ 5
    · by_cases h5 : 0 ≤ floor
      · have h6 : ¬ floor ≤ 1125899906842624 := fun h6 => h2 ⟨h3, h4, h5, h6⟩
        clear h2
        go_enter Try.func11, Try.ntmps11
        go_wp2
        refine bodyPost_ret (v := .tuple #[.pointer none, .int .i64 1]) (by simp [results, Try.results11, go_sem]) rfl ?_
        exact ⟨rfl, rfl⟩
      · clear h2
        go_enter Try.func11, Try.ntmps11
        go_wp2
        refine bodyPost_ret (v := .tuple #[.pointer none, .int .i64 1]) (by simp [results, Try.results11, go_sem]) rfl ?_
        exact ⟨rfl, rfl⟩
    · clear h2
      go_enter Try.func11, Try.ntmps11
      go_wp2
      refine bodyPost_ret (v := .tuple #[.pointer none, .int .i64 1]) (by simp [results, Try.results11, go_sem]) rfl ?_
      exact ⟨rfl, rfl⟩
  · clear h2
    go_enter Try.func11, Try.ntmps11
    go_wp2
    refine bodyPost_ret (v := .tuple #[.pointer none, .int .i64 1]) (by simp [results, Try.results11, go_sem]) rfl ?_
    exact ⟨rfl, rfl⟩

set_option maxRecDepth 100000 in
theorem rRead_any (g : Nat) (k : Ck) (n : Int) (w : World) (h : RkAt w g k) (hk : CkOk k) : Calls Try.prog 13 #[.pointer (some ⟨g, 0, none⟩), .int .i64 n] w (RkPost g (readC n k) (.tuple #[]) w) := by
  obtain ⟨d0, d1, d2, d3, f0, f1, f2, f3⟩ := four_cells h
  have r0 := hk.r0
  have H := Lib.hid h
  clear h
  by_cases h1 : k.r < n
  · by_cases h2 : n ≤ 1125899906842624
    · have HR : Hid (readC n k = ⟨n, k.s⟩) := by
        show _ = _
        unfold readC
        rw [if_pos (show wallB n = true from decide_eq_true (show 0 ≤ n ∧ n ≤ 1125899906842624 by omega)), show max k.r n = n by omega]
      go_enter Try.func13, Try.ntmps13
      go_wp2
      refine bodyPost_end (v := .tuple #[]) ?_ ?_ ?_
      · simp [results, Try.results13, go_sem]
      · rfl
      · refine ⟨rfl, ?_, Kept.setCell (Kept.refl (fun i => i = g) w) (fun _ => rfl) _⟩
        rw [HR.out]
        exact heap_setCell_same _ g 3 _ _ _ H.out
    · have HR : Hid (readC n k = k) := by
        show _ = _
        unfold readC wallB
        rw [decide_eq_false (show ¬ (0 ≤ n ∧ n ≤ 1125899906842624) by omega)]
        rfl
      go_enter Try.func13, Try.ntmps13
      go_wp2
      refine bodyPost_end (v := .tuple #[]) ?_ ?_ ?_
      · simp [results, Try.results13, go_sem]
      · rfl
      · refine ⟨rfl, ?_, Kept.refl _ _⟩
        rw [HR.out]
        exact H.out
  · have HR : Hid (readC n k = k) := by
      show _ = _
      unfold readC
      split
      · rw [show max k.r n = k.r by omega]
      · rfl
    go_enter Try.func13, Try.ntmps13
    go_wp2
    refine bodyPost_end (v := .tuple #[]) ?_ ?_ ?_
    · simp [results, Try.results13, go_sem]
    · rfl
    · refine ⟨rfl, ?_, Kept.refl _ _⟩
      rw [HR.out]
      exact H.out

theorem RkAt.put {w : World} {g : Nat} {k : Ck} (h : RkAt w g k) (x y : Int) :
    RkAt ((w.setCell ⟨g, 1, none⟩ (.int .i64 x)).setCell ⟨g, 2, none⟩ (.int .i64 y)) g ⟨k.r, ⟨x, y, k.s.n⟩⟩ :=
  heap_setCell_same _ g 2 _ _ _ (heap_setCell_same _ g 1 _ _ _ h)

set_option maxHeartbeats 4000000 in
set_option maxRecDepth 100000 in
theorem rNow_any (g : Nat) (k : Ck) (w : World) (h : RkAt w g k) : Calls Try.prog 19 #[.pointer (some ⟨g, 0, none⟩)] w (TelPost (.agg #[.int .i64 k.s.w, .int .i64 k.s.l, .int .i64 k.s.n]) w) := by
  obtain ⟨d0, d1, d2, d3, f0, f1, f2, f3⟩ := four_cells h
  have hg := lt_of_block h
  obtain ⟨z0, z1, z2, _⟩ := box_cells (heap_alloc_new w (.cells #[.int .i64 k.s.w, .int .i64 k.s.l, .int .i64 k.s.n] 32))
  clear h
  go_enter Try.func19, Try.ntmps19
  go_wp2_with fail
  go_region
  go_wp2
  refine bodyPost_ret (v := .agg #[.int .i64 k.s.w, .int .i64 k.s.l, .int .i64 k.s.n]) (by simp [results, Try.results19, go_sem, z0, z1, z2]) rfl ?_
  exact ⟨rfl, ((Below.refl _ _).alloc (Nat.le_refl _) _).drew⟩

/-- What Tick leaves. -/
def RTickPost (g : Nat) (k : Ck) (w : World) (e : Ending) (w' : World) : Prop :=
  e = .returned (.tuple #[.agg #[.int .i64 (tickS k).w, .int .i64 (tickS k).l, .int .i64 (tickS k).n], .int .i64 (tickE k)]) ∧ RkAt w' g (tickC k) ∧ Kept (fun i => i = g) w w'

set_option maxHeartbeats 8000000 in
set_option maxRecDepth 100000 in
theorem rTick_any (g : Nat) (k : Ck) (w : World) (h : RkAt w g k) (hk : CkOk k) :
    Calls Try.prog 15 #[.pointer (some ⟨g, 0, none⟩)] w (RTickPost g k w) := by
  have hg := lt_of_block h
  obtain ⟨d0, d1, d2, d3, f0, f1, f2, f3⟩ := four_cells h
  obtain ⟨r0, r1, q0, q1, l0, l1, n0, n1⟩ := hk
  have G := Lib.hid (heap_alloc_new w (.cells #[.int .i64 0, .int .i64 0, .int .i64 0] 32))
  have HA := Lib.hid (show RkAt (w.alloc (.cells #[.int .i64 0, .int .i64 0, .int .i64 0] 32)) g k from box_alloc h _)
  have HB := Lib.hid ((Below.refl w.heap.size w).alloc (Nat.le_refl _) (.cells #[.int .i64 0, .int .i64 0, .int .i64 0] 32))
  have hne : w.heap.size ≠ g := by omega
  clear h
  by_cases hw : k.s.w < k.r
  · have HT : Hid (tickS k = ⟨k.r, 0, k.s.n⟩ ∧ tickC k = ⟨k.r, ⟨k.r, 0, k.s.n⟩⟩ ∧ tickE k = 0) := by
      have ho : ¬ overB k = true := fun e => (of_decide_eq_true e).1 hw
      have ht : tellS k = ⟨k.r, 0, k.s.n⟩ := by unfold tellS; rw [if_pos hw]
      refine ⟨?_, ?_, ?_⟩
      · unfold tickS; rw [if_neg ho, ht]
      · unfold tickC; rw [if_neg ho, ht]
      · unfold tickE; rw [if_neg ho]
    go_enter Try.func15, Try.ntmps15
    go_wp2_with fail
    go_quiet (fail)
    go_wp2
    obtain ⟨z0, z1, z2⟩ := end3 (box_other (box_other (box_drew G.out nq) ⟨g, 1, none⟩ hne (.int .i64 k.r)) ⟨g, 2, none⟩ hne (.int .i64 0)) (.int .i64 k.r) (.int .i64 0) (.int .i64 k.s.n)
    refine bodyPost_ret (v := .tuple #[.agg #[.int .i64 k.r, .int .i64 0, .int .i64 k.s.n], .int .i64 0]) (by simp [results, Try.results15, go_sem, z0, z1, z2]) rfl ?_
    obtain ⟨e1, e2, e3⟩ := HT.out
    refine ⟨by rw [e1, e3], ?_, (((Kept.of_below (S := fun i => i = g) (below_drewN HB.out nq)).setCell (p := ⟨g, 1, none⟩) (fun _ => rfl) _).setCell (p := ⟨g, 2, none⟩) (fun _ => rfl) _).box (Nat.le_refl _) _ _ _⟩
    rw [e2]
    exact box_other (box_other (box_other (RkAt.put (w := (w.alloc _).drewN nq) HA.out k.r 0) _ hne.symm _) _ hne.symm _) _ hne.symm _
  · have ht : tellS k = ⟨k.s.w, k.s.l + 1, k.s.n⟩ := by unfold tellS; rw [if_neg hw]
    by_cases hl : k.s.l = 65535
    · have HT : Hid (tickS k = ⟨0, 0, 0⟩ ∧ tickC k = k ∧ tickE k = 7) := by
        have ho : overB k = true := decide_eq_true ⟨hw, hl⟩
        refine ⟨?_, ?_, ?_⟩
        · unfold tickS; rw [if_pos ho]
        · unfold tickC; rw [if_pos ho]
        · unfold tickE; rw [if_pos ho]
      clear ht
      go_enter Try.func15, Try.ntmps15
      go_wp2_with fail
      go_quiet (fail)
      go_wp2
      obtain ⟨z0, z1, z2⟩ := end3 (box_drew G.out nq) (.int .i64 0) (.int .i64 0) (.int .i64 0)
      refine bodyPost_ret (v := .tuple #[.agg #[.int .i64 0, .int .i64 0, .int .i64 0], .int .i64 7]) (by simp [results, Try.results15, go_sem, z0, z1, z2]) rfl ?_
      obtain ⟨e1, e2, e3⟩ := HT.out
      refine ⟨by rw [e1, e3], ?_, (Kept.of_below (S := fun i => i = g) (below_drewN HB.out nq)).box (Nat.le_refl _) _ _ _⟩
      rw [e2]
      exact box_other (box_other (box_other (box_drew HA.out nq) _ hne.symm _) _ hne.symm _) _ hne.symm _
    · have HT : Hid (tickS k = ⟨k.s.w, k.s.l + 1, k.s.n⟩ ∧ tickC k = ⟨k.r, ⟨k.s.w, k.s.l + 1, k.s.n⟩⟩ ∧ tickE k = 0) := by
        have ho : ¬ overB k = true := fun e => hl (of_decide_eq_true e).2
        refine ⟨?_, ?_, ?_⟩
        · unfold tickS; rw [if_neg ho, ht]
        · unfold tickC; rw [if_neg ho, ht]
        · unfold tickE; rw [if_neg ho]
      clear ht
      go_enter Try.func15, Try.ntmps15
      go_wp2_with fail
      go_quiet (fail)
      go_wp2
      obtain ⟨z0, z1, z2⟩ := end3 (box_other (box_other (box_drew G.out nq) ⟨g, 1, none⟩ hne (.int .i64 k.s.w)) ⟨g, 2, none⟩ hne (.int .i64 (k.s.l + 1))) (.int .i64 k.s.w) (.int .i64 (k.s.l + 1)) (.int .i64 k.s.n)
      refine bodyPost_ret (v := .tuple #[.agg #[.int .i64 k.s.w, .int .i64 (k.s.l + 1), .int .i64 k.s.n], .int .i64 0]) (by simp [results, Try.results15, go_sem, z0, z1, z2]) rfl ?_
      obtain ⟨e1, e2, e3⟩ := HT.out
      refine ⟨by rw [e1, e3], ?_, (((Kept.of_below (S := fun i => i = g) (below_drewN HB.out nq)).setCell (p := ⟨g, 1, none⟩) (fun _ => rfl) _).setCell (p := ⟨g, 2, none⟩) (fun _ => rfl) _).box (Nat.le_refl _) _ _ _⟩
      rw [e2]
      exact box_other (box_other (box_other (RkAt.put (w := (w.alloc _).drewN nq) HA.out k.s.w (k.s.l + 1)) _ hne.symm _) _ hne.symm _) _ hne.symm _

end Go.Proofs.Ytnlpbldpbnlekaa
