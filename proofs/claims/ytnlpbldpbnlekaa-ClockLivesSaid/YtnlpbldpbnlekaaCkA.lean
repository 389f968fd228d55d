/-
  Clocks, plainly; package clock: isWall, made, New, Read.
-/
import Derived.Test.YtnlpbldpbnlekaaStE
set_option linter.unusedVariables false
namespace Go.Proofs.Ytnlpbldpbnlekaa
open Go.RowKit

/-- A clock: its reading, and what it told last. -/
structure Ck where
  r : Int
  s : Sm
/-- A clock that is one. -/
structure CkOk (k : Ck) : Prop where
  r0 : 0 ≤ k.r
  r1 : k.r ≤ 1125899906842624
  w0 : 0 ≤ k.s.w
  w1 : k.s.w ≤ 1125899906842624
  l0 : 0 ≤ k.s.l
  l1 : k.s.l < 65536
  n0 : 1 ≤ k.s.n
  n1 : k.s.n ≤ 5
def wallB (n : Int) : Bool := decide (0 ≤ n ∧ n ≤ 1125899906842624)
def newB (node floor : Int) : Bool := decide (1 ≤ node ∧ node ≤ 5 ∧ 0 ≤ floor ∧ floor ≤ 1125899906842624)
def newC (node floor : Int) : Ck := ⟨0, ⟨floor, 0, node⟩⟩
def readC (n : Int) (k : Ck) : Ck := if wallB n then ⟨max k.r n, k.s⟩ else k
def tellS (k : Ck) : Sm := if k.s.w < k.r then ⟨k.r, 0, k.s.n⟩ else ⟨k.s.w, k.s.l + 1, k.s.n⟩
def overB (k : Ck) : Bool := decide (¬ k.s.w < k.r ∧ k.s.l = 65535)
def tickC (k : Ck) : Ck := if overB k then k else ⟨k.r, tellS k⟩
def tickS (k : Ck) : Sm := if overB k then ⟨0, 0, 0⟩ else tellS k
def tickE (k : Ck) : Int := if overB k then 7 else 0
def driftB (s : Sm) (k : Ck) : Bool := decide (k.r + 1000 < s.w ∧ k.s.w < s.w)
def mergeE (s : Sm) (k : Ck) : Int := if soundB s then (if driftB s k then 6 else 0) else 1
def aheadB (s : Sm) (k : Ck) : Bool := decide (k.s.w < s.w ∨ (k.s.w = s.w ∧ k.s.l < s.l))
def mergeC (s : Sm) (k : Ck) : Ck := if mergeE s k = 0 ∧ aheadB s k then ⟨k.r, ⟨s.w, s.l, k.s.n⟩⟩ else k

theorem newC_ok {node floor : Int} (h : newB node floor = true) : CkOk (newC node floor) := by
  have := of_decide_eq_true h
  exact ⟨by simp [newC], by simp [newC], by simp [newC]; omega, by simp [newC]; omega, by simp [newC], by simp [newC], by simp [newC]; omega, by simp [newC]; omega⟩
theorem readC_ok {k : Ck} (h : CkOk k) (n : Int) : CkOk (readC n k) := by
  unfold readC
  split
  · rename_i hn
    have := of_decide_eq_true hn
    exact ⟨by have := h.r0; simp only; omega, by have := h.r1; simp only; omega, h.w0, h.w1, h.l0, h.l1, h.n0, h.n1⟩
  · exact h
theorem tickC_ok {k : Ck} (h : CkOk k) : CkOk (tickC k) := by
  unfold tickC
  split
  · exact h
  · rename_i ho
    have ho2 : ¬ (¬ k.s.w < k.r ∧ k.s.l = 65535) := fun e => ho (decide_eq_true e)
    obtain ⟨r0, r1, w0, w1, l0, l1, n0, n1⟩ := h
    unfold tellS
    split
    · exact ⟨r0, r1, by simp only; omega, by simp only; omega, by simp only; omega, by simp only; omega, n0, n1⟩
    · exact ⟨r0, r1, w0, w1, by simp only; omega, by simp only; omega, n0, n1⟩
theorem mergeE_zero {s : Sm} {k : Ck} (h : mergeE s k = 0) : soundB s = true ∧ driftB s k = false := by
  unfold mergeE at h
  by_cases h1 : soundB s = true
  · rw [if_pos h1] at h
    by_cases h2 : driftB s k = true
    · rw [if_pos h2] at h; cases h
    · exact ⟨h1, by simpa using h2⟩
  · rw [if_neg h1] at h; cases h
theorem mergeC_ok {k : Ck} (h : CkOk k) (s : Sm) : CkOk (mergeC s k) := by
  unfold mergeC
  split
  · rename_i hm
    have hs := of_decide_eq_true (mergeE_zero hm.1).1
    obtain ⟨r0, r1, w0, w1, l0, l1, n0, n1⟩ := h
    exact ⟨r0, r1, hs.1, hs.2.1, hs.2.2.1, hs.2.2.2.1, n0, n1⟩
  · exact h
theorem tell_sound {k : Ck} (h : CkOk k) : soundB (tellS k) = !overB k := by
  obtain ⟨r0, r1, w0, w1, l0, l1, n0, n1⟩ := h
  unfold tellS overB
  by_cases h1 : k.s.w < k.r
  · rw [if_pos h1, decide_eq_false (by omega)]
    exact decide_eq_true (by simp only; omega)
  · rw [if_neg h1]
    by_cases h2 : k.s.l = 65535
    · rw [decide_eq_true ⟨h1, h2⟩]
      exact decide_eq_false (by simp only; omega)
    · rw [decide_eq_false (by omega)]
      exact decide_eq_true (by simp only; omega)

/-- A clock as it lies. -/
def CkAt (w : World) (g : Nat) (k : Ck) : Prop := w.heap[g]? = some (.cells #[.int .i64 k.r, .int .i64 k.s.w, .int .i64 k.s.l, .int .i64 k.s.n] 53 (0, 0))
theorem four_cells {w : World} {g : Nat} {x y z u : Value} {t : TypeId} (h : w.heap[g]? = some (.cells #[x, y, z, u] t (0, 0))) :
    w.cell? ⟨g, 0, none⟩ = some x ∧ w.cell? ⟨g, 1, none⟩ = some y ∧ w.cell? ⟨g, 2, none⟩ = some z ∧ w.cell? ⟨g, 3, none⟩ = some u ∧ w.frozen? ⟨g, 0, none⟩ = false ∧ w.frozen? ⟨g, 1, none⟩ = false ∧ w.frozen? ⟨g, 2, none⟩ = false ∧ w.frozen? ⟨g, 3, none⟩ = false := by
  refine ⟨?_, ?_, ?_, ?_, frozen_of_row _ g 0 _ _ h, frozen_of_row _ g 1 _ _ h, frozen_of_row _ g 2 _ _ h, frozen_of_row _ g 3 _ _ h⟩ <;> rw [cell_of_row _ g _ _ _ _ h] <;> rfl
theorem CkAt.kept {w w' : World} {g : Nat} {k : Ck} {S : Nat → Prop} (h : CkAt w g k) (hk : Kept S w w') (hs : ¬ S g) : CkAt w' g k := (hk.block g (lt_of_block h) hs).trans h
theorem CkAt.later {w w' : World} {g : Nat} {k : Ck} (h : CkAt w g k) (hb : Below w.heap.size w w') : CkAt w' g k := (hb.block g (lt_of_block h)).trans h

/-- What a call leaves that changes a clock. -/
def CkPost (g : Nat) (k : Ck) (v : Value) (w : World) (e : Ending) (w' : World) : Prop := e = .returned v ∧ CkAt w' g k ∧ Kept (fun i => i = g) w w'

set_option maxRecDepth 100000 in
theorem isWall_any (n : Int) (w : World) : Calls Try.prog 22 #[.int .i64 n] w fun e w' => e = .returned (.bool (wallB n)) ∧ w = w' := by
  have H := Lib.hid (show wallB n = decide (0 ≤ n ∧ n ≤ 1125899906842624) from rfl)
  by_cases h0 : 0 ≤ n
  · go_enter Try.func22, Try.ntmps22
    go_wp2
    go_ret
    exact ⟨retB (by rw [H.out]; simp; omega), rfl⟩
  · go_enter Try.func22, Try.ntmps22
    go_wp2
    go_ret
    exact ⟨retB (by rw [H.out]; simp; omega), rfl⟩

set_option maxRecDepth 100000 in
theorem made_nil (w : World) : Calls Try.prog 23 #[.pointer none] w fun e w' => e = .returned (.bool false) ∧ w = w' := by
  go_enter Try.func23, Try.ntmps23
  go_wp2
  go_ret
  exact ⟨rfl, rfl⟩
set_option maxRecDepth 100000 in
theorem made_at (g : Nat) (k : Ck) (w : World) (h : CkAt w g k) (hn : 1 ≤ k.s.n) : Calls Try.prog 23 #[.pointer (some ⟨g, 0, none⟩)] w fun e w' => e = .returned (.bool true) ∧ w = w' := by
  obtain ⟨c0, c1, c2, c3, _⟩ := four_cells h
  have hz : (k.s.n != 0) = true := by simp; omega
  go_enter Try.func23, Try.ntmps23
  go_wp2
  go_ret
  exact ⟨rfl, rfl⟩

/-- What New leaves. -/
def NewPost (node floor : Int) (w : World) (e : Ending) (w' : World) : Prop :=
  e = .returned (.tuple #[.pointer (some ⟨w.heap.size, 0, none⟩), .int .i64 0]) ∧ CkAt w' w.heap.size (newC node floor) ∧ Below w.heap.size w w'
set_option maxRecDepth 100000 in
theorem new_yes (node floor : Int) (h : newB node floor = true) (w : World) : Calls Try.prog 10 #[.int .i64 node, .int .i64 floor] w (NewPost node floor w) := by
  have h2 := of_decide_eq_true h
  obtain ⟨h3, h4, h5, h6⟩ := h2
  have hw : wallB floor = true := decide_eq_true ⟨h5, h6⟩
  have c1 := fun wx => isWall_any floor wx
  rw [hw] at c1
  have G := Lib.hid (heap_alloc_new w (.cells #[.int .i64 0, .int .i64 floor, .int .i64 0, .int .i64 node] 53))
  clear hw h
  go_enter Try.func10, Try.ntmps10
  go_wp2_with (go_at_call 22; (with_reducible refine (c1 _).mono ?_); rintro e W ⟨rfl, rfl⟩)
  refine bodyPost_ret (v := .tuple #[.pointer (some ⟨w.heap.size, 0, none⟩), .int .i64 0]) (by simp [results, Try.results10, go_sem]) rfl ?_
  exact ⟨rfl, G.out, (Below.refl _ w).alloc (Nat.le_refl _) _⟩
set_option maxRecDepth 100000 in
theorem new_no (node floor : Int) (h : newB node floor = false) (w : World) : Calls Try.prog 10 #[.int .i64 node, .int .i64 floor] w fun e w' => e = .returned (.tuple #[.pointer none, .int .i64 1]) ∧ w = w' := by
  have h2 := of_decide_eq_false h
  by_cases h3 : 1 ≤ node
  · by_cases h4 : node ≤ 5
    · have hw : wallB floor = false := decide_eq_false (fun e => h2 ⟨h3, h4, e⟩)
      have c1 := fun wx => isWall_any floor wx
      rw [hw] at c1
      clear hw h h2
      go_enter Try.func10, Try.ntmps10
      go_wp2_with (go_at_call 22; (with_reducible refine (c1 _).mono ?_); rintro e W ⟨rfl, rfl⟩)
      refine bodyPost_ret (v := .tuple #[.pointer none, .int .i64 1]) (by simp [results, Try.results10, go_sem]) rfl ?_
      exact ⟨rfl, rfl⟩
    · clear h h2
      go_enter Try.func10, Try.ntmps10
      go_wp2
      refine bodyPost_ret (v := .tuple #[.pointer none, .int .i64 1]) (by simp [results, Try.results10, go_sem]) rfl ?_
      exact ⟨rfl, rfl⟩
  · clear h h2
    go_enter Try.func10, Try.ntmps10
    go_wp2
    refine bodyPost_ret (v := .tuple #[.pointer none, .int .i64 1]) (by simp [results, Try.results10, go_sem]) rfl ?_
    exact ⟨rfl, rfl⟩

set_option maxRecDepth 100000 in
theorem read_nil (n : Int) (w : World) : Calls Try.prog 12 #[.pointer none, .int .i64 n] w fun e w' => e = .returned (.tuple #[]) ∧ w = w' := by
  have c1 := fun wx => made_nil wx
  go_enter Try.func12, Try.ntmps12
  go_wp2_with (go_at_call 23; (with_reducible refine (c1 _).mono ?_); rintro e W ⟨rfl, rfl⟩)
  refine bodyPost_end (v := .tuple #[]) ?_ ?_ ?_
  · simp [results, Try.results12, go_sem]
  · rfl
  · exact ⟨rfl, rfl⟩
set_option maxRecDepth 100000 in
theorem read_any (g : Nat) (k : Ck) (n : Int) (w : World) (h : CkAt w g k) (hk : CkOk k) : Calls Try.prog 12 #[.pointer (some ⟨g, 0, none⟩), .int .i64 n] w (CkPost g (readC n k) (.tuple #[]) w) := by
  have c1 := made_at g k w h hk.n0
  have c2 := fun wx => isWall_any n wx
  obtain ⟨d0, d1, d2, d3, f0, f1, f2, f3⟩ := four_cells h
  have H := Lib.hid h
  clear h
  by_cases hw : wallB n = true
  · rw [hw] at c2
    have HR : Hid (readC n k = ⟨max k.r n, k.s⟩) := by show _ = _; unfold readC; rw [if_pos hw]
    clear hw
    go_enter Try.func12, Try.ntmps12
    go_wp2_with (first | (go_at_call 23; (with_reducible refine c1.mono ?_); rintro e W ⟨rfl, rfl⟩) | (go_at_call 22; (with_reducible refine (c2 _).mono ?_); rintro e W ⟨rfl, rfl⟩))
    refine bodyPost_end (v := .tuple #[]) ?_ ?_ ?_
    · simp [results, Try.results12, go_sem]
    · rfl
    · refine ⟨rfl, ?_, Kept.setCell (Kept.refl (fun i => i = g) w) (fun _ => rfl) _⟩
      rw [HR.out]
      exact heap_setCell_same _ g 0 _ _ _ H.out
  · rw [show wallB n = false by simpa using hw] at c2
    have HR : Hid (readC n k = k) := by show _ = _; unfold readC; rw [if_neg hw]
    clear hw
    go_enter Try.func12, Try.ntmps12
    go_wp2_with (first | (go_at_call 23; (with_reducible refine c1.mono ?_); rintro e W ⟨rfl, rfl⟩) | (go_at_call 22; (with_reducible refine (c2 _).mono ?_); rintro e W ⟨rfl, rfl⟩))
    refine bodyPost_end (v := .tuple #[]) ?_ ?_ ?_
    · simp [results, Try.results12, go_sem]
    · rfl
    · refine ⟨rfl, ?_, Kept.refl _ _⟩
      rw [HR.out]
      exact H.out

end Go.Proofs.Ytnlpbldpbnlekaa
