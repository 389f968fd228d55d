/-
  Package disk: at, put.
-/
import Derived.Test.YtbolminblofhgaaDsB
import Derived.BigRegion
set_option linter.unusedVariables false
namespace Go.Proofs.Ytbolminblofhgaa
open Go.RowKit

def AtPost (w : World) (B g : Nat) (mv : Value) (Q : List (Value × RF)) (u : Int) (C : CD) (v : Value) (c : Int) (e : Ending) (w' : World) : Prop :=
  e = .returned (.tuple #[v, .int .i64 c]) ∧ ImR w' B g mv Q u C.op ∧ Kept (fun k => k = g) w w'

theorem pair_set {W : World} {s : Nat} {a b : Value} {t : TypeId} (h : W.heap[s]? = some (.cells #[a, b] t (0, 0))) (x y : Value) : ((W.setCell ⟨s, 0, none⟩ x).setCell ⟨s, 1, none⟩ y).heap[s]? = some (.cells #[x, y] t (0, 0)) := by
  rw [heap_setCell_same _ s 1 _ _ _ (heap_setCell_same _ s 0 _ _ _ h)]; rfl
theorem pair_cells {W : World} {s : Nat} {x y : Value} {t : TypeId} (h : W.heap[s]? = some (.cells #[x, y] t (0, 0))) : W.cell? ⟨s, 0, none⟩ = some x ∧ W.cell? ⟨s, 1, none⟩ = some y ∧ W.frozen? ⟨s, 0, none⟩ = false ∧ W.frozen? ⟨s, 1, none⟩ = false :=
  ⟨by rw [cell_of_row _ _ _ _ _ _ h]; rfl, by rw [cell_of_row _ _ _ _ _ _ h]; rfl, frozen_of_row _ s 0 _ _ h, frozen_of_row _ s 1 _ _ h⟩
theorem pair_far {W : World} {s g : Nat} {o : Option Obj} (h : W.heap[g]? = o) (hne : g ≠ s) (x y : Value) : ((W.setCell ⟨s, 0, none⟩ x).setCell ⟨s, 1, none⟩ y).heap[g]? = o := by
  rw [heap_setCell_other _ _ _ _ hne, heap_setCell_other _ _ _ _ hne]; exact h
theorem Kept.pair {S : Nat → Prop} {w W : World} (h : Kept S w W) {s : Nat} (hs : w.heap.size ≤ s) (x y : Value) : Kept S w ((W.setCell ⟨s, 0, none⟩ x).setCell ⟨s, 1, none⟩ y) :=
  (h.setCell (p := ⟨s, 0, none⟩) (fun hl => absurd hl (by show ¬ s < _; omega)) x).setCell (p := ⟨s, 1, none⟩) (fun hl => absurd hl (by show ¬ s < _; omega)) y
theorem ImR.pair {w : World} {B g : Nat} {mv : Value} {Q : List (Value × RF)} {u : Int} {C : CD} (h : ImR w B g mv Q u C) {s : Nat} (hs : ¬ ImS g mv Q s) (x y : Value) : ImR ((w.setCell ⟨s, 0, none⟩ x).setCell ⟨s, 1, none⟩ y) B g mv Q u C :=
  h.kept (S := fun k => k = s) (((Kept.refl (fun k => k = s) w).setCell (p := ⟨s, 0, none⟩) (fun _ => rfl) x).setCell (p := ⟨s, 1, none⟩) (fun _ => rfl) y) (fun k hk e => hs (e ▸ hk))

set_option maxHeartbeats 2000000 in
set_option maxRecDepth 100000 in
theorem dAt_nil (w : World) (nm : ByteArray) :
    Calls Try.prog 43 #[.pointer none, .string nm] w fun e w' => e = .returned (.tuple #[file0, .int .i64 4]) ∧ Below w.heap.size w w' := by
  go_enter Try.func43, Try.ntmps43
  go_wp2
  refine bodyPost_ret (v := .tuple #[.agg #[.slice none 0 0, .int .i64 0], .int .i64 4]) (by simp [results, Try.results43, go_sem]) rfl ?_
  exact ⟨rfl, by simpa using (Below.refl _ w).alloc (Nat.le_refl _) _⟩

set_option maxHeartbeats 2000000 in
set_option maxRecDepth 100000 in
theorem dAt_off (w : World) (B g : Nat) (mv : Value) (Q : List (Value × RF)) (u : Int) (C : CD) (nm : ByteArray) (h : ImR w B g mv Q u C) (hi : Inv C) (hn : C.n ≤ 1000000) (ho : offC C = true) :
    Calls Try.prog 43 #[.pointer (some ⟨g, 0, none⟩), .string nm] w (AtPost w B g mv Q u C file0 9) := by
  have cO := dOp (w.alloc (.cells #[.slice none 0 0, .int .i64 0] 77)) B g mv Q u C (h.alloc _) hi hn
  rw [ho] at cO
  have hS : ¬ ImS g mv Q w.heap.size := fun e => by have := h.ltS _ e; omega
  have hlt := h.lt
  clear h hi
  go_enter Try.func43, Try.ntmps43
  go_wp2_with (go_at_call 40; (with_reducible refine cO.mono ?_))
  rintro e W1 ⟨rfl, h1, k1, s1⟩
  have k2 : Kept (fun k => k = g) w W1 := ((Kept.refl _ w).alloc _).trans k1 (fun _ _ h => h)
  have r1 : W1.heap[w.heap.size]? = some (.cells #[.slice none 0 0, .int .i64 0] 77 (0, 0)) := (k1.block w.heap.size (by simp) (by omega)).trans (heap_alloc_new w _)
  obtain ⟨x0, x1, y0, y1⟩ := pair_cells r1
  have hz := Lib.hid (pair_cells (pair_set r1 (.slice none 0 0) (.int .i64 0)))
  have H1 := Lib.hid (h1.pair hS (.slice none 0 0) (.int .i64 0))
  have K1 := Lib.hid (k2.pair (Nat.le_refl _) (.slice none 0 0) (.int .i64 0))
  clear h1 r1 cO k1 k2
  go_wp2
  obtain ⟨z0, z1, _, _⟩ := hz.out
  refine bodyPost_ret (v := .tuple #[.agg #[.slice none 0 0, .int .i64 0], .int .i64 9]) (by simp [results, Try.results43, go_sem, z0, z1]) rfl ?_
  exact ⟨rfl, H1.out, K1.out⟩

set_option maxHeartbeats 2000000 in
set_option maxRecDepth 100000 in
theorem dAt_none (w : World) (B g : Nat) (mv : Value) (Q : List (Value × RF)) (u : Int) (C : CD) (nm : ByteArray) (h : ImR w B g mv Q u C) (hi : Inv C) (hn : C.n ≤ 1000000) (hl : nm.size ≤ 1000000) (ho : offC C = false) (hg : getQ nm Q = none) :
    Calls Try.prog 43 #[.pointer (some ⟨g, 0, none⟩), .string nm] w (AtPost w B g mv Q u C file0 4) := by
  have cO := dOp (w.alloc (.cells #[.slice none 0 0, .int .i64 0] 77)) B g mv Q u C (h.alloc _) hi hn
  rw [ho] at cO
  have hS : ¬ ImS g mv Q w.heap.size := fun e => by have := h.ltS _ e; omega
  have hlt := h.lt
  have hm : nm.size ≤ maxLen := by unfold maxLen; omega
  have hsv : hsQ nm Q = false := by unfold hsQ; rw [hg]; rfl
  have hlk : lkV nm Q = .agg #[.slice none 0 0, .int .i64 0] := by unfold lkV; rw [hg]; rfl
  clear h hi
  go_enter Try.func43, Try.ntmps43
  go_wp2_with (go_at_call 40; (with_reducible refine cO.mono ?_))
  rintro e W1 ⟨rfl, h1, k1, s1⟩
  have k2 : Kept (fun k => k = g) w W1 := ((Kept.refl _ w).alloc _).trans k1 (fun _ _ h => h)
  have r1 : W1.heap[w.heap.size]? = some (.cells #[.slice none 0 0, .int .i64 0] 77 (0, 0)) := (k1.block w.heap.size (by simp) (by omega)).trans (heap_alloc_new w _)
  have lk := (h1.2.2.2.1.look nm hm).1
  rw [hsv, hlk] at lk
  obtain ⟨_, _, c2, _, _, _⟩ := h1.cell
  have r2 : (W1.alloc (.cells #[.slice none 0 0, .int .i64 0] 77)).heap[w.heap.size]? = some (.cells #[.slice none 0 0, .int .i64 0] 77 (0, 0)) := by
    rw [Below.heap_alloc _ _ _ (lt_of_block r1)]; exact r1
  obtain ⟨x0, x1, y0, y1⟩ := pair_cells r2
  have hz := Lib.hid (pair_cells (pair_set r2 (.slice none 0 0) (.int .i64 0)))
  have H1 := Lib.hid ((h1.alloc (.cells #[.slice none 0 0, .int .i64 0] 77)).pair hS (.slice none 0 0) (.int .i64 0))
  have K1 := Lib.hid ((k2.alloc (.cells #[.slice none 0 0, .int .i64 0] 77)).pair (Nat.le_refl _) (.slice none 0 0) (.int .i64 0))
  clear h1 r1 r2 cO k1 k2 s1 hsv hlk
  go_wp2_with (at_lookup; (with_reducible refine wpList_look _ rfl _ _ _ true rfl _ _ _ rfl rfl lk ?_))
  obtain ⟨z0, z1, _, _⟩ := hz.out
  refine bodyPost_ret (v := .tuple #[.agg #[.slice none 0 0, .int .i64 0], .int .i64 4]) (by simp [results, Try.results43, go_sem, z0, z1]) rfl ?_
  exact ⟨rfl, H1.out, K1.out⟩

set_option maxHeartbeats 2000000 in
set_option maxRecDepth 100000 in
theorem dAt_some (w : World) (B g : Nat) (mv : Value) (Q : List (Value × RF)) (u : Int) (C : CD) (nm : ByteArray) (h : ImR w B g mv Q u C) (hi : Inv C) (hn : C.n ≤ 1000000) (hl : nm.size ≤ 1000000) (ho : offC C = false) (a : Option Addr) (m c s : Nat) (f : RF) (hfs : f.s = s) (hg : getQ nm Q = some (.slice a m c, f)) :
    Calls Try.prog 43 #[.pointer (some ⟨g, 0, none⟩), .string nm] w (AtPost w B g mv Q u C (.agg #[.slice a m c, .int .i64 s]) 0) := by
  have cO := dOp (w.alloc (.cells #[.slice none 0 0, .int .i64 0] 77)) B g mv Q u C (h.alloc _) hi hn
  rw [ho] at cO
  have hS : ¬ ImS g mv Q w.heap.size := fun e => by have := h.ltS _ e; omega
  have hlt := h.lt
  have hm : nm.size ≤ maxLen := by unfold maxLen; omega
  have hsv : hsQ nm Q = true := by unfold hsQ; rw [hg]; rfl
  have hlk : lkV nm Q = .agg #[.slice a m c, .int .i64 s] := by unfold lkV; rw [hg, ← hfs]; rfl
  clear hg hfs
  clear h hi
  go_enter Try.func43, Try.ntmps43
  go_wp2_with (go_at_call 40; (with_reducible refine cO.mono ?_))
  rintro e W1 ⟨rfl, h1, k1, s1⟩
  have k2 : Kept (fun k => k = g) w W1 := ((Kept.refl _ w).alloc _).trans k1 (fun _ _ h => h)
  have r1 : W1.heap[w.heap.size]? = some (.cells #[.slice none 0 0, .int .i64 0] 77 (0, 0)) := (k1.block w.heap.size (by simp) (by omega)).trans (heap_alloc_new w _)
  have lk := (h1.2.2.2.1.look nm hm).1
  rw [hsv, hlk] at lk
  obtain ⟨_, _, c2, _, _, _⟩ := h1.cell
  have r2 : (W1.alloc (.cells #[.slice a m c, .int .i64 s] 77)).heap[w.heap.size]? = some (.cells #[.slice none 0 0, .int .i64 0] 77 (0, 0)) := by
    rw [Below.heap_alloc _ _ _ (lt_of_block r1)]; exact r1
  obtain ⟨x0, x1, y0, y1⟩ := pair_cells r2
  have hz := Lib.hid (pair_cells (pair_set r2 (.slice a m c) (.int .i64 s)))
  have H1 := Lib.hid ((h1.alloc (.cells #[.slice a m c, .int .i64 s] 77)).pair hS (.slice a m c) (.int .i64 s))
  have K1 := Lib.hid ((k2.alloc (.cells #[.slice a m c, .int .i64 s] 77)).pair (Nat.le_refl _) (.slice a m c) (.int .i64 s))
  clear h1 r1 r2 cO k1 k2 s1 hsv hlk
  go_wp2_with (at_lookup; (with_reducible refine wpList_look _ rfl _ _ _ true rfl _ _ _ rfl rfl lk ?_))
  obtain ⟨z0, z1, _, _⟩ := hz.out
  refine bodyPost_ret (v := .tuple #[.agg #[.slice a m c, .int .i64 s], .int .i64 0]) (by simp [results, Try.results43, go_sem, z0, z1]) rfl ?_
  exact ⟨rfl, H1.out, K1.out⟩


end Go.Proofs.Ytbolminblofhgaa
