/-
  Stamps, plainly; blocks of three cells.
-/
import Derived.Test.YtggognmbjgkdfaaKp
import Derived.Lib.Small
set_option linter.unusedVariables false
namespace Go.Proofs.Ytggognmbjgkdfaa
open Go.RowKit

/-- A stamp. -/
structure Sm where
  w : Int
  l : Int
  n : Int
theorem Sm.ext' {a b : Sm} (h1 : a.w = b.w) (h2 : a.l = b.l) (h3 : a.n = b.n) : a = b := by
  cases a; cases b; simp_all
theorem Sm.ext_iff' {a b : Sm} : a = b ↔ a.w = b.w ∧ a.l = b.l ∧ a.n = b.n :=
  ⟨fun h => by subst h; exact ⟨rfl, rfl, rfl⟩, fun h => Sm.ext' h.1 h.2.1 h.2.2⟩
instance : DecidableEq Sm := fun a b => decidable_of_iff _ Sm.ext_iff'.symm

def soundB (a : Sm) : Bool := decide (0 ≤ a.w ∧ a.w ≤ 1125899906842624 ∧ 0 ≤ a.l ∧ a.l < 65536 ∧ 0 ≤ a.n ∧ a.n ≤ 5)

/-- What a call leaves that tells a value and only grows the memory. -/
def TelPost (v : Value) (w : World) (e : Ending) (w' : World) : Prop := e = .returned v ∧ Below w.heap.size w w'

theorem box_cells {w : World} {g : Nat} {x y z : Value} {t : TypeId} (h : w.heap[g]? = some (.cells #[x, y, z] t (0, 0))) :
    w.cell? ⟨g, 0, none⟩ = some x ∧ w.cell? ⟨g, 1, none⟩ = some y ∧ w.cell? ⟨g, 2, none⟩ = some z ∧ w.frozen? ⟨g, 0, none⟩ = false ∧ w.frozen? ⟨g, 1, none⟩ = false ∧ w.frozen? ⟨g, 2, none⟩ = false := by
  refine ⟨?_, ?_, ?_, frozen_of_row _ g 0 _ _ h, frozen_of_row _ g 1 _ _ h, frozen_of_row _ g 2 _ _ h⟩ <;> rw [cell_of_row _ g _ _ _ _ h] <;> rfl
theorem box_below {B : Nat} {w w' : World} {g : Nat} {o : Obj} (h : w.heap[g]? = some o) (hb : Below B w w') (hg : g < B) : w'.heap[g]? = some o := (hb.block g hg).trans h
theorem box_alloc {w : World} {g : Nat} {o : Obj} (h : w.heap[g]? = some o) (o2 : Obj) : (w.alloc o2).heap[g]? = some o := (Below.heap_alloc w o2 g (lt_of_block h)).trans h

theorem retB {a b : Bool} (h : a = b) : Ending.returned (.bool a) = .returned (.bool b) := by rw [h]

theorem set3 {W : World} {g : Nat} {x y z : Value} {t : TypeId} (h : W.heap[g]? = some (.cells #[x, y, z] t (0, 0))) (a b c : Value) :
    (((W.setCell ⟨g, 0, none⟩ a).setCell ⟨g, 1, none⟩ b).setCell ⟨g, 2, none⟩ c).heap[g]? = some (.cells #[a, b, c] t (0, 0)) :=
  heap_setCell_same _ g 2 _ t c (heap_setCell_same _ g 1 _ t b (heap_setCell_same _ g 0 _ t a h))
theorem set3_other {W : World} {g k : Nat} {o : Obj} (h : W.heap[k]? = some o) (hk : k ≠ g) (a b c : Value) :
    (((W.setCell ⟨g, 0, none⟩ a).setCell ⟨g, 1, none⟩ b).setCell ⟨g, 2, none⟩ c).heap[k]? = some o := by
  rw [heap_setCell_other _ _ _ _ (by exact hk), heap_setCell_other _ _ _ _ (by exact hk), heap_setCell_other _ _ _ _ (by exact hk), h]
theorem below3 {B g : Nat} {w W : World} (h : Below B w W) (hg : B ≤ g) (a b c : Value) : Below B w (((W.setCell ⟨g, 0, none⟩ a).setCell ⟨g, 1, none⟩ b).setCell ⟨g, 2, none⟩ c) :=
  ((h.setCell (by exact hg) a).setCell (by exact hg) b).setCell (by exact hg) c

end Go.Proofs.Ytggognmbjgkdfaa
