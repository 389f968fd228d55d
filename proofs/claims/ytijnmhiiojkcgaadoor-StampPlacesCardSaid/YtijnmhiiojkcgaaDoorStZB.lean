/-
  Behind, and the reference's; Sum of three.
-/
import Derived.Test.YtijnmhiiojkcgaaDoorStZA
set_option linter.unusedVariables false
namespace Go.Proofs.YtijnmhiiojkcgaaDoor
open Go.RowKit

def EvBox (w' : World) (g : Nat) (a : Ev) : Prop := w'.cell? ⟨g, 0, none⟩ = some (.string a.s) ∧ w'.cell? ⟨g, 1, none⟩ = some (.int .i64 a.v) ∧ w'.cell? ⟨g, 2, none⟩ = some (.string a.d) ∧ w'.cell? ⟨g, 3, none⟩ = some (.int .i64 a.t.w) ∧ w'.cell? ⟨g, 4, none⟩ = some (.int .i64 a.t.l) ∧ w'.cell? ⟨g, 5, none⟩ = some (.int .i64 a.t.n) ∧ w'.cell? ⟨g, 6, none⟩ = some (.int .i64 a.i)
def CuBox (w' : World) (g : Nat) (a : Cu) : Prop := w'.cell? ⟨g, 0, none⟩ = some (.int .i64 a.t.w) ∧ w'.cell? ⟨g, 1, none⟩ = some (.int .i64 a.t.l) ∧ w'.cell? ⟨g, 2, none⟩ = some (.int .i64 a.t.n) ∧ w'.cell? ⟨g, 3, none⟩ = some (.int .i64 a.i) ∧ w'.cell? ⟨g, 4, none⟩ = some (.string a.s)
theorem keepC {w w' : World} (hb : Below w.heap.size w w') {p : Addr} {v : Value} (h : w.cell? p = some v) : w'.cell? p = some v := (hb.cell (World.block_lt_of_cell? _ _ h)).trans h
theorem EvBox.later {w w' : World} {g : Nat} {a : Ev} (h : EvBox w g a) (hb : Below w.heap.size w w') : EvBox w' g a :=
  ⟨keepC hb h.1, keepC hb h.2.1, keepC hb h.2.2.1, keepC hb h.2.2.2.1, keepC hb h.2.2.2.2.1, keepC hb h.2.2.2.2.2.1, keepC hb h.2.2.2.2.2.2⟩
theorem CuBox.later {w w' : World} {g : Nat} {a : Cu} (h : CuBox w g a) (hb : Below w.heap.size w w') : CuBox w' g a :=
  ⟨keepC hb h.1, keepC hb h.2.1, keepC hb h.2.2.1, keepC hb h.2.2.2.1, keepC hb h.2.2.2.2⟩
theorem EvBox.new (w : World) (a : Ev) : EvBox (w.alloc (.cells #[.string a.s, .int .i64 a.v, .string a.d, .int .i64 a.t.w, .int .i64 a.t.l, .int .i64 a.t.n, .int .i64 a.i] 45)) w.heap.size a := by
  have hc : ∀ j, _ := fun j => cell_of_row _ _ j _ _ _ (heap_alloc_new w (.cells #[.string a.s, .int .i64 a.v, .string a.d, .int .i64 a.t.w, .int .i64 a.t.l, .int .i64 a.t.n, .int .i64 a.i] 45))
  exact ⟨hc 0, hc 1, hc 2, hc 3, hc 4, hc 5, hc 6⟩
theorem CuBox.new (w : World) (a : Cu) : CuBox (w.alloc (.cells #[.int .i64 a.t.w, .int .i64 a.t.l, .int .i64 a.t.n, .int .i64 a.i, .string a.s] 47)) w.heap.size a := by
  have hc : ∀ j, _ := fun j => cell_of_row _ _ j _ _ _ (heap_alloc_new w (.cells #[.int .i64 a.t.w, .int .i64 a.t.l, .int .i64 a.t.n, .int .i64 a.i, .string a.s] 47))
  exact ⟨hc 0, hc 1, hc 2, hc 3, hc 4⟩
theorem keepEC {w V W : World} {g1 g2 : Nat} {e : Ev} {c : Cu} (h : Below w.heap.size w V ∧ EvBox V g1 e ∧ CuBox V g2 c) (hb : Below V.heap.size V W) : Below w.heap.size w W ∧ EvBox W g1 e ∧ CuBox W g2 c :=
  ⟨h.1.trans (hb.mono h.1.size), h.2.1.later hb, h.2.2.later hb⟩
theorem or_box (x y z : Int) (W : World) (g : Nat) (t : TypeId) (h : W.heap[g]? = some (.cells #[.int .i64 x, .int .i64 y, .int .i64 z] t (0, 0))) :
    Calls Tryd.prog 41 #[.slice (some ⟨g, 0, none⟩) 3 3] W fun e w' => e = .returned (.int .i64 (or3 x y z)) ∧ W = w' := by
  obtain ⟨h0, h1, h2, _⟩ := box_cells h
  exact or_any x y z g 3 W h0 h1 h2

set_option maxHeartbeats 4000000 in
set_option maxRecDepth 100000 in
theorem behind_any (e : Ev) (c : Cu) (w : World) :
    Calls Tryd.prog 30 #[.agg #[.string e.s, .int .i64 e.v, .string e.d, .int .i64 e.t.w, .int .i64 e.t.l, .int .i64 e.t.n, .int .i64 e.i], .agg #[.int .i64 c.t.w, .int .i64 c.t.l, .int .i64 c.t.n, .int .i64 c.i, .string c.s]] w (TelPost (.bool (behB e c)) w) := by
  have HQ : Hid (behB e c = decide (0 < or3 (cmpS e.t c.t) (cmpI e.i c.i) (cmpT e.s c.s))) := rfl
  have C1 := Lib.hid fun wx (hx : Below w.heap.size w wx) => compare_any e.t c.t wx
  have C2 := Lib.hid fun wx (hx : Below w.heap.size w wx) => cmp_any e.i c.i wx
  have C3 := Lib.hid fun wx (hx : Below w.heap.size w wx) => cmpT_any e.s c.s wx
  obtain ⟨k1, hk1⟩ : ∃ k, k = cmpS e.t c.t := ⟨_, rfl⟩
  obtain ⟨k2, hk2⟩ : ∃ k, k = cmpI e.i c.i := ⟨_, rfl⟩
  obtain ⟨k3, hk3⟩ : ∃ k, k = cmpT e.s c.s := ⟨_, rfl⟩
  rw [← hk1] at C1
  rw [← hk2] at C2
  rw [← hk3] at C3
  rw [← hk1, ← hk2, ← hk3] at HQ
  clear hk1 hk2 hk3
  have CO := Lib.hid fun W g t h => or_box k1 k2 k3 W g t h
  have bA := ((Below.refl w.heap.size w).alloc (Nat.le_refl _) (.cells #[.string e.s, .int .i64 e.v, .string e.d, .int .i64 e.t.w, .int .i64 e.t.l, .int .i64 e.t.n, .int .i64 e.i] 45)).alloc (by simp) (.cells #[.int .i64 c.t.w, .int .i64 c.t.l, .int .i64 c.t.n, .int .i64 c.i, .string c.s] 47)
  have hE := (EvBox.new w e).later ((Below.refl _ _).alloc (Nat.le_refl _) (.cells #[.int .i64 c.t.w, .int .i64 c.t.l, .int .i64 c.t.n, .int .i64 c.i, .string c.s] 47))
  have hC := CuBox.new (w.alloc (.cells #[.string e.s, .int .i64 e.v, .string e.d, .int .i64 e.t.w, .int .i64 e.t.l, .int .i64 e.t.n, .int .i64 e.i] 45)) c
  rw [World.size_alloc] at hC
  have HS := Lib.hid (keepEC ⟨bA, hE, hC⟩ (Below.refl _ _).drew)
  clear bA hE hC
  go_enter Tryd.func30, Tryd.ntmps30
  go_wp2_with fail
  go_region_held3 (fun w' => Below w.heap.size w w' ∧ (w'.cell? ⟨w.heap.size, 0, none⟩ = some (.string e.s) ∧ w'.cell? ⟨w.heap.size, 1, none⟩ = some (.int .i64 e.v) ∧ w'.cell? ⟨w.heap.size, 2, none⟩ = some (.string e.d) ∧ w'.cell? ⟨w.heap.size, 3, none⟩ = some (.int .i64 e.t.w) ∧ w'.cell? ⟨w.heap.size, 4, none⟩ = some (.int .i64 e.t.l) ∧ w'.cell? ⟨w.heap.size, 5, none⟩ = some (.int .i64 e.t.n) ∧ w'.cell? ⟨w.heap.size, 6, none⟩ = some (.int .i64 e.i)) ∧ (w'.cell? ⟨w.heap.size + 1, 0, none⟩ = some (.int .i64 c.t.w) ∧ w'.cell? ⟨w.heap.size + 1, 1, none⟩ = some (.int .i64 c.t.l) ∧ w'.cell? ⟨w.heap.size + 1, 2, none⟩ = some (.int .i64 c.t.n) ∧ w'.cell? ⟨w.heap.size + 1, 3, none⟩ = some (.int .i64 c.i) ∧ w'.cell? ⟨w.heap.size + 1, 4, none⟩ = some (.string c.s)))
    (first | exact HS.out | exact hs2 | exact hs1 | exact keepEC (by assumption) (Below.refl _ _).drew | exact keepEC (by assumption) ((Below.refl _ _).alloc (Nat.le_refl _) _) | go_keep)
    (first
      | (go_at_call 32; (with_reducible refine (C1.out _ (And.left (by assumption))).mono ?_); rintro e1 V1 ⟨rfl, b1⟩; have hs1 := keepEC (by assumption) b1)
      | (go_at_call 42; (with_reducible refine (C2.out _ (And.left (by assumption))).mono ?_); rintro e1 V ⟨rfl, rfl⟩)
      | (go_at_call 43; (with_reducible refine (C3.out _ (And.left (by assumption))).mono ?_); rintro e1 V ⟨rfl, rfl⟩)
      | (go_at_call 41; (with_reducible refine (CO.out _ _ 3 ?hq1).mono ?_); (case hq1 => first | exact heap_alloc_new _ _ | fail); rintro e1 V ⟨rfl, rfl⟩; have hs2 := keepEC hs1 ((Below.refl V1.heap.size V1).alloc (Nat.le_refl _) (.cells #[.int .i64 k1, .int .i64 k2, .int .i64 k3] 3)))
      | fail)
  all_goals (
    have HZ := Lib.hid hs2.1
    go_wp2
    go_ret
    exact ⟨retB HQ.out.symm, HZ.out⟩)

end Go.Proofs.YtijnmhiiojkcgaaDoor
