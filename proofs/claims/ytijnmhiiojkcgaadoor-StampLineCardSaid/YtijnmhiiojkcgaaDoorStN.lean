/-
  StampTexts.
-/
import Derived.Test.YtijnmhiiojkcgaaDoorStM
import Derived.Deep.RegionHeld3
set_option linter.unusedVariables false
namespace Go.Proofs.YtijnmhiiojkcgaaDoor
open Go.RowKit

/-- What a parse leaves, its parts named. -/
def PPost (X : Sm) (b : Bool) (w : World) (e : Ending) (w' : World) : Prop :=
  e = .returned (.tuple #[.agg #[.int .i64 X.w, .int .i64 X.l, .int .i64 X.n], .bool b]) ∧ Below w.heap.size w w'

theorem parse_pp (s : ByteArray) (hs : s.size ≤ 1000000) (X : Sm) (b : Bool) (hX : X = (parseL s.data.toList).getD ⟨0, 0, 0⟩) (hb : b = (parseL s.data.toList).isSome) (w : World) (ht : Tab w) :
    Calls Tryd.prog 19 #[.string s] w (PPost X b w) := by
  subst hX hb
  exact parse_any s hs w ht
theorem rParse_pp (s : ByteArray) (hs : s.size ≤ 1000000) (X : Sm) (b : Bool) (hX : X = (parseL s.data.toList).getD ⟨0, 0, 0⟩) (hb : b = (parseL s.data.toList).isSome) (w : World) :
    Calls Tryd.prog 20 #[.string s] w (PPost X b w) := by
  subst hX hb
  exact rParse_any s hs w

/-- Three boxes of three numbers each lie in a world. -/
def Box3 (w : World) (g : Nat) (x y z : Int) : Prop := w.cell? ⟨g, 0, none⟩ = some (.int .i64 x) ∧ w.cell? ⟨g, 1, none⟩ = some (.int .i64 y) ∧ w.cell? ⟨g, 2, none⟩ = some (.int .i64 z)
theorem Box3.later {w w' : World} {g : Nat} {x y z : Int} (h : Box3 w g x y z) (hb : Below w.heap.size w w') : Box3 w' g x y z :=
  ⟨(hb.cell (World.block_lt_of_cell? _ _ h.1)).trans h.1, (hb.cell (World.block_lt_of_cell? _ _ h.2.1)).trans h.2.1, (hb.cell (World.block_lt_of_cell? _ _ h.2.2)).trans h.2.2⟩
theorem Box3.new (w : World) (x y z : Int) (t : TypeId) : Box3 (w.alloc (.cells #[.int .i64 x, .int .i64 y, .int .i64 z] t)) w.heap.size x y z := by
  obtain ⟨h0, h1, h2, _⟩ := box_cells (heap_alloc_new w (.cells #[.int .i64 x, .int .i64 y, .int .i64 z] t))
  exact ⟨h0, h1, h2⟩

theorem keep3 {w V W : World} {g1 g2 g3 : Nat} {x1 y1 z1 x2 y2 z2 x3 y3 z3 : Int} (h : Below w.heap.size w V ∧ Box3 V g1 x1 y1 z1 ∧ Box3 V g2 x2 y2 z2 ∧ Box3 V g3 x3 y3 z3) (hb : Below V.heap.size V W) :
    Below w.heap.size w W ∧ Box3 W g1 x1 y1 z1 ∧ Box3 W g2 x2 y2 z2 ∧ Box3 W g3 x3 y3 z3 :=
  ⟨h.1.trans (hb.mono h.1.size), h.2.1.later hb, h.2.2.1.later hb, h.2.2.2.later hb⟩

set_option maxHeartbeats 8000000 in
set_option maxRecDepth 100000 in
theorem StampTexts_body (a0 : Sm) (s : ByteArray) (w : World) (h0 : SmI a0) (hs : s.size ≤ maxLen) (ht : Tab w) :
    Calls Tryd.prog 4 #[.agg #[.int .i64 a0.w, .int .i64 a0.l, .int .i64 a0.n], .string s] w (TelPost (.bool true) w) := by
  unfold maxLen at hs
  have HT := Lib.hid ht
  have bA := (Below.refl w.heap.size w).alloc (Nat.le_refl _) (.cells #[.int .i64 a0.w, .int .i64 a0.l, .int .i64 a0.n] 23)
  have hA := Box3.new w a0.w a0.l a0.n 23
  have HA := Lib.hid hA
  have HBA := Lib.hid bA
  by_cases hbig : (300 : Int) < s.size
  · have cA := awake_any _ (HT.out.later bA)
    clear bA hA ht
    go_enter Tryd.func4, Tryd.ntmps4
    go_wp2_with (go_at_call 10; (with_reducible refine cA.mono ?_))
    rintro e W1 ⟨rfl, b1⟩
    have HB := Lib.hid (HBA.out.trans (b1.mono (by simp)))
    clear b1
    go_wp2
    go_ret
    exact ⟨rfl, HB.out⟩
  · obtain ⟨X, hX⟩ : ∃ X, X = (parseL s.data.toList).getD ⟨0, 0, 0⟩ := ⟨_, rfl⟩
    obtain ⟨pb, hpb⟩ : ∃ pb, pb = (parseL s.data.toList).isSome := ⟨_, rfl⟩
    have c1 := parse_pp s (by omega) X pb hX hpb _ (HT.out.later bA)
    have c2 := fun wx => rParse_pp s (by omega) X pb hX hpb wx
    have C2 := Lib.hid c2
    clear hX hpb bA hA ht c2
    go_enter Tryd.func4, Tryd.ntmps4
    go_wp2_with (go_at_call 19; (with_reducible refine c1.mono ?_))
    rintro e W1 ⟨rfl, b1⟩
    have b1' := b1.alloc b1.size (.cells #[.int .i64 X.w, .int .i64 X.l, .int .i64 X.n] 23)
    have hX1 := Box3.new W1 X.w X.l X.n 23
    have HA1 := Lib.hid (HA.out.later b1')
    have HX1 := Lib.hid hX1
    have HB1 := Lib.hid (HBA.out.trans (b1'.mono (by simp)))
    clear c1 b1 b1' hX1
    go_wp2_with (go_at_call 20; (with_reducible refine (C2.out _).mono ?_))
    rintro e W2 ⟨rfl, b2⟩
    have b2' := b2.alloc b2.size (.cells #[.int .i64 X.w, .int .i64 X.l, .int .i64 X.n] 23)
    have HY := Lib.hid (Box3.new W2 X.w X.l X.n 23)
    have HA2 := Lib.hid (HA1.out.later b2')
    have HX2 := Lib.hid (HX1.out.later b2')
    have HB2 := Lib.hid (HB1.out.trans (b2'.mono (HB1.out.size)))
    have HT2 := Lib.hid (HT.out.later HB2.out)
    clear b2 b2'
    obtain ⟨T, hT⟩ : ∃ T, T = (⟨(textL a0).toArray⟩ : ByteArray) := ⟨_, rfl⟩
    have c3 := fun wx (hx : Below w.heap.size w wx) => text_any a0 h0 wx (HT.out.later hx)
    have c4 := fun wx => rText_any a0 h0 wx
    have c5 := fun wx (hx : Below w.heap.size w wx) => awake_any wx (HT.out.later hx)
    rw [← hT] at c3 c4
    have C3 := Lib.hid c3
    have C4 := Lib.hid c4
    have C5 := Lib.hid c5
    clear hT c3 c4 c5
    go_wp2_with fail
    go_region_held3 (fun w' => Below w.heap.size w w' ∧ (w'.cell? ⟨w.heap.size, 0, none⟩ = some (.int .i64 a0.w) ∧ w'.cell? ⟨w.heap.size, 1, none⟩ = some (.int .i64 a0.l) ∧ w'.cell? ⟨w.heap.size, 2, none⟩ = some (.int .i64 a0.n)) ∧ (w'.cell? ⟨W1.heap.size, 0, none⟩ = some (.int .i64 X.w) ∧ w'.cell? ⟨W1.heap.size, 1, none⟩ = some (.int .i64 X.l) ∧ w'.cell? ⟨W1.heap.size, 2, none⟩ = some (.int .i64 X.n)) ∧ (w'.cell? ⟨W2.heap.size, 0, none⟩ = some (.int .i64 X.w) ∧ w'.cell? ⟨W2.heap.size, 1, none⟩ = some (.int .i64 X.l) ∧ w'.cell? ⟨W2.heap.size, 2, none⟩ = some (.int .i64 X.n)))
      (first | exact ⟨HB2.out.drew, HA2.out.later (Below.refl _ _).drew, HX2.out.later (Below.refl _ _).drew, HY.out.later (Below.refl _ _).drew⟩ | exact hs5 | exact hs4 | exact hs3 | exact keep3 (by assumption) (Below.refl _ _).drew | go_keep)
      (first
        | (go_at_call 21; (with_reducible refine (C3.out _ (And.left (by assumption))).mono ?_); rintro e W3 ⟨rfl, b3⟩; have hs3 := keep3 (by assumption) b3)
        | (go_at_call 22; (with_reducible refine (C4.out _).mono ?_); rintro e W4 ⟨rfl, b4⟩; have hs4 := keep3 (by assumption) b4)
        | (go_at_call 10; (with_reducible refine (C5.out _ (And.left (by assumption))).mono ?_); rintro e W5 ⟨rfl, b5⟩; have hs5 := keep3 (by assumption) b5))
    all_goals (
      have HZ := Lib.hid hs5.1
      go_wp2
      go_ret
      exact ⟨rfl, HZ.out⟩)

end Go.Proofs.YtijnmhiiojkcgaaDoor
