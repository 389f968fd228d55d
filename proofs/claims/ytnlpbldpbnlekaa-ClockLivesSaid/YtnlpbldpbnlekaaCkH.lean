/-
  The law's awake.
-/
import Derived.Test.YtnlpbldpbnlekaaCkE
set_option linter.unusedVariables false
namespace Go.Proofs.Ytnlpbldpbnlekaa
open Go.RowKit

instance : DecidableEq Ck := fun a b => decidable_of_iff (a.r = b.r ∧ a.s = b.s) ⟨fun h => by cases a; cases b; simp_all, fun h => by subst h; exact ⟨rfl, rfl⟩⟩
theorem ne_gt {a g : Nat} (h : g < a) : ¬ (fun i => i = g) a := fun e => by
  have e2 : a = g := e
  omega
/-- A box of three numbers lies in a world. -/
def Bx (w : World) (b : Nat) (s : Sm) : Prop := w.heap[b]? = some (.cells #[.int .i64 s.w, .int .i64 s.l, .int .i64 s.n] 32 (0, 0))
theorem Bx.kept {w w' : World} {b : Nat} {s : Sm} {S : Nat → Prop} (h : Bx w b s) (hk : Kept S w w') (hs : ¬ S b) : Bx w' b s := (hk.block b (lt_of_block h) hs).trans h
theorem Bx.later {w w' : World} {b : Nat} {s : Sm} (h : Bx w b s) (hb : Below w.heap.size w w') : Bx w' b s := (hb.block b (lt_of_block h)).trans h
theorem Bx.new (w : World) (s : Sm) : Bx (w.alloc (.cells #[.int .i64 s.w, .int .i64 s.l, .int .i64 s.n] 32)) w.heap.size s := heap_alloc_new _ _
theorem Bx.alloc {w : World} {b : Nat} {s : Sm} (h : Bx w b s) (o : Obj) : Bx (w.alloc o) b s := box_alloc h o
theorem CkAt.alloc {w : World} {b : Nat} {k : Ck} (h : CkAt w b k) (o : Obj) : CkAt (w.alloc o) b k := box_alloc h o
theorem kept_below {B g : Nat} {w W W' : World} (hb : Below B w W) (hk : Kept (fun i => i = g) W W') (hg : B ≤ g) (hB : B ≤ w.heap.size) : Below B w W' :=
  hb.trans (hk.below (Nat.le_trans hB hb.size) (fun k e => by subst e; exact hg))
theorem Kept.sz {S : Nat → Prop} {w w' : World} {b : Nat} (h : Kept S w w') (hb : b < w.heap.size) : b < w'.heap.size := Nat.lt_of_lt_of_le hb h.size

/-- What a Tick leaves, its parts named. -/
def TickAs (g : Nat) (s : Sm) (k' : Ck) (c : Int) (w : World) (e : Ending) (w' : World) : Prop :=
  e = .returned (.tuple #[.agg #[.int .i64 s.w, .int .i64 s.l, .int .i64 s.n], .int .i64 c]) ∧ CkAt w' g k' ∧ Kept (fun i => i = g) w w'
theorem tick_as (g : Nat) (k : Ck) (s : Sm) (k' : Ck) (c : Int) (hs : tickS k = s) (hk' : tickC k = k') (hc : tickE k = c) (w : World) (h : CkAt w g k) (hk : CkOk k) :
    Calls Try.prog 14 #[.pointer (some ⟨g, 0, none⟩)] w (TickAs g s k' c w) := by
  subst hs hk' hc
  exact tick_any g k w h hk
theorem read_as (g : Nat) (k : Ck) (n : Int) (k' : Ck) (hk' : readC n k = k') (w : World) (h : CkAt w g k) (hk : CkOk k) :
    Calls Try.prog 12 #[.pointer (some ⟨g, 0, none⟩), .int .i64 n] w (CkPost g k' (.tuple #[]) w) := by
  subst hk'
  exact read_any g k n w h hk
theorem merge_as (g : Nat) (k : Ck) (s : Sm) (k' : Ck) (c : Int) (hk' : mergeC s k = k') (hc : mergeE s k = c) (w : World) (h : CkAt w g k) (hk : CkOk k) :
    Calls Try.prog 16 #[.pointer (some ⟨g, 0, none⟩), .agg #[.int .i64 s.w, .int .i64 s.l, .int .i64 s.n]] w (CkPost g k' (.int .i64 c) w) := by
  subst hk' hc
  exact merge_any g k s w h hk
theorem new_as (node floor : Int) (h : newB node floor = true) (w : World) (g : Nat) (hg : w.heap.size = g) : Calls Try.prog 10 #[.int .i64 node, .int .i64 floor] w
    (fun e w' => e = .returned (.tuple #[.pointer (some ⟨g, 0, none⟩), .int .i64 0]) ∧ CkAt w' g (newC node floor) ∧ Below g w w') := by
  subst hg
  exact new_yes node floor h w

theorem ok1 : CkOk ⟨0, ⟨0, 0, 1⟩⟩ := by constructor <;> decide
theorem ok2 : CkOk ⟨5, ⟨0, 0, 1⟩⟩ := by constructor <;> decide
theorem ok3 : CkOk ⟨5, ⟨5, 0, 1⟩⟩ := by constructor <;> decide
theorem ok4 : CkOk ⟨5, ⟨5, 1, 1⟩⟩ := by constructor <;> decide
theorem ok5 : CkOk ⟨5, ⟨9, 3, 1⟩⟩ := by constructor <;> decide

set_option maxHeartbeats 8000000 in
set_option maxRecDepth 100000 in
theorem awake_any (w : World) : Calls Try.prog 9 #[] w (TelPost (.bool true) w) := by
  obtain ⟨g, hg⟩ : ∃ g, w.heap.size = g := ⟨_, rfl⟩
  have HG := Lib.hid hg
  have cN := new_as 1 0 (by decide) w g hg
  clear hg
  go_enter Try.func9, Try.ntmps9
  go_wp2_with (go_at_call 10; (with_reducible refine cN.mono ?_))
  rintro e W0 ⟨rfl, A0, B0⟩
  have c1 := read_as g ⟨0, ⟨0, 0, 1⟩⟩ 5 ⟨5, ⟨0, 0, 1⟩⟩ (by decide) W0 A0 ok1
  have HB0 := Lib.hid B0
  clear A0 B0 cN
  go_wp2_with (go_at_call 12; (with_reducible refine c1.mono ?_))
  rintro e W1 ⟨rfl, A1, K1⟩
  have hz1 := lt_of_block A1
  have c2 := tick_as g ⟨5, ⟨0, 0, 1⟩⟩ ⟨5, 0, 1⟩ ⟨5, ⟨5, 0, 1⟩⟩ 0 (by decide) (by decide) (by decide) W1 A1 ok2
  have HB1 := Lib.hid (kept_below HB0.out K1 (Nat.le_refl _) (by rw [HG.out]; exact Nat.le_refl _))
  clear A1 K1 c1
  go_wp2_with (go_at_call 14; (with_reducible refine c2.mono ?_))
  rintro e W2 ⟨rfl, A2, K2⟩
  have hz2 := lt_of_block A2
  have A2a := A2.alloc (.cells #[.int .i64 5, .int .i64 0, .int .i64 1] 32)
  have c3 := tick_as g ⟨5, ⟨5, 0, 1⟩⟩ ⟨5, 1, 1⟩ ⟨5, ⟨5, 1, 1⟩⟩ 0 (by decide) (by decide) (by decide) _ A2a ok3
  have HX2 := Lib.hid (Bx.new W2 ⟨5, 0, 1⟩)
  have HB2 := Lib.hid ((kept_below HB1.out K2 (Nat.le_refl _) (by rw [HG.out]; exact Nat.le_refl _)).alloc (by omega) (.cells #[.int .i64 5, .int .i64 0, .int .i64 1] 32))
  clear A2 A2a K2 c2
  go_wp2_with (go_at_call 14; (with_reducible refine c3.mono ?_))
  rintro e W3 ⟨rfl, A3, K3⟩
  have hz3 := K3.size
  rw [World.size_alloc] at hz3
  have A3a := A3.alloc (.cells #[.int .i64 5, .int .i64 1, .int .i64 1] 32)
  have c4 := merge_as g ⟨5, ⟨5, 1, 1⟩⟩ ⟨9, 3, 2⟩ ⟨5, ⟨9, 3, 1⟩⟩ 0 (by decide) (by decide) _ A3a ok4
  have HX3 := Lib.hid ((HX2.out.kept K3 (ne_gt (by omega))).alloc (.cells #[.int .i64 5, .int .i64 1, .int .i64 1] 32))
  have HY3 := Lib.hid (Bx.new W3 ⟨5, 1, 1⟩)
  have HB3 := Lib.hid ((kept_below HB2.out K3 (Nat.le_refl _) (by rw [HG.out]; exact Nat.le_refl _)).alloc (by omega) (.cells #[.int .i64 5, .int .i64 1, .int .i64 1] 32))
  clear A3 A3a K3 c3
  go_wp2_with (go_at_call 16; (with_reducible refine c4.mono ?_))
  rintro e W4 ⟨rfl, A4, K4⟩
  have hz4 := K4.size
  rw [World.size_alloc] at hz4
  have c5 := tick_as g ⟨5, ⟨9, 3, 1⟩⟩ ⟨9, 4, 1⟩ ⟨5, ⟨9, 4, 1⟩⟩ 0 (by decide) (by decide) (by decide) _ A4 ok5
  have HX4 := Lib.hid (HX3.out.kept K4 (ne_gt (by omega)))
  have HY4 := Lib.hid (HY3.out.kept K4 (ne_gt (by omega)))
  have HB4 := Lib.hid (kept_below HB3.out K4 (Nat.le_refl _) (by rw [HG.out]; exact Nat.le_refl _))
  clear A4 K4 c4
  go_wp2_with (go_at_call 14; (with_reducible refine c5.mono ?_))
  rintro e W5 ⟨rfl, A5, K5⟩
  have HB5 := Lib.hid (kept_below HB4.out K5 (Nat.le_refl _) (by rw [HG.out]; exact Nat.le_refl _))
  have X5 : W5.heap[W2.heap.size]? = some (.cells #[.int .i64 5, .int .i64 0, .int .i64 1] 32 (0, 0)) := HX4.out.kept K5 (ne_gt (by omega))
  have Y5 : W5.heap[W3.heap.size]? = some (.cells #[.int .i64 5, .int .i64 1, .int .i64 1] 32 (0, 0)) := HY4.out.kept K5 (ne_gt (by omega))
  obtain ⟨x0, x1, x2, _⟩ := box_cells (box_alloc X5 (.cells #[.int .i64 9, .int .i64 4, .int .i64 1] 32))
  obtain ⟨y0, y1, y2, _⟩ := box_cells (box_alloc Y5 (.cells #[.int .i64 9, .int .i64 4, .int .i64 1] 32))
  clear X5 Y5
  have hz5 := K5.size
  clear A5 K5 c5
  go_wp2
  go_ret
  exact ⟨rfl, by rw [HG.out]; exact HB5.out.alloc (by omega) _⟩

end Go.Proofs.Ytnlpbldpbnlekaa
