/-
  Package net: a packet with bytes of its own (twin).
-/
import Derived.Test.YtenpoolminfofaaNtA
import Derived.Lib.LazyBuf
set_option linter.unusedVariables false
namespace Go.Proofs.Ytenpoolminfofaa
open Go.RowKit

set_option maxHeartbeats 2000000 in
set_option maxRecDepth 100000 in
theorem nClone_some (x : Addr) (n cap : Nat) (l : List UInt8) (w : World) (hl : l.length = n) (hn : n ≤ 1000000) (hb : Bts w (some x) l) :
    Calls Try.prog 33 #[.slice (some x) n cap] w (OwnPost w.heap.size n l w) := by
  obtain ⟨i0, hi, hz0, hz1, hz2⟩ := info_parts infoByte8
  have ho1 : (w.alloc (.cells #[] 5)).ownsRow w.heap.size 5 1 (.slice (some ⟨w.heap.size, 0, none⟩) 0 0) 0 [] := World.ownsRow_lit w #[] 0 (Nat.le_refl _) (Nat.zero_le _) rfl
  have hb1 : Below w.heap.size w (w.alloc (.cells #[] 5)) := (Below.refl _ w).alloc (Nat.le_refl _) _
  have hB1 := hb.later hb1
  have hE := fun (W : World) => run_eql_slice_nil (P := Try.prog) W 34 5 (some x) n cap Try.underlying34
  go_enter Try.func33, Try.ntmps33
  go_wp2_with (at_builtin; go_loud (refine wpList_append_bts _ rfl _ _ 34 rfl w.heap.size 5 i0 Try.underlying34 hi hz0 hz1 hz2 _ _ _ rfl ho1 _ _ _ l rfl hl hB1 (fun h => by cases h) (by omega) hb1.size ?_))
  intro v2 W2 ho2 hg2
  obtain ⟨a2, k2, rfl⟩ := own_slice ho2
  have hb2 := below_grown hb1 (Nat.le_refl _) ho1 hg2
  have H2 := Lib.hid ho2
  clear ho1 hg2 ho2 hB1
  go_wp2
  go_ret
  exact ⟨a2, k2, rfl, H2.out, hb2⟩

set_option maxHeartbeats 2000000 in
set_option maxRecDepth 100000 in
theorem nClone_none (n cap : Nat) (w : World) :
    Calls Try.prog 33 #[.slice none n cap] w fun e w' => e = .returned (.slice none 0 0) ∧ w' = w := by
  have hE := fun (W : World) => run_eql_slice_nil (P := Try.prog) W 34 5 none n cap Try.underlying34
  go_enter Try.func33, Try.ntmps33
  go_wp2
  go_ret
  exact ⟨rfl, rfl⟩

theorem nClone (a : Option Addr) (n cap : Nat) (l : List UInt8) (w : World) (hl : l.length = n) (hn : n ≤ 1000000) (hb : Bts w a l) :
    Calls Try.prog 33 #[.slice a n cap] w (OwnPost w.heap.size n l w) := by
  rcases a with _ | x
  · obtain rfl := hb.none_nil
    obtain rfl : n = 0 := hl.symm
    exact (nClone_none 0 cap w).mono fun e w' ⟨he, hw⟩ => ⟨none, 0, he, ⟨rfl, .inl ⟨rfl, rfl⟩⟩, by rw [hw]; exact Below.refl _ _⟩
  · exact nClone_some x n cap l w hl hn hb

/-- A block that holds a packet. -/
theorem box_cells {w : World} {g : Nat} {x y z : Value} {t : TypeId} (h : w.heap[g]? = some (.cells #[x, y, z] t (0, 0))) :
    w.cell? ⟨g, 0, none⟩ = some x ∧ w.cell? ⟨g, 1, none⟩ = some y ∧ w.cell? ⟨g, 2, none⟩ = some z ∧ w.frozen? ⟨g, 0, none⟩ = false ∧ w.frozen? ⟨g, 1, none⟩ = false ∧ w.frozen? ⟨g, 2, none⟩ = false := by
  refine ⟨?_, ?_, ?_, frozen_of_row _ g 0 _ _ h, frozen_of_row _ g 1 _ _ h, frozen_of_row _ g 2 _ _ h⟩ <;> rw [cell_of_row _ g _ _ _ _ h] <;> rfl
theorem box_below {B : Nat} {w w' : World} {g : Nat} {o : Obj} (h : w.heap[g]? = some o) (hb : Below B w w') (hg : g < B) : w'.heap[g]? = some o := (hb.block g hg).trans h
theorem box_alloc {w : World} {g : Nat} {o : Obj} (h : w.heap[g]? = some o) (o2 : Obj) : (w.alloc o2).heap[g]? = some o := (Below.heap_alloc w o2 g (lt_of_block h)).trans h

/-- What twin leaves. -/
def TwinPost (f t : Int) (l : List UInt8) (w : World) (e : Ending) (w' : World) : Prop :=
  ∃ a c, e = .returned (.agg #[.int .i64 f, .int .i64 t, .slice a l.length c]) ∧ w'.ownsRow w.heap.size 5 1 (.slice a l.length c) l.length (Lib.byteCells l) ∧ Below w.heap.size w w'

set_option maxHeartbeats 4000000 in
set_option maxRecDepth 100000 in
theorem nTwin (f t : Int) (a : Option Addr) (n c : Nat) (l : List UInt8) (w : World) (hl : l.length = n) (hn : n ≤ 1000000) (hb : Bts w a l) :
    Calls Try.prog 27 #[.agg #[.int .i64 f, .int .i64 t, .slice a n c]] w (TwinPost f t l w) := by
  have cC := fun (wx : World) (hx : Below w.heap.size w wx) => nClone a n c l wx hl hn (hb.later hx)
  subst hl
  obtain ⟨n, hn2⟩ : ∃ n, n = l.length := ⟨_, rfl⟩
  have HN := Lib.hid hn2
  unfold TwinPost
  rw [← hn2] at cC ⊢
  have b1 : Below w.heap.size w ((w.alloc (.cells #[.int .i64 f, .int .i64 t, .slice a n c] 36)).alloc (.cells #[.int .i64 0, .int .i64 0, .slice none 0 0] 36)) := ((Below.refl _ w).alloc (Nat.le_refl _) _).alloc (by simp) _
  have g0 := box_alloc (heap_alloc_new w (.cells #[.int .i64 f, .int .i64 t, .slice a n c] 36)) (.cells #[.int .i64 0, .int .i64 0, .slice none 0 0] 36)
  have g1 := heap_alloc_new (w.alloc (.cells #[.int .i64 f, .int .i64 t, .slice a n c] 36)) (.cells #[.int .i64 0, .int .i64 0, .slice none 0 0] 36)
  rw [World.size_alloc] at g1
  clear hn2 hb
  go_enter Try.func27, Try.ntmps27
  go_wp2_with (go_at_call 33; (with_reducible refine (cC _ b1).mono ?_))
  rintro e W2 ⟨a2, c2, rfl, o2, b2⟩
  have hz : ((w.alloc (.cells #[.int .i64 f, .int .i64 t, .slice a n c] 36)).alloc (.cells #[.int .i64 0, .int .i64 0, .slice none 0 0] 36)).heap.size = w.heap.size + 2 := by simp
  have G0 := box_below g0 b2 (by rw [hz]; omega)
  have G1 := box_below g1 b2 (by rw [hz]; omega)
  have bw := b1.trans (b2.mono (by rw [hz]; omega))
  have o2' := own_low (B' := w.heap.size + 2) o2 (by rw [hz]; exact Nat.le_refl _)
  have HO := Lib.hid o2'
  have HB := Lib.hid bw
  obtain ⟨x0, x1, x2, f0, f1, f2⟩ := box_cells G0
  obtain ⟨y0, y1, y2, k0, k1, k2⟩ := box_cells G1
  have HG0 := Lib.hid G0
  have HG1 := Lib.hid G1
  clear o2 o2' b1 b2 bw g0 g1 cC G0 G1 hz
  go_wp2
  refine bodyPost_ret (v := .agg #[.int .i64 f, .int .i64 t, .slice a2 n c2]) (by simp [results, Try.results27, go_sem, y0, y1, y2]) rfl ?_
  refine ⟨a2, c2, rfl, ?_, ?_⟩
  · refine own_low (B := w.heap.size + 2) (ownsRow_setCell_below (ownsRow_setCell_below (ownsRow_setCell_below (ownsRow_setCell_below HO.out ?_ _) ?_ _) ?_ _) ?_ _) (by omega) <;> (simp only []; omega)
  · exact (((HB.out.setCell (by simp) _).setCell (by simp) _).setCell (by simp) _).setCell (by simp) _

end Go.Proofs.Ytenpoolminfofaa
