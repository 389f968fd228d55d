/-
  Package clock: next, Tick, Now, Reading.
-/
import Derived.Test.YtnlpbldpbnlekaaCkA
set_option linter.unusedVariables false
namespace Go.Proofs.Ytnlpbldpbnlekaa
open Go.RowKit

theorem box_other {W : World} {g : Nat} {o : Obj} (h : W.heap[g]? = some o) (p : Addr) (hp : g ≠ p.block) (v : Value) : (W.setCell p v).heap[g]? = some o := (heap_setCell_other _ _ _ _ hp).trans h
theorem box_drew {W : World} {g : Nat} {o : Obj} (h : W.heap[g]? = some o) (n : Nat) : (W.drewN n).heap[g]? = some o := h
theorem end3 {W : World} {g : Nat} {x y z : Value} {t : TypeId} (h : W.heap[g]? = some (.cells #[x, y, z] t (0, 0))) (a b c : Value) :
    (((W.setCell ⟨g, 0, none⟩ a).setCell ⟨g, 1, none⟩ b).setCell ⟨g, 2, none⟩ c).cell? ⟨g, 0, none⟩ = some a ∧
    (((W.setCell ⟨g, 0, none⟩ a).setCell ⟨g, 1, none⟩ b).setCell ⟨g, 2, none⟩ c).cell? ⟨g, 1, none⟩ = some b ∧
    (((W.setCell ⟨g, 0, none⟩ a).setCell ⟨g, 1, none⟩ b).setCell ⟨g, 2, none⟩ c).cell? ⟨g, 2, none⟩ = some c := by
  obtain ⟨h0, h1, h2, _⟩ := box_cells (set3 h a b c)
  exact ⟨h0, h1, h2⟩

set_option maxHeartbeats 4000000 in
set_option maxRecDepth 100000 in
theorem next_any (g : Nat) (k : Ck) (w : World) (h : CkAt w g k) (hk : CkOk k) :
    Calls Try.prog 24 #[.pointer (some ⟨g, 0, none⟩)] w (TelPost (.agg #[.int .i64 (tellS k).w, .int .i64 (tellS k).l, .int .i64 (tellS k).n]) w) := by
  obtain ⟨d0, d1, d2, d3, f0, f1, f2, f3⟩ := four_cells h
  have hl1 := hk.l1
  have hl0 := hk.l0
  have hg := lt_of_block h
  have G := Lib.hid (box_alloc (heap_alloc_new w (.cells #[.int .i64 0, .int .i64 0, .int .i64 0] 32)) (.cells #[.int .i64 k.s.w, .int .i64 k.s.l, .int .i64 k.s.n] 32))
  have HB := Lib.hid (((Below.refl w.heap.size w).alloc (Nat.le_refl _) (.cells #[.int .i64 0, .int .i64 0, .int .i64 0] 32)).alloc (by simp) (.cells #[.int .i64 k.s.w, .int .i64 k.s.l, .int .i64 k.s.n] 32))
  clear h
  by_cases hw : k.s.w < k.r
  · have HT : Hid (tellS k = ⟨k.r, 0, k.s.n⟩) := by show _ = _; unfold tellS; rw [if_pos hw]
    go_enter Try.func24, Try.ntmps24
    go_wp2_with fail
    go_quiet (fail)
    go_wp2
    obtain ⟨z0, z1, z2⟩ := end3 (box_other (box_other (box_drew G.out nq) ⟨w.heap.size + 1, 0, none⟩ (by simp) (.int .i64 k.r)) ⟨w.heap.size + 1, 1, none⟩ (by simp) (.int .i64 0)) (.int .i64 k.r) (.int .i64 0) (.int .i64 k.s.n)
    refine bodyPost_ret (v := .agg #[.int .i64 k.r, .int .i64 0, .int .i64 k.s.n]) (by simp [results, Try.results24, go_sem, z0, z1, z2]) rfl ?_
    exact ⟨by rw [HT.out], below3 (((below_drewN HB.out _).setCell (by simp) _).setCell (by simp) _) (Nat.le_refl _) _ _ _⟩
  · have HT : Hid (tellS k = ⟨k.s.w, k.s.l + 1, k.s.n⟩) := by show _ = _; unfold tellS; rw [if_neg hw]
    go_enter Try.func24, Try.ntmps24
    go_wp2_with fail
    go_quiet (fail)
    go_wp2
    obtain ⟨z0, z1, z2⟩ := end3 (box_other (box_drew G.out nq) ⟨w.heap.size + 1, 1, none⟩ (by simp) (.int .i64 (k.s.l + 1))) (.int .i64 k.s.w) (.int .i64 (k.s.l + 1)) (.int .i64 k.s.n)
    refine bodyPost_ret (v := .agg #[.int .i64 k.s.w, .int .i64 (k.s.l + 1), .int .i64 k.s.n]) (by simp [results, Try.results24, go_sem, z0, z1, z2]) rfl ?_
    exact ⟨by rw [HT.out], below3 ((below_drewN HB.out _).setCell (by simp) _) (Nat.le_refl _) _ _ _⟩

theorem CkAt.put {w : World} {g : Nat} {k : Ck} (h : CkAt w g k) (s : Sm) :
    CkAt (((w.setCell ⟨g, 1, none⟩ (.int .i64 s.w)).setCell ⟨g, 2, none⟩ (.int .i64 s.l)).setCell ⟨g, 3, none⟩ (.int .i64 s.n)) g ⟨k.r, s⟩ :=
  heap_setCell_same _ g 3 _ _ _ (heap_setCell_same _ g 2 _ _ _ (heap_setCell_same _ g 1 _ _ _ h))
theorem kept_put {S : Nat → Prop} {a w : World} {g : Nat} (h : Kept S a w) (hg : S g) (x y z : Value) :
    Kept S a (((w.setCell ⟨g, 1, none⟩ x).setCell ⟨g, 2, none⟩ y).setCell ⟨g, 3, none⟩ z) := ((h.setCell (fun _ => hg) _).setCell (fun _ => hg) _).setCell (fun _ => hg) _
theorem Kept.box {S : Nat → Prop} {a w : World} {g : Nat} (h : Kept S a w) (hg : a.heap.size ≤ g) (x y z : Value) :
    Kept S a (((w.setCell ⟨g, 0, none⟩ x).setCell ⟨g, 1, none⟩ y).setCell ⟨g, 2, none⟩ z) :=
  ((h.setCell (p := ⟨g, 0, none⟩) (fun h => absurd h (by simp; omega)) _).setCell (p := ⟨g, 1, none⟩) (fun h => absurd h (by simp; omega)) _).setCell (p := ⟨g, 2, none⟩) (fun h => absurd h (by simp; omega)) _
theorem CkAt.box {w : World} {g b : Nat} {k : Ck} (h : CkAt w g k) (hb : g ≠ b) (x y z : Value) :
    CkAt (((w.setCell ⟨b, 0, none⟩ x).setCell ⟨b, 1, none⟩ y).setCell ⟨b, 2, none⟩ z) g k := box_other (box_other (box_other h _ hb _) _ hb _) _ hb _

set_option maxRecDepth 100000 in
theorem now_nil (w : World) : Calls Try.prog 18 #[.pointer none] w (TelPost (.agg #[.int .i64 0, .int .i64 0, .int .i64 0]) w) := by
  have G := heap_alloc_new w (.cells #[.int .i64 0, .int .i64 0, .int .i64 0] 32)
  obtain ⟨z0, z1, z2, _⟩ := box_cells G
  go_enter Try.func18, Try.ntmps18
  go_wp2
  refine bodyPost_ret (v := .agg #[.int .i64 0, .int .i64 0, .int .i64 0]) (by simp [results, Try.results18, go_sem, z0, z1, z2]) rfl ?_
  exact ⟨rfl, (Below.refl _ _).alloc (Nat.le_refl _) _⟩
set_option maxRecDepth 100000 in
theorem now_any (g : Nat) (k : Ck) (w : World) (h : CkAt w g k) : Calls Try.prog 18 #[.pointer (some ⟨g, 0, none⟩)] w (TelPost (.agg #[.int .i64 k.s.w, .int .i64 k.s.l, .int .i64 k.s.n]) w) := by
  obtain ⟨d0, d1, d2, d3, f0, f1, f2, f3⟩ := four_cells h
  have hg := lt_of_block h
  have G := heap_alloc_new w (.cells #[.int .i64 k.s.w, .int .i64 k.s.l, .int .i64 k.s.n] 32)
  obtain ⟨z0, z1, z2, _⟩ := box_cells G
  clear h G
  go_enter Try.func18, Try.ntmps18
  go_wp2
  refine bodyPost_ret (v := .agg #[.int .i64 k.s.w, .int .i64 k.s.l, .int .i64 k.s.n]) (by simp [results, Try.results18, go_sem, z0, z1, z2]) rfl ?_
  exact ⟨rfl, (Below.refl _ _).alloc (Nat.le_refl _) _⟩
set_option maxRecDepth 100000 in
theorem reading_nil (w : World) : Calls Try.prog 20 #[.pointer none] w fun e w' => e = .returned (.int .i64 0) ∧ w = w' := by
  go_enter Try.func20, Try.ntmps20
  go_wp2
  go_ret
  exact ⟨rfl, rfl⟩
set_option maxRecDepth 100000 in
theorem reading_any (g : Nat) (k : Ck) (w : World) (h : CkAt w g k) : Calls Try.prog 20 #[.pointer (some ⟨g, 0, none⟩)] w fun e w' => e = .returned (.int .i64 k.r) ∧ w = w' := by
  obtain ⟨d0, d1, d2, d3, f0, f1, f2, f3⟩ := four_cells h
  clear h
  go_enter Try.func20, Try.ntmps20
  go_wp2
  go_ret
  exact ⟨rfl, rfl⟩

end Go.Proofs.Ytnlpbldpbnlekaa
