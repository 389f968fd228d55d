/-
  Places, plainly; cmp.Compare of texts, Of, Behind, and the reference's; Sum of three.
-/
import Derived.Test.YtijnmhiiojkcgaaDoorStX
import Derived.Test.YtijnmhiiojkcgaaDoorStArg
set_option linter.unusedVariables false
namespace Go.Proofs.YtijnmhiiojkcgaaDoor
open Go.RowKit

def ltT (x y : ByteArray) : Bool := Op.bytesLess x.toList y.toList
theorem bl_irr : ∀ l : List UInt8, Op.bytesLess l l = false
  | [] => rfl
  | a :: l => by
    unfold Op.bytesLess
    rw [bl_irr l]
    simp
theorem bl_tri : ∀ l m : List UInt8, (Op.bytesLess l m = true ∧ Op.bytesLess m l = false ∧ l ≠ m) ∨ (Op.bytesLess l m = false ∧ Op.bytesLess m l = true ∧ l ≠ m) ∨ (Op.bytesLess l m = false ∧ Op.bytesLess m l = false ∧ l = m)
  | [], [] => .inr (.inr ⟨rfl, rfl, rfl⟩)
  | [], b :: m => .inl ⟨rfl, rfl, by simp⟩
  | a :: l, [] => .inr (.inl ⟨rfl, rfl, by simp⟩)
  | a :: l, b :: m => by
    unfold Op.bytesLess
    have hlt : ∀ x y : UInt8, (x < y) ↔ x.toNat < y.toNat := fun x y => UInt8.lt_iff_toNat_lt
    have heq : ∀ x y : UInt8, (x = y) ↔ x.toNat = y.toNat := fun x y => ⟨fun h => by rw [h], fun h => UInt8.toNat_inj.1 h⟩
    by_cases h1 : a.toNat < b.toNat
    · left
      have n1 : ¬ b.toNat < a.toNat := by omega
      have n2 : ¬ a.toNat = b.toNat := by omega
      have n3 : ¬ b.toNat = a.toNat := by omega
      simp [hlt, heq, h1, n1, n2, n3]
    · by_cases h2 : b.toNat < a.toNat
      · right; left
        have n2 : ¬ a.toNat = b.toNat := by omega
        simp [hlt, heq, h1, h2, n2]
      · have h3 : a = b := (heq a b).2 (by omega)
        subst h3
        rcases bl_tri l m with ⟨x, y, z⟩ | ⟨x, y, z⟩ | ⟨x, y, z⟩
        · left; simp [x, y, z]
        · right; left; simp [x, y, z]
        · right; right
          subst z
          simp [bl_irr]
theorem lt_tri (x y : ByteArray) : (ltT x y = true ∧ ltT y x = false ∧ x ≠ y) ∨ (ltT x y = false ∧ ltT y x = true ∧ x ≠ y) ∨ (ltT x y = false ∧ ltT y x = false ∧ x = y) := by
  unfold ltT
  rcases bl_tri x.toList y.toList with ⟨h1, h2, h3⟩ | ⟨h1, h2, h3⟩ | ⟨h1, h2, h3⟩
  · exact .inl ⟨h1, h2, fun e => h3 (by rw [e])⟩
  · exact .inr (.inl ⟨h1, h2, fun e => h3 (by rw [e])⟩)
  · refine .inr (.inr ⟨h1, h2, ?_⟩)
    rw [ByteArray.toList_eq, ByteArray.toList_eq] at h3
    exact ByteArray.ext (Array.toList_inj.1 h3)
def cmpT (x y : ByteArray) : Int := if ltT x y = true then -1 else if x = y then 0 else 1
theorem cmpT_turn (x y : ByteArray) : cmpT y x = - cmpT x y ∧ (cmpT x y = 0 ↔ x = y) ∧ (0 < cmpT x y ↔ ltT y x = true) := by
  unfold cmpT
  rcases lt_tri x y with ⟨h1, h2, h3⟩ | ⟨h1, h2, h3⟩ | ⟨h1, h2, h3⟩
  · have h4 : ¬ y = x := fun e => h3 e.symm
    rw [h1, h2, if_pos rfl, if_neg (by simp), if_neg h4]
    simp [h3]
  · rw [h1, h2, if_pos rfl, if_neg (by simp), if_neg h3]
    simp [h3]
  · subst h3
    rw [h1, if_neg (by simp), if_pos rfl]
    simp
def cmpP (a b : Cu) : Int := or3 (cmpS a.t b.t) (cmpI a.i b.i) (cmpT a.s b.s)
theorem cmpI_turn (x y : Int) : cmpI y x = - cmpI x y ∧ (cmpI x y = 0 ↔ x = y) ∧ (0 < cmpI x y ↔ y < x) := by
  unfold cmpI
  refine ⟨?_, ?_, ?_⟩ <;> (repeat' split) <;> omega
theorem cmpS_turn (a b : Sm) : cmpS b a = - cmpS a b := by
  unfold cmpS or3
  rw [(cmpI_turn a.w b.w).1, (cmpI_turn a.l b.l).1, (cmpI_turn a.n b.n).1]
  repeat' split
  all_goals omega
theorem Cu.ext' {a b : Cu} (h1 : a.t = b.t) (h2 : a.i = b.i) (h3 : a.s = b.s) : a = b := by
  cases a; cases b; simp_all
theorem cmpP_turn (a b : Cu) : cmpP b a = - cmpP a b ∧ (cmpP a b = 0 ↔ a = b) := by
  have h1 := cmpS_turn a.t b.t
  have h2 := cmpI_turn a.i b.i
  have h3 := cmpT_turn a.s b.s
  have h4 := cmpS_zero a.t b.t
  refine ⟨?_, ?_⟩
  · unfold cmpP or3
    rw [h1, h2.1, h3.1]
    repeat' split
    all_goals omega
  · constructor
    · intro h
      unfold cmpP or3 at h
      by_cases k1 : cmpS a.t b.t = 0
      · rw [if_neg (by omega)] at h
        by_cases k2 : cmpI a.i b.i = 0
        · rw [if_neg (by omega)] at h
          exact Cu.ext' (h4.1 k1) (h2.2.1.1 k2) (h3.2.1.1 h)
        · rw [if_pos k2] at h
          exact absurd h k2
      · rw [if_pos k1] at h
        exact absurd h k1
    · intro h
      subst h
      unfold cmpP or3
      rw [h4.2 rfl, h2.2.1.2 rfl, h3.2.1.2 rfl]
      simp
def ofE (a : Ev) : Cu := ⟨a.t, a.i, a.s⟩
/-- Whether an event is behind a place. -/
def behB (e : Ev) (c : Cu) : Bool := decide (0 < cmpP (ofE e) c)
theorem behB_ref (e : Ev) (c : Cu) : behB e c = if c.t ≠ e.t then lessB c.t e.t else if c.i ≠ e.i then decide (c.i < e.i) else ltT c.s e.s := by
  unfold behB cmpP ofE or3
  simp only
  have h1 := cmpS_zero e.t c.t
  have h2 := cmpI_turn e.i c.i
  have h3 := cmpT_turn e.s c.s
  by_cases k1 : c.t = e.t
  · have z1 : ¬ cmpS e.t c.t ≠ 0 := fun h => h (h1.2 k1.symm)
    have z2 : ¬ c.t ≠ e.t := fun h => h k1
    rw [if_neg z1, if_neg z2]
    by_cases k2 : c.i = e.i
    · have z3 : ¬ cmpI e.i c.i ≠ 0 := fun h => h (h2.2.1.2 k2.symm)
      have z4 : ¬ c.i ≠ e.i := fun h => h k2
      rw [if_neg z3, if_neg z4]
      cases hl : ltT c.s e.s with
      | true => exact decide_eq_true (h3.2.2.2 hl)
      | false => exact decide_eq_false (fun h => by rw [h3.2.2.1 h] at hl; cases hl)
    · rw [if_pos (show c.i ≠ e.i from k2), if_pos (show cmpI e.i c.i ≠ 0 from fun h => k2 (h2.2.1.1 h).symm)]
      by_cases hl : c.i < e.i
      · rw [decide_eq_true hl]; exact decide_eq_true (h2.2.2.2 hl)
      · rw [decide_eq_false hl]; exact decide_eq_false (fun h => hl (h2.2.2.1 h))
  · rw [if_pos (show c.t ≠ e.t from k1), if_pos (show cmpS e.t c.t ≠ 0 from fun h => k1 (h1.1 h).symm)]
    exact cmpS_pos e.t c.t

theorem nanS_any (x : ByteArray) (w : World) : Calls Tryd.prog 49 #[.string x] w fun e w' => e = .returned (.bool false) ∧ w = w' := by
  go_enter Tryd.func49, Tryd.ntmps49
  go_wp2
  go_ret
  exact ⟨by simp, rfl⟩
set_option maxHeartbeats 2000000 in
set_option maxRecDepth 100000 in
theorem cmpT_any (x y : ByteArray) (w : World) : Calls Tryd.prog 43 #[.string x, .string y] w fun e w' => e = .returned (.int .i64 (cmpT x y)) ∧ w = w' := by
  have H := Lib.hid (show cmpT x y = if ltT x y = true then -1 else if x = y then 0 else 1 from rfl)
  cases hl : ltT x y with
  | true =>
    have h1 : Op.bytesLess x.toList y.toList = true := hl
    rw [if_pos hl] at H
    clear hl
    go_enter Tryd.func43, Tryd.ntmps43
    go_wp2_with (go_at_call 49; (with_reducible refine (nanS_any _ _).mono ?_); rintro e W ⟨rfl, rfl⟩)
    go_ret
    exact ⟨retI H.out.symm, rfl⟩
  | false =>
    have h1 : Op.bytesLess x.toList y.toList = false := hl
    rw [if_neg (by rw [hl]; simp)] at H
    clear hl
    by_cases he : x = y
    · have e1 := txt_eq he
      rw [if_pos he] at H
      clear he
      go_enter Tryd.func43, Tryd.ntmps43
      go_wp2_with (go_at_call 49; (with_reducible refine (nanS_any _ _).mono ?_); rintro e W ⟨rfl, rfl⟩)
      go_ret
      exact ⟨retI H.out.symm, rfl⟩
    · have e1 := txt_ne he
      rw [if_neg he] at H
      clear he
      go_enter Tryd.func43, Tryd.ntmps43
      go_wp2_with (go_at_call 49; (with_reducible refine (nanS_any _ _).mono ?_); rintro e W ⟨rfl, rfl⟩)
      go_ret
      exact ⟨retI H.out.symm, rfl⟩

set_option maxHeartbeats 2000000 in
set_option maxRecDepth 100000 in
theorem of_any (a : Ev) (w : World) :
    Calls Tryd.prog 29 #[.agg #[.string a.s, .int .i64 a.v, .string a.d, .int .i64 a.t.w, .int .i64 a.t.l, .int .i64 a.t.n, .int .i64 a.i]] w (TelPost (.agg #[.int .i64 a.t.w, .int .i64 a.t.l, .int .i64 a.t.n, .int .i64 a.i, .string a.s]) w) := by
  obtain ⟨s, v, d, ⟨tw, tl, tn⟩, i⟩ := a
  simp only
  have G := heap_alloc_new (w.alloc (.cells #[.string s, .int .i64 v, .string d, .int .i64 tw, .int .i64 tl, .int .i64 tn, .int .i64 i] 45)) (.cells #[.int .i64 tw, .int .i64 tl, .int .i64 tn, .int .i64 i, .string s] 47)
  rw [World.size_alloc] at G
  have hc : ∀ j, ((w.alloc (.cells #[.string s, .int .i64 v, .string d, .int .i64 tw, .int .i64 tl, .int .i64 tn, .int .i64 i] 45)).alloc (.cells #[.int .i64 tw, .int .i64 tl, .int .i64 tn, .int .i64 i, .string s] 47)).cell? ⟨w.heap.size + 1, j, none⟩ = (#[Value.int .i64 tw, .int .i64 tl, .int .i64 tn, .int .i64 i, .string s])[j]? := fun j => cell_of_row _ _ _ _ _ _ G
  have x0 := hc 0
  have x1 := hc 1
  have x2 := hc 2
  have x3 := hc 3
  have x4 := hc 4
  simp only [List.getElem?_toArray, List.getElem?_cons_zero, List.getElem?_cons_succ] at x0 x1 x2 x3 x4
  clear hc G
  go_enter Tryd.func29, Tryd.ntmps29
  go_wp2
  refine bodyPost_ret (v := .agg #[.int .i64 tw, .int .i64 tl, .int .i64 tn, .int .i64 i, .string s]) (by simp [results, Tryd.results29, go_sem, x0, x1, x2, x3, x4]) rfl ?_
  exact ⟨rfl, ((Below.refl _ w).alloc (Nat.le_refl _) _).alloc (by simp) _⟩

end Go.Proofs.YtijnmhiiojkcgaaDoor
