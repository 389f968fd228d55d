/-
  Stamps: their order, plainly; cmp.Compare, cmp.Or, compare, Less, Sound, and the reference's.
-/
import Derived.Test.YtnlpbldpbnlekaaKp
import Derived.Test.YtnlpbldpbnlekaaShelf
import Derived.Lib.Small
set_option linter.unusedVariables false
namespace Go.Proofs.Ytnlpbldpbnlekaa
open Go.RowKit

/-- A stamp. -/
structure Sm where
  w : Int
  l : Int
  n : Int
theorem Sm.ext' {a b : Sm} (h1 : a.w = b.w) (h2 : a.l = b.l) (h3 : a.n = b.n) : a = b := by
  cases a; cases b; simp_all
theorem Sm.ext_iff' {a b : Sm} : a = b ↔ a.w = b.w ∧ a.l = b.l ∧ a.n = b.n :=
  ⟨fun h => by subst h; exact ⟨rfl, rfl, rfl⟩, fun h => Sm.ext' h.1 h.2.1 h.2.2⟩
instance : DecidableEq Sm := fun a b => decidable_of_iff _ Sm.ext_iff'.symm

def cmpI (x y : Int) : Int := if x < y then -1 else if y < x then 1 else 0
def or3 (x y z : Int) : Int := if x ≠ 0 then x else if y ≠ 0 then y else z
def cmpS (a b : Sm) : Int := or3 (cmpI a.w b.w) (cmpI a.l b.l) (cmpI a.n b.n)
/-- The order. -/
def lessB (a b : Sm) : Bool := if a.w ≠ b.w then decide (a.w < b.w) else if a.l ≠ b.l then decide (a.l < b.l) else decide (a.n < b.n)
def soundB (a : Sm) : Bool := decide (0 ≤ a.w ∧ a.w ≤ 1125899906842624 ∧ 0 ≤ a.l ∧ a.l < 65536 ∧ 0 ≤ a.n ∧ a.n ≤ 5)

theorem cmpI_range (x y : Int) : -1 ≤ cmpI x y ∧ cmpI x y ≤ 1 := by unfold cmpI; split <;> (try split) <;> omega
theorem less_cmp (a b : Sm) : decide (cmpS a b < 0) = lessB a b := by
  unfold cmpS lessB or3 cmpI
  repeat' split
  all_goals simp_all
  all_goals omega
theorem cmpS_zero (a b : Sm) : cmpS a b = 0 ↔ a = b := by
  rw [Sm.ext_iff']
  unfold cmpS or3 cmpI
  repeat' split
  all_goals simp_all
  all_goals omega
theorem cmpS_pos (a b : Sm) : decide (0 < cmpS a b) = lessB b a := by
  unfold cmpS lessB or3 cmpI
  repeat' split
  all_goals simp_all
  all_goals omega
theorem cmpS_range (a b : Sm) : -1 ≤ cmpS a b ∧ cmpS a b ≤ 1 := by
  unfold cmpS or3
  have h1 := cmpI_range a.w b.w
  have h2 := cmpI_range a.l b.l
  have h3 := cmpI_range a.n b.n
  repeat' split
  all_goals assumption
theorem cmpI_lib (x y : Int) : Lib.compareInt x y = cmpI x y := rfl

theorem cmp_any (x y : Int) (w : World) : Calls Try.prog 31 #[.int .i64 x, .int .i64 y] w fun e w' => e = .returned (.int .i64 (cmpI x y)) ∧ w = w' :=
  (Try.cmp_Compare_int x y w).mono fun e w' ⟨h1, h2⟩ => ⟨h1, h2.symm⟩

def OrAt (x y z : Int) (i : Value) : Prop := i = .int .i64 0 ∨ (i = .int .i64 1 ∧ x = 0) ∨ (i = .int .i64 2 ∧ x = 0 ∧ y = 0) ∨ (i = .int .i64 3 ∧ x = 0 ∧ y = 0 ∧ z = 0)
set_option maxHeartbeats 2000000 in
set_option maxRecDepth 100000 in
theorem or_any (x y z : Int) (g c : Nat) (w : World) (h0 : w.cell? ⟨g, 0, none⟩ = some (.int .i64 x)) (h1 : w.cell? ⟨g, 1, none⟩ = some (.int .i64 y)) (h2 : w.cell? ⟨g, 2, none⟩ = some (.int .i64 z)) :
    Calls Try.prog 30 #[.slice (some ⟨g, 0, none⟩) 3 c] w fun e w' => e = .returned (.int .i64 (or3 x y z)) ∧ w = w' := by
  have H := Lib.hid (show or3 x y z = if x ≠ 0 then x else if y ≠ 0 then y else z from rfl)
  go_enter Try.func30, Try.ntmps30
  go_wp2
  go_loop [8] (fun i => OrAt x y z i) (fun i => 3 - (intOf i).toNat)
  case atStart => exact .inl rfl
  case round =>
    rcases hrel with rfl | ⟨rfl, hx⟩ | ⟨rfl, hx, hy⟩ | ⟨rfl, hx, hy, hz⟩
    · by_cases hx : x = 0
      · go_wp2
        go_round
        case measure => decide
        case rel => exact .inr (.inl ⟨rfl, hx⟩)
      · have e : (x == 0) = false := by simpa using hx
        go_wp2
        go_ret
        exact ⟨retI (by simp [or3, hx]), rfl⟩
    · by_cases hy : y = 0
      · go_wp2
        go_round
        case measure => decide
        case rel => exact .inr (.inr (.inl ⟨rfl, hx, hy⟩))
      · have e : (y == 0) = false := by simpa using hy
        go_wp2
        go_ret
        exact ⟨retI (by simp [or3, hy]), rfl⟩
    · by_cases hz : z = 0
      · go_wp2
        go_round
        case measure => decide
        case rel => exact .inr (.inr (.inr ⟨rfl, hx, hy, hz⟩))
      · have e : (z == 0) = false := by simpa using hz
        go_wp2
        go_ret
        exact ⟨retI (by simp [or3]), rfl⟩
    · go_wp2
      go_ret
      exact ⟨retI (by simp [or3]), rfl⟩

theorem box3_cell (W V : World) (cs : Array Value) (t : TypeId) (g : Nat) (hg : g = W.heap.size) (hV : V.heap = (W.alloc (.cells cs t)).heap) (j : Nat) (u : Value) (h : cs[j]? = some u) : V.cell? ⟨g, j, none⟩ = some u := by
  subst hg
  have e : V.heap[W.heap.size]? = some (.cells cs t (0, 0)) := by
    rw [hV]
    show (W.heap.push _)[W.heap.size]? = _
    simp
  rw [cell_of_row _ _ j cs t _ e, h]

/-- What a call leaves that tells a value and only grows the memory. -/
def TelPost (v : Value) (w : World) (e : Ending) (w' : World) : Prop := e = .returned v ∧ Below w.heap.size w w'

set_option maxHeartbeats 4000000 in
set_option maxRecDepth 100000 in
theorem compare_any (a b : Sm) (w : World) :
    Calls Try.prog 29 #[.agg #[.int .i64 a.w, .int .i64 a.l, .int .i64 a.n], .agg #[.int .i64 b.w, .int .i64 b.l, .int .i64 b.n]] w (TelPost (.int .i64 (cmpS a b)) w) := by
  obtain ⟨aw, al, an⟩ := a
  obtain ⟨bw, bl, bn⟩ := b
  simp only
  have H := Lib.hid (show cmpS ⟨aw, al, an⟩ ⟨bw, bl, bn⟩ = or3 (cmpI aw bw) (cmpI al bl) (cmpI an bn) from rfl)
  have c1 := fun wx => cmp_any aw bw wx
  have c2 := fun wx => cmp_any al bl wx
  have c3 := fun wx => cmp_any an bn wx
  have q : ∀ V : World, V.heap = (((w.alloc (.cells #[.int .i64 aw, .int .i64 al, .int .i64 an] 32)).alloc (.cells #[.int .i64 bw, .int .i64 bl, .int .i64 bn] 32)).alloc (.cells #[.int .i64 (cmpI aw bw), .int .i64 (cmpI al bl), .int .i64 (cmpI an bn)] 3)).heap →
      Calls Try.prog 30 #[.slice (some ⟨w.heap.size + 1 + 1, 0, none⟩) 3 3] V fun e w' => e = .returned (.int .i64 (or3 (cmpI aw bw) (cmpI al bl) (cmpI an bn))) ∧ V = w' := fun V hV =>
    or_any _ _ _ _ _ V (box3_cell _ _ _ _ _ (by simp) hV 0 _ rfl) (box3_cell _ _ _ _ _ (by simp) hV 1 _ rfl) (box3_cell _ _ _ _ _ (by simp) hV 2 _ rfl)
  have Q := Lib.hid q
  clear q
  go_enter Try.func29, Try.ntmps29
  go_wp2_with fail
  go_region_held3 (fun w' => (w'.cell? ⟨w.heap.size, 0, none⟩ = some (.int .i64 aw) ∧ w'.cell? ⟨w.heap.size, 1, none⟩ = some (.int .i64 al) ∧ w'.cell? ⟨w.heap.size, 2, none⟩ = some (.int .i64 an)) ∧ w'.cell? ⟨w.heap.size + 1, 0, none⟩ = some (.int .i64 bw) ∧ w'.cell? ⟨w.heap.size + 1, 1, none⟩ = some (.int .i64 bl) ∧ w'.cell? ⟨w.heap.size + 1, 2, none⟩ = some (.int .i64 bn))
    (go_keep)
    (first
      | (go_at_call 31; (with_reducible refine (cmp_any _ _ _).mono ?_); rintro e W ⟨rfl, rfl⟩)
      | (go_at_call 30; (with_reducible refine (Q.out _ ?hvq).mono ?_); (case hvq => rfl); rintro e W ⟨rfl, rfl⟩))
  all_goals (
    go_wp2
    go_ret
    exact ⟨retI H.out.symm, by first | exact ((((Below.refl _ w).alloc (Nat.le_refl _) _).alloc (by simp) _).alloc (by simp; omega) _).drew | skip⟩)

theorem beh0 : True := trivial

end Go.Proofs.Ytnlpbldpbnlekaa
