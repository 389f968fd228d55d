/-
  The reference's Behind; Sum of three; places compared.
-/
import Derived.Test.YtijnmhiiojkcgaaDoorStZB
set_option linter.unusedVariables false
namespace Go.Proofs.YtijnmhiiojkcgaaDoor
open Go.RowKit

theorem cu_eq (a b : Cu) (W : World) : (a = b → (Op.equalIn 10000 47 (.agg #[.int .i64 a.t.w, .int .i64 a.t.l, .int .i64 a.t.n, .int .i64 a.i, .string a.s]) (.agg #[.int .i64 b.t.w, .int .i64 b.t.l, .int .i64 b.t.n, .int .i64 b.i, .string b.s])).run Tryd.prog W = .ok true W) ∧ (a ≠ b → (Op.equalIn 10000 47 (.agg #[.int .i64 a.t.w, .int .i64 a.t.l, .int .i64 a.t.n, .int .i64 a.i, .string a.s]) (.agg #[.int .i64 b.t.w, .int .i64 b.t.l, .int .i64 b.t.n, .int .i64 b.i, .string b.s])).run Tryd.prog W = .ok false W) := by
  by_cases h1 : a.t.w = b.t.w
  · have f1 : (a.t.w == b.t.w) = true := by simpa using h1
    by_cases h2 : a.t.l = b.t.l
    · have f2 : (a.t.l == b.t.l) = true := by simpa using h2
      by_cases h3 : a.t.n = b.t.n
      · have f3 : (a.t.n == b.t.n) = true := by simpa using h3
        by_cases h4 : a.i = b.i
        · have f4 : (a.i == b.i) = true := by simpa using h4
          by_cases h5 : a.s = b.s
          · have f5 := txt_eq h5
            refine ⟨fun _ => ?_, fun h => absurd (Cu.ext' (Sm.ext' h1 h2 h3) h4 h5) h⟩
            simp [go_sem, f1, f2, f3, f4, f5]
          · have f5 := txt_ne h5
            refine ⟨fun h => absurd (by rw [h]) h5, fun _ => ?_⟩
            simp [go_sem, f1, f2, f3, f4, f5]
        · have f4 : (a.i == b.i) = false := by simpa using h4
          refine ⟨fun h => absurd (by rw [h]) h4, fun _ => ?_⟩
          simp [go_sem, f1, f2, f3, f4]
      · have f3 : (a.t.n == b.t.n) = false := by simpa using h3
        refine ⟨fun h => absurd (by rw [h]) h3, fun _ => ?_⟩
        simp [go_sem, f1, f2, f3]
    · have f2 : (a.t.l == b.t.l) = false := by simpa using h2
      refine ⟨fun h => absurd (by rw [h]) h2, fun _ => ?_⟩
      simp [go_sem, f1, f2]
  · have f1 : (a.t.w == b.t.w) = false := by simpa using h1
    refine ⟨fun h => absurd (by rw [h]) h1, fun _ => ?_⟩
    simp [go_sem, f1]

set_option maxHeartbeats 4000000 in
set_option maxRecDepth 100000 in
theorem rBehind_any (e : Ev) (c : Cu) (w : World) :
    Calls Tryd.prog 31 #[.agg #[.string e.s, .int .i64 e.v, .string e.d, .int .i64 e.t.w, .int .i64 e.t.l, .int .i64 e.t.n, .int .i64 e.i], .agg #[.int .i64 c.t.w, .int .i64 c.t.l, .int .i64 c.t.n, .int .i64 c.i, .string c.s]] w (TelPost (.bool (behB e c)) w) := by
  have HQ := Lib.hid (behB_ref e c)
  have bA := ((Below.refl w.heap.size w).alloc (Nat.le_refl _) (.cells #[.string e.s, .int .i64 e.v, .string e.d, .int .i64 e.t.w, .int .i64 e.t.l, .int .i64 e.t.n, .int .i64 e.i] 45)).alloc (by simp) (.cells #[.int .i64 c.t.w, .int .i64 c.t.l, .int .i64 c.t.n, .int .i64 c.i, .string c.s] 47)
  have HB := Lib.hid bA
  clear bA
  by_cases h1 : c.t = e.t
  · have hq : ∀ W, (Op.equalIn 10000 23 (.agg #[.int .i64 c.t.w, .int .i64 c.t.l, .int .i64 c.t.n]) (.agg #[.int .i64 e.t.w, .int .i64 e.t.l, .int .i64 e.t.n])).run Tryd.prog W = .ok true W := fun W => by rw [eq_stamp, decide_eq_true h1]
    rw [if_neg (show ¬ c.t ≠ e.t from fun h => h h1)] at HQ
    by_cases h2 : c.i = e.i
    · have f2 : (c.i != e.i) = false := by simpa using h2
      rw [if_neg (show ¬ c.i ≠ e.i from fun h => h h2)] at HQ
      clear h1 h2
      go_enter Tryd.func31, Tryd.ntmps31
      go_wp2
      go_ret
      exact ⟨retB HQ.out.symm, HB.out⟩
    · have f2 : (c.i != e.i) = true := by simpa using h2
      rw [if_pos (show c.i ≠ e.i from h2)] at HQ
      clear h1 h2
      go_enter Tryd.func31, Tryd.ntmps31
      go_wp2
      go_ret
      exact ⟨retB HQ.out.symm, HB.out⟩
  · have hq : ∀ W, (Op.equalIn 10000 23 (.agg #[.int .i64 c.t.w, .int .i64 c.t.l, .int .i64 c.t.n]) (.agg #[.int .i64 e.t.w, .int .i64 e.t.l, .int .i64 e.t.n])).run Tryd.prog W = .ok false W := fun W => by rw [eq_stamp, decide_eq_false h1]
    rw [if_pos (show c.t ≠ e.t from h1)] at HQ
    have cL := Lib.hid fun wx => rLess_any c.t e.t wx
    clear h1
    go_enter Tryd.func31, Tryd.ntmps31
    go_wp2_with (go_at_call 12; (with_reducible refine (cL.out _).mono ?_))
    rintro e1 V ⟨rfl, b1⟩
    have HZ := Lib.hid (HB.out.trans (b1.mono (by simp; omega)))
    clear b1
    go_wp2
    go_ret
    exact ⟨retB HQ.out.symm, HZ.out⟩

def SumPost (w : World) (e : Ending) (w' : World) : Prop := ∃ r : Nat, e = .returned (.int .i64 r) ∧ w = w'
set_option maxHeartbeats 4000000 in
set_option maxRecDepth 100000 in
theorem sum3_any (x y z : Nat) (hx : x ≤ maxLen) (hy : y ≤ maxLen) (hz : z ≤ maxLen) (g : Nat) (w : World) (t : TypeId) (h : w.heap[g]? = some (.cells #[.int .i64 x, .int .i64 y, .int .i64 z] t (0, 0))) :
    Calls Tryd.prog 28 #[.int .i64 0, .slice (some ⟨g, 0, none⟩) 3 3] w (SumPost w) := by
  unfold maxLen at hx hy hz
  obtain ⟨x0, x1, x2, _⟩ := box_cells h
  clear h
  go_enter Tryd.func28, Tryd.ntmps28
  go_wp2
  go_loop [0, 5] (fun v i => ∃ k n : Nat, i = .int .i64 k ∧ v = .int .i64 n ∧ k ≤ 3 ∧ n ≤ 1099511627776) (fun _ i => 3 - (intOf i).toNat)
  case atStart => exact ⟨0, 0, rfl, rfl, by omega, by omega⟩
  case round =>
    obtain ⟨k, n, rfl, rfl, hk, hn⟩ := hrel
    rcases k with _ | _ | _ | _ | k
    · by_cases hbig : 1099511627776 < n + x
      · have h1 : ¬ (1099511627776 : Int) < (n : Int) := by omega
        have h2 : (1099511627776 : Int) - (n : Int) < (x : Int) := by omega
        go_wp2
        go_ret
        exact ⟨1099511627776, rfl, rfl⟩
      · have h1 : ¬ (1099511627776 : Int) < (n : Int) := by omega
        have h2 : ¬ (1099511627776 : Int) - (n : Int) < (x : Int) := by omega
        go_wp2
        go_round
        case rel => exact ⟨1, n + x, by go_num, by go_num, by omega, by omega⟩
        case measure => simp [intOf]
    · by_cases hbig : 1099511627776 < n + y
      · have h1 : ¬ (1099511627776 : Int) < (n : Int) := by omega
        have h2 : (1099511627776 : Int) - (n : Int) < (y : Int) := by omega
        go_wp2
        go_ret
        exact ⟨1099511627776, rfl, rfl⟩
      · have h1 : ¬ (1099511627776 : Int) < (n : Int) := by omega
        have h2 : ¬ (1099511627776 : Int) - (n : Int) < (y : Int) := by omega
        go_wp2
        go_round
        case rel => exact ⟨2, n + y, by go_num, by go_num, by omega, by omega⟩
        case measure => simp [intOf]
    · by_cases hbig : 1099511627776 < n + z
      · have h1 : ¬ (1099511627776 : Int) < (n : Int) := by omega
        have h2 : (1099511627776 : Int) - (n : Int) < (z : Int) := by omega
        go_wp2
        go_ret
        exact ⟨1099511627776, rfl, rfl⟩
      · have h1 : ¬ (1099511627776 : Int) < (n : Int) := by omega
        have h2 : ¬ (1099511627776 : Int) - (n : Int) < (z : Int) := by omega
        go_wp2
        go_round
        case rel => exact ⟨3, n + z, by go_num, by go_num, by omega, by omega⟩
        case measure => simp [intOf]
    · go_wp2
      go_ret
      exact ⟨n, rfl, rfl⟩
    · omega

end Go.Proofs.YtijnmhiiojkcgaaDoor
