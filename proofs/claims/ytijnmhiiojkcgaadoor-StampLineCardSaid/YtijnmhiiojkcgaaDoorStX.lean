/-
  StampLine.
-/
import Derived.Test.YtijnmhiiojkcgaaDoorStN
import Derived.Test.YtijnmhiiojkcgaaDoorStE
import Derived.Deep.RegionHeld3
set_option linter.unusedVariables false
namespace Go.Proofs.YtijnmhiiojkcgaaDoor
open Go.RowKit

theorem less_irr (a : Sm) : lessB a a = false := by unfold lessB; simp
theorem less_asym {a b : Sm} (h : lessB a b = true) : lessB b a = false := by
  unfold lessB at h ⊢
  by_cases h1 : a.w = b.w
  · rw [if_neg (by simpa using h1)] at h
    rw [if_neg (by simpa using h1.symm)]
    by_cases h2 : a.l = b.l
    · rw [if_neg (by simpa using h2)] at h
      rw [if_neg (by simpa using h2.symm)]
      have := of_decide_eq_true h
      exact decide_eq_false (by omega)
    · rw [if_pos h2] at h
      rw [if_pos (fun e => h2 e.symm)]
      have := of_decide_eq_true h
      exact decide_eq_false (by omega)
  · rw [if_pos h1] at h
    rw [if_pos (fun e => h1 e.symm)]
    have := of_decide_eq_true h
    exact decide_eq_false (by omega)
theorem less_tri {a b : Sm} (h1 : lessB a b = false) (h2 : lessB b a = false) : a = b := by
  unfold lessB at h1 h2
  by_cases e1 : a.w = b.w
  · rw [if_neg (by simpa using e1)] at h1
    rw [if_neg (by simpa using e1.symm)] at h2
    by_cases e2 : a.l = b.l
    · rw [if_neg (by simpa using e2)] at h1
      rw [if_neg (by simpa using e2.symm)] at h2
      have := of_decide_eq_false h1
      have := of_decide_eq_false h2
      exact Sm.ext' e1 e2 (by omega)
    · rw [if_pos e2] at h1
      rw [if_pos (fun e => e2 e.symm)] at h2
      have := of_decide_eq_false h1
      have := of_decide_eq_false h2
      omega
  · rw [if_pos e1] at h1
    rw [if_pos (fun e => e1 e.symm)] at h2
    have := of_decide_eq_false h1
    have := of_decide_eq_false h2
    omega
theorem less_spec (a b : Sm) : lessB a b = true ↔ (a.w < b.w ∨ (a.w = b.w ∧ (a.l < b.l ∨ (a.l = b.l ∧ a.n < b.n)))) := by
  unfold lessB
  by_cases e1 : a.w = b.w
  · rw [if_neg (by simpa using e1)]
    by_cases e2 : a.l = b.l
    · rw [if_neg (by simpa using e2), decide_eq_true_eq]; omega
    · rw [if_pos e2, decide_eq_true_eq]; omega
  · rw [if_pos e1, decide_eq_true_eq]; omega
theorem less_trans {a b c : Sm} (h1 : lessB a b = true) (h2 : lessB b c = true) : lessB a c = true := by
  rw [less_spec] at h1 h2 ⊢
  omega
theorem sm_ne {a b : Sm} (h : a ≠ b) : (a.w == b.w && (a.l == b.l && a.n == b.n)) = false := by
  cases he : (a.w == b.w && (a.l == b.l && a.n == b.n)) with
  | false => rfl
  | true =>
    simp only [Bool.and_eq_true, beq_iff_eq] at he
    exact absurd (Sm.ext' he.1 he.2.1 he.2.2) h

theorem sms_two {V : World} {g : Nat} {a b : Sm} {t : TypeId} (h : V.heap[g]? = some (.cells #[.int .i64 a.w, .int .i64 a.l, .int .i64 a.n, .int .i64 b.w, .int .i64 b.l, .int .i64 b.n] t (0, 0))) : SmsIn V (some ⟨g, 0, none⟩) 2 [a, b] := by
  have hc : ∀ i, V.cell? ((⟨g, 0, none⟩ : Addr).add i) = (#[Value.int .i64 a.w, .int .i64 a.l, .int .i64 a.n, .int .i64 b.w, .int .i64 b.l, .int .i64 b.n])[i]? := fun i => by
    have e : (⟨g, 0, none⟩ : Addr).add i = ⟨g, i, none⟩ := by unfold Addr.add; split <;> simp_all
    rw [e, cell_of_row _ _ _ _ _ _ h]
  refine ⟨rfl, .inr ⟨_, rfl, fun i hi => ?_⟩⟩
  rcases i with _ | _ | i
  · exact ⟨hc 0, hc 1, hc 2⟩
  · exact ⟨hc 3, hc 4, hc 5⟩
  · simp at hi; omega
theorem heap_alloc_two (w : World) (o o2 : Obj) : ((w.alloc o).alloc o2).heap[w.heap.size + 1]? = some o2 := by
  rw [← World.size_alloc w o]
  exact heap_alloc_new _ _
theorem max_two (a b M : Sm) (hM : maxOf [a, b] = M) (V : World) (g : Nat) (h : V.heap[g]? = some (.cells #[.int .i64 a.w, .int .i64 a.l, .int .i64 a.n, .int .i64 b.w, .int .i64 b.l, .int .i64 b.n] 23 (0, 0))) :
    Calls Tryd.prog 13 #[.slice (some ⟨g, 0, none⟩) 2 2] V (TelPost (.agg #[.int .i64 M.w, .int .i64 M.l, .int .i64 M.n]) V) := by
  subst hM
  exact max_any _ 2 2 _ V (by omega) (sms_two h)
theorem min_two (a b M : Sm) (hM : minOf [a, b] = M) (V : World) (g : Nat) (h : V.heap[g]? = some (.cells #[.int .i64 a.w, .int .i64 a.l, .int .i64 a.n, .int .i64 b.w, .int .i64 b.l, .int .i64 b.n] 23 (0, 0))) :
    Calls Tryd.prog 15 #[.slice (some ⟨g, 0, none⟩) 2 2] V (TelPost (.agg #[.int .i64 M.w, .int .i64 M.l, .int .i64 M.n]) V) := by
  subst hM
  exact min_any _ 2 2 _ V (by omega) (sms_two h)
theorem less_as (a b : Sm) (L : Bool) (hL : lessB a b = L) (w : World) :
    Calls Tryd.prog 11 #[.agg #[.int .i64 a.w, .int .i64 a.l, .int .i64 a.n], .agg #[.int .i64 b.w, .int .i64 b.l, .int .i64 b.n]] w (TelPost (.bool L) w) := by
  subst hL
  exact less_any a b w

set_option maxRecDepth 100000 in
theorem eq_stamp (a b : Sm) (W : World) :
    (Op.equalIn 10000 23 (.agg #[.int .i64 a.w, .int .i64 a.l, .int .i64 a.n]) (.agg #[.int .i64 b.w, .int .i64 b.l, .int .i64 b.n])).run Tryd.prog W = .ok (decide (a = b)) W := by
  by_cases h1 : a.w = b.w
  · have f1 : (a.w == b.w) = true := by simpa using h1
    by_cases h2 : a.l = b.l
    · have f2 : (a.l == b.l) = true := by simpa using h2
      by_cases h3 : a.n = b.n
      · have f3 : (a.n == b.n) = true := by simpa using h3
        rw [decide_eq_true (Sm.ext' h1 h2 h3)]
        simp [go_sem, f1, f2, f3]
      · have f3 : (a.n == b.n) = false := by simpa using h3
        rw [decide_eq_false (fun e => h3 (by rw [e]))]
        simp [go_sem, f1, f2, f3]
    · have f2 : (a.l == b.l) = false := by simpa using h2
      rw [decide_eq_false (fun e => h2 (by rw [e]))]
      simp [go_sem, f1, f2]
  · have f1 : (a.w == b.w) = false := by simpa using h1
    rw [decide_eq_false (fun e => h1 (by rw [e]))]
    simp [go_sem, f1]

end Go.Proofs.YtijnmhiiojkcgaaDoor
