/-
  alike's Texts of two rows that are the same; the law's same.
-/
import Derived.Test.YtbolminblofhgaaDkP
set_option linter.unusedVariables false
namespace Go.Proofs.Ytbolminblofhgaa
open Go.RowKit

set_option maxHeartbeats 4000000 in
set_option maxRecDepth 100000 in
theorem Texts_eq (w : World) (B1 B2 n : Nat) (a b : Option Addr) (ca cb : Nat) (L : List RF) (hn : L.length = n) (hm : n ≤ 1000000) (h1 : w.ownsRow B1 9 1 (.slice a n ca) n (L.map fun f => .string f.nm)) (h2 : w.ownsRow B2 9 1 (.slice b n cb) n (L.map fun f => .string f.nm)) :
    Calls Try.prog 38 #[.slice a n ca, .slice b n cb] w fun e w' => e = .returned (.bool true) ∧ Below w.heap.size w w' := by
  have H1 := Lib.hid h1
  have H2 := Lib.hid h2
  have HN := Lib.hid hn
  clear h1 h2 hn
  go_enter Try.func38, Try.ntmps38
  go_wp2
  go_loopw [5] (fun i wr => ∃ j : Nat, i = .int .i64 j ∧ j ≤ n ∧ Below w.heap.size w wr) (fun i _ => n - (intOf i).toNat)
  case atStart => exact ⟨0, rfl, Nat.zero_le _, Below.refl _ _⟩
  case round =>
    obtain ⟨j, rfl, hj, hb⟩ := hrel
    by_cases hlt : j < n
    · have o1 := Kept.own H1.out (Kept.of_below (S := fun _ => False) hb) (fun _ _ h => h)
      have o2 := Kept.own H2.out (Kept.of_below (S := fun _ => False) hb) (fun _ _ h => h)
      obtain ⟨g1, he1, _, _⟩ := own_some o1 (by omega)
      obtain ⟨g2, he2, _, _⟩ := own_some o2 (by omega)
      subst he1 he2
      have hlt2 : j < L.length := by have := HN.out; omega
      have x1 := o1.cellAt j (show j < n * 1 by omega)
      have x2 := o2.cellAt j (show j < n * 1 by omega)
      obtain ⟨s, hs⟩ : ∃ s, s = (L[j]'hlt2).nm := ⟨_, rfl⟩
      have y1 : wr.cell? ⟨g1, j, none⟩ = some (.string s) := by rw [x1, hs]; simp [hlt2]
      have y2 : wr.cell? ⟨g2, j, none⟩ = some (.string s) := by rw [x2, hs]; simp [hlt2]
      have ee : (s.toList == s.toList) = true := beq_self_eq_true _
      have HB := Lib.hid hb
      clear x1 x2 o1 o2 hs hb
      go_wp2
      go_quiet (fail)
      go_wp2
      go_roundw
      case rel => exact ⟨j + 1, by go_num, by omega, below_drewN HB.out _⟩
      case measure => simp [intOf]; omega
    · have HB := Lib.hid hb
      clear hb
      go_wp2
      go_ret
      exact ⟨rfl, HB.out⟩

end Go.Proofs.Ytbolminblofhgaa
