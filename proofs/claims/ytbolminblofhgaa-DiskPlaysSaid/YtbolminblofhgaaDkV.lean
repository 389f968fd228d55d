/-
  alike's Sum of many.
-/
import Derived.Test.YtbolminblofhgaaDkU
set_option linter.unusedVariables false
namespace Go.Proofs.Ytbolminblofhgaa
open Go.RowKit

def sumL : Int → List Int → Int
  | n, [] => n
  | n, x :: r => if 1099511627776 < n ∨ 1099511627776 - n < x then 1099511627776 else sumL (n + x) r
theorem sumL_le : ∀ (l : List Int) (n : Int), 0 ≤ n → n ≤ 1099511627776 → (∀ x ∈ l, 0 ≤ x) → n ≤ sumL n l ∧ sumL n l ≤ 1099511627776 ∧ (sumL n l < 1099511627776 → sumL n l = n + l.sum)
  | [], n, h0, h1, _ => ⟨Int.le_refl _, h1, fun _ => by simp [sumL]⟩
  | x :: r, n, h0, h1, hx => by
    have hx0 := hx x (by simp)
    unfold sumL
    split
    · exact ⟨h1, Int.le_refl _, fun h => by omega⟩
    · rename_i hc
      have hb : n + x ≤ 1099511627776 := by omega
      obtain ⟨a, b, c⟩ := sumL_le r (n + x) (by omega) hb (fun y hy => hx y (by simp [hy]))
      refine ⟨by omega, b, fun h => ?_⟩
      rw [c h, List.sum_cons]; omega

set_option maxHeartbeats 4000000 in
set_option maxRecDepth 100000 in
theorem Sum_any (g k cap : Nat) (l : List Int) (n : Int) (w : World) (hl : l.length = k) (hk : k ≤ 1000) (hc : ∀ j (hj : j < l.length), w.cell? ⟨g, j, none⟩ = some (.int .i64 (l[j]'hj))) (hn0 : 0 ≤ n) (hn1 : n ≤ 1099511627776) (hx : ∀ x ∈ l, 0 ≤ x ∧ x ≤ 9223372036854775807) :
    Calls Try.prog 28 #[.int .i64 n, .slice (some ⟨g, 0, none⟩) k cap] w fun e w' => e = .returned (.int .i64 (sumL n l)) ∧ Below w.heap.size w w' := by
  obtain ⟨r, hr⟩ : ∃ r, r = sumL n l := ⟨_, rfl⟩
  rw [← hr]
  have HR0 : Hid (r = sumL n (l.drop 0)) := hr
  have HL := Lib.hid hl
  have HC := Lib.hid hc
  have HX := Lib.hid hx
  clear hr hl hc hx
  go_enter Try.func28, Try.ntmps28
  go_wp2
  go_loopw [0, 5] (fun u i wr => ∃ (j : Nat) (m : Int), i = .int .i64 j ∧ j ≤ k ∧ u = .int .i64 m ∧ 0 ≤ m ∧ m ≤ 1099511627776 ∧ Hid (r = sumL m (l.drop j)) ∧ Below w.heap.size w wr) (fun _ i _ => k - (intOf i).toNat)
  case atStart => exact ⟨0, n, rfl, Nat.zero_le _, rfl, hn0, hn1, HR0, Below.refl _ _⟩
  case round =>
    obtain ⟨j, m, rfl, hj, rfl, hm0, hm1, HR, hb⟩ := hrel
    by_cases hlt : j < k
    · have hlt2 : j < l.length := by have := HL.out; omega
      obtain ⟨x, hxx⟩ : ∃ x, x = l[j]'hlt2 := ⟨_, rfl⟩
      have hxb := HX.out x (by rw [hxx]; exact List.getElem_mem hlt2)
      obtain ⟨hx0, hx1⟩ := hxb
      have hcell := HC.out j hlt2
      rw [← hxx] at hcell
      have hcw : wr.cell? ⟨g, j, none⟩ = some (.int .i64 x) := (hb.cell (p := ⟨g, j, none⟩) (World.block_lt_of_cell? w _ hcell)).trans hcell
      have HD : Hid (l.drop j = x :: l.drop (j + 1)) := by show _ = _; rw [hxx]; exact List.drop_eq_getElem_cons hlt2
      have HB := Lib.hid hb
      have hmf : ¬ 1099511627776 < m := by omega
      have w1 : IntKind.i64.wrap (1099511627776 - m) = 1099511627776 - m := IntWalk.i64_in _ (by omega)
      clear hxx hcell hb
      by_cases hbig : 1099511627776 - m < x
      · have HV : Hid (r = 1099511627776) := by show _ = _; rw [HR.out, HD.out]; unfold sumL; rw [if_pos (.inr hbig)]
        go_wp2
        go_ret
        exact ⟨retI HV.out.symm, HB.out⟩
      · have HV : Hid (r = sumL (m + x) (l.drop (j + 1))) := by show _ = _; rw [HR.out, HD.out]; conv => lhs; unfold sumL; rw [if_neg (by omega)]
        have w2 : IntKind.i64.wrap (m + x) = m + x := IntWalk.i64_in _ (by omega)
        go_wp2
        go_roundw
        case rel => exact ⟨j + 1, m + x, by go_num, by omega, rfl, by omega, by omega, HV, HB.out⟩
        case measure => simp [intOf]; omega
    · have HV : Hid (r = m) := by show _ = _; rw [HR.out, List.drop_eq_nil_of_le (by have := HL.out; omega)]; rfl
      have HB := Lib.hid hb
      clear hb
      go_wp2
      go_ret
      exact ⟨retI HV.out.symm, HB.out⟩

end Go.Proofs.Ytbolminblofhgaa
