/-
  A slice of slices of bytes that came in.
-/
import Derived.Test.YtkoboogbdpagpaaFrE
import Derived.Deep.Matrix
set_option linter.unusedVariables false
namespace Go.Proofs.Ytkoboogbdpagpaa
open Go.RowKit

/-- What the walk is told of it. -/
def RowsIn (w : World) (a : Option Addr) (len cap : Nat) : Prop :=
  ∃ L : List (List UInt8), L.length = len ∧ Brs w a L ∧ len ≤ cap ∧ cap ≤ maxLen ∧ (a = none → cap = 0) ∧ ∀ x ∈ L, x.length ≤ maxLen

theorem rowsIn_nil (w : World) : RowsIn w none 0 0 := ⟨[], rfl, .inl rfl, Nat.le_refl _, Nat.zero_le _, fun _ => rfl, fun x hx => by cases hx⟩

theorem rowsIn_some {w : World} {x : Addr} {len cap base : Nat} {A : Nat → Option Addr} {L C : Nat → Nat} {Z : Nat → List Int} (hl : len ≤ cap) (hm : cap ≤ maxLen)
    (h : ∀ r, r < cap → w.cell? (x.add r) = some (.slice (A r) (L r) (C r)) ∧ L r ≤ C r ∧ C r ≤ maxLen ∧ (Z r).length = C r ∧ (∀ n ∈ Z r, (Lit.int .u8 n).wf = true) ∧ (A r = none → C r = 0) ∧
        ∀ a', A r = some a' → base ≤ a'.block ∧ ∀ c, c < C r → w.cell? (a'.add c) = some (.int .u8 ((Z r).getD c 0))) : RowsIn w (some x) len cap := by
  have hlen : ∀ r, r < len → (((Z r).take (L r)).map fun n => UInt8.ofNat n.toNat).length = L r := fun r hr => by
    obtain ⟨_, h1, _, h3, _⟩ := h r (by omega)
    rw [List.length_map, List.length_take]; omega
  refine ⟨(List.range len).map fun r => ((Z r).take (L r)).map fun n => UInt8.ofNat n.toNat, by simp, .inr ⟨x, rfl, fun j hj => ?_⟩, hl, hm, (fun h => by cases h), fun y hy => ?_⟩
  · have hj' : j < len := by simpa using hj
    have e : ((List.range len).map fun r => ((Z r).take (L r)).map fun n => UInt8.ofNat n.toNat)[j] = ((Z j).take (L j)).map fun n => UInt8.ofNat n.toNat := by simp
    rw [e, hlen j hj']
    obtain ⟨h0, h1, h2, h3, h4, h5, h6⟩ := h j (by omega)
    refine ⟨A j, C j, h0, ?_, h1, h5⟩
    cases ha : A j with
    | none =>
      left
      have := h5 ha
      rw [show L j = 0 by omega]; simp
    | some a' =>
      have hin : RowIn .u8 w (some a') (L j) (C j) (Z j) := .inr ⟨a', rfl, h1, h2, h3, fun i hi => (h6 a' ha).2 i (by omega), h4⟩
      right
      refine ⟨a', rfl, fun i hi => ?_⟩
      have hiL : i < L j := by rw [hlen j hj'] at hi; exact hi
      have hz : i < (Z j).length := by omega
      rw [(h6 a' ha).2 i (by omega)]
      have hwf := h4 ((Z j)[i]'hz) (List.getElem_mem hz)
      have hb : 0 ≤ (Z j)[i]'hz ∧ (Z j)[i]'hz < 256 := by
        simp [Lit.wf, IntKind.min, IntKind.max, IntKind.signed, IntKind.bits] at hwf
        omega
      simp only [List.getD_eq_getElem?_getD, List.getElem?_eq_getElem hz, Option.getD_some, List.getElem_map, List.getElem_take]
      congr 2
      rw [UInt8.toNat_ofNat']
      omega
  · obtain ⟨r, hr, rfl⟩ := List.mem_map.1 hy
    have hr' : r < len := by simpa using hr
    rw [hlen r hr']
    obtain ⟨_, h1, h2, _⟩ := h r (by omega)
    omega

end Go.Proofs.Ytkoboogbdpagpaa
