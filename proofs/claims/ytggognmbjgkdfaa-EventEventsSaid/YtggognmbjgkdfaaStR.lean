/-
  Stamps read from bytes, plainly.
-/
import Derived.Test.YtggognmbjgkdfaaStP
set_option linter.unusedVariables false
namespace Go.Proofs.Ytggognmbjgkdfaa
open Go.RowKit

theorem unvF_bounds : ∀ (l : List UInt8) (k acc : Nat), k ≤ 9 → acc < 2 ^ (7 * k) → (unvF k acc l).1 < 18446744073709551616 ∧ (unvF k acc l).2 ≤ k + l.length
  | [], k, acc, _, _ => by simp [unvF]
  | b :: r, k, acc, hk, ha => by
    have hmod : b.toNat % 128 < 128 := Nat.mod_lt _ (by decide)
    rcases unv_ways k acc b r with ⟨_, _, he⟩ | ⟨h1, h2, he⟩ | ⟨_, _, _, he⟩ | ⟨h1, h2, h3, he⟩
    · rw [he]; exact ⟨by decide, Nat.zero_le _⟩
    · rw [he]
      have := unvF_bounds r (k + 1) (acc + b.toNat % 128 * 2 ^ (7 * k)) (by omega) (grp_lt acc _ k ha hmod)
      simp only [List.length_cons]
      omega
    · rw [he]; exact ⟨by decide, Nat.zero_le _⟩
    · rw [he]
      have h := grp_or acc (b.toNat % 128) k hk ha hmod (by omega)
      refine ⟨?_, by simp only [List.length_cons]; omega⟩
      have hlt : b.toNat % 128 * 2 ^ (7 * k) < 2 ^ 64 - 2 ^ 63 + 1 := by
        by_cases h9 : k = 9
        · subst h9
          have : b.toNat = 0 ∨ b.toNat = 1 := by omega
          rcases this with h0 | h0 <;> rw [h0] <;> decide
        · have h1 : 2 ^ (7 * k) ≤ 2 ^ 56 := Nat.pow_le_pow_right (by decide) (by omega)
          calc b.toNat % 128 * 2 ^ (7 * k) ≤ 127 * 2 ^ 56 := Nat.mul_le_mul (by omega) h1
            _ < 2 ^ 64 - 2 ^ 63 + 1 := by decide
      have h63 : 2 ^ (7 * k) ≤ 2 ^ 63 := Nat.pow_le_pow_right (by decide) (by omega)
      show acc + b.toNat % 128 * 2 ^ (7 * k) < 18446744073709551616
      omega

theorem unv_bounds (l : List UInt8) : (unv l).1 < 18446744073709551616 ∧ (unv l).2 ≤ l.length := by
  have := unvF_bounds l 0 0 (by omega) (by decide)
  rw [Nat.zero_add] at this
  exact this

def M50 : Nat := 1125899906842624
/-- The stamp that bytes begin with, and how many they are. -/
def decL (l : List UInt8) : Option (Sm × Nat) :=
  let u := unv l
  if u.2 = 0 ∨ 1125899906842624 < u.1 then none
  else
    let v := unv (l.drop u.2)
    if v.2 = 0 ∨ 65535 < v.1 then none
    else
      let t := unv (l.drop (u.2 + v.2))
      if t.2 = 0 ∨ 5 < t.1 then none
      else some (⟨(u.1 : Int), (v.1 : Int), (t.1 : Int)⟩, u.2 + v.2 + t.2)

def toI (v : Nat) : Int := IntKind.i64.wrap (v : Int)
theorem toI_small {v : Nat} (h : v < 9223372036854775808) : toI v = (v : Int) := by
  unfold toI
  simp [IntKind.wrap, IntKind.bits, IntKind.signed]
  omega
theorem toI_neg {v : Nat} (h : ¬ v < 9223372036854775808) (h2 : v < 18446744073709551616) : toI v < 0 := by
  unfold toI
  simp [IntKind.wrap, IntKind.bits, IntKind.signed]
  omega
theorem toI_le {v m : Nat} (hm : m < 9223372036854775808) (h2 : v < 18446744073709551616) : (0 ≤ toI v ∧ toI v ≤ (m : Int)) ↔ v ≤ m := by
  by_cases h : v < 9223372036854775808
  · rw [toI_small h]; omega
  · have := toI_neg h h2
    constructor
    · intro h3; omega
    · intro h3; omega

/-- The three numbers, whatever they are. -/
def dec3 (l : List UInt8) : Option (Sm × Nat) :=
  let u := unv l
  if u.2 = 0 then none
  else
    let v := unv (l.drop u.2)
    if v.2 = 0 then none
    else
      let t := unv (l.drop (u.2 + v.2))
      if t.2 = 0 then none
      else some (⟨toI u.1, toI v.1, toI t.1⟩, u.2 + v.2 + t.2)
theorem dec_of3 (l : List UInt8) : decL l = (dec3 l).bind fun p => if soundB p.1 = true then some p else none := by
  have hu := (unv_bounds l).1
  have hv := (unv_bounds (l.drop (unv l).2)).1
  have ht := (unv_bounds (l.drop ((unv l).2 + (unv (l.drop (unv l).2)).2))).1
  unfold decL dec3
  simp only
  by_cases h1 : (unv l).2 = 0
  · rw [if_pos (.inl h1), if_pos h1]; rfl
  · rw [if_neg h1]
    by_cases h2 : (unv (l.drop (unv l).2)).2 = 0
    · rw [if_pos h2]
      show _ = none
      split
      · rfl
      · rw [if_pos (.inl h2)]
    · rw [if_neg h2]
      by_cases h3 : (unv (l.drop ((unv l).2 + (unv (l.drop (unv l).2)).2))).2 = 0
      · rw [if_pos h3]
        show _ = none
        split
        · rfl
        · split
          · rfl
          · rw [if_pos (.inl h3)]
      · rw [if_neg h3]
        show _ = (if _ then _ else _)
        generalize (unv (l.drop ((unv l).2 + (unv (l.drop (unv l).2)).2))) = t at *
        generalize (unv (l.drop (unv l).2)) = v at *
        generalize unv l = u at *
        have e1 := toI_le (v := u.1) (m := 1125899906842624) (by decide) hu
        have e2 := toI_le (v := v.1) (m := 65535) (by decide) hv
        have e3 := toI_le (v := t.1) (m := 5) (by decide) ht
        by_cases b1 : 1125899906842624 < u.1
        · rw [if_pos (.inr b1), if_neg]
          unfold soundB
          simp only [decide_eq_true_eq]
          intro h
          have := e1.1 ⟨h.1, h.2.1⟩
          omega
        · rw [if_neg (by omega)]
          by_cases b2 : 65535 < v.1
          · rw [if_pos (.inr b2), if_neg]
            unfold soundB
            simp only [decide_eq_true_eq]
            intro h
            have := e2.1 ⟨h.2.2.1, by omega⟩
            omega
          · rw [if_neg (by omega)]
            by_cases b3 : 5 < t.1
            · rw [if_pos (.inr b3), if_neg]
              unfold soundB
              simp only [decide_eq_true_eq]
              intro h
              have := e3.1 ⟨h.2.2.2.2.1, by omega⟩
              omega
            · rw [if_neg (by omega), toI_small (by omega), toI_small (by omega), toI_small (by omega), if_pos]
              unfold soundB
              simp only [decide_eq_true_eq]
              omega

def DecPost (o : Option (Sm × Nat)) (w : World) (e : Ending) (w' : World) : Prop :=
  e = .returned (.tuple #[.agg #[.int .i64 (o.getD (⟨0, 0, 0⟩, 0)).1.w, .int .i64 (o.getD (⟨0, 0, 0⟩, 0)).1.l, .int .i64 (o.getD (⟨0, 0, 0⟩, 0)).1.n], .int .i64 (o.getD (⟨0, 0, 0⟩, 0)).2, .int .i64 (if o.isSome then 0 else 10)]) ∧ Below w.heap.size w w'

end Go.Proofs.Ytggognmbjgkdfaa
