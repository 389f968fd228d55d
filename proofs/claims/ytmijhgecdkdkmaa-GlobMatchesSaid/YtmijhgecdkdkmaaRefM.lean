/-
  Plain mathematics: the ways as the reference's Match keeps them are glob's bits.
-/
import Derived.Test.YtmijhgecdkdkmaaGlobM
set_option linter.unusedVariables false
namespace Go.Proofs.Ytmijhgecdkdkmaa
open Go.RowKit

/-- Behind its first inner loop: what one more rune leaves at a place. -/
def nxt3 (P : List Pc) (can : Nat → Bool) (r : Nat) : Nat → Bool
  | 0 => c1 P 0 (can 0)
  | j + 1 => c1 P (j + 1) (can (j + 1)) || (match P[j]? with | some x => if x.many = true then can (j + 1) || can j else can j && takesR x r | none => false)
/-- Behind its second one: with the stars that take no rune. -/
def nxt4 (P : List Pc) (can : Nat → Bool) (r : Nat) : Nat → Bool
  | 0 => nxt3 P can r 0
  | j + 1 => nxt3 P can r (j + 1) || (match P[j]? with | some x => x.many && nxt4 P can r j | none => false)

theorem nxt4_same (P : List Pc) (can : Nat → Bool) (r : Nat) (R : List Nat) (hc : ∀ k, k ≤ P.length → (can k = true ↔ GB P k R)) : ∀ k, k ≤ P.length → (nxt4 P can r k = true ↔ GB P k (R ++ [r])) := by
  obtain ⟨W, hW⟩ : ∃ W, W = takW P R := ⟨_, rfl⟩
  have hb : ∀ k, k ≤ P.length → (W.testBit k = true ↔ GB P k R) := by rw [hW]; exact takW_bits P R
  have hcan : ∀ k, k ≤ P.length → can k = W.testBit k := fun k hk => by rw [Bool.eq_iff_iff, hc k hk, hb k hk]
  have hn := bits_next P W r R hb
  intro k
  induction k with
  | zero =>
    intro hk
    rw [← hn 0 hk, skipF_low P 0 _ 0 (Nat.le_refl _)]
    have := stepF_bit r W P 0 0 0
    simp only [Nat.add_zero] at this
    rw [this, Nat.zero_testBit, Bool.false_or, Bool.or_false, nxt4, nxt3, hcan 0 hk]
  | succ j ih =>
    intro hk
    have hj : j < P.length := by omega
    have ihj := ih (by omega)
    have h1 := skipF_next P 0 (stepF r W P 0 0) j hj
    have h2 := stepF_bit r W P 0 0 (j + 1)
    rw [show 0 + j + 1 = j + 1 by omega, show 0 + j = j by omega] at h1
    simp only [Nat.zero_add, Nat.zero_testBit, Bool.false_or] at h2
    have hnb := hn (j + 1) hk
    rw [h1, h2] at hnb
    rw [← hnb]
    have ihn : nxt4 P can r j = (skipF P 0 (stepF r W P 0 0)).testBit j := by rw [Bool.eq_iff_iff, ihj, ← hn j (by omega)]
    rw [nxt4, nxt3, List.getElem?_eq_getElem hj, hcan (j + 1) hk, hcan j (by omega), ihn]
    simp only
    cases hm : P[j].many with
    | false =>
      have e2 : c2 P j (W.testBit j) r = (W.testBit j && takesR P[j] r) := by unfold c2; rw [List.getElem?_eq_getElem hj]; simp [hm]
      rw [e2]; simp
    | true =>
      have e2 : c2 P j (W.testBit j) r = false := by unfold c2; rw [List.getElem?_eq_getElem hj]; simp [hm]
      rw [e2]
      simp only [if_true, Bool.or_false, Bool.true_and]
      -- a way that was there is there still
      have k1 : W.testBit j = true → (skipF P 0 (stepF r W P 0 0)).testBit j = true := by
        intro h
        rw [hn j (by omega), GB_star hj hm, List.take_succ_eq_append_getElem hj, Mt.snoc_star hm]
        right
        rw [← List.take_succ_eq_append_getElem hj]
        exact (GB_star hj hm).1 ((hb j (by omega)).1 h)
      have k2 : W.testBit (j + 1) = true → (c1 P (j + 1) (W.testBit (j + 1)) || (skipF P 0 (stepF r W P 0 0)).testBit j) = true := by
        intro h
        rw [hm, Bool.true_and, e2, Bool.or_false] at hnb
        rw [hnb]
        have hg := (hb (j + 1) hk).1 h
        have hmore : Mt (P.take (j + 1)) R → Mt (P.take (j + 1)) (R ++ [r]) := by
          intro h
          rw [List.take_succ_eq_append_getElem hj] at h ⊢
          exact (Mt.snoc_star hm).2 (.inr h)
        by_cases hl : j + 1 < P.length
        · cases hm2 : P[j + 1].many with
          | true =>
            rw [GB_star hl hm2] at hg ⊢
            rw [List.take_succ_eq_append_getElem hl] at hg ⊢
            exact (Mt.snoc_star hm2).2 (.inr hg)
          | false => rw [GB_one hl hm2] at hg ⊢; exact hmore hg
        · have e : j + 1 = P.length := by omega
          rw [e, GB_end] at hg ⊢
          rw [e, List.take_length] at hmore
          exact hmore hg
      cases a : c1 P (j + 1) (W.testBit (j + 1)) <;> cases b : (skipF P 0 (stepF r W P 0 0)).testBit j <;> cases c : W.testBit (j + 1) <;> cases d : W.testBit j <;> simp_all

end Go.Proofs.Ytmijhgecdkdkmaa
