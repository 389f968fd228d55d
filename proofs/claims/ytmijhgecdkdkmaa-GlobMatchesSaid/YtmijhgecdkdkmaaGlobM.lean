/-
  Plain mathematics: what glob.takeAll reckons with bits is what the document says of pieces.
-/
import Derived.Test.YtmijhgecdkdkmaaGlobH
set_option linter.unusedVariables false
namespace Go.Proofs.Ytmijhgecdkdkmaa
open Go.RowKit

/-- The pieces are all of the runes, in order. -/
inductive Mt : List Pc → List Nat → Prop where
  | nil : Mt [] []
  | one {x : Pc} {r : Nat} {P : List Pc} {R : List Nat} (hm : x.many = false) (ht : takesR x r = true) (h : Mt P R) : Mt (x :: P) (r :: R)
  | skip {x : Pc} {P : List Pc} {R : List Nat} (hm : x.many = true) (h : Mt P R) : Mt (x :: P) R
  | more {x : Pc} {r : Nat} {P : List Pc} {R : List Nat} (hm : x.many = true) (h : Mt (x :: P) R) : Mt (x :: P) (r :: R)

theorem Mt.append {P Q : List Pc} {R S : List Nat} (h : Mt P R) (k : Mt Q S) : Mt (P ++ Q) (R ++ S) := by
  induction h with
  | nil => exact k
  | one hm ht _ ih => exact .one hm ht ih
  | skip hm _ ih => exact .skip hm ih
  | more hm _ ih => exact .more hm ih

theorem Mt.star (x : Pc) (hm : x.many = true) : ∀ R : List Nat, Mt [x] R
  | [] => .skip hm .nil
  | r :: R => .more hm (Mt.star x hm R)

/-- A match of pieces, one more behind: how it parts. -/
theorem Mt.part {P Q : List Pc} {R : List Nat} (h : Mt (P ++ Q) R) : ∃ A B, R = A ++ B ∧ Mt P A ∧ Mt Q B := by
  generalize hPQ : P ++ Q = Z at h
  induction h generalizing P with
  | nil =>
    obtain ⟨rfl, rfl⟩ := List.append_eq_nil_iff.1 hPQ
    exact ⟨[], [], rfl, .nil, .nil⟩
  | @one x r Z R hm ht h ih =>
    cases P with
    | nil => simp at hPQ; subst hPQ; exact ⟨[], r :: R, rfl, .nil, .one hm ht h⟩
    | cons y P =>
      simp at hPQ
      obtain ⟨rfl, rfl⟩ := hPQ
      obtain ⟨A, B, rfl, h1, h2⟩ := ih rfl
      exact ⟨r :: A, B, rfl, .one hm ht h1, h2⟩
  | @skip x Z R hm h ih =>
    cases P with
    | nil => simp at hPQ; subst hPQ; exact ⟨[], R, rfl, .nil, .skip hm h⟩
    | cons y P =>
      simp at hPQ
      obtain ⟨rfl, rfl⟩ := hPQ
      obtain ⟨A, B, rfl, h1, h2⟩ := ih rfl
      exact ⟨A, B, rfl, .skip hm h1, h2⟩
  | @more x r Z R hm h ih =>
    cases P with
    | nil => simp at hPQ; subst hPQ; exact ⟨[], r :: R, rfl, .nil, .more hm h⟩
    | cons y P =>
      simp at hPQ
      obtain ⟨rfl, rfl⟩ := hPQ
      obtain ⟨A, B, rfl, h1, h2⟩ := @ih (y :: P) rfl
      exact ⟨r :: A, B, rfl, .more hm h1, h2⟩

theorem Mt.nil_iff {R : List Nat} : Mt [] R ↔ R = [] := ⟨fun h => by cases h; rfl, fun h => by subst h; exact .nil⟩
theorem Mt.one_iff {x : Pc} {R : List Nat} (hm : x.many = false) : Mt [x] R ↔ ∃ r, R = [r] ∧ takesR x r = true := by
  constructor
  · intro h
    cases h with
    | one _ ht h => cases h; exact ⟨_, rfl, ht⟩
    | skip hm' => rw [hm] at hm'; cases hm'
    | more hm' => rw [hm] at hm'; cases hm'
  · rintro ⟨r, rfl, ht⟩; exact .one hm ht .nil

/-- One more rune behind a star. -/
theorem Mt.snoc_star {P : List Pc} {x : Pc} {R : List Nat} {r : Nat} (hm : x.many = true) : Mt (P ++ [x]) (R ++ [r]) ↔ Mt P (R ++ [r]) ∨ Mt (P ++ [x]) R := by
  constructor
  · intro h
    obtain ⟨A, B, hAB, h1, _⟩ := h.part
    rcases List.eq_nil_or_concat B with rfl | ⟨B', b, rfl⟩
    · left; rw [List.append_nil] at hAB; rw [hAB]; exact h1
    · right
      rw [List.concat_eq_append, ← List.append_assoc] at hAB
      have := (List.append_inj' hAB (by simp)).1
      rw [this]
      exact h1.append (Mt.star x hm _)
  · rintro (h | h)
    · have := h.append (Mt.star x hm [])
      simpa using this
    · obtain ⟨A, B, rfl, h1, _⟩ := h.part
      rw [List.append_assoc]
      exact h1.append (Mt.star x hm _)
/-- One more rune behind a piece that takes one. -/
theorem Mt.snoc_one {P : List Pc} {x : Pc} {R : List Nat} {r : Nat} (hm : x.many = false) : Mt (P ++ [x]) (R ++ [r]) ↔ Mt P R ∧ takesR x r = true := by
  constructor
  · intro h
    obtain ⟨A, B, hAB, h1, h2⟩ := h.part
    obtain ⟨b, rfl, hb⟩ := (Mt.one_iff hm).1 h2
    obtain ⟨rfl, e⟩ := List.append_inj' hAB (by simp)
    simp at e; subst e
    exact ⟨h1, hb⟩
  · rintro ⟨h1, h2⟩; exact h1.append ((Mt.one_iff hm).2 ⟨r, rfl, h2⟩)
theorem Mt.snoc_none {P : List Pc} {x : Pc} : Mt (P ++ [x]) [] ↔ x.many = true ∧ Mt P [] := by
  constructor
  · intro h
    obtain ⟨A, B, hAB, h1, h2⟩ := h.part
    obtain ⟨rfl, rfl⟩ := List.append_eq_nil_iff.1 hAB.symm
    refine ⟨?_, h1⟩
    cases hm : x.many with
    | true => rfl
    | false => obtain ⟨r, hr, _⟩ := (Mt.one_iff hm).1 h2; cases hr
  · rintro ⟨hm, h⟩
    have := h.append (Mt.star x hm [])
    simpa using this

theorem bit_or_pow (N j i : Nat) : (N ||| 2 ^ j).testBit i = (N.testBit i || decide (j = i)) := by
  rw [Nat.testBit_or, Nat.testBit_two_pow]

theorem skipF_low : ∀ (Q : List Pc) (k W j : Nat), j ≤ k → (skipF Q k W).testBit j = W.testBit j
  | [], _, _, _, _ => rfl
  | x :: Q, k, W, j, h => by
    rw [skipF, skipF_low Q (k + 1) _ j (by omega)]
    split
    · rw [bit_or_pow]; simp; omega
    · rfl

theorem skipF_next : ∀ (Q : List Pc) (k W i : Nat) (h : i < Q.length), (skipF Q k W).testBit (k + i + 1) = (W.testBit (k + i + 1) || (Q[i].many && (skipF Q k W).testBit (k + i)))
  | x :: Q, k, W, 0, h => by
    rw [skipF]
    rw [skipF_low Q (k + 1) _ (k + 0 + 1) (by omega), skipF_low Q (k + 1) _ (k + 0) (by omega)]
    simp only [Nat.add_zero, List.getElem_cons_zero]
    by_cases hc : x.many = true ∧ W.testBit k = true
    · rw [if_pos hc, bit_or_pow, bit_or_pow, hc.1, hc.2]; simp
    · rw [if_neg hc]
      cases h1 : x.many <;> cases h2 : W.testBit k <;> simp_all
  | x :: Q, k, W, i + 1, h => by
    rw [skipF]
    have := skipF_next Q (k + 1) (if x.many = true ∧ W.testBit k = true then W ||| 2 ^ (k + 1) else W) i (by simpa using h)
    rw [show k + (i + 1) + 1 = k + 1 + i + 1 by omega, show k + (i + 1) = k + 1 + i by omega, this, List.getElem_cons_succ]
    congr 1
    split
    · rw [bit_or_pow, decide_eq_false (by omega), Bool.or_false]
    · rfl

/-- What the piece at a place adds to its own bit, and to the next one. -/
def c1 (Q : List Pc) (i : Nat) (b : Bool) : Bool := match Q[i]? with | some x => b && x.many | none => false
def c2 (Q : List Pc) (i : Nat) (b : Bool) (r : Nat) : Bool := match Q[i]? with | some x => b && !x.many && takesR x r | none => false

theorem stepF_low (r W : Nat) : ∀ (Q : List Pc) (k N j : Nat), j < k → (stepF r W Q k N).testBit j = N.testBit j
  | [], _, _, _, _ => rfl
  | x :: Q, k, N, j, h => by
    rw [stepF, stepF_low r W Q (k + 1) _ j (by omega)]
    split
    · rfl
    · split
      · rw [bit_or_pow, decide_eq_false (by omega), Bool.or_false]
      · split
        · rw [bit_or_pow, decide_eq_false (by omega), Bool.or_false]
        · rfl

/-- One more piece's bits. -/
theorem step_one (x : Pc) (r W k N j : Nat) : (if W.testBit k = false then N else if x.many = true then N ||| 2 ^ k else if takesR x r = true then N ||| 2 ^ (k + 1) else N).testBit j =
    (N.testBit j || (decide (k = j) && (W.testBit k && x.many)) || (decide (k + 1 = j) && (W.testBit k && !x.many && takesR x r))) := by
  cases hw : W.testBit k
  · simp
  · cases hm : x.many
    · cases ht : takesR x r
      · simp
      · simp [Nat.testBit_two_pow]
    · simp [Nat.testBit_two_pow]

theorem stepF_bit (r W : Nat) : ∀ (Q : List Pc) (k N i : Nat), (stepF r W Q k N).testBit (k + i) =
    (N.testBit (k + i) || c1 Q i (W.testBit (k + i)) || (match i with | 0 => false | i' + 1 => c2 Q i' (W.testBit (k + i')) r))
  | [], k, N, i => by
    cases i <;> simp [stepF, c1, c2]
  | x :: Q, k, N, 0 => by
    rw [stepF, stepF_low r W Q (k + 1) _ (k + 0) (by omega), step_one]
    simp [c1]
  | x :: Q, k, N, i + 1 => by
    rw [stepF, show k + (i + 1) = k + 1 + i by omega, stepF_bit r W Q (k + 1) _ i, step_one, decide_eq_false (show ¬ k = k + 1 + i by omega)]
    simp only [Bool.false_and, Bool.or_false]
    have e1 : c1 (x :: Q) (i + 1) (W.testBit (k + 1 + i)) = c1 Q i (W.testBit (k + 1 + i)) := by simp [c1]
    rw [e1]
    cases i with
    | zero =>
      have e2 : c2 (x :: Q) 0 (W.testBit (k + 0)) r = (W.testBit k && !x.many && takesR x r) := by simp [c2]
      rw [decide_eq_true (show k + 1 = k + 1 + 0 by omega)]
      simp only [e2, Bool.true_and, Bool.or_false]
      generalize (W.testBit k && !x.many && takesR x r) = C
      generalize c1 Q 0 (W.testBit (k + 1 + 0)) = A
      generalize N.testBit (k + 1 + 0) = D
      cases A <;> cases C <;> cases D <;> rfl
    | succ i =>
      have e2 : c2 (x :: Q) (i + 1) (W.testBit (k + (i + 1))) r = c2 Q i (W.testBit (k + 1 + i)) r := by simp [c2, show k + (i + 1) = k + 1 + i by omega]
      rw [decide_eq_false (show ¬ k + 1 = k + 1 + (i + 1) by omega)]
      simp only [e2]
      simp

/-- What a bit says: the first pieces, a star behind them too, are all of the runes. -/
def GB (P : List Pc) (k : Nat) (R : List Nat) : Prop := match P[k]? with
  | some x => if x.many = true then Mt (P.take (k + 1)) R else Mt (P.take k) R
  | none => Mt (P.take k) R

theorem GB_star {P : List Pc} {k : Nat} {R : List Nat} (h : k < P.length) (hm : P[k].many = true) : GB P k R ↔ Mt (P.take (k + 1)) R := by
  unfold GB; rw [List.getElem?_eq_getElem h]; simp [hm]
theorem GB_one {P : List Pc} {k : Nat} {R : List Nat} (h : k < P.length) (hm : P[k].many = false) : GB P k R ↔ Mt (P.take k) R := by
  unfold GB; rw [List.getElem?_eq_getElem h]; simp [hm]
theorem GB_end {P : List Pc} {R : List Nat} : GB P P.length R ↔ Mt P R := by
  unfold GB; rw [List.getElem?_eq_none (Nat.le_refl _)]; simp

/-- The bits behind the first stars. -/
theorem bits_start (P : List Pc) : ∀ k, k ≤ P.length → ((skipF P 0 1).testBit k = true ↔ GB P k [])
  | 0, _ => by
    rw [skipF_low P 0 1 0 (Nat.le_refl _)]
    simp only [show (1 : Nat).testBit 0 = true from rfl, true_iff]
    by_cases h : 0 < P.length
    · cases hm : P[0].many with
      | true =>
        rw [GB_star h hm, List.take_succ_eq_append_getElem h]
        exact Mt.snoc_none.2 ⟨hm, .nil⟩
      | false => rw [GB_one h hm]; exact .nil
    · have : P = [] := List.length_eq_zero_iff.1 (by omega)
      subst this; exact .nil
  | k + 1, hk => by
    have ih := bits_start P k (by omega)
    have hn := skipF_next P 0 1 k (by omega)
    rw [show 0 + k + 1 = k + 1 by omega, show 0 + k = k by omega] at hn
    have h1 : (1 : Nat).testBit (k + 1) = false := by simp [Nat.testBit_succ]
    rw [hn, h1, Bool.false_or, Bool.and_eq_true, ih]
    have hT : Mt (P.take (k + 1)) [] ↔ P[k].many = true ∧ Mt (P.take k) [] := by rw [List.take_succ_eq_append_getElem (by omega)]; exact Mt.snoc_none
    have hG : GB P (k + 1) [] ↔ Mt (P.take (k + 1)) [] := by
      by_cases h : k + 1 < P.length
      · cases hm : P[k + 1].many with
        | true =>
          rw [GB_star h hm, List.take_succ_eq_append_getElem h]
          exact ⟨fun h => (Mt.snoc_none.1 h).2, fun h => Mt.snoc_none.2 ⟨hm, h⟩⟩
        | false => exact GB_one h hm
      · have e : k + 1 = P.length := by omega
        rw [e, GB_end, List.take_length]
    rw [hG, hT]
    constructor
    · rintro ⟨hm, hg⟩
      refine ⟨hm, ?_⟩
      rw [GB_star (by omega) hm] at hg
      exact (hT.1 hg).2
    · rintro ⟨hm, hg⟩
      refine ⟨hm, ?_⟩
      rw [GB_star (by omega) hm]
      exact hT.2 ⟨hm, hg⟩

/-- The bits behind one more rune. -/
theorem bits_next (P : List Pc) (W r : Nat) (R : List Nat) (hW : ∀ k, k ≤ P.length → (W.testBit k = true ↔ GB P k R)) : ∀ k, k ≤ P.length → ((skipF P 0 (stepF r W P 0 0)).testBit k = true ↔ GB P k (R ++ [r])) := by
  -- the first pieces are all of the runes, the new one with them
  have key : ∀ k, k ≤ P.length → ((skipF P 0 (stepF r W P 0 0)).testBit k = true ↔ (c1 P k (W.testBit k) = true ∨ Mt (P.take k) (R ++ [r]))) ∧ ((c1 P k (W.testBit k) = true ∨ Mt (P.take k) (R ++ [r])) ↔ GB P k (R ++ [r])) := by
    intro k
    induction k with
    | zero =>
      intro hk
      have hG : (c1 P 0 (W.testBit 0) = true ∨ Mt (P.take 0) (R ++ [r])) ↔ GB P 0 (R ++ [r]) := by
        have hno : ¬ Mt (P.take 0) (R ++ [r]) := by rw [List.take_zero, Mt.nil_iff]; simp
        by_cases h : 0 < P.length
        · cases hm : P[0].many with
          | true =>
            rw [GB_star h hm, List.take_succ_eq_append_getElem h, Mt.snoc_star hm]
            have : c1 P 0 (W.testBit 0) = true ↔ Mt (P.take 0 ++ [P[0]]) R := by
              unfold c1; rw [List.getElem?_eq_getElem h]; simp only [hm, Bool.and_true]
              rw [hW 0 (by omega), GB_star h hm, List.take_succ_eq_append_getElem h]
            rw [this]; exact Or.comm
          | false =>
            rw [GB_one h hm]
            have : c1 P 0 (W.testBit 0) = false := by unfold c1; rw [List.getElem?_eq_getElem h]; simp [hm]
            rw [this]
            exact ⟨fun h => h.resolve_left (by simp), Or.inr⟩
        · have : P = [] := List.length_eq_zero_iff.1 (by omega)
          subst this; simp [c1, GB]
      refine ⟨?_, hG⟩
      rw [skipF_low P 0 _ 0 (Nat.le_refl _)]
      have := stepF_bit r W P 0 0 0
      simp only [Nat.add_zero] at this
      rw [this]
      have hno : ¬ Mt (P.take 0) (R ++ [r]) := by rw [List.take_zero, Mt.nil_iff]; simp
      rw [Nat.zero_testBit, Bool.false_or, Bool.or_false]
      exact ⟨Or.inl, fun h => h.resolve_right hno⟩
    | succ k ih =>
      intro hk
      obtain ⟨ih1, ih2⟩ := ih (by omega)
      have hkl : k < P.length := by omega
      have hT : Mt (P.take (k + 1)) (R ++ [r]) ↔ (P[k].many = true ∧ (skipF P 0 (stepF r W P 0 0)).testBit k = true) ∨ c2 P k (W.testBit k) r = true := by
        cases hm : P[k].many with
        | true =>
          have h2 : c2 P k (W.testBit k) r = false := by unfold c2; rw [List.getElem?_eq_getElem hkl]; simp [hm]
          rw [ih1, ih2, GB_star hkl hm, h2]; simp
        | false =>
          have h2 : c2 P k (W.testBit k) r = true ↔ Mt (P.take k) R ∧ takesR P[k] r = true := by
            unfold c2; rw [List.getElem?_eq_getElem hkl]; simp only [hm, Bool.not_false, Bool.and_true, Bool.and_eq_true]
            rw [hW k (by omega), GB_one hkl hm]
          rw [List.take_succ_eq_append_getElem hkl, Mt.snoc_one hm, h2]; simp
      have hbit : (skipF P 0 (stepF r W P 0 0)).testBit (k + 1) = true ↔ (c1 P (k + 1) (W.testBit (k + 1)) = true ∨ Mt (P.take (k + 1)) (R ++ [r])) := by
        have hn := skipF_next P 0 (stepF r W P 0 0) k hkl
        rw [show 0 + k + 1 = k + 1 by omega, show 0 + k = k by omega] at hn
        have hs := stepF_bit r W P 0 0 (k + 1)
        simp only [Nat.zero_add, Nat.zero_testBit, Bool.false_or] at hs
        rw [hn, hs, hT]
        simp only [Bool.or_eq_true, Bool.and_eq_true]
        constructor
        · rintro ((h | h) | h)
          · exact Or.inl h
          · exact Or.inr (Or.inr h)
          · exact Or.inr (Or.inl h)
        · rintro (h | h | h)
          · exact Or.inl (Or.inl h)
          · exact Or.inr h
          · exact Or.inl (Or.inr h)
      refine ⟨hbit, ?_⟩
      by_cases h : k + 1 < P.length
      · cases hm : P[k + 1].many with
        | true =>
          rw [GB_star h hm, List.take_succ_eq_append_getElem h, Mt.snoc_star hm]
          have : c1 P (k + 1) (W.testBit (k + 1)) = true ↔ Mt (P.take (k + 1) ++ [P[k + 1]]) R := by
            unfold c1; rw [List.getElem?_eq_getElem h]; simp only [hm, Bool.and_true]
            rw [hW (k + 1) (by omega), GB_star h hm, List.take_succ_eq_append_getElem h]
          rw [this]; exact Or.comm
        | false =>
          rw [GB_one h hm]
          have : c1 P (k + 1) (W.testBit (k + 1)) = false := by unfold c1; rw [List.getElem?_eq_getElem h]; simp [hm]
          simp [this]
      · have e : k + 1 = P.length := by omega
        have : c1 P (k + 1) (W.testBit (k + 1)) = false := by unfold c1; rw [List.getElem?_eq_none (by omega)]
        rw [this, e, GB_end, List.take_length]; simp
  exact fun k hk => (key k hk).1.trans (key k hk).2

theorem takW_bits (P : List Pc) (R : List Nat) : ∀ k, k ≤ P.length → ((takW P R).testBit k = true ↔ GB P k R) := by
  have gen : ∀ (R S : List Nat), (∀ k, k ≤ P.length → ((takW P S).testBit k = true ↔ GB P k S)) → ∀ k, k ≤ P.length → ((takW P (S ++ R)).testBit k = true ↔ GB P k (S ++ R)) := by
    intro R
    induction R with
    | nil => intro S h; simpa using h
    | cons r R ih =>
      intro S h
      have := ih (S ++ [r]) (by rw [takW_snoc]; exact bits_next P _ r S h)
      simpa using this
  have := gen R [] (bits_start P)
  simpa using this

/-- takeAll answers whether the pieces are all of the runes, in order. -/
theorem takR_iff (P : List Pc) (R : List Nat) : takR P R = true ↔ Mt P R := by
  unfold takR
  rw [takW_bits P R P.length (Nat.le_refl _), GB_end]

end Go.Proofs.Ytmijhgecdkdkmaa
