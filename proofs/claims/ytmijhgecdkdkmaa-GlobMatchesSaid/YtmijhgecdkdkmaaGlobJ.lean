/-
  Plain mathematics: two patterns, one behind the other.
-/
import Derived.Test.YtmijhgecdkdkmaaGlobW
set_option linter.unusedVariables false
namespace Go.Proofs.Ytmijhgecdkdkmaa
open Go.RowKit

theorem bareAt_app {S T : List Sg} {k r : Nat} (h : k < S.length) : bareAt (S ++ T) k r = bareAt S k r := by
  unfold bareAt; rw [List.getElem?_append_left h]

theorem bareAt_two {S : List Sg} {k r r' : Nat} (h : bareAt S k r = true) (hne : r ≠ r') : bareAt S k r' = false := by
  unfold bareAt at *
  cases hx : S[k]? with
  | none => rfl
  | some x =>
    rw [hx] at h
    simp only [Bool.and_eq_true, beq_iff_eq] at h
    simp only [h.1, Bool.and_eq_false_iff, beq_eq_false_iff_ne]
    exact Or.inl hne

theorem getD_app {S T : List Sg} {k : Nat} (h : k < S.length) : (S ++ T).getD k (0, false) = S.getD k (0, false) := by
  rw [List.getD_eq_getElem?_getD, List.getD_eq_getElem?_getD, List.getElem?_append_left h]

theorem spanF_app {S T : List Sg} {k : Nat} (h : k < S.length) (hc : k + 2 < S.length ∨ bareAt (S ++ T) (k + 1) 45 = false) : spanF (S ++ T) k = spanF S k := by
  unfold spanF
  simp only [getD_app h]
  by_cases h2 : k + 2 < S.length
  · rw [bareAt_app (show k + 1 < S.length by omega), bareAt_app h2, getD_app h2]
    have : k + 2 < (S ++ T).length := by rw [List.length_append]; omega
    simp only [h2, this, true_and]
  · have hc := hc.resolve_left h2
    rw [if_neg (by simp [hc]), if_neg (by simp [h2])]

/-- A set that has ended goes on to be one, whatever stands behind it. -/
theorem setL_app : ∀ (f g : Nat) (S T : List Sg) (first k : Nat) (acc : List (Nat × Nat)) (x : List (Nat × Nat) × Nat), first ≤ k → f ≤ g → setL f S first k acc = some x → setL g (S ++ T) first k acc = some x
  | 0, _, _, _, _, _, _, _, _, _, h => by simp [setL] at h
  | f + 1, 0, _, _, _, _, _, _, _, hg, _ => by omega
  | f + 1, g + 1, S, T, first, k, acc, x, hk, hg, h => by
    rw [setL] at h ⊢
    by_cases hl : k < S.length
    · rw [if_pos hl] at h
      rw [if_pos (by rw [List.length_append]; omega), bareAt_app hl, bareAt_app hl]
      by_cases h93 : bareAt S k 93 = true
      · rw [if_pos h93] at h ⊢; exact h
      · rw [if_neg h93] at h ⊢
        by_cases hd : bareAt S k 45 = true ∧ k ≠ first ∧ bareAt S (k + 1) 93 = false
        · rw [if_pos hd] at h; simp at h
        · rw [if_neg hd] at h
          have hd' : ¬ (bareAt S k 45 = true ∧ k ≠ first ∧ bareAt (S ++ T) (k + 1) 93 = false) := by
            rintro ⟨c1, c2, c3⟩
            apply hd
            refine ⟨c1, c2, ?_⟩
            by_cases h1 : k + 1 < S.length
            · rwa [bareAt_app h1] at c3
            · exact bareAt_ge (by omega)
          rw [if_neg hd']
          have hs : spanF (S ++ T) k = spanF S k := by
            apply spanF_app hl
            by_cases h2 : k + 2 < S.length
            · exact Or.inl h2
            · right
              -- else the set would not have ended
              have hw : (spanF S k).2 = 1 := by rcases spanF_w S k with h | ⟨_, h⟩
                                                · exact h
                                                · exact absurd h h2
              have hov : ¬ (spanF S k).1.2 < (spanF S k).1.1 := by intro c; rw [if_pos c] at h; simp at h
              rw [if_neg hov, hw] at h
              by_cases h1 : k + 1 < S.length
              · rw [bareAt_app h1]
                cases hb : bareAt S (k + 1) 45 with
                | false => rfl
                | true =>
                  exfalso
                  have n93 := bareAt_two hb (show 45 ≠ 93 by omega)
                  have n94 : bareAt S (k + 1 + 1) 93 = false := bareAt_ge (by omega)
                  cases f with
                  | zero => simp [setL] at h
                  | succ f =>
                    rw [setL_dash h1 n93 hb (by omega) n94] at h
                    simp at h
              · rw [setL_past h1] at h; simp at h
          rw [hs]
          by_cases hov : (spanF S k).1.2 < (spanF S k).1.1
          · rw [if_pos hov] at h; simp at h
          · rw [if_neg hov] at h ⊢
            exact setL_app f g S T first _ _ x (by omega) (by omega) h
    · rw [if_neg hl] at h; simp at h

theorem setR_app {S T : List Sg} {x : Pc} {n : Nat} (h : setR S = (x, n)) (hn : n ≠ 0) : setR (S ++ T) = (x, n) := by
  unfold setR at h
  cases hs : setL S.length S (setFirst S) (setFirst S) [] with
  | none => rw [hs] at h; simp at h; exact absurd h.2.symm hn
  | some y =>
    rw [hs] at h
    have h1 : 1 < S.length := by
      apply Nat.lt_of_not_le
      intro hle
      have : setFirst S = 1 := by unfold setFirst; rw [bareAt_ge (by omega)]; simp
      rw [this, setL_past (by omega)] at hs
      simp at hs
    have hb : bareAt (S ++ T) 1 94 = bareAt S 1 94 := bareAt_app h1
    have hf : setFirst (S ++ T) = setFirst S := by unfold setFirst; rw [hb]
    have := setL_app S.length (S ++ T).length S T (setFirst S) (setFirst S) [] y (Nat.le_refl _) (by rw [List.length_append]; omega) hs
    unfold setR
    rw [hf, this, hb]
    exact h

theorem headR_app {S T : List Sg} {x : Pc} {n : Nat} (hne : S ≠ []) (h : headR S = (x, n)) (hn : n ≠ 0) : headR (S ++ T) = (x, n) := by
  have h0 : 0 < S.length := List.length_pos_iff.2 hne
  unfold headR at h ⊢
  rw [bareAt_app h0, bareAt_app h0, bareAt_app h0, getD_app h0]
  split at h
  · rename_i c; rw [if_pos c]; exact h
  · rename_i c
    rw [if_neg c]
    split at h
    · rename_i c; rw [if_pos c]; exact h
    · rename_i c
      rw [if_neg c]
      split at h
      · rename_i c; rw [if_pos c]; exact setR_app h hn
      · rename_i c; rw [if_neg c]; exact h

theorem pcF_fuel : ∀ (f g : Nat) (S : List Sg) (P : List Pc), f ≤ g → pcF f S = some P → pcF g S = some P
  | 0, g, S, P, _, h => by
    unfold pcF at h
    split at h
    · rename_i hS; subst hS; rw [pcF_nil]; exact h
    · simp at h
  | f + 1, 0, S, P, hg, _ => by omega
  | f + 1, g + 1, S, P, hg, h => by
    by_cases hS : S = []
    · subst hS; rw [pcF_nil] at h ⊢; exact h
    · obtain ⟨⟨x, n⟩, hx⟩ : ∃ y, headR S = y := ⟨_, rfl⟩
      by_cases hn : n = 0
      · subst hn; rw [pcF_zero hS hx] at h; simp at h
      · rw [pcF_more hS hx hn] at h ⊢
        obtain ⟨P', hP, rfl⟩ := Option.map_eq_some_iff.1 h
        rw [pcF_fuel f g _ P' (by omega) hP]; rfl

theorem pcF_app : ∀ (f g : Nat) (S T : List Sg) (P Q : List Pc), pcF f S = some P → pcF g T = some Q → pcF (f + g) (S ++ T) = some (P ++ Q)
  | 0, g, S, T, P, Q, h, k => by
    unfold pcF at h
    split at h
    · rename_i hS; subst hS; simp at h; subst h; simpa using k
    · simp at h
  | f + 1, g, S, T, P, Q, h, k => by
    by_cases hS : S = []
    · subst hS; rw [pcF_nil] at h; simp at h; subst h
      exact pcF_fuel g _ T Q (by omega) k
    · obtain ⟨⟨x, n⟩, hx⟩ : ∃ y, headR S = y := ⟨_, rfl⟩
      by_cases hn : n = 0
      · subst hn; rw [pcF_zero hS hx] at h; simp at h
      · rw [pcF_more hS hx hn] at h
        obtain ⟨P', hP, rfl⟩ := Option.map_eq_some_iff.1 h
        have hb := headR_bound hS
        rw [hx] at hb
        simp only at hb
        have hne : S ++ T ≠ [] := by simp [hS]
        rw [show f + 1 + g = (f + g) + 1 by omega, pcF_more hne (headR_app hS hx hn) hn, List.drop_append_of_le_length hb, pcF_app f g _ T P' Q hP k]
        rfl

theorem sgRun_app (R R' : List Nat) (h : (sgRun R).2 = true) : sgRun (R ++ R') = ((sgRun R).1 ++ (sgRun R').1, (sgRun R').2) := by
  have gen : ∀ (R' : List Nat) (S A : List Sg) (b : Bool), R'.foldl sgStep (S ++ A, b) = (S ++ (R'.foldl sgStep (A, b)).1, (R'.foldl sgStep (A, b)).2) := by
    intro R'
    induction R' with
    | nil => intro S A b; rfl
    | cons r R' ih =>
      intro S A b
      simp only [List.foldl_cons]
      have : sgStep (S ++ A, b) r = (S ++ (sgStep (A, b) r).1, (sgStep (A, b) r).2) := by
        unfold sgStep; simp only; split <;> simp
      rw [this]
      exact ih S _ _
  have e : sgRun R = ((sgRun R).1, true) := by rw [← h]
  unfold sgRun at e ⊢
  rw [List.foldl_append, e]
  have := gen R' (R.foldl sgStep ([], true)).1 [] true
  rw [List.append_nil] at this
  exact this

theorem runesOf_app (a b : List (List UInt8)) : runesOf (a ++ b) = runesOf a ++ runesOf b := by simp [runesOf]

theorem patR_parts {l : List UInt8} {P : List Pc} (h : patR l = some P) : valid l = true ∧ (pieces l).length ≤ 40 ∧ (sgRun (runesOf (pieces l))).2 = true ∧ pcF (sgRun (runesOf (pieces l))).1.length (sgRun (runesOf (pieces l))).1 = some P := by
  unfold patR at h
  split at h
  · rename_i hc
    split at h
    · rename_i hs; exact ⟨hc.1, hc.2, hs, h⟩
    · simp at h
  · simp at h

theorem patR_app {p q : List UInt8} {P Q : List Pc} (hp : patR p = some P) (hq : patR q = some Q) (hc : (pieces p).length + (pieces q).length ≤ 40) : patR (p ++ q) = some (P ++ Q) := by
  obtain ⟨v1, _, s1, p1⟩ := patR_parts hp
  obtain ⟨v2, _, s2, p2⟩ := patR_parts hq
  have hpc := pieces_append p q v1
  unfold patR
  rw [if_pos ⟨valid_append _ _ v1 v2, by rw [hpc, List.length_append]; exact hc⟩, hpc, runesOf_app, sgRun_app _ _ s1]
  simp only
  rw [if_pos s2, List.length_append]
  exact pcF_app _ _ _ _ _ _ p1 p2

/-- Two patterns, each of which takes a text: both together take both. -/
theorem matR_app {p q s t : List UInt8} {P Q : List Pc} (hp : patR p = some P) (hq : patR q = some Q) (hc : (pieces p).length + (pieces q).length ≤ 40) (h1 : matR p s = true) (h2 : matR q t = true) : matR (p ++ q) (s ++ t) = true := by
  unfold matR at *
  rw [hp] at h1
  rw [hq] at h2
  simp only [Bool.and_eq_true] at h1 h2
  rw [patR_app hp hq hc]
  simp only [Bool.and_eq_true]
  refine ⟨valid_append _ _ h1.1 h2.1, ?_⟩
  rw [pieces_append s t h1.1, runesOf_app, takR_iff]
  exact ((takR_iff _ _).1 h1.2).append ((takR_iff _ _).1 h2.2)

end Go.Proofs.Ytmijhgecdkdkmaa
