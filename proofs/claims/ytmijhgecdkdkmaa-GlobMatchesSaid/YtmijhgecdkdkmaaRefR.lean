/-
  Plain mathematics: patterns as the reference reads them are those of glob.
-/
import Derived.Test.YtmijhgecdkdkmaaRefP
import Derived.Test.YtmijhgecdkdkmaaGlobL
set_option linter.unusedVariables false
namespace Go.Proofs.Ytmijhgecdkdkmaa
open Go.RowKit

theorem bareAt_drop (S : List Sg) (k j r : Nat) : bareAt S (k + j) r = bareAt (S.drop k) j r := by
  unfold bareAt; rw [List.getElem?_drop]

theorem bare_head (s : Sg) (U : List Sg) (r : Nat) : bareAt (s :: U) 0 r = true ↔ s = (r, true) := by
  rw [bareAt_zero, Bool.and_eq_true, beq_iff_eq]
  constructor
  · rintro ⟨h1, h2⟩; exact Prod.ext h1 h2
  · rintro rfl; exact ⟨rfl, rfl⟩
theorem bare_head? (U : List Sg) (r : Nat) : bareAt U 0 r = true ↔ U.head? = some (r, true) := by
  cases U with
  | nil => simp [bareAt]
  | cons s U => rw [bare_head]; simp

theorem spanF_drop {S U : List Sg} {s : Sg} {k : Nat} (h : S.drop k = s :: U) : (spanF S k).1 = (spS (s :: U)).1 ∧ S.drop (k + (spanF S k).2) = (spS (s :: U)).2 ∧ 1 ≤ (spanF S k).2 := by
  have hk : k < S.length := by
    apply Nat.lt_of_not_le
    intro hle
    rw [List.drop_of_length_le hle] at h
    cases h
  have hlen : S.length = k + 1 + U.length := by
    have := congrArg List.length h
    rw [List.length_drop, List.length_cons] at this
    omega
  have hs : S.getD k (0, false) = s := by
    have : S[k]? = (S.drop k)[0]? := by rw [List.getElem?_drop, Nat.add_zero]
    rw [List.getD_eq_getElem?_getD, this, h]; rfl
  have h1 : bareAt S (k + 1) 45 = bareAt U 0 45 := by rw [bareAt_drop, h]; rfl
  have h2 : bareAt S (k + 2) 93 = bareAt U 1 93 := by rw [bareAt_drop, h]; rfl
  have hd1 : S.drop (k + 1) = U := by rw [← List.drop_drop, h]; rfl
  by_cases hc : k + 2 < S.length ∧ bareAt S (k + 1) 45 = true ∧ bareAt S (k + 2) 93 = false
  · obtain ⟨c1, c2, c3⟩ := hc
    rw [h1, bare_head?] at c2
    rw [h2] at c3
    cases U with
    | nil => simp at c2
    | cons d V =>
      simp at c2; subst c2
      cases V with
      | nil => simp at hlen; omega
      | cons u V =>
        have hu : u ≠ (93, true) := by
          intro e
          have : bareAt ((45, true) :: u :: V) 1 93 = true := by
            have := bareAt_drop ((45, true) :: u :: V) 1 0 93
            rw [this]; exact (bare_head u V 93).2 e
          rw [this] at c3; cases c3
        have hd2 : S.getD (k + 2) (0, false) = u := by
          have : S[k + 2]? = (S.drop k)[2]? := by rw [List.getElem?_drop]
          rw [List.getD_eq_getElem?_getD, this, h]; rfl
        have hsp : spanF S k = ((s.1, u.1), 3) := by
          unfold spanF
          simp only [hs, hd2]
          rw [if_pos ⟨c1, by rw [h1]; exact (bare_head? _ _).2 rfl, by rw [h2]; exact c3⟩]
        rw [spS_two hu, hsp]
        refine ⟨rfl, ?_, by omega⟩
        rw [← List.drop_drop, h]; rfl
  · have hsp : spanF S k = ((s.1, s.1), 1) := by
      unfold spanF
      simp only [hs]
      rw [if_neg hc]
    rw [hsp, spS_one (s := s) (U := U) (by
      intro u V hU
      subst hU
      apply Classical.byContradiction
      intro hu
      apply hc
      refine ⟨by simp at hlen; omega, by rw [h1]; exact (bare_head? _ _).2 rfl, ?_⟩
      rw [h2]
      apply Bool.eq_false_iff.2
      intro h3
      have := bareAt_drop ((45, true) :: u :: V) 1 0 93
      rw [this] at h3
      exact hu ((bare_head u V 93).1 h3))]
    exact ⟨rfl, hd1, Nat.le_refl _⟩

theorem setL_setS : ∀ (f : Nat) (S : List Sg) (first k : Nat) (acc : List (Nat × Nat)), first ≤ k →
    setL f S first k acc = (setS f (k == first) (S.drop k) acc).map fun x => (x.1, S.length - x.2.length)
  | 0, _, _, _, _, _ => rfl
  | f + 1, S, first, k, acc, hk => by
    by_cases hl : k < S.length
    · obtain ⟨s, U, hd⟩ : ∃ s U, S.drop k = s :: U := by
        cases h : S.drop k with
        | nil => have := congrArg List.length h; simp at this; omega
        | cons s U => exact ⟨s, U, rfl⟩
      have hlen : S.length = k + 1 + U.length := by
        have := congrArg List.length hd
        rw [List.length_drop, List.length_cons] at this
        omega
      have h93 : bareAt S k 93 = true ↔ s = (93, true) := by have := bareAt_drop S k 0 93; rw [Nat.add_zero] at this; rw [this, hd, bare_head]
      have h45 : bareAt S k 45 = true ↔ s = (45, true) := by have := bareAt_drop S k 0 45; rw [Nat.add_zero] at this; rw [this, hd, bare_head]
      have hn93 : bareAt S (k + 1) 93 = false ↔ U.head? ≠ some (93, true) := by
        have : bareAt S (k + 1) 93 = bareAt U 0 93 := by rw [bareAt_drop, hd]; rfl
        rw [this, Bool.eq_false_iff]
        exact not_congr (bare_head? U 93)
      rw [setL, if_pos hl, hd, setS]
      by_cases c1 : s = (93, true)
      · rw [if_pos (h93.2 c1), if_pos c1]
        by_cases c2 : k = first
        · rw [if_pos c2, if_pos (by simp [c2])]; rfl
        · rw [if_neg c2, if_neg (by simp [c2])]
          simp only [Option.map_some]
          congr 2; omega
      · rw [if_neg (fun h => c1 (h93.1 h)), if_neg c1]
        have hdash : (bareAt S k 45 = true ∧ k ≠ first ∧ bareAt S (k + 1) 93 = false) ↔ (s = (45, true) ∧ (k == first) = false ∧ U.head? ≠ some (93, true)) := by
          rw [h45, hn93]; simp
        by_cases c2 : s = (45, true) ∧ (k == first) = false ∧ U.head? ≠ some (93, true)
        · rw [if_pos (hdash.2 c2), if_pos c2]; rfl
        · rw [if_neg (fun h => c2 (hdash.1 h)), if_neg c2]
          obtain ⟨e1, e2, e3⟩ := spanF_drop hd
          rw [e1]
          by_cases c3 : (spS (s :: U)).1.2 < (spS (s :: U)).1.1
          · rw [if_pos c3, if_pos c3]; rfl
          · rw [if_neg c3, if_neg c3, setL_setS f S first _ _ (by omega), e2, show (k + (spanF S k).2 == first) = false by simp; omega]
    · rw [setL_past hl, List.drop_of_length_le (by omega)]; rfl

theorem item_less {T T2 : List Nat} {x : Nat} (h : item T = some (x, T2)) : T2.length < T.length := by
  obtain ⟨b, _, ⟨_, e, _⟩ | ⟨_, e⟩⟩ := item_signs h
  · rw [e]; simp
  · rw [e]; simp; omega
theorem dash_less {T T2 : List Nat} (h : dash T = some T2) : T2.length < T.length := by
  unfold dash at h
  split at h
  · split at h
    · simp at h
    · simp at h; rw [← h]; simp
  · simp at h

theorem rsS_fuel : ∀ (f g : Nat) (first : Bool) (T : List Nat) (acc : List (Nat × Nat)), T.length ≤ f → T.length ≤ g → rsS f first T acc = rsS g first T acc
  | f, g, first, [], acc, _, _ => by cases f <;> cases g <;> rfl
  | 0, g, first, r :: T, acc, hf, _ => by simp at hf
  | f + 1, 0, first, r :: T, acc, _, hg => by simp at hg
  | f + 1, g + 1, first, r :: T, acc, hf, hg => by
    rw [rsS, rsS]
    split
    · rfl
    · split
      · rfl
      · cases hi : item (r :: T) with
        | none => rfl
        | some y =>
          obtain ⟨x, T2⟩ := y
          have h2 := item_less hi
          simp only
          cases hd : dash T2 with
          | none => exact rsS_fuel f g false T2 _ (by omega) (by omega)
          | some T3 =>
            have h3 := dash_less hd
            simp only
            cases hi2 : item T3 with
            | none => rfl
            | some q =>
              obtain ⟨y, T4⟩ := q
              have h4 := item_less hi2
              simp only
              split
              · rfl
              · exact rsS_fuel f g false T4 _ (by omega) (by omega)

theorem spS_less (s : Sg) (U : List Sg) : (spS (s :: U)).2.length ≤ U.length ∧ ∃ k, (spS (s :: U)).2 = (s :: U).drop k := by
  unfold spS
  split
  · rename_i h1; simp at h1
  · rename_i s' u V heq
    simp at heq
    obtain ⟨rfl, rfl⟩ := heq
    split
    · exact ⟨Nat.le_refl _, 1, rfl⟩
    · exact ⟨by simp; omega, 3, rfl⟩
  · rename_i heq
    simp at heq
    obtain ⟨rfl, rfl⟩ := heq
    exact ⟨Nat.le_refl _, 1, rfl⟩

theorem setS_fuel : ∀ (f g : Nat) (first : Bool) (U : List Sg) (acc : List (Nat × Nat)), U.length ≤ f → U.length ≤ g → setS f first U acc = setS g first U acc
  | f, g, first, [], acc, _, _ => by cases f <;> cases g <;> rfl
  | 0, g, first, s :: U, acc, hf, _ => by simp at hf
  | f + 1, 0, first, s :: U, acc, _, hg => by simp at hg
  | f + 1, g + 1, first, s :: U, acc, hf, hg => by
    rw [setS, setS]
    split
    · rfl
    · split
      · rfl
      · split
        · rfl
        · have := (spS_less s U).1
          simp at hf hg
          exact setS_fuel f g false _ _ (by omega) (by omega)

theorem setS_suffix : ∀ (f : Nat) (first : Bool) (U : List Sg) (acc a : List (Nat × Nat)) (U' : List Sg), setS f first U acc = some (a, U') → ∃ k, U' = U.drop k
  | 0, _, _, _, _, _, h => by simp [setS] at h
  | f + 1, first, [], acc, a, U', h => by simp [setS] at h
  | f + 1, first, s :: U, acc, a, U', h => by
    rw [setS] at h
    split at h
    · split at h
      · simp at h
      · simp at h; exact ⟨1, by rw [← h.2]; rfl⟩
    · split at h
      · simp at h
      · split at h
        · simp at h
        · obtain ⟨k, hk⟩ := setS_suffix f _ _ _ _ _ h
          obtain ⟨m, hm⟩ := (spS_less s U).2
          exact ⟨m + k, by rw [hk, hm, List.drop_drop]⟩

theorem rsS_rest : ∀ (f : Nat) (first : Bool) (T : List Nat) (acc a : List (Nat × Nat)) (T' : List Nat), rsS f first T acc = some (a, T') → T'.length < T.length
  | 0, _, _, _, _, _, h => by simp [rsS] at h
  | f + 1, first, [], acc, a, T', h => by simp [rsS] at h
  | f + 1, first, r :: T, acc, a, T', h => by
    rw [rsS] at h
    split at h
    · split at h
      · simp at h
      · simp at h; rw [← h.2]; simp
    · split at h
      · simp at h
      · cases hi : item (r :: T) with
        | none => rw [hi] at h; simp at h
        | some y =>
          obtain ⟨x, T2⟩ := y
          rw [hi] at h
          simp only at h
          have h2 : T2.length < (r :: T).length := by
            exact item_less hi
          cases hd : dash T2 with
          | none => rw [hd] at h; exact Nat.lt_trans (rsS_rest f _ _ _ _ _ h) h2
          | some T3 =>
            rw [hd] at h
            simp only at h
            have h3 : T3.length < T2.length := by
              exact dash_less hd
            cases hi2 : item T3 with
            | none => rw [hi2] at h; simp at h
            | some q =>
              obtain ⟨y, T4⟩ := q
              rw [hi2] at h
              simp only at h
              have h4 : T4.length < T3.length := by
                exact item_less hi2
              split at h
              · simp at h
              · exact Nat.lt_trans (rsS_rest f _ _ _ _ _ h) (by omega)

/-- A text's pieces as the reference reads them. -/
def rpF : Nat → List Nat → Option (List Pc)
  | _, [] => some []
  | 0, _ :: _ => none
  | f + 1, r :: T =>
    if r = 42 then (rpF f T).map (⟨[], false, true⟩ :: ·)
    else if r = 63 then (rpF f T).map (⟨[], true, false⟩ :: ·)
    else if r = 91 then
      match rsS (T.length + 1) true (if T.head? = some 94 then T.tail else T) [] with
      | none => none
      | some (sp, T') => (rpF f T').map (⟨sp, T.head? == some 94, false⟩ :: ·)
    else match item (r :: T) with
      | none => none
      | some (x, T2) => (rpF f T2).map (litP x :: ·)

theorem suffix_at {S U : List Sg} {k : Nat} (h : U = S.drop k) : S.drop (S.length - U.length) = U := by
  have hl := congrArg List.length h
  rw [List.length_drop] at hl
  by_cases hk : k ≤ S.length
  · rw [show S.length - U.length = k by omega]; exact h.symm
  · have : U = [] := List.length_eq_zero_iff.1 (by omega)
    rw [this]; simp

/-- The reference's reading of a pattern is glob's. -/
theorem rpF_same : ∀ (f g : Nat) (T : List Nat), T.length ≤ f → (sgRun T).1.length ≤ g → rpF f T = if (sgRun T).2 = true then pcF g (sgRun T).1 else none
  | f, g, [], _, _ => by
    have h0 : sgRun [] = ([], true) := rfl
    rw [h0]
    simp only [if_true]
    rw [pcF_nil]
    cases f <;> rfl
  | 0, g, r :: T, hf, _ => by simp at hf
  | f + 1, g, r :: T, hf, hg => by
    have hf' : T.length ≤ f := by simpa using hf
    rw [rpF]
    by_cases h42 : r = 42
    · subst h42
      rw [sgRun_cons T (by omega)] at hg ⊢
      obtain ⟨g, rfl⟩ : ∃ z, g = z + 1 := ⟨g - 1, by simp at hg; omega⟩
      have hh : headR ((42, true) :: (sgRun T).1) = (⟨[], false, true⟩, 1) := by unfold headR; rw [if_pos ((bare_head _ _ _).2 rfl)]
      rw [if_pos rfl, rpF_same f g T hf' (by simpa using hg)]
      simp only
      rw [pcF_more (by simp) hh (by omega), List.drop_one, List.tail_cons]
      split <;> rfl
    rw [if_neg h42]
    by_cases h63 : r = 63
    · subst h63
      rw [sgRun_cons T (by omega)] at hg ⊢
      obtain ⟨g, rfl⟩ : ∃ z, g = z + 1 := ⟨g - 1, by simp at hg; omega⟩
      have hh : headR ((63, true) :: (sgRun T).1) = (⟨[], true, false⟩, 1) := by
        unfold headR
        rw [if_neg (by rw [bare_head]; simp), if_pos ((bare_head _ _ _).2 rfl)]
      rw [if_pos rfl, rpF_same f g T hf' (by simpa using hg)]
      simp only
      rw [pcF_more (by simp) hh (by omega), List.drop_one, List.tail_cons]
      split <;> rfl
    rw [if_neg h63]
    by_cases h91 : r = 91
    · subst h91
      rw [if_pos rfl]
      rw [sgRun_cons T (by omega)] at hg ⊢
      simp only
      obtain ⟨g, rfl⟩ : ∃ z, g = z + 1 := ⟨g - 1, by simp at hg; omega⟩
      obtain ⟨S, hS⟩ : ∃ S, S = (91, true) :: (sgRun T).1 := ⟨_, rfl⟩
      have hne : S ≠ [] := by rw [hS]; simp
      have hb94 : bareAt S 1 94 = (T.head? == some 94) := by
        have := bareAt_drop S 1 0 94
        rw [Nat.add_zero] at this
        rw [this, hS, Bool.eq_iff_iff, List.drop_one, List.tail_cons, bare_head?, head_sign T 94 (by omega)]
        simp
      have hhd : headR S = setR S := by
        unfold headR
        rw [hS, if_neg (by rw [bare_head]; simp), if_neg (by rw [bare_head]; simp), if_pos ((bare_head _ _ _).2 rfl)]
      obtain ⟨T0, hT0⟩ : ∃ T0, T0 = if T.head? = some 94 then T.tail else T := ⟨_, rfl⟩
      have hT0l : T0.length ≤ T.length := by rw [hT0]; split <;> simp
      have hT0s : S.drop (setFirst S) = (sgRun T0).1 ∧ (sgRun T0).2 = (sgRun T).2 := by
        unfold setFirst
        rw [hb94, hT0]
        by_cases h : T.head? = some 94
        · rw [if_pos (by simp [h]), if_pos h]
          cases T with
          | nil => simp at h
          | cons z T1 =>
            simp at h; subst h
            rw [hS, sgRun_cons T1 (by omega)]
            exact ⟨rfl, rfl⟩
        · rw [if_neg (by simp [h]), if_neg h, hS]
          exact ⟨rfl, rfl⟩
      rw [← hT0]
      rw [← hS]
      have hsame := set_same (S.length + T.length + 1) true T0 []
      have hrf := rsS_fuel (T.length + 1) (S.length + T.length + 1) true T0 [] (by omega) (by omega)
      have hsl : (sgRun T0).1.length ≤ S.length := by rw [← hT0s.1, List.length_drop]; omega
      have hsf := setS_fuel S.length (S.length + T.length + 1) true (sgRun T0).1 [] hsl (by omega)
      have hLS := setL_setS S.length S (setFirst S) (setFirst S) [] (Nat.le_refl _)
      rw [beq_self_eq_true, hT0s.1, hsf] at hLS
      rw [hrf]
      cases hr : rsS (S.length + T.length + 1) true T0 [] with
      | none =>
        simp only
        rcases hsame.2 hr with h | h
        · rw [h] at hLS
          have h0 : headR S = (⟨[], false, false⟩, 0) := by rw [hhd]; unfold setR; rw [hLS]; rfl
          rw [pcF_zero hne h0]
          simp
        · rw [hT0s.2] at h
          rw [if_neg (by simp [h])]
      | some y =>
        obtain ⟨sp, T'⟩ := y
        simp only
        obtain ⟨k1, k2⟩ := hsame.1 sp T' hr
        rw [k1] at hLS
        obtain ⟨m, hm⟩ := setS_suffix _ _ _ _ _ _ k1
        have hsuf : (sgRun T').1 = S.drop (setFirst S + m) := by rw [hm, ← hT0s.1, List.drop_drop]
        have hb := (setL_bound _ _ _ _ _ _ _ hLS).1
        have h0 : headR S = (⟨sp, T.head? == some 94, false⟩, S.length - (sgRun T').1.length) := by
          rw [hhd]; unfold setR; rw [hLS, hb94]; rfl
        have hTl := rsS_rest _ _ _ _ _ _ hr
        have hSl : S.length = (sgRun T).1.length + 1 := by rw [hS]; simp
        have hgS : S.length ≤ g + 1 := by rw [hSl]; simpa using hg
        rw [pcF_more hne h0 (by simp only at hb; omega), suffix_at hsuf, rpF_same f g T' (by omega) (by simp only at hb; omega), k2, hT0s.2]
        split <;> rfl
    rw [if_neg h91]
    cases hi : item (r :: T) with
    | none =>
      rcases item_none hi with h | ⟨h, hk⟩
      · simp at h
      · simp only; rw [if_neg (by rw [hk]; simp)]
    | some y =>
      obtain ⟨x, T2⟩ := y
      obtain ⟨b, hs, hb⟩ := item_signs hi
      rw [hs] at hg ⊢
      simp only at hg ⊢
      obtain ⟨g, rfl⟩ : ∃ z, g = z + 1 := ⟨g - 1, by simp at hg; omega⟩
      have hl := item_less hi
      have no : ∀ c, c = 42 ∨ c = 63 ∨ c = 91 → ¬ bareAt ((x, b) :: (sgRun T2).1) 0 c = true := by
        intro c hc h
        rw [bare_head] at h
        simp at h
        obtain ⟨rfl, rfl⟩ := h
        rcases hb with ⟨_, e, _⟩ | ⟨e, _⟩
        · simp at e; omega
        · cases e
      have hh : headR ((x, b) :: (sgRun T2).1) = (litP x, 1) := by
        unfold headR
        rw [if_neg (no 42 (by omega)), if_neg (no 63 (by omega)), if_neg (no 91 (by omega))]
        rfl
      rw [rpF_same f g T2 (by simp at hl; omega) (by simpa using hg), pcF_more (by simp) hh (by omega), List.drop_one, List.tail_cons]
      split <;> rfl

/-- A text's pattern as the reference reads it. -/
def rPat (l : List UInt8) : Option (List Pc) :=
  if valid l = true ∧ (pieces l).length ≤ 40 then rpF (pieces l).length (runesOf (pieces l)) else none

theorem rPat_same (l : List UInt8) : rPat l = patR l := by
  unfold rPat patR
  split
  · exact rpF_same _ _ _ (by simp [runesOf]) (Nat.le_refl _)
  · rfl

end Go.Proofs.Ytmijhgecdkdkmaa
